/-
  Texts laid together: Hf.
-/
import Derived.Test.YtaejeemjndmjcaaDoorPkS16
import Derived.Test.YtaejeemjndmjcaaDoorPkS19
import Derived.Deep.RegionHeld3
/-
  A head read from its text: the program's and the specification's answers.
-/
namespace Go.Proofs.YtaejeemjndmjcaaDoor
open Go.RowKit Go.BigFrame Go.Sort
set_option linter.unusedVariables false
set_option linter.unusedSimpArgs false

set_option maxRecDepth 100000 in
set_option maxHeartbeats 1000000 in
theorem copiedH_any (x : Hd) (w : World) (hr : x.r.size ≤ 1048576) (hp : x.p.size ≤ 1048576) : Calls Tryd.prog 69 #[.agg #[.int .i64 x.h, .int .i64 x.e, .string x.r, .string x.p]] w fun e w' => e = .returned (.agg #[.int .i64 x.h, .int .i64 x.e, .string x.r, .string x.p]) ∧ Below w.heap.size w w' := by
  obtain ⟨h, e, r, p⟩ := x
  simp only at hr hp ⊢
  have hb0 : Below w.heap.size w ((w.alloc (.cells #[.int .i64 h, .int .i64 e, .string r, .string p] 25)).alloc (.cells #[.int .i64 0, .int .i64 0, .string ⟨#[]⟩, .string ⟨#[]⟩] 25)) := ((Below.refl _ _).alloc (Nat.le_refl _) _).alloc (by simp) _
  have hG1 : BH ((w.alloc (.cells #[.int .i64 h, .int .i64 e, .string r, .string p] 25)).alloc (.cells #[.int .i64 0, .int .i64 0, .string ⟨#[]⟩, .string ⟨#[]⟩] 25)) w.heap.size ⟨h, e, r, p⟩ := alloc_snd _ _ _ rfl
  have hG2 : BH ((w.alloc (.cells #[.int .i64 h, .int .i64 e, .string r, .string p] 25)).alloc (.cells #[.int .i64 0, .int .i64 0, .string ⟨#[]⟩, .string ⟨#[]⟩] 25)) (w.heap.size + 1) ⟨0, 0, ⟨#[]⟩, ⟨#[]⟩⟩ := alloc_fst _ _ (by simp)
  have hs0 : ((w.alloc (.cells #[.int .i64 h, .int .i64 e, .string r, .string p] 25)).alloc (.cells #[.int .i64 0, .int .i64 0, .string ⟨#[]⟩, .string ⟨#[]⟩] 25)).heap.size = w.heap.size + 2 := by simp
  have HK : Hid (∀ W, Below ((w.alloc (.cells #[.int .i64 h, .int .i64 e, .string r, .string p] 25)).alloc (.cells #[.int .i64 0, .int .i64 0, .string ⟨#[]⟩, .string ⟨#[]⟩] 25)).heap.size ((w.alloc (.cells #[.int .i64 h, .int .i64 e, .string r, .string p] 25)).alloc (.cells #[.int .i64 0, .int .i64 0, .string ⟨#[]⟩, .string ⟨#[]⟩] 25)) W → W.cell? ⟨w.heap.size, 2, none⟩ = some (.string r) ∧ W.cell? ⟨w.heap.size, 3, none⟩ = some (.string p)) := fun W hW => ⟨(hG1.later hW).c2, (hG1.later hW).c3⟩
  have HK1 : Hid (∀ W, Below ((w.alloc (.cells #[.int .i64 h, .int .i64 e, .string r, .string p] 25)).alloc (.cells #[.int .i64 0, .int .i64 0, .string ⟨#[]⟩, .string ⟨#[]⟩] 25)).heap.size ((w.alloc (.cells #[.int .i64 h, .int .i64 e, .string r, .string p] 25)).alloc (.cells #[.int .i64 0, .int .i64 0, .string ⟨#[]⟩, .string ⟨#[]⟩] 25)) W → BH W w.heap.size ⟨h, e, r, p⟩ ∧ BH W (w.heap.size + 1) ⟨0, 0, ⟨#[]⟩, ⟨#[]⟩⟩) := fun W hW => ⟨hG1.later hW, hG2.later hW⟩
  have HB0 : Hid (Below w.heap.size w ((w.alloc (.cells #[.int .i64 h, .int .i64 e, .string r, .string p] 25)).alloc (.cells #[.int .i64 0, .int .i64 0, .string ⟨#[]⟩, .string ⟨#[]⟩] 25)) ∧ w.heap.size ≤ ((w.alloc (.cells #[.int .i64 h, .int .i64 e, .string r, .string p] 25)).alloc (.cells #[.int .i64 0, .int .i64 0, .string ⟨#[]⟩, .string ⟨#[]⟩] 25)).heap.size) := ⟨hb0, by rw [hs0]; omega⟩
  have HKS : Hid (∀ W, BH W w.heap.size ⟨h, e, r, p⟩ → (W.setCell ⟨w.heap.size, 2, none⟩ (.string r)).cell? ⟨w.heap.size, 2, none⟩ = some (.string r) ∧ (W.setCell ⟨w.heap.size, 2, none⟩ (.string r)).cell? ⟨w.heap.size, 3, none⟩ = some (.string p)) := fun W hW => ⟨(hW.set2 r).c2, (hW.set2 r).c3⟩
  have HKT : Hid (∀ W, BH W w.heap.size ⟨h, e, r, p⟩ → ((W.setCell ⟨w.heap.size, 2, none⟩ (.string r)).setCell ⟨w.heap.size, 3, none⟩ (.string p)).cell? ⟨w.heap.size, 2, none⟩ = some (.string r) ∧ ((W.setCell ⟨w.heap.size, 2, none⟩ (.string r)).setCell ⟨w.heap.size, 3, none⟩ (.string p)).cell? ⟨w.heap.size, 3, none⟩ = some (.string p)) := fun W hW => ⟨((hW.set2 r).set3 p).c2, ((hW.set2 r).set3 p).c3⟩
  have hb : Below ((w.alloc (.cells #[.int .i64 h, .int .i64 e, .string r, .string p] 25)).alloc (.cells #[.int .i64 0, .int .i64 0, .string ⟨#[]⟩, .string ⟨#[]⟩] 25)).heap.size ((w.alloc (.cells #[.int .i64 h, .int .i64 e, .string r, .string p] 25)).alloc (.cells #[.int .i64 0, .int .i64 0, .string ⟨#[]⟩, .string ⟨#[]⟩] 25)) ((w.alloc (.cells #[.int .i64 h, .int .i64 e, .string r, .string p] 25)).alloc (.cells #[.int .i64 0, .int .i64 0, .string ⟨#[]⟩, .string ⟨#[]⟩] 25)).drew := (Below.refl _ _).drew
  clear hb0 hG1 hG2 hs0
  go_enter Tryd.func69, Tryd.ntmps69
  go_wp2
  go_region_held3 (fun W => W.cell? ⟨w.heap.size, 2, none⟩ = some (.string r) ∧ W.cell? ⟨w.heap.size, 3, none⟩ = some (.string p)) (first | (go_keep; done) | exact HK.out _ hb | exact HKS.out _ (HK1.out _ hb).1 | exact HKT.out _ (HK1.out _ hb).1) ((go_at_call 68; refine (Clone_any _ _ (by first | exact hr | exact hp)).mono ?_; rintro e1 w1 ⟨rfl, hb1'⟩; have hb := hb.trans (hb1'.mono hb.size); have t2 := (HK1.out _ hb).1.c2; have t3 := (HK1.out _ hb).1.c3; have g2 := (HK1.out _ hb).1.fz 2; have g3 := (HK1.out _ hb).1.fz 3; have t4 := ((HK1.out _ hb).1.set2 r).c3; have g4 := ((HK1.out _ hb).1.set2 r).fz 3))
  have HF : Hid (BH ((w1.setCell ⟨w.heap.size, 2, none⟩ (.string r)).setCell ⟨w.heap.size, 3, none⟩ (.string p)) w.heap.size ⟨h, e, r, p⟩ ∧ BH ((w1.setCell ⟨w.heap.size, 2, none⟩ (.string r)).setCell ⟨w.heap.size, 3, none⟩ (.string p)) (w.heap.size + 1) ⟨0, 0, ⟨#[]⟩, ⟨#[]⟩⟩ ∧ Below w.heap.size w ((w1.setCell ⟨w.heap.size, 2, none⟩ (.string r)).setCell ⟨w.heap.size, 3, none⟩ (.string p))) :=
    ⟨((HK1.out _ hb).1.set2 r).set3 p, ((HK1.out _ hb).2.grown (grown_setC _ _ _ _) (by simp)).grown (grown_setC _ _ _ _) (by simp), ((HB0.out.1.trans (hb.mono HB0.out.2)).setCell (p := ⟨w.heap.size, 2, none⟩) (Nat.le_refl _) _).setCell (p := ⟨w.heap.size, 3, none⟩) (Nat.le_refl _) _⟩
  clear t2 t3 t4 g2 g3 g4 HK HK1 HB0 HKS HKT
  generalize (w1.setCell ⟨w.heap.size, 2, none⟩ (.string r)).setCell ⟨w.heap.size, 3, none⟩ (.string p) = W2 at *
  have z0 := HF.out.1.c0
  have z1 := HF.out.1.c1
  have z2 := HF.out.1.c2
  have z3 := HF.out.1.c3
  have y0 := HF.out.2.1.c0
  have y1 := HF.out.2.1.c1
  have y2 := HF.out.2.1.c2
  have y3 := HF.out.2.1.c3
  have f0 := HF.out.2.1.fz 0
  have f1 := HF.out.2.1.fz 1
  have f2 := HF.out.2.1.fz 2
  have f3 := HF.out.2.1.fz 3
  simp only at z0 z1 z2 z3 y0 y1 y2 y3
  have HE : Hid (BH (W2.setCells (w.heap.size + 1) 0 (hcs ⟨h, e, r, p⟩)) (w.heap.size + 1) ⟨h, e, r, p⟩ ∧ Below w.heap.size w (W2.setCells (w.heap.size + 1) 0 (hcs ⟨h, e, r, p⟩))) := ⟨HF.out.2.1.put _, below_setCells (by omega) _ _ _ HF.out.2.2⟩
  clear HF
  go_wp2
  exact ret_hd 2 (w.heap.size + 1) ⟨h, e, r, p⟩ rfl rfl rfl HE.out.1 ⟨rfl, HE.out.2⟩

namespace HV
def bt (d : ByteArray) (i : Nat) : UInt8 := d.data.toList.getD i 0
def rdH (t : ByteArray) : Hd := ⟨((bt t 0).toNat : Int), ((bt t 1).toNat : Int), t.extract 2 18, t.extract 18 t.size⟩
def rdOk (t : ByteArray) : Bool := decide (18 ≤ t.size) && okH (rdH t)
/-- what is read of a text: a head, or the zero one -/
def rdA (t : ByteArray) : Hd := if rdOk t = true then rdH t else ⟨0, 0, ⟨#[]⟩, ⟨#[]⟩⟩
end HV
theorem run_bt (d : ByteArray) (x : Int) (i : Nat) (hx : x = (i : Int)) (h : i < d.size) (w : World) : (Instr.index 9 (.string d) (.int .i64 x)).run Tryd.prog w = .ok (.int .u8 ((HV.bt d i).toNat : Int)) w := by
  subst hx
  rw [run_index_string (P := Tryd.prog) (w := w) 9 d .i64 _ Tryd.underlying9, dif_pos ⟨by omega, by omega⟩]
  have e : HV.bt d i = d[i] := by
    unfold HV.bt
    have : i < d.data.toList.length := by rw [Array.length_toList]; exact h
    rw [List.getD_eq_getElem?_getD, List.getElem?_eq_getElem this]
    simp
    rfl
  rw [e]
  simp
theorem run_cutH (b : ByteArray) (x y : Int) (i j : Nat) (hx : x = (i : Int)) (hy : y = (j : Int)) (hij : i ≤ j) (hj : j ≤ b.size) (W : World) : (Instr.slice 9 (.string b) (some (.int .i64 x)) (some (.int .i64 y)) none).run Tryd.prog W = .ok (.string (b.extract i j)) W := by
  subst hx
  subst hy
  rw [run_slice_string W 9 b .i64 .i64 _ _ Tryd.underlying9 (by omega) (by omega) (by omega)]
  simp
theorem run_endH (b : ByteArray) (x : Int) (i : Nat) (hx : x = (i : Int)) (hi : i ≤ b.size) (W : World) : (Instr.slice 9 (.string b) (some (.int .i64 x)) none none).run Tryd.prog W = .ok (.string (b.extract i b.size)) W := by
  rw [run_slice_string_from_if (P := Tryd.prog) (w := W) 9 b .i64 _ Tryd.underlying9, if_pos (by omega)]
  subst hx
  simp

set_option maxRecDepth 100000 in
set_option maxHeartbeats 1000000 in
theorem ReadHead_any (t : ByteArray) (w : World) (ht : t.size ≤ 1048576) : Calls Tryd.prog 35 #[.string t] w fun e w' => e = .returned (.tuple #[.agg #[.int .i64 (HV.rdA t).h, .int .i64 (HV.rdA t).e, .string (HV.rdA t).r, .string (HV.rdA t).p], .bool (HV.rdOk t)]) ∧ Below w.heap.size w w' := by
  have HB : Hid (Below w.heap.size w (w.alloc (.cells #[.int .i64 0, .int .i64 0, .string ⟨#[]⟩, .string ⟨#[]⟩] 25))) := (Below.refl _ _).alloc (Nat.le_refl _) _
  by_cases h18 : 18 ≤ t.size
  · have q : ¬ (t.size : Int) < 18 := by omega
    have HC : Hid (∀ W, Calls Tryd.prog 40 #[.agg #[.int .i64 (HV.rdH t).h, .int .i64 (HV.rdH t).e, .string (HV.rdH t).r, .string (HV.rdH t).p]] W fun e w' => e = .returned (.bool (HV.okH (HV.rdH t))) ∧ Below W.heap.size W w') := fun W => HeadOk_any _ W
    have hsz : (HV.rdH t).r.size ≤ 1048576 ∧ (HV.rdH t).p.size ≤ 1048576 := by
      unfold HV.rdH
      simp only [ByteArray.size_extract]
      omega
    have HCC : Hid (∀ W, Calls Tryd.prog 69 #[.agg #[.int .i64 (HV.rdH t).h, .int .i64 (HV.rdH t).e, .string (HV.rdH t).r, .string (HV.rdH t).p]] W fun e w' => e = .returned (.agg #[.int .i64 (HV.rdH t).h, .int .i64 (HV.rdH t).e, .string (HV.rdH t).r, .string (HV.rdH t).p]) ∧ Below W.heap.size W w') := fun W => copiedH_any _ W hsz.1 hsz.2
    clear hsz
    have k0 := run_bt t 0 0 rfl (by omega)
    have k1 := run_bt t 1 1 rfl (by omega)
    have k2 := run_cutH t 2 18 2 18 rfl rfl (by omega) (by omega)
    have k3 := run_endH t 18 18 rfl (by omega)
    unfold HV.rdA
    have HRD : Hid (HV.rdOk t = HV.okH (HV.rdH t)) := by
      show HV.rdOk t = _
      unfold HV.rdOk
      rw [decide_eq_true h18, Bool.true_and]
    rw [HRD.out]
    clear HRD h18
    generalize HV.okH (HV.rdH t) = b at *
    unfold HV.rdH at *
    simp only at *
    generalize HV.bt t 0 = B0 at *
    generalize HV.bt t 1 = B1 at *
    generalize t.extract 2 18 = R at *
    generalize t.extract 18 t.size = P at *
    have HW1 : Hid (∀ n, BH (((w.alloc (.cells #[.int .i64 0, .int .i64 0, .string ⟨#[]⟩, .string ⟨#[]⟩] 25)).drewN n).alloc (.cells #[.int .i64 (B0.toNat : Int), .int .i64 (B1.toNat : Int), .string R, .string P] 25)) w.heap.size ⟨0, 0, ⟨#[]⟩, ⟨#[]⟩⟩ ∧ BH (((w.alloc (.cells #[.int .i64 0, .int .i64 0, .string ⟨#[]⟩, .string ⟨#[]⟩] 25)).drewN n).alloc (.cells #[.int .i64 (B0.toNat : Int), .int .i64 (B1.toNat : Int), .string R, .string P] 25)) (w.heap.size + 1) ⟨(B0.toNat : Int), (B1.toNat : Int), R, P⟩ ∧ Below w.heap.size w (((w.alloc (.cells #[.int .i64 0, .int .i64 0, .string ⟨#[]⟩, .string ⟨#[]⟩] 25)).drewN n).alloc (.cells #[.int .i64 (B0.toNat : Int), .int .i64 (B1.toNat : Int), .string R, .string P] 25))) := fun n => ⟨((BH.new w ⟨0, 0, ⟨#[]⟩, ⟨#[]⟩⟩).later (below_drnH (Below.refl _ _) n)).later ((Below.refl _ _).alloc (Nat.le_refl _) _), alloc_fst _ _ (by simp), (below_drnH HB.out n).alloc (by simp) _⟩
    have e0 : wrap64 (B0.toNat : Int) = (B0.toNat : Int) := by have := B0.toNat_lt; unfold wrap64; omega
    have e1 : wrap64 (B1.toNat : Int) = (B1.toNat : Int) := by have := B1.toNat_lt; unfold wrap64; omega
    clear HB
    cases b
    · rw [if_neg (by simp)]
      go_enter Tryd.func35, Tryd.ntmps35
      go_wp2_with fail
      go_quiet (fail)
      go_wp2_with fail
      go_region
      simp only [e0, e1]
      have HX := HW1.out (nq + 1)
      generalize (((w.alloc (.cells #[.int .i64 0, .int .i64 0, .string ⟨#[]⟩, .string ⟨#[]⟩] 25)).drewN (nq + 1)).alloc (.cells #[.int .i64 (B0.toNat : Int), .int .i64 (B1.toNat : Int), .string R, .string P] 25)) = W1 at *
      clear HW1 e0 e1 k0 k1 k2 k3
      have HXX : Hid (BH W1 w.heap.size ⟨0, 0, ⟨#[]⟩, ⟨#[]⟩⟩ ∧ BH W1 (w.heap.size + 1) ⟨(B0.toNat : Int), (B1.toNat : Int), R, P⟩ ∧ Below w.heap.size w W1) := HX
      have z0 := HX.2.1.c0
      have z1 := HX.2.1.c1
      have z2 := HX.2.1.c2
      have z3 := HX.2.1.c3
      simp only at z0 z1 z2 z3
      clear HX
      go_wp2_with fail
      refine (HC.out _).mono ?_
      rintro e2 w2 ⟨rfl, hb2⟩
      have HY : Hid (BH w2 w.heap.size ⟨0, 0, ⟨#[]⟩, ⟨#[]⟩⟩ ∧ BH w2 (w.heap.size + 1) ⟨(B0.toNat : Int), (B1.toNat : Int), R, P⟩ ∧ Below w.heap.size w w2) := ⟨HXX.out.1.later hb2, HXX.out.2.1.later hb2, HXX.out.2.2.trans (hb2.mono HXX.out.2.2.size)⟩
      clear HC HXX hb2 z0 z1 z2 z3
      have y0 := HY.out.1.c0
      have y1 := HY.out.1.c1
      have y2 := HY.out.1.c2
      have y3 := HY.out.1.c3
      simp only at y0 y1 y2 y3
      have f0 := HY.out.1.fz 0
      have f1 := HY.out.1.fz 1
      have f2 := HY.out.1.fz 2
      have f3 := HY.out.1.fz 3
      have HE : Hid (BH (w2.setCells w.heap.size 0 (hcs ⟨0, 0, ⟨#[]⟩, ⟨#[]⟩⟩)) w.heap.size ⟨0, 0, ⟨#[]⟩, ⟨#[]⟩⟩ ∧ Below w.heap.size w (w2.setCells w.heap.size 0 (hcs ⟨0, 0, ⟨#[]⟩, ⟨#[]⟩⟩))) := ⟨HY.out.1.put _, below_setCells (Nat.le_refl _) _ _ _ HY.out.2.2⟩
      clear HY
      go_wp2
      exact ret_hd2 2 3 w.heap.size ⟨0, 0, ⟨#[]⟩, ⟨#[]⟩⟩ _ rfl rfl rfl rfl HE.out.1 ⟨rfl, HE.out.2⟩
    · rw [if_pos rfl]
      go_enter Tryd.func35, Tryd.ntmps35
      go_wp2_with fail
      go_quiet (fail)
      go_wp2_with fail
      go_region
      simp only [e0, e1]
      have HX := HW1.out (nq + 1)
      generalize (((w.alloc (.cells #[.int .i64 0, .int .i64 0, .string ⟨#[]⟩, .string ⟨#[]⟩] 25)).drewN (nq + 1)).alloc (.cells #[.int .i64 (B0.toNat : Int), .int .i64 (B1.toNat : Int), .string R, .string P] 25)) = W1 at *
      clear HW1 e0 e1 k0 k1 k2 k3
      have HXX : Hid (BH W1 w.heap.size ⟨0, 0, ⟨#[]⟩, ⟨#[]⟩⟩ ∧ BH W1 (w.heap.size + 1) ⟨(B0.toNat : Int), (B1.toNat : Int), R, P⟩ ∧ Below w.heap.size w W1) := HX
      have z0 := HX.2.1.c0
      have z1 := HX.2.1.c1
      have z2 := HX.2.1.c2
      have z3 := HX.2.1.c3
      simp only at z0 z1 z2 z3
      clear HX
      go_wp2_with fail
      refine (HC.out _).mono ?_
      rintro e2 w2 ⟨rfl, hb2⟩
      have HY : Hid (BH w2 w.heap.size ⟨0, 0, ⟨#[]⟩, ⟨#[]⟩⟩ ∧ BH w2 (w.heap.size + 1) ⟨(B0.toNat : Int), (B1.toNat : Int), R, P⟩ ∧ Below w.heap.size w w2) := ⟨HXX.out.1.later hb2, HXX.out.2.1.later hb2, HXX.out.2.2.trans (hb2.mono HXX.out.2.2.size)⟩
      clear HC HXX hb2 z0 z1 z2 z3
      have z0 := HY.out.2.1.c0
      have z1 := HY.out.2.1.c1
      have z2 := HY.out.2.1.c2
      have z3 := HY.out.2.1.c3
      simp only at z0 z1 z2 z3
      go_wp2_with fail
      refine (HCC.out _).mono ?_
      rintro e3 w3 ⟨rfl, hb3⟩
      have HY3 : Hid (BH w3 w.heap.size ⟨0, 0, ⟨#[]⟩, ⟨#[]⟩⟩ ∧ BH w3 (w.heap.size + 1) ⟨(B0.toNat : Int), (B1.toNat : Int), R, P⟩ ∧ Below w.heap.size w w3) := ⟨HY.out.1.later hb3, HY.out.2.1.later hb3, HY.out.2.2.trans (hb3.mono HY.out.2.2.size)⟩
      clear hb3 HCC z0 z1 z2 z3 HY
      have y0 := HY3.out.1.c0
      have y1 := HY3.out.1.c1
      have y2 := HY3.out.1.c2
      have y3 := HY3.out.1.c3
      simp only at y0 y1 y2 y3
      have f0 := HY3.out.1.fz 0
      have f1 := HY3.out.1.fz 1
      have f2 := HY3.out.1.fz 2
      have f3 := HY3.out.1.fz 3
      have HE : Hid (BH (w3.setCells w.heap.size 0 (hcs ⟨(B0.toNat : Int), (B1.toNat : Int), R, P⟩)) w.heap.size ⟨(B0.toNat : Int), (B1.toNat : Int), R, P⟩ ∧ Below w.heap.size w (w3.setCells w.heap.size 0 (hcs ⟨(B0.toNat : Int), (B1.toNat : Int), R, P⟩))) := ⟨HY3.out.1.put _, below_setCells (Nat.le_refl _) _ _ _ HY3.out.2.2⟩
      clear HY3
      go_wp2
      exact ret_hd2 2 3 w.heap.size ⟨(B0.toNat : Int), (B1.toNat : Int), R, P⟩ _ rfl rfl rfl rfl HE.out.1 ⟨rfl, HE.out.2⟩
  · have q : (t.size : Int) < 18 := by omega
    have HRD : Hid (HV.rdOk t = false) := by
      show HV.rdOk t = _
      unfold HV.rdOk
      rw [decide_eq_false h18, Bool.false_and]
    unfold HV.rdA
    rw [HRD.out, if_neg (by simp)]
    have HE : Hid (BH (w.alloc (.cells #[.int .i64 0, .int .i64 0, .string ⟨#[]⟩, .string ⟨#[]⟩] 25)) w.heap.size ⟨0, 0, ⟨#[]⟩, ⟨#[]⟩⟩) := BH.new w ⟨0, 0, ⟨#[]⟩, ⟨#[]⟩⟩
    clear HRD h18
    go_enter Tryd.func35, Tryd.ntmps35
    go_wp2
    exact ret_hd2 2 3 w.heap.size ⟨0, 0, ⟨#[]⟩, ⟨#[]⟩⟩ _ rfl rfl rfl rfl HE.out ⟨rfl, HB.out⟩

end Go.Proofs.YtaejeemjndmjcaaDoor
