/-
  Texts laid together: Hf, Hr, Sbk, Xe.
-/
import Derived.Test.YtfojmagcoipbnaaQ21
import Derived.Test.YtfojmagcoipbnaaQ06
import Derived.Deep.RegionHeld3
import Derived.Test.YtfojmagcoipbnaaQ20
import Derived.Test.YtfojmagcoipbnaaQ18
import Derived.Test.YtfojmagcoipbnaaQ07
/-
  A head read from its text: the program's and the specification's answers.
-/
namespace Go.Proofs.Ytfojmagcoipbnaa
open Go.RowKit Go.BigFrame Go.Sort
set_option linter.unusedVariables false
set_option linter.unusedSimpArgs false

set_option maxRecDepth 100000 in
set_option maxHeartbeats 1000000 in
theorem copiedH_any (x : Hd) (w : World) (hr : x.r.size ≤ 1048576) (hp : x.p.size ≤ 1048576) : Calls Try.prog 143 #[.agg #[.int .i64 x.h, .int .i64 x.e, .string x.r, .string x.p]] w fun e w' => e = .returned (.agg #[.int .i64 x.h, .int .i64 x.e, .string x.r, .string x.p]) ∧ Below w.heap.size w w' := by
  obtain ⟨h, e, r, p⟩ := x
  simp only at hr hp ⊢
  have hb0 : Below w.heap.size w ((w.alloc (.cells #[.int .i64 h, .int .i64 e, .string r, .string p] 58)).alloc (.cells #[.int .i64 0, .int .i64 0, .string ⟨#[]⟩, .string ⟨#[]⟩] 58)) := ((Below.refl _ _).alloc (Nat.le_refl _) _).alloc (by simp) _
  have hG1 : BH ((w.alloc (.cells #[.int .i64 h, .int .i64 e, .string r, .string p] 58)).alloc (.cells #[.int .i64 0, .int .i64 0, .string ⟨#[]⟩, .string ⟨#[]⟩] 58)) w.heap.size ⟨h, e, r, p⟩ := alloc_snd _ _ _ rfl
  have hG2 : BH ((w.alloc (.cells #[.int .i64 h, .int .i64 e, .string r, .string p] 58)).alloc (.cells #[.int .i64 0, .int .i64 0, .string ⟨#[]⟩, .string ⟨#[]⟩] 58)) (w.heap.size + 1) ⟨0, 0, ⟨#[]⟩, ⟨#[]⟩⟩ := alloc_fst _ _ (by simp)
  have hs0 : ((w.alloc (.cells #[.int .i64 h, .int .i64 e, .string r, .string p] 58)).alloc (.cells #[.int .i64 0, .int .i64 0, .string ⟨#[]⟩, .string ⟨#[]⟩] 58)).heap.size = w.heap.size + 2 := by simp
  have HK : Hid (∀ W, Below ((w.alloc (.cells #[.int .i64 h, .int .i64 e, .string r, .string p] 58)).alloc (.cells #[.int .i64 0, .int .i64 0, .string ⟨#[]⟩, .string ⟨#[]⟩] 58)).heap.size ((w.alloc (.cells #[.int .i64 h, .int .i64 e, .string r, .string p] 58)).alloc (.cells #[.int .i64 0, .int .i64 0, .string ⟨#[]⟩, .string ⟨#[]⟩] 58)) W → W.cell? ⟨w.heap.size, 2, none⟩ = some (.string r) ∧ W.cell? ⟨w.heap.size, 3, none⟩ = some (.string p)) := fun W hW => ⟨(hG1.later hW).c2, (hG1.later hW).c3⟩
  have HK1 : Hid (∀ W, Below ((w.alloc (.cells #[.int .i64 h, .int .i64 e, .string r, .string p] 58)).alloc (.cells #[.int .i64 0, .int .i64 0, .string ⟨#[]⟩, .string ⟨#[]⟩] 58)).heap.size ((w.alloc (.cells #[.int .i64 h, .int .i64 e, .string r, .string p] 58)).alloc (.cells #[.int .i64 0, .int .i64 0, .string ⟨#[]⟩, .string ⟨#[]⟩] 58)) W → BH W w.heap.size ⟨h, e, r, p⟩ ∧ BH W (w.heap.size + 1) ⟨0, 0, ⟨#[]⟩, ⟨#[]⟩⟩) := fun W hW => ⟨hG1.later hW, hG2.later hW⟩
  have HB0 : Hid (Below w.heap.size w ((w.alloc (.cells #[.int .i64 h, .int .i64 e, .string r, .string p] 58)).alloc (.cells #[.int .i64 0, .int .i64 0, .string ⟨#[]⟩, .string ⟨#[]⟩] 58)) ∧ w.heap.size ≤ ((w.alloc (.cells #[.int .i64 h, .int .i64 e, .string r, .string p] 58)).alloc (.cells #[.int .i64 0, .int .i64 0, .string ⟨#[]⟩, .string ⟨#[]⟩] 58)).heap.size) := ⟨hb0, by rw [hs0]; omega⟩
  have HKS : Hid (∀ W, BH W w.heap.size ⟨h, e, r, p⟩ → (W.setCell ⟨w.heap.size, 2, none⟩ (.string r)).cell? ⟨w.heap.size, 2, none⟩ = some (.string r) ∧ (W.setCell ⟨w.heap.size, 2, none⟩ (.string r)).cell? ⟨w.heap.size, 3, none⟩ = some (.string p)) := fun W hW => ⟨(hW.set2 r).c2, (hW.set2 r).c3⟩
  have HKT : Hid (∀ W, BH W w.heap.size ⟨h, e, r, p⟩ → ((W.setCell ⟨w.heap.size, 2, none⟩ (.string r)).setCell ⟨w.heap.size, 3, none⟩ (.string p)).cell? ⟨w.heap.size, 2, none⟩ = some (.string r) ∧ ((W.setCell ⟨w.heap.size, 2, none⟩ (.string r)).setCell ⟨w.heap.size, 3, none⟩ (.string p)).cell? ⟨w.heap.size, 3, none⟩ = some (.string p)) := fun W hW => ⟨((hW.set2 r).set3 p).c2, ((hW.set2 r).set3 p).c3⟩
  have hb : Below ((w.alloc (.cells #[.int .i64 h, .int .i64 e, .string r, .string p] 58)).alloc (.cells #[.int .i64 0, .int .i64 0, .string ⟨#[]⟩, .string ⟨#[]⟩] 58)).heap.size ((w.alloc (.cells #[.int .i64 h, .int .i64 e, .string r, .string p] 58)).alloc (.cells #[.int .i64 0, .int .i64 0, .string ⟨#[]⟩, .string ⟨#[]⟩] 58)) ((w.alloc (.cells #[.int .i64 h, .int .i64 e, .string r, .string p] 58)).alloc (.cells #[.int .i64 0, .int .i64 0, .string ⟨#[]⟩, .string ⟨#[]⟩] 58)).drew := (Below.refl _ _).drew
  clear hb0 hG1 hG2 hs0
  go_enter Try.func143, Try.ntmps143
  go_wp2
  go_region_held3 (fun W => W.cell? ⟨w.heap.size, 2, none⟩ = some (.string r) ∧ W.cell? ⟨w.heap.size, 3, none⟩ = some (.string p)) (first | (go_keep; done) | exact HK.out _ hb | exact HKS.out _ (HK1.out _ hb).1 | exact HKT.out _ (HK1.out _ hb).1) ((go_at_call 126; refine (Clone_any _ _ (by first | exact hr | exact hp)).mono ?_; rintro e1 w1 ⟨rfl, hb1'⟩; have hb := hb.trans (hb1'.mono hb.size); have t2 := (HK1.out _ hb).1.c2; have t3 := (HK1.out _ hb).1.c3; have g2 := (HK1.out _ hb).1.fz 2; have g3 := (HK1.out _ hb).1.fz 3; have t4 := ((HK1.out _ hb).1.set2 r).c3; have g4 := ((HK1.out _ hb).1.set2 r).fz 3))
  have HF : Hid (BH ((w1.setCell ⟨w.heap.size, 2, none⟩ (.string r)).setCell ⟨w.heap.size, 3, none⟩ (.string p)) w.heap.size ⟨h, e, r, p⟩ ∧ BH ((w1.setCell ⟨w.heap.size, 2, none⟩ (.string r)).setCell ⟨w.heap.size, 3, none⟩ (.string p)) (w.heap.size + 1) ⟨0, 0, ⟨#[]⟩, ⟨#[]⟩⟩ ∧ Below w.heap.size w ((w1.setCell ⟨w.heap.size, 2, none⟩ (.string r)).setCell ⟨w.heap.size, 3, none⟩ (.string p))) :=
    ⟨((HK1.out _ hb).1.set2 r).set3 p, ((HK1.out _ hb).2.grown (grown_setC _ _ _ _) (by simp)).grown (grown_setC _ _ _ _) (by simp), ((HB0.out.1.trans (hb.mono HB0.out.2)).setCell (p := ⟨w.heap.size, 2, none⟩) (Nat.le_refl _) _).setCell (p := ⟨w.heap.size, 3, none⟩) (Nat.le_refl _) _⟩
  clear t2 t3 t4 g2 g3 g4 HK HK1 HB0 HKS HKT
  generalize (w1.setCell ⟨w.heap.size, 2, none⟩ (.string r)).setCell ⟨w.heap.size, 3, none⟩ (.string p) = W2 at *
  have z0 := HF.out.1.c0
  have z1 := HF.out.1.c1
  have z2 := HF.out.1.c2
  have z3 := HF.out.1.c3
  have y0 := HF.out.2.1.c0
  have y1 := HF.out.2.1.c1
  have y2 := HF.out.2.1.c2
  have y3 := HF.out.2.1.c3
  have f0 := HF.out.2.1.fz 0
  have f1 := HF.out.2.1.fz 1
  have f2 := HF.out.2.1.fz 2
  have f3 := HF.out.2.1.fz 3
  simp only at z0 z1 z2 z3 y0 y1 y2 y3
  have HE : Hid (BH (W2.setCells (w.heap.size + 1) 0 (hcs ⟨h, e, r, p⟩)) (w.heap.size + 1) ⟨h, e, r, p⟩ ∧ Below w.heap.size w (W2.setCells (w.heap.size + 1) 0 (hcs ⟨h, e, r, p⟩))) := ⟨HF.out.2.1.put _, below_setCells (by omega) _ _ _ HF.out.2.2⟩
  clear HF
  go_wp2
  exact ret_hd 2 (w.heap.size + 1) ⟨h, e, r, p⟩ rfl rfl rfl HE.out.1 ⟨rfl, HE.out.2⟩

namespace HV
def bt (d : ByteArray) (i : Nat) : UInt8 := d.data.toList.getD i 0
def rdH (t : ByteArray) : Hd := ⟨((bt t 0).toNat : Int), ((bt t 1).toNat : Int), t.extract 2 18, t.extract 18 t.size⟩
def rdOk (t : ByteArray) : Bool := decide (18 ≤ t.size) && okH (rdH t)
/-- what is read of a text: a head, or the zero one -/
def rdA (t : ByteArray) : Hd := if rdOk t = true then rdH t else ⟨0, 0, ⟨#[]⟩, ⟨#[]⟩⟩
end HV
theorem run_bt (d : ByteArray) (x : Int) (i : Nat) (hx : x = (i : Int)) (h : i < d.size) (w : World) : (Instr.index 9 (.string d) (.int .i64 x)).run Try.prog w = .ok (.int .u8 ((HV.bt d i).toNat : Int)) w := by
  subst hx
  rw [run_index_string (P := Try.prog) (w := w) 9 d .i64 _ Try.underlying9, dif_pos ⟨by omega, by omega⟩]
  have e : HV.bt d i = d[i] := by
    unfold HV.bt
    have : i < d.data.toList.length := by rw [Array.length_toList]; exact h
    rw [List.getD_eq_getElem?_getD, List.getElem?_eq_getElem this]
    simp
    rfl
  rw [e]
  simp
theorem run_cutH (b : ByteArray) (x y : Int) (i j : Nat) (hx : x = (i : Int)) (hy : y = (j : Int)) (hij : i ≤ j) (hj : j ≤ b.size) (W : World) : (Instr.slice 9 (.string b) (some (.int .i64 x)) (some (.int .i64 y)) none).run Try.prog W = .ok (.string (b.extract i j)) W := by
  subst hx
  subst hy
  rw [run_slice_string W 9 b .i64 .i64 _ _ Try.underlying9 (by omega) (by omega) (by omega)]
  simp
theorem run_endH (b : ByteArray) (x : Int) (i : Nat) (hx : x = (i : Int)) (hi : i ≤ b.size) (W : World) : (Instr.slice 9 (.string b) (some (.int .i64 x)) none none).run Try.prog W = .ok (.string (b.extract i b.size)) W := by
  rw [run_slice_string_from_if (P := Try.prog) (w := W) 9 b .i64 _ Try.underlying9, if_pos (by omega)]
  subst hx
  simp

set_option maxRecDepth 100000 in
set_option maxHeartbeats 1000000 in
theorem ReadHead_any (t : ByteArray) (w : World) (ht : t.size ≤ 1048576) : Calls Try.prog 132 #[.string t] w fun e w' => e = .returned (.tuple #[.agg #[.int .i64 (HV.rdA t).h, .int .i64 (HV.rdA t).e, .string (HV.rdA t).r, .string (HV.rdA t).p], .bool (HV.rdOk t)]) ∧ Below w.heap.size w w' := by
  have HB : Hid (Below w.heap.size w (w.alloc (.cells #[.int .i64 0, .int .i64 0, .string ⟨#[]⟩, .string ⟨#[]⟩] 58))) := (Below.refl _ _).alloc (Nat.le_refl _) _
  by_cases h18 : 18 ≤ t.size
  · have q : ¬ (t.size : Int) < 18 := by omega
    have HC : Hid (∀ W, Calls Try.prog 129 #[.agg #[.int .i64 (HV.rdH t).h, .int .i64 (HV.rdH t).e, .string (HV.rdH t).r, .string (HV.rdH t).p]] W fun e w' => e = .returned (.bool (HV.okH (HV.rdH t))) ∧ Below W.heap.size W w') := fun W => HeadOk_any _ W
    have hsz : (HV.rdH t).r.size ≤ 1048576 ∧ (HV.rdH t).p.size ≤ 1048576 := by
      unfold HV.rdH
      simp only [ByteArray.size_extract]
      omega
    have HCC : Hid (∀ W, Calls Try.prog 143 #[.agg #[.int .i64 (HV.rdH t).h, .int .i64 (HV.rdH t).e, .string (HV.rdH t).r, .string (HV.rdH t).p]] W fun e w' => e = .returned (.agg #[.int .i64 (HV.rdH t).h, .int .i64 (HV.rdH t).e, .string (HV.rdH t).r, .string (HV.rdH t).p]) ∧ Below W.heap.size W w') := fun W => copiedH_any _ W hsz.1 hsz.2
    clear hsz
    have k0 := run_bt t 0 0 rfl (by omega)
    have k1 := run_bt t 1 1 rfl (by omega)
    have k2 := run_cutH t 2 18 2 18 rfl rfl (by omega) (by omega)
    have k3 := run_endH t 18 18 rfl (by omega)
    unfold HV.rdA
    have HRD : Hid (HV.rdOk t = HV.okH (HV.rdH t)) := by
      show HV.rdOk t = _
      unfold HV.rdOk
      rw [decide_eq_true h18, Bool.true_and]
    rw [HRD.out]
    clear HRD h18
    generalize HV.okH (HV.rdH t) = b at *
    unfold HV.rdH at *
    simp only at *
    generalize HV.bt t 0 = B0 at *
    generalize HV.bt t 1 = B1 at *
    generalize t.extract 2 18 = R at *
    generalize t.extract 18 t.size = P at *
    have HW1 : Hid (∀ n, BH (((w.alloc (.cells #[.int .i64 0, .int .i64 0, .string ⟨#[]⟩, .string ⟨#[]⟩] 58)).drewN n).alloc (.cells #[.int .i64 (B0.toNat : Int), .int .i64 (B1.toNat : Int), .string R, .string P] 58)) w.heap.size ⟨0, 0, ⟨#[]⟩, ⟨#[]⟩⟩ ∧ BH (((w.alloc (.cells #[.int .i64 0, .int .i64 0, .string ⟨#[]⟩, .string ⟨#[]⟩] 58)).drewN n).alloc (.cells #[.int .i64 (B0.toNat : Int), .int .i64 (B1.toNat : Int), .string R, .string P] 58)) (w.heap.size + 1) ⟨(B0.toNat : Int), (B1.toNat : Int), R, P⟩ ∧ Below w.heap.size w (((w.alloc (.cells #[.int .i64 0, .int .i64 0, .string ⟨#[]⟩, .string ⟨#[]⟩] 58)).drewN n).alloc (.cells #[.int .i64 (B0.toNat : Int), .int .i64 (B1.toNat : Int), .string R, .string P] 58))) := fun n => ⟨((BH.new w ⟨0, 0, ⟨#[]⟩, ⟨#[]⟩⟩).later (below_drnH (Below.refl _ _) n)).later ((Below.refl _ _).alloc (Nat.le_refl _) _), alloc_fst _ _ (by simp), (below_drnH HB.out n).alloc (by simp) _⟩
    have e0 : wrap64 (B0.toNat : Int) = (B0.toNat : Int) := by have := B0.toNat_lt; unfold wrap64; omega
    have e1 : wrap64 (B1.toNat : Int) = (B1.toNat : Int) := by have := B1.toNat_lt; unfold wrap64; omega
    clear HB
    cases b
    · rw [if_neg (by simp)]
      go_enter Try.func132, Try.ntmps132
      go_wp2_with fail
      go_quiet (fail)
      go_wp2_with fail
      go_region
      simp only [e0, e1]
      have HX := HW1.out (nq + 1)
      generalize (((w.alloc (.cells #[.int .i64 0, .int .i64 0, .string ⟨#[]⟩, .string ⟨#[]⟩] 58)).drewN (nq + 1)).alloc (.cells #[.int .i64 (B0.toNat : Int), .int .i64 (B1.toNat : Int), .string R, .string P] 58)) = W1 at *
      clear HW1 e0 e1 k0 k1 k2 k3
      have HXX : Hid (BH W1 w.heap.size ⟨0, 0, ⟨#[]⟩, ⟨#[]⟩⟩ ∧ BH W1 (w.heap.size + 1) ⟨(B0.toNat : Int), (B1.toNat : Int), R, P⟩ ∧ Below w.heap.size w W1) := HX
      have z0 := HX.2.1.c0
      have z1 := HX.2.1.c1
      have z2 := HX.2.1.c2
      have z3 := HX.2.1.c3
      simp only at z0 z1 z2 z3
      clear HX
      go_wp2_with fail
      refine (HC.out _).mono ?_
      rintro e2 w2 ⟨rfl, hb2⟩
      have HY : Hid (BH w2 w.heap.size ⟨0, 0, ⟨#[]⟩, ⟨#[]⟩⟩ ∧ BH w2 (w.heap.size + 1) ⟨(B0.toNat : Int), (B1.toNat : Int), R, P⟩ ∧ Below w.heap.size w w2) := ⟨HXX.out.1.later hb2, HXX.out.2.1.later hb2, HXX.out.2.2.trans (hb2.mono HXX.out.2.2.size)⟩
      clear HC HXX hb2 z0 z1 z2 z3
      have y0 := HY.out.1.c0
      have y1 := HY.out.1.c1
      have y2 := HY.out.1.c2
      have y3 := HY.out.1.c3
      simp only at y0 y1 y2 y3
      have f0 := HY.out.1.fz 0
      have f1 := HY.out.1.fz 1
      have f2 := HY.out.1.fz 2
      have f3 := HY.out.1.fz 3
      have HE : Hid (BH (w2.setCells w.heap.size 0 (hcs ⟨0, 0, ⟨#[]⟩, ⟨#[]⟩⟩)) w.heap.size ⟨0, 0, ⟨#[]⟩, ⟨#[]⟩⟩ ∧ Below w.heap.size w (w2.setCells w.heap.size 0 (hcs ⟨0, 0, ⟨#[]⟩, ⟨#[]⟩⟩))) := ⟨HY.out.1.put _, below_setCells (Nat.le_refl _) _ _ _ HY.out.2.2⟩
      clear HY
      go_wp2
      exact ret_hd2 2 3 w.heap.size ⟨0, 0, ⟨#[]⟩, ⟨#[]⟩⟩ _ rfl rfl rfl rfl HE.out.1 ⟨rfl, HE.out.2⟩
    · rw [if_pos rfl]
      go_enter Try.func132, Try.ntmps132
      go_wp2_with fail
      go_quiet (fail)
      go_wp2_with fail
      go_region
      simp only [e0, e1]
      have HX := HW1.out (nq + 1)
      generalize (((w.alloc (.cells #[.int .i64 0, .int .i64 0, .string ⟨#[]⟩, .string ⟨#[]⟩] 58)).drewN (nq + 1)).alloc (.cells #[.int .i64 (B0.toNat : Int), .int .i64 (B1.toNat : Int), .string R, .string P] 58)) = W1 at *
      clear HW1 e0 e1 k0 k1 k2 k3
      have HXX : Hid (BH W1 w.heap.size ⟨0, 0, ⟨#[]⟩, ⟨#[]⟩⟩ ∧ BH W1 (w.heap.size + 1) ⟨(B0.toNat : Int), (B1.toNat : Int), R, P⟩ ∧ Below w.heap.size w W1) := HX
      have z0 := HX.2.1.c0
      have z1 := HX.2.1.c1
      have z2 := HX.2.1.c2
      have z3 := HX.2.1.c3
      simp only at z0 z1 z2 z3
      clear HX
      go_wp2_with fail
      refine (HC.out _).mono ?_
      rintro e2 w2 ⟨rfl, hb2⟩
      have HY : Hid (BH w2 w.heap.size ⟨0, 0, ⟨#[]⟩, ⟨#[]⟩⟩ ∧ BH w2 (w.heap.size + 1) ⟨(B0.toNat : Int), (B1.toNat : Int), R, P⟩ ∧ Below w.heap.size w w2) := ⟨HXX.out.1.later hb2, HXX.out.2.1.later hb2, HXX.out.2.2.trans (hb2.mono HXX.out.2.2.size)⟩
      clear HC HXX hb2 z0 z1 z2 z3
      have z0 := HY.out.2.1.c0
      have z1 := HY.out.2.1.c1
      have z2 := HY.out.2.1.c2
      have z3 := HY.out.2.1.c3
      simp only at z0 z1 z2 z3
      go_wp2_with fail
      refine (HCC.out _).mono ?_
      rintro e3 w3 ⟨rfl, hb3⟩
      have HY3 : Hid (BH w3 w.heap.size ⟨0, 0, ⟨#[]⟩, ⟨#[]⟩⟩ ∧ BH w3 (w.heap.size + 1) ⟨(B0.toNat : Int), (B1.toNat : Int), R, P⟩ ∧ Below w.heap.size w w3) := ⟨HY.out.1.later hb3, HY.out.2.1.later hb3, HY.out.2.2.trans (hb3.mono HY.out.2.2.size)⟩
      clear hb3 HCC z0 z1 z2 z3 HY
      have y0 := HY3.out.1.c0
      have y1 := HY3.out.1.c1
      have y2 := HY3.out.1.c2
      have y3 := HY3.out.1.c3
      simp only at y0 y1 y2 y3
      have f0 := HY3.out.1.fz 0
      have f1 := HY3.out.1.fz 1
      have f2 := HY3.out.1.fz 2
      have f3 := HY3.out.1.fz 3
      have HE : Hid (BH (w3.setCells w.heap.size 0 (hcs ⟨(B0.toNat : Int), (B1.toNat : Int), R, P⟩)) w.heap.size ⟨(B0.toNat : Int), (B1.toNat : Int), R, P⟩ ∧ Below w.heap.size w (w3.setCells w.heap.size 0 (hcs ⟨(B0.toNat : Int), (B1.toNat : Int), R, P⟩))) := ⟨HY3.out.1.put _, below_setCells (Nat.le_refl _) _ _ _ HY3.out.2.2⟩
      clear HY3
      go_wp2
      exact ret_hd2 2 3 w.heap.size ⟨(B0.toNat : Int), (B1.toNat : Int), R, P⟩ _ rfl rfl rfl rfl HE.out.1 ⟨rfl, HE.out.2⟩
  · have q : (t.size : Int) < 18 := by omega
    have HRD : Hid (HV.rdOk t = false) := by
      show HV.rdOk t = _
      unfold HV.rdOk
      rw [decide_eq_false h18, Bool.false_and]
    unfold HV.rdA
    rw [HRD.out, if_neg (by simp)]
    have HE : Hid (BH (w.alloc (.cells #[.int .i64 0, .int .i64 0, .string ⟨#[]⟩, .string ⟨#[]⟩] 58)) w.heap.size ⟨0, 0, ⟨#[]⟩, ⟨#[]⟩⟩) := BH.new w ⟨0, 0, ⟨#[]⟩, ⟨#[]⟩⟩
    clear HRD h18
    go_enter Try.func132, Try.ntmps132
    go_wp2
    exact ret_hd2 2 3 w.heap.size ⟨0, 0, ⟨#[]⟩, ⟨#[]⟩⟩ _ rfl rfl rfl rfl HE.out ⟨rfl, HB.out⟩

set_option maxRecDepth 100000 in
set_option maxHeartbeats 1000000 in
theorem sReadHead_any (t : ByteArray) (w : World) (ht : t.size ≤ 1048576) : Calls Try.prog 110 #[.string t] w fun e w' => e = .returned (.tuple #[.agg #[.int .i64 (HV.rdA t).h, .int .i64 (HV.rdA t).e, .string (HV.rdA t).r, .string (HV.rdA t).p], .bool (HV.rdOk t)]) ∧ Below w.heap.size w w' := by
  have HB : Hid (Below w.heap.size w (w.alloc (.cells #[.int .i64 0, .int .i64 0, .string ⟨#[]⟩, .string ⟨#[]⟩] 58))) := (Below.refl _ _).alloc (Nat.le_refl _) _
  by_cases h18 : 18 ≤ t.size
  · have q : ¬ (t.size : Int) < 18 := by omega
    have HC : Hid (∀ W, Calls Try.prog 127 #[.agg #[.int .i64 (HV.rdH t).h, .int .i64 (HV.rdH t).e, .string (HV.rdH t).r, .string (HV.rdH t).p]] W fun e w' => e = .returned (.bool (HV.okH (HV.rdH t))) ∧ Below W.heap.size W w') := fun W => sHeadOk_any _ W
    have k0 := run_bt t 0 0 rfl (by omega)
    have k1 := run_bt t 1 1 rfl (by omega)
    have k2 := run_cutH t 2 18 2 18 rfl rfl (by omega) (by omega)
    have k3 := run_endH t 18 18 rfl (by omega)
    unfold HV.rdA
    have HRD : Hid (HV.rdOk t = HV.okH (HV.rdH t)) := by
      show HV.rdOk t = _
      unfold HV.rdOk
      rw [decide_eq_true h18, Bool.true_and]
    rw [HRD.out]
    clear HRD h18
    generalize HV.okH (HV.rdH t) = b at *
    unfold HV.rdH at *
    simp only at *
    generalize HV.bt t 0 = B0 at *
    generalize HV.bt t 1 = B1 at *
    generalize t.extract 2 18 = R at *
    generalize t.extract 18 t.size = P at *
    have HW1 : Hid (∀ n, BH (((w.alloc (.cells #[.int .i64 0, .int .i64 0, .string ⟨#[]⟩, .string ⟨#[]⟩] 58)).drewN n).alloc (.cells #[.int .i64 (B0.toNat : Int), .int .i64 (B1.toNat : Int), .string R, .string P] 58)) w.heap.size ⟨0, 0, ⟨#[]⟩, ⟨#[]⟩⟩ ∧ BH (((w.alloc (.cells #[.int .i64 0, .int .i64 0, .string ⟨#[]⟩, .string ⟨#[]⟩] 58)).drewN n).alloc (.cells #[.int .i64 (B0.toNat : Int), .int .i64 (B1.toNat : Int), .string R, .string P] 58)) (w.heap.size + 1) ⟨(B0.toNat : Int), (B1.toNat : Int), R, P⟩ ∧ Below w.heap.size w (((w.alloc (.cells #[.int .i64 0, .int .i64 0, .string ⟨#[]⟩, .string ⟨#[]⟩] 58)).drewN n).alloc (.cells #[.int .i64 (B0.toNat : Int), .int .i64 (B1.toNat : Int), .string R, .string P] 58))) := fun n => ⟨((BH.new w ⟨0, 0, ⟨#[]⟩, ⟨#[]⟩⟩).later (below_drnH (Below.refl _ _) n)).later ((Below.refl _ _).alloc (Nat.le_refl _) _), alloc_fst _ _ (by simp), (below_drnH HB.out n).alloc (by simp) _⟩
    have e0 : wrap64 (B0.toNat : Int) = (B0.toNat : Int) := by have := B0.toNat_lt; unfold wrap64; omega
    have e1 : wrap64 (B1.toNat : Int) = (B1.toNat : Int) := by have := B1.toNat_lt; unfold wrap64; omega
    clear HB
    cases b
    · rw [if_neg (by simp)]
      go_enter Try.func110, Try.ntmps110
      go_wp2_with fail
      go_region
      simp only [e0, e1]
      have HX := HW1.out 1
      change Exit.then _ _ _ _ (((w.alloc (.cells #[.int .i64 0, .int .i64 0, .string ⟨#[]⟩, .string ⟨#[]⟩] 58)).drewN 1).alloc (.cells #[.int .i64 (B0.toNat : Int), .int .i64 (B1.toNat : Int), .string R, .string P] 58))
      generalize (((w.alloc (.cells #[.int .i64 0, .int .i64 0, .string ⟨#[]⟩, .string ⟨#[]⟩] 58)).drewN 1).alloc (.cells #[.int .i64 (B0.toNat : Int), .int .i64 (B1.toNat : Int), .string R, .string P] 58)) = W1 at *
      clear HW1 e0 e1 k0 k1 k2 k3
      have HXX : Hid (BH W1 w.heap.size ⟨0, 0, ⟨#[]⟩, ⟨#[]⟩⟩ ∧ BH W1 (w.heap.size + 1) ⟨(B0.toNat : Int), (B1.toNat : Int), R, P⟩ ∧ Below w.heap.size w W1) := HX
      have z0 := HX.2.1.c0
      have z1 := HX.2.1.c1
      have z2 := HX.2.1.c2
      have z3 := HX.2.1.c3
      simp only at z0 z1 z2 z3
      clear HX
      go_wp2_with fail
      refine (HC.out _).mono ?_
      rintro e2 w2 ⟨rfl, hb2⟩
      have HY : Hid (BH w2 w.heap.size ⟨0, 0, ⟨#[]⟩, ⟨#[]⟩⟩ ∧ BH w2 (w.heap.size + 1) ⟨(B0.toNat : Int), (B1.toNat : Int), R, P⟩ ∧ Below w.heap.size w w2) := ⟨HXX.out.1.later hb2, HXX.out.2.1.later hb2, HXX.out.2.2.trans (hb2.mono HXX.out.2.2.size)⟩
      clear HC HXX hb2 z0 z1 z2 z3
      have y0 := HY.out.1.c0
      have y1 := HY.out.1.c1
      have y2 := HY.out.1.c2
      have y3 := HY.out.1.c3
      simp only at y0 y1 y2 y3
      have f0 := HY.out.1.fz 0
      have f1 := HY.out.1.fz 1
      have f2 := HY.out.1.fz 2
      have f3 := HY.out.1.fz 3
      have HE : Hid (BH (w2.setCells w.heap.size 0 (hcs ⟨0, 0, ⟨#[]⟩, ⟨#[]⟩⟩)) w.heap.size ⟨0, 0, ⟨#[]⟩, ⟨#[]⟩⟩ ∧ Below w.heap.size w (w2.setCells w.heap.size 0 (hcs ⟨0, 0, ⟨#[]⟩, ⟨#[]⟩⟩))) := ⟨HY.out.1.put _, below_setCells (Nat.le_refl _) _ _ _ HY.out.2.2⟩
      clear HY
      go_wp2
      exact ret_hd2 2 3 w.heap.size ⟨0, 0, ⟨#[]⟩, ⟨#[]⟩⟩ _ rfl rfl rfl rfl HE.out.1 ⟨rfl, HE.out.2⟩
    · rw [if_pos rfl]
      go_enter Try.func110, Try.ntmps110
      go_wp2_with fail
      go_region
      simp only [e0, e1]
      have HX := HW1.out 1
      change Exit.then _ _ _ _ (((w.alloc (.cells #[.int .i64 0, .int .i64 0, .string ⟨#[]⟩, .string ⟨#[]⟩] 58)).drewN 1).alloc (.cells #[.int .i64 (B0.toNat : Int), .int .i64 (B1.toNat : Int), .string R, .string P] 58))
      generalize (((w.alloc (.cells #[.int .i64 0, .int .i64 0, .string ⟨#[]⟩, .string ⟨#[]⟩] 58)).drewN 1).alloc (.cells #[.int .i64 (B0.toNat : Int), .int .i64 (B1.toNat : Int), .string R, .string P] 58)) = W1 at *
      clear HW1 e0 e1 k0 k1 k2 k3
      have HXX : Hid (BH W1 w.heap.size ⟨0, 0, ⟨#[]⟩, ⟨#[]⟩⟩ ∧ BH W1 (w.heap.size + 1) ⟨(B0.toNat : Int), (B1.toNat : Int), R, P⟩ ∧ Below w.heap.size w W1) := HX
      have z0 := HX.2.1.c0
      have z1 := HX.2.1.c1
      have z2 := HX.2.1.c2
      have z3 := HX.2.1.c3
      simp only at z0 z1 z2 z3
      clear HX
      go_wp2_with fail
      refine (HC.out _).mono ?_
      rintro e2 w2 ⟨rfl, hb2⟩
      have HY : Hid (BH w2 w.heap.size ⟨0, 0, ⟨#[]⟩, ⟨#[]⟩⟩ ∧ BH w2 (w.heap.size + 1) ⟨(B0.toNat : Int), (B1.toNat : Int), R, P⟩ ∧ Below w.heap.size w w2) := ⟨HXX.out.1.later hb2, HXX.out.2.1.later hb2, HXX.out.2.2.trans (hb2.mono HXX.out.2.2.size)⟩
      clear HC HXX hb2 z0 z1 z2 z3
      have y0 := HY.out.1.c0
      have y1 := HY.out.1.c1
      have y2 := HY.out.1.c2
      have y3 := HY.out.1.c3
      have z0 := HY.out.2.1.c0
      have z1 := HY.out.2.1.c1
      have z2 := HY.out.2.1.c2
      have z3 := HY.out.2.1.c3
      simp only at z0 z1 z2 z3
      simp only at y0 y1 y2 y3
      have f0 := HY.out.1.fz 0
      have f1 := HY.out.1.fz 1
      have f2 := HY.out.1.fz 2
      have f3 := HY.out.1.fz 3
      have HE : Hid (BH (w2.setCells w.heap.size 0 (hcs ⟨(B0.toNat : Int), (B1.toNat : Int), R, P⟩)) w.heap.size ⟨(B0.toNat : Int), (B1.toNat : Int), R, P⟩ ∧ Below w.heap.size w (w2.setCells w.heap.size 0 (hcs ⟨(B0.toNat : Int), (B1.toNat : Int), R, P⟩))) := ⟨HY.out.1.put _, below_setCells (Nat.le_refl _) _ _ _ HY.out.2.2⟩
      clear HY
      go_wp2
      exact ret_hd2 2 3 w.heap.size ⟨(B0.toNat : Int), (B1.toNat : Int), R, P⟩ _ rfl rfl rfl rfl HE.out.1 ⟨rfl, HE.out.2⟩
  · have q : (t.size : Int) < 18 := by omega
    have HRD : Hid (HV.rdOk t = false) := by
      show HV.rdOk t = _
      unfold HV.rdOk
      rw [decide_eq_false h18, Bool.false_and]
    unfold HV.rdA
    rw [HRD.out, if_neg (by simp)]
    have HE : Hid (BH (w.alloc (.cells #[.int .i64 0, .int .i64 0, .string ⟨#[]⟩, .string ⟨#[]⟩] 58)) w.heap.size ⟨0, 0, ⟨#[]⟩, ⟨#[]⟩⟩) := BH.new w ⟨0, 0, ⟨#[]⟩, ⟨#[]⟩⟩
    clear HRD h18
    go_enter Try.func110, Try.ntmps110
    go_wp2
    exact ret_hd2 2 3 w.heap.size ⟨0, 0, ⟨#[]⟩, ⟨#[]⟩⟩ _ rfl rfl rfl rfl HE.out ⟨rfl, HB.out⟩

end Go.Proofs.Ytfojmagcoipbnaa
/-
  Plain facts: a head comes back from its text, and a text from its head; another root makes another text.
-/
namespace Go.Proofs.Ytfojmagcoipbnaa
open Go.RowKit Go.BigFrame Go.Sort
set_option linter.unusedVariables false
set_option linter.unusedSimpArgs false

namespace HV
theorem b2T_list (b c : UInt8) (r p : ByteArray) : (b2T b c r p).data.toList = b :: c :: (r.data.toList ++ p.data.toList) := by
  unfold b2T
  simp
theorem ext_list {a b : ByteArray} (h : a.data.toList = b.data.toList) : a = b := ByteArray.ext (Array.toList_inj.1 h)
theorem extract_list (s : ByteArray) (a b : Nat) : (s.extract a b).data.toList = (s.data.toList.drop a).take (b - a) := by
  simp [ByteArray.data_extract, List.extract_eq_take_drop]
theorem b2T_r (b c : UInt8) (r p : ByteArray) (hr : r.size = 16) : (b2T b c r p).extract 2 18 = r := by
  apply ext_list
  rw [extract_list, b2T_list]
  have : r.data.toList.length = 16 := by rw [Array.length_toList]; exact hr
  show (r.data.toList ++ p.data.toList).take 16 = _
  rw [List.take_left' this]
theorem b2T_p (b c : UInt8) (r p : ByteArray) (hr : r.size = 16) : (b2T b c r p).extract 18 (b2T b c r p).size = p := by
  apply ext_list
  rw [extract_list, b2T_size, b2T_list]
  have h1 : r.data.toList.length = 16 := by rw [Array.length_toList]; exact hr
  have h2 : p.data.toList.length = p.size := Array.length_toList
  have h3 : (b :: c :: (r.data.toList ++ p.data.toList)).drop 18 = p.data.toList := by
    show (r.data.toList ++ p.data.toList).drop 16 = _
    rw [List.drop_left' h1]
  rw [h3, List.take_of_length_le (by omega)]
theorem b2T_0 (b c : UInt8) (r p : ByteArray) : bt (b2T b c r p) 0 = b := by
  unfold bt
  rw [b2T_list]
  rfl
theorem b2T_1 (b c : UInt8) (r p : ByteArray) : bt (b2T b c r p) 1 = c := by
  unfold bt
  rw [b2T_list]
  rfl
theorem rd_back {x : Hd} (h : okH x = true) : rdOk (txtH x) = true ∧ rdA (txtH x) = x := by
  obtain ⟨⟨h0, h1⟩, ⟨h2, h3⟩, h4, h5⟩ := okH_iff.1 h
  have e : rdH (txtH x) = x := by
    rw [txtH_b2]
    unfold rdH
    rw [b2T_0, b2T_1, b2T_r _ _ _ _ h4, b2T_p _ _ _ _ h4]
    obtain ⟨a, b, r, p⟩ := x
    simp only at *
    rw [← byte_int a a.toNat (by omega) (by omega), ← byte_int b b.toNat (by omega) (by omega)]
  have hk : rdOk (txtH x) = true := by
    unfold rdOk
    rw [e, h, Bool.and_true]
    refine decide_eq_true ?_
    rw [txtH_b2, b2T_size]
    omega
  refine ⟨hk, ?_⟩
  unfold rdA
  rw [if_pos hk, e]
theorem rd_text {u : ByteArray} (h : rdOk u = true) : textH (rdA u) = u := by
  have h' := h
  unfold rdOk at h'
  rw [Bool.and_eq_true, decide_eq_true_eq] at h'
  obtain ⟨h18, hk⟩ := h'
  have e : rdA u = rdH u := by unfold rdA; rw [if_pos h]
  rw [e]
  unfold textH
  rw [if_pos hk, txtH_b2]
  apply ext_list
  rw [b2T_list]
  unfold rdH
  simp only
  have hl : u.data.toList.length = u.size := Array.length_toList
  have hb : ∀ b : UInt8, UInt8.ofNat ((b.toNat : Int)).toNat = b := fun b => by simp
  rw [hb, hb, extract_list, extract_list]
  obtain ⟨⟨l⟩⟩ := u
  have hl2 : 18 ≤ l.length := by rw [← hl] at h18; exact h18
  match l, hl2 with
  | a :: b :: r, hl2 =>
    unfold bt
    have hr : 16 ≤ r.length := by simp at hl2; omega
    show a :: b :: (r.take 16 ++ (r.drop 16).take ((a :: b :: r).length - 18)) = a :: b :: r
    rw [List.take_of_length_le (l := r.drop 16) (by simp), List.take_append_drop]
theorem txt_ne {x : Hd} {r' : ByteArray} (h : okH x = true) (hz : r'.size = x.r.size) (hne : x.r ≠ r') : textH ⟨x.h, x.e, r', x.p⟩ ≠ txtH x := by
  obtain ⟨h1, h2, h4, h5⟩ := okH_iff.1 h
  have hk : okH ⟨x.h, x.e, r', x.p⟩ = true := okH_iff.2 ⟨h1, h2, by simp only; omega, h5⟩
  unfold textH
  rw [if_pos hk]
  intro he
  have e1 := (rd_back hk).2
  rw [he, (rd_back h).2] at e1
  exact hne (congrArg Hd.r e1)
theorem textH_size (x : Hd) (hr : x.r.size ≤ 20) (hp : x.p.size ≤ 20) : (textH x).size ≤ 42 := by
  unfold textH
  split
  · rw [txtH_b2, b2T_size]
    omega
  · show (⟨#[]⟩ : ByteArray).size ≤ 42
    decide
end HV

end Go.Proofs.Ytfojmagcoipbnaa
/-
  Plain facts: what is written as a signature is read back.
-/
namespace Go.Proofs.Ytfojmagcoipbnaa
set_option linter.unusedVariables false

theorem pieces {f : ByteArray → List UInt8} : ∀ (L : List ByteArray) (i : Nat) (h : i < L.length), (∀ p ∈ L, (f p).length = 16) → ((L.flatMap f).drop (i * 16)).take 16 = f L[i]
  | [], i, h, _ => absurd h (by simp)
  | p :: t, 0, h, hl => by
    have := hl p (by simp)
    rw [List.flatMap_cons, Nat.zero_mul, List.drop_zero, List.take_append_of_le_length (by omega), List.take_of_length_le (by omega)]
    rfl
  | p :: t, i + 1, h, hl => by
    have h1 := hl p (by simp)
    have e : (i + 1) * 16 = (f p).length + i * 16 := by omega
    rw [List.flatMap_cons, e, List.drop_append, List.drop_of_length_le (by omega), List.nil_append, Nat.add_sub_cancel_left, pieces t i (by simpa using h) (fun q hq => hl q (by simp [hq]))]
    rfl
theorem flat16 {f : ByteArray → List UInt8} : ∀ (L : List ByteArray), (∀ p ∈ L, (f p).length = 16) → (L.flatMap f).length = L.length * 16
  | [], _ => rfl
  | p :: t, hl => by
    rw [List.flatMap_cons, List.length_append, hl p (by simp), flat16 t (fun q hq => hl q (by simp [hq])), List.length_cons]
    omega
theorem ext_list (t : ByteArray) (i j : Nat) : (t.extract i j).data.toList = (t.data.toList.drop i).take (j - i) := by
  rw [ByteArray.data_extract, Array.toList_extract]
theorem kyB_piece (a : Nat) (L : List ByteArray) (i : Nat) (h : i < L.length) (hl : ∀ p ∈ L, p.size = 16) : (kyB a L).extract (1 + i * 16) (1 + (i + 1) * 16) = L[i] := by
  have hl' : ∀ p ∈ L, (p.data.toList).length = 16 := hl
  have h1 : ((kyB a L).extract (1 + i * 16) (1 + (i + 1) * 16)).data.toList = L[i].data.toList := by
    rw [ext_list, show 1 + (i + 1) * 16 - (1 + i * 16) = 16 by omega]
    have e : (kyB a L).data.toList = UInt8.ofNat a :: L.flatMap (fun p => p.data.toList) := by simp [kyB, kyL]
    rw [e, show 1 + i * 16 = i * 16 + 1 by omega, List.drop_succ_cons]
    exact pieces L i h hl'
  generalize (kyB a L).extract (1 + i * 16) (1 + (i + 1) * 16) = x at *
  generalize L[i] = y at *
  cases x
  cases y
  congr
  exact Array.toList_inj.1 h1
theorem kyB_16 (a : Nat) (L : List ByteArray) (hl : ∀ p ∈ L, p.size = 16) : (kyB a L).size = 1 + L.length * 16 := by
  show (kyL a L).toArray.size = _
  rw [List.size_toArray]
  unfold kyL
  rw [List.length_cons, flat16 L hl]
  omega
theorem kyB_cut (a : Nat) (A M Z : List ByteArray) (hl : ∀ p ∈ A ++ M ++ Z, p.size = 16) : cutL (kyB a (A ++ M ++ Z)) (1 + A.length * 16) M.length = M := by
  refine List.ext_getElem (by simp [cutL]) ?_
  intro i h1 h2
  have hi : A.length + i < (A ++ M ++ Z).length := by simp; omega
  have := kyB_piece a (A ++ M ++ Z) (A.length + i) hi hl
  have e : (A ++ M ++ Z)[A.length + i] = M[i] := by
    rw [List.getElem_append_left (by simp; omega), List.getElem_append_right (by omega)]
    simp
  rw [e] at this
  simp only [cutL, List.getElem_map, List.getElem_range]
  rw [show 1 + A.length * 16 + i * 16 = 1 + (A.length + i) * 16 by omega, show 1 + A.length * 16 + (i + 1) * 16 = 1 + (A.length + i + 1) * 16 by omega]
  exact this
/-- what is written as a signature is read back -/
theorem sig_back (a : Nat) (o s d : List ByteArray) (ha : a ≤ 15) (ho : o.length = 8) (hs : s.length = 8) (hd : d.length = 4) (hl : ∀ p ∈ o ++ s ++ d, p.size = 16) :
    rsOk (kyB a (o ++ s ++ d)) = true ∧ rsA (kyB a (o ++ s ++ d)) = (a : Int) ∧ rsO (kyB a (o ++ s ++ d)) = o ∧ rsS (kyB a (o ++ s ++ d)) = s ∧ rsD (kyB a (o ++ s ++ d)) = d := by
  have hz := kyB_16 a (o ++ s ++ d) hl
  have hb : (b0 (kyB a (o ++ s ++ d))).toNat = a := by
    have : b0 (kyB a (o ++ s ++ d)) = UInt8.ofNat a := by simp [b0, kyB, kyL]
    rw [this]
    simp
    omega
  have hok : rsOk (kyB a (o ++ s ++ d)) = true := by
    unfold rsOk
    rw [hb, hz]
    simp [ho, hs, hd, ha]
  have c1 := kyB_cut a [] o (s ++ d) (by simpa using hl)
  have c2 := kyB_cut a o s d hl
  have c3 := kyB_cut a (o ++ s) d [] (by simpa using hl)
  simp only [List.nil_append, List.length_nil, Nat.zero_mul, ho, hs, hd, List.length_append, List.append_nil, ← List.append_assoc] at c1 c2 c3
  refine ⟨hok, ?_, ?_, ?_, ?_⟩
  · unfold rsA; rw [hok, hb]; rfl
  · unfold rsO; rw [hok]; exact c1
  · unfold rsS; rw [hok]; exact c2
  · unfold rsD; rw [hok]; exact c3

end Go.Proofs.Ytfojmagcoipbnaa
/-
  Plain facts: what is read as a seal is written as it was; what is written is read back.
-/
namespace Go.Proofs.Ytfojmagcoipbnaa
open Go.RowKit Go.BigFrame Go.Sort
set_option linter.unusedVariables false
set_option linter.unusedSimpArgs false

theorem pieces_all (M : List UInt8) : ∀ n, (List.range n).flatMap (fun i => (M.drop (i * 16)).take 16) = M.take (n * 16)
  | 0 => by simp
  | n + 1 => by
    rw [List.range_succ, List.flatMap_append, pieces_all M n, show (n + 1) * 16 = n * 16 + 16 by omega, List.take_add]
    simp
/-- what is read as a signature is its text -/
theorem rs_text {u : ByteArray} (h : rsOk u = true) : formB (rsA u) (rsO u) (rsS u) (rsD u) = true ∧ sigB (rsA u) (rsO u) (rsS u) (rsD u) = u := by
  have h' := h
  unfold rsOk at h'
  obtain ⟨h1, h2⟩ := of_decide_eq_true h'
  have ea : rsA u = ((b0 u).toNat : Int) := by unfold rsA; rw [h]; rfl
  have eo : rsO u = cutL u 1 8 := by unfold rsO; rw [h]; rfl
  have es : rsS u = cutL u 129 8 := by unfold rsS; rw [h]; rfl
  have ed : rsD u = cutL u 257 4 := by unfold rsD; rw [h]; rfl
  have hf : formB (rsA u) (rsO u) (rsS u) (rsD u) = true := by
    rw [ea, eo, es, ed]
    exact formB_mk ⟨⟨by omega, by omega⟩, ⟨cutL_wide u 1 8 (by omega), cutL_len _ _ _⟩, ⟨cutL_wide u 129 8 (by omega), cutL_len _ _ _⟩, ⟨cutL_wide u 257 4 (by omega), cutL_len _ _ _⟩⟩
  refine ⟨hf, ?_⟩
  unfold sigB
  rw [if_pos hf, ea, eo, es, ed, Int.toNat_natCast]
  have e20 : cutL u 1 8 ++ cutL u 129 8 ++ cutL u 257 4 = cutL u 1 20 := rfl
  rw [e20]
  apply LV.bytes_eq
  show (kyL (b0 u).toNat (cutL u 1 20)).toArray.toList = _
  rw [List.toList_toArray]
  unfold kyL
  have hl : u.data.toList.length = 321 := by rw [Array.length_toList]; exact h1
  have et : (cutL u 1 20).flatMap (fun p => p.data.toList) = u.data.toList.drop 1 := by
    have e1 : (cutL u 1 20).flatMap (fun p => p.data.toList) = (List.range 20).flatMap (fun i => ((u.data.toList.drop 1).drop (i * 16)).take 16) := by
      unfold cutL
      rw [List.flatMap_map]
      congr 1
      funext i
      rw [ext_list, List.drop_drop, show 1 + (i + 1) * 16 - (1 + i * 16) = 16 by omega]
    rw [e1, pieces_all, List.take_of_length_le (by rw [List.length_drop, hl]; omega)]
  rw [et]
  have eb : UInt8.ofNat (b0 u).toNat = b0 u := by simp
  rw [eb]
  unfold b0
  match hu : u.data.toList, hl with
  | a :: r, _ => rfl

/-- a text whose head is a short text is that and the rest -/
theorem short_rest {t X : ByteArray} {q : Nat} (h : LV.shortAt t 0 = some (X, q)) : q ≤ t.size ∧ (⟨(M.varL X.size).toArray⟩ ++ X ++ t.extract q t.size : ByteArray) = t := by
  obtain ⟨h0, hq, he⟩ := LV.shortAt_some (Nat.zero_le _) h
  refine ⟨hq, ?_⟩
  apply LV.bytes_eq
  have hl : t.data.toList.length = t.size := LV.toList_len t
  have e1 : (⟨(M.varL X.size).toArray⟩ ++ X ++ t.extract q t.size : ByteArray).data.toList = (M.varL X.size ++ X.data.toList) ++ (t.extract q t.size).data.toList := by simp
  rw [e1, ← he, LV.extract_cut, LV.cutL_join _ 0 q t.size (by omega) hq]
  unfold LV.cutL
  rw [List.drop_zero, List.take_of_length_le (by omega)]

def rlOk (t : ByteArray) : Bool := match LV.shortAt t 0 with
  | none => false
  | some (x, q) => HV.rdOk x && rsOk (t.extract q t.size)
def rlX (t : ByteArray) : ByteArray := match LV.shortAt t 0 with
  | none => ⟨#[]⟩
  | some (x, _) => x
def rlR (t : ByteArray) : ByteArray := match LV.shortAt t 0 with
  | none => ⟨#[]⟩
  | some (_, q) => t.extract q t.size
/-- what is read of a text as a seal -/
def rlH (t : ByteArray) : Hd := if rlOk t = true then HV.rdA (rlX t) else ⟨0, 0, ⟨#[]⟩, ⟨#[]⟩⟩
def rlA (t : ByteArray) : Int := if rlOk t = true then rsA (rlR t) else 0
def rlO (t : ByteArray) : List ByteArray := if rlOk t = true then rsO (rlR t) else []
def rlS (t : ByteArray) : List ByteArray := if rlOk t = true then rsS (rlR t) else []
def rlD (t : ByteArray) : List ByteArray := if rlOk t = true then rsD (rlR t) else []
/-- a seal whose lists are new, each with memory of its own -/
def SealIn (w : World) (B : Nat) (v : Value) (x : Hd) (a : Int) (o s d : List ByteArray) : Prop :=
  ∃ v1 v2 v3, v = .agg #[.int .i64 x.h, .int .i64 x.e, .string x.r, .string x.p, .int .i64 a, v1, v2, v3] ∧ SigIn w B (.agg #[.int .i64 a, v1, v2, v3]) a o s d
/-- what ReadSeal answers -/
def RlsP (t : ByteArray) (w : World) (e : Ending) (w' : World) : Prop := ∃ v, e = .returned (.tuple #[v, .bool (rlOk t)]) ∧ SealIn w' w.heap.size v (rlH t) (rlA t) (rlO t) (rlS t) (rlD t) ∧ Below w.heap.size w w'
theorem RlsP.no {t : ByteArray} {w w' : World} (h : rlOk t = false) (hb : Below w.heap.size w w') : RlsP t w (.returned (.tuple #[.agg #[.int .i64 0, .int .i64 0, .string ⟨#[]⟩, .string ⟨#[]⟩, .int .i64 0, .slice none 0 0, .slice none 0 0, .slice none 0 0], .bool false])) w' := by
  unfold RlsP rlH rlA rlO rlS rlD
  rw [h]
  exact ⟨_, rfl, ⟨_, _, _, rfl, SigIn.zero _ _⟩, hb⟩
theorem RlsP.yes {t : ByteArray} {w w' : World} {v : Value} (h : rlOk t = true) (hv : SealIn w' w.heap.size v (HV.rdA (rlX t)) (rsA (rlR t)) (rsO (rlR t)) (rsS (rlR t)) (rsD (rlR t))) (hb : Below w.heap.size w w') : RlsP t w (.returned (.tuple #[v, .bool true])) w' := by
  unfold RlsP rlH rlA rlO rlS rlD
  rw [h]
  exact ⟨_, rfl, hv, hb⟩
theorem rl_none {t : ByteArray} (h : LV.shortAt t 0 = none) : rlOk t = false := by unfold rlOk; rw [h]
theorem rl_some {t X : ByteArray} {q : Nat} (h : LV.shortAt t 0 = some (X, q)) : rlOk t = (HV.rdOk X && rsOk (t.extract q t.size)) ∧ rlX t = X ∧ rlR t = t.extract q t.size := by
  unfold rlOk rlX rlR
  rw [h]
  exact ⟨rfl, rfl, rfl⟩
theorem rd_ok {X : ByteArray} (h : HV.rdOk X = true) : HV.okH (HV.rdA X) = true ∧ HV.txtH (HV.rdA X) = X := by
  have h1 := HV.rd_text h
  have hk : HV.okH (HV.rdA X) = true := by
    have h' := h
    unfold HV.rdOk at h'
    rw [Bool.and_eq_true] at h'
    unfold HV.rdA
    rw [if_pos h]
    exact h'.2
  unfold HV.textH at h1
  rw [if_pos hk] at h1
  exact ⟨hk, h1⟩
/-- what is read as a seal is its text -/
theorem rl_text {t : ByteArray} (h : rlOk t = true) : slOk (rlH t) (rlA t) (rlO t) (rlS t) (rlD t) = true ∧ slB (rlH t) (rlA t) (rlO t) (rlS t) (rlD t) = t := by
  cases hs : LV.shortAt t 0 with
  | none => rw [rl_none hs] at h; cases h
  | some y =>
    obtain ⟨X, q⟩ := y
    obtain ⟨e1, e2, e3⟩ := rl_some hs
    have h' := h
    rw [e1, Bool.and_eq_true] at h'
    obtain ⟨k1, k2⟩ := rd_ok h'.1
    obtain ⟨f1, f2⟩ := rs_text h'.2
    unfold rlH rlA rlO rlS rlD
    simp only [h, if_true, e2, e3]
    have hk : slOk (HV.rdA X) (rsA (t.extract q t.size)) (rsO (t.extract q t.size)) (rsS (t.extract q t.size)) (rsD (t.extract q t.size)) = true := by
      unfold slOk
      rw [k1, f1]
      rfl
    refine ⟨hk, ?_⟩
    unfold slB
    rw [if_pos hk, k2, f2]
    exact (short_rest hs).2
/-- what is written as a seal is read back -/
theorem rl_back {x : Hd} {a : Int} {o s d : List ByteArray} (h : slOk x a o s d = true) : rlOk (slB x a o s d) = true ∧ rlH (slB x a o s d) = x ∧ rlA (slB x a o s d) = a ∧ rlO (slB x a o s d) = o ∧ rlS (slB x a o s d) = s ∧ rlD (slB x a o s d) = d := by
  have h' := h
  unfold slOk at h'
  rw [Bool.and_eq_true] at h'
  obtain ⟨hk, hf⟩ := h'
  obtain ⟨hA, ⟨wo, lo⟩, ⟨ws, ls⟩, wd, ld⟩ := formB_parts hf
  obtain ⟨n, rfl⟩ := Int.eq_ofNat_of_zero_le hA.1
  have hz := txtH_small hk
  have h16 : ∀ p ∈ o ++ s ++ d, p.size = 16 := by
    intro p hp
    have hw := kwB_append (kwB_append wo ws) wd
    obtain ⟨j, hj, rfl⟩ := List.getElem_of_mem hp
    exact kwB_at hw j hj
  obtain ⟨b1, b2, b3, b4, b5⟩ := sig_back n o s d (by omega) lo ls ld h16
  have esig : sigB (n : Int) o s d = kyB n (o ++ s ++ d) := by unfold sigB; rw [if_pos hf, Int.toNat_natCast]
  obtain ⟨r1, r2⟩ := HV.rd_back hk
  have et : slB x (n : Int) o s d = ⟨(M.varL (HV.txtH x).size).toArray⟩ ++ HV.txtH x ++ kyB n (o ++ s ++ d) := by
    unfold slB
    rw [if_pos h, esig]
  have hs := LV.shortAt_back (slB x (n : Int) o s d) (HV.txtH x) [] (kyB n (o ++ s ++ d)).data.toList (by omega) (by rw [et]; simp)
  simp only [List.length_nil, Nat.zero_add] at hs
  have hrest : (slB x (n : Int) o s d).extract (M.varL (HV.txtH x).size ++ (HV.txtH x).data.toList).length (slB x (n : Int) o s d).size = kyB n (o ++ s ++ d) := by
    apply LV.bytes_eq
    rw [LV.extract_cut]
    unfold LV.cutL
    have e1 : (slB x (n : Int) o s d).data.toList = (M.varL (HV.txtH x).size ++ (HV.txtH x).data.toList) ++ (kyB n (o ++ s ++ d)).data.toList := by rw [et]; simp
    have e2 := LV.toList_len (slB x (n : Int) o s d)
    rw [e1] at e2
    rw [e1, List.drop_left, List.take_of_length_le]
    rw [List.length_append] at e2
    omega
  obtain ⟨e1, e2, e3⟩ := rl_some hs
  rw [hrest] at e1 e3
  have hok : rlOk (slB x (n : Int) o s d) = true := by rw [e1, r1, b1]; rfl
  unfold rlH rlA rlO rlS rlD
  simp only [hok, if_true, e2, e3]
  exact ⟨trivial, r2, b2, b3, b4, b5⟩

end Go.Proofs.Ytfojmagcoipbnaa
