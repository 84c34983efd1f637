/-
  The walk of the law FnHeads: it answers true of every code.
-/
import Derived.Test.YtlpbfafcaleifaaDoorHq
import Derived.Test.YtlpbfafcaleifaaDoorHr
import Derived.Test.YtlpbfafcaleifaaDoorTrn
import Derived.Deep.RegionHeld3
namespace Go.Proofs.YtlpbfafcaleifaaDoor
open Go.RowKit Go.BigFrame Go.Sort
set_option linter.unusedVariables false
set_option linter.unusedSimpArgs false

theorem turned_empty (t : ByteArray) (g pc : Nat) (w : World) (ht : t.size = 0) :
    Calls Tryd.prog 15 #[.string t, .slice (some ⟨g, 0, none⟩) 12 pc] w fun e w' => e = .returned (.string ⟨#[120]⟩) ∧ Below w.heap.size w w' := by
  obtain ⟨w6, bc, hcv, hb6, hs6, hby⟩ := run_bytes t w
  have hp1 : ((t.size : Int) == 0) = true := by simp [ht]
  clear hby
  go_enter Tryd.func15, Tryd.ntmps15
  go_wp2
  go_ret
  exact ⟨rfl, hb6⟩
/-- a text, turned in one byte: another one, as long as there is a byte -/
theorem turned_all (t : ByteArray) (g pc p0 p1 : Nat) (w : World) (ht2 : t.size ≤ 100000) (h0 : p0 < 10000) (h1 : p1 < 10000) (hg : g < w.heap.size)
    (z0 : w.cell? ⟨g, 0, none⟩ = some (.int .i64 (p0 : Int))) (z1 : w.cell? ⟨g, 1, none⟩ = some (.int .i64 (p1 : Int))) :
    Calls Tryd.prog 15 #[.string t, .slice (some ⟨g, 0, none⟩) 12 pc] w fun e w' => ∃ u : ByteArray, u.size ≤ t.size + 1 ∧ (0 < t.size → u.size = t.size ∧ t ≠ u) ∧ e = .returned (.string u) ∧ Below w.heap.size w w' := by
  by_cases ht : 0 < t.size
  · exact (turned_any t g pc p0 p1 w ht ht2 h0 h1 hg z0 z1).mono fun e w' ⟨u, hu, hne, he, hb⟩ => ⟨u, by omega, fun _ => ⟨hu, hne⟩, he, hb⟩
  · exact (turned_empty t g pc w (by omega)).mono fun e w' ⟨he, hb⟩ => ⟨⟨#[120]⟩, by show (⟨#[120]⟩ : ByteArray).size ≤ _; have : (⟨#[120]⟩ : ByteArray).size = 1 := rfl; omega, fun h => absurd h ht, he, hb⟩

/-- heads in boxes, one above the other -/
def BX (w W : World) (l : List (Nat × Hd)) : Prop := Below w.heap.size w W ∧ ∀ b ∈ l, BH W b.1 b.2 ∧ w.heap.size ≤ b.1
theorem BX.later {w W W' : World} {l : List (Nat × Hd)} (h : BX w W l) (hb : Below W.heap.size W W') : BX w W' l := ⟨h.1.trans (hb.mono h.1.size), fun b hbl => ⟨(h.2 b hbl).1.later hb, (h.2 b hbl).2⟩⟩
theorem BX.add {w W : World} {l : List (Nat × Hd)} (h : BX w W l) (x : Hd) : BX w (W.alloc (.cells #[.int .i64 x.h, .int .i64 x.e, .string x.r, .string x.p] 33)) ((W.heap.size, x) :: l) := by
  have hb : Below W.heap.size W (W.alloc (.cells #[.int .i64 x.h, .int .i64 x.e, .string x.r, .string x.p] 33)) := (Below.refl _ _).alloc (Nat.le_refl _) _
  have h' := h.later hb
  refine ⟨h'.1, fun b hbl => ?_⟩
  rcases List.mem_cons.1 hbl with rfl | hbl
  · exact ⟨BH.new W x, h.1.size⟩
  · exact h'.2 b hbl

set_option maxRecDepth 100000 in
set_option maxHeartbeats 4000000 in
theorem headsLaw_any (ao : Option Addr) (len cap : Nat) (w : World) (hlen : len ≤ 1048576) (hc : Code w.heap.size w (.slice ao len cap)) (hK : TabK w) (hF : TabF w) :
    Calls Tryd.prog 4 #[.slice ao len cap] w fun e w' => e = .returned (.bool true) ∧ Below w.heap.size w w' := by
  have HC : Hid (∀ W, Below w.heap.size w W → Code W.heap.size W (.slice ao len cap)) := fun W hW => code_later hc hW
  have HT : Hid (∀ W, Below w.heap.size w W → Tb W) := fun W hW => Tb.later ⟨hK, hF⟩ hW
  clear hc hK hF
  go_enter Tryd.func4, Tryd.ntmps4
  go_wp2_with fail
  refine (big_no ao len cap _ hlen).mono ?_
  rintro e w1 ⟨rfl, rfl⟩
  go_wp2_with fail
  refine (DrawHeadText_any _ _ (HC.out _ (Below.refl _ _))).mono ?_
  rintro e w2 ⟨X, rfl, hxr, hxp, hb2⟩
  have HX : Hid (X.r.size ≤ 20 ∧ X.p.size ≤ 20) := ⟨hxr, hxp⟩
  have HB2 : Hid (BX w1 (w2.alloc (.cells #[.int .i64 X.h, .int .i64 X.e, .string X.r, .string X.p] 33)) [(w2.heap.size, X)]) := BX.add ⟨hb2, fun b hb => absurd hb (by simp)⟩ X
  clear hxr hxp hb2
  go_wp2_with fail
  refine (HeadText_any X _).mono ?_
  rintro e w3 ⟨rfl, hb3⟩
  have HB3 : Hid (BX w1 w3 [(w2.heap.size, X)]) := HB2.out.later hb3
  clear HB2 hb3
  have hz := HV.textH_size X HX.out.1 HX.out.2
  have hR := fun W => ReadHead_any (HV.textH X) W (by omega)
  have HP1 : Hid (HV.okH X = true → HV.rdOk (HV.textH X) = true ∧ HV.rdA (HV.textH X) = X ∧ 0 < X.r.size ∧ ∀ r', r'.size = X.r.size → X.r ≠ r' → HV.textH ⟨X.h, X.e, r', X.p⟩ ≠ HV.textH X) := fun h => by
    have e : HV.textH X = HV.txtH X := by unfold HV.textH; rw [if_pos h]
    rw [e]
    exact ⟨(HV.rd_back h).1, (HV.rd_back h).2, by have := (HV.okH_iff.1 h).2.2.1; omega, fun r' h1 h2 => HV.txt_ne h h1 h2⟩
  have HOI : Hid (∀ W, Calls Tryd.prog 23 #[.agg #[.int .i64 X.h, .int .i64 X.e, .string X.r, .string X.p]] W fun e w' => e = .returned (.bool (HV.okH X)) ∧ Below W.heap.size W w') := fun W => HeadOk_any X W
  have HOS : Hid (∀ W, Calls Tryd.prog 22 #[.agg #[.int .i64 X.h, .int .i64 X.e, .string X.r, .string X.p]] W fun e w' => e = .returned (.bool (HV.okH X)) ∧ Below W.heap.size W w') := fun W => sHeadOk_any X W
  have HHI : Hid (∀ W, Below w1.heap.size w1 W → Calls Tryd.prog 24 #[.agg #[.int .i64 X.h, .int .i64 X.e, .string X.r, .string X.p]] W fun e w' => e = .returned (.string (HV.hashH X)) ∧ Below W.heap.size W w') := fun W hW => HeadHash_any X W (HT.out W hW)
  have HHS : Hid (∀ W, Calls Tryd.prog 16 #[.agg #[.int .i64 X.h, .int .i64 X.e, .string X.r, .string X.p]] W fun e w' => e = .returned (.string (HV.hashH X)) ∧ Below W.heap.size W w') := fun W => sHeadHash_any X W
  generalize HV.hashH X = H at *
  generalize HV.rdOk (HV.textH X) = right at *
  generalize HV.rdA (HV.textH X) = Y at *
  generalize HV.okH X = ok at *
  generalize HV.textH X = t at *
  clear HT
  go_wp2_with fail
  refine (hR _).mono ?_
  rintro e w4 ⟨rfl, hb4⟩
  have HB4 : Hid (BX w1 (w4.alloc (.cells #[.int .i64 Y.h, .int .i64 Y.e, .string Y.r, .string Y.p] 33)) [(w4.heap.size, Y), (w2.heap.size, X)]) := (HB3.out.later hb4).add Y
  clear HB3 hb4 hR
  go_wp2_with fail
  refine (DrawReadHead_any _ _ (HC.out _ HB4.out.1)).mono ?_
  rintro e w5 ⟨u, rfl, huz, hb5⟩
  have HB5 : Hid (BX w1 w5 [(w4.heap.size, Y), (w2.heap.size, X)]) := HB4.out.later hb5
  clear HB4 hb5
  have hRI := fun W => ReadHead_any u W (by omega)
  have hRS := fun W => sReadHead_any u W (by omega)
  have HTA : Hid (∀ W, Calls Tryd.prog 18 #[.agg #[.int .i64 (HV.rdA u).h, .int .i64 (HV.rdA u).e, .string (HV.rdA u).r, .string (HV.rdA u).p]] W fun e w' => e = .returned (.tuple #[.string (HV.textH (HV.rdA u)), .bool (HV.okH (HV.rdA u))]) ∧ Below W.heap.size W w') := fun W => HeadText_any _ W
  have HP2 : Hid (HV.rdOk u = true → HV.textH (HV.rdA u) = u) := fun h => HV.rd_text h
  generalize HV.okH (HV.rdA u) = oky at *
  generalize HV.textH (HV.rdA u) = again at *
  generalize HV.rdOk u = may at *
  generalize HV.rdA u = Z at *
  go_wp2_with fail
  refine (hRI _).mono ?_
  rintro e w6 ⟨rfl, hb6⟩
  have HB6 : Hid (BX w1 (w6.alloc (.cells #[.int .i64 Z.h, .int .i64 Z.e, .string Z.r, .string Z.p] 33)) [(w6.heap.size, Z), (w4.heap.size, Y), (w2.heap.size, X)]) := (HB5.out.later hb6).add Z
  clear HB5 hb6 hRI
  go_wp2_with fail
  refine (hRS _).mono ?_
  rintro e w7 ⟨rfl, hb7⟩
  have HB7 : Hid (BX w1 (w7.alloc (.cells #[.int .i64 Z.h, .int .i64 Z.e, .string Z.r, .string Z.p] 33)) [(w7.heap.size, Z), (w6.heap.size, Z), (w4.heap.size, Y), (w2.heap.size, X)]) := (HB6.out.later hb7).add Z
  clear HB6 hb7 hRS
  have z0 := (HB7.out.2 (w6.heap.size, Z) (by simp)).1.c0
  have z1 := (HB7.out.2 (w6.heap.size, Z) (by simp)).1.c1
  have z2 := (HB7.out.2 (w6.heap.size, Z) (by simp)).1.c2
  have z3 := (HB7.out.2 (w6.heap.size, Z) (by simp)).1.c3
  simp only at z0 z1 z2 z3
  go_wp2_with fail
  refine (HTA.out _).mono ?_
  rintro e w8 ⟨rfl, hb8⟩
  have HB8 : Hid (BX w1 (w8.alloc (.cells #[.int .i64 X.h, .int .i64 X.e, .string X.r, .string X.p] 33)) [(w8.heap.size, X), (w7.heap.size, Z), (w6.heap.size, Z), (w4.heap.size, Y), (w2.heap.size, X)]) := (HB7.out.later hb8).add X
  have HB8' : Hid (BX w1 w8 [(w7.heap.size, Z), (w6.heap.size, Z), (w4.heap.size, Y), (w2.heap.size, X)]) := HB7.out.later hb8
  have HNE0 : Hid (w2.heap.size ≠ w8.heap.size ∧ w4.heap.size ≠ w8.heap.size ∧ w6.heap.size ≠ w8.heap.size ∧ w7.heap.size ≠ w8.heap.size) := by
    have a1 := ((HB7.out.later hb8).2 (w2.heap.size, X) (by simp)).1.lt
    have a2 := ((HB7.out.later hb8).2 (w4.heap.size, Y) (by simp)).1.lt
    have a3 := ((HB7.out.later hb8).2 (w6.heap.size, Z) (by simp)).1.lt
    have a4 := ((HB7.out.later hb8).2 (w7.heap.size, Z) (by simp)).1.lt
    simp only at a1 a2 a3 a4
    exact ⟨by omega, by omega, by omega, by omega⟩
  clear HB7 hb8 HTA z0 z1 z2 z3
  have z0 := (HB8'.out.2 (w2.heap.size, X) (by simp)).1.c0
  have z1 := (HB8'.out.2 (w2.heap.size, X) (by simp)).1.c1
  have z2 := (HB8'.out.2 (w2.heap.size, X) (by simp)).1.c2
  have z3 := (HB8'.out.2 (w2.heap.size, X) (by simp)).1.c3
  simp only at z0 z1 z2 z3
  clear HB8'
  go_wp2_with fail
  clear z0 z1 z2 z3
  have HKB : Hid (∀ W, Below (w8.alloc (.cells #[.int .i64 X.h, .int .i64 X.e, .string X.r, .string X.p] 33)).heap.size (w8.alloc (.cells #[.int .i64 X.h, .int .i64 X.e, .string X.r, .string X.p] 33)) W → BX w1 W [(w8.heap.size, X), (w7.heap.size, Z), (w6.heap.size, Z), (w4.heap.size, Y), (w2.heap.size, X)]) := fun W hW => HB8.out.later hW
  have HK : Hid (∀ W, Below (w8.alloc (.cells #[.int .i64 X.h, .int .i64 X.e, .string X.r, .string X.p] 33)).heap.size (w8.alloc (.cells #[.int .i64 X.h, .int .i64 X.e, .string X.r, .string X.p] 33)) W → W.cell? ⟨w2.heap.size, 2, none⟩ = some (.string X.r)) := fun W hW => ((HKB.out W hW).2 (w2.heap.size, X) (by simp)).1.c2
  have HNE : Hid (w2.heap.size ≠ w8.heap.size ∧ w4.heap.size ≠ w8.heap.size ∧ w6.heap.size ≠ w8.heap.size ∧ w7.heap.size ≠ w8.heap.size) := HNE0.out
  have HKS : Hid (∀ W (y : ByteArray), Below (w8.alloc (.cells #[.int .i64 X.h, .int .i64 X.e, .string X.r, .string X.p] 33)).heap.size (w8.alloc (.cells #[.int .i64 X.h, .int .i64 X.e, .string X.r, .string X.p] 33)) W → (W.setCell ⟨w8.heap.size, 2, none⟩ (.string y)).cell? ⟨w2.heap.size, 2, none⟩ = some (.string X.r)) := fun W y hW => (((HKB.out W hW).2 (w2.heap.size, X) (by simp)).1.grown (grown_setC _ _ _ _) (by simpa using HNE.out.1)).c2
  have hb : Below (w8.alloc (.cells #[.int .i64 X.h, .int .i64 X.e, .string X.r, .string X.p] 33)).heap.size (w8.alloc (.cells #[.int .i64 X.h, .int .i64 X.e, .string X.r, .string X.p] 33)) (w8.alloc (.cells #[.int .i64 X.h, .int .i64 X.e, .string X.r, .string X.p] 33)).drew := (Below.refl _ _).drew
  have hxr : X.r.size ≤ 100000 := by have := HX.out.1; omega
  go_region_held3 (fun W => W.cell? ⟨w2.heap.size, 2, none⟩ = some (.string X.r)) (first | (go_keep; done) | exact HK.out _ hb | exact HKS.out _ _ hb) (first | (go_at_call 10; refine (DrawPlaces_any _ _ (HC.out _ (HKB.out _ hb).1)).mono ?_; rintro e w9 ⟨pl, rfl, ⟨gp, pc, xs, rfl, hxl, hxs, hg1, hg2, hcells⟩, hb9⟩; have x0 := hcells 0 (by omega); have x1 := hcells 1 (by omega); have y0 : xs[0] < 10000 := hxs _ (List.getElem_mem _); have y1 : xs[1] < 10000 := hxs _ (List.getElem_mem _); have hb := hb.trans (hb9.mono hb.size)) | (go_at_call 15; refine (turned_all X.r gp pc xs[0] xs[1] _ hxr y0 y1 hg2 x0 x1).mono ?_; rintro e w10 ⟨r2, hr1, hr2, rfl, hb10⟩; have hb := hb.trans (hb10.mono hb.size); have t2 := ((HKB.out _ hb).2 (w8.heap.size, X) (by simp)).1.c2; have g2 := ((HKB.out _ hb).2 (w8.heap.size, X) (by simp)).1.fz 2))
  have HW : Hid (BX w1 (w10.setCell ⟨w8.heap.size, 2, none⟩ (.string r2)) [(w8.heap.size, ⟨X.h, X.e, r2, X.p⟩), (w4.heap.size, Y), (w2.heap.size, X)]) := by
    have h := HKB.out _ hb
    have a8 := h.2 (w8.heap.size, X) (by simp)
    have a4 := h.2 (w4.heap.size, Y) (by simp)
    have a2 := h.2 (w2.heap.size, X) (by simp)
    simp only at a8 a4 a2
    refine ⟨h.1.setCell (p := ⟨w8.heap.size, 2, none⟩) a8.2 _, fun b hbl => ?_⟩
    simp only [List.mem_cons, List.not_mem_nil, or_false] at hbl
    rcases hbl with rfl | rfl | rfl
    · exact ⟨a8.1.set2 r2, a8.2⟩
    · exact ⟨a4.1.grown (grown_setC _ _ _ _) (by simpa using HNE.out.2.1), a4.2⟩
    · exact ⟨a2.1.grown (grown_setC _ _ _ _) (by simpa using HNE.out.1), a2.2⟩
  have HP3 : Hid (ok = true → HV.textH ⟨X.h, X.e, r2, X.p⟩ ≠ t) := fun h => by
    obtain ⟨_, _, h3, h4⟩ := HP1.out h
    exact h4 r2 (hr2 h3).1 (hr2 h3).2
  have HTO : Hid (∀ W, Calls Tryd.prog 18 #[.agg #[.int .i64 X.h, .int .i64 X.e, .string r2, .string X.p]] W fun e w' => e = .returned (.tuple #[.string (HV.textH ⟨X.h, X.e, r2, X.p⟩), .bool (HV.okH ⟨X.h, X.e, r2, X.p⟩)]) ∧ Below W.heap.size W w') := fun W => HeadText_any ⟨X.h, X.e, r2, X.p⟩ W
  have HP1' : Hid (ok = true → right = true ∧ Y = X) := fun h => ⟨(HP1.out h).1, (HP1.out h).2.1⟩
  generalize HV.okH ⟨X.h, X.e, r2, X.p⟩ = oko at *
  generalize HV.textH ⟨X.h, X.e, r2, X.p⟩ = other at *
  clear HP1 hr1 hr2 t2 g2 HKB HK HKS HNE HNE0 HB8 HX hxr HC x0 x1 y0 y1
  generalize (w10.setCell ⟨w8.heap.size, 2, none⟩ (.string r2)) = w11 at *
  have z0 := (HW.out.2 (w8.heap.size, ⟨X.h, X.e, r2, X.p⟩) (by simp)).1.c0
  have z1 := (HW.out.2 (w8.heap.size, ⟨X.h, X.e, r2, X.p⟩) (by simp)).1.c1
  have z2 := (HW.out.2 (w8.heap.size, ⟨X.h, X.e, r2, X.p⟩) (by simp)).1.c2
  have z3 := (HW.out.2 (w8.heap.size, ⟨X.h, X.e, r2, X.p⟩) (by simp)).1.c3
  simp only at z0 z1 z2 z3
  go_wp2_with fail
  refine (HTO.out _).mono ?_
  rintro e w12 ⟨rfl, hb12⟩
  have HW12 : Hid (BX w1 w12 [(w8.heap.size, ⟨X.h, X.e, r2, X.p⟩), (w4.heap.size, Y), (w2.heap.size, X)]) := HW.out.later hb12
  clear HTO hb12 HW z0 z1 z2 z3
  have x0 := (HW12.out.2 (w2.heap.size, X) (by simp)).1.c0
  have x1 := (HW12.out.2 (w2.heap.size, X) (by simp)).1.c1
  have x2 := (HW12.out.2 (w2.heap.size, X) (by simp)).1.c2
  have x3 := (HW12.out.2 (w2.heap.size, X) (by simp)).1.c3
  have y0 := (HW12.out.2 (w4.heap.size, Y) (by simp)).1.c0
  have y1 := (HW12.out.2 (w4.heap.size, Y) (by simp)).1.c1
  have y2 := (HW12.out.2 (w4.heap.size, Y) (by simp)).1.c2
  have y3 := (HW12.out.2 (w4.heap.size, Y) (by simp)).1.c3
  simp only at x0 x1 x2 x3 y0 y1 y2 y3
  have HB12 : Hid (Below w1.heap.size w1 w12) := HW12.out.1
  clear HW12
  go_wp2_with fail
  cases ok
  · clear HP1' HP3
    cases may
    · clear HP2
      have kx0 := cell_regrown (w := w12) x0
      have kx1 := cell_regrown (w := w12) x1
      have kx2 := cell_regrown (w := w12) x2
      have kx3 := cell_regrown (w := w12) x3
      have ky0 := cell_regrown (w := w12) y0
      have ky1 := cell_regrown (w := w12) y1
      have ky2 := cell_regrown (w := w12) y2
      have ky3 := cell_regrown (w := w12) y3
      have cq0 := fun d os => Calls.regrown_of (w := w12) (d := d) (os := os) (HOS.out _)
      have cq1 := fun d os => Calls.regrown_of (w := w12) (d := d) (os := os) (HOI.out _)
      have cq2 := fun d os => Calls.regrown_of (w := w12) (d := d) (os := os) (HHI.out _ (HB12.out.trans ((below_regrown w12 d os).mono HB12.out.size)))
      have cq3 := fun d os => Calls.regrown_of (w := w12) (d := d) (os := os) (HHS.out _)
      refine wp_region_quiet_below (by kernel_rfl) (by kernel_rfl) ?_
      repeat (go_big_quiet_step (first | (with_reducible exact cq0 _ _) | (with_reducible exact cq1 _ _) | (with_reducible exact cq2 _ _) | (with_reducible exact cq3 _ _)))
      refine wpQuiet_nil ?_
      rintro _ ⟨⟨dq, osq⟩, rfl⟩
      have hb13 := HB12.out.trans ((below_regrown w12 dq osq).mono HB12.out.size)
      generalize grow (redrawn w12 dq) osq = w13 at *
      clear kx0 kx1 kx2 kx3 ky0 ky1 ky2 ky3 cq0 cq1 cq2 cq3 x0 x1 x2 x3 y0 y1 y2 y3
      go_wp2
      go_ret
      exact ⟨rfl, hb13⟩
    · have hu := HP2.out rfl
      subst hu
      clear HP2
      have kx0 := cell_regrown (w := w12) x0
      have kx1 := cell_regrown (w := w12) x1
      have kx2 := cell_regrown (w := w12) x2
      have kx3 := cell_regrown (w := w12) x3
      have ky0 := cell_regrown (w := w12) y0
      have ky1 := cell_regrown (w := w12) y1
      have ky2 := cell_regrown (w := w12) y2
      have ky3 := cell_regrown (w := w12) y3
      have cq0 := fun d os => Calls.regrown_of (w := w12) (d := d) (os := os) (HOS.out _)
      have cq1 := fun d os => Calls.regrown_of (w := w12) (d := d) (os := os) (HOI.out _)
      have cq2 := fun d os => Calls.regrown_of (w := w12) (d := d) (os := os) (HHI.out _ (HB12.out.trans ((below_regrown w12 d os).mono HB12.out.size)))
      have cq3 := fun d os => Calls.regrown_of (w := w12) (d := d) (os := os) (HHS.out _)
      refine wp_region_quiet_below (by kernel_rfl) (by kernel_rfl) ?_
      repeat (go_big_quiet_step (first | (with_reducible exact cq0 _ _) | (with_reducible exact cq1 _ _) | (with_reducible exact cq2 _ _) | (with_reducible exact cq3 _ _)))
      refine wpQuiet_nil ?_
      rintro _ ⟨⟨dq, osq⟩, rfl⟩
      have hb13 := HB12.out.trans ((below_regrown w12 dq osq).mono HB12.out.size)
      generalize grow (redrawn w12 dq) osq = w13 at *
      clear kx0 kx1 kx2 kx3 ky0 ky1 ky2 ky3 cq0 cq1 cq2 cq3 x0 x1 x2 x3 y0 y1 y2 y3
      go_wp2
      go_ret
      exact ⟨rfl, hb13⟩
  · obtain ⟨hrt, hYX⟩ := HP1'.out rfl
    subst hrt
    subst hYX
    have hne : (other.toList == t.toList) = false := by
      rw [Bool.eq_false_iff]
      intro hh
      exact HP3.out rfl (F.toList_inj (by simpa using hh))
    have hne' : ¬ other.toList = t.toList := fun hh => HP3.out rfl (F.toList_inj hh)
    clear HP1' HP3
    cases may
    · clear HP2
      have kx0 := cell_regrown (w := w12) x0
      have kx1 := cell_regrown (w := w12) x1
      have kx2 := cell_regrown (w := w12) x2
      have kx3 := cell_regrown (w := w12) x3
      have ky0 := cell_regrown (w := w12) y0
      have ky1 := cell_regrown (w := w12) y1
      have ky2 := cell_regrown (w := w12) y2
      have ky3 := cell_regrown (w := w12) y3
      have cq0 := fun d os => Calls.regrown_of (w := w12) (d := d) (os := os) (HOS.out _)
      have cq1 := fun d os => Calls.regrown_of (w := w12) (d := d) (os := os) (HOI.out _)
      have cq2 := fun d os => Calls.regrown_of (w := w12) (d := d) (os := os) (HHI.out _ (HB12.out.trans ((below_regrown w12 d os).mono HB12.out.size)))
      have cq3 := fun d os => Calls.regrown_of (w := w12) (d := d) (os := os) (HHS.out _)
      refine wp_region_quiet_below (by kernel_rfl) (by kernel_rfl) ?_
      repeat (go_big_quiet_step (first | (with_reducible exact cq0 _ _) | (with_reducible exact cq1 _ _) | (with_reducible exact cq2 _ _) | (with_reducible exact cq3 _ _)))
      refine wpQuiet_nil ?_
      rintro _ ⟨⟨dq, osq⟩, rfl⟩
      have hb13 := HB12.out.trans ((below_regrown w12 dq osq).mono HB12.out.size)
      generalize grow (redrawn w12 dq) osq = w13 at *
      clear kx0 kx1 kx2 kx3 ky0 ky1 ky2 ky3 cq0 cq1 cq2 cq3 x0 x1 x2 x3 y0 y1 y2 y3
      go_wp2
      go_ret
      exact ⟨rfl, hb13⟩
    · have hu := HP2.out rfl
      subst hu
      clear HP2
      have kx0 := cell_regrown (w := w12) x0
      have kx1 := cell_regrown (w := w12) x1
      have kx2 := cell_regrown (w := w12) x2
      have kx3 := cell_regrown (w := w12) x3
      have ky0 := cell_regrown (w := w12) y0
      have ky1 := cell_regrown (w := w12) y1
      have ky2 := cell_regrown (w := w12) y2
      have ky3 := cell_regrown (w := w12) y3
      have cq0 := fun d os => Calls.regrown_of (w := w12) (d := d) (os := os) (HOS.out _)
      have cq1 := fun d os => Calls.regrown_of (w := w12) (d := d) (os := os) (HOI.out _)
      have cq2 := fun d os => Calls.regrown_of (w := w12) (d := d) (os := os) (HHI.out _ (HB12.out.trans ((below_regrown w12 d os).mono HB12.out.size)))
      have cq3 := fun d os => Calls.regrown_of (w := w12) (d := d) (os := os) (HHS.out _)
      refine wp_region_quiet_below (by kernel_rfl) (by kernel_rfl) ?_
      repeat (go_big_quiet_step (first | (with_reducible exact cq0 _ _) | (with_reducible exact cq1 _ _) | (with_reducible exact cq2 _ _) | (with_reducible exact cq3 _ _)))
      refine wpQuiet_nil ?_
      rintro _ ⟨⟨dq, osq⟩, rfl⟩
      have hb13 := HB12.out.trans ((below_regrown w12 dq osq).mono HB12.out.size)
      generalize grow (redrawn w12 dq) osq = w13 at *
      clear kx0 kx1 kx2 kx3 ky0 ky1 ky2 ky3 cq0 cq1 cq2 cq3 x0 x1 x2 x3 y0 y1 y2 y3
      go_wp2
      go_ret
      exact ⟨rfl, hb13⟩

end Go.Proofs.YtlpbfafcaleifaaDoor
