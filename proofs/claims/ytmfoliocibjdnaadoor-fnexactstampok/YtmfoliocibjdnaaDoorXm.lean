/-
  The walk of the law FnExactStampOk: it answers true of every root, head and signature.
-/
import Derived.Test.YtmfoliocibjdnaaDoorXk
import Derived.Test.YtmfoliocibjdnaaDoorXg
import Derived.Deep.RegionHeld3
namespace Go.Proofs.YtmfoliocibjdnaaDoor
open Go.RowKit Go.BigFrame Go.Sort
set_option linter.unusedVariables false
set_option linter.unusedSimpArgs false

set_option maxRecDepth 100000 in
set_option maxHeartbeats 2000000 in
theorem stampOkLaw_in (RT : ByteArray) (hRT : RT.size ≤ 1048576) (x : Hd) (hr : x.r.size ≤ 9223372036854775807) (hp : x.p.size ≤ 9223372036854775807) (i : Int) (a1 : Option Addr) (n1 k1 : Nat) (z1 : List ByteArray) (a2 : Option Addr) (n2 k2 : Nat) (z2 : List ByteArray) (a3 : Option Addr) (n3 k3 : Nat) (z3 : List ByteArray) (w : World) (h1 : IsRowS w a1 n1 k1 z1) (h2 : IsRowS w a2 n2 k2 z2) (h3 : IsRowS w a3 n3 k3 z3) (hT : Tb w) :
    Calls Tryd.prog 13 #[.string RT, .agg #[.int .i64 x.h, .int .i64 x.e, .string x.r, .string x.p], .agg #[.int .i64 i, .slice a1 n1 k1, .slice a2 n2 k2, .slice a3 n3 k3]] w fun e w' => e = .returned (.bool true) ∧ Below w.heap.size w w' := by
  have HSH : Hid (∀ W, Calls Tryd.prog 65 #[.agg #[.int .i64 x.h, .int .i64 x.e, .string x.r, .string x.p], .int .i64 1048576] W fun e w' => ∃ A : Int, e = .returned (.int .i64 A) ∧ Below W.heap.size W w' ∧ A ≤ 1048576 ∧ (0 ≤ A → x.r.size ≤ 1048576 ∧ x.p.size ≤ 1048576)) := fun W => szHead_any x 1048576 W (by omega) (by omega) hr hp
  have HSS : Hid (∀ W y, Below w.heap.size w W → 0 ≤ y → y ≤ 1048576 → Calls Tryd.prog 61 #[.agg #[.int .i64 i, .slice a1 n1 k1, .slice a2 n2 k2, .slice a3 n3 k3], .int .i64 y] W fun e w' => ∃ A : Int, e = .returned (.int .i64 A) ∧ Below W.heap.size W w' ∧ (0 ≤ A → n1 ≤ 1048576 ∧ n2 ≤ 1048576 ∧ n3 ≤ 1048576)) := fun W y hW h0 hy => szSig_at i a1 a2 a3 n1 n2 n3 k1 k2 k3 z1 z2 z3 y W h0 hy (h1.later hW) (h2.later hW) (h3.later hW)
  have HTH : Hid (∀ W, Calls Tryd.prog 68 #[.agg #[.int .i64 x.h, .int .i64 x.e, .string x.r, .string x.p]] W fun e w' => e = .returned (.agg #[.int .i64 x.h, .int .i64 x.e, .string x.r, .string x.p]) ∧ Below W.heap.size W w') := fun W => toHead_any x W
  have HOK : Hid (∀ W O S D u1 u2 u3 q1 q2 q3, Below w.heap.size w W → TS W u1 q1 O → TS W u2 q2 S → TS W u3 q3 D → Calls Tryd.prog 59 #[.string RT, .agg #[.int .i64 x.h, .int .i64 x.e, .string x.r, .string x.p], .agg #[.int .i64 i, u1, u2, u3]] W fun e w' => e = .returned (.bool (stR RT x i O S D)) ∧ Below W.heap.size W w') := fun W O S D u1 u2 u3 q1 q2 q3 hW t1 t2 t3 => StampOk_any RT x i u1 u2 u3 q1 0 q2 0 q3 0 O S D W t1.ss t2.ss t3.ss (hT.later hW)
  have HSK : Hid (∀ W O S D u1 u2 u3 q1 q2 q3, TS W u1 q1 O → TS W u2 q2 S → TS W u3 q3 D → Calls Tryd.prog 60 #[.string RT, .agg #[.int .i64 x.h, .int .i64 x.e, .string x.r, .string x.p], .agg #[.int .i64 i, u1, u2, u3]] W fun e w' => e = .returned (.bool (stR RT x i O S D)) ∧ Below W.heap.size W w') := fun W O S D u1 u2 u3 q1 q2 q3 t1 t2 t3 => sStampOk_any RT x i u1 u2 u3 q1 0 q2 0 q3 0 O S D W t1.ss t2.ss t3.ss
  have HR : Hid (IsRowS w a1 n1 k1 z1 ∧ IsRowS w a2 n2 k2 z2 ∧ IsRowS w a3 n3 k3 z3) := ⟨h1, h2, h3⟩
  clear h1 h2 h3 hT hr hp
  have HRQ : Hid (∀ O S D, stR RT x i O S D = stR RT x i O S D) := fun _ _ _ => rfl
  generalize hst : stR RT x i = F at *
  obtain ⟨h, ep, r, p⟩ := x
  simp only at HSH HTH HOK HSK ⊢
  clear hst HRQ
  have HX : Hid (Below w.heap.size w ((w.alloc (.cells #[.int .i64 h, .int .i64 ep, .string r, .string p] 77)).alloc (.cells #[.int .i64 i, .slice a1 n1 k1, .slice a2 n2 k2, .slice a3 n3 k3] 73)) ∧ RB ((w.alloc (.cells #[.int .i64 h, .int .i64 ep, .string r, .string p] 77)).alloc (.cells #[.int .i64 i, .slice a1 n1 k1, .slice a2 n2 k2, .slice a3 n3 k3] 73)) w.heap.size ⟨h, ep, r, p⟩ ∧ BX ((w.alloc (.cells #[.int .i64 h, .int .i64 ep, .string r, .string p] 77)).alloc (.cells #[.int .i64 i, .slice a1 n1 k1, .slice a2 n2 k2, .slice a3 n3 k3] 73)) (w.heap.size + 1) i (.slice a1 n1 k1) (.slice a2 n2 k2) (.slice a3 n3 k3)) :=
    ⟨((Below.refl _ _).alloc (Nat.le_refl _) _).alloc (by simp) _, (RB.new w ⟨h, ep, r, p⟩ _).later ((Below.refl _ _).alloc (Nat.le_refl _) _), alloc_fst _ _ (by simp)⟩
  go_enter Tryd.func13, Tryd.ntmps13
  go_wp2_with fail
  refine (HSH.out _).mono ?_
  rintro e1 w1 ⟨A, rfl, hb1, hA1, hA2⟩
  have HX1 : Hid (Below w.heap.size w w1 ∧ RB w1 w.heap.size ⟨h, ep, r, p⟩ ∧ BX w1 (w.heap.size + 1) i (.slice a1 n1 k1) (.slice a2 n2 k2) (.slice a3 n3 k3)) := ⟨HX.out.1.trans (hb1.mono HX.out.1.size), HX.out.2.1.later hb1, HX.out.2.2.later hb1⟩
  clear hb1 HX hA2
  by_cases hneg : A < 0
  · go_wp2
    go_ret
    exact ⟨rfl, HX1.out.1⟩
  obtain ⟨y0, y1, y2, y3⟩ := HX1.out.2.2.cells
  go_wp2_with fail
  refine (HSS.out _ A HX1.out.1 (by omega) hA1).mono ?_
  rintro e2 w2 ⟨B, rfl, hb2, hB⟩
  have HX2 : Hid (Below w.heap.size w w2 ∧ RB w2 w.heap.size ⟨h, ep, r, p⟩ ∧ BX w2 (w.heap.size + 1) i (.slice a1 n1 k1) (.slice a2 n2 k2) (.slice a3 n3 k3)) := ⟨HX1.out.1.trans (hb2.mono HX1.out.1.size), HX1.out.2.1.later hb2, HX1.out.2.2.later hb2⟩
  clear hb2 HX1 y0 y1 y2 y3 HSH HSS
  by_cases hneg2 : B < 0
  · clear hB
    go_wp2
    go_ret
    exact ⟨rfl, HX2.out.1⟩
  obtain ⟨m1, m2, m3⟩ := hB (by omega)
  obtain ⟨g1, o1, O, lO, sO, _⟩ := ss_of_row HR.out.1 m1
  obtain ⟨g2, o2, S, lS, sS, _⟩ := ss_of_row HR.out.2.1 m2
  obtain ⟨g3, o3, D, lD, sD, _⟩ := ss_of_row HR.out.2.2 m3
  have HTO : Hid (∀ W, Below w.heap.size w W → Calls Tryd.prog 62 #[.agg #[.int .i64 i, .slice a1 n1 k1, .slice a2 n2 k2, .slice a3 n3 k3]] W fun e w' => ∃ b1 j1 c1 b2 j2 c2 b3 j3 c3 p1 p2 p3, e = .returned (.agg #[.int .i64 i, .slice b1 j1 c1, .slice b2 j2 c2, .slice b3 j3 c3]) ∧ (TS w' (.slice b1 j1 c1) p1 O ∧ TS w' (.slice b2 j2 c2) p2 S ∧ TS w' (.slice b3 j3 c3) p3 D) ∧ Below W.heap.size W w') := fun W hW => by
    refine (toSig_any i _ _ _ g1 o1 g2 o2 g3 o3 O S D W (sO.below hW sO.lt) (sS.below hW sS.lt) (sD.below hW sD.lt)).mono ?_
    rintro e w' ⟨v, rfl, ⟨v1, v2, v3, p1, p2, p3, rfl, ⟨t1, t2, t3⟩, _, _⟩, hb⟩
    obtain ⟨b1, c1, rfl, _⟩ := id t1
    obtain ⟨b2, c2, rfl, _⟩ := id t2
    obtain ⟨b3, c3, rfl, _⟩ := id t3
    exact ⟨b1, _, c1, b2, _, c2, b3, _, c3, p1, p2, p3, rfl, ⟨t1, t2, t3⟩, hb⟩
  have HOK2 : Hid (∀ W u1 u2 u3 q1 q2 q3, Below w.heap.size w W → TS W u1 q1 O → TS W u2 q2 S → TS W u3 q3 D → Calls Tryd.prog 59 #[.string RT, .agg #[.int .i64 h, .int .i64 ep, .string r, .string p], .agg #[.int .i64 i, u1, u2, u3]] W fun e w' => e = .returned (.bool (F O S D)) ∧ Below W.heap.size W w') := fun W u1 u2 u3 q1 q2 q3 hW t1 t2 t3 => HOK.out W O S D u1 u2 u3 q1 q2 q3 hW t1 t2 t3
  have HSK2 : Hid (∀ W u1 u2 u3 q1 q2 q3, TS W u1 q1 O → TS W u2 q2 S → TS W u3 q3 D → Calls Tryd.prog 60 #[.string RT, .agg #[.int .i64 h, .int .i64 ep, .string r, .string p], .agg #[.int .i64 i, u1, u2, u3]] W fun e w' => e = .returned (.bool (F O S D)) ∧ Below W.heap.size W w') := fun W u1 u2 u3 q1 q2 q3 t1 t2 t3 => HSK.out W O S D u1 u2 u3 q1 q2 q3 t1 t2 t3
  have HEQ : Hid (∀ W v1 v2 v3 u1 u2 u3 p1 p2 p3 q1 q2 q3, (TS W v1 p1 O ∧ TS W v2 p2 S ∧ TS W v3 p3 D) → (TS W u1 q1 O ∧ TS W u2 q2 S ∧ TS W u3 q3 D) → Calls Tryd.prog 63 #[.agg #[.int .i64 i, v1, v2, v3], .agg #[.int .i64 i, u1, u2, u3]] W fun e w' => e = .returned (.bool true) ∧ Below W.heap.size W w') := fun W v1 v2 v3 u1 u2 u3 p1 p2 p3 q1 q2 q3 t u => eqSig_yes i v1 v2 v3 u1 u2 u3 p1 0 p2 0 p3 0 q1 0 q2 0 q3 0 O S D W t.1.ss t.2.1.ss t.2.2.ss u.1.ss u.2.1.ss u.2.2.ss
  clear sO sS sD lO lS lD m1 m2 m3 hB HR HOK HSK
  generalize F O S D = RR at *
  have HK2 : Hid (∀ W, Below w2.heap.size w2 W → (W.cell? ⟨w.heap.size, 0, none⟩ = some (.int .i64 h) ∧ W.cell? ⟨w.heap.size, 1, none⟩ = some (.int .i64 ep) ∧ W.cell? ⟨w.heap.size, 2, none⟩ = some (.string r) ∧ W.cell? ⟨w.heap.size, 3, none⟩ = some (.string p)) ∧ W.cell? ⟨w.heap.size + 1, 0, none⟩ = some (.int .i64 i) ∧ W.cell? ⟨w.heap.size + 1, 1, none⟩ = some (.slice a1 n1 k1) ∧ W.cell? ⟨w.heap.size + 1, 2, none⟩ = some (.slice a2 n2 k2) ∧ W.cell? ⟨w.heap.size + 1, 3, none⟩ = some (.slice a3 n3 k3)) := fun W hW => ⟨⟨(HX2.out.2.1.later hW).c0, (HX2.out.2.1.later hW).c1, (HX2.out.2.1.later hW).c2, (HX2.out.2.1.later hW).c3⟩, (HX2.out.2.2.later hW).cells⟩
  have hb : Below w2.heap.size w2 w2.drew := (Below.refl _ _).drew
  have HBW : Hid (∀ W, Below w2.heap.size w2 W → Below w.heap.size w W) := fun W hW => HX2.out.1.trans (hW.mono HX2.out.1.size)
  go_wp2
  go_region_held3 (fun W => (W.cell? ⟨w.heap.size, 0, none⟩ = some (.int .i64 h) ∧ W.cell? ⟨w.heap.size, 1, none⟩ = some (.int .i64 ep) ∧ W.cell? ⟨w.heap.size, 2, none⟩ = some (.string r) ∧ W.cell? ⟨w.heap.size, 3, none⟩ = some (.string p)) ∧ W.cell? ⟨w.heap.size + 1, 0, none⟩ = some (.int .i64 i) ∧ W.cell? ⟨w.heap.size + 1, 1, none⟩ = some (.slice a1 n1 k1) ∧ W.cell? ⟨w.heap.size + 1, 2, none⟩ = some (.slice a2 n2 k2) ∧ W.cell? ⟨w.heap.size + 1, 3, none⟩ = some (.slice a3 n3 k3)) (first | (go_keep; done) | exact HK2.out _ hb) ((first | (go_at_call 68; refine (HTH.out _).mono ?_; rintro e3 w3 ⟨rfl, hb3⟩; have hb := hb.trans (hb3.mono hb.size)) | (go_at_call 62; refine (HTO.out _ (HBW.out _ hb)).mono ?_; rintro e4 w4 ⟨b1, j1, c1, b2, j2, c2, b3, j3, c3, p1, p2, p3, rfl, ⟨t1, t2, t3⟩, hb4⟩; have hb := hb.trans (hb4.mono hb.size)) | (go_at_call 60; refine (HSK2.out _ _ _ _ p1 p2 p3 t1 t2 t3).mono ?_; rintro e5 w5 ⟨rfl, hb5⟩; have hb := hb.trans (hb5.mono hb.size)) | fail))
  have HX5 : Hid (Below w.heap.size w w5 ∧ RB w5 w.heap.size ⟨h, ep, r, p⟩ ∧ BX w5 (w.heap.size + 1) i (.slice a1 n1 k1) (.slice a2 n2 k2) (.slice a3 n3 k3)) := ⟨HBW.out _ hb, HX2.out.2.1.later hb, HX2.out.2.2.later hb⟩
  clear hb hb3 hb4 hb5 t1 t2 t3 HX2 HK2 HBW HSK2
  obtain ⟨y0, y1, y2, y3⟩ := HX5.out.2.2.cells
  go_wp2_with fail
  refine (HTO.out _ HX5.out.1).mono ?_
  rintro e6 w6 ⟨b1, j1, c1, b2, j2, c2, b3, j3, c3, p1, p2, p3, rfl, ⟨t1, t2, t3⟩, hb6⟩
  have HX6 : Hid (Below w.heap.size w (w6.alloc (.cells #[.int .i64 i, .slice b1 j1 c1, .slice b2 j2 c2, .slice b3 j3 c3] 26)) ∧ RB (w6.alloc (.cells #[.int .i64 i, .slice b1 j1 c1, .slice b2 j2 c2, .slice b3 j3 c3] 26)) w.heap.size ⟨h, ep, r, p⟩ ∧ BX (w6.alloc (.cells #[.int .i64 i, .slice b1 j1 c1, .slice b2 j2 c2, .slice b3 j3 c3] 26)) (w.heap.size + 1) i (.slice a1 n1 k1) (.slice a2 n2 k2) (.slice a3 n3 k3) ∧ WSg (w6.alloc (.cells #[.int .i64 i, .slice b1 j1 c1, .slice b2 j2 c2, .slice b3 j3 c3] 26)) w6.heap.size i (.slice b1 j1 c1) (.slice b2 j2 c2) (.slice b3 j3 c3) p1 p2 p3 O S D) := by
    have k1 := HX5.out.1.trans (hb6.mono HX5.out.1.size)
    have k2 : Below w6.heap.size w6 (w6.alloc (.cells #[.int .i64 i, .slice b1 j1 c1, .slice b2 j2 c2, .slice b3 j3 c3] 26)) := (Below.refl _ _).alloc (Nat.le_refl _) _
    exact ⟨k1.alloc k1.size _, (HX5.out.2.1.later hb6).later k2, (HX5.out.2.2.later hb6).later k2, WSg.new w6 i _ _ _ p1 p2 p3 O S D t1 t2 t3⟩
  clear t1 t2 t3 hb6 HX5 y0 y1 y2 y3
  have HK6 : Hid (∀ W, Below (w6.alloc (.cells #[.int .i64 i, .slice b1 j1 c1, .slice b2 j2 c2, .slice b3 j3 c3] 26)).heap.size (w6.alloc (.cells #[.int .i64 i, .slice b1 j1 c1, .slice b2 j2 c2, .slice b3 j3 c3] 26)) W → (W.cell? ⟨w.heap.size, 0, none⟩ = some (.int .i64 h) ∧ W.cell? ⟨w.heap.size, 1, none⟩ = some (.int .i64 ep) ∧ W.cell? ⟨w.heap.size, 2, none⟩ = some (.string r) ∧ W.cell? ⟨w.heap.size, 3, none⟩ = some (.string p)) ∧ W.cell? ⟨w6.heap.size, 0, none⟩ = some (.int .i64 i) ∧ W.cell? ⟨w6.heap.size, 1, none⟩ = some (.slice b1 j1 c1) ∧ W.cell? ⟨w6.heap.size, 2, none⟩ = some (.slice b2 j2 c2) ∧ W.cell? ⟨w6.heap.size, 3, none⟩ = some (.slice b3 j3 c3)) := fun W hW => ⟨⟨(HX6.out.2.1.later hW).c0, (HX6.out.2.1.later hW).c1, (HX6.out.2.1.later hW).c2, (HX6.out.2.1.later hW).c3⟩, (HX6.out.2.2.2.later hW).1.c0, (HX6.out.2.2.2.later hW).1.c1, (HX6.out.2.2.2.later hW).1.c2, (HX6.out.2.2.2.later hW).1.c3⟩
  have hb : Below (w6.alloc (.cells #[.int .i64 i, .slice b1 j1 c1, .slice b2 j2 c2, .slice b3 j3 c3] 26)).heap.size (w6.alloc (.cells #[.int .i64 i, .slice b1 j1 c1, .slice b2 j2 c2, .slice b3 j3 c3] 26)) (w6.alloc (.cells #[.int .i64 i, .slice b1 j1 c1, .slice b2 j2 c2, .slice b3 j3 c3] 26)).drew := (Below.refl _ _).drew
  have HO7 : Hid (∀ W, Below (w6.alloc (.cells #[.int .i64 i, .slice b1 j1 c1, .slice b2 j2 c2, .slice b3 j3 c3] 26)).heap.size (w6.alloc (.cells #[.int .i64 i, .slice b1 j1 c1, .slice b2 j2 c2, .slice b3 j3 c3] 26)) W → Calls Tryd.prog 59 #[.string RT, .agg #[.int .i64 h, .int .i64 ep, .string r, .string p], .agg #[.int .i64 i, .slice b1 j1 c1, .slice b2 j2 c2, .slice b3 j3 c3]] W fun e w' => e = .returned (.bool RR) ∧ Below W.heap.size W w') := fun W hW => HOK2.out W _ _ _ p1 p2 p3 (HX6.out.1.trans (hW.mono HX6.out.1.size)) (HX6.out.2.2.2.later hW).2.1 (HX6.out.2.2.2.later hW).2.2.1 (HX6.out.2.2.2.later hW).2.2.2
  go_wp2
  go_region_held3 (fun W => (W.cell? ⟨w.heap.size, 0, none⟩ = some (.int .i64 h) ∧ W.cell? ⟨w.heap.size, 1, none⟩ = some (.int .i64 ep) ∧ W.cell? ⟨w.heap.size, 2, none⟩ = some (.string r) ∧ W.cell? ⟨w.heap.size, 3, none⟩ = some (.string p)) ∧ W.cell? ⟨w6.heap.size, 0, none⟩ = some (.int .i64 i) ∧ W.cell? ⟨w6.heap.size, 1, none⟩ = some (.slice b1 j1 c1) ∧ W.cell? ⟨w6.heap.size, 2, none⟩ = some (.slice b2 j2 c2) ∧ W.cell? ⟨w6.heap.size, 3, none⟩ = some (.slice b3 j3 c3)) (first | (go_keep; done) | exact HK6.out _ hb) ((first | (go_at_call 68; refine (HTH.out _).mono ?_; rintro e7 w7 ⟨rfl, hb7⟩; have hb := hb.trans (hb7.mono hb.size)) | (go_at_call 59; refine (HO7.out _ hb).mono ?_; rintro e8 w8 ⟨rfl, hb8⟩; have hb := hb.trans (hb8.mono hb.size)) | fail))
  have HX8 : Hid (Below w.heap.size w w8 ∧ BX w8 (w.heap.size + 1) i (.slice a1 n1 k1) (.slice a2 n2 k2) (.slice a3 n3 k3) ∧ WSg w8 w6.heap.size i (.slice b1 j1 c1) (.slice b2 j2 c2) (.slice b3 j3 c3) p1 p2 p3 O S D) := ⟨HX6.out.1.trans (hb.mono HX6.out.1.size), HX6.out.2.2.1.later hb, HX6.out.2.2.2.later hb⟩
  clear hb hb7 hb8 HX6 HK6 HO7 HOK2 HTH
  have HK8 : Hid (∀ W, Below w8.heap.size w8 W → (W.cell? ⟨w.heap.size + 1, 0, none⟩ = some (.int .i64 i) ∧ W.cell? ⟨w.heap.size + 1, 1, none⟩ = some (.slice a1 n1 k1) ∧ W.cell? ⟨w.heap.size + 1, 2, none⟩ = some (.slice a2 n2 k2) ∧ W.cell? ⟨w.heap.size + 1, 3, none⟩ = some (.slice a3 n3 k3)) ∧ W.cell? ⟨w6.heap.size, 0, none⟩ = some (.int .i64 i) ∧ W.cell? ⟨w6.heap.size, 1, none⟩ = some (.slice b1 j1 c1) ∧ W.cell? ⟨w6.heap.size, 2, none⟩ = some (.slice b2 j2 c2) ∧ W.cell? ⟨w6.heap.size, 3, none⟩ = some (.slice b3 j3 c3)) := fun W hW => ⟨(HX8.out.2.1.later hW).cells, (HX8.out.2.2.later hW).1.c0, (HX8.out.2.2.later hW).1.c1, (HX8.out.2.2.later hW).1.c2, (HX8.out.2.2.later hW).1.c3⟩
  have hb : Below w8.heap.size w8 w8.drew := (Below.refl _ _).drew
  have HBW : Hid (∀ W, Below w8.heap.size w8 W → Below w.heap.size w W) := fun W hW => HX8.out.1.trans (hW.mono HX8.out.1.size)
  go_wp2
  go_region_held3 (fun W => (W.cell? ⟨w.heap.size + 1, 0, none⟩ = some (.int .i64 i) ∧ W.cell? ⟨w.heap.size + 1, 1, none⟩ = some (.slice a1 n1 k1) ∧ W.cell? ⟨w.heap.size + 1, 2, none⟩ = some (.slice a2 n2 k2) ∧ W.cell? ⟨w.heap.size + 1, 3, none⟩ = some (.slice a3 n3 k3)) ∧ W.cell? ⟨w6.heap.size, 0, none⟩ = some (.int .i64 i) ∧ W.cell? ⟨w6.heap.size, 1, none⟩ = some (.slice b1 j1 c1) ∧ W.cell? ⟨w6.heap.size, 2, none⟩ = some (.slice b2 j2 c2) ∧ W.cell? ⟨w6.heap.size, 3, none⟩ = some (.slice b3 j3 c3)) (first | (go_keep; done) | exact HK8.out _ hb) ((first | (go_at_call 62; refine (HTO.out _ (HBW.out _ hb)).mono ?_; rintro e9 w9 ⟨u1, m1, d1, u2, m2, d2, u3, m3, d3, q1, q2, q3, rfl, tq, hb9⟩; have hb := hb.trans (hb9.mono hb.size)) | (go_at_call 63; refine (HEQ.out _ _ _ _ _ _ _ p1 p2 p3 q1 q2 q3 (HX8.out.2.2.later hb).2 tq).mono ?_; rintro e10 w10 ⟨rfl, hb10⟩; have hb := hb.trans (hb10.mono hb.size)) | fail))
  go_wp2
  go_ret
  exact ⟨rfl, HBW.out _ hb⟩

theorem stampOkLaw_any (RT : ByteArray) (hRT : RT.size ≤ maxLen) (x : Hd) (hr : x.r.size ≤ 9223372036854775807) (hp : x.p.size ≤ 9223372036854775807) (i : Int) (a1 : Option Addr) (n1 k1 : Nat) (z1 : List ByteArray) (a2 : Option Addr) (n2 k2 : Nat) (z2 : List ByteArray) (a3 : Option Addr) (n3 k3 : Nat) (z3 : List ByteArray) (w : World) (h1 : IsRowS w a1 n1 k1 z1) (h2 : IsRowS w a2 n2 k2 z2) (h3 : IsRowS w a3 n3 k3 z3) (hT : Tb w) :
    Calls Tryd.prog 13 #[.string RT, .agg #[.int .i64 x.h, .int .i64 x.e, .string x.r, .string x.p], .agg #[.int .i64 i, .slice a1 n1 k1, .slice a2 n2 k2, .slice a3 n3 k3]] w fun e w' => e = .returned (.bool true) ∧ Below w.heap.size w w' := by
  unfold maxLen at hRT
  by_cases hr2 : 1048576 < RT.size
  · clear hT h1 h2 h3
    go_enter Tryd.func13, Tryd.ntmps13
    go_wp2
    go_ret
    exact ⟨rfl, ((Below.refl _ _).alloc (Nat.le_refl _) _).alloc (by simp) _⟩
  · exact stampOkLaw_in RT (by omega) x hr hp i a1 n1 k1 z1 a2 n2 k2 z2 a3 n3 k3 z3 w h1 h2 h3 hT

end Go.Proofs.YtmfoliocibjdnaaDoor
