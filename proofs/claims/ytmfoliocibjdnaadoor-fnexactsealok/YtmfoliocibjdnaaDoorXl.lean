/-
  The walk of the law FnExactSealOk: it answers true of every root and seal.
-/
import Derived.Test.YtmfoliocibjdnaaDoorXk
import Derived.Test.YtmfoliocibjdnaaDoorXg
import Derived.Deep.RegionHeld3
namespace Go.Proofs.YtmfoliocibjdnaaDoor
open Go.RowKit Go.BigFrame Go.Sort
set_option linter.unusedVariables false
set_option linter.unusedSimpArgs false

set_option maxRecDepth 100000 in
set_option maxHeartbeats 2000000 in
theorem sealOkLaw_in (RT : ByteArray) (hRT : RT.size ≤ 1048576) (h ep : Int) (r p : ByteArray) (hr : r.size ≤ 9223372036854775807) (hp : p.size ≤ 9223372036854775807) (i : Int) (a1 : Option Addr) (n1 k1 : Nat) (z1 : List ByteArray) (a2 : Option Addr) (n2 k2 : Nat) (z2 : List ByteArray) (a3 : Option Addr) (n3 k3 : Nat) (z3 : List ByteArray) (w : World) (h1 : IsRowS w a1 n1 k1 z1) (h2 : IsRowS w a2 n2 k2 z2) (h3 : IsRowS w a3 n3 k3 z3) (hT : Tb w) :
    Calls Tryd.prog 11 #[.string RT, .agg #[.int .i64 h, .int .i64 ep, .string r, .string p, .int .i64 i, .slice a1 n1 k1, .slice a2 n2 k2, .slice a3 n3 k3]] w fun e w' => e = .returned (.bool true) ∧ Below w.heap.size w w' := by
  have hB : Below w.heap.size w (w.alloc (.cells #[.int .i64 h, .int .i64 ep, .string r, .string p, .int .i64 i, .slice a1 n1 k1, .slice a2 n2 k2, .slice a3 n3 k3] 86)) := (Below.refl _ _).alloc (Nat.le_refl _) _
  have HSZ := szSeal_row ⟨h, ep, r, p⟩ i a1 a2 a3 n1 n2 n3 k1 k2 k3 z1 z2 z3 _ hr hp (h1.later hB) (h2.later hB) (h3.later hB)
  have HB : Hid (Below w.heap.size w (w.alloc (.cells #[.int .i64 h, .int .i64 ep, .string r, .string p, .int .i64 i, .slice a1 n1 k1, .slice a2 n2 k2, .slice a3 n3 k3] 86)) ∧ SlB 86 (w.alloc (.cells #[.int .i64 h, .int .i64 ep, .string r, .string p, .int .i64 i, .slice a1 n1 k1, .slice a2 n2 k2, .slice a3 n3 k3] 86)) w.heap.size ⟨h, ep, r, p⟩ i (.slice a1 n1 k1) (.slice a2 n2 k2) (.slice a3 n3 k3)) := ⟨hB, SlB.new _ w ⟨h, ep, r, p⟩ _ _ _ _⟩
  have HR : Hid (IsRowS w a1 n1 k1 z1 ∧ IsRowS w a2 n2 k2 z2 ∧ IsRowS w a3 n3 k3 z3) := ⟨h1, h2, h3⟩
  have HT : Hid (Tb w) := hT
  clear h1 h2 h3 hB hT hr hp
  go_enter Tryd.func11, Tryd.ntmps11
  go_wp2_with fail
  refine HSZ.mono ?_
  rintro e1 w1 ⟨A, rfl, hb1, hA⟩
  have b1 := HB.out.1.trans (hb1.mono HB.out.1.size)
  by_cases hneg : A < 0
  · clear hA HSZ HR HB HT
    go_wp2
    go_ret
    exact ⟨rfl, b1⟩
  · obtain ⟨_, m1, m2, m3⟩ := hA (by omega)
    obtain ⟨g1, o1, O, lO, sO, _⟩ := ss_of_row HR.out.1 m1
    obtain ⟨g2, o2, S, lS, sS, _⟩ := ss_of_row HR.out.2.1 m2
    obtain ⟨g3, o3, D, lD, sD, _⟩ := ss_of_row HR.out.2.2 m3
    have HTO : Hid (∀ W, Below w.heap.size w W → Calls Tryd.prog 77 #[.agg #[.int .i64 h, .int .i64 ep, .string r, .string p, .int .i64 i, .slice a1 n1 k1, .slice a2 n2 k2, .slice a3 n3 k3]] W fun e w' => ∃ v1 v2 v3 p1 p2 p3, e = .returned (.agg #[.int .i64 h, .int .i64 ep, .string r, .string p, .int .i64 i, v1, v2, v3]) ∧ (TS w' v1 p1 O ∧ TS w' v2 p2 S ∧ TS w' v3 p3 D) ∧ Below W.heap.size W w') := fun W hW => by
      refine (toSeal_any ⟨h, ep, r, p⟩ i _ _ _ g1 o1 g2 o2 g3 o3 O S D W (sO.below hW sO.lt) (sS.below hW sS.lt) (sD.below hW sD.lt)).mono ?_
      rintro e' w' ⟨v, rfl, hv, hb⟩
      obtain ⟨v1, v2, v3, p1, p2, p3, rfl, ht, _, _⟩ := hv.out
      exact ⟨v1, v2, v3, p1, p2, p3, rfl, ht, hb⟩
    have HX1 : Hid (SlB 86 w1 w.heap.size ⟨h, ep, r, p⟩ i (.slice a1 n1 k1) (.slice a2 n2 k2) (.slice a3 n3 k3) ∧ Below w.heap.size w w1) := ⟨HB.out.2.later hb1, b1⟩
    clear sO sS sD lO lS lD m1 m2 m3 hA HSZ HR HB hb1 b1
    have hneg' : ¬ A < 0 := hneg
    go_wp2_with (refine wp_loadSlL rfl _ rfl w.heap.size ⟨h, ep, r, p⟩ _ _ _ _ rfl HX1.out.1 ?_)
    refine (HTO.out _ HX1.out.2).mono ?_
    rintro e2 w2 ⟨v1, v2, v3, p1, p2, p3, rfl, ⟨t1, t2, t3⟩, hb2⟩
    have hcS := sSealOk_any RT ⟨h, ep, r, p⟩ i v1 v2 v3 p1 0 p2 0 p3 0 O S D w2 t1.ss t2.ss t3.ss
    have HX2 : Hid (SlB 86 w2 w.heap.size ⟨h, ep, r, p⟩ i (.slice a1 n1 k1) (.slice a2 n2 k2) (.slice a3 n3 k3) ∧ Below w.heap.size w w2) := ⟨HX1.out.1.later hb2, HX1.out.2.trans (hb2.mono HX1.out.2.size)⟩
    have HCI : Hid (∀ W u1 u2 u3 q1 q2 q3, Below w.heap.size w W → TS W u1 q1 O → TS W u2 q2 S → TS W u3 q3 D → Calls Tryd.prog 51 #[.string RT, .agg #[.int .i64 h, .int .i64 ep, .string r, .string p, .int .i64 i, u1, u2, u3]] W fun e w' => e = .returned (.bool (slR RT ⟨h, ep, r, p⟩ i O S D)) ∧ Below W.heap.size W w') := fun W u1 u2 u3 q1 q2 q3 hW x1 x2 x3 => SealOk_any RT ⟨h, ep, r, p⟩ i u1 u2 u3 q1 0 q2 0 q3 0 O S D W x1.ss x2.ss x3.ss (HT.out.later hW)
    obtain ⟨y1, c1, rfl⟩ := t1.shape
    obtain ⟨y2, c2, rfl⟩ := t2.shape
    obtain ⟨y3, c3, rfl⟩ := t3.shape
    generalize slR RT ⟨h, ep, r, p⟩ i O S D = R at *
    clear t1 t2 t3 hb2 HX1
    go_wp2_with fail
    refine hcS.mono ?_
    rintro e3 w3 ⟨rfl, hb3⟩
    have HX3 : Hid (SlB 86 w3 w.heap.size ⟨h, ep, r, p⟩ i (.slice a1 n1 k1) (.slice a2 n2 k2) (.slice a3 n3 k3) ∧ Below w.heap.size w w3) := ⟨HX2.out.1.later hb3, HX2.out.2.trans (hb3.mono HX2.out.2.size)⟩
    clear hb3 HX2 hcS
    go_wp2_with (refine wp_loadSlL rfl _ rfl w.heap.size ⟨h, ep, r, p⟩ _ _ _ _ rfl HX3.out.1 ?_)
    refine (HTO.out _ HX3.out.2).mono ?_
    rintro e4 w4 ⟨v1, v2, v3, p1, p2, p3, rfl, ⟨t1, t2, t3⟩, hb4⟩
    obtain ⟨y1, c1, rfl⟩ := t1.shape
    obtain ⟨y2, c2, rfl⟩ := t2.shape
    obtain ⟨y3, c3, rfl⟩ := t3.shape
    have hb4' : Below w4.heap.size w4 (w4.alloc (.cells #[.int .i64 h, .int .i64 ep, .string r, .string p, .int .i64 i, .slice y1 O.length c1, .slice y2 S.length c2, .slice y3 D.length c3] 58)) := (Below.refl _ _).alloc (Nat.le_refl _) _
    have b4 := HX3.out.2.trans (hb4.mono HX3.out.2.size)
    have HX4 : Hid (SlB 86 (w4.alloc (.cells #[.int .i64 h, .int .i64 ep, .string r, .string p, .int .i64 i, .slice y1 O.length c1, .slice y2 S.length c2, .slice y3 D.length c3] 58)) w.heap.size ⟨h, ep, r, p⟩ i (.slice a1 n1 k1) (.slice a2 n2 k2) (.slice a3 n3 k3) ∧ Below w.heap.size w (w4.alloc (.cells #[.int .i64 h, .int .i64 ep, .string r, .string p, .int .i64 i, .slice y1 O.length c1, .slice y2 S.length c2, .slice y3 D.length c3] 58)) ∧ WSl (w4.alloc (.cells #[.int .i64 h, .int .i64 ep, .string r, .string p, .int .i64 i, .slice y1 O.length c1, .slice y2 S.length c2, .slice y3 D.length c3] 58)) w4.heap.size ⟨h, ep, r, p⟩ i (.slice y1 O.length c1) (.slice y2 S.length c2) (.slice y3 D.length c3) p1 p2 p3 O S D) :=
      ⟨(HX3.out.1.later hb4).later hb4', b4.trans (hb4'.mono b4.size), WSl.new w4 ⟨h, ep, r, p⟩ i _ _ _ p1 p2 p3 O S D t1 t2 t3⟩
    clear t1 t2 t3 hb4 hb4' b4 HX3
    go_wp2_with (refine wp_loadSl rfl _ rfl w4.heap.size ⟨h, ep, r, p⟩ _ _ _ _ rfl HX4.out.2.2.1 ?_)
    refine (HCI.out _ _ _ _ p1 p2 p3 HX4.out.2.1 HX4.out.2.2.2.1 HX4.out.2.2.2.2.1 HX4.out.2.2.2.2.2).mono ?_
    rintro e5 w5 ⟨rfl, hb5⟩
    have hX5 : SlB 86 w5 w.heap.size ⟨h, ep, r, p⟩ i (.slice a1 n1 k1) (.slice a2 n2 k2) (.slice a3 n3 k3) ∧ Below w.heap.size w w5 ∧ WSl w5 w4.heap.size ⟨h, ep, r, p⟩ i (.slice y1 O.length c1) (.slice y2 S.length c2) (.slice y3 D.length c3) p1 p2 p3 O S D := ⟨HX4.out.1.later hb5, HX4.out.2.1.trans (hb5.mono HX4.out.2.1.size), HX4.out.2.2.later hb5⟩
    have HX5 : Hid (SlB 86 w5 w.heap.size ⟨h, ep, r, p⟩ i (.slice a1 n1 k1) (.slice a2 n2 k2) (.slice a3 n3 k3) ∧ Below w.heap.size w w5 ∧ WSl w5 w4.heap.size ⟨h, ep, r, p⟩ i (.slice y1 O.length c1) (.slice y2 S.length c2) (.slice y3 D.length c3) p1 p2 p3 O S D) := hX5
    obtain ⟨d0, d1, d2, d3, d4, d5, d6, d7⟩ := hX5.1.cells
    obtain ⟨f0, f1, f2, f3, f4, f5, f6, f7⟩ := hX5.2.2.1.cells
    simp only at d0 d1 d2 d3 f0 f1 f2 f3
    have HK : Hid (∀ W, Below w5.heap.size w5 W → (W.cell? ⟨w.heap.size, 0, none⟩ = some (.int .i64 h) ∧ W.cell? ⟨w.heap.size, 1, none⟩ = some (.int .i64 ep) ∧ W.cell? ⟨w.heap.size, 2, none⟩ = some (.string r) ∧ W.cell? ⟨w.heap.size, 3, none⟩ = some (.string p) ∧ W.cell? ⟨w.heap.size, 4, none⟩ = some (.int .i64 i) ∧ W.cell? ⟨w.heap.size, 5, none⟩ = some (.slice a1 n1 k1) ∧ W.cell? ⟨w.heap.size, 6, none⟩ = some (.slice a2 n2 k2) ∧ W.cell? ⟨w.heap.size, 7, none⟩ = some (.slice a3 n3 k3)) ∧ W.cell? ⟨w4.heap.size, 0, none⟩ = some (.int .i64 h) ∧ W.cell? ⟨w4.heap.size, 1, none⟩ = some (.int .i64 ep) ∧ W.cell? ⟨w4.heap.size, 2, none⟩ = some (.string r) ∧ W.cell? ⟨w4.heap.size, 3, none⟩ = some (.string p) ∧ W.cell? ⟨w4.heap.size, 4, none⟩ = some (.int .i64 i) ∧ W.cell? ⟨w4.heap.size, 5, none⟩ = some (.slice y1 O.length c1) ∧ W.cell? ⟨w4.heap.size, 6, none⟩ = some (.slice y2 S.length c2) ∧ W.cell? ⟨w4.heap.size, 7, none⟩ = some (.slice y3 D.length c3)) := fun W hW => ⟨(hX5.1.later hW).cells, (hX5.2.2.1.later hW).cells⟩
    clear hX5 hb5 HX4 HCI
    go_wp2
    go_region_held3 (fun W => (W.cell? ⟨w.heap.size, 0, none⟩ = some (.int .i64 h) ∧ W.cell? ⟨w.heap.size, 1, none⟩ = some (.int .i64 ep) ∧ W.cell? ⟨w.heap.size, 2, none⟩ = some (.string r) ∧ W.cell? ⟨w.heap.size, 3, none⟩ = some (.string p) ∧ W.cell? ⟨w.heap.size, 4, none⟩ = some (.int .i64 i) ∧ W.cell? ⟨w.heap.size, 5, none⟩ = some (.slice a1 n1 k1) ∧ W.cell? ⟨w.heap.size, 6, none⟩ = some (.slice a2 n2 k2) ∧ W.cell? ⟨w.heap.size, 7, none⟩ = some (.slice a3 n3 k3)) ∧ W.cell? ⟨w4.heap.size, 0, none⟩ = some (.int .i64 h) ∧ W.cell? ⟨w4.heap.size, 1, none⟩ = some (.int .i64 ep) ∧ W.cell? ⟨w4.heap.size, 2, none⟩ = some (.string r) ∧ W.cell? ⟨w4.heap.size, 3, none⟩ = some (.string p) ∧ W.cell? ⟨w4.heap.size, 4, none⟩ = some (.int .i64 i) ∧ W.cell? ⟨w4.heap.size, 5, none⟩ = some (.slice y1 O.length c1) ∧ W.cell? ⟨w4.heap.size, 6, none⟩ = some (.slice y2 S.length c2) ∧ W.cell? ⟨w4.heap.size, 7, none⟩ = some (.slice y3 D.length c3)) (first | go_keep | exact HK.out _ hb7 | exact HK.out _ hb6) ((first | (go_at_call 77; refine (HTO.out _ HX5.out.2.1.drew).mono ?_; rintro e6 w6 ⟨u1, u2, u3, q1, q2, q3, rfl, ⟨t1, t2, t3⟩, hb6'⟩; have hb6 : Below w5.heap.size w5 w6 := (Below.refl w5.heap.size w5).drew.trans hb6') | (go_at_call 70; refine (eqSeal_yes ⟨h, ep, r, p⟩ i _ _ _ _ _ _ p1 0 p2 0 p3 0 q1 0 q2 0 q3 0 O S D _ (HX5.out.2.2.2.1.later hb6).ss (HX5.out.2.2.2.2.1.later hb6).ss (HX5.out.2.2.2.2.2.later hb6).ss t1.ss t2.ss t3.ss).mono ?_; rintro e7 w7 ⟨rfl, hb7'⟩; have hb7 : Below w5.heap.size w5 w7 := hb6.trans (hb7'.mono hb6.size))))
    go_wp2
    go_ret
    exact ⟨rfl, HX5.out.2.1.trans (hb7.mono HX5.out.2.1.size)⟩

theorem sealOkLaw_any (RT : ByteArray) (hRT : RT.size ≤ maxLen) (h ep : Int) (r p : ByteArray) (hr : r.size ≤ 9223372036854775807) (hp : p.size ≤ 9223372036854775807) (i : Int) (a1 : Option Addr) (n1 k1 : Nat) (z1 : List ByteArray) (a2 : Option Addr) (n2 k2 : Nat) (z2 : List ByteArray) (a3 : Option Addr) (n3 k3 : Nat) (z3 : List ByteArray) (w : World) (h1 : IsRowS w a1 n1 k1 z1) (h2 : IsRowS w a2 n2 k2 z2) (h3 : IsRowS w a3 n3 k3 z3) (hT : Tb w) :
    Calls Tryd.prog 11 #[.string RT, .agg #[.int .i64 h, .int .i64 ep, .string r, .string p, .int .i64 i, .slice a1 n1 k1, .slice a2 n2 k2, .slice a3 n3 k3]] w fun e w' => e = .returned (.bool true) ∧ Below w.heap.size w w' := by
  unfold maxLen at hRT
  by_cases hr2 : 1048576 < RT.size
  · clear hT h1 h2 h3
    go_enter Tryd.func11, Tryd.ntmps11
    go_wp2
    go_ret
    exact ⟨rfl, (Below.refl _ _).alloc (Nat.le_refl _) _⟩
  · exact sealOkLaw_in RT (by omega) h ep r p hr hp i a1 n1 k1 z1 a2 n2 k2 z2 a3 n3 k3 z3 w h1 h2 h3 hT

end Go.Proofs.YtmfoliocibjdnaaDoor
