/-
  The walk of the law FnExactSigOk: it answers true of every root, text and signature.
-/
import Derived.Test.YtmfoliocibjdnaaDoorPkL
import Derived.Test.YtmfoliocibjdnaaDoorStl
namespace Go.Proofs.YtmfoliocibjdnaaDoor
open Go.RowKit Go.BigFrame
set_option linter.unusedVariables false

set_option maxRecDepth 100000 in
set_option maxHeartbeats 2000000 in
theorem sigOkLaw_in (r t : ByteArray) (hr : r.size ≤ 1048576) (ht : t.size ≤ 1048576) (i : Int) (a1 : Option Addr) (n1 k1 : Nat) (z1 : List ByteArray) (a2 : Option Addr) (n2 k2 : Nat) (z2 : List ByteArray) (a3 : Option Addr) (n3 k3 : Nat) (z3 : List ByteArray) (w : World) (h1 : IsRowS w a1 n1 k1 z1) (h2 : IsRowS w a2 n2 k2 z2) (h3 : IsRowS w a3 n3 k3 z3) (hT : Tb w) :
    Calls Tryd.prog 9 #[.string r, .string t, .agg #[.int .i64 i, .slice a1 n1 k1, .slice a2 n2 k2, .slice a3 n3 k3]] w fun e w' => e = .returned (.bool true) ∧ Below w.heap.size w w' := by
  have hB : Below w.heap.size w (w.alloc (.cells #[.int .i64 i, .slice a1 n1 k1, .slice a2 n2 k2, .slice a3 n3 k3] 73)) := (Below.refl _ _).alloc (Nat.le_refl _) _
  have HSZ := szSig_row i a1 a2 a3 n1 n2 n3 k1 k2 k3 z1 z2 z3 _ (h1.later hB) (h2.later hB) (h3.later hB)
  have HB : Hid (Below w.heap.size w (w.alloc (.cells #[.int .i64 i, .slice a1 n1 k1, .slice a2 n2 k2, .slice a3 n3 k3] 73)) ∧ BX (w.alloc (.cells #[.int .i64 i, .slice a1 n1 k1, .slice a2 n2 k2, .slice a3 n3 k3] 73)) w.heap.size i (.slice a1 n1 k1) (.slice a2 n2 k2) (.slice a3 n3 k3)) := ⟨hB, BX.new w _ _ _ _⟩
  have HR : Hid (IsRowS w a1 n1 k1 z1 ∧ IsRowS w a2 n2 k2 z2 ∧ IsRowS w a3 n3 k3 z3) := ⟨h1, h2, h3⟩
  have HT : Hid (Tb w) := hT
  clear h1 h2 h3 hB hT
  go_enter Tryd.func9, Tryd.ntmps9
  go_wp2_with fail
  refine HSZ.mono ?_
  rintro e w1 ⟨A, rfl, hb1, hA⟩
  have b1 := HB.out.1.trans (hb1.mono HB.out.1.size)
  by_cases hneg : A < 0
  · clear hA HSZ HR HB HT
    go_wp2
    go_ret
    exact ⟨rfl, b1⟩
  · obtain ⟨m1, m2, m3⟩ := hA (by omega)
    obtain ⟨g1, o1, O, lO, sO, _⟩ := ss_of_row HR.out.1 m1
    obtain ⟨g2, o2, S, lS, sS, _⟩ := ss_of_row HR.out.2.1 m2
    obtain ⟨g3, o3, D, lD, sD, _⟩ := ss_of_row HR.out.2.2 m3
    have HTO : Hid (∀ W, Below w.heap.size w W → Calls Tryd.prog 62 #[.agg #[.int .i64 i, .slice a1 n1 k1, .slice a2 n2 k2, .slice a3 n3 k3]] W fun e w' => ∃ v, e = .returned v ∧ SigIn w' W.heap.size v i O S D ∧ Below W.heap.size W w') := fun W hW =>
      toSig_any i _ _ _ g1 o1 g2 o2 g3 o3 O S D W (sO.below hW sO.lt) (sS.below hW sS.lt) (sD.below hW sD.lt)
    have HX1 : Hid (BX w1 w.heap.size i (.slice a1 n1 k1) (.slice a2 n2 k2) (.slice a3 n3 k3) ∧ Below w.heap.size w w1) := ⟨HB.out.2.later hb1, b1⟩
    clear sO sS sD lO lS lD m1 m2 m3 hA HSZ HR HB hb1 b1
    have hneg' : ¬ A < 0 := hneg
    go_wp2_with (refine wp_loadBox rfl _ rfl w.heap.size _ _ _ _ rfl HX1.out.1 ?_)
    refine (HTO.out _ HX1.out.2).mono ?_
    rintro e w2 ⟨v, rfl, ⟨v1, v2, v3, p1, p2, p3, rfl, ⟨t1, t2, t3⟩, _, _⟩, hb2⟩
    have hcS := sSigOk_any r t i v1 v2 v3 p1 0 p2 0 p3 0 O S D w2 t1.ss t2.ss t3.ss (by omega)
    have HX2 : Hid (BX w2 w.heap.size i (.slice a1 n1 k1) (.slice a2 n2 k2) (.slice a3 n3 k3) ∧ Below w.heap.size w w2) := ⟨HX1.out.1.later hb2, HX1.out.2.trans (hb2.mono HX1.out.2.size)⟩
    have HCI : Hid (∀ W u1 u2 u3 q1 q2 q3, Below w.heap.size w W → TS W u1 q1 O → TS W u2 q2 S → TS W u3 q3 D → Calls Tryd.prog 16 #[.string r, .string t, .agg #[.int .i64 i, u1, u2, u3]] W fun e w' => e = .returned (.bool (okS r t i O S D)) ∧ Below W.heap.size W w') := fun W u1 u2 u3 q1 q2 q3 hW x1 x2 x3 => SigOk_any r t i u1 u2 u3 q1 0 q2 0 q3 0 O S D W x1.ss x2.ss x3.ss (by omega) (HT.out.later hW)
    obtain ⟨y1, c1, rfl⟩ := t1.shape
    obtain ⟨y2, c2, rfl⟩ := t2.shape
    obtain ⟨y3, c3, rfl⟩ := t3.shape
    generalize okS r t i O S D = R at *
    clear t1 t2 t3 hb2 HX1
    go_wp2_with fail
    refine hcS.mono ?_
    rintro e w3 ⟨rfl, hb3⟩
    have HX3 : Hid (BX w3 w.heap.size i (.slice a1 n1 k1) (.slice a2 n2 k2) (.slice a3 n3 k3) ∧ Below w.heap.size w w3) := ⟨HX2.out.1.later hb3, HX2.out.2.trans (hb3.mono HX2.out.2.size)⟩
    clear hb3 HX2 hcS
    go_wp2_with (refine wp_loadBox rfl _ rfl w.heap.size _ _ _ _ rfl HX3.out.1 ?_)
    refine (HTO.out _ HX3.out.2).mono ?_
    rintro e w4 ⟨v, rfl, ⟨v1, v2, v3, p1, p2, p3, rfl, ⟨t1, t2, t3⟩, _, _⟩, hb4⟩
    obtain ⟨y1, c1, rfl⟩ := t1.shape
    obtain ⟨y2, c2, rfl⟩ := t2.shape
    obtain ⟨y3, c3, rfl⟩ := t3.shape
    have hb4' : Below w4.heap.size w4 (w4.alloc (.cells #[.int .i64 i, .slice y1 O.length c1, .slice y2 S.length c2, .slice y3 D.length c3] 26)) := (Below.refl _ _).alloc (Nat.le_refl _) _
    have b4 := HX3.out.2.trans (hb4.mono HX3.out.2.size)
    have HX4 : Hid (BX (w4.alloc (.cells #[.int .i64 i, .slice y1 O.length c1, .slice y2 S.length c2, .slice y3 D.length c3] 26)) w.heap.size i (.slice a1 n1 k1) (.slice a2 n2 k2) (.slice a3 n3 k3) ∧ Below w.heap.size w (w4.alloc (.cells #[.int .i64 i, .slice y1 O.length c1, .slice y2 S.length c2, .slice y3 D.length c3] 26)) ∧ WSg (w4.alloc (.cells #[.int .i64 i, .slice y1 O.length c1, .slice y2 S.length c2, .slice y3 D.length c3] 26)) w4.heap.size i (.slice y1 O.length c1) (.slice y2 S.length c2) (.slice y3 D.length c3) p1 p2 p3 O S D) :=
      ⟨(HX3.out.1.later hb4).later hb4', b4.trans (hb4'.mono b4.size), WSg.new w4 i _ _ _ p1 p2 p3 O S D t1 t2 t3⟩
    clear t1 t2 t3 hb4 hb4' b4 HX3
    go_wp2_with (refine wp_loadSig rfl _ rfl w4.heap.size _ _ _ _ rfl HX4.out.2.2.1 ?_)
    refine (HCI.out _ _ _ _ p1 p2 p3 HX4.out.2.1 HX4.out.2.2.2.1 HX4.out.2.2.2.2.1 HX4.out.2.2.2.2.2).mono ?_
    rintro e w5 ⟨rfl, hb5⟩
    have hX5 : BX w5 w.heap.size i (.slice a1 n1 k1) (.slice a2 n2 k2) (.slice a3 n3 k3) ∧ Below w.heap.size w w5 ∧ WSg w5 w4.heap.size i (.slice y1 O.length c1) (.slice y2 S.length c2) (.slice y3 D.length c3) p1 p2 p3 O S D := ⟨HX4.out.1.later hb5, HX4.out.2.1.trans (hb5.mono HX4.out.2.1.size), HX4.out.2.2.later hb5⟩
    have HX5 : Hid (BX w5 w.heap.size i (.slice a1 n1 k1) (.slice a2 n2 k2) (.slice a3 n3 k3) ∧ Below w.heap.size w w5 ∧ WSg w5 w4.heap.size i (.slice y1 O.length c1) (.slice y2 S.length c2) (.slice y3 D.length c3) p1 p2 p3 O S D) := hX5
    obtain ⟨d0, d1, d2, d3⟩ := hX5.1.cells
    have f0 := hX5.2.2.1.c0
    have f1 := hX5.2.2.1.c1
    have f2 := hX5.2.2.1.c2
    have f3 := hX5.2.2.1.c3
    have HK : Hid (∀ W, Below w5.heap.size w5 W → (W.cell? ⟨w.heap.size, 0, none⟩ = some (.int .i64 i) ∧ W.cell? ⟨w.heap.size, 1, none⟩ = some (.slice a1 n1 k1) ∧ W.cell? ⟨w.heap.size, 2, none⟩ = some (.slice a2 n2 k2) ∧ W.cell? ⟨w.heap.size, 3, none⟩ = some (.slice a3 n3 k3)) ∧ W.cell? ⟨w4.heap.size, 0, none⟩ = some (.int .i64 i) ∧ W.cell? ⟨w4.heap.size, 1, none⟩ = some (.slice y1 O.length c1) ∧ W.cell? ⟨w4.heap.size, 2, none⟩ = some (.slice y2 S.length c2) ∧ W.cell? ⟨w4.heap.size, 3, none⟩ = some (.slice y3 D.length c3)) := fun W hW =>
      ⟨(hX5.1.later hW).cells, (hX5.2.2.1.later hW).c0, (hX5.2.2.1.later hW).c1, (hX5.2.2.1.later hW).c2, (hX5.2.2.1.later hW).c3⟩
    clear hX5 hb5 HX4 HCI
    go_wp2
    go_region_held3 (fun W => (W.cell? ⟨w.heap.size, 0, none⟩ = some (.int .i64 i) ∧ W.cell? ⟨w.heap.size, 1, none⟩ = some (.slice a1 n1 k1) ∧ W.cell? ⟨w.heap.size, 2, none⟩ = some (.slice a2 n2 k2) ∧ W.cell? ⟨w.heap.size, 3, none⟩ = some (.slice a3 n3 k3)) ∧ W.cell? ⟨w4.heap.size, 0, none⟩ = some (.int .i64 i) ∧ W.cell? ⟨w4.heap.size, 1, none⟩ = some (.slice y1 O.length c1) ∧ W.cell? ⟨w4.heap.size, 2, none⟩ = some (.slice y2 S.length c2) ∧ W.cell? ⟨w4.heap.size, 3, none⟩ = some (.slice y3 D.length c3)) (first | go_keep | exact HK.out _ hb7 | exact HK.out _ hb6) ((first | (go_at_call 62; refine (HTO.out _ HX5.out.2.1.drew).mono ?_; rintro e w6 ⟨v, rfl, ⟨u1, u2, u3, q1, q2, q3, rfl, ⟨t1, t2, t3⟩, _, _⟩, hb6'⟩; have hb6 : Below w5.heap.size w5 w6 := (Below.refl w5.heap.size w5).drew.trans hb6') | (go_at_call 63; refine (eqSig_yes i _ _ _ _ _ _ p1 0 p2 0 p3 0 q1 0 q2 0 q3 0 O S D _ (HX5.out.2.2.2.1.later hb6).ss (HX5.out.2.2.2.2.1.later hb6).ss (HX5.out.2.2.2.2.2.later hb6).ss t1.ss t2.ss t3.ss).mono ?_; rintro e w7 ⟨rfl, hb7'⟩; have hb7 : Below w5.heap.size w5 w7 := hb6.trans (hb7'.mono hb6.size))))
    go_wp2
    go_ret
    exact ⟨rfl, HX5.out.2.1.trans (hb7.mono HX5.out.2.1.size)⟩

theorem sigOkLaw_any (r : ByteArray) (hr : r.size ≤ maxLen) (t : ByteArray) (ht : t.size ≤ maxLen) (i : Int) (a1 : Option Addr) (n1 k1 : Nat) (z1 : List ByteArray) (a2 : Option Addr) (n2 k2 : Nat) (z2 : List ByteArray) (a3 : Option Addr) (n3 k3 : Nat) (z3 : List ByteArray) (w : World) (h1 : IsRowS w a1 n1 k1 z1) (h2 : IsRowS w a2 n2 k2 z2) (h3 : IsRowS w a3 n3 k3 z3) (hT : Tb w) :
    Calls Tryd.prog 9 #[.string r, .string t, .agg #[.int .i64 i, .slice a1 n1 k1, .slice a2 n2 k2, .slice a3 n3 k3]] w fun e w' => e = .returned (.bool true) ∧ Below w.heap.size w w' := by
  unfold maxLen at hr ht
  by_cases hr2 : 1048576 < r.size
  · clear hT h1 h2 h3
    go_enter Tryd.func9, Tryd.ntmps9
    go_wp2
    go_ret
    exact ⟨rfl, (Below.refl _ _).alloc (Nat.le_refl _) _⟩
  · by_cases ht2 : 1048576 < t.size
    · clear hT h1 h2 h3
      go_enter Tryd.func9, Tryd.ntmps9
      go_wp2
      go_ret
      exact ⟨rfl, (Below.refl _ _).alloc (Nat.le_refl _) _⟩
    · exact sigOkLaw_in r t (by omega) (by omega) i a1 n1 k1 z1 a2 n2 k2 z2 a3 n3 k3 z3 w h1 h2 h3 hT

end Go.Proofs.YtmfoliocibjdnaaDoor
