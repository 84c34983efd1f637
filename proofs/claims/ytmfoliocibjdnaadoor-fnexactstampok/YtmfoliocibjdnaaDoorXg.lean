/-
  What the laws' own helpers do with seals: measured, taken over, compared, marked, held.
-/
import Derived.Test.YtmfoliocibjdnaaDoorXd
import Derived.Test.YtmfoliocibjdnaaDoorPkH
import Derived.Test.YtmfoliocibjdnaaDoorStl
import Derived.Deep.CutRange
namespace Go.Proofs.YtmfoliocibjdnaaDoor
open Go.RowKit Go.BigFrame Go.Sort
set_option linter.unusedVariables false
set_option linter.unusedSimpArgs false

section
variable {T : Nat} {W : World} {g : Nat} {x : Hd} {a : Int} {v1 v2 v3 : Value}
/-- its head stored anew -/
theorem SlB.putH (h : SlB T W g x a v1 v2 v3) (y : Hd) : SlB T ((((W.setCell ⟨g, 0, none⟩ (.int .i64 y.h)).setCell ⟨g, 1, none⟩ (.int .i64 y.e)).setCell ⟨g, 2, none⟩ (.string y.r)).setCell ⟨g, 3, none⟩ (.string y.p)) g y a v1 v2 v3 :=
  heap_setCell_same _ g 3 _ _ _ (heap_setCell_same _ g 2 _ _ _ (heap_setCell_same _ g 1 _ _ _ (heap_setCell_same W g 0 _ _ _ h)))
/-- its signature stored anew -/
theorem SlB.putS (h : SlB T W g x a v1 v2 v3) (y : Int) (u1 u2 u3 : Value) : SlB T ((((W.setCell ⟨g, 4, none⟩ (.int .i64 y)).setCell ⟨g, 5, none⟩ u1).setCell ⟨g, 6, none⟩ u2).setCell ⟨g, 7, none⟩ u3) g x y u1 u2 u3 :=
  heap_setCell_same _ g 7 _ _ _ (heap_setCell_same _ g 6 _ _ _ (heap_setCell_same _ g 5 _ _ _ (heap_setCell_same W g 4 _ _ _ h)))
end
theorem grown4 (W : World) (g i j k l : Nat) (u0 u1 u2 u3 : Value) : W.grownBy ((((W.setCell ⟨g, i, none⟩ u0).setCell ⟨g, j, none⟩ u1).setCell ⟨g, k, none⟩ u2).setCell ⟨g, l, none⟩ u3) (some g) :=
  (((grown_setC W g i u0).trans (grown_setC _ g j u1)).trans (grown_setC _ g k u2)).trans (grown_setC _ g l u3)

set_option maxRecDepth 100000 in
set_option maxHeartbeats 1000000 in
theorem szSeal_row (x : Hd) (a : Int) (a1 a2 a3 : Option Addr) (n1 n2 n3 k1 k2 k3 : Nat) (z1 z2 z3 : List ByteArray) (w : World) (hr : x.r.size ≤ 9223372036854775807) (hp : x.p.size ≤ 9223372036854775807) (h1 : IsRowS w a1 n1 k1 z1) (h2 : IsRowS w a2 n2 k2 z2) (h3 : IsRowS w a3 n3 k3 z3) :
    Calls Tryd.prog 75 #[.agg #[.int .i64 x.h, .int .i64 x.e, .string x.r, .string x.p, .int .i64 a, .slice a1 n1 k1, .slice a2 n2 k2, .slice a3 n3 k3], .int .i64 1048576] w fun e w' => ∃ A : Int, e = .returned (.int .i64 A) ∧ Below w.heap.size w w' ∧ (0 ≤ A → (x.r.size ≤ 1048576 ∧ x.p.size ≤ 1048576) ∧ n1 ≤ 1048576 ∧ n2 ≤ 1048576 ∧ n3 ≤ 1048576) := by
  have HX : Hid (Below w.heap.size w (w.alloc (.cells #[.int .i64 x.h, .int .i64 x.e, .string x.r, .string x.p, .int .i64 a, .slice a1 n1 k1, .slice a2 n2 k2, .slice a3 n3 k3] 86)) ∧ SlB 86 (w.alloc (.cells #[.int .i64 x.h, .int .i64 x.e, .string x.r, .string x.p, .int .i64 a, .slice a1 n1 k1, .slice a2 n2 k2, .slice a3 n3 k3] 86)) w.heap.size x a (.slice a1 n1 k1) (.slice a2 n2 k2) (.slice a3 n3 k3)) := ⟨(Below.refl _ _).alloc (Nat.le_refl _) _, SlB.new _ _ _ _ _ _ _⟩
  have HH : Hid (∀ W, Calls Tryd.prog 65 #[.agg #[.int .i64 x.h, .int .i64 x.e, .string x.r, .string x.p], .int .i64 1048576] W fun e w' => ∃ A : Int, e = .returned (.int .i64 A) ∧ Below W.heap.size W w' ∧ A ≤ 1048576 ∧ (0 ≤ A → x.r.size ≤ 1048576 ∧ x.p.size ≤ 1048576)) := fun W => szHead_any x 1048576 W (by omega) (by omega) hr hp
  have HS : Hid (∀ W y, Below w.heap.size w W → 0 ≤ y → y ≤ 1048576 → Calls Tryd.prog 61 #[.agg #[.int .i64 a, .slice a1 n1 k1, .slice a2 n2 k2, .slice a3 n3 k3], .int .i64 y] W fun e w' => ∃ A : Int, e = .returned (.int .i64 A) ∧ Below W.heap.size W w' ∧ (0 ≤ A → n1 ≤ 1048576 ∧ n2 ≤ 1048576 ∧ n3 ≤ 1048576)) := fun W y hW h0 hy => szSig_at a a1 a2 a3 n1 n2 n3 k1 k2 k3 z1 z2 z3 y W h0 hy (h1.later hW) (h2.later hW) (h3.later hW)
  clear h1 h2 h3 hr hp
  obtain ⟨h, e, r, p⟩ := x
  simp only at HX HH ⊢
  go_enter Tryd.func75, Tryd.ntmps75
  go_wp2_with fail
  refine (HH.out _).mono ?_
  rintro e1 w1 ⟨A, rfl, hb1, hA1, hA2⟩
  have HX1 : Hid (Below w.heap.size w w1 ∧ SlB 86 w1 w.heap.size ⟨h, e, r, p⟩ a (.slice a1 n1 k1) (.slice a2 n2 k2) (.slice a3 n3 k3)) := ⟨HX.out.1.trans (hb1.mono HX.out.1.size), HX.out.2.later hb1⟩
  have HA2 : Hid (0 ≤ A → r.size ≤ 1048576 ∧ p.size ≤ 1048576) := hA2
  clear hb1 HX HH hA2
  by_cases hneg : A < 0
  · clear HS HA2
    go_wp2
    go_ret
    exact ⟨-1, rfl, HX1.out.1, fun h => by omega⟩
  · obtain ⟨q0, q1, q2, q3, q4, q5, q6, q7⟩ := HX1.out.2.cells
    clear q0 q1 q2 q3
    go_wp2_with fail
    refine (HS.out _ A HX1.out.1 (by omega) hA1).mono ?_
    rintro e2 w2 ⟨B, rfl, hb2, hB⟩
    have HB2 : Hid (Below w.heap.size w w2) := HX1.out.1.trans (hb2.mono HX1.out.1.size)
    have HB3 : Hid (0 ≤ B → n1 ≤ 1048576 ∧ n2 ≤ 1048576 ∧ n3 ≤ 1048576) := hB
    clear hb2 HX1 q4 q5 q6 q7 hB HS
    by_cases hneg2 : B < 0
    · go_wp2
      go_ret
      exact ⟨-1, rfl, HB2.out, fun h => by omega⟩
    · go_wp2
      go_ret
      exact ⟨B, rfl, HB2.out, fun h => ⟨HA2.out (by omega), HB3.out h⟩⟩

set_option maxRecDepth 100000 in
set_option maxHeartbeats 1000000 in
theorem eqSeal_yes (x : Hd) (a : Int) (v1 v2 v3 u1 u2 u3 : Value) (g1 o1 g2 o2 g3 o3 p1 q1 p2 q2 p3 q3 : Nat) (o s d : List ByteArray) (w : World) (h1 : SS w v1 g1 o1 o) (h2 : SS w v2 g2 o2 s) (h3 : SS w v3 g3 o3 d) (k1 : SS w u1 p1 q1 o) (k2 : SS w u2 p2 q2 s) (k3 : SS w u3 p3 q3 d) :
    Calls Tryd.prog 70 #[.agg #[.int .i64 x.h, .int .i64 x.e, .string x.r, .string x.p, .int .i64 a, v1, v2, v3], .agg #[.int .i64 x.h, .int .i64 x.e, .string x.r, .string x.p, .int .i64 a, u1, u2, u3]] w fun e w' => e = .returned (.bool true) ∧ Below w.heap.size w w' := by
  have HH : Hid (∀ W, Calls Tryd.prog 135 #[.agg #[.int .i64 x.h, .int .i64 x.e, .string x.r, .string x.p], .agg #[.int .i64 x.h, .int .i64 x.e, .string x.r, .string x.p]] W fun e w' => e = .returned (.bool true) ∧ Below W.heap.size W w') := fun W => eqHead_yes x W
  have HS : Hid (∀ W, Below w.heap.size w W → Calls Tryd.prog 63 #[.agg #[.int .i64 a, v1, v2, v3], .agg #[.int .i64 a, u1, u2, u3]] W fun e w' => e = .returned (.bool true) ∧ Below W.heap.size W w') := fun W hW => eqSig_yes a v1 v2 v3 u1 u2 u3 g1 o1 g2 o2 g3 o3 p1 q1 p2 q2 p3 q3 o s d W (h1.below hW h1.lt) (h2.below hW h2.lt) (h3.below hW h3.lt) (k1.below hW k1.lt) (k2.below hW k2.lt) (k3.below hW k3.lt)
  obtain ⟨b1, c1, rfl, x1, y1⟩ := h1
  obtain ⟨b2, c2, rfl, x2, y2⟩ := h2
  obtain ⟨b3, c3, rfl, x3, y3⟩ := h3
  obtain ⟨b4, c4, rfl, x4, y4⟩ := k1
  obtain ⟨b5, c5, rfl, x5, y5⟩ := k2
  obtain ⟨b6, c6, rfl, x6, y6⟩ := k3
  clear x1 x2 x3 x4 x5 x6 y1 y2 y3 y4 y5 y6
  generalize o.length = n1 at *
  generalize s.length = n2 at *
  generalize d.length = n3 at *
  obtain ⟨h, e, r, p⟩ := x
  simp only at HH ⊢
  have HX : Hid (Below w.heap.size w ((w.alloc (.cells #[.int .i64 h, .int .i64 e, .string r, .string p, .int .i64 a, .slice b1 n1 c1, .slice b2 n2 c2, .slice b3 n3 c3] 58)).alloc (.cells #[.int .i64 h, .int .i64 e, .string r, .string p, .int .i64 a, .slice b4 n1 c4, .slice b5 n2 c5, .slice b6 n3 c6] 58)) ∧ SlB 58 ((w.alloc (.cells #[.int .i64 h, .int .i64 e, .string r, .string p, .int .i64 a, .slice b1 n1 c1, .slice b2 n2 c2, .slice b3 n3 c3] 58)).alloc (.cells #[.int .i64 h, .int .i64 e, .string r, .string p, .int .i64 a, .slice b4 n1 c4, .slice b5 n2 c5, .slice b6 n3 c6] 58)) w.heap.size ⟨h, e, r, p⟩ a (.slice b1 n1 c1) (.slice b2 n2 c2) (.slice b3 n3 c3) ∧ SlB 58 ((w.alloc (.cells #[.int .i64 h, .int .i64 e, .string r, .string p, .int .i64 a, .slice b1 n1 c1, .slice b2 n2 c2, .slice b3 n3 c3] 58)).alloc (.cells #[.int .i64 h, .int .i64 e, .string r, .string p, .int .i64 a, .slice b4 n1 c4, .slice b5 n2 c5, .slice b6 n3 c6] 58)) (w.heap.size + 1) ⟨h, e, r, p⟩ a (.slice b4 n1 c4) (.slice b5 n2 c5) (.slice b6 n3 c6)) := by
    refine ⟨((Below.refl _ _).alloc (Nat.le_refl _) _).alloc (by simp) _, (SlB.new _ _ ⟨h, e, r, p⟩ _ _ _ _).later ((Below.refl _ _).alloc (Nat.le_refl _) _), ?_⟩
    exact alloc_fst _ _ (by simp)
  go_enter Tryd.func70, Tryd.ntmps70
  go_wp2_with fail
  refine (HH.out _).mono ?_
  rintro e1 w1 ⟨rfl, hb1⟩
  have HB1 : Hid (Below w.heap.size w w1) := HX.out.1.trans (hb1.mono HX.out.1.size)
  obtain ⟨z0, z1, z2, z3, z4, z5, z6, z7⟩ := (HX.out.2.1.later hb1).cells
  obtain ⟨y0, y1, y2, y3, y4, y5, y6, y7⟩ := (HX.out.2.2.later hb1).cells
  clear z0 z1 z2 z3 y0 y1 y2 y3 HX hb1 HH
  go_wp2_with fail
  refine (HS.out _ HB1.out).mono ?_
  rintro e2 w2 ⟨rfl, hb2⟩
  have HB2 : Hid (Below w.heap.size w w2) := HB1.out.trans (hb2.mono HB1.out.size)
  clear z4 z5 z6 z7 y4 y5 y6 y7 HB1 hb2 HS
  go_wp2
  go_ret
  exact ⟨rfl, HB2.out⟩

set_option maxRecDepth 100000 in
set_option maxHeartbeats 1000000 in
theorem toSeal_any (x : Hd) (a : Int) (vo vs vd : Value) (g1 o1 g2 o2 g3 o3 : Nat) (o s d : List ByteArray) (w : World) (ho : SS w vo g1 o1 o) (hs : SS w vs g2 o2 s) (hd : SS w vd g3 o3 d) :
    Calls Tryd.prog 77 #[.agg #[.int .i64 x.h, .int .i64 x.e, .string x.r, .string x.p, .int .i64 a, vo, vs, vd]] w fun e w' => ∃ v, e = .returned v ∧ SealIn w' w.heap.size v x a o s d ∧ Below w.heap.size w w' := by
  have HTH : Hid (∀ W, Calls Tryd.prog 68 #[.agg #[.int .i64 x.h, .int .i64 x.e, .string x.r, .string x.p]] W fun e w' => e = .returned (.agg #[.int .i64 x.h, .int .i64 x.e, .string x.r, .string x.p]) ∧ Below W.heap.size W w') := fun W => toHead_any x W
  have HTS : Hid (∀ W, Below w.heap.size w W → Calls Tryd.prog 62 #[.agg #[.int .i64 a, vo, vs, vd]] W fun e w' => ∃ b1 m1 k1 b2 m2 k2 b3 m3 k3 p1 p2 p3, e = .returned (.agg #[.int .i64 a, .slice b1 m1 k1, .slice b2 m2 k2, .slice b3 m3 k3]) ∧ (TS w' (.slice b1 m1 k1) p1 o ∧ TS w' (.slice b2 m2 k2) p2 s ∧ TS w' (.slice b3 m3 k3) p3 d) ∧ (W.heap.size ≤ p1 ∧ W.heap.size ≤ p2 ∧ W.heap.size ≤ p3) ∧ (p1 ≠ p2 ∧ p1 ≠ p3 ∧ p2 ≠ p3) ∧ Below W.heap.size W w') := fun W hW => by
    refine (toSig_any a vo vs vd g1 o1 g2 o2 g3 o3 o s d W (ho.below hW ho.lt) (hs.below hW hs.lt) (hd.below hW hd.lt)).mono ?_
    rintro e w' ⟨v, rfl, ⟨v1, v2, v3, p1, p2, p3, rfl, ⟨t1, t2, t3⟩, hl, hn⟩, hb⟩
    obtain ⟨a1, c1, rfl, _⟩ := id t1
    obtain ⟨a2, c2, rfl, _⟩ := id t2
    obtain ⟨a3, c3, rfl, _⟩ := id t3
    exact ⟨a1, _, c1, a2, _, c2, a3, _, c3, p1, p2, p3, rfl, ⟨t1, t2, t3⟩, hl, hn, hb⟩
  obtain ⟨ao, co, rfl, lo, x1⟩ := ho
  obtain ⟨as2, cs2, rfl, ls, x2⟩ := hs
  obtain ⟨ad, cd, rfl, ld, x3⟩ := hd
  clear x1 x2 x3
  generalize o.length = n1 at *
  generalize s.length = n2 at *
  generalize d.length = n3 at *
  obtain ⟨h, e, r, p⟩ := x
  simp only at HTH ⊢
  have HX : Hid (Below w.heap.size w (((w.alloc (.cells #[.int .i64 h, .int .i64 e, .string r, .string p, .int .i64 a, .slice ao n1 co, .slice as2 n2 cs2, .slice ad n3 cd] 86)).alloc (.cells zSl 58)).alloc (.cells zSl 58)) ∧ SlB 86 (((w.alloc (.cells #[.int .i64 h, .int .i64 e, .string r, .string p, .int .i64 a, .slice ao n1 co, .slice as2 n2 cs2, .slice ad n3 cd] 86)).alloc (.cells zSl 58)).alloc (.cells zSl 58)) w.heap.size ⟨h, e, r, p⟩ a (.slice ao n1 co) (.slice as2 n2 cs2) (.slice ad n3 cd) ∧ SlB 58 (((w.alloc (.cells #[.int .i64 h, .int .i64 e, .string r, .string p, .int .i64 a, .slice ao n1 co, .slice as2 n2 cs2, .slice ad n3 cd] 86)).alloc (.cells zSl 58)).alloc (.cells zSl 58)) (w.heap.size + 1) zHd 0 (.slice none 0 0) (.slice none 0 0) (.slice none 0 0) ∧ SlB 58 (((w.alloc (.cells #[.int .i64 h, .int .i64 e, .string r, .string p, .int .i64 a, .slice ao n1 co, .slice as2 n2 cs2, .slice ad n3 cd] 86)).alloc (.cells zSl 58)).alloc (.cells zSl 58)) (w.heap.size + 1 + 1) zHd 0 (.slice none 0 0) (.slice none 0 0) (.slice none 0 0) ∧ (((w.alloc (.cells #[.int .i64 h, .int .i64 e, .string r, .string p, .int .i64 a, .slice ao n1 co, .slice as2 n2 cs2, .slice ad n3 cd] 86)).alloc (.cells zSl 58)).alloc (.cells zSl 58)).heap.size = w.heap.size + 1 + 1 + 1) := by
    have hz : ∀ W : World, Below W.heap.size W (W.alloc (.cells zSl 58)) := fun W => (Below.refl _ _).alloc (Nat.le_refl _) _
    refine ⟨(((Below.refl _ _).alloc (Nat.le_refl _) _).alloc (by simp) _).alloc (by simp; omega) _, ((SlB.new _ _ ⟨h, e, r, p⟩ _ _ _ _).later (hz _)).later (hz _), ?_, ?_, by simp⟩
    · have h1 : SlB 58 ((w.alloc (.cells #[.int .i64 h, .int .i64 e, .string r, .string p, .int .i64 a, .slice ao n1 co, .slice as2 n2 cs2, .slice ad n3 cd] 86)).alloc (.cells zSl 58)) (w.heap.size + 1) zHd 0 (.slice none 0 0) (.slice none 0 0) (.slice none 0 0) := alloc_fst _ _ (by simp)
      exact h1.later (hz _)
    · exact alloc_fst _ _ (by simp)
  go_enter Tryd.func77, Tryd.ntmps77
  go_wp2_with fail
  refine (HTH.out _).mono ?_
  rintro e1 w1 ⟨rfl, hb1⟩
  have HX1 : Hid (Below w.heap.size w w1 ∧ SlB 86 w1 w.heap.size ⟨h, e, r, p⟩ a (.slice ao n1 co) (.slice as2 n2 cs2) (.slice ad n3 cd) ∧ SlB 58 w1 (w.heap.size + 1) zHd 0 (.slice none 0 0) (.slice none 0 0) (.slice none 0 0) ∧ SlB 58 w1 (w.heap.size + 1 + 1) zHd 0 (.slice none 0 0) (.slice none 0 0) (.slice none 0 0) ∧ w.heap.size + 1 + 1 + 1 ≤ w1.heap.size) := ⟨HX.out.1.trans (hb1.mono HX.out.1.size), HX.out.2.1.later hb1, HX.out.2.2.1.later hb1, HX.out.2.2.2.1.later hb1, by rw [← HX.out.2.2.2.2]; exact hb1.size⟩
  obtain ⟨z0, z1, z2, z3, z4, z5, z6, z7⟩ := HX1.out.2.2.2.1.cells
  have f0 := HX1.out.2.2.2.1.fz 0
  have f1 := HX1.out.2.2.2.1.fz 1
  have f2 := HX1.out.2.2.2.1.fz 2
  have f3 := HX1.out.2.2.2.1.fz 3
  obtain ⟨q0, q1, q2, q3, q4, q5, q6, q7⟩ := HX1.out.2.1.cells
  have hne0 : w.heap.size ≠ w.heap.size + 1 + 1 := by omega
  have HX2 : Hid (Below w.heap.size w ((((w1.setCell ⟨w.heap.size + 1 + 1, 0, none⟩ (.int .i64 h)).setCell ⟨w.heap.size + 1 + 1, 1, none⟩ (.int .i64 e)).setCell ⟨w.heap.size + 1 + 1, 2, none⟩ (.string r)).setCell ⟨w.heap.size + 1 + 1, 3, none⟩ (.string p)) ∧ SlB 58 ((((w1.setCell ⟨w.heap.size + 1 + 1, 0, none⟩ (.int .i64 h)).setCell ⟨w.heap.size + 1 + 1, 1, none⟩ (.int .i64 e)).setCell ⟨w.heap.size + 1 + 1, 2, none⟩ (.string r)).setCell ⟨w.heap.size + 1 + 1, 3, none⟩ (.string p)) (w.heap.size + 1) zHd 0 (.slice none 0 0) (.slice none 0 0) (.slice none 0 0) ∧ SlB 58 ((((w1.setCell ⟨w.heap.size + 1 + 1, 0, none⟩ (.int .i64 h)).setCell ⟨w.heap.size + 1 + 1, 1, none⟩ (.int .i64 e)).setCell ⟨w.heap.size + 1 + 1, 2, none⟩ (.string r)).setCell ⟨w.heap.size + 1 + 1, 3, none⟩ (.string p)) (w.heap.size + 1 + 1) ⟨h, e, r, p⟩ 0 (.slice none 0 0) (.slice none 0 0) (.slice none 0 0) ∧ w.heap.size + 1 + 1 + 1 ≤ ((((w1.setCell ⟨w.heap.size + 1 + 1, 0, none⟩ (.int .i64 h)).setCell ⟨w.heap.size + 1 + 1, 1, none⟩ (.int .i64 e)).setCell ⟨w.heap.size + 1 + 1, 2, none⟩ (.string r)).setCell ⟨w.heap.size + 1 + 1, 3, none⟩ (.string p)).heap.size) := by
    have hg := grown4 w1 (w.heap.size + 1 + 1) 0 1 2 3 (.int .i64 h) (.int .i64 e) (.string r) (.string p)
    exact ⟨HX1.out.1.grown hg HX1.out.1.size (fun k hk => by simp at hk; omega), HX1.out.2.2.1.grown hg (by simp), HX1.out.2.2.2.1.putH ⟨h, e, r, p⟩, Nat.le_trans HX1.out.2.2.2.2 hg.size⟩
  clear hb1 HX HTH z4 z5 z6 z7 q0 q1 q2 q3 HX1
  go_wp2_with fail
  refine (HTS.out _ HX2.out.1).mono ?_
  rintro e2 w2 ⟨b1, m1, k1, b2, m2, k2, b3, m3, k3, p1, p2, p3, rfl, ⟨t1, t2, t3⟩, ⟨l1, l2, l3⟩, hpn, hb2⟩
  have hp : w.heap.size + 1 + 1 < p1 ∧ w.heap.size + 1 + 1 < p2 ∧ w.heap.size + 1 + 1 < p3 := by have := HX2.out.2.2.2; omega
  have hX3 := HX2.out.2.2.1.later hb2
  obtain ⟨z0, z1, z2, z3, z4, z5, z6, z7⟩ := hX3.cells
  have f4 := hX3.fz 4
  have f5 := hX3.fz 5
  have f6 := hX3.fz 6
  have f7 := hX3.fz 7
  have HX4 : Hid (Below w.heap.size w ((((w2.setCell ⟨w.heap.size + 1 + 1, 4, none⟩ (.int .i64 a)).setCell ⟨w.heap.size + 1 + 1, 5, none⟩ (.slice b1 m1 k1)).setCell ⟨w.heap.size + 1 + 1, 6, none⟩ (.slice b2 m2 k2)).setCell ⟨w.heap.size + 1 + 1, 7, none⟩ (.slice b3 m3 k3)) ∧ SlB 58 ((((w2.setCell ⟨w.heap.size + 1 + 1, 4, none⟩ (.int .i64 a)).setCell ⟨w.heap.size + 1 + 1, 5, none⟩ (.slice b1 m1 k1)).setCell ⟨w.heap.size + 1 + 1, 6, none⟩ (.slice b2 m2 k2)).setCell ⟨w.heap.size + 1 + 1, 7, none⟩ (.slice b3 m3 k3)) (w.heap.size + 1) zHd 0 (.slice none 0 0) (.slice none 0 0) (.slice none 0 0) ∧ SlB 58 ((((w2.setCell ⟨w.heap.size + 1 + 1, 4, none⟩ (.int .i64 a)).setCell ⟨w.heap.size + 1 + 1, 5, none⟩ (.slice b1 m1 k1)).setCell ⟨w.heap.size + 1 + 1, 6, none⟩ (.slice b2 m2 k2)).setCell ⟨w.heap.size + 1 + 1, 7, none⟩ (.slice b3 m3 k3)) (w.heap.size + 1 + 1) ⟨h, e, r, p⟩ a (.slice b1 m1 k1) (.slice b2 m2 k2) (.slice b3 m3 k3) ∧ (TS ((((w2.setCell ⟨w.heap.size + 1 + 1, 4, none⟩ (.int .i64 a)).setCell ⟨w.heap.size + 1 + 1, 5, none⟩ (.slice b1 m1 k1)).setCell ⟨w.heap.size + 1 + 1, 6, none⟩ (.slice b2 m2 k2)).setCell ⟨w.heap.size + 1 + 1, 7, none⟩ (.slice b3 m3 k3)) (.slice b1 m1 k1) p1 o ∧ TS ((((w2.setCell ⟨w.heap.size + 1 + 1, 4, none⟩ (.int .i64 a)).setCell ⟨w.heap.size + 1 + 1, 5, none⟩ (.slice b1 m1 k1)).setCell ⟨w.heap.size + 1 + 1, 6, none⟩ (.slice b2 m2 k2)).setCell ⟨w.heap.size + 1 + 1, 7, none⟩ (.slice b3 m3 k3)) (.slice b2 m2 k2) p2 s ∧ TS ((((w2.setCell ⟨w.heap.size + 1 + 1, 4, none⟩ (.int .i64 a)).setCell ⟨w.heap.size + 1 + 1, 5, none⟩ (.slice b1 m1 k1)).setCell ⟨w.heap.size + 1 + 1, 6, none⟩ (.slice b2 m2 k2)).setCell ⟨w.heap.size + 1 + 1, 7, none⟩ (.slice b3 m3 k3)) (.slice b3 m3 k3) p3 d)) := by
    have hg := grown4 w2 (w.heap.size + 1 + 1) 4 5 6 7 (.int .i64 a) (.slice b1 m1 k1) (.slice b2 m2 k2) (.slice b3 m3 k3)
    have k1x := HX2.out.1.trans (hb2.mono HX2.out.1.size)
    exact ⟨k1x.grown hg k1x.size (fun k hk => by simp at hk; omega), (HX2.out.2.1.later hb2).grown hg (by simp), hX3.putS a _ _ _, t1.keptG hg (fun _ => by simp; omega), t2.keptG hg (fun _ => by simp; omega), t3.keptG hg (fun _ => by simp; omega)⟩
  clear hX3 t1 t2 t3 hb2 HX2 l1 l2 l3 z0 z1 z2 z3 q4 q5 q6 q7 f0 f1 f2 f3 HTS
  go_upto_region 4 with fail
  generalize ((((w2.setCell ⟨w.heap.size + 1 + 1, 4, none⟩ (.int .i64 a)).setCell ⟨w.heap.size + 1 + 1, 5, none⟩ (.slice b1 m1 k1)).setCell ⟨w.heap.size + 1 + 1, 6, none⟩ (.slice b2 m2 k2)).setCell ⟨w.heap.size + 1 + 1, 7, none⟩ (.slice b3 m3 k3)) = W4 at *
  clear z4 z5 z6 z7 f4 f5 f6 f7
  go_wp2_with (first | (refine wp_loadSl rfl _ rfl (w.heap.size + 1 + 1) ⟨h, e, r, p⟩ a _ _ _ rfl HX4.out.2.2.1 ?_) | (refine wp_storeSl rfl _ _ rfl (w.heap.size + 1) zHd ⟨h, e, r, p⟩ 0 a _ _ _ _ _ _ HX4.out.2.1 rfl rfl rfl rfl rfl ?_; intro hst) | fail)
  refine ret_sl1 2 (w.heap.size + 1) ⟨h, e, r, p⟩ a _ _ _ rfl rfl rfl hst ?_
  have hg := grown_setRow W4 (w.heap.size + 1) #[.int .i64 h, .int .i64 e, .string r, .string p, .int .i64 a, .slice b1 m1 k1, .slice b2 m2 k2, .slice b3 m3 k3]
  obtain ⟨t1, t2, t3⟩ := HX4.out.2.2.2
  exact ⟨_, rfl, ⟨_, _, _, rfl, ⟨_, _, _, p1, p2, p3, rfl, ⟨t1.keptG hg (fun _ => by simp; omega), t2.keptG hg (fun _ => by simp; omega), t3.keptG hg (fun _ => by simp; omega)⟩, ⟨by omega, by omega, by omega⟩, hpn⟩⟩, below_setRL HX4.out.1 (by omega) HX4.out.1.size _⟩

set_option maxRecDepth 100000 in
set_option maxHeartbeats 1000000 in
theorem markSeal_any (x : Hd) (a : Int) (v1 v2 v3 : Value) (g1 g2 g3 : Nat) (o s d : List ByteArray) (w : World) (h1 : TS w v1 g1 o) (h2 : TS w v2 g2 s) (h3 : TS w v3 g3 d) (d12 : g1 ≠ g2) (d13 : g1 ≠ g3) (d23 : g2 ≠ g3) :
    Calls Tryd.prog 73 #[.agg #[.int .i64 x.h, .int .i64 x.e, .string x.r, .string x.p, .int .i64 a, v1, v2, v3], .int .i64 1] w fun e w' => e = .returned (.int .i64 (1 + o.length + s.length + d.length : Nat)) ∧ TS w' v1 g1 (marks 1 o.length) ∧ TS w' v2 g2 (marks (1 + o.length) s.length) ∧ TS w' v3 g3 (marks (1 + o.length + s.length) d.length) ∧ Grown3 w w' (rowOf g1 o) (rowOf g2 s) (rowOf g3 d) := by
  have hB : Below w.heap.size w (w.alloc (.cells #[.int .i64 x.h, .int .i64 x.e, .string x.r, .string x.p, .int .i64 a, v1, v2, v3] 58)) := (Below.refl _ _).alloc (Nat.le_refl _) _
  have hc := markSig_any a v1 v2 v3 g1 g2 g3 o s d _ (h1.later hB) (h2.later hB) (h3.later hB) d12 d13 d23
  have HB : Hid (Below w.heap.size w (w.alloc (.cells #[.int .i64 x.h, .int .i64 x.e, .string x.r, .string x.p, .int .i64 a, v1, v2, v3] 58))) := hB
  obtain ⟨a1, c1, rfl, _, x1⟩ := h1
  obtain ⟨a2, c2, rfl, _, x2⟩ := h2
  obtain ⟨a3, c3, rfl, _, x3⟩ := h3
  clear hB x1 x2 x3
  generalize (1 + o.length + s.length + d.length : Nat) = N at *
  go_enter Tryd.func73, Tryd.ntmps73
  go_wp2_with fail
  refine hc.mono ?_
  rintro e1 w1 ⟨rfl, m1, m2, m3, wa, wb, ha, hb, hcc⟩
  go_wp2
  go_ret
  exact ⟨rfl, m1, m2, m3, wa, wb, (grown_below HB.out).trans ha, hb, hcc⟩

set_option maxRecDepth 100000 in
set_option maxHeartbeats 1000000 in
theorem heldSeal_any (x : Hd) (a : Int) (v1 v2 v3 : Value) (g1 g2 g3 n1 n2 n3 : Nat) (w : World) (h1 : TS w v1 g1 (marks 1 n1)) (h2 : TS w v2 g2 (marks (1 + n1) n2)) (h3 : TS w v3 g3 (marks (1 + n1 + n2) n3)) :
    Calls Tryd.prog 74 #[.agg #[.int .i64 x.h, .int .i64 x.e, .string x.r, .string x.p, .int .i64 a, v1, v2, v3], .int .i64 1] w fun e w' => e = .returned (.int .i64 (1 + n1 + n2 + n3 : Nat)) ∧ Below w.heap.size w w' := by
  have hB : Below w.heap.size w (w.alloc (.cells #[.int .i64 x.h, .int .i64 x.e, .string x.r, .string x.p, .int .i64 a, v1, v2, v3] 58)) := (Below.refl _ _).alloc (Nat.le_refl _) _
  have hc := heldSig_any a v1 v2 v3 g1 g2 g3 n1 n2 n3 _ (h1.later hB) (h2.later hB) (h3.later hB)
  have HB : Hid (Below w.heap.size w (w.alloc (.cells #[.int .i64 x.h, .int .i64 x.e, .string x.r, .string x.p, .int .i64 a, v1, v2, v3] 58))) := hB
  obtain ⟨a1, c1, rfl, _, x1⟩ := h1
  obtain ⟨a2, c2, rfl, _, x2⟩ := h2
  obtain ⟨a3, c3, rfl, _, x3⟩ := h3
  rw [marks_len, marks_len, marks_len] at *
  clear hB x1 x2 x3
  obtain ⟨N, hN⟩ : ∃ N : Nat, 1 + n1 + n2 + n3 = N := ⟨_, rfl⟩
  rw [hN] at hc ⊢
  have hq : ¬ ((N : Int) < 0) := by omega
  clear hN
  go_enter Tryd.func74, Tryd.ntmps74
  go_wp2_with fail
  refine hc.mono ?_
  rintro e1 w1 ⟨rfl, hb1⟩
  go_wp2
  go_ret
  exact ⟨rfl, HB.out.trans (hb1.mono HB.out.size)⟩

theorem SealIn.out {w : World} {B : Nat} {v : Value} {x : Hd} {a : Int} {o s d : List ByteArray} (h : SealIn w B v x a o s d) : ∃ v1 v2 v3 g1 g2 g3, v = .agg #[.int .i64 x.h, .int .i64 x.e, .string x.r, .string x.p, .int .i64 a, v1, v2, v3] ∧ (TS w v1 g1 o ∧ TS w v2 g2 s ∧ TS w v3 g3 d) ∧ (B ≤ g1 ∧ B ≤ g2 ∧ B ≤ g3) ∧ (g1 ≠ g2 ∧ g1 ≠ g3 ∧ g2 ≠ g3) := by
  obtain ⟨v1, v2, v3, rfl, u1, u2, u3, g1, g2, g3, hv, ht, hB, hn⟩ := h
  simp at hv
  obtain ⟨rfl, rfl, rfl⟩ := hv
  exact ⟨v1, v2, v3, g1, g2, g3, rfl, ht, hB, hn⟩
/-- block p is a seal, and its lists lie so -/
def WSl (W : World) (p : Nat) (x : Hd) (a : Int) (v1 v2 v3 : Value) (g1 g2 g3 : Nat) (o s d : List ByteArray) : Prop := SlB 58 W p x a v1 v2 v3 ∧ TS W v1 g1 o ∧ TS W v2 g2 s ∧ TS W v3 g3 d
theorem WSl.later {W W' : World} {p : Nat} {x : Hd} {a : Int} {v1 v2 v3 : Value} {g1 g2 g3 : Nat} {o s d : List ByteArray} (h : WSl W p x a v1 v2 v3 g1 g2 g3 o s d) (hb : Below W.heap.size W W') : WSl W' p x a v1 v2 v3 g1 g2 g3 o s d :=
  ⟨h.1.later hb, h.2.1.later hb, h.2.2.1.later hb, h.2.2.2.later hb⟩
theorem WSl.alloc {W : World} {p : Nat} {x : Hd} {a : Int} {v1 v2 v3 : Value} {g1 g2 g3 : Nat} {o s d : List ByteArray} (h : WSl W p x a v1 v2 v3 g1 g2 g3 o s d) (y : Obj) : WSl (W.alloc y) p x a v1 v2 v3 g1 g2 g3 o s d := h.later ((Below.refl _ _).alloc (Nat.le_refl _) _)
theorem WSl.new (W : World) (x : Hd) (a : Int) (v1 v2 v3 : Value) (g1 g2 g3 : Nat) (o s d : List ByteArray) (h1 : TS W v1 g1 o) (h2 : TS W v2 g2 s) (h3 : TS W v3 g3 d) : WSl (W.alloc (.cells #[.int .i64 x.h, .int .i64 x.e, .string x.r, .string x.p, .int .i64 a, v1, v2, v3] 58)) W.heap.size x a v1 v2 v3 g1 g2 g3 o s d := by
  have hb : Below W.heap.size W (W.alloc (.cells #[.int .i64 x.h, .int .i64 x.e, .string x.r, .string x.p, .int .i64 a, v1, v2, v3] 58)) := (Below.refl _ _).alloc (Nat.le_refl _) _
  exact ⟨SlB.new _ _ _ _ _ _ _, h1.later hb, h2.later hb, h3.later hb⟩
theorem SlB.keptG3 {T : Nat} {w w' : World} {g : Nat} {r1 r2 r3 : Option Nat} {x : Hd} {a : Int} {v1 v2 v3 : Value} (h : SlB T w g x a v1 v2 v3) (hg : Grown3 w w' r1 r2 r3) (h1 : some g ≠ r1) (h2 : some g ≠ r2) (h3 : some g ≠ r3) : SlB T w' g x a v1 v2 v3 := by
  obtain ⟨wa, wb, ha, hb, hc⟩ := hg
  exact ((h.grown ha h1).grown hb h2).grown hc h3
section
variable {w : World} {ops : Array Oper} {rest : List Oper} {o : Oper} {a : Act} {Q : Exit → Act → World → Prop}
/-- a seal that a law was handed, loaded whole -/
theorem wp_loadSlL (hgd : o.guard = none) (p : Operand) (ho : o.op = .load 86 p) (g : Nat) (x : Hd) (y : Int) (v1 v2 v3 : Value) (hp : a.eval p = .pointer (some ⟨g, 0, none⟩)) (hA : SlB 86 w g x y v1 v2 v3)
    (h : wpList Tryd.prog ops Q rest (a.put o.dst (.agg #[.int .i64 x.h, .int .i64 x.e, .string x.r, .string x.p, .int .i64 y, v1, v2, v3])) w) : wpList Tryd.prog ops Q (o :: rest) a w := by
  refine wpList_plain hgd fun K hK => ?_
  have hr : (Instr.loadAt 86 (.pointer (some ⟨g, 0, none⟩))).run Tryd.prog w = .ok (.agg #[.int .i64 x.h, .int .i64 x.e, .string x.r, .string x.p, .int .i64 y, v1, v2, v3]) w := by
    simp only [Instr.loadAt, Instr.sureAddr, Sem.run_bind, Sem.run_pure, Result.andThen]
    exact run_loadVar_row (P := Tryd.prog) w g 86 86 _ (0, 0) _ hA Tryd.underlying86 rfl (by kernel_rfl)
  unfold Oper.wp
  simp [execOp, ho, hp, hr, Result.andThen]
  exact hK _ _ h
end

end Go.Proofs.YtmfoliocibjdnaaDoor
