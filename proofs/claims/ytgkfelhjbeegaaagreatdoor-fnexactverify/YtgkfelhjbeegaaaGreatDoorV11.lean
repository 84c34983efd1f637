/-
  Texts laid together: Rsh, Sgl, Rsl, Hb.
-/
import Derived.Test.YtgkfelhjbeegaaaGreatDoorV10
import Derived.Test.YtgkfelhjbeegaaaGreatDoorV05
/-
  What ReadSig answers at any text, the program's and the specification's.
-/
namespace Go.Proofs.YtgkfelhjbeegaaaGreatDoor
open Go.RowKit Go.BigFrame
set_option linter.unusedVariables false

/-- what stands behind each field that was cut -/
def SrH (w w1 : World) (x : Int) (v1 v2 v3 : Value) : Prop := SgM w1 w.heap.size 0 (.slice none 0 0) (.slice none 0 0) (.slice none 0 0) ∧ SgM w1 (w.heap.size + 1) x v1 v2 v3 ∧ Below w.heap.size w w1
theorem SrH.later {w w1 w2 : World} {x : Int} {v1 v2 v3 : Value} (h : SrH w w1 x v1 v2 v3) (hb : Below w1.heap.size w1 w2) : SrH w w2 x v1 v2 v3 := ⟨h.1.later hb, h.2.1.later hb, h.2.2.trans (hb.mono h.2.2.size)⟩

end Go.Proofs.YtgkfelhjbeegaaaGreatDoor
/-
  What the laws' own helpers do with signatures: measured, taken over, compared, marked, held.
-/
namespace Go.Proofs.YtgkfelhjbeegaaaGreatDoor
open Go.RowKit Go.BigFrame
set_option linter.unusedVariables false

def SzT (n : Nat) (w : World) (x i : Value) (wr : World) : Prop := ∃ (m : Nat) (y : Int), m ≤ n ∧ i = .int .i64 m ∧ x = .int .i64 y ∧ (0 ≤ y ∧ y ≤ 1048576) ∧ wr = w

set_option maxRecDepth 100000 in
set_option maxHeartbeats 400000 in
theorem szS_row (a : Option Addr) (n cap : Nat) (ss : List ByteArray) (x : Int) (w : World) (hr : IsRowS w a n cap ss) (h0 : 0 ≤ x) (hx : x ≤ 1048576) :
    Calls Tryz.prog 12 #[.slice a n cap, .int .i64 x] w fun e w' => (∃ A : Int, e = .returned (.int .i64 A) ∧ (-1 ≤ A ∧ A ≤ 1048576) ∧ (0 ≤ A → n ≤ 1048576)) ∧ w' = w := by
  have hm := hr.len
  unfold maxLen at hm
  by_cases hb : x < (n : Int)
  · have q : (x - (n : Int) < 0) := by omega
    go_enter Tryz.func12, Tryz.ntmps12
    go_wp2
    go_ret
    exact ⟨⟨-1, rfl, by omega, fun h => by omega⟩, rfl⟩
  · obtain ⟨g, o, l, hl, hs, hz⟩ := ss_of_row hr (by omega)
    obtain ⟨a', cap', hv, _, hA, hc⟩ := hs
    rw [hl] at hv
    simp at hv
    obtain ⟨rfl, rfl⟩ := hv
    have HA : Hid (0 < n → a = some ⟨g, o, none⟩) := by rw [← hl]; exact hA
    have HC : Hid (∀ j (h : j < n), ∃ X : ByteArray, X.size ≤ 9223372036854775807 ∧ w.cell? ⟨g, o + j, none⟩ = some (.string X)) := fun j hj =>
      ⟨l[j]'(by omega), by have := hz (l[j]'(by omega)) (List.getElem_mem _); unfold maxLen at this; omega, hc j (by omega)⟩
    have HST : Hid (SzT n w (.int .i64 (x - (n : Int))) (.int .i64 0) w) := ⟨0, _, by omega, rfl, rfl, by omega, rfl⟩
    have q : ¬ (x - (n : Int) < 0) := by omega
    clear hA hc hl hz hr
    go_enter Tryz.func12, Tryz.ntmps12
    go_wp2
    go_loopw [1, 5] (fun x i wr => SzT n w x i wr) (fun _ i _ => n - (intOf i).toNat)
    case atStart => exact HST.out
    case round =>
      obtain ⟨m, y, hmn, rfl, rfl, hy, rfl⟩ := hrel
      clear HST
      by_cases hlt : m < n
      · obtain ⟨X, hX, c0⟩ := HC.out m hlt
        have ea := HA.out (by omega)
        subst ea
        have i1 : (m : Int) < (n : Int) := by omega
        have i2 : (0 : Int) ≤ (m : Int) := by omega
        clear HC HA
        by_cases hx : y - (X.size : Int) < 0
        · go_wp2
          go_ret
          exact ⟨⟨-1, rfl, by omega, fun h => by omega⟩, rfl⟩
        · go_wp2
          go_roundw
          case rel => exact ⟨m + 1, _, by omega, by go_num, rfl, by omega, rfl⟩
          case measure => simp [intOf]; omega
      · have hme : m = n := by omega
        subst hme
        clear HC HA
        go_wp2
        go_ret
        exact ⟨⟨y, rfl, by omega, fun h => by omega⟩, rfl⟩

set_option maxRecDepth 100000 in
set_option maxHeartbeats 1000000 in
theorem szSig_at (a : Int) (a1 a2 a3 : Option Addr) (n1 n2 n3 k1 k2 k3 : Nat) (z1 z2 z3 : List ByteArray) (x : Int) (w : World) (hx0 : 0 ≤ x) (hx1 : x ≤ 1048576) (h1 : IsRowS w a1 n1 k1 z1) (h2 : IsRowS w a2 n2 k2 z2) (h3 : IsRowS w a3 n3 k3 z3) :
    Calls Tryz.prog 36 #[.agg #[.int .i64 a, .slice a1 n1 k1, .slice a2 n2 k2, .slice a3 n3 k3], .int .i64 x] w fun e w' => ∃ A : Int, e = .returned (.int .i64 A) ∧ Below w.heap.size w w' ∧ (0 ≤ A → n1 ≤ 1048576 ∧ n2 ≤ 1048576 ∧ n3 ≤ 1048576) := by
  have hrow : ∀ (x : Option Addr) (n k : Nat) (z : List ByteArray), IsRowS w x n k z → IsRowS (w.alloc (.cells #[.int .i64 a, .slice a1 n1 k1, .slice a2 n2 k2, .slice a3 n3 k3] 31)) x n k z := by
    intro x n k z h
    rcases h with h | ⟨p, rfl, hl, hm, hlz, hc, hz⟩
    · exact .inl h
    · refine .inr ⟨p, rfl, hl, hm, hlz, fun i hi => ?_, hz⟩
      have h4 := hc i hi
      have hlt : (p.add i).block < w.heap.size := by
        rcases Nat.lt_or_ge (p.add i).block w.heap.size with h5 | h5
        · exact h5
        · simp [World.cell?, Array.getElem?_eq_none h5] at h4
      exact (((Below.refl w.heap.size w).alloc (Nat.le_refl _) _).cell hlt).trans h4
  have H1 : Hid (∀ x : Int, 0 ≤ x → x ≤ 1048576 → Calls Tryz.prog 12 #[.slice a1 n1 k1, .int .i64 x] (w.alloc (.cells #[.int .i64 a, .slice a1 n1 k1, .slice a2 n2 k2, .slice a3 n3 k3] 31)) fun e w' => (∃ A : Int, e = .returned (.int .i64 A) ∧ (-1 ≤ A ∧ A ≤ 1048576) ∧ (0 ≤ A → n1 ≤ 1048576)) ∧ w' = (w.alloc (.cells #[.int .i64 a, .slice a1 n1 k1, .slice a2 n2 k2, .slice a3 n3 k3] 31))) := fun x h0 hx => szS_row a1 n1 k1 z1 x _ (hrow _ _ _ _ h1) h0 hx
  have H2 : Hid (∀ x : Int, 0 ≤ x → x ≤ 1048576 → Calls Tryz.prog 12 #[.slice a2 n2 k2, .int .i64 x] (w.alloc (.cells #[.int .i64 a, .slice a1 n1 k1, .slice a2 n2 k2, .slice a3 n3 k3] 31)) fun e w' => (∃ A : Int, e = .returned (.int .i64 A) ∧ (-1 ≤ A ∧ A ≤ 1048576) ∧ (0 ≤ A → n2 ≤ 1048576)) ∧ w' = (w.alloc (.cells #[.int .i64 a, .slice a1 n1 k1, .slice a2 n2 k2, .slice a3 n3 k3] 31))) := fun x h0 hx => szS_row a2 n2 k2 z2 x _ (hrow _ _ _ _ h2) h0 hx
  have H3 : Hid (∀ x : Int, 0 ≤ x → x ≤ 1048576 → Calls Tryz.prog 12 #[.slice a3 n3 k3, .int .i64 x] (w.alloc (.cells #[.int .i64 a, .slice a1 n1 k1, .slice a2 n2 k2, .slice a3 n3 k3] 31)) fun e w' => (∃ A : Int, e = .returned (.int .i64 A) ∧ (-1 ≤ A ∧ A ≤ 1048576) ∧ (0 ≤ A → n3 ≤ 1048576)) ∧ w' = (w.alloc (.cells #[.int .i64 a, .slice a1 n1 k1, .slice a2 n2 k2, .slice a3 n3 k3] 31))) := fun x h0 hx => szS_row a3 n3 k3 z3 x _ (hrow _ _ _ _ h3) h0 hx
  have HB : Hid (Below w.heap.size w (w.alloc (.cells #[.int .i64 a, .slice a1 n1 k1, .slice a2 n2 k2, .slice a3 n3 k3] 31))) := (Below.refl _ _).alloc (Nat.le_refl _) _
  clear hrow h1 h2 h3
  go_enter Tryz.func36, Tryz.ntmps36
  go_wp2_with fail
  refine (H1.out _ (by omega) (by omega)).mono ?_
  rintro e w' ⟨⟨A1, rfl, hA1, HN1⟩, rfl⟩
  by_cases hn1 : A1 < 0
  · go_wp2
    go_ret
    exact ⟨-1, rfl, HB.out, fun h => by omega⟩
  · go_wp2_with fail
    refine (H2.out _ (by omega) (by omega)).mono ?_
    rintro e w' ⟨⟨A2, rfl, hA2, HN2⟩, rfl⟩
    by_cases hn2 : A2 < 0
    · go_wp2
      go_ret
      exact ⟨-1, rfl, HB.out, fun h => by omega⟩
    · go_wp2_with fail
      refine (H3.out _ (by omega) (by omega)).mono ?_
      rintro e w' ⟨⟨A3, rfl, hA3, HN3⟩, rfl⟩
      by_cases hn3 : A3 < 0
      · go_wp2
        go_ret
        exact ⟨-1, rfl, HB.out, fun h => by omega⟩
      · have K := And.intro (HN1 (by omega)) (And.intro (HN2 (by omega)) (HN3 (by omega)))
        clear HN1 HN2 HN3
        go_wp2
        go_ret
        exact ⟨A3, rfl, HB.out, fun _ => K⟩

theorem szSig_row (a : Int) (a1 a2 a3 : Option Addr) (n1 n2 n3 k1 k2 k3 : Nat) (z1 z2 z3 : List ByteArray) (w : World) (h1 : IsRowS w a1 n1 k1 z1) (h2 : IsRowS w a2 n2 k2 z2) (h3 : IsRowS w a3 n3 k3 z3) :
    Calls Tryz.prog 36 #[.agg #[.int .i64 a, .slice a1 n1 k1, .slice a2 n2 k2, .slice a3 n3 k3], .int .i64 1048576] w fun e w' => ∃ A : Int, e = .returned (.int .i64 A) ∧ Below w.heap.size w w' ∧ (0 ≤ A → n1 ≤ 1048576 ∧ n2 ≤ 1048576 ∧ n3 ≤ 1048576) :=
  szSig_at a a1 a2 a3 n1 n2 n3 k1 k2 k3 z1 z2 z3 1048576 w (by omega) (by omega) h1 h2 h3

set_option maxRecDepth 100000 in
set_option maxHeartbeats 1000000 in
theorem eqSig_yes (a : Int) (v1 v2 v3 u1 u2 u3 : Value) (g1 o1 g2 o2 g3 o3 p1 q1 p2 q2 p3 q3 : Nat) (o s d : List ByteArray) (w : World) (h1 : SS w v1 g1 o1 o) (h2 : SS w v2 g2 o2 s) (h3 : SS w v3 g3 o3 d) (k1 : SS w u1 p1 q1 o) (k2 : SS w u2 p2 q2 s) (k3 : SS w u3 p3 q3 d) :
    Calls Tryz.prog 65 #[.agg #[.int .i64 a, v1, v2, v3], .agg #[.int .i64 a, u1, u2, u3]] w fun e w' => e = .returned (.bool true) ∧ Below w.heap.size w w' := by
  have H1 : Hid (∀ W, Below w.heap.size w W → Calls Tryz.prog 30 #[v1, u1] W fun e w' => e = .returned (.bool true) ∧ ∃ q, w' = W.drewN q) := fun W hW => eqStringS_yes v1 u1 g1 o1 p1 q1 o W (h1.below hW h1.lt) (k1.below hW k1.lt)
  have H2 : Hid (∀ W, Below w.heap.size w W → Calls Tryz.prog 30 #[v2, u2] W fun e w' => e = .returned (.bool true) ∧ ∃ q, w' = W.drewN q) := fun W hW => eqStringS_yes v2 u2 g2 o2 p2 q2 s W (h2.below hW h2.lt) (k2.below hW k2.lt)
  have H3 : Hid (∀ W, Below w.heap.size w W → Calls Tryz.prog 30 #[v3, u3] W fun e w' => e = .returned (.bool true) ∧ ∃ q, w' = W.drewN q) := fun W hW => eqStringS_yes v3 u3 g3 o3 p3 q3 d W (h3.below hW h3.lt) (k3.below hW k3.lt)
  have HB : Hid (∀ x y : Obj, Below w.heap.size w ((w.alloc x).alloc y)) := fun x y => ((Below.refl _ _).alloc (Nat.le_refl _) _).alloc (by simp) _
  obtain ⟨_, _, rfl, x1, y1⟩ := h1
  obtain ⟨_, _, rfl, x2, y2⟩ := h2
  obtain ⟨_, _, rfl, x3, y3⟩ := h3
  obtain ⟨_, _, rfl, x4, y4⟩ := k1
  obtain ⟨_, _, rfl, x5, y5⟩ := k2
  obtain ⟨_, _, rfl, x6, y6⟩ := k3
  clear x1 x2 x3 x4 x5 x6 y1 y2 y3 y4 y5 y6
  generalize o.length = n1 at *
  generalize s.length = n2 at *
  generalize d.length = n3 at *
  go_enter Tryz.func65, Tryz.ntmps65
  go_wp2_with fail
  refine (H1.out _ (HB.out _ _)).mono ?_
  rintro e w' ⟨rfl, q1, rfl⟩
  go_wp2_with fail
  refine (H2.out _ (below_drn (HB.out _ _) _)).mono ?_
  rintro e w' ⟨rfl, q2, rfl⟩
  go_wp2_with fail
  refine (H3.out _ (below_drn (HB.out _ _) _)).mono ?_
  rintro e w' ⟨rfl, q3, rfl⟩
  go_wp2
  go_ret
  exact ⟨rfl, below_drn (HB.out _ _) _⟩

/-- behind what was written into three rows alone -/
def Grown3 (w w' : World) (r1 r2 r3 : Option Nat) : Prop := ∃ wa wb, w.grownBy wa r1 ∧ wa.grownBy wb r2 ∧ wb.grownBy w' r3
theorem Grown3.ts {w w' : World} {r1 r2 r3 : Option Nat} {g : Nat} {v : Value} {l : List ByteArray} (h : Grown3 w w' r1 r2 r3) (ht : TS w v g l) (hn : 0 < l.length → some g ≠ r1 ∧ some g ≠ r2 ∧ some g ≠ r3) : TS w' v g l := by
  obtain ⟨wa, wb, ha, hb, hc⟩ := h
  exact ((ht.keptG ha (fun h => (hn h).1)).keptG hb (fun h => (hn h).2.1)).keptG hc (fun h => (hn h).2.2)
theorem Grown3.below {B : Nat} {w0 w w' : World} {r1 r2 r3 : Option Nat} (h : Grown3 w w' r1 r2 r3) (hb : Below B w0 w) (hB : B ≤ w.heap.size) (h1 : ∀ k, r1 = some k → B ≤ k) (h2 : ∀ k, r2 = some k → B ≤ k) (h3 : ∀ k, r3 = some k → B ≤ k) : Below B w0 w' := by
  obtain ⟨wa, wb, ha, hb2, hc⟩ := h
  have hB1 : B ≤ wa.heap.size := Nat.le_trans hB ha.size
  exact ((hb.grown ha hB h1).grown hb2 hB1 h2).grown hc (Nat.le_trans hB1 hb2.size) h3
theorem Grown3.size {w w' : World} {r1 r2 r3 : Option Nat} (h : Grown3 w w' r1 r2 r3) : w.heap.size ≤ w'.heap.size := by
  obtain ⟨wa, wb, ha, hb2, hc⟩ := h
  exact Nat.le_trans ha.size (Nat.le_trans hb2.size hc.size)
theorem rowOf_le {B g : Nat} {l : List ByteArray} (h : B ≤ g) : ∀ k, rowOf g l = some k → B ≤ k := by
  intro k hk
  unfold rowOf at hk
  split at hk
  · cases hk
  · simp at hk
    omega

end Go.Proofs.YtgkfelhjbeegaaaGreatDoor
/-
  The walk of the law FnExactReadSig: it answers true of every text.
-/
namespace Go.Proofs.YtgkfelhjbeegaaaGreatDoor
open Go.RowKit Go.BigFrame
set_option linter.unusedVariables false

/-- block p is a signature, and its lists lie so -/
def WSg (W : World) (p : Nat) (a : Int) (v1 v2 v3 : Value) (g1 g2 g3 : Nat) (o s d : List ByteArray) : Prop := SgM W p a v1 v2 v3 ∧ TS W v1 g1 o ∧ TS W v2 g2 s ∧ TS W v3 g3 d
theorem WSg.later {W W' : World} {p : Nat} {a : Int} {v1 v2 v3 : Value} {g1 g2 g3 : Nat} {o s d : List ByteArray} (h : WSg W p a v1 v2 v3 g1 g2 g3 o s d) (hb : Below W.heap.size W W') : WSg W' p a v1 v2 v3 g1 g2 g3 o s d :=
  ⟨h.1.later hb, h.2.1.later hb, h.2.2.1.later hb, h.2.2.2.later hb⟩
theorem WSg.alloc {W : World} {p : Nat} {a : Int} {v1 v2 v3 : Value} {g1 g2 g3 : Nat} {o s d : List ByteArray} (h : WSg W p a v1 v2 v3 g1 g2 g3 o s d) (x : Obj) : WSg (W.alloc x) p a v1 v2 v3 g1 g2 g3 o s d := h.later ((Below.refl _ _).alloc (Nat.le_refl _) _)
theorem SgM.keptG3 {w w' : World} {g : Nat} {r1 r2 r3 : Option Nat} {a : Int} {v1 v2 v3 : Value} (h : SgM w g a v1 v2 v3) (hg : Grown3 w w' r1 r2 r3) (h1 : some g ≠ r1) (h2 : some g ≠ r2) (h3 : some g ≠ r3) : SgM w' g a v1 v2 v3 := by
  obtain ⟨wa, wb, ha, hb, hc⟩ := hg
  exact ((h.keptG ha h1).keptG hb h2).keptG hc h3
theorem TS.shape {w : World} {v : Value} {g : Nat} {l : List ByteArray} (h : TS w v g l) : ∃ a c, v = .slice a l.length c := by
  obtain ⟨a, c, hv, _⟩ := h
  exact ⟨a, c, hv⟩
theorem WSg.new (W : World) (a : Int) (v1 v2 v3 : Value) (g1 g2 g3 : Nat) (o s d : List ByteArray) (h1 : TS W v1 g1 o) (h2 : TS W v2 g2 s) (h3 : TS W v3 g3 d) : WSg (W.alloc (.cells #[.int .i64 a, v1, v2, v3] 47)) W.heap.size a v1 v2 v3 g1 g2 g3 o s d := by
  have hb : Below W.heap.size W (W.alloc (.cells #[.int .i64 a, v1, v2, v3] 47)) := (Below.refl _ _).alloc (Nat.le_refl _) _
  exact ⟨SgM.new W a v1 v2 v3, h1.later hb, h2.later hb, h3.later hb⟩

end Go.Proofs.YtgkfelhjbeegaaaGreatDoor
/-
  A head, and rows of heads, that a law is handed: counted, copied, compared.
-/
namespace Go.Proofs.YtgkfelhjbeegaaaGreatDoor
open Go.RowKit Go.BigFrame Go.Sort
set_option linter.unusedVariables false
set_option linter.unusedSimpArgs false


/-- a head in cells of any box -/
def RB (W : World) (g : Nat) (x : Hd) : Prop := W.rangeAt g 0 (hcs x) ∧ g < W.heap.size
theorem RB.new (w : World) (x : Hd) (T : Nat) : RB (w.alloc (.cells #[.int .i64 x.h, .int .i64 x.e, .string x.r, .string x.p] T)) w.heap.size x := ⟨range_new w (hcs x) T, by simp⟩
theorem RB.later {W W' : World} {g : Nat} {x : Hd} (h : RB W g x) (hb : Below W.heap.size W W') : RB W' g x := ⟨range_kept h.1 (hb.block g h.2), Nat.lt_of_lt_of_le h.2 hb.size⟩
theorem RB.grown {W W' : World} {g : Nat} {x : Hd} {row : Option Nat} (h : RB W g x) (hg : W.grownBy W' row) (hne : some g ≠ row) : RB W' g x := ⟨range_kept h.1 (hg.block g h.2 hne), Nat.lt_of_lt_of_le h.2 hg.size⟩
theorem RB.c0 {W : World} {g : Nat} {x : Hd} (h : RB W g x) : W.cell? ⟨g, 0, none⟩ = some (.int .i64 x.h) := h.1 0 _ rfl
theorem RB.c1 {W : World} {g : Nat} {x : Hd} (h : RB W g x) : W.cell? ⟨g, 1, none⟩ = some (.int .i64 x.e) := h.1 1 _ rfl
theorem RB.c2 {W : World} {g : Nat} {x : Hd} (h : RB W g x) : W.cell? ⟨g, 2, none⟩ = some (.string x.r) := h.1 2 _ rfl
theorem RB.c3 {W : World} {g : Nat} {x : Hd} (h : RB W g x) : W.cell? ⟨g, 3, none⟩ = some (.string x.p) := h.1 3 _ rfl

set_option maxRecDepth 100000 in
set_option maxHeartbeats 400000 in
theorem toHead_any (a : Hd) (w : World) : Calls Tryz.prog 54 #[.agg #[.int .i64 a.h, .int .i64 a.e, .string a.r, .string a.p]] w fun e w' => e = .returned (.agg #[.int .i64 a.h, .int .i64 a.e, .string a.r, .string a.p]) ∧ Below w.heap.size w w' := by
  obtain ⟨k, y, t, o⟩ := a
  go_enter Tryz.func54, Tryz.ntmps54
  go_wp2
  refine ret_rec 2 (w.heap.size + 1) 46 [.int .i64 k, .int .i64 y, .string t, .string o] _ rfl rfl rfl Tryz.underlying46 rfl sizeHead ?_ ?_
  · exact World.rangeAt_alloc (range_at (by simp) (range_new _ [.int .i64 k, .int .i64 y, .string t, .string o] _)) _
  · exact ⟨rfl, (((Below.refl _ _).alloc (Nat.le_refl _) _).alloc (by simp) _).alloc (by simp; omega) _⟩

set_option maxHeartbeats 400000 in
theorem szHead_any (a : Hd) (x : Int) (w : World) (h0 : 0 ≤ x) (h1 : x ≤ 1048576) (ht : a.r.size ≤ 9223372036854775807) (ho : a.p.size ≤ 9223372036854775807) :
    Calls Tryz.prog 35 #[.agg #[.int .i64 a.h, .int .i64 a.e, .string a.r, .string a.p], .int .i64 x] w fun e w' => ∃ A : Int, e = .returned (.int .i64 A) ∧ Below w.heap.size w w' ∧ A ≤ x ∧ (0 ≤ A → a.r.size ≤ 1048576 ∧ a.p.size ≤ 1048576) := by
  obtain ⟨k, y, t, o⟩ := a
  simp only at ht ho ⊢
  have HB : Hid (Below w.heap.size w (w.alloc (.cells #[.int .i64 k, .int .i64 y, .string t, .string o] 29))) := (Below.refl _ _).alloc (Nat.le_refl _) _
  by_cases h3 : x - (t.size : Int) < 0
  · go_enter Tryz.func35, Tryz.ntmps35
    go_wp2
    go_ret
    exact ⟨_, rfl, HB.out, by omega, fun h => by omega⟩
  · by_cases h4 : x - (t.size : Int) - (o.size : Int) < 0
    · go_enter Tryz.func35, Tryz.ntmps35
      go_wp2
      go_ret
      exact ⟨_, rfl, HB.out, by omega, fun h => by omega⟩
    · go_enter Tryz.func35, Tryz.ntmps35
      go_wp2
      go_ret
      exact ⟨_, rfl, HB.out, by omega, fun h => ⟨by omega, by omega⟩⟩

theorem Tryz.infoHead : (Tryz.prog.info? 46).map (fun i => (i.zero, i.size, i.bytes)) = some (some (.agg #[.int .i64 0, .int .i64 0, .string ByteArray.empty, .string ByteArray.empty]), 4, 48) := by kernel_rfl
theorem there_new4h {W : World} {cs : Array Value} {T n : Nat} (h : cs.size = n * 4) (j : Nat) (hj : j < n) : (W.alloc (.cells cs T)).there W.heap.size (j * 4) 4 := by
  intro i hi
  have hg := Go.heap_alloc_new W (.cells cs T)
  refine ⟨?_, by unfold World.frozen?; simp only [hg]; simp⟩
  rw [cell_of_row _ W.heap.size (j * 4 + i) cs T (0, 0) hg, Array.getElem?_eq_getElem (by omega)]
  rfl
/-- the first m records of a new row are written -/
def ToH (w : World) (l : List Hd) (B g : Nat) (i : Value) (wr : World) : Prop := ∃ m : Nat, m ≤ l.length ∧ i = .int .i64 m ∧ (∀ j (h : j < l.length), j < m → wr.rangeAt g (j * 4) (hcs l[j])) ∧ (∀ j, j < l.length → wr.there g (j * 4) 4) ∧ Below B w wr
theorem ToH.set {w wr : World} {l : List Hd} {g m B : Nat} (hm : m < l.length) (hB : B ≤ g) (h1 : ∀ j (h : j < l.length), j < m → wr.rangeAt g (j * 4) (hcs l[j])) (h2 : ∀ j, j < l.length → wr.there g (j * 4) 4) (h3 : Below B w wr) :
    (∀ j (h : j < l.length), j < m + 1 → (wr.setCells g (m * 4) (hcs l[m])).rangeAt g (j * 4) (hcs l[j])) ∧ (∀ j, j < l.length → (wr.setCells g (m * 4) (hcs l[m])).there g (j * 4) 4) ∧ Below B w (wr.setCells g (m * 4) (hcs l[m])) := by
  refine ⟨fun j hj hlt => ?_, fun j hj => World.there_setCells (h2 j hj) _ _ _, ?_⟩
  · rcases Nat.lt_or_ge j m with h4 | h4
    · exact World.rangeAt_setCells_apart (h1 j hj h4) _ _ _ (.inr (.inl (by rw [hcs_len]; omega)))
    · have : j = m := by omega
      subst this
      exact World.rangeAt_setCells_same _ _ _ _ (h2 j hj)
  · exact below_setCells hB _ _ _ h3

theorem eqHead_yes (f : Hd) (w : World) : Calls Tryz.prog 64 #[.agg #[.int .i64 f.h, .int .i64 f.e, .string f.r, .string f.p], .agg #[.int .i64 f.h, .int .i64 f.e, .string f.r, .string f.p]] w fun e w' => e = .returned (.bool true) ∧ Below w.heap.size w w' := by
  obtain ⟨k, x, t, o⟩ := f
  have hb : Below w.heap.size w ((w.alloc (.cells #[.int .i64 k, .int .i64 x, .string t, .string o] 46)).alloc (.cells #[.int .i64 k, .int .i64 x, .string t, .string o] 46)) := ((Below.refl _ _).alloc (Nat.le_refl _) _).alloc (by simp) _
  go_enter Tryz.func64, Tryz.ntmps64
  go_wp2
  go_ret
  exact ⟨rfl, hb⟩

def EhR (n : Nat) (w : World) (i : Value) (wr : World) : Prop := ∃ m : Nat, m ≤ n ∧ i = .int .i64 m ∧ Below w.heap.size w wr

/-- a row of heads that was handed in, great or small: if it is small, it is l -/
def IsRowH (w : World) (v : Value) (g o : Nat) (l : List Hd) : Prop := ∃ a n cap, v = .slice a n cap ∧ n ≤ 9223372036854775807 ∧ (n ≤ 1100000 → l.length = n ∧ RS 4 hcs w v g o l ∧ ∀ f ∈ l, f.r.size ≤ 9223372036854775807 ∧ f.p.size ≤ 9223372036854775807)
theorem IsRowH.later {w w' : World} {v : Value} {g o : Nat} {l : List Hd} (h : IsRowH w v g o l) (hb : Below w.heap.size w w') : IsRowH w' v g o l := by
  obtain ⟨a, n, cap, hv, hn, hr⟩ := h
  exact ⟨a, n, cap, hv, hn, fun hl => ⟨(hr hl).1, (hr hl).2.1.later hb, (hr hl).2.2⟩⟩
def SmallH1 (a : Hd) : Prop := a.r.size ≤ 1048576 ∧ a.p.size ≤ 1048576
/-- no text of it is great -/
def SmallHs (l : List Hd) : Prop := ∀ f ∈ l, SmallH1 f

def SzH (l : List Hd) (x0 : Int) (w : World) (x i : Value) (wr : World) : Prop := ∃ (m : Nat) (y : Int), m ≤ l.length ∧ i = .int .i64 m ∧ x = .int .i64 y ∧ 0 ≤ y ∧ y ≤ x0 ∧ Hid (∀ j (h : j < l.length), j < m → SmallH1 l[j]) ∧ Below w.heap.size w wr

end Go.Proofs.YtgkfelhjbeegaaaGreatDoor
