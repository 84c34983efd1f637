/-
  Texts laid together: Rsh, Sgl.
-/
import Derived.Test.YtkgibgadngeddabDoorPkEST26
/-
  What ReadSig answers at any text, the program's and the specification's.
-/
namespace Go.Proofs.YtkgibgadngeddabDoor
open Go.RowKit Go.BigFrame
set_option linter.unusedVariables false

/-- what stands behind each field that was cut -/
def SrH (w w1 : World) (x : Int) (v1 v2 v3 : Value) : Prop := SgM w1 w.heap.size 0 (.slice none 0 0) (.slice none 0 0) (.slice none 0 0) ∧ SgM w1 (w.heap.size + 1) x v1 v2 v3 ∧ Below w.heap.size w w1
theorem SrH.later {w w1 w2 : World} {x : Int} {v1 v2 v3 : Value} (h : SrH w w1 x v1 v2 v3) (hb : Below w1.heap.size w1 w2) : SrH w w2 x v1 v2 v3 := ⟨h.1.later hb, h.2.1.later hb, h.2.2.trans (hb.mono h.2.2.size)⟩

end Go.Proofs.YtkgibgadngeddabDoor
/-
  What the laws' own helpers do with signatures: measured, taken over, compared, marked, held.
-/
namespace Go.Proofs.YtkgibgadngeddabDoor
open Go.RowKit Go.BigFrame
set_option linter.unusedVariables false

def SzT (n : Nat) (w : World) (x i : Value) (wr : World) : Prop := ∃ (m : Nat) (y : Int), m ≤ n ∧ i = .int .i64 m ∧ x = .int .i64 y ∧ (0 ≤ y ∧ y ≤ 1048576) ∧ wr = w

set_option maxRecDepth 100000 in
set_option maxHeartbeats 400000 in
theorem szS_row (a : Option Addr) (n cap : Nat) (ss : List ByteArray) (x : Int) (w : World) (hr : IsRowS w a n cap ss) (h0 : 0 ≤ x) (hx : x ≤ 1048576) :
    Calls Tryd.prog 13 #[.slice a n cap, .int .i64 x] w fun e w' => (∃ A : Int, e = .returned (.int .i64 A) ∧ (-1 ≤ A ∧ A ≤ 1048576) ∧ (0 ≤ A → n ≤ 1048576)) ∧ w' = w := by
  have hm := hr.len
  unfold maxLen at hm
  by_cases hb : x < (n : Int)
  · have q : (x - (n : Int) < 0) := by omega
    go_enter Tryd.func13, Tryd.ntmps13
    go_wp2
    go_ret
    exact ⟨⟨-1, rfl, by omega, fun h => by omega⟩, rfl⟩
  · obtain ⟨g, o, l, hl, hs, hz⟩ := ss_of_row hr (by omega)
    obtain ⟨a', cap', hv, _, hA, hc⟩ := hs
    rw [hl] at hv
    simp at hv
    obtain ⟨rfl, rfl⟩ := hv
    have HA : Hid (0 < n → a = some ⟨g, o, none⟩) := by rw [← hl]; exact hA
    have HC : Hid (∀ j (h : j < n), ∃ X : ByteArray, X.size ≤ 9223372036854775807 ∧ w.cell? ⟨g, o + j, none⟩ = some (.string X)) := fun j hj =>
      ⟨l[j]'(by omega), by have := hz (l[j]'(by omega)) (List.getElem_mem _); unfold maxLen at this; omega, hc j (by omega)⟩
    have HST : Hid (SzT n w (.int .i64 (x - (n : Int))) (.int .i64 0) w) := ⟨0, _, by omega, rfl, rfl, by omega, rfl⟩
    have q : ¬ (x - (n : Int) < 0) := by omega
    clear hA hc hl hz hr
    go_enter Tryd.func13, Tryd.ntmps13
    go_wp2
    go_loopw [1, 5] (fun x i wr => SzT n w x i wr) (fun _ i _ => n - (intOf i).toNat)
    case atStart => exact HST.out
    case round =>
      obtain ⟨m, y, hmn, rfl, rfl, hy, rfl⟩ := hrel
      clear HST
      by_cases hlt : m < n
      · obtain ⟨X, hX, c0⟩ := HC.out m hlt
        have ea := HA.out (by omega)
        subst ea
        have i1 : (m : Int) < (n : Int) := by omega
        have i2 : (0 : Int) ≤ (m : Int) := by omega
        clear HC HA
        by_cases hx : y - (X.size : Int) < 0
        · go_wp2
          go_ret
          exact ⟨⟨-1, rfl, by omega, fun h => by omega⟩, rfl⟩
        · go_wp2
          go_roundw
          case rel => exact ⟨m + 1, _, by omega, by go_num, rfl, by omega, rfl⟩
          case measure => simp [intOf]; omega
      · have hme : m = n := by omega
        subst hme
        clear HC HA
        go_wp2
        go_ret
        exact ⟨⟨y, rfl, by omega, fun h => by omega⟩, rfl⟩

set_option maxRecDepth 100000 in
set_option maxHeartbeats 1000000 in
theorem szSig_at (a : Int) (a1 a2 a3 : Option Addr) (n1 n2 n3 k1 k2 k3 : Nat) (z1 z2 z3 : List ByteArray) (x : Int) (w : World) (hx0 : 0 ≤ x) (hx1 : x ≤ 1048576) (h1 : IsRowS w a1 n1 k1 z1) (h2 : IsRowS w a2 n2 k2 z2) (h3 : IsRowS w a3 n3 k3 z3) :
    Calls Tryd.prog 4 #[.agg #[.int .i64 a, .slice a1 n1 k1, .slice a2 n2 k2, .slice a3 n3 k3], .int .i64 x] w fun e w' => ∃ A : Int, e = .returned (.int .i64 A) ∧ Below w.heap.size w w' ∧ (0 ≤ A → n1 ≤ 1048576 ∧ n2 ≤ 1048576 ∧ n3 ≤ 1048576) := by
  have hrow : ∀ (x : Option Addr) (n k : Nat) (z : List ByteArray), IsRowS w x n k z → IsRowS (w.alloc (.cells #[.int .i64 a, .slice a1 n1 k1, .slice a2 n2 k2, .slice a3 n3 k3] 24)) x n k z := by
    intro x n k z h
    rcases h with h | ⟨p, rfl, hl, hm, hlz, hc, hz⟩
    · exact .inl h
    · refine .inr ⟨p, rfl, hl, hm, hlz, fun i hi => ?_, hz⟩
      have h4 := hc i hi
      have hlt : (p.add i).block < w.heap.size := by
        rcases Nat.lt_or_ge (p.add i).block w.heap.size with h5 | h5
        · exact h5
        · simp [World.cell?, Array.getElem?_eq_none h5] at h4
      exact (((Below.refl w.heap.size w).alloc (Nat.le_refl _) _).cell hlt).trans h4
  have H1 : Hid (∀ x : Int, 0 ≤ x → x ≤ 1048576 → Calls Tryd.prog 13 #[.slice a1 n1 k1, .int .i64 x] (w.alloc (.cells #[.int .i64 a, .slice a1 n1 k1, .slice a2 n2 k2, .slice a3 n3 k3] 24)) fun e w' => (∃ A : Int, e = .returned (.int .i64 A) ∧ (-1 ≤ A ∧ A ≤ 1048576) ∧ (0 ≤ A → n1 ≤ 1048576)) ∧ w' = (w.alloc (.cells #[.int .i64 a, .slice a1 n1 k1, .slice a2 n2 k2, .slice a3 n3 k3] 24))) := fun x h0 hx => szS_row a1 n1 k1 z1 x _ (hrow _ _ _ _ h1) h0 hx
  have H2 : Hid (∀ x : Int, 0 ≤ x → x ≤ 1048576 → Calls Tryd.prog 13 #[.slice a2 n2 k2, .int .i64 x] (w.alloc (.cells #[.int .i64 a, .slice a1 n1 k1, .slice a2 n2 k2, .slice a3 n3 k3] 24)) fun e w' => (∃ A : Int, e = .returned (.int .i64 A) ∧ (-1 ≤ A ∧ A ≤ 1048576) ∧ (0 ≤ A → n2 ≤ 1048576)) ∧ w' = (w.alloc (.cells #[.int .i64 a, .slice a1 n1 k1, .slice a2 n2 k2, .slice a3 n3 k3] 24))) := fun x h0 hx => szS_row a2 n2 k2 z2 x _ (hrow _ _ _ _ h2) h0 hx
  have H3 : Hid (∀ x : Int, 0 ≤ x → x ≤ 1048576 → Calls Tryd.prog 13 #[.slice a3 n3 k3, .int .i64 x] (w.alloc (.cells #[.int .i64 a, .slice a1 n1 k1, .slice a2 n2 k2, .slice a3 n3 k3] 24)) fun e w' => (∃ A : Int, e = .returned (.int .i64 A) ∧ (-1 ≤ A ∧ A ≤ 1048576) ∧ (0 ≤ A → n3 ≤ 1048576)) ∧ w' = (w.alloc (.cells #[.int .i64 a, .slice a1 n1 k1, .slice a2 n2 k2, .slice a3 n3 k3] 24))) := fun x h0 hx => szS_row a3 n3 k3 z3 x _ (hrow _ _ _ _ h3) h0 hx
  have HB : Hid (Below w.heap.size w (w.alloc (.cells #[.int .i64 a, .slice a1 n1 k1, .slice a2 n2 k2, .slice a3 n3 k3] 24))) := (Below.refl _ _).alloc (Nat.le_refl _) _
  clear hrow h1 h2 h3
  go_enter Tryd.func4, Tryd.ntmps4
  go_wp2_with fail
  refine (H1.out _ (by omega) (by omega)).mono ?_
  rintro e w' ⟨⟨A1, rfl, hA1, HN1⟩, rfl⟩
  by_cases hn1 : A1 < 0
  · go_wp2
    go_ret
    exact ⟨-1, rfl, HB.out, fun h => by omega⟩
  · go_wp2_with fail
    refine (H2.out _ (by omega) (by omega)).mono ?_
    rintro e w' ⟨⟨A2, rfl, hA2, HN2⟩, rfl⟩
    by_cases hn2 : A2 < 0
    · go_wp2
      go_ret
      exact ⟨-1, rfl, HB.out, fun h => by omega⟩
    · go_wp2_with fail
      refine (H3.out _ (by omega) (by omega)).mono ?_
      rintro e w' ⟨⟨A3, rfl, hA3, HN3⟩, rfl⟩
      by_cases hn3 : A3 < 0
      · go_wp2
        go_ret
        exact ⟨-1, rfl, HB.out, fun h => by omega⟩
      · have K := And.intro (HN1 (by omega)) (And.intro (HN2 (by omega)) (HN3 (by omega)))
        clear HN1 HN2 HN3
        go_wp2
        go_ret
        exact ⟨A3, rfl, HB.out, fun _ => K⟩

theorem szSig_row (a : Int) (a1 a2 a3 : Option Addr) (n1 n2 n3 k1 k2 k3 : Nat) (z1 z2 z3 : List ByteArray) (w : World) (h1 : IsRowS w a1 n1 k1 z1) (h2 : IsRowS w a2 n2 k2 z2) (h3 : IsRowS w a3 n3 k3 z3) :
    Calls Tryd.prog 4 #[.agg #[.int .i64 a, .slice a1 n1 k1, .slice a2 n2 k2, .slice a3 n3 k3], .int .i64 1048576] w fun e w' => ∃ A : Int, e = .returned (.int .i64 A) ∧ Below w.heap.size w w' ∧ (0 ≤ A → n1 ≤ 1048576 ∧ n2 ≤ 1048576 ∧ n3 ≤ 1048576) :=
  szSig_at a a1 a2 a3 n1 n2 n3 k1 k2 k3 z1 z2 z3 1048576 w (by omega) (by omega) h1 h2 h3

set_option maxRecDepth 100000 in
set_option maxHeartbeats 1000000 in
theorem eqSig_yes (a : Int) (v1 v2 v3 u1 u2 u3 : Value) (g1 o1 g2 o2 g3 o3 p1 q1 p2 q2 p3 q3 : Nat) (o s d : List ByteArray) (w : World) (h1 : SS w v1 g1 o1 o) (h2 : SS w v2 g2 o2 s) (h3 : SS w v3 g3 o3 d) (k1 : SS w u1 p1 q1 o) (k2 : SS w u2 p2 q2 s) (k3 : SS w u3 p3 q3 d) :
    Calls Tryd.prog 9 #[.agg #[.int .i64 a, v1, v2, v3], .agg #[.int .i64 a, u1, u2, u3]] w fun e w' => e = .returned (.bool true) ∧ Below w.heap.size w w' := by
  have H1 : Hid (∀ W, Below w.heap.size w W → Calls Tryd.prog 8 #[v1, u1] W fun e w' => e = .returned (.bool true) ∧ ∃ q, w' = W.drewN q) := fun W hW => eqStringS_yes v1 u1 g1 o1 p1 q1 o W (h1.below hW h1.lt) (k1.below hW k1.lt)
  have H2 : Hid (∀ W, Below w.heap.size w W → Calls Tryd.prog 8 #[v2, u2] W fun e w' => e = .returned (.bool true) ∧ ∃ q, w' = W.drewN q) := fun W hW => eqStringS_yes v2 u2 g2 o2 p2 q2 s W (h2.below hW h2.lt) (k2.below hW k2.lt)
  have H3 : Hid (∀ W, Below w.heap.size w W → Calls Tryd.prog 8 #[v3, u3] W fun e w' => e = .returned (.bool true) ∧ ∃ q, w' = W.drewN q) := fun W hW => eqStringS_yes v3 u3 g3 o3 p3 q3 d W (h3.below hW h3.lt) (k3.below hW k3.lt)
  have HB : Hid (∀ x y : Obj, Below w.heap.size w ((w.alloc x).alloc y)) := fun x y => ((Below.refl _ _).alloc (Nat.le_refl _) _).alloc (by simp) _
  obtain ⟨_, _, rfl, x1, y1⟩ := h1
  obtain ⟨_, _, rfl, x2, y2⟩ := h2
  obtain ⟨_, _, rfl, x3, y3⟩ := h3
  obtain ⟨_, _, rfl, x4, y4⟩ := k1
  obtain ⟨_, _, rfl, x5, y5⟩ := k2
  obtain ⟨_, _, rfl, x6, y6⟩ := k3
  clear x1 x2 x3 x4 x5 x6 y1 y2 y3 y4 y5 y6
  generalize o.length = n1 at *
  generalize s.length = n2 at *
  generalize d.length = n3 at *
  go_enter Tryd.func9, Tryd.ntmps9
  go_wp2_with fail
  refine (H1.out _ (HB.out _ _)).mono ?_
  rintro e w' ⟨rfl, q1, rfl⟩
  go_wp2_with fail
  refine (H2.out _ (below_drn (HB.out _ _) _)).mono ?_
  rintro e w' ⟨rfl, q2, rfl⟩
  go_wp2_with fail
  refine (H3.out _ (below_drn (HB.out _ _) _)).mono ?_
  rintro e w' ⟨rfl, q3, rfl⟩
  go_wp2
  go_ret
  exact ⟨rfl, below_drn (HB.out _ _) _⟩

/-- behind what was written into three rows alone -/
def Grown3 (w w' : World) (r1 r2 r3 : Option Nat) : Prop := ∃ wa wb, w.grownBy wa r1 ∧ wa.grownBy wb r2 ∧ wb.grownBy w' r3
theorem Grown3.ts {w w' : World} {r1 r2 r3 : Option Nat} {g : Nat} {v : Value} {l : List ByteArray} (h : Grown3 w w' r1 r2 r3) (ht : TS w v g l) (hn : 0 < l.length → some g ≠ r1 ∧ some g ≠ r2 ∧ some g ≠ r3) : TS w' v g l := by
  obtain ⟨wa, wb, ha, hb, hc⟩ := h
  exact ((ht.keptG ha (fun h => (hn h).1)).keptG hb (fun h => (hn h).2.1)).keptG hc (fun h => (hn h).2.2)
theorem Grown3.below {B : Nat} {w0 w w' : World} {r1 r2 r3 : Option Nat} (h : Grown3 w w' r1 r2 r3) (hb : Below B w0 w) (hB : B ≤ w.heap.size) (h1 : ∀ k, r1 = some k → B ≤ k) (h2 : ∀ k, r2 = some k → B ≤ k) (h3 : ∀ k, r3 = some k → B ≤ k) : Below B w0 w' := by
  obtain ⟨wa, wb, ha, hb2, hc⟩ := h
  have hB1 : B ≤ wa.heap.size := Nat.le_trans hB ha.size
  exact ((hb.grown ha hB h1).grown hb2 hB1 h2).grown hc (Nat.le_trans hB1 hb2.size) h3
theorem Grown3.size {w w' : World} {r1 r2 r3 : Option Nat} (h : Grown3 w w' r1 r2 r3) : w.heap.size ≤ w'.heap.size := by
  obtain ⟨wa, wb, ha, hb2, hc⟩ := h
  exact Nat.le_trans ha.size (Nat.le_trans hb2.size hc.size)
theorem rowOf_le {B g : Nat} {l : List ByteArray} (h : B ≤ g) : ∀ k, rowOf g l = some k → B ≤ k := by
  intro k hk
  unfold rowOf at hk
  split at hk
  · cases hk
  · simp at hk
    omega

set_option maxRecDepth 100000 in
set_option maxHeartbeats 1000000 in
theorem markSig_any (a : Int) (v1 v2 v3 : Value) (g1 g2 g3 : Nat) (o s d : List ByteArray) (w : World) (h1 : TS w v1 g1 o) (h2 : TS w v2 g2 s) (h3 : TS w v3 g3 d) (d12 : g1 ≠ g2) (d13 : g1 ≠ g3) (d23 : g2 ≠ g3) :
    Calls Tryd.prog 10 #[.agg #[.int .i64 a, v1, v2, v3], .int .i64 1] w fun e w' => e = .returned (.int .i64 (1 + o.length + s.length + d.length : Nat)) ∧ TS w' v1 g1 (marks 1 o.length) ∧ TS w' v2 g2 (marks (1 + o.length) s.length) ∧ TS w' v3 g3 (marks (1 + o.length + s.length) d.length) ∧ Grown3 w w' (rowOf g1 o) (rowOf g2 s) (rowOf g3 d) := by
  have l1 := h1.len
  have l2 := h2.len
  have l3 := h3.len
  have hB : Below w.heap.size w (w.alloc (.cells #[.int .i64 a, v1, v2, v3] 27)) := (Below.refl _ _).alloc (Nat.le_refl _) _
  have HT : Hid (TS (w.alloc (.cells #[.int .i64 a, v1, v2, v3] 27)) v1 g1 o ∧ TS (w.alloc (.cells #[.int .i64 a, v1, v2, v3] 27)) v2 g2 s ∧ TS (w.alloc (.cells #[.int .i64 a, v1, v2, v3] 27)) v3 g3 d ∧ SgM (w.alloc (.cells #[.int .i64 a, v1, v2, v3] 27)) w.heap.size a v1 v2 v3) := ⟨h1.later hB, h2.later hB, h3.later hB, SgM.new w a v1 v2 v3⟩
  have HB : Hid (Below w.heap.size w (w.alloc (.cells #[.int .i64 a, v1, v2, v3] 27))) := hB
  have HN : Hid ((0 < o.length → w.heap.size ≠ g1) ∧ (0 < s.length → w.heap.size ≠ g2) ∧ (0 < d.length → w.heap.size ≠ g3)) := ⟨fun h => by have := h1.lt h; omega, fun h => by have := h2.lt h; omega, fun h => by have := h3.lt h; omega⟩
  obtain ⟨a1, c1, rfl, _, x1⟩ := h1
  obtain ⟨a2, c2, rfl, _, x2⟩ := h2
  obtain ⟨a3, c3, rfl, _, x3⟩ := h3
  clear hB x1 x2 x3
  go_enter Tryd.func10, Tryd.ntmps10
  go_wp2_with fail
  refine (markStringS_any _ g1 o _ 1 _ rfl HT.out.1 (by omega) (by omega)).mono ?_
  rintro e wa ⟨rfl, ha1, hga⟩
  have ha2 := HT.out.2.1.keptG hga (fun _ => rowOf_ne (fun _ => d12.symm))
  have ha3 := HT.out.2.2.1.keptG hga (fun _ => rowOf_ne (fun _ => d13.symm))
  have hsa := HT.out.2.2.2.keptG hga (rowOf_ne HN.out.1)
  have e2 := hsa.c2
  have HG1 : Hid (w.grownBy wa (rowOf g1 o)) := (grown_below HB.out).trans hga
  have HA : Hid (TS wa (.slice a1 o.length c1) g1 (marks 1 o.length) ∧ TS wa (.slice a2 s.length c2) g2 s ∧ TS wa (.slice a3 d.length c3) g3 d ∧ SgM wa w.heap.size a (.slice a1 o.length c1) (.slice a2 s.length c2) (.slice a3 d.length c3)) := ⟨ha1, ha2, ha3, hsa⟩
  clear ha1 ha2 ha3 hsa hga HT HB
  go_wp2_with fail
  refine (markStringS_any _ g2 s _ (1 + o.length) _ rfl HA.out.2.1 (by omega) (by omega)).mono ?_
  rintro e wb ⟨rfl, hb2, hgb⟩
  have hb1 := HA.out.1.keptG hgb (fun _ => rowOf_ne (fun _ => d12))
  have hb3 := HA.out.2.2.1.keptG hgb (fun _ => rowOf_ne (fun _ => d23.symm))
  have hsb := HA.out.2.2.2.keptG hgb (rowOf_ne HN.out.2.1)
  have e3 := hsb.c3
  have HG2 : Hid (wa.grownBy wb (rowOf g2 s)) := hgb
  have HA2 : Hid (TS wb (.slice a1 o.length c1) g1 (marks 1 o.length) ∧ TS wb (.slice a2 s.length c2) g2 (marks (1 + o.length) s.length) ∧ TS wb (.slice a3 d.length c3) g3 d) := ⟨hb1, hb2, hb3⟩
  clear hb1 hb2 hb3 hsb hgb HA e2
  go_wp2_with fail
  refine (markStringS_any _ g3 d _ (1 + o.length + s.length) _ rfl HA2.out.2.2 (by omega) (by omega)).mono ?_
  rintro e wc ⟨rfl, hc3, hgc⟩
  have hc1 := HA2.out.1.keptG hgc (fun _ => rowOf_ne (fun _ => d13))
  have hc2 := HA2.out.2.1.keptG hgc (fun _ => rowOf_ne (fun _ => d23))
  clear e3
  go_wp2
  go_ret
  exact ⟨rfl, hc1, hc2, hc3, wa, wb, HG1.out, HG2.out, hgc⟩

end Go.Proofs.YtkgibgadngeddabDoor
