/-
  Rows of numbers: two compared, one marked, one held against its marks.
-/
import Derived.Test.YtjfdgidhgijheaaDoorBegin
import Derived.Test.YtjfdgidhgijheaaDoorPlaces
namespace Go.Proofs.YtjfdgidhgijheaaDoor
open Go.RowKit Go.BigFrame
set_option linter.unusedVariables false

/-- v reads as the numbers l, which lie in block g from place o on -/
def SV (w : World) (v : Value) (g o : Nat) (l : List Int) : Prop :=
  ∃ a cap, v = .slice a l.length cap ∧ l.length ≤ 1100000 ∧ (0 < l.length → a = some ⟨g, o, none⟩) ∧ ∀ j (h : j < l.length), w.cell? ⟨g, o + j, none⟩ = some (.int .i64 l[j])

theorem SV.below {w w' : World} {v : Value} {g o B : Nat} {l : List Int} (h : SV w v g o l) (hb : Below B w w') (hg : g < B) : SV w' v g o l := by
  obtain ⟨a, cap, h1, h2, h3, h4⟩ := h
  exact ⟨a, cap, h1, h2, h3, fun j hj => (hb.cell (p := ⟨g, o + j, none⟩) hg).trans (h4 j hj)⟩
theorem SV.drewN {w : World} {v : Value} {g o : Nat} {l : List Int} (h : SV w v g o l) (n : Nat) : SV (w.drewN n) v g o l := h

def EqR (n : Nat) (w : World) (i : Value) (wr : World) : Prop := ∃ m q : Nat, m ≤ n ∧ i = .int .i64 m ∧ wr = w.drewN q

theorem drew0 (w : World) : w = w.drewN 0 := rfl

/-- block g begins with the numbers l, and may be written -/
def IB (w : World) (g : Nat) (l : List Int) : Prop := ∃ cur, w.heap[g]? = some (.cells cur 3 (0, 0)) ∧ ∀ j (h : j < l.length), cur[j]? = some (.int .i64 l[j])
theorem IB.cell {w : World} {g : Nat} {l : List Int} (h : IB w g l) (j : Nat) (hj : j < l.length) : w.cell? ⟨g, j, none⟩ = some (.int .i64 l[j]) := by
  obtain ⟨cur, h1, h2⟩ := h
  rw [cell_of_row w g j cur 3 (0, 0) h1]
  exact h2 j hj
theorem IB.frozen {w : World} {g : Nat} {l : List Int} (h : IB w g l) (j : Nat) : w.frozen? ⟨g, j, none⟩ = false := by
  obtain ⟨cur, h1, h2⟩ := h
  simp [World.frozen?, h1]
theorem IB.lt {w : World} {g : Nat} {l : List Int} (h : IB w g l) : g < w.heap.size := by
  obtain ⟨cur, h1, h2⟩ := h
  exact (Array.getElem?_eq_some_iff.1 h1).1
theorem IB.set {w : World} {g : Nat} {l : List Int} (h : IB w g l) (i : Nat) (hi : i < l.length) (x : Int) : IB (w.setCell ⟨g, i, none⟩ (.int .i64 x)) g (l.set i x) := by
  obtain ⟨cur, h1, h2⟩ := h
  have hc := h2 i hi
  have his : i < cur.size := (Array.getElem?_eq_some_iff.1 hc).1
  refine ⟨_, heap_setCell_same w g i cur 3 _ h1, fun j hj => ?_⟩
  have hj' : j < l.length := by simpa using hj
  rw [Array.getElem?_setIfInBounds]
  by_cases he : i = j
  · subst he
    simp [his]
  · rw [if_neg he, h2 j hj']
    simp [List.getElem_set_ne he]
theorem IB.below {w w' : World} {g B : Nat} {l : List Int} (h : IB w g l) (hb : Below B w w') (hg : g < B) : IB w' g l := by
  obtain ⟨cur, h1, h2⟩ := h
  exact ⟨cur, by rw [hb.block g hg]; exact h1, h2⟩
theorem IB.sv {w : World} {g : Nat} {l : List Int} (h : IB w g l) (cap n : Nat) (hn : l.length = n) (hl : n ≤ 1100000) : SV w (.slice (some ⟨g, 0, none⟩) n cap) g 0 l := by
  subst hn
  exact ⟨_, cap, rfl, hl, fun _ => rfl, fun j hj => by rw [Nat.zero_add]; exact h.cell j hj⟩

/-- the marks from 1 on -/
def marks (n : Nat) : List Int := (List.range n).map (fun j : Nat => (j : Int) + 1)
theorem marks_len (n : Nat) : (marks n).length = n := by simp [marks]
theorem marks_at (n j : Nat) (h : j < (marks n).length) : (marks n)[j] = (j : Int) + 1 := by simp [marks]
def mrow (l : List Int) (m : Nat) : List Int := marks m ++ l.drop m
theorem mrow_len (l : List Int) (m : Nat) (h : m ≤ l.length) : (mrow l m).length = l.length := by
  unfold mrow
  rw [List.length_append, marks_len, List.length_drop]
  omega
theorem mrow_step (l : List Int) (m : Nat) (h : m < l.length) : (mrow l m).set m ((m : Int) + 1) = mrow l (m + 1) := by
  unfold mrow
  have e : marks (m + 1) = marks m ++ [(m : Int) + 1] := by simp [marks, List.range_succ]
  rw [e, List.set_append_right _ _ (by rw [marks_len]; exact Nat.le_refl _), marks_len, Nat.sub_self, List.drop_eq_getElem_cons h]
  rw [List.set_cons_zero, List.append_assoc]
  rfl
theorem mrow_all (l : List Int) : mrow l l.length = marks l.length := by simp [mrow]

def MkR (l : List Int) (w : World) (g B : Nat) (k i : Value) (wr : World) : Prop := ∃ m : Nat, m ≤ l.length ∧ i = .int .i64 m ∧ k = .int .i64 ((m : Int) + 1) ∧ IB wr g (mrow l m) ∧ Below B w wr

def HdR (n : Nat) (w : World) (k i : Value) (wr : World) : Prop := ∃ m : Nat, m ≤ n ∧ i = .int .i64 m ∧ k = .int .i64 ((m : Int) + 1) ∧ wr = w

end Go.Proofs.YtjfdgidhgijheaaDoor
