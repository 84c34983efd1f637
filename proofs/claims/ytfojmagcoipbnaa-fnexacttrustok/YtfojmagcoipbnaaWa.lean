/-
  Boxes of any size; stamps and rows of them; trusts and whole proofs as they lie in memory.
-/
import Derived.Test.YtfojmagcoipbnaaMk
import Derived.Test.YtfojmagcoipbnaaFs
import Derived.Test.YtfojmagcoipbnaaHa
import Derived.Test.YtfojmagcoipbnaaLw
namespace Go.Proofs.Ytfojmagcoipbnaa
open Go.RowKit Go.BigFrame Go.Sort
set_option linter.unusedVariables false
set_option linter.unusedSimpArgs false

/-- a box that holds these cells -/
def Box (T : Nat) (W : World) (g : Nat) (cs : List Value) : Prop := W.heap[g]? = some (.cells cs.toArray T (0, 0))
section
variable {T : Nat} {W W' : World} {g : Nat} {cs : List Value}
theorem Box.new (T : Nat) (w : World) (cs : List Value) : Box T (w.alloc (.cells cs.toArray T)) w.heap.size cs := Go.heap_alloc_new w _
theorem Box.lt (h : Box T W g cs) : g < W.heap.size := (Array.getElem?_eq_some_iff.1 h).1
theorem Box.keep (h : Box T W g cs) (he : W'.heap[g]? = W.heap[g]?) : Box T W' g cs := by
  unfold Box at *
  rw [he, h]
theorem Box.later (h : Box T W g cs) (hb : Below W.heap.size W W') : Box T W' g cs := h.keep (hb.block g h.lt)
theorem Box.grown {row : Option Nat} (h : Box T W g cs) (hg : W.grownBy W' row) (hne : some g ≠ row) : Box T W' g cs := h.keep (hg.block g h.lt hne)
theorem Box.range (h : Box T W g cs) : W.rangeAt g 0 cs := fun j v hv => by
  rw [cell_of_row W g (0 + j) _ _ _ h, Nat.zero_add]
  simpa using hv
theorem Box.at (h : Box T W g cs) (j : Nat) (v : Value) (hv : cs[j]? = some v) : W.cell? ⟨g, j, none⟩ = some v := by
  rw [cell_of_row W g j _ _ _ h]
  simpa using hv
theorem Box.fz (h : Box T W g cs) (j : Nat) : W.frozen? ⟨g, j, none⟩ = false := by simp [World.frozen?, show W.heap[g]? = _ from h]
theorem Box.set (h : Box T W g cs) (j : Nat) (v : Value) : Box T (W.setCell ⟨g, j, none⟩ v) g (cs.set j v) := by
  unfold Box at *
  rw [heap_setCell_same W g j _ _ _ h]
  simp
end
theorem below_alloc (w : World) (o : Obj) : Below w.heap.size w (w.alloc o) := (Below.refl _ _).alloc (Nat.le_refl _) _

/-- a stamp: who, where in the pool, what is opened, what is shut, the sides -/
structure Stm where
  b : Int
  a : Int
  o : List ByteArray
  s : List ByteArray
  d : List ByteArray
/-- a stamp as it lies in memory -/
structure StV where
  b : Int
  a : Int
  v1 : Value
  v2 : Value
  v3 : Value
def stcs (x : StV) : List Value := [.int .i64 x.b, .int .i64 x.a, x.v1, x.v2, x.v3]
theorem stcs_len (x : StV) : (stcs x).length = 5 := rfl
theorem RS.stamp {w : World} {v : Value} {g o : Nat} {l : List StV} (h : RS 5 stcs w v g o l) (j : Nat) (hj : j < l.length) :
    w.cell? ⟨g, o + j * 5, none⟩ = some (.int .i64 l[j].b) ∧ w.cell? ⟨g, o + j * 5 + 1, none⟩ = some (.int .i64 l[j].a) ∧ w.cell? ⟨g, o + j * 5 + 2, none⟩ = some l[j].v1 ∧ w.cell? ⟨g, o + j * 5 + 3, none⟩ = some l[j].v2 ∧ w.cell? ⟨g, o + j * 5 + 4, none⟩ = some l[j].v3 := by
  obtain ⟨a, c, _, _, _, hc⟩ := h
  exact ⟨hc j hj 0 _ rfl, hc j hj 1 _ rfl, hc j hj 2 _ rfl, hc j hj 3 _ rfl, hc j hj 4 _ rfl⟩
/-- v reads as these texts, somewhere -/
def SX (W : World) (v : Value) (l : List ByteArray) : Prop := ∃ g o, SS W v g o l
theorem SX.later {W W' : World} {v : Value} {l : List ByteArray} (h : SX W v l) (hb : Below W.heap.size W W') : SX W' v l := by
  obtain ⟨g, o, h⟩ := h
  exact ⟨g, o, h.below hb h.lt⟩
theorem SX.shape {W : World} {v : Value} {l : List ByteArray} (h : SX W v l) : ∃ a c, v = .slice a l.length c := by
  obtain ⟨g, o, a, c, hv, _⟩ := h
  exact ⟨a, c, hv⟩
theorem SX.len {W : World} {v : Value} {l : List ByteArray} (h : SX W v l) : l.length ≤ 1100000 := by
  obtain ⟨g, o, a, c, hv, hl, _⟩ := h
  exact hl
/-- a stamp in memory is this one -/
def SgV (W : World) (x : StV) (y : Stm) : Prop := x.b = y.b ∧ x.a = y.a ∧ SX W x.v1 y.o ∧ SX W x.v2 y.s ∧ SX W x.v3 y.d
theorem SgV.later {W W' : World} {x : StV} {y : Stm} (h : SgV W x y) (hb : Below W.heap.size W W') : SgV W' x y := ⟨h.1, h.2.1, h.2.2.1.later hb, h.2.2.2.1.later hb, h.2.2.2.2.later hb⟩
/-- v reads as these stamps -/
def StS (W : World) (v : Value) (g o : Nat) (L : List Stm) : Prop := ∃ V : List StV, V.length = L.length ∧ RS 5 stcs W v g o V ∧ ∀ j (h : j < L.length) (h' : j < V.length), SgV W V[j] L[j]
theorem StS.later {W W' : World} {v : Value} {g o : Nat} {L : List Stm} (h : StS W v g o L) (hb : Below W.heap.size W W') : StS W' v g o L := by
  obtain ⟨V, h1, h2, h3⟩ := h
  exact ⟨V, h1, h2.later hb, fun j h h' => (h3 j h h').later hb⟩
theorem StS.shape {W : World} {v : Value} {g o : Nat} {L : List Stm} (h : StS W v g o L) : ∃ a c, v = .slice a L.length c ∧ L.length ≤ 1100000 ∧ (0 < L.length → a = some ⟨g, o, none⟩) := by
  obtain ⟨V, h1, ⟨a, c, hv, hl, h0, _⟩, _⟩ := h
  rw [h1] at hv hl h0
  exact ⟨a, c, hv, hl, fun h => (h0 h).1⟩
/-- one stamp of a row: its cells, and what they are -/
theorem StS.at {W : World} {v : Value} {g o : Nat} {L : List Stm} (h : StS W v g o L) (j : Nat) (hj : j < L.length) :
    ∃ v1 v2 v3, (W.cell? ⟨g, o + j * 5, none⟩ = some (.int .i64 L[j].b) ∧ W.cell? ⟨g, o + j * 5 + 1, none⟩ = some (.int .i64 L[j].a) ∧ W.cell? ⟨g, o + j * 5 + 2, none⟩ = some v1 ∧ W.cell? ⟨g, o + j * 5 + 3, none⟩ = some v2 ∧ W.cell? ⟨g, o + j * 5 + 4, none⟩ = some v3) ∧ SX W v1 L[j].o ∧ SX W v2 L[j].s ∧ SX W v3 L[j].d := by
  obtain ⟨V, h1, h2, h3⟩ := h
  have hj' : j < V.length := by omega
  obtain ⟨e1, e2, x1, x2, x3⟩ := h3 j hj hj'
  have hc := h2.stamp j hj'
  rw [e1, e2] at hc
  exact ⟨_, _, _, hc, x1, x2, x3⟩

/-- do they ascend? -/
def AscS (G : List Stm) : Prop := ∀ i (h : i + 1 < G.length), (G[i]'(by omega)).b < G[i + 1].b
noncomputable def ascS (G : List Stm) : Bool := @decide (AscS G) (Classical.propDecidable _)
theorem ascS_yes {G : List Stm} (h : AscS G) : ascS G = true := by unfold ascS; exact @decide_eq_true _ (Classical.propDecidable _) h
theorem ascS_no {G : List Stm} (h : ¬ AscS G) : ascS G = false := by unfold ascS; exact @decide_eq_false _ (Classical.propDecidable _) h

/-- is it a right trust? -/
def tkB (R : List ByteArray) (K N : Int) : Bool := decide (1 ≤ (R.length : Int) ∧ (R.length : Int) ≤ 3) && (R.all (fun s => decide ((s.size : Int) = 16)) && (decide (0 ≤ K ∧ K ≤ 2) && decide (0 ≤ N ∧ N ≤ 2)))

end Go.Proofs.Ytfojmagcoipbnaa
