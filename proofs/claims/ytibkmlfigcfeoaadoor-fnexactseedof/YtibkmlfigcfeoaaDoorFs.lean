/-
  Rows of records (files, acts) as they lie in memory: read, written record by record, grown; and what stays of them.
-/
import Derived.Test.YtibkmlfigcfeoaaDoorOwn
import Derived.Test.YtibkmlfigcfeoaaDoorDk
import Derived.Deep.MidRow
import Derived.Deep.QuietTactic
namespace Go.Proofs.YtibkmlfigcfeoaaDoor
open Go.RowKit
set_option linter.unusedVariables false

def fcs (f : Fl) : List Value := [.string f.n, .string f.t, .int .i64 f.k]
def acs (a : Ac) : List Value := [.int .i64 a.k, .string a.n, .string a.t, .string a.o]

theorem cell_kept {w w' : World} {b o : Nat} (h : w'.heap[b]? = w.heap[b]?) : w'.cell? ⟨b, o, none⟩ = w.cell? ⟨b, o, none⟩ := by simp only [World.cell?, h]
theorem frozen_kept {w w' : World} {b o : Nat} (h : w'.heap[b]? = w.heap[b]?) : w'.frozen? ⟨b, o, none⟩ = w.frozen? ⟨b, o, none⟩ := by simp only [World.frozen?, h]
theorem lt_of_cell {w : World} {b o : Nat} {u : Value} (h : w.cell? ⟨b, o, none⟩ = some u) : b < w.heap.size := by
  rcases Nat.lt_or_ge b w.heap.size with h1 | h1
  · exact h1
  · simp [World.cell?, Array.getElem?_eq_none h1] at h
theorem range_kept {w w' : World} {b o : Nat} {cs : List Value} (h : w.rangeAt b o cs) (he : w'.heap[b]? = w.heap[b]?) : w'.rangeAt b o cs := fun j v hv => (cell_kept he).trans (h j v hv)
theorem there_kept {w w' : World} {b o n : Nat} (h : w.there b o n) (he : w'.heap[b]? = w.heap[b]?) : w'.there b o n := fun j hj => by rw [cell_kept he, frozen_kept he]; exact h j hj

section
variable {α : Type} {k : Nat} {enc : α → List Value} {w w' : World} {v : Value} {g o : Nat} {l : List α}

/-- v is a row of the records l, each of k cells, from offset o of block g on -/
def RS (k : Nat) (enc : α → List Value) (w : World) (v : Value) (g o : Nat) (l : List α) : Prop :=
  ∃ a cap, v = .slice a l.length cap ∧ l.length ≤ 1100000 ∧ (0 < l.length → a = some ⟨g, o, none⟩ ∧ g < w.heap.size) ∧ ∀ j (h : j < l.length), w.rangeAt g (o + j * k) (enc l[j])
theorem RS.shape (h : RS k enc w v g o l) : ∃ a c, v = .slice a l.length c := by
  obtain ⟨a, c, hv, _⟩ := h
  exact ⟨a, c, hv⟩
theorem RS.len (h : RS k enc w v g o l) : l.length ≤ 1100000 := by
  obtain ⟨a, c, _, hl, _⟩ := h
  exact hl
theorem RS.later (h : RS k enc w v g o l) (hb : Below w.heap.size w w') : RS k enc w' v g o l := by
  obtain ⟨a, c, hv, hl, h0, hc⟩ := h
  exact ⟨a, c, hv, hl, fun hp => ⟨(h0 hp).1, Nat.lt_of_lt_of_le (h0 hp).2 hb.size⟩, fun j hj => range_kept (hc j hj) (hb.block g (h0 (by omega)).2)⟩
theorem RS.drewN (h : RS k enc w v g o l) (n : Nat) : RS k enc (w.drewN n) v g o l := h
theorem RS.alloc (h : RS k enc w v g o l) (x : Obj) : RS k enc (w.alloc x) v g o l := h.later ((Below.refl _ _).alloc (Nat.le_refl _) _)
theorem RS.grown {row : Option Nat} (h : RS k enc w v g o l) (hg : w.grownBy w' row) (hne : 0 < l.length → some g ≠ row) : RS k enc w' v g o l := by
  obtain ⟨a, c, hv, hl, h0, hc⟩ := h
  exact ⟨a, c, hv, hl, fun hp => ⟨(h0 hp).1, Nat.lt_of_lt_of_le (h0 hp).2 hg.size⟩, fun j hj => range_kept (hc j hj) (hg.block g (h0 (by omega)).2 (hne (by omega)))⟩

/-- .. and it may be written; it begins its block -/
def RW (k : Nat) (enc : α → List Value) (w : World) (v : Value) (g : Nat) (l : List α) : Prop :=
  RS k enc w v g 0 l ∧ ∀ j, j < l.length → w.there g (j * k) k
theorem RW.later (h : RW k enc w v g l) (hb : Below w.heap.size w w') : RW k enc w' v g l := by
  refine ⟨h.1.later hb, fun j hj => ?_⟩
  obtain ⟨⟨a, c, hv, hl, h0, hc⟩, ht⟩ := h
  exact there_kept (ht j hj) (hb.block g (h0 (by omega)).2)
theorem RW.alloc (h : RW k enc w v g l) (x : Obj) : RW k enc (w.alloc x) v g l := h.later ((Below.refl _ _).alloc (Nat.le_refl _) _)
theorem RW.drewN (h : RW k enc w v g l) (n : Nat) : RW k enc (w.drewN n) v g l := h
theorem RW.grown {row : Option Nat} (h : RW k enc w v g l) (hg : w.grownBy w' row) (hne : 0 < l.length → some g ≠ row) : RW k enc w' v g l := by
  refine ⟨h.1.grown hg hne, fun j hj => ?_⟩
  obtain ⟨⟨a, c, hv, hl, h0, hc⟩, ht⟩ := h
  exact there_kept (ht j hj) (hg.block g (h0 (by omega)).2 (hne (by omega)))
theorem RW.lt (h : RW k enc w v g l) : 0 < l.length → g < w.heap.size := by
  obtain ⟨⟨a, c, hv, hl, h0, hc⟩, ht⟩ := h
  exact fun hp => (h0 hp).2
theorem RS.nil (w : World) (g o : Nat) : RS k enc w (.slice none 0 0) g o [] := ⟨none, 0, rfl, by simp, fun h => absurd h (by simp), fun j h => absurd h (by simp)⟩
theorem RW.nil (w : World) (g : Nat) : RW k enc w (.slice none 0 0) g [] := ⟨RS.nil w g 0, fun j h => absurd h (by simp)⟩

theorem flat_len (hk : ∀ x, (enc x).length = k) (l : List α) : (l.flatMap enc).length = l.length * k := by
  induction l with
  | nil => simp
  | cons x r ih => rw [List.flatMap_cons, List.length_append, ih, hk, List.length_cons, Nat.succ_mul, Nat.add_comm]
theorem flat_at (hk : ∀ x, (enc x).length = k) : ∀ (l : List α) (j : Nat) (h : j < l.length) (i : Nat), i < k → (l.flatMap enc)[j * k + i]? = (enc l[j])[i]?
  | [], j, h, i, _ => by simp at h
  | x :: r, 0, _, i, hi => by
    rw [List.flatMap_cons, Nat.zero_mul, Nat.zero_add, List.getElem?_append_left (by rw [hk]; exact hi)]
    rfl
  | x :: r, j + 1, h, i, hi => by
    rw [List.flatMap_cons, List.getElem?_append_right (by rw [hk, Nat.succ_mul]; omega), hk]
    have e : (j + 1) * k + i - k = j * k + i := by rw [Nat.succ_mul]; omega
    rw [e, flat_at hk r j (by simpa using h) i hi]
    rfl

/-- v owns the records l, in blocks from B on; below B all is as it was in w0 -/
def OR (T k : Nat) (enc : α → List Value) (B : Nat) (w0 w : World) (v : Value) (l : List α) : Prop :=
  w.ownsRow B T k v l.length (l.flatMap enc) ∧ Below B w0 w ∧ B ≤ w.heap.size
variable {T B : Nat} {w0 w1 : World}
theorem OR.alloc (h : OR T k enc B w0 w v l) (o : Obj) : OR T k enc B w0 (w.alloc o) v l :=
  ⟨h.1.alloc o, h.2.1.alloc h.2.2 o, by have := h.2.2; simp; omega⟩
theorem OR.drew (h : OR T k enc B w0 w v l) : OR T k enc B w0 w.drew v l := ⟨h.1.drew, h.2.1.drew, h.2.2⟩
theorem OR.nil (w : World) : OR T k enc w.heap.size w w (.slice none 0 0) ([] : List α) := ⟨World.ownsRow_nil _ _ _ _, Below.refl _ _, Nat.le_refl _⟩
theorem OR.later (h : OR T k enc B w0 w v l) (hb : Below w.heap.size w w') : OR T k enc B w0 w' v l := by
  refine ⟨⟨h.1.1, ?_⟩, h.2.1.trans (hb.mono h.2.2), Nat.le_trans h.2.2 hb.size⟩
  rcases h.1.2 with hn | ⟨g, cap, cur, hv, hbg, hg, rest⟩
  · exact .inl hn
  · refine .inr ⟨g, cap, cur, hv, hbg, ?_, rest⟩
    rw [hb.block g (Array.getElem?_eq_some_iff.1 hg).1]
    exact hg
theorem OR.from (h : OR T k enc B w1 w v l) (hb : Below B w0 w1) : OR T k enc B w0 w v l := ⟨h.1, hb.trans h.2.1, h.2.2⟩
theorem OR.grown {row : Option Nat} (h : OR T k enc B w0 w v l) (hg : w.grownBy w' row) (hne : ∀ q, row = some q → B ≤ q ∧ v.ownBlock ≠ some q) : OR T k enc B w0 w' v l := by
  refine ⟨⟨h.1.1, ?_⟩, h.2.1.grown hg h.2.2 (fun q hq => (hne q hq).1), Nat.le_trans h.2.2 hg.size⟩
  rcases h.1.2 with hn | ⟨g, cap, cur, hv, hbg, hgg, rest⟩
  · exact .inl hn
  · refine .inr ⟨g, cap, cur, hv, hbg, ?_, rest⟩
    rw [hg.block g (Array.getElem?_eq_some_iff.1 hgg).1 (fun e => (hne g e.symm).2 (by rw [hv]; rfl))]
    exact hgg
/-- what is owned, as a row that may be written -/
theorem OR.rw (hk : ∀ x, (enc x).length = k) (hk0 : 0 < k) (h : OR T k enc B w0 w v l) (hl : l.length ≤ 1100000) : ∃ g, RW k enc w v g l ∧ B ≤ g ∧ (∀ q, v.ownBlock = some q → q = g) := by
  rcases h.1.2 with ⟨hv, hn⟩ | ⟨g, cap, cur, hv, hbg, hg, hnc, hcm, hsz, htk⟩
  · have : l = [] := List.length_eq_zero_iff.1 hn
    subst this
    subst hv
    exact ⟨B, RW.nil w B, Nat.le_refl _, fun q hq => by cases hq⟩
  · have hlt := (Array.getElem?_eq_some_iff.1 hg).1
    have hc : ∀ q, q < l.length * k → w.cell? ⟨g, q, none⟩ = (l.flatMap enc)[q]? := by
      intro q hq
      rw [cell_of_row w g q cur T (0, 0) hg, ← htk, List.getElem?_take_of_lt hq, Array.getElem?_toList]
    refine ⟨g, ⟨⟨some ⟨g, 0, none⟩, cap, hv, hl, fun _ => ⟨rfl, hlt⟩, fun j hj i u hu => ?_⟩, fun j hj i hi => ⟨?_, ?_⟩⟩, hbg, fun q hq => ?_⟩
    · have hi : i < k := by rw [← hk l[j]]; exact (List.getElem?_eq_some_iff.1 hu).1
      have hb : j * k + i < l.length * k := by
        have := Nat.mul_le_mul_right k (show j + 1 ≤ l.length by omega)
        rw [Nat.succ_mul] at this
        omega
      rw [Nat.zero_add, hc _ hb, flat_at hk l j hj i hi]
      exact hu
    · have hb : j * k + i < l.length * k := by
        have := Nat.mul_le_mul_right k (show j + 1 ≤ l.length by omega)
        rw [Nat.succ_mul] at this
        omega
      rw [hc _ hb, flat_at hk l j hj i hi, List.getElem?_eq_getElem (by rw [hk]; exact hi)]
      rfl
    · simp [World.frozen?, hg]
    · rw [hv] at hq
      simpa [Value.ownBlock] using hq.symm
end

theorem fcs_len (f : Fl) : (fcs f).length = 3 := rfl
theorem acs_len (a : Ac) : (acs a).length = 4 := rfl

theorem RS.file {w : World} {v : Value} {g o : Nat} {l : List Fl} (h : RS 3 fcs w v g o l) (j : Nat) (hj : j < l.length) :
    w.cell? ⟨g, o + j * 3, none⟩ = some (.string l[j].n) ∧ w.cell? ⟨g, o + j * 3 + 1, none⟩ = some (.string l[j].t) ∧ w.cell? ⟨g, o + j * 3 + 2, none⟩ = some (.int .i64 l[j].k) := by
  obtain ⟨a, c, _, _, _, hc⟩ := h
  exact ⟨hc j hj 0 _ rfl, hc j hj 1 _ rfl, hc j hj 2 _ rfl⟩
theorem RS.act {w : World} {v : Value} {g o : Nat} {l : List Ac} (h : RS 4 acs w v g o l) (j : Nat) (hj : j < l.length) :
    w.cell? ⟨g, o + j * 4, none⟩ = some (.int .i64 l[j].k) ∧ w.cell? ⟨g, o + j * 4 + 1, none⟩ = some (.string l[j].n) ∧ w.cell? ⟨g, o + j * 4 + 2, none⟩ = some (.string l[j].t) ∧ w.cell? ⟨g, o + j * 4 + 3, none⟩ = some (.string l[j].o) := by
  obtain ⟨a, c, _, _, _, hc⟩ := h
  exact ⟨hc j hj 0 _ rfl, hc j hj 1 _ rfl, hc j hj 2 _ rfl, hc j hj 3 _ rfl⟩

end Go.Proofs.YtibkmlfigcfeoaaDoor
