/-
  A leaf looked for, a leaf and a row of leaves copied: the program's and the specification's answers.
-/
import Derived.Test.YtfojmagcoipbnaaLo
namespace Go.Proofs.Ytfojmagcoipbnaa
open Go.RowKit Go.BigFrame Go.Sort
set_option linter.unusedVariables false
set_option linter.unusedSimpArgs false

namespace LV
/-- none of the first m has this name -/
def NotIn (L : List Le) (x : ByteArray) (m : Nat) : Prop := ∀ j (h : j < L.length), j < m → L[j].n ≠ x
theorem NotIn.zero (L : List Le) (x : ByteArray) : NotIn L x 0 := fun j _ h => by omega
theorem NotIn.step {L : List Le} {x : ByteArray} {m : Nat} (h : NotIn L x m) (hm : m < L.length) (hne : L[m].n ≠ x) : NotIn L x (m + 1) := by
  intro j hj hlt
  rcases Nat.lt_or_ge j m with h1 | h1
  · exact h j hj h1
  · have : j = m := by omega
    subst this
    exact hne
theorem NotIn.here {L : List Le} {x : ByteArray} {m : Nat} (h : NotIn L x m) (hm : m < L.length) (he : L[m].n = x) : find L x = some L[m] := by
  have h1 : L = L.take m ++ L[m] :: L.drop (m + 1) := by simp
  unfold find
  rw [List.find?_eq_some_iff_append]
  refine ⟨by simpa using he, L.take m, L.drop (m + 1), by simp, fun a ha => ?_⟩
  obtain ⟨j, hj, rfl⟩ := List.getElem_of_mem ha
  rw [List.length_take] at hj
  rw [List.getElem_take]
  simpa using h j (by omega) (by omega)
theorem NotIn.none {L : List Le} {x : ByteArray} (h : NotIn L x L.length) : find L x = none := by
  unfold find
  rw [List.find?_eq_none]
  intro a ha
  obtain ⟨j, hj, rfl⟩ := List.getElem_of_mem ha
  simpa using h j hj hj
theorem get_some {L : List Le} {x : ByteArray} {f : Le} (h : find L x = some f) : getV L x = f.v ∧ getB L x = true := by
  unfold getV getB
  rw [h]
  exact ⟨rfl, rfl⟩
theorem get_none {L : List Le} {x : ByteArray} (h : find L x = none) : getV L x = ⟨#[]⟩ ∧ getB L x = false := by
  unfold getV getB
  rw [h]
  exact ⟨rfl, rfl⟩
theorem bytes_ne {a b : ByteArray} (h : a ≠ b) : (a.toList == b.toList) = false := by
  rw [beq_eq_false_iff_ne]
  exact fun e => h (F.toList_inj e)
end LV

def LgR (L : List Le) (x : ByteArray) (w : World) (i : Value) (wr : World) : Prop := ∃ m : Nat, m ≤ L.length ∧ i = .int .i64 m ∧ Hid (LV.NotIn L x m) ∧ Below w.heap.size w wr

end Go.Proofs.Ytfojmagcoipbnaa
