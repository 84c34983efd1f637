/-
  What putting and dropping a leaf answers: the list that is left, and whether it was done.
-/
import Derived.Test.YtmcejkfknbjjkaaNa
namespace Go.Proofs.Ytmcejkfknbjjkaa
open Go.RowKit Go.BigFrame Go.Sort
set_option linter.unusedVariables false

/-- a list answered, and whether -/
def LqP (M : List Le) (R : Bool) (w : World) (e : Ending) (w' : World) : Prop := ∃ a cap g, e = .returned (.tuple #[.slice a M.length cap, .bool R]) ∧ RW 2 lcs w' (.slice a M.length cap) g M ∧ w.heap.size ≤ g ∧ Below w.heap.size w w'
theorem putR_no {L : List Le} {f : Le} (h : LV.putB L f = false) : LV.putR L f = L := by unfold LV.putR; rw [h]; rfl
theorem putR_yes {L : List Le} {f : Le} (h : LV.putB L f = true) : LV.putR L f = LV.put L f := by unfold LV.putR; rw [h]; rfl
theorem dropR_no {L : List Le} {x : ByteArray} (h : LV.dropB L x = false) : LV.dropR L x = L := by unfold LV.dropR; rw [h]; rfl
theorem dropR_yes {L : List Le} {x : ByteArray} (h : LV.dropB L x = true) : LV.dropR L x = LV.wout L x := by unfold LV.dropR; rw [h]; rfl

end Go.Proofs.Ytmcejkfknbjjkaa
