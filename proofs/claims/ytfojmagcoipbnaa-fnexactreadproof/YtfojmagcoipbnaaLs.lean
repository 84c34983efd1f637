/-
  Leaves read of a whole text: the program's and the specification's answers.
-/
import Derived.Test.YtfojmagcoipbnaaLr
import Derived.Test.YtfojmagcoipbnaaLt
import Derived.Test.YtfojmagcoipbnaaLk
import Derived.Deep.AppendLies
namespace Go.Proofs.Ytfojmagcoipbnaa
open Go.RowKit Go.BigFrame Go.Sort
set_option linter.unusedVariables false
set_option linter.unusedSimpArgs false

/-- what ReadLeaves answers -/
def RxP (s : ByteArray) (w : World) (e : Ending) (w' : World) : Prop := ∃ a c g, e = .returned (.tuple #[.slice a (LV.rdL s).length c, .bool (LV.rdB s)]) ∧ RW 2 lcs w' (.slice a (LV.rdL s).length c) g (LV.rdL s) ∧ w.heap.size ≤ g ∧ Below w.heap.size w w'
theorem RW.empty (W : World) (g c : Nat) (a : Option Addr) : RW 2 lcs W (.slice a 0 c) g [] := ⟨⟨a, c, rfl, by simp, fun h => absurd h (by simp), fun j h => absurd h (by simp)⟩, fun j h => absurd h (by simp)⟩
theorem RxP.no {s : ByteArray} {w w' : World} (hB : LV.rdB s = false) (hL : LV.rdL s = []) (c : Nat) (a : Option Addr) (hb : Below w.heap.size w w') : RxP s w (.returned (.tuple #[.slice a 0 c, .bool false])) w' := by
  unfold RxP
  rw [hB, hL]
  exact ⟨a, c, w.heap.size, rfl, RW.empty _ _ _ _, Nat.le_refl _, hb⟩

theorem rd_none {s : ByteArray} (h : LV.rawL s 0 = none) : LV.rdB s = false ∧ LV.rdL s = [] := by
  unfold LV.rdB LV.rdL
  rw [h]
  exact ⟨rfl, rfl⟩
theorem rd_some {s : ByteArray} {l : List Le} {q : Nat} (h : LV.rawL s 0 = some (l, q)) : LV.rdB s = (decide (q = s.size) && LV.leavesB l) ∧ LV.rdL s = if decide (q = s.size) && LV.leavesB l then l else [] := by
  unfold LV.rdB LV.rdL
  rw [h]
  exact ⟨rfl, rfl⟩

end Go.Proofs.Ytfojmagcoipbnaa
