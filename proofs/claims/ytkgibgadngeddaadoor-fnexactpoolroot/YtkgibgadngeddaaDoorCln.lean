/-
  A text is cloned.
-/
import Derived.Test.YtkgibgadngeddaaDoorOwn
import Derived.Test.YtkgibgadngeddaaDoorShelf
namespace Go.Proofs.YtkgibgadngeddaaDoor
open Go.RowKit
set_option linter.unusedVariables false

theorem Clone_any (s : ByteArray) (w : World) (h : s.size ≤ 1048576) : Calls Tryd.prog 39 #[.string s] w fun e w' => e = .returned (.string s) ∧ Below w.heap.size w w' := by
  go_enter Tryd.func39, Tryd.ntmps39
  go_wp2_with fail
  refine (Tryd.stringslite_Clone s _ (by omega)).mono ?_
  rintro e w' ⟨rfl, hb⟩
  go_wp2
  go_ret
  exact ⟨rfl, hb⟩

end Go.Proofs.YtkgibgadngeddaaDoor
