/-
  A text is cloned.
-/
import Derived.Test.YtfojmagcoipbnaaOwn
import Derived.Test.YtfojmagcoipbnaaShelf
namespace Go.Proofs.Ytfojmagcoipbnaa
open Go.RowKit
set_option linter.unusedVariables false

theorem Clone_any (s : ByteArray) (w : World) (h : s.size ≤ 1048576) : Calls Try.prog 126 #[.string s] w fun e w' => e = .returned (.string s) ∧ Below w.heap.size w w' := by
  go_enter Try.func126, Try.ntmps126
  go_wp2_with fail
  refine (Try.stringslite_Clone s _ (by omega)).mono ?_
  rintro e w' ⟨rfl, hb⟩
  go_wp2
  go_ret
  exact ⟨rfl, hb⟩

end Go.Proofs.Ytfojmagcoipbnaa
