/-
  A text is cloned.
-/
import Derived.Test.YteejjnpemaghcaaOwn
import Derived.Test.YteejjnpemaghcaaShelf
namespace Go.Proofs.Yteejjnpemaghcaa
open Go.RowKit
set_option linter.unusedVariables false

theorem Clone_any (s : ByteArray) (w : World) (h : s.size ≤ 1048576) : Calls Try.prog 27 #[.string s] w fun e w' => e = .returned (.string s) ∧ Below w.heap.size w w' := by
  go_enter Try.func27, Try.ntmps27
  go_wp2_with fail
  refine (Try.stringslite_Clone s _ (by omega)).mono ?_
  rintro e w' ⟨rfl, hb⟩
  go_wp2
  go_ret
  exact ⟨rfl, hb⟩

end Go.Proofs.Yteejjnpemaghcaa
