/-
  The walk of the law FnExactEmptyHash: it answers true at every level and width.
-/
import Derived.Test.YtmhoilliaeefcaaDoorEh
namespace Go.Proofs.YtmhoilliaeefcaaDoor
open Go.RowKit Go.BigFrame
set_option linter.unusedVariables false
set_option linter.unusedSimpArgs false

set_option maxRecDepth 100000 in
theorem exactEmptyHash_any (l x : Int) (w : World) (hT : Tb w) :
    Calls Tryd.prog 6 #[.int .i64 l, .int .i64 x] w fun e w' => e = .returned (.bool true) ∧ Below w.heap.size w w' := by
  have hs := sEmptyHash_any l x w
  have HI : Hid (∀ W, Below w.heap.size w W → Calls Tryd.prog 26 #[.int .i64 l, .int .i64 x] W fun e w' => e = .returned (.string (ehB l x)) ∧ Below w.heap.size w w') := fun W hW => (EmptyHash_any l x W (hT.later hW)).mono fun e w' ⟨h1, h2⟩ => ⟨h1, hW.trans (h2.mono hW.size)⟩
  generalize ehB l x = T at *
  clear hT
  go_enter Tryd.func6, Tryd.ntmps6
  go_wp2_with fail
  refine hs.mono ?_
  rintro e w1 ⟨rfl, hb1⟩
  clear hs
  go_wp2_with fail
  refine (HI.out _ hb1).mono ?_
  rintro e w2 ⟨rfl, hb2⟩
  clear HI
  go_wp2
  go_ret
  exact ⟨rfl, hb2⟩

end Go.Proofs.YtmhoilliaeefcaaDoor
