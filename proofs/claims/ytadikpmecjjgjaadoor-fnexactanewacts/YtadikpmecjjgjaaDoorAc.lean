/-
  An act that a law is handed: counted and copied.
-/
import Derived.Test.YtadikpmecjjgjaaDoorFw
namespace Go.Proofs.YtadikpmecjjgjaaDoor
open Go.RowKit
set_option linter.unusedVariables false
set_option linter.unusedSimpArgs false

theorem sizeAct : (Tryd.prog.info? 50).map (·.size) = some 4 := by kernel_rfl

end Go.Proofs.YtadikpmecjjgjaaDoor
