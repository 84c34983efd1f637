/-
  Texts laid together: Wh.
-/
import Derived.Test.YtgkfelhjbeegaaaGreatDoorV40
import Derived.Test.YtgkfelhjbeegaaaGreatDoorV41
import Derived.Test.YtgkfelhjbeegaaaGreatDoorV42
import Derived.Deep.RegionHeld3
import Derived.Lib.QuietBelow
/-
  Verify: the specification's answer.
-/
namespace Go.Proofs.YtgkfelhjbeegaaaGreatDoor
open Go.RowKit Go.BigFrame Go.Sort
set_option linter.unusedVariables false
set_option linter.unusedSimpArgs false

/-- the first m stamps are looked at -/
def WhR (w6 : World) (R : List ByteArray) (hs : Int) (x : Hd) (G : List Stm) (r i : Value) (wr : World) : Prop := ∃ m : Nat, m ≤ G.length ∧ i = .int .i64 m ∧ r = .int .i64 (cnN R hs x (G.take m) : Nat) ∧ Hid (Below w6.heap.size w6 wr)

end Go.Proofs.YtgkfelhjbeegaaaGreatDoor
