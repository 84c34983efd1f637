/-
  When a disk is right: the program's and the specification's answers.
-/
import Derived.Test.YtibkmlfigcfeoaaDoorFs
import Derived.Test.YtibkmlfigcfeoaaDoorVar
import Derived.Lib.QuietBelow
import Derived.BigQuiet
import Derived.Laws.Cover1
namespace Go.Proofs.YtibkmlfigcfeoaaDoor
open Go.RowKit Go.BigFrame Go.Sort
set_option linter.unusedVariables false
set_option linter.unusedSimpArgs false

def DkR (L : List Fl) (B : Nat) (w : World) (i : Value) (wr : World) : Prop := ∃ m : Nat, m ≤ L.length ∧ i = .int .i64 m ∧ Hid (F.Upto L m) ∧ Below B w wr

end Go.Proofs.YtibkmlfigcfeoaaDoor
