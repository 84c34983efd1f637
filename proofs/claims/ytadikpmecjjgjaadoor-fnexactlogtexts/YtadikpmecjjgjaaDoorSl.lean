/-
  A disk that loses, as the specification reckons it.
-/
import Derived.Test.YtadikpmecjjgjaaDoorSp
namespace Go.Proofs.YtadikpmecjjgjaaDoor
open Go.RowKit Go.BigFrame Go.Sort
set_option linter.unusedVariables false
set_option linter.unusedSimpArgs false

def LoR (w : World) (r : Nat) (M : List Fl) (v : Value) (i : Value) (wr : World) : Prop := ∃ (m : Nat) (u : Value), m ≤ M.length ∧ i = .int .i64 m ∧ Hid (SpW w.heap.size w wr w.heap.size (w.heap.size + 1) r v u (M.take m))

end Go.Proofs.YtadikpmecjjgjaaDoor
