/-
  What the laws of this seat ask of the one listed table: that the program's text lays it, and a world in which it lies so.
-/
import Derived.Test.YtodibhiinfbhiaaDoorCards
import Derived.Test.YtodibhiinfbhiaaDoorTie
import Derived.Test.YtodibhiinfbhiaaDoorPkL14
import Derived.WalkKit
import Derived.ProofKit
import Derived.OpenShut
import Derived.OpenVars
import Derived.Below
import Derived.Deep.DeepHandedRow
import Derived.ShutString
import Derived.Lib.LaidTab
namespace Go.Proofs.YtodibhiinfbhiaaDoor
open Go.ChangeShapes Go.WideShapes Go.ChangeAt Go.RowKit
set_option linter.unusedVariables false

theorem own : ownKnob Tryd.prog.godebug = none := by kernel_rfl
theorem laidOut : laidOutB Tryd.prog = true := by kernel_rfl
theorem gTab : Tryd.prog.globalNamed "loop.example/g00284/impl.sumSteps" = some 0 := by kernel_rfl
theorem gTabType : (Tryd.prog.globals[0]?).map (·.type) = some 81 := by kernel_rfl
theorem cellsS : Tryd.prog.cellsOf 81 = 16 := by kernel_rfl
theorem cellsE : Tryd.prog.cellsOf 68 = 1 := by kernel_rfl

def words : List Int := S.tab.map Int.ofNat
theorem laidS : (Rows.laid_loop_example_g00284_impl_sumSteps : DataW Unit) = Lib.tabData .u32 words := by kernel_rfl
theorem tabS {W : World} {rest : List (String × DataW Unit)} (h : laidMet Tryd.prog (("loop.example/g00284/impl.sumSteps", Rows.laid_loop_example_g00284_impl_sumSteps) :: rest) W) : Tab W := by
  rw [laidS] at h
  have h2 := Lib.tabIs_of_head gTab gTabType Tryd.underlying81 Tryd.underlying68 cellsE cellsS h
  intro i hi
  have h3 := h2.cell gTab i (by simpa [words, S.tab] using hi)
  rw [h3]
  simp [words, S.tabAt, List.getD, List.getElem?_eq_getElem (show i < S.tab.length by simpa [S.tab] using hi)]

def cellsOfTab : DataW Unit → Array Value
  | .agg l => (l.map fun | .lit (.int k n) => Value.int k n | _ => .int .u8 0).toArray
  | _ => #[]

/-- a world for the witness: the settled one, the table holding what its text lays -/
def layTab (g : Nat) (cs : Array Value) (heap : Array Obj) : Array Obj := heap.modify g fun
  | .cells _ t frozen => .cells cs t frozen
  | o => o
def layWorld (w : World) : World := { w with heap := layTab 0 (cellsOfTab Rows.laid_loop_example_g00284_impl_sumSteps) w.heap }

end Go.Proofs.YtodibhiinfbhiaaDoor
