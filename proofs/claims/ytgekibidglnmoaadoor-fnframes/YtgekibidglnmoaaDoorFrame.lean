/-
  What every law of this seat asks of the one listed table: that the program's text lays it, and a world in which it lies so.
-/
import Derived.Test.YtgekibidglnmoaaDoorCards
import Derived.Test.YtgekibidglnmoaaDoorTie
import Derived.Test.YtgekibidglnmoaaDoorSums
import Derived.WalkKit
import Derived.ProofKit
import Derived.OpenShut
import Derived.OpenVars
import Derived.Below
import Derived.Deep.DeepHandedRow
import Derived.ShutString
import Derived.Lib.LaidTab
namespace Go.Proofs.YtgekibidglnmoaaDoor
open Go.ChangeShapes Go.WideShapes Go.ChangeAt Go.RowKit
set_option linter.unusedVariables false

theorem own : ownKnob Tryd.prog.godebug = none := by kernel_rfl
theorem laidOut : laidOutB Tryd.prog = true := by kernel_rfl
theorem gTab : Tryd.prog.globalNamed "loop.example/g00284/impl.sumSteps" = some 0 := by kernel_rfl
theorem gTabType : (Tryd.prog.globals[0]?).map (·.type) = some 65 := by kernel_rfl
theorem cells65 : Tryd.prog.cellsOf 65 = 16 := by kernel_rfl
theorem cells45 : Tryd.prog.cellsOf 45 = 1 := by kernel_rfl
theorem rowed : varsRowed Tryd.prog ["loop.example/g00284/impl.sumSteps"] = true := by kernel_rfl

def words : List Int := S.tab.map Int.ofNat

/-- what a row's list gives: the table's cells hold the sixteen words -/
theorem table {W : World} (h : laidMetH Tryd.prog [("loop.example/g00284/impl.sumSteps", Rows.laid_loop_example_g00284_impl_sumSteps)] W) : Tab W := by
  have h1 : laidMet Tryd.prog [("loop.example/g00284/impl.sumSteps", Rows.laid_loop_example_g00284_impl_sumSteps)] W := h
  have e : ([("loop.example/g00284/impl.sumSteps", Rows.laid_loop_example_g00284_impl_sumSteps)] : List (String × DataW Unit)) = [("loop.example/g00284/impl.sumSteps", Lib.tabData .u32 words)] := by kernel_rfl
  rw [e] at h1
  have h2 := Lib.tabIs_of_head (rest := []) gTab gTabType Tryd.underlying65 Tryd.underlying45 cells45 cells65 h1
  intro i hi
  have h3 := h2.cell gTab i (by simpa [words, S.tab] using hi)
  rw [h3]
  simp [words, S.tabAt, List.getD, List.getElem?_eq_getElem (show i < S.tab.length by simpa [S.tab] using hi)]

def cellsOfTab : DataW Unit → Array Value
  | .agg l => (l.map fun | .lit (.int k n) => Value.int k n | _ => .int .u8 0).toArray
  | _ => #[]

/-- a world for the witness: the settled one, the table holding what its text lays -/
def layTab (g : Nat) (cs : Array Value) (heap : Array Obj) : Array Obj := heap.modify g fun
  | .cells _ t frozen => .cells cs t frozen
  | o => o
def layWorld (w : World) : World := { w with heap := layTab 0 (cellsOfTab Rows.laid_loop_example_g00284_impl_sumSteps) w.heap }

end Go.Proofs.YtgekibidglnmoaaDoor
