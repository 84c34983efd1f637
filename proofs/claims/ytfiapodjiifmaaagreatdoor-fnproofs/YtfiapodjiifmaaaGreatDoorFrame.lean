/-
  What the laws of this seat ask of the two listed tables: that the program's text lays them, and a world in which they lie so.
-/
import Derived.Test.YtfiapodjiifmaaaGreatDoorCards
import Derived.Test.YtfiapodjiifmaaaGreatDoorTie
import Derived.Test.YtfiapodjiifmaaaGreatDoorPkP12
import Derived.WalkKit
import Derived.ProofKit
import Derived.OpenShut
import Derived.OpenVars
import Derived.Below
import Derived.Deep.DeepHandedRow
import Derived.ShutString
import Derived.Lib.LaidTab
import Derived.Stop.LaidErr
namespace Go.Proofs.YtfiapodjiifmaaaGreatDoor
open Go.ChangeShapes Go.WideShapes Go.ChangeAt Go.RowKit
set_option linter.unusedVariables false

theorem own : ownKnob Tryz.prog.godebug = none := by kernel_rfl
theorem laidOut : laidOutB Tryz.prog = true := by kernel_rfl
theorem gFirst : Tryz.prog.globalNamed "loop.example/g00284/impl.shaFirst" = some 0 := by kernel_rfl
theorem gFirstType : (Tryz.prog.globals[0]?).map (·.type) = some 105 := by kernel_rfl
theorem gSteps : Tryz.prog.globalNamed "loop.example/g00284/impl.shaSteps" = some 1 := by kernel_rfl
theorem gStepsType : (Tryz.prog.globals[1]?).map (·.type) = some 139 := by kernel_rfl
theorem cellsF : Tryz.prog.cellsOf 105 = 8 := by kernel_rfl
theorem cellsK : Tryz.prog.cellsOf 139 = 64 := by kernel_rfl
theorem cellsE : Tryz.prog.cellsOf 104 = 1 := by kernel_rfl

def firstI : List Int := firstL.map (fun x => (x.toNat : Int))
def stepsI : List Int := keyL.map (fun x => (x.toNat : Int))
theorem laidF : (Rows.laid_loop_example_g00284_impl_shaFirst : DataW Unit) = Lib.tabData .u32 firstI := by kernel_rfl
theorem laidK : (Rows.laid_loop_example_g00284_impl_shaSteps : DataW Unit) = Lib.tabData .u32 stepsI := by kernel_rfl

theorem tabF {W : World} {rest : List (String × DataW Unit)} (h : laidMet Tryz.prog (("loop.example/g00284/impl.shaFirst", Rows.laid_loop_example_g00284_impl_shaFirst) :: rest) W) : TabF W := by
  rw [laidF] at h
  have h2 := Lib.tabIs_of_head gFirst gFirstType Tryz.underlying105 Tryz.underlying104 cellsE cellsF h
  intro i hi
  have h3 := h2.cell gFirst i (by simpa [firstI, firstL] using hi)
  rw [h3]
  simp [firstI, firstF, List.getD, List.getElem?_eq_getElem (show i < firstL.length by simpa [firstL] using hi)]
theorem tabK {W : World} {rest : List (String × DataW Unit)} (h : laidMet Tryz.prog (("loop.example/g00284/impl.shaSteps", Rows.laid_loop_example_g00284_impl_shaSteps) :: rest) W) : TabK W := by
  rw [laidK] at h
  have h2 := Lib.tabIs_of_head gSteps gStepsType Tryz.underlying139 Tryz.underlying104 cellsE cellsK h
  intro i hi
  have h3 := h2.cell gSteps i (by simpa [stepsI, keyL] using hi)
  rw [h3]
  simp [stepsI, keyF, List.getD, List.getElem?_eq_getElem (show i < keyL.length by simpa [keyL] using hi)]

def cellsOfTab : DataW Unit → Array Value
  | .agg l => (l.map fun | .lit (.int k n) => Value.int k n | _ => .int .u8 0).toArray
  | _ => #[]

/-- a world for the witness: the settled one, the tables holding what their text lays -/
def layTab (g : Nat) (cs : Array Value) (heap : Array Obj) : Array Obj := heap.modify g fun
  | .cells _ t frozen => .cells cs t frozen
  | o => o
def layWorld (w : World) : World := { w with heap := layTab 1 (cellsOfTab Rows.laid_loop_example_g00284_impl_shaSteps) (layTab 0 (cellsOfTab Rows.laid_loop_example_g00284_impl_shaFirst) w.heap) }

end Go.Proofs.YtfiapodjiifmaaaGreatDoor
