/-
  What every law of this seat asks of the two listed variables: that the program's text lays them, and a world in which they lie so.
-/
import Derived.Test.YtadikpmecjjgjaaDoorCards
import Derived.Test.YtadikpmecjjgjaaDoorTie
import Derived.Test.YtadikpmecjjgjaaDoorSums
import Derived.Test.YtadikpmecjjgjaaDoorEb
import Derived.WalkKit
import Derived.ProofKit
import Derived.OpenShut
import Derived.OpenVars
import Derived.Below
import Derived.Deep.DeepHandedRow
import Derived.ShutString
import Derived.Lib.LaidTab
import Derived.LaidHandle
import Derived.RowKitTokens
namespace Go.Proofs.YtadikpmecjjgjaaDoor
open Go.ChangeShapes Go.WideShapes Go.ChangeAt Go.RowKit
set_option linter.unusedVariables false

theorem own : ownKnob Tryd.prog.godebug = none := by kernel_rfl
theorem laidOut : laidOutB Tryd.prog = true := by kernel_rfl
theorem gTab : Tryd.prog.globalNamed "loop.example/g00284/impl.sumSteps" = some 1 := by kernel_rfl
theorem gTabType : (Tryd.prog.globals[1]?).map (·.type) = some 140 := by kernel_rfl
theorem cellsT : Tryd.prog.cellsOf 140 = 16 := by kernel_rfl
theorem cellsE : Tryd.prog.cellsOf 136 = 1 := by kernel_rfl
theorem rowed : varsRowed Tryd.prog ["loop.example/g00284/impl.sumSteps"] = true := by kernel_rfl
theorem gErr : Tryd.prog.globalNamed "errors.errorType" = some 0 := by kernel_rfl
theorem rtErr : (Tryd.prog.cutTypes.find? (·.1 == "internal/reflectlite.rtype")).map (·.2) = some 122 := by kernel_rfl
theorem oneErr : ((List.range 168).filter fun t => Tryd.prog.rowNamed t [101, 114, 114, 111, 114]) = [52] := by kernel_rfl
theorem sizeTypes : Tryd.prog.types.size = 168 := by kernel_rfl

def words : List Int := S.tab.map Int.ofNat
abbrev laidList : List (String × DataW Unit) := [("errors.errorType", Rows.laid_errors_errorType), ("loop.example/g00284/impl.sumSteps", Rows.laid_loop_example_g00284_impl_sumSteps)]

/-- what a row's list gives: the table's cells hold the sixteen words -/
theorem table {W : World} (h : laidMetH Tryd.prog laidList W) : Tab W := by
  have h' : laidMet Tryd.prog [("loop.example/g00284/impl.sumSteps", Rows.laid_loop_example_g00284_impl_sumSteps)] W ∧ handlesMet Tryd.prog [("errors.errorType", Rows.laid_errors_errorType)] W := h
  have h1 := h'.1
  have e : ([("loop.example/g00284/impl.sumSteps", Rows.laid_loop_example_g00284_impl_sumSteps)] : List (String × DataW Unit)) = [("loop.example/g00284/impl.sumSteps", Lib.tabData .u32 words)] := by kernel_rfl
  rw [e] at h1
  have h2 := Lib.tabIs_of_head (rest := []) gTab gTabType Tryd.underlying140 Tryd.underlying136 cellsE cellsT h1
  intro i hi
  have h3 := h2.cell gTab i (by simpa [words, S.tab] using hi)
  rw [h3]
  simp [words, S.tabAt, List.getD, List.getElem?_eq_getElem (show i < S.tab.length by simpa [S.tab] using hi)]

/-- .. and the library's variable is the handle of the type error -/
theorem handle {W : World} (h : laidMetH Tryd.prog laidList W) : Eh W := by
  have h' : laidMet Tryd.prog [("loop.example/g00284/impl.sumSteps", Rows.laid_loop_example_g00284_impl_sumSteps)] W ∧ handlesMet Tryd.prog [("errors.errorType", Rows.laid_errors_errorType)] W := h
  obtain ⟨name, u, ty, e1, e2, e3, e4, e5⟩ := h'.2 _ (List.mem_singleton.2 rfl)
  have en : name = [101, 114, 114, 111, 114] := (Option.some.inj e1).symm
  subst en
  obtain rfl := Option.some.inj (rtErr.symm.trans e2)
  have hm : ty ∈ (List.range 168).filter fun t => Tryd.prog.rowNamed t [101, 114, 114, 111, 114] := List.mem_filter.2 ⟨List.mem_range.2 (by rw [← sizeTypes]; exact e3), e4⟩
  rw [oneErr] at hm
  obtain rfl := List.mem_singleton.1 hm
  have hh : typeHandle Tryd.prog 52 = .pointer (some ⟨2, 52, none⟩) := by kernel_rfl
  rw [hh] at e5
  unfold Eh
  simpa using World.var?_cell gErr e5 0

def cellsOfTab : DataW Unit → Array Value
  | .agg l => (l.map fun | .lit (.int k n) => Value.int k n | _ => .int .u8 0).toArray
  | _ => #[]

/-- a world for the witness: the settled one, the variables holding what their text lays -/
def layTab (g : Nat) (cs : Array Value) (heap : Array Obj) : Array Obj := heap.modify g fun
  | .cells _ t frozen => .cells cs t frozen
  | o => o
def layWorld (w : World) : World := { w with heap := layTab 1 (cellsOfTab Rows.laid_loop_example_g00284_impl_sumSteps) (layTab 0 #[.iface 122 (.agg #[.pointer (some ⟨2, 52, none⟩)])] w.heap) }

end Go.Proofs.YtadikpmecjjgjaaDoor
