/-
  What every law of this seat asks of the four listed variables: that the program's text lays them, and a world in which they lie so.
-/
import Derived.Test.YthlgohplljcgfaaGreatDoorCards
import Derived.Test.YthlgohplljcgfaaGreatDoorTie
import Derived.Test.YthlgohplljcgfaaGreatDoorPkESN31
import Derived.Test.YthlgohplljcgfaaGreatDoorPkESN32
import Derived.Test.YthlgohplljcgfaaGreatDoorPkESN20
import Derived.Test.YthlgohplljcgfaaGreatDoorPkESN24
import Derived.WalkKit
import Derived.ProofKit
import Derived.OpenShut
import Derived.OpenVars
import Derived.Below
import Derived.Deep.DeepHandedRow
import Derived.ShutString
import Derived.Lib.LaidTab
import Derived.LaidHandle
import Derived.RowKitTokens
import Derived.Stop.LaidErr
namespace Go.Proofs.YthlgohplljcgfaaGreatDoor
open Go.ChangeShapes Go.WideShapes Go.ChangeAt Go.RowKit
set_option linter.unusedVariables false

theorem own : ownKnob Tryz.prog.godebug = none := by kernel_rfl
theorem laidOut : laidOutB Tryz.prog = true := by kernel_rfl
theorem gTab : Tryz.prog.globalNamed "loop.example/g00284/impl.sumSteps" = some 3 := by kernel_rfl
theorem gTabType : (Tryz.prog.globals[3]?).map (·.type) = some 241 := by kernel_rfl
theorem cellsT : Tryz.prog.cellsOf 241 = 16 := by kernel_rfl
theorem cellsE : Tryz.prog.cellsOf 215 = 1 := by kernel_rfl
theorem gFirst : Tryz.prog.globalNamed "loop.example/g00284/impl.shaFirst" = some 1 := by kernel_rfl
theorem gFirstType : (Tryz.prog.globals[1]?).map (·.type) = some 191 := by kernel_rfl
theorem gSteps : Tryz.prog.globalNamed "loop.example/g00284/impl.shaSteps" = some 2 := by kernel_rfl
theorem gStepsType : (Tryz.prog.globals[2]?).map (·.type) = some 193 := by kernel_rfl
theorem cellsFi : Tryz.prog.cellsOf 191 = 8 := by kernel_rfl
theorem cellsK : Tryz.prog.cellsOf 193 = 64 := by kernel_rfl
theorem cellsU : Tryz.prog.cellsOf 167 = 1 := by kernel_rfl
theorem rowed : varsRowed Tryz.prog ["loop.example/g00284/impl.shaFirst", "loop.example/g00284/impl.shaSteps", "loop.example/g00284/impl.sumSteps"] = true := by kernel_rfl
theorem gErr : Tryz.prog.globalNamed "errors.errorType" = some 0 := by kernel_rfl
theorem rtErr : (Tryz.prog.cutTypes.find? (·.1 == "internal/reflectlite.rtype")).map (·.2) = some 202 := by kernel_rfl
theorem oneErr : ((List.range 293).filter fun t => Tryz.prog.rowNamed t [101, 114, 114, 111, 114]) = [115] := by kernel_rfl
theorem sizeTypes : Tryz.prog.types.size = 293 := by kernel_rfl

def words : List Int := S.tab.map Int.ofNat
def firstI : List Int := firstL.map (fun x => (x.toNat : Int))
def stepsI : List Int := keyL.map (fun x => (x.toNat : Int))
theorem laidS : (Rows.laid_loop_example_g00284_impl_sumSteps : DataW Unit) = Lib.tabData .u32 words := by kernel_rfl
theorem laidF : (Rows.laid_loop_example_g00284_impl_shaFirst : DataW Unit) = Lib.tabData .u32 firstI := by kernel_rfl
theorem laidK : (Rows.laid_loop_example_g00284_impl_shaSteps : DataW Unit) = Lib.tabData .u32 stepsI := by kernel_rfl
abbrev laidThree : List (String × DataW Unit) := [("loop.example/g00284/impl.sumSteps", Rows.laid_loop_example_g00284_impl_sumSteps), ("loop.example/g00284/impl.shaFirst", Rows.laid_loop_example_g00284_impl_shaFirst), ("loop.example/g00284/impl.shaSteps", Rows.laid_loop_example_g00284_impl_shaSteps)]
abbrev laidList : List (String × DataW Unit) := ("errors.errorType", Rows.laid_errors_errorType) :: laidThree

theorem parts {W : World} (h : laidMetH Tryz.prog laidList W) : laidMet Tryz.prog laidThree W ∧ handlesMet Tryz.prog [("errors.errorType", Rows.laid_errors_errorType)] W := h
/-- what a row's list gives: the sum's table, the two of the digest -/
theorem table {W : World} (h : laidMetH Tryz.prog laidList W) : Tab W := by
  have h1 := (parts h).1
  unfold laidThree at h1
  rw [laidS] at h1
  have h2 := Lib.tabIs_of_head gTab gTabType Tryz.underlying241 Tryz.underlying215 cellsE cellsT h1
  intro i hi
  have h3 := h2.cell gTab i (by simpa [words, S.tab] using hi)
  rw [h3]
  simp [words, S.tabAt, List.getD, List.getElem?_eq_getElem (show i < S.tab.length by simpa [S.tab] using hi)]
theorem tabF {W : World} (h : laidMetH Tryz.prog laidList W) : TabF W := by
  have h1 := laidMet.tail (parts h).1
  rw [laidF] at h1
  have h2 := Lib.tabIs_of_head gFirst gFirstType Tryz.underlying191 Tryz.underlying167 cellsU cellsFi h1
  intro i hi
  have h3 := h2.cell gFirst i (by simpa [firstI, firstL] using hi)
  rw [h3]
  simp [firstI, firstF, List.getD, List.getElem?_eq_getElem (show i < firstL.length by simpa [firstL] using hi)]
theorem tabK {W : World} (h : laidMetH Tryz.prog laidList W) : TabK W := by
  have h1 := laidMet.tail (laidMet.tail (parts h).1)
  rw [laidK] at h1
  have h2 := Lib.tabIs_of_head gSteps gStepsType Tryz.underlying193 Tryz.underlying167 cellsU cellsK h1
  intro i hi
  have h3 := h2.cell gSteps i (by simpa [stepsI, keyL] using hi)
  rw [h3]
  simp [stepsI, keyF, List.getD, List.getElem?_eq_getElem (show i < keyL.length by simpa [keyL] using hi)]
theorem tabB {W : World} (h : laidMetH Tryz.prog laidList W) : Tb W := ⟨tabK h, tabF h⟩

/-- .. and the library's variable is the handle of the type error -/
theorem handle {W : World} (h : laidMetH Tryz.prog laidList W) : Eh W := by
  obtain ⟨name, u, ty, e1, e2, e3, e4, e5⟩ := (parts h).2 _ (List.mem_singleton.2 rfl)
  have en : name = [101, 114, 114, 111, 114] := (Option.some.inj e1).symm
  subst en
  obtain rfl := Option.some.inj (rtErr.symm.trans e2)
  have hm : ty ∈ (List.range 293).filter fun t => Tryz.prog.rowNamed t [101, 114, 114, 111, 114] := List.mem_filter.2 ⟨List.mem_range.2 (by rw [← sizeTypes]; exact e3), e4⟩
  rw [oneErr] at hm
  obtain rfl := List.mem_singleton.1 hm
  have hh : typeHandle Tryz.prog 115 = .pointer (some ⟨5, 115, none⟩) := by kernel_rfl
  rw [hh] at e5
  unfold Eh
  simpa using World.var?_cell gErr e5 0
theorem vars3 {H : Type} {enc : TypeId × Value → H} {P : Program} {w : World} {spare : Nat → Bool} {n0 n1 n2 : String} {gs : List (DataW H)} {ps : List MemPlace} (h : DataW.TrodVars enc P w spare [n0, n1, n2] gs ps) : ∃ d0 d1 d2, gs = [d0, d1, d2] := by
  cases gs with
  | nil => simp [DataW.TrodVars] at h
  | cons d ds =>
    obtain ⟨_, _, _, _, _, _, _, _, _, _, hs, _⟩ := h
    obtain ⟨_, _, _, _, d1, _, _, _, _, _, d2, _, rfl, _⟩ := trodVars_two hs
    exact ⟨d, d1, d2, rfl⟩

def cellsOfTab : DataW Unit → Array Value
  | .agg l => (l.map fun | .lit (.int k n) => Value.int k n | _ => .int .u8 0).toArray
  | _ => #[]

/-- a world for the witness: the settled one, the variables holding what their text lays -/
def layTab (g : Nat) (cs : Array Value) (heap : Array Obj) : Array Obj := heap.modify g fun
  | .cells _ t frozen => .cells cs t frozen
  | o => o
def layWorld (w : World) : World := { w with heap := layTab 2 (cellsOfTab Rows.laid_loop_example_g00284_impl_shaSteps) (layTab 1 (cellsOfTab Rows.laid_loop_example_g00284_impl_shaFirst) (layTab 3 (cellsOfTab Rows.laid_loop_example_g00284_impl_sumSteps) (layTab 0 #[.iface 202 (.agg #[.pointer (some ⟨5, 115, none⟩)])] w.heap))) }

end Go.Proofs.YthlgohplljcgfaaGreatDoor
