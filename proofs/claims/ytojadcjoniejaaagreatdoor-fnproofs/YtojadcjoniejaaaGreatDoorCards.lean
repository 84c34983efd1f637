/-
  DERIVED. GIVEN WITH THE SEED: THE CARDS: each row of YtojadcjoniejaaaGreatDoorRows.lean that lists a variable, with what it lists TIED to the program's text (the seventh form; the later family's looks); each row that meets fmt, with fmt's text TOLD by the authors' own Lean function (tested against real Go, not proved from fmt's source: count such statements apart). THE CARD IS WHAT COUNTS. Prove the row's statement (the work); the ties are given (YtojadcjoniejaaaGreatDoorTie.lean); close each card by the builder's one call (the guide's Derived/Test/ToyasCard.lean, 'card_holds'). Laid BY PROGRAM, IN A SANDBOX (cutbox-door.mjs). By AI agents, Wed Nov 11 2026. No macro, syntax, notation, axiom, sorry.
-/
import Derived.Test.YtojadcjoniejaaaGreatDoorRows
import GoSem.ClaimSeven
namespace Go.Proofs.YtojadcjoniejaaaGreatDoor
namespace Rows

/-- THE TIED CARD OF 'laws.FnProofs'. -/
def fnProofsCard : Claim7 := { stood := { row := fnProofsRow, standIns := [], harness := (true, "386626b374f04c1cc2c46b31dbdb8faeed6cf454e8502c34e1cddd228fb3aada"), looks := true }, kinds := [], alts := [], laidByText := true, laidKinds := [.data, .data], laidTests := true, laidLooks := .later }
def FnProofsCardSaid : Prop := Claim7.holds Tryz.pinned (.plain (OpenSpec.ofChange fnProofsSpec)) fnProofsCard

/-- THE TIED CARD OF 'laws.FnProofsTold'. -/
def fnProofsToldCard : Claim7 := { stood := { row := fnProofsToldRow, standIns := [], harness := (true, "386626b374f04c1cc2c46b31dbdb8faeed6cf454e8502c34e1cddd228fb3aada"), looks := true }, kinds := [], alts := [], laidByText := true, laidKinds := [.data, .data], laidTests := true, laidLooks := .later }
def FnProofsToldCardSaid : Prop := Claim7.holds Tryz.pinned (.plain (OpenSpec.ofChange fnProofsToldSpec)) fnProofsToldCard

/-- THE SECOND FORM's CARD OF 'laws.FnProofs'. -/
def fnProofsUptoCard : Claim7 := { stood := { row := fnProofsUptoRow, standIns := [], harness := (true, "386626b374f04c1cc2c46b31dbdb8faeed6cf454e8502c34e1cddd228fb3aada"), looks := true }, kinds := [], alts := [], laidByText := true, laidKinds := [.data, .data], laidTests := true, laidLooks := .later }
def FnProofsUptoCardSaid : Prop := Claim7.holds Tryz.pinned (.plain (OpenSpec.upto fnProofsSpec)) fnProofsUptoCard

/-- THE SECOND FORM's CARD OF 'laws.FnProofsTold'. -/
def fnProofsToldUptoCard : Claim7 := { stood := { row := fnProofsToldUptoRow, standIns := [], harness := (true, "386626b374f04c1cc2c46b31dbdb8faeed6cf454e8502c34e1cddd228fb3aada"), looks := true }, kinds := [], alts := [], laidByText := true, laidKinds := [.data, .data], laidTests := true, laidLooks := .later }
def FnProofsToldUptoCardSaid : Prop := Claim7.holds Tryz.pinned (.plain (OpenSpec.upto fnProofsToldSpec)) fnProofsToldUptoCard
end Rows
end Go.Proofs.YtojadcjoniejaaaGreatDoor
