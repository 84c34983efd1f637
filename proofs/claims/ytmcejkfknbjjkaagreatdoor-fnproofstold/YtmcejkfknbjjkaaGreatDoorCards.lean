/-
  DERIVED. GIVEN WITH THE SEED: THE CARDS: each row of YtmcejkfknbjjkaaGreatDoorRows.lean that lists a variable, with what it lists TIED to the program's text (the seventh form; the later family's looks); each row that meets fmt, with fmt's text TOLD by the authors' own Lean function (tested against real Go, not proved from fmt's source: count such statements apart). THE CARD IS WHAT COUNTS. Prove the row's statement (the work); the ties are given (YtmcejkfknbjjkaaGreatDoorTie.lean); close each card by the builder's one call (the guide's Derived/Test/ToyasCard.lean, 'card_holds'). Laid BY PROGRAM, IN A SANDBOX (cutbox-door.mjs). By AI agents, Wed Nov 11 2026. No macro, syntax, notation, axiom, sorry.
-/
import Derived.Test.YtmcejkfknbjjkaaGreatDoorRows
import GoSem.ClaimSeven
namespace Go.Proofs.YtmcejkfknbjjkaaGreatDoor
namespace Rows

/-- THE TIED CARD OF 'laws.FnParts'. -/
def fnPartsCard : Claim7 := { stood := { row := fnPartsRow, standIns := [], harness := (true, "71057d7ed38772d3242cd80164fc5ede85d396ce197923f8f746732b1823c841"), looks := false }, kinds := [], alts := [], laidByText := true, laidKinds := [.data, .data], laidTests := true, laidLooks := .later }
def FnPartsCardSaid : Prop := Claim7.holds Tryz.pinned (.plain (OpenSpec.ofChange fnPartsSpec)) fnPartsCard

/-- THE TIED CARD OF 'laws.FnProofsTold'. -/
def fnProofsToldCard : Claim7 := { stood := { row := fnProofsToldRow, standIns := [], harness := (true, "71057d7ed38772d3242cd80164fc5ede85d396ce197923f8f746732b1823c841"), looks := false }, kinds := [], alts := [], laidByText := true, laidKinds := [.data, .data], laidTests := true, laidLooks := .later }
def FnProofsToldCardSaid : Prop := Claim7.holds Tryz.pinned (.plain (OpenSpec.ofChange fnProofsToldSpec)) fnProofsToldCard

/-- THE SECOND FORM's CARD OF 'laws.FnParts'. -/
def fnPartsUptoCard : Claim7 := { stood := { row := fnPartsUptoRow, standIns := [], harness := (true, "71057d7ed38772d3242cd80164fc5ede85d396ce197923f8f746732b1823c841"), looks := false }, kinds := [], alts := [], laidByText := true, laidKinds := [.data, .data], laidTests := true, laidLooks := .later }
def FnPartsUptoCardSaid : Prop := Claim7.holds Tryz.pinned (.plain (OpenSpec.upto fnPartsSpec)) fnPartsUptoCard

/-- THE SECOND FORM's CARD OF 'laws.FnProofsTold'. -/
def fnProofsToldUptoCard : Claim7 := { stood := { row := fnProofsToldUptoRow, standIns := [], harness := (true, "71057d7ed38772d3242cd80164fc5ede85d396ce197923f8f746732b1823c841"), looks := false }, kinds := [], alts := [], laidByText := true, laidKinds := [.data, .data], laidTests := true, laidLooks := .later }
def FnProofsToldUptoCardSaid : Prop := Claim7.holds Tryz.pinned (.plain (OpenSpec.upto fnProofsToldSpec)) fnProofsToldUptoCard
end Rows
end Go.Proofs.YtmcejkfknbjjkaaGreatDoor
