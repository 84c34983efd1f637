/-
  DERIVED. GIVEN WITH THE SEED: THE CARDS: each row of YtojadcjoniejaaaDoorRows.lean that lists a variable, with what it lists TIED to the program's text (the seventh form; the later family's looks); each row that meets fmt, with fmt's text TOLD by the authors' own Lean function (tested against real Go, not proved from fmt's source: count such statements apart). THE CARD IS WHAT COUNTS. Prove the row's statement (the work); the ties are given (YtojadcjoniejaaaDoorTie.lean); close each card by the builder's one call (the guide's Derived/Test/ToyasCard.lean, 'card_holds'). Laid BY PROGRAM, IN A SANDBOX (cutbox-door.mjs). By AI agents, Wed Nov 11 2026. No macro, syntax, notation, axiom, sorry.
-/
import Derived.Test.YtojadcjoniejaaaDoorRows
import GoSem.ClaimSeven
namespace Go.Proofs.YtojadcjoniejaaaDoor
namespace Rows

/-- THE TIED CARD OF 'laws.FnRootsDiffer'. -/
def fnRootsDifferCard : Claim7 := { stood := { row := fnRootsDifferRow, standIns := [], harness := (true, "54bbaf33f34280c784d93c4e62ff358c535145d52b837617d3d523f82c0a67c5"), looks := true }, kinds := [], alts := [], laidByText := true, laidKinds := [.data, .data], laidTests := true, laidLooks := .later }
def FnRootsDifferCardSaid : Prop := Claim7.holds Tryd.pinned (.plain (OpenSpec.ofChange fnRootsDifferSpec)) fnRootsDifferCard

/-- THE TIED CARD OF 'laws.FnForged'. -/
def fnForgedCard : Claim7 := { stood := { row := fnForgedRow, standIns := [], harness := (true, "54bbaf33f34280c784d93c4e62ff358c535145d52b837617d3d523f82c0a67c5"), looks := true }, kinds := [], alts := [], laidByText := true, laidKinds := [.data, .data], laidTests := true, laidLooks := .later }
def FnForgedCardSaid : Prop := Claim7.holds Tryd.pinned (.plain (OpenSpec.ofChange fnForgedSpec)) fnForgedCard

/-- THE TIED CARD OF 'laws.FnExactProveLeaf'. -/
def fnExactProveLeafCard : Claim7 := { stood := { row := fnExactProveLeafRow, standIns := [], harness := (true, "54bbaf33f34280c784d93c4e62ff358c535145d52b837617d3d523f82c0a67c5"), looks := true }, kinds := [], alts := [], laidByText := true, laidKinds := [.data, .data], laidTests := true, laidLooks := .later }
def FnExactProveLeafCardSaid : Prop := Claim7.holds Tryd.pinned (.plain (OpenSpec.ofChange fnExactProveLeafSpec)) fnExactProveLeafCard

/-- THE TIED CARD OF 'laws.FnExactProofOk'. -/
def fnExactProofOkCard : Claim7 := { stood := { row := fnExactProofOkRow, standIns := [], harness := (true, "54bbaf33f34280c784d93c4e62ff358c535145d52b837617d3d523f82c0a67c5"), looks := true }, kinds := [], alts := [], laidByText := true, laidKinds := [.data, .data], laidTests := true, laidLooks := .later }
def FnExactProofOkCardSaid : Prop := Claim7.holds Tryd.pinned (.plain (OpenSpec.ofChange fnExactProofOkSpec)) fnExactProofOkCard

/-- THE TIED CARD OF 'laws.FnExactProofTexts'. -/
def fnExactProofTextsCard : Claim7 := { stood := { row := fnExactProofTextsRow, standIns := [], harness := (true, "54bbaf33f34280c784d93c4e62ff358c535145d52b837617d3d523f82c0a67c5"), looks := true }, kinds := [], alts := [], laidByText := true, laidKinds := [.data, .data], laidTests := true, laidLooks := .later }
def FnExactProofTextsCardSaid : Prop := Claim7.holds Tryd.pinned (.plain (OpenSpec.ofChange fnExactProofTextsSpec)) fnExactProofTextsCard

/-- THE TIED CARD OF 'laws.FnExactProofHash'. -/
def fnExactProofHashCard : Claim7 := { stood := { row := fnExactProofHashRow, standIns := [], harness := (true, "54bbaf33f34280c784d93c4e62ff358c535145d52b837617d3d523f82c0a67c5"), looks := true }, kinds := [], alts := [], laidByText := true, laidKinds := [.data, .data], laidTests := true, laidLooks := .later }
def FnExactProofHashCardSaid : Prop := Claim7.holds Tryd.pinned (.plain (OpenSpec.ofChange fnExactProofHashSpec)) fnExactProofHashCard

/-- THE TIED CARD OF 'laws.FnExactExtractTwo'. -/
def fnExactExtractTwoCard : Claim7 := { stood := { row := fnExactExtractTwoRow, standIns := [], harness := (true, "54bbaf33f34280c784d93c4e62ff358c535145d52b837617d3d523f82c0a67c5"), looks := true }, kinds := [], alts := [], laidByText := true, laidKinds := [.data, .data], laidTests := true, laidLooks := .later }
def FnExactExtractTwoCardSaid : Prop := Claim7.holds Tryd.pinned (.plain (OpenSpec.ofChange fnExactExtractTwoSpec)) fnExactExtractTwoCard

/-- THE SECOND FORM's CARD OF 'laws.FnRootsDiffer'. -/
def fnRootsDifferUptoCard : Claim7 := { stood := { row := fnRootsDifferUptoRow, standIns := [], harness := (true, "54bbaf33f34280c784d93c4e62ff358c535145d52b837617d3d523f82c0a67c5"), looks := true }, kinds := [], alts := [], laidByText := true, laidKinds := [.data, .data], laidTests := true, laidLooks := .later }
def FnRootsDifferUptoCardSaid : Prop := Claim7.holds Tryd.pinned (.plain (OpenSpec.upto fnRootsDifferSpec)) fnRootsDifferUptoCard

/-- THE SECOND FORM's CARD OF 'laws.FnForged'. -/
def fnForgedUptoCard : Claim7 := { stood := { row := fnForgedUptoRow, standIns := [], harness := (true, "54bbaf33f34280c784d93c4e62ff358c535145d52b837617d3d523f82c0a67c5"), looks := true }, kinds := [], alts := [], laidByText := true, laidKinds := [.data, .data], laidTests := true, laidLooks := .later }
def FnForgedUptoCardSaid : Prop := Claim7.holds Tryd.pinned (.plain (OpenSpec.upto fnForgedSpec)) fnForgedUptoCard

/-- THE SECOND FORM's CARD OF 'laws.FnExactProveLeaf'. -/
def fnExactProveLeafUptoCard : Claim7 := { stood := { row := fnExactProveLeafUptoRow, standIns := [], harness := (true, "54bbaf33f34280c784d93c4e62ff358c535145d52b837617d3d523f82c0a67c5"), looks := true }, kinds := [], alts := [], laidByText := true, laidKinds := [.data, .data], laidTests := true, laidLooks := .later }
def FnExactProveLeafUptoCardSaid : Prop := Claim7.holds Tryd.pinned (.plain (OpenSpec.upto fnExactProveLeafSpec)) fnExactProveLeafUptoCard

/-- THE SECOND FORM's CARD OF 'laws.FnExactProofOk'. -/
def fnExactProofOkUptoCard : Claim7 := { stood := { row := fnExactProofOkUptoRow, standIns := [], harness := (true, "54bbaf33f34280c784d93c4e62ff358c535145d52b837617d3d523f82c0a67c5"), looks := true }, kinds := [], alts := [], laidByText := true, laidKinds := [.data, .data], laidTests := true, laidLooks := .later }
def FnExactProofOkUptoCardSaid : Prop := Claim7.holds Tryd.pinned (.plain (OpenSpec.upto fnExactProofOkSpec)) fnExactProofOkUptoCard

/-- THE SECOND FORM's CARD OF 'laws.FnExactProofTexts'. -/
def fnExactProofTextsUptoCard : Claim7 := { stood := { row := fnExactProofTextsUptoRow, standIns := [], harness := (true, "54bbaf33f34280c784d93c4e62ff358c535145d52b837617d3d523f82c0a67c5"), looks := true }, kinds := [], alts := [], laidByText := true, laidKinds := [.data, .data], laidTests := true, laidLooks := .later }
def FnExactProofTextsUptoCardSaid : Prop := Claim7.holds Tryd.pinned (.plain (OpenSpec.upto fnExactProofTextsSpec)) fnExactProofTextsUptoCard

/-- THE SECOND FORM's CARD OF 'laws.FnExactProofHash'. -/
def fnExactProofHashUptoCard : Claim7 := { stood := { row := fnExactProofHashUptoRow, standIns := [], harness := (true, "54bbaf33f34280c784d93c4e62ff358c535145d52b837617d3d523f82c0a67c5"), looks := true }, kinds := [], alts := [], laidByText := true, laidKinds := [.data, .data], laidTests := true, laidLooks := .later }
def FnExactProofHashUptoCardSaid : Prop := Claim7.holds Tryd.pinned (.plain (OpenSpec.upto fnExactProofHashSpec)) fnExactProofHashUptoCard

/-- THE SECOND FORM's CARD OF 'laws.FnExactExtractTwo'. -/
def fnExactExtractTwoUptoCard : Claim7 := { stood := { row := fnExactExtractTwoUptoRow, standIns := [], harness := (true, "54bbaf33f34280c784d93c4e62ff358c535145d52b837617d3d523f82c0a67c5"), looks := true }, kinds := [], alts := [], laidByText := true, laidKinds := [.data, .data], laidTests := true, laidLooks := .later }
def FnExactExtractTwoUptoCardSaid : Prop := Claim7.holds Tryd.pinned (.plain (OpenSpec.upto fnExactExtractTwoSpec)) fnExactExtractTwoUptoCard
end Rows
end Go.Proofs.YtojadcjoniejaaaDoor
