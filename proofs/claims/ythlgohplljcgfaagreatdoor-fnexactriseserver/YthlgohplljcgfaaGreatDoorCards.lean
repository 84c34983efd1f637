/-
  DERIVED. GIVEN WITH THE SEED: THE CARDS: each row of YthlgohplljcgfaaGreatDoorRows.lean that lists a variable, with what it lists TIED to the program's text (the seventh form; the later family's looks); each row that meets fmt, with fmt's text TOLD by the authors' own Lean function (tested against real Go, not proved from fmt's source: count such statements apart). THE CARD IS WHAT COUNTS. Prove the row's statement (the work); the ties are given (YthlgohplljcgfaaGreatDoorTie.lean); close each card by the builder's one call (the guide's Derived/Test/ToyasCard.lean, 'card_holds'). Laid BY PROGRAM, IN A SANDBOX (cutbox-door.mjs). By AI agents, Wed Nov 11 2026. No macro, syntax, notation, axiom, sorry.
-/
import Derived.Test.YthlgohplljcgfaaGreatDoorRows
import GoSem.ClaimSeven
namespace Go.Proofs.YthlgohplljcgfaaGreatDoor
namespace Rows

/-- THE TIED CARD OF 'laws.FnExactServerNew'. -/
def fnExactServerNewCard : Claim7 := { stood := { row := fnExactServerNewRow, standIns := [], harness := (true, "119e0fb236b958b4fea1937b86a9269936a905c3f15236fe353b26dfd5de62be"), looks := true }, kinds := [], alts := [], laidByText := true, laidKinds := [.handle, .data, .data, .data], laidTests := true, laidLooks := .later }
def FnExactServerNewCardSaid : Prop := Claim7.holds Tryz.pinned (.plain (OpenSpec.ofChange fnExactServerNewSpec)) fnExactServerNewCard

/-- THE TIED CARD OF 'laws.FnExactFallServer'. -/
def fnExactFallServerCard : Claim7 := { stood := { row := fnExactFallServerRow, standIns := [], harness := (true, "119e0fb236b958b4fea1937b86a9269936a905c3f15236fe353b26dfd5de62be"), looks := true }, kinds := [], alts := [], laidByText := true, laidKinds := [.handle, .data, .data, .data], laidTests := true, laidLooks := .later }
def FnExactFallServerCardSaid : Prop := Claim7.holds Tryz.pinned (.plain (OpenSpec.ofChange fnExactFallServerSpec)) fnExactFallServerCard

/-- THE TIED CARD OF 'laws.FnExactRiseServer'. -/
def fnExactRiseServerCard : Claim7 := { stood := { row := fnExactRiseServerRow, standIns := [], harness := (true, "119e0fb236b958b4fea1937b86a9269936a905c3f15236fe353b26dfd5de62be"), looks := true }, kinds := [], alts := [], laidByText := true, laidKinds := [.handle, .data, .data, .data], laidTests := true, laidLooks := .later }
def FnExactRiseServerCardSaid : Prop := Claim7.holds Tryz.pinned (.plain (OpenSpec.ofChange fnExactRiseServerSpec)) fnExactRiseServerCard

/-- THE TIED CARD OF 'laws.FnExactServerOk'. -/
def fnExactServerOkCard : Claim7 := { stood := { row := fnExactServerOkRow, standIns := [], harness := (true, "119e0fb236b958b4fea1937b86a9269936a905c3f15236fe353b26dfd5de62be"), looks := true }, kinds := [], alts := [], laidByText := true, laidKinds := [.handle, .data, .data, .data], laidTests := true, laidLooks := .later }
def FnExactServerOkCardSaid : Prop := Claim7.holds Tryz.pinned (.plain (OpenSpec.ofChange fnExactServerOkSpec)) fnExactServerOkCard

/-- THE SECOND FORM's CARD OF 'laws.FnExactServerNew'. -/
def fnExactServerNewUptoCard : Claim7 := { stood := { row := fnExactServerNewUptoRow, standIns := [], harness := (true, "119e0fb236b958b4fea1937b86a9269936a905c3f15236fe353b26dfd5de62be"), looks := true }, kinds := [], alts := [], laidByText := true, laidKinds := [.handle, .data, .data, .data], laidTests := true, laidLooks := .later }
def FnExactServerNewUptoCardSaid : Prop := Claim7.holds Tryz.pinned (.plain (OpenSpec.upto fnExactServerNewSpec)) fnExactServerNewUptoCard

/-- THE SECOND FORM's CARD OF 'laws.FnExactFallServer'. -/
def fnExactFallServerUptoCard : Claim7 := { stood := { row := fnExactFallServerUptoRow, standIns := [], harness := (true, "119e0fb236b958b4fea1937b86a9269936a905c3f15236fe353b26dfd5de62be"), looks := true }, kinds := [], alts := [], laidByText := true, laidKinds := [.handle, .data, .data, .data], laidTests := true, laidLooks := .later }
def FnExactFallServerUptoCardSaid : Prop := Claim7.holds Tryz.pinned (.plain (OpenSpec.upto fnExactFallServerSpec)) fnExactFallServerUptoCard

/-- THE SECOND FORM's CARD OF 'laws.FnExactRiseServer'. -/
def fnExactRiseServerUptoCard : Claim7 := { stood := { row := fnExactRiseServerUptoRow, standIns := [], harness := (true, "119e0fb236b958b4fea1937b86a9269936a905c3f15236fe353b26dfd5de62be"), looks := true }, kinds := [], alts := [], laidByText := true, laidKinds := [.handle, .data, .data, .data], laidTests := true, laidLooks := .later }
def FnExactRiseServerUptoCardSaid : Prop := Claim7.holds Tryz.pinned (.plain (OpenSpec.upto fnExactRiseServerSpec)) fnExactRiseServerUptoCard

/-- THE SECOND FORM's CARD OF 'laws.FnExactServerOk'. -/
def fnExactServerOkUptoCard : Claim7 := { stood := { row := fnExactServerOkUptoRow, standIns := [], harness := (true, "119e0fb236b958b4fea1937b86a9269936a905c3f15236fe353b26dfd5de62be"), looks := true }, kinds := [], alts := [], laidByText := true, laidKinds := [.handle, .data, .data, .data], laidTests := true, laidLooks := .later }
def FnExactServerOkUptoCardSaid : Prop := Claim7.holds Tryz.pinned (.plain (OpenSpec.upto fnExactServerOkSpec)) fnExactServerOkUptoCard
end Rows
end Go.Proofs.YthlgohplljcgfaaGreatDoor
