/-
  DERIVED. GIVEN WITH THE SEED: THE CARDS: each row of YtkgibgadngeddabDoorRows.lean that lists a variable, with what it lists TIED to the program's text (the seventh form; the later family's looks); each row that meets fmt, with fmt's text TOLD by the authors' own Lean function (tested against real Go, not proved from fmt's source: count such statements apart). THE CARD IS WHAT COUNTS. Prove the row's statement (the work); the ties are given (YtkgibgadngeddabDoorTie.lean); close each card by the builder's one call (the guide's Derived/Test/ToyasCard.lean, 'card_holds'). Laid BY PROGRAM, IN A SANDBOX (cutbox-door.mjs). By AI agents, Wed Nov 11 2026. No macro, syntax, notation, axiom, sorry.
-/
import Derived.Test.YtkgibgadngeddabDoorRows
import GoSem.ClaimSeven
namespace Go.Proofs.YtkgibgadngeddabDoor
namespace Rows

/-- THE TIED CARD OF 'laws.FnExactSigTexts'. -/
def fnExactSigTextsCard : Claim7 := { stood := { row := fnExactSigTextsRow, standIns := [], harness := (true, "641ccde1ecafbfc6c7f398fe9963d1bab6e62a43c99986063f03c484b21de076"), looks := false }, kinds := [], alts := [], laidByText := true, laidKinds := [.data, .data], laidTests := true, laidLooks := .later }
def FnExactSigTextsCardSaid : Prop := Claim7.holds Tryd.pinned (.plain (OpenSpec.ofChange fnExactSigTextsSpec)) fnExactSigTextsCard

/-- THE SECOND FORM's CARD OF 'laws.FnExactSigTexts'. -/
def fnExactSigTextsUptoCard : Claim7 := { stood := { row := fnExactSigTextsUptoRow, standIns := [], harness := (true, "641ccde1ecafbfc6c7f398fe9963d1bab6e62a43c99986063f03c484b21de076"), looks := false }, kinds := [], alts := [], laidByText := true, laidKinds := [.data, .data], laidTests := true, laidLooks := .later }
def FnExactSigTextsUptoCardSaid : Prop := Claim7.holds Tryd.pinned (.plain (OpenSpec.upto fnExactSigTextsSpec)) fnExactSigTextsUptoCard
end Rows
end Go.Proofs.YtkgibgadngeddabDoor
