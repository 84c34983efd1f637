/-
  DERIVED. GIVEN WITH THE SEED: THE CARDS: each row of YtodibhiinfbhiaaDoorRows.lean that lists a variable, with what it lists TIED to the program's text (the seventh form; the later family's looks); each row that meets fmt, with fmt's text TOLD by the authors' own Lean function (tested against real Go, not proved from fmt's source: count such statements apart). THE CARD IS WHAT COUNTS. Prove the row's statement (the work); the ties are given (YtodibhiinfbhiaaDoorTie.lean); close each card by the builder's one call (the guide's Derived/Test/ToyasCard.lean, 'card_holds'). Laid BY PROGRAM, IN A SANDBOX (cutbox-door.mjs). By AI agents, Wed Nov 11 2026. No macro, syntax, notation, axiom, sorry.
-/
import Derived.Test.YtodibhiinfbhiaaDoorRows
import GoSem.ClaimSeven
namespace Go.Proofs.YtodibhiinfbhiaaDoor
namespace Rows

/-- THE TIED CARD OF 'laws.FnLetters'. -/
def fnLettersCard : Claim7 := { stood := { row := fnLettersRow, standIns := [], harness := (true, "9204f6b1e55f909a853659a0fd4951e2ff23a8df268f52c81f68cc26e9e82c41"), looks := false }, kinds := [], alts := [], laidByText := true, laidKinds := [.data], laidTests := true, laidLooks := .later }
def FnLettersCardSaid : Prop := Claim7.holds Tryd.pinned (.plain (OpenSpec.ofChange fnLettersSpec)) fnLettersCard

/-- THE TIED CARD OF 'laws.FnExactLetterText'. -/
def fnExactLetterTextCard : Claim7 := { stood := { row := fnExactLetterTextRow, standIns := [], harness := (true, "9204f6b1e55f909a853659a0fd4951e2ff23a8df268f52c81f68cc26e9e82c41"), looks := false }, kinds := [], alts := [], laidByText := true, laidKinds := [.data], laidTests := true, laidLooks := .later }
def FnExactLetterTextCardSaid : Prop := Claim7.holds Tryd.pinned (.plain (OpenSpec.ofChange fnExactLetterTextSpec)) fnExactLetterTextCard

/-- THE TIED CARD OF 'laws.FnExactReadLetter'. -/
def fnExactReadLetterCard : Claim7 := { stood := { row := fnExactReadLetterRow, standIns := [], harness := (true, "9204f6b1e55f909a853659a0fd4951e2ff23a8df268f52c81f68cc26e9e82c41"), looks := false }, kinds := [], alts := [], laidByText := true, laidKinds := [.data], laidTests := true, laidLooks := .later }
def FnExactReadLetterCardSaid : Prop := Claim7.holds Tryd.pinned (.plain (OpenSpec.ofChange fnExactReadLetterSpec)) fnExactReadLetterCard

/-- THE SECOND FORM's CARD OF 'laws.FnLetters'. -/
def fnLettersUptoCard : Claim7 := { stood := { row := fnLettersUptoRow, standIns := [], harness := (true, "9204f6b1e55f909a853659a0fd4951e2ff23a8df268f52c81f68cc26e9e82c41"), looks := false }, kinds := [], alts := [], laidByText := true, laidKinds := [.data], laidTests := true, laidLooks := .later }
def FnLettersUptoCardSaid : Prop := Claim7.holds Tryd.pinned (.plain (OpenSpec.upto fnLettersSpec)) fnLettersUptoCard

/-- THE SECOND FORM's CARD OF 'laws.FnExactLetterText'. -/
def fnExactLetterTextUptoCard : Claim7 := { stood := { row := fnExactLetterTextUptoRow, standIns := [], harness := (true, "9204f6b1e55f909a853659a0fd4951e2ff23a8df268f52c81f68cc26e9e82c41"), looks := false }, kinds := [], alts := [], laidByText := true, laidKinds := [.data], laidTests := true, laidLooks := .later }
def FnExactLetterTextUptoCardSaid : Prop := Claim7.holds Tryd.pinned (.plain (OpenSpec.upto fnExactLetterTextSpec)) fnExactLetterTextUptoCard

/-- THE SECOND FORM's CARD OF 'laws.FnExactReadLetter'. -/
def fnExactReadLetterUptoCard : Claim7 := { stood := { row := fnExactReadLetterUptoRow, standIns := [], harness := (true, "9204f6b1e55f909a853659a0fd4951e2ff23a8df268f52c81f68cc26e9e82c41"), looks := false }, kinds := [], alts := [], laidByText := true, laidKinds := [.data], laidTests := true, laidLooks := .later }
def FnExactReadLetterUptoCardSaid : Prop := Claim7.holds Tryd.pinned (.plain (OpenSpec.upto fnExactReadLetterSpec)) fnExactReadLetterUptoCard
end Rows
end Go.Proofs.YtodibhiinfbhiaaDoor
