/-
  DERIVED. GIVEN WITH THE SEED: THE CARDS: each row of YtdifilcdiacbpaaDoorRows.lean that lists a variable, with what it lists TIED to the program's text (the seventh form; the later family's looks); each row that meets fmt, with fmt's text TOLD by the authors' own Lean function (tested against real Go, not proved from fmt's source: count such statements apart). THE CARD IS WHAT COUNTS. Prove the row's statement (the work); the ties are given (YtdifilcdiacbpaaDoorTie.lean); close each card by the builder's one call (the guide's Derived/Test/ToyasCard.lean, 'card_holds'). Laid BY PROGRAM, IN A SANDBOX (cutbox-door.mjs). By AI agents, Wed Nov 11 2026. No macro, syntax, notation, axiom, sorry.
-/
import Derived.Test.YtdifilcdiacbpaaDoorRows
import GoSem.ClaimSeven
namespace Go.Proofs.YtdifilcdiacbpaaDoor
namespace Rows

/-- THE TIED CARD OF 'laws.FnSigns'. -/
def fnSignsCard : Claim7 := { stood := { row := fnSignsRow, standIns := [], harness := (true, "638b13974622f0f4607c5edda0d411c8978f116a1dcbddf97ac8202785626a4f"), looks := false }, kinds := [], alts := [], laidByText := true, laidKinds := [.data, .data], laidTests := true, laidLooks := .later }
def FnSignsCardSaid : Prop := Claim7.holds Tryd.pinned (.plain (OpenSpec.ofChange fnSignsSpec)) fnSignsCard

/-- THE TIED CARD OF 'laws.FnSignsOther'. -/
def fnSignsOtherCard : Claim7 := { stood := { row := fnSignsOtherRow, standIns := [], harness := (true, "638b13974622f0f4607c5edda0d411c8978f116a1dcbddf97ac8202785626a4f"), looks := false }, kinds := [], alts := [], laidByText := true, laidKinds := [.data, .data], laidTests := true, laidLooks := .later }
def FnSignsOtherCardSaid : Prop := Claim7.holds Tryd.pinned (.plain (OpenSpec.ofChange fnSignsOtherSpec)) fnSignsOtherCard

/-- THE TIED CARD OF 'laws.FnSignsTurned'. -/
def fnSignsTurnedCard : Claim7 := { stood := { row := fnSignsTurnedRow, standIns := [], harness := (true, "638b13974622f0f4607c5edda0d411c8978f116a1dcbddf97ac8202785626a4f"), looks := false }, kinds := [], alts := [], laidByText := true, laidKinds := [.data, .data], laidTests := true, laidLooks := .later }
def FnSignsTurnedCardSaid : Prop := Claim7.holds Tryd.pinned (.plain (OpenSpec.ofChange fnSignsTurnedSpec)) fnSignsTurnedCard

/-- THE SECOND FORM's CARD OF 'laws.FnSigns'. -/
def fnSignsUptoCard : Claim7 := { stood := { row := fnSignsUptoRow, standIns := [], harness := (true, "638b13974622f0f4607c5edda0d411c8978f116a1dcbddf97ac8202785626a4f"), looks := false }, kinds := [], alts := [], laidByText := true, laidKinds := [.data, .data], laidTests := true, laidLooks := .later }
def FnSignsUptoCardSaid : Prop := Claim7.holds Tryd.pinned (.plain (OpenSpec.upto fnSignsSpec)) fnSignsUptoCard

/-- THE SECOND FORM's CARD OF 'laws.FnSignsOther'. -/
def fnSignsOtherUptoCard : Claim7 := { stood := { row := fnSignsOtherUptoRow, standIns := [], harness := (true, "638b13974622f0f4607c5edda0d411c8978f116a1dcbddf97ac8202785626a4f"), looks := false }, kinds := [], alts := [], laidByText := true, laidKinds := [.data, .data], laidTests := true, laidLooks := .later }
def FnSignsOtherUptoCardSaid : Prop := Claim7.holds Tryd.pinned (.plain (OpenSpec.upto fnSignsOtherSpec)) fnSignsOtherUptoCard

/-- THE SECOND FORM's CARD OF 'laws.FnSignsTurned'. -/
def fnSignsTurnedUptoCard : Claim7 := { stood := { row := fnSignsTurnedUptoRow, standIns := [], harness := (true, "638b13974622f0f4607c5edda0d411c8978f116a1dcbddf97ac8202785626a4f"), looks := false }, kinds := [], alts := [], laidByText := true, laidKinds := [.data, .data], laidTests := true, laidLooks := .later }
def FnSignsTurnedUptoCardSaid : Prop := Claim7.holds Tryd.pinned (.plain (OpenSpec.upto fnSignsTurnedSpec)) fnSignsTurnedUptoCard
end Rows
end Go.Proofs.YtdifilcdiacbpaaDoor
