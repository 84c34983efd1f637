/-
  DERIVED. GIVEN WITH THE SEED: THE CARDS: each row of YtmfoliocibjdnaaDoorRows.lean that lists a variable, with what it lists TIED to the program's text (the seventh form; the later family's looks); each row that meets fmt, with fmt's text TOLD by the authors' own Lean function (tested against real Go, not proved from fmt's source: count such statements apart). THE CARD IS WHAT COUNTS. Prove the row's statement (the work); the ties are given (YtmfoliocibjdnaaDoorTie.lean); close each card by the builder's one call (the guide's Derived/Test/ToyasCard.lean, 'card_holds'). Laid BY PROGRAM, IN A SANDBOX (cutbox-door.mjs). By AI agents, Wed Nov 11 2026. No macro, syntax, notation, axiom, sorry.
-/
import Derived.Test.YtmfoliocibjdnaaDoorRows
import GoSem.ClaimSeven
namespace Go.Proofs.YtmfoliocibjdnaaDoor
namespace Rows

/-- THE TIED CARD OF 'laws.FnSigns'. -/
def fnSignsCard : Claim7 := { stood := { row := fnSignsRow, standIns := [], harness := (true, "10b98e1241c8aab0db655092ffc0ef91a98127ec9ff9d25a9ceb9a64f5994520"), looks := false }, kinds := [], alts := [], laidByText := true, laidKinds := [.data, .data], laidTests := true, laidLooks := .later }
def FnSignsCardSaid : Prop := Claim7.holds Tryd.pinned (.plain (OpenSpec.ofChange fnSignsSpec)) fnSignsCard

/-- THE TIED CARD OF 'laws.FnSignsOther'. -/
def fnSignsOtherCard : Claim7 := { stood := { row := fnSignsOtherRow, standIns := [], harness := (true, "10b98e1241c8aab0db655092ffc0ef91a98127ec9ff9d25a9ceb9a64f5994520"), looks := false }, kinds := [], alts := [], laidByText := true, laidKinds := [.data, .data], laidTests := true, laidLooks := .later }
def FnSignsOtherCardSaid : Prop := Claim7.holds Tryd.pinned (.plain (OpenSpec.ofChange fnSignsOtherSpec)) fnSignsOtherCard

/-- THE TIED CARD OF 'laws.FnSignsTurned'. -/
def fnSignsTurnedCard : Claim7 := { stood := { row := fnSignsTurnedRow, standIns := [], harness := (true, "10b98e1241c8aab0db655092ffc0ef91a98127ec9ff9d25a9ceb9a64f5994520"), looks := false }, kinds := [], alts := [], laidByText := true, laidKinds := [.data, .data], laidTests := true, laidLooks := .later }
def FnSignsTurnedCardSaid : Prop := Claim7.holds Tryd.pinned (.plain (OpenSpec.ofChange fnSignsTurnedSpec)) fnSignsTurnedCard

/-- THE TIED CARD OF 'laws.FnPools'. -/
def fnPoolsCard : Claim7 := { stood := { row := fnPoolsRow, standIns := [], harness := (true, "10b98e1241c8aab0db655092ffc0ef91a98127ec9ff9d25a9ceb9a64f5994520"), looks := false }, kinds := [], alts := [], laidByText := true, laidKinds := [.data, .data], laidTests := true, laidLooks := .later }
def FnPoolsCardSaid : Prop := Claim7.holds Tryd.pinned (.plain (OpenSpec.ofChange fnPoolsSpec)) fnPoolsCard

/-- THE TIED CARD OF 'laws.FnSeals'. -/
def fnSealsCard : Claim7 := { stood := { row := fnSealsRow, standIns := [], harness := (true, "10b98e1241c8aab0db655092ffc0ef91a98127ec9ff9d25a9ceb9a64f5994520"), looks := false }, kinds := [], alts := [], laidByText := true, laidKinds := [.data, .data], laidTests := true, laidLooks := .later }
def FnSealsCardSaid : Prop := Claim7.holds Tryd.pinned (.plain (OpenSpec.ofChange fnSealsSpec)) fnSealsCard

/-- THE TIED CARD OF 'laws.FnStamps'. -/
def fnStampsCard : Claim7 := { stood := { row := fnStampsRow, standIns := [], harness := (true, "10b98e1241c8aab0db655092ffc0ef91a98127ec9ff9d25a9ceb9a64f5994520"), looks := false }, kinds := [], alts := [], laidByText := true, laidKinds := [.data, .data], laidTests := true, laidLooks := .later }
def FnStampsCardSaid : Prop := Claim7.holds Tryd.pinned (.plain (OpenSpec.ofChange fnStampsSpec)) fnStampsCard

/-- THE TIED CARD OF 'laws.FnExactSigOk'. -/
def fnExactSigOkCard : Claim7 := { stood := { row := fnExactSigOkRow, standIns := [], harness := (true, "10b98e1241c8aab0db655092ffc0ef91a98127ec9ff9d25a9ceb9a64f5994520"), looks := false }, kinds := [], alts := [], laidByText := true, laidKinds := [.data, .data], laidTests := true, laidLooks := .later }
def FnExactSigOkCardSaid : Prop := Claim7.holds Tryd.pinned (.plain (OpenSpec.ofChange fnExactSigOkSpec)) fnExactSigOkCard

/-- THE TIED CARD OF 'laws.FnExactSealHead'. -/
def fnExactSealHeadCard : Claim7 := { stood := { row := fnExactSealHeadRow, standIns := [], harness := (true, "10b98e1241c8aab0db655092ffc0ef91a98127ec9ff9d25a9ceb9a64f5994520"), looks := false }, kinds := [], alts := [], laidByText := true, laidKinds := [.data, .data], laidTests := true, laidLooks := .later }
def FnExactSealHeadCardSaid : Prop := Claim7.holds Tryd.pinned (.plain (OpenSpec.ofChange fnExactSealHeadSpec)) fnExactSealHeadCard

/-- THE TIED CARD OF 'laws.FnExactSealOk'. -/
def fnExactSealOkCard : Claim7 := { stood := { row := fnExactSealOkRow, standIns := [], harness := (true, "10b98e1241c8aab0db655092ffc0ef91a98127ec9ff9d25a9ceb9a64f5994520"), looks := false }, kinds := [], alts := [], laidByText := true, laidKinds := [.data, .data], laidTests := true, laidLooks := .later }
def FnExactSealOkCardSaid : Prop := Claim7.holds Tryd.pinned (.plain (OpenSpec.ofChange fnExactSealOkSpec)) fnExactSealOkCard

/-- THE TIED CARD OF 'laws.FnExactStampHead'. -/
def fnExactStampHeadCard : Claim7 := { stood := { row := fnExactStampHeadRow, standIns := [], harness := (true, "10b98e1241c8aab0db655092ffc0ef91a98127ec9ff9d25a9ceb9a64f5994520"), looks := false }, kinds := [], alts := [], laidByText := true, laidKinds := [.data, .data], laidTests := true, laidLooks := .later }
def FnExactStampHeadCardSaid : Prop := Claim7.holds Tryd.pinned (.plain (OpenSpec.ofChange fnExactStampHeadSpec)) fnExactStampHeadCard

/-- THE TIED CARD OF 'laws.FnExactStampOk'. -/
def fnExactStampOkCard : Claim7 := { stood := { row := fnExactStampOkRow, standIns := [], harness := (true, "10b98e1241c8aab0db655092ffc0ef91a98127ec9ff9d25a9ceb9a64f5994520"), looks := false }, kinds := [], alts := [], laidByText := true, laidKinds := [.data, .data], laidTests := true, laidLooks := .later }
def FnExactStampOkCardSaid : Prop := Claim7.holds Tryd.pinned (.plain (OpenSpec.ofChange fnExactStampOkSpec)) fnExactStampOkCard

/-- THE SECOND FORM's CARD OF 'laws.FnSigns'. -/
def fnSignsUptoCard : Claim7 := { stood := { row := fnSignsUptoRow, standIns := [], harness := (true, "10b98e1241c8aab0db655092ffc0ef91a98127ec9ff9d25a9ceb9a64f5994520"), looks := false }, kinds := [], alts := [], laidByText := true, laidKinds := [.data, .data], laidTests := true, laidLooks := .later }
def FnSignsUptoCardSaid : Prop := Claim7.holds Tryd.pinned (.plain (OpenSpec.upto fnSignsSpec)) fnSignsUptoCard

/-- THE SECOND FORM's CARD OF 'laws.FnSignsOther'. -/
def fnSignsOtherUptoCard : Claim7 := { stood := { row := fnSignsOtherUptoRow, standIns := [], harness := (true, "10b98e1241c8aab0db655092ffc0ef91a98127ec9ff9d25a9ceb9a64f5994520"), looks := false }, kinds := [], alts := [], laidByText := true, laidKinds := [.data, .data], laidTests := true, laidLooks := .later }
def FnSignsOtherUptoCardSaid : Prop := Claim7.holds Tryd.pinned (.plain (OpenSpec.upto fnSignsOtherSpec)) fnSignsOtherUptoCard

/-- THE SECOND FORM's CARD OF 'laws.FnSignsTurned'. -/
def fnSignsTurnedUptoCard : Claim7 := { stood := { row := fnSignsTurnedUptoRow, standIns := [], harness := (true, "10b98e1241c8aab0db655092ffc0ef91a98127ec9ff9d25a9ceb9a64f5994520"), looks := false }, kinds := [], alts := [], laidByText := true, laidKinds := [.data, .data], laidTests := true, laidLooks := .later }
def FnSignsTurnedUptoCardSaid : Prop := Claim7.holds Tryd.pinned (.plain (OpenSpec.upto fnSignsTurnedSpec)) fnSignsTurnedUptoCard

/-- THE SECOND FORM's CARD OF 'laws.FnPools'. -/
def fnPoolsUptoCard : Claim7 := { stood := { row := fnPoolsUptoRow, standIns := [], harness := (true, "10b98e1241c8aab0db655092ffc0ef91a98127ec9ff9d25a9ceb9a64f5994520"), looks := false }, kinds := [], alts := [], laidByText := true, laidKinds := [.data, .data], laidTests := true, laidLooks := .later }
def FnPoolsUptoCardSaid : Prop := Claim7.holds Tryd.pinned (.plain (OpenSpec.upto fnPoolsSpec)) fnPoolsUptoCard

/-- THE SECOND FORM's CARD OF 'laws.FnSeals'. -/
def fnSealsUptoCard : Claim7 := { stood := { row := fnSealsUptoRow, standIns := [], harness := (true, "10b98e1241c8aab0db655092ffc0ef91a98127ec9ff9d25a9ceb9a64f5994520"), looks := false }, kinds := [], alts := [], laidByText := true, laidKinds := [.data, .data], laidTests := true, laidLooks := .later }
def FnSealsUptoCardSaid : Prop := Claim7.holds Tryd.pinned (.plain (OpenSpec.upto fnSealsSpec)) fnSealsUptoCard

/-- THE SECOND FORM's CARD OF 'laws.FnStamps'. -/
def fnStampsUptoCard : Claim7 := { stood := { row := fnStampsUptoRow, standIns := [], harness := (true, "10b98e1241c8aab0db655092ffc0ef91a98127ec9ff9d25a9ceb9a64f5994520"), looks := false }, kinds := [], alts := [], laidByText := true, laidKinds := [.data, .data], laidTests := true, laidLooks := .later }
def FnStampsUptoCardSaid : Prop := Claim7.holds Tryd.pinned (.plain (OpenSpec.upto fnStampsSpec)) fnStampsUptoCard

/-- THE SECOND FORM's CARD OF 'laws.FnExactSigOk'. -/
def fnExactSigOkUptoCard : Claim7 := { stood := { row := fnExactSigOkUptoRow, standIns := [], harness := (true, "10b98e1241c8aab0db655092ffc0ef91a98127ec9ff9d25a9ceb9a64f5994520"), looks := false }, kinds := [], alts := [], laidByText := true, laidKinds := [.data, .data], laidTests := true, laidLooks := .later }
def FnExactSigOkUptoCardSaid : Prop := Claim7.holds Tryd.pinned (.plain (OpenSpec.upto fnExactSigOkSpec)) fnExactSigOkUptoCard

/-- THE SECOND FORM's CARD OF 'laws.FnExactSealHead'. -/
def fnExactSealHeadUptoCard : Claim7 := { stood := { row := fnExactSealHeadUptoRow, standIns := [], harness := (true, "10b98e1241c8aab0db655092ffc0ef91a98127ec9ff9d25a9ceb9a64f5994520"), looks := false }, kinds := [], alts := [], laidByText := true, laidKinds := [.data, .data], laidTests := true, laidLooks := .later }
def FnExactSealHeadUptoCardSaid : Prop := Claim7.holds Tryd.pinned (.plain (OpenSpec.upto fnExactSealHeadSpec)) fnExactSealHeadUptoCard

/-- THE SECOND FORM's CARD OF 'laws.FnExactSealOk'. -/
def fnExactSealOkUptoCard : Claim7 := { stood := { row := fnExactSealOkUptoRow, standIns := [], harness := (true, "10b98e1241c8aab0db655092ffc0ef91a98127ec9ff9d25a9ceb9a64f5994520"), looks := false }, kinds := [], alts := [], laidByText := true, laidKinds := [.data, .data], laidTests := true, laidLooks := .later }
def FnExactSealOkUptoCardSaid : Prop := Claim7.holds Tryd.pinned (.plain (OpenSpec.upto fnExactSealOkSpec)) fnExactSealOkUptoCard

/-- THE SECOND FORM's CARD OF 'laws.FnExactStampHead'. -/
def fnExactStampHeadUptoCard : Claim7 := { stood := { row := fnExactStampHeadUptoRow, standIns := [], harness := (true, "10b98e1241c8aab0db655092ffc0ef91a98127ec9ff9d25a9ceb9a64f5994520"), looks := false }, kinds := [], alts := [], laidByText := true, laidKinds := [.data, .data], laidTests := true, laidLooks := .later }
def FnExactStampHeadUptoCardSaid : Prop := Claim7.holds Tryd.pinned (.plain (OpenSpec.upto fnExactStampHeadSpec)) fnExactStampHeadUptoCard

/-- THE SECOND FORM's CARD OF 'laws.FnExactStampOk'. -/
def fnExactStampOkUptoCard : Claim7 := { stood := { row := fnExactStampOkUptoRow, standIns := [], harness := (true, "10b98e1241c8aab0db655092ffc0ef91a98127ec9ff9d25a9ceb9a64f5994520"), looks := false }, kinds := [], alts := [], laidByText := true, laidKinds := [.data, .data], laidTests := true, laidLooks := .later }
def FnExactStampOkUptoCardSaid : Prop := Claim7.holds Tryd.pinned (.plain (OpenSpec.upto fnExactStampOkSpec)) fnExactStampOkUptoCard
end Rows
end Go.Proofs.YtmfoliocibjdnaaDoor
