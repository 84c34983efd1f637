/-
  DERIVED. GIVEN WITH THE SEED: THE CARDS: each row of YthkknckpippjhaaDoorRows.lean that lists a variable, with what it lists TIED to the program's text (the seventh form; the later family's looks); each row that meets fmt, with fmt's text TOLD by the authors' own Lean function (tested against real Go, not proved from fmt's source: count such statements apart). THE CARD IS WHAT COUNTS. Prove the row's statement (the work); the ties are given (YthkknckpippjhaaDoorTie.lean); close each card by the builder's one call (the guide's Derived/Test/ToyasCard.lean, 'card_holds'). Laid BY PROGRAM, IN A SANDBOX (cutbox-door.mjs). By AI agents, Wed Nov 11 2026. No macro, syntax, notation, axiom, sorry.
-/
import Derived.Test.YthkknckpippjhaaDoorRows
import GoSem.ClaimSeven
namespace Go.Proofs.YthkknckpippjhaaDoor
namespace Rows

/-- THE TIED CARD OF 'laws.FnExactSecretOf'. -/
def fnExactSecretOfCard : Claim7 := { stood := { row := fnExactSecretOfRow, standIns := [], harness := (true, "bf7d158ad79306f0e9f4e816cf7ac19370fb9aea611792a197ddefe37999951e"), looks := false }, kinds := [], alts := [], laidByText := true, laidKinds := [.data, .data], laidTests := true, laidLooks := .later }
def FnExactSecretOfCardSaid : Prop := Claim7.holds Tryd.pinned (.plain (OpenSpec.ofChange fnExactSecretOfSpec)) fnExactSecretOfCard

/-- THE TIED CARD OF 'laws.FnExactLockOf'. -/
def fnExactLockOfCard : Claim7 := { stood := { row := fnExactLockOfRow, standIns := [], harness := (true, "bf7d158ad79306f0e9f4e816cf7ac19370fb9aea611792a197ddefe37999951e"), looks := false }, kinds := [], alts := [], laidByText := true, laidKinds := [.data, .data], laidTests := true, laidLooks := .later }
def FnExactLockOfCardSaid : Prop := Claim7.holds Tryd.pinned (.plain (OpenSpec.ofChange fnExactLockOfSpec)) fnExactLockOfCard

/-- THE TIED CARD OF 'laws.FnExactPublicOf'. -/
def fnExactPublicOfCard : Claim7 := { stood := { row := fnExactPublicOfRow, standIns := [], harness := (true, "bf7d158ad79306f0e9f4e816cf7ac19370fb9aea611792a197ddefe37999951e"), looks := false }, kinds := [], alts := [], laidByText := true, laidKinds := [.data, .data], laidTests := true, laidLooks := .later }
def FnExactPublicOfCardSaid : Prop := Claim7.holds Tryd.pinned (.plain (OpenSpec.ofChange fnExactPublicOfSpec)) fnExactPublicOfCard

/-- THE TIED CARD OF 'laws.FnExactPoolOf'. -/
def fnExactPoolOfCard : Claim7 := { stood := { row := fnExactPoolOfRow, standIns := [], harness := (true, "bf7d158ad79306f0e9f4e816cf7ac19370fb9aea611792a197ddefe37999951e"), looks := false }, kinds := [], alts := [], laidByText := true, laidKinds := [.data, .data], laidTests := true, laidLooks := .later }
def FnExactPoolOfCardSaid : Prop := Claim7.holds Tryd.pinned (.plain (OpenSpec.ofChange fnExactPoolOfSpec)) fnExactPoolOfCard

/-- THE TIED CARD OF 'laws.FnExactPoolRoot'. -/
def fnExactPoolRootCard : Claim7 := { stood := { row := fnExactPoolRootRow, standIns := [], harness := (true, "bf7d158ad79306f0e9f4e816cf7ac19370fb9aea611792a197ddefe37999951e"), looks := false }, kinds := [], alts := [], laidByText := true, laidKinds := [.data, .data], laidTests := true, laidLooks := .later }
def FnExactPoolRootCardSaid : Prop := Claim7.holds Tryd.pinned (.plain (OpenSpec.ofChange fnExactPoolRootSpec)) fnExactPoolRootCard

/-- THE TIED CARD OF 'laws.FnExactSignBitsOf'. -/
def fnExactSignBitsOfCard : Claim7 := { stood := { row := fnExactSignBitsOfRow, standIns := [], harness := (true, "bf7d158ad79306f0e9f4e816cf7ac19370fb9aea611792a197ddefe37999951e"), looks := false }, kinds := [], alts := [], laidByText := true, laidKinds := [.data, .data], laidTests := true, laidLooks := .later }
def FnExactSignBitsOfCardSaid : Prop := Claim7.holds Tryd.pinned (.plain (OpenSpec.ofChange fnExactSignBitsOfSpec)) fnExactSignBitsOfCard

/-- THE TIED CARD OF 'laws.FnExactSignText'. -/
def fnExactSignTextCard : Claim7 := { stood := { row := fnExactSignTextRow, standIns := [], harness := (true, "bf7d158ad79306f0e9f4e816cf7ac19370fb9aea611792a197ddefe37999951e"), looks := false }, kinds := [], alts := [], laidByText := true, laidKinds := [.data, .data], laidTests := true, laidLooks := .later }
def FnExactSignTextCardSaid : Prop := Claim7.holds Tryd.pinned (.plain (OpenSpec.ofChange fnExactSignTextSpec)) fnExactSignTextCard

/-- THE TIED CARD OF 'laws.FnExactSigOk'. -/
def fnExactSigOkCard : Claim7 := { stood := { row := fnExactSigOkRow, standIns := [], harness := (true, "bf7d158ad79306f0e9f4e816cf7ac19370fb9aea611792a197ddefe37999951e"), looks := false }, kinds := [], alts := [], laidByText := true, laidKinds := [.data, .data], laidTests := true, laidLooks := .later }
def FnExactSigOkCardSaid : Prop := Claim7.holds Tryd.pinned (.plain (OpenSpec.ofChange fnExactSigOkSpec)) fnExactSigOkCard

/-- THE TIED CARD OF 'laws.FnExactSigTexts'. -/
def fnExactSigTextsCard : Claim7 := { stood := { row := fnExactSigTextsRow, standIns := [], harness := (true, "bf7d158ad79306f0e9f4e816cf7ac19370fb9aea611792a197ddefe37999951e"), looks := false }, kinds := [], alts := [], laidByText := true, laidKinds := [.data, .data], laidTests := true, laidLooks := .later }
def FnExactSigTextsCardSaid : Prop := Claim7.holds Tryd.pinned (.plain (OpenSpec.ofChange fnExactSigTextsSpec)) fnExactSigTextsCard

/-- THE TIED CARD OF 'laws.FnPools'. -/
def fnPoolsCard : Claim7 := { stood := { row := fnPoolsRow, standIns := [], harness := (true, "bf7d158ad79306f0e9f4e816cf7ac19370fb9aea611792a197ddefe37999951e"), looks := false }, kinds := [], alts := [], laidByText := true, laidKinds := [.data, .data], laidTests := true, laidLooks := .later }
def FnPoolsCardSaid : Prop := Claim7.holds Tryd.pinned (.plain (OpenSpec.ofChange fnPoolsSpec)) fnPoolsCard

/-- THE TIED CARD OF 'laws.FnSigns'. -/
def fnSignsCard : Claim7 := { stood := { row := fnSignsRow, standIns := [], harness := (true, "bf7d158ad79306f0e9f4e816cf7ac19370fb9aea611792a197ddefe37999951e"), looks := false }, kinds := [], alts := [], laidByText := true, laidKinds := [.data, .data], laidTests := true, laidLooks := .later }
def FnSignsCardSaid : Prop := Claim7.holds Tryd.pinned (.plain (OpenSpec.ofChange fnSignsSpec)) fnSignsCard

/-- THE TIED CARD OF 'laws.FnSignsOther'. -/
def fnSignsOtherCard : Claim7 := { stood := { row := fnSignsOtherRow, standIns := [], harness := (true, "bf7d158ad79306f0e9f4e816cf7ac19370fb9aea611792a197ddefe37999951e"), looks := false }, kinds := [], alts := [], laidByText := true, laidKinds := [.data, .data], laidTests := true, laidLooks := .later }
def FnSignsOtherCardSaid : Prop := Claim7.holds Tryd.pinned (.plain (OpenSpec.ofChange fnSignsOtherSpec)) fnSignsOtherCard

/-- THE TIED CARD OF 'laws.FnSignsTurned'. -/
def fnSignsTurnedCard : Claim7 := { stood := { row := fnSignsTurnedRow, standIns := [], harness := (true, "bf7d158ad79306f0e9f4e816cf7ac19370fb9aea611792a197ddefe37999951e"), looks := false }, kinds := [], alts := [], laidByText := true, laidKinds := [.data, .data], laidTests := true, laidLooks := .later }
def FnSignsTurnedCardSaid : Prop := Claim7.holds Tryd.pinned (.plain (OpenSpec.ofChange fnSignsTurnedSpec)) fnSignsTurnedCard

/-- THE SECOND FORM's CARD OF 'laws.FnExactSecretOf'. -/
def fnExactSecretOfUptoCard : Claim7 := { stood := { row := fnExactSecretOfUptoRow, standIns := [], harness := (true, "bf7d158ad79306f0e9f4e816cf7ac19370fb9aea611792a197ddefe37999951e"), looks := false }, kinds := [], alts := [], laidByText := true, laidKinds := [.data, .data], laidTests := true, laidLooks := .later }
def FnExactSecretOfUptoCardSaid : Prop := Claim7.holds Tryd.pinned (.plain (OpenSpec.upto fnExactSecretOfSpec)) fnExactSecretOfUptoCard

/-- THE SECOND FORM's CARD OF 'laws.FnExactLockOf'. -/
def fnExactLockOfUptoCard : Claim7 := { stood := { row := fnExactLockOfUptoRow, standIns := [], harness := (true, "bf7d158ad79306f0e9f4e816cf7ac19370fb9aea611792a197ddefe37999951e"), looks := false }, kinds := [], alts := [], laidByText := true, laidKinds := [.data, .data], laidTests := true, laidLooks := .later }
def FnExactLockOfUptoCardSaid : Prop := Claim7.holds Tryd.pinned (.plain (OpenSpec.upto fnExactLockOfSpec)) fnExactLockOfUptoCard

/-- THE SECOND FORM's CARD OF 'laws.FnExactPublicOf'. -/
def fnExactPublicOfUptoCard : Claim7 := { stood := { row := fnExactPublicOfUptoRow, standIns := [], harness := (true, "bf7d158ad79306f0e9f4e816cf7ac19370fb9aea611792a197ddefe37999951e"), looks := false }, kinds := [], alts := [], laidByText := true, laidKinds := [.data, .data], laidTests := true, laidLooks := .later }
def FnExactPublicOfUptoCardSaid : Prop := Claim7.holds Tryd.pinned (.plain (OpenSpec.upto fnExactPublicOfSpec)) fnExactPublicOfUptoCard

/-- THE SECOND FORM's CARD OF 'laws.FnExactPoolOf'. -/
def fnExactPoolOfUptoCard : Claim7 := { stood := { row := fnExactPoolOfUptoRow, standIns := [], harness := (true, "bf7d158ad79306f0e9f4e816cf7ac19370fb9aea611792a197ddefe37999951e"), looks := false }, kinds := [], alts := [], laidByText := true, laidKinds := [.data, .data], laidTests := true, laidLooks := .later }
def FnExactPoolOfUptoCardSaid : Prop := Claim7.holds Tryd.pinned (.plain (OpenSpec.upto fnExactPoolOfSpec)) fnExactPoolOfUptoCard

/-- THE SECOND FORM's CARD OF 'laws.FnExactPoolRoot'. -/
def fnExactPoolRootUptoCard : Claim7 := { stood := { row := fnExactPoolRootUptoRow, standIns := [], harness := (true, "bf7d158ad79306f0e9f4e816cf7ac19370fb9aea611792a197ddefe37999951e"), looks := false }, kinds := [], alts := [], laidByText := true, laidKinds := [.data, .data], laidTests := true, laidLooks := .later }
def FnExactPoolRootUptoCardSaid : Prop := Claim7.holds Tryd.pinned (.plain (OpenSpec.upto fnExactPoolRootSpec)) fnExactPoolRootUptoCard

/-- THE SECOND FORM's CARD OF 'laws.FnExactSignBitsOf'. -/
def fnExactSignBitsOfUptoCard : Claim7 := { stood := { row := fnExactSignBitsOfUptoRow, standIns := [], harness := (true, "bf7d158ad79306f0e9f4e816cf7ac19370fb9aea611792a197ddefe37999951e"), looks := false }, kinds := [], alts := [], laidByText := true, laidKinds := [.data, .data], laidTests := true, laidLooks := .later }
def FnExactSignBitsOfUptoCardSaid : Prop := Claim7.holds Tryd.pinned (.plain (OpenSpec.upto fnExactSignBitsOfSpec)) fnExactSignBitsOfUptoCard

/-- THE SECOND FORM's CARD OF 'laws.FnExactSignText'. -/
def fnExactSignTextUptoCard : Claim7 := { stood := { row := fnExactSignTextUptoRow, standIns := [], harness := (true, "bf7d158ad79306f0e9f4e816cf7ac19370fb9aea611792a197ddefe37999951e"), looks := false }, kinds := [], alts := [], laidByText := true, laidKinds := [.data, .data], laidTests := true, laidLooks := .later }
def FnExactSignTextUptoCardSaid : Prop := Claim7.holds Tryd.pinned (.plain (OpenSpec.upto fnExactSignTextSpec)) fnExactSignTextUptoCard

/-- THE SECOND FORM's CARD OF 'laws.FnExactSigOk'. -/
def fnExactSigOkUptoCard : Claim7 := { stood := { row := fnExactSigOkUptoRow, standIns := [], harness := (true, "bf7d158ad79306f0e9f4e816cf7ac19370fb9aea611792a197ddefe37999951e"), looks := false }, kinds := [], alts := [], laidByText := true, laidKinds := [.data, .data], laidTests := true, laidLooks := .later }
def FnExactSigOkUptoCardSaid : Prop := Claim7.holds Tryd.pinned (.plain (OpenSpec.upto fnExactSigOkSpec)) fnExactSigOkUptoCard

/-- THE SECOND FORM's CARD OF 'laws.FnExactSigTexts'. -/
def fnExactSigTextsUptoCard : Claim7 := { stood := { row := fnExactSigTextsUptoRow, standIns := [], harness := (true, "bf7d158ad79306f0e9f4e816cf7ac19370fb9aea611792a197ddefe37999951e"), looks := false }, kinds := [], alts := [], laidByText := true, laidKinds := [.data, .data], laidTests := true, laidLooks := .later }
def FnExactSigTextsUptoCardSaid : Prop := Claim7.holds Tryd.pinned (.plain (OpenSpec.upto fnExactSigTextsSpec)) fnExactSigTextsUptoCard

/-- THE SECOND FORM's CARD OF 'laws.FnPools'. -/
def fnPoolsUptoCard : Claim7 := { stood := { row := fnPoolsUptoRow, standIns := [], harness := (true, "bf7d158ad79306f0e9f4e816cf7ac19370fb9aea611792a197ddefe37999951e"), looks := false }, kinds := [], alts := [], laidByText := true, laidKinds := [.data, .data], laidTests := true, laidLooks := .later }
def FnPoolsUptoCardSaid : Prop := Claim7.holds Tryd.pinned (.plain (OpenSpec.upto fnPoolsSpec)) fnPoolsUptoCard

/-- THE SECOND FORM's CARD OF 'laws.FnSigns'. -/
def fnSignsUptoCard : Claim7 := { stood := { row := fnSignsUptoRow, standIns := [], harness := (true, "bf7d158ad79306f0e9f4e816cf7ac19370fb9aea611792a197ddefe37999951e"), looks := false }, kinds := [], alts := [], laidByText := true, laidKinds := [.data, .data], laidTests := true, laidLooks := .later }
def FnSignsUptoCardSaid : Prop := Claim7.holds Tryd.pinned (.plain (OpenSpec.upto fnSignsSpec)) fnSignsUptoCard

/-- THE SECOND FORM's CARD OF 'laws.FnSignsOther'. -/
def fnSignsOtherUptoCard : Claim7 := { stood := { row := fnSignsOtherUptoRow, standIns := [], harness := (true, "bf7d158ad79306f0e9f4e816cf7ac19370fb9aea611792a197ddefe37999951e"), looks := false }, kinds := [], alts := [], laidByText := true, laidKinds := [.data, .data], laidTests := true, laidLooks := .later }
def FnSignsOtherUptoCardSaid : Prop := Claim7.holds Tryd.pinned (.plain (OpenSpec.upto fnSignsOtherSpec)) fnSignsOtherUptoCard

/-- THE SECOND FORM's CARD OF 'laws.FnSignsTurned'. -/
def fnSignsTurnedUptoCard : Claim7 := { stood := { row := fnSignsTurnedUptoRow, standIns := [], harness := (true, "bf7d158ad79306f0e9f4e816cf7ac19370fb9aea611792a197ddefe37999951e"), looks := false }, kinds := [], alts := [], laidByText := true, laidKinds := [.data, .data], laidTests := true, laidLooks := .later }
def FnSignsTurnedUptoCardSaid : Prop := Claim7.holds Tryd.pinned (.plain (OpenSpec.upto fnSignsTurnedSpec)) fnSignsTurnedUptoCard
end Rows
end Go.Proofs.YthkknckpippjhaaDoor
