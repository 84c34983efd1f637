/-
  DERIVED. GIVEN WITH THE SEED: THE CARDS: each row of YtkgibgadngeddaaDoorRows.lean that lists a variable, with what it lists TIED to the program's text (the seventh form; the later family's looks); each row that meets fmt, with fmt's text TOLD by the authors' own Lean function (tested against real Go, not proved from fmt's source: count such statements apart). THE CARD IS WHAT COUNTS. Prove the row's statement (the work); the ties are given (YtkgibgadngeddaaDoorTie.lean); close each card by the builder's one call (the guide's Derived/Test/ToyasCard.lean, 'card_holds'). Laid BY PROGRAM, IN A SANDBOX (cutbox-door.mjs). By AI agents, Wed Nov 11 2026. No macro, syntax, notation, axiom, sorry.
-/
import Derived.Test.YtkgibgadngeddaaDoorRows
import GoSem.ClaimSeven
namespace Go.Proofs.YtkgibgadngeddaaDoor
namespace Rows

/-- THE TIED CARD OF 'laws.FnExactSecretOf'. -/
def fnExactSecretOfCard : Claim7 := { stood := { row := fnExactSecretOfRow, standIns := [], harness := (true, "35c9be4bc2b31d39444395d360d3f49a7a17784c0e39eb5eec81dbcf10e0da6d"), looks := false }, kinds := [], alts := [], laidByText := true, laidKinds := [.data, .data], laidTests := true, laidLooks := .later }
def FnExactSecretOfCardSaid : Prop := Claim7.holds Tryd.pinned (.plain (OpenSpec.ofChange fnExactSecretOfSpec)) fnExactSecretOfCard

/-- THE TIED CARD OF 'laws.FnExactLockOf'. -/
def fnExactLockOfCard : Claim7 := { stood := { row := fnExactLockOfRow, standIns := [], harness := (true, "35c9be4bc2b31d39444395d360d3f49a7a17784c0e39eb5eec81dbcf10e0da6d"), looks := false }, kinds := [], alts := [], laidByText := true, laidKinds := [.data, .data], laidTests := true, laidLooks := .later }
def FnExactLockOfCardSaid : Prop := Claim7.holds Tryd.pinned (.plain (OpenSpec.ofChange fnExactLockOfSpec)) fnExactLockOfCard

/-- THE TIED CARD OF 'laws.FnExactPublicOf'. -/
def fnExactPublicOfCard : Claim7 := { stood := { row := fnExactPublicOfRow, standIns := [], harness := (true, "35c9be4bc2b31d39444395d360d3f49a7a17784c0e39eb5eec81dbcf10e0da6d"), looks := false }, kinds := [], alts := [], laidByText := true, laidKinds := [.data, .data], laidTests := true, laidLooks := .later }
def FnExactPublicOfCardSaid : Prop := Claim7.holds Tryd.pinned (.plain (OpenSpec.ofChange fnExactPublicOfSpec)) fnExactPublicOfCard

/-- THE TIED CARD OF 'laws.FnExactPoolOf'. -/
def fnExactPoolOfCard : Claim7 := { stood := { row := fnExactPoolOfRow, standIns := [], harness := (true, "35c9be4bc2b31d39444395d360d3f49a7a17784c0e39eb5eec81dbcf10e0da6d"), looks := false }, kinds := [], alts := [], laidByText := true, laidKinds := [.data, .data], laidTests := true, laidLooks := .later }
def FnExactPoolOfCardSaid : Prop := Claim7.holds Tryd.pinned (.plain (OpenSpec.ofChange fnExactPoolOfSpec)) fnExactPoolOfCard

/-- THE TIED CARD OF 'laws.FnExactPoolRoot'. -/
def fnExactPoolRootCard : Claim7 := { stood := { row := fnExactPoolRootRow, standIns := [], harness := (true, "35c9be4bc2b31d39444395d360d3f49a7a17784c0e39eb5eec81dbcf10e0da6d"), looks := false }, kinds := [], alts := [], laidByText := true, laidKinds := [.data, .data], laidTests := true, laidLooks := .later }
def FnExactPoolRootCardSaid : Prop := Claim7.holds Tryd.pinned (.plain (OpenSpec.ofChange fnExactPoolRootSpec)) fnExactPoolRootCard

/-- THE TIED CARD OF 'laws.FnExactSignBitsOf'. -/
def fnExactSignBitsOfCard : Claim7 := { stood := { row := fnExactSignBitsOfRow, standIns := [], harness := (true, "35c9be4bc2b31d39444395d360d3f49a7a17784c0e39eb5eec81dbcf10e0da6d"), looks := false }, kinds := [], alts := [], laidByText := true, laidKinds := [.data, .data], laidTests := true, laidLooks := .later }
def FnExactSignBitsOfCardSaid : Prop := Claim7.holds Tryd.pinned (.plain (OpenSpec.ofChange fnExactSignBitsOfSpec)) fnExactSignBitsOfCard

/-- THE SECOND FORM's CARD OF 'laws.FnExactSecretOf'. -/
def fnExactSecretOfUptoCard : Claim7 := { stood := { row := fnExactSecretOfUptoRow, standIns := [], harness := (true, "35c9be4bc2b31d39444395d360d3f49a7a17784c0e39eb5eec81dbcf10e0da6d"), looks := false }, kinds := [], alts := [], laidByText := true, laidKinds := [.data, .data], laidTests := true, laidLooks := .later }
def FnExactSecretOfUptoCardSaid : Prop := Claim7.holds Tryd.pinned (.plain (OpenSpec.upto fnExactSecretOfSpec)) fnExactSecretOfUptoCard

/-- THE SECOND FORM's CARD OF 'laws.FnExactLockOf'. -/
def fnExactLockOfUptoCard : Claim7 := { stood := { row := fnExactLockOfUptoRow, standIns := [], harness := (true, "35c9be4bc2b31d39444395d360d3f49a7a17784c0e39eb5eec81dbcf10e0da6d"), looks := false }, kinds := [], alts := [], laidByText := true, laidKinds := [.data, .data], laidTests := true, laidLooks := .later }
def FnExactLockOfUptoCardSaid : Prop := Claim7.holds Tryd.pinned (.plain (OpenSpec.upto fnExactLockOfSpec)) fnExactLockOfUptoCard

/-- THE SECOND FORM's CARD OF 'laws.FnExactPublicOf'. -/
def fnExactPublicOfUptoCard : Claim7 := { stood := { row := fnExactPublicOfUptoRow, standIns := [], harness := (true, "35c9be4bc2b31d39444395d360d3f49a7a17784c0e39eb5eec81dbcf10e0da6d"), looks := false }, kinds := [], alts := [], laidByText := true, laidKinds := [.data, .data], laidTests := true, laidLooks := .later }
def FnExactPublicOfUptoCardSaid : Prop := Claim7.holds Tryd.pinned (.plain (OpenSpec.upto fnExactPublicOfSpec)) fnExactPublicOfUptoCard

/-- THE SECOND FORM's CARD OF 'laws.FnExactPoolOf'. -/
def fnExactPoolOfUptoCard : Claim7 := { stood := { row := fnExactPoolOfUptoRow, standIns := [], harness := (true, "35c9be4bc2b31d39444395d360d3f49a7a17784c0e39eb5eec81dbcf10e0da6d"), looks := false }, kinds := [], alts := [], laidByText := true, laidKinds := [.data, .data], laidTests := true, laidLooks := .later }
def FnExactPoolOfUptoCardSaid : Prop := Claim7.holds Tryd.pinned (.plain (OpenSpec.upto fnExactPoolOfSpec)) fnExactPoolOfUptoCard

/-- THE SECOND FORM's CARD OF 'laws.FnExactPoolRoot'. -/
def fnExactPoolRootUptoCard : Claim7 := { stood := { row := fnExactPoolRootUptoRow, standIns := [], harness := (true, "35c9be4bc2b31d39444395d360d3f49a7a17784c0e39eb5eec81dbcf10e0da6d"), looks := false }, kinds := [], alts := [], laidByText := true, laidKinds := [.data, .data], laidTests := true, laidLooks := .later }
def FnExactPoolRootUptoCardSaid : Prop := Claim7.holds Tryd.pinned (.plain (OpenSpec.upto fnExactPoolRootSpec)) fnExactPoolRootUptoCard

/-- THE SECOND FORM's CARD OF 'laws.FnExactSignBitsOf'. -/
def fnExactSignBitsOfUptoCard : Claim7 := { stood := { row := fnExactSignBitsOfUptoRow, standIns := [], harness := (true, "35c9be4bc2b31d39444395d360d3f49a7a17784c0e39eb5eec81dbcf10e0da6d"), looks := false }, kinds := [], alts := [], laidByText := true, laidKinds := [.data, .data], laidTests := true, laidLooks := .later }
def FnExactSignBitsOfUptoCardSaid : Prop := Claim7.holds Tryd.pinned (.plain (OpenSpec.upto fnExactSignBitsOfSpec)) fnExactSignBitsOfUptoCard
end Rows
end Go.Proofs.YtkgibgadngeddaaDoor
