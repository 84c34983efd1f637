/-
  DERIVED. GIVEN WITH THE SEED: THE CARDS: each row of YtlpbfafcaleifaaDoorRows.lean that lists a variable, with what it lists TIED to the program's text (the seventh form; the later family's looks); each row that meets fmt, with fmt's text TOLD by the authors' own Lean function (tested against real Go, not proved from fmt's source: count such statements apart). THE CARD IS WHAT COUNTS. Prove the row's statement (the work); the ties are given (YtlpbfafcaleifaaDoorTie.lean); close each card by the builder's one call (the guide's Derived/Test/ToyasCard.lean, 'card_holds'). Laid BY PROGRAM, IN A SANDBOX (cutbox-door.mjs). By AI agents, Wed Nov 11 2026. No macro, syntax, notation, axiom, sorry.
-/
import Derived.Test.YtlpbfafcaleifaaDoorRows
import GoSem.ClaimSeven
namespace Go.Proofs.YtlpbfafcaleifaaDoor
namespace Rows

/-- THE TIED CARD OF 'laws.FnChains'. -/
def fnChainsCard : Claim7 := { stood := { row := fnChainsRow, standIns := [], harness := (true, "c6ca9b7ccb8d873260fb3063b873aa582f43531475a9c9f167eeed75e9a0c4de"), looks := false }, kinds := [], alts := [], laidByText := true, laidKinds := [.data, .data], laidTests := true, laidLooks := .later }
def FnChainsCardSaid : Prop := Claim7.holds Tryd.pinned (.plain (OpenSpec.ofChange fnChainsSpec)) fnChainsCard

/-- THE TIED CARD OF 'laws.FnHeads'. -/
def fnHeadsCard : Claim7 := { stood := { row := fnHeadsRow, standIns := [], harness := (true, "c6ca9b7ccb8d873260fb3063b873aa582f43531475a9c9f167eeed75e9a0c4de"), looks := false }, kinds := [], alts := [], laidByText := true, laidKinds := [.data, .data], laidTests := true, laidLooks := .later }
def FnHeadsCardSaid : Prop := Claim7.holds Tryd.pinned (.plain (OpenSpec.ofChange fnHeadsSpec)) fnHeadsCard

/-- THE TIED CARD OF 'laws.FnExactHeadHash'. -/
def fnExactHeadHashCard : Claim7 := { stood := { row := fnExactHeadHashRow, standIns := [], harness := (true, "c6ca9b7ccb8d873260fb3063b873aa582f43531475a9c9f167eeed75e9a0c4de"), looks := false }, kinds := [], alts := [], laidByText := true, laidKinds := [.data, .data], laidTests := true, laidLooks := .later }
def FnExactHeadHashCardSaid : Prop := Claim7.holds Tryd.pinned (.plain (OpenSpec.ofChange fnExactHeadHashSpec)) fnExactHeadHashCard

/-- THE TIED CARD OF 'laws.FnExactNextHead'. -/
def fnExactNextHeadCard : Claim7 := { stood := { row := fnExactNextHeadRow, standIns := [], harness := (true, "c6ca9b7ccb8d873260fb3063b873aa582f43531475a9c9f167eeed75e9a0c4de"), looks := false }, kinds := [], alts := [], laidByText := true, laidKinds := [.data, .data], laidTests := true, laidLooks := .later }
def FnExactNextHeadCardSaid : Prop := Claim7.holds Tryd.pinned (.plain (OpenSpec.ofChange fnExactNextHeadSpec)) fnExactNextHeadCard

/-- THE TIED CARD OF 'laws.FnExactChainOk'. -/
def fnExactChainOkCard : Claim7 := { stood := { row := fnExactChainOkRow, standIns := [], harness := (true, "c6ca9b7ccb8d873260fb3063b873aa582f43531475a9c9f167eeed75e9a0c4de"), looks := false }, kinds := [], alts := [], laidByText := true, laidKinds := [.data, .data], laidTests := true, laidLooks := .later }
def FnExactChainOkCardSaid : Prop := Claim7.holds Tryd.pinned (.plain (OpenSpec.ofChange fnExactChainOkSpec)) fnExactChainOkCard

/-- THE SECOND FORM's CARD OF 'laws.FnChains'. -/
def fnChainsUptoCard : Claim7 := { stood := { row := fnChainsUptoRow, standIns := [], harness := (true, "c6ca9b7ccb8d873260fb3063b873aa582f43531475a9c9f167eeed75e9a0c4de"), looks := false }, kinds := [], alts := [], laidByText := true, laidKinds := [.data, .data], laidTests := true, laidLooks := .later }
def FnChainsUptoCardSaid : Prop := Claim7.holds Tryd.pinned (.plain (OpenSpec.upto fnChainsSpec)) fnChainsUptoCard

/-- THE SECOND FORM's CARD OF 'laws.FnHeads'. -/
def fnHeadsUptoCard : Claim7 := { stood := { row := fnHeadsUptoRow, standIns := [], harness := (true, "c6ca9b7ccb8d873260fb3063b873aa582f43531475a9c9f167eeed75e9a0c4de"), looks := false }, kinds := [], alts := [], laidByText := true, laidKinds := [.data, .data], laidTests := true, laidLooks := .later }
def FnHeadsUptoCardSaid : Prop := Claim7.holds Tryd.pinned (.plain (OpenSpec.upto fnHeadsSpec)) fnHeadsUptoCard

/-- THE SECOND FORM's CARD OF 'laws.FnExactHeadHash'. -/
def fnExactHeadHashUptoCard : Claim7 := { stood := { row := fnExactHeadHashUptoRow, standIns := [], harness := (true, "c6ca9b7ccb8d873260fb3063b873aa582f43531475a9c9f167eeed75e9a0c4de"), looks := false }, kinds := [], alts := [], laidByText := true, laidKinds := [.data, .data], laidTests := true, laidLooks := .later }
def FnExactHeadHashUptoCardSaid : Prop := Claim7.holds Tryd.pinned (.plain (OpenSpec.upto fnExactHeadHashSpec)) fnExactHeadHashUptoCard

/-- THE SECOND FORM's CARD OF 'laws.FnExactNextHead'. -/
def fnExactNextHeadUptoCard : Claim7 := { stood := { row := fnExactNextHeadUptoRow, standIns := [], harness := (true, "c6ca9b7ccb8d873260fb3063b873aa582f43531475a9c9f167eeed75e9a0c4de"), looks := false }, kinds := [], alts := [], laidByText := true, laidKinds := [.data, .data], laidTests := true, laidLooks := .later }
def FnExactNextHeadUptoCardSaid : Prop := Claim7.holds Tryd.pinned (.plain (OpenSpec.upto fnExactNextHeadSpec)) fnExactNextHeadUptoCard

/-- THE SECOND FORM's CARD OF 'laws.FnExactChainOk'. -/
def fnExactChainOkUptoCard : Claim7 := { stood := { row := fnExactChainOkUptoRow, standIns := [], harness := (true, "c6ca9b7ccb8d873260fb3063b873aa582f43531475a9c9f167eeed75e9a0c4de"), looks := false }, kinds := [], alts := [], laidByText := true, laidKinds := [.data, .data], laidTests := true, laidLooks := .later }
def FnExactChainOkUptoCardSaid : Prop := Claim7.holds Tryd.pinned (.plain (OpenSpec.upto fnExactChainOkSpec)) fnExactChainOkUptoCard
end Rows
end Go.Proofs.YtlpbfafcaleifaaDoor
