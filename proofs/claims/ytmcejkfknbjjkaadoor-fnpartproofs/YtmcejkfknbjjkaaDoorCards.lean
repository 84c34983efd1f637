/-
  DERIVED. GIVEN WITH THE SEED: THE CARDS: each row of YtmcejkfknbjjkaaDoorRows.lean that lists a variable, with what it lists TIED to the program's text (the seventh form; the later family's looks); each row that meets fmt, with fmt's text TOLD by the authors' own Lean function (tested against real Go, not proved from fmt's source: count such statements apart). THE CARD IS WHAT COUNTS. Prove the row's statement (the work); the ties are given (YtmcejkfknbjjkaaDoorTie.lean); close each card by the builder's one call (the guide's Derived/Test/ToyasCard.lean, 'card_holds'). Laid BY PROGRAM, IN A SANDBOX (cutbox-door.mjs). By AI agents, Wed Nov 11 2026. No macro, syntax, notation, axiom, sorry.
-/
import Derived.Test.YtmcejkfknbjjkaaDoorRows
import GoSem.ClaimSeven
namespace Go.Proofs.YtmcejkfknbjjkaaDoor
namespace Rows

/-- THE TIED CARD OF 'laws.FnPartProofs'. -/
def fnPartProofsCard : Claim7 := { stood := { row := fnPartProofsRow, standIns := [], harness := (true, "1f4ac73ccfc6297f7cabd8888687d32463b27a370ab1458383e1afa488afc086"), looks := false }, kinds := [], alts := [], laidByText := true, laidKinds := [.data, .data], laidTests := true, laidLooks := .later }
def FnPartProofsCardSaid : Prop := Claim7.holds Tryd.pinned (.plain (OpenSpec.ofChange fnPartProofsSpec)) fnPartProofsCard

/-- THE TIED CARD OF 'laws.FnExactShardOf'. -/
def fnExactShardOfCard : Claim7 := { stood := { row := fnExactShardOfRow, standIns := [], harness := (true, "1f4ac73ccfc6297f7cabd8888687d32463b27a370ab1458383e1afa488afc086"), looks := false }, kinds := [], alts := [], laidByText := true, laidKinds := [.data, .data], laidTests := true, laidLooks := .later }
def FnExactShardOfCardSaid : Prop := Claim7.holds Tryd.pinned (.plain (OpenSpec.ofChange fnExactShardOfSpec)) fnExactShardOfCard

/-- THE TIED CARD OF 'laws.FnExactShardLeaves'. -/
def fnExactShardLeavesCard : Claim7 := { stood := { row := fnExactShardLeavesRow, standIns := [], harness := (true, "1f4ac73ccfc6297f7cabd8888687d32463b27a370ab1458383e1afa488afc086"), looks := false }, kinds := [], alts := [], laidByText := true, laidKinds := [.data, .data], laidTests := true, laidLooks := .later }
def FnExactShardLeavesCardSaid : Prop := Claim7.holds Tryd.pinned (.plain (OpenSpec.ofChange fnExactShardLeavesSpec)) fnExactShardLeavesCard

/-- THE TIED CARD OF 'laws.FnExactShardRoot'. -/
def fnExactShardRootCard : Claim7 := { stood := { row := fnExactShardRootRow, standIns := [], harness := (true, "1f4ac73ccfc6297f7cabd8888687d32463b27a370ab1458383e1afa488afc086"), looks := false }, kinds := [], alts := [], laidByText := true, laidKinds := [.data, .data], laidTests := true, laidLooks := .later }
def FnExactShardRootCardSaid : Prop := Claim7.holds Tryd.pinned (.plain (OpenSpec.ofChange fnExactShardRootSpec)) fnExactShardRootCard

/-- THE TIED CARD OF 'laws.FnExactCombineRoots'. -/
def fnExactCombineRootsCard : Claim7 := { stood := { row := fnExactCombineRootsRow, standIns := [], harness := (true, "1f4ac73ccfc6297f7cabd8888687d32463b27a370ab1458383e1afa488afc086"), looks := false }, kinds := [], alts := [], laidByText := true, laidKinds := [.data, .data], laidTests := true, laidLooks := .later }
def FnExactCombineRootsCardSaid : Prop := Claim7.holds Tryd.pinned (.plain (OpenSpec.ofChange fnExactCombineRootsSpec)) fnExactCombineRootsCard

/-- THE TIED CARD OF 'laws.FnExactCombineSides'. -/
def fnExactCombineSidesCard : Claim7 := { stood := { row := fnExactCombineSidesRow, standIns := [], harness := (true, "1f4ac73ccfc6297f7cabd8888687d32463b27a370ab1458383e1afa488afc086"), looks := false }, kinds := [], alts := [], laidByText := true, laidKinds := [.data, .data], laidTests := true, laidLooks := .later }
def FnExactCombineSidesCardSaid : Prop := Claim7.holds Tryd.pinned (.plain (OpenSpec.ofChange fnExactCombineSidesSpec)) fnExactCombineSidesCard

/-- THE SECOND FORM's CARD OF 'laws.FnPartProofs'. -/
def fnPartProofsUptoCard : Claim7 := { stood := { row := fnPartProofsUptoRow, standIns := [], harness := (true, "1f4ac73ccfc6297f7cabd8888687d32463b27a370ab1458383e1afa488afc086"), looks := false }, kinds := [], alts := [], laidByText := true, laidKinds := [.data, .data], laidTests := true, laidLooks := .later }
def FnPartProofsUptoCardSaid : Prop := Claim7.holds Tryd.pinned (.plain (OpenSpec.upto fnPartProofsSpec)) fnPartProofsUptoCard

/-- THE SECOND FORM's CARD OF 'laws.FnExactShardOf'. -/
def fnExactShardOfUptoCard : Claim7 := { stood := { row := fnExactShardOfUptoRow, standIns := [], harness := (true, "1f4ac73ccfc6297f7cabd8888687d32463b27a370ab1458383e1afa488afc086"), looks := false }, kinds := [], alts := [], laidByText := true, laidKinds := [.data, .data], laidTests := true, laidLooks := .later }
def FnExactShardOfUptoCardSaid : Prop := Claim7.holds Tryd.pinned (.plain (OpenSpec.upto fnExactShardOfSpec)) fnExactShardOfUptoCard

/-- THE SECOND FORM's CARD OF 'laws.FnExactShardLeaves'. -/
def fnExactShardLeavesUptoCard : Claim7 := { stood := { row := fnExactShardLeavesUptoRow, standIns := [], harness := (true, "1f4ac73ccfc6297f7cabd8888687d32463b27a370ab1458383e1afa488afc086"), looks := false }, kinds := [], alts := [], laidByText := true, laidKinds := [.data, .data], laidTests := true, laidLooks := .later }
def FnExactShardLeavesUptoCardSaid : Prop := Claim7.holds Tryd.pinned (.plain (OpenSpec.upto fnExactShardLeavesSpec)) fnExactShardLeavesUptoCard

/-- THE SECOND FORM's CARD OF 'laws.FnExactShardRoot'. -/
def fnExactShardRootUptoCard : Claim7 := { stood := { row := fnExactShardRootUptoRow, standIns := [], harness := (true, "1f4ac73ccfc6297f7cabd8888687d32463b27a370ab1458383e1afa488afc086"), looks := false }, kinds := [], alts := [], laidByText := true, laidKinds := [.data, .data], laidTests := true, laidLooks := .later }
def FnExactShardRootUptoCardSaid : Prop := Claim7.holds Tryd.pinned (.plain (OpenSpec.upto fnExactShardRootSpec)) fnExactShardRootUptoCard

/-- THE SECOND FORM's CARD OF 'laws.FnExactCombineRoots'. -/
def fnExactCombineRootsUptoCard : Claim7 := { stood := { row := fnExactCombineRootsUptoRow, standIns := [], harness := (true, "1f4ac73ccfc6297f7cabd8888687d32463b27a370ab1458383e1afa488afc086"), looks := false }, kinds := [], alts := [], laidByText := true, laidKinds := [.data, .data], laidTests := true, laidLooks := .later }
def FnExactCombineRootsUptoCardSaid : Prop := Claim7.holds Tryd.pinned (.plain (OpenSpec.upto fnExactCombineRootsSpec)) fnExactCombineRootsUptoCard

/-- THE SECOND FORM's CARD OF 'laws.FnExactCombineSides'. -/
def fnExactCombineSidesUptoCard : Claim7 := { stood := { row := fnExactCombineSidesUptoRow, standIns := [], harness := (true, "1f4ac73ccfc6297f7cabd8888687d32463b27a370ab1458383e1afa488afc086"), looks := false }, kinds := [], alts := [], laidByText := true, laidKinds := [.data, .data], laidTests := true, laidLooks := .later }
def FnExactCombineSidesUptoCardSaid : Prop := Claim7.holds Tryd.pinned (.plain (OpenSpec.upto fnExactCombineSidesSpec)) fnExactCombineSidesUptoCard
end Rows
end Go.Proofs.YtmcejkfknbjjkaaDoor
