/-
  DERIVED. GIVEN WITH THE SEED: THE CARDS: each row of YtmhoilliaeefcaaDoorRows.lean that lists a variable, with what it lists TIED to the program's text (the seventh form; the later family's looks); each row that meets fmt, with fmt's text TOLD by the authors' own Lean function (tested against real Go, not proved from fmt's source: count such statements apart). THE CARD IS WHAT COUNTS. Prove the row's statement (the work); the ties are given (YtmhoilliaeefcaaDoorTie.lean); close each card by the builder's one call (the guide's Derived/Test/ToyasCard.lean, 'card_holds'). Laid BY PROGRAM, IN A SANDBOX (cutbox-door.mjs). By AI agents, Wed Nov 11 2026. No macro, syntax, notation, axiom, sorry.
-/
import Derived.Test.YtmhoilliaeefcaaDoorRows
import GoSem.ClaimSeven
namespace Go.Proofs.YtmhoilliaeefcaaDoor
namespace Rows

/-- THE TIED CARD OF 'laws.FnRoots'. -/
def fnRootsCard : Claim7 := { stood := { row := fnRootsRow, standIns := [], harness := (true, "f5330c62e8b094d6bcaba0dd4c1e960ea5bc89dd09eecf4af058bcb620c200a5"), looks := true }, kinds := [], alts := [], laidByText := true, laidKinds := [.data, .data], laidTests := true, laidLooks := .later }
def FnRootsCardSaid : Prop := Claim7.holds Tryd.pinned (.plain (OpenSpec.ofChange fnRootsSpec)) fnRootsCard

/-- THE TIED CARD OF 'laws.FnNodes'. -/
def fnNodesCard : Claim7 := { stood := { row := fnNodesRow, standIns := [], harness := (true, "f5330c62e8b094d6bcaba0dd4c1e960ea5bc89dd09eecf4af058bcb620c200a5"), looks := true }, kinds := [], alts := [], laidByText := true, laidKinds := [.data, .data], laidTests := true, laidLooks := .later }
def FnNodesCardSaid : Prop := Claim7.holds Tryd.pinned (.plain (OpenSpec.ofChange fnNodesSpec)) fnNodesCard

/-- THE TIED CARD OF 'laws.FnRootsDiffer'. -/
def fnRootsDifferCard : Claim7 := { stood := { row := fnRootsDifferRow, standIns := [], harness := (true, "f5330c62e8b094d6bcaba0dd4c1e960ea5bc89dd09eecf4af058bcb620c200a5"), looks := true }, kinds := [], alts := [], laidByText := true, laidKinds := [.data, .data], laidTests := true, laidLooks := .later }
def FnRootsDifferCardSaid : Prop := Claim7.holds Tryd.pinned (.plain (OpenSpec.ofChange fnRootsDifferSpec)) fnRootsDifferCard

/-- THE TIED CARD OF 'laws.FnExactEmptyHash'. -/
def fnExactEmptyHashCard : Claim7 := { stood := { row := fnExactEmptyHashRow, standIns := [], harness := (true, "f5330c62e8b094d6bcaba0dd4c1e960ea5bc89dd09eecf4af058bcb620c200a5"), looks := true }, kinds := [], alts := [], laidByText := true, laidKinds := [.data, .data], laidTests := true, laidLooks := .later }
def FnExactEmptyHashCardSaid : Prop := Claim7.holds Tryd.pinned (.plain (OpenSpec.ofChange fnExactEmptyHashSpec)) fnExactEmptyHashCard

/-- THE TIED CARD OF 'laws.FnExactBucketHash'. -/
def fnExactBucketHashCard : Claim7 := { stood := { row := fnExactBucketHashRow, standIns := [], harness := (true, "f5330c62e8b094d6bcaba0dd4c1e960ea5bc89dd09eecf4af058bcb620c200a5"), looks := true }, kinds := [], alts := [], laidByText := true, laidKinds := [.data, .data], laidTests := true, laidLooks := .later }
def FnExactBucketHashCardSaid : Prop := Claim7.holds Tryd.pinned (.plain (OpenSpec.ofChange fnExactBucketHashSpec)) fnExactBucketHashCard

/-- THE TIED CARD OF 'laws.FnExactNodeHash'. -/
def fnExactNodeHashCard : Claim7 := { stood := { row := fnExactNodeHashRow, standIns := [], harness := (true, "f5330c62e8b094d6bcaba0dd4c1e960ea5bc89dd09eecf4af058bcb620c200a5"), looks := true }, kinds := [], alts := [], laidByText := true, laidKinds := [.data, .data], laidTests := true, laidLooks := .later }
def FnExactNodeHashCardSaid : Prop := Claim7.holds Tryd.pinned (.plain (OpenSpec.ofChange fnExactNodeHashSpec)) fnExactNodeHashCard

/-- THE TIED CARD OF 'laws.FnExactRootOf'. -/
def fnExactRootOfCard : Claim7 := { stood := { row := fnExactRootOfRow, standIns := [], harness := (true, "f5330c62e8b094d6bcaba0dd4c1e960ea5bc89dd09eecf4af058bcb620c200a5"), looks := true }, kinds := [], alts := [], laidByText := true, laidKinds := [.data, .data], laidTests := true, laidLooks := .later }
def FnExactRootOfCardSaid : Prop := Claim7.holds Tryd.pinned (.plain (OpenSpec.ofChange fnExactRootOfSpec)) fnExactRootOfCard

/-- THE TIED CARD OF 'laws.FnExactSidesOf'. -/
def fnExactSidesOfCard : Claim7 := { stood := { row := fnExactSidesOfRow, standIns := [], harness := (true, "f5330c62e8b094d6bcaba0dd4c1e960ea5bc89dd09eecf4af058bcb620c200a5"), looks := true }, kinds := [], alts := [], laidByText := true, laidKinds := [.data, .data], laidTests := true, laidLooks := .later }
def FnExactSidesOfCardSaid : Prop := Claim7.holds Tryd.pinned (.plain (OpenSpec.ofChange fnExactSidesOfSpec)) fnExactSidesOfCard

/-- THE TIED CARD OF 'laws.FnExactFoldUp'. -/
def fnExactFoldUpCard : Claim7 := { stood := { row := fnExactFoldUpRow, standIns := [], harness := (true, "f5330c62e8b094d6bcaba0dd4c1e960ea5bc89dd09eecf4af058bcb620c200a5"), looks := true }, kinds := [], alts := [], laidByText := true, laidKinds := [.data, .data], laidTests := true, laidLooks := .later }
def FnExactFoldUpCardSaid : Prop := Claim7.holds Tryd.pinned (.plain (OpenSpec.ofChange fnExactFoldUpSpec)) fnExactFoldUpCard

/-- THE SECOND FORM's CARD OF 'laws.FnRoots'. -/
def fnRootsUptoCard : Claim7 := { stood := { row := fnRootsUptoRow, standIns := [], harness := (true, "f5330c62e8b094d6bcaba0dd4c1e960ea5bc89dd09eecf4af058bcb620c200a5"), looks := true }, kinds := [], alts := [], laidByText := true, laidKinds := [.data, .data], laidTests := true, laidLooks := .later }
def FnRootsUptoCardSaid : Prop := Claim7.holds Tryd.pinned (.plain (OpenSpec.upto fnRootsSpec)) fnRootsUptoCard

/-- THE SECOND FORM's CARD OF 'laws.FnNodes'. -/
def fnNodesUptoCard : Claim7 := { stood := { row := fnNodesUptoRow, standIns := [], harness := (true, "f5330c62e8b094d6bcaba0dd4c1e960ea5bc89dd09eecf4af058bcb620c200a5"), looks := true }, kinds := [], alts := [], laidByText := true, laidKinds := [.data, .data], laidTests := true, laidLooks := .later }
def FnNodesUptoCardSaid : Prop := Claim7.holds Tryd.pinned (.plain (OpenSpec.upto fnNodesSpec)) fnNodesUptoCard

/-- THE SECOND FORM's CARD OF 'laws.FnRootsDiffer'. -/
def fnRootsDifferUptoCard : Claim7 := { stood := { row := fnRootsDifferUptoRow, standIns := [], harness := (true, "f5330c62e8b094d6bcaba0dd4c1e960ea5bc89dd09eecf4af058bcb620c200a5"), looks := true }, kinds := [], alts := [], laidByText := true, laidKinds := [.data, .data], laidTests := true, laidLooks := .later }
def FnRootsDifferUptoCardSaid : Prop := Claim7.holds Tryd.pinned (.plain (OpenSpec.upto fnRootsDifferSpec)) fnRootsDifferUptoCard

/-- THE SECOND FORM's CARD OF 'laws.FnExactEmptyHash'. -/
def fnExactEmptyHashUptoCard : Claim7 := { stood := { row := fnExactEmptyHashUptoRow, standIns := [], harness := (true, "f5330c62e8b094d6bcaba0dd4c1e960ea5bc89dd09eecf4af058bcb620c200a5"), looks := true }, kinds := [], alts := [], laidByText := true, laidKinds := [.data, .data], laidTests := true, laidLooks := .later }
def FnExactEmptyHashUptoCardSaid : Prop := Claim7.holds Tryd.pinned (.plain (OpenSpec.upto fnExactEmptyHashSpec)) fnExactEmptyHashUptoCard

/-- THE SECOND FORM's CARD OF 'laws.FnExactBucketHash'. -/
def fnExactBucketHashUptoCard : Claim7 := { stood := { row := fnExactBucketHashUptoRow, standIns := [], harness := (true, "f5330c62e8b094d6bcaba0dd4c1e960ea5bc89dd09eecf4af058bcb620c200a5"), looks := true }, kinds := [], alts := [], laidByText := true, laidKinds := [.data, .data], laidTests := true, laidLooks := .later }
def FnExactBucketHashUptoCardSaid : Prop := Claim7.holds Tryd.pinned (.plain (OpenSpec.upto fnExactBucketHashSpec)) fnExactBucketHashUptoCard

/-- THE SECOND FORM's CARD OF 'laws.FnExactNodeHash'. -/
def fnExactNodeHashUptoCard : Claim7 := { stood := { row := fnExactNodeHashUptoRow, standIns := [], harness := (true, "f5330c62e8b094d6bcaba0dd4c1e960ea5bc89dd09eecf4af058bcb620c200a5"), looks := true }, kinds := [], alts := [], laidByText := true, laidKinds := [.data, .data], laidTests := true, laidLooks := .later }
def FnExactNodeHashUptoCardSaid : Prop := Claim7.holds Tryd.pinned (.plain (OpenSpec.upto fnExactNodeHashSpec)) fnExactNodeHashUptoCard

/-- THE SECOND FORM's CARD OF 'laws.FnExactRootOf'. -/
def fnExactRootOfUptoCard : Claim7 := { stood := { row := fnExactRootOfUptoRow, standIns := [], harness := (true, "f5330c62e8b094d6bcaba0dd4c1e960ea5bc89dd09eecf4af058bcb620c200a5"), looks := true }, kinds := [], alts := [], laidByText := true, laidKinds := [.data, .data], laidTests := true, laidLooks := .later }
def FnExactRootOfUptoCardSaid : Prop := Claim7.holds Tryd.pinned (.plain (OpenSpec.upto fnExactRootOfSpec)) fnExactRootOfUptoCard

/-- THE SECOND FORM's CARD OF 'laws.FnExactSidesOf'. -/
def fnExactSidesOfUptoCard : Claim7 := { stood := { row := fnExactSidesOfUptoRow, standIns := [], harness := (true, "f5330c62e8b094d6bcaba0dd4c1e960ea5bc89dd09eecf4af058bcb620c200a5"), looks := true }, kinds := [], alts := [], laidByText := true, laidKinds := [.data, .data], laidTests := true, laidLooks := .later }
def FnExactSidesOfUptoCardSaid : Prop := Claim7.holds Tryd.pinned (.plain (OpenSpec.upto fnExactSidesOfSpec)) fnExactSidesOfUptoCard

/-- THE SECOND FORM's CARD OF 'laws.FnExactFoldUp'. -/
def fnExactFoldUpUptoCard : Claim7 := { stood := { row := fnExactFoldUpUptoRow, standIns := [], harness := (true, "f5330c62e8b094d6bcaba0dd4c1e960ea5bc89dd09eecf4af058bcb620c200a5"), looks := true }, kinds := [], alts := [], laidByText := true, laidKinds := [.data, .data], laidTests := true, laidLooks := .later }
def FnExactFoldUpUptoCardSaid : Prop := Claim7.holds Tryd.pinned (.plain (OpenSpec.upto fnExactFoldUpSpec)) fnExactFoldUpUptoCard
end Rows
end Go.Proofs.YtmhoilliaeefcaaDoor
