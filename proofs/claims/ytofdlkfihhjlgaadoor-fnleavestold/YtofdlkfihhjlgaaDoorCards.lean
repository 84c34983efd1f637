/-
  DERIVED. GIVEN WITH THE SEED: THE CARDS: each row of YtofdlkfihhjlgaaDoorRows.lean that lists a variable, with what it lists TIED to the program's text (the seventh form; the later family's looks); each row that meets fmt, with fmt's text TOLD by the authors' own Lean function (tested against real Go, not proved from fmt's source: count such statements apart). THE CARD IS WHAT COUNTS. Prove the row's statement (the work); the ties are given (YtofdlkfihhjlgaaDoorTie.lean); close each card by the builder's one call (the guide's Derived/Test/ToyasCard.lean, 'card_holds'). Laid BY PROGRAM, IN A SANDBOX (cutbox-door.mjs). By AI agents, Wed Nov 11 2026. No macro, syntax, notation, axiom, sorry.
-/
import Derived.Test.YtofdlkfihhjlgaaDoorRows
import GoSem.ClaimSeven
namespace Go.Proofs.YtofdlkfihhjlgaaDoor
namespace Rows

/-- THE TIED CARD OF 'laws.FnLeavesTold'. -/
def fnLeavesToldCard : Claim7 := { stood := { row := fnLeavesToldRow, standIns := [], harness := (true, "756db424e0e356cc116df66fb60a2baa5a8e1a295c5713a0b6f4712c8f5e0591"), looks := false }, kinds := [], alts := [], laidByText := true, laidKinds := [.data, .data], laidTests := true, laidLooks := .later }
def FnLeavesToldCardSaid : Prop := Claim7.holds Tryd.pinned (.plain (OpenSpec.ofChange fnLeavesToldSpec)) fnLeavesToldCard

/-- THE TIED CARD OF 'laws.FnExactBucketOf'. -/
def fnExactBucketOfCard : Claim7 := { stood := { row := fnExactBucketOfRow, standIns := [], harness := (true, "756db424e0e356cc116df66fb60a2baa5a8e1a295c5713a0b6f4712c8f5e0591"), looks := false }, kinds := [], alts := [], laidByText := true, laidKinds := [.data, .data], laidTests := true, laidLooks := .later }
def FnExactBucketOfCardSaid : Prop := Claim7.holds Tryd.pinned (.plain (OpenSpec.ofChange fnExactBucketOfSpec)) fnExactBucketOfCard

/-- THE SECOND FORM's CARD OF 'laws.FnLeavesTold'. -/
def fnLeavesToldUptoCard : Claim7 := { stood := { row := fnLeavesToldUptoRow, standIns := [], harness := (true, "756db424e0e356cc116df66fb60a2baa5a8e1a295c5713a0b6f4712c8f5e0591"), looks := false }, kinds := [], alts := [], laidByText := true, laidKinds := [.data, .data], laidTests := true, laidLooks := .later }
def FnLeavesToldUptoCardSaid : Prop := Claim7.holds Tryd.pinned (.plain (OpenSpec.upto fnLeavesToldSpec)) fnLeavesToldUptoCard

/-- THE SECOND FORM's CARD OF 'laws.FnExactBucketOf'. -/
def fnExactBucketOfUptoCard : Claim7 := { stood := { row := fnExactBucketOfUptoRow, standIns := [], harness := (true, "756db424e0e356cc116df66fb60a2baa5a8e1a295c5713a0b6f4712c8f5e0591"), looks := false }, kinds := [], alts := [], laidByText := true, laidKinds := [.data, .data], laidTests := true, laidLooks := .later }
def FnExactBucketOfUptoCardSaid : Prop := Claim7.holds Tryd.pinned (.plain (OpenSpec.upto fnExactBucketOfSpec)) fnExactBucketOfUptoCard
end Rows
end Go.Proofs.YtofdlkfihhjlgaaDoor
