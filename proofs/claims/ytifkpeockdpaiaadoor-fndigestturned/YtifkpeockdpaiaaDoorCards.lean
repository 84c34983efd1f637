/-
  DERIVED. GIVEN WITH THE SEED: THE CARDS: each row of YtifkpeockdpaiaaDoorRows.lean that lists a variable, with what it lists TIED to the program's text (the seventh form; the later family's looks); each row that meets fmt, with fmt's text TOLD by the authors' own Lean function (tested against real Go, not proved from fmt's source: count such statements apart). THE CARD IS WHAT COUNTS. Prove the row's statement (the work); the ties are given (YtifkpeockdpaiaaDoorTie.lean); close each card by the builder's one call (the guide's Derived/Test/ToyasCard.lean, 'card_holds'). Laid BY PROGRAM, IN A SANDBOX (cutbox-door.mjs). By AI agents, Wed Nov 11 2026. No macro, syntax, notation, axiom, sorry.
-/
import Derived.Test.YtifkpeockdpaiaaDoorRows
import GoSem.ClaimSeven
namespace Go.Proofs.YtifkpeockdpaiaaDoor
namespace Rows

/-- THE TIED CARD OF 'laws.FnExactCutDigest'. -/
def fnExactCutDigestCard : Claim7 := { stood := { row := fnExactCutDigestRow, standIns := [], harness := (true, "4a653189f108c5b2764e0828ef285ee38c59604c7c573ebff210d47ebdc7f52e"), looks := false }, kinds := [], alts := [], laidByText := true, laidKinds := [.data, .data], laidTests := true, laidLooks := .later }
def FnExactCutDigestCardSaid : Prop := Claim7.holds Tryd.pinned (.plain (OpenSpec.ofChange fnExactCutDigestSpec)) fnExactCutDigestCard

/-- THE TIED CARD OF 'laws.FnDigestTurned'. -/
def fnDigestTurnedCard : Claim7 := { stood := { row := fnDigestTurnedRow, standIns := [], harness := (true, "4a653189f108c5b2764e0828ef285ee38c59604c7c573ebff210d47ebdc7f52e"), looks := false }, kinds := [], alts := [], laidByText := true, laidKinds := [.data, .data], laidTests := true, laidLooks := .later }
def FnDigestTurnedCardSaid : Prop := Claim7.holds Tryd.pinned (.plain (OpenSpec.ofChange fnDigestTurnedSpec)) fnDigestTurnedCard

/-- THE TIED CARD OF 'laws.FnExactTagHash'. -/
def fnExactTagHashCard : Claim7 := { stood := { row := fnExactTagHashRow, standIns := [], harness := (true, "4a653189f108c5b2764e0828ef285ee38c59604c7c573ebff210d47ebdc7f52e"), looks := false }, kinds := [], alts := [], laidByText := true, laidKinds := [.data, .data], laidTests := true, laidLooks := .later }
def FnExactTagHashCardSaid : Prop := Claim7.holds Tryd.pinned (.plain (OpenSpec.ofChange fnExactTagHashSpec)) fnExactTagHashCard

/-- THE TIED CARD OF 'laws.FnTags'. -/
def fnTagsCard : Claim7 := { stood := { row := fnTagsRow, standIns := [], harness := (true, "4a653189f108c5b2764e0828ef285ee38c59604c7c573ebff210d47ebdc7f52e"), looks := false }, kinds := [], alts := [], laidByText := true, laidKinds := [.data, .data], laidTests := true, laidLooks := .later }
def FnTagsCardSaid : Prop := Claim7.holds Tryd.pinned (.plain (OpenSpec.ofChange fnTagsSpec)) fnTagsCard

/-- THE SECOND FORM's CARD OF 'laws.FnExactCutDigest'. -/
def fnExactCutDigestUptoCard : Claim7 := { stood := { row := fnExactCutDigestUptoRow, standIns := [], harness := (true, "4a653189f108c5b2764e0828ef285ee38c59604c7c573ebff210d47ebdc7f52e"), looks := false }, kinds := [], alts := [], laidByText := true, laidKinds := [.data, .data], laidTests := true, laidLooks := .later }
def FnExactCutDigestUptoCardSaid : Prop := Claim7.holds Tryd.pinned (.plain (OpenSpec.upto fnExactCutDigestSpec)) fnExactCutDigestUptoCard

/-- THE SECOND FORM's CARD OF 'laws.FnDigestTurned'. -/
def fnDigestTurnedUptoCard : Claim7 := { stood := { row := fnDigestTurnedUptoRow, standIns := [], harness := (true, "4a653189f108c5b2764e0828ef285ee38c59604c7c573ebff210d47ebdc7f52e"), looks := false }, kinds := [], alts := [], laidByText := true, laidKinds := [.data, .data], laidTests := true, laidLooks := .later }
def FnDigestTurnedUptoCardSaid : Prop := Claim7.holds Tryd.pinned (.plain (OpenSpec.upto fnDigestTurnedSpec)) fnDigestTurnedUptoCard

/-- THE SECOND FORM's CARD OF 'laws.FnExactTagHash'. -/
def fnExactTagHashUptoCard : Claim7 := { stood := { row := fnExactTagHashUptoRow, standIns := [], harness := (true, "4a653189f108c5b2764e0828ef285ee38c59604c7c573ebff210d47ebdc7f52e"), looks := false }, kinds := [], alts := [], laidByText := true, laidKinds := [.data, .data], laidTests := true, laidLooks := .later }
def FnExactTagHashUptoCardSaid : Prop := Claim7.holds Tryd.pinned (.plain (OpenSpec.upto fnExactTagHashSpec)) fnExactTagHashUptoCard

/-- THE SECOND FORM's CARD OF 'laws.FnTags'. -/
def fnTagsUptoCard : Claim7 := { stood := { row := fnTagsUptoRow, standIns := [], harness := (true, "4a653189f108c5b2764e0828ef285ee38c59604c7c573ebff210d47ebdc7f52e"), looks := false }, kinds := [], alts := [], laidByText := true, laidKinds := [.data, .data], laidTests := true, laidLooks := .later }
def FnTagsUptoCardSaid : Prop := Claim7.holds Tryd.pinned (.plain (OpenSpec.upto fnTagsSpec)) fnTagsUptoCard
end Rows
end Go.Proofs.YtifkpeockdpaiaaDoor
