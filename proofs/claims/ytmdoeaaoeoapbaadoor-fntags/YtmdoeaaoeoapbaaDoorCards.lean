/-
  DERIVED. GIVEN WITH THE SEED: THE CARDS: each row of YtmdoeaaoeoapbaaDoorRows.lean that lists a variable, with what it lists TIED to the program's text (the seventh form; the later family's looks); each row that meets fmt, with fmt's text TOLD by the authors' own Lean function (tested against real Go, not proved from fmt's source: count such statements apart). THE CARD IS WHAT COUNTS. Prove the row's statement (the work); the ties are given (YtmdoeaaoeoapbaaDoorTie.lean); close each card by the builder's one call (the guide's Derived/Test/ToyasCard.lean, 'card_holds'). Laid BY PROGRAM, IN A SANDBOX (cutbox-door.mjs). By AI agents, Wed Nov 11 2026. No macro, syntax, notation, axiom, sorry.
-/
import Derived.Test.YtmdoeaaoeoapbaaDoorRows
import GoSem.ClaimSeven
namespace Go.Proofs.YtmdoeaaoeoapbaaDoor
namespace Rows

/-- THE TIED CARD OF 'laws.FnTags'. -/
def fnTagsCard : Claim7 := { stood := { row := fnTagsRow, standIns := [], harness := (true, "3a86786146430f2a768c06fdc96b34ea7e2e7f7c92b57ca4f70deda3674247de"), looks := false }, kinds := [], alts := [], laidByText := true, laidKinds := [.data, .data], laidTests := true, laidLooks := .later }
def FnTagsCardSaid : Prop := Claim7.holds Tryd.pinned (.plain (OpenSpec.ofChange fnTagsSpec)) fnTagsCard

/-- THE TIED CARD OF 'laws.FnIndexes'. -/
def fnIndexesCard : Claim7 := { stood := { row := fnIndexesRow, standIns := [], harness := (true, "3a86786146430f2a768c06fdc96b34ea7e2e7f7c92b57ca4f70deda3674247de"), looks := false }, kinds := [], alts := [], laidByText := true, laidKinds := [.data, .data], laidTests := true, laidLooks := .later }
def FnIndexesCardSaid : Prop := Claim7.holds Tryd.pinned (.plain (OpenSpec.ofChange fnIndexesSpec)) fnIndexesCard

/-- THE TIED CARD OF 'laws.FnExactTagHash'. -/
def fnExactTagHashCard : Claim7 := { stood := { row := fnExactTagHashRow, standIns := [], harness := (true, "3a86786146430f2a768c06fdc96b34ea7e2e7f7c92b57ca4f70deda3674247de"), looks := false }, kinds := [], alts := [], laidByText := true, laidKinds := [.data, .data], laidTests := true, laidLooks := .later }
def FnExactTagHashCardSaid : Prop := Claim7.holds Tryd.pinned (.plain (OpenSpec.ofChange fnExactTagHashSpec)) fnExactTagHashCard

/-- THE TIED CARD OF 'laws.FnExactIndexOf'. -/
def fnExactIndexOfCard : Claim7 := { stood := { row := fnExactIndexOfRow, standIns := [], harness := (true, "3a86786146430f2a768c06fdc96b34ea7e2e7f7c92b57ca4f70deda3674247de"), looks := false }, kinds := [], alts := [], laidByText := true, laidKinds := [.data, .data], laidTests := true, laidLooks := .later }
def FnExactIndexOfCardSaid : Prop := Claim7.holds Tryd.pinned (.plain (OpenSpec.ofChange fnExactIndexOfSpec)) fnExactIndexOfCard

/-- THE SECOND FORM's CARD OF 'laws.FnTags'. -/
def fnTagsUptoCard : Claim7 := { stood := { row := fnTagsUptoRow, standIns := [], harness := (true, "3a86786146430f2a768c06fdc96b34ea7e2e7f7c92b57ca4f70deda3674247de"), looks := false }, kinds := [], alts := [], laidByText := true, laidKinds := [.data, .data], laidTests := true, laidLooks := .later }
def FnTagsUptoCardSaid : Prop := Claim7.holds Tryd.pinned (.plain (OpenSpec.upto fnTagsSpec)) fnTagsUptoCard

/-- THE SECOND FORM's CARD OF 'laws.FnIndexes'. -/
def fnIndexesUptoCard : Claim7 := { stood := { row := fnIndexesUptoRow, standIns := [], harness := (true, "3a86786146430f2a768c06fdc96b34ea7e2e7f7c92b57ca4f70deda3674247de"), looks := false }, kinds := [], alts := [], laidByText := true, laidKinds := [.data, .data], laidTests := true, laidLooks := .later }
def FnIndexesUptoCardSaid : Prop := Claim7.holds Tryd.pinned (.plain (OpenSpec.upto fnIndexesSpec)) fnIndexesUptoCard

/-- THE SECOND FORM's CARD OF 'laws.FnExactTagHash'. -/
def fnExactTagHashUptoCard : Claim7 := { stood := { row := fnExactTagHashUptoRow, standIns := [], harness := (true, "3a86786146430f2a768c06fdc96b34ea7e2e7f7c92b57ca4f70deda3674247de"), looks := false }, kinds := [], alts := [], laidByText := true, laidKinds := [.data, .data], laidTests := true, laidLooks := .later }
def FnExactTagHashUptoCardSaid : Prop := Claim7.holds Tryd.pinned (.plain (OpenSpec.upto fnExactTagHashSpec)) fnExactTagHashUptoCard

/-- THE SECOND FORM's CARD OF 'laws.FnExactIndexOf'. -/
def fnExactIndexOfUptoCard : Claim7 := { stood := { row := fnExactIndexOfUptoRow, standIns := [], harness := (true, "3a86786146430f2a768c06fdc96b34ea7e2e7f7c92b57ca4f70deda3674247de"), looks := false }, kinds := [], alts := [], laidByText := true, laidKinds := [.data, .data], laidTests := true, laidLooks := .later }
def FnExactIndexOfUptoCardSaid : Prop := Claim7.holds Tryd.pinned (.plain (OpenSpec.upto fnExactIndexOfSpec)) fnExactIndexOfUptoCard
end Rows
end Go.Proofs.YtmdoeaaoeoapbaaDoor
