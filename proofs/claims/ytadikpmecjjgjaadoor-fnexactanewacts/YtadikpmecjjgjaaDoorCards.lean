/-
  DERIVED. GIVEN WITH THE SEED: THE CARDS: each row of YtadikpmecjjgjaaDoorRows.lean that lists a variable, with what it lists TIED to the program's text (the seventh form; the later family's looks); each row that meets fmt, with fmt's text TOLD by the authors' own Lean function (tested against real Go, not proved from fmt's source: count such statements apart). THE CARD IS WHAT COUNTS. Prove the row's statement (the work); the ties are given (YtadikpmecjjgjaaDoorTie.lean); close each card by the builder's one call (the guide's Derived/Test/ToyasCard.lean, 'card_holds'). Laid BY PROGRAM, IN A SANDBOX (cutbox-door.mjs). By AI agents, Wed Nov 11 2026. No macro, syntax, notation, axiom, sorry.
-/
import Derived.Test.YtadikpmecjjgjaaDoorRows
import GoSem.ClaimSeven
namespace Go.Proofs.YtadikpmecjjgjaaDoor
namespace Rows

/-- THE TIED CARD OF 'laws.FnExactLogActs'. -/
def fnExactLogActsCard : Claim7 := { stood := { row := fnExactLogActsRow, standIns := [], harness := (true, "01457db4f4a53c704c329fb147c6978eb39e0e80b2c5ad893fce40df659c31f9"), looks := true }, kinds := [], alts := [], laidByText := true, laidKinds := [.handle, .data], laidTests := true, laidLooks := .later }
def FnExactLogActsCardSaid : Prop := Claim7.holds Tryd.pinned (.plain (OpenSpec.ofChange fnExactLogActsSpec)) fnExactLogActsCard

/-- THE TIED CARD OF 'laws.FnExactLogTexts'. -/
def fnExactLogTextsCard : Claim7 := { stood := { row := fnExactLogTextsRow, standIns := [], harness := (true, "01457db4f4a53c704c329fb147c6978eb39e0e80b2c5ad893fce40df659c31f9"), looks := true }, kinds := [], alts := [], laidByText := true, laidKinds := [.handle, .data], laidTests := true, laidLooks := .later }
def FnExactLogTextsCardSaid : Prop := Claim7.holds Tryd.pinned (.plain (OpenSpec.ofChange fnExactLogTextsSpec)) fnExactLogTextsCard

/-- THE TIED CARD OF 'laws.FnExactAnewActs'. -/
def fnExactAnewActsCard : Claim7 := { stood := { row := fnExactAnewActsRow, standIns := [], harness := (true, "01457db4f4a53c704c329fb147c6978eb39e0e80b2c5ad893fce40df659c31f9"), looks := true }, kinds := [], alts := [], laidByText := true, laidKinds := [.handle, .data], laidTests := true, laidLooks := .later }
def FnExactAnewActsCardSaid : Prop := Claim7.holds Tryd.pinned (.plain (OpenSpec.ofChange fnExactAnewActsSpec)) fnExactAnewActsCard

/-- THE SECOND FORM's CARD OF 'laws.FnExactLogActs'. -/
def fnExactLogActsUptoCard : Claim7 := { stood := { row := fnExactLogActsUptoRow, standIns := [], harness := (true, "01457db4f4a53c704c329fb147c6978eb39e0e80b2c5ad893fce40df659c31f9"), looks := true }, kinds := [], alts := [], laidByText := true, laidKinds := [.handle, .data], laidTests := true, laidLooks := .later }
def FnExactLogActsUptoCardSaid : Prop := Claim7.holds Tryd.pinned (.plain (OpenSpec.upto fnExactLogActsSpec)) fnExactLogActsUptoCard

/-- THE SECOND FORM's CARD OF 'laws.FnExactLogTexts'. -/
def fnExactLogTextsUptoCard : Claim7 := { stood := { row := fnExactLogTextsUptoRow, standIns := [], harness := (true, "01457db4f4a53c704c329fb147c6978eb39e0e80b2c5ad893fce40df659c31f9"), looks := true }, kinds := [], alts := [], laidByText := true, laidKinds := [.handle, .data], laidTests := true, laidLooks := .later }
def FnExactLogTextsUptoCardSaid : Prop := Claim7.holds Tryd.pinned (.plain (OpenSpec.upto fnExactLogTextsSpec)) fnExactLogTextsUptoCard

/-- THE SECOND FORM's CARD OF 'laws.FnExactAnewActs'. -/
def fnExactAnewActsUptoCard : Claim7 := { stood := { row := fnExactAnewActsUptoRow, standIns := [], harness := (true, "01457db4f4a53c704c329fb147c6978eb39e0e80b2c5ad893fce40df659c31f9"), looks := true }, kinds := [], alts := [], laidByText := true, laidKinds := [.handle, .data], laidTests := true, laidLooks := .later }
def FnExactAnewActsUptoCardSaid : Prop := Claim7.holds Tryd.pinned (.plain (OpenSpec.upto fnExactAnewActsSpec)) fnExactAnewActsUptoCard
end Rows
end Go.Proofs.YtadikpmecjjgjaaDoor
