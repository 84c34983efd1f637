/-
  DERIVED. GIVEN WITH THE SEED: THE CARDS: each row of YtfojmagcoipbnaaGreatDoorRows.lean that lists a variable, with what it lists TIED to the program's text (the seventh form; the later family's looks); each row that meets fmt, with fmt's text TOLD by the authors' own Lean function (tested against real Go, not proved from fmt's source: count such statements apart). THE CARD IS WHAT COUNTS. Prove the row's statement (the work); the ties are given (YtfojmagcoipbnaaGreatDoorTie.lean); close each card by the builder's one call (the guide's Derived/Test/ToyasCard.lean, 'card_holds'). Laid BY PROGRAM, IN A SANDBOX (cutbox-door.mjs). By AI agents, Wed Nov 11 2026. No macro, syntax, notation, axiom, sorry.
-/
import Derived.Test.YtfojmagcoipbnaaGreatDoorRows
import GoSem.ClaimSeven
namespace Go.Proofs.YtfojmagcoipbnaaGreatDoor
namespace Rows

/-- THE TIED CARD OF 'laws.FnProofs'. -/
def fnProofsCard : Claim7 := { stood := { row := fnProofsRow, standIns := [], harness := (true, "b7ac008f3add54140296a7fc899e197b0389769cf2ce94d802acbe6caba77d2a"), looks := true }, kinds := [], alts := [], laidByText := true, laidKinds := [.data, .data], laidTests := true, laidLooks := .later }
def FnProofsCardSaid : Prop := Claim7.holds Tryz.pinned (.plain (OpenSpec.ofChange fnProofsSpec)) fnProofsCard

/-- THE TIED CARD OF 'laws.FnProofsTold'. -/
def fnProofsToldCard : Claim7 := { stood := { row := fnProofsToldRow, standIns := [], harness := (true, "b7ac008f3add54140296a7fc899e197b0389769cf2ce94d802acbe6caba77d2a"), looks := true }, kinds := [], alts := [], laidByText := true, laidKinds := [.data, .data], laidTests := true, laidLooks := .later }
def FnProofsToldCardSaid : Prop := Claim7.holds Tryz.pinned (.plain (OpenSpec.ofChange fnProofsToldSpec)) fnProofsToldCard

/-- THE TIED CARD OF 'laws.FnSealsTold'. -/
def fnSealsToldCard : Claim7 := { stood := { row := fnSealsToldRow, standIns := [], harness := (true, "b7ac008f3add54140296a7fc899e197b0389769cf2ce94d802acbe6caba77d2a"), looks := true }, kinds := [], alts := [], laidByText := true, laidKinds := [.data, .data], laidTests := true, laidLooks := .later }
def FnSealsToldCardSaid : Prop := Claim7.holds Tryz.pinned (.plain (OpenSpec.ofChange fnSealsToldSpec)) fnSealsToldCard

/-- THE TIED CARD OF 'laws.FnWholes'. -/
def fnWholesCard : Claim7 := { stood := { row := fnWholesRow, standIns := [], harness := (true, "b7ac008f3add54140296a7fc899e197b0389769cf2ce94d802acbe6caba77d2a"), looks := true }, kinds := [], alts := [], laidByText := true, laidKinds := [.data, .data], laidTests := true, laidLooks := .later }
def FnWholesCardSaid : Prop := Claim7.holds Tryz.pinned (.plain (OpenSpec.ofChange fnWholesSpec)) fnWholesCard

/-- THE TIED CARD OF 'laws.FnWholesTurned'. -/
def fnWholesTurnedCard : Claim7 := { stood := { row := fnWholesTurnedRow, standIns := [], harness := (true, "b7ac008f3add54140296a7fc899e197b0389769cf2ce94d802acbe6caba77d2a"), looks := true }, kinds := [], alts := [], laidByText := true, laidKinds := [.data, .data], laidTests := true, laidLooks := .later }
def FnWholesTurnedCardSaid : Prop := Claim7.holds Tryz.pinned (.plain (OpenSpec.ofChange fnWholesTurnedSpec)) fnWholesTurnedCard

/-- THE TIED CARD OF 'laws.FnWholesTold'. -/
def fnWholesToldCard : Claim7 := { stood := { row := fnWholesToldRow, standIns := [], harness := (true, "b7ac008f3add54140296a7fc899e197b0389769cf2ce94d802acbe6caba77d2a"), looks := true }, kinds := [], alts := [], laidByText := true, laidKinds := [.data, .data], laidTests := true, laidLooks := .later }
def FnWholesToldCardSaid : Prop := Claim7.holds Tryz.pinned (.plain (OpenSpec.ofChange fnWholesToldSpec)) fnWholesToldCard

/-- THE TIED CARD OF 'laws.FnForgery'. -/
def fnForgeryCard : Claim7 := { stood := { row := fnForgeryRow, standIns := [], harness := (true, "b7ac008f3add54140296a7fc899e197b0389769cf2ce94d802acbe6caba77d2a"), looks := true }, kinds := [], alts := [], laidByText := true, laidKinds := [.data, .data], laidTests := true, laidLooks := .later }
def FnForgeryCardSaid : Prop := Claim7.holds Tryz.pinned (.plain (OpenSpec.ofChange fnForgerySpec)) fnForgeryCard

/-- THE TIED CARD OF 'laws.FnExactVerify'. -/
def fnExactVerifyCard : Claim7 := { stood := { row := fnExactVerifyRow, standIns := [], harness := (true, "b7ac008f3add54140296a7fc899e197b0389769cf2ce94d802acbe6caba77d2a"), looks := true }, kinds := [], alts := [], laidByText := true, laidKinds := [.data, .data], laidTests := true, laidLooks := .later }
def FnExactVerifyCardSaid : Prop := Claim7.holds Tryz.pinned (.plain (OpenSpec.ofChange fnExactVerifySpec)) fnExactVerifyCard

/-- THE SECOND FORM's CARD OF 'laws.FnProofs'. -/
def fnProofsUptoCard : Claim7 := { stood := { row := fnProofsUptoRow, standIns := [], harness := (true, "b7ac008f3add54140296a7fc899e197b0389769cf2ce94d802acbe6caba77d2a"), looks := true }, kinds := [], alts := [], laidByText := true, laidKinds := [.data, .data], laidTests := true, laidLooks := .later }
def FnProofsUptoCardSaid : Prop := Claim7.holds Tryz.pinned (.plain (OpenSpec.upto fnProofsSpec)) fnProofsUptoCard

/-- THE SECOND FORM's CARD OF 'laws.FnProofsTold'. -/
def fnProofsToldUptoCard : Claim7 := { stood := { row := fnProofsToldUptoRow, standIns := [], harness := (true, "b7ac008f3add54140296a7fc899e197b0389769cf2ce94d802acbe6caba77d2a"), looks := true }, kinds := [], alts := [], laidByText := true, laidKinds := [.data, .data], laidTests := true, laidLooks := .later }
def FnProofsToldUptoCardSaid : Prop := Claim7.holds Tryz.pinned (.plain (OpenSpec.upto fnProofsToldSpec)) fnProofsToldUptoCard

/-- THE SECOND FORM's CARD OF 'laws.FnSealsTold'. -/
def fnSealsToldUptoCard : Claim7 := { stood := { row := fnSealsToldUptoRow, standIns := [], harness := (true, "b7ac008f3add54140296a7fc899e197b0389769cf2ce94d802acbe6caba77d2a"), looks := true }, kinds := [], alts := [], laidByText := true, laidKinds := [.data, .data], laidTests := true, laidLooks := .later }
def FnSealsToldUptoCardSaid : Prop := Claim7.holds Tryz.pinned (.plain (OpenSpec.upto fnSealsToldSpec)) fnSealsToldUptoCard

/-- THE SECOND FORM's CARD OF 'laws.FnWholes'. -/
def fnWholesUptoCard : Claim7 := { stood := { row := fnWholesUptoRow, standIns := [], harness := (true, "b7ac008f3add54140296a7fc899e197b0389769cf2ce94d802acbe6caba77d2a"), looks := true }, kinds := [], alts := [], laidByText := true, laidKinds := [.data, .data], laidTests := true, laidLooks := .later }
def FnWholesUptoCardSaid : Prop := Claim7.holds Tryz.pinned (.plain (OpenSpec.upto fnWholesSpec)) fnWholesUptoCard

/-- THE SECOND FORM's CARD OF 'laws.FnWholesTurned'. -/
def fnWholesTurnedUptoCard : Claim7 := { stood := { row := fnWholesTurnedUptoRow, standIns := [], harness := (true, "b7ac008f3add54140296a7fc899e197b0389769cf2ce94d802acbe6caba77d2a"), looks := true }, kinds := [], alts := [], laidByText := true, laidKinds := [.data, .data], laidTests := true, laidLooks := .later }
def FnWholesTurnedUptoCardSaid : Prop := Claim7.holds Tryz.pinned (.plain (OpenSpec.upto fnWholesTurnedSpec)) fnWholesTurnedUptoCard

/-- THE SECOND FORM's CARD OF 'laws.FnWholesTold'. -/
def fnWholesToldUptoCard : Claim7 := { stood := { row := fnWholesToldUptoRow, standIns := [], harness := (true, "b7ac008f3add54140296a7fc899e197b0389769cf2ce94d802acbe6caba77d2a"), looks := true }, kinds := [], alts := [], laidByText := true, laidKinds := [.data, .data], laidTests := true, laidLooks := .later }
def FnWholesToldUptoCardSaid : Prop := Claim7.holds Tryz.pinned (.plain (OpenSpec.upto fnWholesToldSpec)) fnWholesToldUptoCard

/-- THE SECOND FORM's CARD OF 'laws.FnForgery'. -/
def fnForgeryUptoCard : Claim7 := { stood := { row := fnForgeryUptoRow, standIns := [], harness := (true, "b7ac008f3add54140296a7fc899e197b0389769cf2ce94d802acbe6caba77d2a"), looks := true }, kinds := [], alts := [], laidByText := true, laidKinds := [.data, .data], laidTests := true, laidLooks := .later }
def FnForgeryUptoCardSaid : Prop := Claim7.holds Tryz.pinned (.plain (OpenSpec.upto fnForgerySpec)) fnForgeryUptoCard

/-- THE SECOND FORM's CARD OF 'laws.FnExactVerify'. -/
def fnExactVerifyUptoCard : Claim7 := { stood := { row := fnExactVerifyUptoRow, standIns := [], harness := (true, "b7ac008f3add54140296a7fc899e197b0389769cf2ce94d802acbe6caba77d2a"), looks := true }, kinds := [], alts := [], laidByText := true, laidKinds := [.data, .data], laidTests := true, laidLooks := .later }
def FnExactVerifyUptoCardSaid : Prop := Claim7.holds Tryz.pinned (.plain (OpenSpec.upto fnExactVerifySpec)) fnExactVerifyUptoCard
end Rows
end Go.Proofs.YtfojmagcoipbnaaGreatDoor
