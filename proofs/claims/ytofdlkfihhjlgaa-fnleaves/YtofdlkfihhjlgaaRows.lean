/-
  No cell of these rows narrows 'for every input' (looked for: loops, veiled, ifaces, maps, wideKeys, modest, calm, conditions, laid).
  DERIVED. THE GIVEN ROWS OF THIS SEAT. 7 by the template 'for every input the law returns true; each argument reads behind the call as it read before'; 0 by the template 'total and deterministic' (their statements: YtofdlkfihhjlgaaTotals.lean).
  GIVEN WITH THE SEED: the statements are not yours to turn. If you find one false, say at which input.
  Laid BY PROGRAM, IN A SANDBOX (cutbox-rows.mjs): the forced cells as the released guide's own fill.sh prints them over the translation 85eca7b69cd58e37… (all of the seat's roots in one cut). By AI agents, Wed Nov 11 2026. No macro, syntax, notation, axiom, sorry.
-/
import Derived.Test.YtofdlkfihhjlgaaChecked
import GoSem.Claim
import GoSem.ClaimJoined
import GoSem.ClaimMapViews
import Derived.JoinedTies
import Derived.KernelRfl
namespace Go.Proofs.Ytofdlkfihhjlgaa
/- THE CELL 'sum', in the pinned program and in every row, IS THE sha256 OF THE DUMP (.gsa) THAT YtofdlkfihhjlgaaProg.lean LOADS. Nothing in Lean hashes anything: it is a label: what it is worth is what the hold of that sum in a sandbox is worth. -/
noncomputable def Try.pinned : Pinned := { name := "ytofdlkfihhjlgaa", sum := "85eca7b69cd58e37dcb9d8233be476c18e1c243ced1b708ecd56e56dbf46a015", checked := Try.checked }
namespace Rows
def none {H : Type} : Left H := { results := [], args := [] }

/-- 'laws.FnLeaves': WHATEVER THE INPUT: true; the input reads as it did. -/
def fnLeavesSpec : ChangeSpec := { name := "fnLeaves", fn := fun _ => fun
  | [d] => { results := [.lit (.bool true)], args := [d] }
  | _ => none }
def fnLeavesRow : OpenClaim := { program := "ytofdlkfihhjlgaa", sum := "85eca7b69cd58e37dcb9d8233be476c18e1c243ced1b708ecd56e56dbf46a015", func := "loop.example/g00284/laws.FnLeaves", spec := "fnLeaves", inPlace := ["internal/bytealg.abigen_runtime_cmpstring"], unfollowed := true, recurses := true, apart := false }
def FnLeavesSaid : Prop := fnLeavesRow.holds Try.pinned (OpenSpec.ofChange fnLeavesSpec)

/-- ITS FALSE NEIGHBOUR: 'it returns false'. Refute it at one input. -/
def fnLeavesWrong : ChangeSpec := { name := "fnLeaves", fn := fun _ => fun
  | [d] => { results := [.lit (.bool false)], args := [d] }
  | _ => none }
def FnLeavesWrongFalsely : Prop := fnLeavesRow.holds Try.pinned (OpenSpec.ofChange fnLeavesWrong)

/-- 'laws.FnExactLeavesOk': WHATEVER THE INPUT: true; the input reads as it did. -/
def fnExactLeavesOkSpec : ChangeSpec := { name := "fnExactLeavesOk", fn := fun _ => fun
  | [d] => { results := [.lit (.bool true)], args := [d] }
  | _ => none }
def fnExactLeavesOkRow : OpenClaim := { program := "ytofdlkfihhjlgaa", sum := "85eca7b69cd58e37dcb9d8233be476c18e1c243ced1b708ecd56e56dbf46a015", func := "loop.example/g00284/laws.FnExactLeavesOk", spec := "fnExactLeavesOk", inPlace := ["internal/bytealg.abigen_runtime_cmpstring"], apart := false }
def FnExactLeavesOkSaid : Prop := fnExactLeavesOkRow.holds Try.pinned (OpenSpec.ofChange fnExactLeavesOkSpec)

/-- ITS FALSE NEIGHBOUR: 'it returns false'. Refute it at one input. -/
def fnExactLeavesOkWrong : ChangeSpec := { name := "fnExactLeavesOk", fn := fun _ => fun
  | [d] => { results := [.lit (.bool false)], args := [d] }
  | _ => none }
def FnExactLeavesOkWrongFalsely : Prop := fnExactLeavesOkRow.holds Try.pinned (OpenSpec.ofChange fnExactLeavesOkWrong)

/-- 'laws.FnExactLeafGet': WHATEVER THE INPUT: true; the input reads as it did. -/
def fnExactLeafGetSpec : ChangeSpec := { name := "fnExactLeafGet", fn := fun _ => fun
  | [d1, d2] => { results := [.lit (.bool true)], args := [d1, d2] }
  | _ => none }
def fnExactLeafGetRow : OpenClaim := { program := "ytofdlkfihhjlgaa", sum := "85eca7b69cd58e37dcb9d8233be476c18e1c243ced1b708ecd56e56dbf46a015", func := "loop.example/g00284/laws.FnExactLeafGet", spec := "fnExactLeafGet", apart := false }
def FnExactLeafGetSaid : Prop := fnExactLeafGetRow.holds Try.pinned (OpenSpec.ofChange fnExactLeafGetSpec)

/-- ITS FALSE NEIGHBOUR: 'it returns false'. Refute it at one input. -/
def fnExactLeafGetWrong : ChangeSpec := { name := "fnExactLeafGet", fn := fun _ => fun
  | [d1, d2] => { results := [.lit (.bool false)], args := [d1, d2] }
  | _ => none }
def FnExactLeafGetWrongFalsely : Prop := fnExactLeafGetRow.holds Try.pinned (OpenSpec.ofChange fnExactLeafGetWrong)

/-- 'laws.FnExactLeafPut': WHATEVER THE INPUT: true; the input reads as it did. -/
def fnExactLeafPutSpec : ChangeSpec := { name := "fnExactLeafPut", fn := fun _ => fun
  | [d1, d2, d3] => { results := [.lit (.bool true)], args := [d1, d2, d3] }
  | _ => none }
def fnExactLeafPutRow : OpenClaim := { program := "ytofdlkfihhjlgaa", sum := "85eca7b69cd58e37dcb9d8233be476c18e1c243ced1b708ecd56e56dbf46a015", func := "loop.example/g00284/laws.FnExactLeafPut", spec := "fnExactLeafPut", inPlace := ["internal/bytealg.abigen_runtime_cmpstring"], unfollowed := true, recurses := true, apart := false }
def FnExactLeafPutSaid : Prop := fnExactLeafPutRow.holds Try.pinned (OpenSpec.ofChange fnExactLeafPutSpec)

/-- ITS FALSE NEIGHBOUR: 'it returns false'. Refute it at one input. -/
def fnExactLeafPutWrong : ChangeSpec := { name := "fnExactLeafPut", fn := fun _ => fun
  | [d1, d2, d3] => { results := [.lit (.bool false)], args := [d1, d2, d3] }
  | _ => none }
def FnExactLeafPutWrongFalsely : Prop := fnExactLeafPutRow.holds Try.pinned (OpenSpec.ofChange fnExactLeafPutWrong)

/-- 'laws.FnExactLeafDrop': WHATEVER THE INPUT: true; the input reads as it did. -/
def fnExactLeafDropSpec : ChangeSpec := { name := "fnExactLeafDrop", fn := fun _ => fun
  | [d1, d2] => { results := [.lit (.bool true)], args := [d1, d2] }
  | _ => none }
def fnExactLeafDropRow : OpenClaim := { program := "ytofdlkfihhjlgaa", sum := "85eca7b69cd58e37dcb9d8233be476c18e1c243ced1b708ecd56e56dbf46a015", func := "loop.example/g00284/laws.FnExactLeafDrop", spec := "fnExactLeafDrop", inPlace := ["internal/bytealg.abigen_runtime_cmpstring"], unfollowed := true, recurses := true, apart := false }
def FnExactLeafDropSaid : Prop := fnExactLeafDropRow.holds Try.pinned (OpenSpec.ofChange fnExactLeafDropSpec)

/-- ITS FALSE NEIGHBOUR: 'it returns false'. Refute it at one input. -/
def fnExactLeafDropWrong : ChangeSpec := { name := "fnExactLeafDrop", fn := fun _ => fun
  | [d1, d2] => { results := [.lit (.bool false)], args := [d1, d2] }
  | _ => none }
def FnExactLeafDropWrongFalsely : Prop := fnExactLeafDropRow.holds Try.pinned (OpenSpec.ofChange fnExactLeafDropWrong)

/-- 'laws.FnExactLeavesText': WHATEVER THE INPUT: true; the input reads as it did. -/
def fnExactLeavesTextSpec : ChangeSpec := { name := "fnExactLeavesText", fn := fun _ => fun
  | [d] => { results := [.lit (.bool true)], args := [d] }
  | _ => none }
def fnExactLeavesTextRow : OpenClaim := { program := "ytofdlkfihhjlgaa", sum := "85eca7b69cd58e37dcb9d8233be476c18e1c243ced1b708ecd56e56dbf46a015", func := "loop.example/g00284/laws.FnExactLeavesText", spec := "fnExactLeavesText", inPlace := ["internal/bytealg.abigen_runtime_cmpstring"], apart := false }
def FnExactLeavesTextSaid : Prop := fnExactLeavesTextRow.holds Try.pinned (OpenSpec.ofChange fnExactLeavesTextSpec)

/-- ITS FALSE NEIGHBOUR: 'it returns false'. Refute it at one input. -/
def fnExactLeavesTextWrong : ChangeSpec := { name := "fnExactLeavesText", fn := fun _ => fun
  | [d] => { results := [.lit (.bool false)], args := [d] }
  | _ => none }
def FnExactLeavesTextWrongFalsely : Prop := fnExactLeavesTextRow.holds Try.pinned (OpenSpec.ofChange fnExactLeavesTextWrong)

/-- 'laws.FnExactReadLeaves': WHATEVER THE INPUT: true; the input reads as it did. -/
def fnExactReadLeavesSpec : ChangeSpec := { name := "fnExactReadLeaves", fn := fun _ => fun
  | [d] => { results := [.lit (.bool true)], args := [d] }
  | _ => none }
def fnExactReadLeavesRow : OpenClaim := { program := "ytofdlkfihhjlgaa", sum := "85eca7b69cd58e37dcb9d8233be476c18e1c243ced1b708ecd56e56dbf46a015", func := "loop.example/g00284/laws.FnExactReadLeaves", spec := "fnExactReadLeaves", inPlace := ["internal/bytealg.abigen_runtime_cmpstring"], apart := false }
def FnExactReadLeavesSaid : Prop := fnExactReadLeavesRow.holds Try.pinned (OpenSpec.ofChange fnExactReadLeavesSpec)

/-- ITS FALSE NEIGHBOUR: 'it returns false'. Refute it at one input. -/
def fnExactReadLeavesWrong : ChangeSpec := { name := "fnExactReadLeaves", fn := fun _ => fun
  | [d] => { results := [.lit (.bool false)], args := [d] }
  | _ => none }
def FnExactReadLeavesWrongFalsely : Prop := fnExactReadLeavesRow.holds Try.pinned (OpenSpec.ofChange fnExactReadLeavesWrong)

/- THE SECOND FORM. 'bulk': how many values and letters a reading holds, each counted each time it is reached (what is shared counts as often as it is met; a slice's spare places count too). A statement '..UptoSaid' is the law's where the arguments, and the package variables that the reading takes, are together of bulk at most 1048576: NARROWER than '..Said'. Prove '..Said' where nothing that the law and all that it calls make is longer than what came in: it says more and counts as full. Else prove '..UptoSaid'. A law counts once. -/
mutual
def uptoBulk {H : Type} : DataW H → Nat
  | .lit (.string bytes) => bytes.length + 1
  | .lit _ => 1
  | .nil => 1
  | .ptr d => uptoBulk d + 1
  | .slice elems spare => uptoBulkAll elems + uptoBulkAll spare + 1
  | .agg parts => uptoBulkAll parts + 1
  | .iface _ d => uptoBulk d + 1
  | .map entries => uptoBulkEntries entries + 1
  | .held _ => 1
def uptoBulkAll {H : Type} : List (DataW H) → Nat
  | [] => 0
  | d :: r => uptoBulk d + uptoBulkAll r
def uptoBulkEntries {H : Type} : List (Lit × DataW H) → Nat
  | [] => 0
  | x :: r => uptoBulkEntry x + uptoBulkEntries r
def uptoBulkEntry {H : Type} : Lit × DataW H → Nat
  | (.string bytes, d) => bytes.length + uptoBulk d + 1
  | (_, d) => uptoBulk d + 1
 end
def uptoSmall : (H : Type) → List (DataW H) → Bool := fun _ ds => decide (uptoBulkAll ds ≤ 1048576)
def OpenSpec.upto (s : _root_.Go.ChangeSpec) : _root_.Go.OpenSpec := { _root_.Go.OpenSpec.ofChange s with cond := some uptoSmall }

/-- 'laws.FnLeaves', WHERE WHAT IT READS IS OF BULK AT MOST 1048576: true; the input reads as it did. -/
def fnLeavesUptoRow : OpenClaim := { program := "ytofdlkfihhjlgaa", sum := "85eca7b69cd58e37dcb9d8233be476c18e1c243ced1b708ecd56e56dbf46a015", func := "loop.example/g00284/laws.FnLeaves", spec := "fnLeaves", inPlace := ["internal/bytealg.abigen_runtime_cmpstring"], unfollowed := true, recurses := true, apart := false, narrowed := true }
def FnLeavesUptoSaid : Prop := fnLeavesUptoRow.holds Try.pinned (OpenSpec.upto fnLeavesSpec)

/-- 'laws.FnExactLeavesOk', WHERE WHAT IT READS IS OF BULK AT MOST 1048576: true; the input reads as it did. -/
def fnExactLeavesOkUptoRow : OpenClaim := { program := "ytofdlkfihhjlgaa", sum := "85eca7b69cd58e37dcb9d8233be476c18e1c243ced1b708ecd56e56dbf46a015", func := "loop.example/g00284/laws.FnExactLeavesOk", spec := "fnExactLeavesOk", inPlace := ["internal/bytealg.abigen_runtime_cmpstring"], apart := false, narrowed := true }
def FnExactLeavesOkUptoSaid : Prop := fnExactLeavesOkUptoRow.holds Try.pinned (OpenSpec.upto fnExactLeavesOkSpec)

/-- 'laws.FnExactLeafGet', WHERE WHAT IT READS IS OF BULK AT MOST 1048576: true; the input reads as it did. -/
def fnExactLeafGetUptoRow : OpenClaim := { program := "ytofdlkfihhjlgaa", sum := "85eca7b69cd58e37dcb9d8233be476c18e1c243ced1b708ecd56e56dbf46a015", func := "loop.example/g00284/laws.FnExactLeafGet", spec := "fnExactLeafGet", apart := false, narrowed := true }
def FnExactLeafGetUptoSaid : Prop := fnExactLeafGetUptoRow.holds Try.pinned (OpenSpec.upto fnExactLeafGetSpec)

/-- 'laws.FnExactLeafPut', WHERE WHAT IT READS IS OF BULK AT MOST 1048576: true; the input reads as it did. -/
def fnExactLeafPutUptoRow : OpenClaim := { program := "ytofdlkfihhjlgaa", sum := "85eca7b69cd58e37dcb9d8233be476c18e1c243ced1b708ecd56e56dbf46a015", func := "loop.example/g00284/laws.FnExactLeafPut", spec := "fnExactLeafPut", inPlace := ["internal/bytealg.abigen_runtime_cmpstring"], unfollowed := true, recurses := true, apart := false, narrowed := true }
def FnExactLeafPutUptoSaid : Prop := fnExactLeafPutUptoRow.holds Try.pinned (OpenSpec.upto fnExactLeafPutSpec)

/-- 'laws.FnExactLeafDrop', WHERE WHAT IT READS IS OF BULK AT MOST 1048576: true; the input reads as it did. -/
def fnExactLeafDropUptoRow : OpenClaim := { program := "ytofdlkfihhjlgaa", sum := "85eca7b69cd58e37dcb9d8233be476c18e1c243ced1b708ecd56e56dbf46a015", func := "loop.example/g00284/laws.FnExactLeafDrop", spec := "fnExactLeafDrop", inPlace := ["internal/bytealg.abigen_runtime_cmpstring"], unfollowed := true, recurses := true, apart := false, narrowed := true }
def FnExactLeafDropUptoSaid : Prop := fnExactLeafDropUptoRow.holds Try.pinned (OpenSpec.upto fnExactLeafDropSpec)

/-- 'laws.FnExactLeavesText', WHERE WHAT IT READS IS OF BULK AT MOST 1048576: true; the input reads as it did. -/
def fnExactLeavesTextUptoRow : OpenClaim := { program := "ytofdlkfihhjlgaa", sum := "85eca7b69cd58e37dcb9d8233be476c18e1c243ced1b708ecd56e56dbf46a015", func := "loop.example/g00284/laws.FnExactLeavesText", spec := "fnExactLeavesText", inPlace := ["internal/bytealg.abigen_runtime_cmpstring"], apart := false, narrowed := true }
def FnExactLeavesTextUptoSaid : Prop := fnExactLeavesTextUptoRow.holds Try.pinned (OpenSpec.upto fnExactLeavesTextSpec)

/-- 'laws.FnExactReadLeaves', WHERE WHAT IT READS IS OF BULK AT MOST 1048576: true; the input reads as it did. -/
def fnExactReadLeavesUptoRow : OpenClaim := { program := "ytofdlkfihhjlgaa", sum := "85eca7b69cd58e37dcb9d8233be476c18e1c243ced1b708ecd56e56dbf46a015", func := "loop.example/g00284/laws.FnExactReadLeaves", spec := "fnExactReadLeaves", inPlace := ["internal/bytealg.abigen_runtime_cmpstring"], apart := false, narrowed := true }
def FnExactReadLeavesUptoSaid : Prop := fnExactReadLeavesUptoRow.holds Try.pinned (OpenSpec.upto fnExactReadLeavesSpec)

end Rows
end Go.Proofs.Ytofdlkfihhjlgaa
