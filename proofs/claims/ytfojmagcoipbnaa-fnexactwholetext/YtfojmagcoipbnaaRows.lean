/-
  No cell of these rows narrows 'for every input' (looked for: loops, veiled, ifaces, maps, wideKeys, modest, calm, conditions, laid).
  DERIVED. THE GIVEN ROWS OF THIS SEAT. 5 by the template 'for every input the law returns true; each argument reads behind the call as it read before'; 0 by the template 'total and deterministic' (their statements: YtfojmagcoipbnaaTotals.lean).
  GIVEN WITH THE SEED: the statements are not yours to turn. If you find one false, say at which input.
  Laid BY PROGRAM, IN A SANDBOX (cutbox-rows.mjs): the forced cells as the released guide's own fill.sh prints them over the translation 8ff27d4f8dba8b4d… (all of the seat's roots in one cut). By AI agents, Wed Nov 11 2026. No macro, syntax, notation, axiom, sorry.
-/
import Derived.Test.YtfojmagcoipbnaaChecked
import GoSem.Claim
import GoSem.ClaimJoined
import GoSem.ClaimMapViews
import Derived.JoinedTies
import Derived.KernelRfl
namespace Go.Proofs.Ytfojmagcoipbnaa
/- THE CELL 'sum', in the pinned program and in every row, IS THE sha256 OF THE DUMP (.gsa) THAT YtfojmagcoipbnaaProg.lean LOADS. Nothing in Lean hashes anything: it is a label: what it is worth is what the hold of that sum in a sandbox is worth. -/
noncomputable def Try.pinned : Pinned := { name := "ytfojmagcoipbnaa", sum := "8ff27d4f8dba8b4d63c16b63ebdf5f3272548fccdabb84aa0c7a578c9290e070", checked := Try.checked }
namespace Rows
def none {H : Type} : Left H := { results := [], args := [] }

/-- 'laws.FnExactProofText': WHATEVER THE INPUT: true; the input reads as it did. -/
def fnExactProofTextSpec : ChangeSpec := { name := "fnExactProofText", fn := fun _ => fun
  | [d1, d2] => { results := [.lit (.bool true)], args := [d1, d2] }
  | _ => none }
def fnExactProofTextRow : OpenClaim := { program := "ytfojmagcoipbnaa", sum := "8ff27d4f8dba8b4d63c16b63ebdf5f3272548fccdabb84aa0c7a578c9290e070", func := "loop.example/g00284/laws.FnExactProofText", spec := "fnExactProofText", inPlace := ["internal/bytealg.abigen_runtime_cmpstring", "internal/abi.NoEscape", "internal/bytealg.MakeNoZero"], apart := false }
def FnExactProofTextSaid : Prop := fnExactProofTextRow.holds Try.pinned (OpenSpec.ofChange fnExactProofTextSpec)

/-- ITS FALSE NEIGHBOUR: 'it returns false'. Refute it at one input. -/
def fnExactProofTextWrong : ChangeSpec := { name := "fnExactProofText", fn := fun _ => fun
  | [d1, d2] => { results := [.lit (.bool false)], args := [d1, d2] }
  | _ => none }
def FnExactProofTextWrongFalsely : Prop := fnExactProofTextRow.holds Try.pinned (OpenSpec.ofChange fnExactProofTextWrong)

/-- 'laws.FnExactReadProof': WHATEVER THE INPUT: true; the input reads as it did. -/
def fnExactReadProofSpec : ChangeSpec := { name := "fnExactReadProof", fn := fun _ => fun
  | [d1, d2] => { results := [.lit (.bool true)], args := [d1, d2] }
  | _ => none }
def fnExactReadProofRow : OpenClaim := { program := "ytfojmagcoipbnaa", sum := "8ff27d4f8dba8b4d63c16b63ebdf5f3272548fccdabb84aa0c7a578c9290e070", func := "loop.example/g00284/laws.FnExactReadProof", spec := "fnExactReadProof", inPlace := ["internal/bytealg.abigen_runtime_cmpstring"], unfollowed := true, recurses := true, apart := false }
def FnExactReadProofSaid : Prop := fnExactReadProofRow.holds Try.pinned (OpenSpec.ofChange fnExactReadProofSpec)

/-- ITS FALSE NEIGHBOUR: 'it returns false'. Refute it at one input. -/
def fnExactReadProofWrong : ChangeSpec := { name := "fnExactReadProof", fn := fun _ => fun
  | [d1, d2] => { results := [.lit (.bool false)], args := [d1, d2] }
  | _ => none }
def FnExactReadProofWrongFalsely : Prop := fnExactReadProofRow.holds Try.pinned (OpenSpec.ofChange fnExactReadProofWrong)

/-- 'laws.FnExactTrustOk': WHATEVER THE INPUT: true; the input reads as it did. -/
def fnExactTrustOkSpec : ChangeSpec := { name := "fnExactTrustOk", fn := fun _ => fun
  | [d] => { results := [.lit (.bool true)], args := [d] }
  | _ => none }
def fnExactTrustOkRow : OpenClaim := { program := "ytfojmagcoipbnaa", sum := "8ff27d4f8dba8b4d63c16b63ebdf5f3272548fccdabb84aa0c7a578c9290e070", func := "loop.example/g00284/laws.FnExactTrustOk", spec := "fnExactTrustOk", apart := false }
def FnExactTrustOkSaid : Prop := fnExactTrustOkRow.holds Try.pinned (OpenSpec.ofChange fnExactTrustOkSpec)

/-- ITS FALSE NEIGHBOUR: 'it returns false'. Refute it at one input. -/
def fnExactTrustOkWrong : ChangeSpec := { name := "fnExactTrustOk", fn := fun _ => fun
  | [d] => { results := [.lit (.bool false)], args := [d] }
  | _ => none }
def FnExactTrustOkWrongFalsely : Prop := fnExactTrustOkRow.holds Try.pinned (OpenSpec.ofChange fnExactTrustOkWrong)

/-- 'laws.FnExactWholeText': WHATEVER THE INPUT: true; the input reads as it did. -/
def fnExactWholeTextSpec : ChangeSpec := { name := "fnExactWholeText", fn := fun _ => fun
  | [d] => { results := [.lit (.bool true)], args := [d] }
  | _ => none }
def fnExactWholeTextRow : OpenClaim := { program := "ytfojmagcoipbnaa", sum := "8ff27d4f8dba8b4d63c16b63ebdf5f3272548fccdabb84aa0c7a578c9290e070", func := "loop.example/g00284/laws.FnExactWholeText", spec := "fnExactWholeText", inPlace := ["internal/bytealg.abigen_runtime_cmpstring", "internal/abi.NoEscape", "internal/bytealg.MakeNoZero"], apart := false }
def FnExactWholeTextSaid : Prop := fnExactWholeTextRow.holds Try.pinned (OpenSpec.ofChange fnExactWholeTextSpec)

/-- ITS FALSE NEIGHBOUR: 'it returns false'. Refute it at one input. -/
def fnExactWholeTextWrong : ChangeSpec := { name := "fnExactWholeText", fn := fun _ => fun
  | [d] => { results := [.lit (.bool false)], args := [d] }
  | _ => none }
def FnExactWholeTextWrongFalsely : Prop := fnExactWholeTextRow.holds Try.pinned (OpenSpec.ofChange fnExactWholeTextWrong)

/-- 'laws.FnExactReadWhole': WHATEVER THE INPUT: true; the input reads as it did. -/
def fnExactReadWholeSpec : ChangeSpec := { name := "fnExactReadWhole", fn := fun _ => fun
  | [d] => { results := [.lit (.bool true)], args := [d] }
  | _ => none }
def fnExactReadWholeRow : OpenClaim := { program := "ytfojmagcoipbnaa", sum := "8ff27d4f8dba8b4d63c16b63ebdf5f3272548fccdabb84aa0c7a578c9290e070", func := "loop.example/g00284/laws.FnExactReadWhole", spec := "fnExactReadWhole", inPlace := ["internal/bytealg.abigen_runtime_cmpstring"], unfollowed := true, recurses := true, apart := false }
def FnExactReadWholeSaid : Prop := fnExactReadWholeRow.holds Try.pinned (OpenSpec.ofChange fnExactReadWholeSpec)

/-- ITS FALSE NEIGHBOUR: 'it returns false'. Refute it at one input. -/
def fnExactReadWholeWrong : ChangeSpec := { name := "fnExactReadWhole", fn := fun _ => fun
  | [d] => { results := [.lit (.bool false)], args := [d] }
  | _ => none }
def FnExactReadWholeWrongFalsely : Prop := fnExactReadWholeRow.holds Try.pinned (OpenSpec.ofChange fnExactReadWholeWrong)

/- THE SECOND FORM. 'bulk': how many values and letters a reading holds, each counted each time it is reached (what is shared counts as often as it is met; a slice's spare places count too). A statement '..UptoSaid' is the law's where the arguments, and the package variables that the reading takes, are together of bulk at most 1048576: NARROWER than '..Said'. Prove '..Said' where nothing that the law and all that it calls make is longer than what came in: it says more and counts as full. Else prove '..UptoSaid'. A law counts once. -/
mutual
def uptoBulk {H : Type} : DataW H → Nat
  | .lit (.string bytes) => bytes.length + 1
  | .lit _ => 1
  | .nil => 1
  | .ptr d => uptoBulk d + 1
  | .slice elems spare => uptoBulkAll elems + uptoBulkAll spare + 1
  | .agg parts => uptoBulkAll parts + 1
  | .iface _ d => uptoBulk d + 1
  | .map entries => uptoBulkEntries entries + 1
  | .held _ => 1
def uptoBulkAll {H : Type} : List (DataW H) → Nat
  | [] => 0
  | d :: r => uptoBulk d + uptoBulkAll r
def uptoBulkEntries {H : Type} : List (Lit × DataW H) → Nat
  | [] => 0
  | x :: r => uptoBulkEntry x + uptoBulkEntries r
def uptoBulkEntry {H : Type} : Lit × DataW H → Nat
  | (.string bytes, d) => bytes.length + uptoBulk d + 1
  | (_, d) => uptoBulk d + 1
 end
def uptoSmall : (H : Type) → List (DataW H) → Bool := fun _ ds => decide (uptoBulkAll ds ≤ 1048576)
def OpenSpec.upto (s : _root_.Go.ChangeSpec) : _root_.Go.OpenSpec := { _root_.Go.OpenSpec.ofChange s with cond := some uptoSmall }

/-- 'laws.FnExactProofText', WHERE WHAT IT READS IS OF BULK AT MOST 1048576: true; the input reads as it did. -/
def fnExactProofTextUptoRow : OpenClaim := { program := "ytfojmagcoipbnaa", sum := "8ff27d4f8dba8b4d63c16b63ebdf5f3272548fccdabb84aa0c7a578c9290e070", func := "loop.example/g00284/laws.FnExactProofText", spec := "fnExactProofText", inPlace := ["internal/bytealg.abigen_runtime_cmpstring", "internal/abi.NoEscape", "internal/bytealg.MakeNoZero"], apart := false, narrowed := true }
def FnExactProofTextUptoSaid : Prop := fnExactProofTextUptoRow.holds Try.pinned (OpenSpec.upto fnExactProofTextSpec)

/-- 'laws.FnExactReadProof', WHERE WHAT IT READS IS OF BULK AT MOST 1048576: true; the input reads as it did. -/
def fnExactReadProofUptoRow : OpenClaim := { program := "ytfojmagcoipbnaa", sum := "8ff27d4f8dba8b4d63c16b63ebdf5f3272548fccdabb84aa0c7a578c9290e070", func := "loop.example/g00284/laws.FnExactReadProof", spec := "fnExactReadProof", inPlace := ["internal/bytealg.abigen_runtime_cmpstring"], unfollowed := true, recurses := true, apart := false, narrowed := true }
def FnExactReadProofUptoSaid : Prop := fnExactReadProofUptoRow.holds Try.pinned (OpenSpec.upto fnExactReadProofSpec)

/-- 'laws.FnExactTrustOk', WHERE WHAT IT READS IS OF BULK AT MOST 1048576: true; the input reads as it did. -/
def fnExactTrustOkUptoRow : OpenClaim := { program := "ytfojmagcoipbnaa", sum := "8ff27d4f8dba8b4d63c16b63ebdf5f3272548fccdabb84aa0c7a578c9290e070", func := "loop.example/g00284/laws.FnExactTrustOk", spec := "fnExactTrustOk", apart := false, narrowed := true }
def FnExactTrustOkUptoSaid : Prop := fnExactTrustOkUptoRow.holds Try.pinned (OpenSpec.upto fnExactTrustOkSpec)

/-- 'laws.FnExactWholeText', WHERE WHAT IT READS IS OF BULK AT MOST 1048576: true; the input reads as it did. -/
def fnExactWholeTextUptoRow : OpenClaim := { program := "ytfojmagcoipbnaa", sum := "8ff27d4f8dba8b4d63c16b63ebdf5f3272548fccdabb84aa0c7a578c9290e070", func := "loop.example/g00284/laws.FnExactWholeText", spec := "fnExactWholeText", inPlace := ["internal/bytealg.abigen_runtime_cmpstring", "internal/abi.NoEscape", "internal/bytealg.MakeNoZero"], apart := false, narrowed := true }
def FnExactWholeTextUptoSaid : Prop := fnExactWholeTextUptoRow.holds Try.pinned (OpenSpec.upto fnExactWholeTextSpec)

/-- 'laws.FnExactReadWhole', WHERE WHAT IT READS IS OF BULK AT MOST 1048576: true; the input reads as it did. -/
def fnExactReadWholeUptoRow : OpenClaim := { program := "ytfojmagcoipbnaa", sum := "8ff27d4f8dba8b4d63c16b63ebdf5f3272548fccdabb84aa0c7a578c9290e070", func := "loop.example/g00284/laws.FnExactReadWhole", spec := "fnExactReadWhole", inPlace := ["internal/bytealg.abigen_runtime_cmpstring"], unfollowed := true, recurses := true, apart := false, narrowed := true }
def FnExactReadWholeUptoSaid : Prop := fnExactReadWholeUptoRow.holds Try.pinned (OpenSpec.upto fnExactReadWholeSpec)

end Rows
end Go.Proofs.Ytfojmagcoipbnaa
