/-
  NARROWER THAN 'FOR EVERY INPUT', by the rows' own cells (each row's printed sentence says how): FnRootsDiffer: laid · FnForged: laid · FnExactProveLeaf: laid · FnExactProofOk: laid · FnExactProofTexts: laid · FnExactProofHash: laid · FnExactExtractTwo: laid.
  DERIVED. THE GIVEN ROWS OF THIS SEAT. 7 by the template 'for every input the law returns true; each argument reads behind the call as it read before'; 0 by the template 'total and deterministic' (their statements: YtojadcjoniejaaaDoorTotals.lean).
  GIVEN WITH THE SEED: the statements are not yours to turn. If you find one false, say at which input.
  Laid BY PROGRAM, IN A SANDBOX (cutbox-rows.mjs): the forced cells as the released guide's own fill.sh prints them over the translation 568af6adfbd86e7e… (all of the seat's roots in one cut). By AI agents, Wed Nov 11 2026. No macro, syntax, notation, axiom, sorry.
-/
import Derived.Test.YtojadcjoniejaaaDoorChecked
import GoSem.Claim
import GoSem.ClaimJoined
import GoSem.ClaimMapViews
import Derived.JoinedTies
import Derived.KernelRfl
namespace Go.Proofs.YtojadcjoniejaaaDoor
/- THE CELL 'sum', in the pinned program and in every row, IS THE sha256 OF THE DUMP (.gsa) THAT YtojadcjoniejaaaDoorProg.lean LOADS. Nothing in Lean hashes anything: it is a label: what it is worth is what the hold of that sum in a sandbox is worth. -/
noncomputable def Tryd.pinned : Pinned := { name := "ytojadcjoniejaaadoor", sum := "568af6adfbd86e7eb30763c194fb1d1a9c12005f086925f37a1da37f61b42b2e", checked := Tryd.checked }
namespace Rows
def none {H : Type} : Left H := { results := [], args := [] }

/- WHAT THE LISTED PACKAGE-LEVEL VARIABLES READ AS WHEN THE CALL BEGINS. Each datum BY PROGRAM (the guide's laid-datum.mjs) off the statement by which the dump's own 'gosem.cut.vars' lays the variable. In a bare row this is a premise. The card (YtojadcjoniejaaaDoorCards.lean) ties it to the program's text. -/
def laid_loop_example_g00284_impl_shaFirst {H : Type} : DataW H := .agg [.lit (.int .u32 1779033703), .lit (.int .u32 3144134277), .lit (.int .u32 1013904242), .lit (.int .u32 2773480762), .lit (.int .u32 1359893119), .lit (.int .u32 2600822924), .lit (.int .u32 528734635), .lit (.int .u32 1541459225)]
def laid_loop_example_g00284_impl_shaSteps {H : Type} : DataW H := .agg [.lit (.int .u32 1116352408), .lit (.int .u32 1899447441), .lit (.int .u32 3049323471), .lit (.int .u32 3921009573), .lit (.int .u32 961987163), .lit (.int .u32 1508970993), .lit (.int .u32 2453635748), .lit (.int .u32 2870763221), .lit (.int .u32 3624381080), .lit (.int .u32 310598401), .lit (.int .u32 607225278), .lit (.int .u32 1426881987), .lit (.int .u32 1925078388), .lit (.int .u32 2162078206), .lit (.int .u32 2614888103), .lit (.int .u32 3248222580), .lit (.int .u32 3835390401), .lit (.int .u32 4022224774), .lit (.int .u32 264347078), .lit (.int .u32 604807628), .lit (.int .u32 770255983), .lit (.int .u32 1249150122), .lit (.int .u32 1555081692), .lit (.int .u32 1996064986), .lit (.int .u32 2554220882), .lit (.int .u32 2821834349), .lit (.int .u32 2952996808), .lit (.int .u32 3210313671), .lit (.int .u32 3336571891), .lit (.int .u32 3584528711), .lit (.int .u32 113926993), .lit (.int .u32 338241895), .lit (.int .u32 666307205), .lit (.int .u32 773529912), .lit (.int .u32 1294757372), .lit (.int .u32 1396182291), .lit (.int .u32 1695183700), .lit (.int .u32 1986661051), .lit (.int .u32 2177026350), .lit (.int .u32 2456956037), .lit (.int .u32 2730485921), .lit (.int .u32 2820302411), .lit (.int .u32 3259730800), .lit (.int .u32 3345764771), .lit (.int .u32 3516065817), .lit (.int .u32 3600352804), .lit (.int .u32 4094571909), .lit (.int .u32 275423344), .lit (.int .u32 430227734), .lit (.int .u32 506948616), .lit (.int .u32 659060556), .lit (.int .u32 883997877), .lit (.int .u32 958139571), .lit (.int .u32 1322822218), .lit (.int .u32 1537002063), .lit (.int .u32 1747873779), .lit (.int .u32 1955562222), .lit (.int .u32 2024104815), .lit (.int .u32 2227730452), .lit (.int .u32 2361852424), .lit (.int .u32 2428436474), .lit (.int .u32 2756734187), .lit (.int .u32 3204031479), .lit (.int .u32 3329325298)]

/-- 'laws.FnRootsDiffer': WHATEVER THE INPUT: true; the input reads as it did. -/
def fnRootsDifferSpec : ChangeSpec := { name := "fnRootsDiffer", vars := ["loop.example/g00284/impl.shaFirst", "loop.example/g00284/impl.shaSteps"], fn := fun _ => fun
  | [d, g1, g2] => { results := [.lit (.bool true)], args := [d], vars := [g1, g2] }
  | _ => none }
def fnRootsDifferRow : OpenClaim := { program := "ytojadcjoniejaaadoor", sum := "568af6adfbd86e7eb30763c194fb1d1a9c12005f086925f37a1da37f61b42b2e", func := "loop.example/g00284/laws.FnRootsDiffer", spec := "fnRootsDiffer", inPlace := ["internal/bytealg.abigen_runtime_cmpstring"], unfollowed := true, recurses := true, named := ["loop.example/g00284/impl.shaFirst", "loop.example/g00284/impl.shaSteps"], apart := false, laid := [("loop.example/g00284/impl.shaFirst", laid_loop_example_g00284_impl_shaFirst), ("loop.example/g00284/impl.shaSteps", laid_loop_example_g00284_impl_shaSteps)] }
def FnRootsDifferSaid : Prop := fnRootsDifferRow.holds Tryd.pinned (OpenSpec.ofChange fnRootsDifferSpec)

/-- ITS FALSE NEIGHBOUR: 'it returns false'. Refute it at one input. -/
def fnRootsDifferWrong : ChangeSpec := { name := "fnRootsDiffer", vars := ["loop.example/g00284/impl.shaFirst", "loop.example/g00284/impl.shaSteps"], fn := fun _ => fun
  | [d, g1, g2] => { results := [.lit (.bool false)], args := [d], vars := [g1, g2] }
  | _ => none }
def FnRootsDifferWrongFalsely : Prop := fnRootsDifferRow.holds Tryd.pinned (OpenSpec.ofChange fnRootsDifferWrong)

/-- 'laws.FnForged': WHATEVER THE INPUT: true; the input reads as it did. -/
def fnForgedSpec : ChangeSpec := { name := "fnForged", vars := ["loop.example/g00284/impl.shaFirst", "loop.example/g00284/impl.shaSteps"], fn := fun _ => fun
  | [d, g1, g2] => { results := [.lit (.bool true)], args := [d], vars := [g1, g2] }
  | _ => none }
def fnForgedRow : OpenClaim := { program := "ytojadcjoniejaaadoor", sum := "568af6adfbd86e7eb30763c194fb1d1a9c12005f086925f37a1da37f61b42b2e", func := "loop.example/g00284/laws.FnForged", spec := "fnForged", inPlace := ["internal/bytealg.abigen_runtime_cmpstring"], recurses := true, named := ["loop.example/g00284/impl.shaFirst", "loop.example/g00284/impl.shaSteps"], apart := false, laid := [("loop.example/g00284/impl.shaFirst", laid_loop_example_g00284_impl_shaFirst), ("loop.example/g00284/impl.shaSteps", laid_loop_example_g00284_impl_shaSteps)] }
def FnForgedSaid : Prop := fnForgedRow.holds Tryd.pinned (OpenSpec.ofChange fnForgedSpec)

/-- ITS FALSE NEIGHBOUR: 'it returns false'. Refute it at one input. -/
def fnForgedWrong : ChangeSpec := { name := "fnForged", vars := ["loop.example/g00284/impl.shaFirst", "loop.example/g00284/impl.shaSteps"], fn := fun _ => fun
  | [d, g1, g2] => { results := [.lit (.bool false)], args := [d], vars := [g1, g2] }
  | _ => none }
def FnForgedWrongFalsely : Prop := fnForgedRow.holds Tryd.pinned (OpenSpec.ofChange fnForgedWrong)

/-- 'laws.FnExactProveLeaf': WHATEVER THE INPUT: true; the input reads as it did. -/
def fnExactProveLeafSpec : ChangeSpec := { name := "fnExactProveLeaf", vars := ["loop.example/g00284/impl.shaFirst", "loop.example/g00284/impl.shaSteps"], fn := fun _ => fun
  | [d1, d2, d3, d4, g1, g2] => { results := [.lit (.bool true)], args := [d1, d2, d3, d4], vars := [g1, g2] }
  | _ => none }
def fnExactProveLeafRow : OpenClaim := { program := "ytojadcjoniejaaadoor", sum := "568af6adfbd86e7eb30763c194fb1d1a9c12005f086925f37a1da37f61b42b2e", func := "loop.example/g00284/laws.FnExactProveLeaf", spec := "fnExactProveLeaf", inPlace := ["internal/bytealg.abigen_runtime_cmpstring"], unfollowed := true, recurses := true, named := ["loop.example/g00284/impl.shaFirst", "loop.example/g00284/impl.shaSteps"], apart := false, laid := [("loop.example/g00284/impl.shaFirst", laid_loop_example_g00284_impl_shaFirst), ("loop.example/g00284/impl.shaSteps", laid_loop_example_g00284_impl_shaSteps)] }
def FnExactProveLeafSaid : Prop := fnExactProveLeafRow.holds Tryd.pinned (OpenSpec.ofChange fnExactProveLeafSpec)

/-- ITS FALSE NEIGHBOUR: 'it returns false'. Refute it at one input. -/
def fnExactProveLeafWrong : ChangeSpec := { name := "fnExactProveLeaf", vars := ["loop.example/g00284/impl.shaFirst", "loop.example/g00284/impl.shaSteps"], fn := fun _ => fun
  | [d1, d2, d3, d4, g1, g2] => { results := [.lit (.bool false)], args := [d1, d2, d3, d4], vars := [g1, g2] }
  | _ => none }
def FnExactProveLeafWrongFalsely : Prop := fnExactProveLeafRow.holds Tryd.pinned (OpenSpec.ofChange fnExactProveLeafWrong)

/-- 'laws.FnExactProofOk': WHATEVER THE INPUT: true; the input reads as it did. -/
def fnExactProofOkSpec : ChangeSpec := { name := "fnExactProofOk", vars := ["loop.example/g00284/impl.shaFirst", "loop.example/g00284/impl.shaSteps"], fn := fun _ => fun
  | [d1, d2, d3, g1, g2] => { results := [.lit (.bool true)], args := [d1, d2, d3], vars := [g1, g2] }
  | _ => none }
def fnExactProofOkRow : OpenClaim := { program := "ytojadcjoniejaaadoor", sum := "568af6adfbd86e7eb30763c194fb1d1a9c12005f086925f37a1da37f61b42b2e", func := "loop.example/g00284/laws.FnExactProofOk", spec := "fnExactProofOk", inPlace := ["internal/bytealg.abigen_runtime_cmpstring"], named := ["loop.example/g00284/impl.shaFirst", "loop.example/g00284/impl.shaSteps"], apart := false, laid := [("loop.example/g00284/impl.shaFirst", laid_loop_example_g00284_impl_shaFirst), ("loop.example/g00284/impl.shaSteps", laid_loop_example_g00284_impl_shaSteps)] }
def FnExactProofOkSaid : Prop := fnExactProofOkRow.holds Tryd.pinned (OpenSpec.ofChange fnExactProofOkSpec)

/-- ITS FALSE NEIGHBOUR: 'it returns false'. Refute it at one input. -/
def fnExactProofOkWrong : ChangeSpec := { name := "fnExactProofOk", vars := ["loop.example/g00284/impl.shaFirst", "loop.example/g00284/impl.shaSteps"], fn := fun _ => fun
  | [d1, d2, d3, g1, g2] => { results := [.lit (.bool false)], args := [d1, d2, d3], vars := [g1, g2] }
  | _ => none }
def FnExactProofOkWrongFalsely : Prop := fnExactProofOkRow.holds Tryd.pinned (OpenSpec.ofChange fnExactProofOkWrong)

/-- 'laws.FnExactProofTexts': WHATEVER THE INPUT: true; the input reads as it did. -/
def fnExactProofTextsSpec : ChangeSpec := { name := "fnExactProofTexts", vars := ["loop.example/g00284/impl.shaFirst", "loop.example/g00284/impl.shaSteps"], fn := fun _ => fun
  | [d1, d2, d3, g1, g2] => { results := [.lit (.bool true)], args := [d1, d2, d3], vars := [g1, g2] }
  | _ => none }
def fnExactProofTextsRow : OpenClaim := { program := "ytojadcjoniejaaadoor", sum := "568af6adfbd86e7eb30763c194fb1d1a9c12005f086925f37a1da37f61b42b2e", func := "loop.example/g00284/laws.FnExactProofTexts", spec := "fnExactProofTexts", inPlace := ["internal/bytealg.abigen_runtime_cmpstring"], named := ["loop.example/g00284/impl.shaFirst", "loop.example/g00284/impl.shaSteps"], apart := false, laid := [("loop.example/g00284/impl.shaFirst", laid_loop_example_g00284_impl_shaFirst), ("loop.example/g00284/impl.shaSteps", laid_loop_example_g00284_impl_shaSteps)] }
def FnExactProofTextsSaid : Prop := fnExactProofTextsRow.holds Tryd.pinned (OpenSpec.ofChange fnExactProofTextsSpec)

/-- ITS FALSE NEIGHBOUR: 'it returns false'. Refute it at one input. -/
def fnExactProofTextsWrong : ChangeSpec := { name := "fnExactProofTexts", vars := ["loop.example/g00284/impl.shaFirst", "loop.example/g00284/impl.shaSteps"], fn := fun _ => fun
  | [d1, d2, d3, g1, g2] => { results := [.lit (.bool false)], args := [d1, d2, d3], vars := [g1, g2] }
  | _ => none }
def FnExactProofTextsWrongFalsely : Prop := fnExactProofTextsRow.holds Tryd.pinned (OpenSpec.ofChange fnExactProofTextsWrong)

/-- 'laws.FnExactProofHash': WHATEVER THE INPUT: true; the input reads as it did. -/
def fnExactProofHashSpec : ChangeSpec := { name := "fnExactProofHash", vars := ["loop.example/g00284/impl.shaFirst", "loop.example/g00284/impl.shaSteps"], fn := fun _ => fun
  | [d1, d2, d3, g1, g2] => { results := [.lit (.bool true)], args := [d1, d2, d3], vars := [g1, g2] }
  | _ => none }
def fnExactProofHashRow : OpenClaim := { program := "ytojadcjoniejaaadoor", sum := "568af6adfbd86e7eb30763c194fb1d1a9c12005f086925f37a1da37f61b42b2e", func := "loop.example/g00284/laws.FnExactProofHash", spec := "fnExactProofHash", inPlace := ["internal/bytealg.abigen_runtime_cmpstring"], named := ["loop.example/g00284/impl.shaFirst", "loop.example/g00284/impl.shaSteps"], apart := false, laid := [("loop.example/g00284/impl.shaFirst", laid_loop_example_g00284_impl_shaFirst), ("loop.example/g00284/impl.shaSteps", laid_loop_example_g00284_impl_shaSteps)] }
def FnExactProofHashSaid : Prop := fnExactProofHashRow.holds Tryd.pinned (OpenSpec.ofChange fnExactProofHashSpec)

/-- ITS FALSE NEIGHBOUR: 'it returns false'. Refute it at one input. -/
def fnExactProofHashWrong : ChangeSpec := { name := "fnExactProofHash", vars := ["loop.example/g00284/impl.shaFirst", "loop.example/g00284/impl.shaSteps"], fn := fun _ => fun
  | [d1, d2, d3, g1, g2] => { results := [.lit (.bool false)], args := [d1, d2, d3], vars := [g1, g2] }
  | _ => none }
def FnExactProofHashWrongFalsely : Prop := fnExactProofHashRow.holds Tryd.pinned (OpenSpec.ofChange fnExactProofHashWrong)

/-- 'laws.FnExactExtractTwo': WHATEVER THE INPUT: true; the input reads as it did. -/
def fnExactExtractTwoSpec : ChangeSpec := { name := "fnExactExtractTwo", vars := ["loop.example/g00284/impl.shaFirst", "loop.example/g00284/impl.shaSteps"], fn := fun _ => fun
  | [d1, d2, d3, d4, g1, g2] => { results := [.lit (.bool true)], args := [d1, d2, d3, d4], vars := [g1, g2] }
  | _ => none }
def fnExactExtractTwoRow : OpenClaim := { program := "ytojadcjoniejaaadoor", sum := "568af6adfbd86e7eb30763c194fb1d1a9c12005f086925f37a1da37f61b42b2e", func := "loop.example/g00284/laws.FnExactExtractTwo", spec := "fnExactExtractTwo", inPlace := ["internal/bytealg.abigen_runtime_cmpstring"], named := ["loop.example/g00284/impl.shaFirst", "loop.example/g00284/impl.shaSteps"], apart := false, laid := [("loop.example/g00284/impl.shaFirst", laid_loop_example_g00284_impl_shaFirst), ("loop.example/g00284/impl.shaSteps", laid_loop_example_g00284_impl_shaSteps)] }
def FnExactExtractTwoSaid : Prop := fnExactExtractTwoRow.holds Tryd.pinned (OpenSpec.ofChange fnExactExtractTwoSpec)

/-- ITS FALSE NEIGHBOUR: 'it returns false'. Refute it at one input. -/
def fnExactExtractTwoWrong : ChangeSpec := { name := "fnExactExtractTwo", vars := ["loop.example/g00284/impl.shaFirst", "loop.example/g00284/impl.shaSteps"], fn := fun _ => fun
  | [d1, d2, d3, d4, g1, g2] => { results := [.lit (.bool false)], args := [d1, d2, d3, d4], vars := [g1, g2] }
  | _ => none }
def FnExactExtractTwoWrongFalsely : Prop := fnExactExtractTwoRow.holds Tryd.pinned (OpenSpec.ofChange fnExactExtractTwoWrong)

/- THE SECOND FORM. 'bulk': how many values and letters a reading holds, each counted each time it is reached (what is shared counts as often as it is met; a slice's spare places count too). A statement '..UptoSaid' is the law's where the arguments, and the package variables that the reading takes, are together of bulk at most 1048576: NARROWER than '..Said'. Prove '..Said' where nothing that the law and all that it calls make is longer than what came in: it says more and counts as full. Else prove '..UptoSaid'. A law counts once. -/
mutual
def uptoBulk {H : Type} : DataW H → Nat
  | .lit (.string bytes) => bytes.length + 1
  | .lit _ => 1
  | .nil => 1
  | .ptr d => uptoBulk d + 1
  | .slice elems spare => uptoBulkAll elems + uptoBulkAll spare + 1
  | .agg parts => uptoBulkAll parts + 1
  | .iface _ d => uptoBulk d + 1
  | .map entries => uptoBulkEntries entries + 1
  | .held _ => 1
def uptoBulkAll {H : Type} : List (DataW H) → Nat
  | [] => 0
  | d :: r => uptoBulk d + uptoBulkAll r
def uptoBulkEntries {H : Type} : List (Lit × DataW H) → Nat
  | [] => 0
  | x :: r => uptoBulkEntry x + uptoBulkEntries r
def uptoBulkEntry {H : Type} : Lit × DataW H → Nat
  | (.string bytes, d) => bytes.length + uptoBulk d + 1
  | (_, d) => uptoBulk d + 1
 end
def uptoSmall : (H : Type) → List (DataW H) → Bool := fun _ ds => decide (uptoBulkAll ds ≤ 1048576)
def OpenSpec.upto (s : _root_.Go.ChangeSpec) : _root_.Go.OpenSpec := { _root_.Go.OpenSpec.ofChange s with cond := some uptoSmall }

/-- 'laws.FnRootsDiffer', WHERE WHAT IT READS IS OF BULK AT MOST 1048576: true; the input reads as it did. -/
def fnRootsDifferUptoRow : OpenClaim := { program := "ytojadcjoniejaaadoor", sum := "568af6adfbd86e7eb30763c194fb1d1a9c12005f086925f37a1da37f61b42b2e", func := "loop.example/g00284/laws.FnRootsDiffer", spec := "fnRootsDiffer", inPlace := ["internal/bytealg.abigen_runtime_cmpstring"], unfollowed := true, recurses := true, named := ["loop.example/g00284/impl.shaFirst", "loop.example/g00284/impl.shaSteps"], apart := false, laid := [("loop.example/g00284/impl.shaFirst", laid_loop_example_g00284_impl_shaFirst), ("loop.example/g00284/impl.shaSteps", laid_loop_example_g00284_impl_shaSteps)], narrowed := true }
def FnRootsDifferUptoSaid : Prop := fnRootsDifferUptoRow.holds Tryd.pinned (OpenSpec.upto fnRootsDifferSpec)

/-- 'laws.FnForged', WHERE WHAT IT READS IS OF BULK AT MOST 1048576: true; the input reads as it did. -/
def fnForgedUptoRow : OpenClaim := { program := "ytojadcjoniejaaadoor", sum := "568af6adfbd86e7eb30763c194fb1d1a9c12005f086925f37a1da37f61b42b2e", func := "loop.example/g00284/laws.FnForged", spec := "fnForged", inPlace := ["internal/bytealg.abigen_runtime_cmpstring"], recurses := true, named := ["loop.example/g00284/impl.shaFirst", "loop.example/g00284/impl.shaSteps"], apart := false, laid := [("loop.example/g00284/impl.shaFirst", laid_loop_example_g00284_impl_shaFirst), ("loop.example/g00284/impl.shaSteps", laid_loop_example_g00284_impl_shaSteps)], narrowed := true }
def FnForgedUptoSaid : Prop := fnForgedUptoRow.holds Tryd.pinned (OpenSpec.upto fnForgedSpec)

/-- 'laws.FnExactProveLeaf', WHERE WHAT IT READS IS OF BULK AT MOST 1048576: true; the input reads as it did. -/
def fnExactProveLeafUptoRow : OpenClaim := { program := "ytojadcjoniejaaadoor", sum := "568af6adfbd86e7eb30763c194fb1d1a9c12005f086925f37a1da37f61b42b2e", func := "loop.example/g00284/laws.FnExactProveLeaf", spec := "fnExactProveLeaf", inPlace := ["internal/bytealg.abigen_runtime_cmpstring"], unfollowed := true, recurses := true, named := ["loop.example/g00284/impl.shaFirst", "loop.example/g00284/impl.shaSteps"], apart := false, laid := [("loop.example/g00284/impl.shaFirst", laid_loop_example_g00284_impl_shaFirst), ("loop.example/g00284/impl.shaSteps", laid_loop_example_g00284_impl_shaSteps)], narrowed := true }
def FnExactProveLeafUptoSaid : Prop := fnExactProveLeafUptoRow.holds Tryd.pinned (OpenSpec.upto fnExactProveLeafSpec)

/-- 'laws.FnExactProofOk', WHERE WHAT IT READS IS OF BULK AT MOST 1048576: true; the input reads as it did. -/
def fnExactProofOkUptoRow : OpenClaim := { program := "ytojadcjoniejaaadoor", sum := "568af6adfbd86e7eb30763c194fb1d1a9c12005f086925f37a1da37f61b42b2e", func := "loop.example/g00284/laws.FnExactProofOk", spec := "fnExactProofOk", inPlace := ["internal/bytealg.abigen_runtime_cmpstring"], named := ["loop.example/g00284/impl.shaFirst", "loop.example/g00284/impl.shaSteps"], apart := false, laid := [("loop.example/g00284/impl.shaFirst", laid_loop_example_g00284_impl_shaFirst), ("loop.example/g00284/impl.shaSteps", laid_loop_example_g00284_impl_shaSteps)], narrowed := true }
def FnExactProofOkUptoSaid : Prop := fnExactProofOkUptoRow.holds Tryd.pinned (OpenSpec.upto fnExactProofOkSpec)

/-- 'laws.FnExactProofTexts', WHERE WHAT IT READS IS OF BULK AT MOST 1048576: true; the input reads as it did. -/
def fnExactProofTextsUptoRow : OpenClaim := { program := "ytojadcjoniejaaadoor", sum := "568af6adfbd86e7eb30763c194fb1d1a9c12005f086925f37a1da37f61b42b2e", func := "loop.example/g00284/laws.FnExactProofTexts", spec := "fnExactProofTexts", inPlace := ["internal/bytealg.abigen_runtime_cmpstring"], named := ["loop.example/g00284/impl.shaFirst", "loop.example/g00284/impl.shaSteps"], apart := false, laid := [("loop.example/g00284/impl.shaFirst", laid_loop_example_g00284_impl_shaFirst), ("loop.example/g00284/impl.shaSteps", laid_loop_example_g00284_impl_shaSteps)], narrowed := true }
def FnExactProofTextsUptoSaid : Prop := fnExactProofTextsUptoRow.holds Tryd.pinned (OpenSpec.upto fnExactProofTextsSpec)

/-- 'laws.FnExactProofHash', WHERE WHAT IT READS IS OF BULK AT MOST 1048576: true; the input reads as it did. -/
def fnExactProofHashUptoRow : OpenClaim := { program := "ytojadcjoniejaaadoor", sum := "568af6adfbd86e7eb30763c194fb1d1a9c12005f086925f37a1da37f61b42b2e", func := "loop.example/g00284/laws.FnExactProofHash", spec := "fnExactProofHash", inPlace := ["internal/bytealg.abigen_runtime_cmpstring"], named := ["loop.example/g00284/impl.shaFirst", "loop.example/g00284/impl.shaSteps"], apart := false, laid := [("loop.example/g00284/impl.shaFirst", laid_loop_example_g00284_impl_shaFirst), ("loop.example/g00284/impl.shaSteps", laid_loop_example_g00284_impl_shaSteps)], narrowed := true }
def FnExactProofHashUptoSaid : Prop := fnExactProofHashUptoRow.holds Tryd.pinned (OpenSpec.upto fnExactProofHashSpec)

/-- 'laws.FnExactExtractTwo', WHERE WHAT IT READS IS OF BULK AT MOST 1048576: true; the input reads as it did. -/
def fnExactExtractTwoUptoRow : OpenClaim := { program := "ytojadcjoniejaaadoor", sum := "568af6adfbd86e7eb30763c194fb1d1a9c12005f086925f37a1da37f61b42b2e", func := "loop.example/g00284/laws.FnExactExtractTwo", spec := "fnExactExtractTwo", inPlace := ["internal/bytealg.abigen_runtime_cmpstring"], named := ["loop.example/g00284/impl.shaFirst", "loop.example/g00284/impl.shaSteps"], apart := false, laid := [("loop.example/g00284/impl.shaFirst", laid_loop_example_g00284_impl_shaFirst), ("loop.example/g00284/impl.shaSteps", laid_loop_example_g00284_impl_shaSteps)], narrowed := true }
def FnExactExtractTwoUptoSaid : Prop := fnExactExtractTwoUptoRow.holds Tryd.pinned (OpenSpec.upto fnExactExtractTwoSpec)

end Rows
end Go.Proofs.YtojadcjoniejaaaDoor
