/-
  NARROWER THAN 'FOR EVERY INPUT', by the rows' own cells (each row's printed sentence says how): FnRoots: laid · FnNodes: laid · FnRootsDiffer: laid · FnExactEmptyHash: laid · FnExactBucketHash: laid · FnExactNodeHash: laid · FnExactRootOf: laid · FnExactSidesOf: laid · FnExactFoldUp: laid.
  DERIVED. THE GIVEN ROWS OF THIS SEAT. 9 by the template 'for every input the law returns true; each argument reads behind the call as it read before'; 0 by the template 'total and deterministic' (their statements: YtmhoilliaeefcaaDoorTotals.lean).
  GIVEN WITH THE SEED: the statements are not yours to turn. If you find one false, say at which input.
  Laid BY PROGRAM, IN A SANDBOX (cutbox-rows.mjs): the forced cells as the released guide's own fill.sh prints them over the translation 0d93e5c4133d62c6… (all of the seat's roots in one cut). By AI agents, Wed Nov 11 2026. No macro, syntax, notation, axiom, sorry.
-/
import Derived.Test.YtmhoilliaeefcaaDoorChecked
import GoSem.Claim
import GoSem.ClaimJoined
import GoSem.ClaimMapViews
import Derived.JoinedTies
import Derived.KernelRfl
namespace Go.Proofs.YtmhoilliaeefcaaDoor
/- THE CELL 'sum', in the pinned program and in every row, IS THE sha256 OF THE DUMP (.gsa) THAT YtmhoilliaeefcaaDoorProg.lean LOADS. Nothing in Lean hashes anything: it is a label: what it is worth is what the hold of that sum in a sandbox is worth. -/
noncomputable def Tryd.pinned : Pinned := { name := "ytmhoilliaeefcaadoor", sum := "0d93e5c4133d62c6893d6ca5de84ad7c2819403d40fa9d4dd0449c8fa9ba8f49", checked := Tryd.checked }
namespace Rows
def none {H : Type} : Left H := { results := [], args := [] }

/- WHAT THE LISTED PACKAGE-LEVEL VARIABLES READ AS WHEN THE CALL BEGINS. Each datum BY PROGRAM (the guide's laid-datum.mjs) off the statement by which the dump's own 'gosem.cut.vars' lays the variable. In a bare row this is a premise. The card (YtmhoilliaeefcaaDoorCards.lean) ties it to the program's text. -/
def laid_loop_example_g00284_impl_shaFirst {H : Type} : DataW H := .agg [.lit (.int .u32 1779033703), .lit (.int .u32 3144134277), .lit (.int .u32 1013904242), .lit (.int .u32 2773480762), .lit (.int .u32 1359893119), .lit (.int .u32 2600822924), .lit (.int .u32 528734635), .lit (.int .u32 1541459225)]
def laid_loop_example_g00284_impl_shaSteps {H : Type} : DataW H := .agg [.lit (.int .u32 1116352408), .lit (.int .u32 1899447441), .lit (.int .u32 3049323471), .lit (.int .u32 3921009573), .lit (.int .u32 961987163), .lit (.int .u32 1508970993), .lit (.int .u32 2453635748), .lit (.int .u32 2870763221), .lit (.int .u32 3624381080), .lit (.int .u32 310598401), .lit (.int .u32 607225278), .lit (.int .u32 1426881987), .lit (.int .u32 1925078388), .lit (.int .u32 2162078206), .lit (.int .u32 2614888103), .lit (.int .u32 3248222580), .lit (.int .u32 3835390401), .lit (.int .u32 4022224774), .lit (.int .u32 264347078), .lit (.int .u32 604807628), .lit (.int .u32 770255983), .lit (.int .u32 1249150122), .lit (.int .u32 1555081692), .lit (.int .u32 1996064986), .lit (.int .u32 2554220882), .lit (.int .u32 2821834349), .lit (.int .u32 2952996808), .lit (.int .u32 3210313671), .lit (.int .u32 3336571891), .lit (.int .u32 3584528711), .lit (.int .u32 113926993), .lit (.int .u32 338241895), .lit (.int .u32 666307205), .lit (.int .u32 773529912), .lit (.int .u32 1294757372), .lit (.int .u32 1396182291), .lit (.int .u32 1695183700), .lit (.int .u32 1986661051), .lit (.int .u32 2177026350), .lit (.int .u32 2456956037), .lit (.int .u32 2730485921), .lit (.int .u32 2820302411), .lit (.int .u32 3259730800), .lit (.int .u32 3345764771), .lit (.int .u32 3516065817), .lit (.int .u32 3600352804), .lit (.int .u32 4094571909), .lit (.int .u32 275423344), .lit (.int .u32 430227734), .lit (.int .u32 506948616), .lit (.int .u32 659060556), .lit (.int .u32 883997877), .lit (.int .u32 958139571), .lit (.int .u32 1322822218), .lit (.int .u32 1537002063), .lit (.int .u32 1747873779), .lit (.int .u32 1955562222), .lit (.int .u32 2024104815), .lit (.int .u32 2227730452), .lit (.int .u32 2361852424), .lit (.int .u32 2428436474), .lit (.int .u32 2756734187), .lit (.int .u32 3204031479), .lit (.int .u32 3329325298)]

/-- 'laws.FnRoots': WHATEVER THE INPUT: true; the input reads as it did. -/
def fnRootsSpec : ChangeSpec := { name := "fnRoots", vars := ["loop.example/g00284/impl.shaFirst", "loop.example/g00284/impl.shaSteps"], fn := fun _ => fun
  | [d, g1, g2] => { results := [.lit (.bool true)], args := [d], vars := [g1, g2] }
  | _ => none }
def fnRootsRow : OpenClaim := { program := "ytmhoilliaeefcaadoor", sum := "0d93e5c4133d62c6893d6ca5de84ad7c2819403d40fa9d4dd0449c8fa9ba8f49", func := "loop.example/g00284/laws.FnRoots", spec := "fnRoots", inPlace := ["internal/bytealg.abigen_runtime_cmpstring"], unfollowed := true, recurses := true, named := ["loop.example/g00284/impl.shaFirst", "loop.example/g00284/impl.shaSteps"], apart := false, laid := [("loop.example/g00284/impl.shaFirst", laid_loop_example_g00284_impl_shaFirst), ("loop.example/g00284/impl.shaSteps", laid_loop_example_g00284_impl_shaSteps)] }
def FnRootsSaid : Prop := fnRootsRow.holds Tryd.pinned (OpenSpec.ofChange fnRootsSpec)

/-- ITS FALSE NEIGHBOUR: 'it returns false'. Refute it at one input. -/
def fnRootsWrong : ChangeSpec := { name := "fnRoots", vars := ["loop.example/g00284/impl.shaFirst", "loop.example/g00284/impl.shaSteps"], fn := fun _ => fun
  | [d, g1, g2] => { results := [.lit (.bool false)], args := [d], vars := [g1, g2] }
  | _ => none }
def FnRootsWrongFalsely : Prop := fnRootsRow.holds Tryd.pinned (OpenSpec.ofChange fnRootsWrong)

/-- 'laws.FnNodes': WHATEVER THE INPUT: true; the input reads as it did. -/
def fnNodesSpec : ChangeSpec := { name := "fnNodes", vars := ["loop.example/g00284/impl.shaFirst", "loop.example/g00284/impl.shaSteps"], fn := fun _ => fun
  | [d, g1, g2] => { results := [.lit (.bool true)], args := [d], vars := [g1, g2] }
  | _ => none }
def fnNodesRow : OpenClaim := { program := "ytmhoilliaeefcaadoor", sum := "0d93e5c4133d62c6893d6ca5de84ad7c2819403d40fa9d4dd0449c8fa9ba8f49", func := "loop.example/g00284/laws.FnNodes", spec := "fnNodes", inPlace := ["internal/bytealg.abigen_runtime_cmpstring"], unfollowed := true, recurses := true, named := ["loop.example/g00284/impl.shaFirst", "loop.example/g00284/impl.shaSteps"], apart := false, laid := [("loop.example/g00284/impl.shaFirst", laid_loop_example_g00284_impl_shaFirst), ("loop.example/g00284/impl.shaSteps", laid_loop_example_g00284_impl_shaSteps)] }
def FnNodesSaid : Prop := fnNodesRow.holds Tryd.pinned (OpenSpec.ofChange fnNodesSpec)

/-- ITS FALSE NEIGHBOUR: 'it returns false'. Refute it at one input. -/
def fnNodesWrong : ChangeSpec := { name := "fnNodes", vars := ["loop.example/g00284/impl.shaFirst", "loop.example/g00284/impl.shaSteps"], fn := fun _ => fun
  | [d, g1, g2] => { results := [.lit (.bool false)], args := [d], vars := [g1, g2] }
  | _ => none }
def FnNodesWrongFalsely : Prop := fnNodesRow.holds Tryd.pinned (OpenSpec.ofChange fnNodesWrong)

/-- 'laws.FnRootsDiffer': WHATEVER THE INPUT: true; the input reads as it did. -/
def fnRootsDifferSpec : ChangeSpec := { name := "fnRootsDiffer", vars := ["loop.example/g00284/impl.shaFirst", "loop.example/g00284/impl.shaSteps"], fn := fun _ => fun
  | [d, g1, g2] => { results := [.lit (.bool true)], args := [d], vars := [g1, g2] }
  | _ => none }
def fnRootsDifferRow : OpenClaim := { program := "ytmhoilliaeefcaadoor", sum := "0d93e5c4133d62c6893d6ca5de84ad7c2819403d40fa9d4dd0449c8fa9ba8f49", func := "loop.example/g00284/laws.FnRootsDiffer", spec := "fnRootsDiffer", inPlace := ["internal/bytealg.abigen_runtime_cmpstring"], unfollowed := true, recurses := true, named := ["loop.example/g00284/impl.shaFirst", "loop.example/g00284/impl.shaSteps"], apart := false, laid := [("loop.example/g00284/impl.shaFirst", laid_loop_example_g00284_impl_shaFirst), ("loop.example/g00284/impl.shaSteps", laid_loop_example_g00284_impl_shaSteps)] }
def FnRootsDifferSaid : Prop := fnRootsDifferRow.holds Tryd.pinned (OpenSpec.ofChange fnRootsDifferSpec)

/-- ITS FALSE NEIGHBOUR: 'it returns false'. Refute it at one input. -/
def fnRootsDifferWrong : ChangeSpec := { name := "fnRootsDiffer", vars := ["loop.example/g00284/impl.shaFirst", "loop.example/g00284/impl.shaSteps"], fn := fun _ => fun
  | [d, g1, g2] => { results := [.lit (.bool false)], args := [d], vars := [g1, g2] }
  | _ => none }
def FnRootsDifferWrongFalsely : Prop := fnRootsDifferRow.holds Tryd.pinned (OpenSpec.ofChange fnRootsDifferWrong)

/-- 'laws.FnExactEmptyHash': WHATEVER THE INPUT: true; the input reads as it did. -/
def fnExactEmptyHashSpec : ChangeSpec := { name := "fnExactEmptyHash", vars := ["loop.example/g00284/impl.shaFirst", "loop.example/g00284/impl.shaSteps"], fn := fun _ => fun
  | [d1, d2, g1, g2] => { results := [.lit (.bool true)], args := [d1, d2], vars := [g1, g2] }
  | _ => none }
def fnExactEmptyHashRow : OpenClaim := { program := "ytmhoilliaeefcaadoor", sum := "0d93e5c4133d62c6893d6ca5de84ad7c2819403d40fa9d4dd0449c8fa9ba8f49", func := "loop.example/g00284/laws.FnExactEmptyHash", spec := "fnExactEmptyHash", recurses := true, named := ["loop.example/g00284/impl.shaFirst", "loop.example/g00284/impl.shaSteps"], apart := false, laid := [("loop.example/g00284/impl.shaFirst", laid_loop_example_g00284_impl_shaFirst), ("loop.example/g00284/impl.shaSteps", laid_loop_example_g00284_impl_shaSteps)] }
def FnExactEmptyHashSaid : Prop := fnExactEmptyHashRow.holds Tryd.pinned (OpenSpec.ofChange fnExactEmptyHashSpec)

/-- ITS FALSE NEIGHBOUR: 'it returns false'. Refute it at one input. -/
def fnExactEmptyHashWrong : ChangeSpec := { name := "fnExactEmptyHash", vars := ["loop.example/g00284/impl.shaFirst", "loop.example/g00284/impl.shaSteps"], fn := fun _ => fun
  | [d1, d2, g1, g2] => { results := [.lit (.bool false)], args := [d1, d2], vars := [g1, g2] }
  | _ => none }
def FnExactEmptyHashWrongFalsely : Prop := fnExactEmptyHashRow.holds Tryd.pinned (OpenSpec.ofChange fnExactEmptyHashWrong)

/-- 'laws.FnExactBucketHash': WHATEVER THE INPUT: true; the input reads as it did. -/
def fnExactBucketHashSpec : ChangeSpec := { name := "fnExactBucketHash", vars := ["loop.example/g00284/impl.shaFirst", "loop.example/g00284/impl.shaSteps"], fn := fun _ => fun
  | [d1, d2, g1, g2] => { results := [.lit (.bool true)], args := [d1, d2], vars := [g1, g2] }
  | _ => none }
def fnExactBucketHashRow : OpenClaim := { program := "ytmhoilliaeefcaadoor", sum := "0d93e5c4133d62c6893d6ca5de84ad7c2819403d40fa9d4dd0449c8fa9ba8f49", func := "loop.example/g00284/laws.FnExactBucketHash", spec := "fnExactBucketHash", inPlace := ["internal/bytealg.abigen_runtime_cmpstring"], named := ["loop.example/g00284/impl.shaFirst", "loop.example/g00284/impl.shaSteps"], apart := false, laid := [("loop.example/g00284/impl.shaFirst", laid_loop_example_g00284_impl_shaFirst), ("loop.example/g00284/impl.shaSteps", laid_loop_example_g00284_impl_shaSteps)] }
def FnExactBucketHashSaid : Prop := fnExactBucketHashRow.holds Tryd.pinned (OpenSpec.ofChange fnExactBucketHashSpec)

/-- ITS FALSE NEIGHBOUR: 'it returns false'. Refute it at one input. -/
def fnExactBucketHashWrong : ChangeSpec := { name := "fnExactBucketHash", vars := ["loop.example/g00284/impl.shaFirst", "loop.example/g00284/impl.shaSteps"], fn := fun _ => fun
  | [d1, d2, g1, g2] => { results := [.lit (.bool false)], args := [d1, d2], vars := [g1, g2] }
  | _ => none }
def FnExactBucketHashWrongFalsely : Prop := fnExactBucketHashRow.holds Tryd.pinned (OpenSpec.ofChange fnExactBucketHashWrong)

/-- 'laws.FnExactNodeHash': WHATEVER THE INPUT: true; the input reads as it did. -/
def fnExactNodeHashSpec : ChangeSpec := { name := "fnExactNodeHash", vars := ["loop.example/g00284/impl.shaFirst", "loop.example/g00284/impl.shaSteps"], fn := fun _ => fun
  | [d1, d2, d3, d4, g1, g2] => { results := [.lit (.bool true)], args := [d1, d2, d3, d4], vars := [g1, g2] }
  | _ => none }
def fnExactNodeHashRow : OpenClaim := { program := "ytmhoilliaeefcaadoor", sum := "0d93e5c4133d62c6893d6ca5de84ad7c2819403d40fa9d4dd0449c8fa9ba8f49", func := "loop.example/g00284/laws.FnExactNodeHash", spec := "fnExactNodeHash", inPlace := ["internal/bytealg.abigen_runtime_cmpstring"], unfollowed := true, recurses := true, named := ["loop.example/g00284/impl.shaFirst", "loop.example/g00284/impl.shaSteps"], apart := false, laid := [("loop.example/g00284/impl.shaFirst", laid_loop_example_g00284_impl_shaFirst), ("loop.example/g00284/impl.shaSteps", laid_loop_example_g00284_impl_shaSteps)] }
def FnExactNodeHashSaid : Prop := fnExactNodeHashRow.holds Tryd.pinned (OpenSpec.ofChange fnExactNodeHashSpec)

/-- ITS FALSE NEIGHBOUR: 'it returns false'. Refute it at one input. -/
def fnExactNodeHashWrong : ChangeSpec := { name := "fnExactNodeHash", vars := ["loop.example/g00284/impl.shaFirst", "loop.example/g00284/impl.shaSteps"], fn := fun _ => fun
  | [d1, d2, d3, d4, g1, g2] => { results := [.lit (.bool false)], args := [d1, d2, d3, d4], vars := [g1, g2] }
  | _ => none }
def FnExactNodeHashWrongFalsely : Prop := fnExactNodeHashRow.holds Tryd.pinned (OpenSpec.ofChange fnExactNodeHashWrong)

/-- 'laws.FnExactRootOf': WHATEVER THE INPUT: true; the input reads as it did. -/
def fnExactRootOfSpec : ChangeSpec := { name := "fnExactRootOf", vars := ["loop.example/g00284/impl.shaFirst", "loop.example/g00284/impl.shaSteps"], fn := fun _ => fun
  | [d1, d2, g1, g2] => { results := [.lit (.bool true)], args := [d1, d2], vars := [g1, g2] }
  | _ => none }
def fnExactRootOfRow : OpenClaim := { program := "ytmhoilliaeefcaadoor", sum := "0d93e5c4133d62c6893d6ca5de84ad7c2819403d40fa9d4dd0449c8fa9ba8f49", func := "loop.example/g00284/laws.FnExactRootOf", spec := "fnExactRootOf", inPlace := ["internal/bytealg.abigen_runtime_cmpstring"], unfollowed := true, recurses := true, named := ["loop.example/g00284/impl.shaFirst", "loop.example/g00284/impl.shaSteps"], apart := false, laid := [("loop.example/g00284/impl.shaFirst", laid_loop_example_g00284_impl_shaFirst), ("loop.example/g00284/impl.shaSteps", laid_loop_example_g00284_impl_shaSteps)] }
def FnExactRootOfSaid : Prop := fnExactRootOfRow.holds Tryd.pinned (OpenSpec.ofChange fnExactRootOfSpec)

/-- ITS FALSE NEIGHBOUR: 'it returns false'. Refute it at one input. -/
def fnExactRootOfWrong : ChangeSpec := { name := "fnExactRootOf", vars := ["loop.example/g00284/impl.shaFirst", "loop.example/g00284/impl.shaSteps"], fn := fun _ => fun
  | [d1, d2, g1, g2] => { results := [.lit (.bool false)], args := [d1, d2], vars := [g1, g2] }
  | _ => none }
def FnExactRootOfWrongFalsely : Prop := fnExactRootOfRow.holds Tryd.pinned (OpenSpec.ofChange fnExactRootOfWrong)

/-- 'laws.FnExactSidesOf': WHATEVER THE INPUT: true; the input reads as it did. -/
def fnExactSidesOfSpec : ChangeSpec := { name := "fnExactSidesOf", vars := ["loop.example/g00284/impl.shaFirst", "loop.example/g00284/impl.shaSteps"], fn := fun _ => fun
  | [d1, d2, d3, d4, g1, g2] => { results := [.lit (.bool true)], args := [d1, d2, d3, d4], vars := [g1, g2] }
  | _ => none }
def fnExactSidesOfRow : OpenClaim := { program := "ytmhoilliaeefcaadoor", sum := "0d93e5c4133d62c6893d6ca5de84ad7c2819403d40fa9d4dd0449c8fa9ba8f49", func := "loop.example/g00284/laws.FnExactSidesOf", spec := "fnExactSidesOf", inPlace := ["internal/bytealg.abigen_runtime_cmpstring"], unfollowed := true, recurses := true, named := ["loop.example/g00284/impl.shaFirst", "loop.example/g00284/impl.shaSteps"], apart := false, laid := [("loop.example/g00284/impl.shaFirst", laid_loop_example_g00284_impl_shaFirst), ("loop.example/g00284/impl.shaSteps", laid_loop_example_g00284_impl_shaSteps)] }
def FnExactSidesOfSaid : Prop := fnExactSidesOfRow.holds Tryd.pinned (OpenSpec.ofChange fnExactSidesOfSpec)

/-- ITS FALSE NEIGHBOUR: 'it returns false'. Refute it at one input. -/
def fnExactSidesOfWrong : ChangeSpec := { name := "fnExactSidesOf", vars := ["loop.example/g00284/impl.shaFirst", "loop.example/g00284/impl.shaSteps"], fn := fun _ => fun
  | [d1, d2, d3, d4, g1, g2] => { results := [.lit (.bool false)], args := [d1, d2, d3, d4], vars := [g1, g2] }
  | _ => none }
def FnExactSidesOfWrongFalsely : Prop := fnExactSidesOfRow.holds Tryd.pinned (OpenSpec.ofChange fnExactSidesOfWrong)

/-- 'laws.FnExactFoldUp': WHATEVER THE INPUT: true; the input reads as it did. -/
def fnExactFoldUpSpec : ChangeSpec := { name := "fnExactFoldUp", vars := ["loop.example/g00284/impl.shaFirst", "loop.example/g00284/impl.shaSteps"], fn := fun _ => fun
  | [d1, d2, d3, d4, d5, g1, g2] => { results := [.lit (.bool true)], args := [d1, d2, d3, d4, d5], vars := [g1, g2] }
  | _ => none }
def fnExactFoldUpRow : OpenClaim := { program := "ytmhoilliaeefcaadoor", sum := "0d93e5c4133d62c6893d6ca5de84ad7c2819403d40fa9d4dd0449c8fa9ba8f49", func := "loop.example/g00284/laws.FnExactFoldUp", spec := "fnExactFoldUp", named := ["loop.example/g00284/impl.shaFirst", "loop.example/g00284/impl.shaSteps"], apart := false, laid := [("loop.example/g00284/impl.shaFirst", laid_loop_example_g00284_impl_shaFirst), ("loop.example/g00284/impl.shaSteps", laid_loop_example_g00284_impl_shaSteps)] }
def FnExactFoldUpSaid : Prop := fnExactFoldUpRow.holds Tryd.pinned (OpenSpec.ofChange fnExactFoldUpSpec)

/-- ITS FALSE NEIGHBOUR: 'it returns false'. Refute it at one input. -/
def fnExactFoldUpWrong : ChangeSpec := { name := "fnExactFoldUp", vars := ["loop.example/g00284/impl.shaFirst", "loop.example/g00284/impl.shaSteps"], fn := fun _ => fun
  | [d1, d2, d3, d4, d5, g1, g2] => { results := [.lit (.bool false)], args := [d1, d2, d3, d4, d5], vars := [g1, g2] }
  | _ => none }
def FnExactFoldUpWrongFalsely : Prop := fnExactFoldUpRow.holds Tryd.pinned (OpenSpec.ofChange fnExactFoldUpWrong)

/- THE SECOND FORM. 'bulk': how many values and letters a reading holds, each counted each time it is reached (what is shared counts as often as it is met; a slice's spare places count too). A statement '..UptoSaid' is the law's where the arguments, and the package variables that the reading takes, are together of bulk at most 1048576: NARROWER than '..Said'. Prove '..Said' where nothing that the law and all that it calls make is longer than what came in: it says more and counts as full. Else prove '..UptoSaid'. A law counts once. -/
mutual
def uptoBulk {H : Type} : DataW H → Nat
  | .lit (.string bytes) => bytes.length + 1
  | .lit _ => 1
  | .nil => 1
  | .ptr d => uptoBulk d + 1
  | .slice elems spare => uptoBulkAll elems + uptoBulkAll spare + 1
  | .agg parts => uptoBulkAll parts + 1
  | .iface _ d => uptoBulk d + 1
  | .map entries => uptoBulkEntries entries + 1
  | .held _ => 1
def uptoBulkAll {H : Type} : List (DataW H) → Nat
  | [] => 0
  | d :: r => uptoBulk d + uptoBulkAll r
def uptoBulkEntries {H : Type} : List (Lit × DataW H) → Nat
  | [] => 0
  | x :: r => uptoBulkEntry x + uptoBulkEntries r
def uptoBulkEntry {H : Type} : Lit × DataW H → Nat
  | (.string bytes, d) => bytes.length + uptoBulk d + 1
  | (_, d) => uptoBulk d + 1
 end
def uptoSmall : (H : Type) → List (DataW H) → Bool := fun _ ds => decide (uptoBulkAll ds ≤ 1048576)
def OpenSpec.upto (s : _root_.Go.ChangeSpec) : _root_.Go.OpenSpec := { _root_.Go.OpenSpec.ofChange s with cond := some uptoSmall }

/-- 'laws.FnRoots', WHERE WHAT IT READS IS OF BULK AT MOST 1048576: true; the input reads as it did. -/
def fnRootsUptoRow : OpenClaim := { program := "ytmhoilliaeefcaadoor", sum := "0d93e5c4133d62c6893d6ca5de84ad7c2819403d40fa9d4dd0449c8fa9ba8f49", func := "loop.example/g00284/laws.FnRoots", spec := "fnRoots", inPlace := ["internal/bytealg.abigen_runtime_cmpstring"], unfollowed := true, recurses := true, named := ["loop.example/g00284/impl.shaFirst", "loop.example/g00284/impl.shaSteps"], apart := false, laid := [("loop.example/g00284/impl.shaFirst", laid_loop_example_g00284_impl_shaFirst), ("loop.example/g00284/impl.shaSteps", laid_loop_example_g00284_impl_shaSteps)], narrowed := true }
def FnRootsUptoSaid : Prop := fnRootsUptoRow.holds Tryd.pinned (OpenSpec.upto fnRootsSpec)

/-- 'laws.FnNodes', WHERE WHAT IT READS IS OF BULK AT MOST 1048576: true; the input reads as it did. -/
def fnNodesUptoRow : OpenClaim := { program := "ytmhoilliaeefcaadoor", sum := "0d93e5c4133d62c6893d6ca5de84ad7c2819403d40fa9d4dd0449c8fa9ba8f49", func := "loop.example/g00284/laws.FnNodes", spec := "fnNodes", inPlace := ["internal/bytealg.abigen_runtime_cmpstring"], unfollowed := true, recurses := true, named := ["loop.example/g00284/impl.shaFirst", "loop.example/g00284/impl.shaSteps"], apart := false, laid := [("loop.example/g00284/impl.shaFirst", laid_loop_example_g00284_impl_shaFirst), ("loop.example/g00284/impl.shaSteps", laid_loop_example_g00284_impl_shaSteps)], narrowed := true }
def FnNodesUptoSaid : Prop := fnNodesUptoRow.holds Tryd.pinned (OpenSpec.upto fnNodesSpec)

/-- 'laws.FnRootsDiffer', WHERE WHAT IT READS IS OF BULK AT MOST 1048576: true; the input reads as it did. -/
def fnRootsDifferUptoRow : OpenClaim := { program := "ytmhoilliaeefcaadoor", sum := "0d93e5c4133d62c6893d6ca5de84ad7c2819403d40fa9d4dd0449c8fa9ba8f49", func := "loop.example/g00284/laws.FnRootsDiffer", spec := "fnRootsDiffer", inPlace := ["internal/bytealg.abigen_runtime_cmpstring"], unfollowed := true, recurses := true, named := ["loop.example/g00284/impl.shaFirst", "loop.example/g00284/impl.shaSteps"], apart := false, laid := [("loop.example/g00284/impl.shaFirst", laid_loop_example_g00284_impl_shaFirst), ("loop.example/g00284/impl.shaSteps", laid_loop_example_g00284_impl_shaSteps)], narrowed := true }
def FnRootsDifferUptoSaid : Prop := fnRootsDifferUptoRow.holds Tryd.pinned (OpenSpec.upto fnRootsDifferSpec)

/-- 'laws.FnExactEmptyHash', WHERE WHAT IT READS IS OF BULK AT MOST 1048576: true; the input reads as it did. -/
def fnExactEmptyHashUptoRow : OpenClaim := { program := "ytmhoilliaeefcaadoor", sum := "0d93e5c4133d62c6893d6ca5de84ad7c2819403d40fa9d4dd0449c8fa9ba8f49", func := "loop.example/g00284/laws.FnExactEmptyHash", spec := "fnExactEmptyHash", recurses := true, named := ["loop.example/g00284/impl.shaFirst", "loop.example/g00284/impl.shaSteps"], apart := false, laid := [("loop.example/g00284/impl.shaFirst", laid_loop_example_g00284_impl_shaFirst), ("loop.example/g00284/impl.shaSteps", laid_loop_example_g00284_impl_shaSteps)], narrowed := true }
def FnExactEmptyHashUptoSaid : Prop := fnExactEmptyHashUptoRow.holds Tryd.pinned (OpenSpec.upto fnExactEmptyHashSpec)

/-- 'laws.FnExactBucketHash', WHERE WHAT IT READS IS OF BULK AT MOST 1048576: true; the input reads as it did. -/
def fnExactBucketHashUptoRow : OpenClaim := { program := "ytmhoilliaeefcaadoor", sum := "0d93e5c4133d62c6893d6ca5de84ad7c2819403d40fa9d4dd0449c8fa9ba8f49", func := "loop.example/g00284/laws.FnExactBucketHash", spec := "fnExactBucketHash", inPlace := ["internal/bytealg.abigen_runtime_cmpstring"], named := ["loop.example/g00284/impl.shaFirst", "loop.example/g00284/impl.shaSteps"], apart := false, laid := [("loop.example/g00284/impl.shaFirst", laid_loop_example_g00284_impl_shaFirst), ("loop.example/g00284/impl.shaSteps", laid_loop_example_g00284_impl_shaSteps)], narrowed := true }
def FnExactBucketHashUptoSaid : Prop := fnExactBucketHashUptoRow.holds Tryd.pinned (OpenSpec.upto fnExactBucketHashSpec)

/-- 'laws.FnExactNodeHash', WHERE WHAT IT READS IS OF BULK AT MOST 1048576: true; the input reads as it did. -/
def fnExactNodeHashUptoRow : OpenClaim := { program := "ytmhoilliaeefcaadoor", sum := "0d93e5c4133d62c6893d6ca5de84ad7c2819403d40fa9d4dd0449c8fa9ba8f49", func := "loop.example/g00284/laws.FnExactNodeHash", spec := "fnExactNodeHash", inPlace := ["internal/bytealg.abigen_runtime_cmpstring"], unfollowed := true, recurses := true, named := ["loop.example/g00284/impl.shaFirst", "loop.example/g00284/impl.shaSteps"], apart := false, laid := [("loop.example/g00284/impl.shaFirst", laid_loop_example_g00284_impl_shaFirst), ("loop.example/g00284/impl.shaSteps", laid_loop_example_g00284_impl_shaSteps)], narrowed := true }
def FnExactNodeHashUptoSaid : Prop := fnExactNodeHashUptoRow.holds Tryd.pinned (OpenSpec.upto fnExactNodeHashSpec)

/-- 'laws.FnExactRootOf', WHERE WHAT IT READS IS OF BULK AT MOST 1048576: true; the input reads as it did. -/
def fnExactRootOfUptoRow : OpenClaim := { program := "ytmhoilliaeefcaadoor", sum := "0d93e5c4133d62c6893d6ca5de84ad7c2819403d40fa9d4dd0449c8fa9ba8f49", func := "loop.example/g00284/laws.FnExactRootOf", spec := "fnExactRootOf", inPlace := ["internal/bytealg.abigen_runtime_cmpstring"], unfollowed := true, recurses := true, named := ["loop.example/g00284/impl.shaFirst", "loop.example/g00284/impl.shaSteps"], apart := false, laid := [("loop.example/g00284/impl.shaFirst", laid_loop_example_g00284_impl_shaFirst), ("loop.example/g00284/impl.shaSteps", laid_loop_example_g00284_impl_shaSteps)], narrowed := true }
def FnExactRootOfUptoSaid : Prop := fnExactRootOfUptoRow.holds Tryd.pinned (OpenSpec.upto fnExactRootOfSpec)

/-- 'laws.FnExactSidesOf', WHERE WHAT IT READS IS OF BULK AT MOST 1048576: true; the input reads as it did. -/
def fnExactSidesOfUptoRow : OpenClaim := { program := "ytmhoilliaeefcaadoor", sum := "0d93e5c4133d62c6893d6ca5de84ad7c2819403d40fa9d4dd0449c8fa9ba8f49", func := "loop.example/g00284/laws.FnExactSidesOf", spec := "fnExactSidesOf", inPlace := ["internal/bytealg.abigen_runtime_cmpstring"], unfollowed := true, recurses := true, named := ["loop.example/g00284/impl.shaFirst", "loop.example/g00284/impl.shaSteps"], apart := false, laid := [("loop.example/g00284/impl.shaFirst", laid_loop_example_g00284_impl_shaFirst), ("loop.example/g00284/impl.shaSteps", laid_loop_example_g00284_impl_shaSteps)], narrowed := true }
def FnExactSidesOfUptoSaid : Prop := fnExactSidesOfUptoRow.holds Tryd.pinned (OpenSpec.upto fnExactSidesOfSpec)

/-- 'laws.FnExactFoldUp', WHERE WHAT IT READS IS OF BULK AT MOST 1048576: true; the input reads as it did. -/
def fnExactFoldUpUptoRow : OpenClaim := { program := "ytmhoilliaeefcaadoor", sum := "0d93e5c4133d62c6893d6ca5de84ad7c2819403d40fa9d4dd0449c8fa9ba8f49", func := "loop.example/g00284/laws.FnExactFoldUp", spec := "fnExactFoldUp", named := ["loop.example/g00284/impl.shaFirst", "loop.example/g00284/impl.shaSteps"], apart := false, laid := [("loop.example/g00284/impl.shaFirst", laid_loop_example_g00284_impl_shaFirst), ("loop.example/g00284/impl.shaSteps", laid_loop_example_g00284_impl_shaSteps)], narrowed := true }
def FnExactFoldUpUptoSaid : Prop := fnExactFoldUpUptoRow.holds Tryd.pinned (OpenSpec.upto fnExactFoldUpSpec)

end Rows
end Go.Proofs.YtmhoilliaeefcaaDoor
