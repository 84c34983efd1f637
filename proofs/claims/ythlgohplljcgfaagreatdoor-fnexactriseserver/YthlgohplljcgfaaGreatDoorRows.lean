/-
  NARROWER THAN 'FOR EVERY INPUT', by the rows' own cells (each row's printed sentence says how): FnExactServerNew: laid · FnExactFallServer: laid · FnExactRiseServer: laid · FnExactServerOk: laid.
  DERIVED. THE GIVEN ROWS OF THIS SEAT. 4 by the template 'for every input the law returns true; each argument reads behind the call as it read before'; 0 by the template 'total and deterministic' (their statements: YthlgohplljcgfaaGreatDoorTotals.lean).
  GIVEN WITH THE SEED: the statements are not yours to turn. If you find one false, say at which input.
  Laid BY PROGRAM, IN A SANDBOX (cutbox-rows.mjs): the forced cells as the released guide's own fill.sh prints them over the translation fb8a7d71bc434778… (all of the seat's roots in one cut). By AI agents, Wed Nov 11 2026. No macro, syntax, notation, axiom, sorry.
-/
import Derived.Test.YthlgohplljcgfaaGreatDoorChecked
import GoSem.Claim
import GoSem.ClaimJoined
import GoSem.ClaimMapViews
import Derived.JoinedTies
import Derived.KernelRfl
namespace Go.Proofs.YthlgohplljcgfaaGreatDoor
/- THE CELL 'sum', in the pinned program and in every row, IS THE sha256 OF THE DUMP (.gsa) THAT YthlgohplljcgfaaGreatDoorProg.lean LOADS. Nothing in Lean hashes anything: it is a label: what it is worth is what the hold of that sum in a sandbox is worth. -/
noncomputable def Tryz.pinned : Pinned := { name := "ythlgohplljcgfaagreatdoor", sum := "fb8a7d71bc43477800a03fef6f5e0adeadfbd77346259ddcd7fd5c1a61be62b8", checked := Tryz.checked }
namespace Rows
def none {H : Type} : Left H := { results := [], args := [] }

/- WHAT THE LISTED PACKAGE-LEVEL VARIABLES READ AS WHEN THE CALL BEGINS. Each datum BY PROGRAM (the guide's laid-datum.mjs) off the statement by which the dump's own 'gosem.cut.vars' lays the variable. In a bare row this is a premise. The card (YthlgohplljcgfaaGreatDoorCards.lean) ties it to the program's text. -/
def laid_errors_errorType {H : Type} : DataW H := .iface "internal/reflectlite.rtype" (.agg [.ptr (.lit (.string [101, 114, 114, 111, 114]))])
def laid_loop_example_g00284_impl_sumSteps {H : Type} : DataW H := .agg [.lit (.int .u32 0), .lit (.int .u32 1166650509), .lit (.int .u32 2333301018), .lit (.int .u32 3466261911), .lit (.int .u32 3189058079), .lit (.int .u32 4221339282), .lit (.int .u32 889615109), .lit (.int .u32 1888477064), .lit (.int .u32 3558460437), .lit (.int .u32 2442158232), .lit (.int .u32 1594529039), .lit (.int .u32 444807554), .lit (.int .u32 1779230218), .lit (.int .u32 797264519), .lit (.int .u32 3776954128), .lit (.int .u32 2761298845)]
def laid_loop_example_g00284_impl_shaFirst {H : Type} : DataW H := .agg [.lit (.int .u32 1779033703), .lit (.int .u32 3144134277), .lit (.int .u32 1013904242), .lit (.int .u32 2773480762), .lit (.int .u32 1359893119), .lit (.int .u32 2600822924), .lit (.int .u32 528734635), .lit (.int .u32 1541459225)]
def laid_loop_example_g00284_impl_shaSteps {H : Type} : DataW H := .agg [.lit (.int .u32 1116352408), .lit (.int .u32 1899447441), .lit (.int .u32 3049323471), .lit (.int .u32 3921009573), .lit (.int .u32 961987163), .lit (.int .u32 1508970993), .lit (.int .u32 2453635748), .lit (.int .u32 2870763221), .lit (.int .u32 3624381080), .lit (.int .u32 310598401), .lit (.int .u32 607225278), .lit (.int .u32 1426881987), .lit (.int .u32 1925078388), .lit (.int .u32 2162078206), .lit (.int .u32 2614888103), .lit (.int .u32 3248222580), .lit (.int .u32 3835390401), .lit (.int .u32 4022224774), .lit (.int .u32 264347078), .lit (.int .u32 604807628), .lit (.int .u32 770255983), .lit (.int .u32 1249150122), .lit (.int .u32 1555081692), .lit (.int .u32 1996064986), .lit (.int .u32 2554220882), .lit (.int .u32 2821834349), .lit (.int .u32 2952996808), .lit (.int .u32 3210313671), .lit (.int .u32 3336571891), .lit (.int .u32 3584528711), .lit (.int .u32 113926993), .lit (.int .u32 338241895), .lit (.int .u32 666307205), .lit (.int .u32 773529912), .lit (.int .u32 1294757372), .lit (.int .u32 1396182291), .lit (.int .u32 1695183700), .lit (.int .u32 1986661051), .lit (.int .u32 2177026350), .lit (.int .u32 2456956037), .lit (.int .u32 2730485921), .lit (.int .u32 2820302411), .lit (.int .u32 3259730800), .lit (.int .u32 3345764771), .lit (.int .u32 3516065817), .lit (.int .u32 3600352804), .lit (.int .u32 4094571909), .lit (.int .u32 275423344), .lit (.int .u32 430227734), .lit (.int .u32 506948616), .lit (.int .u32 659060556), .lit (.int .u32 883997877), .lit (.int .u32 958139571), .lit (.int .u32 1322822218), .lit (.int .u32 1537002063), .lit (.int .u32 1747873779), .lit (.int .u32 1955562222), .lit (.int .u32 2024104815), .lit (.int .u32 2227730452), .lit (.int .u32 2361852424), .lit (.int .u32 2428436474), .lit (.int .u32 2756734187), .lit (.int .u32 3204031479), .lit (.int .u32 3329325298)]

/-- 'laws.FnExactServerNew': WHATEVER THE INPUT: true; the input reads as it did. -/
def fnExactServerNewSpec : ChangeSpec := { name := "fnExactServerNew", vars := ["loop.example/g00284/impl.shaFirst", "loop.example/g00284/impl.shaSteps", "loop.example/g00284/impl.sumSteps"], fn := fun _ => fun
  | [d1, d2, d3, g1, g2, g3] => { results := [.lit (.bool true)], args := [d1, d2, d3], vars := [g1, g2, g3] }
  | _ => none }
def fnExactServerNewRow : OpenClaim := { program := "ythlgohplljcgfaagreatdoor", sum := "fb8a7d71bc43477800a03fef6f5e0adeadfbd77346259ddcd7fd5c1a61be62b8", func := "loop.example/g00284/laws.FnExactServerNew", spec := "fnExactServerNew", inPlace := ["internal/bytealg.abigen_runtime_cmpstring", "internal/reflectlite.ValueOf", "(internal/reflectlite.Value).Type", "(internal/reflectlite.Value).IsNil", "internal/reflectlite.TypeOf", "(internal/reflectlite.Value).Elem", "(internal/reflectlite.Value).Set"], unfollowed := true, recurses := true, named := ["loop.example/g00284/impl.shaFirst", "loop.example/g00284/impl.shaSteps", "errors.errorType", "loop.example/g00284/impl.sumSteps"], apart := false, laid := [("errors.errorType", laid_errors_errorType), ("loop.example/g00284/impl.sumSteps", laid_loop_example_g00284_impl_sumSteps), ("loop.example/g00284/impl.shaFirst", laid_loop_example_g00284_impl_shaFirst), ("loop.example/g00284/impl.shaSteps", laid_loop_example_g00284_impl_shaSteps)] }
def FnExactServerNewSaid : Prop := fnExactServerNewRow.holds Tryz.pinned (OpenSpec.ofChange fnExactServerNewSpec)

/-- ITS FALSE NEIGHBOUR: 'it returns false'. Refute it at one input. -/
def fnExactServerNewWrong : ChangeSpec := { name := "fnExactServerNew", vars := ["loop.example/g00284/impl.shaFirst", "loop.example/g00284/impl.shaSteps", "loop.example/g00284/impl.sumSteps"], fn := fun _ => fun
  | [d1, d2, d3, g1, g2, g3] => { results := [.lit (.bool false)], args := [d1, d2, d3], vars := [g1, g2, g3] }
  | _ => none }
def FnExactServerNewWrongFalsely : Prop := fnExactServerNewRow.holds Tryz.pinned (OpenSpec.ofChange fnExactServerNewWrong)

/-- 'laws.FnExactFallServer': WHATEVER THE INPUT: true; the input reads as it did. -/
def fnExactFallServerSpec : ChangeSpec := { name := "fnExactFallServer", vars := ["loop.example/g00284/impl.shaFirst", "loop.example/g00284/impl.shaSteps", "loop.example/g00284/impl.sumSteps"], fn := fun _ => fun
  | [d1, d2, g1, g2, g3] => { results := [.lit (.bool true)], args := [d1, d2], vars := [g1, g2, g3] }
  | _ => none }
def fnExactFallServerRow : OpenClaim := { program := "ythlgohplljcgfaagreatdoor", sum := "fb8a7d71bc43477800a03fef6f5e0adeadfbd77346259ddcd7fd5c1a61be62b8", func := "loop.example/g00284/laws.FnExactFallServer", spec := "fnExactFallServer", inPlace := ["internal/bytealg.abigen_runtime_cmpstring", "internal/reflectlite.ValueOf", "(internal/reflectlite.Value).Type", "(internal/reflectlite.Value).IsNil", "internal/reflectlite.TypeOf", "(internal/reflectlite.Value).Elem", "(internal/reflectlite.Value).Set"], unfollowed := true, recurses := true, named := ["loop.example/g00284/impl.shaFirst", "loop.example/g00284/impl.shaSteps", "errors.errorType", "loop.example/g00284/impl.sumSteps"], apart := false, laid := [("errors.errorType", laid_errors_errorType), ("loop.example/g00284/impl.sumSteps", laid_loop_example_g00284_impl_sumSteps), ("loop.example/g00284/impl.shaFirst", laid_loop_example_g00284_impl_shaFirst), ("loop.example/g00284/impl.shaSteps", laid_loop_example_g00284_impl_shaSteps)] }
def FnExactFallServerSaid : Prop := fnExactFallServerRow.holds Tryz.pinned (OpenSpec.ofChange fnExactFallServerSpec)

/-- ITS FALSE NEIGHBOUR: 'it returns false'. Refute it at one input. -/
def fnExactFallServerWrong : ChangeSpec := { name := "fnExactFallServer", vars := ["loop.example/g00284/impl.shaFirst", "loop.example/g00284/impl.shaSteps", "loop.example/g00284/impl.sumSteps"], fn := fun _ => fun
  | [d1, d2, g1, g2, g3] => { results := [.lit (.bool false)], args := [d1, d2], vars := [g1, g2, g3] }
  | _ => none }
def FnExactFallServerWrongFalsely : Prop := fnExactFallServerRow.holds Tryz.pinned (OpenSpec.ofChange fnExactFallServerWrong)

/-- 'laws.FnExactRiseServer': WHATEVER THE INPUT: true; the input reads as it did. -/
def fnExactRiseServerSpec : ChangeSpec := { name := "fnExactRiseServer", vars := ["loop.example/g00284/impl.shaFirst", "loop.example/g00284/impl.shaSteps", "loop.example/g00284/impl.sumSteps"], fn := fun _ => fun
  | [d, g1, g2, g3] => { results := [.lit (.bool true)], args := [d], vars := [g1, g2, g3] }
  | _ => none }
def fnExactRiseServerRow : OpenClaim := { program := "ythlgohplljcgfaagreatdoor", sum := "fb8a7d71bc43477800a03fef6f5e0adeadfbd77346259ddcd7fd5c1a61be62b8", func := "loop.example/g00284/laws.FnExactRiseServer", spec := "fnExactRiseServer", inPlace := ["internal/bytealg.abigen_runtime_cmpstring", "internal/reflectlite.ValueOf", "(internal/reflectlite.Value).Type", "(internal/reflectlite.Value).IsNil", "internal/reflectlite.TypeOf", "(internal/reflectlite.Value).Elem", "(internal/reflectlite.Value).Set"], unfollowed := true, recurses := true, named := ["loop.example/g00284/impl.shaFirst", "loop.example/g00284/impl.shaSteps", "errors.errorType", "loop.example/g00284/impl.sumSteps"], apart := false, laid := [("errors.errorType", laid_errors_errorType), ("loop.example/g00284/impl.sumSteps", laid_loop_example_g00284_impl_sumSteps), ("loop.example/g00284/impl.shaFirst", laid_loop_example_g00284_impl_shaFirst), ("loop.example/g00284/impl.shaSteps", laid_loop_example_g00284_impl_shaSteps)] }
def FnExactRiseServerSaid : Prop := fnExactRiseServerRow.holds Tryz.pinned (OpenSpec.ofChange fnExactRiseServerSpec)

/-- ITS FALSE NEIGHBOUR: 'it returns false'. Refute it at one input. -/
def fnExactRiseServerWrong : ChangeSpec := { name := "fnExactRiseServer", vars := ["loop.example/g00284/impl.shaFirst", "loop.example/g00284/impl.shaSteps", "loop.example/g00284/impl.sumSteps"], fn := fun _ => fun
  | [d, g1, g2, g3] => { results := [.lit (.bool false)], args := [d], vars := [g1, g2, g3] }
  | _ => none }
def FnExactRiseServerWrongFalsely : Prop := fnExactRiseServerRow.holds Tryz.pinned (OpenSpec.ofChange fnExactRiseServerWrong)

/-- 'laws.FnExactServerOk': WHATEVER THE INPUT: true; the input reads as it did. -/
def fnExactServerOkSpec : ChangeSpec := { name := "fnExactServerOk", vars := ["loop.example/g00284/impl.shaFirst", "loop.example/g00284/impl.shaSteps", "loop.example/g00284/impl.sumSteps"], fn := fun _ => fun
  | [d, g1, g2, g3] => { results := [.lit (.bool true)], args := [d], vars := [g1, g2, g3] }
  | _ => none }
def fnExactServerOkRow : OpenClaim := { program := "ythlgohplljcgfaagreatdoor", sum := "fb8a7d71bc43477800a03fef6f5e0adeadfbd77346259ddcd7fd5c1a61be62b8", func := "loop.example/g00284/laws.FnExactServerOk", spec := "fnExactServerOk", inPlace := ["internal/bytealg.abigen_runtime_cmpstring", "internal/reflectlite.ValueOf", "(internal/reflectlite.Value).Type", "(internal/reflectlite.Value).IsNil", "internal/reflectlite.TypeOf", "(internal/reflectlite.Value).Elem", "(internal/reflectlite.Value).Set"], unfollowed := true, recurses := true, named := ["loop.example/g00284/impl.shaFirst", "loop.example/g00284/impl.shaSteps", "errors.errorType", "loop.example/g00284/impl.sumSteps"], apart := false, laid := [("errors.errorType", laid_errors_errorType), ("loop.example/g00284/impl.sumSteps", laid_loop_example_g00284_impl_sumSteps), ("loop.example/g00284/impl.shaFirst", laid_loop_example_g00284_impl_shaFirst), ("loop.example/g00284/impl.shaSteps", laid_loop_example_g00284_impl_shaSteps)] }
def FnExactServerOkSaid : Prop := fnExactServerOkRow.holds Tryz.pinned (OpenSpec.ofChange fnExactServerOkSpec)

/-- ITS FALSE NEIGHBOUR: 'it returns false'. Refute it at one input. -/
def fnExactServerOkWrong : ChangeSpec := { name := "fnExactServerOk", vars := ["loop.example/g00284/impl.shaFirst", "loop.example/g00284/impl.shaSteps", "loop.example/g00284/impl.sumSteps"], fn := fun _ => fun
  | [d, g1, g2, g3] => { results := [.lit (.bool false)], args := [d], vars := [g1, g2, g3] }
  | _ => none }
def FnExactServerOkWrongFalsely : Prop := fnExactServerOkRow.holds Tryz.pinned (OpenSpec.ofChange fnExactServerOkWrong)

/- THE SECOND FORM. 'bulk': how many values and letters a reading holds, each counted each time it is reached (what is shared counts as often as it is met; a slice's spare places count too). A statement '..UptoSaid' is the law's where the arguments, and the package variables that the reading takes, are together of bulk at most 1048576: NARROWER than '..Said'. Prove '..Said' where nothing that the law and all that it calls make is longer than what came in: it says more and counts as full. Else prove '..UptoSaid'. A law counts once. -/
mutual
def uptoBulk {H : Type} : DataW H → Nat
  | .lit (.string bytes) => bytes.length + 1
  | .lit _ => 1
  | .nil => 1
  | .ptr d => uptoBulk d + 1
  | .slice elems spare => uptoBulkAll elems + uptoBulkAll spare + 1
  | .agg parts => uptoBulkAll parts + 1
  | .iface _ d => uptoBulk d + 1
  | .map entries => uptoBulkEntries entries + 1
  | .held _ => 1
def uptoBulkAll {H : Type} : List (DataW H) → Nat
  | [] => 0
  | d :: r => uptoBulk d + uptoBulkAll r
def uptoBulkEntries {H : Type} : List (Lit × DataW H) → Nat
  | [] => 0
  | x :: r => uptoBulkEntry x + uptoBulkEntries r
def uptoBulkEntry {H : Type} : Lit × DataW H → Nat
  | (.string bytes, d) => bytes.length + uptoBulk d + 1
  | (_, d) => uptoBulk d + 1
 end
def uptoSmall : (H : Type) → List (DataW H) → Bool := fun _ ds => decide (uptoBulkAll ds ≤ 1048576)
def OpenSpec.upto (s : _root_.Go.ChangeSpec) : _root_.Go.OpenSpec := { _root_.Go.OpenSpec.ofChange s with cond := some uptoSmall }

/-- 'laws.FnExactServerNew', WHERE WHAT IT READS IS OF BULK AT MOST 1048576: true; the input reads as it did. -/
def fnExactServerNewUptoRow : OpenClaim := { program := "ythlgohplljcgfaagreatdoor", sum := "fb8a7d71bc43477800a03fef6f5e0adeadfbd77346259ddcd7fd5c1a61be62b8", func := "loop.example/g00284/laws.FnExactServerNew", spec := "fnExactServerNew", inPlace := ["internal/bytealg.abigen_runtime_cmpstring", "internal/reflectlite.ValueOf", "(internal/reflectlite.Value).Type", "(internal/reflectlite.Value).IsNil", "internal/reflectlite.TypeOf", "(internal/reflectlite.Value).Elem", "(internal/reflectlite.Value).Set"], unfollowed := true, recurses := true, named := ["loop.example/g00284/impl.shaFirst", "loop.example/g00284/impl.shaSteps", "errors.errorType", "loop.example/g00284/impl.sumSteps"], apart := false, laid := [("errors.errorType", laid_errors_errorType), ("loop.example/g00284/impl.sumSteps", laid_loop_example_g00284_impl_sumSteps), ("loop.example/g00284/impl.shaFirst", laid_loop_example_g00284_impl_shaFirst), ("loop.example/g00284/impl.shaSteps", laid_loop_example_g00284_impl_shaSteps)], narrowed := true }
def FnExactServerNewUptoSaid : Prop := fnExactServerNewUptoRow.holds Tryz.pinned (OpenSpec.upto fnExactServerNewSpec)

/-- 'laws.FnExactFallServer', WHERE WHAT IT READS IS OF BULK AT MOST 1048576: true; the input reads as it did. -/
def fnExactFallServerUptoRow : OpenClaim := { program := "ythlgohplljcgfaagreatdoor", sum := "fb8a7d71bc43477800a03fef6f5e0adeadfbd77346259ddcd7fd5c1a61be62b8", func := "loop.example/g00284/laws.FnExactFallServer", spec := "fnExactFallServer", inPlace := ["internal/bytealg.abigen_runtime_cmpstring", "internal/reflectlite.ValueOf", "(internal/reflectlite.Value).Type", "(internal/reflectlite.Value).IsNil", "internal/reflectlite.TypeOf", "(internal/reflectlite.Value).Elem", "(internal/reflectlite.Value).Set"], unfollowed := true, recurses := true, named := ["loop.example/g00284/impl.shaFirst", "loop.example/g00284/impl.shaSteps", "errors.errorType", "loop.example/g00284/impl.sumSteps"], apart := false, laid := [("errors.errorType", laid_errors_errorType), ("loop.example/g00284/impl.sumSteps", laid_loop_example_g00284_impl_sumSteps), ("loop.example/g00284/impl.shaFirst", laid_loop_example_g00284_impl_shaFirst), ("loop.example/g00284/impl.shaSteps", laid_loop_example_g00284_impl_shaSteps)], narrowed := true }
def FnExactFallServerUptoSaid : Prop := fnExactFallServerUptoRow.holds Tryz.pinned (OpenSpec.upto fnExactFallServerSpec)

/-- 'laws.FnExactRiseServer', WHERE WHAT IT READS IS OF BULK AT MOST 1048576: true; the input reads as it did. -/
def fnExactRiseServerUptoRow : OpenClaim := { program := "ythlgohplljcgfaagreatdoor", sum := "fb8a7d71bc43477800a03fef6f5e0adeadfbd77346259ddcd7fd5c1a61be62b8", func := "loop.example/g00284/laws.FnExactRiseServer", spec := "fnExactRiseServer", inPlace := ["internal/bytealg.abigen_runtime_cmpstring", "internal/reflectlite.ValueOf", "(internal/reflectlite.Value).Type", "(internal/reflectlite.Value).IsNil", "internal/reflectlite.TypeOf", "(internal/reflectlite.Value).Elem", "(internal/reflectlite.Value).Set"], unfollowed := true, recurses := true, named := ["loop.example/g00284/impl.shaFirst", "loop.example/g00284/impl.shaSteps", "errors.errorType", "loop.example/g00284/impl.sumSteps"], apart := false, laid := [("errors.errorType", laid_errors_errorType), ("loop.example/g00284/impl.sumSteps", laid_loop_example_g00284_impl_sumSteps), ("loop.example/g00284/impl.shaFirst", laid_loop_example_g00284_impl_shaFirst), ("loop.example/g00284/impl.shaSteps", laid_loop_example_g00284_impl_shaSteps)], narrowed := true }
def FnExactRiseServerUptoSaid : Prop := fnExactRiseServerUptoRow.holds Tryz.pinned (OpenSpec.upto fnExactRiseServerSpec)

/-- 'laws.FnExactServerOk', WHERE WHAT IT READS IS OF BULK AT MOST 1048576: true; the input reads as it did. -/
def fnExactServerOkUptoRow : OpenClaim := { program := "ythlgohplljcgfaagreatdoor", sum := "fb8a7d71bc43477800a03fef6f5e0adeadfbd77346259ddcd7fd5c1a61be62b8", func := "loop.example/g00284/laws.FnExactServerOk", spec := "fnExactServerOk", inPlace := ["internal/bytealg.abigen_runtime_cmpstring", "internal/reflectlite.ValueOf", "(internal/reflectlite.Value).Type", "(internal/reflectlite.Value).IsNil", "internal/reflectlite.TypeOf", "(internal/reflectlite.Value).Elem", "(internal/reflectlite.Value).Set"], unfollowed := true, recurses := true, named := ["loop.example/g00284/impl.shaFirst", "loop.example/g00284/impl.shaSteps", "errors.errorType", "loop.example/g00284/impl.sumSteps"], apart := false, laid := [("errors.errorType", laid_errors_errorType), ("loop.example/g00284/impl.sumSteps", laid_loop_example_g00284_impl_sumSteps), ("loop.example/g00284/impl.shaFirst", laid_loop_example_g00284_impl_shaFirst), ("loop.example/g00284/impl.shaSteps", laid_loop_example_g00284_impl_shaSteps)], narrowed := true }
def FnExactServerOkUptoSaid : Prop := fnExactServerOkUptoRow.holds Tryz.pinned (OpenSpec.upto fnExactServerOkSpec)

end Rows
end Go.Proofs.YthlgohplljcgfaaGreatDoor
