/-
  NARROWER THAN 'FOR EVERY INPUT', by the rows' own cells (each row's printed sentence says how): FnSigns: laid · FnSignsOther: laid · FnSignsTurned: laid · FnPools: laid · FnSeals: laid · FnStamps: laid · FnExactSigOk: laid · FnExactSealHead: laid · FnExactSealOk: laid · FnExactStampHead: laid · FnExactStampOk: laid.
  DERIVED. THE GIVEN ROWS OF THIS SEAT. 11 by the template 'for every input the law returns true; each argument reads behind the call as it read before'; 0 by the template 'total and deterministic' (their statements: YtmfoliocibjdnaaDoorTotals.lean).
  GIVEN WITH THE SEED: the statements are not yours to turn. If you find one false, say at which input.
  Laid BY PROGRAM, IN A SANDBOX (cutbox-rows.mjs): the forced cells as the released guide's own fill.sh prints them over the translation 207861717da419a2… (all of the seat's roots in one cut). By AI agents, Wed Nov 11 2026. No macro, syntax, notation, axiom, sorry.
-/
import Derived.Test.YtmfoliocibjdnaaDoorChecked
import GoSem.Claim
import GoSem.ClaimJoined
import GoSem.ClaimMapViews
import Derived.JoinedTies
import Derived.KernelRfl
namespace Go.Proofs.YtmfoliocibjdnaaDoor
/- THE CELL 'sum', in the pinned program and in every row, IS THE sha256 OF THE DUMP (.gsa) THAT YtmfoliocibjdnaaDoorProg.lean LOADS. Nothing in Lean hashes anything: it is a label: what it is worth is what the hold of that sum in a sandbox is worth. -/
noncomputable def Tryd.pinned : Pinned := { name := "ytmfoliocibjdnaadoor", sum := "207861717da419a23d132879a444dccaaa9e881655c41ac641201fe4ef2fed96", checked := Tryd.checked }
namespace Rows
def none {H : Type} : Left H := { results := [], args := [] }

/- WHAT THE LISTED PACKAGE-LEVEL VARIABLES READ AS WHEN THE CALL BEGINS. Each datum BY PROGRAM (the guide's laid-datum.mjs) off the statement by which the dump's own 'gosem.cut.vars' lays the variable. In a bare row this is a premise. The card (YtmfoliocibjdnaaDoorCards.lean) ties it to the program's text. -/
def laid_loop_example_g00284_impl_shaFirst {H : Type} : DataW H := .agg [.lit (.int .u32 1779033703), .lit (.int .u32 3144134277), .lit (.int .u32 1013904242), .lit (.int .u32 2773480762), .lit (.int .u32 1359893119), .lit (.int .u32 2600822924), .lit (.int .u32 528734635), .lit (.int .u32 1541459225)]
def laid_loop_example_g00284_impl_shaSteps {H : Type} : DataW H := .agg [.lit (.int .u32 1116352408), .lit (.int .u32 1899447441), .lit (.int .u32 3049323471), .lit (.int .u32 3921009573), .lit (.int .u32 961987163), .lit (.int .u32 1508970993), .lit (.int .u32 2453635748), .lit (.int .u32 2870763221), .lit (.int .u32 3624381080), .lit (.int .u32 310598401), .lit (.int .u32 607225278), .lit (.int .u32 1426881987), .lit (.int .u32 1925078388), .lit (.int .u32 2162078206), .lit (.int .u32 2614888103), .lit (.int .u32 3248222580), .lit (.int .u32 3835390401), .lit (.int .u32 4022224774), .lit (.int .u32 264347078), .lit (.int .u32 604807628), .lit (.int .u32 770255983), .lit (.int .u32 1249150122), .lit (.int .u32 1555081692), .lit (.int .u32 1996064986), .lit (.int .u32 2554220882), .lit (.int .u32 2821834349), .lit (.int .u32 2952996808), .lit (.int .u32 3210313671), .lit (.int .u32 3336571891), .lit (.int .u32 3584528711), .lit (.int .u32 113926993), .lit (.int .u32 338241895), .lit (.int .u32 666307205), .lit (.int .u32 773529912), .lit (.int .u32 1294757372), .lit (.int .u32 1396182291), .lit (.int .u32 1695183700), .lit (.int .u32 1986661051), .lit (.int .u32 2177026350), .lit (.int .u32 2456956037), .lit (.int .u32 2730485921), .lit (.int .u32 2820302411), .lit (.int .u32 3259730800), .lit (.int .u32 3345764771), .lit (.int .u32 3516065817), .lit (.int .u32 3600352804), .lit (.int .u32 4094571909), .lit (.int .u32 275423344), .lit (.int .u32 430227734), .lit (.int .u32 506948616), .lit (.int .u32 659060556), .lit (.int .u32 883997877), .lit (.int .u32 958139571), .lit (.int .u32 1322822218), .lit (.int .u32 1537002063), .lit (.int .u32 1747873779), .lit (.int .u32 1955562222), .lit (.int .u32 2024104815), .lit (.int .u32 2227730452), .lit (.int .u32 2361852424), .lit (.int .u32 2428436474), .lit (.int .u32 2756734187), .lit (.int .u32 3204031479), .lit (.int .u32 3329325298)]

/-- 'laws.FnSigns': WHATEVER THE INPUT: true; the input reads as it did. -/
def fnSignsSpec : ChangeSpec := { name := "fnSigns", vars := ["loop.example/g00284/impl.shaFirst", "loop.example/g00284/impl.shaSteps"], fn := fun _ => fun
  | [d, g1, g2] => { results := [.lit (.bool true)], args := [d], vars := [g1, g2] }
  | _ => none }
def fnSignsRow : OpenClaim := { program := "ytmfoliocibjdnaadoor", sum := "207861717da419a23d132879a444dccaaa9e881655c41ac641201fe4ef2fed96", func := "loop.example/g00284/laws.FnSigns", spec := "fnSigns", named := ["loop.example/g00284/impl.shaFirst", "loop.example/g00284/impl.shaSteps"], apart := false, laid := [("loop.example/g00284/impl.shaFirst", laid_loop_example_g00284_impl_shaFirst), ("loop.example/g00284/impl.shaSteps", laid_loop_example_g00284_impl_shaSteps)] }
def FnSignsSaid : Prop := fnSignsRow.holds Tryd.pinned (OpenSpec.ofChange fnSignsSpec)

/-- ITS FALSE NEIGHBOUR: 'it returns false'. Refute it at one input. -/
def fnSignsWrong : ChangeSpec := { name := "fnSigns", vars := ["loop.example/g00284/impl.shaFirst", "loop.example/g00284/impl.shaSteps"], fn := fun _ => fun
  | [d, g1, g2] => { results := [.lit (.bool false)], args := [d], vars := [g1, g2] }
  | _ => none }
def FnSignsWrongFalsely : Prop := fnSignsRow.holds Tryd.pinned (OpenSpec.ofChange fnSignsWrong)

/-- 'laws.FnSignsOther': WHATEVER THE INPUT: true; the input reads as it did. -/
def fnSignsOtherSpec : ChangeSpec := { name := "fnSignsOther", vars := ["loop.example/g00284/impl.shaFirst", "loop.example/g00284/impl.shaSteps"], fn := fun _ => fun
  | [d, g1, g2] => { results := [.lit (.bool true)], args := [d], vars := [g1, g2] }
  | _ => none }
def fnSignsOtherRow : OpenClaim := { program := "ytmfoliocibjdnaadoor", sum := "207861717da419a23d132879a444dccaaa9e881655c41ac641201fe4ef2fed96", func := "loop.example/g00284/laws.FnSignsOther", spec := "fnSignsOther", named := ["loop.example/g00284/impl.shaFirst", "loop.example/g00284/impl.shaSteps"], apart := false, laid := [("loop.example/g00284/impl.shaFirst", laid_loop_example_g00284_impl_shaFirst), ("loop.example/g00284/impl.shaSteps", laid_loop_example_g00284_impl_shaSteps)] }
def FnSignsOtherSaid : Prop := fnSignsOtherRow.holds Tryd.pinned (OpenSpec.ofChange fnSignsOtherSpec)

/-- ITS FALSE NEIGHBOUR: 'it returns false'. Refute it at one input. -/
def fnSignsOtherWrong : ChangeSpec := { name := "fnSignsOther", vars := ["loop.example/g00284/impl.shaFirst", "loop.example/g00284/impl.shaSteps"], fn := fun _ => fun
  | [d, g1, g2] => { results := [.lit (.bool false)], args := [d], vars := [g1, g2] }
  | _ => none }
def FnSignsOtherWrongFalsely : Prop := fnSignsOtherRow.holds Tryd.pinned (OpenSpec.ofChange fnSignsOtherWrong)

/-- 'laws.FnSignsTurned': WHATEVER THE INPUT: true; the input reads as it did. -/
def fnSignsTurnedSpec : ChangeSpec := { name := "fnSignsTurned", vars := ["loop.example/g00284/impl.shaFirst", "loop.example/g00284/impl.shaSteps"], fn := fun _ => fun
  | [d, g1, g2] => { results := [.lit (.bool true)], args := [d], vars := [g1, g2] }
  | _ => none }
def fnSignsTurnedRow : OpenClaim := { program := "ytmfoliocibjdnaadoor", sum := "207861717da419a23d132879a444dccaaa9e881655c41ac641201fe4ef2fed96", func := "loop.example/g00284/laws.FnSignsTurned", spec := "fnSignsTurned", named := ["loop.example/g00284/impl.shaFirst", "loop.example/g00284/impl.shaSteps"], apart := false, laid := [("loop.example/g00284/impl.shaFirst", laid_loop_example_g00284_impl_shaFirst), ("loop.example/g00284/impl.shaSteps", laid_loop_example_g00284_impl_shaSteps)] }
def FnSignsTurnedSaid : Prop := fnSignsTurnedRow.holds Tryd.pinned (OpenSpec.ofChange fnSignsTurnedSpec)

/-- ITS FALSE NEIGHBOUR: 'it returns false'. Refute it at one input. -/
def fnSignsTurnedWrong : ChangeSpec := { name := "fnSignsTurned", vars := ["loop.example/g00284/impl.shaFirst", "loop.example/g00284/impl.shaSteps"], fn := fun _ => fun
  | [d, g1, g2] => { results := [.lit (.bool false)], args := [d], vars := [g1, g2] }
  | _ => none }
def FnSignsTurnedWrongFalsely : Prop := fnSignsTurnedRow.holds Tryd.pinned (OpenSpec.ofChange fnSignsTurnedWrong)

/-- 'laws.FnPools': WHATEVER THE INPUT: true; the input reads as it did. -/
def fnPoolsSpec : ChangeSpec := { name := "fnPools", vars := ["loop.example/g00284/impl.shaFirst", "loop.example/g00284/impl.shaSteps"], fn := fun _ => fun
  | [d, g1, g2] => { results := [.lit (.bool true)], args := [d], vars := [g1, g2] }
  | _ => none }
def fnPoolsRow : OpenClaim := { program := "ytmfoliocibjdnaadoor", sum := "207861717da419a23d132879a444dccaaa9e881655c41ac641201fe4ef2fed96", func := "loop.example/g00284/laws.FnPools", spec := "fnPools", named := ["loop.example/g00284/impl.shaFirst", "loop.example/g00284/impl.shaSteps"], apart := false, laid := [("loop.example/g00284/impl.shaFirst", laid_loop_example_g00284_impl_shaFirst), ("loop.example/g00284/impl.shaSteps", laid_loop_example_g00284_impl_shaSteps)] }
def FnPoolsSaid : Prop := fnPoolsRow.holds Tryd.pinned (OpenSpec.ofChange fnPoolsSpec)

/-- ITS FALSE NEIGHBOUR: 'it returns false'. Refute it at one input. -/
def fnPoolsWrong : ChangeSpec := { name := "fnPools", vars := ["loop.example/g00284/impl.shaFirst", "loop.example/g00284/impl.shaSteps"], fn := fun _ => fun
  | [d, g1, g2] => { results := [.lit (.bool false)], args := [d], vars := [g1, g2] }
  | _ => none }
def FnPoolsWrongFalsely : Prop := fnPoolsRow.holds Tryd.pinned (OpenSpec.ofChange fnPoolsWrong)

/-- 'laws.FnSeals': WHATEVER THE INPUT: true; the input reads as it did. -/
def fnSealsSpec : ChangeSpec := { name := "fnSeals", vars := ["loop.example/g00284/impl.shaFirst", "loop.example/g00284/impl.shaSteps"], fn := fun _ => fun
  | [d, g1, g2] => { results := [.lit (.bool true)], args := [d], vars := [g1, g2] }
  | _ => none }
def fnSealsRow : OpenClaim := { program := "ytmfoliocibjdnaadoor", sum := "207861717da419a23d132879a444dccaaa9e881655c41ac641201fe4ef2fed96", func := "loop.example/g00284/laws.FnSeals", spec := "fnSeals", named := ["loop.example/g00284/impl.shaFirst", "loop.example/g00284/impl.shaSteps"], apart := false, laid := [("loop.example/g00284/impl.shaFirst", laid_loop_example_g00284_impl_shaFirst), ("loop.example/g00284/impl.shaSteps", laid_loop_example_g00284_impl_shaSteps)] }
def FnSealsSaid : Prop := fnSealsRow.holds Tryd.pinned (OpenSpec.ofChange fnSealsSpec)

/-- ITS FALSE NEIGHBOUR: 'it returns false'. Refute it at one input. -/
def fnSealsWrong : ChangeSpec := { name := "fnSeals", vars := ["loop.example/g00284/impl.shaFirst", "loop.example/g00284/impl.shaSteps"], fn := fun _ => fun
  | [d, g1, g2] => { results := [.lit (.bool false)], args := [d], vars := [g1, g2] }
  | _ => none }
def FnSealsWrongFalsely : Prop := fnSealsRow.holds Tryd.pinned (OpenSpec.ofChange fnSealsWrong)

/-- 'laws.FnStamps': WHATEVER THE INPUT: true; the input reads as it did. -/
def fnStampsSpec : ChangeSpec := { name := "fnStamps", vars := ["loop.example/g00284/impl.shaFirst", "loop.example/g00284/impl.shaSteps"], fn := fun _ => fun
  | [d, g1, g2] => { results := [.lit (.bool true)], args := [d], vars := [g1, g2] }
  | _ => none }
def fnStampsRow : OpenClaim := { program := "ytmfoliocibjdnaadoor", sum := "207861717da419a23d132879a444dccaaa9e881655c41ac641201fe4ef2fed96", func := "loop.example/g00284/laws.FnStamps", spec := "fnStamps", named := ["loop.example/g00284/impl.shaFirst", "loop.example/g00284/impl.shaSteps"], apart := false, laid := [("loop.example/g00284/impl.shaFirst", laid_loop_example_g00284_impl_shaFirst), ("loop.example/g00284/impl.shaSteps", laid_loop_example_g00284_impl_shaSteps)] }
def FnStampsSaid : Prop := fnStampsRow.holds Tryd.pinned (OpenSpec.ofChange fnStampsSpec)

/-- ITS FALSE NEIGHBOUR: 'it returns false'. Refute it at one input. -/
def fnStampsWrong : ChangeSpec := { name := "fnStamps", vars := ["loop.example/g00284/impl.shaFirst", "loop.example/g00284/impl.shaSteps"], fn := fun _ => fun
  | [d, g1, g2] => { results := [.lit (.bool false)], args := [d], vars := [g1, g2] }
  | _ => none }
def FnStampsWrongFalsely : Prop := fnStampsRow.holds Tryd.pinned (OpenSpec.ofChange fnStampsWrong)

/-- 'laws.FnExactSigOk': WHATEVER THE INPUT: true; the input reads as it did. -/
def fnExactSigOkSpec : ChangeSpec := { name := "fnExactSigOk", vars := ["loop.example/g00284/impl.shaFirst", "loop.example/g00284/impl.shaSteps"], fn := fun _ => fun
  | [d1, d2, d3, g1, g2] => { results := [.lit (.bool true)], args := [d1, d2, d3], vars := [g1, g2] }
  | _ => none }
def fnExactSigOkRow : OpenClaim := { program := "ytmfoliocibjdnaadoor", sum := "207861717da419a23d132879a444dccaaa9e881655c41ac641201fe4ef2fed96", func := "loop.example/g00284/laws.FnExactSigOk", spec := "fnExactSigOk", named := ["loop.example/g00284/impl.shaFirst", "loop.example/g00284/impl.shaSteps"], apart := false, laid := [("loop.example/g00284/impl.shaFirst", laid_loop_example_g00284_impl_shaFirst), ("loop.example/g00284/impl.shaSteps", laid_loop_example_g00284_impl_shaSteps)] }
def FnExactSigOkSaid : Prop := fnExactSigOkRow.holds Tryd.pinned (OpenSpec.ofChange fnExactSigOkSpec)

/-- ITS FALSE NEIGHBOUR: 'it returns false'. Refute it at one input. -/
def fnExactSigOkWrong : ChangeSpec := { name := "fnExactSigOk", vars := ["loop.example/g00284/impl.shaFirst", "loop.example/g00284/impl.shaSteps"], fn := fun _ => fun
  | [d1, d2, d3, g1, g2] => { results := [.lit (.bool false)], args := [d1, d2, d3], vars := [g1, g2] }
  | _ => none }
def FnExactSigOkWrongFalsely : Prop := fnExactSigOkRow.holds Tryd.pinned (OpenSpec.ofChange fnExactSigOkWrong)

/-- 'laws.FnExactSealHead': WHATEVER THE INPUT: true; the input reads as it did. -/
def fnExactSealHeadSpec : ChangeSpec := { name := "fnExactSealHead", vars := ["loop.example/g00284/impl.shaFirst", "loop.example/g00284/impl.shaSteps"], fn := fun _ => fun
  | [d1, d2, d3, g1, g2] => { results := [.lit (.bool true)], args := [d1, d2, d3], vars := [g1, g2] }
  | _ => none }
def fnExactSealHeadRow : OpenClaim := { program := "ytmfoliocibjdnaadoor", sum := "207861717da419a23d132879a444dccaaa9e881655c41ac641201fe4ef2fed96", func := "loop.example/g00284/laws.FnExactSealHead", spec := "fnExactSealHead", named := ["loop.example/g00284/impl.shaFirst", "loop.example/g00284/impl.shaSteps"], apart := false, laid := [("loop.example/g00284/impl.shaFirst", laid_loop_example_g00284_impl_shaFirst), ("loop.example/g00284/impl.shaSteps", laid_loop_example_g00284_impl_shaSteps)] }
def FnExactSealHeadSaid : Prop := fnExactSealHeadRow.holds Tryd.pinned (OpenSpec.ofChange fnExactSealHeadSpec)

/-- ITS FALSE NEIGHBOUR: 'it returns false'. Refute it at one input. -/
def fnExactSealHeadWrong : ChangeSpec := { name := "fnExactSealHead", vars := ["loop.example/g00284/impl.shaFirst", "loop.example/g00284/impl.shaSteps"], fn := fun _ => fun
  | [d1, d2, d3, g1, g2] => { results := [.lit (.bool false)], args := [d1, d2, d3], vars := [g1, g2] }
  | _ => none }
def FnExactSealHeadWrongFalsely : Prop := fnExactSealHeadRow.holds Tryd.pinned (OpenSpec.ofChange fnExactSealHeadWrong)

/-- 'laws.FnExactSealOk': WHATEVER THE INPUT: true; the input reads as it did. -/
def fnExactSealOkSpec : ChangeSpec := { name := "fnExactSealOk", vars := ["loop.example/g00284/impl.shaFirst", "loop.example/g00284/impl.shaSteps"], fn := fun _ => fun
  | [d1, d2, g1, g2] => { results := [.lit (.bool true)], args := [d1, d2], vars := [g1, g2] }
  | _ => none }
def fnExactSealOkRow : OpenClaim := { program := "ytmfoliocibjdnaadoor", sum := "207861717da419a23d132879a444dccaaa9e881655c41ac641201fe4ef2fed96", func := "loop.example/g00284/laws.FnExactSealOk", spec := "fnExactSealOk", named := ["loop.example/g00284/impl.shaFirst", "loop.example/g00284/impl.shaSteps"], apart := false, laid := [("loop.example/g00284/impl.shaFirst", laid_loop_example_g00284_impl_shaFirst), ("loop.example/g00284/impl.shaSteps", laid_loop_example_g00284_impl_shaSteps)] }
def FnExactSealOkSaid : Prop := fnExactSealOkRow.holds Tryd.pinned (OpenSpec.ofChange fnExactSealOkSpec)

/-- ITS FALSE NEIGHBOUR: 'it returns false'. Refute it at one input. -/
def fnExactSealOkWrong : ChangeSpec := { name := "fnExactSealOk", vars := ["loop.example/g00284/impl.shaFirst", "loop.example/g00284/impl.shaSteps"], fn := fun _ => fun
  | [d1, d2, g1, g2] => { results := [.lit (.bool false)], args := [d1, d2], vars := [g1, g2] }
  | _ => none }
def FnExactSealOkWrongFalsely : Prop := fnExactSealOkRow.holds Tryd.pinned (OpenSpec.ofChange fnExactSealOkWrong)

/-- 'laws.FnExactStampHead': WHATEVER THE INPUT: true; the input reads as it did. -/
def fnExactStampHeadSpec : ChangeSpec := { name := "fnExactStampHead", vars := ["loop.example/g00284/impl.shaFirst", "loop.example/g00284/impl.shaSteps"], fn := fun _ => fun
  | [d1, d2, d3, g1, g2] => { results := [.lit (.bool true)], args := [d1, d2, d3], vars := [g1, g2] }
  | _ => none }
def fnExactStampHeadRow : OpenClaim := { program := "ytmfoliocibjdnaadoor", sum := "207861717da419a23d132879a444dccaaa9e881655c41ac641201fe4ef2fed96", func := "loop.example/g00284/laws.FnExactStampHead", spec := "fnExactStampHead", named := ["loop.example/g00284/impl.shaFirst", "loop.example/g00284/impl.shaSteps"], apart := false, laid := [("loop.example/g00284/impl.shaFirst", laid_loop_example_g00284_impl_shaFirst), ("loop.example/g00284/impl.shaSteps", laid_loop_example_g00284_impl_shaSteps)] }
def FnExactStampHeadSaid : Prop := fnExactStampHeadRow.holds Tryd.pinned (OpenSpec.ofChange fnExactStampHeadSpec)

/-- ITS FALSE NEIGHBOUR: 'it returns false'. Refute it at one input. -/
def fnExactStampHeadWrong : ChangeSpec := { name := "fnExactStampHead", vars := ["loop.example/g00284/impl.shaFirst", "loop.example/g00284/impl.shaSteps"], fn := fun _ => fun
  | [d1, d2, d3, g1, g2] => { results := [.lit (.bool false)], args := [d1, d2, d3], vars := [g1, g2] }
  | _ => none }
def FnExactStampHeadWrongFalsely : Prop := fnExactStampHeadRow.holds Tryd.pinned (OpenSpec.ofChange fnExactStampHeadWrong)

/-- 'laws.FnExactStampOk': WHATEVER THE INPUT: true; the input reads as it did. -/
def fnExactStampOkSpec : ChangeSpec := { name := "fnExactStampOk", vars := ["loop.example/g00284/impl.shaFirst", "loop.example/g00284/impl.shaSteps"], fn := fun _ => fun
  | [d1, d2, d3, g1, g2] => { results := [.lit (.bool true)], args := [d1, d2, d3], vars := [g1, g2] }
  | _ => none }
def fnExactStampOkRow : OpenClaim := { program := "ytmfoliocibjdnaadoor", sum := "207861717da419a23d132879a444dccaaa9e881655c41ac641201fe4ef2fed96", func := "loop.example/g00284/laws.FnExactStampOk", spec := "fnExactStampOk", named := ["loop.example/g00284/impl.shaFirst", "loop.example/g00284/impl.shaSteps"], apart := false, laid := [("loop.example/g00284/impl.shaFirst", laid_loop_example_g00284_impl_shaFirst), ("loop.example/g00284/impl.shaSteps", laid_loop_example_g00284_impl_shaSteps)] }
def FnExactStampOkSaid : Prop := fnExactStampOkRow.holds Tryd.pinned (OpenSpec.ofChange fnExactStampOkSpec)

/-- ITS FALSE NEIGHBOUR: 'it returns false'. Refute it at one input. -/
def fnExactStampOkWrong : ChangeSpec := { name := "fnExactStampOk", vars := ["loop.example/g00284/impl.shaFirst", "loop.example/g00284/impl.shaSteps"], fn := fun _ => fun
  | [d1, d2, d3, g1, g2] => { results := [.lit (.bool false)], args := [d1, d2, d3], vars := [g1, g2] }
  | _ => none }
def FnExactStampOkWrongFalsely : Prop := fnExactStampOkRow.holds Tryd.pinned (OpenSpec.ofChange fnExactStampOkWrong)

/- THE SECOND FORM. 'bulk': how many values and letters a reading holds, each counted each time it is reached (what is shared counts as often as it is met; a slice's spare places count too). A statement '..UptoSaid' is the law's where the arguments, and the package variables that the reading takes, are together of bulk at most 1048576: NARROWER than '..Said'. Prove '..Said' where nothing that the law and all that it calls make is longer than what came in: it says more and counts as full. Else prove '..UptoSaid'. A law counts once. -/
mutual
def uptoBulk {H : Type} : DataW H → Nat
  | .lit (.string bytes) => bytes.length + 1
  | .lit _ => 1
  | .nil => 1
  | .ptr d => uptoBulk d + 1
  | .slice elems spare => uptoBulkAll elems + uptoBulkAll spare + 1
  | .agg parts => uptoBulkAll parts + 1
  | .iface _ d => uptoBulk d + 1
  | .map entries => uptoBulkEntries entries + 1
  | .held _ => 1
def uptoBulkAll {H : Type} : List (DataW H) → Nat
  | [] => 0
  | d :: r => uptoBulk d + uptoBulkAll r
def uptoBulkEntries {H : Type} : List (Lit × DataW H) → Nat
  | [] => 0
  | x :: r => uptoBulkEntry x + uptoBulkEntries r
def uptoBulkEntry {H : Type} : Lit × DataW H → Nat
  | (.string bytes, d) => bytes.length + uptoBulk d + 1
  | (_, d) => uptoBulk d + 1
 end
def uptoSmall : (H : Type) → List (DataW H) → Bool := fun _ ds => decide (uptoBulkAll ds ≤ 1048576)
def OpenSpec.upto (s : _root_.Go.ChangeSpec) : _root_.Go.OpenSpec := { _root_.Go.OpenSpec.ofChange s with cond := some uptoSmall }

/-- 'laws.FnSigns', WHERE WHAT IT READS IS OF BULK AT MOST 1048576: true; the input reads as it did. -/
def fnSignsUptoRow : OpenClaim := { program := "ytmfoliocibjdnaadoor", sum := "207861717da419a23d132879a444dccaaa9e881655c41ac641201fe4ef2fed96", func := "loop.example/g00284/laws.FnSigns", spec := "fnSigns", named := ["loop.example/g00284/impl.shaFirst", "loop.example/g00284/impl.shaSteps"], apart := false, laid := [("loop.example/g00284/impl.shaFirst", laid_loop_example_g00284_impl_shaFirst), ("loop.example/g00284/impl.shaSteps", laid_loop_example_g00284_impl_shaSteps)], narrowed := true }
def FnSignsUptoSaid : Prop := fnSignsUptoRow.holds Tryd.pinned (OpenSpec.upto fnSignsSpec)

/-- 'laws.FnSignsOther', WHERE WHAT IT READS IS OF BULK AT MOST 1048576: true; the input reads as it did. -/
def fnSignsOtherUptoRow : OpenClaim := { program := "ytmfoliocibjdnaadoor", sum := "207861717da419a23d132879a444dccaaa9e881655c41ac641201fe4ef2fed96", func := "loop.example/g00284/laws.FnSignsOther", spec := "fnSignsOther", named := ["loop.example/g00284/impl.shaFirst", "loop.example/g00284/impl.shaSteps"], apart := false, laid := [("loop.example/g00284/impl.shaFirst", laid_loop_example_g00284_impl_shaFirst), ("loop.example/g00284/impl.shaSteps", laid_loop_example_g00284_impl_shaSteps)], narrowed := true }
def FnSignsOtherUptoSaid : Prop := fnSignsOtherUptoRow.holds Tryd.pinned (OpenSpec.upto fnSignsOtherSpec)

/-- 'laws.FnSignsTurned', WHERE WHAT IT READS IS OF BULK AT MOST 1048576: true; the input reads as it did. -/
def fnSignsTurnedUptoRow : OpenClaim := { program := "ytmfoliocibjdnaadoor", sum := "207861717da419a23d132879a444dccaaa9e881655c41ac641201fe4ef2fed96", func := "loop.example/g00284/laws.FnSignsTurned", spec := "fnSignsTurned", named := ["loop.example/g00284/impl.shaFirst", "loop.example/g00284/impl.shaSteps"], apart := false, laid := [("loop.example/g00284/impl.shaFirst", laid_loop_example_g00284_impl_shaFirst), ("loop.example/g00284/impl.shaSteps", laid_loop_example_g00284_impl_shaSteps)], narrowed := true }
def FnSignsTurnedUptoSaid : Prop := fnSignsTurnedUptoRow.holds Tryd.pinned (OpenSpec.upto fnSignsTurnedSpec)

/-- 'laws.FnPools', WHERE WHAT IT READS IS OF BULK AT MOST 1048576: true; the input reads as it did. -/
def fnPoolsUptoRow : OpenClaim := { program := "ytmfoliocibjdnaadoor", sum := "207861717da419a23d132879a444dccaaa9e881655c41ac641201fe4ef2fed96", func := "loop.example/g00284/laws.FnPools", spec := "fnPools", named := ["loop.example/g00284/impl.shaFirst", "loop.example/g00284/impl.shaSteps"], apart := false, laid := [("loop.example/g00284/impl.shaFirst", laid_loop_example_g00284_impl_shaFirst), ("loop.example/g00284/impl.shaSteps", laid_loop_example_g00284_impl_shaSteps)], narrowed := true }
def FnPoolsUptoSaid : Prop := fnPoolsUptoRow.holds Tryd.pinned (OpenSpec.upto fnPoolsSpec)

/-- 'laws.FnSeals', WHERE WHAT IT READS IS OF BULK AT MOST 1048576: true; the input reads as it did. -/
def fnSealsUptoRow : OpenClaim := { program := "ytmfoliocibjdnaadoor", sum := "207861717da419a23d132879a444dccaaa9e881655c41ac641201fe4ef2fed96", func := "loop.example/g00284/laws.FnSeals", spec := "fnSeals", named := ["loop.example/g00284/impl.shaFirst", "loop.example/g00284/impl.shaSteps"], apart := false, laid := [("loop.example/g00284/impl.shaFirst", laid_loop_example_g00284_impl_shaFirst), ("loop.example/g00284/impl.shaSteps", laid_loop_example_g00284_impl_shaSteps)], narrowed := true }
def FnSealsUptoSaid : Prop := fnSealsUptoRow.holds Tryd.pinned (OpenSpec.upto fnSealsSpec)

/-- 'laws.FnStamps', WHERE WHAT IT READS IS OF BULK AT MOST 1048576: true; the input reads as it did. -/
def fnStampsUptoRow : OpenClaim := { program := "ytmfoliocibjdnaadoor", sum := "207861717da419a23d132879a444dccaaa9e881655c41ac641201fe4ef2fed96", func := "loop.example/g00284/laws.FnStamps", spec := "fnStamps", named := ["loop.example/g00284/impl.shaFirst", "loop.example/g00284/impl.shaSteps"], apart := false, laid := [("loop.example/g00284/impl.shaFirst", laid_loop_example_g00284_impl_shaFirst), ("loop.example/g00284/impl.shaSteps", laid_loop_example_g00284_impl_shaSteps)], narrowed := true }
def FnStampsUptoSaid : Prop := fnStampsUptoRow.holds Tryd.pinned (OpenSpec.upto fnStampsSpec)

/-- 'laws.FnExactSigOk', WHERE WHAT IT READS IS OF BULK AT MOST 1048576: true; the input reads as it did. -/
def fnExactSigOkUptoRow : OpenClaim := { program := "ytmfoliocibjdnaadoor", sum := "207861717da419a23d132879a444dccaaa9e881655c41ac641201fe4ef2fed96", func := "loop.example/g00284/laws.FnExactSigOk", spec := "fnExactSigOk", named := ["loop.example/g00284/impl.shaFirst", "loop.example/g00284/impl.shaSteps"], apart := false, laid := [("loop.example/g00284/impl.shaFirst", laid_loop_example_g00284_impl_shaFirst), ("loop.example/g00284/impl.shaSteps", laid_loop_example_g00284_impl_shaSteps)], narrowed := true }
def FnExactSigOkUptoSaid : Prop := fnExactSigOkUptoRow.holds Tryd.pinned (OpenSpec.upto fnExactSigOkSpec)

/-- 'laws.FnExactSealHead', WHERE WHAT IT READS IS OF BULK AT MOST 1048576: true; the input reads as it did. -/
def fnExactSealHeadUptoRow : OpenClaim := { program := "ytmfoliocibjdnaadoor", sum := "207861717da419a23d132879a444dccaaa9e881655c41ac641201fe4ef2fed96", func := "loop.example/g00284/laws.FnExactSealHead", spec := "fnExactSealHead", named := ["loop.example/g00284/impl.shaFirst", "loop.example/g00284/impl.shaSteps"], apart := false, laid := [("loop.example/g00284/impl.shaFirst", laid_loop_example_g00284_impl_shaFirst), ("loop.example/g00284/impl.shaSteps", laid_loop_example_g00284_impl_shaSteps)], narrowed := true }
def FnExactSealHeadUptoSaid : Prop := fnExactSealHeadUptoRow.holds Tryd.pinned (OpenSpec.upto fnExactSealHeadSpec)

/-- 'laws.FnExactSealOk', WHERE WHAT IT READS IS OF BULK AT MOST 1048576: true; the input reads as it did. -/
def fnExactSealOkUptoRow : OpenClaim := { program := "ytmfoliocibjdnaadoor", sum := "207861717da419a23d132879a444dccaaa9e881655c41ac641201fe4ef2fed96", func := "loop.example/g00284/laws.FnExactSealOk", spec := "fnExactSealOk", named := ["loop.example/g00284/impl.shaFirst", "loop.example/g00284/impl.shaSteps"], apart := false, laid := [("loop.example/g00284/impl.shaFirst", laid_loop_example_g00284_impl_shaFirst), ("loop.example/g00284/impl.shaSteps", laid_loop_example_g00284_impl_shaSteps)], narrowed := true }
def FnExactSealOkUptoSaid : Prop := fnExactSealOkUptoRow.holds Tryd.pinned (OpenSpec.upto fnExactSealOkSpec)

/-- 'laws.FnExactStampHead', WHERE WHAT IT READS IS OF BULK AT MOST 1048576: true; the input reads as it did. -/
def fnExactStampHeadUptoRow : OpenClaim := { program := "ytmfoliocibjdnaadoor", sum := "207861717da419a23d132879a444dccaaa9e881655c41ac641201fe4ef2fed96", func := "loop.example/g00284/laws.FnExactStampHead", spec := "fnExactStampHead", named := ["loop.example/g00284/impl.shaFirst", "loop.example/g00284/impl.shaSteps"], apart := false, laid := [("loop.example/g00284/impl.shaFirst", laid_loop_example_g00284_impl_shaFirst), ("loop.example/g00284/impl.shaSteps", laid_loop_example_g00284_impl_shaSteps)], narrowed := true }
def FnExactStampHeadUptoSaid : Prop := fnExactStampHeadUptoRow.holds Tryd.pinned (OpenSpec.upto fnExactStampHeadSpec)

/-- 'laws.FnExactStampOk', WHERE WHAT IT READS IS OF BULK AT MOST 1048576: true; the input reads as it did. -/
def fnExactStampOkUptoRow : OpenClaim := { program := "ytmfoliocibjdnaadoor", sum := "207861717da419a23d132879a444dccaaa9e881655c41ac641201fe4ef2fed96", func := "loop.example/g00284/laws.FnExactStampOk", spec := "fnExactStampOk", named := ["loop.example/g00284/impl.shaFirst", "loop.example/g00284/impl.shaSteps"], apart := false, laid := [("loop.example/g00284/impl.shaFirst", laid_loop_example_g00284_impl_shaFirst), ("loop.example/g00284/impl.shaSteps", laid_loop_example_g00284_impl_shaSteps)], narrowed := true }
def FnExactStampOkUptoSaid : Prop := fnExactStampOkUptoRow.holds Tryd.pinned (OpenSpec.upto fnExactStampOkSpec)

end Rows
end Go.Proofs.YtmfoliocibjdnaaDoor
