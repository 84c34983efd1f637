/-
  For every input the law FnExactSigText answers true, and its arguments read afterwards as they read before.
-/
import Derived.Test.YteejjnpemaghcaaRows
import Derived.Test.YteejjnpemaghcaaStl
import Derived.Test.YteejjnpemaghcaaSga
import Derived.WalkKit
import Derived.ProofKit
import Derived.OpenShut
import Derived.ShutString
import Derived.ChangeOld
import Derived.Below
namespace Go.Proofs.Yteejjnpemaghcaa.fnExactSigText
open Go.ChangeShapes Go.WideShapes Go.ChangeAt Go.RowKit
open Go.ChangeMaps (open_string shut_string)
set_option linter.unusedVariables false

theorem own : ownKnob Try.prog.godebug = none := by kernel_rfl
theorem laidOut : laidOutB Try.prog = true := by kernel_rfl

theorem walk (i : Int) (a1 : Option Addr) (n1 k1 : Nat) (z1 : List ByteArray) (a2 : Option Addr) (n2 k2 : Nat) (z2 : List ByteArray) (a3 : Option Addr) (n3 k3 : Nat) (z3 : List ByteArray) (w : World) (h1 : IsRowS w a1 n1 k1 z1) (h2 : IsRowS w a2 n2 k2 z2) (h3 : IsRowS w a3 n3 k3 z3) :
    Calls Try.prog 3 #[.agg #[.int .i64 i, .slice a1 n1 k1, .slice a2 n2 k2, .slice a3 n3 k3]] w fun e w' => e = .returned (.bool true) ∧ Below w.heap.size w w' :=
  sigTextLaw_any i a1 n1 k1 z1 a2 n2 k2 z2 a3 n3 k3 z3 w h1 h2 h3

set_option maxRecDepth 100000 in
theorem lifted (os : Os) (started : os.Started) (H : Type) (enc : TypeId × Value → H) :
    ReturnsInHanded {} Try.checked os 3 .any (Rows.fnExactSigTextSpec.pre6 enc Try.prog Try.f3 Rows.fnExactSigTextRow.domain false) (Rows.fnExactSigTextSpec.post enc Try.prog Try.f3 false true false false) := by
  refine returnsInHanded_of_change (C := Try.checked) own started (by kernel_rfl) Try.func3
    (ChangeSpec.witness6 (enc := enc) (C := Try.checked) false ⟨#[], #[.agg #[.int .i64 0, .slice none 0 0, .slice none 0 0, .slice none 0 0]], []⟩ 8 (by kernel_rfl) (by kernel_rfl) (by kernel_rfl) (by kernel_rfl)) ?_
  intro W base args ds gs before hval0 hW hcnd _
  have hval : ∀ (j : Nat) t v, Try.f3.params[j]? = some t → args[j]? = some v → Value.okWide Try.prog W .any base t v := hval0
  have hW' := hW
  obtain ⟨p, q, hA0, hV, rfl, hfz, hnd⟩ := hW
  have hA : DataW.TrodAll enc Try.prog W 0 (fun _ => true) true Try.f3.params.toList args.toList ds p := hA0
  rw [Try.params3] at hA hval
  obtain ⟨v0, vs0, d0, ds0, p0, q0, hargs, rfl, rfl, h0, r0⟩ := trodAll_cons hA
  obtain ⟨rfl, rfl, rfl⟩ := trodAll_nil r0
  obtain rfl : args = #[v0] := by cases args; simp_all
  have k0 := h0
  have lt0 : ∀ x ∈ p0, x.block < W.heap.size := by obtain ⟨m, hm⟩ := k0; exact DataW.trod_lt m _ _ _ hm
  obtain ⟨i0, a0x, l0x, c0x, z0x, a0y, l0y, c0y, z0y, a0z, l0z, c0z, z0z, rfl, wx0, wy0, wz0⟩ := open_sig (hval 0 24 v0 rfl rfl) h0
  obtain ⟨rfl, rfl⟩ := trodVars_none hV
  clear hA0 hval0
  simp only [List.append_nil] at hW'
  refine (walk i0 a0x l0x c0x z0x a0y l0y c0y z0y a0z l0z c0z z0z W wx0 wy0 wz0).mono fun e W' ⟨he, bel⟩ => ?_
  subst he
  exact ⟨_, rfl, _, _, _, [], _, [], hW', trodAll_mk1 (shut_bool Try.underlying4 _), (trodAll_cons_mk (Below.trod laidOut (by kernel_rfl) (of_decide_eq_true (by kernel_rfl)) k0 bel lt0) trodAll_mk0), rfl, bel.frame _, fun h => by cases h⟩

theorem over : Rows.fnExactSigTextRow.holds Try.pinned (OpenSpec.ofChange Rows.fnExactSigTextSpec) :=
  OpenClaim.holds_of_wide 3 Try.f3 rfl rfl rfl rfl rfl rfl rfl ⟨rfl, rfl, rfl, rfl, rfl⟩ rfl rfl rfl rfl rfl (by kernel_rfl) Try.func3 (by kernel_rfl)
    (of_decide_eq_true (by kernel_rfl)) (by unfold Func.isWrapper; first | (rw [if_pos (by decide +kernel)]; kernel_rfl) | (rw [if_neg (by decide +kernel)]; exact ⟨rfl, rfl⟩))
    (fun os started H enc _ => lifted os started H enc)

theorem proved : Rows.FnExactSigTextSaid :=
  over
end Go.Proofs.Yteejjnpemaghcaa.fnExactSigText
