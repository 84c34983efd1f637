/-
  For every input the law FnExactSealText answers true, and its arguments read afterwards as they read before.
-/
import Derived.Test.YtmfoliocibjdnaaRows
import Derived.Test.YtmfoliocibjdnaaXh
import Derived.Test.YtmfoliocibjdnaaXp
import Derived.WalkKit
import Derived.ProofKit
import Derived.OpenShut
import Derived.ShutString
import Derived.ChangeOld
import Derived.Below
namespace Go.Proofs.Ytmfoliocibjdnaa.fnExactSealText
open Go.ChangeShapes Go.WideShapes Go.ChangeAt Go.RowKit
open Go.ChangeMaps (open_string shut_string)
set_option linter.unusedVariables false

theorem own : ownKnob Try.prog.godebug = none := by kernel_rfl
theorem laidOut : laidOutB Try.prog = true := by kernel_rfl

theorem walk (x : Hd) (i : Int) (a1 : Option Addr) (n1 k1 : Nat) (z1 : List ByteArray) (a2 : Option Addr) (n2 k2 : Nat) (z2 : List ByteArray) (a3 : Option Addr) (n3 k3 : Nat) (z3 : List ByteArray) (w : World) (hf : HV.FitH x) (h1 : IsRowS w a1 n1 k1 z1) (h2 : IsRowS w a2 n2 k2 z2) (h3 : IsRowS w a3 n3 k3 z3) :
    Calls Try.prog 5 #[.agg #[.int .i64 x.h, .int .i64 x.e, .string x.r, .string x.p, .int .i64 i, .slice a1 n1 k1, .slice a2 n2 k2, .slice a3 n3 k3]] w fun e w' => e = .returned (.bool true) ∧ Below w.heap.size w w' :=
  sealTextLaw_any x.h x.e x.r x.p hf.1 hf.2 i a1 n1 k1 z1 a2 n2 k2 z2 a3 n3 k3 z3 w h1 h2 h3

set_option maxRecDepth 100000 in
theorem lifted (os : Os) (started : os.Started) (H : Type) (enc : TypeId × Value → H) :
    ReturnsInHanded {} Try.checked os 5 .any (Rows.fnExactSealTextSpec.pre6 enc Try.prog Try.f5 Rows.fnExactSealTextRow.domain false) (Rows.fnExactSealTextSpec.post enc Try.prog Try.f5 false true false false) := by
  refine returnsInHanded_of_change (C := Try.checked) own started (by kernel_rfl) Try.func5
    (ChangeSpec.witness6 (enc := enc) (C := Try.checked) false ⟨#[], #[.agg #[.int .i64 0, .int .i64 0, .string ByteArray.empty, .string ByteArray.empty, .int .i64 0, .slice none 0 0, .slice none 0 0, .slice none 0 0]], []⟩ 8 (by kernel_rfl) (by kernel_rfl) (by kernel_rfl) (by kernel_rfl)) ?_
  intro W base args ds gs before hval0 hW hcnd _
  have hval : ∀ (j : Nat) t v, Try.f5.params[j]? = some t → args[j]? = some v → Value.okWide Try.prog W .any base t v := hval0
  have hW' := hW
  obtain ⟨p, q, hA0, hV, rfl, hfz, hnd⟩ := hW
  have hA : DataW.TrodAll enc Try.prog W 0 (fun _ => true) true Try.f5.params.toList args.toList ds p := hA0
  rw [Try.params5] at hA hval
  obtain ⟨v0, vs0, d0, ds0, p0, q0, hargs, rfl, rfl, h0, r0⟩ := trodAll_cons hA
  obtain ⟨rfl, rfl, rfl⟩ := trodAll_nil r0
  obtain rfl : args = #[v0] := by cases args; simp_all
  have k0 := h0
  have lt0 : ∀ x ∈ p0, x.block < W.heap.size := by obtain ⟨m, hm⟩ := k0; exact DataW.trod_lt m _ _ _ hm
  obtain ⟨x0, i0, a0x, l0x, c0x, z0x, a0y, l0y, c0y, z0y, a0z, l0z, c0z, z0z, rfl, wf0, wx0, wy0, wz0⟩ := open_seal (hval 0 32 v0 rfl rfl) h0
  obtain ⟨rfl, rfl⟩ := trodVars_none hV
  clear hA0 hval0
  simp only [List.append_nil] at hW'
  refine (walk x0 i0 a0x l0x c0x z0x a0y l0y c0y z0y a0z l0z c0z z0z W wf0 wx0 wy0 wz0).mono fun e W' ⟨he, bel⟩ => ?_
  subst he
  exact ⟨_, rfl, _, _, _, [], _, [], hW', trodAll_mk1 (shut_bool Try.underlying4 _), (trodAll_cons_mk (Below.trod laidOut (by kernel_rfl) (of_decide_eq_true (by kernel_rfl)) k0 bel lt0) trodAll_mk0), rfl, bel.frame _, fun h => by cases h⟩

theorem over : Rows.fnExactSealTextRow.holds Try.pinned (OpenSpec.ofChange Rows.fnExactSealTextSpec) :=
  OpenClaim.holds_of_wide 5 Try.f5 rfl rfl rfl rfl rfl rfl rfl ⟨rfl, rfl, rfl, rfl, rfl⟩ rfl rfl rfl rfl rfl (by kernel_rfl) Try.func5 (by kernel_rfl)
    (of_decide_eq_true (by kernel_rfl)) (by unfold Func.isWrapper; first | (rw [if_pos (by decide +kernel)]; kernel_rfl) | (rw [if_neg (by decide +kernel)]; exact ⟨rfl, rfl⟩))
    (fun os started H enc _ => lifted os started H enc)

theorem proved : Rows.FnExactSealTextSaid :=
  over
end Go.Proofs.Ytmfoliocibjdnaa.fnExactSealText
