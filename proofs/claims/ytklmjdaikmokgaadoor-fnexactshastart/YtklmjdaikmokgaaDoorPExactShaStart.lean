/-
  For every input the law FnExactShaStart answers true, and its arguments read afterwards as they read before; the listed tables of the program start, and are left, as the program's text lays them.
-/
import Derived.Test.YtklmjdaikmokgaaDoorFrame
import Derived.Test.YtklmjdaikmokgaaDoorStart
namespace Go.Proofs.YtklmjdaikmokgaaDoor.fnExactShaStart
open Go.ChangeShapes Go.WideShapes Go.ChangeAt Go.RowKit
open Go.ChangeMaps (open_string shut_string)
set_option linter.unusedVariables false

theorem rowed : varsRowed Tryd.prog ["loop.example/g00284/impl.shaFirst"] = true := by kernel_rfl

set_option maxRecDepth 100000 in
set_option maxHeartbeats 400000 in
theorem walk (w : World) (hF : TabF w) :
    Calls Tryd.prog 7 #[] w fun e w' => e = .returned (.bool true) ∧ Below w.heap.size w w' := by
  have hfp := hF.pos
  have HF : Hid (TabF w) := hF
  have hsl := stI_len firstF 8
  clear hF
  go_enter Tryd.func7, Tryd.ntmps7
  go_wp2_with fail
  refine (sShaStart_any _).mono ?_
  rintro e w1 ⟨ga, ca, rfl, hga, ia, hb1⟩
  have hga1 := ia.lt
  go_wp2_with fail
  refine (ShaStart_any w1 (HF.out.later hb1 hfp)).mono ?_
  rintro e w2 ⟨gb, cb, rfl, hgb, ib, hb2⟩
  have hgb2 := ib.lt
  have ia2 := ia.below hb2 hga1
  have b2 : Below w.heap.size w w2 := hb1.trans (hb2.mono hb1.size)
  go_wp2_with fail
  refine (eqIntS_yes _ _ gb 0 ga 0 _ w2 (ib.sv cb 8 hsl (by omega)) (ia2.sv ca 8 hsl (by omega))).mono ?_
  rintro e w3 ⟨rfl, q3, rfl⟩
  have ib3 : IB (w2.drewN q3) gb (stI firstF 8) := ib
  have ia3 : IB (w2.drewN q3) ga (stI firstF 8) := ia2
  have b3 : Below w.heap.size w (w2.drewN q3) := b2.trans ⟨rfl, rfl, rfl, Nat.le_refl _, fun _ _ => rfl⟩
  have hgb3 : gb < (w2.drewN q3).heap.size := hgb2
  clear ib ia2 ia b2 hb2 hgb2
  generalize w2.drewN q3 = v3 at *
  go_wp2_with fail
  refine (markIntS_any gb cb 8 gb (stI firstF 8) v3 hsl (by omega) ib3 (Nat.le_refl _)).mono ?_
  rintro e w4 ⟨rfl, ib4, hb4⟩
  have ia4 := ia3.below hb4 (by omega)
  have hs1 := hb1.size
  have b4 : Below w.heap.size w w4 := b3.trans (hb4.mono (by omega))
  have hs4 := hb4.size
  clear ib3 ia3 b3 hb1
  go_wp2_with fail
  refine (heldIntS_any gb cb 8 w4 (by omega) ib4).mono ?_
  rintro e w5 ⟨rfl, rfl⟩
  go_wp2_with fail
  refine (ShaStart_any _ (HF.out.later b4 hfp)).mono ?_
  rintro e w6 ⟨gc, cc, rfl, hgc, ic, hb6⟩
  have ia6 := ia4.below hb6 (by omega)
  have ib6 := ib4.below hb6 (by omega)
  have b6 : Below w.heap.size w w6 := b4.trans (hb6.mono b4.size)
  clear ia4 ib4 hb6
  go_wp2_with fail
  refine (eqIntS_yes _ _ gc 0 ga 0 _ w6 (ic.sv cc 8 hsl (by omega)) (ia6.sv ca 8 hsl (by omega))).mono ?_
  rintro e w7 ⟨rfl, q7, rfl⟩
  have ib7 : IB (w6.drewN q7) gb (marks 8) := ib6
  have b7 : Below w.heap.size w (w6.drewN q7) := b6.trans ⟨rfl, rfl, rfl, Nat.le_refl _, fun _ _ => rfl⟩
  clear ic ia6 ib6 b6
  generalize w6.drewN q7 = v7 at *
  go_wp2_with fail
  refine (heldIntS_any gb cb 8 v7 (by omega) ib7).mono ?_
  rintro e w8 ⟨rfl, rfl⟩
  go_wp2
  go_ret
  exact ⟨rfl, b7⟩

theorem contract (H : Type) (enc : TypeId × Value → H) (W : World) (base : Nat) (args : Array Value) (ds gs : List (DataW H)) (before : List MemPlace)
    (hval : ∀ (j : Nat) t v, Tryd.f7.params[j]? = some t → args[j]? = some v → Value.okWide Tryd.prog W .any base t v)
    (hW : DataW.Whole enc Tryd.prog Tryd.f7.params.toList Rows.fnExactShaStartSpec.vars false W args.toList ds gs before) (hL : laidMetH Tryd.prog Rows.fnExactShaStartRow.laid W) :
    Calls Tryd.prog 7 args W fun e W' => ∃ v, e = .returned v ∧ Rows.fnExactShaStartSpec.post enc Tryd.prog Tryd.f7 false true false false W args v W' := by
  have hW' := hW
  have hL' : laidMet Tryd.prog Rows.fnExactShaStartRow.laid W := hL
  obtain ⟨p, q, hA0, hV0, rfl, hfz, hnd⟩ := hW
  have hA : DataW.TrodAll enc Tryd.prog W 0 (fun _ => true) true Tryd.f7.params.toList args.toList ds p := hA0
  have hV : DataW.TrodVars enc Tryd.prog W (fun _ => true) ["loop.example/g00284/impl.shaFirst"] gs q := hV0
  rw [Tryd.params7] at hA hval
  obtain ⟨hz, rfl, rfl⟩ := trodAll_nil hA
  obtain rfl : args = #[] := by cases args; simp_all
  obtain ⟨_, _, _, _, dt, _, hgs, _⟩ := trodVars_one hV
  clear hA0 hV0
  subst hgs
  refine (walk W (tabF hL')).mono fun e W' ⟨he, bel⟩ => ?_
  subst he
  exact ⟨_, rfl, _, _, _, [], _, q, hW', trodAll_mk1 (shut_bool Tryd.underlying4 _), trodAll_mk0, bel.trodVars laidOut rowed hV, bel.frame _, fun h => by cases h⟩

theorem laid_met (os : Os) : laidMet Tryd.prog Rows.fnExactShaStartRow.laid ((layWorld (World.holding Tryd.prog os ⟨#[], #[], []⟩)).forCall (fun _ _ => 0) ⟨#[], #[], []⟩).memory :=
  laidMet_of_run' 8 (by kernel_rfl) (by kernel_rfl)
theorem reads (os : Os) {H : Type} (enc : TypeId × Value → H) : ∃ places, DataW.whole enc Tryd.prog ((layWorld (World.holding Tryd.prog os ⟨#[], #[], []⟩)).forCall (fun _ _ => 0) ⟨#[], #[], []⟩).memory Tryd.f7.params.toList Rows.fnExactShaStartSpec.vars false #[].toList 8 = some ([], [Rows.laid_loop_example_g00284_impl_shaFirst], places) :=
  ⟨MemPlace.row ⟨0, 0, none⟩ 8, by kernel_rfl⟩

set_option maxRecDepth 100000 in
theorem lifted (os : Os) (started : os.Started) (H : Type) (enc : TypeId × Value → H) (F : Stop.Interp) :
    ReturnsInHanded {} Tryd.checked os 7 .any ((OpenSpec.ofChange Rows.fnExactShaStartSpec).preRow enc Tryd.prog Tryd.f7 Rows.fnExactShaStartRow.domain false Rows.fnExactShaStartRow.laid) (((OpenSpec.ofChange Rows.fnExactShaStartSpec).at F).post enc Tryd.prog Tryd.f7 false true false false) := by
  obtain ⟨places, hx⟩ := reads os enc
  refine returnsInHanded_of_row (C := Tryd.checked) (s := OpenSpec.ofChange Rows.fnExactShaStartSpec) own started (by kernel_rfl) Tryd.func7
    (witness_row_at (enc := enc) (C := Tryd.checked) false (layWorld (World.holding Tryd.prog os ⟨#[], #[], []⟩)) #[] rfl (by kernel_rfl) (by kernel_rfl) (by kernel_rfl)
      (OpenSpec.preRow_of_cond 8 hx (by kernel_rfl) (fun k hk => by cases hk) (by kernel_rfl) (laid_met os))) ?_
  intro W base args ds gs before hval hW _ _ _ hL _ _
  exact contract H enc W base args ds gs before hval hW hL

theorem said : Rows.FnExactShaStartSaid :=
  OpenClaim.holds_of_cond 7 Tryd.f7 rfl rfl rfl rfl rfl rfl rfl ⟨rfl, rfl, rfl, rfl, rfl⟩ rfl rfl rfl rfl rfl (by kernel_rfl) Tryd.func7 (by kernel_rfl)
    (of_decide_eq_true (by kernel_rfl)) (by unfold Func.isWrapper; first | (rw [if_pos (by decide +kernel)]; kernel_rfl) | (rw [if_neg (by decide +kernel)]; exact ⟨rfl, rfl⟩))
    (fun os started H enc _ F => by rw [OpenClaim.pre_eq_preRow]; exact lifted os started H enc F)

theorem plain (f : FuncId) (fn : Func) (hf : Tryd.pinned.checked.prog.funcNamed Rows.fnExactShaStartRow.func = some f) (hfn : Tryd.pinned.checked.prog.funcs[f]? = some fn) :
    false = Tryd.pinned.checked.prog.looks [] ∧ ∀ (j : Nat) t, fn.params[j]? = some t → Tryd.pinned.checked.prog.wantsStandIn t = false := by
  obtain rfl : f = 7 := Option.some.inj ((show Tryd.prog.funcNamed Rows.fnExactShaStartRow.func = some 7 by kernel_rfl).symm.trans hf) |>.symm
  obtain rfl : fn = Tryd.f7 := (Option.some.inj (Tryd.func7.symm.trans hfn)).symm
  refine ⟨by kernel_rfl, fun j t ht => ?_⟩
  rw [Tryd.params7] at ht
  simp at ht

theorem card : Rows.FnExactShaStartCardSaid :=
  Claim7.holds_tied_plain_at .later [] _ _ _ _ said (fun _ h => by cases h) (by kernel_rfl) (fun _ h => by cases h) fnExactShaStart_row_tie rfl ⟨rfl, rfl⟩ (by kernel_rfl) rfl plain (by kernel_rfl)
end Go.Proofs.YtklmjdaikmokgaaDoor.fnExactShaStart
