/-
  A leaf put into the map, and dropped from it.
-/
import Derived.Test.YtofdlkfihhjlgaaDoorMr
namespace Go.Proofs.YtofdlkfihhjlgaaDoor
open Go.RowKit Go.BigFrame Go.Sort Go.Maps
set_option linter.unusedVariables false
set_option linter.unusedSimpArgs false

theorem wp_leafLook {w : World} {ops : Array Oper} {rest : List Oper} {o : Oper} {a : Act} {Q : Exit → Act → World → Prop} (hgd : o.guard = none) (m x : Operand) (hop : o.op = Op.lookup 49 m x true)
    (b : Nat) (y : ByteArray) (hm : a.eval m = .map (some b)) (hx : a.eval x = .string y) (B : Nat) (w0 : World) (L : List Le) (h : LM B w0 w b L) (hs : y.size ≤ 2000000)
    (hK : ∀ f : Le, wpList Tryd.prog ops Q rest (a.put o.dst (.tuple #[.agg #[.string f.n, .string f.v], .bool (LV.find L y).isSome])) w) : wpList Tryd.prog ops Q (o :: rest) a w := by
  refine wpList_plain hgd fun K' hK' => ?_
  obtain ⟨f, hrun⟩ := h.look y hs
  unfold Oper.wp
  simp [execOp, hop, hm, hx, hrun, Result.andThen]
  exact hK' _ _ (hK f)

set_option maxRecDepth 100000 in
set_option maxHeartbeats 1000000 in
theorem dropL_any (B : Nat) (w0 w : World) (b : Nat) (L : List Le) (x : ByteArray) (hS : LM B w0 w b L) (hx : x.size ≤ 1048576) :
    Calls Tryd.prog 36 #[.map (some b), .string x] w fun e w' => e = .returned (.bool (LV.find L x).isSome) ∧ LM B w0 w' b (if (LV.find L x).isSome then LV.wout L x else L) := by
  have hbl : ∀ (f : Le), LM B w0 (w.alloc (.cells #[.string f.n, .string f.v] 54)) b L := fun f => hS.later ((Below.refl _ _).alloc (Nat.le_refl _) _)
  have hbz : LM B w0 (w.alloc (.cells #[.string ⟨#[]⟩, .string ⟨#[]⟩] 54)) b L := hS.later ((Below.refl _ _).alloc (Nat.le_refl _) _)
  have HS : Hid (LM B w0 w b L) := hS
  cases hR : (LV.find L x).isSome
  · have HR : Hid ((LV.find L x).isSome = false) := hR
    have HB : Hid (∀ (f : Le), LM B w0 (w.alloc (.cells #[.string f.n, .string f.v] 54)) b L) := hbl
    clear hS hR hbl
    go_enter Tryd.func36, Tryd.ntmps36
    go_wp2_with (at_lookup; refine wp_leafLook rfl _ _ rfl b x rfl rfl B w0 L (by first | exact HS.out | exact hbz) (by omega) ?_; intro f0; rw [HR.out])
    go_ret
    exact ⟨rfl, HB.out f0⟩
  · have HR : Hid ((LV.find L x).isSome = true) := hR
    have HB : Hid (∀ (f : Le), LM B w0 (w.alloc (.cells #[.string f.n, .string f.v] 54)) b L) := hbl
    clear hS hR hbl
    go_enter Tryd.func36, Tryd.ntmps36
    go_wp2_with (first | (at_lookup; refine wp_leafLook rfl _ _ rfl b x rfl rfl B w0 L (by first | exact HS.out | exact hbz) (by omega) ?_; intro f0; rw [HR.out]) | (at_delete; refine wp_leafDel rfl _ _ rfl b x rfl rfl B w0 L (HB.out f0) (by omega) ?_; intro w2 hm2 hg2))
    have HM : Hid (LM B w0 w2 b (LV.wout L x)) := hm2
    clear hm2 hg2
    go_wp2
    go_ret
    exact ⟨rfl, HM.out⟩

set_option maxRecDepth 100000 in
set_option maxHeartbeats 1000000 in
theorem putL_any (B : Nat) (w0 w : World) (b : Nat) (L : List Le) (f : Le) (hS : LM B w0 w b L) (hL : LV.LOk L) (hn : f.n.size ≤ 1048576) (hv : f.v.size ≤ 1048576) :
    Calls Tryd.prog 32 #[.map (some b), .agg #[.string f.n, .string f.v]] w fun e w' => e = .returned (.bool (LV.putB L f)) ∧ LM B w0 w' b (LV.putR L f) := by
  have hbz : LM B w0 ((w.alloc (.cells #[.string f.n, .string f.v] 54)).alloc (.cells #[.string ⟨#[]⟩, .string ⟨#[]⟩] 54)) b L := hS.later (((Below.refl _ _).alloc (Nat.le_refl _) _).alloc (by simp) _)
  have hb1 : LM B w0 (w.alloc (.cells #[.string f.n, .string f.v] 54)) b L := hS.later ((Below.refl _ _).alloc (Nat.le_refl _) _)
  have HB : Hid (∀ (g : Le), LM B w0 ((w.alloc (.cells #[.string f.n, .string f.v] 54)).alloc (.cells #[.string g.n, .string g.v] 54)) b L) := fun g => hS.later (((Below.refl _ _).alloc (Nat.le_refl _) _).alloc (by simp) _)
  have HL : Hid (LV.LOk L) := hL
  have HOK : Hid (∀ W, Calls Tryd.prog 46 #[.agg #[.string f.n, .string f.v]] W fun e w' => e = .returned (.bool (LV.leB f)) ∧ Below W.heap.size W w') := fun W => leafOk_any f W hn hv
  have HPB : Hid (LV.putB L f = (LV.leB f && ((LV.find L f.n).isSome || decide (L.length < 24)))) := by unfold LV.putB; rw [LV.leavesB_iff.2 hL, Bool.true_and]; rfl
  have HPR : Hid (LV.putR L f = if LV.putB L f then LV.put L f else L) := rfl
  clear hS hL
  obtain ⟨R, hR⟩ : ∃ R, (LV.find L f.n).isSome = R := ⟨_, rfl⟩
  have HR : Hid ((LV.find L f.n).isSome = R) := hR
  go_enter Tryd.func32, Tryd.ntmps32
  go_wp2_with (at_lookup; refine wp_leafLook rfl _ _ rfl b f.n rfl rfl B w0 L (by first | exact hbz | exact hb1) (by omega) ?_; intro f0; rw [HR.out])
  refine (HOK.out _).mono ?_
  rintro e w3 ⟨rfl, hb3⟩
  have hbx : BL ((w.alloc (.cells #[.string f.n, .string f.v] 54)).alloc (.cells #[.string f0.n, .string f0.v] 54)) w.heap.size f.n f.v := alloc_snd _ _ _ rfl
  have HX : Hid (LM B w0 w3 b L ∧ BL w3 w.heap.size f.n f.v) := ⟨(HB.out f0).later hb3, hbx.later hb3⟩
  have x0 := HX.out.2.c0
  have x1 := HX.out.2.c1
  have hln := fun ty => HX.out.1.len HL.out.2.2 ty
  clear hb3 hbx HB hbz hb1 HOK HR
  have hpb := HPB.out
  rw [hR] at hpb
  cases hf : LV.leB f
  · rw [hf, Bool.false_and] at hpb
    have HQ : Hid (LV.putB L f = false ∧ LV.putR L f = L) := ⟨hpb, by rw [HPR.out, hpb]; rfl⟩
    clear HPB HPR HL hln hR hpb
    go_wp2
    go_ret
    exact ⟨by rw [HQ.out.1]; rfl, by rw [HQ.out.2]; exact HX.out.1⟩
  · rw [hf, Bool.true_and] at hpb
    cases R
    · rw [Bool.false_or] at hpb
      by_cases h24 : L.length < 24
      · rw [decide_eq_true h24] at hpb
        have HQ : Hid (LV.putB L f = true ∧ LV.putR L f = LV.put L f) := ⟨hpb, by rw [HPR.out, hpb]; rfl⟩
        have q : ¬ (24 : Int) ≤ (L.length : Int) := by omega
        clear HPB HPR hR hpb
        go_wp2_with (at_mapUpdate; refine wp_leafStore rfl _ _ _ rfl b f rfl rfl rfl B w0 L HX.out.1 HL.out (by omega) ?_; intro w4 hm4 hg4)
        have HM : Hid (LM B w0 w4 b (LV.put L f)) := hm4
        clear hm4 hg4 HX x0 x1 hln
        go_wp2
        go_ret
        exact ⟨by rw [HQ.out.1]; rfl, by rw [HQ.out.2]; exact HM.out⟩
      · rw [decide_eq_false h24] at hpb
        have HQ : Hid (LV.putB L f = false ∧ LV.putR L f = L) := ⟨hpb, by rw [HPR.out, hpb]; rfl⟩
        have q : (24 : Int) ≤ (L.length : Int) := by omega
        clear HPB HPR hR hpb
        go_wp2
        go_ret
        exact ⟨by rw [HQ.out.1]; rfl, by rw [HQ.out.2]; exact HX.out.1⟩
    · rw [Bool.true_or] at hpb
      have HQ : Hid (LV.putB L f = true ∧ LV.putR L f = LV.put L f) := ⟨hpb, by rw [HPR.out, hpb]; rfl⟩
      clear HPB HPR hR hpb
      go_wp2_with (at_mapUpdate; refine wp_leafStore rfl _ _ _ rfl b f rfl rfl rfl B w0 L HX.out.1 HL.out (by omega) ?_; intro w4 hm4 hg4)
      have HM : Hid (LM B w0 w4 b (LV.put L f)) := hm4
      clear hm4 hg4 HX x0 x1 hln
      go_wp2
      go_ret
      exact ⟨by rw [HQ.out.1]; rfl, by rw [HQ.out.2]; exact HM.out⟩

end Go.Proofs.YtofdlkfihhjlgaaDoor
