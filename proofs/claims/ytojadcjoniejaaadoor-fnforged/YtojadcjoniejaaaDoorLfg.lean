/-
  The walk of the law FnForged: it answers true of every code.
-/
import Derived.Test.YtojadcjoniejaaaDoorFfg
import Derived.Test.YtojadcjoniejaaaDoorPkN
namespace Go.Proofs.YtojadcjoniejaaaDoor
open Go.RowKit Go.BigFrame Go.Sort
set_option linter.unusedVariables false
set_option linter.unusedSimpArgs false

/-- the two proofs in their boxes -/
def FoS (w0 : World) (gp gq : Nat) (vb vs ub us : Value) (gb gs hb hs : Nat) (B C : List Le) (S : List ByteArray) (W : World) : Prop := Below w0.heap.size w0 W ∧ PfM W gp vb vs ∧ PfM W gq ub us ∧ RS 2 lcs W vb gb 0 B ∧ SS W vs gs 0 S ∧ RS 2 lcs W ub hb 0 C ∧ SS W us hs 0 S
theorem FoS.later {w0 : World} {gp gq : Nat} {vb vs ub us : Value} {gb gs hb hs : Nat} {B C : List Le} {S : List ByteArray} {W W' : World} (h : FoS w0 gp gq vb vs ub us gb gs hb hs B C S W) (hb' : Below W.heap.size W W') : FoS w0 gp gq vb vs ub us gb gs hb hs B C S W' :=
  ⟨h.1.trans (hb'.mono h.1.size), h.2.1.later hb', h.2.2.1.later hb', h.2.2.2.1.later hb', h.2.2.2.2.1.below hb' h.2.2.2.2.1.lt, h.2.2.2.2.2.1.later hb', h.2.2.2.2.2.2.below hb' h.2.2.2.2.2.2.lt⟩

set_option maxRecDepth 100000 in
set_option maxHeartbeats 2000000 in
theorem forgedLaw_any (a0 : Option Addr) (len0 cap0 : Nat) (w : World) (hl0 : len0 ≤ 1048576) (hc : Code w.heap.size w (.slice a0 len0 cap0)) (hK : TabK w) (hF : TabF w) :
    Calls Tryd.prog 4 #[.slice a0 len0 cap0] w fun e w' => e = .returned (.bool true) ∧ Below w.heap.size w w' := by
  have HC : Hid (∀ W, Below w.heap.size w W → Code W.heap.size W (.slice a0 len0 cap0)) := fun W hW => code_laterR hc hW
  have HT : Hid (∀ W, Below w.heap.size w W → Tb W) := fun W hW => Tb.later ⟨hK, hF⟩ hW
  clear hc hK hF
  go_enter Tryd.func4, Tryd.ntmps4
  go_wp2_with fail
  refine (big_no a0 len0 cap0 _ hl0).mono ?_
  rintro e w0 ⟨rfl, rfl⟩
  go_wp2_with fail
  refine (DrawForged_any _ _ (HC.out _ (Below.refl _ _))).mono ?_
  rintro e w1 ⟨nm, vb, vs, ub, us, gb, gs, hb, hs, B, C, S, rfl, h2, h3, h4, h5, h6, h7, h8, h9, hz, h10⟩
  have o1 : vb.oneCell' = true := by obtain ⟨_, _, rfl⟩ := h6.shape; rfl
  have o2 : vs.oneCell' = true := by obtain ⟨_, _, rfl, _⟩ := h7; rfl
  have o3 : ub.oneCell' = true := by obtain ⟨_, _, rfl⟩ := h8.shape; rfl
  have o4 : us.oneCell' = true := by obtain ⟨_, _, rfl, _⟩ := h9; rfl
  have hsB : SmallL B := small_okR h3.1
  have hsC : SmallL C := small_okR h4.1
  have hp := pf_both (x := 1) h2.1 (by omega) h3.1 h3.2 h5.1 h5.2
  have hq := pf_both (x := 1) h2.1 (by omega) h4.1 h4.2 h5.1 h5.2
  have HXT : Hid (∀ W, Below w0.heap.size w0 W → RS 2 lcs W vb gb 0 B → SS W vs gs 0 S → RS 2 lcs W ub hb 0 C → SS W us hs 0 S → Calls Tryd.prog 25 #[.string nm, .agg #[vb, vs], .agg #[ub, us], .int .i64 1] W fun e w' => e = .returned (trip (xtR nm B S C S 1)) ∧ Below W.heap.size W w') := fun W hW k1 k2 k3 k4 => ExtractTwo_any nm vb vs ub us gb 0 gs 0 hb 0 hs 0 B S C S 1 W (by omega) k1 hsB k2 k3 hsC k4 (HT.out _ hW)
  have HS1 : Hid (∀ W, RS 2 lcs W vb gb 0 B → Calls Tryd.prog 26 #[.string nm, .agg #[vb, vs]] W fun e w' => e = .returned (.tuple #[.string (LV.getV B nm), .bool (LV.getB B nm)]) ∧ Below W.heap.size W w') := fun W k => sProofSays_any nm vb vs gb 0 B W k
  have HS2 : Hid (∀ W, RS 2 lcs W ub hb 0 C → Calls Tryd.prog 26 #[.string nm, .agg #[ub, us]] W fun e w' => e = .returned (.tuple #[.string (LV.getV C nm), .bool (LV.getB C nm)]) ∧ Below W.heap.size W w') := fun W k => sProofSays_any nm ub us hb 0 C W k
  have HH1 : Hid (∀ W, RS 2 lcs W vb gb 0 B → SS W vs gs 0 S → Calls Tryd.prog 27 #[.string nm, .agg #[vb, vs], .int .i64 1] W fun e w' => e = .returned (.string (phA nm B S 1)) ∧ Below W.heap.size W w') := fun W k1 k2 => sProofHash_any nm vb vs gb 0 gs 0 B S 1 W (by omega) k1 hsB k2
  have HH2 : Hid (∀ W, RS 2 lcs W ub hb 0 C → SS W us hs 0 S → Calls Tryd.prog 27 #[.string nm, .agg #[ub, us], .int .i64 1] W fun e w' => e = .returned (.string (phA nm C S 1)) ∧ Below W.heap.size W w') := fun W k1 k2 => sProofHash_any nm ub us hb 0 hs 0 C S 1 W (by omega) k1 hsC k2
  have HI1 : Hid (∀ W, Below w0.heap.size w0 W → RS 2 lcs W vb gb 0 B → SS W vs gs 0 S → Calls Tryd.prog 28 #[.string nm, .agg #[vb, vs], .int .i64 1] W fun e w' => e = .returned (.string (phA nm B S 1)) ∧ Below W.heap.size W w') := fun W hW k1 k2 => ProofHash_any nm vb vs gb 0 gs 0 B S 1 W (by omega) k1 hsB k2 (HT.out _ hW)
  have HO2 : Hid (∀ W, Below w0.heap.size w0 W → RS 2 lcs W ub hb 0 C → SS W us hs 0 S → Calls Tryd.prog 30 #[.string nm, .agg #[ub, us], .int .i64 1] W fun e w' => e = .returned (.bool true) ∧ Below W.heap.size W w') := fun W hW k1 k2 => by
    have h := ProofOk_any nm ub us hb 0 hs 0 C S 1 W (by omega) k1 hsC k2 (HT.out _ hW)
    rw [hq] at h
    exact h
  have HXF : Hid (phA nm B S 1 = phA nm C S 1 → sayB B C nm = false → ∃ a b, xtR nm B S C S 1 = (a, b, true) ∧ a ≠ b ∧ cutH a 1 = cutH b 1 ∧ a.size ≤ 12601 ∧ b.size ≤ 12601) := fun hh hs => xt_found (by omega) h3.1 h4.1 h5.2 hp hq hh hs
  have HXN : Hid (phA nm B S 1 ≠ phA nm C S 1 ∨ sayB B C nm = true → xtR nm B S C S 1 = (⟨#[]⟩, ⟨#[]⟩, false)) := fun h => xt_none h
  have hsay : sayB B C nm = (decide (LV.getV B nm = LV.getV C nm) && (LV.getB B nm == LV.getB C nm)) := rfl
  generalize xtR nm B S C S 1 = XT at *
  generalize sayB B C nm = SB at *
  generalize phA nm B S 1 = X at *
  generalize phA nm C S 1 = Y at *
  generalize LV.getV B nm = V1 at *
  generalize LV.getV C nm = V2 at *
  generalize LV.getB B nm = F1 at *
  generalize LV.getB C nm = F2 at *
  have q1 : PfM ((w1.alloc (.cells #[.slice none 0 0, .slice none 0 0] 36)).alloc (.cells #[.slice none 0 0, .slice none 0 0] 36)) w1.heap.size (.slice none 0 0) (.slice none 0 0) := (PfM.new w1 _ _).later ((Below.refl _ _).alloc (Nat.le_refl _) _)
  have q2 : PfM ((w1.alloc (.cells #[.slice none 0 0, .slice none 0 0] 36)).alloc (.cells #[.slice none 0 0, .slice none 0 0] 36)) (w1.heap.size + 1) (.slice none 0 0) (.slice none 0 0) := by
    have h := PfM.new (w1.alloc (.cells #[.slice none 0 0, .slice none 0 0] 36)) (.slice none 0 0) (.slice none 0 0)
    rw [World.size_alloc] at h
    exact h
  have q3 : PfM (((w1.alloc (.cells #[.slice none 0 0, .slice none 0 0] 36)).alloc (.cells #[.slice none 0 0, .slice none 0 0] 36)).setRow w1.heap.size #[vb, vs]) (w1.heap.size + 1) (.slice none 0 0) (.slice none 0 0) := q2.grownF (grown_setRowP _ w1.heap.size #[vb, vs]) (by simp)
  have hbx : Below w1.heap.size w1 ((((w1.alloc (.cells #[.slice none 0 0, .slice none 0 0] 36)).alloc (.cells #[.slice none 0 0, .slice none 0 0] 36)).setRow w1.heap.size #[vb, vs]).setRow (w1.heap.size + 1) #[ub, us]) := below_setRow (below_setRow (((Below.refl _ _).alloc (Nat.le_refl _) _).alloc (by simp) _) (Nat.le_refl _)) (by omega)
  have H1 : Hid (FoS w0 0 0 vb vs ub us gb gs hb hs B C S w1 → True) := fun _ => trivial
  have HM : Hid (Below w0.heap.size w0 w1 ∧ RS 2 lcs w1 vb gb 0 B ∧ SS w1 vs gs 0 S ∧ RS 2 lcs w1 ub hb 0 C ∧ SS w1 us hs 0 S) := ⟨h10, h6, h7, h8, h9⟩
  clear h6 h7 h8 h9 hz h10 q2 H1 hsB hsC hp hq h3 h4 h5
  go_wp2_with (first | (refine wp_loadPf rfl _ rfl w1.heap.size _ _ rfl (PfM.grownF hf1 (grown_setRowP _ (w1.heap.size + 1) _) (by simp)) ?_) | (refine wp_loadPf rfl _ rfl (w1.heap.size + 1) _ _ rfl hf2 ?_) | (refine wp_storePf rfl _ _ rfl w1.heap.size _ _ vb vs q1 rfl rfl o1 o2 ?_; intro hf1) | (refine wp_storePf rfl _ _ rfl (w1.heap.size + 1) _ _ ub us q3 rfl rfl o3 o4 ?_; intro hf2))
  obtain ⟨gp, hgp⟩ : ∃ gp, w1.heap.size = gp := ⟨_, rfl⟩
  have H2 : Hid (FoS w0 gp (gp + 1) vb vs ub us gb gs hb hs B C S ((((w1.alloc (.cells #[.slice none 0 0, .slice none 0 0] 36)).alloc (.cells #[.slice none 0 0, .slice none 0 0] 36)).setRow gp #[vb, vs]).setRow (gp + 1) #[ub, us])) := by
    rw [← hgp]
    exact ⟨HM.out.1.trans (hbx.mono HM.out.1.size), PfM.grownF hf1 (grown_setRowP _ _ _) (by simp), hf2, HM.out.2.1.later hbx, HM.out.2.2.1.below hbx HM.out.2.2.1.lt, HM.out.2.2.2.1.later hbx, HM.out.2.2.2.2.below hbx HM.out.2.2.2.2.lt⟩
  rw [hgp]
  clear q1 q3 hbx HM hf1 hf2
  generalize (((w1.alloc (.cells #[.slice none 0 0, .slice none 0 0] 36)).alloc (.cells #[.slice none 0 0, .slice none 0 0] 36)).setRow gp #[vb, vs]).setRow (gp + 1) #[ub, us] = w2 at *
  clear hgp
  refine (HXT.out _ H2.out.1 H2.out.2.2.2.1 H2.out.2.2.2.2.1 H2.out.2.2.2.2.2.1 H2.out.2.2.2.2.2.2).mono ?_
  rintro e w3 ⟨rfl, hb3⟩
  have H3 : Hid (FoS w0 gp (gp + 1) vb vs ub us gb gs hb hs B C S w3) := H2.out.later hb3
  clear H2 hb3 HXT
  obtain ⟨xa, xb, xo⟩ := XT
  unfold trip
  dsimp only
  have p3 := H3.out.2.1
  go_wp2_with (refine wp_loadPf rfl _ rfl gp _ _ rfl p3 ?_)
  refine (HS1.out _ H3.out.2.2.2.1).mono ?_
  rintro e w4 ⟨rfl, hb4⟩
  have H4 : Hid (FoS w0 gp (gp + 1) vb vs ub us gb gs hb hs B C S w4) := H3.out.later hb4
  clear H3 hb4 HS1 p3
  have p4 := H4.out.2.2.1
  go_wp2_with (refine wp_loadPf rfl _ rfl (gp + 1) _ _ rfl p4 ?_)
  refine (HS2.out _ H4.out.2.2.2.2.2.1).mono ?_
  rintro e w5 ⟨rfl, hb5⟩
  have H5 : Hid (FoS w0 gp (gp + 1) vb vs ub us gb gs hb hs B C S w5) := H4.out.later hb5
  clear H4 hb5 HS2 p4 o1 o2 o3 o4
  have HCEL : Hid (∀ W, Below w5.heap.size w5 W → W.cell? ⟨gp, 0, none⟩ = some vb ∧ W.cell? ⟨gp, 1, none⟩ = some vs ∧ W.cell? ⟨gp + 1, 0, none⟩ = some ub ∧ W.cell? ⟨gp + 1, 1, none⟩ = some us) := fun W hW => ⟨cell_up H5.out.2.1.c0 hW, cell_up H5.out.2.1.c1 hW, cell_up H5.out.2.2.1.c0 hW, cell_up H5.out.2.2.1.c1 hW⟩
  have HHa : Hid (∀ W, Below w5.heap.size w5 W → Calls Tryd.prog 27 #[.string nm, .agg #[vb, vs], .int .i64 1] W fun e w' => e = .returned (.string X) ∧ Below W.heap.size W w') := fun W hW => HH1.out W (H5.out.later hW).2.2.2.1 (H5.out.later hW).2.2.2.2.1
  have HHb : Hid (∀ W, Below w5.heap.size w5 W → Calls Tryd.prog 27 #[.string nm, .agg #[ub, us], .int .i64 1] W fun e w' => e = .returned (.string Y) ∧ Below W.heap.size W w') := fun W hW => HH2.out W (H5.out.later hW).2.2.2.2.2.1 (H5.out.later hW).2.2.2.2.2.2
  have HIa : Hid (∀ W, Below w5.heap.size w5 W → Calls Tryd.prog 28 #[.string nm, .agg #[vb, vs], .int .i64 1] W fun e w' => e = .returned (.string X) ∧ Below W.heap.size W w') := fun W hW => HI1.out W (H5.out.later hW).1 (H5.out.later hW).2.2.2.1 (H5.out.later hW).2.2.2.2.1
  have HOb : Hid (∀ W, Below w5.heap.size w5 W → Calls Tryd.prog 30 #[.string nm, .agg #[ub, us], .int .i64 1] W fun e w' => e = .returned (.bool true) ∧ Below W.heap.size W w') := fun W hW => HO2.out W (H5.out.later hW).1 (H5.out.later hW).2.2.2.2.2.1 (H5.out.later hW).2.2.2.2.2.2
  have HBW : Hid (∀ W, Below w5.heap.size w5 W → Below w0.heap.size w0 W) := fun W hW => H5.out.1.trans (hW.mono H5.out.1.size)
  clear H5 HH1 HH2 HI1 HO2 HC HT
  obtain ⟨b1, hb1⟩ : ∃ b1, (V1.toList == V2.toList) = b1 := ⟨_, rfl⟩
  obtain ⟨b2, hb2⟩ : ∃ b2, (F1 == F2) = b2 := ⟨_, rfl⟩
  have hsb : SB = (b1 && b2) := by
    rw [hsay, hb2, ← hb1]
    congr 1
    by_cases h : V1 = V2
    · subst h
      simp
    · rw [LV.bytes_ne h]
      simpa using h
  clear hsay
  have HXN2 : Hid ((X ≠ Y ∨ SB = true) → xo = false) := fun h => by
    have := HXN.out h
    simp only [Prod.mk.injEq] at this
    exact this.2.2
  have HXF2 : Hid (X = Y → SB = false → xo = true ∧ xa ≠ xb ∧ cutH xa 1 = cutH xb 1 ∧ xa.size ≤ 12601 ∧ xb.size ≤ 12601) := fun h1 h2 => by
    obtain ⟨a, b, he, h⟩ := HXF.out h1 h2
    simp only [Prod.mk.injEq] at he
    obtain ⟨rfl, rfl, rfl⟩ := he
    exact ⟨rfl, h⟩
  clear HXN HXF
  have hb50 : Below w5.heap.size w5 w5 := Below.refl _ _
  have qx : (X.toList == X.toList) = true := by simp
  by_cases hN : X ≠ Y ∨ SB = true
  · have hxo := HXN2.out hN
    subst hxo
    clear HXN2 HXF2 HOb
    by_cases hXY : X = Y
    · subst hXY
      have hs1 : SB = true := hN.resolve_left (fun h => h rfl)
      rw [hs1] at hsb
      cases b1 with
      | false => cases hsb
      | true =>
        cases b2 with
        | false => cases hsb
        | true =>
          clear hN hsb hs1
          go_wp2_with fail
          have HUP : Hid (∀ d os, Below w5.heap.size w5 (grow (redrawn w5 d) os)) := fun d os => hb50.trans ((below_regrown w5 d os).mono hb50.size)
          have kq0 := cell_regrown (w := w5) (HCEL.out _ hb50).1
          have kq1 := cell_regrown (w := w5) (HCEL.out _ hb50).2.1
          have kq2 := cell_regrown (w := w5) (HCEL.out _ hb50).2.2.1
          have kq3 := cell_regrown (w := w5) (HCEL.out _ hb50).2.2.2
          have cq0 := fun d os => Calls.regrown_of (w := w5) (d := d) (os := os) (HHa.out _ (HUP.out d os))
          have cq1 := fun d os => Calls.regrown_of (w := w5) (d := d) (os := os) (HHb.out _ (HUP.out d os))
          refine wp_region_quiet_below (by kernel_rfl) (by kernel_rfl) ?_
          repeat (go_big_quiet_step (first | with_reducible exact cq0 _ _ | with_reducible exact cq1 _ _))
          refine wpQuiet_nil ?_
          rintro _ ⟨⟨dq, osq⟩, rfl⟩
          have hb6 := hb50.trans ((below_regrown w5 dq osq).mono hb50.size)
          generalize grow (redrawn w5 dq) osq = w6 at *
          clear HUP kq0 kq1 kq2 kq3 cq0 cq1
          go_wp2_with fail
          have HUP : Hid (∀ d os, Below w5.heap.size w5 (grow (redrawn w6 d) os)) := fun d os => hb6.trans ((below_regrown w6 d os).mono hb6.size)
          have kq0 := cell_regrown (w := w6) (HCEL.out _ hb6).1
          have kq1 := cell_regrown (w := w6) (HCEL.out _ hb6).2.1
          have kq2 := cell_regrown (w := w6) (HCEL.out _ hb6).2.2.1
          have kq3 := cell_regrown (w := w6) (HCEL.out _ hb6).2.2.2
          have cq0 := fun d os => Calls.regrown_of (w := w6) (d := d) (os := os) (HHa.out _ (HUP.out d os))
          have cq1 := fun d os => Calls.regrown_of (w := w6) (d := d) (os := os) (HIa.out _ (HUP.out d os))
          refine wp_region_quiet_below (by kernel_rfl) (by kernel_rfl) ?_
          repeat (go_big_quiet_step (first | with_reducible exact cq0 _ _ | with_reducible exact cq1 _ _))
          refine wpQuiet_nil ?_
          rintro _ ⟨⟨dq, osq⟩, rfl⟩
          have hb7 := hb6.trans ((below_regrown w6 dq osq).mono hb6.size)
          generalize grow (redrawn w6 dq) osq = w7 at *
          clear HUP kq0 kq1 kq2 kq3 cq0 cq1
          go_wp2
          go_ret
          exact ⟨rfl, HBW.out _ hb7⟩
    · have qy : (X.toList == Y.toList) = false := LV.bytes_ne hXY
      clear hN hsb
      cases b1 with
      | false =>
        go_wp2_with fail
        have HUP : Hid (∀ d os, Below w5.heap.size w5 (grow (redrawn w5 d) os)) := fun d os => hb50.trans ((below_regrown w5 d os).mono hb50.size)
        have kq0 := cell_regrown (w := w5) (HCEL.out _ hb50).1
        have kq1 := cell_regrown (w := w5) (HCEL.out _ hb50).2.1
        have kq2 := cell_regrown (w := w5) (HCEL.out _ hb50).2.2.1
        have kq3 := cell_regrown (w := w5) (HCEL.out _ hb50).2.2.2
        have cq0 := fun d os => Calls.regrown_of (w := w5) (d := d) (os := os) (HHa.out _ (HUP.out d os))
        have cq1 := fun d os => Calls.regrown_of (w := w5) (d := d) (os := os) (HHb.out _ (HUP.out d os))
        refine wp_region_quiet_below (by kernel_rfl) (by kernel_rfl) ?_
        repeat (go_big_quiet_step (first | with_reducible exact cq0 _ _ | with_reducible exact cq1 _ _))
        refine wpQuiet_nil ?_
        rintro _ ⟨⟨dq, osq⟩, rfl⟩
        have hb6 := hb50.trans ((below_regrown w5 dq osq).mono hb50.size)
        generalize grow (redrawn w5 dq) osq = w6 at *
        clear HUP kq0 kq1 kq2 kq3 cq0 cq1
        go_wp2_with fail
        have HUP : Hid (∀ d os, Below w5.heap.size w5 (grow (redrawn w6 d) os)) := fun d os => hb6.trans ((below_regrown w6 d os).mono hb6.size)
        have kq0 := cell_regrown (w := w6) (HCEL.out _ hb6).1
        have kq1 := cell_regrown (w := w6) (HCEL.out _ hb6).2.1
        have kq2 := cell_regrown (w := w6) (HCEL.out _ hb6).2.2.1
        have kq3 := cell_regrown (w := w6) (HCEL.out _ hb6).2.2.2
        have cq0 := fun d os => Calls.regrown_of (w := w6) (d := d) (os := os) (HHa.out _ (HUP.out d os))
        have cq1 := fun d os => Calls.regrown_of (w := w6) (d := d) (os := os) (HIa.out _ (HUP.out d os))
        refine wp_region_quiet_below (by kernel_rfl) (by kernel_rfl) ?_
        repeat (go_big_quiet_step (first | with_reducible exact cq0 _ _ | with_reducible exact cq1 _ _))
        refine wpQuiet_nil ?_
        rintro _ ⟨⟨dq, osq⟩, rfl⟩
        have hb7 := hb6.trans ((below_regrown w6 dq osq).mono hb6.size)
        generalize grow (redrawn w6 dq) osq = w7 at *
        clear HUP kq0 kq1 kq2 kq3 cq0 cq1
        go_wp2
        go_ret
        exact ⟨rfl, HBW.out _ hb7⟩
      | true =>
        cases b2 with
        | false =>
          go_wp2_with fail
          have HUP : Hid (∀ d os, Below w5.heap.size w5 (grow (redrawn w5 d) os)) := fun d os => hb50.trans ((below_regrown w5 d os).mono hb50.size)
          have kq0 := cell_regrown (w := w5) (HCEL.out _ hb50).1
          have kq1 := cell_regrown (w := w5) (HCEL.out _ hb50).2.1
          have kq2 := cell_regrown (w := w5) (HCEL.out _ hb50).2.2.1
          have kq3 := cell_regrown (w := w5) (HCEL.out _ hb50).2.2.2
          have cq0 := fun d os => Calls.regrown_of (w := w5) (d := d) (os := os) (HHa.out _ (HUP.out d os))
          have cq1 := fun d os => Calls.regrown_of (w := w5) (d := d) (os := os) (HHb.out _ (HUP.out d os))
          refine wp_region_quiet_below (by kernel_rfl) (by kernel_rfl) ?_
          repeat (go_big_quiet_step (first | with_reducible exact cq0 _ _ | with_reducible exact cq1 _ _))
          refine wpQuiet_nil ?_
          rintro _ ⟨⟨dq, osq⟩, rfl⟩
          have hb6 := hb50.trans ((below_regrown w5 dq osq).mono hb50.size)
          generalize grow (redrawn w5 dq) osq = w6 at *
          clear HUP kq0 kq1 kq2 kq3 cq0 cq1
          go_wp2_with fail
          have HUP : Hid (∀ d os, Below w5.heap.size w5 (grow (redrawn w6 d) os)) := fun d os => hb6.trans ((below_regrown w6 d os).mono hb6.size)
          have kq0 := cell_regrown (w := w6) (HCEL.out _ hb6).1
          have kq1 := cell_regrown (w := w6) (HCEL.out _ hb6).2.1
          have kq2 := cell_regrown (w := w6) (HCEL.out _ hb6).2.2.1
          have kq3 := cell_regrown (w := w6) (HCEL.out _ hb6).2.2.2
          have cq0 := fun d os => Calls.regrown_of (w := w6) (d := d) (os := os) (HHa.out _ (HUP.out d os))
          have cq1 := fun d os => Calls.regrown_of (w := w6) (d := d) (os := os) (HIa.out _ (HUP.out d os))
          refine wp_region_quiet_below (by kernel_rfl) (by kernel_rfl) ?_
          repeat (go_big_quiet_step (first | with_reducible exact cq0 _ _ | with_reducible exact cq1 _ _))
          refine wpQuiet_nil ?_
          rintro _ ⟨⟨dq, osq⟩, rfl⟩
          have hb7 := hb6.trans ((below_regrown w6 dq osq).mono hb6.size)
          generalize grow (redrawn w6 dq) osq = w7 at *
          clear HUP kq0 kq1 kq2 kq3 cq0 cq1
          go_wp2
          go_ret
          exact ⟨rfl, HBW.out _ hb7⟩
        | true =>
          go_wp2_with fail
          have HUP : Hid (∀ d os, Below w5.heap.size w5 (grow (redrawn w5 d) os)) := fun d os => hb50.trans ((below_regrown w5 d os).mono hb50.size)
          have kq0 := cell_regrown (w := w5) (HCEL.out _ hb50).1
          have kq1 := cell_regrown (w := w5) (HCEL.out _ hb50).2.1
          have kq2 := cell_regrown (w := w5) (HCEL.out _ hb50).2.2.1
          have kq3 := cell_regrown (w := w5) (HCEL.out _ hb50).2.2.2
          have cq0 := fun d os => Calls.regrown_of (w := w5) (d := d) (os := os) (HHa.out _ (HUP.out d os))
          have cq1 := fun d os => Calls.regrown_of (w := w5) (d := d) (os := os) (HHb.out _ (HUP.out d os))
          refine wp_region_quiet_below (by kernel_rfl) (by kernel_rfl) ?_
          repeat (go_big_quiet_step (first | with_reducible exact cq0 _ _ | with_reducible exact cq1 _ _))
          refine wpQuiet_nil ?_
          rintro _ ⟨⟨dq, osq⟩, rfl⟩
          have hb6 := hb50.trans ((below_regrown w5 dq osq).mono hb50.size)
          generalize grow (redrawn w5 dq) osq = w6 at *
          clear HUP kq0 kq1 kq2 kq3 cq0 cq1
          go_wp2_with fail
          have HUP : Hid (∀ d os, Below w5.heap.size w5 (grow (redrawn w6 d) os)) := fun d os => hb6.trans ((below_regrown w6 d os).mono hb6.size)
          have kq0 := cell_regrown (w := w6) (HCEL.out _ hb6).1
          have kq1 := cell_regrown (w := w6) (HCEL.out _ hb6).2.1
          have kq2 := cell_regrown (w := w6) (HCEL.out _ hb6).2.2.1
          have kq3 := cell_regrown (w := w6) (HCEL.out _ hb6).2.2.2
          have cq0 := fun d os => Calls.regrown_of (w := w6) (d := d) (os := os) (HHa.out _ (HUP.out d os))
          have cq1 := fun d os => Calls.regrown_of (w := w6) (d := d) (os := os) (HIa.out _ (HUP.out d os))
          refine wp_region_quiet_below (by kernel_rfl) (by kernel_rfl) ?_
          repeat (go_big_quiet_step (first | with_reducible exact cq0 _ _ | with_reducible exact cq1 _ _))
          refine wpQuiet_nil ?_
          rintro _ ⟨⟨dq, osq⟩, rfl⟩
          have hb7 := hb6.trans ((below_regrown w6 dq osq).mono hb6.size)
          generalize grow (redrawn w6 dq) osq = w7 at *
          clear HUP kq0 kq1 kq2 kq3 cq0 cq1
          go_wp2
          go_ret
          exact ⟨rfl, HBW.out _ hb7⟩
  · have hXY : X = Y := Classical.byContradiction fun h => hN (.inl h)
    have hs1 : SB = false := by
      cases hS : SB with
      | false => rfl
      | true => exact absurd (.inr hS) hN
    obtain ⟨rfl, hne, hcd, hz1, hz2⟩ := HXF2.out hXY hs1
    have HD1 : Hid (∀ W, Below w5.heap.size w5 W → Calls Tryd.prog 29 #[.string xa, .int .i64 1] W fun e w' => e = .returned (.string (cutH xa 1)) ∧ Below W.heap.size W w') := fun W hW => sCutDigest_any xa 1 W (by omega)
    have HD2 : Hid (∀ W, Below w5.heap.size w5 W → Calls Tryd.prog 29 #[.string xb, .int .i64 1] W fun e w' => e = .returned (.string (cutH xa 1)) ∧ Below W.heap.size W w') := fun W hW => by
      rw [hcd]
      exact sCutDigest_any xb 1 W (by omega)
    have qa : (xa.toList == xb.toList) = false := LV.bytes_ne hne
    rw [hs1] at hsb
    subst hXY
    clear hN HXN2 HXF2 hne hcd hz1 hz2 hs1
    generalize cutH xa 1 = DD at *
    have qd : (DD.toList == DD.toList) = true := by simp
    cases b1 with
    | false =>
      clear hsb
      go_wp2_with fail
      have HUP : Hid (∀ d os, Below w5.heap.size w5 (grow (redrawn w5 d) os)) := fun d os => hb50.trans ((below_regrown w5 d os).mono hb50.size)
      have kq0 := cell_regrown (w := w5) (HCEL.out _ hb50).1
      have kq1 := cell_regrown (w := w5) (HCEL.out _ hb50).2.1
      have kq2 := cell_regrown (w := w5) (HCEL.out _ hb50).2.2.1
      have kq3 := cell_regrown (w := w5) (HCEL.out _ hb50).2.2.2
      have cq0 := fun d os => Calls.regrown_of (w := w5) (d := d) (os := os) (HHa.out _ (HUP.out d os))
      have cq1 := fun d os => Calls.regrown_of (w := w5) (d := d) (os := os) (HHb.out _ (HUP.out d os))
      refine wp_region_quiet_below (by kernel_rfl) (by kernel_rfl) ?_
      repeat (go_big_quiet_step (first | with_reducible exact cq0 _ _ | with_reducible exact cq1 _ _))
      refine wpQuiet_nil ?_
      rintro _ ⟨⟨dq, osq⟩, rfl⟩
      have hb6 := hb50.trans ((below_regrown w5 dq osq).mono hb50.size)
      generalize grow (redrawn w5 dq) osq = w6 at *
      clear HUP kq0 kq1 kq2 kq3 cq0 cq1
      go_wp2_with fail
      refine (HD1.out _ hb6).mono ?_
      rintro e w7 ⟨rfl, hc7⟩
      have hb7 := hb6.trans (hc7.mono hb6.size)
      go_wp2_with fail
      refine (HD2.out _ hb7).mono ?_
      rintro e w8 ⟨rfl, hc8⟩
      have hb8 := hb7.trans (hc8.mono hb7.size)
      have d2 := (HCEL.out _ hb8).2.2.1
      have d3 := (HCEL.out _ hb8).2.2.2
      go_wp2_with fail
      refine (HOb.out _ hb8).mono ?_
      rintro e w9 ⟨rfl, hc9⟩
      have hb9 := hb8.trans (hc9.mono hb8.size)
      go_wp2
      go_ret
      exact ⟨rfl, HBW.out _ hb9⟩
    | true =>
      cases b2 with
      | true => cases hsb
      | false =>
        clear hsb
        go_wp2_with fail
        have HUP : Hid (∀ d os, Below w5.heap.size w5 (grow (redrawn w5 d) os)) := fun d os => hb50.trans ((below_regrown w5 d os).mono hb50.size)
        have kq0 := cell_regrown (w := w5) (HCEL.out _ hb50).1
        have kq1 := cell_regrown (w := w5) (HCEL.out _ hb50).2.1
        have kq2 := cell_regrown (w := w5) (HCEL.out _ hb50).2.2.1
        have kq3 := cell_regrown (w := w5) (HCEL.out _ hb50).2.2.2
        have cq0 := fun d os => Calls.regrown_of (w := w5) (d := d) (os := os) (HHa.out _ (HUP.out d os))
        have cq1 := fun d os => Calls.regrown_of (w := w5) (d := d) (os := os) (HHb.out _ (HUP.out d os))
        refine wp_region_quiet_below (by kernel_rfl) (by kernel_rfl) ?_
        repeat (go_big_quiet_step (first | with_reducible exact cq0 _ _ | with_reducible exact cq1 _ _))
        refine wpQuiet_nil ?_
        rintro _ ⟨⟨dq, osq⟩, rfl⟩
        have hb6 := hb50.trans ((below_regrown w5 dq osq).mono hb50.size)
        generalize grow (redrawn w5 dq) osq = w6 at *
        clear HUP kq0 kq1 kq2 kq3 cq0 cq1
        go_wp2_with fail
        refine (HD1.out _ hb6).mono ?_
        rintro e w7 ⟨rfl, hc7⟩
        have hb7 := hb6.trans (hc7.mono hb6.size)
        go_wp2_with fail
        refine (HD2.out _ hb7).mono ?_
        rintro e w8 ⟨rfl, hc8⟩
        have hb8 := hb7.trans (hc8.mono hb7.size)
        have d2 := (HCEL.out _ hb8).2.2.1
        have d3 := (HCEL.out _ hb8).2.2.2
        go_wp2_with fail
        refine (HOb.out _ hb8).mono ?_
        rintro e w9 ⟨rfl, hc9⟩
        have hb9 := hb8.trans (hc9.mono hb8.size)
        go_wp2
        go_ret
        exact ⟨rfl, HBW.out _ hb9⟩

end Go.Proofs.YtojadcjoniejaaaDoor
