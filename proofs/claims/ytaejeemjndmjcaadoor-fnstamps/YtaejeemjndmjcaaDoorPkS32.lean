/-
  Texts laid together: Sgn.
-/
import Derived.Test.YtaejeemjndmjcaaDoorPkS31
import Derived.Deep.RegionLaw
import Derived.Deep.CutRange
import Derived.Deep.RegionHeld
/-
  What the program's SignText answers where it signs.
-/
namespace Go.Proofs.YtaejeemjndmjcaaDoor
open Go.RowKit Go.BigFrame
set_option linter.unusedVariables false
set_option linter.unusedSimpArgs false

theorem TA.range {w : World} {g t : Nat} {l : List ByteArray} (h : TA w g t l) : w.rangeAt g 0 (svs l) := by
  have h1 := World.rangeAt_of_block (w := w) h 0 l.length
  have e : ((svs l).toArray.extract 0 (0 + l.length)).toList = svs l := by
    rw [Array.toList_extract, Nat.zero_add]
    show List.take (l.length - 0) (List.drop 0 (svs l)) = svs l
    rw [List.drop_zero]
    exact List.take_of_length_le (by simp [svs])
  rw [e] at h1
  exact h1

set_option maxRecDepth 100000 in
set_option maxHeartbeats 4000000 in
theorem SignText_yes (s t : ByteArray) (v : Value) (ga oa a : Nat) (l : List ByteArray) (w : World) (hv : SS w v ga oa l) (hl : l.length = 16) (ha : a ≤ 15) (hs : s.size ≤ 100) (ht : t.size ≤ 200) (hsz : ∀ j, (gB l j).size ≤ 1048576) (hk : gB l a = pubB s a) (hT : Tb w) :
    Calls Tryd.prog 51 #[.string s, v, .int .i64 a, .string t] w fun e w' => ∃ v, e = .returned (.tuple #[v, .bool true]) ∧ SigIn w' w.heap.size v a (opN s a (bitsB t) 8) (shN s a (bitsB t) 8) (sdN l a 4) ∧ Below w.heap.size w w' := by
  have hB0 : Below w.heap.size w (w.alloc (.cells zSig 28)) := (Below.refl _ _).alloc (Nat.le_refl _) _
  have hS0 : SgM (w.alloc (.cells zSig 28)) w.heap.size 0 (.slice none 0 0) (.slice none 0 0) (.slice none 0 0) := SgM.new w 0 _ _ _
  have hsz0 : (w.alloc (.cells zSig 28)).heap.size = w.heap.size + 1 := by simp
  have hc := poolFrom_yes v ga oa l (w.alloc (.cells zSig 28)) (hv.below hB0 hv.lt) hl
  have HL : Hid (l.length = 16) := hl
  have HT : Hid (Tb w) := hT
  have HSZ : Hid (∀ j, (gB l j).size ≤ 1048576) := hsz
  have HK : Hid (gB l a = pubB s a) := hk
  have H0 : Hid (Below w.heap.size w (w.alloc (.cells zSig 28)) ∧ SgM (w.alloc (.cells zSig 28)) w.heap.size 0 (.slice none 0 0) (.slice none 0 0) (.slice none 0 0) ∧ (w.alloc (.cells zSig 28)).heap.size = w.heap.size + 1) := ⟨hB0, hS0, hsz0⟩
  obtain ⟨x, cap, rfl, _, hA, hcc⟩ := hv
  rw [hl] at hc ⊢
  have hd : decide ((0 : Int) ≤ (a : Int) ∧ (a : Int) ≤ 15) = true := by simp; omega
  clear hA hcc hl hT hsz hk hB0 hS0 hsz0
  go_enter Tryd.func51, Tryd.ntmps51
  go_wp2_with fail
  refine hc.mono ?_
  rintro e w1 ⟨rfl, hb1⟩
  have b1 := H0.out.1.trans (hb1.mono H0.out.1.size)
  have hS1 := H0.out.2.1.later hb1
  have hsz1 : w.heap.size + 1 ≤ w1.heap.size := by rw [← H0.out.2.2]; exact hb1.size
  have H1 : Hid (Below w.heap.size w (w1.alloc (.cells (svs l).toArray 106)) ∧ SgM (w1.alloc (.cells (svs l).toArray 106)) w.heap.size 0 (.slice none 0 0) (.slice none 0 0) (.slice none 0 0) ∧ TA (w1.alloc (.cells (svs l).toArray 106)) w1.heap.size 106 l ∧ (w1.alloc (.cells (svs l).toArray 106)).heap.size = w1.heap.size + 1) :=
    ⟨b1.alloc b1.size _, hS1.later ((Below.refl _ _).alloc (Nat.le_refl _) _), TA.new w1 l _, by simp⟩
  clear hc hb1 b1 hS1 H0
  go_wp2_with (first | (refine wp_allocT rfl 106 16 rfl zeroP ?_) | (refine wp_storeNewT rfl 106 16 _ _ rfl w1 _ l rfl (zT_size 16) HL.out rfl rfl sizePT ?_) | fail)
  refine (inPool_any (a : Int) _).mono ?_
  rintro e w2 ⟨rfl, rfl⟩
  rw [hd]
  generalize w1.alloc (.cells (svs l).toArray 106) = w2 at *
  generalize w1.heap.size = g at *
  go_upto_region 4 with fail
  have HC : Hid (∀ W, Below w2.heap.size w2 W → Calls Tryd.prog 84 #[.string s, .int .i64 (a : Int)] W fun e w' => e = .returned (.string (pubB s a)) ∧ Below w2.heap.size w2 w') := fun W hW =>
    (PublicOf_yes s a W hs ha (HT.out.later (H1.out.1.trans (hW.mono H1.out.1.size)))).mono fun e w' ⟨he, hb⟩ => ⟨he, hW.trans (hb.mono hW.size)⟩
  have HCW : Hid (∀ W, Below w2.heap.size w2 W → Calls Tryd.prog 83 #[.agg (svs l).toArray, .int .i64 (a : Int), .string (pubB s a)] W fun e w' => e = .returned (.agg (svs l).toArray) ∧ Below w2.heap.size w2 w') := fun W hW => by
    have h1 := with_any l a (pubB s a) W HL.out (by omega)
    have e : l.set a (pubB s a) = l := by
      have := set_same l a (pubB s a) (by rw [HL.out]; omega)
      rw [decide_eq_true HK.out] at this
      exact (of_decide_eq_true this).symm
    rw [e] at h1
    exact h1.mono fun e w' ⟨he, hb⟩ => ⟨he, hW.trans (hb.mono hW.size)⟩
  have heq : ∀ W, (Op.equalIn 10000 106 (.agg (svs l).toArray) (.agg (svs l).toArray)).run Tryd.prog W = .ok true W := fun W => by
    have := eqT l l HL.out HL.out W
    simpa using this
  have HP : Hid (∀ W, Below w2.heap.size w2 W → W.rangeAt g 0 (svs l)) := fun W hW => (H1.out.2.2.1.later hW).range
  have hu := Tryd.underlying106
  have hi : (Tryd.prog.info? 106).map (·.size) = some (svs l).length := by
    have e : (svs l).length = 16 := by simp [svs, HL.out]
    rw [e]
    exact sizePT
  go_cut [41] from 34 to 41 (fun c wx => c = .bool false ∧ Below w2.heap.size w2 wx)
  case first =>
    generalize pubB s a = K at *
    refine wp_region_held_drew (S := fun W => W.rangeAt g 0 (svs l)) (by kernel_rfl) (HP.out _ (Below.refl _ _).drew) (fun hH => ?_)
    refine wpAnyH_take (i := 0) (v := .agg (svs l).toArray) rfl (by kernel_rfl) (by kernel_rfl) (by kernel_rfl) (fun _ _ _ h => h) (yieldsIf_load_mid (by rfl) _ _ rfl g 0 rfl (svs l) _ (fun w h => h) hu rfl hi) hH ?_
    simp only [Act.put, List.setIfInBounds_toArray, List.set_cons_zero, List.set_cons_succ]
    refine wpAnyH_take (i := 1) (v := .agg (svs l).toArray) rfl (by kernel_rfl) (by kernel_rfl) (by kernel_rfl) (fun _ _ _ h => h) (yieldsIf_load_mid (by rfl) _ _ rfl g 0 rfl (svs l) _ (fun w h => h) hu rfl hi) hH ?_
    simp only [Act.put, List.setIfInBounds_toArray, List.set_cons_zero, List.set_cons_succ]
    refine wpAnyH_take (i := 2) (v := .int .i64 (a : Int)) rfl (by kernel_rfl) (by kernel_rfl) (by kernel_rfl) (fun _ _ _ h => h) (Or.inl ⟨by rfl, fun w hw => by go_simp⟩) hH ?_
    simp only [Act.put, List.setIfInBounds_toArray, List.set_cons_zero, List.set_cons_succ]
    refine wpAnyH_take (i := 3) (v := .string s) rfl (by kernel_rfl) (by kernel_rfl) (by kernel_rfl) (fun _ _ _ h => h) (Or.inl ⟨by rfl, fun w hw => by go_simp⟩) hH ?_
    simp only [Act.put, List.setIfInBounds_toArray, List.set_cons_zero, List.set_cons_succ]
    refine wpAnyH_take (i := 4) (v := .int .i64 (a : Int)) rfl (by kernel_rfl) (by kernel_rfl) (by kernel_rfl) (fun _ _ _ h => h) (Or.inl ⟨by rfl, fun w hw => by go_simp⟩) hH ?_
    simp only [Act.put, List.setIfInBounds_toArray, List.set_cons_zero, List.set_cons_succ]
    refine wpAnyH_ready (rs := [5]) (by kernel_rfl) (by simp) ?_
    refine AllReadyH.cons rfl (fun K' hK' => ?_) AllReadyH.nil
    go_simp
    go_at_call 84
    refine (HC.out _ (Below.refl _ _).drew).mono ?_
    rintro e w3 ⟨rfl, hb3⟩
    go_wp2_with fail
    refine hK'.out _ _ (HP.out _ hb3) (fun hH => ?_)
    clear hK' K'
    try simp only [Act.put, List.setIfInBounds_toArray, List.set_cons_zero, List.set_cons_succ]
    refine wpAnyH_ready (rs := [6]) (by kernel_rfl) (by simp) ?_
    refine AllReadyH.cons rfl (fun K' hK' => ?_) AllReadyH.nil
    go_simp
    go_at_call 83
    refine (HCW.out _ hb3).mono ?_
    rintro e w4 ⟨rfl, hb4⟩
    go_wp2_with fail
    refine hK'.out _ _ (HP.out _ hb4) (fun hH => ?_)
    clear hK' K'
    try simp only [Act.put, List.setIfInBounds_toArray, List.set_cons_zero, List.set_cons_succ]
    refine wpAnyH_ready (rs := [7]) (by kernel_rfl) (by simp) ?_
    refine AllReadyH.cons rfl (fun K' hK' => ?_) AllReadyH.nil
    go_simp
    refine hK'.out _ _ (HP.out _ hb4) (fun hH => ?_)
    clear hK' K'
    try simp only [Act.put, List.setIfInBounds_toArray, List.set_cons_zero, List.set_cons_succ]
    refine wpAnyH_done (by kernel_rfl) ?_ _
    go_wp2_with fail
    go_meet
    exact ⟨rfl, hb4⟩
  case rest =>
    obtain ⟨rfl, hb4⟩ := hcut
    have b4 := H1.out.1.trans (hb4.mono H1.out.1.size)
    have hS4 := H1.out.2.1.later hb4
    have hta4 := H1.out.2.2.1.later hb4
    have hbb := bitsB_lt t
    obtain ⟨b, hbe⟩ : ∃ b, bitsB t = b := ⟨_, rfl⟩
    have HBE : Hid (bitsB t = b) := hbe
    have hcs := SignBitsOf_any t wc (HT.out.later b4)
    rw [hbe] at hbb hcs
    have hcb : IntKind.u8.wrap (b : Int) = (b : Int) := by
      have : IntKind.u8.wrap (b : Int) = (b : Int) % 256 := rfl
      omega
    clear HC HCW heq HP H1 hb4 hbe HK
    go_wp2_with fail
    refine hcs.mono ?_
    rintro e w5 ⟨rfl, hb5⟩
    have b5 := b4.trans (hb5.mono b4.size)
    have hS5 := hS4.later hb5
    have hta5 := hta4.later hb5
    clear hcs b4 hS4 hta4 hb5
    have hss5 := hta5.ss 16 16 HL.out (by omega)
    go_wp2_with fail
    refine (sidesInRow_16 _ _ 0 l a _ hss5 HL.out ha HSZ.out (HT.out.later b5)).mono ?_
    rintro e w6 ⟨v3, rfl, hos6⟩
    have hos := OS.up b5 b5.size hos6
    have hS6 := hS5.later hos6.2.1
    have hdl := sdN_len l a 4
    have hlt6 := hS6.lt
    clear hta5 hS5 b5 hos6 hss5
    obtain ⟨d, hde⟩ : ∃ d, sdN l a 4 = d := ⟨_, rfl⟩
    have HDE : Hid (sdN l a 4 = d) := hde
    rw [hde] at hos hdl
    clear hde
    rcases hos.shape with ⟨rfl, hz⟩ | ⟨g3, cap3, rfl, hg3, hlt3⟩
    · rw [hz] at hdl
      simp at hdl
    rw [hdl] at hos ⊢
    have HST : Hid (SnR s a b d w w6.heap.size (.int .i64 0) (w6.alloc (.cells #[.int .i64 (a : Int), .slice none 0 0, .slice none 0 0, .slice (some ⟨g3, 0, none⟩) 4 cap3] 28))) := by
      have ho2 := hos.alloc (.cells #[.int .i64 (a : Int), .slice none 0 0, .slice none 0 0, .slice (some ⟨g3, 0, none⟩) 4 cap3] 28)
      have hn2 := OS.nil3 ho2.2.1 ho2.2.2
      exact ⟨0, _, _, _, by omega, rfl, ⟨⟨hn2, hn2, by simp [Value.ownBlock]⟩, ⟨hn2, ho2, by simp [Value.ownBlock]⟩, ⟨hn2, ho2, by simp [Value.ownBlock]⟩⟩, SgM.new _ _ _ _ _, hS6.later ((Below.refl _ _).alloc (Nat.le_refl _) _)⟩
    have HDL : Hid (d.length = 4) := hdl
    clear hos hS6 hdl
    have hpB : w.heap.size ≤ w6.heap.size := by omega
    have hpne : w.heap.size ≠ w6.heap.size := by omega
    go_wp2
    generalize w6.heap.size = p at *
    go_loopw [51] (fun i wr => SnR s a b d w p i wr) (fun i _ => 8 - (intOf i).toNat)
    case atStart => exact HST.out
    case round =>
      obtain ⟨m, v1, v2, v3, hm, rfl, htr, hsg, hs0⟩ := hrel
      clear HST
      by_cases hlt : m < 8
      · have i1 : (m : Int) < 8 := by omega
        have hbit := bitN_lt b m
        have hbw := htr.below
        have HN : Hid (∀ v1 v2 W, TrR w.heap.size w W v1 v2 v3 (opN s a b m ++ [secB s a m (bitN b m)]) (shN s a b m ++ [lockB (secB s a m (1 - bitN b m))]) d → SgM W p a v1 v2 v3 → SgM W w.heap.size 0 (.slice none 0 0) (.slice none 0 0) (.slice none 0 0) → SnR s a b d w p (.int .i64 ((m : Int) + 1)) W) :=
          fun v1 v2 W h1 h2 h3 => ⟨m + 1, v1, v2, v3, by omega, by simp, h1, h2, h3⟩
        have HC1 : Hid (∀ W, Below w.heap.size w W → Calls Tryd.prog 88 #[.string s, .int .i64 (a : Int), .int .i64 (m : Int), .int .i64 (bitN b m : Int)] W fun e w' => e = .returned (.string (secB s a m (bitN b m))) ∧ Below W.heap.size W w') := fun W hW => SecretOf_at s a m (bitN b m) _ _ _ W rfl rfl rfl hs ha (by omega) (by omega) (HT.out.later hW)
        have HC2 : Hid (∀ W, Below w.heap.size w W → Calls Tryd.prog 88 #[.string s, .int .i64 (a : Int), .int .i64 (m : Int), .int .i64 (1 - (bitN b m : Int))] W fun e w' => e = .returned (.string (secB s a m (1 - bitN b m))) ∧ Below W.heap.size W w') := fun W hW => SecretOf_at s a m (1 - bitN b m) _ _ _ W rfl rfl (by omega) hs ha (by omega) (by omega) (HT.out.later hW)
        have HC3 : Hid (∀ W, Below w.heap.size w W → Calls Tryd.prog 89 #[.string (secB s a m (1 - bitN b m))] W fun e w' => e = .returned (.string (lockB (secB s a m (1 - bitN b m)))) ∧ Below W.heap.size W w') := fun W hW => LockOf_any _ W (HT.out.later hW)
        have hol := opN_len s a b m
        have hsl := shN_len s a b m
        go_wp2_with fail
        refine (val_any b m _ _ hbb rfl (by omega)).mono ?_
        rintro e w7 ⟨rfl, rfl⟩
        generalize secB s a m (bitN b m) = K1 at *
        generalize lockB (secB s a m (1 - bitN b m)) = K3 at *
        generalize secB s a m (1 - bitN b m) = K2 at *
        generalize opN s a b m = O at *
        generalize shN s a b m = S at *
        generalize bitN b m = c at *
        have hwc : IntKind.i64.wrap (1 - (c : Int)) = 1 - (c : Int) := IntWalk.i64_in _ (by omega)
        go_wp2
        have c1 := hsg.c1
        have c2 := hsg.c2
        have HA1 : Hid (∀ W, Below w7.heap.size w7 W → TrR w.heap.size w (W.alloc (.cells #[.string K1] 9)) v1 v2 v3 O S d ∧ SgM (W.alloc (.cells #[.string K1] 9)) p a v1 v2 v3 ∧ SgM (W.alloc (.cells #[.string K1] 9)) w.heap.size 0 (.slice none 0 0) (.slice none 0 0) (.slice none 0 0) ∧ W.cell? ⟨p, 1, none⟩ = some v1) := fun W hW => by
          have hA : Below W.heap.size W (W.alloc (.cells #[.string K1] 9)) := (Below.refl _ _).alloc (Nat.le_refl _) _
          exact ⟨(htr.later hW).later hA, (hsg.later hW).later hA, (hs0.later hW).later hA, (hsg.later hW).c1⟩
        clear htr hsg hs0 c2
        go_region_law ((first
          | (refine step_tr rfl _ _ rfl w.heap.size w v1 v2 v3 O S d K1 (by rfl) (HA1.out _ hb8).1 _ (by rfl) (one_text _ _ _) (by omega) (m + 1) (by omega) ?_; intro g8 cap8 w9 htr9 hgr9; have hsg9 := (HA1.out _ hb8).2.1.keptO (HA1.out _ hb8).1.1.1 hgr9; have hs09 := (HA1.out _ hb8).2.2.1.keptO (HA1.out _ hb8).1.1.1 hgr9; have e1 := hsg9.c1; have f1 := hsg9.fr 1)
          | (go_simp; go_at_call 88; refine (HC1.out _ hbw.drew).mono ?_; rintro e w8 ⟨rfl, hb8x⟩; have hb8 : Below w7.heap.size w7 w8 := (Below.refl _ _).drew.trans hb8x; have d1 := (HA1.out _ hb8).2.2.2; have d2 := (HA1.out _ hb8).2.1.c1)))
        all_goals
          have htr10 := htr9.set hsg9 hpB 1 (.slice (some ⟨g8, 0, none⟩) (m + 1) cap8)
          have hsg10 := hsg9.set1 (.slice (some ⟨g8, 0, none⟩) (m + 1) cap8)
          have hs010 := hs09.keep (heap_setCell_other w9 ⟨p, 1, none⟩ w.heap.size (.slice (some ⟨g8, 0, none⟩) (m + 1) cap8) hpne)
          clear htr9 hsg9 hs09 hgr9 e1 f1 d1 d2 c1 hb8 hb8x HA1 HC1
          go_wp2
          generalize w9.setCell ⟨p, 1, none⟩ (.slice (some ⟨g8, 0, none⟩) (m + 1) cap8) = w10 at *
          have hbw10 := htr10.below
          have c2 := hsg10.c2
          have HA2 : Hid (∀ W, Below w10.heap.size w10 W → Below w.heap.size w W ∧ TrR w.heap.size w (W.alloc (.cells #[.string K3] 9)) v2 v3 (.slice (some ⟨g8, 0, none⟩) (m + 1) cap8) S d (O ++ [K1]) ∧ SgM (W.alloc (.cells #[.string K3] 9)) p a (.slice (some ⟨g8, 0, none⟩) (m + 1) cap8) v2 v3 ∧ SgM (W.alloc (.cells #[.string K3] 9)) w.heap.size 0 (.slice none 0 0) (.slice none 0 0) (.slice none 0 0) ∧ W.cell? ⟨p, 2, none⟩ = some v2) := fun W hW => by
            have hA : Below W.heap.size W (W.alloc (.cells #[.string K3] 9)) := (Below.refl _ _).alloc (Nat.le_refl _) _
            exact ⟨hbw10.trans (hW.mono htr10.1.1.2.2), ((htr10.later hW).later hA).rot, (hsg10.later hW).later hA, (hs010.later hW).later hA, (hsg10.later hW).c2⟩
          clear htr10 hsg10 hs010
          go_region_law ((first
            | (refine step_tr rfl _ _ rfl w.heap.size w v2 v3 _ S d (O ++ [K1]) K3 (by rfl) (HA2.out _ hb12).2.1 _ (by rfl) (one_text _ _ _) (by omega) (m + 1) (by omega) ?_; intro g13 cap13 w13 htr13 hgr13; have hsg13 := (HA2.out _ hb12).2.2.1.keptO (HA2.out _ hb12).2.1.1.1 hgr13; have hs013 := (HA2.out _ hb12).2.2.2.1.keptO (HA2.out _ hb12).2.1.1.1 hgr13; have e1 := hsg13.c2; have f1 := hsg13.fr 2)
            | (go_simp; go_at_call 88; refine (HC2.out _ hbw10.drew).mono ?_; rintro e w11 ⟨rfl, hb11x⟩; have hb11 : Below w10.heap.size w10 w11 := (Below.refl _ _).drew.trans hb11x; have d1 := (HA2.out _ hb11).2.2.2.2)
            | (go_simp; go_at_call 89; refine (HC3.out _ (HA2.out _ hb11).1).mono ?_; rintro e w12 ⟨rfl, hb12x⟩; have hb12 : Below w10.heap.size w10 w12 := hb11.trans (hb12x.mono hb11.size); have d2 := (HA2.out _ hb12).2.2.2.2; have d3 := (HA2.out _ hb12).2.2.1.c2)))
          all_goals
            have HF : Hid _ := HN.out _ _ _ ((htr13.set hsg13 hpB 2 (.slice (some ⟨g13, 0, none⟩) (m + 1) cap13)).rot.rot) (hsg13.set2 (.slice (some ⟨g13, 0, none⟩) (m + 1) cap13)) (hs013.keep (heap_setCell_other w13 ⟨p, 2, none⟩ w.heap.size (.slice (some ⟨g13, 0, none⟩) (m + 1) cap13) hpne))
            clear htr13 hsg13 hs013 hgr13 e1 f1 d1 d2 d3 c2 hb11 hb11x hb12 hb12x HA2
            go_wp2
            go_roundw
            case rel => exact HF.out
            case measure => simp [intOf]; omega
      · have hme : m = 8 := by omega
        subst hme
        have l1 := opN_len s a b 8
        have l2 := shN_len s a b 8
        have hfs := htr.sig a (by omega) (by omega) (by rw [HDL.out]; omega)
        have HFS : Hid (SigIn (wr.setRow w.heap.size #[.int .i64 (a : Int), v1, v2, v3]) w.heap.size (.agg #[.int .i64 (a : Int), v1, v2, v3]) a (opN s a b 8) (shN s a b 8) d) := ((htr.setR hs0 (Nat.le_refl _) _).sig a (by omega) (by omega) (by rw [HDL.out]; omega)).1
        have HBW : Hid (Below w.heap.size w wr) := htr.below
        obtain ⟨_, o1, o2, o3⟩ := hfs
        clear htr l1 l2
        go_wp2_with (first | (refine wp_loadSig rfl _ rfl p a v1 v2 v3 rfl hsg ?_) | (refine wp_storeSig rfl _ _ rfl w.heap.size 0 a _ _ _ v1 v2 v3 hs0 rfl rfl o1 o2 o3 ?_; intro hfin))
        refine ret_sig2 8 9 w.heap.size a v1 v2 v3 _ rfl rfl rfl rfl hfin ?_
        exact ⟨_, rfl, by rw [HBE.out, HDE.out]; exact HFS.out, below_setRow HBW.out (Nat.le_refl _)⟩

end Go.Proofs.YtaejeemjndmjcaaDoor
