/-
  The law FnBlocks, walked.
-/
import Derived.Test.YtjfdgidhgijheaaDoorBd
import Derived.Test.YtjfdgidhgijheaaDoorCut
import Derived.Deep.RegionHeld3
namespace Go.Proofs.YtjfdgidhgijheaaDoor
open Go.RowKit Go.BigFrame
set_option linter.unusedVariables false

theorem round_congr (s s' : Nat → UInt32) (k w : UInt32) (h : ∀ j, j < 8 → s j = s' j) (j : Nat) (hj : j < 8) : H.round s k w j = H.round s' k w j := by
  have e1 : H.one s k w = H.one s' k w := by unfold H.one; rw [h 7 (by omega), h 4 (by omega), h 5 (by omega), h 6 (by omega)]
  have e2 : H.two s = H.two s' := by unfold H.two; rw [h 0 (by omega), h 1 (by omega), h 2 (by omega)]
  have h8 : j = 0 ∨ j = 1 ∨ j = 2 ∨ j = 3 ∨ j = 4 ∨ j = 5 ∨ j = 6 ∨ j = 7 := by omega
  rcases h8 with rfl | rfl | rfl | rfl | rfl | rfl | rfl | rfl
  · simp only [H.round, e1, e2]
  · exact h 0 (by omega)
  · exact h 1 (by omega)
  · exact h 2 (by omega)
  · simp only [H.round, e1, h 3 (by omega)]
  · exact h 4 (by omega)
  · exact h 5 (by omega)
  · exact h 6 (by omega)
theorem rounds_congr (s s' k w : Nat → UInt32) (h : ∀ j, j < 8 → s j = s' j) (n : Nat) : ∀ j, j < 8 → H.rounds s k w n j = H.rounds s' k w n j := by
  induction n with
  | zero => exact h
  | succ n ih => exact fun j hj => round_congr _ _ _ _ ih j hj
theorem block_congr (s s' k : Nat → UInt32) (b : Nat → Nat) (h : ∀ j, j < 8 → s j = s' j) (j : Nat) (hj : j < 8) : H.block s k b j = H.block s' k b j := by
  unfold H.block
  rw [h j hj, rounds_congr s s' k _ h 64 j hj]
theorem stI_congr (s s' : Nat → UInt32) (h : ∀ j, j < 8 → s j = s' j) : stI s 8 = stI s' 8 := by
  unfold stI
  apply List.map_congr_left
  intro j hj
  rw [h j (by simpa using hj)]
theorem stI_at (s : Nat → UInt32) (j : Nat) (hj : j < (stI s 8).length) : (stI s 8)[j] = ((s j).toNat : Int) := by simp [stI]
theorem ofI_stI (s : Nat → UInt32) (j : Nat) (hj : j < 8) : ofI (stI s 8) j = s j := by
  unfold ofI
  have hl := stI_len s 8
  have e : (stI s 8).getD j 0 = ((s j).toNat : Int) := by
    simp only [List.getD, List.getElem?_eq_getElem (show j < (stI s 8).length by omega), Option.getD_some]
    exact stI_at s j (by omega)
  rw [e, Int.toNat_natCast]
  exact UInt32.toNat_inj.1 (H.toNat_of _ (H.u32_lt _))
/-- ShaBlock of a state is the state behind the block -/
theorem ans_state (s : Nat → UInt32) (b : ByteArray) (hb : b.size = 64) : AnsR (stI s 8) b (stI (H.block s keyF (bAt b)) 8) := by
  have hf : fitB (stI s 8) b := ⟨stI_len s 8, hb, fun j hj => by rw [stI_at]; have := H.u32_lt (s j); exact ⟨by omega, by omega⟩⟩
  refine ⟨fun _ => ?_, fun h => absurd hf h⟩
  unfold outI
  exact stI_congr _ _ (fun j hj => (block_congr _ _ _ _ (fun i hi => ofI_stI s i hi) j hj).symm)

theorem padB_head (t : ByteArray) : cutB (padB t) t.size = t := by
  have ht : t.data.toList.length = t.size := Array.length_toList
  apply ByteArray.ext
  apply Array.toList_inj.1
  unfold cutB padB padL
  simp [List.append_assoc]

theorem conv4 (X : UInt32) (W : World) (x0 x1 x2 x3 : Int) (h0 : x0 = (X.toNat : Int) / 16777216 % 256) (h1 : x1 = (X.toNat : Int) / 65536 % 256) (h2 : x2 = (X.toNat : Int) / 256 % 256) (h3 : x3 = (X.toNat : Int) % 256) :
    (convert 22 9 (.slice (some ⟨W.heap.size, 0, none⟩) 4 4)).run Tryd.prog (W.alloc (.cells #[.int .u8 x0, .int .u8 x1, .int .u8 x2, .int .u8 x3] 5)).drew = .ok (.string ⟨(be4 X).toArray⟩) (W.alloc (.cells #[.int .u8 x0, .int .u8 x1, .int .u8 x2, .int .u8 x3] 5)).drew := by
  have h := four_cells W x0 x1 x2 x3 X 5 h0 h1 h2 h3
  refine run_convert_bytes_back (P := Tryd.prog) _ 22 9 5 ⟨W.heap.size, 0, none⟩ 4 (be4 X) Tryd.underlying22 Tryd.underlying5 Tryd.underlying9 ?_
  intro j hj
  exact h j _ (by simp [bv, List.getElem?_eq_getElem hj])

theorem sShaBlock_o (g o n c : Nat) (l r : List Int) (b : ByteArray) (w : World) (hn : l.length = n) (hr : AnsR l b r) (hl : n ≤ 1100000) (hbs : b.size ≤ 1100000) (hg : g < w.heap.size) (hc : ∀ j (h : j < l.length), w.cell? ⟨g, o + j, none⟩ = some (.int .i64 l[j])) :
    Calls Tryd.prog 14 #[.slice (some ⟨g, o, none⟩) n c, .string b] w fun e w' => Ans w w' e r := by
  refine (sShaBlock_any g o n c l b w hn hl hbs hg hc).mono fun e w' h => ?_
  by_cases hf : fitB l b
  · rw [hr.1 hf]; exact h.1 hf
  · rw [hr.2 hf]; exact h.2 hf
theorem ShaBlock_o (g o n c : Nat) (l r : List Int) (b : ByteArray) (w : World) (hn : l.length = n) (hr : AnsR l b r) (hl : n ≤ 1100000) (hbs : b.size ≤ 1100000) (hg : g < w.heap.size) (hc : ∀ j (h : j < l.length), w.cell? ⟨g, o + j, none⟩ = some (.int .i64 l[j])) (hK : TabK w) :
    Calls Tryd.prog 8 #[.slice (some ⟨g, o, none⟩) n c, .string b] w fun e w' => Ans w w' e r := by
  by_cases hf : fitB l b
  · rw [hr.1 hf]
    have h8 : n = 8 := by rw [← hn]; exact hf.1
    subst h8
    exact ShaBlock_yes g o c l b w hf hg hc hK
  · rw [hr.2 hf]
    exact ShaBlock_no g o n c l b w hn hf hl hbs hg hc

def BlR (w : World) (t : ByteArray) (c : Nat) (v i : Value) (wr : World) : Prop := ∃ k g c : Nat, k ≤ nbl t ∧ i = .int .i64 ((64 * k : Nat) : Int) ∧ v = .slice (some ⟨g, 0, none⟩) 8 c ∧ IB wr g (stI (stN (padB t) k) 8) ∧ Below w.heap.size w wr
def BdR (S : Nat → UInt32) (w v3 : World) (d i : Value) (wr : World) : Prop := ∃ m : Nat, m ≤ 8 ∧ i = .int .i64 m ∧ d = .string ⟨(digL S m).toArray⟩ ∧ Below v3.heap.size v3 wr

set_option maxRecDepth 100000 in
set_option maxHeartbeats 1000000 in
theorem blocksLaw_any (ao : Option Addr) (len cap : Nat) (w0 : World) (hc : Code w0.heap.size w0 (.slice ao len cap)) (hK : TabK w0) (hF : TabF w0) :
    Calls Tryd.prog 3 #[.slice ao len cap] w0 fun e w' => e = .returned (.bool true) ∧ Below w0.heap.size w0 w' := by
  have hlen : len ≤ 1048576 := by obtain ⟨_, _, _, _, _, he, hl, _⟩ := hc; cases he; exact hl
  have HC : Hid (Code w0.heap.size w0 (.slice ao len cap)) := hc
  have HT : Hid (∀ w', Below w0.heap.size w0 w' → TabK w' ∧ TabF w') := fun w' hb => ⟨hK.later hb hK.pos, hF.later hb hF.pos⟩
  clear hc hK hF
  go_enter Tryd.func3, Tryd.ntmps3
  go_wp2_with fail
  refine (big_no ao len cap _ hlen).mono ?_
  rintro e w ⟨rfl, rfl⟩
  go_wp2_with fail
  refine (DrawTextOf_any _ _ HC.out).mono ?_
  rintro e w2 ⟨l, hl, rfl, hb2⟩
  obtain ⟨t, ht⟩ : ∃ t : ByteArray, t = ⟨l.toArray⟩ := ⟨_, rfl⟩
  have htz : t.size ≤ 200 := by subst ht; exact hl
  rw [← ht]
  clear ht hl
  have hpz := padB_size t
  have hPT : Calls Tryd.prog 6 #[.string t] w2 fun e w' => e = .returned (.string (padB t)) ∧ Below w2.heap.size w2 w' := PadText_any t w2 (by omega)
  have hnb : nbl t ≤ 20 ∧ t.size + 9 ≤ nbl t * 64 := by unfold nbl; omega
  have hhd := run_head (padB t) t.size (by omega)
  rw [padB_head] at hhd
  go_wp2_with fail
  refine hPT.mono ?_
  rintro e w3 ⟨rfl, hb3⟩
  have b3 := hb2.trans (hb3.mono hb2.size)
  clear hPT hb3 hb2
  go_wp2_with fail
  refine (ShaStart_any w3 (HT.out w3 b3).2).mono ?_
  rintro e w4 ⟨g4, c4, rfl, hg4, ib4, hb4⟩
  have HST : Hid (BlR w t 0 (.slice (some ⟨g4, 0, none⟩) 8 c4) (.int .i64 0) w4) := ⟨0, g4, c4, by omega, rfl, rfl, ib4, b3.trans (hb4.mono b3.size)⟩
  clear ib4 hb4 b3 hg4
  have hmod : ((nbl t : Int) * 64) % 64 = 0 := by omega
  have hlt9 : ¬ (nbl t : Int) * 64 < (t.size : Int) + 9 := by omega
  go_wp2
  go_loopw [5, 6] (fun v i wr => BlR w t 0 v i wr) (fun _ i _ => nbl t * 64 - (intOf i).toNat)
  case atStart => exact HST.out
  case round =>
    obtain ⟨k, g, c, hk, rfl, rfl, hib, hbel⟩ := hrel
    clear HST
    by_cases hlt : k < nbl t
    · obtain ⟨cc, hcc⟩ : ∃ cc, (padB t).extract (64 * k) (64 * k + 64) = cc := ⟨_, rfl⟩
      have hcz : cc.size = 64 := by rw [← hcc, ByteArray.size_extract]; omega
      have hcut := run_cut (padB t) ((64 * k : Nat) : Int) (((64 * k : Nat) : Int) + 64) (64 * k) (64 * k + 64) rfl (by omega) (by omega) (by omega)
      rw [hcc] at hcut
      have HN : Hid (stN (padB t) (k + 1) = H.block (stN (padB t) k) keyF (bAt cc)) := by rw [← hcc]; rfl
      clear hcc
      generalize stN (padB t) k = S at *
      have cB := ShaBlock_all g 8 c (stI S 8) _ cc wr (stI_len S 8) (ans_state S cc hcz) (by omega) (by omega) hib (HT.out wr hbel).1
      have CB : Hid (Calls Tryd.prog 8 #[.slice (some ⟨g, 0, none⟩) 8 c, .string cc] wr fun e w' => Ans wr w' e (stI (H.block S keyF (bAt cc)) 8)) := cB
      clear cB hib
      obtain ⟨n, hn⟩ : ∃ n : Nat, 64 * k = n := ⟨_, rfl⟩
      rw [hn] at hcut
      rw [hn]
      have hnl : n + 64 ≤ nbl t * 64 := by omega
      have HNN : Hid (64 * k = n) := hn
      clear hn
      go_wp2_with fail
      refine CB.out.mono ?_
      rintro e w6 ⟨g6, c6, rfl, hg6, ib6, hb6⟩
      rw [stI_len]
      have b6 := hbel.trans (hb6.mono hbel.size)
      clear CB hb6
      go_wp2
      go_roundw
      case rel => exact ⟨k + 1, g6, c6, hlt, by have := HNN.out; show Value.int .i64 _ = Value.int .i64 _; congr 1; omega, rfl, by rw [HN.out]; exact ib6, b6⟩
      case measure => simp [intOf]; omega
    · have hke : k = nbl t := by omega
      subst hke
      obtain ⟨n, hn⟩ : ∃ n : Nat, 64 * nbl t = n := ⟨_, rfl⟩
      rw [hn]
      have hn2 : (n : Int) = (nbl t : Int) * 64 := by omega
      have HDD : Hid (digB t = ⟨(digL (stN (padB t) (nbl t)) 8).toArray⟩) := rfl
      generalize stN (padB t) (nbl t) = S at *
      have hgl := hib.lt
      have HIB : Hid (IB wr g (stI S 8)) := hib
      clear hib hn
      go_wp2
      clear hn2
      go_loopw [7, 8] (fun d i wx => BdR S w wr d i wx) (fun _ i _ => 8 - (intOf i).toNat)
      case atStart => exact ⟨0, by omega, rfl, rfl, Below.refl _ _⟩
      case round =>
        obtain ⟨m, hm, rfl, rfl, hbx⟩ := hrel
        by_cases hlt8 : m < 8
        · have ibx := HIB.out.below hbx hgl
          have hc0 := ibx.cell m (by rw [stI_len]; omega)
          rw [stI_at] at hc0
          have hDS := digL_succ S m
          have HDS : Hid (digL S (m + 1) = digL S m ++ be4 (S m)) := hDS
          have hxl := H.u32_lt (S m)
          clear ibx hDS
          generalize S m = X at *
          have i1 : (m : Int) < 8 := by omega
          have i2 : (0 : Int) ≤ (m : Int) := by omega
          have hcv1 := conv4 X wr ((X.toNat : Int) / 16777216) ((X.toNat : Int) / 65536 % 256) ((X.toNat : Int) / 256 % 256) ((X.toNat : Int) % 256) (by omega) rfl rfl rfl
          obtain ⟨Dm, hDm⟩ : ∃ D : ByteArray, (⟨(digL S m).toArray⟩ : ByteArray) = D := ⟨_, rfl⟩
          obtain ⟨E, hE⟩ : ∃ E : ByteArray, (⟨(be4 X).toArray⟩ : ByteArray) = E := ⟨_, rfl⟩
          have hDz : Dm.size = 4 * m := by rw [← hDm, ← digL_len S m]; exact List.size_toArray
          have hEz : E.size = 4 := by rw [← hE]; rfl
          have HJ : Hid (Dm ++ E = ⟨(digL S (m + 1)).toArray⟩) := by
            show _ = _
            rw [HDS.out, ← hDm, ← hE]
            apply ByteArray.ext
            simp
          rw [hE] at hcv1
          rw [hDm]
          clear hDm hE
          go_wp2
          go_region
          go_wp2
          go_roundw
          case rel => exact ⟨m + 1, by omega, by go_num, by rw [← HJ.out], (hbx.alloc hbx.size _).drew⟩
          case measure => simp [intOf]; omega
        · have hme : m = 8 := by omega
          subst hme
          rw [← HDD.out]
          have bX := hbel.trans (hbx.mono hbel.size)
          have HCX := code_later HC.out bX
          have HC2 : Hid (Code wr.heap.size wr (.slice ao len cap)) := HCX
          have hdz := digB_size t
          have hh5 := run_head (digB t) 5 (by omega)
          have hDT : ∀ w', Below w.heap.size w w' → Calls Tryd.prog 10 #[.string t] w' fun e w'' => e = .returned (.string (digB t)) ∧ Below w'.heap.size w' w'' := fun w' hb => Digest_any t w' (by omega) (HT.out w' hb).1 (HT.out w' hb).2
          have hST : ∀ w', Calls Tryd.prog 11 #[.string t] w' fun e w'' => e = .returned (.string (digB t)) ∧ Below w'.heap.size w' w'' := fun w' => sDigest_any t w' (by omega)
          have hCT : ∀ w', Below w.heap.size w w' → Calls Tryd.prog 12 #[.string t, .int .i64 5] w' fun e w'' => e = .returned (.string (cutB (digB t) 5)) ∧ Below w'.heap.size w' w'' := fun w' hb => CutDigest_yes t 5 w' (by omega) (by omega) (by omega) (HT.out w' hb).1 (HT.out w' hb).2
          clear HCX HDD HIB hgl hbel hbx hpz hnb hhd hmod hlt9
          generalize digB t = D at *
          have hh5' : ∀ W, (Instr.slice 9 (.string D) none (some (.int .i64 5)) none).run Tryd.prog W = .ok (.string (D.extract 0 5)) W := hh5
          unfold cutB at hCT
          clear hh5
          go_wp2_with fail
          refine (DrawShaBlock_any _ _ HC2.out).mono ?_
          rintro e w7 ⟨gd, od, nd, cd, ld, bd, rfl, hld, hn8, hbz, hgd, hgd7, hcd, hb7⟩
          have b7 := bX.trans (hb7.mono bX.size)
          obtain ⟨r, hr, hrl⟩ := ans_ex ld bd
          rw [hld] at hrl
          clear hb7 bX HC2
          have qD : ∀ W, Below w7.heap.size w7 W → Calls Tryd.prog 10 #[.string t] W fun e w'' => e = .returned (.string D) ∧ Below w7.heap.size w7 w'' := fun W hW => (hDT W (b7.trans (hW.mono b7.size))).mono fun e w'' ⟨he, h2⟩ => ⟨he, hW.trans (h2.mono hW.size)⟩
          have qS : ∀ W, Below w7.heap.size w7 W → Calls Tryd.prog 11 #[.string t] W fun e w'' => e = .returned (.string D) ∧ Below w7.heap.size w7 w'' := fun W hW => (hST W).mono fun e w'' ⟨he, h2⟩ => ⟨he, hW.trans (h2.mono hW.size)⟩
          have qC : ∀ W, Below w7.heap.size w7 W → Calls Tryd.prog 12 #[.string t, .int .i64 5] W fun e w'' => e = .returned (.string (D.extract 0 5)) ∧ Below w7.heap.size w7 w'' := fun W hW => (hCT W (b7.trans (hW.mono b7.size))).mono fun e w'' ⟨he, h2⟩ => ⟨he, hW.trans (h2.mono hW.size)⟩
          have qI : ∀ W, Below w7.heap.size w7 W → Calls Tryd.prog 8 #[.slice (some ⟨gd, od, none⟩) nd cd, .string bd] W fun e w'' => ∃ g c, e = .returned (.slice (some ⟨g, 0, none⟩) nd c) ∧ IB w'' g r ∧ Below w7.heap.size w7 w'' := fun W hW =>
            (ShaBlock_o gd od nd cd ld r bd W hld hr (by omega) (by omega) (Nat.lt_of_lt_of_le hgd7 hW.size) (fun j hj => (hW.cell (p := ⟨gd, od + j, none⟩) hgd7).trans (hcd j hj)) (HT.out W (b7.trans (hW.mono b7.size))).1).mono fun e w'' ⟨g, c, he, h1, h2, h3⟩ => ⟨g, c, by rw [← hrl]; exact he, h2, hW.trans (h3.mono hW.size)⟩
          have qT : ∀ W (ge : Nat), IB W ge r → Below w7.heap.size w7 W → Calls Tryd.prog 14 #[.slice (some ⟨gd, od, none⟩) nd cd, .string bd] W fun e w'' => ∃ g c, e = .returned (.slice (some ⟨g, 0, none⟩) nd c) ∧ IB w'' g r ∧ IB w'' ge r ∧ Below w7.heap.size w7 w'' := fun W ge hie hW =>
            (sShaBlock_o gd od nd cd ld r bd W hld hr (by omega) (by omega) (Nat.lt_of_lt_of_le hgd7 hW.size) (fun j hj => (hW.cell (p := ⟨gd, od + j, none⟩) hgd7).trans (hcd j hj))).mono fun e w'' ⟨g, c, he, h1, h2, h3⟩ => ⟨g, c, by rw [← hrl]; exact he, h2, hie.below h3 hie.lt, hW.trans (h3.mono hW.size)⟩
          have qE : ∀ W (ge gf ce cf : Nat), IB W ge r → IB W gf r → Below w7.heap.size w7 W → Calls Tryd.prog 13 #[.slice (some ⟨ge, 0, none⟩) nd ce, .slice (some ⟨gf, 0, none⟩) nd cf] W fun e w'' => e = .returned (.bool true) ∧ Below w7.heap.size w7 w'' := fun W ge gf ce cf h1 h2 hW =>
            (sameInts_yes _ _ ge 0 gf 0 r W (h1.sv ce nd hrl (by omega)) (h2.sv cf nd hrl (by omega))).mono fun e w'' ⟨he, q, hq⟩ => ⟨he, by subst hq; exact hW.trans ⟨rfl, rfl, rfl, Nat.le_refl _, fun _ _ => rfl⟩⟩
          clear hDT hST hCT hcd hr
          go_wp2_with fail
          go_region_held3 (fun W => Below w7.heap.size w7 W) (first | assumption | exact Below.refl _ _ | (exact (Below.refl _ _).drew)) (first
            | (go_at_call 10; refine (qD _ (by assumption)).mono ?_; rintro e w8 ⟨rfl, hb8⟩)
            | (go_at_call 11; refine (qS _ (by assumption)).mono ?_; rintro e w9 ⟨rfl, hb9⟩)
            | (go_at_call 12; refine (qC _ (by assumption)).mono ?_; rintro e w10 ⟨rfl, hb10⟩)
            | (go_at_call 8; refine (qI _ (by assumption)).mono ?_; rintro e w11 ⟨ge, ce, rfl, ie, hb11⟩)
            | (go_at_call 14; refine (qT _ ge ie (by assumption)).mono ?_; rintro e w12 ⟨gf, cf, rfl, jf, je, hb12⟩)
            | (go_at_call 13; refine (qE _ ge gf ce cf je jf (by assumption)).mono ?_; rintro e w13 ⟨rfl, hb13⟩))
          all_goals
            go_wp2
            go_ret
            exact ⟨rfl, b7.trans (hb13.mono b7.size)⟩
end Go.Proofs.YtjfdgidhgijheaaDoor
