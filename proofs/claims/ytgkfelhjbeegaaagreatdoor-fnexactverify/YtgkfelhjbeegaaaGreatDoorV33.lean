/-
  Texts laid together: Pq, Pi, Ph, Xa.
-/
import Derived.Test.YtgkfelhjbeegaaaGreatDoorV32
import Derived.Test.YtgkfelhjbeegaaaGreatDoorV29
import Derived.Test.YtgkfelhjbeegaaaGreatDoorV13
import Derived.Test.YtgkfelhjbeegaaaGreatDoorV01
/-
  Plain facts of roots that differ: where two lists of leaves differ at a name, the texts of its bucket do; with one root the two proofs clash.
-/
namespace Go.Proofs.YtgkfelhjbeegaaaGreatDoor
open Go.RowKit
set_option linter.unusedVariables false
set_option linter.unusedSimpArgs false

theorem btB_inj {L M : List Le} (hL : LV.LOk L) (hM : LV.LOk M) (h0 : 0 < L.length) (h1 : 0 < M.length) (h : btB L = btB M) : L = M := by
  rw [btB_some h0, btB_some h1] at h
  unfold tagB at h
  rw [if_pos (bkp_ok hL), if_pos (bkp_ok hM)] at h
  have sz : ∀ {K : List Le}, LV.LOk K → ∀ y ∈ TR.bkp K, y.size ≤ 1000000000 := fun hK y hy => by
    obtain ⟨f, hf, hfy⟩ := bkp_mem hy
    have := leB_size (hK.2.1 f hf)
    rcases hfy with rfl | rfl <;> omega
  exact TR.bkp_inj (TR.tag_inj (k := 2) (k' := 2) (by omega) (by omega) (sz hL) (sz hM) h).2
theorem srt_one {L : List Le} (h : LV.Srt L) {f g : Le} (hf : f ∈ L) (hg : g ∈ L) (he : f.n = g.n) : f = g := by
  obtain ⟨i, hi, rfl⟩ := List.getElem_of_mem hf
  obtain ⟨j, hj, rfl⟩ := List.getElem_of_mem hg
  rcases Nat.lt_trichotomy i j with hij | hij | hij
  · exact absurd he (F.ltN_ne (LV.LOk.srt_at h i j hi hj hij))
  · subst hij
    rfl
  · exact absurd he.symm (F.ltN_ne (LV.LOk.srt_at h j i hj hi hij))
theorem bk_in {L : List Le} {f : Le} (hf : f ∈ L) : f ∈ bkL L (idxN f.n : Int) := by
  unfold bkL
  rw [List.mem_filter]
  exact ⟨hf, by unfold bkP; simp⟩
theorem bk_sub {L : List Le} {f : Le} {i : Int} (hf : f ∈ bkL L i) : f ∈ L ∧ (idxN f.n : Int) = i := by
  unfold bkL at hf
  rw [List.mem_filter] at hf
  exact ⟨hf.1, by simpa [bkP] using hf.2⟩
theorem ok_bk {L : List Le} (h : LV.LOk L) (i : Int) : LV.LOk (bkL L i) := ⟨Nat.le_trans (List.length_filter_le _ _) h.1, fun f hf => h.2.1 f (bk_sub hf).1, List.Pairwise.filter _ h.2.2⟩
theorem sd_size {L : List Le} {x : Int} (h : 1 ≤ x ∧ x ≤ 32) (hL : LV.LOk L) (ix : Nat) : ∀ n, ∀ s ∈ sdL x ix L n, s.size = x.toNat
  | 0, s, hs => by
    have := sdL_len x ix L 0
    rw [List.length_eq_zero_iff.1 this] at hs
    simp at hs
  | n + 1, s, hs => by
    rw [sdL_up] at hs
    rcases List.mem_append.1 hs with h1 | h1
    · exact sd_size h hL ix n s h1
    · simp at h1
      subst h1
      exact trB_size h hL n _
/-- the proof of a name is a proof -/
theorem pf_right {L : List Le} {x : Int} {nm : ByteArray} (hn : okB nameB nm = true) (h : 1 ≤ x ∧ x ≤ 32) (hL : LV.LOk L) : pfOk nm (bkL L (idxN nm)) (sdL x (idxN nm) L 8) x = true := by
  rw [pfOk_yes hn (LV.leavesB_iff.2 (ok_bk hL _)) (by rw [sdL_len]; omega) ?_]
  · rw [List.all_eq_true]
    intro f hf
    have := (bk_sub hf).2
    rw [decide_eq_true_eq]
    omega
  · rw [wideB_good fun j hj => ?_]
    · simpa using h
    · rw [sd_size h hL _ 8 _ (List.getElem_mem _)]
      omega
theorem idx_255 (t : ByteArray) : idxN t ≤ 255 := by
  have : idxN t < 256 := UInt8.toNat_lt _
  omega
theorem root_chain {L : List Le} {x : Int} (h : 1 ≤ x ∧ x ≤ 32) (hL : LV.LOk L) (ix : Nat) (hx : ix ≤ 255) : fuF x ix 8 (cutH (btB (bkL L ix)) x) (sdL x ix L 8) = trB x 8 0 L := by
  rw [← fold_root x ix hx L]
  congr 1
  show _ = bhB x (TR.und idxL 0 ix L)
  rw [bhB_yes (leaves_und hL 0 ix), bkL_und]
/-- **one root, another leaf: the two proofs clash** -/
theorem roots_clash {A B : List Le} {nm y z : ByteArray} {x : Int} (hn : okB nameB nm = true) (h : 1 ≤ x ∧ x ≤ 32) (hA : LV.LOk A) (hB : LV.LOk B) (ha : (⟨nm, y⟩ : Le) ∈ A) (hb : (⟨nm, z⟩ : Le) ∈ B) (hne : y ≠ z) (hr : trB x 8 0 A = trB x 8 0 B) :
    clF (chL (idxN nm) x (btB (bkL A (idxN nm))) (sdL x (idxN nm) A 8) 9) (chL (idxN nm) x (btB (bkL B (idxN nm))) (sdL x (idxN nm) B 8) 9) x 9 = true := by
  refine chains_clash (idx_255 nm) h (sdL_len _ _ _ _) (sdL_len _ _ _ _) (fun s hs => by rw [sd_size h hA _ 8 s hs]; omega) (fun s hs => by rw [sd_size h hB _ 8 s hs]; omega) (fun he => ?_) ?_
  · have ia := bk_in ha
    have ib := bk_in hb
    have e := btB_inj (ok_bk hA _) (ok_bk hB _) (List.length_pos_of_mem ia) (List.length_pos_of_mem ib) he
    rw [show bkL A ((idxN (⟨nm, y⟩ : Le).n : Nat) : Int) = bkL A (idxN nm) from rfl, e] at ia
    have := srt_one (ok_bk hB _).2.2 ia ib rfl
    simp at this
    exact hne this
  · rw [root_chain h hA _ (idx_255 nm), root_chain h hB _ (idx_255 nm), hr]

end Go.Proofs.YtgkfelhjbeegaaaGreatDoor
/-
  The chain of texts of a proof: the program's answer.
-/
namespace Go.Proofs.YtgkfelhjbeegaaaGreatDoor
open Go.RowKit Go.BigFrame Go.Sort
set_option linter.unusedVariables false
set_option linter.unusedSimpArgs false

def PiR (w0 : World) (B : Nat) (ix : Int) (x : Int) (t0 : ByteArray) (S : List ByteArray) (t u i : Value) (wr : World) : Prop := ∃ m : Nat, m ≤ S.length ∧ i = .int .i64 m ∧ t = .string (chT ix x t0 S m) ∧ ∃ g cap, u = .slice (some ⟨g, 0, none⟩) (m + 1) cap ∧ Hid (OS B w0 wr u (chL ix x t0 S (m + 1)))

set_option maxRecDepth 100000 in
set_option maxHeartbeats 1000000 in
theorem ProofTexts_yes (nm : ByteArray) (vb vs : Value) (gb ob gs os : Nat) (B : List Le) (S : List ByteArray) (x : Int) (w : World) (hnm : nm.size ≤ 1048576) (hb : RS 2 lcs w vb gb ob B) (hsm : SmallL B) (hs : SS w vs gs os S) (hT : Tb w) (hok : pfOk nm B S x = true) :
    Calls Tryz.prog 107 #[.string nm, .agg #[vb, vs], .int .i64 x] w fun e w' => ∃ v, e = .returned v ∧ OS w.heap.size w w' v (chL (idxN nm) x (btB B) S (S.length + 1)) := by
  obtain ⟨p0, p1⟩ := run_rangeP (w := w) (p := 0) (v1 := vb) (v2 := vs) 45
  have hba : Below w.heap.size w (w.alloc (.cells #[vb, vs] 45)) := (Below.refl _ _).alloc (Nat.le_refl _) _
  have HBS : Hid (∀ W, Below w.heap.size w W → RS 2 lcs W vb gb ob B ∧ SS W vs gs os S ∧ Tb W) := fun W hW => ⟨hb.later hW, hs.below hW hs.lt, hT.later hW⟩
  have h8 : S.length ≤ 8 := by
    unfold pfOk at hok
    simp only [Bool.and_eq_true, decide_eq_true_eq] at hok
    exact hok.1.1.2
  have hlv : LV.leavesB B = true := by
    unfold pfOk at hok
    simp only [Bool.and_eq_true, decide_eq_true_eq] at hok
    exact hok.1.1.1.2
  have HPP : Hid (∀ W, Below (w.alloc (.cells #[vb, vs] 45)).heap.size (w.alloc (.cells #[vb, vs] 45)) W → W.cell? ⟨w.heap.size, 0, none⟩ = some vb ∧ W.cell? ⟨w.heap.size, 1, none⟩ = some vs ∧ Below w.heap.size w W ∧ w.heap.size + 1 ≤ W.heap.size) := fun W hW => ⟨cell_later p0 hW, cell_later p1 hW, hba.trans (hW.mono hba.size), by have := hW.size; simpa using this⟩
  have hpo := ProofOk_any nm vb vs gb ob gs os B S x _ hnm (HBS.out _ hba).1 hsm (HBS.out _ hba).2.1 (HBS.out _ hba).2.2
  rw [hok] at hpo
  have HBT : Hid (∀ W, Below w.heap.size w W → Calls Tryz.prog 127 #[vb] W fun e w' => e = .returned (.tuple #[.string (btB B), .bool true]) ∧ Below W.heap.size W w') := fun W hW => by
    have h := BucketText_any vb gb ob B W (HBS.out W hW).1 hsm
    rw [hlv, btA_yes hlv] at h
    exact h
  have HIX : Hid (∀ W, Below w.heap.size w W → Calls Tryz.prog 89 #[.string nm] W fun e w' => e = .returned (.int .i64 (idxN nm : Int)) ∧ Below W.heap.size W w') := fun W hW => IndexOf_any nm W hnm (HBS.out W hW).2.2.1 (HBS.out W hW).2.2.2
  have ht0 := btB_size B
  have HBI : Hid (∀ m, m ≤ 7 → bitI (idxN nm : Int) (7 - m) = 0 ∨ bitI (idxN nm : Int) (7 - m) = 1) := fun m hm => bit_01 _ m hm (idx_255 nm)
  obtain ⟨nS, hnS⟩ : ∃ nS, S.length = nS := ⟨_, rfl⟩
  have HNS : Hid (S.length = nS) := hnS
  obtain ⟨aS, cS, rfl, _, hAs, _⟩ := hs
  have HAS : Hid (0 < nS → aS = some ⟨gs, os, none⟩) := by rw [← hnS]; exact hAs
  rw [hnS] at h8 hpo HBS HPP p0 p1 hba ⊢
  clear hb hok hsm hlv hAs hnS hT
  generalize btB B = t0 at *
  obtain ⟨ix, hix⟩ : ∃ ix : Int, (idxN nm : Int) = ix := ⟨_, rfl⟩
  rw [hix] at HIX HBI ⊢
  clear hix
  go_enter Tryz.func107, Tryz.ntmps107
  go_wp2_with fail
  refine hpo.mono ?_
  rintro e w1 ⟨rfl, hb1⟩
  clear hpo
  obtain ⟨k0, k1, b1, _⟩ := HPP.out _ hb1
  go_wp2_with fail
  refine (HBT.out _ b1).mono ?_
  rintro e w2 ⟨rfl, hb2⟩
  have hb12 := hb1.trans (hb2.mono hb1.size)
  obtain ⟨j0, j1, b2, _⟩ := HPP.out _ hb12
  have ho0 := OS.lit w2 t0
  have b2a : Below w.heap.size w (w2.alloc (.cells #[.string t0] 9)) := b2.alloc b2.size _
  have hb2a : Below w2.heap.size w2 (w2.alloc (.cells #[.string t0] 9)) := (Below.refl _ _).alloc (Nat.le_refl _) _
  clear hb1 hb2 HBT k0 k1
  go_wp2_with fail
  refine (HIX.out _ b2a).mono ?_
  rintro e w3 ⟨rfl, hb3⟩
  have hb23 := hb2a.trans (hb3.mono hb2a.size)
  have hb13 := hb12.trans (hb23.mono hb12.size)
  obtain ⟨l0, l1, b3, _⟩ := HPP.out _ hb13
  have HST : Hid (PiR w2 w2.heap.size ix x t0 S (.string t0) (.slice (some ⟨w2.heap.size, 0, none⟩) 1 1) (.int .i64 0) w3) := ⟨0, by omega, rfl, rfl, _, _, rfl, ho0.later hb3⟩
  have HKK : Hid (∀ W, Below w2.heap.size w2 W → W.cell? ⟨w.heap.size, 0, none⟩ = some vb ∧ W.cell? ⟨w.heap.size, 1, none⟩ = some (.slice aS nS cS)) := fun W hW => ⟨cell_later j0 hW, cell_later j1 hW⟩
  have HB2 : Hid (Below w.heap.size w w2) := b2
  clear hb12 hb3 hb13 j0 j1 HPP p0 p1 b2 hba b1 b2a ho0 HIX hb23 hb2a b3
  go_wp2
  go_loopw [7, 9, 34] (fun t u i wr => PiR w2 w2.heap.size ix x t0 S t u i wr) (fun _ _ i _ => nS - (intOf i).toNat)
  case atStart => exact HST.out
  case round =>
    obtain ⟨m, hm, rfl, rfl, g, cap, rfl, HI⟩ := hrel
    clear HST
    rw [HNS.out] at hm
    have HBW : Hid (Below w2.heap.size w2 wr) := HI.out.2.1
    by_cases hlt : m < nS
    · have ea := HAS.out (by omega)
      subst ea
      have hmS : m < S.length := by rw [HNS.out]; exact hlt
      have c0 : wr.cell? ⟨gs, os + m, none⟩ = some (.string (S.getD m ⟨#[]⟩)) := by
        obtain ⟨_, _, _, _, _, h6⟩ := (HBS.out wr (HB2.out.trans (HBW.out.mono HB2.out.size))).2.1
        have := h6 m hmS
        rw [show S[m] = S.getD m ⟨#[]⟩ by simp [List.getElem?_eq_getElem hmS]] at this
        exact this
      have hTr : Tb wr := (HBS.out wr (HB2.out.trans (HBW.out.mono HB2.out.size))).2.2
      have hTs := chT_size ix x t0 S ht0 m
      have hZ : chT ix x t0 S (m + 1) = tagB 3 (if bitI ix (7 - m) = 1 then [S.getD m ⟨#[]⟩, cutH (chT ix x t0 S m) x] else [cutH (chT ix x t0 S m) x, S.getD m ⟨#[]⟩]) := rfl
      have hL := chL_succ ix x t0 S (m + 1)
      have hLl := chL_len ix x t0 S (m + 1)
      have HNX0 : Hid (∀ g6 cap6 w6, OS w2.heap.size w2 w6 (.slice (some ⟨g6, 0, none⟩) (m + 1 + 1) cap6) (chL ix x t0 S (m + 1) ++ [chT ix x t0 S (m + 1)]) → PiR w2 w2.heap.size ix x t0 S (.string (chT ix x t0 S (m + 1))) (.slice (some ⟨g6, 0, none⟩) (m + 1 + 1) cap6) (.int .i64 ((m : Int) + 1)) w6) := fun g6 cap6 w6 h => ⟨m + 1, by omega, by congr 1, rfl, g6, cap6, rfl, by rw [hL]; exact h⟩
      rw [hZ] at HNX0
      clear hZ hL
      generalize chT ix x t0 S m = T at *
      generalize S.getD m ⟨#[]⟩ = Y at *
      generalize chL ix x t0 S (m + 1) = L at *
      have HNX1 : Hid _ := HNX0.out
      clear HNX0
      have i1 : (m : Int) < (nS : Int) := by omega
      have i2 : (0 : Int) ≤ (m : Int) := by omega
      have i4 : ((7 : Int) - (m : Int)).toNat = 7 - m := by omega
      have HBO : Hid (∀ W, Calls Tryz.prog 110 #[.int .i64 ix, .int .i64 ((7 : Int) - (m : Int))] W fun e w' => e = .returned (.int .i64 (bitI ix (7 - m))) ∧ w' = W) := fun W => by
        have h := BitOf_at ix ((7 : Int) - (m : Int)) W ⟨by omega, by omega⟩
        rw [i4] at h
        exact h
      have hb01 := HBI.out m (by omega)
      have hcd := CutDigest_any T x wr (by omega) hTr.1 hTr.2
      generalize cutH T x = D at *
      clear HAS i4 hTr HBI
      go_wp2_with fail
      refine hcd.mono ?_
      rintro e w4 ⟨rfl, hb4⟩
      have HO4 : Hid (OS w2.heap.size w2 w4 (.slice (some ⟨g, 0, none⟩) (m + 1) cap) L) := HI.out.later hb4
      clear hcd c0 HI hb4 HBW
      have HT1 : Hid (∀ W, Calls Tryz.prog 128 #[.int .i64 3, .slice (some ⟨W.heap.size, 0, none⟩) 2 2] (W.alloc (.cells #[.string D, .string Y] 9)) fun e w' => e = .returned (.tuple #[.string (tagB 3 [D, Y]), .bool (tagOk 3 [D, Y])]) ∧ Below W.heap.size W w') := fun W => (tagged_any 3 _ W.heap.size 0 [D, Y] _ (ss_lits W [D, Y] _ 2 rfl (by omega) rfl)).mono fun e w' ⟨he, hb⟩ => ⟨he, ((Below.refl _ _).alloc (Nat.le_refl _) _).trans (hb.mono (by simp))⟩
      have HT2 : Hid (∀ W, Calls Tryz.prog 128 #[.int .i64 3, .slice (some ⟨W.heap.size, 0, none⟩) 2 2] (W.alloc (.cells #[.string Y, .string D] 9)) fun e w' => e = .returned (.tuple #[.string (tagB 3 [Y, D]), .bool (tagOk 3 [Y, D])]) ∧ Below W.heap.size W w') := fun W => (tagged_any 3 _ W.heap.size 0 [Y, D] _ (ss_lits W [Y, D] _ 2 rfl (by omega) rfl)).mono fun e w' ⟨he, hb⟩ => ⟨he, ((Below.refl _ _).alloc (Nat.le_refl _) _).trans (hb.mono (by simp))⟩
      generalize tagOk 3 [D, Y] = R1 at *
      generalize tagOk 3 [Y, D] = R2 at *
      generalize bitI ix (7 - m) = b at *
      go_wp2_with fail
      refine (HBO.out _).mono ?_
      rintro e w4' ⟨rfl, rfl⟩
      clear HBO
      by_cases hb : b = 1
      · rw [if_pos hb] at HNX1
        subst hb
        clear hb01 HT1
        generalize tagB 3 [Y, D] = Z at *
        go_wp2_with fail
        refine (inOrder_1 _ _ _ _ (by decide)).mono ?_
        rintro e w4'' ⟨rfl, rfl⟩
        go_wp2_with fail
        refine (HT2.out _).mono ?_
        rintro e w5 ⟨rfl, hb5⟩
        have HO5 : Hid (OS w2.heap.size w2 (w5.alloc (.cells #[.string Z] 9)) (.slice (some ⟨g, 0, none⟩) (m + 1) cap) L) := (HO4.out.later hb5).alloc _
        have HCT : Hid ((w5.alloc (.cells #[.string Z] 9)).cell? ⟨w5.heap.size, 0, none⟩ = some (.string Z)) := by
          show (w5.alloc (.cells #[.string Z] 9)).cell? ⟨w5.heap.size, 0, none⟩ = some (.string Z)
          rw [World.cell?_alloc_at _ _ _ _ rfl]
          rfl
        clear HT2 HO4 hb5
        go_wp2_with (at_builtin; refine wp_txtL rfl _ _ rfl w2.heap.size w2 _ L Z rfl HO5.out _ rfl HCT.out (by omega) ?_)
        intro g6 cap6 w6 ho6 hg6 hl6
        have HK : Hid (PiR w2 w2.heap.size ix x t0 S (.string Z) (.slice (some ⟨g6, 0, none⟩) (m + 1 + 1) cap6) (.int .i64 ((m : Int) + 1)) w6) := HNX1.out _ _ _ ho6
        clear ho6 hg6 hl6 HO5 HCT HNX1
        go_wp2
        go_roundw
        case rel => exact HK.out
        case measure => simp [intOf]; omega
      · rw [if_neg hb] at HNX1
        obtain rfl : b = 0 := by omega
        clear hb01 HT2 hb
        generalize tagB 3 [D, Y] = Z at *
        go_wp2_with fail
        refine (inOrder_0 _ _ _).mono ?_
        rintro e w4'' ⟨rfl, rfl⟩
        go_wp2_with fail
        refine (HT1.out _).mono ?_
        rintro e w5 ⟨rfl, hb5⟩
        have HO5 : Hid (OS w2.heap.size w2 (w5.alloc (.cells #[.string Z] 9)) (.slice (some ⟨g, 0, none⟩) (m + 1) cap) L) := (HO4.out.later hb5).alloc _
        have HCT : Hid ((w5.alloc (.cells #[.string Z] 9)).cell? ⟨w5.heap.size, 0, none⟩ = some (.string Z)) := by
          show (w5.alloc (.cells #[.string Z] 9)).cell? ⟨w5.heap.size, 0, none⟩ = some (.string Z)
          rw [World.cell?_alloc_at _ _ _ _ rfl]
          rfl
        clear HT1 HO4 hb5
        go_wp2_with (at_builtin; refine wp_txtL rfl _ _ rfl w2.heap.size w2 _ L Z rfl HO5.out _ rfl HCT.out (by omega) ?_)
        intro g6 cap6 w6 ho6 hg6 hl6
        have HK : Hid (PiR w2 w2.heap.size ix x t0 S (.string Z) (.slice (some ⟨g6, 0, none⟩) (m + 1 + 1) cap6) (.int .i64 ((m : Int) + 1)) w6) := HNX1.out _ _ _ ho6
        clear ho6 hg6 hl6 HO5 HCT HNX1
        go_wp2
        go_roundw
        case rel => exact HK.out
        case measure => simp [intOf]; omega
    · have hme : m = nS := by omega
      subst hme
      have HF : Hid (∃ v, Ending.returned (.slice (some ⟨g, 0, none⟩) (m + 1) cap) = .returned v ∧ OS w.heap.size w wr v (chL ix x t0 S (m + 1))) := ⟨_, rfl, OS.upT HB2.out HB2.out.size HI.out⟩
      clear HI HBW HKK HBS HAS
      go_wp2
      go_ret
      exact HF.out

set_option maxRecDepth 100000 in
theorem ProofTexts_no (nm : ByteArray) (vb vs : Value) (gb ob gs os : Nat) (B : List Le) (S : List ByteArray) (x : Int) (w : World) (hnm : nm.size ≤ 1048576) (hb : RS 2 lcs w vb gb ob B) (hsm : SmallL B) (hs : SS w vs gs os S) (hT : Tb w) (hok : pfOk nm B S x = false) :
    Calls Tryz.prog 107 #[.string nm, .agg #[vb, vs], .int .i64 x] w fun e w' => ∃ v, e = .returned v ∧ OS w.heap.size w w' v [] := by
  obtain ⟨p0, p1⟩ := run_rangeP (w := w) (p := 0) (v1 := vb) (v2 := vs) 45
  have hba : Below w.heap.size w (w.alloc (.cells #[vb, vs] 45)) := (Below.refl _ _).alloc (Nat.le_refl _) _
  have hpo := ProofOk_any nm vb vs gb ob gs os B S x _ hnm (hb.later hba) hsm (hs.below hba hs.lt) (hT.later hba)
  rw [hok] at hpo
  clear hb hs hok hsm hT
  go_enter Tryz.func107, Tryz.ntmps107
  go_wp2_with fail
  refine hpo.mono ?_
  rintro e w1 ⟨rfl, hb1⟩
  have b1 : Below w.heap.size w w1 := hba.trans (hb1.mono hba.size)
  have HF : Hid (∃ v, Ending.returned (.slice (some ⟨w1.heap.size, 0, none⟩) 0 0) = .returned v ∧ OS w.heap.size w (w1.alloc (.cells #[] 9)) v []) := ⟨_, rfl, OS.upT b1 b1.size (OS.made w1)⟩
  clear hpo p0 p1 hba hb1 b1
  go_wp2
  go_ret
  exact HF.out

theorem ProofTexts_any (nm : ByteArray) (vb vs : Value) (gb ob gs os : Nat) (B : List Le) (S : List ByteArray) (x : Int) (w : World) (hnm : nm.size ≤ 1048576) (hb : RS 2 lcs w vb gb ob B) (hsm : SmallL B) (hs : SS w vs gs os S) (hT : Tb w) :
    Calls Tryz.prog 107 #[.string nm, .agg #[vb, vs], .int .i64 x] w fun e w' => ∃ v, e = .returned v ∧ OS w.heap.size w w' v (ptA nm B S x) := by
  unfold ptA
  cases h : pfOk nm B S x with
  | false => exact ProofTexts_no nm vb vs gb ob gs os B S x w hnm hb hsm hs hT h
  | true => exact ProofTexts_yes nm vb vs gb ob gs os B S x w hnm hb hsm hs hT h

end Go.Proofs.YtgkfelhjbeegaaaGreatDoor
/-
  The hash of a proof: the program's and the specification's answers.
-/
namespace Go.Proofs.YtgkfelhjbeegaaaGreatDoor
open Go.RowKit Go.BigFrame Go.Sort
set_option linter.unusedVariables false
set_option linter.unusedSimpArgs false

/-- the digest of the last of these texts -/
def lastH (l : List ByteArray) (x : Int) : ByteArray := if l.length = 0 then ⟨#[]⟩ else cutH (l.getD (l.length - 1) ⟨#[]⟩) x
theorem lastH_none (x : Int) : lastH [] x = ⟨#[]⟩ := rfl
theorem lastH_at {l : List ByteArray} {k : Nat} (h : l.length = k + 1) (x : Int) : lastH l x = cutH (l[k]'(by omega)) x := by
  unfold lastH
  have e : l.getD (l.length - 1) ⟨#[]⟩ = l[k]'(by omega) := by
    have e1 : l.length - 1 = k := by omega
    rw [e1, List.getD_eq_getElem?_getD, List.getElem?_eq_getElem (show k < l.length by omega), Option.getD_some]
  rw [if_neg (by omega), e]

set_option maxRecDepth 100000 in
set_option maxHeartbeats 1000000 in
theorem hashOfLast_any (v : Value) (g o : Nat) (l : List ByteArray) (x : Int) (w : World) (hv : SS w v g o l) (hsz : ∀ t ∈ l, t.size ≤ 1048576) (hT : Tb w) :
    Calls Tryz.prog 106 #[v, .int .i64 x] w fun e w' => e = .returned (.string (lastH l x)) ∧ Below w.heap.size w w' := by
  obtain ⟨a, cap, rfl, hl, hA, hc⟩ := hv
  obtain ⟨n, hn⟩ : ∃ n, l.length = n := ⟨_, rfl⟩
  rw [hn]
  cases n with
  | zero =>
    obtain rfl : l = [] := List.length_eq_zero_iff.1 hn
    rw [lastH_none]
    clear hA hc hsz hn hT
    go_enter Tryz.func106, Tryz.ntmps106
    go_wp2
    go_ret
    exact ⟨rfl, Below.refl _ _⟩
  | succ k =>
    have ea := hA (by omega)
    subst ea
    have c0 := hc k (by omega)
    rw [lastH_at hn]
    have hd := CutDigest_any (l[k]'(by omega)) x w (hsz _ (List.getElem_mem _)) hT.1 hT.2
    generalize l[k]'(by omega) = X at *
    generalize cutH X x = D at *
    have q0 : (((k + 1 : Nat) : Int) == 0) = false := by simp; omega
    have e1 : (((k + 1 : Nat) : Int) - 1) = (k : Int) := by omega
    have i1 : (k : Int) < ((k + 1 : Nat) : Int) := by omega
    have i2 : (0 : Int) ≤ (k : Int) := by omega
    have hk : k ≤ 1100000 := by omega
    clear hA hc hsz hn hT
    go_enter Tryz.func106, Tryz.ntmps106
    go_wp2_with fail
    refine hd.mono ?_
    rintro e w1 ⟨rfl, hb1⟩
    go_wp2
    go_ret
    exact ⟨rfl, hb1⟩

/-- what ProofHash is -/
noncomputable def phA (nm : ByteArray) (B : List Le) (S : List ByteArray) (x : Int) : ByteArray := lastH (ptA nm B S x) x
theorem ptA_size {nm : ByteArray} {B : List Le} {S : List ByteArray} {x : Int} : ∀ t ∈ ptA nm B S x, t.size ≤ 12601 := by
  unfold ptA
  split
  · intro t ht
    obtain ⟨j, hj, rfl⟩ := List.getElem_of_mem ht
    rw [chL_at]
    exact chT_size _ _ _ _ (btB_size B) j
  · intro t ht
    cases ht
theorem ptA_len (nm : ByteArray) (B : List Le) (S : List ByteArray) (x : Int) : (ptA nm B S x).length ≤ 9 := by
  unfold ptA
  split
  · rename_i h
    rw [chL_len]
    unfold pfOk at h
    simp only [Bool.and_eq_true, decide_eq_true_eq] at h
    have := h.1.1.2
    omega
  · simp

set_option maxRecDepth 100000 in
set_option maxHeartbeats 1000000 in
theorem ProofHash_any (nm : ByteArray) (vb vs : Value) (gb ob gs os : Nat) (B : List Le) (S : List ByteArray) (x : Int) (w : World) (hnm : nm.size ≤ 1048576) (hb : RS 2 lcs w vb gb ob B) (hsm : SmallL B) (hs : SS w vs gs os S) (hT : Tb w) :
    Calls Tryz.prog 87 #[.string nm, .agg #[vb, vs], .int .i64 x] w fun e w' => e = .returned (.string (phA nm B S x)) ∧ Below w.heap.size w w' := by
  obtain ⟨p0, p1⟩ := run_rangeP (w := w) (p := 0) (v1 := vb) (v2 := vs) 45
  have hba : Below w.heap.size w (w.alloc (.cells #[vb, vs] 45)) := (Below.refl _ _).alloc (Nat.le_refl _) _
  have hpt := ProofTexts_any nm vb vs gb ob gs os B S x _ hnm (hb.later hba) hsm (hs.below hba hs.lt) (hT.later hba)
  have HH : Hid (∀ W v g, Below w.heap.size w W → SS W v g 0 (ptA nm B S x) → Calls Tryz.prog 106 #[v, .int .i64 x] W fun e w' => e = .returned (.string (phA nm B S x)) ∧ Below W.heap.size W w') := fun W v g hW h => hashOfLast_any v g 0 _ x W h (fun t ht => by have := ptA_size t ht; omega) (hT.later hW)
  have hlen := ptA_len nm B S x
  generalize phA nm B S x = H at *
  generalize ptA nm B S x = L at *
  clear hb hs hsm hT
  go_enter Tryz.func87, Tryz.ntmps87
  go_wp2_with fail
  refine hpt.mono ?_
  rintro e w1 ⟨v, rfl, ho⟩
  obtain ⟨g, hss⟩ := ho.ss (by omega)
  have b1 := hba.trans (ho.2.1.mono hba.size)
  have hh := HH.out w1 v g b1 hss
  clear hpt ho hss HH p0 p1
  go_wp2_with fail
  refine hh.mono ?_
  rintro e w2 ⟨rfl, hb2⟩
  go_wp2
  go_ret
  exact ⟨rfl, b1.trans (hb2.mono b1.size)⟩

set_option maxRecDepth 100000 in
set_option maxHeartbeats 1000000 in
theorem sProofHash_any (nm : ByteArray) (vb vs : Value) (gb ob gs os : Nat) (B : List Le) (S : List ByteArray) (x : Int) (w : World) (hnm : nm.size ≤ 1048576) (hb : RS 2 lcs w vb gb ob B) (hsm : SmallL B) (hs : SS w vs gs os S) :
    Calls Tryz.prog 19 #[.string nm, .agg #[vb, vs], .int .i64 x] w fun e w' => e = .returned (.string (phA nm B S x)) ∧ Below w.heap.size w w' := by
  obtain ⟨p0, p1⟩ := run_rangeP (w := w) (p := 0) (v1 := vb) (v2 := vs) 45
  have hba : Below w.heap.size w (w.alloc (.cells #[vb, vs] 45)) := (Below.refl _ _).alloc (Nat.le_refl _) _
  have hpt := sProofTexts_any nm vb vs gb ob gs os B S x _ hnm (hb.later hba) hsm (hs.below hba hs.lt)
  have hlen := ptA_len nm B S x
  have hsz := ptA_size (nm := nm) (B := B) (S := S) (x := x)
  unfold phA
  generalize ptA nm B S x = L at *
  clear hb hs hsm
  obtain ⟨n, hn⟩ : ∃ n, L.length = n := ⟨_, rfl⟩
  cases n with
  | zero =>
    obtain rfl : L = [] := List.length_eq_zero_iff.1 hn
    rw [lastH_none]
    go_enter Tryz.func19, Tryz.ntmps19
    go_wp2_with fail
    refine hpt.mono ?_
    rintro e w1 ⟨v, rfl, ho⟩
    obtain ⟨az, cz, rfl⟩ := ho.slice
    have b1 := hba.trans (ho.2.1.mono hba.size)
    clear hpt ho p0 p1 hsz
    go_wp2
    go_ret
    exact ⟨rfl, b1⟩
  | succ k =>
    rw [lastH_at hn]
    have hX := hsz (L[k]'(by omega)) (List.getElem_mem _)
    have HX : Hid (∀ W v g, SS W v g 0 L → ∃ cap, v = .slice (some ⟨g, 0, none⟩) (k + 1) cap ∧ W.cell? ⟨g, k, none⟩ = some (.string (L[k]'(by omega)))) := fun W v g ⟨a, cap, hv, _, hA, hc⟩ => by
      refine ⟨cap, by rw [hv, hA (by omega), hn], ?_⟩
      have := hc k (by omega)
      rw [Nat.zero_add] at this
      exact this
    have HCD : Hid (∀ W, Calls Tryz.prog 48 #[.string (L[k]'(by omega)), .int .i64 x] W fun e w' => e = .returned (.string (cutH (L[k]'(by omega)) x)) ∧ Below W.heap.size W w') := fun W => sCutDigest_any _ x W (by omega)
    generalize L[k]'(by omega) = X at *
    generalize cutH X x = D at *
    have q0 : (((k + 1 : Nat) : Int) == 0) = false := by simp; omega
    have e1 : (((k + 1 : Nat) : Int) - 1) = (k : Int) := by omega
    have i1 : (k : Int) < ((k + 1 : Nat) : Int) := by omega
    have i2 : (0 : Int) ≤ (k : Int) := by omega
    have hk : k ≤ 9 := by omega
    go_enter Tryz.func19, Tryz.ntmps19
    go_wp2_with fail
    refine hpt.mono ?_
    rintro e w1 ⟨v, rfl, ho⟩
    obtain ⟨g, hss⟩ := ho.ss (by omega)
    obtain ⟨cap, rfl, c0⟩ := HX.out _ _ _ hss
    have b1 := hba.trans (ho.2.1.mono hba.size)
    clear hpt ho hss HX p0 p1 hsz hn
    go_wp2_with fail
    refine (HCD.out _).mono ?_
    rintro e w2 ⟨rfl, hb2⟩
    go_wp2
    go_ret
    exact ⟨rfl, b1.trans (hb2.mono b1.size)⟩

end Go.Proofs.YtgkfelhjbeegaaaGreatDoor
/-
  Where a seal and a stamp are signed: the program's and the specification's answers.
-/
namespace Go.Proofs.YtgkfelhjbeegaaaGreatDoor
open Go.RowKit Go.BigFrame Go.Sort
set_option linter.unusedVariables false
set_option linter.unusedSimpArgs false

/-- where a seal of this epoch is signed -/
def sealP (e : Int) : Int := if 1 ≤ e ∧ e ≤ 4 then e - 1 else -1
/-- where a stamp is signed -/
def stampP (h e : Int) : Int := if (0 ≤ h ∧ h < 3) ∧ (1 ≤ e ∧ e ≤ 4) then 4 * (h + 1) + e - 1 else -1
theorem sealP_in (e : Int) : -1 ≤ sealP e ∧ sealP e ≤ 3 := by
  unfold sealP
  split <;> omega
theorem stampP_in (h e : Int) : -1 ≤ stampP h e ∧ stampP h e ≤ 15 := by
  unfold stampP
  split <;> omega

theorem SealAt_any (x : Int) (w : World) : Calls Tryz.prog 120 #[.int .i64 x] w fun e w' => e = .returned (.int .i64 (sealP x)) ∧ w' = w := by
  unfold sealP
  by_cases h : 1 ≤ x ∧ x ≤ 4
  · rw [if_pos h]
    have hd : decide (1 ≤ x ∧ x ≤ 4) = true := decide_eq_true h
    obtain ⟨h1, h2⟩ := h
    go_enter Tryz.func120, Tryz.ntmps120
    go_wp2_with fail
    refine (epochOk_any _ _).mono ?_
    rintro e w1 ⟨rfl, rfl⟩
    rw [hd]
    go_wp2
    go_ret
    exact ⟨rfl, rfl⟩
  · rw [if_neg h]
    have hd : decide (1 ≤ x ∧ x ≤ 4) = false := decide_eq_false h
    clear h
    go_enter Tryz.func120, Tryz.ntmps120
    go_wp2_with fail
    refine (epochOk_any _ _).mono ?_
    rintro e w1 ⟨rfl, rfl⟩
    rw [hd]
    go_wp2
    go_ret
    exact ⟨rfl, rfl⟩
theorem sSealAt_any (x : Int) (w : World) : Calls Tryz.prog 42 #[.int .i64 x] w fun e w' => e = .returned (.int .i64 (sealP x)) ∧ w' = w := by
  unfold sealP
  by_cases h : 1 ≤ x ∧ x ≤ 4
  · rw [if_pos h]
    have hd : decide (1 ≤ x ∧ x ≤ 4) = true := decide_eq_true h
    obtain ⟨h1, h2⟩ := h
    go_enter Tryz.func42, Tryz.ntmps42
    go_wp2_with fail
    refine (l01In_any _ _ _ _).mono ?_
    rintro e w1 ⟨rfl, rfl⟩
    rw [hd]
    go_wp2
    go_ret
    exact ⟨rfl, rfl⟩
  · rw [if_neg h]
    have hd : decide (1 ≤ x ∧ x ≤ 4) = false := decide_eq_false h
    clear h
    go_enter Tryz.func42, Tryz.ntmps42
    go_wp2_with fail
    refine (l01In_any _ _ _ _).mono ?_
    rintro e w1 ⟨rfl, rfl⟩
    rw [hd]
    go_wp2
    go_ret
    exact ⟨rfl, rfl⟩

theorem StampAt_any (h x : Int) (w : World) : Calls Tryz.prog 142 #[.int .i64 h, .int .i64 x] w fun e w' => e = .returned (.int .i64 (stampP h x)) ∧ w' = w := by
  unfold stampP
  by_cases h1 : 0 ≤ h ∧ h < 3
  · have d1 : decide (0 ≤ h ∧ h < 3) = true := decide_eq_true h1
    by_cases h2 : 1 ≤ x ∧ x ≤ 4
    · rw [if_pos ⟨h1, h2⟩]
      have d2 : decide (1 ≤ x ∧ x ≤ 4) = true := decide_eq_true h2
      obtain ⟨h3, h4⟩ := h1
      obtain ⟨h5, h6⟩ := h2
      go_enter Tryz.func142, Tryz.ntmps142
      go_wp2_with fail
      refine (houseOk_any _ _).mono ?_
      rintro e w1 ⟨rfl, rfl⟩
      rw [d1]
      go_wp2_with fail
      refine (epochOk_any _ _).mono ?_
      rintro e w2 ⟨rfl, rfl⟩
      rw [d2]
      go_wp2
      go_ret
      exact ⟨rfl, rfl⟩
    · rw [if_neg (fun h => h2 h.2)]
      have d2 : decide (1 ≤ x ∧ x ≤ 4) = false := decide_eq_false h2
      clear h1 h2
      go_enter Tryz.func142, Tryz.ntmps142
      go_wp2_with fail
      refine (houseOk_any _ _).mono ?_
      rintro e w1 ⟨rfl, rfl⟩
      rw [d1]
      go_wp2_with fail
      refine (epochOk_any _ _).mono ?_
      rintro e w2 ⟨rfl, rfl⟩
      rw [d2]
      go_wp2
      go_ret
      exact ⟨rfl, rfl⟩
  · rw [if_neg (fun h => h1 h.1)]
    have d1 : decide (0 ≤ h ∧ h < 3) = false := decide_eq_false h1
    clear h1
    go_enter Tryz.func142, Tryz.ntmps142
    go_wp2_with fail
    refine (houseOk_any _ _).mono ?_
    rintro e w1 ⟨rfl, rfl⟩
    rw [d1]
    go_wp2
    go_ret
    exact ⟨rfl, rfl⟩
theorem sStampAt_any (h x : Int) (w : World) : Calls Tryz.prog 50 #[.int .i64 h, .int .i64 x] w fun e w' => e = .returned (.int .i64 (stampP h x)) ∧ w' = w := by
  unfold stampP
  by_cases h1 : 0 ≤ h ∧ h < 3
  · have d1 : decide (0 ≤ h ∧ h ≤ 2) = true := decide_eq_true ⟨h1.1, by omega⟩
    by_cases h2 : 1 ≤ x ∧ x ≤ 4
    · rw [if_pos ⟨h1, h2⟩]
      have d2 : decide (1 ≤ x ∧ x ≤ 4) = true := decide_eq_true h2
      obtain ⟨h3, h4⟩ := h1
      obtain ⟨h5, h6⟩ := h2
      go_enter Tryz.func50, Tryz.ntmps50
      go_wp2_with fail
      refine (l01In_any _ _ _ _).mono ?_
      rintro e w1 ⟨rfl, rfl⟩
      rw [d1]
      go_wp2_with fail
      refine (l01In_any _ _ _ _).mono ?_
      rintro e w2 ⟨rfl, rfl⟩
      rw [d2]
      go_wp2
      go_ret
      exact ⟨rfl, rfl⟩
    · rw [if_neg (fun h => h2 h.2)]
      have d2 : decide (1 ≤ x ∧ x ≤ 4) = false := decide_eq_false h2
      clear h1 h2
      go_enter Tryz.func50, Tryz.ntmps50
      go_wp2_with fail
      refine (l01In_any _ _ _ _).mono ?_
      rintro e w1 ⟨rfl, rfl⟩
      rw [d1]
      go_wp2_with fail
      refine (l01In_any _ _ _ _).mono ?_
      rintro e w2 ⟨rfl, rfl⟩
      rw [d2]
      go_wp2
      go_ret
      exact ⟨rfl, rfl⟩
  · rw [if_neg (fun h => h1 h.1)]
    have d1 : decide (0 ≤ h ∧ h ≤ 2) = false := decide_eq_false (fun h => h1 ⟨h.1, by omega⟩)
    clear h1
    go_enter Tryz.func50, Tryz.ntmps50
    go_wp2_with fail
    refine (l01In_any _ _ _ _).mono ?_
    rintro e w1 ⟨rfl, rfl⟩
    rw [d1]
    go_wp2
    go_ret
    exact ⟨rfl, rfl⟩

end Go.Proofs.YtgkfelhjbeegaaaGreatDoor
