/-
  Texts laid together: Pq, Cpl, Bk, Pb, Pi.
-/
import Derived.Test.YtfiapodjiifmaaaGreatDoorPkP19
import Derived.Test.YtfiapodjiifmaaaGreatDoorPkP7
import Derived.Test.YtfiapodjiifmaaaGreatDoorPkP2
import Derived.Deep.RegionHeld3
import Derived.Test.YtfiapodjiifmaaaGreatDoorPkP15
import Derived.Test.YtfiapodjiifmaaaGreatDoorPkP17
import Derived.Test.YtfiapodjiifmaaaGreatDoorPkP6
import Derived.Lib.QuietBelow
/-
  Plain facts of roots that differ: where two lists of leaves differ at a name, the texts of its bucket do; with one root the two proofs clash.
-/
namespace Go.Proofs.YtfiapodjiifmaaaGreatDoor
open Go.RowKit
set_option linter.unusedVariables false
set_option linter.unusedSimpArgs false

theorem btB_inj {L M : List Le} (hL : LV.LOk L) (hM : LV.LOk M) (h0 : 0 < L.length) (h1 : 0 < M.length) (h : btB L = btB M) : L = M := by
  rw [btB_some h0, btB_some h1] at h
  unfold tagB at h
  rw [if_pos (bkp_ok hL), if_pos (bkp_ok hM)] at h
  have sz : ∀ {K : List Le}, LV.LOk K → ∀ y ∈ TR.bkp K, y.size ≤ 1000000000 := fun hK y hy => by
    obtain ⟨f, hf, hfy⟩ := bkp_mem hy
    have := leB_size (hK.2.1 f hf)
    rcases hfy with rfl | rfl <;> omega
  exact TR.bkp_inj (TR.tag_inj (k := 2) (k' := 2) (by omega) (by omega) (sz hL) (sz hM) h).2
theorem srt_one {L : List Le} (h : LV.Srt L) {f g : Le} (hf : f ∈ L) (hg : g ∈ L) (he : f.n = g.n) : f = g := by
  obtain ⟨i, hi, rfl⟩ := List.getElem_of_mem hf
  obtain ⟨j, hj, rfl⟩ := List.getElem_of_mem hg
  rcases Nat.lt_trichotomy i j with hij | hij | hij
  · exact absurd he (F.ltN_ne (LV.LOk.srt_at h i j hi hj hij))
  · subst hij
    rfl
  · exact absurd he.symm (F.ltN_ne (LV.LOk.srt_at h j i hj hi hij))
theorem bk_in {L : List Le} {f : Le} (hf : f ∈ L) : f ∈ bkL L (idxN f.n : Int) := by
  unfold bkL
  rw [List.mem_filter]
  exact ⟨hf, by unfold bkP; simp⟩
theorem bk_sub {L : List Le} {f : Le} {i : Int} (hf : f ∈ bkL L i) : f ∈ L ∧ (idxN f.n : Int) = i := by
  unfold bkL at hf
  rw [List.mem_filter] at hf
  exact ⟨hf.1, by simpa [bkP] using hf.2⟩
theorem ok_bk {L : List Le} (h : LV.LOk L) (i : Int) : LV.LOk (bkL L i) := ⟨Nat.le_trans (List.length_filter_le _ _) h.1, fun f hf => h.2.1 f (bk_sub hf).1, List.Pairwise.filter _ h.2.2⟩
theorem sd_size {L : List Le} {x : Int} (h : 1 ≤ x ∧ x ≤ 32) (hL : LV.LOk L) (ix : Nat) : ∀ n, ∀ s ∈ sdL x ix L n, s.size = x.toNat
  | 0, s, hs => by
    have := sdL_len x ix L 0
    rw [List.length_eq_zero_iff.1 this] at hs
    simp at hs
  | n + 1, s, hs => by
    rw [sdL_up] at hs
    rcases List.mem_append.1 hs with h1 | h1
    · exact sd_size h hL ix n s h1
    · simp at h1
      subst h1
      exact trB_size h hL n _
/-- the proof of a name is a proof -/
theorem pf_right {L : List Le} {x : Int} {nm : ByteArray} (hn : okB nameB nm = true) (h : 1 ≤ x ∧ x ≤ 32) (hL : LV.LOk L) : pfOk nm (bkL L (idxN nm)) (sdL x (idxN nm) L 8) x = true := by
  rw [pfOk_yes hn (LV.leavesB_iff.2 (ok_bk hL _)) (by rw [sdL_len]; omega) ?_]
  · rw [List.all_eq_true]
    intro f hf
    have := (bk_sub hf).2
    rw [decide_eq_true_eq]
    omega
  · rw [wideB_good fun j hj => ?_]
    · simpa using h
    · rw [sd_size h hL _ 8 _ (List.getElem_mem _)]
      omega
theorem idx_255 (t : ByteArray) : idxN t ≤ 255 := by
  have : idxN t < 256 := UInt8.toNat_lt _
  omega
theorem root_chain {L : List Le} {x : Int} (h : 1 ≤ x ∧ x ≤ 32) (hL : LV.LOk L) (ix : Nat) (hx : ix ≤ 255) : fuF x ix 8 (cutH (btB (bkL L ix)) x) (sdL x ix L 8) = trB x 8 0 L := by
  rw [← fold_root x ix hx L]
  congr 1
  show _ = bhB x (TR.und idxL 0 ix L)
  rw [bhB_yes (leaves_und hL 0 ix), bkL_und]
/-- **one root, another leaf: the two proofs clash** -/
theorem roots_clash {A B : List Le} {nm y z : ByteArray} {x : Int} (hn : okB nameB nm = true) (h : 1 ≤ x ∧ x ≤ 32) (hA : LV.LOk A) (hB : LV.LOk B) (ha : (⟨nm, y⟩ : Le) ∈ A) (hb : (⟨nm, z⟩ : Le) ∈ B) (hne : y ≠ z) (hr : trB x 8 0 A = trB x 8 0 B) :
    clF (chL (idxN nm) x (btB (bkL A (idxN nm))) (sdL x (idxN nm) A 8) 9) (chL (idxN nm) x (btB (bkL B (idxN nm))) (sdL x (idxN nm) B 8) 9) x 9 = true := by
  refine chains_clash (idx_255 nm) h (sdL_len _ _ _ _) (sdL_len _ _ _ _) (fun s hs => by rw [sd_size h hA _ 8 s hs]; omega) (fun s hs => by rw [sd_size h hB _ 8 s hs]; omega) (fun he => ?_) ?_
  · have ia := bk_in ha
    have ib := bk_in hb
    have e := btB_inj (ok_bk hA _) (ok_bk hB _) (List.length_pos_of_mem ia) (List.length_pos_of_mem ib) he
    rw [show bkL A ((idxN (⟨nm, y⟩ : Le).n : Nat) : Int) = bkL A (idxN nm) from rfl, e] at ia
    have := srt_one (ok_bk hB _).2.2 ia ib rfl
    simp at this
    exact hne this
  · rw [root_chain h hA _ (idx_255 nm), root_chain h hB _ (idx_255 nm), hr]

end Go.Proofs.YtfiapodjiifmaaaGreatDoor
/-
  A leaf copied: the program's answer.
-/
namespace Go.Proofs.YtfiapodjiifmaaaGreatDoor
open Go.RowKit Go.BigFrame Go.Sort
set_option linter.unusedVariables false
set_option linter.unusedSimpArgs false

set_option maxRecDepth 100000 in
set_option maxHeartbeats 1000000 in
theorem copiedL_any (f : Le) (w : World) (hn : f.n.size ≤ 1048576) (hv : f.v.size ≤ 1048576) : Calls Tryz.prog 53 #[.agg #[.string f.n, .string f.v]] w fun e w' => e = .returned (.agg #[.string f.n, .string f.v]) ∧ Below w.heap.size w w' := by
  obtain ⟨x, t⟩ := f
  simp only at hn hv ⊢
  have hb0 : Below w.heap.size w ((w.alloc (.cells #[.string x, .string t] 53)).alloc (.cells #[.string ⟨#[]⟩, .string ⟨#[]⟩] 53)) := ((Below.refl _ _).alloc (Nat.le_refl _) _).alloc (by simp) _
  have hG1 : BL ((w.alloc (.cells #[.string x, .string t] 53)).alloc (.cells #[.string ⟨#[]⟩, .string ⟨#[]⟩] 53)) w.heap.size x t := alloc_snd _ _ _ rfl
  have hG2 : BL ((w.alloc (.cells #[.string x, .string t] 53)).alloc (.cells #[.string ⟨#[]⟩, .string ⟨#[]⟩] 53)) (w.heap.size + 1) ⟨#[]⟩ ⟨#[]⟩ := alloc_fst _ _ (by simp)
  have hs0 : ((w.alloc (.cells #[.string x, .string t] 53)).alloc (.cells #[.string ⟨#[]⟩, .string ⟨#[]⟩] 53)).heap.size = w.heap.size + 2 := by simp
  have HK : Hid (∀ W, Below ((w.alloc (.cells #[.string x, .string t] 53)).alloc (.cells #[.string ⟨#[]⟩, .string ⟨#[]⟩] 53)).heap.size ((w.alloc (.cells #[.string x, .string t] 53)).alloc (.cells #[.string ⟨#[]⟩, .string ⟨#[]⟩] 53)) W → W.cell? ⟨w.heap.size, 0, none⟩ = some (.string x) ∧ W.cell? ⟨w.heap.size, 1, none⟩ = some (.string t)) := fun W hW => ⟨(hG1.later hW).c0, (hG1.later hW).c1⟩
  have HK2 : Hid (∀ W, Below ((w.alloc (.cells #[.string x, .string t] 53)).alloc (.cells #[.string ⟨#[]⟩, .string ⟨#[]⟩] 53)).heap.size ((w.alloc (.cells #[.string x, .string t] 53)).alloc (.cells #[.string ⟨#[]⟩, .string ⟨#[]⟩] 53)) W → BL W (w.heap.size + 1) ⟨#[]⟩ ⟨#[]⟩) := fun W hW => hG2.later hW
  have HB0 : Hid (Below w.heap.size w ((w.alloc (.cells #[.string x, .string t] 53)).alloc (.cells #[.string ⟨#[]⟩, .string ⟨#[]⟩] 53)) ∧ w.heap.size ≤ ((w.alloc (.cells #[.string x, .string t] 53)).alloc (.cells #[.string ⟨#[]⟩, .string ⟨#[]⟩] 53)).heap.size) := ⟨hb0, by rw [hs0]; omega⟩
  have hb : Below ((w.alloc (.cells #[.string x, .string t] 53)).alloc (.cells #[.string ⟨#[]⟩, .string ⟨#[]⟩] 53)).heap.size ((w.alloc (.cells #[.string x, .string t] 53)).alloc (.cells #[.string ⟨#[]⟩, .string ⟨#[]⟩] 53)) ((w.alloc (.cells #[.string x, .string t] 53)).alloc (.cells #[.string ⟨#[]⟩, .string ⟨#[]⟩] 53)).drew := (Below.refl _ _).drew
  clear hb0 hG1 hG2 hs0
  go_enter Tryz.func53, Tryz.ntmps53
  go_wp2
  go_region_held3 (fun W => W.cell? ⟨w.heap.size, 0, none⟩ = some (.string x) ∧ W.cell? ⟨w.heap.size, 1, none⟩ = some (.string t)) (first | go_keep | exact HK.out _ hb) ((go_at_call 56; refine (Clone_any _ _ (by first | exact hn | exact hv)).mono ?_; rintro e w1 ⟨rfl, hb1'⟩; have hb := hb.trans (hb1'.mono hb.size); have t0 := (HK2.out _ hb).c0; have t1 := (HK2.out _ hb).c1; have g0 := (HK2.out _ hb).f0; have g1 := (HK2.out _ hb).f1))
  have HF : Hid ((w1.setCells (w.heap.size + 1) 0 [.string x, .string t]).rangeAt (w.heap.size + 1) 0 [.string x, .string t] ∧ Below w.heap.size w (w1.setCells (w.heap.size + 1) 0 [.string x, .string t])) :=
    ⟨(HK2.out _ hb).put x t, below_setCells (by omega) _ _ _ (HB0.out.1.trans (hb.mono HB0.out.2))⟩
  go_wp2
  exact ret_rec 2 (w.heap.size + 1) 53 [.string x, .string t] _ rfl rfl rfl Tryz.underlying53 rfl sizeLeaf HF.out.1 ⟨rfl, HF.out.2⟩

end Go.Proofs.YtfiapodjiifmaaaGreatDoor
/-
  The leaves whose names have an index: the program's answer.
-/
namespace Go.Proofs.YtfiapodjiifmaaaGreatDoor
open Go.RowKit Go.BigFrame Go.Sort
set_option linter.unusedVariables false
set_option linter.unusedSimpArgs false

set_option maxRecDepth 100000 in
set_option maxHeartbeats 1000000 in
theorem BucketOf_any (v : Value) (ga oa : Nat) (L : List Le) (i : Int) (w : World) (hv : RS 2 lcs w v ga oa L) (hsm : SmallL L) (hK : TabK w) (hF : TabF w) :
    Calls Tryz.prog 25 #[v, .int .i64 i] w fun e w' => ∃ u, e = .returned u ∧ OL w.heap.size w w' u (bkL L i) := by
  have HV : Hid (RS 2 lcs w v ga oa L ∧ SmallL L ∧ TabK w ∧ TabF w) := ⟨hv, hsm, hK, hF⟩
  obtain ⟨a, cap, rfl, hl, hA, _⟩ := hv
  obtain ⟨n, hn⟩ : ∃ n, L.length = n := ⟨_, rfl⟩
  have HA : Hid (0 < n → a = some ⟨ga, oa, none⟩) := by rw [← hn]; exact fun h => (hA h).1
  rw [hn] at hl HV ⊢
  clear hA hsm hK hF
  have HST : Hid (BkR w L i (.slice (some ⟨w.heap.size, 0, none⟩) 0 0) (.int .i64 0) (w.alloc (.cells #[] 53))) := ⟨0, by omega, rfl, OL.made _ w w (Below.refl _ _) (Nat.le_refl _)⟩
  go_enter Tryz.func25, Tryz.ntmps25
  go_wp2
  go_loopw [5, 11] (fun u j wr => BkR w L i u j wr) (fun _ j _ => n - (intOf j).toNat)
  case atStart => exact HST.out
  case round =>
    obtain ⟨m, hm, rfl, HI⟩ := hrel
    clear HST
    rw [hn] at hm
    obtain ⟨au, cu, rfl⟩ := HI.out.shape
    by_cases hlt : m < n
    · have ea := HA.out (by omega)
      subst ea
      obtain ⟨c0, c1⟩ := (HV.out.1.later HI.out.2.1).leaf m (by omega)
      obtain ⟨X, hX⟩ : ∃ X, L[m]'(by omega) = X := ⟨_, rfl⟩
      rw [hX] at c0 c1
      have hxs := HV.out.2.1 X (by rw [← hX]; exact List.getElem_mem _)
      have hst := bk_step (L := L) (m := m) i (by omega)
      rw [hX] at hst
      have hle : ((L.take m).filter (bkP i)).length ≤ L.length := LV.filt_len L m _
      have i1 : (m : Int) < (n : Int) := by omega
      have i2 : (0 : Int) ≤ (m : Int) := by omega
      have hba : Below wr.heap.size wr (wr.alloc (.cells #[.string X.n, .string X.v] 53)) := (Below.refl _ _).alloc (Nat.le_refl _) _
      have hwa : Below w.heap.size w (wr.alloc (.cells #[.string X.n, .string X.v] 53)) := HI.out.2.1.trans (hba.mono HI.out.2.2)
      have hix := IndexOf_any X.n _ hxs.1 (HV.out.2.2.1.later hwa HV.out.2.2.1.pos) (HV.out.2.2.2.later hwa HV.out.2.2.2.pos)
      change Calls Tryz.prog 24 _ _ (fun e w' => e = .returned (.int .i64 (idxN X.n : Int)) ∧ Below _ _ w') at hix
      obtain ⟨N, hN⟩ : ∃ N, idxN X.n = N := ⟨_, rfl⟩
      rw [hN] at hix
      have HBK : Hid (bkP i X = decide ((N : Int) = i)) := by rw [← hN]; rfl
      have HO1 : Hid (OL w.heap.size w (wr.alloc (.cells #[.string X.n, .string X.v] 53)) (.slice au ((L.take m).filter (bkP i)).length cu) ((L.take m).filter (bkP i))) := HI.out.later hba
      clear HV HA hX hN hba hwa HI
      generalize hl0 : (L.take m).filter (bkP i) = l at *
      clear hl0
      go_wp2_with fail
      refine hix.mono ?_
      rintro e w1 ⟨rfl, hb1⟩
      have HO2 : Hid (OL w.heap.size w w1 (.slice au l.length cu) l) := HO1.out.later hb1
      have hbx : BL w1 wr.heap.size X.n X.v := (BL.new wr X.n X.v).later hb1
      have x0 := hbx.c0
      have x1 := hbx.c1
      clear hix hb1 HO1 hbx
      by_cases hk : (N : Int) = i
      · rw [HBK.out, decide_eq_true hk] at hst
        have HJ : Hid ((L.take (m + 1)).filter (bkP i) = l ++ [X]) := hst
        have hk2 : ((N : Int) == i) = true := by simpa using hk
        clear hst HBK
        go_wp2_with fail
        refine (copiedL_any X _ hxs.1 hxs.2).mono ?_
        rintro e w2 ⟨rfl, hb2⟩
        have hbc : Below w1.heap.size w1 (w2.alloc (.cells #[.string X.n, .string X.v] 53)) := hb2.alloc hb2.size _
        have hoa := HO2.out.later hbc
        have HRN : Hid ((w2.alloc (.cells #[.string X.n, .string X.v] 53)).rangeAt w2.heap.size 0 (lcs X)) := range_new _ [.string X.n, .string X.v] 53
        clear hbc hb2 HO2 x0 x1 c0 c1
        go_wp2_with (at_builtin; refine wp_leafL rfl _ _ rfl w.heap.size w (.slice au l.length cu) l X rfl hoa _ rfl HRN.out (by omega) ?_)
        intro g5 cap5 w5 ho5 hg5 hl5
        have HK : Hid (OL w.heap.size w w5 (.slice (some ⟨g5, 0, none⟩) (l.length + 1) cap5) ((L.take (m + 1)).filter (bkP i))) := by rw [HJ.out]; exact ho5
        clear ho5 hg5 hl5 hoa HRN HJ
        go_wp2
        go_roundw
        case rel => exact ⟨m + 1, by omega, by go_num, HK⟩
        case measure => simp [intOf]; omega
      · rw [HBK.out, decide_eq_false hk] at hst
        have HJ : Hid (OL w.heap.size w w1 (.slice au l.length cu) ((L.take (m + 1)).filter (bkP i))) := by rw [hst]; exact HO2.out
        have hk2 : ((N : Int) == i) = false := by simpa using hk
        clear hst HBK HO2
        go_wp2
        go_roundw
        case rel => exact ⟨m + 1, by omega, by go_num, HJ⟩
        case measure => simp [intOf]; omega
    · have hme : m = n := by omega
      have e : (L.take m).filter (bkP i) = bkL L i := by rw [List.take_of_length_le (by omega)]; rfl
      have HF : Hid (∃ u, Ending.returned (.slice au ((L.take m).filter (bkP i)).length cu) = .returned u ∧ OL w.heap.size w wr u (bkL L i)) := ⟨_, rfl, by rw [← e]; exact HI.out⟩
      generalize (L.take m).filter (bkP i) = l at *
      subst hme
      clear HI HA HV e
      go_wp2
      go_ret
      exact HF.out

end Go.Proofs.YtfiapodjiifmaaaGreatDoor
/-
  Proofs: whether a bucket is of one index, and when they are right: the program's answers.
-/
namespace Go.Proofs.YtfiapodjiifmaaaGreatDoor
open Go.RowKit Go.BigFrame Go.Sort
set_option linter.unusedVariables false
set_option linter.unusedSimpArgs false

def allI (B : List Le) (i : Int) : Bool := B.all (bkP i)
theorem allI_len (B : List Le) (i : Int) : allI B i = decide (((bkL B i).length : Int) = (B.length : Int)) := by
  unfold allI bkL
  cases h : B.all (bkP i) with
  | true =>
    rw [List.filter_eq_self.2 (List.all_eq_true.1 h)]
    simp
  | false =>
    have : (B.filter (bkP i)).length ≠ B.length := fun e => by
      have h2 := List.length_filter_eq_length_iff.1 e
      rw [← List.all_eq_true, h] at h2
      cases h2
    exact (decide_eq_false (by omega)).symm
theorem allI_is (B : List Le) (nm : ByteArray) : allI B (idxN nm) = B.all (fun f => decide (idxN f.n = idxN nm)) := by
  unfold allI
  congr 1
  funext f
  unfold bkP
  by_cases h : idxN f.n = idxN nm
  · rw [decide_eq_true h, decide_eq_true (by omega)]
  · rw [decide_eq_false h, decide_eq_false (by omega)]

set_option maxRecDepth 100000 in
set_option maxHeartbeats 1000000 in
theorem allOfIndex_any (v : Value) (g o : Nat) (B : List Le) (i : Int) (w : World) (hv : RS 2 lcs w v g o B) (hsm : SmallL B) (hT : Tb w) :
    Calls Tryz.prog 40 #[v, .int .i64 i] w fun e w' => e = .returned (.bool (allI B i)) ∧ Below w.heap.size w w' := by
  have hR := allI_len B i
  have h1 := BucketOf_any v g o B i w hv hsm hT.1 hT.2
  generalize allI B i = R at *
  obtain ⟨a, cap, rfl, hl, hz1, hz2⟩ := hv
  clear hz1 hz2 hsm hT
  go_enter Tryz.func40, Tryz.ntmps40
  go_wp2_with fail
  refine h1.mono ?_
  rintro e w1 ⟨u, rfl, ho⟩
  obtain ⟨au, cu, rfl⟩ := ho.shape
  have hb := ho.2.1
  clear h1 ho
  generalize (bkL B i).length = p at *
  generalize B.length = q at *
  go_wp2
  go_ret
  refine ⟨?_, hb⟩
  rw [hR]
  by_cases h : (p : Int) = (q : Int)
  · simp [h]
  · simp [h]

set_option maxRecDepth 100000 in
set_option maxHeartbeats 1000000 in
theorem ProofOk_any (nm : ByteArray) (vb vs : Value) (gb ob gs os : Nat) (B : List Le) (S : List ByteArray) (x : Int) (w : World) (hnm : nm.size ≤ 1048576) (hb : RS 2 lcs w vb gb ob B) (hsm : SmallL B) (hs : SS w vs gs os S) (hT : Tb w) :
    Calls Tryz.prog 13 #[.string nm, .agg #[vb, vs], .int .i64 x] w fun e w' => e = .returned (.bool (pfOk nm B S x)) ∧ Below w.heap.size w w' := by
  obtain ⟨R, hR⟩ : ∃ R, pfOk nm B S x = R := ⟨_, rfl⟩
  have e0 : R = (okB nameB nm && LV.leavesB B && allI B (idxN nm) && sidB S x) := by
    rw [← hR, allI_is]
    unfold pfOk sidB
    cases okB nameB nm <;> cases LV.leavesB B <;> cases decide (S.length ≤ 8) <;> cases wideB S x <;> simp
  rw [hR]
  clear hR
  obtain ⟨p0, p1⟩ := run_rangeP (w := w) (p := 0) (v1 := vb) (v2 := vs) 29
  have hba : Below w.heap.size w (w.alloc (.cells #[vb, vs] 29)) := (Below.refl _ _).alloc (Nat.le_refl _) _
  have HBS : Hid (∀ W, Below w.heap.size w W → RS 2 lcs W vb gb ob B ∧ SS W vs gs os S ∧ Tb W) := fun W hW => ⟨hb.later hW, hs.below hW hs.lt, hT.later hW⟩
  have HPP : Hid (∀ W, Below (w.alloc (.cells #[vb, vs] 29)).heap.size (w.alloc (.cells #[vb, vs] 29)) W → W.cell? ⟨w.heap.size, 0, none⟩ = some vb ∧ W.cell? ⟨w.heap.size, 1, none⟩ = some vs ∧ Below w.heap.size w W) := fun W hW => ⟨cell_later p0 hW, cell_later p1 hW, hba.trans (hW.mono hba.size)⟩
  have hnk := NameOk_any nm (w.alloc (.cells #[vb, vs] 29)) hnm
  have HLO : Hid (∀ W, Below w.heap.size w W → Calls Tryz.prog 20 #[vb] W fun e w' => e = .returned (.bool (LV.leavesB B)) ∧ Below W.heap.size W w') := fun W hW => LeavesOk_any vb gb ob B W (HBS.out W hW).1 hsm
  have HIX : Hid (∀ W, Below w.heap.size w W → Calls Tryz.prog 24 #[.string nm] W fun e w' => e = .returned (.int .i64 (idxN nm : Int)) ∧ Below W.heap.size W w') := fun W hW => IndexOf_any nm W hnm (HBS.out W hW).2.2.1 (HBS.out W hW).2.2.2
  have HAI : Hid (∀ W, Below w.heap.size w W → Calls Tryz.prog 40 #[vb, .int .i64 (idxN nm : Int)] W fun e w' => e = .returned (.bool (allI B (idxN nm))) ∧ Below W.heap.size W w') := fun W hW => allOfIndex_any vb gb ob B _ W (HBS.out W hW).1 hsm (HBS.out W hW).2.2
  have HSD : Hid (∀ W, Below w.heap.size w W → Calls Tryz.prog 29 #[vs, .int .i64 x] W fun e w' => e = .returned (.bool (sidB S x)) ∧ Below W.heap.size W w') := fun W hW => (sidesOk_any vs gs os S x W (HBS.out W hW).2.1).mono fun e w' ⟨he, hw⟩ => ⟨he, by rw [hw]; exact Below.refl _ _⟩
  obtain ⟨ix, hix⟩ : ∃ ix : Int, (idxN nm : Int) = ix := ⟨_, rfl⟩
  rw [hix] at HIX HAI e0
  clear hb hs hsm hT HBS hix
  generalize allI B ix = A2 at *
  generalize LV.leavesB B = A1 at *
  generalize sidB S x = A3 at *
  have hnk2 : ∀ W, Calls Tryz.prog 21 #[.string nm] W fun e w' => e = .returned (.bool (okB nameB nm)) ∧ Below W.heap.size W w' := fun W => (NameOk_any nm W hnm).mono fun e w' ⟨he, hw⟩ => ⟨he, by rw [hw]; exact Below.refl _ _⟩
  have HNK : Hid (∀ W, Calls Tryz.prog 21 #[.string nm] W fun e w' => e = .returned (.bool (okB nameB nm)) ∧ Below W.heap.size W w') := hnk2
  have HUP : Hid (∀ d os, Below w.heap.size w (grow (redrawn (w.alloc (.cells #[vb, vs] 29)) d) os)) := fun d os => hba.trans ((below_regrown _ d os).mono hba.size)
  clear hnk hnk2 HPP
  generalize okB nameB nm = A0 at *
  have kq0 := cell_regrown (w := w.alloc (.cells #[vb, vs] 29)) p0
  have kq1 := cell_regrown (w := w.alloc (.cells #[vb, vs] 29)) p1
  have cq0 := fun d os => Calls.regrown_of (w := w.alloc (.cells #[vb, vs] 29)) (d := d) (os := os) (HNK.out _)
  have cq1 := fun d os => Calls.regrown_of (w := w.alloc (.cells #[vb, vs] 29)) (d := d) (os := os) (HLO.out _ (HUP.out d os))
  have cq2 := fun d os => Calls.regrown_of (w := w.alloc (.cells #[vb, vs] 29)) (d := d) (os := os) (HIX.out _ (HUP.out d os))
  have cq3 := fun d os => Calls.regrown_of (w := w.alloc (.cells #[vb, vs] 29)) (d := d) (os := os) (HAI.out _ (HUP.out d os))
  have cq4 := fun d os => Calls.regrown_of (w := w.alloc (.cells #[vb, vs] 29)) (d := d) (os := os) (HSD.out _ (HUP.out d os))
  clear HNK HLO HIX HAI HSD HUP
  cases A0 with
  | false =>
    obtain rfl : R = false := by rw [e0]; rfl
    clear e0
    go_enter Tryz.func13, Tryz.ntmps13
    go_wp2
    refine wp_region_quiet_below (by kernel_rfl) (by kernel_rfl) ?_
    repeat (go_big_quiet_step (first | with_reducible exact cq0 _ _ | with_reducible exact cq1 _ _ | with_reducible exact cq2 _ _ | with_reducible exact cq3 _ _ | with_reducible exact cq4 _ _))
    refine wpQuiet_nil ?_
    rintro _ ⟨⟨dq, osq⟩, rfl⟩
    have hb6 := below_regrown (w.alloc (.cells #[vb, vs] 29)) dq osq
    generalize grow (redrawn (w.alloc (.cells #[vb, vs] 29)) dq) osq = w6 at *
    clear kq0 kq1 cq0 cq1 cq2 cq3 cq4
    go_wp2
    go_ret
    exact ⟨rfl, hba.trans (hb6.mono hba.size)⟩
  | true =>
    cases A1 with
    | false =>
      obtain rfl : R = false := by rw [e0]; rfl
      clear e0
      go_enter Tryz.func13, Tryz.ntmps13
      go_wp2
      refine wp_region_quiet_below (by kernel_rfl) (by kernel_rfl) ?_
      repeat (go_big_quiet_step (first | with_reducible exact cq0 _ _ | with_reducible exact cq1 _ _ | with_reducible exact cq2 _ _ | with_reducible exact cq3 _ _ | with_reducible exact cq4 _ _))
      refine wpQuiet_nil ?_
      rintro _ ⟨⟨dq, osq⟩, rfl⟩
      have hb6 := below_regrown (w.alloc (.cells #[vb, vs] 29)) dq osq
      generalize grow (redrawn (w.alloc (.cells #[vb, vs] 29)) dq) osq = w6 at *
      clear kq0 kq1 cq0 cq1 cq2 cq3 cq4
      go_wp2
      go_ret
      exact ⟨rfl, hba.trans (hb6.mono hba.size)⟩
    | true =>
      cases A2 with
      | false =>
        obtain rfl : R = false := by rw [e0]; rfl
        clear e0
        go_enter Tryz.func13, Tryz.ntmps13
        go_wp2
        refine wp_region_quiet_below (by kernel_rfl) (by kernel_rfl) ?_
        repeat (go_big_quiet_step (first | with_reducible exact cq0 _ _ | with_reducible exact cq1 _ _ | with_reducible exact cq2 _ _ | with_reducible exact cq3 _ _ | with_reducible exact cq4 _ _))
        refine wpQuiet_nil ?_
        rintro _ ⟨⟨dq, osq⟩, rfl⟩
        have hb6 := below_regrown (w.alloc (.cells #[vb, vs] 29)) dq osq
        generalize grow (redrawn (w.alloc (.cells #[vb, vs] 29)) dq) osq = w6 at *
        clear kq0 kq1 cq0 cq1 cq2 cq3 cq4
        go_wp2
        go_ret
        exact ⟨rfl, hba.trans (hb6.mono hba.size)⟩
      | true =>
        obtain rfl : R = A3 := by rw [e0]; rfl
        clear e0
        go_enter Tryz.func13, Tryz.ntmps13
        go_wp2
        refine wp_region_quiet_below (by kernel_rfl) (by kernel_rfl) ?_
        repeat (go_big_quiet_step (first | with_reducible exact cq0 _ _ | with_reducible exact cq1 _ _ | with_reducible exact cq2 _ _ | with_reducible exact cq3 _ _ | with_reducible exact cq4 _ _))
        refine wpQuiet_nil ?_
        rintro _ ⟨⟨dq, osq⟩, rfl⟩
        have hb6 := below_regrown (w.alloc (.cells #[vb, vs] 29)) dq osq
        generalize grow (redrawn (w.alloc (.cells #[vb, vs] 29)) dq) osq = w6 at *
        clear kq0 kq1 cq0 cq1 cq2 cq3 cq4
        go_wp2
        go_ret
        exact ⟨rfl, hba.trans (hb6.mono hba.size)⟩

end Go.Proofs.YtfiapodjiifmaaaGreatDoor
/-
  The chain of texts of a proof: the program's answer.
-/
namespace Go.Proofs.YtfiapodjiifmaaaGreatDoor
open Go.RowKit Go.BigFrame Go.Sort
set_option linter.unusedVariables false
set_option linter.unusedSimpArgs false

def PiR (w0 : World) (B : Nat) (ix : Int) (x : Int) (t0 : ByteArray) (S : List ByteArray) (t u i : Value) (wr : World) : Prop := ∃ m : Nat, m ≤ S.length ∧ i = .int .i64 m ∧ t = .string (chT ix x t0 S m) ∧ ∃ g cap, u = .slice (some ⟨g, 0, none⟩) (m + 1) cap ∧ Hid (OS B w0 wr u (chL ix x t0 S (m + 1)))

set_option maxRecDepth 100000 in
set_option maxHeartbeats 1000000 in
theorem ProofTexts_yes (nm : ByteArray) (vb vs : Value) (gb ob gs os : Nat) (B : List Le) (S : List ByteArray) (x : Int) (w : World) (hnm : nm.size ≤ 1048576) (hb : RS 2 lcs w vb gb ob B) (hsm : SmallL B) (hs : SS w vs gs os S) (hT : Tb w) (hok : pfOk nm B S x = true) :
    Calls Tryz.prog 12 #[.string nm, .agg #[vb, vs], .int .i64 x] w fun e w' => ∃ v, e = .returned v ∧ OS w.heap.size w w' v (chL (idxN nm) x (btB B) S (S.length + 1)) := by
  obtain ⟨p0, p1⟩ := run_rangeP (w := w) (p := 0) (v1 := vb) (v2 := vs) 29
  have hba : Below w.heap.size w (w.alloc (.cells #[vb, vs] 29)) := (Below.refl _ _).alloc (Nat.le_refl _) _
  have HBS : Hid (∀ W, Below w.heap.size w W → RS 2 lcs W vb gb ob B ∧ SS W vs gs os S ∧ Tb W) := fun W hW => ⟨hb.later hW, hs.below hW hs.lt, hT.later hW⟩
  have h8 : S.length ≤ 8 := by
    unfold pfOk at hok
    simp only [Bool.and_eq_true, decide_eq_true_eq] at hok
    exact hok.1.1.2
  have hlv : LV.leavesB B = true := by
    unfold pfOk at hok
    simp only [Bool.and_eq_true, decide_eq_true_eq] at hok
    exact hok.1.1.1.2
  have HPP : Hid (∀ W, Below (w.alloc (.cells #[vb, vs] 29)).heap.size (w.alloc (.cells #[vb, vs] 29)) W → W.cell? ⟨w.heap.size, 0, none⟩ = some vb ∧ W.cell? ⟨w.heap.size, 1, none⟩ = some vs ∧ Below w.heap.size w W ∧ w.heap.size + 1 ≤ W.heap.size) := fun W hW => ⟨cell_later p0 hW, cell_later p1 hW, hba.trans (hW.mono hba.size), by have := hW.size; simpa using this⟩
  have hpo := ProofOk_any nm vb vs gb ob gs os B S x _ hnm (HBS.out _ hba).1 hsm (HBS.out _ hba).2.1 (HBS.out _ hba).2.2
  rw [hok] at hpo
  have HBT : Hid (∀ W, Below w.heap.size w W → Calls Tryz.prog 35 #[vb] W fun e w' => e = .returned (.tuple #[.string (btB B), .bool true]) ∧ Below W.heap.size W w') := fun W hW => by
    have h := BucketText_any vb gb ob B W (HBS.out W hW).1 hsm
    rw [hlv, btA_yes hlv] at h
    exact h
  have HIX : Hid (∀ W, Below w.heap.size w W → Calls Tryz.prog 24 #[.string nm] W fun e w' => e = .returned (.int .i64 (idxN nm : Int)) ∧ Below W.heap.size W w') := fun W hW => IndexOf_any nm W hnm (HBS.out W hW).2.2.1 (HBS.out W hW).2.2.2
  have ht0 := btB_size B
  have HBI : Hid (∀ m, m ≤ 7 → bitI (idxN nm : Int) (7 - m) = 0 ∨ bitI (idxN nm : Int) (7 - m) = 1) := fun m hm => bit_01 _ m hm (idx_255 nm)
  obtain ⟨nS, hnS⟩ : ∃ nS, S.length = nS := ⟨_, rfl⟩
  have HNS : Hid (S.length = nS) := hnS
  obtain ⟨aS, cS, rfl, _, hAs, _⟩ := hs
  have HAS : Hid (0 < nS → aS = some ⟨gs, os, none⟩) := by rw [← hnS]; exact hAs
  rw [hnS] at h8 hpo HBS HPP p0 p1 hba ⊢
  clear hb hok hsm hlv hAs hnS hT
  generalize btB B = t0 at *
  obtain ⟨ix, hix⟩ : ∃ ix : Int, (idxN nm : Int) = ix := ⟨_, rfl⟩
  rw [hix] at HIX HBI ⊢
  clear hix
  go_enter Tryz.func12, Tryz.ntmps12
  go_wp2_with fail
  refine hpo.mono ?_
  rintro e w1 ⟨rfl, hb1⟩
  clear hpo
  obtain ⟨k0, k1, b1, _⟩ := HPP.out _ hb1
  go_wp2_with fail
  refine (HBT.out _ b1).mono ?_
  rintro e w2 ⟨rfl, hb2⟩
  have hb12 := hb1.trans (hb2.mono hb1.size)
  obtain ⟨j0, j1, b2, _⟩ := HPP.out _ hb12
  have ho0 := OS.lit w2 t0
  have b2a : Below w.heap.size w (w2.alloc (.cells #[.string t0] 9)) := b2.alloc b2.size _
  have hb2a : Below w2.heap.size w2 (w2.alloc (.cells #[.string t0] 9)) := (Below.refl _ _).alloc (Nat.le_refl _) _
  clear hb1 hb2 HBT k0 k1
  go_wp2_with fail
  refine (HIX.out _ b2a).mono ?_
  rintro e w3 ⟨rfl, hb3⟩
  have hb23 := hb2a.trans (hb3.mono hb2a.size)
  have hb13 := hb12.trans (hb23.mono hb12.size)
  obtain ⟨l0, l1, b3, _⟩ := HPP.out _ hb13
  have HST : Hid (PiR w2 w2.heap.size ix x t0 S (.string t0) (.slice (some ⟨w2.heap.size, 0, none⟩) 1 1) (.int .i64 0) w3) := ⟨0, by omega, rfl, rfl, _, _, rfl, ho0.later hb3⟩
  have HKK : Hid (∀ W, Below w2.heap.size w2 W → W.cell? ⟨w.heap.size, 0, none⟩ = some vb ∧ W.cell? ⟨w.heap.size, 1, none⟩ = some (.slice aS nS cS)) := fun W hW => ⟨cell_later j0 hW, cell_later j1 hW⟩
  have HB2 : Hid (Below w.heap.size w w2) := b2
  clear hb12 hb3 hb13 j0 j1 HPP p0 p1 b2 hba b1 b2a ho0 HIX hb23 hb2a b3
  go_wp2
  go_loopw [7, 9, 34] (fun t u i wr => PiR w2 w2.heap.size ix x t0 S t u i wr) (fun _ _ i _ => nS - (intOf i).toNat)
  case atStart => exact HST.out
  case round =>
    obtain ⟨m, hm, rfl, rfl, g, cap, rfl, HI⟩ := hrel
    clear HST
    rw [HNS.out] at hm
    have HBW : Hid (Below w2.heap.size w2 wr) := HI.out.2.1
    by_cases hlt : m < nS
    · have ea := HAS.out (by omega)
      subst ea
      have hmS : m < S.length := by rw [HNS.out]; exact hlt
      have c0 : wr.cell? ⟨gs, os + m, none⟩ = some (.string (S.getD m ⟨#[]⟩)) := by
        obtain ⟨_, _, _, _, _, h6⟩ := (HBS.out wr (HB2.out.trans (HBW.out.mono HB2.out.size))).2.1
        have := h6 m hmS
        rw [show S[m] = S.getD m ⟨#[]⟩ by simp [List.getElem?_eq_getElem hmS]] at this
        exact this
      have hTr : Tb wr := (HBS.out wr (HB2.out.trans (HBW.out.mono HB2.out.size))).2.2
      have hTs := chT_size ix x t0 S ht0 m
      have hZ : chT ix x t0 S (m + 1) = tagB 3 (if bitI ix (7 - m) = 1 then [S.getD m ⟨#[]⟩, cutH (chT ix x t0 S m) x] else [cutH (chT ix x t0 S m) x, S.getD m ⟨#[]⟩]) := rfl
      have hL := chL_succ ix x t0 S (m + 1)
      have hLl := chL_len ix x t0 S (m + 1)
      have HNX0 : Hid (∀ g6 cap6 w6, OS w2.heap.size w2 w6 (.slice (some ⟨g6, 0, none⟩) (m + 1 + 1) cap6) (chL ix x t0 S (m + 1) ++ [chT ix x t0 S (m + 1)]) → PiR w2 w2.heap.size ix x t0 S (.string (chT ix x t0 S (m + 1))) (.slice (some ⟨g6, 0, none⟩) (m + 1 + 1) cap6) (.int .i64 ((m : Int) + 1)) w6) := fun g6 cap6 w6 h => ⟨m + 1, by omega, by congr 1, rfl, g6, cap6, rfl, by rw [hL]; exact h⟩
      rw [hZ] at HNX0
      clear hZ hL
      generalize chT ix x t0 S m = T at *
      generalize S.getD m ⟨#[]⟩ = Y at *
      generalize chL ix x t0 S (m + 1) = L at *
      have HNX1 : Hid _ := HNX0.out
      clear HNX0
      have i1 : (m : Int) < (nS : Int) := by omega
      have i2 : (0 : Int) ≤ (m : Int) := by omega
      have i4 : ((7 : Int) - (m : Int)).toNat = 7 - m := by omega
      have HBO : Hid (∀ W, Calls Tryz.prog 38 #[.int .i64 ix, .int .i64 ((7 : Int) - (m : Int))] W fun e w' => e = .returned (.int .i64 (bitI ix (7 - m))) ∧ w' = W) := fun W => by
        have h := BitOf_at ix ((7 : Int) - (m : Int)) W ⟨by omega, by omega⟩
        rw [i4] at h
        exact h
      have hb01 := HBI.out m (by omega)
      have hcd := CutDigest_any T x wr (by omega) hTr.1 hTr.2
      generalize cutH T x = D at *
      clear HAS i4 hTr HBI
      go_wp2_with fail
      refine hcd.mono ?_
      rintro e w4 ⟨rfl, hb4⟩
      have HO4 : Hid (OS w2.heap.size w2 w4 (.slice (some ⟨g, 0, none⟩) (m + 1) cap) L) := HI.out.later hb4
      clear hcd c0 HI hb4 HBW
      have HT1 : Hid (∀ W, Calls Tryz.prog 39 #[.int .i64 3, .slice (some ⟨W.heap.size, 0, none⟩) 2 2] (W.alloc (.cells #[.string D, .string Y] 9)) fun e w' => e = .returned (.tuple #[.string (tagB 3 [D, Y]), .bool (tagOk 3 [D, Y])]) ∧ Below W.heap.size W w') := fun W => (tagged_any 3 _ W.heap.size 0 [D, Y] _ (ss_lits W [D, Y] _ 2 rfl (by omega) rfl)).mono fun e w' ⟨he, hb⟩ => ⟨he, ((Below.refl _ _).alloc (Nat.le_refl _) _).trans (hb.mono (by simp))⟩
      have HT2 : Hid (∀ W, Calls Tryz.prog 39 #[.int .i64 3, .slice (some ⟨W.heap.size, 0, none⟩) 2 2] (W.alloc (.cells #[.string Y, .string D] 9)) fun e w' => e = .returned (.tuple #[.string (tagB 3 [Y, D]), .bool (tagOk 3 [Y, D])]) ∧ Below W.heap.size W w') := fun W => (tagged_any 3 _ W.heap.size 0 [Y, D] _ (ss_lits W [Y, D] _ 2 rfl (by omega) rfl)).mono fun e w' ⟨he, hb⟩ => ⟨he, ((Below.refl _ _).alloc (Nat.le_refl _) _).trans (hb.mono (by simp))⟩
      generalize tagOk 3 [D, Y] = R1 at *
      generalize tagOk 3 [Y, D] = R2 at *
      generalize bitI ix (7 - m) = b at *
      go_wp2_with fail
      refine (HBO.out _).mono ?_
      rintro e w4' ⟨rfl, rfl⟩
      clear HBO
      by_cases hb : b = 1
      · rw [if_pos hb] at HNX1
        subst hb
        clear hb01 HT1
        generalize tagB 3 [Y, D] = Z at *
        go_wp2_with fail
        refine (inOrder_1 _ _ _ _ (by decide)).mono ?_
        rintro e w4'' ⟨rfl, rfl⟩
        go_wp2_with fail
        refine (HT2.out _).mono ?_
        rintro e w5 ⟨rfl, hb5⟩
        have HO5 : Hid (OS w2.heap.size w2 (w5.alloc (.cells #[.string Z] 9)) (.slice (some ⟨g, 0, none⟩) (m + 1) cap) L) := (HO4.out.later hb5).alloc _
        have HCT : Hid ((w5.alloc (.cells #[.string Z] 9)).cell? ⟨w5.heap.size, 0, none⟩ = some (.string Z)) := by
          show (w5.alloc (.cells #[.string Z] 9)).cell? ⟨w5.heap.size, 0, none⟩ = some (.string Z)
          rw [World.cell?_alloc_at _ _ _ _ rfl]
          rfl
        clear HT2 HO4 hb5
        go_wp2_with (at_builtin; refine wp_txtL rfl _ _ rfl w2.heap.size w2 _ L Z rfl HO5.out _ rfl HCT.out (by omega) ?_)
        intro g6 cap6 w6 ho6 hg6 hl6
        have HK : Hid (PiR w2 w2.heap.size ix x t0 S (.string Z) (.slice (some ⟨g6, 0, none⟩) (m + 1 + 1) cap6) (.int .i64 ((m : Int) + 1)) w6) := HNX1.out _ _ _ ho6
        clear ho6 hg6 hl6 HO5 HCT HNX1
        go_wp2
        go_roundw
        case rel => exact HK.out
        case measure => simp [intOf]; omega
      · rw [if_neg hb] at HNX1
        obtain rfl : b = 0 := by omega
        clear hb01 HT2 hb
        generalize tagB 3 [D, Y] = Z at *
        go_wp2_with fail
        refine (inOrder_0 _ _ _).mono ?_
        rintro e w4'' ⟨rfl, rfl⟩
        go_wp2_with fail
        refine (HT1.out _).mono ?_
        rintro e w5 ⟨rfl, hb5⟩
        have HO5 : Hid (OS w2.heap.size w2 (w5.alloc (.cells #[.string Z] 9)) (.slice (some ⟨g, 0, none⟩) (m + 1) cap) L) := (HO4.out.later hb5).alloc _
        have HCT : Hid ((w5.alloc (.cells #[.string Z] 9)).cell? ⟨w5.heap.size, 0, none⟩ = some (.string Z)) := by
          show (w5.alloc (.cells #[.string Z] 9)).cell? ⟨w5.heap.size, 0, none⟩ = some (.string Z)
          rw [World.cell?_alloc_at _ _ _ _ rfl]
          rfl
        clear HT1 HO4 hb5
        go_wp2_with (at_builtin; refine wp_txtL rfl _ _ rfl w2.heap.size w2 _ L Z rfl HO5.out _ rfl HCT.out (by omega) ?_)
        intro g6 cap6 w6 ho6 hg6 hl6
        have HK : Hid (PiR w2 w2.heap.size ix x t0 S (.string Z) (.slice (some ⟨g6, 0, none⟩) (m + 1 + 1) cap6) (.int .i64 ((m : Int) + 1)) w6) := HNX1.out _ _ _ ho6
        clear ho6 hg6 hl6 HO5 HCT HNX1
        go_wp2
        go_roundw
        case rel => exact HK.out
        case measure => simp [intOf]; omega
    · have hme : m = nS := by omega
      subst hme
      have HF : Hid (∃ v, Ending.returned (.slice (some ⟨g, 0, none⟩) (m + 1) cap) = .returned v ∧ OS w.heap.size w wr v (chL ix x t0 S (m + 1))) := ⟨_, rfl, OS.upT HB2.out HB2.out.size HI.out⟩
      clear HI HBW HKK HBS HAS
      go_wp2
      go_ret
      exact HF.out

set_option maxRecDepth 100000 in
theorem ProofTexts_no (nm : ByteArray) (vb vs : Value) (gb ob gs os : Nat) (B : List Le) (S : List ByteArray) (x : Int) (w : World) (hnm : nm.size ≤ 1048576) (hb : RS 2 lcs w vb gb ob B) (hsm : SmallL B) (hs : SS w vs gs os S) (hT : Tb w) (hok : pfOk nm B S x = false) :
    Calls Tryz.prog 12 #[.string nm, .agg #[vb, vs], .int .i64 x] w fun e w' => ∃ v, e = .returned v ∧ OS w.heap.size w w' v [] := by
  obtain ⟨p0, p1⟩ := run_rangeP (w := w) (p := 0) (v1 := vb) (v2 := vs) 29
  have hba : Below w.heap.size w (w.alloc (.cells #[vb, vs] 29)) := (Below.refl _ _).alloc (Nat.le_refl _) _
  have hpo := ProofOk_any nm vb vs gb ob gs os B S x _ hnm (hb.later hba) hsm (hs.below hba hs.lt) (hT.later hba)
  rw [hok] at hpo
  clear hb hs hok hsm hT
  go_enter Tryz.func12, Tryz.ntmps12
  go_wp2_with fail
  refine hpo.mono ?_
  rintro e w1 ⟨rfl, hb1⟩
  have b1 : Below w.heap.size w w1 := hba.trans (hb1.mono hba.size)
  have HF : Hid (∃ v, Ending.returned (.slice (some ⟨w1.heap.size, 0, none⟩) 0 0) = .returned v ∧ OS w.heap.size w (w1.alloc (.cells #[] 9)) v []) := ⟨_, rfl, OS.upT b1 b1.size (OS.made w1)⟩
  clear hpo p0 p1 hba hb1 b1
  go_wp2
  go_ret
  exact HF.out

theorem ProofTexts_any (nm : ByteArray) (vb vs : Value) (gb ob gs os : Nat) (B : List Le) (S : List ByteArray) (x : Int) (w : World) (hnm : nm.size ≤ 1048576) (hb : RS 2 lcs w vb gb ob B) (hsm : SmallL B) (hs : SS w vs gs os S) (hT : Tb w) :
    Calls Tryz.prog 12 #[.string nm, .agg #[vb, vs], .int .i64 x] w fun e w' => ∃ v, e = .returned v ∧ OS w.heap.size w w' v (ptA nm B S x) := by
  unfold ptA
  cases h : pfOk nm B S x with
  | false => exact ProofTexts_no nm vb vs gb ob gs os B S x w hnm hb hsm hs hT h
  | true => exact ProofTexts_yes nm vb vs gb ob gs os B S x w hnm hb hsm hs hT h

end Go.Proofs.YtfiapodjiifmaaaGreatDoor
