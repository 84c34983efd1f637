/-
  Texts laid together: Pq, Cpl, Bk, Pb.
-/
import Derived.Test.YtfojmagcoipbnaaGreatDoorQ25
import Derived.Test.YtfojmagcoipbnaaGreatDoorQ10
import Derived.Test.YtfojmagcoipbnaaGreatDoorQ03
import Derived.Deep.RegionHeld3
import Derived.Test.YtfojmagcoipbnaaGreatDoorQ19
import Derived.Test.YtfojmagcoipbnaaGreatDoorQ09
import Derived.Test.YtfojmagcoipbnaaGreatDoorQ22
import Derived.Test.YtfojmagcoipbnaaGreatDoorQ20
import Derived.Test.YtfojmagcoipbnaaGreatDoorQ08
import Derived.Lib.QuietBelow
/-
  Plain facts of roots that differ: where two lists of leaves differ at a name, the texts of its bucket do; with one root the two proofs clash.
-/
namespace Go.Proofs.YtfojmagcoipbnaaGreatDoor
open Go.RowKit
set_option linter.unusedVariables false
set_option linter.unusedSimpArgs false

theorem btB_inj {L M : List Le} (hL : LV.LOk L) (hM : LV.LOk M) (h0 : 0 < L.length) (h1 : 0 < M.length) (h : btB L = btB M) : L = M := by
  rw [btB_some h0, btB_some h1] at h
  unfold tagB at h
  rw [if_pos (bkp_ok hL), if_pos (bkp_ok hM)] at h
  have sz : ∀ {K : List Le}, LV.LOk K → ∀ y ∈ TR.bkp K, y.size ≤ 1000000000 := fun hK y hy => by
    obtain ⟨f, hf, hfy⟩ := bkp_mem hy
    have := leB_size (hK.2.1 f hf)
    rcases hfy with rfl | rfl <;> omega
  exact TR.bkp_inj (TR.tag_inj (k := 2) (k' := 2) (by omega) (by omega) (sz hL) (sz hM) h).2
theorem srt_one {L : List Le} (h : LV.Srt L) {f g : Le} (hf : f ∈ L) (hg : g ∈ L) (he : f.n = g.n) : f = g := by
  obtain ⟨i, hi, rfl⟩ := List.getElem_of_mem hf
  obtain ⟨j, hj, rfl⟩ := List.getElem_of_mem hg
  rcases Nat.lt_trichotomy i j with hij | hij | hij
  · exact absurd he (F.ltN_ne (LV.LOk.srt_at h i j hi hj hij))
  · subst hij
    rfl
  · exact absurd he.symm (F.ltN_ne (LV.LOk.srt_at h j i hj hi hij))
theorem bk_in {L : List Le} {f : Le} (hf : f ∈ L) : f ∈ bkL L (idxN f.n : Int) := by
  unfold bkL
  rw [List.mem_filter]
  exact ⟨hf, by unfold bkP; simp⟩
theorem bk_sub {L : List Le} {f : Le} {i : Int} (hf : f ∈ bkL L i) : f ∈ L ∧ (idxN f.n : Int) = i := by
  unfold bkL at hf
  rw [List.mem_filter] at hf
  exact ⟨hf.1, by simpa [bkP] using hf.2⟩
theorem ok_bk {L : List Le} (h : LV.LOk L) (i : Int) : LV.LOk (bkL L i) := ⟨Nat.le_trans (List.length_filter_le _ _) h.1, fun f hf => h.2.1 f (bk_sub hf).1, List.Pairwise.filter _ h.2.2⟩
theorem sd_size {L : List Le} {x : Int} (h : 1 ≤ x ∧ x ≤ 32) (hL : LV.LOk L) (ix : Nat) : ∀ n, ∀ s ∈ sdL x ix L n, s.size = x.toNat
  | 0, s, hs => by
    have := sdL_len x ix L 0
    rw [List.length_eq_zero_iff.1 this] at hs
    simp at hs
  | n + 1, s, hs => by
    rw [sdL_up] at hs
    rcases List.mem_append.1 hs with h1 | h1
    · exact sd_size h hL ix n s h1
    · simp at h1
      subst h1
      exact trB_size h hL n _
/-- the proof of a name is a proof -/
theorem pf_right {L : List Le} {x : Int} {nm : ByteArray} (hn : okB nameB nm = true) (h : 1 ≤ x ∧ x ≤ 32) (hL : LV.LOk L) : pfOk nm (bkL L (idxN nm)) (sdL x (idxN nm) L 8) x = true := by
  rw [pfOk_yes hn (LV.leavesB_iff.2 (ok_bk hL _)) (by rw [sdL_len]; omega) ?_]
  · rw [List.all_eq_true]
    intro f hf
    have := (bk_sub hf).2
    rw [decide_eq_true_eq]
    omega
  · rw [wideB_good fun j hj => ?_]
    · simpa using h
    · rw [sd_size h hL _ 8 _ (List.getElem_mem _)]
      omega
theorem idx_255 (t : ByteArray) : idxN t ≤ 255 := by
  have : idxN t < 256 := UInt8.toNat_lt _
  omega
theorem root_chain {L : List Le} {x : Int} (h : 1 ≤ x ∧ x ≤ 32) (hL : LV.LOk L) (ix : Nat) (hx : ix ≤ 255) : fuF x ix 8 (cutH (btB (bkL L ix)) x) (sdL x ix L 8) = trB x 8 0 L := by
  rw [← fold_root x ix hx L]
  congr 1
  show _ = bhB x (TR.und idxL 0 ix L)
  rw [bhB_yes (leaves_und hL 0 ix), bkL_und]
/-- **one root, another leaf: the two proofs clash** -/
theorem roots_clash {A B : List Le} {nm y z : ByteArray} {x : Int} (hn : okB nameB nm = true) (h : 1 ≤ x ∧ x ≤ 32) (hA : LV.LOk A) (hB : LV.LOk B) (ha : (⟨nm, y⟩ : Le) ∈ A) (hb : (⟨nm, z⟩ : Le) ∈ B) (hne : y ≠ z) (hr : trB x 8 0 A = trB x 8 0 B) :
    clF (chL (idxN nm) x (btB (bkL A (idxN nm))) (sdL x (idxN nm) A 8) 9) (chL (idxN nm) x (btB (bkL B (idxN nm))) (sdL x (idxN nm) B 8) 9) x 9 = true := by
  refine chains_clash (idx_255 nm) h (sdL_len _ _ _ _) (sdL_len _ _ _ _) (fun s hs => by rw [sd_size h hA _ 8 s hs]; omega) (fun s hs => by rw [sd_size h hB _ 8 s hs]; omega) (fun he => ?_) ?_
  · have ia := bk_in ha
    have ib := bk_in hb
    have e := btB_inj (ok_bk hA _) (ok_bk hB _) (List.length_pos_of_mem ia) (List.length_pos_of_mem ib) he
    rw [show bkL A ((idxN (⟨nm, y⟩ : Le).n : Nat) : Int) = bkL A (idxN nm) from rfl, e] at ia
    have := srt_one (ok_bk hB _).2.2 ia ib rfl
    simp at this
    exact hne this
  · rw [root_chain h hA _ (idx_255 nm), root_chain h hB _ (idx_255 nm), hr]

end Go.Proofs.YtfojmagcoipbnaaGreatDoor
/-
  A leaf copied: the program's answer.
-/
namespace Go.Proofs.YtfojmagcoipbnaaGreatDoor
open Go.RowKit Go.BigFrame Go.Sort
set_option linter.unusedVariables false
set_option linter.unusedSimpArgs false

set_option maxRecDepth 100000 in
set_option maxHeartbeats 1000000 in
theorem copiedL_any (f : Le) (w : World) (hn : f.n.size ≤ 1048576) (hv : f.v.size ≤ 1048576) : Calls Tryz.prog 181 #[.agg #[.string f.n, .string f.v]] w fun e w' => e = .returned (.agg #[.string f.n, .string f.v]) ∧ Below w.heap.size w w' := by
  obtain ⟨x, t⟩ := f
  simp only at hn hv ⊢
  have hb0 : Below w.heap.size w ((w.alloc (.cells #[.string x, .string t] 121)).alloc (.cells #[.string ⟨#[]⟩, .string ⟨#[]⟩] 121)) := ((Below.refl _ _).alloc (Nat.le_refl _) _).alloc (by simp) _
  have hG1 : BL ((w.alloc (.cells #[.string x, .string t] 121)).alloc (.cells #[.string ⟨#[]⟩, .string ⟨#[]⟩] 121)) w.heap.size x t := alloc_snd _ _ _ rfl
  have hG2 : BL ((w.alloc (.cells #[.string x, .string t] 121)).alloc (.cells #[.string ⟨#[]⟩, .string ⟨#[]⟩] 121)) (w.heap.size + 1) ⟨#[]⟩ ⟨#[]⟩ := alloc_fst _ _ (by simp)
  have hs0 : ((w.alloc (.cells #[.string x, .string t] 121)).alloc (.cells #[.string ⟨#[]⟩, .string ⟨#[]⟩] 121)).heap.size = w.heap.size + 2 := by simp
  have HK : Hid (∀ W, Below ((w.alloc (.cells #[.string x, .string t] 121)).alloc (.cells #[.string ⟨#[]⟩, .string ⟨#[]⟩] 121)).heap.size ((w.alloc (.cells #[.string x, .string t] 121)).alloc (.cells #[.string ⟨#[]⟩, .string ⟨#[]⟩] 121)) W → W.cell? ⟨w.heap.size, 0, none⟩ = some (.string x) ∧ W.cell? ⟨w.heap.size, 1, none⟩ = some (.string t)) := fun W hW => ⟨(hG1.later hW).c0, (hG1.later hW).c1⟩
  have HK2 : Hid (∀ W, Below ((w.alloc (.cells #[.string x, .string t] 121)).alloc (.cells #[.string ⟨#[]⟩, .string ⟨#[]⟩] 121)).heap.size ((w.alloc (.cells #[.string x, .string t] 121)).alloc (.cells #[.string ⟨#[]⟩, .string ⟨#[]⟩] 121)) W → BL W (w.heap.size + 1) ⟨#[]⟩ ⟨#[]⟩) := fun W hW => hG2.later hW
  have HB0 : Hid (Below w.heap.size w ((w.alloc (.cells #[.string x, .string t] 121)).alloc (.cells #[.string ⟨#[]⟩, .string ⟨#[]⟩] 121)) ∧ w.heap.size ≤ ((w.alloc (.cells #[.string x, .string t] 121)).alloc (.cells #[.string ⟨#[]⟩, .string ⟨#[]⟩] 121)).heap.size) := ⟨hb0, by rw [hs0]; omega⟩
  have hb : Below ((w.alloc (.cells #[.string x, .string t] 121)).alloc (.cells #[.string ⟨#[]⟩, .string ⟨#[]⟩] 121)).heap.size ((w.alloc (.cells #[.string x, .string t] 121)).alloc (.cells #[.string ⟨#[]⟩, .string ⟨#[]⟩] 121)) ((w.alloc (.cells #[.string x, .string t] 121)).alloc (.cells #[.string ⟨#[]⟩, .string ⟨#[]⟩] 121)).drew := (Below.refl _ _).drew
  clear hb0 hG1 hG2 hs0
  go_enter Tryz.func181, Tryz.ntmps181
  go_wp2
  go_region_held3 (fun W => W.cell? ⟨w.heap.size, 0, none⟩ = some (.string x) ∧ W.cell? ⟨w.heap.size, 1, none⟩ = some (.string t)) (first | go_keep | exact HK.out _ hb) ((go_at_call 184; refine (Clone_any _ _ (by first | exact hn | exact hv)).mono ?_; rintro e w1 ⟨rfl, hb1'⟩; have hb := hb.trans (hb1'.mono hb.size); have t0 := (HK2.out _ hb).c0; have t1 := (HK2.out _ hb).c1; have g0 := (HK2.out _ hb).f0; have g1 := (HK2.out _ hb).f1))
  have HF : Hid ((w1.setCells (w.heap.size + 1) 0 [.string x, .string t]).rangeAt (w.heap.size + 1) 0 [.string x, .string t] ∧ Below w.heap.size w (w1.setCells (w.heap.size + 1) 0 [.string x, .string t])) :=
    ⟨(HK2.out _ hb).put x t, below_setCells (by omega) _ _ _ (HB0.out.1.trans (hb.mono HB0.out.2))⟩
  go_wp2
  exact ret_rec 2 (w.heap.size + 1) 121 [.string x, .string t] _ rfl rfl rfl Tryz.underlying121 rfl sizeLeaf HF.out.1 ⟨rfl, HF.out.2⟩

end Go.Proofs.YtfojmagcoipbnaaGreatDoor
/-
  The leaves whose names have an index: the program's answer.
-/
namespace Go.Proofs.YtfojmagcoipbnaaGreatDoor
open Go.RowKit Go.BigFrame Go.Sort
set_option linter.unusedVariables false
set_option linter.unusedSimpArgs false

set_option maxRecDepth 100000 in
set_option maxHeartbeats 1000000 in
theorem BucketOf_any (v : Value) (ga oa : Nat) (L : List Le) (i : Int) (w : World) (hv : RS 2 lcs w v ga oa L) (hsm : SmallL L) (hK : TabK w) (hF : TabF w) :
    Calls Tryz.prog 78 #[v, .int .i64 i] w fun e w' => ∃ u, e = .returned u ∧ OL w.heap.size w w' u (bkL L i) := by
  have HV : Hid (RS 2 lcs w v ga oa L ∧ SmallL L ∧ TabK w ∧ TabF w) := ⟨hv, hsm, hK, hF⟩
  obtain ⟨a, cap, rfl, hl, hA, _⟩ := hv
  obtain ⟨n, hn⟩ : ∃ n, L.length = n := ⟨_, rfl⟩
  have HA : Hid (0 < n → a = some ⟨ga, oa, none⟩) := by rw [← hn]; exact fun h => (hA h).1
  rw [hn] at hl HV ⊢
  clear hA hsm hK hF
  have HST : Hid (BkR w L i (.slice (some ⟨w.heap.size, 0, none⟩) 0 0) (.int .i64 0) (w.alloc (.cells #[] 121))) := ⟨0, by omega, rfl, OL.made _ w w (Below.refl _ _) (Nat.le_refl _)⟩
  go_enter Tryz.func78, Tryz.ntmps78
  go_wp2
  go_loopw [5, 11] (fun u j wr => BkR w L i u j wr) (fun _ j _ => n - (intOf j).toNat)
  case atStart => exact HST.out
  case round =>
    obtain ⟨m, hm, rfl, HI⟩ := hrel
    clear HST
    rw [hn] at hm
    obtain ⟨au, cu, rfl⟩ := HI.out.shape
    by_cases hlt : m < n
    · have ea := HA.out (by omega)
      subst ea
      obtain ⟨c0, c1⟩ := (HV.out.1.later HI.out.2.1).leaf m (by omega)
      obtain ⟨X, hX⟩ : ∃ X, L[m]'(by omega) = X := ⟨_, rfl⟩
      rw [hX] at c0 c1
      have hxs := HV.out.2.1 X (by rw [← hX]; exact List.getElem_mem _)
      have hst := bk_step (L := L) (m := m) i (by omega)
      rw [hX] at hst
      have hle : ((L.take m).filter (bkP i)).length ≤ L.length := LV.filt_len L m _
      have i1 : (m : Int) < (n : Int) := by omega
      have i2 : (0 : Int) ≤ (m : Int) := by omega
      have hba : Below wr.heap.size wr (wr.alloc (.cells #[.string X.n, .string X.v] 121)) := (Below.refl _ _).alloc (Nat.le_refl _) _
      have hwa : Below w.heap.size w (wr.alloc (.cells #[.string X.n, .string X.v] 121)) := HI.out.2.1.trans (hba.mono HI.out.2.2)
      have hix := IndexOf_any X.n _ hxs.1 (HV.out.2.2.1.later hwa HV.out.2.2.1.pos) (HV.out.2.2.2.later hwa HV.out.2.2.2.pos)
      change Calls Tryz.prog 77 _ _ (fun e w' => e = .returned (.int .i64 (idxN X.n : Int)) ∧ Below _ _ w') at hix
      obtain ⟨N, hN⟩ : ∃ N, idxN X.n = N := ⟨_, rfl⟩
      rw [hN] at hix
      have HBK : Hid (bkP i X = decide ((N : Int) = i)) := by rw [← hN]; rfl
      have HO1 : Hid (OL w.heap.size w (wr.alloc (.cells #[.string X.n, .string X.v] 121)) (.slice au ((L.take m).filter (bkP i)).length cu) ((L.take m).filter (bkP i))) := HI.out.later hba
      clear HV HA hX hN hba hwa HI
      generalize hl0 : (L.take m).filter (bkP i) = l at *
      clear hl0
      go_wp2_with fail
      refine hix.mono ?_
      rintro e w1 ⟨rfl, hb1⟩
      have HO2 : Hid (OL w.heap.size w w1 (.slice au l.length cu) l) := HO1.out.later hb1
      have hbx : BL w1 wr.heap.size X.n X.v := (BL.new wr X.n X.v).later hb1
      have x0 := hbx.c0
      have x1 := hbx.c1
      clear hix hb1 HO1 hbx
      by_cases hk : (N : Int) = i
      · rw [HBK.out, decide_eq_true hk] at hst
        have HJ : Hid ((L.take (m + 1)).filter (bkP i) = l ++ [X]) := hst
        have hk2 : ((N : Int) == i) = true := by simpa using hk
        clear hst HBK
        go_wp2_with fail
        refine (copiedL_any X _ hxs.1 hxs.2).mono ?_
        rintro e w2 ⟨rfl, hb2⟩
        have hbc : Below w1.heap.size w1 (w2.alloc (.cells #[.string X.n, .string X.v] 121)) := hb2.alloc hb2.size _
        have hoa := HO2.out.later hbc
        have HRN : Hid ((w2.alloc (.cells #[.string X.n, .string X.v] 121)).rangeAt w2.heap.size 0 (lcs X)) := range_new _ [.string X.n, .string X.v] 121
        clear hbc hb2 HO2 x0 x1 c0 c1
        go_wp2_with (at_builtin; refine wp_leafL rfl _ _ rfl w.heap.size w (.slice au l.length cu) l X rfl hoa _ rfl HRN.out (by omega) ?_)
        intro g5 cap5 w5 ho5 hg5 hl5
        have HK : Hid (OL w.heap.size w w5 (.slice (some ⟨g5, 0, none⟩) (l.length + 1) cap5) ((L.take (m + 1)).filter (bkP i))) := by rw [HJ.out]; exact ho5
        clear ho5 hg5 hl5 hoa HRN HJ
        go_wp2
        go_roundw
        case rel => exact ⟨m + 1, by omega, by go_num, HK⟩
        case measure => simp [intOf]; omega
      · rw [HBK.out, decide_eq_false hk] at hst
        have HJ : Hid (OL w.heap.size w w1 (.slice au l.length cu) ((L.take (m + 1)).filter (bkP i))) := by rw [hst]; exact HO2.out
        have hk2 : ((N : Int) == i) = false := by simpa using hk
        clear hst HBK HO2
        go_wp2
        go_roundw
        case rel => exact ⟨m + 1, by omega, by go_num, HJ⟩
        case measure => simp [intOf]; omega
    · have hme : m = n := by omega
      have e : (L.take m).filter (bkP i) = bkL L i := by rw [List.take_of_length_le (by omega)]; rfl
      have HF : Hid (∃ u, Ending.returned (.slice au ((L.take m).filter (bkP i)).length cu) = .returned u ∧ OL w.heap.size w wr u (bkL L i)) := ⟨_, rfl, by rw [← e]; exact HI.out⟩
      generalize (L.take m).filter (bkP i) = l at *
      subst hme
      clear HI HA HV e
      go_wp2
      go_ret
      exact HF.out

end Go.Proofs.YtfojmagcoipbnaaGreatDoor
/-
  Proofs: whether a bucket is of one index, and when they are right: the program's answers.
-/
namespace Go.Proofs.YtfojmagcoipbnaaGreatDoor
open Go.RowKit Go.BigFrame Go.Sort
set_option linter.unusedVariables false
set_option linter.unusedSimpArgs false

def allI (B : List Le) (i : Int) : Bool := B.all (bkP i)
theorem allI_len (B : List Le) (i : Int) : allI B i = decide (((bkL B i).length : Int) = (B.length : Int)) := by
  unfold allI bkL
  cases h : B.all (bkP i) with
  | true =>
    rw [List.filter_eq_self.2 (List.all_eq_true.1 h)]
    simp
  | false =>
    have : (B.filter (bkP i)).length ≠ B.length := fun e => by
      have h2 := List.length_filter_eq_length_iff.1 e
      rw [← List.all_eq_true, h] at h2
      cases h2
    exact (decide_eq_false (by omega)).symm
theorem allI_is (B : List Le) (nm : ByteArray) : allI B (idxN nm) = B.all (fun f => decide (idxN f.n = idxN nm)) := by
  unfold allI
  congr 1
  funext f
  unfold bkP
  by_cases h : idxN f.n = idxN nm
  · rw [decide_eq_true h, decide_eq_true (by omega)]
  · rw [decide_eq_false h, decide_eq_false (by omega)]

set_option maxRecDepth 100000 in
set_option maxHeartbeats 1000000 in
theorem allOfIndex_any (v : Value) (g o : Nat) (B : List Le) (i : Int) (w : World) (hv : RS 2 lcs w v g o B) (hsm : SmallL B) (hT : Tb w) :
    Calls Tryz.prog 93 #[v, .int .i64 i] w fun e w' => e = .returned (.bool (allI B i)) ∧ Below w.heap.size w w' := by
  have hR := allI_len B i
  have h1 := BucketOf_any v g o B i w hv hsm hT.1 hT.2
  generalize allI B i = R at *
  obtain ⟨a, cap, rfl, hl, hz1, hz2⟩ := hv
  clear hz1 hz2 hsm hT
  go_enter Tryz.func93, Tryz.ntmps93
  go_wp2_with fail
  refine h1.mono ?_
  rintro e w1 ⟨u, rfl, ho⟩
  obtain ⟨au, cu, rfl⟩ := ho.shape
  have hb := ho.2.1
  clear h1 ho
  generalize (bkL B i).length = p at *
  generalize B.length = q at *
  go_wp2
  go_ret
  refine ⟨?_, hb⟩
  rw [hR]
  by_cases h : (p : Int) = (q : Int)
  · simp [h]
  · simp [h]

set_option maxRecDepth 100000 in
set_option maxHeartbeats 1000000 in
theorem ProofOk_any (nm : ByteArray) (vb vs : Value) (gb ob gs os : Nat) (B : List Le) (S : List ByteArray) (x : Int) (w : World) (hnm : nm.size ≤ 1048576) (hb : RS 2 lcs w vb gb ob B) (hsm : SmallL B) (hs : SS w vs gs os S) (hT : Tb w) :
    Calls Tryz.prog 20 #[.string nm, .agg #[vb, vs], .int .i64 x] w fun e w' => e = .returned (.bool (pfOk nm B S x)) ∧ Below w.heap.size w w' := by
  obtain ⟨R, hR⟩ : ∃ R, pfOk nm B S x = R := ⟨_, rfl⟩
  have e0 : R = (okB nameB nm && LV.leavesB B && allI B (idxN nm) && sidB S x) := by
    rw [← hR, allI_is]
    unfold pfOk sidB
    cases okB nameB nm <;> cases LV.leavesB B <;> cases decide (S.length ≤ 8) <;> cases wideB S x <;> simp
  rw [hR]
  clear hR
  obtain ⟨p0, p1⟩ := run_rangeP (w := w) (p := 0) (v1 := vb) (v2 := vs) 29
  have hba : Below w.heap.size w (w.alloc (.cells #[vb, vs] 29)) := (Below.refl _ _).alloc (Nat.le_refl _) _
  have HBS : Hid (∀ W, Below w.heap.size w W → RS 2 lcs W vb gb ob B ∧ SS W vs gs os S ∧ Tb W) := fun W hW => ⟨hb.later hW, hs.below hW hs.lt, hT.later hW⟩
  have HPP : Hid (∀ W, Below (w.alloc (.cells #[vb, vs] 29)).heap.size (w.alloc (.cells #[vb, vs] 29)) W → W.cell? ⟨w.heap.size, 0, none⟩ = some vb ∧ W.cell? ⟨w.heap.size, 1, none⟩ = some vs ∧ Below w.heap.size w W) := fun W hW => ⟨cell_later p0 hW, cell_later p1 hW, hba.trans (hW.mono hba.size)⟩
  have hnk := NameOk_any nm (w.alloc (.cells #[vb, vs] 29)) hnm
  have HLO : Hid (∀ W, Below w.heap.size w W → Calls Tryz.prog 73 #[vb] W fun e w' => e = .returned (.bool (LV.leavesB B)) ∧ Below W.heap.size W w') := fun W hW => LeavesOk_any vb gb ob B W (HBS.out W hW).1 hsm
  have HIX : Hid (∀ W, Below w.heap.size w W → Calls Tryz.prog 77 #[.string nm] W fun e w' => e = .returned (.int .i64 (idxN nm : Int)) ∧ Below W.heap.size W w') := fun W hW => IndexOf_any nm W hnm (HBS.out W hW).2.2.1 (HBS.out W hW).2.2.2
  have HAI : Hid (∀ W, Below w.heap.size w W → Calls Tryz.prog 93 #[vb, .int .i64 (idxN nm : Int)] W fun e w' => e = .returned (.bool (allI B (idxN nm))) ∧ Below W.heap.size W w') := fun W hW => allOfIndex_any vb gb ob B _ W (HBS.out W hW).1 hsm (HBS.out W hW).2.2
  have HSD : Hid (∀ W, Below w.heap.size w W → Calls Tryz.prog 82 #[vs, .int .i64 x] W fun e w' => e = .returned (.bool (sidB S x)) ∧ Below W.heap.size W w') := fun W hW => (sidesOk_any vs gs os S x W (HBS.out W hW).2.1).mono fun e w' ⟨he, hw⟩ => ⟨he, by rw [hw]; exact Below.refl _ _⟩
  obtain ⟨ix, hix⟩ : ∃ ix : Int, (idxN nm : Int) = ix := ⟨_, rfl⟩
  rw [hix] at HIX HAI e0
  clear hb hs hsm hT HBS hix
  generalize allI B ix = A2 at *
  generalize LV.leavesB B = A1 at *
  generalize sidB S x = A3 at *
  have hnk2 : ∀ W, Calls Tryz.prog 74 #[.string nm] W fun e w' => e = .returned (.bool (okB nameB nm)) ∧ Below W.heap.size W w' := fun W => (NameOk_any nm W hnm).mono fun e w' ⟨he, hw⟩ => ⟨he, by rw [hw]; exact Below.refl _ _⟩
  have HNK : Hid (∀ W, Calls Tryz.prog 74 #[.string nm] W fun e w' => e = .returned (.bool (okB nameB nm)) ∧ Below W.heap.size W w') := hnk2
  have HUP : Hid (∀ d os, Below w.heap.size w (grow (redrawn (w.alloc (.cells #[vb, vs] 29)) d) os)) := fun d os => hba.trans ((below_regrown _ d os).mono hba.size)
  clear hnk hnk2 HPP
  generalize okB nameB nm = A0 at *
  have kq0 := cell_regrown (w := w.alloc (.cells #[vb, vs] 29)) p0
  have kq1 := cell_regrown (w := w.alloc (.cells #[vb, vs] 29)) p1
  have cq0 := fun d os => Calls.regrown_of (w := w.alloc (.cells #[vb, vs] 29)) (d := d) (os := os) (HNK.out _)
  have cq1 := fun d os => Calls.regrown_of (w := w.alloc (.cells #[vb, vs] 29)) (d := d) (os := os) (HLO.out _ (HUP.out d os))
  have cq2 := fun d os => Calls.regrown_of (w := w.alloc (.cells #[vb, vs] 29)) (d := d) (os := os) (HIX.out _ (HUP.out d os))
  have cq3 := fun d os => Calls.regrown_of (w := w.alloc (.cells #[vb, vs] 29)) (d := d) (os := os) (HAI.out _ (HUP.out d os))
  have cq4 := fun d os => Calls.regrown_of (w := w.alloc (.cells #[vb, vs] 29)) (d := d) (os := os) (HSD.out _ (HUP.out d os))
  clear HNK HLO HIX HAI HSD HUP
  cases A0 with
  | false =>
    obtain rfl : R = false := by rw [e0]; rfl
    clear e0
    go_enter Tryz.func20, Tryz.ntmps20
    go_wp2
    refine wp_region_quiet_below (by kernel_rfl) (by kernel_rfl) ?_
    repeat (go_big_quiet_step (first | with_reducible exact cq0 _ _ | with_reducible exact cq1 _ _ | with_reducible exact cq2 _ _ | with_reducible exact cq3 _ _ | with_reducible exact cq4 _ _))
    refine wpQuiet_nil ?_
    rintro _ ⟨⟨dq, osq⟩, rfl⟩
    have hb6 := below_regrown (w.alloc (.cells #[vb, vs] 29)) dq osq
    generalize grow (redrawn (w.alloc (.cells #[vb, vs] 29)) dq) osq = w6 at *
    clear kq0 kq1 cq0 cq1 cq2 cq3 cq4
    go_wp2
    go_ret
    exact ⟨rfl, hba.trans (hb6.mono hba.size)⟩
  | true =>
    cases A1 with
    | false =>
      obtain rfl : R = false := by rw [e0]; rfl
      clear e0
      go_enter Tryz.func20, Tryz.ntmps20
      go_wp2
      refine wp_region_quiet_below (by kernel_rfl) (by kernel_rfl) ?_
      repeat (go_big_quiet_step (first | with_reducible exact cq0 _ _ | with_reducible exact cq1 _ _ | with_reducible exact cq2 _ _ | with_reducible exact cq3 _ _ | with_reducible exact cq4 _ _))
      refine wpQuiet_nil ?_
      rintro _ ⟨⟨dq, osq⟩, rfl⟩
      have hb6 := below_regrown (w.alloc (.cells #[vb, vs] 29)) dq osq
      generalize grow (redrawn (w.alloc (.cells #[vb, vs] 29)) dq) osq = w6 at *
      clear kq0 kq1 cq0 cq1 cq2 cq3 cq4
      go_wp2
      go_ret
      exact ⟨rfl, hba.trans (hb6.mono hba.size)⟩
    | true =>
      cases A2 with
      | false =>
        obtain rfl : R = false := by rw [e0]; rfl
        clear e0
        go_enter Tryz.func20, Tryz.ntmps20
        go_wp2
        refine wp_region_quiet_below (by kernel_rfl) (by kernel_rfl) ?_
        repeat (go_big_quiet_step (first | with_reducible exact cq0 _ _ | with_reducible exact cq1 _ _ | with_reducible exact cq2 _ _ | with_reducible exact cq3 _ _ | with_reducible exact cq4 _ _))
        refine wpQuiet_nil ?_
        rintro _ ⟨⟨dq, osq⟩, rfl⟩
        have hb6 := below_regrown (w.alloc (.cells #[vb, vs] 29)) dq osq
        generalize grow (redrawn (w.alloc (.cells #[vb, vs] 29)) dq) osq = w6 at *
        clear kq0 kq1 cq0 cq1 cq2 cq3 cq4
        go_wp2
        go_ret
        exact ⟨rfl, hba.trans (hb6.mono hba.size)⟩
      | true =>
        obtain rfl : R = A3 := by rw [e0]; rfl
        clear e0
        go_enter Tryz.func20, Tryz.ntmps20
        go_wp2
        refine wp_region_quiet_below (by kernel_rfl) (by kernel_rfl) ?_
        repeat (go_big_quiet_step (first | with_reducible exact cq0 _ _ | with_reducible exact cq1 _ _ | with_reducible exact cq2 _ _ | with_reducible exact cq3 _ _ | with_reducible exact cq4 _ _))
        refine wpQuiet_nil ?_
        rintro _ ⟨⟨dq, osq⟩, rfl⟩
        have hb6 := below_regrown (w.alloc (.cells #[vb, vs] 29)) dq osq
        generalize grow (redrawn (w.alloc (.cells #[vb, vs] 29)) dq) osq = w6 at *
        clear kq0 kq1 cq0 cq1 cq2 cq3 cq4
        go_wp2
        go_ret
        exact ⟨rfl, hba.trans (hb6.mono hba.size)⟩

end Go.Proofs.YtfojmagcoipbnaaGreatDoor
