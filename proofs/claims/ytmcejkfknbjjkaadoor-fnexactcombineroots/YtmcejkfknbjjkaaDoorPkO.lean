/-
  Texts laid together: Ya, Yb, Yi, Yc, Yd, Yll.
-/
import Derived.Test.YtmcejkfknbjjkaaDoorPkJ
import Derived.Test.YtmcejkfknbjjkaaDoorPkE
import Derived.Deep.RegionHeld3
/-
  Which shard a name is in: the program's answer and the specification's.
-/
namespace Go.Proofs.YtmcejkfknbjjkaaDoor
open Go.RowKit Go.BigFrame
set_option linter.unusedVariables false
set_option linter.unusedSimpArgs false

/-- the k highest bits of a byte -/
def shQ (N : Nat) (k : Int) : Nat := if 0 ≤ k ∧ k ≤ 2 then N / 2 ^ (8 - k).toNat else 0
theorem shQ_0 (N : Nat) : shQ N 0 = N / 256 := rfl
theorem shQ_1 (N : Nat) : shQ N 1 = N / 128 := rfl
theorem shQ_2 (N : Nat) : shQ N 2 = N / 64 := rfl
/-- the k highest bits of a name's index -/
def shN (t : ByteArray) (k : Int) : Nat := shQ (idxN t) k
/-- how many shards there are -/
def shC (k : Int) : Nat := if 0 ≤ k ∧ k ≤ 2 then 2 ^ k.toNat else 1
theorem idxN_lt (t : ByteArray) : idxN t < 256 := (byte0 (digB t)).toNat_lt
theorem shC_cases (k : Int) : shC k = 1 ∨ shC k = 2 ∨ shC k = 4 := by
  unfold shC
  split
  · rename_i h
    have : k = 0 ∨ k = 1 ∨ k = 2 := by omega
    rcases this with rfl | rfl | rfl
    · exact .inl rfl
    · exact .inr (.inl rfl)
    · exact .inr (.inr rfl)
  · exact .inl rfl
theorem shQ_lt (N : Nat) (k : Int) (hN : N < 256) : shQ N k < shC k := by
  unfold shQ shC
  split
  · rename_i h
    have : k = 0 ∨ k = 1 ∨ k = 2 := by omega
    rcases this with rfl | rfl | rfl
    · show N / 256 < 1; omega
    · show N / 128 < 2; omega
    · show N / 64 < 4; omega
  · omega
theorem shN_lt (t : ByteArray) (k : Int) : shN t k < shC k := shQ_lt _ k (idxN_lt t)

theorem splitOk_any (k : Int) (w : World) : Calls Tryd.prog 46 #[.int .i64 k] w fun e w' => e = .returned (.bool (decide (0 ≤ k ∧ k ≤ 2))) ∧ w' = w := by
  by_cases h1 : 0 ≤ k
  · by_cases h2 : k ≤ 2
    · go_enter Tryd.func46, Tryd.ntmps46
      go_wp2
      go_ret
      exact ⟨by simp [h1, h2], rfl⟩
    · go_enter Tryd.func46, Tryd.ntmps46
      go_wp2
      go_ret
      exact ⟨by simp [h2], rfl⟩
  · go_enter Tryd.func46, Tryd.ntmps46
    go_wp2
    go_ret
    exact ⟨by simp; omega, rfl⟩

theorem shardCount_any (k : Int) (w : World) : Calls Tryd.prog 68 #[.int .i64 k] w fun e w' => e = .returned (.int .i64 (shC k : Int)) ∧ w' = w := by
  by_cases h : 0 ≤ k ∧ k ≤ 2
  · have hd : decide (0 ≤ k ∧ k ≤ 2) = true := by simpa using h
    have : k = 0 ∨ k = 1 ∨ k = 2 := by omega
    rcases this with rfl | rfl | rfl
    all_goals
      go_enter Tryd.func68, Tryd.ntmps68
      go_wp2_with fail
      refine (splitOk_any _ _).mono ?_
      rintro e w1 ⟨rfl, rfl⟩
      rw [hd]
      go_wp2
      go_ret
      exact ⟨rfl, rfl⟩
  · have hd : decide (0 ≤ k ∧ k ≤ 2) = false := by simpa using h
    have e1 : shC k = 1 := by unfold shC; rw [if_neg h]
    rw [e1]
    clear h e1
    go_enter Tryd.func68, Tryd.ntmps68
    go_wp2_with fail
    refine (splitOk_any _ _).mono ?_
    rintro e w1 ⟨rfl, rfl⟩
    rw [hd]
    go_wp2
    go_ret
    exact ⟨rfl, rfl⟩

theorem ShardOf_any (t : ByteArray) (k : Int) (w : World) (ht : t.size ≤ 1048576) (hT : Tb w) :
    Calls Tryd.prog 13 #[.string t, .int .i64 k] w fun e w' => e = .returned (.int .i64 (shN t k : Int)) ∧ Below w.heap.size w w' := by
  by_cases h : 0 ≤ k ∧ k ≤ 2
  · have hd : decide (0 ≤ k ∧ k ≤ 2) = true := by simpa using h
    have hc := IndexOf_any t w ht hT.1 hT.2
    change Calls Tryd.prog 47 _ _ (fun e w' => e = .returned (.int .i64 (idxN t : Int)) ∧ Below _ _ w') at hc
    have hlt := idxN_lt t
    have : k = 0 ∨ k = 1 ∨ k = 2 := by omega
    have e0 : shN t 0 = idxN t / 256 := shQ_0 _
    have e1 : shN t 1 = idxN t / 128 := shQ_1 _
    have e2 : shN t 2 = idxN t / 64 := shQ_2 _
    clear hT h
    rcases this with rfl | rfl | rfl
    · rw [e0]
      clear e0 e1 e2
      generalize idxN t = N at *
      go_enter Tryd.func13, Tryd.ntmps13
      go_wp2_with fail
      refine (splitOk_any _ _).mono ?_
      rintro e w1 ⟨rfl, rfl⟩
      rw [hd]
      go_wp2_with fail
      refine hc.mono ?_
      rintro e w2 ⟨rfl, hb⟩
      go_wp2
      go_ret
      exact ⟨by simp, hb⟩
    · rw [e1]
      clear e0 e1 e2
      generalize idxN t = N at *
      go_enter Tryd.func13, Tryd.ntmps13
      go_wp2_with fail
      refine (splitOk_any _ _).mono ?_
      rintro e w1 ⟨rfl, rfl⟩
      rw [hd]
      go_wp2_with fail
      refine hc.mono ?_
      rintro e w2 ⟨rfl, hb⟩
      go_wp2
      go_ret
      exact ⟨by simp, hb⟩
    · rw [e2]
      clear e0 e1 e2
      generalize idxN t = N at *
      go_enter Tryd.func13, Tryd.ntmps13
      go_wp2_with fail
      refine (splitOk_any _ _).mono ?_
      rintro e w1 ⟨rfl, rfl⟩
      rw [hd]
      go_wp2_with fail
      refine hc.mono ?_
      rintro e w2 ⟨rfl, hb⟩
      go_wp2
      go_ret
      exact ⟨by simp, hb⟩
  · have hd : decide (0 ≤ k ∧ k ≤ 2) = false := by simpa using h
    have e1 : shN t k = 0 := by unfold shN shQ; rw [if_neg h]
    rw [e1]
    clear h e1
    go_enter Tryd.func13, Tryd.ntmps13
    go_wp2_with fail
    refine (splitOk_any _ _).mono ?_
    rintro e w1 ⟨rfl, rfl⟩
    rw [hd]
    go_wp2
    go_ret
    exact ⟨rfl, Below.refl _ _⟩

theorem sShardOf_any (t : ByteArray) (k : Int) (w : World) (ht : t.size ≤ 1048576) :
    Calls Tryd.prog 27 #[.string t, .int .i64 k] w fun e w' => e = .returned (.int .i64 (shN t k : Int)) ∧ Below w.heap.size w w' := by
  by_cases h : 0 ≤ k ∧ k ≤ 2
  · have hd : decide (0 ≤ k ∧ k ≤ 2) = true := by simpa using h
    have hc := sIndexOf_any t w ht
    change Calls Tryd.prog 24 _ _ (fun e w' => e = .returned (.int .i64 (idxN t : Int)) ∧ Below _ _ w') at hc
    have hlt := idxN_lt t
    have : k = 0 ∨ k = 1 ∨ k = 2 := by omega
    have e0 : shN t 0 = idxN t / 256 := shQ_0 _
    have e1 : shN t 1 = idxN t / 128 := shQ_1 _
    have e2 : shN t 2 = idxN t / 64 := shQ_2 _
    clear h
    rcases this with rfl | rfl | rfl
    · rw [e0]
      clear e0 e1 e2
      generalize idxN t = N at *
      go_enter Tryd.func27, Tryd.ntmps27
      go_wp2_with fail
      refine (l01In_any _ _ _ _).mono ?_
      rintro e w1 ⟨rfl, rfl⟩
      rw [hd]
      go_wp2_with fail
      refine hc.mono ?_
      rintro e w2 ⟨rfl, hb⟩
      go_wp2
      go_ret
      exact ⟨by simp, hb⟩
    · rw [e1]
      clear e0 e1 e2
      generalize idxN t = N at *
      go_enter Tryd.func27, Tryd.ntmps27
      go_wp2_with fail
      refine (l01In_any _ _ _ _).mono ?_
      rintro e w1 ⟨rfl, rfl⟩
      rw [hd]
      go_wp2_with fail
      refine hc.mono ?_
      rintro e w2 ⟨rfl, hb⟩
      go_wp2
      go_ret
      exact ⟨by simp, hb⟩
    · rw [e2]
      clear e0 e1 e2
      generalize idxN t = N at *
      go_enter Tryd.func27, Tryd.ntmps27
      go_wp2_with fail
      refine (l01In_any _ _ _ _).mono ?_
      rintro e w1 ⟨rfl, rfl⟩
      rw [hd]
      go_wp2_with fail
      refine hc.mono ?_
      rintro e w2 ⟨rfl, hb⟩
      go_wp2
      go_ret
      exact ⟨by simp, hb⟩
  · have hd : decide (0 ≤ k ∧ k ≤ 2) = false := by simpa using h
    have e1 : shN t k = 0 := by unfold shN shQ; rw [if_neg h]
    rw [e1]
    clear h e1
    go_enter Tryd.func27, Tryd.ntmps27
    go_wp2_with fail
    refine (l01In_any _ _ _ _).mono ?_
    rintro e w1 ⟨rfl, rfl⟩
    rw [hd]
    go_wp2
    go_ret
    exact ⟨rfl, Below.refl _ _⟩

end Go.Proofs.YtmcejkfknbjjkaaDoor
/-
  The leaves of a shard: the specification's answer.
-/
namespace Go.Proofs.YtmcejkfknbjjkaaDoor
open Go.RowKit Go.BigFrame Go.Sort
set_option linter.unusedVariables false
set_option linter.unusedSimpArgs false

/-- is it in this shard? -/
def shP (k i : Int) (f : Le) : Bool := decide ((shN f.n k : Int) = i)
def shL (L : List Le) (k i : Int) : List Le := L.filter (shP k i)
theorem sh_step {L : List Le} {m : Nat} (k i : Int) (hm : m < L.length) : (L.take (m + 1)).filter (shP k i) = if shP k i L[m] = true then (L.take m).filter (shP k i) ++ [L[m]] else (L.take m).filter (shP k i) := LV.filt_step _ hm
theorem shL_none {L : List Le} {k i : Int} (h : i < 0 ∨ (shC k : Int) ≤ i) : shL L k i = [] := by
  unfold shL
  rw [List.filter_eq_nil_iff]
  intro f _
  have := shN_lt f.n k
  unfold shP
  simp
  omega
theorem shL_small {L : List Le} {k i : Int} (h : SmallL L) : SmallL (shL L k i) := fun f hf => h f (List.mem_filter.1 hf).1
theorem shL_len (L : List Le) (k i : Int) : (shL L k i).length ≤ L.length := List.length_filter_le _ _

def YbR (w : World) (L : List Le) (k i : Int) (u j : Value) (wr : World) : Prop := ∃ m : Nat, m ≤ L.length ∧ j = .int .i64 m ∧ Hid (OL w.heap.size w wr u ((L.take m).filter (shP k i)))

set_option maxRecDepth 100000 in
set_option maxHeartbeats 1000000 in
theorem sShardLeaves_any (v : Value) (ga oa : Nat) (L : List Le) (k i : Int) (w : World) (hv : RS 2 lcs w v ga oa L) (hsm : SmallL L) :
    Calls Tryd.prog 15 #[v, .int .i64 k, .int .i64 i] w fun e w' => ∃ u, e = .returned u ∧ OL w.heap.size w w' u (shL L k i) := by
  have HV : Hid (RS 2 lcs w v ga oa L ∧ SmallL L) := ⟨hv, hsm⟩
  obtain ⟨a, cap, rfl, hl, hA, _⟩ := hv
  obtain ⟨n, hn⟩ : ∃ n, L.length = n := ⟨_, rfl⟩
  have HA : Hid (0 < n → a = some ⟨ga, oa, none⟩) := by rw [← hn]; exact fun h => (hA h).1
  rw [hn] at hl HV ⊢
  clear hA hsm
  have HST : Hid (YbR w L k i (.slice (some ⟨w.heap.size, 0, none⟩) 0 0) (.int .i64 0) (w.alloc (.cells #[] 74))) := ⟨0, by omega, rfl, OL.made _ w w (Below.refl _ _) (Nat.le_refl _)⟩
  go_enter Tryd.func15, Tryd.ntmps15
  go_wp2
  go_loopw [7, 8] (fun u j wr => YbR w L k i u j wr) (fun _ j _ => n - (intOf j).toNat)
  case atStart => exact HST.out
  case round =>
    obtain ⟨m, hm, rfl, HI⟩ := hrel
    clear HST
    rw [hn] at hm
    obtain ⟨au, cu, rfl⟩ := HI.out.shape
    by_cases hlt : m < n
    · have ea := HA.out (by omega)
      subst ea
      obtain ⟨c0, c1⟩ := (HV.out.1.later HI.out.2.1).leaf m (by omega)
      obtain ⟨X, hX⟩ : ∃ X, L[m]'(by omega) = X := ⟨_, rfl⟩
      rw [hX] at c0 c1
      have hxs := HV.out.2 X (by rw [← hX]; exact List.getElem_mem _)
      have hst := sh_step (L := L) (m := m) k i (by omega)
      rw [hX] at hst
      have hle : ((L.take m).filter (shP k i)).length ≤ L.length := LV.filt_len L m _
      have i1 : (m : Int) < (n : Int) := by omega
      have i2 : (0 : Int) ≤ (m : Int) := by omega
      have hix := sShardOf_any X.n k wr hxs.1
      obtain ⟨N, hN⟩ : ∃ N, shN X.n k = N := ⟨_, rfl⟩
      rw [hN] at hix
      have HBK : Hid (shP k i X = decide ((N : Int) = i)) := by rw [← hN]; rfl
      have HCC : Hid (∀ W, Below wr.heap.size wr W → W.cell? ⟨ga, oa + m * 2, none⟩ = some (.string X.n) ∧ W.cell? ⟨ga, oa + m * 2 + 1, none⟩ = some (.string X.v)) := fun W hW => ⟨(cell_kept (hW.block ga (lt_of_cell c0))).trans c0, (cell_kept (hW.block ga (lt_of_cell c0))).trans c1⟩
      clear HV HA hX hN
      generalize hl0 : (L.take m).filter (shP k i) = l at *
      clear hl0
      go_wp2_with fail
      refine hix.mono ?_
      rintro e w1 ⟨rfl, hb1⟩
      have HO2 : Hid (OL w.heap.size w w1 (.slice au l.length cu) l) := HI.out.later hb1
      obtain ⟨x0, x1⟩ := HCC.out _ hb1
      clear hix hb1 HI HCC c0 c1
      by_cases hk : (N : Int) = i
      · rw [HBK.out, decide_eq_true hk] at hst
        have HJ : Hid ((L.take (m + 1)).filter (shP k i) = l ++ [X]) := hst
        have hk2 : ((N : Int) == i) = true := by simpa using hk
        have hbc : Below w1.heap.size w1 (w1.alloc (.cells #[.string X.n, .string X.v] 74)) := (Below.refl _ _).alloc (Nat.le_refl _) _
        have hoa := HO2.out.later hbc
        have HRN : Hid ((w1.alloc (.cells #[.string X.n, .string X.v] 74)).rangeAt w1.heap.size 0 (lcs X)) := range_new _ [.string X.n, .string X.v] 74
        clear hbc HO2 hst HBK
        go_wp2_with (at_builtin; refine wp_leafL rfl _ _ rfl w.heap.size w (.slice au l.length cu) l X rfl hoa _ rfl HRN.out (by omega) ?_)
        intro g5 cap5 w5 ho5 hg5 hl5
        have HK : Hid (OL w.heap.size w w5 (.slice (some ⟨g5, 0, none⟩) (l.length + 1) cap5) ((L.take (m + 1)).filter (shP k i))) := by rw [HJ.out]; exact ho5
        clear ho5 hg5 hl5 hoa HRN HJ
        go_wp2
        go_roundw
        case rel => exact ⟨m + 1, by omega, by go_num, HK⟩
        case measure => simp [intOf]; omega
      · rw [HBK.out, decide_eq_false hk] at hst
        have HJ : Hid (OL w.heap.size w w1 (.slice au l.length cu) ((L.take (m + 1)).filter (shP k i))) := by rw [hst]; exact HO2.out
        have hk2 : ((N : Int) == i) = false := by simpa using hk
        clear hst HBK HO2
        go_wp2
        go_roundw
        case rel => exact ⟨m + 1, by omega, by go_num, HJ⟩
        case measure => simp [intOf]; omega
    · have hme : m = n := by omega
      have e : (L.take m).filter (shP k i) = shL L k i := by rw [List.take_of_length_le (by omega)]; rfl
      have HF : Hid (∃ u, Ending.returned (.slice au ((L.take m).filter (shP k i)).length cu) = .returned u ∧ OL w.heap.size w wr u (shL L k i)) := ⟨_, rfl, by rw [← e]; exact HI.out⟩
      generalize (L.take m).filter (shP k i) = l at *
      subst hme
      clear HI HA HV e
      go_wp2
      go_ret
      exact HF.out

end Go.Proofs.YtmcejkfknbjjkaaDoor
/-
  All parts together, in order: plain facts.
-/
namespace Go.Proofs.YtmcejkfknbjjkaaDoor
set_option linter.unusedVariables false
namespace LV
open F (ltN ltN_eq ltN_irrefl ltN_trans ltN_tri ltN_ne ltN_asymm)

/-- are these leaves right when they are put in order? -/
def AllOk (A : List Le) : Prop := ∃ L : List Le, L.Perm A ∧ LOk L
open Classical in
noncomputable def allB (A : List Le) : Bool := decide (AllOk A)
open Classical in
noncomputable def allR (A : List Le) : List Le := if h : AllOk A then h.choose else []
theorem allB_yes {A : List Le} (h : AllOk A) : allB A = true := by simp [allB, h]
theorem allB_no {A : List Le} (h : ¬ AllOk A) : allB A = false := by simp [allB, h]
theorem allR_no {A : List Le} (h : ¬ AllOk A) : allR A = [] := by simp [allR, h]

def Dist (A : List Le) : Prop := A.Pairwise fun f g => f.n ≠ g.n
theorem Dist.perm {A B : List Le} (h : Dist A) (hp : A.Perm B) : Dist B := hp.pairwise h (fun {a b} h => Ne.symm h)
theorem srt_dist {L : List Le} (h : Srt L) : Dist L := List.Pairwise.imp (fun h => ltN_ne h) h
theorem AllOk.dist {A : List Le} (h : AllOk A) : Dist A := by
  obtain ⟨L, hp, hL⟩ := h
  exact (srt_dist hL.2.2).perm hp
theorem AllOk.mem {A : List Le} (h : AllOk A) {f : Le} (hf : f ∈ A) : leB f = true := by
  obtain ⟨L, hp, hL⟩ := h
  exact hL.2.1 f (hp.mem_iff.2 hf)
theorem AllOk.len {A : List Le} (h : AllOk A) : A.length ≤ 24 := by
  obtain ⟨L, hp, hL⟩ := h
  rw [← hp.length_eq]
  exact hL.1
theorem allR_yes {A L : List Le} (hp : L.Perm A) (hL : LOk L) : allR A = L := by
  have h : AllOk A := ⟨L, hp, hL⟩
  have e : allR A = h.choose := by simp [allR, h]
  have h1 := h.choose_spec
  rw [e]
  exact srt_ext h1.2.2.2 hL.2.2 (fun f => by rw [h1.1.mem_iff, hp.mem_iff])

/-- in order, though alike names may stand there -/
def Wsrt (L : List Le) : Prop := L.Pairwise fun f g => ltN g.n f.n = false
theorem wsrt_srt {L : List Le} (h : Wsrt L) (hd : Dist L) : Srt L := by
  have h2 : L.Pairwise fun f g => ltN g.n f.n = false ∧ f.n ≠ g.n := List.Pairwise.and h hd
  refine List.Pairwise.imp ?_ h2
  rintro a b ⟨h3, h4⟩
  rcases ltN_tri a.n b.n with h5 | h5 | h5
  · exact h5
  · exact absurd h5 h4
  · rw [h3] at h5; cases h5
theorem wsrt_ok {A L : List Le} (hp : L.Perm A) (hw : Wsrt L) : leavesB L = allB A := by
  by_cases h : AllOk A
  · rw [allB_yes h, leavesB_iff]
    have hd : Dist L := h.dist.perm hp.symm
    exact ⟨by rw [hp.length_eq]; exact h.len, fun f hf => h.mem (hp.mem_iff.1 hf), wsrt_srt hw hd⟩
  · rw [allB_no h, leavesB_no]
    exact fun hL => h ⟨L, hp, hL⟩

/-- O is what putting the leaves A one by one has made -/
def PutI (A O : List Le) : Prop := LOk O ∧ (O.Perm A ∨ (O.length < A.length ∧ ¬ Dist A))
theorem ok_none : LOk [] := ⟨by simp, fun f hf => by simp at hf, List.Pairwise.nil⟩
theorem PutI.zero : PutI [] [] := ⟨ok_none, .inl (List.Perm.refl _)⟩
theorem put_perm {O : List Le} {f : Le} (h : ∀ g ∈ O, g.n ≠ f.n) : (put O f).Perm (f :: O) := by
  have h1 := List.filter_append_perm (fun g : Le => ltN g.n f.n) O
  have e : O.filter (fun g => !ltN g.n f.n) = O.filter (fun g => ltN f.n g.n) := by
    refine List.filter_congr fun g hg => ?_
    rcases ltN_tri g.n f.n with h2 | h2 | h2
    · rw [h2, ltN_asymm h2]; rfl
    · exact absurd h2 (h g hg)
    · rw [h2, ltN_asymm h2]; rfl
  rw [e] at h1
  unfold put
  exact List.perm_middle.trans (h1.cons f)
theorem dist_app {A B : List Le} (h : Dist (A ++ B)) : Dist A := (List.pairwise_append.1 h).1
theorem PutI.step {A O : List Le} {f : Le} (h : PutI A O) (hb : putB O f = true) : PutI (A ++ [f]) (put O f) := by
  refine ⟨putB_ok hb, ?_⟩
  obtain ⟨hO, hp | ⟨hl, hd⟩⟩ := h
  · cases hq : find O f.n with
    | none => exact .inl (((put_perm (find_none hq)).trans (hp.cons f)).trans (List.perm_append_singleton f A).symm)
    | some g =>
      right
      rw [len_put_in hO.2.2 hq rfl]
      refine ⟨by rw [hp.length_eq]; simp, fun hd => ?_⟩
      obtain ⟨h1, h2⟩ := find_some hq
      exact (List.pairwise_append.1 hd).2.2 g (hp.mem_iff.1 h1) f (by simp) h2
  · right
    refine ⟨?_, fun h => hd (dist_app h)⟩
    have := len_wout_le O f.n
    rw [len_put, List.length_append]
    simp
    omega
theorem PutI.stop {A O B : List Le} {f : Le} (h : PutI A O) (hb : putB O f = false) : ¬ AllOk (A ++ f :: B) := by
  intro hA
  obtain ⟨hO, hp | ⟨hl, hd⟩⟩ := h
  · have hf := hA.mem (f := f) (by simp)
    have hl := hA.len
    unfold putB at hb
    rw [leavesB_iff.2 hO, hf] at hb
    simp only [Bool.true_and, Bool.or_eq_false_iff, decide_eq_false_iff_not] at hb
    have := hp.length_eq
    rw [List.length_append] at hl
    simp at hl
    omega
  · exact hd (dist_app hA.dist)
theorem PutI.done {A O : List Le} (h : PutI A O) (hl : O.length = A.length) : AllOk A ∧ allR A = O := by
  obtain ⟨hO, hp | ⟨hl2, hd⟩⟩ := h
  · exact ⟨⟨O, hp, hO⟩, allR_yes hp hO⟩
  · omega
theorem PutI.short {A O : List Le} (h : PutI A O) (hl : O.length ≠ A.length) : ¬ AllOk A := by
  obtain ⟨hO, hp | ⟨hl2, hd⟩⟩ := h
  · exact absurd hp.length_eq hl
  · exact fun hA => hd hA.dist
theorem PutI.len {A O : List Le} (h : PutI A O) : O.length ≤ A.length := by
  obtain ⟨hO, hp | ⟨hl2, hd⟩⟩ := h
  · exact Nat.le_of_eq hp.length_eq
  · omega

/-- cut by a number below N, all parts together are all -/
theorem parts_perm (s : Le → Nat) (L : List Le) : ∀ N, ((List.range N).flatMap fun i => L.filter fun f => decide (s f = i)).Perm (L.filter fun f => decide (s f < N))
  | 0 => by simp
  | N + 1 => by
    rw [List.range_succ, List.flatMap_append, List.flatMap_singleton]
    have h1 := List.filter_append_perm (fun f : Le => decide (s f < N)) (L.filter fun f => decide (s f < N + 1))
    rw [List.filter_filter, List.filter_filter] at h1
    have e1 : (L.filter fun f => decide (s f < N) && decide (s f < N + 1)) = L.filter fun f => decide (s f < N) := List.filter_congr fun f _ => by
      by_cases h : s f < N
      · rw [decide_eq_true h, decide_eq_true (by omega)]; rfl
      · rw [decide_eq_false h]; rfl
    have e2 : (L.filter fun f => !decide (s f < N) && decide (s f < N + 1)) = L.filter fun f => decide (s f = N) := List.filter_congr fun f _ => by
      by_cases h : s f < N
      · rw [decide_eq_true h, decide_eq_false (show ¬ s f = N by omega)]; rfl
      · by_cases h2 : s f = N
        · rw [decide_eq_false h, decide_eq_true h2, decide_eq_true (by omega)]; rfl
        · rw [decide_eq_false h, decide_eq_false h2, decide_eq_false (by omega)]; rfl
    rw [e1, e2] at h1
    exact ((parts_perm s L N).append_right _).trans h1
theorem parts_all (s : Le → Nat) (L : List Le) (N : Nat) (h : ∀ f ∈ L, s f < N) : ((List.range N).flatMap fun i => L.filter fun f => decide (s f = i)).Perm L := by
  have h1 := parts_perm s L N
  rw [List.filter_eq_self.2 (fun f hf => by simpa using h f hf)] at h1
  exact h1
end LV

end Go.Proofs.YtmcejkfknbjjkaaDoor
/-
  Leaves cut into parts that lie side by side in one room: plain facts, and rows of numbers and of slices.
-/
namespace Go.Proofs.YtmcejkfknbjjkaaDoor
open Go.RowKit Go.BigFrame Go.Sort
set_option linter.unusedVariables false
set_option linter.unusedSimpArgs false

/-- block g, of type T, begins with the values l, and may be written -/
def VB (T : TypeId) (w : World) (g : Nat) (l : List Value) : Prop := ∃ cur, w.heap[g]? = some (.cells cur T (0, 0)) ∧ ∀ j (h : j < l.length), cur[j]? = some l[j]
section
variable {T : TypeId} {w w' : World} {g : Nat} {l : List Value}
theorem VB.cell (h : VB T w g l) (j : Nat) (hj : j < l.length) : w.cell? ⟨g, j, none⟩ = some l[j] := by
  obtain ⟨cur, h1, h2⟩ := h
  rw [cell_of_row w g j cur T (0, 0) h1]
  exact h2 j hj
theorem VB.frozen (h : VB T w g l) (j : Nat) : w.frozen? ⟨g, j, none⟩ = false := by
  obtain ⟨cur, h1, h2⟩ := h
  simp [World.frozen?, h1]
theorem VB.lt (h : VB T w g l) : g < w.heap.size := by
  obtain ⟨cur, h1, h2⟩ := h
  exact (Array.getElem?_eq_some_iff.1 h1).1
theorem VB.set (h : VB T w g l) (i : Nat) (hi : i < l.length) (x : Value) : VB T (w.setCell ⟨g, i, none⟩ x) g (l.set i x) := by
  obtain ⟨cur, h1, h2⟩ := h
  have hc := h2 i hi
  have his : i < cur.size := (Array.getElem?_eq_some_iff.1 hc).1
  refine ⟨_, heap_setCell_same w g i cur T _ h1, fun j hj => ?_⟩
  have hj' : j < l.length := by simpa using hj
  rw [Array.getElem?_setIfInBounds]
  by_cases he : i = j
  · subst he
    simp [his]
  · rw [if_neg he, h2 j hj']
    simp [List.getElem_set_ne he]
theorem VB.kept (h : VB T w g l) (hb : w'.heap[g]? = w.heap[g]?) : VB T w' g l := by
  obtain ⟨cur, h1, h2⟩ := h
  exact ⟨cur, by rw [hb]; exact h1, h2⟩
theorem VB.later (h : VB T w g l) (hb : Below w.heap.size w w') : VB T w' g l := h.kept (hb.block g h.lt)
theorem VB.other (h : VB T w g l) {p : Nat} (hp : g ≠ p) (i : Nat) (x : Value) : VB T (w.setCell ⟨p, i, none⟩ x) g l := h.kept (heap_setCell_other w ⟨p, i, none⟩ g x hp)
end

theorem info3V : (Tryd.prog.info? 3).map (fun i => (i.zero, i.size, i.bytes)) = some (some (.int .i64 0), 1, 8) := by kernel_rfl
theorem infoLsV : (Tryd.prog.info? 24).map (fun i => (i.zero, i.size, i.bytes)) = some (some (.slice none 0 0), 1, 24) := by kernel_rfl
/-- 'make([]int, n)' -/
theorem VB.ints (n : Nat) (h : n ≤ 1000000000) (W : World) : ∃ w', (Instr.makeSlice 27 (.int .i64 (n : Int)) (.int .i64 (n : Int))).run Tryd.prog W = .ok (.slice (some ⟨W.heap.size, 0, none⟩) n n) w' ∧ VB 3 w' W.heap.size (List.replicate n (.int .i64 0)) ∧ Below W.heap.size W w' ∧ w'.heap.size = W.heap.size + 1 := by
  obtain ⟨i0, hi, hz0, hz1, hz2⟩ := info_parts info3V
  have h1 := run_make (P := Tryd.prog) W 27 3 i0 (.int .i64 0) Tryd.underlying27 hi hz0 .i64 .i64 (n : Int) (n : Int) (by omega) (by omega) (by rw [hz2]; omega) (by omega)
  refine ⟨_, by simpa using h1, ⟨_, Go.heap_alloc_new W _, fun j hj => ?_⟩, (Below.refl _ _).alloc (Nat.le_refl _) _, by simp⟩
  have hj' : j < n := by simpa using hj
  have e : (madeCells (Value.int .i64 0).cells (n * i0.size)).toList = List.replicate n (.int .i64 0) := by
    rw [hz1]
    simp [Value.cells, toList_madeCells_one]
  rw [← Array.getElem?_toList, e]
  simp [hj']
/-- 'make([][]Leaf, n)' -/
theorem VB.parts (n : Nat) (h : n ≤ 1000000000) (W : World) : ∃ w', (Instr.makeSlice 92 (.int .i64 (n : Int)) (.int .i64 (n : Int))).run Tryd.prog W = .ok (.slice (some ⟨W.heap.size, 0, none⟩) n n) w' ∧ VB 24 w' W.heap.size (List.replicate n (.slice none 0 0)) ∧ Below W.heap.size W w' ∧ w'.heap.size = W.heap.size + 1 := by
  obtain ⟨i0, hi, hz0, hz1, hz2⟩ := info_parts infoLsV
  have h1 := run_make (P := Tryd.prog) W 92 24 i0 (.slice none 0 0) Tryd.underlying92 hi hz0 .i64 .i64 (n : Int) (n : Int) (by omega) (by omega) (by rw [hz2]; omega) (by omega)
  refine ⟨_, by simpa using h1, ⟨_, Go.heap_alloc_new W _, fun j hj => ?_⟩, (Below.refl _ _).alloc (Nat.le_refl _) _, by simp⟩
  have hj' : j < n := by simpa using hj
  have e : (madeCells (Value.slice none 0 0).cells (n * i0.size)).toList = List.replicate n (.slice none 0 0) := by
    rw [hz1]
    simp [Value.cells, toList_madeCells_one]
  rw [← Array.getElem?_toList, e]
  simp [hj']

/-- a row of values, the first m of which are done -/
def vrow (l : List Value) (z : Value) (m : Nat) : List Value := l.take m ++ List.replicate (l.length - m) z
theorem vrow_len (l : List Value) (z : Value) (m : Nat) (h : m ≤ l.length) : (vrow l z m).length = l.length := by simp [vrow]; omega
theorem vrow_step (l : List Value) (z : Value) (m : Nat) (h : m < l.length) : (vrow l z m).set m l[m] = vrow l z (m + 1) := by
  unfold vrow
  have e : l.length - m = (l.length - (m + 1)) + 1 := by omega
  have e2 : (l.take m).length = m := by simp; omega
  rw [e, List.replicate_succ, List.set_append_right _ _ (by omega), e2, Nat.sub_self, List.set_cons_zero, ← List.take_append_getElem h, List.append_assoc]
  rfl
theorem vrow_all (l : List Value) (z : Value) : vrow l z l.length = l := by simp [vrow]
theorem vrow_zero (l : List Value) (z : Value) : vrow l z 0 = List.replicate l.length z := by simp [vrow]

/-- how many of the first m leaves are in shard i -/
def cnt (L : List Le) (k : Int) (m i : Nat) : Nat := ((L.take m).filter (shP k (i : Int))).length
theorem cnt_zero (L : List Le) (k : Int) (i : Nat) : cnt L k 0 i = 0 := by simp [cnt]
theorem shP_nat (k : Int) (i : Nat) (f : Le) : shP k (i : Int) f = decide (shN f.n k = i) := by
  unfold shP
  rw [Bool.eq_iff_iff, decide_eq_true_iff, decide_eq_true_iff]
  omega
theorem cnt_step {L : List Le} {k : Int} {m : Nat} (i : Nat) (hm : m < L.length) : cnt L k (m + 1) i = cnt L k m i + (if shN L[m].n k = i then 1 else 0) := by
  unfold cnt
  rw [sh_step k (i : Int) hm, shP_nat]
  by_cases h : shN L[m].n k = i
  · simp [h]
  · simp [h]
theorem cnt_all {L : List Le} {k : Int} {m : Nat} (i : Nat) (hm : L.length ≤ m) : cnt L k m i = (shL L k (i : Int)).length := by
  unfold cnt shL
  rw [List.take_of_length_le hm]
theorem cnt_le (L : List Le) (k : Int) (m i : Nat) : cnt L k m i ≤ (shL L k (i : Int)).length := by
  unfold cnt shL
  exact (List.Sublist.filter _ (List.take_sublist m L)).length_le
theorem cnt_lt {L : List Le} {k : Int} {m : Nat} (hm : m < L.length) : cnt L k m (shN L[m].n k) < (shL L k (shN L[m].n k : Int)).length := by
  have h1 := cnt_step (k := k) (shN L[m].n k) hm
  have h2 := cnt_le L k (m + 1) (shN L[m].n k)
  rw [if_pos rfl] at h1
  omega
/-- the counts, as a row -/
def cntV (L : List Le) (k : Int) (m : Nat) : List Value := (List.range (shC k)).map fun i : Nat => .int .i64 (cnt L k m i : Int)
theorem cntV_len (L : List Le) (k : Int) (m : Nat) : (cntV L k m).length = shC k := by simp [cntV]
theorem cntV_at (L : List Le) (k : Int) (m i : Nat) (h : i < (cntV L k m).length) : (cntV L k m)[i] = .int .i64 (cnt L k m i : Int) := by simp [cntV]
theorem cntV_step {L : List Le} {k : Int} {m : Nat} (hm : m < L.length) : (cntV L k m).set (shN L[m].n k) (.int .i64 ((cnt L k m (shN L[m].n k) : Int) + 1)) = cntV L k (m + 1) := by
  refine List.ext_getElem (by simp [cntV]) fun i h1 h2 => ?_
  rw [List.getElem_set, cntV_at, cntV_at, cnt_step i hm]
  by_cases h : shN L[m].n k = i
  · subst h
    simp
  · rw [if_neg h, if_neg h]
    simp
theorem cntV_zero (L : List Le) (k : Int) : cntV L k 0 = List.replicate (shC k) (.int .i64 0) := by
  refine List.ext_getElem (by simp [cntV]) fun i h1 h2 => ?_
  rw [cntV_at, cnt_zero]
  simp
/-- the shards of all leaves, as a row -/
def shV (L : List Le) (k : Int) : List Value := L.map fun f => .int .i64 (shN f.n k : Int)
theorem shV_len (L : List Le) (k : Int) : (shV L k).length = L.length := by simp [shV]
theorem shV_at (L : List Le) (k : Int) (i : Nat) (h : i < (shV L k).length) : (shV L k)[i] = .int .i64 (shN (L[i]'(by simpa [shV] using h)).n k : Int) := by simp [shV]

/-- where the part of shard i begins -/
def bgN (L : List Le) (k : Int) (i : Nat) : Nat := ((List.range i).flatMap fun j : Nat => shL L k (j : Int)).length
theorem bgN_zero (L : List Le) (k : Int) : bgN L k 0 = 0 := rfl
theorem bgN_step (L : List Le) (k : Int) (i : Nat) : bgN L k (i + 1) = bgN L k i + (shL L k (i : Int)).length := by
  unfold bgN
  rw [List.range_succ, List.flatMap_append, List.flatMap_singleton, List.length_append]
theorem shL_nat (L : List Le) (k : Int) (i : Nat) : shL L k (i : Int) = L.filter fun f => decide (shN f.n k = i) := List.filter_congr fun f _ => shP_nat k i f
theorem bgN_all (L : List Le) (k : Int) : bgN L k (shC k) = L.length := by
  have h := LV.parts_all (fun f => shN f.n k) L (shC k) (fun f _ => shN_lt f.n k)
  rw [← h.length_eq]
  unfold bgN
  congr 1
  exact congrArg (fun F => List.flatMap F (List.range (shC k))) (funext fun i => shL_nat L k i)
theorem bgN_mono (L : List Le) (k : Int) {i j : Nat} (h : i ≤ j) : bgN L k i ≤ bgN L k j := by
  induction j with
  | zero => have : i = 0 := by omega
            subst this; exact Nat.le_refl _
  | succ j ih =>
    rcases Nat.lt_or_ge i (j + 1) with h1 | h1
    · rw [bgN_step]; have := ih (by omega); omega
    · have : i = j + 1 := by omega
      subst this; exact Nat.le_refl _
theorem bgN_room (L : List Le) (k : Int) {i : Nat} (h : i < shC k) : bgN L k i + (shL L k (i : Int)).length ≤ L.length := by
  rw [← bgN_step, ← bgN_all L k]
  exact bgN_mono L k (by omega)

/-- a part of the room: c leaves from s on, len of them there -/
def ptV (gr c s len : Nat) : Value := .slice (if c = 0 then some ⟨gr, 0, none⟩ else some ⟨gr, s * 2, none⟩) len c
def ptsV (L : List Le) (k : Int) (gr m : Nat) : List Value := (List.range (shC k)).map fun i : Nat => ptV gr (shL L k (i : Int)).length (bgN L k i) (cnt L k m i)
theorem ptsV_len (L : List Le) (k : Int) (gr m : Nat) : (ptsV L k gr m).length = shC k := by simp [ptsV]
theorem ptsV_at (L : List Le) (k : Int) (gr m i : Nat) (h : i < (ptsV L k gr m).length) : (ptsV L k gr m)[i] = ptV gr (shL L k (i : Int)).length (bgN L k i) (cnt L k m i) := by simp [ptsV]
theorem ptsV_step {L : List Le} {k : Int} {gr m : Nat} (hm : m < L.length) : (ptsV L k gr m).set (shN L[m].n k) (ptV gr (shL L k (shN L[m].n k : Int)).length (bgN L k (shN L[m].n k)) (cnt L k m (shN L[m].n k) + 1)) = ptsV L k gr (m + 1) := by
  refine List.ext_getElem (by simp [ptsV]) fun i h1 h2 => ?_
  rw [List.getElem_set, ptsV_at, ptsV_at, cnt_step i hm]
  by_cases h : shN L[m].n k = i
  · subst h
    simp
  · rw [if_neg h, if_neg h]
    simp

/-- the first m leaves lie in their parts -/
def PtI (L : List Le) (k : Int) (gr m : Nat) (W : World) : Prop :=
  (∀ i, i < shC k → ∀ j (h : j < ((L.take m).filter (shP k (i : Int))).length), W.rangeAt gr ((bgN L k i + j) * 2) (lcs (((L.take m).filter (shP k (i : Int)))[j]))) ∧ (∀ j, j < L.length → W.there gr (j * 2) 2) ∧ gr < W.heap.size
theorem PtI.kept {L : List Le} {k : Int} {gr m : Nat} {W W' : World} (h : PtI L k gr m W) (hb : W'.heap[gr]? = W.heap[gr]?) (hs : W.heap.size ≤ W'.heap.size) : PtI L k gr m W' :=
  ⟨fun i hi j hj => range_kept (h.1 i hi j hj) hb, fun j hj => there_kept (h.2.1 j hj) hb, by have := h.2.2; omega⟩
theorem PtI.later {L : List Le} {k : Int} {gr m : Nat} {W W' : World} (h : PtI L k gr m W) (hb : Below W.heap.size W W') : PtI L k gr m W' := h.kept (hb.block gr h.2.2) hb.size
theorem PtI.zero {L : List Le} {k : Int} {gr : Nat} {W : World} (h : ∀ j, j < L.length → W.there gr (j * 2) 2) (hg : gr < W.heap.size) : PtI L k gr 0 W :=
  ⟨fun i _ j hj => absurd hj (by simp), h, hg⟩
theorem PtI.step {L : List Le} {k : Int} {gr m : Nat} {W : World} (h : PtI L k gr m W) (hm : m < L.length) : PtI L k gr (m + 1) (W.setCells gr ((bgN L k (shN L[m].n k) + cnt L k m (shN L[m].n k)) * 2) (lcs L[m])) := by
  have hs := shN_lt L[m].n k
  have hlt := cnt_lt (k := k) hm
  have hroom := bgN_room L k hs
  refine ⟨fun i hi j hj => ?_, fun j hj => World.there_setCells (h.2.1 j hj) _ _ _, by rw [size_setCells]; exact h.2.2⟩
  have hst := sh_step k (i : Int) hm
  rw [shP_nat] at hst
  by_cases he : shN L[m].n k = i
  · have he2 := he
    rw [decide_eq_true he] at hst
    simp only [if_true] at hst
    have hc : cnt L k m (shN L[m].n k) = ((L.take m).filter (shP k (i : Int))).length := by rw [he]; rfl
    rw [hc, he]
    generalize hA : (L.take (m + 1)).filter (shP k (i : Int)) = A at *
    subst hst
    rcases Nat.lt_or_ge j ((L.take m).filter (shP k (i : Int))).length with h1 | h1
    · rw [List.getElem_append_left h1]
      exact World.rangeAt_setCells_apart (h.1 i hi j h1) _ _ _ (.inr (.inl (by rw [lcs_len]; omega)))
    · have hje : j = ((L.take m).filter (shP k (i : Int))).length := by simp at hj; omega
      subst hje
      rw [List.getElem_append_right (Nat.le_refl _)]
      simp only [Nat.sub_self, List.getElem_cons_zero]
      refine World.rangeAt_setCells_same _ _ _ _ ?_
      rw [lcs_len]
      refine h.2.1 _ ?_
      rw [he] at hroom hlt hc
      omega
  · rw [decide_eq_false he] at hst
    simp only [Bool.false_eq_true, if_false] at hst
    generalize hA : (L.take (m + 1)).filter (shP k (i : Int)) = A at *
    subst hst
    refine World.rangeAt_setCells_apart (h.1 i hi j hj) _ _ _ ?_
    have h2 : j < cnt L k m i := hj
    have h3 := cnt_le L k m i
    rw [lcs_len, lcs_len]
    rcases Nat.lt_or_ge i (shN L[m].n k) with h4 | h4
    · have := bgN_mono L k (show i + 1 ≤ shN L[m].n k by omega)
      rw [bgN_step] at this
      right; left; omega
    · have := bgN_mono L k (show shN L[m].n k + 1 ≤ i by omega)
      rw [bgN_step] at this
      right; right; omega

end Go.Proofs.YtmcejkfknbjjkaaDoor
/-
  Leaves cut into parts that lie side by side in one room: the program's answers.
-/
namespace Go.Proofs.YtmcejkfknbjjkaaDoor
open Go.RowKit Go.BigFrame Go.Sort
set_option linter.unusedVariables false
set_option linter.unusedSimpArgs false

/-- m parts are cut -/
def YmR (L : List Le) (k : Int) (gr gp : Nat) (w : World) (p i : Value) (wr : World) : Prop := ∃ m : Nat, m ≤ shC k ∧ i = .int .i64 m ∧ p = .int .i64 (bgN L k m : Int) ∧ VB 24 wr gp (vrow (ptsV L k gr 0) (.slice none 0 0) m) ∧ Below w.heap.size w wr

set_option maxRecDepth 100000 in
set_option maxHeartbeats 1000000 in
theorem emptyParts_any (L : List Le) (k : Int) (n N gr gc : Nat) (w : World) (hn : L.length = n) (hN : shC k = N) (hl : n ≤ 1100000) (hc : VB 3 w gc (cntV L k n)) :
    Calls Tryd.prog 97 #[.slice (some ⟨gr, 0, none⟩) n n, .slice (some ⟨gc, 0, none⟩) N N] w fun e w' => ∃ gp, e = .returned (.slice (some ⟨gp, 0, none⟩) N N) ∧ w.heap.size ≤ gp ∧ VB 24 w' gp (ptsV L k gr 0) ∧ Below w.heap.size w w' := by
  have hN4 : N ≤ 4 := by rcases shC_cases k with h | h | h <;> omega
  have HC : Hid (VB 3 w gc (cntV L k n)) := hc
  have HLN : Hid (L.length = n ∧ shC k = N) := ⟨hn, hN⟩
  obtain ⟨w2, hmk, hib, hb2, hs2⟩ := VB.parts N (by omega) w
  have HST : Hid (YmR L k gr w.heap.size w (.int .i64 0) (.int .i64 0) w2) := ⟨0, by omega, rfl, rfl, by rw [vrow_zero, ptsV_len, hN]; exact hib, hb2⟩
  clear hib hb2 hs2 hc
  go_enter Tryd.func97, Tryd.ntmps97
  go_wp2
  clear hmk
  go_loopw [6, 14] (fun p i wr => YmR L k gr w.heap.size w p i wr) (fun _ i _ => N - (intOf i).toNat)
  case atStart => exact HST.out
  case round =>
    obtain ⟨m, hm, rfl, rfl, hib, hbel⟩ := hrel
    clear HST
    rw [HLN.out.2] at hm
    by_cases hlt : m < N
    · have i1 : (m : Int) < (N : Int) := by omega
      have i2 : (0 : Int) ≤ (m : Int) := by omega
      have hcv := (HC.out.later hbel).cell m (by rw [cntV_len, HLN.out.2]; exact hlt)
      rw [cntV_at] at hcv
      have hce := cnt_all (L := L) (k := k) (m := n) m (by rw [HLN.out.1]; exact Nat.le_refl _)
      rw [hce] at hcv
      have hroom := bgN_room L k (i := m) (by rw [HLN.out.2]; exact hlt)
      rw [HLN.out.1] at hroom
      have hst := bgN_step L k m
      have hvl : (vrow (ptsV L k gr 0) (.slice none 0 0) m).length = N := by rw [vrow_len _ _ _ (by rw [ptsV_len, HLN.out.2]; omega), ptsV_len, HLN.out.2]
      have hvs := vrow_step (ptsV L k gr 0) (.slice none 0 0) m (by rw [ptsV_len, HLN.out.2]; exact hlt)
      rw [ptsV_at, cnt_zero] at hvs
      have hset := hib.set m (by rw [hvl]; exact hlt) (ptV gr (shL L k (m : Int)).length (bgN L k m) 0)
      rw [hvs] at hset
      have HS : Hid (YmR L k gr w.heap.size w (.int .i64 ((bgN L k m : Int) + ((shL L k (m : Int)).length : Int))) (.int .i64 ((m : Int) + 1)) (wr.setCell ⟨w.heap.size, m, none⟩ (ptV gr (shL L k (m : Int)).length (bgN L k m) 0))) :=
        ⟨m + 1, by rw [HLN.out.2]; omega, by simp, by rw [hst]; simp, hset, hbel.setCell (p := ⟨w.heap.size, m, none⟩) (Nat.le_refl _) _⟩
      have c0 := hib.cell m (by rw [hvl]; exact hlt)
      have f0 := hib.frozen m
      generalize (vrow (ptsV L k gr 0) (.slice none 0 0) m)[m]'(by rw [hvl]; exact hlt) = Y at *
      clear hset hvs hvl hce hib hbel HC
      generalize bgN L k m = S at *
      generalize (shL L k (m : Int)).length = C at *
      clear hst
      have j1 : (0 : Int) ≤ (S : Int) := by omega
      have j2 : (S : Int) + (C : Int) ≤ (n : Int) := by omega
      have j3 : (S : Int) ≤ (S : Int) + (C : Int) := by omega
      have j4 : (0 : Int) ≤ (S : Int) + (C : Int) := by omega
      go_wp2
      go_roundw
      case rel => exact HS.out
      case measure => simp [intOf]; omega
    · have hme : m = N := by omega
      subst hme
      have e : vrow (ptsV L k gr 0) (.slice none 0 0) m = ptsV L k gr 0 := by have := vrow_all (ptsV L k gr 0) (.slice none 0 0); rw [ptsV_len, HLN.out.2] at this; exact this
      rw [e] at hib
      have HF : Hid (VB 24 wr w.heap.size (ptsV L k gr 0)) := hib
      clear e hib HC
      go_wp2
      go_ret
      exact ⟨w.heap.size, rfl, Nat.le_refl _, HF.out, hbel⟩

theorem hset_other (b : Nat) : ∀ (vs : List Value) (o : Nat) (w : World) (k : Nat), k ≠ b → (w.setCells b o vs).heap[k]? = w.heap[k]?
  | [], _, _, _, _ => rfl
  | v :: r, o, w, k, hk => by
    rw [World.setCells, hset_other b r _ _ k hk]
    exact heap_setCell_other w ⟨b, o, none⟩ k v hk
theorem ptV_some {gr c s len : Nat} (h : 0 < c) : ptV gr c s len = .slice (some ⟨gr, s * 2, none⟩) len c := by unfold ptV; rw [if_neg (by omega)]
/-- a leaf appended where there is room, as one step of a region that draws its order -/
theorem step_leafRoom {w : World} {ops : Array Oper} {o : Oper} {a : Act} {K : Act → World → Prop} {Q : Exit → Act → World → Prop} {E : Prop} (hgd : o.guard = none) (s x : Operand)
    (ho : o.op = .call { callee := .builtin .append, args := #[s, x], argTypes := #[24, 24] })
    (gr off len cap p : Nat) (f : Le) (hs : a.eval s = .slice (some ⟨gr, off, none⟩) len cap) (hx : a.eval x = .slice (some ⟨p, 0, none⟩) 1 1)
    (hnews : w.rangeAt p 0 (lcs f)) (hroom : len + 1 ≤ cap) (hsp : w.there gr (off + len * 2) 2)
    (hk : K (a.put o.dst (.slice (some ⟨gr, off, none⟩) (len + 1) cap)) (w.setCells gr (off + len * 2) (lcs f))) : if Region.wanted o (yielded ops a.tmps) = true then Oper.wp Tryd.prog o a w K Q else E := by
  obtain ⟨i0, hi, hz0, hz1, hz2⟩ := info_parts Tryd.infoLeaf
  refine step_append_room hgd s x 24 ho 74 i0 2 Tryd.underlying24 hi hz1 gr off len cap hs ⟨p, 0, none⟩ 1 1 (lcs f) hx rfl ?_ (fun u hu => by simp [lcs] at hu; rcases hu with rfl | rfl <;> rfl) hroom ?_ hk
  · intro j u hj
    have := hnews j u hj
    rw [Addr.add_mid]
    exact this
  · intro j hj
    exact hsp j (by rw [lcs_len] at hj; exact hj)

/-- the first m leaves lie in their parts, which the row of parts tells -/
def YoI (L : List Le) (k : Int) (gs gr gp : Nat) (w : World) (m : Nat) (wr : World) : Prop := VB 3 wr gs (shV L k) ∧ Below w.heap.size w wr ∧ PtI L k gr m wr ∧ VB 24 wr gp (ptsV L k gr m) ∧ w.heap.size ≤ gs ∧ gs < gr ∧ gr < gp
theorem YoI.later {L : List Le} {k : Int} {gs gr gp m : Nat} {w wr W : World} (h : YoI L k gs gr gp w m wr) (hb : Below wr.heap.size wr W) : YoI L k gs gr gp w m W :=
  ⟨h.1.later hb, h.2.1.trans (hb.mono h.2.1.size), h.2.2.1.later hb, h.2.2.2.1.later hb, h.2.2.2.2⟩
/-- .. and one more -/
theorem YoI.step {L : List Le} {k : Int} {gs gr gp m : Nat} {w wr : World} (h : YoI L k gs gr gp w m wr) (hm : m < L.length) (X : Le) (hX : L[m] = X) :
    YoI L k gs gr gp w (m + 1) ((wr.setCells gr (bgN L k (shN X.n k) * 2 + cnt L k m (shN X.n k) * 2) (lcs X)).setCell ⟨gp, shN X.n k, none⟩ (ptV gr (shL L k (shN X.n k : Int)).length (bgN L k (shN X.n k)) (cnt L k m (shN X.n k) + 1))) := by
  subst hX
  obtain ⟨h1, h2, h3, h4, h5, h6, h7⟩ := h
  have hs := h3.step hm
  rw [Nat.add_mul] at hs
  have hne : gs ≠ gr := by omega
  have h1' := h1.kept (hset_other gr (lcs L[m]) (bgN L k (shN L[m].n k) * 2 + cnt L k m (shN L[m].n k) * 2) wr gs hne)
  have h4' := h4.kept (hset_other gr (lcs L[m]) (bgN L k (shN L[m].n k) * 2 + cnt L k m (shN L[m].n k) * 2) wr gp (by omega))
  have h2' := below_setCells (B := w.heap.size) (b := gr) (by omega) (lcs L[m]) (bgN L k (shN L[m].n k) * 2 + cnt L k m (shN L[m].n k) * 2) wr h2
  have h4'' := h4'.set (shN L[m].n k) (by rw [ptsV_len]; exact shN_lt _ _) (ptV gr (shL L k (shN L[m].n k : Int)).length (bgN L k (shN L[m].n k)) (cnt L k m (shN L[m].n k) + 1))
  rw [ptsV_step hm] at h4''
  refine ⟨h1'.other (p := gp) (by omega) _ _, h2'.setCell (p := ⟨gp, shN L[m].n k, none⟩) (by show w.heap.size ≤ gp; omega) _, hs.kept (heap_setCell_other _ ⟨gp, shN L[m].n k, none⟩ gr _ (by show gr ≠ gp; omega)) (by simp), h4'', h5, h6, h7⟩
def YoR (L : List Le) (k : Int) (gs gr gp : Nat) (w : World) (i : Value) (wr : World) : Prop := ∃ m : Nat, m ≤ L.length ∧ i = .int .i64 m ∧ Hid (YoI L k gs gr gp w m wr)

/-- the first m leaves are counted -/
def YnR (L : List Le) (k : Int) (gs gc : Nat) (w : World) (i : Value) (wr : World) : Prop := ∃ m : Nat, m ≤ L.length ∧ i = .int .i64 m ∧ Hid (VB 3 wr gs (vrow (shV L k) (.int .i64 0) m) ∧ VB 3 wr gc (cntV L k m) ∧ Below w.heap.size w wr ∧ w.heap.size ≤ gs ∧ gs < gc)

set_option maxRecDepth 100000 in
set_option maxHeartbeats 1000000 in
theorem splitLeaves_any (v : Value) (ga oa : Nat) (L : List Le) (k : Int) (w : World) (hv : RS 2 lcs w v ga oa L) (hsm : SmallL L) (hT : Tb w) :
    Calls Tryd.prog 70 #[v, .int .i64 k] w fun e w' => ∃ gp gr, e = .returned (.slice (some ⟨gp, 0, none⟩) (shC k) (shC k)) ∧ VB 24 w' gp (ptsV L k gr L.length) ∧ PtI L k gr L.length w' ∧ Below w.heap.size w w' := by
  have HV : Hid (RS 2 lcs w v ga oa L ∧ SmallL L ∧ Tb w) := ⟨hv, hsm, hT⟩
  obtain ⟨a, cap, rfl, hl, hA, _⟩ := hv
  obtain ⟨n, hn⟩ : ∃ n, L.length = n := ⟨_, rfl⟩
  have HA : Hid (0 < n → a = some ⟨ga, oa, none⟩ ∧ ga < w.heap.size) := by rw [← hn]; exact hA
  have HLN : Hid (L.length = n) := hn
  rw [hn] at hl HV ⊢
  clear hA hsm hT hn
  obtain ⟨w1, hmk1, hib1, hb1, hs1⟩ := VB.ints n (by omega) w
  have hsc := shardCount_any k w1
  obtain ⟨N, hN⟩ : ∃ N, shC k = N := ⟨_, rfl⟩
  have hN4 : 0 < N ∧ N ≤ 4 := by rcases shC_cases k with h | h | h <;> omega
  have HN : Hid (shC k = N) := hN
  rw [hN] at hsc ⊢
  obtain ⟨w2, hmk2, hib2, hb2, hs2⟩ := VB.ints N (by omega) w1
  have HST : Hid (YnR L k w.heap.size w1.heap.size w (.int .i64 0) w2) := by
    refine ⟨0, by omega, rfl, ?_, ?_, hb1.trans (hb2.mono hb1.size), Nat.le_refl _, by omega⟩
    · rw [vrow_zero, shV_len, HLN.out]
      exact hib1.later hb2
    · rw [cntV_zero, hN]
      exact hib2
  clear hib1 hb1 hib2 hb2 hN
  go_enter Tryd.func70, Tryd.ntmps70
  go_wp2_with fail
  refine hsc.mono ?_
  rintro e w3 ⟨rfl, hw3⟩
  obtain rfl := hw3.symm
  clear hsc hmk1
  obtain ⟨gs, hgs⟩ : ∃ gs, w.heap.size = gs := ⟨_, rfl⟩
  obtain ⟨gc, hgc⟩ : ∃ gc, w1.heap.size = gc := ⟨_, rfl⟩
  rw [hgs, hgc] at HST
  rw [hgs]
  rw [hgc] at hmk2
  go_wp2
  clear hmk2
  go_loopw [20] (fun i wr => YnR L k gs gc w i wr) (fun i _ => n - (intOf i).toNat)
  case atStart => exact HST.out
  case round =>
    obtain ⟨m, hm, rfl, HI⟩ := hrel
    clear HST
    rw [HLN.out] at hm
    by_cases hlt : m < n
    · obtain ⟨ea, hgw⟩ := HA.out (by omega)
      subst ea
      have hbel := HI.out.2.2.1
      obtain ⟨c0, c1⟩ := (HV.out.1.later hbel).leaf m (by rw [HLN.out]; exact hlt)
      obtain ⟨X, hX⟩ : ∃ X, L[m]'(by rw [HLN.out]; exact hlt) = X := ⟨_, rfl⟩
      rw [hX] at c0 c1
      have hxs := HV.out.2.1 X (by rw [← hX]; exact List.getElem_mem _)
      have i1 : (m : Int) < (n : Int) := by omega
      have i2 : (0 : Int) ≤ (m : Int) := by omega
      have hba : Below wr.heap.size wr (wr.alloc (.cells #[.string X.n, .string X.v] 74)) := (Below.refl _ _).alloc (Nat.le_refl _) _
      have hwa : Below w.heap.size w (wr.alloc (.cells #[.string X.n, .string X.v] 74)) := hbel.trans (hba.mono hbel.size)
      have hso := ShardOf_any X.n k _ hxs.1 (HV.out.2.2.later hwa)
      have hslt := shN_lt X.n k
      rw [HN.out] at hslt
      have hvs := vrow_step (shV L k) (.int .i64 0) m (by rw [shV_len, HLN.out]; exact hlt)
      rw [shV_at, hX] at hvs
      have hcs := cntV_step (L := L) (k := k) (m := m) (by rw [HLN.out]; exact hlt)
      rw [hX] at hcs
      have hvl : (vrow (shV L k) (.int .i64 0) m).length = n := by rw [vrow_len _ _ _ (by rw [shV_len, HLN.out]; omega), shV_len, HLN.out]
      have hcl := cntV_len L k m
      have hca := cntV_at L k m (shN X.n k) (by rw [hcl, HN.out]; exact hslt)
      have hcn : cnt L k m (shN X.n k) ≤ 1100000 := Nat.le_trans (cnt_le L k m _) (Nat.le_trans (shL_len _ _ _) (by rw [HLN.out]; exact hl))
      rw [HN.out] at hcl
      generalize shN X.n k = sh at *
      generalize cnt L k m sh = C at *
      have HO1 : Hid (VB 3 (wr.alloc (.cells #[.string X.n, .string X.v] 74)) gs (vrow (shV L k) (.int .i64 0) m) ∧ VB 3 (wr.alloc (.cells #[.string X.n, .string X.v] 74)) gc (cntV L k m) ∧ Below w.heap.size w (wr.alloc (.cells #[.string X.n, .string X.v] 74)) ∧ w.heap.size ≤ gs ∧ gs < gc) := ⟨HI.out.1.later hba, HI.out.2.1.later hba, hwa, HI.out.2.2.2⟩
      clear HV HA hX hba hwa HI hgw
      go_wp2_with fail
      refine hso.mono ?_
      rintro e w4 ⟨rfl, hb4⟩
      clear hso
      have b4 := HO1.out.2.2.1.trans (hb4.mono HO1.out.2.2.1.size)
      have v1 := HO1.out.1.later hb4
      have v2 := HO1.out.2.1.later hb4
      have hgg := HO1.out.2.2.2
      have c2 := v1.cell m (by rw [hvl]; exact hlt)
      have f2 := v1.frozen m
      have v1' := v1.set m (by rw [hvl]; exact hlt) (.int .i64 (sh : Int))
      rw [hvs] at v1'
      have v2' := v2.other (p := gs) (by omega) m (.int .i64 (sh : Int))
      have c3 := v2'.cell sh (by rw [hcl]; exact hslt)
      rw [hca] at c3
      have f3 := v2'.frozen sh
      have v2'' := v2'.set sh (by rw [hcl]; exact hslt) (.int .i64 ((C : Int) + 1))
      rw [hcs] at v2''
      have v1'' := v1'.other (p := gc) (by omega) sh (.int .i64 ((C : Int) + 1))
      have HS : Hid (VB 3 ((w4.setCell ⟨gs, m, none⟩ (.int .i64 (sh : Int))).setCell ⟨gc, sh, none⟩ (.int .i64 ((C : Int) + 1))) gs (vrow (shV L k) (.int .i64 0) (m + 1)) ∧ VB 3 ((w4.setCell ⟨gs, m, none⟩ (.int .i64 (sh : Int))).setCell ⟨gc, sh, none⟩ (.int .i64 ((C : Int) + 1))) gc (cntV L k (m + 1)) ∧ Below w.heap.size w ((w4.setCell ⟨gs, m, none⟩ (.int .i64 (sh : Int))).setCell ⟨gc, sh, none⟩ (.int .i64 ((C : Int) + 1))) ∧ w.heap.size ≤ gs ∧ gs < gc) :=
        ⟨v1'', v2'', (b4.setCell (p := ⟨gs, m, none⟩) (by show w.heap.size ≤ gs; omega) _).setCell (p := ⟨gc, sh, none⟩) (by show w.heap.size ≤ gc; omega) _, hgg⟩
      generalize (vrow (shV L k) (.int .i64 0) m)[m]'(by rw [hvl]; exact hlt) = Y at *
      clear v1 v2 v1' v2' v1'' v2'' hvs hcs hca hcl hvl b4 hb4 HO1 c0 c1
      have i3 : (sh : Int) < (N : Int) := by omega
      have i4 : (0 : Int) ≤ (sh : Int) := by omega
      go_wp2
      go_roundw
      case rel => exact ⟨m + 1, by rw [HLN.out]; omega, by go_num, HS⟩
      case measure => simp [intOf]; omega
    · have hme : m = n := by omega
      subst hme
      have e0 : vrow (shV L k) (.int .i64 0) m = shV L k := by have := vrow_all (shV L k) (.int .i64 0); rw [shV_len, HLN.out] at this; exact this
      have HI2 : Hid (VB 3 wr gs (shV L k) ∧ VB 3 wr gc (cntV L k m) ∧ Below w.heap.size w wr) := ⟨by rw [← e0]; exact HI.out.1, HI.out.2.1, HI.out.2.2.1⟩
      clear HI e0
      obtain ⟨w5, hmk5, hib5, hb5, hs5⟩ := made_leaves m hl wr
      have hep := emptyParts_any L k m N wr.heap.size gc w5 HLN.out HN.out hl (HI2.out.2.1.later hb5)
      have HG : Hid (VB 3 w5 gs (shV L k) ∧ Below w.heap.size w w5 ∧ PtI L k wr.heap.size 0 w5 ∧ w.heap.size ≤ gs ∧ gs < wr.heap.size) := ⟨HI2.out.1.later hb5, HI2.out.2.2.trans (hb5.mono HI2.out.2.2.size), PtI.zero (by rw [HLN.out]; exact hib5) (by omega), by omega, HI2.out.1.lt⟩
      obtain ⟨gr, hgr⟩ : ∃ gr, wr.heap.size = gr := ⟨_, rfl⟩
      rw [hgr] at hep HG hmk5
      clear hib5 hb5 HI2 hgr
      go_wp2_with fail
      refine hep.mono ?_
      rintro e w6 ⟨gp, rfl, hgp, hvp, hb6⟩
      have HST2 : Hid (YoR L k gs gr gp w (.int .i64 0) w6) := ⟨0, by omega, rfl, HG.out.1.later hb6, HG.out.2.1.trans (hb6.mono HG.out.2.1.size), HG.out.2.2.1.later hb6, hvp, HG.out.2.2.2.1, HG.out.2.2.2.2, by have := HG.out.2.2.1.2.2; omega⟩
      clear hep hvp hb6 hgp HG hmk5
      go_wp2
      go_loopw [49] (fun i wr => YoR L k gs gr gp w i wr) (fun i _ => m - (intOf i).toNat)
      case atStart => exact HST2.out
      case round =>
        obtain ⟨q, hq, rfl, HI⟩ := hrel
        clear HST2
        rw [HLN.out] at hq
        by_cases hlt2 : q < m
        · obtain ⟨ea, hgw⟩ := HA.out (by omega)
          subst ea
          have hql : q < L.length := by rw [HLN.out]; exact hlt2
          obtain ⟨c0, c1⟩ := (HV.out.1.later HI.out.2.1).leaf q hql
          have c2 := HI.out.1.cell q (by rw [shV_len]; exact hql)
          rw [shV_at] at c2
          obtain ⟨X, hX⟩ : ∃ X, L[q]'hql = X := ⟨_, rfl⟩
          have hlt3 := cnt_lt (k := k) hql
          rw [hX] at c0 c1 c2 hlt3
          have i1 : (q : Int) < (m : Int) := by omega
          have i2 : (0 : Int) ≤ (q : Int) := by omega
          have hslt := shN_lt X.n k
          have c3 := HI.out.2.2.2.1.cell (shN X.n k) (by rw [ptsV_len]; exact hslt)
          rw [ptsV_at, ptV_some (by omega)] at c3
          have hbb : Below wr.heap.size wr (wr.alloc (.cells #[.string X.n, .string X.v] 74)).drew := ((Below.refl _ _).alloc (Nat.le_refl _) _).drew
          have HI2 := HI.out.later hbb
          have d3 : (wr.alloc (.cells #[.string X.n, .string X.v] 74)).cell? ⟨gp, shN X.n k, none⟩ = some (.slice (some ⟨gr, bgN L k (shN X.n k) * 2, none⟩) (cnt L k q (shN X.n k)) (shL L k (shN X.n k : Int)).length) := by
            have := HI2.2.2.2.1.cell (shN X.n k) (by rw [ptsV_len]; exact hslt)
            rw [ptsV_at, ptV_some (by omega)] at this
            exact this
          have HRN : Hid ((wr.alloc (.cells #[.string X.n, .string X.v] 74)).drew.rangeAt wr.heap.size 0 (lcs X)) := range_new wr [.string X.n, .string X.v] 74
          have HTH : Hid ((wr.alloc (.cells #[.string X.n, .string X.v] 74)).drew.there gr (bgN L k (shN X.n k) * 2 + cnt L k q (shN X.n k) * 2) 2) := by
            have hr := bgN_room L k hslt
            have := HI2.2.2.1.2.1 (bgN L k (shN X.n k) + cnt L k q (shN X.n k)) (by omega)
            rw [Nat.add_mul] at this
            exact this
          have HNX : Hid (YoI L k gs gr gp w (q + 1) (((wr.alloc (.cells #[.string X.n, .string X.v] 74)).drew.setCells gr (bgN L k (shN X.n k) * 2 + cnt L k q (shN X.n k) * 2) (lcs X)).setCell ⟨gp, shN X.n k, none⟩ (.slice (some ⟨gr, bgN L k (shN X.n k) * 2, none⟩) (cnt L k q (shN X.n k) + 1) (shL L k (shN X.n k : Int)).length))) := by
            have := HI2.step hql X hX
            rw [ptV_some (by omega)] at this
            exact this
          have h4k := HI2.2.2.2.1.kept (hset_other gr (lcs X) (bgN L k (shN X.n k) * 2 + cnt L k q (shN X.n k) * 2) (wr.alloc (.cells #[.string X.n, .string X.v] 74)).drew gp (by have := HI2.2.2.2.2.2.2; omega))
          have e3 := h4k.cell (shN X.n k) (by rw [ptsV_len]; exact hslt)
          have f3 := h4k.frozen (shN X.n k)
          generalize (ptsV L k gr q)[shN X.n k]'(by rw [ptsV_len]; exact hslt) = Y at *
          rw [HN.out] at hslt
          clear hX h4k HI2 hbb HI HV HA hgw
          generalize bgN L k (shN X.n k) = S at *
          generalize cnt L k q (shN X.n k) = C1 at *
          generalize (shL L k (shN X.n k : Int)).length = C at *
          generalize shN X.n k = sh at *
          have i3 : (sh : Int) < (N : Int) := by omega
          have i4 : (0 : Int) ≤ (sh : Int) := by omega
          go_wp2
          go_region_law ((refine step_leafRoom rfl _ _ rfl gr (S * 2) C1 C wr.heap.size X (by rfl) (by rfl) HRN.out (by omega) HTH.out ?_))
          all_goals
            go_wp2
            go_roundw
            case rel => exact ⟨q + 1, by rw [HLN.out]; omega, by go_num, HNX⟩
            case measure => simp [intOf]; omega
        · have hqe : q = m := by omega
          subst hqe
          have HF : Hid (YoI L k gs gr gp w q wr) := HI
          clear HI HV HA
          go_wp2
          go_ret
          exact ⟨gp, gr, rfl, HF.out.2.2.2.1, HF.out.2.2.1, HF.out.2.1⟩

/-- a list answered -/
def LbP (M : List Le) (w : World) (e : Ending) (w' : World) : Prop := ∃ a cap g, e = .returned (.slice a M.length cap) ∧ RW 2 lcs w' (.slice a M.length cap) g M ∧ w.heap.size ≤ g ∧ Below w.heap.size w w'

/-- a part of the room, as a row -/
theorem PtI.row {L : List Le} {k : Int} {gr i : Nat} {W : World} (h : PtI L k gr L.length W) (hi : i < shC k) (hl : L.length ≤ 1100000) : RS 2 lcs W (ptV gr (shL L k (i : Int)).length (bgN L k i) (shL L k (i : Int)).length) gr (bgN L k i * 2) (shL L k (i : Int)) := by
  have h1 := h.1 i hi
  rw [List.take_length] at h1
  refine ⟨_, _, rfl, Nat.le_trans (shL_len L k _) hl, fun hp => ⟨by rw [if_neg (by omega)], h.2.2⟩, fun j hj => ?_⟩
  have := h1 j hj
  rw [Nat.add_mul] at this
  exact this

set_option maxRecDepth 100000 in
set_option maxHeartbeats 1000000 in
theorem ShardLeaves_any (v : Value) (ga oa : Nat) (L : List Le) (k i : Int) (w : World) (hv : RS 2 lcs w v ga oa L) (hsm : SmallL L) (hT : Tb w) :
    Calls Tryd.prog 30 #[v, .int .i64 k, .int .i64 i] w (LbP (shL L k i) w) := by
  have hl := hv.len
  have HM : Hid (LbP [] w (.returned (.slice (some ⟨w.heap.size, 0, none⟩) 0 0)) (w.alloc (.cells #[] 74))) := by
    have ho := OL.made w.heap.size w w (Below.refl _ _) (Nat.le_refl _)
    obtain ⟨gz, hrz, hgz, _⟩ := ho.rw (by simp)
    exact ⟨_, _, gz, rfl, hrz, hgz, ho.2.1⟩
  by_cases h0 : i < 0
  · rw [shL_none (.inl h0)]
    clear hv hsm hT
    go_enter Tryd.func30, Tryd.ntmps30
    go_wp2
    go_ret
    exact HM.out
  · by_cases h1 : (shC k : Int) ≤ i
    · rw [shL_none (.inr h1)]
      have hsc := shardCount_any k w
      generalize shC k = N at *
      clear hv hsm hT
      go_enter Tryd.func30, Tryd.ntmps30
      go_wp2_with fail
      refine hsc.mono ?_
      rintro e w1 ⟨rfl, rfl⟩
      go_wp2
      go_ret
      exact HM.out
    · obtain ⟨j, rfl⟩ : ∃ j : Nat, i = (j : Int) := ⟨i.toNat, by omega⟩
      have hj : j < shC k := by omega
      have hsc := shardCount_any k w
      have hsp := splitLeaves_any v ga oa L k w hv hsm hT
      have HJ : Hid (∀ gp gr W, VB 24 W gp (ptsV L k gr L.length) → PtI L k gr L.length W → W.cell? ⟨gp, j, none⟩ = some (ptV gr (shL L k (j : Int)).length (bgN L k j) (shL L k (j : Int)).length) ∧ Calls Tryd.prog 69 #[ptV gr (shL L k (j : Int)).length (bgN L k j) (shL L k (j : Int)).length] W fun e w' => ∃ g, e = .returned (.slice (some ⟨g, 0, none⟩) (shL L k (j : Int)).length (shL L k (j : Int)).length) ∧ W.heap.size ≤ g ∧ RW 2 lcs w' (.slice (some ⟨g, 0, none⟩) (shL L k (j : Int)).length (shL L k (j : Int)).length) g (shL L k (j : Int)) ∧ Below W.heap.size W w') := fun gp gr W h2 h3 => by
        have c := h2.cell j (by rw [ptsV_len]; exact hj)
        rw [ptsV_at, cnt_all j (Nat.le_refl _)] at c
        exact ⟨c, leavesCopy_any _ gr _ _ W (h3.row hj hl) (shL_small hsm)⟩
      generalize shL L k (j : Int) = M at *
      generalize bgN L k j = S at *
      obtain ⟨N, hN⟩ : ∃ N, shC k = N := ⟨_, rfl⟩
      rw [hN] at hsc hsp hj h1
      have i1 : (j : Int) < (N : Int) := by omega
      have i2 : (0 : Int) ≤ (j : Int) := by omega
      obtain ⟨a, cap, rfl⟩ := hv.shape
      clear hv hsm hT hN h1 HM
      go_enter Tryd.func30, Tryd.ntmps30
      go_wp2_with fail
      refine hsc.mono ?_
      rintro e w1 ⟨rfl, hw1⟩
      obtain rfl := hw1.symm
      clear hsc
      go_wp2_with fail
      refine hsp.mono ?_
      rintro e w2 ⟨gp, gr, rfl, hvp, hpt, hb2⟩
      obtain ⟨c0, hcp⟩ := HJ.out gp gr w2 hvp hpt
      generalize ptV gr M.length S M.length = P at *
      clear hsp HJ hvp hpt
      go_wp2_with fail
      refine hcp.mono ?_
      rintro e w3 ⟨g, rfl, hg, hr, hb3⟩
      have HF : Hid (LbP M w (.returned (.slice (some ⟨g, 0, none⟩) M.length M.length)) w3) := ⟨_, _, g, rfl, hr, by have := hb2.size; omega, hb2.trans (hb3.mono hb2.size)⟩
      clear hcp hr hb3 hg
      go_wp2
      go_ret
      exact HF.out

end Go.Proofs.YtmcejkfknbjjkaaDoor
/-
  The walk of the law FnExactShardLeaves: it answers true of every row of leaves and every split and shard.
-/
namespace Go.Proofs.YtmcejkfknbjjkaaDoor
open Go.RowKit Go.BigFrame Go.Sort
set_option linter.unusedVariables false
set_option linter.unusedSimpArgs false

theorem LbP.of {f : FuncId} {args : Array Value} {M : List Le} {w : World} (h : Calls Tryd.prog f args w fun e w' => ∃ u, e = .returned u ∧ OL w.heap.size w w' u M) (hl : M.length ≤ 1100000) : Calls Tryd.prog f args w (LbP M w) :=
  h.mono fun e w' ⟨u, he, ho⟩ => by
    obtain ⟨gz, hrz, hgz, _⟩ := ho.rw hl
    obtain ⟨az, cz, rfl⟩ := ho.shape
    exact ⟨az, cz, gz, he, hrz, hgz, ho.2.1⟩
theorem markB_one (v : Value) (g : Nat) (l : List Le) (w : World) (h : RW 2 lcs w v g l) :
    Calls Tryd.prog 32 #[v, .int .i64 1] w fun e w' => e = .returned (.int .i64 (1 + 2 * l.length : Nat)) ∧ RW 2 lcs w' v g (lmarks 1 l.length) ∧ w.grownBy w' (rowF g l.length) := markLeafS_any v g l 1 1 w rfl h (by omega) (by omega)
theorem heldB_one (v : Value) (g n : Nat) (w : World) (h : RW 2 lcs w v g (lmarks 1 n)) :
    Calls Tryd.prog 33 #[v, .int .i64 1] w fun e w' => e = .returned (.int .i64 (1 + 2 * n : Nat)) ∧ Below w.heap.size w w' := heldLeafS_any v g 1 1 n w rfl h.1 (by omega) (by omega)
/-- a row kept while another is marked -/
theorem RW.marksB {w w' : World} {v : Value} {g g2 n : Nat} {l : List Le} (h : RW 2 lcs w v g l) (hlt : 0 < l.length → 0 < n → g ≠ g2) (hg : w.grownBy w' (rowF g2 n)) : RW 2 lcs w' v g l := h.grown hg (fun hp => rowF_ne (fun hp2 => hlt hp hp2))

set_option maxRecDepth 100000 in
set_option maxHeartbeats 4000000 in
theorem shardLeavesLaw_any (v : Value) (g o : Nat) (L : List Le) (z i : Int) (w : World) (hT : Tb w) (hv : IsRowL w v g o L) :
    Calls Tryd.prog 5 #[v, .int .i64 z, .int .i64 i] w fun e w' => e = .returned (.bool true) ∧ Below w.heap.size w w' := by
  have HSZ := szLeafS_row v g o L 1048576 _ hv (by omega) (by omega)
  have hsv : ∃ a n cap, v = .slice a n cap := by obtain ⟨a, n, cap, h, _⟩ := hv; exact ⟨a, n, cap, h⟩
  obtain ⟨a, n, cap, rfl⟩ := hsv
  clear hv
  go_enter Tryd.func5, Tryd.ntmps5
  go_wp2_with fail
  refine HSZ.mono ?_
  rintro e w1 ⟨A, rfl, hb1, _, hA⟩
  clear HSZ
  by_cases hneg : A < 0
  · clear hA
    go_wp2
    go_ret
    exact ⟨rfl, hb1⟩
  · obtain ⟨hrs, hsm, hlen⟩ := hA (by omega)
    clear hA
    have HTO : Hid (∀ W, Below w.heap.size w W → Calls Tryd.prog 29 #[.slice a n cap] W fun e w' => ∃ g, e = .returned (.slice (some ⟨g, 0, none⟩) L.length L.length) ∧ RW 2 lcs w' (.slice (some ⟨g, 0, none⟩) L.length L.length) g L ∧ W.heap.size ≤ g ∧ Below W.heap.size W w') := fun W hW => toLeafS_in _ g o L W (hrs.later hW)
    have HCS : Hid (∀ W q, RS 2 lcs W (.slice (some ⟨q, 0, none⟩) L.length L.length) q 0 L → Calls Tryd.prog 15 #[.slice (some ⟨q, 0, none⟩) L.length L.length, .int .i64 z, .int .i64 i] W (LbP (shL L z i) W)) := fun W q h => LbP.of (sShardLeaves_any _ q 0 L z i W h hsm) (by have := shL_len L z i; omega)
    have HCI : Hid (∀ W q, Below w.heap.size w W → RS 2 lcs W (.slice (some ⟨q, 0, none⟩) L.length L.length) q 0 L → Calls Tryd.prog 30 #[.slice (some ⟨q, 0, none⟩) L.length L.length, .int .i64 z, .int .i64 i] W (LbP (shL L z i) W)) := fun W q hW h => ShardLeaves_any _ q 0 L z i W h hsm (hT.later hW)
    unfold LbP at HCS HCI
    generalize hMM : shL L z i = M at *
    clear hrs hsm hMM hT
    obtain ⟨k, hk⟩ : ∃ k, M.length = k := ⟨_, rfl⟩
    have HK : Hid (M.length = k) := hk
    simp only [hk] at HCS HCI
    clear hk
    go_wp2_with fail
    refine (HTO.out _ hb1).mono ?_
    rintro e w2 ⟨g2, rfl, hr2, _, hb2⟩
    have b2 := hb1.trans (hb2.mono hb1.size)
    go_wp2_with fail
    refine (HCS.out _ g2 hr2.1).mono ?_
    rintro e w3 ⟨a3, c3, g3, rfl, hr3, hg3, hb3⟩
    have HW3 : Hid (RW 2 lcs w3 (.slice a3 k c3) g3 M ∧ Below w.heap.size w w3) := ⟨hr3, b2.trans (hb3.mono b2.size)⟩
    clear hr2 hb2 b2 hr3 hg3 hb3 hb1 HCS
    go_wp2_with fail
    refine (HTO.out _ HW3.out.2).mono ?_
    rintro e w4 ⟨g4, rfl, hr4, hg4, hb4⟩
    have b4 := HW3.out.2.trans (hb4.mono HW3.out.2.size)
    have HW4 : Hid (RW 2 lcs w4 (.slice a3 k c3) g3 M ∧ RW 2 lcs w4 (.slice (some ⟨g4, 0, none⟩) L.length L.length) g4 L ∧ Below w.heap.size w w4 ∧ (0 < k → g3 < g4) ∧ w.heap.size ≤ g4) := ⟨HW3.out.1.later hb4, hr4, b4, fun hp => by have := HW3.out.1.lt (by rw [HK.out]; exact hp); omega, by have := HW3.out.2.size; omega⟩
    clear hr4 hg4 hb4 b4 HW3
    go_wp2_with fail
    refine (HCI.out _ g4 HW4.out.2.2.1 HW4.out.2.1.1).mono ?_
    rintro e w5 ⟨a5, c5, g5, rfl, hr5, hg5, hb5⟩
    have HW5 : Hid (RW 2 lcs w5 (.slice a3 k c3) g3 M ∧ RW 2 lcs w5 (.slice (some ⟨g4, 0, none⟩) L.length L.length) g4 L ∧ RW 2 lcs w5 (.slice a5 k c5) g5 M ∧ Below w.heap.size w w5 ∧ (0 < k → g3 < g4) ∧ (0 < L.length → g4 < g5) ∧ (0 < k → g3 < g5) ∧ w.heap.size ≤ g4 ∧ w.heap.size ≤ g5) :=
      ⟨HW4.out.1.later hb5, HW4.out.2.1.later hb5, hr5, HW4.out.2.2.1.trans (hb5.mono HW4.out.2.2.1.size), HW4.out.2.2.2.1, fun hp => by have := HW4.out.2.1.lt hp; omega, fun hp => by have := HW4.out.1.lt (by rw [HK.out]; exact hp); omega, HW4.out.2.2.2.2, by have := HW4.out.2.2.1.size; omega⟩
    clear hr5 hg5 hb5 HW4
    go_wp2_with fail
    refine (eqLeafS_yes _ _ g5 0 g3 0 M _ HW5.out.2.2.1.1 HW5.out.1.1).mono ?_
    rintro e w6 ⟨rfl, hb6⟩
    have HW6 : Hid (RW 2 lcs w6 (.slice a3 k c3) g3 M ∧ RW 2 lcs w6 (.slice (some ⟨g4, 0, none⟩) L.length L.length) g4 L ∧ RW 2 lcs w6 (.slice a5 k c5) g5 M ∧ Below w.heap.size w w6 ∧ (0 < k → g3 < g4) ∧ (0 < L.length → g4 < g5) ∧ (0 < k → g3 < g5) ∧ w.heap.size ≤ g4 ∧ w.heap.size ≤ g5) := by
      obtain ⟨h1, h2, h3, h4, h5⟩ := HW5.out
      exact ⟨h1.later hb6, h2.later hb6, h3.later hb6, h4.trans (hb6.mono h4.size), h5⟩
    clear hb6 HW5
    go_wp2_with fail
    refine (HTO.out _ HW6.out.2.2.2.1).mono ?_
    rintro e w7 ⟨g7, rfl, hr7, hg7, hb7⟩
    have HW7 : Hid (RW 2 lcs w7 (.slice a3 k c3) g3 M ∧ RW 2 lcs w7 (.slice (some ⟨g4, 0, none⟩) L.length L.length) g4 L ∧ RW 2 lcs w7 (.slice a5 k c5) g5 M ∧ Below w.heap.size w w7 ∧ (0 < k → g3 < g4) ∧ (0 < L.length → g4 < g5) ∧ (0 < k → g3 < g5) ∧ w.heap.size ≤ g4 ∧ w.heap.size ≤ g5) := by
      obtain ⟨h1, h2, h3, h4, h5⟩ := HW6.out
      exact ⟨h1.later hb7, h2.later hb7, h3.later hb7, h4.trans (hb7.mono h4.size), h5⟩
    clear hb7 HW6 hg7
    go_wp2_with fail
    refine (eqLeafS_yes _ _ g4 0 g7 0 L _ HW7.out.2.1.1 hr7.1).mono ?_
    rintro e w8 ⟨rfl, hb8⟩
    have HW8 : Hid (RW 2 lcs w8 (.slice a3 k c3) g3 M ∧ RW 2 lcs w8 (.slice (some ⟨g4, 0, none⟩) L.length L.length) g4 L ∧ RW 2 lcs w8 (.slice a5 k c5) g5 M ∧ Below w.heap.size w w8 ∧ (0 < k → g3 < g4) ∧ (0 < L.length → g4 < g5) ∧ (0 < k → g3 < g5) ∧ w.heap.size ≤ g4 ∧ w.heap.size ≤ g5) := by
      obtain ⟨h1, h2, h3, h4, h5⟩ := HW7.out
      exact ⟨h1.later hb8, h2.later hb8, h3.later hb8, h4.trans (hb8.mono h4.size), h5⟩
    clear hb8 HW7 hr7
    have hm8 := markB_one _ g4 L w8 HW8.out.2.1
    obtain ⟨A8, hA8⟩ : ∃ A8 : Int, ((1 + 2 * L.length : Nat) : Int) = A8 := ⟨_, rfl⟩
    have hA80 : ¬ A8 < 0 := by omega
    rw [hA8] at hm8
    clear hA8
    go_wp2_with fail
    refine hm8.mono ?_
    rintro e w9 ⟨rfl, hr9, hg9⟩
    have HW9 : Hid (RW 2 lcs w9 (.slice a3 k c3) g3 M ∧ RW 2 lcs w9 (.slice a5 k c5) g5 M ∧ Below w.heap.size w w9 ∧ (0 < k → g3 < g5) ∧ w.heap.size ≤ g5) := by
      obtain ⟨h1, h2, h3, h4, h5, h6, h7, h8, h10⟩ := HW8.out
      exact ⟨h1.marksB (fun hp _ => by have := h5 (by rw [← HK.out]; exact hp); omega) hg9, h3.marksB (fun _ hp => by have := h6 hp; omega) hg9, h4.grown hg9 h4.size (rowF_le h8), h7, h10⟩
    clear hm8 hr9 hg9 HW8
    go_wp2_with fail
    refine (eqLeafS_yes _ _ g5 0 g3 0 M _ HW9.out.2.1.1 HW9.out.1.1).mono ?_
    rintro e w10 ⟨rfl, hb10⟩
    have HW10 : Hid (RW 2 lcs w10 (.slice a3 k c3) g3 M ∧ RW 2 lcs w10 (.slice a5 k c5) g5 M ∧ Below w.heap.size w w10 ∧ (0 < k → g3 < g5) ∧ w.heap.size ≤ g5) := by
      obtain ⟨h1, h3, h4, h5⟩ := HW9.out
      exact ⟨h1.later hb10, h3.later hb10, h4.trans (hb10.mono h4.size), h5⟩
    clear hb10 HW9
    have hm10 := markB_one _ g5 M w10 HW10.out.2.1
    rw [HK.out] at hm10
    obtain ⟨A9, hA9⟩ : ∃ A9 : Int, ((1 + 2 * k : Nat) : Int) = A9 := ⟨_, rfl⟩
    have hA90 : ¬ A9 < 0 := by omega
    rw [hA9] at hm10
    have HHD : Hid (∀ W, RW 2 lcs W (.slice a5 k c5) g5 (lmarks 1 k) → Calls Tryd.prog 33 #[.slice a5 k c5, .int .i64 1] W fun e w' => e = .returned (.int .i64 A9) ∧ Below W.heap.size W w') := fun W h => by rw [← hA9]; exact heldB_one _ g5 k W h
    clear hA9
    go_wp2_with fail
    refine hm10.mono ?_
    rintro e w11 ⟨rfl, hr11, hg11⟩
    have HW11 : Hid (RW 2 lcs w11 (.slice a3 k c3) g3 M ∧ RW 2 lcs w11 (.slice a5 k c5) g5 (lmarks 1 k) ∧ Below w.heap.size w w11) := by
      obtain ⟨h1, h3, h4, h5, h6⟩ := HW10.out
      exact ⟨h1.marksB (fun _ hp => by have := h5 hp; omega) hg11, hr11, h4.grown hg11 h4.size (rowF_le h6)⟩
    clear hm10 hr11 hg11 HW10
    go_wp2_with fail
    refine (HHD.out _ HW11.out.2.1).mono ?_
    rintro e w12 ⟨rfl, hb12⟩
    have HW12 : Hid (RW 2 lcs w12 (.slice a3 k c3) g3 M ∧ RW 2 lcs w12 (.slice a5 k c5) g5 (lmarks 1 k) ∧ Below w.heap.size w w12) := by
      obtain ⟨h1, h3, h4⟩ := HW11.out
      exact ⟨h1.later hb12, h3.later hb12, h4.trans (hb12.mono h4.size)⟩
    clear hb12 HW11
    go_wp2_with fail
    refine (HTO.out _ HW12.out.2.2).mono ?_
    rintro e w13 ⟨g13, rfl, hr13, hg13, hb13⟩
    have HW13 : Hid (RW 2 lcs w13 (.slice a3 k c3) g3 M ∧ RW 2 lcs w13 (.slice a5 k c5) g5 (lmarks 1 k) ∧ Below w.heap.size w w13) := by
      obtain ⟨h1, h3, h4⟩ := HW12.out
      exact ⟨h1.later hb13, h3.later hb13, h4.trans (hb13.mono h4.size)⟩
    clear hb13 HW12 hg13 HTO
    go_wp2_with fail
    refine (HCI.out _ g13 HW13.out.2.2 hr13.1).mono ?_
    rintro e w14 ⟨a14, c14, g14, rfl, hr14, hg14, hb14⟩
    have HW14 : Hid (RW 2 lcs w14 (.slice a3 k c3) g3 M ∧ RW 2 lcs w14 (.slice a5 k c5) g5 (lmarks 1 k) ∧ Below w.heap.size w w14 ∧ RW 2 lcs w14 (.slice a14 k c14) g14 M) := by
      obtain ⟨h1, h3, h4⟩ := HW13.out
      exact ⟨h1.later hb14, h3.later hb14, h4.trans (hb14.mono h4.size), hr14⟩
    clear hb14 HW13 hr13 hr14 hg14 HCI
    go_wp2_with fail
    refine (eqLeafS_yes _ _ g14 0 g3 0 M _ HW14.out.2.2.2.1 HW14.out.1.1).mono ?_
    rintro e w15 ⟨rfl, hb15⟩
    have HW15 : Hid (RW 2 lcs w15 (.slice a5 k c5) g5 (lmarks 1 k) ∧ Below w.heap.size w w15) := ⟨HW14.out.2.1.later hb15, HW14.out.2.2.1.trans (hb15.mono HW14.out.2.2.1.size)⟩
    clear hb15 HW14
    go_wp2_with fail
    refine (HHD.out _ HW15.out.1).mono ?_
    rintro e w16 ⟨rfl, hb16⟩
    have b16 := HW15.out.2.trans (hb16.mono HW15.out.2.size)
    clear hb16 HW15 HHD
    go_wp2
    go_ret
    exact ⟨rfl, b16⟩

end Go.Proofs.YtmcejkfknbjjkaaDoor
