/-
  A place's hash, as the specification goes down.
-/
import Derived.Test.YtmhoilliaeefcaaDoorSpo
import Derived.Test.YtmhoilliaeefcaaDoorEh
namespace Go.Proofs.YtmhoilliaeefcaaDoor
open Go.RowKit Go.BigFrame Go.Sort
set_option linter.unusedVariables false
set_option linter.unusedSimpArgs false

theorem ndB_none {x : Int} {k p : Nat} {L : List Le} (h : TR.und idxL k p L = []) : ndB x k p L = empB x k := by
  unfold ndB
  cases k with
  | zero => unfold TR.nod; rw [h]; rfl
  | succ k => unfold TR.nod; rw [h]; rfl
theorem ndB_bucket {x : Int} {p : Nat} {L : List Le} (h : 0 < (TR.und idxL 0 p L).length) : ndB x 0 p L = bhB x (TR.und idxL 0 p L) := by
  unfold ndB TR.nod
  cases hu : TR.und idxL 0 p L with
  | nil => rw [hu] at h; simp at h
  | cons a t => rfl
theorem ndB_fork {x : Int} {k p : Nat} {L : List Le} (h : 0 < (TR.und idxL (k + 1) p L).length) : ndB x (k + 1) p L = hashB 3 [ndB x k (2 * p) (TR.und idxL (k + 1) p L), ndB x k (2 * p + 1) (TR.und idxL (k + 1) p L)] x := by
  unfold ndB
  rw [TR.nod]
  cases hu : TR.und idxL (k + 1) p L with
  | nil => rw [hu] at h; simp at h
  | cons a t => rfl
theorem idx_div (N k p : Nat) (l : Int) (hl : l + (k : Int) = 8) : ((N : Int) / 2 ^ (8 - l).toNat == (p : Int)) = decide (N / 2 ^ k = p) := by
  have e : (8 - l).toNat = k := by omega
  rw [e]
  have e2 : (N : Int) / 2 ^ k = ((N / 2 ^ k : Nat) : Int) := by simp
  rw [e2, Bool.eq_iff_iff, beq_iff_eq, decide_eq_true_iff]
  generalize N / 2 ^ k = q
  omega

/-- what l10Node answers at this height -/
def NdC (x : Int) (k : Nat) : Prop := ∀ (l : Int) (p : Nat) (v : Value) (ga oa : Nat) (L : List Le) (ve : Value) (ge : Nat) (w : World), l + (k : Int) = 8 → p < 100000 * 2 ^ (8 - k) → RS 3 scs w v ga oa L → SmallL L → L.length ≤ 24 → SS w ve ge 0 (emL x 0) →
    Calls Tryd.prog 75 #[v, .int .i64 l, .int .i64 (p : Int), .int .i64 x, ve] w fun e w' => e = .returned (.string (ndB x k p L)) ∧ Below w.heap.size w w'

def NdBR (w : World) (U : List Le) (u i : Value) (wr : World) : Prop := ∃ m : Nat, m ≤ U.length ∧ i = .int .i64 m ∧ Hid (OL w.heap.size w wr u (U.take m))

set_option maxRecDepth 100000 in
set_option maxHeartbeats 2000000 in
theorem l10Node_step (x : Int) (k : Nat) (hk8 : k ≤ 8) (IH : ∀ k', k = k' + 1 → NdC x k') : NdC x k := by
  intro l p v ga oa L ve ge w hlk hp hv hsm hl24 hve
  have HP : Hid (p < 100000 * 2 ^ (8 - k)) := hp
  have hpp : p ≤ 25600000 := by
    have : 2 ^ (8 - k) ≤ 2 ^ 8 := Nat.pow_le_pow_right (by omega) (by omega)
    omega
  have HV : Hid (RS 3 scs w v ga oa L ∧ SmallL L) := ⟨hv, hsm⟩
  have HE : Hid (SS w ve ge 0 (emL x 0)) := hve
  have HIH : Hid (∀ k', k = k' + 1 → NdC x k') := IH
  obtain ⟨a, cap, rfl, hl, hA, _⟩ := hv
  obtain ⟨ae, ce, rfl, _, hAe, hce⟩ := hve
  rw [emL_len] at hAe HE ⊢
  have eae := hAe (by omega)
  subst eae
  obtain ⟨n, hn⟩ : ∃ n, L.length = n := ⟨_, rfl⟩
  have HA : Hid (0 < n → a = some ⟨ga, oa, none⟩) := by rw [← hn]; exact fun h => (hA h).1
  have HN : Hid (L.length = n) := hn
  rw [hn] at hl hl24 HV ⊢
  have l0 : 0 ≤ l := by omega
  have l8 : l ≤ 8 := by omega
  have HL : Hid (l + (k : Int) = 8) := hlk
  clear hA hsm hn hAe hce IH hp
  have HST : Hid (NpR w L k p (.slice (some ⟨w.heap.size, 0, none⟩) 0 0) (.int .i64 0) (w.alloc (.cells #[] 125))) := ⟨0, by omega, rfl, OP.made w⟩
  obtain ⟨R, hR⟩ : ∃ R, ndB x k p L = R := ⟨_, rfl⟩
  have HR : Hid (ndB x k p L = R) := hR
  rw [hR]
  clear hR
  go_enter Tryd.func75, Tryd.ntmps75
  go_wp2
  go_loopw [11, 12] (fun u i wr => NpR w L k p u i wr) (fun _ i _ => n - (intOf i).toNat)
  case atStart => exact HST.out
  case round =>
    obtain ⟨m, hm, rfl, HI⟩ := hrel
    clear HST
    rw [HN.out] at hm
    obtain ⟨au, cu, hu⟩ := HI.out.shape
    subst hu
    have hul := und_len k p (L.take m)
    have hul2 : (L.take m).length ≤ 24 := by rw [List.length_take, HN.out]; omega
    by_cases hlt : m < n
    · have ea := HA.out (by omega)
      subst ea
      obtain ⟨c0, c1, c2⟩ := (HV.out.1.later HI.out.2.1).spot m (by rw [HN.out]; exact hlt)
      have hst := und_step (L := L) (m := m) k p (by rw [HN.out]; exact hlt)
      have HSC : Hid (scs (L[m]'(by rw [HN.out]; exact hlt)) = [.string (L[m]'(by rw [HN.out]; exact hlt)).n, .string (L[m]'(by rw [HN.out]; exact hlt)).v, .int .i64 (idxN (L[m]'(by rw [HN.out]; exact hlt)).n : Int)] ∧ idxL (L[m]'(by rw [HN.out]; exact hlt)) = idxN (L[m]'(by rw [HN.out]; exact hlt)).n) := ⟨rfl, rfl⟩
      generalize L[m]'(by rw [HN.out]; exact hlt) = X at *
      have i1 : (m : Int) < (n : Int) := by omega
      have i2 : (0 : Int) ≤ (m : Int) := by omega
      have hdv := idx_div (idxN X.n) k p l HL.out
      rw [HSC.out.2] at hst
      generalize idxN X.n = N at *
      have HLM : Hid ((TR.und idxL k p (L.take m)).length + 1 ≤ 1000000) := by show (TR.und idxL k p (L.take m)).length + 1 ≤ 1000000; omega
      clear HV HA hul hul2 HE HIH hlk
      by_cases hq : N / 2 ^ k = p
      · rw [if_pos hq] at hst
        rw [decide_eq_true hq] at hdv
        have HNX : Hid (∀ g cap W, OP w.heap.size w W (.slice (some ⟨g, 0, none⟩) ((TR.und idxL k p (L.take m)).length + 1) cap) (TR.und idxL k p (L.take m) ++ [X]) → NpR w L k p (.slice (some ⟨g, 0, none⟩) ((TR.und idxL k p (L.take m)).length + 1) cap) (.int .i64 ((m : Int) + 1)) W) := by
          rw [← hst]
          exact fun g cap W hW => ⟨m + 1, by rw [HN.out]; omega, by congr 1, hW⟩
        clear hst hq
        generalize TR.und idxL k p (L.take m) = U at *
        have hoa := HI.out.alloc (.cells #[.string X.n, .string X.v, .int .i64 (N : Int)] 125)
        have HRN : Hid ((wr.alloc (.cells #[.string X.n, .string X.v, .int .i64 (N : Int)] 125)).rangeAt wr.heap.size 0 (scs X)) := by
          show (wr.alloc (.cells #[.string X.n, .string X.v, .int .i64 (N : Int)] 125)).rangeAt wr.heap.size 0 (scs X)
          rw [HSC.out.1]
          exact range_new wr [.string X.n, .string X.v, .int .i64 (N : Int)] 125
        clear HI
        go_wp2_with (at_builtin; refine wp_spot rfl _ _ rfl w.heap.size w _ U X rfl hoa _ rfl HRN.out HLM.out ?_)
        intro g5 cap5 w5 ho5 hg5
        have HN2 : Hid (NpR w L k p (.slice (some ⟨g5, 0, none⟩) (U.length + 1) cap5) (.int .i64 ((m : Int) + 1)) w5) := HNX.out _ _ _ ho5
        clear HNX ho5 hg5 hoa HRN c0 c1 c2 HSC hdv
        go_wp2
        go_roundw
        case rel => exact HN2.out
        case measure => simp [intOf]; omega
      · rw [if_neg hq] at hst
        rw [decide_eq_false hq] at hdv
        have HN2 : Hid (NpR w L k p (.slice au (TR.und idxL k p (L.take m)).length cu) (.int .i64 ((m : Int) + 1)) wr) := by
          refine ⟨m + 1, by rw [HN.out]; omega, by congr 1, ?_⟩
          rw [hst]
          exact HI
        clear hst hq HI HSC HLM
        generalize (TR.und idxL k p (L.take m)).length = ul at *
        go_wp2
        go_roundw
        case rel => exact HN2.out
        case measure => simp [intOf]; omega
    · have hme : m = n := by omega
      have e : L.take m = L := List.take_of_length_le (by rw [HN.out]; omega)
      rw [e] at HI hul hul2 ⊢
      clear e
      have hbw := HI.out.2.1
      have HU : Hid (SmallL (TR.und idxL k p L)) := und_small HV.out.2
      have HEW : Hid (SS wr (.slice (some ⟨ge, 0, none⟩) 9 ce) ge 0 (emL x 0)) := HE.out.below hbw HE.out.lt
      have hul3 : (TR.und idxL k p L).length ≤ 24 := by omega
      subst hme
      clear HA HV HE hul hul2 HN
      by_cases hU : (TR.und idxL k p L).length = 0
      · have e0 : TR.und idxL k p L = [] := List.length_eq_zero_iff.1 hU
        have c0 : wr.cell? ⟨ge, 0 + l.toNat, none⟩ = some (.string R) := by
          obtain ⟨_, _, _, _, _, hcc⟩ := HEW.out
          have := hcc l.toNat (by rw [emL_len]; omega)
          rw [emL_at, if_pos (Nat.zero_le _), show 8 - l.toNat = k by omega, ← ndB_none e0, HR.out] at this
          exact this
        rw [Nat.zero_add] at c0
        rw [e0]
        have i9 : l < 9 := by omega
        clear HI HU HEW HIH HR e0 hU hul3
        go_wp2
        go_ret
        exact ⟨rfl, hbw⟩
      · have qU : (((TR.und idxL k p L).length : Int) == 0) = false := by simpa using hU
        by_cases hk0 : k = 0
        · subst hk0
          have el : l = 8 := by omega
          subst el
          have HRB : Hid (bhB x (TR.und idxL 0 p L) = R) := by
            show bhB x (TR.und idxL 0 p L) = R
            rw [← HR.out, ndB_bucket (by omega)]
          obtain ⟨gu, hrw, hgu, _⟩ := HI.out.rw (by omega)
          have HRW : Hid (RS 3 scs wr (.slice au (TR.und idxL 0 p L).length cu) gu 0 (TR.und idxL 0 p L)) := hrw.1
          have HST2 : Hid (NdBR wr (TR.und idxL 0 p L) (.slice (some ⟨wr.heap.size, 0, none⟩) 0 0) (.int .i64 0) (wr.alloc (.cells #[] 79))) := ⟨0, by omega, rfl, OL.made _ wr wr (Below.refl _ _) (Nat.le_refl _)⟩
          clear HI HR HIH hrw HEW HL hlk HP
          generalize TR.und idxL 0 p L = U at *
          obtain ⟨nu, hnu⟩ : ∃ nu, U.length = nu := ⟨_, rfl⟩
          have HNU : Hid (U.length = nu) := hnu
          rw [hnu] at hul3 HRW hU qU ⊢
          have eau : au = some ⟨gu, 0, none⟩ := by
            obtain ⟨a', c', hv', _, hA', _⟩ := HRW.out
            have := (hA' (by omega)).1
            simp at hv'
            rw [hv'.1, this]
          subst eau
          clear hnu
          rename World => W0
          go_wp2
          go_loopw [13, 14] (fun u i wz => NdBR W0 U u i wz) (fun _ i _ => nu - (intOf i).toNat)
          case atStart => exact HST2.out
          case round =>
            obtain ⟨j, hj, rfl, HJ⟩ := hrel
            clear HST2
            rw [HNU.out] at hj
            obtain ⟨ab, cb, hb⟩ := HJ.out.shape
            have hL : (U.take j).length = j := by rw [List.length_take, HNU.out]; omega
            rw [hL] at hb
            subst hb
            by_cases hjl : j < nu
            · obtain ⟨c0, c1, c2⟩ := (HRW.out.later HJ.out.2.1).spot j (by rw [HNU.out]; exact hjl)
              rw [Nat.zero_add] at c0 c1 c2
              have hst : U.take (j + 1) = U.take j ++ [U[j]'(by rw [HNU.out]; exact hjl)] := List.take_succ_eq_append_getElem _
              generalize U[j]'(by rw [HNU.out]; exact hjl) = X at *
              generalize (idxN X.n : Int) = N at *
              have i1 : (j : Int) < (nu : Int) := by omega
              have i2 : (0 : Int) ≤ (j : Int) := by omega
              have HNX : Hid (∀ g cap W, OL W0.heap.size W0 W (.slice (some ⟨g, 0, none⟩) ((U.take j).length + 1) cap) (U.take j ++ [X]) → NdBR W0 U (.slice (some ⟨g, 0, none⟩) ((U.take j).length + 1) cap) (.int .i64 ((j : Int) + 1)) W) := by
                rw [← hst]
                exact fun g cap W hW => ⟨j + 1, by rw [HNU.out]; omega, by congr 1, hW⟩
              have HLJ : Hid ((U.take j).length + 1 ≤ 1000000) := by show (U.take j).length + 1 ≤ 1000000; omega
              clear hst hL
              generalize U.take j = l2 at *
              have hoa := HJ.out.later ((Below.refl wr.heap.size wr).alloc (Nat.le_refl _) (.cells #[.string X.n, .string X.v] 79))
              have HRN : Hid ((wr.alloc (.cells #[.string X.n, .string X.v] 79)).rangeAt wr.heap.size 0 (lcs X)) := range_new wr [.string X.n, .string X.v] 79
              clear HJ HRB HU
              go_wp2_with (at_builtin; refine wp_leaf rfl _ _ rfl W0.heap.size W0 _ l2 X rfl hoa _ rfl HRN.out HLJ.out ?_)
              intro g5 cap5 w5 ho5 hg5
              have HN2 : Hid (NdBR W0 U (.slice (some ⟨g5, 0, none⟩) (l2.length + 1) cap5) (.int .i64 ((j : Int) + 1)) w5) := HNX.out _ _ _ ho5
              clear HNX ho5 hg5 hoa HRN c0 c1 c2
              go_wp2
              go_roundw
              case rel => exact HN2.out
              case measure => simp [intOf]; omega
            · have hje : j = nu := by omega
              have e : U.take j = U := List.take_of_length_le (by rw [HNU.out]; omega)
              rw [e] at HJ
              obtain ⟨gb, hrb, _, _⟩ := HJ.out.rw (by rw [HNU.out]; omega)
              have hq := sBucketHash_any _ gb 0 U x wr hrb.1 HU.out
              rw [HRB.out] at hq
              have hbz : Below w.heap.size w wr := hbw.trans (HJ.out.2.1.mono hbw.size)
              subst hje
              clear HJ hrb HRB HU HRW e hL
              go_wp2_with fail
              refine hq.mono ?_
              rintro e w2 ⟨rfl, hb2⟩
              clear hq
              go_wp2
              go_ret
              exact ⟨rfl, hbz.trans (hb2.mono hbz.size)⟩
        · obtain ⟨k', rfl⟩ : ∃ k', k = k' + 1 := ⟨k - 1, by omega⟩
          have hIH := HIH.out k' rfl
          have HRF : Hid (hashB 3 [ndB x k' (2 * p) (TR.und idxL (k' + 1) p L), ndB x k' (2 * p + 1) (TR.und idxL (k' + 1) p L)] x = R) := by
            show hashB 3 [ndB x k' (2 * p) (TR.und idxL (k' + 1) p L), ndB x k' (2 * p + 1) (TR.und idxL (k' + 1) p L)] x = R
            rw [← HR.out, ndB_fork (by omega)]
          obtain ⟨gu, hrw, hgu, _⟩ := HI.out.rw (by omega)
          have l9 : l < 8 := by omega
          have q8 : (l == 8) = false := by simp; omega
          have hp2 : 2 * p + 1 < 100000 * 2 ^ (8 - k') := by
            have h0 : p < 100000 * 2 ^ (8 - (k' + 1)) := HP.out
            have h1 : 1 ≤ 2 ^ (8 - (k' + 1)) := Nat.one_le_two_pow
            have e : 8 - k' = 8 - (k' + 1) + 1 := by omega
            rw [e, Nat.pow_succ]
            generalize 2 ^ (8 - (k' + 1)) = q at *
            omega
          have h1 := hIH (l + 1) (2 * p) _ gu 0 _ _ ge wr (by omega) (by omega) hrw.1 HU.out hul3 HEW.out
          have HS2 : Hid (∀ W, Below wr.heap.size wr W → Calls Tryd.prog 75 #[.slice au (TR.und idxL (k' + 1) p L).length cu, .int .i64 (l + 1), .int .i64 ((2 * p + 1 : Nat) : Int), .int .i64 x, .slice (some ⟨ge, 0, none⟩) 9 ce] W fun e w' => e = .returned (.string (ndB x k' (2 * p + 1) (TR.und idxL (k' + 1) p L))) ∧ Below W.heap.size W w') := fun W hW => hIH (l + 1) (2 * p + 1) _ gu 0 _ _ ge W (by omega) hp2 (hrw.1.later hW) HU.out hul3 (HEW.out.below hW HEW.out.lt)
          have e2p : ((2 * p : Nat) : Int) = 2 * (p : Int) := by omega
          have e2q : ((2 * p + 1 : Nat) : Int) = 2 * (p : Int) + 1 := by omega
          rw [e2p] at h1
          rw [e2q] at HS2
          clear HI HR HIH hIH hrw HEW HP HU hk0 hp2 e2p e2q HL hlk hU
          generalize (TR.und idxL (k' + 1) p L).length = ul at *
          generalize ndB x k' (2 * p) (TR.und idxL (k' + 1) p L) = A1 at *
          generalize ndB x k' (2 * p + 1) (TR.und idxL (k' + 1) p L) = A2 at *
          go_wp2_with fail
          refine h1.mono ?_
          rintro e w2 ⟨rfl, hb2⟩
          have h2 := HS2.out _ hb2
          clear h1 HS2
          go_wp2_with fail
          refine h2.mono ?_
          rintro e w3 ⟨rfl, hb3⟩
          have ht := sTagHash_w x 3 [A1, A2] 2 #[.string A1, .string A2] w3 _ rfl rfl (by omega) rfl
          rw [HRF.out] at ht
          have hbz : Below w.heap.size w w3 := (hbw.trans (hb2.mono hbw.size)).trans (hb3.mono (Nat.le_trans hbw.size hb2.size))
          clear h2 HRF hbw hb2 hb3
          go_wp2_with fail
          refine ht.out.mono ?_
          rintro e w4 ⟨rfl, hb4⟩
          go_wp2
          go_ret
          exact ⟨rfl, hbz.trans (hb4.mono hbz.size)⟩

theorem l10Node_any (x : Int) : ∀ (k : Nat), k ≤ 8 → NdC x k
  | 0, h => l10Node_step x 0 h (fun k' e => absurd e (by omega))
  | k + 1, h => l10Node_step x (k + 1) h (fun k' e => by
    have : k = k' := by omega
    subst this
    exact l10Node_any x k (by omega))

end Go.Proofs.YtmhoilliaeefcaaDoor
