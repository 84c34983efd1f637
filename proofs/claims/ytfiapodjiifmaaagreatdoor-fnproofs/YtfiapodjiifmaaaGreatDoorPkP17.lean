/-
  Texts laid together: Nd, Nh, Pw, Gr, Gn.
-/
import Derived.Test.YtfiapodjiifmaaaGreatDoorPkP16
import Derived.Test.YtfiapodjiifmaaaGreatDoorPkP6
/-
  A place's hash, as the specification goes down.
-/
namespace Go.Proofs.YtfiapodjiifmaaaGreatDoor
open Go.RowKit Go.BigFrame Go.Sort
set_option linter.unusedVariables false
set_option linter.unusedSimpArgs false

theorem ndB_none {x : Int} {k p : Nat} {L : List Le} (h : TR.und idxL k p L = []) : ndB x k p L = empB x k := by
  unfold ndB
  cases k with
  | zero => unfold TR.nod; rw [h]; rfl
  | succ k => unfold TR.nod; rw [h]; rfl
theorem ndB_bucket {x : Int} {p : Nat} {L : List Le} (h : 0 < (TR.und idxL 0 p L).length) : ndB x 0 p L = bhB x (TR.und idxL 0 p L) := by
  unfold ndB TR.nod
  cases hu : TR.und idxL 0 p L with
  | nil => rw [hu] at h; simp at h
  | cons a t => rfl
theorem ndB_fork {x : Int} {k p : Nat} {L : List Le} (h : 0 < (TR.und idxL (k + 1) p L).length) : ndB x (k + 1) p L = hashB 3 [ndB x k (2 * p) (TR.und idxL (k + 1) p L), ndB x k (2 * p + 1) (TR.und idxL (k + 1) p L)] x := by
  unfold ndB
  rw [TR.nod]
  cases hu : TR.und idxL (k + 1) p L with
  | nil => rw [hu] at h; simp at h
  | cons a t => rfl
theorem idx_div (N k p : Nat) (l : Int) (hl : l + (k : Int) = 8) : ((N : Int) / 2 ^ (8 - l).toNat == (p : Int)) = decide (N / 2 ^ k = p) := by
  have e : (8 - l).toNat = k := by omega
  rw [e]
  have e2 : (N : Int) / 2 ^ k = ((N / 2 ^ k : Nat) : Int) := by simp
  rw [e2, Bool.eq_iff_iff, beq_iff_eq, decide_eq_true_iff]
  generalize N / 2 ^ k = q
  omega

/-- what l10Node answers at this height -/
def NdC (x : Int) (k : Nat) : Prop := ∀ (l : Int) (p : Nat) (v : Value) (ga oa : Nat) (L : List Le) (ve : Value) (ge : Nat) (w : World), l + (k : Int) = 8 → p < 100000 * 2 ^ (8 - k) → RS 3 scs w v ga oa L → SmallL L → L.length ≤ 24 → SS w ve ge 0 (emL x 0) →
    Calls Tryz.prog 67 #[v, .int .i64 l, .int .i64 (p : Int), .int .i64 x, ve] w fun e w' => e = .returned (.string (ndB x k p L)) ∧ Below w.heap.size w w'

def NdBR (w : World) (U : List Le) (u i : Value) (wr : World) : Prop := ∃ m : Nat, m ≤ U.length ∧ i = .int .i64 m ∧ Hid (OL w.heap.size w wr u (U.take m))

set_option maxRecDepth 100000 in
set_option maxHeartbeats 2000000 in
theorem l10Node_step (x : Int) (k : Nat) (hk8 : k ≤ 8) (IH : ∀ k', k = k' + 1 → NdC x k') : NdC x k := by
  intro l p v ga oa L ve ge w hlk hp hv hsm hl24 hve
  have HP : Hid (p < 100000 * 2 ^ (8 - k)) := hp
  have hpp : p ≤ 25600000 := by
    have : 2 ^ (8 - k) ≤ 2 ^ 8 := Nat.pow_le_pow_right (by omega) (by omega)
    omega
  have HV : Hid (RS 3 scs w v ga oa L ∧ SmallL L) := ⟨hv, hsm⟩
  have HE : Hid (SS w ve ge 0 (emL x 0)) := hve
  have HIH : Hid (∀ k', k = k' + 1 → NdC x k') := IH
  obtain ⟨a, cap, rfl, hl, hA, _⟩ := hv
  obtain ⟨ae, ce, rfl, _, hAe, hce⟩ := hve
  rw [emL_len] at hAe HE ⊢
  have eae := hAe (by omega)
  subst eae
  obtain ⟨n, hn⟩ : ∃ n, L.length = n := ⟨_, rfl⟩
  have HA : Hid (0 < n → a = some ⟨ga, oa, none⟩) := by rw [← hn]; exact fun h => (hA h).1
  have HN : Hid (L.length = n) := hn
  rw [hn] at hl hl24 HV ⊢
  have l0 : 0 ≤ l := by omega
  have l8 : l ≤ 8 := by omega
  have HL : Hid (l + (k : Int) = 8) := hlk
  clear hA hsm hn hAe hce IH hp
  have HST : Hid (NpR w L k p (.slice (some ⟨w.heap.size, 0, none⟩) 0 0) (.int .i64 0) (w.alloc (.cells #[] 136))) := ⟨0, by omega, rfl, OP.made w⟩
  obtain ⟨R, hR⟩ : ∃ R, ndB x k p L = R := ⟨_, rfl⟩
  have HR : Hid (ndB x k p L = R) := hR
  rw [hR]
  clear hR
  go_enter Tryz.func67, Tryz.ntmps67
  go_wp2
  go_loopw [11, 12] (fun u i wr => NpR w L k p u i wr) (fun _ i _ => n - (intOf i).toNat)
  case atStart => exact HST.out
  case round =>
    obtain ⟨m, hm, rfl, HI⟩ := hrel
    clear HST
    rw [HN.out] at hm
    obtain ⟨au, cu, hu⟩ := HI.out.shape
    subst hu
    have hul := und_len k p (L.take m)
    have hul2 : (L.take m).length ≤ 24 := by rw [List.length_take, HN.out]; omega
    by_cases hlt : m < n
    · have ea := HA.out (by omega)
      subst ea
      obtain ⟨c0, c1, c2⟩ := (HV.out.1.later HI.out.2.1).spot m (by rw [HN.out]; exact hlt)
      have hst := und_step (L := L) (m := m) k p (by rw [HN.out]; exact hlt)
      have HSC : Hid (scs (L[m]'(by rw [HN.out]; exact hlt)) = [.string (L[m]'(by rw [HN.out]; exact hlt)).n, .string (L[m]'(by rw [HN.out]; exact hlt)).v, .int .i64 (idxN (L[m]'(by rw [HN.out]; exact hlt)).n : Int)] ∧ idxL (L[m]'(by rw [HN.out]; exact hlt)) = idxN (L[m]'(by rw [HN.out]; exact hlt)).n) := ⟨rfl, rfl⟩
      generalize L[m]'(by rw [HN.out]; exact hlt) = X at *
      have i1 : (m : Int) < (n : Int) := by omega
      have i2 : (0 : Int) ≤ (m : Int) := by omega
      have hdv := idx_div (idxN X.n) k p l HL.out
      rw [HSC.out.2] at hst
      generalize idxN X.n = N at *
      have HLM : Hid ((TR.und idxL k p (L.take m)).length + 1 ≤ 1000000) := by show (TR.und idxL k p (L.take m)).length + 1 ≤ 1000000; omega
      clear HV HA hul hul2 HE HIH hlk
      by_cases hq : N / 2 ^ k = p
      · rw [if_pos hq] at hst
        rw [decide_eq_true hq] at hdv
        have HNX : Hid (∀ g cap W, OP w.heap.size w W (.slice (some ⟨g, 0, none⟩) ((TR.und idxL k p (L.take m)).length + 1) cap) (TR.und idxL k p (L.take m) ++ [X]) → NpR w L k p (.slice (some ⟨g, 0, none⟩) ((TR.und idxL k p (L.take m)).length + 1) cap) (.int .i64 ((m : Int) + 1)) W) := by
          rw [← hst]
          exact fun g cap W hW => ⟨m + 1, by rw [HN.out]; omega, by congr 1, hW⟩
        clear hst hq
        generalize TR.und idxL k p (L.take m) = U at *
        have hoa := HI.out.alloc (.cells #[.string X.n, .string X.v, .int .i64 (N : Int)] 136)
        have HRN : Hid ((wr.alloc (.cells #[.string X.n, .string X.v, .int .i64 (N : Int)] 136)).rangeAt wr.heap.size 0 (scs X)) := by
          show (wr.alloc (.cells #[.string X.n, .string X.v, .int .i64 (N : Int)] 136)).rangeAt wr.heap.size 0 (scs X)
          rw [HSC.out.1]
          exact range_new wr [.string X.n, .string X.v, .int .i64 (N : Int)] 136
        clear HI
        go_wp2_with (at_builtin; refine wp_spot rfl _ _ rfl w.heap.size w _ U X rfl hoa _ rfl HRN.out HLM.out ?_)
        intro g5 cap5 w5 ho5 hg5
        have HN2 : Hid (NpR w L k p (.slice (some ⟨g5, 0, none⟩) (U.length + 1) cap5) (.int .i64 ((m : Int) + 1)) w5) := HNX.out _ _ _ ho5
        clear HNX ho5 hg5 hoa HRN c0 c1 c2 HSC hdv
        go_wp2
        go_roundw
        case rel => exact HN2.out
        case measure => simp [intOf]; omega
      · rw [if_neg hq] at hst
        rw [decide_eq_false hq] at hdv
        have HN2 : Hid (NpR w L k p (.slice au (TR.und idxL k p (L.take m)).length cu) (.int .i64 ((m : Int) + 1)) wr) := by
          refine ⟨m + 1, by rw [HN.out]; omega, by congr 1, ?_⟩
          rw [hst]
          exact HI
        clear hst hq HI HSC HLM
        generalize (TR.und idxL k p (L.take m)).length = ul at *
        go_wp2
        go_roundw
        case rel => exact HN2.out
        case measure => simp [intOf]; omega
    · have hme : m = n := by omega
      have e : L.take m = L := List.take_of_length_le (by rw [HN.out]; omega)
      rw [e] at HI hul hul2 ⊢
      clear e
      have hbw := HI.out.2.1
      have HU : Hid (SmallL (TR.und idxL k p L)) := und_small HV.out.2
      have HEW : Hid (SS wr (.slice (some ⟨ge, 0, none⟩) 9 ce) ge 0 (emL x 0)) := HE.out.below hbw HE.out.lt
      have hul3 : (TR.und idxL k p L).length ≤ 24 := by omega
      subst hme
      clear HA HV HE hul hul2 HN
      by_cases hU : (TR.und idxL k p L).length = 0
      · have e0 : TR.und idxL k p L = [] := List.length_eq_zero_iff.1 hU
        have c0 : wr.cell? ⟨ge, 0 + l.toNat, none⟩ = some (.string R) := by
          obtain ⟨_, _, _, _, _, hcc⟩ := HEW.out
          have := hcc l.toNat (by rw [emL_len]; omega)
          rw [emL_at, if_pos (Nat.zero_le _), show 8 - l.toNat = k by omega, ← ndB_none e0, HR.out] at this
          exact this
        rw [Nat.zero_add] at c0
        rw [e0]
        have i9 : l < 9 := by omega
        clear HI HU HEW HIH HR e0 hU hul3
        go_wp2
        go_ret
        exact ⟨rfl, hbw⟩
      · have qU : (((TR.und idxL k p L).length : Int) == 0) = false := by simpa using hU
        by_cases hk0 : k = 0
        · subst hk0
          have el : l = 8 := by omega
          subst el
          have HRB : Hid (bhB x (TR.und idxL 0 p L) = R) := by
            show bhB x (TR.und idxL 0 p L) = R
            rw [← HR.out, ndB_bucket (by omega)]
          obtain ⟨gu, hrw, hgu, _⟩ := HI.out.rw (by omega)
          have HRW : Hid (RS 3 scs wr (.slice au (TR.und idxL 0 p L).length cu) gu 0 (TR.und idxL 0 p L)) := hrw.1
          have HST2 : Hid (NdBR wr (TR.und idxL 0 p L) (.slice (some ⟨wr.heap.size, 0, none⟩) 0 0) (.int .i64 0) (wr.alloc (.cells #[] 53))) := ⟨0, by omega, rfl, OL.made _ wr wr (Below.refl _ _) (Nat.le_refl _)⟩
          clear HI HR HIH hrw HEW HL hlk HP
          generalize TR.und idxL 0 p L = U at *
          obtain ⟨nu, hnu⟩ : ∃ nu, U.length = nu := ⟨_, rfl⟩
          have HNU : Hid (U.length = nu) := hnu
          rw [hnu] at hul3 HRW hU qU ⊢
          have eau : au = some ⟨gu, 0, none⟩ := by
            obtain ⟨a', c', hv', _, hA', _⟩ := HRW.out
            have := (hA' (by omega)).1
            simp at hv'
            rw [hv'.1, this]
          subst eau
          clear hnu
          rename World => W0
          go_wp2
          go_loopw [13, 14] (fun u i wz => NdBR W0 U u i wz) (fun _ i _ => nu - (intOf i).toNat)
          case atStart => exact HST2.out
          case round =>
            obtain ⟨j, hj, rfl, HJ⟩ := hrel
            clear HST2
            rw [HNU.out] at hj
            obtain ⟨ab, cb, hb⟩ := HJ.out.shape
            have hL : (U.take j).length = j := by rw [List.length_take, HNU.out]; omega
            rw [hL] at hb
            subst hb
            by_cases hjl : j < nu
            · obtain ⟨c0, c1, c2⟩ := (HRW.out.later HJ.out.2.1).spot j (by rw [HNU.out]; exact hjl)
              rw [Nat.zero_add] at c0 c1 c2
              have hst : U.take (j + 1) = U.take j ++ [U[j]'(by rw [HNU.out]; exact hjl)] := List.take_succ_eq_append_getElem _
              generalize U[j]'(by rw [HNU.out]; exact hjl) = X at *
              generalize (idxN X.n : Int) = N at *
              have i1 : (j : Int) < (nu : Int) := by omega
              have i2 : (0 : Int) ≤ (j : Int) := by omega
              have HNX : Hid (∀ g cap W, OL W0.heap.size W0 W (.slice (some ⟨g, 0, none⟩) ((U.take j).length + 1) cap) (U.take j ++ [X]) → NdBR W0 U (.slice (some ⟨g, 0, none⟩) ((U.take j).length + 1) cap) (.int .i64 ((j : Int) + 1)) W) := by
                rw [← hst]
                exact fun g cap W hW => ⟨j + 1, by rw [HNU.out]; omega, by congr 1, hW⟩
              have HLJ : Hid ((U.take j).length + 1 ≤ 1000000) := by show (U.take j).length + 1 ≤ 1000000; omega
              clear hst hL
              generalize U.take j = l2 at *
              have hoa := HJ.out.later ((Below.refl wr.heap.size wr).alloc (Nat.le_refl _) (.cells #[.string X.n, .string X.v] 53))
              have HRN : Hid ((wr.alloc (.cells #[.string X.n, .string X.v] 53)).rangeAt wr.heap.size 0 (lcs X)) := range_new wr [.string X.n, .string X.v] 53
              clear HJ HRB HU
              go_wp2_with (at_builtin; refine wp_leaf rfl _ _ rfl W0.heap.size W0 _ l2 X rfl hoa _ rfl HRN.out HLJ.out ?_)
              intro g5 cap5 w5 ho5 hg5
              have HN2 : Hid (NdBR W0 U (.slice (some ⟨g5, 0, none⟩) (l2.length + 1) cap5) (.int .i64 ((j : Int) + 1)) w5) := HNX.out _ _ _ ho5
              clear HNX ho5 hg5 hoa HRN c0 c1 c2
              go_wp2
              go_roundw
              case rel => exact HN2.out
              case measure => simp [intOf]; omega
            · have hje : j = nu := by omega
              have e : U.take j = U := List.take_of_length_le (by rw [HNU.out]; omega)
              rw [e] at HJ
              obtain ⟨gb, hrb, _, _⟩ := HJ.out.rw (by rw [HNU.out]; omega)
              have hq := sBucketHash_any _ gb 0 U x wr hrb.1 HU.out
              rw [HRB.out] at hq
              have hbz : Below w.heap.size w wr := hbw.trans (HJ.out.2.1.mono hbw.size)
              subst hje
              clear HJ hrb HRB HU HRW e hL
              go_wp2_with fail
              refine hq.mono ?_
              rintro e w2 ⟨rfl, hb2⟩
              clear hq
              go_wp2
              go_ret
              exact ⟨rfl, hbz.trans (hb2.mono hbz.size)⟩
        · obtain ⟨k', rfl⟩ : ∃ k', k = k' + 1 := ⟨k - 1, by omega⟩
          have hIH := HIH.out k' rfl
          have HRF : Hid (hashB 3 [ndB x k' (2 * p) (TR.und idxL (k' + 1) p L), ndB x k' (2 * p + 1) (TR.und idxL (k' + 1) p L)] x = R) := by
            show hashB 3 [ndB x k' (2 * p) (TR.und idxL (k' + 1) p L), ndB x k' (2 * p + 1) (TR.und idxL (k' + 1) p L)] x = R
            rw [← HR.out, ndB_fork (by omega)]
          obtain ⟨gu, hrw, hgu, _⟩ := HI.out.rw (by omega)
          have l9 : l < 8 := by omega
          have q8 : (l == 8) = false := by simp; omega
          have hp2 : 2 * p + 1 < 100000 * 2 ^ (8 - k') := by
            have h0 : p < 100000 * 2 ^ (8 - (k' + 1)) := HP.out
            have h1 : 1 ≤ 2 ^ (8 - (k' + 1)) := Nat.one_le_two_pow
            have e : 8 - k' = 8 - (k' + 1) + 1 := by omega
            rw [e, Nat.pow_succ]
            generalize 2 ^ (8 - (k' + 1)) = q at *
            omega
          have h1 := hIH (l + 1) (2 * p) _ gu 0 _ _ ge wr (by omega) (by omega) hrw.1 HU.out hul3 HEW.out
          have HS2 : Hid (∀ W, Below wr.heap.size wr W → Calls Tryz.prog 67 #[.slice au (TR.und idxL (k' + 1) p L).length cu, .int .i64 (l + 1), .int .i64 ((2 * p + 1 : Nat) : Int), .int .i64 x, .slice (some ⟨ge, 0, none⟩) 9 ce] W fun e w' => e = .returned (.string (ndB x k' (2 * p + 1) (TR.und idxL (k' + 1) p L))) ∧ Below W.heap.size W w') := fun W hW => hIH (l + 1) (2 * p + 1) _ gu 0 _ _ ge W (by omega) hp2 (hrw.1.later hW) HU.out hul3 (HEW.out.below hW HEW.out.lt)
          have e2p : ((2 * p : Nat) : Int) = 2 * (p : Int) := by omega
          have e2q : ((2 * p + 1 : Nat) : Int) = 2 * (p : Int) + 1 := by omega
          rw [e2p] at h1
          rw [e2q] at HS2
          clear HI HR HIH hIH hrw HEW HP HU hk0 hp2 e2p e2q HL hlk hU
          generalize (TR.und idxL (k' + 1) p L).length = ul at *
          generalize ndB x k' (2 * p) (TR.und idxL (k' + 1) p L) = A1 at *
          generalize ndB x k' (2 * p + 1) (TR.und idxL (k' + 1) p L) = A2 at *
          go_wp2_with fail
          refine h1.mono ?_
          rintro e w2 ⟨rfl, hb2⟩
          have h2 := HS2.out _ hb2
          clear h1 HS2
          go_wp2_with fail
          refine h2.mono ?_
          rintro e w3 ⟨rfl, hb3⟩
          have ht := sTagHash_w x 3 [A1, A2] 2 #[.string A1, .string A2] w3 _ rfl rfl (by omega) rfl
          rw [HRF.out] at ht
          have hbz : Below w.heap.size w w3 := (hbw.trans (hb2.mono hbw.size)).trans (hb3.mono (Nat.le_trans hbw.size hb2.size))
          clear h2 HRF hbw hb2 hb3
          go_wp2_with fail
          refine ht.out.mono ?_
          rintro e w4 ⟨rfl, hb4⟩
          go_wp2
          go_ret
          exact ⟨rfl, hbz.trans (hb4.mono hbz.size)⟩

theorem l10Node_any (x : Int) : ∀ (k : Nat), k ≤ 8 → NdC x k
  | 0, h => l10Node_step x 0 h (fun k' e => absurd e (by omega))
  | k + 1, h => l10Node_step x (k + 1) h (fun k' e => by
    have : k = k' := by omega
    subst this
    exact l10Node_any x k (by omega))

end Go.Proofs.YtfiapodjiifmaaaGreatDoor
/-
  What NodeHash, RootOf and SidesOf answer: the specification's.
-/
namespace Go.Proofs.YtfiapodjiifmaaaGreatDoor
open Go.RowKit Go.BigFrame Go.Sort
set_option linter.unusedVariables false
set_option linter.unusedSimpArgs false

/-- a place's hash, as the two below it have it -/
noncomputable def trB (x : Int) (k p : Nat) (L : List Le) : ByteArray := TR.tr idxL (hnB x) (bhB x) k p L
theorem leaves_none : LV.leavesB [] = true := LV.leavesB_iff.2 ⟨by simp, fun f hf => by simp at hf, List.Pairwise.nil⟩
theorem bhB_none (x : Int) : bhB x [] = hashB 1 [] x := by
  rw [bhB_yes leaves_none]
  unfold hashB
  rw [none_ok]
  rfl
theorem nd_tr (x : Int) (k p : Nat) (L : List Le) : ndB x k p L = trB x k p L := TR.nod_tr (bhB_none x) k p L
theorem tr_emp {x : Int} {k p : Nat} {L : List Le} (h : TR.und idxL k p L = []) : trB x k p L = empB x k := TR.tr_none (bhB_none x) k p L h
/-- what NodeHash is -/
noncomputable def nhB (L : List Le) (l p x : Int) : ByteArray := if LV.leavesB L = true ∧ (0 ≤ l ∧ l ≤ 8) ∧ (0 ≤ p ∧ p < 2 ^ l.toNat) ∧ 1 ≤ x ∧ x ≤ 32 then trB x (8 - l.toNat) p.toNat L else ⟨#[]⟩

theorem pow_le8 {l : Int} (h : l ≤ 8) : (2 : Int) ^ l.toNat ≤ 256 := by
  have h1 : (2 : Nat) ^ l.toNat ≤ 2 ^ 8 := Nat.pow_le_pow_right (by omega) (by omega)
  have h2 : ((2 ^ l.toNat : Nat) : Int) = (2 : Int) ^ l.toNat := by simp
  omega

set_option maxRecDepth 100000 in
set_option maxHeartbeats 1000000 in
theorem sNodeHash_yes (v : Value) (ga oa : Nat) (L : List Le) (l p x : Int) (w : World) (hv : RS 2 lcs w v ga oa L) (hsm : SmallL L) (h1 : LV.leavesB L = true) (h2 : 0 ≤ l ∧ l ≤ 8) (h3 : 0 ≤ p ∧ p < 2 ^ l.toNat) (h4 : 1 ≤ x ∧ x ≤ 32) :
    Calls Tryz.prog 42 #[v, .int .i64 l, .int .i64 p, .int .i64 x] w fun e w' => e = .returned (.string (trB x (8 - l.toNat) p.toNat L)) ∧ Below w.heap.size w w' := by
  have hc := sLeavesOk_any v ga oa L w hv hsm
  rw [h1] at hc
  have HV : Hid (RS 2 lcs w v ga oa L ∧ SmallL L ∧ LV.LOk L) := ⟨hv, hsm, LV.leavesB_iff.1 h1⟩
  obtain ⟨a, cap, rfl, hl, _⟩ := hv
  have d1 : decide (0 ≤ l ∧ l ≤ 8) = true := by simpa using h2
  have d2 : decide (1 ≤ x ∧ x ≤ 32) = true := by simpa using h4
  have hpw := pow_le8 h2.2
  clear hsm h1
  go_enter Tryz.func42, Tryz.ntmps42
  go_wp2_with fail
  refine hc.mono ?_
  rintro e w1 ⟨rfl, hb1⟩
  clear hc
  go_wp2_with fail
  refine (l01In_any _ _ _ _).mono ?_
  rintro e w2 ⟨rfl, rfl⟩
  rw [d1]
  have dp : decide (p < 0) = false := by simp; omega
  have dq : decide (2 ^ l.toNat ≤ p) = false := by simp; omega
  go_wp2_with fail
  refine (l01In_any _ _ _ _).mono ?_
  rintro e w2 ⟨rfl, rfl⟩
  rw [d2]
  have hs := l10Spots_any _ ga oa L w2 (HV.out.1.later hb1) HV.out.2.1 HV.out.2.2.1
  go_wp2_with fail
  refine hs.mono ?_
  rintro e w3 ⟨u, rfl, ho3⟩
  have he := l10Empties_any x w3
  clear hs
  go_wp2_with fail
  refine he.mono ?_
  rintro e w4 ⟨ge, rfl, hge, htb, hb4⟩
  have hb14 : Below w.heap.size w w4 := (hb1.trans (ho3.2.1.mono hb1.size)).trans (hb4.mono (Nat.le_trans hb1.size ho3.2.2))
  obtain ⟨gu, hrw, _, _⟩ := ho3.rw (Nat.le_trans HV.out.2.2.1 (by omega))
  have hn := l10Node_any x (8 - l.toNat) (by omega) l p.toNat u gu 0 L _ ge w4 (by omega) ?hpl (hrw.1.later hb4) HV.out.2.1 HV.out.2.2.1 (htb.ss 9 9 (emL_len x 0) (by omega))
  case hpl =>
    have e8 : 8 - (8 - l.toNat) = l.toNat := by omega
    rw [e8]
    have h5 : ((2 ^ l.toNat : Nat) : Int) = (2 : Int) ^ l.toNat := by simp
    have h6 := h3.2
    generalize 2 ^ l.toNat = q at *
    omega
  have ep : ((p.toNat : Nat) : Int) = p := by omega
  rw [ep, nd_tr] at hn
  clear he ho3 hrw htb HV
  go_wp2_with fail
  refine hn.mono ?_
  rintro e w5 ⟨rfl, hb5⟩
  clear hn
  go_wp2
  go_ret
  exact ⟨rfl, hb14.trans (hb5.mono hb14.size)⟩

theorem sNodeHash_any (v : Value) (ga oa : Nat) (L : List Le) (l p x : Int) (w : World) (hv : RS 2 lcs w v ga oa L) (hsm : SmallL L) :
    Calls Tryz.prog 42 #[v, .int .i64 l, .int .i64 p, .int .i64 x] w fun e w' => e = .returned (.string (nhB L l p x)) ∧ Below w.heap.size w w' := by
  unfold nhB
  have hc := sLeavesOk_any v ga oa L w hv hsm
  cases h1 : LV.leavesB L with
  | false =>
    rw [if_neg (fun h => by simp at h)]
    rw [h1] at hc
    obtain ⟨a, cap, rfl, hl, _⟩ := hv
    clear hsm h1
    go_enter Tryz.func42, Tryz.ntmps42
    go_wp2_with fail
    refine hc.mono ?_
    rintro e w1 ⟨rfl, hb1⟩
    clear hc
    go_wp2
    go_ret
    exact ⟨rfl, hb1⟩
  | true =>
    by_cases h2 : 0 ≤ l ∧ l ≤ 8
    · by_cases h3 : 0 ≤ p ∧ p < 2 ^ l.toNat
      · by_cases h4 : 1 ≤ x ∧ x ≤ 32
        · rw [if_pos ⟨rfl, h2, h3, h4⟩]
          exact sNodeHash_yes v ga oa L l p x w hv hsm h1 h2 h3 h4
        · rw [if_neg (fun h => h4 h.2.2.2)]
          rw [h1] at hc
          obtain ⟨a, cap, rfl, hl, _⟩ := hv
          have d1 : decide (0 ≤ l ∧ l ≤ 8) = true := by simpa using h2
          have d2 : decide (1 ≤ x ∧ x ≤ 32) = false := by simpa using h4
          have hpw := pow_le8 h2.2
          have dp : decide (p < 0) = false := by simp; omega
          have dq : decide (2 ^ l.toNat ≤ p) = false := by simp; omega
          clear hsm h1
          go_enter Tryz.func42, Tryz.ntmps42
          go_wp2_with fail
          refine hc.mono ?_
          rintro e w1 ⟨rfl, hb1⟩
          clear hc
          go_wp2_with fail
          refine (l01In_any _ _ _ _).mono ?_
          rintro e w2 ⟨rfl, rfl⟩
          rw [d1]
          go_wp2_with fail
          refine (l01In_any _ _ _ _).mono ?_
          rintro e w2 ⟨rfl, rfl⟩
          rw [d2]
          go_wp2
          go_ret
          exact ⟨rfl, hb1⟩
      · rw [if_neg (fun h => h3 h.2.2.1)]
        rw [h1] at hc
        obtain ⟨a, cap, rfl, hl, _⟩ := hv
        have d1 : decide (0 ≤ l ∧ l ≤ 8) = true := by simpa using h2
        have hpw := pow_le8 h2.2
        by_cases hp0 : p < 0
        · have dp : decide (p < 0) = true := by simpa using hp0
          clear hsm h1 h3
          go_enter Tryz.func42, Tryz.ntmps42
          go_wp2_with fail
          refine hc.mono ?_
          rintro e w1 ⟨rfl, hb1⟩
          clear hc
          go_wp2_with fail
          refine (l01In_any _ _ _ _).mono ?_
          rintro e w2 ⟨rfl, rfl⟩
          rw [d1]
          go_wp2
          go_ret
          exact ⟨rfl, hb1⟩
        · have dp : decide (p < 0) = false := by simpa using hp0
          have dq : (2 : Int) ^ l.toNat ≤ p := by omega
          have hpos : (0 : Int) < 2 ^ l.toNat := Int.pow_pos (by omega)
          clear hsm h1 h3
          go_enter Tryz.func42, Tryz.ntmps42
          go_wp2_with fail
          refine hc.mono ?_
          rintro e w1 ⟨rfl, hb1⟩
          clear hc
          go_wp2_with fail
          refine (l01In_any _ _ _ _).mono ?_
          rintro e w2 ⟨rfl, rfl⟩
          rw [d1]
          go_wp2
          go_ret
          exact ⟨rfl, hb1⟩
    · rw [if_neg (fun h => h2 h.2.1)]
      rw [h1] at hc
      obtain ⟨a, cap, rfl, hl, _⟩ := hv
      have d1 : decide (0 ≤ l ∧ l ≤ 8) = false := by simpa using h2
      clear hsm h1 h2
      go_enter Tryz.func42, Tryz.ntmps42
      go_wp2_with fail
      refine hc.mono ?_
      rintro e w1 ⟨rfl, hb1⟩
      clear hc
      go_wp2_with fail
      refine (l01In_any _ _ _ _).mono ?_
      rintro e w2 ⟨rfl, rfl⟩
      rw [d1]
      go_wp2
      go_ret
      exact ⟨rfl, hb1⟩

theorem sRootOf_any (v : Value) (ga oa : Nat) (L : List Le) (x : Int) (w : World) (hv : RS 2 lcs w v ga oa L) (hsm : SmallL L) :
    Calls Tryz.prog 15 #[v, .int .i64 x] w fun e w' => e = .returned (.string (nhB L 0 0 x)) ∧ Below w.heap.size w w' := by
  have hc := sNodeHash_any v ga oa L 0 0 x w hv hsm
  obtain ⟨a, cap, rfl, hl, _⟩ := hv
  generalize nhB L 0 0 x = T at *
  clear hsm
  go_enter Tryz.func15, Tryz.ntmps15
  go_wp2_with fail
  refine hc.mono ?_
  rintro e w1 ⟨rfl, hb1⟩
  go_wp2
  go_ret
  exact ⟨rfl, hb1⟩

namespace TR
variable {α : Type} {β : Type} {idx : α → Nat} {hN : β → β → β} {hB : List α → β}
theorem sides_snoc (x : Nat) (l : List α) : ∀ (n k : Nat), sides idx hN hB x l k (n + 1) = sides idx hN hB x l k n ++ [tr idx hN hB (k + n) (oth (x / 2 ^ (k + n))) l]
  | 0, k => rfl
  | n + 1, k => by
    have h := sides_snoc x l n (k + 1)
    rw [show k + 1 + n = k + (n + 1) by omega] at h
    show tr idx hN hB k (oth (x / 2 ^ k)) l :: sides idx hN hB x l (k + 1) (n + 1) = _
    rw [h]
    rfl
end TR
/-- the sides of index x, n of them from below -/
noncomputable def sdL (x : Int) (ix : Nat) (L : List Le) (n : Nat) : List ByteArray := TR.sides idxL (hnB x) (bhB x) ix L 0 n
theorem sdL_len (x : Int) (ix : Nat) (L : List Le) (n : Nat) : (sdL x ix L n).length = n := TR.sides_len ix L n 0
theorem sdL_up (x : Int) (ix : Nat) (L : List Le) (n : Nat) : sdL x ix L (n + 1) = sdL x ix L n ++ [trB x n (TR.oth (ix / 2 ^ n)) L] := by
  unfold sdL trB
  rw [TR.sides_snoc, Nat.zero_add]
theorem xor_b (q : Nat) (h : q ≤ 255) : bits BinOp.xor IntKind.i64 (q : Int) 1 = ((TR.oth q : Nat) : Int) := by
  rw [← TR.oth_xor q (by omega)]
  have : ∀ q : Fin 256, bits BinOp.xor IntKind.i64 ((q.val : Nat) : Int) 1 = ((q.val ^^^ 1 : Nat) : Int) := by decide +kernel
  exact this ⟨q, by omega⟩
theorem oth_le (q : Nat) : TR.oth q ≤ q + 1 := by unfold TR.oth; split <;> omega

section
variable {w : World} {ops : Array Oper} {o : Oper} {a : Act} {K : Act → World → Prop} {Q : Exit → Act → World → Prop}
theorem one_txt {w : World} {p : Nat} {t : ByteArray} (h : w.cell? ⟨p, 0, none⟩ = some (.string t)) : ∀ j u, [Value.string t][j]? = some u → w.cell? ((⟨p, 0, none⟩ : Addr).add j) = some u := by
  intro j u hj
  match j, hj with
  | 0, hj =>
    simp at hj
    subst hj
    rw [Addr.add_mid]
    exact h
/-- a text appended, and where the row lies then: as one step of a region that draws its order -/
theorem step_txtL {E : Prop} (hgd : o.guard = none) (s x : Operand)
    (ho : o.op = .call { callee := .builtin .append, args := #[s, x], argTypes := #[27, 27] })
    (B : Nat) (w0 : World) (u : Value) (l : List ByteArray) (t : ByteArray) (hs : a.eval s = u) (h : OS B w0 w u l) (p : Nat) (hx : a.eval x = .slice (some ⟨p, 0, none⟩) 1 1)
    (hnews : w.cell? ⟨p, 0, none⟩ = some (.string t)) (hlen : l.length + 1 ≤ 1000000)
    (hk : ∀ g cap w', OS B w0 w' (.slice (some ⟨g, 0, none⟩) (l.length + 1) cap) (l ++ [t]) → w.grownBy w' u.ownBlock → (u.ownBlock = some g ∨ g = w.heap.size) → K (a.put o.dst (.slice (some ⟨g, 0, none⟩) (l.length + 1) cap)) w') : if Region.wanted o (yielded ops a.tmps) = true then Oper.wp Tryz.prog o a w K Q else E := by
  obtain ⟨i0, hi, hz0, hz1, hz2⟩ := info_parts Tryz.info9
  refine step_append_lies w hgd s x 27 ho B 9 i0 (.string ByteArray.empty) 1 16 Tryz.underlying27 hi hz0 hz1 hz2 rfl (by decide) u l.length (svs l) hs h.1 ⟨p, 0, none⟩ 1 1 [.string t] hx rfl (one_txt hnews)
    (fun u hu => by simp at hu; subst hu; rfl) (by omega) (by unfold maxLen; omega) (by omega) h.2.2 w.heap.size rfl ?_
  intro g cap w' h1 h2 h3 _
  exact hk _ _ _ ⟨by rw [List.length_append, svs_append]; exact h1, h.2.1.grown h2 h.2.2 (fun k hk => (h.1.lt k hk).1), Nat.le_trans h.2.2 h2.size⟩ h2 h3
/-- .. and in a plain region -/
theorem wp_txtL {rest : List Oper} (hgd : o.guard = none) (s x : Operand)
    (ho : o.op = .call { callee := .builtin .append, args := #[s, x], argTypes := #[27, 27] })
    (B : Nat) (w0 : World) (u : Value) (l : List ByteArray) (t : ByteArray) (hs : a.eval s = u) (h : OS B w0 w u l) (p : Nat) (hx : a.eval x = .slice (some ⟨p, 0, none⟩) 1 1)
    (hnews : w.cell? ⟨p, 0, none⟩ = some (.string t)) (hlen : l.length + 1 ≤ 1000000)
    (hk : ∀ g cap w', OS B w0 w' (.slice (some ⟨g, 0, none⟩) (l.length + 1) cap) (l ++ [t]) → w.grownBy w' u.ownBlock → (u.ownBlock = some g ∨ g = w.heap.size) → wpList Tryz.prog ops Q rest (a.put o.dst (.slice (some ⟨g, 0, none⟩) (l.length + 1) cap)) w') : wpList Tryz.prog ops Q (o :: rest) a w := by
  obtain ⟨i0, hi, hz0, hz1, hz2⟩ := info_parts Tryz.info9
  refine wpList_append_lies w hgd s x 27 ho B 9 i0 (.string ByteArray.empty) 1 16 Tryz.underlying27 hi hz0 hz1 hz2 rfl (by decide) u l.length (svs l) hs h.1 ⟨p, 0, none⟩ 1 1 [.string t] hx rfl (one_txt hnews)
    (fun u hu => by simp at hu; subst hu; rfl) (by omega) (by unfold maxLen; omega) (by omega) h.2.2 w.heap.size rfl ?_
  intro g cap w' h1 h2 h3 _
  exact hk _ _ _ ⟨by rw [List.length_append, svs_append]; exact h1, h.2.1.grown h2 h.2.2 (fun k hk => (h.1.lt k hk).1), Nat.le_trans h.2.2 h2.size⟩ h2 h3
end
theorem SS.grown {w w' : World} {v : Value} {g o : Nat} {l : List ByteArray} {row : Option Nat} (h : SS w v g o l) (hg : w.grownBy w' row) (hne : 0 < l.length → some g ≠ row) : SS w' v g o l := by
  have hlt := h.lt
  obtain ⟨a, cap, h1, h2, h3, h4⟩ := h
  exact ⟨a, cap, h1, h2, h3, fun j hj => (cell_kept (hg.block g (hlt (by omega)) (hne (by omega)))).trans (h4 j hj)⟩

/-- the row of sides that grows, beside the specification's spots and empties -/
def SdI (x : Int) (L : List Le) (w wr : World) (vs ve : Value) (gu ge : Nat) (u : Value) (l : List ByteArray) : Prop :=
  OS w.heap.size w wr u l ∧ RS 3 scs wr vs gu 0 L ∧ SS wr ve ge 0 (emL x 0) ∧ (0 < L.length → u.ownBlock ≠ some gu) ∧ u.ownBlock ≠ some ge
theorem SdI.later {x : Int} {L : List Le} {w wr wr' : World} {vs ve : Value} {gu ge : Nat} {u : Value} {l : List ByteArray} (h : SdI x L w wr vs ve gu ge u l) (hb : Below wr.heap.size wr wr') : SdI x L w wr' vs ve gu ge u l :=
  ⟨h.1.later hb, h.2.1.later hb, h.2.2.1.below hb h.2.2.1.lt, h.2.2.2⟩
theorem SdI.drew {x : Int} {L : List Le} {w wr : World} {vs ve : Value} {gu ge : Nat} {u : Value} {l : List ByteArray} (h : SdI x L w wr vs ve gu ge u l) : SdI x L w wr.drew vs ve gu ge u l := ⟨h.1.drew, h.2.1, h.2.2.1, h.2.2.2⟩
theorem SdI.app {x : Int} {L : List Le} {w wr wr' : World} {vs ve : Value} {gu ge g cap n : Nat} {u : Value} {l l' : List ByteArray} (h : SdI x L w wr vs ve gu ge u l) (h1 : OS w.heap.size w wr' (.slice (some ⟨g, 0, none⟩) n cap) l') (hg : wr.grownBy wr' u.ownBlock) (hl : u.ownBlock = some g ∨ g = wr.heap.size) : SdI x L w wr' vs ve gu ge (.slice (some ⟨g, 0, none⟩) n cap) l' := by
  obtain ⟨a1, a2, a3, a4, a5⟩ := h
  have e9 : 0 < (emL x 0).length := by rw [emL_len]; omega
  have hge := a3.lt e9
  refine ⟨h1, a2.grown hg (fun h0 e => a4 h0 e.symm), a3.grown hg (fun _ e => a5 e.symm), fun h0 e => ?_, fun e => ?_⟩
  · have eg : g = gu := by simpa [Value.ownBlock] using e
    have hgu : gu < wr.heap.size := by
      obtain ⟨_, _, _, _, h3, _⟩ := a2
      exact (h3 h0).2
    rcases hl with hl | hl
    · exact a4 h0 (by rw [hl, eg])
    · omega
  · have eg : g = ge := by simpa [Value.ownBlock] using e
    rcases hl with hl | hl
    · exact a5 (by rw [hl, eg])
    · omega

def SdTR (N : Nat) (x : Int) (ix : Nat) (L : List Le) (w : World) (vs ve : Value) (gu ge : Nat) (u i : Value) (wr : World) : Prop := ∃ j : Nat, j ≤ N ∧ i = .int .i64 (8 - (j : Int)) ∧ Hid (SdI x L w wr vs ve gu ge u (sdL x ix L j))

/-- what SidesOf is -/
noncomputable def sdA (L : List Le) (ix l x : Int) : List ByteArray := if LV.leavesB L = true ∧ (0 ≤ ix ∧ ix ≤ 255) ∧ (0 ≤ l ∧ l ≤ 8) ∧ 1 ≤ x ∧ x ≤ 32 then sdL x ix.toNat L (8 - l.toNat) else []

end Go.Proofs.YtfiapodjiifmaaaGreatDoor
/-
  Proofs: when they are right: the specification's answer.
-/
namespace Go.Proofs.YtfiapodjiifmaaaGreatDoor
open Go.RowKit Go.BigFrame Go.Sort
set_option linter.unusedVariables false
set_option linter.unusedSimpArgs false

/-- is it a proof? -/
noncomputable def pfOk (nm : ByteArray) (B : List Le) (S : List ByteArray) (x : Int) : Bool := okB nameB nm && LV.leavesB B && decide (S.length ≤ 8) && wideB S x && B.all (fun f => decide (idxN f.n = idxN nm))
theorem pfOk_yes {nm : ByteArray} {B : List Le} {S : List ByteArray} {x : Int} (h1 : okB nameB nm = true) (h2 : LV.leavesB B = true) (h3 : S.length ≤ 8) (h4 : wideB S x = true) : pfOk nm B S x = B.all (fun f => decide (idxN f.n = idxN nm)) := by
  unfold pfOk
  rw [h1, h2, h4, decide_eq_true h3]
  rfl

def PkR (w : World) (B : List Le) (N : Nat) (i : Value) (wr : World) : Prop := ∃ m : Nat, m ≤ B.length ∧ i = .int .i64 m ∧ Hid (Below w.heap.size w wr ∧ ∀ j (h : j < B.length), j < m → idxN B[j].n = N)

end Go.Proofs.YtfiapodjiifmaaaGreatDoor
/-
  Rows of buckets looked through; nodes and their hashes.
-/
namespace Go.Proofs.YtfiapodjiifmaaaGreatDoor
open Go.RowKit Go.BigFrame Go.Sort
set_option linter.unusedVariables false
set_option linter.unusedSimpArgs false

theorem hasLeaves_any (a : Option Addr) (n c : Nat) (w : World) : Calls Tryz.prog 96 #[.slice a n c] w fun e w' => e = .returned (.bool (decide (0 < n))) ∧ w' = w := by
  go_enter Tryz.func96, Tryz.ntmps96
  go_wp2
  go_ret
  exact ⟨by simp, rfl⟩

/-- the buckets of the 2 ^ k indexes under place p, from offset o of block g on -/
def BkW (w : World) (g o : Nat) (L : List Le) (b n : Nat) : Prop := ∀ j, j < n → ∃ v gj, w.cell? ⟨g, o + j, none⟩ = some v ∧ RS 2 lcs w v gj 0 (TR.und idxL 0 (b + j) L)
theorem BkW.later {w w' : World} {g o : Nat} {L : List Le} {b n : Nat} (h : BkW w g o L b n) (hb : Below w.heap.size w w') : BkW w' g o L b n := fun j hj => by
  obtain ⟨v, gj, h1, h2⟩ := h j hj
  exact ⟨v, gj, cell_later h1 hb, h2.later hb⟩
/-- is one of the first m of them not empty? -/
def anyB (L : List Le) (b m : Nat) : Prop := ∃ j, j < m ∧ 0 < (TR.und idxL 0 (b + j) L).length

def IxfR (L : List Le) (b n : Nat) (w : World) (i : Value) (wr : World) : Prop := ∃ m : Nat, m ≤ n ∧ i = .int .i64 m ∧ wr = w ∧ ¬ anyB L b m

set_option maxRecDepth 100000 in
set_option maxHeartbeats 1000000 in
theorem IndexFunc_any (g o n c b : Nat) (L : List Le) (w : World) (hn : n ≤ 256) (hB : BkW w g o L b n) :
    Calls Tryz.prog 107 #[.slice (some ⟨g, o, none⟩) n c, .func (Fn.func 96) #[] #[]] w fun e w' => (∃ r : Int, e = .returned (.int .i64 r) ∧ (0 ≤ r ↔ anyB L b n) ∧ -1 ≤ r ∧ r ≤ 256) ∧ w' = w := by
  have HB : Hid (BkW w g o L b n) := hB
  have HST : Hid (IxfR L b n w (.int .i64 0) w) := ⟨0, by omega, rfl, rfl, fun ⟨j, h, _⟩ => by omega⟩
  clear hB
  go_enter Tryz.func107, Tryz.ntmps107
  go_wp2
  go_loopw [8] (fun i wr => IxfR L b n w i wr) (fun i _ => n - (intOf i).toNat)
  case atStart => exact HST.out
  case round =>
    obtain ⟨m, hm, rfl, rfl, hna⟩ := hrel
    clear HST
    have HNA : Hid (¬ anyB L b m) := hna
    clear hna
    by_cases hlt : m < n
    · obtain ⟨v, gj, c0, hrs⟩ := HB.out m hlt
      obtain ⟨av, cv, hv, _⟩ := hrs
      subst hv
      have i1 : (m : Int) < (n : Int) := by omega
      have i2 : (0 : Int) ≤ (m : Int) := by omega
      obtain ⟨u, hu⟩ : ∃ u, (TR.und idxL 0 (b + m) L).length = u := ⟨_, rfl⟩
      have HU : Hid ((TR.und idxL 0 (b + m) L).length = u) := hu
      rw [hu] at c0
      clear hu
      by_cases hp : 0 < u
      · have d1 : decide (0 < u) = true := by simpa using hp
        have HF : Hid (∃ r : Int, Ending.returned (.int .i64 (m : Int)) = .returned (.int .i64 r) ∧ (0 ≤ r ↔ anyB L b n) ∧ -1 ≤ r ∧ r ≤ 256) := ⟨_, rfl, ⟨fun _ => ⟨m, hlt, by rw [HU.out]; exact hp⟩, fun _ => i2⟩, by omega, by omega⟩
        go_wp2_with fail
        refine (hasLeaves_any _ _ _ _).mono ?_
        rintro e w1 ⟨rfl, rfl⟩
        rw [d1]
        go_wp2
        go_ret
        exact ⟨HF.out, rfl⟩
      · have d1 : decide (0 < u) = false := by simpa using hp
        have HN2 : Hid (¬ anyB L b (m + 1)) := fun ⟨j, h1, h2⟩ => by
          rcases Nat.lt_or_ge j m with h3 | h3
          · exact HNA.out ⟨j, h3, h2⟩
          · have : j = m := by omega
            subst this
            rw [HU.out] at h2
            exact hp h2
        clear HNA HU hp
        go_wp2_with fail
        refine (hasLeaves_any _ _ _ _).mono ?_
        rintro e w1 ⟨rfl, rfl⟩
        rw [d1]
        go_wp2
        go_roundw
        case rel => exact ⟨m + 1, by omega, by go_num, rfl, HN2.out⟩
        case measure => simp [intOf]; omega
    · have hme : m = n := by omega
      have HF : Hid (∃ r : Int, Ending.returned (.int .i64 (-1)) = .returned (.int .i64 r) ∧ (0 ≤ r ↔ anyB L b n) ∧ -1 ≤ r ∧ r ≤ 256) := ⟨_, rfl, ⟨fun h => by omega, fun h => absurd (hme ▸ h) HNA.out⟩, by omega, by omega⟩
      clear HNA HB
      go_wp2
      go_ret
      exact ⟨HF.out, rfl⟩

open Classical in
noncomputable def anyD (L : List Le) (b n : Nat) : Bool := decide (anyB L b n)
theorem anyD_iff {L : List Le} {b n : Nat} : anyD L b n = true ↔ anyB L b n := by simp [anyD]
theorem ContainsFunc_any (g o n c b : Nat) (L : List Le) (w : World) (hn : n ≤ 256) (hB : BkW w g o L b n) :
    Calls Tryz.prog 95 #[.slice (some ⟨g, o, none⟩) n c, .func (Fn.func 96) #[] #[]] w fun e w' => e = .returned (.bool (anyD L b n)) ∧ w' = w := by
  have hc := IndexFunc_any g o n c b L w hn hB
  have HA : Hid (∀ r : Int, (0 ≤ r ↔ anyB L b n) → decide (0 ≤ r) = anyD L b n) := fun r hr => by
    rw [Bool.eq_iff_iff, anyD_iff, decide_eq_true_iff]
    exact hr
  clear hB
  go_enter Tryz.func95, Tryz.ntmps95
  go_wp2_with fail
  refine hc.mono ?_
  rintro e w1 ⟨⟨r, rfl, hr, h1, h2⟩, rfl⟩
  have hd := HA.out r hr
  clear hc HA hr
  go_wp2
  go_ret
  exact ⟨rfl, rfl⟩

/-! the method hash, of each kind of node -/
theorem hashE_any (g : Nat) (t : ByteArray) (w : World) (h : w.cell? ⟨g, 1, none⟩ = some (.string t)) : Calls Tryz.prog 78 #[.pointer (some ⟨g, 0, none⟩)] w fun e w' => e = .returned (.string t) ∧ w' = w := by
  go_enter Tryz.func78, Tryz.ntmps78
  go_wp2
  go_ret
  exact ⟨rfl, rfl⟩
theorem hashK_any (g : Nat) (t : ByteArray) (w : World) (h : w.cell? ⟨g, 0, none⟩ = some (.string t)) : Calls Tryz.prog 133 #[.pointer (some ⟨g, 0, none⟩)] w fun e w' => e = .returned (.string t) ∧ w' = w := by
  go_enter Tryz.func133, Tryz.ntmps133
  go_wp2
  go_ret
  exact ⟨rfl, rfl⟩
theorem hashF_any (g : Nat) (t : ByteArray) (w : World) (h : w.cell? ⟨g, 2, none⟩ = some (.string t)) : Calls Tryz.prog 131 #[.pointer (some ⟨g, 0, none⟩)] w fun e w' => e = .returned (.string t) ∧ w' = w := by
  go_enter Tryz.func131, Tryz.ntmps131
  go_wp2
  go_ret
  exact ⟨rfl, rfl⟩
theorem invE (g : Nat) (w : World) : (invoke (.fn (.method "loop.example/g00284/impl.hash") #[]) #[.iface 114 (.pointer (some ⟨g, 0, none⟩))]).run Tryz.prog w = .ok (.enter 78 #[.pointer (some ⟨g, 0, none⟩)]) w := by kernel_rfl
theorem invK (g : Nat) (w : World) : (invoke (.fn (.method "loop.example/g00284/impl.hash") #[]) #[.iface 143 (.pointer (some ⟨g, 0, none⟩))]).run Tryz.prog w = .ok (.enter 133 #[.pointer (some ⟨g, 0, none⟩)]) w := by kernel_rfl
theorem invF (g : Nat) (w : World) : (invoke (.fn (.method "loop.example/g00284/impl.hash") #[]) #[.iface 110 (.pointer (some ⟨g, 0, none⟩))]).run Tryz.prog w = .ok (.enter 131 #[.pointer (some ⟨g, 0, none⟩)]) w := by kernel_rfl

/-- v is a node whose hash is t -/
def HsN (w : World) (v : Value) (t : ByteArray) : Prop := ∃ T g, v = .iface T (.pointer (some ⟨g, 0, none⟩)) ∧ ((T = 114 ∧ w.cell? ⟨g, 1, none⟩ = some (.string t)) ∨ (T = 143 ∧ w.cell? ⟨g, 0, none⟩ = some (.string t)) ∨ (T = 110 ∧ w.cell? ⟨g, 2, none⟩ = some (.string t)))
theorem HsN.later {w w' : World} {v : Value} {t : ByteArray} (h : HsN w v t) (hb : Below w.heap.size w w') : HsN w' v t := by
  obtain ⟨T, g, hv, h⟩ := h
  refine ⟨T, g, hv, ?_⟩
  rcases h with ⟨h1, h2⟩ | ⟨h1, h2⟩ | ⟨h1, h2⟩
  · exact .inl ⟨h1, cell_later h2 hb⟩
  · exact .inr (.inl ⟨h1, cell_later h2 hb⟩)
  · exact .inr (.inr ⟨h1, cell_later h2 hb⟩)
/-- what the call of hash comes to -/
theorem HsN.inv {w : World} {v : Value} {t : ByteArray} (h : HsN w v t) : ∃ F q, (invoke (.fn (.method "loop.example/g00284/impl.hash") #[]) #[v]).run Tryz.prog w = .ok (.enter F #[q]) w ∧ Calls Tryz.prog F #[q] w fun e w' => e = .returned (.string t) ∧ w' = w := by
  obtain ⟨T, g, rfl, h⟩ := h
  rcases h with ⟨rfl, h2⟩ | ⟨rfl, h2⟩ | ⟨rfl, h2⟩
  · exact ⟨_, _, invE g w, hashE_any g t w h2⟩
  · exact ⟨_, _, invK g w, hashK_any g t w h2⟩
  · exact ⟨_, _, invF g w, hashF_any g t w h2⟩
section
variable {w : World} {ops : Array Oper} {o : Oper} {a : Act} {K : Act → World → Prop} {Q : Exit → Act → World → Prop}
theorem oper_hash (r : Operand) (ho : o.op = .call { callee := .invoke r "loop.example/g00284/impl.hash", args := #[], argTypes := #[] })
    (v : Value) (t : ByteArray) (hv : a.eval r = v) (hN : HsN w v t) (hk : K (a.put o.dst (.string t)) w) : Oper.wp Tryz.prog o a w K Q := by
  obtain ⟨F, q, h1, h2⟩ := hN.inv
  unfold Oper.wp
  have e : (execOp a.eval o).run Tryz.prog w = .ok (.enter F #[q]) w := by
    simp [execOp, ho, resolve, hv, h1]
  rw [e, Oper.upon_enter]
  refine h2.mono ?_
  rintro e w1 ⟨rfl, rfl⟩
  exact hk
/-- hash of a node, in a plain region -/
theorem wp_hash {rest : List Oper} (hgd : o.guard = none) (r : Operand) (ho : o.op = .call { callee := .invoke r "loop.example/g00284/impl.hash", args := #[], argTypes := #[] })
    (v : Value) (t : ByteArray) (hv : a.eval r = v) (hN : HsN w v t) (h : wpList Tryz.prog ops Q rest (a.put o.dst (.string t)) w) : wpList Tryz.prog ops Q (o :: rest) a w :=
  wpList_plain hgd fun K hK => oper_hash r ho v t hv hN (hK _ _ h)
end

end Go.Proofs.YtfiapodjiifmaaaGreatDoor
/-
  The tree that the program grows over its buckets.
-/
namespace Go.Proofs.YtfiapodjiifmaaaGreatDoor
open Go.RowKit Go.BigFrame Go.Sort
set_option linter.unusedVariables false
set_option linter.unusedSimpArgs false

/-- v is the node of place p, k levels above the buckets -/
def NT (x : Int) (L : List Le) (w : World) : Nat → Nat → Value → Prop
  | 0, p, v => (∃ q, v = .iface 114 q ∧ EmN x w 0 q ∧ TR.und idxL 0 p L = []) ∨ ∃ g, v = .iface 143 (.pointer (some ⟨g, 0, none⟩)) ∧ w.cell? ⟨g, 0, none⟩ = some (.string (trB x 0 p L))
  | k + 1, p, v => (∃ q, v = .iface 114 q ∧ EmN x w (k + 1) q ∧ TR.und idxL (k + 1) p L = []) ∨ ∃ g a b, v = .iface 110 (.pointer (some ⟨g, 0, none⟩)) ∧ w.cell? ⟨g, 0, none⟩ = some a ∧ w.cell? ⟨g, 1, none⟩ = some b ∧ w.cell? ⟨g, 2, none⟩ = some (.string (trB x (k + 1) p L)) ∧ NT x L w k (2 * p) a ∧ NT x L w k (2 * p + 1) b
theorem NT.later {x : Int} {L : List Le} {w w' : World} (hb : Below w.heap.size w w') : ∀ {k p : Nat} {v : Value}, NT x L w k p v → NT x L w' k p v
  | 0, p, v, h => by
    rcases h with ⟨q, h1, h2, h3⟩ | ⟨g, h1, h2⟩
    · exact .inl ⟨q, h1, h2.later hb, h3⟩
    · exact .inr ⟨g, h1, cell_later h2 hb⟩
  | k + 1, p, v, h => by
    rcases h with ⟨q, h1, h2, h3⟩ | ⟨g, a, b, h1, h2, h3, h4, h5, h6⟩
    · exact .inl ⟨q, h1, h2.later hb, h3⟩
    · exact .inr ⟨g, a, b, h1, cell_later h2 hb, cell_later h3 hb, cell_later h4 hb, NT.later hb h5, NT.later hb h6⟩
theorem NT.empty {x : Int} {L : List Le} {w : World} : ∀ {k p : Nat} {q : Value}, EmN x w k q → TR.und idxL k p L = [] → NT x L w k p (.iface 114 q)
  | 0, p, q, h, h0 => .inl ⟨q, rfl, h, h0⟩
  | k + 1, p, q, h, h0 => .inl ⟨q, rfl, h, h0⟩
theorem NT.hash {x : Int} {L : List Le} {w : World} : ∀ {k p : Nat} {v : Value}, NT x L w k p v → HsN w v (trB x k p L)
  | 0, p, v, h => by
    rcases h with ⟨q, h1, h2, h3⟩ | ⟨g, h1, h2⟩
    · obtain ⟨g, rfl, hc⟩ := h2.made
      exact ⟨_, g, h1, .inl ⟨rfl, by rw [tr_emp h3]; exact hc⟩⟩
    · exact ⟨_, g, h1, .inr (.inl ⟨rfl, h2⟩)⟩
  | k + 1, p, v, h => by
    rcases h with ⟨q, h1, h2, h3⟩ | ⟨g, a, b, h1, h2, h3, h4, h5, h6⟩
    · obtain ⟨g, rfl, hc⟩ := h2.made
      exact ⟨_, g, h1, .inl ⟨rfl, by rw [tr_emp h3]; exact hc⟩⟩
    · exact ⟨_, g, h1, .inr (.inr ⟨rfl, h4⟩)⟩
/-- nothing lies under a place where nothing lies below it -/
theorem und_any (L : List Le) (k p : Nat) : anyB L (p * 2 ^ k) (2 ^ k) ↔ TR.und idxL k p L ≠ [] := by
  constructor
  · rintro ⟨j, hj, h⟩ h0
    have h1 : (p * 2 ^ k + j) / 2 ^ k = p := by
      rw [Nat.mul_comm, Nat.mul_add_div (Nat.two_pow_pos k), Nat.div_eq_of_lt hj, Nat.add_zero]
    have h2 := TR.und_down (idx := idxL) (k := 0) (j := k) (p := p) (q := p * 2 ^ k + j) (l := L) h1 (by rw [Nat.zero_add]; exact h0)
    rw [h2] at h
    simp at h
  · intro h
    obtain ⟨f, hf⟩ := List.exists_mem_of_ne_nil _ h
    unfold TR.und at hf
    have hq : idxL f / 2 ^ k = p := by simpa using (List.mem_filter.1 hf).2
    have hfL := (List.mem_filter.1 hf).1
    refine ⟨idxL f % 2 ^ k, Nat.mod_lt _ (Nat.two_pow_pos k), List.length_pos_of_mem (a := f) ?_⟩
    unfold TR.und
    rw [List.mem_filter]
    refine ⟨hfL, ?_⟩
    have : p * 2 ^ k + idxL f % 2 ^ k = idxL f := by rw [← hq, Nat.mul_comm]; exact Nat.div_add_mod _ _
    rw [this]
    simp
theorem leaves_und {L : List Le} (h : LV.LOk L) (k p : Nat) : LV.leavesB (TR.und idxL k p L) = true := by
  refine LV.leavesB_iff.2 ⟨Nat.le_trans (und_len k p L) h.1, fun f hf => h.2.1 f ?_, List.Pairwise.filter _ h.2.2⟩
  unfold TR.und at hf
  exact (List.mem_filter.1 hf).1

/-- what grown answers at this height -/
def GrC (x : Int) (L : List Le) (k : Nat) : Prop := ∀ (p g o n c : Nat) (e : Value) (w : World), n = 2 ^ k → n ≤ c → c ≤ 256 → BkW w g o L (p * n) n → EmN x w k e → Tb w →
    Calls Tryz.prog 79 #[.slice (some ⟨g, o, none⟩) n c, e, .int .i64 x] w fun e w' => ∃ v, e = .returned v ∧ NT x L w' k p v ∧ Below w.heap.size w w'

set_option maxRecDepth 100000 in
set_option maxHeartbeats 1000000 in
theorem grown_none (x : Int) (L : List Le) (k p g o n c : Nat) (e : Value) (w : World) (hn : n = 2 ^ k) (hc : n ≤ 256) (hB : BkW w g o L (p * n) n) (hE : EmN x w k e) (h0 : TR.und idxL k p L = []) :
    Calls Tryz.prog 79 #[.slice (some ⟨g, o, none⟩) n c, e, .int .i64 x] w fun e w' => ∃ v, e = .returned v ∧ NT x L w' k p v ∧ Below w.heap.size w w' := by
  have hcf := ContainsFunc_any g o n c (p * n) L w hc hB
  have ha : anyD L (p * n) n = false := by
    rw [← Bool.not_eq_true, anyD_iff, hn, und_any]
    simpa using h0
  rw [ha] at hcf
  have HN : Hid (NT x L w k p (.iface 114 e)) := NT.empty hE h0
  obtain ⟨ge, rfl, _⟩ := hE.made
  clear hB hE h0 ha hn
  go_enter Tryz.func79, Tryz.ntmps79
  go_wp2_with fail
  refine hcf.mono ?_
  rintro e w1 ⟨rfl, rfl⟩
  clear hcf
  go_wp2
  go_ret
  exact ⟨_, rfl, HN.out, Below.refl _ _⟩

set_option maxRecDepth 100000 in
set_option maxHeartbeats 1000000 in
theorem grown_zero (x : Int) (L : List Le) (hL : LV.LOk L) (hsm : SmallL L) : GrC x L 0 := by
  intro p g o n c e w hn hnc hc hB hE hT
  by_cases h0 : TR.und idxL 0 p L = []
  · exact grown_none x L 0 p g o n c e w hn (by omega) hB hE h0
  · have hcf := ContainsFunc_any g o n c (p * n) L w (by omega) hB
    have ha : anyD L (p * n) n = true := by rw [anyD_iff, hn, und_any]; exact h0
    rw [ha] at hcf
    have e1 : n = 1 := hn
    subst e1
    obtain ⟨v, gj, c0, hrs⟩ := hB 0 (by omega)
    rw [Nat.add_zero, Nat.mul_one] at hrs
    rw [Nat.add_zero] at c0
    have hbh := BucketHash_any v gj 0 _ x w hrs (und_small hsm) hT
    have HN : Hid (∀ W, Below w.heap.size w W → NT x L (W.alloc (.cells #[.string (bhB x (TR.und idxL 0 p L))] 145)) 0 p (.iface 143 (.pointer (some ⟨W.heap.size, 0, none⟩))) ∧ Below w.heap.size w (W.alloc (.cells #[.string (bhB x (TR.und idxL 0 p L))] 145))) := fun W hW => by
      refine ⟨.inr ⟨W.heap.size, rfl, ?_⟩, hW.alloc hW.size _⟩
      rw [World.cell?_alloc_at _ _ _ _ rfl]
      rfl
    obtain ⟨ge, rfl, _⟩ := hE.made
    obtain ⟨av, cv, rfl, _⟩ := hrs
    generalize bhB x (TR.und idxL 0 p L) = T at *
    clear hB hE h0 ha hn hT hsm hL
    go_enter Tryz.func79, Tryz.ntmps79
    go_wp2_with fail
    refine hcf.mono ?_
    rintro e w1 ⟨rfl, rfl⟩
    clear hcf
    go_wp2_with fail
    refine hbh.mono ?_
    rintro e w2 ⟨rfl, hb2⟩
    clear hbh
    go_wp2
    go_ret
    exact ⟨_, rfl, HN.out _ hb2⟩

set_option maxRecDepth 100000 in
set_option maxHeartbeats 2000000 in
theorem grown_fork (x : Int) (L : List Le) (k : Nat) (ih : GrC x L k) : GrC x L (k + 1) := by
  intro p g o n c e w hn hnc hc hB hE hT
  by_cases h0 : TR.und idxL (k + 1) p L = []
  · exact grown_none x L (k + 1) p g o n c e w hn (by omega) hB hE h0
  · have hcf := ContainsFunc_any g o n c (p * n) L w (by omega) hB
    have ha : anyD L (p * n) n = true := by rw [anyD_iff, hn, und_any]; exact h0
    rw [ha] at hcf
    obtain ⟨h, hh⟩ : ∃ h, 2 ^ k = h := ⟨_, rfl⟩
    have hpos : 1 ≤ h := by rw [← hh]; exact Nat.one_le_two_pow
    have hnh : n = h + h := by rw [hn, Nat.pow_succ, hh]; omega
    have HH : Hid (h = 2 ^ k) := hh.symm
    obtain ⟨ge, be, rfl, ce, c1, hbe⟩ := hE
    have HL : Hid (∀ W, Below w.heap.size w W → Calls Tryz.prog 79 #[.slice (some ⟨g, o, none⟩) h c, be, .int .i64 x] W fun e w' => ∃ v, e = .returned v ∧ NT x L w' k (2 * p) v ∧ Below W.heap.size W w') := fun W hW => by
      refine ih (2 * p) g o h c be W HH.out (by omega) hc ?_ (hbe.later hW) (hT.later hW)
      have h1 := hB.later hW
      have e1 : 2 * p * h = p * n := by rw [hnh, Nat.mul_comm 2 p, Nat.mul_assoc]; congr 1; omega
      rw [e1]
      exact fun j hj => h1 j (by omega)
    have HR : Hid (∀ W, Below w.heap.size w W → Calls Tryz.prog 79 #[.slice (some ⟨g, o + h, none⟩) (n - h) (c - h), be, .int .i64 x] W fun e w' => ∃ v, e = .returned v ∧ NT x L w' k (2 * p + 1) v ∧ Below W.heap.size W w') := fun W hW => by
      have e0 : n - h = h := by omega
      rw [e0]
      refine ih (2 * p + 1) g (o + h) h (c - h) be W HH.out (by omega) (by omega) ?_ (hbe.later hW) (hT.later hW)
      have h1 := hB.later hW
      have e1 : (2 * p + 1) * h = p * n + h := by rw [hnh, Nat.add_mul, Nat.one_mul, Nat.mul_comm 2 p, Nat.mul_assoc]; congr 2; omega
      intro j hj
      obtain ⟨v, gj, h2, h3⟩ := h1 (h + j) (by omega)
      refine ⟨v, gj, ?_, ?_⟩
      · rw [Nat.add_assoc]; exact h2
      · rw [e1, Nat.add_assoc]; exact h3
    have hge : ge < w.heap.size := lt_of_cell ce
    have HT : Hid (Tb w) := hT
    have q1 : ((n : Int) == 1) = false := by simp; omega
    have q2 : (n : Int) / 2 = (h : Int) := by omega
    have i1 : (h : Int) ≤ (c : Int) := by omega
    have i2 : (0 : Int) ≤ (h : Int) := by omega
    have i3 : (h : Int) ≤ (n : Int) := by omega
    have i4 : (n : Int) ≤ (c : Int) := by omega
    have hch : ¬ c = h := by omega
    have hn256 : n ≤ 256 := by omega
    clear hB hT ih hnh hh h0 ha hn c1 hbe HH
    go_enter Tryz.func79, Tryz.ntmps79
    go_wp2_with fail
    refine hcf.mono ?_
    rintro e w1 ⟨rfl, rfl⟩
    clear hcf
    go_wp2_with fail
    have HL1 : Hid (Calls Tryz.prog 79 #[.slice (some ⟨g, o, none⟩) h c, be, .int .i64 x] w1.drew fun e w' => ∃ v, e = .returned v ∧ NT x L w' k (2 * p) v ∧ Below w1.heap.size w1 w') := (HL.out w1.drew ((Below.refl _ _).drew)).mono fun e w' ⟨v, h1, h2, h3⟩ => ⟨v, h1, h2, (Below.refl _ _).drew.trans h3⟩
    go_region_held3 (fun W => W.cell? ⟨ge, 0, none⟩ = some be) (first | go_keep | exact (hb2.cell (p := ⟨ge, 0, none⟩) hge).trans ce) ((go_at_call 79; with_reducible refine HL1.out.mono ?_; rintro e w2 ⟨v1, rfl, hN1, hb2⟩))
    have ce2 : w2.cell? ⟨ge, 0, none⟩ = some be := (hb2.cell (p := ⟨ge, 0, none⟩) hge).trans ce
    have hge2 : ge < w2.heap.size := lt_of_cell ce2
    have HR1 : Hid (Calls Tryz.prog 79 #[.slice (some ⟨g, o + h, none⟩) (n - h) (c - h), be, .int .i64 x] w2.drew fun e w' => ∃ v, e = .returned v ∧ NT x L w' k (2 * p + 1) v ∧ Below w2.heap.size w2 w') := (HR.out w2.drew (hb2.trans (Below.refl _ _).drew)).mono fun e w' ⟨v, h1, h2, h3⟩ => ⟨v, h1, h2, (Below.refl _ _).drew.trans h3⟩
    have HN1 : Hid (NT x L w2 k (2 * p) v1) := hN1
    have HB2 : Hid (Below w1.heap.size w1 w2) := hb2
    clear HL HL1 hN1 hb2 ce hge HR
    go_wp2_with fail
    go_region_held3 (fun W => W.cell? ⟨ge, 0, none⟩ = some be) (first | go_keep | exact (hb3.cell (p := ⟨ge, 0, none⟩) hge2).trans ce2) ((go_at_call 79; with_reducible refine HR1.out.mono ?_; rintro e w3 ⟨v2, rfl, hN2, hb3⟩))
    have HN2 : Hid (NT x L w3 k (2 * p) v1 ∧ NT x L w3 k (2 * p + 1) v2 ∧ Below w1.heap.size w1 w3) := ⟨HN1.out.later hb3, hN2, HB2.out.trans (hb3.mono HB2.out.size)⟩
    have hA := HN2.out.1.hash
    have hBb := HN2.out.2.1.hash
    have HT3 : Hid (Tb w3) := HT.out.later HN2.out.2.2
    have htr : hashB 3 [trB x k (2 * p) L, trB x k (2 * p + 1) L] x = trB x (k + 1) p L := rfl
    have ht := taggedHash_w x 3 [trB x k (2 * p) L, trB x k (2 * p + 1) L] 2 #[.string (trB x k (2 * p) L), .string (trB x k (2 * p + 1) L)] w3 _ rfl rfl (by omega) rfl HT3.out
    rw [htr] at ht
    have HF : Hid (∀ W, Below w3.heap.size w3 W → NT x L (W.alloc (.cells #[v1, v2, .string (trB x (k + 1) p L)] 113)) (k + 1) p (.iface 110 (.pointer (some ⟨W.heap.size, 0, none⟩))) ∧ Below w1.heap.size w1 (W.alloc (.cells #[v1, v2, .string (trB x (k + 1) p L)] 113))) := fun W hW => by
      have hb0 : Below w1.heap.size w1 W := HN2.out.2.2.trans (hW.mono HN2.out.2.2.size)
      have hba := hW.alloc hW.size (.cells #[v1, v2, .string (trB x (k + 1) p L)] 113)
      refine ⟨.inr ⟨W.heap.size, v1, v2, rfl, ?_, ?_, ?_, HN2.out.1.later hba, HN2.out.2.1.later hba⟩, hb0.alloc hb0.size _⟩
      · rw [World.cell?_alloc_at _ _ _ _ rfl]; rfl
      · rw [World.cell?_alloc_at _ _ _ _ rfl]; rfl
      · rw [World.cell?_alloc_at _ _ _ _ rfl]; rfl
    generalize trB x (k + 1) p L = T at *
    generalize trB x k (2 * p) L = T1 at *
    generalize trB x k (2 * p + 1) L = T2 at *
    have HA : Hid (HsN w3 v1 T1) := hA
    have HBB : Hid (HsN w3 v2 T2) := hBb
    obtain ⟨Ta, pa, rfl, _⟩ := hA
    obtain ⟨Tb', pb, rfl, _⟩ := hBb
    clear HN1 HB2 HR1 hN2 hb3 HN2 HT3 htr HT ce2 hge2
    go_wp2_with (first | (refine wp_hash rfl _ rfl _ T1 rfl HA.out ?_) | (refine wp_hash rfl _ rfl _ T2 rfl HBB.out ?_))
    refine ht.out.mono ?_
    rintro e w4 ⟨rfl, hb4⟩
    clear ht HA HBB
    go_wp2_with fail
    go_ret
    exact ⟨_, rfl, HF.out _ hb4⟩

theorem grown_any (x : Int) (L : List Le) (hL : LV.LOk L) (hsm : SmallL L) : ∀ k, GrC x L k
  | 0 => grown_zero x L hL hsm
  | k + 1 => grown_fork x L k (grown_any x L hL hsm k)

end Go.Proofs.YtfiapodjiifmaaaGreatDoor
