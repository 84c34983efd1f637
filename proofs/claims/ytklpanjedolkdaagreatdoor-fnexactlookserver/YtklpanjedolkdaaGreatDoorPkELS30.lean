/-
  Texts laid together: Nd, Nh, Pwd.
-/
import Derived.Test.YtklpanjedolkdaaGreatDoorPkELS29
import Derived.Test.YtklpanjedolkdaaGreatDoorPkELS6
import Derived.Test.YtklpanjedolkdaaGreatDoorPkELS1
import Derived.Test.YtklpanjedolkdaaGreatDoorPkELS8
/-
  A place's hash, as the specification goes down.
-/
namespace Go.Proofs.YtklpanjedolkdaaGreatDoor
open Go.RowKit Go.BigFrame Go.Sort
set_option linter.unusedVariables false
set_option linter.unusedSimpArgs false

theorem ndB_none {x : Int} {k p : Nat} {L : List Le} (h : TR.und idxL k p L = []) : ndB x k p L = empB x k := by
  unfold ndB
  cases k with
  | zero => unfold TR.nod; rw [h]; rfl
  | succ k => unfold TR.nod; rw [h]; rfl
theorem ndB_bucket {x : Int} {p : Nat} {L : List Le} (h : 0 < (TR.und idxL 0 p L).length) : ndB x 0 p L = bhB x (TR.und idxL 0 p L) := by
  unfold ndB TR.nod
  cases hu : TR.und idxL 0 p L with
  | nil => rw [hu] at h; simp at h
  | cons a t => rfl
theorem ndB_fork {x : Int} {k p : Nat} {L : List Le} (h : 0 < (TR.und idxL (k + 1) p L).length) : ndB x (k + 1) p L = hashB 3 [ndB x k (2 * p) (TR.und idxL (k + 1) p L), ndB x k (2 * p + 1) (TR.und idxL (k + 1) p L)] x := by
  unfold ndB
  rw [TR.nod]
  cases hu : TR.und idxL (k + 1) p L with
  | nil => rw [hu] at h; simp at h
  | cons a t => rfl
theorem idx_div (N k p : Nat) (l : Int) (hl : l + (k : Int) = 8) : ((N : Int) / 2 ^ (8 - l).toNat == (p : Int)) = decide (N / 2 ^ k = p) := by
  have e : (8 - l).toNat = k := by omega
  rw [e]
  have e2 : (N : Int) / 2 ^ k = ((N / 2 ^ k : Nat) : Int) := by simp
  rw [e2, Bool.eq_iff_iff, beq_iff_eq, decide_eq_true_iff]
  generalize N / 2 ^ k = q
  omega

/-- what l10Node answers at this height -/
def NdC (x : Int) (k : Nat) : Prop := ∀ (l : Int) (p : Nat) (v : Value) (ga oa : Nat) (L : List Le) (ve : Value) (ge : Nat) (w : World), l + (k : Int) = 8 → p < 100000 * 2 ^ (8 - k) → RS 3 scs w v ga oa L → SmallL L → L.length ≤ 24 → SS w ve ge 0 (emL x 0) →
    Calls Tryz.prog 153 #[v, .int .i64 l, .int .i64 (p : Int), .int .i64 x, ve] w fun e w' => e = .returned (.string (ndB x k p L)) ∧ Below w.heap.size w w'

def NdBR (w : World) (U : List Le) (u i : Value) (wr : World) : Prop := ∃ m : Nat, m ≤ U.length ∧ i = .int .i64 m ∧ Hid (OL w.heap.size w wr u (U.take m))

set_option maxRecDepth 100000 in
set_option maxHeartbeats 2000000 in
theorem l10Node_step (x : Int) (k : Nat) (hk8 : k ≤ 8) (IH : ∀ k', k = k' + 1 → NdC x k') : NdC x k := by
  intro l p v ga oa L ve ge w hlk hp hv hsm hl24 hve
  have HP : Hid (p < 100000 * 2 ^ (8 - k)) := hp
  have hpp : p ≤ 25600000 := by
    have : 2 ^ (8 - k) ≤ 2 ^ 8 := Nat.pow_le_pow_right (by omega) (by omega)
    omega
  have HV : Hid (RS 3 scs w v ga oa L ∧ SmallL L) := ⟨hv, hsm⟩
  have HE : Hid (SS w ve ge 0 (emL x 0)) := hve
  have HIH : Hid (∀ k', k = k' + 1 → NdC x k') := IH
  obtain ⟨a, cap, rfl, hl, hA, _⟩ := hv
  obtain ⟨ae, ce, rfl, _, hAe, hce⟩ := hve
  rw [emL_len] at hAe HE ⊢
  have eae := hAe (by omega)
  subst eae
  obtain ⟨n, hn⟩ : ∃ n, L.length = n := ⟨_, rfl⟩
  have HA : Hid (0 < n → a = some ⟨ga, oa, none⟩) := by rw [← hn]; exact fun h => (hA h).1
  have HN : Hid (L.length = n) := hn
  rw [hn] at hl hl24 HV ⊢
  have l0 : 0 ≤ l := by omega
  have l8 : l ≤ 8 := by omega
  have HL : Hid (l + (k : Int) = 8) := hlk
  clear hA hsm hn hAe hce IH hp
  have HST : Hid (NpR w L k p (.slice (some ⟨w.heap.size, 0, none⟩) 0 0) (.int .i64 0) (w.alloc (.cells #[] 219))) := ⟨0, by omega, rfl, OP.made w⟩
  obtain ⟨R, hR⟩ : ∃ R, ndB x k p L = R := ⟨_, rfl⟩
  have HR : Hid (ndB x k p L = R) := hR
  rw [hR]
  clear hR
  go_enter Tryz.func153, Tryz.ntmps153
  go_wp2
  go_loopw [11, 12] (fun u i wr => NpR w L k p u i wr) (fun _ i _ => n - (intOf i).toNat)
  case atStart => exact HST.out
  case round =>
    obtain ⟨m, hm, rfl, HI⟩ := hrel
    clear HST
    rw [HN.out] at hm
    obtain ⟨au, cu, hu⟩ := HI.out.shape
    subst hu
    have hul := und_len k p (L.take m)
    have hul2 : (L.take m).length ≤ 24 := by rw [List.length_take, HN.out]; omega
    by_cases hlt : m < n
    · have ea := HA.out (by omega)
      subst ea
      obtain ⟨c0, c1, c2⟩ := (HV.out.1.later HI.out.2.1).spot m (by rw [HN.out]; exact hlt)
      have hst := und_step (L := L) (m := m) k p (by rw [HN.out]; exact hlt)
      have HSC : Hid (scs (L[m]'(by rw [HN.out]; exact hlt)) = [.string (L[m]'(by rw [HN.out]; exact hlt)).n, .string (L[m]'(by rw [HN.out]; exact hlt)).v, .int .i64 (idxN (L[m]'(by rw [HN.out]; exact hlt)).n : Int)] ∧ idxL (L[m]'(by rw [HN.out]; exact hlt)) = idxN (L[m]'(by rw [HN.out]; exact hlt)).n) := ⟨rfl, rfl⟩
      generalize L[m]'(by rw [HN.out]; exact hlt) = X at *
      have i1 : (m : Int) < (n : Int) := by omega
      have i2 : (0 : Int) ≤ (m : Int) := by omega
      have hdv := idx_div (idxN X.n) k p l HL.out
      rw [HSC.out.2] at hst
      generalize idxN X.n = N at *
      have HLM : Hid ((TR.und idxL k p (L.take m)).length + 1 ≤ 1000000) := by show (TR.und idxL k p (L.take m)).length + 1 ≤ 1000000; omega
      clear HV HA hul hul2 HE HIH hlk
      by_cases hq : N / 2 ^ k = p
      · rw [if_pos hq] at hst
        rw [decide_eq_true hq] at hdv
        have HNX : Hid (∀ g cap W, OP w.heap.size w W (.slice (some ⟨g, 0, none⟩) ((TR.und idxL k p (L.take m)).length + 1) cap) (TR.und idxL k p (L.take m) ++ [X]) → NpR w L k p (.slice (some ⟨g, 0, none⟩) ((TR.und idxL k p (L.take m)).length + 1) cap) (.int .i64 ((m : Int) + 1)) W) := by
          rw [← hst]
          exact fun g cap W hW => ⟨m + 1, by rw [HN.out]; omega, by congr 1, hW⟩
        clear hst hq
        generalize TR.und idxL k p (L.take m) = U at *
        have hoa := HI.out.alloc (.cells #[.string X.n, .string X.v, .int .i64 (N : Int)] 219)
        have HRN : Hid ((wr.alloc (.cells #[.string X.n, .string X.v, .int .i64 (N : Int)] 219)).rangeAt wr.heap.size 0 (scs X)) := by
          show (wr.alloc (.cells #[.string X.n, .string X.v, .int .i64 (N : Int)] 219)).rangeAt wr.heap.size 0 (scs X)
          rw [HSC.out.1]
          exact range_new wr [.string X.n, .string X.v, .int .i64 (N : Int)] 219
        clear HI
        go_wp2_with (at_builtin; refine wp_spot rfl _ _ rfl w.heap.size w _ U X rfl hoa _ rfl HRN.out HLM.out ?_)
        intro g5 cap5 w5 ho5 hg5
        have HN2 : Hid (NpR w L k p (.slice (some ⟨g5, 0, none⟩) (U.length + 1) cap5) (.int .i64 ((m : Int) + 1)) w5) := HNX.out _ _ _ ho5
        clear HNX ho5 hg5 hoa HRN c0 c1 c2 HSC hdv
        go_wp2
        go_roundw
        case rel => exact HN2.out
        case measure => simp [intOf]; omega
      · rw [if_neg hq] at hst
        rw [decide_eq_false hq] at hdv
        have HN2 : Hid (NpR w L k p (.slice au (TR.und idxL k p (L.take m)).length cu) (.int .i64 ((m : Int) + 1)) wr) := by
          refine ⟨m + 1, by rw [HN.out]; omega, by congr 1, ?_⟩
          rw [hst]
          exact HI
        clear hst hq HI HSC HLM
        generalize (TR.und idxL k p (L.take m)).length = ul at *
        go_wp2
        go_roundw
        case rel => exact HN2.out
        case measure => simp [intOf]; omega
    · have hme : m = n := by omega
      have e : L.take m = L := List.take_of_length_le (by rw [HN.out]; omega)
      rw [e] at HI hul hul2 ⊢
      clear e
      have hbw := HI.out.2.1
      have HU : Hid (SmallL (TR.und idxL k p L)) := und_small HV.out.2
      have HEW : Hid (SS wr (.slice (some ⟨ge, 0, none⟩) 9 ce) ge 0 (emL x 0)) := HE.out.below hbw HE.out.lt
      have hul3 : (TR.und idxL k p L).length ≤ 24 := by omega
      subst hme
      clear HA HV HE hul hul2 HN
      by_cases hU : (TR.und idxL k p L).length = 0
      · have e0 : TR.und idxL k p L = [] := List.length_eq_zero_iff.1 hU
        have c0 : wr.cell? ⟨ge, 0 + l.toNat, none⟩ = some (.string R) := by
          obtain ⟨_, _, _, _, _, hcc⟩ := HEW.out
          have := hcc l.toNat (by rw [emL_len]; omega)
          rw [emL_at, if_pos (Nat.zero_le _), show 8 - l.toNat = k by omega, ← ndB_none e0, HR.out] at this
          exact this
        rw [Nat.zero_add] at c0
        rw [e0]
        have i9 : l < 9 := by omega
        clear HI HU HEW HIH HR e0 hU hul3
        go_wp2
        go_ret
        exact ⟨rfl, hbw⟩
      · have qU : (((TR.und idxL k p L).length : Int) == 0) = false := by simpa using hU
        by_cases hk0 : k = 0
        · subst hk0
          have el : l = 8 := by omega
          subst el
          have HRB : Hid (bhB x (TR.und idxL 0 p L) = R) := by
            show bhB x (TR.und idxL 0 p L) = R
            rw [← HR.out, ndB_bucket (by omega)]
          obtain ⟨gu, hrw, hgu, _⟩ := HI.out.rw (by omega)
          have HRW : Hid (RS 3 scs wr (.slice au (TR.und idxL 0 p L).length cu) gu 0 (TR.und idxL 0 p L)) := hrw.1
          have HST2 : Hid (NdBR wr (TR.und idxL 0 p L) (.slice (some ⟨wr.heap.size, 0, none⟩) 0 0) (.int .i64 0) (wr.alloc (.cells #[] 109))) := ⟨0, by omega, rfl, OL.made _ wr wr (Below.refl _ _) (Nat.le_refl _)⟩
          clear HI HR HIH hrw HEW HL hlk HP
          generalize TR.und idxL 0 p L = U at *
          obtain ⟨nu, hnu⟩ : ∃ nu, U.length = nu := ⟨_, rfl⟩
          have HNU : Hid (U.length = nu) := hnu
          rw [hnu] at hul3 HRW hU qU ⊢
          have eau : au = some ⟨gu, 0, none⟩ := by
            obtain ⟨a', c', hv', _, hA', _⟩ := HRW.out
            have := (hA' (by omega)).1
            simp at hv'
            rw [hv'.1, this]
          subst eau
          clear hnu
          rename World => W0
          go_wp2
          go_loopw [13, 14] (fun u i wz => NdBR W0 U u i wz) (fun _ i _ => nu - (intOf i).toNat)
          case atStart => exact HST2.out
          case round =>
            obtain ⟨j, hj, rfl, HJ⟩ := hrel
            clear HST2
            rw [HNU.out] at hj
            obtain ⟨ab, cb, hb⟩ := HJ.out.shape
            have hL : (U.take j).length = j := by rw [List.length_take, HNU.out]; omega
            rw [hL] at hb
            subst hb
            by_cases hjl : j < nu
            · obtain ⟨c0, c1, c2⟩ := (HRW.out.later HJ.out.2.1).spot j (by rw [HNU.out]; exact hjl)
              rw [Nat.zero_add] at c0 c1 c2
              have hst : U.take (j + 1) = U.take j ++ [U[j]'(by rw [HNU.out]; exact hjl)] := List.take_succ_eq_append_getElem _
              generalize U[j]'(by rw [HNU.out]; exact hjl) = X at *
              generalize (idxN X.n : Int) = N at *
              have i1 : (j : Int) < (nu : Int) := by omega
              have i2 : (0 : Int) ≤ (j : Int) := by omega
              have HNX : Hid (∀ g cap W, OL W0.heap.size W0 W (.slice (some ⟨g, 0, none⟩) ((U.take j).length + 1) cap) (U.take j ++ [X]) → NdBR W0 U (.slice (some ⟨g, 0, none⟩) ((U.take j).length + 1) cap) (.int .i64 ((j : Int) + 1)) W) := by
                rw [← hst]
                exact fun g cap W hW => ⟨j + 1, by rw [HNU.out]; omega, by congr 1, hW⟩
              have HLJ : Hid ((U.take j).length + 1 ≤ 1000000) := by show (U.take j).length + 1 ≤ 1000000; omega
              clear hst hL
              generalize U.take j = l2 at *
              have hoa := HJ.out.later ((Below.refl wr.heap.size wr).alloc (Nat.le_refl _) (.cells #[.string X.n, .string X.v] 109))
              have HRN : Hid ((wr.alloc (.cells #[.string X.n, .string X.v] 109)).rangeAt wr.heap.size 0 (lcs X)) := range_new wr [.string X.n, .string X.v] 109
              clear HJ HRB HU
              go_wp2_with (at_builtin; refine wp_leaf rfl _ _ rfl W0.heap.size W0 _ l2 X rfl hoa _ rfl HRN.out HLJ.out ?_)
              intro g5 cap5 w5 ho5 hg5
              have HN2 : Hid (NdBR W0 U (.slice (some ⟨g5, 0, none⟩) (l2.length + 1) cap5) (.int .i64 ((j : Int) + 1)) w5) := HNX.out _ _ _ ho5
              clear HNX ho5 hg5 hoa HRN c0 c1 c2
              go_wp2
              go_roundw
              case rel => exact HN2.out
              case measure => simp [intOf]; omega
            · have hje : j = nu := by omega
              have e : U.take j = U := List.take_of_length_le (by rw [HNU.out]; omega)
              rw [e] at HJ
              obtain ⟨gb, hrb, _, _⟩ := HJ.out.rw (by rw [HNU.out]; omega)
              have hq := sBucketHash_any _ gb 0 U x wr hrb.1 HU.out
              rw [HRB.out] at hq
              have hbz : Below w.heap.size w wr := hbw.trans (HJ.out.2.1.mono hbw.size)
              subst hje
              clear HJ hrb HRB HU HRW e hL
              go_wp2_with fail
              refine hq.mono ?_
              rintro e w2 ⟨rfl, hb2⟩
              clear hq
              go_wp2
              go_ret
              exact ⟨rfl, hbz.trans (hb2.mono hbz.size)⟩
        · obtain ⟨k', rfl⟩ : ∃ k', k = k' + 1 := ⟨k - 1, by omega⟩
          have hIH := HIH.out k' rfl
          have HRF : Hid (hashB 3 [ndB x k' (2 * p) (TR.und idxL (k' + 1) p L), ndB x k' (2 * p + 1) (TR.und idxL (k' + 1) p L)] x = R) := by
            show hashB 3 [ndB x k' (2 * p) (TR.und idxL (k' + 1) p L), ndB x k' (2 * p + 1) (TR.und idxL (k' + 1) p L)] x = R
            rw [← HR.out, ndB_fork (by omega)]
          obtain ⟨gu, hrw, hgu, _⟩ := HI.out.rw (by omega)
          have l9 : l < 8 := by omega
          have q8 : (l == 8) = false := by simp; omega
          have hp2 : 2 * p + 1 < 100000 * 2 ^ (8 - k') := by
            have h0 : p < 100000 * 2 ^ (8 - (k' + 1)) := HP.out
            have h1 : 1 ≤ 2 ^ (8 - (k' + 1)) := Nat.one_le_two_pow
            have e : 8 - k' = 8 - (k' + 1) + 1 := by omega
            rw [e, Nat.pow_succ]
            generalize 2 ^ (8 - (k' + 1)) = q at *
            omega
          have h1 := hIH (l + 1) (2 * p) _ gu 0 _ _ ge wr (by omega) (by omega) hrw.1 HU.out hul3 HEW.out
          have HS2 : Hid (∀ W, Below wr.heap.size wr W → Calls Tryz.prog 153 #[.slice au (TR.und idxL (k' + 1) p L).length cu, .int .i64 (l + 1), .int .i64 ((2 * p + 1 : Nat) : Int), .int .i64 x, .slice (some ⟨ge, 0, none⟩) 9 ce] W fun e w' => e = .returned (.string (ndB x k' (2 * p + 1) (TR.und idxL (k' + 1) p L))) ∧ Below W.heap.size W w') := fun W hW => hIH (l + 1) (2 * p + 1) _ gu 0 _ _ ge W (by omega) hp2 (hrw.1.later hW) HU.out hul3 (HEW.out.below hW HEW.out.lt)
          have e2p : ((2 * p : Nat) : Int) = 2 * (p : Int) := by omega
          have e2q : ((2 * p + 1 : Nat) : Int) = 2 * (p : Int) + 1 := by omega
          rw [e2p] at h1
          rw [e2q] at HS2
          clear HI HR HIH hIH hrw HEW HP HU hk0 hp2 e2p e2q HL hlk hU
          generalize (TR.und idxL (k' + 1) p L).length = ul at *
          generalize ndB x k' (2 * p) (TR.und idxL (k' + 1) p L) = A1 at *
          generalize ndB x k' (2 * p + 1) (TR.und idxL (k' + 1) p L) = A2 at *
          go_wp2_with fail
          refine h1.mono ?_
          rintro e w2 ⟨rfl, hb2⟩
          have h2 := HS2.out _ hb2
          clear h1 HS2
          go_wp2_with fail
          refine h2.mono ?_
          rintro e w3 ⟨rfl, hb3⟩
          have ht := sTagHash_w x 3 [A1, A2] 2 #[.string A1, .string A2] w3 _ rfl rfl (by omega) rfl
          rw [HRF.out] at ht
          have hbz : Below w.heap.size w w3 := (hbw.trans (hb2.mono hbw.size)).trans (hb3.mono (Nat.le_trans hbw.size hb2.size))
          clear h2 HRF hbw hb2 hb3
          go_wp2_with fail
          refine ht.out.mono ?_
          rintro e w4 ⟨rfl, hb4⟩
          go_wp2
          go_ret
          exact ⟨rfl, hbz.trans (hb4.mono hbz.size)⟩

theorem l10Node_any (x : Int) : ∀ (k : Nat), k ≤ 8 → NdC x k
  | 0, h => l10Node_step x 0 h (fun k' e => absurd e (by omega))
  | k + 1, h => l10Node_step x (k + 1) h (fun k' e => by
    have : k = k' := by omega
    subst this
    exact l10Node_any x k (by omega))

end Go.Proofs.YtklpanjedolkdaaGreatDoor
/-
  What NodeHash, RootOf and SidesOf answer: the specification's.
-/
namespace Go.Proofs.YtklpanjedolkdaaGreatDoor
open Go.RowKit Go.BigFrame Go.Sort
set_option linter.unusedVariables false
set_option linter.unusedSimpArgs false

/-- a place's hash, as the two below it have it -/
noncomputable def trB (x : Int) (k p : Nat) (L : List Le) : ByteArray := TR.tr idxL (hnB x) (bhB x) k p L
theorem leaves_none : LV.leavesB [] = true := LV.leavesB_iff.2 ⟨by simp, fun f hf => by simp at hf, List.Pairwise.nil⟩
theorem bhB_none (x : Int) : bhB x [] = hashB 1 [] x := by
  rw [bhB_yes leaves_none]
  unfold hashB
  rw [none_ok]
  rfl
theorem nd_tr (x : Int) (k p : Nat) (L : List Le) : ndB x k p L = trB x k p L := TR.nod_tr (bhB_none x) k p L
theorem tr_emp {x : Int} {k p : Nat} {L : List Le} (h : TR.und idxL k p L = []) : trB x k p L = empB x k := TR.tr_none (bhB_none x) k p L h
/-- what NodeHash is -/
noncomputable def nhB (L : List Le) (l p x : Int) : ByteArray := if LV.leavesB L = true ∧ (0 ≤ l ∧ l ≤ 8) ∧ (0 ≤ p ∧ p < 2 ^ l.toNat) ∧ 1 ≤ x ∧ x ≤ 32 then trB x (8 - l.toNat) p.toNat L else ⟨#[]⟩

theorem pow_le8 {l : Int} (h : l ≤ 8) : (2 : Int) ^ l.toNat ≤ 256 := by
  have h1 : (2 : Nat) ^ l.toNat ≤ 2 ^ 8 := Nat.pow_le_pow_right (by omega) (by omega)
  have h2 : ((2 ^ l.toNat : Nat) : Int) = (2 : Int) ^ l.toNat := by simp
  omega

namespace TR
variable {α : Type} {β : Type} {idx : α → Nat} {hN : β → β → β} {hB : List α → β}
theorem sides_snoc (x : Nat) (l : List α) : ∀ (n k : Nat), sides idx hN hB x l k (n + 1) = sides idx hN hB x l k n ++ [tr idx hN hB (k + n) (oth (x / 2 ^ (k + n))) l]
  | 0, k => rfl
  | n + 1, k => by
    have h := sides_snoc x l n (k + 1)
    rw [show k + 1 + n = k + (n + 1) by omega] at h
    show tr idx hN hB k (oth (x / 2 ^ k)) l :: sides idx hN hB x l (k + 1) (n + 1) = _
    rw [h]
    rfl
end TR
/-- the sides of index x, n of them from below -/
noncomputable def sdL (x : Int) (ix : Nat) (L : List Le) (n : Nat) : List ByteArray := TR.sides idxL (hnB x) (bhB x) ix L 0 n
theorem sdL_len (x : Int) (ix : Nat) (L : List Le) (n : Nat) : (sdL x ix L n).length = n := TR.sides_len ix L n 0
theorem sdL_up (x : Int) (ix : Nat) (L : List Le) (n : Nat) : sdL x ix L (n + 1) = sdL x ix L n ++ [trB x n (TR.oth (ix / 2 ^ n)) L] := by
  unfold sdL trB
  rw [TR.sides_snoc, Nat.zero_add]
theorem xor_b (q : Nat) (h : q ≤ 255) : bits BinOp.xor IntKind.i64 (q : Int) 1 = ((TR.oth q : Nat) : Int) := by
  rw [← TR.oth_xor q (by omega)]
  have : ∀ q : Fin 256, bits BinOp.xor IntKind.i64 ((q.val : Nat) : Int) 1 = ((q.val ^^^ 1 : Nat) : Int) := by decide +kernel
  exact this ⟨q, by omega⟩
theorem oth_le (q : Nat) : TR.oth q ≤ q + 1 := by unfold TR.oth; split <;> omega

section
variable {w : World} {ops : Array Oper} {o : Oper} {a : Act} {K : Act → World → Prop} {Q : Exit → Act → World → Prop}
theorem one_txt {w : World} {p : Nat} {t : ByteArray} (h : w.cell? ⟨p, 0, none⟩ = some (.string t)) : ∀ j u, [Value.string t][j]? = some u → w.cell? ((⟨p, 0, none⟩ : Addr).add j) = some u := by
  intro j u hj
  match j, hj with
  | 0, hj =>
    simp at hj
    subst hj
    rw [Addr.add_mid]
    exact h
/-- a text appended, and where the row lies then: as one step of a region that draws its order -/
theorem step_txtL {E : Prop} (hgd : o.guard = none) (s x : Operand)
    (ho : o.op = .call { callee := .builtin .append, args := #[s, x], argTypes := #[53, 53] })
    (B : Nat) (w0 : World) (u : Value) (l : List ByteArray) (t : ByteArray) (hs : a.eval s = u) (h : OS B w0 w u l) (p : Nat) (hx : a.eval x = .slice (some ⟨p, 0, none⟩) 1 1)
    (hnews : w.cell? ⟨p, 0, none⟩ = some (.string t)) (hlen : l.length + 1 ≤ 1000000)
    (hk : ∀ g cap w', OS B w0 w' (.slice (some ⟨g, 0, none⟩) (l.length + 1) cap) (l ++ [t]) → w.grownBy w' u.ownBlock → (u.ownBlock = some g ∨ g = w.heap.size) → K (a.put o.dst (.slice (some ⟨g, 0, none⟩) (l.length + 1) cap)) w') : if Region.wanted o (yielded ops a.tmps) = true then Oper.wp Tryz.prog o a w K Q else E := by
  obtain ⟨i0, hi, hz0, hz1, hz2⟩ := info_parts Tryz.info9
  refine step_append_lies w hgd s x 53 ho B 9 i0 (.string ByteArray.empty) 1 16 Tryz.underlying53 hi hz0 hz1 hz2 rfl (by decide) u l.length (svs l) hs h.1 ⟨p, 0, none⟩ 1 1 [.string t] hx rfl (one_txt hnews)
    (fun u hu => by simp at hu; subst hu; rfl) (by omega) (by unfold maxLen; omega) (by omega) h.2.2 w.heap.size rfl ?_
  intro g cap w' h1 h2 h3 _
  exact hk _ _ _ ⟨by rw [List.length_append, svs_append]; exact h1, h.2.1.grown h2 h.2.2 (fun k hk => (h.1.lt k hk).1), Nat.le_trans h.2.2 h2.size⟩ h2 h3
/-- .. and in a plain region -/
theorem wp_txtL {rest : List Oper} (hgd : o.guard = none) (s x : Operand)
    (ho : o.op = .call { callee := .builtin .append, args := #[s, x], argTypes := #[53, 53] })
    (B : Nat) (w0 : World) (u : Value) (l : List ByteArray) (t : ByteArray) (hs : a.eval s = u) (h : OS B w0 w u l) (p : Nat) (hx : a.eval x = .slice (some ⟨p, 0, none⟩) 1 1)
    (hnews : w.cell? ⟨p, 0, none⟩ = some (.string t)) (hlen : l.length + 1 ≤ 1000000)
    (hk : ∀ g cap w', OS B w0 w' (.slice (some ⟨g, 0, none⟩) (l.length + 1) cap) (l ++ [t]) → w.grownBy w' u.ownBlock → (u.ownBlock = some g ∨ g = w.heap.size) → wpList Tryz.prog ops Q rest (a.put o.dst (.slice (some ⟨g, 0, none⟩) (l.length + 1) cap)) w') : wpList Tryz.prog ops Q (o :: rest) a w := by
  obtain ⟨i0, hi, hz0, hz1, hz2⟩ := info_parts Tryz.info9
  refine wpList_append_lies w hgd s x 53 ho B 9 i0 (.string ByteArray.empty) 1 16 Tryz.underlying53 hi hz0 hz1 hz2 rfl (by decide) u l.length (svs l) hs h.1 ⟨p, 0, none⟩ 1 1 [.string t] hx rfl (one_txt hnews)
    (fun u hu => by simp at hu; subst hu; rfl) (by omega) (by unfold maxLen; omega) (by omega) h.2.2 w.heap.size rfl ?_
  intro g cap w' h1 h2 h3 _
  exact hk _ _ _ ⟨by rw [List.length_append, svs_append]; exact h1, h.2.1.grown h2 h.2.2 (fun k hk => (h.1.lt k hk).1), Nat.le_trans h.2.2 h2.size⟩ h2 h3
end
theorem SS.grown {w w' : World} {v : Value} {g o : Nat} {l : List ByteArray} {row : Option Nat} (h : SS w v g o l) (hg : w.grownBy w' row) (hne : 0 < l.length → some g ≠ row) : SS w' v g o l := by
  have hlt := h.lt
  obtain ⟨a, cap, h1, h2, h3, h4⟩ := h
  exact ⟨a, cap, h1, h2, h3, fun j hj => (cell_kept (hg.block g (hlt (by omega)) (hne (by omega)))).trans (h4 j hj)⟩

/-- the row of sides that grows, beside the specification's spots and empties -/
def SdI (x : Int) (L : List Le) (w wr : World) (vs ve : Value) (gu ge : Nat) (u : Value) (l : List ByteArray) : Prop :=
  OS w.heap.size w wr u l ∧ RS 3 scs wr vs gu 0 L ∧ SS wr ve ge 0 (emL x 0) ∧ (0 < L.length → u.ownBlock ≠ some gu) ∧ u.ownBlock ≠ some ge
theorem SdI.later {x : Int} {L : List Le} {w wr wr' : World} {vs ve : Value} {gu ge : Nat} {u : Value} {l : List ByteArray} (h : SdI x L w wr vs ve gu ge u l) (hb : Below wr.heap.size wr wr') : SdI x L w wr' vs ve gu ge u l :=
  ⟨h.1.later hb, h.2.1.later hb, h.2.2.1.below hb h.2.2.1.lt, h.2.2.2⟩
theorem SdI.drew {x : Int} {L : List Le} {w wr : World} {vs ve : Value} {gu ge : Nat} {u : Value} {l : List ByteArray} (h : SdI x L w wr vs ve gu ge u l) : SdI x L w wr.drew vs ve gu ge u l := ⟨h.1.drew, h.2.1, h.2.2.1, h.2.2.2⟩
theorem SdI.app {x : Int} {L : List Le} {w wr wr' : World} {vs ve : Value} {gu ge g cap n : Nat} {u : Value} {l l' : List ByteArray} (h : SdI x L w wr vs ve gu ge u l) (h1 : OS w.heap.size w wr' (.slice (some ⟨g, 0, none⟩) n cap) l') (hg : wr.grownBy wr' u.ownBlock) (hl : u.ownBlock = some g ∨ g = wr.heap.size) : SdI x L w wr' vs ve gu ge (.slice (some ⟨g, 0, none⟩) n cap) l' := by
  obtain ⟨a1, a2, a3, a4, a5⟩ := h
  have e9 : 0 < (emL x 0).length := by rw [emL_len]; omega
  have hge := a3.lt e9
  refine ⟨h1, a2.grown hg (fun h0 e => a4 h0 e.symm), a3.grown hg (fun _ e => a5 e.symm), fun h0 e => ?_, fun e => ?_⟩
  · have eg : g = gu := by simpa [Value.ownBlock] using e
    have hgu : gu < wr.heap.size := by
      obtain ⟨_, _, _, _, h3, _⟩ := a2
      exact (h3 h0).2
    rcases hl with hl | hl
    · exact a4 h0 (by rw [hl, eg])
    · omega
  · have eg : g = ge := by simpa [Value.ownBlock] using e
    rcases hl with hl | hl
    · exact a5 (by rw [hl, eg])
    · omega

def SdTR (N : Nat) (x : Int) (ix : Nat) (L : List Le) (w : World) (vs ve : Value) (gu ge : Nat) (u i : Value) (wr : World) : Prop := ∃ j : Nat, j ≤ N ∧ i = .int .i64 (8 - (j : Int)) ∧ Hid (SdI x L w wr vs ve gu ge u (sdL x ix L j))

/-- what SidesOf is -/
noncomputable def sdA (L : List Le) (ix l x : Int) : List ByteArray := if LV.leavesB L = true ∧ (0 ≤ ix ∧ ix ≤ 255) ∧ (0 ≤ l ∧ l ≤ 8) ∧ 1 ≤ x ∧ x ≤ 32 then sdL x ix.toNat L (8 - l.toNat) else []

set_option maxRecDepth 100000 in
set_option maxHeartbeats 1000000 in
theorem sSidesOf_yes (v : Value) (ga oa : Nat) (L : List Le) (ix l : Nat) (x : Int) (w : World) (hv : RS 2 lcs w v ga oa L) (hsm : SmallL L) (h1 : LV.leavesB L = true) (h2 : ix ≤ 255) (h3 : l ≤ 8) (h4 : 1 ≤ x ∧ x ≤ 32) :
    Calls Tryz.prog 113 #[v, .int .i64 (ix : Int), .int .i64 (l : Int), .int .i64 x] w fun e w' => ∃ u, e = .returned u ∧ OS w.heap.size w w' u (sdL x ix L (8 - l)) := by
  have HC : Hid (∀ W, Below w.heap.size w W → Calls Tryz.prog 110 #[v] W fun e w' => e = .returned (.bool true) ∧ Below W.heap.size W w') := fun W hW => by
    have h := sLeavesOk_any v ga oa L W (hv.later hW) hsm
    rw [h1] at h
    exact h
  have HV : Hid (RS 2 lcs w v ga oa L ∧ SmallL L ∧ LV.LOk L) := ⟨hv, hsm, LV.leavesB_iff.1 h1⟩
  obtain ⟨a, cap, rfl, hl, _⟩ := hv
  have d0 : decide (0 ≤ (ix : Int) ∧ (ix : Int) ≤ 255) = true := by simp; omega
  have d1 : decide (0 ≤ (l : Int) ∧ (l : Int) ≤ 8) = true := by simp; omega
  have d2 : decide (1 ≤ x ∧ x ≤ 32) = true := by simpa using h4
  have hba := (Below.refl w.heap.size w).alloc (Nat.le_refl _) (.cells #[] 9)
  have HO : Hid (OS w.heap.size w (w.alloc (.cells #[] 9)) (.slice (some ⟨w.heap.size, 0, none⟩) 0 0) []) := OS.made w
  have hc := HC.out _ hba
  clear hsm h1 HC
  go_enter Tryz.func113, Tryz.ntmps113
  go_wp2_with fail
  refine hc.mono ?_
  rintro e w1 ⟨rfl, hb1⟩
  clear hc
  go_wp2_with fail
  refine (l01In_any _ _ _ _).mono ?_
  rintro e w2 ⟨rfl, rfl⟩
  rw [d0]
  go_wp2_with fail
  refine (l01In_any _ _ _ _).mono ?_
  rintro e w2 ⟨rfl, rfl⟩
  rw [d1]
  go_wp2_with fail
  refine (l01In_any _ _ _ _).mono ?_
  rintro e w2 ⟨rfl, rfl⟩
  rw [d2]
  have hb1w : Below w.heap.size w w2 := hba.trans (hb1.mono (by simp))
  have hs := l10Spots_any _ ga oa L w2 (HV.out.1.later hb1w) HV.out.2.1 HV.out.2.2.1
  go_wp2_with fail
  refine hs.mono ?_
  rintro e w3 ⟨u, rfl, ho3⟩
  have he := l10Empties_any x w3
  clear hs
  go_wp2_with fail
  refine he.mono ?_
  rintro e w4 ⟨ge, rfl, hge, htb, hb4⟩
  have hb34 : Below w2.heap.size w2 w4 := ho3.2.1.trans (hb4.mono ho3.2.2)
  obtain ⟨gu, hrw, hgu, _⟩ := ho3.rw (Nat.le_trans HV.out.2.2.1 (by omega))
  obtain ⟨au, cu, eu⟩ := ho3.shape
  have HST : Hid (SdTR (8 - l) x ix L w u (.slice (some ⟨ge, 0, none⟩) 9 9) gu ge (.slice (some ⟨w.heap.size, 0, none⟩) 0 0) (.int .i64 8) w4) := by
    have hz1 : w.heap.size < w2.heap.size := by
      have := hb1.size
      simp at this
      omega
    refine ⟨0, by omega, rfl, (HO.out.later hb1).later hb34, hrw.1.later hb4, htb.ss 9 9 (emL_len x 0) (by omega), fun h0 e => ?_, fun e => ?_⟩
    · have : w.heap.size = gu := by simpa [Value.ownBlock] using e
      omega
    · have : w.heap.size = ge := by simpa [Value.ownBlock] using e
      have := ho3.2.2
      omega
  have hL24 : L.length ≤ 24 := HV.out.2.2.1
  obtain ⟨nL, hnL⟩ : ∃ nL, L.length = nL := ⟨_, rfl⟩
  have HNL : Hid (L.length = nL) := hnL
  have HSM : Hid (SmallL L) := HV.out.2.1
  rw [hnL] at eu hl hL24 ⊢
  subst eu
  clear he ho3 HO hb1 hba hnL hrw htb hb4 hb34 hgu hge HV hb1w
  go_wp2
  go_loopw [9, 12] (fun u i wr => SdTR (8 - l) x ix L w (.slice au nL cu) (.slice (some ⟨ge, 0, none⟩) 9 9) gu ge u i wr) (fun _ i _ => (intOf i).toNat)
  case atStart => exact HST.out
  case round =>
    obtain ⟨j, hj, rfl, HI⟩ := hrel
    clear HST
    have hL : (sdL x ix L j).length = j := sdL_len x ix L j
    obtain ⟨ab, cb, hb⟩ := HI.out.1.slice
    rw [hL] at hb
    subst hb
    by_cases hjl : j < 8 - l
    · have i1 : (l : Int) < 8 - (j : Int) := by omega
      have hdv : ix / 2 ^ j ≤ 255 := Nat.le_trans (Nat.div_le_self _ _) h2
      have hxq : bits BinOp.xor IntKind.i64 ((ix : Int) / 2 ^ (8 - (8 - j))) 1 = ((TR.oth (ix / 2 ^ j) : Nat) : Int) := by
        have e1 : 8 - (8 - j) = j := by omega
        have e2 : (ix : Int) / 2 ^ j = ((ix / 2 ^ j : Nat) : Int) := by simp
        rw [e1, e2]
        exact xor_b _ hdv
      have hol := oth_le (ix / 2 ^ j)
      have hn := l10Node_any x j (by omega) (8 - (j : Int)) (TR.oth (ix / 2 ^ j)) _ gu 0 L _ ge wr (by omega) (by
        have h5 : 1 ≤ 2 ^ (8 - j) := Nat.one_le_two_pow
        omega) HI.out.2.1 HSM.out (by rw [HNL.out]; exact hL24) HI.out.2.2.1
      rw [← hxq, nd_tr] at hn
      have hst := sdL_up x ix L j
      have HNX : Hid (∀ W v, SdI x L w W (.slice au nL cu) (.slice (some ⟨ge, 0, none⟩) 9 9) gu ge v (sdL x ix L j ++ [trB x j (TR.oth (ix / 2 ^ j)) L]) → SdTR (8 - l) x ix L w (.slice au nL cu) (.slice (some ⟨ge, 0, none⟩) 9 9) gu ge v (.int .i64 (8 - (j : Int) - 1)) W) := by
        rw [← hst]
        exact fun W v hW => ⟨j + 1, by omega, by congr 1; omega, hW⟩
      have HLJ : Hid ((sdL x ix L j).length + 1 ≤ 1000000) := by show (sdL x ix L j).length + 1 ≤ 1000000; omega
      generalize trB x j (TR.oth (ix / 2 ^ j)) L = T at *
      clear hL hst hxq hdv hol
      generalize sdL x ix L j = l0 at *
      go_wp2_with fail
      refine hn.mono ?_
      rintro e w5 ⟨rfl, hb5⟩
      have HI5 : Hid (SdI x L w (w5.alloc (.cells #[.string T] 9)) (.slice au nL cu) (.slice (some ⟨ge, 0, none⟩) 9 9) gu ge (.slice ab j cb) l0) := HI.out.later (hb5.alloc hb5.size _)
      have hct : (w5.alloc (.cells #[.string T] 9)).cell? ⟨w5.heap.size, 0, none⟩ = some (.string T) := by rw [World.cell?_alloc_at _ _ _ _ rfl]; rfl
      have HCT : Hid ((w5.alloc (.cells #[.string T] 9)).cell? ⟨w5.heap.size, 0, none⟩ = some (.string T)) := hct
      clear hn HI hct hb5
      go_wp2_with (at_builtin; refine wp_txtL rfl _ _ rfl w.heap.size w _ l0 T rfl HI5.out.1 _ rfl HCT.out HLJ.out ?_)
      intro g6 cap6 w6 ho6 hg6 hl6
      have HN2 : Hid (SdTR (8 - l) x ix L w (.slice au nL cu) (.slice (some ⟨ge, 0, none⟩) 9 9) gu ge (.slice (some ⟨g6, 0, none⟩) (l0.length + 1) cap6) (.int .i64 (8 - (j : Int) - 1)) w6) := HNX.out _ _ (HI5.out.app ho6 hg6 (by simpa using hl6))
      clear HNX ho6 hg6 hl6 HI5 HCT
      go_wp2
      go_roundw
      case rel => exact HN2.out
      case measure => simp [intOf]; omega
    · have i1 : ¬ ((l : Int) < 8 - (j : Int)) := by omega
      have hje : j = 8 - l := by omega
      have HF : Hid (∃ u, Ending.returned (.slice ab j cb) = .returned u ∧ OS w.heap.size w wr u (sdL x ix L (8 - l))) := ⟨_, rfl, by rw [← hje]; exact HI.out.1⟩
      clear HI hL hje
      go_wp2
      go_ret
      exact HF.out

theorem sSidesOf_any (v : Value) (ga oa : Nat) (L : List Le) (ix l x : Int) (w : World) (hv : RS 2 lcs w v ga oa L) (hsm : SmallL L) :
    Calls Tryz.prog 113 #[v, .int .i64 ix, .int .i64 l, .int .i64 x] w fun e w' => ∃ u, e = .returned u ∧ OS w.heap.size w w' u (sdA L ix l x) := by
  unfold sdA
  have hba := (Below.refl w.heap.size w).alloc (Nat.le_refl _) (.cells #[] 9)
  have hc := sLeavesOk_any v ga oa L _ (hv.later hba) hsm
  have HF : Hid (∀ W, Below (w.alloc (.cells #[] 9)).heap.size (w.alloc (.cells #[] 9)) W → ∃ u, Ending.returned (.slice (some ⟨w.heap.size, 0, none⟩) 0 0) = .returned u ∧ OS w.heap.size w W u []) := fun W hW => ⟨_, rfl, (OS.made w).later hW⟩
  cases h1 : LV.leavesB L with
  | false =>
    rw [if_neg (fun h => by simp at h)]
    rw [h1] at hc
    obtain ⟨a, cap, rfl, hl, _⟩ := hv
    clear hsm h1 hba
    go_enter Tryz.func113, Tryz.ntmps113
    go_wp2_with fail
    refine hc.mono ?_
    rintro e w1 ⟨rfl, hb1⟩
    clear hc
    go_wp2
    go_ret
    exact HF.out _ hb1
  | true =>
    by_cases h2 : 0 ≤ ix ∧ ix ≤ 255
    · by_cases h3 : 0 ≤ l ∧ l ≤ 8
      · by_cases h4 : 1 ≤ x ∧ x ≤ 32
        · rw [if_pos ⟨rfl, h2, h3, h4⟩]
          obtain ⟨i, rfl⟩ := Int.eq_ofNat_of_zero_le h2.1
          obtain ⟨k, rfl⟩ := Int.eq_ofNat_of_zero_le h3.1
          exact sSidesOf_yes v ga oa L i k x w hv hsm h1 (by omega) (by omega) h4
        · rw [if_neg (fun h => h4 h.2.2.2)]
          rw [h1] at hc
          obtain ⟨a, cap, rfl, hl, _⟩ := hv
          have d0 : decide (0 ≤ ix ∧ ix ≤ 255) = true := by simpa using h2
          have d1 : decide (0 ≤ l ∧ l ≤ 8) = true := by simpa using h3
          have d2 : decide (1 ≤ x ∧ x ≤ 32) = false := by simpa using h4
          clear hsm h1 hba
          go_enter Tryz.func113, Tryz.ntmps113
          go_wp2_with fail
          refine hc.mono ?_
          rintro e w1 ⟨rfl, hb1⟩
          clear hc
          go_wp2_with fail
          refine (l01In_any _ _ _ _).mono ?_
          rintro e w2 ⟨rfl, rfl⟩
          rw [d0]
          go_wp2_with fail
          refine (l01In_any _ _ _ _).mono ?_
          rintro e w2 ⟨rfl, rfl⟩
          rw [d1]
          go_wp2_with fail
          refine (l01In_any _ _ _ _).mono ?_
          rintro e w2 ⟨rfl, rfl⟩
          rw [d2]
          go_wp2
          go_ret
          exact HF.out _ hb1
      · rw [if_neg (fun h => h3 h.2.2.1)]
        rw [h1] at hc
        obtain ⟨a, cap, rfl, hl, _⟩ := hv
        have d0 : decide (0 ≤ ix ∧ ix ≤ 255) = true := by simpa using h2
        have d1 : decide (0 ≤ l ∧ l ≤ 8) = false := by simpa using h3
        clear hsm h1 hba h3
        go_enter Tryz.func113, Tryz.ntmps113
        go_wp2_with fail
        refine hc.mono ?_
        rintro e w1 ⟨rfl, hb1⟩
        clear hc
        go_wp2_with fail
        refine (l01In_any _ _ _ _).mono ?_
        rintro e w2 ⟨rfl, rfl⟩
        rw [d0]
        go_wp2_with fail
        refine (l01In_any _ _ _ _).mono ?_
        rintro e w2 ⟨rfl, rfl⟩
        rw [d1]
        go_wp2
        go_ret
        exact HF.out _ hb1
    · rw [if_neg (fun h => h2 h.2.1)]
      rw [h1] at hc
      obtain ⟨a, cap, rfl, hl, _⟩ := hv
      have d0 : decide (0 ≤ ix ∧ ix ≤ 255) = false := by simpa using h2
      clear hsm h1 hba h2
      go_enter Tryz.func113, Tryz.ntmps113
      go_wp2_with fail
      refine hc.mono ?_
      rintro e w1 ⟨rfl, hb1⟩
      clear hc
      go_wp2_with fail
      refine (l01In_any _ _ _ _).mono ?_
      rintro e w2 ⟨rfl, rfl⟩
      rw [d0]
      go_wp2
      go_ret
      exact HF.out _ hb1

end Go.Proofs.YtklpanjedolkdaaGreatDoor
/-
  Proofs: how wide their sides are: the specification's answer.
-/
namespace Go.Proofs.YtklpanjedolkdaaGreatDoor
open Go.RowKit Go.BigFrame Go.Sort
set_option linter.unusedVariables false
set_option linter.unusedSimpArgs false

/-- are all of this width? -/
def wideB (S : List ByteArray) (x : Int) : Bool := S.all (fun s => decide ((s.size : Int) = x)) && decide (1 ≤ x ∧ x ≤ 32)
theorem wideB_bad {S : List ByteArray} {x : Int} {m : Nat} (hm : m < S.length) (h : ¬ ((S[m].size : Int) = x)) : wideB S x = false := by
  unfold wideB
  rw [Bool.and_eq_false_iff]
  left
  rw [List.all_eq_false]
  exact ⟨S[m], List.getElem_mem _, by simpa using h⟩
theorem wideB_good {S : List ByteArray} {x : Int} (h : ∀ j (hj : j < S.length), (S[j].size : Int) = x) : wideB S x = decide (1 ≤ x ∧ x ≤ 32) := by
  unfold wideB
  have : S.all (fun s => decide ((s.size : Int) = x)) = true := by
    rw [List.all_eq_true]
    intro s hs
    obtain ⟨j, hj, rfl⟩ := List.getElem_of_mem hs
    simpa using h j hj
  rw [this, Bool.true_and]

def PwR (w : World) (S : List ByteArray) (x : Int) (i : Value) (wr : World) : Prop := ∃ m : Nat, m ≤ S.length ∧ i = .int .i64 m ∧ wr = w ∧ Hid (∀ j (h : j < S.length), j < m → (S[j].size : Int) = x)

theorem run_rangeP {w : World} {p : Nat} {v1 v2 : Value} (t : TypeId) : (w.alloc (.cells #[v1, v2] t)).cell? ⟨w.heap.size, 0, none⟩ = some v1 ∧ (w.alloc (.cells #[v1, v2] t)).cell? ⟨w.heap.size, 1, none⟩ = some v2 := by
  constructor
  · rw [World.cell?_alloc_at _ _ _ _ rfl]; rfl
  · rw [World.cell?_alloc_at _ _ _ _ rfl]; rfl

end Go.Proofs.YtklpanjedolkdaaGreatDoor
