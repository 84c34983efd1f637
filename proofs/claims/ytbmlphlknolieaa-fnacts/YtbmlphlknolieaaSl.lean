/-
  A disk that loses, as the specification reckons it.
-/
import Derived.Test.YtbmlphlknolieaaSp
namespace Go.Proofs.Ytbmlphlknolieaa
open Go.RowKit Go.BigFrame Go.Sort
set_option linter.unusedVariables false
set_option linter.unusedSimpArgs false

def LoR (w : World) (r : Nat) (M : List Fl) (v : Value) (i : Value) (wr : World) : Prop := ∃ (m : Nat) (u : Value), m ≤ M.length ∧ i = .int .i64 m ∧ Hid (SpW w.heap.size w wr w.heap.size (w.heap.size + 1) r v u (M.take m))

set_option maxRecDepth 100000 in
set_option maxHeartbeats 4000000 in
theorem sLoseDisk_any (v : Value) (ga oa : Nat) (L : List Fl) (q : Value) (gq oq : Nat) (Q : List Int) (w : World) (hv : RS 3 fcs w v ga oa L) (hq : RS 1 ics w q gq oq Q) :
    Calls Try.prog 42 #[.agg #[v], q] w fun e w' => ∃ u, e = .returned (.tuple #[u, .bool (F.diskB L)]) ∧ DkIn w' w.heap.size u (F.loseR L Q) ∧ Below w.heap.size w w' := by
  have hb0 : Below w.heap.size w ((w.alloc (.cells #[v] 26)).alloc (.cells #[.slice none 0 0] 26)) := ((Below.refl _ _).alloc (Nat.le_refl _) _).alloc (by simp) _
  have HC := sDiskOk_any v ga oa L _ (hv.later hb0)
  have HV : Hid (RS 3 fcs ((w.alloc (.cells #[v] 26)).alloc (.cells #[.slice none 0 0] 26)) v ga oa L ∧ RS 1 ics ((w.alloc (.cells #[v] 26)).alloc (.cells #[.slice none 0 0] 26)) q gq oq Q ∧ Below w.heap.size w ((w.alloc (.cells #[v] 26)).alloc (.cells #[.slice none 0 0] 26))) := ⟨hv.later hb0, hq.later hb0, hb0⟩
  have HVW0 := hv
  have HVW1 := hq
  obtain ⟨a, cap, rfl, hl, hA, _⟩ := hv
  obtain ⟨aq, cq, rfl, hlq, hAq, _⟩ := hq
  obtain ⟨n, hn⟩ : ∃ n, L.length = n := ⟨_, rfl⟩
  obtain ⟨nq, hnq⟩ : ∃ nq, Q.length = nq := ⟨_, rfl⟩
  have HA : Hid ((0 < n → a = some ⟨ga, oa, none⟩) ∧ (0 < nq → aq = some ⟨gq, oq, none⟩)) := ⟨fun h => (hA (by omega)).1, fun h => (hAq (by omega)).1⟩
  have HG : Hid (BD ((w.alloc (.cells #[.slice a n cap] 26)).alloc (.cells #[.slice none 0 0] 26)) w.heap.size 26 (.slice a n cap) ∧ BD ((w.alloc (.cells #[.slice a n cap] 26)).alloc (.cells #[.slice none 0 0] 26)) (w.heap.size + 1) 26 (.slice none 0 0)) := ⟨alloc_snd _ _ _ rfl, alloc_fst _ _ (by simp)⟩
  rw [hn] at hl HC HV hb0 HVW0 ⊢
  rw [hnq] at hlq HV HVW1 ⊢
  have HV1 : Hid (RS 3 fcs w (.slice a n cap) ga oa L ∧ RS 1 ics w (.slice aq nq cq) gq oq Q) := ⟨HVW0, HVW1⟩
  clear HVW0 HVW1
  clear hA hAq hb0
  have hs0 : ((w.alloc (.cells #[.slice a n cap] 26)).alloc (.cells #[.slice none 0 0] 26)).heap.size = w.heap.size + 2 := by simp
  cases hd : F.diskB L
  · rw [hd] at HC
    have el : F.loseR L Q = [] := by unfold F.loseR; rw [hd]; rfl
    rw [el]
    clear el
    go_enter Try.func42, Try.ntmps42
    go_wp2_with fail
    refine HC.mono ?_
    rintro e w1 ⟨rfl, hb1⟩
    have hG := HG.out.2.later hb1
    have t0 := hG.cell
    have g0 := hG.fr
    have HF : Hid ((w1.setCell ⟨w.heap.size + 1, 0, none⟩ (.slice none 0 0)).rangeAt (w.heap.size + 1) 0 [.slice none 0 0] ∧ Below w.heap.size w (w1.setCell ⟨w.heap.size + 1, 0, none⟩ (.slice none 0 0))) := ⟨range1 (set_here t0 g0 _), (HV.out.2.2.trans (hb1.mono (by rw [hs0]; omega))).setCell (p := ⟨w.heap.size + 1, 0, none⟩) (by simp) _⟩
    clear HC hb1 hG HV HA HG
    go_wp2
    refine ret_rec2 4 5 (w.heap.size + 1) 26 [.slice none 0 0] _ _ rfl rfl rfl rfl Try.underlying26 rfl sizeDisk HF.out.1 ?_
    exact ⟨_, rfl, ⟨_, w.heap.size, rfl, RW.nil _ _, Nat.le_refl _⟩, HF.out.2⟩
  rw [hd] at HC
  have el : F.loseR L Q = F.cutL L Q := by unfold F.loseR; rw [hd]; rfl
  rw [el]
  obtain ⟨M, hM⟩ : ∃ M, F.cutL L Q = M := ⟨_, rfl⟩
  have HM : Hid (M.length = n ∧ ∀ j (h : j < M.length) (h2 : j < L.length), M[j] = F.cutF L[j] (Q.getD j 0)) := by
    subst hM
    exact ⟨by rw [F.cutL_len]; exact hn, fun j h h2 => F.cutL_at L Q j h h2⟩
  have HD : Hid (F.DOk L) := F.diskB_iff.1 hd
  have hn30 := HD.out.1
  rw [hM]
  clear el hM hd
  go_enter Try.func42, Try.ntmps42
  go_wp2_with fail
  refine HC.mono ?_
  rintro e w1 ⟨rfl, hb1⟩
  have hs1 : w.heap.size + 2 ≤ w1.heap.size := by have := hb1.size; omega
  have hbw1 := HV.out.2.2.trans (hb1.mono (by rw [hs0]; omega))
  have hwb : Below w1.heap.size w1 (w1.alloc (.cells #[.slice none 0 0] 26)) := (Below.refl _ _).alloc (Nat.le_refl _) _
  have hst : SpW w.heap.size w (w1.alloc (.cells #[.slice none 0 0] 26)) w.heap.size (w.heap.size + 1) w1.heap.size (.slice a n cap) (.slice none 0 0) [] :=
    ⟨⟨World.ownsRow_nil _ _ _ _, hbw1.trans (hwb.mono hbw1.size), by simp; omega⟩, ⟨(HG.out.1.later hb1).later hwb, (HG.out.2.later hb1).later hwb, BD.new _ _ _⟩, ⟨by omega, by omega⟩, by omega, by omega⟩
  have HST : Hid (LoR w w1.heap.size M (.slice a n cap) (.int .i64 0) (w1.alloc (.cells #[.slice none 0 0] 26))) := ⟨0, _, by omega, rfl, hst⟩
  clear HC hb1 HV HG hs0 hst hwb hbw1
  go_wp2
  go_loopw [7] (fun i wr => LoR w w1.heap.size M (.slice a n cap) i wr) (fun i _ => n - (intOf i).toNat)
  case atStart => exact HST.out
  case round =>
    obtain ⟨m, u, hm, rfl, HI⟩ := hrel
    clear HST
    rw [HM.out.1] at hm
    have d0 := HI.out.2.1.1.cell
    by_cases hlt : m < n
    · have ea := HA.out.1 (by omega)
      subst ea
      obtain ⟨c0, c1, c2⟩ := (HV1.out.1.later HI.out.1.2.1).file m (by omega)
      obtain ⟨⟨y, t, k⟩, hX⟩ : ∃ X, L[m]'(by omega) = X := ⟨_, rfl⟩
      rw [hX] at c0 c1 c2
      simp only at c0 c1 c2
      obtain ⟨Y, hY⟩ : ∃ Y, Q.getD m 0 = Y := ⟨_, rfl⟩
      have hfl := F.flB_iff.1 (HD.out.2.1 ⟨y, t, k⟩ (by rw [← hX]; exact List.getElem_mem _))
      simp only at hfl
      obtain ⟨hnm, hf1, hf2, hf3⟩ := hfl
      have hcin := F.cutN_in (HD.out.2.1 ⟨y, t, k⟩ (by rw [← hX]; exact List.getElem_mem _)) Y
      obtain ⟨c, hc⟩ : ∃ c : Nat, F.cutN ⟨y, t, k⟩ Y = (c : Int) := ⟨(F.cutN ⟨y, t, k⟩ Y).toNat, by omega⟩
      rw [hc] at hcin
      simp only at hcin
      have hcc : c ≤ t.size := by omega
      have i1 : (m : Int) < (n : Int) := by omega
      have i2 : (0 : Int) ≤ (m : Int) := by omega
      obtain ⟨l, hl'⟩ : ∃ l, M.take m = l := ⟨_, rfl⟩
      have hll : l.length ≤ 30 := by rw [← hl']; simp; omega
      have hj : M.take (m + 1) = l ++ [⟨y, t.extract 0 c, (c : Int)⟩] := by
        rw [List.take_succ_eq_append_getElem (by rw [HM.out.1]; omega), hl', HM.out.2 m (by rw [HM.out.1]; omega) (by omega), hX, hY]
        unfold F.cutF
        rw [hc]
        rfl
      have HJ : Hid (M.take (m + 1) = l ++ [⟨y, t.extract 0 c, (c : Int)⟩]) := hj
      rw [hl'] at HI
      clear hj hl' hX hnm hcin
      by_cases hmq : m < nq
      · have eq := HA.out.2 (by omega)
        subst eq
        have cq0 := (HV1.out.2.later HI.out.1.2.1).int m (by omega)
        have hYq : Q[m]'(by omega) = Y := by rw [← hY]; simp [List.getD, List.getElem?_eq_getElem (show m < Q.length by omega)]
        rw [hYq] at cq0
        have cq1 : (wr.alloc (.cells #[.string y, .string t, .int .i64 k] 36)).cell? ⟨gq, oq + m, none⟩ = some (.int .i64 Y) := (cell_kept (Below.heap_alloc _ _ gq (lt_of_cell cq0))).trans cq0
        have j1 : (m : Int) < (nq : Int) := by omega
        clear hYq hY
        by_cases h1 : (t.size : Int) < Y
        · obtain rfl : c = t.size := by
            have := hc
            unfold F.cutN at this
            simp only at this
            rw [if_pos h1, if_neg (by omega)] at this
            omega
          have h3 : ¬ (t.size : Int) < k := by omega
          have ext : t.extract 0 t.size = t := by simp
          rw [ext] at HJ
          clear hc ext
          have hwa : Below wr.heap.size wr ((wr.alloc (.cells #[.string y, .string t, .int .i64 k] 36)).alloc (.cells #[.string y, .string t, .int .i64 (t.size : Int)] 36)).drew := (((Below.refl _ _).alloc (Nat.le_refl _) _).alloc (by simp) _).drew
          have HA1 : Hid (SpW w.heap.size w ((wr.alloc (.cells #[.string y, .string t, .int .i64 k] 36)).alloc (.cells #[.string y, .string t, .int .i64 (t.size : Int)] 36)).drew w.heap.size (w.heap.size + 1) w1.heap.size (.slice (some ⟨ga, oa, none⟩) n cap) u l) := HI.out.later hwa
          have HRN : Hid (((wr.alloc (.cells #[.string y, .string t, .int .i64 k] 36)).alloc (.cells #[.string y, .string t, .int .i64 (t.size : Int)] 36)).drew.rangeAt (wr.heap.size + 1) 0 (fcs ⟨y, t, (t.size : Int)⟩)) := range_at (by simp) (range_new (wr.alloc (.cells #[.string y, .string t, .int .i64 k] 36)) [.string y, .string t, .int .i64 (t.size : Int)] 36)
          have d2 : (wr.alloc (.cells #[.string y, .string t, .int .i64 k] 36)).cell? ⟨w1.heap.size, 0, none⟩ = some u := (HI.out.later (((Below.refl _ _).alloc (Nat.le_refl _) _))).2.1.2.2.cell
          have d2' : ((wr.alloc (.cells #[.string y, .string t, .int .i64 k] 36)).alloc (.cells #[.string y, .string t, .int .i64 (t.size : Int)] 36)).cell? ⟨w1.heap.size, 0, none⟩ = some u := HA1.out.2.1.2.2.cell
          have hbk : ((wr.alloc (.cells #[.string y, .string t, .int .i64 k] 36)).alloc (.cells #[.string y, .string t, .int .i64 (t.size : Int)] 36)).heap[wr.heap.size]? = some (.cells #[.string y, .string t, .int .i64 k] 36) := alloc_snd _ _ _ rfl
          have z0 : ((wr.alloc (.cells #[.string y, .string t, .int .i64 k] 36)).alloc (.cells #[.string y, .string t, .int .i64 (t.size : Int)] 36)).cell? ⟨wr.heap.size, 0, none⟩ = some (.string y) := by rw [cell_of_row _ _ 0 _ _ (0, 0) hbk]; rfl
          have z1 : ((wr.alloc (.cells #[.string y, .string t, .int .i64 k] 36)).alloc (.cells #[.string y, .string t, .int .i64 (t.size : Int)] 36)).cell? ⟨wr.heap.size, 1, none⟩ = some (.string t) := by rw [cell_of_row _ _ 1 _ _ (0, 0) hbk]; rfl
          clear HI HD HA HV1 hwa hbk
          go_wp2
          go_region_law ((refine step_file rfl _ _ rfl _ _ u l ⟨y, t, (t.size : Int)⟩ (by rfl) HA1.out.1 _ (by rfl) HRN.out (by omega) ?_; intro g8 cap8 w9 ho9 hg9; have hs9 := HA1.out.app ho9 hg9; have e1 := hs9.2.1.2.2.cell; have f1 := hs9.2.1.2.2.fr))
          all_goals
            have HJ2 : Hid (SpW w.heap.size w (w9.setCell ⟨w1.heap.size, 0, none⟩ (.slice (some ⟨g8, 0, none⟩) (l.length + 1) cap8)) w.heap.size (w.heap.size + 1) w1.heap.size (.slice (some ⟨ga, oa, none⟩) n cap) (.slice (some ⟨g8, 0, none⟩) (l.length + 1) cap8) (M.take (m + 1))) := by rw [HJ.out]; exact hs9.set
            clear hs9 e1 f1 ho9 hg9 HA1 HRN HJ d2 d2' z0 z1 d0 c0 c1 c2
            go_wp2
            go_roundw
            case rel => exact ⟨m + 1, _, by rw [HM.out.1]; omega, by go_num, HJ2⟩
            case measure => simp [intOf]; omega
        · by_cases h2 : Y < k
          · obtain rfl : k = (c : Int) := by
              have := hc
              unfold F.cutN at this
              simp only at this
              rw [if_neg h1, if_pos h2] at this
              exact this
            clear hc
            have hwa : Below wr.heap.size wr ((wr.alloc (.cells #[.string y, .string t, .int .i64 (c : Int)] 36)).alloc (.cells #[.string y, .string (t.extract 0 c), .int .i64 (c : Int)] 36)).drew := (((Below.refl _ _).alloc (Nat.le_refl _) _).alloc (by simp) _).drew
            have HA1 : Hid (SpW w.heap.size w ((wr.alloc (.cells #[.string y, .string t, .int .i64 (c : Int)] 36)).alloc (.cells #[.string y, .string (t.extract 0 c), .int .i64 (c : Int)] 36)).drew w.heap.size (w.heap.size + 1) w1.heap.size (.slice (some ⟨ga, oa, none⟩) n cap) u l) := HI.out.later hwa
            have HRN : Hid (((wr.alloc (.cells #[.string y, .string t, .int .i64 (c : Int)] 36)).alloc (.cells #[.string y, .string (t.extract 0 c), .int .i64 (c : Int)] 36)).drew.rangeAt (wr.heap.size + 1) 0 (fcs ⟨y, t.extract 0 c, (c : Int)⟩)) := range_at (by simp) (range_new (wr.alloc (.cells #[.string y, .string t, .int .i64 (c : Int)] 36)) [.string y, .string (t.extract 0 c), .int .i64 (c : Int)] 36)
            have d2 : (wr.alloc (.cells #[.string y, .string t, .int .i64 (c : Int)] 36)).cell? ⟨w1.heap.size, 0, none⟩ = some u := (HI.out.later (((Below.refl _ _).alloc (Nat.le_refl _) _))).2.1.2.2.cell
            have d2' : ((wr.alloc (.cells #[.string y, .string t, .int .i64 (c : Int)] 36)).alloc (.cells #[.string y, .string (t.extract 0 c), .int .i64 (c : Int)] 36)).cell? ⟨w1.heap.size, 0, none⟩ = some u := HA1.out.2.1.2.2.cell
            have hbk : ((wr.alloc (.cells #[.string y, .string t, .int .i64 (c : Int)] 36)).alloc (.cells #[.string y, .string (t.extract 0 c), .int .i64 (c : Int)] 36)).heap[wr.heap.size]? = some (.cells #[.string y, .string t, .int .i64 (c : Int)] 36) := alloc_snd _ _ _ rfl
            have z0 : ((wr.alloc (.cells #[.string y, .string t, .int .i64 (c : Int)] 36)).alloc (.cells #[.string y, .string (t.extract 0 c), .int .i64 (c : Int)] 36)).cell? ⟨wr.heap.size, 0, none⟩ = some (.string y) := by rw [cell_of_row _ _ 0 _ _ (0, 0) hbk]; rfl
            have z1 : ((wr.alloc (.cells #[.string y, .string t, .int .i64 (c : Int)] 36)).alloc (.cells #[.string y, .string (t.extract 0 c), .int .i64 (c : Int)] 36)).cell? ⟨wr.heap.size, 1, none⟩ = some (.string t) := by rw [cell_of_row _ _ 1 _ _ (0, 0) hbk]; rfl
            clear HI HD HA HV1 hwa hbk
            go_wp2
            go_region_law ((refine step_file rfl _ _ rfl _ _ u l ⟨y, t.extract 0 c, (c : Int)⟩ (by rfl) HA1.out.1 _ (by rfl) HRN.out (by omega) ?_; intro g8 cap8 w9 ho9 hg9; have hs9 := HA1.out.app ho9 hg9; have e1 := hs9.2.1.2.2.cell; have f1 := hs9.2.1.2.2.fr))
            all_goals
              have HJ2 : Hid (SpW w.heap.size w (w9.setCell ⟨w1.heap.size, 0, none⟩ (.slice (some ⟨g8, 0, none⟩) (l.length + 1) cap8)) w.heap.size (w.heap.size + 1) w1.heap.size (.slice (some ⟨ga, oa, none⟩) n cap) (.slice (some ⟨g8, 0, none⟩) (l.length + 1) cap8) (M.take (m + 1))) := by rw [HJ.out]; exact hs9.set
              clear hs9 e1 f1 ho9 hg9 HA1 HRN HJ d2 d2' z0 z1 d0 c0 c1 c2
              go_wp2
              go_roundw
              case rel => exact ⟨m + 1, _, by rw [HM.out.1]; omega, by go_num, HJ2⟩
              case measure => simp [intOf]; omega
          · have hyc : Y = (c : Int) := by
              have := hc
              unfold F.cutN at this
              simp only at this
              rw [if_neg h1, if_neg h2] at this
              exact this
            clear hc
            subst hyc
            have hwa : Below wr.heap.size wr ((wr.alloc (.cells #[.string y, .string t, .int .i64 k] 36)).alloc (.cells #[.string y, .string (t.extract 0 c), .int .i64 (c : Int)] 36)).drew := (((Below.refl _ _).alloc (Nat.le_refl _) _).alloc (by simp) _).drew
            have HA1 : Hid (SpW w.heap.size w ((wr.alloc (.cells #[.string y, .string t, .int .i64 k] 36)).alloc (.cells #[.string y, .string (t.extract 0 c), .int .i64 (c : Int)] 36)).drew w.heap.size (w.heap.size + 1) w1.heap.size (.slice (some ⟨ga, oa, none⟩) n cap) u l) := HI.out.later hwa
            have HRN : Hid (((wr.alloc (.cells #[.string y, .string t, .int .i64 k] 36)).alloc (.cells #[.string y, .string (t.extract 0 c), .int .i64 (c : Int)] 36)).drew.rangeAt (wr.heap.size + 1) 0 (fcs ⟨y, t.extract 0 c, (c : Int)⟩)) := range_at (by simp) (range_new (wr.alloc (.cells #[.string y, .string t, .int .i64 k] 36)) [.string y, .string (t.extract 0 c), .int .i64 (c : Int)] 36)
            have d2 : (wr.alloc (.cells #[.string y, .string t, .int .i64 k] 36)).cell? ⟨w1.heap.size, 0, none⟩ = some u := (HI.out.later (((Below.refl _ _).alloc (Nat.le_refl _) _))).2.1.2.2.cell
            have d2' : ((wr.alloc (.cells #[.string y, .string t, .int .i64 k] 36)).alloc (.cells #[.string y, .string (t.extract 0 c), .int .i64 (c : Int)] 36)).cell? ⟨w1.heap.size, 0, none⟩ = some u := HA1.out.2.1.2.2.cell
            have hbk : ((wr.alloc (.cells #[.string y, .string t, .int .i64 k] 36)).alloc (.cells #[.string y, .string (t.extract 0 c), .int .i64 (c : Int)] 36)).heap[wr.heap.size]? = some (.cells #[.string y, .string t, .int .i64 k] 36) := alloc_snd _ _ _ rfl
            have z0 : ((wr.alloc (.cells #[.string y, .string t, .int .i64 k] 36)).alloc (.cells #[.string y, .string (t.extract 0 c), .int .i64 (c : Int)] 36)).cell? ⟨wr.heap.size, 0, none⟩ = some (.string y) := by rw [cell_of_row _ _ 0 _ _ (0, 0) hbk]; rfl
            have z1 : ((wr.alloc (.cells #[.string y, .string t, .int .i64 k] 36)).alloc (.cells #[.string y, .string (t.extract 0 c), .int .i64 (c : Int)] 36)).cell? ⟨wr.heap.size, 1, none⟩ = some (.string t) := by rw [cell_of_row _ _ 1 _ _ (0, 0) hbk]; rfl
            clear HI HD HA HV1 hwa hbk
            go_wp2
            go_region_law ((refine step_file rfl _ _ rfl _ _ u l ⟨y, t.extract 0 c, (c : Int)⟩ (by rfl) HA1.out.1 _ (by rfl) HRN.out (by omega) ?_; intro g8 cap8 w9 ho9 hg9; have hs9 := HA1.out.app ho9 hg9; have e1 := hs9.2.1.2.2.cell; have f1 := hs9.2.1.2.2.fr))
            all_goals
              have HJ2 : Hid (SpW w.heap.size w (w9.setCell ⟨w1.heap.size, 0, none⟩ (.slice (some ⟨g8, 0, none⟩) (l.length + 1) cap8)) w.heap.size (w.heap.size + 1) w1.heap.size (.slice (some ⟨ga, oa, none⟩) n cap) (.slice (some ⟨g8, 0, none⟩) (l.length + 1) cap8) (M.take (m + 1))) := by rw [HJ.out]; exact hs9.set
              clear hs9 e1 f1 ho9 hg9 HA1 HRN HJ d2 d2' z0 z1 d0 c0 c1 c2
              go_wp2
              go_roundw
              case rel => exact ⟨m + 1, _, by rw [HM.out.1]; omega, by go_num, HJ2⟩
              case measure => simp [intOf]; omega
      · have hYq : Y = 0 := by rw [← hY]; simp [List.getD, List.getElem?_eq_none (show Q.length ≤ m by omega)]
        subst hYq
        have j1 : ¬ (m : Int) < (nq : Int) := by omega
        clear hY
        by_cases h1 : (t.size : Int) < 0
        · exact absurd h1 (by omega)
        · by_cases h2 : 0 < k
          · obtain rfl : k = (c : Int) := by
              have := hc
              unfold F.cutN at this
              simp only at this
              rw [if_neg h1, if_pos h2] at this
              exact this
            clear hc
            have hwa : Below wr.heap.size wr ((wr.alloc (.cells #[.string y, .string t, .int .i64 (c : Int)] 36)).alloc (.cells #[.string y, .string (t.extract 0 c), .int .i64 (c : Int)] 36)).drew := (((Below.refl _ _).alloc (Nat.le_refl _) _).alloc (by simp) _).drew
            have HA1 : Hid (SpW w.heap.size w ((wr.alloc (.cells #[.string y, .string t, .int .i64 (c : Int)] 36)).alloc (.cells #[.string y, .string (t.extract 0 c), .int .i64 (c : Int)] 36)).drew w.heap.size (w.heap.size + 1) w1.heap.size (.slice (some ⟨ga, oa, none⟩) n cap) u l) := HI.out.later hwa
            have HRN : Hid (((wr.alloc (.cells #[.string y, .string t, .int .i64 (c : Int)] 36)).alloc (.cells #[.string y, .string (t.extract 0 c), .int .i64 (c : Int)] 36)).drew.rangeAt (wr.heap.size + 1) 0 (fcs ⟨y, t.extract 0 c, (c : Int)⟩)) := range_at (by simp) (range_new (wr.alloc (.cells #[.string y, .string t, .int .i64 (c : Int)] 36)) [.string y, .string (t.extract 0 c), .int .i64 (c : Int)] 36)
            have d2 : (wr.alloc (.cells #[.string y, .string t, .int .i64 (c : Int)] 36)).cell? ⟨w1.heap.size, 0, none⟩ = some u := (HI.out.later (((Below.refl _ _).alloc (Nat.le_refl _) _))).2.1.2.2.cell
            have d2' : ((wr.alloc (.cells #[.string y, .string t, .int .i64 (c : Int)] 36)).alloc (.cells #[.string y, .string (t.extract 0 c), .int .i64 (c : Int)] 36)).cell? ⟨w1.heap.size, 0, none⟩ = some u := HA1.out.2.1.2.2.cell
            have hbk : ((wr.alloc (.cells #[.string y, .string t, .int .i64 (c : Int)] 36)).alloc (.cells #[.string y, .string (t.extract 0 c), .int .i64 (c : Int)] 36)).heap[wr.heap.size]? = some (.cells #[.string y, .string t, .int .i64 (c : Int)] 36) := alloc_snd _ _ _ rfl
            have z0 : ((wr.alloc (.cells #[.string y, .string t, .int .i64 (c : Int)] 36)).alloc (.cells #[.string y, .string (t.extract 0 c), .int .i64 (c : Int)] 36)).cell? ⟨wr.heap.size, 0, none⟩ = some (.string y) := by rw [cell_of_row _ _ 0 _ _ (0, 0) hbk]; rfl
            have z1 : ((wr.alloc (.cells #[.string y, .string t, .int .i64 (c : Int)] 36)).alloc (.cells #[.string y, .string (t.extract 0 c), .int .i64 (c : Int)] 36)).cell? ⟨wr.heap.size, 1, none⟩ = some (.string t) := by rw [cell_of_row _ _ 1 _ _ (0, 0) hbk]; rfl
            clear HI HD HA HV1 hwa hbk
            go_wp2
            go_region_law ((refine step_file rfl _ _ rfl _ _ u l ⟨y, t.extract 0 c, (c : Int)⟩ (by rfl) HA1.out.1 _ (by rfl) HRN.out (by omega) ?_; intro g8 cap8 w9 ho9 hg9; have hs9 := HA1.out.app ho9 hg9; have e1 := hs9.2.1.2.2.cell; have f1 := hs9.2.1.2.2.fr))
            all_goals
              have HJ2 : Hid (SpW w.heap.size w (w9.setCell ⟨w1.heap.size, 0, none⟩ (.slice (some ⟨g8, 0, none⟩) (l.length + 1) cap8)) w.heap.size (w.heap.size + 1) w1.heap.size (.slice (some ⟨ga, oa, none⟩) n cap) (.slice (some ⟨g8, 0, none⟩) (l.length + 1) cap8) (M.take (m + 1))) := by rw [HJ.out]; exact hs9.set
              clear hs9 e1 f1 ho9 hg9 HA1 HRN HJ d2 d2' z0 z1 d0 c0 c1 c2
              go_wp2
              go_roundw
              case rel => exact ⟨m + 1, _, by rw [HM.out.1]; omega, by go_num, HJ2⟩
              case measure => simp [intOf]; omega
          · have hyc : 0 = (c : Int) := by
              have := hc
              unfold F.cutN at this
              simp only at this
              rw [if_neg h1, if_neg h2] at this
              exact this
            clear hc
            obtain rfl : c = 0 := by omega
            clear hyc
            have ext : t.extract 0 0 = ByteArray.empty := by simp
            rw [ext] at HJ
            clear ext
            have hwa : Below wr.heap.size wr ((wr.alloc (.cells #[.string y, .string t, .int .i64 k] 36)).alloc (.cells #[.string y, .string ByteArray.empty, .int .i64 (0 : Int)] 36)).drew := (((Below.refl _ _).alloc (Nat.le_refl _) _).alloc (by simp) _).drew
            have HA1 : Hid (SpW w.heap.size w ((wr.alloc (.cells #[.string y, .string t, .int .i64 k] 36)).alloc (.cells #[.string y, .string ByteArray.empty, .int .i64 (0 : Int)] 36)).drew w.heap.size (w.heap.size + 1) w1.heap.size (.slice (some ⟨ga, oa, none⟩) n cap) u l) := HI.out.later hwa
            have HRN : Hid (((wr.alloc (.cells #[.string y, .string t, .int .i64 k] 36)).alloc (.cells #[.string y, .string ByteArray.empty, .int .i64 (0 : Int)] 36)).drew.rangeAt (wr.heap.size + 1) 0 (fcs ⟨y, ByteArray.empty, (0 : Int)⟩)) := range_at (by simp) (range_new (wr.alloc (.cells #[.string y, .string t, .int .i64 k] 36)) [.string y, .string ByteArray.empty, .int .i64 (0 : Int)] 36)
            have d2 : (wr.alloc (.cells #[.string y, .string t, .int .i64 k] 36)).cell? ⟨w1.heap.size, 0, none⟩ = some u := (HI.out.later (((Below.refl _ _).alloc (Nat.le_refl _) _))).2.1.2.2.cell
            have d2' : ((wr.alloc (.cells #[.string y, .string t, .int .i64 k] 36)).alloc (.cells #[.string y, .string ByteArray.empty, .int .i64 (0 : Int)] 36)).cell? ⟨w1.heap.size, 0, none⟩ = some u := HA1.out.2.1.2.2.cell
            have hbk : ((wr.alloc (.cells #[.string y, .string t, .int .i64 k] 36)).alloc (.cells #[.string y, .string ByteArray.empty, .int .i64 (0 : Int)] 36)).heap[wr.heap.size]? = some (.cells #[.string y, .string t, .int .i64 k] 36) := alloc_snd _ _ _ rfl
            have z0 : ((wr.alloc (.cells #[.string y, .string t, .int .i64 k] 36)).alloc (.cells #[.string y, .string ByteArray.empty, .int .i64 (0 : Int)] 36)).cell? ⟨wr.heap.size, 0, none⟩ = some (.string y) := by rw [cell_of_row _ _ 0 _ _ (0, 0) hbk]; rfl
            have z1 : ((wr.alloc (.cells #[.string y, .string t, .int .i64 k] 36)).alloc (.cells #[.string y, .string ByteArray.empty, .int .i64 (0 : Int)] 36)).cell? ⟨wr.heap.size, 1, none⟩ = some (.string t) := by rw [cell_of_row _ _ 1 _ _ (0, 0) hbk]; rfl
            clear HI HD HA HV1 hwa hbk
            go_wp2
            go_region_law ((refine step_file rfl _ _ rfl _ _ u l ⟨y, ByteArray.empty, (0 : Int)⟩ (by rfl) HA1.out.1 _ (by rfl) HRN.out (by omega) ?_; intro g8 cap8 w9 ho9 hg9; have hs9 := HA1.out.app ho9 hg9; have e1 := hs9.2.1.2.2.cell; have f1 := hs9.2.1.2.2.fr))
            all_goals
              have HJ2 : Hid (SpW w.heap.size w (w9.setCell ⟨w1.heap.size, 0, none⟩ (.slice (some ⟨g8, 0, none⟩) (l.length + 1) cap8)) w.heap.size (w.heap.size + 1) w1.heap.size (.slice (some ⟨ga, oa, none⟩) n cap) (.slice (some ⟨g8, 0, none⟩) (l.length + 1) cap8) (M.take (m + 1))) := by rw [HJ.out]; exact hs9.set
              clear hs9 e1 f1 ho9 hg9 HA1 HRN HJ d2 d2' z0 z1 d0 c0 c1 c2
              go_wp2
              go_roundw
              case rel => exact ⟨m + 1, _, by rw [HM.out.1]; omega, by go_num, HJ2⟩
              case measure => simp [intOf]; omega
    · have hme : n = m := by omega
      have e1 : M.take m = M := List.take_of_length_le (by rw [HM.out.1]; omega)
      rw [e1] at HI
      subst hme
      have d2 := HI.out.2.1.2.2.cell
      have d1 := HI.out.2.1.2.1.cell
      have f1 := HI.out.2.1.2.1.fr
      have HF : Hid ((wr.setCell ⟨w.heap.size + 1, 0, none⟩ u).rangeAt (w.heap.size + 1) 0 [u] ∧ DkIn (wr.setCell ⟨w.heap.size + 1, 0, none⟩ u) w.heap.size (.agg #[u]) M ∧ Below w.heap.size w (wr.setCell ⟨w.heap.size + 1, 0, none⟩ u)) := SpW.ret HI.out (by rw [HM.out.1]; omega)
      obtain ⟨au, cu, hu⟩ := HI.out.1.shape
      subst hu
      clear HI HA HV1 HD
      go_wp2
      refine ret_rec2 4 5 (w.heap.size + 1) 26 [_] _ _ rfl rfl rfl rfl Try.underlying26 rfl sizeDisk HF.out.1 ?_
      exact ⟨_, rfl, HF.out.2.1, HF.out.2.2⟩

end Go.Proofs.Ytbmlphlknolieaa
