/-
  A file put in its place: what the specification's l06Put makes of a disk.
-/
import Derived.Test.YtbmlphlknolieaaSp
namespace Go.Proofs.Ytbmlphlknolieaa
open Go.RowKit Go.BigFrame Go.Sort
set_option linter.unusedVariables false
set_option linter.unusedSimpArgs false

namespace F
theorem filt_step {L : List Fl} {m : Nat} (P : Fl → Bool) (hm : m < L.length) : (L.take (m + 1)).filter P = if P L[m] = true then (L.take m).filter P ++ [L[m]] else (L.take m).filter P := by
  rw [List.take_succ_eq_append_getElem hm, List.filter_append]
  by_cases h : P L[m] = true
  · simp [h]
  · simp [h]
theorem filt_len (L : List Fl) (m : Nat) (P : Fl → Bool) : ((L.take m).filter P).length ≤ L.length := Nat.le_trans (List.length_filter_le _ _) (by simp; omega)
theorem le_of_not {a b : ByteArray} (h : ltN b a = false) : (Op.bytesLess a.toList b.toList || a.toList == b.toList) = true := by
  rcases ltN_tri a b with h1 | h1 | h1
  · have : Op.bytesLess a.toList b.toList = true := h1
    rw [this]; rfl
  · subst h1; simp
  · rw [h] at h1; cases h1
end F
theorem SpW.start2 (W : World) (p : Nat) (v : Value) (h : BD W p 26 v) : SpW W.heap.size W ((W.alloc (.cells #[.slice none 0 0] 26)).alloc (.cells #[.slice none 0 0] 26)) p W.heap.size (W.heap.size + 1) v (.slice none 0 0) [] := by
  have hb : Below W.heap.size W ((W.alloc (.cells #[.slice none 0 0] 26)).alloc (.cells #[.slice none 0 0] 26)) := ((Below.refl _ _).alloc (Nat.le_refl _) _).alloc (by simp) _
  have := h.lt
  exact ⟨(OF.nil W).later hb, ⟨h.later hb, alloc_snd _ _ _ rfl, alloc_fst _ _ (by simp)⟩, ⟨by omega, by omega⟩, by omega, by omega⟩

def PuR (B : Nat) (w0 : World) (p q r : Nat) (l0 : List Fl) (P : Fl → Bool) (L : List Fl) (v : Value) (i : Value) (wr : World) : Prop := ∃ (m : Nat) (u : Value), m ≤ L.length ∧ i = .int .i64 m ∧ Hid (SpW B w0 wr p q r v u (l0 ++ (L.take m).filter P))

set_option maxRecDepth 100000 in
set_option maxHeartbeats 2000000 in
theorem l06Put_any (v : Value) (ga oa : Nat) (L : List Fl) (f : Fl) (w : World) (hv : RS 3 fcs w v ga oa L) (hL : L.length ≤ 100000) :
    Calls Try.prog 50 #[.agg #[v], .agg #[.string f.n, .string f.t, .int .i64 f.k]] w fun e w' => ∃ u, e = .returned u ∧ DkIn w' w.heap.size u (F.put L f) ∧ Below w.heap.size w w' := by
  have hsh := hv.shape
  obtain ⟨a, cap, rfl⟩ := hsh
  have HV0 := hv
  obtain ⟨_, _, _, _, hA, _⟩ := hv
  obtain ⟨n, hn⟩ : ∃ n, L.length = n := ⟨_, rfl⟩
  rw [hn] at HV0 hA ⊢
  have hbw : Below w.heap.size w ((w.alloc (.cells #[.slice a n cap] 26)).alloc (.cells #[.string f.n, .string f.t, .int .i64 f.k] 36)) := ((Below.refl _ _).alloc (Nat.le_refl _) _).alloc (by simp) _
  have hs2 : ((w.alloc (.cells #[.slice a n cap] 26)).alloc (.cells #[.string f.n, .string f.t, .int .i64 f.k] 36)).heap.size = w.heap.size + 1 + 1 := by simp
  have HV : Hid (RS 3 fcs ((w.alloc (.cells #[.slice a n cap] 26)).alloc (.cells #[.string f.n, .string f.t, .int .i64 f.k] 36)) (.slice a n cap) ga oa L) := HV0.later hbw
  have HA : Hid (0 < n → a = some ⟨ga, oa, none⟩) := fun h => by
    obtain ⟨a', c', ev, _, h0, _⟩ := HV0
    simp at ev
    rw [ev.1]
    exact (h0 (by omega)).1
  have HBX : Hid (∀ W, Below ((w.alloc (.cells #[.slice a n cap] 26)).alloc (.cells #[.string f.n, .string f.t, .int .i64 f.k] 36)).heap.size ((w.alloc (.cells #[.slice a n cap] 26)).alloc (.cells #[.string f.n, .string f.t, .int .i64 f.k] 36)) W → W.cell? ⟨w.heap.size + 1, 0, none⟩ = some (.string f.n) ∧ W.cell? ⟨w.heap.size + 1, 1, none⟩ = some (.string f.t) ∧ W.cell? ⟨w.heap.size + 1, 2, none⟩ = some (.int .i64 f.k)) := fun W hW => by
    have h1 : W.heap[w.heap.size + 1]? = some (.cells #[.string f.n, .string f.t, .int .i64 f.k] 36 (0, 0)) := (hW.block _ (by rw [hs2]; omega)).trans (alloc_fst _ _ (by simp))
    exact ⟨by rw [cell_of_row _ _ 0 _ _ _ h1]; rfl, by rw [cell_of_row _ _ 1 _ _ _ h1]; rfl, by rw [cell_of_row _ _ 2 _ _ _ h1]; rfl⟩
  have hst := SpW.start2 ((w.alloc (.cells #[.slice a n cap] 26)).alloc (.cells #[.string f.n, .string f.t, .int .i64 f.k] 36)) w.heap.size (.slice a n cap) (alloc_snd _ _ _ rfl)
  have HST : Hid (PuR ((w.alloc (.cells #[.slice a n cap] 26)).alloc (.cells #[.string f.n, .string f.t, .int .i64 f.k] 36)).heap.size ((w.alloc (.cells #[.slice a n cap] 26)).alloc (.cells #[.string f.n, .string f.t, .int .i64 f.k] 36)) w.heap.size (w.heap.size + 1 + 1) (w.heap.size + 1 + 1 + 1) [] (fun g : Fl => F.ltN g.n f.n) L (.slice a n cap) (.int .i64 0) ((((w.alloc (.cells #[.slice a n cap] 26)).alloc (.cells #[.string f.n, .string f.t, .int .i64 f.k] 36)).alloc (.cells #[.slice none 0 0] 26)).alloc (.cells #[.slice none 0 0] 26))) := ⟨0, _, by omega, rfl, by rw [hs2] at hst ⊢; exact hst⟩
  have HBW : Hid (Below w.heap.size w ((w.alloc (.cells #[.slice a n cap] 26)).alloc (.cells #[.string f.n, .string f.t, .int .i64 f.k] 36)) ∧ w.heap.size ≤ ((w.alloc (.cells #[.slice a n cap] 26)).alloc (.cells #[.string f.n, .string f.t, .int .i64 f.k] 36)).heap.size) := ⟨hbw, by rw [hs2]; omega⟩
  clear hst hs2 hbw HV0 hA
  obtain ⟨l0, hl0⟩ : ∃ l0 : List Fl, l0 = [] := ⟨_, rfl⟩
  have hl00 : l0.length ≤ 100000 := by rw [hl0]; simp
  have HL0 : Hid (l0 = []) := hl0
  rw [← hl0] at HST
  clear hl0
  go_enter Try.func50, Try.ntmps50
  go_wp2
  go_loopw [6] (fun i wr => PuR ((w.alloc (.cells #[.slice a n cap] 26)).alloc (.cells #[.string f.n, .string f.t, .int .i64 f.k] 36)).heap.size ((w.alloc (.cells #[.slice a n cap] 26)).alloc (.cells #[.string f.n, .string f.t, .int .i64 f.k] 36)) w.heap.size (w.heap.size + 1 + 1) (w.heap.size + 1 + 1 + 1) l0 (fun g : Fl => F.ltN g.n f.n) L (.slice a n cap) i wr) (fun i _ => n - (intOf i).toNat)
  case atStart => exact HST.out
  case round =>
    clear HST
    obtain ⟨m, u, hm, rfl, HI⟩ := hrel
    rw [hn] at hm
    have d0 := HI.out.2.1.1.cell
    by_cases hlt : m < n
    · have ea := HA.out (by omega)
      subst ea
      obtain ⟨c0, c1, c2⟩ := (HV.out.later HI.out.1.2.1).file m (by omega)
      have e0 := (HBX.out _ HI.out.1.2.1).1
      obtain ⟨X, hX⟩ : ∃ X, L[m]'(by omega) = X := ⟨_, rfl⟩
      rw [hX] at c0 c1 c2
      have HX : Hid ((L.take (m + 1)).filter (fun g : Fl => F.ltN g.n f.n) = if ((fun g : Fl => F.ltN g.n f.n)) X = true then (L.take m).filter (fun g : Fl => F.ltN g.n f.n) ++ [X] else (L.take m).filter (fun g : Fl => F.ltN g.n f.n)) := by rw [← hX]; exact F.filt_step _ (by omega)
      have i1 : (m : Int) < (n : Int) := by omega
      have i2 : (0 : Int) ≤ (m : Int) := by omega
      by_cases hk : ((fun g : Fl => F.ltN g.n f.n)) X = true
      · have q : Op.bytesLess X.n.toList f.n.toList = true := hk
        have hlen := F.filt_len L m (fun g : Fl => F.ltN g.n f.n)
        obtain ⟨l, hl'⟩ : ∃ l, l0 ++ (L.take m).filter (fun g : Fl => F.ltN g.n f.n) = l := ⟨_, rfl⟩
        have hll : l.length ≤ 300000 := by rw [← hl', List.length_append]; omega
        have hj : l0 ++ (L.take (m + 1)).filter (fun g : Fl => F.ltN g.n f.n) = l ++ [X] := by rw [HX.out, if_pos hk, ← List.append_assoc, hl']
        have HJ : Hid (l0 ++ (L.take (m + 1)).filter (fun g : Fl => F.ltN g.n f.n) = l ++ [X]) := hj
        clear hj
        rw [hl'] at HI
        clear HX hX hk hl' hlen HA HV HBX
        go_wp2
        have kq0 := cell_regrown (w := wr) d0
        have kq1 := cell_regrown (w := wr) c0
        have kq2 := cell_regrown (w := wr) e0
        refine wp_region_quiet_below (by kernel_rfl) (by kernel_rfl) ?_
        repeat (go_big_quiet_step (fail))
        refine wpQuiet_nil ?_
        rintro _ ⟨⟨dq, osq⟩, rfl⟩
        have hb6 := below_regrown (wr) dq osq
        generalize grow (redrawn (wr) dq) osq = w6 at *
        clear kq0 kq1 kq2
        have HI6 := HI.out.later hb6
        have hgl : ga < wr.heap.size := lt_of_cell c0
        have k0 := (hb6.cell (p := ⟨ga, oa + m * 3, none⟩) hgl).trans c0
        have k1 := (hb6.cell (p := ⟨ga, oa + m * 3 + 1, none⟩) hgl).trans c1
        have k2 := (hb6.cell (p := ⟨ga, oa + m * 3 + 2, none⟩) hgl).trans c2
        have hwa : Below w6.heap.size w6 (w6.alloc (.cells #[.string X.n, .string X.t, .int .i64 X.k] 36)).drew := ((Below.refl _ _).alloc (Nat.le_refl _) _).drew
        have HA1 : Hid (SpW ((w.alloc (.cells #[.slice (some ⟨ga, oa, none⟩) n cap] 26)).alloc (.cells #[.string f.n, .string f.t, .int .i64 f.k] 36)).heap.size ((w.alloc (.cells #[.slice (some ⟨ga, oa, none⟩) n cap] 26)).alloc (.cells #[.string f.n, .string f.t, .int .i64 f.k] 36)) (w6.alloc (.cells #[.string X.n, .string X.t, .int .i64 X.k] 36)).drew w.heap.size (w.heap.size + 1 + 1) (w.heap.size + 1 + 1 + 1) (.slice (some ⟨ga, oa, none⟩) n cap) u l) := HI6.later hwa
        have HRN : Hid ((w6.alloc (.cells #[.string X.n, .string X.t, .int .i64 X.k] 36)).drew.rangeAt w6.heap.size 0 (fcs X)) := range_new w6 [.string X.n, .string X.t, .int .i64 X.k] 36
        have d2 := HI6.2.1.2.2.cell
        have d3 := HI6.2.1.1.cell
        have d2' : (w6.alloc (.cells #[.string X.n, .string X.t, .int .i64 X.k] 36)).cell? ⟨w.heap.size + 1 + 1 + 1, 0, none⟩ = some u := HA1.out.2.1.2.2.cell
        clear HI HI6 hwa hb6 d0 c0 c1 c2 e0
        go_wp2
        go_region_law ((refine step_file rfl _ _ rfl _ _ u l X (by rfl) HA1.out.1 _ (by rfl) HRN.out (by omega) ?_; intro g8 cap8 w9 ho9 hg9; have hs9 := HA1.out.app ho9 hg9; have e1 := hs9.2.1.2.2.cell; have f1 := hs9.2.1.2.2.fr))
        all_goals
          have HJ2 : Hid (SpW ((w.alloc (.cells #[.slice (some ⟨ga, oa, none⟩) n cap] 26)).alloc (.cells #[.string f.n, .string f.t, .int .i64 f.k] 36)).heap.size ((w.alloc (.cells #[.slice (some ⟨ga, oa, none⟩) n cap] 26)).alloc (.cells #[.string f.n, .string f.t, .int .i64 f.k] 36)) (w9.setCell ⟨w.heap.size + 1 + 1 + 1, 0, none⟩ (.slice (some ⟨g8, 0, none⟩) (l.length + 1) cap8)) w.heap.size (w.heap.size + 1 + 1) (w.heap.size + 1 + 1 + 1) (.slice (some ⟨ga, oa, none⟩) n cap) (.slice (some ⟨g8, 0, none⟩) (l.length + 1) cap8) (l0 ++ (L.take (m + 1)).filter (fun g : Fl => F.ltN g.n f.n))) := by rw [HJ.out]; exact hs9.set
          clear hs9 e1 f1 ho9 hg9 HA1 HRN HJ d2 d2' d3 k0 k1 k2
          go_wp2
          go_roundw
          case rel => exact ⟨m + 1, _, by omega, by go_num, HJ2⟩
          case measure => simp [intOf]; omega
      · have q : Op.bytesLess X.n.toList f.n.toList = false := by simpa [F.ltN] using hk
        have hj : l0 ++ (L.take (m + 1)).filter (fun g : Fl => F.ltN g.n f.n) = l0 ++ (L.take m).filter (fun g : Fl => F.ltN g.n f.n) := by rw [HX.out, if_neg hk]
        have HJ : Hid (SpW ((w.alloc (.cells #[.slice (some ⟨ga, oa, none⟩) n cap] 26)).alloc (.cells #[.string f.n, .string f.t, .int .i64 f.k] 36)).heap.size ((w.alloc (.cells #[.slice (some ⟨ga, oa, none⟩) n cap] 26)).alloc (.cells #[.string f.n, .string f.t, .int .i64 f.k] 36)) wr w.heap.size (w.heap.size + 1 + 1) (w.heap.size + 1 + 1 + 1) (.slice (some ⟨ga, oa, none⟩) n cap) u (l0 ++ (L.take (m + 1)).filter (fun g : Fl => F.ltN g.n f.n))) := by rw [hj]; exact HI.out
        clear HX hX hk hj HA HV HBX
        go_wp2
        have kq0 := cell_regrown (w := wr) d0
        have kq1 := cell_regrown (w := wr) c0
        have kq2 := cell_regrown (w := wr) e0
        refine wp_region_quiet_below (by kernel_rfl) (by kernel_rfl) ?_
        repeat (go_big_quiet_step (fail))
        refine wpQuiet_nil ?_
        rintro _ ⟨⟨dq, osq⟩, rfl⟩
        have hb6 := below_regrown (wr) dq osq
        generalize grow (redrawn (wr) dq) osq = w6 at *
        clear kq0 kq1 kq2
        have HJ2 : Hid (SpW ((w.alloc (.cells #[.slice (some ⟨ga, oa, none⟩) n cap] 26)).alloc (.cells #[.string f.n, .string f.t, .int .i64 f.k] 36)).heap.size ((w.alloc (.cells #[.slice (some ⟨ga, oa, none⟩) n cap] 26)).alloc (.cells #[.string f.n, .string f.t, .int .i64 f.k] 36)) w6 w.heap.size (w.heap.size + 1 + 1) (w.heap.size + 1 + 1 + 1) (.slice (some ⟨ga, oa, none⟩) n cap) u (l0 ++ (L.take (m + 1)).filter (fun g : Fl => F.ltN g.n f.n))) := HJ.out.later hb6
        clear HJ HI hb6
        go_wp2
        go_roundw
        case rel => exact ⟨m + 1, u, by omega, by go_num, HJ2⟩
        case measure => simp [intOf]; omega
    · have hme : n = m := by omega
      have e1 : l0 ++ (L.take m).filter (fun g : Fl => F.ltN g.n f.n) = L.filter (fun g : Fl => F.ltN g.n f.n) := by rw [HL0.out, List.take_of_length_le (by omega), List.nil_append]
      rw [e1] at HI
      subst hme
      obtain ⟨l1, hl1⟩ : ∃ l1, L.filter (fun g : Fl => F.ltN g.n f.n) = l1 := ⟨_, rfl⟩
      have hll := List.length_filter_le (fun g : Fl => F.ltN g.n f.n) L
      rw [hl1] at HI hll
      have HL1 : Hid (L.filter (fun g : Fl => F.ltN g.n f.n) = l1) := hl1
      have d2 := HI.out.2.1.2.2.cell
      obtain ⟨x0, x1, x2⟩ := HBX.out _ HI.out.1.2.1
      have HA1 : Hid (SpW ((w.alloc (.cells #[.slice a n cap] 26)).alloc (.cells #[.string f.n, .string f.t, .int .i64 f.k] 36)).heap.size ((w.alloc (.cells #[.slice a n cap] 26)).alloc (.cells #[.string f.n, .string f.t, .int .i64 f.k] 36)) (wr.alloc (.cells #[.string f.n, .string f.t, .int .i64 f.k] 36)) w.heap.size (w.heap.size + 1 + 1) (w.heap.size + 1 + 1 + 1) (.slice a n cap) u l1) := HI.out.later ((Below.refl _ _).alloc (Nat.le_refl _) _)
      have HRN : Hid ((wr.alloc (.cells #[.string f.n, .string f.t, .int .i64 f.k] 36)).rangeAt wr.heap.size 0 (fcs f)) := range_new wr [.string f.n, .string f.t, .int .i64 f.k] 36
      clear HI e1 hl1
      go_wp2_with (refine wp_file rfl _ _ rfl _ _ u l1 f (by rfl) HA1.out.1 _ (by rfl) HRN.out (by omega) ?_; intro g8 cap8 w9 ho9 hg9; have hs9 := HA1.out.app ho9 hg9; have e1 := hs9.2.1.2.2.cell; have f1 := hs9.2.1.2.2.fr)
      have hs10 := hs9.set
      obtain ⟨l2, hl2⟩ : ∃ l2, l1 ++ [f] = l2 := ⟨_, rfl⟩
      have hl00' : l2.length ≤ 100001 := by rw [← hl2]; simp; omega
      rw [hl2] at hs10
      have HST2 : Hid (PuR ((w.alloc (.cells #[.slice a n cap] 26)).alloc (.cells #[.string f.n, .string f.t, .int .i64 f.k] 36)).heap.size ((w.alloc (.cells #[.slice a n cap] 26)).alloc (.cells #[.string f.n, .string f.t, .int .i64 f.k] 36)) w.heap.size (w.heap.size + 1 + 1) (w.heap.size + 1 + 1 + 1) l2 (fun g : Fl => F.ltN f.n g.n) L (.slice a n cap) (.int .i64 0) (w9.setCell ⟨w.heap.size + 1 + 1 + 1, 0, none⟩ (.slice (some ⟨g8, 0, none⟩) (l1.length + 1) cap8))) := ⟨0, _, by omega, rfl, by rw [List.take_zero, List.filter_nil, List.append_nil]; exact hs10⟩
      have HL2 : Hid (l1 ++ [f] = l2) := hl2
      clear hs9 hs10 e1 f1 ho9 hg9 HA1 HRN d2 x0 x1 x2 hl2 HL0 hl00 d0
      generalize w9.setCell ⟨w.heap.size + 1 + 1 + 1, 0, none⟩ (.slice (some ⟨g8, 0, none⟩) (l1.length + 1) cap8) = w10 at *
      go_loopw [7] (fun i wr => PuR ((w.alloc (.cells #[.slice a n cap] 26)).alloc (.cells #[.string f.n, .string f.t, .int .i64 f.k] 36)).heap.size ((w.alloc (.cells #[.slice a n cap] 26)).alloc (.cells #[.string f.n, .string f.t, .int .i64 f.k] 36)) w.heap.size (w.heap.size + 1 + 1) (w.heap.size + 1 + 1 + 1) l2 (fun g : Fl => F.ltN f.n g.n) L (.slice a n cap) i wr) (fun i _ => n - (intOf i).toNat)
      case atStart => exact HST2.out
      case round =>
        clear HST2
        obtain ⟨m, u, hm, rfl, HI⟩ := hrel
        rw [hn] at hm
        have d0 := HI.out.2.1.1.cell
        by_cases hlt : m < n
        · have ea := HA.out (by omega)
          subst ea
          obtain ⟨c0, c1, c2⟩ := (HV.out.later HI.out.1.2.1).file m (by omega)
          have e0 := (HBX.out _ HI.out.1.2.1).1
          obtain ⟨X, hX⟩ : ∃ X, L[m]'(by omega) = X := ⟨_, rfl⟩
          rw [hX] at c0 c1 c2
          have HX : Hid ((L.take (m + 1)).filter (fun g : Fl => F.ltN f.n g.n) = if ((fun g : Fl => F.ltN f.n g.n)) X = true then (L.take m).filter (fun g : Fl => F.ltN f.n g.n) ++ [X] else (L.take m).filter (fun g : Fl => F.ltN f.n g.n)) := by rw [← hX]; exact F.filt_step _ (by omega)
          have i1 : (m : Int) < (n : Int) := by omega
          have i2 : (0 : Int) ≤ (m : Int) := by omega
          by_cases hk : ((fun g : Fl => F.ltN f.n g.n)) X = true
          · have q : Op.bytesLess X.n.toList f.n.toList = false := F.ltN_asymm (a := f.n) (b := X.n) hk
            have q' : (X.n.toList == f.n.toList) = false := F.list_ne (F.ltN_ne (a := f.n) (b := X.n) hk).symm
            have hlen := F.filt_len L m (fun g : Fl => F.ltN f.n g.n)
            obtain ⟨l, hl'⟩ : ∃ l, l2 ++ (L.take m).filter (fun g : Fl => F.ltN f.n g.n) = l := ⟨_, rfl⟩
            have hll : l.length ≤ 300000 := by rw [← hl', List.length_append]; omega
            have hj : l2 ++ (L.take (m + 1)).filter (fun g : Fl => F.ltN f.n g.n) = l ++ [X] := by rw [HX.out, if_pos hk, ← List.append_assoc, hl']
            have HJ : Hid (l2 ++ (L.take (m + 1)).filter (fun g : Fl => F.ltN f.n g.n) = l ++ [X]) := hj
            clear hj
            rw [hl'] at HI
            clear HX hX hk hl' hlen HA HV HBX
            go_wp2
            have kq0 := cell_regrown (w := wr) d0
            have kq1 := cell_regrown (w := wr) c0
            have kq2 := cell_regrown (w := wr) e0
            refine wp_region_quiet_below (by kernel_rfl) (by kernel_rfl) ?_
            repeat (go_big_quiet_step (fail))
            refine wpQuiet_nil ?_
            rintro _ ⟨⟨dq, osq⟩, rfl⟩
            have hb6 := below_regrown (wr) dq osq
            generalize grow (redrawn (wr) dq) osq = w6 at *
            clear kq0 kq1 kq2
            have HI6 := HI.out.later hb6
            have hgl : ga < wr.heap.size := lt_of_cell c0
            have k0 := (hb6.cell (p := ⟨ga, oa + m * 3, none⟩) hgl).trans c0
            have k1 := (hb6.cell (p := ⟨ga, oa + m * 3 + 1, none⟩) hgl).trans c1
            have k2 := (hb6.cell (p := ⟨ga, oa + m * 3 + 2, none⟩) hgl).trans c2
            have hwa : Below w6.heap.size w6 (w6.alloc (.cells #[.string X.n, .string X.t, .int .i64 X.k] 36)).drew := ((Below.refl _ _).alloc (Nat.le_refl _) _).drew
            have HA1 : Hid (SpW ((w.alloc (.cells #[.slice (some ⟨ga, oa, none⟩) n cap] 26)).alloc (.cells #[.string f.n, .string f.t, .int .i64 f.k] 36)).heap.size ((w.alloc (.cells #[.slice (some ⟨ga, oa, none⟩) n cap] 26)).alloc (.cells #[.string f.n, .string f.t, .int .i64 f.k] 36)) (w6.alloc (.cells #[.string X.n, .string X.t, .int .i64 X.k] 36)).drew w.heap.size (w.heap.size + 1 + 1) (w.heap.size + 1 + 1 + 1) (.slice (some ⟨ga, oa, none⟩) n cap) u l) := HI6.later hwa
            have HRN : Hid ((w6.alloc (.cells #[.string X.n, .string X.t, .int .i64 X.k] 36)).drew.rangeAt w6.heap.size 0 (fcs X)) := range_new w6 [.string X.n, .string X.t, .int .i64 X.k] 36
            have d2 := HI6.2.1.2.2.cell
            have d3 := HI6.2.1.1.cell
            have d2' : (w6.alloc (.cells #[.string X.n, .string X.t, .int .i64 X.k] 36)).cell? ⟨w.heap.size + 1 + 1 + 1, 0, none⟩ = some u := HA1.out.2.1.2.2.cell
            clear HI HI6 hwa hb6 d0 c0 c1 c2 e0
            go_wp2
            go_region_law ((refine step_file rfl _ _ rfl _ _ u l X (by rfl) HA1.out.1 _ (by rfl) HRN.out (by omega) ?_; intro g8 cap8 w9 ho9 hg9; have hs9 := HA1.out.app ho9 hg9; have e1 := hs9.2.1.2.2.cell; have f1 := hs9.2.1.2.2.fr))
            all_goals
              have HJ2 : Hid (SpW ((w.alloc (.cells #[.slice (some ⟨ga, oa, none⟩) n cap] 26)).alloc (.cells #[.string f.n, .string f.t, .int .i64 f.k] 36)).heap.size ((w.alloc (.cells #[.slice (some ⟨ga, oa, none⟩) n cap] 26)).alloc (.cells #[.string f.n, .string f.t, .int .i64 f.k] 36)) (w9.setCell ⟨w.heap.size + 1 + 1 + 1, 0, none⟩ (.slice (some ⟨g8, 0, none⟩) (l.length + 1) cap8)) w.heap.size (w.heap.size + 1 + 1) (w.heap.size + 1 + 1 + 1) (.slice (some ⟨ga, oa, none⟩) n cap) (.slice (some ⟨g8, 0, none⟩) (l.length + 1) cap8) (l2 ++ (L.take (m + 1)).filter (fun g : Fl => F.ltN f.n g.n))) := by rw [HJ.out]; exact hs9.set
              clear hs9 e1 f1 ho9 hg9 HA1 HRN HJ d2 d2' d3 k0 k1 k2
              go_wp2
              go_roundw
              case rel => exact ⟨m + 1, _, by omega, by go_num, HJ2⟩
              case measure => simp [intOf]; omega
          · have q : (Op.bytesLess X.n.toList f.n.toList || X.n.toList == f.n.toList) = true := F.le_of_not (by simpa using hk)
            have hj : l2 ++ (L.take (m + 1)).filter (fun g : Fl => F.ltN f.n g.n) = l2 ++ (L.take m).filter (fun g : Fl => F.ltN f.n g.n) := by rw [HX.out, if_neg hk]
            have HJ : Hid (SpW ((w.alloc (.cells #[.slice (some ⟨ga, oa, none⟩) n cap] 26)).alloc (.cells #[.string f.n, .string f.t, .int .i64 f.k] 36)).heap.size ((w.alloc (.cells #[.slice (some ⟨ga, oa, none⟩) n cap] 26)).alloc (.cells #[.string f.n, .string f.t, .int .i64 f.k] 36)) wr w.heap.size (w.heap.size + 1 + 1) (w.heap.size + 1 + 1 + 1) (.slice (some ⟨ga, oa, none⟩) n cap) u (l2 ++ (L.take (m + 1)).filter (fun g : Fl => F.ltN f.n g.n))) := by rw [hj]; exact HI.out
            clear HX hX hk hj HA HV HBX
            go_wp2
            have kq0 := cell_regrown (w := wr) d0
            have kq1 := cell_regrown (w := wr) c0
            have kq2 := cell_regrown (w := wr) e0
            refine wp_region_quiet_below (by kernel_rfl) (by kernel_rfl) ?_
            repeat (go_big_quiet_step (fail))
            refine wpQuiet_nil ?_
            rintro _ ⟨⟨dq, osq⟩, rfl⟩
            have hb6 := below_regrown (wr) dq osq
            generalize grow (redrawn (wr) dq) osq = w6 at *
            clear kq0 kq1 kq2
            have HJ2 : Hid (SpW ((w.alloc (.cells #[.slice (some ⟨ga, oa, none⟩) n cap] 26)).alloc (.cells #[.string f.n, .string f.t, .int .i64 f.k] 36)).heap.size ((w.alloc (.cells #[.slice (some ⟨ga, oa, none⟩) n cap] 26)).alloc (.cells #[.string f.n, .string f.t, .int .i64 f.k] 36)) w6 w.heap.size (w.heap.size + 1 + 1) (w.heap.size + 1 + 1 + 1) (.slice (some ⟨ga, oa, none⟩) n cap) u (l2 ++ (L.take (m + 1)).filter (fun g : Fl => F.ltN f.n g.n))) := HJ.out.later hb6
            clear HJ HI hb6
            go_wp2
            go_roundw
            case rel => exact ⟨m + 1, u, by omega, by go_num, HJ2⟩
            case measure => simp [intOf]; omega
        · have hme : n = m := by omega
          have e1 : l2 ++ (L.take m).filter (fun g : Fl => F.ltN f.n g.n) = F.put L f := by
            rw [List.take_of_length_le (by omega), ← HL2.out, ← HL1.out]
            unfold F.put
            simp
          rw [e1] at HI
          subst hme
          have hlen : (F.put L f).length ≤ L.length + 1 := by rw [F.len_put]; have := F.len_wout_le L f.n; omega
          have d2 := HI.out.2.1.2.2.cell
          have d1 := HI.out.2.1.2.1.cell
          have f1 := HI.out.2.1.2.1.fr
          have HF : Hid ((wr.setCell ⟨w.heap.size + 1 + 1, 0, none⟩ u).rangeAt (w.heap.size + 1 + 1) 0 [u] ∧ DkIn (wr.setCell ⟨w.heap.size + 1 + 1, 0, none⟩ u) ((w.alloc (.cells #[.slice a n cap] 26)).alloc (.cells #[.string f.n, .string f.t, .int .i64 f.k] 36)).heap.size (.agg #[u]) (F.put L f) ∧ Below ((w.alloc (.cells #[.slice a n cap] 26)).alloc (.cells #[.string f.n, .string f.t, .int .i64 f.k] 36)).heap.size ((w.alloc (.cells #[.slice a n cap] 26)).alloc (.cells #[.string f.n, .string f.t, .int .i64 f.k] 36)) (wr.setCell ⟨w.heap.size + 1 + 1, 0, none⟩ u)) := SpW.ret HI.out (by omega)
          obtain ⟨au, cu, hu⟩ := HI.out.1.shape
          subst hu
          clear HI HA HV HBX
          go_wp2
          refine ret_rec 4 (w.heap.size + 1 + 1) 26 [_] _ rfl rfl rfl Try.underlying26 rfl sizeDisk HF.out.1 ?_
          obtain ⟨s', g', e', hr', hg'⟩ := HF.out.2.1
          exact ⟨_, rfl, ⟨s', g', e', hr', Nat.le_trans HBW.out.2 hg'⟩, HBW.out.1.trans (HF.out.2.2.mono HBW.out.2)⟩

end Go.Proofs.Ytbmlphlknolieaa
