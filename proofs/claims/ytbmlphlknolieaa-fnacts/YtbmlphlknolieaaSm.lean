/-
  A move on a disk, as the specification does it.
-/
import Derived.Test.YtbmlphlknolieaaSd
namespace Go.Proofs.Ytbmlphlknolieaa
open Go.RowKit Go.BigFrame Go.Sort Go.Maps
set_option linter.unusedVariables false
set_option linter.unusedSimpArgs false

set_option maxRecDepth 100000 in
set_option maxHeartbeats 4000000 in
theorem sDoAct_mv0 (n cap : Nat) (ga oa : Nat) (L : List Fl) (k : Int) (y t o : ByteArray) (w : World) (hn : L.length = n) (hv : RS 3 fcs w (.slice (some ⟨ga, oa, none⟩) n cap) ga oa L) (ha : SmallA ⟨k, y, t, o⟩) (f : Fl) (hd : F.diskB L = true) (hy : F.nmB y = true) (hk : k = 3) (hf : F.find L y = some f) (ht : t.size = 0) (h1 : f.k < (f.t.size : Int)) :
    Calls Try.prog 34 #[.agg #[.slice (some ⟨ga, oa, none⟩) n cap], .agg #[.int .i64 k, .string y, .string t, .string o]] w fun e w' => ∃ u, e = .returned (.tuple #[u, .bool (F.actR L ⟨k, y, t, o⟩).isSome]) ∧ DkIn w' w.heap.size u ((F.actR L ⟨k, y, t, o⟩).getD []) ∧ Below w.heap.size w w' := by
  have hb0 : Below w.heap.size w (((w.alloc (.cells #[.slice (some ⟨ga, oa, none⟩) n cap] 26)).alloc (.cells #[.int .i64 k, .string y, .string t, .string o] 45)).alloc (.cells #[.slice none 0 0] 26)) := (((Below.refl _ _).alloc (Nat.le_refl _) _).alloc (by simp) _).alloc (by simp; omega) _
  have hs3 : (((w.alloc (.cells #[.slice (some ⟨ga, oa, none⟩) n cap] 26)).alloc (.cells #[.int .i64 k, .string y, .string t, .string o] 45)).alloc (.cells #[.slice none 0 0] 26)).heap.size = w.heap.size + 1 + 1 + 1 := by simp
  have hg0 : BD (((w.alloc (.cells #[.slice (some ⟨ga, oa, none⟩) n cap] 26)).alloc (.cells #[.int .i64 k, .string y, .string t, .string o] 45)).alloc (.cells #[.slice none 0 0] 26)) w.heap.size 26 (.slice (some ⟨ga, oa, none⟩) n cap) := (Below.heap_alloc _ _ w.heap.size (by simp; omega)).trans (alloc_snd _ _ _ rfl)
  have hg1 : (((w.alloc (.cells #[.slice (some ⟨ga, oa, none⟩) n cap] 26)).alloc (.cells #[.int .i64 k, .string y, .string t, .string o] 45)).alloc (.cells #[.slice none 0 0] 26)).heap[w.heap.size + 1]? = some (.cells #[.int .i64 k, .string y, .string t, .string o] 45 (0, 0)) := alloc_snd _ _ _ (by simp)
  have hg2 : (((w.alloc (.cells #[.slice (some ⟨ga, oa, none⟩) n cap] 26)).alloc (.cells #[.int .i64 k, .string y, .string t, .string o] 45)).alloc (.cells #[.slice none 0 0] 26)).heap[w.heap.size + 1 + 1]? = some (.cells #[.slice none 0 0] 26 (0, 0)) := alloc_fst _ _ (by simp)
  have hv3 := hv.later hb0
  have HG : Hid (∀ W, Below (((w.alloc (.cells #[.slice (some ⟨ga, oa, none⟩) n cap] 26)).alloc (.cells #[.int .i64 k, .string y, .string t, .string o] 45)).alloc (.cells #[.slice none 0 0] 26)).heap.size (((w.alloc (.cells #[.slice (some ⟨ga, oa, none⟩) n cap] 26)).alloc (.cells #[.int .i64 k, .string y, .string t, .string o] 45)).alloc (.cells #[.slice none 0 0] 26)) W → (W.cell? ⟨w.heap.size + 1, 0, none⟩ = some (.int .i64 k) ∧ W.cell? ⟨w.heap.size + 1, 1, none⟩ = some (.string y) ∧ W.cell? ⟨w.heap.size + 1, 2, none⟩ = some (.string t) ∧ W.cell? ⟨w.heap.size + 1, 3, none⟩ = some (.string o)) ∧ BD W (w.heap.size + 1 + 1) 26 (.slice none 0 0) ∧ BD W w.heap.size 26 (.slice (some ⟨ga, oa, none⟩) n cap) ∧ RS 3 fcs W (.slice (some ⟨ga, oa, none⟩) n cap) ga oa L) := fun W hW => by
    have h1 := (hW.block (w.heap.size + 1) (by rw [hs3]; omega)).trans hg1
    exact ⟨⟨by rw [cell_of_row _ _ 0 _ _ _ h1]; rfl, by rw [cell_of_row _ _ 1 _ _ _ h1]; rfl, by rw [cell_of_row _ _ 2 _ _ _ h1]; rfl, by rw [cell_of_row _ _ 3 _ _ _ h1]; rfl⟩, (hW.block (w.heap.size + 1 + 1) (by rw [hs3]; omega)).trans hg2, hg0.later hW, hv3.later hW⟩
  have HB0 : Hid (Below w.heap.size w (((w.alloc (.cells #[.slice (some ⟨ga, oa, none⟩) n cap] 26)).alloc (.cells #[.int .i64 k, .string y, .string t, .string o] 45)).alloc (.cells #[.slice none 0 0] 26)) ∧ w.heap.size + 1 + 1 + 1 ≤ (((w.alloc (.cells #[.slice (some ⟨ga, oa, none⟩) n cap] 26)).alloc (.cells #[.int .i64 k, .string y, .string t, .string o] 45)).alloc (.cells #[.slice none 0 0] 26)).heap.size) := ⟨hb0, by rw [hs3]; exact Nat.le_refl _⟩
  have HC := sDiskOk_any _ ga oa L _ hv3
  clear hg0 hg1 hg2 hs3 hb0 hv hv3
  have ek : F.doL L ⟨k, y, t, o⟩ = none := by
    rw [← F.spec_moveno (o := o) hf (.inl h1)]
    unfold F.doL
    rw [if_neg (by rintro (⟨_, h⟩ | ⟨h, _⟩); exact h ht; exact h hk), if_neg (by simp [hk]), if_neg (by simp [hk]), if_pos (by simp [hk])]
  obtain ⟨te1, te2⟩ := nil_of' ht
  have k1 : (k == 1) = false := by simp [hk]
  have k2 : (k == 2) = false := by simp [hk]
  have k3 : (k == 3) = true := by simp [hk]
  have k1n : (k != 1) = true := by simp [hk]
  have k3n : (k != 3) = false := by simp [hk]
  clear hk
  rw [hd] at HC
  rw [F.actR_yes _ hd, ek]
  have hnm := fun W => l06Name_any y W
  rw [hy] at hnm
  have HDK : Hid (F.DOk L) := F.diskB_iff.1 hd
  clear ek hd
  go_enter Try.func34, Try.ntmps34
  go_wp2_with fail
  refine HC.mono ?_
  rintro e w1 ⟨rfl, hb1⟩
  obtain ⟨⟨a0, a1, a2, a3⟩, hBD1, hD1, hR1⟩ := HG.out _ hb1
  go_wp2_with fail
  refine (hnm w1).mono ?_
  rintro e w1 ⟨rfl, rfl⟩
  have hz1 : (((w.alloc (.cells #[.slice (some ⟨ga, oa, none⟩) n cap] 26)).alloc (.cells #[.int .i64 k, .string y, .string t, .string o] 45)).alloc (.cells #[.slice none 0 0] 26)).heap.size ≤ w1.heap.size := hb1.size
  have HB1 : Hid (Below (((w.alloc (.cells #[.slice (some ⟨ga, oa, none⟩) n cap] 26)).alloc (.cells #[.int .i64 k, .string y, .string t, .string o] 45)).alloc (.cells #[.slice none 0 0] 26)).heap.size (((w.alloc (.cells #[.slice (some ⟨ga, oa, none⟩) n cap] 26)).alloc (.cells #[.int .i64 k, .string y, .string t, .string o] 45)).alloc (.cells #[.slice none 0 0] 26)) w1 ∧ RS 3 fcs w1 (.slice (some ⟨ga, oa, none⟩) n cap) ga oa L) := ⟨hb1, hR1⟩
  have d1 := hD1.cell
  clear hBD1 hD1 hR1 HC hb1
  go_wp2_with fail
  refine (l06At_any _ ga oa L y _ HB1.out.2).mono ?_
  rintro e w2 ⟨r, rfl, hr, hb2⟩
  obtain ⟨m, hm, rfl, hmX⟩ : ∃ (m : Nat) (h : m < L.length), r = (m : Int) ∧ L[m] = f := by
    rcases hr with ⟨_, h⟩ | ⟨m, h, h1, h2⟩
    · rw [hf] at h; cases h
    · rw [hf] at h2; exact ⟨m, h, h1, (Option.some.inj h2).symm⟩
  have HB2 : Hid (Below (((w.alloc (.cells #[.slice (some ⟨ga, oa, none⟩) n cap] 26)).alloc (.cells #[.int .i64 k, .string y, .string t, .string o] 45)).alloc (.cells #[.slice none 0 0] 26)).heap.size (((w.alloc (.cells #[.slice (some ⟨ga, oa, none⟩) n cap] 26)).alloc (.cells #[.int .i64 k, .string y, .string t, .string o] 45)).alloc (.cells #[.slice none 0 0] 26)) w2) := HB1.out.1.trans (hb2.mono hz1)
  have hz2 : (((w.alloc (.cells #[.slice (some ⟨ga, oa, none⟩) n cap] 26)).alloc (.cells #[.int .i64 k, .string y, .string t, .string o] 45)).alloc (.cells #[.slice none 0 0] 26)).heap.size ≤ w2.heap.size := HB2.out.size
  obtain ⟨⟨a0, a1, a2, a3⟩, _, hD2, hR2⟩ := HG.out _ HB2.out
  have hn2 : (m : Int) < (n : Int) := by omega
  have hn3 : (0 : Int) ≤ (m : Int) := by omega
  have hRa := hR2.alloc (.cells #[.string y, .string ⟨#[]⟩, .int .i64 0] 36)
  obtain ⟨e0, e1, e2⟩ := hRa.file m hm
  rw [hmX] at e0 e1 e2
  have d2 : (w2.alloc (.cells #[.string y, .string ⟨#[]⟩, .int .i64 0] 36)).cell? ⟨w.heap.size, 0, none⟩ = some (.slice (some ⟨ga, oa, none⟩) n cap) := (cell_kept (Below.heap_alloc _ _ w.heap.size hD2.lt)).trans hD2.cell
  have HB5 : Hid (Below (((w.alloc (.cells #[.slice (some ⟨ga, oa, none⟩) n cap] 26)).alloc (.cells #[.int .i64 k, .string y, .string t, .string o] 45)).alloc (.cells #[.slice none 0 0] 26)).heap.size (((w.alloc (.cells #[.slice (some ⟨ga, oa, none⟩) n cap] 26)).alloc (.cells #[.int .i64 k, .string y, .string t, .string o] 45)).alloc (.cells #[.slice none 0 0] 26)) ((w2.alloc (.cells #[.string f.n, .string f.t, .int .i64 f.k] 36)).alloc (.cells #[.slice none 0 0] 26))) := (HB2.out.alloc hz2 _).alloc (Nat.le_trans hz2 (by simp)) _
  obtain ⟨⟨b0, b1, b2, b3⟩, _, _, _⟩ := HG.out _ HB5.out
  have hF5 : BF ((w2.alloc (.cells #[.string f.n, .string f.t, .int .i64 f.k] 36)).alloc (.cells #[.slice none 0 0] 26)) w2.heap.size f := alloc_snd _ _ _ rfl
  have hO5 : BD ((w2.alloc (.cells #[.string f.n, .string f.t, .int .i64 f.k] 36)).alloc (.cells #[.slice none 0 0] 26)) (w2.heap.size + 1) 26 (.slice none 0 0) := alloc_fst _ _ (by simp)
  obtain ⟨f0, f1, f2⟩ := hF5.cells
  have hbd := (HG.out _ HB5.out).2.1
  have t0 := hbd.cell
  have g0 := hbd.fr
  have HF : Hid ((((w2.alloc (.cells #[.string f.n, .string f.t, .int .i64 f.k] 36)).alloc (.cells #[.slice none 0 0] 26)).setCell ⟨w.heap.size + 1 + 1, 0, none⟩ (.slice none 0 0)).rangeAt (w.heap.size + 1 + 1) 0 [.slice none 0 0] ∧ Below w.heap.size w (((w2.alloc (.cells #[.string f.n, .string f.t, .int .i64 f.k] 36)).alloc (.cells #[.slice none 0 0] 26)).setCell ⟨w.heap.size + 1 + 1, 0, none⟩ (.slice none 0 0))) := ⟨range1 (set_here t0 g0 _), (HB0.out.1.trans ((HB5.out).mono (Nat.le_trans (by omega) HB0.out.2))).setCell (p := ⟨w.heap.size + 1 + 1, 0, none⟩) (by simp; omega) _⟩
  clear HB1 HB2 hr hb2 hF5 hO5 hbd
  go_wp2
  refine ret_rec2 4 5 (w.heap.size + 1 + 1) 26 [.slice none 0 0] _ _ rfl rfl rfl rfl Try.underlying26 rfl sizeDisk HF.out.1 ?_
  exact ⟨_, rfl, ⟨_, w.heap.size, rfl, RW.nil _ _, Nat.le_refl _⟩, HF.out.2⟩

set_option maxRecDepth 100000 in
set_option maxHeartbeats 4000000 in
theorem sDoAct_mv1 (n cap : Nat) (ga oa : Nat) (L : List Fl) (k : Int) (y t o : ByteArray) (w : World) (hn : L.length = n) (hv : RS 3 fcs w (.slice (some ⟨ga, oa, none⟩) n cap) ga oa L) (ha : SmallA ⟨k, y, t, o⟩) (f : Fl) (hd : F.diskB L = true) (hy : F.nmB y = true) (hk : k = 3) (hf : F.find L y = some f) (ht : t.size = 0) (h1 : ¬ f.k < (f.t.size : Int)) (h2 : o = y) :
    Calls Try.prog 34 #[.agg #[.slice (some ⟨ga, oa, none⟩) n cap], .agg #[.int .i64 k, .string y, .string t, .string o]] w fun e w' => ∃ u, e = .returned (.tuple #[u, .bool (F.actR L ⟨k, y, t, o⟩).isSome]) ∧ DkIn w' w.heap.size u ((F.actR L ⟨k, y, t, o⟩).getD []) ∧ Below w.heap.size w w' := by
  have hb0 : Below w.heap.size w (((w.alloc (.cells #[.slice (some ⟨ga, oa, none⟩) n cap] 26)).alloc (.cells #[.int .i64 k, .string y, .string t, .string o] 45)).alloc (.cells #[.slice none 0 0] 26)) := (((Below.refl _ _).alloc (Nat.le_refl _) _).alloc (by simp) _).alloc (by simp; omega) _
  have hs3 : (((w.alloc (.cells #[.slice (some ⟨ga, oa, none⟩) n cap] 26)).alloc (.cells #[.int .i64 k, .string y, .string t, .string o] 45)).alloc (.cells #[.slice none 0 0] 26)).heap.size = w.heap.size + 1 + 1 + 1 := by simp
  have hg0 : BD (((w.alloc (.cells #[.slice (some ⟨ga, oa, none⟩) n cap] 26)).alloc (.cells #[.int .i64 k, .string y, .string t, .string o] 45)).alloc (.cells #[.slice none 0 0] 26)) w.heap.size 26 (.slice (some ⟨ga, oa, none⟩) n cap) := (Below.heap_alloc _ _ w.heap.size (by simp; omega)).trans (alloc_snd _ _ _ rfl)
  have hg1 : (((w.alloc (.cells #[.slice (some ⟨ga, oa, none⟩) n cap] 26)).alloc (.cells #[.int .i64 k, .string y, .string t, .string o] 45)).alloc (.cells #[.slice none 0 0] 26)).heap[w.heap.size + 1]? = some (.cells #[.int .i64 k, .string y, .string t, .string o] 45 (0, 0)) := alloc_snd _ _ _ (by simp)
  have hg2 : (((w.alloc (.cells #[.slice (some ⟨ga, oa, none⟩) n cap] 26)).alloc (.cells #[.int .i64 k, .string y, .string t, .string o] 45)).alloc (.cells #[.slice none 0 0] 26)).heap[w.heap.size + 1 + 1]? = some (.cells #[.slice none 0 0] 26 (0, 0)) := alloc_fst _ _ (by simp)
  have hv3 := hv.later hb0
  have HG : Hid (∀ W, Below (((w.alloc (.cells #[.slice (some ⟨ga, oa, none⟩) n cap] 26)).alloc (.cells #[.int .i64 k, .string y, .string t, .string o] 45)).alloc (.cells #[.slice none 0 0] 26)).heap.size (((w.alloc (.cells #[.slice (some ⟨ga, oa, none⟩) n cap] 26)).alloc (.cells #[.int .i64 k, .string y, .string t, .string o] 45)).alloc (.cells #[.slice none 0 0] 26)) W → (W.cell? ⟨w.heap.size + 1, 0, none⟩ = some (.int .i64 k) ∧ W.cell? ⟨w.heap.size + 1, 1, none⟩ = some (.string y) ∧ W.cell? ⟨w.heap.size + 1, 2, none⟩ = some (.string t) ∧ W.cell? ⟨w.heap.size + 1, 3, none⟩ = some (.string o)) ∧ BD W (w.heap.size + 1 + 1) 26 (.slice none 0 0) ∧ BD W w.heap.size 26 (.slice (some ⟨ga, oa, none⟩) n cap) ∧ RS 3 fcs W (.slice (some ⟨ga, oa, none⟩) n cap) ga oa L) := fun W hW => by
    have h1 := (hW.block (w.heap.size + 1) (by rw [hs3]; omega)).trans hg1
    exact ⟨⟨by rw [cell_of_row _ _ 0 _ _ _ h1]; rfl, by rw [cell_of_row _ _ 1 _ _ _ h1]; rfl, by rw [cell_of_row _ _ 2 _ _ _ h1]; rfl, by rw [cell_of_row _ _ 3 _ _ _ h1]; rfl⟩, (hW.block (w.heap.size + 1 + 1) (by rw [hs3]; omega)).trans hg2, hg0.later hW, hv3.later hW⟩
  have HB0 : Hid (Below w.heap.size w (((w.alloc (.cells #[.slice (some ⟨ga, oa, none⟩) n cap] 26)).alloc (.cells #[.int .i64 k, .string y, .string t, .string o] 45)).alloc (.cells #[.slice none 0 0] 26)) ∧ w.heap.size + 1 + 1 + 1 ≤ (((w.alloc (.cells #[.slice (some ⟨ga, oa, none⟩) n cap] 26)).alloc (.cells #[.int .i64 k, .string y, .string t, .string o] 45)).alloc (.cells #[.slice none 0 0] 26)).heap.size) := ⟨hb0, by rw [hs3]; exact Nat.le_refl _⟩
  have HC := sDiskOk_any _ ga oa L _ hv3
  clear hg0 hg1 hg2 hs3 hb0 hv hv3
  have ek : F.doL L ⟨k, y, t, o⟩ = none := by
    rw [← F.spec_moveno (o := o) hf (.inr (.inl h2))]
    unfold F.doL
    rw [if_neg (by rintro (⟨_, h⟩ | ⟨h, _⟩); exact h ht; exact h hk), if_neg (by simp [hk]), if_neg (by simp [hk]), if_pos (by simp [hk])]
  obtain ⟨te1, te2⟩ := nil_of' ht
  have k1 : (k == 1) = false := by simp [hk]
  have k2 : (k == 2) = false := by simp [hk]
  have k3 : (k == 3) = true := by simp [hk]
  have k1n : (k != 1) = true := by simp [hk]
  have k3n : (k != 3) = false := by simp [hk]
  have q2 : (o.toList == y.toList) = true := by rw [h2]; simp
  clear hk h2
  rw [hd] at HC
  rw [F.actR_yes _ hd, ek]
  have hnm := fun W => l06Name_any y W
  rw [hy] at hnm
  have HDK : Hid (F.DOk L) := F.diskB_iff.1 hd
  clear ek hd
  go_enter Try.func34, Try.ntmps34
  go_wp2_with fail
  refine HC.mono ?_
  rintro e w1 ⟨rfl, hb1⟩
  obtain ⟨⟨a0, a1, a2, a3⟩, hBD1, hD1, hR1⟩ := HG.out _ hb1
  go_wp2_with fail
  refine (hnm w1).mono ?_
  rintro e w1 ⟨rfl, rfl⟩
  have hz1 : (((w.alloc (.cells #[.slice (some ⟨ga, oa, none⟩) n cap] 26)).alloc (.cells #[.int .i64 k, .string y, .string t, .string o] 45)).alloc (.cells #[.slice none 0 0] 26)).heap.size ≤ w1.heap.size := hb1.size
  have HB1 : Hid (Below (((w.alloc (.cells #[.slice (some ⟨ga, oa, none⟩) n cap] 26)).alloc (.cells #[.int .i64 k, .string y, .string t, .string o] 45)).alloc (.cells #[.slice none 0 0] 26)).heap.size (((w.alloc (.cells #[.slice (some ⟨ga, oa, none⟩) n cap] 26)).alloc (.cells #[.int .i64 k, .string y, .string t, .string o] 45)).alloc (.cells #[.slice none 0 0] 26)) w1 ∧ RS 3 fcs w1 (.slice (some ⟨ga, oa, none⟩) n cap) ga oa L) := ⟨hb1, hR1⟩
  have d1 := hD1.cell
  clear hBD1 hD1 hR1 HC hb1
  go_wp2_with fail
  refine (l06At_any _ ga oa L y _ HB1.out.2).mono ?_
  rintro e w2 ⟨r, rfl, hr, hb2⟩
  obtain ⟨m, hm, rfl, hmX⟩ : ∃ (m : Nat) (h : m < L.length), r = (m : Int) ∧ L[m] = f := by
    rcases hr with ⟨_, h⟩ | ⟨m, h, h1, h2⟩
    · rw [hf] at h; cases h
    · rw [hf] at h2; exact ⟨m, h, h1, (Option.some.inj h2).symm⟩
  have HB2 : Hid (Below (((w.alloc (.cells #[.slice (some ⟨ga, oa, none⟩) n cap] 26)).alloc (.cells #[.int .i64 k, .string y, .string t, .string o] 45)).alloc (.cells #[.slice none 0 0] 26)).heap.size (((w.alloc (.cells #[.slice (some ⟨ga, oa, none⟩) n cap] 26)).alloc (.cells #[.int .i64 k, .string y, .string t, .string o] 45)).alloc (.cells #[.slice none 0 0] 26)) w2) := HB1.out.1.trans (hb2.mono hz1)
  have hz2 : (((w.alloc (.cells #[.slice (some ⟨ga, oa, none⟩) n cap] 26)).alloc (.cells #[.int .i64 k, .string y, .string t, .string o] 45)).alloc (.cells #[.slice none 0 0] 26)).heap.size ≤ w2.heap.size := HB2.out.size
  obtain ⟨⟨a0, a1, a2, a3⟩, _, hD2, hR2⟩ := HG.out _ HB2.out
  have hn2 : (m : Int) < (n : Int) := by omega
  have hn3 : (0 : Int) ≤ (m : Int) := by omega
  have hRa := hR2.alloc (.cells #[.string y, .string ⟨#[]⟩, .int .i64 0] 36)
  obtain ⟨e0, e1, e2⟩ := hRa.file m hm
  rw [hmX] at e0 e1 e2
  have d2 : (w2.alloc (.cells #[.string y, .string ⟨#[]⟩, .int .i64 0] 36)).cell? ⟨w.heap.size, 0, none⟩ = some (.slice (some ⟨ga, oa, none⟩) n cap) := (cell_kept (Below.heap_alloc _ _ w.heap.size hD2.lt)).trans hD2.cell
  have HB5 : Hid (Below (((w.alloc (.cells #[.slice (some ⟨ga, oa, none⟩) n cap] 26)).alloc (.cells #[.int .i64 k, .string y, .string t, .string o] 45)).alloc (.cells #[.slice none 0 0] 26)).heap.size (((w.alloc (.cells #[.slice (some ⟨ga, oa, none⟩) n cap] 26)).alloc (.cells #[.int .i64 k, .string y, .string t, .string o] 45)).alloc (.cells #[.slice none 0 0] 26)) ((w2.alloc (.cells #[.string f.n, .string f.t, .int .i64 f.k] 36)).alloc (.cells #[.slice none 0 0] 26))) := (HB2.out.alloc hz2 _).alloc (Nat.le_trans hz2 (by simp)) _
  obtain ⟨⟨b0, b1, b2, b3⟩, _, _, _⟩ := HG.out _ HB5.out
  have hF5 : BF ((w2.alloc (.cells #[.string f.n, .string f.t, .int .i64 f.k] 36)).alloc (.cells #[.slice none 0 0] 26)) w2.heap.size f := alloc_snd _ _ _ rfl
  have hO5 : BD ((w2.alloc (.cells #[.string f.n, .string f.t, .int .i64 f.k] 36)).alloc (.cells #[.slice none 0 0] 26)) (w2.heap.size + 1) 26 (.slice none 0 0) := alloc_fst _ _ (by simp)
  obtain ⟨f0, f1, f2⟩ := hF5.cells
  have hbd := (HG.out _ HB5.out).2.1
  have t0 := hbd.cell
  have g0 := hbd.fr
  have HF : Hid ((((w2.alloc (.cells #[.string f.n, .string f.t, .int .i64 f.k] 36)).alloc (.cells #[.slice none 0 0] 26)).setCell ⟨w.heap.size + 1 + 1, 0, none⟩ (.slice none 0 0)).rangeAt (w.heap.size + 1 + 1) 0 [.slice none 0 0] ∧ Below w.heap.size w (((w2.alloc (.cells #[.string f.n, .string f.t, .int .i64 f.k] 36)).alloc (.cells #[.slice none 0 0] 26)).setCell ⟨w.heap.size + 1 + 1, 0, none⟩ (.slice none 0 0))) := ⟨range1 (set_here t0 g0 _), (HB0.out.1.trans ((HB5.out).mono (Nat.le_trans (by omega) HB0.out.2))).setCell (p := ⟨w.heap.size + 1 + 1, 0, none⟩) (by simp; omega) _⟩
  clear HB1 HB2 hr hb2 hF5 hO5 hbd
  go_wp2
  refine ret_rec2 4 5 (w.heap.size + 1 + 1) 26 [.slice none 0 0] _ _ rfl rfl rfl rfl Try.underlying26 rfl sizeDisk HF.out.1 ?_
  exact ⟨_, rfl, ⟨_, w.heap.size, rfl, RW.nil _ _, Nat.le_refl _⟩, HF.out.2⟩

set_option maxRecDepth 100000 in
set_option maxHeartbeats 4000000 in
theorem sDoAct_mv2 (n cap : Nat) (ga oa : Nat) (L : List Fl) (k : Int) (y t o : ByteArray) (w : World) (hn : L.length = n) (hv : RS 3 fcs w (.slice (some ⟨ga, oa, none⟩) n cap) ga oa L) (ha : SmallA ⟨k, y, t, o⟩) (f : Fl) (hd : F.diskB L = true) (hy : F.nmB y = true) (hk : k = 3) (hf : F.find L y = some f) (ht : t.size = 0) (h1 : ¬ f.k < (f.t.size : Int)) (h2 : o ≠ y) (h3 : F.nmB o = false) :
    Calls Try.prog 34 #[.agg #[.slice (some ⟨ga, oa, none⟩) n cap], .agg #[.int .i64 k, .string y, .string t, .string o]] w fun e w' => ∃ u, e = .returned (.tuple #[u, .bool (F.actR L ⟨k, y, t, o⟩).isSome]) ∧ DkIn w' w.heap.size u ((F.actR L ⟨k, y, t, o⟩).getD []) ∧ Below w.heap.size w w' := by
  have hb0 : Below w.heap.size w (((w.alloc (.cells #[.slice (some ⟨ga, oa, none⟩) n cap] 26)).alloc (.cells #[.int .i64 k, .string y, .string t, .string o] 45)).alloc (.cells #[.slice none 0 0] 26)) := (((Below.refl _ _).alloc (Nat.le_refl _) _).alloc (by simp) _).alloc (by simp; omega) _
  have hs3 : (((w.alloc (.cells #[.slice (some ⟨ga, oa, none⟩) n cap] 26)).alloc (.cells #[.int .i64 k, .string y, .string t, .string o] 45)).alloc (.cells #[.slice none 0 0] 26)).heap.size = w.heap.size + 1 + 1 + 1 := by simp
  have hg0 : BD (((w.alloc (.cells #[.slice (some ⟨ga, oa, none⟩) n cap] 26)).alloc (.cells #[.int .i64 k, .string y, .string t, .string o] 45)).alloc (.cells #[.slice none 0 0] 26)) w.heap.size 26 (.slice (some ⟨ga, oa, none⟩) n cap) := (Below.heap_alloc _ _ w.heap.size (by simp; omega)).trans (alloc_snd _ _ _ rfl)
  have hg1 : (((w.alloc (.cells #[.slice (some ⟨ga, oa, none⟩) n cap] 26)).alloc (.cells #[.int .i64 k, .string y, .string t, .string o] 45)).alloc (.cells #[.slice none 0 0] 26)).heap[w.heap.size + 1]? = some (.cells #[.int .i64 k, .string y, .string t, .string o] 45 (0, 0)) := alloc_snd _ _ _ (by simp)
  have hg2 : (((w.alloc (.cells #[.slice (some ⟨ga, oa, none⟩) n cap] 26)).alloc (.cells #[.int .i64 k, .string y, .string t, .string o] 45)).alloc (.cells #[.slice none 0 0] 26)).heap[w.heap.size + 1 + 1]? = some (.cells #[.slice none 0 0] 26 (0, 0)) := alloc_fst _ _ (by simp)
  have hv3 := hv.later hb0
  have HG : Hid (∀ W, Below (((w.alloc (.cells #[.slice (some ⟨ga, oa, none⟩) n cap] 26)).alloc (.cells #[.int .i64 k, .string y, .string t, .string o] 45)).alloc (.cells #[.slice none 0 0] 26)).heap.size (((w.alloc (.cells #[.slice (some ⟨ga, oa, none⟩) n cap] 26)).alloc (.cells #[.int .i64 k, .string y, .string t, .string o] 45)).alloc (.cells #[.slice none 0 0] 26)) W → (W.cell? ⟨w.heap.size + 1, 0, none⟩ = some (.int .i64 k) ∧ W.cell? ⟨w.heap.size + 1, 1, none⟩ = some (.string y) ∧ W.cell? ⟨w.heap.size + 1, 2, none⟩ = some (.string t) ∧ W.cell? ⟨w.heap.size + 1, 3, none⟩ = some (.string o)) ∧ BD W (w.heap.size + 1 + 1) 26 (.slice none 0 0) ∧ BD W w.heap.size 26 (.slice (some ⟨ga, oa, none⟩) n cap) ∧ RS 3 fcs W (.slice (some ⟨ga, oa, none⟩) n cap) ga oa L) := fun W hW => by
    have h1 := (hW.block (w.heap.size + 1) (by rw [hs3]; omega)).trans hg1
    exact ⟨⟨by rw [cell_of_row _ _ 0 _ _ _ h1]; rfl, by rw [cell_of_row _ _ 1 _ _ _ h1]; rfl, by rw [cell_of_row _ _ 2 _ _ _ h1]; rfl, by rw [cell_of_row _ _ 3 _ _ _ h1]; rfl⟩, (hW.block (w.heap.size + 1 + 1) (by rw [hs3]; omega)).trans hg2, hg0.later hW, hv3.later hW⟩
  have HB0 : Hid (Below w.heap.size w (((w.alloc (.cells #[.slice (some ⟨ga, oa, none⟩) n cap] 26)).alloc (.cells #[.int .i64 k, .string y, .string t, .string o] 45)).alloc (.cells #[.slice none 0 0] 26)) ∧ w.heap.size + 1 + 1 + 1 ≤ (((w.alloc (.cells #[.slice (some ⟨ga, oa, none⟩) n cap] 26)).alloc (.cells #[.int .i64 k, .string y, .string t, .string o] 45)).alloc (.cells #[.slice none 0 0] 26)).heap.size) := ⟨hb0, by rw [hs3]; exact Nat.le_refl _⟩
  have HC := sDiskOk_any _ ga oa L _ hv3
  clear hg0 hg1 hg2 hs3 hb0 hv hv3
  have ek : F.doL L ⟨k, y, t, o⟩ = none := by
    rw [← F.spec_moveno (o := o) hf (.inr (.inr h3))]
    unfold F.doL
    rw [if_neg (by rintro (⟨_, h⟩ | ⟨h, _⟩); exact h ht; exact h hk), if_neg (by simp [hk]), if_neg (by simp [hk]), if_pos (by simp [hk])]
  obtain ⟨te1, te2⟩ := nil_of' ht
  have k1 : (k == 1) = false := by simp [hk]
  have k2 : (k == 2) = false := by simp [hk]
  have k3 : (k == 3) = true := by simp [hk]
  have k1n : (k != 1) = true := by simp [hk]
  have k3n : (k != 3) = false := by simp [hk]
  have q2 : (o.toList == y.toList) = false := F.list_ne h2
  have hno := fun W => l06Name_any o W
  rw [h3] at hno
  clear hk h2 h3
  rw [hd] at HC
  rw [F.actR_yes _ hd, ek]
  have hnm := fun W => l06Name_any y W
  rw [hy] at hnm
  have HDK : Hid (F.DOk L) := F.diskB_iff.1 hd
  clear ek hd
  go_enter Try.func34, Try.ntmps34
  go_wp2_with fail
  refine HC.mono ?_
  rintro e w1 ⟨rfl, hb1⟩
  obtain ⟨⟨a0, a1, a2, a3⟩, hBD1, hD1, hR1⟩ := HG.out _ hb1
  go_wp2_with fail
  refine (hnm w1).mono ?_
  rintro e w1 ⟨rfl, rfl⟩
  have hz1 : (((w.alloc (.cells #[.slice (some ⟨ga, oa, none⟩) n cap] 26)).alloc (.cells #[.int .i64 k, .string y, .string t, .string o] 45)).alloc (.cells #[.slice none 0 0] 26)).heap.size ≤ w1.heap.size := hb1.size
  have HB1 : Hid (Below (((w.alloc (.cells #[.slice (some ⟨ga, oa, none⟩) n cap] 26)).alloc (.cells #[.int .i64 k, .string y, .string t, .string o] 45)).alloc (.cells #[.slice none 0 0] 26)).heap.size (((w.alloc (.cells #[.slice (some ⟨ga, oa, none⟩) n cap] 26)).alloc (.cells #[.int .i64 k, .string y, .string t, .string o] 45)).alloc (.cells #[.slice none 0 0] 26)) w1 ∧ RS 3 fcs w1 (.slice (some ⟨ga, oa, none⟩) n cap) ga oa L) := ⟨hb1, hR1⟩
  have d1 := hD1.cell
  clear hBD1 hD1 hR1 HC hb1
  go_wp2_with fail
  refine (l06At_any _ ga oa L y _ HB1.out.2).mono ?_
  rintro e w2 ⟨r, rfl, hr, hb2⟩
  obtain ⟨m, hm, rfl, hmX⟩ : ∃ (m : Nat) (h : m < L.length), r = (m : Int) ∧ L[m] = f := by
    rcases hr with ⟨_, h⟩ | ⟨m, h, h1, h2⟩
    · rw [hf] at h; cases h
    · rw [hf] at h2; exact ⟨m, h, h1, (Option.some.inj h2).symm⟩
  have HB2 : Hid (Below (((w.alloc (.cells #[.slice (some ⟨ga, oa, none⟩) n cap] 26)).alloc (.cells #[.int .i64 k, .string y, .string t, .string o] 45)).alloc (.cells #[.slice none 0 0] 26)).heap.size (((w.alloc (.cells #[.slice (some ⟨ga, oa, none⟩) n cap] 26)).alloc (.cells #[.int .i64 k, .string y, .string t, .string o] 45)).alloc (.cells #[.slice none 0 0] 26)) w2) := HB1.out.1.trans (hb2.mono hz1)
  have hz2 : (((w.alloc (.cells #[.slice (some ⟨ga, oa, none⟩) n cap] 26)).alloc (.cells #[.int .i64 k, .string y, .string t, .string o] 45)).alloc (.cells #[.slice none 0 0] 26)).heap.size ≤ w2.heap.size := HB2.out.size
  obtain ⟨⟨a0, a1, a2, a3⟩, _, hD2, hR2⟩ := HG.out _ HB2.out
  have hn2 : (m : Int) < (n : Int) := by omega
  have hn3 : (0 : Int) ≤ (m : Int) := by omega
  have hRa := hR2.alloc (.cells #[.string y, .string ⟨#[]⟩, .int .i64 0] 36)
  obtain ⟨e0, e1, e2⟩ := hRa.file m hm
  rw [hmX] at e0 e1 e2
  have d2 : (w2.alloc (.cells #[.string y, .string ⟨#[]⟩, .int .i64 0] 36)).cell? ⟨w.heap.size, 0, none⟩ = some (.slice (some ⟨ga, oa, none⟩) n cap) := (cell_kept (Below.heap_alloc _ _ w.heap.size hD2.lt)).trans hD2.cell
  have HB5 : Hid (Below (((w.alloc (.cells #[.slice (some ⟨ga, oa, none⟩) n cap] 26)).alloc (.cells #[.int .i64 k, .string y, .string t, .string o] 45)).alloc (.cells #[.slice none 0 0] 26)).heap.size (((w.alloc (.cells #[.slice (some ⟨ga, oa, none⟩) n cap] 26)).alloc (.cells #[.int .i64 k, .string y, .string t, .string o] 45)).alloc (.cells #[.slice none 0 0] 26)) ((w2.alloc (.cells #[.string f.n, .string f.t, .int .i64 f.k] 36)).alloc (.cells #[.slice none 0 0] 26))) := (HB2.out.alloc hz2 _).alloc (Nat.le_trans hz2 (by simp)) _
  obtain ⟨⟨b0, b1, b2, b3⟩, _, _, _⟩ := HG.out _ HB5.out
  have hF5 : BF ((w2.alloc (.cells #[.string f.n, .string f.t, .int .i64 f.k] 36)).alloc (.cells #[.slice none 0 0] 26)) w2.heap.size f := alloc_snd _ _ _ rfl
  have hO5 : BD ((w2.alloc (.cells #[.string f.n, .string f.t, .int .i64 f.k] 36)).alloc (.cells #[.slice none 0 0] 26)) (w2.heap.size + 1) 26 (.slice none 0 0) := alloc_fst _ _ (by simp)
  obtain ⟨f0, f1, f2⟩ := hF5.cells
  clear HB1 HB2 hr hb2 hF5 hO5
  go_wp2_with fail
  refine (hno _).mono ?_
  rintro e w55 ⟨rfl, rfl⟩
  have hbd := (HG.out _ HB5.out).2.1
  have t0 := hbd.cell
  have g0 := hbd.fr
  have HF : Hid ((((w2.alloc (.cells #[.string f.n, .string f.t, .int .i64 f.k] 36)).alloc (.cells #[.slice none 0 0] 26)).setCell ⟨w.heap.size + 1 + 1, 0, none⟩ (.slice none 0 0)).rangeAt (w.heap.size + 1 + 1) 0 [.slice none 0 0] ∧ Below w.heap.size w (((w2.alloc (.cells #[.string f.n, .string f.t, .int .i64 f.k] 36)).alloc (.cells #[.slice none 0 0] 26)).setCell ⟨w.heap.size + 1 + 1, 0, none⟩ (.slice none 0 0))) := ⟨range1 (set_here t0 g0 _), (HB0.out.1.trans ((HB5.out).mono (Nat.le_trans (by omega) HB0.out.2))).setCell (p := ⟨w.heap.size + 1 + 1, 0, none⟩) (by simp; omega) _⟩
  clear hbd
  go_wp2
  refine ret_rec2 4 5 (w.heap.size + 1 + 1) 26 [.slice none 0 0] _ _ rfl rfl rfl rfl Try.underlying26 rfl sizeDisk HF.out.1 ?_
  exact ⟨_, rfl, ⟨_, w.heap.size, rfl, RW.nil _ _, Nat.le_refl _⟩, HF.out.2⟩

set_option maxRecDepth 100000 in
set_option maxHeartbeats 4000000 in
theorem sDoAct_mv3 (n cap : Nat) (ga oa : Nat) (L : List Fl) (k : Int) (y t o : ByteArray) (w : World) (hn : L.length = n) (hv : RS 3 fcs w (.slice (some ⟨ga, oa, none⟩) n cap) ga oa L) (ha : SmallA ⟨k, y, t, o⟩) (f : Fl) (hd : F.diskB L = true) (hy : F.nmB y = true) (hk : k = 3) (hf : F.find L y = some f) (ht : t.size = 0) (h1 : ¬ f.k < (f.t.size : Int)) (h2 : o ≠ y) (h3 : F.nmB o = true) :
    Calls Try.prog 34 #[.agg #[.slice (some ⟨ga, oa, none⟩) n cap], .agg #[.int .i64 k, .string y, .string t, .string o]] w fun e w' => ∃ u, e = .returned (.tuple #[u, .bool (F.actR L ⟨k, y, t, o⟩).isSome]) ∧ DkIn w' w.heap.size u ((F.actR L ⟨k, y, t, o⟩).getD []) ∧ Below w.heap.size w w' := by
  have hb0 : Below w.heap.size w (((w.alloc (.cells #[.slice (some ⟨ga, oa, none⟩) n cap] 26)).alloc (.cells #[.int .i64 k, .string y, .string t, .string o] 45)).alloc (.cells #[.slice none 0 0] 26)) := (((Below.refl _ _).alloc (Nat.le_refl _) _).alloc (by simp) _).alloc (by simp; omega) _
  have hs3 : (((w.alloc (.cells #[.slice (some ⟨ga, oa, none⟩) n cap] 26)).alloc (.cells #[.int .i64 k, .string y, .string t, .string o] 45)).alloc (.cells #[.slice none 0 0] 26)).heap.size = w.heap.size + 1 + 1 + 1 := by simp
  have hg0 : BD (((w.alloc (.cells #[.slice (some ⟨ga, oa, none⟩) n cap] 26)).alloc (.cells #[.int .i64 k, .string y, .string t, .string o] 45)).alloc (.cells #[.slice none 0 0] 26)) w.heap.size 26 (.slice (some ⟨ga, oa, none⟩) n cap) := (Below.heap_alloc _ _ w.heap.size (by simp; omega)).trans (alloc_snd _ _ _ rfl)
  have hg1 : (((w.alloc (.cells #[.slice (some ⟨ga, oa, none⟩) n cap] 26)).alloc (.cells #[.int .i64 k, .string y, .string t, .string o] 45)).alloc (.cells #[.slice none 0 0] 26)).heap[w.heap.size + 1]? = some (.cells #[.int .i64 k, .string y, .string t, .string o] 45 (0, 0)) := alloc_snd _ _ _ (by simp)
  have hg2 : (((w.alloc (.cells #[.slice (some ⟨ga, oa, none⟩) n cap] 26)).alloc (.cells #[.int .i64 k, .string y, .string t, .string o] 45)).alloc (.cells #[.slice none 0 0] 26)).heap[w.heap.size + 1 + 1]? = some (.cells #[.slice none 0 0] 26 (0, 0)) := alloc_fst _ _ (by simp)
  have hv3 := hv.later hb0
  have HG : Hid (∀ W, Below (((w.alloc (.cells #[.slice (some ⟨ga, oa, none⟩) n cap] 26)).alloc (.cells #[.int .i64 k, .string y, .string t, .string o] 45)).alloc (.cells #[.slice none 0 0] 26)).heap.size (((w.alloc (.cells #[.slice (some ⟨ga, oa, none⟩) n cap] 26)).alloc (.cells #[.int .i64 k, .string y, .string t, .string o] 45)).alloc (.cells #[.slice none 0 0] 26)) W → (W.cell? ⟨w.heap.size + 1, 0, none⟩ = some (.int .i64 k) ∧ W.cell? ⟨w.heap.size + 1, 1, none⟩ = some (.string y) ∧ W.cell? ⟨w.heap.size + 1, 2, none⟩ = some (.string t) ∧ W.cell? ⟨w.heap.size + 1, 3, none⟩ = some (.string o)) ∧ BD W (w.heap.size + 1 + 1) 26 (.slice none 0 0) ∧ BD W w.heap.size 26 (.slice (some ⟨ga, oa, none⟩) n cap) ∧ RS 3 fcs W (.slice (some ⟨ga, oa, none⟩) n cap) ga oa L) := fun W hW => by
    have h1 := (hW.block (w.heap.size + 1) (by rw [hs3]; omega)).trans hg1
    exact ⟨⟨by rw [cell_of_row _ _ 0 _ _ _ h1]; rfl, by rw [cell_of_row _ _ 1 _ _ _ h1]; rfl, by rw [cell_of_row _ _ 2 _ _ _ h1]; rfl, by rw [cell_of_row _ _ 3 _ _ _ h1]; rfl⟩, (hW.block (w.heap.size + 1 + 1) (by rw [hs3]; omega)).trans hg2, hg0.later hW, hv3.later hW⟩
  have HB0 : Hid (Below w.heap.size w (((w.alloc (.cells #[.slice (some ⟨ga, oa, none⟩) n cap] 26)).alloc (.cells #[.int .i64 k, .string y, .string t, .string o] 45)).alloc (.cells #[.slice none 0 0] 26)) ∧ w.heap.size + 1 + 1 + 1 ≤ (((w.alloc (.cells #[.slice (some ⟨ga, oa, none⟩) n cap] 26)).alloc (.cells #[.int .i64 k, .string y, .string t, .string o] 45)).alloc (.cells #[.slice none 0 0] 26)).heap.size) := ⟨hb0, by rw [hs3]; exact Nat.le_refl _⟩
  have HC := sDiskOk_any _ ga oa L _ hv3
  clear hg0 hg1 hg2 hs3 hb0 hv hv3
  obtain ⟨ek0, hM⟩ := F.spec_move (F.diskB_iff.1 hd) hf h1 h2 h3
  have ek : F.doL L ⟨k, y, t, o⟩ = some (F.put (F.wout L y) ⟨o, f.t, f.k⟩) := by
    rw [← ek0]
    unfold F.doL
    rw [if_neg (by rintro (⟨_, h⟩ | ⟨h, _⟩); exact h ht; exact h hk), if_neg (by simp [hk]), if_neg (by simp [hk]), if_pos (by simp [hk])]
  obtain ⟨te1, te2⟩ := nil_of' ht
  have k1 : (k == 1) = false := by simp [hk]
  have k2 : (k == 2) = false := by simp [hk]
  have k3 : (k == 3) = true := by simp [hk]
  have k1n : (k != 1) = true := by simp [hk]
  have k3n : (k != 3) = false := by simp [hk]
  have q2 : (o.toList == y.toList) = false := F.list_ne h2
  have hno := fun W => l06Name_any o W
  rw [h3] at hno
  clear hk h2 h3 ek0
  rw [hd] at HC
  rw [F.actR_yes _ hd, ek]
  have hnm := fun W => l06Name_any y W
  rw [hy] at hnm
  have HDK : Hid (F.DOk L) := F.diskB_iff.1 hd
  clear ek hd
  go_enter Try.func34, Try.ntmps34
  go_wp2_with fail
  refine HC.mono ?_
  rintro e w1 ⟨rfl, hb1⟩
  obtain ⟨⟨a0, a1, a2, a3⟩, hBD1, hD1, hR1⟩ := HG.out _ hb1
  go_wp2_with fail
  refine (hnm w1).mono ?_
  rintro e w1 ⟨rfl, rfl⟩
  have hz1 : (((w.alloc (.cells #[.slice (some ⟨ga, oa, none⟩) n cap] 26)).alloc (.cells #[.int .i64 k, .string y, .string t, .string o] 45)).alloc (.cells #[.slice none 0 0] 26)).heap.size ≤ w1.heap.size := hb1.size
  have HB1 : Hid (Below (((w.alloc (.cells #[.slice (some ⟨ga, oa, none⟩) n cap] 26)).alloc (.cells #[.int .i64 k, .string y, .string t, .string o] 45)).alloc (.cells #[.slice none 0 0] 26)).heap.size (((w.alloc (.cells #[.slice (some ⟨ga, oa, none⟩) n cap] 26)).alloc (.cells #[.int .i64 k, .string y, .string t, .string o] 45)).alloc (.cells #[.slice none 0 0] 26)) w1 ∧ RS 3 fcs w1 (.slice (some ⟨ga, oa, none⟩) n cap) ga oa L) := ⟨hb1, hR1⟩
  have d1 := hD1.cell
  clear hBD1 hD1 hR1 HC hb1
  go_wp2_with fail
  refine (l06At_any _ ga oa L y _ HB1.out.2).mono ?_
  rintro e w2 ⟨r, rfl, hr, hb2⟩
  obtain ⟨m, hm, rfl, hmX⟩ : ∃ (m : Nat) (h : m < L.length), r = (m : Int) ∧ L[m] = f := by
    rcases hr with ⟨_, h⟩ | ⟨m, h, h1, h2⟩
    · rw [hf] at h; cases h
    · rw [hf] at h2; exact ⟨m, h, h1, (Option.some.inj h2).symm⟩
  have HB2 : Hid (Below (((w.alloc (.cells #[.slice (some ⟨ga, oa, none⟩) n cap] 26)).alloc (.cells #[.int .i64 k, .string y, .string t, .string o] 45)).alloc (.cells #[.slice none 0 0] 26)).heap.size (((w.alloc (.cells #[.slice (some ⟨ga, oa, none⟩) n cap] 26)).alloc (.cells #[.int .i64 k, .string y, .string t, .string o] 45)).alloc (.cells #[.slice none 0 0] 26)) w2) := HB1.out.1.trans (hb2.mono hz1)
  have hz2 : (((w.alloc (.cells #[.slice (some ⟨ga, oa, none⟩) n cap] 26)).alloc (.cells #[.int .i64 k, .string y, .string t, .string o] 45)).alloc (.cells #[.slice none 0 0] 26)).heap.size ≤ w2.heap.size := HB2.out.size
  obtain ⟨⟨a0, a1, a2, a3⟩, _, hD2, hR2⟩ := HG.out _ HB2.out
  have hn2 : (m : Int) < (n : Int) := by omega
  have hn3 : (0 : Int) ≤ (m : Int) := by omega
  have hRa := hR2.alloc (.cells #[.string y, .string ⟨#[]⟩, .int .i64 0] 36)
  obtain ⟨e0, e1, e2⟩ := hRa.file m hm
  rw [hmX] at e0 e1 e2
  have d2 : (w2.alloc (.cells #[.string y, .string ⟨#[]⟩, .int .i64 0] 36)).cell? ⟨w.heap.size, 0, none⟩ = some (.slice (some ⟨ga, oa, none⟩) n cap) := (cell_kept (Below.heap_alloc _ _ w.heap.size hD2.lt)).trans hD2.cell
  have HB5 : Hid (Below (((w.alloc (.cells #[.slice (some ⟨ga, oa, none⟩) n cap] 26)).alloc (.cells #[.int .i64 k, .string y, .string t, .string o] 45)).alloc (.cells #[.slice none 0 0] 26)).heap.size (((w.alloc (.cells #[.slice (some ⟨ga, oa, none⟩) n cap] 26)).alloc (.cells #[.int .i64 k, .string y, .string t, .string o] 45)).alloc (.cells #[.slice none 0 0] 26)) ((w2.alloc (.cells #[.string f.n, .string f.t, .int .i64 f.k] 36)).alloc (.cells #[.slice none 0 0] 26))) := (HB2.out.alloc hz2 _).alloc (Nat.le_trans hz2 (by simp)) _
  obtain ⟨⟨b0, b1, b2, b3⟩, _, _, _⟩ := HG.out _ HB5.out
  have hF5 : BF ((w2.alloc (.cells #[.string f.n, .string f.t, .int .i64 f.k] 36)).alloc (.cells #[.slice none 0 0] 26)) w2.heap.size f := alloc_snd _ _ _ rfl
  have hO5 : BD ((w2.alloc (.cells #[.string f.n, .string f.t, .int .i64 f.k] 36)).alloc (.cells #[.slice none 0 0] 26)) (w2.heap.size + 1) 26 (.slice none 0 0) := alloc_fst _ _ (by simp)
  obtain ⟨f0, f1, f2⟩ := hF5.cells
  have r0 := hF5.fr 0
  have r1 := hF5.fr 1
  have r2 := hF5.fr 2
  have hF6 : BF ((w2.alloc (.cells #[.string o, .string f.t, .int .i64 f.k] 36)).alloc (.cells #[.slice none 0 0] 26)) w2.heap.size ⟨o, f.t, f.k⟩ := alloc_snd _ _ _ rfl
  obtain ⟨s0, s1, s2⟩ := hF6.cells
  have hB6 : Below (((w.alloc (.cells #[.slice (some ⟨ga, oa, none⟩) n cap] 26)).alloc (.cells #[.int .i64 k, .string y, .string t, .string o] 45)).alloc (.cells #[.slice none 0 0] 26)).heap.size (((w.alloc (.cells #[.slice (some ⟨ga, oa, none⟩) n cap] 26)).alloc (.cells #[.int .i64 k, .string y, .string t, .string o] 45)).alloc (.cells #[.slice none 0 0] 26)) ((w2.alloc (.cells #[.string o, .string f.t, .int .i64 f.k] 36)).alloc (.cells #[.slice none 0 0] 26)) := (HB2.out.alloc hz2 _).alloc (Nat.le_trans hz2 (by simp)) _
  have hO6 : BD ((w2.alloc (.cells #[.string o, .string f.t, .int .i64 f.k] 36)).alloc (.cells #[.slice none 0 0] 26)) (w2.heap.size + 1) 26 (.slice none 0 0) := alloc_fst _ _ (by simp)
  obtain ⟨⟨q0, q1, q2, q3⟩, _, hD6, hR6⟩ := HG.out _ hB6
  have dd6 := hD6.cell
  have HX6 : Hid (Below (((w.alloc (.cells #[.slice (some ⟨ga, oa, none⟩) n cap] 26)).alloc (.cells #[.int .i64 k, .string y, .string t, .string o] 45)).alloc (.cells #[.slice none 0 0] 26)).heap.size (((w.alloc (.cells #[.slice (some ⟨ga, oa, none⟩) n cap] 26)).alloc (.cells #[.int .i64 k, .string y, .string t, .string o] 45)).alloc (.cells #[.slice none 0 0] 26)) ((w2.alloc (.cells #[.string o, .string f.t, .int .i64 f.k] 36)).alloc (.cells #[.slice none 0 0] 26)) ∧ BD ((w2.alloc (.cells #[.string o, .string f.t, .int .i64 f.k] 36)).alloc (.cells #[.slice none 0 0] 26)) (w2.heap.size + 1) 26 (.slice none 0 0)) := ⟨hB6, hO6⟩
  have hll : L.length ≤ 100000 := by have := HDK.out.1; omega
  have hlw := F.len_wout_le L y
  have hs9 := HB0.out.2
  have nn1 : w.heap.size ≠ w2.heap.size + 1 := by omega
  have nn2 : w.heap.size ≠ w2.heap.size := by omega
  clear hs9
  have HR6 : Hid (RS 3 fcs ((w2.alloc (.cells #[.string o, .string f.t, .int .i64 f.k] 36)).alloc (.cells #[.slice none 0 0] 26)) (.slice (some ⟨ga, oa, none⟩) n cap) ga oa L) := hR6
  have HK : Hid (∀ W, Below ((w2.alloc (.cells #[.string o, .string f.t, .int .i64 f.k] 36)).alloc (.cells #[.slice none 0 0] 26)).heap.size ((w2.alloc (.cells #[.string o, .string f.t, .int .i64 f.k] 36)).alloc (.cells #[.slice none 0 0] 26)) W → (W.cell? ⟨w.heap.size, 0, none⟩ = some (.slice (some ⟨ga, oa, none⟩) n cap) ∧ W.cell? ⟨w.heap.size + 1, 1, none⟩ = some (.string y) ∧ W.cell? ⟨w2.heap.size, 0, none⟩ = some (.string o) ∧ W.cell? ⟨w2.heap.size, 1, none⟩ = some (.string f.t) ∧ W.cell? ⟨w2.heap.size, 2, none⟩ = some (.int .i64 f.k)) ∧ ∀ v, ((W.setCell ⟨w2.heap.size + 1, 0, none⟩ v).cell? ⟨w.heap.size, 0, none⟩ = some (.slice (some ⟨ga, oa, none⟩) n cap) ∧ (W.setCell ⟨w2.heap.size + 1, 0, none⟩ v).cell? ⟨w.heap.size + 1, 1, none⟩ = some (.string y) ∧ (W.setCell ⟨w2.heap.size + 1, 0, none⟩ v).cell? ⟨w2.heap.size, 0, none⟩ = some (.string o) ∧ (W.setCell ⟨w2.heap.size + 1, 0, none⟩ v).cell? ⟨w2.heap.size, 1, none⟩ = some (.string f.t) ∧ (W.setCell ⟨w2.heap.size + 1, 0, none⟩ v).cell? ⟨w2.heap.size, 2, none⟩ = some (.int .i64 f.k))) := fun W hW => by
    have hbw := hB6.trans (hW.mono hB6.size)
    obtain ⟨⟨_, h1', _, _⟩, _, hd', _⟩ := HG.out _ hbw
    obtain ⟨g0, g1, g2⟩ := (hF6.later hW).cells
    have hs := HB0.out.2
    have n1 : w.heap.size ≠ w2.heap.size + 1 := by omega
    have n2 : w.heap.size + 1 ≠ w2.heap.size + 1 := by omega
    have n3 : w2.heap.size ≠ w2.heap.size + 1 := by omega
    exact ⟨⟨hd'.cell, h1', g0, g1, g2⟩, fun v => ⟨(cell_kept (heap_setCell_other _ _ _ _ n1)).trans hd'.cell, (cell_kept (heap_setCell_other _ _ _ _ n2)).trans h1', (cell_kept (heap_setCell_other _ _ _ _ n3)).trans g0, (cell_kept (heap_setCell_other _ _ _ _ n3)).trans g1, (cell_kept (heap_setCell_other _ _ _ _ n3)).trans g2⟩⟩
  clear hF5 hO5 hF6 hB6 hO6 hD6 hR6 HB1 HB2 hr hb2 HB5 hD2 hR2 hRa hmX
  go_wp2_with fail
  refine (hno _).mono ?_
  rintro e w55 ⟨rfl, rfl⟩
  go_wp2
  go_region_held3 (fun W => W.cell? ⟨w.heap.size, 0, none⟩ = some (.slice (some ⟨ga, oa, none⟩) n cap) ∧ W.cell? ⟨w.heap.size + 1, 1, none⟩ = some (.string y) ∧ W.cell? ⟨w2.heap.size, 0, none⟩ = some (.string o) ∧ W.cell? ⟨w2.heap.size, 1, none⟩ = some (.string f.t) ∧ W.cell? ⟨w2.heap.size, 2, none⟩ = some (.int .i64 f.k)) (first | (go_keep; done) | exact (HK.out _ hb7).1 | exact (HK.out _ hb6).1 | exact (HK.out _ hb7).2 _) ((first | (go_at_call 71; refine (l06Without_any _ ga oa L y _ (HR6.out.later (Below.refl _ _).drew) hll).mono ?_; rintro e v7 ⟨u6, rfl, hu6, hb6'⟩; obtain ⟨a6, c6, g6, rfl, hr6, hg6⟩ := hu6.shape; have hb6 : Below ((w2.alloc (.cells #[.string o, .string f.t, .int .i64 f.k] 36)).alloc (.cells #[.slice none 0 0] 26)).heap.size ((w2.alloc (.cells #[.string o, .string f.t, .int .i64 f.k] 36)).alloc (.cells #[.slice none 0 0] 26)) v7 := (Below.refl _ _).drew.trans hb6') | (go_at_call 50; refine (l06Put_any _ g6 0 (F.wout L y) ⟨o, f.t, f.k⟩ _ hr6.1 (by omega)).mono ?_; rintro e w7 ⟨u, rfl, hu, hb7'⟩; obtain ⟨a7, c7, g7, rfl, hr7, hg7'⟩ := hu.shape; have hb7 : Below ((w2.alloc (.cells #[.string o, .string f.t, .int .i64 f.k] 36)).alloc (.cells #[.slice none 0 0] 26)).heap.size ((w2.alloc (.cells #[.string o, .string f.t, .int .i64 f.k] 36)).alloc (.cells #[.slice none 0 0] 26)) w7 := hb6.trans (hb7'.mono hb6.size); have hO7 := HX6.out.2.later hb7; have o0 := hO7.cell; have o1 := hO7.fr)))
  have hg7 : ((w2.alloc (.cells #[.string o, .string f.t, .int .i64 f.k] 36)).alloc (.cells #[.slice none 0 0] 26)).heap.size ≤ g7 := Nat.le_trans hb6.size hg7'
  clear hb6 hb6' hb7' hu6 hr6 HR6 HK
  have hB7 := HX6.out.1.trans (hb7.mono HX6.out.1.size)
  have hlt6 : w2.heap.size + 1 < ((w2.alloc (.cells #[.string o, .string f.t, .int .i64 f.k] 36)).alloc (.cells #[.slice none 0 0] 26)).heap.size := HX6.out.2.lt
  have hB8 := hB7.setCell (p := ⟨w2.heap.size + 1, 0, none⟩) (Nat.le_succ_of_le hz2) (.slice a7 (F.put (F.wout L y) ⟨o, f.t, f.k⟩).length c7)
  have hO8 : BD (w7.setCell ⟨w2.heap.size + 1, 0, none⟩ (.slice a7 (F.put (F.wout L y) ⟨o, f.t, f.k⟩).length c7)) (w2.heap.size + 1) 26 (.slice a7 (F.put (F.wout L y) ⟨o, f.t, f.k⟩).length c7) := by
    unfold BD
    rw [heap_setCell_same w7 (w2.heap.size + 1) 0 _ _ _ hO7]
    rfl
  have o2 := hO8.cell
  have hr8 := hr7.grown (grown_set w7 (w2.heap.size + 1) 0 (.slice a7 (F.put (F.wout L y) ⟨o, f.t, f.k⟩).length c7)) (fun _ => by simp; omega)
  have hcD := sDiskOk_any _ g7 0 (F.put (F.wout L y) ⟨o, f.t, f.k⟩) _ hr8.1
  rw [hM] at hcD
  have HX8 : Hid (Below (((w.alloc (.cells #[.slice (some ⟨ga, oa, none⟩) n cap] 26)).alloc (.cells #[.int .i64 k, .string y, .string t, .string o] 45)).alloc (.cells #[.slice none 0 0] 26)).heap.size (((w.alloc (.cells #[.slice (some ⟨ga, oa, none⟩) n cap] 26)).alloc (.cells #[.int .i64 k, .string y, .string t, .string o] 45)).alloc (.cells #[.slice none 0 0] 26)) (w7.setCell ⟨w2.heap.size + 1, 0, none⟩ (.slice a7 (F.put (F.wout L y) ⟨o, f.t, f.k⟩).length c7)) ∧ BD (w7.setCell ⟨w2.heap.size + 1, 0, none⟩ (.slice a7 (F.put (F.wout L y) ⟨o, f.t, f.k⟩).length c7)) (w2.heap.size + 1) 26 (.slice a7 (F.put (F.wout L y) ⟨o, f.t, f.k⟩).length c7) ∧ RW 3 fcs (w7.setCell ⟨w2.heap.size + 1, 0, none⟩ (.slice a7 (F.put (F.wout L y) ⟨o, f.t, f.k⟩).length c7)) (.slice a7 (F.put (F.wout L y) ⟨o, f.t, f.k⟩).length c7) g7 (F.put (F.wout L y) ⟨o, f.t, f.k⟩) ∧ w2.heap.size + 1 < g7) := ⟨hB8, hO8, hr8, by omega⟩
  clear hB7 hO7 hB8 hO8 hr8 hr7 hu hb7 HX6
  go_wp2_with fail
  refine hcD.mono ?_
  rintro e w9 ⟨rfl, hb9⟩
  have hB9 := HX8.out.1.trans (hb9.mono HX8.out.1.size)
  have hO9 := HX8.out.2.1.later hb9
  have p0 := hO9.cell
  have hr9 := HX8.out.2.2.1.later hb9
  have hg9 := HX8.out.2.2.2
  have hbd := (HG.out _ hB9).2.1
  have t0 := hbd.cell
  have g0 := hbd.fr
  have HF : Hid ((w9.setCell ⟨w.heap.size + 1 + 1, 0, none⟩ (.slice a7 (F.put (F.wout L y) ⟨o, f.t, f.k⟩).length c7)).rangeAt (w.heap.size + 1 + 1) 0 [.slice a7 (F.put (F.wout L y) ⟨o, f.t, f.k⟩).length c7] ∧ RW 3 fcs (w9.setCell ⟨w.heap.size + 1 + 1, 0, none⟩ (.slice a7 (F.put (F.wout L y) ⟨o, f.t, f.k⟩).length c7)) (.slice a7 (F.put (F.wout L y) ⟨o, f.t, f.k⟩).length c7) g7 (F.put (F.wout L y) ⟨o, f.t, f.k⟩) ∧ Below w.heap.size w (w9.setCell ⟨w.heap.size + 1 + 1, 0, none⟩ (.slice a7 (F.put (F.wout L y) ⟨o, f.t, f.k⟩).length c7)) ∧ w.heap.size ≤ g7) := by
    have hq := HB0.out.2
    exact ⟨range1 (set_here t0 g0 _), hr9.grown (grown_set w9 _ _ _) (fun _ => by simp; omega), (HB0.out.1.trans (hB9.mono (Nat.le_trans (by omega) HB0.out.2))).setCell (p := ⟨w.heap.size + 1 + 1, 0, none⟩) (by simp; omega) _, by omega⟩
  clear hbd hB9 hO9 hr9 hg9 hb9 hcD HX8 HG
  go_wp2
  refine ret_rec2 4 5 (w.heap.size + 1 + 1) 26 [_] _ _ rfl rfl rfl rfl Try.underlying26 rfl sizeDisk HF.out.1 ?_
  exact ⟨_, rfl, ⟨_, g7, rfl, HF.out.2.1, HF.out.2.2.2⟩, HF.out.2.2.1⟩

end Go.Proofs.Ytbmlphlknolieaa
