/-
  An act on a disk, as the specification does it.
-/
import Derived.Test.YtbmlphlknolieaaDa
import Derived.Test.YtbmlphlknolieaaPu
namespace Go.Proofs.Ytbmlphlknolieaa
open Go.RowKit Go.BigFrame Go.Sort Go.Maps
set_option linter.unusedVariables false
set_option linter.unusedSimpArgs false

/-- block g is a file -/
def BF (w : World) (g : Nat) (f : Fl) : Prop := w.heap[g]? = some (.cells #[.string f.n, .string f.t, .int .i64 f.k] 36 (0, 0))
theorem BF.cells {w : World} {g : Nat} {f : Fl} (h : BF w g f) : w.cell? ⟨g, 0, none⟩ = some (.string f.n) ∧ w.cell? ⟨g, 1, none⟩ = some (.string f.t) ∧ w.cell? ⟨g, 2, none⟩ = some (.int .i64 f.k) :=
  ⟨by rw [cell_of_row _ _ 0 _ _ _ h]; rfl, by rw [cell_of_row _ _ 1 _ _ _ h]; rfl, by rw [cell_of_row _ _ 2 _ _ _ h]; rfl⟩
theorem BF.fr {w : World} {g : Nat} {f : Fl} (h : BF w g f) (j : Nat) : w.frozen? ⟨g, j, none⟩ = false := by simp [World.frozen?, show w.heap[g]? = some (.cells #[.string f.n, .string f.t, .int .i64 f.k] 36 (0, 0)) from h]
theorem BF.set0 {w : World} {g : Nat} {f : Fl} (h : BF w g f) (x : ByteArray) : BF (w.setCell ⟨g, 0, none⟩ (.string x)) g ⟨x, f.t, f.k⟩ := by
  unfold BF at *; rw [heap_setCell_same w g 0 _ _ _ h]; rfl
theorem BF.set1 {w : World} {g : Nat} {f : Fl} (h : BF w g f) (x : ByteArray) : BF (w.setCell ⟨g, 1, none⟩ (.string x)) g ⟨f.n, x, f.k⟩ := by
  unfold BF at *; rw [heap_setCell_same w g 1 _ _ _ h]; rfl
theorem BF.set2 {w : World} {g : Nat} {f : Fl} (h : BF w g f) (x : Int) : BF (w.setCell ⟨g, 2, none⟩ (.int .i64 x)) g ⟨f.n, f.t, x⟩ := by
  unfold BF at *; rw [heap_setCell_same w g 2 _ _ _ h]; rfl
theorem BF.lt {w : World} {g : Nat} {f : Fl} (h : BF w g f) : g < w.heap.size := (Array.getElem?_eq_some_iff.1 h).1
theorem nil_of {t : ByteArray} (h : t.size = 0) : t.toList = [] := by rw [F.toList_data, empty_of h]
theorem nil_of' {t : ByteArray} (h : t.size = 0) : (t.toList == []) = true ∧ t.toList.isEmpty = true := by rw [nil_of h]; exact ⟨rfl, rfl⟩
theorem BF.later {w w' : World} {g : Nat} {f : Fl} (h : BF w g f) (hb : Below w.heap.size w w') : BF w' g f := (hb.block g h.lt).trans h

set_option maxRecDepth 100000 in
set_option maxHeartbeats 4000000 in
theorem sDoAct_no1 (x : Option Addr) (n cap : Nat) (ga oa : Nat) (L : List Fl) (k : Int) (y t o : ByteArray) (w : World) (hn : L.length = n) (hv : RS 3 fcs w (.slice x n cap) ga oa L) (ha : SmallA ⟨k, y, t, o⟩) (hd : F.diskB L = false) :
    Calls Try.prog 34 #[.agg #[.slice x n cap], .agg #[.int .i64 k, .string y, .string t, .string o]] w fun e w' => ∃ u, e = .returned (.tuple #[u, .bool (F.actR L ⟨k, y, t, o⟩).isSome]) ∧ DkIn w' w.heap.size u ((F.actR L ⟨k, y, t, o⟩).getD []) ∧ Below w.heap.size w w' := by
  have hb0 : Below w.heap.size w (((w.alloc (.cells #[.slice x n cap] 26)).alloc (.cells #[.int .i64 k, .string y, .string t, .string o] 45)).alloc (.cells #[.slice none 0 0] 26)) := (((Below.refl _ _).alloc (Nat.le_refl _) _).alloc (by simp) _).alloc (by simp; omega) _
  have hs3 : (((w.alloc (.cells #[.slice x n cap] 26)).alloc (.cells #[.int .i64 k, .string y, .string t, .string o] 45)).alloc (.cells #[.slice none 0 0] 26)).heap.size = w.heap.size + 1 + 1 + 1 := by simp
  have hg0 : BD (((w.alloc (.cells #[.slice x n cap] 26)).alloc (.cells #[.int .i64 k, .string y, .string t, .string o] 45)).alloc (.cells #[.slice none 0 0] 26)) w.heap.size 26 (.slice x n cap) := (Below.heap_alloc _ _ w.heap.size (by simp; omega)).trans (alloc_snd _ _ _ rfl)
  have hg1 : (((w.alloc (.cells #[.slice x n cap] 26)).alloc (.cells #[.int .i64 k, .string y, .string t, .string o] 45)).alloc (.cells #[.slice none 0 0] 26)).heap[w.heap.size + 1]? = some (.cells #[.int .i64 k, .string y, .string t, .string o] 45 (0, 0)) := alloc_snd _ _ _ (by simp)
  have hg2 : (((w.alloc (.cells #[.slice x n cap] 26)).alloc (.cells #[.int .i64 k, .string y, .string t, .string o] 45)).alloc (.cells #[.slice none 0 0] 26)).heap[w.heap.size + 1 + 1]? = some (.cells #[.slice none 0 0] 26 (0, 0)) := alloc_fst _ _ (by simp)
  have hv3 := hv.later hb0
  have HG : Hid (∀ W, Below (((w.alloc (.cells #[.slice x n cap] 26)).alloc (.cells #[.int .i64 k, .string y, .string t, .string o] 45)).alloc (.cells #[.slice none 0 0] 26)).heap.size (((w.alloc (.cells #[.slice x n cap] 26)).alloc (.cells #[.int .i64 k, .string y, .string t, .string o] 45)).alloc (.cells #[.slice none 0 0] 26)) W → (W.cell? ⟨w.heap.size + 1, 0, none⟩ = some (.int .i64 k) ∧ W.cell? ⟨w.heap.size + 1, 1, none⟩ = some (.string y) ∧ W.cell? ⟨w.heap.size + 1, 2, none⟩ = some (.string t) ∧ W.cell? ⟨w.heap.size + 1, 3, none⟩ = some (.string o)) ∧ BD W (w.heap.size + 1 + 1) 26 (.slice none 0 0) ∧ BD W w.heap.size 26 (.slice x n cap) ∧ RS 3 fcs W (.slice x n cap) ga oa L) := fun W hW => by
    have h1 := (hW.block (w.heap.size + 1) (by rw [hs3]; omega)).trans hg1
    exact ⟨⟨by rw [cell_of_row _ _ 0 _ _ _ h1]; rfl, by rw [cell_of_row _ _ 1 _ _ _ h1]; rfl, by rw [cell_of_row _ _ 2 _ _ _ h1]; rfl, by rw [cell_of_row _ _ 3 _ _ _ h1]; rfl⟩, (hW.block (w.heap.size + 1 + 1) (by rw [hs3]; omega)).trans hg2, hg0.later hW, hv3.later hW⟩
  have HB0 : Hid (Below w.heap.size w (((w.alloc (.cells #[.slice x n cap] 26)).alloc (.cells #[.int .i64 k, .string y, .string t, .string o] 45)).alloc (.cells #[.slice none 0 0] 26)) ∧ w.heap.size + 1 + 1 + 1 ≤ (((w.alloc (.cells #[.slice x n cap] 26)).alloc (.cells #[.int .i64 k, .string y, .string t, .string o] 45)).alloc (.cells #[.slice none 0 0] 26)).heap.size) := ⟨hb0, by rw [hs3]; exact Nat.le_refl _⟩
  have HC := sDiskOk_any _ ga oa L _ hv3
  clear hg0 hg1 hg2 hs3 hb0 hv hv3
  rw [hd] at HC
  rw [F.actR_no _ hd]
  go_enter Try.func34, Try.ntmps34
  go_wp2_with fail
  refine HC.mono ?_
  rintro e w1 ⟨rfl, hb1⟩
  obtain ⟨⟨a0, a1, a2, a3⟩, hBD1, hD1, hR1⟩ := HG.out _ hb1
  have hbd := (HG.out _ hb1).2.1
  have t0 := hbd.cell
  have g0 := hbd.fr
  have HF : Hid ((w1.setCell ⟨w.heap.size + 1 + 1, 0, none⟩ (.slice none 0 0)).rangeAt (w.heap.size + 1 + 1) 0 [.slice none 0 0] ∧ Below w.heap.size w (w1.setCell ⟨w.heap.size + 1 + 1, 0, none⟩ (.slice none 0 0))) := ⟨range1 (set_here t0 g0 _), (HB0.out.1.trans ((hb1).mono (Nat.le_trans (by omega) HB0.out.2))).setCell (p := ⟨w.heap.size + 1 + 1, 0, none⟩) (by simp; omega) _⟩
  clear HC HG HB0 hbd hBD1 hD1 hR1
  go_wp2
  refine ret_rec2 4 5 (w.heap.size + 1 + 1) 26 [.slice none 0 0] _ _ rfl rfl rfl rfl Try.underlying26 rfl sizeDisk HF.out.1 ?_
  exact ⟨_, rfl, ⟨_, w.heap.size, rfl, RW.nil _ _, Nat.le_refl _⟩, HF.out.2⟩

set_option maxRecDepth 100000 in
set_option maxHeartbeats 4000000 in
theorem sDoAct_no2 (x : Option Addr) (n cap : Nat) (ga oa : Nat) (L : List Fl) (k : Int) (y t o : ByteArray) (w : World) (hn : L.length = n) (hv : RS 3 fcs w (.slice x n cap) ga oa L) (ha : SmallA ⟨k, y, t, o⟩) (hd : F.diskB L = true) (hy : F.nmB y = false) :
    Calls Try.prog 34 #[.agg #[.slice x n cap], .agg #[.int .i64 k, .string y, .string t, .string o]] w fun e w' => ∃ u, e = .returned (.tuple #[u, .bool (F.actR L ⟨k, y, t, o⟩).isSome]) ∧ DkIn w' w.heap.size u ((F.actR L ⟨k, y, t, o⟩).getD []) ∧ Below w.heap.size w w' := by
  have hb0 : Below w.heap.size w (((w.alloc (.cells #[.slice x n cap] 26)).alloc (.cells #[.int .i64 k, .string y, .string t, .string o] 45)).alloc (.cells #[.slice none 0 0] 26)) := (((Below.refl _ _).alloc (Nat.le_refl _) _).alloc (by simp) _).alloc (by simp; omega) _
  have hs3 : (((w.alloc (.cells #[.slice x n cap] 26)).alloc (.cells #[.int .i64 k, .string y, .string t, .string o] 45)).alloc (.cells #[.slice none 0 0] 26)).heap.size = w.heap.size + 1 + 1 + 1 := by simp
  have hg0 : BD (((w.alloc (.cells #[.slice x n cap] 26)).alloc (.cells #[.int .i64 k, .string y, .string t, .string o] 45)).alloc (.cells #[.slice none 0 0] 26)) w.heap.size 26 (.slice x n cap) := (Below.heap_alloc _ _ w.heap.size (by simp; omega)).trans (alloc_snd _ _ _ rfl)
  have hg1 : (((w.alloc (.cells #[.slice x n cap] 26)).alloc (.cells #[.int .i64 k, .string y, .string t, .string o] 45)).alloc (.cells #[.slice none 0 0] 26)).heap[w.heap.size + 1]? = some (.cells #[.int .i64 k, .string y, .string t, .string o] 45 (0, 0)) := alloc_snd _ _ _ (by simp)
  have hg2 : (((w.alloc (.cells #[.slice x n cap] 26)).alloc (.cells #[.int .i64 k, .string y, .string t, .string o] 45)).alloc (.cells #[.slice none 0 0] 26)).heap[w.heap.size + 1 + 1]? = some (.cells #[.slice none 0 0] 26 (0, 0)) := alloc_fst _ _ (by simp)
  have hv3 := hv.later hb0
  have HG : Hid (∀ W, Below (((w.alloc (.cells #[.slice x n cap] 26)).alloc (.cells #[.int .i64 k, .string y, .string t, .string o] 45)).alloc (.cells #[.slice none 0 0] 26)).heap.size (((w.alloc (.cells #[.slice x n cap] 26)).alloc (.cells #[.int .i64 k, .string y, .string t, .string o] 45)).alloc (.cells #[.slice none 0 0] 26)) W → (W.cell? ⟨w.heap.size + 1, 0, none⟩ = some (.int .i64 k) ∧ W.cell? ⟨w.heap.size + 1, 1, none⟩ = some (.string y) ∧ W.cell? ⟨w.heap.size + 1, 2, none⟩ = some (.string t) ∧ W.cell? ⟨w.heap.size + 1, 3, none⟩ = some (.string o)) ∧ BD W (w.heap.size + 1 + 1) 26 (.slice none 0 0) ∧ BD W w.heap.size 26 (.slice x n cap) ∧ RS 3 fcs W (.slice x n cap) ga oa L) := fun W hW => by
    have h1 := (hW.block (w.heap.size + 1) (by rw [hs3]; omega)).trans hg1
    exact ⟨⟨by rw [cell_of_row _ _ 0 _ _ _ h1]; rfl, by rw [cell_of_row _ _ 1 _ _ _ h1]; rfl, by rw [cell_of_row _ _ 2 _ _ _ h1]; rfl, by rw [cell_of_row _ _ 3 _ _ _ h1]; rfl⟩, (hW.block (w.heap.size + 1 + 1) (by rw [hs3]; omega)).trans hg2, hg0.later hW, hv3.later hW⟩
  have HB0 : Hid (Below w.heap.size w (((w.alloc (.cells #[.slice x n cap] 26)).alloc (.cells #[.int .i64 k, .string y, .string t, .string o] 45)).alloc (.cells #[.slice none 0 0] 26)) ∧ w.heap.size + 1 + 1 + 1 ≤ (((w.alloc (.cells #[.slice x n cap] 26)).alloc (.cells #[.int .i64 k, .string y, .string t, .string o] 45)).alloc (.cells #[.slice none 0 0] 26)).heap.size) := ⟨hb0, by rw [hs3]; exact Nat.le_refl _⟩
  have HC := sDiskOk_any _ ga oa L _ hv3
  clear hg0 hg1 hg2 hs3 hb0 hv hv3
  rw [hd] at HC
  rw [F.actR_yes _ hd, F.doL_name (F.diskB_iff.1 hd) hy]
  have hnm := fun W => l06Name_any y W
  rw [hy] at hnm
  go_enter Try.func34, Try.ntmps34
  go_wp2_with fail
  refine HC.mono ?_
  rintro e w1 ⟨rfl, hb1⟩
  obtain ⟨⟨a0, a1, a2, a3⟩, hBD1, hD1, hR1⟩ := HG.out _ hb1
  go_wp2_with fail
  refine (hnm w1).mono ?_
  rintro e w1 ⟨rfl, rfl⟩
  have hbd := (HG.out _ hb1).2.1
  have t0 := hbd.cell
  have g0 := hbd.fr
  have HF : Hid ((w1.setCell ⟨w.heap.size + 1 + 1, 0, none⟩ (.slice none 0 0)).rangeAt (w.heap.size + 1 + 1) 0 [.slice none 0 0] ∧ Below w.heap.size w (w1.setCell ⟨w.heap.size + 1 + 1, 0, none⟩ (.slice none 0 0))) := ⟨range1 (set_here t0 g0 _), (HB0.out.1.trans ((hb1).mono (Nat.le_trans (by omega) HB0.out.2))).setCell (p := ⟨w.heap.size + 1 + 1, 0, none⟩) (by simp; omega) _⟩
  clear HC HG HB0 hbd hBD1 hD1 hR1
  go_wp2
  refine ret_rec2 4 5 (w.heap.size + 1 + 1) 26 [.slice none 0 0] _ _ rfl rfl rfl rfl Try.underlying26 rfl sizeDisk HF.out.1 ?_
  exact ⟨_, rfl, ⟨_, w.heap.size, rfl, RW.nil _ _, Nat.le_refl _⟩, HF.out.2⟩

set_option maxRecDepth 100000 in
set_option maxHeartbeats 4000000 in
theorem sDoAct_no3 (x : Option Addr) (n cap : Nat) (ga oa : Nat) (L : List Fl) (k : Int) (y t o : ByteArray) (w : World) (hn : L.length = n) (hv : RS 3 fcs w (.slice x n cap) ga oa L) (ha : SmallA ⟨k, y, t, o⟩) (hd : F.diskB L = true) (hy : F.nmB y = true) (h3 : k ≠ 3) (ho : o.size ≠ 0) :
    Calls Try.prog 34 #[.agg #[.slice x n cap], .agg #[.int .i64 k, .string y, .string t, .string o]] w fun e w' => ∃ u, e = .returned (.tuple #[u, .bool (F.actR L ⟨k, y, t, o⟩).isSome]) ∧ DkIn w' w.heap.size u ((F.actR L ⟨k, y, t, o⟩).getD []) ∧ Below w.heap.size w w' := by
  have hb0 : Below w.heap.size w (((w.alloc (.cells #[.slice x n cap] 26)).alloc (.cells #[.int .i64 k, .string y, .string t, .string o] 45)).alloc (.cells #[.slice none 0 0] 26)) := (((Below.refl _ _).alloc (Nat.le_refl _) _).alloc (by simp) _).alloc (by simp; omega) _
  have hs3 : (((w.alloc (.cells #[.slice x n cap] 26)).alloc (.cells #[.int .i64 k, .string y, .string t, .string o] 45)).alloc (.cells #[.slice none 0 0] 26)).heap.size = w.heap.size + 1 + 1 + 1 := by simp
  have hg0 : BD (((w.alloc (.cells #[.slice x n cap] 26)).alloc (.cells #[.int .i64 k, .string y, .string t, .string o] 45)).alloc (.cells #[.slice none 0 0] 26)) w.heap.size 26 (.slice x n cap) := (Below.heap_alloc _ _ w.heap.size (by simp; omega)).trans (alloc_snd _ _ _ rfl)
  have hg1 : (((w.alloc (.cells #[.slice x n cap] 26)).alloc (.cells #[.int .i64 k, .string y, .string t, .string o] 45)).alloc (.cells #[.slice none 0 0] 26)).heap[w.heap.size + 1]? = some (.cells #[.int .i64 k, .string y, .string t, .string o] 45 (0, 0)) := alloc_snd _ _ _ (by simp)
  have hg2 : (((w.alloc (.cells #[.slice x n cap] 26)).alloc (.cells #[.int .i64 k, .string y, .string t, .string o] 45)).alloc (.cells #[.slice none 0 0] 26)).heap[w.heap.size + 1 + 1]? = some (.cells #[.slice none 0 0] 26 (0, 0)) := alloc_fst _ _ (by simp)
  have hv3 := hv.later hb0
  have HG : Hid (∀ W, Below (((w.alloc (.cells #[.slice x n cap] 26)).alloc (.cells #[.int .i64 k, .string y, .string t, .string o] 45)).alloc (.cells #[.slice none 0 0] 26)).heap.size (((w.alloc (.cells #[.slice x n cap] 26)).alloc (.cells #[.int .i64 k, .string y, .string t, .string o] 45)).alloc (.cells #[.slice none 0 0] 26)) W → (W.cell? ⟨w.heap.size + 1, 0, none⟩ = some (.int .i64 k) ∧ W.cell? ⟨w.heap.size + 1, 1, none⟩ = some (.string y) ∧ W.cell? ⟨w.heap.size + 1, 2, none⟩ = some (.string t) ∧ W.cell? ⟨w.heap.size + 1, 3, none⟩ = some (.string o)) ∧ BD W (w.heap.size + 1 + 1) 26 (.slice none 0 0) ∧ BD W w.heap.size 26 (.slice x n cap) ∧ RS 3 fcs W (.slice x n cap) ga oa L) := fun W hW => by
    have h1 := (hW.block (w.heap.size + 1) (by rw [hs3]; omega)).trans hg1
    exact ⟨⟨by rw [cell_of_row _ _ 0 _ _ _ h1]; rfl, by rw [cell_of_row _ _ 1 _ _ _ h1]; rfl, by rw [cell_of_row _ _ 2 _ _ _ h1]; rfl, by rw [cell_of_row _ _ 3 _ _ _ h1]; rfl⟩, (hW.block (w.heap.size + 1 + 1) (by rw [hs3]; omega)).trans hg2, hg0.later hW, hv3.later hW⟩
  have HB0 : Hid (Below w.heap.size w (((w.alloc (.cells #[.slice x n cap] 26)).alloc (.cells #[.int .i64 k, .string y, .string t, .string o] 45)).alloc (.cells #[.slice none 0 0] 26)) ∧ w.heap.size + 1 + 1 + 1 ≤ (((w.alloc (.cells #[.slice x n cap] 26)).alloc (.cells #[.int .i64 k, .string y, .string t, .string o] 45)).alloc (.cells #[.slice none 0 0] 26)).heap.size) := ⟨hb0, by rw [hs3]; exact Nat.le_refl _⟩
  have HC := sDiskOk_any _ ga oa L _ hv3
  clear hg0 hg1 hg2 hs3 hb0 hv hv3
  rw [hd] at HC
  have ek : F.doL L ⟨k, y, t, o⟩ = none := by unfold F.doL; exact if_pos (.inr ⟨h3, ho⟩)
  rw [F.actR_yes _ hd, ek]
  have hnm := fun W => l06Name_any y W
  rw [hy] at hnm
  have k3 : (k == 3) = false := by simpa using h3
  obtain ⟨n1, n2, n3⟩ := some_of ho
  clear ek
  go_enter Try.func34, Try.ntmps34
  go_wp2_with fail
  refine HC.mono ?_
  rintro e w1 ⟨rfl, hb1⟩
  obtain ⟨⟨a0, a1, a2, a3⟩, hBD1, hD1, hR1⟩ := HG.out _ hb1
  go_wp2_with fail
  refine (hnm w1).mono ?_
  rintro e w1 ⟨rfl, rfl⟩
  have hbd := (HG.out _ hb1).2.1
  have t0 := hbd.cell
  have g0 := hbd.fr
  have HF : Hid ((w1.setCell ⟨w.heap.size + 1 + 1, 0, none⟩ (.slice none 0 0)).rangeAt (w.heap.size + 1 + 1) 0 [.slice none 0 0] ∧ Below w.heap.size w (w1.setCell ⟨w.heap.size + 1 + 1, 0, none⟩ (.slice none 0 0))) := ⟨range1 (set_here t0 g0 _), (HB0.out.1.trans ((hb1).mono (Nat.le_trans (by omega) HB0.out.2))).setCell (p := ⟨w.heap.size + 1 + 1, 0, none⟩) (by simp; omega) _⟩
  clear HC HG HB0 hbd hBD1 hD1 hR1
  go_wp2
  refine ret_rec2 4 5 (w.heap.size + 1 + 1) 26 [.slice none 0 0] _ _ rfl rfl rfl rfl Try.underlying26 rfl sizeDisk HF.out.1 ?_
  exact ⟨_, rfl, ⟨_, w.heap.size, rfl, RW.nil _ _, Nat.le_refl _⟩, HF.out.2⟩

set_option maxRecDepth 100000 in
set_option maxHeartbeats 4000000 in
theorem sDoAct_no4 (x : Option Addr) (n cap : Nat) (ga oa : Nat) (L : List Fl) (k : Int) (y t o : ByteArray) (w : World) (hn : L.length = n) (hv : RS 3 fcs w (.slice x n cap) ga oa L) (ha : SmallA ⟨k, y, t, o⟩) (hd : F.diskB L = true) (hy : F.nmB y = true) (hok : k = 3 ∨ o.size = 0) (h1 : k ≠ 1) (ht : t.size ≠ 0) :
    Calls Try.prog 34 #[.agg #[.slice x n cap], .agg #[.int .i64 k, .string y, .string t, .string o]] w fun e w' => ∃ u, e = .returned (.tuple #[u, .bool (F.actR L ⟨k, y, t, o⟩).isSome]) ∧ DkIn w' w.heap.size u ((F.actR L ⟨k, y, t, o⟩).getD []) ∧ Below w.heap.size w w' := by
  have hb0 : Below w.heap.size w (((w.alloc (.cells #[.slice x n cap] 26)).alloc (.cells #[.int .i64 k, .string y, .string t, .string o] 45)).alloc (.cells #[.slice none 0 0] 26)) := (((Below.refl _ _).alloc (Nat.le_refl _) _).alloc (by simp) _).alloc (by simp; omega) _
  have hs3 : (((w.alloc (.cells #[.slice x n cap] 26)).alloc (.cells #[.int .i64 k, .string y, .string t, .string o] 45)).alloc (.cells #[.slice none 0 0] 26)).heap.size = w.heap.size + 1 + 1 + 1 := by simp
  have hg0 : BD (((w.alloc (.cells #[.slice x n cap] 26)).alloc (.cells #[.int .i64 k, .string y, .string t, .string o] 45)).alloc (.cells #[.slice none 0 0] 26)) w.heap.size 26 (.slice x n cap) := (Below.heap_alloc _ _ w.heap.size (by simp; omega)).trans (alloc_snd _ _ _ rfl)
  have hg1 : (((w.alloc (.cells #[.slice x n cap] 26)).alloc (.cells #[.int .i64 k, .string y, .string t, .string o] 45)).alloc (.cells #[.slice none 0 0] 26)).heap[w.heap.size + 1]? = some (.cells #[.int .i64 k, .string y, .string t, .string o] 45 (0, 0)) := alloc_snd _ _ _ (by simp)
  have hg2 : (((w.alloc (.cells #[.slice x n cap] 26)).alloc (.cells #[.int .i64 k, .string y, .string t, .string o] 45)).alloc (.cells #[.slice none 0 0] 26)).heap[w.heap.size + 1 + 1]? = some (.cells #[.slice none 0 0] 26 (0, 0)) := alloc_fst _ _ (by simp)
  have hv3 := hv.later hb0
  have HG : Hid (∀ W, Below (((w.alloc (.cells #[.slice x n cap] 26)).alloc (.cells #[.int .i64 k, .string y, .string t, .string o] 45)).alloc (.cells #[.slice none 0 0] 26)).heap.size (((w.alloc (.cells #[.slice x n cap] 26)).alloc (.cells #[.int .i64 k, .string y, .string t, .string o] 45)).alloc (.cells #[.slice none 0 0] 26)) W → (W.cell? ⟨w.heap.size + 1, 0, none⟩ = some (.int .i64 k) ∧ W.cell? ⟨w.heap.size + 1, 1, none⟩ = some (.string y) ∧ W.cell? ⟨w.heap.size + 1, 2, none⟩ = some (.string t) ∧ W.cell? ⟨w.heap.size + 1, 3, none⟩ = some (.string o)) ∧ BD W (w.heap.size + 1 + 1) 26 (.slice none 0 0) ∧ BD W w.heap.size 26 (.slice x n cap) ∧ RS 3 fcs W (.slice x n cap) ga oa L) := fun W hW => by
    have h1 := (hW.block (w.heap.size + 1) (by rw [hs3]; omega)).trans hg1
    exact ⟨⟨by rw [cell_of_row _ _ 0 _ _ _ h1]; rfl, by rw [cell_of_row _ _ 1 _ _ _ h1]; rfl, by rw [cell_of_row _ _ 2 _ _ _ h1]; rfl, by rw [cell_of_row _ _ 3 _ _ _ h1]; rfl⟩, (hW.block (w.heap.size + 1 + 1) (by rw [hs3]; omega)).trans hg2, hg0.later hW, hv3.later hW⟩
  have HB0 : Hid (Below w.heap.size w (((w.alloc (.cells #[.slice x n cap] 26)).alloc (.cells #[.int .i64 k, .string y, .string t, .string o] 45)).alloc (.cells #[.slice none 0 0] 26)) ∧ w.heap.size + 1 + 1 + 1 ≤ (((w.alloc (.cells #[.slice x n cap] 26)).alloc (.cells #[.int .i64 k, .string y, .string t, .string o] 45)).alloc (.cells #[.slice none 0 0] 26)).heap.size) := ⟨hb0, by rw [hs3]; exact Nat.le_refl _⟩
  have HC := sDiskOk_any _ ga oa L _ hv3
  clear hg0 hg1 hg2 hs3 hb0 hv hv3
  rw [hd] at HC
  have ek : F.doL L ⟨k, y, t, o⟩ = none := by unfold F.doL; exact if_pos (.inl ⟨h1, ht⟩)
  rw [F.actR_yes _ hd, ek]
  have hnm := fun W => l06Name_any y W
  rw [hy] at hnm
  have k1 : (k == 1) = false := by simpa using h1
  obtain ⟨n1, n2, n3⟩ := some_of ht
  clear ek
  rcases hok with rfl | h0
  · go_enter Try.func34, Try.ntmps34
    go_wp2_with fail
    refine HC.mono ?_
    rintro e w1 ⟨rfl, hb1⟩
    obtain ⟨⟨a0, a1, a2, a3⟩, hBD1, hD1, hR1⟩ := HG.out _ hb1
    go_wp2_with fail
    refine (hnm w1).mono ?_
    rintro e w1 ⟨rfl, rfl⟩
    have hbd := (HG.out _ hb1).2.1
    have t0 := hbd.cell
    have g0 := hbd.fr
    have HF : Hid ((w1.setCell ⟨w.heap.size + 1 + 1, 0, none⟩ (.slice none 0 0)).rangeAt (w.heap.size + 1 + 1) 0 [.slice none 0 0] ∧ Below w.heap.size w (w1.setCell ⟨w.heap.size + 1 + 1, 0, none⟩ (.slice none 0 0))) := ⟨range1 (set_here t0 g0 _), (HB0.out.1.trans ((hb1).mono (Nat.le_trans (by omega) HB0.out.2))).setCell (p := ⟨w.heap.size + 1 + 1, 0, none⟩) (by simp; omega) _⟩
    clear HC HG HB0 hbd hBD1 hD1 hR1
    go_wp2
    refine ret_rec2 4 5 (w.heap.size + 1 + 1) 26 [.slice none 0 0] _ _ rfl rfl rfl rfl Try.underlying26 rfl sizeDisk HF.out.1 ?_
    exact ⟨_, rfl, ⟨_, w.heap.size, rfl, RW.nil _ _, Nat.le_refl _⟩, HF.out.2⟩
  · obtain rfl := empty_of h0
    by_cases h3 : k = 3
    · subst h3
      go_enter Try.func34, Try.ntmps34
      go_wp2_with fail
      refine HC.mono ?_
      rintro e w1 ⟨rfl, hb1⟩
      obtain ⟨⟨a0, a1, a2, a3⟩, hBD1, hD1, hR1⟩ := HG.out _ hb1
      go_wp2_with fail
      refine (hnm w1).mono ?_
      rintro e w1 ⟨rfl, rfl⟩
      have hbd := (HG.out _ hb1).2.1
      have t0 := hbd.cell
      have g0 := hbd.fr
      have HF : Hid ((w1.setCell ⟨w.heap.size + 1 + 1, 0, none⟩ (.slice none 0 0)).rangeAt (w.heap.size + 1 + 1) 0 [.slice none 0 0] ∧ Below w.heap.size w (w1.setCell ⟨w.heap.size + 1 + 1, 0, none⟩ (.slice none 0 0))) := ⟨range1 (set_here t0 g0 _), (HB0.out.1.trans ((hb1).mono (Nat.le_trans (by omega) HB0.out.2))).setCell (p := ⟨w.heap.size + 1 + 1, 0, none⟩) (by simp; omega) _⟩
      clear HC HG HB0 hbd hBD1 hD1 hR1
      go_wp2
      refine ret_rec2 4 5 (w.heap.size + 1 + 1) 26 [.slice none 0 0] _ _ rfl rfl rfl rfl Try.underlying26 rfl sizeDisk HF.out.1 ?_
      exact ⟨_, rfl, ⟨_, w.heap.size, rfl, RW.nil _ _, Nat.le_refl _⟩, HF.out.2⟩
    · have k3 : (k == 3) = false := by simpa using h3
      go_enter Try.func34, Try.ntmps34
      go_wp2_with fail
      refine HC.mono ?_
      rintro e w1 ⟨rfl, hb1⟩
      obtain ⟨⟨a0, a1, a2, a3⟩, hBD1, hD1, hR1⟩ := HG.out _ hb1
      go_wp2_with fail
      refine (hnm w1).mono ?_
      rintro e w1 ⟨rfl, rfl⟩
      have hbd := (HG.out _ hb1).2.1
      have t0 := hbd.cell
      have g0 := hbd.fr
      have HF : Hid ((w1.setCell ⟨w.heap.size + 1 + 1, 0, none⟩ (.slice none 0 0)).rangeAt (w.heap.size + 1 + 1) 0 [.slice none 0 0] ∧ Below w.heap.size w (w1.setCell ⟨w.heap.size + 1 + 1, 0, none⟩ (.slice none 0 0))) := ⟨range1 (set_here t0 g0 _), (HB0.out.1.trans ((hb1).mono (Nat.le_trans (by omega) HB0.out.2))).setCell (p := ⟨w.heap.size + 1 + 1, 0, none⟩) (by simp; omega) _⟩
      clear HC HG HB0 hbd hBD1 hD1 hR1
      go_wp2
      refine ret_rec2 4 5 (w.heap.size + 1 + 1) 26 [.slice none 0 0] _ _ rfl rfl rfl rfl Try.underlying26 rfl sizeDisk HF.out.1 ?_
      exact ⟨_, rfl, ⟨_, w.heap.size, rfl, RW.nil _ _, Nat.le_refl _⟩, HF.out.2⟩

set_option maxRecDepth 100000 in
set_option maxHeartbeats 4000000 in
theorem sDoAct_none (x : Option Addr) (n cap : Nat) (ga oa : Nat) (L : List Fl) (k : Int) (y t o : ByteArray) (w : World) (hn : L.length = n) (hv : RS 3 fcs w (.slice x n cap) ga oa L) (ha : SmallA ⟨k, y, t, o⟩) (hd : F.diskB L = true) (hy : F.nmB y = true) (h1 : k ≠ 1) (hf : F.find L y = none) (ht : t.size = 0) (hok : k = 3 ∨ o.size = 0) :
    Calls Try.prog 34 #[.agg #[.slice x n cap], .agg #[.int .i64 k, .string y, .string t, .string o]] w fun e w' => ∃ u, e = .returned (.tuple #[u, .bool (F.actR L ⟨k, y, t, o⟩).isSome]) ∧ DkIn w' w.heap.size u ((F.actR L ⟨k, y, t, o⟩).getD []) ∧ Below w.heap.size w w' := by
  have hb0 : Below w.heap.size w (((w.alloc (.cells #[.slice x n cap] 26)).alloc (.cells #[.int .i64 k, .string y, .string t, .string o] 45)).alloc (.cells #[.slice none 0 0] 26)) := (((Below.refl _ _).alloc (Nat.le_refl _) _).alloc (by simp) _).alloc (by simp; omega) _
  have hs3 : (((w.alloc (.cells #[.slice x n cap] 26)).alloc (.cells #[.int .i64 k, .string y, .string t, .string o] 45)).alloc (.cells #[.slice none 0 0] 26)).heap.size = w.heap.size + 1 + 1 + 1 := by simp
  have hg0 : BD (((w.alloc (.cells #[.slice x n cap] 26)).alloc (.cells #[.int .i64 k, .string y, .string t, .string o] 45)).alloc (.cells #[.slice none 0 0] 26)) w.heap.size 26 (.slice x n cap) := (Below.heap_alloc _ _ w.heap.size (by simp; omega)).trans (alloc_snd _ _ _ rfl)
  have hg1 : (((w.alloc (.cells #[.slice x n cap] 26)).alloc (.cells #[.int .i64 k, .string y, .string t, .string o] 45)).alloc (.cells #[.slice none 0 0] 26)).heap[w.heap.size + 1]? = some (.cells #[.int .i64 k, .string y, .string t, .string o] 45 (0, 0)) := alloc_snd _ _ _ (by simp)
  have hg2 : (((w.alloc (.cells #[.slice x n cap] 26)).alloc (.cells #[.int .i64 k, .string y, .string t, .string o] 45)).alloc (.cells #[.slice none 0 0] 26)).heap[w.heap.size + 1 + 1]? = some (.cells #[.slice none 0 0] 26 (0, 0)) := alloc_fst _ _ (by simp)
  have hv3 := hv.later hb0
  have HG : Hid (∀ W, Below (((w.alloc (.cells #[.slice x n cap] 26)).alloc (.cells #[.int .i64 k, .string y, .string t, .string o] 45)).alloc (.cells #[.slice none 0 0] 26)).heap.size (((w.alloc (.cells #[.slice x n cap] 26)).alloc (.cells #[.int .i64 k, .string y, .string t, .string o] 45)).alloc (.cells #[.slice none 0 0] 26)) W → (W.cell? ⟨w.heap.size + 1, 0, none⟩ = some (.int .i64 k) ∧ W.cell? ⟨w.heap.size + 1, 1, none⟩ = some (.string y) ∧ W.cell? ⟨w.heap.size + 1, 2, none⟩ = some (.string t) ∧ W.cell? ⟨w.heap.size + 1, 3, none⟩ = some (.string o)) ∧ BD W (w.heap.size + 1 + 1) 26 (.slice none 0 0) ∧ BD W w.heap.size 26 (.slice x n cap) ∧ RS 3 fcs W (.slice x n cap) ga oa L) := fun W hW => by
    have h1 := (hW.block (w.heap.size + 1) (by rw [hs3]; omega)).trans hg1
    exact ⟨⟨by rw [cell_of_row _ _ 0 _ _ _ h1]; rfl, by rw [cell_of_row _ _ 1 _ _ _ h1]; rfl, by rw [cell_of_row _ _ 2 _ _ _ h1]; rfl, by rw [cell_of_row _ _ 3 _ _ _ h1]; rfl⟩, (hW.block (w.heap.size + 1 + 1) (by rw [hs3]; omega)).trans hg2, hg0.later hW, hv3.later hW⟩
  have HB0 : Hid (Below w.heap.size w (((w.alloc (.cells #[.slice x n cap] 26)).alloc (.cells #[.int .i64 k, .string y, .string t, .string o] 45)).alloc (.cells #[.slice none 0 0] 26)) ∧ w.heap.size + 1 + 1 + 1 ≤ (((w.alloc (.cells #[.slice x n cap] 26)).alloc (.cells #[.int .i64 k, .string y, .string t, .string o] 45)).alloc (.cells #[.slice none 0 0] 26)).heap.size) := ⟨hb0, by rw [hs3]; exact Nat.le_refl _⟩
  have HC := sDiskOk_any _ ga oa L _ hv3
  clear hg0 hg1 hg2 hs3 hb0 hv hv3
  have ek : F.doL L ⟨k, y, t, o⟩ = none := F.doL_none (a := ⟨k, y, t, o⟩) hf h1
  have k1 : (k == 1) = false := by simpa using h1
  have k1n : (k != 1) = true := by simpa using h1
  obtain ⟨te1, te2⟩ := nil_of' ht
  by_cases h3 : k = 3
  · have k3 : (k == 3) = true := by simpa using h3
    have k3n : (k != 3) = false := by simpa using h3
    clear h3 hok
    rw [hd] at HC
    rw [F.actR_yes _ hd, ek]
    have hnm := fun W => l06Name_any y W
    rw [hy] at hnm
    have HDK : Hid (F.DOk L) := F.diskB_iff.1 hd
    clear ek hd
    go_enter Try.func34, Try.ntmps34
    go_wp2_with fail
    refine HC.mono ?_
    rintro e w1 ⟨rfl, hb1⟩
    obtain ⟨⟨a0, a1, a2, a3⟩, hBD1, hD1, hR1⟩ := HG.out _ hb1
    go_wp2_with fail
    refine (hnm w1).mono ?_
    rintro e w1 ⟨rfl, rfl⟩
    have hz1 : (((w.alloc (.cells #[.slice x n cap] 26)).alloc (.cells #[.int .i64 k, .string y, .string t, .string o] 45)).alloc (.cells #[.slice none 0 0] 26)).heap.size ≤ w1.heap.size := hb1.size
    have HB1 : Hid (Below (((w.alloc (.cells #[.slice x n cap] 26)).alloc (.cells #[.int .i64 k, .string y, .string t, .string o] 45)).alloc (.cells #[.slice none 0 0] 26)).heap.size (((w.alloc (.cells #[.slice x n cap] 26)).alloc (.cells #[.int .i64 k, .string y, .string t, .string o] 45)).alloc (.cells #[.slice none 0 0] 26)) w1 ∧ RS 3 fcs w1 (.slice x n cap) ga oa L) := ⟨hb1, hR1⟩
    have d1 := hD1.cell
    clear hBD1 hD1 hR1 HC hb1
    go_wp2_with fail
    refine (l06At_any _ ga oa L y _ HB1.out.2).mono ?_
    rintro e w2 ⟨r, rfl, hr, hb2⟩
    obtain rfl : r = -1 := by
      rcases hr with ⟨h, _⟩ | ⟨m, h, _, h2⟩
      · exact h
      · rw [hf] at h2; cases h2
    have HB2 : Hid (Below (((w.alloc (.cells #[.slice x n cap] 26)).alloc (.cells #[.int .i64 k, .string y, .string t, .string o] 45)).alloc (.cells #[.slice none 0 0] 26)).heap.size (((w.alloc (.cells #[.slice x n cap] 26)).alloc (.cells #[.int .i64 k, .string y, .string t, .string o] 45)).alloc (.cells #[.slice none 0 0] 26)) w2) := HB1.out.1.trans (hb2.mono hz1)
    have hz2 : (((w.alloc (.cells #[.slice x n cap] 26)).alloc (.cells #[.int .i64 k, .string y, .string t, .string o] 45)).alloc (.cells #[.slice none 0 0] 26)).heap.size ≤ w2.heap.size := HB2.out.size
    obtain ⟨⟨a0, a1, a2, a3⟩, _, _, _⟩ := HG.out _ HB2.out
    have HB5 : Hid (Below (((w.alloc (.cells #[.slice x n cap] 26)).alloc (.cells #[.int .i64 k, .string y, .string t, .string o] 45)).alloc (.cells #[.slice none 0 0] 26)).heap.size (((w.alloc (.cells #[.slice x n cap] 26)).alloc (.cells #[.int .i64 k, .string y, .string t, .string o] 45)).alloc (.cells #[.slice none 0 0] 26)) ((w2.alloc (.cells #[.string y, .string ⟨#[]⟩, .int .i64 0] 36)).alloc (.cells #[.slice none 0 0] 26))) := (HB2.out.alloc hz2 _).alloc (Nat.le_trans hz2 (by simp)) _
    obtain ⟨⟨b0, b1, b2, b3⟩, _, _, _⟩ := HG.out _ HB5.out
    have hF5 : BF ((w2.alloc (.cells #[.string y, .string ⟨#[]⟩, .int .i64 0] 36)).alloc (.cells #[.slice none 0 0] 26)) w2.heap.size ⟨y, ⟨#[]⟩, 0⟩ := alloc_snd _ _ _ rfl
    have hO5 : BD ((w2.alloc (.cells #[.string y, .string ⟨#[]⟩, .int .i64 0] 36)).alloc (.cells #[.slice none 0 0] 26)) (w2.heap.size + 1) 26 (.slice none 0 0) := alloc_fst _ _ (by simp)
    have hbd := (HG.out _ HB5.out).2.1
    have t0 := hbd.cell
    have g0 := hbd.fr
    have HF : Hid ((((w2.alloc (.cells #[.string y, .string ⟨#[]⟩, .int .i64 0] 36)).alloc (.cells #[.slice none 0 0] 26)).setCell ⟨w.heap.size + 1 + 1, 0, none⟩ (.slice none 0 0)).rangeAt (w.heap.size + 1 + 1) 0 [.slice none 0 0] ∧ Below w.heap.size w (((w2.alloc (.cells #[.string y, .string ⟨#[]⟩, .int .i64 0] 36)).alloc (.cells #[.slice none 0 0] 26)).setCell ⟨w.heap.size + 1 + 1, 0, none⟩ (.slice none 0 0))) := ⟨range1 (set_here t0 g0 _), (HB0.out.1.trans ((HB5.out).mono (Nat.le_trans (by omega) HB0.out.2))).setCell (p := ⟨w.heap.size + 1 + 1, 0, none⟩) (by simp; omega) _⟩
    clear HB1 HB2 hr hb2 hF5 hO5 hbd
    go_wp2
    refine ret_rec2 4 5 (w.heap.size + 1 + 1) 26 [.slice none 0 0] _ _ rfl rfl rfl rfl Try.underlying26 rfl sizeDisk HF.out.1 ?_
    exact ⟨_, rfl, ⟨_, w.heap.size, rfl, RW.nil _ _, Nat.le_refl _⟩, HF.out.2⟩
  · have k3 : (k == 3) = false := by simpa using h3
    have k3n : (k != 3) = true := by simpa using h3
    obtain ⟨oe1, oe2⟩ := nil_of' (hok.resolve_left h3)
    clear h3 hok
    rw [hd] at HC
    rw [F.actR_yes _ hd, ek]
    have hnm := fun W => l06Name_any y W
    rw [hy] at hnm
    have HDK : Hid (F.DOk L) := F.diskB_iff.1 hd
    clear ek hd
    go_enter Try.func34, Try.ntmps34
    go_wp2_with fail
    refine HC.mono ?_
    rintro e w1 ⟨rfl, hb1⟩
    obtain ⟨⟨a0, a1, a2, a3⟩, hBD1, hD1, hR1⟩ := HG.out _ hb1
    go_wp2_with fail
    refine (hnm w1).mono ?_
    rintro e w1 ⟨rfl, rfl⟩
    have hz1 : (((w.alloc (.cells #[.slice x n cap] 26)).alloc (.cells #[.int .i64 k, .string y, .string t, .string o] 45)).alloc (.cells #[.slice none 0 0] 26)).heap.size ≤ w1.heap.size := hb1.size
    have HB1 : Hid (Below (((w.alloc (.cells #[.slice x n cap] 26)).alloc (.cells #[.int .i64 k, .string y, .string t, .string o] 45)).alloc (.cells #[.slice none 0 0] 26)).heap.size (((w.alloc (.cells #[.slice x n cap] 26)).alloc (.cells #[.int .i64 k, .string y, .string t, .string o] 45)).alloc (.cells #[.slice none 0 0] 26)) w1 ∧ RS 3 fcs w1 (.slice x n cap) ga oa L) := ⟨hb1, hR1⟩
    have d1 := hD1.cell
    clear hBD1 hD1 hR1 HC hb1
    go_wp2_with fail
    refine (l06At_any _ ga oa L y _ HB1.out.2).mono ?_
    rintro e w2 ⟨r, rfl, hr, hb2⟩
    obtain rfl : r = -1 := by
      rcases hr with ⟨h, _⟩ | ⟨m, h, _, h2⟩
      · exact h
      · rw [hf] at h2; cases h2
    have HB2 : Hid (Below (((w.alloc (.cells #[.slice x n cap] 26)).alloc (.cells #[.int .i64 k, .string y, .string t, .string o] 45)).alloc (.cells #[.slice none 0 0] 26)).heap.size (((w.alloc (.cells #[.slice x n cap] 26)).alloc (.cells #[.int .i64 k, .string y, .string t, .string o] 45)).alloc (.cells #[.slice none 0 0] 26)) w2) := HB1.out.1.trans (hb2.mono hz1)
    have hz2 : (((w.alloc (.cells #[.slice x n cap] 26)).alloc (.cells #[.int .i64 k, .string y, .string t, .string o] 45)).alloc (.cells #[.slice none 0 0] 26)).heap.size ≤ w2.heap.size := HB2.out.size
    obtain ⟨⟨a0, a1, a2, a3⟩, _, _, _⟩ := HG.out _ HB2.out
    have HB5 : Hid (Below (((w.alloc (.cells #[.slice x n cap] 26)).alloc (.cells #[.int .i64 k, .string y, .string t, .string o] 45)).alloc (.cells #[.slice none 0 0] 26)).heap.size (((w.alloc (.cells #[.slice x n cap] 26)).alloc (.cells #[.int .i64 k, .string y, .string t, .string o] 45)).alloc (.cells #[.slice none 0 0] 26)) ((w2.alloc (.cells #[.string y, .string ⟨#[]⟩, .int .i64 0] 36)).alloc (.cells #[.slice none 0 0] 26))) := (HB2.out.alloc hz2 _).alloc (Nat.le_trans hz2 (by simp)) _
    obtain ⟨⟨b0, b1, b2, b3⟩, _, _, _⟩ := HG.out _ HB5.out
    have hF5 : BF ((w2.alloc (.cells #[.string y, .string ⟨#[]⟩, .int .i64 0] 36)).alloc (.cells #[.slice none 0 0] 26)) w2.heap.size ⟨y, ⟨#[]⟩, 0⟩ := alloc_snd _ _ _ rfl
    have hO5 : BD ((w2.alloc (.cells #[.string y, .string ⟨#[]⟩, .int .i64 0] 36)).alloc (.cells #[.slice none 0 0] 26)) (w2.heap.size + 1) 26 (.slice none 0 0) := alloc_fst _ _ (by simp)
    have hbd := (HG.out _ HB5.out).2.1
    have t0 := hbd.cell
    have g0 := hbd.fr
    have HF : Hid ((((w2.alloc (.cells #[.string y, .string ⟨#[]⟩, .int .i64 0] 36)).alloc (.cells #[.slice none 0 0] 26)).setCell ⟨w.heap.size + 1 + 1, 0, none⟩ (.slice none 0 0)).rangeAt (w.heap.size + 1 + 1) 0 [.slice none 0 0] ∧ Below w.heap.size w (((w2.alloc (.cells #[.string y, .string ⟨#[]⟩, .int .i64 0] 36)).alloc (.cells #[.slice none 0 0] 26)).setCell ⟨w.heap.size + 1 + 1, 0, none⟩ (.slice none 0 0))) := ⟨range1 (set_here t0 g0 _), (HB0.out.1.trans ((HB5.out).mono (Nat.le_trans (by omega) HB0.out.2))).setCell (p := ⟨w.heap.size + 1 + 1, 0, none⟩) (by simp; omega) _⟩
    clear HB1 HB2 hr hb2 hF5 hO5 hbd
    go_wp2
    refine ret_rec2 4 5 (w.heap.size + 1 + 1) 26 [.slice none 0 0] _ _ rfl rfl rfl rfl Try.underlying26 rfl sizeDisk HF.out.1 ?_
    exact ⟨_, rfl, ⟨_, w.heap.size, rfl, RW.nil _ _, Nat.le_refl _⟩, HF.out.2⟩

set_option maxRecDepth 100000 in
set_option maxHeartbeats 4000000 in
theorem sDoAct_keep (n cap : Nat) (ga oa : Nat) (L : List Fl) (k : Int) (y t o : ByteArray) (w : World) (hn : L.length = n) (hv : RS 3 fcs w (.slice (some ⟨ga, oa, none⟩) n cap) ga oa L) (ha : SmallA ⟨k, y, t, o⟩) (f : Fl) (hd : F.diskB L = true) (hy : F.nmB y = true) (hk : k = 2) (hf : F.find L y = some f) (ht : t.size = 0) (ho : o.size = 0) :
    Calls Try.prog 34 #[.agg #[.slice (some ⟨ga, oa, none⟩) n cap], .agg #[.int .i64 k, .string y, .string t, .string o]] w fun e w' => ∃ u, e = .returned (.tuple #[u, .bool (F.actR L ⟨k, y, t, o⟩).isSome]) ∧ DkIn w' w.heap.size u ((F.actR L ⟨k, y, t, o⟩).getD []) ∧ Below w.heap.size w w' := by
  have hb0 : Below w.heap.size w (((w.alloc (.cells #[.slice (some ⟨ga, oa, none⟩) n cap] 26)).alloc (.cells #[.int .i64 k, .string y, .string t, .string o] 45)).alloc (.cells #[.slice none 0 0] 26)) := (((Below.refl _ _).alloc (Nat.le_refl _) _).alloc (by simp) _).alloc (by simp; omega) _
  have hs3 : (((w.alloc (.cells #[.slice (some ⟨ga, oa, none⟩) n cap] 26)).alloc (.cells #[.int .i64 k, .string y, .string t, .string o] 45)).alloc (.cells #[.slice none 0 0] 26)).heap.size = w.heap.size + 1 + 1 + 1 := by simp
  have hg0 : BD (((w.alloc (.cells #[.slice (some ⟨ga, oa, none⟩) n cap] 26)).alloc (.cells #[.int .i64 k, .string y, .string t, .string o] 45)).alloc (.cells #[.slice none 0 0] 26)) w.heap.size 26 (.slice (some ⟨ga, oa, none⟩) n cap) := (Below.heap_alloc _ _ w.heap.size (by simp; omega)).trans (alloc_snd _ _ _ rfl)
  have hg1 : (((w.alloc (.cells #[.slice (some ⟨ga, oa, none⟩) n cap] 26)).alloc (.cells #[.int .i64 k, .string y, .string t, .string o] 45)).alloc (.cells #[.slice none 0 0] 26)).heap[w.heap.size + 1]? = some (.cells #[.int .i64 k, .string y, .string t, .string o] 45 (0, 0)) := alloc_snd _ _ _ (by simp)
  have hg2 : (((w.alloc (.cells #[.slice (some ⟨ga, oa, none⟩) n cap] 26)).alloc (.cells #[.int .i64 k, .string y, .string t, .string o] 45)).alloc (.cells #[.slice none 0 0] 26)).heap[w.heap.size + 1 + 1]? = some (.cells #[.slice none 0 0] 26 (0, 0)) := alloc_fst _ _ (by simp)
  have hv3 := hv.later hb0
  have HG : Hid (∀ W, Below (((w.alloc (.cells #[.slice (some ⟨ga, oa, none⟩) n cap] 26)).alloc (.cells #[.int .i64 k, .string y, .string t, .string o] 45)).alloc (.cells #[.slice none 0 0] 26)).heap.size (((w.alloc (.cells #[.slice (some ⟨ga, oa, none⟩) n cap] 26)).alloc (.cells #[.int .i64 k, .string y, .string t, .string o] 45)).alloc (.cells #[.slice none 0 0] 26)) W → (W.cell? ⟨w.heap.size + 1, 0, none⟩ = some (.int .i64 k) ∧ W.cell? ⟨w.heap.size + 1, 1, none⟩ = some (.string y) ∧ W.cell? ⟨w.heap.size + 1, 2, none⟩ = some (.string t) ∧ W.cell? ⟨w.heap.size + 1, 3, none⟩ = some (.string o)) ∧ BD W (w.heap.size + 1 + 1) 26 (.slice none 0 0) ∧ BD W w.heap.size 26 (.slice (some ⟨ga, oa, none⟩) n cap) ∧ RS 3 fcs W (.slice (some ⟨ga, oa, none⟩) n cap) ga oa L) := fun W hW => by
    have h1 := (hW.block (w.heap.size + 1) (by rw [hs3]; omega)).trans hg1
    exact ⟨⟨by rw [cell_of_row _ _ 0 _ _ _ h1]; rfl, by rw [cell_of_row _ _ 1 _ _ _ h1]; rfl, by rw [cell_of_row _ _ 2 _ _ _ h1]; rfl, by rw [cell_of_row _ _ 3 _ _ _ h1]; rfl⟩, (hW.block (w.heap.size + 1 + 1) (by rw [hs3]; omega)).trans hg2, hg0.later hW, hv3.later hW⟩
  have HB0 : Hid (Below w.heap.size w (((w.alloc (.cells #[.slice (some ⟨ga, oa, none⟩) n cap] 26)).alloc (.cells #[.int .i64 k, .string y, .string t, .string o] 45)).alloc (.cells #[.slice none 0 0] 26)) ∧ w.heap.size + 1 + 1 + 1 ≤ (((w.alloc (.cells #[.slice (some ⟨ga, oa, none⟩) n cap] 26)).alloc (.cells #[.int .i64 k, .string y, .string t, .string o] 45)).alloc (.cells #[.slice none 0 0] 26)).heap.size) := ⟨hb0, by rw [hs3]; exact Nat.le_refl _⟩
  have HC := sDiskOk_any _ ga oa L _ hv3
  clear hg0 hg1 hg2 hs3 hb0 hv hv3
  obtain ⟨ek0, hM⟩ := F.spec_keep (F.diskB_iff.1 hd) hf
  have ek : F.doL L ⟨k, y, t, o⟩ = some (F.put L ⟨f.n, f.t, f.t.size⟩) := by
    rw [← ek0]
    unfold F.doL
    rw [if_neg (by rintro (⟨_, h⟩ | ⟨_, h⟩); exact h ht; exact h ho), if_neg (by simp [hk]), if_pos (by simp [hk])]
  obtain ⟨te1, te2⟩ := nil_of' ht
  obtain ⟨oe1, oe2⟩ := nil_of' ho
  have k1 : (k == 1) = false := by simp [hk]
  have k2 : (k == 2) = true := by simp [hk]
  have k3 : (k == 3) = false := by simp [hk]
  have k1n : (k != 1) = true := by simp [hk]
  have k3n : (k != 3) = true := by simp [hk]
  clear ek0 hk
  rw [hd] at HC
  rw [F.actR_yes _ hd, ek]
  have hnm := fun W => l06Name_any y W
  rw [hy] at hnm
  have HDK : Hid (F.DOk L) := F.diskB_iff.1 hd
  clear ek hd
  go_enter Try.func34, Try.ntmps34
  go_wp2_with fail
  refine HC.mono ?_
  rintro e w1 ⟨rfl, hb1⟩
  obtain ⟨⟨a0, a1, a2, a3⟩, hBD1, hD1, hR1⟩ := HG.out _ hb1
  go_wp2_with fail
  refine (hnm w1).mono ?_
  rintro e w1 ⟨rfl, rfl⟩
  have hz1 : (((w.alloc (.cells #[.slice (some ⟨ga, oa, none⟩) n cap] 26)).alloc (.cells #[.int .i64 k, .string y, .string t, .string o] 45)).alloc (.cells #[.slice none 0 0] 26)).heap.size ≤ w1.heap.size := hb1.size
  have HB1 : Hid (Below (((w.alloc (.cells #[.slice (some ⟨ga, oa, none⟩) n cap] 26)).alloc (.cells #[.int .i64 k, .string y, .string t, .string o] 45)).alloc (.cells #[.slice none 0 0] 26)).heap.size (((w.alloc (.cells #[.slice (some ⟨ga, oa, none⟩) n cap] 26)).alloc (.cells #[.int .i64 k, .string y, .string t, .string o] 45)).alloc (.cells #[.slice none 0 0] 26)) w1 ∧ RS 3 fcs w1 (.slice (some ⟨ga, oa, none⟩) n cap) ga oa L) := ⟨hb1, hR1⟩
  have d1 := hD1.cell
  clear hBD1 hD1 hR1 HC hb1
  go_wp2_with fail
  refine (l06At_any _ ga oa L y _ HB1.out.2).mono ?_
  rintro e w2 ⟨r, rfl, hr, hb2⟩
  obtain ⟨m, hm, rfl, hmX⟩ : ∃ (m : Nat) (h : m < L.length), r = (m : Int) ∧ L[m] = f := by
    rcases hr with ⟨_, h⟩ | ⟨m, h, h1, h2⟩
    · rw [hf] at h; cases h
    · rw [hf] at h2; exact ⟨m, h, h1, (Option.some.inj h2).symm⟩
  have HB2 : Hid (Below (((w.alloc (.cells #[.slice (some ⟨ga, oa, none⟩) n cap] 26)).alloc (.cells #[.int .i64 k, .string y, .string t, .string o] 45)).alloc (.cells #[.slice none 0 0] 26)).heap.size (((w.alloc (.cells #[.slice (some ⟨ga, oa, none⟩) n cap] 26)).alloc (.cells #[.int .i64 k, .string y, .string t, .string o] 45)).alloc (.cells #[.slice none 0 0] 26)) w2) := HB1.out.1.trans (hb2.mono hz1)
  have hz2 : (((w.alloc (.cells #[.slice (some ⟨ga, oa, none⟩) n cap] 26)).alloc (.cells #[.int .i64 k, .string y, .string t, .string o] 45)).alloc (.cells #[.slice none 0 0] 26)).heap.size ≤ w2.heap.size := HB2.out.size
  obtain ⟨⟨a0, a1, a2, a3⟩, _, hD2, hR2⟩ := HG.out _ HB2.out
  have hn2 : (m : Int) < (n : Int) := by omega
  have hn3 : (0 : Int) ≤ (m : Int) := by omega
  have hRa := hR2.alloc (.cells #[.string y, .string ⟨#[]⟩, .int .i64 0] 36)
  obtain ⟨e0, e1, e2⟩ := hRa.file m hm
  rw [hmX] at e0 e1 e2
  have d2 : (w2.alloc (.cells #[.string y, .string ⟨#[]⟩, .int .i64 0] 36)).cell? ⟨w.heap.size, 0, none⟩ = some (.slice (some ⟨ga, oa, none⟩) n cap) := (cell_kept (Below.heap_alloc _ _ w.heap.size hD2.lt)).trans hD2.cell
  have HB5 : Hid (Below (((w.alloc (.cells #[.slice (some ⟨ga, oa, none⟩) n cap] 26)).alloc (.cells #[.int .i64 k, .string y, .string t, .string o] 45)).alloc (.cells #[.slice none 0 0] 26)).heap.size (((w.alloc (.cells #[.slice (some ⟨ga, oa, none⟩) n cap] 26)).alloc (.cells #[.int .i64 k, .string y, .string t, .string o] 45)).alloc (.cells #[.slice none 0 0] 26)) ((w2.alloc (.cells #[.string f.n, .string f.t, .int .i64 f.k] 36)).alloc (.cells #[.slice none 0 0] 26))) := (HB2.out.alloc hz2 _).alloc (Nat.le_trans hz2 (by simp)) _
  obtain ⟨⟨b0, b1, b2, b3⟩, _, _, _⟩ := HG.out _ HB5.out
  have hF5 : BF ((w2.alloc (.cells #[.string f.n, .string f.t, .int .i64 f.k] 36)).alloc (.cells #[.slice none 0 0] 26)) w2.heap.size f := alloc_snd _ _ _ rfl
  have hO5 : BD ((w2.alloc (.cells #[.string f.n, .string f.t, .int .i64 f.k] 36)).alloc (.cells #[.slice none 0 0] 26)) (w2.heap.size + 1) 26 (.slice none 0 0) := alloc_fst _ _ (by simp)
  obtain ⟨f0, f1, f2⟩ := hF5.cells
  have r0 := hF5.fr 0
  have r1 := hF5.fr 1
  have r2 := hF5.fr 2
  have hF6 : BF ((w2.alloc (.cells #[.string f.n, .string f.t, .int .i64 (f.t.size : Int)] 36)).alloc (.cells #[.slice none 0 0] 26)) w2.heap.size ⟨f.n, f.t, (f.t.size : Int)⟩ := alloc_snd _ _ _ rfl
  obtain ⟨s0, s1, s2⟩ := hF6.cells
  have hB6 : Below (((w.alloc (.cells #[.slice (some ⟨ga, oa, none⟩) n cap] 26)).alloc (.cells #[.int .i64 k, .string y, .string t, .string o] 45)).alloc (.cells #[.slice none 0 0] 26)).heap.size (((w.alloc (.cells #[.slice (some ⟨ga, oa, none⟩) n cap] 26)).alloc (.cells #[.int .i64 k, .string y, .string t, .string o] 45)).alloc (.cells #[.slice none 0 0] 26)) ((w2.alloc (.cells #[.string f.n, .string f.t, .int .i64 (f.t.size : Int)] 36)).alloc (.cells #[.slice none 0 0] 26)) := (HB2.out.alloc hz2 _).alloc (Nat.le_trans hz2 (by simp)) _
  have hO6 : BD ((w2.alloc (.cells #[.string f.n, .string f.t, .int .i64 (f.t.size : Int)] 36)).alloc (.cells #[.slice none 0 0] 26)) (w2.heap.size + 1) 26 (.slice none 0 0) := alloc_fst _ _ (by simp)
  obtain ⟨⟨q0, q1, q2, q3⟩, _, hD6, hR6⟩ := HG.out _ hB6
  have dd6 := hD6.cell
  have HX6 : Hid (Below (((w.alloc (.cells #[.slice (some ⟨ga, oa, none⟩) n cap] 26)).alloc (.cells #[.int .i64 k, .string y, .string t, .string o] 45)).alloc (.cells #[.slice none 0 0] 26)).heap.size (((w.alloc (.cells #[.slice (some ⟨ga, oa, none⟩) n cap] 26)).alloc (.cells #[.int .i64 k, .string y, .string t, .string o] 45)).alloc (.cells #[.slice none 0 0] 26)) ((w2.alloc (.cells #[.string f.n, .string f.t, .int .i64 (f.t.size : Int)] 36)).alloc (.cells #[.slice none 0 0] 26)) ∧ BD ((w2.alloc (.cells #[.string f.n, .string f.t, .int .i64 (f.t.size : Int)] 36)).alloc (.cells #[.slice none 0 0] 26)) (w2.heap.size + 1) 26 (.slice none 0 0)) := ⟨hB6, hO6⟩
  have hll : L.length ≤ 100000 := by have := HDK.out.1; omega
  have hput := l06Put_any _ ga oa L ⟨f.n, f.t, (f.t.size : Int)⟩ _ hR6 hll
  clear hF5 hO5 hF6 hB6 hO6 hD6 hR6 HB1 HB2 hr hb2 HB5 hD2 hR2 hRa hmX
  go_wp2_with fail
  refine hput.mono ?_
  rintro e w7 ⟨u, rfl, hu, hb7⟩
  clear hput
  obtain ⟨a7, c7, g7, rfl, hr7, hg7⟩ := hu.shape
  have hB7 := HX6.out.1.trans (hb7.mono HX6.out.1.size)
  have hO7 := HX6.out.2.later hb7
  have hlt6 : w2.heap.size + 1 < ((w2.alloc (.cells #[.string f.n, .string f.t, .int .i64 (f.t.size : Int)] 36)).alloc (.cells #[.slice none 0 0] 26)).heap.size := HX6.out.2.lt
  have o0 := hO7.cell
  have o1 := hO7.fr
  have hB8 := hB7.setCell (p := ⟨w2.heap.size + 1, 0, none⟩) (Nat.le_succ_of_le hz2) (.slice a7 (F.put L ⟨f.n, f.t, (f.t.size : Int)⟩).length c7)
  have hO8 : BD (w7.setCell ⟨w2.heap.size + 1, 0, none⟩ (.slice a7 (F.put L ⟨f.n, f.t, (f.t.size : Int)⟩).length c7)) (w2.heap.size + 1) 26 (.slice a7 (F.put L ⟨f.n, f.t, (f.t.size : Int)⟩).length c7) := by
    unfold BD
    rw [heap_setCell_same w7 (w2.heap.size + 1) 0 _ _ _ hO7]
    rfl
  have o2 := hO8.cell
  have hr8 := hr7.grown (grown_set w7 (w2.heap.size + 1) 0 (.slice a7 (F.put L ⟨f.n, f.t, (f.t.size : Int)⟩).length c7)) (fun _ => by simp; omega)
  have hcD := sDiskOk_any _ g7 0 (F.put L ⟨f.n, f.t, (f.t.size : Int)⟩) _ hr8.1
  rw [hM] at hcD
  have HX8 : Hid (Below (((w.alloc (.cells #[.slice (some ⟨ga, oa, none⟩) n cap] 26)).alloc (.cells #[.int .i64 k, .string y, .string t, .string o] 45)).alloc (.cells #[.slice none 0 0] 26)).heap.size (((w.alloc (.cells #[.slice (some ⟨ga, oa, none⟩) n cap] 26)).alloc (.cells #[.int .i64 k, .string y, .string t, .string o] 45)).alloc (.cells #[.slice none 0 0] 26)) (w7.setCell ⟨w2.heap.size + 1, 0, none⟩ (.slice a7 (F.put L ⟨f.n, f.t, (f.t.size : Int)⟩).length c7)) ∧ BD (w7.setCell ⟨w2.heap.size + 1, 0, none⟩ (.slice a7 (F.put L ⟨f.n, f.t, (f.t.size : Int)⟩).length c7)) (w2.heap.size + 1) 26 (.slice a7 (F.put L ⟨f.n, f.t, (f.t.size : Int)⟩).length c7) ∧ RW 3 fcs (w7.setCell ⟨w2.heap.size + 1, 0, none⟩ (.slice a7 (F.put L ⟨f.n, f.t, (f.t.size : Int)⟩).length c7)) (.slice a7 (F.put L ⟨f.n, f.t, (f.t.size : Int)⟩).length c7) g7 (F.put L ⟨f.n, f.t, (f.t.size : Int)⟩) ∧ w2.heap.size + 1 < g7) := ⟨hB8, hO8, hr8, by omega⟩
  clear hB7 hO7 hB8 hO8 hr8 hr7 hu hb7 HX6
  go_wp2_with fail
  refine hcD.mono ?_
  rintro e w9 ⟨rfl, hb9⟩
  have hB9 := HX8.out.1.trans (hb9.mono HX8.out.1.size)
  have hO9 := HX8.out.2.1.later hb9
  have p0 := hO9.cell
  have hr9 := HX8.out.2.2.1.later hb9
  have hg9 := HX8.out.2.2.2
  have hbd := (HG.out _ hB9).2.1
  have t0 := hbd.cell
  have g0 := hbd.fr
  have HF : Hid ((w9.setCell ⟨w.heap.size + 1 + 1, 0, none⟩ (.slice a7 (F.put L ⟨f.n, f.t, (f.t.size : Int)⟩).length c7)).rangeAt (w.heap.size + 1 + 1) 0 [.slice a7 (F.put L ⟨f.n, f.t, (f.t.size : Int)⟩).length c7] ∧ RW 3 fcs (w9.setCell ⟨w.heap.size + 1 + 1, 0, none⟩ (.slice a7 (F.put L ⟨f.n, f.t, (f.t.size : Int)⟩).length c7)) (.slice a7 (F.put L ⟨f.n, f.t, (f.t.size : Int)⟩).length c7) g7 (F.put L ⟨f.n, f.t, (f.t.size : Int)⟩) ∧ Below w.heap.size w (w9.setCell ⟨w.heap.size + 1 + 1, 0, none⟩ (.slice a7 (F.put L ⟨f.n, f.t, (f.t.size : Int)⟩).length c7)) ∧ w.heap.size ≤ g7) := by
    have hq := HB0.out.2
    exact ⟨range1 (set_here t0 g0 _), hr9.grown (grown_set w9 _ _ _) (fun _ => by simp; omega), (HB0.out.1.trans (hB9.mono (Nat.le_trans (by omega) HB0.out.2))).setCell (p := ⟨w.heap.size + 1 + 1, 0, none⟩) (by simp; omega) _, by omega⟩
  clear hbd hB9 hO9 hr9 hg9 hb9 hcD HX8 HG
  go_wp2
  refine ret_rec2 4 5 (w.heap.size + 1 + 1) 26 [_] _ _ rfl rfl rfl rfl Try.underlying26 rfl sizeDisk HF.out.1 ?_
  exact ⟨_, rfl, ⟨_, g7, rfl, HF.out.2.1, HF.out.2.2.2⟩, HF.out.2.2.1⟩

set_option maxRecDepth 100000 in
set_option maxHeartbeats 4000000 in
theorem sDoAct_new1 (x : Option Addr) (n cap : Nat) (ga oa : Nat) (L : List Fl) (k : Int) (y t o : ByteArray) (w : World) (hn : L.length = n) (hv : RS 3 fcs w (.slice x n cap) ga oa L) (ha : SmallA ⟨k, y, t, o⟩) (hd : F.diskB L = true) (hy : F.nmB y = true) (hk : k = 1) (hf : F.find L y = none) (ho : o.size = 0) (hM : F.diskB (F.put L ⟨y, t, 0⟩) = true) :
    Calls Try.prog 34 #[.agg #[.slice x n cap], .agg #[.int .i64 k, .string y, .string t, .string o]] w fun e w' => ∃ u, e = .returned (.tuple #[u, .bool (F.actR L ⟨k, y, t, o⟩).isSome]) ∧ DkIn w' w.heap.size u ((F.actR L ⟨k, y, t, o⟩).getD []) ∧ Below w.heap.size w w' := by
  have hb0 : Below w.heap.size w (((w.alloc (.cells #[.slice x n cap] 26)).alloc (.cells #[.int .i64 k, .string y, .string t, .string o] 45)).alloc (.cells #[.slice none 0 0] 26)) := (((Below.refl _ _).alloc (Nat.le_refl _) _).alloc (by simp) _).alloc (by simp; omega) _
  have hs3 : (((w.alloc (.cells #[.slice x n cap] 26)).alloc (.cells #[.int .i64 k, .string y, .string t, .string o] 45)).alloc (.cells #[.slice none 0 0] 26)).heap.size = w.heap.size + 1 + 1 + 1 := by simp
  have hg0 : BD (((w.alloc (.cells #[.slice x n cap] 26)).alloc (.cells #[.int .i64 k, .string y, .string t, .string o] 45)).alloc (.cells #[.slice none 0 0] 26)) w.heap.size 26 (.slice x n cap) := (Below.heap_alloc _ _ w.heap.size (by simp; omega)).trans (alloc_snd _ _ _ rfl)
  have hg1 : (((w.alloc (.cells #[.slice x n cap] 26)).alloc (.cells #[.int .i64 k, .string y, .string t, .string o] 45)).alloc (.cells #[.slice none 0 0] 26)).heap[w.heap.size + 1]? = some (.cells #[.int .i64 k, .string y, .string t, .string o] 45 (0, 0)) := alloc_snd _ _ _ (by simp)
  have hg2 : (((w.alloc (.cells #[.slice x n cap] 26)).alloc (.cells #[.int .i64 k, .string y, .string t, .string o] 45)).alloc (.cells #[.slice none 0 0] 26)).heap[w.heap.size + 1 + 1]? = some (.cells #[.slice none 0 0] 26 (0, 0)) := alloc_fst _ _ (by simp)
  have hv3 := hv.later hb0
  have HG : Hid (∀ W, Below (((w.alloc (.cells #[.slice x n cap] 26)).alloc (.cells #[.int .i64 k, .string y, .string t, .string o] 45)).alloc (.cells #[.slice none 0 0] 26)).heap.size (((w.alloc (.cells #[.slice x n cap] 26)).alloc (.cells #[.int .i64 k, .string y, .string t, .string o] 45)).alloc (.cells #[.slice none 0 0] 26)) W → (W.cell? ⟨w.heap.size + 1, 0, none⟩ = some (.int .i64 k) ∧ W.cell? ⟨w.heap.size + 1, 1, none⟩ = some (.string y) ∧ W.cell? ⟨w.heap.size + 1, 2, none⟩ = some (.string t) ∧ W.cell? ⟨w.heap.size + 1, 3, none⟩ = some (.string o)) ∧ BD W (w.heap.size + 1 + 1) 26 (.slice none 0 0) ∧ BD W w.heap.size 26 (.slice x n cap) ∧ RS 3 fcs W (.slice x n cap) ga oa L) := fun W hW => by
    have h1 := (hW.block (w.heap.size + 1) (by rw [hs3]; omega)).trans hg1
    exact ⟨⟨by rw [cell_of_row _ _ 0 _ _ _ h1]; rfl, by rw [cell_of_row _ _ 1 _ _ _ h1]; rfl, by rw [cell_of_row _ _ 2 _ _ _ h1]; rfl, by rw [cell_of_row _ _ 3 _ _ _ h1]; rfl⟩, (hW.block (w.heap.size + 1 + 1) (by rw [hs3]; omega)).trans hg2, hg0.later hW, hv3.later hW⟩
  have HB0 : Hid (Below w.heap.size w (((w.alloc (.cells #[.slice x n cap] 26)).alloc (.cells #[.int .i64 k, .string y, .string t, .string o] 45)).alloc (.cells #[.slice none 0 0] 26)) ∧ w.heap.size + 1 + 1 + 1 ≤ (((w.alloc (.cells #[.slice x n cap] 26)).alloc (.cells #[.int .i64 k, .string y, .string t, .string o] 45)).alloc (.cells #[.slice none 0 0] 26)).heap.size) := ⟨hb0, by rw [hs3]; exact Nat.le_refl _⟩
  have HC := sDiskOk_any _ ga oa L _ hv3
  clear hg0 hg1 hg2 hs3 hb0 hv hv3
  have eapp : (⟨#[]⟩ : ByteArray) ++ t = t := ByteArray.ext (by simp)
  have ek0 := F.spec_new (t := t) (F.diskB_iff.1 hd) hy hf
  rw [hM] at ek0
  have ek : F.doL L ⟨k, y, t, o⟩ = some (F.put L ⟨y, t, 0⟩) := by
    rw [show some (F.put L ⟨y, t, 0⟩) = F.addL L y t by rw [ek0]; rfl]
    skip
    unfold F.doL
    rw [if_neg (by rintro (⟨h, _⟩ | ⟨_, h⟩); exact h hk; exact h ho), if_pos (by simp [hk])]
  obtain ⟨oe1, oe2⟩ := nil_of' ho
  have k1 : (k == 1) = true := by simp [hk]
  have k1n : (k != 1) = false := by simp [hk]
  have k3n : (k != 3) = true := by simp [hk]
  clear ek0 hk
  have q9 : ¬ 9223372036854775807 < t.size := by have := ha.2.1; simp only at this; omega
  rw [hd] at HC
  rw [F.actR_yes _ hd, ek]
  have hnm := fun W => l06Name_any y W
  rw [hy] at hnm
  have HDK : Hid (F.DOk L) := F.diskB_iff.1 hd
  clear ek hd
  go_enter Try.func34, Try.ntmps34
  go_wp2_with fail
  refine HC.mono ?_
  rintro e w1 ⟨rfl, hb1⟩
  obtain ⟨⟨a0, a1, a2, a3⟩, hBD1, hD1, hR1⟩ := HG.out _ hb1
  go_wp2_with fail
  refine (hnm w1).mono ?_
  rintro e w1 ⟨rfl, rfl⟩
  have hz1 : (((w.alloc (.cells #[.slice x n cap] 26)).alloc (.cells #[.int .i64 k, .string y, .string t, .string o] 45)).alloc (.cells #[.slice none 0 0] 26)).heap.size ≤ w1.heap.size := hb1.size
  have HB1 : Hid (Below (((w.alloc (.cells #[.slice x n cap] 26)).alloc (.cells #[.int .i64 k, .string y, .string t, .string o] 45)).alloc (.cells #[.slice none 0 0] 26)).heap.size (((w.alloc (.cells #[.slice x n cap] 26)).alloc (.cells #[.int .i64 k, .string y, .string t, .string o] 45)).alloc (.cells #[.slice none 0 0] 26)) w1 ∧ RS 3 fcs w1 (.slice x n cap) ga oa L) := ⟨hb1, hR1⟩
  have d1 := hD1.cell
  clear hBD1 hD1 hR1 HC hb1
  go_wp2_with fail
  refine (l06At_any _ ga oa L y _ HB1.out.2).mono ?_
  rintro e w2 ⟨r, rfl, hr, hb2⟩
  obtain rfl : r = -1 := by
    rcases hr with ⟨h, _⟩ | ⟨m, h, _, h2⟩
    · exact h
    · rw [hf] at h2; cases h2
  have HB2 : Hid (Below (((w.alloc (.cells #[.slice x n cap] 26)).alloc (.cells #[.int .i64 k, .string y, .string t, .string o] 45)).alloc (.cells #[.slice none 0 0] 26)).heap.size (((w.alloc (.cells #[.slice x n cap] 26)).alloc (.cells #[.int .i64 k, .string y, .string t, .string o] 45)).alloc (.cells #[.slice none 0 0] 26)) w2) := HB1.out.1.trans (hb2.mono hz1)
  have hz2 : (((w.alloc (.cells #[.slice x n cap] 26)).alloc (.cells #[.int .i64 k, .string y, .string t, .string o] 45)).alloc (.cells #[.slice none 0 0] 26)).heap.size ≤ w2.heap.size := HB2.out.size
  obtain ⟨⟨a0, a1, a2, a3⟩, _, _, _⟩ := HG.out _ HB2.out
  have HB5 : Hid (Below (((w.alloc (.cells #[.slice x n cap] 26)).alloc (.cells #[.int .i64 k, .string y, .string t, .string o] 45)).alloc (.cells #[.slice none 0 0] 26)).heap.size (((w.alloc (.cells #[.slice x n cap] 26)).alloc (.cells #[.int .i64 k, .string y, .string t, .string o] 45)).alloc (.cells #[.slice none 0 0] 26)) ((w2.alloc (.cells #[.string y, .string ⟨#[]⟩, .int .i64 0] 36)).alloc (.cells #[.slice none 0 0] 26))) := (HB2.out.alloc hz2 _).alloc (Nat.le_trans hz2 (by simp)) _
  obtain ⟨⟨b0, b1, b2, b3⟩, _, _, _⟩ := HG.out _ HB5.out
  have hF5 : BF ((w2.alloc (.cells #[.string y, .string ⟨#[]⟩, .int .i64 0] 36)).alloc (.cells #[.slice none 0 0] 26)) w2.heap.size ⟨y, ⟨#[]⟩, 0⟩ := alloc_snd _ _ _ rfl
  have hO5 : BD ((w2.alloc (.cells #[.string y, .string ⟨#[]⟩, .int .i64 0] 36)).alloc (.cells #[.slice none 0 0] 26)) (w2.heap.size + 1) 26 (.slice none 0 0) := alloc_fst _ _ (by simp)
  obtain ⟨f0, f1, f2⟩ := hF5.cells
  have r0 := hF5.fr 0
  have r1 := hF5.fr 1
  have r2 := hF5.fr 2
  have hF6 : BF ((w2.alloc (.cells #[.string y, .string t, .int .i64 0] 36)).alloc (.cells #[.slice none 0 0] 26)) w2.heap.size ⟨y, t, 0⟩ := alloc_snd _ _ _ rfl
  obtain ⟨s0, s1, s2⟩ := hF6.cells
  have hB6 : Below (((w.alloc (.cells #[.slice x n cap] 26)).alloc (.cells #[.int .i64 k, .string y, .string t, .string o] 45)).alloc (.cells #[.slice none 0 0] 26)).heap.size (((w.alloc (.cells #[.slice x n cap] 26)).alloc (.cells #[.int .i64 k, .string y, .string t, .string o] 45)).alloc (.cells #[.slice none 0 0] 26)) ((w2.alloc (.cells #[.string y, .string t, .int .i64 0] 36)).alloc (.cells #[.slice none 0 0] 26)) := (HB2.out.alloc hz2 _).alloc (Nat.le_trans hz2 (by simp)) _
  have hO6 : BD ((w2.alloc (.cells #[.string y, .string t, .int .i64 0] 36)).alloc (.cells #[.slice none 0 0] 26)) (w2.heap.size + 1) 26 (.slice none 0 0) := alloc_fst _ _ (by simp)
  obtain ⟨⟨q0, q1, q2, q3⟩, _, hD6, hR6⟩ := HG.out _ hB6
  have dd6 := hD6.cell
  have HX6 : Hid (Below (((w.alloc (.cells #[.slice x n cap] 26)).alloc (.cells #[.int .i64 k, .string y, .string t, .string o] 45)).alloc (.cells #[.slice none 0 0] 26)).heap.size (((w.alloc (.cells #[.slice x n cap] 26)).alloc (.cells #[.int .i64 k, .string y, .string t, .string o] 45)).alloc (.cells #[.slice none 0 0] 26)) ((w2.alloc (.cells #[.string y, .string t, .int .i64 0] 36)).alloc (.cells #[.slice none 0 0] 26)) ∧ BD ((w2.alloc (.cells #[.string y, .string t, .int .i64 0] 36)).alloc (.cells #[.slice none 0 0] 26)) (w2.heap.size + 1) 26 (.slice none 0 0)) := ⟨hB6, hO6⟩
  have hll : L.length ≤ 100000 := by have := HDK.out.1; omega
  have hput := l06Put_any _ ga oa L ⟨y, t, 0⟩ _ hR6 hll
  clear hF5 hO5 hF6 hB6 hO6 hD6 hR6 HB1 HB2 hr hb2 HB5
  go_wp2_with fail
  refine hput.mono ?_
  rintro e w7 ⟨u, rfl, hu, hb7⟩
  clear hput
  obtain ⟨a7, c7, g7, rfl, hr7, hg7⟩ := hu.shape
  have hB7 := HX6.out.1.trans (hb7.mono HX6.out.1.size)
  have hO7 := HX6.out.2.later hb7
  have hlt6 : w2.heap.size + 1 < ((w2.alloc (.cells #[.string y, .string t, .int .i64 0] 36)).alloc (.cells #[.slice none 0 0] 26)).heap.size := HX6.out.2.lt
  have o0 := hO7.cell
  have o1 := hO7.fr
  have hB8 := hB7.setCell (p := ⟨w2.heap.size + 1, 0, none⟩) (Nat.le_succ_of_le hz2) (.slice a7 (F.put L ⟨y, t, 0⟩).length c7)
  have hO8 : BD (w7.setCell ⟨w2.heap.size + 1, 0, none⟩ (.slice a7 (F.put L ⟨y, t, 0⟩).length c7)) (w2.heap.size + 1) 26 (.slice a7 (F.put L ⟨y, t, 0⟩).length c7) := by
    unfold BD
    rw [heap_setCell_same w7 (w2.heap.size + 1) 0 _ _ _ hO7]
    rfl
  have o2 := hO8.cell
  have hr8 := hr7.grown (grown_set w7 (w2.heap.size + 1) 0 (.slice a7 (F.put L ⟨y, t, 0⟩).length c7)) (fun _ => by simp; omega)
  have hcD := sDiskOk_any _ g7 0 (F.put L ⟨y, t, 0⟩) _ hr8.1
  rw [hM] at hcD
  have HX8 : Hid (Below (((w.alloc (.cells #[.slice x n cap] 26)).alloc (.cells #[.int .i64 k, .string y, .string t, .string o] 45)).alloc (.cells #[.slice none 0 0] 26)).heap.size (((w.alloc (.cells #[.slice x n cap] 26)).alloc (.cells #[.int .i64 k, .string y, .string t, .string o] 45)).alloc (.cells #[.slice none 0 0] 26)) (w7.setCell ⟨w2.heap.size + 1, 0, none⟩ (.slice a7 (F.put L ⟨y, t, 0⟩).length c7)) ∧ BD (w7.setCell ⟨w2.heap.size + 1, 0, none⟩ (.slice a7 (F.put L ⟨y, t, 0⟩).length c7)) (w2.heap.size + 1) 26 (.slice a7 (F.put L ⟨y, t, 0⟩).length c7) ∧ RW 3 fcs (w7.setCell ⟨w2.heap.size + 1, 0, none⟩ (.slice a7 (F.put L ⟨y, t, 0⟩).length c7)) (.slice a7 (F.put L ⟨y, t, 0⟩).length c7) g7 (F.put L ⟨y, t, 0⟩) ∧ w2.heap.size + 1 < g7) := ⟨hB8, hO8, hr8, by omega⟩
  clear hB7 hO7 hB8 hO8 hr8 hr7 hu hb7 HX6
  go_wp2_with fail
  refine hcD.mono ?_
  rintro e w9 ⟨rfl, hb9⟩
  have hB9 := HX8.out.1.trans (hb9.mono HX8.out.1.size)
  have hO9 := HX8.out.2.1.later hb9
  have p0 := hO9.cell
  have hr9 := HX8.out.2.2.1.later hb9
  have hg9 := HX8.out.2.2.2
  have hbd := (HG.out _ hB9).2.1
  have t0 := hbd.cell
  have g0 := hbd.fr
  have HF : Hid ((w9.setCell ⟨w.heap.size + 1 + 1, 0, none⟩ (.slice a7 (F.put L ⟨y, t, 0⟩).length c7)).rangeAt (w.heap.size + 1 + 1) 0 [.slice a7 (F.put L ⟨y, t, 0⟩).length c7] ∧ RW 3 fcs (w9.setCell ⟨w.heap.size + 1 + 1, 0, none⟩ (.slice a7 (F.put L ⟨y, t, 0⟩).length c7)) (.slice a7 (F.put L ⟨y, t, 0⟩).length c7) g7 (F.put L ⟨y, t, 0⟩) ∧ Below w.heap.size w (w9.setCell ⟨w.heap.size + 1 + 1, 0, none⟩ (.slice a7 (F.put L ⟨y, t, 0⟩).length c7)) ∧ w.heap.size ≤ g7) := by
    have hq := HB0.out.2
    exact ⟨range1 (set_here t0 g0 _), hr9.grown (grown_set w9 _ _ _) (fun _ => by simp; omega), (HB0.out.1.trans (hB9.mono (Nat.le_trans (by omega) HB0.out.2))).setCell (p := ⟨w.heap.size + 1 + 1, 0, none⟩) (by simp; omega) _, by omega⟩
  clear hbd hB9 hO9 hr9 hg9 hb9 hcD HX8 HG
  go_wp2
  refine ret_rec2 4 5 (w.heap.size + 1 + 1) 26 [_] _ _ rfl rfl rfl rfl Try.underlying26 rfl sizeDisk HF.out.1 ?_
  exact ⟨_, rfl, ⟨_, g7, rfl, HF.out.2.1, HF.out.2.2.2⟩, HF.out.2.2.1⟩

set_option maxRecDepth 100000 in
set_option maxHeartbeats 4000000 in
theorem sDoAct_new0 (x : Option Addr) (n cap : Nat) (ga oa : Nat) (L : List Fl) (k : Int) (y t o : ByteArray) (w : World) (hn : L.length = n) (hv : RS 3 fcs w (.slice x n cap) ga oa L) (ha : SmallA ⟨k, y, t, o⟩) (hd : F.diskB L = true) (hy : F.nmB y = true) (hk : k = 1) (hf : F.find L y = none) (ho : o.size = 0) (hM : F.diskB (F.put L ⟨y, t, 0⟩) = false) :
    Calls Try.prog 34 #[.agg #[.slice x n cap], .agg #[.int .i64 k, .string y, .string t, .string o]] w fun e w' => ∃ u, e = .returned (.tuple #[u, .bool (F.actR L ⟨k, y, t, o⟩).isSome]) ∧ DkIn w' w.heap.size u ((F.actR L ⟨k, y, t, o⟩).getD []) ∧ Below w.heap.size w w' := by
  have hb0 : Below w.heap.size w (((w.alloc (.cells #[.slice x n cap] 26)).alloc (.cells #[.int .i64 k, .string y, .string t, .string o] 45)).alloc (.cells #[.slice none 0 0] 26)) := (((Below.refl _ _).alloc (Nat.le_refl _) _).alloc (by simp) _).alloc (by simp; omega) _
  have hs3 : (((w.alloc (.cells #[.slice x n cap] 26)).alloc (.cells #[.int .i64 k, .string y, .string t, .string o] 45)).alloc (.cells #[.slice none 0 0] 26)).heap.size = w.heap.size + 1 + 1 + 1 := by simp
  have hg0 : BD (((w.alloc (.cells #[.slice x n cap] 26)).alloc (.cells #[.int .i64 k, .string y, .string t, .string o] 45)).alloc (.cells #[.slice none 0 0] 26)) w.heap.size 26 (.slice x n cap) := (Below.heap_alloc _ _ w.heap.size (by simp; omega)).trans (alloc_snd _ _ _ rfl)
  have hg1 : (((w.alloc (.cells #[.slice x n cap] 26)).alloc (.cells #[.int .i64 k, .string y, .string t, .string o] 45)).alloc (.cells #[.slice none 0 0] 26)).heap[w.heap.size + 1]? = some (.cells #[.int .i64 k, .string y, .string t, .string o] 45 (0, 0)) := alloc_snd _ _ _ (by simp)
  have hg2 : (((w.alloc (.cells #[.slice x n cap] 26)).alloc (.cells #[.int .i64 k, .string y, .string t, .string o] 45)).alloc (.cells #[.slice none 0 0] 26)).heap[w.heap.size + 1 + 1]? = some (.cells #[.slice none 0 0] 26 (0, 0)) := alloc_fst _ _ (by simp)
  have hv3 := hv.later hb0
  have HG : Hid (∀ W, Below (((w.alloc (.cells #[.slice x n cap] 26)).alloc (.cells #[.int .i64 k, .string y, .string t, .string o] 45)).alloc (.cells #[.slice none 0 0] 26)).heap.size (((w.alloc (.cells #[.slice x n cap] 26)).alloc (.cells #[.int .i64 k, .string y, .string t, .string o] 45)).alloc (.cells #[.slice none 0 0] 26)) W → (W.cell? ⟨w.heap.size + 1, 0, none⟩ = some (.int .i64 k) ∧ W.cell? ⟨w.heap.size + 1, 1, none⟩ = some (.string y) ∧ W.cell? ⟨w.heap.size + 1, 2, none⟩ = some (.string t) ∧ W.cell? ⟨w.heap.size + 1, 3, none⟩ = some (.string o)) ∧ BD W (w.heap.size + 1 + 1) 26 (.slice none 0 0) ∧ BD W w.heap.size 26 (.slice x n cap) ∧ RS 3 fcs W (.slice x n cap) ga oa L) := fun W hW => by
    have h1 := (hW.block (w.heap.size + 1) (by rw [hs3]; omega)).trans hg1
    exact ⟨⟨by rw [cell_of_row _ _ 0 _ _ _ h1]; rfl, by rw [cell_of_row _ _ 1 _ _ _ h1]; rfl, by rw [cell_of_row _ _ 2 _ _ _ h1]; rfl, by rw [cell_of_row _ _ 3 _ _ _ h1]; rfl⟩, (hW.block (w.heap.size + 1 + 1) (by rw [hs3]; omega)).trans hg2, hg0.later hW, hv3.later hW⟩
  have HB0 : Hid (Below w.heap.size w (((w.alloc (.cells #[.slice x n cap] 26)).alloc (.cells #[.int .i64 k, .string y, .string t, .string o] 45)).alloc (.cells #[.slice none 0 0] 26)) ∧ w.heap.size + 1 + 1 + 1 ≤ (((w.alloc (.cells #[.slice x n cap] 26)).alloc (.cells #[.int .i64 k, .string y, .string t, .string o] 45)).alloc (.cells #[.slice none 0 0] 26)).heap.size) := ⟨hb0, by rw [hs3]; exact Nat.le_refl _⟩
  have HC := sDiskOk_any _ ga oa L _ hv3
  clear hg0 hg1 hg2 hs3 hb0 hv hv3
  have eapp : (⟨#[]⟩ : ByteArray) ++ t = t := ByteArray.ext (by simp)
  have ek0 := F.spec_new (t := t) (F.diskB_iff.1 hd) hy hf
  rw [hM] at ek0
  have ek : F.doL L ⟨k, y, t, o⟩ = none := by
    rw [show none = F.addL L y t by rw [ek0]; rfl]
    skip
    unfold F.doL
    rw [if_neg (by rintro (⟨h, _⟩ | ⟨_, h⟩); exact h hk; exact h ho), if_pos (by simp [hk])]
  obtain ⟨oe1, oe2⟩ := nil_of' ho
  have k1 : (k == 1) = true := by simp [hk]
  have k1n : (k != 1) = false := by simp [hk]
  have k3n : (k != 3) = true := by simp [hk]
  clear ek0 hk
  have q9 : ¬ 9223372036854775807 < t.size := by have := ha.2.1; simp only at this; omega
  rw [hd] at HC
  rw [F.actR_yes _ hd, ek]
  have hnm := fun W => l06Name_any y W
  rw [hy] at hnm
  have HDK : Hid (F.DOk L) := F.diskB_iff.1 hd
  clear ek hd
  go_enter Try.func34, Try.ntmps34
  go_wp2_with fail
  refine HC.mono ?_
  rintro e w1 ⟨rfl, hb1⟩
  obtain ⟨⟨a0, a1, a2, a3⟩, hBD1, hD1, hR1⟩ := HG.out _ hb1
  go_wp2_with fail
  refine (hnm w1).mono ?_
  rintro e w1 ⟨rfl, rfl⟩
  have hz1 : (((w.alloc (.cells #[.slice x n cap] 26)).alloc (.cells #[.int .i64 k, .string y, .string t, .string o] 45)).alloc (.cells #[.slice none 0 0] 26)).heap.size ≤ w1.heap.size := hb1.size
  have HB1 : Hid (Below (((w.alloc (.cells #[.slice x n cap] 26)).alloc (.cells #[.int .i64 k, .string y, .string t, .string o] 45)).alloc (.cells #[.slice none 0 0] 26)).heap.size (((w.alloc (.cells #[.slice x n cap] 26)).alloc (.cells #[.int .i64 k, .string y, .string t, .string o] 45)).alloc (.cells #[.slice none 0 0] 26)) w1 ∧ RS 3 fcs w1 (.slice x n cap) ga oa L) := ⟨hb1, hR1⟩
  have d1 := hD1.cell
  clear hBD1 hD1 hR1 HC hb1
  go_wp2_with fail
  refine (l06At_any _ ga oa L y _ HB1.out.2).mono ?_
  rintro e w2 ⟨r, rfl, hr, hb2⟩
  obtain rfl : r = -1 := by
    rcases hr with ⟨h, _⟩ | ⟨m, h, _, h2⟩
    · exact h
    · rw [hf] at h2; cases h2
  have HB2 : Hid (Below (((w.alloc (.cells #[.slice x n cap] 26)).alloc (.cells #[.int .i64 k, .string y, .string t, .string o] 45)).alloc (.cells #[.slice none 0 0] 26)).heap.size (((w.alloc (.cells #[.slice x n cap] 26)).alloc (.cells #[.int .i64 k, .string y, .string t, .string o] 45)).alloc (.cells #[.slice none 0 0] 26)) w2) := HB1.out.1.trans (hb2.mono hz1)
  have hz2 : (((w.alloc (.cells #[.slice x n cap] 26)).alloc (.cells #[.int .i64 k, .string y, .string t, .string o] 45)).alloc (.cells #[.slice none 0 0] 26)).heap.size ≤ w2.heap.size := HB2.out.size
  obtain ⟨⟨a0, a1, a2, a3⟩, _, _, _⟩ := HG.out _ HB2.out
  have HB5 : Hid (Below (((w.alloc (.cells #[.slice x n cap] 26)).alloc (.cells #[.int .i64 k, .string y, .string t, .string o] 45)).alloc (.cells #[.slice none 0 0] 26)).heap.size (((w.alloc (.cells #[.slice x n cap] 26)).alloc (.cells #[.int .i64 k, .string y, .string t, .string o] 45)).alloc (.cells #[.slice none 0 0] 26)) ((w2.alloc (.cells #[.string y, .string ⟨#[]⟩, .int .i64 0] 36)).alloc (.cells #[.slice none 0 0] 26))) := (HB2.out.alloc hz2 _).alloc (Nat.le_trans hz2 (by simp)) _
  obtain ⟨⟨b0, b1, b2, b3⟩, _, _, _⟩ := HG.out _ HB5.out
  have hF5 : BF ((w2.alloc (.cells #[.string y, .string ⟨#[]⟩, .int .i64 0] 36)).alloc (.cells #[.slice none 0 0] 26)) w2.heap.size ⟨y, ⟨#[]⟩, 0⟩ := alloc_snd _ _ _ rfl
  have hO5 : BD ((w2.alloc (.cells #[.string y, .string ⟨#[]⟩, .int .i64 0] 36)).alloc (.cells #[.slice none 0 0] 26)) (w2.heap.size + 1) 26 (.slice none 0 0) := alloc_fst _ _ (by simp)
  obtain ⟨f0, f1, f2⟩ := hF5.cells
  have r0 := hF5.fr 0
  have r1 := hF5.fr 1
  have r2 := hF5.fr 2
  have hF6 : BF ((w2.alloc (.cells #[.string y, .string t, .int .i64 0] 36)).alloc (.cells #[.slice none 0 0] 26)) w2.heap.size ⟨y, t, 0⟩ := alloc_snd _ _ _ rfl
  obtain ⟨s0, s1, s2⟩ := hF6.cells
  have hB6 : Below (((w.alloc (.cells #[.slice x n cap] 26)).alloc (.cells #[.int .i64 k, .string y, .string t, .string o] 45)).alloc (.cells #[.slice none 0 0] 26)).heap.size (((w.alloc (.cells #[.slice x n cap] 26)).alloc (.cells #[.int .i64 k, .string y, .string t, .string o] 45)).alloc (.cells #[.slice none 0 0] 26)) ((w2.alloc (.cells #[.string y, .string t, .int .i64 0] 36)).alloc (.cells #[.slice none 0 0] 26)) := (HB2.out.alloc hz2 _).alloc (Nat.le_trans hz2 (by simp)) _
  have hO6 : BD ((w2.alloc (.cells #[.string y, .string t, .int .i64 0] 36)).alloc (.cells #[.slice none 0 0] 26)) (w2.heap.size + 1) 26 (.slice none 0 0) := alloc_fst _ _ (by simp)
  obtain ⟨⟨q0, q1, q2, q3⟩, _, hD6, hR6⟩ := HG.out _ hB6
  have dd6 := hD6.cell
  have HX6 : Hid (Below (((w.alloc (.cells #[.slice x n cap] 26)).alloc (.cells #[.int .i64 k, .string y, .string t, .string o] 45)).alloc (.cells #[.slice none 0 0] 26)).heap.size (((w.alloc (.cells #[.slice x n cap] 26)).alloc (.cells #[.int .i64 k, .string y, .string t, .string o] 45)).alloc (.cells #[.slice none 0 0] 26)) ((w2.alloc (.cells #[.string y, .string t, .int .i64 0] 36)).alloc (.cells #[.slice none 0 0] 26)) ∧ BD ((w2.alloc (.cells #[.string y, .string t, .int .i64 0] 36)).alloc (.cells #[.slice none 0 0] 26)) (w2.heap.size + 1) 26 (.slice none 0 0)) := ⟨hB6, hO6⟩
  have hll : L.length ≤ 100000 := by have := HDK.out.1; omega
  have hput := l06Put_any _ ga oa L ⟨y, t, 0⟩ _ hR6 hll
  clear hF5 hO5 hF6 hB6 hO6 hD6 hR6 HB1 HB2 hr hb2 HB5
  go_wp2_with fail
  refine hput.mono ?_
  rintro e w7 ⟨u, rfl, hu, hb7⟩
  clear hput
  obtain ⟨a7, c7, g7, rfl, hr7, hg7⟩ := hu.shape
  have hB7 := HX6.out.1.trans (hb7.mono HX6.out.1.size)
  have hO7 := HX6.out.2.later hb7
  have hlt6 : w2.heap.size + 1 < ((w2.alloc (.cells #[.string y, .string t, .int .i64 0] 36)).alloc (.cells #[.slice none 0 0] 26)).heap.size := HX6.out.2.lt
  have o0 := hO7.cell
  have o1 := hO7.fr
  have hB8 := hB7.setCell (p := ⟨w2.heap.size + 1, 0, none⟩) (Nat.le_succ_of_le hz2) (.slice a7 (F.put L ⟨y, t, 0⟩).length c7)
  have hO8 : BD (w7.setCell ⟨w2.heap.size + 1, 0, none⟩ (.slice a7 (F.put L ⟨y, t, 0⟩).length c7)) (w2.heap.size + 1) 26 (.slice a7 (F.put L ⟨y, t, 0⟩).length c7) := by
    unfold BD
    rw [heap_setCell_same w7 (w2.heap.size + 1) 0 _ _ _ hO7]
    rfl
  have o2 := hO8.cell
  have hr8 := hr7.grown (grown_set w7 (w2.heap.size + 1) 0 (.slice a7 (F.put L ⟨y, t, 0⟩).length c7)) (fun _ => by simp; omega)
  have hcD := sDiskOk_any _ g7 0 (F.put L ⟨y, t, 0⟩) _ hr8.1
  rw [hM] at hcD
  have HX8 : Hid (Below (((w.alloc (.cells #[.slice x n cap] 26)).alloc (.cells #[.int .i64 k, .string y, .string t, .string o] 45)).alloc (.cells #[.slice none 0 0] 26)).heap.size (((w.alloc (.cells #[.slice x n cap] 26)).alloc (.cells #[.int .i64 k, .string y, .string t, .string o] 45)).alloc (.cells #[.slice none 0 0] 26)) (w7.setCell ⟨w2.heap.size + 1, 0, none⟩ (.slice a7 (F.put L ⟨y, t, 0⟩).length c7)) ∧ BD (w7.setCell ⟨w2.heap.size + 1, 0, none⟩ (.slice a7 (F.put L ⟨y, t, 0⟩).length c7)) (w2.heap.size + 1) 26 (.slice a7 (F.put L ⟨y, t, 0⟩).length c7) ∧ RW 3 fcs (w7.setCell ⟨w2.heap.size + 1, 0, none⟩ (.slice a7 (F.put L ⟨y, t, 0⟩).length c7)) (.slice a7 (F.put L ⟨y, t, 0⟩).length c7) g7 (F.put L ⟨y, t, 0⟩) ∧ w2.heap.size + 1 < g7) := ⟨hB8, hO8, hr8, by omega⟩
  clear hB7 hO7 hB8 hO8 hr8 hr7 hu hb7 HX6
  go_wp2_with fail
  refine hcD.mono ?_
  rintro e w9 ⟨rfl, hb9⟩
  have hB9 := HX8.out.1.trans (hb9.mono HX8.out.1.size)
  have hO9 := HX8.out.2.1.later hb9
  have p0 := hO9.cell
  have hr9 := HX8.out.2.2.1.later hb9
  have hg9 := HX8.out.2.2.2
  have hbd := (HG.out _ hB9).2.1
  have t0 := hbd.cell
  have g0 := hbd.fr
  have HF : Hid ((w9.setCell ⟨w.heap.size + 1 + 1, 0, none⟩ (.slice none 0 0)).rangeAt (w.heap.size + 1 + 1) 0 [.slice none 0 0] ∧ Below w.heap.size w (w9.setCell ⟨w.heap.size + 1 + 1, 0, none⟩ (.slice none 0 0))) := ⟨range1 (set_here t0 g0 _), (HB0.out.1.trans ((hB9).mono (Nat.le_trans (by omega) HB0.out.2))).setCell (p := ⟨w.heap.size + 1 + 1, 0, none⟩) (by simp; omega) _⟩
  clear hbd hB9 hO9 hr9 hg9 hb9 hcD HX8 HG
  go_wp2
  refine ret_rec2 4 5 (w.heap.size + 1 + 1) 26 [.slice none 0 0] _ _ rfl rfl rfl rfl Try.underlying26 rfl sizeDisk HF.out.1 ?_
  exact ⟨_, rfl, ⟨_, w.heap.size, rfl, RW.nil _ _, Nat.le_refl _⟩, HF.out.2⟩

set_option maxRecDepth 100000 in
set_option maxHeartbeats 4000000 in
theorem sDoAct_more1 (n cap : Nat) (ga oa : Nat) (L : List Fl) (k : Int) (y t o : ByteArray) (w : World) (hn : L.length = n) (hv : RS 3 fcs w (.slice (some ⟨ga, oa, none⟩) n cap) ga oa L) (ha : SmallA ⟨k, y, t, o⟩) (f : Fl) (hd : F.diskB L = true) (hy : F.nmB y = true) (hk : k = 1) (hf : F.find L y = some f) (ho : o.size = 0) (hM : F.diskB (F.put L ⟨f.n, f.t ++ t, f.k⟩) = true) :
    Calls Try.prog 34 #[.agg #[.slice (some ⟨ga, oa, none⟩) n cap], .agg #[.int .i64 k, .string y, .string t, .string o]] w fun e w' => ∃ u, e = .returned (.tuple #[u, .bool (F.actR L ⟨k, y, t, o⟩).isSome]) ∧ DkIn w' w.heap.size u ((F.actR L ⟨k, y, t, o⟩).getD []) ∧ Below w.heap.size w w' := by
  have hb0 : Below w.heap.size w (((w.alloc (.cells #[.slice (some ⟨ga, oa, none⟩) n cap] 26)).alloc (.cells #[.int .i64 k, .string y, .string t, .string o] 45)).alloc (.cells #[.slice none 0 0] 26)) := (((Below.refl _ _).alloc (Nat.le_refl _) _).alloc (by simp) _).alloc (by simp; omega) _
  have hs3 : (((w.alloc (.cells #[.slice (some ⟨ga, oa, none⟩) n cap] 26)).alloc (.cells #[.int .i64 k, .string y, .string t, .string o] 45)).alloc (.cells #[.slice none 0 0] 26)).heap.size = w.heap.size + 1 + 1 + 1 := by simp
  have hg0 : BD (((w.alloc (.cells #[.slice (some ⟨ga, oa, none⟩) n cap] 26)).alloc (.cells #[.int .i64 k, .string y, .string t, .string o] 45)).alloc (.cells #[.slice none 0 0] 26)) w.heap.size 26 (.slice (some ⟨ga, oa, none⟩) n cap) := (Below.heap_alloc _ _ w.heap.size (by simp; omega)).trans (alloc_snd _ _ _ rfl)
  have hg1 : (((w.alloc (.cells #[.slice (some ⟨ga, oa, none⟩) n cap] 26)).alloc (.cells #[.int .i64 k, .string y, .string t, .string o] 45)).alloc (.cells #[.slice none 0 0] 26)).heap[w.heap.size + 1]? = some (.cells #[.int .i64 k, .string y, .string t, .string o] 45 (0, 0)) := alloc_snd _ _ _ (by simp)
  have hg2 : (((w.alloc (.cells #[.slice (some ⟨ga, oa, none⟩) n cap] 26)).alloc (.cells #[.int .i64 k, .string y, .string t, .string o] 45)).alloc (.cells #[.slice none 0 0] 26)).heap[w.heap.size + 1 + 1]? = some (.cells #[.slice none 0 0] 26 (0, 0)) := alloc_fst _ _ (by simp)
  have hv3 := hv.later hb0
  have HG : Hid (∀ W, Below (((w.alloc (.cells #[.slice (some ⟨ga, oa, none⟩) n cap] 26)).alloc (.cells #[.int .i64 k, .string y, .string t, .string o] 45)).alloc (.cells #[.slice none 0 0] 26)).heap.size (((w.alloc (.cells #[.slice (some ⟨ga, oa, none⟩) n cap] 26)).alloc (.cells #[.int .i64 k, .string y, .string t, .string o] 45)).alloc (.cells #[.slice none 0 0] 26)) W → (W.cell? ⟨w.heap.size + 1, 0, none⟩ = some (.int .i64 k) ∧ W.cell? ⟨w.heap.size + 1, 1, none⟩ = some (.string y) ∧ W.cell? ⟨w.heap.size + 1, 2, none⟩ = some (.string t) ∧ W.cell? ⟨w.heap.size + 1, 3, none⟩ = some (.string o)) ∧ BD W (w.heap.size + 1 + 1) 26 (.slice none 0 0) ∧ BD W w.heap.size 26 (.slice (some ⟨ga, oa, none⟩) n cap) ∧ RS 3 fcs W (.slice (some ⟨ga, oa, none⟩) n cap) ga oa L) := fun W hW => by
    have h1 := (hW.block (w.heap.size + 1) (by rw [hs3]; omega)).trans hg1
    exact ⟨⟨by rw [cell_of_row _ _ 0 _ _ _ h1]; rfl, by rw [cell_of_row _ _ 1 _ _ _ h1]; rfl, by rw [cell_of_row _ _ 2 _ _ _ h1]; rfl, by rw [cell_of_row _ _ 3 _ _ _ h1]; rfl⟩, (hW.block (w.heap.size + 1 + 1) (by rw [hs3]; omega)).trans hg2, hg0.later hW, hv3.later hW⟩
  have HB0 : Hid (Below w.heap.size w (((w.alloc (.cells #[.slice (some ⟨ga, oa, none⟩) n cap] 26)).alloc (.cells #[.int .i64 k, .string y, .string t, .string o] 45)).alloc (.cells #[.slice none 0 0] 26)) ∧ w.heap.size + 1 + 1 + 1 ≤ (((w.alloc (.cells #[.slice (some ⟨ga, oa, none⟩) n cap] 26)).alloc (.cells #[.int .i64 k, .string y, .string t, .string o] 45)).alloc (.cells #[.slice none 0 0] 26)).heap.size) := ⟨hb0, by rw [hs3]; exact Nat.le_refl _⟩
  have HC := sDiskOk_any _ ga oa L _ hv3
  clear hg0 hg1 hg2 hs3 hb0 hv hv3
  have ek0 := F.spec_more (t := t) (F.diskB_iff.1 hd) hf
  rw [hM] at ek0
  have ek : F.doL L ⟨k, y, t, o⟩ = some (F.put L ⟨f.n, f.t ++ t, f.k⟩) := by
    rw [show some (F.put L ⟨f.n, f.t ++ t, f.k⟩) = F.addL L y t by rw [ek0]; rfl]
    skip
    unfold F.doL
    rw [if_neg (by rintro (⟨h, _⟩ | ⟨_, h⟩); exact h hk; exact h ho), if_pos (by simp [hk])]
  obtain ⟨oe1, oe2⟩ := nil_of' ho
  have k1 : (k == 1) = true := by simp [hk]
  have k1n : (k != 1) = false := by simp [hk]
  have k3n : (k != 3) = true := by simp [hk]
  clear ek0 hk
  have hfl := F.flB_iff.1 ((F.diskB_iff.1 hd).2.1 f (F.find_some hf).1)
  have q9 : ¬ 9223372036854775807 < f.t.size + t.size := by have := ha.2.1; simp only at this; omega
  clear hfl
  rw [hd] at HC
  rw [F.actR_yes _ hd, ek]
  have hnm := fun W => l06Name_any y W
  rw [hy] at hnm
  have HDK : Hid (F.DOk L) := F.diskB_iff.1 hd
  clear ek hd
  go_enter Try.func34, Try.ntmps34
  go_wp2_with fail
  refine HC.mono ?_
  rintro e w1 ⟨rfl, hb1⟩
  obtain ⟨⟨a0, a1, a2, a3⟩, hBD1, hD1, hR1⟩ := HG.out _ hb1
  go_wp2_with fail
  refine (hnm w1).mono ?_
  rintro e w1 ⟨rfl, rfl⟩
  have hz1 : (((w.alloc (.cells #[.slice (some ⟨ga, oa, none⟩) n cap] 26)).alloc (.cells #[.int .i64 k, .string y, .string t, .string o] 45)).alloc (.cells #[.slice none 0 0] 26)).heap.size ≤ w1.heap.size := hb1.size
  have HB1 : Hid (Below (((w.alloc (.cells #[.slice (some ⟨ga, oa, none⟩) n cap] 26)).alloc (.cells #[.int .i64 k, .string y, .string t, .string o] 45)).alloc (.cells #[.slice none 0 0] 26)).heap.size (((w.alloc (.cells #[.slice (some ⟨ga, oa, none⟩) n cap] 26)).alloc (.cells #[.int .i64 k, .string y, .string t, .string o] 45)).alloc (.cells #[.slice none 0 0] 26)) w1 ∧ RS 3 fcs w1 (.slice (some ⟨ga, oa, none⟩) n cap) ga oa L) := ⟨hb1, hR1⟩
  have d1 := hD1.cell
  clear hBD1 hD1 hR1 HC hb1
  go_wp2_with fail
  refine (l06At_any _ ga oa L y _ HB1.out.2).mono ?_
  rintro e w2 ⟨r, rfl, hr, hb2⟩
  obtain ⟨m, hm, rfl, hmX⟩ : ∃ (m : Nat) (h : m < L.length), r = (m : Int) ∧ L[m] = f := by
    rcases hr with ⟨_, h⟩ | ⟨m, h, h1, h2⟩
    · rw [hf] at h; cases h
    · rw [hf] at h2; exact ⟨m, h, h1, (Option.some.inj h2).symm⟩
  have HB2 : Hid (Below (((w.alloc (.cells #[.slice (some ⟨ga, oa, none⟩) n cap] 26)).alloc (.cells #[.int .i64 k, .string y, .string t, .string o] 45)).alloc (.cells #[.slice none 0 0] 26)).heap.size (((w.alloc (.cells #[.slice (some ⟨ga, oa, none⟩) n cap] 26)).alloc (.cells #[.int .i64 k, .string y, .string t, .string o] 45)).alloc (.cells #[.slice none 0 0] 26)) w2) := HB1.out.1.trans (hb2.mono hz1)
  have hz2 : (((w.alloc (.cells #[.slice (some ⟨ga, oa, none⟩) n cap] 26)).alloc (.cells #[.int .i64 k, .string y, .string t, .string o] 45)).alloc (.cells #[.slice none 0 0] 26)).heap.size ≤ w2.heap.size := HB2.out.size
  obtain ⟨⟨a0, a1, a2, a3⟩, _, hD2, hR2⟩ := HG.out _ HB2.out
  have hn2 : (m : Int) < (n : Int) := by omega
  have hn3 : (0 : Int) ≤ (m : Int) := by omega
  have hRa := hR2.alloc (.cells #[.string y, .string ⟨#[]⟩, .int .i64 0] 36)
  obtain ⟨e0, e1, e2⟩ := hRa.file m hm
  rw [hmX] at e0 e1 e2
  have d2 : (w2.alloc (.cells #[.string y, .string ⟨#[]⟩, .int .i64 0] 36)).cell? ⟨w.heap.size, 0, none⟩ = some (.slice (some ⟨ga, oa, none⟩) n cap) := (cell_kept (Below.heap_alloc _ _ w.heap.size hD2.lt)).trans hD2.cell
  have HB5 : Hid (Below (((w.alloc (.cells #[.slice (some ⟨ga, oa, none⟩) n cap] 26)).alloc (.cells #[.int .i64 k, .string y, .string t, .string o] 45)).alloc (.cells #[.slice none 0 0] 26)).heap.size (((w.alloc (.cells #[.slice (some ⟨ga, oa, none⟩) n cap] 26)).alloc (.cells #[.int .i64 k, .string y, .string t, .string o] 45)).alloc (.cells #[.slice none 0 0] 26)) ((w2.alloc (.cells #[.string f.n, .string f.t, .int .i64 f.k] 36)).alloc (.cells #[.slice none 0 0] 26))) := (HB2.out.alloc hz2 _).alloc (Nat.le_trans hz2 (by simp)) _
  obtain ⟨⟨b0, b1, b2, b3⟩, _, _, _⟩ := HG.out _ HB5.out
  have hF5 : BF ((w2.alloc (.cells #[.string f.n, .string f.t, .int .i64 f.k] 36)).alloc (.cells #[.slice none 0 0] 26)) w2.heap.size f := alloc_snd _ _ _ rfl
  have hO5 : BD ((w2.alloc (.cells #[.string f.n, .string f.t, .int .i64 f.k] 36)).alloc (.cells #[.slice none 0 0] 26)) (w2.heap.size + 1) 26 (.slice none 0 0) := alloc_fst _ _ (by simp)
  obtain ⟨f0, f1, f2⟩ := hF5.cells
  have r0 := hF5.fr 0
  have r1 := hF5.fr 1
  have r2 := hF5.fr 2
  have hF6 : BF ((w2.alloc (.cells #[.string f.n, .string (f.t ++ t), .int .i64 f.k] 36)).alloc (.cells #[.slice none 0 0] 26)) w2.heap.size ⟨f.n, f.t ++ t, f.k⟩ := alloc_snd _ _ _ rfl
  obtain ⟨s0, s1, s2⟩ := hF6.cells
  have hB6 : Below (((w.alloc (.cells #[.slice (some ⟨ga, oa, none⟩) n cap] 26)).alloc (.cells #[.int .i64 k, .string y, .string t, .string o] 45)).alloc (.cells #[.slice none 0 0] 26)).heap.size (((w.alloc (.cells #[.slice (some ⟨ga, oa, none⟩) n cap] 26)).alloc (.cells #[.int .i64 k, .string y, .string t, .string o] 45)).alloc (.cells #[.slice none 0 0] 26)) ((w2.alloc (.cells #[.string f.n, .string (f.t ++ t), .int .i64 f.k] 36)).alloc (.cells #[.slice none 0 0] 26)) := (HB2.out.alloc hz2 _).alloc (Nat.le_trans hz2 (by simp)) _
  have hO6 : BD ((w2.alloc (.cells #[.string f.n, .string (f.t ++ t), .int .i64 f.k] 36)).alloc (.cells #[.slice none 0 0] 26)) (w2.heap.size + 1) 26 (.slice none 0 0) := alloc_fst _ _ (by simp)
  obtain ⟨⟨q0, q1, q2, q3⟩, _, hD6, hR6⟩ := HG.out _ hB6
  have dd6 := hD6.cell
  have HX6 : Hid (Below (((w.alloc (.cells #[.slice (some ⟨ga, oa, none⟩) n cap] 26)).alloc (.cells #[.int .i64 k, .string y, .string t, .string o] 45)).alloc (.cells #[.slice none 0 0] 26)).heap.size (((w.alloc (.cells #[.slice (some ⟨ga, oa, none⟩) n cap] 26)).alloc (.cells #[.int .i64 k, .string y, .string t, .string o] 45)).alloc (.cells #[.slice none 0 0] 26)) ((w2.alloc (.cells #[.string f.n, .string (f.t ++ t), .int .i64 f.k] 36)).alloc (.cells #[.slice none 0 0] 26)) ∧ BD ((w2.alloc (.cells #[.string f.n, .string (f.t ++ t), .int .i64 f.k] 36)).alloc (.cells #[.slice none 0 0] 26)) (w2.heap.size + 1) 26 (.slice none 0 0)) := ⟨hB6, hO6⟩
  have hll : L.length ≤ 100000 := by have := HDK.out.1; omega
  have hput := l06Put_any _ ga oa L ⟨f.n, f.t ++ t, f.k⟩ _ hR6 hll
  clear hF5 hO5 hF6 hB6 hO6 hD6 hR6 HB1 HB2 hr hb2 HB5 hD2 hR2 hRa hmX
  go_wp2_with fail
  refine hput.mono ?_
  rintro e w7 ⟨u, rfl, hu, hb7⟩
  clear hput
  obtain ⟨a7, c7, g7, rfl, hr7, hg7⟩ := hu.shape
  have hB7 := HX6.out.1.trans (hb7.mono HX6.out.1.size)
  have hO7 := HX6.out.2.later hb7
  have hlt6 : w2.heap.size + 1 < ((w2.alloc (.cells #[.string f.n, .string (f.t ++ t), .int .i64 f.k] 36)).alloc (.cells #[.slice none 0 0] 26)).heap.size := HX6.out.2.lt
  have o0 := hO7.cell
  have o1 := hO7.fr
  have hB8 := hB7.setCell (p := ⟨w2.heap.size + 1, 0, none⟩) (Nat.le_succ_of_le hz2) (.slice a7 (F.put L ⟨f.n, f.t ++ t, f.k⟩).length c7)
  have hO8 : BD (w7.setCell ⟨w2.heap.size + 1, 0, none⟩ (.slice a7 (F.put L ⟨f.n, f.t ++ t, f.k⟩).length c7)) (w2.heap.size + 1) 26 (.slice a7 (F.put L ⟨f.n, f.t ++ t, f.k⟩).length c7) := by
    unfold BD
    rw [heap_setCell_same w7 (w2.heap.size + 1) 0 _ _ _ hO7]
    rfl
  have o2 := hO8.cell
  have hr8 := hr7.grown (grown_set w7 (w2.heap.size + 1) 0 (.slice a7 (F.put L ⟨f.n, f.t ++ t, f.k⟩).length c7)) (fun _ => by simp; omega)
  have hcD := sDiskOk_any _ g7 0 (F.put L ⟨f.n, f.t ++ t, f.k⟩) _ hr8.1
  rw [hM] at hcD
  have HX8 : Hid (Below (((w.alloc (.cells #[.slice (some ⟨ga, oa, none⟩) n cap] 26)).alloc (.cells #[.int .i64 k, .string y, .string t, .string o] 45)).alloc (.cells #[.slice none 0 0] 26)).heap.size (((w.alloc (.cells #[.slice (some ⟨ga, oa, none⟩) n cap] 26)).alloc (.cells #[.int .i64 k, .string y, .string t, .string o] 45)).alloc (.cells #[.slice none 0 0] 26)) (w7.setCell ⟨w2.heap.size + 1, 0, none⟩ (.slice a7 (F.put L ⟨f.n, f.t ++ t, f.k⟩).length c7)) ∧ BD (w7.setCell ⟨w2.heap.size + 1, 0, none⟩ (.slice a7 (F.put L ⟨f.n, f.t ++ t, f.k⟩).length c7)) (w2.heap.size + 1) 26 (.slice a7 (F.put L ⟨f.n, f.t ++ t, f.k⟩).length c7) ∧ RW 3 fcs (w7.setCell ⟨w2.heap.size + 1, 0, none⟩ (.slice a7 (F.put L ⟨f.n, f.t ++ t, f.k⟩).length c7)) (.slice a7 (F.put L ⟨f.n, f.t ++ t, f.k⟩).length c7) g7 (F.put L ⟨f.n, f.t ++ t, f.k⟩) ∧ w2.heap.size + 1 < g7) := ⟨hB8, hO8, hr8, by omega⟩
  clear hB7 hO7 hB8 hO8 hr8 hr7 hu hb7 HX6
  go_wp2_with fail
  refine hcD.mono ?_
  rintro e w9 ⟨rfl, hb9⟩
  have hB9 := HX8.out.1.trans (hb9.mono HX8.out.1.size)
  have hO9 := HX8.out.2.1.later hb9
  have p0 := hO9.cell
  have hr9 := HX8.out.2.2.1.later hb9
  have hg9 := HX8.out.2.2.2
  have hbd := (HG.out _ hB9).2.1
  have t0 := hbd.cell
  have g0 := hbd.fr
  have HF : Hid ((w9.setCell ⟨w.heap.size + 1 + 1, 0, none⟩ (.slice a7 (F.put L ⟨f.n, f.t ++ t, f.k⟩).length c7)).rangeAt (w.heap.size + 1 + 1) 0 [.slice a7 (F.put L ⟨f.n, f.t ++ t, f.k⟩).length c7] ∧ RW 3 fcs (w9.setCell ⟨w.heap.size + 1 + 1, 0, none⟩ (.slice a7 (F.put L ⟨f.n, f.t ++ t, f.k⟩).length c7)) (.slice a7 (F.put L ⟨f.n, f.t ++ t, f.k⟩).length c7) g7 (F.put L ⟨f.n, f.t ++ t, f.k⟩) ∧ Below w.heap.size w (w9.setCell ⟨w.heap.size + 1 + 1, 0, none⟩ (.slice a7 (F.put L ⟨f.n, f.t ++ t, f.k⟩).length c7)) ∧ w.heap.size ≤ g7) := by
    have hq := HB0.out.2
    exact ⟨range1 (set_here t0 g0 _), hr9.grown (grown_set w9 _ _ _) (fun _ => by simp; omega), (HB0.out.1.trans (hB9.mono (Nat.le_trans (by omega) HB0.out.2))).setCell (p := ⟨w.heap.size + 1 + 1, 0, none⟩) (by simp; omega) _, by omega⟩
  clear hbd hB9 hO9 hr9 hg9 hb9 hcD HX8 HG
  go_wp2
  refine ret_rec2 4 5 (w.heap.size + 1 + 1) 26 [_] _ _ rfl rfl rfl rfl Try.underlying26 rfl sizeDisk HF.out.1 ?_
  exact ⟨_, rfl, ⟨_, g7, rfl, HF.out.2.1, HF.out.2.2.2⟩, HF.out.2.2.1⟩

set_option maxRecDepth 100000 in
set_option maxHeartbeats 4000000 in
theorem sDoAct_more0 (n cap : Nat) (ga oa : Nat) (L : List Fl) (k : Int) (y t o : ByteArray) (w : World) (hn : L.length = n) (hv : RS 3 fcs w (.slice (some ⟨ga, oa, none⟩) n cap) ga oa L) (ha : SmallA ⟨k, y, t, o⟩) (f : Fl) (hd : F.diskB L = true) (hy : F.nmB y = true) (hk : k = 1) (hf : F.find L y = some f) (ho : o.size = 0) (hM : F.diskB (F.put L ⟨f.n, f.t ++ t, f.k⟩) = false) :
    Calls Try.prog 34 #[.agg #[.slice (some ⟨ga, oa, none⟩) n cap], .agg #[.int .i64 k, .string y, .string t, .string o]] w fun e w' => ∃ u, e = .returned (.tuple #[u, .bool (F.actR L ⟨k, y, t, o⟩).isSome]) ∧ DkIn w' w.heap.size u ((F.actR L ⟨k, y, t, o⟩).getD []) ∧ Below w.heap.size w w' := by
  have hb0 : Below w.heap.size w (((w.alloc (.cells #[.slice (some ⟨ga, oa, none⟩) n cap] 26)).alloc (.cells #[.int .i64 k, .string y, .string t, .string o] 45)).alloc (.cells #[.slice none 0 0] 26)) := (((Below.refl _ _).alloc (Nat.le_refl _) _).alloc (by simp) _).alloc (by simp; omega) _
  have hs3 : (((w.alloc (.cells #[.slice (some ⟨ga, oa, none⟩) n cap] 26)).alloc (.cells #[.int .i64 k, .string y, .string t, .string o] 45)).alloc (.cells #[.slice none 0 0] 26)).heap.size = w.heap.size + 1 + 1 + 1 := by simp
  have hg0 : BD (((w.alloc (.cells #[.slice (some ⟨ga, oa, none⟩) n cap] 26)).alloc (.cells #[.int .i64 k, .string y, .string t, .string o] 45)).alloc (.cells #[.slice none 0 0] 26)) w.heap.size 26 (.slice (some ⟨ga, oa, none⟩) n cap) := (Below.heap_alloc _ _ w.heap.size (by simp; omega)).trans (alloc_snd _ _ _ rfl)
  have hg1 : (((w.alloc (.cells #[.slice (some ⟨ga, oa, none⟩) n cap] 26)).alloc (.cells #[.int .i64 k, .string y, .string t, .string o] 45)).alloc (.cells #[.slice none 0 0] 26)).heap[w.heap.size + 1]? = some (.cells #[.int .i64 k, .string y, .string t, .string o] 45 (0, 0)) := alloc_snd _ _ _ (by simp)
  have hg2 : (((w.alloc (.cells #[.slice (some ⟨ga, oa, none⟩) n cap] 26)).alloc (.cells #[.int .i64 k, .string y, .string t, .string o] 45)).alloc (.cells #[.slice none 0 0] 26)).heap[w.heap.size + 1 + 1]? = some (.cells #[.slice none 0 0] 26 (0, 0)) := alloc_fst _ _ (by simp)
  have hv3 := hv.later hb0
  have HG : Hid (∀ W, Below (((w.alloc (.cells #[.slice (some ⟨ga, oa, none⟩) n cap] 26)).alloc (.cells #[.int .i64 k, .string y, .string t, .string o] 45)).alloc (.cells #[.slice none 0 0] 26)).heap.size (((w.alloc (.cells #[.slice (some ⟨ga, oa, none⟩) n cap] 26)).alloc (.cells #[.int .i64 k, .string y, .string t, .string o] 45)).alloc (.cells #[.slice none 0 0] 26)) W → (W.cell? ⟨w.heap.size + 1, 0, none⟩ = some (.int .i64 k) ∧ W.cell? ⟨w.heap.size + 1, 1, none⟩ = some (.string y) ∧ W.cell? ⟨w.heap.size + 1, 2, none⟩ = some (.string t) ∧ W.cell? ⟨w.heap.size + 1, 3, none⟩ = some (.string o)) ∧ BD W (w.heap.size + 1 + 1) 26 (.slice none 0 0) ∧ BD W w.heap.size 26 (.slice (some ⟨ga, oa, none⟩) n cap) ∧ RS 3 fcs W (.slice (some ⟨ga, oa, none⟩) n cap) ga oa L) := fun W hW => by
    have h1 := (hW.block (w.heap.size + 1) (by rw [hs3]; omega)).trans hg1
    exact ⟨⟨by rw [cell_of_row _ _ 0 _ _ _ h1]; rfl, by rw [cell_of_row _ _ 1 _ _ _ h1]; rfl, by rw [cell_of_row _ _ 2 _ _ _ h1]; rfl, by rw [cell_of_row _ _ 3 _ _ _ h1]; rfl⟩, (hW.block (w.heap.size + 1 + 1) (by rw [hs3]; omega)).trans hg2, hg0.later hW, hv3.later hW⟩
  have HB0 : Hid (Below w.heap.size w (((w.alloc (.cells #[.slice (some ⟨ga, oa, none⟩) n cap] 26)).alloc (.cells #[.int .i64 k, .string y, .string t, .string o] 45)).alloc (.cells #[.slice none 0 0] 26)) ∧ w.heap.size + 1 + 1 + 1 ≤ (((w.alloc (.cells #[.slice (some ⟨ga, oa, none⟩) n cap] 26)).alloc (.cells #[.int .i64 k, .string y, .string t, .string o] 45)).alloc (.cells #[.slice none 0 0] 26)).heap.size) := ⟨hb0, by rw [hs3]; exact Nat.le_refl _⟩
  have HC := sDiskOk_any _ ga oa L _ hv3
  clear hg0 hg1 hg2 hs3 hb0 hv hv3
  have ek0 := F.spec_more (t := t) (F.diskB_iff.1 hd) hf
  rw [hM] at ek0
  have ek : F.doL L ⟨k, y, t, o⟩ = none := by
    rw [show none = F.addL L y t by rw [ek0]; rfl]
    skip
    unfold F.doL
    rw [if_neg (by rintro (⟨h, _⟩ | ⟨_, h⟩); exact h hk; exact h ho), if_pos (by simp [hk])]
  obtain ⟨oe1, oe2⟩ := nil_of' ho
  have k1 : (k == 1) = true := by simp [hk]
  have k1n : (k != 1) = false := by simp [hk]
  have k3n : (k != 3) = true := by simp [hk]
  clear ek0 hk
  have hfl := F.flB_iff.1 ((F.diskB_iff.1 hd).2.1 f (F.find_some hf).1)
  have q9 : ¬ 9223372036854775807 < f.t.size + t.size := by have := ha.2.1; simp only at this; omega
  clear hfl
  rw [hd] at HC
  rw [F.actR_yes _ hd, ek]
  have hnm := fun W => l06Name_any y W
  rw [hy] at hnm
  have HDK : Hid (F.DOk L) := F.diskB_iff.1 hd
  clear ek hd
  go_enter Try.func34, Try.ntmps34
  go_wp2_with fail
  refine HC.mono ?_
  rintro e w1 ⟨rfl, hb1⟩
  obtain ⟨⟨a0, a1, a2, a3⟩, hBD1, hD1, hR1⟩ := HG.out _ hb1
  go_wp2_with fail
  refine (hnm w1).mono ?_
  rintro e w1 ⟨rfl, rfl⟩
  have hz1 : (((w.alloc (.cells #[.slice (some ⟨ga, oa, none⟩) n cap] 26)).alloc (.cells #[.int .i64 k, .string y, .string t, .string o] 45)).alloc (.cells #[.slice none 0 0] 26)).heap.size ≤ w1.heap.size := hb1.size
  have HB1 : Hid (Below (((w.alloc (.cells #[.slice (some ⟨ga, oa, none⟩) n cap] 26)).alloc (.cells #[.int .i64 k, .string y, .string t, .string o] 45)).alloc (.cells #[.slice none 0 0] 26)).heap.size (((w.alloc (.cells #[.slice (some ⟨ga, oa, none⟩) n cap] 26)).alloc (.cells #[.int .i64 k, .string y, .string t, .string o] 45)).alloc (.cells #[.slice none 0 0] 26)) w1 ∧ RS 3 fcs w1 (.slice (some ⟨ga, oa, none⟩) n cap) ga oa L) := ⟨hb1, hR1⟩
  have d1 := hD1.cell
  clear hBD1 hD1 hR1 HC hb1
  go_wp2_with fail
  refine (l06At_any _ ga oa L y _ HB1.out.2).mono ?_
  rintro e w2 ⟨r, rfl, hr, hb2⟩
  obtain ⟨m, hm, rfl, hmX⟩ : ∃ (m : Nat) (h : m < L.length), r = (m : Int) ∧ L[m] = f := by
    rcases hr with ⟨_, h⟩ | ⟨m, h, h1, h2⟩
    · rw [hf] at h; cases h
    · rw [hf] at h2; exact ⟨m, h, h1, (Option.some.inj h2).symm⟩
  have HB2 : Hid (Below (((w.alloc (.cells #[.slice (some ⟨ga, oa, none⟩) n cap] 26)).alloc (.cells #[.int .i64 k, .string y, .string t, .string o] 45)).alloc (.cells #[.slice none 0 0] 26)).heap.size (((w.alloc (.cells #[.slice (some ⟨ga, oa, none⟩) n cap] 26)).alloc (.cells #[.int .i64 k, .string y, .string t, .string o] 45)).alloc (.cells #[.slice none 0 0] 26)) w2) := HB1.out.1.trans (hb2.mono hz1)
  have hz2 : (((w.alloc (.cells #[.slice (some ⟨ga, oa, none⟩) n cap] 26)).alloc (.cells #[.int .i64 k, .string y, .string t, .string o] 45)).alloc (.cells #[.slice none 0 0] 26)).heap.size ≤ w2.heap.size := HB2.out.size
  obtain ⟨⟨a0, a1, a2, a3⟩, _, hD2, hR2⟩ := HG.out _ HB2.out
  have hn2 : (m : Int) < (n : Int) := by omega
  have hn3 : (0 : Int) ≤ (m : Int) := by omega
  have hRa := hR2.alloc (.cells #[.string y, .string ⟨#[]⟩, .int .i64 0] 36)
  obtain ⟨e0, e1, e2⟩ := hRa.file m hm
  rw [hmX] at e0 e1 e2
  have d2 : (w2.alloc (.cells #[.string y, .string ⟨#[]⟩, .int .i64 0] 36)).cell? ⟨w.heap.size, 0, none⟩ = some (.slice (some ⟨ga, oa, none⟩) n cap) := (cell_kept (Below.heap_alloc _ _ w.heap.size hD2.lt)).trans hD2.cell
  have HB5 : Hid (Below (((w.alloc (.cells #[.slice (some ⟨ga, oa, none⟩) n cap] 26)).alloc (.cells #[.int .i64 k, .string y, .string t, .string o] 45)).alloc (.cells #[.slice none 0 0] 26)).heap.size (((w.alloc (.cells #[.slice (some ⟨ga, oa, none⟩) n cap] 26)).alloc (.cells #[.int .i64 k, .string y, .string t, .string o] 45)).alloc (.cells #[.slice none 0 0] 26)) ((w2.alloc (.cells #[.string f.n, .string f.t, .int .i64 f.k] 36)).alloc (.cells #[.slice none 0 0] 26))) := (HB2.out.alloc hz2 _).alloc (Nat.le_trans hz2 (by simp)) _
  obtain ⟨⟨b0, b1, b2, b3⟩, _, _, _⟩ := HG.out _ HB5.out
  have hF5 : BF ((w2.alloc (.cells #[.string f.n, .string f.t, .int .i64 f.k] 36)).alloc (.cells #[.slice none 0 0] 26)) w2.heap.size f := alloc_snd _ _ _ rfl
  have hO5 : BD ((w2.alloc (.cells #[.string f.n, .string f.t, .int .i64 f.k] 36)).alloc (.cells #[.slice none 0 0] 26)) (w2.heap.size + 1) 26 (.slice none 0 0) := alloc_fst _ _ (by simp)
  obtain ⟨f0, f1, f2⟩ := hF5.cells
  have r0 := hF5.fr 0
  have r1 := hF5.fr 1
  have r2 := hF5.fr 2
  have hF6 : BF ((w2.alloc (.cells #[.string f.n, .string (f.t ++ t), .int .i64 f.k] 36)).alloc (.cells #[.slice none 0 0] 26)) w2.heap.size ⟨f.n, f.t ++ t, f.k⟩ := alloc_snd _ _ _ rfl
  obtain ⟨s0, s1, s2⟩ := hF6.cells
  have hB6 : Below (((w.alloc (.cells #[.slice (some ⟨ga, oa, none⟩) n cap] 26)).alloc (.cells #[.int .i64 k, .string y, .string t, .string o] 45)).alloc (.cells #[.slice none 0 0] 26)).heap.size (((w.alloc (.cells #[.slice (some ⟨ga, oa, none⟩) n cap] 26)).alloc (.cells #[.int .i64 k, .string y, .string t, .string o] 45)).alloc (.cells #[.slice none 0 0] 26)) ((w2.alloc (.cells #[.string f.n, .string (f.t ++ t), .int .i64 f.k] 36)).alloc (.cells #[.slice none 0 0] 26)) := (HB2.out.alloc hz2 _).alloc (Nat.le_trans hz2 (by simp)) _
  have hO6 : BD ((w2.alloc (.cells #[.string f.n, .string (f.t ++ t), .int .i64 f.k] 36)).alloc (.cells #[.slice none 0 0] 26)) (w2.heap.size + 1) 26 (.slice none 0 0) := alloc_fst _ _ (by simp)
  obtain ⟨⟨q0, q1, q2, q3⟩, _, hD6, hR6⟩ := HG.out _ hB6
  have dd6 := hD6.cell
  have HX6 : Hid (Below (((w.alloc (.cells #[.slice (some ⟨ga, oa, none⟩) n cap] 26)).alloc (.cells #[.int .i64 k, .string y, .string t, .string o] 45)).alloc (.cells #[.slice none 0 0] 26)).heap.size (((w.alloc (.cells #[.slice (some ⟨ga, oa, none⟩) n cap] 26)).alloc (.cells #[.int .i64 k, .string y, .string t, .string o] 45)).alloc (.cells #[.slice none 0 0] 26)) ((w2.alloc (.cells #[.string f.n, .string (f.t ++ t), .int .i64 f.k] 36)).alloc (.cells #[.slice none 0 0] 26)) ∧ BD ((w2.alloc (.cells #[.string f.n, .string (f.t ++ t), .int .i64 f.k] 36)).alloc (.cells #[.slice none 0 0] 26)) (w2.heap.size + 1) 26 (.slice none 0 0)) := ⟨hB6, hO6⟩
  have hll : L.length ≤ 100000 := by have := HDK.out.1; omega
  have hput := l06Put_any _ ga oa L ⟨f.n, f.t ++ t, f.k⟩ _ hR6 hll
  clear hF5 hO5 hF6 hB6 hO6 hD6 hR6 HB1 HB2 hr hb2 HB5 hD2 hR2 hRa hmX
  go_wp2_with fail
  refine hput.mono ?_
  rintro e w7 ⟨u, rfl, hu, hb7⟩
  clear hput
  obtain ⟨a7, c7, g7, rfl, hr7, hg7⟩ := hu.shape
  have hB7 := HX6.out.1.trans (hb7.mono HX6.out.1.size)
  have hO7 := HX6.out.2.later hb7
  have hlt6 : w2.heap.size + 1 < ((w2.alloc (.cells #[.string f.n, .string (f.t ++ t), .int .i64 f.k] 36)).alloc (.cells #[.slice none 0 0] 26)).heap.size := HX6.out.2.lt
  have o0 := hO7.cell
  have o1 := hO7.fr
  have hB8 := hB7.setCell (p := ⟨w2.heap.size + 1, 0, none⟩) (Nat.le_succ_of_le hz2) (.slice a7 (F.put L ⟨f.n, f.t ++ t, f.k⟩).length c7)
  have hO8 : BD (w7.setCell ⟨w2.heap.size + 1, 0, none⟩ (.slice a7 (F.put L ⟨f.n, f.t ++ t, f.k⟩).length c7)) (w2.heap.size + 1) 26 (.slice a7 (F.put L ⟨f.n, f.t ++ t, f.k⟩).length c7) := by
    unfold BD
    rw [heap_setCell_same w7 (w2.heap.size + 1) 0 _ _ _ hO7]
    rfl
  have o2 := hO8.cell
  have hr8 := hr7.grown (grown_set w7 (w2.heap.size + 1) 0 (.slice a7 (F.put L ⟨f.n, f.t ++ t, f.k⟩).length c7)) (fun _ => by simp; omega)
  have hcD := sDiskOk_any _ g7 0 (F.put L ⟨f.n, f.t ++ t, f.k⟩) _ hr8.1
  rw [hM] at hcD
  have HX8 : Hid (Below (((w.alloc (.cells #[.slice (some ⟨ga, oa, none⟩) n cap] 26)).alloc (.cells #[.int .i64 k, .string y, .string t, .string o] 45)).alloc (.cells #[.slice none 0 0] 26)).heap.size (((w.alloc (.cells #[.slice (some ⟨ga, oa, none⟩) n cap] 26)).alloc (.cells #[.int .i64 k, .string y, .string t, .string o] 45)).alloc (.cells #[.slice none 0 0] 26)) (w7.setCell ⟨w2.heap.size + 1, 0, none⟩ (.slice a7 (F.put L ⟨f.n, f.t ++ t, f.k⟩).length c7)) ∧ BD (w7.setCell ⟨w2.heap.size + 1, 0, none⟩ (.slice a7 (F.put L ⟨f.n, f.t ++ t, f.k⟩).length c7)) (w2.heap.size + 1) 26 (.slice a7 (F.put L ⟨f.n, f.t ++ t, f.k⟩).length c7) ∧ RW 3 fcs (w7.setCell ⟨w2.heap.size + 1, 0, none⟩ (.slice a7 (F.put L ⟨f.n, f.t ++ t, f.k⟩).length c7)) (.slice a7 (F.put L ⟨f.n, f.t ++ t, f.k⟩).length c7) g7 (F.put L ⟨f.n, f.t ++ t, f.k⟩) ∧ w2.heap.size + 1 < g7) := ⟨hB8, hO8, hr8, by omega⟩
  clear hB7 hO7 hB8 hO8 hr8 hr7 hu hb7 HX6
  go_wp2_with fail
  refine hcD.mono ?_
  rintro e w9 ⟨rfl, hb9⟩
  have hB9 := HX8.out.1.trans (hb9.mono HX8.out.1.size)
  have hO9 := HX8.out.2.1.later hb9
  have p0 := hO9.cell
  have hr9 := HX8.out.2.2.1.later hb9
  have hg9 := HX8.out.2.2.2
  have hbd := (HG.out _ hB9).2.1
  have t0 := hbd.cell
  have g0 := hbd.fr
  have HF : Hid ((w9.setCell ⟨w.heap.size + 1 + 1, 0, none⟩ (.slice none 0 0)).rangeAt (w.heap.size + 1 + 1) 0 [.slice none 0 0] ∧ Below w.heap.size w (w9.setCell ⟨w.heap.size + 1 + 1, 0, none⟩ (.slice none 0 0))) := ⟨range1 (set_here t0 g0 _), (HB0.out.1.trans ((hB9).mono (Nat.le_trans (by omega) HB0.out.2))).setCell (p := ⟨w.heap.size + 1 + 1, 0, none⟩) (by simp; omega) _⟩
  clear hbd hB9 hO9 hr9 hg9 hb9 hcD HX8 HG
  go_wp2
  refine ret_rec2 4 5 (w.heap.size + 1 + 1) 26 [.slice none 0 0] _ _ rfl rfl rfl rfl Try.underlying26 rfl sizeDisk HF.out.1 ?_
  exact ⟨_, rfl, ⟨_, w.heap.size, rfl, RW.nil _ _, Nat.le_refl _⟩, HF.out.2⟩

set_option maxRecDepth 100000 in
set_option maxHeartbeats 4000000 in
theorem sDoAct_drop (n cap : Nat) (ga oa : Nat) (L : List Fl) (k : Int) (y t o : ByteArray) (w : World) (hn : L.length = n) (hv : RS 3 fcs w (.slice (some ⟨ga, oa, none⟩) n cap) ga oa L) (ha : SmallA ⟨k, y, t, o⟩) (f : Fl) (hd : F.diskB L = true) (hy : F.nmB y = true) (hk : k = 4) (hf : F.find L y = some f) (ht : t.size = 0) (ho : o.size = 0) :
    Calls Try.prog 34 #[.agg #[.slice (some ⟨ga, oa, none⟩) n cap], .agg #[.int .i64 k, .string y, .string t, .string o]] w fun e w' => ∃ u, e = .returned (.tuple #[u, .bool (F.actR L ⟨k, y, t, o⟩).isSome]) ∧ DkIn w' w.heap.size u ((F.actR L ⟨k, y, t, o⟩).getD []) ∧ Below w.heap.size w w' := by
  have hb0 : Below w.heap.size w (((w.alloc (.cells #[.slice (some ⟨ga, oa, none⟩) n cap] 26)).alloc (.cells #[.int .i64 k, .string y, .string t, .string o] 45)).alloc (.cells #[.slice none 0 0] 26)) := (((Below.refl _ _).alloc (Nat.le_refl _) _).alloc (by simp) _).alloc (by simp; omega) _
  have hs3 : (((w.alloc (.cells #[.slice (some ⟨ga, oa, none⟩) n cap] 26)).alloc (.cells #[.int .i64 k, .string y, .string t, .string o] 45)).alloc (.cells #[.slice none 0 0] 26)).heap.size = w.heap.size + 1 + 1 + 1 := by simp
  have hg0 : BD (((w.alloc (.cells #[.slice (some ⟨ga, oa, none⟩) n cap] 26)).alloc (.cells #[.int .i64 k, .string y, .string t, .string o] 45)).alloc (.cells #[.slice none 0 0] 26)) w.heap.size 26 (.slice (some ⟨ga, oa, none⟩) n cap) := (Below.heap_alloc _ _ w.heap.size (by simp; omega)).trans (alloc_snd _ _ _ rfl)
  have hg1 : (((w.alloc (.cells #[.slice (some ⟨ga, oa, none⟩) n cap] 26)).alloc (.cells #[.int .i64 k, .string y, .string t, .string o] 45)).alloc (.cells #[.slice none 0 0] 26)).heap[w.heap.size + 1]? = some (.cells #[.int .i64 k, .string y, .string t, .string o] 45 (0, 0)) := alloc_snd _ _ _ (by simp)
  have hg2 : (((w.alloc (.cells #[.slice (some ⟨ga, oa, none⟩) n cap] 26)).alloc (.cells #[.int .i64 k, .string y, .string t, .string o] 45)).alloc (.cells #[.slice none 0 0] 26)).heap[w.heap.size + 1 + 1]? = some (.cells #[.slice none 0 0] 26 (0, 0)) := alloc_fst _ _ (by simp)
  have hv3 := hv.later hb0
  have HG : Hid (∀ W, Below (((w.alloc (.cells #[.slice (some ⟨ga, oa, none⟩) n cap] 26)).alloc (.cells #[.int .i64 k, .string y, .string t, .string o] 45)).alloc (.cells #[.slice none 0 0] 26)).heap.size (((w.alloc (.cells #[.slice (some ⟨ga, oa, none⟩) n cap] 26)).alloc (.cells #[.int .i64 k, .string y, .string t, .string o] 45)).alloc (.cells #[.slice none 0 0] 26)) W → (W.cell? ⟨w.heap.size + 1, 0, none⟩ = some (.int .i64 k) ∧ W.cell? ⟨w.heap.size + 1, 1, none⟩ = some (.string y) ∧ W.cell? ⟨w.heap.size + 1, 2, none⟩ = some (.string t) ∧ W.cell? ⟨w.heap.size + 1, 3, none⟩ = some (.string o)) ∧ BD W (w.heap.size + 1 + 1) 26 (.slice none 0 0) ∧ BD W w.heap.size 26 (.slice (some ⟨ga, oa, none⟩) n cap) ∧ RS 3 fcs W (.slice (some ⟨ga, oa, none⟩) n cap) ga oa L) := fun W hW => by
    have h1 := (hW.block (w.heap.size + 1) (by rw [hs3]; omega)).trans hg1
    exact ⟨⟨by rw [cell_of_row _ _ 0 _ _ _ h1]; rfl, by rw [cell_of_row _ _ 1 _ _ _ h1]; rfl, by rw [cell_of_row _ _ 2 _ _ _ h1]; rfl, by rw [cell_of_row _ _ 3 _ _ _ h1]; rfl⟩, (hW.block (w.heap.size + 1 + 1) (by rw [hs3]; omega)).trans hg2, hg0.later hW, hv3.later hW⟩
  have HB0 : Hid (Below w.heap.size w (((w.alloc (.cells #[.slice (some ⟨ga, oa, none⟩) n cap] 26)).alloc (.cells #[.int .i64 k, .string y, .string t, .string o] 45)).alloc (.cells #[.slice none 0 0] 26)) ∧ w.heap.size + 1 + 1 + 1 ≤ (((w.alloc (.cells #[.slice (some ⟨ga, oa, none⟩) n cap] 26)).alloc (.cells #[.int .i64 k, .string y, .string t, .string o] 45)).alloc (.cells #[.slice none 0 0] 26)).heap.size) := ⟨hb0, by rw [hs3]; exact Nat.le_refl _⟩
  have HC := sDiskOk_any _ ga oa L _ hv3
  clear hg0 hg1 hg2 hs3 hb0 hv hv3
  obtain ⟨ek0, hM⟩ := F.spec_drop (F.diskB_iff.1 hd) hf
  have ek : F.doL L ⟨k, y, t, o⟩ = some (F.wout L y) := by
    rw [← ek0]
    unfold F.doL
    rw [if_neg (by rintro (⟨_, h⟩ | ⟨_, h⟩); exact h ht; exact h ho), if_neg (by simp [hk]), if_neg (by simp [hk]), if_neg (by simp [hk]), if_pos (by simp [hk])]
  obtain ⟨te1, te2⟩ := nil_of' ht
  obtain ⟨oe1, oe2⟩ := nil_of' ho
  have k1 : (k == 1) = false := by simp [hk]
  have k2 : (k == 2) = false := by simp [hk]
  have k3 : (k == 3) = false := by simp [hk]
  have k4 : (k == 4) = true := by simp [hk]
  have k1n : (k != 1) = true := by simp [hk]
  have k3n : (k != 3) = true := by simp [hk]
  clear ek0 hk
  rw [hd] at HC
  rw [F.actR_yes _ hd, ek]
  have hnm := fun W => l06Name_any y W
  rw [hy] at hnm
  have HDK : Hid (F.DOk L) := F.diskB_iff.1 hd
  clear ek hd
  go_enter Try.func34, Try.ntmps34
  go_wp2_with fail
  refine HC.mono ?_
  rintro e w1 ⟨rfl, hb1⟩
  obtain ⟨⟨a0, a1, a2, a3⟩, hBD1, hD1, hR1⟩ := HG.out _ hb1
  go_wp2_with fail
  refine (hnm w1).mono ?_
  rintro e w1 ⟨rfl, rfl⟩
  have hz1 : (((w.alloc (.cells #[.slice (some ⟨ga, oa, none⟩) n cap] 26)).alloc (.cells #[.int .i64 k, .string y, .string t, .string o] 45)).alloc (.cells #[.slice none 0 0] 26)).heap.size ≤ w1.heap.size := hb1.size
  have HB1 : Hid (Below (((w.alloc (.cells #[.slice (some ⟨ga, oa, none⟩) n cap] 26)).alloc (.cells #[.int .i64 k, .string y, .string t, .string o] 45)).alloc (.cells #[.slice none 0 0] 26)).heap.size (((w.alloc (.cells #[.slice (some ⟨ga, oa, none⟩) n cap] 26)).alloc (.cells #[.int .i64 k, .string y, .string t, .string o] 45)).alloc (.cells #[.slice none 0 0] 26)) w1 ∧ RS 3 fcs w1 (.slice (some ⟨ga, oa, none⟩) n cap) ga oa L) := ⟨hb1, hR1⟩
  have d1 := hD1.cell
  clear hBD1 hD1 hR1 HC hb1
  go_wp2_with fail
  refine (l06At_any _ ga oa L y _ HB1.out.2).mono ?_
  rintro e w2 ⟨r, rfl, hr, hb2⟩
  obtain ⟨m, hm, rfl, hmX⟩ : ∃ (m : Nat) (h : m < L.length), r = (m : Int) ∧ L[m] = f := by
    rcases hr with ⟨_, h⟩ | ⟨m, h, h1, h2⟩
    · rw [hf] at h; cases h
    · rw [hf] at h2; exact ⟨m, h, h1, (Option.some.inj h2).symm⟩
  have HB2 : Hid (Below (((w.alloc (.cells #[.slice (some ⟨ga, oa, none⟩) n cap] 26)).alloc (.cells #[.int .i64 k, .string y, .string t, .string o] 45)).alloc (.cells #[.slice none 0 0] 26)).heap.size (((w.alloc (.cells #[.slice (some ⟨ga, oa, none⟩) n cap] 26)).alloc (.cells #[.int .i64 k, .string y, .string t, .string o] 45)).alloc (.cells #[.slice none 0 0] 26)) w2) := HB1.out.1.trans (hb2.mono hz1)
  have hz2 : (((w.alloc (.cells #[.slice (some ⟨ga, oa, none⟩) n cap] 26)).alloc (.cells #[.int .i64 k, .string y, .string t, .string o] 45)).alloc (.cells #[.slice none 0 0] 26)).heap.size ≤ w2.heap.size := HB2.out.size
  obtain ⟨⟨a0, a1, a2, a3⟩, _, hD2, hR2⟩ := HG.out _ HB2.out
  have hn2 : (m : Int) < (n : Int) := by omega
  have hn3 : (0 : Int) ≤ (m : Int) := by omega
  have hRa := hR2.alloc (.cells #[.string y, .string ⟨#[]⟩, .int .i64 0] 36)
  obtain ⟨e0, e1, e2⟩ := hRa.file m hm
  rw [hmX] at e0 e1 e2
  have d2 : (w2.alloc (.cells #[.string y, .string ⟨#[]⟩, .int .i64 0] 36)).cell? ⟨w.heap.size, 0, none⟩ = some (.slice (some ⟨ga, oa, none⟩) n cap) := (cell_kept (Below.heap_alloc _ _ w.heap.size hD2.lt)).trans hD2.cell
  have HB5 : Hid (Below (((w.alloc (.cells #[.slice (some ⟨ga, oa, none⟩) n cap] 26)).alloc (.cells #[.int .i64 k, .string y, .string t, .string o] 45)).alloc (.cells #[.slice none 0 0] 26)).heap.size (((w.alloc (.cells #[.slice (some ⟨ga, oa, none⟩) n cap] 26)).alloc (.cells #[.int .i64 k, .string y, .string t, .string o] 45)).alloc (.cells #[.slice none 0 0] 26)) ((w2.alloc (.cells #[.string f.n, .string f.t, .int .i64 f.k] 36)).alloc (.cells #[.slice none 0 0] 26))) := (HB2.out.alloc hz2 _).alloc (Nat.le_trans hz2 (by simp)) _
  obtain ⟨⟨b0, b1, b2, b3⟩, _, _, _⟩ := HG.out _ HB5.out
  have hF5 : BF ((w2.alloc (.cells #[.string f.n, .string f.t, .int .i64 f.k] 36)).alloc (.cells #[.slice none 0 0] 26)) w2.heap.size f := alloc_snd _ _ _ rfl
  have hO5 : BD ((w2.alloc (.cells #[.string f.n, .string f.t, .int .i64 f.k] 36)).alloc (.cells #[.slice none 0 0] 26)) (w2.heap.size + 1) 26 (.slice none 0 0) := alloc_fst _ _ (by simp)
  obtain ⟨f0, f1, f2⟩ := hF5.cells
  have r0 := hF5.fr 0
  have r1 := hF5.fr 1
  have r2 := hF5.fr 2
  have hF6 : BF ((w2.alloc (.cells #[.string f.n, .string f.t, .int .i64 f.k] 36)).alloc (.cells #[.slice none 0 0] 26)) w2.heap.size f := alloc_snd _ _ _ rfl
  obtain ⟨s0, s1, s2⟩ := hF6.cells
  have hB6 : Below (((w.alloc (.cells #[.slice (some ⟨ga, oa, none⟩) n cap] 26)).alloc (.cells #[.int .i64 k, .string y, .string t, .string o] 45)).alloc (.cells #[.slice none 0 0] 26)).heap.size (((w.alloc (.cells #[.slice (some ⟨ga, oa, none⟩) n cap] 26)).alloc (.cells #[.int .i64 k, .string y, .string t, .string o] 45)).alloc (.cells #[.slice none 0 0] 26)) ((w2.alloc (.cells #[.string f.n, .string f.t, .int .i64 f.k] 36)).alloc (.cells #[.slice none 0 0] 26)) := (HB2.out.alloc hz2 _).alloc (Nat.le_trans hz2 (by simp)) _
  have hO6 : BD ((w2.alloc (.cells #[.string f.n, .string f.t, .int .i64 f.k] 36)).alloc (.cells #[.slice none 0 0] 26)) (w2.heap.size + 1) 26 (.slice none 0 0) := alloc_fst _ _ (by simp)
  obtain ⟨⟨q0, q1, q2, q3⟩, _, hD6, hR6⟩ := HG.out _ hB6
  have dd6 := hD6.cell
  have HX6 : Hid (Below (((w.alloc (.cells #[.slice (some ⟨ga, oa, none⟩) n cap] 26)).alloc (.cells #[.int .i64 k, .string y, .string t, .string o] 45)).alloc (.cells #[.slice none 0 0] 26)).heap.size (((w.alloc (.cells #[.slice (some ⟨ga, oa, none⟩) n cap] 26)).alloc (.cells #[.int .i64 k, .string y, .string t, .string o] 45)).alloc (.cells #[.slice none 0 0] 26)) ((w2.alloc (.cells #[.string f.n, .string f.t, .int .i64 f.k] 36)).alloc (.cells #[.slice none 0 0] 26)) ∧ BD ((w2.alloc (.cells #[.string f.n, .string f.t, .int .i64 f.k] 36)).alloc (.cells #[.slice none 0 0] 26)) (w2.heap.size + 1) 26 (.slice none 0 0)) := ⟨hB6, hO6⟩
  have hll : L.length ≤ 100000 := by have := HDK.out.1; omega
  have hput := l06Without_any _ ga oa L y _ hR6 hll
  clear hF5 hO5 hF6 hB6 hO6 hD6 hR6 HB1 HB2 hr hb2 HB5 hD2 hR2 hRa hmX
  go_wp2_with fail
  refine hput.mono ?_
  rintro e w7 ⟨u, rfl, hu, hb7⟩
  clear hput
  obtain ⟨a7, c7, g7, rfl, hr7, hg7⟩ := hu.shape
  have hB7 := HX6.out.1.trans (hb7.mono HX6.out.1.size)
  have hO7 := HX6.out.2.later hb7
  have hlt6 : w2.heap.size + 1 < ((w2.alloc (.cells #[.string f.n, .string f.t, .int .i64 f.k] 36)).alloc (.cells #[.slice none 0 0] 26)).heap.size := HX6.out.2.lt
  have o0 := hO7.cell
  have o1 := hO7.fr
  have hB8 := hB7.setCell (p := ⟨w2.heap.size + 1, 0, none⟩) (Nat.le_succ_of_le hz2) (.slice a7 (F.wout L y).length c7)
  have hO8 : BD (w7.setCell ⟨w2.heap.size + 1, 0, none⟩ (.slice a7 (F.wout L y).length c7)) (w2.heap.size + 1) 26 (.slice a7 (F.wout L y).length c7) := by
    unfold BD
    rw [heap_setCell_same w7 (w2.heap.size + 1) 0 _ _ _ hO7]
    rfl
  have o2 := hO8.cell
  have hr8 := hr7.grown (grown_set w7 (w2.heap.size + 1) 0 (.slice a7 (F.wout L y).length c7)) (fun _ => by simp; omega)
  have hcD := sDiskOk_any _ g7 0 (F.wout L y) _ hr8.1
  rw [hM] at hcD
  have HX8 : Hid (Below (((w.alloc (.cells #[.slice (some ⟨ga, oa, none⟩) n cap] 26)).alloc (.cells #[.int .i64 k, .string y, .string t, .string o] 45)).alloc (.cells #[.slice none 0 0] 26)).heap.size (((w.alloc (.cells #[.slice (some ⟨ga, oa, none⟩) n cap] 26)).alloc (.cells #[.int .i64 k, .string y, .string t, .string o] 45)).alloc (.cells #[.slice none 0 0] 26)) (w7.setCell ⟨w2.heap.size + 1, 0, none⟩ (.slice a7 (F.wout L y).length c7)) ∧ BD (w7.setCell ⟨w2.heap.size + 1, 0, none⟩ (.slice a7 (F.wout L y).length c7)) (w2.heap.size + 1) 26 (.slice a7 (F.wout L y).length c7) ∧ RW 3 fcs (w7.setCell ⟨w2.heap.size + 1, 0, none⟩ (.slice a7 (F.wout L y).length c7)) (.slice a7 (F.wout L y).length c7) g7 (F.wout L y) ∧ w2.heap.size + 1 < g7) := ⟨hB8, hO8, hr8, by omega⟩
  clear hB7 hO7 hB8 hO8 hr8 hr7 hu hb7 HX6
  go_wp2_with fail
  refine hcD.mono ?_
  rintro e w9 ⟨rfl, hb9⟩
  have hB9 := HX8.out.1.trans (hb9.mono HX8.out.1.size)
  have hO9 := HX8.out.2.1.later hb9
  have p0 := hO9.cell
  have hr9 := HX8.out.2.2.1.later hb9
  have hg9 := HX8.out.2.2.2
  have hbd := (HG.out _ hB9).2.1
  have t0 := hbd.cell
  have g0 := hbd.fr
  have HF : Hid ((w9.setCell ⟨w.heap.size + 1 + 1, 0, none⟩ (.slice a7 (F.wout L y).length c7)).rangeAt (w.heap.size + 1 + 1) 0 [.slice a7 (F.wout L y).length c7] ∧ RW 3 fcs (w9.setCell ⟨w.heap.size + 1 + 1, 0, none⟩ (.slice a7 (F.wout L y).length c7)) (.slice a7 (F.wout L y).length c7) g7 (F.wout L y) ∧ Below w.heap.size w (w9.setCell ⟨w.heap.size + 1 + 1, 0, none⟩ (.slice a7 (F.wout L y).length c7)) ∧ w.heap.size ≤ g7) := by
    have hq := HB0.out.2
    exact ⟨range1 (set_here t0 g0 _), hr9.grown (grown_set w9 _ _ _) (fun _ => by simp; omega), (HB0.out.1.trans (hB9.mono (Nat.le_trans (by omega) HB0.out.2))).setCell (p := ⟨w.heap.size + 1 + 1, 0, none⟩) (by simp; omega) _, by omega⟩
  clear hbd hB9 hO9 hr9 hg9 hb9 hcD HX8 HG
  go_wp2
  refine ret_rec2 4 5 (w.heap.size + 1 + 1) 26 [_] _ _ rfl rfl rfl rfl Try.underlying26 rfl sizeDisk HF.out.1 ?_
  exact ⟨_, rfl, ⟨_, g7, rfl, HF.out.2.1, HF.out.2.2.2⟩, HF.out.2.2.1⟩

set_option maxRecDepth 100000 in
set_option maxHeartbeats 4000000 in
theorem sDoAct_other (n cap : Nat) (ga oa : Nat) (L : List Fl) (k : Int) (y t o : ByteArray) (w : World) (hn : L.length = n) (hv : RS 3 fcs w (.slice (some ⟨ga, oa, none⟩) n cap) ga oa L) (ha : SmallA ⟨k, y, t, o⟩) (f : Fl) (hd : F.diskB L = true) (hy : F.nmB y = true) (h1 : k ≠ 1) (h2 : k ≠ 2) (h3 : k ≠ 3) (h4 : k ≠ 4) (hf : F.find L y = some f) (ht : t.size = 0) (ho : o.size = 0) :
    Calls Try.prog 34 #[.agg #[.slice (some ⟨ga, oa, none⟩) n cap], .agg #[.int .i64 k, .string y, .string t, .string o]] w fun e w' => ∃ u, e = .returned (.tuple #[u, .bool (F.actR L ⟨k, y, t, o⟩).isSome]) ∧ DkIn w' w.heap.size u ((F.actR L ⟨k, y, t, o⟩).getD []) ∧ Below w.heap.size w w' := by
  have hb0 : Below w.heap.size w (((w.alloc (.cells #[.slice (some ⟨ga, oa, none⟩) n cap] 26)).alloc (.cells #[.int .i64 k, .string y, .string t, .string o] 45)).alloc (.cells #[.slice none 0 0] 26)) := (((Below.refl _ _).alloc (Nat.le_refl _) _).alloc (by simp) _).alloc (by simp; omega) _
  have hs3 : (((w.alloc (.cells #[.slice (some ⟨ga, oa, none⟩) n cap] 26)).alloc (.cells #[.int .i64 k, .string y, .string t, .string o] 45)).alloc (.cells #[.slice none 0 0] 26)).heap.size = w.heap.size + 1 + 1 + 1 := by simp
  have hg0 : BD (((w.alloc (.cells #[.slice (some ⟨ga, oa, none⟩) n cap] 26)).alloc (.cells #[.int .i64 k, .string y, .string t, .string o] 45)).alloc (.cells #[.slice none 0 0] 26)) w.heap.size 26 (.slice (some ⟨ga, oa, none⟩) n cap) := (Below.heap_alloc _ _ w.heap.size (by simp; omega)).trans (alloc_snd _ _ _ rfl)
  have hg1 : (((w.alloc (.cells #[.slice (some ⟨ga, oa, none⟩) n cap] 26)).alloc (.cells #[.int .i64 k, .string y, .string t, .string o] 45)).alloc (.cells #[.slice none 0 0] 26)).heap[w.heap.size + 1]? = some (.cells #[.int .i64 k, .string y, .string t, .string o] 45 (0, 0)) := alloc_snd _ _ _ (by simp)
  have hg2 : (((w.alloc (.cells #[.slice (some ⟨ga, oa, none⟩) n cap] 26)).alloc (.cells #[.int .i64 k, .string y, .string t, .string o] 45)).alloc (.cells #[.slice none 0 0] 26)).heap[w.heap.size + 1 + 1]? = some (.cells #[.slice none 0 0] 26 (0, 0)) := alloc_fst _ _ (by simp)
  have hv3 := hv.later hb0
  have HG : Hid (∀ W, Below (((w.alloc (.cells #[.slice (some ⟨ga, oa, none⟩) n cap] 26)).alloc (.cells #[.int .i64 k, .string y, .string t, .string o] 45)).alloc (.cells #[.slice none 0 0] 26)).heap.size (((w.alloc (.cells #[.slice (some ⟨ga, oa, none⟩) n cap] 26)).alloc (.cells #[.int .i64 k, .string y, .string t, .string o] 45)).alloc (.cells #[.slice none 0 0] 26)) W → (W.cell? ⟨w.heap.size + 1, 0, none⟩ = some (.int .i64 k) ∧ W.cell? ⟨w.heap.size + 1, 1, none⟩ = some (.string y) ∧ W.cell? ⟨w.heap.size + 1, 2, none⟩ = some (.string t) ∧ W.cell? ⟨w.heap.size + 1, 3, none⟩ = some (.string o)) ∧ BD W (w.heap.size + 1 + 1) 26 (.slice none 0 0) ∧ BD W w.heap.size 26 (.slice (some ⟨ga, oa, none⟩) n cap) ∧ RS 3 fcs W (.slice (some ⟨ga, oa, none⟩) n cap) ga oa L) := fun W hW => by
    have h1 := (hW.block (w.heap.size + 1) (by rw [hs3]; omega)).trans hg1
    exact ⟨⟨by rw [cell_of_row _ _ 0 _ _ _ h1]; rfl, by rw [cell_of_row _ _ 1 _ _ _ h1]; rfl, by rw [cell_of_row _ _ 2 _ _ _ h1]; rfl, by rw [cell_of_row _ _ 3 _ _ _ h1]; rfl⟩, (hW.block (w.heap.size + 1 + 1) (by rw [hs3]; omega)).trans hg2, hg0.later hW, hv3.later hW⟩
  have HB0 : Hid (Below w.heap.size w (((w.alloc (.cells #[.slice (some ⟨ga, oa, none⟩) n cap] 26)).alloc (.cells #[.int .i64 k, .string y, .string t, .string o] 45)).alloc (.cells #[.slice none 0 0] 26)) ∧ w.heap.size + 1 + 1 + 1 ≤ (((w.alloc (.cells #[.slice (some ⟨ga, oa, none⟩) n cap] 26)).alloc (.cells #[.int .i64 k, .string y, .string t, .string o] 45)).alloc (.cells #[.slice none 0 0] 26)).heap.size) := ⟨hb0, by rw [hs3]; exact Nat.le_refl _⟩
  have HC := sDiskOk_any _ ga oa L _ hv3
  clear hg0 hg1 hg2 hs3 hb0 hv hv3
  have ek : F.doL L ⟨k, y, t, o⟩ = none := by
    unfold F.doL
    rw [if_neg (by rintro (⟨_, h⟩ | ⟨_, h⟩); exact h ht; exact h ho), if_neg h1, if_neg h2, if_neg h3, if_neg h4]
  obtain ⟨te1, te2⟩ := nil_of' ht
  obtain ⟨oe1, oe2⟩ := nil_of' ho
  have k1 : (k == 1) = false := by simpa using h1
  have k2 : (k == 2) = false := by simpa using h2
  have k3 : (k == 3) = false := by simpa using h3
  have k4 : (k == 4) = false := by simpa using h4
  have k1n : (k != 1) = true := by simpa using h1
  have k3n : (k != 3) = true := by simpa using h3
  rw [hd] at HC
  rw [F.actR_yes _ hd, ek]
  have hnm := fun W => l06Name_any y W
  rw [hy] at hnm
  have HDK : Hid (F.DOk L) := F.diskB_iff.1 hd
  clear ek hd
  go_enter Try.func34, Try.ntmps34
  go_wp2_with fail
  refine HC.mono ?_
  rintro e w1 ⟨rfl, hb1⟩
  obtain ⟨⟨a0, a1, a2, a3⟩, hBD1, hD1, hR1⟩ := HG.out _ hb1
  go_wp2_with fail
  refine (hnm w1).mono ?_
  rintro e w1 ⟨rfl, rfl⟩
  have hz1 : (((w.alloc (.cells #[.slice (some ⟨ga, oa, none⟩) n cap] 26)).alloc (.cells #[.int .i64 k, .string y, .string t, .string o] 45)).alloc (.cells #[.slice none 0 0] 26)).heap.size ≤ w1.heap.size := hb1.size
  have HB1 : Hid (Below (((w.alloc (.cells #[.slice (some ⟨ga, oa, none⟩) n cap] 26)).alloc (.cells #[.int .i64 k, .string y, .string t, .string o] 45)).alloc (.cells #[.slice none 0 0] 26)).heap.size (((w.alloc (.cells #[.slice (some ⟨ga, oa, none⟩) n cap] 26)).alloc (.cells #[.int .i64 k, .string y, .string t, .string o] 45)).alloc (.cells #[.slice none 0 0] 26)) w1 ∧ RS 3 fcs w1 (.slice (some ⟨ga, oa, none⟩) n cap) ga oa L) := ⟨hb1, hR1⟩
  have d1 := hD1.cell
  clear hBD1 hD1 hR1 HC hb1
  go_wp2_with fail
  refine (l06At_any _ ga oa L y _ HB1.out.2).mono ?_
  rintro e w2 ⟨r, rfl, hr, hb2⟩
  obtain ⟨m, hm, rfl, hmX⟩ : ∃ (m : Nat) (h : m < L.length), r = (m : Int) ∧ L[m] = f := by
    rcases hr with ⟨_, h⟩ | ⟨m, h, h1, h2⟩
    · rw [hf] at h; cases h
    · rw [hf] at h2; exact ⟨m, h, h1, (Option.some.inj h2).symm⟩
  have HB2 : Hid (Below (((w.alloc (.cells #[.slice (some ⟨ga, oa, none⟩) n cap] 26)).alloc (.cells #[.int .i64 k, .string y, .string t, .string o] 45)).alloc (.cells #[.slice none 0 0] 26)).heap.size (((w.alloc (.cells #[.slice (some ⟨ga, oa, none⟩) n cap] 26)).alloc (.cells #[.int .i64 k, .string y, .string t, .string o] 45)).alloc (.cells #[.slice none 0 0] 26)) w2) := HB1.out.1.trans (hb2.mono hz1)
  have hz2 : (((w.alloc (.cells #[.slice (some ⟨ga, oa, none⟩) n cap] 26)).alloc (.cells #[.int .i64 k, .string y, .string t, .string o] 45)).alloc (.cells #[.slice none 0 0] 26)).heap.size ≤ w2.heap.size := HB2.out.size
  obtain ⟨⟨a0, a1, a2, a3⟩, _, hD2, hR2⟩ := HG.out _ HB2.out
  have hn2 : (m : Int) < (n : Int) := by omega
  have hn3 : (0 : Int) ≤ (m : Int) := by omega
  have hRa := hR2.alloc (.cells #[.string y, .string ⟨#[]⟩, .int .i64 0] 36)
  obtain ⟨e0, e1, e2⟩ := hRa.file m hm
  rw [hmX] at e0 e1 e2
  have d2 : (w2.alloc (.cells #[.string y, .string ⟨#[]⟩, .int .i64 0] 36)).cell? ⟨w.heap.size, 0, none⟩ = some (.slice (some ⟨ga, oa, none⟩) n cap) := (cell_kept (Below.heap_alloc _ _ w.heap.size hD2.lt)).trans hD2.cell
  have HB5 : Hid (Below (((w.alloc (.cells #[.slice (some ⟨ga, oa, none⟩) n cap] 26)).alloc (.cells #[.int .i64 k, .string y, .string t, .string o] 45)).alloc (.cells #[.slice none 0 0] 26)).heap.size (((w.alloc (.cells #[.slice (some ⟨ga, oa, none⟩) n cap] 26)).alloc (.cells #[.int .i64 k, .string y, .string t, .string o] 45)).alloc (.cells #[.slice none 0 0] 26)) ((w2.alloc (.cells #[.string f.n, .string f.t, .int .i64 f.k] 36)).alloc (.cells #[.slice none 0 0] 26))) := (HB2.out.alloc hz2 _).alloc (Nat.le_trans hz2 (by simp)) _
  obtain ⟨⟨b0, b1, b2, b3⟩, _, _, _⟩ := HG.out _ HB5.out
  have hF5 : BF ((w2.alloc (.cells #[.string f.n, .string f.t, .int .i64 f.k] 36)).alloc (.cells #[.slice none 0 0] 26)) w2.heap.size f := alloc_snd _ _ _ rfl
  have hO5 : BD ((w2.alloc (.cells #[.string f.n, .string f.t, .int .i64 f.k] 36)).alloc (.cells #[.slice none 0 0] 26)) (w2.heap.size + 1) 26 (.slice none 0 0) := alloc_fst _ _ (by simp)
  have hbd := (HG.out _ HB5.out).2.1
  have t0 := hbd.cell
  have g0 := hbd.fr
  have HF : Hid ((((w2.alloc (.cells #[.string f.n, .string f.t, .int .i64 f.k] 36)).alloc (.cells #[.slice none 0 0] 26)).setCell ⟨w.heap.size + 1 + 1, 0, none⟩ (.slice none 0 0)).rangeAt (w.heap.size + 1 + 1) 0 [.slice none 0 0] ∧ Below w.heap.size w (((w2.alloc (.cells #[.string f.n, .string f.t, .int .i64 f.k] 36)).alloc (.cells #[.slice none 0 0] 26)).setCell ⟨w.heap.size + 1 + 1, 0, none⟩ (.slice none 0 0))) := ⟨range1 (set_here t0 g0 _), (HB0.out.1.trans ((HB5.out).mono (Nat.le_trans (by omega) HB0.out.2))).setCell (p := ⟨w.heap.size + 1 + 1, 0, none⟩) (by simp; omega) _⟩
  clear HB1 HB2 hr hb2 hF5 hO5 hbd
  go_wp2
  refine ret_rec2 4 5 (w.heap.size + 1 + 1) 26 [.slice none 0 0] _ _ rfl rfl rfl rfl Try.underlying26 rfl sizeDisk HF.out.1 ?_
  exact ⟨_, rfl, ⟨_, w.heap.size, rfl, RW.nil _ _, Nat.le_refl _⟩, HF.out.2⟩

end Go.Proofs.Ytbmlphlknolieaa
