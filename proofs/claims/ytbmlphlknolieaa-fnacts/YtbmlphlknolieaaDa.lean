/-
  An act on a disk, as the program does it.
-/
import Derived.Test.YtbmlphlknolieaaMl
namespace Go.Proofs.Ytbmlphlknolieaa
open Go.RowKit Go.BigFrame Go.Sort Go.Maps
set_option linter.unusedVariables false
set_option linter.unusedSimpArgs false

namespace F
theorem actR_no {L : List Fl} (a : Ac) (h : diskB L = false) : actR L a = none := by unfold actR; rw [h]; rfl
theorem actR_yes {L : List Fl} (a : Ac) (h : diskB L = true) : actR L a = doL L a := by unfold actR; rw [h]; rfl
end F
/-- no text of an act is great -/
def SmallA (a : Ac) : Prop := a.n.size ≤ 1048576 ∧ a.t.size ≤ 1048576 ∧ a.o.size ≤ 1048576

set_option maxRecDepth 100000 in
set_option maxHeartbeats 2000000 in
theorem DoAct_any (v : Value) (ga oa : Nat) (L : List Fl) (a : Ac) (w : World) (hv : RS 3 fcs w v ga oa L) (ha : SmallA a) :
    Calls Try.prog 24 #[.agg #[v], .agg #[.int .i64 a.k, .string a.n, .string a.t, .string a.o]] w fun e w' => ∃ u, e = .returned (.tuple #[u, .bool (F.actR L a).isSome]) ∧ DkIn w' w.heap.size u ((F.actR L a).getD []) ∧ Below w.heap.size w w' := by
  obtain ⟨x, cap, hsh⟩ := hv.shape
  obtain ⟨n, hn⟩ : ∃ n, L.length = n := ⟨_, rfl⟩
  rw [hn] at hsh
  subst hsh
  have hb0 : Below w.heap.size w (((w.alloc (.cells #[.slice x n cap] 26)).alloc (.cells #[.int .i64 a.k, .string a.n, .string a.t, .string a.o] 45)).alloc (.cells #[.slice none 0 0] 26)) := (((Below.refl _ _).alloc (Nat.le_refl _) _).alloc (by simp) _).alloc (by simp; omega) _
  have hs3 : (((w.alloc (.cells #[.slice x n cap] 26)).alloc (.cells #[.int .i64 a.k, .string a.n, .string a.t, .string a.o] 45)).alloc (.cells #[.slice none 0 0] 26)).heap.size = w.heap.size + 1 + 1 + 1 := by simp
  have hg1 : (((w.alloc (.cells #[.slice x n cap] 26)).alloc (.cells #[.int .i64 a.k, .string a.n, .string a.t, .string a.o] 45)).alloc (.cells #[.slice none 0 0] 26)).heap[w.heap.size + 1]? = some (.cells #[.int .i64 a.k, .string a.n, .string a.t, .string a.o] 45 (0, 0)) := alloc_snd _ _ _ (by simp)
  have hg2 : (((w.alloc (.cells #[.slice x n cap] 26)).alloc (.cells #[.int .i64 a.k, .string a.n, .string a.t, .string a.o] 45)).alloc (.cells #[.slice none 0 0] 26)).heap[w.heap.size + 1 + 1]? = some (.cells #[.slice none 0 0] 26 (0, 0)) := alloc_fst _ _ (by simp)
  have HG : Hid (∀ W, Below (((w.alloc (.cells #[.slice x n cap] 26)).alloc (.cells #[.int .i64 a.k, .string a.n, .string a.t, .string a.o] 45)).alloc (.cells #[.slice none 0 0] 26)).heap.size (((w.alloc (.cells #[.slice x n cap] 26)).alloc (.cells #[.int .i64 a.k, .string a.n, .string a.t, .string a.o] 45)).alloc (.cells #[.slice none 0 0] 26)) W → (W.cell? ⟨w.heap.size + 1, 0, none⟩ = some (.int .i64 a.k) ∧ W.cell? ⟨w.heap.size + 1, 1, none⟩ = some (.string a.n) ∧ W.cell? ⟨w.heap.size + 1, 2, none⟩ = some (.string a.t) ∧ W.cell? ⟨w.heap.size + 1, 3, none⟩ = some (.string a.o)) ∧ BD W (w.heap.size + 1 + 1) 26 (.slice none 0 0)) := fun W hW => by
    have h1 := (hW.block (w.heap.size + 1) (by rw [hs3]; omega)).trans hg1
    exact ⟨⟨by rw [cell_of_row _ _ 0 _ _ _ h1]; rfl, by rw [cell_of_row _ _ 1 _ _ _ h1]; rfl, by rw [cell_of_row _ _ 2 _ _ _ h1]; rfl, by rw [cell_of_row _ _ 3 _ _ _ h1]; rfl⟩, (hW.block (w.heap.size + 1 + 1) (by rw [hs3]; omega)).trans hg2⟩
  have HB0 : Hid (Below w.heap.size w (((w.alloc (.cells #[.slice x n cap] 26)).alloc (.cells #[.int .i64 a.k, .string a.n, .string a.t, .string a.o] 45)).alloc (.cells #[.slice none 0 0] 26)) ∧ w.heap.size + 1 + 1 + 1 ≤ (((w.alloc (.cells #[.slice x n cap] 26)).alloc (.cells #[.int .i64 a.k, .string a.n, .string a.t, .string a.o] 45)).alloc (.cells #[.slice none 0 0] 26)).heap.size) := ⟨hb0, by rw [hs3]; exact Nat.le_refl _⟩
  have hv3 := hv.later hb0
  clear hg1 hg2 hs3 hb0 hv
  cases hd : F.diskB L
  · have HC := filesOf_no _ ga oa L _ hv3 hd
    rw [F.actR_no a hd]
    go_enter Try.func24, Try.ntmps24
    go_wp2_with fail
    refine HC.mono ?_
    rintro e w1 ⟨rfl, hb1⟩
    have hbd := (HG.out _ hb1).2
    have t0 := hbd.cell
    have g0 := hbd.fr
    have HF : Hid ((w1.setCell ⟨w.heap.size + 1 + 1, 0, none⟩ (.slice none 0 0)).rangeAt (w.heap.size + 1 + 1) 0 [.slice none 0 0] ∧ Below w.heap.size w (w1.setCell ⟨w.heap.size + 1 + 1, 0, none⟩ (.slice none 0 0))) := ⟨range1 (set_here t0 g0 _), (HB0.out.1.trans (hb1.mono (Nat.le_trans (by omega) HB0.out.2))).setCell (p := ⟨w.heap.size + 1 + 1, 0, none⟩) (by simp; omega) _⟩
    clear HC hb1 hbd HG HB0
    go_wp2
    refine ret_rec2 4 5 (w.heap.size + 1 + 1) 26 [.slice none 0 0] _ _ rfl rfl rfl rfl Try.underlying26 rfl sizeDisk HF.out.1 ?_
    exact ⟨_, rfl, ⟨_, w.heap.size, rfl, RW.nil _ _, Nat.le_refl _⟩, HF.out.2⟩
  have HC := filesOf_yes _ ga oa L _ hv3 hd
  have HD : Hid (F.DOk L) := F.diskB_iff.1 hd
  rw [F.actR_yes a hd]
  clear hv3 hd
  cases hdo : F.doL L a with
  | none =>
    have HDO : Hid (F.doL L a = none) := hdo
    clear hdo
    go_enter Try.func24, Try.ntmps24
    go_wp2_with fail
    refine HC.mono ?_
    rintro e w1 ⟨b, rfl, p, hS1⟩
    obtain ⟨⟨c0, c1, c2, c3⟩, _⟩ := HG.out _ hS1.1.2.2.2.1
    have hcd := do_any _ _ w1 b L p a hS1 HD.out ha.1 ha.2.1 ha.2.2
    rw [HDO.out] at hcd
    clear HC hS1
    go_wp2_with fail
    refine hcd.mono ?_
    rintro e w2 ⟨rfl, p2, hS2⟩
    have hbw := hS2.1.2.2.2.1
    have hbd := (HG.out _ hbw).2
    have t0 := hbd.cell
    have g0 := hbd.fr
    have HF : Hid ((w2.setCell ⟨w.heap.size + 1 + 1, 0, none⟩ (.slice none 0 0)).rangeAt (w.heap.size + 1 + 1) 0 [.slice none 0 0] ∧ Below w.heap.size w (w2.setCell ⟨w.heap.size + 1 + 1, 0, none⟩ (.slice none 0 0))) := ⟨range1 (set_here t0 g0 _), (HB0.out.1.trans (hbw.mono (Nat.le_trans (by omega) HB0.out.2))).setCell (p := ⟨w.heap.size + 1 + 1, 0, none⟩) (by simp; omega) _⟩
    clear hcd hbd hbw HG HB0 hS2 c0 c1 c2 c3 HDO HD
    go_wp2
    refine ret_rec2 4 5 (w.heap.size + 1 + 1) 26 [.slice none 0 0] _ _ rfl rfl rfl rfl Try.underlying26 rfl sizeDisk HF.out.1 ?_
    exact ⟨_, rfl, ⟨_, w.heap.size, rfl, RW.nil _ _, Nat.le_refl _⟩, HF.out.2⟩
  | some M =>
    have HDO : Hid (F.doL L a = some M) := hdo
    have HM : Hid (F.DOk M) := F.doL_ok HD.out hdo
    clear hdo
    go_enter Try.func24, Try.ntmps24
    go_wp2_with fail
    refine HC.mono ?_
    rintro e w1 ⟨b, rfl, p, hS1⟩
    obtain ⟨⟨c0, c1, c2, c3⟩, _⟩ := HG.out _ hS1.1.2.2.2.1
    have hcd := do_any _ _ w1 b L p a hS1 HD.out ha.1 ha.2.1 ha.2.2
    rw [HDO.out] at hcd
    clear HC hS1
    go_wp2_with fail
    refine hcd.mono ?_
    rintro e w2 ⟨rfl, p2, hS2⟩
    have hck := disk_any _ _ w2 b M p2 hS2 HM.out
    have HS2 : Hid (OpS _ _ w2 b M p2) := hS2
    clear hS2 hcd c0 c1 c2 c3
    go_wp2_with fail
    refine hck.mono ?_
    rintro e w3 ⟨u, rfl, hu, hb3⟩
    obtain ⟨a3, c3, g3, rfl, hr3, hg3⟩ := hu.shape
    have hb2 := HS2.out.1.2.2.2.1
    have hs2 := HS2.out.1.2.2.2.2
    have hbw := hb2.trans (hb3.mono hs2)
    have hbd := (HG.out _ hbw).2
    have t0 := hbd.cell
    have g0 := hbd.fr
    have hsz := Nat.le_trans HB0.out.2 hs2
    have HF : Hid ((w3.setCell ⟨w.heap.size + 1 + 1, 0, none⟩ (.slice a3 M.length c3)).rangeAt (w.heap.size + 1 + 1) 0 [.slice a3 M.length c3] ∧ RW 3 fcs (w3.setCell ⟨w.heap.size + 1 + 1, 0, none⟩ (.slice a3 M.length c3)) (.slice a3 M.length c3) g3 M ∧ Below w.heap.size w (w3.setCell ⟨w.heap.size + 1 + 1, 0, none⟩ (.slice a3 M.length c3)) ∧ w.heap.size ≤ g3) := ⟨range1 (set_here t0 g0 _), hr3.grown (grown_set w3 _ _ _) (fun _ => by simp; omega), (HB0.out.1.trans (hbw.mono (Nat.le_trans (by omega) HB0.out.2))).setCell (p := ⟨w.heap.size + 1 + 1, 0, none⟩) (by simp; omega) _, by omega⟩
    clear hck hbd hbw HG HB0 HS2 HDO HD HM hr3 hu hb3 hb2 hs2 hsz
    go_wp2
    refine ret_rec2 4 5 (w.heap.size + 1 + 1) 26 [.slice a3 M.length c3] _ _ rfl rfl rfl rfl Try.underlying26 rfl sizeDisk HF.out.1 ?_
    exact ⟨_, rfl, ⟨_, g3, rfl, HF.out.2.1, HF.out.2.2.2⟩, HF.out.2.2.1⟩

end Go.Proofs.Ytbmlphlknolieaa
