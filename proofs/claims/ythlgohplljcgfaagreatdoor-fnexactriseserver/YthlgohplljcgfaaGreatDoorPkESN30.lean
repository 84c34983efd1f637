/-
  Texts laid together: Lse, Dcp, GBu, GBs.
-/
import Derived.Test.YthlgohplljcgfaaGreatDoorPkESN29
import Derived.Test.YthlgohplljcgfaaGreatDoorPkESN11
import Derived.Test.YthlgohplljcgfaaGreatDoorPkESN1
import Derived.Test.YthlgohplljcgfaaGreatDoorPkESN0
import Derived.Lib.Builder
import Derived.Lib.AppendStr
import Derived.Lib.UnsafeStr
import Derived.Laws.Externs
import Derived.Shelf.Strings.Builder1
import Derived.Test.YthlgohplljcgfaaGreatDoorProg
/-
  A file copied, and cut when the power goes; a disk that loses.
-/
namespace Go.Proofs.YthlgohplljcgfaaGreatDoor
open Go.RowKit Go.BigFrame Go.Sort
set_option linter.unusedVariables false
set_option linter.unusedSimpArgs false

theorem there_of3 {w : World} {g o : Nat} {u0 u1 u2 : Value} (h0 : w.cell? ⟨g, o, none⟩ = some u0) (h1 : w.cell? ⟨g, o + 1, none⟩ = some u1) (h2 : w.cell? ⟨g, o + 2, none⟩ = some u2) (f0 : w.frozen? ⟨g, o, none⟩ = false) (f1 : w.frozen? ⟨g, o + 1, none⟩ = false) (f2 : w.frozen? ⟨g, o + 2, none⟩ = false) : w.there g o 3 := by
  intro j hj
  rcases j with _ | _ | _ | j
  · exact ⟨by rw [Nat.add_zero, h0]; rfl, f0⟩
  · exact ⟨by rw [h1]; rfl, f1⟩
  · exact ⟨by rw [h2]; rfl, f2⟩
  · omega
set_option maxRecDepth 100000 in
set_option maxHeartbeats 1000000 in
theorem copied_any (f : Fl) (w : World) (hn : f.n.size ≤ 1048576) (ht : f.t.size ≤ 1048576) : Calls Tryz.prog 74 #[.agg #[.string f.n, .string f.t, .int .i64 f.k]] w fun e w' => e = .returned (.agg #[.string f.n, .string f.t, .int .i64 f.k]) ∧ Below w.heap.size w w' := by
  obtain ⟨x, t, k⟩ := f
  simp only at hn ht ⊢
  have hb0 : Below w.heap.size w ((w.alloc (.cells #[.string x, .string t, .int .i64 k] 108)).alloc (.cells #[.string ⟨#[]⟩, .string ⟨#[]⟩, .int .i64 0] 108)) := ((Below.refl _ _).alloc (Nat.le_refl _) _).alloc (by simp) _
  have hG1 : ((w.alloc (.cells #[.string x, .string t, .int .i64 k] 108)).alloc (.cells #[.string ⟨#[]⟩, .string ⟨#[]⟩, .int .i64 0] 108)).heap[w.heap.size]? = some (.cells #[.string x, .string t, .int .i64 k] 108 (0, 0)) := alloc_snd _ _ _ rfl
  have hG2 : ((w.alloc (.cells #[.string x, .string t, .int .i64 k] 108)).alloc (.cells #[.string ⟨#[]⟩, .string ⟨#[]⟩, .int .i64 0] 108)).heap[w.heap.size + 1]? = some (.cells #[.string ⟨#[]⟩, .string ⟨#[]⟩, .int .i64 0] 108 (0, 0)) := alloc_fst _ _ (by simp)
  have hs0 : ((w.alloc (.cells #[.string x, .string t, .int .i64 k] 108)).alloc (.cells #[.string ⟨#[]⟩, .string ⟨#[]⟩, .int .i64 0] 108)).heap.size = w.heap.size + 2 := by simp
  have HK : Hid (∀ W, Below ((w.alloc (.cells #[.string x, .string t, .int .i64 k] 108)).alloc (.cells #[.string ⟨#[]⟩, .string ⟨#[]⟩, .int .i64 0] 108)).heap.size ((w.alloc (.cells #[.string x, .string t, .int .i64 k] 108)).alloc (.cells #[.string ⟨#[]⟩, .string ⟨#[]⟩, .int .i64 0] 108)) W → W.cell? ⟨w.heap.size, 0, none⟩ = some (.string x) ∧ W.cell? ⟨w.heap.size, 1, none⟩ = some (.string t) ∧ W.cell? ⟨w.heap.size, 2, none⟩ = some (.int .i64 k)) := fun W hW => by
    have h1 := (hW.block w.heap.size (by rw [hs0]; omega)).trans hG1
    exact ⟨by rw [cell_of_row _ _ 0 _ _ _ h1]; rfl, by rw [cell_of_row _ _ 1 _ _ _ h1]; rfl, by rw [cell_of_row _ _ 2 _ _ _ h1]; rfl⟩
  have HK2 : Hid (∀ W, Below ((w.alloc (.cells #[.string x, .string t, .int .i64 k] 108)).alloc (.cells #[.string ⟨#[]⟩, .string ⟨#[]⟩, .int .i64 0] 108)).heap.size ((w.alloc (.cells #[.string x, .string t, .int .i64 k] 108)).alloc (.cells #[.string ⟨#[]⟩, .string ⟨#[]⟩, .int .i64 0] 108)) W → (W.cell? ⟨w.heap.size + 1, 0, none⟩ = some (.string ⟨#[]⟩) ∧ W.cell? ⟨w.heap.size + 1, 1, none⟩ = some (.string ⟨#[]⟩) ∧ W.cell? ⟨w.heap.size + 1, 2, none⟩ = some (.int .i64 0)) ∧ W.frozen? ⟨w.heap.size + 1, 0, none⟩ = false ∧ W.frozen? ⟨w.heap.size + 1, 1, none⟩ = false ∧ W.frozen? ⟨w.heap.size + 1, 2, none⟩ = false) := fun W hW => by
    have h1 := (hW.block (w.heap.size + 1) (by rw [hs0]; omega)).trans hG2
    exact ⟨⟨by rw [cell_of_row _ _ 0 _ _ _ h1]; rfl, by rw [cell_of_row _ _ 1 _ _ _ h1]; rfl, by rw [cell_of_row _ _ 2 _ _ _ h1]; rfl⟩, by simp [World.frozen?, h1], by simp [World.frozen?, h1], by simp [World.frozen?, h1]⟩
  have HB0 : Hid (Below w.heap.size w ((w.alloc (.cells #[.string x, .string t, .int .i64 k] 108)).alloc (.cells #[.string ⟨#[]⟩, .string ⟨#[]⟩, .int .i64 0] 108)) ∧ w.heap.size ≤ ((w.alloc (.cells #[.string x, .string t, .int .i64 k] 108)).alloc (.cells #[.string ⟨#[]⟩, .string ⟨#[]⟩, .int .i64 0] 108)).heap.size) := ⟨hb0, by rw [hs0]; omega⟩
  have hb : Below ((w.alloc (.cells #[.string x, .string t, .int .i64 k] 108)).alloc (.cells #[.string ⟨#[]⟩, .string ⟨#[]⟩, .int .i64 0] 108)).heap.size ((w.alloc (.cells #[.string x, .string t, .int .i64 k] 108)).alloc (.cells #[.string ⟨#[]⟩, .string ⟨#[]⟩, .int .i64 0] 108)) ((w.alloc (.cells #[.string x, .string t, .int .i64 k] 108)).alloc (.cells #[.string ⟨#[]⟩, .string ⟨#[]⟩, .int .i64 0] 108)).drew := (Below.refl _ _).drew
  clear hb0 hG1 hG2 hs0
  go_enter Tryz.func74, Tryz.ntmps74
  go_wp2
  go_region_held3 (fun W => W.cell? ⟨w.heap.size, 0, none⟩ = some (.string x) ∧ W.cell? ⟨w.heap.size, 1, none⟩ = some (.string t) ∧ W.cell? ⟨w.heap.size, 2, none⟩ = some (.int .i64 k)) (first | go_keep | exact HK.out _ hb) ((go_at_call 110; refine (strClone_any _ _ (by first | exact hn | exact ht)).mono ?_; rintro e w1 ⟨rfl, hb1'⟩; have hb := hb.trans (hb1'.mono hb.size); obtain ⟨⟨t0, t1, t2⟩, g0, g1, g2⟩ := HK2.out _ hb))
  have HF : Hid ((w1.setCells (w.heap.size + 1) 0 [.string x, .string t, .int .i64 k]).rangeAt (w.heap.size + 1) 0 [.string x, .string t, .int .i64 k] ∧ Below w.heap.size w (w1.setCells (w.heap.size + 1) 0 [.string x, .string t, .int .i64 k])) :=
    ⟨World.rangeAt_setCells_same _ _ _ _ (there_of3 t0 t1 t2 g0 g1 g2), below_setCells (by omega) _ _ _ (HB0.out.1.trans (hb.mono HB0.out.2))⟩
  go_wp2
  exact ret_rec 2 (w.heap.size + 1) 108 [.string x, .string t, .int .i64 k] _ rfl rfl rfl Tryz.underlying108 rfl sizeFile HF.out.1 ⟨rfl, HF.out.2⟩

set_option maxRecDepth 100000 in
set_option maxHeartbeats 1000000 in
theorem cut_any (f : Fl) (x : Int) (w : World) (hf : F.flB f = true) :
    Calls Tryz.prog 94 #[.agg #[.string f.n, .string f.t, .int .i64 f.k], .int .i64 x] w fun e w' => e = .returned (.agg #[.string (F.cutF f x).n, .string (F.cutF f x).t, .int .i64 (F.cutF f x).k]) ∧ Below w.heap.size w w' := by
  have hm := F.cutN_min hf x
  have hin := F.cutN_in hf x
  have hfl := F.flB_iff.1 hf
  obtain ⟨y, t, k⟩ := f
  obtain ⟨c, hc⟩ : ∃ c : Nat, F.cutN ⟨y, t, k⟩ x = (c : Int) := ⟨(F.cutN ⟨y, t, k⟩ x).toNat, by omega⟩
  have e1 : F.cutF ⟨y, t, k⟩ x = ⟨y, t.extract 0 c, (c : Int)⟩ := by unfold F.cutF; rw [hc]; rfl
  rw [e1]
  rw [hc] at hm hin
  simp only at hm hin hfl
  clear e1 hc hf
  have hcl := fun W => copied_any ⟨y, t.extract 0 c, (c : Int)⟩ W (by have := hfl.1; unfold F.nmB at this; simp at this; show y.size ≤ 1048576; omega) (by show (t.extract 0 c).size ≤ 1048576; simp; omega)
  go_enter Tryz.func94, Tryz.ntmps94
  go_wp2_with fail
  refine (hcl _).mono ?_
  rintro e w1 ⟨rfl, hb1⟩
  have hG : w1.heap[w.heap.size + 1]? = some (.cells #[.string ⟨#[]⟩, .string ⟨#[]⟩, .int .i64 0] 108 (0, 0)) := (hb1.block (w.heap.size + 1) (by simp)).trans (alloc_fst _ _ (by simp))
  have t0 : w1.cell? ⟨w.heap.size + 1, 0, none⟩ = some (.string ⟨#[]⟩) := by rw [cell_of_row _ _ 0 _ _ _ hG]; rfl
  have t1 : w1.cell? ⟨w.heap.size + 1, 1, none⟩ = some (.string ⟨#[]⟩) := by rw [cell_of_row _ _ 1 _ _ _ hG]; rfl
  have t2 : w1.cell? ⟨w.heap.size + 1, 2, none⟩ = some (.int .i64 0) := by rw [cell_of_row _ _ 2 _ _ _ hG]; rfl
  have g0 : w1.frozen? ⟨w.heap.size + 1, 0, none⟩ = false := by simp [World.frozen?, hG]
  have g1 : w1.frozen? ⟨w.heap.size + 1, 1, none⟩ = false := by simp [World.frozen?, hG]
  have g2 : w1.frozen? ⟨w.heap.size + 1, 2, none⟩ = false := by simp [World.frozen?, hG]
  have hb0 : Below w.heap.size w ((w.alloc (.cells #[.string y, .string (t.extract 0 c), .int .i64 (c : Int)] 108)).alloc (.cells #[.string ⟨#[]⟩, .string ⟨#[]⟩, .int .i64 0] 108)) := ((Below.refl _ _).alloc (Nat.le_refl _) _).alloc (by simp) _
  have HF : Hid ((w1.setCells (w.heap.size + 1) 0 [.string y, .string (t.extract 0 c), .int .i64 (c : Int)]).rangeAt (w.heap.size + 1) 0 [.string y, .string (t.extract 0 c), .int .i64 (c : Int)] ∧ Below w.heap.size w (w1.setCells (w.heap.size + 1) 0 [.string y, .string (t.extract 0 c), .int .i64 (c : Int)])) :=
    ⟨World.rangeAt_setCells_same _ _ _ _ (there_of3 t0 t1 t2 g0 g1 g2), below_setCells (by omega) _ _ _ (hb0.trans (hb1.mono hb0.size))⟩
  clear hb0 hb1 hG hcl
  go_wp2
  exact ret_rec 4 (w.heap.size + 1) 108 [.string y, .string (t.extract 0 c), .int .i64 (c : Int)] _ rfl rfl rfl Tryz.underlying108 rfl sizeFile HF.out.1 ⟨rfl, HF.out.2⟩

namespace F
theorem cutL_len : ∀ (L : List Fl) (Q : List Int), (cutL L Q).length = L.length
  | [], _ => by simp [cutL]
  | f :: r, [] => by simp [cutL, cutL_len r []]
  | f :: r, n :: q => by simp [cutL, cutL_len r q]
theorem cutL_at : ∀ (L : List Fl) (Q : List Int) (j : Nat) (h : j < (cutL L Q).length) (h2 : j < L.length), (cutL L Q)[j] = cutF L[j] (Q.getD j 0)
  | [], _, _, _, h => by simp at h
  | f :: r, [], 0, _, _ => by simp [cutL]
  | f :: r, n :: q, 0, _, _ => by simp [cutL]
  | f :: r, [], j + 1, h, h2 => by
    have := cutL_at r [] j (by simpa [cutL] using h) (by simpa using h2)
    simp [cutL] at this ⊢
    exact this
  | f :: r, n :: q, j + 1, h, h2 => by
    have := cutL_at r q j (by simpa [cutL] using h) (by simpa using h2)
    simp [cutL] at this ⊢
    exact this
/-- a disk that has lost -/
noncomputable def loseR (L : List Fl) (Q : List Int) : List Fl := if diskB L then cutL L Q else []
end F

set_option maxRecDepth 100000 in
set_option maxHeartbeats 1000000 in
theorem LoseDisk_any (v : Value) (ga oa : Nat) (L : List Fl) (q : Value) (gq oq : Nat) (Q : List Int) (w : World) (hv : RS 3 fcs w v ga oa L) (hq : RS 1 ics w q gq oq Q) :
    Calls Tryz.prog 53 #[.agg #[v], q] w fun e w' => ∃ u, e = .returned (.tuple #[u, .bool (F.diskB L)]) ∧ DkIn w' w.heap.size u (F.loseR L Q) ∧ Below w.heap.size w w' := by
  have hb0 : Below w.heap.size w ((w.alloc (.cells #[v] 28)).alloc (.cells #[.slice none 0 0] 28)) := ((Below.refl _ _).alloc (Nat.le_refl _) _).alloc (by simp) _
  have HC := DiskOk_any v ga oa L _ (hv.later hb0)
  have HV : Hid (RS 3 fcs ((w.alloc (.cells #[v] 28)).alloc (.cells #[.slice none 0 0] 28)) v ga oa L ∧ RS 1 ics ((w.alloc (.cells #[v] 28)).alloc (.cells #[.slice none 0 0] 28)) q gq oq Q ∧ Below w.heap.size w ((w.alloc (.cells #[v] 28)).alloc (.cells #[.slice none 0 0] 28))) := ⟨hv.later hb0, hq.later hb0, hb0⟩
  obtain ⟨a, cap, rfl, hl, hA, _⟩ := hv
  obtain ⟨aq, cq, rfl, hlq, hAq, _⟩ := hq
  obtain ⟨n, hn⟩ : ∃ n, L.length = n := ⟨_, rfl⟩
  obtain ⟨nq, hnq⟩ : ∃ nq, Q.length = nq := ⟨_, rfl⟩
  have HA : Hid ((0 < n → a = some ⟨ga, oa, none⟩) ∧ (0 < nq → aq = some ⟨gq, oq, none⟩)) := ⟨fun h => (hA (by omega)).1, fun h => (hAq (by omega)).1⟩
  have HG : Hid (((w.alloc (.cells #[.slice a n cap] 28)).alloc (.cells #[.slice none 0 0] 28)).heap[w.heap.size]? = some (.cells #[.slice a n cap] 28 (0, 0)) ∧ ((w.alloc (.cells #[.slice a n cap] 28)).alloc (.cells #[.slice none 0 0] 28)).heap[w.heap.size + 1]? = some (.cells #[.slice none 0 0] 28 (0, 0))) := ⟨alloc_snd _ _ _ rfl, alloc_fst _ _ (by simp)⟩
  rw [hn] at hl HC HV hb0 ⊢
  rw [hnq] at hlq HV ⊢
  clear hA hAq hb0
  have hs0 : ((w.alloc (.cells #[.slice a n cap] 28)).alloc (.cells #[.slice none 0 0] 28)).heap.size = w.heap.size + 2 := by simp
  cases hd : F.diskB L
  · rw [hd] at HC
    have el : F.loseR L Q = [] := by unfold F.loseR; rw [hd]; rfl
    rw [el]
    clear el
    go_enter Tryz.func53, Tryz.ntmps53
    go_wp2_with fail
    refine HC.mono ?_
    rintro e w1 ⟨rfl, hb1⟩
    have hG : w1.heap[w.heap.size + 1]? = some (.cells #[.slice none 0 0] 28 (0, 0)) := (hb1.block _ (by rw [hs0]; omega)).trans HG.out.2
    have t0 : w1.cell? ⟨w.heap.size + 1, 0, none⟩ = some (.slice none 0 0) := by rw [cell_of_row _ _ 0 _ _ _ hG]; rfl
    have g0 : w1.frozen? ⟨w.heap.size + 1, 0, none⟩ = false := by simp [World.frozen?, hG]
    have HF : Hid ((w1.setCell ⟨w.heap.size + 1, 0, none⟩ (.slice none 0 0)).rangeAt (w.heap.size + 1) 0 [.slice none 0 0] ∧ Below w.heap.size w (w1.setCell ⟨w.heap.size + 1, 0, none⟩ (.slice none 0 0))) := ⟨range1 (set_here t0 g0 _), (HV.out.2.2.trans (hb1.mono (by rw [hs0]; omega))).setCell (p := ⟨w.heap.size + 1, 0, none⟩) (by simp) _⟩
    clear HC hb1 hG HV HA HG
    go_wp2
    refine ret_rec2 4 5 (w.heap.size + 1) 28 [.slice none 0 0] _ _ rfl rfl rfl rfl Tryz.underlying28 rfl sizeDisk HF.out.1 ?_
    exact ⟨_, rfl, ⟨_, w.heap.size, rfl, RW.nil _ _, Nat.le_refl _⟩, HF.out.2⟩
  rw [hd] at HC
  have el : F.loseR L Q = F.cutL L Q := by unfold F.loseR; rw [hd]; rfl
  rw [el]
  obtain ⟨M, hM⟩ : ∃ M, F.cutL L Q = M := ⟨_, rfl⟩
  have HM : Hid (M.length = n ∧ ∀ j (h : j < M.length) (h2 : j < L.length), M[j] = F.cutF L[j] (Q.getD j 0)) := by
    subst hM
    exact ⟨by rw [F.cutL_len]; exact hn, fun j h h2 => F.cutL_at L Q j h h2⟩
  have HD : Hid (F.DOk L) := F.diskB_iff.1 hd
  rw [hM]
  clear el hM hd
  go_enter Tryz.func53, Tryz.ntmps53
  go_wp2_with fail
  refine HC.mono ?_
  rintro e w1 ⟨rfl, hb1⟩
  have hs1 : w.heap.size + 2 ≤ w1.heap.size := by have := hb1.size; omega
  have d1 : w1.cell? ⟨w.heap.size, 0, none⟩ = some (.slice a n cap) := by rw [cell_of_row _ _ 0 _ _ _ ((hb1.block w.heap.size (by rw [hs0]; omega)).trans HG.out.1)]; rfl
  have HV1 : Hid (RS 3 fcs w1 (.slice a n cap) ga oa L ∧ RS 1 ics w1 (.slice aq nq cq) gq oq Q ∧ Below w.heap.size w w1 ∧ BD w1 (w.heap.size + 1) 28 (.slice none 0 0)) := ⟨HV.out.1.later hb1, HV.out.2.1.later hb1, HV.out.2.2.trans (hb1.mono (by rw [hs0]; omega)), (hb1.block _ (by rw [hs0]; omega)).trans HG.out.2⟩
  clear HC hb1 HV HG hs0
  obtain ⟨w2, hmk, hib, hb2, hs2⟩ := made_files n (by omega) w1
  have d2 : w2.cell? ⟨w.heap.size, 0, none⟩ = some (.slice a n cap) := (hb2.cell (p := ⟨w.heap.size, 0, none⟩) (by simp; omega)).trans d1
  have HST : Hid (ToF w1 M w1.heap.size w1.heap.size (.int .i64 0) w2 ∧ w1.heap.size < w2.heap.size) := ⟨⟨0, by omega, rfl, fun j _ h => by omega, by rw [HM.out.1]; exact hib, hb2⟩, by omega⟩
  clear hib hb2 hs2
  go_wp2
  clear hmk d1 d2
  go_loopw [21] (fun i wr => ToF w1 M w1.heap.size w1.heap.size i wr ∧ w1.heap.size < wr.heap.size) (fun i _ => n - (intOf i).toNat)
  case atStart => exact HST.out
  case round =>
    obtain ⟨⟨m, hm, rfl, h1, h2, hbel⟩, hws⟩ := hrel
    have HI : Hid ((∀ j (h : j < M.length), j < m → wr.rangeAt w1.heap.size (j * 3) (fcs M[j])) ∧ (∀ j, j < M.length → wr.there w1.heap.size (j * 3) 3) ∧ Below w1.heap.size w1 wr) := ⟨h1, h2, hbel⟩
    clear HST h1 h2 hbel
    rw [HM.out.1] at hm
    by_cases hlt : m < n
    · have ea := HA.out.1 (by omega)
      subst ea
      obtain ⟨c0, c1, c2⟩ := (HV1.out.1.later HI.out.2.2).file m (by omega)
      obtain ⟨X, hX⟩ : ∃ X, L[m]'(by omega) = X := ⟨_, rfl⟩
      rw [hX] at c0 c1 c2
      obtain ⟨Y, hY⟩ : ∃ Y, Q.getD m 0 = Y := ⟨_, rfl⟩
      have hfl := HD.out.2.1 X (by rw [← hX]; exact List.getElem_mem _)
      have HX : Hid ((M[m]'(by rw [HM.out.1]; omega)) = F.cutF X Y) := by
        have := HM.out.2 m (by rw [HM.out.1]; omega) (by omega)
        rw [hX, hY] at this
        exact this
      have hcl := fun W => cut_any X Y W hfl
      have i1 : (m : Int) < (n : Int) := by omega
      have i2 : (0 : Int) ≤ (m : Int) := by omega
      have hwa : Below wr.heap.size wr (wr.alloc (.cells #[.string X.n, .string X.t, .int .i64 X.k] 108)) := (Below.refl _ _).alloc (Nat.le_refl _) _
      have HN : Hid (∀ W, Below (wr.alloc (.cells #[.string X.n, .string X.t, .int .i64 X.k] 108)).heap.size (wr.alloc (.cells #[.string X.n, .string X.t, .int .i64 X.k] 108)) W → W.there w1.heap.size (m * 3) 3 ∧ (ToF w1 M w1.heap.size w1.heap.size (.int .i64 (m + 1 : Nat)) (W.setCells w1.heap.size (m * 3) (fcs (F.cutF X Y))) ∧ w1.heap.size < (W.setCells w1.heap.size (m * 3) (fcs (F.cutF X Y))).heap.size)) := fun W hW => by
        have hb := hwa.trans (hW.mono hwa.size)
        have hwg := hb.block w1.heap.size hws
        have h := ToF.set (w := w1) (wr := W) (l := M) (g := w1.heap.size) (m := m) (B := w1.heap.size) (by rw [HM.out.1]; omega) (Nat.le_refl _) (fun j hj h => range_kept (HI.out.1 j hj h) hwg) (fun j hj => there_kept (HI.out.2.1 j hj) hwg) (HI.out.2.2.trans (hb.mono HI.out.2.2.size))
        rw [HX.out] at h
        exact ⟨there_kept (HI.out.2.1 m (by rw [HM.out.1]; omega)) hwg, ⟨m + 1, by rw [HM.out.1]; omega, rfl, h⟩, by rw [size_setCells]; exact Nat.lt_of_lt_of_le hws hb.size⟩
      by_cases hmq : m < nq
      · have eq := HA.out.2 (by omega)
        subst eq
        have cq0 := (HV1.out.2.1.later HI.out.2.2).int m (by omega)
        have hYq : Q[m]'(by omega) = Y := by rw [← hY]; simp [List.getD, List.getElem?_eq_getElem (show m < Q.length by omega)]
        rw [hYq] at cq0
        have cq1 : (wr.alloc (.cells #[.string X.n, .string X.t, .int .i64 X.k] 108)).cell? ⟨gq, oq + m, none⟩ = some (.int .i64 Y) := (cell_kept (Below.heap_alloc _ _ gq (lt_of_cell cq0))).trans cq0
        have j1 : (m : Int) < (nq : Int) := by omega
        clear HX HI HA HV1 HD hX hY hYq hfl hwa
        generalize F.cutF X Y = Z at *
        go_wp2_with fail
        refine (hcl _).mono ?_
        rintro e w3 ⟨rfl, hb3⟩
        have HZ := HN.out _ hb3
        obtain ⟨⟨o0, x0⟩, ⟨o1, x1⟩, ⟨o2, x2⟩, f0, f1, f2⟩ := there3 HZ.1
        have HZ2 : Hid (ToF w1 M w1.heap.size w1.heap.size (.int .i64 (m + 1 : Nat)) (w3.setCells w1.heap.size (m * 3) (fcs Z)) ∧ w1.heap.size < (w3.setCells w1.heap.size (m * 3) (fcs Z)).heap.size) := HZ.2
        clear HZ HN hb3 hcl c0 c1 c2 cq0 cq1
        go_wp2
        go_roundw
        case rel => exact HZ2.out
        case measure => simp [intOf]; omega
      · have hYq : Y = 0 := by rw [← hY]; simp [List.getD, List.getElem?_eq_none (show Q.length ≤ m by omega)]
        subst hYq
        have j1 : ¬ (m : Int) < (nq : Int) := by omega
        clear HX HI HA HV1 HD hX hY hfl hwa
        generalize F.cutF X 0 = Z at *
        go_wp2_with fail
        refine (hcl _).mono ?_
        rintro e w3 ⟨rfl, hb3⟩
        have HZ := HN.out _ hb3
        obtain ⟨⟨o0, x0⟩, ⟨o1, x1⟩, ⟨o2, x2⟩, f0, f1, f2⟩ := there3 HZ.1
        have HZ2 : Hid (ToF w1 M w1.heap.size w1.heap.size (.int .i64 (m + 1 : Nat)) (w3.setCells w1.heap.size (m * 3) (fcs Z)) ∧ w1.heap.size < (w3.setCells w1.heap.size (m * 3) (fcs Z)).heap.size) := HZ.2
        clear HZ HN hb3 hcl c0 c1 c2
        go_wp2
        go_roundw
        case rel => exact HZ2.out
        case measure => simp [intOf]; omega
    · have hme : m = n := by omega
      subst hme
      have hbd := HV1.out.2.2.2.later HI.out.2.2
      have t0 := hbd.cell
      have g0 : wr.frozen? ⟨w.heap.size + 1, 0, none⟩ = false := by simp [World.frozen?, show wr.heap[w.heap.size + 1]? = some (.cells #[.slice none 0 0] 28 (0, 0)) from hbd]
      have hrw : RW 3 fcs wr (.slice (some ⟨w1.heap.size, 0, none⟩) m m) w1.heap.size M := ⟨⟨_, _, by rw [HM.out.1], by rw [HM.out.1]; omega, fun _ => ⟨rfl, hws⟩, fun j hj => by rw [Nat.zero_add]; exact HI.out.1 j hj (by rw [HM.out.1] at hj; omega)⟩, HI.out.2.1⟩
      have hbw := HV1.out.2.2.1.trans (HI.out.2.2.mono HV1.out.2.2.1.size)
      have HF : Hid ((wr.setCell ⟨w.heap.size + 1, 0, none⟩ (.slice (some ⟨w1.heap.size, 0, none⟩) m m)).rangeAt (w.heap.size + 1) 0 [.slice (some ⟨w1.heap.size, 0, none⟩) m m] ∧ RW 3 fcs (wr.setCell ⟨w.heap.size + 1, 0, none⟩ (.slice (some ⟨w1.heap.size, 0, none⟩) m m)) (.slice (some ⟨w1.heap.size, 0, none⟩) m m) w1.heap.size M ∧ Below w.heap.size w (wr.setCell ⟨w.heap.size + 1, 0, none⟩ (.slice (some ⟨w1.heap.size, 0, none⟩) m m))) :=
        ⟨range1 (set_here t0 g0 _), hrw.grown (grown_set wr _ _ _) (fun _ => by simp; omega), hbw.setCell (p := ⟨w.heap.size + 1, 0, none⟩) (by simp) _⟩
      clear hbd hrw hbw HI HA HV1 HD
      go_wp2
      refine ret_rec2 4 5 (w.heap.size + 1) 28 [.slice (some ⟨w1.heap.size, 0, none⟩) m m] _ _ rfl rfl rfl rfl Tryz.underlying28 rfl sizeDisk HF.out.1 ?_
      exact ⟨_, rfl, ⟨_, w1.heap.size, rfl, HF.out.2.1, by omega⟩, HF.out.2.2⟩

end Go.Proofs.YthlgohplljcgfaaGreatDoor
/-
  A disk copied, as the program does it.
-/
namespace Go.Proofs.YthlgohplljcgfaaGreatDoor
open Go.RowKit Go.BigFrame Go.Sort
set_option linter.unusedVariables false
set_option linter.unusedSimpArgs false

theorem BD.frC {W : World} {p T : Nat} {v : Value} (h : BD W p T v) : W.frozen? ⟨p, 0, none⟩ = false := by
  simp [World.frozen?, show W.heap[p]? = some (.cells #[v] T (0, 0)) from h]
set_option maxRecDepth 100000 in
set_option maxHeartbeats 1000000 in
theorem diskCopy_any (v : Value) (ga oa : Nat) (l : List Fl) (w : World) (hv : RS 3 fcs w v ga oa l) (hsm : SmallF l) :
    Calls Tryz.prog 31 #[.agg #[v]] w fun e w' => ∃ u, e = .returned u ∧ DkIn w' w.heap.size u l ∧ Below w.heap.size w w' := by
  obtain ⟨a, cap, rfl, hl, hA, hc⟩ := id hv
  obtain ⟨W2, hW2⟩ : ∃ W2, (w.alloc (.cells #[.slice a l.length cap] 28)).alloc (.cells #[.slice none 0 0] 28) = W2 := ⟨_, rfl⟩
  have hb2 : Below w.heap.size w W2 := by rw [← hW2]; exact ((Below.refl _ _).alloc (Nat.le_refl _) _).alloc (by simp) _
  have hs2 : W2.heap.size = w.heap.size + 1 + 1 := by rw [← hW2]; simp
  have hq0 : BD W2 w.heap.size 28 (.slice a l.length cap) := by rw [← hW2]; exact alloc_snd _ _ _ rfl
  have hq1 : BD W2 (w.heap.size + 1) 28 (.slice none 0 0) := by rw [← hW2]; exact alloc_fst _ _ (by simp)
  have HV : Hid (RS 3 fcs W2 (.slice a l.length cap) ga oa l) := hv.later hb2
  have HSM : Hid (SmallF l) := hsm
  obtain ⟨n, hn⟩ : ∃ n, l.length = n := ⟨_, rfl⟩
  obtain ⟨w3, hmk, hib, hb3, hs3⟩ := made_files n (by omega) W2
  have c30 := (hq0.later hb3).cell
  have c20 := hq0.cell
  have HQ : Hid (Below w.heap.size w W2 ∧ W2.heap.size = w.heap.size + 1 + 1 ∧ BD W2 (w.heap.size + 1) 28 (.slice none 0 0)) := ⟨hb2, hs2, hq1⟩
  have HST : Hid (ToF W2 l W2.heap.size W2.heap.size (.int .i64 0) w3 ∧ W2.heap.size < w3.heap.size) := ⟨⟨0, by omega, rfl, fun j _ h => by omega, by rw [hn]; exact hib, hb3⟩, by omega⟩
  have HA : Hid (0 < n → a = some ⟨ga, oa, none⟩) := by rw [← hn]; exact fun h => (hA h).1
  have hzz : W2.heap.size = w.heap.size + 1 + 1 := hs2
  rw [hn] at hl c20 c30 HV ⊢
  rw [hn] at hW2
  clear hib hb2 hs2 hA hc hv hq0 hq1 hb3 hs3 hsm
  rw [hzz] at HST
  have HZ : Hid (W2.heap.size = w.heap.size + 1 + 1) := hzz
  go_enter Tryz.func31, Tryz.ntmps31
  go_wp2
  clear hmk c30 c20 hW2 hzz
  go_loopw [13] (fun i wr => ToF W2 l (w.heap.size + 1 + 1) (w.heap.size + 1 + 1) i wr ∧ w.heap.size + 1 + 1 < wr.heap.size) (fun i _ => n - (intOf i).toNat)
  case atStart => exact HST.out
  case round =>
    obtain ⟨⟨m, hm, rfl, h1, h2, hbel⟩, hws⟩ := hrel
    have HI : Hid ((∀ j (h : j < l.length), j < m → wr.rangeAt (w.heap.size + 1 + 1) (j * 3) (fcs l[j])) ∧ (∀ j, j < l.length → wr.there (w.heap.size + 1 + 1) (j * 3) 3) ∧ Below (w.heap.size + 1 + 1) W2 wr) := ⟨h1, h2, hbel⟩
    clear HST h1 h2 hbel
    rw [hn] at hm
    by_cases hlt : m < n
    · have ea := HA.out (by omega)
      subst ea
      obtain ⟨c0, c1, c2⟩ := (HV.out.later (by rw [HZ.out]; exact HI.out.2.2)).file m (by omega)
      obtain ⟨X, hX⟩ : ∃ X, l[m]'(by omega) = X := ⟨_, rfl⟩
      rw [hX] at c0 c1 c2
      have hXs := HSM.out X (by rw [← hX]; exact List.getElem_mem _)
      have HX : Hid (l[m]'(by omega) = X) := hX
      have i1 : (m : Int) < (n : Int) := by omega
      have i2 : (0 : Int) ≤ (m : Int) := by omega
      clear hX HV HA HQ HSM
      go_wp2_with fail
      refine (copied_any X _ hXs.1 hXs.2).mono ?_
      rintro e w1 ⟨rfl, hb1'⟩
      have hb1 : Below wr.heap.size wr w1 := ((Below.refl _ wr).alloc (Nat.le_refl _) _).trans (hb1'.mono (by simp))
      have HJ : Hid ((∀ j (h : j < l.length), j < m + 1 → (w1.setCells (w.heap.size + 1 + 1) (m * 3) (fcs X)).rangeAt (w.heap.size + 1 + 1) (j * 3) (fcs l[j])) ∧ (∀ j, j < l.length → (w1.setCells (w.heap.size + 1 + 1) (m * 3) (fcs X)).there (w.heap.size + 1 + 1) (j * 3) 3) ∧ Below (w.heap.size + 1 + 1) W2 (w1.setCells (w.heap.size + 1 + 1) (m * 3) (fcs X))) := by
        have h := ToF.set (w := W2) (wr := w1) (l := l) (g := w.heap.size + 1 + 1) (m := m) (B := w.heap.size + 1 + 1) (by omega) (Nat.le_refl _) (fun j hj h => range_kept (HI.out.1 j hj h) (hb1.block _ hws)) (fun j hj => there_kept (HI.out.2.1 j hj) (hb1.block _ hws)) (HI.out.2.2.trans (hb1.mono (by omega)))
        rw [HX.out] at h
        exact h
      have HT : Hid (w1.there (w.heap.size + 1 + 1) (m * 3) 3) := there_kept (HI.out.2.1 m (by omega)) (hb1.block _ hws)
      have hws1 : w.heap.size + 1 + 1 < (w1.setCells (w.heap.size + 1 + 1) (m * 3) (fcs X)).heap.size := by rw [size_setCells]; exact Nat.lt_of_lt_of_le hws hb1.size
      clear hb1 hb1' HI c0 c1 c2 hXs
      obtain ⟨⟨o0, x0⟩, ⟨o1, x1⟩, ⟨o2, x2⟩, f0, f1, f2⟩ := there3 HT.out
      go_wp2
      go_roundw
      case rel => exact ⟨⟨m + 1, by omega, by go_num, HJ.out⟩, hws1⟩
      case measure => simp [intOf]; omega
    · have hme : m = n := by omega
      subst hme
      have hq1 := (HQ.out.2.2.later (by rw [HZ.out]; exact HI.out.2.2))
      have t0 := hq1.cell
      have g0 := hq1.frC
      have HR : Hid (RW 3 fcs wr (.slice (some ⟨w.heap.size + 1 + 1, 0, none⟩) m m) (w.heap.size + 1 + 1) l) := ⟨⟨_, _, by rw [hn], by omega, fun _ => ⟨rfl, hws⟩, fun j hj => by rw [Nat.zero_add]; exact HI.out.1 j hj (by omega)⟩, HI.out.2.1⟩
      have HF : Hid ((wr.setCell ⟨w.heap.size + 1, 0, none⟩ (.slice (some ⟨w.heap.size + 1 + 1, 0, none⟩) m m)).rangeAt (w.heap.size + 1) 0 [.slice (some ⟨w.heap.size + 1 + 1, 0, none⟩) m m] ∧ RW 3 fcs (wr.setCell ⟨w.heap.size + 1, 0, none⟩ (.slice (some ⟨w.heap.size + 1 + 1, 0, none⟩) m m)) (.slice (some ⟨w.heap.size + 1 + 1, 0, none⟩) m m) (w.heap.size + 1 + 1) l ∧ Below w.heap.size w (wr.setCell ⟨w.heap.size + 1, 0, none⟩ (.slice (some ⟨w.heap.size + 1 + 1, 0, none⟩) m m))) :=
        ⟨range1 (set_here t0 g0 _), HR.out.grown (grown_set wr _ _ _) (fun _ => by simp), (HQ.out.1.trans (HI.out.2.2.mono (by omega))).setCell (p := ⟨w.heap.size + 1, 0, none⟩) (by simp) _⟩
      clear HV HA HQ HI hq1 HR HSM
      go_wp2
      refine ret_rec 2 (w.heap.size + 1) 28 [.slice (some ⟨w.heap.size + 1 + 1, 0, none⟩) m m] _ rfl rfl rfl Tryz.underlying28 rfl sizeDisk HF.out.1 ?_
      exact ⟨_, rfl, ⟨_, w.heap.size + 1 + 1, rfl, HF.out.2.1, by omega⟩, HF.out.2.2⟩

end Go.Proofs.YthlgohplljcgfaaGreatDoor
/-
  A strings.Builder that a call has made itself: what it holds behind WriteString.
-/
namespace Go.Proofs.YthlgohplljcgfaaGreatDoor
open Go.RowKit
set_option linter.unusedVariables false

theorem Tryz.infoByte : (Tryz.prog.info? 5).map (fun i => (i.zero, i.size, i.bytes)) = some (some (.int .u8 0), 1, 1) := by kernel_rfl

/-- what stays of a builder where nothing below is written -/
theorem BuilderAt_later {T e : TypeId} {B b : Nat} {p : Value} {bs : List Value} {w w' : World} (h : Lib.BuilderAt T e B b p bs w) (hb : Below w.heap.size w w') : Lib.BuilderAt T e B b p bs w' := by
  have hlt := h.lt
  obtain ⟨hB, v, hbk, hown, hne⟩ := h
  refine ⟨hB, v, (hb.block b hlt).trans hbk, ⟨hown.1, ?_⟩, hne⟩
  rcases hown.2 with hn | ⟨g, cap, cur, hv, hbg, hg, rest⟩
  · exact .inl hn
  · refine .inr ⟨g, cap, cur, hv, hbg, ?_, rest⟩
    rw [hb.block g (Array.getElem?_eq_some_iff.1 hg).1]
    exact hg
theorem IsBuilder_later {T e : TypeId} {B b : Nat} {bs : List Value} {w w' : World} (h : Lib.IsBuilder T e B b bs w) (hb : Below w.heap.size w w') : Lib.IsBuilder T e B b bs w' := h.imp (BuilderAt_later · hb) (BuilderAt_later · hb)

end Go.Proofs.YthlgohplljcgfaaGreatDoor
/-
  (*strings.Builder).String at this program: the kit library's own contract, laid here in plain words.
-/
namespace Go.Proofs
open Go.Shelf
end Go.Proofs
namespace Go.Proofs.YthlgohplljcgfaaGreatDoor
open Go.RowKit
end Go.Proofs.YthlgohplljcgfaaGreatDoor
