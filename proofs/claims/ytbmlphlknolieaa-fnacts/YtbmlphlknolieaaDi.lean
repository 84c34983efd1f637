/-
  A disk copied, and acts done one behind the other, as the program does it.
-/
import Derived.Test.YtbmlphlknolieaaDa
namespace Go.Proofs.Ytbmlphlknolieaa
open Go.RowKit Go.BigFrame Go.Sort Go.Maps
set_option linter.unusedVariables false
set_option linter.unusedSimpArgs false

set_option maxRecDepth 100000 in
set_option maxHeartbeats 1000000 in
theorem diskCopy_any (v : Value) (ga oa : Nat) (l : List Fl) (w : World) (hv : RS 3 fcs w v ga oa l) (hsm : SmallF l) :
    Calls Try.prog 61 #[.agg #[v]] w fun e w' => ∃ u, e = .returned u ∧ DkIn w' w.heap.size u l ∧ Below w.heap.size w w' := by
  obtain ⟨a, cap, rfl, hl, hA, hc⟩ := id hv
  obtain ⟨W2, hW2⟩ : ∃ W2, (w.alloc (.cells #[.slice a l.length cap] 26)).alloc (.cells #[.slice none 0 0] 26) = W2 := ⟨_, rfl⟩
  have hb2 : Below w.heap.size w W2 := by rw [← hW2]; exact ((Below.refl _ _).alloc (Nat.le_refl _) _).alloc (by simp) _
  have hs2 : W2.heap.size = w.heap.size + 1 + 1 := by rw [← hW2]; simp
  have hq0 : BD W2 w.heap.size 26 (.slice a l.length cap) := by rw [← hW2]; exact alloc_snd _ _ _ rfl
  have hq1 : BD W2 (w.heap.size + 1) 26 (.slice none 0 0) := by rw [← hW2]; exact alloc_fst _ _ (by simp)
  have HV : Hid (RS 3 fcs W2 (.slice a l.length cap) ga oa l) := hv.later hb2
  have HSM : Hid (SmallF l) := hsm
  obtain ⟨n, hn⟩ : ∃ n, l.length = n := ⟨_, rfl⟩
  obtain ⟨w3, hmk, hib, hb3, hs3⟩ := made_files n (by omega) W2
  have c30 := (hq0.later hb3).cell
  have c20 := hq0.cell
  have HQ : Hid (Below w.heap.size w W2 ∧ W2.heap.size = w.heap.size + 1 + 1 ∧ BD W2 (w.heap.size + 1) 26 (.slice none 0 0)) := ⟨hb2, hs2, hq1⟩
  have HST : Hid (ToF W2 l W2.heap.size W2.heap.size (.int .i64 0) w3 ∧ W2.heap.size < w3.heap.size) := ⟨⟨0, by omega, rfl, fun j _ h => by omega, by rw [hn]; exact hib, hb3⟩, by omega⟩
  have HA : Hid (0 < n → a = some ⟨ga, oa, none⟩) := by rw [← hn]; exact fun h => (hA h).1
  have hzz : W2.heap.size = w.heap.size + 1 + 1 := hs2
  rw [hn] at hl c20 c30 HV ⊢
  rw [hn] at hW2
  clear hib hb2 hs2 hA hc hv hq0 hq1 hb3 hs3 hsm
  rw [hzz] at HST
  have HZ : Hid (W2.heap.size = w.heap.size + 1 + 1) := hzz
  go_enter Try.func61, Try.ntmps61
  go_wp2
  clear hmk c30 c20 hW2 hzz
  go_loopw [13] (fun i wr => ToF W2 l (w.heap.size + 1 + 1) (w.heap.size + 1 + 1) i wr ∧ w.heap.size + 1 + 1 < wr.heap.size) (fun i _ => n - (intOf i).toNat)
  case atStart => exact HST.out
  case round =>
    obtain ⟨⟨m, hm, rfl, h1, h2, hbel⟩, hws⟩ := hrel
    have HI : Hid ((∀ j (h : j < l.length), j < m → wr.rangeAt (w.heap.size + 1 + 1) (j * 3) (fcs l[j])) ∧ (∀ j, j < l.length → wr.there (w.heap.size + 1 + 1) (j * 3) 3) ∧ Below (w.heap.size + 1 + 1) W2 wr) := ⟨h1, h2, hbel⟩
    clear HST h1 h2 hbel
    rw [hn] at hm
    by_cases hlt : m < n
    · have ea := HA.out (by omega)
      subst ea
      obtain ⟨c0, c1, c2⟩ := (HV.out.later (by rw [HZ.out]; exact HI.out.2.2)).file m (by omega)
      obtain ⟨X, hX⟩ : ∃ X, l[m]'(by omega) = X := ⟨_, rfl⟩
      rw [hX] at c0 c1 c2
      have hXs := HSM.out X (by rw [← hX]; exact List.getElem_mem _)
      have HX : Hid (l[m]'(by omega) = X) := hX
      have i1 : (m : Int) < (n : Int) := by omega
      have i2 : (0 : Int) ≤ (m : Int) := by omega
      clear hX HV HA HQ HSM
      go_wp2_with fail
      refine (copied_any X _ hXs.1 hXs.2).mono ?_
      rintro e w1 ⟨rfl, hb1'⟩
      have hb1 : Below wr.heap.size wr w1 := ((Below.refl _ wr).alloc (Nat.le_refl _) _).trans (hb1'.mono (by simp))
      have HJ : Hid ((∀ j (h : j < l.length), j < m + 1 → (w1.setCells (w.heap.size + 1 + 1) (m * 3) (fcs X)).rangeAt (w.heap.size + 1 + 1) (j * 3) (fcs l[j])) ∧ (∀ j, j < l.length → (w1.setCells (w.heap.size + 1 + 1) (m * 3) (fcs X)).there (w.heap.size + 1 + 1) (j * 3) 3) ∧ Below (w.heap.size + 1 + 1) W2 (w1.setCells (w.heap.size + 1 + 1) (m * 3) (fcs X))) := by
        have h := ToF.set (w := W2) (wr := w1) (l := l) (g := w.heap.size + 1 + 1) (m := m) (B := w.heap.size + 1 + 1) (by omega) (Nat.le_refl _) (fun j hj h => range_kept (HI.out.1 j hj h) (hb1.block _ hws)) (fun j hj => there_kept (HI.out.2.1 j hj) (hb1.block _ hws)) (HI.out.2.2.trans (hb1.mono (by omega)))
        rw [HX.out] at h
        exact h
      have HT : Hid (w1.there (w.heap.size + 1 + 1) (m * 3) 3) := there_kept (HI.out.2.1 m (by omega)) (hb1.block _ hws)
      have hws1 : w.heap.size + 1 + 1 < (w1.setCells (w.heap.size + 1 + 1) (m * 3) (fcs X)).heap.size := by rw [size_setCells]; exact Nat.lt_of_lt_of_le hws hb1.size
      clear hb1 hb1' HI c0 c1 c2 hXs
      obtain ⟨⟨o0, x0⟩, ⟨o1, x1⟩, ⟨o2, x2⟩, f0, f1, f2⟩ := there3 HT.out
      go_wp2
      go_roundw
      case rel => exact ⟨⟨m + 1, by omega, by go_num, HJ.out⟩, hws1⟩
      case measure => simp [intOf]; omega
    · have hme : m = n := by omega
      subst hme
      have hq1 := (HQ.out.2.2.later (by rw [HZ.out]; exact HI.out.2.2))
      have t0 := hq1.cell
      have g0 := hq1.fr
      have HR : Hid (RW 3 fcs wr (.slice (some ⟨w.heap.size + 1 + 1, 0, none⟩) m m) (w.heap.size + 1 + 1) l) := ⟨⟨_, _, by rw [hn], by omega, fun _ => ⟨rfl, hws⟩, fun j hj => by rw [Nat.zero_add]; exact HI.out.1 j hj (by omega)⟩, HI.out.2.1⟩
      have HF : Hid ((wr.setCell ⟨w.heap.size + 1, 0, none⟩ (.slice (some ⟨w.heap.size + 1 + 1, 0, none⟩) m m)).rangeAt (w.heap.size + 1) 0 [.slice (some ⟨w.heap.size + 1 + 1, 0, none⟩) m m] ∧ RW 3 fcs (wr.setCell ⟨w.heap.size + 1, 0, none⟩ (.slice (some ⟨w.heap.size + 1 + 1, 0, none⟩) m m)) (.slice (some ⟨w.heap.size + 1 + 1, 0, none⟩) m m) (w.heap.size + 1 + 1) l ∧ Below w.heap.size w (wr.setCell ⟨w.heap.size + 1, 0, none⟩ (.slice (some ⟨w.heap.size + 1 + 1, 0, none⟩) m m))) :=
        ⟨range1 (set_here t0 g0 _), HR.out.grown (grown_set wr _ _ _) (fun _ => by simp), (HQ.out.1.trans (HI.out.2.2.mono (by omega))).setCell (p := ⟨w.heap.size + 1, 0, none⟩) (by simp) _⟩
      clear HV HA HQ HI hq1 HR HSM
      go_wp2
      refine ret_rec 2 (w.heap.size + 1) 26 [.slice (some ⟨w.heap.size + 1 + 1, 0, none⟩) m m] _ rfl rfl rfl Try.underlying26 rfl sizeDisk HF.out.1 ?_
      exact ⟨_, rfl, ⟨_, w.heap.size + 1 + 1, rfl, HF.out.2.1, by omega⟩, HF.out.2.2⟩

end Go.Proofs.Ytbmlphlknolieaa
