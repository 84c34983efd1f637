/-
  Texts laid together: Hj.
-/
import Derived.Test.YtaejeemjndmjcaaDoorPkS42
import Derived.Test.YtaejeemjndmjcaaDoorPkS20
/-
  The next head behind a list: the program's and the specification's answers.
-/
namespace Go.Proofs.YtaejeemjndmjcaaDoor
open Go.RowKit Go.BigFrame Go.Sort
set_option linter.unusedVariables false
set_option linter.unusedSimpArgs false

namespace HV
noncomputable def nxOk (L : List Hd) (h : Int) (r : ByteArray) : Bool := chB L h && okH (behind L h r)
/-- the next head, or the zero one -/
noncomputable def nxA (L : List Hd) (h : Int) (r : ByteArray) : Hd := if nxOk L h r = true then behind L h r else ⟨0, 0, ⟨#[]⟩, ⟨#[]⟩⟩
end HV

set_option maxRecDepth 100000 in
set_option maxHeartbeats 1000000 in
theorem sNextHead_any (v : Value) (ga oa : Nat) (L : List Hd) (h : Int) (r : ByteArray) (w : World) (hv : RS 4 hcs w v ga oa L) :
    Calls Tryd.prog 111 #[v, .int .i64 h, .string r] w fun e w' => e = .returned (.tuple #[.agg #[.int .i64 (HV.nxA L h r).h, .int .i64 (HV.nxA L h r).e, .string (HV.nxA L h r).r, .string (HV.nxA L h r).p], .bool (HV.nxOk L h r)]) ∧ Below w.heap.size w w' := by
  have HC : Hid (∀ W, Below w.heap.size w W → Calls Tryd.prog 116 #[v, .int .i64 h] W fun e w' => e = .returned (.bool (HV.chB L h)) ∧ Below W.heap.size W w') := fun W hW => sChainOk_any v ga oa L h W (hv.later hW)
  unfold HV.nxA HV.nxOk
  generalize HV.chB L h = b1 at *
  obtain ⟨b2, hb2⟩ : ∃ b2, HV.okH (HV.behind L h r) = b2 := ⟨_, rfl⟩
  rw [hb2]
  have HO : Hid (∀ W, Calls Tryd.prog 60 #[.agg #[.int .i64 (HV.behind L h r).h, .int .i64 (HV.behind L h r).e, .string (HV.behind L h r).r, .string (HV.behind L h r).p]] W fun e w' => e = .returned (.bool b2) ∧ Below W.heap.size W w') := fun W => hb2 ▸ sHeadOk_any _ W
  have HV0 : Hid (RS 4 hcs w v ga oa L) := hv
  obtain ⟨a, cap, rfl, hl, hA, _⟩ := hv
  obtain ⟨n, hn⟩ : ∃ n, L.length = n := ⟨_, rfl⟩
  have HA : Hid (0 < n → a = some ⟨ga, oa, none⟩ ∧ ga < w.heap.size) := by rw [← hn]; exact hA
  rw [hn] at hl HC ⊢
  clear hA hb2
  by_cases h0 : n = 0
  · subst h0
    have hL : L = [] := List.length_eq_zero_iff.1 hn
    subst hL
    clear hn HA HV0
    have e1 : HV.behind [] h r = ⟨h, 1, r, ⟨#[]⟩⟩ := rfl
    rw [e1] at HO ⊢
    clear e1
    simp only at HO ⊢
    have HW1 : Hid (BH ((w.alloc (.cells #[.int .i64 0, .int .i64 0, .string ⟨#[]⟩, .string ⟨#[]⟩] 25)).alloc (.cells #[.int .i64 h, .int .i64 1, .string r, .string ⟨#[]⟩] 25)) w.heap.size ⟨0, 0, ⟨#[]⟩, ⟨#[]⟩⟩ ∧ BH ((w.alloc (.cells #[.int .i64 0, .int .i64 0, .string ⟨#[]⟩, .string ⟨#[]⟩] 25)).alloc (.cells #[.int .i64 h, .int .i64 1, .string r, .string ⟨#[]⟩] 25)) (w.heap.size + 1) ⟨h, 1, r, ⟨#[]⟩⟩ ∧ Below w.heap.size w ((w.alloc (.cells #[.int .i64 0, .int .i64 0, .string ⟨#[]⟩, .string ⟨#[]⟩] 25)).alloc (.cells #[.int .i64 h, .int .i64 1, .string r, .string ⟨#[]⟩] 25))) := ⟨alloc_snd _ _ _ rfl, alloc_fst _ _ (by simp), ((Below.refl _ _).alloc (Nat.le_refl _) _).alloc (by simp) _⟩
    cases b1
    · rw [if_neg (by simp)]
      simp only [Bool.false_and]
      go_enter Tryd.func111, Tryd.ntmps111
      go_wp2_with fail
      refine (HC.out _ HW1.out.2.2).mono ?_
      rintro e2 w2 ⟨rfl, hb2⟩
      have HW2 : Hid (BH w2 w.heap.size ⟨0, 0, ⟨#[]⟩, ⟨#[]⟩⟩ ∧ BH w2 (w.heap.size + 1) ⟨h, 1, r, ⟨#[]⟩⟩ ∧ Below w.heap.size w w2) := ⟨HW1.out.1.later hb2, HW1.out.2.1.later hb2, HW1.out.2.2.trans (hb2.mono HW1.out.2.2.size)⟩
      clear HC hb2 HW1
      have y0 := HW2.out.1.c0
      have y1 := HW2.out.1.c1
      have y2 := HW2.out.1.c2
      have y3 := HW2.out.1.c3
      simp only at y0 y1 y2 y3
      have f0 := HW2.out.1.fz 0
      have f1 := HW2.out.1.fz 1
      have f2 := HW2.out.1.fz 2
      have f3 := HW2.out.1.fz 3
      have HE : Hid (BH (w2.setCells w.heap.size 0 (hcs ⟨0, 0, ⟨#[]⟩, ⟨#[]⟩⟩)) w.heap.size ⟨0, 0, ⟨#[]⟩, ⟨#[]⟩⟩ ∧ Below w.heap.size w (w2.setCells w.heap.size 0 (hcs ⟨0, 0, ⟨#[]⟩, ⟨#[]⟩⟩))) := ⟨HW2.out.1.put _, below_setCells (Nat.le_refl _) _ _ _ HW2.out.2.2⟩
      clear HW2
      go_wp2
      exact ret_hd2 6 7 w.heap.size ⟨0, 0, ⟨#[]⟩, ⟨#[]⟩⟩ _ rfl rfl rfl rfl HE.out.1 ⟨rfl, HE.out.2⟩
    · simp only [Bool.true_and]
      cases b2
      · rw [if_neg (by simp)]
        go_enter Tryd.func111, Tryd.ntmps111
        go_wp2_with fail
        refine (HC.out _ HW1.out.2.2).mono ?_
        rintro e2 w2 ⟨rfl, hb2⟩
        have HW2 : Hid (BH w2 w.heap.size ⟨0, 0, ⟨#[]⟩, ⟨#[]⟩⟩ ∧ BH w2 (w.heap.size + 1) ⟨h, 1, r, ⟨#[]⟩⟩ ∧ Below w.heap.size w w2) := ⟨HW1.out.1.later hb2, HW1.out.2.1.later hb2, HW1.out.2.2.trans (hb2.mono HW1.out.2.2.size)⟩
        clear HC hb2 HW1
        have z0 := HW2.out.2.1.c0
        have z1 := HW2.out.2.1.c1
        have z2 := HW2.out.2.1.c2
        have z3 := HW2.out.2.1.c3
        simp only at z0 z1 z2 z3
        go_wp2_with fail
        refine (HO.out _).mono ?_
        rintro e3 w3 ⟨rfl, hb3⟩
        have HW3 : Hid (BH w3 w.heap.size ⟨0, 0, ⟨#[]⟩, ⟨#[]⟩⟩ ∧ BH w3 (w.heap.size + 1) ⟨h, 1, r, ⟨#[]⟩⟩ ∧ Below w.heap.size w w3) := ⟨HW2.out.1.later hb3, HW2.out.2.1.later hb3, HW2.out.2.2.trans (hb3.mono HW2.out.2.2.size)⟩
        clear HO hb3 HW2 z0 z1 z2 z3
        have y0 := HW3.out.1.c0
        have y1 := HW3.out.1.c1
        have y2 := HW3.out.1.c2
        have y3 := HW3.out.1.c3
        simp only at y0 y1 y2 y3
        have f0 := HW3.out.1.fz 0
        have f1 := HW3.out.1.fz 1
        have f2 := HW3.out.1.fz 2
        have f3 := HW3.out.1.fz 3
        have HE : Hid (BH (w3.setCells w.heap.size 0 (hcs ⟨0, 0, ⟨#[]⟩, ⟨#[]⟩⟩)) w.heap.size ⟨0, 0, ⟨#[]⟩, ⟨#[]⟩⟩ ∧ Below w.heap.size w (w3.setCells w.heap.size 0 (hcs ⟨0, 0, ⟨#[]⟩, ⟨#[]⟩⟩))) := ⟨HW3.out.1.put _, below_setCells (Nat.le_refl _) _ _ _ HW3.out.2.2⟩
        clear HW3
        go_wp2
        exact ret_hd2 6 7 w.heap.size ⟨0, 0, ⟨#[]⟩, ⟨#[]⟩⟩ _ rfl rfl rfl rfl HE.out.1 ⟨rfl, HE.out.2⟩
      · rw [if_pos rfl]
        go_enter Tryd.func111, Tryd.ntmps111
        go_wp2_with fail
        refine (HC.out _ HW1.out.2.2).mono ?_
        rintro e2 w2 ⟨rfl, hb2⟩
        have HW2 : Hid (BH w2 w.heap.size ⟨0, 0, ⟨#[]⟩, ⟨#[]⟩⟩ ∧ BH w2 (w.heap.size + 1) ⟨h, 1, r, ⟨#[]⟩⟩ ∧ Below w.heap.size w w2) := ⟨HW1.out.1.later hb2, HW1.out.2.1.later hb2, HW1.out.2.2.trans (hb2.mono HW1.out.2.2.size)⟩
        clear HC hb2 HW1
        have z0 := HW2.out.2.1.c0
        have z1 := HW2.out.2.1.c1
        have z2 := HW2.out.2.1.c2
        have z3 := HW2.out.2.1.c3
        simp only at z0 z1 z2 z3
        go_wp2_with fail
        refine (HO.out _).mono ?_
        rintro e3 w3 ⟨rfl, hb3⟩
        have HW3 : Hid (BH w3 w.heap.size ⟨0, 0, ⟨#[]⟩, ⟨#[]⟩⟩ ∧ BH w3 (w.heap.size + 1) ⟨h, 1, r, ⟨#[]⟩⟩ ∧ Below w.heap.size w w3) := ⟨HW2.out.1.later hb3, HW2.out.2.1.later hb3, HW2.out.2.2.trans (hb3.mono HW2.out.2.2.size)⟩
        clear HO hb3 HW2 z0 z1 z2 z3
        have z0 := HW3.out.2.1.c0
        have z1 := HW3.out.2.1.c1
        have z2 := HW3.out.2.1.c2
        have z3 := HW3.out.2.1.c3
        simp only at z0 z1 z2 z3
        have y0 := HW3.out.1.c0
        have y1 := HW3.out.1.c1
        have y2 := HW3.out.1.c2
        have y3 := HW3.out.1.c3
        simp only at y0 y1 y2 y3
        have f0 := HW3.out.1.fz 0
        have f1 := HW3.out.1.fz 1
        have f2 := HW3.out.1.fz 2
        have f3 := HW3.out.1.fz 3
        have HE : Hid (BH (w3.setCells w.heap.size 0 (hcs ⟨h, 1, r, ⟨#[]⟩⟩)) w.heap.size ⟨h, 1, r, ⟨#[]⟩⟩ ∧ Below w.heap.size w (w3.setCells w.heap.size 0 (hcs ⟨h, 1, r, ⟨#[]⟩⟩))) := ⟨HW3.out.1.put _, below_setCells (Nat.le_refl _) _ _ _ HW3.out.2.2⟩
        clear HW3
        go_wp2
        exact ret_hd2 6 7 w.heap.size ⟨h, 1, r, ⟨#[]⟩⟩ _ rfl rfl rfl rfl HE.out.1 ⟨rfl, HE.out.2⟩
  · obtain ⟨m, rfl⟩ : ∃ m, n = m + 1 := ⟨n - 1, by omega⟩
    have HL : Hid (HV.behind L h r = ⟨h, (m : Int) + 1 + 1, r, HV.hashH (L[m]'(by omega))⟩) := by
      show HV.behind L h r = _
      unfold HV.behind
      rw [HV.lastP_at hn, show ((L.length : Nat) : Int) = (m : Int) + 1 by omega]
    rw [HL.out] at HO ⊢
    simp only at HO ⊢
    obtain ⟨ea, hga⟩ := HA.out (by omega)
    subst ea
    have HS : Hid (∀ W, Calls Tryd.prog 11 #[.agg #[.int .i64 (L[m]'(by omega)).h, .int .i64 (L[m]'(by omega)).e, .string (L[m]'(by omega)).r, .string (L[m]'(by omega)).p]] W fun e w' => e = .returned (.string (HV.hashH (L[m]'(by omega)))) ∧ Below W.heap.size W w') := fun W => sHeadHash_any _ W
    have HW0 : Hid (BH ((w.alloc (.cells #[.int .i64 0, .int .i64 0, .string ⟨#[]⟩, .string ⟨#[]⟩] 25)).alloc (.cells #[.int .i64 h, .int .i64 ((m : Int) + 1 + 1), .string r, .string ⟨#[]⟩] 25)) w.heap.size ⟨0, 0, ⟨#[]⟩, ⟨#[]⟩⟩ ∧ BH ((w.alloc (.cells #[.int .i64 0, .int .i64 0, .string ⟨#[]⟩, .string ⟨#[]⟩] 25)).alloc (.cells #[.int .i64 h, .int .i64 ((m : Int) + 1 + 1), .string r, .string ⟨#[]⟩] 25)) (w.heap.size + 1) ⟨h, (m : Int) + 1 + 1, r, ⟨#[]⟩⟩ ∧ Below w.heap.size w ((w.alloc (.cells #[.int .i64 0, .int .i64 0, .string ⟨#[]⟩, .string ⟨#[]⟩] 25)).alloc (.cells #[.int .i64 h, .int .i64 ((m : Int) + 1 + 1), .string r, .string ⟨#[]⟩] 25))) := ⟨alloc_snd _ _ _ rfl, alloc_fst _ _ (by simp), ((Below.refl _ _).alloc (Nat.le_refl _) _).alloc (by simp) _⟩
    obtain ⟨c0, c1, c2, c3⟩ := (HV0.out.later HW0.out.2.2).head m (by omega)
    generalize HV.hashH (L[m]'(by omega)) = P at *
    generalize (L[m]'(by omega)) = X at *
    clear HL HV0 HA
    cases b1
    · rw [if_neg (by simp)]
      simp only [Bool.false_and]
      go_enter Tryd.func111, Tryd.ntmps111
      go_wp2_with fail
      refine (HS.out _).mono ?_
      rintro e1 w1 ⟨rfl, hb1⟩
      have HWA : Hid (BH w1 w.heap.size ⟨0, 0, ⟨#[]⟩, ⟨#[]⟩⟩ ∧ BH w1 (w.heap.size + 1) ⟨h, (m : Int) + 1 + 1, r, ⟨#[]⟩⟩ ∧ Below w.heap.size w w1) := ⟨HW0.out.1.later hb1, HW0.out.2.1.later hb1, HW0.out.2.2.trans (hb1.mono HW0.out.2.2.size)⟩
      have t3 := HWA.out.2.1.c3
      have g3 := HWA.out.2.1.fz 3
      simp only at t3
      have HW1 : Hid (BH (w1.setCell ⟨w.heap.size + 1, 3, none⟩ (.string P)) w.heap.size ⟨0, 0, ⟨#[]⟩, ⟨#[]⟩⟩ ∧ BH (w1.setCell ⟨w.heap.size + 1, 3, none⟩ (.string P)) (w.heap.size + 1) ⟨h, (m : Int) + 1 + 1, r, P⟩ ∧ Below w.heap.size w (w1.setCell ⟨w.heap.size + 1, 3, none⟩ (.string P))) := ⟨HWA.out.1.grown (grown_setC _ _ _ _) (by simp), HWA.out.2.1.set3 P, HWA.out.2.2.setCell (p := ⟨w.heap.size + 1, 3, none⟩) (by simp) _⟩
      clear HS hb1 HW0 HWA c0 c1 c2 c3
      go_wp2_with fail
      refine (HC.out _ HW1.out.2.2).mono ?_
      rintro e2 w2 ⟨rfl, hb2⟩
      have HW2 : Hid (BH w2 w.heap.size ⟨0, 0, ⟨#[]⟩, ⟨#[]⟩⟩ ∧ BH w2 (w.heap.size + 1) ⟨h, (m : Int) + 1 + 1, r, P⟩ ∧ Below w.heap.size w w2) := ⟨HW1.out.1.later hb2, HW1.out.2.1.later hb2, HW1.out.2.2.trans (hb2.mono HW1.out.2.2.size)⟩
      clear HC hb2 HW1
      have y0 := HW2.out.1.c0
      have y1 := HW2.out.1.c1
      have y2 := HW2.out.1.c2
      have y3 := HW2.out.1.c3
      simp only at y0 y1 y2 y3
      have f0 := HW2.out.1.fz 0
      have f1 := HW2.out.1.fz 1
      have f2 := HW2.out.1.fz 2
      have f3 := HW2.out.1.fz 3
      have HE : Hid (BH (w2.setCells w.heap.size 0 (hcs ⟨0, 0, ⟨#[]⟩, ⟨#[]⟩⟩)) w.heap.size ⟨0, 0, ⟨#[]⟩, ⟨#[]⟩⟩ ∧ Below w.heap.size w (w2.setCells w.heap.size 0 (hcs ⟨0, 0, ⟨#[]⟩, ⟨#[]⟩⟩))) := ⟨HW2.out.1.put _, below_setCells (Nat.le_refl _) _ _ _ HW2.out.2.2⟩
      clear HW2
      go_wp2
      exact ret_hd2 6 7 w.heap.size ⟨0, 0, ⟨#[]⟩, ⟨#[]⟩⟩ _ rfl rfl rfl rfl HE.out.1 ⟨rfl, HE.out.2⟩
    · simp only [Bool.true_and]
      cases b2
      · rw [if_neg (by simp)]
        go_enter Tryd.func111, Tryd.ntmps111
        go_wp2_with fail
        refine (HS.out _).mono ?_
        rintro e1 w1 ⟨rfl, hb1⟩
        have HWA : Hid (BH w1 w.heap.size ⟨0, 0, ⟨#[]⟩, ⟨#[]⟩⟩ ∧ BH w1 (w.heap.size + 1) ⟨h, (m : Int) + 1 + 1, r, ⟨#[]⟩⟩ ∧ Below w.heap.size w w1) := ⟨HW0.out.1.later hb1, HW0.out.2.1.later hb1, HW0.out.2.2.trans (hb1.mono HW0.out.2.2.size)⟩
        have t3 := HWA.out.2.1.c3
        have g3 := HWA.out.2.1.fz 3
        simp only at t3
        have HW1 : Hid (BH (w1.setCell ⟨w.heap.size + 1, 3, none⟩ (.string P)) w.heap.size ⟨0, 0, ⟨#[]⟩, ⟨#[]⟩⟩ ∧ BH (w1.setCell ⟨w.heap.size + 1, 3, none⟩ (.string P)) (w.heap.size + 1) ⟨h, (m : Int) + 1 + 1, r, P⟩ ∧ Below w.heap.size w (w1.setCell ⟨w.heap.size + 1, 3, none⟩ (.string P))) := ⟨HWA.out.1.grown (grown_setC _ _ _ _) (by simp), HWA.out.2.1.set3 P, HWA.out.2.2.setCell (p := ⟨w.heap.size + 1, 3, none⟩) (by simp) _⟩
        clear HS hb1 HW0 HWA c0 c1 c2 c3
        go_wp2_with fail
        refine (HC.out _ HW1.out.2.2).mono ?_
        rintro e2 w2 ⟨rfl, hb2⟩
        have HW2 : Hid (BH w2 w.heap.size ⟨0, 0, ⟨#[]⟩, ⟨#[]⟩⟩ ∧ BH w2 (w.heap.size + 1) ⟨h, (m : Int) + 1 + 1, r, P⟩ ∧ Below w.heap.size w w2) := ⟨HW1.out.1.later hb2, HW1.out.2.1.later hb2, HW1.out.2.2.trans (hb2.mono HW1.out.2.2.size)⟩
        clear HC hb2 HW1
        have z0 := HW2.out.2.1.c0
        have z1 := HW2.out.2.1.c1
        have z2 := HW2.out.2.1.c2
        have z3 := HW2.out.2.1.c3
        simp only at z0 z1 z2 z3
        go_wp2_with fail
        refine (HO.out _).mono ?_
        rintro e3 w3 ⟨rfl, hb3⟩
        have HW3 : Hid (BH w3 w.heap.size ⟨0, 0, ⟨#[]⟩, ⟨#[]⟩⟩ ∧ BH w3 (w.heap.size + 1) ⟨h, (m : Int) + 1 + 1, r, P⟩ ∧ Below w.heap.size w w3) := ⟨HW2.out.1.later hb3, HW2.out.2.1.later hb3, HW2.out.2.2.trans (hb3.mono HW2.out.2.2.size)⟩
        clear HO hb3 HW2 z0 z1 z2 z3
        have y0 := HW3.out.1.c0
        have y1 := HW3.out.1.c1
        have y2 := HW3.out.1.c2
        have y3 := HW3.out.1.c3
        simp only at y0 y1 y2 y3
        have f0 := HW3.out.1.fz 0
        have f1 := HW3.out.1.fz 1
        have f2 := HW3.out.1.fz 2
        have f3 := HW3.out.1.fz 3
        have HE : Hid (BH (w3.setCells w.heap.size 0 (hcs ⟨0, 0, ⟨#[]⟩, ⟨#[]⟩⟩)) w.heap.size ⟨0, 0, ⟨#[]⟩, ⟨#[]⟩⟩ ∧ Below w.heap.size w (w3.setCells w.heap.size 0 (hcs ⟨0, 0, ⟨#[]⟩, ⟨#[]⟩⟩))) := ⟨HW3.out.1.put _, below_setCells (Nat.le_refl _) _ _ _ HW3.out.2.2⟩
        clear HW3
        go_wp2
        exact ret_hd2 6 7 w.heap.size ⟨0, 0, ⟨#[]⟩, ⟨#[]⟩⟩ _ rfl rfl rfl rfl HE.out.1 ⟨rfl, HE.out.2⟩
      · rw [if_pos rfl]
        go_enter Tryd.func111, Tryd.ntmps111
        go_wp2_with fail
        refine (HS.out _).mono ?_
        rintro e1 w1 ⟨rfl, hb1⟩
        have HWA : Hid (BH w1 w.heap.size ⟨0, 0, ⟨#[]⟩, ⟨#[]⟩⟩ ∧ BH w1 (w.heap.size + 1) ⟨h, (m : Int) + 1 + 1, r, ⟨#[]⟩⟩ ∧ Below w.heap.size w w1) := ⟨HW0.out.1.later hb1, HW0.out.2.1.later hb1, HW0.out.2.2.trans (hb1.mono HW0.out.2.2.size)⟩
        have t3 := HWA.out.2.1.c3
        have g3 := HWA.out.2.1.fz 3
        simp only at t3
        have HW1 : Hid (BH (w1.setCell ⟨w.heap.size + 1, 3, none⟩ (.string P)) w.heap.size ⟨0, 0, ⟨#[]⟩, ⟨#[]⟩⟩ ∧ BH (w1.setCell ⟨w.heap.size + 1, 3, none⟩ (.string P)) (w.heap.size + 1) ⟨h, (m : Int) + 1 + 1, r, P⟩ ∧ Below w.heap.size w (w1.setCell ⟨w.heap.size + 1, 3, none⟩ (.string P))) := ⟨HWA.out.1.grown (grown_setC _ _ _ _) (by simp), HWA.out.2.1.set3 P, HWA.out.2.2.setCell (p := ⟨w.heap.size + 1, 3, none⟩) (by simp) _⟩
        clear HS hb1 HW0 HWA c0 c1 c2 c3
        go_wp2_with fail
        refine (HC.out _ HW1.out.2.2).mono ?_
        rintro e2 w2 ⟨rfl, hb2⟩
        have HW2 : Hid (BH w2 w.heap.size ⟨0, 0, ⟨#[]⟩, ⟨#[]⟩⟩ ∧ BH w2 (w.heap.size + 1) ⟨h, (m : Int) + 1 + 1, r, P⟩ ∧ Below w.heap.size w w2) := ⟨HW1.out.1.later hb2, HW1.out.2.1.later hb2, HW1.out.2.2.trans (hb2.mono HW1.out.2.2.size)⟩
        clear HC hb2 HW1
        have z0 := HW2.out.2.1.c0
        have z1 := HW2.out.2.1.c1
        have z2 := HW2.out.2.1.c2
        have z3 := HW2.out.2.1.c3
        simp only at z0 z1 z2 z3
        go_wp2_with fail
        refine (HO.out _).mono ?_
        rintro e3 w3 ⟨rfl, hb3⟩
        have HW3 : Hid (BH w3 w.heap.size ⟨0, 0, ⟨#[]⟩, ⟨#[]⟩⟩ ∧ BH w3 (w.heap.size + 1) ⟨h, (m : Int) + 1 + 1, r, P⟩ ∧ Below w.heap.size w w3) := ⟨HW2.out.1.later hb3, HW2.out.2.1.later hb3, HW2.out.2.2.trans (hb3.mono HW2.out.2.2.size)⟩
        clear HO hb3 HW2 z0 z1 z2 z3
        have z0 := HW3.out.2.1.c0
        have z1 := HW3.out.2.1.c1
        have z2 := HW3.out.2.1.c2
        have z3 := HW3.out.2.1.c3
        simp only at z0 z1 z2 z3
        have y0 := HW3.out.1.c0
        have y1 := HW3.out.1.c1
        have y2 := HW3.out.1.c2
        have y3 := HW3.out.1.c3
        simp only at y0 y1 y2 y3
        have f0 := HW3.out.1.fz 0
        have f1 := HW3.out.1.fz 1
        have f2 := HW3.out.1.fz 2
        have f3 := HW3.out.1.fz 3
        have HE : Hid (BH (w3.setCells w.heap.size 0 (hcs ⟨h, (m : Int) + 1 + 1, r, P⟩)) w.heap.size ⟨h, (m : Int) + 1 + 1, r, P⟩ ∧ Below w.heap.size w (w3.setCells w.heap.size 0 (hcs ⟨h, (m : Int) + 1 + 1, r, P⟩))) := ⟨HW3.out.1.put _, below_setCells (Nat.le_refl _) _ _ _ HW3.out.2.2⟩
        clear HW3
        go_wp2
        exact ret_hd2 6 7 w.heap.size ⟨h, (m : Int) + 1 + 1, r, P⟩ _ rfl rfl rfl rfl HE.out.1 ⟨rfl, HE.out.2⟩

end Go.Proofs.YtaejeemjndmjcaaDoor
