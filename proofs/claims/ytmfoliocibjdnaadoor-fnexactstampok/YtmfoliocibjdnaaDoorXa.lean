/-
  Where a seal and a stamp are signed: the program's and the specification's answers.
-/
import Derived.Test.YtmfoliocibjdnaaDoorPkH
import Derived.Test.YtmfoliocibjdnaaDoorPkA
namespace Go.Proofs.YtmfoliocibjdnaaDoor
open Go.RowKit Go.BigFrame Go.Sort
set_option linter.unusedVariables false
set_option linter.unusedSimpArgs false

/-- where a seal of this epoch is signed -/
def sealP (e : Int) : Int := if 1 ≤ e ∧ e ≤ 4 then e - 1 else -1
/-- where a stamp is signed -/
def stampP (h e : Int) : Int := if (0 ≤ h ∧ h < 3) ∧ (1 ≤ e ∧ e ≤ 4) then 4 * (h + 1) + e - 1 else -1
theorem sealP_in (e : Int) : -1 ≤ sealP e ∧ sealP e ≤ 3 := by
  unfold sealP
  split <;> omega
theorem stampP_in (h e : Int) : -1 ≤ stampP h e ∧ stampP h e ≤ 15 := by
  unfold stampP
  split <;> omega

theorem SealAt_any (x : Int) (w : World) : Calls Tryd.prog 53 #[.int .i64 x] w fun e w' => e = .returned (.int .i64 (sealP x)) ∧ w' = w := by
  unfold sealP
  by_cases h : 1 ≤ x ∧ x ≤ 4
  · rw [if_pos h]
    have hd : decide (1 ≤ x ∧ x ≤ 4) = true := decide_eq_true h
    obtain ⟨h1, h2⟩ := h
    go_enter Tryd.func53, Tryd.ntmps53
    go_wp2_with fail
    refine (epochOk_any _ _).mono ?_
    rintro e w1 ⟨rfl, rfl⟩
    rw [hd]
    go_wp2
    go_ret
    exact ⟨rfl, rfl⟩
  · rw [if_neg h]
    have hd : decide (1 ≤ x ∧ x ≤ 4) = false := decide_eq_false h
    clear h
    go_enter Tryd.func53, Tryd.ntmps53
    go_wp2_with fail
    refine (epochOk_any _ _).mono ?_
    rintro e w1 ⟨rfl, rfl⟩
    rw [hd]
    go_wp2
    go_ret
    exact ⟨rfl, rfl⟩
theorem sSealAt_any (x : Int) (w : World) : Calls Tryd.prog 133 #[.int .i64 x] w fun e w' => e = .returned (.int .i64 (sealP x)) ∧ w' = w := by
  unfold sealP
  by_cases h : 1 ≤ x ∧ x ≤ 4
  · rw [if_pos h]
    have hd : decide (1 ≤ x ∧ x ≤ 4) = true := decide_eq_true h
    obtain ⟨h1, h2⟩ := h
    go_enter Tryd.func133, Tryd.ntmps133
    go_wp2_with fail
    refine (l01In_any _ _ _ _).mono ?_
    rintro e w1 ⟨rfl, rfl⟩
    rw [hd]
    go_wp2
    go_ret
    exact ⟨rfl, rfl⟩
  · rw [if_neg h]
    have hd : decide (1 ≤ x ∧ x ≤ 4) = false := decide_eq_false h
    clear h
    go_enter Tryd.func133, Tryd.ntmps133
    go_wp2_with fail
    refine (l01In_any _ _ _ _).mono ?_
    rintro e w1 ⟨rfl, rfl⟩
    rw [hd]
    go_wp2
    go_ret
    exact ⟨rfl, rfl⟩

theorem StampAt_any (h x : Int) (w : World) : Calls Tryd.prog 57 #[.int .i64 h, .int .i64 x] w fun e w' => e = .returned (.int .i64 (stampP h x)) ∧ w' = w := by
  unfold stampP
  by_cases h1 : 0 ≤ h ∧ h < 3
  · have d1 : decide (0 ≤ h ∧ h < 3) = true := decide_eq_true h1
    by_cases h2 : 1 ≤ x ∧ x ≤ 4
    · rw [if_pos ⟨h1, h2⟩]
      have d2 : decide (1 ≤ x ∧ x ≤ 4) = true := decide_eq_true h2
      obtain ⟨h3, h4⟩ := h1
      obtain ⟨h5, h6⟩ := h2
      go_enter Tryd.func57, Tryd.ntmps57
      go_wp2_with fail
      refine (houseOk_any _ _).mono ?_
      rintro e w1 ⟨rfl, rfl⟩
      rw [d1]
      go_wp2_with fail
      refine (epochOk_any _ _).mono ?_
      rintro e w2 ⟨rfl, rfl⟩
      rw [d2]
      go_wp2
      go_ret
      exact ⟨rfl, rfl⟩
    · rw [if_neg (fun h => h2 h.2)]
      have d2 : decide (1 ≤ x ∧ x ≤ 4) = false := decide_eq_false h2
      clear h1 h2
      go_enter Tryd.func57, Tryd.ntmps57
      go_wp2_with fail
      refine (houseOk_any _ _).mono ?_
      rintro e w1 ⟨rfl, rfl⟩
      rw [d1]
      go_wp2_with fail
      refine (epochOk_any _ _).mono ?_
      rintro e w2 ⟨rfl, rfl⟩
      rw [d2]
      go_wp2
      go_ret
      exact ⟨rfl, rfl⟩
  · rw [if_neg (fun h => h1 h.1)]
    have d1 : decide (0 ≤ h ∧ h < 3) = false := decide_eq_false h1
    clear h1
    go_enter Tryd.func57, Tryd.ntmps57
    go_wp2_with fail
    refine (houseOk_any _ _).mono ?_
    rintro e w1 ⟨rfl, rfl⟩
    rw [d1]
    go_wp2
    go_ret
    exact ⟨rfl, rfl⟩
theorem sStampAt_any (h x : Int) (w : World) : Calls Tryd.prog 131 #[.int .i64 h, .int .i64 x] w fun e w' => e = .returned (.int .i64 (stampP h x)) ∧ w' = w := by
  unfold stampP
  by_cases h1 : 0 ≤ h ∧ h < 3
  · have d1 : decide (0 ≤ h ∧ h ≤ 2) = true := decide_eq_true ⟨h1.1, by omega⟩
    by_cases h2 : 1 ≤ x ∧ x ≤ 4
    · rw [if_pos ⟨h1, h2⟩]
      have d2 : decide (1 ≤ x ∧ x ≤ 4) = true := decide_eq_true h2
      obtain ⟨h3, h4⟩ := h1
      obtain ⟨h5, h6⟩ := h2
      go_enter Tryd.func131, Tryd.ntmps131
      go_wp2_with fail
      refine (l01In_any _ _ _ _).mono ?_
      rintro e w1 ⟨rfl, rfl⟩
      rw [d1]
      go_wp2_with fail
      refine (l01In_any _ _ _ _).mono ?_
      rintro e w2 ⟨rfl, rfl⟩
      rw [d2]
      go_wp2
      go_ret
      exact ⟨rfl, rfl⟩
    · rw [if_neg (fun h => h2 h.2)]
      have d2 : decide (1 ≤ x ∧ x ≤ 4) = false := decide_eq_false h2
      clear h1 h2
      go_enter Tryd.func131, Tryd.ntmps131
      go_wp2_with fail
      refine (l01In_any _ _ _ _).mono ?_
      rintro e w1 ⟨rfl, rfl⟩
      rw [d1]
      go_wp2_with fail
      refine (l01In_any _ _ _ _).mono ?_
      rintro e w2 ⟨rfl, rfl⟩
      rw [d2]
      go_wp2
      go_ret
      exact ⟨rfl, rfl⟩
  · rw [if_neg (fun h => h1 h.1)]
    have d1 : decide (0 ≤ h ∧ h ≤ 2) = false := decide_eq_false (fun h => h1 ⟨h.1, by omega⟩)
    clear h1
    go_enter Tryd.func131, Tryd.ntmps131
    go_wp2_with fail
    refine (l01In_any _ _ _ _).mono ?_
    rintro e w1 ⟨rfl, rfl⟩
    rw [d1]
    go_wp2
    go_ret
    exact ⟨rfl, rfl⟩

end Go.Proofs.YtmfoliocibjdnaaDoor
