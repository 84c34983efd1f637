/-
  When a trust is right: the program's and the specification's answers.
-/
import Derived.Test.YtfojmagcoipbnaaWa
import Derived.Test.YtfojmagcoipbnaaPa
import Derived.Lib.QuietBelow
namespace Go.Proofs.Ytfojmagcoipbnaa
open Go.RowKit Go.BigFrame Go.Sort
set_option linter.unusedVariables false
set_option linter.unusedSimpArgs false

theorem splitOk_any (k : Int) (w : World) : Calls Try.prog 57 #[.int .i64 k] w fun e w' => e = .returned (.bool (decide (0 ≤ k ∧ k ≤ 2))) ∧ w' = w := by
  by_cases h1 : 0 ≤ k
  · by_cases h2 : k ≤ 2
    · go_enter Try.func57, Try.ntmps57
      go_wp2
      go_ret
      exact ⟨by simp [h1, h2], rfl⟩
    · go_enter Try.func57, Try.ntmps57
      go_wp2
      go_ret
      exact ⟨by simp [h2], rfl⟩
  · go_enter Try.func57, Try.ntmps57
    go_wp2
    go_ret
    exact ⟨by simp; omega, rfl⟩

theorem wide16 (R : List ByteArray) : wideB R 16 = allW R 16 := by
  rw [wideB_all, decide_eq_true (by omega), Bool.and_true]
theorem tkB_w (R : List ByteArray) (K N : Int) : tkB R K N = (decide (1 ≤ (R.length : Int) ∧ (R.length : Int) ≤ 3) && (allW R 16 && (decide (0 ≤ K ∧ K ≤ 2) && decide (0 ≤ N ∧ N ≤ 2)))) := rfl

set_option maxRecDepth 100000 in
set_option maxHeartbeats 1000000 in
theorem TrustOk_any (v : Value) (g o : Nat) (R : List ByteArray) (K N : Int) (w : World) (hv : SS w v g o R) :
    Calls Try.prog 20 #[.agg #[v, .int .i64 K, .int .i64 N]] w fun e w' => e = .returned (.bool (tkB R K N)) ∧ Below w.heap.size w w' := by
  have HX : Hid (Below w.heap.size w (w.alloc (.cells #[v, .int .i64 K, .int .i64 N] 43)) ∧ Box 43 (w.alloc (.cells #[v, .int .i64 K, .int .i64 N] 43)) w.heap.size [v, .int .i64 K, .int .i64 N]) := ⟨below_alloc _ _, Box.new _ _ _⟩
  have HW : Hid (∀ W, Below w.heap.size w W → Calls Try.prog 56 #[v, .int .i64 16] W fun e w' => e = .returned (.bool (allW R 16)) ∧ w' = W) := fun W hW => allWide_any v g o R 16 W (hv.below hW hv.lt)
  have HS : Hid (∀ W, Calls Try.prog 57 #[.int .i64 K] W fun e w' => e = .returned (.bool (decide (0 ≤ K ∧ K ≤ 2))) ∧ w' = W) := fun W => splitOk_any K W
  rw [tkB_w]
  obtain ⟨a, c, rfl, hl, hf1, hf2⟩ := hv
  clear hf1 hf2
  generalize allW R 16 = A1 at *
  generalize hA2 : decide (0 ≤ K ∧ K ≤ 2) = A2 at *
  generalize R.length = n at *
  clear hA2
  have HB : Hid (Below w.heap.size w (w.alloc (.cells #[.slice a n c, .int .i64 K, .int .i64 N] 43))) := HX.out.1
  clear HX
  by_cases h1 : 1 ≤ n
  · by_cases h3 : n ≤ 3
    · rw [decide_eq_true (by omega), Bool.true_and]
      have q1 : (1 : Int) ≤ (n : Int) := by omega
      have q3 : (n : Int) ≤ 3 := by omega
      cases A1
      · go_enter Try.func20, Try.ntmps20
        go_wp2_with fail
        refine (HW.out _ HB.out).mono ?_
        rintro e w1 ⟨rfl, rfl⟩
        clear HW HS
        go_wp2
        go_ret
        exact ⟨by simp, HB.out⟩
      · cases A2
        · go_enter Try.func20, Try.ntmps20
          go_wp2_with fail
          refine (HW.out _ HB.out).mono ?_
          rintro e w1 ⟨rfl, rfl⟩
          clear HW
          go_wp2_with fail
          refine (HS.out _).mono ?_
          rintro e w2 ⟨rfl, rfl⟩
          clear HS
          go_wp2
          go_ret
          exact ⟨by simp, HB.out⟩
        · by_cases hN : 0 ≤ N
          · by_cases hM : N ≤ 2
            · rw [decide_eq_true ⟨hN, hM⟩]
              have qM : N < 3 := by omega
              go_enter Try.func20, Try.ntmps20
              go_wp2_with fail
              refine (HW.out _ HB.out).mono ?_
              rintro e w1 ⟨rfl, rfl⟩
              clear HW
              go_wp2_with fail
              refine (HS.out _).mono ?_
              rintro e w2 ⟨rfl, rfl⟩
              clear HS
              go_wp2
              go_ret
              exact ⟨by simp, HB.out⟩
            · rw [decide_eq_false (fun h => hM h.2)]
              have qM : ¬ N < 3 := by omega
              go_enter Try.func20, Try.ntmps20
              go_wp2_with fail
              refine (HW.out _ HB.out).mono ?_
              rintro e w1 ⟨rfl, rfl⟩
              clear HW
              go_wp2_with fail
              refine (HS.out _).mono ?_
              rintro e w2 ⟨rfl, rfl⟩
              clear HS
              go_wp2
              go_ret
              exact ⟨by simp; omega, HB.out⟩
          · rw [decide_eq_false (fun h => hN h.1)]
            go_enter Try.func20, Try.ntmps20
            go_wp2_with fail
            refine (HW.out _ HB.out).mono ?_
            rintro e w1 ⟨rfl, rfl⟩
            clear HW
            go_wp2_with fail
            refine (HS.out _).mono ?_
            rintro e w2 ⟨rfl, rfl⟩
            clear HS
            go_wp2
            go_ret
            exact ⟨by simp, HB.out⟩
    · rw [decide_eq_false (by omega), Bool.false_and]
      have q1 : (1 : Int) ≤ (n : Int) := by omega
      have q3 : ¬ (n : Int) ≤ 3 := by omega
      clear HW HS
      go_enter Try.func20, Try.ntmps20
      go_wp2
      go_ret
      exact ⟨by simp, HB.out⟩
  · rw [decide_eq_false (by omega), Bool.false_and]
    have q1 : ¬ (1 : Int) ≤ (n : Int) := by omega
    clear HW HS
    go_enter Try.func20, Try.ntmps20
    go_wp2
    go_ret
    exact ⟨by simp, HB.out⟩

set_option maxRecDepth 100000 in
set_option maxHeartbeats 1000000 in
theorem sTrustOk_any (v : Value) (g o : Nat) (R : List ByteArray) (K N : Int) (w : World) (hv : SS w v g o R) :
    Calls Try.prog 18 #[.agg #[v, .int .i64 K, .int .i64 N]] w fun e w' => e = .returned (.bool (tkB R K N)) ∧ Below w.heap.size w w' := by
  have HB : Hid (Below w.heap.size w (w.alloc (.cells #[v, .int .i64 K, .int .i64 N] 43))) := below_alloc _ _
  have HW : Hid (∀ W, Below w.heap.size w W → Calls Try.prog 34 #[v, .int .i64 16] W fun e w' => e = .returned (.bool (wideB R 16)) ∧ w' = W) := fun W hW => l11Wide_any v g o R 16 W (hv.below hW hv.lt)
  have HL : Hid (∀ (x lo hi : Int) W, Calls Try.prog 55 #[.int .i64 x, .int .i64 lo, .int .i64 hi] W fun e w' => e = .returned (.bool (decide (lo ≤ x ∧ x ≤ hi))) ∧ w' = W) := fun x lo hi W => l01In_any x lo hi W
  rw [tkB_w]
  rw [wide16] at HW
  obtain ⟨a, c, rfl, hl, hf1, hf2⟩ := hv
  clear hf1 hf2
  generalize allW R 16 = A1 at *
  generalize R.length = n at *
  have H0 : Hid (∀ W, Calls Try.prog 55 #[.int .i64 (n : Int), .int .i64 1, .int .i64 3] W fun e w' => e = .returned (.bool (decide (1 ≤ (n : Int) ∧ (n : Int) ≤ 3))) ∧ w' = W) := fun W => HL.out _ _ _ W
  have H1 : Hid (∀ W, Calls Try.prog 55 #[.int .i64 K, .int .i64 0, .int .i64 2] W fun e w' => e = .returned (.bool (decide (0 ≤ K ∧ K ≤ 2))) ∧ w' = W) := fun W => HL.out _ _ _ W
  have H2 : Hid (∀ W, Calls Try.prog 55 #[.int .i64 N, .int .i64 0, .int .i64 2] W fun e w' => e = .returned (.bool (decide (0 ≤ N ∧ N ≤ 2))) ∧ w' = W) := fun W => HL.out _ _ _ W
  clear HL
  generalize decide (1 ≤ (n : Int) ∧ (n : Int) ≤ 3) = A0 at *
  generalize decide (0 ≤ K ∧ K ≤ 2) = A2 at *
  generalize decide (0 ≤ N ∧ N ≤ 2) = A3 at *
  go_enter Try.func18, Try.ntmps18
  go_wp2_with fail
  refine (H0.out _).mono ?_
  rintro e w1 ⟨rfl, rfl⟩
  clear H0
  cases A0
  · clear HW H1 H2
    go_wp2
    go_ret
    exact ⟨by simp, HB.out⟩
  go_wp2_with fail
  refine (HW.out _ HB.out).mono ?_
  rintro e w2 ⟨rfl, rfl⟩
  clear HW
  cases A1
  · clear H1 H2
    go_wp2
    go_ret
    exact ⟨by simp, HB.out⟩
  go_wp2_with fail
  refine (H1.out _).mono ?_
  rintro e w3 ⟨rfl, rfl⟩
  clear H1
  cases A2
  · clear H2
    go_wp2
    go_ret
    exact ⟨by simp, HB.out⟩
  go_wp2_with fail
  refine (H2.out _).mono ?_
  rintro e w4 ⟨rfl, rfl⟩
  clear H2
  go_wp2
  go_ret
  exact ⟨by simp, HB.out⟩

end Go.Proofs.Ytfojmagcoipbnaa
