/-
  The seed of a house: the program's and the specification's answers; the walk of the law FnExactSeedOf.
-/
import Derived.Test.YtibkmlfigcfeoaaDoorIto
import Derived.Test.YtibkmlfigcfeoaaDoorDecn
import Derived.Test.YtibkmlfigcfeoaaDoorHc
namespace Go.Proofs.YtibkmlfigcfeoaaDoor
open Go.RowKit
set_option linter.unusedVariables false
set_option linter.unusedSimpArgs false

/-- the seed of a house that there is -/
def sdB (n : Nat) : ByteArray := ⟨#[104, 111, 117, 115, 101]⟩ ++ ⟨(Lib.decDigits n).toArray⟩
def sdT (x : Int) : ByteArray := if 0 ≤ x ∧ x < 3 then sdB x.toNat else ⟨#[]⟩
theorem few_size (n : Nat) (h : n < 3) : (⟨(Lib.decDigits n).toArray⟩ : ByteArray).size ≤ 100 := by
  have h2 : (Lib.decDigits n).length ≤ 100 := by
    match n, h with
    | 0, _ => first | decide | (simp [Lib.decDigits]) | (unfold Lib.decDigits; simp)
    | 1, _ => first | decide | (simp [Lib.decDigits]) | (unfold Lib.decDigits; simp)
    | 2, _ => first | decide | (simp [Lib.decDigits]) | (unfold Lib.decDigits; simp)
  simpa [ByteArray.size] using h2
theorem Decimal_few (n : Nat) (h : n < 100) (w : World) : Calls Tryd.prog 9 #[.int .i64 n] w fun e w' => e = .returned (.string ⟨(Lib.decDigits n).toArray⟩) ∧ Below w.heap.size w w' := by
  go_enter Tryd.func9, Tryd.ntmps9
  go_wp2_with fail
  refine (Tryd.strconv_Itoa_small n h _).mono ?_
  rintro e w' ⟨rfl, rfl⟩
  go_wp2
  go_ret
  exact ⟨rfl, Below.refl _ _⟩
theorem sDecimal_few (n : Nat) (h : n < 100) (w : World) : Calls Tryd.prog 7 #[.int .i64 n] w fun e w' => e = .returned (.string ⟨(Lib.decDigits n).toArray⟩) ∧ Below w.heap.size w w' := by
  rcases Nat.eq_zero_or_pos n with h0 | h0
  · subst h0
    exact Decimal_zero w
  · exact Decimal_pos n w h0 (by omega)

set_option maxRecDepth 100000 in
theorem SeedOf_any (x : Int) (w : World) : Calls Tryd.prog 5 #[.int .i64 x] w fun e w' => e = .returned (.string (sdT x)) ∧ Below w.heap.size w w' := by
  by_cases h : 0 ≤ x ∧ x < 3
  · obtain ⟨n, rfl⟩ : ∃ n : Nat, x = (n : Int) := ⟨x.toNat, by omega⟩
    have hd : decide (0 ≤ (n : Int) ∧ (n : Int) < 3) = true := decide_eq_true h
    have HH : Hid (∀ W, Calls Tryd.prog 8 #[.int .i64 n] W fun e w' => e = .returned (.bool true) ∧ w' = W) := fun W => by rw [← hd]; exact houseOk_any n W
    have HD : Hid (∀ W, Calls Tryd.prog 9 #[.int .i64 n] W fun e w' => e = .returned (.string ⟨(Lib.decDigits n).toArray⟩) ∧ Below W.heap.size W w') := fun W => Decimal_few n (by omega) W
    have hT : sdT (n : Int) = sdB n := by unfold sdT; rw [if_pos h]; rfl
    rw [hT]
    unfold sdB
    have hz := few_size n (by omega)
    clear h hd hT
    generalize (⟨(Lib.decDigits n).toArray⟩ : ByteArray) = D at *
    go_enter Tryd.func5, Tryd.ntmps5
    go_wp2_with fail
    refine (HH.out _).mono ?_
    rintro e w1 ⟨rfl, rfl⟩
    go_wp2_with fail
    refine (HD.out _).mono ?_
    rintro e w2 ⟨rfl, hb⟩
    go_wp2
    go_ret
    exact ⟨rfl, hb⟩
  · have hd : decide (0 ≤ x ∧ x < 3) = false := decide_eq_false h
    have HH : Hid (∀ W, Calls Tryd.prog 8 #[.int .i64 x] W fun e w' => e = .returned (.bool false) ∧ w' = W) := fun W => by rw [← hd]; exact houseOk_any x W
    have hT : sdT x = ⟨#[]⟩ := by unfold sdT; rw [if_neg h]
    rw [hT]
    clear h hd hT
    go_enter Tryd.func5, Tryd.ntmps5
    go_wp2_with fail
    refine (HH.out _).mono ?_
    rintro e w1 ⟨rfl, rfl⟩
    go_wp2
    go_ret
    exact ⟨rfl, Below.refl _ _⟩

set_option maxRecDepth 100000 in
theorem sSeedOf_any (x : Int) (w : World) : Calls Tryd.prog 4 #[.int .i64 x] w fun e w' => e = .returned (.string (sdT x)) ∧ Below w.heap.size w w' := by
  by_cases h : 0 ≤ x ∧ x < 3
  · obtain ⟨n, rfl⟩ : ∃ n : Nat, x = (n : Int) := ⟨x.toNat, by omega⟩
    have hd : decide (0 ≤ (n : Int) ∧ (n : Int) ≤ 2) = true := decide_eq_true (by omega)
    have HH : Hid (∀ W, Calls Tryd.prog 6 #[.int .i64 n, .int .i64 0, .int .i64 2] W fun e w' => e = .returned (.bool true) ∧ w' = W) := fun W => by rw [← hd]; exact l01In_any n 0 2 W
    have HD : Hid (∀ W, Calls Tryd.prog 7 #[.int .i64 n] W fun e w' => e = .returned (.string ⟨(Lib.decDigits n).toArray⟩) ∧ Below W.heap.size W w') := fun W => sDecimal_few n (by omega) W
    have hT : sdT (n : Int) = sdB n := by unfold sdT; rw [if_pos h]; rfl
    rw [hT]
    unfold sdB
    have hz := few_size n (by omega)
    clear h hd hT
    generalize (⟨(Lib.decDigits n).toArray⟩ : ByteArray) = D at *
    go_enter Tryd.func4, Tryd.ntmps4
    go_wp2_with fail
    refine (HH.out _).mono ?_
    rintro e w1 ⟨rfl, rfl⟩
    go_wp2_with fail
    refine (HD.out _).mono ?_
    rintro e w2 ⟨rfl, hb⟩
    go_wp2
    go_ret
    exact ⟨rfl, hb⟩
  · have hd : decide (0 ≤ x ∧ x ≤ 2) = false := decide_eq_false (by omega)
    have HH : Hid (∀ W, Calls Tryd.prog 6 #[.int .i64 x, .int .i64 0, .int .i64 2] W fun e w' => e = .returned (.bool false) ∧ w' = W) := fun W => by rw [← hd]; exact l01In_any x 0 2 W
    have hT : sdT x = ⟨#[]⟩ := by unfold sdT; rw [if_neg h]
    rw [hT]
    clear h hd hT
    go_enter Tryd.func4, Tryd.ntmps4
    go_wp2_with fail
    refine (HH.out _).mono ?_
    rintro e w1 ⟨rfl, rfl⟩
    go_wp2
    go_ret
    exact ⟨rfl, Below.refl _ _⟩

theorem seedLaw_any (x : Int) (w : World) : Calls Tryd.prog 3 #[.int .i64 x] w fun e w' => e = .returned (.bool true) ∧ Below w.heap.size w w' := by
  have H1 := sSeedOf_any x w
  have H2 : Hid (∀ W, Calls Tryd.prog 5 #[.int .i64 x] W fun e w' => e = .returned (.string (sdT x)) ∧ Below W.heap.size W w') := fun W => SeedOf_any x W
  generalize sdT x = T at *
  go_enter Tryd.func3, Tryd.ntmps3
  go_wp2_with fail
  refine H1.mono ?_
  rintro e w1 ⟨rfl, hb1⟩
  go_wp2_with fail
  refine (H2.out _).mono ?_
  rintro e w2 ⟨rfl, hb2⟩
  go_wp2
  go_ret
  exact ⟨rfl, hb1.trans (hb2.mono hb1.size)⟩

end Go.Proofs.YtibkmlfigcfeoaaDoor
