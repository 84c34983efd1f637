/-
  What the specification's Decimal answers of a number below 0.
-/
import Derived.Test.YtibkmlfigcfeoaaDoorDec
namespace Go.Proofs.YtibkmlfigcfeoaaDoor
open Go.RowKit
set_option linter.unusedVariables false

theorem neg_mod (m : Nat) : (-(m : Int)).tmod 10 = -((m % 10 : Nat) : Int) := by
  rw [Int.neg_tmod]
  exact congrArg Neg.neg (Int.ofNat_tmod m 10).symm
theorem neg_div (m : Nat) : (-(m : Int)).tdiv 10 = -((m / 10 : Nat) : Int) := by
  rw [Int.neg_tdiv]
  exact congrArg Neg.neg (Int.ofNat_tdiv m 10).symm

set_option maxRecDepth 100000 in
set_option maxHeartbeats 1000000 in
theorem Decimal_neg (n : Nat) (w : World) (h0 : 0 < n) (hn : n ≤ 9223372036854775808) :
    Calls Tryd.prog 7 #[.int .i64 (-(n : Int))] w fun e w' => e = .returned (.string (consB 45 ⟨(Lib.decDigits n).toArray⟩)) ∧ Below w.heap.size w w' := by
  have hq : ((-(n : Int)) == 0) = false := by simp; omega
  have hsg : (-(n : Int)) < 0 := by omega
  go_enter Tryd.func7, Tryd.ntmps7
  go_wp2
  go_loopw [0, 4, 5] (fun x s _ wr => DecRel (-1) n w x s wr) (fun x _ _ _ => (-(intOf x)).toNat)
  case atStart => exact ⟨n, 20, ⟨#[]⟩, Nat.le_refl _, by simp, rfl, rfl, by unfold Hid; omega, by unfold Hid; simp, Below.refl _ _⟩
  case round =>
    obtain ⟨m, f, t, hmn, rfl, rfl, htf, HF, HE, hbel⟩ := hrel
    rw [Int.neg_one_mul]
    by_cases hm : m = 0
    · have hmq : ((-(m : Int)) != 0) = false := by simp; omega
      have HD : Hid (t = ⟨(Lib.decDigits n).toArray⟩) := dec_end h0 (by omega) hm HE.out
      have hts : t.size ≤ 20 := by omega
      clear hm
      go_wp2
      go_ret
      exact ⟨by rw [← HD.out]; rfl, hbel⟩
    · have hmq : ((-(m : Int)) != 0) = true := by simp; omega
      have hm0 : 0 < m := by omega
      obtain ⟨f', rfl, hF2, hS⟩ := dec_step hm HF.out HE.out
      have HS : Hid (decR f' (m / 10) ++ (consB (fig (m % 10)) t).data.toList = decR 20 n) := hS
      have HF2 : Hid (m / 10 < 10 ^ f') := hF2
      clear hS hF2 hm
      have hmod := neg_mod m
      have hdiv := neg_div m
      have hr : m % 10 < 10 := by omega
      by_cases hz : m % 10 = 0
      · have hz' : ¬ (-((m % 10 : Nat) : Int) < 0) := by omega
        clear hz
        go_wp2_with fail
        refine (figI _ (m % 10) _ (by omega) (by omega)).mono ?_
        rintro e w2 ⟨rfl, rfl⟩
        have hcv := one_str w2 (fig (m % 10))
        go_wp2
        go_roundw
        case rel => exact ⟨m / 10, f', consB (fig (m % 10)) t, by omega, by rw [Int.neg_one_mul]; go_num, rfl, by rw [consB_size]; omega, HF2, HS, hbel.alloc hbel.size _⟩
        case measure => simp [intOf]; omega
      · have hz' : (-((m % 10 : Nat) : Int) < 0) := by omega
        clear hz
        go_wp2_with fail
        refine (figI _ (m % 10) _ (by omega) (by omega)).mono ?_
        rintro e w2 ⟨rfl, rfl⟩
        have hcv := one_str w2 (fig (m % 10))
        go_wp2
        go_roundw
        case rel => exact ⟨m / 10, f', consB (fig (m % 10)) t, by omega, by rw [Int.neg_one_mul]; go_num, rfl, by rw [consB_size]; omega, HF2, HS, hbel.alloc hbel.size _⟩
        case measure => simp [intOf]; omega

theorem itoa_cases (n : Int) : (∃ k : Nat, n = (k : Int) ∧ Lib.itoa n = Lib.decDigits k) ∨ ∃ k : Nat, 0 < k ∧ n = -(k : Int) ∧ Lib.itoa n = 45 :: Lib.decDigits k := by
  by_cases h : n < 0
  · exact .inr ⟨n.natAbs, by omega, by omega, by unfold Lib.itoa; rw [if_pos h]⟩
  · refine .inl ⟨n.toNat, by omega, ?_⟩
    unfold Lib.itoa
    rw [if_neg h]

theorem sDecimal_any (n : Int) (w : World) (h0 : -9223372036854775808 ≤ n) (h1 : n ≤ 9223372036854775807) :
    Calls Tryd.prog 7 #[.int .i64 n] w fun e w' => e = .returned (.string ⟨(Lib.itoa n).toArray⟩) ∧ Below w.heap.size w w' := by
  rcases itoa_cases n with ⟨k, rfl, hi⟩ | ⟨k, hk, rfl, hi⟩
  · rw [hi]
    rcases Nat.eq_zero_or_pos k with h | h
    · subst h; exact Decimal_zero w
    · exact Decimal_pos k w h (by omega)
  · rw [hi]
    have h := Decimal_neg k w hk (by omega)
    have e : consB 45 ⟨(Lib.decDigits k).toArray⟩ = ⟨(45 :: Lib.decDigits k).toArray⟩ := by
      apply ByteArray.ext
      apply Array.toList_inj.1
      rw [consB_list]
    rw [e] at h
    exact h

end Go.Proofs.YtibkmlfigcfeoaaDoor
