/-
  Plain facts on reading a number that stands in bytes, step by step.
-/
import Derived.Test.YtodibhiinfbhiaaDoorMath
namespace Go.Proofs.YtodibhiinfbhiaaDoor.M

theorem pow7 (k : Nat) : (2 : Nat) ^ (7 * k) = 128 ^ k := by rw [Nat.pow_mul]

theorem sh_eq (b k : Nat) : ((b : Int) % 128 * 2 ^ (7 * k)) = ((b % 128 * 128 ^ k : Nat) : Int) := by
  have h : ((2 ^ (7 * k) : Nat) : Int) = (2 : Int) ^ (7 * k) := by simp
  rw [← h, pow7]
  simp

theorem pow_le5 (k : Nat) (h : k ≤ 4) : 128 ^ k ≤ 268435456 := by
  have := Nat.pow_le_pow_right (show 0 < 128 by omega) h
  simpa using this

theorem sh_le (b k : Nat) (h : k ≤ 4) : b % 128 * 128 ^ k ≤ 127 * 268435456 :=
  Nat.mul_le_mul (by omega) (pow_le5 k h)

theorem acc_lt (N b k : Nat) (h : N < 128 ^ k) : N + b % 128 * 128 ^ k < 128 ^ (k + 1) := by
  have h1 : b % 128 * 128 ^ k ≤ 127 * 128 ^ k := Nat.mul_le_mul_right _ (by omega)
  have h2 : 128 ^ (k + 1) = 128 ^ k * 128 := Nat.pow_succ ..
  omega

theorem rv_more (s : List UInt8) (p k N : Nat) (b : UInt8) (hk : k < 5) (hb : s[p + k]? = some b) (h : 127 < b.toNat) :
    rv s p (5 - k) k N = rv s p (5 - (k + 1)) (k + 1) (N + b.toNat % 128 * 128 ^ k) := by
  have e : 5 - k = (5 - (k + 1)) + 1 := by omega
  rw [e]
  simp only [rv, hb]
  rw [if_pos (by omega)]

theorem rv_no (s : List UInt8) (p k N : Nat) (b : UInt8) (hk : k < 5) (hb : s[p + k]? = some b) (h : ¬ 127 < b.toNat) (hn : (b.toNat = 0 ∧ 0 < k) ∨ 1000000000 < N + b.toNat % 128 * 128 ^ k) :
    rv s p (5 - k) k N = none := by
  have e : 5 - k = (5 - (k + 1)) + 1 := by omega
  rw [e]
  simp only [rv, hb]
  rw [if_neg (by omega), if_pos hn]

theorem rv_yes (s : List UInt8) (p k N : Nat) (b : UInt8) (hk : k < 5) (hb : s[p + k]? = some b) (h : ¬ 127 < b.toNat) (hn : ¬ ((b.toNat = 0 ∧ 0 < k) ∨ 1000000000 < N + b.toNat % 128 * 128 ^ k)) :
    rv s p (5 - k) k N = some (N + b.toNat % 128 * 128 ^ k, p + k + 1) := by
  have e : 5 - k = (5 - (k + 1)) + 1 := by omega
  rw [e]
  simp only [rv, hb]
  rw [if_neg (by omega), if_neg hn]

theorem rv_end (s : List UInt8) (p k N : Nat) (h : ¬ (k < 5 ∧ p + k < s.length)) : rv s p (5 - k) k N = none := by
  by_cases hk : k < 5
  · have e : 5 - k = (5 - (k + 1)) + 1 := by omega
    rw [e]
    have hb : s[p + k]? = none := by simp; omega
    simp only [rv, hb]
  · have e : 5 - k = 0 := by omega
    rw [e]
    rfl

end Go.Proofs.YtodibhiinfbhiaaDoor.M
