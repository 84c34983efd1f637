/-
  What VarText answers, the program's and the specification's: the bytes varL of the number.
-/
import Derived.Test.YtibkmlfigcfeoaaDoorOwn
namespace Go.Proofs.YtibkmlfigcfeoaaDoor
open Go.RowKit

theorem one_byte (w : World) (x : Int) (b : UInt8) (t : TypeId) (h : x = (b.toNat : Int)) : ∀ j u, (bv [b])[j]? = some u → (w.alloc (.cells #[.int .u8 x] t)).cell? ((⟨w.heap.size, 0, none⟩ : Addr).add j) = some u := by
  intro j u hj
  obtain ⟨hj', rfl⟩ := bv_get _ _ _ hj
  have h0 : j = 0 := by simp at hj'; exact hj'
  subst h0
  subst h
  simp [Addr.add]

def hiB (m : Nat) : UInt8 := UInt8.ofNat (m % 128 + 128)
def loB (m : Nat) : UInt8 := UInt8.ofNat m
theorem byte_hi (m : Nat) : ((m : Int) % 128 + 128) = ((hiB m).toNat : Int) := by
  unfold hiB; simp; omega
theorem byte_lo (m : Nat) (h : m ≤ 127) : (m : Int) = ((loB m).toNat : Int) := by
  unfold loB; simp; omega

/-- what the loop of VarText holds at each round's head: so many bytes are written, and those of the rest make the whole -/
def VarRel (n : Nat) (w : World) (x v : Value) (wr : World) : Prop :=
  ∃ (m f : Nat) (pre : List UInt8), m ≤ n ∧ m < 128 ^ (f + 1) ∧ x = .int .i64 m ∧ OB w.heap.size w wr v pre ∧ pre.length ≤ 10 ∧ pre ++ M.varF f m = M.varL n

theorem VarRel.step {n m f : Nat} {pre : List UInt8} (h : 127 < m) (hf : m < 128 ^ (f + 1)) (he : pre ++ M.varF f m = M.varL n) :
    ∃ f', m / 128 < 128 ^ (f' + 1) ∧ (pre ++ [hiB m]) ++ M.varF f' (m / 128) = M.varL n ∧ (pre ++ [hiB m]).length ≤ 10 := by
  cases f with
  | zero => simp at hf; omega
  | succ f =>
    rw [M.varF_big _ _ h] at he
    change pre ++ hiB m :: M.varF f (m / 128) = M.varL n at he
    refine ⟨f, ?_, by simpa using he, ?_⟩
    · have : m < 128 ^ (f + 1) * 128 := by rw [← Nat.pow_succ]; exact hf
      omega
    · have h1 := M.varL_len n
      rw [← he] at h1
      simp at h1 ⊢
      omega

theorem l01In_any (x a b : Int) (w : World) : Calls Tryd.prog 6 #[.int .i64 x, .int .i64 a, .int .i64 b] w fun e w' => e = .returned (.bool (decide (a ≤ x ∧ x ≤ b))) ∧ w' = w := by
  by_cases h1 : a ≤ x
  · by_cases h2 : x ≤ b
    · go_enter Tryd.func6, Tryd.ntmps6
      go_wp2
      go_ret
      exact ⟨by simp [h1, h2], rfl⟩
    · go_enter Tryd.func6, Tryd.ntmps6
      go_wp2
      go_ret
      exact ⟨by simp [h2], rfl⟩
  · go_enter Tryd.func6, Tryd.ntmps6
    go_wp2
    go_ret
    exact ⟨by simp; omega, rfl⟩

end Go.Proofs.YtibkmlfigcfeoaaDoor
