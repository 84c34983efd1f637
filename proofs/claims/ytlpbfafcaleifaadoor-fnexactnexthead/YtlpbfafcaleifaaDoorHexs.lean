/-
  The walk of the specification's Hex.
-/
import Derived.Test.YtlpbfafcaleifaaDoorHexw
namespace Go.Proofs.YtlpbfafcaleifaaDoor
open Go.RowKit
set_option linter.unusedVariables false

theorem q1 (b : Nat) (h : b < 256) : IntKind.i64.wrap ((IntKind.i64.wrap (b : Int)).tdiv 16) = ((b / 16 : Nat) : Int) := by
  rw [IntWalk.i64_in (b : Int) (by omega)]
  have e : (b : Int).tdiv 16 = ((b / 16 : Nat) : Int) := (Int.ofNat_tdiv b 16).symm
  rw [e, IntWalk.i64_in _ (by omega)]
theorem q2 (b : Nat) (h : b < 256) : (IntKind.i64.wrap (b : Int)).tmod 16 = ((b % 16 : Nat) : Int) := by
  rw [IntWalk.i64_in (b : Int) (by omega)]
  exact (Int.ofNat_tmod b 16).symm

theorem q1b (b : Nat) (h : b < 256) : 0 ≤ IntKind.i64.wrap ((IntKind.i64.wrap (b : Int)).tdiv 16) ∧ IntKind.i64.wrap ((IntKind.i64.wrap (b : Int)).tdiv 16) < 16 := by
  rw [q1 b h]
  omega
theorem q2b (b : Nat) (h : b < 256) : 0 ≤ (IntKind.i64.wrap (b : Int)).tmod 16 ∧ (IntKind.i64.wrap (b : Int)).tmod 16 < 16 := by
  rw [q2 b h]
  omega
theorem l01Figure_gen (x : Int) (w : World) (h : 0 ≤ x ∧ x < 16) :
    Calls Tryd.prog 40 #[.int .i64 x] w fun e w' => e = .returned (.int .u8 (fig x.toNat).toNat) ∧ w' = w := by
  obtain ⟨n, rfl⟩ := Int.eq_ofNat_of_zero_le h.1
  rw [Int.toNat_natCast]
  exact l01Figure_any n w (by omega)

end Go.Proofs.YtlpbfafcaleifaaDoor
