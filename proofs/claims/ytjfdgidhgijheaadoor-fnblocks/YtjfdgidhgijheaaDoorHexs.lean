/-
  The walk of the specification's Hex.
-/
import Derived.Test.YtjfdgidhgijheaaDoorHexw
namespace Go.Proofs.YtjfdgidhgijheaaDoor
open Go.RowKit
set_option linter.unusedVariables false

theorem q1 (b : Nat) (h : b < 256) : IntKind.i64.wrap ((IntKind.i64.wrap (b : Int)).tdiv 16) = ((b / 16 : Nat) : Int) := by
  rw [IntWalk.i64_in (b : Int) (by omega)]
  have e : (b : Int).tdiv 16 = ((b / 16 : Nat) : Int) := (Int.ofNat_tdiv b 16).symm
  rw [e, IntWalk.i64_in _ (by omega)]
theorem q2 (b : Nat) (h : b < 256) : (IntKind.i64.wrap (b : Int)).tmod 16 = ((b % 16 : Nat) : Int) := by
  rw [IntWalk.i64_in (b : Int) (by omega)]
  exact (Int.ofNat_tmod b 16).symm

theorem q1b (b : Nat) (h : b < 256) : 0 ≤ IntKind.i64.wrap ((IntKind.i64.wrap (b : Int)).tdiv 16) ∧ IntKind.i64.wrap ((IntKind.i64.wrap (b : Int)).tdiv 16) < 16 := by
  rw [q1 b h]
  omega
theorem q2b (b : Nat) (h : b < 256) : 0 ≤ (IntKind.i64.wrap (b : Int)).tmod 16 ∧ (IntKind.i64.wrap (b : Int)).tmod 16 < 16 := by
  rw [q2 b h]
  omega
end Go.Proofs.YtjfdgidhgijheaaDoor
