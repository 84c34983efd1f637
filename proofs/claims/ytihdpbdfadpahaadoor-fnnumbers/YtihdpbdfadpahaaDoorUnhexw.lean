/-
  The walks of Unhex, the program's and the specification's.
-/
import Derived.Test.YtihdpbdfadpahaaDoorUnhex
namespace Go.Proofs.YtihdpbdfadpahaaDoor
open Go.RowKit
set_option linter.unusedVariables false

def pb (a b : Nat) : UInt8 := UInt8.ofNat (16 * a + b)
theorem pb_int (a b : Nat) (ha : a < 16) (hb : b < 16) : (16 * (a : Int) + (b : Int)) = ((pb a b).toNat : Int) := by
  unfold pb
  simp
  omega

/-- what the specification's loop holds at each round's head -/
def sUnRel (w : World) (s : ByteArray) (v i : Value) (wr : World) : Prop :=
  ∃ (k : Nat) (vs : List Nat), 2 * k ≤ s.size ∧ i = .int .i64 (2 * k : Nat) ∧ vs.length = 2 * k ∧ OB w.heap.size w wr v (pairs vs) ∧ Hid (vals 16 s.data.toList = (vals 16 (s.data.toList.drop (2 * k))).map (vs ++ ·))

end Go.Proofs.YtihdpbdfadpahaaDoor
