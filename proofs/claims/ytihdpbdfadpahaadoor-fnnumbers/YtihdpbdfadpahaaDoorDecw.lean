/-
  The walk of the specification's Decimal, at a number that is not below 0.
-/
import Derived.Test.YtihdpbdfadpahaaDoorDec
namespace Go.Proofs.YtihdpbdfadpahaaDoor
open Go.RowKit
set_option linter.unusedVariables false

def decB (n : Nat) : ByteArray := ⟨(decL n).toArray⟩

theorem one_str (w : World) (b : UInt8) : (convert 22 9 (.slice (some ⟨w.heap.size, 0, none⟩) 1 1)).run Tryd.prog (w.alloc (.cells #[.int .u8 (b.toNat : Int)] 5)) = .ok (.string ⟨[b].toArray⟩) (w.alloc (.cells #[.int .u8 (b.toNat : Int)] 5)) := by
  refine run_convert_bytes_back (P := Tryd.prog) _ 22 9 5 ⟨w.heap.size, 0, none⟩ 1 [b] Tryd.underlying22 Tryd.underlying5 Tryd.underlying9 ?_
  intro j hj
  have h0 : j = 0 := by simpa using hj
  subst h0
  simp [Addr.add]

/-- one figure ahead of a text -/
def consB (b : UInt8) (t : ByteArray) : ByteArray := ⟨[b].toArray⟩ ++ t
theorem consB_list (b : UInt8) (t : ByteArray) : (consB b t).data.toList = b :: t.data.toList := by
  unfold consB
  simp
theorem consB_size (b : UInt8) (t : ByteArray) : (consB b t).size = t.size + 1 := by
  unfold consB
  rw [ByteArray.size_append]
  show 1 + t.size = _
  omega

def DecRel (n : Nat) (w : World) (x s : Value) (wr : World) : Prop :=
  ∃ (m f : Nat) (t : ByteArray), m ≤ n ∧ x = .int .i64 m ∧ s = .string t ∧ t.size + f = 20 ∧ Hid (m < 10 ^ f) ∧ Hid (decR f m ++ t.data.toList = decR 20 n) ∧ Below w.heap.size w wr

end Go.Proofs.YtihdpbdfadpahaaDoor
