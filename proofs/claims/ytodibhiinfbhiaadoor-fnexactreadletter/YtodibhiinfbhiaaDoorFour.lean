/-
  The four bytes of a sum, as the program and the specification write them, and what Sealed answers.
-/
import Derived.Test.YtodibhiinfbhiaaDoorSums
import Derived.Test.YtodibhiinfbhiaaDoorOwn
namespace Go.Proofs.YtodibhiinfbhiaaDoor
open Go.RowKit
set_option linter.unusedVariables false

def four (n : Nat) : List UInt8 := [UInt8.ofNat (n / 16777216), UInt8.ofNat (n / 65536), UInt8.ofNat (n / 256), UInt8.ofNat n]
def fourB (n : Nat) : ByteArray := ⟨(four n).toArray⟩
theorem fourB_size (n : Nat) : (fourB n).size = 4 := rfl

theorem run_four (n : Nat) (hn : n < 4294967296) (w : World) :
    (convert 22 9 (.slice (some ⟨w.heap.size, 0, none⟩) 4 4)).run Tryd.prog (w.alloc (.cells #[.int .u8 ((n : Int) / 16777216), .int .u8 ((n : Int) / 65536 % 256), .int .u8 ((n : Int) / 256 % 256), .int .u8 ((n : Int) % 256)] 5)) =
      .ok (.string (fourB n)) (w.alloc (.cells #[.int .u8 ((n : Int) / 16777216), .int .u8 ((n : Int) / 65536 % 256), .int .u8 ((n : Int) / 256 % 256), .int .u8 ((n : Int) % 256)] 5)) := by
  refine run_convert_bytes_back (P := Tryd.prog) _ 22 9 5 ⟨w.heap.size, 0, none⟩ 4 (four n) Tryd.underlying22 Tryd.underlying5 Tryd.underlying9 ?_
  intro j hj
  have h0 : (UInt8.ofNat (n / 16777216)).toNat = n / 16777216 := by simp; omega
  have h1 : (UInt8.ofNat (n / 65536)).toNat = n / 65536 % 256 := by simp
  have h2 : (UInt8.ofNat (n / 256)).toNat = n / 256 % 256 := by simp
  have h3 : (UInt8.ofNat n).toNat = n % 256 := by simp
  have hj4 : j < 4 := by simpa [four] using hj
  rcases (show j = 0 ∨ j = 1 ∨ j = 2 ∨ j = 3 by omega) with rfl | rfl | rfl | rfl
  · simp [Addr.add, four, h0]
  · simp [Addr.add, four, h1]
  · simp [Addr.add, four, h2]
  · simp [Addr.add, four, h3]

theorem inBytes_any (n : Nat) (w : World) (hn : n < 4294967296) :
    Calls Tryd.prog 45 #[.int .u32 (n : Int)] w fun e w' => e = .returned (.string (fourB n)) ∧ Below w.heap.size w w' := by
  have hcv := run_four n hn w
  go_enter Tryd.func45, Tryd.ntmps45
  go_wp2
  go_ret
  exact ⟨rfl, (Below.refl _ _).alloc (Nat.le_refl _) _⟩
theorem l02Four_any (n : Nat) (w : World) (hn : n < 4294967296) :
    Calls Tryd.prog 48 #[.int .u32 (n : Int)] w fun e w' => e = .returned (.string (fourB n)) ∧ Below w.heap.size w w' := by
  have hcv := run_four n hn w
  go_enter Tryd.func48, Tryd.ntmps48
  go_wp2
  go_ret
  exact ⟨rfl, (Below.refl _ _).alloc (Nat.le_refl _) _⟩

def sealedB (s : ByteArray) : ByteArray := s ++ fourB (sumN s)

theorem Sealed_yes (s : ByteArray) (w : World) (hs : s.size ≤ 20000) (hT : Tab w) :
    Calls Tryd.prog 23 #[.string s] w fun e w' => e = .returned (.tuple #[.string (sealedB s), .bool true]) ∧ Below w.heap.size w w' := by
  have hl := sumN_lt s
  have h4 := fourB_size (sumN s)
  go_enter Tryd.func23, Tryd.ntmps23
  go_wp2_with fail
  refine (SumOf_any s _ (by omega) hT).mono ?_
  rintro e w1 ⟨rfl, rfl⟩
  go_wp2_with fail
  refine (inBytes_any (sumN s) _ hl).mono ?_
  rintro e w2 ⟨rfl, hb⟩
  go_wp2
  go_ret2
  exact ⟨rfl, hb⟩

theorem Sealed_no (s : ByteArray) (w : World) (hs : 20000 < s.size) (hm : s.size ≤ 1048576) :
    Calls Tryd.prog 23 #[.string s] w fun e w' => e = .returned (.tuple #[.string ⟨#[]⟩, .bool false]) ∧ Below w.heap.size w w' := by
  go_enter Tryd.func23, Tryd.ntmps23
  go_wp2
  go_ret2
  exact ⟨rfl, Below.refl _ _⟩

theorem sSealed_yes (s : ByteArray) (w : World) (hs : s.size ≤ 20000) :
    Calls Tryd.prog 33 #[.string s] w fun e w' => e = .returned (.tuple #[.string (sealedB s), .bool true]) ∧ Below w.heap.size w w' := by
  have hl := sumN_lt s
  have h4 := fourB_size (sumN s)
  go_enter Tryd.func33, Tryd.ntmps33
  go_wp2_with fail
  refine (sSumOf_any s _ (by omega)).mono ?_
  rintro e w1 ⟨rfl, rfl⟩
  go_wp2_with fail
  refine (l02Four_any (sumN s) _ hl).mono ?_
  rintro e w2 ⟨rfl, hb⟩
  go_wp2
  go_ret2
  exact ⟨rfl, hb⟩

theorem sSealed_no (s : ByteArray) (w : World) (hs : 20000 < s.size) (hm : s.size ≤ 1048576) :
    Calls Tryd.prog 33 #[.string s] w fun e w' => e = .returned (.tuple #[.string ⟨#[]⟩, .bool false]) ∧ Below w.heap.size w w' := by
  go_enter Tryd.func33, Tryd.ntmps33
  go_wp2
  go_ret2
  exact ⟨rfl, Below.refl _ _⟩

end Go.Proofs.YtodibhiinfbhiaaDoor
