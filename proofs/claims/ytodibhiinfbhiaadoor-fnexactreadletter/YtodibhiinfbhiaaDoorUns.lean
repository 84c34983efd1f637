/-
  What Unsealed answers, the program's and the specification's.
-/
import Derived.Test.YtodibhiinfbhiaaDoorFour
import Derived.Test.YtodibhiinfbhiaaDoorShelf
import Derived.Deep.RegionHeld3
import Derived.Deep.QuietTactic
import Derived.BigQuiet
namespace Go.Proofs.YtodibhiinfbhiaaDoor
open Go.RowKit
set_option linter.unusedVariables false

theorem Clone_any (s : ByteArray) (w : World) (h : s.size ≤ 1048576) : Calls Tryd.prog 46 #[.string s] w fun e w' => e = .returned (.string s) ∧ Below w.heap.size w w' := by
  go_enter Tryd.func46, Tryd.ntmps46
  go_wp2_with fail
  refine (Tryd.stringslite_Clone s _ (by omega)).mono ?_
  rintro e w' ⟨rfl, hb⟩
  go_wp2
  go_ret
  exact ⟨rfl, hb⟩

/-- all but the last four bytes, and these -/
def headB (s : ByteArray) : ByteArray := s.extract 0 (s.size - 4)
def tailB (s : ByteArray) : ByteArray := s.extract (s.size - 4) s.size
theorem headB_size (s : ByteArray) : (headB s).size ≤ s.size := by
  unfold headB
  rw [ByteArray.size_extract]
  omega
theorem tailB_size (s : ByteArray) : (tailB s).size ≤ s.size := by
  unfold tailB
  rw [ByteArray.size_extract]
  omega
theorem run_head (s : ByteArray) (h : 4 ≤ s.size) (w : World) :
    (Instr.slice 9 (.string s) none (some (.int .i64 ((s.size : Int) - 4))) none).run Tryd.prog w = .ok (.string (headB s)) w := by
  rw [run_slice_string_to_if (P := Tryd.prog) (w := w) 9 s .i64 _ Tryd.underlying9, if_pos (by omega)]
  have e : ((s.size : Int) - 4).toNat = s.size - 4 := by omega
  rw [e]
  rfl
theorem run_tail (s : ByteArray) (h : 4 ≤ s.size) (w : World) :
    (Instr.slice 9 (.string s) (some (.int .i64 ((s.size : Int) - 4))) none none).run Tryd.prog w = .ok (.string (tailB s)) w := by
  rw [run_slice_string_from_if (P := Tryd.prog) (w := w) 9 s .i64 _ Tryd.underlying9, if_pos (by omega)]
  have e : ((s.size : Int) - 4).toNat = s.size - 4 := by omega
  rw [e]
  rfl

theorem Unsealed_out (s : ByteArray) (w : World) (hm : s.size ≤ 1048576) (h : s.size < 4 ∨ 20004 < s.size) :
    Calls Tryd.prog 24 #[.string s] w fun e w' => e = .returned (.tuple #[.string ⟨#[]⟩, .bool false]) ∧ Below w.heap.size w w' := by
  rcases h with h | h
  · go_enter Tryd.func24, Tryd.ntmps24
    go_wp2
    go_ret2
    exact ⟨rfl, Below.refl _ _⟩
  · go_enter Tryd.func24, Tryd.ntmps24
    go_wp2
    go_ret2
    exact ⟨rfl, Below.refl _ _⟩

theorem bytes_ne {a b : ByteArray} (h : ¬ a = b) : (a.toList == b.toList) = false := by
  simp only [beq_eq_false_iff_ne]
  intro he
  apply h
  apply ByteArray.ext
  apply Array.toList_inj.1
  simpa [ByteArray.toList_eq] using he

theorem Tab.drew {w : World} (h : Tab w) : Tab w.drew := fun i hi => h i hi

set_option maxRecDepth 100000 in
set_option maxHeartbeats 1000000 in
theorem Unsealed_yes (s : ByteArray) (w : World) (h4 : 4 ≤ s.size) (hm : s.size ≤ 20004) (hT : Tab w) (he : fourB (sumN (headB s)) = tailB s) :
    Calls Tryd.prog 24 #[.string s] w fun e w' => e = .returned (.tuple #[.string (headB s), .bool true]) ∧ Below w.heap.size w w' := by
  have hh := run_head s h4
  have ht := run_tail s h4
  have hl := sumN_lt (headB s)
  have hz := headB_size s
  have n1 : ¬ ((s.size : Int) - 4 < 0) := by omega
  have n2 : ¬ (20000 < (s.size : Int) - 4) := by omega
  go_enter Tryd.func24, Tryd.ntmps24
  go_wp2
  go_region_held3 (fun _ => True) (trivial) ((first | (go_at_call 44; refine (SumOf_any (headB s) _ (by omega) hT.drew).mono ?_; rintro e w1 ⟨rfl, rfl⟩) | (go_at_call 45; refine (inBytes_any (sumN (headB s)) _ hl).mono ?_; rintro e w2 ⟨rfl, hb⟩)))
  go_wp2_with fail
  refine (Clone_any (headB s) _ (by omega)).mono ?_
  rintro e w3 ⟨rfl, hb3⟩
  go_wp2
  go_ret2
  have hb' : Below w.heap.size w w2 := (Below.refl w.heap.size w).drew.trans hb
  exact ⟨rfl, hb'.trans (hb3.mono hb'.size)⟩

set_option maxRecDepth 100000 in
set_option maxHeartbeats 1000000 in
theorem Unsealed_no (s : ByteArray) (w : World) (h4 : 4 ≤ s.size) (hm : s.size ≤ 20004) (hT : Tab w) (he : ¬ fourB (sumN (headB s)) = tailB s) :
    Calls Tryd.prog 24 #[.string s] w fun e w' => e = .returned (.tuple #[.string ⟨#[]⟩, .bool false]) ∧ Below w.heap.size w w' := by
  have hh := run_head s h4
  have ht := run_tail s h4
  have hl := sumN_lt (headB s)
  have hz := headB_size s
  have n1 : ¬ ((s.size : Int) - 4 < 0) := by omega
  have n2 : ¬ (20000 < (s.size : Int) - 4) := by omega
  have hq := bytes_ne he
  go_enter Tryd.func24, Tryd.ntmps24
  go_wp2
  go_region_held3 (fun _ => True) (trivial) ((first | (go_at_call 44; refine (SumOf_any (headB s) _ (by omega) hT.drew).mono ?_; rintro e w1 ⟨rfl, rfl⟩) | (go_at_call 45; refine (inBytes_any (sumN (headB s)) _ hl).mono ?_; rintro e w2 ⟨rfl, hb⟩)))
  go_wp2
  go_ret2
  exact ⟨rfl, (Below.refl w.heap.size w).drew.trans hb⟩

set_option maxRecDepth 100000 in
set_option maxHeartbeats 1000000 in
theorem sUnsealed_out (s : ByteArray) (w : World) (hm : s.size ≤ 1048576) (h : s.size < 4 ∨ 20004 < s.size) :
    Calls Tryd.prog 32 #[.string s] w fun e w' => e = .returned (.tuple #[.string ⟨#[]⟩, .bool false]) ∧ Below w.heap.size w w' := by
  rcases h with h | h
  · have n1 : ((s.size : Int) - 4 < 0) := by omega
    go_enter Tryd.func32, Tryd.ntmps32
    go_wp2
    go_quiet (fail)
    go_wp2
    go_ret2
    exact ⟨rfl, (Below.refl w.heap.size w).trans ⟨rfl, rfl, rfl, Nat.le_refl _, fun _ _ => rfl⟩⟩
  · have n1 : decide ((s.size : Int) - 4 < 0) = false := by simp; omega
    have n2 : decide (20000 < (s.size : Int) - 4) = true := by simp; omega
    go_enter Tryd.func32, Tryd.ntmps32
    go_wp2
    go_quiet (fail)
    go_wp2
    go_ret2
    exact ⟨rfl, (Below.refl w.heap.size w).trans ⟨rfl, rfl, rfl, Nat.le_refl _, fun _ _ => rfl⟩⟩

set_option maxRecDepth 100000 in
set_option maxHeartbeats 1000000 in
theorem sUnsealed_yes (s : ByteArray) (w : World) (h4 : 4 ≤ s.size) (hm : s.size ≤ 20004) (he : fourB (sumN (headB s)) = tailB s) :
    Calls Tryd.prog 32 #[.string s] w fun e w' => e = .returned (.tuple #[.string (headB s), .bool true]) ∧ Below w.heap.size w w' := by
  have hh := run_head s h4
  have ht := run_tail s h4
  have hl := sumN_lt (headB s)
  have hz := headB_size s
  have n1 : decide ((s.size : Int) - 4 < 0) = false := by simp; omega
  have n2 : decide (20000 < (s.size : Int) - 4) = false := by simp; omega
  go_enter Tryd.func32, Tryd.ntmps32
  go_wp2
  go_region_held3 (fun _ => True) (trivial) ((first | (go_at_call 49; refine (sSumOf_any (headB s) _ (by omega)).mono ?_; rintro e w1 ⟨rfl, rfl⟩) | (go_at_call 48; refine (l02Four_any (sumN (headB s)) _ hl).mono ?_; rintro e w2 ⟨rfl, hb⟩)))
  go_wp2
  go_ret2
  exact ⟨rfl, (Below.refl w.heap.size w).drew.trans hb⟩

set_option maxRecDepth 100000 in
set_option maxHeartbeats 1000000 in
theorem sUnsealed_no (s : ByteArray) (w : World) (h4 : 4 ≤ s.size) (hm : s.size ≤ 20004) (he : ¬ fourB (sumN (headB s)) = tailB s) :
    Calls Tryd.prog 32 #[.string s] w fun e w' => e = .returned (.tuple #[.string ⟨#[]⟩, .bool false]) ∧ Below w.heap.size w w' := by
  have hh := run_head s h4
  have ht := run_tail s h4
  have hl := sumN_lt (headB s)
  have hz := headB_size s
  have hq := bytes_ne (fun h : tailB s = fourB (sumN (headB s)) => he h.symm)
  have n1 : decide ((s.size : Int) - 4 < 0) = false := by simp; omega
  have n2 : decide (20000 < (s.size : Int) - 4) = false := by simp; omega
  go_enter Tryd.func32, Tryd.ntmps32
  go_wp2
  go_region_held3 (fun _ => True) (trivial) ((first | (go_at_call 49; refine (sSumOf_any (headB s) _ (by omega)).mono ?_; rintro e w1 ⟨rfl, rfl⟩) | (go_at_call 48; refine (l02Four_any (sumN (headB s)) _ hl).mono ?_; rintro e w2 ⟨rfl, hb⟩)))
  go_wp2
  go_ret2
  exact ⟨rfl, (Below.refl w.heap.size w).drew.trans hb⟩

end Go.Proofs.YtodibhiinfbhiaaDoor
