/-
  The walk of the law FnExactPartsOf: it answers true of every line.
-/
import Derived.Test.YtkpcjhihbhmakaaDoorMark
namespace Go.Proofs.YtkpcjhihbhmakaaDoor
open Go.RowKit
set_option linter.unusedVariables false

theorem parts_len (l : List UInt8) : (parts l).2.length ≤ 10 := by
  unfold parts
  split
  · rename_i h
    simpa [fb] using h.2.2
  · simp

theorem sPartsOf_at (s : ByteArray) (b : Bool) (L : List ByteArray) (w : World) (hm : s.size ≤ 1048576) (hP : parts s.data.toList = (b, L)) :
    Calls Tryd.prog 7 #[.string s] w fun e w' => ∃ v, e = .returned (.tuple #[v, .bool b]) ∧ OS w.heap.size w w' v L := by
  refine (sPartsOf_any s w hm).mono ?_
  rintro e w' ⟨v, he, ho⟩
  rw [hP] at he ho
  exact ⟨v, he, ho⟩

theorem PartsOf_at (s : ByteArray) (b : Bool) (L : List ByteArray) (w : World) (hm : s.size ≤ 1048576) (hP : parts s.data.toList = (b, L)) (htab : Lib.TabBelow Tryd.prog w.heap.size w "strings.asciiSpace" .u8 Lib.asciiSpaceTab) :
    Calls Tryd.prog 8 #[.string s] w fun e w' => ∃ v, e = .returned (.tuple #[v, .bool b]) ∧ OS w.heap.size w w' v L := by
  refine (PartsOf_any s w hm htab).mono ?_
  rintro e w' ⟨v, he, ho⟩
  rw [hP] at he ho
  exact ⟨v, he, ho⟩

set_option maxRecDepth 100000 in
set_option maxHeartbeats 2000000 in
theorem law_any (s : ByteArray) (w : World) (hs : s.size ≤ 1048576) (htab : Lib.TabIs Tryd.prog w "strings.asciiSpace" .u8 Lib.asciiSpaceTab) :
    Calls Tryd.prog 4 #[.string s] w fun e w' => e = .returned (.bool true) ∧ Below w.heap.size w w' := by
  have HT : Hid (Lib.TabBelow Tryd.prog w.heap.size w "strings.asciiSpace" .u8 Lib.asciiSpaceTab) := Lib.tabBelow_of_tabIs htab
  obtain ⟨b, L, hP⟩ : ∃ b L, parts s.data.toList = (b, L) := ⟨_, _, rfl⟩
  have hL : L.length ≤ 10 := by have h := parts_len s.data.toList; rw [hP] at h; exact h
  have HP : Hid (parts s.data.toList = (b, L)) := hP
  clear hP htab
  go_enter Tryd.func4, Tryd.ntmps4
  go_wp2_with fail
  refine (sPartsOf_at s b L _ hs HP.out).mono ?_
  rintro e w1 ⟨vW, rfl, hW1⟩
  go_wp2_with fail
  refine (PartsOf_at s b L _ hs HP.out (Lib.tabBelow_of_tabIs (HT.out _ hW1.2.1))).mono ?_
  rintro e w2 ⟨vG, rfl, hG2⟩
  have hW2 := hW1.later hG2.2.1
  go_wp2_with fail
  refine (eqStringS_own hG2 hW2 (by omega)).mono ?_
  rintro e w3 ⟨rfl, q, rfl⟩
  have hG3 := hG2.drewN q
  go_wp2_with fail
  refine (markStringS_own (by omega) hG3).mono ?_
  rintro e w4 ⟨rfl, hG4⟩
  have hW4 := hW1.later hG4.2.1
  go_wp2_with fail
  refine (heldStringS_own (by omega) hG4).mono ?_
  rintro e w5 ⟨rfl, hG5, hb5⟩
  have hW5 := hW4.later hb5
  have hne : ¬ (((1 + L.length : Nat) : Int) < 0) := by omega
  go_wp2_with fail
  refine (PartsOf_at s b L _ hs HP.out (Lib.tabBelow_of_tabIs (HT.out _ hW5.2.1))).mono ?_
  rintro e w6 ⟨vH, rfl, hH6⟩
  have hW6 := hW5.later hH6.2.1
  have hG6 := hG5.later hH6.2.1
  go_wp2_with fail
  refine (eqStringS_own hH6 hW6 (by omega)).mono ?_
  rintro e w7 ⟨rfl, q2, rfl⟩
  have hG7 := hG6.drewN q2
  have hW7 := hW6.drewN q2
  go_wp2_with fail
  refine (heldStringS_own (by omega) hG7).mono ?_
  rintro e w8 ⟨rfl, hG8, hb8⟩
  have hW8 := hW7.later hb8
  go_wp2
  go_ret
  exact ⟨rfl, hW8.2.1⟩

theorem law_big (s : ByteArray) (w : World) (hs : 1048576 < s.size) (hm : s.size ≤ 9223372036854775807) : Calls Tryd.prog 4 #[.string s] w fun e w' => e = .returned (.bool true) ∧ Below w.heap.size w w' := by
  go_enter Tryd.func4, Tryd.ntmps4
  go_wp2
  go_ret
  exact ⟨rfl, Below.refl _ _⟩

end Go.Proofs.YtkpcjhihbhmakaaDoor
