/-
  Texts laid together: Pub, Nam.
-/
import Derived.Test.YtkgibgadngeddabDoorPkEST16
import Derived.Test.YtkgibgadngeddabDoorPkEST17
import Derived.Test.YtkgibgadngeddabDoorPkEST1
import Derived.Deep.QuietTactic
import Derived.BigQuiet
/-
  What PublicOf answers, the program's and the specification's.
-/
namespace Go.Proofs.YtkgibgadngeddabDoor
open Go.RowKit Go.BigFrame
set_option linter.unusedVariables false

/-- the sixteen locks of a place -/
def locksL (s : ByteArray) (a : Nat) : List ByteArray := (List.range 16).map fun i => lockB (secB s a (i / 2) (i % 2))
theorem locksL_len (s : ByteArray) (a : Nat) : (locksL s a).length = 16 := by simp [locksL]
theorem locksL_at (s : ByteArray) (a i : Nat) (h : i < (locksL s a).length) : (locksL s a)[i] = lockB (secB s a (i / 2) (i % 2)) := by simp [locksL]
/-- what PublicOf is -/
def pubB (s : ByteArray) (a : Nat) : ByteArray := hashB 6 (locksL s a) 16
def pubA (s : ByteArray) (a : Int) : ByteArray := if s.size ≤ 100 ∧ (0 ≤ a ∧ a ≤ 15) then pubB s a.toNat else ⟨#[]⟩

theorem not_nil {D : ByteArray} (h : 0 < D.size) : (D.toList == []) = false := by
  rw [beq_eq_false_iff_ne]
  intro he
  have : D.toList.length = 0 := by rw [he]; rfl
  rw [ByteArray.toList_eq, Array.length_toList] at this
  have h2 : D.data.size = D.size := rfl
  omega

def PuR (s : ByteArray) (a : Nat) (w : World) (i : Value) (wr : World) : Prop :=
  ∃ m : Nat, m ≤ 16 ∧ i = .int .i64 m ∧ TA wr w.heap.size 42 (srow (locksL s a) m) ∧ Below w.heap.size w wr

def NoR (w : World) (i : Value) (wr : World) : Prop := i = .int .i64 0 ∧ Below w.heap.size w wr
/-- what the outer loop holds, and the inner one -/
def PsO (s : ByteArray) (a : Nat) (w : World) (v i : Value) (wr : World) : Prop :=
  ∃ m : Nat, m ≤ 8 ∧ i = .int .i64 m ∧ OS w.heap.size w wr v ((locksL s a).take (2 * m))
def PsI (s : ByteArray) (a m : Nat) (w : World) (v i : Value) (wr : World) : Prop :=
  ∃ k : Nat, k ≤ 2 ∧ i = .int .i64 k ∧ OS w.heap.size w wr v ((locksL s a).take (2 * m + k))

theorem locks_step (s : ByteArray) (a b c : Nat) (hb : b < 8) (hc : c < 2) : (locksL s a).take (2 * b + c) ++ [lockB (secB s a b c)] = (locksL s a).take (2 * b + (c + 1)) := by
  have hl := locksL_len s a
  have h := locksL_at s a (2 * b + c) (by omega)
  rw [show (2 * b + c) / 2 = b by omega, show (2 * b + c) % 2 = c by omega] at h
  rw [← h, show 2 * b + (c + 1) = (2 * b + c) + 1 by omega]
  exact List.take_append_getElem (by omega)

end Go.Proofs.YtkgibgadngeddabDoor
/-
  What NameOk, ValueOk and BitOf answer, the program's and the specification's.
-/
namespace Go.Proofs.YtkgibgadngeddabDoor
open Go.RowKit
set_option linter.unusedVariables false

def nameB (b : UInt8) : Bool := decide ((97 ≤ b.toNat ∧ b.toNat ≤ 122) ∨ (48 ≤ b.toNat ∧ b.toNat ≤ 57) ∨ b.toNat = 64 ∨ b.toNat = 46)
def valB (b : UInt8) : Bool := decide (33 ≤ b.toNat ∧ b.toNat ≤ 126)
/-- one to twelve bytes, each as p wants it -/
def okB (p : UInt8 → Bool) (s : ByteArray) : Bool := decide (1 ≤ s.size ∧ s.size ≤ 12) && s.data.toList.all p

theorem okB_bad (p : UInt8 → Bool) (s : ByteArray) (k : Nat) (h : k < s.size) (hb : p s[k] = false) : okB p s = false := by
  unfold okB
  have : s.data.toList.all p = false := by
    rw [List.all_eq_false]
    exact ⟨s[k], by rw [ByteArray.getElem_eq_getElem_data]; exact Array.getElem_mem_toList .., by simp [hb]⟩
  rw [this, Bool.and_false]
theorem okB_good (p : UInt8 → Bool) (s : ByteArray) (h : ∀ k (h : k < s.size), p s[k] = true) : okB p s = decide (1 ≤ s.size ∧ s.size ≤ 12) := by
  unfold okB
  have : s.data.toList.all p = true := by
    rw [List.all_eq_true]
    intro x hx
    obtain ⟨k, hk, rfl⟩ := List.getElem_of_mem hx
    have hk' : k < s.size := by simpa using hk
    have := h k hk'
    rw [ByteArray.getElem_eq_getElem_data] at this
    simpa using this
  rw [this, Bool.and_true]
theorem okB_len (p : UInt8 → Bool) (s : ByteArray) (h : ¬ (1 ≤ s.size ∧ s.size ≤ 12)) : okB p s = false := by
  unfold okB
  rw [decide_eq_false h, Bool.false_and]

theorem byte_of (b : UInt8) : b.toNat < 46 ∨ b.toNat = 46 ∨ b.toNat = 47 ∨ (48 ≤ b.toNat ∧ b.toNat ≤ 57) ∨ (58 ≤ b.toNat ∧ b.toNat ≤ 63) ∨ b.toNat = 64 ∨ (65 ≤ b.toNat ∧ b.toNat ≤ 96) ∨ (97 ≤ b.toNat ∧ b.toNat ≤ 122) ∨ 123 ≤ b.toNat := by omega

theorem ret_b {a b : Bool} (h : a = b) : Ending.returned (.bool a) = .returned (.bool b) := by rw [h]

def NmRel (p : UInt8 → Bool) (s : ByteArray) (w : World) (i : Value) (wr : World) : Prop := ∃ k : Nat, k ≤ s.size ∧ i = .int .i64 k ∧ Hid (∀ j (h : j < s.size), j < k → p s[j] = true) ∧ wr = w
theorem NmRel.step {p : UInt8 → Bool} {s : ByteArray} {k : Nat} (hk : k < s.size) (hp : p s[k] = true) (h : ∀ j (h : j < s.size), j < k → p s[j] = true) : Hid (∀ j (h : j < s.size), j < k + 1 → p s[j] = true) := by
  intro j hj hlt
  rcases Nat.lt_or_ge j k with h1 | h1
  · exact h j hj h1
  · have : j = k := by omega
    subst this
    exact hp

theorem not_empty (s : ByteArray) (h : 1 ≤ s.size) : s.toList.isEmpty = false := by
  rw [ByteArray.toList_eq, List.isEmpty_eq_false_iff]
  intro h0
  have : s.data.toList.length = 0 := by rw [h0]; rfl
  have h1 : s.data.toList.length = s.size := Array.length_toList
  omega
theorem is_empty (s : ByteArray) (h : s.size = 0) : s.toList.isEmpty = true := by
  rw [ByteArray.toList_eq, List.isEmpty_iff]
  have h1 : s.data.toList.length = s.size := Array.length_toList
  exact List.length_eq_zero_iff.1 (by omega)

theorem BitOf_no (x y : Int) (w : World) (h : y < 0 ∨ 7 < y) : Calls Tryd.prog 43 #[.int .i64 x, .int .i64 y] w fun e w' => e = .returned (.int .i64 0) ∧ w' = w := by
  rcases h with h | h
  · go_enter Tryd.func43, Tryd.ntmps43
    go_wp2
    go_ret
    exact ⟨rfl, rfl⟩
  · have h' : ¬ y < 0 := by omega
    go_enter Tryd.func43, Tryd.ntmps43
    go_wp2
    go_ret
    exact ⟨rfl, rfl⟩
theorem sBitOf_no (x y : Int) (w : World) (h : y < 0 ∨ 7 < y) : Calls Tryd.prog 17 #[.int .i64 x, .int .i64 y] w fun e w' => e = .returned (.int .i64 0) ∧ w' = w := by
  have hd : decide ((0 : Int) ≤ y ∧ y ≤ 7) = false := by simp; omega
  go_enter Tryd.func17, Tryd.ntmps17
  go_wp2_with fail
  refine (l01In_any _ _ _ _).mono ?_
  rintro e w' ⟨rfl, rfl⟩
  rw [hd]
  go_wp2
  go_ret
  exact ⟨rfl, rfl⟩
/-- the bit of a number at a level -/
def bitI (x : Int) (y : Nat) : Int := bits .and .i64 (x / 2 ^ (7 - y)) 1
theorem BitOf_yes (x : Int) (y : Nat) (w : World) (h : y ≤ 7) : Calls Tryd.prog 43 #[.int .i64 x, .int .i64 y] w fun e w' => e = .returned (.int .i64 (bitI x y)) ∧ w' = w := by
  go_enter Tryd.func43, Tryd.ntmps43
  go_wp2
  go_ret
  exact ⟨rfl, rfl⟩
theorem sBitOf_yes (x : Int) (y : Nat) (w : World) (h : y ≤ 7) : Calls Tryd.prog 17 #[.int .i64 x, .int .i64 y] w fun e w' => e = .returned (.int .i64 (bitI x y)) ∧ w' = w := by
  have hd : decide ((0 : Int) ≤ (y : Int) ∧ (y : Int) ≤ 7) = true := by simp; omega
  go_enter Tryd.func17, Tryd.ntmps17
  go_wp2_with fail
  refine (l01In_any _ _ _ _).mono ?_
  rintro e w' ⟨rfl, rfl⟩
  rw [hd]
  go_wp2
  go_ret
  exact ⟨rfl, rfl⟩

end Go.Proofs.YtkgibgadngeddabDoor
