/-
  What the specification's PartsOf answers: the fields of the line, or none.
-/
import Derived.Test.YtkpcjhihbhmakaaDoorStr
import Derived.Lib.Fields
import Derived.Lib.Strings
namespace Go.Proofs.YtkpcjhihbhmakaaDoor
open Go.RowKit
set_option linter.unusedVariables false

def plainB (b : UInt8) : Prop := 32 ≤ b.toNat ∧ b.toNat ≤ 126
def fb (l : List (List UInt8)) : List ByteArray := l.map fun t => ⟨t.toArray⟩

theorem isSp_fin : ∀ n : Fin 256, 32 ≤ n.val → n.val ≤ 126 → Lib.isSp (UInt8.ofNat n.val) = decide (n.val = 32) := by decide +kernel
theorem isSp_plain (b : UInt8) (h : plainB b) : Lib.isSp b = decide (b.toNat = 32) := by
  have h1 := isSp_fin ⟨b.toNat, b.toNat_lt⟩ h.1 h.2
  have e : UInt8.ofNat b.toNat = b := by simp
  simp only [e] at h1
  exact h1

/-- what PartsOf answers -/
def parts (l : List UInt8) : Bool × List ByteArray :=
  if l.length ≤ 600 ∧ (∀ b ∈ l, 32 ≤ b.toNat ∧ b.toNat ≤ 126) ∧ (Lib.fields l).length ≤ 10 then (true, fb (Lib.fields l)) else (false, [])

theorem parts_no (l : List UInt8) (h : ¬ (l.length ≤ 600 ∧ (∀ b ∈ l, 32 ≤ b.toNat ∧ b.toNat ≤ 126) ∧ (Lib.fields l).length ≤ 10)) : parts l = (false, []) := if_neg h
theorem parts_yes (l : List UInt8) (h : l.length ≤ 600 ∧ (∀ b ∈ l, 32 ≤ b.toNat ∧ b.toNat ≤ 126) ∧ (Lib.fields l).length ≤ 10) : parts l = (true, fb (Lib.fields l)) := if_pos h

/-- what PartsOf leaves -/
def PPost (w : World) (s : ByteArray) (e : Ending) (w' : World) : Prop :=
  ∃ v, e = .returned (.tuple #[v, .bool (parts s.data.toList).1]) ∧ OS w.heap.size w w' v (parts s.data.toList).2

def seg (s : ByteArray) (b k : Nat) : List UInt8 := (s.data.toList.drop b).take (k - b)

theorem get_s (s : ByteArray) (j : Nat) (h : j < s.size) : s.data.toList[j]? = some s[j] := by
  simp [ByteArray.getElem_eq_getElem_data]
theorem len_s (s : ByteArray) : s.data.toList.length = s.size := Array.length_toList

theorem seg_succ (s : ByteArray) (b k : Nat) (hb : b ≤ k) (hk : k < s.size) : seg s b (k + 1) = seg s b k ++ [s[k]] := by
  unfold seg
  have e : k + 1 - b = (k - b) + 1 := by omega
  rw [e, List.take_add_one, List.getElem?_drop]
  have e2 : b + (k - b) = k := by omega
  rw [e2, get_s s k hk]
  rfl
theorem seg_self (s : ByteArray) (k : Nat) : seg s k k = [] := by unfold seg; simp
theorem seg_ne (s : ByteArray) (b k : Nat) (h : b < k) (hk : k ≤ s.size) : seg s b k ≠ [] := by
  intro he
  have h1 : (seg s b k).length = 0 := by rw [he]; rfl
  unfold seg at h1
  rw [List.length_take, List.length_drop, len_s] at h1
  omega
theorem seg_ext (s : ByteArray) (b k : Nat) : s.extract b k = ⟨(seg s b k).toArray⟩ := by
  apply ByteArray.ext
  apply Array.toList_inj.1
  rw [Lib.extract_data]
  rfl
theorem drop_s (s : ByteArray) (k : Nat) (hk : k < s.size) : s.data.toList.drop k = s[k] :: s.data.toList.drop (k + 1) := by
  have h1 : k < s.data.toList.length := by rw [len_s]; exact hk
  rw [List.drop_eq_getElem_cons h1]
  have h2 := get_s s k hk
  rw [List.getElem?_eq_getElem h1] at h2
  rw [Option.some.inj h2]

/-- what the loop has gathered, and what is left of the line -/
def PI (s : ByteArray) (k b : Nat) (done : List ByteArray) : Prop :=
  (∀ j, (h : j < s.size) → j < k → plainB s[j]) ∧ (k ≤ s.size → done ++ fb (Lib.fieldsGo (seg s b k) (s.data.toList.drop k)) = fb (Lib.fields s.data.toList)) ∧ (k = s.size + 1 → done = fb (Lib.fields s.data.toList))

theorem PI.start (s : ByteArray) : PI s 0 0 [] := by
  refine ⟨fun j _ h => by omega, fun _ => ?_, fun h => by omega⟩
  rw [seg_self]
  rfl

theorem PI.more {s : ByteArray} {k b : Nat} {done : List ByteArray} (h : PI s k b done) (hb : b ≤ k) (hk : k < s.size) (hp : plainB s[k]) (hc : ¬ s[k].toNat = 32) : PI s (k + 1) b done := by
  refine ⟨fun j hj hjk => ?_, fun _ => ?_, fun he => by omega⟩
  · by_cases e : j = k
    · subst e; exact hp
    · exact h.1 j hj (by omega)
  · rw [← h.2.1 (by omega), drop_s s k hk, Lib.fieldsGo_more _ _ _ (by rw [isSp_plain _ hp]; simpa using hc), seg_succ s b k hb hk]

theorem PI.blank {s : ByteArray} {k : Nat} {done : List ByteArray} (h : PI s k k done) (hk : k < s.size) (hc : s[k].toNat = 32) : PI s (k + 1) (k + 1) done := by
  have hp : plainB s[k] := ⟨by omega, by omega⟩
  refine ⟨fun j hj hjk => ?_, fun _ => ?_, fun he => by omega⟩
  · by_cases e : j = k
    · subst e; exact hp
    · exact h.1 j hj (by omega)
  · rw [← h.2.1 (by omega), drop_s s k hk, seg_self, seg_self, Lib.fieldsGo_sp _ _ (by rw [isSp_plain _ hp]; simpa using hc)]

theorem PI.part {s : ByteArray} {k b : Nat} {done : List ByteArray} (h : PI s k b done) (hb : b < k) (hk : k < s.size) (hc : s[k].toNat = 32) : PI s (k + 1) (k + 1) (done ++ [s.extract b k]) := by
  have hp : plainB s[k] := ⟨by omega, by omega⟩
  refine ⟨fun j hj hjk => ?_, fun _ => ?_, fun he => by omega⟩
  · by_cases e : j = k
    · subst e; exact hp
    · exact h.1 j hj (by omega)
  · rw [← h.2.1 (by omega), drop_s s k hk, seg_self, Lib.fieldsGo_end _ _ _ (by rw [isSp_plain _ hp]; simpa using hc) (seg_ne s b k hb (by omega)), seg_ext]
    simp [fb]

theorem PI.last {s : ByteArray} {b : Nat} {done : List ByteArray} (h : PI s s.size b done) (hb : b < s.size) : PI s (s.size + 1) (s.size + 1) (done ++ [s.extract b s.size]) := by
  refine ⟨fun j hj hjk => h.1 j hj (by omega), fun he => by omega, fun _ => ?_⟩
  rw [← h.2.1 (by omega), List.drop_eq_nil_of_le (by rw [len_s]; omega), seg_ext]
  have hne := seg_ne s b s.size hb (by omega)
  cases hd : seg s b s.size with
  | nil => exact absurd hd hne
  | cons a r => simp [Lib.fieldsGo, fb]

theorem PI.lastb {s : ByteArray} {done : List ByteArray} (h : PI s s.size s.size done) : PI s (s.size + 1) (s.size + 1) done := by
  refine ⟨fun j hj hjk => h.1 j hj (by omega), fun he => by omega, fun _ => ?_⟩
  rw [← h.2.1 (by omega), List.drop_eq_nil_of_le (by rw [len_s]; omega), seg_self]
  simp [Lib.fieldsGo, fb]

theorem all_plain {s : ByteArray} (h : ∀ j, (hj : j < s.size) → j < s.size + 1 → plainB s[j]) : ∀ b ∈ s.data.toList, 32 ≤ b.toNat ∧ b.toNat ≤ 126 := by
  intro b hb
  obtain ⟨j, hj, rfl⟩ := List.getElem_of_mem hb
  have hj' : j < s.size := by rw [len_s] at hj; exact hj
  have h2 := get_s s j hj'
  rw [List.getElem?_eq_getElem hj] at h2
  rw [Option.some.inj h2]
  exact h j hj' (by omega)

theorem not_plain {s : ByteArray} {k : Nat} (hk : k < s.size) (h : ¬ plainB s[k]) : parts s.data.toList = (false, []) := by
  refine parts_no _ fun hc => h (hc.2.1 s[k] ?_)
  exact List.mem_of_getElem? (get_s s k hk)

end Go.Proofs.YtkpcjhihbhmakaaDoor
