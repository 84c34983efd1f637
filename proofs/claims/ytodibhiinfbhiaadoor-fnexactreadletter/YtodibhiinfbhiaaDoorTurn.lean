/-
  A sealed text, and the same with one byte turned: plain facts.
-/
import Derived.Test.YtodibhiinfbhiaaDoorUns
namespace Go.Proofs.YtodibhiinfbhiaaDoor
open Go.RowKit
set_option linter.unusedVariables false

theorem four_inj (a b : Nat) (ha : a < 4294967296) (hb : b < 4294967296) (h : four a = four b) : a = b := by
  unfold four at h
  simp only [List.cons.injEq, and_true] at h
  obtain ⟨h0, h1, h2, h3⟩ := h
  have e0 := congrArg UInt8.toNat h0
  have e1 := congrArg UInt8.toNat h1
  have e2 := congrArg UInt8.toNat h2
  have e3 := congrArg UInt8.toNat h3
  simp at e0 e1 e2 e3
  omega

theorem four_len (n : Nat) : (four n).length = 4 := rfl

theorem turned_list (l : List UInt8) (i : Nat) (c : UInt8) (x : Nat) (hx : x < 4294967296) (hi : i < (l ++ four (S.crc x l)).length) (hc : (l ++ four (S.crc x l))[i] ≠ c) :
    ¬ four (S.crc x (((l ++ four (S.crc x l)).set i c).take l.length)) = ((l ++ four (S.crc x l)).set i c).drop l.length := by
  have hl := S.crc_lt l x hx
  by_cases h : i < l.length
  · rw [List.set_append_left _ _ h]
    have e1 : ((l.set i c) ++ four (S.crc x l)).take l.length = l.set i c := List.take_left' (by simp)
    have e2 : ((l.set i c) ++ four (S.crc x l)).drop l.length = four (S.crc x l) := List.drop_left' (by simp)
    rw [e1, e2]
    intro he
    have he2 := four_inj _ _ (S.crc_lt _ x hx) hl he
    rw [List.getElem_append_left h] at hc
    have e3 : l.set i c = l.take i ++ c :: l.drop (i + 1) := by rw [List.set_eq_take_append_cons_drop, if_pos h]
    have e4 : l = l.take i ++ l[i] :: l.drop (i + 1) := by simp
    rw [e3] at he2
    conv at he2 => rhs; rw [e4]
    exact hc (S.crc_turned x _ _ _ _ hx he2).symm
  · have h' : l.length ≤ i := by omega
    rw [List.set_append_right _ _ h']
    have e1 : (l ++ (four (S.crc x l)).set (i - l.length) c).take l.length = l := List.take_left' rfl
    have e2 : (l ++ (four (S.crc x l)).set (i - l.length) c).drop l.length = (four (S.crc x l)).set (i - l.length) c := List.drop_left' rfl
    rw [e1, e2]
    rw [List.getElem_append_right h'] at hc
    generalize four (S.crc x l) = f at *
    have hj : i - l.length < f.length := by rw [List.length_append] at hi; omega
    intro he
    apply hc
    have h1 : (f.set (i - l.length) c)[i - l.length]? = some c := by simp [hj]
    rw [← he, List.getElem?_eq_getElem hj] at h1
    simpa using h1

theorem headB_list (x : ByteArray) : (headB x).data.toList = x.data.toList.take (x.size - 4) := by
  unfold headB
  simp
theorem tailB_list (x : ByteArray) : (tailB x).data.toList = x.data.toList.drop (x.size - 4) := by
  unfold tailB
  have h1 : x.data.toList.length = x.size := Array.length_toList
  simp
  rw [List.take_of_length_le]
  rw [List.length_drop]
  omega
theorem bytes_eq {a b : ByteArray} (h : a.data.toList = b.data.toList) : a = b := ByteArray.ext (Array.toList_inj.1 h)
theorem sealedB_list (s : ByteArray) : (sealedB s).data.toList = s.data.toList ++ four (sumN s) := by
  unfold sealedB fourB
  simp
theorem sealedB_size (s : ByteArray) : (sealedB s).size = s.size + 4 := by
  unfold sealedB
  rw [ByteArray.size_append, fourB_size]
theorem sealedB_head (s : ByteArray) : headB (sealedB s) = s := by
  apply bytes_eq
  rw [headB_list, sealedB_list, sealedB_size]
  exact List.take_left' (by rw [Array.length_toList]; rfl)
theorem sealedB_tail (s : ByteArray) : tailB (sealedB s) = fourB (sumN s) := by
  apply bytes_eq
  rw [tailB_list, sealedB_list, sealedB_size]
  exact List.drop_left' (by rw [Array.length_toList]; rfl)

/-- the sealed text with another byte at i -/
def turnB (s : ByteArray) (i : Nat) (c : UInt8) : ByteArray := ⟨((s.data.toList ++ four (sumN s)).set i c).toArray⟩
theorem turnB_list (s : ByteArray) (i : Nat) (c : UInt8) : (turnB s i c).data.toList = (s.data.toList ++ four (sumN s)).set i c := by
  unfold turnB
  simp
theorem turnB_size (s : ByteArray) (i : Nat) (c : UInt8) : (turnB s i c).size = s.size + 4 := by
  have h1 : (turnB s i c).data.toList.length = (turnB s i c).size := Array.length_toList
  have h2 : s.data.toList.length = s.size := Array.length_toList
  rw [← h1, turnB_list, List.length_set, List.length_append, four_len, h2]

theorem turnB_no (s : ByteArray) (i : Nat) (c : UInt8) (hi : i < (s.data.toList ++ four (sumN s)).length) (hc : (s.data.toList ++ four (sumN s))[i] ≠ c) :
    ¬ fourB (sumN (headB (turnB s i c))) = tailB (turnB s i c) := by
  intro h
  have h2 : s.data.toList.length = s.size := Array.length_toList
  have h1 := congrArg (fun b : ByteArray => b.data.toList) h
  change (fourB (sumN (headB (turnB s i c)))).data.toList = (tailB (turnB s i c)).data.toList at h1
  rw [tailB_list, turnB_list, turnB_size] at h1
  have e : (fourB (sumN (headB (turnB s i c)))).data.toList = four (sumN (headB (turnB s i c))) := rfl
  rw [e] at h1
  unfold sumN at h1
  rw [headB_list, turnB_list, turnB_size] at h1
  have e4 : s.size + 4 - 4 = s.data.toList.length := by omega
  rw [e4] at h1
  exact turned_list s.data.toList i c 4294967295 (by omega) hi hc h1

theorem crc_on (x : Nat) (l r : List UInt8) : S.crc (S.crc x l) r = S.crc x (l ++ r) := by
  unfold S.crc
  rw [List.foldl_append]

end Go.Proofs.YtodibhiinfbhiaaDoor
