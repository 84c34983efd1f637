/-
  Texts laid together: Shelf, Uns, Turn.
-/
import Derived.Shelf.LaysM
import Derived.Shelf.Strconv.Clone
import Derived.Test.YtodibhiinfbhiaaDoorProg
import Derived.Test.YtodibhiinfbhiaaDoorPkL14
import Derived.Deep.RegionHeld3
import Derived.Deep.QuietTactic
import Derived.BigQuiet
/-
  What strings.Clone answers, by the library's own contract laid at this program: the same bytes; of what was there nothing has turned.
-/
namespace Go.Proofs
open Go.Shelf
def Tryd.laysM316_ren : Go.Shelf.Ren := ⟨fun | 316 => 55 | n => n, fun | 9 => 9 | 3 => 3 | 4 => 4 | 37 => 22 | 0 => 0 | 127 => 80 | 5 => 5 | n => n, fun | n => n⟩
theorem Tryd.laysM316 : Go.Proofs.LaysM.n316 Tryd.prog Tryd.laysM316_ren := {
  mixed := by kernel_rfl
  f316 := Tryd.func55.trans (congrArg some (by kernel_rfl))
  t0 := Tryd.underlying0
  a0 := Tryd.isAgg0
  z0 := Tryd.sizeOf0
  v0 := Tryd.zeroValue0
  t3 := Tryd.underlying3
  a3 := Tryd.isAgg3
  z3 := Tryd.sizeOf3
  v3 := Tryd.zeroValue3
  t4 := Tryd.underlying4
  a4 := Tryd.isAgg4
  z4 := Tryd.sizeOf4
  v4 := Tryd.zeroValue4
  t9 := Tryd.underlying9
  a9 := Tryd.isAgg9
  z9 := Tryd.sizeOf9
  v9 := Tryd.zeroValue9
  t37 := Tryd.underlying22
  a37 := Tryd.isAgg22
  z37 := Tryd.sizeOf22
  v37 := Tryd.zeroValue22
  t127 := Tryd.underlying80
  a127 := Tryd.isAgg80
  z127 := Tryd.sizeOf80
  v127 := Tryd.zeroValue80
  t5 := Tryd.underlying5
  a5 := Tryd.isAgg5
  z5 := Tryd.sizeOf5
  v5 := Tryd.zeroValue5
  i0 := by kernel_rfl
  i3 := by kernel_rfl
  i4 := by kernel_rfl
  i5 := by kernel_rfl
  i9 := by kernel_rfl
  i37 := by kernel_rfl
  i127 := by kernel_rfl }
open Go.RowKit in
theorem Tryd.stringslite_Clone (s : ByteArray) (w : World) (hlim : s.size ≤ 281474976710656) :
    Calls Tryd.prog 55 #[.string s] w fun e w' => e = .returned (.string s) ∧ Below w.heap.size w w' := Any.stringslite_Clone Tryd.laysM316 s w hlim
end Go.Proofs
/-
  What Unsealed answers, the program's and the specification's.
-/
namespace Go.Proofs.YtodibhiinfbhiaaDoor
open Go.RowKit
set_option linter.unusedVariables false

theorem CloneU_any (s : ByteArray) (w : World) (h : s.size ≤ 1048576) : Calls Tryd.prog 46 #[.string s] w fun e w' => e = .returned (.string s) ∧ Below w.heap.size w w' := by
  go_enter Tryd.func46, Tryd.ntmps46
  go_wp2_with fail
  refine (Tryd.stringslite_Clone s _ (by omega)).mono ?_
  rintro e w' ⟨rfl, hb⟩
  go_wp2
  go_ret
  exact ⟨rfl, hb⟩

/-- all but the last four bytes, and these -/
def headB (s : ByteArray) : ByteArray := s.extract 0 (s.size - 4)
def tailB (s : ByteArray) : ByteArray := s.extract (s.size - 4) s.size
theorem headB_size (s : ByteArray) : (headB s).size ≤ s.size := by
  unfold headB
  rw [ByteArray.size_extract]
  omega
theorem tailB_size (s : ByteArray) : (tailB s).size ≤ s.size := by
  unfold tailB
  rw [ByteArray.size_extract]
  omega
theorem run_headU (s : ByteArray) (h : 4 ≤ s.size) (w : World) :
    (Instr.slice 9 (.string s) none (some (.int .i64 ((s.size : Int) - 4))) none).run Tryd.prog w = .ok (.string (headB s)) w := by
  rw [run_slice_string_to_if (P := Tryd.prog) (w := w) 9 s .i64 _ Tryd.underlying9, if_pos (by omega)]
  have e : ((s.size : Int) - 4).toNat = s.size - 4 := by omega
  rw [e]
  rfl
theorem run_tail (s : ByteArray) (h : 4 ≤ s.size) (w : World) :
    (Instr.slice 9 (.string s) (some (.int .i64 ((s.size : Int) - 4))) none none).run Tryd.prog w = .ok (.string (tailB s)) w := by
  rw [run_slice_string_from_if (P := Tryd.prog) (w := w) 9 s .i64 _ Tryd.underlying9, if_pos (by omega)]
  have e : ((s.size : Int) - 4).toNat = s.size - 4 := by omega
  rw [e]
  rfl

theorem Unsealed_out (s : ByteArray) (w : World) (hm : s.size ≤ 1048576) (h : s.size < 4 ∨ 20004 < s.size) :
    Calls Tryd.prog 24 #[.string s] w fun e w' => e = .returned (.tuple #[.string ⟨#[]⟩, .bool false]) ∧ Below w.heap.size w w' := by
  rcases h with h | h
  · go_enter Tryd.func24, Tryd.ntmps24
    go_wp2
    go_ret2
    exact ⟨rfl, Below.refl _ _⟩
  · go_enter Tryd.func24, Tryd.ntmps24
    go_wp2
    go_ret2
    exact ⟨rfl, Below.refl _ _⟩

theorem bytes_ne {a b : ByteArray} (h : ¬ a = b) : (a.toList == b.toList) = false := by
  simp only [beq_eq_false_iff_ne]
  intro he
  apply h
  apply ByteArray.ext
  apply Array.toList_inj.1
  simpa [ByteArray.toList_eq] using he

theorem Tab.drew {w : World} (h : Tab w) : Tab w.drew := fun i hi => h i hi

set_option maxRecDepth 100000 in
set_option maxHeartbeats 1000000 in
theorem Unsealed_yes (s : ByteArray) (w : World) (h4 : 4 ≤ s.size) (hm : s.size ≤ 20004) (hT : Tab w) (he : fourB (sumN (headB s)) = tailB s) :
    Calls Tryd.prog 24 #[.string s] w fun e w' => e = .returned (.tuple #[.string (headB s), .bool true]) ∧ Below w.heap.size w w' := by
  have hh := run_headU s h4
  have ht := run_tail s h4
  have hl := sumN_lt (headB s)
  have hz := headB_size s
  have n1 : ¬ ((s.size : Int) - 4 < 0) := by omega
  have n2 : ¬ (20000 < (s.size : Int) - 4) := by omega
  go_enter Tryd.func24, Tryd.ntmps24
  go_wp2
  go_region_held3 (fun _ => True) (trivial) ((first | (go_at_call 44; refine (SumOf_any (headB s) _ (by omega) hT.drew).mono ?_; rintro e w1 ⟨rfl, rfl⟩) | (go_at_call 45; refine (inBytes_any (sumN (headB s)) _ hl).mono ?_; rintro e w2 ⟨rfl, hb⟩)))
  go_wp2_with fail
  refine (CloneU_any (headB s) _ (by omega)).mono ?_
  rintro e w3 ⟨rfl, hb3⟩
  go_wp2
  go_ret2
  have hb' : Below w.heap.size w w2 := (Below.refl w.heap.size w).drew.trans hb
  exact ⟨rfl, hb'.trans (hb3.mono hb'.size)⟩

set_option maxRecDepth 100000 in
set_option maxHeartbeats 1000000 in
theorem Unsealed_no (s : ByteArray) (w : World) (h4 : 4 ≤ s.size) (hm : s.size ≤ 20004) (hT : Tab w) (he : ¬ fourB (sumN (headB s)) = tailB s) :
    Calls Tryd.prog 24 #[.string s] w fun e w' => e = .returned (.tuple #[.string ⟨#[]⟩, .bool false]) ∧ Below w.heap.size w w' := by
  have hh := run_headU s h4
  have ht := run_tail s h4
  have hl := sumN_lt (headB s)
  have hz := headB_size s
  have n1 : ¬ ((s.size : Int) - 4 < 0) := by omega
  have n2 : ¬ (20000 < (s.size : Int) - 4) := by omega
  have hq := bytes_ne he
  go_enter Tryd.func24, Tryd.ntmps24
  go_wp2
  go_region_held3 (fun _ => True) (trivial) ((first | (go_at_call 44; refine (SumOf_any (headB s) _ (by omega) hT.drew).mono ?_; rintro e w1 ⟨rfl, rfl⟩) | (go_at_call 45; refine (inBytes_any (sumN (headB s)) _ hl).mono ?_; rintro e w2 ⟨rfl, hb⟩)))
  go_wp2
  go_ret2
  exact ⟨rfl, (Below.refl w.heap.size w).drew.trans hb⟩

set_option maxRecDepth 100000 in
set_option maxHeartbeats 1000000 in
theorem sUnsealed_out (s : ByteArray) (w : World) (hm : s.size ≤ 1048576) (h : s.size < 4 ∨ 20004 < s.size) :
    Calls Tryd.prog 32 #[.string s] w fun e w' => e = .returned (.tuple #[.string ⟨#[]⟩, .bool false]) ∧ Below w.heap.size w w' := by
  rcases h with h | h
  · have n1 : ((s.size : Int) - 4 < 0) := by omega
    go_enter Tryd.func32, Tryd.ntmps32
    go_wp2
    go_quiet (fail)
    go_wp2
    go_ret2
    exact ⟨rfl, (Below.refl w.heap.size w).trans ⟨rfl, rfl, rfl, Nat.le_refl _, fun _ _ => rfl⟩⟩
  · have n1 : decide ((s.size : Int) - 4 < 0) = false := by simp; omega
    have n2 : decide (20000 < (s.size : Int) - 4) = true := by simp; omega
    go_enter Tryd.func32, Tryd.ntmps32
    go_wp2
    go_quiet (fail)
    go_wp2
    go_ret2
    exact ⟨rfl, (Below.refl w.heap.size w).trans ⟨rfl, rfl, rfl, Nat.le_refl _, fun _ _ => rfl⟩⟩

set_option maxRecDepth 100000 in
set_option maxHeartbeats 1000000 in
theorem sUnsealed_yes (s : ByteArray) (w : World) (h4 : 4 ≤ s.size) (hm : s.size ≤ 20004) (he : fourB (sumN (headB s)) = tailB s) :
    Calls Tryd.prog 32 #[.string s] w fun e w' => e = .returned (.tuple #[.string (headB s), .bool true]) ∧ Below w.heap.size w w' := by
  have hh := run_headU s h4
  have ht := run_tail s h4
  have hl := sumN_lt (headB s)
  have hz := headB_size s
  have n1 : decide ((s.size : Int) - 4 < 0) = false := by simp; omega
  have n2 : decide (20000 < (s.size : Int) - 4) = false := by simp; omega
  go_enter Tryd.func32, Tryd.ntmps32
  go_wp2
  go_region_held3 (fun _ => True) (trivial) ((first | (go_at_call 49; refine (sSumOf_any (headB s) _ (by omega)).mono ?_; rintro e w1 ⟨rfl, rfl⟩) | (go_at_call 48; refine (l02Four_any (sumN (headB s)) _ hl).mono ?_; rintro e w2 ⟨rfl, hb⟩)))
  go_wp2
  go_ret2
  exact ⟨rfl, (Below.refl w.heap.size w).drew.trans hb⟩

set_option maxRecDepth 100000 in
set_option maxHeartbeats 1000000 in
theorem sUnsealed_no (s : ByteArray) (w : World) (h4 : 4 ≤ s.size) (hm : s.size ≤ 20004) (he : ¬ fourB (sumN (headB s)) = tailB s) :
    Calls Tryd.prog 32 #[.string s] w fun e w' => e = .returned (.tuple #[.string ⟨#[]⟩, .bool false]) ∧ Below w.heap.size w w' := by
  have hh := run_headU s h4
  have ht := run_tail s h4
  have hl := sumN_lt (headB s)
  have hz := headB_size s
  have hq := bytes_ne (fun h : tailB s = fourB (sumN (headB s)) => he h.symm)
  have n1 : decide ((s.size : Int) - 4 < 0) = false := by simp; omega
  have n2 : decide (20000 < (s.size : Int) - 4) = false := by simp; omega
  go_enter Tryd.func32, Tryd.ntmps32
  go_wp2
  go_region_held3 (fun _ => True) (trivial) ((first | (go_at_call 49; refine (sSumOf_any (headB s) _ (by omega)).mono ?_; rintro e w1 ⟨rfl, rfl⟩) | (go_at_call 48; refine (l02Four_any (sumN (headB s)) _ hl).mono ?_; rintro e w2 ⟨rfl, hb⟩)))
  go_wp2
  go_ret2
  exact ⟨rfl, (Below.refl w.heap.size w).drew.trans hb⟩

end Go.Proofs.YtodibhiinfbhiaaDoor
/-
  A sealed text, and the same with one byte turned: plain facts.
-/
namespace Go.Proofs.YtodibhiinfbhiaaDoor
open Go.RowKit
set_option linter.unusedVariables false

theorem four_inj (a b : Nat) (ha : a < 4294967296) (hb : b < 4294967296) (h : four a = four b) : a = b := by
  unfold four at h
  simp only [List.cons.injEq, and_true] at h
  obtain ⟨h0, h1, h2, h3⟩ := h
  have e0 := congrArg UInt8.toNat h0
  have e1 := congrArg UInt8.toNat h1
  have e2 := congrArg UInt8.toNat h2
  have e3 := congrArg UInt8.toNat h3
  simp at e0 e1 e2 e3
  omega

theorem four_len (n : Nat) : (four n).length = 4 := rfl

theorem turned_list (l : List UInt8) (i : Nat) (c : UInt8) (x : Nat) (hx : x < 4294967296) (hi : i < (l ++ four (S.crc x l)).length) (hc : (l ++ four (S.crc x l))[i] ≠ c) :
    ¬ four (S.crc x (((l ++ four (S.crc x l)).set i c).take l.length)) = ((l ++ four (S.crc x l)).set i c).drop l.length := by
  have hl := S.crc_lt l x hx
  by_cases h : i < l.length
  · rw [List.set_append_left _ _ h]
    have e1 : ((l.set i c) ++ four (S.crc x l)).take l.length = l.set i c := List.take_left' (by simp)
    have e2 : ((l.set i c) ++ four (S.crc x l)).drop l.length = four (S.crc x l) := List.drop_left' (by simp)
    rw [e1, e2]
    intro he
    have he2 := four_inj _ _ (S.crc_lt _ x hx) hl he
    rw [List.getElem_append_left h] at hc
    have e3 : l.set i c = l.take i ++ c :: l.drop (i + 1) := by rw [List.set_eq_take_append_cons_drop, if_pos h]
    have e4 : l = l.take i ++ l[i] :: l.drop (i + 1) := by simp
    rw [e3] at he2
    conv at he2 => rhs; rw [e4]
    exact hc (S.crc_turned x _ _ _ _ hx he2).symm
  · have h' : l.length ≤ i := by omega
    rw [List.set_append_right _ _ h']
    have e1 : (l ++ (four (S.crc x l)).set (i - l.length) c).take l.length = l := List.take_left' rfl
    have e2 : (l ++ (four (S.crc x l)).set (i - l.length) c).drop l.length = (four (S.crc x l)).set (i - l.length) c := List.drop_left' rfl
    rw [e1, e2]
    rw [List.getElem_append_right h'] at hc
    generalize four (S.crc x l) = f at *
    have hj : i - l.length < f.length := by rw [List.length_append] at hi; omega
    intro he
    apply hc
    have h1 : (f.set (i - l.length) c)[i - l.length]? = some c := by simp [hj]
    rw [← he, List.getElem?_eq_getElem hj] at h1
    simpa using h1

theorem headB_list (x : ByteArray) : (headB x).data.toList = x.data.toList.take (x.size - 4) := by
  unfold headB
  simp
theorem tailB_list (x : ByteArray) : (tailB x).data.toList = x.data.toList.drop (x.size - 4) := by
  unfold tailB
  have h1 : x.data.toList.length = x.size := Array.length_toList
  simp
  rw [List.take_of_length_le]
  rw [List.length_drop]
  omega
theorem bytes_eq {a b : ByteArray} (h : a.data.toList = b.data.toList) : a = b := ByteArray.ext (Array.toList_inj.1 h)
theorem sealedB_list (s : ByteArray) : (sealedB s).data.toList = s.data.toList ++ four (sumN s) := by
  unfold sealedB fourB
  simp
theorem sealedB_size (s : ByteArray) : (sealedB s).size = s.size + 4 := by
  unfold sealedB
  rw [ByteArray.size_append, fourB_size]
theorem sealedB_head (s : ByteArray) : headB (sealedB s) = s := by
  apply bytes_eq
  rw [headB_list, sealedB_list, sealedB_size]
  exact List.take_left' (by rw [Array.length_toList]; rfl)
theorem sealedB_tail (s : ByteArray) : tailB (sealedB s) = fourB (sumN s) := by
  apply bytes_eq
  rw [tailB_list, sealedB_list, sealedB_size]
  exact List.drop_left' (by rw [Array.length_toList]; rfl)

/-- the sealed text with another byte at i -/
def turnB (s : ByteArray) (i : Nat) (c : UInt8) : ByteArray := ⟨((s.data.toList ++ four (sumN s)).set i c).toArray⟩
theorem turnB_list (s : ByteArray) (i : Nat) (c : UInt8) : (turnB s i c).data.toList = (s.data.toList ++ four (sumN s)).set i c := by
  unfold turnB
  simp
theorem turnB_size (s : ByteArray) (i : Nat) (c : UInt8) : (turnB s i c).size = s.size + 4 := by
  have h1 : (turnB s i c).data.toList.length = (turnB s i c).size := Array.length_toList
  have h2 : s.data.toList.length = s.size := Array.length_toList
  rw [← h1, turnB_list, List.length_set, List.length_append, four_len, h2]

theorem turnB_no (s : ByteArray) (i : Nat) (c : UInt8) (hi : i < (s.data.toList ++ four (sumN s)).length) (hc : (s.data.toList ++ four (sumN s))[i] ≠ c) :
    ¬ fourB (sumN (headB (turnB s i c))) = tailB (turnB s i c) := by
  intro h
  have h2 : s.data.toList.length = s.size := Array.length_toList
  have h1 := congrArg (fun b : ByteArray => b.data.toList) h
  change (fourB (sumN (headB (turnB s i c)))).data.toList = (tailB (turnB s i c)).data.toList at h1
  rw [tailB_list, turnB_list, turnB_size] at h1
  have e : (fourB (sumN (headB (turnB s i c)))).data.toList = four (sumN (headB (turnB s i c))) := rfl
  rw [e] at h1
  unfold sumN at h1
  rw [headB_list, turnB_list, turnB_size] at h1
  have e4 : s.size + 4 - 4 = s.data.toList.length := by omega
  rw [e4] at h1
  exact turned_list s.data.toList i c 4294967295 (by omega) hi hc h1

theorem crc_on (x : Nat) (l r : List UInt8) : S.crc (S.crc x l) r = S.crc x (l ++ r) := by
  unfold S.crc
  rw [List.foldl_append]

end Go.Proofs.YtodibhiinfbhiaaDoor
