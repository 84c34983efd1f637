/-
  Texts laid together: Ve, Uns, Turn, Vg.
-/
import Derived.Test.YthlgohplljcgfaaGreatDoorPkESN37
import Derived.Test.YthlgohplljcgfaaGreatDoorPkESN18
import Derived.Test.YthlgohplljcgfaaGreatDoorPkESN31
import Derived.Test.YthlgohplljcgfaaGreatDoorPkESN2
import Derived.Deep.RegionHeld3
import Derived.Deep.QuietTactic
import Derived.BigQuiet
import Derived.Test.YthlgohplljcgfaaGreatDoorPkESN25
import Derived.Test.YthlgohplljcgfaaGreatDoorPkESN3
/-
  The text of a letter: the program's and the specification's answers.
-/
namespace Go.Proofs.YthlgohplljcgfaaGreatDoor
open Go.RowKit Go.BigFrame Go.Sort
set_option linter.unusedVariables false
set_option linter.unusedSimpArgs false

namespace VV
/-- the four bytes ahead -/
def four (x : Ltr) : List UInt8 := [UInt8.ofNat x.k.toNat, UInt8.ofNat x.f.toNat, UInt8.ofNat x.t.toNat, UInt8.ofNat x.e.toNat]
def ltL (x : Ltr) : List UInt8 := four x ++ M.varL x.y.toNat ++ x.r.data.toList
def lB (x : Ltr) : ByteArray := ⟨(ltL x).toArray⟩
def text (x : Ltr) : ByteArray := if ok x = true then sealedB (lB x) else ⟨#[]⟩
/-- what a right letter's numbers are -/
theorem ok_bounds {x : Ltr} (h : ok x = true) : (1 ≤ x.k ∧ x.k ≤ 5) ∧ (0 ≤ x.f ∧ x.f ≤ 4) ∧ (0 ≤ x.t ∧ x.t ≤ 4) ∧ (1 ≤ x.e ∧ x.e ≤ 4) ∧ (1 ≤ x.y ∧ x.y ≤ 1000) ∧ x.r.size ≤ 16 := by
  unfold ok at h
  simp only [Bool.and_eq_true, decide_eq_true_eq] at h
  obtain ⟨⟨⟨h1, h2⟩, h3⟩, h4⟩ := h
  unfold way at h1
  have h1 := of_decide_eq_true h1
  refine ⟨by omega, by omega, by omega, h2, h3, ?_⟩
  rw [h4]; unfold rw; split <;> omega
theorem lB_size {x : Ltr} (h : x.r.size ≤ 16) : (lB x).size ≤ 30 := by
  have h1 := M.varL_len x.y.toNat
  have h2 : x.r.data.toList.length = x.r.size := Array.length_toList
  show (ltL x).toArray.size ≤ 30
  simp only [List.size_toArray, ltL, List.length_append]
  have h3 : (four x).length = 4 := rfl
  omega
end VV

theorem byteV (x : Int) (n : Nat) (hx : x = (n : Int)) (h : n ≤ 255) : x = ((UInt8.ofNat n).toNat : Int) := by
  rw [hx]
  simp
  omega
theorem four_row (w : World) (n : Nat) (hn : n = w.heap.size) (b0 b1 b2 b3 : UInt8) : ∀ j u, (bv [b0, b1, b2, b3])[j]? = some u → (w.alloc (.cells #[.int .u8 (b0.toNat : Int), .int .u8 (b1.toNat : Int), .int .u8 (b2.toNat : Int), .int .u8 (b3.toNat : Int)] 5)).cell? ((⟨n, 0, none⟩ : Addr).add j) = some u := by
  subst hn
  intro j u hu
  obtain ⟨hj, rfl⟩ := bv_get _ _ _ hu
  have h0 : j = 0 ∨ j = 1 ∨ j = 2 ∨ j = 3 := by simp at hj; omega
  rcases h0 with rfl | rfl | rfl | rfl <;> simp [Addr.add]

namespace VV
/-- what is written when m writers have written -/
def pre (x : Ltr) : Nat → List UInt8
  | 0 => []
  | 1 => four x
  | 2 => four x ++ M.varL x.y.toNat
  | _ => ltL x
end VV
end Go.Proofs.YthlgohplljcgfaaGreatDoor
/-
  What Unsealed answers, the program's and the specification's.
-/
namespace Go.Proofs.YthlgohplljcgfaaGreatDoor
open Go.RowKit
set_option linter.unusedVariables false

theorem CloneU_any (s : ByteArray) (w : World) (h : s.size ≤ 1048576) : Calls Tryz.prog 110 #[.string s] w fun e w' => e = .returned (.string s) ∧ Below w.heap.size w w' := by
  go_enter Tryz.func110, Tryz.ntmps110
  go_wp2_with fail
  refine (Tryz.stringslite_Clone s _ (by omega)).mono ?_
  rintro e w' ⟨rfl, hb⟩
  go_wp2
  go_ret
  exact ⟨rfl, hb⟩

/-- all but the last four bytes, and these -/
def headB (s : ByteArray) : ByteArray := s.extract 0 (s.size - 4)
def tailB (s : ByteArray) : ByteArray := s.extract (s.size - 4) s.size
theorem headB_size (s : ByteArray) : (headB s).size ≤ s.size := by
  unfold headB
  rw [ByteArray.size_extract]
  omega
theorem tailB_size (s : ByteArray) : (tailB s).size ≤ s.size := by
  unfold tailB
  rw [ByteArray.size_extract]
  omega
theorem run_headU (s : ByteArray) (h : 4 ≤ s.size) (w : World) :
    (Instr.slice 9 (.string s) none (some (.int .i64 ((s.size : Int) - 4))) none).run Tryz.prog w = .ok (.string (headB s)) w := by
  rw [run_slice_string_to_if (P := Tryz.prog) (w := w) 9 s .i64 _ Tryz.underlying9, if_pos (by omega)]
  have e : ((s.size : Int) - 4).toNat = s.size - 4 := by omega
  rw [e]
  rfl
theorem run_tail (s : ByteArray) (h : 4 ≤ s.size) (w : World) :
    (Instr.slice 9 (.string s) (some (.int .i64 ((s.size : Int) - 4))) none none).run Tryz.prog w = .ok (.string (tailB s)) w := by
  rw [run_slice_string_from_if (P := Tryz.prog) (w := w) 9 s .i64 _ Tryz.underlying9, if_pos (by omega)]
  have e : ((s.size : Int) - 4).toNat = s.size - 4 := by omega
  rw [e]
  rfl

theorem bytes_ne {a b : ByteArray} (h : ¬ a = b) : (a.toList == b.toList) = false := by
  simp only [beq_eq_false_iff_ne]
  intro he
  apply h
  apply ByteArray.ext
  apply Array.toList_inj.1
  simpa [ByteArray.toList_eq] using he

theorem Tab.drew {w : World} (h : Tab w) : Tab w.drew := fun i hi => h i hi

end Go.Proofs.YthlgohplljcgfaaGreatDoor
/-
  A sealed text, and the same with one byte turned: plain facts.
-/
namespace Go.Proofs.YthlgohplljcgfaaGreatDoor
open Go.RowKit
set_option linter.unusedVariables false

theorem four_inj (a b : Nat) (ha : a < 4294967296) (hb : b < 4294967296) (h : four a = four b) : a = b := by
  unfold four at h
  simp only [List.cons.injEq, and_true] at h
  obtain ⟨h0, h1, h2, h3⟩ := h
  have e0 := congrArg UInt8.toNat h0
  have e1 := congrArg UInt8.toNat h1
  have e2 := congrArg UInt8.toNat h2
  have e3 := congrArg UInt8.toNat h3
  simp at e0 e1 e2 e3
  omega

theorem four_len (n : Nat) : (four n).length = 4 := rfl

theorem turned_list (l : List UInt8) (i : Nat) (c : UInt8) (x : Nat) (hx : x < 4294967296) (hi : i < (l ++ four (S.crc x l)).length) (hc : (l ++ four (S.crc x l))[i] ≠ c) :
    ¬ four (S.crc x (((l ++ four (S.crc x l)).set i c).take l.length)) = ((l ++ four (S.crc x l)).set i c).drop l.length := by
  have hl := S.crc_lt l x hx
  by_cases h : i < l.length
  · rw [List.set_append_left _ _ h]
    have e1 : ((l.set i c) ++ four (S.crc x l)).take l.length = l.set i c := List.take_left' (by simp)
    have e2 : ((l.set i c) ++ four (S.crc x l)).drop l.length = four (S.crc x l) := List.drop_left' (by simp)
    rw [e1, e2]
    intro he
    have he2 := four_inj _ _ (S.crc_lt _ x hx) hl he
    rw [List.getElem_append_left h] at hc
    have e3 : l.set i c = l.take i ++ c :: l.drop (i + 1) := by rw [List.set_eq_take_append_cons_drop, if_pos h]
    have e4 : l = l.take i ++ l[i] :: l.drop (i + 1) := by simp
    rw [e3] at he2
    conv at he2 => rhs; rw [e4]
    exact hc (S.crc_turned x _ _ _ _ hx he2).symm
  · have h' : l.length ≤ i := by omega
    rw [List.set_append_right _ _ h']
    have e1 : (l ++ (four (S.crc x l)).set (i - l.length) c).take l.length = l := List.take_left' rfl
    have e2 : (l ++ (four (S.crc x l)).set (i - l.length) c).drop l.length = (four (S.crc x l)).set (i - l.length) c := List.drop_left' rfl
    rw [e1, e2]
    rw [List.getElem_append_right h'] at hc
    generalize four (S.crc x l) = f at *
    have hj : i - l.length < f.length := by rw [List.length_append] at hi; omega
    intro he
    apply hc
    have h1 : (f.set (i - l.length) c)[i - l.length]? = some c := by simp [hj]
    rw [← he, List.getElem?_eq_getElem hj] at h1
    simpa using h1

theorem headB_list (x : ByteArray) : (headB x).data.toList = x.data.toList.take (x.size - 4) := by
  unfold headB
  simp
theorem tailB_list (x : ByteArray) : (tailB x).data.toList = x.data.toList.drop (x.size - 4) := by
  unfold tailB
  have h1 : x.data.toList.length = x.size := Array.length_toList
  simp
  rw [List.take_of_length_le]
  rw [List.length_drop]
  omega
theorem bytes_eq {a b : ByteArray} (h : a.data.toList = b.data.toList) : a = b := ByteArray.ext (Array.toList_inj.1 h)
theorem sealedB_list (s : ByteArray) : (sealedB s).data.toList = s.data.toList ++ four (sumN s) := by
  unfold sealedB fourB
  simp
theorem sealedB_size (s : ByteArray) : (sealedB s).size = s.size + 4 := by
  unfold sealedB
  rw [ByteArray.size_append, fourB_size]
theorem sealedB_head (s : ByteArray) : headB (sealedB s) = s := by
  apply bytes_eq
  rw [headB_list, sealedB_list, sealedB_size]
  exact List.take_left' (by rw [Array.length_toList]; rfl)
theorem sealedB_tail (s : ByteArray) : tailB (sealedB s) = fourB (sumN s) := by
  apply bytes_eq
  rw [tailB_list, sealedB_list, sealedB_size]
  exact List.drop_left' (by rw [Array.length_toList]; rfl)

/-- the sealed text with another byte at i -/
def turnB (s : ByteArray) (i : Nat) (c : UInt8) : ByteArray := ⟨((s.data.toList ++ four (sumN s)).set i c).toArray⟩
theorem turnB_list (s : ByteArray) (i : Nat) (c : UInt8) : (turnB s i c).data.toList = (s.data.toList ++ four (sumN s)).set i c := by
  unfold turnB
  simp
theorem turnB_size (s : ByteArray) (i : Nat) (c : UInt8) : (turnB s i c).size = s.size + 4 := by
  have h1 : (turnB s i c).data.toList.length = (turnB s i c).size := Array.length_toList
  have h2 : s.data.toList.length = s.size := Array.length_toList
  rw [← h1, turnB_list, List.length_set, List.length_append, four_len, h2]

theorem turnB_no (s : ByteArray) (i : Nat) (c : UInt8) (hi : i < (s.data.toList ++ four (sumN s)).length) (hc : (s.data.toList ++ four (sumN s))[i] ≠ c) :
    ¬ fourB (sumN (headB (turnB s i c))) = tailB (turnB s i c) := by
  intro h
  have h2 : s.data.toList.length = s.size := Array.length_toList
  have h1 := congrArg (fun b : ByteArray => b.data.toList) h
  change (fourB (sumN (headB (turnB s i c)))).data.toList = (tailB (turnB s i c)).data.toList at h1
  rw [tailB_list, turnB_list, turnB_size] at h1
  have e : (fourB (sumN (headB (turnB s i c)))).data.toList = four (sumN (headB (turnB s i c))) := rfl
  rw [e] at h1
  unfold sumN at h1
  rw [headB_list, turnB_list, turnB_size] at h1
  have e4 : s.size + 4 - 4 = s.data.toList.length := by omega
  rw [e4] at h1
  exact turned_list s.data.toList i c 4294967295 (by omega) hi hc h1

theorem crc_on (x : Nat) (l r : List UInt8) : S.crc (S.crc x l) r = S.crc x (l ++ r) := by
  unfold S.crc
  rw [List.foldl_append]

end Go.Proofs.YthlgohplljcgfaaGreatDoor
/-
  A letter read from its text: plain facts, the program's answer.
-/
namespace Go.Proofs.YthlgohplljcgfaaGreatDoor
open Go.RowKit Go.BigFrame Go.Sort
set_option linter.unusedVariables false
set_option linter.unusedSimpArgs false

theorem Tab.lat {w W : World} (h : Tab w) (hb : Below w.heap.size w W) : Tab W := h.later hb h.pos

namespace VV
/-- what is sealed there, if anything -/
def uns (t : ByteArray) : Option ByteArray := if 4 ≤ t.size ∧ t.size ≤ 20004 ∧ fourB (sumN (headB t)) = tailB t then some (headB t) else none
def zL : Ltr := ⟨0, 0, 0, 0, 0, ⟨#[]⟩⟩
/-- what stands there as a letter, whether right or not -/
def raw (u : ByteArray) : Option Ltr := if 4 ≤ u.size then (match M.readVar u.data.toList 4 with
  | none => none
  | some (n, q) => some ⟨((byB u 0).toNat : Int), ((byB u 1).toNat : Int), ((byB u 2).toNat : Int), ((byB u 3).toNat : Int), (n : Int), u.extract q u.size⟩) else none
def rd (t : ByteArray) : Option Ltr := match uns t with
  | none => none
  | some u => match raw u with
    | none => none
    | some x => if ok x = true then some x else none
def rdOk (t : ByteArray) : Bool := (rd t).isSome
/-- what is read of a text: a letter, or the zero one -/
def rdA (t : ByteArray) : Ltr := (rd t).getD zL
theorem rd_none {t : ByteArray} (h : rd t = none) : rdOk t = false ∧ rdA t = zL := by unfold rdOk rdA; rw [h]; exact ⟨rfl, rfl⟩
theorem rd_some {t : ByteArray} {x : Ltr} (h : rd t = some x) : rdOk t = true ∧ rdA t = x := by unfold rdOk rdA; rw [h]; exact ⟨rfl, rfl⟩
theorem rd_no1 {t : ByteArray} (h : uns t = none) : rd t = none := by unfold rd; rw [h]
theorem rd_no2 {t u : ByteArray} (h : uns t = some u) (h2 : raw u = none) : rd t = none := by unfold rd; rw [h]; simp only; rw [h2]
theorem rd_no3 {t u : ByteArray} {x : Ltr} (h : uns t = some u) (h2 : raw u = some x) (h3 : ok x = false) : rd t = none := by unfold rd; rw [h]; simp only; rw [h2]; simp only; rw [if_neg (by rw [h3]; simp)]
theorem rd_yes {t u : ByteArray} {x : Ltr} (h : uns t = some u) (h2 : raw u = some x) (h3 : ok x = true) : rd t = some x := by unfold rd; rw [h]; simp only; rw [h2]; simp only; rw [if_pos h3]
theorem raw_no1 {u : ByteArray} (h : ¬ 4 ≤ u.size) : raw u = none := by unfold raw; rw [if_neg h]
theorem raw_no2 {u : ByteArray} (h : M.readVar u.data.toList 4 = none) : raw u = none := by unfold raw; split <;> simp [h]
theorem raw_yes {u : ByteArray} {n q : Nat} (h4 : 4 ≤ u.size) (h : M.readVar u.data.toList 4 = some (n, q)) : raw u = some ⟨((byB u 0).toNat : Int), ((byB u 1).toNat : Int), ((byB u 2).toNat : Int), ((byB u 3).toNat : Int), (n : Int), u.extract q u.size⟩ := by unfold raw; rw [if_pos h4, h]
theorem uns_some {t u : ByteArray} (h : uns t = some u) : (4 ≤ t.size ∧ t.size ≤ 20004 ∧ fourB (sumN (headB t)) = tailB t) ∧ headB t = u := by
  unfold uns at h
  split at h
  · rename_i hc
    exact ⟨hc, Option.some.inj h⟩
  · cases h
theorem uns_none {t : ByteArray} (h : uns t = none) : ¬ (4 ≤ t.size ∧ t.size ≤ 20004 ∧ fourB (sumN (headB t)) = tailB t) := by
  unfold uns at h
  split at h
  · cases h
  · assumption
theorem uns_sealed {t u : ByteArray} (h : uns t = some u) : t = sealedB u ∧ u.size + 4 = t.size ∧ u.size ≤ 20000 := by
  obtain ⟨⟨h1, h2, h3⟩, rfl⟩ := uns_some h
  have hs : (headB t).size = t.size - 4 := by unfold headB; rw [ByteArray.size_extract]; omega
  refine ⟨?_, by omega, by omega⟩
  unfold sealedB
  rw [h3]
  apply bytes_eq
  rw [ByteArray.data_append, Array.toList_append, headB_list, tailB_list, List.take_append_drop]
theorem uns_back (u : ByteArray) (h : u.size ≤ 20000) : uns (sealedB u) = some u := by
  have hz := sealedB_size u
  unfold uns
  rw [sealedB_head, sealedB_tail, if_pos ⟨by omega, by omega, rfl⟩]
theorem four_bytes {u : ByteArray} (h : 4 ≤ u.size) : LV.cutL u.data.toList 0 4 = [byB u 0, byB u 1, byB u 2, byB u 3] := by
  have hl : u.data.toList.length = u.size := Array.length_toList
  unfold byB
  generalize u.data.toList = l at *
  match l, (by omega : 4 ≤ l.length) with
  | a :: b :: c :: d :: r, _ => simp [LV.cutL]
theorem varL_pos (n : Nat) : 0 < (M.varL n).length := by
  unfold M.varL
  rcases Nat.lt_or_ge 127 n with h | h
  · rw [M.varF_big 8 n h]
    simp
  · rw [M.varF_small 9 n h]
    simp
/-- what was read as a letter is written as it was -/
theorem raw_text {u : ByteArray} {x : Ltr} (h : raw u = some x) : lB x = u := by
  by_cases h4 : 4 ≤ u.size
  · cases hv : M.readVar u.data.toList 4 with
    | none => rw [raw_no2 hv] at h; cases h
    | some y =>
      obtain ⟨n, q⟩ := y
      rw [raw_yes h4 hv] at h
      obtain rfl := Option.some.inj h
      have hq := (read_bound u 4 n q hv).1
      have hc := LV.read_canon h4 hv
      have hq4 : 4 ≤ q := by
        rcases Nat.lt_or_ge q 4 with hlt | hge
        · exfalso
          have e : LV.cutL u.data.toList 4 q = [] := by unfold LV.cutL; rw [show q - 4 = 0 by omega]; simp
          rw [e] at hc
          have := varL_pos n
          rw [← hc] at this
          simp at this
        · exact hge
      have hl : u.data.toList.length = u.size := Array.length_toList
      have hall : LV.cutL u.data.toList 0 u.size = u.data.toList := by unfold LV.cutL; rw [List.drop_zero, Nat.sub_zero, ← hl, List.take_length]
      apply bytes_eq
      show ltL _ = _
      unfold ltL four
      simp only [Int.toNat_natCast, UInt8.ofNat_toNat]
      rw [← four_bytes h4, ← hc, LV.cutL_join _ 0 4 q (by omega) hq4, LV.extract_cut, LV.cutL_join _ 0 q u.size (by omega) hq, hall]
  · rw [raw_no1 h4] at h; cases h
theorem rd_text {t : ByteArray} {x : Ltr} (h : rd t = some x) : ok x = true ∧ text x = t := by
  unfold rd at h
  cases hu : uns t with
  | none => rw [hu] at h; cases h
  | some u =>
    rw [hu] at h
    simp only at h
    cases hr : raw u with
    | none => rw [hr] at h; cases h
    | some y =>
      rw [hr] at h
      simp only at h
      split at h
      · rename_i ho
        obtain rfl := Option.some.inj h
        refine ⟨ho, ?_⟩
        unfold text
        rw [if_pos ho, raw_text hr]
        exact (uns_sealed hu).1.symm
      · cases h
theorem rd_back {x : Ltr} (h : ok x = true) : rd (text x) = some x := by
  obtain ⟨b1, b2, b3, b4, b5, b6⟩ := ok_bounds h
  have hz := lB_size b6
  unfold text
  rw [if_pos h]
  refine rd_yes (uns_back (lB x) (by omega)) ?_ h
  have hl : (lB x).data.toList = four x ++ (M.varL x.y.toNat ++ x.r.data.toList) := by
    show ltL x = _
    unfold ltL
    rw [List.append_assoc]
  have hv := LV.readVar_back (four x) x.r.data.toList x.y.toNat (by omega)
  rw [← hl] at hv
  have h4 : (four x).length = 4 := rfl
  rw [h4] at hv
  have hs : 4 ≤ (lB x).size := by
    have : (lB x).data.toList.length = (lB x).size := Array.length_toList
    rw [hl] at this
    simp only [List.length_append] at this
    omega
  rw [raw_yes hs hv]
  obtain ⟨k, f, t, e, y, r⟩ := x
  have g : ∀ j, (hj : j < 4) → byB (lB ⟨k, f, t, e, y, r⟩) j = (four ⟨k, f, t, e, y, r⟩).getD j 0 := fun j hj => by
    unfold byB
    rw [hl]
    simp only [List.getD_eq_getElem?_getD]
    rw [List.getElem?_append_left (by rw [h4]; exact hj)]
  have hr : (lB ⟨k, f, t, e, y, r⟩).extract (4 + (M.varL y.toNat).length) (lB ⟨k, f, t, e, y, r⟩).size = r := by
    apply bytes_eq
    rw [LV.extract_cut, hl]
    have hz2 : (lB ⟨k, f, t, e, y, r⟩).size = 4 + (M.varL y.toNat).length + r.data.toList.length := by
      have : (lB ⟨k, f, t, e, y, r⟩).data.toList.length = (lB ⟨k, f, t, e, y, r⟩).size := Array.length_toList
      rw [← this, hl]
      simp only [List.length_append]
      omega
    rw [hz2, ← List.append_assoc]
    unfold LV.cutL
    rw [List.drop_append_of_le_length (by simp only [List.length_append]; omega)]
    have e1 : (four ⟨k, f, t, e, y, r⟩ ++ M.varL y.toNat).drop (4 + (M.varL y.toNat).length) = [] := by
      apply List.drop_eq_nil_of_le
      simp only [List.length_append]
      omega
    rw [e1, List.nil_append]
    apply List.take_of_length_le
    show r.data.toList.length ≤ _
    omega
  simp only at hr b1 b2 b3 b4 b5 ⊢
  rw [hr, g 0 (by omega), g 1 (by omega), g 2 (by omega), g 3 (by omega)]
  have c : ∀ z : Int, 0 ≤ z → z ≤ 255 → (((UInt8.ofNat z.toNat).toNat : Nat) : Int) = z := fun z h0 h1 => by simp; omega
  simp only [four, List.getD_cons_zero, List.getD_cons_succ]
  rw [c k (by omega) (by omega), c f (by omega) (by omega), c t (by omega) (by omega), c e (by omega) (by omega)]
  congr 2
  omega
end VV

theorem run_fromV (b : ByteArray) (x : Int) (i : Nat) (hx : x = (i : Int)) (hi : i ≤ b.size) (W : World) : (Instr.slice 9 (.string b) (some (.int .i64 x)) none none).run Tryz.prog W = .ok (.string (b.extract i b.size)) W := by
  rw [run_slice_string_from_if (P := Tryz.prog) (w := W) 9 b .i64 _ Tryz.underlying9, if_pos (by omega)]
  subst hx
  simp

end Go.Proofs.YthlgohplljcgfaaGreatDoor
