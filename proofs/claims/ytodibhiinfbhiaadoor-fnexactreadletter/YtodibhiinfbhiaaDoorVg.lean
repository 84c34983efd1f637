/-
  A letter read from its text: plain facts, the program's answer.
-/
import Derived.Test.YtodibhiinfbhiaaDoorVe
import Derived.Test.YtodibhiinfbhiaaDoorUns
import Derived.Test.YtodibhiinfbhiaaDoorTurn
import Derived.Test.YtodibhiinfbhiaaDoorLby
import Derived.Test.YtodibhiinfbhiaaDoorRa
import Derived.Test.YtodibhiinfbhiaaDoorRv
namespace Go.Proofs.YtodibhiinfbhiaaDoor
open Go.RowKit Go.BigFrame Go.Sort
set_option linter.unusedVariables false
set_option linter.unusedSimpArgs false

theorem Tab.lat {w W : World} (h : Tab w) (hb : Below w.heap.size w W) : Tab W := h.later hb h.pos

namespace VV
/-- what is sealed there, if anything -/
def uns (t : ByteArray) : Option ByteArray := if 4 ≤ t.size ∧ t.size ≤ 20004 ∧ fourB (sumN (headB t)) = tailB t then some (headB t) else none
def zL : Ltr := ⟨0, 0, 0, 0, 0, ⟨#[]⟩⟩
/-- what stands there as a letter, whether right or not -/
def raw (u : ByteArray) : Option Ltr := if 4 ≤ u.size then (match M.readVar u.data.toList 4 with
  | none => none
  | some (n, q) => some ⟨((byB u 0).toNat : Int), ((byB u 1).toNat : Int), ((byB u 2).toNat : Int), ((byB u 3).toNat : Int), (n : Int), u.extract q u.size⟩) else none
def rd (t : ByteArray) : Option Ltr := match uns t with
  | none => none
  | some u => match raw u with
    | none => none
    | some x => if ok x = true then some x else none
def rdOk (t : ByteArray) : Bool := (rd t).isSome
/-- what is read of a text: a letter, or the zero one -/
def rdA (t : ByteArray) : Ltr := (rd t).getD zL
theorem rd_none {t : ByteArray} (h : rd t = none) : rdOk t = false ∧ rdA t = zL := by unfold rdOk rdA; rw [h]; exact ⟨rfl, rfl⟩
theorem rd_some {t : ByteArray} {x : Ltr} (h : rd t = some x) : rdOk t = true ∧ rdA t = x := by unfold rdOk rdA; rw [h]; exact ⟨rfl, rfl⟩
theorem rd_no1 {t : ByteArray} (h : uns t = none) : rd t = none := by unfold rd; rw [h]
theorem rd_no2 {t u : ByteArray} (h : uns t = some u) (h2 : raw u = none) : rd t = none := by unfold rd; rw [h]; simp only; rw [h2]
theorem rd_no3 {t u : ByteArray} {x : Ltr} (h : uns t = some u) (h2 : raw u = some x) (h3 : ok x = false) : rd t = none := by unfold rd; rw [h]; simp only; rw [h2]; simp only; rw [if_neg (by rw [h3]; simp)]
theorem rd_yes {t u : ByteArray} {x : Ltr} (h : uns t = some u) (h2 : raw u = some x) (h3 : ok x = true) : rd t = some x := by unfold rd; rw [h]; simp only; rw [h2]; simp only; rw [if_pos h3]
theorem raw_no1 {u : ByteArray} (h : ¬ 4 ≤ u.size) : raw u = none := by unfold raw; rw [if_neg h]
theorem raw_no2 {u : ByteArray} (h : M.readVar u.data.toList 4 = none) : raw u = none := by unfold raw; split <;> simp [h]
theorem raw_yes {u : ByteArray} {n q : Nat} (h4 : 4 ≤ u.size) (h : M.readVar u.data.toList 4 = some (n, q)) : raw u = some ⟨((byB u 0).toNat : Int), ((byB u 1).toNat : Int), ((byB u 2).toNat : Int), ((byB u 3).toNat : Int), (n : Int), u.extract q u.size⟩ := by unfold raw; rw [if_pos h4, h]
theorem uns_some {t u : ByteArray} (h : uns t = some u) : (4 ≤ t.size ∧ t.size ≤ 20004 ∧ fourB (sumN (headB t)) = tailB t) ∧ headB t = u := by
  unfold uns at h
  split at h
  · rename_i hc
    exact ⟨hc, Option.some.inj h⟩
  · cases h
theorem uns_none {t : ByteArray} (h : uns t = none) : ¬ (4 ≤ t.size ∧ t.size ≤ 20004 ∧ fourB (sumN (headB t)) = tailB t) := by
  unfold uns at h
  split at h
  · cases h
  · assumption
theorem uns_sealed {t u : ByteArray} (h : uns t = some u) : t = sealedB u ∧ u.size + 4 = t.size ∧ u.size ≤ 20000 := by
  obtain ⟨⟨h1, h2, h3⟩, rfl⟩ := uns_some h
  have hs : (headB t).size = t.size - 4 := by unfold headB; rw [ByteArray.size_extract]; omega
  refine ⟨?_, by omega, by omega⟩
  unfold sealedB
  rw [h3]
  apply bytes_eq
  rw [ByteArray.data_append, Array.toList_append, headB_list, tailB_list, List.take_append_drop]
theorem uns_back (u : ByteArray) (h : u.size ≤ 20000) : uns (sealedB u) = some u := by
  have hz := sealedB_size u
  unfold uns
  rw [sealedB_head, sealedB_tail, if_pos ⟨by omega, by omega, rfl⟩]
theorem four_bytes {u : ByteArray} (h : 4 ≤ u.size) : LV.cutL u.data.toList 0 4 = [byB u 0, byB u 1, byB u 2, byB u 3] := by
  have hl : u.data.toList.length = u.size := Array.length_toList
  unfold byB
  generalize u.data.toList = l at *
  match l, (by omega : 4 ≤ l.length) with
  | a :: b :: c :: d :: r, _ => simp [LV.cutL]
theorem varL_pos (n : Nat) : 0 < (M.varL n).length := by
  unfold M.varL
  rcases Nat.lt_or_ge 127 n with h | h
  · rw [M.varF_big 8 n h]
    simp
  · rw [M.varF_small 9 n h]
    simp
/-- what was read as a letter is written as it was -/
theorem raw_text {u : ByteArray} {x : Ltr} (h : raw u = some x) : lB x = u := by
  by_cases h4 : 4 ≤ u.size
  · cases hv : M.readVar u.data.toList 4 with
    | none => rw [raw_no2 hv] at h; cases h
    | some y =>
      obtain ⟨n, q⟩ := y
      rw [raw_yes h4 hv] at h
      obtain rfl := Option.some.inj h
      have hq := (read_bound u 4 n q hv).1
      have hc := LV.read_canon h4 hv
      have hq4 : 4 ≤ q := by
        rcases Nat.lt_or_ge q 4 with hlt | hge
        · exfalso
          have e : LV.cutL u.data.toList 4 q = [] := by unfold LV.cutL; rw [show q - 4 = 0 by omega]; simp
          rw [e] at hc
          have := varL_pos n
          rw [← hc] at this
          simp at this
        · exact hge
      have hl : u.data.toList.length = u.size := Array.length_toList
      have hall : LV.cutL u.data.toList 0 u.size = u.data.toList := by unfold LV.cutL; rw [List.drop_zero, Nat.sub_zero, ← hl, List.take_length]
      apply bytes_eq
      show ltL _ = _
      unfold ltL four
      simp only [Int.toNat_natCast, UInt8.ofNat_toNat]
      rw [← four_bytes h4, ← hc, LV.cutL_join _ 0 4 q (by omega) hq4, LV.extract_cut, LV.cutL_join _ 0 q u.size (by omega) hq, hall]
  · rw [raw_no1 h4] at h; cases h
theorem rd_text {t : ByteArray} {x : Ltr} (h : rd t = some x) : ok x = true ∧ text x = t := by
  unfold rd at h
  cases hu : uns t with
  | none => rw [hu] at h; cases h
  | some u =>
    rw [hu] at h
    simp only at h
    cases hr : raw u with
    | none => rw [hr] at h; cases h
    | some y =>
      rw [hr] at h
      simp only at h
      split at h
      · rename_i ho
        obtain rfl := Option.some.inj h
        refine ⟨ho, ?_⟩
        unfold text
        rw [if_pos ho, raw_text hr]
        exact (uns_sealed hu).1.symm
      · cases h
theorem rd_back {x : Ltr} (h : ok x = true) : rd (text x) = some x := by
  obtain ⟨b1, b2, b3, b4, b5, b6⟩ := ok_bounds h
  have hz := lB_size b6
  unfold text
  rw [if_pos h]
  refine rd_yes (uns_back (lB x) (by omega)) ?_ h
  have hl : (lB x).data.toList = four x ++ (M.varL x.y.toNat ++ x.r.data.toList) := by
    show ltL x = _
    unfold ltL
    rw [List.append_assoc]
  have hv := LV.readVar_back (four x) x.r.data.toList x.y.toNat (by omega)
  rw [← hl] at hv
  have h4 : (four x).length = 4 := rfl
  rw [h4] at hv
  have hs : 4 ≤ (lB x).size := by
    have : (lB x).data.toList.length = (lB x).size := Array.length_toList
    rw [hl] at this
    simp only [List.length_append] at this
    omega
  rw [raw_yes hs hv]
  obtain ⟨k, f, t, e, y, r⟩ := x
  have g : ∀ j, (hj : j < 4) → byB (lB ⟨k, f, t, e, y, r⟩) j = (four ⟨k, f, t, e, y, r⟩).getD j 0 := fun j hj => by
    unfold byB
    rw [hl]
    simp only [List.getD_eq_getElem?_getD]
    rw [List.getElem?_append_left (by rw [h4]; exact hj)]
  have hr : (lB ⟨k, f, t, e, y, r⟩).extract (4 + (M.varL y.toNat).length) (lB ⟨k, f, t, e, y, r⟩).size = r := by
    apply bytes_eq
    rw [LV.extract_cut, hl]
    have hz2 : (lB ⟨k, f, t, e, y, r⟩).size = 4 + (M.varL y.toNat).length + r.data.toList.length := by
      have : (lB ⟨k, f, t, e, y, r⟩).data.toList.length = (lB ⟨k, f, t, e, y, r⟩).size := Array.length_toList
      rw [← this, hl]
      simp only [List.length_append]
      omega
    rw [hz2, ← List.append_assoc]
    unfold LV.cutL
    rw [List.drop_append_of_le_length (by simp only [List.length_append]; omega)]
    have e1 : (four ⟨k, f, t, e, y, r⟩ ++ M.varL y.toNat).drop (4 + (M.varL y.toNat).length) = [] := by
      apply List.drop_eq_nil_of_le
      simp only [List.length_append]
      omega
    rw [e1, List.nil_append]
    apply List.take_of_length_le
    show r.data.toList.length ≤ _
    omega
  simp only at hr b1 b2 b3 b4 b5 ⊢
  rw [hr, g 0 (by omega), g 1 (by omega), g 2 (by omega), g 3 (by omega)]
  have c : ∀ z : Int, 0 ≤ z → z ≤ 255 → (((UInt8.ofNat z.toNat).toNat : Nat) : Int) = z := fun z h0 h1 => by simp; omega
  simp only [four, List.getD_cons_zero, List.getD_cons_succ]
  rw [c k (by omega) (by omega), c f (by omega) (by omega), c t (by omega) (by omega), c e (by omega) (by omega)]
  congr 2
  omega
end VV

theorem run_fromV (b : ByteArray) (x : Int) (i : Nat) (hx : x = (i : Int)) (hi : i ≤ b.size) (W : World) : (Instr.slice 9 (.string b) (some (.int .i64 x)) none none).run Tryd.prog W = .ok (.string (b.extract i b.size)) W := by
  rw [run_slice_string_from_if (P := Tryd.prog) (w := W) 9 b .i64 _ Tryd.underlying9, if_pos (by omega)]
  subst hx
  simp

theorem Unsealed_at (t : ByteArray) (w : World) (ht : t.size ≤ 1048576) (hT : Tab w) :
    Calls Tryd.prog 24 #[.string t] w fun e w' => (match VV.uns t with
      | none => e = .returned (.tuple #[.string ⟨#[]⟩, .bool false])
      | some u => e = .returned (.tuple #[.string u, .bool true])) ∧ Below w.heap.size w w' := by
  cases hu : VV.uns t with
  | none =>
    have hn := VV.uns_none hu
    by_cases h1 : 4 ≤ t.size
    · by_cases h2 : t.size ≤ 20004
      · exact Unsealed_no t w h1 h2 hT (fun h => hn ⟨h1, h2, h⟩)
      · exact Unsealed_out t w ht (.inr (by omega))
    · exact Unsealed_out t w ht (.inl (by omega))
  | some u =>
    obtain ⟨⟨h1, h2, h3⟩, rfl⟩ := VV.uns_some hu
    exact Unsealed_yes t w h1 h2 hT h3
theorem sUnsealed_at (t : ByteArray) (w : World) (ht : t.size ≤ 1048576) :
    Calls Tryd.prog 32 #[.string t] w fun e w' => (match VV.uns t with
      | none => e = .returned (.tuple #[.string ⟨#[]⟩, .bool false])
      | some u => e = .returned (.tuple #[.string u, .bool true])) ∧ Below w.heap.size w w' := by
  cases hu : VV.uns t with
  | none =>
    have hn := VV.uns_none hu
    by_cases h1 : 4 ≤ t.size
    · by_cases h2 : t.size ≤ 20004
      · exact sUnsealed_no t w h1 h2 (fun h => hn ⟨h1, h2, h⟩)
      · exact sUnsealed_out t w ht (.inr (by omega))
    · exact sUnsealed_out t w ht (.inl (by omega))
  | some u =>
    obtain ⟨⟨h1, h2, h3⟩, rfl⟩ := VV.uns_some hu
    exact sUnsealed_yes t w h1 h2 h3

end Go.Proofs.YtodibhiinfbhiaaDoor
