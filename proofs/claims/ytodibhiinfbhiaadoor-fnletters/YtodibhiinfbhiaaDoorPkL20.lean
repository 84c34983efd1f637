/-
  Texts laid together: Lby, Vg, Spl.
-/
import Derived.Test.YtodibhiinfbhiaaDoorPkL19
import Derived.StillTailTactics
import Derived.Test.YtodibhiinfbhiaaDoorPkL15
import Derived.Test.YtodibhiinfbhiaaDoorPkL16
import Derived.Test.YtodibhiinfbhiaaDoorPkL17
import Derived.Test.YtodibhiinfbhiaaDoorPkL18
import Derived.Test.YtodibhiinfbhiaaDoorPkL11
import Derived.Deep.RegionLaw
import Derived.Deep.CutRange
import Derived.Deep.RegionHeld
/-
  The specification's reader: one byte of a text.
-/
namespace Go.Proofs.YtodibhiinfbhiaaDoor
open Go.RowKit Go.BigFrame Go.Sort
set_option linter.unusedVariables false
set_option linter.unusedSimpArgs false

/-- the byte at a place -/
def byB (d : ByteArray) (i : Nat) : UInt8 := d.data.toList.getD i 0
theorem run_by (d : ByteArray) (x : Int) (i : Nat) (hx : x = (i : Int)) (h : i < d.size) (w : World) : (Instr.index 9 (.string d) (.int .i64 x)).run Tryd.prog w = .ok (.int .u8 ((byB d i).toNat : Int)) w := by
  subst hx
  rw [run_index_string (P := Tryd.prog) (w := w) 9 d .i64 _ Tryd.underlying9, dif_pos ⟨by omega, by omega⟩]
  have e : byB d i = d[i] := by
    unfold byB
    have : i < d.data.toList.length := by rw [Array.length_toList]; exact h
    rw [List.getD_eq_getElem?_getD, List.getElem?_eq_getElem this]
    simp
    rfl
  rw [e]
  simp

set_option maxRecDepth 100000 in
set_option maxHeartbeats 1000000 in
theorem l09Byte_no (c : Nat) (s : ByteArray) (p : Nat) (b : Bool) (w : World) (h : Cu w c s p b) (hs : s.size ≤ 1048576) (hp : p ≤ s.size) (hno : b = true ∨ p = s.size) :
    Calls Tryd.prog 35 #[.pointer (some ⟨c, 0, none⟩)] w fun e w' => (e = .returned (.int .i64 0) ∧ Cu w' c s p true) ∧ w.grownBy w' (some c) := by
  have c0 := h.c0
  have c1 := h.c1
  have c2 := h.c2
  have hcl := h.lt
  have HH : Hid (Cu w c s p b) := h
  clear h
  cases b with
  | true =>
    clear hno
    go_enter Tryd.func35, Tryd.ntmps35
    go_wp2
    go_quiet (fail)
    have h6 : Cu (w.drewN nq) c s p true := HH.out
    have hgw : w.grownBy (w.drewN nq) (some c) := grown_below (below_drn (Below.refl _ _) nq)
    generalize w.drewN nq = wd at *
    have d2 := h6.c2
    have g2 := h6.f2
    have hl6 := h6.lt
    have HF : Hid (Cu (wd.setCell ⟨c, 2, none⟩ (.bool true)) c s p true ∧ w.grownBy (wd.setCell ⟨c, 2, none⟩ (.bool true)) (some c)) := ⟨h6.bad, hgw.trans (grown_setC wd c 2 _)⟩
    clear h6 hgw HH
    go_wp2
    go_ret
    exact ⟨⟨rfl, HF.out.1⟩, HF.out.2⟩
  | false =>
    have h3 : p = s.size := by
      rcases hno with h | h
      · cases h
      · exact h
    have q3 : decide ((s.size : Int) ≤ (p : Int)) = true := decide_eq_true (by omega)
    clear hno
    go_enter Tryd.func35, Tryd.ntmps35
    go_wp2
    go_quiet (fail)
    have h6 : Cu (w.drewN nq) c s p false := HH.out
    have hgw : w.grownBy (w.drewN nq) (some c) := grown_below (below_drn (Below.refl _ _) nq)
    generalize w.drewN nq = wd at *
    have d2 := h6.c2
    have g2 := h6.f2
    have hl6 := h6.lt
    have HF : Hid (Cu (wd.setCell ⟨c, 2, none⟩ (.bool true)) c s p true ∧ w.grownBy (wd.setCell ⟨c, 2, none⟩ (.bool true)) (some c)) := ⟨h6.bad, hgw.trans (grown_setC wd c 2 _)⟩
    clear h6 hgw HH
    go_wp2
    go_ret
    exact ⟨⟨rfl, HF.out.1⟩, HF.out.2⟩

set_option maxRecDepth 100000 in
set_option maxHeartbeats 1000000 in
theorem l09Byte_yes (c : Nat) (s : ByteArray) (p : Nat) (w : World) (h : Cu w c s p false) (hs : s.size ≤ 1048576) (hp : p < s.size) :
    Calls Tryd.prog 35 #[.pointer (some ⟨c, 0, none⟩)] w fun e w' => (e = .returned (.int .i64 ((byB s p).toNat : Int)) ∧ Cu w' c s (p + 1) false) ∧ w.grownBy w' (some c) := by
  have c0 := h.c0
  have c1 := h.c1
  have c2 := h.c2
  have hcl := h.lt
  have HH : Hid (Cu w c s p false) := h
  have hpc := run_by s (p : Int) p rfl hp
  have e1 : ((p + 1 : Nat) : Int) = (p : Int) + 1 := by omega
  have e2 : (p : Int) + 1 - 1 = (p : Int) := by omega
  have q3 : decide ((s.size : Int) ≤ (p : Int)) = false := decide_eq_false (by omega)
  have hb256 : (byB s p).toNat < 256 := (byB s p).toNat_lt
  generalize byB s p = b at *
  clear h
  go_enter Tryd.func35, Tryd.ntmps35
  go_wp2
  go_quiet (fail)
  have h6 : Cu (w.drewN nq) c s p false := HH.out
  have hgw : w.grownBy (w.drewN nq) (some c) := grown_below (below_drn (Below.refl _ _) nq)
  generalize w.drewN nq = wd at *
  have d1 := h6.c1
  have g1 := h6.f1
  have hl6 := h6.lt
  have hC : Cu (wd.setCell ⟨c, 1, none⟩ (.int .i64 ((p + 1 : Nat) : Int))) c s (p + 1) false := h6.at (p + 1)
  rw [e1] at hC
  have HF : Hid (Cu (wd.setCell ⟨c, 1, none⟩ (.int .i64 ((p : Int) + 1))) c s (p + 1) false ∧ w.grownBy (wd.setCell ⟨c, 1, none⟩ (.int .i64 ((p : Int) + 1))) (some c)) := ⟨hC, hgw.trans (grown_setC wd c 1 _)⟩
  have k0 := hC.c0
  have k1 := hC.c1
  rw [e1] at k1
  clear h6 hgw hC HH c0 c1 c2
  go_wp2
  generalize wd.setCell ⟨c, 1, none⟩ (.int .i64 ((p : Int) + 1)) = we at *
  try (go_quiet (fail))
  have HG : Hid (∀ n, Cu (we.drewN n) c s (p + 1) false ∧ w.grownBy (we.drewN n) (some c)) := fun n => ⟨HF.out.1, HF.out.2.trans (grown_below (below_drn (Below.refl _ _) n))⟩
  go_wp2
  go_ret
  first | exact ⟨⟨rfl, (HG.out _).1⟩, (HG.out _).2⟩ | exact ⟨⟨rfl, HF.out.1⟩, HF.out.2⟩

end Go.Proofs.YtodibhiinfbhiaaDoor
/-
  A letter read from its text: plain facts, the program's answer.
-/
namespace Go.Proofs.YtodibhiinfbhiaaDoor
open Go.RowKit Go.BigFrame Go.Sort
set_option linter.unusedVariables false
set_option linter.unusedSimpArgs false

theorem Tab.lat {w W : World} (h : Tab w) (hb : Below w.heap.size w W) : Tab W := h.later hb h.pos

namespace VV
/-- what is sealed there, if anything -/
def uns (t : ByteArray) : Option ByteArray := if 4 ≤ t.size ∧ t.size ≤ 20004 ∧ fourB (sumN (headB t)) = tailB t then some (headB t) else none
def zL : Ltr := ⟨0, 0, 0, 0, 0, ⟨#[]⟩⟩
/-- what stands there as a letter, whether right or not -/
def raw (u : ByteArray) : Option Ltr := if 4 ≤ u.size then (match M.readVar u.data.toList 4 with
  | none => none
  | some (n, q) => some ⟨((byB u 0).toNat : Int), ((byB u 1).toNat : Int), ((byB u 2).toNat : Int), ((byB u 3).toNat : Int), (n : Int), u.extract q u.size⟩) else none
def rd (t : ByteArray) : Option Ltr := match uns t with
  | none => none
  | some u => match raw u with
    | none => none
    | some x => if ok x = true then some x else none
def rdOk (t : ByteArray) : Bool := (rd t).isSome
/-- what is read of a text: a letter, or the zero one -/
def rdA (t : ByteArray) : Ltr := (rd t).getD zL
theorem rd_none {t : ByteArray} (h : rd t = none) : rdOk t = false ∧ rdA t = zL := by unfold rdOk rdA; rw [h]; exact ⟨rfl, rfl⟩
theorem rd_some {t : ByteArray} {x : Ltr} (h : rd t = some x) : rdOk t = true ∧ rdA t = x := by unfold rdOk rdA; rw [h]; exact ⟨rfl, rfl⟩
theorem rd_no1 {t : ByteArray} (h : uns t = none) : rd t = none := by unfold rd; rw [h]
theorem rd_no2 {t u : ByteArray} (h : uns t = some u) (h2 : raw u = none) : rd t = none := by unfold rd; rw [h]; simp only; rw [h2]
theorem rd_no3 {t u : ByteArray} {x : Ltr} (h : uns t = some u) (h2 : raw u = some x) (h3 : ok x = false) : rd t = none := by unfold rd; rw [h]; simp only; rw [h2]; simp only; rw [if_neg (by rw [h3]; simp)]
theorem rd_yes {t u : ByteArray} {x : Ltr} (h : uns t = some u) (h2 : raw u = some x) (h3 : ok x = true) : rd t = some x := by unfold rd; rw [h]; simp only; rw [h2]; simp only; rw [if_pos h3]
theorem raw_no1 {u : ByteArray} (h : ¬ 4 ≤ u.size) : raw u = none := by unfold raw; rw [if_neg h]
theorem raw_no2 {u : ByteArray} (h : M.readVar u.data.toList 4 = none) : raw u = none := by unfold raw; split <;> simp [h]
theorem raw_yes {u : ByteArray} {n q : Nat} (h4 : 4 ≤ u.size) (h : M.readVar u.data.toList 4 = some (n, q)) : raw u = some ⟨((byB u 0).toNat : Int), ((byB u 1).toNat : Int), ((byB u 2).toNat : Int), ((byB u 3).toNat : Int), (n : Int), u.extract q u.size⟩ := by unfold raw; rw [if_pos h4, h]
theorem uns_some {t u : ByteArray} (h : uns t = some u) : (4 ≤ t.size ∧ t.size ≤ 20004 ∧ fourB (sumN (headB t)) = tailB t) ∧ headB t = u := by
  unfold uns at h
  split at h
  · rename_i hc
    exact ⟨hc, Option.some.inj h⟩
  · cases h
theorem uns_none {t : ByteArray} (h : uns t = none) : ¬ (4 ≤ t.size ∧ t.size ≤ 20004 ∧ fourB (sumN (headB t)) = tailB t) := by
  unfold uns at h
  split at h
  · cases h
  · assumption
theorem uns_sealed {t u : ByteArray} (h : uns t = some u) : t = sealedB u ∧ u.size + 4 = t.size ∧ u.size ≤ 20000 := by
  obtain ⟨⟨h1, h2, h3⟩, rfl⟩ := uns_some h
  have hs : (headB t).size = t.size - 4 := by unfold headB; rw [ByteArray.size_extract]; omega
  refine ⟨?_, by omega, by omega⟩
  unfold sealedB
  rw [h3]
  apply bytes_eq
  rw [ByteArray.data_append, Array.toList_append, headB_list, tailB_list, List.take_append_drop]
theorem uns_back (u : ByteArray) (h : u.size ≤ 20000) : uns (sealedB u) = some u := by
  have hz := sealedB_size u
  unfold uns
  rw [sealedB_head, sealedB_tail, if_pos ⟨by omega, by omega, rfl⟩]
theorem four_bytes {u : ByteArray} (h : 4 ≤ u.size) : LV.cutL u.data.toList 0 4 = [byB u 0, byB u 1, byB u 2, byB u 3] := by
  have hl : u.data.toList.length = u.size := Array.length_toList
  unfold byB
  generalize u.data.toList = l at *
  match l, (by omega : 4 ≤ l.length) with
  | a :: b :: c :: d :: r, _ => simp [LV.cutL]
theorem varL_pos (n : Nat) : 0 < (M.varL n).length := by
  unfold M.varL
  rcases Nat.lt_or_ge 127 n with h | h
  · rw [M.varF_big 8 n h]
    simp
  · rw [M.varF_small 9 n h]
    simp
/-- what was read as a letter is written as it was -/
theorem raw_text {u : ByteArray} {x : Ltr} (h : raw u = some x) : lB x = u := by
  by_cases h4 : 4 ≤ u.size
  · cases hv : M.readVar u.data.toList 4 with
    | none => rw [raw_no2 hv] at h; cases h
    | some y =>
      obtain ⟨n, q⟩ := y
      rw [raw_yes h4 hv] at h
      obtain rfl := Option.some.inj h
      have hq := (read_bound u 4 n q hv).1
      have hc := LV.read_canon h4 hv
      have hq4 : 4 ≤ q := by
        rcases Nat.lt_or_ge q 4 with hlt | hge
        · exfalso
          have e : LV.cutL u.data.toList 4 q = [] := by unfold LV.cutL; rw [show q - 4 = 0 by omega]; simp
          rw [e] at hc
          have := varL_pos n
          rw [← hc] at this
          simp at this
        · exact hge
      have hl : u.data.toList.length = u.size := Array.length_toList
      have hall : LV.cutL u.data.toList 0 u.size = u.data.toList := by unfold LV.cutL; rw [List.drop_zero, Nat.sub_zero, ← hl, List.take_length]
      apply bytes_eq
      show ltL _ = _
      unfold ltL four
      simp only [Int.toNat_natCast, UInt8.ofNat_toNat]
      rw [← four_bytes h4, ← hc, LV.cutL_join _ 0 4 q (by omega) hq4, LV.extract_cut, LV.cutL_join _ 0 q u.size (by omega) hq, hall]
  · rw [raw_no1 h4] at h; cases h
theorem rd_text {t : ByteArray} {x : Ltr} (h : rd t = some x) : ok x = true ∧ text x = t := by
  unfold rd at h
  cases hu : uns t with
  | none => rw [hu] at h; cases h
  | some u =>
    rw [hu] at h
    simp only at h
    cases hr : raw u with
    | none => rw [hr] at h; cases h
    | some y =>
      rw [hr] at h
      simp only at h
      split at h
      · rename_i ho
        obtain rfl := Option.some.inj h
        refine ⟨ho, ?_⟩
        unfold text
        rw [if_pos ho, raw_text hr]
        exact (uns_sealed hu).1.symm
      · cases h
theorem rd_back {x : Ltr} (h : ok x = true) : rd (text x) = some x := by
  obtain ⟨b1, b2, b3, b4, b5, b6⟩ := ok_bounds h
  have hz := lB_size b6
  unfold text
  rw [if_pos h]
  refine rd_yes (uns_back (lB x) (by omega)) ?_ h
  have hl : (lB x).data.toList = four x ++ (M.varL x.y.toNat ++ x.r.data.toList) := by
    show ltL x = _
    unfold ltL
    rw [List.append_assoc]
  have hv := LV.readVar_back (four x) x.r.data.toList x.y.toNat (by omega)
  rw [← hl] at hv
  have h4 : (four x).length = 4 := rfl
  rw [h4] at hv
  have hs : 4 ≤ (lB x).size := by
    have : (lB x).data.toList.length = (lB x).size := Array.length_toList
    rw [hl] at this
    simp only [List.length_append] at this
    omega
  rw [raw_yes hs hv]
  obtain ⟨k, f, t, e, y, r⟩ := x
  have g : ∀ j, (hj : j < 4) → byB (lB ⟨k, f, t, e, y, r⟩) j = (four ⟨k, f, t, e, y, r⟩).getD j 0 := fun j hj => by
    unfold byB
    rw [hl]
    simp only [List.getD_eq_getElem?_getD]
    rw [List.getElem?_append_left (by rw [h4]; exact hj)]
  have hr : (lB ⟨k, f, t, e, y, r⟩).extract (4 + (M.varL y.toNat).length) (lB ⟨k, f, t, e, y, r⟩).size = r := by
    apply bytes_eq
    rw [LV.extract_cut, hl]
    have hz2 : (lB ⟨k, f, t, e, y, r⟩).size = 4 + (M.varL y.toNat).length + r.data.toList.length := by
      have : (lB ⟨k, f, t, e, y, r⟩).data.toList.length = (lB ⟨k, f, t, e, y, r⟩).size := Array.length_toList
      rw [← this, hl]
      simp only [List.length_append]
      omega
    rw [hz2, ← List.append_assoc]
    unfold LV.cutL
    rw [List.drop_append_of_le_length (by simp only [List.length_append]; omega)]
    have e1 : (four ⟨k, f, t, e, y, r⟩ ++ M.varL y.toNat).drop (4 + (M.varL y.toNat).length) = [] := by
      apply List.drop_eq_nil_of_le
      simp only [List.length_append]
      omega
    rw [e1, List.nil_append]
    apply List.take_of_length_le
    show r.data.toList.length ≤ _
    omega
  simp only at hr b1 b2 b3 b4 b5 ⊢
  rw [hr, g 0 (by omega), g 1 (by omega), g 2 (by omega), g 3 (by omega)]
  have c : ∀ z : Int, 0 ≤ z → z ≤ 255 → (((UInt8.ofNat z.toNat).toNat : Nat) : Int) = z := fun z h0 h1 => by simp; omega
  simp only [four, List.getD_cons_zero, List.getD_cons_succ]
  rw [c k (by omega) (by omega), c f (by omega) (by omega), c t (by omega) (by omega), c e (by omega) (by omega)]
  congr 2
  omega
end VV

theorem run_fromV (b : ByteArray) (x : Int) (i : Nat) (hx : x = (i : Int)) (hi : i ≤ b.size) (W : World) : (Instr.slice 9 (.string b) (some (.int .i64 x)) none none).run Tryd.prog W = .ok (.string (b.extract i b.size)) W := by
  rw [run_slice_string_from_if (P := Tryd.prog) (w := W) 9 b .i64 _ Tryd.underlying9, if_pos (by omega)]
  subst hx
  simp

theorem Unsealed_at (t : ByteArray) (w : World) (ht : t.size ≤ 1048576) (hT : Tab w) :
    Calls Tryd.prog 24 #[.string t] w fun e w' => (match VV.uns t with
      | none => e = .returned (.tuple #[.string ⟨#[]⟩, .bool false])
      | some u => e = .returned (.tuple #[.string u, .bool true])) ∧ Below w.heap.size w w' := by
  cases hu : VV.uns t with
  | none =>
    have hn := VV.uns_none hu
    by_cases h1 : 4 ≤ t.size
    · by_cases h2 : t.size ≤ 20004
      · exact Unsealed_no t w h1 h2 hT (fun h => hn ⟨h1, h2, h⟩)
      · exact Unsealed_out t w ht (.inr (by omega))
    · exact Unsealed_out t w ht (.inl (by omega))
  | some u =>
    obtain ⟨⟨h1, h2, h3⟩, rfl⟩ := VV.uns_some hu
    exact Unsealed_yes t w h1 h2 hT h3
theorem sUnsealed_at (t : ByteArray) (w : World) (ht : t.size ≤ 1048576) :
    Calls Tryd.prog 32 #[.string t] w fun e w' => (match VV.uns t with
      | none => e = .returned (.tuple #[.string ⟨#[]⟩, .bool false])
      | some u => e = .returned (.tuple #[.string u, .bool true])) ∧ Below w.heap.size w w' := by
  cases hu : VV.uns t with
  | none =>
    have hn := VV.uns_none hu
    by_cases h1 : 4 ≤ t.size
    · by_cases h2 : t.size ≤ 20004
      · exact sUnsealed_no t w h1 h2 (fun h => hn ⟨h1, h2, h⟩)
      · exact sUnsealed_out t w ht (.inr (by omega))
    · exact sUnsealed_out t w ht (.inl (by omega))
  | some u =>
    obtain ⟨⟨h1, h2, h3⟩, rfl⟩ := VV.uns_some hu
    exact sUnsealed_yes t w h1 h2 h3

end Go.Proofs.YtodibhiinfbhiaaDoor
/-
  A text that is spoilt by a draw: some text, at most a byte longer.
-/
namespace Go.Proofs.YtodibhiinfbhiaaDoor
open Go.RowKit
set_option linter.unusedVariables false
set_option linter.unusedSimpArgs false

/-- what is spoilt is some text, at most a byte longer -/
def SpP (B : Nat) (w0 w : World) (g : Nat) (v : Value) (n : Nat) (e : Ending) (w' : World) : Prop := ∃ y : ByteArray, e = .returned (.string y) ∧ y.size ≤ n + 1 ∧ Cur B w0 w' g v ∧ w.grownBy w' (some g)
theorem run_front (b : ByteArray) (x : Int) (j : Nat) (hx : x = (j : Int)) (hj : j ≤ b.size) (W : World) : (Instr.slice 9 (.string b) none (some (.int .i64 x)) none).run Tryd.prog W = .ok (.string (b.extract 0 j)) W := by
  subst hx
  have h1 : ¬ ((j : Int) < 0) := by omega
  go_simp
theorem run_back (b : ByteArray) (x : Int) (j : Nat) (hx : x = (j : Int)) (hj : j ≤ b.size) (W : World) : (Instr.slice 9 (.string b) (some (.int .i64 x)) none none).run Tryd.prog W = .ok (.string (b.extract j b.size)) W := by
  subst hx
  have h1 : ¬ ((j : Int) < 0) := by omega
  go_simp

set_option maxRecDepth 100000 in
set_option maxHeartbeats 1000000 in
theorem l02Spoilt_in (B : Nat) (w0 w : World) (g : Nat) (v : Value) (s : ByteArray) (hc : Cur B w0 w g v) (hs : s.size ≤ 4000000) :
    Calls Tryd.prog 34 #[.pointer (some ⟨g, 0, none⟩), .string s] w (SpP B w0 w g v s.size) := by
  go_enter Tryd.func34, Tryd.ntmps34
  go_wp2_with fail
  refine (l01Below_in B w0 _ g v 12 12 rfl hc (by omega) (by omega)).mono ?_
  rintro e w1 ⟨k, hk, rfl, hc1, hg1⟩
  clear hc
  have hkk : k = 0 ∨ k = 1 ∨ (k = 2 ∨ k = 3) ∨ (¬ (k : Int) = 0 ∧ ¬ (k : Int) = 1 ∧ ¬ (k : Int) = 2 ∧ ¬ (k : Int) = 3) := by omega
  have HF : Hid (SpP B w0 w g v s.size (.returned (.string s)) w1) := ⟨s, rfl, by omega, hc1, hg1⟩
  rcases hkk with rfl | rfl | hk2 | ⟨h0, h1, h2, h3⟩
  · go_wp2_with fail
    refine (l01Text_in B w0 _ g v 1 1 rfl hc1 (by omega)).mono ?_
    rintro e w2 ⟨l, hl, rfl, hc2, hg2⟩
    have hlz : (⟨l.toArray⟩ : ByteArray).size = 1 := by show l.toArray.size = 1; simpa using hl
    generalize (⟨l.toArray⟩ : ByteArray) = T at *
    have HG : Hid (SpP B w0 w g v s.size (.returned (.string (s ++ T))) w2) := ⟨_, rfl, by rw [ByteArray.size_append]; omega, hc2, hg1.trans hg2⟩
    clear HF hc1 hc2 hg1 hg2
    go_wp2
    go_ret
    exact HG.out
  · go_wp2_with fail
    refine (l01Below_in B w0 _ g v ((s.size : Int) + 1) (s.size + 1) (by omega) hc1 (by omega) (by omega)).mono ?_
    rintro e w2 ⟨j, hj, rfl, hc2, hg2⟩
    have hr := run_front s j j rfl (by omega)
    have HG : Hid (SpP B w0 w g v s.size (.returned (.string (s.extract 0 j))) w2) := ⟨_, rfl, by rw [ByteArray.size_extract]; omega, hc2, hg1.trans hg2⟩
    clear HF hc1 hc2 hg1 hg2
    go_wp2
    go_ret
    exact HG.out
  · by_cases hs0 : s.size = 0
    · have i0 : ¬ (0 : Int) < (s.size : Int) := by omega
      clear hc1 hg1
      rcases hk2 with rfl | rfl
      · go_wp2
        go_ret
        exact HF.out
      · go_wp2
        go_ret
        exact HF.out
    · have i0 : (0 : Int) < (s.size : Int) := by omega
      have HB : Hid (Calls Tryd.prog 31 #[.pointer (some ⟨g, 0, none⟩), .int .i64 s.size] w1 fun e w' => ∃ x : Nat, x < s.size ∧ e = .returned (.int .i64 x) ∧ Cur B w0 w' g v ∧ w1.grownBy w' (some g)) := l01Below_in B w0 _ g v s.size s.size rfl hc1 (by omega) (by omega)
      clear hc1
      rcases hk2 with rfl | rfl
      all_goals
        clear HF
        go_wp2_with fail
        refine HB.out.mono ?_
        rintro e w2 ⟨j, hj, rfl, hc2, hg2⟩
        have hr := run_front s j j rfl (by omega)
        have hr2 := run_back s ((j : Int) + 1) (j + 1) (by omega) (by omega)
        have HG : Hid (∀ T w3, T.size = 1 → Cur B w0 w3 g v → w2.grownBy w3 (some g) → SpP B w0 w g v s.size (.returned (.string (s.extract 0 j ++ T ++ s.extract (j + 1) s.size))) w3) := fun T w3 hT hc3 hg3 => ⟨_, rfl, by rw [ByteArray.size_append, ByteArray.size_append, ByteArray.size_extract, ByteArray.size_extract]; omega, hc3, (hg1.trans hg2).trans hg3⟩
        clear hg1 hg2
        have HT : Hid (Calls Tryd.prog 50 #[.pointer (some ⟨g, 0, none⟩), .int .i64 1] w2.drew fun e w' => ∃ T : ByteArray, T.size = 1 ∧ e = .returned (.string T) ∧ Cur B w0 w' g v ∧ w2.grownBy w' (some g)) := by
          refine (l01Text_in B w0 _ g v 1 1 rfl (hc2.drn 1) (by omega)).mono ?_
          rintro e w3 ⟨l, hl, rfl, hc3, hg3⟩
          exact ⟨_, by show l.toArray.size = 1; simpa using hl, rfl, hc3, ⟨hg3.os, hg3.tape, hg3.output, hg3.size, hg3.block⟩⟩
        clear hc2
        go_wp2
        refine wp_region_held_drew (S := fun _ => True) (by kernel_rfl) trivial (fun hH => ?_)
        refine wpAnyH_take (i := 0) (v := .string s) rfl (by kernel_rfl) (by kernel_rfl) (by kernel_rfl) (fun _ _ _ h => h) (Or.inl ⟨by rfl, fun w hw => by go_simp⟩) hH ?_
        simp only [Act.put, List.setIfInBounds_toArray, List.set_cons_zero, List.set_cons_succ]
        refine wpAnyH_take (i := 1) (v := .int .i64 (j : Int)) rfl (by kernel_rfl) (by kernel_rfl) (by kernel_rfl) (fun _ _ _ h => h) (Or.inl ⟨by rfl, fun w hw => by go_simp⟩) hH ?_
        simp only [Act.put, List.setIfInBounds_toArray, List.set_cons_zero, List.set_cons_succ]
        refine wpAnyH_take (i := 2) (v := .string (s.extract 0 j)) rfl (by kernel_rfl) (by kernel_rfl) (by kernel_rfl) (fun _ _ _ h => h) (Or.inl ⟨by rfl, fun w hw => by go_simp⟩) hH ?_
        simp only [Act.put, List.setIfInBounds_toArray, List.set_cons_zero, List.set_cons_succ]
        refine wpAnyH_take (i := 3) (v := .pointer (some ⟨g, 0, none⟩)) rfl (by kernel_rfl) (by kernel_rfl) (by kernel_rfl) (fun _ _ _ h => h) (Or.inl ⟨by rfl, fun w hw => by go_simp⟩) hH ?_
        simp only [Act.put, List.setIfInBounds_toArray, List.set_cons_zero, List.set_cons_succ]
        refine wpAnyH_take (i := 6) (v := .string s) rfl (by kernel_rfl) (by kernel_rfl) (by kernel_rfl) (fun _ _ _ h => h) (Or.inl ⟨by rfl, fun w hw => by go_simp⟩) hH ?_
        simp only [Act.put, List.setIfInBounds_toArray, List.set_cons_zero, List.set_cons_succ]
        refine wpAnyH_take (i := 7) (v := .int .i64 (j : Int)) rfl (by kernel_rfl) (by kernel_rfl) (by kernel_rfl) (fun _ _ _ h => h) (Or.inl ⟨by rfl, fun w hw => by go_simp⟩) hH ?_
        simp only [Act.put, List.setIfInBounds_toArray, List.set_cons_zero, List.set_cons_succ]
        refine wpAnyH_take (i := 8) (v := .int .i64 ((j : Int) + 1)) rfl (by kernel_rfl) (by kernel_rfl) (by kernel_rfl) (fun _ _ _ h => h) (Or.inl ⟨by rfl, fun w hw => by go_simp; exact IntWalk.i64_in _ (by omega)⟩) hH ?_
        simp only [Act.put, List.setIfInBounds_toArray, List.set_cons_zero, List.set_cons_succ]
        refine wpAnyH_take (i := 9) (v := .string (s.extract (j + 1) s.size)) rfl (by kernel_rfl) (by kernel_rfl) (by kernel_rfl) (fun _ _ _ h => h) (Or.inl ⟨by rfl, fun w hw => by go_simp⟩) hH ?_
        simp only [Act.put, List.setIfInBounds_toArray, List.set_cons_zero, List.set_cons_succ]
        refine wpAnyH_ready (rs := [4]) (by kernel_rfl) (by simp) ?_
        refine AllReadyH.cons rfl (fun K' hK' => ?_) AllReadyH.nil
        go_simp
        go_at_call 50
        refine HT.out.mono ?_
        rintro e w3 ⟨T, hT, rfl, hc3, hg3⟩
        go_wp2_with fail
        refine hK'.out _ _ trivial (fun hH => ?_)
        clear hK' K'
        try simp only [Act.put, List.setIfInBounds_toArray, List.set_cons_zero, List.set_cons_succ]
        have HG2 := HG.out T w3 hT hc3 hg3
        clear HG HT hc3 hg3
        refine wpAnyH_take (i := 5) (v := .string (s.extract 0 j ++ T)) rfl (by kernel_rfl) (by kernel_rfl) (by kernel_rfl) (fun _ _ _ h => h) (Or.inl ⟨by rfl, fun w hw => by go_simp; omega⟩) hH ?_
        simp only [Act.put, List.setIfInBounds_toArray, List.set_cons_zero, List.set_cons_succ]
        refine wpAnyH_take (i := 10) (v := .string (s.extract 0 j ++ T ++ s.extract (j + 1) s.size)) rfl (by kernel_rfl) (by kernel_rfl) (by kernel_rfl) (fun _ _ _ h => h) (Or.inl ⟨by rfl, fun w hw => by go_simp; omega⟩) hH ?_
        simp only [Act.put, List.setIfInBounds_toArray, List.set_cons_zero, List.set_cons_succ]
        refine wpAnyH_ready (rs := [11]) (by kernel_rfl) (by simp) ?_
        refine AllReadyH.cons rfl (fun K' hK' => ?_) AllReadyH.nil
        go_simp
        refine hK'.out _ _ trivial (fun hH => ?_)
        clear hK' K'
        try simp only [Act.put, List.setIfInBounds_toArray, List.set_cons_zero, List.set_cons_succ]
        refine wpAnyH_done (by kernel_rfl) ?_ _
        go_wp2_with fail
        go_ret
        exact HG2
  · clear hc1 hg1
    go_wp2
    go_ret
    exact HF.out

end Go.Proofs.YtodibhiinfbhiaaDoor
