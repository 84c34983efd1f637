/-
  Plain facts: what is read as a seal is written as it was; what is written is read back.
-/
import Derived.Test.YtmfoliocibjdnaaDoorXc
import Derived.Test.YtmfoliocibjdnaaDoorHr
import Derived.Test.YtmfoliocibjdnaaDoorSh
import Derived.Test.YtmfoliocibjdnaaDoorSbk
namespace Go.Proofs.YtmfoliocibjdnaaDoor
open Go.RowKit Go.BigFrame Go.Sort
set_option linter.unusedVariables false
set_option linter.unusedSimpArgs false

theorem pieces_all (M : List UInt8) : ∀ n, (List.range n).flatMap (fun i => (M.drop (i * 16)).take 16) = M.take (n * 16)
  | 0 => by simp
  | n + 1 => by
    rw [List.range_succ, List.flatMap_append, pieces_all M n, show (n + 1) * 16 = n * 16 + 16 by omega, List.take_add]
    simp
/-- what is read as a signature is its text -/
theorem rs_text {u : ByteArray} (h : rsOk u = true) : formB (rsA u) (rsO u) (rsS u) (rsD u) = true ∧ sigB (rsA u) (rsO u) (rsS u) (rsD u) = u := by
  have h' := h
  unfold rsOk at h'
  obtain ⟨h1, h2⟩ := of_decide_eq_true h'
  have ea : rsA u = ((b0 u).toNat : Int) := by unfold rsA; rw [h]; rfl
  have eo : rsO u = cutL u 1 8 := by unfold rsO; rw [h]; rfl
  have es : rsS u = cutL u 129 8 := by unfold rsS; rw [h]; rfl
  have ed : rsD u = cutL u 257 4 := by unfold rsD; rw [h]; rfl
  have hf : formB (rsA u) (rsO u) (rsS u) (rsD u) = true := by
    rw [ea, eo, es, ed]
    exact formB_mk ⟨⟨by omega, by omega⟩, ⟨cutL_wide u 1 8 (by omega), cutL_len _ _ _⟩, ⟨cutL_wide u 129 8 (by omega), cutL_len _ _ _⟩, ⟨cutL_wide u 257 4 (by omega), cutL_len _ _ _⟩⟩
  refine ⟨hf, ?_⟩
  unfold sigB
  rw [if_pos hf, ea, eo, es, ed, Int.toNat_natCast]
  have e20 : cutL u 1 8 ++ cutL u 129 8 ++ cutL u 257 4 = cutL u 1 20 := rfl
  rw [e20]
  apply LV.bytes_eq
  show (kyL (b0 u).toNat (cutL u 1 20)).toArray.toList = _
  rw [List.toList_toArray]
  unfold kyL
  have hl : u.data.toList.length = 321 := by rw [Array.length_toList]; exact h1
  have et : (cutL u 1 20).flatMap (fun p => p.data.toList) = u.data.toList.drop 1 := by
    have e1 : (cutL u 1 20).flatMap (fun p => p.data.toList) = (List.range 20).flatMap (fun i => ((u.data.toList.drop 1).drop (i * 16)).take 16) := by
      unfold cutL
      rw [List.flatMap_map]
      congr 1
      funext i
      rw [ext_list, List.drop_drop, show 1 + (i + 1) * 16 - (1 + i * 16) = 16 by omega]
    rw [e1, pieces_all, List.take_of_length_le (by rw [List.length_drop, hl]; omega)]
  rw [et]
  have eb : UInt8.ofNat (b0 u).toNat = b0 u := by simp
  rw [eb]
  unfold b0
  match hu : u.data.toList, hl with
  | a :: r, _ => rfl

/-- a text whose head is a short text is that and the rest -/
theorem short_rest {t X : ByteArray} {q : Nat} (h : LV.shortAt t 0 = some (X, q)) : q ≤ t.size ∧ (⟨(M.varL X.size).toArray⟩ ++ X ++ t.extract q t.size : ByteArray) = t := by
  obtain ⟨h0, hq, he⟩ := LV.shortAt_some (Nat.zero_le _) h
  refine ⟨hq, ?_⟩
  apply LV.bytes_eq
  have hl : t.data.toList.length = t.size := LV.toList_len t
  have e1 : (⟨(M.varL X.size).toArray⟩ ++ X ++ t.extract q t.size : ByteArray).data.toList = (M.varL X.size ++ X.data.toList) ++ (t.extract q t.size).data.toList := by simp
  rw [e1, ← he, LV.extract_cut, LV.cutL_join _ 0 q t.size (by omega) hq]
  unfold LV.cutL
  rw [List.drop_zero, List.take_of_length_le (by omega)]

def rlOk (t : ByteArray) : Bool := match LV.shortAt t 0 with
  | none => false
  | some (x, q) => HV.rdOk x && rsOk (t.extract q t.size)
def rlX (t : ByteArray) : ByteArray := match LV.shortAt t 0 with
  | none => ⟨#[]⟩
  | some (x, _) => x
def rlR (t : ByteArray) : ByteArray := match LV.shortAt t 0 with
  | none => ⟨#[]⟩
  | some (_, q) => t.extract q t.size
/-- what is read of a text as a seal -/
def rlH (t : ByteArray) : Hd := if rlOk t = true then HV.rdA (rlX t) else ⟨0, 0, ⟨#[]⟩, ⟨#[]⟩⟩
def rlA (t : ByteArray) : Int := if rlOk t = true then rsA (rlR t) else 0
def rlO (t : ByteArray) : List ByteArray := if rlOk t = true then rsO (rlR t) else []
def rlS (t : ByteArray) : List ByteArray := if rlOk t = true then rsS (rlR t) else []
def rlD (t : ByteArray) : List ByteArray := if rlOk t = true then rsD (rlR t) else []
/-- a seal whose lists are new, each with memory of its own -/
def SealIn (w : World) (B : Nat) (v : Value) (x : Hd) (a : Int) (o s d : List ByteArray) : Prop :=
  ∃ v1 v2 v3, v = .agg #[.int .i64 x.h, .int .i64 x.e, .string x.r, .string x.p, .int .i64 a, v1, v2, v3] ∧ SigIn w B (.agg #[.int .i64 a, v1, v2, v3]) a o s d
/-- what ReadSeal answers -/
def RlsP (t : ByteArray) (w : World) (e : Ending) (w' : World) : Prop := ∃ v, e = .returned (.tuple #[v, .bool (rlOk t)]) ∧ SealIn w' w.heap.size v (rlH t) (rlA t) (rlO t) (rlS t) (rlD t) ∧ Below w.heap.size w w'
theorem RlsP.no {t : ByteArray} {w w' : World} (h : rlOk t = false) (hb : Below w.heap.size w w') : RlsP t w (.returned (.tuple #[.agg #[.int .i64 0, .int .i64 0, .string ⟨#[]⟩, .string ⟨#[]⟩, .int .i64 0, .slice none 0 0, .slice none 0 0, .slice none 0 0], .bool false])) w' := by
  unfold RlsP rlH rlA rlO rlS rlD
  rw [h]
  exact ⟨_, rfl, ⟨_, _, _, rfl, SigIn.zero _ _⟩, hb⟩
theorem RlsP.yes {t : ByteArray} {w w' : World} {v : Value} (h : rlOk t = true) (hv : SealIn w' w.heap.size v (HV.rdA (rlX t)) (rsA (rlR t)) (rsO (rlR t)) (rsS (rlR t)) (rsD (rlR t))) (hb : Below w.heap.size w w') : RlsP t w (.returned (.tuple #[v, .bool true])) w' := by
  unfold RlsP rlH rlA rlO rlS rlD
  rw [h]
  exact ⟨_, rfl, hv, hb⟩
theorem rl_none {t : ByteArray} (h : LV.shortAt t 0 = none) : rlOk t = false := by unfold rlOk; rw [h]
theorem rl_some {t X : ByteArray} {q : Nat} (h : LV.shortAt t 0 = some (X, q)) : rlOk t = (HV.rdOk X && rsOk (t.extract q t.size)) ∧ rlX t = X ∧ rlR t = t.extract q t.size := by
  unfold rlOk rlX rlR
  rw [h]
  exact ⟨rfl, rfl, rfl⟩
theorem rd_ok {X : ByteArray} (h : HV.rdOk X = true) : HV.okH (HV.rdA X) = true ∧ HV.txtH (HV.rdA X) = X := by
  have h1 := HV.rd_text h
  have hk : HV.okH (HV.rdA X) = true := by
    have h' := h
    unfold HV.rdOk at h'
    rw [Bool.and_eq_true] at h'
    unfold HV.rdA
    rw [if_pos h]
    exact h'.2
  unfold HV.textH at h1
  rw [if_pos hk] at h1
  exact ⟨hk, h1⟩
/-- what is read as a seal is its text -/
theorem rl_text {t : ByteArray} (h : rlOk t = true) : slOk (rlH t) (rlA t) (rlO t) (rlS t) (rlD t) = true ∧ slB (rlH t) (rlA t) (rlO t) (rlS t) (rlD t) = t := by
  cases hs : LV.shortAt t 0 with
  | none => rw [rl_none hs] at h; cases h
  | some y =>
    obtain ⟨X, q⟩ := y
    obtain ⟨e1, e2, e3⟩ := rl_some hs
    have h' := h
    rw [e1, Bool.and_eq_true] at h'
    obtain ⟨k1, k2⟩ := rd_ok h'.1
    obtain ⟨f1, f2⟩ := rs_text h'.2
    unfold rlH rlA rlO rlS rlD
    simp only [h, if_true, e2, e3]
    have hk : slOk (HV.rdA X) (rsA (t.extract q t.size)) (rsO (t.extract q t.size)) (rsS (t.extract q t.size)) (rsD (t.extract q t.size)) = true := by
      unfold slOk
      rw [k1, f1]
      rfl
    refine ⟨hk, ?_⟩
    unfold slB
    rw [if_pos hk, k2, f2]
    exact (short_rest hs).2
/-- what is written as a seal is read back -/
theorem rl_back {x : Hd} {a : Int} {o s d : List ByteArray} (h : slOk x a o s d = true) : rlOk (slB x a o s d) = true ∧ rlH (slB x a o s d) = x ∧ rlA (slB x a o s d) = a ∧ rlO (slB x a o s d) = o ∧ rlS (slB x a o s d) = s ∧ rlD (slB x a o s d) = d := by
  have h' := h
  unfold slOk at h'
  rw [Bool.and_eq_true] at h'
  obtain ⟨hk, hf⟩ := h'
  obtain ⟨hA, ⟨wo, lo⟩, ⟨ws, ls⟩, wd, ld⟩ := formB_parts hf
  obtain ⟨n, rfl⟩ := Int.eq_ofNat_of_zero_le hA.1
  have hz := txtH_small hk
  have h16 : ∀ p ∈ o ++ s ++ d, p.size = 16 := by
    intro p hp
    have hw := kwB_append (kwB_append wo ws) wd
    obtain ⟨j, hj, rfl⟩ := List.getElem_of_mem hp
    exact kwB_at hw j hj
  obtain ⟨b1, b2, b3, b4, b5⟩ := sig_back n o s d (by omega) lo ls ld h16
  have esig : sigB (n : Int) o s d = kyB n (o ++ s ++ d) := by unfold sigB; rw [if_pos hf, Int.toNat_natCast]
  obtain ⟨r1, r2⟩ := HV.rd_back hk
  have et : slB x (n : Int) o s d = ⟨(M.varL (HV.txtH x).size).toArray⟩ ++ HV.txtH x ++ kyB n (o ++ s ++ d) := by
    unfold slB
    rw [if_pos h, esig]
  have hs := LV.shortAt_back (slB x (n : Int) o s d) (HV.txtH x) [] (kyB n (o ++ s ++ d)).data.toList (by omega) (by rw [et]; simp)
  simp only [List.length_nil, Nat.zero_add] at hs
  have hrest : (slB x (n : Int) o s d).extract (M.varL (HV.txtH x).size ++ (HV.txtH x).data.toList).length (slB x (n : Int) o s d).size = kyB n (o ++ s ++ d) := by
    apply LV.bytes_eq
    rw [LV.extract_cut]
    unfold LV.cutL
    have e1 : (slB x (n : Int) o s d).data.toList = (M.varL (HV.txtH x).size ++ (HV.txtH x).data.toList) ++ (kyB n (o ++ s ++ d)).data.toList := by rw [et]; simp
    have e2 := LV.toList_len (slB x (n : Int) o s d)
    rw [e1] at e2
    rw [e1, List.drop_left, List.take_of_length_le]
    rw [List.length_append] at e2
    omega
  obtain ⟨e1, e2, e3⟩ := rl_some hs
  rw [hrest] at e1 e3
  have hok : rlOk (slB x (n : Int) o s d) = true := by rw [e1, r1, b1]; rfl
  unfold rlH rlA rlO rlS rlD
  simp only [hok, if_true, e2, e3]
  exact ⟨trivial, r2, b2, b3, b4, b5⟩

end Go.Proofs.YtmfoliocibjdnaaDoor
