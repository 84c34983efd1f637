/-
  Texts laid together: Sh, Sbk, Xe.
-/
import Derived.Test.YtaejeemjndmjcaaDoorPkS21
import Derived.Test.YtaejeemjndmjcaaDoorPkS4
import Derived.Test.YtaejeemjndmjcaaDoorPkS2
import Derived.Test.YtaejeemjndmjcaaDoorPkS16
import Derived.Test.YtaejeemjndmjcaaDoorPkS17
import Derived.Test.YtaejeemjndmjcaaDoorPkS18
/-
  A short text read from a place of a text: plain facts, the program's ReadShort, the specification's reader.
-/
namespace Go.Proofs.YtaejeemjndmjcaaDoor
open Go.RowKit Go.BigFrame Go.Sort
set_option linter.unusedVariables false
set_option linter.unusedSimpArgs false

namespace LV
def shortAt (s : ByteArray) (p : Nat) : Option (ByteArray × Nat) :=
  match M.readVar s.data.toList p with
  | none => none
  | some (n, q) => if n ≤ 20000 ∧ q + n ≤ s.size then some (piece s q n, q + n) else none
theorem shortAt_some {s : ByteArray} {p q : Nat} {t : ByteArray} (hp : p ≤ s.size) (h : shortAt s p = some (t, q)) : p < q ∧ q ≤ s.size ∧ cutL s.data.toList p q = M.varL t.size ++ t.data.toList := by
  unfold shortAt at h
  cases hv : M.readVar s.data.toList p with
  | none => rw [hv] at h; simp at h
  | some x =>
    obtain ⟨n, b⟩ := x
    rw [hv] at h
    simp only at h
    split at h
    · rename_i hc
      simp only [Option.some.injEq, Prod.mk.injEq] at h
      obtain ⟨rfl, rfl⟩ := h
      have h1 := read_past _ _ _ _ hv
      refine ⟨by omega, hc.2, ?_⟩
      rw [piece_len s b n hc.2, ← read_canon hp hv]
      unfold piece
      rw [extract_cut, cutL_join _ p b (b + n) (by omega) (by omega)]
    · simp at h
theorem shortAt_none {s : ByteArray} {p : Nat} (h : M.readVar s.data.toList p = none) : shortAt s p = none := by unfold shortAt; rw [h]
theorem shortAt_no {s : ByteArray} {p n q : Nat} (h : M.readVar s.data.toList p = some (n, q)) (hn : ¬ (n ≤ 20000 ∧ q + n ≤ s.size)) : shortAt s p = none := by
  unfold shortAt
  rw [h]
  exact if_neg hn
theorem shortAt_yes {s : ByteArray} {p n q : Nat} (h : M.readVar s.data.toList p = some (n, q)) (hn : n ≤ 20000 ∧ q + n ≤ s.size) : shortAt s p = some (piece s q n, q + n) := by
  unfold shortAt
  rw [h]
  exact if_pos hn
theorem shortAt_size {s : ByteArray} {p q : Nat} {t : ByteArray} (h : shortAt s p = some (t, q)) : t.size ≤ s.size := by
  unfold shortAt at h
  cases hv : M.readVar s.data.toList p with
  | none => rw [hv] at h; simp at h
  | some x =>
    obtain ⟨n, b⟩ := x
    rw [hv] at h
    simp only at h
    split at h
    · simp only [Option.some.injEq, Prod.mk.injEq] at h
      rw [← h.1]
      exact piece_size s b n
    · simp at h
theorem toList_len (s : ByteArray) : s.data.toList.length = s.size := Array.length_toList
theorem bytes_eq {a b : ByteArray} (h : a.data.toList = b.data.toList) : a = b := ByteArray.ext (Array.toList_inj.1 h)
theorem shortAt_back (s t : ByteArray) (pre post : List UInt8) (ht : t.size ≤ 20000) (h : s.data.toList = pre ++ ((M.varL t.size ++ t.data.toList) ++ post)) : shortAt s pre.length = some (t, pre.length + (M.varL t.size ++ t.data.toList).length) := by
  have hr : M.readVar s.data.toList pre.length = some (t.size, pre.length + (M.varL t.size).length) := by
    rw [h, List.append_assoc]
    exact readVar_back pre _ t.size (by omega)
  have hsz := toList_len s
  have htl := toList_len t
  have hl : s.size = pre.length + (M.varL t.size).length + t.size + post.length := by
    rw [← hsz, h]
    simp only [List.length_append]
    omega
  rw [shortAt_yes hr ⟨ht, by omega⟩]
  have hp : piece s (pre.length + (M.varL t.size).length) t.size = t := by
    apply bytes_eq
    unfold piece
    rw [extract_cut, h]
    unfold cutL
    have e1 : (pre ++ ((M.varL t.size ++ t.data.toList) ++ post)).drop (pre.length + (M.varL t.size).length) = t.data.toList ++ post := by
      rw [← List.append_assoc, ← List.append_assoc, List.append_assoc (pre ++ M.varL t.size)]
      rw [← List.length_append]
      exact List.drop_left
    rw [e1]
    have e2 : pre.length + (M.varL t.size).length + t.size - (pre.length + (M.varL t.size).length) = t.data.toList.length := by omega
    rw [e2]
    exact List.take_left
  rw [hp]
  congr 2
  simp only [List.length_append]
  omega
end LV

/-- a short text that is read, or why not -/
theorem ReadShort_at (s : ByteArray) (x : Int) (p : Nat) (w : World) (hx : x = (p : Int)) (hs : s.size ≤ 1048576) (hp : p ≤ s.size) :
    Calls Tryd.prog 34 #[.string s, .int .i64 x] w fun e w' => (match LV.shortAt s p with
      | none => e = .returned (.tuple #[.string ⟨#[]⟩, .int .i64 0, .bool false])
      | some (t, q) => e = .returned (.tuple #[.string t, .int .i64 (q : Int), .bool true])) ∧ Below w.heap.size w w' := by
  subst hx
  cases hr : M.readVar s.data.toList p with
  | none =>
    rw [LV.shortAt_none hr]
    exact ReadShort_none s p w hs (.inr ⟨by omega, by simpa using hr⟩)
  | some y =>
    obtain ⟨n, q⟩ := y
    obtain ⟨hq, hN⟩ := read_bound s p n q hr
    by_cases hn : n ≤ 20000 ∧ q + n ≤ s.size
    · rw [LV.shortAt_yes hr hn]
      have h := ReadShort_yes s p n q w hs (show 0 ≤ (p : Int) ∧ (p : Int) ≤ (s.size : Int) from by omega) (show M.readVar s.data.toList (p : Int).toNat = some (n, q) from by simpa using hr) hn.1 hn.2
      have e : ((q + n : Nat) : Int) = (q : Int) + (n : Int) := by omega
      simp only [e]
      exact h
    · rw [LV.shortAt_no hr hn]
      exact ReadShort_no s p n q w hs (show 0 ≤ (p : Int) ∧ (p : Int) ≤ (s.size : Int) from by omega) (show M.readVar s.data.toList (p : Int).toNat = some (n, q) from by simpa using hr) hq hN hn

/-! the specification's reader -/
section
variable {W W' : World} {c p : Nat} {s : ByteArray} {b : Bool}
end

end Go.Proofs.YtaejeemjndmjcaaDoor
/-
  Plain facts: what is written as a signature is read back.
-/
namespace Go.Proofs.YtaejeemjndmjcaaDoor
set_option linter.unusedVariables false

theorem pieces {f : ByteArray → List UInt8} : ∀ (L : List ByteArray) (i : Nat) (h : i < L.length), (∀ p ∈ L, (f p).length = 16) → ((L.flatMap f).drop (i * 16)).take 16 = f L[i]
  | [], i, h, _ => absurd h (by simp)
  | p :: t, 0, h, hl => by
    have := hl p (by simp)
    rw [List.flatMap_cons, Nat.zero_mul, List.drop_zero, List.take_append_of_le_length (by omega), List.take_of_length_le (by omega)]
    rfl
  | p :: t, i + 1, h, hl => by
    have h1 := hl p (by simp)
    have e : (i + 1) * 16 = (f p).length + i * 16 := by omega
    rw [List.flatMap_cons, e, List.drop_append, List.drop_of_length_le (by omega), List.nil_append, Nat.add_sub_cancel_left, pieces t i (by simpa using h) (fun q hq => hl q (by simp [hq]))]
    rfl
theorem flat16 {f : ByteArray → List UInt8} : ∀ (L : List ByteArray), (∀ p ∈ L, (f p).length = 16) → (L.flatMap f).length = L.length * 16
  | [], _ => rfl
  | p :: t, hl => by
    rw [List.flatMap_cons, List.length_append, hl p (by simp), flat16 t (fun q hq => hl q (by simp [hq])), List.length_cons]
    omega
theorem ext_list (t : ByteArray) (i j : Nat) : (t.extract i j).data.toList = (t.data.toList.drop i).take (j - i) := by
  rw [ByteArray.data_extract, Array.toList_extract]
theorem kyB_piece (a : Nat) (L : List ByteArray) (i : Nat) (h : i < L.length) (hl : ∀ p ∈ L, p.size = 16) : (kyB a L).extract (1 + i * 16) (1 + (i + 1) * 16) = L[i] := by
  have hl' : ∀ p ∈ L, (p.data.toList).length = 16 := hl
  have h1 : ((kyB a L).extract (1 + i * 16) (1 + (i + 1) * 16)).data.toList = L[i].data.toList := by
    rw [ext_list, show 1 + (i + 1) * 16 - (1 + i * 16) = 16 by omega]
    have e : (kyB a L).data.toList = UInt8.ofNat a :: L.flatMap (fun p => p.data.toList) := by simp [kyB, kyL]
    rw [e, show 1 + i * 16 = i * 16 + 1 by omega, List.drop_succ_cons]
    exact pieces L i h hl'
  generalize (kyB a L).extract (1 + i * 16) (1 + (i + 1) * 16) = x at *
  generalize L[i] = y at *
  cases x
  cases y
  congr
  exact Array.toList_inj.1 h1
theorem kyB_16 (a : Nat) (L : List ByteArray) (hl : ∀ p ∈ L, p.size = 16) : (kyB a L).size = 1 + L.length * 16 := by
  show (kyL a L).toArray.size = _
  rw [List.size_toArray]
  unfold kyL
  rw [List.length_cons, flat16 L hl]
  omega
theorem kyB_cut (a : Nat) (A M Z : List ByteArray) (hl : ∀ p ∈ A ++ M ++ Z, p.size = 16) : cutL (kyB a (A ++ M ++ Z)) (1 + A.length * 16) M.length = M := by
  refine List.ext_getElem (by simp [cutL]) ?_
  intro i h1 h2
  have hi : A.length + i < (A ++ M ++ Z).length := by simp; omega
  have := kyB_piece a (A ++ M ++ Z) (A.length + i) hi hl
  have e : (A ++ M ++ Z)[A.length + i] = M[i] := by
    rw [List.getElem_append_left (by simp; omega), List.getElem_append_right (by omega)]
    simp
  rw [e] at this
  simp only [cutL, List.getElem_map, List.getElem_range]
  rw [show 1 + A.length * 16 + i * 16 = 1 + (A.length + i) * 16 by omega, show 1 + A.length * 16 + (i + 1) * 16 = 1 + (A.length + i + 1) * 16 by omega]
  exact this
/-- what is written as a signature is read back -/
theorem sig_back (a : Nat) (o s d : List ByteArray) (ha : a ≤ 15) (ho : o.length = 8) (hs : s.length = 8) (hd : d.length = 4) (hl : ∀ p ∈ o ++ s ++ d, p.size = 16) :
    rsOk (kyB a (o ++ s ++ d)) = true ∧ rsA (kyB a (o ++ s ++ d)) = (a : Int) ∧ rsO (kyB a (o ++ s ++ d)) = o ∧ rsS (kyB a (o ++ s ++ d)) = s ∧ rsD (kyB a (o ++ s ++ d)) = d := by
  have hz := kyB_16 a (o ++ s ++ d) hl
  have hb : (b0 (kyB a (o ++ s ++ d))).toNat = a := by
    have : b0 (kyB a (o ++ s ++ d)) = UInt8.ofNat a := by simp [b0, kyB, kyL]
    rw [this]
    simp
    omega
  have hok : rsOk (kyB a (o ++ s ++ d)) = true := by
    unfold rsOk
    rw [hb, hz]
    simp [ho, hs, hd, ha]
  have c1 := kyB_cut a [] o (s ++ d) (by simpa using hl)
  have c2 := kyB_cut a o s d hl
  have c3 := kyB_cut a (o ++ s) d [] (by simpa using hl)
  simp only [List.nil_append, List.length_nil, Nat.zero_mul, ho, hs, hd, List.length_append, List.append_nil, ← List.append_assoc] at c1 c2 c3
  refine ⟨hok, ?_, ?_, ?_, ?_⟩
  · unfold rsA; rw [hok, hb]; rfl
  · unfold rsO; rw [hok]; exact c1
  · unfold rsS; rw [hok]; exact c2
  · unfold rsD; rw [hok]; exact c3

end Go.Proofs.YtaejeemjndmjcaaDoor
/-
  Plain facts: what is read as a seal is written as it was; what is written is read back.
-/
namespace Go.Proofs.YtaejeemjndmjcaaDoor
open Go.RowKit Go.BigFrame Go.Sort
set_option linter.unusedVariables false
set_option linter.unusedSimpArgs false

theorem pieces_all (M : List UInt8) : ∀ n, (List.range n).flatMap (fun i => (M.drop (i * 16)).take 16) = M.take (n * 16)
  | 0 => by simp
  | n + 1 => by
    rw [List.range_succ, List.flatMap_append, pieces_all M n, show (n + 1) * 16 = n * 16 + 16 by omega, List.take_add]
    simp
/-- what is read as a signature is its text -/
theorem rs_text {u : ByteArray} (h : rsOk u = true) : formB (rsA u) (rsO u) (rsS u) (rsD u) = true ∧ sigB (rsA u) (rsO u) (rsS u) (rsD u) = u := by
  have h' := h
  unfold rsOk at h'
  obtain ⟨h1, h2⟩ := of_decide_eq_true h'
  have ea : rsA u = ((b0 u).toNat : Int) := by unfold rsA; rw [h]; rfl
  have eo : rsO u = cutL u 1 8 := by unfold rsO; rw [h]; rfl
  have es : rsS u = cutL u 129 8 := by unfold rsS; rw [h]; rfl
  have ed : rsD u = cutL u 257 4 := by unfold rsD; rw [h]; rfl
  have hf : formB (rsA u) (rsO u) (rsS u) (rsD u) = true := by
    rw [ea, eo, es, ed]
    exact formB_mk ⟨⟨by omega, by omega⟩, ⟨cutL_wide u 1 8 (by omega), cutL_len _ _ _⟩, ⟨cutL_wide u 129 8 (by omega), cutL_len _ _ _⟩, ⟨cutL_wide u 257 4 (by omega), cutL_len _ _ _⟩⟩
  refine ⟨hf, ?_⟩
  unfold sigB
  rw [if_pos hf, ea, eo, es, ed, Int.toNat_natCast]
  have e20 : cutL u 1 8 ++ cutL u 129 8 ++ cutL u 257 4 = cutL u 1 20 := rfl
  rw [e20]
  apply LV.bytes_eq
  show (kyL (b0 u).toNat (cutL u 1 20)).toArray.toList = _
  rw [List.toList_toArray]
  unfold kyL
  have hl : u.data.toList.length = 321 := by rw [Array.length_toList]; exact h1
  have et : (cutL u 1 20).flatMap (fun p => p.data.toList) = u.data.toList.drop 1 := by
    have e1 : (cutL u 1 20).flatMap (fun p => p.data.toList) = (List.range 20).flatMap (fun i => ((u.data.toList.drop 1).drop (i * 16)).take 16) := by
      unfold cutL
      rw [List.flatMap_map]
      congr 1
      funext i
      rw [ext_list, List.drop_drop, show 1 + (i + 1) * 16 - (1 + i * 16) = 16 by omega]
    rw [e1, pieces_all, List.take_of_length_le (by rw [List.length_drop, hl]; omega)]
  rw [et]
  have eb : UInt8.ofNat (b0 u).toNat = b0 u := by simp
  rw [eb]
  unfold b0
  match hu : u.data.toList, hl with
  | a :: r, _ => rfl

/-- a text whose head is a short text is that and the rest -/
theorem short_rest {t X : ByteArray} {q : Nat} (h : LV.shortAt t 0 = some (X, q)) : q ≤ t.size ∧ (⟨(M.varL X.size).toArray⟩ ++ X ++ t.extract q t.size : ByteArray) = t := by
  obtain ⟨h0, hq, he⟩ := LV.shortAt_some (Nat.zero_le _) h
  refine ⟨hq, ?_⟩
  apply LV.bytes_eq
  have hl : t.data.toList.length = t.size := LV.toList_len t
  have e1 : (⟨(M.varL X.size).toArray⟩ ++ X ++ t.extract q t.size : ByteArray).data.toList = (M.varL X.size ++ X.data.toList) ++ (t.extract q t.size).data.toList := by simp
  rw [e1, ← he, LV.extract_cut, LV.cutL_join _ 0 q t.size (by omega) hq]
  unfold LV.cutL
  rw [List.drop_zero, List.take_of_length_le (by omega)]

def rlOk (t : ByteArray) : Bool := match LV.shortAt t 0 with
  | none => false
  | some (x, q) => HV.rdOk x && rsOk (t.extract q t.size)
def rlX (t : ByteArray) : ByteArray := match LV.shortAt t 0 with
  | none => ⟨#[]⟩
  | some (x, _) => x
def rlR (t : ByteArray) : ByteArray := match LV.shortAt t 0 with
  | none => ⟨#[]⟩
  | some (_, q) => t.extract q t.size
/-- what is read of a text as a seal -/
def rlH (t : ByteArray) : Hd := if rlOk t = true then HV.rdA (rlX t) else ⟨0, 0, ⟨#[]⟩, ⟨#[]⟩⟩
def rlA (t : ByteArray) : Int := if rlOk t = true then rsA (rlR t) else 0
def rlO (t : ByteArray) : List ByteArray := if rlOk t = true then rsO (rlR t) else []
def rlS (t : ByteArray) : List ByteArray := if rlOk t = true then rsS (rlR t) else []
def rlD (t : ByteArray) : List ByteArray := if rlOk t = true then rsD (rlR t) else []
/-- a seal whose lists are new, each with memory of its own -/
def SealIn (w : World) (B : Nat) (v : Value) (x : Hd) (a : Int) (o s d : List ByteArray) : Prop :=
  ∃ v1 v2 v3, v = .agg #[.int .i64 x.h, .int .i64 x.e, .string x.r, .string x.p, .int .i64 a, v1, v2, v3] ∧ SigIn w B (.agg #[.int .i64 a, v1, v2, v3]) a o s d
/-- what ReadSeal answers -/
def RlsP (t : ByteArray) (w : World) (e : Ending) (w' : World) : Prop := ∃ v, e = .returned (.tuple #[v, .bool (rlOk t)]) ∧ SealIn w' w.heap.size v (rlH t) (rlA t) (rlO t) (rlS t) (rlD t) ∧ Below w.heap.size w w'
theorem RlsP.no {t : ByteArray} {w w' : World} (h : rlOk t = false) (hb : Below w.heap.size w w') : RlsP t w (.returned (.tuple #[.agg #[.int .i64 0, .int .i64 0, .string ⟨#[]⟩, .string ⟨#[]⟩, .int .i64 0, .slice none 0 0, .slice none 0 0, .slice none 0 0], .bool false])) w' := by
  unfold RlsP rlH rlA rlO rlS rlD
  rw [h]
  exact ⟨_, rfl, ⟨_, _, _, rfl, SigIn.zero _ _⟩, hb⟩
theorem RlsP.yes {t : ByteArray} {w w' : World} {v : Value} (h : rlOk t = true) (hv : SealIn w' w.heap.size v (HV.rdA (rlX t)) (rsA (rlR t)) (rsO (rlR t)) (rsS (rlR t)) (rsD (rlR t))) (hb : Below w.heap.size w w') : RlsP t w (.returned (.tuple #[v, .bool true])) w' := by
  unfold RlsP rlH rlA rlO rlS rlD
  rw [h]
  exact ⟨_, rfl, hv, hb⟩
theorem rl_none {t : ByteArray} (h : LV.shortAt t 0 = none) : rlOk t = false := by unfold rlOk; rw [h]
theorem rl_some {t X : ByteArray} {q : Nat} (h : LV.shortAt t 0 = some (X, q)) : rlOk t = (HV.rdOk X && rsOk (t.extract q t.size)) ∧ rlX t = X ∧ rlR t = t.extract q t.size := by
  unfold rlOk rlX rlR
  rw [h]
  exact ⟨rfl, rfl, rfl⟩
theorem rd_ok {X : ByteArray} (h : HV.rdOk X = true) : HV.okH (HV.rdA X) = true ∧ HV.txtH (HV.rdA X) = X := by
  have h1 := HV.rd_text h
  have hk : HV.okH (HV.rdA X) = true := by
    have h' := h
    unfold HV.rdOk at h'
    rw [Bool.and_eq_true] at h'
    unfold HV.rdA
    rw [if_pos h]
    exact h'.2
  unfold HV.textH at h1
  rw [if_pos hk] at h1
  exact ⟨hk, h1⟩
/-- what is read as a seal is its text -/
theorem rl_text {t : ByteArray} (h : rlOk t = true) : slOk (rlH t) (rlA t) (rlO t) (rlS t) (rlD t) = true ∧ slB (rlH t) (rlA t) (rlO t) (rlS t) (rlD t) = t := by
  cases hs : LV.shortAt t 0 with
  | none => rw [rl_none hs] at h; cases h
  | some y =>
    obtain ⟨X, q⟩ := y
    obtain ⟨e1, e2, e3⟩ := rl_some hs
    have h' := h
    rw [e1, Bool.and_eq_true] at h'
    obtain ⟨k1, k2⟩ := rd_ok h'.1
    obtain ⟨f1, f2⟩ := rs_text h'.2
    unfold rlH rlA rlO rlS rlD
    simp only [h, if_true, e2, e3]
    have hk : slOk (HV.rdA X) (rsA (t.extract q t.size)) (rsO (t.extract q t.size)) (rsS (t.extract q t.size)) (rsD (t.extract q t.size)) = true := by
      unfold slOk
      rw [k1, f1]
      rfl
    refine ⟨hk, ?_⟩
    unfold slB
    rw [if_pos hk, k2, f2]
    exact (short_rest hs).2
/-- what is written as a seal is read back -/
theorem rl_back {x : Hd} {a : Int} {o s d : List ByteArray} (h : slOk x a o s d = true) : rlOk (slB x a o s d) = true ∧ rlH (slB x a o s d) = x ∧ rlA (slB x a o s d) = a ∧ rlO (slB x a o s d) = o ∧ rlS (slB x a o s d) = s ∧ rlD (slB x a o s d) = d := by
  have h' := h
  unfold slOk at h'
  rw [Bool.and_eq_true] at h'
  obtain ⟨hk, hf⟩ := h'
  obtain ⟨hA, ⟨wo, lo⟩, ⟨ws, ls⟩, wd, ld⟩ := formB_parts hf
  obtain ⟨n, rfl⟩ := Int.eq_ofNat_of_zero_le hA.1
  have hz := txtH_small hk
  have h16 : ∀ p ∈ o ++ s ++ d, p.size = 16 := by
    intro p hp
    have hw := kwB_append (kwB_append wo ws) wd
    obtain ⟨j, hj, rfl⟩ := List.getElem_of_mem hp
    exact kwB_at hw j hj
  obtain ⟨b1, b2, b3, b4, b5⟩ := sig_back n o s d (by omega) lo ls ld h16
  have esig : sigB (n : Int) o s d = kyB n (o ++ s ++ d) := by unfold sigB; rw [if_pos hf, Int.toNat_natCast]
  obtain ⟨r1, r2⟩ := HV.rd_back hk
  have et : slB x (n : Int) o s d = ⟨(M.varL (HV.txtH x).size).toArray⟩ ++ HV.txtH x ++ kyB n (o ++ s ++ d) := by
    unfold slB
    rw [if_pos h, esig]
  have hs := LV.shortAt_back (slB x (n : Int) o s d) (HV.txtH x) [] (kyB n (o ++ s ++ d)).data.toList (by omega) (by rw [et]; simp)
  simp only [List.length_nil, Nat.zero_add] at hs
  have hrest : (slB x (n : Int) o s d).extract (M.varL (HV.txtH x).size ++ (HV.txtH x).data.toList).length (slB x (n : Int) o s d).size = kyB n (o ++ s ++ d) := by
    apply LV.bytes_eq
    rw [LV.extract_cut]
    unfold LV.cutL
    have e1 : (slB x (n : Int) o s d).data.toList = (M.varL (HV.txtH x).size ++ (HV.txtH x).data.toList) ++ (kyB n (o ++ s ++ d)).data.toList := by rw [et]; simp
    have e2 := LV.toList_len (slB x (n : Int) o s d)
    rw [e1] at e2
    rw [e1, List.drop_left, List.take_of_length_le]
    rw [List.length_append] at e2
    omega
  obtain ⟨e1, e2, e3⟩ := rl_some hs
  rw [hrest] at e1 e3
  have hok : rlOk (slB x (n : Int) o s d) = true := by rw [e1, r1, b1]; rfl
  unfold rlH rlA rlO rlS rlD
  simp only [hok, if_true, e2, e3]
  exact ⟨trivial, r2, b2, b3, b4, b5⟩

end Go.Proofs.YtaejeemjndmjcaaDoor
