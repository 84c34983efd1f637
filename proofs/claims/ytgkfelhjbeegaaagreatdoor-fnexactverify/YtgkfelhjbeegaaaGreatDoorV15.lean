/-
  Texts laid together: Xe, Xd, Xg, Wyb.
-/
import Derived.Test.YtgkfelhjbeegaaaGreatDoorV14
import Derived.Test.YtgkfelhjbeegaaaGreatDoorV07
import Derived.Test.YtgkfelhjbeegaaaGreatDoorV11
import Derived.Test.YtgkfelhjbeegaaaGreatDoorV13
import Derived.Deep.CutRange
import Derived.Test.YtgkfelhjbeegaaaGreatDoorV12
import Derived.Test.YtgkfelhjbeegaaaGreatDoorV09
/-
  Plain facts: what is read as a seal is written as it was; what is written is read back.
-/
namespace Go.Proofs.YtgkfelhjbeegaaaGreatDoor
open Go.RowKit Go.BigFrame Go.Sort
set_option linter.unusedVariables false
set_option linter.unusedSimpArgs false

theorem pieces_all (M : List UInt8) : ∀ n, (List.range n).flatMap (fun i => (M.drop (i * 16)).take 16) = M.take (n * 16)
  | 0 => by simp
  | n + 1 => by
    rw [List.range_succ, List.flatMap_append, pieces_all M n, show (n + 1) * 16 = n * 16 + 16 by omega, List.take_add]
    simp
/-- what is read as a signature is its text -/
theorem rs_text {u : ByteArray} (h : rsOk u = true) : formB (rsA u) (rsO u) (rsS u) (rsD u) = true ∧ sigB (rsA u) (rsO u) (rsS u) (rsD u) = u := by
  have h' := h
  unfold rsOk at h'
  obtain ⟨h1, h2⟩ := of_decide_eq_true h'
  have ea : rsA u = ((b0 u).toNat : Int) := by unfold rsA; rw [h]; rfl
  have eo : rsO u = cutL u 1 8 := by unfold rsO; rw [h]; rfl
  have es : rsS u = cutL u 129 8 := by unfold rsS; rw [h]; rfl
  have ed : rsD u = cutL u 257 4 := by unfold rsD; rw [h]; rfl
  have hf : formB (rsA u) (rsO u) (rsS u) (rsD u) = true := by
    rw [ea, eo, es, ed]
    exact formB_mk ⟨⟨by omega, by omega⟩, ⟨cutL_wide u 1 8 (by omega), cutL_len _ _ _⟩, ⟨cutL_wide u 129 8 (by omega), cutL_len _ _ _⟩, ⟨cutL_wide u 257 4 (by omega), cutL_len _ _ _⟩⟩
  refine ⟨hf, ?_⟩
  unfold sigB
  rw [if_pos hf, ea, eo, es, ed, Int.toNat_natCast]
  have e20 : cutL u 1 8 ++ cutL u 129 8 ++ cutL u 257 4 = cutL u 1 20 := rfl
  rw [e20]
  apply LV.bytes_eq
  show (kyL (b0 u).toNat (cutL u 1 20)).toArray.toList = _
  rw [List.toList_toArray]
  unfold kyL
  have hl : u.data.toList.length = 321 := by rw [Array.length_toList]; exact h1
  have et : (cutL u 1 20).flatMap (fun p => p.data.toList) = u.data.toList.drop 1 := by
    have e1 : (cutL u 1 20).flatMap (fun p => p.data.toList) = (List.range 20).flatMap (fun i => ((u.data.toList.drop 1).drop (i * 16)).take 16) := by
      unfold cutL
      rw [List.flatMap_map]
      congr 1
      funext i
      rw [ext_list, List.drop_drop, show 1 + (i + 1) * 16 - (1 + i * 16) = 16 by omega]
    rw [e1, pieces_all, List.take_of_length_le (by rw [List.length_drop, hl]; omega)]
  rw [et]
  have eb : UInt8.ofNat (b0 u).toNat = b0 u := by simp
  rw [eb]
  unfold b0
  match hu : u.data.toList, hl with
  | a :: r, _ => rfl

/-- a text whose head is a short text is that and the rest -/
theorem short_rest {t X : ByteArray} {q : Nat} (h : LV.shortAt t 0 = some (X, q)) : q ≤ t.size ∧ (⟨(M.varL X.size).toArray⟩ ++ X ++ t.extract q t.size : ByteArray) = t := by
  obtain ⟨h0, hq, he⟩ := LV.shortAt_some (Nat.zero_le _) h
  refine ⟨hq, ?_⟩
  apply LV.bytes_eq
  have hl : t.data.toList.length = t.size := LV.toList_len t
  have e1 : (⟨(M.varL X.size).toArray⟩ ++ X ++ t.extract q t.size : ByteArray).data.toList = (M.varL X.size ++ X.data.toList) ++ (t.extract q t.size).data.toList := by simp
  rw [e1, ← he, LV.extract_cut, LV.cutL_join _ 0 q t.size (by omega) hq]
  unfold LV.cutL
  rw [List.drop_zero, List.take_of_length_le (by omega)]

def rlOk (t : ByteArray) : Bool := match LV.shortAt t 0 with
  | none => false
  | some (x, q) => HV.rdOk x && rsOk (t.extract q t.size)
def rlX (t : ByteArray) : ByteArray := match LV.shortAt t 0 with
  | none => ⟨#[]⟩
  | some (x, _) => x
def rlR (t : ByteArray) : ByteArray := match LV.shortAt t 0 with
  | none => ⟨#[]⟩
  | some (_, q) => t.extract q t.size
/-- what is read of a text as a seal -/
def rlH (t : ByteArray) : Hd := if rlOk t = true then HV.rdA (rlX t) else ⟨0, 0, ⟨#[]⟩, ⟨#[]⟩⟩
def rlA (t : ByteArray) : Int := if rlOk t = true then rsA (rlR t) else 0
def rlO (t : ByteArray) : List ByteArray := if rlOk t = true then rsO (rlR t) else []
def rlS (t : ByteArray) : List ByteArray := if rlOk t = true then rsS (rlR t) else []
def rlD (t : ByteArray) : List ByteArray := if rlOk t = true then rsD (rlR t) else []
/-- a seal whose lists are new, each with memory of its own -/
def SealIn (w : World) (B : Nat) (v : Value) (x : Hd) (a : Int) (o s d : List ByteArray) : Prop :=
  ∃ v1 v2 v3, v = .agg #[.int .i64 x.h, .int .i64 x.e, .string x.r, .string x.p, .int .i64 a, v1, v2, v3] ∧ SigIn w B (.agg #[.int .i64 a, v1, v2, v3]) a o s d
/-- what ReadSeal answers -/
def RlsP (t : ByteArray) (w : World) (e : Ending) (w' : World) : Prop := ∃ v, e = .returned (.tuple #[v, .bool (rlOk t)]) ∧ SealIn w' w.heap.size v (rlH t) (rlA t) (rlO t) (rlS t) (rlD t) ∧ Below w.heap.size w w'
theorem RlsP.no {t : ByteArray} {w w' : World} (h : rlOk t = false) (hb : Below w.heap.size w w') : RlsP t w (.returned (.tuple #[.agg #[.int .i64 0, .int .i64 0, .string ⟨#[]⟩, .string ⟨#[]⟩, .int .i64 0, .slice none 0 0, .slice none 0 0, .slice none 0 0], .bool false])) w' := by
  unfold RlsP rlH rlA rlO rlS rlD
  rw [h]
  exact ⟨_, rfl, ⟨_, _, _, rfl, SigIn.zero _ _⟩, hb⟩
theorem RlsP.yes {t : ByteArray} {w w' : World} {v : Value} (h : rlOk t = true) (hv : SealIn w' w.heap.size v (HV.rdA (rlX t)) (rsA (rlR t)) (rsO (rlR t)) (rsS (rlR t)) (rsD (rlR t))) (hb : Below w.heap.size w w') : RlsP t w (.returned (.tuple #[v, .bool true])) w' := by
  unfold RlsP rlH rlA rlO rlS rlD
  rw [h]
  exact ⟨_, rfl, hv, hb⟩
theorem rl_none {t : ByteArray} (h : LV.shortAt t 0 = none) : rlOk t = false := by unfold rlOk; rw [h]
theorem rl_some {t X : ByteArray} {q : Nat} (h : LV.shortAt t 0 = some (X, q)) : rlOk t = (HV.rdOk X && rsOk (t.extract q t.size)) ∧ rlX t = X ∧ rlR t = t.extract q t.size := by
  unfold rlOk rlX rlR
  rw [h]
  exact ⟨rfl, rfl, rfl⟩
theorem rd_ok {X : ByteArray} (h : HV.rdOk X = true) : HV.okH (HV.rdA X) = true ∧ HV.txtH (HV.rdA X) = X := by
  have h1 := HV.rd_text h
  have hk : HV.okH (HV.rdA X) = true := by
    have h' := h
    unfold HV.rdOk at h'
    rw [Bool.and_eq_true] at h'
    unfold HV.rdA
    rw [if_pos h]
    exact h'.2
  unfold HV.textH at h1
  rw [if_pos hk] at h1
  exact ⟨hk, h1⟩
/-- what is read as a seal is its text -/
theorem rl_text {t : ByteArray} (h : rlOk t = true) : slOk (rlH t) (rlA t) (rlO t) (rlS t) (rlD t) = true ∧ slB (rlH t) (rlA t) (rlO t) (rlS t) (rlD t) = t := by
  cases hs : LV.shortAt t 0 with
  | none => rw [rl_none hs] at h; cases h
  | some y =>
    obtain ⟨X, q⟩ := y
    obtain ⟨e1, e2, e3⟩ := rl_some hs
    have h' := h
    rw [e1, Bool.and_eq_true] at h'
    obtain ⟨k1, k2⟩ := rd_ok h'.1
    obtain ⟨f1, f2⟩ := rs_text h'.2
    unfold rlH rlA rlO rlS rlD
    simp only [h, if_true, e2, e3]
    have hk : slOk (HV.rdA X) (rsA (t.extract q t.size)) (rsO (t.extract q t.size)) (rsS (t.extract q t.size)) (rsD (t.extract q t.size)) = true := by
      unfold slOk
      rw [k1, f1]
      rfl
    refine ⟨hk, ?_⟩
    unfold slB
    rw [if_pos hk, k2, f2]
    exact (short_rest hs).2
/-- what is written as a seal is read back -/
theorem rl_back {x : Hd} {a : Int} {o s d : List ByteArray} (h : slOk x a o s d = true) : rlOk (slB x a o s d) = true ∧ rlH (slB x a o s d) = x ∧ rlA (slB x a o s d) = a ∧ rlO (slB x a o s d) = o ∧ rlS (slB x a o s d) = s ∧ rlD (slB x a o s d) = d := by
  have h' := h
  unfold slOk at h'
  rw [Bool.and_eq_true] at h'
  obtain ⟨hk, hf⟩ := h'
  obtain ⟨hA, ⟨wo, lo⟩, ⟨ws, ls⟩, wd, ld⟩ := formB_parts hf
  obtain ⟨n, rfl⟩ := Int.eq_ofNat_of_zero_le hA.1
  have hz := txtH_small hk
  have h16 : ∀ p ∈ o ++ s ++ d, p.size = 16 := by
    intro p hp
    have hw := kwB_append (kwB_append wo ws) wd
    obtain ⟨j, hj, rfl⟩ := List.getElem_of_mem hp
    exact kwB_at hw j hj
  obtain ⟨b1, b2, b3, b4, b5⟩ := sig_back n o s d (by omega) lo ls ld h16
  have esig : sigB (n : Int) o s d = kyB n (o ++ s ++ d) := by unfold sigB; rw [if_pos hf, Int.toNat_natCast]
  obtain ⟨r1, r2⟩ := HV.rd_back hk
  have et : slB x (n : Int) o s d = ⟨(M.varL (HV.txtH x).size).toArray⟩ ++ HV.txtH x ++ kyB n (o ++ s ++ d) := by
    unfold slB
    rw [if_pos h, esig]
  have hs := LV.shortAt_back (slB x (n : Int) o s d) (HV.txtH x) [] (kyB n (o ++ s ++ d)).data.toList (by omega) (by rw [et]; simp)
  simp only [List.length_nil, Nat.zero_add] at hs
  have hrest : (slB x (n : Int) o s d).extract (M.varL (HV.txtH x).size ++ (HV.txtH x).data.toList).length (slB x (n : Int) o s d).size = kyB n (o ++ s ++ d) := by
    apply LV.bytes_eq
    rw [LV.extract_cut]
    unfold LV.cutL
    have e1 : (slB x (n : Int) o s d).data.toList = (M.varL (HV.txtH x).size ++ (HV.txtH x).data.toList) ++ (kyB n (o ++ s ++ d)).data.toList := by rw [et]; simp
    have e2 := LV.toList_len (slB x (n : Int) o s d)
    rw [e1] at e2
    rw [e1, List.drop_left, List.take_of_length_le]
    rw [List.length_append] at e2
    omega
  obtain ⟨e1, e2, e3⟩ := rl_some hs
  rw [hrest] at e1 e3
  have hok : rlOk (slB x (n : Int) o s d) = true := by rw [e1, r1, b1]; rfl
  unfold rlH rlA rlO rlS rlD
  simp only [hok, if_true, e2, e3]
  exact ⟨trivial, r2, b2, b3, b4, b5⟩

end Go.Proofs.YtgkfelhjbeegaaaGreatDoor
/-
  A seal read from its text: the program's answer.
-/
namespace Go.Proofs.YtgkfelhjbeegaaaGreatDoor
open Go.RowKit Go.BigFrame Go.Sort
set_option linter.unusedVariables false
set_option linter.unusedSimpArgs false

theorem below_setRL {B : Nat} {w0 w : World} {g : Nat} (h : Below B w0 w) (hB : B ≤ g) (hw : B ≤ w.heap.size) (cs : Array Value) : Below B w0 (w.setRow g cs) :=
  h.grown (grown_setRow w g cs) hw (fun k hk => by simp at hk; omega)
def zSl : Array Value := #[.int .i64 0, .int .i64 0, .string ⟨#[]⟩, .string ⟨#[]⟩, .int .i64 0, .slice none 0 0, .slice none 0 0, .slice none 0 0]
def zHd : Hd := ⟨0, 0, ⟨#[]⟩, ⟨#[]⟩⟩
section
variable {w : World} {ops : Array Oper} {rest : List Oper} {o : Oper} {a : Act} {Q : Exit → Act → World → Prop}
theorem load_seal {g : Nat} {x : Hd} {y : Int} {v1 v2 v3 : Value} (hA : SlB 49 w g x y v1 v2 v3) : (loadVar 49 ⟨g, 0, none⟩).run Tryz.prog w = .ok (.agg #[.int .i64 x.h, .int .i64 x.e, .string x.r, .string x.p, .int .i64 y, v1, v2, v3]) w :=
  run_loadVar_row (P := Tryz.prog) w g 49 49 _ (0, 0) _ hA Tryz.underlying49 rfl sizeSeal
/-- a seal loaded whole -/
theorem wp_loadSl (hgd : o.guard = none) (p : Operand) (ho : o.op = .load 49 p) (g : Nat) (x : Hd) (y : Int) (v1 v2 v3 : Value) (hp : a.eval p = .pointer (some ⟨g, 0, none⟩)) (hA : SlB 49 w g x y v1 v2 v3)
    (h : wpList Tryz.prog ops Q rest (a.put o.dst (.agg #[.int .i64 x.h, .int .i64 x.e, .string x.r, .string x.p, .int .i64 y, v1, v2, v3])) w) : wpList Tryz.prog ops Q (o :: rest) a w := by
  refine wpList_plain hgd fun K hK => ?_
  have hr : (Instr.loadAt 49 (.pointer (some ⟨g, 0, none⟩))).run Tryz.prog w = .ok (.agg #[.int .i64 x.h, .int .i64 x.e, .string x.r, .string x.p, .int .i64 y, v1, v2, v3]) w := by
    simp only [Instr.loadAt, Instr.sureAddr, Sem.run_bind, Sem.run_pure, Result.andThen]
    exact load_seal hA
  unfold Oper.wp
  simp [execOp, ho, hp, hr, Result.andThen]
  exact hK _ _ h
theorem store_seal {g : Nat} {x : Hd} {y : Int} {v1 v2 v3 : Value} (hA : SlB 49 w g x y v1 v2 v3) (x' : Hd) (y' : Int) (u1 u2 u3 : Value) (h1 : u1.oneCell' = true) (h2 : u2.oneCell' = true) (h3 : u3.oneCell' = true) :
    (Instr.storeAt 49 (.pointer (some ⟨g, 0, none⟩)) (.agg #[.int .i64 x'.h, .int .i64 x'.e, .string x'.r, .string x'.p, .int .i64 y', u1, u2, u3])).run Tryz.prog w = .ok () (w.setRow g #[.int .i64 x'.h, .int .i64 x'.e, .string x'.r, .string x'.p, .int .i64 y', u1, u2, u3]) := by
  simp only [Instr.storeAt, Instr.sureAddr, Sem.run_bind, Sem.run_pure, Result.andThen]
  refine run_storeVar_row w g 49 49 _ _ hA sizeSeal rfl ?_
  simp [h1, h2, h3]
  exact ⟨rfl, rfl, rfl, rfl, rfl⟩
theorem SlB.setR {T : Nat} {g : Nat} {x : Hd} {y : Int} {v1 v2 v3 : Value} (hA : SlB T w g x y v1 v2 v3) (x' : Hd) (y' : Int) (u1 u2 u3 : Value) : SlB T (w.setRow g #[.int .i64 x'.h, .int .i64 x'.e, .string x'.r, .string x'.p, .int .i64 y', u1, u2, u3]) g x' y' u1 u2 u3 := setRow_heap w g _ _ _ _ hA
/-- a seal stored whole -/
theorem wp_storeSl (hgd : o.guard = none) (p v : Operand) (ho : o.op = .store 49 p v) (g : Nat) (x x' : Hd) (y y' : Int) (v1 v2 v3 u1 u2 u3 : Value) (hA : SlB 49 w g x y v1 v2 v3) (hp : a.eval p = .pointer (some ⟨g, 0, none⟩)) (hv : a.eval v = .agg #[.int .i64 x'.h, .int .i64 x'.e, .string x'.r, .string x'.p, .int .i64 y', u1, u2, u3])
    (h1 : u1.oneCell' = true) (h2 : u2.oneCell' = true) (h3 : u3.oneCell' = true)
    (h : SlB 49 (w.setRow g #[.int .i64 x'.h, .int .i64 x'.e, .string x'.r, .string x'.p, .int .i64 y', u1, u2, u3]) g x' y' u1 u2 u3 → wpList Tryz.prog ops Q rest (a.put o.dst (.tuple #[])) (w.setRow g #[.int .i64 x'.h, .int .i64 x'.e, .string x'.r, .string x'.p, .int .i64 y', u1, u2, u3])) : wpList Tryz.prog ops Q (o :: rest) a w := by
  refine wpList_plain hgd fun K hK => ?_
  have hr := store_seal hA x' y' u1 u2 u3 h1 h2 h3
  unfold Oper.wp
  simp [execOp, ho, hp, hv, hr, Result.andThen]
  exact hK _ _ (h (hA.setR x' y' u1 u2 u3))
end

end Go.Proofs.YtgkfelhjbeegaaaGreatDoor
/-
  What the laws' own helpers do with seals: measured, taken over, compared, marked, held.
-/
namespace Go.Proofs.YtgkfelhjbeegaaaGreatDoor
open Go.RowKit Go.BigFrame Go.Sort
set_option linter.unusedVariables false
set_option linter.unusedSimpArgs false

section
variable {T : Nat} {W : World} {g : Nat} {x : Hd} {a : Int} {v1 v2 v3 : Value}
/-- its head stored anew -/
theorem SlB.putH (h : SlB T W g x a v1 v2 v3) (y : Hd) : SlB T ((((W.setCell ⟨g, 0, none⟩ (.int .i64 y.h)).setCell ⟨g, 1, none⟩ (.int .i64 y.e)).setCell ⟨g, 2, none⟩ (.string y.r)).setCell ⟨g, 3, none⟩ (.string y.p)) g y a v1 v2 v3 :=
  heap_setCell_same _ g 3 _ _ _ (heap_setCell_same _ g 2 _ _ _ (heap_setCell_same _ g 1 _ _ _ (heap_setCell_same W g 0 _ _ _ h)))
/-- its signature stored anew -/
theorem SlB.putS (h : SlB T W g x a v1 v2 v3) (y : Int) (u1 u2 u3 : Value) : SlB T ((((W.setCell ⟨g, 4, none⟩ (.int .i64 y)).setCell ⟨g, 5, none⟩ u1).setCell ⟨g, 6, none⟩ u2).setCell ⟨g, 7, none⟩ u3) g x y u1 u2 u3 :=
  heap_setCell_same _ g 7 _ _ _ (heap_setCell_same _ g 6 _ _ _ (heap_setCell_same _ g 5 _ _ _ (heap_setCell_same W g 4 _ _ _ h)))
end
theorem grown4 (W : World) (g i j k l : Nat) (u0 u1 u2 u3 : Value) : W.grownBy ((((W.setCell ⟨g, i, none⟩ u0).setCell ⟨g, j, none⟩ u1).setCell ⟨g, k, none⟩ u2).setCell ⟨g, l, none⟩ u3) (some g) :=
  (((grown_setC W g i u0).trans (grown_setC _ g j u1)).trans (grown_setC _ g k u2)).trans (grown_setC _ g l u3)

set_option maxRecDepth 100000 in
set_option maxHeartbeats 1000000 in
theorem szSeal_row (x : Hd) (a : Int) (a1 a2 a3 : Option Addr) (n1 n2 n3 k1 k2 k3 : Nat) (z1 z2 z3 : List ByteArray) (w : World) (hr : x.r.size ≤ 9223372036854775807) (hp : x.p.size ≤ 9223372036854775807) (h1 : IsRowS w a1 n1 k1 z1) (h2 : IsRowS w a2 n2 k2 z2) (h3 : IsRowS w a3 n3 k3 z3) :
    Calls Tryz.prog 14 #[.agg #[.int .i64 x.h, .int .i64 x.e, .string x.r, .string x.p, .int .i64 a, .slice a1 n1 k1, .slice a2 n2 k2, .slice a3 n3 k3], .int .i64 1048576] w fun e w' => ∃ A : Int, e = .returned (.int .i64 A) ∧ Below w.heap.size w w' ∧ (0 ≤ A → (x.r.size ≤ 1048576 ∧ x.p.size ≤ 1048576) ∧ n1 ≤ 1048576 ∧ n2 ≤ 1048576 ∧ n3 ≤ 1048576) := by
  have HX : Hid (Below w.heap.size w (w.alloc (.cells #[.int .i64 x.h, .int .i64 x.e, .string x.r, .string x.p, .int .i64 a, .slice a1 n1 k1, .slice a2 n2 k2, .slice a3 n3 k3] 33)) ∧ SlB 33 (w.alloc (.cells #[.int .i64 x.h, .int .i64 x.e, .string x.r, .string x.p, .int .i64 a, .slice a1 n1 k1, .slice a2 n2 k2, .slice a3 n3 k3] 33)) w.heap.size x a (.slice a1 n1 k1) (.slice a2 n2 k2) (.slice a3 n3 k3)) := ⟨(Below.refl _ _).alloc (Nat.le_refl _) _, SlB.new _ _ _ _ _ _ _⟩
  have HH : Hid (∀ W, Calls Tryz.prog 35 #[.agg #[.int .i64 x.h, .int .i64 x.e, .string x.r, .string x.p], .int .i64 1048576] W fun e w' => ∃ A : Int, e = .returned (.int .i64 A) ∧ Below W.heap.size W w' ∧ A ≤ 1048576 ∧ (0 ≤ A → x.r.size ≤ 1048576 ∧ x.p.size ≤ 1048576)) := fun W => szHead_any x 1048576 W (by omega) (by omega) hr hp
  have HS : Hid (∀ W y, Below w.heap.size w W → 0 ≤ y → y ≤ 1048576 → Calls Tryz.prog 36 #[.agg #[.int .i64 a, .slice a1 n1 k1, .slice a2 n2 k2, .slice a3 n3 k3], .int .i64 y] W fun e w' => ∃ A : Int, e = .returned (.int .i64 A) ∧ Below W.heap.size W w' ∧ (0 ≤ A → n1 ≤ 1048576 ∧ n2 ≤ 1048576 ∧ n3 ≤ 1048576)) := fun W y hW h0 hy => szSig_at a a1 a2 a3 n1 n2 n3 k1 k2 k3 z1 z2 z3 y W h0 hy (h1.later hW) (h2.later hW) (h3.later hW)
  clear h1 h2 h3 hr hp
  obtain ⟨h, e, r, p⟩ := x
  simp only at HX HH ⊢
  go_enter Tryz.func14, Tryz.ntmps14
  go_wp2_with fail
  refine (HH.out _).mono ?_
  rintro e1 w1 ⟨A, rfl, hb1, hA1, hA2⟩
  have HX1 : Hid (Below w.heap.size w w1 ∧ SlB 33 w1 w.heap.size ⟨h, e, r, p⟩ a (.slice a1 n1 k1) (.slice a2 n2 k2) (.slice a3 n3 k3)) := ⟨HX.out.1.trans (hb1.mono HX.out.1.size), HX.out.2.later hb1⟩
  have HA2 : Hid (0 ≤ A → r.size ≤ 1048576 ∧ p.size ≤ 1048576) := hA2
  clear hb1 HX HH hA2
  by_cases hneg : A < 0
  · clear HS HA2
    go_wp2
    go_ret
    exact ⟨-1, rfl, HX1.out.1, fun h => by omega⟩
  · obtain ⟨q0, q1, q2, q3, q4, q5, q6, q7⟩ := HX1.out.2.cells
    clear q0 q1 q2 q3
    go_wp2_with fail
    refine (HS.out _ A HX1.out.1 (by omega) hA1).mono ?_
    rintro e2 w2 ⟨B, rfl, hb2, hB⟩
    have HB2 : Hid (Below w.heap.size w w2) := HX1.out.1.trans (hb2.mono HX1.out.1.size)
    have HB3 : Hid (0 ≤ B → n1 ≤ 1048576 ∧ n2 ≤ 1048576 ∧ n3 ≤ 1048576) := hB
    clear hb2 HX1 q4 q5 q6 q7 hB HS
    by_cases hneg2 : B < 0
    · go_wp2
      go_ret
      exact ⟨-1, rfl, HB2.out, fun h => by omega⟩
    · go_wp2
      go_ret
      exact ⟨B, rfl, HB2.out, fun h => ⟨HA2.out (by omega), HB3.out h⟩⟩

set_option maxRecDepth 100000 in
set_option maxHeartbeats 1000000 in
theorem eqSeal_yes (x : Hd) (a : Int) (v1 v2 v3 u1 u2 u3 : Value) (g1 o1 g2 o2 g3 o3 p1 q1 p2 q2 p3 q3 : Nat) (o s d : List ByteArray) (w : World) (h1 : SS w v1 g1 o1 o) (h2 : SS w v2 g2 o2 s) (h3 : SS w v3 g3 o3 d) (k1 : SS w u1 p1 q1 o) (k2 : SS w u2 p2 q2 s) (k3 : SS w u3 p3 q3 d) :
    Calls Tryz.prog 32 #[.agg #[.int .i64 x.h, .int .i64 x.e, .string x.r, .string x.p, .int .i64 a, v1, v2, v3], .agg #[.int .i64 x.h, .int .i64 x.e, .string x.r, .string x.p, .int .i64 a, u1, u2, u3]] w fun e w' => e = .returned (.bool true) ∧ Below w.heap.size w w' := by
  have HH : Hid (∀ W, Calls Tryz.prog 64 #[.agg #[.int .i64 x.h, .int .i64 x.e, .string x.r, .string x.p], .agg #[.int .i64 x.h, .int .i64 x.e, .string x.r, .string x.p]] W fun e w' => e = .returned (.bool true) ∧ Below W.heap.size W w') := fun W => eqHead_yes x W
  have HS : Hid (∀ W, Below w.heap.size w W → Calls Tryz.prog 65 #[.agg #[.int .i64 a, v1, v2, v3], .agg #[.int .i64 a, u1, u2, u3]] W fun e w' => e = .returned (.bool true) ∧ Below W.heap.size W w') := fun W hW => eqSig_yes a v1 v2 v3 u1 u2 u3 g1 o1 g2 o2 g3 o3 p1 q1 p2 q2 p3 q3 o s d W (h1.below hW h1.lt) (h2.below hW h2.lt) (h3.below hW h3.lt) (k1.below hW k1.lt) (k2.below hW k2.lt) (k3.below hW k3.lt)
  obtain ⟨b1, c1, rfl, x1, y1⟩ := h1
  obtain ⟨b2, c2, rfl, x2, y2⟩ := h2
  obtain ⟨b3, c3, rfl, x3, y3⟩ := h3
  obtain ⟨b4, c4, rfl, x4, y4⟩ := k1
  obtain ⟨b5, c5, rfl, x5, y5⟩ := k2
  obtain ⟨b6, c6, rfl, x6, y6⟩ := k3
  clear x1 x2 x3 x4 x5 x6 y1 y2 y3 y4 y5 y6
  generalize o.length = n1 at *
  generalize s.length = n2 at *
  generalize d.length = n3 at *
  obtain ⟨h, e, r, p⟩ := x
  simp only at HH ⊢
  have HX : Hid (Below w.heap.size w ((w.alloc (.cells #[.int .i64 h, .int .i64 e, .string r, .string p, .int .i64 a, .slice b1 n1 c1, .slice b2 n2 c2, .slice b3 n3 c3] 49)).alloc (.cells #[.int .i64 h, .int .i64 e, .string r, .string p, .int .i64 a, .slice b4 n1 c4, .slice b5 n2 c5, .slice b6 n3 c6] 49)) ∧ SlB 49 ((w.alloc (.cells #[.int .i64 h, .int .i64 e, .string r, .string p, .int .i64 a, .slice b1 n1 c1, .slice b2 n2 c2, .slice b3 n3 c3] 49)).alloc (.cells #[.int .i64 h, .int .i64 e, .string r, .string p, .int .i64 a, .slice b4 n1 c4, .slice b5 n2 c5, .slice b6 n3 c6] 49)) w.heap.size ⟨h, e, r, p⟩ a (.slice b1 n1 c1) (.slice b2 n2 c2) (.slice b3 n3 c3) ∧ SlB 49 ((w.alloc (.cells #[.int .i64 h, .int .i64 e, .string r, .string p, .int .i64 a, .slice b1 n1 c1, .slice b2 n2 c2, .slice b3 n3 c3] 49)).alloc (.cells #[.int .i64 h, .int .i64 e, .string r, .string p, .int .i64 a, .slice b4 n1 c4, .slice b5 n2 c5, .slice b6 n3 c6] 49)) (w.heap.size + 1) ⟨h, e, r, p⟩ a (.slice b4 n1 c4) (.slice b5 n2 c5) (.slice b6 n3 c6)) := by
    refine ⟨((Below.refl _ _).alloc (Nat.le_refl _) _).alloc (by simp) _, (SlB.new _ _ ⟨h, e, r, p⟩ _ _ _ _).later ((Below.refl _ _).alloc (Nat.le_refl _) _), ?_⟩
    exact alloc_fst _ _ (by simp)
  go_enter Tryz.func32, Tryz.ntmps32
  go_wp2_with fail
  refine (HH.out _).mono ?_
  rintro e1 w1 ⟨rfl, hb1⟩
  have HB1 : Hid (Below w.heap.size w w1) := HX.out.1.trans (hb1.mono HX.out.1.size)
  obtain ⟨z0, z1, z2, z3, z4, z5, z6, z7⟩ := (HX.out.2.1.later hb1).cells
  obtain ⟨y0, y1, y2, y3, y4, y5, y6, y7⟩ := (HX.out.2.2.later hb1).cells
  clear z0 z1 z2 z3 y0 y1 y2 y3 HX hb1 HH
  go_wp2_with fail
  refine (HS.out _ HB1.out).mono ?_
  rintro e2 w2 ⟨rfl, hb2⟩
  have HB2 : Hid (Below w.heap.size w w2) := HB1.out.trans (hb2.mono HB1.out.size)
  clear z4 z5 z6 z7 y4 y5 y6 y7 HB1 hb2 HS
  go_wp2
  go_ret
  exact ⟨rfl, HB2.out⟩

set_option maxRecDepth 100000 in
set_option maxHeartbeats 1000000 in
theorem toSeal_any (x : Hd) (a : Int) (vo vs vd : Value) (g1 o1 g2 o2 g3 o3 : Nat) (o s d : List ByteArray) (w : World) (ho : SS w vo g1 o1 o) (hs : SS w vs g2 o2 s) (hd : SS w vd g3 o3 d) :
    Calls Tryz.prog 26 #[.agg #[.int .i64 x.h, .int .i64 x.e, .string x.r, .string x.p, .int .i64 a, vo, vs, vd]] w fun e w' => ∃ v, e = .returned v ∧ SealIn w' w.heap.size v x a o s d ∧ Below w.heap.size w w' := by
  have HTH : Hid (∀ W, Calls Tryz.prog 54 #[.agg #[.int .i64 x.h, .int .i64 x.e, .string x.r, .string x.p]] W fun e w' => e = .returned (.agg #[.int .i64 x.h, .int .i64 x.e, .string x.r, .string x.p]) ∧ Below W.heap.size W w') := fun W => toHead_any x W
  have HTS : Hid (∀ W, Below w.heap.size w W → Calls Tryz.prog 55 #[.agg #[.int .i64 a, vo, vs, vd]] W fun e w' => ∃ b1 m1 k1 b2 m2 k2 b3 m3 k3 p1 p2 p3, e = .returned (.agg #[.int .i64 a, .slice b1 m1 k1, .slice b2 m2 k2, .slice b3 m3 k3]) ∧ (TS w' (.slice b1 m1 k1) p1 o ∧ TS w' (.slice b2 m2 k2) p2 s ∧ TS w' (.slice b3 m3 k3) p3 d) ∧ (W.heap.size ≤ p1 ∧ W.heap.size ≤ p2 ∧ W.heap.size ≤ p3) ∧ (p1 ≠ p2 ∧ p1 ≠ p3 ∧ p2 ≠ p3) ∧ Below W.heap.size W w') := fun W hW => by
    refine (toSig_any a vo vs vd g1 o1 g2 o2 g3 o3 o s d W (ho.below hW ho.lt) (hs.below hW hs.lt) (hd.below hW hd.lt)).mono ?_
    rintro e w' ⟨v, rfl, ⟨v1, v2, v3, p1, p2, p3, rfl, ⟨t1, t2, t3⟩, hl, hn⟩, hb⟩
    obtain ⟨a1, c1, rfl, _⟩ := id t1
    obtain ⟨a2, c2, rfl, _⟩ := id t2
    obtain ⟨a3, c3, rfl, _⟩ := id t3
    exact ⟨a1, _, c1, a2, _, c2, a3, _, c3, p1, p2, p3, rfl, ⟨t1, t2, t3⟩, hl, hn, hb⟩
  obtain ⟨ao, co, rfl, lo, x1⟩ := ho
  obtain ⟨as2, cs2, rfl, ls, x2⟩ := hs
  obtain ⟨ad, cd, rfl, ld, x3⟩ := hd
  clear x1 x2 x3
  generalize o.length = n1 at *
  generalize s.length = n2 at *
  generalize d.length = n3 at *
  obtain ⟨h, e, r, p⟩ := x
  simp only at HTH ⊢
  have HX : Hid (Below w.heap.size w (((w.alloc (.cells #[.int .i64 h, .int .i64 e, .string r, .string p, .int .i64 a, .slice ao n1 co, .slice as2 n2 cs2, .slice ad n3 cd] 33)).alloc (.cells zSl 49)).alloc (.cells zSl 49)) ∧ SlB 33 (((w.alloc (.cells #[.int .i64 h, .int .i64 e, .string r, .string p, .int .i64 a, .slice ao n1 co, .slice as2 n2 cs2, .slice ad n3 cd] 33)).alloc (.cells zSl 49)).alloc (.cells zSl 49)) w.heap.size ⟨h, e, r, p⟩ a (.slice ao n1 co) (.slice as2 n2 cs2) (.slice ad n3 cd) ∧ SlB 49 (((w.alloc (.cells #[.int .i64 h, .int .i64 e, .string r, .string p, .int .i64 a, .slice ao n1 co, .slice as2 n2 cs2, .slice ad n3 cd] 33)).alloc (.cells zSl 49)).alloc (.cells zSl 49)) (w.heap.size + 1) zHd 0 (.slice none 0 0) (.slice none 0 0) (.slice none 0 0) ∧ SlB 49 (((w.alloc (.cells #[.int .i64 h, .int .i64 e, .string r, .string p, .int .i64 a, .slice ao n1 co, .slice as2 n2 cs2, .slice ad n3 cd] 33)).alloc (.cells zSl 49)).alloc (.cells zSl 49)) (w.heap.size + 1 + 1) zHd 0 (.slice none 0 0) (.slice none 0 0) (.slice none 0 0) ∧ (((w.alloc (.cells #[.int .i64 h, .int .i64 e, .string r, .string p, .int .i64 a, .slice ao n1 co, .slice as2 n2 cs2, .slice ad n3 cd] 33)).alloc (.cells zSl 49)).alloc (.cells zSl 49)).heap.size = w.heap.size + 1 + 1 + 1) := by
    have hz : ∀ W : World, Below W.heap.size W (W.alloc (.cells zSl 49)) := fun W => (Below.refl _ _).alloc (Nat.le_refl _) _
    refine ⟨(((Below.refl _ _).alloc (Nat.le_refl _) _).alloc (by simp) _).alloc (by simp; omega) _, ((SlB.new _ _ ⟨h, e, r, p⟩ _ _ _ _).later (hz _)).later (hz _), ?_, ?_, by simp⟩
    · have h1 : SlB 49 ((w.alloc (.cells #[.int .i64 h, .int .i64 e, .string r, .string p, .int .i64 a, .slice ao n1 co, .slice as2 n2 cs2, .slice ad n3 cd] 33)).alloc (.cells zSl 49)) (w.heap.size + 1) zHd 0 (.slice none 0 0) (.slice none 0 0) (.slice none 0 0) := alloc_fst _ _ (by simp)
      exact h1.later (hz _)
    · exact alloc_fst _ _ (by simp)
  go_enter Tryz.func26, Tryz.ntmps26
  go_wp2_with fail
  refine (HTH.out _).mono ?_
  rintro e1 w1 ⟨rfl, hb1⟩
  have HX1 : Hid (Below w.heap.size w w1 ∧ SlB 33 w1 w.heap.size ⟨h, e, r, p⟩ a (.slice ao n1 co) (.slice as2 n2 cs2) (.slice ad n3 cd) ∧ SlB 49 w1 (w.heap.size + 1) zHd 0 (.slice none 0 0) (.slice none 0 0) (.slice none 0 0) ∧ SlB 49 w1 (w.heap.size + 1 + 1) zHd 0 (.slice none 0 0) (.slice none 0 0) (.slice none 0 0) ∧ w.heap.size + 1 + 1 + 1 ≤ w1.heap.size) := ⟨HX.out.1.trans (hb1.mono HX.out.1.size), HX.out.2.1.later hb1, HX.out.2.2.1.later hb1, HX.out.2.2.2.1.later hb1, by rw [← HX.out.2.2.2.2]; exact hb1.size⟩
  obtain ⟨z0, z1, z2, z3, z4, z5, z6, z7⟩ := HX1.out.2.2.2.1.cells
  have f0 := HX1.out.2.2.2.1.fz 0
  have f1 := HX1.out.2.2.2.1.fz 1
  have f2 := HX1.out.2.2.2.1.fz 2
  have f3 := HX1.out.2.2.2.1.fz 3
  obtain ⟨q0, q1, q2, q3, q4, q5, q6, q7⟩ := HX1.out.2.1.cells
  have hne0 : w.heap.size ≠ w.heap.size + 1 + 1 := by omega
  have HX2 : Hid (Below w.heap.size w ((((w1.setCell ⟨w.heap.size + 1 + 1, 0, none⟩ (.int .i64 h)).setCell ⟨w.heap.size + 1 + 1, 1, none⟩ (.int .i64 e)).setCell ⟨w.heap.size + 1 + 1, 2, none⟩ (.string r)).setCell ⟨w.heap.size + 1 + 1, 3, none⟩ (.string p)) ∧ SlB 49 ((((w1.setCell ⟨w.heap.size + 1 + 1, 0, none⟩ (.int .i64 h)).setCell ⟨w.heap.size + 1 + 1, 1, none⟩ (.int .i64 e)).setCell ⟨w.heap.size + 1 + 1, 2, none⟩ (.string r)).setCell ⟨w.heap.size + 1 + 1, 3, none⟩ (.string p)) (w.heap.size + 1) zHd 0 (.slice none 0 0) (.slice none 0 0) (.slice none 0 0) ∧ SlB 49 ((((w1.setCell ⟨w.heap.size + 1 + 1, 0, none⟩ (.int .i64 h)).setCell ⟨w.heap.size + 1 + 1, 1, none⟩ (.int .i64 e)).setCell ⟨w.heap.size + 1 + 1, 2, none⟩ (.string r)).setCell ⟨w.heap.size + 1 + 1, 3, none⟩ (.string p)) (w.heap.size + 1 + 1) ⟨h, e, r, p⟩ 0 (.slice none 0 0) (.slice none 0 0) (.slice none 0 0) ∧ w.heap.size + 1 + 1 + 1 ≤ ((((w1.setCell ⟨w.heap.size + 1 + 1, 0, none⟩ (.int .i64 h)).setCell ⟨w.heap.size + 1 + 1, 1, none⟩ (.int .i64 e)).setCell ⟨w.heap.size + 1 + 1, 2, none⟩ (.string r)).setCell ⟨w.heap.size + 1 + 1, 3, none⟩ (.string p)).heap.size) := by
    have hg := grown4 w1 (w.heap.size + 1 + 1) 0 1 2 3 (.int .i64 h) (.int .i64 e) (.string r) (.string p)
    exact ⟨HX1.out.1.grown hg HX1.out.1.size (fun k hk => by simp at hk; omega), HX1.out.2.2.1.grown hg (by simp), HX1.out.2.2.2.1.putH ⟨h, e, r, p⟩, Nat.le_trans HX1.out.2.2.2.2 hg.size⟩
  clear hb1 HX HTH z4 z5 z6 z7 q0 q1 q2 q3 HX1
  go_wp2_with fail
  refine (HTS.out _ HX2.out.1).mono ?_
  rintro e2 w2 ⟨b1, m1, k1, b2, m2, k2, b3, m3, k3, p1, p2, p3, rfl, ⟨t1, t2, t3⟩, ⟨l1, l2, l3⟩, hpn, hb2⟩
  have hp : w.heap.size + 1 + 1 < p1 ∧ w.heap.size + 1 + 1 < p2 ∧ w.heap.size + 1 + 1 < p3 := by have := HX2.out.2.2.2; omega
  have hX3 := HX2.out.2.2.1.later hb2
  obtain ⟨z0, z1, z2, z3, z4, z5, z6, z7⟩ := hX3.cells
  have f4 := hX3.fz 4
  have f5 := hX3.fz 5
  have f6 := hX3.fz 6
  have f7 := hX3.fz 7
  have HX4 : Hid (Below w.heap.size w ((((w2.setCell ⟨w.heap.size + 1 + 1, 4, none⟩ (.int .i64 a)).setCell ⟨w.heap.size + 1 + 1, 5, none⟩ (.slice b1 m1 k1)).setCell ⟨w.heap.size + 1 + 1, 6, none⟩ (.slice b2 m2 k2)).setCell ⟨w.heap.size + 1 + 1, 7, none⟩ (.slice b3 m3 k3)) ∧ SlB 49 ((((w2.setCell ⟨w.heap.size + 1 + 1, 4, none⟩ (.int .i64 a)).setCell ⟨w.heap.size + 1 + 1, 5, none⟩ (.slice b1 m1 k1)).setCell ⟨w.heap.size + 1 + 1, 6, none⟩ (.slice b2 m2 k2)).setCell ⟨w.heap.size + 1 + 1, 7, none⟩ (.slice b3 m3 k3)) (w.heap.size + 1) zHd 0 (.slice none 0 0) (.slice none 0 0) (.slice none 0 0) ∧ SlB 49 ((((w2.setCell ⟨w.heap.size + 1 + 1, 4, none⟩ (.int .i64 a)).setCell ⟨w.heap.size + 1 + 1, 5, none⟩ (.slice b1 m1 k1)).setCell ⟨w.heap.size + 1 + 1, 6, none⟩ (.slice b2 m2 k2)).setCell ⟨w.heap.size + 1 + 1, 7, none⟩ (.slice b3 m3 k3)) (w.heap.size + 1 + 1) ⟨h, e, r, p⟩ a (.slice b1 m1 k1) (.slice b2 m2 k2) (.slice b3 m3 k3) ∧ (TS ((((w2.setCell ⟨w.heap.size + 1 + 1, 4, none⟩ (.int .i64 a)).setCell ⟨w.heap.size + 1 + 1, 5, none⟩ (.slice b1 m1 k1)).setCell ⟨w.heap.size + 1 + 1, 6, none⟩ (.slice b2 m2 k2)).setCell ⟨w.heap.size + 1 + 1, 7, none⟩ (.slice b3 m3 k3)) (.slice b1 m1 k1) p1 o ∧ TS ((((w2.setCell ⟨w.heap.size + 1 + 1, 4, none⟩ (.int .i64 a)).setCell ⟨w.heap.size + 1 + 1, 5, none⟩ (.slice b1 m1 k1)).setCell ⟨w.heap.size + 1 + 1, 6, none⟩ (.slice b2 m2 k2)).setCell ⟨w.heap.size + 1 + 1, 7, none⟩ (.slice b3 m3 k3)) (.slice b2 m2 k2) p2 s ∧ TS ((((w2.setCell ⟨w.heap.size + 1 + 1, 4, none⟩ (.int .i64 a)).setCell ⟨w.heap.size + 1 + 1, 5, none⟩ (.slice b1 m1 k1)).setCell ⟨w.heap.size + 1 + 1, 6, none⟩ (.slice b2 m2 k2)).setCell ⟨w.heap.size + 1 + 1, 7, none⟩ (.slice b3 m3 k3)) (.slice b3 m3 k3) p3 d)) := by
    have hg := grown4 w2 (w.heap.size + 1 + 1) 4 5 6 7 (.int .i64 a) (.slice b1 m1 k1) (.slice b2 m2 k2) (.slice b3 m3 k3)
    have k1x := HX2.out.1.trans (hb2.mono HX2.out.1.size)
    exact ⟨k1x.grown hg k1x.size (fun k hk => by simp at hk; omega), (HX2.out.2.1.later hb2).grown hg (by simp), hX3.putS a _ _ _, t1.keptG hg (fun _ => by simp; omega), t2.keptG hg (fun _ => by simp; omega), t3.keptG hg (fun _ => by simp; omega)⟩
  clear hX3 t1 t2 t3 hb2 HX2 l1 l2 l3 z0 z1 z2 z3 q4 q5 q6 q7 f0 f1 f2 f3 HTS
  go_upto_region 4 with fail
  generalize ((((w2.setCell ⟨w.heap.size + 1 + 1, 4, none⟩ (.int .i64 a)).setCell ⟨w.heap.size + 1 + 1, 5, none⟩ (.slice b1 m1 k1)).setCell ⟨w.heap.size + 1 + 1, 6, none⟩ (.slice b2 m2 k2)).setCell ⟨w.heap.size + 1 + 1, 7, none⟩ (.slice b3 m3 k3)) = W4 at *
  clear z4 z5 z6 z7 f4 f5 f6 f7
  go_wp2_with (first | (refine wp_loadSl rfl _ rfl (w.heap.size + 1 + 1) ⟨h, e, r, p⟩ a _ _ _ rfl HX4.out.2.2.1 ?_) | (refine wp_storeSl rfl _ _ rfl (w.heap.size + 1) zHd ⟨h, e, r, p⟩ 0 a _ _ _ _ _ _ HX4.out.2.1 rfl rfl rfl rfl rfl ?_; intro hst) | fail)
  refine ret_sl1 2 (w.heap.size + 1) ⟨h, e, r, p⟩ a _ _ _ rfl rfl rfl hst ?_
  have hg := grown_setRow W4 (w.heap.size + 1) #[.int .i64 h, .int .i64 e, .string r, .string p, .int .i64 a, .slice b1 m1 k1, .slice b2 m2 k2, .slice b3 m3 k3]
  obtain ⟨t1, t2, t3⟩ := HX4.out.2.2.2
  exact ⟨_, rfl, ⟨_, _, _, rfl, ⟨_, _, _, p1, p2, p3, rfl, ⟨t1.keptG hg (fun _ => by simp; omega), t2.keptG hg (fun _ => by simp; omega), t3.keptG hg (fun _ => by simp; omega)⟩, ⟨by omega, by omega, by omega⟩, hpn⟩⟩, below_setRL HX4.out.1 (by omega) HX4.out.1.size _⟩

theorem SealIn.out {w : World} {B : Nat} {v : Value} {x : Hd} {a : Int} {o s d : List ByteArray} (h : SealIn w B v x a o s d) : ∃ v1 v2 v3 g1 g2 g3, v = .agg #[.int .i64 x.h, .int .i64 x.e, .string x.r, .string x.p, .int .i64 a, v1, v2, v3] ∧ (TS w v1 g1 o ∧ TS w v2 g2 s ∧ TS w v3 g3 d) ∧ (B ≤ g1 ∧ B ≤ g2 ∧ B ≤ g3) ∧ (g1 ≠ g2 ∧ g1 ≠ g3 ∧ g2 ≠ g3) := by
  obtain ⟨v1, v2, v3, rfl, u1, u2, u3, g1, g2, g3, hv, ht, hB, hn⟩ := h
  simp at hv
  obtain ⟨rfl, rfl, rfl⟩ := hv
  exact ⟨v1, v2, v3, g1, g2, g3, rfl, ht, hB, hn⟩
/-- block p is a seal, and its lists lie so -/
def WSl (W : World) (p : Nat) (x : Hd) (a : Int) (v1 v2 v3 : Value) (g1 g2 g3 : Nat) (o s d : List ByteArray) : Prop := SlB 49 W p x a v1 v2 v3 ∧ TS W v1 g1 o ∧ TS W v2 g2 s ∧ TS W v3 g3 d
theorem WSl.later {W W' : World} {p : Nat} {x : Hd} {a : Int} {v1 v2 v3 : Value} {g1 g2 g3 : Nat} {o s d : List ByteArray} (h : WSl W p x a v1 v2 v3 g1 g2 g3 o s d) (hb : Below W.heap.size W W') : WSl W' p x a v1 v2 v3 g1 g2 g3 o s d :=
  ⟨h.1.later hb, h.2.1.later hb, h.2.2.1.later hb, h.2.2.2.later hb⟩
theorem WSl.alloc {W : World} {p : Nat} {x : Hd} {a : Int} {v1 v2 v3 : Value} {g1 g2 g3 : Nat} {o s d : List ByteArray} (h : WSl W p x a v1 v2 v3 g1 g2 g3 o s d) (y : Obj) : WSl (W.alloc y) p x a v1 v2 v3 g1 g2 g3 o s d := h.later ((Below.refl _ _).alloc (Nat.le_refl _) _)
theorem WSl.new (W : World) (x : Hd) (a : Int) (v1 v2 v3 : Value) (g1 g2 g3 : Nat) (o s d : List ByteArray) (h1 : TS W v1 g1 o) (h2 : TS W v2 g2 s) (h3 : TS W v3 g3 d) : WSl (W.alloc (.cells #[.int .i64 x.h, .int .i64 x.e, .string x.r, .string x.p, .int .i64 a, v1, v2, v3] 49)) W.heap.size x a v1 v2 v3 g1 g2 g3 o s d := by
  have hb : Below W.heap.size W (W.alloc (.cells #[.int .i64 x.h, .int .i64 x.e, .string x.r, .string x.p, .int .i64 a, v1, v2, v3] 49)) := (Below.refl _ _).alloc (Nat.le_refl _) _
  exact ⟨SlB.new _ _ _ _ _ _ _, h1.later hb, h2.later hb, h3.later hb⟩
theorem SlB.keptG3 {T : Nat} {w w' : World} {g : Nat} {r1 r2 r3 : Option Nat} {x : Hd} {a : Int} {v1 v2 v3 : Value} (h : SlB T w g x a v1 v2 v3) (hg : Grown3 w w' r1 r2 r3) (h1 : some g ≠ r1) (h2 : some g ≠ r2) (h3 : some g ≠ r3) : SlB T w' g x a v1 v2 v3 := by
  obtain ⟨wa, wb, ha, hb, hc⟩ := hg
  exact ((h.grown ha h1).grown hb h2).grown hc h3
section
variable {w : World} {ops : Array Oper} {rest : List Oper} {o : Oper} {a : Act} {Q : Exit → Act → World → Prop}
/-- a seal that a law was handed, loaded whole -/
theorem wp_loadSlL (hgd : o.guard = none) (p : Operand) (ho : o.op = .load 33 p) (g : Nat) (x : Hd) (y : Int) (v1 v2 v3 : Value) (hp : a.eval p = .pointer (some ⟨g, 0, none⟩)) (hA : SlB 33 w g x y v1 v2 v3)
    (h : wpList Tryz.prog ops Q rest (a.put o.dst (.agg #[.int .i64 x.h, .int .i64 x.e, .string x.r, .string x.p, .int .i64 y, v1, v2, v3])) w) : wpList Tryz.prog ops Q (o :: rest) a w := by
  refine wpList_plain hgd fun K hK => ?_
  have hr : (Instr.loadAt 33 (.pointer (some ⟨g, 0, none⟩))).run Tryz.prog w = .ok (.agg #[.int .i64 x.h, .int .i64 x.e, .string x.r, .string x.p, .int .i64 y, v1, v2, v3]) w := by
    simp only [Instr.loadAt, Instr.sureAddr, Sem.run_bind, Sem.run_pure, Result.andThen]
    exact run_loadVar_row (P := Tryz.prog) w g 33 33 _ (0, 0) _ hA Tryz.underlying33 rfl (by kernel_rfl)
  unfold Oper.wp
  simp [execOp, ho, hp, hr, Result.andThen]
  exact hK _ _ h
end

end Go.Proofs.YtgkfelhjbeegaaaGreatDoor
/-
  What the laws' own helpers do with stamps: taken over, compared.
-/
namespace Go.Proofs.YtgkfelhjbeegaaaGreatDoor
open Go.RowKit Go.BigFrame Go.Sort
set_option linter.unusedVariables false
set_option linter.unusedSimpArgs false

theorem sizeStm : (Tryz.prog.info? 67).map (·.size) = some 5 := by kernel_rfl
theorem ret_st {fn : Func} {Rp : Ending → World → Prop} {a : Act} {w : World} (c g : Nat) (v1 v2 v3 v4 v5 : Value) (hres : fn.results = #[.cell c 67]) (hd : a.defers = []) (hp : a.tmps.getD c undef = .pointer (some ⟨g, 0, none⟩)) (hA : Box 67 w g [v1, v2, v3, v4, v5]) (h : Rp (.returned (.agg #[v1, v2, v3, v4, v5])) w) : bodyPost Tryz.prog fn Rp .ret a w :=
  ret_rec c g 67 [v1, v2, v3, v4, v5] _ hres hd hp Tryz.underlying67 rfl sizeStm hA.range h
theorem load_st {w : World} {g : Nat} {v1 v2 v3 v4 v5 : Value} (hA : Box 67 w g [v1, v2, v3, v4, v5]) : (loadVar 67 ⟨g, 0, none⟩).run Tryz.prog w = .ok (.agg #[v1, v2, v3, v4, v5]) w :=
  run_loadVar_row (P := Tryz.prog) w g 67 67 _ (0, 0) _ hA Tryz.underlying67 rfl sizeStm
section
variable {w : World} {ops : Array Oper} {rest : List Oper} {o : Oper} {a : Act} {Q : Exit → Act → World → Prop}
theorem wp_loadSt (hgd : o.guard = none) (p : Operand) (ho : o.op = .load 67 p) (g : Nat) (v1 v2 v3 v4 v5 : Value) (hp : a.eval p = .pointer (some ⟨g, 0, none⟩)) (hA : Box 67 w g [v1, v2, v3, v4, v5])
    (h : wpList Tryz.prog ops Q rest (a.put o.dst (.agg #[v1, v2, v3, v4, v5])) w) : wpList Tryz.prog ops Q (o :: rest) a w := by
  refine wpList_plain hgd fun K hK => ?_
  have hr : (Instr.loadAt 67 (.pointer (some ⟨g, 0, none⟩))).run Tryz.prog w = .ok (.agg #[v1, v2, v3, v4, v5]) w := by
    simp only [Instr.loadAt, Instr.sureAddr, Sem.run_bind, Sem.run_pure, Result.andThen]
    exact load_st hA
  unfold Oper.wp
  simp [execOp, ho, hp, hr, Result.andThen]
  exact hK _ _ h
theorem wp_storeSt (hgd : o.guard = none) (p v : Operand) (ho : o.op = .store 67 p v) (g : Nat) (v1 v2 v3 v4 v5 u1 u2 u3 u4 u5 : Value) (hA : Box 67 w g [v1, v2, v3, v4, v5]) (hp : a.eval p = .pointer (some ⟨g, 0, none⟩)) (hv : a.eval v = .agg #[u1, u2, u3, u4, u5])
    (h1 : u1.oneCell' = true) (h2 : u2.oneCell' = true) (h3 : u3.oneCell' = true) (h4 : u4.oneCell' = true) (h5 : u5.oneCell' = true)
    (h : Box 67 (w.setRow g #[u1, u2, u3, u4, u5]) g [u1, u2, u3, u4, u5] → wpList Tryz.prog ops Q rest (a.put o.dst (.tuple #[])) (w.setRow g #[u1, u2, u3, u4, u5])) : wpList Tryz.prog ops Q (o :: rest) a w := by
  refine wpList_plain hgd fun K hK => ?_
  have hr : (Instr.storeAt 67 (.pointer (some ⟨g, 0, none⟩)) (.agg #[u1, u2, u3, u4, u5])).run Tryz.prog w = .ok () (w.setRow g #[u1, u2, u3, u4, u5]) := by
    simp only [Instr.storeAt, Instr.sureAddr, Sem.run_bind, Sem.run_pure, Result.andThen]
    refine run_storeVar_row w g 67 67 _ _ hA sizeStm rfl ?_
    simp [h1, h2, h3, h4, h5]
  unfold Oper.wp
  simp [execOp, ho, hp, hv, hr, Result.andThen]
  exact hK _ _ (h (setRow_heap w g _ _ _ _ hA))
end

/-- what a law makes of a stamp that it was handed: a stamp whose rows are new -/
def ToS1 (y : Stm) (w : World) (e : Ending) (w' : World) : Prop := ∃ b1 m1 k1 b2 m2 k2 b3 m3 k3, e = .returned (.agg #[.int .i64 y.b, .int .i64 y.a, .slice b1 m1 k1, .slice b2 m2 k2, .slice b3 m3 k3]) ∧ (∀ g, g < w.heap.size → SXn w' (.slice b1 m1 k1) y.o g ∧ SXn w' (.slice b2 m2 k2) y.s g ∧ SXn w' (.slice b3 m3 k3) y.d g) ∧ Below w.heap.size w w'

set_option maxRecDepth 100000 in
set_option maxHeartbeats 2000000 in
theorem toStamp_any (x : StV) (y : Stm) (w : World) (h : SgV w x y) :
    Calls Tryz.prog 56 #[.agg #[.int .i64 x.b, .int .i64 x.a, x.v1, x.v2, x.v3]] w (ToS1 y w) := by
  have HTS : Hid (∀ W, Below w.heap.size w W → Calls Tryz.prog 55 #[.agg #[.int .i64 x.a, x.v1, x.v2, x.v3]] W fun e w' => ∃ b1 m1 k1 b2 m2 k2 b3 m3 k3 p1 p2 p3, e = .returned (.agg #[.int .i64 x.a, .slice b1 m1 k1, .slice b2 m2 k2, .slice b3 m3 k3]) ∧ (TS w' (.slice b1 m1 k1) p1 y.o ∧ TS w' (.slice b2 m2 k2) p2 y.s ∧ TS w' (.slice b3 m3 k3) p3 y.d) ∧ (W.heap.size ≤ p1 ∧ W.heap.size ≤ p2 ∧ W.heap.size ≤ p3) ∧ Below W.heap.size W w') := fun W hW => by
    obtain ⟨_, _, ⟨g1, o1, s1⟩, ⟨g2, o2, s2⟩, ⟨g3, o3, s3⟩⟩ := h.later hW
    refine (toSig_any x.a x.v1 x.v2 x.v3 g1 o1 g2 o2 g3 o3 y.o y.s y.d W s1 s2 s3).mono ?_
    rintro e w' ⟨v, rfl, ⟨v1, v2, v3, p1, p2, p3, rfl, ⟨t1, t2, t3⟩, hl, hn⟩, hb⟩
    obtain ⟨a1, c1, rfl, _⟩ := id t1
    obtain ⟨a2, c2, rfl, _⟩ := id t2
    obtain ⟨a3, c3, rfl, _⟩ := id t3
    exact ⟨a1, _, c1, a2, _, c2, a3, _, c3, p1, p2, p3, rfl, ⟨t1, t2, t3⟩, hl, hb⟩
  obtain ⟨e1, e2, ⟨g1, o1, s1⟩, ⟨g2, o2, s2⟩, ⟨g3, o3, s3⟩⟩ := h
  obtain ⟨a1, c1, f1, r1⟩ := s1
  obtain ⟨a2, c2, f2, r2⟩ := s2
  obtain ⟨a3, c3, f3, r3⟩ := s3
  clear r1 r2 r3
  obtain ⟨xb, xa, v1, v2, v3⟩ := x
  simp only at e1 e2 f1 f2 f3 HTS ⊢
  subst e1
  subst e2
  subst f1
  subst f2
  subst f3
  obtain ⟨yb, ya, yo, ys, yd⟩ := y
  simp only at HTS ⊢
  generalize hn1 : yo.length = n1 at *
  generalize hn2 : ys.length = n2 at *
  generalize hn3 : yd.length = n3 at *
  obtain ⟨Post, hPost⟩ : ∃ P, ToS1 ⟨yb, ya, yo, ys, yd⟩ w = P := ⟨_, rfl⟩
  have HP : Hid (ToS1 ⟨yb, ya, yo, ys, yd⟩ w = Post) := hPost
  rw [hPost]
  clear hPost hn1 hn2 hn3
  have HX : Hid (∀ W, W = (((w.alloc (.cells #[.int .i64 yb, .int .i64 ya, .slice a1 n1 c1, .slice a2 n2 c2, .slice a3 n3 c3] 92)).alloc (.cells #[.int .i64 0, .int .i64 0, .slice none 0 0, .slice none 0 0, .slice none 0 0] 67)).alloc (.cells #[.int .i64 yb, .int .i64 0, .slice none 0 0, .slice none 0 0, .slice none 0 0] 67)) → Below w.heap.size w W ∧ Box 67 W (w.heap.size + 1) [.int .i64 0, .int .i64 0, .slice none 0 0, .slice none 0 0, .slice none 0 0] ∧ Box 67 W (w.heap.size + 1 + 1) [.int .i64 yb, .int .i64 0, .slice none 0 0, .slice none 0 0, .slice none 0 0] ∧ Box 92 W w.heap.size [.int .i64 yb, .int .i64 ya, .slice a1 n1 c1, .slice a2 n2 c2, .slice a3 n3 c3] ∧ w.heap.size + 3 ≤ W.heap.size) := fun W hW => by
    subst hW
    refine ⟨((below_alloc _ _).alloc (by simp) _).alloc (by simp; omega) _, ?_, alloc_fst _ _ (by simp), ((Box.new _ w _).later (below_alloc _ _)).later (below_alloc _ _), by simp⟩
    have h2 : Box 67 ((w.alloc (.cells #[.int .i64 yb, .int .i64 ya, .slice a1 n1 c1, .slice a2 n2 c2, .slice a3 n3 c3] 92)).alloc (.cells #[.int .i64 0, .int .i64 0, .slice none 0 0, .slice none 0 0, .slice none 0 0] 67)) (w.heap.size + 1) [.int .i64 0, .int .i64 0, .slice none 0 0, .slice none 0 0, .slice none 0 0] := alloc_fst _ _ (by simp)
    exact h2.later (below_alloc _ _)
  go_enter Tryz.func56, Tryz.ntmps56
  go_wp2_with fail
  generalize hW0 : (((w.alloc (.cells #[.int .i64 yb, .int .i64 ya, .slice a1 n1 c1, .slice a2 n2 c2, .slice a3 n3 c3] 92)).alloc (.cells #[.int .i64 0, .int .i64 0, .slice none 0 0, .slice none 0 0, .slice none 0 0] 67)).alloc (.cells #[.int .i64 yb, .int .i64 0, .slice none 0 0, .slice none 0 0, .slice none 0 0] 67)) = W0
  obtain ⟨b1, P1, P2, X1, z1⟩ := HX.out W0 hW0.symm
  clear HX hW0
  refine (HTS.out _ b1).mono ?_
  rintro e w1 ⟨d1, m1, k1, d2, m2, k2, d3, m3, k3, q1, q2, q3, rfl, ⟨t1, t2, t3⟩, ⟨l1, l2, l3⟩, hb1⟩
  have A1 := P1.later hb1
  have A2 := P2.later hb1
  have b2 := b1.trans (hb1.mono b1.size)
  have y1 := A2.at 1 _ rfl
  have y2 := A2.at 2 _ rfl
  have y3 := A2.at 3 _ rfl
  have y4 := A2.at 4 _ rfl
  have g1' := A2.fz 1
  have g2' := A2.fz 2
  have g3' := A2.fz 3
  have g4' := A2.fz 4
  have hg := grown4 w1 (w.heap.size + 1 + 1) 1 2 3 4 (.int .i64 ya) (.slice d1 m1 k1) (.slice d2 m2 k2) (.slice d3 m3 k3)
  have HA2 : Hid (Box 67 ((((w1.setCell ⟨w.heap.size + 1 + 1, 1, none⟩ (.int .i64 ya)).setCell ⟨w.heap.size + 1 + 1, 2, none⟩ (.slice d1 m1 k1)).setCell ⟨w.heap.size + 1 + 1, 3, none⟩ (.slice d2 m2 k2)).setCell ⟨w.heap.size + 1 + 1, 4, none⟩ (.slice d3 m3 k3)) (w.heap.size + 1) [.int .i64 0, .int .i64 0, .slice none 0 0, .slice none 0 0, .slice none 0 0] ∧ Box 67 ((((w1.setCell ⟨w.heap.size + 1 + 1, 1, none⟩ (.int .i64 ya)).setCell ⟨w.heap.size + 1 + 1, 2, none⟩ (.slice d1 m1 k1)).setCell ⟨w.heap.size + 1 + 1, 3, none⟩ (.slice d2 m2 k2)).setCell ⟨w.heap.size + 1 + 1, 4, none⟩ (.slice d3 m3 k3)) (w.heap.size + 1 + 1) [.int .i64 yb, .int .i64 ya, .slice d1 m1 k1, .slice d2 m2 k2, .slice d3 m3 k3] ∧ (TS ((((w1.setCell ⟨w.heap.size + 1 + 1, 1, none⟩ (.int .i64 ya)).setCell ⟨w.heap.size + 1 + 1, 2, none⟩ (.slice d1 m1 k1)).setCell ⟨w.heap.size + 1 + 1, 3, none⟩ (.slice d2 m2 k2)).setCell ⟨w.heap.size + 1 + 1, 4, none⟩ (.slice d3 m3 k3)) (.slice d1 m1 k1) q1 yo ∧ TS ((((w1.setCell ⟨w.heap.size + 1 + 1, 1, none⟩ (.int .i64 ya)).setCell ⟨w.heap.size + 1 + 1, 2, none⟩ (.slice d1 m1 k1)).setCell ⟨w.heap.size + 1 + 1, 3, none⟩ (.slice d2 m2 k2)).setCell ⟨w.heap.size + 1 + 1, 4, none⟩ (.slice d3 m3 k3)) (.slice d2 m2 k2) q2 ys ∧ TS ((((w1.setCell ⟨w.heap.size + 1 + 1, 1, none⟩ (.int .i64 ya)).setCell ⟨w.heap.size + 1 + 1, 2, none⟩ (.slice d1 m1 k1)).setCell ⟨w.heap.size + 1 + 1, 3, none⟩ (.slice d2 m2 k2)).setCell ⟨w.heap.size + 1 + 1, 4, none⟩ (.slice d3 m3 k3)) (.slice d3 m3 k3) q3 yd) ∧ Below w.heap.size w ((((w1.setCell ⟨w.heap.size + 1 + 1, 1, none⟩ (.int .i64 ya)).setCell ⟨w.heap.size + 1 + 1, 2, none⟩ (.slice d1 m1 k1)).setCell ⟨w.heap.size + 1 + 1, 3, none⟩ (.slice d2 m2 k2)).setCell ⟨w.heap.size + 1 + 1, 4, none⟩ (.slice d3 m3 k3))) :=
    ⟨A1.grown hg (by simp), (((A2.set 1 _).set 2 _).set 3 _).set 4 _, ⟨t1.keptG hg (fun _ => by simp; omega), t2.keptG hg (fun _ => by simp; omega), t3.keptG hg (fun _ => by simp; omega)⟩, b2.grown hg b2.size (fun k hk => by simp at hk; omega)⟩
  clear A1 A2 P1 P2 X1 t1 t2 t3 hb1 hg b1 b2
  go_upto_region 4 with fail
  generalize ((((w1.setCell ⟨w.heap.size + 1 + 1, 1, none⟩ (.int .i64 ya)).setCell ⟨w.heap.size + 1 + 1, 2, none⟩ (.slice d1 m1 k1)).setCell ⟨w.heap.size + 1 + 1, 3, none⟩ (.slice d2 m2 k2)).setCell ⟨w.heap.size + 1 + 1, 4, none⟩ (.slice d3 m3 k3)) = W4 at *
  clear y1 y2 y3 y4 g1' g2' g3' g4'
  go_wp2_with (first | (refine wp_loadSt rfl _ rfl (w.heap.size + 1 + 1) _ _ _ _ _ rfl HA2.out.2.1 ?_) | (refine wp_storeSt rfl _ _ rfl (w.heap.size + 1) _ _ _ _ _ _ _ _ _ _ HA2.out.1 rfl rfl rfl rfl rfl rfl rfl ?_; intro hfin) | fail)
  refine ret_st 2 (w.heap.size + 1) _ _ _ _ _ rfl rfl rfl hfin ?_
  rw [← HP.out]
  obtain ⟨_, _, ⟨t1, t2, t3⟩, hb⟩ := HA2.out
  have hgr := grown_setRowP W4 (w.heap.size + 1) #[.int .i64 yb, .int .i64 ya, .slice d1 m1 k1, .slice d2 m2 k2, .slice d3 m3 k3]
  refine ⟨d1, m1, k1, d2, m2, k2, d3, m3, k3, rfl, fun g hg => ⟨⟨q1, 0, (t1.keptG hgr (fun _ => by simp; omega)).ss, fun _ => by omega⟩, ⟨q2, 0, (t2.keptG hgr (fun _ => by simp; omega)).ss, fun _ => by omega⟩, ⟨q3, 0, (t3.keptG hgr (fun _ => by simp; omega)).ss, fun _ => by omega⟩⟩, below_row hb (by omega)⟩

theorem Tryz.infoStm : (Tryz.prog.info? 67).map (fun i => (i.zero, i.size, i.bytes)) = some (some (.agg #[.int .i64 0, .int .i64 0, .slice none 0 0, .slice none 0 0, .slice none 0 0]), 5, 88) := by kernel_rfl
theorem there_new5 {w : World} {cur : Array Value} {T n : Nat} (h : cur.size = n * 5) : ∀ j, j < n → (w.alloc (.cells cur T)).there w.heap.size (j * 5) 5 := fun j hj i hi => by
  have hc : (w.alloc (.cells cur T)).heap[w.heap.size]? = some (.cells cur T (0, 0)) := Go.heap_alloc_new w _
  have hb : j * 5 + i < cur.size := by omega
  refine ⟨?_, by simp only [World.frozen?]; rw [hc]; simp⟩
  rw [cell_of_row _ _ _ _ _ _ hc, Array.getElem?_eq_getElem hb]
  rfl
theorem made_stamps (n : Nat) (h : n ≤ 1100000) (W : World) : ∃ w', (Instr.makeSlice 50 (.int .i64 (n : Int)) (.int .i64 (n : Int))).run Tryz.prog W = .ok (.slice (some ⟨W.heap.size, 0, none⟩) n n) w' ∧ (∀ j, j < n → w'.there W.heap.size (j * 5) 5) ∧ Below W.heap.size W w' ∧ w'.heap.size = W.heap.size + 1 := by
  obtain ⟨i0, hi, hz0, hz1, hz2⟩ := info_parts Tryz.infoStm
  have h1 := run_make (P := Tryz.prog) W 50 67 i0 _ Tryz.underlying50 hi hz0 .i64 .i64 (n : Int) (n : Int) (by omega) (by omega) (by rw [hz2]; omega) (by omega)
  refine ⟨_, by simpa using h1, fun j hj => there_new5 ?_ j hj, (Below.refl _ _).alloc (Nat.le_refl _) _, by simp⟩
  rw [size_madeCells, hz1]
theorem there5 {w : World} {g o : Nat} (h : w.there g o 5) : (∃ u, w.cell? ⟨g, o, none⟩ = some u) ∧ (∃ u, w.cell? ⟨g, o + 1, none⟩ = some u) ∧ (∃ u, w.cell? ⟨g, o + 2, none⟩ = some u) ∧ (∃ u, w.cell? ⟨g, o + 3, none⟩ = some u) ∧ (∃ u, w.cell? ⟨g, o + 4, none⟩ = some u) ∧ w.frozen? ⟨g, o, none⟩ = false ∧ w.frozen? ⟨g, o + 1, none⟩ = false ∧ w.frozen? ⟨g, o + 2, none⟩ = false ∧ w.frozen? ⟨g, o + 3, none⟩ = false ∧ w.frozen? ⟨g, o + 4, none⟩ = false :=
  ⟨Option.isSome_iff_exists.1 (h 0 (by omega)).1, Option.isSome_iff_exists.1 (h 1 (by omega)).1, Option.isSome_iff_exists.1 (h 2 (by omega)).1, Option.isSome_iff_exists.1 (h 3 (by omega)).1, Option.isSome_iff_exists.1 (h 4 (by omega)).1, (h 0 (by omega)).2, (h 1 (by omega)).2, (h 2 (by omega)).2, (h 3 (by omega)).2, (h 4 (by omega)).2⟩

/-- a row of stamps at the head of block g, all that they are made of behind it -/
def StB (W : World) (v : Value) (g : Nat) (L : List Stm) : Prop := ∃ V : List StV, V.length = L.length ∧ RS 5 stcs W v g 0 V ∧ ∀ j (h : j < V.length) (h' : j < L.length), V[j].b = L[j].b ∧ V[j].a = L[j].a ∧ SXn W V[j].v1 L[j].o g ∧ SXn W V[j].v2 L[j].s g ∧ SXn W V[j].v3 L[j].d g
theorem StB.sts {W : World} {v : Value} {g : Nat} {L : List Stm} (h : StB W v g L) : StS W v g 0 L := by
  obtain ⟨V, h1, h2, h3⟩ := h
  exact ⟨V, h1, h2, fun j k k' => ⟨(h3 j k' k).1, (h3 j k' k).2.1, (h3 j k' k).2.2.1.sx, (h3 j k' k).2.2.2.1.sx, (h3 j k' k).2.2.2.2.sx⟩⟩
theorem StB.grown {W W' : World} {v : Value} {g q : Nat} {L : List Stm} (h : StB W v g L) (hg : W.grownBy W' (some q)) (hq : q < g) : StB W' v g L := by
  obtain ⟨V, h1, h2, h3⟩ := h
  exact ⟨V, h1, h2.grown hg (fun _ => by simp; omega), fun j k k' => ⟨(h3 j k k').1, (h3 j k k').2.1, (h3 j k k').2.2.1.grown hg (by omega), (h3 j k k').2.2.2.1.grown hg (by omega), (h3 j k k').2.2.2.2.grown hg (by omega)⟩⟩
theorem StB.later {W W' : World} {v : Value} {g : Nat} {L : List Stm} (h : StB W v g L) (hb : Below W.heap.size W W') : StB W' v g L := by
  obtain ⟨V, h1, h2, h3⟩ := h
  exact ⟨V, h1, h2.later hb, fun j k k' => ⟨(h3 j k k').1, (h3 j k k').2.1, (h3 j k k').2.2.1.later hb, (h3 j k k').2.2.2.1.later hb, (h3 j k k').2.2.2.2.later hb⟩⟩

/-- the first m stamps of a new row are written -/
def ToG (w : World) (L : List Stm) (g : Nat) (i : Value) (wr : World) : Prop := ∃ m : Nat, m ≤ L.length ∧ i = .int .i64 m ∧ Hid ((∃ V : List StV, V.length = m ∧ (∀ j (h : j < V.length), wr.rangeAt g (j * 5) (stcs V[j])) ∧ ∀ j (h : j < V.length) (h' : j < L.length), V[j].b = L[j].b ∧ V[j].a = L[j].a ∧ SXn wr V[j].v1 L[j].o g ∧ SXn wr V[j].v2 L[j].s g ∧ SXn wr V[j].v3 L[j].d g) ∧ (∀ j, j < L.length → wr.there g (j * 5) 5) ∧ Below w.heap.size w wr ∧ g < wr.heap.size)
theorem grown_setCells (g : Nat) : ∀ (vs : List Value) (o : Nat) (w : World), w.grownBy (w.setCells g o vs) (some g)
  | [], _, w => grown_refl w _
  | v :: r, o, w => by
    rw [World.setCells]
    exact (grown_setC w g o v).trans (grown_setCells g r (o + 1) _)

theorem ToG.set {w wr w1 : World} {L : List Stm} {g m : Nat} {V : List StV} {u1 u2 u3 : Value} (hm : m < L.length) (hB : w.heap.size ≤ g) (hgl : g < wr.heap.size) (hVl : V.length = m) (h1 : ∀ j (h : j < V.length), wr.rangeAt g (j * 5) (stcs V[j])) (h2 : ∀ j (h : j < V.length) (h' : j < L.length), V[j].b = L[j].b ∧ V[j].a = L[j].a ∧ SXn wr V[j].v1 L[j].o g ∧ SXn wr V[j].v2 L[j].s g ∧ SXn wr V[j].v3 L[j].d g) (h3 : ∀ j, j < L.length → wr.there g (j * 5) 5) (h4 : Below w.heap.size w wr) (hb : Below wr.heap.size wr w1) (x1 : SXn w1 u1 L[m].o g) (x2 : SXn w1 u2 L[m].s g) (x3 : SXn w1 u3 L[m].d g) :
    ToG w L g (.int .i64 ((m : Int) + 1)) (w1.setCells g (m * 5) (stcs ⟨L[m].b, L[m].a, u1, u2, u3⟩)) := by
  have hg := grown_setCells g (stcs ⟨L[m].b, L[m].a, u1, u2, u3⟩) (m * 5) w1
  have hth := fun j hj => there_kept (h3 j hj) (hb.block g hgl)
  refine ⟨m + 1, by omega, by congr 1, ⟨V ++ [⟨L[m].b, L[m].a, u1, u2, u3⟩], by simp [hVl], fun j hj => ?_, fun j hj hj' => ?_⟩, fun j hj => World.there_setCells (hth j hj) _ _ _, below_setCells hB _ _ _ (h4.trans (hb.mono h4.size)), ?_⟩
  · rcases Nat.lt_or_ge j m with hjm | hjm
    · have e : (V ++ [⟨L[m].b, L[m].a, u1, u2, u3⟩])[j] = V[j]'(by omega) := List.getElem_append_left (by omega)
      rw [e]
      exact World.rangeAt_setCells_apart (range_kept (h1 j (by omega)) (hb.block g hgl)) _ _ _ (.inr (.inl (by rw [stcs_len]; omega)))
    · have hje : j = m := by simp at hj; omega
      subst hje
      have e : (V ++ [⟨L[j].b, L[j].a, u1, u2, u3⟩])[j] = ⟨L[j].b, L[j].a, u1, u2, u3⟩ := by
        rw [List.getElem_append_right (by omega)]
        simp [hVl]
      rw [e]
      exact World.rangeAt_setCells_same _ _ _ _ (hth j hm)
  · rcases Nat.lt_or_ge j m with hjm | hjm
    · have e : (V ++ [⟨L[m].b, L[m].a, u1, u2, u3⟩])[j] = V[j]'(by omega) := List.getElem_append_left (by omega)
      rw [e]
      obtain ⟨k1, k2, k3, k4, k5⟩ := h2 j (by omega) hj'
      exact ⟨k1, k2, (k3.later hb).grown hg (Nat.le_refl _), (k4.later hb).grown hg (Nat.le_refl _), (k5.later hb).grown hg (Nat.le_refl _)⟩
    · have hje : j = m := by simp at hj; omega
      subst hje
      have e : (V ++ [⟨L[j].b, L[j].a, u1, u2, u3⟩])[j] = ⟨L[j].b, L[j].a, u1, u2, u3⟩ := by
        rw [List.getElem_append_right (by omega)]
        simp [hVl]
      rw [e]
      exact ⟨rfl, rfl, x1.grown hg (Nat.le_refl _), x2.grown hg (Nat.le_refl _), x3.grown hg (Nat.le_refl _)⟩
  · rw [size_setCells]
    exact Nat.lt_of_lt_of_le hgl hb.size

set_option maxRecDepth 100000 in
set_option maxHeartbeats 1000000 in
theorem toStampS_any (v : Value) (ga oa : Nat) (L : List Stm) (w : World) (hv : StS w v ga oa L) :
    Calls Tryz.prog 27 #[v] w fun e w' => ∃ g, e = .returned (.slice (some ⟨g, 0, none⟩) L.length L.length) ∧ w.heap.size ≤ g ∧ StB w' (.slice (some ⟨g, 0, none⟩) L.length L.length) g L ∧ Below w.heap.size w w' := by
  obtain ⟨V0, hV0, hrs, hsg⟩ := hv
  have HRS : Hid (RS 5 stcs w v ga oa V0) := hrs
  have HSG : Hid (∀ j (h : j < L.length) (h' : j < V0.length), SgV w V0[j] L[j]) := hsg
  obtain ⟨a, cap, rfl, hl, hA, hc⟩ := hrs
  rw [hV0] at hl hA HRS ⊢
  obtain ⟨n, hn⟩ : ∃ n, L.length = n := ⟨_, rfl⟩
  have HN : Hid (L.length = n ∧ V0.length = n) := ⟨hn, by omega⟩
  obtain ⟨w2, hmk, hib, hb2, hs2⟩ := made_stamps n (by omega) w
  have HST : Hid (ToG w L w.heap.size (.int .i64 0) w2) := ⟨0, by omega, rfl, ⟨[], rfl, fun j h => by simp at h, fun j h => by simp at h⟩, by rw [hn]; exact hib, hb2, by omega⟩
  have HA : Hid (0 < n → a = some ⟨ga, oa, none⟩) := by rw [← hn]; exact fun h => (hA h).1
  rw [hn] at hl HRS ⊢
  clear hib hb2 hs2 hA hc hV0 hsg
  go_enter Tryz.func27, Tryz.ntmps27
  go_wp2
  clear hmk
  go_loopw [4] (fun i wr => ToG w L w.heap.size i wr) (fun i _ => n - (intOf i).toNat)
  case atStart => exact HST.out
  case round =>
    obtain ⟨m, hm, rfl, HI⟩ := hrel
    clear HST
    rw [HN.out.1] at hm
    by_cases hlt : m < n
    · have ea := HA.out (by omega)
      subst ea
      have hmL : m < L.length := by rw [HN.out.1]; exact hlt
      have hmV : m < V0.length := by rw [HN.out.2]; exact hlt
      obtain ⟨c0, c1, c2, c3, c4⟩ := (HRS.out.later HI.out.2.2.1).stamp m hmV
      have hsg := (HSG.out m hmL hmV).later HI.out.2.2.1
      have hto := toStamp_any V0[m] L[m] wr hsg
      obtain ⟨f1, f2, ⟨f3, f4, b1, d1, e1, f5⟩, ⟨f6, f7, b2, d2, e2, f8⟩, ⟨f9, f10, b3, d3, e3, f11⟩⟩ := hsg
      clear f5 f8 f11
      rw [f1] at c0 hto
      rw [f2] at c1 hto
      rw [e1] at c2 hto
      rw [e2] at c3 hto
      rw [e3] at c4 hto
      clear f1 f2 e1 e2 e3
      have HSET : Hid (∀ w1 u1 u2 u3, Below wr.heap.size wr w1 → SXn w1 u1 L[m].o w.heap.size → SXn w1 u2 L[m].s w.heap.size → SXn w1 u3 L[m].d w.heap.size → ToG w L w.heap.size (.int .i64 ((m : Int) + 1)) (w1.setCells w.heap.size (m * 5) (stcs ⟨L[m].b, L[m].a, u1, u2, u3⟩))) := fun w1 u1 u2 u3 hb x1 x2 x3 => by
        obtain ⟨⟨V, k1, k2, k3⟩, k4, k5, k6⟩ := HI.out
        exact ToG.set hmL (Nat.le_refl _) k6 k1 k2 k3 k4 k5 hb x1 x2 x3
      have HTH : Hid (∀ w1, Below wr.heap.size wr w1 → w1.there w.heap.size (m * 5) 5) := fun w1 hb => there_kept (HI.out.2.1 m hmL) (hb.block _ HI.out.2.2.2)
      have hgl := HI.out.2.2.2
      unfold ToS1 at hto
      generalize L[m].b = yb at *
      generalize L[m].a = ya at *
      generalize L[m].o = yo at *
      generalize L[m].s = ys at *
      generalize L[m].d = yd at *
      generalize yo.length = n1 at *
      generalize ys.length = n2 at *
      generalize yd.length = n3 at *
      have i1 : (m : Int) < (n : Int) := by omega
      have i2 : (0 : Int) ≤ (m : Int) := by omega
      clear HRS HSG HA HI
      go_wp2_with fail
      refine hto.mono ?_
      rintro e w1 ⟨p1, m1, k1, p2, m2, k2, p3, m3, k3, rfl, hx, hb1⟩
      obtain ⟨x1, x2, x3⟩ := hx _ hgl
      have HJ : Hid _ := HSET.out w1 _ _ _ hb1 x1 x2 x3
      have hth := HTH.out w1 hb1
      clear hb1 hx x1 x2 x3 HSET HTH c0 c1 c2 c3 c4 hto
      obtain ⟨⟨o0, y0⟩, ⟨o1, y1⟩, ⟨o2, y2⟩, ⟨o3, y3⟩, ⟨o4, y4⟩, g0, g1, g2, g3, g4⟩ := there5 hth
      clear hth
      go_wp2
      go_roundw
      case rel => exact HJ.out
      case measure => simp [intOf]; omega
    · have hme : m = n := by omega
      subst hme
      clear HA
      go_wp2
      go_ret
      obtain ⟨⟨V, k1, k2, k3⟩, k4, k5, k6⟩ := HI.out
      refine ⟨w.heap.size, rfl, Nat.le_refl _, ⟨V, by rw [k1, HN.out.1], ⟨_, _, by rw [k1], by omega, fun _ => ⟨rfl, k6⟩, fun j hj => ?_⟩, k3⟩, k5⟩
      rw [Nat.zero_add]
      exact k2 j hj

set_option maxRecDepth 100000 in
set_option maxHeartbeats 1000000 in
theorem eqStamp_yes (x z : StV) (y : Stm) (w : World) (h : SgV w x y) (k : SgV w z y) :
    Calls Tryz.prog 66 #[.agg #[.int .i64 y.b, .int .i64 y.a, x.v1, x.v2, x.v3], .agg #[.int .i64 y.b, .int .i64 y.a, z.v1, z.v2, z.v3]] w fun e w' => e = .returned (.bool true) ∧ Below w.heap.size w w' := by
  have HE : Hid (∀ W, Below w.heap.size w W → Calls Tryz.prog 65 #[.agg #[.int .i64 y.a, x.v1, x.v2, x.v3], .agg #[.int .i64 y.a, z.v1, z.v2, z.v3]] W fun e w' => e = .returned (.bool true) ∧ Below W.heap.size W w') := fun W hW => by
    obtain ⟨_, _, ⟨g1, o1, s1⟩, ⟨g2, o2, s2⟩, ⟨g3, o3, s3⟩⟩ := h.later hW
    obtain ⟨_, _, ⟨p1, q1, t1⟩, ⟨p2, q2, t2⟩, ⟨p3, q3, t3⟩⟩ := k.later hW
    exact eqSig_yes y.a x.v1 x.v2 x.v3 z.v1 z.v2 z.v3 g1 o1 g2 o2 g3 o3 p1 q1 p2 q2 p3 q3 y.o y.s y.d W s1 s2 s3 t1 t2 t3
  obtain ⟨_, _, s1, s2, s3⟩ := h
  obtain ⟨_, _, t1, t2, t3⟩ := k
  obtain ⟨xb, xa, v1, v2, v3⟩ := x
  obtain ⟨zb, za, u1, u2, u3⟩ := z
  obtain ⟨yb, ya, yo, ys, yd⟩ := y
  simp only at s1 s2 s3 t1 t2 t3 HE ⊢
  obtain ⟨a1, c1, rfl⟩ := s1.shape
  obtain ⟨a2, c2, rfl⟩ := s2.shape
  obtain ⟨a3, c3, rfl⟩ := s3.shape
  obtain ⟨b1, d1, rfl⟩ := t1.shape
  obtain ⟨b2, d2, rfl⟩ := t2.shape
  obtain ⟨b3, d3, rfl⟩ := t3.shape
  clear s1 s2 s3 t1 t2 t3
  generalize yo.length = n1 at *
  generalize ys.length = n2 at *
  generalize yd.length = n3 at *
  have HB : Hid (Below w.heap.size w ((w.alloc (.cells #[.int .i64 yb, .int .i64 ya, .slice a1 n1 c1, .slice a2 n2 c2, .slice a3 n3 c3] 67)).alloc (.cells #[.int .i64 yb, .int .i64 ya, .slice b1 n1 d1, .slice b2 n2 d2, .slice b3 n3 d3] 67))) := (below_alloc _ _).alloc (by simp) _
  have qb : (yb != yb) = false := by simp
  go_enter Tryz.func66, Tryz.ntmps66
  go_wp2_with fail
  refine (HE.out _ HB.out).mono ?_
  rintro e w1 ⟨rfl, hb1⟩
  have HB1 : Hid (Below w.heap.size w w1) := HB.out.trans (hb1.mono HB.out.size)
  clear hb1 HB HE
  go_wp2
  go_ret
  exact ⟨rfl, HB1.out⟩

set_option maxRecDepth 100000 in
set_option maxHeartbeats 1000000 in
theorem eqStampS_yes (u v : Value) (ga oa gb ob : Nat) (L : List Stm) (w : World) (hu : StS w u ga oa L) (hv : StS w v gb ob L) :
    Calls Tryz.prog 33 #[u, v] w fun e w' => e = .returned (.bool true) ∧ Below w.heap.size w w' := by
  obtain ⟨U0, hU0, hru, hsu⟩ := hu
  obtain ⟨V0, hV0, hrv, hsv⟩ := hv
  have HU : Hid (RS 5 stcs w u ga oa U0) := hru
  have HV : Hid (RS 5 stcs w v gb ob V0) := hrv
  have HSU : Hid (∀ j (h : j < L.length) (h' : j < U0.length), SgV w U0[j] L[j]) := hsu
  have HSV : Hid (∀ j (h : j < L.length) (h' : j < V0.length), SgV w V0[j] L[j]) := hsv
  obtain ⟨a, cap, rfl, hl, hA, hc1⟩ := hru
  obtain ⟨b, cap2, rfl, hl2, hB, hc2⟩ := hrv
  rw [hU0] at hl hA HU ⊢
  rw [hV0] at hl2 hB HV ⊢
  obtain ⟨n, hn⟩ : ∃ n, L.length = n := ⟨_, rfl⟩
  have HN : Hid (L.length = n ∧ U0.length = n ∧ V0.length = n) := ⟨hn, by omega, by omega⟩
  have HA : Hid (0 < n → a = some ⟨ga, oa, none⟩ ∧ b = some ⟨gb, ob, none⟩) := by rw [← hn]; exact fun h => ⟨(hA h).1, (hB h).1⟩
  rw [hn] at hl HU HV ⊢
  clear hA hB hc1 hc2 hsu hsv hU0 hV0 hl2
  go_enter Tryz.func33, Tryz.ntmps33
  go_wp2
  go_loopw [5] (fun i wr => EhR n w i wr) (fun i _ => n - (intOf i).toNat)
  case atStart => exact ⟨0, by omega, rfl, Below.refl _ _⟩
  case round =>
    obtain ⟨m, hm, rfl, hbel⟩ := hrel
    by_cases hlt : m < n
    · obtain ⟨ea, eb⟩ := HA.out (by omega)
      subst ea
      subst eb
      have hmL : m < L.length := by rw [HN.out.1]; exact hlt
      have hmU : m < U0.length := by rw [HN.out.2.1]; exact hlt
      have hmV : m < V0.length := by rw [HN.out.2.2]; exact hlt
      obtain ⟨c0, c1, c2, c3, c4⟩ := (HU.out.later hbel).stamp m hmU
      obtain ⟨e0, e1, e2, e3, e4⟩ := (HV.out.later hbel).stamp m hmV
      have sU := (HSU.out m hmL hmU).later hbel
      have sV := (HSV.out m hmL hmV).later hbel
      have heq : ∀ W, Below wr.heap.size wr W → Calls Tryz.prog 66 #[.agg #[.int .i64 L[m].b, .int .i64 L[m].a, U0[m].v1, U0[m].v2, U0[m].v3], .agg #[.int .i64 L[m].b, .int .i64 L[m].a, V0[m].v1, V0[m].v2, V0[m].v3]] W fun e w' => e = .returned (.bool true) ∧ Below W.heap.size W w' := fun W hW => eqStamp_yes _ _ _ W (sU.later hW) (sV.later hW)
      have HEQ : Hid (∀ W, Below wr.heap.size wr W → Calls Tryz.prog 66 #[.agg #[.int .i64 L[m].b, .int .i64 L[m].a, U0[m].v1, U0[m].v2, U0[m].v3], .agg #[.int .i64 L[m].b, .int .i64 L[m].a, V0[m].v1, V0[m].v2, V0[m].v3]] W fun e w' => e = .returned (.bool true) ∧ Below W.heap.size W w') := heq
      rw [sU.1] at c0
      rw [sU.2.1] at c1
      rw [sV.1] at e0
      rw [sV.2.1] at e1
      obtain ⟨b1, d1, f1⟩ := sU.2.2.1.shape
      obtain ⟨b2, d2, f2⟩ := sU.2.2.2.1.shape
      obtain ⟨b3, d3, f3⟩ := sU.2.2.2.2.shape
      obtain ⟨b4, d4, f4⟩ := sV.2.2.1.shape
      obtain ⟨b5, d5, f5⟩ := sV.2.2.2.1.shape
      obtain ⟨b6, d6, f6⟩ := sV.2.2.2.2.shape
      rw [f1, f2, f3, f4, f5, f6] at HEQ
      rw [f1] at c2
      rw [f2] at c3
      rw [f3] at c4
      rw [f4] at e2
      rw [f5] at e3
      rw [f6] at e4
      clear sU sV heq f1 f2 f3 f4 f5 f6
      generalize L[m].b = yb at *
      generalize L[m].a = ya at *
      generalize L[m].o.length = n1 at *
      generalize L[m].s.length = n2 at *
      generalize L[m].d.length = n3 at *
      have i1 : (m : Int) < (n : Int) := by omega
      have i2 : (0 : Int) ≤ (m : Int) := by omega
      clear HU HV HA HSU HSV
      go_wp2
      have kq0 := cell_regrown (w := wr) c0
      have kq1 := cell_regrown (w := wr) c1
      have kq2 := cell_regrown (w := wr) c2
      have kq3 := cell_regrown (w := wr) c3
      have kq4 := cell_regrown (w := wr) c4
      have kq5 := cell_regrown (w := wr) e0
      have kq6 := cell_regrown (w := wr) e1
      have kq7 := cell_regrown (w := wr) e2
      have kq8 := cell_regrown (w := wr) e3
      have kq9 := cell_regrown (w := wr) e4
      have cq0 := fun d os => Calls.regrown_of (w := wr) (d := d) (os := os) (HEQ.out _ (below_regrown wr d os))
      refine wp_region_quiet_below (by kernel_rfl) (by kernel_rfl) ?_
      repeat (go_big_quiet_step (first | with_reducible exact cq0 _ _))
      refine wpQuiet_nil ?_
      rintro _ ⟨⟨dq, osq⟩, rfl⟩
      have hb6 := below_regrown (wr) dq osq
      generalize grow (redrawn (wr) dq) osq = w6 at *
      clear kq0 kq1 kq2 kq3 kq4 kq5 kq6 kq7 kq8 kq9 cq0
      go_wp2
      go_roundw
      case rel => exact ⟨m + 1, by omega, by go_num, hbel.trans (hb6.mono hbel.size)⟩
      case measure => simp [intOf]; omega
    · have hme : m = n := by omega
      subst hme
      clear HU HV HA HSU HSV
      go_wp2
      go_ret
      exact ⟨rfl, hbel⟩

end Go.Proofs.YtgkfelhjbeegaaaGreatDoor
