/-
  Texts laid together: Xc, Hf, Hr, Sbk.
-/
import Derived.Test.YtgkfelhjbeegaaaGreatDoorV13
import Derived.Test.YtgkfelhjbeegaaaGreatDoorV12
import Derived.Test.YtgkfelhjbeegaaaGreatDoorV10
import Derived.Test.YtgkfelhjbeegaaaGreatDoorV06
import Derived.Deep.RegionHeld3
/-
  A seal in its box; its text: the program's and the specification's answers.
-/
namespace Go.Proofs.YtgkfelhjbeegaaaGreatDoor
open Go.RowKit Go.BigFrame Go.Sort
set_option linter.unusedVariables false
set_option linter.unusedSimpArgs false

/-- the cells of a seal -/
def slcs (x : Hd) (a : Int) (v1 v2 v3 : Value) : List Value := [.int .i64 x.h, .int .i64 x.e, .string x.r, .string x.p, .int .i64 a, v1, v2, v3]
/-- a seal in its box, of the law's type or the program's -/
def SlB (T : Nat) (W : World) (g : Nat) (x : Hd) (a : Int) (v1 v2 v3 : Value) : Prop := W.heap[g]? = some (.cells #[.int .i64 x.h, .int .i64 x.e, .string x.r, .string x.p, .int .i64 a, v1, v2, v3] T (0, 0))
section
variable {T : Nat} {W W' : World} {g : Nat} {x : Hd} {a : Int} {v1 v2 v3 : Value}
theorem SlB.new (T : Nat) (w : World) (x : Hd) (a : Int) (v1 v2 v3 : Value) : SlB T (w.alloc (.cells #[.int .i64 x.h, .int .i64 x.e, .string x.r, .string x.p, .int .i64 a, v1, v2, v3] T)) w.heap.size x a v1 v2 v3 := Go.heap_alloc_new w _
theorem SlB.lt (h : SlB T W g x a v1 v2 v3) : g < W.heap.size := (Array.getElem?_eq_some_iff.1 h).1
theorem SlB.keep (h : SlB T W g x a v1 v2 v3) (he : W'.heap[g]? = W.heap[g]?) : SlB T W' g x a v1 v2 v3 := by
  unfold SlB at *
  rw [he, h]
theorem SlB.later (h : SlB T W g x a v1 v2 v3) (hb : Below W.heap.size W W') : SlB T W' g x a v1 v2 v3 := h.keep (hb.block g h.lt)
theorem SlB.grown {row : Option Nat} (h : SlB T W g x a v1 v2 v3) (hg : W.grownBy W' row) (hne : some g ≠ row) : SlB T W' g x a v1 v2 v3 := h.keep (hg.block g h.lt hne)
theorem SlB.range (h : SlB T W g x a v1 v2 v3) : W.rangeAt g 0 (slcs x a v1 v2 v3) := fun j v hv => by
  rw [cell_of_row W g (0 + j) _ _ _ h, Nat.zero_add]
  simpa [slcs] using hv
theorem SlB.c0 (h : SlB T W g x a v1 v2 v3) : W.cell? ⟨g, 0, none⟩ = some (.int .i64 x.h) := h.range 0 _ rfl
theorem SlB.c1 (h : SlB T W g x a v1 v2 v3) : W.cell? ⟨g, 1, none⟩ = some (.int .i64 x.e) := h.range 1 _ rfl
theorem SlB.c2 (h : SlB T W g x a v1 v2 v3) : W.cell? ⟨g, 2, none⟩ = some (.string x.r) := h.range 2 _ rfl
theorem SlB.c3 (h : SlB T W g x a v1 v2 v3) : W.cell? ⟨g, 3, none⟩ = some (.string x.p) := h.range 3 _ rfl
theorem SlB.c4 (h : SlB T W g x a v1 v2 v3) : W.cell? ⟨g, 4, none⟩ = some (.int .i64 a) := h.range 4 _ rfl
theorem SlB.c5 (h : SlB T W g x a v1 v2 v3) : W.cell? ⟨g, 5, none⟩ = some v1 := h.range 5 _ rfl
theorem SlB.c6 (h : SlB T W g x a v1 v2 v3) : W.cell? ⟨g, 6, none⟩ = some v2 := h.range 6 _ rfl
theorem SlB.c7 (h : SlB T W g x a v1 v2 v3) : W.cell? ⟨g, 7, none⟩ = some v3 := h.range 7 _ rfl
theorem SlB.fz (h : SlB T W g x a v1 v2 v3) (j : Nat) : W.frozen? ⟨g, j, none⟩ = false := by simp [World.frozen?, show W.heap[g]? = _ from h]
/-- all eight cells -/
theorem SlB.cells (h : SlB T W g x a v1 v2 v3) : W.cell? ⟨g, 0, none⟩ = some (.int .i64 x.h) ∧ W.cell? ⟨g, 1, none⟩ = some (.int .i64 x.e) ∧ W.cell? ⟨g, 2, none⟩ = some (.string x.r) ∧ W.cell? ⟨g, 3, none⟩ = some (.string x.p) ∧ W.cell? ⟨g, 4, none⟩ = some (.int .i64 a) ∧ W.cell? ⟨g, 5, none⟩ = some v1 ∧ W.cell? ⟨g, 6, none⟩ = some v2 ∧ W.cell? ⟨g, 7, none⟩ = some v3 := ⟨h.c0, h.c1, h.c2, h.c3, h.c4, h.c5, h.c6, h.c7⟩
end
theorem sizeSeal : (Tryz.prog.info? 49).map (·.size) = some 8 := by kernel_rfl
section
variable {fn : Func} {Rp : Ending → World → Prop} {a : Act} {w : World}
/-- a seal answered out of its box -/
theorem ret_sl1 (c g : Nat) (x : Hd) (y : Int) (v1 v2 v3 : Value) (hres : fn.results = #[.cell c 49]) (hd : a.defers = []) (hp : a.tmps.getD c undef = .pointer (some ⟨g, 0, none⟩)) (hA : SlB 49 w g x y v1 v2 v3) (h : Rp (.returned (.agg #[.int .i64 x.h, .int .i64 x.e, .string x.r, .string x.p, .int .i64 y, v1, v2, v3])) w) : bodyPost Tryz.prog fn Rp .ret a w :=
  ret_rec c g 49 (slcs x y v1 v2 v3) _ hres hd hp Tryz.underlying49 rfl sizeSeal hA.range h
theorem ret_sl2 (c s g : Nat) (x : Hd) (y : Int) (v1 v2 v3 b : Value) (hres : fn.results = #[.cell c 49, .tmp s]) (hd : a.defers = []) (hp : a.tmps.getD c undef = .pointer (some ⟨g, 0, none⟩)) (hb : a.tmps.getD s undef = b) (hA : SlB 49 w g x y v1 v2 v3) (h : Rp (.returned (.tuple #[.agg #[.int .i64 x.h, .int .i64 x.e, .string x.r, .string x.p, .int .i64 y, v1, v2, v3], b])) w) : bodyPost Tryz.prog fn Rp .ret a w :=
  ret_rec2 c s g 49 (slcs x y v1 v2 v3) b _ hres hd hp hb Tryz.underlying49 rfl sizeSeal hA.range h
end

/-- is it a seal that has a text -/
def slOk (x : Hd) (a : Int) (o s d : List ByteArray) : Bool := HV.okH x && formB a o s d
/-- the text of a seal -/
def slB (x : Hd) (a : Int) (o s d : List ByteArray) : ByteArray := if slOk x a o s d = true then ⟨(M.varL (HV.txtH x).size).toArray⟩ ++ HV.txtH x ++ sigB a o s d else ⟨#[]⟩
theorem txtH_small {x : Hd} (h : HV.okH x = true) : (HV.txtH x).size ≤ 34 := by
  obtain ⟨_, _, hr, hp⟩ := HV.okH_iff.1 h
  rw [HV.txtH_b2, b2T_size, hr, hp]
  unfold HV.pw
  split <;> omega

theorem slB_size (x : Hd) (a : Int) (o s d : List ByteArray) : (slB x a o s d).size ≤ 400 := by
  unfold slB
  split
  · rename_i h
    unfold slOk at h
    rw [Bool.and_eq_true] at h
    have h1 := txtH_small h.1
    have h2 := sigB_size a o s d
    have h3 := varA_size (HV.txtH x).size
    rw [ByteArray.size_append, ByteArray.size_append]
    omega
  · exact Nat.zero_le _
end Go.Proofs.YtgkfelhjbeegaaaGreatDoor
/-
  A head read from its text: the program's and the specification's answers.
-/
namespace Go.Proofs.YtgkfelhjbeegaaaGreatDoor
open Go.RowKit Go.BigFrame Go.Sort
set_option linter.unusedVariables false
set_option linter.unusedSimpArgs false

namespace HV
def bt (d : ByteArray) (i : Nat) : UInt8 := d.data.toList.getD i 0
def rdH (t : ByteArray) : Hd := ⟨((bt t 0).toNat : Int), ((bt t 1).toNat : Int), t.extract 2 18, t.extract 18 t.size⟩
def rdOk (t : ByteArray) : Bool := decide (18 ≤ t.size) && okH (rdH t)
/-- what is read of a text: a head, or the zero one -/
def rdA (t : ByteArray) : Hd := if rdOk t = true then rdH t else ⟨0, 0, ⟨#[]⟩, ⟨#[]⟩⟩
end HV
theorem run_bt (d : ByteArray) (x : Int) (i : Nat) (hx : x = (i : Int)) (h : i < d.size) (w : World) : (Instr.index 9 (.string d) (.int .i64 x)).run Tryz.prog w = .ok (.int .u8 ((HV.bt d i).toNat : Int)) w := by
  subst hx
  rw [run_index_string (P := Tryz.prog) (w := w) 9 d .i64 _ Tryz.underlying9, dif_pos ⟨by omega, by omega⟩]
  have e : HV.bt d i = d[i] := by
    unfold HV.bt
    have : i < d.data.toList.length := by rw [Array.length_toList]; exact h
    rw [List.getD_eq_getElem?_getD, List.getElem?_eq_getElem this]
    simp
    rfl
  rw [e]
  simp
theorem run_cutH (b : ByteArray) (x y : Int) (i j : Nat) (hx : x = (i : Int)) (hy : y = (j : Int)) (hij : i ≤ j) (hj : j ≤ b.size) (W : World) : (Instr.slice 9 (.string b) (some (.int .i64 x)) (some (.int .i64 y)) none).run Tryz.prog W = .ok (.string (b.extract i j)) W := by
  subst hx
  subst hy
  rw [run_slice_string W 9 b .i64 .i64 _ _ Tryz.underlying9 (by omega) (by omega) (by omega)]
  simp
theorem run_endH (b : ByteArray) (x : Int) (i : Nat) (hx : x = (i : Int)) (hi : i ≤ b.size) (W : World) : (Instr.slice 9 (.string b) (some (.int .i64 x)) none none).run Tryz.prog W = .ok (.string (b.extract i b.size)) W := by
  rw [run_slice_string_from_if (P := Tryz.prog) (w := W) 9 b .i64 _ Tryz.underlying9, if_pos (by omega)]
  subst hx
  simp

end Go.Proofs.YtgkfelhjbeegaaaGreatDoor
/-
  Plain facts: a head comes back from its text, and a text from its head; another root makes another text.
-/
namespace Go.Proofs.YtgkfelhjbeegaaaGreatDoor
open Go.RowKit Go.BigFrame Go.Sort
set_option linter.unusedVariables false
set_option linter.unusedSimpArgs false

namespace HV
theorem b2T_list (b c : UInt8) (r p : ByteArray) : (b2T b c r p).data.toList = b :: c :: (r.data.toList ++ p.data.toList) := by
  unfold b2T
  simp
theorem ext_list {a b : ByteArray} (h : a.data.toList = b.data.toList) : a = b := ByteArray.ext (Array.toList_inj.1 h)
theorem extract_list (s : ByteArray) (a b : Nat) : (s.extract a b).data.toList = (s.data.toList.drop a).take (b - a) := by
  simp [ByteArray.data_extract, List.extract_eq_take_drop]
theorem b2T_r (b c : UInt8) (r p : ByteArray) (hr : r.size = 16) : (b2T b c r p).extract 2 18 = r := by
  apply ext_list
  rw [extract_list, b2T_list]
  have : r.data.toList.length = 16 := by rw [Array.length_toList]; exact hr
  show (r.data.toList ++ p.data.toList).take 16 = _
  rw [List.take_left' this]
theorem b2T_p (b c : UInt8) (r p : ByteArray) (hr : r.size = 16) : (b2T b c r p).extract 18 (b2T b c r p).size = p := by
  apply ext_list
  rw [extract_list, b2T_size, b2T_list]
  have h1 : r.data.toList.length = 16 := by rw [Array.length_toList]; exact hr
  have h2 : p.data.toList.length = p.size := Array.length_toList
  have h3 : (b :: c :: (r.data.toList ++ p.data.toList)).drop 18 = p.data.toList := by
    show (r.data.toList ++ p.data.toList).drop 16 = _
    rw [List.drop_left' h1]
  rw [h3, List.take_of_length_le (by omega)]
theorem b2T_0 (b c : UInt8) (r p : ByteArray) : bt (b2T b c r p) 0 = b := by
  unfold bt
  rw [b2T_list]
  rfl
theorem b2T_1 (b c : UInt8) (r p : ByteArray) : bt (b2T b c r p) 1 = c := by
  unfold bt
  rw [b2T_list]
  rfl
theorem rd_back {x : Hd} (h : okH x = true) : rdOk (txtH x) = true ∧ rdA (txtH x) = x := by
  obtain ⟨⟨h0, h1⟩, ⟨h2, h3⟩, h4, h5⟩ := okH_iff.1 h
  have e : rdH (txtH x) = x := by
    rw [txtH_b2]
    unfold rdH
    rw [b2T_0, b2T_1, b2T_r _ _ _ _ h4, b2T_p _ _ _ _ h4]
    obtain ⟨a, b, r, p⟩ := x
    simp only at *
    rw [← byte_int a a.toNat (by omega) (by omega), ← byte_int b b.toNat (by omega) (by omega)]
  have hk : rdOk (txtH x) = true := by
    unfold rdOk
    rw [e, h, Bool.and_true]
    refine decide_eq_true ?_
    rw [txtH_b2, b2T_size]
    omega
  refine ⟨hk, ?_⟩
  unfold rdA
  rw [if_pos hk, e]
theorem rd_text {u : ByteArray} (h : rdOk u = true) : textH (rdA u) = u := by
  have h' := h
  unfold rdOk at h'
  rw [Bool.and_eq_true, decide_eq_true_eq] at h'
  obtain ⟨h18, hk⟩ := h'
  have e : rdA u = rdH u := by unfold rdA; rw [if_pos h]
  rw [e]
  unfold textH
  rw [if_pos hk, txtH_b2]
  apply ext_list
  rw [b2T_list]
  unfold rdH
  simp only
  have hl : u.data.toList.length = u.size := Array.length_toList
  have hb : ∀ b : UInt8, UInt8.ofNat ((b.toNat : Int)).toNat = b := fun b => by simp
  rw [hb, hb, extract_list, extract_list]
  obtain ⟨⟨l⟩⟩ := u
  have hl2 : 18 ≤ l.length := by rw [← hl] at h18; exact h18
  match l, hl2 with
  | a :: b :: r, hl2 =>
    unfold bt
    have hr : 16 ≤ r.length := by simp at hl2; omega
    show a :: b :: (r.take 16 ++ (r.drop 16).take ((a :: b :: r).length - 18)) = a :: b :: r
    rw [List.take_of_length_le (l := r.drop 16) (by simp), List.take_append_drop]
theorem txt_ne {x : Hd} {r' : ByteArray} (h : okH x = true) (hz : r'.size = x.r.size) (hne : x.r ≠ r') : textH ⟨x.h, x.e, r', x.p⟩ ≠ txtH x := by
  obtain ⟨h1, h2, h4, h5⟩ := okH_iff.1 h
  have hk : okH ⟨x.h, x.e, r', x.p⟩ = true := okH_iff.2 ⟨h1, h2, by simp only; omega, h5⟩
  unfold textH
  rw [if_pos hk]
  intro he
  have e1 := (rd_back hk).2
  rw [he, (rd_back h).2] at e1
  exact hne (congrArg Hd.r e1)
theorem textH_size (x : Hd) (hr : x.r.size ≤ 20) (hp : x.p.size ≤ 20) : (textH x).size ≤ 42 := by
  unfold textH
  split
  · rw [txtH_b2, b2T_size]
    omega
  · show (⟨#[]⟩ : ByteArray).size ≤ 42
    decide
end HV

end Go.Proofs.YtgkfelhjbeegaaaGreatDoor
/-
  Plain facts: what is written as a signature is read back.
-/
namespace Go.Proofs.YtgkfelhjbeegaaaGreatDoor
set_option linter.unusedVariables false

theorem pieces {f : ByteArray → List UInt8} : ∀ (L : List ByteArray) (i : Nat) (h : i < L.length), (∀ p ∈ L, (f p).length = 16) → ((L.flatMap f).drop (i * 16)).take 16 = f L[i]
  | [], i, h, _ => absurd h (by simp)
  | p :: t, 0, h, hl => by
    have := hl p (by simp)
    rw [List.flatMap_cons, Nat.zero_mul, List.drop_zero, List.take_append_of_le_length (by omega), List.take_of_length_le (by omega)]
    rfl
  | p :: t, i + 1, h, hl => by
    have h1 := hl p (by simp)
    have e : (i + 1) * 16 = (f p).length + i * 16 := by omega
    rw [List.flatMap_cons, e, List.drop_append, List.drop_of_length_le (by omega), List.nil_append, Nat.add_sub_cancel_left, pieces t i (by simpa using h) (fun q hq => hl q (by simp [hq]))]
    rfl
theorem flat16 {f : ByteArray → List UInt8} : ∀ (L : List ByteArray), (∀ p ∈ L, (f p).length = 16) → (L.flatMap f).length = L.length * 16
  | [], _ => rfl
  | p :: t, hl => by
    rw [List.flatMap_cons, List.length_append, hl p (by simp), flat16 t (fun q hq => hl q (by simp [hq])), List.length_cons]
    omega
theorem ext_list (t : ByteArray) (i j : Nat) : (t.extract i j).data.toList = (t.data.toList.drop i).take (j - i) := by
  rw [ByteArray.data_extract, Array.toList_extract]
theorem kyB_piece (a : Nat) (L : List ByteArray) (i : Nat) (h : i < L.length) (hl : ∀ p ∈ L, p.size = 16) : (kyB a L).extract (1 + i * 16) (1 + (i + 1) * 16) = L[i] := by
  have hl' : ∀ p ∈ L, (p.data.toList).length = 16 := hl
  have h1 : ((kyB a L).extract (1 + i * 16) (1 + (i + 1) * 16)).data.toList = L[i].data.toList := by
    rw [ext_list, show 1 + (i + 1) * 16 - (1 + i * 16) = 16 by omega]
    have e : (kyB a L).data.toList = UInt8.ofNat a :: L.flatMap (fun p => p.data.toList) := by simp [kyB, kyL]
    rw [e, show 1 + i * 16 = i * 16 + 1 by omega, List.drop_succ_cons]
    exact pieces L i h hl'
  generalize (kyB a L).extract (1 + i * 16) (1 + (i + 1) * 16) = x at *
  generalize L[i] = y at *
  cases x
  cases y
  congr
  exact Array.toList_inj.1 h1
theorem kyB_16 (a : Nat) (L : List ByteArray) (hl : ∀ p ∈ L, p.size = 16) : (kyB a L).size = 1 + L.length * 16 := by
  show (kyL a L).toArray.size = _
  rw [List.size_toArray]
  unfold kyL
  rw [List.length_cons, flat16 L hl]
  omega
theorem kyB_cut (a : Nat) (A M Z : List ByteArray) (hl : ∀ p ∈ A ++ M ++ Z, p.size = 16) : cutL (kyB a (A ++ M ++ Z)) (1 + A.length * 16) M.length = M := by
  refine List.ext_getElem (by simp [cutL]) ?_
  intro i h1 h2
  have hi : A.length + i < (A ++ M ++ Z).length := by simp; omega
  have := kyB_piece a (A ++ M ++ Z) (A.length + i) hi hl
  have e : (A ++ M ++ Z)[A.length + i] = M[i] := by
    rw [List.getElem_append_left (by simp; omega), List.getElem_append_right (by omega)]
    simp
  rw [e] at this
  simp only [cutL, List.getElem_map, List.getElem_range]
  rw [show 1 + A.length * 16 + i * 16 = 1 + (A.length + i) * 16 by omega, show 1 + A.length * 16 + (i + 1) * 16 = 1 + (A.length + i + 1) * 16 by omega]
  exact this
/-- what is written as a signature is read back -/
theorem sig_back (a : Nat) (o s d : List ByteArray) (ha : a ≤ 15) (ho : o.length = 8) (hs : s.length = 8) (hd : d.length = 4) (hl : ∀ p ∈ o ++ s ++ d, p.size = 16) :
    rsOk (kyB a (o ++ s ++ d)) = true ∧ rsA (kyB a (o ++ s ++ d)) = (a : Int) ∧ rsO (kyB a (o ++ s ++ d)) = o ∧ rsS (kyB a (o ++ s ++ d)) = s ∧ rsD (kyB a (o ++ s ++ d)) = d := by
  have hz := kyB_16 a (o ++ s ++ d) hl
  have hb : (b0 (kyB a (o ++ s ++ d))).toNat = a := by
    have : b0 (kyB a (o ++ s ++ d)) = UInt8.ofNat a := by simp [b0, kyB, kyL]
    rw [this]
    simp
    omega
  have hok : rsOk (kyB a (o ++ s ++ d)) = true := by
    unfold rsOk
    rw [hb, hz]
    simp [ho, hs, hd, ha]
  have c1 := kyB_cut a [] o (s ++ d) (by simpa using hl)
  have c2 := kyB_cut a o s d hl
  have c3 := kyB_cut a (o ++ s) d [] (by simpa using hl)
  simp only [List.nil_append, List.length_nil, Nat.zero_mul, ho, hs, hd, List.length_append, List.append_nil, ← List.append_assoc] at c1 c2 c3
  refine ⟨hok, ?_, ?_, ?_, ?_⟩
  · unfold rsA; rw [hok, hb]; rfl
  · unfold rsO; rw [hok]; exact c1
  · unfold rsS; rw [hok]; exact c2
  · unfold rsD; rw [hok]; exact c3

end Go.Proofs.YtgkfelhjbeegaaaGreatDoor
