/-
  Texts laid together: Ha.
-/
import Derived.Test.YtaejeemjndmjcaaDoorPkS4
/-
  Heads as plain words: when one is right, its text; rows of heads as they lie in memory.
-/
namespace Go.Proofs.YtaejeemjndmjcaaDoor
open Go.RowKit Go.BigFrame Go.Sort
set_option linter.unusedVariables false
set_option linter.unusedSimpArgs false

structure Hd where
  h : Int
  e : Int
  r : ByteArray
  p : ByteArray

def hcs (x : Hd) : List Value := [.int .i64 x.h, .int .i64 x.e, .string x.r, .string x.p]
theorem hcs_len (x : Hd) : (hcs x).length = 4 := rfl
theorem RS.head {w : World} {v : Value} {g o : Nat} {l : List Hd} (h : RS 4 hcs w v g o l) (j : Nat) (hj : j < l.length) :
    w.cell? ⟨g, o + j * 4, none⟩ = some (.int .i64 l[j].h) ∧ w.cell? ⟨g, o + j * 4 + 1, none⟩ = some (.int .i64 l[j].e) ∧ w.cell? ⟨g, o + j * 4 + 2, none⟩ = some (.string l[j].r) ∧ w.cell? ⟨g, o + j * 4 + 3, none⟩ = some (.string l[j].p) := by
  obtain ⟨a, c, _, _, _, hc⟩ := h
  exact ⟨hc j hj 0 _ rfl, hc j hj 1 _ rfl, hc j hj 2 _ rfl, hc j hj 3 _ rfl⟩
theorem there4h {w : World} {g o : Nat} (h : w.there g o 4) : (∃ u, w.cell? ⟨g, o, none⟩ = some u) ∧ (∃ u, w.cell? ⟨g, o + 1, none⟩ = some u) ∧ (∃ u, w.cell? ⟨g, o + 2, none⟩ = some u) ∧ (∃ u, w.cell? ⟨g, o + 3, none⟩ = some u) ∧ w.frozen? ⟨g, o, none⟩ = false ∧ w.frozen? ⟨g, o + 1, none⟩ = false ∧ w.frozen? ⟨g, o + 2, none⟩ = false ∧ w.frozen? ⟨g, o + 3, none⟩ = false :=
  ⟨Option.isSome_iff_exists.1 (h 0 (by omega)).1, Option.isSome_iff_exists.1 (h 1 (by omega)).1, Option.isSome_iff_exists.1 (h 2 (by omega)).1, Option.isSome_iff_exists.1 (h 3 (by omega)).1, (h 0 (by omega)).2, (h 1 (by omega)).2, (h 2 (by omega)).2, (h 3 (by omega)).2⟩

theorem below_drnH {B : Nat} {a w : World} (h : Below B a w) (n : Nat) : Below B a (w.drewN n) := h.trans ⟨rfl, rfl, rfl, Nat.le_refl _, fun _ _ => rfl⟩
/-- a head in its box -/
def BH (W : World) (p : Nat) (x : Hd) : Prop := W.heap[p]? = some (.cells #[.int .i64 x.h, .int .i64 x.e, .string x.r, .string x.p] 25 (0, 0))
theorem BH.new (w : World) (x : Hd) : BH (w.alloc (.cells #[.int .i64 x.h, .int .i64 x.e, .string x.r, .string x.p] 25)) w.heap.size x := Go.heap_alloc_new w _
theorem BH.lt {W : World} {p : Nat} {x : Hd} (h : BH W p x) : p < W.heap.size := (Array.getElem?_eq_some_iff.1 h).1
theorem BH.later {W W' : World} {p : Nat} {x : Hd} (h : BH W p x) (hb : Below W.heap.size W W') : BH W' p x := (hb.block p h.lt).trans h
theorem BH.grown {W W' : World} {p : Nat} {x : Hd} {row : Option Nat} (h : BH W p x) (hg : W.grownBy W' row) (hne : some p ≠ row) : BH W' p x := (hg.block p h.lt hne).trans h
theorem BH.range {W : World} {p : Nat} {x : Hd} (h : BH W p x) : W.rangeAt p 0 (hcs x) := fun j v hv => by
  rw [cell_of_row W p (0 + j) _ _ _ h, Nat.zero_add]
  simpa [hcs] using hv
theorem BH.c0 {W : World} {p : Nat} {x : Hd} (h : BH W p x) : W.cell? ⟨p, 0, none⟩ = some (.int .i64 x.h) := h.range 0 _ rfl
theorem BH.c1 {W : World} {p : Nat} {x : Hd} (h : BH W p x) : W.cell? ⟨p, 1, none⟩ = some (.int .i64 x.e) := h.range 1 _ rfl
theorem BH.c2 {W : World} {p : Nat} {x : Hd} (h : BH W p x) : W.cell? ⟨p, 2, none⟩ = some (.string x.r) := h.range 2 _ rfl
theorem BH.c3 {W : World} {p : Nat} {x : Hd} (h : BH W p x) : W.cell? ⟨p, 3, none⟩ = some (.string x.p) := h.range 3 _ rfl
theorem BH.fz {W : World} {p : Nat} {x : Hd} (h : BH W p x) (j : Nat) : W.frozen? ⟨p, j, none⟩ = false := by simp [World.frozen?, show W.heap[p]? = _ from h]
theorem BH.there {W : World} {p : Nat} {x : Hd} (h : BH W p x) : W.there p 0 4 := fun j hj => by
  match j, hj with
  | 0, _ => exact ⟨by rw [h.c0]; rfl, h.fz _⟩
  | 1, _ => exact ⟨by rw [h.c1]; rfl, h.fz _⟩
  | 2, _ => exact ⟨by rw [h.c2]; rfl, h.fz _⟩
  | 3, _ => exact ⟨by rw [h.c3]; rfl, h.fz _⟩
theorem BH.put {W : World} {p : Nat} {x : Hd} (h : BH W p x) (y : Hd) : BH (W.setCells p 0 (hcs y)) p y :=
  heap_setCell_same _ p 3 _ _ _ (heap_setCell_same _ p 2 _ _ _ (heap_setCell_same _ p 1 _ _ _ (heap_setCell_same W p 0 _ _ _ h)))
theorem BH.set0 {W : World} {p : Nat} {x : Hd} (h : BH W p x) (y : Int) : BH (W.setCell ⟨p, 0, none⟩ (.int .i64 y)) p ⟨y, x.e, x.r, x.p⟩ := heap_setCell_same W p 0 _ _ _ h
theorem BH.set1 {W : World} {p : Nat} {x : Hd} (h : BH W p x) (y : Int) : BH (W.setCell ⟨p, 1, none⟩ (.int .i64 y)) p ⟨x.h, y, x.r, x.p⟩ := heap_setCell_same W p 1 _ _ _ h
theorem BH.set2 {W : World} {p : Nat} {x : Hd} (h : BH W p x) (y : ByteArray) : BH (W.setCell ⟨p, 2, none⟩ (.string y)) p ⟨x.h, x.e, y, x.p⟩ := heap_setCell_same W p 2 _ _ _ h
theorem BH.set3 {W : World} {p : Nat} {x : Hd} (h : BH W p x) (y : ByteArray) : BH (W.setCell ⟨p, 3, none⟩ (.string y)) p ⟨x.h, x.e, x.r, y⟩ := heap_setCell_same W p 3 _ _ _ h

theorem sizeHead : (Tryd.prog.info? 25).map (·.size) = some 4 := by kernel_rfl
section
variable {fn : Func} {Rp : Ending → World → Prop} {a : Act} {w : World}
/-- a head answered out of its box -/
theorem ret_hd (c g : Nat) (x : Hd) (hres : fn.results = #[.cell c 25]) (hd : a.defers = []) (hp : a.tmps.getD c undef = .pointer (some ⟨g, 0, none⟩)) (hA : BH w g x) (h : Rp (.returned (.agg #[.int .i64 x.h, .int .i64 x.e, .string x.r, .string x.p])) w) : bodyPost Tryd.prog fn Rp .ret a w :=
  ret_rec c g 25 (hcs x) _ hres hd hp Tryd.underlying25 rfl sizeHead hA.range h
theorem ret_hd2 (c s g : Nat) (x : Hd) (b : Value) (hres : fn.results = #[.cell c 25, .tmp s]) (hd : a.defers = []) (hp : a.tmps.getD c undef = .pointer (some ⟨g, 0, none⟩)) (hb : a.tmps.getD s undef = b) (hA : BH w g x) (h : Rp (.returned (.tuple #[.agg #[.int .i64 x.h, .int .i64 x.e, .string x.r, .string x.p], b])) w) : bodyPost Tryd.prog fn Rp .ret a w :=
  ret_rec2 c s g 25 (hcs x) b _ hres hd hp hb Tryd.underlying25 rfl sizeHead hA.range h
end

namespace HV
def pw (e : Int) : Nat := if e = 1 then 0 else 16
def OkH (x : Hd) : Prop := (0 ≤ x.h ∧ x.h < 3) ∧ (1 ≤ x.e ∧ x.e ≤ 4) ∧ x.r.size = 16 ∧ x.p.size = pw x.e
def okH (x : Hd) : Bool := decide ((0 ≤ x.h ∧ x.h < 3) ∧ (1 ≤ x.e ∧ x.e ≤ 4) ∧ x.r.size = 16 ∧ x.p.size = pw x.e)
theorem okH_iff {x : Hd} : okH x = true ↔ OkH x := by
  unfold okH OkH
  exact decide_eq_true_iff
theorem okH_no {x : Hd} : okH x = false ↔ ¬ OkH x := by
  unfold okH OkH
  exact decide_eq_false_iff_not
/-- its text, when it is right -/
def txtH (x : Hd) : ByteArray := ⟨#[UInt8.ofNat x.h.toNat, UInt8.ofNat x.e.toNat]⟩ ++ x.r ++ x.p
/-- .. and else nothing -/
def textH (x : Hd) : ByteArray := if okH x = true then txtH x else ⟨#[]⟩
end HV

end Go.Proofs.YtaejeemjndmjcaaDoor
