/-
  Changes as plain words: when one is right, its text; rows of changes as they lie in memory.
-/
import Derived.Test.YtiabodhgjeoejaaFw
import Derived.Test.YtiabodhgjeoejaaNam
namespace Go.Proofs.Ytiabodhgjeoejaa
open Go.RowKit Go.BigFrame Go.Sort
set_option linter.unusedVariables false
set_option linter.unusedSimpArgs false

structure Ug where
  i : Int
  n : ByteArray
  v : ByteArray

def ucs (x : Ug) : List Value := [.int .i64 x.i, .string x.n, .string x.v]
theorem ucs_len (x : Ug) : (ucs x).length = 3 := rfl
theorem RS.chg {w : World} {v : Value} {g o : Nat} {l : List Ug} (h : RS 3 ucs w v g o l) (j : Nat) (hj : j < l.length) :
    w.cell? ⟨g, o + j * 3, none⟩ = some (.int .i64 l[j].i) ∧ w.cell? ⟨g, o + j * 3 + 1, none⟩ = some (.string l[j].n) ∧ w.cell? ⟨g, o + j * 3 + 2, none⟩ = some (.string l[j].v) := by
  obtain ⟨a, c, _, _, _, hc⟩ := h
  exact ⟨hc j hj 0 _ rfl, hc j hj 1 _ rfl, hc j hj 2 _ rfl⟩

theorem below_drnU {B : Nat} {a w : World} (h : Below B a w) (n : Nat) : Below B a (w.drewN n) := h.trans ⟨rfl, rfl, rfl, Nat.le_refl _, fun _ _ => rfl⟩
/-- a change in its box -/
def BU (W : World) (p : Nat) (x : Ug) : Prop := W.heap[p]? = some (.cells #[.int .i64 x.i, .string x.n, .string x.v] 31 (0, 0))
theorem BU.new (w : World) (x : Ug) : BU (w.alloc (.cells #[.int .i64 x.i, .string x.n, .string x.v] 31)) w.heap.size x := Go.heap_alloc_new w _
theorem BU.lt {W : World} {p : Nat} {x : Ug} (h : BU W p x) : p < W.heap.size := (Array.getElem?_eq_some_iff.1 h).1
theorem BU.later {W W' : World} {p : Nat} {x : Ug} (h : BU W p x) (hb : Below W.heap.size W W') : BU W' p x := (hb.block p h.lt).trans h
theorem BU.grown {W W' : World} {p : Nat} {x : Ug} {row : Option Nat} (h : BU W p x) (hg : W.grownBy W' row) (hne : some p ≠ row) : BU W' p x := (hg.block p h.lt hne).trans h
theorem BU.range {W : World} {p : Nat} {x : Ug} (h : BU W p x) : W.rangeAt p 0 (ucs x) := fun j v hv => by
  rw [cell_of_row W p (0 + j) _ _ _ h, Nat.zero_add]
  simpa [ucs] using hv
theorem BU.c0 {W : World} {p : Nat} {x : Ug} (h : BU W p x) : W.cell? ⟨p, 0, none⟩ = some (.int .i64 x.i) := h.range 0 _ rfl
theorem BU.c1 {W : World} {p : Nat} {x : Ug} (h : BU W p x) : W.cell? ⟨p, 1, none⟩ = some (.string x.n) := h.range 1 _ rfl
theorem BU.c2 {W : World} {p : Nat} {x : Ug} (h : BU W p x) : W.cell? ⟨p, 2, none⟩ = some (.string x.v) := h.range 2 _ rfl
theorem BU.fz {W : World} {p : Nat} {x : Ug} (h : BU W p x) (j : Nat) : W.frozen? ⟨p, j, none⟩ = false := by simp [World.frozen?, show W.heap[p]? = _ from h]
theorem BU.there {W : World} {p : Nat} {x : Ug} (h : BU W p x) : W.there p 0 3 := fun j hj => by
  match j, hj with
  | 0, _ => exact ⟨by rw [h.c0]; rfl, h.fz _⟩
  | 1, _ => exact ⟨by rw [h.c1]; rfl, h.fz _⟩
  | 2, _ => exact ⟨by rw [h.c2]; rfl, h.fz _⟩
theorem BU.put {W : World} {p : Nat} {x : Ug} (h : BU W p x) (y : Ug) : BU (W.setCells p 0 (ucs y)) p y :=
  heap_setCell_same _ p 2 _ _ _ (heap_setCell_same _ p 1 _ _ _ (heap_setCell_same W p 0 _ _ _ h))
theorem BU.set0 {W : World} {p : Nat} {x : Ug} (h : BU W p x) (y : Int) : BU (W.setCell ⟨p, 0, none⟩ (.int .i64 y)) p ⟨y, x.n, x.v⟩ := heap_setCell_same W p 0 _ _ _ h
theorem BU.set1 {W : World} {p : Nat} {x : Ug} (h : BU W p x) (y : ByteArray) : BU (W.setCell ⟨p, 1, none⟩ (.string y)) p ⟨x.i, y, x.v⟩ := heap_setCell_same W p 1 _ _ _ h
theorem BU.set2 {W : World} {p : Nat} {x : Ug} (h : BU W p x) (y : ByteArray) : BU (W.setCell ⟨p, 2, none⟩ (.string y)) p ⟨x.i, x.n, y⟩ := heap_setCell_same W p 2 _ _ _ h

theorem sizeChange : (Try.prog.info? 31).map (·.size) = some 3 := by kernel_rfl
section
variable {fn : Func} {Rp : Ending → World → Prop} {a : Act} {w : World}
/-- a change answered out of its box -/
theorem ret_ug (c g : Nat) (x : Ug) (hres : fn.results = #[.cell c 31]) (hd : a.defers = []) (hp : a.tmps.getD c undef = .pointer (some ⟨g, 0, none⟩)) (hA : BU w g x) (h : Rp (.returned (.agg #[.int .i64 x.i, .string x.n, .string x.v])) w) : bodyPost Try.prog fn Rp .ret a w :=
  ret_rec c g 31 (ucs x) _ hres hd hp Try.underlying31 rfl sizeChange hA.range h
theorem ret_ug2 (c s g : Nat) (x : Ug) (b : Value) (hres : fn.results = #[.cell c 31, .tmp s]) (hd : a.defers = []) (hp : a.tmps.getD c undef = .pointer (some ⟨g, 0, none⟩)) (hb : a.tmps.getD s undef = b) (hA : BU w g x) (h : Rp (.returned (.tuple #[.agg #[.int .i64 x.i, .string x.n, .string x.v], b])) w) : bodyPost Try.prog fn Rp .ret a w :=
  ret_rec2 c s g 31 (ucs x) b _ hres hd hp hb Try.underlying31 rfl sizeChange hA.range h
end

namespace UV
/-- a value that may be, or none -/
def vOk (v : ByteArray) : Bool := v.toList.isEmpty || okB valB v
def okU (x : Ug) : Bool := decide (1 ≤ x.i ∧ x.i ≤ 99) && (okB nameB x.n && vOk x.v)
end UV

end Go.Proofs.Ytiabodhgjeoejaa
