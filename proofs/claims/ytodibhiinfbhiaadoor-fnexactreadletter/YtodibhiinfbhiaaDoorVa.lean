/-
  A letter as plain words, and in its box.
-/
import Derived.Test.YtodibhiinfbhiaaDoorFw
namespace Go.Proofs.YtodibhiinfbhiaaDoor
open Go.RowKit Go.BigFrame Go.Sort
set_option linter.unusedVariables false
set_option linter.unusedSimpArgs false

structure Ltr where
  k : Int
  f : Int
  t : Int
  e : Int
  y : Int
  r : ByteArray

def kcs (x : Ltr) : List Value := [.int .i64 x.k, .int .i64 x.f, .int .i64 x.t, .int .i64 x.e, .int .i64 x.y, .string x.r]
theorem kcs_len (x : Ltr) : (kcs x).length = 6 := rfl
/-- it lies in its box -/
def BK (W : World) (p : Nat) (x : Ltr) : Prop := W.heap[p]? = some (.cells #[.int .i64 x.k, .int .i64 x.f, .int .i64 x.t, .int .i64 x.e, .int .i64 x.y, .string x.r] 25 (0, 0))
theorem BK.new (w : World) (x : Ltr) : BK (w.alloc (.cells #[.int .i64 x.k, .int .i64 x.f, .int .i64 x.t, .int .i64 x.e, .int .i64 x.y, .string x.r] 25)) w.heap.size x := Go.heap_alloc_new w _
theorem BK.lt {W : World} {p : Nat} {x : Ltr} (h : BK W p x) : p < W.heap.size := (Array.getElem?_eq_some_iff.1 h).1
theorem BK.later {W W' : World} {p : Nat} {x : Ltr} (h : BK W p x) (hb : Below W.heap.size W W') : BK W' p x := (hb.block p h.lt).trans h
theorem BK.grown {W W' : World} {p : Nat} {x : Ltr} {row : Option Nat} (h : BK W p x) (hg : W.grownBy W' row) (hne : some p ≠ row) : BK W' p x := (hg.block p h.lt hne).trans h
theorem BK.range {W : World} {p : Nat} {x : Ltr} (h : BK W p x) : W.rangeAt p 0 (kcs x) := fun j v hv => by
  rw [cell_of_row W p (0 + j) _ _ _ h, Nat.zero_add]
  simpa [kcs] using hv
theorem BK.c0 {W : World} {p : Nat} {x : Ltr} (h : BK W p x) : W.cell? ⟨p, 0, none⟩ = some (.int .i64 x.k) := h.range 0 _ rfl
theorem BK.c1 {W : World} {p : Nat} {x : Ltr} (h : BK W p x) : W.cell? ⟨p, 1, none⟩ = some (.int .i64 x.f) := h.range 1 _ rfl
theorem BK.c2 {W : World} {p : Nat} {x : Ltr} (h : BK W p x) : W.cell? ⟨p, 2, none⟩ = some (.int .i64 x.t) := h.range 2 _ rfl
theorem BK.c3 {W : World} {p : Nat} {x : Ltr} (h : BK W p x) : W.cell? ⟨p, 3, none⟩ = some (.int .i64 x.e) := h.range 3 _ rfl
theorem BK.c4 {W : World} {p : Nat} {x : Ltr} (h : BK W p x) : W.cell? ⟨p, 4, none⟩ = some (.int .i64 x.y) := h.range 4 _ rfl
theorem BK.c5 {W : World} {p : Nat} {x : Ltr} (h : BK W p x) : W.cell? ⟨p, 5, none⟩ = some (.string x.r) := h.range 5 _ rfl
theorem BK.fz {W : World} {p : Nat} {x : Ltr} (h : BK W p x) (j : Nat) : W.frozen? ⟨p, j, none⟩ = false := by simp [World.frozen?, show W.heap[p]? = _ from h]
theorem BK.put {W : World} {p : Nat} {x : Ltr} (h : BK W p x) (y : Ltr) : BK (W.setCells p 0 (kcs y)) p y :=
  heap_setCell_same _ p 5 _ _ _ (heap_setCell_same _ p 4 _ _ _ (heap_setCell_same _ p 3 _ _ _ (heap_setCell_same _ p 2 _ _ _ (heap_setCell_same _ p 1 _ _ _ (heap_setCell_same W p 0 _ _ _ h)))))
theorem BK.set0 {W : World} {p : Nat} {x : Ltr} (h : BK W p x) (y : Int) : BK (W.setCell ⟨p, 0, none⟩ (.int .i64 y)) p ⟨y, x.f, x.t, x.e, x.y, x.r⟩ := heap_setCell_same W p 0 _ _ _ h
theorem BK.set1 {W : World} {p : Nat} {x : Ltr} (h : BK W p x) (y : Int) : BK (W.setCell ⟨p, 1, none⟩ (.int .i64 y)) p ⟨x.k, y, x.t, x.e, x.y, x.r⟩ := heap_setCell_same W p 1 _ _ _ h
theorem BK.set2 {W : World} {p : Nat} {x : Ltr} (h : BK W p x) (y : Int) : BK (W.setCell ⟨p, 2, none⟩ (.int .i64 y)) p ⟨x.k, x.f, y, x.e, x.y, x.r⟩ := heap_setCell_same W p 2 _ _ _ h
theorem BK.set3 {W : World} {p : Nat} {x : Ltr} (h : BK W p x) (y : Int) : BK (W.setCell ⟨p, 3, none⟩ (.int .i64 y)) p ⟨x.k, x.f, x.t, y, x.y, x.r⟩ := heap_setCell_same W p 3 _ _ _ h
theorem BK.set4 {W : World} {p : Nat} {x : Ltr} (h : BK W p x) (y : Int) : BK (W.setCell ⟨p, 4, none⟩ (.int .i64 y)) p ⟨x.k, x.f, x.t, x.e, y, x.r⟩ := heap_setCell_same W p 4 _ _ _ h
theorem BK.set5 {W : World} {p : Nat} {x : Ltr} (h : BK W p x) (y : ByteArray) : BK (W.setCell ⟨p, 5, none⟩ (.string y)) p ⟨x.k, x.f, x.t, x.e, x.y, y⟩ := heap_setCell_same W p 5 _ _ _ h
theorem sizeLetter : (Tryd.prog.info? 25).map (·.size) = some 6 := by kernel_rfl
section
variable {fn : Func} {Rp : Ending → World → Prop} {a : Act} {w : World}
/-- answered out of its box -/
theorem ret_ltr (c g : Nat) (x : Ltr) (hres : fn.results = #[.cell c 25]) (hd : a.defers = []) (hp : a.tmps.getD c undef = .pointer (some ⟨g, 0, none⟩)) (hA : BK w g x) (h : Rp (.returned (.agg #[.int .i64 x.k, .int .i64 x.f, .int .i64 x.t, .int .i64 x.e, .int .i64 x.y, .string x.r])) w) : bodyPost Tryd.prog fn Rp .ret a w :=
  ret_rec c g 25 (kcs x) _ hres hd hp Tryd.underlying25 rfl sizeLetter hA.range h
theorem ret_ltr2 (c s g : Nat) (x : Ltr) (b : Value) (hres : fn.results = #[.cell c 25, .tmp s]) (hd : a.defers = []) (hp : a.tmps.getD c undef = .pointer (some ⟨g, 0, none⟩)) (hb : a.tmps.getD s undef = b) (hA : BK w g x) (h : Rp (.returned (.tuple #[.agg #[.int .i64 x.k, .int .i64 x.f, .int .i64 x.t, .int .i64 x.e, .int .i64 x.y, .string x.r], b])) w) : bodyPost Tryd.prog fn Rp .ret a w :=
  ret_rec2 c s g 25 (kcs x) b _ hres hd hp hb Tryd.underlying25 rfl sizeLetter hA.range h
end

end Go.Proofs.YtodibhiinfbhiaaDoor
