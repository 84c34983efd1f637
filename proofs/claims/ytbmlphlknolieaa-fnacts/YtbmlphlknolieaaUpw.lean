/-
  Worlds one above another, and a disk answered into a box that is made at any time.
-/
import Derived.Test.YtbmlphlknolieaaLsl
namespace Go.Proofs.Ytbmlphlknolieaa
open Go.RowKit Go.BigFrame Go.Sort
set_option linter.unusedVariables false
set_option linter.unusedSimpArgs false

/-- a world above another: nothing that was there has turned -/
def Up (V W : World) : Prop := Below V.heap.size V W
theorem Up.refl (V : World) : Up V V := Below.refl _ _
theorem Up.step {V W X : World} (h : Up V W) (hb : Up W X) : Up V X := Below.trans h (Below.mono hb h.size)
theorem Up.alloc {V W : World} (h : Up V W) (o : Obj) : Up V (W.alloc o) := Below.alloc h h.size o
theorem Up.drew {V W : World} (h : Up V W) : Up V W.drew := Below.drew h
/-- the box, empty yet, above V -/
def Bx (V W : World) (q : Nat) : Prop := BD W q 26 (.slice none 0 0) ∧ V.heap.size ≤ q
theorem Bx.new {V W : World} (h : Up V W) : Bx V (W.alloc (.cells #[.slice none 0 0] 26)) W.heap.size := ⟨BD.new W _ _, h.size⟩
theorem Bx.up {V W X : World} {q : Nat} (h : Bx V W q) (hb : Up W X) : Bx V X q := ⟨h.1.later hb, h.2⟩
theorem Bx.le {V W : World} {q : Nat} (h : Bx V W q) : V.heap.size ≤ q := h.2
theorem Bx.lt {V W : World} {q : Nat} (h : Bx V W q) : q < W.heap.size := h.1.lt
theorem Bx.cell {V W : World} {q : Nat} (h : Bx V W q) : W.cell? ⟨q, 0, none⟩ = some (.slice none 0 0) := h.1.cell
theorem Bx.fr {V W : World} {q : Nat} (h : Bx V W q) : W.frozen? ⟨q, 0, none⟩ = false := h.1.fr
theorem Up.set {V W : World} {q : Nat} (h : Up V W) (hq : V.heap.size ≤ q) (u : Value) : Up V (W.setCell ⟨q, 0, none⟩ u) := Below.setCell (p := ⟨q, 0, none⟩) h hq u
theorem RS.up {W X : World} {v : Value} {g o : Nat} {l : List Fl} (h : RS 3 fcs W v g o l) (hb : Up W X) : RS 3 fcs X v g o l := h.later hb
/-- behind a region that makes a disk and its box: both new -/
def Rg (V W : World) (q : Nat) (s : Value) (p : Nat) (M : List Fl) : Prop := Up V W ∧ XD W q s p M ∧ V.heap.size ≤ q ∧ q < W.heap.size ∧ V.heap.size ≤ p ∧ (0 < M.length → p < W.heap.size ∧ q ≠ p)
theorem Rg.last {V v : World} {s : Value} {p : Nat} {M : List Fl} (hb : Up V v) (hr : RW 3 fcs v s p M) (hp : V.heap.size ≤ p) : Rg V (v.alloc (.cells #[s] 26)) v.heap.size s p M :=
  ⟨hb.alloc _, XD.new hr, hb.size, by simp, hp, fun h => ⟨by have := hr.lt h; simp; omega, by have := hr.lt h; omega⟩⟩
theorem Rg.early {V v : World} {q : Nat} {s : Value} {p : Nat} {M : List Fl} (hq : Bx V v q) (hb : Up V v) (hr : RW 3 fcs v s p M) (hqp : q < p) : Rg V (v.setCell ⟨q, 0, none⟩ s) q s p M := by
  have hsz : (v.setCell ⟨q, 0, none⟩ s).heap.size = v.heap.size := by simp [World.setCell]
  have hV := hq.2
  refine ⟨hb.set hV _, ⟨?_, hr.grown (grown_set v q 0 s) (fun _ h => by simp at h; omega)⟩, hV, by rw [hsz]; exact hq.1.lt, by omega, fun h => ⟨by rw [hsz]; exact hr.lt h, by omega⟩⟩
  unfold BD
  rw [heap_setCell_same v q 0 _ _ _ hq.1]
  rfl
theorem cut_rg {V : World} {M : List Fl} {R : Prop} {G : Option Addr → Nat → Option Addr → Nat → Nat → World → Nat → Prop} (r : Hid (∀ a2 c2 a4 c4 p4 W q, Rg V W q (.slice a4 M.length c4) p4 M → G a2 c2 a4 c4 p4 W q) → R)
    (k : ∀ a2 c2 a4 c4 p4 W q, Rg V W q (.slice a4 M.length c4) p4 M → G a2 c2 a4 c4 p4 W q) : R := r k
theorem cut_rg' {V : World} {M : List Fl} {R : Prop} {G : Option Addr → Nat → Nat → World → Nat → Prop} (r : Hid (∀ a4 c4 p4 W q, Rg V W q (.slice a4 M.length c4) p4 M → G a4 c4 p4 W q) → R)
    (k : ∀ a4 c4 p4 W q, Rg V W q (.slice a4 M.length c4) p4 M → G a4 c4 p4 W q) : R := r k

end Go.Proofs.Ytbmlphlknolieaa
