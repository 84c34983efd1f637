/-
  A drawn act, as the specification's l06Act draws it.
-/
import Derived.Test.YtbmlphlknolieaaKd
import Derived.Test.YtbmlphlknolieaaAw
namespace Go.Proofs.Ytbmlphlknolieaa
open Go.RowKit Go.BigFrame Go.Sort
set_option linter.unusedVariables false
set_option linter.unusedSimpArgs false

/-- an act in its box -/
def AB (W : World) (p : Nat) (a : Ac) : Prop := W.heap[p]? = some (.cells #[.int .i64 a.k, .string a.n, .string a.t, .string a.o] 45 (0, 0))
theorem AB.lt {W : World} {p : Nat} {a : Ac} (h : AB W p a) : p < W.heap.size := (Array.getElem?_eq_some_iff.1 h).1
theorem AB.grown {W W' : World} {p : Nat} {a : Ac} {row : Option Nat} (h : AB W p a) (hg : W.grownBy W' row) (hne : some p ≠ row) : AB W' p a := (hg.block p h.lt hne).trans h
theorem AB.c0 {W : World} {p : Nat} {a : Ac} (h : AB W p a) : W.cell? ⟨p, 0, none⟩ = some (.int .i64 a.k) := by rw [cell_of_row _ _ 0 _ _ _ h]; rfl
theorem AB.c1 {W : World} {p : Nat} {a : Ac} (h : AB W p a) : W.cell? ⟨p, 1, none⟩ = some (.string a.n) := by rw [cell_of_row _ _ 1 _ _ _ h]; rfl
theorem AB.c2 {W : World} {p : Nat} {a : Ac} (h : AB W p a) : W.cell? ⟨p, 2, none⟩ = some (.string a.t) := by rw [cell_of_row _ _ 2 _ _ _ h]; rfl
theorem AB.c3 {W : World} {p : Nat} {a : Ac} (h : AB W p a) : W.cell? ⟨p, 3, none⟩ = some (.string a.o) := by rw [cell_of_row _ _ 3 _ _ _ h]; rfl
theorem AB.fr {W : World} {p : Nat} {a : Ac} (h : AB W p a) (j : Nat) : W.frozen? ⟨p, j, none⟩ = false := by
  unfold AB at h
  simp only [World.frozen?, h]
  simp
theorem AB.set0 {W : World} {p : Nat} {a : Ac} (h : AB W p a) (x : Int) : AB (W.setCell ⟨p, 0, none⟩ (.int .i64 x)) p ⟨x, a.n, a.t, a.o⟩ := by
  have e := heap_setCell_same W p 0 _ 45 (.int .i64 x) h
  simpa [AB] using e
theorem AB.set1 {W : World} {p : Nat} {a : Ac} (h : AB W p a) (x : ByteArray) : AB (W.setCell ⟨p, 1, none⟩ (.string x)) p ⟨a.k, x, a.t, a.o⟩ := by
  have e := heap_setCell_same W p 1 _ 45 (.string x) h
  simpa [AB] using e
theorem AB.set2 {W : World} {p : Nat} {a : Ac} (h : AB W p a) (x : ByteArray) : AB (W.setCell ⟨p, 2, none⟩ (.string x)) p ⟨a.k, a.n, x, a.o⟩ := by
  have e := heap_setCell_same W p 2 _ 45 (.string x) h
  simpa [AB] using e
theorem AB.set3 {W : World} {p : Nat} {a : Ac} (h : AB W p a) (x : ByteArray) : AB (W.setCell ⟨p, 3, none⟩ (.string x)) p ⟨a.k, a.n, a.t, x⟩ := by
  have e := heap_setCell_same W p 3 _ 45 (.string x) h
  simpa [AB] using e

/-- a cursor, an act in its box, and the box of what is answered -/
def AcS (B : Nat) (w0 w : World) (g : Nat) (v : Value) (r p : Nat) (a : Ac) (W : World) : Prop :=
  Cur B w0 W g v ∧ w.grownBy W (some g) ∧ AB W p a ∧ AB W r ⟨0, ⟨#[]⟩, ⟨#[]⟩, ⟨#[]⟩⟩ ∧ (w.heap.size ≤ r ∧ r ≠ p ∧ w.heap.size ≤ p ∧ r ≠ g ∧ p ≠ g ∧ B ≤ w.heap.size) ∧ a.n.size ≤ 9 ∧ a.t.size ≤ 9 ∧ a.o.size ≤ 9
theorem AcS.call {B : Nat} {w0 w : World} {g : Nat} {v : Value} {r p : Nat} {a : Ac} {W W' : World} (h : AcS B w0 w g v r p a W) (hc : Cur B w0 W' g v) (hg : W.grownBy W' (some g)) : AcS B w0 w g v r p a W' :=
  ⟨hc, h.2.1.trans hg, h.2.2.1.grown hg (by simpa using h.2.2.2.2.1.2.2.2.2.1), h.2.2.2.1.grown hg (by simpa using h.2.2.2.2.1.2.2.2.1), h.2.2.2.2⟩
theorem AcS.store {B : Nat} {w0 w : World} {g : Nat} {v : Value} {r p : Nat} {a b : Ac} {W W' : World} (h : AcS B w0 w g v r p a W) (hg : W.grownBy W' (some p)) (hb : AB W' p b) (hz : b.n.size ≤ 9 ∧ b.t.size ≤ 9 ∧ b.o.size ≤ 9) : AcS B w0 w g v r p b W' := by
  obtain ⟨q1, q2, q3, q4, q5, q6⟩ := h.2.2.2.2.1
  exact ⟨h.1.kept hg (by simpa using fun e : g = p => q5 e.symm) h.1.size (fun k hk => by cases hk; omega), grow_then h.2.1 hg (fun j hj => by cases hj; exact .inl q3), hb, h.2.2.2.1.grown hg (by simpa using q2), ⟨q1, q2, q3, q4, q5, q6⟩, hz⟩
theorem AcS.new {B : Nat} {w0 w w1 : World} {g : Nat} {v : Value} {r : Nat} {a : Ac} (hc : Cur B w0 w1 g v) (hg : w.grownBy w1 (some g)) (hr : AB w1 r ⟨0, ⟨#[]⟩, ⟨#[]⟩, ⟨#[]⟩⟩) (hz : a.n.size ≤ 9 ∧ a.t.size ≤ 9 ∧ a.o.size ≤ 9) (h1 : w.heap.size ≤ r) (h2 : r ≠ g) (h3 : B ≤ w.heap.size) : AcS B w0 w g v r w1.heap.size a (w1.alloc (.cells #[.int .i64 a.k, .string a.n, .string a.t, .string a.o] 45)) := by
  have hgl := hc.lt
  have hrl := hr.lt
  have hs := hg.size
  exact ⟨hc.kept (World.grownBy_alloc w1 _ none) (by simp) hc.size (fun k hk => by cases hk), hg.trans (World.grownBy_alloc w1 _ (some g)), Go.heap_alloc_new w1 _, hr.grown (World.grownBy_alloc w1 _ none) (by simp), ⟨h1, by omega, hs, h2, by omega, h3⟩, hz⟩

def actN : List ByteArray := [⟨#[]⟩, ⟨#[49, 50, 51, 52, 53, 54, 55, 56, 57]⟩, ⟨#[110, 101, 119]⟩]
def actNC : Array Value := #[.string ⟨#[]⟩, .string ⟨#[49, 50, 51, 52, 53, 54, 55, 56, 57]⟩, .string ⟨#[110, 101, 119]⟩]
theorem actN_at (w : World) : Hid (∀ j, (h : j < actN.length) → (w.alloc (.cells actNC 9)).cell? ⟨w.heap.size, j, none⟩ = some (.string actN[j])) := by
  intro j hj
  rw [World.cell?_alloc_at _ _ _ _ rfl]
  have : j = 0 ∨ j = 1 ∨ j = 2 := by simp [actN] at hj; omega
  rcases this with rfl | rfl | rfl <;> rfl
theorem actN_ok (y : ByteArray) (h : y ∈ actN) : y.size ≤ 9 := by
  simp only [actN, List.mem_cons, List.not_mem_nil, or_false] at h
  rcases h with rfl | rfl | rfl
  · show 0 ≤ 9; omega
  · show 9 ≤ 9; omega
  · show 3 ≤ 9; omega
theorem pickN_in (B : Nat) (w0 w : World) (g : Nat) (v : Value) (hc : Cur B w0 w g v) :
    Calls Try.prog 76 #[.pointer (some ⟨g, 0, none⟩), .slice (some ⟨w.heap.size, 0, none⟩) 3 3] (w.alloc (.cells actNC 9)) fun e w' => ∃ y : ByteArray, y.size ≤ 9 ∧ e = .returned (.string y) ∧ Cur B w0 w' g v ∧ w.grownBy w' (some g) := by
  have hlt := hc.lt
  have hga : w.grownBy (w.alloc (.cells actNC 9)) (some g) := World.grownBy_alloc w _ _
  have hca : Cur B w0 (w.alloc (.cells actNC 9)) g v := hc.kept (World.grownBy_alloc w _ none) (by simp) hc.size (fun k hk => by cases hk)
  exact (l01Pick_in B w0 (w.alloc (.cells actNC 9)) g v w.heap.size 3 actN hca (by decide) (by decide) (by omega) (actN_at w)).mono fun e w' ⟨y, hy, he, hc', hg⟩ => ⟨y, actN_ok y hy, he, hc', hga.trans hg⟩
def actK : List Int := [0, 5]
def actKC : Array Value := #[.int .i64 0, .int .i64 5]
theorem actK_at (w : World) : Hid (∀ j, (h : j < actK.length) → (w.alloc (.cells actKC 3)).cell? ⟨w.heap.size, j, none⟩ = some (.int .i64 actK[j])) := by
  intro j hj
  rw [World.cell?_alloc_at _ _ _ _ rfl]
  have : j = 0 ∨ j = 1 := by simp [actK] at hj; omega
  rcases this with rfl | rfl <;> rfl
theorem pickK_in (B : Nat) (w0 w : World) (g : Nat) (v : Value) (hc : Cur B w0 w g v) :
    Calls Try.prog 79 #[.pointer (some ⟨g, 0, none⟩), .slice (some ⟨w.heap.size, 0, none⟩) 2 2] (w.alloc (.cells actKC 3)) fun e w' => ∃ y : Int, e = .returned (.int .i64 y) ∧ Cur B w0 w' g v ∧ w.grownBy w' (some g) := by
  have hlt := hc.lt
  have hga : w.grownBy (w.alloc (.cells actKC 3)) (some g) := World.grownBy_alloc w _ _
  have hca : Cur B w0 (w.alloc (.cells actKC 3)) g v := hc.kept (World.grownBy_alloc w _ none) (by simp) hc.size (fun k hk => by cases hk)
  exact (l01PickInt_in B w0 (w.alloc (.cells actKC 3)) g v w.heap.size 2 actK hca (by decide) (by decide) (by omega) (by simp) (actK_at w)).mono fun e w' ⟨y, hy, he, hc', hg⟩ => ⟨y, he, hc', hga.trans hg⟩

end Go.Proofs.Ytbmlphlknolieaa
