/-
  An array of 32-bit words in a block of its own; the rotation, the first numbers and the keys.
-/
import Derived.Test.YtjfdgidhgijheaaDoorSha
import Derived.Laws.Rows
import Derived.Deep.QuietTactic
import Derived.BigQuiet
namespace Go.Proofs.YtjfdgidhgijheaaDoor
open Go.RowKit
set_option linter.unusedVariables false

/-- block g holds the n words f -/
def Arr (w : World) (g t n : Nat) (f : Nat → UInt32) : Prop :=
  ∃ cs : Array Value, w.heap[g]? = some (.cells cs t (0, 0)) ∧ cs.size = n ∧ ∀ i, i < n → cs[i]? = some (.int .u32 ((f i).toNat : Int))

theorem Arr.cell {w : World} {g t n : Nat} {f : Nat → UInt32} (h : Arr w g t n f) (i : Nat) (hi : i < n) : w.cell? ⟨g, i, none⟩ = some (.int .u32 ((f i).toNat : Int)) := by
  obtain ⟨cs, h1, h2, h3⟩ := h
  simp [World.cell?, h1, h3 i hi]
theorem Arr.frozen {w : World} {g t n : Nat} {f : Nat → UInt32} (h : Arr w g t n f) (i : Nat) : w.frozen? ⟨g, i, none⟩ = false := by
  obtain ⟨cs, h1, h2, h3⟩ := h
  simp [World.frozen?, h1]
theorem Arr.lt {w : World} {g t n : Nat} {f : Nat → UInt32} (h : Arr w g t n f) : g < w.heap.size := by
  obtain ⟨cs, h1, _⟩ := h
  exact (Array.getElem?_eq_some_iff.1 h1).1
theorem Arr.set {w : World} {g t n : Nat} {f : Nat → UInt32} (h : Arr w g t n f) (i : Nat) (hi : i < n) (x : UInt32) : Arr (w.setCell ⟨g, i, none⟩ (.int .u32 (x.toNat : Int))) g t n (H.upd f i x) := by
  obtain ⟨cs, h1, h2, h3⟩ := h
  refine ⟨_, heap_setCell_same w g i cs t _ h1, by simpa using h2, fun j hj => ?_⟩
  rw [Array.getElem?_setIfInBounds]
  by_cases he : i = j
  · subst he
    simp [H.upd, h2, hi]
  · have : j ≠ i := fun e => he e.symm
    simp [H.upd, he, this, h3 j hj]
theorem Arr.keep {w w' : World} {g t n : Nat} {f : Nat → UInt32} (h : Arr w g t n f) (hh : w'.heap[g]? = w.heap[g]?) : Arr w' g t n f := by
  obtain ⟨cs, h1, h2⟩ := h
  exact ⟨cs, by rw [hh]; exact h1, h2⟩
theorem Arr.other {w : World} {g t n : Nat} {f : Nat → UInt32} (h : Arr w g t n f) (k i : Nat) (v : Value) (hk : g ≠ k) : Arr (w.setCell ⟨k, i, none⟩ v) g t n f :=
  h.keep (heap_setCell_other w ⟨k, i, none⟩ g v hk)
theorem Arr.alloc {w : World} {g t n : Nat} {f : Nat → UInt32} (h : Arr w g t n f) (o : Obj) : Arr (w.alloc o) g t n f := by
  have hl := h.lt
  refine h.keep ?_
  have hn : g ≠ w.heap.size := by omega
  simp [World.alloc, -World.alloc_eq, Array.getElem?_push, hn]
theorem Arr.new (w : World) (cs : Array Value) (t n : Nat) (f : Nat → UInt32) (h : cs.size = n) (hc : ∀ i, i < n → cs[i]? = some (.int .u32 ((f i).toNat : Int))) : Arr (w.alloc (.cells cs t)) w.heap.size t n f :=
  ⟨cs, heap_alloc_new w _, h, hc⟩
theorem Arr.drewN {w : World} {g t n : Nat} {f : Nat → UInt32} (h : Arr w g t n f) (k : Nat) : Arr (w.drewN k) g t n f := h

theorem Turn_any (x : UInt32) (n : Nat) (w : World) (hn : n = 2 ∨ n = 6 ∨ n = 7 ∨ n = 11 ∨ n = 13 ∨ n = 17 ∨ n = 18 ∨ n = 19 ∨ n = 22 ∨ n = 25) :
    Calls Tryd.prog 35 #[.int .u32 (x.toNat : Int), .int .u64 (n : Int)] w fun e w' => e = .returned (.int .u32 ((H.rotr x n).toNat : Int)) ∧ w' = w := by
  have hr := H.brot x n (by omega)
  rcases hn with rfl | rfl | rfl | rfl | rfl | rfl | rfl | rfl | rfl | rfl
  all_goals
    go_enter Tryd.func35, Tryd.ntmps35
    go_wp2
    go_ret
    refine ⟨?_, rfl⟩
    rw [← hr]
    rfl

theorem Turn2 (x : UInt32) (w : World) : Calls Tryd.prog 35 #[.int .u32 (x.toNat : Int), .int .u64 2] w fun e w' => e = .returned (.int .u32 ((H.rotr x 2).toNat : Int)) ∧ w' = w := Turn_any x 2 w (by omega)
theorem Turn6 (x : UInt32) (w : World) : Calls Tryd.prog 35 #[.int .u32 (x.toNat : Int), .int .u64 6] w fun e w' => e = .returned (.int .u32 ((H.rotr x 6).toNat : Int)) ∧ w' = w := Turn_any x 6 w (by omega)
theorem Turn7 (x : UInt32) (w : World) : Calls Tryd.prog 35 #[.int .u32 (x.toNat : Int), .int .u64 7] w fun e w' => e = .returned (.int .u32 ((H.rotr x 7).toNat : Int)) ∧ w' = w := Turn_any x 7 w (by omega)
theorem Turn11 (x : UInt32) (w : World) : Calls Tryd.prog 35 #[.int .u32 (x.toNat : Int), .int .u64 11] w fun e w' => e = .returned (.int .u32 ((H.rotr x 11).toNat : Int)) ∧ w' = w := Turn_any x 11 w (by omega)
theorem Turn13 (x : UInt32) (w : World) : Calls Tryd.prog 35 #[.int .u32 (x.toNat : Int), .int .u64 13] w fun e w' => e = .returned (.int .u32 ((H.rotr x 13).toNat : Int)) ∧ w' = w := Turn_any x 13 w (by omega)
theorem Turn17 (x : UInt32) (w : World) : Calls Tryd.prog 35 #[.int .u32 (x.toNat : Int), .int .u64 17] w fun e w' => e = .returned (.int .u32 ((H.rotr x 17).toNat : Int)) ∧ w' = w := Turn_any x 17 w (by omega)
theorem Turn18 (x : UInt32) (w : World) : Calls Tryd.prog 35 #[.int .u32 (x.toNat : Int), .int .u64 18] w fun e w' => e = .returned (.int .u32 ((H.rotr x 18).toNat : Int)) ∧ w' = w := Turn_any x 18 w (by omega)
theorem Turn19 (x : UInt32) (w : World) : Calls Tryd.prog 35 #[.int .u32 (x.toNat : Int), .int .u64 19] w fun e w' => e = .returned (.int .u32 ((H.rotr x 19).toNat : Int)) ∧ w' = w := Turn_any x 19 w (by omega)
theorem Turn22 (x : UInt32) (w : World) : Calls Tryd.prog 35 #[.int .u32 (x.toNat : Int), .int .u64 22] w fun e w' => e = .returned (.int .u32 ((H.rotr x 22).toNat : Int)) ∧ w' = w := Turn_any x 22 w (by omega)
theorem Turn25 (x : UInt32) (w : World) : Calls Tryd.prog 35 #[.int .u32 (x.toNat : Int), .int .u64 25] w fun e w' => e = .returned (.int .u32 ((H.rotr x 25).toNat : Int)) ∧ w' = w := Turn_any x 25 w (by omega)

end Go.Proofs.YtjfdgidhgijheaaDoor
