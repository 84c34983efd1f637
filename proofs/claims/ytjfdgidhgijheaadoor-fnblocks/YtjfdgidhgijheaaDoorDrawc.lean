/-
  What is drawn for numbers and texts: DrawVarText, DrawHex.
-/
import Derived.Test.YtjfdgidhgijheaaDoorDrawb
namespace Go.Proofs.YtjfdgidhgijheaaDoor
open Go.RowKit
set_option linter.unusedVariables false

def LgRel (w : World) (n : Nat) (x : UInt8) (i : Value) (wr : World) : Prop :=
  ∃ k : Nat, k ≤ n ∧ i = .int .i64 k ∧ wr.ownsRow w.heap.size 5 1 (.slice (some ⟨w.heap.size, 0, none⟩) n n) n (bv (List.replicate k x ++ List.replicate (n - k) 0)) ∧ Below w.heap.size w wr

theorem lg_set (x : UInt8) (n k : Nat) (h : k < n) : (bv (List.replicate k x ++ List.replicate (n - k) 0)).set k (.int .u8 (x.toNat : Int)) = bv (List.replicate (k + 1) x ++ List.replicate (n - (k + 1)) 0) := by
  have e : n - k = (n - (k + 1)) + 1 := by omega
  have e2 : List.replicate k x ++ List.replicate (n - k) 0 = List.replicate k x ++ 0 :: List.replicate (n - (k + 1)) 0 := by rw [e, List.replicate_succ]
  have e3 : List.replicate (k + 1) x = List.replicate k x ++ [x] := List.replicate_succ'
  rw [e2, e3]
  unfold bv
  rw [List.map_append, List.map_cons, List.set_append_right _ _ (by simp), List.length_map, List.length_replicate, Nat.sub_self, List.set_cons_zero]
  simp

theorem l01PickInt_in (B : Nat) (w0 w : World) (g : Nat) (v : Value) (gl cap : Nat) (zs : List Int) (hc : Cur B w0 w g v) (h0 : 0 < zs.length) (h1 : zs.length ≤ 1000000) (hne : gl ≠ g) (hgl : gl < w.heap.size)
    (hcell : Hid (∀ j, (h : j < zs.length) → w.cell? ⟨gl, j, none⟩ = some (.int .i64 zs[j]))) :
    Calls Tryd.prog 23 #[.pointer (some ⟨g, 0, none⟩), .slice (some ⟨gl, 0, none⟩) zs.length cap] w fun e w' => ∃ y : Int, y ∈ zs ∧ e = .returned (.int .i64 y) ∧ Cur B w0 w' g v ∧ w.grownBy w' (some g) := by
  go_enter Tryd.func23, Tryd.ntmps23
  go_wp2_with fail
  refine (l01Below_nat B w0 _ g v zs.length hc h0 (by omega)).mono ?_
  rintro e w1 ⟨j, hj, rfl, hc1, hg1⟩
  have hcl : w1.cell? ⟨gl, j, none⟩ = some (.int .i64 zs[j]) := hg1.cell (hcell.out j hj) (by simpa using hne)
  go_wp2
  go_ret
  exact ⟨zs[j], List.getElem_mem _, rfl, hc1, hg1⟩

def numList : List Int := [-1, 0, 127, 128, 16383, 16384, 1000000000, 1000000001, 9223372036854775807, -9223372036854775808]
theorem numList_in (y : Int) (h : y ∈ numList) : -9223372036854775808 ≤ y ∧ y ≤ 9223372036854775807 := by
  simp [numList] at h
  omega

def numCells : Array Value := #[.int .i64 (-1), .int .i64 0, .int .i64 127, .int .i64 128, .int .i64 16383, .int .i64 16384, .int .i64 1000000000, .int .i64 1000000001, .int .i64 9223372036854775807, .int .i64 (-9223372036854775808)]
theorem numCells_at (w : World) : Hid (∀ j, (h : j < numList.length) → (w.alloc (.cells numCells 3)).cell? ⟨w.heap.size, j, none⟩ = some (.int .i64 numList[j])) := by
  intro j hj
  rw [World.cell?_alloc_at _ _ _ _ rfl]
  have : j = 0 ∨ j = 1 ∨ j = 2 ∨ j = 3 ∨ j = 4 ∨ j = 5 ∨ j = 6 ∨ j = 7 ∨ j = 8 ∨ j = 9 := by simp [numList] at hj; omega
  rcases this with rfl | rfl | rfl | rfl | rfl | rfl | rfl | rfl | rfl | rfl <;> rfl

end Go.Proofs.YtjfdgidhgijheaaDoor
