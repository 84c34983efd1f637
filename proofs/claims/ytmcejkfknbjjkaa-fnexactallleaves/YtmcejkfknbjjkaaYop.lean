/-
  A row of rows of leaves that a law is handed.
-/
import Derived.Test.YtmcejkfknbjjkaaYsz
import Derived.Test.YtmcejkfknbjjkaaOp
namespace Go.Proofs.Ytmcejkfknbjjkaa
open Go.ChangeShapes Go.WideShapes Go.ChangeAt Go.RowKit
set_option linter.unusedVariables false
set_option linter.unusedSimpArgs false
namespace LV

set_option maxRecDepth 100000 in
theorem open_leaves_in {H : Type} {enc : TypeId × Value → H} {W : World} {fuel : Nat} {v : Value} {x : DataW H × List MemPlace} (hf : DataW.trod enc Try.prog W 0 (fun _ => true) true fuel 35 [v] = some x) :
    ∃ g o l, IsRowL W v g o l := by
  rcases Deep.open_slice Try.underlying35 hf with ⟨hcs, _⟩ | ⟨a, len, cap, m, n, D, Pl, hcs, _, hlc, hcm, hm, _, hx⟩
  · simp at hcs
    subst hcs
    exact ⟨0, 0, [], none, 0, 0, rfl, by omega, fun _ => ⟨rfl, RS.nil W 0 0, fun f hf => absurd hf (by simp)⟩⟩
  · simp at hcs
    subst hcs
    have hx' : ∀ i, i < len → ∃ f : Le, (∀ j u, (lcs f)[j]? = some u → W.cell? (a.add (i * 2 + j)) = some u) ∧ f.n.size ≤ maxLen ∧ f.v.size ≤ maxLen := fun i hi => by
      obtain ⟨cs', h1, h2⟩ := hx i (by rw [hm]; split <;> omega)
      obtain ⟨f, rfl, b0, b1⟩ := leaf_of_trod h2
      rw [cellsLLeaf] at h1
      obtain ⟨_, _, hc⟩ := World.cells?_some h1
      refine ⟨f, fun j u hu => ?_, b0, b1⟩
      have hj : j < 2 := by have := (List.getElem?_eq_some_iff.1 hu).1; simpa [lcs] using this
      have := hc j hj
      rw [addr_add] at this
      rw [this, hu]
    obtain ⟨l, hl, hp⟩ := list_of len hx'
    refine ⟨a.block, a.off, l, some a, len, cap, rfl, by unfold maxLen at hcm; omega, fun hsm => ⟨hl, row_at (fun x => ⟨_, _, rfl⟩) hl cap (fun i h => (hp i h).1) hsm, fun f hf => ?_⟩⟩
    obtain ⟨j, hj, rfl⟩ := List.getElem_of_mem hf
    have := (hp j hj).2
    unfold maxLen at this
    exact this

theorem cellsLLeafS : Try.prog.cellsOf 35 = 1 := by kernel_rfl
set_option maxRecDepth 100000 in
theorem open_parts {H : Type} {enc : TypeId × Value → H} {W : World} {base : Nat} {v : Value} {d : DataW H} {p : List MemPlace} (hv : Value.okWide Try.prog W .any base 22 v) (h : DataW.Trod enc Try.prog W 0 (fun _ => true) true 22 v d p) :
    ∃ g o Q, IsRowP W v g o Q := by
  obtain ⟨a, len, cap, rfl⟩ := okWide_slice Try.underlying22 hv
  obtain ⟨fuel, hf⟩ := h
  rcases Deep.open_slice1 Try.underlying22 cellsLLeafS hf with ⟨hcs, _⟩ | ⟨a, len, cap, m, n, V, D, Pl, hcs, _, hlc, hcm, hm, _, hx⟩
  · simp [Value.cells] at hcs
    obtain ⟨rfl, rfl, rfl⟩ := hcs
    exact ⟨0, 0, [], none, 0, 0, rfl, by omega, fun _ => ⟨rfl, fun h => absurd h (by omega), fun j hj => absurd hj (by simp)⟩⟩
  · simp [Value.cells] at hcs
    obtain ⟨rfl, rfl, rfl⟩ := hcs
    have hx' : ∀ i, i < len → ∃ q : Value × Nat × Nat × List Le, W.cell? (a.add i) = some q.1 ∧ IsRowL W q.1 q.2.1 q.2.2.1 q.2.2.2 := fun i hi => by
      obtain ⟨h1, h2⟩ := hx i (by rw [hm]; split <;> omega)
      obtain ⟨g, o, l, h3⟩ := open_leaves_in h2
      exact ⟨(V i, g, o, l), h1, h3⟩
    obtain ⟨Q, hQ, hp⟩ := list_of len hx'
    refine ⟨a.block, a.off, Q, some a, len, cap, rfl, by unfold maxLen at hcm; omega, fun hsm => ⟨hQ, fun h0 => ?_, fun j hj => ⟨?_, (hp j hj).2⟩⟩⟩
    · have c0 := (hp 0 (by omega)).1
      rw [addr_zero] at c0
      have e := addr_flat c0 0
      rw [addr_zero] at e
      refine ⟨congrArg some e, ?_⟩
      rw [e] at c0
      exact lt_of_cell c0
    · have c0 := (hp 0 (by omega)).1
      rw [addr_zero] at c0
      have cj := (hp j hj).1
      rw [addr_flat c0] at cj
      exact cj
end LV

end Go.Proofs.Ytmcejkfknbjjkaa
