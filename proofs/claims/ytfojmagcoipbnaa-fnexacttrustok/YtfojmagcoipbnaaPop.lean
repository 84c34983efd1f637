/-
  A proof that a law is handed: a row of leaves and a row of texts that were there.
-/
import Derived.Test.YtfojmagcoipbnaaOp
import Derived.Test.YtfojmagcoipbnaaTsz
import Derived.Lib.SmallJoins
import Derived.ProofKit
namespace Go.Proofs.Ytfojmagcoipbnaa
open Go.ChangeShapes Go.WideShapes Go.ChangeAt Go.RowKit
set_option linter.unusedVariables false
set_option linter.unusedSimpArgs false

theorem cellsPf : Try.prog.cellsOf 25 = 2 := by kernel_rfl
theorem cells9P : Try.prog.cellsOf 9 = 1 := by kernel_rfl

theorem rowT_of_trod {H : Type} {enc : TypeId × Value → H} {W : World} {fuel : Nat} {v : Value} {y : DataW H × List MemPlace} (h : DataW.trod enc Try.prog W 0 (fun _ => true) true fuel 23 [v] = some y) :
    ∃ g o l, IsRowT W v g o l := by
  rcases open_strings Try.underlying23 Try.underlying9 cells9P h with ⟨hcs, _⟩ | ⟨x, l, c, zs, hcs, _, hl, hm, hz, _, hcell, hwz⟩
  · simp at hcs
    subst hcs
    exact rowT_of (z := []) (.inl ⟨rfl, rfl, rfl, rfl⟩)
  · simp at hcs
    subst hcs
    exact rowT_of (z := zs) (.inr ⟨_, rfl, hl, hm, by simp at hz; omega, hcell, hwz⟩)

namespace LV
set_option maxRecDepth 100000 in
theorem rowL_of_trod {H : Type} {enc : TypeId × Value → H} {W : World} {fuel : Nat} {v : Value} {y : DataW H × List MemPlace} (hf : DataW.trod enc Try.prog W 0 (fun _ => true) true fuel 22 [v] = some y) :
    ∃ g o l, IsRowL W v g o l := by
  rcases Deep.open_slice Try.underlying22 hf with ⟨hcs, _⟩ | ⟨a, len, cap, m, n, D, Pl, hcs, _, hlc, hcm, hm, _, hx⟩
  · simp at hcs
    subst hcs
    exact ⟨0, 0, [], none, 0, 0, rfl, by omega, fun _ => ⟨rfl, RS.nil W 0 0, fun f hf => absurd hf (by simp)⟩⟩
  · simp at hcs
    subst hcs
    have hx' : ∀ i, i < len → ∃ f : Le, (∀ j u, (lcs f)[j]? = some u → W.cell? (a.add (i * 2 + j)) = some u) ∧ f.n.size ≤ maxLen ∧ f.v.size ≤ maxLen := fun i hi => by
      obtain ⟨cs', h1, h2⟩ := hx i (by rw [hm]; split <;> omega)
      obtain ⟨f, rfl, b0, b1⟩ := leaf_of_trod h2
      rw [cellsLLeaf] at h1
      obtain ⟨_, _, hc⟩ := World.cells?_some h1
      refine ⟨f, fun j u hu => ?_, b0, b1⟩
      have hj : j < 2 := by have := (List.getElem?_eq_some_iff.1 hu).1; simpa [lcs] using this
      have := hc j hj
      rw [addr_add] at this
      rw [this, hu]
    obtain ⟨l, hl, hp⟩ := list_of len hx'
    refine ⟨a.block, a.off, l, some a, len, cap, rfl, by unfold maxLen at hcm; omega, fun hsm => ⟨hl, row_at (fun x => ⟨_, _, rfl⟩) hl cap (fun i h => (hp i h).1) hsm, fun f hf => ?_⟩⟩
    obtain ⟨j, hj, rfl⟩ := List.getElem_of_mem hf
    have := (hp j hj).2
    unfold maxLen at this
    exact this
end LV

set_option maxRecDepth 100000 in
theorem open_proof {H : Type} {enc : TypeId × Value → H} {W : World} {base : Nat} {v : Value} {d : DataW H} {p : List MemPlace} (hv : Value.okWide Try.prog W .any base 25 v) (h : DataW.Trod enc Try.prog W 0 (fun _ => true) true 25 v d p) :
    ∃ (v1 v2 : Value) (g1 o1 g2 o2 : Nat) (L : List Le) (S : List ByteArray), v = .agg #[v1, v2] ∧ IsRowL W v1 g1 o1 L ∧ IsRowT W v2 g2 o2 S := by
  obtain ⟨v0, v1, y0, y1, n, rfl, _, _, h0, h1⟩ := Joins.open_agg2 Try.underlying25 (by kernel_rfl) cellsPf hv h
  obtain ⟨g1, o1, L, r1⟩ := LV.rowL_of_trod h0
  obtain ⟨g2, o2, S, r2⟩ := rowT_of_trod h1
  exact ⟨v0, v1, g1, o1, g2, o2, L, S, rfl, r1, r2⟩

end Go.Proofs.Ytfojmagcoipbnaa
