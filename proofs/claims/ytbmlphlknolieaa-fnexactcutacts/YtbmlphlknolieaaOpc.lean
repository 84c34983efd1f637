/-
  A row of acts that a law is handed.
-/
import Derived.Test.YtbmlphlknolieaaOpa
import Derived.Test.YtbmlphlknolieaaOpl
import Derived.Test.YtbmlphlknolieaaAw
namespace Go.Proofs.Ytbmlphlknolieaa
open Go.ChangeShapes Go.WideShapes Go.ChangeAt Go.RowKit
set_option linter.unusedVariables false
set_option linter.unusedSimpArgs false

set_option maxRecDepth 100000 in
theorem open_acts {H : Type} {enc : TypeId × Value → H} {W : World} {base : Nat} {v : Value} {d : DataW H} {p : List MemPlace} (hv : Value.okWide Try.prog W .any base 61 v) (h : DataW.Trod enc Try.prog W 0 (fun _ => true) true 61 v d p) :
    ∃ g o l, IsRowA W v g o l := by
  obtain ⟨a, len, cap, rfl⟩ := okWide_slice Try.underlying61 hv
  obtain ⟨fuel, hf⟩ := h
  rcases Deep.open_slice Try.underlying61 hf with ⟨hcs, _⟩ | ⟨a, len, cap, m, n, D, Pl, hcs, _, hlc, hcm, hm, _, hx⟩
  · simp [Value.cells] at hcs
    obtain ⟨rfl, rfl, rfl⟩ := hcs
    exact ⟨0, 0, [], none, 0, 0, rfl, by omega, fun _ => ⟨rfl, RS.nil W 0 0, fun f hf => absurd hf (by simp)⟩⟩
  · simp [Value.cells] at hcs
    obtain ⟨rfl, rfl, rfl⟩ := hcs
    have hx' : ∀ i, i < len → ∃ z : Ac, (∀ j u, (acs z)[j]? = some u → W.cell? (a.add (i * 4 + j)) = some u) ∧ z.n.size ≤ maxLen ∧ z.t.size ≤ maxLen ∧ z.o.size ≤ maxLen := fun i hi => by
      obtain ⟨cs', h1, h2⟩ := hx i (by rw [hm]; split <;> omega)
      obtain ⟨z, rfl, b1, b2, b3⟩ := act_of_trod h2
      rw [cellsLAct] at h1
      obtain ⟨_, _, hc⟩ := World.cells?_some h1
      refine ⟨z, fun j u hu => ?_, b1, b2, b3⟩
      have hj : j < 4 := by have := (List.getElem?_eq_some_iff.1 hu).1; simpa [acs] using this
      have := hc j hj
      rw [addr_add] at this
      rw [this]
      exact hu
    obtain ⟨l, hl, hp⟩ := list_of len hx'
    refine ⟨a.block, a.off, l, some a, len, cap, rfl, by unfold maxLen at hcm; omega, fun hsm => ⟨hl, row_at (k := 4) (enc := acs) (fun x => ⟨_, _, rfl⟩) hl cap (fun i h => (hp i h).1) hsm, fun f hf => ?_⟩⟩
    obtain ⟨j, hj, rfl⟩ := List.getElem_of_mem hf
    have := (hp j hj).2
    unfold maxLen at this
    exact this

end Go.Proofs.Ytbmlphlknolieaa
