/-
  Rows of numbers and of acts, and an act, that a law is handed.
-/
import Derived.Test.YtbmlphlknolieaaOpn
import Derived.Test.YtbmlphlknolieaaLsl
namespace Go.Proofs.Ytbmlphlknolieaa
open Go.ChangeShapes Go.WideShapes Go.ChangeAt Go.RowKit
set_option linter.unusedVariables false
set_option linter.unusedSimpArgs false

theorem row_at {α : Type} {k : Nat} {enc : α → List Value} {W : World} {a : Addr} {len : Nat} {l : List α} (hk0 : ∀ x, ∃ u r, enc x = u :: r) (hl : l.length = len) (cap : Nat)
    (hp : ∀ i (h : i < l.length), ∀ j u, (enc l[i])[j]? = some u → W.cell? (a.add (i * k + j)) = some u) (hsm : len ≤ 1100000) : RS k enc W (.slice (some a) len cap) a.block a.off l := by
  have hc0 : ∀ h0 : 0 < l.length, ∃ u, W.cell? a = some u := fun h0 => by
    obtain ⟨u, r, e⟩ := hk0 l[0]
    have c0 := hp 0 h0 0 u (by rw [e]; rfl)
    simp only [Nat.zero_mul, Nat.zero_add] at c0
    rw [addr_zero] at c0
    exact ⟨u, c0⟩
  refine ⟨some a, cap, by rw [hl], by omega, fun h0 => ?_, fun j hj i u hu => ?_⟩
  · obtain ⟨u, c0⟩ := hc0 h0
    have e := addr_flat c0 0
    rw [addr_zero] at e
    refine ⟨congrArg some e, ?_⟩
    rw [e] at c0
    exact lt_of_cell c0
  · obtain ⟨u0, c0⟩ := hc0 (by omega)
    have c := hp j hj i u hu
    rw [addr_flat c0] at c
    rw [Nat.add_assoc]
    exact c

set_option maxRecDepth 100000 in
theorem open_lefts {H : Type} {enc : TypeId × Value → H} {W : World} {base : Nat} {v : Value} {d : DataW H} {p : List MemPlace} (hv : Value.okWide Try.prog W .any base 28 v) (h : DataW.Trod enc Try.prog W 0 (fun _ => true) true 28 v d p) :
    ∃ g o l, IsRowN W v g o l := by
  obtain ⟨a, len, cap, rfl⟩ := okWide_slice Try.underlying28 hv
  obtain ⟨fuel, hf⟩ := h
  rcases Deep.open_slice Try.underlying28 hf with ⟨hcs, _⟩ | ⟨a, len, cap, m, n, D, Pl, hcs, _, hlc, hcm, hm, _, hx⟩
  · simp [Value.cells] at hcs
    obtain ⟨rfl, rfl, rfl⟩ := hcs
    exact ⟨0, 0, [], none, 0, 0, rfl, by omega, fun _ => ⟨rfl, RS.nil W 0 0⟩⟩
  · simp [Value.cells] at hcs
    obtain ⟨rfl, rfl, rfl⟩ := hcs
    have hx' : ∀ i, i < len → ∃ z : Int, (∀ j u, (ics z)[j]? = some u → W.cell? (a.add (i * 1 + j)) = some u) := fun i hi => by
      obtain ⟨cs', h1, h2⟩ := hx i (by rw [hm]; split <;> omega)
      obtain ⟨z, rfl, _, _⟩ := DataW.trod_int Try.underlying3 h2
      rw [cells3'] at h1
      obtain ⟨_, _, hc⟩ := World.cells?_some h1
      refine ⟨z, fun j u hu => ?_⟩
      have hj : j < 1 := by have := (List.getElem?_eq_some_iff.1 hu).1; simpa [ics] using this
      have := hc j hj
      rw [addr_add] at this
      rw [this]
      exact hu
    obtain ⟨l, hl, hp⟩ := list_of len hx'
    exact ⟨a.block, a.off, l, some a, len, cap, rfl, by unfold maxLen at hcm; omega, fun hsm => ⟨hl, row_at (fun x => ⟨_, _, rfl⟩) hl cap hp hsm⟩⟩

end Go.Proofs.Ytbmlphlknolieaa
