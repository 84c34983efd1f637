/-
  The walk of the law FnExactDiskOk: it answers true of every disk.
-/
import Derived.Test.YtadikpmecjjgjaaDoorFw
import Derived.Deep.RegionHeld3
namespace Go.Proofs.YtadikpmecjjgjaaDoor
open Go.RowKit Go.BigFrame Go.Sort
set_option linter.unusedVariables false
set_option linter.unusedSimpArgs false

theorem DkIn.shape {w : World} {B : Nat} {v : Value} {l : List Fl} (h : DkIn w B v l) : ∃ a c g, v = .agg #[.slice a l.length c] ∧ RW 3 fcs w (.slice a l.length c) g l ∧ B ≤ g := by
  obtain ⟨s, g, rfl, hr, hb⟩ := h
  obtain ⟨a, c, rfl⟩ := hr.1.shape
  exact ⟨a, c, g, rfl, hr, hb⟩

end Go.Proofs.YtadikpmecjjgjaaDoor
