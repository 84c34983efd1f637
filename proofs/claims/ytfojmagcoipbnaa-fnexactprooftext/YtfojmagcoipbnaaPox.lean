/-
  A proof that a law is handed, in its box.
-/
import Derived.Test.YtfojmagcoipbnaaPz
import Derived.Deep.RegionHeld3
namespace Go.Proofs.Ytfojmagcoipbnaa
open Go.RowKit Go.BigFrame Go.Sort
set_option linter.unusedVariables false
set_option linter.unusedSimpArgs false

/-- a proof that a law was handed stays in its box, and can be taken over from there -/
def PoX (w W : World) (v1 v2 : Value) : Prop := Below w.heap.size w W ∧ w.heap.size < W.heap.size ∧ W.cell? ⟨w.heap.size, 0, none⟩ = some v1 ∧ W.cell? ⟨w.heap.size, 1, none⟩ = some v2
theorem PoX.start (w : World) (v1 v2 : Value) : PoX w (w.alloc (.cells #[v1, v2] 25)) v1 v2 := by
  obtain ⟨a0, a1⟩ := run_rangeQ (w := w) (v1 := v1) (v2 := v2) 25
  exact ⟨(Below.refl _ _).alloc (Nat.le_refl _) _, by simp, a0, a1⟩
theorem PoX.later {w W W' : World} {v1 v2 : Value} (h : PoX w W v1 v2) (hb : Below W.heap.size W W') : PoX w W' v1 v2 := ⟨h.1.trans (hb.mono h.1.size), Nat.lt_of_lt_of_le h.2.1 hb.size, cell_up h.2.2.1 hb, cell_up h.2.2.2 hb⟩

/-- what a law makes of a proof that it was handed -/
def ToP (L : List Le) (S : List ByteArray) (w : World) (e : Ending) (w' : World) : Prop := ∃ k1 k2, e = .returned (.agg #[.slice (some ⟨k1, 0, none⟩) L.length L.length, .slice (some ⟨k2, 0, none⟩) S.length S.length]) ∧ RW 2 lcs w' (.slice (some ⟨k1, 0, none⟩) L.length L.length) k1 L ∧ TS w' (.slice (some ⟨k2, 0, none⟩) S.length S.length) k2 S ∧ w.heap.size ≤ k1 ∧ w.heap.size ≤ k2 ∧ k1 ≠ k2 ∧ k1 < w'.heap.size ∧ k2 < w'.heap.size ∧ Below w.heap.size w w'

end Go.Proofs.Ytfojmagcoipbnaa
