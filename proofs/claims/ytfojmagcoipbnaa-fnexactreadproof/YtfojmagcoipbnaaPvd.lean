/-
  A proof that is answered, and a word beside it.
-/
import Derived.Test.YtfojmagcoipbnaaPfm
import Derived.Test.YtfojmagcoipbnaaLw
import Derived.Test.YtfojmagcoipbnaaMk
namespace Go.Proofs.Ytfojmagcoipbnaa
open Go.RowKit Go.BigFrame Go.Sort
set_option linter.unusedVariables false
set_option linter.unusedSimpArgs false

/-- a proof answered, in new memory, and a word beside it -/
def PvP (B : List Le) (S : List ByteArray) (b : Bool) (w : World) (e : Ending) (w' : World) : Prop := ∃ ab cb aS cS gb gs, e = .returned (.tuple #[.agg #[.slice ab B.length cb, .slice aS S.length cS], .bool b]) ∧ RW 2 lcs w' (.slice ab B.length cb) gb B ∧ TS w' (.slice aS S.length cS) gs S ∧ w.heap.size ≤ gb ∧ w.heap.size ≤ gs ∧ ((0 < B.length → 0 < S.length → gb ≠ gs) ∧ S.length ≤ cS) ∧ Below w.heap.size w w'
theorem PvP.no {w w' : World} (hb : Below w.heap.size w w') : PvP [] [] false w (.returned (.tuple #[.agg #[.slice none 0 0, .slice none 0 0], .bool false])) w' :=
  ⟨none, 0, none, 0, w.heap.size, w.heap.size, rfl, RW.nil _ _, TS.nil _ _, Nat.le_refl _, Nat.le_refl _, ⟨fun h => absurd h (by simp), Nat.le_refl _⟩, hb⟩

end Go.Proofs.Ytfojmagcoipbnaa
