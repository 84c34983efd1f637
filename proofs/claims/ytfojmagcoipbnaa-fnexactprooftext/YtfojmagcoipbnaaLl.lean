/-
  The walk of the law FnExactLeavesOk: it answers true of every row of leaves.
-/
import Derived.Test.YtfojmagcoipbnaaLo
import Derived.Deep.RegionHeld3
namespace Go.Proofs.Ytfojmagcoipbnaa
open Go.RowKit Go.BigFrame Go.Sort
set_option linter.unusedVariables false
set_option linter.unusedSimpArgs false

/-- a row answered: it may be written, and lies in blocks from B on -/
def LvIn (w : World) (B : Nat) (v : Value) (l : List Le) : Prop := ∃ a c g, v = .slice a l.length c ∧ RW 2 lcs w v g l ∧ B ≤ g

theorem toLeafS_in (v : Value) (ga oa : Nat) (l : List Le) (w : World) (hv : RS 2 lcs w v ga oa l) :
    Calls Try.prog 36 #[v] w fun e w' => ∃ g, e = .returned (.slice (some ⟨g, 0, none⟩) l.length l.length) ∧ RW 2 lcs w' (.slice (some ⟨g, 0, none⟩) l.length l.length) g l ∧ w.heap.size ≤ g ∧ Below w.heap.size w w' :=
  (toLeafS_any v ga oa l w hv).mono fun e w' ⟨g, he, hg, hrw, _, hb⟩ => ⟨g, he, hrw, hg, hb⟩

/-- what a law knows of its row, in every world above -/
def LvA (w : World) (v : Value) (g o : Nat) (l : List Le) : Prop := RS 2 lcs w v g o l ∧ SmallL l

end Go.Proofs.Ytfojmagcoipbnaa
