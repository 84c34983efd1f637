/-
  Texts laid together: Ll, Lmk.
-/
import Derived.Test.YtiabodhgjeoejaaPkEx17
import Derived.Deep.RegionHeld3
import Derived.Test.YtiabodhgjeoejaaPkEx19
import Derived.Test.YtiabodhgjeoejaaPkEx15
/-
  The walk of the law FnExactLeavesOk: it answers true of every row of leaves.
-/
namespace Go.Proofs.Ytiabodhgjeoejaa
open Go.RowKit Go.BigFrame Go.Sort
set_option linter.unusedVariables false
set_option linter.unusedSimpArgs false

/-- a row answered: it may be written, and lies in blocks from B on -/
def LvIn (w : World) (B : Nat) (v : Value) (l : List Le) : Prop := ∃ a c g, v = .slice a l.length c ∧ RW 2 lcs w v g l ∧ B ≤ g

theorem toLeafS_in (v : Value) (ga oa : Nat) (l : List Le) (w : World) (hv : RS 2 lcs w v ga oa l) :
    Calls Try.prog 31 #[v] w fun e w' => ∃ g, e = .returned (.slice (some ⟨g, 0, none⟩) l.length l.length) ∧ RW 2 lcs w' (.slice (some ⟨g, 0, none⟩) l.length l.length) g l ∧ w.heap.size ≤ g ∧ Below w.heap.size w w' :=
  (toLeafS_any v ga oa l w hv).mono fun e w' ⟨g, he, hg, hrw, _, hb⟩ => ⟨g, he, hrw, hg, hb⟩

/-- what a law knows of its row, in every world above -/
def LvA (w : World) (v : Value) (g o : Nat) (l : List Le) : Prop := RS 2 lcs w v g o l ∧ SmallL l

end Go.Proofs.Ytiabodhgjeoejaa
/-
  Rows of leaves that a law marks, and looks at again.
-/
namespace Go.Proofs.Ytiabodhgjeoejaa
open Go.RowKit Go.BigFrame Go.Sort
set_option linter.unusedVariables false
set_option linter.unusedSimpArgs false

theorem markL_one (v : Value) (g : Nat) (l : List Le) (w : World) (h : RW 2 lcs w v g l) :
    Calls Try.prog 33 #[v, .int .i64 1] w fun e w' => e = .returned (.int .i64 (1 + 2 * l.length : Nat)) ∧ RW 2 lcs w' v g (lmarks 1 l.length) ∧ w.grownBy w' (rowF g l.length) := markLeafS_any v g l 1 1 w rfl h (by omega) (by omega)
theorem heldL_one (v : Value) (g n : Nat) (w : World) (h : RW 2 lcs w v g (lmarks 1 n)) :
    Calls Try.prog 34 #[v, .int .i64 1] w fun e w' => e = .returned (.int .i64 (1 + 2 * n : Nat)) ∧ Below w.heap.size w w' := heldLeafS_any v g 1 1 n w rfl h.1 (by omega) (by omega)
/-- a row kept while another is marked -/
theorem RW.marks {w w' : World} {v : Value} {g g2 n : Nat} {l : List Le} (h : RW 2 lcs w v g l) (hlt : 0 < l.length → 0 < n → g ≠ g2) (hg : w.grownBy w' (rowF g2 n)) : RW 2 lcs w' v g l := h.grown hg (fun hp => rowF_ne (fun hp2 => hlt hp hp2))
/-- what a list answered leaves: where its row lies -/
theorem LqP.open {M : List Le} {R : Bool} {w w' : World} {e : Ending} (h : LqP M R w e w') : ∃ a cap g, e = .returned (.tuple #[.slice a M.length cap, .bool R]) ∧ RW 2 lcs w' (.slice a M.length cap) g M ∧ w.heap.size ≤ g ∧ Below w.heap.size w w' := h

end Go.Proofs.Ytiabodhgjeoejaa
