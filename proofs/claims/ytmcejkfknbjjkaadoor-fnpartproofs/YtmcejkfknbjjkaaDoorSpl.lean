/-
  A text that is spoilt by a draw: some text, at most a byte longer.
-/
import Derived.Test.YtmcejkfknbjjkaaDoorPkG
import Derived.Deep.RegionLaw
import Derived.Deep.CutRange
import Derived.Deep.RegionHeld
namespace Go.Proofs.YtmcejkfknbjjkaaDoor
open Go.RowKit
set_option linter.unusedVariables false
set_option linter.unusedSimpArgs false

/-- what is spoilt is some text, at most a byte longer -/
def SpP (B : Nat) (w0 w : World) (g : Nat) (v : Value) (n : Nat) (e : Ending) (w' : World) : Prop := ∃ y : ByteArray, e = .returned (.string y) ∧ y.size ≤ n + 1 ∧ Cur B w0 w' g v ∧ w.grownBy w' (some g)
theorem run_front (b : ByteArray) (x : Int) (j : Nat) (hx : x = (j : Int)) (hj : j ≤ b.size) (W : World) : (Instr.slice 9 (.string b) none (some (.int .i64 x)) none).run Tryd.prog W = .ok (.string (b.extract 0 j)) W := by
  subst hx
  have h1 : ¬ ((j : Int) < 0) := by omega
  go_simp
theorem run_back (b : ByteArray) (x : Int) (j : Nat) (hx : x = (j : Int)) (hj : j ≤ b.size) (W : World) : (Instr.slice 9 (.string b) (some (.int .i64 x)) none none).run Tryd.prog W = .ok (.string (b.extract j b.size)) W := by
  subst hx
  have h1 : ¬ ((j : Int) < 0) := by omega
  go_simp

end Go.Proofs.YtmcejkfknbjjkaaDoor
