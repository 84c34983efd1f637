/-
  The walk of the law FnExactUnframe: it answers true of every file.
-/
import Derived.Test.YtadikpmecjjgjaaDoorUf
namespace Go.Proofs.YtadikpmecjjgjaaDoor
open Go.RowKit
set_option linter.unusedVariables false

theorem framesF_len (s : ByteArray) : ∀ (f p : Nat), p ≤ s.size → (framesF s f p).length ≤ s.size - p
  | 0, p, _ => by simp [framesF]
  | f + 1, p, hp => by
    rw [framesF]
    cases hr : recAt s p with
    | none => simp
    | some x =>
      obtain ⟨t, q⟩ := x
      obtain ⟨h1, h2⟩ := recAt_lt hr
      have := framesF_len s f q h2
      simp only [List.length_cons]
      omega
theorem framesOf_len (s : ByteArray) : (textsOf (framesOf s)).length ≤ 20000 := by
  rw [textsOf_len]
  unfold framesOf
  split
  · have := framesF_len s (s.size + 1) 0 (by omega)
    unfold frames
    omega
  · simp

def UnQ (w : World) (E : Nat) (L : List ByteArray) (e : Ending) (w' : World) : Prop := ∃ v, e = .returned (.tuple #[v, .int .i64 (E : Int)]) ∧ OS w.heap.size w w' v L

theorem sUnframe_at (s : ByteArray) (E : Nat) (L : List ByteArray) (w : World) (hm : s.size ≤ 1048576) (h : endOf (framesOf s) = E ∧ textsOf (framesOf s) = L) :
    Calls Tryd.prog 33 #[.string s] w (UnQ w E L) := by
  obtain ⟨rfl, rfl⟩ := h
  exact sUnframe_any s w hm
theorem Unframe_at (s : ByteArray) (E : Nat) (L : List ByteArray) (w : World) (hm : s.size ≤ 1048576) (hT : Tab w) (h : endOf (framesOf s) = E ∧ textsOf (framesOf s) = L) :
    Calls Tryd.prog 36 #[.string s] w (UnQ w E L) := by
  obtain ⟨rfl, rfl⟩ := h
  exact Unframe_any s w hm hT

end Go.Proofs.YtadikpmecjjgjaaDoor
