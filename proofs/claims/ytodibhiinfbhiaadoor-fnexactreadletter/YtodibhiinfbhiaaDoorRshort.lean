/-
  What ReadShort answers, the program's and the specification's.
-/
import Derived.Test.YtodibhiinfbhiaaDoorReads
import Derived.Test.YtodibhiinfbhiaaDoorCln
namespace Go.Proofs.YtodibhiinfbhiaaDoor
open Go.RowKit
set_option linter.unusedVariables false

theorem rv_bound (s : List UInt8) (p : Nat) : ∀ (f i n a q : Nat), M.rv s p f i n = some (a, q) → q ≤ s.length ∧ a ≤ 1000000000
  | 0, _, _, _, _, h => by simp [M.rv] at h
  | f + 1, i, n, a, q, h => by
    rw [M.rv] at h
    cases hb : s[p + i]? with
    | none => rw [hb] at h; simp at h
    | some b =>
      rw [hb] at h
      simp only at h
      split at h
      · exact rv_bound s p f (i + 1) _ a q h
      · split at h
        · simp at h
        · obtain ⟨hi, _⟩ := List.getElem?_eq_some_iff.1 hb
          simp at h
          obtain ⟨rfl, rfl⟩ := h
          omega

theorem read_bound (s : ByteArray) (p n q : Nat) (h : M.readVar s.data.toList p = some (n, q)) : q ≤ s.size ∧ n ≤ 1000000000 := by
  have := rv_bound _ _ _ _ _ _ _ h
  rw [Array.length_toList] at this
  exact this

/-- the piece of the text that stands there -/
def piece (s : ByteArray) (q n : Nat) : ByteArray := s.extract q (q + n)
theorem piece_size (s : ByteArray) (q n : Nat) : (piece s q n).size ≤ s.size := by
  unfold piece
  rw [ByteArray.size_extract]
  omega

theorem run_piece (s : ByteArray) (q n : Nat) (h : q + n ≤ s.size) (w : World) :
    (Instr.slice 9 (.string s) (some (.int .i64 (q : Int))) (some (.int .i64 ((q : Int) + (n : Int)))) none).run Tryd.prog w = .ok (.string (piece s q n)) w := by
  rw [run_slice_string w 9 s .i64 .i64 _ _ Tryd.underlying9 (by omega) (by omega) (by omega)]
  have e : ((q : Int) + (n : Int)).toNat = q + n := by omega
  rw [e]
  rfl

end Go.Proofs.YtodibhiinfbhiaaDoor
