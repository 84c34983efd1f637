/-
  A file copied, and cut when the power goes; a disk that loses.
-/
import Derived.Test.YtadikpmecjjgjaaDoorAk
import Derived.Test.YtadikpmecjjgjaaDoorMf
namespace Go.Proofs.YtadikpmecjjgjaaDoor
open Go.RowKit Go.BigFrame Go.Sort
set_option linter.unusedVariables false
set_option linter.unusedSimpArgs false

theorem there_of3 {w : World} {g o : Nat} {u0 u1 u2 : Value} (h0 : w.cell? ⟨g, o, none⟩ = some u0) (h1 : w.cell? ⟨g, o + 1, none⟩ = some u1) (h2 : w.cell? ⟨g, o + 2, none⟩ = some u2) (f0 : w.frozen? ⟨g, o, none⟩ = false) (f1 : w.frozen? ⟨g, o + 1, none⟩ = false) (f2 : w.frozen? ⟨g, o + 2, none⟩ = false) : w.there g o 3 := by
  intro j hj
  rcases j with _ | _ | _ | j
  · exact ⟨by rw [Nat.add_zero, h0]; rfl, f0⟩
  · exact ⟨by rw [h1]; rfl, f1⟩
  · exact ⟨by rw [h2]; rfl, f2⟩
  · omega
def ics (i : Int) : List Value := [.int .i64 i]
theorem RS.int {w : World} {v : Value} {g o : Nat} {l : List Int} (h : RS 1 ics w v g o l) (j : Nat) (hj : j < l.length) : w.cell? ⟨g, o + j, none⟩ = some (.int .i64 l[j]) := by
  obtain ⟨a, c, _, _, _, hc⟩ := h
  have := hc j hj 0 _ rfl
  rwa [Nat.mul_one] at this

namespace F
theorem cutL_len : ∀ (L : List Fl) (Q : List Int), (cutL L Q).length = L.length
  | [], _ => by simp [cutL]
  | f :: r, [] => by simp [cutL, cutL_len r []]
  | f :: r, n :: q => by simp [cutL, cutL_len r q]
theorem cutL_at : ∀ (L : List Fl) (Q : List Int) (j : Nat) (h : j < (cutL L Q).length) (h2 : j < L.length), (cutL L Q)[j] = cutF L[j] (Q.getD j 0)
  | [], _, _, _, h => by simp at h
  | f :: r, [], 0, _, _ => by simp [cutL]
  | f :: r, n :: q, 0, _, _ => by simp [cutL]
  | f :: r, [], j + 1, h, h2 => by
    have := cutL_at r [] j (by simpa [cutL] using h) (by simpa using h2)
    simp [cutL] at this ⊢
    exact this
  | f :: r, n :: q, j + 1, h, h2 => by
    have := cutL_at r q j (by simpa [cutL] using h) (by simpa using h2)
    simp [cutL] at this ⊢
    exact this
/-- a disk that has lost -/
noncomputable def loseR (L : List Fl) (Q : List Int) : List Fl := if diskB L then cutL L Q else []
end F

end Go.Proofs.YtadikpmecjjgjaaDoor
