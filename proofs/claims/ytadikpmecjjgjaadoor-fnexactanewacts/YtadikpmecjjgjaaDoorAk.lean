/-
  Whether all of a disk is kept, and the text of a file: the program's and the specification's answers.
-/
import Derived.Test.YtadikpmecjjgjaaDoorFw
import Derived.Test.YtadikpmecjjgjaaDoorShelf
namespace Go.Proofs.YtadikpmecjjgjaaDoor
open Go.RowKit Go.BigFrame Go.Sort
set_option linter.unusedVariables false
set_option linter.unusedSimpArgs false

namespace F
open Classical in
noncomputable def keptB (L : List Fl) : Bool := decide (DOk L ∧ ∀ f ∈ L, f.k = f.t.size)
theorem keptB_iff {L : List Fl} : keptB L = true ↔ DOk L ∧ ∀ f ∈ L, f.k = f.t.size := by simp [keptB]
theorem keptB_no {L : List Fl} : keptB L = false ↔ ¬ (DOk L ∧ ∀ f ∈ L, f.k = f.t.size) := by simp [keptB]
theorem find_at {L : List Fl} {x : ByteArray} : ∀ {m : Nat} (hm : m < L.length), (∀ j (h : j < L.length), j < m → L[j].n ≠ x) → L[m].n = x → find L x = some L[m] := by
  induction L with
  | nil => intro m hm; simp at hm
  | cons f r ih =>
    intro m hm h1 h2
    unfold find
    rw [List.find?_cons]
    cases m with
    | zero =>
      have : f.n = x := h2
      simp [this]
    | succ m =>
      have h0 := h1 0 (by simp) (by omega)
      rw [decide_eq_false (show ¬ f.n = x from h0)]
      exact ih (by simpa using hm) (fun j hj hlt => h1 (j + 1) (by simpa using hj) (by omega)) h2
theorem find_no {L : List Fl} {x : ByteArray} (h : ∀ j (h : j < L.length), L[j].n ≠ x) : find L x = none := by
  unfold find
  rw [List.find?_eq_none]
  intro f hf
  obtain ⟨j, hj, rfl⟩ := List.getElem_of_mem hf
  simpa using h j hj
theorem list_ne {a b : ByteArray} (h : a ≠ b) : (a.toList == b.toList) = false := by
  cases hb : (a.toList == b.toList)
  · rfl
  · exact absurd (toList_inj (by simpa using hb)) h
/-- what FileAt answers -/
def fileT (L : List Fl) (x : ByteArray) : ByteArray := match find L x with | some f => f.t | none => ⟨#[]⟩
def fileO (L : List Fl) (x : ByteArray) : Bool := (find L x).isSome
end F

theorem strClone_any (s : ByteArray) (w : World) (hs : s.size ≤ 1048576) : Calls Tryd.prog 46 #[.string s] w fun e w' => e = .returned (.string s) ∧ Below w.heap.size w w' := by
  go_enter Tryd.func46, Tryd.ntmps46
  go_wp2_with fail
  refine (Tryd.stringslite_Clone s _ (by omega)).mono ?_
  rintro e w1 ⟨rfl, hb⟩
  go_wp2
  go_ret
  exact ⟨rfl, hb⟩

def KpR (L : List Fl) (B : Nat) (w : World) (i : Value) (wr : World) : Prop := ∃ m : Nat, m ≤ L.length ∧ i = .int .i64 m ∧ Hid (∀ j (h : j < L.length), j < m → L[j].k = L[j].t.size) ∧ Below B w wr
theorem kp_step {L : List Fl} {m : Nat} (hm : m < L.length) (h : ∀ j (h : j < L.length), j < m → L[j].k = L[j].t.size) (h1 : L[m].k = L[m].t.size) : ∀ j (h : j < L.length), j < m + 1 → L[j].k = L[j].t.size := by
  intro j hj hlt
  rcases Nat.lt_or_ge j m with h2 | h2
  · exact h j hj h2
  · have : j = m := by omega
    subst this
    exact h1

end Go.Proofs.YtadikpmecjjgjaaDoor
