/-
  Texts laid together: Cln, Rshort.
-/
import Derived.Test.YtiabodhgjeoejaaPkEx0
import Derived.Test.YtiabodhgjeoejaaPkEx6
/-
  A text is cloned.
-/
namespace Go.Proofs.Ytiabodhgjeoejaa
open Go.RowKit
set_option linter.unusedVariables false

theorem Clone_any (s : ByteArray) (w : World) (h : s.size ≤ 1048576) : Calls Try.prog 50 #[.string s] w fun e w' => e = .returned (.string s) ∧ Below w.heap.size w w' := by
  go_enter Try.func50, Try.ntmps50
  go_wp2_with fail
  refine (Try.stringslite_Clone s _ (by omega)).mono ?_
  rintro e w' ⟨rfl, hb⟩
  go_wp2
  go_ret
  exact ⟨rfl, hb⟩

end Go.Proofs.Ytiabodhgjeoejaa
/-
  What ReadShort answers, the program's and the specification's.
-/
namespace Go.Proofs.Ytiabodhgjeoejaa
open Go.RowKit
set_option linter.unusedVariables false

theorem rv_bound (s : List UInt8) (p : Nat) : ∀ (f i n a q : Nat), M.rv s p f i n = some (a, q) → q ≤ s.length ∧ a ≤ 1000000000
  | 0, _, _, _, _, h => by simp [M.rv] at h
  | f + 1, i, n, a, q, h => by
    rw [M.rv] at h
    cases hb : s[p + i]? with
    | none => rw [hb] at h; simp at h
    | some b =>
      rw [hb] at h
      simp only at h
      split at h
      · exact rv_bound s p f (i + 1) _ a q h
      · split at h
        · simp at h
        · obtain ⟨hi, _⟩ := List.getElem?_eq_some_iff.1 hb
          simp at h
          obtain ⟨rfl, rfl⟩ := h
          omega

theorem read_bound (s : ByteArray) (p n q : Nat) (h : M.readVar s.data.toList p = some (n, q)) : q ≤ s.size ∧ n ≤ 1000000000 := by
  have := rv_bound _ _ _ _ _ _ _ h
  rw [Array.length_toList] at this
  exact this

/-- the piece of the text that stands there -/
def piece (s : ByteArray) (q n : Nat) : ByteArray := s.extract q (q + n)
theorem piece_size (s : ByteArray) (q n : Nat) : (piece s q n).size ≤ s.size := by
  unfold piece
  rw [ByteArray.size_extract]
  omega

theorem run_piece (s : ByteArray) (q n : Nat) (h : q + n ≤ s.size) (w : World) :
    (Instr.slice 9 (.string s) (some (.int .i64 (q : Int))) (some (.int .i64 ((q : Int) + (n : Int)))) none).run Try.prog w = .ok (.string (piece s q n)) w := by
  rw [run_slice_string w 9 s .i64 .i64 _ _ Try.underlying9 (by omega) (by omega) (by omega)]
  have e : ((q : Int) + (n : Int)).toNat = q + n := by omega
  rw [e]
  rfl

theorem ReadShort_yes (s : ByteArray) (p : Int) (n q : Nat) (w : World) (hs : s.size ≤ 1048576) (h : Hid (0 ≤ p ∧ p ≤ (s.size : Int))) (ho : Hid (M.readVar s.data.toList p.toNat = some (n, q))) (hn : n ≤ 20000) (hq : q + n ≤ s.size) :
    Calls Try.prog 79 #[.string s, .int .i64 p] w fun e w' => e = .returned (.tuple #[.string (piece s q n), .int .i64 ((q : Int) + (n : Int)), .bool true]) ∧ Below w.heap.size w w' := by
  have hpc := run_piece s q n hq
  have hps := piece_size s q n
  have hn1 : ¬ ((20000 : Int) < (n : Int)) := by omega
  have hn2 : ¬ ((s.size : Int) - (q : Int) < (n : Int)) := by omega
  go_enter Try.func79, Try.ntmps79
  go_wp2_with fail
  refine (ReadVar_some s p n q _ hs (unhide h) (unhide ho)).mono ?_
  rintro e w1 ⟨rfl, rfl⟩
  go_wp2_with fail
  refine (Clone_any _ _ (by omega)).mono ?_
  rintro e w2 ⟨rfl, hb2⟩
  go_wp2
  go_ret3
  exact ⟨rfl, hb2⟩

theorem ReadShort_no (s : ByteArray) (p : Int) (n q : Nat) (w : World) (hs : s.size ≤ 1048576) (h : Hid (0 ≤ p ∧ p ≤ (s.size : Int))) (ho : Hid (M.readVar s.data.toList p.toNat = some (n, q))) (hq : q ≤ s.size) (hN : n ≤ 1000000000) (hn : ¬ (n ≤ 20000 ∧ q + n ≤ s.size)) :
    Calls Try.prog 79 #[.string s, .int .i64 p] w fun e w' => e = .returned (.tuple #[.string ⟨#[]⟩, .int .i64 0, .bool false]) ∧ Below w.heap.size w w' := by
  by_cases hn1 : (20000 : Int) < (n : Int)
  · go_enter Try.func79, Try.ntmps79
    go_wp2_with fail
    refine (ReadVar_some s p n q _ hs (unhide h) (unhide ho)).mono ?_
    rintro e w1 ⟨rfl, rfl⟩
    go_wp2
    go_ret3
    exact ⟨rfl, Below.refl _ _⟩
  · have hn2 : (s.size : Int) - (q : Int) < (n : Int) := by omega
    go_enter Try.func79, Try.ntmps79
    go_wp2_with fail
    refine (ReadVar_some s p n q _ hs (unhide h) (unhide ho)).mono ?_
    rintro e w1 ⟨rfl, rfl⟩
    go_wp2
    go_ret3
    exact ⟨rfl, Below.refl _ _⟩

theorem ReadShort_none (s : ByteArray) (p : Int) (w : World) (hs : s.size ≤ 1048576) (h : Hid (¬ (0 ≤ p ∧ p ≤ (s.size : Int)) ∨ (0 ≤ p ∧ p ≤ (s.size : Int)) ∧ M.readVar s.data.toList p.toNat = none)) :
    Calls Try.prog 79 #[.string s, .int .i64 p] w fun e w' => e = .returned (.tuple #[.string ⟨#[]⟩, .int .i64 0, .bool false]) ∧ Below w.heap.size w w' := by
  go_enter Try.func79, Try.ntmps79
  go_wp2_with fail
  refine (ReadVar_none s p _ hs (unhide h)).mono ?_
  rintro e w1 ⟨rfl, rfl⟩
  go_wp2
  go_ret3
  exact ⟨rfl, Below.refl _ _⟩

theorem sReadShort_yes (s : ByteArray) (p : Int) (n q : Nat) (w : World) (hs : s.size ≤ 1048576) (h : Hid (0 ≤ p ∧ p ≤ (s.size : Int))) (ho : Hid (M.readVar s.data.toList p.toNat = some (n, q))) (hn : n ≤ 20000) (hq : q + n ≤ s.size) :
    Calls Try.prog 86 #[.string s, .int .i64 p] w fun e w' => e = .returned (.tuple #[.string (piece s q n), .int .i64 ((q : Int) + (n : Int)), .bool true]) ∧ Below w.heap.size w w' := by
  have hpc := run_piece s q n hq
  have hps := piece_size s q n
  have hn1 : ¬ ((20000 : Int) < (n : Int)) := by omega
  have hn2 : ¬ ((s.size : Int) - (q : Int) < (n : Int)) := by omega
  go_enter Try.func86, Try.ntmps86
  go_wp2_with fail
  refine (sReadVar_some s p n q _ hs (unhide h) (unhide ho)).mono ?_
  rintro e w1 ⟨rfl, hb1⟩
  go_wp2
  go_ret3
  exact ⟨rfl, hb1⟩

theorem sReadShort_no (s : ByteArray) (p : Int) (n q : Nat) (w : World) (hs : s.size ≤ 1048576) (h : Hid (0 ≤ p ∧ p ≤ (s.size : Int))) (ho : Hid (M.readVar s.data.toList p.toNat = some (n, q))) (hq : q ≤ s.size) (hN : n ≤ 1000000000) (hn : ¬ (n ≤ 20000 ∧ q + n ≤ s.size)) :
    Calls Try.prog 86 #[.string s, .int .i64 p] w fun e w' => e = .returned (.tuple #[.string ⟨#[]⟩, .int .i64 0, .bool false]) ∧ Below w.heap.size w w' := by
  by_cases hn1 : (20000 : Int) < (n : Int)
  · go_enter Try.func86, Try.ntmps86
    go_wp2_with fail
    refine (sReadVar_some s p n q _ hs (unhide h) (unhide ho)).mono ?_
    rintro e w1 ⟨rfl, hb1⟩
    go_wp2
    go_ret3
    exact ⟨rfl, hb1⟩
  · have hn2 : (s.size : Int) - (q : Int) < (n : Int) := by omega
    go_enter Try.func86, Try.ntmps86
    go_wp2_with fail
    refine (sReadVar_some s p n q _ hs (unhide h) (unhide ho)).mono ?_
    rintro e w1 ⟨rfl, hb1⟩
    go_wp2
    go_ret3
    exact ⟨rfl, hb1⟩

theorem sReadShort_none (s : ByteArray) (p : Int) (w : World) (hs : s.size ≤ 1048576) (h : Hid (¬ (0 ≤ p ∧ p ≤ (s.size : Int)) ∨ (0 ≤ p ∧ p ≤ (s.size : Int)) ∧ M.readVar s.data.toList p.toNat = none)) :
    Calls Try.prog 86 #[.string s, .int .i64 p] w fun e w' => e = .returned (.tuple #[.string ⟨#[]⟩, .int .i64 0, .bool false]) ∧ Below w.heap.size w w' := by
  go_enter Try.func86, Try.ntmps86
  go_wp2_with fail
  refine (sReadVar_none s p _ hs (unhide h)).mono ?_
  rintro e w1 ⟨rfl, hb1⟩
  go_wp2
  go_ret3
  exact ⟨rfl, hb1⟩

end Go.Proofs.Ytiabodhgjeoejaa
