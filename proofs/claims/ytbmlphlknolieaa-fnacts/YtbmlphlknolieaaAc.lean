/-
  An act that a law is handed: counted and copied.
-/
import Derived.Test.YtbmlphlknolieaaPkI
namespace Go.Proofs.Ytbmlphlknolieaa
open Go.RowKit
set_option linter.unusedVariables false
set_option linter.unusedSimpArgs false

theorem sizeAct : (Try.prog.info? 45).map (·.size) = some 4 := by kernel_rfl

set_option maxRecDepth 100000 in
set_option maxHeartbeats 400000 in
theorem toAct_any (a : Ac) (w : World) : Calls Try.prog 35 #[.agg #[.int .i64 a.k, .string a.n, .string a.t, .string a.o]] w fun e w' => e = .returned (.agg #[.int .i64 a.k, .string a.n, .string a.t, .string a.o]) ∧ Below w.heap.size w w' := by
  obtain ⟨k, y, t, o⟩ := a
  go_enter Try.func35, Try.ntmps35
  go_wp2
  refine ret_rec 2 (w.heap.size + 1) 45 [.int .i64 k, .string y, .string t, .string o] _ rfl rfl rfl Try.underlying45 rfl sizeAct ?_ ?_
  · exact World.rangeAt_alloc (range_at (by simp) (range_new _ [.int .i64 k, .string y, .string t, .string o] _)) _
  · exact ⟨rfl, (((Below.refl _ _).alloc (Nat.le_refl _) _).alloc (by simp) _).alloc (by simp; omega) _⟩

set_option maxHeartbeats 400000 in
theorem szAct_any (a : Ac) (x : Int) (w : World) (h0 : 0 ≤ x) (h1 : x ≤ 1048576) (hn : a.n.size ≤ 9223372036854775807) (ht : a.t.size ≤ 9223372036854775807) (ho : a.o.size ≤ 9223372036854775807) :
    Calls Try.prog 33 #[.agg #[.int .i64 a.k, .string a.n, .string a.t, .string a.o], .int .i64 x] w fun e w' => ∃ A : Int, e = .returned (.int .i64 A) ∧ Below w.heap.size w w' ∧ A ≤ x ∧ (0 ≤ A → a.n.size ≤ 1048576 ∧ a.t.size ≤ 1048576 ∧ a.o.size ≤ 1048576) := by
  obtain ⟨k, y, t, o⟩ := a
  simp only at hn ht ho ⊢
  have HB : Hid (Below w.heap.size w (w.alloc (.cells #[.int .i64 k, .string y, .string t, .string o] 56))) := (Below.refl _ _).alloc (Nat.le_refl _) _
  by_cases h2 : x - (y.size : Int) < 0
  · go_enter Try.func33, Try.ntmps33
    go_wp2
    go_ret
    exact ⟨_, rfl, HB.out, by omega, fun h => by omega⟩
  · by_cases h3 : x - (y.size : Int) - (t.size : Int) < 0
    · go_enter Try.func33, Try.ntmps33
      go_wp2
      go_ret
      exact ⟨_, rfl, HB.out, by omega, fun h => by omega⟩
    · by_cases h4 : x - (y.size : Int) - (t.size : Int) - (o.size : Int) < 0
      · go_enter Try.func33, Try.ntmps33
        go_wp2
        go_ret
        exact ⟨_, rfl, HB.out, by omega, fun h => by omega⟩
      · go_enter Try.func33, Try.ntmps33
        go_wp2
        go_ret
        exact ⟨_, rfl, HB.out, by omega, fun h => ⟨by omega, by omega, by omega⟩⟩

end Go.Proofs.Ytbmlphlknolieaa
