/-
  A letter that a law is handed: counted, copied, compared.
-/
import Derived.Test.YtodibhiinfbhiaaDoorVa
namespace Go.Proofs.YtodibhiinfbhiaaDoor
open Go.RowKit Go.BigFrame Go.Sort
set_option linter.unusedVariables false
set_option linter.unusedSimpArgs false

/-- in cells of any box -/
def RK (W : World) (g : Nat) (x : Ltr) : Prop := W.rangeAt g 0 (kcs x) ∧ g < W.heap.size
theorem RK.new (w : World) (x : Ltr) (T : Nat) : RK (w.alloc (.cells #[.int .i64 x.k, .int .i64 x.f, .int .i64 x.t, .int .i64 x.e, .int .i64 x.y, .string x.r] T)) w.heap.size x := ⟨range_new w (kcs x) T, by simp⟩
theorem RK.later {W W' : World} {g : Nat} {x : Ltr} (h : RK W g x) (hb : Below W.heap.size W W') : RK W' g x := ⟨range_kept h.1 (hb.block g h.2), Nat.lt_of_lt_of_le h.2 hb.size⟩
theorem RK.c0 {W : World} {g : Nat} {x : Ltr} (h : RK W g x) : W.cell? ⟨g, 0, none⟩ = some (.int .i64 x.k) := h.1 0 _ rfl
theorem RK.c1 {W : World} {g : Nat} {x : Ltr} (h : RK W g x) : W.cell? ⟨g, 1, none⟩ = some (.int .i64 x.f) := h.1 1 _ rfl
theorem RK.c2 {W : World} {g : Nat} {x : Ltr} (h : RK W g x) : W.cell? ⟨g, 2, none⟩ = some (.int .i64 x.t) := h.1 2 _ rfl
theorem RK.c3 {W : World} {g : Nat} {x : Ltr} (h : RK W g x) : W.cell? ⟨g, 3, none⟩ = some (.int .i64 x.e) := h.1 3 _ rfl
theorem RK.c4 {W : World} {g : Nat} {x : Ltr} (h : RK W g x) : W.cell? ⟨g, 4, none⟩ = some (.int .i64 x.y) := h.1 4 _ rfl
theorem RK.c5 {W : World} {g : Nat} {x : Ltr} (h : RK W g x) : W.cell? ⟨g, 5, none⟩ = some (.string x.r) := h.1 5 _ rfl

set_option maxRecDepth 100000 in
set_option maxHeartbeats 400000 in
theorem toLetter_any (a : Ltr) (w : World) : Calls Tryd.prog 18 #[.agg #[.int .i64 a.k, .int .i64 a.f, .int .i64 a.t, .int .i64 a.e, .int .i64 a.y, .string a.r]] w fun e w' => e = .returned (.agg #[.int .i64 a.k, .int .i64 a.f, .int .i64 a.t, .int .i64 a.e, .int .i64 a.y, .string a.r]) ∧ Below w.heap.size w w' := by
  obtain ⟨z0, z1, z2, z3, z4, z5⟩ := a
  go_enter Tryd.func18, Tryd.ntmps18
  go_wp2
  refine ret_rec 2 (w.heap.size + 1) 25 [.int .i64 z0, .int .i64 z1, .int .i64 z2, .int .i64 z3, .int .i64 z4, .string z5] _ rfl rfl rfl Tryd.underlying25 rfl sizeLetter ?_ ?_
  · exact World.rangeAt_alloc (range_at (by simp) (range_new _ [.int .i64 z0, .int .i64 z1, .int .i64 z2, .int .i64 z3, .int .i64 z4, .string z5] _)) _
  · exact ⟨rfl, (((Below.refl _ _).alloc (Nat.le_refl _) _).alloc (by simp) _).alloc (by simp; omega) _⟩

set_option maxHeartbeats 400000 in
theorem szLetter_any (a : Ltr) (x : Int) (w : World) (h0 : 0 ≤ x) (h1 : x ≤ 1048576) (hr : a.r.size ≤ 9223372036854775807) :
    Calls Tryd.prog 16 #[.agg #[.int .i64 a.k, .int .i64 a.f, .int .i64 a.t, .int .i64 a.e, .int .i64 a.y, .string a.r], .int .i64 x] w fun e w' => ∃ A : Int, e = .returned (.int .i64 A) ∧ Below w.heap.size w w' ∧ A ≤ x ∧ (0 ≤ A → a.r.size ≤ 1048576) := by
  obtain ⟨z0, z1, z2, z3, z4, z5⟩ := a
  simp only at hr ⊢
  have HB : Hid (Below w.heap.size w (w.alloc (.cells #[.int .i64 z0, .int .i64 z1, .int .i64 z2, .int .i64 z3, .int .i64 z4, .string z5] 36))) := (Below.refl _ _).alloc (Nat.le_refl _) _
  by_cases k0 : x - (z5.size : Int) < 0
  · go_enter Tryd.func16, Tryd.ntmps16
    go_wp2
    go_ret
    exact ⟨_, rfl, HB.out, by omega, fun h => by omega⟩
  · go_enter Tryd.func16, Tryd.ntmps16
    go_wp2
    go_ret
    exact ⟨_, rfl, HB.out, by omega, fun h => by omega⟩

set_option maxHeartbeats 1000000 in
theorem eqLetter_yes (f : Ltr) (w : World) : Calls Tryd.prog 19 #[.agg #[.int .i64 f.k, .int .i64 f.f, .int .i64 f.t, .int .i64 f.e, .int .i64 f.y, .string f.r], .agg #[.int .i64 f.k, .int .i64 f.f, .int .i64 f.t, .int .i64 f.e, .int .i64 f.y, .string f.r]] w fun e w' => e = .returned (.bool true) ∧ Below w.heap.size w w' := by
  obtain ⟨z0, z1, z2, z3, z4, z5⟩ := f
  have hb : Below w.heap.size w ((w.alloc (.cells #[.int .i64 z0, .int .i64 z1, .int .i64 z2, .int .i64 z3, .int .i64 z4, .string z5] 25)).alloc (.cells #[.int .i64 z0, .int .i64 z1, .int .i64 z2, .int .i64 z3, .int .i64 z4, .string z5] 25)) := ((Below.refl _ _).alloc (Nat.le_refl _) _).alloc (by simp) _
  go_enter Tryd.func19, Tryd.ntmps19
  go_wp2
  go_ret
  exact ⟨rfl, hb⟩

end Go.Proofs.YtodibhiinfbhiaaDoor
