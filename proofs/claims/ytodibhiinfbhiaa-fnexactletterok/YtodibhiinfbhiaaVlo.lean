/-
  The walk of the law FnExactLetterOk: it answers true of every letter.
-/
import Derived.Test.YtodibhiinfbhiaaVb
import Derived.Test.YtodibhiinfbhiaaVc
namespace Go.Proofs.Ytodibhiinfbhiaa
open Go.RowKit Go.BigFrame Go.Sort
set_option linter.unusedVariables false
set_option linter.unusedSimpArgs false

set_option maxRecDepth 100000 in
set_option maxHeartbeats 1000000 in
theorem letterOkLaw_any (x : Ltr) (w : World) (hr : x.r.size ≤ 9223372036854775807) :
    Calls Try.prog 3 #[.agg #[.int .i64 x.k, .int .i64 x.f, .int .i64 x.t, .int .i64 x.e, .int .i64 x.y, .string x.r]] w fun e w' => e = .returned (.bool true) ∧ Below w.heap.size w w' := by
  have HW : Hid (RK (w.alloc (.cells #[.int .i64 x.k, .int .i64 x.f, .int .i64 x.t, .int .i64 x.e, .int .i64 x.y, .string x.r] 23)) w.heap.size x ∧ Below w.heap.size w (w.alloc (.cells #[.int .i64 x.k, .int .i64 x.f, .int .i64 x.t, .int .i64 x.e, .int .i64 x.y, .string x.r] 23))) := ⟨RK.new w x _, (Below.refl _ _).alloc (Nat.le_refl _) _⟩
  have HSZ : Hid (∀ W, Calls Try.prog 4 #[.agg #[.int .i64 x.k, .int .i64 x.f, .int .i64 x.t, .int .i64 x.e, .int .i64 x.y, .string x.r], .int .i64 1048576] W fun e w' => ∃ A : Int, e = .returned (.int .i64 A) ∧ Below W.heap.size W w' ∧ A ≤ 1048576 ∧ (0 ≤ A → x.r.size ≤ 1048576)) := fun W => szLetter_any x 1048576 W (by omega) (by omega) hr
  have HT : Hid (∀ W, Calls Try.prog 6 #[.agg #[.int .i64 x.k, .int .i64 x.f, .int .i64 x.t, .int .i64 x.e, .int .i64 x.y, .string x.r]] W fun e w' => e = .returned (.agg #[.int .i64 x.k, .int .i64 x.f, .int .i64 x.t, .int .i64 x.e, .int .i64 x.y, .string x.r]) ∧ Below W.heap.size W w') := fun W => toLetter_any x W
  have HS : Hid (x.r.size ≤ 1048576 → ∀ W, Calls Try.prog 5 #[.agg #[.int .i64 x.k, .int .i64 x.f, .int .i64 x.t, .int .i64 x.e, .int .i64 x.y, .string x.r]] W fun e w' => e = .returned (.bool (VV.ok x)) ∧ Below W.heap.size W w') := fun HSM W => sLetterOk_any x W HSM
  have HI : Hid (x.r.size ≤ 1048576 → (∀ W, Calls Try.prog 7 #[.agg #[.int .i64 x.k, .int .i64 x.f, .int .i64 x.t, .int .i64 x.e, .int .i64 x.y, .string x.r]] W fun e w' => e = .returned (.bool (VV.ok x)) ∧ Below W.heap.size W w')) := fun HSM W => LetterOk_any x W HSM
  generalize VV.ok x = Rr at *
  obtain ⟨k, f, t, e, y, r⟩ := x
  simp only at HW HSZ HT HS HI ⊢
  clear hr
  go_enter Try.func3, Try.ntmps3
  go_wp2_with fail
  refine (HSZ.out _).mono ?_
  rintro e1 w1 ⟨A, rfl, hb1, hA1, hA2⟩
  have HW1 : Hid (RK w1 w.heap.size ⟨k, f, t, e, y, r⟩ ∧ Below w.heap.size w w1) := ⟨HW.out.1.later hb1, HW.out.2.trans (hb1.mono HW.out.2.size)⟩
  clear hb1 HW
  by_cases hneg : A < 0
  · clear HT HS HI hA2
    go_wp2
    go_ret
    exact ⟨rfl, HW1.out.2⟩
  have HSM := hA2 (by omega)
  replace HS := hide (HS.out HSM)
  replace HI := hide (HI.out HSM)
  clear hA2 HSZ HSM
  have z0 := HW1.out.1.c0
  have z1 := HW1.out.1.c1
  have z2 := HW1.out.1.c2
  have z3 := HW1.out.1.c3
  have z4 := HW1.out.1.c4
  have z5 := HW1.out.1.c5
  simp only at z0 z1 z2 z3 z4 z5
  go_wp2_with fail
  refine (HT.out _).mono ?_
  rintro e2 w2 ⟨rfl, hb2⟩
  have HW2 : Hid (RK w2 w.heap.size ⟨k, f, t, e, y, r⟩ ∧ Below w.heap.size w w2) := ⟨HW1.out.1.later hb2, HW1.out.2.trans (hb2.mono HW1.out.2.size)⟩
  clear hb2 HW1 z0 z1 z2 z3 z4 z5
  go_wp2_with fail
  refine (HS.out _).mono ?_
  rintro e3 w3 ⟨rfl, hb3⟩
  have HW3 : Hid (RK w3 w.heap.size ⟨k, f, t, e, y, r⟩ ∧ Below w.heap.size w w3) := ⟨HW2.out.1.later hb3, HW2.out.2.trans (hb3.mono HW2.out.2.size)⟩
  clear hb3 HW2 HS
  have z0 := HW3.out.1.c0
  have z1 := HW3.out.1.c1
  have z2 := HW3.out.1.c2
  have z3 := HW3.out.1.c3
  have z4 := HW3.out.1.c4
  have z5 := HW3.out.1.c5
  simp only at z0 z1 z2 z3 z4 z5
  go_wp2_with fail
  refine (HT.out _).mono ?_
  rintro e4 w4 ⟨rfl, hb4⟩
  have HW4 : Hid (RK w4 w.heap.size ⟨k, f, t, e, y, r⟩ ∧ Below w.heap.size w w4) := ⟨HW3.out.1.later hb4, HW3.out.2.trans (hb4.mono HW3.out.2.size)⟩
  clear hb4 HW3 z0 z1 z2 z3 z4 z5
  go_wp2_with fail
  refine (HI.out _).mono ?_
  rintro e5 w5 ⟨rfl, hb5⟩
  have HW5 : Hid (Below w.heap.size w w5) := HW4.out.2.trans (hb5.mono HW4.out.2.size)
  clear hb5 HW4 HI
  go_wp2
  go_ret
  exact ⟨rfl, HW5.out⟩

end Go.Proofs.Ytodibhiinfbhiaa
