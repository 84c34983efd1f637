/-
  The walk of the law FnExactHeadHash: it answers true of every head.
-/
import Derived.Test.YtlpbfafcaleifaaDoorPkH
import Derived.Test.YtlpbfafcaleifaaDoorPkJ
namespace Go.Proofs.YtlpbfafcaleifaaDoor
open Go.RowKit Go.BigFrame Go.Sort
set_option linter.unusedVariables false
set_option linter.unusedSimpArgs false

set_option maxRecDepth 100000 in
set_option maxHeartbeats 1000000 in
theorem headHashLaw_any (x : Hd) (w : World) (hr : x.r.size ≤ 9223372036854775807) (hp : x.p.size ≤ 9223372036854775807) (hT : Tb w) :
    Calls Tryd.prog 5 #[.agg #[.int .i64 x.h, .int .i64 x.e, .string x.r, .string x.p]] w fun e w' => e = .returned (.bool true) ∧ Below w.heap.size w w' := by
  have HW : Hid (RB (w.alloc (.cells #[.int .i64 x.h, .int .i64 x.e, .string x.r, .string x.p] 44)) w.heap.size x ∧ Below w.heap.size w (w.alloc (.cells #[.int .i64 x.h, .int .i64 x.e, .string x.r, .string x.p] 44)) ∧ Tb (w.alloc (.cells #[.int .i64 x.h, .int .i64 x.e, .string x.r, .string x.p] 44))) := ⟨RB.new w x _, (Below.refl _ _).alloc (Nat.le_refl _) _, hT.alloc _⟩
  have HSZ : Hid (∀ W, Calls Tryd.prog 25 #[.agg #[.int .i64 x.h, .int .i64 x.e, .string x.r, .string x.p], .int .i64 1048576] W fun e w' => ∃ A : Int, e = .returned (.int .i64 A) ∧ Below W.heap.size W w' ∧ A ≤ 1048576 ∧ (0 ≤ A → x.r.size ≤ 1048576 ∧ x.p.size ≤ 1048576)) := fun W => szHead_any x 1048576 W (by omega) (by omega) hr hp
  have HT : Hid (∀ W, Calls Tryd.prog 26 #[.agg #[.int .i64 x.h, .int .i64 x.e, .string x.r, .string x.p]] W fun e w' => e = .returned (.agg #[.int .i64 x.h, .int .i64 x.e, .string x.r, .string x.p]) ∧ Below W.heap.size W w') := fun W => toHead_any x W
  have HS : Hid (∀ W, Calls Tryd.prog 16 #[.agg #[.int .i64 x.h, .int .i64 x.e, .string x.r, .string x.p]] W fun e w' => e = .returned (.string (HV.hashH x)) ∧ Below W.heap.size W w') := fun W => sHeadHash_any x W
  have HI : Hid (∀ W, Tb W → Calls Tryd.prog 24 #[.agg #[.int .i64 x.h, .int .i64 x.e, .string x.r, .string x.p]] W fun e w' => e = .returned (.string (HV.hashH x)) ∧ Below W.heap.size W w') := fun W hT => HeadHash_any x W hT
  generalize HV.hashH x = X at *
  clear hT
  obtain ⟨h, e, r, p⟩ := x
  simp only at HW HSZ HT HS HI ⊢
  clear hr hp
  go_enter Tryd.func5, Tryd.ntmps5
  go_wp2_with fail
  refine (HSZ.out _).mono ?_
  rintro e1 w1 ⟨A, rfl, hb1, hA1, hA2⟩
  have HW1 : Hid (RB w1 w.heap.size ⟨h, e, r, p⟩ ∧ Below w.heap.size w w1 ∧ Tb w1) := ⟨HW.out.1.later hb1, HW.out.2.1.trans (hb1.mono HW.out.2.1.size), HW.out.2.2.later hb1⟩
  clear hb1 HW
  by_cases hneg : A < 0
  · clear HT HS HI hA2
    go_wp2
    go_ret
    exact ⟨rfl, HW1.out.2.1⟩
  clear hA2 HSZ
  have z0 := HW1.out.1.c0
  have z1 := HW1.out.1.c1
  have z2 := HW1.out.1.c2
  have z3 := HW1.out.1.c3
  simp only at z0 z1 z2 z3
  go_wp2_with fail
  refine (HT.out _).mono ?_
  rintro e2 w2 ⟨rfl, hb2⟩
  have HW2 : Hid (RB w2 w.heap.size ⟨h, e, r, p⟩ ∧ Below w.heap.size w w2 ∧ Tb w2) := ⟨HW1.out.1.later hb2, HW1.out.2.1.trans (hb2.mono HW1.out.2.1.size), HW1.out.2.2.later hb2⟩
  clear hb2 HW1
  clear z0 z1 z2 z3
  go_wp2_with fail
  refine (HS.out _).mono ?_
  rintro e3 w3 ⟨rfl, hb3⟩
  have HW3 : Hid (RB w3 w.heap.size ⟨h, e, r, p⟩ ∧ Below w.heap.size w w3 ∧ Tb w3) := ⟨HW2.out.1.later hb3, HW2.out.2.1.trans (hb3.mono HW2.out.2.1.size), HW2.out.2.2.later hb3⟩
  clear hb3 HW2
  clear HS
  have z0 := HW3.out.1.c0
  have z1 := HW3.out.1.c1
  have z2 := HW3.out.1.c2
  have z3 := HW3.out.1.c3
  simp only at z0 z1 z2 z3
  go_wp2_with fail
  refine (HT.out _).mono ?_
  rintro e4 w4 ⟨rfl, hb4⟩
  have HW4 : Hid (RB w4 w.heap.size ⟨h, e, r, p⟩ ∧ Below w.heap.size w w4 ∧ Tb w4) := ⟨HW3.out.1.later hb4, HW3.out.2.1.trans (hb4.mono HW3.out.2.1.size), HW3.out.2.2.later hb4⟩
  clear hb4 HW3
  clear z0 z1 z2 z3
  go_wp2_with fail
  refine (HI.out _ HW4.out.2.2).mono ?_
  rintro e5 w5 ⟨rfl, hb5⟩
  have HW5 : Hid (RB w5 w.heap.size ⟨h, e, r, p⟩ ∧ Below w.heap.size w w5 ∧ Tb w5) := ⟨HW4.out.1.later hb5, HW4.out.2.1.trans (hb5.mono HW4.out.2.1.size), HW4.out.2.2.later hb5⟩
  clear hb5 HW4
  clear HI
  go_wp2
  go_ret
  exact ⟨rfl, HW5.out.2.1⟩

end Go.Proofs.YtlpbfafcaleifaaDoor
