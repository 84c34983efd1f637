/-
  The walks of the laws FnExactHeadOk, FnExactHeadText and FnExactReadHead: they answer true of every head and every text.
-/
import Derived.Test.YtlpbfafcaleifaaHb
import Derived.Test.YtlpbfafcaleifaaHf
namespace Go.Proofs.Ytlpbfafcaleifaa
open Go.RowKit Go.BigFrame Go.Sort
set_option linter.unusedVariables false
set_option linter.unusedSimpArgs false

set_option maxRecDepth 100000 in
set_option maxHeartbeats 1000000 in
theorem headOkLaw_any (x : Hd) (w : World) (hr : x.r.size ≤ 9223372036854775807) (hp : x.p.size ≤ 9223372036854775807) :
    Calls Try.prog 3 #[.agg #[.int .i64 x.h, .int .i64 x.e, .string x.r, .string x.p]] w fun e w' => e = .returned (.bool true) ∧ Below w.heap.size w w' := by
  have HW : Hid (RB (w.alloc (.cells #[.int .i64 x.h, .int .i64 x.e, .string x.r, .string x.p] 23)) w.heap.size x ∧ Below w.heap.size w (w.alloc (.cells #[.int .i64 x.h, .int .i64 x.e, .string x.r, .string x.p] 23))) := ⟨RB.new w x _, (Below.refl _ _).alloc (Nat.le_refl _) _⟩
  have HSZ : Hid (∀ W, Calls Try.prog 6 #[.agg #[.int .i64 x.h, .int .i64 x.e, .string x.r, .string x.p], .int .i64 1048576] W fun e w' => ∃ A : Int, e = .returned (.int .i64 A) ∧ Below W.heap.size W w' ∧ A ≤ 1048576 ∧ (0 ≤ A → x.r.size ≤ 1048576 ∧ x.p.size ≤ 1048576)) := fun W => szHead_any x 1048576 W (by omega) (by omega) hr hp
  have HT : Hid (∀ W, Calls Try.prog 8 #[.agg #[.int .i64 x.h, .int .i64 x.e, .string x.r, .string x.p]] W fun e w' => e = .returned (.agg #[.int .i64 x.h, .int .i64 x.e, .string x.r, .string x.p]) ∧ Below W.heap.size W w') := fun W => toHead_any x W
  have HS : Hid (∀ W, Calls Try.prog 7 #[.agg #[.int .i64 x.h, .int .i64 x.e, .string x.r, .string x.p]] W fun e w' => e = .returned (.bool (HV.okH x)) ∧ Below W.heap.size W w') := fun W => sHeadOk_any x W
  have HI : Hid (∀ W, Calls Try.prog 9 #[.agg #[.int .i64 x.h, .int .i64 x.e, .string x.r, .string x.p]] W fun e w' => e = .returned (.bool (HV.okH x)) ∧ Below W.heap.size W w') := fun W => HeadOk_any x W
  generalize HV.okH x = R at *
  obtain ⟨h, e, r, p⟩ := x
  simp only at HW HSZ HT HS HI ⊢
  clear hr hp
  go_enter Try.func3, Try.ntmps3
  go_wp2_with fail
  refine (HSZ.out _).mono ?_
  rintro e1 w1 ⟨A, rfl, hb1, hA1, hA2⟩
  have HW1 : Hid (RB w1 w.heap.size ⟨h, e, r, p⟩ ∧ Below w.heap.size w w1) := ⟨HW.out.1.later hb1, HW.out.2.trans (hb1.mono HW.out.2.size)⟩
  clear hb1 HW
  by_cases hneg : A < 0
  · clear HT HS HI hA2
    go_wp2
    go_ret
    exact ⟨rfl, HW1.out.2⟩
  clear hA2 HSZ
  have z0 := HW1.out.1.c0
  have z1 := HW1.out.1.c1
  have z2 := HW1.out.1.c2
  have z3 := HW1.out.1.c3
  simp only at z0 z1 z2 z3
  go_wp2_with fail
  refine (HT.out _).mono ?_
  rintro e2 w2 ⟨rfl, hb2⟩
  have HW2 : Hid (RB w2 w.heap.size ⟨h, e, r, p⟩ ∧ Below w.heap.size w w2) := ⟨HW1.out.1.later hb2, HW1.out.2.trans (hb2.mono HW1.out.2.size)⟩
  clear hb2 HW1
  clear z0 z1 z2 z3
  go_wp2_with fail
  refine (HS.out _).mono ?_
  rintro e3 w3 ⟨rfl, hb3⟩
  have HW3 : Hid (RB w3 w.heap.size ⟨h, e, r, p⟩ ∧ Below w.heap.size w w3) := ⟨HW2.out.1.later hb3, HW2.out.2.trans (hb3.mono HW2.out.2.size)⟩
  clear hb3 HW2
  clear HS
  have z0 := HW3.out.1.c0
  have z1 := HW3.out.1.c1
  have z2 := HW3.out.1.c2
  have z3 := HW3.out.1.c3
  simp only at z0 z1 z2 z3
  go_wp2_with fail
  refine (HT.out _).mono ?_
  rintro e4 w4 ⟨rfl, hb4⟩
  have HW4 : Hid (RB w4 w.heap.size ⟨h, e, r, p⟩ ∧ Below w.heap.size w w4) := ⟨HW3.out.1.later hb4, HW3.out.2.trans (hb4.mono HW3.out.2.size)⟩
  clear hb4 HW3
  clear z0 z1 z2 z3
  go_wp2_with fail
  refine (HI.out _).mono ?_
  rintro e5 w5 ⟨rfl, hb5⟩
  have HW5 : Hid (RB w5 w.heap.size ⟨h, e, r, p⟩ ∧ Below w.heap.size w w5) := ⟨HW4.out.1.later hb5, HW4.out.2.trans (hb5.mono HW4.out.2.size)⟩
  clear hb5 HW4
  clear HI
  go_wp2
  go_ret
  exact ⟨rfl, HW5.out.2⟩

set_option maxRecDepth 100000 in
set_option maxHeartbeats 1000000 in
theorem headTextLaw_any (x : Hd) (w : World) (hr : x.r.size ≤ 9223372036854775807) (hp : x.p.size ≤ 9223372036854775807) :
    Calls Try.prog 4 #[.agg #[.int .i64 x.h, .int .i64 x.e, .string x.r, .string x.p]] w fun e w' => e = .returned (.bool true) ∧ Below w.heap.size w w' := by
  have HW : Hid (RB (w.alloc (.cells #[.int .i64 x.h, .int .i64 x.e, .string x.r, .string x.p] 23)) w.heap.size x ∧ Below w.heap.size w (w.alloc (.cells #[.int .i64 x.h, .int .i64 x.e, .string x.r, .string x.p] 23))) := ⟨RB.new w x _, (Below.refl _ _).alloc (Nat.le_refl _) _⟩
  have HSZ : Hid (∀ W, Calls Try.prog 6 #[.agg #[.int .i64 x.h, .int .i64 x.e, .string x.r, .string x.p], .int .i64 1048576] W fun e w' => ∃ A : Int, e = .returned (.int .i64 A) ∧ Below W.heap.size W w' ∧ A ≤ 1048576 ∧ (0 ≤ A → x.r.size ≤ 1048576 ∧ x.p.size ≤ 1048576)) := fun W => szHead_any x 1048576 W (by omega) (by omega) hr hp
  have HT : Hid (∀ W, Calls Try.prog 8 #[.agg #[.int .i64 x.h, .int .i64 x.e, .string x.r, .string x.p]] W fun e w' => e = .returned (.agg #[.int .i64 x.h, .int .i64 x.e, .string x.r, .string x.p]) ∧ Below W.heap.size W w') := fun W => toHead_any x W
  have HS : Hid (∀ W, Calls Try.prog 10 #[.agg #[.int .i64 x.h, .int .i64 x.e, .string x.r, .string x.p]] W fun e w' => e = .returned (.tuple #[.string (HV.textH x), .bool (HV.okH x)]) ∧ Below W.heap.size W w') := fun W => sHeadText_any x W
  have HI : Hid (∀ W, Calls Try.prog 11 #[.agg #[.int .i64 x.h, .int .i64 x.e, .string x.r, .string x.p]] W fun e w' => e = .returned (.tuple #[.string (HV.textH x), .bool (HV.okH x)]) ∧ Below W.heap.size W w') := fun W => HeadText_any x W
  generalize HV.okH x = R at *
  generalize HV.textH x = X at *
  obtain ⟨h, e, r, p⟩ := x
  simp only at HW HSZ HT HS HI ⊢
  clear hr hp
  go_enter Try.func4, Try.ntmps4
  go_wp2_with fail
  refine (HSZ.out _).mono ?_
  rintro e1 w1 ⟨A, rfl, hb1, hA1, hA2⟩
  have HW1 : Hid (RB w1 w.heap.size ⟨h, e, r, p⟩ ∧ Below w.heap.size w w1) := ⟨HW.out.1.later hb1, HW.out.2.trans (hb1.mono HW.out.2.size)⟩
  clear hb1 HW
  by_cases hneg : A < 0
  · clear HT HS HI hA2
    go_wp2
    go_ret
    exact ⟨rfl, HW1.out.2⟩
  clear hA2 HSZ
  have z0 := HW1.out.1.c0
  have z1 := HW1.out.1.c1
  have z2 := HW1.out.1.c2
  have z3 := HW1.out.1.c3
  simp only at z0 z1 z2 z3
  go_wp2_with fail
  refine (HT.out _).mono ?_
  rintro e2 w2 ⟨rfl, hb2⟩
  have HW2 : Hid (RB w2 w.heap.size ⟨h, e, r, p⟩ ∧ Below w.heap.size w w2) := ⟨HW1.out.1.later hb2, HW1.out.2.trans (hb2.mono HW1.out.2.size)⟩
  clear hb2 HW1
  clear z0 z1 z2 z3
  go_wp2_with fail
  refine (HS.out _).mono ?_
  rintro e3 w3 ⟨rfl, hb3⟩
  have HW3 : Hid (RB w3 w.heap.size ⟨h, e, r, p⟩ ∧ Below w.heap.size w w3) := ⟨HW2.out.1.later hb3, HW2.out.2.trans (hb3.mono HW2.out.2.size)⟩
  clear hb3 HW2
  clear HS
  have z0 := HW3.out.1.c0
  have z1 := HW3.out.1.c1
  have z2 := HW3.out.1.c2
  have z3 := HW3.out.1.c3
  simp only at z0 z1 z2 z3
  go_wp2_with fail
  refine (HT.out _).mono ?_
  rintro e4 w4 ⟨rfl, hb4⟩
  have HW4 : Hid (RB w4 w.heap.size ⟨h, e, r, p⟩ ∧ Below w.heap.size w w4) := ⟨HW3.out.1.later hb4, HW3.out.2.trans (hb4.mono HW3.out.2.size)⟩
  clear hb4 HW3
  clear z0 z1 z2 z3
  go_wp2_with fail
  refine (HI.out _).mono ?_
  rintro e5 w5 ⟨rfl, hb5⟩
  have HW5 : Hid (RB w5 w.heap.size ⟨h, e, r, p⟩ ∧ Below w.heap.size w w5) := ⟨HW4.out.1.later hb5, HW4.out.2.trans (hb5.mono HW4.out.2.size)⟩
  clear hb5 HW4
  clear HI
  go_wp2
  go_ret
  exact ⟨rfl, HW5.out.2⟩

set_option maxRecDepth 100000 in
set_option maxHeartbeats 1000000 in
theorem readHeadLaw_any (t : ByteArray) (w : World) (ht : t.size ≤ maxLen) :
    Calls Try.prog 5 #[.string t] w fun e w' => e = .returned (.bool true) ∧ Below w.heap.size w w' := by
  unfold maxLen at ht
  by_cases hbig : 1048576 < t.size
  · have q : (1048576 : Int) < (t.size : Int) := by omega
    go_enter Try.func5, Try.ntmps5
    go_wp2
    go_ret
    exact ⟨rfl, Below.refl _ _⟩
  have q : ¬ (1048576 : Int) < (t.size : Int) := by omega
  have HS : Hid (∀ W, Calls Try.prog 12 #[.string t] W fun e w' => e = .returned (.tuple #[.agg #[.int .i64 (HV.rdA t).h, .int .i64 (HV.rdA t).e, .string (HV.rdA t).r, .string (HV.rdA t).p], .bool (HV.rdOk t)]) ∧ Below W.heap.size W w') := fun W => sReadHead_any t W (by omega)
  have HI : Hid (∀ W, Calls Try.prog 13 #[.string t] W fun e w' => e = .returned (.tuple #[.agg #[.int .i64 (HV.rdA t).h, .int .i64 (HV.rdA t).e, .string (HV.rdA t).r, .string (HV.rdA t).p], .bool (HV.rdOk t)]) ∧ Below W.heap.size W w') := fun W => ReadHead_any t W (by omega)
  have HE : Hid (∀ W, Calls Try.prog 14 #[.agg #[.int .i64 (HV.rdA t).h, .int .i64 (HV.rdA t).e, .string (HV.rdA t).r, .string (HV.rdA t).p], .agg #[.int .i64 (HV.rdA t).h, .int .i64 (HV.rdA t).e, .string (HV.rdA t).r, .string (HV.rdA t).p]] W fun e w' => e = .returned (.bool true) ∧ Below W.heap.size W w') := fun W => eqHead_yes (HV.rdA t) W
  generalize HV.rdA t = X at *
  generalize HV.rdOk t = R at *
  obtain ⟨h, e, r, p⟩ := X
  simp only at HS HI HE ⊢
  go_enter Try.func5, Try.ntmps5
  go_wp2_with fail
  refine (HS.out _).mono ?_
  rintro e1 w1 ⟨rfl, hb1⟩
  have HW1 : Hid (RB (w1.alloc (.cells #[.int .i64 h, .int .i64 e, .string r, .string p] 26)) w1.heap.size ⟨h, e, r, p⟩ ∧ Below w.heap.size w (w1.alloc (.cells #[.int .i64 h, .int .i64 e, .string r, .string p] 26))) := ⟨RB.new w1 ⟨h, e, r, p⟩ _, hb1.alloc hb1.size _⟩
  clear hb1 HS
  go_wp2_with fail
  refine (HI.out _).mono ?_
  rintro e2 w2 ⟨rfl, hb2⟩
  have HW2 : Hid (RB (w2.alloc (.cells #[.int .i64 h, .int .i64 e, .string r, .string p] 26)) w1.heap.size ⟨h, e, r, p⟩ ∧ RB (w2.alloc (.cells #[.int .i64 h, .int .i64 e, .string r, .string p] 26)) w2.heap.size ⟨h, e, r, p⟩ ∧ Below w.heap.size w (w2.alloc (.cells #[.int .i64 h, .int .i64 e, .string r, .string p] 26))) := by
    have b2 := HW1.out.2.trans (hb2.mono HW1.out.2.size)
    exact ⟨(HW1.out.1.later hb2).later ((Below.refl _ _).alloc (Nat.le_refl _) _), RB.new w2 ⟨h, e, r, p⟩ _, b2.alloc b2.size _⟩
  clear hb2 HI HW1
  have z0 := HW2.out.1.c0
  have z1 := HW2.out.1.c1
  have z2 := HW2.out.1.c2
  have z3 := HW2.out.1.c3
  have y0 := HW2.out.2.1.c0
  have y1 := HW2.out.2.1.c1
  have y2 := HW2.out.2.1.c2
  have y3 := HW2.out.2.1.c3
  simp only at z0 z1 z2 z3 y0 y1 y2 y3
  go_wp2_with fail
  refine (HE.out _).mono ?_
  rintro e3 w3 ⟨rfl, hb3⟩
  have HW3 : Hid (Below w.heap.size w w3) := HW2.out.2.2.trans (hb3.mono HW2.out.2.2.size)
  clear hb3 HE HW2 z0 z1 z2 z3 y0 y1 y2 y3
  go_wp2
  go_ret
  exact ⟨rfl, HW3.out⟩

end Go.Proofs.Ytlpbfafcaleifaa
