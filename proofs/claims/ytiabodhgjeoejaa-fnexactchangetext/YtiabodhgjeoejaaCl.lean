/-
  The walks of the laws FnExactChangeOk, FnExactChangeText and FnExactReadChange: they answer true of every change and every text.
-/
import Derived.Test.YtiabodhgjeoejaaCb
import Derived.Test.YtiabodhgjeoejaaCg
namespace Go.Proofs.Ytiabodhgjeoejaa
open Go.RowKit Go.BigFrame Go.Sort
set_option linter.unusedVariables false
set_option linter.unusedSimpArgs false

set_option maxRecDepth 100000 in
set_option maxHeartbeats 1000000 in
theorem changeOkLaw_any (x : Ug) (w : World) (hr : x.n.size ≤ 9223372036854775807) (hp : x.v.size ≤ 9223372036854775807) :
    Calls Try.prog 4 #[.agg #[.int .i64 x.i, .string x.n, .string x.v]] w fun e w' => e = .returned (.bool true) ∧ Below w.heap.size w w' := by
  have HW : Hid (RU (w.alloc (.cells #[.int .i64 x.i, .string x.n, .string x.v] 42)) w.heap.size x ∧ Below w.heap.size w (w.alloc (.cells #[.int .i64 x.i, .string x.n, .string x.v] 42))) := ⟨RU.new w x _, (Below.refl _ _).alloc (Nat.le_refl _) _⟩
  have HSZ : Hid (∀ W, Calls Try.prog 25 #[.agg #[.int .i64 x.i, .string x.n, .string x.v], .int .i64 1048576] W fun e w' => ∃ A : Int, e = .returned (.int .i64 A) ∧ Below W.heap.size W w' ∧ A ≤ 1048576 ∧ (0 ≤ A → x.n.size ≤ 1048576 ∧ x.v.size ≤ 1048576)) := fun W => szChange_any x 1048576 W (by omega) (by omega) hr hp
  have HT : Hid (∀ W, Calls Try.prog 26 #[.agg #[.int .i64 x.i, .string x.n, .string x.v]] W fun e w' => e = .returned (.agg #[.int .i64 x.i, .string x.n, .string x.v]) ∧ Below W.heap.size W w') := fun W => toChange_any x W
  have HS : Hid (x.n.size ≤ 1048576 ∧ x.v.size ≤ 1048576 → ∀ W, Calls Try.prog 23 #[.agg #[.int .i64 x.i, .string x.n, .string x.v]] W fun e w' => e = .returned (.bool (UV.okU x)) ∧ Below W.heap.size W w') := fun HSM W => sChangeOk_any x W HSM.1 HSM.2
  have HI : Hid (x.n.size ≤ 1048576 ∧ x.v.size ≤ 1048576 → ∀ W, Calls Try.prog 22 #[.agg #[.int .i64 x.i, .string x.n, .string x.v]] W fun e w' => e = .returned (.bool (UV.okU x)) ∧ Below W.heap.size W w') := fun HSM W => ChangeOk_any x W HSM.1 HSM.2
  generalize UV.okU x = R at *
  obtain ⟨i, n, v⟩ := x
  simp only at HW HSZ HT HS HI ⊢
  clear hr hp
  go_enter Try.func4, Try.ntmps4
  go_wp2_with fail
  refine (HSZ.out _).mono ?_
  rintro e1 w1 ⟨A, rfl, hb1, hA1, hA2⟩
  have HW1 : Hid (RU w1 w.heap.size ⟨i, n, v⟩ ∧ Below w.heap.size w w1) := ⟨HW.out.1.later hb1, HW.out.2.trans (hb1.mono HW.out.2.size)⟩
  clear hb1 HW
  by_cases hneg : A < 0
  · clear HT HS HI hA2
    go_wp2
    go_ret
    exact ⟨rfl, HW1.out.2⟩
  have HSM := hA2 (by omega)
  replace HS := hide (HS.out HSM)
  replace HI := hide (HI.out HSM)
  clear hA2 HSZ HSM
  have z0 := HW1.out.1.c0
  have z1 := HW1.out.1.c1
  have z2 := HW1.out.1.c2
  simp only at z0 z1 z2
  go_wp2_with fail
  refine (HT.out _).mono ?_
  rintro e2 w2 ⟨rfl, hb2⟩
  have HW2 : Hid (RU w2 w.heap.size ⟨i, n, v⟩ ∧ Below w.heap.size w w2) := ⟨HW1.out.1.later hb2, HW1.out.2.trans (hb2.mono HW1.out.2.size)⟩
  clear hb2 HW1
  clear z0 z1 z2
  go_wp2_with fail
  refine (HS.out _).mono ?_
  rintro e3 w3 ⟨rfl, hb3⟩
  have HW3 : Hid (RU w3 w.heap.size ⟨i, n, v⟩ ∧ Below w.heap.size w w3) := ⟨HW2.out.1.later hb3, HW2.out.2.trans (hb3.mono HW2.out.2.size)⟩
  clear hb3 HW2
  clear HS
  have z0 := HW3.out.1.c0
  have z1 := HW3.out.1.c1
  have z2 := HW3.out.1.c2
  simp only at z0 z1 z2
  go_wp2_with fail
  refine (HT.out _).mono ?_
  rintro e4 w4 ⟨rfl, hb4⟩
  have HW4 : Hid (RU w4 w.heap.size ⟨i, n, v⟩ ∧ Below w.heap.size w w4) := ⟨HW3.out.1.later hb4, HW3.out.2.trans (hb4.mono HW3.out.2.size)⟩
  clear hb4 HW3
  clear z0 z1 z2
  go_wp2_with fail
  refine (HI.out _).mono ?_
  rintro e5 w5 ⟨rfl, hb5⟩
  have HW5 : Hid (RU w5 w.heap.size ⟨i, n, v⟩ ∧ Below w.heap.size w w5) := ⟨HW4.out.1.later hb5, HW4.out.2.trans (hb5.mono HW4.out.2.size)⟩
  clear hb5 HW4
  clear HI
  go_wp2
  go_ret
  exact ⟨rfl, HW5.out.2⟩

set_option maxRecDepth 100000 in
set_option maxHeartbeats 1000000 in
theorem changeTextLaw_any (x : Ug) (w : World) (hr : x.n.size ≤ 9223372036854775807) (hp : x.v.size ≤ 9223372036854775807) :
    Calls Try.prog 5 #[.agg #[.int .i64 x.i, .string x.n, .string x.v]] w fun e w' => e = .returned (.bool true) ∧ Below w.heap.size w w' := by
  have HW : Hid (RU (w.alloc (.cells #[.int .i64 x.i, .string x.n, .string x.v] 42)) w.heap.size x ∧ Below w.heap.size w (w.alloc (.cells #[.int .i64 x.i, .string x.n, .string x.v] 42))) := ⟨RU.new w x _, (Below.refl _ _).alloc (Nat.le_refl _) _⟩
  have HSZ : Hid (∀ W, Calls Try.prog 25 #[.agg #[.int .i64 x.i, .string x.n, .string x.v], .int .i64 1048576] W fun e w' => ∃ A : Int, e = .returned (.int .i64 A) ∧ Below W.heap.size W w' ∧ A ≤ 1048576 ∧ (0 ≤ A → x.n.size ≤ 1048576 ∧ x.v.size ≤ 1048576)) := fun W => szChange_any x 1048576 W (by omega) (by omega) hr hp
  have HT : Hid (∀ W, Calls Try.prog 26 #[.agg #[.int .i64 x.i, .string x.n, .string x.v]] W fun e w' => e = .returned (.agg #[.int .i64 x.i, .string x.n, .string x.v]) ∧ Below W.heap.size W w') := fun W => toChange_any x W
  have HS : Hid (x.n.size ≤ 1048576 ∧ x.v.size ≤ 1048576 → ∀ W, Calls Try.prog 27 #[.agg #[.int .i64 x.i, .string x.n, .string x.v]] W fun e w' => e = .returned (.tuple #[.string (UV.textU x), .bool (UV.okU x)]) ∧ Below W.heap.size W w') := fun HSM W => sChangeText_any x W HSM.1 HSM.2
  have HI : Hid (x.n.size ≤ 1048576 ∧ x.v.size ≤ 1048576 → ∀ W, Calls Try.prog 14 #[.agg #[.int .i64 x.i, .string x.n, .string x.v]] W fun e w' => e = .returned (.tuple #[.string (UV.textU x), .bool (UV.okU x)]) ∧ Below W.heap.size W w') := fun HSM W => ChangeText_any x W HSM.1 HSM.2
  generalize UV.okU x = R at *
  generalize UV.textU x = X at *
  obtain ⟨i, n, v⟩ := x
  simp only at HW HSZ HT HS HI ⊢
  clear hr hp
  go_enter Try.func5, Try.ntmps5
  go_wp2_with fail
  refine (HSZ.out _).mono ?_
  rintro e1 w1 ⟨A, rfl, hb1, hA1, hA2⟩
  have HW1 : Hid (RU w1 w.heap.size ⟨i, n, v⟩ ∧ Below w.heap.size w w1) := ⟨HW.out.1.later hb1, HW.out.2.trans (hb1.mono HW.out.2.size)⟩
  clear hb1 HW
  by_cases hneg : A < 0
  · clear HT HS HI hA2
    go_wp2
    go_ret
    exact ⟨rfl, HW1.out.2⟩
  have HSM := hA2 (by omega)
  replace HS := hide (HS.out HSM)
  replace HI := hide (HI.out HSM)
  clear hA2 HSZ HSM
  have z0 := HW1.out.1.c0
  have z1 := HW1.out.1.c1
  have z2 := HW1.out.1.c2
  simp only at z0 z1 z2
  go_wp2_with fail
  refine (HT.out _).mono ?_
  rintro e2 w2 ⟨rfl, hb2⟩
  have HW2 : Hid (RU w2 w.heap.size ⟨i, n, v⟩ ∧ Below w.heap.size w w2) := ⟨HW1.out.1.later hb2, HW1.out.2.trans (hb2.mono HW1.out.2.size)⟩
  clear hb2 HW1
  clear z0 z1 z2
  go_wp2_with fail
  refine (HS.out _).mono ?_
  rintro e3 w3 ⟨rfl, hb3⟩
  have HW3 : Hid (RU w3 w.heap.size ⟨i, n, v⟩ ∧ Below w.heap.size w w3) := ⟨HW2.out.1.later hb3, HW2.out.2.trans (hb3.mono HW2.out.2.size)⟩
  clear hb3 HW2
  clear HS
  have z0 := HW3.out.1.c0
  have z1 := HW3.out.1.c1
  have z2 := HW3.out.1.c2
  simp only at z0 z1 z2
  go_wp2_with fail
  refine (HT.out _).mono ?_
  rintro e4 w4 ⟨rfl, hb4⟩
  have HW4 : Hid (RU w4 w.heap.size ⟨i, n, v⟩ ∧ Below w.heap.size w w4) := ⟨HW3.out.1.later hb4, HW3.out.2.trans (hb4.mono HW3.out.2.size)⟩
  clear hb4 HW3
  clear z0 z1 z2
  go_wp2_with fail
  refine (HI.out _).mono ?_
  rintro e5 w5 ⟨rfl, hb5⟩
  have HW5 : Hid (RU w5 w.heap.size ⟨i, n, v⟩ ∧ Below w.heap.size w w5) := ⟨HW4.out.1.later hb5, HW4.out.2.trans (hb5.mono HW4.out.2.size)⟩
  clear hb5 HW4
  clear HI
  go_wp2
  go_ret
  exact ⟨rfl, HW5.out.2⟩

set_option maxRecDepth 100000 in
set_option maxHeartbeats 1000000 in
theorem readChangeLaw_any (t : ByteArray) (w : World) (ht : t.size ≤ maxLen) :
    Calls Try.prog 6 #[.string t] w fun e w' => e = .returned (.bool true) ∧ Below w.heap.size w w' := by
  unfold maxLen at ht
  by_cases hbig : 1048576 < t.size
  · have q : (1048576 : Int) < (t.size : Int) := by omega
    go_enter Try.func6, Try.ntmps6
    go_wp2
    go_ret
    exact ⟨rfl, Below.refl _ _⟩
  have q : ¬ (1048576 : Int) < (t.size : Int) := by omega
  have HS : Hid (∀ W, Calls Try.prog 18 #[.string t] W fun e w' => e = .returned (.tuple #[.agg #[.int .i64 (UV.rdA t).i, .string (UV.rdA t).n, .string (UV.rdA t).v], .bool (UV.rdOk t)]) ∧ Below W.heap.size W w') := fun W => sReadChange_any t W (by omega)
  have HI : Hid (∀ W, Calls Try.prog 15 #[.string t] W fun e w' => e = .returned (.tuple #[.agg #[.int .i64 (UV.rdA t).i, .string (UV.rdA t).n, .string (UV.rdA t).v], .bool (UV.rdOk t)]) ∧ Below W.heap.size W w') := fun W => ReadChange_any t W (by omega)
  have HE : Hid (∀ W, Calls Try.prog 28 #[.agg #[.int .i64 (UV.rdA t).i, .string (UV.rdA t).n, .string (UV.rdA t).v], .agg #[.int .i64 (UV.rdA t).i, .string (UV.rdA t).n, .string (UV.rdA t).v]] W fun e w' => e = .returned (.bool true) ∧ Below W.heap.size W w') := fun W => eqChange_yes (UV.rdA t) W
  generalize UV.rdA t = X at *
  generalize UV.rdOk t = R at *
  obtain ⟨i, n, v⟩ := X
  simp only at HS HI HE ⊢
  go_enter Try.func6, Try.ntmps6
  go_wp2_with fail
  refine (HS.out _).mono ?_
  rintro e1 w1 ⟨rfl, hb1⟩
  have HW1 : Hid (RU (w1.alloc (.cells #[.int .i64 i, .string n, .string v] 31)) w1.heap.size ⟨i, n, v⟩ ∧ Below w.heap.size w (w1.alloc (.cells #[.int .i64 i, .string n, .string v] 31))) := ⟨RU.new w1 ⟨i, n, v⟩ _, hb1.alloc hb1.size _⟩
  clear hb1 HS
  go_wp2_with fail
  refine (HI.out _).mono ?_
  rintro e2 w2 ⟨rfl, hb2⟩
  have HW2 : Hid (RU (w2.alloc (.cells #[.int .i64 i, .string n, .string v] 31)) w1.heap.size ⟨i, n, v⟩ ∧ RU (w2.alloc (.cells #[.int .i64 i, .string n, .string v] 31)) w2.heap.size ⟨i, n, v⟩ ∧ Below w.heap.size w (w2.alloc (.cells #[.int .i64 i, .string n, .string v] 31))) := by
    have b2 := HW1.out.2.trans (hb2.mono HW1.out.2.size)
    exact ⟨(HW1.out.1.later hb2).later ((Below.refl _ _).alloc (Nat.le_refl _) _), RU.new w2 ⟨i, n, v⟩ _, b2.alloc b2.size _⟩
  clear hb2 HI HW1
  have z0 := HW2.out.1.c0
  have z1 := HW2.out.1.c1
  have z2 := HW2.out.1.c2
  have y0 := HW2.out.2.1.c0
  have y1 := HW2.out.2.1.c1
  have y2 := HW2.out.2.1.c2
  simp only at z0 z1 z2 y0 y1 y2
  go_wp2_with fail
  refine (HE.out _).mono ?_
  rintro e3 w3 ⟨rfl, hb3⟩
  have HW3 : Hid (Below w.heap.size w w3) := HW2.out.2.2.trans (hb3.mono HW2.out.2.2.size)
  clear hb3 HE HW2 z0 z1 z2 y0 y1 y2
  go_wp2
  go_ret
  exact ⟨rfl, HW3.out⟩

end Go.Proofs.Ytiabodhgjeoejaa
