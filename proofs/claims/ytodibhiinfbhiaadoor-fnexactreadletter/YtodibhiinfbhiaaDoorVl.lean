/-
  The walks of the laws FnExactLetterText and FnExactReadLetter: they answer true of every letter and every text.
-/
import Derived.Test.YtodibhiinfbhiaaDoorVb
import Derived.Test.YtodibhiinfbhiaaDoorVe
import Derived.Test.YtodibhiinfbhiaaDoorVgi
import Derived.Test.YtodibhiinfbhiaaDoorVgs
import Derived.Test.YtodibhiinfbhiaaDoorVf
namespace Go.Proofs.YtodibhiinfbhiaaDoor
open Go.RowKit Go.BigFrame Go.Sort
set_option linter.unusedVariables false
set_option linter.unusedSimpArgs false

set_option maxRecDepth 100000 in
set_option maxHeartbeats 1000000 in
theorem letterTextLaw_any (x : Ltr) (w : World) (hr : x.r.size ≤ 9223372036854775807) (hT : Tab w) :
    Calls Tryd.prog 4 #[.agg #[.int .i64 x.k, .int .i64 x.f, .int .i64 x.t, .int .i64 x.e, .int .i64 x.y, .string x.r]] w fun e w' => e = .returned (.bool true) ∧ Below w.heap.size w w' := by
  have HW : Hid (RK (w.alloc (.cells #[.int .i64 x.k, .int .i64 x.f, .int .i64 x.t, .int .i64 x.e, .int .i64 x.y, .string x.r] 36)) w.heap.size x ∧ Below w.heap.size w (w.alloc (.cells #[.int .i64 x.k, .int .i64 x.f, .int .i64 x.t, .int .i64 x.e, .int .i64 x.y, .string x.r] 36))) := ⟨RK.new w x _, (Below.refl _ _).alloc (Nat.le_refl _) _⟩
  have HSZ : Hid (∀ W, Calls Tryd.prog 16 #[.agg #[.int .i64 x.k, .int .i64 x.f, .int .i64 x.t, .int .i64 x.e, .int .i64 x.y, .string x.r], .int .i64 1048576] W fun e w' => ∃ A : Int, e = .returned (.int .i64 A) ∧ Below W.heap.size W w' ∧ A ≤ 1048576 ∧ (0 ≤ A → x.r.size ≤ 1048576)) := fun W => szLetter_any x 1048576 W (by omega) (by omega) hr
  have HT : Hid (∀ W, Calls Tryd.prog 18 #[.agg #[.int .i64 x.k, .int .i64 x.f, .int .i64 x.t, .int .i64 x.e, .int .i64 x.y, .string x.r]] W fun e w' => e = .returned (.agg #[.int .i64 x.k, .int .i64 x.f, .int .i64 x.t, .int .i64 x.e, .int .i64 x.y, .string x.r]) ∧ Below W.heap.size W w') := fun W => toLetter_any x W
  have HS : Hid (x.r.size ≤ 1048576 → ∀ W, Calls Tryd.prog 17 #[.agg #[.int .i64 x.k, .int .i64 x.f, .int .i64 x.t, .int .i64 x.e, .int .i64 x.y, .string x.r]] W fun e w' => e = .returned (.tuple #[.string (VV.text x), .bool (VV.ok x)]) ∧ Below W.heap.size W w') := fun HSM W => sLetterText_any x W HSM
  have HI : Hid (x.r.size ≤ 1048576 → (∀ W, Below w.heap.size w W → Calls Tryd.prog 8 #[.agg #[.int .i64 x.k, .int .i64 x.f, .int .i64 x.t, .int .i64 x.e, .int .i64 x.y, .string x.r]] W fun e w' => e = .returned (.tuple #[.string (VV.text x), .bool (VV.ok x)]) ∧ Below W.heap.size W w')) := fun HSM W hW => LetterText_any x W HSM (hT.lat hW)
  generalize VV.ok x = Rr at *
  generalize VV.text x = Xx at *
  obtain ⟨k, f, t, e, y, r⟩ := x
  simp only at HW HSZ HT HS HI ⊢
  clear hr hT
  go_enter Tryd.func4, Tryd.ntmps4
  go_wp2_with fail
  refine (HSZ.out _).mono ?_
  rintro e1 w1 ⟨A, rfl, hb1, hA1, hA2⟩
  have HW1 : Hid (RK w1 w.heap.size ⟨k, f, t, e, y, r⟩ ∧ Below w.heap.size w w1) := ⟨HW.out.1.later hb1, HW.out.2.trans (hb1.mono HW.out.2.size)⟩
  clear hb1 HW
  by_cases hneg : A < 0
  · clear HT HS HI hA2
    go_wp2
    go_ret
    exact ⟨rfl, HW1.out.2⟩
  have HSM := hA2 (by omega)
  replace HS := hide (HS.out HSM)
  replace HI := hide (HI.out HSM)
  clear hA2 HSZ HSM
  have z0 := HW1.out.1.c0
  have z1 := HW1.out.1.c1
  have z2 := HW1.out.1.c2
  have z3 := HW1.out.1.c3
  have z4 := HW1.out.1.c4
  have z5 := HW1.out.1.c5
  simp only at z0 z1 z2 z3 z4 z5
  go_wp2_with fail
  refine (HT.out _).mono ?_
  rintro e2 w2 ⟨rfl, hb2⟩
  have HW2 : Hid (RK w2 w.heap.size ⟨k, f, t, e, y, r⟩ ∧ Below w.heap.size w w2) := ⟨HW1.out.1.later hb2, HW1.out.2.trans (hb2.mono HW1.out.2.size)⟩
  clear hb2 HW1 z0 z1 z2 z3 z4 z5
  go_wp2_with fail
  refine (HS.out _).mono ?_
  rintro e3 w3 ⟨rfl, hb3⟩
  have HW3 : Hid (RK w3 w.heap.size ⟨k, f, t, e, y, r⟩ ∧ Below w.heap.size w w3) := ⟨HW2.out.1.later hb3, HW2.out.2.trans (hb3.mono HW2.out.2.size)⟩
  clear hb3 HW2 HS
  have z0 := HW3.out.1.c0
  have z1 := HW3.out.1.c1
  have z2 := HW3.out.1.c2
  have z3 := HW3.out.1.c3
  have z4 := HW3.out.1.c4
  have z5 := HW3.out.1.c5
  simp only at z0 z1 z2 z3 z4 z5
  go_wp2_with fail
  refine (HT.out _).mono ?_
  rintro e4 w4 ⟨rfl, hb4⟩
  have HW4 : Hid (RK w4 w.heap.size ⟨k, f, t, e, y, r⟩ ∧ Below w.heap.size w w4) := ⟨HW3.out.1.later hb4, HW3.out.2.trans (hb4.mono HW3.out.2.size)⟩
  clear hb4 HW3 z0 z1 z2 z3 z4 z5
  go_wp2_with fail
  refine (HI.out _ HW4.out.2).mono ?_
  rintro e5 w5 ⟨rfl, hb5⟩
  have HW5 : Hid (Below w.heap.size w w5) := HW4.out.2.trans (hb5.mono HW4.out.2.size)
  clear hb5 HW4 HI
  go_wp2
  go_ret
  exact ⟨rfl, HW5.out⟩

set_option maxRecDepth 100000 in
set_option maxHeartbeats 1000000 in
theorem readLetterLaw_any (t : ByteArray) (w : World) (ht : t.size ≤ maxLen) (hT : Tab w) :
    Calls Tryd.prog 5 #[.string t] w fun e w' => e = .returned (.bool true) ∧ Below w.heap.size w w' := by
  unfold maxLen at ht
  by_cases hbig : 1048576 < t.size
  · have q : (1048576 : Int) < (t.size : Int) := by omega
    go_enter Tryd.func5, Tryd.ntmps5
    go_wp2
    go_ret
    exact ⟨rfl, Below.refl _ _⟩
  have q : ¬ (1048576 : Int) < (t.size : Int) := by omega
  have HS : Hid (∀ W, Calls Tryd.prog 13 #[.string t] W fun e w' => e = .returned (.tuple #[.agg #[.int .i64 (VV.rdA t).k, .int .i64 (VV.rdA t).f, .int .i64 (VV.rdA t).t, .int .i64 (VV.rdA t).e, .int .i64 (VV.rdA t).y, .string (VV.rdA t).r], .bool (VV.rdOk t)]) ∧ Below W.heap.size W w') := fun W => sReadLetter_any t W (by omega)
  have HI : Hid ((∀ W, Below w.heap.size w W → Calls Tryd.prog 9 #[.string t] W fun e w' => e = .returned (.tuple #[.agg #[.int .i64 (VV.rdA t).k, .int .i64 (VV.rdA t).f, .int .i64 (VV.rdA t).t, .int .i64 (VV.rdA t).e, .int .i64 (VV.rdA t).y, .string (VV.rdA t).r], .bool (VV.rdOk t)]) ∧ Below W.heap.size W w')) := fun W hW => ReadLetter_any t W (by omega) (hT.lat hW)
  have HE : Hid (∀ W, Calls Tryd.prog 19 #[.agg #[.int .i64 (VV.rdA t).k, .int .i64 (VV.rdA t).f, .int .i64 (VV.rdA t).t, .int .i64 (VV.rdA t).e, .int .i64 (VV.rdA t).y, .string (VV.rdA t).r], .agg #[.int .i64 (VV.rdA t).k, .int .i64 (VV.rdA t).f, .int .i64 (VV.rdA t).t, .int .i64 (VV.rdA t).e, .int .i64 (VV.rdA t).y, .string (VV.rdA t).r]] W fun e w' => e = .returned (.bool true) ∧ Below W.heap.size W w') := fun W => eqLetter_yes (VV.rdA t) W
  generalize VV.rdA t = X at *
  generalize VV.rdOk t = Rr at *
  obtain ⟨k, f, t, e, y, r⟩ := X
  simp only at HS HI HE ⊢
  go_enter Tryd.func5, Tryd.ntmps5
  go_wp2_with fail
  refine (HS.out _).mono ?_
  rintro e1 w1 ⟨rfl, hb1⟩
  have HW1 : Hid (RK (w1.alloc (.cells #[.int .i64 k, .int .i64 f, .int .i64 t, .int .i64 e, .int .i64 y, .string r] 25)) w1.heap.size ⟨k, f, t, e, y, r⟩ ∧ Below w.heap.size w (w1.alloc (.cells #[.int .i64 k, .int .i64 f, .int .i64 t, .int .i64 e, .int .i64 y, .string r] 25))) := ⟨RK.new w1 ⟨k, f, t, e, y, r⟩ _, hb1.alloc hb1.size _⟩
  clear hb1 HS
  go_wp2_with fail
  refine (HI.out _ HW1.out.2).mono ?_
  rintro e2 w2 ⟨rfl, hb2⟩
  have HW2 : Hid (RK (w2.alloc (.cells #[.int .i64 k, .int .i64 f, .int .i64 t, .int .i64 e, .int .i64 y, .string r] 25)) w1.heap.size ⟨k, f, t, e, y, r⟩ ∧ RK (w2.alloc (.cells #[.int .i64 k, .int .i64 f, .int .i64 t, .int .i64 e, .int .i64 y, .string r] 25)) w2.heap.size ⟨k, f, t, e, y, r⟩ ∧ Below w.heap.size w (w2.alloc (.cells #[.int .i64 k, .int .i64 f, .int .i64 t, .int .i64 e, .int .i64 y, .string r] 25))) := by
    have b2 := HW1.out.2.trans (hb2.mono HW1.out.2.size)
    exact ⟨(HW1.out.1.later hb2).later ((Below.refl _ _).alloc (Nat.le_refl _) _), RK.new w2 ⟨k, f, t, e, y, r⟩ _, b2.alloc b2.size _⟩
  clear hb2 HI HW1
  have z0 := HW2.out.1.c0
  have y0 := HW2.out.2.1.c0
  have z1 := HW2.out.1.c1
  have y1 := HW2.out.2.1.c1
  have z2 := HW2.out.1.c2
  have y2 := HW2.out.2.1.c2
  have z3 := HW2.out.1.c3
  have y3 := HW2.out.2.1.c3
  have z4 := HW2.out.1.c4
  have y4 := HW2.out.2.1.c4
  have z5 := HW2.out.1.c5
  have y5 := HW2.out.2.1.c5
  simp only at z0 y0 z1 y1 z2 y2 z3 y3 z4 y4 z5 y5
  go_wp2_with fail
  refine (HE.out _).mono ?_
  rintro e3 w3 ⟨rfl, hb3⟩
  have HW3 : Hid (Below w.heap.size w w3) := HW2.out.2.2.trans (hb3.mono HW2.out.2.2.size)
  clear hb3 HE HW2 z0 y0 z1 y1 z2 y2 z3 y3 z4 y4 z5 y5
  go_wp2
  go_ret
  exact ⟨rfl, HW3.out⟩

end Go.Proofs.YtodibhiinfbhiaaDoor
