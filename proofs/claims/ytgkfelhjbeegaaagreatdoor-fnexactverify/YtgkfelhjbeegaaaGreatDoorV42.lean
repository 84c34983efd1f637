/-
  Texts laid together: Xk.
-/
import Derived.Test.YtgkfelhjbeegaaaGreatDoorV37
import Derived.Lib.QuietBelow
/-
  When a seal and a stamp are right: the specification's answers.
-/
namespace Go.Proofs.YtgkfelhjbeegaaaGreatDoor
open Go.RowKit Go.BigFrame Go.Sort
set_option linter.unusedVariables false
set_option linter.unusedSimpArgs false

set_option maxRecDepth 100000 in
set_option maxHeartbeats 1000000 in
theorem l14Stamp_any (x : Hd) (w : World) : Calls Tryz.prog 51 #[.agg #[.int .i64 x.h, .int .i64 x.e, .string x.r, .string x.p]] w fun e w' => e = .returned (.string (stampT x)) ∧ Below w.heap.size w w' := by
  have HB : Hid (Below w.heap.size w (w.alloc (.cells #[.int .i64 x.h, .int .i64 x.e, .string x.r, .string x.p] 46))) := (Below.refl _ _).alloc (Nat.le_refl _) _
  have HH : Hid (∀ W, Calls Tryz.prog 44 #[.agg #[.int .i64 x.h, .int .i64 x.e, .string x.r, .string x.p]] W fun e w' => e = .returned (.string (HV.hashH x)) ∧ Below W.heap.size W w') := fun W => sHeadHash_any x W
  unfold stampT
  generalize HV.hashH x = K at *
  obtain ⟨h, e, r, p⟩ := x
  simp only at HB HH ⊢
  go_enter Tryz.func51, Tryz.ntmps51
  go_wp2_with fail
  refine (HH.out _).mono ?_
  rintro e1 w1 ⟨rfl, hb1⟩
  have HB1 : Hid (Below w.heap.size w w1) := HB.out.trans (hb1.mono HB.out.size)
  have CT := sTagHash_w 16 8 [K] 1 #[.string K] w1 w1.heap.size rfl rfl (by omega) rfl
  clear HB hb1 HH
  go_wp2_with fail
  refine CT.out.mono ?_
  rintro e2 w2 ⟨rfl, hb2⟩
  go_wp2
  go_ret
  exact ⟨rfl, HB1.out.trans (hb2.mono HB1.out.size)⟩

set_option maxRecDepth 100000 in
set_option maxHeartbeats 1000000 in
theorem sSealOk_any (R : ByteArray) (x : Hd) (a : Int) (vo vs vd : Value) (g1 o1 g2 o2 g3 o3 : Nat) (o s d : List ByteArray) (w : World) (ho : SS w vo g1 o1 o) (hs : SS w vs g2 o2 s) (hd : SS w vd g3 o3 d) :
    Calls Tryz.prog 17 #[.string R, .agg #[.int .i64 x.h, .int .i64 x.e, .string x.r, .string x.p, .int .i64 a, vo, vs, vd]] w fun e w' => e = .returned (.bool (slR R x a o s d)) ∧ Below w.heap.size w w' := by
  have HX : Hid (Below w.heap.size w (w.alloc (.cells #[.int .i64 x.h, .int .i64 x.e, .string x.r, .string x.p, .int .i64 a, vo, vs, vd] 49)) ∧ SlB 49 (w.alloc (.cells #[.int .i64 x.h, .int .i64 x.e, .string x.r, .string x.p, .int .i64 a, vo, vs, vd] 49)) w.heap.size x a vo vs vd) := ⟨(Below.refl _ _).alloc (Nat.le_refl _) _, SlB.new _ _ _ _ _ _ _⟩
  have HG : Hid (∀ W, Calls Tryz.prog 44 #[.agg #[.int .i64 x.h, .int .i64 x.e, .string x.r, .string x.p]] W fun e w' => e = .returned (.string (HV.hashH x)) ∧ Below W.heap.size W w') := fun W => sHeadHash_any x W
  have HA : Hid (∀ W, Calls Tryz.prog 42 #[.int .i64 x.e] W fun e w' => e = .returned (.int .i64 (sealP x.e)) ∧ w' = W) := fun W => sSealAt_any x.e W
  have HH : Hid (∀ W, Calls Tryz.prog 41 #[.agg #[.int .i64 x.h, .int .i64 x.e, .string x.r, .string x.p]] W fun e w' => e = .returned (.bool (HV.okH x)) ∧ Below W.heap.size W w') := fun W => sHeadOk_any x W
  have hz := hashH_le x
  have HS : Hid (∀ W, Below w.heap.size w W → Calls Tryz.prog 43 #[.string R, .string (HV.hashH x), .agg #[.int .i64 a, vo, vs, vd]] W fun e w' => e = .returned (.bool (okS R (HV.hashH x) a o s d)) ∧ Below W.heap.size W w') := fun W hW => sSigOk_any R _ a vo vs vd g1 o1 g2 o2 g3 o3 o s d W (ho.below hW ho.lt) (hs.below hW hs.lt) (hd.below hW hd.lt) (by omega)
  unfold slR
  obtain ⟨ao, co, rfl, lo, x1⟩ := ho
  obtain ⟨as2, cs2, rfl, ls, x2⟩ := hs
  obtain ⟨ad, cd, rfl, ld, x3⟩ := hd
  clear x1 x2 x3 hz
  generalize okS R (HV.hashH x) a o s d = B at *
  generalize HV.hashH x = K at *
  generalize sealP x.e = P at *
  generalize HV.okH x = b at *
  generalize o.length = n1 at *
  generalize s.length = n2 at *
  generalize d.length = n3 at *
  obtain ⟨h, e, r, p⟩ := x
  simp only at HX HG HH HA ⊢
  have HBB : Hid (∀ d os, Below w.heap.size w (grow (redrawn (w.alloc (.cells #[.int .i64 h, .int .i64 e, .string r, .string p, .int .i64 a, .slice ao n1 co, .slice as2 n2 cs2, .slice ad n3 cd] 49)) d) os)) := fun d os => HX.out.1.trans ((below_regrown (w.alloc (.cells #[.int .i64 h, .int .i64 e, .string r, .string p, .int .i64 a, .slice ao n1 co, .slice as2 n2 cs2, .slice ad n3 cd] 49)) d os).mono HX.out.1.size)
  have cq0 := fun d os => Calls.regrown_of (w := (w.alloc (.cells #[.int .i64 h, .int .i64 e, .string r, .string p, .int .i64 a, .slice ao n1 co, .slice as2 n2 cs2, .slice ad n3 cd] 49))) (d := d) (os := os) (HH.out _)
  have cq1 := fun d os => Calls.regrown_of (w := (w.alloc (.cells #[.int .i64 h, .int .i64 e, .string r, .string p, .int .i64 a, .slice ao n1 co, .slice as2 n2 cs2, .slice ad n3 cd] 49))) (d := d) (os := os) ((HA.out _).mono fun e w' ⟨h1, h2⟩ => ⟨h1, h2 ▸ Below.refl _ _⟩)
  have cq2 := fun d os => Calls.regrown_of (w := (w.alloc (.cells #[.int .i64 h, .int .i64 e, .string r, .string p, .int .i64 a, .slice ao n1 co, .slice as2 n2 cs2, .slice ad n3 cd] 49))) (d := d) (os := os) (HG.out _)
  have cq3 := fun d os => Calls.regrown_of (w := (w.alloc (.cells #[.int .i64 h, .int .i64 e, .string r, .string p, .int .i64 a, .slice ao n1 co, .slice as2 n2 cs2, .slice ad n3 cd] 49))) (d := d) (os := os) (HS.out _ (HBB.out d os))
  have kq0 := cell_regrown (w := (w.alloc (.cells #[.int .i64 h, .int .i64 e, .string r, .string p, .int .i64 a, .slice ao n1 co, .slice as2 n2 cs2, .slice ad n3 cd] 49))) HX.out.2.c0
  have kq1 := cell_regrown (w := (w.alloc (.cells #[.int .i64 h, .int .i64 e, .string r, .string p, .int .i64 a, .slice ao n1 co, .slice as2 n2 cs2, .slice ad n3 cd] 49))) HX.out.2.c1
  have kq2 := cell_regrown (w := (w.alloc (.cells #[.int .i64 h, .int .i64 e, .string r, .string p, .int .i64 a, .slice ao n1 co, .slice as2 n2 cs2, .slice ad n3 cd] 49))) HX.out.2.c2
  have kq3 := cell_regrown (w := (w.alloc (.cells #[.int .i64 h, .int .i64 e, .string r, .string p, .int .i64 a, .slice ao n1 co, .slice as2 n2 cs2, .slice ad n3 cd] 49))) HX.out.2.c3
  have kq4 := cell_regrown (w := (w.alloc (.cells #[.int .i64 h, .int .i64 e, .string r, .string p, .int .i64 a, .slice ao n1 co, .slice as2 n2 cs2, .slice ad n3 cd] 49))) HX.out.2.c4
  have kq5 := cell_regrown (w := (w.alloc (.cells #[.int .i64 h, .int .i64 e, .string r, .string p, .int .i64 a, .slice ao n1 co, .slice as2 n2 cs2, .slice ad n3 cd] 49))) HX.out.2.c5
  have kq6 := cell_regrown (w := (w.alloc (.cells #[.int .i64 h, .int .i64 e, .string r, .string p, .int .i64 a, .slice ao n1 co, .slice as2 n2 cs2, .slice ad n3 cd] 49))) HX.out.2.c6
  have kq7 := cell_regrown (w := (w.alloc (.cells #[.int .i64 h, .int .i64 e, .string r, .string p, .int .i64 a, .slice ao n1 co, .slice as2 n2 cs2, .slice ad n3 cd] 49))) HX.out.2.c7
  cases b
  · rw [Bool.false_and]
    go_enter Tryz.func17, Tryz.ntmps17
    go_wp2
    refine wp_region_quiet_below (by kernel_rfl) (by kernel_rfl) ?_
    repeat (go_big_quiet_step (first | exact cq0 _ _ | exact cq1 _ _ | exact cq2 _ _ | exact cq3 _ _))
    refine wpQuiet_nil ?_
    rintro _ ⟨⟨dq, osq⟩, rfl⟩
    have hb6 := HBB.out dq osq
    go_wp2
    go_ret
    exact ⟨rfl, hb6⟩
  · rw [Bool.true_and]
    by_cases hP : a = P
    · have q : (a == P) = true := by simpa using hP
      rw [decide_eq_true hP, Bool.true_and]
      clear hP
      go_enter Tryz.func17, Tryz.ntmps17
      go_wp2
      refine wp_region_quiet_below (by kernel_rfl) (by kernel_rfl) ?_
      repeat (go_big_quiet_step (first | exact cq0 _ _ | exact cq1 _ _ | exact cq2 _ _ | exact cq3 _ _))
      refine wpQuiet_nil ?_
      rintro _ ⟨⟨dq, osq⟩, rfl⟩
      have hb6 := HBB.out dq osq
      go_wp2
      go_ret
      exact ⟨rfl, hb6⟩
    · have q : (a == P) = false := by simpa using hP
      rw [decide_eq_false hP, Bool.false_and]
      clear hP
      go_enter Tryz.func17, Tryz.ntmps17
      go_wp2
      refine wp_region_quiet_below (by kernel_rfl) (by kernel_rfl) ?_
      repeat (go_big_quiet_step (first | exact cq0 _ _ | exact cq1 _ _ | exact cq2 _ _ | exact cq3 _ _))
      refine wpQuiet_nil ?_
      rintro _ ⟨⟨dq, osq⟩, rfl⟩
      have hb6 := HBB.out dq osq
      go_wp2
      go_ret
      exact ⟨rfl, hb6⟩

set_option maxRecDepth 100000 in
set_option maxHeartbeats 1000000 in
theorem sStampOk_any (R : ByteArray) (x : Hd) (a : Int) (vo vs vd : Value) (g1 o1 g2 o2 g3 o3 : Nat) (o s d : List ByteArray) (w : World) (ho : SS w vo g1 o1 o) (hs : SS w vs g2 o2 s) (hd : SS w vd g3 o3 d) :
    Calls Tryz.prog 22 #[.string R, .agg #[.int .i64 x.h, .int .i64 x.e, .string x.r, .string x.p], .agg #[.int .i64 a, vo, vs, vd]] w fun e w' => e = .returned (.bool (stR R x a o s d)) ∧ Below w.heap.size w w' := by
  have HG : Hid (∀ W, Calls Tryz.prog 51 #[.agg #[.int .i64 x.h, .int .i64 x.e, .string x.r, .string x.p]] W fun e w' => e = .returned (.string (stampT x)) ∧ Below W.heap.size W w') := fun W => l14Stamp_any x W
  have HA : Hid (∀ W, Calls Tryz.prog 50 #[.int .i64 x.h, .int .i64 x.e] W fun e w' => e = .returned (.int .i64 (stampP x.h x.e)) ∧ w' = W) := fun W => sStampAt_any x.h x.e W
  have HH : Hid (∀ W, Calls Tryz.prog 41 #[.agg #[.int .i64 x.h, .int .i64 x.e, .string x.r, .string x.p]] W fun e w' => e = .returned (.bool (HV.okH x)) ∧ Below W.heap.size W w') := fun W => sHeadOk_any x W
  have hz := stampT_le x
  have HS : Hid (∀ W, Below w.heap.size w W → Calls Tryz.prog 43 #[.string R, .string (stampT x), .agg #[.int .i64 a, vo, vs, vd]] W fun e w' => e = .returned (.bool (okS R (stampT x) a o s d)) ∧ Below W.heap.size W w') := fun W hW => sSigOk_any R _ a vo vs vd g1 o1 g2 o2 g3 o3 o s d W (ho.below hW ho.lt) (hs.below hW hs.lt) (hd.below hW hd.lt) (by omega)
  unfold stR
  obtain ⟨ao, co, rfl, lo, x1⟩ := ho
  obtain ⟨as2, cs2, rfl, ls, x2⟩ := hs
  obtain ⟨ad, cd, rfl, ld, x3⟩ := hd
  clear x1 x2 x3 hz
  generalize okS R (stampT x) a o s d = B at *
  generalize stampT x = K at *
  generalize stampP x.h x.e = P at *
  generalize HV.okH x = b at *
  generalize o.length = n1 at *
  generalize s.length = n2 at *
  generalize d.length = n3 at *
  obtain ⟨h, e, r, p⟩ := x
  simp only at HG HH HA ⊢
  have HX : Hid (Below w.heap.size w ((w.alloc (.cells #[.int .i64 h, .int .i64 e, .string r, .string p] 46)).alloc (.cells #[.int .i64 a, .slice ao n1 co, .slice as2 n2 cs2, .slice ad n3 cd] 47)) ∧ BH ((w.alloc (.cells #[.int .i64 h, .int .i64 e, .string r, .string p] 46)).alloc (.cells #[.int .i64 a, .slice ao n1 co, .slice as2 n2 cs2, .slice ad n3 cd] 47)) w.heap.size ⟨h, e, r, p⟩ ∧ SgM ((w.alloc (.cells #[.int .i64 h, .int .i64 e, .string r, .string p] 46)).alloc (.cells #[.int .i64 a, .slice ao n1 co, .slice as2 n2 cs2, .slice ad n3 cd] 47)) (w.heap.size + 1) a (.slice ao n1 co) (.slice as2 n2 cs2) (.slice ad n3 cd)) :=
    ⟨((Below.refl _ _).alloc (Nat.le_refl _) _).alloc (by simp) _, (BH.new w ⟨h, e, r, p⟩).later ((Below.refl _ _).alloc (Nat.le_refl _) _), alloc_fst _ _ (by simp)⟩
  have HBB : Hid (∀ d os, Below w.heap.size w (grow (redrawn ((w.alloc (.cells #[.int .i64 h, .int .i64 e, .string r, .string p] 46)).alloc (.cells #[.int .i64 a, .slice ao n1 co, .slice as2 n2 cs2, .slice ad n3 cd] 47)) d) os)) := fun d os => HX.out.1.trans ((below_regrown ((w.alloc (.cells #[.int .i64 h, .int .i64 e, .string r, .string p] 46)).alloc (.cells #[.int .i64 a, .slice ao n1 co, .slice as2 n2 cs2, .slice ad n3 cd] 47)) d os).mono HX.out.1.size)
  have cq0 := fun d os => Calls.regrown_of (w := ((w.alloc (.cells #[.int .i64 h, .int .i64 e, .string r, .string p] 46)).alloc (.cells #[.int .i64 a, .slice ao n1 co, .slice as2 n2 cs2, .slice ad n3 cd] 47))) (d := d) (os := os) (HH.out _)
  have cq1 := fun d os => Calls.regrown_of (w := ((w.alloc (.cells #[.int .i64 h, .int .i64 e, .string r, .string p] 46)).alloc (.cells #[.int .i64 a, .slice ao n1 co, .slice as2 n2 cs2, .slice ad n3 cd] 47))) (d := d) (os := os) ((HA.out _).mono fun e w' ⟨h1, h2⟩ => ⟨h1, h2 ▸ Below.refl _ _⟩)
  have cq2 := fun d os => Calls.regrown_of (w := ((w.alloc (.cells #[.int .i64 h, .int .i64 e, .string r, .string p] 46)).alloc (.cells #[.int .i64 a, .slice ao n1 co, .slice as2 n2 cs2, .slice ad n3 cd] 47))) (d := d) (os := os) (HG.out _)
  have cq3 := fun d os => Calls.regrown_of (w := ((w.alloc (.cells #[.int .i64 h, .int .i64 e, .string r, .string p] 46)).alloc (.cells #[.int .i64 a, .slice ao n1 co, .slice as2 n2 cs2, .slice ad n3 cd] 47))) (d := d) (os := os) (HS.out _ (HBB.out d os))
  have kq0 := cell_regrown (w := ((w.alloc (.cells #[.int .i64 h, .int .i64 e, .string r, .string p] 46)).alloc (.cells #[.int .i64 a, .slice ao n1 co, .slice as2 n2 cs2, .slice ad n3 cd] 47))) HX.out.2.1.c0
  have kq1 := cell_regrown (w := ((w.alloc (.cells #[.int .i64 h, .int .i64 e, .string r, .string p] 46)).alloc (.cells #[.int .i64 a, .slice ao n1 co, .slice as2 n2 cs2, .slice ad n3 cd] 47))) HX.out.2.1.c1
  have kq2 := cell_regrown (w := ((w.alloc (.cells #[.int .i64 h, .int .i64 e, .string r, .string p] 46)).alloc (.cells #[.int .i64 a, .slice ao n1 co, .slice as2 n2 cs2, .slice ad n3 cd] 47))) HX.out.2.1.c2
  have kq3 := cell_regrown (w := ((w.alloc (.cells #[.int .i64 h, .int .i64 e, .string r, .string p] 46)).alloc (.cells #[.int .i64 a, .slice ao n1 co, .slice as2 n2 cs2, .slice ad n3 cd] 47))) HX.out.2.1.c3
  have kq4 := cell_regrown (w := ((w.alloc (.cells #[.int .i64 h, .int .i64 e, .string r, .string p] 46)).alloc (.cells #[.int .i64 a, .slice ao n1 co, .slice as2 n2 cs2, .slice ad n3 cd] 47))) HX.out.2.2.c0
  have kq5 := cell_regrown (w := ((w.alloc (.cells #[.int .i64 h, .int .i64 e, .string r, .string p] 46)).alloc (.cells #[.int .i64 a, .slice ao n1 co, .slice as2 n2 cs2, .slice ad n3 cd] 47))) HX.out.2.2.c1
  have kq6 := cell_regrown (w := ((w.alloc (.cells #[.int .i64 h, .int .i64 e, .string r, .string p] 46)).alloc (.cells #[.int .i64 a, .slice ao n1 co, .slice as2 n2 cs2, .slice ad n3 cd] 47))) HX.out.2.2.c2
  have kq7 := cell_regrown (w := ((w.alloc (.cells #[.int .i64 h, .int .i64 e, .string r, .string p] 46)).alloc (.cells #[.int .i64 a, .slice ao n1 co, .slice as2 n2 cs2, .slice ad n3 cd] 47))) HX.out.2.2.c3
  cases b
  · rw [Bool.false_and]
    go_enter Tryz.func22, Tryz.ntmps22
    go_wp2
    refine wp_region_quiet_below (by kernel_rfl) (by kernel_rfl) ?_
    repeat (go_big_quiet_step (first | exact cq0 _ _ | exact cq1 _ _ | exact cq2 _ _ | exact cq3 _ _))
    refine wpQuiet_nil ?_
    rintro _ ⟨⟨dq, osq⟩, rfl⟩
    have hb6 := HBB.out dq osq
    go_wp2
    go_ret
    exact ⟨rfl, hb6⟩
  · rw [Bool.true_and]
    by_cases hP : a = P
    · have q : (a == P) = true := by simpa using hP
      rw [decide_eq_true hP, Bool.true_and]
      clear hP
      go_enter Tryz.func22, Tryz.ntmps22
      go_wp2
      refine wp_region_quiet_below (by kernel_rfl) (by kernel_rfl) ?_
      repeat (go_big_quiet_step (first | exact cq0 _ _ | exact cq1 _ _ | exact cq2 _ _ | exact cq3 _ _))
      refine wpQuiet_nil ?_
      rintro _ ⟨⟨dq, osq⟩, rfl⟩
      have hb6 := HBB.out dq osq
      go_wp2
      go_ret
      exact ⟨rfl, hb6⟩
    · have q : (a == P) = false := by simpa using hP
      rw [decide_eq_false hP, Bool.false_and]
      clear hP
      go_enter Tryz.func22, Tryz.ntmps22
      go_wp2
      refine wp_region_quiet_below (by kernel_rfl) (by kernel_rfl) ?_
      repeat (go_big_quiet_step (first | exact cq0 _ _ | exact cq1 _ _ | exact cq2 _ _ | exact cq3 _ _))
      refine wpQuiet_nil ?_
      rintro _ ⟨⟨dq, osq⟩, rfl⟩
      have hb6 := HBB.out dq osq
      go_wp2
      go_ret
      exact ⟨rfl, hb6⟩

end Go.Proofs.YtgkfelhjbeegaaaGreatDoor
