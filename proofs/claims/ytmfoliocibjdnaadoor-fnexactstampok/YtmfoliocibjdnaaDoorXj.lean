/-
  When a seal and a stamp are right: the program's answers.
-/
import Derived.Test.YtmfoliocibjdnaaDoorXb
import Derived.Test.YtmfoliocibjdnaaDoorXc
namespace Go.Proofs.YtmfoliocibjdnaaDoor
open Go.RowKit Go.BigFrame Go.Sort
set_option linter.unusedVariables false
set_option linter.unusedSimpArgs false

/-- is it a right seal by this root -/
def slR (r : ByteArray) (x : Hd) (a : Int) (o s d : List ByteArray) : Bool := HV.okH x && (decide (a = sealP x.e) && okS r (HV.hashH x) a o s d)
/-- is it a right stamp by this root -/
def stR (r : ByteArray) (x : Hd) (a : Int) (o s d : List ByteArray) : Bool := HV.okH x && (decide (a = stampP x.h x.e) && okS r (stampT x) a o s d)
theorem hashH_le (x : Hd) : (HV.hashH x).size ≤ 16 := by
  unfold HV.hashH
  split
  · exact hashB_le _ _
  · exact Nat.zero_le _
theorem stampT_le (x : Hd) : (stampT x).size ≤ 16 := hashB_le _ _

set_option maxRecDepth 100000 in
set_option maxHeartbeats 1000000 in
theorem SealOk_any (R : ByteArray) (x : Hd) (a : Int) (vo vs vd : Value) (g1 o1 g2 o2 g3 o3 : Nat) (o s d : List ByteArray) (w : World) (ho : SS w vo g1 o1 o) (hs : SS w vs g2 o2 s) (hd : SS w vd g3 o3 d) (hT : Tb w) :
    Calls Tryd.prog 51 #[.string R, .agg #[.int .i64 x.h, .int .i64 x.e, .string x.r, .string x.p, .int .i64 a, vo, vs, vd]] w fun e w' => e = .returned (.bool (slR R x a o s d)) ∧ Below w.heap.size w w' := by
  have HX : Hid (Below w.heap.size w (w.alloc (.cells #[.int .i64 x.h, .int .i64 x.e, .string x.r, .string x.p, .int .i64 a, vo, vs, vd] 58)) ∧ SlB 58 (w.alloc (.cells #[.int .i64 x.h, .int .i64 x.e, .string x.r, .string x.p, .int .i64 a, vo, vs, vd] 58)) w.heap.size x a vo vs vd) := ⟨(Below.refl _ _).alloc (Nat.le_refl _) _, SlB.new _ _ _ _ _ _ _⟩
  have HG : Hid (∀ W, Below w.heap.size w W → Calls Tryd.prog 120 #[.agg #[.int .i64 x.h, .int .i64 x.e, .string x.r, .string x.p]] W fun e w' => e = .returned (.tuple #[.int .i64 (sealP x.e), .string (HV.hashH x)]) ∧ Below W.heap.size W w') := fun W hW => sealing_any x W (hT.later hW)
  have HH : Hid (∀ W, Calls Tryd.prog 121 #[.agg #[.int .i64 x.h, .int .i64 x.e, .string x.r, .string x.p]] W fun e w' => e = .returned (.bool (HV.okH x)) ∧ Below W.heap.size W w') := fun W => HeadOk_any x W
  have hz := hashH_le x
  have HS : Hid (∀ W, Below w.heap.size w W → Calls Tryd.prog 122 #[.agg #[.int .i64 a, vo, vs, vd], .int .i64 (sealP x.e), .string R, .string (HV.hashH x)] W fun e w' => e = .returned (.bool (decide (a = sealP x.e) && okS R (HV.hashH x) a o s d)) ∧ Below W.heap.size W w') := fun W hW => signedAt_any R _ a _ vo vs vd g1 o1 g2 o2 g3 o3 o s d W (ho.below hW ho.lt) (hs.below hW hs.lt) (hd.below hW hd.lt) (by omega) (hT.later hW)
  unfold slR
  obtain ⟨ao, co, rfl, lo, x1⟩ := ho
  obtain ⟨as2, cs2, rfl, ls, x2⟩ := hs
  obtain ⟨ad, cd, rfl, ld, x3⟩ := hd
  clear x1 x2 x3 hT hz
  generalize (decide (a = sealP x.e) && okS R (HV.hashH x) a o s d) = B at *
  generalize HV.hashH x = K at *
  generalize sealP x.e = P at *
  generalize HV.okH x = b at *
  generalize o.length = n1 at *
  generalize s.length = n2 at *
  generalize d.length = n3 at *
  obtain ⟨h, e, r, p⟩ := x
  simp only at HX HG HH ⊢
  go_enter Tryd.func51, Tryd.ntmps51
  go_wp2_with fail
  refine (HG.out _ HX.out.1).mono ?_
  rintro e1 w1 ⟨rfl, hb1⟩
  have HX1 : Hid (Below w.heap.size w w1 ∧ SlB 58 w1 w.heap.size ⟨h, e, r, p⟩ a (.slice ao n1 co) (.slice as2 n2 cs2) (.slice ad n3 cd)) := ⟨HX.out.1.trans (hb1.mono HX.out.1.size), HX.out.2.later hb1⟩
  obtain ⟨z0, z1, z2, z3, z4, z5, z6, z7⟩ := HX1.out.2.cells
  simp only at z0 z1 z2 z3
  clear hb1 HX HG
  go_wp2_with fail
  refine (HH.out _).mono ?_
  rintro e2 w2 ⟨rfl, hb2⟩
  have HX2 : Hid (Below w.heap.size w w2 ∧ SlB 58 w2 w.heap.size ⟨h, e, r, p⟩ a (.slice ao n1 co) (.slice as2 n2 cs2) (.slice ad n3 cd)) := ⟨HX1.out.1.trans (hb2.mono HX1.out.1.size), HX1.out.2.later hb2⟩
  clear hb2 HX1 z0 z1 z2 z3 z4 z5 z6 z7 HH
  cases b
  · clear HS
    go_wp2
    go_ret
    exact ⟨by simp, HX2.out.1⟩
  · obtain ⟨z0, z1, z2, z3, z4, z5, z6, z7⟩ := HX2.out.2.cells
    clear z0 z1 z2 z3
    go_wp2_with fail
    refine (HS.out _ HX2.out.1).mono ?_
    rintro e3 w3 ⟨rfl, hb3⟩
    have HB3 : Hid (Below w.heap.size w w3) := HX2.out.1.trans (hb3.mono HX2.out.1.size)
    clear z4 z5 z6 z7 HX2 hb3 HS
    go_wp2
    go_ret
    exact ⟨by simp, HB3.out⟩

set_option maxRecDepth 100000 in
set_option maxHeartbeats 1000000 in
theorem StampOk_any (R : ByteArray) (x : Hd) (a : Int) (vo vs vd : Value) (g1 o1 g2 o2 g3 o3 : Nat) (o s d : List ByteArray) (w : World) (ho : SS w vo g1 o1 o) (hs : SS w vs g2 o2 s) (hd : SS w vd g3 o3 d) (hT : Tb w) :
    Calls Tryd.prog 59 #[.string R, .agg #[.int .i64 x.h, .int .i64 x.e, .string x.r, .string x.p], .agg #[.int .i64 a, vo, vs, vd]] w fun e w' => e = .returned (.bool (stR R x a o s d)) ∧ Below w.heap.size w w' := by
  have HG : Hid (∀ W, Below w.heap.size w W → Calls Tryd.prog 124 #[.agg #[.int .i64 x.h, .int .i64 x.e, .string x.r, .string x.p]] W fun e w' => e = .returned (.tuple #[.int .i64 (stampP x.h x.e), .string (stampT x)]) ∧ Below W.heap.size W w') := fun W hW => stamping_any x W (hT.later hW)
  have HH : Hid (∀ W, Calls Tryd.prog 121 #[.agg #[.int .i64 x.h, .int .i64 x.e, .string x.r, .string x.p]] W fun e w' => e = .returned (.bool (HV.okH x)) ∧ Below W.heap.size W w') := fun W => HeadOk_any x W
  have hz := stampT_le x
  have HS : Hid (∀ W, Below w.heap.size w W → Calls Tryd.prog 122 #[.agg #[.int .i64 a, vo, vs, vd], .int .i64 (stampP x.h x.e), .string R, .string (stampT x)] W fun e w' => e = .returned (.bool (decide (a = stampP x.h x.e) && okS R (stampT x) a o s d)) ∧ Below W.heap.size W w') := fun W hW => signedAt_any R _ a _ vo vs vd g1 o1 g2 o2 g3 o3 o s d W (ho.below hW ho.lt) (hs.below hW hs.lt) (hd.below hW hd.lt) (by omega) (hT.later hW)
  unfold stR
  obtain ⟨ao, co, rfl, lo, x1⟩ := ho
  obtain ⟨as2, cs2, rfl, ls, x2⟩ := hs
  obtain ⟨ad, cd, rfl, ld, x3⟩ := hd
  clear x1 x2 x3 hT hz
  generalize (decide (a = stampP x.h x.e) && okS R (stampT x) a o s d) = B at *
  generalize stampT x = K at *
  generalize stampP x.h x.e = P at *
  generalize HV.okH x = b at *
  generalize o.length = n1 at *
  generalize s.length = n2 at *
  generalize d.length = n3 at *
  obtain ⟨h, e, r, p⟩ := x
  simp only at HG HH ⊢
  have HX : Hid (Below w.heap.size w ((w.alloc (.cells #[.int .i64 h, .int .i64 e, .string r, .string p] 56)).alloc (.cells #[.int .i64 a, .slice ao n1 co, .slice as2 n2 cs2, .slice ad n3 cd] 26)) ∧ BH ((w.alloc (.cells #[.int .i64 h, .int .i64 e, .string r, .string p] 56)).alloc (.cells #[.int .i64 a, .slice ao n1 co, .slice as2 n2 cs2, .slice ad n3 cd] 26)) w.heap.size ⟨h, e, r, p⟩ ∧ SgM ((w.alloc (.cells #[.int .i64 h, .int .i64 e, .string r, .string p] 56)).alloc (.cells #[.int .i64 a, .slice ao n1 co, .slice as2 n2 cs2, .slice ad n3 cd] 26)) (w.heap.size + 1) a (.slice ao n1 co) (.slice as2 n2 cs2) (.slice ad n3 cd)) :=
    ⟨((Below.refl _ _).alloc (Nat.le_refl _) _).alloc (by simp) _, (BH.new w ⟨h, e, r, p⟩).later ((Below.refl _ _).alloc (Nat.le_refl _) _), alloc_fst _ _ (by simp)⟩
  go_enter Tryd.func59, Tryd.ntmps59
  go_wp2_with fail
  refine (HG.out _ HX.out.1).mono ?_
  rintro e1 w1 ⟨rfl, hb1⟩
  have HX1 : Hid (Below w.heap.size w w1 ∧ BH w1 w.heap.size ⟨h, e, r, p⟩ ∧ SgM w1 (w.heap.size + 1) a (.slice ao n1 co) (.slice as2 n2 cs2) (.slice ad n3 cd)) := ⟨HX.out.1.trans (hb1.mono HX.out.1.size), HX.out.2.1.later hb1, HX.out.2.2.later hb1⟩
  have z0 := HX1.out.2.1.c0
  have z1 := HX1.out.2.1.c1
  have z2 := HX1.out.2.1.c2
  have z3 := HX1.out.2.1.c3
  simp only at z0 z1 z2 z3
  clear hb1 HX HG
  go_wp2_with fail
  refine (HH.out _).mono ?_
  rintro e2 w2 ⟨rfl, hb2⟩
  have HX2 : Hid (Below w.heap.size w w2 ∧ SgM w2 (w.heap.size + 1) a (.slice ao n1 co) (.slice as2 n2 cs2) (.slice ad n3 cd)) := ⟨HX1.out.1.trans (hb2.mono HX1.out.1.size), HX1.out.2.2.later hb2⟩
  clear hb2 HX1 z0 z1 z2 z3 HH
  cases b
  · clear HS
    go_wp2
    go_ret
    exact ⟨by simp, HX2.out.1⟩
  · have z4 := HX2.out.2.c0
    have z5 := HX2.out.2.c1
    have z6 := HX2.out.2.c2
    have z7 := HX2.out.2.c3
    go_wp2_with fail
    refine (HS.out _ HX2.out.1).mono ?_
    rintro e3 w3 ⟨rfl, hb3⟩
    have HB3 : Hid (Below w.heap.size w w3) := HX2.out.1.trans (hb3.mono HX2.out.1.size)
    clear z4 z5 z6 z7 HX2 hb3 HS
    go_wp2
    go_ret
    exact ⟨by simp, HB3.out⟩

end Go.Proofs.YtmfoliocibjdnaaDoor
