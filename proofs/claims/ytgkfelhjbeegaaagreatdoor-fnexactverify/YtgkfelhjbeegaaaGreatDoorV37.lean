/-
  Texts laid together: Xb, Xj.
-/
import Derived.Test.YtgkfelhjbeegaaaGreatDoorV33
import Derived.Test.YtgkfelhjbeegaaaGreatDoorV34
import Derived.Test.YtgkfelhjbeegaaaGreatDoorV36
import Derived.Deep.RegionHeld3
import Derived.Test.YtgkfelhjbeegaaaGreatDoorV14
/-
  Where a head is sealed and stamped, and what text is signed there: the program's methods.
-/
namespace Go.Proofs.YtgkfelhjbeegaaaGreatDoor
open Go.RowKit Go.BigFrame Go.Sort
set_option linter.unusedVariables false
set_option linter.unusedSimpArgs false

/-- what a stamp signs -/
def stampT (x : Hd) : ByteArray := hashB 8 [HV.hashH x] 16

set_option maxRecDepth 100000 in
set_option maxHeartbeats 1000000 in
theorem sealing_any (x : Hd) (w : World) (hT : Tb w) : Calls Tryz.prog 103 #[.agg #[.int .i64 x.h, .int .i64 x.e, .string x.r, .string x.p]] w fun e w' => e = .returned (.tuple #[.int .i64 (sealP x.e), .string (HV.hashH x)]) ∧ Below w.heap.size w w' := by
  have hB : Below w.heap.size w (w.alloc (.cells #[.int .i64 x.h, .int .i64 x.e, .string x.r, .string x.p] 46)) := (Below.refl _ _).alloc (Nat.le_refl _) _
  have HH : Hid (∀ W, Below w.heap.size w W → Calls Tryz.prog 121 #[.agg #[.int .i64 x.h, .int .i64 x.e, .string x.r, .string x.p]] W fun e w' => e = .returned (.string (HV.hashH x)) ∧ Below W.heap.size W w') := fun W hW => HeadHash_any x W (hT.later hW)
  have HS : Hid (∀ W, Calls Tryz.prog 120 #[.int .i64 x.e] W fun e w' => e = .returned (.int .i64 (sealP x.e)) ∧ w' = W) := fun W => SealAt_any x.e W
  generalize HV.hashH x = K at *
  generalize sealP x.e = P at *
  obtain ⟨h, e, r, p⟩ := x
  have HB : Hid (Below w.heap.size w (w.alloc (.cells #[.int .i64 h, .int .i64 e, .string r, .string p] 46))) := hB
  clear hB hT
  have HK : Hid (∀ W, Below (w.alloc (.cells #[.int .i64 h, .int .i64 e, .string r, .string p] 46)).heap.size (w.alloc (.cells #[.int .i64 h, .int .i64 e, .string r, .string p] 46)) W → W.cell? ⟨w.heap.size, 0, none⟩ = some (.int .i64 h) ∧ W.cell? ⟨w.heap.size, 1, none⟩ = some (.int .i64 e) ∧ W.cell? ⟨w.heap.size, 2, none⟩ = some (.string r) ∧ W.cell? ⟨w.heap.size, 3, none⟩ = some (.string p)) := fun W hW => by
    have h := (BH.new w ⟨h, e, r, p⟩).later hW
    exact ⟨h.c0, h.c1, h.c2, h.c3⟩
  have HB2 : Hid (∀ W, Below (w.alloc (.cells #[.int .i64 h, .int .i64 e, .string r, .string p] 46)).heap.size (w.alloc (.cells #[.int .i64 h, .int .i64 e, .string r, .string p] 46)) W → Below w.heap.size w W) := fun W hW => HB.out.trans (hW.mono HB.out.size)
  have hb : Below (w.alloc (.cells #[.int .i64 h, .int .i64 e, .string r, .string p] 46)).heap.size (w.alloc (.cells #[.int .i64 h, .int .i64 e, .string r, .string p] 46)) (w.alloc (.cells #[.int .i64 h, .int .i64 e, .string r, .string p] 46)).drew := (Below.refl _ _).drew
  go_enter Tryz.func103, Tryz.ntmps103
  go_wp2
  go_region_held3 (fun W => W.cell? ⟨w.heap.size, 0, none⟩ = some (.int .i64 h) ∧ W.cell? ⟨w.heap.size, 1, none⟩ = some (.int .i64 e) ∧ W.cell? ⟨w.heap.size, 2, none⟩ = some (.string r) ∧ W.cell? ⟨w.heap.size, 3, none⟩ = some (.string p)) (first | (go_keep; done) | exact HK.out _ hb) ((first | (go_at_call 120; refine (HS.out _).mono ?_; rintro e1 w1 ⟨rfl, rfl⟩) | (go_at_call 121; refine (HH.out _ (HB2.out _ hb)).mono ?_; rintro e2 w2 ⟨rfl, hb2⟩; have hb := hb.trans (hb2.mono hb.size)) | fail))
  all_goals
    go_wp2
    go_ret2
    exact ⟨rfl, HB2.out _ hb⟩

set_option maxRecDepth 100000 in
set_option maxHeartbeats 1000000 in
theorem stamping_any (x : Hd) (w : World) (hT : Tb w) : Calls Tryz.prog 133 #[.agg #[.int .i64 x.h, .int .i64 x.e, .string x.r, .string x.p]] w fun e w' => e = .returned (.tuple #[.int .i64 (stampP x.h x.e), .string (stampT x)]) ∧ Below w.heap.size w w' := by
  have hB : Below w.heap.size w (w.alloc (.cells #[.int .i64 x.h, .int .i64 x.e, .string x.r, .string x.p] 46)) := (Below.refl _ _).alloc (Nat.le_refl _) _
  have HH : Hid (∀ W, Below w.heap.size w W → Calls Tryz.prog 121 #[.agg #[.int .i64 x.h, .int .i64 x.e, .string x.r, .string x.p]] W fun e w' => e = .returned (.string (HV.hashH x)) ∧ Below W.heap.size W w') := fun W hW => HeadHash_any x W (hT.later hW)
  have HS : Hid (∀ W, Calls Tryz.prog 142 #[.int .i64 x.h, .int .i64 x.e] W fun e w' => e = .returned (.int .i64 (stampP x.h x.e)) ∧ w' = W) := fun W => StampAt_any x.h x.e W
  unfold stampT
  generalize HV.hashH x = K at *
  generalize stampP x.h x.e = P at *
  obtain ⟨h, e, r, p⟩ := x
  have HB : Hid (Below w.heap.size w (w.alloc (.cells #[.int .i64 h, .int .i64 e, .string r, .string p] 46))) := hB
  have HTH : Hid (∀ W, Below w.heap.size w W → Hid (Calls Tryz.prog 111 #[.int .i64 16, .int .i64 8, .slice (some ⟨W.heap.size, 0, none⟩) 1 1] (W.alloc (.cells #[.string K] 9)) fun e w' => e = .returned (.string (hashB 8 [K] 16)) ∧ Below W.heap.size W w')) := fun W hW => taggedHash_w 16 8 [K] 1 #[.string K] W W.heap.size rfl rfl (by omega) rfl (hT.later hW)
  clear hB hT
  have HK : Hid (∀ W, Below (w.alloc (.cells #[.int .i64 h, .int .i64 e, .string r, .string p] 46)).heap.size (w.alloc (.cells #[.int .i64 h, .int .i64 e, .string r, .string p] 46)) W → W.cell? ⟨w.heap.size, 0, none⟩ = some (.int .i64 h) ∧ W.cell? ⟨w.heap.size, 1, none⟩ = some (.int .i64 e) ∧ W.cell? ⟨w.heap.size, 2, none⟩ = some (.string r) ∧ W.cell? ⟨w.heap.size, 3, none⟩ = some (.string p)) := fun W hW => by
    have h := (BH.new w ⟨h, e, r, p⟩).later hW
    exact ⟨h.c0, h.c1, h.c2, h.c3⟩
  have HB2 : Hid (∀ W, Below (w.alloc (.cells #[.int .i64 h, .int .i64 e, .string r, .string p] 46)).heap.size (w.alloc (.cells #[.int .i64 h, .int .i64 e, .string r, .string p] 46)) W → Below w.heap.size w W) := fun W hW => HB.out.trans (hW.mono HB.out.size)
  have hb : Below (w.alloc (.cells #[.int .i64 h, .int .i64 e, .string r, .string p] 46)).heap.size (w.alloc (.cells #[.int .i64 h, .int .i64 e, .string r, .string p] 46)) (w.alloc (.cells #[.int .i64 h, .int .i64 e, .string r, .string p] 46)).drew := (Below.refl _ _).drew
  generalize hashB 8 [K] 16 = T at *
  go_enter Tryz.func133, Tryz.ntmps133
  go_wp2
  go_region_held3 (fun W => W.cell? ⟨w.heap.size, 0, none⟩ = some (.int .i64 h) ∧ W.cell? ⟨w.heap.size, 1, none⟩ = some (.int .i64 e) ∧ W.cell? ⟨w.heap.size, 2, none⟩ = some (.string r) ∧ W.cell? ⟨w.heap.size, 3, none⟩ = some (.string p)) (first | (go_keep; done) | exact HK.out _ hb) ((first | (go_at_call 142; refine (HS.out _).mono ?_; rintro e1 w1 ⟨rfl, rfl⟩) | (go_at_call 121; refine (HH.out _ (HB2.out _ hb)).mono ?_; rintro e2 w2 ⟨rfl, hb2⟩; have hb := hb.trans (hb2.mono hb.size); have hbA := hb.alloc hb.size (.cells #[.string K] 9)) | (go_at_call 111; refine (HTH.out _ (HB2.out _ hb)).out.mono ?_; rintro e3 w3 ⟨rfl, hb3⟩; have hb := hb.trans (hb3.mono hb.size)) | fail))
  all_goals
    go_wp2
    go_ret2
    exact ⟨rfl, HB2.out _ hb⟩

set_option maxRecDepth 100000 in
set_option maxHeartbeats 1000000 in
theorem signedAt_any (r t : ByteArray) (a y : Int) (vo vs vd : Value) (g1 o1 g2 o2 g3 o3 : Nat) (o s d : List ByteArray) (w : World) (ho : SS w vo g1 o1 o) (hs : SS w vs g2 o2 s) (hd : SS w vd g3 o3 d) (ht : t.size ≤ 1100000) (hT : Tb w) :
    Calls Tryz.prog 105 #[.agg #[.int .i64 a, vo, vs, vd], .int .i64 y, .string r, .string t] w fun e w' => e = .returned (.bool (decide (a = y) && okS r t a o s d)) ∧ Below w.heap.size w w' := by
  have hB : Below w.heap.size w (w.alloc (.cells #[.int .i64 a, vo, vs, vd] 47)) := (Below.refl _ _).alloc (Nat.le_refl _) _
  have hc := SigOk_any r t a vo vs vd g1 o1 g2 o2 g3 o3 o s d _ (ho.below hB ho.lt) (hs.below hB hs.lt) (hd.below hB hd.lt) ht (hT.later hB)
  have HB : Hid (Below w.heap.size w (w.alloc (.cells #[.int .i64 a, vo, vs, vd] 47))) := hB
  generalize okS r t a o s d = R at *
  obtain ⟨ao, co, rfl, lo, x1⟩ := ho
  obtain ⟨as2, cs2, rfl, ls, x2⟩ := hs
  obtain ⟨ad, cd, rfl, ld, x3⟩ := hd
  clear x1 x2 x3 hB hT
  by_cases h : a = y
  · rw [decide_eq_true h]
    have q : (a == y) = true := by simpa using h
    clear h
    go_enter Tryz.func105, Tryz.ntmps105
    go_wp2_with fail
    refine hc.mono ?_
    rintro e w1 ⟨rfl, hb1⟩
    go_wp2
    go_ret
    exact ⟨by simp, HB.out.trans (hb1.mono HB.out.size)⟩
  · rw [decide_eq_false h]
    have q : (a == y) = false := by simpa using h
    clear h hc
    go_enter Tryz.func105, Tryz.ntmps105
    go_wp2
    go_ret
    exact ⟨by simp, HB.out⟩

end Go.Proofs.YtgkfelhjbeegaaaGreatDoor
/-
  When a seal and a stamp are right: the program's answers.
-/
namespace Go.Proofs.YtgkfelhjbeegaaaGreatDoor
open Go.RowKit Go.BigFrame Go.Sort
set_option linter.unusedVariables false
set_option linter.unusedSimpArgs false

/-- is it a right seal by this root -/
def slR (r : ByteArray) (x : Hd) (a : Int) (o s d : List ByteArray) : Bool := HV.okH x && (decide (a = sealP x.e) && okS r (HV.hashH x) a o s d)
/-- is it a right stamp by this root -/
def stR (r : ByteArray) (x : Hd) (a : Int) (o s d : List ByteArray) : Bool := HV.okH x && (decide (a = stampP x.h x.e) && okS r (stampT x) a o s d)
theorem hashH_le (x : Hd) : (HV.hashH x).size ≤ 16 := by
  unfold HV.hashH
  split
  · exact hashB_le _ _
  · exact Nat.zero_le _
theorem stampT_le (x : Hd) : (stampT x).size ≤ 16 := hashB_le _ _

set_option maxRecDepth 100000 in
set_option maxHeartbeats 1000000 in
theorem SealOk_any (R : ByteArray) (x : Hd) (a : Int) (vo vs vd : Value) (g1 o1 g2 o2 g3 o3 : Nat) (o s d : List ByteArray) (w : World) (ho : SS w vo g1 o1 o) (hs : SS w vs g2 o2 s) (hd : SS w vd g3 o3 d) (hT : Tb w) :
    Calls Tryz.prog 86 #[.string R, .agg #[.int .i64 x.h, .int .i64 x.e, .string x.r, .string x.p, .int .i64 a, vo, vs, vd]] w fun e w' => e = .returned (.bool (slR R x a o s d)) ∧ Below w.heap.size w w' := by
  have HX : Hid (Below w.heap.size w (w.alloc (.cells #[.int .i64 x.h, .int .i64 x.e, .string x.r, .string x.p, .int .i64 a, vo, vs, vd] 49)) ∧ SlB 49 (w.alloc (.cells #[.int .i64 x.h, .int .i64 x.e, .string x.r, .string x.p, .int .i64 a, vo, vs, vd] 49)) w.heap.size x a vo vs vd) := ⟨(Below.refl _ _).alloc (Nat.le_refl _) _, SlB.new _ _ _ _ _ _ _⟩
  have HG : Hid (∀ W, Below w.heap.size w W → Calls Tryz.prog 103 #[.agg #[.int .i64 x.h, .int .i64 x.e, .string x.r, .string x.p]] W fun e w' => e = .returned (.tuple #[.int .i64 (sealP x.e), .string (HV.hashH x)]) ∧ Below W.heap.size W w') := fun W hW => sealing_any x W (hT.later hW)
  have HH : Hid (∀ W, Calls Tryz.prog 104 #[.agg #[.int .i64 x.h, .int .i64 x.e, .string x.r, .string x.p]] W fun e w' => e = .returned (.bool (HV.okH x)) ∧ Below W.heap.size W w') := fun W => HeadOk_any x W
  have hz := hashH_le x
  have HS : Hid (∀ W, Below w.heap.size w W → Calls Tryz.prog 105 #[.agg #[.int .i64 a, vo, vs, vd], .int .i64 (sealP x.e), .string R, .string (HV.hashH x)] W fun e w' => e = .returned (.bool (decide (a = sealP x.e) && okS R (HV.hashH x) a o s d)) ∧ Below W.heap.size W w') := fun W hW => signedAt_any R _ a _ vo vs vd g1 o1 g2 o2 g3 o3 o s d W (ho.below hW ho.lt) (hs.below hW hs.lt) (hd.below hW hd.lt) (by omega) (hT.later hW)
  unfold slR
  obtain ⟨ao, co, rfl, lo, x1⟩ := ho
  obtain ⟨as2, cs2, rfl, ls, x2⟩ := hs
  obtain ⟨ad, cd, rfl, ld, x3⟩ := hd
  clear x1 x2 x3 hT hz
  generalize (decide (a = sealP x.e) && okS R (HV.hashH x) a o s d) = B at *
  generalize HV.hashH x = K at *
  generalize sealP x.e = P at *
  generalize HV.okH x = b at *
  generalize o.length = n1 at *
  generalize s.length = n2 at *
  generalize d.length = n3 at *
  obtain ⟨h, e, r, p⟩ := x
  simp only at HX HG HH ⊢
  go_enter Tryz.func86, Tryz.ntmps86
  go_wp2_with fail
  refine (HG.out _ HX.out.1).mono ?_
  rintro e1 w1 ⟨rfl, hb1⟩
  have HX1 : Hid (Below w.heap.size w w1 ∧ SlB 49 w1 w.heap.size ⟨h, e, r, p⟩ a (.slice ao n1 co) (.slice as2 n2 cs2) (.slice ad n3 cd)) := ⟨HX.out.1.trans (hb1.mono HX.out.1.size), HX.out.2.later hb1⟩
  obtain ⟨z0, z1, z2, z3, z4, z5, z6, z7⟩ := HX1.out.2.cells
  simp only at z0 z1 z2 z3
  clear hb1 HX HG
  go_wp2_with fail
  refine (HH.out _).mono ?_
  rintro e2 w2 ⟨rfl, hb2⟩
  have HX2 : Hid (Below w.heap.size w w2 ∧ SlB 49 w2 w.heap.size ⟨h, e, r, p⟩ a (.slice ao n1 co) (.slice as2 n2 cs2) (.slice ad n3 cd)) := ⟨HX1.out.1.trans (hb2.mono HX1.out.1.size), HX1.out.2.later hb2⟩
  clear hb2 HX1 z0 z1 z2 z3 z4 z5 z6 z7 HH
  cases b
  · clear HS
    go_wp2
    go_ret
    exact ⟨by simp, HX2.out.1⟩
  · obtain ⟨z0, z1, z2, z3, z4, z5, z6, z7⟩ := HX2.out.2.cells
    clear z0 z1 z2 z3
    go_wp2_with fail
    refine (HS.out _ HX2.out.1).mono ?_
    rintro e3 w3 ⟨rfl, hb3⟩
    have HB3 : Hid (Below w.heap.size w w3) := HX2.out.1.trans (hb3.mono HX2.out.1.size)
    clear z4 z5 z6 z7 HX2 hb3 HS
    go_wp2
    go_ret
    exact ⟨by simp, HB3.out⟩

set_option maxRecDepth 100000 in
set_option maxHeartbeats 1000000 in
theorem StampOk_any (R : ByteArray) (x : Hd) (a : Int) (vo vs vd : Value) (g1 o1 g2 o2 g3 o3 : Nat) (o s d : List ByteArray) (w : World) (ho : SS w vo g1 o1 o) (hs : SS w vs g2 o2 s) (hd : SS w vd g3 o3 d) (hT : Tb w) :
    Calls Tryz.prog 113 #[.string R, .agg #[.int .i64 x.h, .int .i64 x.e, .string x.r, .string x.p], .agg #[.int .i64 a, vo, vs, vd]] w fun e w' => e = .returned (.bool (stR R x a o s d)) ∧ Below w.heap.size w w' := by
  have HG : Hid (∀ W, Below w.heap.size w W → Calls Tryz.prog 133 #[.agg #[.int .i64 x.h, .int .i64 x.e, .string x.r, .string x.p]] W fun e w' => e = .returned (.tuple #[.int .i64 (stampP x.h x.e), .string (stampT x)]) ∧ Below W.heap.size W w') := fun W hW => stamping_any x W (hT.later hW)
  have HH : Hid (∀ W, Calls Tryz.prog 104 #[.agg #[.int .i64 x.h, .int .i64 x.e, .string x.r, .string x.p]] W fun e w' => e = .returned (.bool (HV.okH x)) ∧ Below W.heap.size W w') := fun W => HeadOk_any x W
  have hz := stampT_le x
  have HS : Hid (∀ W, Below w.heap.size w W → Calls Tryz.prog 105 #[.agg #[.int .i64 a, vo, vs, vd], .int .i64 (stampP x.h x.e), .string R, .string (stampT x)] W fun e w' => e = .returned (.bool (decide (a = stampP x.h x.e) && okS R (stampT x) a o s d)) ∧ Below W.heap.size W w') := fun W hW => signedAt_any R _ a _ vo vs vd g1 o1 g2 o2 g3 o3 o s d W (ho.below hW ho.lt) (hs.below hW hs.lt) (hd.below hW hd.lt) (by omega) (hT.later hW)
  unfold stR
  obtain ⟨ao, co, rfl, lo, x1⟩ := ho
  obtain ⟨as2, cs2, rfl, ls, x2⟩ := hs
  obtain ⟨ad, cd, rfl, ld, x3⟩ := hd
  clear x1 x2 x3 hT hz
  generalize (decide (a = stampP x.h x.e) && okS R (stampT x) a o s d) = B at *
  generalize stampT x = K at *
  generalize stampP x.h x.e = P at *
  generalize HV.okH x = b at *
  generalize o.length = n1 at *
  generalize s.length = n2 at *
  generalize d.length = n3 at *
  obtain ⟨h, e, r, p⟩ := x
  simp only at HG HH ⊢
  have HX : Hid (Below w.heap.size w ((w.alloc (.cells #[.int .i64 h, .int .i64 e, .string r, .string p] 46)).alloc (.cells #[.int .i64 a, .slice ao n1 co, .slice as2 n2 cs2, .slice ad n3 cd] 47)) ∧ BH ((w.alloc (.cells #[.int .i64 h, .int .i64 e, .string r, .string p] 46)).alloc (.cells #[.int .i64 a, .slice ao n1 co, .slice as2 n2 cs2, .slice ad n3 cd] 47)) w.heap.size ⟨h, e, r, p⟩ ∧ SgM ((w.alloc (.cells #[.int .i64 h, .int .i64 e, .string r, .string p] 46)).alloc (.cells #[.int .i64 a, .slice ao n1 co, .slice as2 n2 cs2, .slice ad n3 cd] 47)) (w.heap.size + 1) a (.slice ao n1 co) (.slice as2 n2 cs2) (.slice ad n3 cd)) :=
    ⟨((Below.refl _ _).alloc (Nat.le_refl _) _).alloc (by simp) _, (BH.new w ⟨h, e, r, p⟩).later ((Below.refl _ _).alloc (Nat.le_refl _) _), alloc_fst _ _ (by simp)⟩
  go_enter Tryz.func113, Tryz.ntmps113
  go_wp2_with fail
  refine (HG.out _ HX.out.1).mono ?_
  rintro e1 w1 ⟨rfl, hb1⟩
  have HX1 : Hid (Below w.heap.size w w1 ∧ BH w1 w.heap.size ⟨h, e, r, p⟩ ∧ SgM w1 (w.heap.size + 1) a (.slice ao n1 co) (.slice as2 n2 cs2) (.slice ad n3 cd)) := ⟨HX.out.1.trans (hb1.mono HX.out.1.size), HX.out.2.1.later hb1, HX.out.2.2.later hb1⟩
  have z0 := HX1.out.2.1.c0
  have z1 := HX1.out.2.1.c1
  have z2 := HX1.out.2.1.c2
  have z3 := HX1.out.2.1.c3
  simp only at z0 z1 z2 z3
  clear hb1 HX HG
  go_wp2_with fail
  refine (HH.out _).mono ?_
  rintro e2 w2 ⟨rfl, hb2⟩
  have HX2 : Hid (Below w.heap.size w w2 ∧ SgM w2 (w.heap.size + 1) a (.slice ao n1 co) (.slice as2 n2 cs2) (.slice ad n3 cd)) := ⟨HX1.out.1.trans (hb2.mono HX1.out.1.size), HX1.out.2.2.later hb2⟩
  clear hb2 HX1 z0 z1 z2 z3 HH
  cases b
  · clear HS
    go_wp2
    go_ret
    exact ⟨by simp, HX2.out.1⟩
  · have z4 := HX2.out.2.c0
    have z5 := HX2.out.2.c1
    have z6 := HX2.out.2.c2
    have z7 := HX2.out.2.c3
    go_wp2_with fail
    refine (HS.out _ HX2.out.1).mono ?_
    rintro e3 w3 ⟨rfl, hb3⟩
    have HB3 : Hid (Below w.heap.size w w3) := HX2.out.1.trans (hb3.mono HX2.out.1.size)
    clear z4 z5 z6 z7 HX2 hb3 HS
    go_wp2
    go_ret
    exact ⟨by simp, HB3.out⟩

end Go.Proofs.YtgkfelhjbeegaaaGreatDoor
