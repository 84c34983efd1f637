/-
  Texts laid together: Xb, Xj, Rooti.
-/
import Derived.Test.YtaejeemjndmjcaaDoorPkS23
import Derived.Test.YtaejeemjndmjcaaDoorPkS24
import Derived.Test.YtaejeemjndmjcaaDoorPkS29
import Derived.Deep.RegionHeld3
import Derived.Test.YtaejeemjndmjcaaDoorPkS18
import Derived.Test.YtaejeemjndmjcaaDoorPkS25
import Derived.Test.YtaejeemjndmjcaaDoorPkS17
/-
  Where a head is sealed and stamped, and what text is signed there: the program's methods.
-/
namespace Go.Proofs.YtaejeemjndmjcaaDoor
open Go.RowKit Go.BigFrame Go.Sort
set_option linter.unusedVariables false
set_option linter.unusedSimpArgs false

/-- what a stamp signs -/
def stampT (x : Hd) : ByteArray := hashB 8 [HV.hashH x] 16

set_option maxRecDepth 100000 in
set_option maxHeartbeats 1000000 in
theorem sealing_any (x : Hd) (w : World) (hT : Tb w) : Calls Tryd.prog 39 #[.agg #[.int .i64 x.h, .int .i64 x.e, .string x.r, .string x.p]] w fun e w' => e = .returned (.tuple #[.int .i64 (sealP x.e), .string (HV.hashH x)]) ∧ Below w.heap.size w w' := by
  have hB : Below w.heap.size w (w.alloc (.cells #[.int .i64 x.h, .int .i64 x.e, .string x.r, .string x.p] 25)) := (Below.refl _ _).alloc (Nat.le_refl _) _
  have HH : Hid (∀ W, Below w.heap.size w W → Calls Tryd.prog 72 #[.agg #[.int .i64 x.h, .int .i64 x.e, .string x.r, .string x.p]] W fun e w' => e = .returned (.string (HV.hashH x)) ∧ Below W.heap.size W w') := fun W hW => HeadHash_any x W (hT.later hW)
  have HS : Hid (∀ W, Calls Tryd.prog 18 #[.int .i64 x.e] W fun e w' => e = .returned (.int .i64 (sealP x.e)) ∧ w' = W) := fun W => SealAt_any x.e W
  generalize HV.hashH x = K at *
  generalize sealP x.e = P at *
  obtain ⟨h, e, r, p⟩ := x
  have HB : Hid (Below w.heap.size w (w.alloc (.cells #[.int .i64 h, .int .i64 e, .string r, .string p] 25))) := hB
  clear hB hT
  have HK : Hid (∀ W, Below (w.alloc (.cells #[.int .i64 h, .int .i64 e, .string r, .string p] 25)).heap.size (w.alloc (.cells #[.int .i64 h, .int .i64 e, .string r, .string p] 25)) W → W.cell? ⟨w.heap.size, 0, none⟩ = some (.int .i64 h) ∧ W.cell? ⟨w.heap.size, 1, none⟩ = some (.int .i64 e) ∧ W.cell? ⟨w.heap.size, 2, none⟩ = some (.string r) ∧ W.cell? ⟨w.heap.size, 3, none⟩ = some (.string p)) := fun W hW => by
    have h := (BH.new w ⟨h, e, r, p⟩).later hW
    exact ⟨h.c0, h.c1, h.c2, h.c3⟩
  have HB2 : Hid (∀ W, Below (w.alloc (.cells #[.int .i64 h, .int .i64 e, .string r, .string p] 25)).heap.size (w.alloc (.cells #[.int .i64 h, .int .i64 e, .string r, .string p] 25)) W → Below w.heap.size w W) := fun W hW => HB.out.trans (hW.mono HB.out.size)
  have hb : Below (w.alloc (.cells #[.int .i64 h, .int .i64 e, .string r, .string p] 25)).heap.size (w.alloc (.cells #[.int .i64 h, .int .i64 e, .string r, .string p] 25)) (w.alloc (.cells #[.int .i64 h, .int .i64 e, .string r, .string p] 25)).drew := (Below.refl _ _).drew
  go_enter Tryd.func39, Tryd.ntmps39
  go_wp2
  go_region_held3 (fun W => W.cell? ⟨w.heap.size, 0, none⟩ = some (.int .i64 h) ∧ W.cell? ⟨w.heap.size, 1, none⟩ = some (.int .i64 e) ∧ W.cell? ⟨w.heap.size, 2, none⟩ = some (.string r) ∧ W.cell? ⟨w.heap.size, 3, none⟩ = some (.string p)) (first | (go_keep; done) | exact HK.out _ hb) ((first | (go_at_call 18; refine (HS.out _).mono ?_; rintro e1 w1 ⟨rfl, rfl⟩) | (go_at_call 72; refine (HH.out _ (HB2.out _ hb)).mono ?_; rintro e2 w2 ⟨rfl, hb2⟩; have hb := hb.trans (hb2.mono hb.size)) | fail))
  all_goals
    go_wp2
    go_ret2
    exact ⟨rfl, HB2.out _ hb⟩

set_option maxRecDepth 100000 in
set_option maxHeartbeats 1000000 in
theorem stamping_any (x : Hd) (w : World) (hT : Tb w) : Calls Tryd.prog 50 #[.agg #[.int .i64 x.h, .int .i64 x.e, .string x.r, .string x.p]] w fun e w' => e = .returned (.tuple #[.int .i64 (stampP x.h x.e), .string (stampT x)]) ∧ Below w.heap.size w w' := by
  have hB : Below w.heap.size w (w.alloc (.cells #[.int .i64 x.h, .int .i64 x.e, .string x.r, .string x.p] 25)) := (Below.refl _ _).alloc (Nat.le_refl _) _
  have HH : Hid (∀ W, Below w.heap.size w W → Calls Tryd.prog 72 #[.agg #[.int .i64 x.h, .int .i64 x.e, .string x.r, .string x.p]] W fun e w' => e = .returned (.string (HV.hashH x)) ∧ Below W.heap.size W w') := fun W hW => HeadHash_any x W (hT.later hW)
  have HS : Hid (∀ W, Calls Tryd.prog 23 #[.int .i64 x.h, .int .i64 x.e] W fun e w' => e = .returned (.int .i64 (stampP x.h x.e)) ∧ w' = W) := fun W => StampAt_any x.h x.e W
  unfold stampT
  generalize HV.hashH x = K at *
  generalize stampP x.h x.e = P at *
  obtain ⟨h, e, r, p⟩ := x
  have HB : Hid (Below w.heap.size w (w.alloc (.cells #[.int .i64 h, .int .i64 e, .string r, .string p] 25))) := hB
  have HTH : Hid (∀ W, Below w.heap.size w W → Hid (Calls Tryd.prog 81 #[.int .i64 16, .int .i64 8, .slice (some ⟨W.heap.size, 0, none⟩) 1 1] (W.alloc (.cells #[.string K] 9)) fun e w' => e = .returned (.string (hashB 8 [K] 16)) ∧ Below W.heap.size W w')) := fun W hW => taggedHash_w 16 8 [K] 1 #[.string K] W W.heap.size rfl rfl (by omega) rfl (hT.later hW)
  clear hB hT
  have HK : Hid (∀ W, Below (w.alloc (.cells #[.int .i64 h, .int .i64 e, .string r, .string p] 25)).heap.size (w.alloc (.cells #[.int .i64 h, .int .i64 e, .string r, .string p] 25)) W → W.cell? ⟨w.heap.size, 0, none⟩ = some (.int .i64 h) ∧ W.cell? ⟨w.heap.size, 1, none⟩ = some (.int .i64 e) ∧ W.cell? ⟨w.heap.size, 2, none⟩ = some (.string r) ∧ W.cell? ⟨w.heap.size, 3, none⟩ = some (.string p)) := fun W hW => by
    have h := (BH.new w ⟨h, e, r, p⟩).later hW
    exact ⟨h.c0, h.c1, h.c2, h.c3⟩
  have HB2 : Hid (∀ W, Below (w.alloc (.cells #[.int .i64 h, .int .i64 e, .string r, .string p] 25)).heap.size (w.alloc (.cells #[.int .i64 h, .int .i64 e, .string r, .string p] 25)) W → Below w.heap.size w W) := fun W hW => HB.out.trans (hW.mono HB.out.size)
  have hb : Below (w.alloc (.cells #[.int .i64 h, .int .i64 e, .string r, .string p] 25)).heap.size (w.alloc (.cells #[.int .i64 h, .int .i64 e, .string r, .string p] 25)) (w.alloc (.cells #[.int .i64 h, .int .i64 e, .string r, .string p] 25)).drew := (Below.refl _ _).drew
  generalize hashB 8 [K] 16 = T at *
  go_enter Tryd.func50, Tryd.ntmps50
  go_wp2
  go_region_held3 (fun W => W.cell? ⟨w.heap.size, 0, none⟩ = some (.int .i64 h) ∧ W.cell? ⟨w.heap.size, 1, none⟩ = some (.int .i64 e) ∧ W.cell? ⟨w.heap.size, 2, none⟩ = some (.string r) ∧ W.cell? ⟨w.heap.size, 3, none⟩ = some (.string p)) (first | (go_keep; done) | exact HK.out _ hb) ((first | (go_at_call 23; refine (HS.out _).mono ?_; rintro e1 w1 ⟨rfl, rfl⟩) | (go_at_call 72; refine (HH.out _ (HB2.out _ hb)).mono ?_; rintro e2 w2 ⟨rfl, hb2⟩; have hb := hb.trans (hb2.mono hb.size); have hbA := hb.alloc hb.size (.cells #[.string K] 9)) | (go_at_call 81; refine (HTH.out _ (HB2.out _ hb)).out.mono ?_; rintro e3 w3 ⟨rfl, hb3⟩; have hb := hb.trans (hb3.mono hb.size)) | fail))
  all_goals
    go_wp2
    go_ret2
    exact ⟨rfl, HB2.out _ hb⟩

set_option maxRecDepth 100000 in
set_option maxHeartbeats 1000000 in
theorem signedAt_any (r t : ByteArray) (a y : Int) (vo vs vd : Value) (g1 o1 g2 o2 g3 o3 : Nat) (o s d : List ByteArray) (w : World) (ho : SS w vo g1 o1 o) (hs : SS w vs g2 o2 s) (hd : SS w vd g3 o3 d) (ht : t.size ≤ 1100000) (hT : Tb w) :
    Calls Tryd.prog 41 #[.agg #[.int .i64 a, vo, vs, vd], .int .i64 y, .string r, .string t] w fun e w' => e = .returned (.bool (decide (a = y) && okS r t a o s d)) ∧ Below w.heap.size w w' := by
  have hB : Below w.heap.size w (w.alloc (.cells #[.int .i64 a, vo, vs, vd] 28)) := (Below.refl _ _).alloc (Nat.le_refl _) _
  have hc := SigOk_any r t a vo vs vd g1 o1 g2 o2 g3 o3 o s d _ (ho.below hB ho.lt) (hs.below hB hs.lt) (hd.below hB hd.lt) ht (hT.later hB)
  have HB : Hid (Below w.heap.size w (w.alloc (.cells #[.int .i64 a, vo, vs, vd] 28))) := hB
  generalize okS r t a o s d = R at *
  obtain ⟨ao, co, rfl, lo, x1⟩ := ho
  obtain ⟨as2, cs2, rfl, ls, x2⟩ := hs
  obtain ⟨ad, cd, rfl, ld, x3⟩ := hd
  clear x1 x2 x3 hB hT
  by_cases h : a = y
  · rw [decide_eq_true h]
    have q : (a == y) = true := by simpa using h
    clear h
    go_enter Tryd.func41, Tryd.ntmps41
    go_wp2_with fail
    refine hc.mono ?_
    rintro e w1 ⟨rfl, hb1⟩
    go_wp2
    go_ret
    exact ⟨by simp, HB.out.trans (hb1.mono HB.out.size)⟩
  · rw [decide_eq_false h]
    have q : (a == y) = false := by simpa using h
    clear h hc
    go_enter Tryd.func41, Tryd.ntmps41
    go_wp2
    go_ret
    exact ⟨by simp, HB.out⟩

end Go.Proofs.YtaejeemjndmjcaaDoor
/-
  When a seal and a stamp are right: the program's answers.
-/
namespace Go.Proofs.YtaejeemjndmjcaaDoor
open Go.RowKit Go.BigFrame Go.Sort
set_option linter.unusedVariables false
set_option linter.unusedSimpArgs false

/-- is it a right seal by this root -/
def slR (r : ByteArray) (x : Hd) (a : Int) (o s d : List ByteArray) : Bool := HV.okH x && (decide (a = sealP x.e) && okS r (HV.hashH x) a o s d)
/-- is it a right stamp by this root -/
def stR (r : ByteArray) (x : Hd) (a : Int) (o s d : List ByteArray) : Bool := HV.okH x && (decide (a = stampP x.h x.e) && okS r (stampT x) a o s d)
theorem hashH_le (x : Hd) : (HV.hashH x).size ≤ 16 := by
  unfold HV.hashH
  split
  · exact hashB_le _ _
  · exact Nat.zero_le _
theorem stampT_le (x : Hd) : (stampT x).size ≤ 16 := hashB_le _ _

set_option maxRecDepth 100000 in
set_option maxHeartbeats 1000000 in
theorem SealOk_any (R : ByteArray) (x : Hd) (a : Int) (vo vs vd : Value) (g1 o1 g2 o2 g3 o3 : Nat) (o s d : List ByteArray) (w : World) (ho : SS w vo g1 o1 o) (hs : SS w vs g2 o2 s) (hd : SS w vd g3 o3 d) (hT : Tb w) :
    Calls Tryd.prog 12 #[.string R, .agg #[.int .i64 x.h, .int .i64 x.e, .string x.r, .string x.p, .int .i64 a, vo, vs, vd]] w fun e w' => e = .returned (.bool (slR R x a o s d)) ∧ Below w.heap.size w w' := by
  have HX : Hid (Below w.heap.size w (w.alloc (.cells #[.int .i64 x.h, .int .i64 x.e, .string x.r, .string x.p, .int .i64 a, vo, vs, vd] 30)) ∧ SlB 30 (w.alloc (.cells #[.int .i64 x.h, .int .i64 x.e, .string x.r, .string x.p, .int .i64 a, vo, vs, vd] 30)) w.heap.size x a vo vs vd) := ⟨(Below.refl _ _).alloc (Nat.le_refl _) _, SlB.new _ _ _ _ _ _ _⟩
  have HG : Hid (∀ W, Below w.heap.size w W → Calls Tryd.prog 39 #[.agg #[.int .i64 x.h, .int .i64 x.e, .string x.r, .string x.p]] W fun e w' => e = .returned (.tuple #[.int .i64 (sealP x.e), .string (HV.hashH x)]) ∧ Below W.heap.size W w') := fun W hW => sealing_any x W (hT.later hW)
  have HH : Hid (∀ W, Calls Tryd.prog 40 #[.agg #[.int .i64 x.h, .int .i64 x.e, .string x.r, .string x.p]] W fun e w' => e = .returned (.bool (HV.okH x)) ∧ Below W.heap.size W w') := fun W => HeadOk_any x W
  have hz := hashH_le x
  have HS : Hid (∀ W, Below w.heap.size w W → Calls Tryd.prog 41 #[.agg #[.int .i64 a, vo, vs, vd], .int .i64 (sealP x.e), .string R, .string (HV.hashH x)] W fun e w' => e = .returned (.bool (decide (a = sealP x.e) && okS R (HV.hashH x) a o s d)) ∧ Below W.heap.size W w') := fun W hW => signedAt_any R _ a _ vo vs vd g1 o1 g2 o2 g3 o3 o s d W (ho.below hW ho.lt) (hs.below hW hs.lt) (hd.below hW hd.lt) (by omega) (hT.later hW)
  unfold slR
  obtain ⟨ao, co, rfl, lo, x1⟩ := ho
  obtain ⟨as2, cs2, rfl, ls, x2⟩ := hs
  obtain ⟨ad, cd, rfl, ld, x3⟩ := hd
  clear x1 x2 x3 hT hz
  generalize (decide (a = sealP x.e) && okS R (HV.hashH x) a o s d) = B at *
  generalize HV.hashH x = K at *
  generalize sealP x.e = P at *
  generalize HV.okH x = b at *
  generalize o.length = n1 at *
  generalize s.length = n2 at *
  generalize d.length = n3 at *
  obtain ⟨h, e, r, p⟩ := x
  simp only at HX HG HH ⊢
  go_enter Tryd.func12, Tryd.ntmps12
  go_wp2_with fail
  refine (HG.out _ HX.out.1).mono ?_
  rintro e1 w1 ⟨rfl, hb1⟩
  have HX1 : Hid (Below w.heap.size w w1 ∧ SlB 30 w1 w.heap.size ⟨h, e, r, p⟩ a (.slice ao n1 co) (.slice as2 n2 cs2) (.slice ad n3 cd)) := ⟨HX.out.1.trans (hb1.mono HX.out.1.size), HX.out.2.later hb1⟩
  obtain ⟨z0, z1, z2, z3, z4, z5, z6, z7⟩ := HX1.out.2.cells
  simp only at z0 z1 z2 z3
  clear hb1 HX HG
  go_wp2_with fail
  refine (HH.out _).mono ?_
  rintro e2 w2 ⟨rfl, hb2⟩
  have HX2 : Hid (Below w.heap.size w w2 ∧ SlB 30 w2 w.heap.size ⟨h, e, r, p⟩ a (.slice ao n1 co) (.slice as2 n2 cs2) (.slice ad n3 cd)) := ⟨HX1.out.1.trans (hb2.mono HX1.out.1.size), HX1.out.2.later hb2⟩
  clear hb2 HX1 z0 z1 z2 z3 z4 z5 z6 z7 HH
  cases b
  · clear HS
    go_wp2
    go_ret
    exact ⟨by simp, HX2.out.1⟩
  · obtain ⟨z0, z1, z2, z3, z4, z5, z6, z7⟩ := HX2.out.2.cells
    clear z0 z1 z2 z3
    go_wp2_with fail
    refine (HS.out _ HX2.out.1).mono ?_
    rintro e3 w3 ⟨rfl, hb3⟩
    have HB3 : Hid (Below w.heap.size w w3) := HX2.out.1.trans (hb3.mono HX2.out.1.size)
    clear z4 z5 z6 z7 HX2 hb3 HS
    go_wp2
    go_ret
    exact ⟨by simp, HB3.out⟩

set_option maxRecDepth 100000 in
set_option maxHeartbeats 1000000 in
theorem StampOk_any (R : ByteArray) (x : Hd) (a : Int) (vo vs vd : Value) (g1 o1 g2 o2 g3 o3 : Nat) (o s d : List ByteArray) (w : World) (ho : SS w vo g1 o1 o) (hs : SS w vs g2 o2 s) (hd : SS w vd g3 o3 d) (hT : Tb w) :
    Calls Tryd.prog 25 #[.string R, .agg #[.int .i64 x.h, .int .i64 x.e, .string x.r, .string x.p], .agg #[.int .i64 a, vo, vs, vd]] w fun e w' => e = .returned (.bool (stR R x a o s d)) ∧ Below w.heap.size w w' := by
  have HG : Hid (∀ W, Below w.heap.size w W → Calls Tryd.prog 50 #[.agg #[.int .i64 x.h, .int .i64 x.e, .string x.r, .string x.p]] W fun e w' => e = .returned (.tuple #[.int .i64 (stampP x.h x.e), .string (stampT x)]) ∧ Below W.heap.size W w') := fun W hW => stamping_any x W (hT.later hW)
  have HH : Hid (∀ W, Calls Tryd.prog 40 #[.agg #[.int .i64 x.h, .int .i64 x.e, .string x.r, .string x.p]] W fun e w' => e = .returned (.bool (HV.okH x)) ∧ Below W.heap.size W w') := fun W => HeadOk_any x W
  have hz := stampT_le x
  have HS : Hid (∀ W, Below w.heap.size w W → Calls Tryd.prog 41 #[.agg #[.int .i64 a, vo, vs, vd], .int .i64 (stampP x.h x.e), .string R, .string (stampT x)] W fun e w' => e = .returned (.bool (decide (a = stampP x.h x.e) && okS R (stampT x) a o s d)) ∧ Below W.heap.size W w') := fun W hW => signedAt_any R _ a _ vo vs vd g1 o1 g2 o2 g3 o3 o s d W (ho.below hW ho.lt) (hs.below hW hs.lt) (hd.below hW hd.lt) (by omega) (hT.later hW)
  unfold stR
  obtain ⟨ao, co, rfl, lo, x1⟩ := ho
  obtain ⟨as2, cs2, rfl, ls, x2⟩ := hs
  obtain ⟨ad, cd, rfl, ld, x3⟩ := hd
  clear x1 x2 x3 hT hz
  generalize (decide (a = stampP x.h x.e) && okS R (stampT x) a o s d) = B at *
  generalize stampT x = K at *
  generalize stampP x.h x.e = P at *
  generalize HV.okH x = b at *
  generalize o.length = n1 at *
  generalize s.length = n2 at *
  generalize d.length = n3 at *
  obtain ⟨h, e, r, p⟩ := x
  simp only at HG HH ⊢
  have HX : Hid (Below w.heap.size w ((w.alloc (.cells #[.int .i64 h, .int .i64 e, .string r, .string p] 25)).alloc (.cells #[.int .i64 a, .slice ao n1 co, .slice as2 n2 cs2, .slice ad n3 cd] 28)) ∧ BH ((w.alloc (.cells #[.int .i64 h, .int .i64 e, .string r, .string p] 25)).alloc (.cells #[.int .i64 a, .slice ao n1 co, .slice as2 n2 cs2, .slice ad n3 cd] 28)) w.heap.size ⟨h, e, r, p⟩ ∧ SgM ((w.alloc (.cells #[.int .i64 h, .int .i64 e, .string r, .string p] 25)).alloc (.cells #[.int .i64 a, .slice ao n1 co, .slice as2 n2 cs2, .slice ad n3 cd] 28)) (w.heap.size + 1) a (.slice ao n1 co) (.slice as2 n2 cs2) (.slice ad n3 cd)) :=
    ⟨((Below.refl _ _).alloc (Nat.le_refl _) _).alloc (by simp) _, (BH.new w ⟨h, e, r, p⟩).later ((Below.refl _ _).alloc (Nat.le_refl _) _), alloc_fst _ _ (by simp)⟩
  go_enter Tryd.func25, Tryd.ntmps25
  go_wp2_with fail
  refine (HG.out _ HX.out.1).mono ?_
  rintro e1 w1 ⟨rfl, hb1⟩
  have HX1 : Hid (Below w.heap.size w w1 ∧ BH w1 w.heap.size ⟨h, e, r, p⟩ ∧ SgM w1 (w.heap.size + 1) a (.slice ao n1 co) (.slice as2 n2 cs2) (.slice ad n3 cd)) := ⟨HX.out.1.trans (hb1.mono HX.out.1.size), HX.out.2.1.later hb1, HX.out.2.2.later hb1⟩
  have z0 := HX1.out.2.1.c0
  have z1 := HX1.out.2.1.c1
  have z2 := HX1.out.2.1.c2
  have z3 := HX1.out.2.1.c3
  simp only at z0 z1 z2 z3
  clear hb1 HX HG
  go_wp2_with fail
  refine (HH.out _).mono ?_
  rintro e2 w2 ⟨rfl, hb2⟩
  have HX2 : Hid (Below w.heap.size w w2 ∧ SgM w2 (w.heap.size + 1) a (.slice ao n1 co) (.slice as2 n2 cs2) (.slice ad n3 cd)) := ⟨HX1.out.1.trans (hb2.mono HX1.out.1.size), HX1.out.2.2.later hb2⟩
  clear hb2 HX1 z0 z1 z2 z3 HH
  cases b
  · clear HS
    go_wp2
    go_ret
    exact ⟨by simp, HX2.out.1⟩
  · have z4 := HX2.out.2.c0
    have z5 := HX2.out.2.c1
    have z6 := HX2.out.2.c2
    have z7 := HX2.out.2.c3
    go_wp2_with fail
    refine (HS.out _ HX2.out.1).mono ?_
    rintro e3 w3 ⟨rfl, hb3⟩
    have HB3 : Hid (Below w.heap.size w w3) := HX2.out.1.trans (hb3.mono HX2.out.1.size)
    clear z4 z5 z6 z7 HX2 hb3 HS
    go_wp2
    go_ret
    exact ⟨by simp, HB3.out⟩

end Go.Proofs.YtaejeemjndmjcaaDoor
/-
  What poolFrom and the program's PoolRoot answer.
-/
namespace Go.Proofs.YtaejeemjndmjcaaDoor
open Go.RowKit Go.BigFrame
set_option linter.unusedVariables false

/-- an array of texts and a flag, answered -/
theorem ret_arr2 {fn : Func} {Rp : Ending → World → Prop} {a : Act} {w : World} (c s g t n : Nat) (ty e : TypeId) (l : List ByteArray) (b : Value) (hres : fn.results = #[.cell c ty, .tmp s]) (hd : a.defers = []) (hp : a.tmps.getD c undef = .pointer (some ⟨g, 0, none⟩)) (hb : a.tmps.getD s undef = b)
    (hA : TA w g t l) (hl : l.length = n) (hu : Tryd.prog.underlying ty = some (.array n e)) (hi : (Tryd.prog.info? ty).map (·.size) = some n) (h : Rp (.returned (.tuple #[.agg (svs l).toArray, b])) w) : bodyPost Tryd.prog fn Rp .ret a w := by
  have hr := run_loadVar_row (P := Tryd.prog) w g t ty _ (0, 0) _ hA hu rfl (by rw [svs_size, hl]; exact hi)
  refine bodyPost_ret (v := .tuple #[.agg (svs l).toArray, b]) ?_ hd h
  have hp' : a.tmps[c]?.getD undef = .pointer (some ⟨g, 0, none⟩) := by simpa using hp
  have hb' : a.tmps[s]?.getD undef = b := by simpa using hb
  simp [results, hres, asAddr, hr, hp', hb']

/-- 'copy(keys[:], list)' -/
theorem run_copyT {w : World} (ty g t n m : Nat) (l r : List ByteArray) (u : Value) (gs os : Nat) (hm : m = n) (hA : TA w g t l) (hl : l.length = n) (hr : SS w u gs os r) (hrn : r.length = n) (h0 : 0 < n) :
    ∃ w', (Builtin.copy_ #[26, 26] ty #[.slice (some ⟨g, 0, none⟩) m m, u]).run Tryd.prog w = .ok (.int .i64 (n : Int)) w' ∧ TA w' g t r ∧ (∀ B, B ≤ g → Below B w w') ∧ (∀ k, k ≠ g → w'.heap[k]? = w.heap[k]?) := by
  subst hm
  obtain ⟨ao, cap, rfl, _, hAo, hc⟩ := hr
  have ea := hAo (by omega)
  subst ea
  have hlen : (svs r).length = m := by simp [svs, hrn]
  have hrun := run_copy_row (P := Tryd.prog) w 26 26 ty 9 g 0 m m ⟨gs, os, none⟩ r.length cap _ t (svs r) Tryd.underlying26 (by kernel_rfl) hA (by rw [hlen, hrn]; exact (Nat.min_self m).symm) (by
      intro j u hj
      have hj2 : j < r.length := by
        have := (List.getElem?_eq_some_iff.1 hj).1
        simpa [svs] using this
      have e : (⟨gs, os, none⟩ : Addr).add j = ⟨gs, os + j, none⟩ := by unfold Addr.add; split <;> simp_all
      rw [e, hc j hj2]
      simp [svs, List.getElem?_eq_getElem hj2] at hj
      rw [hj]) (by rw [hlen, svs_size, hl]; omega) (fun u hu => by simp [svs] at hu; obtain ⟨b, _, rfl⟩ := hu; rfl)
  have e1 : ((svs l).toArray.toList.take 0 ++ svs r ++ (svs l).toArray.toList.drop (0 + (svs r).length)).toArray = (svs r).toArray := by
    have e2 : (svs l).toArray.toList.drop (0 + (svs r).length) = [] := List.drop_of_length_le (by simp [svs]; omega)
    rw [e2]
    simp
  rw [e1, hlen] at hrun
  exact ⟨_, hrun, setRow_heap w g _ _ t _ hA, fun B hB => ⟨rfl, rfl, rfl, by simp [World.setRow], fun k hk => setRow_other w g k _ (by omega)⟩, fun k hk => setRow_other w g k _ hk⟩

set_option maxRecDepth 100000 in
set_option maxHeartbeats 1000000 in
theorem poolFrom_yes (v : Value) (ga oa : Nat) (l : List ByteArray) (w : World) (hv : SS w v ga oa l) (hl : l.length = 16) :
    Calls Tryd.prog 82 #[v] w fun e w' => e = .returned (.tuple #[.agg (svs l).toArray, .bool true]) ∧ Below w.heap.size w w' := by
  have hga := hv.lt
  have hb2 : Below w.heap.size w ((w.alloc (.cells (zT 16) 106)).alloc (.cells (zT 16) 106)) := ((Below.refl _ _).alloc (Nat.le_refl _) _).alloc (by simp) _
  have HV : Hid (SS ((w.alloc (.cells (zT 16) 106)).alloc (.cells (zT 16) 106)) v ga oa l) := hv.below hb2 hga
  have HB2 : Hid (Below w.heap.size w ((w.alloc (.cells (zT 16) 106)).alloc (.cells (zT 16) 106))) := hb2
  have HL : Hid (l.length = 16) := hl
  have HT1 : Hid (TA ((w.alloc (.cells (zT 16) 106)).alloc (.cells (zT 16) 106)) (w.heap.size + 1) 106 (List.replicate 16 ByteArray.empty)) := by
    have := TA.new (w.alloc (.cells (zT 16) 106)) (List.replicate 16 ByteArray.empty) 106
    have e : (w.alloc (.cells (zT 16) 106)).heap.size = w.heap.size + 1 := by simp
    rw [e] at this
    exact this
  have HT0 : Hid (TA ((w.alloc (.cells (zT 16) 106)).alloc (.cells (zT 16) 106)) w.heap.size 106 (List.replicate 16 ByteArray.empty)) :=
    (TA.new w (List.replicate 16 ByteArray.empty) 106).below ((Below.refl _ _).alloc (Nat.le_refl _) _) (by simp)
  obtain ⟨w1, hrun0, hta, hbel, hoth⟩ := run_copyT 3 (w.heap.size + 1) 106 16 16 _ l v ga oa rfl HT1.out (by simp) HV.out hl (by omega)
  obtain ⟨a, cap, rfl, _, hA, hc⟩ := hv
  rw [hl] at hrun0 ⊢
  have hrun : (Builtin.copy_ #[26, 26] 3 #[.slice (some ⟨w.heap.size + 1, 0, none⟩) 16 16, .slice a 16 cap]).run Tryd.prog ((w.alloc (.cells (zT 16) 106)).alloc (.cells (zT 16) 106)) = .ok (.int .i64 16) w1 := hrun0
  clear hA hc hga hl hb2 hrun0 HV
  go_enter Tryd.func82, Tryd.ntmps82
  go_wp2_with (first | (refine wp_allocT rfl 106 16 rfl zeroP ?_) | (refine wp_loadT rfl 106 _ rfl (w.heap.size + 1) 106 16 l 9 rfl hta HL.out Tryd.underlying106 sizePT ?_) | (refine wp_storeT rfl 106 _ _ rfl w.heap.size 106 16 (List.replicate 16 ByteArray.empty) l (HT0.out.keep (hoth _ (by omega))) (by simp) HL.out rfl rfl sizePT ?_; intro hfin))
  refine ret_arr2 2 3 w.heap.size 106 16 106 9 l _ rfl rfl rfl rfl hfin HL.out Tryd.underlying106 sizePT ?_
  exact ⟨rfl, below_setRow (HB2.out.trans (hbel _ (by omega))) (Nat.le_refl _)⟩

theorem poolFrom_no (a : Option Addr) (n cap : Nat) (w : World) (h : n ≠ 16) (hn : n ≤ 1100000) :
    Calls Tryd.prog 82 #[.slice a n cap] w fun e w' => e = .returned (.tuple #[.agg (zT 16), .bool false]) ∧ Below w.heap.size w w' := by
  have q : ((n : Int) != 16) = true := by simp; omega
  have hb2 : Below w.heap.size w ((w.alloc (.cells (zT 16) 106)).alloc (.cells (zT 16) 106)) := ((Below.refl _ _).alloc (Nat.le_refl _) _).alloc (by simp) _
  have HB2 : Hid (Below w.heap.size w ((w.alloc (.cells (zT 16) 106)).alloc (.cells (zT 16) 106))) := hb2
  have HT1 : Hid (TA ((w.alloc (.cells (zT 16) 106)).alloc (.cells (zT 16) 106)) (w.heap.size + 1) 106 (List.replicate 16 ByteArray.empty)) := by
    have := TA.new (w.alloc (.cells (zT 16) 106)) (List.replicate 16 ByteArray.empty) 106
    have e : (w.alloc (.cells (zT 16) 106)).heap.size = w.heap.size + 1 := by simp
    rw [e] at this
    exact this
  have HT0 : Hid (TA ((w.alloc (.cells (zT 16) 106)).alloc (.cells (zT 16) 106)) w.heap.size 106 (List.replicate 16 ByteArray.empty)) :=
    (TA.new w (List.replicate 16 ByteArray.empty) 106).below ((Below.refl _ _).alloc (Nat.le_refl _) _) (by simp)
  clear h hb2
  go_enter Tryd.func82, Tryd.ntmps82
  go_wp2_with (first | (refine wp_allocT rfl 106 16 rfl zeroP ?_) | (refine wp_loadT rfl 106 _ rfl (w.heap.size + 1) 106 16 (List.replicate 16 ByteArray.empty) 9 rfl HT1.out (by simp) Tryd.underlying106 sizePT ?_) | (refine wp_storeT rfl 106 _ _ rfl w.heap.size 106 16 (List.replicate 16 ByteArray.empty) (List.replicate 16 ByteArray.empty) HT0.out (by simp) (by simp) rfl rfl sizePT ?_; intro hfin))
  refine ret_arr2 2 3 w.heap.size 106 16 106 9 (List.replicate 16 ByteArray.empty) _ rfl rfl rfl rfl hfin (by simp) Tryd.underlying106 sizePT ?_
  exact ⟨rfl, below_setRow HB2.out (Nat.le_refl _)⟩

theorem rootB_le (l : List ByteArray) : (rootB l).size ≤ 1048576 := by
  unfold rootB
  rw [List.getD_eq_getElem?_getD]
  by_cases h : 0 < (upN l 4).length
  · rw [List.getElem?_eq_getElem h]
    have e : upN l 4 = upL (upN l 3) := rfl
    have h2 : (upN l 4)[0] = upAt (upN l 3) 0 := by
      simp only [e]
      exact upL_at _ _ _
    show ((upN l 4)[0]).size ≤ _
    rw [h2]
    exact Nat.le_trans (hashB_le _ _) (by omega)
  · rw [List.getElem?_eq_none (by omega)]
    show 0 ≤ 1048576
    omega
/-- a row of the way up -/
def IrR (l : List ByteArray) (w : World) (v : Value) (wr : World) : Prop := ∃ j : Nat, j ≤ 4 ∧ Below w.heap.size w wr ∧ ∃ g o, SS wr v g o (upN l j)

end Go.Proofs.YtaejeemjndmjcaaDoor
