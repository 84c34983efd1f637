/-
  Where a head is sealed and stamped, and what text is signed there: the program's methods.
-/
import Derived.Test.YtmfoliocibjdnaaDoorXa
import Derived.Test.YtmfoliocibjdnaaDoorPkH
import Derived.Test.YtmfoliocibjdnaaDoorPkL
import Derived.Deep.RegionHeld3
namespace Go.Proofs.YtmfoliocibjdnaaDoor
open Go.RowKit Go.BigFrame Go.Sort
set_option linter.unusedVariables false
set_option linter.unusedSimpArgs false

/-- what a stamp signs -/
def stampT (x : Hd) : ByteArray := hashB 8 [HV.hashH x] 16

set_option maxRecDepth 100000 in
set_option maxHeartbeats 1000000 in
theorem sealing_any (x : Hd) (w : World) (hT : Tb w) : Calls Tryd.prog 120 #[.agg #[.int .i64 x.h, .int .i64 x.e, .string x.r, .string x.p]] w fun e w' => e = .returned (.tuple #[.int .i64 (sealP x.e), .string (HV.hashH x)]) ∧ Below w.heap.size w w' := by
  have hB : Below w.heap.size w (w.alloc (.cells #[.int .i64 x.h, .int .i64 x.e, .string x.r, .string x.p] 56)) := (Below.refl _ _).alloc (Nat.le_refl _) _
  have HH : Hid (∀ W, Below w.heap.size w W → Calls Tryd.prog 154 #[.agg #[.int .i64 x.h, .int .i64 x.e, .string x.r, .string x.p]] W fun e w' => e = .returned (.string (HV.hashH x)) ∧ Below W.heap.size W w') := fun W hW => HeadHash_any x W (hT.later hW)
  have HS : Hid (∀ W, Calls Tryd.prog 53 #[.int .i64 x.e] W fun e w' => e = .returned (.int .i64 (sealP x.e)) ∧ w' = W) := fun W => SealAt_any x.e W
  generalize HV.hashH x = K at *
  generalize sealP x.e = P at *
  obtain ⟨h, e, r, p⟩ := x
  have HB : Hid (Below w.heap.size w (w.alloc (.cells #[.int .i64 h, .int .i64 e, .string r, .string p] 56))) := hB
  clear hB hT
  have HK : Hid (∀ W, Below (w.alloc (.cells #[.int .i64 h, .int .i64 e, .string r, .string p] 56)).heap.size (w.alloc (.cells #[.int .i64 h, .int .i64 e, .string r, .string p] 56)) W → W.cell? ⟨w.heap.size, 0, none⟩ = some (.int .i64 h) ∧ W.cell? ⟨w.heap.size, 1, none⟩ = some (.int .i64 e) ∧ W.cell? ⟨w.heap.size, 2, none⟩ = some (.string r) ∧ W.cell? ⟨w.heap.size, 3, none⟩ = some (.string p)) := fun W hW => by
    have h := (BH.new w ⟨h, e, r, p⟩).later hW
    exact ⟨h.c0, h.c1, h.c2, h.c3⟩
  have HB2 : Hid (∀ W, Below (w.alloc (.cells #[.int .i64 h, .int .i64 e, .string r, .string p] 56)).heap.size (w.alloc (.cells #[.int .i64 h, .int .i64 e, .string r, .string p] 56)) W → Below w.heap.size w W) := fun W hW => HB.out.trans (hW.mono HB.out.size)
  have hb : Below (w.alloc (.cells #[.int .i64 h, .int .i64 e, .string r, .string p] 56)).heap.size (w.alloc (.cells #[.int .i64 h, .int .i64 e, .string r, .string p] 56)) (w.alloc (.cells #[.int .i64 h, .int .i64 e, .string r, .string p] 56)).drew := (Below.refl _ _).drew
  go_enter Tryd.func120, Tryd.ntmps120
  go_wp2
  go_region_held3 (fun W => W.cell? ⟨w.heap.size, 0, none⟩ = some (.int .i64 h) ∧ W.cell? ⟨w.heap.size, 1, none⟩ = some (.int .i64 e) ∧ W.cell? ⟨w.heap.size, 2, none⟩ = some (.string r) ∧ W.cell? ⟨w.heap.size, 3, none⟩ = some (.string p)) (first | (go_keep; done) | exact HK.out _ hb) ((first | (go_at_call 53; refine (HS.out _).mono ?_; rintro e1 w1 ⟨rfl, rfl⟩) | (go_at_call 154; refine (HH.out _ (HB2.out _ hb)).mono ?_; rintro e2 w2 ⟨rfl, hb2⟩; have hb := hb.trans (hb2.mono hb.size)) | fail))
  all_goals
    go_wp2
    go_ret2
    exact ⟨rfl, HB2.out _ hb⟩

set_option maxRecDepth 100000 in
set_option maxHeartbeats 1000000 in
theorem stamping_any (x : Hd) (w : World) (hT : Tb w) : Calls Tryd.prog 124 #[.agg #[.int .i64 x.h, .int .i64 x.e, .string x.r, .string x.p]] w fun e w' => e = .returned (.tuple #[.int .i64 (stampP x.h x.e), .string (stampT x)]) ∧ Below w.heap.size w w' := by
  have hB : Below w.heap.size w (w.alloc (.cells #[.int .i64 x.h, .int .i64 x.e, .string x.r, .string x.p] 56)) := (Below.refl _ _).alloc (Nat.le_refl _) _
  have HH : Hid (∀ W, Below w.heap.size w W → Calls Tryd.prog 154 #[.agg #[.int .i64 x.h, .int .i64 x.e, .string x.r, .string x.p]] W fun e w' => e = .returned (.string (HV.hashH x)) ∧ Below W.heap.size W w') := fun W hW => HeadHash_any x W (hT.later hW)
  have HS : Hid (∀ W, Calls Tryd.prog 57 #[.int .i64 x.h, .int .i64 x.e] W fun e w' => e = .returned (.int .i64 (stampP x.h x.e)) ∧ w' = W) := fun W => StampAt_any x.h x.e W
  unfold stampT
  generalize HV.hashH x = K at *
  generalize stampP x.h x.e = P at *
  obtain ⟨h, e, r, p⟩ := x
  have HB : Hid (Below w.heap.size w (w.alloc (.cells #[.int .i64 h, .int .i64 e, .string r, .string p] 56))) := hB
  have HTH : Hid (∀ W, Below w.heap.size w W → Hid (Calls Tryd.prog 97 #[.int .i64 16, .int .i64 8, .slice (some ⟨W.heap.size, 0, none⟩) 1 1] (W.alloc (.cells #[.string K] 9)) fun e w' => e = .returned (.string (hashB 8 [K] 16)) ∧ Below W.heap.size W w')) := fun W hW => taggedHash_w 16 8 [K] 1 #[.string K] W W.heap.size rfl rfl (by omega) rfl (hT.later hW)
  clear hB hT
  have HK : Hid (∀ W, Below (w.alloc (.cells #[.int .i64 h, .int .i64 e, .string r, .string p] 56)).heap.size (w.alloc (.cells #[.int .i64 h, .int .i64 e, .string r, .string p] 56)) W → W.cell? ⟨w.heap.size, 0, none⟩ = some (.int .i64 h) ∧ W.cell? ⟨w.heap.size, 1, none⟩ = some (.int .i64 e) ∧ W.cell? ⟨w.heap.size, 2, none⟩ = some (.string r) ∧ W.cell? ⟨w.heap.size, 3, none⟩ = some (.string p)) := fun W hW => by
    have h := (BH.new w ⟨h, e, r, p⟩).later hW
    exact ⟨h.c0, h.c1, h.c2, h.c3⟩
  have HB2 : Hid (∀ W, Below (w.alloc (.cells #[.int .i64 h, .int .i64 e, .string r, .string p] 56)).heap.size (w.alloc (.cells #[.int .i64 h, .int .i64 e, .string r, .string p] 56)) W → Below w.heap.size w W) := fun W hW => HB.out.trans (hW.mono HB.out.size)
  have hb : Below (w.alloc (.cells #[.int .i64 h, .int .i64 e, .string r, .string p] 56)).heap.size (w.alloc (.cells #[.int .i64 h, .int .i64 e, .string r, .string p] 56)) (w.alloc (.cells #[.int .i64 h, .int .i64 e, .string r, .string p] 56)).drew := (Below.refl _ _).drew
  generalize hashB 8 [K] 16 = T at *
  go_enter Tryd.func124, Tryd.ntmps124
  go_wp2
  go_region_held3 (fun W => W.cell? ⟨w.heap.size, 0, none⟩ = some (.int .i64 h) ∧ W.cell? ⟨w.heap.size, 1, none⟩ = some (.int .i64 e) ∧ W.cell? ⟨w.heap.size, 2, none⟩ = some (.string r) ∧ W.cell? ⟨w.heap.size, 3, none⟩ = some (.string p)) (first | (go_keep; done) | exact HK.out _ hb) ((first | (go_at_call 57; refine (HS.out _).mono ?_; rintro e1 w1 ⟨rfl, rfl⟩) | (go_at_call 154; refine (HH.out _ (HB2.out _ hb)).mono ?_; rintro e2 w2 ⟨rfl, hb2⟩; have hb := hb.trans (hb2.mono hb.size); have hbA := hb.alloc hb.size (.cells #[.string K] 9)) | (go_at_call 97; refine (HTH.out _ (HB2.out _ hb)).out.mono ?_; rintro e3 w3 ⟨rfl, hb3⟩; have hb := hb.trans (hb3.mono hb.size)) | fail))
  all_goals
    go_wp2
    go_ret2
    exact ⟨rfl, HB2.out _ hb⟩

set_option maxRecDepth 100000 in
set_option maxHeartbeats 1000000 in
theorem signedAt_any (r t : ByteArray) (a y : Int) (vo vs vd : Value) (g1 o1 g2 o2 g3 o3 : Nat) (o s d : List ByteArray) (w : World) (ho : SS w vo g1 o1 o) (hs : SS w vs g2 o2 s) (hd : SS w vd g3 o3 d) (ht : t.size ≤ 1100000) (hT : Tb w) :
    Calls Tryd.prog 122 #[.agg #[.int .i64 a, vo, vs, vd], .int .i64 y, .string r, .string t] w fun e w' => e = .returned (.bool (decide (a = y) && okS r t a o s d)) ∧ Below w.heap.size w w' := by
  have hB : Below w.heap.size w (w.alloc (.cells #[.int .i64 a, vo, vs, vd] 26)) := (Below.refl _ _).alloc (Nat.le_refl _) _
  have hc := SigOk_any r t a vo vs vd g1 o1 g2 o2 g3 o3 o s d _ (ho.below hB ho.lt) (hs.below hB hs.lt) (hd.below hB hd.lt) ht (hT.later hB)
  have HB : Hid (Below w.heap.size w (w.alloc (.cells #[.int .i64 a, vo, vs, vd] 26))) := hB
  generalize okS r t a o s d = R at *
  obtain ⟨ao, co, rfl, lo, x1⟩ := ho
  obtain ⟨as2, cs2, rfl, ls, x2⟩ := hs
  obtain ⟨ad, cd, rfl, ld, x3⟩ := hd
  clear x1 x2 x3 hB hT
  by_cases h : a = y
  · rw [decide_eq_true h]
    have q : (a == y) = true := by simpa using h
    clear h
    go_enter Tryd.func122, Tryd.ntmps122
    go_wp2_with fail
    refine hc.mono ?_
    rintro e w1 ⟨rfl, hb1⟩
    go_wp2
    go_ret
    exact ⟨by simp, HB.out.trans (hb1.mono HB.out.size)⟩
  · rw [decide_eq_false h]
    have q : (a == y) = false := by simpa using h
    clear h hc
    go_enter Tryd.func122, Tryd.ntmps122
    go_wp2
    go_ret
    exact ⟨by simp, HB.out⟩

end Go.Proofs.YtmfoliocibjdnaaDoor
