/-
  The walk of the law FnExactProofTexts: it answers true of every argument.
-/
import Derived.Test.YtojadcjoniejaaaDoorPkM
import Derived.Test.YtojadcjoniejaaaDoorPkN
import Derived.Test.YtojadcjoniejaaaDoorPkL
import Derived.Deep.RegionHeld3
namespace Go.Proofs.YtojadcjoniejaaaDoor
open Go.RowKit Go.BigFrame Go.Sort
set_option linter.unusedVariables false
set_option linter.unusedSimpArgs false

set_option maxRecDepth 100000 in
set_option maxHeartbeats 4000000 in
theorem proofTextsLaw_any (nm : ByteArray) (hnm : nm.size ≤ maxLen) (v1 v2 : Value) (g1 o1 g2 o2 : Nat) (L : List Le) (S : List ByteArray) (x : Int) (w : World) (h1 : IsRowL w v1 g1 o1 L) (h2 : IsRowT w v2 g2 o2 S) (hT : Tb w) :
    Calls Tryd.prog 7 #[.string nm, .agg #[v1, v2], .int .i64 x] w fun e w' => e = .returned (.bool true) ∧ Below w.heap.size w w' := by
  unfold maxLen at hnm
  have HX := PoX.start w v1 v2
  have p0 := HX.2.2.1
  have p1 := HX.2.2.2
  by_cases hbig : 1048576 < nm.size
  · clear h1 h2 hT
    go_enter Tryd.func7, Tryd.ntmps7
    go_wp2
    go_ret
    exact ⟨rfl, HX.1⟩
  have hsz := szProof_row v1 v2 g1 o1 g2 o2 L S 1048576 _ (h1.later HX.1) (h2.later HX.1) (by omega) (by omega)
  clear h1 h2
  go_enter Tryd.func7, Tryd.ntmps7
  go_wp2_with fail
  refine hsz.mono ?_
  rintro e w1 ⟨A, rfl, hb1, _, hA⟩
  have HX1 : Hid (PoX w w1 v1 v2) := HX.later hb1
  clear hsz HX p0 p1
  by_cases hneg : A < 0
  · clear hA hT
    go_wp2
    go_ret
    exact ⟨rfl, HX1.out.1⟩
  obtain ⟨hrs, hsm, hll, hss, hst, hsl⟩ := hA (by omega)
  clear hA
  have hrs1 := hrs.later hb1
  have hss1 := hss.below hb1 hss.lt
  clear hrs hss hb1
  obtain ⟨k, hk⟩ : ∃ k, (ptA nm L S x).length = k := ⟨_, rfl⟩
  have hk9 := ptA_len nm L S x
  have HTO : Hid (∀ W, Below w1.heap.size w1 W → Calls Tryd.prog 41 #[.agg #[v1, v2]] W (ToP L S W)) := fun W hW => toProof_any v1 v2 g1 o1 g2 o2 L S W (hrs1.later hW) (hss1.below hW hss1.lt)
  have HCS : Hid (∀ W k1 k2, RW 2 lcs W (.slice (some ⟨k1, 0, none⟩) L.length L.length) k1 L → TS W (.slice (some ⟨k2, 0, none⟩) S.length S.length) k2 S → Calls Tryd.prog 22 #[.string nm, .agg #[.slice (some ⟨k1, 0, none⟩) L.length L.length, .slice (some ⟨k2, 0, none⟩) S.length S.length], .int .i64 x] W (TdP k (ptA nm L S x) W)) := fun W k1 k2 h3 h4 => TdP.of (sProofTexts_any nm _ _ k1 0 k2 0 L S x W (by omega) h3.1 hsm h4.ss) hk (by omega)
  have HCI : Hid (∀ W k1 k2, Below w1.heap.size w1 W → RW 2 lcs W (.slice (some ⟨k1, 0, none⟩) L.length L.length) k1 L → TS W (.slice (some ⟨k2, 0, none⟩) S.length S.length) k2 S → Calls Tryd.prog 42 #[.string nm, .agg #[.slice (some ⟨k1, 0, none⟩) L.length L.length, .slice (some ⟨k2, 0, none⟩) S.length S.length], .int .i64 x] W (TdP k (ptA nm L S x) W)) := fun W k1 k2 hW h3 h4 => TdP.of (ProofTexts_any nm _ _ k1 0 k2 0 L S x W (by omega) h3.1 hsm h4.ss (hT.later (HX1.out.later hW).1)) hk (by omega)
  have HPB : Hid (∀ W, Below w1.heap.size w1 W → W.cell? ⟨w.heap.size, 0, none⟩ = some v1 ∧ W.cell? ⟨w.heap.size, 1, none⟩ = some v2 ∧ Below w.heap.size w W) := fun W hW => ⟨(HX1.out.later hW).2.2.1, (HX1.out.later hW).2.2.2, (HX1.out.later hW).1⟩
  have HK : Hid ((ptA nm L S x).length = k) := hk
  unfold ToP at HTO
  unfold TdP at HCS HCI
  generalize ptA nm L S x = M at *
  obtain ⟨p0, p1, _⟩ := HPB.out _ (Below.refl _ _)
  clear hrs1 hss1 hsm hst hT hk HX1
  go_wp2_with fail
  refine (HTO.out _ (Below.refl _ _)).mono ?_
  rintro e w2 ⟨k1, k2, rfl, hr2, ht2, _, _, _, _, _, hb2⟩
  go_wp2_with fail
  refine (HCS.out _ _ _ hr2 ht2).mono ?_
  rintro e w3 ⟨a3, c3, g3, rfl, hr3, hg3, hb3⟩
  have b3 := hb2.trans (hb3.mono hb2.size)
  have HW3 : Hid (TS w3 (.slice a3 k c3) g3 M ∧ Below w1.heap.size w1 w3 ∧ w1.heap.size ≤ g3) := ⟨hr3, b3, by have := hb2.size; omega⟩
  clear hr2 ht2 hb2 hb3 HCS p0 p1 hr3 hg3 b3
  obtain ⟨p0, p1, _⟩ := HPB.out _ HW3.out.2.1
  go_wp2_with fail
  refine (HTO.out _ HW3.out.2.1).mono ?_
  rintro e w4 ⟨j1, j2, rfl, hr4, ht4, hj1, hj2, hj12, hl1, hl2, hb4⟩
  have hba : Below w4.heap.size w4 (w4.alloc (.cells #[.slice (some ⟨j1, 0, none⟩) L.length L.length, .slice (some ⟨j2, 0, none⟩) S.length S.length] 36)) := (Below.refl _ _).alloc (Nat.le_refl _) _
  have HW5 : Hid (TS (w4.alloc (.cells #[.slice (some ⟨j1, 0, none⟩) L.length L.length, .slice (some ⟨j2, 0, none⟩) S.length S.length] 36)) (.slice a3 k c3) g3 M ∧ RW 2 lcs (w4.alloc (.cells #[.slice (some ⟨j1, 0, none⟩) L.length L.length, .slice (some ⟨j2, 0, none⟩) S.length S.length] 36)) (.slice (some ⟨j1, 0, none⟩) L.length L.length) j1 L ∧ TS (w4.alloc (.cells #[.slice (some ⟨j1, 0, none⟩) L.length L.length, .slice (some ⟨j2, 0, none⟩) S.length S.length] 36)) (.slice (some ⟨j2, 0, none⟩) S.length S.length) j2 S ∧ PfM (w4.alloc (.cells #[.slice (some ⟨j1, 0, none⟩) L.length L.length, .slice (some ⟨j2, 0, none⟩) S.length S.length] 36)) w4.heap.size (.slice (some ⟨j1, 0, none⟩) L.length L.length) (.slice (some ⟨j2, 0, none⟩) S.length S.length) ∧ Below w1.heap.size w1 (w4.alloc (.cells #[.slice (some ⟨j1, 0, none⟩) L.length L.length, .slice (some ⟨j2, 0, none⟩) S.length S.length] 36))) := by
    have b4 := HW3.out.2.1.trans (hb4.mono HW3.out.2.1.size)
    exact ⟨(HW3.out.1.later hb4).later hba, hr4.later hba, ht4.later hba, PfM.new w4 _ _, b4.trans (hba.mono b4.size)⟩
  have HJ : Hid (j1 ≠ j2 ∧ w1.heap.size ≤ g3 ∧ (0 < k → g3 < j1 ∧ g3 < j2) ∧ w1.heap.size ≤ j1 ∧ w1.heap.size ≤ j2 ∧ j1 < w4.heap.size ∧ j2 < w4.heap.size) := ⟨hj12, HW3.out.2.2, fun hp => by have := HW3.out.1.lt (by rw [HK.out]; exact hp); omega, by have := HW3.out.2.1.size; omega, by have := HW3.out.2.1.size; omega, hl1, hl2⟩
  have hs5 : (w4.alloc (.cells #[.slice (some ⟨j1, 0, none⟩) L.length L.length, .slice (some ⟨j2, 0, none⟩) S.length S.length] 36)).heap.size = w4.heap.size + 1 := by simp
  clear hr4 ht4 hj1 hj2 hj12 hl1 hl2 hb4 hba HW3 p0 p1
  have q0 := HW5.out.2.2.2.1.c0
  have q1 := HW5.out.2.2.2.1.c1
  go_wp2_with fail
  refine (HCI.out _ _ _ HW5.out.2.2.2.2 HW5.out.2.1 HW5.out.2.2.1).mono ?_
  rintro e w6 ⟨a6, c6, g6, rfl, hr6, hg6, hb6⟩
  rw [hs5] at hg6
  have HW6 : Hid (TS w6 (.slice a3 k c3) g3 M ∧ RW 2 lcs w6 (.slice (some ⟨j1, 0, none⟩) L.length L.length) j1 L ∧ TS w6 (.slice (some ⟨j2, 0, none⟩) S.length S.length) j2 S ∧ PfM w6 w4.heap.size (.slice (some ⟨j1, 0, none⟩) L.length L.length) (.slice (some ⟨j2, 0, none⟩) S.length S.length) ∧ Below w1.heap.size w1 w6 ∧ TS w6 (.slice a6 k c6) g6 M ∧ w4.heap.size < g6) := by
    obtain ⟨y1, y2, y3, y4, y5⟩ := HW5.out
    exact ⟨y1.later hb6, y2.later hb6, y3.later hb6, y4.later hb6, y5.trans (hb6.mono y5.size), hr6, by omega⟩
  clear hr6 hg6 hb6 HW5 q0 q1 hs5
  go_wp2_with fail
  refine (eqT_yes _ _ g6 g3 M _ HW6.out.2.2.2.2.2.1 HW6.out.1).mono ?_
  rintro e w7 ⟨rfl, hb7⟩
  have HW7 : Hid (TS w7 (.slice a3 k c3) g3 M ∧ RW 2 lcs w7 (.slice (some ⟨j1, 0, none⟩) L.length L.length) j1 L ∧ TS w7 (.slice (some ⟨j2, 0, none⟩) S.length S.length) j2 S ∧ PfM w7 w4.heap.size (.slice (some ⟨j1, 0, none⟩) L.length L.length) (.slice (some ⟨j2, 0, none⟩) S.length S.length) ∧ Below w1.heap.size w1 w7 ∧ TS w7 (.slice a6 k c6) g6 M ∧ w4.heap.size < g6) := by
    obtain ⟨y1, y2, y3, y4, y5, y6, y7⟩ := HW6.out
    exact ⟨y1.later hb7, y2.later hb7, y3.later hb7, y4.later hb7, y5.trans (hb7.mono y5.size), y6.later hb7, y7⟩
  clear hb7 HW6
  have HKK : Hid (∀ W, Below w7.heap.size w7 W → (W.cell? ⟨w4.heap.size, 0, none⟩ = some (.slice (some ⟨j1, 0, none⟩) L.length L.length) ∧ W.cell? ⟨w4.heap.size, 1, none⟩ = some (.slice (some ⟨j2, 0, none⟩) S.length S.length) ∧ W.cell? ⟨w.heap.size, 0, none⟩ = some v1 ∧ W.cell? ⟨w.heap.size, 1, none⟩ = some v2)) := fun W hW => by
    obtain ⟨z0, z1, _⟩ := HPB.out _ HW7.out.2.2.2.2.1
    exact ⟨cell_up HW7.out.2.2.2.1.c0 hW, cell_up HW7.out.2.2.2.1.c1 hW, cell_up z0 hW, cell_up z1 hW⟩
  have HTO6 : Hid (∀ W, Below w7.heap.size w7 W → Calls Tryd.prog 41 #[.agg #[v1, v2]] W (ToP L S W)) := fun W hW => HTO.out W (HW7.out.2.2.2.2.1.trans (hW.mono HW7.out.2.2.2.2.1.size))
  have HEQ : Hid (∀ W i1 i2, Below w7.heap.size w7 W → RW 2 lcs W (.slice (some ⟨i1, 0, none⟩) L.length L.length) i1 L → TS W (.slice (some ⟨i2, 0, none⟩) S.length S.length) i2 S → Calls Tryd.prog 34 #[.agg #[.slice (some ⟨j1, 0, none⟩) L.length L.length, .slice (some ⟨j2, 0, none⟩) S.length S.length], .agg #[.slice (some ⟨i1, 0, none⟩) L.length L.length, .slice (some ⟨i2, 0, none⟩) S.length S.length]] W fun e w' => e = .returned (.bool true) ∧ Below W.heap.size W w') := fun W i1 i2 hW h3 h4 => eqProof_yes _ _ _ _ j1 0 j2 0 i1 0 i2 0 L S W (HW7.out.2.1.later hW).1 (HW7.out.2.2.1.later hW).ss h3.1 h4.ss
  unfold ToP at HTO6
  have hb0 : Below w7.heap.size w7 w7.drew := (Below.refl _ _).drew
  go_wp2
  go_region_held3 (fun W => W.cell? ⟨w4.heap.size, 0, none⟩ = some (.slice (some ⟨j1, 0, none⟩) L.length L.length) ∧ W.cell? ⟨w4.heap.size, 1, none⟩ = some (.slice (some ⟨j2, 0, none⟩) S.length S.length) ∧ W.cell? ⟨w.heap.size, 0, none⟩ = some v1 ∧ W.cell? ⟨w.heap.size, 1, none⟩ = some v2) (first | (go_keep; done) | exact HKK.out _ hb0) (first | (go_at_call 41; refine (HTO6.out _ hb0).mono ?_; rintro e w8 ⟨i1, i2, rfl, hr8, ht8, _, _, _, _, _, hc8⟩; have hb0 := hb0.trans (hc8.mono hb0.size)) | (go_at_call 34; refine (HEQ.out _ i1 i2 hb0 hr8 ht8).mono ?_; rintro e w9 ⟨rfl, hc9⟩; have hb0 := hb0.trans (hc9.mono hb0.size)) | fail)
  have HW9 : Hid (TS w9 (.slice a3 k c3) g3 M ∧ RW 2 lcs w9 (.slice (some ⟨j1, 0, none⟩) L.length L.length) j1 L ∧ TS w9 (.slice (some ⟨j2, 0, none⟩) S.length S.length) j2 S ∧ PfM w9 w4.heap.size (.slice (some ⟨j1, 0, none⟩) L.length L.length) (.slice (some ⟨j2, 0, none⟩) S.length S.length) ∧ Below w1.heap.size w1 w9 ∧ TS w9 (.slice a6 k c6) g6 M ∧ w4.heap.size < g6) := by
    obtain ⟨y1, y2, y3, y4, y5, y6, y7⟩ := HW7.out
    exact ⟨y1.later hb0, y2.later hb0, y3.later hb0, y4.later hb0, y5.trans (hb0.mono y5.size), y6.later hb0, y7⟩
  clear HKK HTO6 HEQ hr8 ht8 hc8 hc9 HW7
  try rename_i hHeld
  try clear hHeld
  have q0 := HW9.out.2.2.2.1.c0
  have q1 := HW9.out.2.2.2.1.c1
  have hmk := markProof_any _ _ j1 j2 L S w9 HW9.out.2.1 HW9.out.2.2.1 (fun _ _ => HJ.out.1)
  obtain ⟨A8, hA8⟩ : ∃ A8 : Int, ((1 + 2 * L.length + S.length : Nat) : Int) = A8 := ⟨_, rfl⟩
  have hA80 : ¬ A8 < 0 := by omega
  rw [hA8] at hmk
  clear hA8
  go_wp2_with fail
  refine hmk.mono ?_
  rintro e w10 ⟨rfl, hr10, ht10, wm, hgm1, hgm2⟩
  have HW10 : Hid (TS w10 (.slice a3 k c3) g3 M ∧ TS w10 (.slice a6 k c6) g6 M ∧ Below w1.heap.size w1 w10 ∧ (0 < k → g3 < g6) ∧ w1.heap.size ≤ g6) := by
    obtain ⟨y1, y2, y3, y4, y5, y6, y7⟩ := HW9.out
    obtain ⟨x1, x2, x3, x4, x5, x6, x7⟩ := HJ.out
    have z1 : 0 < M.length → 0 < k := fun h => by rw [← HK.out]; exact h
    have bm := y5.grown hgm1 y5.size (rowF_le x4)
    refine ⟨(y1.keptG hgm1 (fun hp => rowF_ne fun _ => by have := x3 (z1 hp); omega)).keptG hgm2 (fun hp => rowOf_ne fun _ => by have := x3 (z1 hp); omega), (y6.keptG hgm1 (fun _ => rowF_ne fun _ => by omega)).keptG hgm2 (fun _ => rowOf_ne fun _ => by omega), bm.grown hgm2 bm.size (rowOf_leT x5), fun hp => by have := x3 hp; omega, by omega⟩
  clear hmk hr10 ht10 hgm1 hgm2 HW9 q0 q1 HJ
  go_wp2_with fail
  refine (eqT_yes _ _ g6 g3 M _ HW10.out.2.1 HW10.out.1).mono ?_
  rintro e w11 ⟨rfl, hb11⟩
  have HW11 : Hid (TS w11 (.slice a3 k c3) g3 M ∧ TS w11 (.slice a6 k c6) g6 M ∧ Below w1.heap.size w1 w11 ∧ (0 < k → g3 < g6) ∧ w1.heap.size ≤ g6) := by
    obtain ⟨y1, y3, y4, y5⟩ := HW10.out
    exact ⟨y1.later hb11, y3.later hb11, y4.trans (hb11.mono y4.size), y5⟩
  clear hb11 HW10
  have hm10 := markT_one _ g6 M w11 HW11.out.2.1
  rw [HK.out] at hm10
  obtain ⟨A9, hA9⟩ : ∃ A9 : Int, ((1 + k : Nat) : Int) = A9 := ⟨_, rfl⟩
  have hA90 : ¬ A9 < 0 := by omega
  rw [hA9] at hm10
  have HHD : Hid (∀ W, TS W (.slice a6 k c6) g6 (marks 1 k) → Calls Tryd.prog 45 #[.slice a6 k c6, .int .i64 1] W fun e w' => e = .returned (.int .i64 A9) ∧ Below W.heap.size W w') := fun W h => by rw [← hA9]; exact heldT_one _ g6 k W h
  clear hA9
  go_wp2_with fail
  refine hm10.mono ?_
  rintro e w12 ⟨rfl, hr12, hg12⟩
  have HW12 : Hid (TS w12 (.slice a3 k c3) g3 M ∧ TS w12 (.slice a6 k c6) g6 (marks 1 k) ∧ Below w1.heap.size w1 w12) := by
    obtain ⟨y1, y3, y4, y5, y6⟩ := HW11.out
    exact ⟨y1.keptG hg12 (fun _ => rowOf_ne fun hp => by have := y5 (by rw [← HK.out]; exact hp); omega), hr12, y4.grown hg12 y4.size (rowOf_leT y6)⟩
  clear hm10 hr12 hg12 HW11
  go_wp2_with fail
  refine (HHD.out _ HW12.out.2.1).mono ?_
  rintro e w13 ⟨rfl, hb13⟩
  have HW13 : Hid (TS w13 (.slice a3 k c3) g3 M ∧ TS w13 (.slice a6 k c6) g6 (marks 1 k) ∧ Below w1.heap.size w1 w13) := by
    obtain ⟨y1, y3, y4⟩ := HW12.out
    exact ⟨y1.later hb13, y3.later hb13, y4.trans (hb13.mono y4.size)⟩
  clear hb13 HW12
  obtain ⟨p0, p1, _⟩ := HPB.out _ HW13.out.2.2
  go_wp2_with fail
  refine (HTO.out _ HW13.out.2.2).mono ?_
  rintro e w14 ⟨n1, n2, rfl, hr14, ht14, _, _, _, _, _, hb14⟩
  have HW14 : Hid (TS w14 (.slice a3 k c3) g3 M ∧ TS w14 (.slice a6 k c6) g6 (marks 1 k) ∧ Below w1.heap.size w1 w14) := by
    obtain ⟨y1, y3, y4⟩ := HW13.out
    exact ⟨y1.later hb14, y3.later hb14, y4.trans (hb14.mono y4.size)⟩
  clear hb14 HW13 HTO p0 p1
  go_wp2_with fail
  refine (HCI.out _ _ _ HW14.out.2.2 hr14 ht14).mono ?_
  rintro e w15 ⟨a15, c15, g15, rfl, hr15, _, hb15⟩
  have HW15 : Hid (TS w15 (.slice a3 k c3) g3 M ∧ TS w15 (.slice a6 k c6) g6 (marks 1 k) ∧ Below w1.heap.size w1 w15 ∧ TS w15 (.slice a15 k c15) g15 M) := by
    obtain ⟨y1, y3, y4⟩ := HW14.out
    exact ⟨y1.later hb15, y3.later hb15, y4.trans (hb15.mono y4.size), hr15⟩
  clear hb15 HW14 hr14 ht14 hr15 HCI
  go_wp2_with fail
  refine (eqT_yes _ _ g15 g3 M _ HW15.out.2.2.2 HW15.out.1).mono ?_
  rintro e w16 ⟨rfl, hb16⟩
  have HW16 : Hid (TS w16 (.slice a6 k c6) g6 (marks 1 k) ∧ Below w1.heap.size w1 w16) := ⟨HW15.out.2.1.later hb16, HW15.out.2.2.1.trans (hb16.mono HW15.out.2.2.1.size)⟩
  clear hb16 HW15
  go_wp2_with fail
  refine (HHD.out _ HW16.out.1).mono ?_
  rintro e w17 ⟨rfl, hb17⟩
  obtain ⟨_, _, b17⟩ := HPB.out _ (HW16.out.2.trans (hb17.mono HW16.out.2.size))
  clear hb17 HW16 HHD HPB
  go_wp2
  go_ret
  exact ⟨rfl, b17⟩

end Go.Proofs.YtojadcjoniejaaaDoor
