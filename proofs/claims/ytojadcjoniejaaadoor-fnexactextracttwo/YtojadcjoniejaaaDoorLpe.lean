/-
  The walk of the law FnExactExtractTwo: it answers true of every name, every two proofs and every width.
-/
import Derived.Test.YtojadcjoniejaaaDoorPkM
import Derived.Test.YtojadcjoniejaaaDoorPxs
import Derived.Deep.RegionHeld3
namespace Go.Proofs.YtojadcjoniejaaaDoor
open Go.RowKit Go.BigFrame Go.Sort
set_option linter.unusedVariables false
set_option linter.unusedSimpArgs false

/-- two proofs that a law was handed stay in their boxes -/
def PoY (w W : World) (v1 v2 u1 u2 : Value) : Prop := Below w.heap.size w W ∧ W.cell? ⟨w.heap.size, 0, none⟩ = some v1 ∧ W.cell? ⟨w.heap.size, 1, none⟩ = some v2 ∧ W.cell? ⟨w.heap.size + 1, 0, none⟩ = some u1 ∧ W.cell? ⟨w.heap.size + 1, 1, none⟩ = some u2
theorem PoY.start (w : World) (v1 v2 u1 u2 : Value) : PoY w ((w.alloc (.cells #[v1, v2] 59)).alloc (.cells #[u1, u2] 59)) v1 v2 u1 u2 := by
  obtain ⟨a0, a1⟩ := run_rangeQ (w := w) (v1 := v1) (v2 := v2) 59
  obtain ⟨b0, b1⟩ := run_rangeQ (w := w.alloc (.cells #[v1, v2] 59)) (v1 := u1) (v2 := u2) 59
  have hq : Below (w.alloc (.cells #[v1, v2] 59)).heap.size (w.alloc (.cells #[v1, v2] 59)) ((w.alloc (.cells #[v1, v2] 59)).alloc (.cells #[u1, u2] 59)) := (Below.refl _ _).alloc (Nat.le_refl _) _
  have e : (w.alloc (.cells #[v1, v2] 59)).heap.size = w.heap.size + 1 := by simp
  rw [e] at b0 b1
  exact ⟨((Below.refl _ _).alloc (Nat.le_refl _) _).alloc (by simp) _, cell_up a0 hq, cell_up a1 hq, b0, b1⟩
theorem PoY.later {w W W' : World} {v1 v2 u1 u2 : Value} (h : PoY w W v1 v2 u1 u2) (hb : Below W.heap.size W W') : PoY w W' v1 v2 u1 u2 := ⟨h.1.trans (hb.mono h.1.size), cell_up h.2.1 hb, cell_up h.2.2.1 hb, cell_up h.2.2.2.1 hb, cell_up h.2.2.2.2 hb⟩
def PoC (w : World) (v1 v2 u1 u2 : Value) (W : World) : Prop := W.cell? ⟨w.heap.size, 0, none⟩ = some v1 ∧ W.cell? ⟨w.heap.size, 1, none⟩ = some v2 ∧ W.cell? ⟨w.heap.size + 1, 0, none⟩ = some u1 ∧ W.cell? ⟨w.heap.size + 1, 1, none⟩ = some u2

set_option maxRecDepth 100000 in
set_option maxHeartbeats 4000000 in
theorem extractTwoLaw_any (nm : ByteArray) (hnm : nm.size ≤ maxLen) (v1 v2 : Value) (g1 o1 g2 o2 : Nat) (L : List Le) (S : List ByteArray) (u1 u2 : Value) (g3 o3 g4 o4 : Nat) (C : List Le) (T : List ByteArray) (x : Int) (w : World) (h1 : IsRowL w v1 g1 o1 L) (h2 : IsRowT w v2 g2 o2 S) (h3 : IsRowL w u1 g3 o3 C) (h4 : IsRowT w u2 g4 o4 T) (hT : Tb w) :
    Calls Tryd.prog 9 #[.string nm, .agg #[v1, v2], .agg #[u1, u2], .int .i64 x] w fun e w' => e = .returned (.bool true) ∧ Below w.heap.size w w' := by
  unfold maxLen at hnm
  have HX := PoY.start w v1 v2 u1 u2
  have p0 := HX.2.1
  have p1 := HX.2.2.1
  have p2 := HX.2.2.2.1
  have p3 := HX.2.2.2.2
  by_cases hbig : 1048576 < nm.size
  · clear h1 h2 h3 h4 hT
    go_enter Tryd.func9, Tryd.ntmps9
    go_wp2
    go_ret
    exact ⟨rfl, HX.1⟩
  have hsz := szProof_row v1 v2 g1 o1 g2 o2 L S 1048576 _ (h1.later HX.1) (h2.later HX.1) (by omega) (by omega)
  have HSZ : Hid (∀ W y, Below w.heap.size w W → 0 ≤ y → y ≤ 1048576 → Calls Tryd.prog 39 #[.agg #[u1, u2], .int .i64 y] W fun e w' => ∃ A : Int, e = .returned (.int .i64 A) ∧ Below W.heap.size W w' ∧ A ≤ y ∧ (0 ≤ A → RS 2 lcs W u1 g3 o3 C ∧ SmallL C ∧ C.length ≤ 1048576 ∧ SS W u2 g4 o4 T ∧ (∀ t ∈ T, t.size ≤ 1048576) ∧ T.length ≤ 1048576)) := fun W y hW hy hy2 => szProof_row u1 u2 g3 o3 g4 o4 C T y W (h3.later hW) (h4.later hW) hy hy2
  clear h1 h2 h3 h4
  go_enter Tryd.func9, Tryd.ntmps9
  go_wp2_with fail
  refine hsz.mono ?_
  rintro e w0 ⟨A0, rfl, hb0, hA0x, hA0⟩
  have HX0 := HX.later hb0
  clear hsz p0 p1 p2 p3
  by_cases hneg0 : A0 < 0
  · clear hA0 hT HSZ HX
    go_wp2
    go_ret
    exact ⟨rfl, HX0.1⟩
  obtain ⟨hrs0, hsm, hll, hss0, hst, hsl⟩ := hA0 (by omega)
  have HRS0 : Hid (RS 2 lcs w0 v1 g1 o1 L ∧ SS w0 v2 g2 o2 S) := ⟨hrs0.later hb0, hss0.below hb0 hss0.lt⟩
  have p0 := HX0.2.1
  have p1 := HX0.2.2.1
  have p2 := HX0.2.2.2.1
  have p3 := HX0.2.2.2.2
  have hsz2 := HSZ.out w0 A0 HX0.1 (by omega) hA0x
  clear hA0 hrs0 hss0 hb0 HX HSZ
  go_wp2_with fail
  refine hsz2.mono ?_
  rintro e w1 ⟨A, rfl, hb1, _, hA⟩
  have HX1 : Hid (PoY w w1 v1 v2 u1 u2) := HX0.later hb1
  clear hsz2 p0 p1 p2 p3
  by_cases hneg : A < 0
  · clear hA hT HRS0
    go_wp2
    go_ret
    exact ⟨rfl, HX1.out.1⟩
  obtain ⟨hrq0, hsmq, hllq, hsq0, hstq, hslq⟩ := hA (by omega)
  have HTO : Hid (∀ W, Below w1.heap.size w1 W → Calls Tryd.prog 41 #[.agg #[v1, v2]] W (ToP L S W)) := fun W hW => toProof_any v1 v2 g1 o1 g2 o2 L S W ((HRS0.out.1.later hb1).later hW) ((HRS0.out.2.below hb1 HRS0.out.2.lt).below hW (HRS0.out.2.below hb1 HRS0.out.2.lt).lt)
  have HTQ : Hid (∀ W, Below w1.heap.size w1 W → Calls Tryd.prog 41 #[.agg #[u1, u2]] W (ToP C T W)) := fun W hW => toProof_any u1 u2 g3 o3 g4 o4 C T W ((hrq0.later hb1).later hW) ((hsq0.below hb1 hsq0.lt).below hW (hsq0.below hb1 hsq0.lt).lt)
  have HCS : Hid (∀ W k1 k2 k3 k4, RW 2 lcs W (.slice (some ⟨k1, 0, none⟩) L.length L.length) k1 L → TS W (.slice (some ⟨k2, 0, none⟩) S.length S.length) k2 S → RW 2 lcs W (.slice (some ⟨k3, 0, none⟩) C.length C.length) k3 C → TS W (.slice (some ⟨k4, 0, none⟩) T.length T.length) k4 T → Calls Tryd.prog 46 #[.string nm, .agg #[.slice (some ⟨k1, 0, none⟩) L.length L.length, .slice (some ⟨k2, 0, none⟩) S.length S.length], .agg #[.slice (some ⟨k3, 0, none⟩) C.length C.length, .slice (some ⟨k4, 0, none⟩) T.length T.length], .int .i64 x] W fun e w' => e = .returned (trip (xtR nm L S C T x)) ∧ Below W.heap.size W w') := fun W k1 k2 k3 k4 y1 y2 y3 y4 => sExtractTwo_any nm _ _ _ _ k1 0 k2 0 k3 0 k4 0 L S C T x W (by omega) y1.1 hsm y2.ss y3.1 hsmq y4.ss
  have HCI : Hid (∀ W k1 k2 k3 k4, Below w.heap.size w W → RW 2 lcs W (.slice (some ⟨k1, 0, none⟩) L.length L.length) k1 L → TS W (.slice (some ⟨k2, 0, none⟩) S.length S.length) k2 S → RW 2 lcs W (.slice (some ⟨k3, 0, none⟩) C.length C.length) k3 C → TS W (.slice (some ⟨k4, 0, none⟩) T.length T.length) k4 T → Calls Tryd.prog 25 #[.string nm, .agg #[.slice (some ⟨k1, 0, none⟩) L.length L.length, .slice (some ⟨k2, 0, none⟩) S.length S.length], .agg #[.slice (some ⟨k3, 0, none⟩) C.length C.length, .slice (some ⟨k4, 0, none⟩) T.length T.length], .int .i64 x] W fun e w' => e = .returned (trip (xtR nm L S C T x)) ∧ Below W.heap.size W w') := fun W k1 k2 k3 k4 hW y1 y2 y3 y4 => ExtractTwo_any nm _ _ _ _ k1 0 k2 0 k3 0 k4 0 L S C T x W (by omega) y1.1 hsm y2.ss y3.1 hsmq y4.ss (hT.later hW)
  unfold ToP at HTO HTQ
  generalize xtR nm L S C T x = R at *
  obtain ⟨r1, r2, r3⟩ := R
  unfold trip at HCS HCI
  simp only at HCS HCI
  have HCC : Hid (∀ W, Below w1.heap.size w1 W → PoC w v1 v2 u1 u2 W) := fun W hW => (HX1.out.later hW).2
  have HBW : Hid (∀ W, Below w1.heap.size w1 W → Below w.heap.size w W) := fun W hW => (HX1.out.later hW).1
  unfold PoC at HCC
  have hb0 : Below w1.heap.size w1 w1.drew := (Below.refl _ _).drew
  clear hA hrq0 hsq0 hb1 HRS0 hsm hsmq hst hstq hT HX0 HX1
  go_wp2
  go_region_held3 (fun W => W.cell? ⟨w.heap.size, 0, none⟩ = some v1 ∧ W.cell? ⟨w.heap.size, 1, none⟩ = some v2 ∧ W.cell? ⟨w.heap.size + 1, 0, none⟩ = some u1 ∧ W.cell? ⟨w.heap.size + 1, 1, none⟩ = some u2) (first | (go_keep; done) | exact HCC.out _ hb0) (first | (go_at_call 41; first | ((with_reducible refine (HTO.out _ hb0).mono ?_); rintro e w2 ⟨k1, k2, rfl, hr2, ht2, _, _, _, _, _, hc2⟩; have hb0 := hb0.trans (hc2.mono hb0.size)) | ((with_reducible refine (HTQ.out _ hb0).mono ?_); rintro e w3 ⟨k3, k4, rfl, hr3, ht3, _, _, _, _, _, hc3⟩; have hb0 := hb0.trans (hc3.mono hb0.size)) | fail) | (go_at_call 46; refine (HCS.out _ k1 k2 k3 k4 (hr2.later hc3) (ht2.later hc3) hr3 ht3).mono ?_; rintro e w4 ⟨rfl, hc4⟩; have hb0 := hb0.trans (hc4.mono hb0.size)) | fail)
  clear hr2 ht2 hr3 ht3 hc2 hc3 hc4 HCS
  try rename_i hHeld
  try clear hHeld
  obtain ⟨p0, p1, p2, p3⟩ := HCC.out _ hb0
  go_wp2_with fail
  refine (HTO.out _ hb0).mono ?_
  rintro e w5 ⟨j1, j2, rfl, hr5, ht5, _, _, _, _, _, hb5⟩
  have hba5 : Below w5.heap.size w5 (w5.alloc (.cells #[.slice (some ⟨j1, 0, none⟩) L.length L.length, .slice (some ⟨j2, 0, none⟩) S.length S.length] 36)) := (Below.refl _ _).alloc (Nat.le_refl _) _
  have hb15 := hb0.trans (hb5.mono hb0.size)
  have HW5 : Hid (PfM (w5.alloc (.cells #[.slice (some ⟨j1, 0, none⟩) L.length L.length, .slice (some ⟨j2, 0, none⟩) S.length S.length] 36)) w5.heap.size (.slice (some ⟨j1, 0, none⟩) L.length L.length) (.slice (some ⟨j2, 0, none⟩) S.length S.length) ∧ RW 2 lcs (w5.alloc (.cells #[.slice (some ⟨j1, 0, none⟩) L.length L.length, .slice (some ⟨j2, 0, none⟩) S.length S.length] 36)) (.slice (some ⟨j1, 0, none⟩) L.length L.length) j1 L ∧ TS (w5.alloc (.cells #[.slice (some ⟨j1, 0, none⟩) L.length L.length, .slice (some ⟨j2, 0, none⟩) S.length S.length] 36)) (.slice (some ⟨j2, 0, none⟩) S.length S.length) j2 S ∧ Below w1.heap.size w1 (w5.alloc (.cells #[.slice (some ⟨j1, 0, none⟩) L.length L.length, .slice (some ⟨j2, 0, none⟩) S.length S.length] 36))) := ⟨PfM.new w5 _ _, hr5.later hba5, ht5.later hba5, hb15.trans (hba5.mono hb15.size)⟩
  clear hr5 ht5 hb5 hba5 hb15 p0 p1 p2 p3
  obtain ⟨p0, p1, p2, p3⟩ := HCC.out _ HW5.out.2.2.2
  go_wp2_with fail
  refine (HTQ.out _ HW5.out.2.2.2).mono ?_
  rintro e w6 ⟨j3, j4, rfl, hr6, ht6, _, _, _, _, _, hb6⟩
  have hba6 : Below w6.heap.size w6 (w6.alloc (.cells #[.slice (some ⟨j3, 0, none⟩) C.length C.length, .slice (some ⟨j4, 0, none⟩) T.length T.length] 36)) := (Below.refl _ _).alloc (Nat.le_refl _) _
  have HW6 : Hid (PfM (w6.alloc (.cells #[.slice (some ⟨j3, 0, none⟩) C.length C.length, .slice (some ⟨j4, 0, none⟩) T.length T.length] 36)) w5.heap.size (.slice (some ⟨j1, 0, none⟩) L.length L.length) (.slice (some ⟨j2, 0, none⟩) S.length S.length) ∧ RW 2 lcs (w6.alloc (.cells #[.slice (some ⟨j3, 0, none⟩) C.length C.length, .slice (some ⟨j4, 0, none⟩) T.length T.length] 36)) (.slice (some ⟨j1, 0, none⟩) L.length L.length) j1 L ∧ TS (w6.alloc (.cells #[.slice (some ⟨j3, 0, none⟩) C.length C.length, .slice (some ⟨j4, 0, none⟩) T.length T.length] 36)) (.slice (some ⟨j2, 0, none⟩) S.length S.length) j2 S ∧ PfM (w6.alloc (.cells #[.slice (some ⟨j3, 0, none⟩) C.length C.length, .slice (some ⟨j4, 0, none⟩) T.length T.length] 36)) w6.heap.size (.slice (some ⟨j3, 0, none⟩) C.length C.length) (.slice (some ⟨j4, 0, none⟩) T.length T.length) ∧ RW 2 lcs (w6.alloc (.cells #[.slice (some ⟨j3, 0, none⟩) C.length C.length, .slice (some ⟨j4, 0, none⟩) T.length T.length] 36)) (.slice (some ⟨j3, 0, none⟩) C.length C.length) j3 C ∧ TS (w6.alloc (.cells #[.slice (some ⟨j3, 0, none⟩) C.length C.length, .slice (some ⟨j4, 0, none⟩) T.length T.length] 36)) (.slice (some ⟨j4, 0, none⟩) T.length T.length) j4 T ∧ Below w1.heap.size w1 (w6.alloc (.cells #[.slice (some ⟨j3, 0, none⟩) C.length C.length, .slice (some ⟨j4, 0, none⟩) T.length T.length] 36))) := by
    obtain ⟨y1, y2, y3, y4⟩ := HW5.out
    have b6 := y4.trans (hb6.mono y4.size)
    exact ⟨(y1.later hb6).later hba6, (y2.later hb6).later hba6, (y3.later hb6).later hba6, PfM.new w6 _ _, hr6.later hba6, ht6.later hba6, b6.trans (hba6.mono b6.size)⟩
  clear hr6 ht6 hb6 hba6 HW5 p0 p1 p2 p3 hb0
  have q0 := HW6.out.1.c0
  have q1 := HW6.out.1.c1
  have q2 := HW6.out.2.2.2.1.c0
  have q3 := HW6.out.2.2.2.1.c1
  go_wp2_with fail
  refine (HCI.out _ j1 j2 j3 j4 (HBW.out _ HW6.out.2.2.2.2.2.2) HW6.out.2.1 HW6.out.2.2.1 HW6.out.2.2.2.2.1 HW6.out.2.2.2.2.2.1).mono ?_
  rintro e w7 ⟨rfl, hb7⟩
  have HW7 : Hid (PfM w7 w5.heap.size (.slice (some ⟨j1, 0, none⟩) L.length L.length) (.slice (some ⟨j2, 0, none⟩) S.length S.length) ∧ RW 2 lcs w7 (.slice (some ⟨j1, 0, none⟩) L.length L.length) j1 L ∧ TS w7 (.slice (some ⟨j2, 0, none⟩) S.length S.length) j2 S ∧ PfM w7 w6.heap.size (.slice (some ⟨j3, 0, none⟩) C.length C.length) (.slice (some ⟨j4, 0, none⟩) T.length T.length) ∧ RW 2 lcs w7 (.slice (some ⟨j3, 0, none⟩) C.length C.length) j3 C ∧ TS w7 (.slice (some ⟨j4, 0, none⟩) T.length T.length) j4 T ∧ Below w1.heap.size w1 w7) := by
    obtain ⟨y1, y2, y3, y4, y5, y6, y7⟩ := HW6.out
    exact ⟨y1.later hb7, y2.later hb7, y3.later hb7, y4.later hb7, y5.later hb7, y6.later hb7, y7.trans (hb7.mono y7.size)⟩
  clear hb7 HW6 q0 q1 q2 q3 HCI
  have HKK : Hid (∀ W, Below w7.heap.size w7 W → (W.cell? ⟨w5.heap.size, 0, none⟩ = some (.slice (some ⟨j1, 0, none⟩) L.length L.length) ∧ W.cell? ⟨w5.heap.size, 1, none⟩ = some (.slice (some ⟨j2, 0, none⟩) S.length S.length) ∧ W.cell? ⟨w.heap.size, 0, none⟩ = some v1 ∧ W.cell? ⟨w.heap.size, 1, none⟩ = some v2)) := fun W hW => by
    obtain ⟨z0, z1, _⟩ := HCC.out _ HW7.out.2.2.2.2.2.2
    exact ⟨cell_up HW7.out.1.c0 hW, cell_up HW7.out.1.c1 hW, cell_up z0 hW, cell_up z1 hW⟩
  have HTO7 : Hid (∀ W, Below w7.heap.size w7 W → Calls Tryd.prog 41 #[.agg #[v1, v2]] W (ToP L S W)) := fun W hW => HTO.out W (HW7.out.2.2.2.2.2.2.trans (hW.mono HW7.out.2.2.2.2.2.2.size))
  have HEQ : Hid (∀ W i1 i2, Below w7.heap.size w7 W → RW 2 lcs W (.slice (some ⟨i1, 0, none⟩) L.length L.length) i1 L → TS W (.slice (some ⟨i2, 0, none⟩) S.length S.length) i2 S → Calls Tryd.prog 34 #[.agg #[.slice (some ⟨j1, 0, none⟩) L.length L.length, .slice (some ⟨j2, 0, none⟩) S.length S.length], .agg #[.slice (some ⟨i1, 0, none⟩) L.length L.length, .slice (some ⟨i2, 0, none⟩) S.length S.length]] W fun e w' => e = .returned (.bool true) ∧ Below W.heap.size W w') := fun W i1 i2 hW h3 h4 => eqProof_yes _ _ _ _ j1 0 j2 0 i1 0 i2 0 L S W (HW7.out.2.1.later hW).1 (HW7.out.2.2.1.later hW).ss h3.1 h4.ss
  unfold ToP at HTO7
  have hb0 : Below w7.heap.size w7 w7.drew := (Below.refl _ _).drew
  go_wp2
  go_region_held3 (fun W => W.cell? ⟨w5.heap.size, 0, none⟩ = some (.slice (some ⟨j1, 0, none⟩) L.length L.length) ∧ W.cell? ⟨w5.heap.size, 1, none⟩ = some (.slice (some ⟨j2, 0, none⟩) S.length S.length) ∧ W.cell? ⟨w.heap.size, 0, none⟩ = some v1 ∧ W.cell? ⟨w.heap.size, 1, none⟩ = some v2) (first | (go_keep; done) | exact HKK.out _ hb0) (first | (go_at_call 41; refine (HTO7.out _ hb0).mono ?_; rintro e w8 ⟨i1, i2, rfl, hr8, ht8, _, _, _, _, _, hc8⟩; have hb0 := hb0.trans (hc8.mono hb0.size)) | (go_at_call 34; refine (HEQ.out _ i1 i2 hb0 hr8 ht8).mono ?_; rintro e w9 ⟨rfl, hc9⟩; have hb0 := hb0.trans (hc9.mono hb0.size)) | fail)
  have HW9 : Hid (PfM w9 w6.heap.size (.slice (some ⟨j3, 0, none⟩) C.length C.length) (.slice (some ⟨j4, 0, none⟩) T.length T.length) ∧ RW 2 lcs w9 (.slice (some ⟨j3, 0, none⟩) C.length C.length) j3 C ∧ TS w9 (.slice (some ⟨j4, 0, none⟩) T.length T.length) j4 T ∧ Below w1.heap.size w1 w9) := by
    obtain ⟨y1, y2, y3, y4, y5, y6, y7⟩ := HW7.out
    exact ⟨y4.later hb0, y5.later hb0, y6.later hb0, y7.trans (hb0.mono y7.size)⟩
  clear HKK HTO7 HEQ hr8 ht8 hc8 hc9 HW7 hb0
  try rename_i hHeld
  try clear hHeld
  have HKK : Hid (∀ W, Below w9.heap.size w9 W → (W.cell? ⟨w6.heap.size, 0, none⟩ = some (.slice (some ⟨j3, 0, none⟩) C.length C.length) ∧ W.cell? ⟨w6.heap.size, 1, none⟩ = some (.slice (some ⟨j4, 0, none⟩) T.length T.length) ∧ W.cell? ⟨w.heap.size + 1, 0, none⟩ = some u1 ∧ W.cell? ⟨w.heap.size + 1, 1, none⟩ = some u2)) := fun W hW => by
    obtain ⟨_, _, z0, z1⟩ := HCC.out _ HW9.out.2.2.2
    exact ⟨cell_up HW9.out.1.c0 hW, cell_up HW9.out.1.c1 hW, cell_up z0 hW, cell_up z1 hW⟩
  have HTO7 : Hid (∀ W, Below w9.heap.size w9 W → Calls Tryd.prog 41 #[.agg #[u1, u2]] W (ToP C T W)) := fun W hW => HTQ.out W (HW9.out.2.2.2.trans (hW.mono HW9.out.2.2.2.size))
  have HEQ : Hid (∀ W i1 i2, Below w9.heap.size w9 W → RW 2 lcs W (.slice (some ⟨i1, 0, none⟩) C.length C.length) i1 C → TS W (.slice (some ⟨i2, 0, none⟩) T.length T.length) i2 T → Calls Tryd.prog 34 #[.agg #[.slice (some ⟨j3, 0, none⟩) C.length C.length, .slice (some ⟨j4, 0, none⟩) T.length T.length], .agg #[.slice (some ⟨i1, 0, none⟩) C.length C.length, .slice (some ⟨i2, 0, none⟩) T.length T.length]] W fun e w' => e = .returned (.bool true) ∧ Below W.heap.size W w') := fun W i1 i2 hW h3 h4 => eqProof_yes _ _ _ _ j3 0 j4 0 i1 0 i2 0 C T W (HW9.out.2.1.later hW).1 (HW9.out.2.2.1.later hW).ss h3.1 h4.ss
  unfold ToP at HTO7
  have hb0 : Below w9.heap.size w9 w9.drew := (Below.refl _ _).drew
  go_wp2
  go_region_held3 (fun W => W.cell? ⟨w6.heap.size, 0, none⟩ = some (.slice (some ⟨j3, 0, none⟩) C.length C.length) ∧ W.cell? ⟨w6.heap.size, 1, none⟩ = some (.slice (some ⟨j4, 0, none⟩) T.length T.length) ∧ W.cell? ⟨w.heap.size + 1, 0, none⟩ = some u1 ∧ W.cell? ⟨w.heap.size + 1, 1, none⟩ = some u2) (first | (go_keep; done) | exact HKK.out _ hb0) (first | (go_at_call 41; refine (HTO7.out _ hb0).mono ?_; rintro e w8' ⟨i1, i2, rfl, hr8, ht8, _, _, _, _, _, hc8⟩; have hb0 := hb0.trans (hc8.mono hb0.size)) | (go_at_call 34; refine (HEQ.out _ i1 i2 hb0 hr8 ht8).mono ?_; rintro e w11 ⟨rfl, hc9⟩; have hb0 := hb0.trans (hc9.mono hb0.size)) | fail)
  have bF := HBW.out _ (HW9.out.2.2.2.trans (hb0.mono HW9.out.2.2.2.size))
  clear HKK HTO7 HEQ hr8 ht8 hc8 hc9 HW9 hb0 HTO HTQ HCC HBW
  try rename_i hHeld
  try clear hHeld
  go_wp2
  go_ret
  exact ⟨rfl, bF⟩

end Go.Proofs.YtojadcjoniejaaaDoor
