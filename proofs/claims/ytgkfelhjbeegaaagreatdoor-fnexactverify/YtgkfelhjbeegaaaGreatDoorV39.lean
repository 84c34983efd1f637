/-
  Texts laid together: We.
-/
import Derived.Test.YtgkfelhjbeegaaaGreatDoorV38
/-
  The last checks of a whole proof: its root, its stamps: the program's answers.
-/
namespace Go.Proofs.YtgkfelhjbeegaaaGreatDoor
open Go.RowKit Go.BigFrame Go.Sort
set_option linter.unusedVariables false
set_option linter.unusedSimpArgs false

/-- what the proof folds up to -/
noncomputable def wrT (nm : ByteArray) (L : List Le) (S T : List ByteArray) (K : Int) : ByteArray := fuB (phA nm L S 16) (idxN nm : Int) K T 16
/-- does a stamp count? -/
def cnB (R : List ByteArray) (hs : Int) (x : Hd) (y : Stm) : Bool := decide (y.b ≠ hs) && (decide (0 ≤ y.b ∧ y.b < (R.length : Int)) && stR (R.getD y.b.toNat ⟨#[]⟩) x y.a y.o y.s y.d)
/-- how many count -/
def cnN (R : List ByteArray) (hs : Int) (x : Hd) (G : List Stm) : Nat := (G.filter (cnB R hs x)).length
theorem cnN_take {R : List ByteArray} {hs : Int} {x : Hd} {G : List Stm} {m : Nat} (h : m < G.length) : cnN R hs x (G.take (m + 1)) = cnN R hs x (G.take m) + (if cnB R hs x G[m] then 1 else 0) := by
  unfold cnN
  rw [← List.take_append_getElem h, List.filter_append, List.length_append]
  congr 1
  cases hc : cnB R hs x G[m] <;> simp [List.filter, hc]
theorem phA_size (nm : ByteArray) (L : List Le) (S : List ByteArray) : (phA nm L S 16).size ≤ 1048576 := by
  unfold phA lastH
  split
  · exact Nat.zero_le _
  · unfold cutH cutB
    rw [if_pos (by omega)]
    simp only [ByteArray.size_extract]
    omega
theorem cnN_le (R : List ByteArray) (hs : Int) (x : Hd) (G : List Stm) : cnN R hs x G ≤ G.length := List.length_filter_le _ _

set_option maxRecDepth 100000 in
set_option maxHeartbeats 2000000 in
theorem rootPasses_any (vr vb vs vt v1 v2 v3 vst : Value) (K N hs ep : Int) (nm : ByteArray) (x : Hd) (xa : Int) (R : List ByteArray) (L : List Le) (S T o s d : List ByteArray) (G : List Stm) (w : World) (hM : AkS w vr vb vs vt v1 v2 v3 vst R L S T o s d G) (hnm : nm.size ≤ 1048576) (hT : Tb w) :
    Calls Tryz.prog 60 #[.agg #[vr, .int .i64 K, .int .i64 N, .int .i64 hs, .string nm, .int .i64 ep, vb, vs, vt, .int .i64 x.h, .int .i64 x.e, .string x.r, .string x.p, .int .i64 xa, v1, v2, v3, vst]] w fun e w' => e = .returned (.bool (decide (wrT nm L S T K = x.r))) ∧ Below w.heap.size w w' := by
  have H1 : Hid (∀ W, Below w.heap.size w W → Calls Tryz.prog 87 #[.string nm, .agg #[vb, vs], .int .i64 16] W fun e w' => e = .returned (.string (phA nm L S 16)) ∧ Below W.heap.size W w') := fun W hW => by
    obtain ⟨_, ⟨g, k, h2⟩, h3, ⟨g4, k4, h4⟩, _⟩ := hM.later hW
    exact ProofHash_any nm vb vs g k g4 k4 L S 16 W hnm h2 h3 h4 (hT.later hW)
  have H2 : Hid (∀ W, Below w.heap.size w W → Calls Tryz.prog 89 #[.string nm] W fun e w' => e = .returned (.int .i64 (idxN nm : Int)) ∧ Below W.heap.size W w') := fun W hW => by
    have ht := hT.later hW
    exact IndexOf_any nm W hnm ht.1 ht.2
  have hph : (phA nm L S 16).size ≤ 1048576 := phA_size nm L S
  have H3 : Hid (∀ W, Below w.heap.size w W → Calls Tryz.prog 88 #[.string (phA nm L S 16), .int .i64 (idxN nm : Int), .int .i64 K, vt, .int .i64 16] W fun e w' => e = .returned (.string (wrT nm L S T K)) ∧ Below W.heap.size W w') := fun W hW => by
    obtain ⟨_, _, _, _, ⟨g, k, h5⟩, _⟩ := hM.later hW
    exact FoldUp_any _ _ K vt g k T 16 W h5 hph (hT.later hW)
  obtain ⟨xh, xe, xr, xp⟩ := x
  simp only
  have HX : Hid (Below w.heap.size w (w.alloc (.cells #[vr, .int .i64 K, .int .i64 N, .int .i64 hs, .string nm, .int .i64 ep, vb, vs, vt, .int .i64 xh, .int .i64 xe, .string xr, .string xp, .int .i64 xa, v1, v2, v3, vst] 77)) ∧ Box 77 (w.alloc (.cells #[vr, .int .i64 K, .int .i64 N, .int .i64 hs, .string nm, .int .i64 ep, vb, vs, vt, .int .i64 xh, .int .i64 xe, .string xr, .string xp, .int .i64 xa, v1, v2, v3, vst] 77)) w.heap.size [vr, .int .i64 K, .int .i64 N, .int .i64 hs, .string nm, .int .i64 ep, vb, vs, vt, .int .i64 xh, .int .i64 xe, .string xr, .string xp, .int .i64 xa, v1, v2, v3, vst]) := ⟨below_alloc _ _, Box.new _ _ _⟩
  obtain ⟨⟨ar, cr, rfl⟩, ⟨ab, cb, rfl⟩, ⟨as2, cs, rfl⟩, ⟨at2, ct, rfl⟩, ⟨a1, c1, rfl⟩, ⟨a2, c2, rfl⟩, ⟨a3, c3, rfl⟩, ⟨ag, cg, rfl⟩, lR, lS, lT, lG⟩ := hM.shapes
  clear hM hT hph
  generalize wrT nm L S T K = F at *
  generalize phA nm L S 16 = P at *
  generalize (idxN nm : Int) = ix at *
  generalize R.length = nr at *
  generalize L.length = nb at *
  generalize S.length = ns at *
  generalize T.length = nt at *
  generalize o.length = n1 at *
  generalize s.length = n2 at *
  generalize d.length = n3 at *
  generalize G.length = ng at *
  obtain ⟨z0, z1, z2, z3, z4, z5, z6, z7, z8, z9, z10, z11, z12, z13, z14, z15, z16, z17⟩ := HX.out.2.all18
  obtain ⟨bk, hbk⟩ : ∃ bk, decide (F = xr) = bk := ⟨_, rfl⟩
  have hq : (F.toList == xr.toList) = bk := by
    rw [← hbk]
    by_cases hk : F = xr
    · rw [decide_eq_true hk, hk]
      simp
    · rw [decide_eq_false hk]
      exact LV.bytes_ne hk
  rw [hbk]
  clear hbk
  go_enter Tryz.func60, Tryz.ntmps60
  go_wp2_with fail
  refine (H1.out _ HX.out.1).mono ?_
  rintro e w1 ⟨rfl, hb1⟩
  have HX1 : Hid (Below w.heap.size w w1 ∧ Box 77 w1 w.heap.size [.slice ar nr cr, .int .i64 K, .int .i64 N, .int .i64 hs, .string nm, .int .i64 ep, .slice ab nb cb, .slice as2 ns cs, .slice at2 nt ct, .int .i64 xh, .int .i64 xe, .string xr, .string xp, .int .i64 xa, .slice a1 n1 c1, .slice a2 n2 c2, .slice a3 n3 c3, .slice ag ng cg]) := ⟨HX.out.1.trans (hb1.mono HX.out.1.size), HX.out.2.later hb1⟩
  clear hb1 HX H1 z0 z1 z2 z3 z4 z5 z6 z7 z8 z9 z10 z11 z12 z13 z14 z15 z16 z17
  obtain ⟨z0, z1, z2, z3, z4, z5, z6, z7, z8, z9, z10, z11, z12, z13, z14, z15, z16, z17⟩ := HX1.out.2.all18
  have HK : Hid (∀ W, Below w1.heap.size w1 W → W.cell? ⟨w.heap.size, 0, none⟩ = some (.slice ar nr cr) ∧ W.cell? ⟨w.heap.size, 1, none⟩ = some (.int .i64 K) ∧ W.cell? ⟨w.heap.size, 2, none⟩ = some (.int .i64 N) ∧ W.cell? ⟨w.heap.size, 3, none⟩ = some (.int .i64 hs) ∧ W.cell? ⟨w.heap.size, 4, none⟩ = some (.string nm) ∧ W.cell? ⟨w.heap.size, 5, none⟩ = some (.int .i64 ep) ∧ W.cell? ⟨w.heap.size, 6, none⟩ = some (.slice ab nb cb) ∧ W.cell? ⟨w.heap.size, 7, none⟩ = some (.slice as2 ns cs) ∧ W.cell? ⟨w.heap.size, 8, none⟩ = some (.slice at2 nt ct) ∧ W.cell? ⟨w.heap.size, 9, none⟩ = some (.int .i64 xh) ∧ W.cell? ⟨w.heap.size, 10, none⟩ = some (.int .i64 xe) ∧ W.cell? ⟨w.heap.size, 11, none⟩ = some (.string xr) ∧ W.cell? ⟨w.heap.size, 12, none⟩ = some (.string xp) ∧ W.cell? ⟨w.heap.size, 13, none⟩ = some (.int .i64 xa) ∧ W.cell? ⟨w.heap.size, 14, none⟩ = some (.slice a1 n1 c1) ∧ W.cell? ⟨w.heap.size, 15, none⟩ = some (.slice a2 n2 c2) ∧ W.cell? ⟨w.heap.size, 16, none⟩ = some (.slice a3 n3 c3) ∧ W.cell? ⟨w.heap.size, 17, none⟩ = some (.slice ag ng cg)) := fun W hW => (HX1.out.2.later hW).all18
  have HB : Hid (∀ W, Below w1.heap.size w1 W → Below w.heap.size w W) := fun W hW => HX1.out.1.trans (hW.mono HX1.out.1.size)
  have hb0 : Below w1.heap.size w1 w1.drew := (Below.refl _ _).drew
  go_wp2
  go_region_held3 (fun W => W.cell? ⟨w.heap.size, 0, none⟩ = some (.slice ar nr cr) ∧ W.cell? ⟨w.heap.size, 1, none⟩ = some (.int .i64 K) ∧ W.cell? ⟨w.heap.size, 2, none⟩ = some (.int .i64 N) ∧ W.cell? ⟨w.heap.size, 3, none⟩ = some (.int .i64 hs) ∧ W.cell? ⟨w.heap.size, 4, none⟩ = some (.string nm) ∧ W.cell? ⟨w.heap.size, 5, none⟩ = some (.int .i64 ep) ∧ W.cell? ⟨w.heap.size, 6, none⟩ = some (.slice ab nb cb) ∧ W.cell? ⟨w.heap.size, 7, none⟩ = some (.slice as2 ns cs) ∧ W.cell? ⟨w.heap.size, 8, none⟩ = some (.slice at2 nt ct) ∧ W.cell? ⟨w.heap.size, 9, none⟩ = some (.int .i64 xh) ∧ W.cell? ⟨w.heap.size, 10, none⟩ = some (.int .i64 xe) ∧ W.cell? ⟨w.heap.size, 11, none⟩ = some (.string xr) ∧ W.cell? ⟨w.heap.size, 12, none⟩ = some (.string xp) ∧ W.cell? ⟨w.heap.size, 13, none⟩ = some (.int .i64 xa) ∧ W.cell? ⟨w.heap.size, 14, none⟩ = some (.slice a1 n1 c1) ∧ W.cell? ⟨w.heap.size, 15, none⟩ = some (.slice a2 n2 c2) ∧ W.cell? ⟨w.heap.size, 16, none⟩ = some (.slice a3 n3 c3) ∧ W.cell? ⟨w.heap.size, 17, none⟩ = some (.slice ag ng cg)) (first | (go_keep; done) | exact HK.out _ hb0) (first | (go_at_call 89; refine (H2.out _ (HB.out _ hb0)).mono ?_; rintro e w2 ⟨rfl, hb2⟩; have hb0 := hb0.trans (hb2.mono hb0.size)) | (go_at_call 88; refine (H3.out _ (HB.out _ hb0)).mono ?_; rintro e w3 ⟨rfl, hb3⟩; have hb0 := hb0.trans (hb3.mono hb0.size)) | fail)
  have HB3 : Hid (Below w.heap.size w w3) := HB.out _ hb0
  try rename_i hHeld
  try clear hHeld
  clear hb0 hb2 hb3 H2 H3 HK HB HX1 z0 z1 z2 z3 z4 z5 z6 z7 z8 z9 z10 z11 z12 z13 z14 z15 z16 z17
  go_wp2
  go_ret
  exact ⟨rfl, HB3.out⟩

set_option maxRecDepth 100000 in
set_option maxHeartbeats 2000000 in
theorem stampCounts_any (vr vb vs vt v1 v2 v3 vst : Value) (K N hs ep : Int) (nm : ByteArray) (x : Hd) (xa : Int) (R : List ByteArray) (L : List Le) (S T o s d : List ByteArray) (G : List Stm) (y : Stm) (u1 u2 u3 : Value) (w : World) (hM : AkS w vr vb vs vt v1 v2 v3 vst R L S T o s d G) (hu : SX w u1 y.o ∧ SX w u2 y.s ∧ SX w u3 y.d) (hT : Tb w) :
    Calls Tryz.prog 90 #[.agg #[vr, .int .i64 K, .int .i64 N, .int .i64 hs, .string nm, .int .i64 ep, vb, vs, vt, .int .i64 x.h, .int .i64 x.e, .string x.r, .string x.p, .int .i64 xa, v1, v2, v3, vst], .agg #[.int .i64 y.b, .int .i64 y.a, u1, u2, u3]] w fun e w' => e = .returned (.bool (cnB R hs x y)) ∧ Below w.heap.size w w' := by
  have H1 : Hid (∀ W, Below w.heap.size w W → Calls Tryz.prog 82 #[.agg #[vr, .int .i64 K, .int .i64 N], .int .i64 y.b] W fun e w' => e = .returned (.bool (decide (0 ≤ y.b ∧ y.b < (R.length : Int)))) ∧ Below W.heap.size W w') := fun W hW => knows_any vr R K N y.b W hM.1.shape hM.1.len
  have H2 : Hid (∀ W r, Below w.heap.size w W → Calls Tryz.prog 113 #[.string r, .agg #[.int .i64 x.h, .int .i64 x.e, .string x.r, .string x.p], .agg #[.int .i64 y.a, u1, u2, u3]] W fun e w' => e = .returned (.bool (stR r x y.a y.o y.s y.d)) ∧ Below W.heap.size W w') := fun W r hW => by
    obtain ⟨g1, k1, h1⟩ := hu.1.later hW
    obtain ⟨g2, k2, h2⟩ := hu.2.1.later hW
    obtain ⟨g3, k3, h3⟩ := hu.2.2.later hW
    exact StampOk_any r x y.a u1 u2 u3 g1 k1 g2 k2 g3 k3 y.o y.s y.d W h1 h2 h3 (hT.later hW)
  have HRM : Hid (∀ W, Below w.heap.size w W → ∀ m (hm : m < R.length), ∃ g k c, vr = .slice (some ⟨g, k, none⟩) R.length c ∧ W.cell? ⟨g, k + m, none⟩ = some (.string (R.getD m ⟨#[]⟩)) ∧ g < w.heap.size) := fun W hW m hm => by
    have eg : R.getD m ⟨#[]⟩ = R[m] := by simp [List.getD, List.getElem?_eq_getElem hm]
    rw [eg]
    obtain ⟨g, k, a0, c0, e0, l0, f0, hc⟩ := hM.1
    have h1 := hc m hm
    have hgl := lt_of_cell h1
    rw [f0 (by omega)] at e0
    exact ⟨g, k, c0, e0, (hW.cell (p := ⟨g, k + m, none⟩) hgl).trans h1, hgl⟩
  have HD : Hid (∀ m : Nat, y.b = (m : Int) → stR (R.getD y.b.toNat ⟨#[]⟩) x y.a y.o y.s y.d = stR (R.getD m ⟨#[]⟩) x y.a y.o y.s y.d) := fun m e => by
    rw [e]
    rfl
  unfold cnB
  obtain ⟨xh, xe, xr, xp⟩ := x
  obtain ⟨yb, ya, yo, ys, yd⟩ := y
  simp only at H1 H2 HD hu ⊢
  obtain ⟨b1, d1, rfl⟩ := hu.1.shape
  obtain ⟨b2, d2, rfl⟩ := hu.2.1.shape
  obtain ⟨b3, d3, rfl⟩ := hu.2.2.shape
  obtain ⟨⟨ar, cr, rfl⟩, ⟨ab, cb, rfl⟩, ⟨as2, cs, rfl⟩, ⟨at2, ct, rfl⟩, ⟨a1, c1, rfl⟩, ⟨a2, c2, rfl⟩, ⟨a3, c3, rfl⟩, ⟨ag, cg, rfl⟩, lR, lS, lT, lG⟩ := hM.shapes
  clear hM hT hu
  generalize R.length = nr at *
  generalize L.length = nb at *
  generalize S.length = ns at *
  generalize T.length = nt at *
  generalize o.length = n1 at *
  generalize s.length = n2 at *
  generalize d.length = n3 at *
  generalize G.length = ng at *
  generalize yo.length = m1 at *
  generalize ys.length = m2 at *
  generalize yd.length = m3 at *
  have HX : Hid (Below w.heap.size w ((w.alloc (.cells #[.slice ar nr cr, .int .i64 K, .int .i64 N, .int .i64 hs, .string nm, .int .i64 ep, .slice ab nb cb, .slice as2 ns cs, .slice at2 nt ct, .int .i64 xh, .int .i64 xe, .string xr, .string xp, .int .i64 xa, .slice a1 n1 c1, .slice a2 n2 c2, .slice a3 n3 c3, .slice ag ng cg] 77)).alloc (.cells #[.int .i64 yb, .int .i64 ya, .slice b1 m1 d1, .slice b2 m2 d2, .slice b3 m3 d3] 67)) ∧ Box 77 ((w.alloc (.cells #[.slice ar nr cr, .int .i64 K, .int .i64 N, .int .i64 hs, .string nm, .int .i64 ep, .slice ab nb cb, .slice as2 ns cs, .slice at2 nt ct, .int .i64 xh, .int .i64 xe, .string xr, .string xp, .int .i64 xa, .slice a1 n1 c1, .slice a2 n2 c2, .slice a3 n3 c3, .slice ag ng cg] 77)).alloc (.cells #[.int .i64 yb, .int .i64 ya, .slice b1 m1 d1, .slice b2 m2 d2, .slice b3 m3 d3] 67)) w.heap.size [.slice ar nr cr, .int .i64 K, .int .i64 N, .int .i64 hs, .string nm, .int .i64 ep, .slice ab nb cb, .slice as2 ns cs, .slice at2 nt ct, .int .i64 xh, .int .i64 xe, .string xr, .string xp, .int .i64 xa, .slice a1 n1 c1, .slice a2 n2 c2, .slice a3 n3 c3, .slice ag ng cg] ∧ Box 67 ((w.alloc (.cells #[.slice ar nr cr, .int .i64 K, .int .i64 N, .int .i64 hs, .string nm, .int .i64 ep, .slice ab nb cb, .slice as2 ns cs, .slice at2 nt ct, .int .i64 xh, .int .i64 xe, .string xr, .string xp, .int .i64 xa, .slice a1 n1 c1, .slice a2 n2 c2, .slice a3 n3 c3, .slice ag ng cg] 77)).alloc (.cells #[.int .i64 yb, .int .i64 ya, .slice b1 m1 d1, .slice b2 m2 d2, .slice b3 m3 d3] 67)) (w.heap.size + 1) [.int .i64 yb, .int .i64 ya, .slice b1 m1 d1, .slice b2 m2 d2, .slice b3 m3 d3]) := by
    refine ⟨(below_alloc _ _).alloc (by simp) _, (Box.new _ w _).later (below_alloc _ _), ?_⟩
    exact alloc_fst _ _ (by simp)
  obtain ⟨z0, z1, z2, z3, z4, z5, z6, z7, z8, z9, z10, z11, z12, z13, z14, z15, z16, z17⟩ := HX.out.2.1.all18
  have y0 := HX.out.2.2.at 0 _ rfl
  have y1 := HX.out.2.2.at 1 _ rfl
  have y2 := HX.out.2.2.at 2 _ rfl
  have y3 := HX.out.2.2.at 3 _ rfl
  have y4 := HX.out.2.2.at 4 _ rfl
  generalize hW0 : ((w.alloc (.cells #[.slice ar nr cr, .int .i64 K, .int .i64 N, .int .i64 hs, .string nm, .int .i64 ep, .slice ab nb cb, .slice as2 ns cs, .slice at2 nt ct, .int .i64 xh, .int .i64 xe, .string xr, .string xp, .int .i64 xa, .slice a1 n1 c1, .slice a2 n2 c2, .slice a3 n3 c3, .slice ag ng cg] 77)).alloc (.cells #[.int .i64 yb, .int .i64 ya, .slice b1 m1 d1, .slice b2 m2 d2, .slice b3 m3 d3] 67)) = W0 at *
  have HBB : Hid (∀ d os, Below w.heap.size w (grow (redrawn W0 d) os)) := fun d os => HX.out.1.trans ((below_regrown W0 d os).mono HX.out.1.size)
  have cq0 := fun d os => Calls.regrown_of (w := W0) (d := d) (os := os) (H1.out _ (HBB.out d os))
  have kq0 := cell_regrown (w := W0) z0
  have kq1 := cell_regrown (w := W0) z1
  have kq2 := cell_regrown (w := W0) z2
  have kq3 := cell_regrown (w := W0) z3
  have kq4 := cell_regrown (w := W0) z4
  have kq5 := cell_regrown (w := W0) z5
  have kq6 := cell_regrown (w := W0) z6
  have kq7 := cell_regrown (w := W0) z7
  have kq8 := cell_regrown (w := W0) z8
  have kq9 := cell_regrown (w := W0) z9
  have kq10 := cell_regrown (w := W0) z10
  have kq11 := cell_regrown (w := W0) z11
  have kq12 := cell_regrown (w := W0) z12
  have kq13 := cell_regrown (w := W0) z13
  have kq14 := cell_regrown (w := W0) z14
  have kq15 := cell_regrown (w := W0) z15
  have kq16 := cell_regrown (w := W0) z16
  have kq17 := cell_regrown (w := W0) z17
  have ky0 := cell_regrown (w := W0) y0
  have ky1 := cell_regrown (w := W0) y1
  have ky2 := cell_regrown (w := W0) y2
  have ky3 := cell_regrown (w := W0) y3
  have ky4 := cell_regrown (w := W0) y4
  clear z0 z1 z2 z3 z4 z5 z6 z7 z8 z9 z10 z11 z12 z13 z14 z15 z16 z17 y0 y1 y2 y3 y4
  by_cases hbs : yb = hs
  · rw [decide_eq_false (by simpa using hbs), Bool.false_and]
    have q : (yb != hs) = false := by simpa using hbs
    clear H1 H2 HD HRM hbs
    have cq1 := cq0
    go_enter Tryz.func90, Tryz.ntmps90
    go_wp2
    try rw [hW0]
    refine wp_region_quiet_below (by kernel_rfl) (by kernel_rfl) ?_
    repeat (go_big_quiet_step (first | with_reducible exact cq0 _ _ | with_reducible exact cq1 _ _))
    refine wpQuiet_nil ?_
    rintro _ ⟨⟨dq, osq⟩, rfl⟩
    have hb6 := HBB.out dq osq
    go_wp2
    go_ret
    exact ⟨rfl, hb6⟩
  rw [decide_eq_true (by simpa using hbs), Bool.true_and]
  have q : (yb != hs) = true := by simpa using hbs
  by_cases hin : 0 ≤ yb ∧ yb < (nr : Int)
  · rw [decide_eq_true hin] at cq0 ⊢
    rw [Bool.true_and]
    obtain ⟨m, rfl⟩ : ∃ m : Nat, yb = (m : Int) := ⟨yb.toNat, by omega⟩
    have hm : m < nr := by omega
    have HDm := HD.out m rfl
    rw [HDm]
    obtain ⟨g, k, c, eg, hcell, hgl⟩ := HRM.out _ HX.out.1 m hm
    simp only [Value.slice.injEq, true_and] at eg
    obtain ⟨rfl, rfl⟩ := eg
    clear HD HRM HDm hbs
    generalize R.getD m ⟨#[]⟩ = RM at *
    generalize hst : stR RM ⟨xh, xe, xr, xp⟩ ya yo ys yd = bs
    have cq1 := fun d os => Calls.regrown_of (w := W0) (d := d) (os := os) (H2.out _ RM (HBB.out d os))
    rw [hst] at cq1
    have krm := cell_regrown (w := W0) hcell
    have i1 : (m : Int) < (nr : Int) := hin.2
    have i2 : (0 : Int) ≤ (m : Int) := by omega
    clear H1 H2 hst hcell hin
    go_enter Tryz.func90, Tryz.ntmps90
    go_wp2
    try rw [hW0]
    refine wp_region_quiet_below (by kernel_rfl) (by kernel_rfl) ?_
    repeat (go_big_quiet_step (first | with_reducible exact cq0 _ _ | with_reducible exact cq1 _ _))
    refine wpQuiet_nil ?_
    rintro _ ⟨⟨dq, osq⟩, rfl⟩
    have hb6 := HBB.out dq osq
    go_wp2
    go_ret
    exact ⟨rfl, hb6⟩
  · rw [decide_eq_false hin] at cq0 ⊢
    rw [Bool.false_and]
    clear HD HRM H1 H2 hbs hin
    have cq1 := cq0
    go_enter Tryz.func90, Tryz.ntmps90
    go_wp2
    try rw [hW0]
    refine wp_region_quiet_below (by kernel_rfl) (by kernel_rfl) ?_
    repeat (go_big_quiet_step (first | with_reducible exact cq0 _ _ | with_reducible exact cq1 _ _))
    refine wpQuiet_nil ?_
    rintro _ ⟨⟨dq, osq⟩, rfl⟩
    have hb6 := HBB.out dq osq
    go_wp2
    go_ret
    exact ⟨rfl, hb6⟩

/-- the first m stamps are looked at -/
def WeR (w : World) (cs : List Value) (R : List ByteArray) (hs : Int) (x : Hd) (G : List Stm) (r i : Value) (wr : World) : Prop := ∃ m : Nat, m ≤ G.length ∧ i = .int .i64 m ∧ r = .int .i64 (cnN R hs x (G.take m) : Nat) ∧ Hid (Below w.heap.size w wr ∧ Box 77 wr w.heap.size cs)

set_option maxRecDepth 100000 in
set_option maxHeartbeats 2000000 in
theorem stampsPass_any (vr vb vs vt v1 v2 v3 vst : Value) (K N hs ep : Int) (nm : ByteArray) (x : Hd) (xa : Int) (R : List ByteArray) (L : List Le) (S T o s d : List ByteArray) (G : List Stm) (w : World) (hM : AkS w vr vb vs vt v1 v2 v3 vst R L S T o s d G) (hT : Tb w) :
    Calls Tryz.prog 61 #[.agg #[vr, .int .i64 K, .int .i64 N, .int .i64 hs, .string nm, .int .i64 ep, vb, vs, vt, .int .i64 x.h, .int .i64 x.e, .string x.r, .string x.p, .int .i64 xa, v1, v2, v3, vst]] w fun e w' => e = .returned (.bool (decide (N ≤ (cnN R hs x G : Int)))) ∧ Below w.heap.size w w' := by
  have HC : Hid (∀ W (y : Stm), Below w.heap.size w W → ∀ u1 u2 u3, SX W u1 y.o ∧ SX W u2 y.s ∧ SX W u3 y.d → Calls Tryz.prog 90 #[.agg #[vr, .int .i64 K, .int .i64 N, .int .i64 hs, .string nm, .int .i64 ep, vb, vs, vt, .int .i64 x.h, .int .i64 x.e, .string x.r, .string x.p, .int .i64 xa, v1, v2, v3, vst], .agg #[.int .i64 y.b, .int .i64 y.a, u1, u2, u3]] W fun e w' => e = .returned (.bool (cnB R hs x y)) ∧ Below W.heap.size W w') := fun W y hW u1 u2 u3 hu => stampCounts_any vr vb vs vt v1 v2 v3 vst K N hs ep nm x xa R L S T o s d G y u1 u2 u3 W (hM.later hW) hu (hT.later hW)
  obtain ⟨gst, ost, hst⟩ := hM.2.2.2.2.2.2.2.2
  obtain ⟨ag0, cg0, eg0, _, hA⟩ := hst.shape
  obtain ⟨xh, xe, xr, xp⟩ := x
  simp only at HC ⊢
  have HX : Hid (Below w.heap.size w (w.alloc (.cells #[vr, .int .i64 K, .int .i64 N, .int .i64 hs, .string nm, .int .i64 ep, vb, vs, vt, .int .i64 xh, .int .i64 xe, .string xr, .string xp, .int .i64 xa, v1, v2, v3, vst] 77)) ∧ Box 77 (w.alloc (.cells #[vr, .int .i64 K, .int .i64 N, .int .i64 hs, .string nm, .int .i64 ep, vb, vs, vt, .int .i64 xh, .int .i64 xe, .string xr, .string xp, .int .i64 xa, v1, v2, v3, vst] 77)) w.heap.size [vr, .int .i64 K, .int .i64 N, .int .i64 hs, .string nm, .int .i64 ep, vb, vs, vt, .int .i64 xh, .int .i64 xe, .string xr, .string xp, .int .i64 xa, v1, v2, v3, vst]) := ⟨below_alloc _ _, Box.new _ _ _⟩
  obtain ⟨⟨ar, cr, rfl⟩, ⟨ab, cb, rfl⟩, ⟨as2, cs, rfl⟩, ⟨at2, ct, rfl⟩, ⟨a1, c1, rfl⟩, ⟨a2, c2, rfl⟩, ⟨a3, c3, rfl⟩, ⟨ag, cg, rfl⟩, lR, lS, lT, lG⟩ := hM.shapes
  simp only [Value.slice.injEq, true_and] at eg0
  obtain ⟨rfl, rfl⟩ := eg0
  have HG : Hid (StS w (.slice ag G.length cg) gst ost G) := hst
  clear hM hT hst
  generalize R.length = nr at *
  generalize L.length = nb at *
  generalize S.length = ns at *
  generalize T.length = nt at *
  generalize o.length = n1 at *
  generalize s.length = n2 at *
  generalize d.length = n3 at *
  obtain ⟨ng, hng⟩ : ∃ n, G.length = n := ⟨_, rfl⟩
  have HN : Hid (G.length = ng) := hng
  have HA : Hid (0 < ng → ag = some ⟨gst, ost, none⟩) := by rw [← hng]; exact hA
  rw [hng] at HX HC HG lG ⊢
  have HST : Hid (WeR w [.slice ar nr cr, .int .i64 K, .int .i64 N, .int .i64 hs, .string nm, .int .i64 ep, .slice ab nb cb, .slice as2 ns cs, .slice at2 nt ct, .int .i64 xh, .int .i64 xe, .string xr, .string xp, .int .i64 xa, .slice a1 n1 c1, .slice a2 n2 c2, .slice a3 n3 c3, .slice ag ng cg] R hs ⟨xh, xe, xr, xp⟩ G (.int .i64 0) (.int .i64 0) (w.alloc (.cells #[.slice ar nr cr, .int .i64 K, .int .i64 N, .int .i64 hs, .string nm, .int .i64 ep, .slice ab nb cb, .slice as2 ns cs, .slice at2 nt ct, .int .i64 xh, .int .i64 xe, .string xr, .string xp, .int .i64 xa, .slice a1 n1 c1, .slice a2 n2 c2, .slice a3 n3 c3, .slice ag ng cg] 77))) := ⟨0, by omega, rfl, rfl, HX.out⟩
  obtain ⟨qq, hqq⟩ : ∃ q, cnN R hs ⟨xh, xe, xr, xp⟩ G = q := ⟨_, rfl⟩
  have HQQ : Hid (cnN R hs ⟨xh, xe, xr, xp⟩ G = qq) := hqq
  rw [hqq]
  clear hqq
  obtain ⟨z0, z1, z2, z3, z4, z5, z6, z7, z8, z9, z10, z11, z12, z13, z14, z15, z16, z17⟩ := HX.out.2.all18
  clear hA hng
  go_enter Tryz.func61, Tryz.ntmps61
  go_wp2
  go_loopw [3, 10] (fun r i wr => WeR w [.slice ar nr cr, .int .i64 K, .int .i64 N, .int .i64 hs, .string nm, .int .i64 ep, .slice ab nb cb, .slice as2 ns cs, .slice at2 nt ct, .int .i64 xh, .int .i64 xe, .string xr, .string xp, .int .i64 xa, .slice a1 n1 c1, .slice a2 n2 c2, .slice a3 n3 c3, .slice ag ng cg] R hs ⟨xh, xe, xr, xp⟩ G r i wr) (fun r i _ => ng - (intOf i).toNat)
  case atStart => exact HST.out
  case round =>
    obtain ⟨m, hm, rfl, rfl, HI⟩ := hrel
    clear HST
    rw [HN.out] at hm
    by_cases hlt : m < ng
    · have ea := HA.out (by omega)
      subst ea
      have hmG : m < G.length := by rw [HN.out]; exact hlt
      obtain ⟨u1, u2, u3, ⟨c0, c1', c2', c3', c4⟩, hu1, hu2, hu3⟩ := (HG.out.later HI.out.1).at m hmG
      obtain ⟨b1, d1, rfl⟩ := hu1.shape
      obtain ⟨b2, d2, rfl⟩ := hu2.shape
      obtain ⟨b3, d3, rfl⟩ := hu3.shape
      have hgl := lt_of_cell c0
      have hbn : Below wr.heap.size wr (wr.alloc (.cells #[.int .i64 G[m].b, .int .i64 G[m].a, .slice b1 G[m].o.length d1, .slice b2 G[m].s.length d2, .slice b3 G[m].d.length d3] 67)) := below_alloc _ _
      have HY : Hid (Below w.heap.size w (wr.alloc (.cells #[.int .i64 G[m].b, .int .i64 G[m].a, .slice b1 G[m].o.length d1, .slice b2 G[m].s.length d2, .slice b3 G[m].d.length d3] 67)) ∧ Box 77 (wr.alloc (.cells #[.int .i64 G[m].b, .int .i64 G[m].a, .slice b1 G[m].o.length d1, .slice b2 G[m].s.length d2, .slice b3 G[m].d.length d3] 67)) w.heap.size [.slice ar nr cr, .int .i64 K, .int .i64 N, .int .i64 hs, .string nm, .int .i64 ep, .slice ab nb cb, .slice as2 ns cs, .slice at2 nt ct, .int .i64 xh, .int .i64 xe, .string xr, .string xp, .int .i64 xa, .slice a1 n1 c1, .slice a2 n2 c2, .slice a3 n3 c3, .slice (some ⟨gst, ost, none⟩) ng cg]) := ⟨HI.out.1.trans (hbn.mono HI.out.1.size), HI.out.2.later hbn⟩
      have hcc := HC.out _ G[m] HY.out.1 _ _ _ ⟨hu1.later hbn, hu2.later hbn, hu3.later hbn⟩
      have hNX := cnN_take (R := R) (hs := hs) (x := ⟨xh, xe, xr, xp⟩) hmG
      have hle := cnN_le R hs ⟨xh, xe, xr, xp⟩ (G.take m)
      have hle2 : (G.take m).length ≤ ng := by rw [List.length_take, HN.out]; omega
      have HW : Hid (∀ W r, Below (wr.alloc (.cells #[.int .i64 G[m].b, .int .i64 G[m].a, .slice b1 G[m].o.length d1, .slice b2 G[m].s.length d2, .slice b3 G[m].d.length d3] 67)).heap.size (wr.alloc (.cells #[.int .i64 G[m].b, .int .i64 G[m].a, .slice b1 G[m].o.length d1, .slice b2 G[m].s.length d2, .slice b3 G[m].d.length d3] 67)) W → r = .int .i64 (cnN R hs ⟨xh, xe, xr, xp⟩ (G.take (m + 1)) : Nat) → WeR w [.slice ar nr cr, .int .i64 K, .int .i64 N, .int .i64 hs, .string nm, .int .i64 ep, .slice ab nb cb, .slice as2 ns cs, .slice at2 nt ct, .int .i64 xh, .int .i64 xe, .string xr, .string xp, .int .i64 xa, .slice a1 n1 c1, .slice a2 n2 c2, .slice a3 n3 c3, .slice (some ⟨gst, ost, none⟩) ng cg] R hs ⟨xh, xe, xr, xp⟩ G r (.int .i64 ((m : Int) + 1)) W) := fun W r hW hr => ⟨m + 1, by omega, by congr 1, hr, HY.out.1.trans (hW.mono HY.out.1.size), HY.out.2.later hW⟩
      rw [hNX] at HW
      generalize cnB R hs ⟨xh, xe, xr, xp⟩ G[m] = bb at *
      generalize cnN R hs ⟨xh, xe, xr, xp⟩ (G.take m) = q at *
      generalize G[m].o.length = m1 at *
      generalize G[m].s.length = m2 at *
      generalize G[m].d.length = m3 at *
      generalize G[m].b = yb at *
      generalize G[m].a = ya at *
      have i1 : (m : Int) < (ng : Int) := by omega
      have i2 : (0 : Int) ≤ (m : Int) := by omega
      clear hNX hu1 hu2 hu3 HC HG
      obtain ⟨z0, z1, z2, z3, z4, z5, z6, z7, z8, z9, z10, z11, z12, z13, z14, z15, z16, z17⟩ := HY.out.2.all18
      clear HI
      go_wp2_with fail
      refine hcc.mono ?_
      rintro e w2 ⟨rfl, hb2⟩
      have HW2 := fun r => HW.out w2 r hb2
      have HWH : Hid (∀ r, r = .int .i64 (q + (if bb = true then 1 else 0) : Nat) → WeR w [.slice ar nr cr, .int .i64 K, .int .i64 N, .int .i64 hs, .string nm, .int .i64 ep, .slice ab nb cb, .slice as2 ns cs, .slice at2 nt ct, .int .i64 xh, .int .i64 xe, .string xr, .string xp, .int .i64 xa, .slice a1 n1 c1, .slice a2 n2 c2, .slice a3 n3 c3, .slice (some ⟨gst, ost, none⟩) ng cg] R hs ⟨xh, xe, xr, xp⟩ G r (.int .i64 ((m : Int) + 1)) w2) := HW2
      clear HW HW2 hb2 hcc HY hbn z0 z1 z2 z3 z4 z5 z6 z7 z8 z9 z10 z11 z12 z13 z14 z15 z16 z17 c0 c1' c2' c3' c4
      cases bb
      · go_wp2
        go_roundw
        case rel => exact HWH.out _ (by simp)
        case measure => simp [intOf]; omega
      · go_wp2
        go_roundw
        case rel => exact HWH.out _ (by simp)
        case measure => simp [intOf]; omega
    · have hme : m = ng := by omega
      have hq : G.take m = G := List.take_of_length_le (by rw [HN.out]; omega)
      rw [hq]
      have hle := cnN_le R hs ⟨xh, xe, xr, xp⟩ G
      rw [HN.out] at hle
      have i1 : ¬ (m : Int) < (ng : Int) := by omega
      obtain ⟨z0, z1, z2, z3, z4, z5, z6, z7, z8, z9, z10, z11, z12, z13, z14, z15, z16, z17⟩ := HI.out.2.all18
      have HB : Hid (Below w.heap.size w wr) := HI.out.1
      rw [HQQ.out] at hle ⊢
      clear HC HG HI
      by_cases hN : N ≤ (qq : Int)
      · go_wp2
        go_ret
        exact ⟨by simp [hN], HB.out⟩
      · go_wp2
        go_ret
        exact ⟨by simp; omega, HB.out⟩

end Go.Proofs.YtgkfelhjbeegaaaGreatDoor
