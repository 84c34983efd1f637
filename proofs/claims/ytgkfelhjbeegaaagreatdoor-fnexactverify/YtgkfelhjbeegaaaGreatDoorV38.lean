/-
  Texts laid together: Wd.
-/
import Derived.Test.YtgkfelhjbeegaaaGreatDoorV09
import Derived.Test.YtgkfelhjbeegaaaGreatDoorV20
import Derived.Test.YtgkfelhjbeegaaaGreatDoorV29
import Derived.Test.YtgkfelhjbeegaaaGreatDoorV33
import Derived.Test.YtgkfelhjbeegaaaGreatDoorV31
import Derived.Test.YtgkfelhjbeegaaaGreatDoorV37
/-
  The checks of a whole proof, one by one: the program's answers.
-/
namespace Go.Proofs.YtgkfelhjbeegaaaGreatDoor
open Go.RowKit Go.BigFrame Go.Sort
set_option linter.unusedVariables false
set_option linter.unusedSimpArgs false

/-- what a trust and a whole proof are made of lies in memory so -/
def AkS (w : World) (vr vb vs vt v1 v2 v3 vst : Value) (R : List ByteArray) (L : List Le) (S T o s d : List ByteArray) (G : List Stm) : Prop := SX w vr R ∧ (∃ g k, RS 2 lcs w vb g k L) ∧ SmallL L ∧ SX w vs S ∧ SX w vt T ∧ SX w v1 o ∧ SX w v2 s ∧ SX w v3 d ∧ ∃ g k, StS w vst g k G
theorem AkS.later {w w' : World} {vr vb vs vt v1 v2 v3 vst : Value} {R : List ByteArray} {L : List Le} {S T o s d : List ByteArray} {G : List Stm} (h : AkS w vr vb vs vt v1 v2 v3 vst R L S T o s d G) (hb : Below w.heap.size w w') : AkS w' vr vb vs vt v1 v2 v3 vst R L S T o s d G := by
  obtain ⟨h1, ⟨g, k, h2⟩, h3, h4, h5, h6, h7, h8, ⟨g2, k2, h9⟩⟩ := h
  exact ⟨h1.later hb, ⟨g, k, h2.later hb⟩, h3, h4.later hb, h5.later hb, h6.later hb, h7.later hb, h8.later hb, ⟨g2, k2, h9.later hb⟩⟩
/-- they are slices -/
theorem AkS.shapes {w : World} {vr vb vs vt v1 v2 v3 vst : Value} {R : List ByteArray} {L : List Le} {S T o s d : List ByteArray} {G : List Stm} (h : AkS w vr vb vs vt v1 v2 v3 vst R L S T o s d G) : (∃ a c, vr = .slice a R.length c) ∧ (∃ a c, vb = .slice a L.length c) ∧ (∃ a c, vs = .slice a S.length c) ∧ (∃ a c, vt = .slice a T.length c) ∧ (∃ a c, v1 = .slice a o.length c) ∧ (∃ a c, v2 = .slice a s.length c) ∧ (∃ a c, v3 = .slice a d.length c) ∧ (∃ a c, vst = .slice a G.length c) ∧ R.length ≤ 1100000 ∧ S.length ≤ 1100000 ∧ T.length ≤ 1100000 ∧ G.length ≤ 1100000 := by
  obtain ⟨h1, ⟨g, k, h2⟩, h3, h4, h5, h6, h7, h8, ⟨g2, k2, h9⟩⟩ := h
  obtain ⟨a, c, hv, hl, _⟩ := h9.shape
  exact ⟨h1.shape, h2.shape, h4.shape, h5.shape, h6.shape, h7.shape, h8.shape, ⟨a, c, hv⟩, h1.len, h4.len, h5.len, hl⟩
theorem Box.all18 {T : Nat} {W : World} {g : Nat} {x0 x1 x2 x3 x4 x5 x6 x7 x8 x9 x10 x11 x12 x13 x14 x15 x16 x17 : Value} (h : Box T W g [x0, x1, x2, x3, x4, x5, x6, x7, x8, x9, x10, x11, x12, x13, x14, x15, x16, x17]) : W.cell? ⟨g, 0, none⟩ = some x0 ∧ W.cell? ⟨g, 1, none⟩ = some x1 ∧ W.cell? ⟨g, 2, none⟩ = some x2 ∧ W.cell? ⟨g, 3, none⟩ = some x3 ∧ W.cell? ⟨g, 4, none⟩ = some x4 ∧ W.cell? ⟨g, 5, none⟩ = some x5 ∧ W.cell? ⟨g, 6, none⟩ = some x6 ∧ W.cell? ⟨g, 7, none⟩ = some x7 ∧ W.cell? ⟨g, 8, none⟩ = some x8 ∧ W.cell? ⟨g, 9, none⟩ = some x9 ∧ W.cell? ⟨g, 10, none⟩ = some x10 ∧ W.cell? ⟨g, 11, none⟩ = some x11 ∧ W.cell? ⟨g, 12, none⟩ = some x12 ∧ W.cell? ⟨g, 13, none⟩ = some x13 ∧ W.cell? ⟨g, 14, none⟩ = some x14 ∧ W.cell? ⟨g, 15, none⟩ = some x15 ∧ W.cell? ⟨g, 16, none⟩ = some x16 ∧ W.cell? ⟨g, 17, none⟩ = some x17 :=
  ⟨h.at 0 _ rfl, h.at 1 _ rfl, h.at 2 _ rfl, h.at 3 _ rfl, h.at 4 _ rfl, h.at 5 _ rfl, h.at 6 _ rfl, h.at 7 _ rfl, h.at 8 _ rfl, h.at 9 _ rfl, h.at 10 _ rfl, h.at 11 _ rfl, h.at 12 _ rfl, h.at 13 _ rfl, h.at 14 _ rfl, h.at 15 _ rfl, h.at 16 _ rfl, h.at 17 _ rfl⟩
theorem Box.all12 {T : Nat} {W : World} {g : Nat} {x0 x1 x2 x3 x4 x5 x6 x7 x8 x9 x10 x11 : Value} (h : Box T W g [x0, x1, x2, x3, x4, x5, x6, x7, x8, x9, x10, x11]) : W.cell? ⟨g, 0, none⟩ = some x0 ∧ W.cell? ⟨g, 1, none⟩ = some x1 ∧ W.cell? ⟨g, 2, none⟩ = some x2 ∧ W.cell? ⟨g, 3, none⟩ = some x3 ∧ W.cell? ⟨g, 4, none⟩ = some x4 ∧ W.cell? ⟨g, 5, none⟩ = some x5 ∧ W.cell? ⟨g, 6, none⟩ = some x6 ∧ W.cell? ⟨g, 7, none⟩ = some x7 ∧ W.cell? ⟨g, 8, none⟩ = some x8 ∧ W.cell? ⟨g, 9, none⟩ = some x9 ∧ W.cell? ⟨g, 10, none⟩ = some x10 ∧ W.cell? ⟨g, 11, none⟩ = some x11 :=
  ⟨h.at 0 _ rfl, h.at 1 _ rfl, h.at 2 _ rfl, h.at 3 _ rfl, h.at 4 _ rfl, h.at 5 _ rfl, h.at 6 _ rfl, h.at 7 _ rfl, h.at 8 _ rfl, h.at 9 _ rfl, h.at 10 _ rfl, h.at 11 _ rfl⟩

/-- do the levels fit? -/
def lvF (S T : List ByteArray) (K : Int) : Bool := decide ((S.length : Int) = 8 - K) && (decide ((T.length : Int) = K) && allW T 16)
/-- has it the form that is wanted? -/
noncomputable def fmB (R : List ByteArray) (K N hs : Int) (nm : ByteArray) (L : List Le) (S T : List ByteArray) (G : List Stm) : Bool := tkB R K N && (decide (0 ≤ hs ∧ hs < (R.length : Int)) && (pfOk nm L S 16 && (lvF S T K && ascS G)))

set_option maxRecDepth 100000 in
set_option maxHeartbeats 1000000 in
theorem levelsFit_any (vb vs vt v1 v2 v3 vst : Value) (x : Hd) (xa K : Int) (S T : List ByteArray) (w : World) (hs : SX w vs S) (ht : SX w vt T) (hsh : (∃ a n c, vb = .slice a n c) ∧ (∃ a n c, v1 = .slice a n c) ∧ (∃ a n c, v2 = .slice a n c) ∧ (∃ a n c, v3 = .slice a n c) ∧ (∃ a n c, vst = .slice a n c)) (hK : 0 ≤ K ∧ K ≤ 2) :
    Calls Tryz.prog 84 #[.agg #[vb, vs, vt, .int .i64 x.h, .int .i64 x.e, .string x.r, .string x.p, .int .i64 xa, v1, v2, v3, vst], .int .i64 K] w fun e w' => e = .returned (.bool (lvF S T K)) ∧ Below w.heap.size w w' := by
  obtain ⟨xh, xe, xr, xp⟩ := x
  simp only
  have HB : Hid (Below w.heap.size w (w.alloc (.cells #[vb, vs, vt, .int .i64 xh, .int .i64 xe, .string xr, .string xp, .int .i64 xa, v1, v2, v3, vst] 52))) := below_alloc _ _
  have HW : Hid (∀ W, Below w.heap.size w W → Calls Tryz.prog 97 #[vt, .int .i64 16] W fun e w' => e = .returned (.bool (allW T 16)) ∧ w' = W) := fun W hW => by
    obtain ⟨g, o, h⟩ := ht.later (hW.mono (Nat.le_refl _))
    exact allWide_any vt g o T 16 W h
  unfold lvF
  obtain ⟨as2, cs, rfl⟩ := hs.shape
  obtain ⟨at2, ct, rfl⟩ := ht.shape
  obtain ⟨⟨ab, nb, cb, rfl⟩, ⟨a1, n1, c1, rfl⟩, ⟨a2, n2, c2, rfl⟩, ⟨a3, n3, c3, rfl⟩, ⟨ag, ng, cg, rfl⟩⟩ := hsh
  have hlS := hs.len
  have hlT := ht.len
  generalize allW T 16 = A at *
  generalize S.length = ns at *
  generalize T.length = nt at *
  clear hs ht
  by_cases h1 : (ns : Int) = 8 - K
  · by_cases h2 : (nt : Int) = K
    · rw [decide_eq_true h1, decide_eq_true h2, Bool.true_and, Bool.true_and]
      have q1 : ((ns : Int) == 8 - K) = true := by simpa using h1
      have q2 : ((nt : Int) == K) = true := by simpa using h2
      go_enter Tryz.func84, Tryz.ntmps84
      go_wp2_with fail
      refine (HW.out _ HB.out).mono ?_
      rintro e w1 ⟨rfl, rfl⟩
      clear HW
      go_wp2
      go_ret
      exact ⟨by simp, HB.out⟩
    · rw [decide_eq_true h1, decide_eq_false h2, Bool.true_and, Bool.false_and]
      have q1 : ((ns : Int) == 8 - K) = true := by simpa using h1
      have q2 : ((nt : Int) == K) = false := by simpa using h2
      clear HW
      go_enter Tryz.func84, Tryz.ntmps84
      go_wp2
      go_ret
      exact ⟨by simp, HB.out⟩
  · rw [decide_eq_false h1, Bool.false_and]
    have q1 : ((ns : Int) == 8 - K) = false := by simpa using h1
    clear HW
    go_enter Tryz.func84, Tryz.ntmps84
    go_wp2
    go_ret
    exact ⟨by simp, HB.out⟩

set_option maxRecDepth 100000 in
set_option maxHeartbeats 2000000 in
theorem formPasses_any (vr vb vs vt v1 v2 v3 vst : Value) (K N hs ep : Int) (nm : ByteArray) (x : Hd) (xa : Int) (R : List ByteArray) (L : List Le) (S T o s d : List ByteArray) (G : List Stm) (w : World) (hM : AkS w vr vb vs vt v1 v2 v3 vst R L S T o s d G) (hnm : nm.size ≤ 1048576) (hT : Tb w) :
    Calls Tryz.prog 57 #[.agg #[vr, .int .i64 K, .int .i64 N, .int .i64 hs, .string nm, .int .i64 ep, vb, vs, vt, .int .i64 x.h, .int .i64 x.e, .string x.r, .string x.p, .int .i64 xa, v1, v2, v3, vst]] w fun e w' => e = .returned (.bool (fmB R K N hs nm L S T G)) ∧ Below w.heap.size w w' := by
  have H1 : Hid (∀ W, Below w.heap.size w W → Calls Tryz.prog 81 #[.agg #[vr, .int .i64 K, .int .i64 N]] W fun e w' => e = .returned (.bool (tkB R K N)) ∧ Below W.heap.size W w') := fun W hW => by
    obtain ⟨g, k, h⟩ := (hM.later hW).1
    exact TrustOk_any vr g k R K N W h
  have H2 : Hid (∀ W, Below w.heap.size w W → Calls Tryz.prog 82 #[.agg #[vr, .int .i64 K, .int .i64 N], .int .i64 hs] W fun e w' => e = .returned (.bool (decide (0 ≤ hs ∧ hs < (R.length : Int)))) ∧ Below W.heap.size W w') := fun W hW => knows_any vr R K N hs W hM.1.shape hM.1.len
  have H3 : Hid (∀ W, Below w.heap.size w W → Calls Tryz.prog 83 #[.string nm, .agg #[vb, vs], .int .i64 16] W fun e w' => e = .returned (.bool (pfOk nm L S 16)) ∧ Below W.heap.size W w') := fun W hW => by
    obtain ⟨_, ⟨g, k, h2⟩, h3, ⟨g4, k4, h4⟩, _⟩ := hM.later hW
    exact ProofOk_any nm vb vs g k g4 k4 L S 16 W hnm h2 h3 h4 (hT.later hW)
  have H4 : Hid (∀ W, Below w.heap.size w W → 0 ≤ K ∧ K ≤ 2 → Calls Tryz.prog 84 #[.agg #[vb, vs, vt, .int .i64 x.h, .int .i64 x.e, .string x.r, .string x.p, .int .i64 xa, v1, v2, v3, vst], .int .i64 K] W fun e w' => e = .returned (.bool (lvF S T K)) ∧ Below W.heap.size W w') := fun W hW hK => by
    obtain ⟨_, ⟨a1, c1, e1⟩, _, _, ⟨a2, c2, e2⟩, ⟨a3, c3, e3⟩, ⟨a4, c4, e4⟩, ⟨a5, c5, e5⟩, _⟩ := hM.shapes
    obtain ⟨_, _, _, h4, h5, _⟩ := hM.later hW
    exact levelsFit_any vb vs vt v1 v2 v3 vst x xa K S T W h4 h5 ⟨⟨a1, _, c1, e1⟩, ⟨a2, _, c2, e2⟩, ⟨a3, _, c3, e3⟩, ⟨a4, _, c4, e4⟩, ⟨a5, _, c5, e5⟩⟩ hK
  have H5 : Hid (∀ W, Below w.heap.size w W → Calls Tryz.prog 85 #[vst] W fun e w' => e = .returned (.bool (ascS G)) ∧ Below W.heap.size W w') := fun W hW => by
    obtain ⟨_, _, _, _, _, _, _, _, ⟨g, k, h9⟩⟩ := hM.later hW
    exact stampsAscend_any vst g k G W h9
  have HK : Hid (tkB R K N = true → 0 ≤ K ∧ K ≤ 2) := fun h => by
    unfold tkB at h
    simp only [Bool.and_eq_true, decide_eq_true_eq] at h
    exact h.2.2.1
  obtain ⟨xh, xe, xr, xp⟩ := x
  simp only at H4 ⊢
  have HX : Hid (Below w.heap.size w (w.alloc (.cells #[vr, .int .i64 K, .int .i64 N, .int .i64 hs, .string nm, .int .i64 ep, vb, vs, vt, .int .i64 xh, .int .i64 xe, .string xr, .string xp, .int .i64 xa, v1, v2, v3, vst] 77)) ∧ Box 77 (w.alloc (.cells #[vr, .int .i64 K, .int .i64 N, .int .i64 hs, .string nm, .int .i64 ep, vb, vs, vt, .int .i64 xh, .int .i64 xe, .string xr, .string xp, .int .i64 xa, v1, v2, v3, vst] 77)) w.heap.size [vr, .int .i64 K, .int .i64 N, .int .i64 hs, .string nm, .int .i64 ep, vb, vs, vt, .int .i64 xh, .int .i64 xe, .string xr, .string xp, .int .i64 xa, v1, v2, v3, vst]) := ⟨below_alloc _ _, Box.new _ _ _⟩
  obtain ⟨⟨ar, cr, rfl⟩, ⟨ab, cb, rfl⟩, ⟨as2, cs, rfl⟩, ⟨at2, ct, rfl⟩, ⟨a1, c1, rfl⟩, ⟨a2, c2, rfl⟩, ⟨a3, c3, rfl⟩, ⟨ag, cg, rfl⟩, lR, lS, lT, lG⟩ := hM.shapes
  unfold fmB
  generalize hb1 : tkB R K N = b1 at *
  generalize decide (0 ≤ hs ∧ hs < (R.length : Int)) = b2 at *
  generalize pfOk nm L S 16 = b3 at *
  generalize lvF S T K = b4 at *
  generalize ascS G = b5 at *
  clear hM hT hb1
  generalize R.length = nr at *
  generalize L.length = nb at *
  generalize S.length = ns at *
  generalize T.length = nt at *
  generalize o.length = n1 at *
  generalize s.length = n2 at *
  generalize d.length = n3 at *
  generalize G.length = ng at *
  go_enter Tryz.func57, Tryz.ntmps57
  go_wp2_with fail
  refine (H1.out _ HX.out.1).mono ?_
  rintro e w1 ⟨rfl, hb1⟩
  have HX1 : Hid (Below w.heap.size w w1 ∧ Box 77 w1 w.heap.size [.slice ar nr cr, .int .i64 K, .int .i64 N, .int .i64 hs, .string nm, .int .i64 ep, .slice ab nb cb, .slice as2 ns cs, .slice at2 nt ct, .int .i64 xh, .int .i64 xe, .string xr, .string xp, .int .i64 xa, .slice a1 n1 c1, .slice a2 n2 c2, .slice a3 n3 c3, .slice ag ng cg]) := ⟨HX.out.1.trans (hb1.mono HX.out.1.size), HX.out.2.later hb1⟩
  clear hb1 HX H1
  cases b1
  · clear H2 H3 H4 H5 HK
    go_wp2
    go_ret
    exact ⟨by simp, HX1.out.1⟩
  have hK := HK.out rfl
  obtain ⟨z0, z1, z2, z3, z4, z5, z6, z7, z8, z9, z10, z11, z12, z13, z14, z15, z16, z17⟩ := HX1.out.2.all18
  go_wp2_with fail
  refine (H2.out _ HX1.out.1).mono ?_
  rintro e w2 ⟨rfl, hb2⟩
  have HX2 : Hid (Below w.heap.size w w2 ∧ Box 77 w2 w.heap.size [.slice ar nr cr, .int .i64 K, .int .i64 N, .int .i64 hs, .string nm, .int .i64 ep, .slice ab nb cb, .slice as2 ns cs, .slice at2 nt ct, .int .i64 xh, .int .i64 xe, .string xr, .string xp, .int .i64 xa, .slice a1 n1 c1, .slice a2 n2 c2, .slice a3 n3 c3, .slice ag ng cg]) := ⟨HX1.out.1.trans (hb2.mono HX1.out.1.size), HX1.out.2.later hb2⟩
  clear hb2 HX1 H2 z0 z1 z2 z3 z4 z5 z6 z7 z8 z9 z10 z11 z12 z13 z14 z15 z16 z17
  cases b2
  · clear H3 H4 H5
    go_wp2
    go_ret
    exact ⟨by simp, HX2.out.1⟩
  obtain ⟨z0, z1, z2, z3, z4, z5, z6, z7, z8, z9, z10, z11, z12, z13, z14, z15, z16, z17⟩ := HX2.out.2.all18
  go_wp2_with fail
  refine (H3.out _ HX2.out.1).mono ?_
  rintro e w3 ⟨rfl, hb3⟩
  have HX3 : Hid (Below w.heap.size w w3 ∧ Box 77 w3 w.heap.size [.slice ar nr cr, .int .i64 K, .int .i64 N, .int .i64 hs, .string nm, .int .i64 ep, .slice ab nb cb, .slice as2 ns cs, .slice at2 nt ct, .int .i64 xh, .int .i64 xe, .string xr, .string xp, .int .i64 xa, .slice a1 n1 c1, .slice a2 n2 c2, .slice a3 n3 c3, .slice ag ng cg]) := ⟨HX2.out.1.trans (hb3.mono HX2.out.1.size), HX2.out.2.later hb3⟩
  clear hb3 HX2 H3 z0 z1 z2 z3 z4 z5 z6 z7 z8 z9 z10 z11 z12 z13 z14 z15 z16 z17
  cases b3
  · clear H4 H5
    go_wp2
    go_ret
    exact ⟨by simp, HX3.out.1⟩
  obtain ⟨z0, z1, z2, z3, z4, z5, z6, z7, z8, z9, z10, z11, z12, z13, z14, z15, z16, z17⟩ := HX3.out.2.all18
  go_wp2_with fail
  refine (H4.out _ HX3.out.1 hK).mono ?_
  rintro e w4 ⟨rfl, hb4⟩
  have HX4 : Hid (Below w.heap.size w w4 ∧ Box 77 w4 w.heap.size [.slice ar nr cr, .int .i64 K, .int .i64 N, .int .i64 hs, .string nm, .int .i64 ep, .slice ab nb cb, .slice as2 ns cs, .slice at2 nt ct, .int .i64 xh, .int .i64 xe, .string xr, .string xp, .int .i64 xa, .slice a1 n1 c1, .slice a2 n2 c2, .slice a3 n3 c3, .slice ag ng cg]) := ⟨HX3.out.1.trans (hb4.mono HX3.out.1.size), HX3.out.2.later hb4⟩
  clear hb4 HX3 H4 z0 z1 z2 z3 z4 z5 z6 z7 z8 z9 z10 z11 z12 z13 z14 z15 z16 z17
  cases b4
  · clear H5
    go_wp2
    go_ret
    exact ⟨by simp, HX4.out.1⟩
  obtain ⟨z0, z1, z2, z3, z4, z5, z6, z7, z8, z9, z10, z11, z12, z13, z14, z15, z16, z17⟩ := HX4.out.2.all18
  clear z0 z1 z2 z3 z4 z5 z6 z7 z8 z9 z10 z11 z12 z13 z14 z15 z16
  go_wp2_with fail
  refine (H5.out _ HX4.out.1).mono ?_
  rintro e w5 ⟨rfl, hb5⟩
  have HB5 : Hid (Below w.heap.size w w5) := HX4.out.1.trans (hb5.mono HX4.out.1.size)
  clear hb5 HX4 H5 z17
  go_wp2
  go_ret
  exact ⟨by simp, HB5.out⟩

set_option maxRecDepth 100000 in
set_option maxHeartbeats 2000000 in
theorem headPasses_any (vr vb vs vt v1 v2 v3 vst : Value) (K N hs ep : Int) (nm : ByteArray) (x : Hd) (xa : Int) (R : List ByteArray) (L : List Le) (S T o s d : List ByteArray) (G : List Stm) (w : World) (hM : AkS w vr vb vs vt v1 v2 v3 vst R L S T o s d G) :
    Calls Tryz.prog 58 #[.agg #[vr, .int .i64 K, .int .i64 N, .int .i64 hs, .string nm, .int .i64 ep, vb, vs, vt, .int .i64 x.h, .int .i64 x.e, .string x.r, .string x.p, .int .i64 xa, v1, v2, v3, vst]] w fun e w' => e = .returned (.bool (decide (x.h = hs ∧ x.e = ep))) ∧ Below w.heap.size w w' := by
  obtain ⟨xh, xe, xr, xp⟩ := x
  simp only
  have HX : Hid (Below w.heap.size w (w.alloc (.cells #[vr, .int .i64 K, .int .i64 N, .int .i64 hs, .string nm, .int .i64 ep, vb, vs, vt, .int .i64 xh, .int .i64 xe, .string xr, .string xp, .int .i64 xa, v1, v2, v3, vst] 77)) ∧ Box 77 (w.alloc (.cells #[vr, .int .i64 K, .int .i64 N, .int .i64 hs, .string nm, .int .i64 ep, vb, vs, vt, .int .i64 xh, .int .i64 xe, .string xr, .string xp, .int .i64 xa, v1, v2, v3, vst] 77)) w.heap.size [vr, .int .i64 K, .int .i64 N, .int .i64 hs, .string nm, .int .i64 ep, vb, vs, vt, .int .i64 xh, .int .i64 xe, .string xr, .string xp, .int .i64 xa, v1, v2, v3, vst]) := ⟨below_alloc _ _, Box.new _ _ _⟩
  obtain ⟨⟨ar, cr, rfl⟩, ⟨ab, cb, rfl⟩, ⟨as2, cs, rfl⟩, ⟨at2, ct, rfl⟩, ⟨a1, c1, rfl⟩, ⟨a2, c2, rfl⟩, ⟨a3, c3, rfl⟩, ⟨ag, cg, rfl⟩, lR, lS, lT, lG⟩ := hM.shapes
  clear hM
  generalize R.length = nr at *
  generalize L.length = nb at *
  generalize S.length = ns at *
  generalize T.length = nt at *
  generalize o.length = n1 at *
  generalize s.length = n2 at *
  generalize d.length = n3 at *
  generalize G.length = ng at *
  obtain ⟨z0, z1, z2, z3, z4, z5, z6, z7, z8, z9, z10, z11, z12, z13, z14, z15, z16, z17⟩ := HX.out.2.all18
  have HB : Hid (∀ o, Below w.heap.size w ((w.alloc (.cells #[.slice ar nr cr, .int .i64 K, .int .i64 N, .int .i64 hs, .string nm, .int .i64 ep, .slice ab nb cb, .slice as2 ns cs, .slice at2 nt ct, .int .i64 xh, .int .i64 xe, .string xr, .string xp, .int .i64 xa, .slice a1 n1 c1, .slice a2 n2 c2, .slice a3 n3 c3, .slice ag ng cg] 77)).alloc o)) := fun o => HX.out.1.alloc HX.out.1.size o
  by_cases h1 : xh = hs
  · by_cases h2 : xe = ep
    · rw [decide_eq_true ⟨h1, h2⟩]
      have q1 : (xh == hs) = true := by simpa using h1
      have q2 : (xe == ep) = true := by simpa using h2
      clear h1 h2
      go_enter Tryz.func58, Tryz.ntmps58
      go_wp2
      go_ret
      exact ⟨by simp, HB.out _⟩
    · rw [decide_eq_false (fun h => h2 h.2)]
      have q1 : (xh == hs) = true := by simpa using h1
      have q2 : (xe == ep) = false := by simpa using h2
      clear h1 h2
      go_enter Tryz.func58, Tryz.ntmps58
      go_wp2
      go_ret
      exact ⟨by simp, HB.out _⟩
  · rw [decide_eq_false (fun h => h1 h.1)]
    have q1 : (xh == hs) = false := by simpa using h1
    clear h1
    go_enter Tryz.func58, Tryz.ntmps58
    go_wp2
    go_ret
    exact ⟨by simp, HB.out _⟩

set_option maxRecDepth 100000 in
set_option maxHeartbeats 2000000 in
theorem sealPasses_any (vr vb vs vt v1 v2 v3 vst : Value) (K N hs ep : Int) (nm : ByteArray) (x : Hd) (xa : Int) (R : List ByteArray) (L : List Le) (S T o s d : List ByteArray) (G : List Stm) (w : World) (hM : AkS w vr vb vs vt v1 v2 v3 vst R L S T o s d G) (hT : Tb w) (m : Nat) (hm : m < R.length) (hhs : hs = (m : Int)) :
    Calls Tryz.prog 59 #[.agg #[vr, .int .i64 K, .int .i64 N, .int .i64 hs, .string nm, .int .i64 ep, vb, vs, vt, .int .i64 x.h, .int .i64 x.e, .string x.r, .string x.p, .int .i64 xa, v1, v2, v3, vst]] w fun e w' => e = .returned (.bool (slR R[m] x xa o s d)) ∧ Below w.heap.size w w' := by
  have H1 : Hid (∀ W, Below w.heap.size w W → Calls Tryz.prog 86 #[.string R[m], .agg #[.int .i64 x.h, .int .i64 x.e, .string x.r, .string x.p, .int .i64 xa, v1, v2, v3]] W fun e w' => e = .returned (.bool (slR R[m] x xa o s d)) ∧ Below W.heap.size W w') := fun W hW => by
    obtain ⟨_, _, _, _, _, ⟨g1, k1, h1⟩, ⟨g2, k2, h2⟩, ⟨g3, k3, h3⟩, _⟩ := hM.later hW
    exact SealOk_any _ x xa v1 v2 v3 g1 k1 g2 k2 g3 k3 o s d W h1 h2 h3 (hT.later hW)
  obtain ⟨g, k, a0, c0, e0, l0, f0, hc⟩ := hM.1
  have hrm := hc m hm
  have ea := f0 (by omega)
  subst ea
  have hgl : g < w.heap.size := lt_of_cell hrm
  obtain ⟨xh, xe, xr, xp⟩ := x
  simp only at H1 ⊢
  have HX : Hid (Below w.heap.size w (w.alloc (.cells #[vr, .int .i64 K, .int .i64 N, .int .i64 hs, .string nm, .int .i64 ep, vb, vs, vt, .int .i64 xh, .int .i64 xe, .string xr, .string xp, .int .i64 xa, v1, v2, v3, vst] 77)) ∧ Box 77 (w.alloc (.cells #[vr, .int .i64 K, .int .i64 N, .int .i64 hs, .string nm, .int .i64 ep, vb, vs, vt, .int .i64 xh, .int .i64 xe, .string xr, .string xp, .int .i64 xa, v1, v2, v3, vst] 77)) w.heap.size [vr, .int .i64 K, .int .i64 N, .int .i64 hs, .string nm, .int .i64 ep, vb, vs, vt, .int .i64 xh, .int .i64 xe, .string xr, .string xp, .int .i64 xa, v1, v2, v3, vst]) := ⟨below_alloc _ _, Box.new _ _ _⟩
  obtain ⟨⟨ar, cr, rfl⟩, ⟨ab, cb, rfl⟩, ⟨as2, cs, rfl⟩, ⟨at2, ct, rfl⟩, ⟨a1, c1, rfl⟩, ⟨a2, c2, rfl⟩, ⟨a3, c3, rfl⟩, ⟨ag, cg, rfl⟩, lR, lS, lT, lG⟩ := hM.shapes
  simp only [Value.slice.injEq, true_and] at e0
  obtain ⟨rfl, rfl⟩ := e0
  have hrm2 := (HX.out.1.cell (p := ⟨g, k + m, none⟩) hgl).trans hrm
  clear hM hT hrm hc f0
  generalize slR R[m] ⟨xh, xe, xr, xp⟩ xa o s d = b at *
  generalize R[m] = RM at *
  subst hhs
  generalize R.length = nr at *
  generalize L.length = nb at *
  generalize S.length = ns at *
  generalize T.length = nt at *
  generalize o.length = n1 at *
  generalize s.length = n2 at *
  generalize d.length = n3 at *
  generalize G.length = ng at *
  obtain ⟨z0, z1, z2, z3, z4, z5, z6, z7, z8, z9, z10, z11, z12, z13, z14, z15, z16, z17⟩ := HX.out.2.all18
  have i1 : (m : Int) < (nr : Int) := by omega
  have i2 : (0 : Int) ≤ (m : Int) := by omega
  go_enter Tryz.func59, Tryz.ntmps59
  have HK : Hid (∀ W, Below (w.alloc (.cells #[.slice (some ⟨g, k, none⟩) nr cr, .int .i64 K, .int .i64 N, .int .i64 (m : Int), .string nm, .int .i64 ep, .slice ab nb cb, .slice as2 ns cs, .slice at2 nt ct, .int .i64 xh, .int .i64 xe, .string xr, .string xp, .int .i64 xa, .slice a1 n1 c1, .slice a2 n2 c2, .slice a3 n3 c3, .slice ag ng cg] 77)).heap.size (w.alloc (.cells #[.slice (some ⟨g, k, none⟩) nr cr, .int .i64 K, .int .i64 N, .int .i64 (m : Int), .string nm, .int .i64 ep, .slice ab nb cb, .slice as2 ns cs, .slice at2 nt ct, .int .i64 xh, .int .i64 xe, .string xr, .string xp, .int .i64 xa, .slice a1 n1 c1, .slice a2 n2 c2, .slice a3 n3 c3, .slice ag ng cg] 77)) W → W.cell? ⟨g, k + m, none⟩ = some (.string RM) ∧ W.cell? ⟨w.heap.size, 0, none⟩ = some (.slice (some ⟨g, k, none⟩) nr cr) ∧ W.cell? ⟨w.heap.size, 1, none⟩ = some (.int .i64 K) ∧ W.cell? ⟨w.heap.size, 2, none⟩ = some (.int .i64 N) ∧ W.cell? ⟨w.heap.size, 3, none⟩ = some (.int .i64 (m : Int)) ∧ W.cell? ⟨w.heap.size, 4, none⟩ = some (.string nm) ∧ W.cell? ⟨w.heap.size, 5, none⟩ = some (.int .i64 ep) ∧ W.cell? ⟨w.heap.size, 6, none⟩ = some (.slice ab nb cb) ∧ W.cell? ⟨w.heap.size, 7, none⟩ = some (.slice as2 ns cs) ∧ W.cell? ⟨w.heap.size, 8, none⟩ = some (.slice at2 nt ct) ∧ W.cell? ⟨w.heap.size, 9, none⟩ = some (.int .i64 xh) ∧ W.cell? ⟨w.heap.size, 10, none⟩ = some (.int .i64 xe) ∧ W.cell? ⟨w.heap.size, 11, none⟩ = some (.string xr) ∧ W.cell? ⟨w.heap.size, 12, none⟩ = some (.string xp) ∧ W.cell? ⟨w.heap.size, 13, none⟩ = some (.int .i64 xa) ∧ W.cell? ⟨w.heap.size, 14, none⟩ = some (.slice a1 n1 c1) ∧ W.cell? ⟨w.heap.size, 15, none⟩ = some (.slice a2 n2 c2) ∧ W.cell? ⟨w.heap.size, 16, none⟩ = some (.slice a3 n3 c3) ∧ W.cell? ⟨w.heap.size, 17, none⟩ = some (.slice ag ng cg)) := fun W hW => ⟨cell_up hrm2 hW, (HX.out.2.later hW).all18⟩
  have hb0 : Below (w.alloc (.cells #[.slice (some ⟨g, k, none⟩) nr cr, .int .i64 K, .int .i64 N, .int .i64 (m : Int), .string nm, .int .i64 ep, .slice ab nb cb, .slice as2 ns cs, .slice at2 nt ct, .int .i64 xh, .int .i64 xe, .string xr, .string xp, .int .i64 xa, .slice a1 n1 c1, .slice a2 n2 c2, .slice a3 n3 c3, .slice ag ng cg] 77)).heap.size (w.alloc (.cells #[.slice (some ⟨g, k, none⟩) nr cr, .int .i64 K, .int .i64 N, .int .i64 (m : Int), .string nm, .int .i64 ep, .slice ab nb cb, .slice as2 ns cs, .slice at2 nt ct, .int .i64 xh, .int .i64 xe, .string xr, .string xp, .int .i64 xa, .slice a1 n1 c1, .slice a2 n2 c2, .slice a3 n3 c3, .slice ag ng cg] 77)) (w.alloc (.cells #[.slice (some ⟨g, k, none⟩) nr cr, .int .i64 K, .int .i64 N, .int .i64 (m : Int), .string nm, .int .i64 ep, .slice ab nb cb, .slice as2 ns cs, .slice at2 nt ct, .int .i64 xh, .int .i64 xe, .string xr, .string xp, .int .i64 xa, .slice a1 n1 c1, .slice a2 n2 c2, .slice a3 n3 c3, .slice ag ng cg] 77)).drew := (Below.refl _ _).drew
  have HB : Hid (∀ W, Below (w.alloc (.cells #[.slice (some ⟨g, k, none⟩) nr cr, .int .i64 K, .int .i64 N, .int .i64 (m : Int), .string nm, .int .i64 ep, .slice ab nb cb, .slice as2 ns cs, .slice at2 nt ct, .int .i64 xh, .int .i64 xe, .string xr, .string xp, .int .i64 xa, .slice a1 n1 c1, .slice a2 n2 c2, .slice a3 n3 c3, .slice ag ng cg] 77)).heap.size (w.alloc (.cells #[.slice (some ⟨g, k, none⟩) nr cr, .int .i64 K, .int .i64 N, .int .i64 (m : Int), .string nm, .int .i64 ep, .slice ab nb cb, .slice as2 ns cs, .slice at2 nt ct, .int .i64 xh, .int .i64 xe, .string xr, .string xp, .int .i64 xa, .slice a1 n1 c1, .slice a2 n2 c2, .slice a3 n3 c3, .slice ag ng cg] 77)) W → Below w.heap.size w W) := fun W hW => HX.out.1.trans (hW.mono HX.out.1.size)
  go_wp2
  go_region_held3 (fun W => W.cell? ⟨g, k + m, none⟩ = some (.string RM) ∧ W.cell? ⟨w.heap.size, 0, none⟩ = some (.slice (some ⟨g, k, none⟩) nr cr) ∧ W.cell? ⟨w.heap.size, 1, none⟩ = some (.int .i64 K) ∧ W.cell? ⟨w.heap.size, 2, none⟩ = some (.int .i64 N) ∧ W.cell? ⟨w.heap.size, 3, none⟩ = some (.int .i64 (m : Int)) ∧ W.cell? ⟨w.heap.size, 4, none⟩ = some (.string nm) ∧ W.cell? ⟨w.heap.size, 5, none⟩ = some (.int .i64 ep) ∧ W.cell? ⟨w.heap.size, 6, none⟩ = some (.slice ab nb cb) ∧ W.cell? ⟨w.heap.size, 7, none⟩ = some (.slice as2 ns cs) ∧ W.cell? ⟨w.heap.size, 8, none⟩ = some (.slice at2 nt ct) ∧ W.cell? ⟨w.heap.size, 9, none⟩ = some (.int .i64 xh) ∧ W.cell? ⟨w.heap.size, 10, none⟩ = some (.int .i64 xe) ∧ W.cell? ⟨w.heap.size, 11, none⟩ = some (.string xr) ∧ W.cell? ⟨w.heap.size, 12, none⟩ = some (.string xp) ∧ W.cell? ⟨w.heap.size, 13, none⟩ = some (.int .i64 xa) ∧ W.cell? ⟨w.heap.size, 14, none⟩ = some (.slice a1 n1 c1) ∧ W.cell? ⟨w.heap.size, 15, none⟩ = some (.slice a2 n2 c2) ∧ W.cell? ⟨w.heap.size, 16, none⟩ = some (.slice a3 n3 c3) ∧ W.cell? ⟨w.heap.size, 17, none⟩ = some (.slice ag ng cg)) (first | (go_keep; done) | exact HK.out _ hb0) (first | (go_at_call 86; refine (H1.out _ (HB.out _ hb0)).mono ?_; rintro e w1 ⟨rfl, hb1⟩; have hb0 := hb0.trans (hb1.mono hb0.size)) | fail)
  have HB1 : Hid (Below w.heap.size w w1) := HB.out _ hb0
  try rename_i hHeld
  try clear hHeld
  clear hb0 hb1 HX H1 HK HB z0 z1 z2 z3 z4 z5 z6 z7 z8 z9 z10 z11 z12 z13 z14 z15 z16 z17
  go_wp2
  go_ret
  exact ⟨rfl, HB1.out⟩

end Go.Proofs.YtgkfelhjbeegaaaGreatDoor
