/-
  Texts laid together: Jd, Je, Tdk.
-/
import Derived.Test.YtklpanjedolkdaaGreatDoorPkELS16
import Derived.Test.YtklpanjedolkdaaGreatDoorPkELS14
import Derived.Test.YtklpanjedolkdaaGreatDoorPkELS2
/-
  What the laws' own helpers do with servers: compared.
-/
namespace Go.Proofs.YtklpanjedolkdaaGreatDoor
open Go.RowKit Go.BigFrame Go.Sort
set_option linter.unusedVariables false
set_option linter.unusedSimpArgs false

theorem sizeReady : (Tryz.prog.info? 39).map (·.size) = some 3 := by kernel_rfl
set_option maxRecDepth 100000 in
set_option maxHeartbeats 400000 in
theorem toReady_any (a b c : Int) (w : World) : Calls Tryz.prog 41 #[.agg #[.int .i64 a, .int .i64 b, .int .i64 c]] w fun e w' => e = .returned (.agg #[.int .i64 a, .int .i64 b, .int .i64 c]) ∧ Below w.heap.size w w' := by
  go_enter Tryz.func41, Tryz.ntmps41
  go_wp2
  refine ret_rec 2 (w.heap.size + 1) 39 [.int .i64 a, .int .i64 b, .int .i64 c] _ rfl rfl rfl Tryz.underlying39 rfl sizeReady ?_ ?_
  · exact World.rangeAt_alloc (range_at (by simp) (range_new _ [.int .i64 a, .int .i64 b, .int .i64 c] _)) _
  · exact ⟨rfl, (((Below.refl _ _).alloc (Nat.le_refl _) _).alloc (by simp) _).alloc (by simp; omega) _⟩
theorem eqReady_yes (a b c : Int) (w : World) : Calls Tryz.prog 47 #[.agg #[.int .i64 a, .int .i64 b, .int .i64 c], .agg #[.int .i64 a, .int .i64 b, .int .i64 c]] w fun e w' => e = .returned (.bool true) ∧ Below w.heap.size w w' := by
  have hb : Below w.heap.size w ((w.alloc (.cells #[.int .i64 a, .int .i64 b, .int .i64 c] 39)).alloc (.cells #[.int .i64 a, .int .i64 b, .int .i64 c] 39)) := ((Below.refl _ _).alloc (Nat.le_refl _) _).alloc (by simp) _
  go_enter Tryz.func47, Tryz.ntmps47
  go_wp2
  go_ret
  exact ⟨rfl, hb⟩

set_option maxRecDepth 100000 in
set_option maxHeartbeats 2000000 in
theorem eqServer_yes (n : Sn) (vd vv vt va ud uv ut ua : Value) (L : Sr) (w : World) (hM : SvS w vd vv vt va L) (hN : SvS w ud uv ut ua L) :
    Calls Tryz.prog 12 #[.agg #[.int .i64 n.a, .int .i64 n.k, .bool n.u, vd, .int .i64 n.e, vv, vt, va, .int .i64 n.r0, .int .i64 n.r1, .int .i64 n.r2], .agg #[.int .i64 n.a, .int .i64 n.k, .bool n.u, ud, .int .i64 n.e, uv, ut, ua, .int .i64 n.r0, .int .i64 n.r1, .int .i64 n.r2]] w fun e w' => e = .returned (.bool true) ∧ Below w.heap.size w w' := by
  have H1 : Hid (∀ W, Below w.heap.size w W → Calls Tryz.prog 17 #[.agg #[vd], .agg #[ud]] W fun e w' => e = .returned (.bool true) ∧ Below W.heap.size W w') := fun W hW => by
    obtain ⟨⟨g1, o1, h1⟩, _⟩ := hM.later hW
    obtain ⟨⟨g2, o2, h2⟩, _⟩ := hN.later hW
    exact eqDisk_yes vd ud g1 o1 g2 o2 L.F W h1 h2
  have H2 : Hid (∀ W, Below w.heap.size w W → Calls Tryz.prog 45 #[vv, uv] W fun e w' => e = .returned (.bool true) ∧ Below W.heap.size W w') := fun W hW => by
    obtain ⟨_, ⟨g1, o1, h1⟩, _⟩ := hM.later hW
    obtain ⟨_, ⟨g2, o2, h2⟩, _⟩ := hN.later hW
    exact eqLeafSS_yes vv uv g1 o1 g2 o2 L.P W h1 h2
  have H3 : Hid (∀ W, Below w.heap.size w W → Calls Tryz.prog 31 #[vt, ut] W fun e w' => e = .returned (.bool true) ∧ Below W.heap.size W w') := fun W hW => by
    obtain ⟨_, _, ⟨g1, o1, h1⟩, _⟩ := hM.later hW
    obtain ⟨_, _, ⟨g2, o2, h2⟩, _⟩ := hN.later hW
    exact eqIntS_yes vt ut g1 o1 g2 o2 L.I W h1 h2
  have H4 : Hid (∀ W, Below w.heap.size w W → Calls Tryz.prog 46 #[va, ua] W fun e w' => e = .returned (.bool true) ∧ Below W.heap.size W w') := fun W hW => by
    obtain ⟨_, _, _, ⟨g1, o1, h1⟩⟩ := hM.later hW
    obtain ⟨_, _, _, ⟨g2, o2, h2⟩⟩ := hN.later hW
    exact eqChangeS_yes va ua g1 o1 g2 o2 L.U W h1 h2
  obtain ⟨a, k, u, e, r0, r1, r2⟩ := n
  simp only
  have H5 : Hid (∀ W, Calls Tryz.prog 47 #[.agg #[.int .i64 r0, .int .i64 r1, .int .i64 r2], .agg #[.int .i64 r0, .int .i64 r1, .int .i64 r2]] W fun e w' => e = .returned (.bool true) ∧ Below W.heap.size W w') := fun W => eqReady_yes r0 r1 r2 W
  obtain ⟨⟨xd, xe, rfl⟩, ⟨xv, xw, rfl⟩, ⟨xt, xu, rfl⟩, ⟨xa, xb, rfl⟩⟩ := hM.shapes
  obtain ⟨⟨yd, ye, rfl⟩, ⟨yv, yw, rfl⟩, ⟨yt, yu, rfl⟩, ⟨ya, yb, rfl⟩⟩ := hN.shapes
  clear hM hN
  generalize L.F.length = nd at *
  generalize L.P.length = nv at *
  generalize L.I.length = nt at *
  generalize L.U.length = na at *
  have HX : Hid (Below w.heap.size w ((w.alloc (.cells #[.int .i64 a, .int .i64 k, .bool u, .slice xd nd xe, .int .i64 e, .slice xv nv xw, .slice xt nt xu, .slice xa na xb, .int .i64 r0, .int .i64 r1, .int .i64 r2] 41)).alloc (.cells #[.int .i64 a, .int .i64 k, .bool u, .slice yd nd ye, .int .i64 e, .slice yv nv yw, .slice yt nt yu, .slice ya na yb, .int .i64 r0, .int .i64 r1, .int .i64 r2] 41)) ∧ Box 41 ((w.alloc (.cells #[.int .i64 a, .int .i64 k, .bool u, .slice xd nd xe, .int .i64 e, .slice xv nv xw, .slice xt nt xu, .slice xa na xb, .int .i64 r0, .int .i64 r1, .int .i64 r2] 41)).alloc (.cells #[.int .i64 a, .int .i64 k, .bool u, .slice yd nd ye, .int .i64 e, .slice yv nv yw, .slice yt nt yu, .slice ya na yb, .int .i64 r0, .int .i64 r1, .int .i64 r2] 41)) w.heap.size [.int .i64 a, .int .i64 k, .bool u, .slice xd nd xe, .int .i64 e, .slice xv nv xw, .slice xt nt xu, .slice xa na xb, .int .i64 r0, .int .i64 r1, .int .i64 r2] ∧ Box 41 ((w.alloc (.cells #[.int .i64 a, .int .i64 k, .bool u, .slice xd nd xe, .int .i64 e, .slice xv nv xw, .slice xt nt xu, .slice xa na xb, .int .i64 r0, .int .i64 r1, .int .i64 r2] 41)).alloc (.cells #[.int .i64 a, .int .i64 k, .bool u, .slice yd nd ye, .int .i64 e, .slice yv nv yw, .slice yt nt yu, .slice ya na yb, .int .i64 r0, .int .i64 r1, .int .i64 r2] 41)) (w.heap.size + 1) [.int .i64 a, .int .i64 k, .bool u, .slice yd nd ye, .int .i64 e, .slice yv nv yw, .slice yt nt yu, .slice ya na yb, .int .i64 r0, .int .i64 r1, .int .i64 r2]) := ⟨(below_alloc _ _).alloc (by simp) _, (Box.new _ w _).later (below_alloc _ _), alloc_fst _ _ (by simp)⟩
  go_enter Tryz.func12, Tryz.ntmps12
  go_wp2_with fail
  refine (H1.out _ HX.out.1).mono ?_
  rintro e1 w1 ⟨rfl, hb1⟩
  have HX1 : Hid (Below w.heap.size w w1 ∧ Box 41 w1 w.heap.size [.int .i64 a, .int .i64 k, .bool u, .slice xd nd xe, .int .i64 e, .slice xv nv xw, .slice xt nt xu, .slice xa na xb, .int .i64 r0, .int .i64 r1, .int .i64 r2] ∧ Box 41 w1 (w.heap.size + 1) [.int .i64 a, .int .i64 k, .bool u, .slice yd nd ye, .int .i64 e, .slice yv nv yw, .slice yt nt yu, .slice ya na yb, .int .i64 r0, .int .i64 r1, .int .i64 r2]) := ⟨HX.out.1.trans (hb1.mono HX.out.1.size), HX.out.2.1.later hb1, HX.out.2.2.later hb1⟩
  clear hb1 HX H1
  obtain ⟨z0, z1, z2, z3, z4, z5, z6, z7, z8, z9, z10⟩ := HX1.out.2.1.all11
  obtain ⟨y0, y1, y2, y3, y4, y5, y6, y7, y8, y9, y10⟩ := HX1.out.2.2.all11
  go_wp2_with fail
  refine (H2.out _ HX1.out.1).mono ?_
  rintro e2 w2 ⟨rfl, hb2⟩
  have HX2 : Hid (Below w.heap.size w w2 ∧ Box 41 w2 w.heap.size [.int .i64 a, .int .i64 k, .bool u, .slice xd nd xe, .int .i64 e, .slice xv nv xw, .slice xt nt xu, .slice xa na xb, .int .i64 r0, .int .i64 r1, .int .i64 r2] ∧ Box 41 w2 (w.heap.size + 1) [.int .i64 a, .int .i64 k, .bool u, .slice yd nd ye, .int .i64 e, .slice yv nv yw, .slice yt nt yu, .slice ya na yb, .int .i64 r0, .int .i64 r1, .int .i64 r2]) := ⟨HX1.out.1.trans (hb2.mono HX1.out.1.size), HX1.out.2.1.later hb2, HX1.out.2.2.later hb2⟩
  clear hb2 HX1 H2 z0 z1 z2 z3 z4 z5 z6 z7 z8 z9 z10 y0 y1 y2 y3 y4 y5 y6 y7 y8 y9 y10
  obtain ⟨z0, z1, z2, z3, z4, z5, z6, z7, z8, z9, z10⟩ := HX2.out.2.1.all11
  obtain ⟨y0, y1, y2, y3, y4, y5, y6, y7, y8, y9, y10⟩ := HX2.out.2.2.all11
  go_wp2_with fail
  refine (H3.out _ HX2.out.1).mono ?_
  rintro e3 w3 ⟨rfl, hb3⟩
  have HX3 : Hid (Below w.heap.size w w3 ∧ Box 41 w3 w.heap.size [.int .i64 a, .int .i64 k, .bool u, .slice xd nd xe, .int .i64 e, .slice xv nv xw, .slice xt nt xu, .slice xa na xb, .int .i64 r0, .int .i64 r1, .int .i64 r2] ∧ Box 41 w3 (w.heap.size + 1) [.int .i64 a, .int .i64 k, .bool u, .slice yd nd ye, .int .i64 e, .slice yv nv yw, .slice yt nt yu, .slice ya na yb, .int .i64 r0, .int .i64 r1, .int .i64 r2]) := ⟨HX2.out.1.trans (hb3.mono HX2.out.1.size), HX2.out.2.1.later hb3, HX2.out.2.2.later hb3⟩
  clear hb3 HX2 H3 z0 z1 z2 z3 z4 z5 z6 z7 z8 z9 z10 y0 y1 y2 y3 y4 y5 y6 y7 y8 y9 y10
  obtain ⟨z0, z1, z2, z3, z4, z5, z6, z7, z8, z9, z10⟩ := HX3.out.2.1.all11
  obtain ⟨y0, y1, y2, y3, y4, y5, y6, y7, y8, y9, y10⟩ := HX3.out.2.2.all11
  go_wp2_with fail
  refine (H4.out _ HX3.out.1).mono ?_
  rintro e4 w4 ⟨rfl, hb4⟩
  have HX4 : Hid (Below w.heap.size w w4 ∧ Box 41 w4 w.heap.size [.int .i64 a, .int .i64 k, .bool u, .slice xd nd xe, .int .i64 e, .slice xv nv xw, .slice xt nt xu, .slice xa na xb, .int .i64 r0, .int .i64 r1, .int .i64 r2] ∧ Box 41 w4 (w.heap.size + 1) [.int .i64 a, .int .i64 k, .bool u, .slice yd nd ye, .int .i64 e, .slice yv nv yw, .slice yt nt yu, .slice ya na yb, .int .i64 r0, .int .i64 r1, .int .i64 r2]) := ⟨HX3.out.1.trans (hb4.mono HX3.out.1.size), HX3.out.2.1.later hb4, HX3.out.2.2.later hb4⟩
  clear hb4 HX3 H4 z0 z1 z2 z3 z4 z5 z6 z7 z8 z9 z10 y0 y1 y2 y3 y4 y5 y6 y7 y8 y9 y10
  obtain ⟨z0, z1, z2, z3, z4, z5, z6, z7, z8, z9, z10⟩ := HX4.out.2.1.all11
  obtain ⟨y0, y1, y2, y3, y4, y5, y6, y7, y8, y9, y10⟩ := HX4.out.2.2.all11
  go_wp2_with fail
  refine (H5.out _).mono ?_
  rintro e5 w5 ⟨rfl, hb5⟩
  have HX5 : Hid (Below w.heap.size w w5 ∧ Box 41 w5 w.heap.size [.int .i64 a, .int .i64 k, .bool u, .slice xd nd xe, .int .i64 e, .slice xv nv xw, .slice xt nt xu, .slice xa na xb, .int .i64 r0, .int .i64 r1, .int .i64 r2] ∧ Box 41 w5 (w.heap.size + 1) [.int .i64 a, .int .i64 k, .bool u, .slice yd nd ye, .int .i64 e, .slice yv nv yw, .slice yt nt yu, .slice ya na yb, .int .i64 r0, .int .i64 r1, .int .i64 r2]) := ⟨HX4.out.1.trans (hb5.mono HX4.out.1.size), HX4.out.2.1.later hb5, HX4.out.2.2.later hb5⟩
  clear hb5 HX4 H5 z0 z1 z2 z3 z4 z5 z6 z7 z8 z9 z10 y0 y1 y2 y3 y4 y5 y6 y7 y8 y9 y10
  go_wp2
  go_ret
  exact ⟨rfl, HX5.out.1⟩

end Go.Proofs.YtklpanjedolkdaaGreatDoor
/-
  A server whose rows may be written, each in blocks of its own; marked.
-/
namespace Go.Proofs.YtklpanjedolkdaaGreatDoor
open Go.RowKit Go.BigFrame Go.Sort
set_option linter.unusedVariables false
set_option linter.unusedSimpArgs false

theorem IW.inG {lo hi : Nat} {w w' : World} {v : Value} {g : Nat} {l : List Int} (h : IW w v g l) (hb : InG lo hi w w') (hne : 0 < l.length → g < lo ∨ hi ≤ g) : IW w' v g l := by
  obtain ⟨a, c, hv, hl, h0, hc⟩ := h
  exact ⟨a, c, hv, hl, fun hp => ⟨(h0 hp).1, Nat.lt_of_lt_of_le (h0 hp).2 hb.2.2.2.1⟩, fun j hj => by
    have he := hb.2.2.2.2 g (h0 (by omega)).2 (hne (by omega))
    rw [cell_kept he, frozen_kept he]
    exact hc j hj⟩
theorem IW.kept {w w' : World} {v : Value} {g : Nat} {l : List Int} (h : IW w v g l) (hs : w.heap.size ≤ w'.heap.size) (hk : 0 < l.length → w'.heap[g]? = w.heap[g]?) : IW w' v g l := by
  obtain ⟨a, c, hv, hl, h0, hc⟩ := h
  exact ⟨a, c, hv, hl, fun hp => ⟨(h0 hp).1, Nat.lt_of_lt_of_le (h0 hp).2 hs⟩, fun j hj => by
    have he := hk (by omega)
    rw [cell_kept he, frozen_kept he]
    exact hc j hj⟩
theorem RW.kept {α : Type} {k : Nat} {enc : α → List Value} {w w' : World} {v : Value} {g : Nat} {l : List α} (h : RW k enc w v g l) (hs : w.heap.size ≤ w'.heap.size) (hk : 0 < l.length → w'.heap[g]? = w.heap[g]?) : RW k enc w' v g l := by
  obtain ⟨⟨a, c, hv, hl, h0, hc⟩, ht⟩ := h
  exact ⟨⟨a, c, hv, hl, fun hp => ⟨(h0 hp).1, Nat.lt_of_lt_of_le (h0 hp).2 hs⟩, fun j hj => range_kept (hc j hj) (hk (by omega))⟩, fun j hj => there_kept (ht j hj) (hk (by omega))⟩
theorem VW.grown {W W' : World} {v : Value} {go : Nat} {V : Nat → Value} {g : Nat → Nat} {P : List (List Le)} {q n : Nat} (h : VW W v go V g P) (hg : W.grownBy W' (rowF q n)) (n0 : 0 < n → 0 < P.length → go ≠ q) (n1 : 0 < n → ∀ j (h : j < P.length), 0 < P[j].length → g j ≠ q) : VW W' v go V g P := by
  obtain ⟨⟨a, c, hv, hl, h0⟩, h1, h2⟩ := h
  exact ⟨⟨a, c, hv, hl, fun hp => ⟨(h0 hp).1, Nat.lt_of_lt_of_le (h0 hp).2 hg.size⟩⟩, fun j hj => ⟨(cell_kept (hg.block go (h0 (by omega)).2 (rowF_ne fun hp e => n0 hp (by omega) e))).trans (h1 j hj).1, (h1 j hj).2.1.grown hg (fun hq => rowF_ne fun hp e => n1 hp j hj hq e), (h1 j hj).2.2⟩, h2⟩

/-- where a server's rows lie: in blocks from lo to hi, no two alike -/
def SvB (lo hi : Nat) (L : Sr) (g1 go : Nat) (g : Nat → Nat) (g3 g4 : Nat) : Prop :=
  (0 < L.F.length → lo ≤ g1 ∧ g1 < hi) ∧ (0 < L.P.length → lo ≤ go ∧ go < hi) ∧ (∀ j (h : j < L.P.length), 0 < L.P[j].length → lo ≤ g j ∧ g j < hi) ∧ (0 < L.I.length → lo ≤ g3 ∧ g3 < hi) ∧ (0 < L.U.length → lo ≤ g4 ∧ g4 < hi) ∧
  (0 < L.F.length → 0 < L.P.length → go ≠ g1) ∧ (0 < L.F.length → ∀ j (h : j < L.P.length), 0 < L.P[j].length → g j ≠ g1) ∧ (0 < L.F.length → 0 < L.I.length → g3 ≠ g1) ∧ (0 < L.F.length → 0 < L.U.length → g4 ≠ g1) ∧
  (0 < L.P.length → 0 < L.I.length → go ≠ g3) ∧ (0 < L.P.length → 0 < L.U.length → go ≠ g4) ∧ (∀ j (h : j < L.P.length), 0 < L.P[j].length → 0 < L.I.length → g j ≠ g3) ∧ (∀ j (h : j < L.P.length), 0 < L.P[j].length → 0 < L.U.length → g j ≠ g4) ∧ (0 < L.I.length → 0 < L.U.length → g3 ≠ g4)
/-- a server whose rows may be written -/
def SvD (lo hi : Nat) (W : World) (vd vv vt va : Value) (L : Sr) : Prop := ∃ g1 go V g g3 g4, RW 3 fcs W vd g1 L.F ∧ VW W vv go V g L.P ∧ IW W vt g3 L.I ∧ RW 3 ucs W va g4 L.U ∧ SvB lo hi L g1 go g g3 g4
theorem SvD.later {lo hi : Nat} {W W' : World} {vd vv vt va : Value} {L : Sr} (h : SvD lo hi W vd vv vt va L) (hb : Below W.heap.size W W') : SvD lo hi W' vd vv vt va L := by
  obtain ⟨g1, go, V, g, g3, g4, h1, h2, h3, h4, h5⟩ := h
  exact ⟨g1, go, V, g, g3, g4, h1.later hb, h2.later hb, h3.later hb, h4.later hb, h5⟩
theorem SvD.svs {lo hi : Nat} {W : World} {vd vv vt va : Value} {L : Sr} (h : SvD lo hi W vd vv vt va L) : SvS W vd vv vt va L := by
  obtain ⟨g1, go, V, g, g3, g4, h1, h2, h3, h4, h5⟩ := h
  exact ⟨⟨g1, 0, h1.1⟩, ⟨go, 0, h2.ps⟩, ⟨g3, 0, h3.rs⟩, ⟨g4, 0, h4.1⟩⟩

set_option maxRecDepth 100000 in
set_option maxHeartbeats 2000000 in
theorem markServer_arg (n : Sn) (vd vv vt va : Value) (L : Sr) (lo hi : Nat) (w : World) (hM : SvD lo hi w vd vv vt va L) (hsm : L.sm) (hhi : hi ≤ w.heap.size) :
    Calls Tryz.prog 19 #[.agg #[.int .i64 n.a, .int .i64 n.k, .bool n.u, vd, .int .i64 n.e, vv, vt, va, .int .i64 n.r0, .int .i64 n.r1, .int .i64 n.r2], .int .i64 1] w fun e w' => ∃ K : Int, e = .returned (.int .i64 K) ∧ 0 ≤ K ∧ InG lo hi w w' := by
  have hshape := hM.svs.shapes
  obtain ⟨g1, go, V, g, g3, g4, h1, h2, h3, h4, c1, c2, c3, c4, c5, d12, d13, d14, d15, d24, d25, d34, d35, d45⟩ := hM
  obtain ⟨⟨s1, s2⟩, ⟨s3, s4⟩, s5, s6, s7⟩ := hsm
  have H1 : Hid (∀ W, Below w.heap.size w W → Calls Tryz.prog 18 #[.agg #[vd], .int .i64 1] W fun e w' => e = .returned (.int .i64 (1 + 3 * L.F.length : Nat)) ∧ W.grownBy w' (rowF g1 L.F.length)) := fun W hW => (markDisk_any vd g1 L.F 1 1 W rfl (h1.later hW) (by omega) (by omega)).mono fun e w' h => ⟨h.1, h.2.2⟩
  have H2 : Hid (∀ W, VW W vv go V g L.P → Calls Tryz.prog 58 #[vv, .int .i64 (1 + 3 * L.F.length : Nat)] W fun e w' => e = .returned (.int .i64 (1 + 3 * L.F.length + 2 * flatN L.P : Nat)) ∧ InG lo hi W w' ∧ KeepG g L.P W w') := fun W hW => (markLeafSS_at vv lo hi go V g L.P _ _ W rfl hW c3 (by omega) (by omega) s4).mono fun e w' h => ⟨h.1, h.2.1, h.2.2.1⟩
  have H3 : Hid (∀ W, IW W vt g3 L.I → Calls Tryz.prog 32 #[vt, .int .i64 (1 + 3 * L.F.length + 2 * flatN L.P : Nat)] W fun e w' => e = .returned (.int .i64 (1 + 3 * L.F.length + 2 * flatN L.P + L.I.length : Nat)) ∧ W.grownBy w' (rowF g3 L.I.length)) := fun W hW => markIntS_row vt g3 L.I _ _ W rfl hW (by omega)
  have H4 : Hid (∀ W, RW 3 ucs W va g4 L.U → Calls Tryz.prog 59 #[va, .int .i64 (1 + 3 * L.F.length + 2 * flatN L.P + L.I.length : Nat)] W fun e w' => e = .returned (.int .i64 (1 + 3 * L.F.length + 2 * flatN L.P + L.I.length + 3 * L.U.length : Nat)) ∧ W.grownBy w' (rowF g4 L.U.length)) := fun W hW => markChangeS_any va g4 L.U _ _ W rfl hW (by omega) (by omega)
  have HS1 : Hid (∀ W W', Below w.heap.size w W → W.grownBy W' (rowF g1 L.F.length) → InG lo hi W W' ∧ VW W' vv go V g L.P ∧ IW W' vt g3 L.I ∧ RW 3 ucs W' va g4 L.U) := fun W W' hW hg => ⟨InG.of_grown hg c1, (h2.later hW).grown hg (fun hp hq => d12 hp hq) (fun hp j hj hq => d13 hp j hj hq), (h3.later hW).grown hg (fun hp => rowF_ne fun hq => d14 hq hp), (h4.later hW).grown hg (fun hp => rowF_ne fun hq => d15 hq hp)⟩
  have HS2 : Hid (∀ W W', InG lo hi W W' → KeepG g L.P W W' → IW W vt g3 L.I → RW 3 ucs W va g4 L.U → IW W' vt g3 L.I ∧ RW 3 ucs W' va g4 L.U) := fun W W' hi hk hi3 hu => ⟨hi3.kept hi.2.2.2.1 (fun hp => hk g3 (fun j hj hq => d34 j hj hq hp) (hi3.lt hp)), hu.kept hi.2.2.2.1 (fun hp => hk g4 (fun j hj hq => d35 j hj hq hp) (hu.lt hp))⟩
  have HS3 : Hid (∀ W W', W.grownBy W' (rowF g3 L.I.length) → RW 3 ucs W va g4 L.U → InG lo hi W W' ∧ RW 3 ucs W' va g4 L.U) := fun W W' hg hu => ⟨InG.of_grown hg c4, hu.grown hg (fun hp => rowF_ne fun hq e => d45 hq hp e.symm)⟩
  have HS4 : Hid (∀ W W', W.grownBy W' (rowF g4 L.U.length) → InG lo hi W W') := fun W W' hg => InG.of_grown hg c5
  clear h1 h2 h3 h4 c1 c2 c3 c4 c5 d12 d13 d14 d15 d24 d25 d34 d35 d45 s1 s3 s6
  generalize hPV : (fun W => VW W vv go V g L.P) = PV at *
  generalize hPI : (fun W => IW W vt g3 L.I) = PI at *
  generalize hPU : (fun W => RW 3 ucs W va g4 L.U) = PU at *
  generalize hPK : KeepG g L.P = PK at *
  generalize hR1 : rowF g1 L.F.length = R1 at *
  generalize hR3 : rowF g3 L.I.length = R3 at *
  generalize hR4 : rowF g4 L.U.length = R4 at *
  obtain ⟨K1, hK1⟩ : ∃ K1 : Int, ((1 + 3 * L.F.length : Nat) : Int) = K1 := ⟨_, rfl⟩
  obtain ⟨K2, hK2⟩ : ∃ K2 : Int, ((1 + 3 * L.F.length + 2 * flatN L.P : Nat) : Int) = K2 := ⟨_, rfl⟩
  obtain ⟨K3, hK3⟩ : ∃ K3 : Int, ((1 + 3 * L.F.length + 2 * flatN L.P + L.I.length : Nat) : Int) = K3 := ⟨_, rfl⟩
  obtain ⟨K4, hK4⟩ : ∃ K4 : Int, ((1 + 3 * L.F.length + 2 * flatN L.P + L.I.length + 3 * L.U.length : Nat) : Int) = K4 := ⟨_, rfl⟩
  have hK40 : 0 ≤ K4 := by omega
  have J1 : Hid (∀ W, Below w.heap.size w W → Calls Tryz.prog 18 #[.agg #[vd], .int .i64 1] W fun e w' => e = .returned (.int .i64 K1) ∧ W.grownBy w' R1) := by rw [← hK1]; exact H1
  have J2 : Hid (∀ W, PV W → Calls Tryz.prog 58 #[vv, .int .i64 K1] W fun e w' => e = .returned (.int .i64 K2) ∧ InG lo hi W w' ∧ PK W w') := by rw [← hK1, ← hK2, ← hPV]; exact H2
  have J3 : Hid (∀ W, PI W → Calls Tryz.prog 32 #[vt, .int .i64 K2] W fun e w' => e = .returned (.int .i64 K3) ∧ W.grownBy w' R3) := by rw [← hK2, ← hK3, ← hPI]; exact H3
  have J4 : Hid (∀ W, PU W → Calls Tryz.prog 59 #[va, .int .i64 K3] W fun e w' => e = .returned (.int .i64 K4) ∧ W.grownBy w' R4) := by rw [← hK3, ← hK4, ← hPU]; exact H4
  have T1 : Hid (∀ W W', Below w.heap.size w W → W.grownBy W' R1 → InG lo hi W W' ∧ PV W' ∧ PI W' ∧ PU W') := by rw [← hPV, ← hPI, ← hPU]; exact HS1
  have T2 : Hid (∀ W W', InG lo hi W W' → PK W W' → PI W → PU W → PI W' ∧ PU W') := by rw [← hPI, ← hPU]; exact HS2
  have T3 : Hid (∀ W W', W.grownBy W' R3 → PU W → InG lo hi W W' ∧ PU W') := by rw [← hPU]; exact HS3
  have T4 : Hid (∀ W W', W.grownBy W' R4 → InG lo hi W W') := HS4
  clear H1 H2 H3 H4 HS1 HS2 HS3 HS4 hPV hPI hPU hPK hR1 hR3 hR4 hK1 hK2 hK3 hK4 s2 s4 s5 s7
  obtain ⟨a, k, u, e, r0, r1, r2⟩ := n
  simp only
  obtain ⟨⟨xd, xe, rfl⟩, ⟨xv, xw, rfl⟩, ⟨xt, xu, rfl⟩, ⟨xa, xb, rfl⟩⟩ := hshape
  generalize L.F.length = nd at *
  generalize L.P.length = nv at *
  generalize L.I.length = nt at *
  generalize L.U.length = na at *
  have HX : Hid (Below w.heap.size w (w.alloc (.cells #[.int .i64 a, .int .i64 k, .bool u, .slice xd nd xe, .int .i64 e, .slice xv nv xw, .slice xt nt xu, .slice xa na xb, .int .i64 r0, .int .i64 r1, .int .i64 r2] 41)) ∧ Box 41 (w.alloc (.cells #[.int .i64 a, .int .i64 k, .bool u, .slice xd nd xe, .int .i64 e, .slice xv nv xw, .slice xt nt xu, .slice xa na xb, .int .i64 r0, .int .i64 r1, .int .i64 r2] 41)) w.heap.size [.int .i64 a, .int .i64 k, .bool u, .slice xd nd xe, .int .i64 e, .slice xv nv xw, .slice xt nt xu, .slice xa na xb, .int .i64 r0, .int .i64 r1, .int .i64 r2] ∧ w.heap.size < (w.alloc (.cells #[.int .i64 a, .int .i64 k, .bool u, .slice xd nd xe, .int .i64 e, .slice xv nv xw, .slice xt nt xu, .slice xa na xb, .int .i64 r0, .int .i64 r1, .int .i64 r2] 41)).heap.size) := ⟨below_alloc _ _, Box.new _ _ _, by simp⟩
  go_enter Tryz.func19, Tryz.ntmps19
  go_wp2_with fail
  refine (J1.out _ HX.out.1).mono ?_
  rintro e1 w1 ⟨rfl, hg1⟩
  generalize hW0 : (w.alloc (.cells #[.int .i64 a, .int .i64 k, .bool u, .slice xd nd xe, .int .i64 e, .slice xv nv xw, .slice xt nt xu, .slice xa na xb, .int .i64 r0, .int .i64 r1, .int .i64 r2] 41)) = W0 at *
  have HX1 : Hid (InG lo hi w w1 ∧ Box 41 w1 w.heap.size [.int .i64 a, .int .i64 k, .bool u, .slice xd nd xe, .int .i64 e, .slice xv nv xw, .slice xt nt xu, .slice xa na xb, .int .i64 r0, .int .i64 r1, .int .i64 r2] ∧ PV w1 ∧ PI w1 ∧ PU w1) := by
    obtain ⟨k1, k2, k3, k4⟩ := T1.out _ _ HX.out.1 hg1
    exact ⟨(InG.of_below HX.out.1).trans k1, HX.out.2.1.keep (k1.2.2.2.2 _ HX.out.2.2 (.inr hhi)), k2, k3, k4⟩
  clear HX J1 T1 hg1 hW0
  obtain ⟨z0, z1, z2, z3, z4, z5, z6, z7, z8, z9, z10⟩ := HX1.out.2.1.all11
  go_wp2_with fail
  refine (J2.out _ HX1.out.2.2.1).mono ?_
  rintro e2 w2 ⟨rfl, hg2, hk2⟩
  have HX2 : Hid (InG lo hi w w2 ∧ Box 41 w2 w.heap.size [.int .i64 a, .int .i64 k, .bool u, .slice xd nd xe, .int .i64 e, .slice xv nv xw, .slice xt nt xu, .slice xa na xb, .int .i64 r0, .int .i64 r1, .int .i64 r2] ∧ PI w2 ∧ PU w2) := by
    obtain ⟨k1, k2, k3, k4, k5⟩ := HX1.out
    obtain ⟨j1, j2⟩ := T2.out _ _ hg2 hk2 k4 k5
    exact ⟨k1.trans hg2, k2.keep (hg2.2.2.2.2 _ k2.lt (.inr hhi)), j1, j2⟩
  clear HX1 J2 T2 hg2 hk2 z0 z1 z2 z3 z4 z5 z6 z7 z8 z9 z10
  obtain ⟨z0, z1, z2, z3, z4, z5, z6, z7, z8, z9, z10⟩ := HX2.out.2.1.all11
  go_wp2_with fail
  refine (J3.out _ HX2.out.2.2.1).mono ?_
  rintro e3 w3 ⟨rfl, hg3⟩
  have HX3 : Hid (InG lo hi w w3 ∧ Box 41 w3 w.heap.size [.int .i64 a, .int .i64 k, .bool u, .slice xd nd xe, .int .i64 e, .slice xv nv xw, .slice xt nt xu, .slice xa na xb, .int .i64 r0, .int .i64 r1, .int .i64 r2] ∧ PU w3) := by
    obtain ⟨k1, k2, k4, k5⟩ := HX2.out
    obtain ⟨j1, j2⟩ := T3.out _ _ hg3 k5
    exact ⟨k1.trans j1, k2.keep (j1.2.2.2.2 _ k2.lt (.inr hhi)), j2⟩
  clear HX2 J3 T3 hg3 z0 z1 z2 z3 z4 z5 z6 z7 z8 z9 z10
  obtain ⟨z0, z1, z2, z3, z4, z5, z6, z7, z8, z9, z10⟩ := HX3.out.2.1.all11
  go_wp2_with fail
  refine (J4.out _ HX3.out.2.2).mono ?_
  rintro e4 w4 ⟨rfl, hg4⟩
  have HX4 : Hid (InG lo hi w w4) := HX3.out.1.trans (T4.out _ _ hg4)
  clear HX3 J4 T4 hg4 z0 z1 z2 z3 z4 z5 z6 z7 z8 z9 z10
  go_wp2
  go_ret
  exact ⟨_, rfl, hK40, HX4.out⟩

end Go.Proofs.YtklpanjedolkdaaGreatDoor
/-
  A disk that a law takes over.
-/
namespace Go.Proofs.YtklpanjedolkdaaGreatDoor
open Go.RowKit Go.BigFrame Go.Sort
set_option linter.unusedVariables false
set_option linter.unusedSimpArgs false

set_option maxRecDepth 100000 in
set_option maxHeartbeats 400000 in
theorem toDisk_some (v : Value) (ga oa : Nat) (l : List Fl) (w : World) (hv : RS 3 fcs w v ga oa l) :
    Calls Tryz.prog 15 #[.agg #[v]] w fun e w' => ∃ g, e = .returned (.agg #[.slice (some ⟨g, 0, none⟩) l.length l.length]) ∧ RW 3 fcs w' (.slice (some ⟨g, 0, none⟩) l.length l.length) g l ∧ w.heap.size ≤ g ∧ (0 < l.length → g < w'.heap.size) ∧ Below w.heap.size w w' := by
  have hb0 : Below w.heap.size w (((w.alloc (.cells #[v] 24)).alloc (.cells #[.slice none 0 0] 36)).alloc (.cells #[.slice none 0 0] 36)) := (((Below.refl _ _).alloc (Nat.le_refl _) _).alloc (by simp) _).alloc (by simp; omega) _
  have HC := toFileS_any v ga oa l _ (hv.later hb0)
  obtain ⟨a, cap, rfl⟩ := hv.shape
  have hg1 : (((w.alloc (.cells #[.slice a l.length cap] 24)).alloc (.cells #[.slice none 0 0] 36)).alloc (.cells #[.slice none 0 0] 36)).heap[w.heap.size + 1]? = some (.cells #[.slice none 0 0] 36 (0, 0)) := alloc_snd _ _ _ (by simp)
  have hg2 : (((w.alloc (.cells #[.slice a l.length cap] 24)).alloc (.cells #[.slice none 0 0] 36)).alloc (.cells #[.slice none 0 0] 36)).heap[w.heap.size + 2]? = some (.cells #[.slice none 0 0] 36 (0, 0)) := alloc_fst _ _ (by simp)
  have HG : Hid (Below w.heap.size w (((w.alloc (.cells #[.slice a l.length cap] 24)).alloc (.cells #[.slice none 0 0] 36)).alloc (.cells #[.slice none 0 0] 36)) ∧ (((w.alloc (.cells #[.slice a l.length cap] 24)).alloc (.cells #[.slice none 0 0] 36)).alloc (.cells #[.slice none 0 0] 36)).heap[w.heap.size + 1]? = some (.cells #[.slice none 0 0] 36 (0, 0)) ∧ (((w.alloc (.cells #[.slice a l.length cap] 24)).alloc (.cells #[.slice none 0 0] 36)).alloc (.cells #[.slice none 0 0] 36)).heap[w.heap.size + 2]? = some (.cells #[.slice none 0 0] 36 (0, 0))) := ⟨hb0, hg1, hg2⟩
  clear hb0 hg1 hg2 hv
  go_enter Tryz.func15, Tryz.ntmps15
  go_wp2_with fail
  refine HC.mono ?_
  rintro e w1 ⟨g, rfl, hg, hrw, hgl, hb⟩
  have hsz : (((w.alloc (.cells #[.slice a l.length cap] 24)).alloc (.cells #[.slice none 0 0] 36)).alloc (.cells #[.slice none 0 0] 36)).heap.size = w.heap.size + 3 := by simp
  rw [hsz] at hg
  have h1 : w1.heap[w.heap.size + 1]? = some (.cells #[.slice none 0 0] 36 (0, 0)) := (hb.block _ (by rw [hsz]; omega)).trans HG.out.2.1
  have h2 : w1.heap[w.heap.size + 2]? = some (.cells #[.slice none 0 0] 36 (0, 0)) := (hb.block _ (by rw [hsz]; omega)).trans HG.out.2.2
  have c1 : w1.cell? ⟨w.heap.size + 1, 0, none⟩ = some (.slice none 0 0) := by rw [cell_of_row _ _ 0 _ _ _ h1]; rfl
  have c2 : w1.cell? ⟨w.heap.size + 2, 0, none⟩ = some (.slice none 0 0) := by rw [cell_of_row _ _ 0 _ _ _ h2]; rfl
  have f1 : w1.frozen? ⟨w.heap.size + 1, 0, none⟩ = false := by simp [World.frozen?, h1]
  have f2 : w1.frozen? ⟨w.heap.size + 2, 0, none⟩ = false := by simp [World.frozen?, h2]
  have hb1 := HG.out.1.trans (hb.mono (by rw [hsz]; omega))
  have hr2 := (hrw.grown (grown_setC w1 (w.heap.size + 2) 0 (.slice (some ⟨g, 0, none⟩) l.length l.length)) (fun _ => by simp; omega)).grown (grown_setC _ (w.heap.size + 1) 0 (.slice (some ⟨g, 0, none⟩) l.length l.length)) (fun _ => by simp; omega)
  have HR : Hid (RW 3 fcs ((w1.setCell ⟨w.heap.size + 2, 0, none⟩ (.slice (some ⟨g, 0, none⟩) l.length l.length)).setCell ⟨w.heap.size + 1, 0, none⟩ (.slice (some ⟨g, 0, none⟩) l.length l.length)) (.slice (some ⟨g, 0, none⟩) l.length l.length) g l ∧ Below w.heap.size w ((w1.setCell ⟨w.heap.size + 2, 0, none⟩ (.slice (some ⟨g, 0, none⟩) l.length l.length)).setCell ⟨w.heap.size + 1, 0, none⟩ (.slice (some ⟨g, 0, none⟩) l.length l.length))) := ⟨hr2, (hb1.setCell (p := ⟨w.heap.size + 2, 0, none⟩) (by simp) _).setCell (p := ⟨w.heap.size + 1, 0, none⟩) (by simp) _⟩
  have HCS : Hid (((w1.setCell ⟨w.heap.size + 2, 0, none⟩ (.slice (some ⟨g, 0, none⟩) l.length l.length)).setCell ⟨w.heap.size + 1, 0, none⟩ (.slice (some ⟨g, 0, none⟩) l.length l.length)).cell? ⟨w.heap.size + 1, 0, none⟩ = some (.slice (some ⟨g, 0, none⟩) l.length l.length)) := cell_set_same (((grown_setC w1 (w.heap.size + 2) 0 _).block _ (Array.getElem?_eq_some_iff.1 h1).1 (by simp)).trans h1) (by simp) _
  clear hr2 hrw hb HC HG hb1 hsz
  go_wp2
  refine ret_rec 2 (w.heap.size + 1) 36 [.slice (some ⟨g, 0, none⟩) l.length l.length] _ rfl rfl rfl Tryz.underlying36 rfl sizeDisk (range1 HCS.out) ?_
  exact ⟨g, rfl, HR.out.1, by omega, HR.out.1.lt, HR.out.2⟩

end Go.Proofs.YtklpanjedolkdaaGreatDoor
