/-
  Texts laid together: Je, Tdk, Pfm, Jc.
-/
import Derived.Test.YthlgohplljcgfaaGreatDoorPkESN10
import Derived.Test.YthlgohplljcgfaaGreatDoorPkESN12
import Derived.Test.YthlgohplljcgfaaGreatDoorPkESN1
import Derived.Test.YthlgohplljcgfaaGreatDoorPkESN5
import Derived.Laws.Rows
import Derived.Laws.Tables
import Derived.Deep.CutRange
/-
  A server whose rows may be written, each in blocks of its own; marked.
-/
namespace Go.Proofs.YthlgohplljcgfaaGreatDoor
open Go.RowKit Go.BigFrame Go.Sort
set_option linter.unusedVariables false
set_option linter.unusedSimpArgs false

theorem IW.inG {lo hi : Nat} {w w' : World} {v : Value} {g : Nat} {l : List Int} (h : IW w v g l) (hb : InG lo hi w w') (hne : 0 < l.length → g < lo ∨ hi ≤ g) : IW w' v g l := by
  obtain ⟨a, c, hv, hl, h0, hc⟩ := h
  exact ⟨a, c, hv, hl, fun hp => ⟨(h0 hp).1, Nat.lt_of_lt_of_le (h0 hp).2 hb.2.2.2.1⟩, fun j hj => by
    have he := hb.2.2.2.2 g (h0 (by omega)).2 (hne (by omega))
    rw [cell_kept he, frozen_kept he]
    exact hc j hj⟩
theorem IW.kept {w w' : World} {v : Value} {g : Nat} {l : List Int} (h : IW w v g l) (hs : w.heap.size ≤ w'.heap.size) (hk : 0 < l.length → w'.heap[g]? = w.heap[g]?) : IW w' v g l := by
  obtain ⟨a, c, hv, hl, h0, hc⟩ := h
  exact ⟨a, c, hv, hl, fun hp => ⟨(h0 hp).1, Nat.lt_of_lt_of_le (h0 hp).2 hs⟩, fun j hj => by
    have he := hk (by omega)
    rw [cell_kept he, frozen_kept he]
    exact hc j hj⟩
theorem RW.kept {α : Type} {k : Nat} {enc : α → List Value} {w w' : World} {v : Value} {g : Nat} {l : List α} (h : RW k enc w v g l) (hs : w.heap.size ≤ w'.heap.size) (hk : 0 < l.length → w'.heap[g]? = w.heap[g]?) : RW k enc w' v g l := by
  obtain ⟨⟨a, c, hv, hl, h0, hc⟩, ht⟩ := h
  exact ⟨⟨a, c, hv, hl, fun hp => ⟨(h0 hp).1, Nat.lt_of_lt_of_le (h0 hp).2 hs⟩, fun j hj => range_kept (hc j hj) (hk (by omega))⟩, fun j hj => there_kept (ht j hj) (hk (by omega))⟩
theorem VW.grown {W W' : World} {v : Value} {go : Nat} {V : Nat → Value} {g : Nat → Nat} {P : List (List Le)} {q n : Nat} (h : VW W v go V g P) (hg : W.grownBy W' (rowF q n)) (n0 : 0 < n → 0 < P.length → go ≠ q) (n1 : 0 < n → ∀ j (h : j < P.length), 0 < P[j].length → g j ≠ q) : VW W' v go V g P := by
  obtain ⟨⟨a, c, hv, hl, h0⟩, h1, h2⟩ := h
  exact ⟨⟨a, c, hv, hl, fun hp => ⟨(h0 hp).1, Nat.lt_of_lt_of_le (h0 hp).2 hg.size⟩⟩, fun j hj => ⟨(cell_kept (hg.block go (h0 (by omega)).2 (rowF_ne fun hp e => n0 hp (by omega) e))).trans (h1 j hj).1, (h1 j hj).2.1.grown hg (fun hq => rowF_ne fun hp e => n1 hp j hj hq e), (h1 j hj).2.2⟩, h2⟩

/-- where a server's rows lie: in blocks from lo to hi, no two alike -/
def SvB (lo hi : Nat) (L : Sr) (g1 go : Nat) (g : Nat → Nat) (g3 g4 : Nat) : Prop :=
  (0 < L.F.length → lo ≤ g1 ∧ g1 < hi) ∧ (0 < L.P.length → lo ≤ go ∧ go < hi) ∧ (∀ j (h : j < L.P.length), 0 < L.P[j].length → lo ≤ g j ∧ g j < hi) ∧ (0 < L.I.length → lo ≤ g3 ∧ g3 < hi) ∧ (0 < L.U.length → lo ≤ g4 ∧ g4 < hi) ∧
  (0 < L.F.length → 0 < L.P.length → go ≠ g1) ∧ (0 < L.F.length → ∀ j (h : j < L.P.length), 0 < L.P[j].length → g j ≠ g1) ∧ (0 < L.F.length → 0 < L.I.length → g3 ≠ g1) ∧ (0 < L.F.length → 0 < L.U.length → g4 ≠ g1) ∧
  (0 < L.P.length → 0 < L.I.length → go ≠ g3) ∧ (0 < L.P.length → 0 < L.U.length → go ≠ g4) ∧ (∀ j (h : j < L.P.length), 0 < L.P[j].length → 0 < L.I.length → g j ≠ g3) ∧ (∀ j (h : j < L.P.length), 0 < L.P[j].length → 0 < L.U.length → g j ≠ g4) ∧ (0 < L.I.length → 0 < L.U.length → g3 ≠ g4)
/-- a server whose rows may be written -/
def SvD (lo hi : Nat) (W : World) (vd vv vt va : Value) (L : Sr) : Prop := ∃ g1 go V g g3 g4, RW 3 fcs W vd g1 L.F ∧ VW W vv go V g L.P ∧ IW W vt g3 L.I ∧ RW 3 ucs W va g4 L.U ∧ SvB lo hi L g1 go g g3 g4
theorem SvD.later {lo hi : Nat} {W W' : World} {vd vv vt va : Value} {L : Sr} (h : SvD lo hi W vd vv vt va L) (hb : Below W.heap.size W W') : SvD lo hi W' vd vv vt va L := by
  obtain ⟨g1, go, V, g, g3, g4, h1, h2, h3, h4, h5⟩ := h
  exact ⟨g1, go, V, g, g3, g4, h1.later hb, h2.later hb, h3.later hb, h4.later hb, h5⟩
theorem SvD.svs {lo hi : Nat} {W : World} {vd vv vt va : Value} {L : Sr} (h : SvD lo hi W vd vv vt va L) : SvS W vd vv vt va L := by
  obtain ⟨g1, go, V, g, g3, g4, h1, h2, h3, h4, h5⟩ := h
  exact ⟨⟨g1, 0, h1.1⟩, ⟨go, 0, h2.ps⟩, ⟨g3, 0, h3.rs⟩, ⟨g4, 0, h4.1⟩⟩

set_option maxRecDepth 100000 in
set_option maxHeartbeats 2000000 in
theorem markServer_arg (n : Sn) (vd vv vt va : Value) (L : Sr) (lo hi : Nat) (w : World) (hM : SvD lo hi w vd vv vt va L) (hsm : L.sm) (hhi : hi ≤ w.heap.size) :
    Calls Tryz.prog 14 #[.agg #[.int .i64 n.a, .int .i64 n.k, .bool n.u, vd, .int .i64 n.e, vv, vt, va, .int .i64 n.r0, .int .i64 n.r1, .int .i64 n.r2], .int .i64 1] w fun e w' => ∃ K : Int, e = .returned (.int .i64 K) ∧ 0 ≤ K ∧ InG lo hi w w' := by
  have hshape := hM.svs.shapes
  obtain ⟨g1, go, V, g, g3, g4, h1, h2, h3, h4, c1, c2, c3, c4, c5, d12, d13, d14, d15, d24, d25, d34, d35, d45⟩ := hM
  obtain ⟨⟨s1, s2⟩, ⟨s3, s4⟩, s5, s6, s7⟩ := hsm
  have H1 : Hid (∀ W, Below w.heap.size w W → Calls Tryz.prog 13 #[.agg #[vd], .int .i64 1] W fun e w' => e = .returned (.int .i64 (1 + 3 * L.F.length : Nat)) ∧ W.grownBy w' (rowF g1 L.F.length)) := fun W hW => (markDisk_any vd g1 L.F 1 1 W rfl (h1.later hW) (by omega) (by omega)).mono fun e w' h => ⟨h.1, h.2.2⟩
  have H2 : Hid (∀ W, VW W vv go V g L.P → Calls Tryz.prog 40 #[vv, .int .i64 (1 + 3 * L.F.length : Nat)] W fun e w' => e = .returned (.int .i64 (1 + 3 * L.F.length + 2 * flatN L.P : Nat)) ∧ InG lo hi W w' ∧ KeepG g L.P W w') := fun W hW => (markLeafSS_at vv lo hi go V g L.P _ _ W rfl hW c3 (by omega) (by omega) s4).mono fun e w' h => ⟨h.1, h.2.1, h.2.2.1⟩
  have H3 : Hid (∀ W, IW W vt g3 L.I → Calls Tryz.prog 22 #[vt, .int .i64 (1 + 3 * L.F.length + 2 * flatN L.P : Nat)] W fun e w' => e = .returned (.int .i64 (1 + 3 * L.F.length + 2 * flatN L.P + L.I.length : Nat)) ∧ W.grownBy w' (rowF g3 L.I.length)) := fun W hW => markIntS_row vt g3 L.I _ _ W rfl hW (by omega)
  have H4 : Hid (∀ W, RW 3 ucs W va g4 L.U → Calls Tryz.prog 41 #[va, .int .i64 (1 + 3 * L.F.length + 2 * flatN L.P + L.I.length : Nat)] W fun e w' => e = .returned (.int .i64 (1 + 3 * L.F.length + 2 * flatN L.P + L.I.length + 3 * L.U.length : Nat)) ∧ W.grownBy w' (rowF g4 L.U.length)) := fun W hW => markChangeS_any va g4 L.U _ _ W rfl hW (by omega) (by omega)
  have HS1 : Hid (∀ W W', Below w.heap.size w W → W.grownBy W' (rowF g1 L.F.length) → InG lo hi W W' ∧ VW W' vv go V g L.P ∧ IW W' vt g3 L.I ∧ RW 3 ucs W' va g4 L.U) := fun W W' hW hg => ⟨InG.of_grown hg c1, (h2.later hW).grown hg (fun hp hq => d12 hp hq) (fun hp j hj hq => d13 hp j hj hq), (h3.later hW).grown hg (fun hp => rowF_ne fun hq => d14 hq hp), (h4.later hW).grown hg (fun hp => rowF_ne fun hq => d15 hq hp)⟩
  have HS2 : Hid (∀ W W', InG lo hi W W' → KeepG g L.P W W' → IW W vt g3 L.I → RW 3 ucs W va g4 L.U → IW W' vt g3 L.I ∧ RW 3 ucs W' va g4 L.U) := fun W W' hi hk hi3 hu => ⟨hi3.kept hi.2.2.2.1 (fun hp => hk g3 (fun j hj hq => d34 j hj hq hp) (hi3.lt hp)), hu.kept hi.2.2.2.1 (fun hp => hk g4 (fun j hj hq => d35 j hj hq hp) (hu.lt hp))⟩
  have HS3 : Hid (∀ W W', W.grownBy W' (rowF g3 L.I.length) → RW 3 ucs W va g4 L.U → InG lo hi W W' ∧ RW 3 ucs W' va g4 L.U) := fun W W' hg hu => ⟨InG.of_grown hg c4, hu.grown hg (fun hp => rowF_ne fun hq e => d45 hq hp e.symm)⟩
  have HS4 : Hid (∀ W W', W.grownBy W' (rowF g4 L.U.length) → InG lo hi W W') := fun W W' hg => InG.of_grown hg c5
  clear h1 h2 h3 h4 c1 c2 c3 c4 c5 d12 d13 d14 d15 d24 d25 d34 d35 d45 s1 s3 s6
  generalize hPV : (fun W => VW W vv go V g L.P) = PV at *
  generalize hPI : (fun W => IW W vt g3 L.I) = PI at *
  generalize hPU : (fun W => RW 3 ucs W va g4 L.U) = PU at *
  generalize hPK : KeepG g L.P = PK at *
  generalize hR1 : rowF g1 L.F.length = R1 at *
  generalize hR3 : rowF g3 L.I.length = R3 at *
  generalize hR4 : rowF g4 L.U.length = R4 at *
  obtain ⟨K1, hK1⟩ : ∃ K1 : Int, ((1 + 3 * L.F.length : Nat) : Int) = K1 := ⟨_, rfl⟩
  obtain ⟨K2, hK2⟩ : ∃ K2 : Int, ((1 + 3 * L.F.length + 2 * flatN L.P : Nat) : Int) = K2 := ⟨_, rfl⟩
  obtain ⟨K3, hK3⟩ : ∃ K3 : Int, ((1 + 3 * L.F.length + 2 * flatN L.P + L.I.length : Nat) : Int) = K3 := ⟨_, rfl⟩
  obtain ⟨K4, hK4⟩ : ∃ K4 : Int, ((1 + 3 * L.F.length + 2 * flatN L.P + L.I.length + 3 * L.U.length : Nat) : Int) = K4 := ⟨_, rfl⟩
  have hK40 : 0 ≤ K4 := by omega
  have J1 : Hid (∀ W, Below w.heap.size w W → Calls Tryz.prog 13 #[.agg #[vd], .int .i64 1] W fun e w' => e = .returned (.int .i64 K1) ∧ W.grownBy w' R1) := by rw [← hK1]; exact H1
  have J2 : Hid (∀ W, PV W → Calls Tryz.prog 40 #[vv, .int .i64 K1] W fun e w' => e = .returned (.int .i64 K2) ∧ InG lo hi W w' ∧ PK W w') := by rw [← hK1, ← hK2, ← hPV]; exact H2
  have J3 : Hid (∀ W, PI W → Calls Tryz.prog 22 #[vt, .int .i64 K2] W fun e w' => e = .returned (.int .i64 K3) ∧ W.grownBy w' R3) := by rw [← hK2, ← hK3, ← hPI]; exact H3
  have J4 : Hid (∀ W, PU W → Calls Tryz.prog 41 #[va, .int .i64 K3] W fun e w' => e = .returned (.int .i64 K4) ∧ W.grownBy w' R4) := by rw [← hK3, ← hK4, ← hPU]; exact H4
  have T1 : Hid (∀ W W', Below w.heap.size w W → W.grownBy W' R1 → InG lo hi W W' ∧ PV W' ∧ PI W' ∧ PU W') := by rw [← hPV, ← hPI, ← hPU]; exact HS1
  have T2 : Hid (∀ W W', InG lo hi W W' → PK W W' → PI W → PU W → PI W' ∧ PU W') := by rw [← hPI, ← hPU]; exact HS2
  have T3 : Hid (∀ W W', W.grownBy W' R3 → PU W → InG lo hi W W' ∧ PU W') := by rw [← hPU]; exact HS3
  have T4 : Hid (∀ W W', W.grownBy W' R4 → InG lo hi W W') := HS4
  clear H1 H2 H3 H4 HS1 HS2 HS3 HS4 hPV hPI hPU hPK hR1 hR3 hR4 hK1 hK2 hK3 hK4 s2 s4 s5 s7
  obtain ⟨a, k, u, e, r0, r1, r2⟩ := n
  simp only
  obtain ⟨⟨xd, xe, rfl⟩, ⟨xv, xw, rfl⟩, ⟨xt, xu, rfl⟩, ⟨xa, xb, rfl⟩⟩ := hshape
  generalize L.F.length = nd at *
  generalize L.P.length = nv at *
  generalize L.I.length = nt at *
  generalize L.U.length = na at *
  have HX : Hid (Below w.heap.size w (w.alloc (.cells #[.int .i64 a, .int .i64 k, .bool u, .slice xd nd xe, .int .i64 e, .slice xv nv xw, .slice xt nt xu, .slice xa na xb, .int .i64 r0, .int .i64 r1, .int .i64 r2] 35)) ∧ Box 35 (w.alloc (.cells #[.int .i64 a, .int .i64 k, .bool u, .slice xd nd xe, .int .i64 e, .slice xv nv xw, .slice xt nt xu, .slice xa na xb, .int .i64 r0, .int .i64 r1, .int .i64 r2] 35)) w.heap.size [.int .i64 a, .int .i64 k, .bool u, .slice xd nd xe, .int .i64 e, .slice xv nv xw, .slice xt nt xu, .slice xa na xb, .int .i64 r0, .int .i64 r1, .int .i64 r2] ∧ w.heap.size < (w.alloc (.cells #[.int .i64 a, .int .i64 k, .bool u, .slice xd nd xe, .int .i64 e, .slice xv nv xw, .slice xt nt xu, .slice xa na xb, .int .i64 r0, .int .i64 r1, .int .i64 r2] 35)).heap.size) := ⟨below_alloc _ _, Box.new _ _ _, by simp⟩
  go_enter Tryz.func14, Tryz.ntmps14
  go_wp2_with fail
  refine (J1.out _ HX.out.1).mono ?_
  rintro e1 w1 ⟨rfl, hg1⟩
  generalize hW0 : (w.alloc (.cells #[.int .i64 a, .int .i64 k, .bool u, .slice xd nd xe, .int .i64 e, .slice xv nv xw, .slice xt nt xu, .slice xa na xb, .int .i64 r0, .int .i64 r1, .int .i64 r2] 35)) = W0 at *
  have HX1 : Hid (InG lo hi w w1 ∧ Box 35 w1 w.heap.size [.int .i64 a, .int .i64 k, .bool u, .slice xd nd xe, .int .i64 e, .slice xv nv xw, .slice xt nt xu, .slice xa na xb, .int .i64 r0, .int .i64 r1, .int .i64 r2] ∧ PV w1 ∧ PI w1 ∧ PU w1) := by
    obtain ⟨k1, k2, k3, k4⟩ := T1.out _ _ HX.out.1 hg1
    exact ⟨(InG.of_below HX.out.1).trans k1, HX.out.2.1.keep (k1.2.2.2.2 _ HX.out.2.2 (.inr hhi)), k2, k3, k4⟩
  clear HX J1 T1 hg1 hW0
  obtain ⟨z0, z1, z2, z3, z4, z5, z6, z7, z8, z9, z10⟩ := HX1.out.2.1.all11
  go_wp2_with fail
  refine (J2.out _ HX1.out.2.2.1).mono ?_
  rintro e2 w2 ⟨rfl, hg2, hk2⟩
  have HX2 : Hid (InG lo hi w w2 ∧ Box 35 w2 w.heap.size [.int .i64 a, .int .i64 k, .bool u, .slice xd nd xe, .int .i64 e, .slice xv nv xw, .slice xt nt xu, .slice xa na xb, .int .i64 r0, .int .i64 r1, .int .i64 r2] ∧ PI w2 ∧ PU w2) := by
    obtain ⟨k1, k2, k3, k4, k5⟩ := HX1.out
    obtain ⟨j1, j2⟩ := T2.out _ _ hg2 hk2 k4 k5
    exact ⟨k1.trans hg2, k2.keep (hg2.2.2.2.2 _ k2.lt (.inr hhi)), j1, j2⟩
  clear HX1 J2 T2 hg2 hk2 z0 z1 z2 z3 z4 z5 z6 z7 z8 z9 z10
  obtain ⟨z0, z1, z2, z3, z4, z5, z6, z7, z8, z9, z10⟩ := HX2.out.2.1.all11
  go_wp2_with fail
  refine (J3.out _ HX2.out.2.2.1).mono ?_
  rintro e3 w3 ⟨rfl, hg3⟩
  have HX3 : Hid (InG lo hi w w3 ∧ Box 35 w3 w.heap.size [.int .i64 a, .int .i64 k, .bool u, .slice xd nd xe, .int .i64 e, .slice xv nv xw, .slice xt nt xu, .slice xa na xb, .int .i64 r0, .int .i64 r1, .int .i64 r2] ∧ PU w3) := by
    obtain ⟨k1, k2, k4, k5⟩ := HX2.out
    obtain ⟨j1, j2⟩ := T3.out _ _ hg3 k5
    exact ⟨k1.trans j1, k2.keep (j1.2.2.2.2 _ k2.lt (.inr hhi)), j2⟩
  clear HX2 J3 T3 hg3 z0 z1 z2 z3 z4 z5 z6 z7 z8 z9 z10
  obtain ⟨z0, z1, z2, z3, z4, z5, z6, z7, z8, z9, z10⟩ := HX3.out.2.1.all11
  go_wp2_with fail
  refine (J4.out _ HX3.out.2.2).mono ?_
  rintro e4 w4 ⟨rfl, hg4⟩
  have HX4 : Hid (InG lo hi w w4) := HX3.out.1.trans (T4.out _ _ hg4)
  clear HX3 J4 T4 hg4 z0 z1 z2 z3 z4 z5 z6 z7 z8 z9 z10
  go_wp2
  go_ret
  exact ⟨_, rfl, hK40, HX4.out⟩

end Go.Proofs.YthlgohplljcgfaaGreatDoor
/-
  A disk that a law takes over.
-/
namespace Go.Proofs.YthlgohplljcgfaaGreatDoor
open Go.RowKit Go.BigFrame Go.Sort
set_option linter.unusedVariables false
set_option linter.unusedSimpArgs false

set_option maxRecDepth 100000 in
set_option maxHeartbeats 400000 in
theorem toDisk_some (v : Value) (ga oa : Nat) (l : List Fl) (w : World) (hv : RS 3 fcs w v ga oa l) :
    Calls Tryz.prog 9 #[.agg #[v]] w fun e w' => ∃ g, e = .returned (.agg #[.slice (some ⟨g, 0, none⟩) l.length l.length]) ∧ RW 3 fcs w' (.slice (some ⟨g, 0, none⟩) l.length l.length) g l ∧ w.heap.size ≤ g ∧ (0 < l.length → g < w'.heap.size) ∧ Below w.heap.size w w' := by
  have hb0 : Below w.heap.size w (((w.alloc (.cells #[v] 24)).alloc (.cells #[.slice none 0 0] 28)).alloc (.cells #[.slice none 0 0] 28)) := (((Below.refl _ _).alloc (Nat.le_refl _) _).alloc (by simp) _).alloc (by simp; omega) _
  have HC := toFileS_any v ga oa l _ (hv.later hb0)
  obtain ⟨a, cap, rfl⟩ := hv.shape
  have hg1 : (((w.alloc (.cells #[.slice a l.length cap] 24)).alloc (.cells #[.slice none 0 0] 28)).alloc (.cells #[.slice none 0 0] 28)).heap[w.heap.size + 1]? = some (.cells #[.slice none 0 0] 28 (0, 0)) := alloc_snd _ _ _ (by simp)
  have hg2 : (((w.alloc (.cells #[.slice a l.length cap] 24)).alloc (.cells #[.slice none 0 0] 28)).alloc (.cells #[.slice none 0 0] 28)).heap[w.heap.size + 2]? = some (.cells #[.slice none 0 0] 28 (0, 0)) := alloc_fst _ _ (by simp)
  have HG : Hid (Below w.heap.size w (((w.alloc (.cells #[.slice a l.length cap] 24)).alloc (.cells #[.slice none 0 0] 28)).alloc (.cells #[.slice none 0 0] 28)) ∧ (((w.alloc (.cells #[.slice a l.length cap] 24)).alloc (.cells #[.slice none 0 0] 28)).alloc (.cells #[.slice none 0 0] 28)).heap[w.heap.size + 1]? = some (.cells #[.slice none 0 0] 28 (0, 0)) ∧ (((w.alloc (.cells #[.slice a l.length cap] 24)).alloc (.cells #[.slice none 0 0] 28)).alloc (.cells #[.slice none 0 0] 28)).heap[w.heap.size + 2]? = some (.cells #[.slice none 0 0] 28 (0, 0))) := ⟨hb0, hg1, hg2⟩
  clear hb0 hg1 hg2 hv
  go_enter Tryz.func9, Tryz.ntmps9
  go_wp2_with fail
  refine HC.mono ?_
  rintro e w1 ⟨g, rfl, hg, hrw, hgl, hb⟩
  have hsz : (((w.alloc (.cells #[.slice a l.length cap] 24)).alloc (.cells #[.slice none 0 0] 28)).alloc (.cells #[.slice none 0 0] 28)).heap.size = w.heap.size + 3 := by simp
  rw [hsz] at hg
  have h1 : w1.heap[w.heap.size + 1]? = some (.cells #[.slice none 0 0] 28 (0, 0)) := (hb.block _ (by rw [hsz]; omega)).trans HG.out.2.1
  have h2 : w1.heap[w.heap.size + 2]? = some (.cells #[.slice none 0 0] 28 (0, 0)) := (hb.block _ (by rw [hsz]; omega)).trans HG.out.2.2
  have c1 : w1.cell? ⟨w.heap.size + 1, 0, none⟩ = some (.slice none 0 0) := by rw [cell_of_row _ _ 0 _ _ _ h1]; rfl
  have c2 : w1.cell? ⟨w.heap.size + 2, 0, none⟩ = some (.slice none 0 0) := by rw [cell_of_row _ _ 0 _ _ _ h2]; rfl
  have f1 : w1.frozen? ⟨w.heap.size + 1, 0, none⟩ = false := by simp [World.frozen?, h1]
  have f2 : w1.frozen? ⟨w.heap.size + 2, 0, none⟩ = false := by simp [World.frozen?, h2]
  have hb1 := HG.out.1.trans (hb.mono (by rw [hsz]; omega))
  have hr2 := (hrw.grown (grown_setC w1 (w.heap.size + 2) 0 (.slice (some ⟨g, 0, none⟩) l.length l.length)) (fun _ => by simp; omega)).grown (grown_setC _ (w.heap.size + 1) 0 (.slice (some ⟨g, 0, none⟩) l.length l.length)) (fun _ => by simp; omega)
  have HR : Hid (RW 3 fcs ((w1.setCell ⟨w.heap.size + 2, 0, none⟩ (.slice (some ⟨g, 0, none⟩) l.length l.length)).setCell ⟨w.heap.size + 1, 0, none⟩ (.slice (some ⟨g, 0, none⟩) l.length l.length)) (.slice (some ⟨g, 0, none⟩) l.length l.length) g l ∧ Below w.heap.size w ((w1.setCell ⟨w.heap.size + 2, 0, none⟩ (.slice (some ⟨g, 0, none⟩) l.length l.length)).setCell ⟨w.heap.size + 1, 0, none⟩ (.slice (some ⟨g, 0, none⟩) l.length l.length))) := ⟨hr2, (hb1.setCell (p := ⟨w.heap.size + 2, 0, none⟩) (by simp) _).setCell (p := ⟨w.heap.size + 1, 0, none⟩) (by simp) _⟩
  have HCS : Hid (((w1.setCell ⟨w.heap.size + 2, 0, none⟩ (.slice (some ⟨g, 0, none⟩) l.length l.length)).setCell ⟨w.heap.size + 1, 0, none⟩ (.slice (some ⟨g, 0, none⟩) l.length l.length)).cell? ⟨w.heap.size + 1, 0, none⟩ = some (.slice (some ⟨g, 0, none⟩) l.length l.length)) := cell_set_same (((grown_setC w1 (w.heap.size + 2) 0 _).block _ (Array.getElem?_eq_some_iff.1 h1).1 (by simp)).trans h1) (by simp) _
  clear hr2 hrw hb HC HG hb1 hsz
  go_wp2
  refine ret_rec 2 (w.heap.size + 1) 28 [.slice (some ⟨g, 0, none⟩) l.length l.length] _ rfl rfl rfl Tryz.underlying28 rfl sizeDisk (range1 HCS.out) ?_
  exact ⟨g, rfl, HR.out.1, by omega, HR.out.1.lt, HR.out.2⟩

end Go.Proofs.YthlgohplljcgfaaGreatDoor
/-
  A proof in a box of its own: read, stored, answered.
-/
namespace Go.Proofs.YthlgohplljcgfaaGreatDoor
open Go.RowKit Go.BigFrame Go.Sort
set_option linter.unusedVariables false
set_option linter.unusedSimpArgs false

theorem cell_up {w w' : World} {p : Addr} {v : Value} (h : w.cell? p = some v) (hb : Below w.heap.size w w') : w'.cell? p = some v := by
  have hlt : p.block < w.heap.size := by
    rcases Nat.lt_or_ge p.block w.heap.size with h5 | h5
    · exact h5
    · simp [World.cell?, Array.getElem?_eq_none h5] at h
  exact (hb.cell hlt).trans h
section
variable {w : World} {ops : Array Oper} {rest : List Oper} {o : Oper} {a : Act} {Q : Exit → Act → World → Prop}
end
theorem grown_setRowP (w : World) (g : Nat) (R : Array Value) : w.grownBy (w.setRow g R) (some g) :=
  ⟨rfl, rfl, rfl, by simp [World.setRow], fun k _ hk => setRow_other w g k R (fun e => hk (by simp [e]))⟩
theorem below_row {B g : Nat} {w0 w : World} {R : Array Value} (h : Below B w0 w) (hg : B ≤ g) : Below B w0 (w.setRow g R) :=
  h.trans ⟨rfl, rfl, rfl, by simp [World.setRow], fun k hk => setRow_other w g k R (by omega)⟩
theorem size_setRowP (w : World) (g : Nat) (R : Array Value) : (w.setRow g R).heap.size = w.heap.size := by simp [World.setRow]
end Go.Proofs.YthlgohplljcgfaaGreatDoor
/-
  What the laws' own helpers do with servers: taken over.
-/
namespace Go.Proofs.YthlgohplljcgfaaGreatDoor
open Go.RowKit Go.BigFrame Go.Sort
set_option linter.unusedVariables false
set_option linter.unusedSimpArgs false

theorem sizeSrv : (Tryz.prog.info? 35).map (·.size) = some 11 := by kernel_rfl
section
variable {x0 x1 x2 x3 x4 x5 x6 x7 x8 x9 x10 : Value}
theorem ret_srv {fn : Func} {Rp : Ending → World → Prop} {a : Act} {w : World} (c g : Nat) (hres : fn.results = #[.cell c 35]) (hd : a.defers = []) (hp : a.tmps.getD c undef = .pointer (some ⟨g, 0, none⟩)) (hA : Box 35 w g [x0, x1, x2, x3, x4, x5, x6, x7, x8, x9, x10]) (h : Rp (.returned (.agg #[x0, x1, x2, x3, x4, x5, x6, x7, x8, x9, x10])) w) : bodyPost Tryz.prog fn Rp .ret a w :=
  ret_rec c g 35 [x0, x1, x2, x3, x4, x5, x6, x7, x8, x9, x10] _ hres hd hp Tryz.underlying35 rfl sizeSrv hA.range h
theorem load_srv {w : World} {g : Nat} (hA : Box 35 w g [x0, x1, x2, x3, x4, x5, x6, x7, x8, x9, x10]) : (loadVar 35 ⟨g, 0, none⟩).run Tryz.prog w = .ok (.agg #[x0, x1, x2, x3, x4, x5, x6, x7, x8, x9, x10]) w :=
  run_loadVar_row (P := Tryz.prog) w g 35 35 _ (0, 0) _ hA Tryz.underlying35 rfl sizeSrv
variable {w : World} {ops : Array Oper} {rest : List Oper} {o : Oper} {a : Act} {Q : Exit → Act → World → Prop}
theorem wp_loadSrv (hgd : o.guard = none) (p : Operand) (ho : o.op = .load 35 p) (g : Nat) (hp : a.eval p = .pointer (some ⟨g, 0, none⟩)) (hA : Box 35 w g [x0, x1, x2, x3, x4, x5, x6, x7, x8, x9, x10])
    (h : wpList Tryz.prog ops Q rest (a.put o.dst (.agg #[x0, x1, x2, x3, x4, x5, x6, x7, x8, x9, x10])) w) : wpList Tryz.prog ops Q (o :: rest) a w := by
  refine wpList_plain hgd fun K hK => ?_
  have hr : (Instr.loadAt 35 (.pointer (some ⟨g, 0, none⟩))).run Tryz.prog w = .ok (.agg #[x0, x1, x2, x3, x4, x5, x6, x7, x8, x9, x10]) w := by
    simp only [Instr.loadAt, Instr.sureAddr, Sem.run_bind, Sem.run_pure, Result.andThen]
    exact load_srv hA
  unfold Oper.wp
  simp [execOp, ho, hp, hr, Result.andThen]
  exact hK _ _ h
theorem wp_storeSrv (hgd : o.guard = none) (p v : Operand) (ho : o.op = .store 35 p v) (g : Nat) (y0 y1 y2 y3 y4 y5 y6 y7 y8 y9 y10 : Value) (hA : Box 35 w g [x0, x1, x2, x3, x4, x5, x6, x7, x8, x9, x10]) (hp : a.eval p = .pointer (some ⟨g, 0, none⟩)) (hv : a.eval v = .agg #[y0, y1, y2, y3, y4, y5, y6, y7, y8, y9, y10])
    (h1 : y0.oneCell' = true ∧ y1.oneCell' = true ∧ y2.oneCell' = true ∧ y3.oneCell' = true ∧ y4.oneCell' = true ∧ y5.oneCell' = true ∧ y6.oneCell' = true ∧ y7.oneCell' = true ∧ y8.oneCell' = true ∧ y9.oneCell' = true ∧ y10.oneCell' = true)
    (h : Box 35 (w.setRow g #[y0, y1, y2, y3, y4, y5, y6, y7, y8, y9, y10]) g [y0, y1, y2, y3, y4, y5, y6, y7, y8, y9, y10] → wpList Tryz.prog ops Q rest (a.put o.dst (.tuple #[])) (w.setRow g #[y0, y1, y2, y3, y4, y5, y6, y7, y8, y9, y10])) : wpList Tryz.prog ops Q (o :: rest) a w := by
  refine wpList_plain hgd fun K hK => ?_
  have hr : (Instr.storeAt 35 (.pointer (some ⟨g, 0, none⟩)) (.agg #[y0, y1, y2, y3, y4, y5, y6, y7, y8, y9, y10])).run Tryz.prog w = .ok () (w.setRow g #[y0, y1, y2, y3, y4, y5, y6, y7, y8, y9, y10]) := by
    simp only [Instr.storeAt, Instr.sureAddr, Sem.run_bind, Sem.run_pure, Result.andThen]
    refine run_storeVar_row w g 35 35 _ _ hA sizeSrv rfl ?_
    simp [h1]
  unfold Oper.wp
  simp [execOp, ho, hp, hv, hr, Result.andThen]
  exact hK _ _ (h (setRow_heap w g _ _ _ _ hA))
end
theorem XW.kept {B q : Nat} {w w' : World} {go : Nat} {G : List Nat} {P : List (List Le)} (h : XW B w go G P) (hg : w.grownBy w' (some q)) (hq : q < B) : XW B w' go G P := by
  obtain ⟨h1, h2, h3, h4, h5, h6, h7⟩ := h
  refine ⟨h1, h2, h3, Nat.lt_of_lt_of_le h4 hg.size, h5, fun b hb' => ⟨(h6 b hb').1, Nat.lt_of_lt_of_le (h6 b hb').2.1 hg.size, (h6 b hb').2.2⟩, fun j hj hG => ⟨(cell_kept (hg.block go h4 (by simp; omega))).trans (h7 j hj hG).1, (h7 j hj hG).2.grown hg (fun _ => by have := (h6 _ (List.getElem_mem hG)).1; simp; omega)⟩⟩

/-- what a law makes of a server that it was handed -/
def ToSv (n : Sn) (L : Sr) (w : World) (e : Ending) (w' : World) : Prop := ∃ gd gv b3 e3 ga, e = .returned (.agg #[.int .i64 n.a, .int .i64 n.k, .bool n.u, .slice (some ⟨gd, 0, none⟩) L.F.length L.F.length, .int .i64 n.e, .slice (some ⟨gv, 0, none⟩) L.P.length L.P.length, .slice b3 L.I.length e3, .slice (some ⟨ga, 0, none⟩) L.U.length L.U.length, .int .i64 n.r0, .int .i64 n.r1, .int .i64 n.r2]) ∧ SvD w.heap.size w'.heap.size w' (.slice (some ⟨gd, 0, none⟩) L.F.length L.F.length) (.slice (some ⟨gv, 0, none⟩) L.P.length L.P.length) (.slice b3 L.I.length e3) (.slice (some ⟨ga, 0, none⟩) L.U.length L.U.length) L ∧ Below w.heap.size w w'

set_option maxRecDepth 100000 in
set_option maxHeartbeats 4000000 in
theorem toServer_any (n : Sn) (vd vv vt va : Value) (L : Sr) (w : World) (hM : SvS w vd vv vt va L) :
    Calls Tryz.prog 18 #[.agg #[.int .i64 n.a, .int .i64 n.k, .bool n.u, vd, .int .i64 n.e, vv, vt, va, .int .i64 n.r0, .int .i64 n.r1, .int .i64 n.r2]] w (ToSv n L w) := by
  have H1 : Hid (∀ W, Below w.heap.size w W → Calls Tryz.prog 9 #[.agg #[vd]] W fun e w' => ∃ g, e = .returned (.agg #[.slice (some ⟨g, 0, none⟩) L.F.length L.F.length]) ∧ RW 3 fcs w' (.slice (some ⟨g, 0, none⟩) L.F.length L.F.length) g L.F ∧ W.heap.size ≤ g ∧ (0 < L.F.length → g < w'.heap.size) ∧ Below W.heap.size W w') := fun W hW => by
    obtain ⟨⟨g1, o1, h1⟩, _⟩ := hM.later hW
    exact toDisk_some vd g1 o1 L.F W h1
  have H2 : Hid (∀ W, Below w.heap.size w W → Calls Tryz.prog 50 #[vv] W fun e w' => ∃ go G, e = .returned (.slice (some ⟨go, 0, none⟩) L.P.length L.P.length) ∧ XW W.heap.size w' go G L.P ∧ Below W.heap.size W w') := fun W hW => by
    obtain ⟨_, ⟨g1, o1, h1⟩, _⟩ := hM.later hW
    exact toLeafSS_any vv g1 o1 L.P W h1
  have H3 : Hid (∀ W, Below w.heap.size w W → Calls Tryz.prog 19 #[vt] W fun e w' => ∃ a c g, e = .returned (.slice a L.I.length c) ∧ IW w' (.slice a L.I.length c) g L.I ∧ W.heap.size ≤ g ∧ Below W.heap.size W w') := fun W hW => by
    obtain ⟨_, _, ⟨g1, o1, h1⟩, _⟩ := hM.later hW
    refine (toIntS_any vt g1 o1 L.I W h1).mono ?_
    rintro e w' ⟨s, g, rfl, hi, hg, hb⟩
    obtain ⟨a, c, rfl, _⟩ := id hi
    exact ⟨a, c, g, rfl, hi, hg, hb⟩
  have H4 : Hid (∀ W, Below w.heap.size w W → Calls Tryz.prog 51 #[va] W fun e w' => ∃ g, e = .returned (.slice (some ⟨g, 0, none⟩) L.U.length L.U.length) ∧ W.heap.size ≤ g ∧ RW 3 ucs w' (.slice (some ⟨g, 0, none⟩) L.U.length L.U.length) g L.U ∧ g < w'.heap.size ∧ Below W.heap.size W w') := fun W hW => by
    obtain ⟨_, _, _, ⟨g1, o1, h1⟩⟩ := hM.later hW
    exact toChangeS_any va g1 o1 L.U W h1
  obtain ⟨Post, hPost⟩ : ∃ P, ToSv n L w = P := ⟨_, rfl⟩
  have HP : Hid (ToSv n L w = Post) := hPost
  rw [hPost]
  unfold ToSv at HP
  obtain ⟨a, k, u, e, r0, r1, r2⟩ := n
  simp only at HP ⊢
  have H5 : Hid (∀ W, Calls Tryz.prog 52 #[.agg #[.int .i64 r0, .int .i64 r1, .int .i64 r2]] W fun e w' => e = .returned (.agg #[.int .i64 r0, .int .i64 r1, .int .i64 r2]) ∧ Below W.heap.size W w') := fun W => toReady_any r0 r1 r2 W
  obtain ⟨⟨ad, cd, rfl⟩, ⟨av, cv, rfl⟩, ⟨at2, ct, rfl⟩, ⟨aa, ca, rfl⟩⟩ := hM.shapes
  clear hM hPost
  have HX : Hid (∀ W, W = (((w.alloc (.cells #[.int .i64 a, .int .i64 k, .bool u, .slice ad L.F.length cd, .int .i64 e, .slice av L.P.length cv, .slice at2 L.I.length ct, .slice aa L.U.length ca, .int .i64 r0, .int .i64 r1, .int .i64 r2] 47)).alloc (.cells #[.int .i64 0, .int .i64 0, .bool false, .slice none 0 0, .int .i64 0, .slice none 0 0, .slice none 0 0, .slice none 0 0, .int .i64 0, .int .i64 0, .int .i64 0] 35)).alloc (.cells #[.int .i64 a, .int .i64 k, .bool u, .slice none 0 0, .int .i64 0, .slice none 0 0, .slice none 0 0, .slice none 0 0, .int .i64 0, .int .i64 0, .int .i64 0] 35)) → Below w.heap.size w W ∧ Box 35 W (w.heap.size + 1) [.int .i64 0, .int .i64 0, .bool false, .slice none 0 0, .int .i64 0, .slice none 0 0, .slice none 0 0, .slice none 0 0, .int .i64 0, .int .i64 0, .int .i64 0] ∧ Box 35 W (w.heap.size + 1 + 1) [.int .i64 a, .int .i64 k, .bool u, .slice none 0 0, .int .i64 0, .slice none 0 0, .slice none 0 0, .slice none 0 0, .int .i64 0, .int .i64 0, .int .i64 0] ∧ Box 47 W w.heap.size [.int .i64 a, .int .i64 k, .bool u, .slice ad L.F.length cd, .int .i64 e, .slice av L.P.length cv, .slice at2 L.I.length ct, .slice aa L.U.length ca, .int .i64 r0, .int .i64 r1, .int .i64 r2] ∧ w.heap.size + 3 ≤ W.heap.size) := fun W hW => by
    subst hW
    refine ⟨((below_alloc _ _).alloc (by simp) _).alloc (by simp; omega) _, ?_, alloc_fst _ _ (by simp), ((Box.new _ w _).later (below_alloc _ _)).later (below_alloc _ _), by simp⟩
    have h2 : ∀ (o : Obj) (cs : List Value), Box 35 ((w.alloc o).alloc (.cells cs.toArray 35)) (w.heap.size + 1) cs := fun o cs => alloc_fst _ _ (by simp)
    exact (h2 _ _).later (below_alloc _ _)
  obtain ⟨nd, hnd⟩ : ∃ nd, L.F.length = nd := ⟨_, rfl⟩
  obtain ⟨nv, hnv⟩ : ∃ nv, L.P.length = nv := ⟨_, rfl⟩
  obtain ⟨nt, hnt⟩ : ∃ nt, L.I.length = nt := ⟨_, rfl⟩
  obtain ⟨na, hna⟩ : ∃ na, L.U.length = na := ⟨_, rfl⟩
  have HN : Hid (L.F.length = nd ∧ L.P.length = nv ∧ L.I.length = nt ∧ L.U.length = na) := ⟨hnd, hnv, hnt, hna⟩
  rw [hnd] at H1 HX ⊢
  rw [hnv] at H2 HX ⊢
  rw [hnt] at H3 HX ⊢
  rw [hna] at H4 HX ⊢
  clear hnd hnv hnt hna
  have hne0 : w.heap.size ≠ w.heap.size + 1 + 1 := by omega
  go_enter Tryz.func18, Tryz.ntmps18
  go_wp2_with fail
  generalize hW0 : (((w.alloc (.cells #[.int .i64 a, .int .i64 k, .bool u, .slice ad nd cd, .int .i64 e, .slice av nv cv, .slice at2 nt ct, .slice aa na ca, .int .i64 r0, .int .i64 r1, .int .i64 r2] 47)).alloc (.cells #[.int .i64 0, .int .i64 0, .bool false, .slice none 0 0, .int .i64 0, .slice none 0 0, .slice none 0 0, .slice none 0 0, .int .i64 0, .int .i64 0, .int .i64 0] 35)).alloc (.cells #[.int .i64 a, .int .i64 k, .bool u, .slice none 0 0, .int .i64 0, .slice none 0 0, .slice none 0 0, .slice none 0 0, .int .i64 0, .int .i64 0, .int .i64 0] 35)) = W0
  have HX0 : Hid (Below w.heap.size w W0 ∧ Box 35 W0 (w.heap.size + 1) [.int .i64 0, .int .i64 0, .bool false, .slice none 0 0, .int .i64 0, .slice none 0 0, .slice none 0 0, .slice none 0 0, .int .i64 0, .int .i64 0, .int .i64 0] ∧ Box 35 W0 (w.heap.size + 1 + 1) [.int .i64 a, .int .i64 k, .bool u, .slice none 0 0, .int .i64 0, .slice none 0 0, .slice none 0 0, .slice none 0 0, .int .i64 0, .int .i64 0, .int .i64 0] ∧ Box 47 W0 w.heap.size [.int .i64 a, .int .i64 k, .bool u, .slice ad nd cd, .int .i64 e, .slice av nv cv, .slice at2 nt ct, .slice aa na ca, .int .i64 r0, .int .i64 r1, .int .i64 r2] ∧ w.heap.size + 3 ≤ W0.heap.size) := HX.out W0 hW0.symm
  clear HX hW0
  refine (H1.out _ HX0.out.1).mono ?_
  rintro e1 w1 ⟨gd, rfl, hr1, hg1, hl1, hb1⟩
  obtain ⟨b1, hb1e⟩ : ∃ b1, w1.heap.size = b1 := ⟨_, rfl⟩
  have HX1 : Hid (Below w.heap.size w w1 ∧ Box 35 w1 (w.heap.size + 1) [.int .i64 0, .int .i64 0, .bool false, .slice none 0 0, .int .i64 0, .slice none 0 0, .slice none 0 0, .slice none 0 0, .int .i64 0, .int .i64 0, .int .i64 0] ∧ Box 35 w1 (w.heap.size + 1 + 1) [.int .i64 a, .int .i64 k, .bool u, .slice none 0 0, .int .i64 0, .slice none 0 0, .slice none 0 0, .slice none 0 0, .int .i64 0, .int .i64 0, .int .i64 0] ∧ Box 47 w1 w.heap.size [.int .i64 a, .int .i64 k, .bool u, .slice ad nd cd, .int .i64 e, .slice av nv cv, .slice at2 nt ct, .slice aa na ca, .int .i64 r0, .int .i64 r1, .int .i64 r2] ∧ w.heap.size + 3 ≤ w1.heap.size ∧ b1 ≤ w1.heap.size ∧ w.heap.size + 3 ≤ b1 ∧ RW 3 fcs w1 (.slice (some ⟨gd, 0, none⟩) nd nd) gd L.F ∧ w.heap.size + 3 ≤ gd ∧ (0 < L.F.length → gd < b1)) := by
    obtain ⟨k1, k2, k3, k4, k5⟩ := HX0.out
    rw [hb1e] at hl1
    have := hb1.size
    exact ⟨k1.trans (hb1.mono k1.size), k2.later hb1, k3.later hb1, k4.later hb1, by omega, by omega, by omega, hr1, by omega, by rw [HN.out.1]; exact hl1⟩
  clear hr1 hg1 hl1 hb1 hb1e HX0 H1
  have q3 := HX1.out.2.2.1.at 3 _ rfl
  have j3 := HX1.out.2.2.1.fz 3
  have q4 := HX1.out.2.2.1.at 4 _ rfl
  have j4 := HX1.out.2.2.1.fz 4
  have z4 := HX1.out.2.2.2.1.at 4 _ rfl
  have z5 := HX1.out.2.2.2.1.at 5 _ rfl
  have HY1 : Hid (∀ W, W = ((w1.setCell ⟨w.heap.size + 1 + 1, 3, none⟩ (.slice (some ⟨gd, 0, none⟩) nd nd)).setCell ⟨w.heap.size + 1 + 1, 4, none⟩ (.int .i64 e)) → Below w.heap.size w W ∧ Box 35 W (w.heap.size + 1) [.int .i64 0, .int .i64 0, .bool false, .slice none 0 0, .int .i64 0, .slice none 0 0, .slice none 0 0, .slice none 0 0, .int .i64 0, .int .i64 0, .int .i64 0] ∧ Box 35 W (w.heap.size + 1 + 1) [.int .i64 a, .int .i64 k, .bool u, .slice (some ⟨gd, 0, none⟩) nd nd, .int .i64 e, .slice none 0 0, .slice none 0 0, .slice none 0 0, .int .i64 0, .int .i64 0, .int .i64 0] ∧ Box 47 W w.heap.size [.int .i64 a, .int .i64 k, .bool u, .slice ad nd cd, .int .i64 e, .slice av nv cv, .slice at2 nt ct, .slice aa na ca, .int .i64 r0, .int .i64 r1, .int .i64 r2] ∧ w.heap.size + 3 ≤ W.heap.size ∧ b1 ≤ W.heap.size ∧ w.heap.size + 3 ≤ b1 ∧ RW 3 fcs W (.slice (some ⟨gd, 0, none⟩) nd nd) gd L.F ∧ w.heap.size + 3 ≤ gd ∧ (0 < L.F.length → gd < b1)) := fun W hW => by
    subst hW
    have hg := ((grown_setC w1 (w.heap.size + 1 + 1) 3 (.slice (some ⟨gd, 0, none⟩) nd nd)).trans (grown_setC (w1.setCell ⟨w.heap.size + 1 + 1, 3, none⟩ (.slice (some ⟨gd, 0, none⟩) nd nd)) (w.heap.size + 1 + 1) 4 (.int .i64 e)))
    obtain ⟨k1, k2, k3, k4, k5, d1, d2, m1, m2, m3⟩ := HX1.out
    have hsz := hg.size
    exact ⟨k1.grown hg k1.size (fun k hk => by simp at hk; omega), k2.grown hg (by simp), ((k3.set 3 _).set 4 _), k4.grown hg (by simp; omega), by omega, by omega, d2, m1.grown hg (fun _ => by simp; omega), m2, m3⟩
  go_wp2_with fail
  generalize hW1 : ((w1.setCell ⟨w.heap.size + 1 + 1, 3, none⟩ (.slice (some ⟨gd, 0, none⟩) nd nd)).setCell ⟨w.heap.size + 1 + 1, 4, none⟩ (.int .i64 e)) = W1
  have HZ1 : Hid (Below w.heap.size w W1 ∧ Box 35 W1 (w.heap.size + 1) [.int .i64 0, .int .i64 0, .bool false, .slice none 0 0, .int .i64 0, .slice none 0 0, .slice none 0 0, .slice none 0 0, .int .i64 0, .int .i64 0, .int .i64 0] ∧ Box 35 W1 (w.heap.size + 1 + 1) [.int .i64 a, .int .i64 k, .bool u, .slice (some ⟨gd, 0, none⟩) nd nd, .int .i64 e, .slice none 0 0, .slice none 0 0, .slice none 0 0, .int .i64 0, .int .i64 0, .int .i64 0] ∧ Box 47 W1 w.heap.size [.int .i64 a, .int .i64 k, .bool u, .slice ad nd cd, .int .i64 e, .slice av nv cv, .slice at2 nt ct, .slice aa na ca, .int .i64 r0, .int .i64 r1, .int .i64 r2] ∧ w.heap.size + 3 ≤ W1.heap.size ∧ b1 ≤ W1.heap.size ∧ w.heap.size + 3 ≤ b1 ∧ RW 3 fcs W1 (.slice (some ⟨gd, 0, none⟩) nd nd) gd L.F ∧ w.heap.size + 3 ≤ gd ∧ (0 < L.F.length → gd < b1)) := HY1.out W1 hW1.symm
  clear HY1 hW1 HX1 q3 j3 q4 j4 z4 z5
  refine (H2.out _ HZ1.out.1).mono ?_
  rintro e2 w2 ⟨gv, G, rfl, hx2, hb2⟩
  obtain ⟨b2, hb2e⟩ : ∃ b2, w2.heap.size = b2 := ⟨_, rfl⟩
  have HX2 : Hid (Below w.heap.size w w2 ∧ Box 35 w2 (w.heap.size + 1) [.int .i64 0, .int .i64 0, .bool false, .slice none 0 0, .int .i64 0, .slice none 0 0, .slice none 0 0, .slice none 0 0, .int .i64 0, .int .i64 0, .int .i64 0] ∧ Box 35 w2 (w.heap.size + 1 + 1) [.int .i64 a, .int .i64 k, .bool u, .slice (some ⟨gd, 0, none⟩) nd nd, .int .i64 e, .slice none 0 0, .slice none 0 0, .slice none 0 0, .int .i64 0, .int .i64 0, .int .i64 0] ∧ Box 47 w2 w.heap.size [.int .i64 a, .int .i64 k, .bool u, .slice ad nd cd, .int .i64 e, .slice av nv cv, .slice at2 nt ct, .slice aa na ca, .int .i64 r0, .int .i64 r1, .int .i64 r2] ∧ w.heap.size + 3 ≤ w2.heap.size ∧ b1 ≤ b2 ∧ b2 ≤ w2.heap.size ∧ w.heap.size + 3 ≤ b1 ∧ RW 3 fcs w2 (.slice (some ⟨gd, 0, none⟩) nd nd) gd L.F ∧ w.heap.size + 3 ≤ gd ∧ (0 < L.F.length → gd < b1) ∧ XW b1 w2 gv G L.P ∧ gv < b2 ∧ (∀ b ∈ G, b < b2)) := by
    obtain ⟨k1, k2, k3, k4, k5, d1, d2, m1, m2, m3⟩ := HZ1.out
    have hsz := hb2.size
    obtain ⟨t1, t2, t3, t4, t5, t6, t7⟩ := id hx2
    exact ⟨k1.trans (hb2.mono k1.size), k2.later hb2, k3.later hb2, k4.later hb2, by omega, by omega, by omega, d2, m1.later hb2, m2, m3, ⟨t1, t2, by omega, t4, t5, fun b hb => ⟨by have := (t6 b hb).1; omega, (t6 b hb).2⟩, t7⟩, by omega, fun b hb => by have := (t6 b hb).2.1; omega⟩
  clear hx2 hb2 hb2e HZ1 H2
  have q5 := HX2.out.2.2.1.at 5 _ rfl
  have j5 := HX2.out.2.2.1.fz 5
  have z6 := HX2.out.2.2.2.1.at 6 _ rfl
  have HY2 : Hid (∀ W, W = (w2.setCell ⟨w.heap.size + 1 + 1, 5, none⟩ (.slice (some ⟨gv, 0, none⟩) nv nv)) → Below w.heap.size w W ∧ Box 35 W (w.heap.size + 1) [.int .i64 0, .int .i64 0, .bool false, .slice none 0 0, .int .i64 0, .slice none 0 0, .slice none 0 0, .slice none 0 0, .int .i64 0, .int .i64 0, .int .i64 0] ∧ Box 35 W (w.heap.size + 1 + 1) [.int .i64 a, .int .i64 k, .bool u, .slice (some ⟨gd, 0, none⟩) nd nd, .int .i64 e, .slice (some ⟨gv, 0, none⟩) nv nv, .slice none 0 0, .slice none 0 0, .int .i64 0, .int .i64 0, .int .i64 0] ∧ Box 47 W w.heap.size [.int .i64 a, .int .i64 k, .bool u, .slice ad nd cd, .int .i64 e, .slice av nv cv, .slice at2 nt ct, .slice aa na ca, .int .i64 r0, .int .i64 r1, .int .i64 r2] ∧ w.heap.size + 3 ≤ W.heap.size ∧ b1 ≤ b2 ∧ b2 ≤ W.heap.size ∧ w.heap.size + 3 ≤ b1 ∧ RW 3 fcs W (.slice (some ⟨gd, 0, none⟩) nd nd) gd L.F ∧ w.heap.size + 3 ≤ gd ∧ (0 < L.F.length → gd < b1) ∧ XW b1 W gv G L.P ∧ gv < b2 ∧ (∀ b ∈ G, b < b2)) := fun W hW => by
    subst hW
    have hg := (grown_setC w2 (w.heap.size + 1 + 1) 5 (.slice (some ⟨gv, 0, none⟩) nv nv))
    obtain ⟨k1, k2, k3, k4, k5, d0, d1, d2, m1, m2, m3, m4, m5, m6⟩ := HX2.out
    have hsz := hg.size
    exact ⟨k1.grown hg k1.size (fun k hk => by simp at hk; omega), k2.grown hg (by simp), (k3.set 5 _), k4.grown hg (by simp; omega), by omega, by omega, by omega, d2, m1.grown hg (fun _ => by simp; omega), m2, m3, m4.kept hg (by omega), m5, m6⟩
  go_wp2_with fail
  generalize hW2 : (w2.setCell ⟨w.heap.size + 1 + 1, 5, none⟩ (.slice (some ⟨gv, 0, none⟩) nv nv)) = W2
  have HZ2 : Hid (Below w.heap.size w W2 ∧ Box 35 W2 (w.heap.size + 1) [.int .i64 0, .int .i64 0, .bool false, .slice none 0 0, .int .i64 0, .slice none 0 0, .slice none 0 0, .slice none 0 0, .int .i64 0, .int .i64 0, .int .i64 0] ∧ Box 35 W2 (w.heap.size + 1 + 1) [.int .i64 a, .int .i64 k, .bool u, .slice (some ⟨gd, 0, none⟩) nd nd, .int .i64 e, .slice (some ⟨gv, 0, none⟩) nv nv, .slice none 0 0, .slice none 0 0, .int .i64 0, .int .i64 0, .int .i64 0] ∧ Box 47 W2 w.heap.size [.int .i64 a, .int .i64 k, .bool u, .slice ad nd cd, .int .i64 e, .slice av nv cv, .slice at2 nt ct, .slice aa na ca, .int .i64 r0, .int .i64 r1, .int .i64 r2] ∧ w.heap.size + 3 ≤ W2.heap.size ∧ b1 ≤ b2 ∧ b2 ≤ W2.heap.size ∧ w.heap.size + 3 ≤ b1 ∧ RW 3 fcs W2 (.slice (some ⟨gd, 0, none⟩) nd nd) gd L.F ∧ w.heap.size + 3 ≤ gd ∧ (0 < L.F.length → gd < b1) ∧ XW b1 W2 gv G L.P ∧ gv < b2 ∧ (∀ b ∈ G, b < b2)) := HY2.out W2 hW2.symm
  clear HY2 hW2 HX2 q5 j5 z6
  refine (H3.out _ HZ2.out.1).mono ?_
  rintro e3_ w3 ⟨b3, e3, g3, rfl, hx3, hg3, hb3⟩
  obtain ⟨b3', hb3e⟩ : ∃ b3', w3.heap.size = b3' := ⟨_, rfl⟩
  have HX3 : Hid (Below w.heap.size w w3 ∧ Box 35 w3 (w.heap.size + 1) [.int .i64 0, .int .i64 0, .bool false, .slice none 0 0, .int .i64 0, .slice none 0 0, .slice none 0 0, .slice none 0 0, .int .i64 0, .int .i64 0, .int .i64 0] ∧ Box 35 w3 (w.heap.size + 1 + 1) [.int .i64 a, .int .i64 k, .bool u, .slice (some ⟨gd, 0, none⟩) nd nd, .int .i64 e, .slice (some ⟨gv, 0, none⟩) nv nv, .slice none 0 0, .slice none 0 0, .int .i64 0, .int .i64 0, .int .i64 0] ∧ Box 47 w3 w.heap.size [.int .i64 a, .int .i64 k, .bool u, .slice ad nd cd, .int .i64 e, .slice av nv cv, .slice at2 nt ct, .slice aa na ca, .int .i64 r0, .int .i64 r1, .int .i64 r2] ∧ w.heap.size + 3 ≤ w3.heap.size ∧ b1 ≤ b2 ∧ b2 ≤ b3' ∧ b3' ≤ w3.heap.size ∧ w.heap.size + 3 ≤ b1 ∧ RW 3 fcs w3 (.slice (some ⟨gd, 0, none⟩) nd nd) gd L.F ∧ w.heap.size + 3 ≤ gd ∧ (0 < L.F.length → gd < b1) ∧ XW b1 w3 gv G L.P ∧ gv < b2 ∧ (∀ b ∈ G, b < b2) ∧ IW w3 (.slice b3 nt e3) g3 L.I ∧ b2 ≤ g3 ∧ (0 < L.I.length → g3 < b3')) := by
    obtain ⟨k1, k2, k3, k4, k5, d0, d1, d2, m1, m2, m3, m4, m5, m6⟩ := HZ2.out
    have hsz := hb3.size
    have hlt := hx3.lt
    exact ⟨k1.trans (hb3.mono k1.size), k2.later hb3, k3.later hb3, k4.later hb3, by omega, by omega, by omega, by omega, d2, m1.later hb3, m2, m3, m4.later hb3, m5, m6, hx3, by omega, fun h => by have := hlt h; omega⟩
  clear hx3 hg3 hb3 hb3e HZ2 H3
  have q6 := HX3.out.2.2.1.at 6 _ rfl
  have j6 := HX3.out.2.2.1.fz 6
  have z7 := HX3.out.2.2.2.1.at 7 _ rfl
  have HY3 : Hid (∀ W, W = (w3.setCell ⟨w.heap.size + 1 + 1, 6, none⟩ (.slice b3 nt e3)) → Below w.heap.size w W ∧ Box 35 W (w.heap.size + 1) [.int .i64 0, .int .i64 0, .bool false, .slice none 0 0, .int .i64 0, .slice none 0 0, .slice none 0 0, .slice none 0 0, .int .i64 0, .int .i64 0, .int .i64 0] ∧ Box 35 W (w.heap.size + 1 + 1) [.int .i64 a, .int .i64 k, .bool u, .slice (some ⟨gd, 0, none⟩) nd nd, .int .i64 e, .slice (some ⟨gv, 0, none⟩) nv nv, .slice b3 nt e3, .slice none 0 0, .int .i64 0, .int .i64 0, .int .i64 0] ∧ Box 47 W w.heap.size [.int .i64 a, .int .i64 k, .bool u, .slice ad nd cd, .int .i64 e, .slice av nv cv, .slice at2 nt ct, .slice aa na ca, .int .i64 r0, .int .i64 r1, .int .i64 r2] ∧ w.heap.size + 3 ≤ W.heap.size ∧ b1 ≤ b2 ∧ b2 ≤ b3' ∧ b3' ≤ W.heap.size ∧ w.heap.size + 3 ≤ b1 ∧ RW 3 fcs W (.slice (some ⟨gd, 0, none⟩) nd nd) gd L.F ∧ w.heap.size + 3 ≤ gd ∧ (0 < L.F.length → gd < b1) ∧ XW b1 W gv G L.P ∧ gv < b2 ∧ (∀ b ∈ G, b < b2) ∧ IW W (.slice b3 nt e3) g3 L.I ∧ b2 ≤ g3 ∧ (0 < L.I.length → g3 < b3')) := fun W hW => by
    subst hW
    have hg := (grown_setC w3 (w.heap.size + 1 + 1) 6 (.slice b3 nt e3))
    obtain ⟨k1, k2, k3, k4, k5, d0, d1, d3, d2, m1, m2, m3, m4, m5, m6, m7, m8, m9⟩ := HX3.out
    have hsz := hg.size
    exact ⟨k1.grown hg k1.size (fun k hk => by simp at hk; omega), k2.grown hg (by simp), (k3.set 6 _), k4.grown hg (by simp; omega), by omega, by omega, by omega, by omega, d2, m1.grown hg (fun _ => by simp; omega), m2, m3, m4.kept hg (by omega), m5, m6, m7.grown hg (fun _ => by simp; omega), m8, m9⟩
  go_wp2_with fail
  generalize hW3 : (w3.setCell ⟨w.heap.size + 1 + 1, 6, none⟩ (.slice b3 nt e3)) = W3
  have HZ3 : Hid (Below w.heap.size w W3 ∧ Box 35 W3 (w.heap.size + 1) [.int .i64 0, .int .i64 0, .bool false, .slice none 0 0, .int .i64 0, .slice none 0 0, .slice none 0 0, .slice none 0 0, .int .i64 0, .int .i64 0, .int .i64 0] ∧ Box 35 W3 (w.heap.size + 1 + 1) [.int .i64 a, .int .i64 k, .bool u, .slice (some ⟨gd, 0, none⟩) nd nd, .int .i64 e, .slice (some ⟨gv, 0, none⟩) nv nv, .slice b3 nt e3, .slice none 0 0, .int .i64 0, .int .i64 0, .int .i64 0] ∧ Box 47 W3 w.heap.size [.int .i64 a, .int .i64 k, .bool u, .slice ad nd cd, .int .i64 e, .slice av nv cv, .slice at2 nt ct, .slice aa na ca, .int .i64 r0, .int .i64 r1, .int .i64 r2] ∧ w.heap.size + 3 ≤ W3.heap.size ∧ b1 ≤ b2 ∧ b2 ≤ b3' ∧ b3' ≤ W3.heap.size ∧ w.heap.size + 3 ≤ b1 ∧ RW 3 fcs W3 (.slice (some ⟨gd, 0, none⟩) nd nd) gd L.F ∧ w.heap.size + 3 ≤ gd ∧ (0 < L.F.length → gd < b1) ∧ XW b1 W3 gv G L.P ∧ gv < b2 ∧ (∀ b ∈ G, b < b2) ∧ IW W3 (.slice b3 nt e3) g3 L.I ∧ b2 ≤ g3 ∧ (0 < L.I.length → g3 < b3')) := HY3.out W3 hW3.symm
  clear HY3 hW3 HX3 q6 j6 z7
  refine (H4.out _ HZ3.out.1).mono ?_
  rintro e4 w4 ⟨ga, rfl, hg4, hx4, hl4, hb4⟩
  obtain ⟨b4, hb4e⟩ : ∃ b4, w4.heap.size = b4 := ⟨_, rfl⟩
  have HX4 : Hid (Below w.heap.size w w4 ∧ Box 35 w4 (w.heap.size + 1) [.int .i64 0, .int .i64 0, .bool false, .slice none 0 0, .int .i64 0, .slice none 0 0, .slice none 0 0, .slice none 0 0, .int .i64 0, .int .i64 0, .int .i64 0] ∧ Box 35 w4 (w.heap.size + 1 + 1) [.int .i64 a, .int .i64 k, .bool u, .slice (some ⟨gd, 0, none⟩) nd nd, .int .i64 e, .slice (some ⟨gv, 0, none⟩) nv nv, .slice b3 nt e3, .slice none 0 0, .int .i64 0, .int .i64 0, .int .i64 0] ∧ Box 47 w4 w.heap.size [.int .i64 a, .int .i64 k, .bool u, .slice ad nd cd, .int .i64 e, .slice av nv cv, .slice at2 nt ct, .slice aa na ca, .int .i64 r0, .int .i64 r1, .int .i64 r2] ∧ w.heap.size + 3 ≤ w4.heap.size ∧ b1 ≤ b2 ∧ b2 ≤ b3' ∧ b3' ≤ b4 ∧ b4 ≤ w4.heap.size ∧ w.heap.size + 3 ≤ b1 ∧ RW 3 fcs w4 (.slice (some ⟨gd, 0, none⟩) nd nd) gd L.F ∧ w.heap.size + 3 ≤ gd ∧ (0 < L.F.length → gd < b1) ∧ XW b1 w4 gv G L.P ∧ gv < b2 ∧ (∀ b ∈ G, b < b2) ∧ IW w4 (.slice b3 nt e3) g3 L.I ∧ b2 ≤ g3 ∧ (0 < L.I.length → g3 < b3') ∧ RW 3 ucs w4 (.slice (some ⟨ga, 0, none⟩) na na) ga L.U ∧ b3' ≤ ga ∧ ga < b4) := by
    obtain ⟨k1, k2, k3, k4, k5, d0, d1, d3, d2, m1, m2, m3, m4, m5, m6, m7, m8, m9⟩ := HZ3.out
    have hsz := hb4.size
    exact ⟨k1.trans (hb4.mono k1.size), k2.later hb4, k3.later hb4, k4.later hb4, by omega, by omega, by omega, by omega, by omega, d2, m1.later hb4, m2, m3, m4.later hb4, m5, m6, m7.later hb4, m8, m9, hx4, by omega, by omega⟩
  clear hx4 hg4 hl4 hb4 hb4e HZ3 H4
  have q7 := HX4.out.2.2.1.at 7 _ rfl
  have j7 := HX4.out.2.2.1.fz 7
  have z8 := HX4.out.2.2.2.1.at 8 _ rfl
  have z9 := HX4.out.2.2.2.1.at 9 _ rfl
  have z10 := HX4.out.2.2.2.1.at 10 _ rfl
  have HY4 : Hid (∀ W, W = (w4.setCell ⟨w.heap.size + 1 + 1, 7, none⟩ (.slice (some ⟨ga, 0, none⟩) na na)) → Below w.heap.size w W ∧ Box 35 W (w.heap.size + 1) [.int .i64 0, .int .i64 0, .bool false, .slice none 0 0, .int .i64 0, .slice none 0 0, .slice none 0 0, .slice none 0 0, .int .i64 0, .int .i64 0, .int .i64 0] ∧ Box 35 W (w.heap.size + 1 + 1) [.int .i64 a, .int .i64 k, .bool u, .slice (some ⟨gd, 0, none⟩) nd nd, .int .i64 e, .slice (some ⟨gv, 0, none⟩) nv nv, .slice b3 nt e3, .slice (some ⟨ga, 0, none⟩) na na, .int .i64 0, .int .i64 0, .int .i64 0] ∧ Box 47 W w.heap.size [.int .i64 a, .int .i64 k, .bool u, .slice ad nd cd, .int .i64 e, .slice av nv cv, .slice at2 nt ct, .slice aa na ca, .int .i64 r0, .int .i64 r1, .int .i64 r2] ∧ w.heap.size + 3 ≤ W.heap.size ∧ b1 ≤ b2 ∧ b2 ≤ b3' ∧ b3' ≤ b4 ∧ b4 ≤ W.heap.size ∧ w.heap.size + 3 ≤ b1 ∧ RW 3 fcs W (.slice (some ⟨gd, 0, none⟩) nd nd) gd L.F ∧ w.heap.size + 3 ≤ gd ∧ (0 < L.F.length → gd < b1) ∧ XW b1 W gv G L.P ∧ gv < b2 ∧ (∀ b ∈ G, b < b2) ∧ IW W (.slice b3 nt e3) g3 L.I ∧ b2 ≤ g3 ∧ (0 < L.I.length → g3 < b3') ∧ RW 3 ucs W (.slice (some ⟨ga, 0, none⟩) na na) ga L.U ∧ b3' ≤ ga ∧ ga < b4) := fun W hW => by
    subst hW
    have hg := (grown_setC w4 (w.heap.size + 1 + 1) 7 (.slice (some ⟨ga, 0, none⟩) na na))
    obtain ⟨k1, k2, k3, k4, k5, d0, d1, d3, d4, d2, m1, m2, m3, m4, m5, m6, m7, m8, m9, m10, m11, m12⟩ := HX4.out
    have hsz := hg.size
    exact ⟨k1.grown hg k1.size (fun k hk => by simp at hk; omega), k2.grown hg (by simp), (k3.set 7 _), k4.grown hg (by simp; omega), by omega, by omega, by omega, by omega, by omega, d2, m1.grown hg (fun _ => by simp; omega), m2, m3, m4.kept hg (by omega), m5, m6, m7.grown hg (fun _ => by simp; omega), m8, m9, m10.grown hg (fun _ => by simp; omega), m11, m12⟩
  go_wp2_with fail
  generalize hW4 : (w4.setCell ⟨w.heap.size + 1 + 1, 7, none⟩ (.slice (some ⟨ga, 0, none⟩) na na)) = W4
  have HZ4 : Hid (Below w.heap.size w W4 ∧ Box 35 W4 (w.heap.size + 1) [.int .i64 0, .int .i64 0, .bool false, .slice none 0 0, .int .i64 0, .slice none 0 0, .slice none 0 0, .slice none 0 0, .int .i64 0, .int .i64 0, .int .i64 0] ∧ Box 35 W4 (w.heap.size + 1 + 1) [.int .i64 a, .int .i64 k, .bool u, .slice (some ⟨gd, 0, none⟩) nd nd, .int .i64 e, .slice (some ⟨gv, 0, none⟩) nv nv, .slice b3 nt e3, .slice (some ⟨ga, 0, none⟩) na na, .int .i64 0, .int .i64 0, .int .i64 0] ∧ Box 47 W4 w.heap.size [.int .i64 a, .int .i64 k, .bool u, .slice ad nd cd, .int .i64 e, .slice av nv cv, .slice at2 nt ct, .slice aa na ca, .int .i64 r0, .int .i64 r1, .int .i64 r2] ∧ w.heap.size + 3 ≤ W4.heap.size ∧ b1 ≤ b2 ∧ b2 ≤ b3' ∧ b3' ≤ b4 ∧ b4 ≤ W4.heap.size ∧ w.heap.size + 3 ≤ b1 ∧ RW 3 fcs W4 (.slice (some ⟨gd, 0, none⟩) nd nd) gd L.F ∧ w.heap.size + 3 ≤ gd ∧ (0 < L.F.length → gd < b1) ∧ XW b1 W4 gv G L.P ∧ gv < b2 ∧ (∀ b ∈ G, b < b2) ∧ IW W4 (.slice b3 nt e3) g3 L.I ∧ b2 ≤ g3 ∧ (0 < L.I.length → g3 < b3') ∧ RW 3 ucs W4 (.slice (some ⟨ga, 0, none⟩) na na) ga L.U ∧ b3' ≤ ga ∧ ga < b4) := HY4.out W4 hW4.symm
  clear HY4 hW4 HX4 q7 j7 z8 z9 z10
  refine (H5.out _).mono ?_
  rintro e5 w5 ⟨rfl, hb5⟩
  have HX5 : Hid (Below w.heap.size w w5 ∧ Box 35 w5 (w.heap.size + 1) [.int .i64 0, .int .i64 0, .bool false, .slice none 0 0, .int .i64 0, .slice none 0 0, .slice none 0 0, .slice none 0 0, .int .i64 0, .int .i64 0, .int .i64 0] ∧ Box 35 w5 (w.heap.size + 1 + 1) [.int .i64 a, .int .i64 k, .bool u, .slice (some ⟨gd, 0, none⟩) nd nd, .int .i64 e, .slice (some ⟨gv, 0, none⟩) nv nv, .slice b3 nt e3, .slice (some ⟨ga, 0, none⟩) na na, .int .i64 0, .int .i64 0, .int .i64 0] ∧ Box 47 w5 w.heap.size [.int .i64 a, .int .i64 k, .bool u, .slice ad nd cd, .int .i64 e, .slice av nv cv, .slice at2 nt ct, .slice aa na ca, .int .i64 r0, .int .i64 r1, .int .i64 r2] ∧ w.heap.size + 3 ≤ w5.heap.size ∧ b1 ≤ b2 ∧ b2 ≤ b3' ∧ b3' ≤ b4 ∧ b4 ≤ w5.heap.size ∧ w.heap.size + 3 ≤ b1 ∧ RW 3 fcs w5 (.slice (some ⟨gd, 0, none⟩) nd nd) gd L.F ∧ w.heap.size + 3 ≤ gd ∧ (0 < L.F.length → gd < b1) ∧ XW b1 w5 gv G L.P ∧ gv < b2 ∧ (∀ b ∈ G, b < b2) ∧ IW w5 (.slice b3 nt e3) g3 L.I ∧ b2 ≤ g3 ∧ (0 < L.I.length → g3 < b3') ∧ RW 3 ucs w5 (.slice (some ⟨ga, 0, none⟩) na na) ga L.U ∧ b3' ≤ ga ∧ ga < b4) := by
    obtain ⟨k1, k2, k3, k4, k5, d0, d1, d3, d4, d2, m1, m2, m3, m4, m5, m6, m7, m8, m9, m10, m11, m12⟩ := HZ4.out
    have hsz := hb5.size
    exact ⟨k1.trans (hb5.mono k1.size), k2.later hb5, k3.later hb5, k4.later hb5, by omega, by omega, by omega, by omega, by omega, d2, m1.later hb5, m2, m3, m4.later hb5, m5, m6, m7.later hb5, m8, m9, m10.later hb5, m11, m12⟩
  clear hb5 HZ4 H5
  have q8 := HX5.out.2.2.1.at 8 _ rfl
  have j8 := HX5.out.2.2.1.fz 8
  have q9 := HX5.out.2.2.1.at 9 _ rfl
  have j9 := HX5.out.2.2.1.fz 9
  have q10 := HX5.out.2.2.1.at 10 _ rfl
  have j10 := HX5.out.2.2.1.fz 10
  have HY5 : Hid (∀ W, W = (((w5.setCell ⟨w.heap.size + 1 + 1, 8, none⟩ (.int .i64 r0)).setCell ⟨w.heap.size + 1 + 1, 9, none⟩ (.int .i64 r1)).setCell ⟨w.heap.size + 1 + 1, 10, none⟩ (.int .i64 r2)) → Below w.heap.size w W ∧ Box 35 W (w.heap.size + 1) [.int .i64 0, .int .i64 0, .bool false, .slice none 0 0, .int .i64 0, .slice none 0 0, .slice none 0 0, .slice none 0 0, .int .i64 0, .int .i64 0, .int .i64 0] ∧ Box 35 W (w.heap.size + 1 + 1) [.int .i64 a, .int .i64 k, .bool u, .slice (some ⟨gd, 0, none⟩) nd nd, .int .i64 e, .slice (some ⟨gv, 0, none⟩) nv nv, .slice b3 nt e3, .slice (some ⟨ga, 0, none⟩) na na, .int .i64 r0, .int .i64 r1, .int .i64 r2] ∧ Box 47 W w.heap.size [.int .i64 a, .int .i64 k, .bool u, .slice ad nd cd, .int .i64 e, .slice av nv cv, .slice at2 nt ct, .slice aa na ca, .int .i64 r0, .int .i64 r1, .int .i64 r2] ∧ w.heap.size + 3 ≤ W.heap.size ∧ b1 ≤ b2 ∧ b2 ≤ b3' ∧ b3' ≤ b4 ∧ b4 ≤ W.heap.size ∧ w.heap.size + 3 ≤ b1 ∧ RW 3 fcs W (.slice (some ⟨gd, 0, none⟩) nd nd) gd L.F ∧ w.heap.size + 3 ≤ gd ∧ (0 < L.F.length → gd < b1) ∧ XW b1 W gv G L.P ∧ gv < b2 ∧ (∀ b ∈ G, b < b2) ∧ IW W (.slice b3 nt e3) g3 L.I ∧ b2 ≤ g3 ∧ (0 < L.I.length → g3 < b3') ∧ RW 3 ucs W (.slice (some ⟨ga, 0, none⟩) na na) ga L.U ∧ b3' ≤ ga ∧ ga < b4) := fun W hW => by
    subst hW
    have hg := (((grown_setC w5 (w.heap.size + 1 + 1) 8 (.int .i64 r0)).trans (grown_setC (w5.setCell ⟨w.heap.size + 1 + 1, 8, none⟩ (.int .i64 r0)) (w.heap.size + 1 + 1) 9 (.int .i64 r1))).trans (grown_setC ((w5.setCell ⟨w.heap.size + 1 + 1, 8, none⟩ (.int .i64 r0)).setCell ⟨w.heap.size + 1 + 1, 9, none⟩ (.int .i64 r1)) (w.heap.size + 1 + 1) 10 (.int .i64 r2)))
    obtain ⟨k1, k2, k3, k4, k5, d0, d1, d3, d4, d2, m1, m2, m3, m4, m5, m6, m7, m8, m9, m10, m11, m12⟩ := HX5.out
    have hsz := hg.size
    exact ⟨k1.grown hg k1.size (fun k hk => by simp at hk; omega), k2.grown hg (by simp), (((k3.set 8 _).set 9 _).set 10 _), k4.grown hg (by simp; omega), by omega, by omega, by omega, by omega, by omega, d2, m1.grown hg (fun _ => by simp; omega), m2, m3, m4.kept hg (by omega), m5, m6, m7.grown hg (fun _ => by simp; omega), m8, m9, m10.grown hg (fun _ => by simp; omega), m11, m12⟩
  go_upto_region 11 with fail
  generalize hW5 : (((w5.setCell ⟨w.heap.size + 1 + 1, 8, none⟩ (.int .i64 r0)).setCell ⟨w.heap.size + 1 + 1, 9, none⟩ (.int .i64 r1)).setCell ⟨w.heap.size + 1 + 1, 10, none⟩ (.int .i64 r2)) = W5
  have HZ5 : Hid (Below w.heap.size w W5 ∧ Box 35 W5 (w.heap.size + 1) [.int .i64 0, .int .i64 0, .bool false, .slice none 0 0, .int .i64 0, .slice none 0 0, .slice none 0 0, .slice none 0 0, .int .i64 0, .int .i64 0, .int .i64 0] ∧ Box 35 W5 (w.heap.size + 1 + 1) [.int .i64 a, .int .i64 k, .bool u, .slice (some ⟨gd, 0, none⟩) nd nd, .int .i64 e, .slice (some ⟨gv, 0, none⟩) nv nv, .slice b3 nt e3, .slice (some ⟨ga, 0, none⟩) na na, .int .i64 r0, .int .i64 r1, .int .i64 r2] ∧ Box 47 W5 w.heap.size [.int .i64 a, .int .i64 k, .bool u, .slice ad nd cd, .int .i64 e, .slice av nv cv, .slice at2 nt ct, .slice aa na ca, .int .i64 r0, .int .i64 r1, .int .i64 r2] ∧ w.heap.size + 3 ≤ W5.heap.size ∧ b1 ≤ b2 ∧ b2 ≤ b3' ∧ b3' ≤ b4 ∧ b4 ≤ W5.heap.size ∧ w.heap.size + 3 ≤ b1 ∧ RW 3 fcs W5 (.slice (some ⟨gd, 0, none⟩) nd nd) gd L.F ∧ w.heap.size + 3 ≤ gd ∧ (0 < L.F.length → gd < b1) ∧ XW b1 W5 gv G L.P ∧ gv < b2 ∧ (∀ b ∈ G, b < b2) ∧ IW W5 (.slice b3 nt e3) g3 L.I ∧ b2 ≤ g3 ∧ (0 < L.I.length → g3 < b3') ∧ RW 3 ucs W5 (.slice (some ⟨ga, 0, none⟩) na na) ga L.U ∧ b3' ≤ ga ∧ ga < b4) := HY5.out W5 hW5.symm
  clear HY5 hW5 HX5 q8 j8 q9 j9 q10 j10 
  go_wp2_with (first | (refine wp_loadSrv rfl _ rfl (w.heap.size + 1 + 1) rfl HZ5.out.2.2.1 ?_) | (refine wp_storeSrv rfl _ _ rfl (w.heap.size + 1) _ _ _ _ _ _ _ _ _ _ _ HZ5.out.2.1 rfl rfl ⟨rfl, rfl, rfl, rfl, rfl, rfl, rfl, rfl, rfl, rfl, rfl⟩ ?_; intro hfin) | fail)
  refine ret_srv 2 (w.heap.size + 1) rfl rfl rfl hfin ?_
  rw [← HP.out]
  obtain ⟨k1, k2, k3, k4, k5, d0, d1, d3, d4, d2, m1, m2, m3, m4, m5, m6, m7, m8, m9, m10, m11, m12⟩ := HZ5.out
  have hgr := grown_setRowP W5 (w.heap.size + 1) #[.int .i64 a, .int .i64 k, .bool u, .slice (some ⟨gd, 0, none⟩) nd nd, .int .i64 e, .slice (some ⟨gv, 0, none⟩) nv nv, .slice b3 nt e3, .slice (some ⟨ga, 0, none⟩) na na, .int .i64 r0, .int .i64 r1, .int .i64 r2]
  obtain ⟨n1, n2, n3, n4⟩ := HN.out
  rw [n1, n2, n3, n4]
  have hx := (m4.kept hgr (by omega)).vw (c := nv) n2
  have hgG0 : ∀ j (h : j < L.P.length), b1 ≤ (fun j => G.getD j 0) j ∧ (fun j => G.getD j 0) j < b2 ∧ (fun j => G.getD j 0) j ≠ gv := fun j hj => by
    have hjG : j < G.length := by rw [m4.1]; exact hj
    have e : G.getD j 0 = G[j] := by simp [List.getD, List.getElem?_eq_getElem hjG]
    simp only [e]
    exact ⟨(m4.2.2.2.2.2.1 _ (List.getElem_mem hjG)).1, m6 _ (List.getElem_mem hjG), (m4.2.2.2.2.2.1 _ (List.getElem_mem hjG)).2.2⟩
  generalize (fun j => G.getD j 0) = gf at hx hgG0
  have hgG := hgG0
  have hb1v : b1 ≤ gv := m4.2.2.1
  have hszr := hgr.size
  refine ⟨gd, gv, b3, e3, ga, rfl, ⟨gd, gv, _, _, g3, ga, m1.grown hgr (fun _ => by simp; omega), hx, m7.grown hgr (fun _ => by simp; omega), m10.grown hgr (fun _ => by simp; omega), fun h => by have := m3 h; omega, fun _ => by omega, fun j hj _ => by have := hgG j hj; omega, fun h => by have := m9 h; omega, fun _ => by omega, fun h _ => by have := m3 h; omega, fun h j hj _ => by have := m3 h; have := hgG j hj; omega, fun h h2 => by have := m3 h; have := m9 h2; omega, fun h _ => by have := m3 h; omega, fun _ h => by have := m9 h; omega, fun _ _ => by omega, fun j hj _ h => by have := m9 h; have := hgG j hj; omega, fun j hj _ _ => by have := hgG j hj; omega, fun h _ => by have := m9 h; omega⟩, below_row k1 (by omega)⟩

end Go.Proofs.YthlgohplljcgfaaGreatDoor
