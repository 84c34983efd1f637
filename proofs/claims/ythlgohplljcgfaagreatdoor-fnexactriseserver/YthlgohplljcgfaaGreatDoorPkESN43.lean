/-
  Texts laid together: Jmo, Lmk, Jl, Jlw.
-/
import Derived.Test.YthlgohplljcgfaaGreatDoorPkESN13
import Derived.Test.YthlgohplljcgfaaGreatDoorPkESN42
import Derived.Test.YthlgohplljcgfaaGreatDoorPkESN9
import Derived.Test.YthlgohplljcgfaaGreatDoorPkESN10
import Derived.Test.YthlgohplljcgfaaGreatDoorPkESN7
import Derived.Test.YthlgohplljcgfaaGreatDoorPkESN18
import Derived.Test.YthlgohplljcgfaaGreatDoorPkESN36
/-
  An answered server marked, and held against its marks.
-/
namespace Go.Proofs.YthlgohplljcgfaaGreatDoor
open Go.RowKit Go.BigFrame Go.Sort
set_option linter.unusedVariables false
set_option linter.unusedSimpArgs false

theorem mkP_row {k0 : Nat} {P : List (List Le)} {j : Nat} (h : j < (mkP k0 P).length) : ∃ h' : j < P.length, (mkP k0 P)[j].length = P[j].length := by
  have h' : j < P.length := by rw [mkP_len] at h; exact h
  exact ⟨h', by rw [mkP_at k0 P j h', lmarks_len]⟩
/-- a server whose rows bear marks from 1 on -/
def SvK (W : World) (vd vv vt va : Value) (L : Sr) (K : Int) : Prop := ∃ g1 go V g g3 g4, K = ((1 + 3 * L.F.length + 2 * flatN L.P + L.I.length + 3 * L.U.length : Nat) : Int) ∧ RW 3 fcs W vd g1 (fmarks 1 L.F.length) ∧ VW W vv go V g (mkP (1 + 3 * L.F.length) L.P) ∧ IW W vt g3 (imk (1 + 3 * L.F.length + 2 * flatN L.P) L.I.length) ∧ RW 3 ucs W va g4 (umarks (1 + 3 * L.F.length + 2 * flatN L.P + L.I.length) L.U.length)
theorem SvK.later {W W' : World} {vd vv vt va : Value} {L : Sr} {K : Int} (h : SvK W vd vv vt va L K) (hb : Below W.heap.size W W') : SvK W' vd vv vt va L K := by
  obtain ⟨g1, go, V, g, g3, g4, e, h1, h2, h3, h4⟩ := h
  exact ⟨g1, go, V, g, g3, g4, e, h1.later hb, h2.later hb, h3.later hb, h4.later hb⟩

set_option maxRecDepth 100000 in
set_option maxHeartbeats 2000000 in
theorem markServer_own (n : Sn) (vd vv vt va : Value) (L : Sr) (lo hi : Nat) (w : World) (hM : SvD lo hi w vd vv vt va L) (hsm : L.sm) (hhi : hi ≤ w.heap.size) :
    Calls Tryz.prog 14 #[.agg #[.int .i64 n.a, .int .i64 n.k, .bool n.u, vd, .int .i64 n.e, vv, vt, va, .int .i64 n.r0, .int .i64 n.r1, .int .i64 n.r2], .int .i64 1] w fun e w' => ∃ K : Int, e = .returned (.int .i64 K) ∧ 0 ≤ K ∧ InG lo hi w w' ∧ SvK w' vd vv vt va L K := by
  have hshape := hM.svs.shapes
  obtain ⟨g1, go, V, g, g3, g4, h1, h2, h3, h4, c1, c2, c3, c4, c5, d12, d13, d14, d15, d24, d25, d34, d35, d45⟩ := hM
  obtain ⟨⟨s1, s2⟩, ⟨s3, s4⟩, s5, s6, s7⟩ := hsm
  have H1 : Hid (∀ W, Below w.heap.size w W → Calls Tryz.prog 13 #[.agg #[vd], .int .i64 1] W fun e w' => e = .returned (.int .i64 (1 + 3 * L.F.length : Nat)) ∧ W.grownBy w' (rowF g1 L.F.length) ∧ RW 3 fcs w' vd g1 (fmarks 1 L.F.length)) := fun W hW => (markDisk_any vd g1 L.F 1 1 W rfl (h1.later hW) (by omega) (by omega)).mono fun e w' h => ⟨h.1, h.2.2, h.2.1⟩
  have H2 : Hid (∀ W, VW W vv go V g L.P → Calls Tryz.prog 40 #[vv, .int .i64 (1 + 3 * L.F.length : Nat)] W fun e w' => e = .returned (.int .i64 (1 + 3 * L.F.length + 2 * flatN L.P : Nat)) ∧ InG lo hi W w' ∧ KeepG g L.P W w' ∧ VW w' vv go V g (mkP (1 + 3 * L.F.length) L.P)) := fun W hW => (markLeafSS_at vv lo hi go V g L.P _ _ W rfl hW c3 (by omega) (by omega) s4).mono fun e w' h => h
  have H3 : Hid (∀ W, IW W vt g3 L.I → Calls Tryz.prog 22 #[vt, .int .i64 (1 + 3 * L.F.length + 2 * flatN L.P : Nat)] W fun e w' => e = .returned (.int .i64 (1 + 3 * L.F.length + 2 * flatN L.P + L.I.length : Nat)) ∧ W.grownBy w' (rowF g3 L.I.length) ∧ IW w' vt g3 (imk (1 + 3 * L.F.length + 2 * flatN L.P) L.I.length)) := fun W hW => (markIntS_own vt g3 L.I _ _ W rfl hW (by omega)).mono fun e w' h => ⟨h.1, h.2.2, h.2.1⟩
  have H4 : Hid (∀ W, RW 3 ucs W va g4 L.U → Calls Tryz.prog 41 #[va, .int .i64 (1 + 3 * L.F.length + 2 * flatN L.P + L.I.length : Nat)] W fun e w' => e = .returned (.int .i64 (1 + 3 * L.F.length + 2 * flatN L.P + L.I.length + 3 * L.U.length : Nat)) ∧ W.grownBy w' (rowF g4 L.U.length) ∧ RW 3 ucs w' va g4 (umarks (1 + 3 * L.F.length + 2 * flatN L.P + L.I.length) L.U.length)) := fun W hW => (markChangeS_own va g4 L.U _ _ W rfl hW (by omega) (by omega)).mono fun e w' h => ⟨h.1, h.2.2, h.2.1⟩
  have HS1 : Hid (∀ W W', Below w.heap.size w W → W.grownBy W' (rowF g1 L.F.length) → InG lo hi W W' ∧ VW W' vv go V g L.P ∧ IW W' vt g3 L.I ∧ RW 3 ucs W' va g4 L.U) := fun W W' hW hg => ⟨InG.of_grown hg c1, (h2.later hW).grown hg (fun hp hq => d12 hp hq) (fun hp j hj hq => d13 hp j hj hq), (h3.later hW).grown hg (fun hp => rowF_ne fun hq => d14 hq hp), (h4.later hW).grown hg (fun hp => rowF_ne fun hq => d15 hq hp)⟩
  have HS2 : Hid (∀ W W', InG lo hi W W' → KeepG g L.P W W' → IW W vt g3 L.I → RW 3 ucs W va g4 L.U → RW 3 fcs W vd g1 (fmarks 1 L.F.length) → IW W' vt g3 L.I ∧ RW 3 ucs W' va g4 L.U ∧ RW 3 fcs W' vd g1 (fmarks 1 L.F.length)) := fun W W' hi hk hi3 hu hd => ⟨hi3.kept hi.2.2.2.1 (fun hp => hk g3 (fun j hj hq => d34 j hj hq hp) (hi3.lt hp)), hu.kept hi.2.2.2.1 (fun hp => hk g4 (fun j hj hq => d35 j hj hq hp) (hu.lt hp)), hd.kept hi.2.2.2.1 (fun hp => hk g1 (fun j hj hq => d13 (by rw [fmarks_len] at hp; exact hp) j hj hq) (hd.lt hp))⟩
  have HS3 : Hid (∀ W W', W.grownBy W' (rowF g3 L.I.length) → RW 3 ucs W va g4 L.U → RW 3 fcs W vd g1 (fmarks 1 L.F.length) → VW W vv go V g (mkP (1 + 3 * L.F.length) L.P) → InG lo hi W W' ∧ RW 3 ucs W' va g4 L.U ∧ RW 3 fcs W' vd g1 (fmarks 1 L.F.length) ∧ VW W' vv go V g (mkP (1 + 3 * L.F.length) L.P)) := fun W W' hg hu hd hv => ⟨InG.of_grown hg c4, hu.grown hg (fun hp => rowF_ne fun hq e => d45 hq hp e.symm), hd.grown hg (fun hp => rowF_ne fun hq e => d14 (by rw [fmarks_len] at hp; exact hp) hq e.symm), hv.grown hg (fun hp hq => d24 (by rw [mkP_len] at hq; exact hq) hp) (fun hp j hj hq => by
    obtain ⟨hj', e⟩ := mkP_row hj
    exact d34 j hj' (by rw [← e]; exact hq) hp)⟩
  have HS4 : Hid (∀ W W', W.grownBy W' (rowF g4 L.U.length) → RW 3 fcs W vd g1 (fmarks 1 L.F.length) → VW W vv go V g (mkP (1 + 3 * L.F.length) L.P) → IW W vt g3 (imk (1 + 3 * L.F.length + 2 * flatN L.P) L.I.length) → InG lo hi W W' ∧ RW 3 fcs W' vd g1 (fmarks 1 L.F.length) ∧ VW W' vv go V g (mkP (1 + 3 * L.F.length) L.P) ∧ IW W' vt g3 (imk (1 + 3 * L.F.length + 2 * flatN L.P) L.I.length)) := fun W W' hg hd hv ht => ⟨InG.of_grown hg c5, hd.grown hg (fun hp => rowF_ne fun hq e => d15 (by rw [fmarks_len] at hp; exact hp) hq e.symm), hv.grown hg (fun hp hq => d25 (by rw [mkP_len] at hq; exact hq) hp) (fun hp j hj hq => by
    obtain ⟨hj', e⟩ := mkP_row hj
    exact d35 j hj' (by rw [← e]; exact hq) hp), ht.grown hg (fun hp => rowF_ne fun hq => d45 (by rw [imk_len] at hp; exact hp) hq)⟩
  have HSK : Hid (∀ W, RW 3 fcs W vd g1 (fmarks 1 L.F.length) → VW W vv go V g (mkP (1 + 3 * L.F.length) L.P) → IW W vt g3 (imk (1 + 3 * L.F.length + 2 * flatN L.P) L.I.length) → RW 3 ucs W va g4 (umarks (1 + 3 * L.F.length + 2 * flatN L.P + L.I.length) L.U.length) → SvK W vd vv vt va L ((1 + 3 * L.F.length + 2 * flatN L.P + L.I.length + 3 * L.U.length : Nat) : Int)) := fun W j1 j2 j3 j4 => ⟨g1, go, V, g, g3, g4, rfl, j1, j2, j3, j4⟩
  clear h1 h2 h3 h4 c1 c2 c3 c4 c5 d12 d13 d14 d15 d24 d25 d34 d35 d45 s1 s3 s6
  generalize hPV : (fun W => VW W vv go V g L.P) = PV at *
  generalize hPI : (fun W => IW W vt g3 L.I) = PI at *
  generalize hPU : (fun W => RW 3 ucs W va g4 L.U) = PU at *
  generalize hQD : (fun W => RW 3 fcs W vd g1 (fmarks 1 L.F.length)) = QD at *
  generalize hQV : (fun W => VW W vv go V g (mkP (1 + 3 * L.F.length) L.P)) = QV at *
  generalize hQI : (fun W => IW W vt g3 (imk (1 + 3 * L.F.length + 2 * flatN L.P) L.I.length)) = QI at *
  generalize hQU : (fun W => RW 3 ucs W va g4 (umarks (1 + 3 * L.F.length + 2 * flatN L.P + L.I.length) L.U.length)) = QU at *
  generalize hPK : KeepG g L.P = PK at *
  generalize hR1 : rowF g1 L.F.length = R1 at *
  generalize hR3 : rowF g3 L.I.length = R3 at *
  generalize hR4 : rowF g4 L.U.length = R4 at *
  obtain ⟨K1, hK1⟩ : ∃ K1 : Int, ((1 + 3 * L.F.length : Nat) : Int) = K1 := ⟨_, rfl⟩
  obtain ⟨K2, hK2⟩ : ∃ K2 : Int, ((1 + 3 * L.F.length + 2 * flatN L.P : Nat) : Int) = K2 := ⟨_, rfl⟩
  obtain ⟨K3, hK3⟩ : ∃ K3 : Int, ((1 + 3 * L.F.length + 2 * flatN L.P + L.I.length : Nat) : Int) = K3 := ⟨_, rfl⟩
  obtain ⟨K4, hK4⟩ : ∃ K4 : Int, ((1 + 3 * L.F.length + 2 * flatN L.P + L.I.length + 3 * L.U.length : Nat) : Int) = K4 := ⟨_, rfl⟩
  have hK40 : 0 ≤ K4 := by omega
  have J1 : Hid (∀ W, Below w.heap.size w W → Calls Tryz.prog 13 #[.agg #[vd], .int .i64 1] W fun e w' => e = .returned (.int .i64 K1) ∧ W.grownBy w' R1 ∧ QD w') := by rw [← hK1, ← hQD]; exact H1
  have J2 : Hid (∀ W, PV W → Calls Tryz.prog 40 #[vv, .int .i64 K1] W fun e w' => e = .returned (.int .i64 K2) ∧ InG lo hi W w' ∧ PK W w' ∧ QV w') := by rw [← hK1, ← hK2, ← hPV, ← hQV]; exact H2
  have J3 : Hid (∀ W, PI W → Calls Tryz.prog 22 #[vt, .int .i64 K2] W fun e w' => e = .returned (.int .i64 K3) ∧ W.grownBy w' R3 ∧ QI w') := by rw [← hK2, ← hK3, ← hPI, ← hQI]; exact H3
  have J4 : Hid (∀ W, PU W → Calls Tryz.prog 41 #[va, .int .i64 K3] W fun e w' => e = .returned (.int .i64 K4) ∧ W.grownBy w' R4 ∧ QU w') := by rw [← hK3, ← hK4, ← hPU, ← hQU]; exact H4
  have T1 : Hid (∀ W W', Below w.heap.size w W → W.grownBy W' R1 → InG lo hi W W' ∧ PV W' ∧ PI W' ∧ PU W') := by rw [← hPV, ← hPI, ← hPU]; exact HS1
  have T2 : Hid (∀ W W', InG lo hi W W' → PK W W' → PI W → PU W → QD W → PI W' ∧ PU W' ∧ QD W') := by rw [← hPI, ← hPU, ← hQD]; exact HS2
  have T3 : Hid (∀ W W', W.grownBy W' R3 → PU W → QD W → QV W → InG lo hi W W' ∧ PU W' ∧ QD W' ∧ QV W') := by rw [← hPU, ← hQD, ← hQV]; exact HS3
  have T4 : Hid (∀ W W', W.grownBy W' R4 → QD W → QV W → QI W → InG lo hi W W' ∧ QD W' ∧ QV W' ∧ QI W') := by rw [← hQD, ← hQV, ← hQI]; exact HS4
  obtain ⟨PKK, hPKK⟩ : ∃ PKK, (fun W => SvK W vd vv vt va L K4) = PKK := ⟨_, rfl⟩
  have TK : Hid (∀ W, QD W → QV W → QI W → QU W → PKK W) := by rw [← hQD, ← hQV, ← hQI, ← hQU, ← hPKK, ← hK4]; exact HSK
  have TKE : Hid (∀ W, PKK W → SvK W vd vv vt va L K4) := fun W h => by rw [← hPKK] at h; exact h
  clear H1 H2 H3 H4 HS1 HS2 HS3 HS4 HSK hPV hPI hPU hPK hQD hQV hQI hQU hPKK hR1 hR3 hR4 hK1 hK2 hK3 hK4 s2 s4 s5 s7
  obtain ⟨a, k, u, e, r0, r1, r2⟩ := n
  simp only
  obtain ⟨⟨xd, xe, rfl⟩, ⟨xv, xw, rfl⟩, ⟨xt, xu, rfl⟩, ⟨xa, xb, rfl⟩⟩ := hshape
  obtain ⟨PF, hPF⟩ : ∃ PF, (fun W => SvK W (.slice xd L.F.length xe) (.slice xv L.P.length xw) (.slice xt L.I.length xu) (.slice xa L.U.length xb) L K4) = PF := ⟨_, rfl⟩
  have TF : Hid (∀ W, PKK W → PF W) := by rw [← hPF]; exact TKE
  have TG : Hid (∀ W, PF W → SvK W (.slice xd L.F.length xe) (.slice xv L.P.length xw) (.slice xt L.I.length xu) (.slice xa L.U.length xb) L K4) := fun W h => by rw [← hPF] at h; exact h
  clear TKE hPF
  obtain ⟨nd, hnd⟩ : ∃ nd, L.F.length = nd := ⟨_, rfl⟩
  obtain ⟨nv, hnv⟩ : ∃ nv, L.P.length = nv := ⟨_, rfl⟩
  obtain ⟨nt, hnt⟩ : ∃ nt, L.I.length = nt := ⟨_, rfl⟩
  obtain ⟨na, hna⟩ : ∃ na, L.U.length = na := ⟨_, rfl⟩
  rw [hnd, hnv, hnt, hna] at TG
  rw [hnd] at J1 ⊢
  rw [hnv] at J2 ⊢
  rw [hnt] at J3 ⊢
  rw [hna] at J4 ⊢
  clear hnd hnv hnt hna
  have HX : Hid (Below w.heap.size w (w.alloc (.cells #[.int .i64 a, .int .i64 k, .bool u, .slice xd nd xe, .int .i64 e, .slice xv nv xw, .slice xt nt xu, .slice xa na xb, .int .i64 r0, .int .i64 r1, .int .i64 r2] 35)) ∧ Box 35 (w.alloc (.cells #[.int .i64 a, .int .i64 k, .bool u, .slice xd nd xe, .int .i64 e, .slice xv nv xw, .slice xt nt xu, .slice xa na xb, .int .i64 r0, .int .i64 r1, .int .i64 r2] 35)) w.heap.size [.int .i64 a, .int .i64 k, .bool u, .slice xd nd xe, .int .i64 e, .slice xv nv xw, .slice xt nt xu, .slice xa na xb, .int .i64 r0, .int .i64 r1, .int .i64 r2] ∧ w.heap.size < (w.alloc (.cells #[.int .i64 a, .int .i64 k, .bool u, .slice xd nd xe, .int .i64 e, .slice xv nv xw, .slice xt nt xu, .slice xa na xb, .int .i64 r0, .int .i64 r1, .int .i64 r2] 35)).heap.size) := ⟨below_alloc _ _, Box.new _ _ _, by simp⟩
  go_enter Tryz.func14, Tryz.ntmps14
  go_wp2_with fail
  refine (J1.out _ HX.out.1).mono ?_
  rintro e1 w1 ⟨rfl, hg1, hq1⟩
  generalize hW0 : (w.alloc (.cells #[.int .i64 a, .int .i64 k, .bool u, .slice xd nd xe, .int .i64 e, .slice xv nv xw, .slice xt nt xu, .slice xa na xb, .int .i64 r0, .int .i64 r1, .int .i64 r2] 35)) = W0 at *
  have HX1 : Hid (InG lo hi w w1 ∧ Box 35 w1 w.heap.size [.int .i64 a, .int .i64 k, .bool u, .slice xd nd xe, .int .i64 e, .slice xv nv xw, .slice xt nt xu, .slice xa na xb, .int .i64 r0, .int .i64 r1, .int .i64 r2] ∧ PV w1 ∧ PI w1 ∧ PU w1 ∧ QD w1) := by
    obtain ⟨k1, k2, k3, k4⟩ := T1.out _ _ HX.out.1 hg1
    exact ⟨(InG.of_below HX.out.1).trans k1, HX.out.2.1.keep (k1.2.2.2.2 _ HX.out.2.2 (.inr hhi)), k2, k3, k4, hq1⟩
  clear HX J1 T1 hg1 hq1 hW0
  obtain ⟨z0, z1, z2, z3, z4, z5, z6, z7, z8, z9, z10⟩ := HX1.out.2.1.all11
  go_wp2_with fail
  refine (J2.out _ HX1.out.2.2.1).mono ?_
  rintro e2 w2 ⟨rfl, hg2, hk2, hq2⟩
  have HX2 : Hid (InG lo hi w w2 ∧ Box 35 w2 w.heap.size [.int .i64 a, .int .i64 k, .bool u, .slice xd nd xe, .int .i64 e, .slice xv nv xw, .slice xt nt xu, .slice xa na xb, .int .i64 r0, .int .i64 r1, .int .i64 r2] ∧ PI w2 ∧ PU w2 ∧ QD w2 ∧ QV w2) := by
    obtain ⟨k1, k2, k3, k4, k5, k6⟩ := HX1.out
    obtain ⟨j1, j2, j3⟩ := T2.out _ _ hg2 hk2 k4 k5 k6
    exact ⟨k1.trans hg2, k2.keep (hg2.2.2.2.2 _ k2.lt (.inr hhi)), j1, j2, j3, hq2⟩
  clear HX1 J2 T2 hg2 hk2 hq2 z0 z1 z2 z3 z4 z5 z6 z7 z8 z9 z10
  obtain ⟨z0, z1, z2, z3, z4, z5, z6, z7, z8, z9, z10⟩ := HX2.out.2.1.all11
  go_wp2_with fail
  refine (J3.out _ HX2.out.2.2.1).mono ?_
  rintro e3 w3 ⟨rfl, hg3, hq3⟩
  have HX3 : Hid (InG lo hi w w3 ∧ Box 35 w3 w.heap.size [.int .i64 a, .int .i64 k, .bool u, .slice xd nd xe, .int .i64 e, .slice xv nv xw, .slice xt nt xu, .slice xa na xb, .int .i64 r0, .int .i64 r1, .int .i64 r2] ∧ PU w3 ∧ QD w3 ∧ QV w3 ∧ QI w3) := by
    obtain ⟨k1, k2, k4, k5, k6, k7⟩ := HX2.out
    obtain ⟨j1, j2, j3, j4⟩ := T3.out _ _ hg3 k5 k6 k7
    exact ⟨k1.trans j1, k2.keep (j1.2.2.2.2 _ k2.lt (.inr hhi)), j2, j3, j4, hq3⟩
  clear HX2 J3 T3 hg3 hq3 z0 z1 z2 z3 z4 z5 z6 z7 z8 z9 z10
  obtain ⟨z0, z1, z2, z3, z4, z5, z6, z7, z8, z9, z10⟩ := HX3.out.2.1.all11
  go_wp2_with fail
  refine (J4.out _ HX3.out.2.2.1).mono ?_
  rintro e4 w4 ⟨rfl, hg4, hq4⟩
  have HX4 : Hid (InG lo hi w w4 ∧ PF w4) := by
    obtain ⟨k1, k2, k4, k5, k6, k7⟩ := HX3.out
    obtain ⟨j1, j2, j3, j4⟩ := T4.out _ _ hg4 k5 k6 k7
    exact ⟨k1.trans j1, TF.out _ (TK.out _ j2 j3 j4 hq4)⟩
  clear HX3 J4 T4 TK TF hg4 hq4 z0 z1 z2 z3 z4 z5 z6 z7 z8 z9 z10
  go_wp2
  go_ret
  exact ⟨_, rfl, hK40, HX4.out.1, TG.out _ HX4.out.2⟩

set_option maxRecDepth 100000 in
set_option maxHeartbeats 2000000 in
theorem heldServer_own (n : Sn) (vd vv vt va : Value) (L : Sr) (K : Int) (w : World) (hK : SvK w vd vv vt va L K) (hsm : L.sm) :
    Calls Tryz.prog 15 #[.agg #[.int .i64 n.a, .int .i64 n.k, .bool n.u, vd, .int .i64 n.e, vv, vt, va, .int .i64 n.r0, .int .i64 n.r1, .int .i64 n.r2], .int .i64 1] w fun e w' => e = .returned (.int .i64 K) ∧ Below w.heap.size w w' := by
  obtain ⟨g1, go, V, g, g3, g4, hKe, h1, h2, h3, h4⟩ := hK
  obtain ⟨⟨s1, s2⟩, ⟨s3, s4⟩, s5, s6, s7⟩ := hsm
  have hs1 : ∃ a c, vd = .slice a L.F.length c := by obtain ⟨a, c, h⟩ := h1.1.shape; rw [fmarks_len] at h; exact ⟨a, c, h⟩
  have hs2 : ∃ a c, vv = .slice a L.P.length c := by obtain ⟨⟨a, c, h, _⟩, _⟩ := id h2; rw [mkP_len] at h; exact ⟨a, c, h⟩
  have hs3 : ∃ a c, vt = .slice a L.I.length c := by obtain ⟨a, c, h, _⟩ := id h3; rw [imk_len] at h; exact ⟨a, c, h⟩
  have hs4 : ∃ a c, va = .slice a L.U.length c := by obtain ⟨a, c, h⟩ := h4.1.shape; rw [umarks_len] at h; exact ⟨a, c, h⟩
  have H1 : Hid (∀ W, Below w.heap.size w W → Calls Tryz.prog 42 #[.agg #[vd], .int .i64 1] W fun e w' => e = .returned (.int .i64 (1 + 3 * L.F.length : Nat)) ∧ Below W.heap.size W w') := fun W hW => heldDisk_any vd g1 1 1 L.F.length W rfl (h1.later hW).1 (by omega) (by omega)
  have H2 : Hid (∀ W, Below w.heap.size w W → Calls Tryz.prog 43 #[vv, .int .i64 (1 + 3 * L.F.length : Nat)] W fun e w' => e = .returned (.int .i64 (1 + 3 * L.F.length + 2 * flatN L.P : Nat)) ∧ Below W.heap.size W w') := fun W hW => heldLeafSS_at vv go V g L.P _ _ W rfl (h2.later hW) (by omega) (by omega) s4
  have H3 : Hid (∀ W, Below w.heap.size w W → Calls Tryz.prog 44 #[vt, .int .i64 (1 + 3 * L.F.length + 2 * flatN L.P : Nat)] W fun e w' => e = .returned (.int .i64 (1 + 3 * L.F.length + 2 * flatN L.P + L.I.length : Nat)) ∧ Below W.heap.size W w') := fun W hW => heldIntS_own vt g3 _ _ L.I.length W rfl (h3.later hW) (by omega)
  have H4 : Hid (∀ W, Below w.heap.size w W → Calls Tryz.prog 45 #[va, .int .i64 (1 + 3 * L.F.length + 2 * flatN L.P + L.I.length : Nat)] W fun e w' => e = .returned (.int .i64 K) ∧ Below W.heap.size W w') := fun W hW => by rw [hKe]; exact heldChangeS_own va g4 _ _ L.U.length W rfl (h4.later hW).1 (by omega) (by omega)
  have hK0 : ¬ K < 0 := by omega
  obtain ⟨K1, hK1⟩ : ∃ K1 : Int, ((1 + 3 * L.F.length : Nat) : Int) = K1 := ⟨_, rfl⟩
  obtain ⟨K2, hK2⟩ : ∃ K2 : Int, ((1 + 3 * L.F.length + 2 * flatN L.P : Nat) : Int) = K2 := ⟨_, rfl⟩
  obtain ⟨K3, hK3⟩ : ∃ K3 : Int, ((1 + 3 * L.F.length + 2 * flatN L.P + L.I.length : Nat) : Int) = K3 := ⟨_, rfl⟩
  have m1 : ¬ K1 < 0 := by omega
  have m2 : ¬ K2 < 0 := by omega
  have m3 : ¬ K3 < 0 := by omega
  rw [hK1] at H1 H2
  rw [hK2] at H2 H3
  rw [hK3] at H3 H4
  clear hK1 hK2 hK3 hKe h1 h2 h3 h4 s1 s2 s3 s4 s5 s6 s7
  obtain ⟨a, k, u, e, r0, r1, r2⟩ := n
  simp only
  obtain ⟨xd, xe, rfl⟩ := hs1
  obtain ⟨xv, xw, rfl⟩ := hs2
  obtain ⟨xt, xu, rfl⟩ := hs3
  obtain ⟨xa, xb, rfl⟩ := hs4
  generalize L.F.length = nd at *
  generalize L.P.length = nv at *
  generalize L.I.length = nt at *
  generalize L.U.length = na at *
  have HX : Hid (Below w.heap.size w (w.alloc (.cells #[.int .i64 a, .int .i64 k, .bool u, .slice xd nd xe, .int .i64 e, .slice xv nv xw, .slice xt nt xu, .slice xa na xb, .int .i64 r0, .int .i64 r1, .int .i64 r2] 35)) ∧ Box 35 (w.alloc (.cells #[.int .i64 a, .int .i64 k, .bool u, .slice xd nd xe, .int .i64 e, .slice xv nv xw, .slice xt nt xu, .slice xa na xb, .int .i64 r0, .int .i64 r1, .int .i64 r2] 35)) w.heap.size [.int .i64 a, .int .i64 k, .bool u, .slice xd nd xe, .int .i64 e, .slice xv nv xw, .slice xt nt xu, .slice xa na xb, .int .i64 r0, .int .i64 r1, .int .i64 r2]) := ⟨below_alloc _ _, Box.new _ _ _⟩
  go_enter Tryz.func15, Tryz.ntmps15
  go_wp2_with fail
  refine (H1.out _ HX.out.1).mono ?_
  rintro e1 w1 ⟨rfl, hb1⟩
  have HX1 : Hid (Below w.heap.size w w1 ∧ Box 35 w1 w.heap.size [.int .i64 a, .int .i64 k, .bool u, .slice xd nd xe, .int .i64 e, .slice xv nv xw, .slice xt nt xu, .slice xa na xb, .int .i64 r0, .int .i64 r1, .int .i64 r2]) := ⟨HX.out.1.trans (hb1.mono HX.out.1.size), HX.out.2.later hb1⟩
  clear HX H1 hb1
  obtain ⟨z0, z1, z2, z3, z4, z5, z6, z7, z8, z9, z10⟩ := HX1.out.2.all11
  go_wp2_with fail
  refine (H2.out _ HX1.out.1).mono ?_
  rintro e2 w2 ⟨rfl, hb2⟩
  have HX2 : Hid (Below w.heap.size w w2 ∧ Box 35 w2 w.heap.size [.int .i64 a, .int .i64 k, .bool u, .slice xd nd xe, .int .i64 e, .slice xv nv xw, .slice xt nt xu, .slice xa na xb, .int .i64 r0, .int .i64 r1, .int .i64 r2]) := ⟨HX1.out.1.trans (hb2.mono HX1.out.1.size), HX1.out.2.later hb2⟩
  clear HX1 H2 hb2 z0 z1 z2 z3 z4 z5 z6 z7 z8 z9 z10
  obtain ⟨z0, z1, z2, z3, z4, z5, z6, z7, z8, z9, z10⟩ := HX2.out.2.all11
  go_wp2_with fail
  refine (H3.out _ HX2.out.1).mono ?_
  rintro e3 w3 ⟨rfl, hb3⟩
  have HX3 : Hid (Below w.heap.size w w3 ∧ Box 35 w3 w.heap.size [.int .i64 a, .int .i64 k, .bool u, .slice xd nd xe, .int .i64 e, .slice xv nv xw, .slice xt nt xu, .slice xa na xb, .int .i64 r0, .int .i64 r1, .int .i64 r2]) := ⟨HX2.out.1.trans (hb3.mono HX2.out.1.size), HX2.out.2.later hb3⟩
  clear HX2 H3 hb3 z0 z1 z2 z3 z4 z5 z6 z7 z8 z9 z10
  obtain ⟨z0, z1, z2, z3, z4, z5, z6, z7, z8, z9, z10⟩ := HX3.out.2.all11
  go_wp2_with fail
  refine (H4.out _ HX3.out.1).mono ?_
  rintro e4 w4 ⟨rfl, hb4⟩
  have HX4 : Hid (Below w.heap.size w w4) := HX3.out.1.trans (hb4.mono HX3.out.1.size)
  clear HX3 H4 hb4 z0 z1 z2 z3 z4 z5 z6 z7 z8 z9 z10
  go_wp2
  go_ret
  exact ⟨rfl, HX4.out⟩

end Go.Proofs.YthlgohplljcgfaaGreatDoor
/-
  Rows of leaves that a law marks, and looks at again.
-/
namespace Go.Proofs.YthlgohplljcgfaaGreatDoor
open Go.RowKit Go.BigFrame Go.Sort
set_option linter.unusedVariables false
set_option linter.unusedSimpArgs false

theorem markL_one (v : Value) (g : Nat) (l : List Le) (w : World) (h : RW 2 lcs w v g l) :
    Calls Tryz.prog 86 #[v, .int .i64 1] w fun e w' => e = .returned (.int .i64 (1 + 2 * l.length : Nat)) ∧ RW 2 lcs w' v g (lmarks 1 l.length) ∧ w.grownBy w' (rowF g l.length) := markLeafS_any v g l 1 1 w rfl h (by omega) (by omega)
theorem heldL_one (v : Value) (g n : Nat) (w : World) (h : RW 2 lcs w v g (lmarks 1 n)) :
    Calls Tryz.prog 88 #[v, .int .i64 1] w fun e w' => e = .returned (.int .i64 (1 + 2 * n : Nat)) ∧ Below w.heap.size w w' := heldLeafS_any v g 1 1 n w rfl h.1 (by omega) (by omega)
/-- a row kept while another is marked -/
theorem RW.marks {w w' : World} {v : Value} {g g2 n : Nat} {l : List Le} (h : RW 2 lcs w v g l) (hlt : 0 < l.length → 0 < n → g ≠ g2) (hg : w.grownBy w' (rowF g2 n)) : RW 2 lcs w' v g l := h.grown hg (fun hp => rowF_ne (fun hp2 => hlt hp hp2))
/-- what a list answered leaves: where its row lies -/
theorem LqP.open {M : List Le} {R : Bool} {w w' : World} {e : Ending} (h : LqP M R w e w') : ∃ a cap g, e = .returned (.tuple #[.slice a M.length cap, .bool R]) ∧ RW 2 lcs w' (.slice a M.length cap) g M ∧ w.heap.size ≤ g ∧ Below w.heap.size w w' := h

end Go.Proofs.YthlgohplljcgfaaGreatDoor
/-
  The walk of the law FnExactReadyLeaves: it answers true of every server.
-/
namespace Go.Proofs.YthlgohplljcgfaaGreatDoor
open Go.RowKit Go.BigFrame Go.Sort
set_option linter.unusedVariables false
set_option linter.unusedSimpArgs false

theorem RW.below_of {k : Nat} {α : Type} {enc : α → List Value} {w w' : World} {v : Value} {g : Nat} {l : List α} (h : RW k enc w v g l) (hb : Below w.heap.size w w') : RW k enc w' v g l := h.later hb
theorem Box.inG {T lo hi : Nat} {W W' : World} {g : Nat} {cs : List Value} (h : Box T W g cs) (hb : InG lo hi W W') (hne : g < lo ∨ hi ≤ g) : Box T W' g cs := h.keep (hb.2.2.2.2 g h.lt hne)
/-- what the law has in hand: the argument's box, its copy's box and rows, both answers -/
def RdS (w w1 W : World) (x : Nat) (src xs : List Value) (lo hi : Nat) (vd vv vt va : Value) (L : Sr) (v3 v5 : Value) (g3 g5 : Nat) (M : List Le) : Prop :=
  Below w.heap.size w W ∧ Below w1.heap.size w1 W ∧ Box 47 W w.heap.size src ∧ Box 35 W x xs ∧ SvD lo hi W vd vv vt va L ∧ RW 2 lcs W v3 g3 M ∧ RW 2 lcs W v5 g5 M
theorem RdS.later {w w1 W W' : World} {x : Nat} {src xs : List Value} {lo hi : Nat} {vd vv vt va : Value} {L : Sr} {v3 v5 : Value} {g3 g5 : Nat} {M : List Le} (h : RdS w w1 W x src xs lo hi vd vv vt va L v3 v5 g3 g5 M) (hb : Below W.heap.size W W') : RdS w w1 W' x src xs lo hi vd vv vt va L v3 v5 g3 g5 M :=
  ⟨h.1.trans (hb.mono h.1.size), h.2.1.trans (hb.mono h.2.1.size), h.2.2.1.later hb, h.2.2.2.1.later hb, h.2.2.2.2.1.later hb, h.2.2.2.2.2.1.later hb, h.2.2.2.2.2.2.later hb⟩
/-- .. when its copy is marked -/
def RdM (w w1 W : World) (src : List Value) (v3 v5 : Value) (g3 g5 : Nat) (M N : List Le) : Prop :=
  Below w.heap.size w W ∧ Below w1.heap.size w1 W ∧ Box 47 W w.heap.size src ∧ RW 2 lcs W v3 g3 M ∧ RW 2 lcs W v5 g5 N
theorem RdM.later {w w1 W W' : World} {src : List Value} {v3 v5 : Value} {g3 g5 : Nat} {M N : List Le} (h : RdM w w1 W src v3 v5 g3 g5 M N) (hb : Below W.heap.size W W') : RdM w w1 W' src v3 v5 g3 g5 M N :=
  ⟨h.1.trans (hb.mono h.1.size), h.2.1.trans (hb.mono h.2.1.size), h.2.2.1.later hb, h.2.2.2.1.later hb, h.2.2.2.2.later hb⟩

end Go.Proofs.YthlgohplljcgfaaGreatDoor
/-
  The walk of the law FnExactServerNew: it answers true of every disk.
-/
namespace Go.Proofs.YthlgohplljcgfaaGreatDoor
open Go.RowKit Go.BigFrame Go.Sort
set_option linter.unusedVariables false
set_option linter.unusedSimpArgs false

/-- what the law has in hand: its argument's box, the first answer in its box and its rows -/
def NwS (w w1 W : World) (v : Value) (q : Nat) (xs : List Value) (lo hi : Nat) (vd vv vt va : Value) (L : Sr) : Prop :=
  Below w.heap.size w W ∧ Below w1.heap.size w1 W ∧ BD W w.heap.size 24 v ∧ Box 35 W q xs ∧ SvD lo hi W vd vv vt va L
section
variable {w w1 W W' : World} {v : Value} {q : Nat} {xs : List Value} {lo hi : Nat} {vd vv vt va : Value} {L : Sr}
theorem NwS.later (h : NwS w w1 W v q xs lo hi vd vv vt va L) (hb : Below W.heap.size W W') : NwS w w1 W' v q xs lo hi vd vv vt va L :=
  ⟨h.1.trans (hb.mono h.1.size), h.2.1.trans (hb.mono h.2.1.size), h.2.2.1.later hb, h.2.2.2.1.later hb, h.2.2.2.2.later hb⟩
theorem SvD.past {lo hi l2 h2 : Nat} {W W' : World} {vd vv vt va : Value} {L : Sr} (h : SvD lo hi W vd vv vt va L) (hb : InG l2 h2 W W') (hh : hi ≤ l2) : SvD lo hi W' vd vv vt va L := by
  obtain ⟨g1, go, V, g, g3, g4, h1, h2, h3, h4, c1, c2, c3, c4, c5, ds⟩ := h
  exact ⟨g1, go, V, g, g3, g4, h1.inG hb (fun hp => .inl (by have := c1 hp; omega)), h2.inG hb (fun hp => .inl (by have := c2 hp; omega)) (fun j hj hp => .inl (by have := c3 j hj hp; omega)), h3.inG hb (fun hp => .inl (by have := c4 hp; omega)), h4.inG hb (fun hp => .inl (by have := c5 hp; omega)), c1, c2, c3, c4, c5, ds⟩
theorem SvD.above {lo hi l2 h2 : Nat} {W W' : World} {vd vv vt va : Value} {L : Sr} (h : SvD lo hi W vd vv vt va L) (hb : InG l2 h2 W W') (hh : h2 ≤ lo) : SvD lo hi W' vd vv vt va L := by
  obtain ⟨g1, go, V, g, g3, g4, h1, h2', h3, h4, c1, c2, c3, c4, c5, ds⟩ := h
  exact ⟨g1, go, V, g, g3, g4, h1.inG hb (fun hp => .inr (by have := c1 hp; omega)), h2'.inG hb (fun hp => .inr (by have := c2 hp; omega)) (fun j hj hp => .inr (by have := c3 j hj hp; omega)), h3.inG hb (fun hp => .inr (by have := c4 hp; omega)), h4.inG hb (fun hp => .inr (by have := c5 hp; omega)), c1, c2, c3, c4, c5, ds⟩
theorem BD.past {l2 h2 p T : Nat} {v : Value} (h : BD W p T v) (hb : InG l2 h2 W W') (hp : p < l2) : BD W' p T v := by
  have hlt := h.lt
  unfold BD at *
  rw [hb.2.2.2.2 p hlt (.inl hp), h]
theorem NwS.past {l2 h2 : Nat} (h : NwS w w1 W v q xs lo hi vd vv vt va L) (hb : InG l2 h2 W W') (b1 : w.heap.size < l2) (b2 : w1.heap.size ≤ l2) (b3 : q < l2) (b4 : hi ≤ l2) : NwS w w1 W' v q xs lo hi vd vv vt va L :=
  ⟨hb.below h.1 h.1.size (by omega), hb.below h.2.1 h.2.1.size b2, h.2.2.1.past hb b1, h.2.2.2.1.inG hb (.inl b3), h.2.2.2.2.past hb b4⟩
end
theorem InG.of_row {lo hi g n : Nat} {W W' : World} (hg : W.grownBy W' (rowF g n)) (h : 0 < n → lo ≤ g ∧ g < hi) : InG lo hi W W' := InG.of_grown hg h

set_option maxRecDepth 100000 in
set_option maxHeartbeats 4000000 in
theorem serverNewLaw_any (a k : Int) (v : Value) (g o : Nat) (L : List Fl) (w : World) (hv : IsRowF w v g o L) (hT : Tab w) (hE : Eh w) (hTb : Tb w) :
    Calls Tryz.prog 3 #[.int .i64 a, .int .i64 k, .agg #[v]] w fun e w' => e = .returned (.bool true) ∧ Below w.heap.size w w' := by
  have hB : Below w.heap.size w (w.alloc (.cells #[v] 24)) := below_alloc _ _
  have HSZ := szDisk_row v g o L 1048576 _ (hv.later hB) (by omega) (by omega)
  have HB : Hid (Below w.heap.size w (w.alloc (.cells #[v] 24)) ∧ BD (w.alloc (.cells #[v] 24)) w.heap.size 24 v) := ⟨hB, BD.new w _ _⟩
  have hsv : ∃ a n cap, v = .slice a n cap := by obtain ⟨a, n, cap, h, _⟩ := hv; exact ⟨a, n, cap, h⟩
  have HR : Hid (IsRowF w v g o L) := hv
  have HTE : Hid (Tab w ∧ Eh w ∧ Tb w) := ⟨hT, hE, hTb⟩
  obtain ⟨xa, xn, xc, rfl⟩ := hsv
  clear hv hB hT hE hTb
  go_enter Tryz.func3, Tryz.ntmps3
  go_wp2_with fail
  refine HSZ.mono ?_
  rintro e_ w1 ⟨A, rfl, hb1, hAx, hA⟩
  have b1 := HB.out.1.trans (hb1.mono HB.out.1.size)
  by_cases hneg : A < 0
  · clear hA HSZ HR HB HTE
    go_wp2
    go_ret
    exact ⟨rfl, b1⟩
  obtain ⟨hrs, hsm, hlen⟩ := hA (by omega)
  have hrs1 : RS 3 fcs w1 (.slice xa xn xc) g o L := by
    obtain ⟨a', n', c', ev, _, hr⟩ := HR.out
    obtain ⟨a2, c2, ev2⟩ := hrs.shape
    have hn : n' = L.length := by rw [ev] at ev2; simp at ev2; exact ev2.2.1
    exact (hr (by omega)).2.1.later b1
  have HTO : Hid (∀ W, Below w1.heap.size w1 W → Calls Tryz.prog 9 #[.agg #[.slice xa xn xc]] W fun e w' => ∃ g, e = .returned (.agg #[.slice (some ⟨g, 0, none⟩) L.length L.length]) ∧ RW 3 fcs w' (.slice (some ⟨g, 0, none⟩) L.length L.length) g L ∧ W.heap.size ≤ g ∧ (0 < L.length → g < w'.heap.size) ∧ Below W.heap.size W w') := fun W hW => toDisk_some _ g o L W (hrs1.later hW)
  have hww1 : w.heap.size < w1.heap.size := by
    have := HB.out.2.lt
    have := hb1.size
    omega
  have HX1 : Hid (BD w1 w.heap.size 24 (.slice xa xn xc) ∧ Below w.heap.size w w1) := ⟨HB.out.2.later hb1, b1⟩
  have HSM : Hid ((Sr.ofS L (SR.runS a k (ltT L ⟨#[115, 104, 97, 114, 100]⟩))).sm) := sm_all a k _ hsm hlen
  have HTW : Hid (∀ W, Below w.heap.size w W → Tab W ∧ Eh W ∧ Tb W) := fun W hW => ⟨HTE.out.1.later hW HTE.out.1.pos, HTE.out.2.1.later hW, HTE.out.2.2.later hW⟩
  have HSP : Hid (∀ W gg, RS 3 fcs W (.slice (some ⟨gg, 0, none⟩) L.length L.length) gg 0 L → Calls Tryz.prog 8 #[.int .i64 a, .int .i64 k, .agg #[.slice (some ⟨gg, 0, none⟩) L.length L.length]] W (SnA a k true L (SR.runS a k (ltT L ⟨#[115, 104, 97, 114, 100]⟩)) W)) := fun W gg h => sServerNew_at a k L gg W h hsm
  have HIM : Hid (∀ W gg, Below w.heap.size w W → RS 3 fcs W (.slice (some ⟨gg, 0, none⟩) L.length L.length) gg 0 L → Calls Tryz.prog 10 #[.int .i64 a, .int .i64 k, .agg #[.slice (some ⟨gg, 0, none⟩) L.length L.length]] W (SnA a k true L (SR.runS a k (ltT L ⟨#[115, 104, 97, 114, 100]⟩)) W)) := fun W gg hW h => by
    obtain ⟨t1, t2, t3⟩ := HTW.out W hW
    exact ServerNew_at a k _ L gg 0 W h hsm t1 t2 t3
  unfold SnA at HSP HIM
  clear hA HSZ HR HB HTE HTW hrs hrs1 hsm hlen hb1
  generalize SR.runS a k (ltT L ⟨#[115, 104, 97, 114, 100]⟩) = S at *
  have HEQ : Hid (∀ W adx cdx avx cvx atx ctx aax cax ady cdy avy cvy aty cty aay cay, SvS W (.slice adx L.length cdx) (.slice avx S.P.length cvx) (.slice atx S.I.length ctx) (.slice aax S.U.length cax) (Sr.ofS L S) → SvS W (.slice ady L.length cdy) (.slice avy S.P.length cvy) (.slice aty S.I.length cty) (.slice aay S.U.length cay) (Sr.ofS L S) → Calls Tryz.prog 11 #[.agg #[.int .i64 a, .int .i64 k, .bool true, .slice adx L.length cdx, .int .i64 S.e, .slice avx S.P.length cvx, .slice atx S.I.length ctx, .slice aax S.U.length cax, .int .i64 S.r0, .int .i64 S.r1, .int .i64 S.r2], .agg #[.int .i64 a, .int .i64 k, .bool true, .slice ady L.length cdy, .int .i64 S.e, .slice avy S.P.length cvy, .slice aty S.I.length cty, .slice aay S.U.length cay, .int .i64 S.r0, .int .i64 S.r1, .int .i64 S.r2]] W fun e w' => e = .returned (.bool true) ∧ Below W.heap.size W w') := fun W adx cdx avx cvx atx ctx aax cax ady cdy avy cvy aty cty aay cay h k' => eqServer_yes ⟨a, k, true, S.e, S.r0, S.r1, S.r2⟩ _ _ _ _ _ _ _ _ (Sr.ofS L S) W h k'
  have HMK : Hid (∀ W lo hi adx cdx avx cvx atx ctx aax cax, SvD lo hi W (.slice adx L.length cdx) (.slice avx S.P.length cvx) (.slice atx S.I.length ctx) (.slice aax S.U.length cax) (Sr.ofS L S) → hi ≤ W.heap.size → Calls Tryz.prog 14 #[.agg #[.int .i64 a, .int .i64 k, .bool true, .slice adx L.length cdx, .int .i64 S.e, .slice avx S.P.length cvx, .slice atx S.I.length ctx, .slice aax S.U.length cax, .int .i64 S.r0, .int .i64 S.r1, .int .i64 S.r2], .int .i64 1] W fun e w' => ∃ K : Int, e = .returned (.int .i64 K) ∧ 0 ≤ K ∧ InG lo hi W w' ∧ SvK w' (.slice adx L.length cdx) (.slice avx S.P.length cvx) (.slice atx S.I.length ctx) (.slice aax S.U.length cax) (Sr.ofS L S) K) := fun W lo hi adx cdx avx cvx atx ctx aax cax h hh => markServer_own ⟨a, k, true, S.e, S.r0, S.r1, S.r2⟩ _ _ _ _ (Sr.ofS L S) lo hi W h HSM.out hh
  have HHD : Hid (∀ W K adx cdx avx cvx atx ctx aax cax, SvK W (.slice adx L.length cdx) (.slice avx S.P.length cvx) (.slice atx S.I.length ctx) (.slice aax S.U.length cax) (Sr.ofS L S) K → Calls Tryz.prog 15 #[.agg #[.int .i64 a, .int .i64 k, .bool true, .slice adx L.length cdx, .int .i64 S.e, .slice avx S.P.length cvx, .slice atx S.I.length ctx, .slice aax S.U.length cax, .int .i64 S.r0, .int .i64 S.r1, .int .i64 S.r2], .int .i64 1] W fun e w' => e = .returned (.int .i64 K) ∧ Below W.heap.size W w') := fun W K adx cdx avx cvx atx ctx aax cax h => heldServer_own ⟨a, k, true, S.e, S.r0, S.r1, S.r2⟩ _ _ _ _ (Sr.ofS L S) K W h HSM.out
  generalize Sr.ofS L S = LS at *
  obtain ⟨nF, hnF⟩ : ∃ nF, L.length = nF := ⟨_, rfl⟩
  have HN : Hid (L.length = nF) := hnF
  rw [hnF] at HSP HIM HEQ HMK HHD HTO
  generalize S.P.length = nv at *
  generalize S.I.length = nt at *
  generalize S.U.length = na at *
  obtain ⟨e, P_, I_, U_, r0, r1, r2⟩ := S
  simp only at HSP HIM HEQ HMK HHD
  clear HSM hnF P_ I_ U_
  have c1 := HX1.out.1.cell
  -- the specification's answer
  go_wp2_with fail
  refine (HTO.out _ (Below.refl _ _)).mono ?_
  rintro e_ w2 ⟨g2, rfl, hr2, _, _, hb2⟩
  have HX2 : Hid (BD w2 w.heap.size 24 (.slice xa xn xc) ∧ Below w.heap.size w w2 ∧ Below w1.heap.size w1 w2) := ⟨HX1.out.1.later hb2, HX1.out.2.trans (hb2.mono HX1.out.2.size), hb2⟩
  clear c1 HX1
  go_wp2_with fail
  refine (HSP.out _ g2 hr2.1).mono ?_
  rintro e_ w3 ⟨ad3, cd3, av3, cv3, at3, ct3, aa3, ca3, rfl, hd3, hb3⟩
  have HX3 : Hid (NwS w w1 (w3.alloc (.cells #[.int .i64 a, .int .i64 k, .bool true, .slice ad3 nF cd3, .int .i64 e, .slice av3 nv cv3, .slice at3 nt ct3, .slice aa3 na ca3, .int .i64 r0, .int .i64 r1, .int .i64 r2] 35)) (.slice xa xn xc) w3.heap.size [.int .i64 a, .int .i64 k, .bool true, .slice ad3 nF cd3, .int .i64 e, .slice av3 nv cv3, .slice at3 nt ct3, .slice aa3 na ca3, .int .i64 r0, .int .i64 r1, .int .i64 r2] w2.heap.size w3.heap.size (.slice ad3 nF cd3) (.slice av3 nv cv3) (.slice at3 nt ct3) (.slice aa3 na ca3) LS ∧ w1.heap.size ≤ w3.heap.size) := by
    obtain ⟨k1, k2, k3⟩ := HX2.out
    have j2 := k2.trans (hb3.mono k2.size)
    have j3 := k3.trans (hb3.mono k3.size)
    exact ⟨⟨j2.alloc j2.size _, j3.alloc j3.size _, (k1.later hb3).later (below_alloc _ _), Box.new _ _ _, hd3.later (below_alloc _ _)⟩, j3.size⟩
  clear hr2 hb2 hd3 hb3 HX2 HSP
  have c3 := HX3.out.1.2.2.1.cell
  -- the argument, and the program's answer
  go_wp2_with fail
  refine (HTO.out _ HX3.out.1.2.1).mono ?_
  rintro e_ w4 ⟨g4, rfl, hr4, hg4, hl4, hb4⟩
  have hg4' : w3.heap.size + 1 ≤ g4 := by simpa using hg4
  have hs4 : w3.heap.size + 1 ≤ w4.heap.size := by have := hb4.size; simpa using this
  have hl4' : 0 < nF → g4 < w4.heap.size := by rw [← HN.out]; rw [← HN.out] at hl4; exact hl4
  have HX4 : Hid (NwS w w1 (w4.alloc (.cells #[.slice (some ⟨g4, 0, none⟩) nF nF] 28)) (.slice xa xn xc) w3.heap.size [.int .i64 a, .int .i64 k, .bool true, .slice ad3 nF cd3, .int .i64 e, .slice av3 nv cv3, .slice at3 nt ct3, .slice aa3 na ca3, .int .i64 r0, .int .i64 r1, .int .i64 r2] w2.heap.size w3.heap.size (.slice ad3 nF cd3) (.slice av3 nv cv3) (.slice at3 nt ct3) (.slice aa3 na ca3) LS ∧ BD (w4.alloc (.cells #[.slice (some ⟨g4, 0, none⟩) nF nF] 28)) w4.heap.size 28 (.slice (some ⟨g4, 0, none⟩) nF nF) ∧ RW 3 fcs (w4.alloc (.cells #[.slice (some ⟨g4, 0, none⟩) nF nF] 28)) (.slice (some ⟨g4, 0, none⟩) nF nF) g4 L) := ⟨(HX3.out.1.later hb4).later (below_alloc _ _), BD.new _ _ _, hr4.later (below_alloc _ _)⟩
  have HW3 : Hid (w1.heap.size ≤ w3.heap.size ∧ w3.heap.size + 1 ≤ g4 ∧ w3.heap.size + 1 ≤ w4.heap.size ∧ (0 < nF → g4 < w4.heap.size)) := ⟨HX3.out.2, hg4', hs4, hl4'⟩
  clear hr4 hg4 hl4 hb4 HX3 c3 hg4' hs4 hl4'
  have c4 := HX4.out.2.1.cell
  go_wp2_with fail
  refine (HIM.out _ g4 HX4.out.1.1 HX4.out.2.2.1).mono ?_
  rintro e_ w5 ⟨ad5, cd5, av5, cv5, at5, ct5, aa5, ca5, rfl, hd5, hb5⟩
  have hs5 : w4.heap.size + 1 ≤ w5.heap.size := by have := hb5.size; simpa using this
  have HX5 : Hid (NwS w w1 (w5.alloc (.cells #[.int .i64 a, .int .i64 k, .bool true, .slice ad5 nF cd5, .int .i64 e, .slice av5 nv cv5, .slice at5 nt ct5, .slice aa5 na ca5, .int .i64 r0, .int .i64 r1, .int .i64 r2] 35)) (.slice xa xn xc) w3.heap.size [.int .i64 a, .int .i64 k, .bool true, .slice ad3 nF cd3, .int .i64 e, .slice av3 nv cv3, .slice at3 nt ct3, .slice aa3 na ca3, .int .i64 r0, .int .i64 r1, .int .i64 r2] w2.heap.size w3.heap.size (.slice ad3 nF cd3) (.slice av3 nv cv3) (.slice at3 nt ct3) (.slice aa3 na ca3) LS ∧ BD (w5.alloc (.cells #[.int .i64 a, .int .i64 k, .bool true, .slice ad5 nF cd5, .int .i64 e, .slice av5 nv cv5, .slice at5 nt ct5, .slice aa5 na ca5, .int .i64 r0, .int .i64 r1, .int .i64 r2] 35)) w4.heap.size 28 (.slice (some ⟨g4, 0, none⟩) nF nF) ∧ RW 3 fcs (w5.alloc (.cells #[.int .i64 a, .int .i64 k, .bool true, .slice ad5 nF cd5, .int .i64 e, .slice av5 nv cv5, .slice at5 nt ct5, .slice aa5 na ca5, .int .i64 r0, .int .i64 r1, .int .i64 r2] 35)) (.slice (some ⟨g4, 0, none⟩) nF nF) g4 L ∧ Box 35 (w5.alloc (.cells #[.int .i64 a, .int .i64 k, .bool true, .slice ad5 nF cd5, .int .i64 e, .slice av5 nv cv5, .slice at5 nt ct5, .slice aa5 na ca5, .int .i64 r0, .int .i64 r1, .int .i64 r2] 35)) w5.heap.size [.int .i64 a, .int .i64 k, .bool true, .slice ad5 nF cd5, .int .i64 e, .slice av5 nv cv5, .slice at5 nt ct5, .slice aa5 na ca5, .int .i64 r0, .int .i64 r1, .int .i64 r2] ∧ SvD (w4.heap.size + 1) w5.heap.size (w5.alloc (.cells #[.int .i64 a, .int .i64 k, .bool true, .slice ad5 nF cd5, .int .i64 e, .slice av5 nv cv5, .slice at5 nt ct5, .slice aa5 na ca5, .int .i64 r0, .int .i64 r1, .int .i64 r2] 35)) (.slice ad5 nF cd5) (.slice av5 nv cv5) (.slice at5 nt ct5) (.slice aa5 na ca5) LS) := ⟨(HX4.out.1.later hb5).later (below_alloc _ _), (HX4.out.2.1.later hb5).later (below_alloc _ _), (HX4.out.2.2.later hb5).later (below_alloc _ _), Box.new _ _ _, (hd5.wide (by simp) (Nat.le_refl _)).later (below_alloc _ _)⟩
  have HW5 : Hid (w4.heap.size + 1 ≤ w5.heap.size ∧ w5.heap.size < (w5.alloc (.cells #[.int .i64 a, .int .i64 k, .bool true, .slice ad5 nF cd5, .int .i64 e, .slice av5 nv cv5, .slice at5 nt ct5, .slice aa5 na ca5, .int .i64 r0, .int .i64 r1, .int .i64 r2] 35)).heap.size) := ⟨hs5, by simp⟩
  clear hd5 hb5 hs5 HX4 c4
  obtain ⟨z0, z1, z2, z3, z4, z5, z6, z7, z8, z9, z10⟩ := HX5.out.2.2.2.1.all11
  obtain ⟨y0, y1, y2, y3, y4, y5, y6, y7, y8, y9, y10⟩ := HX5.out.1.2.2.2.1.all11
  go_wp2_with fail
  refine (HEQ.out _ _ _ _ _ _ _ _ _ _ _ _ _ _ _ _ _ HX5.out.2.2.2.2.svs HX5.out.1.2.2.2.2.svs).mono ?_
  rintro e_ w6 ⟨rfl, hb6⟩
  have HX6 : Hid (NwS w w1 w6 (.slice xa xn xc) w3.heap.size [.int .i64 a, .int .i64 k, .bool true, .slice ad3 nF cd3, .int .i64 e, .slice av3 nv cv3, .slice at3 nt ct3, .slice aa3 na ca3, .int .i64 r0, .int .i64 r1, .int .i64 r2] w2.heap.size w3.heap.size (.slice ad3 nF cd3) (.slice av3 nv cv3) (.slice at3 nt ct3) (.slice aa3 na ca3) LS ∧ BD w6 w4.heap.size 28 (.slice (some ⟨g4, 0, none⟩) nF nF) ∧ RW 3 fcs w6 (.slice (some ⟨g4, 0, none⟩) nF nF) g4 L ∧ Box 35 w6 w5.heap.size [.int .i64 a, .int .i64 k, .bool true, .slice ad5 nF cd5, .int .i64 e, .slice av5 nv cv5, .slice at5 nt ct5, .slice aa5 na ca5, .int .i64 r0, .int .i64 r1, .int .i64 r2] ∧ SvD (w4.heap.size + 1) w5.heap.size w6 (.slice ad5 nF cd5) (.slice av5 nv cv5) (.slice at5 nt ct5) (.slice aa5 na ca5) LS ∧ w5.heap.size < w6.heap.size) := by
    obtain ⟨k1, k2, k3, k4, k5⟩ := HX5.out
    exact ⟨k1.later hb6, k2.later hb6, k3.later hb6, k4.later hb6, k5.later hb6, by have := hb6.size; have := HW5.out.2; omega⟩
  clear hb6 HX5 z0 z1 z2 z3 z4 z5 z6 z7 z8 z9 z10 y0 y1 y2 y3 y4 y5 y6 y7 y8 y9 y10
  have d0 := HX6.out.1.2.2.1.cell
  have d1 := HX6.out.2.1.cell
  have HK : Hid (∀ W, Below w6.heap.size w6 W → W.cell? ⟨w.heap.size, 0, none⟩ = some (.slice xa xn xc) ∧ W.cell? ⟨w4.heap.size, 0, none⟩ = some (.slice (some ⟨g4, 0, none⟩) nF nF)) := fun W hW => ⟨(HX6.out.1.2.2.1.later hW).cell, (HX6.out.2.1.later hW).cell⟩
  have HED : Hid (∀ W gg, Below w6.heap.size w6 W → RS 3 fcs W (.slice (some ⟨gg, 0, none⟩) nF nF) gg 0 L → Calls Tryz.prog 12 #[.agg #[.slice (some ⟨g4, 0, none⟩) nF nF], .agg #[.slice (some ⟨gg, 0, none⟩) nF nF]] W fun e w' => e = .returned (.bool true) ∧ Below W.heap.size W w') := fun W gg hW h => eqDisk_yes _ _ g4 0 gg 0 L _ (HX6.out.2.2.1.later hW).1 h
  have HT6 : Hid (∀ W, Below w6.heap.size w6 W → Calls Tryz.prog 9 #[.agg #[.slice xa xn xc]] W fun e w' => ∃ g, e = .returned (.agg #[.slice (some ⟨g, 0, none⟩) nF nF]) ∧ RW 3 fcs w' (.slice (some ⟨g, 0, none⟩) nF nF) g L ∧ W.heap.size ≤ g ∧ (0 < nF → g < w'.heap.size) ∧ Below W.heap.size W w') := fun W hW => HTO.out W (HX6.out.1.2.1.trans (hW.mono HX6.out.1.2.1.size))
  have hb0 : Below w6.heap.size w6 w6.drew := (Below.refl _ _).drew
  go_wp2
  go_region_held3 (fun W => W.cell? ⟨w.heap.size, 0, none⟩ = some (.slice xa xn xc) ∧ W.cell? ⟨w4.heap.size, 0, none⟩ = some (.slice (some ⟨g4, 0, none⟩) nF nF)) (first | (go_keep; done) | exact HK.out _ hb0) (first | (go_at_call 9; refine (HT6.out _ hb0).mono ?_; rintro e_ w7 ⟨g7, rfl, hr7, _, _, hb7⟩; have hb0 := hb0.trans (hb7.mono hb0.size)) | (go_at_call 12; refine (HED.out _ g7 hb0 hr7.1).mono ?_; rintro e_ w8 ⟨rfl, hb8⟩; have hb0 := hb0.trans (hb8.mono hb0.size)) | fail)
  try rename_i hHeld
  try clear hHeld
  have HX8 : Hid (NwS w w1 w8 (.slice xa xn xc) w3.heap.size [.int .i64 a, .int .i64 k, .bool true, .slice ad3 nF cd3, .int .i64 e, .slice av3 nv cv3, .slice at3 nt ct3, .slice aa3 na ca3, .int .i64 r0, .int .i64 r1, .int .i64 r2] w2.heap.size w3.heap.size (.slice ad3 nF cd3) (.slice av3 nv cv3) (.slice at3 nt ct3) (.slice aa3 na ca3) LS ∧ BD w8 w4.heap.size 28 (.slice (some ⟨g4, 0, none⟩) nF nF) ∧ RW 3 fcs w8 (.slice (some ⟨g4, 0, none⟩) nF nF) g4 L ∧ Box 35 w8 w5.heap.size [.int .i64 a, .int .i64 k, .bool true, .slice ad5 nF cd5, .int .i64 e, .slice av5 nv cv5, .slice at5 nt ct5, .slice aa5 na ca5, .int .i64 r0, .int .i64 r1, .int .i64 r2] ∧ SvD (w4.heap.size + 1) w5.heap.size w8 (.slice ad5 nF cd5) (.slice av5 nv cv5) (.slice at5 nt ct5) (.slice aa5 na ca5) LS ∧ w5.heap.size < w8.heap.size) := by
    obtain ⟨k1, k2, k3, k4, k5, k6⟩ := HX6.out
    exact ⟨k1.later hb0, k2.later hb0, k3.later hb0, k4.later hb0, k5.later hb0, by have := hb0.size; omega⟩
  clear hr7 hb7 hb8 hb0 HX6 HK HED HT6 d0 d1
  have d1 := HX8.out.2.1.cell
  obtain ⟨K1, hK1⟩ : ∃ K1 : Int, ((1 + 3 * L.length : Nat) : Int) = K1 := ⟨_, rfl⟩
  have hK10 : ¬ K1 < 0 := by omega
  have hmd := markDisk_any _ g4 L 1 1 _ rfl HX8.out.2.2.1 (by omega) (by omega)
  rw [hK1] at hmd
  go_wp2_with fail
  refine hmd.mono ?_
  rintro e_ w9 ⟨rfl, _, hg9⟩
  have HX9 : Hid (NwS w w1 w9 (.slice xa xn xc) w3.heap.size [.int .i64 a, .int .i64 k, .bool true, .slice ad3 nF cd3, .int .i64 e, .slice av3 nv cv3, .slice at3 nt ct3, .slice aa3 na ca3, .int .i64 r0, .int .i64 r1, .int .i64 r2] w2.heap.size w3.heap.size (.slice ad3 nF cd3) (.slice av3 nv cv3) (.slice at3 nt ct3) (.slice aa3 na ca3) LS ∧ Box 35 w9 w5.heap.size [.int .i64 a, .int .i64 k, .bool true, .slice ad5 nF cd5, .int .i64 e, .slice av5 nv cv5, .slice at5 nt ct5, .slice aa5 na ca5, .int .i64 r0, .int .i64 r1, .int .i64 r2] ∧ SvD (w4.heap.size + 1) w5.heap.size w9 (.slice ad5 nF cd5) (.slice av5 nv cv5) (.slice at5 nt ct5) (.slice aa5 na ca5) LS ∧ w5.heap.size < w9.heap.size) := by
    obtain ⟨k1, k2, k3, k4, k5, k6⟩ := HX8.out
    obtain ⟨j1, j2, j3, j4⟩ := HW3.out
    have j5 := HW5.out.1
    have hi9 : InG (w3.heap.size + 1) w4.heap.size w8 w9 := InG.of_row hg9 (fun hp => ⟨j2, j4 (by rw [← HN.out]; exact hp)⟩)
    exact ⟨k1.past hi9 (by omega) (by omega) (by omega) (by omega), k4.inG hi9 (.inr (by omega)), k5.above hi9 (by omega), by have := hg9.size; omega⟩
  clear hg9 HX8 hmd hK1 d1
  obtain ⟨z0, z1, z2, z3, z4, z5, z6, z7, z8, z9, z10⟩ := HX9.out.2.1.all11
  obtain ⟨y0, y1, y2, y3, y4, y5, y6, y7, y8, y9, y10⟩ := HX9.out.1.2.2.2.1.all11
  go_wp2_with fail
  refine (HEQ.out _ _ _ _ _ _ _ _ _ _ _ _ _ _ _ _ _ HX9.out.2.2.1.svs HX9.out.1.2.2.2.2.svs).mono ?_
  rintro e_ w10 ⟨rfl, hb10⟩
  have HX10 : Hid (NwS w w1 w10 (.slice xa xn xc) w3.heap.size [.int .i64 a, .int .i64 k, .bool true, .slice ad3 nF cd3, .int .i64 e, .slice av3 nv cv3, .slice at3 nt ct3, .slice aa3 na ca3, .int .i64 r0, .int .i64 r1, .int .i64 r2] w2.heap.size w3.heap.size (.slice ad3 nF cd3) (.slice av3 nv cv3) (.slice at3 nt ct3) (.slice aa3 na ca3) LS ∧ Box 35 w10 w5.heap.size [.int .i64 a, .int .i64 k, .bool true, .slice ad5 nF cd5, .int .i64 e, .slice av5 nv cv5, .slice at5 nt ct5, .slice aa5 na ca5, .int .i64 r0, .int .i64 r1, .int .i64 r2] ∧ SvD (w4.heap.size + 1) w5.heap.size w10 (.slice ad5 nF cd5) (.slice av5 nv cv5) (.slice at5 nt ct5) (.slice aa5 na ca5) LS ∧ w5.heap.size < w10.heap.size) := by
    obtain ⟨k1, k4, k5, k6⟩ := HX9.out
    exact ⟨k1.later hb10, k4.later hb10, k5.later hb10, by have := hb10.size; omega⟩
  clear hb10 HX9 z0 z1 z2 z3 z4 z5 z6 z7 z8 z9 z10 y0 y1 y2 y3 y4 y5 y6 y7 y8 y9 y10
  obtain ⟨z0, z1, z2, z3, z4, z5, z6, z7, z8, z9, z10⟩ := HX10.out.2.1.all11
  go_wp2_with fail
  refine (HMK.out _ _ _ _ _ _ _ _ _ _ _ HX10.out.2.2.1 (by have := HX10.out.2.2.2; omega)).mono ?_
  rintro e_ w11 ⟨K, rfl, hK0, hi11, hk11⟩
  have hKn : ¬ K < 0 := by omega
  have HX11 : Hid (NwS w w1 w11 (.slice xa xn xc) w3.heap.size [.int .i64 a, .int .i64 k, .bool true, .slice ad3 nF cd3, .int .i64 e, .slice av3 nv cv3, .slice at3 nt ct3, .slice aa3 na ca3, .int .i64 r0, .int .i64 r1, .int .i64 r2] w2.heap.size w3.heap.size (.slice ad3 nF cd3) (.slice av3 nv cv3) (.slice at3 nt ct3) (.slice aa3 na ca3) LS ∧ Box 35 w11 w5.heap.size [.int .i64 a, .int .i64 k, .bool true, .slice ad5 nF cd5, .int .i64 e, .slice av5 nv cv5, .slice at5 nt ct5, .slice aa5 na ca5, .int .i64 r0, .int .i64 r1, .int .i64 r2] ∧ SvK w11 (.slice ad5 nF cd5) (.slice av5 nv cv5) (.slice at5 nt ct5) (.slice aa5 na ca5) LS K) := by
    obtain ⟨k1, k4, k5, k6⟩ := HX10.out
    obtain ⟨j1, j2, j3, j4⟩ := HW3.out
    exact ⟨k1.past hi11 (by omega) (by omega) (by omega) (by omega), k4.inG hi11 (.inr (by omega)), hk11⟩
  clear hi11 hk11 HX10 HMK z0 z1 z2 z3 z4 z5 z6 z7 z8 z9 z10
  obtain ⟨z0, z1, z2, z3, z4, z5, z6, z7, z8, z9, z10⟩ := HX11.out.2.1.all11
  go_wp2_with fail
  refine (HHD.out _ K _ _ _ _ _ _ _ _ HX11.out.2.2).mono ?_
  rintro e_ w12 ⟨rfl, hb12⟩
  have HX12 : Hid (NwS w w1 w12 (.slice xa xn xc) w3.heap.size [.int .i64 a, .int .i64 k, .bool true, .slice ad3 nF cd3, .int .i64 e, .slice av3 nv cv3, .slice at3 nt ct3, .slice aa3 na ca3, .int .i64 r0, .int .i64 r1, .int .i64 r2] w2.heap.size w3.heap.size (.slice ad3 nF cd3) (.slice av3 nv cv3) (.slice at3 nt ct3) (.slice aa3 na ca3) LS ∧ Box 35 w12 w5.heap.size [.int .i64 a, .int .i64 k, .bool true, .slice ad5 nF cd5, .int .i64 e, .slice av5 nv cv5, .slice at5 nt ct5, .slice aa5 na ca5, .int .i64 r0, .int .i64 r1, .int .i64 r2] ∧ SvK w12 (.slice ad5 nF cd5) (.slice av5 nv cv5) (.slice at5 nt ct5) (.slice aa5 na ca5) LS K) := ⟨HX11.out.1.later hb12, HX11.out.2.1.later hb12, HX11.out.2.2.later hb12⟩
  clear hb12 HX11 z0 z1 z2 z3 z4 z5 z6 z7 z8 z9 z10
  have c12 := HX12.out.1.2.2.1.cell
  go_wp2_with fail
  refine (HTO.out _ HX12.out.1.2.1).mono ?_
  rintro e_ w13 ⟨g13, rfl, hr13, _, _, hb13⟩
  have HX13 : Hid (NwS w w1 w13 (.slice xa xn xc) w3.heap.size [.int .i64 a, .int .i64 k, .bool true, .slice ad3 nF cd3, .int .i64 e, .slice av3 nv cv3, .slice at3 nt ct3, .slice aa3 na ca3, .int .i64 r0, .int .i64 r1, .int .i64 r2] w2.heap.size w3.heap.size (.slice ad3 nF cd3) (.slice av3 nv cv3) (.slice at3 nt ct3) (.slice aa3 na ca3) LS ∧ Box 35 w13 w5.heap.size [.int .i64 a, .int .i64 k, .bool true, .slice ad5 nF cd5, .int .i64 e, .slice av5 nv cv5, .slice at5 nt ct5, .slice aa5 na ca5, .int .i64 r0, .int .i64 r1, .int .i64 r2] ∧ SvK w13 (.slice ad5 nF cd5) (.slice av5 nv cv5) (.slice at5 nt ct5) (.slice aa5 na ca5) LS K) := ⟨HX12.out.1.later hb13, HX12.out.2.1.later hb13, HX12.out.2.2.later hb13⟩
  clear hb13 HX12 c12
  go_wp2_with fail
  refine (HIM.out _ g13 HX13.out.1.1 hr13.1).mono ?_
  rintro e_ w14 ⟨ad14, cd14, av14, cv14, at14, ct14, aa14, ca14, rfl, hd14, hb14⟩
  have HX14 : Hid (NwS w w1 (w14.alloc (.cells #[.int .i64 a, .int .i64 k, .bool true, .slice ad14 nF cd14, .int .i64 e, .slice av14 nv cv14, .slice at14 nt ct14, .slice aa14 na ca14, .int .i64 r0, .int .i64 r1, .int .i64 r2] 35)) (.slice xa xn xc) w3.heap.size [.int .i64 a, .int .i64 k, .bool true, .slice ad3 nF cd3, .int .i64 e, .slice av3 nv cv3, .slice at3 nt ct3, .slice aa3 na ca3, .int .i64 r0, .int .i64 r1, .int .i64 r2] w2.heap.size w3.heap.size (.slice ad3 nF cd3) (.slice av3 nv cv3) (.slice at3 nt ct3) (.slice aa3 na ca3) LS ∧ Box 35 (w14.alloc (.cells #[.int .i64 a, .int .i64 k, .bool true, .slice ad14 nF cd14, .int .i64 e, .slice av14 nv cv14, .slice at14 nt ct14, .slice aa14 na ca14, .int .i64 r0, .int .i64 r1, .int .i64 r2] 35)) w5.heap.size [.int .i64 a, .int .i64 k, .bool true, .slice ad5 nF cd5, .int .i64 e, .slice av5 nv cv5, .slice at5 nt ct5, .slice aa5 na ca5, .int .i64 r0, .int .i64 r1, .int .i64 r2] ∧ SvK (w14.alloc (.cells #[.int .i64 a, .int .i64 k, .bool true, .slice ad14 nF cd14, .int .i64 e, .slice av14 nv cv14, .slice at14 nt ct14, .slice aa14 na ca14, .int .i64 r0, .int .i64 r1, .int .i64 r2] 35)) (.slice ad5 nF cd5) (.slice av5 nv cv5) (.slice at5 nt ct5) (.slice aa5 na ca5) LS K ∧ Box 35 (w14.alloc (.cells #[.int .i64 a, .int .i64 k, .bool true, .slice ad14 nF cd14, .int .i64 e, .slice av14 nv cv14, .slice at14 nt ct14, .slice aa14 na ca14, .int .i64 r0, .int .i64 r1, .int .i64 r2] 35)) w14.heap.size [.int .i64 a, .int .i64 k, .bool true, .slice ad14 nF cd14, .int .i64 e, .slice av14 nv cv14, .slice at14 nt ct14, .slice aa14 na ca14, .int .i64 r0, .int .i64 r1, .int .i64 r2] ∧ SvD w13.heap.size w14.heap.size (w14.alloc (.cells #[.int .i64 a, .int .i64 k, .bool true, .slice ad14 nF cd14, .int .i64 e, .slice av14 nv cv14, .slice at14 nt ct14, .slice aa14 na ca14, .int .i64 r0, .int .i64 r1, .int .i64 r2] 35)) (.slice ad14 nF cd14) (.slice av14 nv cv14) (.slice at14 nt ct14) (.slice aa14 na ca14) LS) := ⟨(HX13.out.1.later hb14).later (below_alloc _ _), (HX13.out.2.1.later hb14).later (below_alloc _ _), (HX13.out.2.2.later hb14).later (below_alloc _ _), Box.new _ _ _, hd14.later (below_alloc _ _)⟩
  clear hr13 hd14 hb14 HX13 HIM HTO
  obtain ⟨z0, z1, z2, z3, z4, z5, z6, z7, z8, z9, z10⟩ := HX14.out.2.2.2.1.all11
  obtain ⟨y0, y1, y2, y3, y4, y5, y6, y7, y8, y9, y10⟩ := HX14.out.1.2.2.2.1.all11
  go_wp2_with fail
  refine (HEQ.out _ _ _ _ _ _ _ _ _ _ _ _ _ _ _ _ _ HX14.out.2.2.2.2.svs HX14.out.1.2.2.2.2.svs).mono ?_
  rintro e_ w15 ⟨rfl, hb15⟩
  have HX15 : Hid (Below w.heap.size w w15 ∧ Box 35 w15 w5.heap.size [.int .i64 a, .int .i64 k, .bool true, .slice ad5 nF cd5, .int .i64 e, .slice av5 nv cv5, .slice at5 nt ct5, .slice aa5 na ca5, .int .i64 r0, .int .i64 r1, .int .i64 r2] ∧ SvK w15 (.slice ad5 nF cd5) (.slice av5 nv cv5) (.slice at5 nt ct5) (.slice aa5 na ca5) LS K) := ⟨(HX14.out.1.later hb15).1, HX14.out.2.1.later hb15, HX14.out.2.2.1.later hb15⟩
  clear hb15 HX14 HEQ z0 z1 z2 z3 z4 z5 z6 z7 z8 z9 z10 y0 y1 y2 y3 y4 y5 y6 y7 y8 y9 y10
  obtain ⟨z0, z1, z2, z3, z4, z5, z6, z7, z8, z9, z10⟩ := HX15.out.2.1.all11
  go_wp2_with fail
  refine (HHD.out _ K _ _ _ _ _ _ _ _ HX15.out.2.2).mono ?_
  rintro e_ w16 ⟨rfl, hb16⟩
  have b16 := HX15.out.1.trans (hb16.mono HX15.out.1.size)
  clear hb16 HX15 HHD z0 z1 z2 z3 z4 z5 z6 z7 z8 z9 z10
  go_wp2
  go_ret
  exact ⟨rfl, b16⟩

end Go.Proofs.YthlgohplljcgfaaGreatDoor
