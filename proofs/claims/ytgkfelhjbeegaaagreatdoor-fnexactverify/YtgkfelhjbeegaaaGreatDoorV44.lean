/-
  Texts laid together: Wvl.
-/
import Derived.Test.YtgkfelhjbeegaaaGreatDoorV10
import Derived.Test.YtgkfelhjbeegaaaGreatDoorV19
import Derived.Test.YtgkfelhjbeegaaaGreatDoorV20
import Derived.Test.YtgkfelhjbeegaaaGreatDoorV43
import Derived.Deep.RegionHeld3
/-
  The walk of the law FnExactVerify: it answers true of every argument.
-/
namespace Go.Proofs.YtgkfelhjbeegaaaGreatDoor
open Go.RowKit Go.BigFrame Go.Sort
set_option linter.unusedVariables false
set_option linter.unusedSimpArgs false

set_option maxRecDepth 100000 in
set_option maxHeartbeats 8000000 in
theorem verifyLaw_in (vr : Value) (g1 o1 : Nat) (R : List ByteArray) (K N hs en : Int) (nm : ByteArray) (Z : WhA) (w : World) (hR : IsRowT w vr g1 o1 R) (hZ : Z.is w) (hnm : nm.size ≤ 1048576) (hT : Tb w) :
    Calls Tryz.prog 3 #[.agg #[vr, .int .i64 K, .int .i64 N], .int .i64 hs, .string nm, .int .i64 en, .agg #[Z.vb, Z.vs, Z.vt, .int .i64 Z.x.h, .int .i64 Z.x.e, .string Z.x.r, .string Z.x.p, .int .i64 Z.a, Z.v1, Z.v2, Z.v3, Z.vg]] w fun e w' => e = .returned (.bool true) ∧ Below w.heap.size w w' := by
  have HST : Hid (∀ W, Below w.heap.size w W → Calls Tryz.prog 4 #[.agg #[vr, .int .i64 K, .int .i64 N], .int .i64 1048576] W fun e w' => ∃ A : Int, e = .returned (.int .i64 A) ∧ Below W.heap.size W w' ∧ A ≤ 1048576 ∧ (0 ≤ A → SX w' vr R)) := fun W hW => (szTrust_row vr g1 o1 R K N 1048576 W (hR.later hW) (by omega) (by omega)).mono fun e w' ⟨A, he, hb, hA, hB⟩ => ⟨A, he, hb, hA, fun h => SX.later ⟨g1, o1, (hB h).1⟩ hb⟩
  have HSW : Hid (∀ W y, Below w.heap.size w W → 0 ≤ y → y ≤ 1048576 → Calls Tryz.prog 5 #[.agg #[Z.vb, Z.vs, Z.vt, .int .i64 Z.x.h, .int .i64 Z.x.e, .string Z.x.r, .string Z.x.p, .int .i64 Z.a, Z.v1, Z.v2, Z.v3, Z.vg], .int .i64 y] W fun e w' => ∃ A : Int, e = .returned (.int .i64 A) ∧ Below W.heap.size W w' ∧ A ≤ y ∧ (0 ≤ A → Z.sm w')) := fun W y hW h0 hy => szWhole_row Z y W (hZ.later hW) h0 hy
  have HTT : Hid (∀ w1, SX w1 vr R → ∀ W, Below w1.heap.size w1 W → Calls Tryz.prog 7 #[.agg #[vr, .int .i64 K, .int .i64 N]] W (fun e w' => ∃ kr, e = .returned (.agg #[.slice (some ⟨kr, 0, none⟩) R.length R.length, .int .i64 K, .int .i64 N]) ∧ SX w' (.slice (some ⟨kr, 0, none⟩) R.length R.length) R ∧ Below W.heap.size W w')) := fun w1 hs W hW => by
    obtain ⟨g, k, h⟩ := hs.later hW
    refine (toTrust_any vr g k R K N W h).mono ?_
    rintro e w' ⟨k1, he, ht, _, hb⟩
    exact ⟨k1, he, ⟨k1, 0, ht.ss⟩, hb⟩
  have HTO : Hid (∀ w1, Z.sm w1 → ∀ W, Below w1.heap.size w1 W → Calls Tryz.prog 8 #[.agg #[Z.vb, Z.vs, Z.vt, .int .i64 Z.x.h, .int .i64 Z.x.e, .string Z.x.r, .string Z.x.p, .int .i64 Z.a, Z.v1, Z.v2, Z.v3, Z.vg]] W (ToW Z.x Z.a Z.L Z.S Z.T Z.o Z.s Z.d Z.G W)) := fun w1 hs W hW => toWhole_any Z.vb Z.vs Z.vt Z.v1 Z.v2 Z.v3 Z.vg Z.x Z.a Z.L Z.S Z.T Z.o Z.s Z.d Z.G W (WhS.later hs hW)
  obtain ⟨VV, hVV⟩ : ∃ v, vfV (fmB R K N hs nm Z.L Z.S Z.T Z.G) (decide (Z.x.h = hs ∧ Z.x.e = en)) (slR (R.getD hs.toNat ⟨#[]⟩) Z.x Z.a Z.o Z.s Z.d) (decide (wrT nm Z.L Z.S Z.T K = Z.x.r)) (decide (N ≤ (cnN R hs Z.x Z.G : Int))) (LV.getV Z.L nm) = v := ⟨_, rfl⟩
  obtain ⟨VB, hVB⟩ : ∃ v, vfB (fmB R K N hs nm Z.L Z.S Z.T Z.G) (decide (Z.x.h = hs ∧ Z.x.e = en)) (slR (R.getD hs.toNat ⟨#[]⟩) Z.x Z.a Z.o Z.s Z.d) (decide (wrT nm Z.L Z.S Z.T K = Z.x.r)) (decide (N ≤ (cnN R hs Z.x Z.G : Int))) (LV.getB Z.L nm) = v := ⟨_, rfl⟩
  obtain ⟨VC, hVC⟩ : ∃ v, vfC (fmB R K N hs nm Z.L Z.S Z.T Z.G) (decide (Z.x.h = hs ∧ Z.x.e = en)) (slR (R.getD hs.toNat ⟨#[]⟩) Z.x Z.a Z.o Z.s Z.d) (decide (wrT nm Z.L Z.S Z.T K = Z.x.r)) (decide (N ≤ (cnN R hs Z.x Z.G : Int))) = v := ⟨_, rfl⟩
  have HCS : Hid (∀ W vr vb vs vt v1 v2 v3 vg, AkS W vr vb vs vt v1 v2 v3 vg R Z.L Z.S Z.T Z.o Z.s Z.d Z.G → Calls Tryz.prog 6 #[.agg #[vr, .int .i64 K, .int .i64 N], .int .i64 hs, .string nm, .int .i64 en, .agg #[vb, vs, vt, .int .i64 Z.x.h, .int .i64 Z.x.e, .string Z.x.r, .string Z.x.p, .int .i64 Z.a, v1, v2, v3, vg]] W fun e w' => e = .returned (.tuple #[.string VV, .bool VB, .int .i64 VC]) ∧ Below W.heap.size W w') := fun W vr vb vs vt v1 v2 v3 vg hm => by
    rw [← hVV, ← hVB, ← hVC]
    exact sVerify_any vr vb vs vt v1 v2 v3 vg K N hs en nm Z.x Z.a R Z.L Z.S Z.T Z.o Z.s Z.d Z.G W hm hnm
  have HCI : Hid (∀ W vr vb vs vt v1 v2 v3 vg, Below w.heap.size w W → AkS W vr vb vs vt v1 v2 v3 vg R Z.L Z.S Z.T Z.o Z.s Z.d Z.G → Calls Tryz.prog 9 #[.agg #[vr, .int .i64 K, .int .i64 N], .int .i64 hs, .string nm, .int .i64 en, .agg #[vb, vs, vt, .int .i64 Z.x.h, .int .i64 Z.x.e, .string Z.x.r, .string Z.x.p, .int .i64 Z.a, v1, v2, v3, vg]] W fun e w' => e = .returned (.tuple #[.string VV, .bool VB, .int .i64 VC]) ∧ Below W.heap.size W w') := fun W vr vb vs vt v1 v2 v3 vg hW hm => by
    rw [← hVV, ← hVB, ← hVC]
    exact Verify_any vr vb vs vt v1 v2 v3 vg K N hs en nm Z.x Z.a R Z.L Z.S Z.T Z.o Z.s Z.d Z.G W hm hnm (hT.later hW)
  have HEQ : Hid (∀ W vb vs vt v1 v2 v3 vg ub us ut u1 u2 u3 ug, WhS W vb vs vt v1 v2 v3 vg Z.L Z.S Z.T Z.o Z.s Z.d Z.G → WhS W ub us ut u1 u2 u3 ug Z.L Z.S Z.T Z.o Z.s Z.d Z.G → Calls Tryz.prog 11 #[.agg #[vb, vs, vt, .int .i64 Z.x.h, .int .i64 Z.x.e, .string Z.x.r, .string Z.x.p, .int .i64 Z.a, v1, v2, v3, vg], .agg #[ub, us, ut, .int .i64 Z.x.h, .int .i64 Z.x.e, .string Z.x.r, .string Z.x.p, .int .i64 Z.a, u1, u2, u3, ug]] W fun e w' => e = .returned (.bool true) ∧ Below W.heap.size W w') := fun W vb vs vt v1 v2 v3 vg ub us ut u1 u2 u3 ug h k => eqWhole_yes vb vs vt v1 v2 v3 vg ub us ut u1 u2 u3 ug Z.x Z.a Z.L Z.S Z.T Z.o Z.s Z.d Z.G W h k
  have HET : Hid (∀ W v u, SX W v R → SX W u R → Calls Tryz.prog 10 #[.agg #[v, .int .i64 K, .int .i64 N], .agg #[u, .int .i64 K, .int .i64 N]] W fun e w' => e = .returned (.bool true) ∧ Below W.heap.size W w') := fun W v u h k => by
    obtain ⟨p1, q1, h⟩ := h
    obtain ⟨p2, q2, k⟩ := k
    exact eqTrust_yes v u p1 q1 p2 q2 R K N W h k
  obtain ⟨⟨_, _, ab, nb, cb, e1, j1⟩, ⟨_, _, as2, ns, cs, e2, j2⟩, ⟨_, _, at2, nt, ct, e3, j3⟩, j4, ⟨_, _, a1, n1, c1, e5, j5⟩, ⟨_, _, a2, n2, c2, e6, j6⟩, ⟨_, _, a3, n3, c3, e7, j7⟩, ⟨_, _, ag, ng, cg, e8, j8⟩⟩ := hZ
  obtain ⟨ar, nr, cr, rfl, j9⟩ := hR
  clear j1 j2 j3 j4 j5 j6 j7 j8 j9 hT hVV hVB hVC
  unfold ToW at HTO
  generalize hSM : Z.sm = SM at *
  clear hSM
  obtain ⟨vb, vs, vt, ⟨h, ep, r, p⟩, a, v1, v2, v3, vg, L, S, T, o, s, d, V, G⟩ := Z
  simp only at e1 e2 e3 e5 e6 e7 e8 HSW HTO HCS HCI HEQ ⊢
  subst e1
  subst e2
  subst e3
  subst e5
  subst e6
  subst e7
  subst e8
  generalize L.length = lb at *
  generalize S.length = ls at *
  generalize T.length = lt at *
  generalize G.length = lg at *
  generalize R.length = lr at *
  have HTO' : Hid (∀ w1, SM w1 → ∀ W, Below w1.heap.size w1 W → Calls Tryz.prog 8 #[.agg #[.slice ab nb cb, .slice as2 ns cs, .slice at2 nt ct, .int .i64 h, .int .i64 ep, .string r, .string p, .int .i64 a, .slice a1 n1 c1, .slice a2 n2 c2, .slice a3 n3 c3, .slice ag ng cg]] W fun e w' => ∃ kb ks kt e1 f1 g1 e2 f2 g2 e3 f3 g3 kg, e = .returned (.agg #[.slice (some ⟨kb, 0, none⟩) lb lb, .slice (some ⟨ks, 0, none⟩) ls ls, .slice (some ⟨kt, 0, none⟩) lt lt, .int .i64 h, .int .i64 ep, .string r, .string p, .int .i64 a, .slice e1 f1 g1, .slice e2 f2 g2, .slice e3 f3 g3, .slice (some ⟨kg, 0, none⟩) lg lg]) ∧ WhS w' (.slice (some ⟨kb, 0, none⟩) lb lb) (.slice (some ⟨ks, 0, none⟩) ls ls) (.slice (some ⟨kt, 0, none⟩) lt lt) (.slice e1 f1 g1) (.slice e2 f2 g2) (.slice e3 f3 g3) (.slice (some ⟨kg, 0, none⟩) lg lg) L S T o s d G ∧ Below W.heap.size W w') := HTO
  clear HTO
  have HX : Hid (Below w.heap.size w ((w.alloc (.cells #[.slice ar nr cr, .int .i64 K, .int .i64 N] 24)).alloc (.cells #[.slice ab nb cb, .slice as2 ns cs, .slice at2 nt ct, .int .i64 h, .int .i64 ep, .string r, .string p, .int .i64 a, .slice a1 n1 c1, .slice a2 n2 c2, .slice a3 n3 c3, .slice ag ng cg] 36)) ∧ Box 24 ((w.alloc (.cells #[.slice ar nr cr, .int .i64 K, .int .i64 N] 24)).alloc (.cells #[.slice ab nb cb, .slice as2 ns cs, .slice at2 nt ct, .int .i64 h, .int .i64 ep, .string r, .string p, .int .i64 a, .slice a1 n1 c1, .slice a2 n2 c2, .slice a3 n3 c3, .slice ag ng cg] 36)) w.heap.size [.slice ar nr cr, .int .i64 K, .int .i64 N] ∧ Box 36 ((w.alloc (.cells #[.slice ar nr cr, .int .i64 K, .int .i64 N] 24)).alloc (.cells #[.slice ab nb cb, .slice as2 ns cs, .slice at2 nt ct, .int .i64 h, .int .i64 ep, .string r, .string p, .int .i64 a, .slice a1 n1 c1, .slice a2 n2 c2, .slice a3 n3 c3, .slice ag ng cg] 36)) (w.heap.size + 1) [.slice ab nb cb, .slice as2 ns cs, .slice at2 nt ct, .int .i64 h, .int .i64 ep, .string r, .string p, .int .i64 a, .slice a1 n1 c1, .slice a2 n2 c2, .slice a3 n3 c3, .slice ag ng cg]) := ⟨(below_alloc _ _).alloc (by simp) _, (Box.new _ w _).later (below_alloc _ _), alloc_fst _ _ (by simp)⟩
  go_enter Tryz.func3, Tryz.ntmps3
  go_wp2_with fail
  refine (HST.out _ HX.out.1).mono ?_
  rintro e w1 ⟨B, rfl, hb1, hB1, hB⟩
  have HX1 : Hid (Below w.heap.size w w1 ∧ Box 24 w1 w.heap.size [.slice ar nr cr, .int .i64 K, .int .i64 N] ∧ Box 36 w1 (w.heap.size + 1) [.slice ab nb cb, .slice as2 ns cs, .slice at2 nt ct, .int .i64 h, .int .i64 ep, .string r, .string p, .int .i64 a, .slice a1 n1 c1, .slice a2 n2 c2, .slice a3 n3 c3, .slice ag ng cg]) := ⟨HX.out.1.trans (hb1.mono HX.out.1.size), HX.out.2.1.later hb1, HX.out.2.2.later hb1⟩
  have HBB : Hid (0 ≤ B → SX w1 (.slice ar nr cr) R) := hB
  clear HX hb1 HST hB
  by_cases hneg : B < 0
  · clear HBB HCS HCI HEQ HET HTO' HTT HSW
    go_wp2
    go_ret
    exact ⟨rfl, HX1.out.1⟩
  obtain ⟨z0, z1, z2, z3, z4, z5, z6, z7, z8, z9, z10, z11⟩ := HX1.out.2.2.all12w
  go_wp2_with fail
  refine (HSW.out _ B HX1.out.1 (by omega) hB1).mono ?_
  rintro e w2 ⟨C, rfl, hb2, hC1, hC⟩
  have HX2 : Hid (Below w.heap.size w w2 ∧ Box 24 w2 w.heap.size [.slice ar nr cr, .int .i64 K, .int .i64 N] ∧ Box 36 w2 (w.heap.size + 1) [.slice ab nb cb, .slice as2 ns cs, .slice at2 nt ct, .int .i64 h, .int .i64 ep, .string r, .string p, .int .i64 a, .slice a1 n1 c1, .slice a2 n2 c2, .slice a3 n3 c3, .slice ag ng cg] ∧ SX w2 (.slice ar nr cr) R) := ⟨HX1.out.1.trans (hb2.mono HX1.out.1.size), HX1.out.2.1.later hb2, HX1.out.2.2.later hb2, (HBB.out (by omega)).later hb2⟩
  have HCC : Hid (0 ≤ C → SM w2) := hC
  clear HX1 hb2 HSW hC HBB z0 z1 z2 z3 z4 z5 z6 z7 z8 z9 z10 z11
  by_cases hneg2 : C < 0
  · clear HCC HCS HCI HEQ HET HTO' HTT
    go_wp2
    go_ret
    exact ⟨rfl, HX2.out.1⟩
  have HTO : Hid (∀ W, Below w2.heap.size w2 W → Calls Tryz.prog 8 #[.agg #[.slice ab nb cb, .slice as2 ns cs, .slice at2 nt ct, .int .i64 h, .int .i64 ep, .string r, .string p, .int .i64 a, .slice a1 n1 c1, .slice a2 n2 c2, .slice a3 n3 c3, .slice ag ng cg]] W fun e w' => ∃ kb ks kt e1 f1 g1 e2 f2 g2 e3 f3 g3 kg, e = .returned (.agg #[.slice (some ⟨kb, 0, none⟩) lb lb, .slice (some ⟨ks, 0, none⟩) ls ls, .slice (some ⟨kt, 0, none⟩) lt lt, .int .i64 h, .int .i64 ep, .string r, .string p, .int .i64 a, .slice e1 f1 g1, .slice e2 f2 g2, .slice e3 f3 g3, .slice (some ⟨kg, 0, none⟩) lg lg]) ∧ WhS w' (.slice (some ⟨kb, 0, none⟩) lb lb) (.slice (some ⟨ks, 0, none⟩) ls ls) (.slice (some ⟨kt, 0, none⟩) lt lt) (.slice e1 f1 g1) (.slice e2 f2 g2) (.slice e3 f3 g3) (.slice (some ⟨kg, 0, none⟩) lg lg) L S T o s d G ∧ Below W.heap.size W w') := HTO'.out w2 (HCC.out (by omega))
  have HTR : Hid (∀ W, Below w2.heap.size w2 W → Calls Tryz.prog 7 #[.agg #[.slice ar nr cr, .int .i64 K, .int .i64 N]] W fun e w' => ∃ kr, e = .returned (.agg #[.slice (some ⟨kr, 0, none⟩) lr lr, .int .i64 K, .int .i64 N]) ∧ SX w' (.slice (some ⟨kr, 0, none⟩) lr lr) R ∧ Below W.heap.size W w') := HTT.out w2 HX2.out.2.2.2
  clear HTO' HTT HCC
  have HK2 : Hid (∀ W, Below w2.heap.size w2 W → (W.cell? ⟨w.heap.size, 0, none⟩ = some (.slice ar nr cr) ∧ W.cell? ⟨w.heap.size, 1, none⟩ = some (.int .i64 K) ∧ W.cell? ⟨w.heap.size, 2, none⟩ = some (.int .i64 N)) ∧ W.cell? ⟨w.heap.size + 1, 0, none⟩ = some (.slice ab nb cb) ∧ W.cell? ⟨w.heap.size + 1, 1, none⟩ = some (.slice as2 ns cs) ∧ W.cell? ⟨w.heap.size + 1, 2, none⟩ = some (.slice at2 nt ct) ∧ W.cell? ⟨w.heap.size + 1, 3, none⟩ = some (.int .i64 h) ∧ W.cell? ⟨w.heap.size + 1, 4, none⟩ = some (.int .i64 ep) ∧ W.cell? ⟨w.heap.size + 1, 5, none⟩ = some (.string r) ∧ W.cell? ⟨w.heap.size + 1, 6, none⟩ = some (.string p) ∧ W.cell? ⟨w.heap.size + 1, 7, none⟩ = some (.int .i64 a) ∧ W.cell? ⟨w.heap.size + 1, 8, none⟩ = some (.slice a1 n1 c1) ∧ W.cell? ⟨w.heap.size + 1, 9, none⟩ = some (.slice a2 n2 c2) ∧ W.cell? ⟨w.heap.size + 1, 10, none⟩ = some (.slice a3 n3 c3) ∧ W.cell? ⟨w.heap.size + 1, 11, none⟩ = some (.slice ag ng cg)) := fun W hW => ⟨⟨(HX2.out.2.1.later hW).at 0 _ rfl, (HX2.out.2.1.later hW).at 1 _ rfl, (HX2.out.2.1.later hW).at 2 _ rfl⟩, (HX2.out.2.2.1.later hW).all12w⟩
  have HW2 : Hid (∀ W, Below w2.heap.size w2 W → Below w.heap.size w W) := fun W hW => HX2.out.1.trans (hW.mono HX2.out.1.size)
  have hb0 : Below w2.heap.size w2 w2.drew := (Below.refl _ _).drew
  clear HX2
  go_wp2
  go_region_held3 (fun W => (W.cell? ⟨w.heap.size, 0, none⟩ = some (.slice ar nr cr) ∧ W.cell? ⟨w.heap.size, 1, none⟩ = some (.int .i64 K) ∧ W.cell? ⟨w.heap.size, 2, none⟩ = some (.int .i64 N)) ∧ W.cell? ⟨w.heap.size + 1, 0, none⟩ = some (.slice ab nb cb) ∧ W.cell? ⟨w.heap.size + 1, 1, none⟩ = some (.slice as2 ns cs) ∧ W.cell? ⟨w.heap.size + 1, 2, none⟩ = some (.slice at2 nt ct) ∧ W.cell? ⟨w.heap.size + 1, 3, none⟩ = some (.int .i64 h) ∧ W.cell? ⟨w.heap.size + 1, 4, none⟩ = some (.int .i64 ep) ∧ W.cell? ⟨w.heap.size + 1, 5, none⟩ = some (.string r) ∧ W.cell? ⟨w.heap.size + 1, 6, none⟩ = some (.string p) ∧ W.cell? ⟨w.heap.size + 1, 7, none⟩ = some (.int .i64 a) ∧ W.cell? ⟨w.heap.size + 1, 8, none⟩ = some (.slice a1 n1 c1) ∧ W.cell? ⟨w.heap.size + 1, 9, none⟩ = some (.slice a2 n2 c2) ∧ W.cell? ⟨w.heap.size + 1, 10, none⟩ = some (.slice a3 n3 c3) ∧ W.cell? ⟨w.heap.size + 1, 11, none⟩ = some (.slice ag ng cg)) (first | (go_keep; done) | exact HK2.out _ hb0) (first | (go_at_call 7; refine (HTR.out _ hb0).mono ?_; rintro e w3 ⟨kr3, rfl, hs3, hc3⟩; have hb0 := hb0.trans (hc3.mono hb0.size)) | (go_at_call 8; refine (HTO.out _ hb0).mono ?_; rintro e w4 ⟨kb4, ks4, kt4, e14, f14, g14, e24, f24, g24, e34, f34, g34, kg4, rfl, hm4, hc4⟩; have hs4 := hs3.later hc4; have hb0 := hb0.trans (hc4.mono hb0.size)) | (go_at_call 6; refine (HCS.out _ _ _ _ _ _ _ _ _ ⟨hs4, hm4⟩).mono ?_; rintro e w5 ⟨rfl, hc5⟩; have hb0 := hb0.trans (hc5.mono hb0.size)) | fail)
  have HB5 : Hid (Below w2.heap.size w2 w5) := hb0
  try rename_i hHeld
  try clear hHeld
  clear hb0 hc3 hc4 hc5 hs3 hs4 hm4 HCS
  obtain ⟨⟨t0, t1, t2⟩, z0, z1, z2, z3, z4, z5, z6, z7, z8, z9, z10, z11⟩ := HK2.out _ HB5.out
  go_wp2_with fail
  refine (HTR.out _ HB5.out).mono ?_
  rintro e w6 ⟨kr6, rfl, hs6, hb6⟩
  have HB6 : Hid (Below w2.heap.size w2 (w6.alloc (.cells #[.slice (some ⟨kr6, 0, none⟩) lr lr, .int .i64 K, .int .i64 N] 41)) ∧ Box 41 (w6.alloc (.cells #[.slice (some ⟨kr6, 0, none⟩) lr lr, .int .i64 K, .int .i64 N] 41)) w6.heap.size [.slice (some ⟨kr6, 0, none⟩) lr lr, .int .i64 K, .int .i64 N] ∧ SX (w6.alloc (.cells #[.slice (some ⟨kr6, 0, none⟩) lr lr, .int .i64 K, .int .i64 N] 41)) (.slice (some ⟨kr6, 0, none⟩) lr lr) R) := by
    have k1 := HB5.out.trans (hb6.mono HB5.out.size)
    exact ⟨k1.alloc k1.size _, Box.new _ _ _, hs6.later (below_alloc _ _)⟩
  clear HB5 hb6 hs6 t0 t1 t2 z0 z1 z2 z3 z4 z5 z6 z7 z8 z9 z10 z11
  obtain ⟨⟨t0, t1, t2⟩, z0, z1, z2, z3, z4, z5, z6, z7, z8, z9, z10, z11⟩ := HK2.out _ HB6.out.1
  go_wp2_with fail
  refine (HTO.out _ HB6.out.1).mono ?_
  rintro e w7 ⟨kb7, ks7, kt7, e17, f17, g17, e27, f27, g27, e37, f37, g37, kg7, rfl, hm7, hb7⟩
  have HB7 : Hid (Below w2.heap.size w2 (w7.alloc (.cells #[.slice (some ⟨kb7, 0, none⟩) lb lb, .slice (some ⟨ks7, 0, none⟩) ls ls, .slice (some ⟨kt7, 0, none⟩) lt lt, .int .i64 h, .int .i64 ep, .string r, .string p, .int .i64 a, .slice e17 f17 g17, .slice e27 f27 g27, .slice e37 f37 g37, .slice (some ⟨kg7, 0, none⟩) lg lg] 52)) ∧ Box 41 (w7.alloc (.cells #[.slice (some ⟨kb7, 0, none⟩) lb lb, .slice (some ⟨ks7, 0, none⟩) ls ls, .slice (some ⟨kt7, 0, none⟩) lt lt, .int .i64 h, .int .i64 ep, .string r, .string p, .int .i64 a, .slice e17 f17 g17, .slice e27 f27 g27, .slice e37 f37 g37, .slice (some ⟨kg7, 0, none⟩) lg lg] 52)) w6.heap.size [.slice (some ⟨kr6, 0, none⟩) lr lr, .int .i64 K, .int .i64 N] ∧ Box 52 (w7.alloc (.cells #[.slice (some ⟨kb7, 0, none⟩) lb lb, .slice (some ⟨ks7, 0, none⟩) ls ls, .slice (some ⟨kt7, 0, none⟩) lt lt, .int .i64 h, .int .i64 ep, .string r, .string p, .int .i64 a, .slice e17 f17 g17, .slice e27 f27 g27, .slice e37 f37 g37, .slice (some ⟨kg7, 0, none⟩) lg lg] 52)) w7.heap.size [.slice (some ⟨kb7, 0, none⟩) lb lb, .slice (some ⟨ks7, 0, none⟩) ls ls, .slice (some ⟨kt7, 0, none⟩) lt lt, .int .i64 h, .int .i64 ep, .string r, .string p, .int .i64 a, .slice e17 f17 g17, .slice e27 f27 g27, .slice e37 f37 g37, .slice (some ⟨kg7, 0, none⟩) lg lg] ∧ SX (w7.alloc (.cells #[.slice (some ⟨kb7, 0, none⟩) lb lb, .slice (some ⟨ks7, 0, none⟩) ls ls, .slice (some ⟨kt7, 0, none⟩) lt lt, .int .i64 h, .int .i64 ep, .string r, .string p, .int .i64 a, .slice e17 f17 g17, .slice e27 f27 g27, .slice e37 f37 g37, .slice (some ⟨kg7, 0, none⟩) lg lg] 52)) (.slice (some ⟨kr6, 0, none⟩) lr lr) R ∧ WhS (w7.alloc (.cells #[.slice (some ⟨kb7, 0, none⟩) lb lb, .slice (some ⟨ks7, 0, none⟩) ls ls, .slice (some ⟨kt7, 0, none⟩) lt lt, .int .i64 h, .int .i64 ep, .string r, .string p, .int .i64 a, .slice e17 f17 g17, .slice e27 f27 g27, .slice e37 f37 g37, .slice (some ⟨kg7, 0, none⟩) lg lg] 52)) (.slice (some ⟨kb7, 0, none⟩) lb lb) (.slice (some ⟨ks7, 0, none⟩) ls ls) (.slice (some ⟨kt7, 0, none⟩) lt lt) (.slice e17 f17 g17) (.slice e27 f27 g27) (.slice e37 f37 g37) (.slice (some ⟨kg7, 0, none⟩) lg lg) L S T o s d G) := by
    obtain ⟨k1, k2, k3⟩ := HB6.out
    have j1 := k1.trans (hb7.mono k1.size)
    exact ⟨j1.alloc j1.size _, (k2.later hb7).later (below_alloc _ _), Box.new _ _ _, (k3.later hb7).later (below_alloc _ _), hm7.later (below_alloc _ _)⟩
  clear HB6 hb7 hm7 t0 t1 t2 z0 z1 z2 z3 z4 z5 z6 z7 z8 z9 z10 z11
  have y0 := HB7.out.2.1.at 0 _ rfl
  have y1 := HB7.out.2.1.at 1 _ rfl
  have y2 := HB7.out.2.1.at 2 _ rfl
  obtain ⟨z0, z1, z2, z3, z4, z5, z6, z7, z8, z9, z10, z11⟩ := HB7.out.2.2.1.all12w
  go_wp2_with fail
  refine (HCI.out _ _ _ _ _ _ _ _ _ (HW2.out _ HB7.out.1) ⟨HB7.out.2.2.2.1, HB7.out.2.2.2.2⟩).mono ?_
  rintro e w8 ⟨rfl, hb8⟩
  have HB8 : Hid (Below w2.heap.size w2 w8 ∧ Box 41 w8 w6.heap.size [.slice (some ⟨kr6, 0, none⟩) lr lr, .int .i64 K, .int .i64 N] ∧ Box 52 w8 w7.heap.size [.slice (some ⟨kb7, 0, none⟩) lb lb, .slice (some ⟨ks7, 0, none⟩) ls ls, .slice (some ⟨kt7, 0, none⟩) lt lt, .int .i64 h, .int .i64 ep, .string r, .string p, .int .i64 a, .slice e17 f17 g17, .slice e27 f27 g27, .slice e37 f37 g37, .slice (some ⟨kg7, 0, none⟩) lg lg] ∧ SX w8 (.slice (some ⟨kr6, 0, none⟩) lr lr) R ∧ WhS w8 (.slice (some ⟨kb7, 0, none⟩) lb lb) (.slice (some ⟨ks7, 0, none⟩) ls ls) (.slice (some ⟨kt7, 0, none⟩) lt lt) (.slice e17 f17 g17) (.slice e27 f27 g27) (.slice e37 f37 g37) (.slice (some ⟨kg7, 0, none⟩) lg lg) L S T o s d G) := by
    obtain ⟨k1, k2, k3, k4, k5⟩ := HB7.out
    exact ⟨k1.trans (hb8.mono k1.size), k2.later hb8, k3.later hb8, k4.later hb8, k5.later hb8⟩
  clear HB7 hb8 y0 y1 y2 z0 z1 z2 z3 z4 z5 z6 z7 z8 z9 z10 z11 HCI
  have HK8 : Hid (∀ W, Below w8.heap.size w8 W → (W.cell? ⟨w6.heap.size, 0, none⟩ = some (.slice (some ⟨kr6, 0, none⟩) lr lr) ∧ W.cell? ⟨w6.heap.size, 1, none⟩ = some (.int .i64 K) ∧ W.cell? ⟨w6.heap.size, 2, none⟩ = some (.int .i64 N)) ∧ W.cell? ⟨w.heap.size, 0, none⟩ = some (.slice ar nr cr) ∧ W.cell? ⟨w.heap.size, 1, none⟩ = some (.int .i64 K) ∧ W.cell? ⟨w.heap.size, 2, none⟩ = some (.int .i64 N)) := fun W hW => by
    have k := (HK2.out W (HB8.out.1.trans (hW.mono HB8.out.1.size))).1
    exact ⟨⟨(HB8.out.2.1.later hW).at 0 _ rfl, (HB8.out.2.1.later hW).at 1 _ rfl, (HB8.out.2.1.later hW).at 2 _ rfl⟩, k⟩
  have HTR8 : Hid (∀ W, Below w8.heap.size w8 W → Calls Tryz.prog 7 #[.agg #[.slice ar nr cr, .int .i64 K, .int .i64 N]] W fun e w' => ∃ kr, e = .returned (.agg #[.slice (some ⟨kr, 0, none⟩) lr lr, .int .i64 K, .int .i64 N]) ∧ SX w' (.slice (some ⟨kr, 0, none⟩) lr lr) R ∧ Below W.heap.size W w') := fun W hW => HTR.out W (HB8.out.1.trans (hW.mono HB8.out.1.size))
  have HET8 : Hid (∀ W u, Below w8.heap.size w8 W → SX W u R → Calls Tryz.prog 10 #[.agg #[.slice (some ⟨kr6, 0, none⟩) lr lr, .int .i64 K, .int .i64 N], .agg #[u, .int .i64 K, .int .i64 N]] W fun e w' => e = .returned (.bool true) ∧ Below W.heap.size W w') := fun W u hW hu => HET.out W _ u (HB8.out.2.2.2.1.later hW) hu
  have hb0 : Below w8.heap.size w8 w8.drew := (Below.refl _ _).drew
  clear HET HTR
  go_wp2
  go_region_held3 (fun W => (W.cell? ⟨w6.heap.size, 0, none⟩ = some (.slice (some ⟨kr6, 0, none⟩) lr lr) ∧ W.cell? ⟨w6.heap.size, 1, none⟩ = some (.int .i64 K) ∧ W.cell? ⟨w6.heap.size, 2, none⟩ = some (.int .i64 N)) ∧ W.cell? ⟨w.heap.size, 0, none⟩ = some (.slice ar nr cr) ∧ W.cell? ⟨w.heap.size, 1, none⟩ = some (.int .i64 K) ∧ W.cell? ⟨w.heap.size, 2, none⟩ = some (.int .i64 N)) (first | (go_keep; done) | exact HK8.out _ hb0) (first | (go_at_call 7; refine (HTR8.out _ hb0).mono ?_; rintro e w9 ⟨kr9, rfl, hs9, hc9⟩; have hb0 := hb0.trans (hc9.mono hb0.size)) | (go_at_call 10; refine (HET8.out _ _ hb0 hs9).mono ?_; rintro e w10 ⟨rfl, hc10⟩; have hb0 := hb0.trans (hc10.mono hb0.size)) | fail)
  have HB10 : Hid (Below w2.heap.size w2 w10 ∧ Box 52 w10 w7.heap.size [.slice (some ⟨kb7, 0, none⟩) lb lb, .slice (some ⟨ks7, 0, none⟩) ls ls, .slice (some ⟨kt7, 0, none⟩) lt lt, .int .i64 h, .int .i64 ep, .string r, .string p, .int .i64 a, .slice e17 f17 g17, .slice e27 f27 g27, .slice e37 f37 g37, .slice (some ⟨kg7, 0, none⟩) lg lg] ∧ WhS w10 (.slice (some ⟨kb7, 0, none⟩) lb lb) (.slice (some ⟨ks7, 0, none⟩) ls ls) (.slice (some ⟨kt7, 0, none⟩) lt lt) (.slice e17 f17 g17) (.slice e27 f27 g27) (.slice e37 f37 g37) (.slice (some ⟨kg7, 0, none⟩) lg lg) L S T o s d G) := ⟨HB8.out.1.trans (hb0.mono HB8.out.1.size), HB8.out.2.2.1.later hb0, HB8.out.2.2.2.2.later hb0⟩
  try rename_i hHeld
  try clear hHeld
  clear hb0 hc9 hc10 hs9 HB8 HK8 HTR8 HET8
  have HK10 : Hid (∀ W, Below w10.heap.size w10 W → (W.cell? ⟨w7.heap.size, 0, none⟩ = some (.slice (some ⟨kb7, 0, none⟩) lb lb) ∧ W.cell? ⟨w7.heap.size, 1, none⟩ = some (.slice (some ⟨ks7, 0, none⟩) ls ls) ∧ W.cell? ⟨w7.heap.size, 2, none⟩ = some (.slice (some ⟨kt7, 0, none⟩) lt lt) ∧ W.cell? ⟨w7.heap.size, 3, none⟩ = some (.int .i64 h) ∧ W.cell? ⟨w7.heap.size, 4, none⟩ = some (.int .i64 ep) ∧ W.cell? ⟨w7.heap.size, 5, none⟩ = some (.string r) ∧ W.cell? ⟨w7.heap.size, 6, none⟩ = some (.string p) ∧ W.cell? ⟨w7.heap.size, 7, none⟩ = some (.int .i64 a) ∧ W.cell? ⟨w7.heap.size, 8, none⟩ = some (.slice e17 f17 g17) ∧ W.cell? ⟨w7.heap.size, 9, none⟩ = some (.slice e27 f27 g27) ∧ W.cell? ⟨w7.heap.size, 10, none⟩ = some (.slice e37 f37 g37) ∧ W.cell? ⟨w7.heap.size, 11, none⟩ = some (.slice (some ⟨kg7, 0, none⟩) lg lg)) ∧ W.cell? ⟨w.heap.size + 1, 0, none⟩ = some (.slice ab nb cb) ∧ W.cell? ⟨w.heap.size + 1, 1, none⟩ = some (.slice as2 ns cs) ∧ W.cell? ⟨w.heap.size + 1, 2, none⟩ = some (.slice at2 nt ct) ∧ W.cell? ⟨w.heap.size + 1, 3, none⟩ = some (.int .i64 h) ∧ W.cell? ⟨w.heap.size + 1, 4, none⟩ = some (.int .i64 ep) ∧ W.cell? ⟨w.heap.size + 1, 5, none⟩ = some (.string r) ∧ W.cell? ⟨w.heap.size + 1, 6, none⟩ = some (.string p) ∧ W.cell? ⟨w.heap.size + 1, 7, none⟩ = some (.int .i64 a) ∧ W.cell? ⟨w.heap.size + 1, 8, none⟩ = some (.slice a1 n1 c1) ∧ W.cell? ⟨w.heap.size + 1, 9, none⟩ = some (.slice a2 n2 c2) ∧ W.cell? ⟨w.heap.size + 1, 10, none⟩ = some (.slice a3 n3 c3) ∧ W.cell? ⟨w.heap.size + 1, 11, none⟩ = some (.slice ag ng cg)) := fun W hW => ⟨(HB10.out.2.1.later hW).all12w, (HK2.out W (HB10.out.1.trans (hW.mono HB10.out.1.size))).2⟩
  have HTO10 : Hid (∀ W, Below w10.heap.size w10 W → Calls Tryz.prog 8 #[.agg #[.slice ab nb cb, .slice as2 ns cs, .slice at2 nt ct, .int .i64 h, .int .i64 ep, .string r, .string p, .int .i64 a, .slice a1 n1 c1, .slice a2 n2 c2, .slice a3 n3 c3, .slice ag ng cg]] W fun e w' => ∃ kb ks kt e1 f1 g1 e2 f2 g2 e3 f3 g3 kg, e = .returned (.agg #[.slice (some ⟨kb, 0, none⟩) lb lb, .slice (some ⟨ks, 0, none⟩) ls ls, .slice (some ⟨kt, 0, none⟩) lt lt, .int .i64 h, .int .i64 ep, .string r, .string p, .int .i64 a, .slice e1 f1 g1, .slice e2 f2 g2, .slice e3 f3 g3, .slice (some ⟨kg, 0, none⟩) lg lg]) ∧ WhS w' (.slice (some ⟨kb, 0, none⟩) lb lb) (.slice (some ⟨ks, 0, none⟩) ls ls) (.slice (some ⟨kt, 0, none⟩) lt lt) (.slice e1 f1 g1) (.slice e2 f2 g2) (.slice e3 f3 g3) (.slice (some ⟨kg, 0, none⟩) lg lg) L S T o s d G ∧ Below W.heap.size W w') := fun W hW => HTO.out W (HB10.out.1.trans (hW.mono HB10.out.1.size))
  have HEQ10 : Hid (∀ W ub us ut u1 u2 u3 ug, Below w10.heap.size w10 W → WhS W ub us ut u1 u2 u3 ug L S T o s d G → Calls Tryz.prog 11 #[.agg #[.slice (some ⟨kb7, 0, none⟩) lb lb, .slice (some ⟨ks7, 0, none⟩) ls ls, .slice (some ⟨kt7, 0, none⟩) lt lt, .int .i64 h, .int .i64 ep, .string r, .string p, .int .i64 a, .slice e17 f17 g17, .slice e27 f27 g27, .slice e37 f37 g37, .slice (some ⟨kg7, 0, none⟩) lg lg], .agg #[ub, us, ut, .int .i64 h, .int .i64 ep, .string r, .string p, .int .i64 a, u1, u2, u3, ug]] W fun e w' => e = .returned (.bool true) ∧ Below W.heap.size W w') := fun W ub us ut u1 u2 u3 ug hW hu => HEQ.out W _ _ _ _ _ _ _ ub us ut u1 u2 u3 ug (HB10.out.2.2.later hW) hu
  have hb0 : Below w10.heap.size w10 w10.drew := (Below.refl _ _).drew
  have HBF : Hid (∀ W, Below w10.heap.size w10 W → Below w.heap.size w W) := fun W hW => HW2.out W (HB10.out.1.trans (hW.mono HB10.out.1.size))
  clear HB10 HTO HEQ HK2 HW2
  go_wp2
  go_region_held3 (fun W => (W.cell? ⟨w7.heap.size, 0, none⟩ = some (.slice (some ⟨kb7, 0, none⟩) lb lb) ∧ W.cell? ⟨w7.heap.size, 1, none⟩ = some (.slice (some ⟨ks7, 0, none⟩) ls ls) ∧ W.cell? ⟨w7.heap.size, 2, none⟩ = some (.slice (some ⟨kt7, 0, none⟩) lt lt) ∧ W.cell? ⟨w7.heap.size, 3, none⟩ = some (.int .i64 h) ∧ W.cell? ⟨w7.heap.size, 4, none⟩ = some (.int .i64 ep) ∧ W.cell? ⟨w7.heap.size, 5, none⟩ = some (.string r) ∧ W.cell? ⟨w7.heap.size, 6, none⟩ = some (.string p) ∧ W.cell? ⟨w7.heap.size, 7, none⟩ = some (.int .i64 a) ∧ W.cell? ⟨w7.heap.size, 8, none⟩ = some (.slice e17 f17 g17) ∧ W.cell? ⟨w7.heap.size, 9, none⟩ = some (.slice e27 f27 g27) ∧ W.cell? ⟨w7.heap.size, 10, none⟩ = some (.slice e37 f37 g37) ∧ W.cell? ⟨w7.heap.size, 11, none⟩ = some (.slice (some ⟨kg7, 0, none⟩) lg lg)) ∧ W.cell? ⟨w.heap.size + 1, 0, none⟩ = some (.slice ab nb cb) ∧ W.cell? ⟨w.heap.size + 1, 1, none⟩ = some (.slice as2 ns cs) ∧ W.cell? ⟨w.heap.size + 1, 2, none⟩ = some (.slice at2 nt ct) ∧ W.cell? ⟨w.heap.size + 1, 3, none⟩ = some (.int .i64 h) ∧ W.cell? ⟨w.heap.size + 1, 4, none⟩ = some (.int .i64 ep) ∧ W.cell? ⟨w.heap.size + 1, 5, none⟩ = some (.string r) ∧ W.cell? ⟨w.heap.size + 1, 6, none⟩ = some (.string p) ∧ W.cell? ⟨w.heap.size + 1, 7, none⟩ = some (.int .i64 a) ∧ W.cell? ⟨w.heap.size + 1, 8, none⟩ = some (.slice a1 n1 c1) ∧ W.cell? ⟨w.heap.size + 1, 9, none⟩ = some (.slice a2 n2 c2) ∧ W.cell? ⟨w.heap.size + 1, 10, none⟩ = some (.slice a3 n3 c3) ∧ W.cell? ⟨w.heap.size + 1, 11, none⟩ = some (.slice ag ng cg)) (first | (go_keep; done) | exact HK10.out _ hb0) (first | (go_at_call 8; refine (HTO10.out _ hb0).mono ?_; rintro e w11 ⟨kb11, ks11, kt11, e111, f111, g111, e211, f211, g211, e311, f311, g311, kg11, rfl, hm11, hc11⟩; have hb0 := hb0.trans (hc11.mono hb0.size)) | (go_at_call 11; refine (HEQ10.out _ _ _ _ _ _ _ _ hb0 hm11).mono ?_; rintro e w12 ⟨rfl, hc12⟩; have hb0 := hb0.trans (hc12.mono hb0.size)) | fail)
  go_wp2
  go_ret
  exact ⟨rfl, HBF.out _ hb0⟩

end Go.Proofs.YtgkfelhjbeegaaaGreatDoor
