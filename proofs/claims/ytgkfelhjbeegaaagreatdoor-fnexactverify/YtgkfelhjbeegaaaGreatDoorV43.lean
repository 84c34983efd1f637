/-
  Texts laid together: Wh.
-/
import Derived.Test.YtgkfelhjbeegaaaGreatDoorV40
import Derived.Test.YtgkfelhjbeegaaaGreatDoorV41
import Derived.Test.YtgkfelhjbeegaaaGreatDoorV42
import Derived.Deep.RegionHeld3
import Derived.Lib.QuietBelow
/-
  Verify: the specification's answer.
-/
namespace Go.Proofs.YtgkfelhjbeegaaaGreatDoor
open Go.RowKit Go.BigFrame Go.Sort
set_option linter.unusedVariables false
set_option linter.unusedSimpArgs false

/-- the first m stamps are looked at -/
def WhR (w6 : World) (R : List ByteArray) (hs : Int) (x : Hd) (G : List Stm) (r i : Value) (wr : World) : Prop := ∃ m : Nat, m ≤ G.length ∧ i = .int .i64 m ∧ r = .int .i64 (cnN R hs x (G.take m) : Nat) ∧ Hid (Below w6.heap.size w6 wr)

set_option maxRecDepth 100000 in
set_option maxHeartbeats 4000000 in
theorem sVerify_any (vr vb vs vt v1 v2 v3 vst : Value) (K N hs ep : Int) (nm : ByteArray) (x : Hd) (xa : Int) (R : List ByteArray) (L : List Le) (S T o s d : List ByteArray) (G : List Stm) (w : World) (hM : AkS w vr vb vs vt v1 v2 v3 vst R L S T o s d G) (hnm : nm.size ≤ 1048576) :
    Calls Tryz.prog 6 #[.agg #[vr, .int .i64 K, .int .i64 N], .int .i64 hs, .string nm, .int .i64 ep, .agg #[vb, vs, vt, .int .i64 x.h, .int .i64 x.e, .string x.r, .string x.p, .int .i64 xa, v1, v2, v3, vst]] w fun e w' => e = .returned (.tuple #[.string (vfV (fmB R K N hs nm L S T G) (decide (x.h = hs ∧ x.e = ep)) (slR (R.getD hs.toNat ⟨#[]⟩) x xa o s d) (decide (wrT nm L S T K = x.r)) (decide (N ≤ (cnN R hs x G : Int))) (LV.getV L nm)), .bool (vfB (fmB R K N hs nm L S T G) (decide (x.h = hs ∧ x.e = ep)) (slR (R.getD hs.toNat ⟨#[]⟩) x xa o s d) (decide (wrT nm L S T K = x.r)) (decide (N ≤ (cnN R hs x G : Int))) (LV.getB L nm)), .int .i64 (vfC (fmB R K N hs nm L S T G) (decide (x.h = hs ∧ x.e = ep)) (slR (R.getD hs.toNat ⟨#[]⟩) x xa o s d) (decide (wrT nm L S T K = x.r)) (decide (N ≤ (cnN R hs x G : Int))))]) ∧ Below w.heap.size w w' := by
  have H0 : Hid (∀ W, Below w.heap.size w W → Calls Tryz.prog 16 #[.agg #[vr, .int .i64 K, .int .i64 N], .int .i64 hs, .string nm, .agg #[vb, vs, vt, .int .i64 x.h, .int .i64 x.e, .string x.r, .string x.p, .int .i64 xa, v1, v2, v3, vst]] W fun e w' => e = .returned (.bool (fmB R K N hs nm L S T G)) ∧ Below W.heap.size W w') := fun W hW => l15Form_any vr vb vs vt v1 v2 v3 vst K N hs ep nm x xa R L S T o s d G W (hM.later hW) hnm
  have H2 : Hid (∀ W r, Below w.heap.size w W → Calls Tryz.prog 17 #[.string r, .agg #[.int .i64 x.h, .int .i64 x.e, .string x.r, .string x.p, .int .i64 xa, v1, v2, v3]] W fun e w' => e = .returned (.bool (slR r x xa o s d)) ∧ Below W.heap.size W w') := fun W r hW => by
    obtain ⟨_, _, _, _, _, ⟨g1, k1, h1⟩, ⟨g2, k2, h2⟩, ⟨g3, k3, h3⟩, _⟩ := hM.later hW
    exact sSealOk_any r x xa v1 v2 v3 g1 k1 g2 k2 g3 k3 o s d W h1 h2 h3
  have H3a : Hid (∀ W, Below w.heap.size w W → Calls Tryz.prog 19 #[.string nm, .agg #[vb, vs], .int .i64 16] W fun e w' => e = .returned (.string (phA nm L S 16)) ∧ Below W.heap.size W w') := fun W hW => by
    obtain ⟨_, ⟨g, k, h2⟩, h3, ⟨g4, k4, h4⟩, _⟩ := hM.later hW
    exact sProofHash_any nm vb vs g k g4 k4 L S 16 W hnm h2 h3 h4
  have H3b : Hid (∀ W, Calls Tryz.prog 20 #[.string nm] W fun e w' => e = .returned (.int .i64 (idxN nm : Int)) ∧ Below W.heap.size W w') := fun W => sIndexOf_any nm W hnm
  have H3c : Hid (∀ W, Below w.heap.size w W → Calls Tryz.prog 18 #[.string (phA nm L S 16), .int .i64 (idxN nm : Int), .int .i64 K, vt, .int .i64 16] W fun e w' => e = .returned (.string (wrT nm L S T K)) ∧ Below W.heap.size W w') := fun W hW => by
    obtain ⟨_, _, _, _, ⟨g, k, h5⟩, _⟩ := hM.later hW
    exact sFoldUp_any _ _ K vt g k T 16 W h5
  have H5 : Hid (∀ W, Below w.heap.size w W → Calls Tryz.prog 23 #[.string nm, .agg #[vb, vs]] W fun e w' => e = .returned (.tuple #[.string (LV.getV L nm), .bool (LV.getB L nm)]) ∧ Below W.heap.size W w') := fun W hW => by
    obtain ⟨_, ⟨g, k, h2⟩, h3, _⟩ := hM.later hW
    exact sProofSays_any nm vb vs g k L W h2
  have HRM : Hid (∀ W, Below w.heap.size w W → ∀ m, m < R.length → ∃ g k c, vr = .slice (some ⟨g, k, none⟩) R.length c ∧ W.cell? ⟨g, k + m, none⟩ = some (.string (R.getD m ⟨#[]⟩)) ∧ g < w.heap.size) := fun W hW m hm => by
    have eg : R.getD m ⟨#[]⟩ = R[m] := by simp [List.getD, List.getElem?_eq_getElem hm]
    rw [eg]
    obtain ⟨g, k, a0, c0, e0, l0, f0, hc⟩ := hM.1
    have h1 := hc m hm
    have hgl := lt_of_cell h1
    rw [f0 (by omega)] at e0
    exact ⟨g, k, c0, e0, (hW.cell (p := ⟨g, k + m, none⟩) hgl).trans h1, hgl⟩
  have HFM : Hid (fmB R K N hs nm L S T G = true → 0 ≤ hs ∧ hs < (R.length : Int)) := fun hf => by
    unfold fmB at hf
    simp only [Bool.and_eq_true, decide_eq_true_eq] at hf
    exact hf.2.1
  have HMM : Hid (AkS w vr vb vs vt v1 v2 v3 vst R L S T o s d G) := hM
  obtain ⟨xh, xe, xr, xp⟩ := x
  simp only at H0 H2 ⊢
  obtain ⟨⟨ar, cr, rfl⟩, ⟨ab, cb, rfl⟩, ⟨as2, cs, rfl⟩, ⟨at2, ct, rfl⟩, ⟨a1, c1, rfl⟩, ⟨a2, c2, rfl⟩, ⟨a3, c3, rfl⟩, ⟨ag, cg, rfl⟩, lR, lS, lT, lG⟩ := hM.shapes
  clear hM
  generalize fmB R K N hs nm L S T G = B0 at *
  generalize hB1 : decide (xh = hs ∧ xe = ep) = B1 at *
  generalize hB2 : slR (R.getD hs.toNat ⟨#[]⟩) ⟨xh, xe, xr, xp⟩ xa o s d = B2 at *
  generalize hB3 : decide (wrT nm L S T K = xr) = B3 at *
  generalize hB4 : decide (N ≤ (cnN R hs ⟨xh, xe, xr, xp⟩ G : Int)) = B4 at *
  have HB1 : Hid (decide (xh = hs ∧ xe = ep) = B1) := hB1
  have HB2 : Hid (slR (R.getD hs.toNat ⟨#[]⟩) ⟨xh, xe, xr, xp⟩ xa o s d = B2) := hB2
  have HB3 : Hid (decide (wrT nm L S T K = xr) = B3) := hB3
  have HB4 : Hid (decide (N ≤ (cnN R hs ⟨xh, xe, xr, xp⟩ G : Int)) = B4) := hB4
  clear hB1 hB2 hB3 hB4
  generalize LV.getV L nm = GV at *
  generalize LV.getB L nm = GotB at *
  generalize phA nm L S 16 = PH at *
  generalize wrT nm L S T K = WR at *
  generalize (idxN nm : Int) = ix at *
  have HNR0 : Hid (R.length = R.length) := rfl
  obtain ⟨nr, hnr⟩ : ∃ n, R.length = n := ⟨_, rfl⟩
  have HNR : Hid (R.length = nr) := hnr
  rw [hnr] at HRM HFM lR H0 ⊢
  clear hnr HNR0
  generalize L.length = nb at *
  generalize S.length = ns at *
  generalize T.length = nt at *
  generalize o.length = n1 at *
  generalize s.length = n2 at *
  generalize d.length = n3 at *
  obtain ⟨ng, hng⟩ : ∃ n, G.length = n := ⟨_, rfl⟩
  have HN : Hid (G.length = ng) := hng
  rw [hng] at HMM H0 lG ⊢
  clear hng
  have HX : Hid (Below w.heap.size w ((w.alloc (.cells #[.slice ar nr cr, .int .i64 K, .int .i64 N] 41)).alloc (.cells #[.slice ab nb cb, .slice as2 ns cs, .slice at2 nt ct, .int .i64 xh, .int .i64 xe, .string xr, .string xp, .int .i64 xa, .slice a1 n1 c1, .slice a2 n2 c2, .slice a3 n3 c3, .slice ag ng cg] 52)) ∧ Box 41 ((w.alloc (.cells #[.slice ar nr cr, .int .i64 K, .int .i64 N] 41)).alloc (.cells #[.slice ab nb cb, .slice as2 ns cs, .slice at2 nt ct, .int .i64 xh, .int .i64 xe, .string xr, .string xp, .int .i64 xa, .slice a1 n1 c1, .slice a2 n2 c2, .slice a3 n3 c3, .slice ag ng cg] 52)) w.heap.size [.slice ar nr cr, .int .i64 K, .int .i64 N] ∧ Box 52 ((w.alloc (.cells #[.slice ar nr cr, .int .i64 K, .int .i64 N] 41)).alloc (.cells #[.slice ab nb cb, .slice as2 ns cs, .slice at2 nt ct, .int .i64 xh, .int .i64 xe, .string xr, .string xp, .int .i64 xa, .slice a1 n1 c1, .slice a2 n2 c2, .slice a3 n3 c3, .slice ag ng cg] 52)) (w.heap.size + 1) [.slice ab nb cb, .slice as2 ns cs, .slice at2 nt ct, .int .i64 xh, .int .i64 xe, .string xr, .string xp, .int .i64 xa, .slice a1 n1 c1, .slice a2 n2 c2, .slice a3 n3 c3, .slice ag ng cg]) := ⟨(below_alloc _ _).alloc (by simp) _, (Box.new _ w _).later (below_alloc _ _), alloc_fst _ _ (by simp)⟩
  go_enter Tryz.func6, Tryz.ntmps6
  go_wp2_with fail
  refine (H0.out _ HX.out.1).mono ?_
  rintro e w1 ⟨rfl, hb1⟩
  have HX1 : Hid (Below w.heap.size w w1 ∧ Box 41 w1 w.heap.size [.slice ar nr cr, .int .i64 K, .int .i64 N] ∧ Box 52 w1 (w.heap.size + 1) [.slice ab nb cb, .slice as2 ns cs, .slice at2 nt ct, .int .i64 xh, .int .i64 xe, .string xr, .string xp, .int .i64 xa, .slice a1 n1 c1, .slice a2 n2 c2, .slice a3 n3 c3, .slice ag ng cg]) := ⟨HX.out.1.trans (hb1.mono HX.out.1.size), HX.out.2.1.later hb1, HX.out.2.2.later hb1⟩
  clear hb1 HX H0
  cases B0
  · clear H2 H3a H3b H3c H5 HRM HFM HMM HB1 HB2 HB3 HB4
    go_wp2
    go_ret3
    exact ⟨by simp [vfC, vfV, vfB], HX1.out.1⟩
  obtain ⟨z0, z1, z2, z3, z4, z5, z6, z7, z8, z9, z10, z11⟩ := HX1.out.2.2.all12
  by_cases h1 : xh = hs
  rotate_left
  · have hB1 : B1 = false := by rw [← HB1.out]; exact decide_eq_false (fun h => h1 h.1)
    have q1 : (xh != hs) = true := by simpa using h1
    clear H2 H3a H3b H3c H5 HRM HFM HMM HB1 HB2 HB3 HB4
    go_wp2
    go_ret3
    exact ⟨by simp [vfC, vfV, vfB, hB1], HX1.out.1.alloc HX1.out.1.size _⟩
  have q1 : (xh != hs) = false := by simpa using h1
  by_cases h2 : xe = ep
  rotate_left
  · have hB1 : B1 = false := by rw [← HB1.out]; exact decide_eq_false (fun h => h2 h.2)
    have q2 : (xe != ep) = true := by simpa using h2
    clear H2 H3a H3b H3c H5 HRM HFM HMM HB1 HB2 HB3 HB4
    go_wp2
    go_ret3
    exact ⟨by simp [vfC, vfV, vfB, hB1], HX1.out.1.alloc HX1.out.1.size _⟩
  have q2 : (xe != ep) = false := by simpa using h2
  have hB1 : B1 = true := by rw [← HB1.out]; exact decide_eq_true ⟨h1, h2⟩
  obtain ⟨hf0, hf1⟩ := HFM.out rfl
  obtain ⟨hm, rfl⟩ : ∃ m : Nat, hs = (m : Int) := ⟨hs.toNat, by omega⟩
  have hmn : hm < nr := by omega
  obtain ⟨gr, kr, c0r, er, hcell, hgl⟩ := HRM.out _ HX1.out.1 hm hmn
  simp only [Value.slice.injEq, true_and] at er
  obtain ⟨rfl, rfl⟩ := er
  have HCW : Hid (∀ W, Below w1.heap.size w1 W → ∀ m, m < nr → W.cell? ⟨gr, kr + m, none⟩ = some (.string (R.getD m ⟨#[]⟩))) := fun W hW m hm' => by
    obtain ⟨g', k', c', e', h', _⟩ := HRM.out W (HX1.out.1.trans (hW.mono HX1.out.1.size)) m hm'
    simp only [Value.slice.injEq, Option.some.injEq, Addr.mk.injEq, true_and, and_true] at e'
    obtain ⟨⟨rfl, rfl⟩, _⟩ := e'
    exact h'
  have hnat : (hm : Int).toNat = hm := Int.toNat_natCast hm
  rw [hnat] at HB2
  have HBH : Hid (∀ W, Below (w1.alloc (.cells #[.int .i64 xh, .int .i64 xe, .string xr, .string xp] 46)).heap.size (w1.alloc (.cells #[.int .i64 xh, .int .i64 xe, .string xr, .string xp] 46)) W → (Below w.heap.size w W ∧ Below w1.heap.size w1 W) ∧ (W.cell? ⟨w.heap.size, 0, none⟩ = some (.slice (some ⟨gr, kr, none⟩) nr cr) ∧ W.cell? ⟨w.heap.size, 1, none⟩ = some (.int .i64 K) ∧ W.cell? ⟨w.heap.size, 2, none⟩ = some (.int .i64 N)) ∧ (W.cell? ⟨w1.heap.size, 0, none⟩ = some (.int .i64 xh) ∧ W.cell? ⟨w1.heap.size, 1, none⟩ = some (.int .i64 xe) ∧ W.cell? ⟨w1.heap.size, 2, none⟩ = some (.string xr) ∧ W.cell? ⟨w1.heap.size, 3, none⟩ = some (.string xp)) ∧ W.cell? ⟨w.heap.size + 1, 0, none⟩ = some (.slice ab nb cb) ∧ W.cell? ⟨w.heap.size + 1, 1, none⟩ = some (.slice as2 ns cs) ∧ W.cell? ⟨w.heap.size + 1, 2, none⟩ = some (.slice at2 nt ct) ∧ W.cell? ⟨w.heap.size + 1, 3, none⟩ = some (.int .i64 xh) ∧ W.cell? ⟨w.heap.size + 1, 4, none⟩ = some (.int .i64 xe) ∧ W.cell? ⟨w.heap.size + 1, 5, none⟩ = some (.string xr) ∧ W.cell? ⟨w.heap.size + 1, 6, none⟩ = some (.string xp) ∧ W.cell? ⟨w.heap.size + 1, 7, none⟩ = some (.int .i64 xa) ∧ W.cell? ⟨w.heap.size + 1, 8, none⟩ = some (.slice a1 n1 c1) ∧ W.cell? ⟨w.heap.size + 1, 9, none⟩ = some (.slice a2 n2 c2) ∧ W.cell? ⟨w.heap.size + 1, 10, none⟩ = some (.slice a3 n3 c3) ∧ W.cell? ⟨w.heap.size + 1, 11, none⟩ = some (.slice ag ng cg)) := fun W hW => by
    have hb : Below w1.heap.size w1 W := (below_alloc w1 _).trans (hW.mono (below_alloc w1 _).size)
    have hh := (Box.new 46 w1 [.int .i64 xh, .int .i64 xe, .string xr, .string xp]).later hW
    have ht := HX1.out.2.1.later hb
    exact ⟨⟨HX1.out.1.trans (hb.mono HX1.out.1.size), hb⟩, ⟨ht.at 0 _ rfl, ht.at 1 _ rfl, ht.at 2 _ rfl⟩, ⟨hh.at 0 _ rfl, hh.at 1 _ rfl, hh.at 2 _ rfl, hh.at 3 _ rfl⟩, (HX1.out.2.2.later hb).all12⟩
  have HCB : Hid (∀ W, Below (w1.alloc (.cells #[.int .i64 xh, .int .i64 xe, .string xr, .string xp] 46)).heap.size (w1.alloc (.cells #[.int .i64 xh, .int .i64 xe, .string xr, .string xp] 46)) W → W.cell? ⟨gr, kr + hm, none⟩ = some (.string (R.getD hm ⟨#[]⟩)) ∧ (W.cell? ⟨w.heap.size, 0, none⟩ = some (.slice (some ⟨gr, kr, none⟩) nr cr) ∧ W.cell? ⟨w.heap.size, 1, none⟩ = some (.int .i64 K) ∧ W.cell? ⟨w.heap.size, 2, none⟩ = some (.int .i64 N)) ∧ W.cell? ⟨w.heap.size + 1, 0, none⟩ = some (.slice ab nb cb) ∧ W.cell? ⟨w.heap.size + 1, 1, none⟩ = some (.slice as2 ns cs) ∧ W.cell? ⟨w.heap.size + 1, 2, none⟩ = some (.slice at2 nt ct) ∧ W.cell? ⟨w.heap.size + 1, 3, none⟩ = some (.int .i64 xh) ∧ W.cell? ⟨w.heap.size + 1, 4, none⟩ = some (.int .i64 xe) ∧ W.cell? ⟨w.heap.size + 1, 5, none⟩ = some (.string xr) ∧ W.cell? ⟨w.heap.size + 1, 6, none⟩ = some (.string xp) ∧ W.cell? ⟨w.heap.size + 1, 7, none⟩ = some (.int .i64 xa) ∧ W.cell? ⟨w.heap.size + 1, 8, none⟩ = some (.slice a1 n1 c1) ∧ W.cell? ⟨w.heap.size + 1, 9, none⟩ = some (.slice a2 n2 c2) ∧ W.cell? ⟨w.heap.size + 1, 10, none⟩ = some (.slice a3 n3 c3) ∧ W.cell? ⟨w.heap.size + 1, 11, none⟩ = some (.slice ag ng cg)) := fun W hW => ⟨HCW.out W (HBH.out W hW).1.2 hm hmn, (HBH.out W hW).2.1, (HBH.out W hW).2.2.2⟩
  have HAL : Hid (Below w.heap.size w (w1.alloc (.cells #[.int .i64 xh, .int .i64 xe, .string xr, .string xp] 46))) := HX1.out.1.alloc HX1.out.1.size _
  clear HX1 HRM HFM HB1 hcell h1 h2 hnat
  have i1 : (hm : Int) < (nr : Int) := by omega
  have i2 : (0 : Int) ≤ (hm : Int) := by omega
  have hb0 : Below (w1.alloc (.cells #[.int .i64 xh, .int .i64 xe, .string xr, .string xp] 46)).heap.size (w1.alloc (.cells #[.int .i64 xh, .int .i64 xe, .string xr, .string xp] 46)) (w1.alloc (.cells #[.int .i64 xh, .int .i64 xe, .string xr, .string xp] 46)).drew := (Below.refl _ _).drew
  have H2' : Hid (∀ W, Below w.heap.size w W → Calls Tryz.prog 17 #[.string (R.getD hm ⟨#[]⟩), .agg #[.int .i64 xh, .int .i64 xe, .string xr, .string xp, .int .i64 xa, .slice a1 n1 c1, .slice a2 n2 c2, .slice a3 n3 c3]] W fun e w' => e = .returned (.bool B2) ∧ Below W.heap.size W w') := fun W hW => by
    rw [← HB2.out]
    exact H2.out W _ hW
  clear H2 HB2
  generalize R.getD hm ⟨#[]⟩ = RM at HCB H2'
  go_wp2
  go_region_held3 (fun W => W.cell? ⟨gr, kr + hm, none⟩ = some (.string RM) ∧ (W.cell? ⟨w.heap.size, 0, none⟩ = some (.slice (some ⟨gr, kr, none⟩) nr cr) ∧ W.cell? ⟨w.heap.size, 1, none⟩ = some (.int .i64 K) ∧ W.cell? ⟨w.heap.size, 2, none⟩ = some (.int .i64 N)) ∧ W.cell? ⟨w.heap.size + 1, 0, none⟩ = some (.slice ab nb cb) ∧ W.cell? ⟨w.heap.size + 1, 1, none⟩ = some (.slice as2 ns cs) ∧ W.cell? ⟨w.heap.size + 1, 2, none⟩ = some (.slice at2 nt ct) ∧ W.cell? ⟨w.heap.size + 1, 3, none⟩ = some (.int .i64 xh) ∧ W.cell? ⟨w.heap.size + 1, 4, none⟩ = some (.int .i64 xe) ∧ W.cell? ⟨w.heap.size + 1, 5, none⟩ = some (.string xr) ∧ W.cell? ⟨w.heap.size + 1, 6, none⟩ = some (.string xp) ∧ W.cell? ⟨w.heap.size + 1, 7, none⟩ = some (.int .i64 xa) ∧ W.cell? ⟨w.heap.size + 1, 8, none⟩ = some (.slice a1 n1 c1) ∧ W.cell? ⟨w.heap.size + 1, 9, none⟩ = some (.slice a2 n2 c2) ∧ W.cell? ⟨w.heap.size + 1, 10, none⟩ = some (.slice a3 n3 c3) ∧ W.cell? ⟨w.heap.size + 1, 11, none⟩ = some (.slice ag ng cg)) (first | (go_keep; done) | exact HCB.out _ hb0) (first | (go_at_call 17; refine (H2'.out _ (HBH.out _ hb0).1.1).mono ?_; rintro e w3 ⟨rfl, hb3⟩; have hb0 := hb0.trans (hb3.mono hb0.size)) | fail)
  have HB3' : Hid (Below (w1.alloc (.cells #[.int .i64 xh, .int .i64 xe, .string xr, .string xp] 46)).heap.size (w1.alloc (.cells #[.int .i64 xh, .int .i64 xe, .string xr, .string xp] 46)) w3) := hb0
  try rename_i hHeld
  try clear hHeld
  clear hb0 hb3 H2' HCB z0 z1 z2 z3 z4 z5 z6 z7 z8 z9 z10 z11
  cases B2
  · have HF : Hid (Below w.heap.size w w3) := (HBH.out _ HB3'.out).1.1
    clear H3a H3b H3c H5 HMM HB3 HB4 HBH HCW
    go_wp2
    go_ret3
    exact ⟨by simp [vfC, vfV, vfB, hB1], HF.out⟩
  have HBQ : Hid (∀ W, Below w3.heap.size w3 W → (Below w.heap.size w W ∧ Below w1.heap.size w1 W) ∧ (W.cell? ⟨w.heap.size, 0, none⟩ = some (.slice (some ⟨gr, kr, none⟩) nr cr) ∧ W.cell? ⟨w.heap.size, 1, none⟩ = some (.int .i64 K) ∧ W.cell? ⟨w.heap.size, 2, none⟩ = some (.int .i64 N)) ∧ (W.cell? ⟨w1.heap.size, 0, none⟩ = some (.int .i64 xh) ∧ W.cell? ⟨w1.heap.size, 1, none⟩ = some (.int .i64 xe) ∧ W.cell? ⟨w1.heap.size, 2, none⟩ = some (.string xr) ∧ W.cell? ⟨w1.heap.size, 3, none⟩ = some (.string xp)) ∧ W.cell? ⟨w.heap.size + 1, 0, none⟩ = some (.slice ab nb cb) ∧ W.cell? ⟨w.heap.size + 1, 1, none⟩ = some (.slice as2 ns cs) ∧ W.cell? ⟨w.heap.size + 1, 2, none⟩ = some (.slice at2 nt ct) ∧ W.cell? ⟨w.heap.size + 1, 3, none⟩ = some (.int .i64 xh) ∧ W.cell? ⟨w.heap.size + 1, 4, none⟩ = some (.int .i64 xe) ∧ W.cell? ⟨w.heap.size + 1, 5, none⟩ = some (.string xr) ∧ W.cell? ⟨w.heap.size + 1, 6, none⟩ = some (.string xp) ∧ W.cell? ⟨w.heap.size + 1, 7, none⟩ = some (.int .i64 xa) ∧ W.cell? ⟨w.heap.size + 1, 8, none⟩ = some (.slice a1 n1 c1) ∧ W.cell? ⟨w.heap.size + 1, 9, none⟩ = some (.slice a2 n2 c2) ∧ W.cell? ⟨w.heap.size + 1, 10, none⟩ = some (.slice a3 n3 c3) ∧ W.cell? ⟨w.heap.size + 1, 11, none⟩ = some (.slice ag ng cg)) := fun W hW => HBH.out W (HB3'.out.trans (hW.mono HB3'.out.size))
  clear HBH HB3' HAL
  have HCT : Hid (∀ W, Below w3.heap.size w3 W → (W.cell? ⟨w.heap.size, 0, none⟩ = some (.slice (some ⟨gr, kr, none⟩) nr cr) ∧ W.cell? ⟨w.heap.size, 1, none⟩ = some (.int .i64 K) ∧ W.cell? ⟨w.heap.size, 2, none⟩ = some (.int .i64 N)) ∧ W.cell? ⟨w.heap.size + 1, 0, none⟩ = some (.slice ab nb cb) ∧ W.cell? ⟨w.heap.size + 1, 1, none⟩ = some (.slice as2 ns cs) ∧ W.cell? ⟨w.heap.size + 1, 2, none⟩ = some (.slice at2 nt ct) ∧ W.cell? ⟨w.heap.size + 1, 3, none⟩ = some (.int .i64 xh) ∧ W.cell? ⟨w.heap.size + 1, 4, none⟩ = some (.int .i64 xe) ∧ W.cell? ⟨w.heap.size + 1, 5, none⟩ = some (.string xr) ∧ W.cell? ⟨w.heap.size + 1, 6, none⟩ = some (.string xp) ∧ W.cell? ⟨w.heap.size + 1, 7, none⟩ = some (.int .i64 xa) ∧ W.cell? ⟨w.heap.size + 1, 8, none⟩ = some (.slice a1 n1 c1) ∧ W.cell? ⟨w.heap.size + 1, 9, none⟩ = some (.slice a2 n2 c2) ∧ W.cell? ⟨w.heap.size + 1, 10, none⟩ = some (.slice a3 n3 c3) ∧ W.cell? ⟨w.heap.size + 1, 11, none⟩ = some (.slice ag ng cg)) := fun W hW => ⟨(HBQ.out W hW).2.1, (HBQ.out W hW).2.2.2⟩
  have hb0 : Below w3.heap.size w3 w3.drew := (Below.refl _ _).drew
  go_wp2
  go_region_held3 (fun W => (W.cell? ⟨w.heap.size, 0, none⟩ = some (.slice (some ⟨gr, kr, none⟩) nr cr) ∧ W.cell? ⟨w.heap.size, 1, none⟩ = some (.int .i64 K) ∧ W.cell? ⟨w.heap.size, 2, none⟩ = some (.int .i64 N)) ∧ W.cell? ⟨w.heap.size + 1, 0, none⟩ = some (.slice ab nb cb) ∧ W.cell? ⟨w.heap.size + 1, 1, none⟩ = some (.slice as2 ns cs) ∧ W.cell? ⟨w.heap.size + 1, 2, none⟩ = some (.slice at2 nt ct) ∧ W.cell? ⟨w.heap.size + 1, 3, none⟩ = some (.int .i64 xh) ∧ W.cell? ⟨w.heap.size + 1, 4, none⟩ = some (.int .i64 xe) ∧ W.cell? ⟨w.heap.size + 1, 5, none⟩ = some (.string xr) ∧ W.cell? ⟨w.heap.size + 1, 6, none⟩ = some (.string xp) ∧ W.cell? ⟨w.heap.size + 1, 7, none⟩ = some (.int .i64 xa) ∧ W.cell? ⟨w.heap.size + 1, 8, none⟩ = some (.slice a1 n1 c1) ∧ W.cell? ⟨w.heap.size + 1, 9, none⟩ = some (.slice a2 n2 c2) ∧ W.cell? ⟨w.heap.size + 1, 10, none⟩ = some (.slice a3 n3 c3) ∧ W.cell? ⟨w.heap.size + 1, 11, none⟩ = some (.slice ag ng cg)) (first | (go_keep; done) | exact HCT.out _ hb0) (first | (go_at_call 19; refine (H3a.out _ (HBQ.out _ hb0).1.1).mono ?_; rintro e w4 ⟨rfl, hb4⟩; have hb0 := hb0.trans (hb4.mono hb0.size)) | (go_at_call 20; refine (H3b.out _).mono ?_; rintro e w5 ⟨rfl, hb5⟩; have hb0 := hb0.trans (hb5.mono hb0.size)) | (go_at_call 18; refine (H3c.out _ (HBQ.out _ hb0).1.1).mono ?_; rintro e w6 ⟨rfl, hb6⟩; have hb0 := hb0.trans (hb6.mono hb0.size)) | fail)
  have HB6 : Hid (Below w3.heap.size w3 w6) := hb0
  try rename_i hHeld
  try clear hHeld
  clear hb0 hb4 hb5 hb6 H3a H3b H3c HCT
  obtain ⟨_, ⟨t0, t1, t2⟩, ⟨d0, d1, d2, d3⟩, z0, z1, z2, z3, z4, z5, z6, z7, z8, z9, z10, z11⟩ := HBQ.out _ HB6.out
  by_cases hwr : WR = xr
  rotate_left
  · have hB3 : B3 = false := by rw [← HB3.out]; exact decide_eq_false hwr
    have q3 : (WR.toList == xr.toList) = false := LV.bytes_ne hwr
    have q3' : (WR.toList != xr.toList) = true := by simp [bne, q3]
    have HF : Hid (Below w.heap.size w w6) := (HBQ.out _ HB6.out).1.1
    clear H5 HMM HB3 HB4 HBQ HCW
    go_wp2
    go_ret3
    exact ⟨by simp [vfC, vfV, vfB, hB1, hB3], HF.out⟩
  have hB3 : B3 = true := by rw [← HB3.out]; exact decide_eq_true hwr
  have q3 : (WR.toList == xr.toList) = true := by rw [hwr]; simp
  have q3' : (WR.toList != xr.toList) = false := by simp [bne, q3]
  clear HB3 hwr
  have HST : Hid (WhR w6 R (hm : Int) ⟨xh, xe, xr, xp⟩ G (.int .i64 0) (.int .i64 0) w6) := ⟨0, by omega, rfl, rfl, Below.refl _ _⟩
  have HBZ : Hid (∀ W, Below w6.heap.size w6 W → (Below w.heap.size w W ∧ Below w1.heap.size w1 W) ∧ (W.cell? ⟨w.heap.size, 0, none⟩ = some (.slice (some ⟨gr, kr, none⟩) nr cr) ∧ W.cell? ⟨w.heap.size, 1, none⟩ = some (.int .i64 K) ∧ W.cell? ⟨w.heap.size, 2, none⟩ = some (.int .i64 N)) ∧ (W.cell? ⟨w1.heap.size, 0, none⟩ = some (.int .i64 xh) ∧ W.cell? ⟨w1.heap.size, 1, none⟩ = some (.int .i64 xe) ∧ W.cell? ⟨w1.heap.size, 2, none⟩ = some (.string xr) ∧ W.cell? ⟨w1.heap.size, 3, none⟩ = some (.string xp)) ∧ W.cell? ⟨w.heap.size + 1, 0, none⟩ = some (.slice ab nb cb) ∧ W.cell? ⟨w.heap.size + 1, 1, none⟩ = some (.slice as2 ns cs) ∧ W.cell? ⟨w.heap.size + 1, 2, none⟩ = some (.slice at2 nt ct) ∧ W.cell? ⟨w.heap.size + 1, 3, none⟩ = some (.int .i64 xh) ∧ W.cell? ⟨w.heap.size + 1, 4, none⟩ = some (.int .i64 xe) ∧ W.cell? ⟨w.heap.size + 1, 5, none⟩ = some (.string xr) ∧ W.cell? ⟨w.heap.size + 1, 6, none⟩ = some (.string xp) ∧ W.cell? ⟨w.heap.size + 1, 7, none⟩ = some (.int .i64 xa) ∧ W.cell? ⟨w.heap.size + 1, 8, none⟩ = some (.slice a1 n1 c1) ∧ W.cell? ⟨w.heap.size + 1, 9, none⟩ = some (.slice a2 n2 c2) ∧ W.cell? ⟨w.heap.size + 1, 10, none⟩ = some (.slice a3 n3 c3) ∧ W.cell? ⟨w.heap.size + 1, 11, none⟩ = some (.slice ag ng cg)) := fun W hW => HBQ.out W (HB6.out.trans (hW.mono HB6.out.size))
  have HGG : Hid (∀ W, Below w.heap.size w W → ∃ gg og, (0 < ng → ag = some ⟨gg, og, none⟩) ∧ StS W (.slice ag ng cg) gg og G) := fun W hW => by
    obtain ⟨g, k, hst⟩ := (HMM.out.later hW).2.2.2.2.2.2.2.2
    obtain ⟨a0, c0, e0, _, f0⟩ := hst.shape
    simp only [Value.slice.injEq] at e0
    refine ⟨g, k, fun h => ?_, hst⟩
    rw [e0.1]
    exact f0 (by rw [HN.out]; exact h)
  have HSO : Hid (∀ W r (y : Stm) u1 u2 u3, SX W u1 y.o → SX W u2 y.s → SX W u3 y.d → Calls Tryz.prog 22 #[.string r, .agg #[.int .i64 xh, .int .i64 xe, .string xr, .string xp], .agg #[.int .i64 y.a, u1, u2, u3]] W fun e w' => e = .returned (.bool (stR r ⟨xh, xe, xr, xp⟩ y.a y.o y.s y.d)) ∧ Below W.heap.size W w') := fun W r y u1 u2 u3 h1 h2 h3 => by
    obtain ⟨p1, k1, s1⟩ := h1
    obtain ⟨p2, k2, s2⟩ := h2
    obtain ⟨p3, k3, s3⟩ := h3
    exact sStampOk_any r ⟨xh, xe, xr, xp⟩ y.a u1 u2 u3 p1 k1 p2 k2 p3 k3 y.o y.s y.d W s1 s2 s3
  clear HBQ HB6 HMM
  go_wp2
  clear t0 t1 t2 d0 d1 d2 d3 z0 z1 z2 z3 z4 z5 z6 z7 z8 z9 z10 z11 q1 q2 q3 q3'
  go_loopw [15, 16] (fun r i wr => WhR w6 R (hm : Int) ⟨xh, xe, xr, xp⟩ G r i wr) (fun _ i _ => ng - (intOf i).toNat)
  case atStart => exact HST.out
  case round =>
    obtain ⟨m, hmm, rfl, rfl, HI⟩ := hrel
    clear HST
    rw [HN.out] at hmm
    obtain ⟨⟨hbw, hbw1⟩, ⟨t0, t1, t2⟩, ⟨d0, d1, d2, d3⟩, z0, z1, z2, z3, z4, z5, z6, z7, z8, z9, z10, z11⟩ := HBZ.out _ HI.out
    by_cases hlt : m < ng
    · obtain ⟨gg, og, ea, hstt⟩ := HGG.out _ hbw
      have ea := ea (by omega)
      subst ea
      have hmG : m < G.length := by rw [HN.out]; exact hlt
      obtain ⟨u1, u2, u3, ⟨c0, c1', c2', c3', c4⟩, hu1, hu2, hu3⟩ := hstt.at m hmG
      obtain ⟨b1, e1, rfl⟩ := hu1.shape
      obtain ⟨b2, e2, rfl⟩ := hu2.shape
      obtain ⟨b3, e3, rfl⟩ := hu3.shape
      have hgl' := lt_of_cell c0
      have hbn : Below wr.heap.size wr (wr.alloc (.cells #[.int .i64 G[m].b, .int .i64 G[m].a, .slice b1 G[m].o.length e1, .slice b2 G[m].s.length e2, .slice b3 G[m].d.length e3] 67)) := below_alloc _ _
      have hb6 : Below w6.heap.size w6 (wr.alloc (.cells #[.int .i64 G[m].b, .int .i64 G[m].a, .slice b1 G[m].o.length e1, .slice b2 G[m].s.length e2, .slice b3 G[m].d.length e3] 67)) := HI.out.trans (hbn.mono HI.out.size)
      have HBN : Hid (Below w6.heap.size w6 (wr.alloc (.cells #[.int .i64 G[m].b, .int .i64 G[m].a, .slice b1 G[m].o.length e1, .slice b2 G[m].s.length e2, .slice b3 G[m].d.length e3] 67))) := hb6
      obtain ⟨⟨_, hb1N⟩, ⟨n_t0, n_t1, n_t2⟩, ⟨n_h0, n_h1, n_h2, n_h3⟩, _⟩ := HBZ.out _ hb6
      have hbx := Box.new 67 wr [.int .i64 G[m].b, .int .i64 G[m].a, .slice b1 G[m].o.length e1, .slice b2 G[m].s.length e2, .slice b3 G[m].d.length e3]
      have n_y0 := hbx.at 0 _ rfl
      have n_y1 := hbx.at 1 _ rfl
      have n_y2 := hbx.at 2 _ rfl
      have n_y3 := hbx.at 3 _ rfl
      have n_y4 := hbx.at 4 _ rfl
      have HCN : Hid (∀ j, j < nr → (wr.alloc (.cells #[.int .i64 G[m].b, .int .i64 G[m].a, .slice b1 G[m].o.length e1, .slice b2 G[m].s.length e2, .slice b3 G[m].d.length e3] 67)).cell? ⟨gr, kr + j, none⟩ = some (.string (R.getD j ⟨#[]⟩))) := fun j hj => HCW.out _ hb1N j hj
      have HSM : Hid (∀ d os r, Calls Tryz.prog 22 #[.string r, .agg #[.int .i64 xh, .int .i64 xe, .string xr, .string xp], .agg #[.int .i64 G[m].a, .slice b1 G[m].o.length e1, .slice b2 G[m].s.length e2, .slice b3 G[m].d.length e3]] (grow (redrawn (wr.alloc (.cells #[.int .i64 G[m].b, .int .i64 G[m].a, .slice b1 G[m].o.length e1, .slice b2 G[m].s.length e2, .slice b3 G[m].d.length e3] 67)) d) os) fun e w' => e = .returned (.bool (stR r ⟨xh, xe, xr, xp⟩ G[m].a G[m].o G[m].s G[m].d)) ∧ Below (grow (redrawn (wr.alloc (.cells #[.int .i64 G[m].b, .int .i64 G[m].a, .slice b1 G[m].o.length e1, .slice b2 G[m].s.length e2, .slice b3 G[m].d.length e3] 67)) d) os).heap.size (grow (redrawn (wr.alloc (.cells #[.int .i64 G[m].b, .int .i64 G[m].a, .slice b1 G[m].o.length e1, .slice b2 G[m].s.length e2, .slice b3 G[m].d.length e3] 67)) d) os) w') := fun d os r => HSO.out _ r G[m] _ _ _ ((hu1.later hbn).later (below_regrown _ d os)) ((hu2.later hbn).later (below_regrown _ d os)) ((hu3.later hbn).later (below_regrown _ d os))
      have hNX := cnN_take (R := R) (hs := (hm : Int)) (x := ⟨xh, xe, xr, xp⟩) hmG
      have hle := cnN_le R (hm : Int) ⟨xh, xe, xr, xp⟩ (G.take m)
      have hle2 : (G.take m).length ≤ ng := by rw [List.length_take, HN.out]; omega
      have HNX : Hid (∀ d os (r : Value), r = .int .i64 (cnN R (hm : Int) ⟨xh, xe, xr, xp⟩ (G.take m) + (if cnB R (hm : Int) ⟨xh, xe, xr, xp⟩ G[m] = true then 1 else 0) : Nat) → WhR w6 R (hm : Int) ⟨xh, xe, xr, xp⟩ G r (.int .i64 ((m : Int) + 1)) (grow (redrawn (wr.alloc (.cells #[.int .i64 G[m].b, .int .i64 G[m].a, .slice b1 G[m].o.length e1, .slice b2 G[m].s.length e2, .slice b3 G[m].d.length e3] 67)) d) os)) := fun d os r hr => ⟨m + 1, by omega, by congr 1, by rw [hr, hNX], HBN.out.trans ((below_regrown _ d os).mono HBN.out.size)⟩
      have hcn : cnB R (hm : Int) ⟨xh, xe, xr, xp⟩ G[m] = (decide (G[m].b ≠ (hm : Int)) && (decide (0 ≤ G[m].b ∧ G[m].b < (R.length : Int)) && stR (R.getD G[m].b.toNat ⟨#[]⟩) ⟨xh, xe, xr, xp⟩ G[m].a G[m].o G[m].s G[m].d)) := rfl
      rw [HNR.out] at hcn
      have HCNB : Hid (cnB R (hm : Int) ⟨xh, xe, xr, xp⟩ G[m] = (decide (G[m].b ≠ (hm : Int)) && (decide (0 ≤ G[m].b ∧ G[m].b < (nr : Int)) && stR (R.getD G[m].b.toNat ⟨#[]⟩) ⟨xh, xe, xr, xp⟩ G[m].a G[m].o G[m].s G[m].d))) := hcn
      have j1 : (m : Int) < (ng : Int) := by omega
      have j2 : (0 : Int) ≤ (m : Int) := by omega
      clear hNX hcn hu1 hu2 hu3 hstt hbx hb6 hbn HGG HSO HI HBZ HCW hbw hbw1 H5 HB4
      generalize cnB R (hm : Int) ⟨xh, xe, xr, xp⟩ G[m] = bb at *
      generalize cnN R (hm : Int) ⟨xh, xe, xr, xp⟩ (G.take m) = qn at *
      generalize hst : stR (R.getD G[m].b.toNat ⟨#[]⟩) ⟨xh, xe, xr, xp⟩ G[m].a G[m].o G[m].s G[m].d = bs at *
      have HST2 : Hid (∀ r, r = R.getD G[m].b.toNat ⟨#[]⟩ → stR r ⟨xh, xe, xr, xp⟩ G[m].a G[m].o G[m].s G[m].d = bs) := fun r hr => by rw [hr]; exact hst
      clear hst
      generalize hsg : (fun r => stR r ⟨xh, xe, xr, xp⟩ G[m].a G[m].o G[m].s G[m].d) = SG at *
      have HSM2 : Hid (∀ d os r, Calls Tryz.prog 22 #[.string r, .agg #[.int .i64 xh, .int .i64 xe, .string xr, .string xp], .agg #[.int .i64 G[m].a, .slice b1 G[m].o.length e1, .slice b2 G[m].s.length e2, .slice b3 G[m].d.length e3]] (grow (redrawn (wr.alloc (.cells #[.int .i64 G[m].b, .int .i64 G[m].a, .slice b1 G[m].o.length e1, .slice b2 G[m].s.length e2, .slice b3 G[m].d.length e3] 67)) d) os) fun e w' => e = .returned (.bool (SG r)) ∧ Below (grow (redrawn (wr.alloc (.cells #[.int .i64 G[m].b, .int .i64 G[m].a, .slice b1 G[m].o.length e1, .slice b2 G[m].s.length e2, .slice b3 G[m].d.length e3] 67)) d) os).heap.size (grow (redrawn (wr.alloc (.cells #[.int .i64 G[m].b, .int .i64 G[m].a, .slice b1 G[m].o.length e1, .slice b2 G[m].s.length e2, .slice b3 G[m].d.length e3] 67)) d) os) w') := by rw [← hsg]; exact HSM
      have HST3 : Hid (∀ r, r = R.getD G[m].b.toNat ⟨#[]⟩ → SG r = bs) := by rw [← hsg]; exact HST2
      clear HSM HST2 hsg
      generalize G[m].o.length = m1 at *
      generalize G[m].s.length = m2 at *
      generalize G[m].d.length = m3 at *
      generalize G[m].b = yb at *
      generalize G[m].a = ya at *
      generalize hNB : (wr.alloc (.cells #[.int .i64 yb, .int .i64 ya, .slice b1 m1 e1, .slice b2 m2 e2, .slice b3 m3 e3] 67)) = NBW at *
      have cq0 := fun d os => Calls.regrown_of (w := NBW) (d := d) (os := os) ((l01In_any yb 0 ((nr : Int) - 1) (grow (redrawn NBW d) os)).mono fun e w' ⟨h1, h2⟩ => ⟨h1, h2 ▸ Below.refl _ _⟩)
      have kt0 := cell_regrown (w := NBW) n_t0
      have kt1 := cell_regrown (w := NBW) n_t1
      have kt2 := cell_regrown (w := NBW) n_t2
      have kh0 := cell_regrown (w := NBW) n_h0
      have kh1 := cell_regrown (w := NBW) n_h1
      have kh2 := cell_regrown (w := NBW) n_h2
      have kh3 := cell_regrown (w := NBW) n_h3
      have ky0 := cell_regrown (w := NBW) n_y0
      have ky1 := cell_regrown (w := NBW) n_y1
      have ky2 := cell_regrown (w := NBW) n_y2
      have ky3 := cell_regrown (w := NBW) n_y3
      have ky4 := cell_regrown (w := NBW) n_y4
      clear n_t0 n_t1 n_t2 n_h0 n_h1 n_h2 n_h3 n_y0 n_y1 n_y2 n_y3 n_y4
      by_cases hyh : yb = (hm : Int)
      · have hbb : bb = false := by rw [HCNB.out, decide_eq_false (by simpa using hyh)]; rfl
        have q : (yb != (hm : Int)) = false := by simpa using hyh
        have cq1 := cq0
        clear HCNB HSM2 HST3 HCN hyh
        go_wp2
        try rw [hNB]
        refine wp_region_quiet_below (by kernel_rfl) (by kernel_rfl) ?_
        repeat (go_big_quiet_step (first | with_reducible exact cq0 _ _ | with_reducible exact cq1 _ _))
        refine wpQuiet_nil ?_
        rintro _ ⟨⟨dq, osq⟩, rfl⟩
        have HRL : Hid (∀ r : Value, r = .int .i64 (qn + (if bb = true then 1 else 0) : Nat) → WhR w6 R (hm : Int) ⟨xh, xe, xr, xp⟩ G r (.int .i64 ((m : Int) + 1)) (grow (redrawn NBW dq) osq)) := HNX.out dq osq
        clear HNX cq0 cq1 kt0 kt1 kt2 kh0 kh1 kh2 kh3 ky0 ky1 ky2 ky3 ky4
        generalize grow (redrawn NBW dq) osq = wz at *
        go_wp2
        go_roundw
        case rel => exact HRL.out _ (by rw [hbb]; simp)
        case measure => simp [intOf]; omega
      have q : (yb != (hm : Int)) = true := by simpa using hyh
      by_cases hin : 0 ≤ yb ∧ yb < (nr : Int)
      · obtain ⟨jj, rfl⟩ : ∃ k : Nat, yb = (k : Int) := ⟨yb.toNat, by omega⟩
        have hbb : bb = bs := by rw [HCNB.out, decide_eq_true (by simpa using hyh), decide_eq_true hin]; rfl
        have hcj := HCN.out jj (by omega)
        have hsj := HST3.out (R.getD jj ⟨#[]⟩) (by simp)
        generalize R.getD jj ⟨#[]⟩ = RJ at *
        have cq1 := fun d os => Calls.regrown_of (w := NBW) (d := d) (os := os) (HSM2.out d os RJ)
        rw [hsj] at cq1
        rw [decide_eq_true (show (0 : Int) ≤ (jj : Int) ∧ (jj : Int) ≤ (nr : Int) - 1 by omega)] at cq0
        have krj := cell_regrown (w := NBW) hcj
        have l1 : (jj : Int) < (nr : Int) := hin.2
        have l2 : (0 : Int) ≤ (jj : Int) := by omega
        clear HCNB HSM2 HST3 HCN hyh hcj hsj hin
        subst hbb
        go_wp2
        try rw [hNB]
        refine wp_region_quiet_below (by kernel_rfl) (by kernel_rfl) ?_
        repeat (go_big_quiet_step (first | with_reducible exact cq0 _ _ | with_reducible exact cq1 _ _))
        refine wpQuiet_nil ?_
        rintro _ ⟨⟨dq, osq⟩, rfl⟩
        have HRL : Hid (∀ r : Value, r = .int .i64 (qn + (if bb = true then 1 else 0) : Nat) → WhR w6 R (hm : Int) ⟨xh, xe, xr, xp⟩ G r (.int .i64 ((m : Int) + 1)) (grow (redrawn NBW dq) osq)) := HNX.out dq osq
        clear HNX cq0 cq1 kt0 kt1 kt2 kh0 kh1 kh2 kh3 ky0 ky1 ky2 ky3 ky4 krj
        generalize grow (redrawn NBW dq) osq = wz at *
        cases bb
        · go_wp2
          go_roundw
          case rel => exact HRL.out _ (by simp)
          case measure => simp [intOf]; omega
        · go_wp2
          go_roundw
          case rel => exact HRL.out _ (by simp)
          case measure => simp [intOf]; omega
      · have hbb : bb = false := by rw [HCNB.out, decide_eq_false hin]; simp
        rw [decide_eq_false (show ¬ ((0 : Int) ≤ yb ∧ yb ≤ (nr : Int) - 1) by omega)] at cq0
        have cq1 := cq0
        clear HCNB HSM2 HST3 HCN hyh hin
        go_wp2
        try rw [hNB]
        refine wp_region_quiet_below (by kernel_rfl) (by kernel_rfl) ?_
        repeat (go_big_quiet_step (first | with_reducible exact cq0 _ _ | with_reducible exact cq1 _ _))
        refine wpQuiet_nil ?_
        rintro _ ⟨⟨dq, osq⟩, rfl⟩
        have HRL : Hid (∀ r : Value, r = .int .i64 (qn + (if bb = true then 1 else 0) : Nat) → WhR w6 R (hm : Int) ⟨xh, xe, xr, xp⟩ G r (.int .i64 ((m : Int) + 1)) (grow (redrawn NBW dq) osq)) := HNX.out dq osq
        clear HNX cq0 cq1 kt0 kt1 kt2 kh0 kh1 kh2 kh3 ky0 ky1 ky2 ky3 ky4
        generalize grow (redrawn NBW dq) osq = wz at *
        go_wp2
        go_roundw
        case rel => exact HRL.out _ (by rw [hbb]; simp)
        case measure => simp [intOf]; omega
    · have hq : G.take m = G := List.take_of_length_le (by rw [HN.out]; omega)
      rw [hq]
      have hle := cnN_le R (hm : Int) ⟨xh, xe, xr, xp⟩ G
      rw [HN.out] at hle
      have j1 : ¬ (m : Int) < (ng : Int) := by omega
      have HBW : Hid (Below w.heap.size w wr) := hbw
      have HB4b := HB4.out
      generalize cnN R (hm : Int) ⟨xh, xe, xr, xp⟩ G = qn at *
      by_cases hN : (qn : Int) < N
      · have hB4 : B4 = false := by rw [← HB4b]; exact decide_eq_false (by omega)
        clear HB4 HB4b HI hbw hbw1 HBZ HGG HSO HCW H5
        go_wp2
        go_ret3
        exact ⟨by simp [vfC, vfV, vfB, hB1, hB3, hB4], HBW.out⟩
      · have hB4 : B4 = true := by rw [← HB4b]; exact decide_eq_true (by omega)
        clear HB4 HB4b HI hbw hbw1 HBZ HGG HSO HCW
        go_wp2_with fail
        refine (H5.out _ HBW.out).mono ?_
        rintro e w9 ⟨rfl, hb9⟩
        have HF : Hid (Below w.heap.size w w9) := HBW.out.trans (hb9.mono HBW.out.size)
        clear hb9 HBW H5 t0 t1 t2 d0 d1 d2 d3 z0 z1 z2 z3 z4 z5 z6 z7 z8 z9 z10 z11
        go_wp2
        go_ret3
        exact ⟨by simp [vfC, vfV, vfB, hB1, hB3, hB4], HF.out⟩

end Go.Proofs.YtgkfelhjbeegaaaGreatDoor
