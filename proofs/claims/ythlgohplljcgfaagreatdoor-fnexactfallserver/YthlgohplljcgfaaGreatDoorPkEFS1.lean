/-
  Texts laid together: Jfa, Op, Yop, Cp.
-/
import Derived.Test.YthlgohplljcgfaaGreatDoorPkEFS0
import Derived.Test.YthlgohplljcgfaaGreatDoorPkESN6
import Derived.Lib.SmallJoins
import Derived.Deep.Strs
import Derived.Deep.Slices
import Derived.ProofKit
import Derived.ChangeSame
import Derived.Test.YthlgohplljcgfaaGreatDoorPkESN10
import Derived.Test.YthlgohplljcgfaaGreatDoorPkESN11
/-
  The walk of the law FnExactFallServer: it answers true of every server.
-/
namespace Go.Proofs.YthlgohplljcgfaaGreatDoor
open Go.RowKit Go.BigFrame Go.Sort
set_option linter.unusedVariables false
set_option linter.unusedSimpArgs false

set_option maxRecDepth 100000 in
set_option maxHeartbeats 4000000 in
theorem fallLaw_at (n : Sn) (vd vv vt va : Value) (L : Sr) (n2 : Sn) (L2 : Sr) (vq : Value) (gz oz : Nat) (Q : List Int) (w : World) (hZ : IsSv w vd vv vt va L) (hQ : IsRowZ w vq gz oz Q) (hT : Tab w) (hE : Eh w) (hTb : Tb w)
    (HSP : Hid (L.sm → ∀ W gd gv b3 e3 ga sq gq, SvS W (.slice (some ⟨gd, 0, none⟩) L.F.length L.F.length) (.slice (some ⟨gv, 0, none⟩) L.P.length L.P.length) (.slice b3 L.I.length e3) (.slice (some ⟨ga, 0, none⟩) L.U.length L.U.length) L → RS 1 ics W sq gq 0 Q → Calls Tryz.prog 17 #[.agg #[.int .i64 n.a, .int .i64 n.k, .bool n.u, .slice (some ⟨gd, 0, none⟩) L.F.length L.F.length, .int .i64 n.e, .slice (some ⟨gv, 0, none⟩) L.P.length L.P.length, .slice b3 L.I.length e3, .slice (some ⟨ga, 0, none⟩) L.U.length L.U.length, .int .i64 n.r0, .int .i64 n.r1, .int .i64 n.r2], sq] W (SvA n2 L2 W)))
    (HIM : Hid (L.sm → ∀ W gd gv b3 e3 ga sq gq, Tab W → Eh W → Tb W → SvS W (.slice (some ⟨gd, 0, none⟩) L.F.length L.F.length) (.slice (some ⟨gv, 0, none⟩) L.P.length L.P.length) (.slice b3 L.I.length e3) (.slice (some ⟨ga, 0, none⟩) L.U.length L.U.length) L → RS 1 ics W sq gq 0 Q → Calls Tryz.prog 20 #[.agg #[.int .i64 n.a, .int .i64 n.k, .bool n.u, .slice (some ⟨gd, 0, none⟩) L.F.length L.F.length, .int .i64 n.e, .slice (some ⟨gv, 0, none⟩) L.P.length L.P.length, .slice b3 L.I.length e3, .slice (some ⟨ga, 0, none⟩) L.U.length L.U.length, .int .i64 n.r0, .int .i64 n.r1, .int .i64 n.r2], sq] W (SvA n2 L2 W)))
    (HS2 : Hid (L.sm → L2.sm)) :
    Calls Tryz.prog 4 #[.agg #[.int .i64 n.a, .int .i64 n.k, .bool n.u, vd, .int .i64 n.e, vv, vt, va, .int .i64 n.r0, .int .i64 n.r1, .int .i64 n.r2], vq] w fun e w' => e = .returned (.bool true) ∧ Below w.heap.size w w' := by
  have hsz := szServer_row n vd vv vt va L 1048576 (w.alloc (.cells #[.int .i64 n.a, .int .i64 n.k, .bool n.u, vd, .int .i64 n.e, vv, vt, va, .int .i64 n.r0, .int .i64 n.r1, .int .i64 n.r2] 47)) (hZ.later (below_alloc _ _)) (by omega) (by omega)
  have HTO : Hid (∀ w1, SvS w1 vd vv vt va L → ∀ W, Below w1.heap.size w1 W → Calls Tryz.prog 18 #[.agg #[.int .i64 n.a, .int .i64 n.k, .bool n.u, vd, .int .i64 n.e, vv, vt, va, .int .i64 n.r0, .int .i64 n.r1, .int .i64 n.r2]] W (ToSv n L W)) := fun w1 h W hW => toServer_any n vd vv vt va L W (h.later hW)
  unfold ToSv at HTO
  have HSH : Hid (∀ w1, SvS w1 vd vv vt va L → (∃ a c, vd = .slice a L.F.length c) ∧ (∃ a c, vv = .slice a L.P.length c) ∧ (∃ a c, vt = .slice a L.I.length c) ∧ ∃ a c, va = .slice a L.U.length c) := fun w1 h => h.shapes
  have HEQ : Hid (∀ W gd gv b3 e3 ga ud uv ut ua, SvS W (.slice (some ⟨gd, 0, none⟩) L.F.length L.F.length) (.slice (some ⟨gv, 0, none⟩) L.P.length L.P.length) (.slice b3 L.I.length e3) (.slice (some ⟨ga, 0, none⟩) L.U.length L.U.length) L → SvS W ud uv ut ua L → Calls Tryz.prog 11 #[.agg #[.int .i64 n.a, .int .i64 n.k, .bool n.u, .slice (some ⟨gd, 0, none⟩) L.F.length L.F.length, .int .i64 n.e, .slice (some ⟨gv, 0, none⟩) L.P.length L.P.length, .slice b3 L.I.length e3, .slice (some ⟨ga, 0, none⟩) L.U.length L.U.length, .int .i64 n.r0, .int .i64 n.r1, .int .i64 n.r2], .agg #[.int .i64 n.a, .int .i64 n.k, .bool n.u, ud, .int .i64 n.e, uv, ut, ua, .int .i64 n.r0, .int .i64 n.r1, .int .i64 n.r2]] W fun e w' => e = .returned (.bool true) ∧ Below W.heap.size W w') := fun W gd gv b3 e3 ga ud uv ut ua h k => eqServer_yes n _ _ _ _ ud uv ut ua L W h k
  have HMK : Hid (L.sm → ∀ lo hi W gd gv b3 e3 ga, SvD lo hi W (.slice (some ⟨gd, 0, none⟩) L.F.length L.F.length) (.slice (some ⟨gv, 0, none⟩) L.P.length L.P.length) (.slice b3 L.I.length e3) (.slice (some ⟨ga, 0, none⟩) L.U.length L.U.length) L → hi ≤ W.heap.size → Calls Tryz.prog 14 #[.agg #[.int .i64 n.a, .int .i64 n.k, .bool n.u, .slice (some ⟨gd, 0, none⟩) L.F.length L.F.length, .int .i64 n.e, .slice (some ⟨gv, 0, none⟩) L.P.length L.P.length, .slice b3 L.I.length e3, .slice (some ⟨ga, 0, none⟩) L.U.length L.U.length, .int .i64 n.r0, .int .i64 n.r1, .int .i64 n.r2], .int .i64 1] W fun e w' => ∃ K : Nat, e = .returned (.int .i64 (K : Int)) ∧ K ≤ 9500000 ∧ InG lo hi W w') := fun hs lo hi W gd gv b3 e3 ga h hh => (markServer_own n _ _ _ _ L lo hi W h hs hh).mono fun e w' ⟨K, he, _, hi2, hk⟩ => by
    obtain ⟨m, rfl, hm⟩ := hk.le hs
    exact ⟨m, he, hm, hi2⟩
  have HX : Hid (Below w.heap.size w (w.alloc (.cells #[.int .i64 n.a, .int .i64 n.k, .bool n.u, vd, .int .i64 n.e, vv, vt, va, .int .i64 n.r0, .int .i64 n.r1, .int .i64 n.r2] 47)) ∧ Box 47 (w.alloc (.cells #[.int .i64 n.a, .int .i64 n.k, .bool n.u, vd, .int .i64 n.e, vv, vt, va, .int .i64 n.r0, .int .i64 n.r1, .int .i64 n.r2] 47)) w.heap.size [.int .i64 n.a, .int .i64 n.k, .bool n.u, vd, .int .i64 n.e, vv, vt, va, .int .i64 n.r0, .int .i64 n.r1, .int .i64 n.r2]) := ⟨below_alloc _ _, Box.new _ _ _⟩
  have hsh0 : (∃ a m c, vd = .slice a m c) ∧ (∃ a m c, vv = .slice a m c) ∧ (∃ a m c, vt = .slice a m c) ∧ ∃ a m c, va = .slice a m c := by
    obtain ⟨⟨_, _, a1, m1, c1, e1, _⟩, ⟨_, _, _, ⟨a2, m2, c2, e2, _⟩, _⟩, ⟨_, _, a3, m3, c3, e3, _⟩, ⟨_, _, a4, m4, c4, e4, _⟩⟩ := hZ
    exact ⟨⟨a1, m1, c1, e1⟩, ⟨a2, m2, c2, e2⟩, ⟨a3, m3, c3, e3⟩, a4, m4, c4, e4⟩
  obtain ⟨⟨xd, md, xe, rfl⟩, ⟨xv, mv, xw, rfl⟩, ⟨xt, mt, xu, rfl⟩, ⟨xa, ma, xb, rfl⟩⟩ := hsh0
  have HTE : Hid (∀ W, Below w.heap.size w W → Tab W ∧ Eh W ∧ Tb W) := fun W hW => ⟨hT.later hW hT.pos, hE.later hW, hTb.later hW⟩
  obtain ⟨xq, mq, cq, rfl, hmq, hQ2⟩ := hQ
  have HQ : Hid (mq ≤ 1100000 → Q.length = mq ∧ RS 1 ics w (.slice xq mq cq) gz oz Q) := hQ2
  clear hQ2
  clear hZ hT hE hTb
  by_cases hbq : 1048576 < mq
  · clear hsz HTO HSH HEQ HMK HTE HSP HIM HS2 HQ
    go_enter Tryz.func4, Tryz.ntmps4
    go_wp2
    go_ret
    exact ⟨rfl, HX.out.1⟩
  have HQR : Hid (Q.length = mq ∧ ∀ W, Below w.heap.size w W → RS 1 ics W (.slice xq mq cq) gz oz Q) := ⟨(HQ.out (by omega)).1, fun W hW => (HQ.out (by omega)).2.later hW⟩
  go_enter Tryz.func4, Tryz.ntmps4
  go_wp2_with fail
  refine hsz.mono ?_
  rintro e_ w1 ⟨A, rfl, hb1, hA1, hA2⟩
  have HX1 : Hid (Below w.heap.size w w1 ∧ Box 47 w1 w.heap.size [.int .i64 n.a, .int .i64 n.k, .bool n.u, .slice xd md xe, .int .i64 n.e, .slice xv mv xw, .slice xt mt xu, .slice xa ma xb, .int .i64 n.r0, .int .i64 n.r1, .int .i64 n.r2] ∧ w.heap.size < w1.heap.size) := ⟨HX.out.1.trans (hb1.mono HX.out.1.size), HX.out.2.later hb1, (HX.out.2.later hb1).lt⟩
  clear HX hsz hb1
  by_cases hneg : A < 0
  · clear HTO HSH HEQ HMK HTE HSP HIM HS2 HQR
    go_wp2
    go_ret
    exact ⟨rfl, HX1.out.1⟩
  obtain ⟨hsv, hsm⟩ := hA2 (by omega)
  have HT : Hid (∀ W, Below w1.heap.size w1 W → _) := HTO.out w1 hsv
  obtain ⟨⟨_, _, f1⟩, ⟨_, _, f2⟩, ⟨_, _, f3⟩, ⟨_, _, f4⟩⟩ := HSH.out w1 hsv
  simp only [Value.slice.injEq] at f1 f2 f3 f4
  have hl1 : L.F.length = md := f1.2.1.symm
  have hl2 : L.P.length = mv := f2.2.1.symm
  have hl3 : L.I.length = mt := f3.2.1.symm
  have hl4 : L.U.length = ma := f4.2.1.symm
  have HSP' := HSP.out hsm
  have HIM' := HIM.out hsm
  have HM' := HMK.out hsm
  have hsm2 := HS2.out hsm
  unfold SvA at HSP' HIM'
  have HE2 : Hid (∀ W adx cdx avx cvx atx ctx aax cax ady cdy avy cvy aty cty aay cay, SvS W (.slice adx L2.F.length cdx) (.slice avx L2.P.length cvx) (.slice atx L2.I.length ctx) (.slice aax L2.U.length cax) L2 → SvS W (.slice ady L2.F.length cdy) (.slice avy L2.P.length cvy) (.slice aty L2.I.length cty) (.slice aay L2.U.length cay) L2 → Calls Tryz.prog 11 #[.agg #[.int .i64 n2.a, .int .i64 n2.k, .bool n2.u, .slice adx L2.F.length cdx, .int .i64 n2.e, .slice avx L2.P.length cvx, .slice atx L2.I.length ctx, .slice aax L2.U.length cax, .int .i64 n2.r0, .int .i64 n2.r1, .int .i64 n2.r2], .agg #[.int .i64 n2.a, .int .i64 n2.k, .bool n2.u, .slice ady L2.F.length cdy, .int .i64 n2.e, .slice avy L2.P.length cvy, .slice aty L2.I.length cty, .slice aay L2.U.length cay, .int .i64 n2.r0, .int .i64 n2.r1, .int .i64 n2.r2]] W fun e w' => e = .returned (.bool true) ∧ Below W.heap.size W w') := fun W adx cdx avx cvx atx ctx aax cax ady cdy avy cvy aty cty aay cay h k' => eqServer_yes n2 _ _ _ _ _ _ _ _ L2 W h k'
  have HM2 : Hid (∀ W lo hi adx cdx avx cvx atx ctx aax cax, SvD lo hi W (.slice adx L2.F.length cdx) (.slice avx L2.P.length cvx) (.slice atx L2.I.length ctx) (.slice aax L2.U.length cax) L2 → hi ≤ W.heap.size → Calls Tryz.prog 14 #[.agg #[.int .i64 n2.a, .int .i64 n2.k, .bool n2.u, .slice adx L2.F.length cdx, .int .i64 n2.e, .slice avx L2.P.length cvx, .slice atx L2.I.length ctx, .slice aax L2.U.length cax, .int .i64 n2.r0, .int .i64 n2.r1, .int .i64 n2.r2], .int .i64 1] W fun e w' => ∃ K : Int, e = .returned (.int .i64 K) ∧ 0 ≤ K ∧ InG lo hi W w' ∧ SvK w' (.slice adx L2.F.length cdx) (.slice avx L2.P.length cvx) (.slice atx L2.I.length ctx) (.slice aax L2.U.length cax) L2 K) := fun W lo hi adx cdx avx cvx atx ctx aax cax h hh => markServer_own n2 _ _ _ _ L2 lo hi W h hsm2 hh
  have HH2 : Hid (∀ W K adx cdx avx cvx atx ctx aax cax, SvK W (.slice adx L2.F.length cdx) (.slice avx L2.P.length cvx) (.slice atx L2.I.length ctx) (.slice aax L2.U.length cax) L2 K → Calls Tryz.prog 15 #[.agg #[.int .i64 n2.a, .int .i64 n2.k, .bool n2.u, .slice adx L2.F.length cdx, .int .i64 n2.e, .slice avx L2.P.length cvx, .slice atx L2.I.length ctx, .slice aax L2.U.length cax, .int .i64 n2.r0, .int .i64 n2.r1, .int .i64 n2.r2], .int .i64 1] W fun e w' => e = .returned (.int .i64 K) ∧ Below W.heap.size W w') := fun W K adx cdx avx cvx atx ctx aax cax h => heldServer_own n2 _ _ _ _ L2 K W h hsm2
  have HSPh : Hid _ := HSP'
  have HIMh : Hid _ := HIM'
  have HMh : Hid _ := HM'
  clear HSP HIM HMK HS2 HTO HSH hA2 f1 f2 f3 f4 hsv hsm hsm2 HSP' HIM' HM'
  rw [hl1, hl2, hl3, hl4] at HSPh HIMh HMh HEQ
  rw [hl1, hl2, hl3, hl4] at HT
  clear hl1 hl2 hl3 hl4
  generalize L2.F.length = kd at *
  generalize L2.P.length = kv at *
  generalize L2.I.length = kt at *
  generalize L2.U.length = ka at *
  obtain ⟨y0, y1, y2, y3, y4, y5, y6, y7, y8, y9, y10⟩ := HX1.out.2.1.all11
  -- the specification's answer
  go_wp2_with fail
  refine (HT.out _ (Below.refl _ _)).mono ?_
  rintro e_ w2 ⟨gd2, gv2, b32, e32, ga2, rfl, hm2, hb2⟩
  have HX2 : Hid (Below w.heap.size w w2 ∧ Below w1.heap.size w1 w2 ∧ Box 47 w2 w.heap.size [.int .i64 n.a, .int .i64 n.k, .bool n.u, .slice xd md xe, .int .i64 n.e, .slice xv mv xw, .slice xt mt xu, .slice xa ma xb, .int .i64 n.r0, .int .i64 n.r1, .int .i64 n.r2] ∧ SvS w2 (.slice (some ⟨gd2, 0, none⟩) md md) (.slice (some ⟨gv2, 0, none⟩) mv mv) (.slice b32 mt e32) (.slice (some ⟨ga2, 0, none⟩) ma ma) L) := ⟨HX1.out.1.trans (hb2.mono HX1.out.1.size), hb2, HX1.out.2.1.later hb2, hm2.svs⟩
  have HWW : Hid (w.heap.size < w1.heap.size) := HX1.out.2.2
  clear hm2 hb2 HX1 y0 y1 y2 y3 y4 y5 y6 y7 y8 y9 y10
  go_wp2_with fail
  refine (toIntS_any _ gz oz Q w2 (HQR.out.2 w2 HX2.out.1)).mono ?_
  rintro e_ wb ⟨sb, gb, rfl, hib, hgb, hbb⟩
  obtain ⟨ab, cb, hsb, _⟩ := id hib
  rw [HQR.out.1] at hsb
  subst hsb
  have HXb : Hid (Below w.heap.size w wb ∧ Below w1.heap.size w1 wb ∧ Box 47 wb w.heap.size [.int .i64 n.a, .int .i64 n.k, .bool n.u, .slice xd md xe, .int .i64 n.e, .slice xv mv xw, .slice xt mt xu, .slice xa ma xb, .int .i64 n.r0, .int .i64 n.r1, .int .i64 n.r2] ∧ SvS wb (.slice (some ⟨gd2, 0, none⟩) md md) (.slice (some ⟨gv2, 0, none⟩) mv mv) (.slice b32 mt e32) (.slice (some ⟨ga2, 0, none⟩) ma ma) L ∧ RS 1 ics wb (.slice ab mq cb) gb 0 Q) := ⟨HX2.out.1.trans (hbb.mono HX2.out.1.size), HX2.out.2.1.trans (hbb.mono HX2.out.2.1.size), HX2.out.2.2.1.later hbb, HX2.out.2.2.2.later hbb, hib.rs⟩
  clear hib hgb hbb HX2
  have HX2 := HXb
  clear HXb
  go_wp2_with fail
  refine (HSPh.out wb _ _ _ _ _ _ _ HX2.out.2.2.2.1 HX2.out.2.2.2.2).mono ?_
  rintro e_ w3 ⟨ad3, cd3, av3, cv3, at3, ct3, aa3, ca3, rfl, hd3, hb3⟩
  have HX3 : Hid (FwS w w1 (w3.alloc (.cells #[.int .i64 n2.a, .int .i64 n2.k, .bool n2.u, .slice ad3 kd cd3, .int .i64 n2.e, .slice av3 kv cv3, .slice at3 kt ct3, .slice aa3 ka ca3, .int .i64 n2.r0, .int .i64 n2.r1, .int .i64 n2.r2] 35)) [.int .i64 n.a, .int .i64 n.k, .bool n.u, .slice xd md xe, .int .i64 n.e, .slice xv mv xw, .slice xt mt xu, .slice xa ma xb, .int .i64 n.r0, .int .i64 n.r1, .int .i64 n.r2] w3.heap.size [.int .i64 n2.a, .int .i64 n2.k, .bool n2.u, .slice ad3 kd cd3, .int .i64 n2.e, .slice av3 kv cv3, .slice at3 kt ct3, .slice aa3 ka ca3, .int .i64 n2.r0, .int .i64 n2.r1, .int .i64 n2.r2] wb.heap.size w3.heap.size (.slice ad3 kd cd3) (.slice av3 kv cv3) (.slice at3 kt ct3) (.slice aa3 ka ca3) L2 ∧ w1.heap.size ≤ w3.heap.size) := by
    have k1 := HX2.out.1
    have k2 := HX2.out.2.1
    have j2 := k1.trans (hb3.mono k1.size)
    have j3 := k2.trans (hb3.mono k2.size)
    exact ⟨⟨j2.alloc j2.size _, j3.alloc j3.size _, (HX2.out.2.2.1.later hb3).later (below_alloc _ _), Box.new _ _ _, hd3.later (below_alloc _ _)⟩, j3.size⟩
  clear hd3 hb3 HX2 HSPh
  obtain ⟨y0, y1, y2, y3, y4, y5, y6, y7, y8, y9, y10⟩ := HX3.out.1.2.2.1.all11
  -- the arguments, and the program's answer
  go_wp2_with fail
  refine (HT.out _ HX3.out.1.2.1).mono ?_
  rintro e_ w4 ⟨gd4, gv4, b34, e34, ga4, rfl, hm4, hb4⟩
  have hs4 : w3.heap.size + 1 ≤ w4.heap.size := by have := hb4.size; simpa using this
  have HX4 : Hid (FwS w w1 (w4.alloc (.cells #[.int .i64 n.a, .int .i64 n.k, .bool n.u, .slice (some ⟨gd4, 0, none⟩) md md, .int .i64 n.e, .slice (some ⟨gv4, 0, none⟩) mv mv, .slice b34 mt e34, .slice (some ⟨ga4, 0, none⟩) ma ma, .int .i64 n.r0, .int .i64 n.r1, .int .i64 n.r2] 35)) [.int .i64 n.a, .int .i64 n.k, .bool n.u, .slice xd md xe, .int .i64 n.e, .slice xv mv xw, .slice xt mt xu, .slice xa ma xb, .int .i64 n.r0, .int .i64 n.r1, .int .i64 n.r2] w3.heap.size [.int .i64 n2.a, .int .i64 n2.k, .bool n2.u, .slice ad3 kd cd3, .int .i64 n2.e, .slice av3 kv cv3, .slice at3 kt ct3, .slice aa3 ka ca3, .int .i64 n2.r0, .int .i64 n2.r1, .int .i64 n2.r2] wb.heap.size w3.heap.size (.slice ad3 kd cd3) (.slice av3 kv cv3) (.slice at3 kt ct3) (.slice aa3 ka ca3) L2 ∧ Box 35 (w4.alloc (.cells #[.int .i64 n.a, .int .i64 n.k, .bool n.u, .slice (some ⟨gd4, 0, none⟩) md md, .int .i64 n.e, .slice (some ⟨gv4, 0, none⟩) mv mv, .slice b34 mt e34, .slice (some ⟨ga4, 0, none⟩) ma ma, .int .i64 n.r0, .int .i64 n.r1, .int .i64 n.r2] 35)) w4.heap.size [.int .i64 n.a, .int .i64 n.k, .bool n.u, .slice (some ⟨gd4, 0, none⟩) md md, .int .i64 n.e, .slice (some ⟨gv4, 0, none⟩) mv mv, .slice b34 mt e34, .slice (some ⟨ga4, 0, none⟩) ma ma, .int .i64 n.r0, .int .i64 n.r1, .int .i64 n.r2] ∧ SvD (w3.heap.size + 1) w4.heap.size (w4.alloc (.cells #[.int .i64 n.a, .int .i64 n.k, .bool n.u, .slice (some ⟨gd4, 0, none⟩) md md, .int .i64 n.e, .slice (some ⟨gv4, 0, none⟩) mv mv, .slice b34 mt e34, .slice (some ⟨ga4, 0, none⟩) ma ma, .int .i64 n.r0, .int .i64 n.r1, .int .i64 n.r2] 35)) (.slice (some ⟨gd4, 0, none⟩) md md) (.slice (some ⟨gv4, 0, none⟩) mv mv) (.slice b34 mt e34) (.slice (some ⟨ga4, 0, none⟩) ma ma) L) := ⟨(HX3.out.1.later hb4).later (below_alloc _ _), Box.new _ _ _, (hm4.wide (by simp) (Nat.le_refl _)).later (below_alloc _ _)⟩
  have HW4 : Hid (w1.heap.size ≤ w3.heap.size ∧ w3.heap.size + 1 ≤ w4.heap.size) := ⟨HX3.out.2, hs4⟩
  clear hm4 hb4 hs4 HX3 y0 y1 y2 y3 y4 y5 y6 y7 y8 y9 y10
  go_wp2_with fail
  refine (toIntS_any _ gz oz Q _ (HQR.out.2 _ HX4.out.1.1)).mono ?_
  rintro e_ w5 ⟨s5, g5, rfl, hi5, hg5, hb5⟩
  obtain ⟨a5, c5, hs5, _⟩ := id hi5
  rw [HQR.out.1] at hs5
  subst hs5
  have hg5' : w4.heap.size + 1 ≤ g5 := by simpa using hg5
  have hz5 : w4.heap.size + 1 ≤ w5.heap.size := by have := hb5.size; simpa using this
  have HX5 : Hid (FwS w w1 w5 [.int .i64 n.a, .int .i64 n.k, .bool n.u, .slice xd md xe, .int .i64 n.e, .slice xv mv xw, .slice xt mt xu, .slice xa ma xb, .int .i64 n.r0, .int .i64 n.r1, .int .i64 n.r2] w3.heap.size [.int .i64 n2.a, .int .i64 n2.k, .bool n2.u, .slice ad3 kd cd3, .int .i64 n2.e, .slice av3 kv cv3, .slice at3 kt ct3, .slice aa3 ka ca3, .int .i64 n2.r0, .int .i64 n2.r1, .int .i64 n2.r2] wb.heap.size w3.heap.size (.slice ad3 kd cd3) (.slice av3 kv cv3) (.slice at3 kt ct3) (.slice aa3 ka ca3) L2 ∧ Box 35 w5 w4.heap.size [.int .i64 n.a, .int .i64 n.k, .bool n.u, .slice (some ⟨gd4, 0, none⟩) md md, .int .i64 n.e, .slice (some ⟨gv4, 0, none⟩) mv mv, .slice b34 mt e34, .slice (some ⟨ga4, 0, none⟩) ma ma, .int .i64 n.r0, .int .i64 n.r1, .int .i64 n.r2] ∧ SvD (w3.heap.size + 1) w4.heap.size w5 (.slice (some ⟨gd4, 0, none⟩) md md) (.slice (some ⟨gv4, 0, none⟩) mv mv) (.slice b34 mt e34) (.slice (some ⟨ga4, 0, none⟩) ma ma) L ∧ IW w5 (.slice a5 mq c5) g5 Q) := ⟨HX4.out.1.later hb5, HX4.out.2.1.later hb5, HX4.out.2.2.later hb5, hi5⟩
  have HW5 : Hid (w4.heap.size + 1 ≤ g5 ∧ w4.heap.size + 1 ≤ w5.heap.size ∧ (0 < Q.length → g5 < w5.heap.size)) := ⟨hg5', hz5, hi5.lt⟩
  clear hi5 hg5 hb5 hg5' hz5 HX4
  obtain ⟨z0, z1, z2, z3, z4, z5, z6, z7, z8, z9, z10⟩ := HX5.out.2.1.all11
  obtain ⟨t1, t2, t3⟩ := HTE.out _ HX5.out.1.1
  go_wp2_with fail
  refine (HIMh.out _ _ _ _ _ _ _ _ t1 t2 t3 HX5.out.2.2.1.svs HX5.out.2.2.2.rs).mono ?_
  rintro e_ w6 ⟨ad6, cd6, av6, cv6, at6, ct6, aa6, ca6, rfl, hd6, hb6⟩
  have hs6 : w5.heap.size ≤ w6.heap.size := by have := hb6.size; exact this
  have HX6 : Hid (FwS w w1 (w6.alloc (.cells #[.int .i64 n2.a, .int .i64 n2.k, .bool n2.u, .slice ad6 kd cd6, .int .i64 n2.e, .slice av6 kv cv6, .slice at6 kt ct6, .slice aa6 ka ca6, .int .i64 n2.r0, .int .i64 n2.r1, .int .i64 n2.r2] 35)) [.int .i64 n.a, .int .i64 n.k, .bool n.u, .slice xd md xe, .int .i64 n.e, .slice xv mv xw, .slice xt mt xu, .slice xa ma xb, .int .i64 n.r0, .int .i64 n.r1, .int .i64 n.r2] w3.heap.size [.int .i64 n2.a, .int .i64 n2.k, .bool n2.u, .slice ad3 kd cd3, .int .i64 n2.e, .slice av3 kv cv3, .slice at3 kt ct3, .slice aa3 ka ca3, .int .i64 n2.r0, .int .i64 n2.r1, .int .i64 n2.r2] wb.heap.size w3.heap.size (.slice ad3 kd cd3) (.slice av3 kv cv3) (.slice at3 kt ct3) (.slice aa3 ka ca3) L2 ∧ Box 35 (w6.alloc (.cells #[.int .i64 n2.a, .int .i64 n2.k, .bool n2.u, .slice ad6 kd cd6, .int .i64 n2.e, .slice av6 kv cv6, .slice at6 kt ct6, .slice aa6 ka ca6, .int .i64 n2.r0, .int .i64 n2.r1, .int .i64 n2.r2] 35)) w4.heap.size [.int .i64 n.a, .int .i64 n.k, .bool n.u, .slice (some ⟨gd4, 0, none⟩) md md, .int .i64 n.e, .slice (some ⟨gv4, 0, none⟩) mv mv, .slice b34 mt e34, .slice (some ⟨ga4, 0, none⟩) ma ma, .int .i64 n.r0, .int .i64 n.r1, .int .i64 n.r2] ∧ SvD (w3.heap.size + 1) w4.heap.size (w6.alloc (.cells #[.int .i64 n2.a, .int .i64 n2.k, .bool n2.u, .slice ad6 kd cd6, .int .i64 n2.e, .slice av6 kv cv6, .slice at6 kt ct6, .slice aa6 ka ca6, .int .i64 n2.r0, .int .i64 n2.r1, .int .i64 n2.r2] 35)) (.slice (some ⟨gd4, 0, none⟩) md md) (.slice (some ⟨gv4, 0, none⟩) mv mv) (.slice b34 mt e34) (.slice (some ⟨ga4, 0, none⟩) ma ma) L ∧ IW (w6.alloc (.cells #[.int .i64 n2.a, .int .i64 n2.k, .bool n2.u, .slice ad6 kd cd6, .int .i64 n2.e, .slice av6 kv cv6, .slice at6 kt ct6, .slice aa6 ka ca6, .int .i64 n2.r0, .int .i64 n2.r1, .int .i64 n2.r2] 35)) (.slice a5 mq c5) g5 Q ∧ Box 35 (w6.alloc (.cells #[.int .i64 n2.a, .int .i64 n2.k, .bool n2.u, .slice ad6 kd cd6, .int .i64 n2.e, .slice av6 kv cv6, .slice at6 kt ct6, .slice aa6 ka ca6, .int .i64 n2.r0, .int .i64 n2.r1, .int .i64 n2.r2] 35)) w6.heap.size [.int .i64 n2.a, .int .i64 n2.k, .bool n2.u, .slice ad6 kd cd6, .int .i64 n2.e, .slice av6 kv cv6, .slice at6 kt ct6, .slice aa6 ka ca6, .int .i64 n2.r0, .int .i64 n2.r1, .int .i64 n2.r2] ∧ SvD w5.heap.size w6.heap.size (w6.alloc (.cells #[.int .i64 n2.a, .int .i64 n2.k, .bool n2.u, .slice ad6 kd cd6, .int .i64 n2.e, .slice av6 kv cv6, .slice at6 kt ct6, .slice aa6 ka ca6, .int .i64 n2.r0, .int .i64 n2.r1, .int .i64 n2.r2] 35)) (.slice ad6 kd cd6) (.slice av6 kv cv6) (.slice at6 kt ct6) (.slice aa6 ka ca6) L2) := ⟨(HX5.out.1.later hb6).later (below_alloc _ _), (HX5.out.2.1.later hb6).later (below_alloc _ _), (HX5.out.2.2.1.later hb6).later (below_alloc _ _), (HX5.out.2.2.2.later hb6).later (below_alloc _ _), Box.new _ _ _, hd6.later (below_alloc _ _)⟩
  have HW6 : Hid (w5.heap.size ≤ w6.heap.size ∧ w6.heap.size < (w6.alloc (.cells #[.int .i64 n2.a, .int .i64 n2.k, .bool n2.u, .slice ad6 kd cd6, .int .i64 n2.e, .slice av6 kv cv6, .slice at6 kt ct6, .slice aa6 ka ca6, .int .i64 n2.r0, .int .i64 n2.r1, .int .i64 n2.r2] 35)).heap.size) := ⟨hs6, by simp⟩
  clear hd6 hb6 hs6 t1 t2 t3 HX5 z0 z1 z2 z3 z4 z5 z6 z7 z8 z9 z10
  obtain ⟨z0, z1, z2, z3, z4, z5, z6, z7, z8, z9, z10⟩ := HX6.out.2.2.2.2.1.all11
  obtain ⟨y0, y1, y2, y3, y4, y5, y6, y7, y8, y9, y10⟩ := HX6.out.1.2.2.2.1.all11
  go_wp2_with fail
  refine (HE2.out _ _ _ _ _ _ _ _ _ _ _ _ _ _ _ _ _ HX6.out.2.2.2.2.2.svs HX6.out.1.2.2.2.2.svs).mono ?_
  rintro e_ w7 ⟨rfl, hb7⟩
  have HX7 : Hid (FwS w w1 w7 [.int .i64 n.a, .int .i64 n.k, .bool n.u, .slice xd md xe, .int .i64 n.e, .slice xv mv xw, .slice xt mt xu, .slice xa ma xb, .int .i64 n.r0, .int .i64 n.r1, .int .i64 n.r2] w3.heap.size [.int .i64 n2.a, .int .i64 n2.k, .bool n2.u, .slice ad3 kd cd3, .int .i64 n2.e, .slice av3 kv cv3, .slice at3 kt ct3, .slice aa3 ka ca3, .int .i64 n2.r0, .int .i64 n2.r1, .int .i64 n2.r2] wb.heap.size w3.heap.size (.slice ad3 kd cd3) (.slice av3 kv cv3) (.slice at3 kt ct3) (.slice aa3 ka ca3) L2 ∧ Box 35 w7 w4.heap.size [.int .i64 n.a, .int .i64 n.k, .bool n.u, .slice (some ⟨gd4, 0, none⟩) md md, .int .i64 n.e, .slice (some ⟨gv4, 0, none⟩) mv mv, .slice b34 mt e34, .slice (some ⟨ga4, 0, none⟩) ma ma, .int .i64 n.r0, .int .i64 n.r1, .int .i64 n.r2] ∧ SvD (w3.heap.size + 1) w4.heap.size w7 (.slice (some ⟨gd4, 0, none⟩) md md) (.slice (some ⟨gv4, 0, none⟩) mv mv) (.slice b34 mt e34) (.slice (some ⟨ga4, 0, none⟩) ma ma) L ∧ IW w7 (.slice a5 mq c5) g5 Q ∧ Box 35 w7 w6.heap.size [.int .i64 n2.a, .int .i64 n2.k, .bool n2.u, .slice ad6 kd cd6, .int .i64 n2.e, .slice av6 kv cv6, .slice at6 kt ct6, .slice aa6 ka ca6, .int .i64 n2.r0, .int .i64 n2.r1, .int .i64 n2.r2] ∧ SvD w5.heap.size w6.heap.size w7 (.slice ad6 kd cd6) (.slice av6 kv cv6) (.slice at6 kt ct6) (.slice aa6 ka ca6) L2 ∧ w6.heap.size < w7.heap.size) := by
    obtain ⟨k1, k2, k3, kq, k4, k5⟩ := HX6.out
    exact ⟨k1.later hb7, k2.later hb7, k3.later hb7, kq.later hb7, k4.later hb7, k5.later hb7, by have := hb7.size; have := HW6.out.2; omega⟩
  clear hb7 HX6 z0 z1 z2 z3 z4 z5 z6 z7 z8 z9 z10 y0 y1 y2 y3 y4 y5 y6 y7 y8 y9 y10
  have HC : Hid (∀ W, Below w7.heap.size w7 W → (W.cell? ⟨w4.heap.size, 0, none⟩ = some (.int .i64 n.a) ∧ W.cell? ⟨w4.heap.size, 1, none⟩ = some (.int .i64 n.k) ∧ W.cell? ⟨w4.heap.size, 2, none⟩ = some (.bool n.u) ∧ W.cell? ⟨w4.heap.size, 3, none⟩ = some (.slice (some ⟨gd4, 0, none⟩) md md) ∧ W.cell? ⟨w4.heap.size, 4, none⟩ = some (.int .i64 n.e) ∧ W.cell? ⟨w4.heap.size, 5, none⟩ = some (.slice (some ⟨gv4, 0, none⟩) mv mv) ∧ W.cell? ⟨w4.heap.size, 6, none⟩ = some (.slice b34 mt e34) ∧ W.cell? ⟨w4.heap.size, 7, none⟩ = some (.slice (some ⟨ga4, 0, none⟩) ma ma) ∧ W.cell? ⟨w4.heap.size, 8, none⟩ = some (.int .i64 n.r0) ∧ W.cell? ⟨w4.heap.size, 9, none⟩ = some (.int .i64 n.r1) ∧ W.cell? ⟨w4.heap.size, 10, none⟩ = some (.int .i64 n.r2)) ∧ W.cell? ⟨w.heap.size, 0, none⟩ = some (.int .i64 n.a) ∧ W.cell? ⟨w.heap.size, 1, none⟩ = some (.int .i64 n.k) ∧ W.cell? ⟨w.heap.size, 2, none⟩ = some (.bool n.u) ∧ W.cell? ⟨w.heap.size, 3, none⟩ = some (.slice xd md xe) ∧ W.cell? ⟨w.heap.size, 4, none⟩ = some (.int .i64 n.e) ∧ W.cell? ⟨w.heap.size, 5, none⟩ = some (.slice xv mv xw) ∧ W.cell? ⟨w.heap.size, 6, none⟩ = some (.slice xt mt xu) ∧ W.cell? ⟨w.heap.size, 7, none⟩ = some (.slice xa ma xb) ∧ W.cell? ⟨w.heap.size, 8, none⟩ = some (.int .i64 n.r0) ∧ W.cell? ⟨w.heap.size, 9, none⟩ = some (.int .i64 n.r1) ∧ W.cell? ⟨w.heap.size, 10, none⟩ = some (.int .i64 n.r2)) := fun W hW => ⟨(HX7.out.2.1.later hW).all11, (HX7.out.1.2.2.1.later hW).all11⟩
  have HT7 : Hid (∀ W, Below w7.heap.size w7 W → Calls Tryz.prog 18 #[.agg #[.int .i64 n.a, .int .i64 n.k, .bool n.u, .slice xd md xe, .int .i64 n.e, .slice xv mv xw, .slice xt mt xu, .slice xa ma xb, .int .i64 n.r0, .int .i64 n.r1, .int .i64 n.r2]] W fun e_ w' => ∃ gd gv b3 e3 ga, e_ = .returned (.agg #[.int .i64 n.a, .int .i64 n.k, .bool n.u, .slice (some ⟨gd, 0, none⟩) md md, .int .i64 n.e, .slice (some ⟨gv, 0, none⟩) mv mv, .slice b3 mt e3, .slice (some ⟨ga, 0, none⟩) ma ma, .int .i64 n.r0, .int .i64 n.r1, .int .i64 n.r2]) ∧ SvD W.heap.size w'.heap.size w' (.slice (some ⟨gd, 0, none⟩) md md) (.slice (some ⟨gv, 0, none⟩) mv mv) (.slice b3 mt e3) (.slice (some ⟨ga, 0, none⟩) ma ma) L ∧ Below W.heap.size W w') := fun W hW => HT.out W (HX7.out.1.2.1.trans (hW.mono HX7.out.1.2.1.size))
  have HE7 : Hid (∀ W ud uv ut ua, Below w7.heap.size w7 W → SvS W ud uv ut ua L → Calls Tryz.prog 11 #[.agg #[.int .i64 n.a, .int .i64 n.k, .bool n.u, .slice (some ⟨gd4, 0, none⟩) md md, .int .i64 n.e, .slice (some ⟨gv4, 0, none⟩) mv mv, .slice b34 mt e34, .slice (some ⟨ga4, 0, none⟩) ma ma, .int .i64 n.r0, .int .i64 n.r1, .int .i64 n.r2], .agg #[.int .i64 n.a, .int .i64 n.k, .bool n.u, ud, .int .i64 n.e, uv, ut, ua, .int .i64 n.r0, .int .i64 n.r1, .int .i64 n.r2]] W fun e w' => e = .returned (.bool true) ∧ Below W.heap.size W w') := fun W ud uv ut ua hW hu => HEQ.out W _ _ _ _ _ ud uv ut ua (HX7.out.2.2.1.later hW).svs hu
  have hb0 : Below w7.heap.size w7 w7.drew := (Below.refl _ _).drew
  clear HEQ
  go_wp2
  go_region_held3 (fun W => (W.cell? ⟨w4.heap.size, 0, none⟩ = some (.int .i64 n.a) ∧ W.cell? ⟨w4.heap.size, 1, none⟩ = some (.int .i64 n.k) ∧ W.cell? ⟨w4.heap.size, 2, none⟩ = some (.bool n.u) ∧ W.cell? ⟨w4.heap.size, 3, none⟩ = some (.slice (some ⟨gd4, 0, none⟩) md md) ∧ W.cell? ⟨w4.heap.size, 4, none⟩ = some (.int .i64 n.e) ∧ W.cell? ⟨w4.heap.size, 5, none⟩ = some (.slice (some ⟨gv4, 0, none⟩) mv mv) ∧ W.cell? ⟨w4.heap.size, 6, none⟩ = some (.slice b34 mt e34) ∧ W.cell? ⟨w4.heap.size, 7, none⟩ = some (.slice (some ⟨ga4, 0, none⟩) ma ma) ∧ W.cell? ⟨w4.heap.size, 8, none⟩ = some (.int .i64 n.r0) ∧ W.cell? ⟨w4.heap.size, 9, none⟩ = some (.int .i64 n.r1) ∧ W.cell? ⟨w4.heap.size, 10, none⟩ = some (.int .i64 n.r2)) ∧ W.cell? ⟨w.heap.size, 0, none⟩ = some (.int .i64 n.a) ∧ W.cell? ⟨w.heap.size, 1, none⟩ = some (.int .i64 n.k) ∧ W.cell? ⟨w.heap.size, 2, none⟩ = some (.bool n.u) ∧ W.cell? ⟨w.heap.size, 3, none⟩ = some (.slice xd md xe) ∧ W.cell? ⟨w.heap.size, 4, none⟩ = some (.int .i64 n.e) ∧ W.cell? ⟨w.heap.size, 5, none⟩ = some (.slice xv mv xw) ∧ W.cell? ⟨w.heap.size, 6, none⟩ = some (.slice xt mt xu) ∧ W.cell? ⟨w.heap.size, 7, none⟩ = some (.slice xa ma xb) ∧ W.cell? ⟨w.heap.size, 8, none⟩ = some (.int .i64 n.r0) ∧ W.cell? ⟨w.heap.size, 9, none⟩ = some (.int .i64 n.r1) ∧ W.cell? ⟨w.heap.size, 10, none⟩ = some (.int .i64 n.r2)) (first | (go_keep; done) | exact HC.out _ hb0) (first | (go_at_call 18; refine (HT7.out _ hb0).mono ?_; rintro e_ w8 ⟨gd8, gv8, b38, e38, ga8, rfl, hm8, hb8⟩; have hb0 := hb0.trans (hb8.mono hb0.size)) | (go_at_call 11; refine (HE7.out _ _ _ _ _ hb0 hm8.svs).mono ?_; rintro e_ w9 ⟨rfl, hb9⟩; have hb0 := hb0.trans (hb9.mono hb0.size)) | fail)
  try rename_i hHeld
  try clear hHeld
  have HX9 : Hid (FwS w w1 w9 [.int .i64 n.a, .int .i64 n.k, .bool n.u, .slice xd md xe, .int .i64 n.e, .slice xv mv xw, .slice xt mt xu, .slice xa ma xb, .int .i64 n.r0, .int .i64 n.r1, .int .i64 n.r2] w3.heap.size [.int .i64 n2.a, .int .i64 n2.k, .bool n2.u, .slice ad3 kd cd3, .int .i64 n2.e, .slice av3 kv cv3, .slice at3 kt ct3, .slice aa3 ka ca3, .int .i64 n2.r0, .int .i64 n2.r1, .int .i64 n2.r2] wb.heap.size w3.heap.size (.slice ad3 kd cd3) (.slice av3 kv cv3) (.slice at3 kt ct3) (.slice aa3 ka ca3) L2 ∧ Box 35 w9 w4.heap.size [.int .i64 n.a, .int .i64 n.k, .bool n.u, .slice (some ⟨gd4, 0, none⟩) md md, .int .i64 n.e, .slice (some ⟨gv4, 0, none⟩) mv mv, .slice b34 mt e34, .slice (some ⟨ga4, 0, none⟩) ma ma, .int .i64 n.r0, .int .i64 n.r1, .int .i64 n.r2] ∧ SvD (w3.heap.size + 1) w4.heap.size w9 (.slice (some ⟨gd4, 0, none⟩) md md) (.slice (some ⟨gv4, 0, none⟩) mv mv) (.slice b34 mt e34) (.slice (some ⟨ga4, 0, none⟩) ma ma) L ∧ IW w9 (.slice a5 mq c5) g5 Q ∧ Box 35 w9 w6.heap.size [.int .i64 n2.a, .int .i64 n2.k, .bool n2.u, .slice ad6 kd cd6, .int .i64 n2.e, .slice av6 kv cv6, .slice at6 kt ct6, .slice aa6 ka ca6, .int .i64 n2.r0, .int .i64 n2.r1, .int .i64 n2.r2] ∧ SvD w5.heap.size w6.heap.size w9 (.slice ad6 kd cd6) (.slice av6 kv cv6) (.slice at6 kt ct6) (.slice aa6 ka ca6) L2 ∧ w6.heap.size < w9.heap.size) := by
    obtain ⟨k1, k2, k3, kq, k4, k5, k6⟩ := HX7.out
    exact ⟨k1.later hb0, k2.later hb0, k3.later hb0, kq.later hb0, k4.later hb0, k5.later hb0, by have := hb0.size; omega⟩
  clear hm8 hb8 hb9 hb0 HX7 HC HT7 HE7
  go_wp2_with fail
  refine (toIntS_any _ gz oz Q w9 (HQR.out.2 w9 HX9.out.1.1)).mono ?_
  rintro e_ wa ⟨sa, gka, rfl, hia, _, hba⟩
  obtain ⟨aa9, ca9, hsa, _⟩ := id hia
  rw [HQR.out.1] at hsa
  subst hsa
  have HXa : Hid (FwS w w1 wa [.int .i64 n.a, .int .i64 n.k, .bool n.u, .slice xd md xe, .int .i64 n.e, .slice xv mv xw, .slice xt mt xu, .slice xa ma xb, .int .i64 n.r0, .int .i64 n.r1, .int .i64 n.r2] w3.heap.size [.int .i64 n2.a, .int .i64 n2.k, .bool n2.u, .slice ad3 kd cd3, .int .i64 n2.e, .slice av3 kv cv3, .slice at3 kt ct3, .slice aa3 ka ca3, .int .i64 n2.r0, .int .i64 n2.r1, .int .i64 n2.r2] wb.heap.size w3.heap.size (.slice ad3 kd cd3) (.slice av3 kv cv3) (.slice at3 kt ct3) (.slice aa3 ka ca3) L2 ∧ Box 35 wa w4.heap.size [.int .i64 n.a, .int .i64 n.k, .bool n.u, .slice (some ⟨gd4, 0, none⟩) md md, .int .i64 n.e, .slice (some ⟨gv4, 0, none⟩) mv mv, .slice b34 mt e34, .slice (some ⟨ga4, 0, none⟩) ma ma, .int .i64 n.r0, .int .i64 n.r1, .int .i64 n.r2] ∧ SvD (w3.heap.size + 1) w4.heap.size wa (.slice (some ⟨gd4, 0, none⟩) md md) (.slice (some ⟨gv4, 0, none⟩) mv mv) (.slice b34 mt e34) (.slice (some ⟨ga4, 0, none⟩) ma ma) L ∧ IW wa (.slice a5 mq c5) g5 Q ∧ Box 35 wa w6.heap.size [.int .i64 n2.a, .int .i64 n2.k, .bool n2.u, .slice ad6 kd cd6, .int .i64 n2.e, .slice av6 kv cv6, .slice at6 kt ct6, .slice aa6 ka ca6, .int .i64 n2.r0, .int .i64 n2.r1, .int .i64 n2.r2] ∧ SvD w5.heap.size w6.heap.size wa (.slice ad6 kd cd6) (.slice av6 kv cv6) (.slice at6 kt ct6) (.slice aa6 ka ca6) L2 ∧ w6.heap.size < wa.heap.size) := by
    obtain ⟨k1, k2, k3, kq, k4, k5, k6⟩ := HX9.out
    exact ⟨k1.later hba, k2.later hba, k3.later hba, kq.later hba, k4.later hba, k5.later hba, by have := hba.size; omega⟩
  clear hba HX9
  go_wp2_with fail
  refine (eqIntS_yes _ _ g5 0 gka 0 Q wa HXa.out.2.2.2.1.rs hia.rs).mono ?_
  rintro e_ wc ⟨rfl, hbc⟩
  have HX9 : Hid (FwS w w1 wc [.int .i64 n.a, .int .i64 n.k, .bool n.u, .slice xd md xe, .int .i64 n.e, .slice xv mv xw, .slice xt mt xu, .slice xa ma xb, .int .i64 n.r0, .int .i64 n.r1, .int .i64 n.r2] w3.heap.size [.int .i64 n2.a, .int .i64 n2.k, .bool n2.u, .slice ad3 kd cd3, .int .i64 n2.e, .slice av3 kv cv3, .slice at3 kt ct3, .slice aa3 ka ca3, .int .i64 n2.r0, .int .i64 n2.r1, .int .i64 n2.r2] wb.heap.size w3.heap.size (.slice ad3 kd cd3) (.slice av3 kv cv3) (.slice at3 kt ct3) (.slice aa3 ka ca3) L2 ∧ Box 35 wc w4.heap.size [.int .i64 n.a, .int .i64 n.k, .bool n.u, .slice (some ⟨gd4, 0, none⟩) md md, .int .i64 n.e, .slice (some ⟨gv4, 0, none⟩) mv mv, .slice b34 mt e34, .slice (some ⟨ga4, 0, none⟩) ma ma, .int .i64 n.r0, .int .i64 n.r1, .int .i64 n.r2] ∧ SvD (w3.heap.size + 1) w4.heap.size wc (.slice (some ⟨gd4, 0, none⟩) md md) (.slice (some ⟨gv4, 0, none⟩) mv mv) (.slice b34 mt e34) (.slice (some ⟨ga4, 0, none⟩) ma ma) L ∧ IW wc (.slice a5 mq c5) g5 Q ∧ Box 35 wc w6.heap.size [.int .i64 n2.a, .int .i64 n2.k, .bool n2.u, .slice ad6 kd cd6, .int .i64 n2.e, .slice av6 kv cv6, .slice at6 kt ct6, .slice aa6 ka ca6, .int .i64 n2.r0, .int .i64 n2.r1, .int .i64 n2.r2] ∧ SvD w5.heap.size w6.heap.size wc (.slice ad6 kd cd6) (.slice av6 kv cv6) (.slice at6 kt ct6) (.slice aa6 ka ca6) L2 ∧ w6.heap.size < wc.heap.size) := by
    obtain ⟨k1, k2, k3, kq, k4, k5, k6⟩ := HXa.out
    exact ⟨k1.later hbc, k2.later hbc, k3.later hbc, kq.later hbc, k4.later hbc, k5.later hbc, by have := hbc.size; omega⟩
  clear hbc hia HXa
  obtain ⟨z0, z1, z2, z3, z4, z5, z6, z7, z8, z9, z10⟩ := HX9.out.2.1.all11
  go_wp2_with fail
  refine (HMh.out _ _ _ _ _ _ _ _ HX9.out.2.2.1 (by have := HX9.out.2.2.2.2.2.2; have := HW6.out.1; have := HW5.out.2.1; omega)).mono ?_
  rintro e_ wd ⟨KM, rfl, hKM, hid⟩
  have HXd : Hid (FwS w w1 wd [.int .i64 n.a, .int .i64 n.k, .bool n.u, .slice xd md xe, .int .i64 n.e, .slice xv mv xw, .slice xt mt xu, .slice xa ma xb, .int .i64 n.r0, .int .i64 n.r1, .int .i64 n.r2] w3.heap.size [.int .i64 n2.a, .int .i64 n2.k, .bool n2.u, .slice ad3 kd cd3, .int .i64 n2.e, .slice av3 kv cv3, .slice at3 kt ct3, .slice aa3 ka ca3, .int .i64 n2.r0, .int .i64 n2.r1, .int .i64 n2.r2] wb.heap.size w3.heap.size (.slice ad3 kd cd3) (.slice av3 kv cv3) (.slice at3 kt ct3) (.slice aa3 ka ca3) L2 ∧ IW wd (.slice a5 mq c5) g5 Q ∧ Box 35 wd w6.heap.size [.int .i64 n2.a, .int .i64 n2.k, .bool n2.u, .slice ad6 kd cd6, .int .i64 n2.e, .slice av6 kv cv6, .slice at6 kt ct6, .slice aa6 ka ca6, .int .i64 n2.r0, .int .i64 n2.r1, .int .i64 n2.r2] ∧ SvD w5.heap.size w6.heap.size wd (.slice ad6 kd cd6) (.slice av6 kv cv6) (.slice at6 kt ct6) (.slice aa6 ka ca6) L2 ∧ w6.heap.size < wd.heap.size) := by
    obtain ⟨k1, k2, k3, kq, k4, k5, k6⟩ := HX9.out
    obtain ⟨j1, j2⟩ := HW4.out
    have j3 := HW6.out.1
    have j4 := HW5.out.2.1
    exact ⟨k1.past hid (by have := HWW.out; omega) (by omega) (by omega) (by omega), kq.inG hid (fun _ => .inr (by have := HW5.out.1; omega)), k4.inG hid (.inr (by omega)), k5.above hid (by omega), by have := hid.2.2.2.1; omega⟩
  clear hid HX9 HMh z0 z1 z2 z3 z4 z5 z6 z7 z8 z9 z10
  have hmi := markIntS_row _ g5 Q ((KM : Nat) : Int) KM wd rfl HXd.out.2.1 (by omega)
  obtain ⟨K2, hK2⟩ : ∃ K2 : Int, ((KM + Q.length : Nat) : Int) = K2 := ⟨_, rfl⟩
  have hK2n : ¬ K2 < 0 := by omega
  rw [hK2] at hmi
  go_wp2_with fail
  refine hmi.mono ?_
  rintro e_ wf ⟨rfl, hgf⟩
  have HXf : Hid (FwS w w1 wf [.int .i64 n.a, .int .i64 n.k, .bool n.u, .slice xd md xe, .int .i64 n.e, .slice xv mv xw, .slice xt mt xu, .slice xa ma xb, .int .i64 n.r0, .int .i64 n.r1, .int .i64 n.r2] w3.heap.size [.int .i64 n2.a, .int .i64 n2.k, .bool n2.u, .slice ad3 kd cd3, .int .i64 n2.e, .slice av3 kv cv3, .slice at3 kt ct3, .slice aa3 ka ca3, .int .i64 n2.r0, .int .i64 n2.r1, .int .i64 n2.r2] wb.heap.size w3.heap.size (.slice ad3 kd cd3) (.slice av3 kv cv3) (.slice at3 kt ct3) (.slice aa3 ka ca3) L2 ∧ Box 35 wf w6.heap.size [.int .i64 n2.a, .int .i64 n2.k, .bool n2.u, .slice ad6 kd cd6, .int .i64 n2.e, .slice av6 kv cv6, .slice at6 kt ct6, .slice aa6 ka ca6, .int .i64 n2.r0, .int .i64 n2.r1, .int .i64 n2.r2] ∧ SvD w5.heap.size w6.heap.size wf (.slice ad6 kd cd6) (.slice av6 kv cv6) (.slice at6 kt ct6) (.slice aa6 ka ca6) L2 ∧ w6.heap.size < wf.heap.size) := by
    obtain ⟨k1, kq, k4, k5, k6⟩ := HXd.out
    obtain ⟨j1, j2⟩ := HW4.out
    have j3 := HW6.out.1
    obtain ⟨j4, j5, j6⟩ := HW5.out
    have hi9 : InG (w4.heap.size + 1) w5.heap.size wd wf := InG.of_row hgf (fun hp => ⟨j4, j6 hp⟩)
    exact ⟨k1.past hi9 (by have := HWW.out; omega) (by omega) (by omega) (by omega), k4.inG hi9 (.inr (by omega)), k5.above hi9 (by omega), by have := hi9.2.2.2.1; omega⟩
  clear hgf HXd hmi hK2
  obtain ⟨z0, z1, z2, z3, z4, z5, z6, z7, z8, z9, z10⟩ := HXf.out.2.1.all11
  obtain ⟨y0, y1, y2, y3, y4, y5, y6, y7, y8, y9, y10⟩ := HXf.out.1.2.2.2.1.all11
  go_wp2_with fail
  refine (HE2.out _ _ _ _ _ _ _ _ _ _ _ _ _ _ _ _ _ HXf.out.2.2.1.svs HXf.out.1.2.2.2.2.svs).mono ?_
  rintro e_ w10 ⟨rfl, hb10⟩
  have HX10 : Hid (FwS w w1 w10 [.int .i64 n.a, .int .i64 n.k, .bool n.u, .slice xd md xe, .int .i64 n.e, .slice xv mv xw, .slice xt mt xu, .slice xa ma xb, .int .i64 n.r0, .int .i64 n.r1, .int .i64 n.r2] w3.heap.size [.int .i64 n2.a, .int .i64 n2.k, .bool n2.u, .slice ad3 kd cd3, .int .i64 n2.e, .slice av3 kv cv3, .slice at3 kt ct3, .slice aa3 ka ca3, .int .i64 n2.r0, .int .i64 n2.r1, .int .i64 n2.r2] wb.heap.size w3.heap.size (.slice ad3 kd cd3) (.slice av3 kv cv3) (.slice at3 kt ct3) (.slice aa3 ka ca3) L2 ∧ Box 35 w10 w6.heap.size [.int .i64 n2.a, .int .i64 n2.k, .bool n2.u, .slice ad6 kd cd6, .int .i64 n2.e, .slice av6 kv cv6, .slice at6 kt ct6, .slice aa6 ka ca6, .int .i64 n2.r0, .int .i64 n2.r1, .int .i64 n2.r2] ∧ SvD w5.heap.size w6.heap.size w10 (.slice ad6 kd cd6) (.slice av6 kv cv6) (.slice at6 kt ct6) (.slice aa6 ka ca6) L2 ∧ w6.heap.size < w10.heap.size) := by
    obtain ⟨k1, k4, k5, k6⟩ := HXf.out
    exact ⟨k1.later hb10, k4.later hb10, k5.later hb10, by have := hb10.size; omega⟩
  clear hb10 HXf z0 z1 z2 z3 z4 z5 z6 z7 z8 z9 z10 y0 y1 y2 y3 y4 y5 y6 y7 y8 y9 y10
  obtain ⟨z0, z1, z2, z3, z4, z5, z6, z7, z8, z9, z10⟩ := HX10.out.2.1.all11
  go_wp2_with fail
  refine (HM2.out _ _ _ _ _ _ _ _ _ _ _ HX10.out.2.2.1 (by have := HX10.out.2.2.2; omega)).mono ?_
  rintro e_ w11 ⟨K, rfl, hK0, hi11, hk11⟩
  have hKn : ¬ K < 0 := by omega
  have HX11 : Hid (FwS w w1 w11 [.int .i64 n.a, .int .i64 n.k, .bool n.u, .slice xd md xe, .int .i64 n.e, .slice xv mv xw, .slice xt mt xu, .slice xa ma xb, .int .i64 n.r0, .int .i64 n.r1, .int .i64 n.r2] w3.heap.size [.int .i64 n2.a, .int .i64 n2.k, .bool n2.u, .slice ad3 kd cd3, .int .i64 n2.e, .slice av3 kv cv3, .slice at3 kt ct3, .slice aa3 ka ca3, .int .i64 n2.r0, .int .i64 n2.r1, .int .i64 n2.r2] wb.heap.size w3.heap.size (.slice ad3 kd cd3) (.slice av3 kv cv3) (.slice at3 kt ct3) (.slice aa3 ka ca3) L2 ∧ Box 35 w11 w6.heap.size [.int .i64 n2.a, .int .i64 n2.k, .bool n2.u, .slice ad6 kd cd6, .int .i64 n2.e, .slice av6 kv cv6, .slice at6 kt ct6, .slice aa6 ka ca6, .int .i64 n2.r0, .int .i64 n2.r1, .int .i64 n2.r2] ∧ SvK w11 (.slice ad6 kd cd6) (.slice av6 kv cv6) (.slice at6 kt ct6) (.slice aa6 ka ca6) L2 K) := by
    obtain ⟨k1, k4, k5, k6⟩ := HX10.out
    obtain ⟨j1, j2⟩ := HW4.out
    have j3 := HW6.out.1
    have j4 := HW5.out.2.1
    exact ⟨k1.past hi11 (by have := HWW.out; omega) (by omega) (by omega) (by omega), k4.inG hi11 (.inr (by omega)), hk11⟩
  clear hi11 hk11 HX10 HM2 z0 z1 z2 z3 z4 z5 z6 z7 z8 z9 z10
  obtain ⟨z0, z1, z2, z3, z4, z5, z6, z7, z8, z9, z10⟩ := HX11.out.2.1.all11
  go_wp2_with fail
  refine (HH2.out _ K _ _ _ _ _ _ _ _ HX11.out.2.2).mono ?_
  rintro e_ w12 ⟨rfl, hb12⟩
  have HX12 : Hid (FwS w w1 w12 [.int .i64 n.a, .int .i64 n.k, .bool n.u, .slice xd md xe, .int .i64 n.e, .slice xv mv xw, .slice xt mt xu, .slice xa ma xb, .int .i64 n.r0, .int .i64 n.r1, .int .i64 n.r2] w3.heap.size [.int .i64 n2.a, .int .i64 n2.k, .bool n2.u, .slice ad3 kd cd3, .int .i64 n2.e, .slice av3 kv cv3, .slice at3 kt ct3, .slice aa3 ka ca3, .int .i64 n2.r0, .int .i64 n2.r1, .int .i64 n2.r2] wb.heap.size w3.heap.size (.slice ad3 kd cd3) (.slice av3 kv cv3) (.slice at3 kt ct3) (.slice aa3 ka ca3) L2 ∧ Box 35 w12 w6.heap.size [.int .i64 n2.a, .int .i64 n2.k, .bool n2.u, .slice ad6 kd cd6, .int .i64 n2.e, .slice av6 kv cv6, .slice at6 kt ct6, .slice aa6 ka ca6, .int .i64 n2.r0, .int .i64 n2.r1, .int .i64 n2.r2] ∧ SvK w12 (.slice ad6 kd cd6) (.slice av6 kv cv6) (.slice at6 kt ct6) (.slice aa6 ka ca6) L2 K) := ⟨HX11.out.1.later hb12, HX11.out.2.1.later hb12, HX11.out.2.2.later hb12⟩
  clear hb12 HX11 z0 z1 z2 z3 z4 z5 z6 z7 z8 z9 z10
  obtain ⟨y0, y1, y2, y3, y4, y5, y6, y7, y8, y9, y10⟩ := HX12.out.1.2.2.1.all11
  go_wp2_with fail
  refine (HT.out _ HX12.out.1.2.1).mono ?_
  rintro e_ w13 ⟨gd13, gv13, b313, e313, ga13, rfl, hm13, hb13⟩
  have HX13 : Hid (FwS w w1 w13 [.int .i64 n.a, .int .i64 n.k, .bool n.u, .slice xd md xe, .int .i64 n.e, .slice xv mv xw, .slice xt mt xu, .slice xa ma xb, .int .i64 n.r0, .int .i64 n.r1, .int .i64 n.r2] w3.heap.size [.int .i64 n2.a, .int .i64 n2.k, .bool n2.u, .slice ad3 kd cd3, .int .i64 n2.e, .slice av3 kv cv3, .slice at3 kt ct3, .slice aa3 ka ca3, .int .i64 n2.r0, .int .i64 n2.r1, .int .i64 n2.r2] wb.heap.size w3.heap.size (.slice ad3 kd cd3) (.slice av3 kv cv3) (.slice at3 kt ct3) (.slice aa3 ka ca3) L2 ∧ Box 35 w13 w6.heap.size [.int .i64 n2.a, .int .i64 n2.k, .bool n2.u, .slice ad6 kd cd6, .int .i64 n2.e, .slice av6 kv cv6, .slice at6 kt ct6, .slice aa6 ka ca6, .int .i64 n2.r0, .int .i64 n2.r1, .int .i64 n2.r2] ∧ SvK w13 (.slice ad6 kd cd6) (.slice av6 kv cv6) (.slice at6 kt ct6) (.slice aa6 ka ca6) L2 K ∧ SvS w13 (.slice (some ⟨gd13, 0, none⟩) md md) (.slice (some ⟨gv13, 0, none⟩) mv mv) (.slice b313 mt e313) (.slice (some ⟨ga13, 0, none⟩) ma ma) L) := ⟨HX12.out.1.later hb13, HX12.out.2.1.later hb13, HX12.out.2.2.later hb13, hm13.svs⟩
  clear hm13 hb13 HX12 y0 y1 y2 y3 y4 y5 y6 y7 y8 y9 y10
  go_wp2_with fail
  refine (toIntS_any _ gz oz Q w13 (HQR.out.2 w13 HX13.out.1.1)).mono ?_
  rintro e_ wg ⟨sg, gg, rfl, hig, _, hbg⟩
  obtain ⟨ag9, cg9, hsg, _⟩ := id hig
  rw [HQR.out.1] at hsg
  subst hsg
  have HXg : Hid (FwS w w1 wg [.int .i64 n.a, .int .i64 n.k, .bool n.u, .slice xd md xe, .int .i64 n.e, .slice xv mv xw, .slice xt mt xu, .slice xa ma xb, .int .i64 n.r0, .int .i64 n.r1, .int .i64 n.r2] w3.heap.size [.int .i64 n2.a, .int .i64 n2.k, .bool n2.u, .slice ad3 kd cd3, .int .i64 n2.e, .slice av3 kv cv3, .slice at3 kt ct3, .slice aa3 ka ca3, .int .i64 n2.r0, .int .i64 n2.r1, .int .i64 n2.r2] wb.heap.size w3.heap.size (.slice ad3 kd cd3) (.slice av3 kv cv3) (.slice at3 kt ct3) (.slice aa3 ka ca3) L2 ∧ Box 35 wg w6.heap.size [.int .i64 n2.a, .int .i64 n2.k, .bool n2.u, .slice ad6 kd cd6, .int .i64 n2.e, .slice av6 kv cv6, .slice at6 kt ct6, .slice aa6 ka ca6, .int .i64 n2.r0, .int .i64 n2.r1, .int .i64 n2.r2] ∧ SvK wg (.slice ad6 kd cd6) (.slice av6 kv cv6) (.slice at6 kt ct6) (.slice aa6 ka ca6) L2 K ∧ SvS wg (.slice (some ⟨gd13, 0, none⟩) md md) (.slice (some ⟨gv13, 0, none⟩) mv mv) (.slice b313 mt e313) (.slice (some ⟨ga13, 0, none⟩) ma ma) L ∧ RS 1 ics wg (.slice ag9 mq cg9) gg 0 Q) := ⟨HX13.out.1.later hbg, HX13.out.2.1.later hbg, HX13.out.2.2.1.later hbg, HX13.out.2.2.2.later hbg, hig.rs⟩
  clear hbg hig HX13
  have HX13 := HXg
  clear HXg
  obtain ⟨t1, t2, t3⟩ := HTE.out _ HX13.out.1.1
  go_wp2_with fail
  refine (HIMh.out _ _ _ _ _ _ _ _ t1 t2 t3 HX13.out.2.2.2.1 HX13.out.2.2.2.2).mono ?_
  rintro e_ w14 ⟨ad14, cd14, av14, cv14, at14, ct14, aa14, ca14, rfl, hd14, hb14⟩
  have HX14 : Hid (FwS w w1 (w14.alloc (.cells #[.int .i64 n2.a, .int .i64 n2.k, .bool n2.u, .slice ad14 kd cd14, .int .i64 n2.e, .slice av14 kv cv14, .slice at14 kt ct14, .slice aa14 ka ca14, .int .i64 n2.r0, .int .i64 n2.r1, .int .i64 n2.r2] 35)) [.int .i64 n.a, .int .i64 n.k, .bool n.u, .slice xd md xe, .int .i64 n.e, .slice xv mv xw, .slice xt mt xu, .slice xa ma xb, .int .i64 n.r0, .int .i64 n.r1, .int .i64 n.r2] w3.heap.size [.int .i64 n2.a, .int .i64 n2.k, .bool n2.u, .slice ad3 kd cd3, .int .i64 n2.e, .slice av3 kv cv3, .slice at3 kt ct3, .slice aa3 ka ca3, .int .i64 n2.r0, .int .i64 n2.r1, .int .i64 n2.r2] wb.heap.size w3.heap.size (.slice ad3 kd cd3) (.slice av3 kv cv3) (.slice at3 kt ct3) (.slice aa3 ka ca3) L2 ∧ Box 35 (w14.alloc (.cells #[.int .i64 n2.a, .int .i64 n2.k, .bool n2.u, .slice ad14 kd cd14, .int .i64 n2.e, .slice av14 kv cv14, .slice at14 kt ct14, .slice aa14 ka ca14, .int .i64 n2.r0, .int .i64 n2.r1, .int .i64 n2.r2] 35)) w6.heap.size [.int .i64 n2.a, .int .i64 n2.k, .bool n2.u, .slice ad6 kd cd6, .int .i64 n2.e, .slice av6 kv cv6, .slice at6 kt ct6, .slice aa6 ka ca6, .int .i64 n2.r0, .int .i64 n2.r1, .int .i64 n2.r2] ∧ SvK (w14.alloc (.cells #[.int .i64 n2.a, .int .i64 n2.k, .bool n2.u, .slice ad14 kd cd14, .int .i64 n2.e, .slice av14 kv cv14, .slice at14 kt ct14, .slice aa14 ka ca14, .int .i64 n2.r0, .int .i64 n2.r1, .int .i64 n2.r2] 35)) (.slice ad6 kd cd6) (.slice av6 kv cv6) (.slice at6 kt ct6) (.slice aa6 ka ca6) L2 K ∧ Box 35 (w14.alloc (.cells #[.int .i64 n2.a, .int .i64 n2.k, .bool n2.u, .slice ad14 kd cd14, .int .i64 n2.e, .slice av14 kv cv14, .slice at14 kt ct14, .slice aa14 ka ca14, .int .i64 n2.r0, .int .i64 n2.r1, .int .i64 n2.r2] 35)) w14.heap.size [.int .i64 n2.a, .int .i64 n2.k, .bool n2.u, .slice ad14 kd cd14, .int .i64 n2.e, .slice av14 kv cv14, .slice at14 kt ct14, .slice aa14 ka ca14, .int .i64 n2.r0, .int .i64 n2.r1, .int .i64 n2.r2] ∧ SvS (w14.alloc (.cells #[.int .i64 n2.a, .int .i64 n2.k, .bool n2.u, .slice ad14 kd cd14, .int .i64 n2.e, .slice av14 kv cv14, .slice at14 kt ct14, .slice aa14 ka ca14, .int .i64 n2.r0, .int .i64 n2.r1, .int .i64 n2.r2] 35)) (.slice ad14 kd cd14) (.slice av14 kv cv14) (.slice at14 kt ct14) (.slice aa14 ka ca14) L2) := ⟨(HX13.out.1.later hb14).later (below_alloc _ _), (HX13.out.2.1.later hb14).later (below_alloc _ _), (HX13.out.2.2.1.later hb14).later (below_alloc _ _), Box.new _ _ _, (hd14.later (below_alloc _ _)).svs⟩
  clear hd14 hb14 HX13 HIMh HT t1 t2 t3
  obtain ⟨z0, z1, z2, z3, z4, z5, z6, z7, z8, z9, z10⟩ := HX14.out.2.2.2.1.all11
  obtain ⟨y0, y1, y2, y3, y4, y5, y6, y7, y8, y9, y10⟩ := HX14.out.1.2.2.2.1.all11
  go_wp2_with fail
  refine (HE2.out _ _ _ _ _ _ _ _ _ _ _ _ _ _ _ _ _ HX14.out.2.2.2.2 HX14.out.1.2.2.2.2.svs).mono ?_
  rintro e_ w15 ⟨rfl, hb15⟩
  have HX15 : Hid (Below w.heap.size w w15 ∧ Box 35 w15 w6.heap.size [.int .i64 n2.a, .int .i64 n2.k, .bool n2.u, .slice ad6 kd cd6, .int .i64 n2.e, .slice av6 kv cv6, .slice at6 kt ct6, .slice aa6 ka ca6, .int .i64 n2.r0, .int .i64 n2.r1, .int .i64 n2.r2] ∧ SvK w15 (.slice ad6 kd cd6) (.slice av6 kv cv6) (.slice at6 kt ct6) (.slice aa6 ka ca6) L2 K) := ⟨(HX14.out.1.later hb15).1, HX14.out.2.1.later hb15, HX14.out.2.2.1.later hb15⟩
  clear hb15 HX14 HE2 z0 z1 z2 z3 z4 z5 z6 z7 z8 z9 z10 y0 y1 y2 y3 y4 y5 y6 y7 y8 y9 y10
  obtain ⟨z0, z1, z2, z3, z4, z5, z6, z7, z8, z9, z10⟩ := HX15.out.2.1.all11
  go_wp2_with fail
  refine (HH2.out _ K _ _ _ _ _ _ _ _ HX15.out.2.2).mono ?_
  rintro e_ w16 ⟨rfl, hb16⟩
  have b16 := HX15.out.1.trans (hb16.mono HX15.out.1.size)
  clear hb16 HX15 HH2 z0 z1 z2 z3 z4 z5 z6 z7 z8 z9 z10
  go_wp2
  go_ret
  exact ⟨rfl, b16⟩

theorem fallLaw_any (n : Sn) (vd vv vt va : Value) (L : Sr) (vq : Value) (gz oz : Nat) (Q : List Int) (w : World) (hZ : IsSv w vd vv vt va L) (hQ : IsRowZ w vq gz oz Q) (hT : Tab w) (hE : Eh w) (hTb : Tb w) :
    Calls Tryz.prog 4 #[.agg #[.int .i64 n.a, .int .i64 n.k, .bool n.u, vd, .int .i64 n.e, vv, vt, va, .int .i64 n.r0, .int .i64 n.r1, .int .i64 n.r2], vq] w fun e w' => e = .returned (.bool true) ∧ Below w.heap.size w w' :=
  fallLaw_at n vd vv vt va L (Sn.ofS n.a n.k false (SR.runS n.a n.k (ltT (lsF L.F Q) ⟨#[115, 104, 97, 114, 100]⟩))) (Sr.ofS (lsF L.F Q) (SR.runS n.a n.k (ltT (lsF L.F Q) ⟨#[115, 104, 97, 114, 100]⟩))) vq gz oz Q w hZ hQ hT hE hTb
    (fun hs W gd gv b3 e3 ga sq gq h hq => (sFallServer_any n _ _ _ _ L sq gq 0 Q W h hq hs.1.1 (fun c e => by cases e)).mono fun e w' h => h.sva)
    (fun hs W gd gv b3 e3 ga sq gq t1 t2 t3 h hq => (FallServer_any n _ _ _ _ L sq gq 0 Q W h hq hs.1.1 t1 t2 t3).mono fun e w' h => h.sva)
    (fun hs => sm_all n.a n.k _ (ls_small hs.1.1 Q).1 (Nat.le_trans (ls_small hs.1.1 Q).2 hs.1.2))

end Go.Proofs.YthlgohplljcgfaaGreatDoor
/-
  A row of leaves that a law is handed.
-/
namespace Go.Proofs.YthlgohplljcgfaaGreatDoor
open Go.ChangeShapes Go.WideShapes Go.ChangeAt Go.RowKit
set_option linter.unusedVariables false
set_option linter.unusedSimpArgs false
namespace LV

theorem addr_flat {w : World} {x : Addr} {u : Value} (h : w.cell? x = some u) (j : Nat) : x.add j = ⟨x.block, x.off + j, none⟩ := by
  have hs := World.cell?_spot h
  cases x
  simp at hs
  subst hs
  unfold Addr.add
  split <;> simp_all
theorem addr_zero (x : Addr) : x.add 0 = x := by unfold Addr.add; simp
theorem addr_add (x : Addr) (i j : Nat) : (x.add i).add j = x.add (i + j) := by
  unfold Addr.add
  split <;> split <;> simp_all <;> omega

/-- n records, each read -/
theorem list_of {α : Type} {p : Nat → α → Prop} : ∀ n : Nat, (∀ i, i < n → ∃ f, p i f) → ∃ l : List α, l.length = n ∧ ∀ i (h : i < l.length), p i l[i]
  | 0, _ => ⟨[], rfl, fun i h => absurd h (by simp)⟩
  | n + 1, h => by
    obtain ⟨l, hl, hp⟩ := list_of n (fun i hi => h i (by omega))
    obtain ⟨f, hf⟩ := h n (by omega)
    refine ⟨l ++ [f], by simp [hl], fun i hi => ?_⟩
    rcases Nat.lt_or_ge i l.length with h1 | h1
    · rw [List.getElem_append_left h1]; exact hp i h1
    · have : i = n := by simp at hi; omega
      subst this
      rw [List.getElem_append_right h1]
      simpa using hf

theorem row_at {α : Type} {k : Nat} {enc : α → List Value} {W : World} {a : Addr} {len : Nat} {l : List α} (hk0 : ∀ x, ∃ u r, enc x = u :: r) (hl : l.length = len) (cap : Nat)
    (hp : ∀ i (h : i < l.length), ∀ j u, (enc l[i])[j]? = some u → W.cell? (a.add (i * k + j)) = some u) (hsm : len ≤ 1100000) : RS k enc W (.slice (some a) len cap) a.block a.off l := by
  have hc0 : ∀ h0 : 0 < l.length, ∃ u, W.cell? a = some u := fun h0 => by
    obtain ⟨u, r, e⟩ := hk0 l[0]
    have c0 := hp 0 h0 0 u (by rw [e]; rfl)
    simp only [Nat.zero_mul, Nat.zero_add] at c0
    rw [addr_zero] at c0
    exact ⟨u, c0⟩
  refine ⟨some a, cap, by rw [hl], by omega, fun h0 => ?_, fun j hj i u hu => ?_⟩
  · obtain ⟨u, c0⟩ := hc0 h0
    have e := addr_flat c0 0
    rw [addr_zero] at e
    refine ⟨congrArg some e, ?_⟩
    rw [e] at c0
    exact lt_of_cell c0
  · obtain ⟨u0, c0⟩ := hc0 (by omega)
    have c := hp j hj i u hu
    rw [addr_flat c0] at c
    rw [Nat.add_assoc]
    exact c


theorem cellsLLeaf : Tryz.prog.cellsOf 161 = 2 := by kernel_rfl
theorem cells9L : Tryz.prog.cellsOf 9 = 1 := by kernel_rfl

set_option maxRecDepth 100000 in
theorem leaf_of_trod {H : Type} {enc : TypeId × Value → H} {W : World} {fuel : Nat} {cs : List Value} {y : DataW H × List MemPlace} (h : DataW.trod enc Tryz.prog W 0 (fun _ => true) true fuel 161 cs = some y) :
    ∃ f : Le, cs = lcs f ∧ f.n.size ≤ maxLen ∧ f.v.size ≤ maxLen := by
  obtain ⟨y0, y1, n, _, hl, h0, h1⟩ := trod_struct2 Tryz.underlying161 h
  rw [cellsLLeaf] at hl
  match cs, hl with
  | [c0, c1], _ =>
    simp [cells9L] at h0 h1
    obtain ⟨s0, e0, _, b0⟩ := DataW.trod_string Tryz.underlying9 h0
    obtain ⟨s1, e1, _, b1⟩ := DataW.trod_string Tryz.underlying9 h1
    simp at e0 e1
    exact ⟨⟨s0, s1⟩, by rw [e0, e1]; rfl, b0, b1⟩

set_option maxRecDepth 100000 in
theorem open_leaves {H : Type} {enc : TypeId × Value → H} {W : World} {base : Nat} {v : Value} {d : DataW H} {p : List MemPlace} (hv : Value.okWide Tryz.prog W .any base 125 v) (h : DataW.Trod enc Tryz.prog W 0 (fun _ => true) true 125 v d p) :
    ∃ g o l, IsRowL W v g o l := by
  obtain ⟨a, len, cap, rfl⟩ := okWide_slice Tryz.underlying125 hv
  obtain ⟨fuel, hf⟩ := h
  rcases Deep.open_slice Tryz.underlying125 hf with ⟨hcs, _⟩ | ⟨a, len, cap, m, n, D, Pl, hcs, _, hlc, hcm, hm, _, hx⟩
  · simp [Value.cells] at hcs
    obtain ⟨rfl, rfl, rfl⟩ := hcs
    exact ⟨0, 0, [], none, 0, 0, rfl, by omega, fun _ => ⟨rfl, RS.nil W 0 0, fun f hf => absurd hf (by simp)⟩⟩
  · simp [Value.cells] at hcs
    obtain ⟨rfl, rfl, rfl⟩ := hcs
    have hx' : ∀ i, i < len → ∃ f : Le, (∀ j u, (lcs f)[j]? = some u → W.cell? (a.add (i * 2 + j)) = some u) ∧ f.n.size ≤ maxLen ∧ f.v.size ≤ maxLen := fun i hi => by
      obtain ⟨cs', h1, h2⟩ := hx i (by rw [hm]; split <;> omega)
      obtain ⟨f, rfl, b0, b1⟩ := leaf_of_trod h2
      rw [cellsLLeaf] at h1
      obtain ⟨_, _, hc⟩ := World.cells?_some h1
      refine ⟨f, fun j u hu => ?_, b0, b1⟩
      have hj : j < 2 := by have := (List.getElem?_eq_some_iff.1 hu).1; simpa [lcs] using this
      have := hc j hj
      rw [addr_add] at this
      rw [this, hu]
    obtain ⟨l, hl, hp⟩ := list_of len hx'
    refine ⟨a.block, a.off, l, some a, len, cap, rfl, by unfold maxLen at hcm; omega, fun hsm => ⟨hl, row_at (fun x => ⟨_, _, rfl⟩) hl cap (fun i h => (hp i h).1) hsm, fun f hf => ?_⟩⟩
    obtain ⟨j, hj, rfl⟩ := List.getElem_of_mem hf
    have := (hp j hj).2
    unfold maxLen at this
    exact this

end LV
end Go.Proofs.YthlgohplljcgfaaGreatDoor
/-
  A row of rows of leaves that a law is handed.
-/
namespace Go.Proofs.YthlgohplljcgfaaGreatDoor
open Go.ChangeShapes Go.WideShapes Go.ChangeAt Go.RowKit
set_option linter.unusedVariables false
set_option linter.unusedSimpArgs false
namespace LV

set_option maxRecDepth 100000 in
theorem open_leaves_in {H : Type} {enc : TypeId × Value → H} {W : World} {fuel : Nat} {v : Value} {x : DataW H × List MemPlace} (hf : DataW.trod enc Tryz.prog W 0 (fun _ => true) true fuel 125 [v] = some x) :
    ∃ g o l, IsRowL W v g o l := by
  rcases Deep.open_slice Tryz.underlying125 hf with ⟨hcs, _⟩ | ⟨a, len, cap, m, n, D, Pl, hcs, _, hlc, hcm, hm, _, hx⟩
  · simp at hcs
    subst hcs
    exact ⟨0, 0, [], none, 0, 0, rfl, by omega, fun _ => ⟨rfl, RS.nil W 0 0, fun f hf => absurd hf (by simp)⟩⟩
  · simp at hcs
    subst hcs
    have hx' : ∀ i, i < len → ∃ f : Le, (∀ j u, (lcs f)[j]? = some u → W.cell? (a.add (i * 2 + j)) = some u) ∧ f.n.size ≤ maxLen ∧ f.v.size ≤ maxLen := fun i hi => by
      obtain ⟨cs', h1, h2⟩ := hx i (by rw [hm]; split <;> omega)
      obtain ⟨f, rfl, b0, b1⟩ := leaf_of_trod h2
      rw [cellsLLeaf] at h1
      obtain ⟨_, _, hc⟩ := World.cells?_some h1
      refine ⟨f, fun j u hu => ?_, b0, b1⟩
      have hj : j < 2 := by have := (List.getElem?_eq_some_iff.1 hu).1; simpa [lcs] using this
      have := hc j hj
      rw [addr_add] at this
      rw [this, hu]
    obtain ⟨l, hl, hp⟩ := list_of len hx'
    refine ⟨a.block, a.off, l, some a, len, cap, rfl, by unfold maxLen at hcm; omega, fun hsm => ⟨hl, row_at (fun x => ⟨_, _, rfl⟩) hl cap (fun i h => (hp i h).1) hsm, fun f hf => ?_⟩⟩
    obtain ⟨j, hj, rfl⟩ := List.getElem_of_mem hf
    have := (hp j hj).2
    unfold maxLen at this
    exact this

theorem cellsLLeafS : Tryz.prog.cellsOf 125 = 1 := by kernel_rfl
set_option maxRecDepth 100000 in
theorem open_parts {H : Type} {enc : TypeId × Value → H} {W : World} {base : Nat} {v : Value} {d : DataW H} {p : List MemPlace} (hv : Value.okWide Tryz.prog W .any base 43 v) (h : DataW.Trod enc Tryz.prog W 0 (fun _ => true) true 43 v d p) :
    ∃ g o Q, IsRowP W v g o Q := by
  obtain ⟨a, len, cap, rfl⟩ := okWide_slice Tryz.underlying43 hv
  obtain ⟨fuel, hf⟩ := h
  rcases Deep.open_slice1 Tryz.underlying43 cellsLLeafS hf with ⟨hcs, _⟩ | ⟨a, len, cap, m, n, V, D, Pl, hcs, _, hlc, hcm, hm, _, hx⟩
  · simp [Value.cells] at hcs
    obtain ⟨rfl, rfl, rfl⟩ := hcs
    exact ⟨0, 0, [], none, 0, 0, rfl, by omega, fun _ => ⟨rfl, fun h => absurd h (by omega), fun j hj => absurd hj (by simp)⟩⟩
  · simp [Value.cells] at hcs
    obtain ⟨rfl, rfl, rfl⟩ := hcs
    have hx' : ∀ i, i < len → ∃ q : Value × Nat × Nat × List Le, W.cell? (a.add i) = some q.1 ∧ IsRowL W q.1 q.2.1 q.2.2.1 q.2.2.2 := fun i hi => by
      obtain ⟨h1, h2⟩ := hx i (by rw [hm]; split <;> omega)
      obtain ⟨g, o, l, h3⟩ := open_leaves_in h2
      exact ⟨(V i, g, o, l), h1, h3⟩
    obtain ⟨Q, hQ, hp⟩ := list_of len hx'
    refine ⟨a.block, a.off, Q, some a, len, cap, rfl, by unfold maxLen at hcm; omega, fun hsm => ⟨hQ, fun h0 => ?_, fun j hj => ⟨?_, (hp j hj).2⟩⟩⟩
    · have c0 := (hp 0 (by omega)).1
      rw [addr_zero] at c0
      have e := addr_flat c0 0
      rw [addr_zero] at e
      refine ⟨congrArg some e, ?_⟩
      rw [e] at c0
      exact lt_of_cell c0
    · have c0 := (hp 0 (by omega)).1
      rw [addr_zero] at c0
      have cj := (hp j hj).1
      rw [addr_flat c0] at cj
      exact cj
end LV

end Go.Proofs.YthlgohplljcgfaaGreatDoor
/-
  A change, and a row of changes, that a law is handed.
-/
namespace Go.Proofs.YthlgohplljcgfaaGreatDoor
open Go.ChangeShapes Go.WideShapes Go.ChangeAt Go.RowKit
set_option linter.unusedVariables false
set_option linter.unusedSimpArgs false
namespace UV

theorem addr_flat {w : World} {x : Addr} {u : Value} (h : w.cell? x = some u) (j : Nat) : x.add j = ⟨x.block, x.off + j, none⟩ := by
  have hs := World.cell?_spot h
  cases x
  simp at hs
  subst hs
  unfold Addr.add
  split <;> simp_all
theorem addr_zero (x : Addr) : x.add 0 = x := by unfold Addr.add; simp
theorem addr_add (x : Addr) (i j : Nat) : (x.add i).add j = x.add (i + j) := by
  unfold Addr.add
  split <;> split <;> simp_all <;> omega

/-- n records, each read -/
theorem list_of {α : Type} {p : Nat → α → Prop} : ∀ n : Nat, (∀ i, i < n → ∃ f, p i f) → ∃ l : List α, l.length = n ∧ ∀ i (h : i < l.length), p i l[i]
  | 0, _ => ⟨[], rfl, fun i h => absurd h (by simp)⟩
  | n + 1, h => by
    obtain ⟨l, hl, hp⟩ := list_of n (fun i hi => h i (by omega))
    obtain ⟨f, hf⟩ := h n (by omega)
    refine ⟨l ++ [f], by simp [hl], fun i hi => ?_⟩
    rcases Nat.lt_or_ge i l.length with h1 | h1
    · rw [List.getElem_append_left h1]; exact hp i h1
    · have : i = n := by simp at hi; omega
      subst this
      rw [List.getElem_append_right h1]
      simpa using hf

theorem row_at {α : Type} {k : Nat} {enc : α → List Value} {W : World} {a : Addr} {len : Nat} {l : List α} (hk0 : ∀ x, ∃ u r, enc x = u :: r) (hl : l.length = len) (cap : Nat)
    (hp : ∀ i (h : i < l.length), ∀ j u, (enc l[i])[j]? = some u → W.cell? (a.add (i * k + j)) = some u) (hsm : len ≤ 1100000) : RS k enc W (.slice (some a) len cap) a.block a.off l := by
  have hc0 : ∀ h0 : 0 < l.length, ∃ u, W.cell? a = some u := fun h0 => by
    obtain ⟨u, r, e⟩ := hk0 l[0]
    have c0 := hp 0 h0 0 u (by rw [e]; rfl)
    simp only [Nat.zero_mul, Nat.zero_add] at c0
    rw [addr_zero] at c0
    exact ⟨u, c0⟩
  refine ⟨some a, cap, by rw [hl], by omega, fun h0 => ?_, fun j hj i u hu => ?_⟩
  · obtain ⟨u, c0⟩ := hc0 h0
    have e := addr_flat c0 0
    rw [addr_zero] at e
    refine ⟨congrArg some e, ?_⟩
    rw [e] at c0
    exact lt_of_cell c0
  · obtain ⟨u0, c0⟩ := hc0 (by omega)
    have c := hp j hj i u hu
    rw [addr_flat c0] at c
    rw [Nat.add_assoc]
    exact c

theorem cellsLChange : Tryz.prog.cellsOf 127 = 3 := by kernel_rfl
theorem cells9u : Tryz.prog.cellsOf 9 = 1 := by kernel_rfl
theorem cells3u : Tryz.prog.cellsOf 3 = 1 := by kernel_rfl

set_option maxRecDepth 100000 in
theorem chg_of_trod {H : Type} {enc : TypeId × Value → H} {W : World} {fuel : Nat} {cs : List Value} {y : DataW H × List MemPlace} (h : DataW.trod enc Tryz.prog W 0 (fun _ => true) true fuel 127 cs = some y) :
    ∃ a : Ug, cs = ucs a ∧ a.n.size ≤ maxLen ∧ a.v.size ≤ maxLen := by
  obtain ⟨y0, y1, y2, n, _, hl, h0, h1, h2⟩ := Deep.trod_struct3 Tryz.underlying127 h
  rw [cellsLChange] at hl
  match cs, hl with
  | [c0, c1, c2], _ =>
    simp [cells9u, cells3u] at h0 h1 h2
    obtain ⟨i0, e0, _, _⟩ := DataW.trod_int Tryz.underlying3 h0
    obtain ⟨s1, e1, _, b1⟩ := DataW.trod_string Tryz.underlying9 h1
    obtain ⟨s2, e2, _, b2⟩ := DataW.trod_string Tryz.underlying9 h2
    simp at e0 e1 e2
    exact ⟨⟨i0, s1, s2⟩, by rw [e0, e1, e2]; rfl, b1, b2⟩

/-- no text of it passes what a text may have -/
def FitU (a : Ug) : Prop := a.n.size ≤ 9223372036854775807 ∧ a.v.size ≤ 9223372036854775807

set_option maxRecDepth 100000 in
theorem open_change {H : Type} {enc : TypeId × Value → H} {W : World} {base : Nat} {v : Value} {d : DataW H} {p : List MemPlace} (hv : Value.okWide Tryz.prog W .any base 127 v) (h : DataW.Trod enc Tryz.prog W 0 (fun _ => true) true 127 v d p) :
    ∃ a : Ug, v = .agg #[.int .i64 a.i, .string a.n, .string a.v] ∧ FitU a := by
  obtain ⟨cs, rfl, hsz⟩ := okWide_struct Tryz.underlying127 hv
  obtain ⟨fuel, hf⟩ := h
  obtain ⟨a, e, b1, b2⟩ := chg_of_trod hf
  obtain ⟨l⟩ := cs
  have e' : l = ucs a := by simpa [Value.cells] using e
  subst e'
  unfold maxLen at b1 b2
  exact ⟨a, rfl, b1, b2⟩

set_option maxRecDepth 100000 in
theorem open_changes {H : Type} {enc : TypeId × Value → H} {W : World} {base : Nat} {v : Value} {d : DataW H} {p : List MemPlace} (hv : Value.okWide Tryz.prog W .any base 44 v) (h : DataW.Trod enc Tryz.prog W 0 (fun _ => true) true 44 v d p) :
    ∃ g o l, IsRowU W v g o l := by
  obtain ⟨a, len, cap, rfl⟩ := okWide_slice Tryz.underlying44 hv
  obtain ⟨fuel, hf⟩ := h
  rcases Deep.open_slice Tryz.underlying44 hf with ⟨ucs, _⟩ | ⟨a, len, cap, m, n, D, Pl, ucs, _, hlc, hcm, hm, _, hx⟩
  · simp [Value.cells] at ucs
    obtain ⟨rfl, rfl, rfl⟩ := ucs
    exact ⟨0, 0, [], none, 0, 0, rfl, by omega, fun _ => ⟨rfl, RS.nil W 0 0, fun f hf => absurd hf (by simp)⟩⟩
  · simp [Value.cells] at ucs
    obtain ⟨rfl, rfl, rfl⟩ := ucs
    have hx' : ∀ i, i < len → ∃ z : Ug, (∀ j u, (ucs z)[j]? = some u → W.cell? (a.add (i * 3 + j)) = some u) ∧ z.n.size ≤ maxLen ∧ z.v.size ≤ maxLen := fun i hi => by
      obtain ⟨cs', h1, h2⟩ := hx i (by rw [hm]; split <;> omega)
      obtain ⟨z, rfl, b1, b2⟩ := chg_of_trod h2
      rw [cellsLChange] at h1
      obtain ⟨_, _, hc⟩ := World.cells?_some h1
      refine ⟨z, fun j u hu => ?_, b1, b2⟩
      have hj : j < 3 := by have := (List.getElem?_eq_some_iff.1 hu).1; simpa [ucs] using this
      have := hc j hj
      rw [addr_add] at this
      rw [this]
      exact hu
    obtain ⟨l, hl, hp⟩ := list_of len hx'
    refine ⟨a.block, a.off, l, some a, len, cap, rfl, by unfold maxLen at hcm; omega, fun hsm => ⟨hl, row_at (k := 3) (enc := ucs) (fun x => ⟨_, _, rfl⟩) hl cap (fun i h => (hp i h).1) hsm, fun f hf => ?_⟩⟩
    obtain ⟨j, hj, rfl⟩ := List.getElem_of_mem hf
    have := (hp j hj).2
    unfold maxLen at this
    exact this
end UV

end Go.Proofs.YthlgohplljcgfaaGreatDoor
