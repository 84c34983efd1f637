/-
  Texts laid together: Lst.
-/
import Derived.Test.YtaejeemjndmjcaaDoorPkS48
import Derived.Test.YtaejeemjndmjcaaDoorPkS49
import Derived.Test.YtaejeemjndmjcaaDoorPkS30
import Derived.Test.YtaejeemjndmjcaaDoorPkS37
import Derived.Lib.QuietBelow
/-
  The walk of the law FnStamps: it answers true of every code.
-/
namespace Go.Proofs.YtaejeemjndmjcaaDoor
open Go.RowKit Go.BigFrame Go.Sort
set_option linter.unusedVariables false
set_option linter.unusedSimpArgs false

/-- a seal and a stamp in their boxes -/
def LsB (w0 W : World) (ps : Nat) (X : Hd) (y : Int) (u1 u2 u3 : Value) (px : Nat) (a : Int) (v1 v2 v3 : Value) (g1 g2 g3 : Nat) (O S D : List ByteArray) : Prop := Below w0.heap.size w0 W ∧ SlB 30 W ps X y u1 u2 u3 ∧ SgM W px a v1 v2 v3 ∧ TS W v1 g1 O ∧ TS W v2 g2 S ∧ TS W v3 g3 D
theorem LsB.later {w0 W W' : World} {ps : Nat} {X : Hd} {y : Int} {u1 u2 u3 : Value} {px : Nat} {a : Int} {v1 v2 v3 : Value} {g1 g2 g3 : Nat} {O S D : List ByteArray} (h : LsB w0 W ps X y u1 u2 u3 px a v1 v2 v3 g1 g2 g3 O S D) (hb : Below W.heap.size W W') : LsB w0 W' ps X y u1 u2 u3 px a v1 v2 v3 g1 g2 g3 O S D := by
  obtain ⟨h1, h2, h3, h4, h5, h6⟩ := h
  exact ⟨h1.trans (hb.mono h1.size), h2.later hb, h3.later hb, h4.later hb, h5.later hb, h6.later hb⟩
/-- a row of numbers that a call owns -/
def OI (B : Nat) (w0 W : World) (v : Value) (l : List Nat) : Prop := W.ownsRow B 3 1 v l.length (iv l) ∧ Below B w0 W ∧ B ≤ W.heap.size
theorem OI.made (w : World) : OI w.heap.size w (w.alloc (.cells #[] 3)) (.slice (some ⟨w.heap.size, 0, none⟩) 0 0) [] := ⟨World.ownsRow_made w #[] 0 (Nat.le_refl _) (by decide) (by simp), (Below.refl _ _).alloc (Nat.le_refl _) _, by simp⟩
theorem OI.grow {B : Nat} {w0 W W' : World} {v v' : Value} {n : Nat} (h : OI B w0 W v (List.range n)) (hr : W'.ownsRow B 3 1 v' (n + 1) (iv (List.range n ++ [n]))) (hg : (W.alloc (.cells #[.int .i64 (n : Int)] 3)).grownBy W' v.ownBlock) : OI B w0 W' v' (List.range (n + 1)) := by
  obtain ⟨h1, h2, h3⟩ := h
  have ha : Below B w0 (W.alloc (.cells #[.int .i64 (n : Int)] 3)) := h2.alloc h3 _
  refine ⟨?_, ha.grown hg (by simp; omega) (fun k hk => (h1.lt k hk).1), Nat.le_trans (by simp; omega : B ≤ (W.alloc (.cells #[.int .i64 (n : Int)] 3)).heap.size) hg.size⟩
  rw [List.length_range, List.range_succ]
  exact hr

def LsnR (n0 : Nat) (wb : World) (v e : Value) (wr : World) : Prop := ∃ m N : Nat, m ≤ 4 ∧ e = .int .i64 ((m : Int) + 1) ∧ Hid (OI wb.heap.size wb wr v (List.range N) ∧ N = n0 + m)
def LsnO (wb : World) (v h : Value) (wr : World) : Prop := ∃ j : Nat, j ≤ 3 ∧ h = .int .i64 (j : Int) ∧ Hid (OI wb.heap.size wb wr v (List.range (4 + 4 * j)))
theorem stamp_facts (s : ByteArray) (X : Hd) (hs : s.size ≤ 100) (hk : HV.okH X = true) : ∃ (a : Nat) (O S D : List ByteArray), thOk s (poolL s) X = true ∧ thA s (poolL s) X = (a : Int) ∧ thO s (poolL s) X = O ∧ thS s (poolL s) X = S ∧ thD s (poolL s) X = D ∧ stR (rootA (poolL s)) X (a : Int) O S D = true := by
  obtain ⟨⟨h1, h2⟩, ⟨h3, h4⟩, _⟩ := HV.okH_iff.1 hk
  obtain ⟨ep, hep⟩ : ∃ ep : Nat, stampP X.h X.e = (ep : Int) ∧ ep ≤ 15 := ⟨(4 * (X.h + 1) + X.e - 1).toNat, by unfold stampP; split <;> omega, by omega⟩
  have hz : (stampT X).size ≤ 200 := by have := stampT_le X; omega
  obtain ⟨hf, hfb, _, hR⟩ := signed_facts s (stampT X) ep hs hz hep.2
  refine ⟨ep, _, _, _, ?_, ?_, rfl, rfl, rfl, ?_⟩
  · unfold thOk
    rw [hk, hep.1, hf]
    rfl
  · unfold thA sgAt
    rw [hk, hep.1, hf]
    rfl
  · unfold thO thS thD sgO sgS sgD
    rw [hk]
    simp only [if_true, hep.1, hf]
    unfold stR okS
    rw [hk, hep.1, decide_eq_true rfl, Int.toNat_natCast, hfb, decide_eq_true hz, hR]
    simp

set_option maxRecDepth 100000 in
set_option maxHeartbeats 1000000 in
theorem stampsLaw_any (ao : Option Addr) (len cap : Nat) (w : World) (hlen : len ≤ 1048576) (hc : Code w.heap.size w (.slice ao len cap)) (hK : TabK w) (hF : TabF w) :
    Calls Tryd.prog 4 #[.slice ao len cap] w fun e w' => e = .returned (.bool true) ∧ Below w.heap.size w w' := by
  have HC : Hid (∀ W, Below w.heap.size w W → Code W.heap.size W (.slice ao len cap)) := fun W hW => code_later hc hW
  have HT : Hid (∀ W, Below w.heap.size w W → Tb W) := fun W hW => Tb.later ⟨hK, hF⟩ hW
  clear hc hK hF
  go_enter Tryd.func4, Tryd.ntmps4
  go_wp2_with fail
  refine (big_no ao len cap _ hlen).mono ?_
  rintro e w1 ⟨rfl, rfl⟩
  go_wp2_with fail
  refine (DrawSeal_any _ _ (HC.out _ (Below.refl _ _))).mono ?_
  rintro e w2 ⟨k, X, vS, rfl, ⟨hk3, hok, hxh⟩, hsi, hb2⟩
  obtain ⟨u1, u2, u3, h1, h2, h3, rfl, ⟨t1, t2, t3⟩, _, _⟩ := hsi.out
  obtain ⟨z1, c1, rfl, _⟩ := id t1
  obtain ⟨z2, c2, rfl, _⟩ := id t2
  obtain ⟨z3, c3, rfl, _⟩ := id t3
  clear hsi t1 t2 t3
  generalize sgAt (seedB k) (HV.hashH X) (poolL (seedB k)) (sealP X.e) = y at *
  generalize (sgO (seedB k) (HV.hashH X) (poolL (seedB k)) (sealP X.e)).length = n1 at *
  generalize (sgS (seedB k) (HV.hashH X) (poolL (seedB k)) (sealP X.e)).length = n2 at *
  generalize (sgD (seedB k) (HV.hashH X) (poolL (seedB k)) (sealP X.e)).length = n3 at *
  generalize rootA (poolL (seedB k)) = R0 at *
  have HS2 : Hid (SlB 30 (w2.alloc (.cells #[.int .i64 X.h, .int .i64 X.e, .string X.r, .string X.p, .int .i64 y, .slice z1 n1 c1, .slice z2 n2 c2, .slice z3 n3 c3] 30)) w2.heap.size X y (.slice z1 n1 c1) (.slice z2 n2 c2) (.slice z3 n3 c3) ∧ Below w1.heap.size w1 (w2.alloc (.cells #[.int .i64 X.h, .int .i64 X.e, .string X.r, .string X.p, .int .i64 y, .slice z1 n1 c1, .slice z2 n2 c2, .slice z3 n3 c3] 30))) := ⟨SlB.new _ w2 X y _ _ _, hb2.alloc hb2.size _⟩
  clear hb2 hxh hk3
  have hone : (⟨#[111, 110, 101]⟩ : ByteArray).size ≤ 100 := by decide
  go_wp2_with fail
  refine (sPoolOf_any _ _ (by omega)).mono ?_
  rintro e w3 ⟨vp, rfl, hos⟩
  obtain ⟨qp, hq⟩ := hos.ss (by rw [poolL_len]; omega)
  obtain ⟨xp, cp, rfl⟩ : ∃ xp cp, vp = .slice xp 16 cp := by
    obtain ⟨x', c', hv, _⟩ := id hq
    exact ⟨x', c', by rw [hv, poolL_len]⟩
  have HS3 : Hid (SlB 30 w3 w2.heap.size X y (.slice z1 n1 c1) (.slice z2 n2 c2) (.slice z3 n3 c3) ∧ Below w1.heap.size w1 w3) := ⟨HS2.out.1.later hos.2.1, HS2.out.2.trans (hos.2.1.mono HS2.out.2.size)⟩
  have HQ : Hid (SS w3 (.slice xp 16 cp) qp 0 (poolL (⟨#[111, 110, 101]⟩ : ByteArray))) := hq
  have hSH := StampHead_any (⟨#[111, 110, 101]⟩ : ByteArray) xp 16 cp qp 0 (poolL (⟨#[111, 110, 101]⟩ : ByteArray)) X w3 hone (poolL_len _) (by omega) (fun j => Nat.le_trans (pool_le _ 0 j) (by omega)) hq (HT.out _ HS3.out.2)
  obtain ⟨a, O, S, D, f1, f2, f3, f4, f5, f6⟩ := stamp_facts (⟨#[111, 110, 101]⟩ : ByteArray) X hone hok
  unfold ThP at hSH
  rw [f1, f2, f3, f4, f5] at hSH
  have HST : Hid (stR (rootA (poolL (⟨#[111, 110, 101]⟩ : ByteArray))) X (a : Int) O S D = true) := f6
  clear hos hq HS2 f1 f2 f3 f4 f5 f6 hok
  generalize poolL (⟨#[111, 110, 101]⟩ : ByteArray) = PL at *
  have y0 := HS3.out.1.c0
  have y1 := HS3.out.1.c1
  have y2 := HS3.out.1.c2
  have y3 := HS3.out.1.c3
  go_wp2_with fail
  refine hSH.mono ?_
  rintro e w4 ⟨vx, rfl, hsi, hb4⟩
  obtain ⟨v1, v2, v3, g1, g2, g3, rfl, ⟨t1, t2, t3⟩, _, _⟩ := hsi
  obtain ⟨p1, d1, rfl, _⟩ := id t1
  obtain ⟨p2, d2, rfl, _⟩ := id t2
  obtain ⟨p3, d3, rfl, _⟩ := id t3
  obtain ⟨m1, hm1⟩ : ∃ m, O.length = m := ⟨_, rfl⟩
  obtain ⟨m2, hm2⟩ : ∃ m, S.length = m := ⟨_, rfl⟩
  obtain ⟨m3, hm3⟩ : ∃ m, D.length = m := ⟨_, rfl⟩
  rw [hm1] at t1 ⊢
  rw [hm2] at t2 ⊢
  rw [hm3] at t3 ⊢
  have hba : Below w4.heap.size w4 (w4.alloc (.cells #[.int .i64 (a : Int), .slice p1 m1 d1, .slice p2 m2 d2, .slice p3 m3 d3] 28)) := (Below.refl _ _).alloc (Nat.le_refl _) _
  have HB4 : Hid (LsB w1 (w4.alloc (.cells #[.int .i64 (a : Int), .slice p1 m1 d1, .slice p2 m2 d2, .slice p3 m3 d3] 28)) w2.heap.size X y (.slice z1 n1 c1) (.slice z2 n2 c2) (.slice z3 n3 c3) w4.heap.size (a : Int) (.slice p1 m1 d1) (.slice p2 m2 d2) (.slice p3 m3 d3) g1 g2 g3 O S D) := by
    have hb := HS3.out.2.trans (hb4.mono HS3.out.2.size)
    exact ⟨hb.trans (hba.mono hb.size), (HS3.out.1.later hb4).later hba, SgM.new w4 (a : Int) _ _ _, t1.later hba, t2.later hba, t3.later hba⟩
  have hPR := sPoolRoot_any (.slice xp 16 cp) qp 0 PL (w4.alloc (.cells #[.int .i64 (a : Int), .slice p1 m1 d1, .slice p2 m2 d2, .slice p3 m3 d3] 28)) (HQ.out.below (hb4.trans (hba.mono hb4.size)) HQ.out.lt)
  clear hSH hb4 t1 t2 t3 hba HS3 HQ hm1 hm2 hm3 y0 y1 y2 y3
  generalize rootA PL = R at *
  go_wp2_with fail
  refine hPR.mono ?_
  rintro e w5 ⟨rfl, hb5⟩
  have HB5 : Hid (LsB w1 w5 w2.heap.size X y (.slice z1 n1 c1) (.slice z2 n2 c2) (.slice z3 n3 c3) w4.heap.size (a : Int) (.slice p1 m1 d1) (.slice p2 m2 d2) (.slice p3 m3 d3) g1 g2 g3 O S D) := HB4.out.later hb5
  clear hPR hb5 HB4
  go_wp2
  have HST1 : Hid (LsnR 0 w5 (.slice (some ⟨w5.heap.size, 0, none⟩) 0 0) (.int .i64 1) (w5.alloc (.cells #[] 3))) := ⟨0, 0, by omega, rfl, OI.made w5, rfl⟩
  go_loopw [9, 10] (fun v e wr => LsnR 0 w5 v e wr) (fun _ e _ => 5 - (intOf e).toNat)
  case atStart => exact HST1.out
  case round =>
    obtain ⟨m, N, hm, rfl, HI⟩ := hrel
    clear HST1
    by_cases hlt : m < 4
    · skip
      have hNm := HI.out.2
      have hsp : sealP ((m : Int) + 1) = (N : Int) := by unfold sealP; rw [if_pos ⟨by omega, by omega⟩]; omega
      have hSA := fun W => SealAt_any ((m : Int) + 1) W
      rw [hsp] at hSA
      have hni : N ∉ List.range N := by simp
      have hIN := in_no _ _ (List.range N) N _ HI.out.1.1 (by simp; omega) hni
      have hNl : N ≤ 20 := by omega
      have HNX : Hid (∀ v' w', OI w5.heap.size w5 w' v' (List.range (N + 1)) → LsnR (0) w5 v' (.int .i64 ((m : Int) + 1 + 1)) w') := fun v' w' h => ⟨m + 1, N + 1, by omega, by go_num, h, by omega⟩
      have HO : Hid (OI w5.heap.size w5 wr u9 (List.range N)) := HI.out.1
      clear hNm hni hsp HI
      go_wp2_with fail
      refine (hSA _).mono ?_
      rintro e w6 ⟨rfl, rfl⟩
      go_wp2_with fail
      refine hIN.mono ?_
      rintro e w7 ⟨rfl, rfl⟩
      go_wp2_with fail
      refine (hSA _).mono ?_
      rintro e w8 ⟨rfl, rfl⟩
      clear hSA hIN
      go_wp2_with (at_builtin; refine wp_appJ rfl _ _ rfl w5.heap.size _ (List.range N) rfl (World.ownsRow.alloc HO.out.1 _) ?c0 ⟨w8.heap.size, 0, none⟩ N rfl ?c1 ?c2 ?_)
      case c0 => have := HO.out.2.2; simp; omega
      case c1 => exact one_int _ _ _
      case c2 => simp; omega
      intro v' w9 hr9 hg9
      have HN := hide (HNX.out v' w9 (HO.out.grow hr9 hg9))
      clear HNX HO hr9 hg9
      go_wp2
      go_roundw
      case rel => exact HN.out
      case measure => simp [intOf]; omega
    · have hN4 : N = 4 := by have := HI.out.2; omega
      subst hN4
      have he5 : (m : Int) + 1 = 5 := by omega
      simp only [he5]
      clear he5
      have HST2 : Hid (LsnO w5 u9 (.int .i64 0) wr) := ⟨0, by omega, rfl, HI.out.1⟩
      clear HI
      go_wp2
      go_loopw [9, 11] (fun v h wr => LsnO w5 v h wr) (fun _ h _ => 3 - (intOf h).toNat)
      case atStart => exact HST2.out
      case round =>
        obtain ⟨j, hj, rfl, HI2⟩ := hrel
        clear HST2
        by_cases hj3 : j < 3
        · have HST3 : Hid (LsnR (4 + 4 * j) w5 u9 (.int .i64 1) wr) := ⟨0, 4 + 4 * j, by omega, rfl, HI2.out, rfl⟩
          clear HI2
          have hjd : decide ((j : Int) < 3) = true := decide_eq_true (by omega)
          go_wp2
          clear hjd
          go_loopw [9, 12] (fun v e wr => LsnR (4 + 4 * j) w5 v e wr) (fun _ e _ => 5 - (intOf e).toNat)
          case atStart => exact HST3.out
          case round =>
            obtain ⟨m, N, hm, rfl, HI⟩ := hrel
            clear HST3
            by_cases hlt : m < 4
            · skip
              have hNm := HI.out.2
              have hsp : stampP (j : Int) ((m : Int) + 1) = (N : Int) := by unfold stampP; rw [if_pos ⟨⟨by omega, by omega⟩, by omega, by omega⟩]; omega
              have hSA := fun W => StampAt_any (j : Int) ((m : Int) + 1) W
              rw [hsp] at hSA
              have hni : N ∉ List.range N := by simp
              have hIN := in_no _ _ (List.range N) N _ HI.out.1.1 (by simp; omega) hni
              have hNl : N ≤ 20 := by omega
              have HNX : Hid (∀ v' w', OI w5.heap.size w5 w' v' (List.range (N + 1)) → LsnR (4 + 4 * j) w5 v' (.int .i64 ((m : Int) + 1 + 1)) w') := fun v' w' h => ⟨m + 1, N + 1, by omega, by go_num, h, by omega⟩
              have HO : Hid (OI w5.heap.size w5 wr u9 (List.range N)) := HI.out.1
              clear hNm hni hsp HI
              go_wp2_with fail
              refine (hSA _).mono ?_
              rintro e w6 ⟨rfl, rfl⟩
              go_wp2_with fail
              refine hIN.mono ?_
              rintro e w7 ⟨rfl, rfl⟩
              go_wp2_with fail
              refine (hSA _).mono ?_
              rintro e w8 ⟨rfl, rfl⟩
              clear hSA hIN
              go_wp2_with (at_builtin; refine wp_appJ rfl _ _ rfl w5.heap.size _ (List.range N) rfl (World.ownsRow.alloc HO.out.1 _) ?c0 ⟨w8.heap.size, 0, none⟩ N rfl ?c1 ?c2 ?_)
              case c0 => have := HO.out.2.2; simp; omega
              case c1 => exact one_int _ _ _
              case c2 => simp; omega
              intro v' w9 hr9 hg9
              have HN := hide (HNX.out v' w9 (HO.out.grow hr9 hg9))
              clear HNX HO hr9 hg9
              go_wp2
              go_roundw
              case rel => exact HN.out
              case measure => simp [intOf]; omega
            · have hm4 : m = 4 := by omega
              subst hm4
              have HN2 : Hid (LsnO w5 u9 (.int .i64 ((j : Int) + 1)) wr) := by
                have h := HI.out.1
                have hN : N = 4 + 4 * (j + 1) := by have := HI.out.2; omega
                rw [hN] at h
                exact ⟨j + 1, by omega, by go_num, h⟩
              clear HI
              go_wp2
              go_roundw
              case rel => exact HN2.out
              case measure => simp [intOf]; omega
        · have hj4 : j = 3 := by omega
          subst hj4
          have HW : Hid (Below w5.heap.size w5 wr ∧ wr.ownsRow w5.heap.size 3 1 u9 16 (iv (List.range 16))) := by
            obtain ⟨q1, q2, q3⟩ := HI2.out
            rw [List.length_range] at q1
            exact ⟨q2, q1⟩
          clear HI2
          go_wp2_with fail
          have hb1r : Below w1.heap.size w1 wr := HB5.out.1.trans (HW.out.1.mono HB5.out.1.size)
          refine (DrawStampOk_any _ _ (HC.out _ hb1r)).mono ?_
          rintro e w10 ⟨R2, x2, a2, b1, b2, b3, h4, h5, h6, oo, ss, dd, rfl, ⟨s4, s5, s6⟩, hb10⟩
          obtain ⟨z4, e4, rfl, k4⟩ := id s4
          obtain ⟨z5, e5, rfl, k5⟩ := id s5
          obtain ⟨z6, e6, rfl, k6⟩ := id s6
          clear k4 k5 k6
          have HB10 : Hid (LsB w1 w10 w2.heap.size X y (.slice z1 n1 c1) (.slice z2 n2 c2) (.slice z3 n3 c3) w4.heap.size (a : Int) (.slice p1 m1 d1) (.slice p2 m2 d2) (.slice p3 m3 d3) g1 g2 g3 O S D) := (HB5.out.later HW.out.1).later hb10
          have HS10 : Hid (SS w10 (.slice z4 oo.length e4) h4 0 oo ∧ SS w10 (.slice z5 ss.length e5) h5 0 ss ∧ SS w10 (.slice z6 dd.length e6) h6 0 dd) := ⟨s4, s5, s6⟩
          obtain ⟨g9, cap9, rfl, _⟩ := World.ownsRow.form HW.out.2 (by omega)
          clear HB5 HW hb1r hb10 s4 s5 s6 HC
          generalize oo.length = l4 at *
          generalize ss.length = l5 at *
          generalize dd.length = l6 at *
          have hbb : Below w10.heap.size w10 ((w10.alloc (.cells #[.int .i64 x2.h, .int .i64 x2.e, .string x2.r, .string x2.p] 25)).alloc (.cells #[.int .i64 a2, .slice z4 l4 e4, .slice z5 l5 e5, .slice z6 l6 e6] 28)) := ((Below.refl _ _).alloc (Nat.le_refl _) _).alloc (by simp) _
          have HL11 := hide (HB10.out.later hbb)
          have HH11 : Hid (BH ((w10.alloc (.cells #[.int .i64 x2.h, .int .i64 x2.e, .string x2.r, .string x2.p] 25)).alloc (.cells #[.int .i64 a2, .slice z4 l4 e4, .slice z5 l5 e5, .slice z6 l6 e6] 28)) w10.heap.size x2 ∧ SgM ((w10.alloc (.cells #[.int .i64 x2.h, .int .i64 x2.e, .string x2.r, .string x2.p] 25)).alloc (.cells #[.int .i64 a2, .slice z4 l4 e4, .slice z5 l5 e5, .slice z6 l6 e6] 28)) (w10.heap.size + 1) a2 (.slice z4 l4 e4) (.slice z5 l5 e5) (.slice z6 l6 e6)) := ⟨(BH.new w10 x2).later ((Below.refl _ _).alloc (Nat.le_refl _) _), alloc_fst _ _ (by simp)⟩
          have HS11 : Hid (SS ((w10.alloc (.cells #[.int .i64 x2.h, .int .i64 x2.e, .string x2.r, .string x2.p] 25)).alloc (.cells #[.int .i64 a2, .slice z4 l4 e4, .slice z5 l5 e5, .slice z6 l6 e6] 28)) (.slice z4 l4 e4) h4 0 oo ∧ SS ((w10.alloc (.cells #[.int .i64 x2.h, .int .i64 x2.e, .string x2.r, .string x2.p] 25)).alloc (.cells #[.int .i64 a2, .slice z4 l4 e4, .slice z5 l5 e5, .slice z6 l6 e6] 28)) (.slice z5 l5 e5) h5 0 ss ∧ SS ((w10.alloc (.cells #[.int .i64 x2.h, .int .i64 x2.e, .string x2.r, .string x2.p] 25)).alloc (.cells #[.int .i64 a2, .slice z4 l4 e4, .slice z5 l5 e5, .slice z6 l6 e6] 28)) (.slice z6 l6 e6) h6 0 dd) := ⟨HS10.out.1.below hbb HS10.out.1.lt, HS10.out.2.1.below hbb HS10.out.2.1.lt, HS10.out.2.2.below hbb HS10.out.2.2.lt⟩
          clear HB10 HS10 hbb
          go_wp2
          generalize ((w10.alloc (.cells #[.int .i64 x2.h, .int .i64 x2.e, .string x2.r, .string x2.p] 25)).alloc (.cells #[.int .i64 a2, .slice z4 l4 e4, .slice z5 l5 e5, .slice z6 l6 e6] 28)) = W11 at *
          have hb1 := HL11.out.1
          have C1 : Hid (∀ W, Below W11.heap.size W11 W → Calls Tryd.prog 25 #[.string R, .agg #[.int .i64 X.h, .int .i64 X.e, .string X.r, .string X.p], .agg #[.int .i64 (a : Int), .slice p1 m1 d1, .slice p2 m2 d2, .slice p3 m3 d3]] W fun e w' => e = .returned (.bool true) ∧ Below W.heap.size W w') := fun W hW => by
            obtain ⟨_, _, _, t1, t2, t3⟩ := HL11.out.later hW
            have h := StampOk_any R X (a : Int) _ _ _ g1 0 g2 0 g3 0 O S D W t1.ss t2.ss t3.ss (HT.out W (hb1.trans (hW.mono hb1.size)))
            rw [HST.out] at h
            exact h
          obtain ⟨bb, hbb⟩ : ∃ b, stR R2 x2 a2 oo ss dd = b := ⟨_, rfl⟩
          have C2 : Hid (∀ W, Below W11.heap.size W11 W → Calls Tryd.prog 25 #[.string R2, .agg #[.int .i64 x2.h, .int .i64 x2.e, .string x2.r, .string x2.p], .agg #[.int .i64 a2, .slice z4 l4 e4, .slice z5 l5 e5, .slice z6 l6 e6]] W fun e w' => e = .returned (.bool bb) ∧ Below W.heap.size W w') := fun W hW => by
            have h := StampOk_any R2 x2 a2 _ _ _ h4 0 h5 0 h6 0 oo ss dd W (HS11.out.1.below hW HS11.out.1.lt) (HS11.out.2.1.below hW HS11.out.2.1.lt) (HS11.out.2.2.below hW HS11.out.2.2.lt) (HT.out W (hb1.trans (hW.mono hb1.size)))
            rw [hbb] at h
            exact h
          have C3 : Hid (∀ W, Below W11.heap.size W11 W → Calls Tryd.prog 26 #[.string R2, .agg #[.int .i64 x2.h, .int .i64 x2.e, .string x2.r, .string x2.p], .agg #[.int .i64 a2, .slice z4 l4 e4, .slice z5 l5 e5, .slice z6 l6 e6]] W fun e w' => e = .returned (.bool bb) ∧ Below W.heap.size W w') := fun W hW => by
            have h := sStampOk_any R2 x2 a2 _ _ _ h4 0 h5 0 h6 0 oo ss dd W (HS11.out.1.below hW HS11.out.1.lt) (HS11.out.2.1.below hW HS11.out.2.1.lt) (HS11.out.2.2.below hW HS11.out.2.2.lt)
            rw [hbb] at h
            exact h
          have HB1 : Hid (Below w1.heap.size w1 W11) := hb1
          clear hbb HST HS11 HT hb1
          have kq0 := cell_regrown (w := W11) HL11.out.2.1.c0
          have kq1 := cell_regrown (w := W11) HL11.out.2.1.c1
          have kq2 := cell_regrown (w := W11) HL11.out.2.1.c2
          have kq3 := cell_regrown (w := W11) HL11.out.2.1.c3
          have kq4 := cell_regrown (w := W11) HL11.out.2.1.c4
          have kq5 := cell_regrown (w := W11) HL11.out.2.1.c5
          have kq6 := cell_regrown (w := W11) HL11.out.2.1.c6
          have kq7 := cell_regrown (w := W11) HL11.out.2.1.c7
          have kq8 := cell_regrown (w := W11) HL11.out.2.2.1.c0
          have kq9 := cell_regrown (w := W11) HL11.out.2.2.1.c1
          have kq10 := cell_regrown (w := W11) HL11.out.2.2.1.c2
          have kq11 := cell_regrown (w := W11) HL11.out.2.2.1.c3
          have kq12 := cell_regrown (w := W11) HH11.out.1.c0
          have kq13 := cell_regrown (w := W11) HH11.out.1.c1
          have kq14 := cell_regrown (w := W11) HH11.out.1.c2
          have kq15 := cell_regrown (w := W11) HH11.out.1.c3
          have kq16 := cell_regrown (w := W11) HH11.out.2.c0
          have kq17 := cell_regrown (w := W11) HH11.out.2.c1
          have kq18 := cell_regrown (w := W11) HH11.out.2.c2
          have kq19 := cell_regrown (w := W11) HH11.out.2.c3
          have cq0 := fun d os => Calls.regrown_of (w := W11) (d := d) (os := os) (C1.out _ (below_regrown W11 d os))
          have cq1 := fun d os => Calls.regrown_of (w := W11) (d := d) (os := os) (C2.out _ (below_regrown W11 d os))
          have cq2 := fun d os => Calls.regrown_of (w := W11) (d := d) (os := os) (C3.out _ (below_regrown W11 d os))
          refine wp_region_quiet_below (by kernel_rfl) (by kernel_rfl) ?_
          repeat (go_big_quiet_step (first | (with_reducible exact cq0 _ _) | (with_reducible exact cq1 _ _) | (with_reducible exact cq2 _ _)))
          refine wpQuiet_nil ?_
          rintro _ ⟨⟨dq, osq⟩, rfl⟩
          have hbe := HB1.out.trans ((below_regrown W11 dq osq).mono HB1.out.size)
          generalize grow (redrawn W11 dq) osq = w12 at *
          clear kq0 kq1 kq2 kq3 kq4 kq5 kq6 kq7 kq8 kq9 kq10 kq11 kq12 kq13 kq14 kq15 kq16 kq17 kq18 kq19 cq0 cq1 cq2 C1 C2 C3 HL11 HH11 HB1
          go_wp2
          go_ret
          exact ⟨rfl, hbe⟩

end Go.Proofs.YtaejeemjndmjcaaDoor
