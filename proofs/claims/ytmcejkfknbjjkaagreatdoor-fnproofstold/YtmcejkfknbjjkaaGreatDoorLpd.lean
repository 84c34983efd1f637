/-
  The walk of the law FnProofsTold: it answers true of every code.
-/
import Derived.Test.YtmcejkfknbjjkaaGreatDoorTkc
import Derived.Test.YtmcejkfknbjjkaaGreatDoorPkO
import Derived.Test.YtmcejkfknbjjkaaGreatDoorPkS
import Derived.Test.YtmcejkfknbjjkaaGreatDoorPkR
import Derived.Test.YtmcejkfknbjjkaaGreatDoorPkN
import Derived.Test.YtmcejkfknbjjkaaGreatDoorPkL
namespace Go.Proofs.YtmcejkfknbjjkaaGreatDoor
open Go.RowKit Go.BigFrame Go.Sort
set_option linter.unusedVariables false
set_option linter.unusedSimpArgs false

/-- a proof in its box, and its rows -/
def PfB (gp : Nat) (vb vs : Value) (gb gs : Nat) (B : List Le) (S : List ByteArray) (W : World) : Prop := PfM W gp vb vs ∧ RS 2 lcs W vb gb 0 B ∧ SS W vs gs 0 S
theorem PfB.later {gp gb gs : Nat} {vb vs : Value} {B : List Le} {S : List ByteArray} {W W' : World} (h : PfB gp vb vs gb gs B S W) (hb : Below W.heap.size W W') : PfB gp vb vs gb gs B S W' := ⟨h.1.later hb, h.2.1.later hb, h.2.2.below hb h.2.2.lt⟩
theorem below_bx (W : World) (R : Array Value) : Below W.heap.size W ((W.alloc (.cells #[.slice none 0 0, .slice none 0 0] 43)).setRow W.heap.size R) := below_setRow ((Below.refl _ _).alloc (Nat.le_refl _) _) (Nat.le_refl _)
theorem pf_ann : pfOk ⟨#[97, 110, 110]⟩ [] [] 16 = true := by
  have h := (nameL_ok ⟨#[97, 110, 110]⟩ (by simp [nameL])).1
  have h2 : LV.leavesB [] = true := leaves_none
  have h3 : wideB [] 16 = true := by decide
  simp [pfOk, h, h2, h3]

set_option maxRecDepth 100000 in
set_option maxHeartbeats 4000000 in
theorem proofsToldLaw_any (a0 : Option Addr) (len0 cap0 : Nat) (w : World) (hl0 : len0 ≤ 1048576) (hc : Code w.heap.size w (.slice a0 len0 cap0)) (hK : TabK w) (hF : TabF w) :
    Calls Tryz.prog 4 #[.slice a0 len0 cap0] w fun e w' => e = .returned (.bool true) ∧ Below w.heap.size w w' := by
  have HC : Hid (∀ W, Below w.heap.size w W → Code W.heap.size W (.slice a0 len0 cap0)) := fun W hW => code_laterR hc hW
  have HT : Hid (∀ W, Below w.heap.size w W → Tb W) := fun W hW => Tb.later ⟨hK, hF⟩ hW
  clear hK hF hc
  go_enter Tryz.func4, Tryz.ntmps4
  go_wp2_with fail
  refine (big_no a0 len0 cap0 _ hl0).mono ?_
  rintro e w0 ⟨rfl, rfl⟩
  have HD1 := DrawProofOk_any w0 _ (HC.out _ (Below.refl _ _))
  go_wp2_with fail
  refine HD1.mono ?_
  clear HD1
  rintro e w1 ⟨nm, vb, vs, gb, gs, B, S, x, rfl, hpf, hrb, hss, hb1⟩
  obtain ⟨ab, nb, cb, rfl⟩ : ∃ a n c, vb = .slice a n c := by obtain ⟨a, c, e⟩ := hrb.shape; exact ⟨a, _, c, e⟩
  obtain ⟨aS, nS, cS, rfl⟩ : ∃ a n c, vs = .slice a n c := by obtain ⟨a, c, e, _⟩ := hss; exact ⟨a, _, c, e⟩
  have hpn := PfM.new w1 (.slice none 0 0) (.slice none 0 0)
  go_wp2_with (refine wp_storePf rfl _ _ rfl w1.heap.size _ _ (.slice ab nb cb) (.slice aS nS cS) hpn rfl rfl rfl rfl ?_; intro hfin)
  have hbx := below_bx w1 #[.slice ab nb cb, .slice aS nS cS]
  have H2 : Hid (Below w0.heap.size w0 ((w1.alloc (.cells #[.slice none 0 0, .slice none 0 0] 43)).setRow w1.heap.size #[.slice ab nb cb, .slice aS nS cS]) ∧ PfB w1.heap.size (.slice ab nb cb) (.slice aS nS cS) gb gs B S ((w1.alloc (.cells #[.slice none 0 0, .slice none 0 0] 43)).setRow w1.heap.size #[.slice ab nb cb, .slice aS nS cS])) := ⟨hb1.trans (hbx.mono hb1.size), hfin, hrb.later hbx, hss.below hbx hss.lt⟩
  obtain ⟨gp, hgp⟩ : ∃ gp, w1.heap.size = gp := ⟨_, rfl⟩
  rw [hgp] at H2 ⊢
  clear hpn hfin hbx hrb hss hb1 hgp
  generalize (w1.alloc (.cells #[.slice none 0 0, .slice none 0 0] 43)).setRow gp #[.slice ab nb cb, .slice aS nS cS] = w2 at H2 ⊢
  refine (DrawReadProof_any w2 _ (HC.out _ H2.out.1)).mono ?_
  rintro e w3 ⟨t, y, rfl, ht, hb3⟩
  have H3 : Hid (Below w0.heap.size w0 w3 ∧ PfB gp (.slice ab nb cb) (.slice aS nS cS) gb gs B S w3) := ⟨H2.out.1.trans (hb3.mono H2.out.1.size), H2.out.2.later hb3⟩
  clear H2 hb3
  go_wp2_with fail
  refine (ReadProof_any t y w3 ht).mono ?_
  rintro e w4 ⟨xa, ya, xA, yA, ga, gA, rfl, hra, hrA, _, _, _, hb4⟩
  generalize hRL : rpL t y = RL at *
  generalize hRS : rpS t y = RR at *
  generalize hRO : rpOk t y = RO at *
  obtain ⟨na, hna⟩ : ∃ n, RL.length = n := ⟨_, rfl⟩
  obtain ⟨nA, hnA⟩ : ∃ n, RR.length = n := ⟨_, rfl⟩
  rw [hna] at hra ⊢
  rw [hnA] at hrA ⊢
  have hpn := PfM.new w4 (.slice none 0 0) (.slice none 0 0)
  go_wp2_with (refine wp_storePf rfl _ _ rfl w4.heap.size _ _ (.slice xa na ya) (.slice xA nA yA) hpn rfl rfl rfl rfl ?_; intro hfin)
  have hbx := below_bx w4 #[.slice xa na ya, .slice xA nA yA]
  have H5 : Hid (Below w0.heap.size w0 ((w4.alloc (.cells #[.slice none 0 0, .slice none 0 0] 43)).setRow w4.heap.size #[.slice xa na ya, .slice xA nA yA]) ∧ PfB gp (.slice ab nb cb) (.slice aS nS cS) gb gs B S ((w4.alloc (.cells #[.slice none 0 0, .slice none 0 0] 43)).setRow w4.heap.size #[.slice xa na ya, .slice xA nA yA]) ∧ PfB w4.heap.size (.slice xa na ya) (.slice xA nA yA) ga gA RL RR ((w4.alloc (.cells #[.slice none 0 0, .slice none 0 0] 43)).setRow w4.heap.size #[.slice xa na ya, .slice xA nA yA])) :=
    ⟨(H3.out.1.trans (hb4.mono H3.out.1.size)).trans (hbx.mono (Nat.le_trans H3.out.1.size hb4.size)), (H3.out.2.later hb4).later hbx, hfin, hra.1.later hbx, hrA.ss.below hbx hrA.ss.lt⟩
  obtain ⟨gw, hgw⟩ : ∃ gp, w4.heap.size = gp := ⟨_, rfl⟩
  rw [hgw] at H5 ⊢
  clear hpn hfin hbx hra hrA hb4 hgw H3
  generalize (w4.alloc (.cells #[.slice none 0 0, .slice none 0 0] 43)).setRow gw #[.slice xa na ya, .slice xA nA yA] = w5 at H5 ⊢
  have hsR := sReadProof_any t y w5 ht
  rw [hRL, hRS, hRO] at hsR
  clear hRL hRS hRO
  refine hsR.mono ?_
  clear hsR
  rintro e w6 ⟨xc, yc, xC, yC, gc, gC, rfl, hrc, hrC, _, _, _, hb6⟩
  rw [hna] at hrc ⊢
  rw [hnA] at hrC ⊢
  clear hna hnA
  have hpn := PfM.new w6 (.slice none 0 0) (.slice none 0 0)
  go_wp2_with (refine wp_storePf rfl _ _ rfl w6.heap.size _ _ (.slice xc na yc) (.slice xC nA yC) hpn rfl rfl rfl rfl ?_; intro hfin)
  have hbx := below_bx w6 #[.slice xc na yc, .slice xC nA yC]
  have H7 : Hid (Below w0.heap.size w0 ((w6.alloc (.cells #[.slice none 0 0, .slice none 0 0] 43)).setRow w6.heap.size #[.slice xc na yc, .slice xC nA yC]) ∧ PfB gp (.slice ab nb cb) (.slice aS nS cS) gb gs B S ((w6.alloc (.cells #[.slice none 0 0, .slice none 0 0] 43)).setRow w6.heap.size #[.slice xc na yc, .slice xC nA yC]) ∧ PfB gw (.slice xa na ya) (.slice xA nA yA) ga gA RL RR ((w6.alloc (.cells #[.slice none 0 0, .slice none 0 0] 43)).setRow w6.heap.size #[.slice xc na yc, .slice xC nA yC]) ∧ PfB w6.heap.size (.slice xc na yc) (.slice xC nA yC) gc gC RL RR ((w6.alloc (.cells #[.slice none 0 0, .slice none 0 0] 43)).setRow w6.heap.size #[.slice xc na yc, .slice xC nA yC])) :=
    ⟨(H5.out.1.trans (hb6.mono H5.out.1.size)).trans (hbx.mono (Nat.le_trans H5.out.1.size hb6.size)), (H5.out.2.1.later hb6).later hbx, (H5.out.2.2.later hb6).later hbx, hfin, hrc.1.later hbx, hrC.ss.below hbx hrC.ss.lt⟩
  obtain ⟨gz, hgz⟩ : ∃ gp, w6.heap.size = gp := ⟨_, rfl⟩
  rw [hgz] at H7 ⊢
  clear hpn hfin hbx hrc hrC hb6 hgz H5
  generalize (w6.alloc (.cells #[.slice none 0 0, .slice none 0 0] 43)).setRow gz #[.slice xc na yc, .slice xC nA yC] = w7 at H7 ⊢
  refine (DrawExtractTwo_any w7 _ (HC.out _ H7.out.1)).mono ?_
  rintro e w8 ⟨n2, u1, u2, u3, u4, g1, g2, g3, g4, B1, S1, B2, S2, z, rfl, hn2, k1, k2, k3, k4, hb8⟩
  obtain ⟨p1, l1, c1, rfl⟩ : ∃ a n c, u1 = .slice a n c := by obtain ⟨a, c, e⟩ := k1.shape; exact ⟨a, _, c, e⟩
  obtain ⟨p2, l2, c2, rfl⟩ : ∃ a n c, u2 = .slice a n c := by obtain ⟨a, c, e, _⟩ := k2; exact ⟨a, _, c, e⟩
  obtain ⟨p3, l3, c3, rfl⟩ : ∃ a n c, u3 = .slice a n c := by obtain ⟨a, c, e⟩ := k3.shape; exact ⟨a, _, c, e⟩
  obtain ⟨p4, l4, c4, rfl⟩ : ∃ a n c, u4 = .slice a n c := by obtain ⟨a, c, e, _⟩ := k4; exact ⟨a, _, c, e⟩
  have q1 : PfM ((w8.alloc (.cells #[.slice none 0 0, .slice none 0 0] 43)).alloc (.cells #[.slice none 0 0, .slice none 0 0] 43)) w8.heap.size (.slice none 0 0) (.slice none 0 0) := (PfM.new w8 _ _).later ((Below.refl _ _).alloc (Nat.le_refl _) _)
  have q2 : PfM ((w8.alloc (.cells #[.slice none 0 0, .slice none 0 0] 43)).alloc (.cells #[.slice none 0 0, .slice none 0 0] 43)) (w8.heap.size + 1) (.slice none 0 0) (.slice none 0 0) := by
    have h := PfM.new (w8.alloc (.cells #[.slice none 0 0, .slice none 0 0] 43)) (.slice none 0 0) (.slice none 0 0)
    rw [World.size_alloc] at h
    exact h
  have q3 : PfM (((w8.alloc (.cells #[.slice none 0 0, .slice none 0 0] 43)).alloc (.cells #[.slice none 0 0, .slice none 0 0] 43)).setRow w8.heap.size #[.slice p1 l1 c1, .slice p2 l2 c2]) (w8.heap.size + 1) (.slice none 0 0) (.slice none 0 0) := q2.gr (grown_setRowP _ w8.heap.size _) (by simp)
  have hbx : Below w8.heap.size w8 ((((w8.alloc (.cells #[.slice none 0 0, .slice none 0 0] 43)).alloc (.cells #[.slice none 0 0, .slice none 0 0] 43)).setRow w8.heap.size #[.slice p1 l1 c1, .slice p2 l2 c2]).setRow (w8.heap.size + 1) #[.slice p3 l3 c3, .slice p4 l4 c4]) := below_setRow (below_setRow (((Below.refl _ _).alloc (Nat.le_refl _) _).alloc (by simp) _) (Nat.le_refl _)) (by omega)
  go_wp2_with (first | (refine wp_loadPf rfl _ rfl w8.heap.size _ _ rfl (hf1.gr (grown_setRowP _ (w8.heap.size + 1) _) (by simp)) ?_) | (refine wp_loadPf rfl _ rfl (w8.heap.size + 1) _ _ rfl hf2 ?_) | (refine wp_storePf rfl _ _ rfl w8.heap.size _ _ (.slice p1 l1 c1) (.slice p2 l2 c2) q1 rfl rfl rfl rfl ?_; intro hf1) | (refine wp_storePf rfl _ _ rfl (w8.heap.size + 1) _ _ (.slice p3 l3 c3) (.slice p4 l4 c4) q3 rfl rfl rfl rfl ?_; intro hf2))
  have H9 : Hid (Below w0.heap.size w0 ((((w8.alloc (.cells #[.slice none 0 0, .slice none 0 0] 43)).alloc (.cells #[.slice none 0 0, .slice none 0 0] 43)).setRow w8.heap.size #[.slice p1 l1 c1, .slice p2 l2 c2]).setRow (w8.heap.size + 1) #[.slice p3 l3 c3, .slice p4 l4 c4]) ∧ (PfB gp (.slice ab nb cb) (.slice aS nS cS) gb gs B S ((((w8.alloc (.cells #[.slice none 0 0, .slice none 0 0] 43)).alloc (.cells #[.slice none 0 0, .slice none 0 0] 43)).setRow w8.heap.size #[.slice p1 l1 c1, .slice p2 l2 c2]).setRow (w8.heap.size + 1) #[.slice p3 l3 c3, .slice p4 l4 c4]) ∧ PfB gw (.slice xa na ya) (.slice xA nA yA) ga gA RL RR ((((w8.alloc (.cells #[.slice none 0 0, .slice none 0 0] 43)).alloc (.cells #[.slice none 0 0, .slice none 0 0] 43)).setRow w8.heap.size #[.slice p1 l1 c1, .slice p2 l2 c2]).setRow (w8.heap.size + 1) #[.slice p3 l3 c3, .slice p4 l4 c4]) ∧ PfB gz (.slice xc na yc) (.slice xC nA yC) gc gC RL RR ((((w8.alloc (.cells #[.slice none 0 0, .slice none 0 0] 43)).alloc (.cells #[.slice none 0 0, .slice none 0 0] 43)).setRow w8.heap.size #[.slice p1 l1 c1, .slice p2 l2 c2]).setRow (w8.heap.size + 1) #[.slice p3 l3 c3, .slice p4 l4 c4])) ∧ PfB w8.heap.size (.slice p1 l1 c1) (.slice p2 l2 c2) g1 g2 B1 S1 ((((w8.alloc (.cells #[.slice none 0 0, .slice none 0 0] 43)).alloc (.cells #[.slice none 0 0, .slice none 0 0] 43)).setRow w8.heap.size #[.slice p1 l1 c1, .slice p2 l2 c2]).setRow (w8.heap.size + 1) #[.slice p3 l3 c3, .slice p4 l4 c4]) ∧ PfB (w8.heap.size + 1) (.slice p3 l3 c3) (.slice p4 l4 c4) g3 g4 B2 S2 ((((w8.alloc (.cells #[.slice none 0 0, .slice none 0 0] 43)).alloc (.cells #[.slice none 0 0, .slice none 0 0] 43)).setRow w8.heap.size #[.slice p1 l1 c1, .slice p2 l2 c2]).setRow (w8.heap.size + 1) #[.slice p3 l3 c3, .slice p4 l4 c4])) :=
    ⟨(H7.out.1.trans (hb8.mono H7.out.1.size)).trans (hbx.mono (Nat.le_trans H7.out.1.size hb8.size)), ⟨(H7.out.2.1.later hb8).later hbx, (H7.out.2.2.1.later hb8).later hbx, (H7.out.2.2.2.later hb8).later hbx⟩, ⟨hf1.gr (grown_setRowP _ _ _) (by simp), k1.later hbx, k2.below hbx k2.lt⟩, ⟨hf2, k3.later hbx, k4.below hbx k4.lt⟩⟩
  obtain ⟨gx, hgx⟩ : ∃ gx, w8.heap.size = gx := ⟨_, rfl⟩
  rw [hgx] at H9 ⊢
  clear q1 q2 q3 hf1 hf2 hbx k1 k2 k3 k4 hb8 H7 hgx
  generalize (((w8.alloc (.cells #[.slice none 0 0, .slice none 0 0] 43)).alloc (.cells #[.slice none 0 0, .slice none 0 0] 43)).setRow gx #[.slice p1 l1 c1, .slice p2 l2 c2]).setRow (gx + 1) #[.slice p3 l3 c3, .slice p4 l4 c4] = w9 at H9 ⊢
  refine (ExtractTwo_any n2 _ _ _ _ g1 0 g2 0 g3 0 g4 0 B1 S1 B2 S2 z w9 (by omega) H9.out.2.2.1.2.1 hn2.2.1 H9.out.2.2.1.2.2 H9.out.2.2.2.2.1 hn2.2.2 H9.out.2.2.2.2.2 (HT.out _ H9.out.1)).mono ?_
  rintro e w10 ⟨rfl, hb10⟩
  have H10 : Hid (Below w0.heap.size w0 w10 ∧ (PfB gp (.slice ab nb cb) (.slice aS nS cS) gb gs B S w10 ∧ PfB gw (.slice xa na ya) (.slice xA nA yA) ga gA RL RR w10 ∧ PfB gz (.slice xc na yc) (.slice xC nA yC) gc gC RL RR w10) ∧ PfB gx (.slice p1 l1 c1) (.slice p2 l2 c2) g1 g2 B1 S1 w10 ∧ PfB (gx + 1) (.slice p3 l3 c3) (.slice p4 l4 c4) g3 g4 B2 S2 w10) := ⟨H9.out.1.trans (hb10.mono H9.out.1.size), ⟨H9.out.2.1.1.later hb10, H9.out.2.1.2.1.later hb10, H9.out.2.1.2.2.later hb10⟩, H9.out.2.2.1.later hb10, H9.out.2.2.2.later hb10⟩
  have hsx := sExtractTwo_any n2 _ _ _ _ g1 0 g2 0 g3 0 g4 0 B1 S1 B2 S2 z w10 (by omega) H10.out.2.2.1.2.1 hn2.2.1 H10.out.2.2.1.2.2 H10.out.2.2.2.2.1 hn2.2.2 H10.out.2.2.2.2.2
  clear H9 hb10
  generalize xtR n2 B1 S1 B2 S2 z = XT at *
  obtain ⟨X1, X2, X3⟩ := XT
  unfold trip at hsx ⊢
  dsimp only at hsx ⊢
  have p10 := H10.out.2.2.1.1
  have q10 := H10.out.2.2.2.1
  go_wp2_with (first | (refine wp_loadPf rfl _ rfl gx _ _ rfl p10 ?_) | (refine wp_loadPf rfl _ rfl (gx + 1) _ _ rfl q10 ?_))
  refine hsx.mono ?_
  rintro e w11 ⟨rfl, hb11⟩
  have H11 : Hid (Below w0.heap.size w0 w11 ∧ PfB gp (.slice ab nb cb) (.slice aS nS cS) gb gs B S w11 ∧ PfB gw (.slice xa na ya) (.slice xA nA yA) ga gA RL RR w11 ∧ PfB gz (.slice xc na yc) (.slice xC nA yC) gc gC RL RR w11) := ⟨H10.out.1.trans (hb11.mono H10.out.1.size), H10.out.2.1.1.later hb11, H10.out.2.1.2.1.later hb11, H10.out.2.1.2.2.later hb11⟩
  clear H10 hb11 hsx p10 q10
  have HO1 : Hid (∀ W, Below w11.heap.size w11 W → Calls Tryz.prog 22 #[.string nm, .agg #[.slice ab nb cb, .slice aS nS cS], .int .i64 x] W fun e w' => e = .returned (.bool (pfOk nm B S x)) ∧ Below W.heap.size W w') := fun W hW => ProofOk_any nm _ _ gb 0 gs 0 B S x W (by have := hpf.1; omega) (H11.out.2.1.2.1.later hW) hpf.2.1.1 (H11.out.2.1.2.2.below hW H11.out.2.1.2.2.lt) (HT.out _ (H11.out.1.trans (hW.mono H11.out.1.size)))
  have HO2 : Hid (∀ W, Below w11.heap.size w11 W → Calls Tryz.prog 23 #[.string nm, .agg #[.slice ab nb cb, .slice aS nS cS], .int .i64 x] W fun e w' => e = .returned (.bool (pfOk nm B S x)) ∧ Below W.heap.size W w') := fun W hW => sProofOk_any nm _ _ gb 0 gs 0 B S x W (by have := hpf.1; omega) (H11.out.2.1.2.1.later hW) hpf.2.1.1 (H11.out.2.1.2.2.below hW H11.out.2.1.2.2.lt)
  have HH1 : Hid (∀ W, Below w11.heap.size w11 W → Calls Tryz.prog 24 #[.string nm, .agg #[.slice ab nb cb, .slice aS nS cS], .int .i64 x] W fun e w' => e = .returned (.string (phA nm B S x)) ∧ Below W.heap.size W w') := fun W hW => ProofHash_any nm _ _ gb 0 gs 0 B S x W (by have := hpf.1; omega) (H11.out.2.1.2.1.later hW) hpf.2.1.1 (H11.out.2.1.2.2.below hW H11.out.2.1.2.2.lt) (HT.out _ (H11.out.1.trans (hW.mono H11.out.1.size)))
  have HH2 : Hid (∀ W, Below w11.heap.size w11 W → Calls Tryz.prog 25 #[.string nm, .agg #[.slice ab nb cb, .slice aS nS cS], .int .i64 x] W fun e w' => e = .returned (.string (phA nm B S x)) ∧ Below W.heap.size W w') := fun W hW => sProofHash_any nm _ _ gb 0 gs 0 B S x W (by have := hpf.1; omega) (H11.out.2.1.2.1.later hW) hpf.2.1.1 (H11.out.2.1.2.2.below hW H11.out.2.1.2.2.lt)
  have HT1 : Hid (∀ W, Below w11.heap.size w11 W → Calls Tryz.prog 27 #[.string nm, .agg #[.slice ab nb cb, .slice aS nS cS], .int .i64 x] W fun e w' => ∃ a c q, e = .returned (.slice a (ptA nm B S x).length c) ∧ SS w' (.slice a (ptA nm B S x).length c) q 0 (ptA nm B S x) ∧ Below W.heap.size W w') := fun W hW => (ProofTexts_any nm _ _ gb 0 gs 0 B S x W (by have := hpf.1; omega) (H11.out.2.1.2.1.later hW) hpf.2.1.1 (H11.out.2.1.2.2.below hW H11.out.2.1.2.2.lt) (HT.out _ (H11.out.1.trans (hW.mono H11.out.1.size)))).mono (fun e w' h => by
    obtain ⟨u, he, ho⟩ := h
    obtain ⟨q, hq⟩ := ho.ss (by have := ptA_len nm B S x; omega)
    obtain ⟨a, c, rfl⟩ := ho.slice
    exact ⟨a, c, q, he, hq, ho.2.1⟩)
  have HT2 : Hid (∀ W, Below w11.heap.size w11 W → Calls Tryz.prog 28 #[.string nm, .agg #[.slice ab nb cb, .slice aS nS cS], .int .i64 x] W fun e w' => ∃ a c q, e = .returned (.slice a (ptA nm B S x).length c) ∧ SS w' (.slice a (ptA nm B S x).length c) q 0 (ptA nm B S x) ∧ Below W.heap.size W w') := fun W hW => (sProofTexts_any nm _ _ gb 0 gs 0 B S x W (by have := hpf.1; omega) (H11.out.2.1.2.1.later hW) hpf.2.1.1 (H11.out.2.1.2.2.below hW H11.out.2.1.2.2.lt)).mono (fun e w' h => by
    obtain ⟨u, he, ho⟩ := h
    obtain ⟨q, hq⟩ := ho.ss (by have := ptA_len nm B S x; omega)
    obtain ⟨a, c, rfl⟩ := ho.slice
    exact ⟨a, c, q, he, hq, ho.2.1⟩)
  have HST : Hid (∀ W a c q a' c' q', SS W (.slice a (ptA nm B S x).length c) q 0 (ptA nm B S x) → SS W (.slice a' (ptA nm B S x).length c') q' 0 (ptA nm B S x) → Calls Tryz.prog 26 #[.slice a (ptA nm B S x).length c, .slice a' (ptA nm B S x).length c'] W fun e w' => e = .returned (.bool true) ∧ Below W.heap.size W w') := fun W a c q a' c' q' h1 h2 => (sameTexts_yes _ _ q 0 q' 0 _ W h1 h2).mono (fun e w' h => by
    obtain ⟨he, n, rfl⟩ := h
    exact ⟨he, below_drn (Below.refl _ _) n⟩)
  have HSP : Hid (∀ W, Below w11.heap.size w11 W → Calls Tryz.prog 29 #[.agg #[.slice xa na ya, .slice xA nA yA], .agg #[.slice xc na yc, .slice xC nA yC]] W fun e w' => e = .returned (.bool true) ∧ Below W.heap.size W w') := fun W hW => sameProof_yes _ _ _ _ ga 0 gA 0 gc 0 gC 0 RL RR W (H11.out.2.2.1.2.1.later hW) (H11.out.2.2.1.2.2.below hW H11.out.2.2.1.2.2.lt) (H11.out.2.2.2.2.1.later hW) (H11.out.2.2.2.2.2.below hW H11.out.2.2.2.2.2.lt)
  have HAN : Hid (∀ W, Below w11.heap.size w11 W → Calls Tryz.prog 22 #[.string ⟨#[97, 110, 110]⟩, .agg #[.slice none 0 0, .slice none 0 0], .int .i64 16] W fun e w' => e = .returned (.bool true) ∧ Below W.heap.size W w') := fun W hW => by
    have h := ProofOk_any ⟨#[97, 110, 110]⟩ (.slice none 0 0) (.slice none 0 0) 0 0 0 0 [] [] 16 W (by decide) (RS.nil _ _ _) (fun f hf => by simp at hf) (TS.nil W 0).ss (HT.out _ (H11.out.1.trans (hW.mono H11.out.1.size)))
    rw [pf_ann] at h
    exact h
  have HCEL : Hid (∀ W, Below w11.heap.size w11 W → W.cell? ⟨gp, 0, none⟩ = some (.slice ab nb cb) ∧ W.cell? ⟨gp, 1, none⟩ = some (.slice aS nS cS) ∧ W.cell? ⟨gw, 0, none⟩ = some (.slice xa na ya) ∧ W.cell? ⟨gw, 1, none⟩ = some (.slice xA nA yA) ∧ W.cell? ⟨gz, 0, none⟩ = some (.slice xc na yc) ∧ W.cell? ⟨gz, 1, none⟩ = some (.slice xC nA yC)) := fun W hW => ⟨cell_up H11.out.2.1.1.c0 hW, cell_up H11.out.2.1.1.c1 hW, cell_up H11.out.2.2.1.1.c0 hW, cell_up H11.out.2.2.1.1.c1 hW, cell_up H11.out.2.2.2.1.c0 hW, cell_up H11.out.2.2.2.1.c1 hW⟩
  have HB : Hid (∀ W, Below w11.heap.size w11 W → Below w0.heap.size w0 W) := fun W hW => H11.out.1.trans (hW.mono H11.out.1.size)
  generalize pfOk nm B S x = OK at *
  generalize phA nm B S x = X at *
  generalize ptA nm B S x = PT at *
  obtain ⟨nT, hnT⟩ : ∃ n, PT.length = n := ⟨_, rfl⟩
  rw [hnT] at HT1 HT2 HST
  clear hnT HC HT hpf ht hn2 H11
  have r1 : (X.toList == X.toList) = true := by simp
  have r2 : (X1.toList == X1.toList) = true := by simp
  have r3 : (X2.toList == X2.toList) = true := by simp
  have r4 : (OK == OK) = true := by simp
  have r5 : (RO == RO) = true := by simp
  have r6 : (X3 == X3) = true := by simp
  have hb0 : Below w11.heap.size w11 w11.drew := (Below.refl _ _).drew
  go_wp2_with fail
  go_region_held3 (fun W => W.cell? ⟨gp, 0, none⟩ = some (.slice ab nb cb) ∧ W.cell? ⟨gp, 1, none⟩ = some (.slice aS nS cS) ∧ W.cell? ⟨gw, 0, none⟩ = some (.slice xa na ya) ∧ W.cell? ⟨gw, 1, none⟩ = some (.slice xA nA yA) ∧ W.cell? ⟨gz, 0, none⟩ = some (.slice xc na yc) ∧ W.cell? ⟨gz, 1, none⟩ = some (.slice xC nA yC)) (first | (with_reducible exact HCEL.out _ hb0) | (go_keep; done)) (first | (go_at_call 22; first | ((with_reducible refine (HO1.out _ hb0).mono ?_); rintro e v1 ⟨rfl, k1⟩; have hb0 := hb0.trans (k1.mono hb0.size)) | ((with_reducible refine (HAN.out _ hb0).mono ?_); rintro e v2 ⟨rfl, k2⟩; have hb0 := hb0.trans (k2.mono hb0.size)) | fail) | (go_at_call 23; (with_reducible refine (HO2.out _ hb0).mono ?_); rintro e v3 ⟨rfl, k3⟩; have hb0 := hb0.trans (k3.mono hb0.size)) | (go_at_call 24; (with_reducible refine (HH1.out _ hb0).mono ?_); rintro e v4 ⟨rfl, k4⟩; have hb0 := hb0.trans (k4.mono hb0.size)) | (go_at_call 25; (with_reducible refine (HH2.out _ hb0).mono ?_); rintro e v5 ⟨rfl, k5⟩; have hb0 := hb0.trans (k5.mono hb0.size)) | (go_at_call 27; (with_reducible refine (HT1.out _ hb0).mono ?_); rintro e v6 ⟨a6, c6, q6, rfl, s6, k6⟩; have hb0 := hb0.trans (k6.mono hb0.size)) | (go_at_call 28; (with_reducible refine (HT2.out _ hb0).mono ?_); rintro e v7 ⟨a7, c7, q7, rfl, s7, k7⟩; have hb0 := hb0.trans (k7.mono hb0.size); have s6 := s6.below k7 s6.lt) | (go_at_call 26; (with_reducible refine (HST.out _ _ _ q6 _ _ q7 s6 s7).mono ?_); rintro e v8 ⟨rfl, k8⟩; have hb0 := hb0.trans (k8.mono hb0.size)) | (go_at_call 29; (with_reducible refine (HSP.out _ hb0).mono ?_); rintro e v9 ⟨rfl, k9⟩; have hb0 := hb0.trans (k9.mono hb0.size)) | fail)
  have hend := HB.out _ hb0
  clear HO1 HO2 HH1 HH2 HT1 HT2 HST HSP HAN HCEL HB
  go_wp2
  go_ret
  exact ⟨by simp, hend⟩

end Go.Proofs.YtmcejkfknbjjkaaGreatDoor
