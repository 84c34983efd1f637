/-
  The walk of the law FnProofs: it answers true of every code.
-/
import Derived.Test.YtojadcjoniejaaaGreatDoorPrb
import Derived.Test.YtojadcjoniejaaaGreatDoorSq
import Derived.Test.YtojadcjoniejaaaGreatDoorPkL
import Derived.Test.YtojadcjoniejaaaGreatDoorPkE
namespace Go.Proofs.YtojadcjoniejaaaGreatDoor
open Go.RowKit Go.BigFrame Go.Sort
set_option linter.unusedVariables false
set_option linter.unusedSimpArgs false

/-- what the law of proofs keeps: its row of leaves, and its proof in its box -/
def PrS (w0 W : World) (vl : Value) (gl : Nat) (L : List Le) (gp : Nat) (vb vs : Value) (gb gs : Nat) (B : List Le) (S : List ByteArray) : Prop := Below w0.heap.size w0 W ∧ RS 2 lcs W vl gl 0 L ∧ PfM W gp vb vs ∧ RS 2 lcs W vb gb 0 B ∧ SS W vs gs 0 S
theorem PrS.later {w0 W W' : World} {vl : Value} {gl : Nat} {L : List Le} {gp : Nat} {vb vs : Value} {gb gs : Nat} {B : List Le} {S : List ByteArray} (h : PrS w0 W vl gl L gp vb vs gb gs B S) (hb : Below W.heap.size W W') : PrS w0 W' vl gl L gp vb vs gb gs B S :=
  ⟨h.1.trans (hb.mono h.1.size), h.2.1.later hb, h.2.2.1.later hb, h.2.2.2.1.later hb, h.2.2.2.2.below hb h.2.2.2.2.lt⟩
theorem below_boxP (W : World) (R : Array Value) : Below W.heap.size W ((W.alloc (.cells #[.slice none 0 0, .slice none 0 0] 29)).setRow W.heap.size R) := below_setRow ((Below.refl _ _).alloc (Nat.le_refl _) _) (Nat.le_refl _)
theorem flat_le {S : List ByteArray} (hs : ∀ t ∈ S, t.size ≤ 32) : (S.map (·.data.toList)).flatten.length ≤ S.length * 32 := by
  induction S with
  | nil => simp
  | cons a r ih =>
    have htl := LV.toList_len a
    have ha := hs a (by simp)
    have := ih (fun t ht => hs t (by simp [ht]))
    simp only [List.map_cons, List.flatten_cons, List.length_append, List.length_cons]
    omega
theorem pxT_size {B : List Le} {S : List ByteArray} {x : Int} (hs : ∀ t ∈ S, t.size ≤ 32) (h8 : S.length ≤ 8) : (pxT B S x).size ≤ 1048576 := by
  unfold pxT
  split
  · have h1 := lvT_le B
    have h2 := flat_le hs
    have h3 := M.varL_len S.length
    unfold joinT
    rw [ByteArray.size_append, ByteArray.size_append]
    show (lvT B).size + (M.varL S.length).length + (S.map (·.data.toList)).flatten.length ≤ _
    omega
  · show (0 : Nat) ≤ _
    omega

set_option maxRecDepth 100000 in
set_option maxHeartbeats 2000000 in
theorem proofsLaw_any (a0 : Option Addr) (len0 cap0 : Nat) (w : World) (hl0 : len0 ≤ 1048576) (hc : Code w.heap.size w (.slice a0 len0 cap0)) (hK : TabK w) (hF : TabF w) :
    Calls Tryz.prog 3 #[.slice a0 len0 cap0] w fun e w' => e = .returned (.bool true) ∧ Below w.heap.size w w' := by
  have HC : Hid (∀ W, Below w.heap.size w W → Code W.heap.size W (.slice a0 len0 cap0)) := fun W hW => code_laterR hc hW
  have HT : Hid (∀ W, Below w.heap.size w W → Tb W) := fun W hW => Tb.later ⟨hK, hF⟩ hW
  clear hc hK hF
  go_enter Tryz.func3, Tryz.ntmps3
  go_wp2_with fail
  refine (big_no a0 len0 cap0 _ hl0).mono ?_
  rintro e w0 ⟨rfl, rfl⟩
  go_wp2_with fail
  refine (DrawLeaves_any _ _ (HC.out _ (Below.refl _ _))).mono ?_
  rintro e w1 ⟨a1, c1, g1, L, rfl, ⟨hl8, hLk, hnil⟩, hr1, hg1, hb1⟩
  go_wp2_with fail
  refine (DrawName_any _ _ (HC.out _ hb1)).mono ?_
  rintro e w2 ⟨nm, ⟨hx, hx12⟩, rfl, hb2⟩
  have b2 := hb1.trans (hb2.mono hb1.size)
  have h32 : (1 : Int) ≤ 16 ∧ (16 : Int) ≤ 32 := by omega
  have hok : pvOk L nm 0 16 = true := by unfold pvOk; rw [LV.leavesB_iff.2 hLk, hx]; rfl
  have hB0 : pvB L nm 0 16 = bkL L (idxN nm) := by unfold pvB; rw [if_pos hok]
  have hS0 : pvS L nm 0 16 = sdL 16 (idxN nm) L 8 := by unfold pvS; rw [if_pos hok]; exact sd_all h32 hLk _ (idx_255 nm)
  have HPV : Hid (∀ W, Below w0.heap.size w0 W → RS 2 lcs W (.slice a1 L.length c1) g1 0 L → Calls Tryz.prog 8 #[.slice a1 L.length c1, .string nm, .int .i64 0, .int .i64 16] W (PvP (bkL L (idxN nm)) (sdL 16 (idxN nm) L 8) true W)) := fun W hW hr => by
    have h := ProveLeaf_any _ g1 0 L nm 0 16 W hr (small_okR hLk) (by omega) (HT.out _ hW)
    rw [hok, hB0, hS0] at h
    exact h
  have hBk := ok_bk hLk (idxN nm)
  have hSz : ∀ t ∈ sdL 16 (idxN nm) L 8, t.size = 16 := sd_size h32 hLk _ 8
  have hS8 := sdL_len (16 : Int) (idxN nm) L 8
  have HSY : Hid (∀ W vb vs gb, RS 2 lcs W vb gb 0 (bkL L (idxN nm)) → Calls Tryz.prog 9 #[.string nm, .agg #[vb, vs]] W fun e w' => e = .returned (.tuple #[.string (LV.getV L nm), .bool (LV.getB L nm)]) ∧ Below W.heap.size W w') := fun W vb vs gb hr => by
    have h := ProofSays_any nm vb vs gb 0 _ W hr (small_okR hBk)
    rw [(get_bk L nm).1, (get_bk L nm).2] at h
    exact h
  have HGT : Hid (∀ W, RS 2 lcs W (.slice a1 L.length c1) g1 0 L → Calls Tryz.prog 10 #[.slice a1 L.length c1, .string nm] W fun e w' => e = .returned (.tuple #[.string (LV.getV L nm), .bool (LV.getB L nm)]) ∧ Below W.heap.size W w') := fun W hr => sLeafGet_any _ g1 0 L nm W hr
  obtain ⟨e1, e2, e3, e4⟩ := rp_back (y := 16) hBk hSz (by omega) (by omega)
  have HPT : Hid (∀ W vb vs gb gs, RS 2 lcs W vb gb 0 (bkL L (idxN nm)) → SS W vs gs 0 (sdL 16 (idxN nm) L 8) → (∀ a n c, vs = .slice a n c → n ≤ c) → Calls Tryz.prog 11 #[.agg #[vb, vs], .int .i64 16] W fun e w' => e = .returned (.tuple #[.string (pxT (bkL L (idxN nm)) (sdL 16 (idxN nm) L 8) 16), .bool true]) ∧ Below W.heap.size W w') := fun W vb vs gb gs hr hs hcap => by
    have h := ProofText_any vb vs gb 0 gs 0 _ _ 16 W hr (small_okR hBk) hs hcap
    rw [show pxB (bkL L (idxN nm)) (sdL 16 (idxN nm) L 8) 16 = true from e1] at h
    exact h
  have HRP : Hid (∀ W, Calls Tryz.prog 12 #[.string (pxT (bkL L (idxN nm)) (sdL 16 (idxN nm) L 8) 16), .int .i64 16] W (PvP (bkL L (idxN nm)) (sdL 16 (idxN nm) L 8) true W)) := fun W => by
    have h := ReadProof_any (pxT (bkL L (idxN nm)) (sdL 16 (idxN nm) L 8) 16) 16 W (pxT_size (fun t ht => by have := hSz t ht; omega) (by omega))
    rw [show rpL (pxT (bkL L (idxN nm)) (sdL 16 (idxN nm) L 8) 16) 16 = _ from e3, show rpS (pxT (bkL L (idxN nm)) (sdL 16 (idxN nm) L 8) 16) 16 = _ from e4, show rpOk (pxT (bkL L (idxN nm)) (sdL 16 (idxN nm) L 8) 16) 16 = _ from e2] at h
    exact h
  have hph := ph_root hx h32 hLk
  have HPX : Hid (∀ W vb vs gb gs, Below w0.heap.size w0 W → RS 2 lcs W vb gb 0 (bkL L (idxN nm)) → SS W vs gs 0 (sdL 16 (idxN nm) L 8) → Calls Tryz.prog 13 #[.string nm, .agg #[vb, vs], .int .i64 16] W fun e w' => ∃ a c, e = .returned (.slice a 9 c) ∧ Below W.heap.size W w') := fun W vb vs gb gs hW hr hs => by
    refine (ProofTexts_any nm vb vs gb 0 gs 0 _ _ 16 W (by omega) hr (small_okR hBk) hs (HT.out _ hW)).mono ?_
    rintro e w' ⟨v, he, ho⟩
    obtain ⟨a, c, rfl⟩ := ho.slice
    rw [hph.2] at he
    exact ⟨a, c, he, ho.2.1⟩
  have HOK : Hid (∀ W vb vs gb gs, Below w0.heap.size w0 W → RS 2 lcs W vb gb 0 (bkL L (idxN nm)) → SS W vs gs 0 (sdL 16 (idxN nm) L 8) → Calls Tryz.prog 14 #[.string nm, .agg #[vb, vs], .int .i64 16] W fun e w' => e = .returned (.bool true) ∧ Below W.heap.size W w') := fun W vb vs gb gs hW hr hs => by
    have h := ProofOk_any nm vb vs gb 0 gs 0 _ _ 16 W (by omega) hr (small_okR hBk) hs (HT.out _ hW)
    rw [pf_right hx h32 hLk] at h
    exact h
  have HPH : Hid (∀ W vb vs gb gs, Below w0.heap.size w0 W → RS 2 lcs W vb gb 0 (bkL L (idxN nm)) → SS W vs gs 0 (sdL 16 (idxN nm) L 8) → Calls Tryz.prog 15 #[.string nm, .agg #[vb, vs], .int .i64 16] W fun e w' => e = .returned (.string (trB 16 8 0 L)) ∧ Below W.heap.size W w') := fun W vb vs gb gs hW hr hs => by
    have h := ProofHash_any nm vb vs gb 0 gs 0 _ _ 16 W (by omega) hr (small_okR hBk) hs (HT.out _ hW)
    rw [hph.1] at h
    exact h
  have HSR : Hid (∀ W, RS 2 lcs W (.slice a1 L.length c1) g1 0 L → Calls Tryz.prog 16 #[.slice a1 L.length c1, .int .i64 16] W fun e w' => e = .returned (.string (trB 16 8 0 L)) ∧ Below W.heap.size W w') := fun W hr => by
    have h := sRootOf_any _ g1 0 L 16 W hr (small_okR hLk)
    rw [nh_root h32 hLk] at h
    exact h
  have HSP : Hid (∀ W vb vs ub us gb gs hb hs, RS 2 lcs W ub hb 0 (bkL L (idxN nm)) → SS W us hs 0 (sdL 16 (idxN nm) L 8) → RS 2 lcs W vb gb 0 (bkL L (idxN nm)) → SS W vs gs 0 (sdL 16 (idxN nm) L 8) → Calls Tryz.prog 17 #[.agg #[ub, us], .agg #[vb, vs]] W fun e w' => e = .returned (.bool true) ∧ Below W.heap.size W w') := fun W vb vs ub us gb gs hb hs h1 h2 h3 h4 => sameProof_yes ub us vb vs hb 0 hs 0 gb 0 gs 0 _ _ W h1 h2 h3 h4
  have HR2 : Hid (RS 2 lcs w2 (.slice a1 L.length c1) g1 0 L ∧ Below w0.heap.size w0 w2) := ⟨(hr1.later hb2).1, b2⟩
  generalize bkL L (idxN nm) = B at *
  generalize sdL 16 (idxN nm) L 8 = S at *
  generalize trB 16 8 0 L = R at *
  generalize LV.getV L nm = V at *
  generalize LV.getB L nm = F at *
  generalize pxT B S 16 = T at *
  clear e1 e2 e3 e4 hph hBk hSz hS8 hok hB0 hS0 h32 hr1 hb1 hb2 b2 hLk hnil hl8 hg1 hx HC HT
  go_wp2_with fail
  refine (HPV.out _ HR2.out.2 HR2.out.1).mono ?_
  rintro e w3 ⟨ab, cb, aS, cS, gb, gs, rfl, hrb, hrs, _, _, ⟨_, hcap⟩, hb3⟩
  have hpn := PfM.new w3 (.slice none 0 0) (.slice none 0 0)
  have H3 : Hid (RS 2 lcs w3 (.slice a1 L.length c1) g1 0 L ∧ Below w0.heap.size w0 w3 ∧ RS 2 lcs w3 (.slice ab B.length cb) gb 0 B ∧ SS w3 (.slice aS S.length cS) gs 0 S) := ⟨HR2.out.1.later hb3, HR2.out.2.trans (hb3.mono HR2.out.2.size), hrb.1, hrs.ss⟩
  clear hrb hrs hb3 HR2 HPV
  go_wp2_with (first | (refine wp_loadPf rfl _ rfl w3.heap.size _ _ rfl hfin ?_) | (refine wp_storePf rfl _ _ rfl w3.heap.size _ _ (.slice ab B.length cb) (.slice aS S.length cS) hpn rfl rfl rfl rfl ?_; intro hfin))
  have HFS : Hid (PrS w0 ((w3.alloc (.cells #[.slice none 0 0, .slice none 0 0] 29)).setRow w3.heap.size #[.slice ab B.length cb, .slice aS S.length cS]) (.slice a1 L.length c1) g1 L w3.heap.size (.slice ab B.length cb) (.slice aS S.length cS) gb gs B S) := by
    have hb := below_boxP w3 #[.slice ab B.length cb, .slice aS S.length cS]
    exact ⟨H3.out.2.1.trans (hb.mono H3.out.2.1.size), H3.out.1.later hb, hfin, H3.out.2.2.1.later hb, H3.out.2.2.2.below hb H3.out.2.2.2.lt⟩
  clear H3 hfin hpn
  generalize hgp : w3.heap.size = gp at *
  generalize (w3.alloc (.cells #[.slice none 0 0, .slice none 0 0] 29)).setRow gp #[.slice ab B.length cb, .slice aS S.length cS] = wA at *
  clear hgp
  obtain ⟨nb, hnb⟩ : ∃ n, B.length = n := ⟨_, rfl⟩
  obtain ⟨ns, hns⟩ : ∃ n, S.length = n := ⟨_, rfl⟩
  rw [hnb, hns] at HFS ⊢
  rw [hns] at hcap
  clear hnb hns
  refine (HSY.out _ _ _ gb HFS.out.2.2.2.1).mono ?_
  rintro e w4 ⟨rfl, hb4⟩
  have H4 : Hid (PrS w0 w4 (.slice a1 L.length c1) g1 L gp (.slice ab nb cb) (.slice aS ns cS) gb gs B S) := HFS.out.later hb4
  clear HFS hb4 HSY
  have b4 := H4.out.2.1
  go_wp2_with fail
  refine (HGT.out _ b4).mono ?_
  rintro e w5 ⟨rfl, hb5⟩
  have H5 : Hid (PrS w0 w5 (.slice a1 L.length c1) g1 L gp (.slice ab nb cb) (.slice aS ns cS) gb gs B S) := H4.out.later hb5
  clear H4 hb5 HGT b4
  have p5 := H5.out.2.2.1
  go_wp2_with (refine wp_loadPf rfl _ rfl gp _ _ rfl p5 ?_)
  refine (HPT.out _ _ _ gb gs H5.out.2.2.2.1 H5.out.2.2.2.2 ?_).mono ?_
  · rintro a n c h
    injection h with h1 h2 h3
    omega
  rintro e w6 ⟨rfl, hb6⟩
  have H6 : Hid (PrS w0 w6 (.slice a1 L.length c1) g1 L gp (.slice ab nb cb) (.slice aS ns cS) gb gs B S) := H5.out.later hb6
  clear H5 hb6 HPT p5
  go_wp2_with fail
  refine (HRP.out _).mono ?_
  rintro e w7 ⟨xb, yb, xS, yS, hb', hs', rfl, hrb, hrs, _, _, _, hb7⟩
  have H7 : Hid (PrS w0 w7 (.slice a1 L.length c1) g1 L gp (.slice ab nb cb) (.slice aS ns cS) gb gs B S ∧ RS 2 lcs w7 (.slice xb B.length yb) hb' 0 B ∧ SS w7 (.slice xS S.length yS) hs' 0 S) := ⟨H6.out.later hb7, hrb.1, hrs.ss⟩
  clear H6 hb7 HRP hrb hrs
  have hpn := PfM.new w7 (.slice none 0 0) (.slice none 0 0)
  have hpP := H7.out.1.2.2.1.later (below_boxP w7 #[.slice xb B.length yb, .slice xS S.length yS])
  go_wp2_with (first | (refine wp_loadPf rfl _ rfl gp _ _ rfl hpP ?_) | (refine wp_storePf rfl _ _ rfl w7.heap.size _ _ (.slice xb B.length yb) (.slice xS S.length yS) hpn rfl rfl rfl rfl ?_; intro hfin))
  have H8 : Hid (PrS w0 ((w7.alloc (.cells #[.slice none 0 0, .slice none 0 0] 29)).setRow w7.heap.size #[.slice xb B.length yb, .slice xS S.length yS]) (.slice a1 L.length c1) g1 L gp (.slice ab nb cb) (.slice aS ns cS) gb gs B S ∧ PrS w0 ((w7.alloc (.cells #[.slice none 0 0, .slice none 0 0] 29)).setRow w7.heap.size #[.slice xb B.length yb, .slice xS S.length yS]) (.slice a1 L.length c1) g1 L w7.heap.size (.slice xb B.length yb) (.slice xS S.length yS) hb' hs' B S) := by
    have hb := below_boxP w7 #[.slice xb B.length yb, .slice xS S.length yS]
    have h1 := H7.out.1.later hb
    exact ⟨h1, h1.1, h1.2.1, hfin, H7.out.2.1.later hb, H7.out.2.2.below hb H7.out.2.2.lt⟩
  clear H7 hfin hpn hpP
  generalize hgq : w7.heap.size = gq at *
  generalize (w7.alloc (.cells #[.slice none 0 0, .slice none 0 0] 29)).setRow gq #[.slice xb B.length yb, .slice xS S.length yS] = wB at *
  clear hgq
  obtain ⟨mb, hmb⟩ : ∃ n, B.length = n := ⟨_, rfl⟩
  obtain ⟨ms, hms⟩ : ∃ n, S.length = n := ⟨_, rfl⟩
  rw [hmb, hms] at H8 ⊢
  clear hmb hms
  refine (HPX.out _ _ _ gb gs H8.out.1.1 H8.out.1.2.2.2.1 H8.out.1.2.2.2.2).mono ?_
  rintro e w9 ⟨ax, cx, rfl, hb9⟩
  have H9 : Hid (PrS w0 w9 (.slice a1 L.length c1) g1 L gp (.slice ab nb cb) (.slice aS ns cS) gb gs B S ∧ PrS w0 w9 (.slice a1 L.length c1) g1 L gq (.slice xb mb yb) (.slice xS ms yS) hb' hs' B S) := ⟨H8.out.1.later hb9, H8.out.2.later hb9⟩
  clear H8 hb9 HPX hcap
  have d0 := H9.out.1.2.2.1.c0
  have d1 := H9.out.1.2.2.1.c1
  go_wp2_with fail
  refine (HOK.out _ _ _ gb gs H9.out.1.1 H9.out.1.2.2.2.1 H9.out.1.2.2.2.2).mono ?_
  rintro e w10 ⟨rfl, hb10⟩
  have H10 : Hid (PrS w0 w10 (.slice a1 L.length c1) g1 L gp (.slice ab nb cb) (.slice aS ns cS) gb gs B S ∧ PrS w0 w10 (.slice a1 L.length c1) g1 L gq (.slice xb mb yb) (.slice xS ms yS) hb' hs' B S) := ⟨H9.out.1.later hb10, H9.out.2.later hb10⟩
  clear H9 hb10 HOK d0 d1
  have d0 := H10.out.1.2.2.1.c0
  have d1 := H10.out.1.2.2.1.c1
  go_wp2_with fail
  refine (HPH.out _ _ _ gb gs H10.out.1.1 H10.out.1.2.2.2.1 H10.out.1.2.2.2.2).mono ?_
  rintro e w11 ⟨rfl, hb11⟩
  have H11 : Hid (PrS w0 w11 (.slice a1 L.length c1) g1 L gp (.slice ab nb cb) (.slice aS ns cS) gb gs B S ∧ PrS w0 w11 (.slice a1 L.length c1) g1 L gq (.slice xb mb yb) (.slice xS ms yS) hb' hs' B S) := ⟨H10.out.1.later hb11, H10.out.2.later hb11⟩
  clear H10 hb11 HPH d0 d1
  have r11 := H11.out.1.2.1
  go_wp2_with fail
  refine (HSR.out _ r11).mono ?_
  rintro e w12 ⟨rfl, hb12⟩
  have H12 : Hid (PrS w0 w12 (.slice a1 L.length c1) g1 L gp (.slice ab nb cb) (.slice aS ns cS) gb gs B S ∧ PrS w0 w12 (.slice a1 L.length c1) g1 L gq (.slice xb mb yb) (.slice xS ms yS) hb' hs' B S) := ⟨H11.out.1.later hb12, H11.out.2.later hb12⟩
  clear H11 hb12 HSR r11
  have d0 := H12.out.1.2.2.1.c0
  have d1 := H12.out.1.2.2.1.c1
  have d2 := H12.out.2.2.2.1.c0
  have d3 := H12.out.2.2.2.1.c1
  have q1 : (R.toList == R.toList) = true := by simp
  have q2 : (V.toList == V.toList) = true := by simp
  have q3 : (F == F) = true := by simp
  go_wp2_with fail
  refine (HSP.out _ _ _ _ _ gb gs hb' hs' H12.out.2.2.2.2.1 H12.out.2.2.2.2.2 H12.out.1.2.2.2.1 H12.out.1.2.2.2.2).mono ?_
  rintro e w13 ⟨rfl, hb13⟩
  have b13 := H12.out.1.1.trans (hb13.mono H12.out.1.1.size)
  clear H12 hb13 HSP d0 d1 d2 d3
  go_wp2
  go_ret
  exact ⟨rfl, b13⟩

end Go.Proofs.YtojadcjoniejaaaGreatDoor
