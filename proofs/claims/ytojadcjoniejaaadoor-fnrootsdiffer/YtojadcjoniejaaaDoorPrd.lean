/-
  The walk of the law FnRootsDiffer: it answers true of every code.
-/
import Derived.Test.YtojadcjoniejaaaDoorPkN
import Derived.Test.YtojadcjoniejaaaDoorPd
import Derived.Test.YtojadcjoniejaaaDoorPkL
namespace Go.Proofs.YtojadcjoniejaaaDoor
open Go.RowKit Go.BigFrame Go.Sort
set_option linter.unusedVariables false
set_option linter.unusedSimpArgs false

def voneT : ByteArray := ⟨#[118, 97, 108, 117, 101, 111, 110, 101]⟩
theorem voneT_ok : okB valB voneT = true := by decide +kernel

def zT (i : Nat) : ByteArray := ⟨#[118, 97, 108, 117, 101]⟩ ++ ⟨(Lib.decDigits i).toArray⟩
theorem zT_facts (i : Nat) (h : i < 8) : okB valB (zT i) = true ∧ zT i ≠ voneT ∧ (zT i).size ≤ 20 := by
  have : i = 0 ∨ i = 1 ∨ i = 2 ∨ i = 3 ∨ i = 4 ∨ i = 5 ∨ i = 6 ∨ i = 7 := by omega
  unfold zT
  rw [Lib.decDigits_one (by omega)]
  rcases this with rfl | rfl | rfl | rfl | rfl | rfl | rfl | rfl <;> decide +kernel
theorem sDec_any (i : Nat) (h : i < 8) (w : World) : Calls Tryd.prog 20 #[.int .i64 (i : Int)] w fun e w' => e = .returned (.string ⟨(Lib.decDigits i).toArray⟩) ∧ Below w.heap.size w w' := by
  rcases Nat.eq_zero_or_pos i with rfl | h0
  · exact D.Decimal_zero w
  · exact D.Decimal_pos i w h0 (by omega)

/-- what the law's loop keeps: the leaves, and the first proof in its box -/
def RdS (w0 W : World) (vl : Value) (gl : Nat) (L : List Le) (gp : Nat) (vb vs : Value) (gb gs : Nat) (BK : List Le) (SD : List ByteArray) : Prop := Below w0.heap.size w0 W ∧ RS 2 lcs W vl gl 0 L ∧ PfM W gp vb vs ∧ RS 2 lcs W vb gb 0 BK ∧ SS W vs gs 0 SD
theorem RdS.later {w0 W W' : World} {vl : Value} {gl : Nat} {L : List Le} {gp : Nat} {vb vs : Value} {gb gs : Nat} {BK : List Le} {SD : List ByteArray} (h : RdS w0 W vl gl L gp vb vs gb gs BK SD) (hb : Below W.heap.size W W') : RdS w0 W' vl gl L gp vb vs gb gs BK SD :=
  ⟨h.1.trans (hb.mono h.1.size), h.2.1.later hb, h.2.2.1.later hb, h.2.2.2.1.later hb, h.2.2.2.2.below hb h.2.2.2.2.lt⟩
def RdL (w0 : World) (vl : Value) (gl : Nat) (L : List Le) (gp : Nat) (vb vs : Value) (gb gs : Nat) (BK : List Le) (SD : List ByteArray) (va : Value) (ga : Nat) (A : List Le) (i : Value) (wr : World) : Prop := ∃ m : Nat, m ≤ 8 ∧ i = .int .i64 m ∧ Hid (RdS w0 wr vl gl L gp vb vs gb gs BK SD) ∧ RS 2 lcs wr va ga 0 A
theorem below_box (W : World) (R : Array Value) : Below W.heap.size W ((W.alloc (.cells #[.slice none 0 0, .slice none 0 0] 36)).setRow W.heap.size R) := below_setRow ((Below.refl _ _).alloc (Nat.le_refl _) _) (Nat.le_refl _)

theorem pf_range {w : World} {g : Nat} {v1 v2 : Value} (h : PfM w g v1 v2) : w.rangeAt g 0 [v1, v2] := fun j v hv => by
  match j, hv with
  | 0, hv => simp at hv; subst hv; rw [cell_of_row w g _ _ _ (0, 0) h]; rfl
  | 1, hv => simp at hv; subst hv; rw [cell_of_row w g _ _ _ (0, 0) h]; rfl

set_option maxRecDepth 100000 in
set_option maxHeartbeats 4000000 in
theorem rootsDifferLaw_any (a0 : Option Addr) (len0 cap0 : Nat) (w : World) (hl0 : len0 ≤ 1048576) (hc : Code w.heap.size w (.slice a0 len0 cap0)) (hK : TabK w) (hF : TabF w) :
    Calls Tryd.prog 3 #[.slice a0 len0 cap0] w fun e w' => e = .returned (.bool true) ∧ Below w.heap.size w w' := by
  have HC : Hid (∀ W, Below w.heap.size w W → Code W.heap.size W (.slice a0 len0 cap0)) := fun W hW => code_laterR hc hW
  have HT : Hid (∀ W, Below w.heap.size w W → Tb W) := fun W hW => Tb.later ⟨hK, hF⟩ hW
  clear hc hK hF
  go_enter Tryd.func3, Tryd.ntmps3
  go_wp2_with fail
  refine (big_no a0 len0 cap0 _ hl0).mono ?_
  rintro e w0 ⟨rfl, rfl⟩
  go_wp2_with fail
  refine (DrawLeaves_any _ _ (HC.out _ (Below.refl _ _))).mono ?_
  rintro e w1 ⟨a1, c1, g1, L, rfl, ⟨hl8, hLk, hnil⟩, hr1, hg1, hb1⟩
  go_wp2_with fail
  refine (DrawName_any _ _ (HC.out _ hb1)).mono ?_
  rintro e w2 ⟨nm, ⟨hx, hx12⟩, rfl, hb2⟩
  have b2 := hb1.trans (hb2.mono hb1.size)
  go_wp2_with fail
  refine (DrawPlaces_any _ _ (HC.out _ b2)).mono ?_
  rintro e w3 ⟨pv, rfl, ⟨pg, pc, xs, rfl, hx12', hxs, hpg, hpl, hcells⟩, hb3⟩
  have b3 := b2.trans (hb3.mono b2.size)
  have z0 := hcells 0 (by omega)
  have hp0 := hxs (xs[0]'(by omega)) (List.getElem_mem _)
  generalize xs[0]'(by omega) = p0 at *
  clear hcells hxs hx12'
  have em : (p0 : Int).tmod 2 = ((p0 % 2 : Nat) : Int) := by rw [Int.tmod_eq_emod_of_nonneg (by omega)]; omega
  have hm32 : p0 % 2 < 2 := Nat.mod_lt _ (by omega)
  obtain ⟨q, hq⟩ : ∃ q, p0 % 2 = q := ⟨_, rfl⟩
  rw [hq] at em hm32
  have h32 : 1 ≤ (1 + (q : Int)) ∧ (1 + (q : Int)) ≤ 32 := by omega
  have hS0 := small_okR hLk
  have hr3 := (hr1.later hb2).later hb3
  have HPUT : Hid (∀ W y, okB valB y = true → y.size ≤ 20 → RS 2 lcs W (.slice a1 L.length c1) g1 0 L → Calls Tryd.prog 14 #[.slice a1 L.length c1, .string nm, .string y] W fun e w' => ∃ a c g, e = .returned (.tuple #[.slice a (LV.put L ⟨nm, y⟩).length c, .bool true]) ∧ RS 2 lcs w' (.slice a (LV.put L ⟨nm, y⟩).length c) g 0 (LV.put L ⟨nm, y⟩) ∧ Below W.heap.size W w') := fun W y hy hys hr => by
    have hlb : LV.leB ⟨nm, y⟩ = true := by unfold LV.leB; rw [hx, hy]; rfl
    have hpb := LV.putB_yes (f := ⟨nm, y⟩) hLk (by omega) hlb
    refine (sLeafPut_any a1 c1 g1 0 L nm y W hr hnil hS0 (by omega) (by omega) (by omega)).mono ?_
    rintro e w' ⟨a, c, g, he, hrw, _, hb⟩
    rw [hpb, putR_yes hpb] at he
    rw [putR_yes hpb] at hrw
    exact ⟨a, c, g, he, hrw.1, hb⟩
  have HOK : Hid (∀ y, okB valB y = true → LV.LOk (LV.put L ⟨nm, y⟩) ∧ (⟨nm, y⟩ : Le) ∈ LV.put L ⟨nm, y⟩) := fun y hy => by
    have hlb : LV.leB ⟨nm, y⟩ = true := by unfold LV.leB; rw [hx, hy]; rfl
    exact ⟨LV.putB_ok (LV.putB_yes (f := ⟨nm, y⟩) hLk (by omega) hlb), LV.mem_put.2 (.inl rfl)⟩
  have HRO : Hid (∀ W v g M, LV.LOk M → Below w0.heap.size w0 W → RS 2 lcs W v g 0 M → Calls Tryd.prog 18 #[v, .int .i64 (1 + (q : Int))] W fun e w' => e = .returned (.string (trB (1 + (q : Int)) 8 0 M)) ∧ Below W.heap.size W w') := fun W v g M hM hW hr => by
    have h := RootOf_any _ g 0 M (1 + (q : Int)) W hr (small_okR hM) (HT.out _ hW)
    rw [nh_root h32 hM] at h
    exact h
  have HSR : Hid (∀ W v g M, LV.LOk M → RS 2 lcs W v g 0 M → Calls Tryd.prog 23 #[v, .int .i64 (1 + (q : Int))] W fun e w' => e = .returned (.string (trB (1 + (q : Int)) 8 0 M)) ∧ Below W.heap.size W w') := fun W v g M hM hr => by
    have h := sRootOf_any _ g 0 M (1 + (q : Int)) W hr (small_okR hM)
    rw [nh_root h32 hM] at h
    exact h
  have HPL : Hid (∀ W v g M, LV.LOk M → RS 2 lcs W v g 0 M → Calls Tryd.prog 19 #[v, .string nm, .int .i64 0, .int .i64 (1 + (q : Int))] W fun e w' => ∃ vb vs gb gs, e = .returned (.tuple #[.agg #[vb, vs], .bool true]) ∧ RS 2 lcs w' vb gb 0 (bkL M (idxN nm)) ∧ SS w' vs gs 0 (sdL (1 + (q : Int)) (idxN nm) M 8) ∧ Below W.heap.size W w') := fun W v g M hM hr => by
    have h := sProveLeaf_yes v g 0 M nm (1 + (q : Int)) W hr (small_okR hM) (LV.leavesB_iff.2 hM) hx h32 (by omega)
    rw [sd_all h32 hM _ (idx_255 nm)] at h
    exact h
  have HPT : Hid (∀ W vb vs gb gs M, LV.LOk M → RS 2 lcs W vb gb 0 (bkL M (idxN nm)) → SS W vs gs 0 (sdL (1 + (q : Int)) (idxN nm) M 8) → Calls Tryd.prog 22 #[.string nm, .agg #[vb, vs], .int .i64 (1 + (q : Int))] W fun e w' => ∃ a c g, e = .returned (.slice a 9 c) ∧ SS w' (.slice a 9 c) g 0 (chL (idxN nm) (1 + (q : Int)) (btB (bkL M (idxN nm))) (sdL (1 + (q : Int)) (idxN nm) M 8) 9) ∧ Below W.heap.size W w') := fun W vb vs gb gs M hM hr hs => by
    refine (sProofTexts_yes nm vb vs gb 0 gs 0 _ _ (1 + (q : Int)) W (by omega) hr (small_okR (ok_bk hM _)) hs (pf_right hx h32 hM)).mono ?_
    rintro e w' ⟨v, he, ho⟩
    rw [sdL_len] at ho
    obtain ⟨a, c, rfl⟩ := ho.slice
    obtain ⟨g, hss⟩ := ho.ss (by rw [chL_len]; omega)
    rw [chL_len] at he hss
    exact ⟨a, c, g, he, hss, ho.2.1⟩
  have HCL : Hid (∀ W va vb ga gb A B y z, LV.LOk A → LV.LOk B → (⟨nm, y⟩ : Le) ∈ A → (⟨nm, z⟩ : Le) ∈ B → y ≠ z → trB (1 + (q : Int)) 8 0 A = trB (1 + (q : Int)) 8 0 B → SS W va ga 0 (chL (idxN nm) (1 + (q : Int)) (btB (bkL A (idxN nm))) (sdL (1 + (q : Int)) (idxN nm) A 8) 9) → SS W vb gb 0 (chL (idxN nm) (1 + (q : Int)) (btB (bkL B (idxN nm))) (sdL (1 + (q : Int)) (idxN nm) B 8) 9) → Calls Tryd.prog 21 #[va, vb, .int .i64 (1 + (q : Int))] W fun e w' => e = .returned (.bool true) ∧ Below W.heap.size W w') := fun W va vb ga gb A B y z hA hB ha hb hne hr h1 h2 => by
    have sz : ∀ (M : List Le), ∀ t ∈ chL (idxN nm) (1 + (q : Int)) (btB (bkL M (idxN nm))) (sdL (1 + (q : Int)) (idxN nm) M 8) 9, t.size ≤ 1048576 := fun M t ht => by
      obtain ⟨i, _, rfl⟩ := List.mem_map.1 ht
      have := chT_size (idxN nm) (1 + (q : Int)) (btB (bkL M (idxN nm))) (sdL (1 + (q : Int)) (idxN nm) M 8) (btB_size _) i
      omega
    have h := clash_any va vb ga 0 gb 0 _ _ (1 + (q : Int)) W h1 h2 (by rw [chL_len, chL_len]) (sz A) (sz B)
    rw [chL_len, roots_clash hx h32 hA hB ha hb hne hr] at h
    exact h
  have HZ : Hid (∀ M, LV.LOk M → (trB (1 + (q : Int)) 8 0 M).size = q + 1) := fun M hM => by rw [trB_size h32 hM]; omega
  have HR3 : Hid (RS 2 lcs w3 (.slice a1 L.length c1) g1 0 L ∧ Below w0.heap.size w0 w3) := ⟨hr3.1, b3⟩
  obtain ⟨hAk, hAm⟩ := HOK.out voneT voneT_ok
  have hpa := HPUT.out w3 voneT voneT_ok (by decide) HR3.out.1
  have HA : Hid (LV.LOk (LV.put L ⟨nm, voneT⟩) ∧ (⟨nm, voneT⟩ : Le) ∈ LV.put L ⟨nm, voneT⟩) := ⟨hAk, hAm⟩
  generalize LV.put L ⟨nm, voneT⟩ = A at *
  clear hr1 hb1 hb2 hb3 b2 b3 hLk hq hg1 hpg hpl hx hnil hS0 hr3 HT hAk hAm hl8 h32
  go_wp2_with fail
  refine hpa.mono ?_
  rintro e w4 ⟨a4, c4, g4, rfl, hr4, hb4⟩
  have b4 := HR3.out.2.trans (hb4.mono HR3.out.2.size)
  have H4 : Hid (RS 2 lcs w4 (.slice a1 L.length c1) g1 0 L ∧ RS 2 lcs w4 (.slice a4 A.length c4) g4 0 A ∧ Below w0.heap.size w0 w4) := ⟨HR3.out.1.later hb4, hr4, b4⟩
  clear hpa hr4 hb4 b4 HR3 z0 em hp0
  go_wp2_with fail
  refine (DrawBucketText_any _ _ (HC.out _ H4.out.2.2)).mono ?_
  rintro e w5 ⟨u, g5, U, rfl, hsU, hlU, hr5, hb5⟩
  have H5 : Hid (RS 2 lcs w5 (.slice a1 L.length c1) g1 0 L ∧ RS 2 lcs w5 (.slice a4 A.length c4) g4 0 A ∧ Below w0.heap.size w0 w5 ∧ RS 2 lcs w5 u g5 0 U ∧ SmallL U) := ⟨H4.out.1.later hb5, H4.out.2.1.later hb5, H4.out.2.2.trans (hb5.mono H4.out.2.2.size), hr5, hsU⟩
  obtain ⟨a5, c5, rfl⟩ := hr5.shape
  clear H4 hb5 hr5 hsU HC
  have HB1 : Hid (∀ W, RS 2 lcs W (.slice a5 U.length c5) g5 0 U → SmallL U → Calls Tryd.prog 16 #[.slice a5 U.length c5] W fun e w' => e = .returned (.tuple #[.string (btA U), .bool (LV.leavesB U)]) ∧ Below W.heap.size W w') := fun W hr hs => BucketText_any _ g5 0 U W hr hs
  have HB2 : Hid (∀ W, RS 2 lcs W (.slice a5 U.length c5) g5 0 U → SmallL U → Calls Tryd.prog 17 #[.slice a5 U.length c5] W fun e w' => e = .returned (.tuple #[.string (btA U), .bool (LV.leavesB U)]) ∧ Below W.heap.size W w') := fun W hr hs => sBucketText_any _ g5 0 U W hr hs
  generalize btA U = BT at *
  generalize LV.leavesB U = BF at *
  go_wp2_with fail
  refine (HB1.out _ H5.out.2.2.2.1 H5.out.2.2.2.2).mono ?_
  rintro e w6 ⟨rfl, hb6⟩
  have H6 : Hid (RS 2 lcs w6 (.slice a1 L.length c1) g1 0 L ∧ RS 2 lcs w6 (.slice a4 A.length c4) g4 0 A ∧ Below w0.heap.size w0 w6 ∧ RS 2 lcs w6 (.slice a5 U.length c5) g5 0 U ∧ SmallL U) := ⟨H5.out.1.later hb6, H5.out.2.1.later hb6, H5.out.2.2.1.trans (hb6.mono H5.out.2.2.1.size), H5.out.2.2.2.1.later hb6, H5.out.2.2.2.2⟩
  clear H5 hb6 HB1
  go_wp2_with fail
  refine (HB2.out _ H6.out.2.2.2.1 H6.out.2.2.2.2).mono ?_
  rintro e w7 ⟨rfl, hb7⟩
  have H7 : Hid (RS 2 lcs w7 (.slice a1 L.length c1) g1 0 L ∧ RS 2 lcs w7 (.slice a4 A.length c4) g4 0 A ∧ Below w0.heap.size w0 w7) := ⟨H6.out.1.later hb7, H6.out.2.1.later hb7, H6.out.2.2.1.trans (hb7.mono H6.out.2.2.1.size)⟩
  clear H6 hb7 HB2
  have qf : (BF != BF) = false := by simp
  have qt : (BT.toList == BT.toList) = true := by simp
  go_wp2_with fail
  refine (HRO.out _ _ g4 A HA.out.1 H7.out.2.2 H7.out.2.1).mono ?_
  rintro e w8 ⟨rfl, hb8⟩
  have H8 : Hid (RS 2 lcs w8 (.slice a1 L.length c1) g1 0 L ∧ RS 2 lcs w8 (.slice a4 A.length c4) g4 0 A ∧ Below w0.heap.size w0 w8) := ⟨H7.out.1.later hb8, H7.out.2.1.later hb8, H7.out.2.2.trans (hb8.mono H7.out.2.2.size)⟩
  clear H7 hb8
  go_wp2_with fail
  refine (HPL.out _ _ g4 A HA.out.1 H8.out.2.1).mono ?_
  rintro e w9 ⟨vb, vs, gb, gs, rfl, hrb, hss, hb9⟩
  have H9 : Hid (RS 2 lcs w9 (.slice a1 L.length c1) g1 0 L ∧ RS 2 lcs w9 (.slice a4 A.length c4) g4 0 A ∧ Below w0.heap.size w0 w9) := ⟨H8.out.1.later hb9, H8.out.2.1.later hb9, H8.out.2.2.trans (hb9.mono H8.out.2.2.size)⟩
  have o1 : vb.oneCell' = true := by obtain ⟨_, _, rfl⟩ := hrb.shape; rfl
  have o2 : vs.oneCell' = true := by obtain ⟨_, _, rfl, _⟩ := hss; rfl
  have HV : Hid (RS 2 lcs w9 vb gb 0 (bkL A (idxN nm)) ∧ SS w9 vs gs 0 (sdL (1 + (q : Int)) (idxN nm) A 8)) := ⟨hrb, hss⟩
  clear H8 hb9 hrb hss
  have hpn := PfM.new w9 (.slice none 0 0) (.slice none 0 0)
  go_wp2_with (refine wp_storePf rfl _ _ rfl w9.heap.size _ _ vb vs hpn rfl rfl o1 o2 ?_; intro hfin)
  have HFS : Hid (RdS w0 ((w9.alloc (.cells #[.slice none 0 0, .slice none 0 0] 36)).setRow w9.heap.size #[vb, vs]) (.slice a1 L.length c1) g1 L w9.heap.size vb vs gb gs (bkL A (idxN nm)) (sdL (1 + (q : Int)) (idxN nm) A 8) ∧ RS 2 lcs ((w9.alloc (.cells #[.slice none 0 0, .slice none 0 0] 36)).setRow w9.heap.size #[vb, vs]) (.slice a4 A.length c4) g4 0 A) := by
    have hb := below_box w9 #[vb, vs]
    exact ⟨⟨H9.out.2.2.trans (hb.mono H9.out.2.2.size), H9.out.1.later hb, hfin, HV.out.1.later hb, HV.out.2.below hb HV.out.2.lt⟩, H9.out.2.1.later hb⟩
  clear H9 HV hfin hpn o1 o2 qf qt
  generalize hgp : w9.heap.size = gp at *
  generalize (w9.alloc (.cells #[.slice none 0 0, .slice none 0 0] 36)).setRow gp #[vb, vs] = wA at *
  clear hgp
  have HRA : Hid (RS 2 lcs wA (.slice a4 A.length c4) g4 0 A ∧ Below w0.heap.size w0 wA) := ⟨HFS.out.2, HFS.out.1.1⟩
  have HST : Hid (RdL w0 (.slice a1 L.length c1) g1 L gp vb vs gb gs (bkL A (idxN nm)) (sdL (1 + (q : Int)) (idxN nm) A 8) (.slice a4 A.length c4) g4 A (.int .i64 0) wA) := ⟨0, by omega, rfl, HFS.out.1, HFS.out.2⟩
  have HRX : Hid (∀ W, RdS w0 W (.slice a1 L.length c1) g1 L gp vb vs gb gs (bkL A (idxN nm)) (sdL (1 + (q : Int)) (idxN nm) A 8) → W.rangeAt gp 0 [vb, vs]) := fun W h => pf_range h.2.2.1
  clear HFS
  obtain ⟨R8, hR8⟩ : ∃ R8, trB (1 + (q : Int)) 8 0 A = R8 := ⟨_, rfl⟩
  have HR8 : Hid (trB (1 + (q : Int)) 8 0 A = R8) := hR8
  rw [hR8]
  clear hR8
  go_loopw [16] (fun i wr => RdL w0 (.slice a1 L.length c1) g1 L gp vb vs gb gs (bkL A (idxN nm)) (sdL (1 + (q : Int)) (idxN nm) A 8) (.slice a4 A.length c4) g4 A i wr) (fun i _ => 8 - (intOf i).toNat)
  case atStart => exact HST.out
  case round =>
    obtain ⟨m, hm, rfl, HI, hrA⟩ := hrel
    have HRA2 : Hid (RS 2 lcs wr (.slice a4 A.length c4) g4 0 A) := hrA
    clear HST HRA hrA
    by_cases hlt : m < 8
    · obtain ⟨zok, zne, zsz⟩ := zT_facts m hlt
      have i1 : (m : Int) < 8 := by omega
      have hde := sDec_any m hlt wr
      have HNX : Hid (∀ W, Below wr.heap.size wr W → RdL w0 (.slice a1 L.length c1) g1 L gp vb vs gb gs (bkL A (idxN nm)) (sdL (1 + (q : Int)) (idxN nm) A 8) (.slice a4 A.length c4) g4 A (.int .i64 ((m : Int) + 1)) W) := fun W hW => ⟨m + 1, by omega, by congr 1, HI.out.later hW, HRA2.out.later hW⟩
      have HPU : Hid (∀ W, RS 2 lcs W (.slice a1 L.length c1) g1 0 L → Calls Tryd.prog 14 #[.slice a1 L.length c1, .string nm, .string (zT m)] W fun e w' => ∃ a c g, e = .returned (.tuple #[.slice a (LV.put L ⟨nm, zT m⟩).length c, .bool true]) ∧ RS 2 lcs w' (.slice a (LV.put L ⟨nm, zT m⟩).length c) g 0 (LV.put L ⟨nm, zT m⟩) ∧ Below W.heap.size W w') := fun W hr => HPUT.out W (zT m) zok zsz hr
      have HB : Hid (LV.LOk (LV.put L ⟨nm, zT m⟩) ∧ (⟨nm, zT m⟩ : Le) ∈ LV.put L ⟨nm, zT m⟩ ∧ voneT ≠ zT m) := ⟨(HOK.out _ zok).1, (HOK.out _ zok).2, zne.symm⟩
      generalize LV.put L ⟨nm, zT m⟩ = B at *
      unfold zT at HPU
      have hdg : (⟨(Lib.decDigits m).toArray⟩ : ByteArray).size ≤ 20 := by
        unfold zT at zsz
        rw [ByteArray.size_append] at zsz
        omega
      generalize (⟨(Lib.decDigits m).toArray⟩ : ByteArray) = DG at *
      have hd5 : (⟨#[118, 97, 108, 117, 101]⟩ : ByteArray).size = 5 := rfl
      clear HPUT HOK zok zne zsz
      go_wp2_with fail
      refine hde.mono ?_
      rintro e w10 ⟨rfl, hb10⟩
      have H10 : Hid (RdS w0 w10 (.slice a1 L.length c1) g1 L gp vb vs gb gs (bkL A (idxN nm)) (sdL (1 + (q : Int)) (idxN nm) A 8)) := HI.out.later hb10
      clear hde
      go_wp2_with fail
      refine (HPU.out _ H10.out.2.1).mono ?_
      rintro e w11 ⟨a11, c11, g11, rfl, hr11, hb11⟩
      have c11b := hb10.trans (hb11.mono hb10.size)
      have H11 : Hid (RdS w0 w11 (.slice a1 L.length c1) g1 L gp vb vs gb gs (bkL A (idxN nm)) (sdL (1 + (q : Int)) (idxN nm) A 8) ∧ RS 2 lcs w11 (.slice a11 B.length c11) g11 0 B) := ⟨H10.out.later hb11, hr11⟩
      clear H10 hb10 hb11 hr11 HPU HI
      go_wp2_with fail
      refine (HRO.out _ _ g11 B HB.out.1 H11.out.1.1 H11.out.2).mono ?_
      rintro e w12 ⟨rfl, hb12⟩
      have c12b := c11b.trans (hb12.mono c11b.size)
      have H12 : Hid (RdS w0 w12 (.slice a1 L.length c1) g1 L gp vb vs gb gs (bkL A (idxN nm)) (sdL (1 + (q : Int)) (idxN nm) A 8) ∧ RS 2 lcs w12 (.slice a11 B.length c11) g11 0 B) := ⟨H11.out.1.later hb12, H11.out.2.later hb12⟩
      clear H11 hb12 c11b
      by_cases hRR : trB (1 + (q : Int)) 8 0 B = R8
      · have HCC : Hid (∀ W va vb ga gb, SS W va ga 0 (chL (idxN nm) (1 + (q : Int)) (btB (bkL A (idxN nm))) (sdL (1 + (q : Int)) (idxN nm) A 8) 9) → SS W vb gb 0 (chL (idxN nm) (1 + (q : Int)) (btB (bkL B (idxN nm))) (sdL (1 + (q : Int)) (idxN nm) B 8) 9) → Calls Tryd.prog 21 #[va, vb, .int .i64 (1 + (q : Int))] W fun e w' => e = .returned (.bool true) ∧ Below W.heap.size W w') := fun W va vb ga gb h1 h2 => HCL.out W va vb ga gb A B voneT (zT m) HA.out.1 HB.out.1 HA.out.2 HB.out.2.1 HB.out.2.2 (HR8.out.trans hRR.symm) h1 h2
        have hpl := HPL.out w12 _ g11 B HB.out.1 H12.out.2
        rw [hRR]
        have qe : (R8.toList == R8.toList) = true := by simp
        clear HCL hRR
        go_wp2_with fail
        refine hpl.mono ?_
        rintro e w13 ⟨ub, us, hb', hs', rfl, hrb, hss, hb13⟩
        have o1 : ub.oneCell' = true := by obtain ⟨_, _, rfl⟩ := hrb.shape; rfl
        have o2 : us.oneCell' = true := by obtain ⟨_, _, rfl, _⟩ := hss; rfl
        have H13 : Hid (RdS w0 w13 (.slice a1 L.length c1) g1 L gp vb vs gb gs (bkL A (idxN nm)) (sdL (1 + (q : Int)) (idxN nm) A 8)) := H12.out.1.later hb13
        have c13b := c12b.trans (hb13.mono c12b.size)
        have HV : Hid (RS 2 lcs w13 ub hb' 0 (bkL B (idxN nm)) ∧ SS w13 us hs' 0 (sdL (1 + (q : Int)) (idxN nm) B 8)) := ⟨hrb, hss⟩
        clear hpl hrb hss H12 hb13 c12b qe
        have hpn := PfM.new w13 (.slice none 0 0) (.slice none 0 0)
        go_wp2_with (refine wp_storePf rfl _ _ rfl w13.heap.size _ _ ub us hpn rfl rfl o1 o2 ?_; intro hfin)
        obtain ⟨gq, hgq⟩ : ∃ gq, w13.heap.size = gq := ⟨_, rfl⟩
        have HS0 : Hid ((RdS w0 ((w13.alloc (.cells #[.slice none 0 0, .slice none 0 0] 36)).setRow gq #[ub, us]) (.slice a1 L.length c1) g1 L gp vb vs gb gs (bkL A (idxN nm)) (sdL (1 + (q : Int)) (idxN nm) A 8) ∧ PfM ((w13.alloc (.cells #[.slice none 0 0, .slice none 0 0] 36)).setRow gq #[ub, us]) gq ub us ∧ RS 2 lcs ((w13.alloc (.cells #[.slice none 0 0, .slice none 0 0] 36)).setRow gq #[ub, us]) ub hb' 0 (bkL B (idxN nm)) ∧ SS ((w13.alloc (.cells #[.slice none 0 0, .slice none 0 0] 36)).setRow gq #[ub, us]) us hs' 0 (sdL (1 + (q : Int)) (idxN nm) B 8)) ∧ Below wr.heap.size wr ((w13.alloc (.cells #[.slice none 0 0, .slice none 0 0] 36)).setRow gq #[ub, us])) := by
          rw [hgq] at hfin
          have hb := below_box w13 #[ub, us]
          rw [hgq] at hb
          exact ⟨⟨H13.out.later (hgq ▸ hb), hfin, HV.out.1.later (hgq ▸ hb), HV.out.2.below (hgq ▸ hb) HV.out.2.lt⟩, c13b.trans ((show Below w13.heap.size w13 _ from hgq ▸ hb).mono c13b.size)⟩
        rw [hgq]
        clear H13 HV hfin hpn o1 o2 c13b
        generalize (w13.alloc (.cells #[.slice none 0 0, .slice none 0 0] 36)).setRow gq #[ub, us] = wB at *
        clear hgq
        have HCEL : Hid (∀ W, Below wB.heap.size wB W → W.cell? ⟨gp, 0, none⟩ = some vb ∧ W.cell? ⟨gp, 1, none⟩ = some vs ∧ W.cell? ⟨gq, 0, none⟩ = some ub ∧ W.cell? ⟨gq, 1, none⟩ = some us) := fun W hW => ⟨cell_up HS0.out.1.1.2.2.1.c0 hW, cell_up HS0.out.1.1.2.2.1.c1 hW, cell_up HS0.out.1.2.1.c0 hW, cell_up HS0.out.1.2.1.c1 hW⟩
        have HP1 : Hid (∀ W, Below wB.heap.size wB W → Calls Tryd.prog 22 #[.string nm, .agg #[vb, vs], .int .i64 (1 + (q : Int))] W fun e w' => ∃ a c g, e = .returned (.slice a 9 c) ∧ SS w' (.slice a 9 c) g 0 (chL (idxN nm) (1 + (q : Int)) (btB (bkL A (idxN nm))) (sdL (1 + (q : Int)) (idxN nm) A 8) 9) ∧ Below W.heap.size W w') := fun W hW => HPT.out W vb vs gb gs A HA.out.1 (HS0.out.1.1.2.2.2.1.later hW) (HS0.out.1.1.2.2.2.2.below hW HS0.out.1.1.2.2.2.2.lt)
        have HP2 : Hid (∀ W, Below wB.heap.size wB W → Calls Tryd.prog 22 #[.string nm, .agg #[ub, us], .int .i64 (1 + (q : Int))] W fun e w' => ∃ a c g, e = .returned (.slice a 9 c) ∧ SS w' (.slice a 9 c) g 0 (chL (idxN nm) (1 + (q : Int)) (btB (bkL B (idxN nm))) (sdL (1 + (q : Int)) (idxN nm) B 8) 9) ∧ Below W.heap.size W w') := fun W hW => HPT.out W ub us hb' hs' B HB.out.1 (HS0.out.1.2.2.1.later hW) (HS0.out.1.2.2.2.below hW HS0.out.1.2.2.2.lt)
        have HKK : Hid (∀ W, Below wB.heap.size wB W → RdL w0 (.slice a1 L.length c1) g1 L gp vb vs gb gs (bkL A (idxN nm)) (sdL (1 + (q : Int)) (idxN nm) A 8) (.slice a4 A.length c4) g4 A (.int .i64 ((m : Int) + 1)) W) := fun W hW => HNX.out W (HS0.out.2.trans (hW.mono HS0.out.2.size))
        have HC3 : Hid (∀ W va vb ga gb, SS W va ga 0 (chL (idxN nm) (1 + (q : Int)) (btB (bkL A (idxN nm))) (sdL (1 + (q : Int)) (idxN nm) A 8) 9) → SS W vb gb 0 (chL (idxN nm) (1 + (q : Int)) (btB (bkL B (idxN nm))) (sdL (1 + (q : Int)) (idxN nm) B 8) 9) → Calls Tryd.prog 21 #[va, vb, .int .i64 (1 + (q : Int))] W fun e w' => e = .returned (.bool true) ∧ Below W.heap.size W w') := HCC.out
        have hb0 : Below wB.heap.size wB wB.drew := (Below.refl _ _).drew
        clear HS0 HNX HCC
        go_region_held3 (fun W => W.cell? ⟨gp, 0, none⟩ = some vb ∧ W.cell? ⟨gp, 1, none⟩ = some vs ∧ W.cell? ⟨gq, 0, none⟩ = some ub ∧ W.cell? ⟨gq, 1, none⟩ = some us) (first | (go_keep; done) | exact HCEL.out _ hb0) (first | (go_at_call 22; first | ((with_reducible refine (HP1.out _ hb0).mono ?_); rintro e w14 ⟨x1, y1, k1, rfl, hs1, hc14⟩; have hb0 := hb0.trans (hc14.mono hb0.size)) | ((with_reducible refine (HP2.out _ hb0).mono ?_); rintro e w15 ⟨x2, y2, k2, rfl, hs2, hc15⟩; have hb0 := hb0.trans (hc15.mono hb0.size)) | fail) | (go_at_call 21; refine (HC3.out _ _ _ k1 k2 (hs1.below hc15 hs1.lt) hs2).mono ?_; rintro e w16 ⟨rfl, hc16⟩; have hb0 := hb0.trans (hc16.mono hb0.size)) | fail)
        have HK2 : Hid (RdL w0 (.slice a1 L.length c1) g1 L gp vb vs gb gs (bkL A (idxN nm)) (sdL (1 + (q : Int)) (idxN nm) A 8) (.slice a4 A.length c4) g4 A (.int .i64 ((m : Int) + 1)) w16) := HKK.out _ hb0
        clear HKK HC3 HP1 HP2 HCEL hs1 hs2 hc14 hc15 hc16 hb0
        try rename_i hHeld
        try clear hHeld
        go_wp2
        go_roundw
        case rel => exact HK2.out
        case measure => simp [intOf]; omega
      · have qe : ((trB (1 + (q : Int)) 8 0 B).toList == R8.toList) = false := LV.bytes_ne hRR
        have HKK : Hid _ := HNX.out _ c12b
        clear HNX hRR HCL
        generalize trB (1 + (q : Int)) 8 0 B = R9 at *
        go_wp2
        go_roundw
        case rel => exact HKK.out
        case measure => simp [intOf]; omega
    · have hme : m = 8 := by omega
      subst hme
      have i1 : ¬ ((8 : Nat) : Int) < 8 := by omega
      have hzq : ((R8.size : Int) == 1 + (q : Int)) = true := by have := HZ.out A HA.out.1; rw [HR8.out] at this; simp; omega
      have b8 := HI.out.1
      have hsr := HSR.out wr _ g4 A HA.out.1 HRA2.out
      rw [HR8.out] at hsr
      clear HI HPUT HOK HRO HSR HPL HPT HCL HZ
      go_wp2_with fail
      refine hsr.mono ?_
      rintro e w10 ⟨rfl, hb10⟩
      go_wp2
      go_ret
      exact ⟨rfl, b8.trans (hb10.mono b8.size)⟩

end Go.Proofs.YtojadcjoniejaaaDoor
