/-
  The walk of the law FnSigns: it answers true of every code.
-/
import Derived.Test.YtmfoliocibjdnaaDoorSgd
import Derived.Test.YtmfoliocibjdnaaDoorPkG
import Derived.Test.YtmfoliocibjdnaaDoorTrn
import Derived.Test.YtmfoliocibjdnaaDoorPkF
import Derived.Deep.RegionLaw
import Derived.Deep.CutRange
import Derived.Deep.RegionHeld
namespace Go.Proofs.YtmfoliocibjdnaaDoor
open Go.RowKit Go.BigFrame
set_option linter.unusedVariables false
set_option linter.unusedSimpArgs false

theorem code_laterS {w w' : World} {v : Value} (h : Code w.heap.size w v) (hb : Below w.heap.size w w') : Code w'.heap.size w' v := by
  obtain ⟨ao, b, off, len, cap, rfl, hl, h1, h2⟩ := h
  refine ⟨ao, b, off, len, cap, rfl, hl, fun h0 => ⟨(h1 h0).1, Nat.lt_of_lt_of_le (h1 h0).2 hb.size⟩, fun j hj => ?_⟩
  obtain ⟨n, hn, hc⟩ := h2 j hj
  exact ⟨n, hn, (hb.cell (p := ⟨b, off + j, none⟩) (h1 (by omega)).2).trans hc⟩
theorem bytes_no9 {a b : ByteArray} (h : ¬ a = b) : (a.toList == b.toList) = false := by
  rw [beq_eq_false_iff_ne]
  intro e
  refine h ?_
  rw [ByteArray.toList_eq, ByteArray.toList_eq] at e
  cases a
  cases b
  congr
  exact Array.toList_inj.1 e

/-- what the law knows of a signature under way: its box and its three rows -/
def Sg3 (w0 W : World) (p : Nat) (a : Nat) (v1 v2 v3 : Value) (O S D : List ByteArray) : Prop := ((∃ g, TS W v1 g O) ∧ (∃ g, TS W v2 g S) ∧ (∃ g, TS W v3 g D) ∧ Below w0.heap.size w0 W) ∧ SgM W p (a : Int) v1 v2 v3
theorem Sg3.later {w0 W W' : World} {p a : Nat} {v1 v2 v3 : Value} {O S D : List ByteArray} (h : Sg3 w0 W p a v1 v2 v3 O S D) (hb : Below W.heap.size W W') : Sg3 w0 W' p a v1 v2 v3 O S D := by
  obtain ⟨⟨⟨g1, h1⟩, ⟨g2, h2⟩, ⟨g3, h3⟩, h4⟩, h5⟩ := h
  exact ⟨⟨⟨g1, h1.later hb⟩, ⟨g2, h2.later hb⟩, ⟨g3, h3.later hb⟩, h4.trans (hb.mono h4.size)⟩, h5.later hb⟩
/-- a signature put into a new box -/
theorem Sg3.made {w0 W : World} {a : Nat} {v1 v2 v3 : Value} {g1 g2 g3 : Nat} {O S D : List ByteArray} (k1 : TS W v1 g1 O) (k2 : TS W v2 g2 S) (k3 : TS W v3 g3 D) (hb : Below w0.heap.size w0 W) (hm : SgM ((W.alloc (.cells zSig 26)).setRow W.heap.size #[.int .i64 a, v1, v2, v3]) W.heap.size a v1 v2 v3) :
    Sg3 w0 ((W.alloc (.cells zSig 26)).setRow W.heap.size #[.int .i64 a, v1, v2, v3]) W.heap.size a v1 v2 v3 O S D ∧ Below W.heap.size W ((W.alloc (.cells zSig 26)).setRow W.heap.size #[.int .i64 a, v1, v2, v3]) := by
  have hw : Below W.heap.size W ((W.alloc (.cells zSig 26)).setRow W.heap.size #[.int .i64 a, v1, v2, v3]) := below_setRow ((Below.refl _ _).alloc (Nat.le_refl _) _) (Nat.le_refl _)
  exact ⟨⟨⟨⟨g1, k1.later hw⟩, ⟨g2, k2.later hw⟩, ⟨g3, k3.later hw⟩, hb.trans (hw.mono hb.size)⟩, hm⟩, hw⟩

/-- all that is known of what is signed -/
theorem law_facts (s t : ByteArray) (a : Nat) (hs : s.size ≤ 100) (ht : t.size ≤ 200) (ha : a ≤ 15) :
    ∃ O S D T, O = opN s a (bitsB t) 8 ∧ S = shN s a (bitsB t) 8 ∧ D = sdN (poolL s) a 4 ∧ formB a O S D = true
      ∧ okS (rootA (poolL s)) t a O S D = true ∧ (∀ u, u ≠ rootA (poolL s) → okS u t a O S D = false)
      ∧ (rsOk (sigB a O S D) = true ∧ rsA (sigB a O S D) = (a : Int) ∧ rsO (sigB a O S D) = O ∧ rsS (sigB a O S D) = S ∧ rsD (sigB a O S D) = D) ∧ (sigB a O S D).size ≤ 1048576
      ∧ ((sigT t a O S D).length = 13 ∧ ∀ h : 12 < (sigT t a O S D).length, (sigT t a O S D)[12] = T) ∧ T.size ≤ 1048576 ∧ cutH T 16 = rootA (poolL s) := by
  obtain ⟨_, hf, h16, hR⟩ := signed_facts s t a hs ht ha
  refine ⟨_, _, _, fT a (sdN (poolL s) a 4) (pubT (bitsB t) (opN s a (bitsB t) 8) (shN s a (bitsB t) 8)) 4, rfl, rfl, rfl, hf, ?_, ?_, ?_, ?_, ?_, ?_, hR⟩
  · unfold okS
    rw [hf, decide_eq_true ht, Int.toNat_natCast, hR]
    simp
  · intro u hu
    unfold okS
    rw [Int.toNat_natCast, hR, bytes_no9 (fun e => hu e.symm)]
    simp
  · unfold sigB
    rw [if_pos hf, Int.toNat_natCast]
    exact sig_back a _ _ _ ha (opN_len _ _ _ _) (shN_len _ _ _ _) (sdN_len _ _ _) h16
  · unfold sigB
    rw [if_pos hf, Int.toNat_natCast, kyB_16 _ _ h16]
    simp [opN_len, shN_len, sdN_len]
  · have e : sigT t a (opN s a (bitsB t) 8) (shN s a (bitsB t) 8) (sdN (poolL s) a 4) = sgT (bitsB t) a (opN s a (bitsB t) 8) (shN s a (bitsB t) 8) (sdN (poolL s) a 4) := by
      unfold sigT
      rw [hf, decide_eq_true ht, Int.toNat_natCast]
      rfl
    rw [e]
    exact ⟨sgT_len _ _ _ _ _, fun h => sgT_last _ _ _ _ _ h⟩
  · exact Nat.le_trans (fT_size a _ _ (tagB_size _ _) 4) (by omega)

set_option maxRecDepth 100000 in
set_option maxHeartbeats 8000000 in
theorem signsLaw_any (a0 : Option Addr) (len0 cap0 : Nat) (w : World) (hl0 : len0 ≤ 1048576) (hc : Code w.heap.size w (.slice a0 len0 cap0)) (hK : TabK w) (hF : TabF w) :
    Calls Tryd.prog 3 #[.slice a0 len0 cap0] w fun e w' => e = .returned (.bool true) ∧ Below w.heap.size w w' := by
  have HT : Hid (Tb w) := ⟨hK, hF⟩
  have HC : Hid (Code w.heap.size w (.slice a0 len0 cap0)) := hc
  clear hc hK hF
  go_enter Tryd.func3, Tryd.ntmps3
  go_wp2_with fail
  refine (big_no a0 len0 cap0 _ hl0).mono ?_
  rintro e w0 ⟨rfl, rfl⟩
  go_wp2_with fail
  refine (DrawSigned_any _ _ HC.out).mono ?_
  rintro e w1 ⟨s, t, a, u, rfl, ⟨hs, ht1, ht9, ha⟩, hsi, hb1⟩
  have hR16 := rootA_one s
  obtain ⟨O, S, D, T, hO, hS, hD, hf, hok, hno, ⟨hrk, hra, hro, hrs, hrd⟩, hsz, ⟨hln, hla⟩, hTz, hcut⟩ := law_facts s t a (by omega) (by omega) ha
  rw [← hO, ← hS, ← hD] at hsi
  obtain ⟨v1, v2, v3, g1, g2, g3, rfl, ⟨k1, k2, k3⟩, _, _⟩ := hsi
  have HMK : Hid (SgM ((w1.alloc (.cells zSig 26)).setRow w1.heap.size #[.int .i64 a, v1, v2, v3]) w1.heap.size a v1 v2 v3 → Sg3 w0 ((w1.alloc (.cells zSig 26)).setRow w1.heap.size #[.int .i64 a, v1, v2, v3]) w1.heap.size a v1 v2 v3 O S D) := fun hm => (Sg3.made k1 k2 k3 hb1 hm).1
  have hmz : SgM (w1.alloc (.cells zSig 26)) w1.heap.size 0 (.slice none 0 0) (.slice none 0 0) (.slice none 0 0) := SgM.new w1 0 _ _ _
  have o1 := k1.one
  have o2 := k2.one
  have o3 := k3.one
  clear k1 k2 k3 hb1 hO hS hD
  generalize rootA (poolL s) = R at *
  generalize hX : sigB a O S D = X at *
  have HSO : Hid (∀ W r b, Sg3 w0 W w1.heap.size a v1 v2 v3 O S D → okS r t a O S D = b → Calls Tryd.prog 16 #[.string r, .string t, .agg #[.int .i64 a, v1, v2, v3]] W fun e w' => e = .returned (.bool b) ∧ Below W.heap.size W w') := fun W r b h hb => by
    obtain ⟨⟨⟨g1, h1⟩, ⟨g2, h2⟩, ⟨g3, h3⟩, h4⟩, h5⟩ := h
    rw [← hb]
    exact SigOk_any r t a v1 v2 v3 g1 0 g2 0 g3 0 O S D W h1.ss h2.ss h3.ss (by omega) (HT.out.later h4)
  have HST : Hid (∀ W, Sg3 w0 W w1.heap.size a v1 v2 v3 O S D → Calls Tryd.prog 19 #[.agg #[.int .i64 a, v1, v2, v3]] W fun e w' => e = .returned (.tuple #[.string X, .bool true]) ∧ Below W.heap.size W w') := fun W h => by
    obtain ⟨⟨⟨g1, h1⟩, ⟨g2, h2⟩, ⟨g3, h3⟩, h4⟩, h5⟩ := h
    rw [← hX, ← hf]
    exact SigText_all a v1 v2 v3 g1 0 g2 0 g3 0 O S D W h1.ss h2.ss h3.ss
  have HRS : Hid (∀ W, Calls Tryd.prog 20 #[.string X] W fun e w' => ∃ y1 y2 y3 p1 p2 p3, e = .returned (.tuple #[.agg #[.int .i64 a, y1, y2, y3], .bool true]) ∧ (TS w' y1 p1 O ∧ TS w' y2 p2 S ∧ TS w' y3 p3 D) ∧ Below W.heap.size W w') := fun W => by
    have h := ReadSig_any X W hsz
    rw [hrk, hra, hro, hrs, hrd] at h
    refine h.mono ?_
    rintro e w' ⟨v, he, ⟨y1, y2, y3, p1, p2, p3, rfl, hy, _, _⟩, hb⟩
    exact ⟨y1, y2, y3, p1, p2, p3, he, hy, hb⟩
  obtain ⟨Z, hZ⟩ : ∃ Z, sigT t a O S D = Z := ⟨_, rfl⟩
  rw [hZ] at hln hla
  have HTI : Hid (∀ W, Sg3 w0 W w1.heap.size a v1 v2 v3 O S D → Calls Tryd.prog 21 #[.string t, .agg #[.int .i64 a, v1, v2, v3]] W fun e w' => ∃ b c q, e = .returned (.slice b 13 c) ∧ TS w' (.slice b 13 c) q Z ∧ Below W.heap.size W w') := fun W h => by
    obtain ⟨⟨⟨g1, h1⟩, ⟨g2, h2⟩, ⟨g3, h3⟩, h4⟩, h5⟩ := h
    have h := SigTexts_any t a v1 v2 v3 g1 0 g2 0 g3 0 O S D W h1.ss h2.ss h3.ss (by omega) (HT.out.later h4)
    rw [hZ] at h
    refine h.mono ?_
    rintro e w' ⟨v, rfl, ho⟩
    obtain ⟨q, hq, _⟩ := ho.ts (by omega)
    obtain ⟨b, c, hv, _⟩ := id hq
    rw [hln] at hv
    subst hv
    exact ⟨b, c, q, rfl, hq, ho.2.1⟩
  have HTS : Hid (∀ W, Sg3 w0 W w1.heap.size a v1 v2 v3 O S D → Calls Tryd.prog 23 #[.string t, .agg #[.int .i64 a, v1, v2, v3]] W fun e w' => ∃ b c q, e = .returned (.slice b 13 c) ∧ TS w' (.slice b 13 c) q Z ∧ Below W.heap.size W w') := fun W h => by
    obtain ⟨⟨⟨g1, h1⟩, ⟨g2, h2⟩, ⟨g3, h3⟩, h4⟩, h5⟩ := h
    have h := sSigTexts_any t a v1 v2 v3 g1 0 g2 0 g3 0 O S D W h1.ss h2.ss h3.ss (by omega)
    rw [hZ] at h
    refine h.mono ?_
    rintro e w' ⟨v, rfl, ho⟩
    obtain ⟨q, hq, _⟩ := ho.ts (by omega)
    obtain ⟨b, c, hv, _⟩ := id hq
    rw [hln] at hv
    subst hv
    exact ⟨b, c, q, rfl, hq, ho.2.1⟩
  have HCD : Hid (∀ W, Calls Tryd.prog 24 #[.string T, .int .i64 16] W fun e w' => e = .returned (.string R) ∧ Below W.heap.size W w') := fun W => by
    have h := sCutDigest_any T 16 W hTz
    rw [hcut] at h
    exact h
  have HLN : Hid (Z.length = 13 ∧ ∀ h : 12 < Z.length, Z[12] = T) := ⟨hln, hla⟩
  clear hrk hra hro hrs hrd hsz hln hla hTz hcut hZ hX hf
  have HNO : Hid (∀ u, u ≠ R → okS u t a O S D = false) := hno
  have HOK : Hid (okS R t a O S D = true) := hok
  clear hok hno
  go_wp2_with (first | (refine wp_storeSig rfl _ _ rfl w1.heap.size 0 a _ _ _ v1 v2 v3 hmz rfl rfl o1 o2 o3 ?_; intro hst) | fail)
  have HZ1 : Hid (Sg3 w0 ((w1.alloc (.cells zSig 26)).setRow w1.heap.size #[.int .i64 a, v1, v2, v3]) w1.heap.size a v1 v2 v3 O S D) := HMK.out hst
  clear hst hmz HMK
  generalize hWS : (w1.alloc (.cells zSig 26)).setRow w1.heap.size #[.int .i64 a, v1, v2, v3] = wS at *
  simp only [zSig] at hWS
  rw [hWS]
  clear hWS
  have HRG : Hid (∀ W, Sg3 w0 W w1.heap.size a v1 v2 v3 O S D → W.rangeAt w1.heap.size 0 [.int .i64 a, v1, v2, v3]) := fun W hW => hW.2.range
  have HD1 : Hid (Sg3 w0 wS.drew w1.heap.size a v1 v2 v3 O S D) := HZ1.out.later (Below.refl _ _).drew
  clear HZ1
  refine wp_region_held_drew (S := fun W => W.rangeAt w1.heap.size 0 [.int .i64 a, v1, v2, v3]) (by kernel_rfl) (HRG.out _ HD1.out) (fun hH => ?_)
  refine wpAnyH_take (i := 0) (v := .string R) rfl (by kernel_rfl) (by kernel_rfl) (by kernel_rfl) (fun _ _ _ h => h) (Or.inl ⟨by rfl, fun w hw => by go_simp⟩) hH ?_
  simp only [Act.put, List.setIfInBounds_toArray, List.set_cons_zero, List.set_cons_succ]
  refine wpAnyH_take (i := 1) (v := .string t) rfl (by kernel_rfl) (by kernel_rfl) (by kernel_rfl) (fun _ _ _ h => h) (Or.inl ⟨by rfl, fun w hw => by go_simp⟩) hH ?_
  simp only [Act.put, List.setIfInBounds_toArray, List.set_cons_zero, List.set_cons_succ]
  refine wpAnyH_take (i := 2) (v := .agg #[.int .i64 a, v1, v2, v3]) rfl (by kernel_rfl) (by kernel_rfl) (by kernel_rfl) (fun _ _ _ h => h) (yieldsIf_load_mid (by rfl) _ _ rfl w1.heap.size 0 rfl [.int .i64 a, v1, v2, v3] _ (fun w h => h) Tryd.underlying26 rfl sizeS) hH ?_
  simp only [Act.put, List.setIfInBounds_toArray, List.set_cons_zero, List.set_cons_succ]
  have h2 := HSO.out _ R true HD1.out HOK.out
  refine wpAnyH_ready (rs := [3]) (by kernel_rfl) (by simp) ?_
  refine AllReadyH.cons rfl (fun K' hK' => ?_) AllReadyH.nil
  go_simp
  go_at_call 16
  refine h2.mono ?_
  rintro e w2 ⟨rfl, hb2⟩
  have H2 : Hid (Sg3 w0 w2 w1.heap.size a v1 v2 v3 O S D) := HD1.out.later hb2
  go_wp2_with fail
  refine hK'.out _ _ (HRG.out _ H2.out) (fun hH => ?_)
  clear hK' K'
  try simp only [Act.put, List.setIfInBounds_toArray, List.set_cons_zero, List.set_cons_succ]
  clear h2 hb2 HD1 HOK
  refine wpAnyH_take (i := 4) (v := .bool false) rfl (by kernel_rfl) (by kernel_rfl) (by kernel_rfl) (fun _ _ _ h => h) (Or.inl ⟨by rfl, fun w hw => by go_simp⟩) hH ?_
  simp only [Act.put, List.setIfInBounds_toArray, List.set_cons_zero, List.set_cons_succ]
  refine wpAnyH_take (i := 5) (v := .bool false) rfl (by kernel_rfl) (by kernel_rfl) (by kernel_rfl) (fun _ _ _ h => h) (Or.inl ⟨by rfl, fun w hw => by go_simp⟩) hH ?_
  simp only [Act.put, List.setIfInBounds_toArray, List.set_cons_zero, List.set_cons_succ]
  refine wpAnyH_take (i := 6) (v := .string R) rfl (by kernel_rfl) (by kernel_rfl) (by kernel_rfl) (fun _ _ _ h => h) (Or.inl ⟨by rfl, fun w hw => by go_simp⟩) hH ?_
  simp only [Act.put, List.setIfInBounds_toArray, List.set_cons_zero, List.set_cons_succ]
  refine wpAnyH_take (i := 7) (v := .slice a0 len0 cap0) rfl (by kernel_rfl) (by kernel_rfl) (by kernel_rfl) (fun _ _ _ h => h) (Or.inl ⟨by rfl, fun w hw => by go_simp⟩) hH ?_
  simp only [Act.put, List.setIfInBounds_toArray, List.set_cons_zero, List.set_cons_succ]
  refine wpAnyH_take (i := 10) (v := .string t) rfl (by kernel_rfl) (by kernel_rfl) (by kernel_rfl) (fun _ _ _ h => h) (Or.inl ⟨by rfl, fun w hw => by go_simp⟩) hH ?_
  simp only [Act.put, List.setIfInBounds_toArray, List.set_cons_zero, List.set_cons_succ]
  refine wpAnyH_take (i := 11) (v := .agg #[.int .i64 a, v1, v2, v3]) rfl (by kernel_rfl) (by kernel_rfl) (by kernel_rfl) (fun _ _ _ h => h) (yieldsIf_load_mid (by rfl) _ _ rfl w1.heap.size 0 rfl [.int .i64 a, v1, v2, v3] _ (fun w h => h) Tryd.underlying26 rfl sizeS) hH ?_
  simp only [Act.put, List.setIfInBounds_toArray, List.set_cons_zero, List.set_cons_succ]
  have h3 := DrawPlaces_any w2 _ (code_laterS HC.out H2.out.1.2.2.2)
  refine wpAnyH_ready (rs := [8]) (by kernel_rfl) (by simp) ?_
  refine AllReadyH.cons rfl (fun K' hK' => ?_) AllReadyH.nil
  go_simp
  go_at_call 18
  refine h3.mono ?_
  rintro e w3 ⟨pv, rfl, ⟨pg, pc, xs, rfl, hx12, hxs, hpg, hpl, hcells⟩, hb3⟩
  have H3 : Hid (Sg3 w0 w3 w1.heap.size a v1 v2 v3 O S D) := H2.out.later hb3
  have z0 := hcells 0 (by omega)
  have z1 := hcells 1 (by omega)
  have hx0 := hxs xs[0] (List.getElem_mem _)
  have hx1 := hxs xs[1] (List.getElem_mem _)
  have htn := turned_any R pg pc xs[0] xs[1] w3 (by omega) (by omega) hx0 hx1 hpl z0 z1
  clear hb3 hcells z0 z1 hx0 hx1 hxs hx12
  go_wp2_with fail
  refine hK'.out _ _ (HRG.out _ H3.out) (fun hH => ?_)
  clear hK' K'
  try simp only [Act.put, List.setIfInBounds_toArray, List.set_cons_zero, List.set_cons_succ]
  clear h3 H2
  refine wpAnyH_ready (rs := [9]) (by kernel_rfl) (by simp) ?_
  refine AllReadyH.cons rfl (fun K' hK' => ?_) AllReadyH.nil
  go_simp
  go_at_call 17
  refine htn.mono ?_
  rintro e w4 ⟨U, hUs, hUne, rfl, hb4⟩
  have H4 : Hid (Sg3 w0 w4 w1.heap.size a v1 v2 v3 O S D) := H3.out.later hb4
  go_wp2_with fail
  refine hK'.out _ _ (HRG.out _ H4.out) (fun hH => ?_)
  clear hK' K'
  try simp only [Act.put, List.setIfInBounds_toArray, List.set_cons_zero, List.set_cons_succ]
  clear htn hb4 H3
  have h5 := HSO.out w4 U false H4.out (HNO.out U (fun e => hUne e.symm))
  refine wpAnyH_ready (rs := [12]) (by kernel_rfl) (by simp) ?_
  refine AllReadyH.cons rfl (fun K' hK' => ?_) AllReadyH.nil
  go_simp
  go_at_call 16
  refine h5.mono ?_
  rintro e w5 ⟨rfl, hb5⟩
  have H5 : Hid (Sg3 w0 w5 w1.heap.size a v1 v2 v3 O S D) := H4.out.later hb5
  go_wp2_with fail
  refine hK'.out _ _ (HRG.out _ H5.out) (fun hH => ?_)
  clear hK' K'
  try simp only [Act.put, List.setIfInBounds_toArray, List.set_cons_zero, List.set_cons_succ]
  clear h5 hb5 H4 hUne HNO HSO
  refine wpAnyH_take (i := 13) (v := .bool false) rfl (by kernel_rfl) (by kernel_rfl) (by kernel_rfl) (fun _ _ _ h => h) (Or.inl ⟨by rfl, fun w hw => by go_simp⟩) hH ?_
  simp only [Act.put, List.setIfInBounds_toArray, List.set_cons_zero, List.set_cons_succ]
  refine wpAnyH_done (by kernel_rfl) ?_ _
  have hm5 := H5.out.2
  go_wp2_with (first | (refine wp_loadSig rfl _ rfl w1.heap.size a v1 v2 v3 rfl hm5 ?_) | fail)
  refine (HST.out w5 H5.out).mono ?_
  rintro e w6 ⟨rfl, hb6⟩
  have H6 : Hid (Sg3 w0 w6 w1.heap.size a v1 v2 v3 O S D) := H5.out.later hb6
  clear H5 hb6 HST hm5
  go_wp2_with fail
  refine (HRS.out w6).mono ?_
  rintro e w7 ⟨y1, y2, y3, p1, p2, p3, rfl, hy, hb7⟩
  have H7 : Hid (Sg3 w0 w7 w1.heap.size a v1 v2 v3 O S D) := H6.out.later hb7
  have HMY : Hid (SgM ((w7.alloc (.cells zSig 26)).setRow w7.heap.size #[.int .i64 a, y1, y2, y3]) w7.heap.size a y1 y2 y3 → Sg3 w0 ((w7.alloc (.cells zSig 26)).setRow w7.heap.size #[.int .i64 a, y1, y2, y3]) w1.heap.size a v1 v2 v3 O S D ∧ Sg3 w0 ((w7.alloc (.cells zSig 26)).setRow w7.heap.size #[.int .i64 a, y1, y2, y3]) w7.heap.size a y1 y2 y3 O S D) := fun hm => by
    have h := Sg3.made hy.1 hy.2.1 hy.2.2 H7.out.1.2.2.2 hm
    exact ⟨H7.out.later h.2, h.1⟩
  have hmy : SgM (w7.alloc (.cells zSig 26)) w7.heap.size 0 (.slice none 0 0) (.slice none 0 0) (.slice none 0 0) := SgM.new w7 0 _ _ _
  have q1 := hy.1.one
  have q2 := hy.2.1.one
  have q3 := hy.2.2.one
  clear H6 hb7 hy HRS
  go_wp2_with (first | (refine wp_storeSig rfl _ _ rfl w7.heap.size 0 a _ _ _ y1 y2 y3 hmy rfl rfl q1 q2 q3 ?_; intro hsy; have hm7 := (HMY.out hsy).1.2) | (refine wp_loadSig rfl _ rfl w1.heap.size a v1 v2 v3 rfl hm7 ?_) | fail)
  have HY : Hid _ := HMY.out hsy
  clear HMY hmy hsy H7 hm7
  generalize hWT : (w7.alloc (.cells zSig 26)).setRow w7.heap.size #[.int .i64 a, y1, y2, y3] = wT at *
  simp only [zSig] at hWT
  rw [hWT]
  clear hWT
  have HY1 : Hid (Sg3 w0 wT w1.heap.size a v1 v2 v3 O S D ∧ Sg3 w0 wT w7.heap.size a y1 y2 y3 O S D) := HY.out
  clear HY
  refine (HTI.out _ HY1.out.1).mono ?_
  rintro e w8 ⟨b8, c8, q8, rfl, hr8, hb8⟩
  have H8 : Hid (Sg3 w0 w8 w1.heap.size a v1 v2 v3 O S D ∧ Sg3 w0 w8 w7.heap.size a y1 y2 y3 O S D ∧ TS w8 (.slice b8 13 c8) q8 Z) := ⟨HY1.out.1.later hb8, HY1.out.2.later hb8, hr8⟩
  clear HY1 hb8 hr8 HTI
  have d0 := H8.out.1.2.c0
  have d1 := H8.out.1.2.c1
  have d2 := H8.out.1.2.c2
  have d3 := H8.out.1.2.c3
  go_wp2_with fail
  refine (HTS.out w8 H8.out.1).mono ?_
  rintro e w9 ⟨b9, c9, q9, rfl, hr9, hb9⟩
  have H9 : Hid (Sg3 w0 w9 w1.heap.size a v1 v2 v3 O S D ∧ Sg3 w0 w9 w7.heap.size a y1 y2 y3 O S D ∧ TS w9 (.slice b8 13 c8) q8 Z ∧ TS w9 (.slice b9 13 c9) q9 Z) := ⟨H8.out.1.later hb9, H8.out.2.1.later hb9, H8.out.2.2.later hb9, hr9⟩
  clear H8 hb9 hr9 HTS d0 d1 d2 d3
  go_wp2_with fail
  refine (sameTexts_yes _ _ q8 0 q9 0 Z _ H9.out.2.2.1.ss H9.out.2.2.2.ss).mono ?_
  rintro e w10 ⟨rfl, q10, rfl⟩
  have hb10 : Below w9.heap.size w9 (w9.drewN q10) := ⟨rfl, rfl, rfl, Nat.le_refl _, fun _ _ => rfl⟩
  have H10 : Hid (Sg3 w0 (w9.drewN q10) w1.heap.size a v1 v2 v3 O S D ∧ Sg3 w0 (w9.drewN q10) w7.heap.size a y1 y2 y3 O S D) := ⟨H9.out.1.later hb10, H9.out.2.1.later hb10⟩
  have hc12 : b8 = some ⟨q8, 0, none⟩ ∧ (w9.drewN q10).cell? ⟨q8, 12, none⟩ = some (.string T) := by
    obtain ⟨x8, d8, ev, _, hA, hcl⟩ := (H9.out.2.2.1.later hb10).ss
    have hl := HLN.out.1
    simp at ev
    have := hcl 12 (by omega)
    rw [HLN.out.2 (by omega), Nat.zero_add] at this
    exact ⟨by rw [ev.1]; exact hA (by omega), this⟩
  obtain ⟨rfl, hc12⟩ := hc12
  clear H9 hb10 HLN
  generalize w9.drewN q10 = w10 at *
  go_wp2_with fail
  refine (HCD.out _).mono ?_
  rintro e w11 ⟨rfl, hb11⟩
  have H11 : Hid (Sg3 w0 w11 w1.heap.size a v1 v2 v3 O S D ∧ Sg3 w0 w11 w7.heap.size a y1 y2 y3 O S D) := ⟨H10.out.1.later hb11, H10.out.2.later hb11⟩
  clear H10 hb11 HCD hc12
  have hss : Calls Tryd.prog 25 #[.agg #[.int .i64 a, y1, y2, y3], .agg #[.int .i64 a, v1, v2, v3]] w11 fun e w' => e = .returned (.bool true) ∧ Below w11.heap.size w11 w' := by
    obtain ⟨⟨⟨⟨g1, h1⟩, ⟨g2, h2⟩, ⟨g3, h3⟩, _⟩, _⟩, ⟨⟨⟨k1, j1⟩, ⟨k2, j2⟩, ⟨k3, j3⟩, _⟩, _⟩⟩ := H11.out
    exact sameSig_yes a y1 y2 y3 v1 v2 v3 k1 0 k2 0 k3 0 g1 0 g2 0 g3 0 O S D w11 j1.ss j2.ss j3.ss h1.ss h2.ss h3.ss
  have d0 := H11.out.1.2.c0
  have d1 := H11.out.1.2.c1
  have d2 := H11.out.1.2.c2
  have d3 := H11.out.1.2.c3
  have e0 := H11.out.2.2.c0
  have e1 := H11.out.2.2.c1
  have e2 := H11.out.2.2.c2
  have e3 := H11.out.2.2.c3
  go_wp2_with fail
  refine hss.mono ?_
  rintro e w12 ⟨rfl, hb12⟩
  have HB : Hid (Below w0.heap.size w0 w12) := (H11.out.1.later hb12).1.2.2.2
  have c0 := (H11.out.1.later hb12).2.c0
  have i1 : (0 : Int) ≤ (a : Int) := by omega
  clear H11 hss hb12 d0 d1 d2 d3 e0 e1 e2 e3
  go_wp2
  go_ret
  exact ⟨by simp, HB.out⟩

end Go.Proofs.YtmfoliocibjdnaaDoor
