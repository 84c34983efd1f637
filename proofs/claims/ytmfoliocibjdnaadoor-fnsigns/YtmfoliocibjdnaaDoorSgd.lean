/-
  A drawn text, signed.
-/
import Derived.Test.YtmfoliocibjdnaaDoorSgq
import Derived.Deep.RegionLaw
import Derived.Deep.CutRange
import Derived.Deep.RegionHeld
namespace Go.Proofs.YtmfoliocibjdnaaDoor
open Go.RowKit Go.BigFrame
set_option linter.unusedVariables false
set_option linter.unusedSimpArgs false

theorem SigIn.later {w w' : World} {B B' : Nat} {v : Value} {a : Int} {o s d : List ByteArray} (h : SigIn w B v a o s d) (hb : Below w.heap.size w w') (hB : B' ≤ B) : SigIn w' B' v a o s d := by
  obtain ⟨v1, v2, v3, g1, g2, g3, rfl, ⟨h1, h2, h3⟩, ⟨k1, k2, k3⟩, hn⟩ := h
  exact ⟨v1, v2, v3, g1, g2, g3, rfl, ⟨h1.later hb, h2.later hb, h3.later hb⟩, ⟨by omega, by omega, by omega⟩, hn⟩
theorem Cur.belS {B Bx : Nat} {w0 w w' : World} {g : Nat} {v : Value} (h : Cur B w0 w g v) (hb : Below Bx w w') (hg : g < Bx) (hB : B ≤ Bx) : Cur B w0 w' g v := by
  obtain ⟨h1, h2, h3, i, x, hbl, h4⟩ := h
  exact ⟨h1, h2.trans (hb.mono hB), h3, i, x, (hb.block g hg).trans hbl, h4⟩

theorem ite_of {c : Prop} [Decidable c] {p q : Prop} (h1 : c → p) (h2 : ¬ c → q) : if c then p else q := by
  by_cases h : c
  · rw [if_pos h]; exact h1 h
  · rw [if_neg h]; exact h2 h
/-- what l05Signed gives -/
def SdP (B : Nat) (w0 w : World) (g : Nat) (v : Value) (e : Ending) (w' : World) : Prop := ∃ (s t : ByteArray) (a : Nat) (u : Value), e = .returned (.tuple #[.string (rootA (poolL s)), .string t, u]) ∧ (s.size ≤ 5 ∧ 1 ≤ t.size ∧ t.size ≤ 9 ∧ a ≤ 15) ∧ SigIn w' w.heap.size u a (opN s a (bitsB t) 8) (shN s a (bitsB t) 8) (sdN (poolL s) a 4) ∧ Cur B w0 w' g v ∧ w.grownBy w' (some g)

theorem TS.one {w : World} {v : Value} {g : Nat} {l : List ByteArray} (h : TS w v g l) : v.oneCell' = true := by
  obtain ⟨_, _, rfl, _⟩ := h
  rfl
theorem SigIn.setR {w : World} {B p : Nat} {v : Value} {a : Int} {o s d : List ByteArray} (h : SigIn w B v a o s d) (hp : p < B) (cs : Array Value) : SigIn (w.setRow p cs) B v a o s d := by
  obtain ⟨v1, v2, v3, g1, g2, g3, rfl, ⟨h1, h2, h3⟩, ⟨k1, k2, k3⟩, hn⟩ := h
  exact ⟨v1, v2, v3, g1, g2, g3, rfl, ⟨h1.keptG (grown_setRow w p cs) (fun _ => by simp; omega), h2.keptG (grown_setRow w p cs) (fun _ => by simp; omega), h3.keptG (grown_setRow w p cs) (fun _ => by simp; omega)⟩, ⟨k1, k2, k3⟩, hn⟩
theorem SigIn.wide {w : World} {B B' : Nat} {v : Value} {a : Int} {o s d : List ByteArray} (h : SigIn w B v a o s d) (hB : B' ≤ B) : SigIn w B' v a o s d := by
  obtain ⟨v1, v2, v3, g1, g2, g3, rfl, h1, ⟨k1, k2, k3⟩, hn⟩ := h
  exact ⟨v1, v2, v3, g1, g2, g3, rfl, h1, ⟨by omega, by omega, by omega⟩, hn⟩
theorem SgM.range {w : World} {g : Nat} {a : Int} {v1 v2 v3 : Value} (h : SgM w g a v1 v2 v3) : w.rangeAt g 0 [.int .i64 a, v1, v2, v3] := by
  have h1 := World.rangeAt_of_block (w := w) h 0 4
  simpa using h1
theorem store_sig {w : World} {g : Nat} {x y : Int} {v1 v2 v3 u1 u2 u3 : Value} (hA : SgM w g x v1 v2 v3) (h1 : u1.oneCell' = true) (h2 : u2.oneCell' = true) (h3 : u3.oneCell' = true) :
    (Instr.storeAt 26 (.pointer (some ⟨g, 0, none⟩)) (.agg #[.int .i64 y, u1, u2, u3])).run Tryd.prog w = .ok () (w.setRow g #[.int .i64 y, u1, u2, u3]) ∧ SgM (w.setRow g #[.int .i64 y, u1, u2, u3]) g y u1 u2 u3 := by
  refine ⟨?_, setRow_heap w g _ _ _ _ hA⟩
  simp only [Instr.storeAt, Instr.sureAddr, Sem.run_bind, Sem.run_pure, Result.andThen]
  refine run_storeVar_row w g 26 26 _ _ hA sizeS rfl ?_
  simp [h1, h2, h3]
  rfl
/-- two texts and a signature, answered -/
theorem ret_sig3 {fn : Func} {Rp : Ending → World → Prop} {a : Act} {w : World} (i j c g : Nat) (x : Int) (u0 u1 v1 v2 v3 : Value) (hres : fn.results = #[.tmp i, .tmp j, .cell c 26]) (hd : a.defers = []) (h0 : a.tmps.getD i undef = u0) (h1 : a.tmps.getD j undef = u1) (hp : a.tmps.getD c undef = .pointer (some ⟨g, 0, none⟩))
    (hA : SgM w g x v1 v2 v3) (h : Rp (.returned (.tuple #[u0, u1, .agg #[.int .i64 x, v1, v2, v3]])) w) : bodyPost Tryd.prog fn Rp .ret a w := by
  have hr := load_sig hA
  refine bodyPost_ret (v := .tuple #[u0, u1, .agg #[.int .i64 x, v1, v2, v3]]) ?_ hd h
  have h0' : a.tmps[i]?.getD undef = u0 := by simpa using h0
  have h1' : a.tmps[j]?.getD undef = u1 := by simpa using h1
  have hp' : a.tmps[c]?.getD undef = .pointer (some ⟨g, 0, none⟩) := by simpa using hp
  simp [results, hres, asAddr, hr, h0', h1', hp']

set_option maxRecDepth 100000 in
set_option maxHeartbeats 2000000 in
theorem l05Signed_in (B : Nat) (w0 w : World) (g : Nat) (v : Value) (hc : Cur B w0 w g v) :
    Calls Tryd.prog 81 #[.pointer (some ⟨g, 0, none⟩)] w (SdP B w0 w g v) := by
  have hgl := hc.lt
  have hBs := hc.size
  have hcA : Cur B w0 (w.alloc (.cells zSig 26)) g v := hc.kept (World.grownBy_alloc w _ none) (by simp) hc.size (fun k hk => by cases hk)
  have HM0 : Hid (SgM (w.alloc (.cells zSig 26)) w.heap.size 0 (.slice none 0 0) (.slice none 0 0) (.slice none 0 0) ∧ w.grownBy (w.alloc (.cells zSig 26)) (some g)) := ⟨SgM.new w 0 _ _ _, World.grownBy_alloc w _ _⟩
  have hls := l05Seed_in B w0 (w.alloc (.cells zSig 26)) g v hcA
  generalize hWA : w.alloc (.cells zSig 26) = wA at *
  clear hc hcA
  go_enter Tryd.func81, Tryd.ntmps81
  go_wp2_with fail
  simp only [zSig] at hWA
  rw [hWA]
  clear hWA
  refine hls.mono ?_
  rintro e w1 ⟨s, hs, rfl, hc1, hg1⟩
  clear hls
  go_wp2_with fail
  refine (l01Below_in B w0 _ g v 16 16 rfl hc1 (by omega) (by omega)).mono ?_
  rintro e w2 ⟨a, ha, rfl, hc2, hg2⟩
  clear hc1
  go_wp2_with fail
  refine (l01Below_in B w0 _ g v 9 9 rfl hc2 (by omega) (by omega)).mono ?_
  rintro e w3 ⟨n, hn, rfl, hc3, hg3⟩
  clear hc2
  go_wp2_with fail
  refine (l01Text_in B w0 _ g v (1 + (n : Int)) (1 + n) (by omega) hc3 (by omega)).mono ?_
  rintro e w4 ⟨l, hl, rfl, hc4, hg4⟩
  clear hc3
  have htz : (⟨l.toArray⟩ : ByteArray).size = 1 + n := by show l.toArray.size = 1 + n; simpa using hl
  generalize (⟨l.toArray⟩ : ByteArray) = t at *
  have hgA := ((hg1.trans hg2).trans hg3).trans hg4
  have HG : Hid (w.grownBy w4 (some g) ∧ Cur B w0 w4 g v ∧ SgM w4 w.heap.size 0 (.slice none 0 0) (.slice none 0 0) (.slice none 0 0)) := ⟨HM0.out.2.trans hgA, hc4, HM0.out.1.keptG hgA (by simp; omega)⟩
  clear hg1 hg2 hg3 hg4 hc4 hl hgA HM0
  go_wp2_with fail
  refine (sPoolOf_any s _ (by omega)).mono ?_
  rintro e w5 ⟨vp, rfl, hos⟩
  obtain ⟨q, hq⟩ := hos.ss (by rw [poolL_len]; omega)
  have HQ : Hid (SS w5 vp q 0 (poolL s) ∧ Below w4.heap.size w4 w5) := ⟨hq, hos.2.1⟩
  obtain ⟨xp, cp, rfl⟩ : ∃ xp cp, vp = .slice xp 16 cp := by
    obtain ⟨x', c', hv, _⟩ := hq
    exact ⟨x', c', by rw [hv, poolL_len]⟩
  clear hos hq
  obtain ⟨hokG, _, _, _⟩ := signed_facts s t a (by omega) (by omega) (by omega)
  have hsg := sSignText_any s t xp 16 cp q 0 (poolL s) (a : Int) w5 (by omega) (by omega) (poolL_len s) (by omega) HQ.out.1
  unfold SgAns sgAt sgO sgS sgD at hsg
  rw [hokG] at hsg
  simp only [if_true, Int.toNat_natCast] at hsg
  clear hokG
  obtain ⟨O, hO⟩ : ∃ O, opN s a (bitsB t) 8 = O := ⟨_, rfl⟩
  obtain ⟨S, hS⟩ : ∃ S, shN s a (bitsB t) 8 = S := ⟨_, rfl⟩
  obtain ⟨D, hD⟩ : ∃ D, sdN (poolL s) a 4 = D := ⟨_, rfl⟩
  have HE : Hid (opN s a (bitsB t) 8 = O ∧ shN s a (bitsB t) 8 = S ∧ sdN (poolL s) a 4 = D) := ⟨hO, hS, hD⟩
  rw [hO, hS, hD] at hsg
  clear hO hS hD
  go_wp2_with fail
  refine hsg.mono ?_
  rintro e w6 ⟨u, rfl, hsi, hb6⟩
  have hag : ∃ y1 y2 y3, u = .agg #[.int .i64 a, y1, y2, y3] ∧ (y1.oneCell' = true ∧ y2.oneCell' = true ∧ y3.oneCell' = true) := by
    obtain ⟨y1, y2, y3, _, _, _, h, ⟨h1, h2, h3⟩, _⟩ := hsi
    exact ⟨y1, y2, y3, h, h1.one, h2.one, h3.one⟩
  obtain ⟨y1, y2, y3, rfl, o1, o2, o3⟩ := hag
  have HS : Hid (SigIn w6 w5.heap.size (.agg #[.int .i64 a, y1, y2, y3]) a O S D ∧ Below w5.heap.size w5 w6) := ⟨hsi, hb6⟩
  have HAL : Hid (Below w6.heap.size w6 ((w6.alloc (.cells zSig 26)).setRow w6.heap.size #[.int .i64 a, y1, y2, y3])) := below_setRow ((Below.refl _ _).alloc (Nat.le_refl _) _) (Nat.le_refl _)
  have hmz : SgM (w6.alloc (.cells zSig 26)) w6.heap.size 0 (.slice none 0 0) (.slice none 0 0) (.slice none 0 0) := SgM.new w6 0 _ _ _
  have hb6a := hb6.trans (HAL.out.mono hb6.size)
  have hrt := sPoolRoot_any (.slice xp 16 cp) q 0 (poolL s) ((w6.alloc (.cells zSig 26)).setRow w6.heap.size #[.int .i64 a, y1, y2, y3]).drew (HQ.out.1.below hb6a.drew HQ.out.1.lt)
  clear hsg hsi hb6 hb6a
  obtain ⟨R, hR⟩ : ∃ R, rootA (poolL s) = R := ⟨_, rfl⟩
  rw [hR] at hrt
  have HR : Hid (rootA (poolL s) = R) := hR
  have HRT : Hid (Calls Tryd.prog 46 #[.slice xp 16 cp] ((w6.alloc (.cells zSig 26)).setRow w6.heap.size #[.int .i64 a, y1, y2, y3]).drew fun e w' => e = .returned (.string R) ∧ Below ((w6.alloc (.cells zSig 26)).setRow w6.heap.size #[.int .i64 a, y1, y2, y3]).drew.heap.size ((w6.alloc (.cells zSig 26)).setRow w6.heap.size #[.int .i64 a, y1, y2, y3]).drew w') := hrt
  clear hR hrt
  go_wp2_with (first | (refine wp_storeSig rfl _ _ rfl w6.heap.size 0 a _ _ _ y1 y2 y3 hmz rfl rfl o1 o2 o3 ?_; intro hst) | fail)
  have HST : Hid (SgM ((w6.alloc (.cells zSig 26)).setRow w6.heap.size #[.int .i64 a, y1, y2, y3]) w6.heap.size a y1 y2 y3) := hst
  clear hst hmz
  generalize hWS : (w6.alloc (.cells zSig 26)).setRow w6.heap.size #[.int .i64 a, y1, y2, y3] = wS at *
  simp only [zSig] at hWS
  rw [hWS]
  clear hWS
  have HRG : Hid (∀ W, Below wS.heap.size wS W → W.rangeAt w6.heap.size 0 [.int .i64 a, y1, y2, y3]) := fun W hW => (HST.out.later hW).range
  refine wp_region_held_drew (S := fun W => W.rangeAt w6.heap.size 0 [.int .i64 a, y1, y2, y3]) (by kernel_rfl) (HRG.out _ (Below.refl _ _).drew) (fun hH => ?_)
  refine wpAnyH_take (i := 0) (v := .slice xp 16 cp) rfl (by kernel_rfl) (by kernel_rfl) (by kernel_rfl) (fun _ _ _ h => h) (Or.inl ⟨by rfl, fun w hw => by go_simp⟩) hH ?_
  simp only [Act.put, List.setIfInBounds_toArray, List.set_cons_zero, List.set_cons_succ]
  refine wpAnyH_take (i := 2) (v := .string t) rfl (by kernel_rfl) (by kernel_rfl) (by kernel_rfl) (fun _ _ _ h => h) (Or.inl ⟨by rfl, fun w hw => by go_simp⟩) hH ?_
  simp only [Act.put, List.setIfInBounds_toArray, List.set_cons_zero, List.set_cons_succ]
  refine wpAnyH_take (i := 3) (v := .agg #[.int .i64 a, y1, y2, y3]) rfl (by kernel_rfl) (by kernel_rfl) (by kernel_rfl) (fun _ _ _ h => h) (yieldsIf_load_mid (by rfl) _ _ rfl w6.heap.size 0 rfl [.int .i64 a, y1, y2, y3] _ (fun w h => h) Tryd.underlying26 rfl sizeS) hH ?_
  simp only [Act.put, List.setIfInBounds_toArray, List.set_cons_zero, List.set_cons_succ]
  refine wpAnyH_ready (rs := [1]) (by kernel_rfl) (by simp) ?_
  refine AllReadyH.cons rfl (fun K' hK' => ?_) AllReadyH.nil
  go_simp
  go_at_call 46
  refine HRT.out.mono ?_
  rintro e w7 ⟨rfl, hb7d⟩
  have hb7 : Below wS.heap.size wS w7 := ⟨hb7d.os, hb7d.tape, hb7d.output, hb7d.size, hb7d.block⟩
  go_wp2_with fail
  refine hK'.out _ _ (HRG.out _ hb7) (fun hH => ?_)
  clear hK' K'
  try simp only [Act.put, List.setIfInBounds_toArray, List.set_cons_zero, List.set_cons_succ]
  refine wpAnyH_ready (rs := [4]) (by kernel_rfl) (by simp) ?_
  refine AllReadyH.cons rfl (fun K' hK' => ?_) AllReadyH.nil
  go_simp
  refine hK'.out _ _ (hH) (fun hH => ?_)
  clear hK' K'
  try simp only [Act.put, List.setIfInBounds_toArray, List.set_cons_zero, List.set_cons_succ]
  refine wpAnyH_ready (rs := [5]) (by kernel_rfl) (by simp) ?_
  refine AllReadyH.cons rfl (fun K' hK' => ?_) AllReadyH.nil
  go_simp
  refine hK'.out _ _ (hH) (fun hH => ?_)
  clear hK' K'
  try simp only [Act.put, List.setIfInBounds_toArray, List.set_cons_zero, List.set_cons_succ]
  have h45 := HQ.out.2
  have h46 : Below w4.heap.size w4 w6 := h45.trans (HS.out.2.mono h45.size)
  have h47 : Below w6.heap.size w6 w7 := HAL.out.trans (hb7.mono HAL.out.size)
  have h4e : Below w4.heap.size w4 w7 := h46.trans (h47.mono h46.size)
  have hm0 : SgM w7 w.heap.size 0 (.slice none 0 0) (.slice none 0 0) (.slice none 0 0) := HG.out.2.2.later h4e
  have hpl := HG.out.2.2.lt
  have h46s := h46.size
  have hrun := store_sig (y := (a : Int)) hm0 o1 o2 o3
  have HRG2 : Hid ((w7.setRow w.heap.size #[.int .i64 a, y1, y2, y3]).rangeAt w6.heap.size 0 [.int .i64 a, y1, y2, y3]) := ((HST.out.later hb7).keptG (grown_setRow w7 w.heap.size _) (by simp; omega)).range
  have HF : Hid (SdP B w0 w g v (.returned (.tuple #[.string R, .string t, .agg #[.int .i64 a, y1, y2, y3]])) (w7.setRow w.heap.size #[.int .i64 a, y1, y2, y3])) := by
    have hgs := grown_setRow w7 w.heap.size #[.int .i64 a, y1, y2, y3]
    have hw4 := HG.out.1.size
    have hcE := HG.out.2.1.belS h4e HG.out.2.1.lt HG.out.2.1.size
    have hgE : w.grownBy w7 (some g) := ⟨h4e.os.trans HG.out.1.os, h4e.tape.trans HG.out.1.tape, h4e.output.trans HG.out.1.output, Nat.le_trans hw4 h4e.size, fun k hk hne => (h4e.block k (by omega)).trans (HG.out.1.block k hk hne)⟩
    have h5s := h45.size
    refine ⟨s, t, a, _, by rw [HR.out], ⟨hs, by omega, by omega, by omega⟩, ?_, hcE.kept hgs (by simp; omega) hcE.size (fun k hk => by simp at hk; omega), grow_then hgE hgs (fun j hj => by simp at hj; omega)⟩
    rw [HE.out.1, HE.out.2.1, HE.out.2.2]
    exact ((HS.out.1.later h47 (Nat.le_refl _)).setR (by omega) _).wide (by omega)
  clear HRT hb7 hb7d HS HQ HG HAL h45 h46 h47 h4e HR HE HST hm0 HRG hH
  refine wpAnyH_ready (rs := [6]) (by kernel_rfl) (by simp) ?_
  refine AllReadyH.cons rfl (fun K' hK' => ?_) AllReadyH.nil
  refine ite_of (fun _ => ?_) (fun h => absurd (by rfl) h)
  unfold Oper.wp
  simp [execOp, Act.eval, hrun.1, Result.andThen]
  refine hK'.out _ _ (HRG2.out) (fun hH => ?_)
  clear hK' K'
  try simp only [Act.put, List.setIfInBounds_toArray, List.set_cons_zero, List.set_cons_succ]
  refine wpAnyH_done (by kernel_rfl) ?_ _
  go_wp2_with fail
  refine ret_sig3 2 3 4 w.heap.size a (.string R) (.string t) y1 y2 y3 rfl rfl rfl rfl rfl hrun.2 ?_
  exact HF.out

theorem DrawSigned_any (w : World) (v : Value) (hc : Code w.heap.size w v) :
    Calls Tryd.prog 15 #[v] w fun e w' => ∃ (s t : ByteArray) (a : Nat) (u : Value), e = .returned (.tuple #[.string (rootA (poolL s)), .string t, u]) ∧ (s.size ≤ 5 ∧ 1 ≤ t.size ∧ t.size ≤ 9 ∧ a ≤ 15) ∧ SigIn w' w.heap.size u a (opN s a (bitsB t) 8) (shN s a (bitsB t) 8) (sdN (poolL s) a 4) ∧ Below w.heap.size w w' := by
  have hbA : Below w.heap.size w (w.alloc (.cells zSig 26)) := (Below.refl _ _).alloc (Nat.le_refl _) _
  have HM0 : Hid (SgM (w.alloc (.cells zSig 26)) w.heap.size 0 (.slice none 0 0) (.slice none 0 0) (.slice none 0 0)) := SgM.new w 0 _ _ _
  have hcA : Code (w.alloc (.cells zSig 26)).heap.size (w.alloc (.cells zSig 26)) v := by
    obtain ⟨ao, b, off, len, cap, rfl, hl, h1, h2⟩ := hc
    refine ⟨ao, b, off, len, cap, rfl, hl, fun h0 => ⟨(h1 h0).1, Nat.lt_of_lt_of_le (h1 h0).2 hbA.size⟩, fun j hj => ?_⟩
    obtain ⟨n, hn, hcl⟩ := h2 j hj
    exact ⟨n, hn, (hbA.cell (p := ⟨b, off + j, none⟩) (h1 (by omega)).2).trans hcl⟩
  have hnw := l01New_in _ v hcA
  have hwA : w.heap.size < (w.alloc (.cells zSig 26)).heap.size := by simp
  generalize hWA : w.alloc (.cells zSig 26) = wA at *
  clear hc hcA
  go_enter Tryd.func15, Tryd.ntmps15
  go_wp2_with fail
  simp only [zSig] at hWA
  rw [hWA]
  clear hWA
  refine hnw.mono ?_
  rintro e w1 ⟨g, rfl, hc1, hb1⟩
  clear hnw
  go_wp2_with fail
  refine (l05Signed_in wA.heap.size wA _ g v hc1).mono ?_
  rintro e w2 ⟨s, t, a, u, rfl, h1, h2, h3, h4⟩
  have hag : ∃ y1 y2 y3, u = .agg #[.int .i64 a, y1, y2, y3] ∧ (y1.oneCell' = true ∧ y2.oneCell' = true ∧ y3.oneCell' = true) := by
    obtain ⟨y1, y2, y3, _, _, _, h, ⟨k1, k2, k3⟩, _⟩ := h2
    exact ⟨y1, y2, y3, h, k1.one, k2.one, k3.one⟩
  obtain ⟨y1, y2, y3, rfl, o1, o2, o3⟩ := hag
  have hb2 : Below wA.heap.size wA w2 := h3.2.1
  have hm0 := HM0.out.later hb2
  have HF : Hid (∃ (s2 t2 : ByteArray) (a2 : Nat) (u : Value), Ending.returned (.tuple #[.string (rootA (poolL s)), .string t, .agg #[.int .i64 a, y1, y2, y3]]) = .returned (.tuple #[.string (rootA (poolL s2)), .string t2, u]) ∧ (s2.size ≤ 5 ∧ 1 ≤ t2.size ∧ t2.size ≤ 9 ∧ a2 ≤ 15) ∧ SigIn (w2.setRow w.heap.size #[.int .i64 a, y1, y2, y3]) w.heap.size u a2 (opN s2 a2 (bitsB t2) 8) (shN s2 a2 (bitsB t2) 8) (sdN (poolL s2) a2 4) ∧ Below w.heap.size w (w2.setRow w.heap.size #[.int .i64 a, y1, y2, y3])) :=
    ⟨s, t, a, _, rfl, h1, (h2.setR (by have := hb1.size; omega) _).wide (by have := hb1.size; omega), below_setRow (hbA.trans (hb2.mono hbA.size)) (Nat.le_refl _)⟩
  generalize rootA (poolL s) = R at *
  clear h1 h2 h3 h4 hc1 hb1 hb2 HM0
  go_wp2_with (refine wp_storeSig rfl _ _ rfl w.heap.size 0 a _ _ _ y1 y2 y3 hm0 rfl rfl o1 o2 o3 ?_; intro hfin)
  refine ret_sig3 2 3 4 w.heap.size a (.string R) (.string t) y1 y2 y3 rfl rfl rfl rfl rfl hfin ?_
  exact HF.out

end Go.Proofs.YtmfoliocibjdnaaDoor
