/-
  The walk of the law FnChains: it answers true of every code.
-/
import Derived.Test.YtlpbfafcaleifaaDoorHq
import Derived.Test.YtlpbfafcaleifaaDoorHs
import Derived.Test.YtlpbfafcaleifaaDoorHu
import Derived.Test.YtlpbfafcaleifaaDoorHhd
import Derived.Test.YtlpbfafcaleifaaDoorTrn
import Derived.Test.YtlpbfafcaleifaaDoorDd
import Derived.Deep.RegionHeld3
import Derived.Deep.MidRow
namespace Go.Proofs.YtlpbfafcaleifaaDoor
open Go.RowKit Go.BigFrame Go.Sort
set_option linter.unusedVariables false
set_option linter.unusedSimpArgs false

theorem nd_le : ∀ (f n : Nat), n < 10 ^ f → Lib.nDigits n ≤ f + 1
  | 0, n, h => by rw [Lib.nDigits_small (by omega)]; omega
  | f + 1, n, h => by
    by_cases h1 : n < 10
    · rw [Lib.nDigits_small h1]; omega
    · rw [Lib.nDigits_big h1]
      have := nd_le f (n / 10) (by rw [Nat.pow_succ] at h; omega)
      omega
theorem decimal_some (n : Nat) (w : World) (hn : n < 10000) : Calls Tryd.prog 13 #[.int .i64 (n : Int)] w fun e w' => ∃ t : ByteArray, t.size ≤ 20 ∧ e = .returned (.string t) ∧ Below w.heap.size w w' := by
  have hz : (⟨(Lib.decDigits n).toArray⟩ : ByteArray).size ≤ 20 := by
    show (Lib.decDigits n).toArray.size ≤ 20
    have := nd_le 4 n (by omega)
    rw [List.size_toArray, Lib.decDigits_length]
    omega
  by_cases h0 : n = 0
  · subst h0
    exact (D.Decimal_zero w).mono fun e w' ⟨he, hb⟩ => ⟨_, hz, he, hb⟩
  · exact (D.Decimal_pos n w (by omega) (by omega)).mono fun e w' ⟨he, hb⟩ => ⟨_, hz, he, hb⟩

theorem rs_one {g g' : Nat} (w : World) (X : Hd) (hg : g = w.heap.size) (hg' : g' = w.heap.size) : RS 4 hcs (w.alloc (.cells #[.int .i64 X.h, .int .i64 X.e, .string X.r, .string X.p] 33)) (.slice (some ⟨g, 0, none⟩) 1 1) g' 0 [X] := by
  subst hg
  subst hg'
  refine ⟨_, _, rfl, by simp, fun _ => ⟨rfl, by simp⟩, fun j hj => ?_⟩
  have : j = 0 := by simpa using hj
  subst this
  exact range_new w (hcs X) 33
theorem RS.drop1 {w : World} {g cap n m : Nat} {l : List Hd} (h : RS 4 hcs w (.slice (some ⟨g, 0, none⟩) n cap) g 0 l) (hm : l.length = m + 1) : RS 4 hcs w (.slice (some ⟨g, 4, none⟩) m (cap - 1)) g 4 (l.drop 1) := by
  obtain ⟨a, c, ev, hl, h0, hc⟩ := h
  refine ⟨_, _, by rw [List.length_drop, hm]; rfl, by rw [List.length_drop]; omega, fun _ => ⟨rfl, (h0 (by omega)).2⟩, fun j hj => ?_⟩
  rw [List.length_drop] at hj
  have := hc (j + 1) (by omega)
  rw [List.getElem_drop]
  have e : 0 + (j + 1) * 4 = 4 + j * 4 := by omega
  rw [e] at this
  simpa [Nat.add_comm] using this
theorem OH.madeAt {g : Nat} (B : Nat) (w0 w : World) (hb : Below B w0 w) (hB : B ≤ w.heap.size) (hg : g = w.heap.size) : OH B w0 (w.alloc (.cells #[] 33)) (.slice (some ⟨g, 0, none⟩) 0 0) [] := by
  subst hg
  exact OH.made B w0 w hb hB

set_option maxRecDepth 100000 in
set_option maxHeartbeats 16000000 in
theorem chainsLaw_any (ao : Option Addr) (len cap : Nat) (w : World) (hlen : len ≤ 1048576) (hc : Code w.heap.size w (.slice ao len cap)) (hK : TabK w) (hF : TabF w) :
    Calls Tryd.prog 3 #[.slice ao len cap] w fun e w' => e = .returned (.bool true) ∧ Below w.heap.size w w' := by
  have HC : Hid (∀ W, Below w.heap.size w W → Code W.heap.size W (.slice ao len cap)) := fun W hW => code_later hc hW
  have HT : Hid (∀ W, Below w.heap.size w W → Tb W) := fun W hW => Tb.later ⟨hK, hF⟩ hW
  clear hc hK hF
  go_enter Tryd.func3, Tryd.ntmps3
  go_wp2_with fail
  refine (big_no ao len cap _ hlen).mono ?_
  rintro e w1 ⟨rfl, rfl⟩
  go_wp2_with fail
  refine (DrawChain_any _ _ (HC.out _ (Below.refl _ _))).mono ?_
  rintro e w2 ⟨u, L, hs, rfl, hhs, hch, ho⟩
  obtain ⟨au, cu, rfl⟩ := ho.shape
  have hl4 := hch.len
  have HCH : Hid (HV.ChOk L hs) := hch
  have HO2 : Hid (OH w1.heap.size w1 w2 (.slice au L.length cu) L) := ho
  clear ho hch
  go_wp2_with fail
  refine (DrawPlaces_any _ _ (HC.out _ HO2.out.2.1)).mono ?_
  rintro e w3 ⟨pl, rfl, ⟨gp, pc, xs, rfl, hxl, hxs, hg1, hg2, hcells⟩, hb3⟩
  have x0 := hcells 0 (by omega)
  have x1 := hcells 1 (by omega)
  have y0 : xs[0] < 10000 := hxs _ (List.getElem_mem _)
  have y1 : xs[1] < 10000 := hxs _ (List.getElem_mem _)
  generalize xs[0] = p0 at *
  generalize xs[1] = p1 at *
  have HO3 : Hid (OH w1.heap.size w1 w3 (.slice au L.length cu) L ∧ gp < w3.heap.size ∧ w3.cell? ⟨gp, 0, none⟩ = some (.int .i64 (p0 : Int)) ∧ w3.cell? ⟨gp, 1, none⟩ = some (.int .i64 (p1 : Int))) := ⟨HO2.out.later hb3, hg2, x0, x1⟩
  clear HO2 hb3 hcells hxs hg1 hg2 x0 x1 hxl HC
  obtain ⟨q, hrw, hq, _⟩ := HO3.out.1.rw (by omega)
  have hCO := ChainOk_any _ q 0 L hs w3 hrw.1 HO3.out.1.cap (HT.out _ HO3.out.1.2.1)
  rw [HV.chB_iff.2 HCH.out] at hCO
  go_wp2_with fail
  refine hCO.mono ?_
  rintro e w4 ⟨rfl, hb4⟩
  have HO4 : Hid (OH w1.heap.size w1 w4 (.slice au L.length cu) L ∧ gp < w4.heap.size ∧ w4.cell? ⟨gp, 0, none⟩ = some (.int .i64 (p0 : Int)) ∧ w4.cell? ⟨gp, 1, none⟩ = some (.int .i64 (p1 : Int))) := ⟨HO3.out.1.later hb4, Nat.lt_of_lt_of_le HO3.out.2.1 hb4.size, (hb4.cell (p := ⟨gp, 0, none⟩) HO3.out.2.1).trans HO3.out.2.2.1, (hb4.cell (p := ⟨gp, 1, none⟩) HO3.out.2.1).trans HO3.out.2.2.2⟩
  clear hCO HO3 hb4 hrw
  have x0 := HO4.out.2.2.1
  go_wp2_with fail
  refine (decimal_some p0 _ y0).mono ?_
  rintro e w5 ⟨t, htz, rfl, hb5⟩
  have hCD := sCutDigest_yes t 16 w5 (by omega) (by omega) (by omega)
  have hrz := cutB_size t 16 (by omega)
  generalize cutB (digB t) 16 = root at *
  clear x0
  go_wp2_with fail
  refine hCD.mono ?_
  rintro e w6 ⟨rfl, hb6'⟩
  have hb6 : Below w4.heap.size w4 w6 := hb5.trans (hb6'.mono hb5.size)
  have HO6 : Hid (OH w1.heap.size w1 w6 (.slice au L.length cu) L ∧ gp < w6.heap.size ∧ w6.cell? ⟨gp, 0, none⟩ = some (.int .i64 (p0 : Int)) ∧ w6.cell? ⟨gp, 1, none⟩ = some (.int .i64 (p1 : Int))) := ⟨HO4.out.1.later hb6, Nat.lt_of_lt_of_le HO4.out.2.1 hb6.size, (hb6.cell (p := ⟨gp, 0, none⟩) HO4.out.2.1).trans HO4.out.2.2.1, (hb6.cell (p := ⟨gp, 1, none⟩) HO4.out.2.1).trans HO4.out.2.2.2⟩
  clear hCD HO4 hb5 hb6' hb6
  obtain ⟨q6, hrw6, _, _⟩ := HO6.out.1.rw (by omega)
  have hNX := NextHead_any _ q6 0 L hs root w6 hrw6.1 HO6.out.1.cap (HT.out _ HO6.out.1.2.1)
  have HNA : Hid (HV.nxOk L hs root = true → HV.chB (L ++ [HV.nxA L hs root]) hs = true ∧ (HV.nxA L hs root).r = root) := fun h => HV.nx_add HCH.out h
  rw [HV.nx_ok HCH.out hhs hrz] at hNX HNA
  generalize HV.nxA L hs root = X at *
  clear hrw6
  go_wp2_with fail
  refine hNX.mono ?_
  rintro e w7 ⟨rfl, hb7⟩
  have HO7 : Hid (OH w1.heap.size w1 (w7.alloc (.cells #[.int .i64 X.h, .int .i64 X.e, .string X.r, .string X.p] 33)) (.slice au L.length cu) L ∧ gp < (w7.alloc (.cells #[.int .i64 X.h, .int .i64 X.e, .string X.r, .string X.p] 33)).heap.size ∧ (w7.alloc (.cells #[.int .i64 X.h, .int .i64 X.e, .string X.r, .string X.p] 33)).cell? ⟨gp, 0, none⟩ = some (.int .i64 (p0 : Int)) ∧ (w7.alloc (.cells #[.int .i64 X.h, .int .i64 X.e, .string X.r, .string X.p] 33)).cell? ⟨gp, 1, none⟩ = some (.int .i64 (p1 : Int)) ∧ BH (w7.alloc (.cells #[.int .i64 X.h, .int .i64 X.e, .string X.r, .string X.p] 33)) w7.heap.size X) := by
    have hb : Below w6.heap.size w6 (w7.alloc (.cells #[.int .i64 X.h, .int .i64 X.e, .string X.r, .string X.p] 33)) := hb7.alloc hb7.size _
    exact ⟨HO6.out.1.later hb, Nat.lt_of_lt_of_le HO6.out.2.1 hb.size, (hb.cell (p := ⟨gp, 0, none⟩) HO6.out.2.1).trans HO6.out.2.2.1, (hb.cell (p := ⟨gp, 1, none⟩) HO6.out.2.1).trans HO6.out.2.2.2, BH.new w7 X⟩
  clear hNX HO6 hb7
  obtain ⟨n, hn⟩ : ∃ n, L.length = n := ⟨_, rfl⟩
  have HN : Hid (L.length = n) := hn
  rw [hn] at hl4 HNA HO7 ⊢
  clear hn
  by_cases h1 : n ≤ 1
  · have i1 : ¬ (1 : Int) < (n : Int) := by omega
    have i4 : decide (n < 4) = true := decide_eq_true (by omega)
    have i4' : (n : Int) < 4 := by omega
    rw [i4] at HNA ⊢
    have HS : Hid (OH w1.heap.size w1 (w7.alloc (.cells #[.int .i64 X.h, .int .i64 X.e, .string X.r, .string X.p] 33)) (.slice au n cu) L ∧ BH (w7.alloc (.cells #[.int .i64 X.h, .int .i64 X.e, .string X.r, .string X.p] 33)) w7.heap.size X) := ⟨HO7.out.1, HO7.out.2.2.2.2⟩
    clear HO7
    go_wp2_with fail
    generalize (w7.alloc (.cells #[.int .i64 X.h, .int .i64 X.e, .string X.r, .string X.p] 33)) = wS at *
    obtain ⟨hXc, hXr⟩ := HNA.out trivial
    have hXr' : (X.r.toList == root.toList) = true := by rw [hXr]; simp
    have hnil : au = none → cu = 0 := fun e => by
      rcases HS.out.1.1.2 with ⟨hv, _⟩ | ⟨g', cap', cur', hv, _⟩
      · simp at hv; omega
      · rw [e] at hv; simp at hv
    refine wp_abs (fun a => FR 105 a [(8, .bool true), (3, .slice au n cu), (4, .int .i64 hs), (6, .string root), (7, .pointer (some ⟨w7.heap.size, 0, none⟩))]) ⟨rfl, rfl, fun p hp => by simp only [List.mem_cons, List.not_mem_nil, or_false] at hp; rcases hp with rfl | rfl | rfl | rfl | rfl <;> rfl⟩ (fun a F => ?_)
    refine wp_region_held_drew (S := fun W => W.rangeAt w7.heap.size 0 (hcs X)) (by kernel_rfl) (HS.out.2.range) (fun hH => ?_)
    have HD : Hid (OH w1.heap.size w1 wS.drew (.slice au n cu) L ∧ BH wS.drew w7.heap.size X ∧ Below w1.heap.size w1 wS.drew) := by
      have hd : Below wS.heap.size wS wS.drew := (Below.refl _ _).drew
      exact ⟨HS.out.1.later hd, HS.out.2.later hd, HS.out.1.2.1.trans (hd.mono HS.out.1.2.2)⟩
    clear HS
    generalize wS.drew = wD at *
    have HR : Hid (∀ W, Below wD.heap.size wD W → ∃ q, RS 4 hcs W (.slice au n cu) q 0 L) := fun W hW => by
      obtain ⟨q, hrw, _, _⟩ := (HD.out.1.later hW).rw (by rw [HN.out]; omega)
      exact ⟨q, hrw.1⟩
    have HSX : Hid (∀ W, Below wD.heap.size wD W → W.rangeAt w7.heap.size 0 (hcs X)) := fun W hW => (HD.out.2.1.later hW).range
    have HFC : Hid (∀ W v8, OH wD.heap.size wD W v8 (L ++ [X]) → Calls Tryd.prog 11 #[v8, .int .i64 hs] W fun e w' => e = .returned (.bool true) ∧ Below wD.heap.size wD w') := fun W v8 h8 => by
      obtain ⟨q8, hrw8, _, _⟩ := h8.rw (by rw [List.length_append, HN.out]; simp; omega)
      have hC := ChainOk_any v8 q8 0 (L ++ [X]) hs W hrw8.1 h8.cap (HT.out W (HD.out.2.2.trans (h8.2.1.mono HD.out.1.2.2)))
      rw [hXc] at hC
      exact hC.mono fun e w' ⟨he, hb⟩ => ⟨he, h8.2.1.trans (hb.mono h8.2.2)⟩
    clear hXc hXr HNA HT
    have r8 := F.get 8 (.bool true) (by simp)
    refine takeF (i := 0) (v := .bool true) rfl (by kernel_rfl) (by kernel_rfl) (by kernel_rfl) (fun _ _ _ h => h) (Or.inl ⟨by rfl, fun w hw => by go_simp⟩) hH 87 rfl F (by decide) (by simp) (fun a F => ?_)
    clear r8
    have r87 := F.get 87 (.bool true) (by simp)
    refine takeF (i := 1) (v := .bool false) rfl (by kernel_rfl) (by kernel_rfl) (by kernel_rfl) (fun _ _ _ h => h) (Or.inl ⟨by rfl, fun w hw => by go_simp⟩) hH 88 rfl F (by decide) (by simp) (fun a F => ?_)
    clear r87
    have r88 := F.get 88 (.bool false) (by simp)
    refine takeF (i := 2) (v := .bool false) rfl (by kernel_rfl) (by kernel_rfl) (by kernel_rfl) (fun _ _ _ h => h) (Or.inl ⟨by rfl, fun w hw => by go_simp⟩) hH 89 rfl F (by decide) (by simp) (fun a F => ?_)
    clear r88
    have r3 := F.get 3 (.slice au n cu) (by simp)
    refine takeF (i := 4) (v := .slice au n cu) rfl (by kernel_rfl) (by kernel_rfl) (by kernel_rfl) (fun _ _ _ h => h) (Or.inl ⟨wanted_of 2 false 89 rfl rfl (F.at 89 _ (by simp)), fun w hw => by go_simp⟩) hH 91 rfl F (by decide) (by simp) (fun a F => ?_)
    clear r3
    have r4 := F.get 4 (.int .i64 hs) (by simp)
    refine takeF (i := 9) (v := .int .i64 hs) rfl (by kernel_rfl) (by kernel_rfl) (by kernel_rfl) (fun _ _ _ h => h) (Or.inl ⟨wanted_of 2 false 89 rfl rfl (F.at 89 _ (by simp)), fun w hw => by go_simp⟩) hH 96 rfl F (by decide) (by simp) (fun a F => ?_)
    clear r4
    refine takeF (i := 6) (v := .agg #[.int .i64 X.h, .int .i64 X.e, .string X.r, .string X.p]) rfl (by kernel_rfl) (by kernel_rfl) (by kernel_rfl) (fun _ _ _ h => h) (yieldsIf_load_mid (wanted_of 2 false 89 rfl rfl (F.at 89 _ (by simp))) _ _ rfl w7.heap.size 0 (F.eval 7 _ (by simp)) (hcs X) _ (fun w h => h) Tryd.underlying33 rfl sizeHead) hH 93 rfl F (by decide) (by simp) (fun a F => ?_)
    refine wpAnyH_ready (rs := [3, 7]) (by kernel_rfl) (by simp) ?_
    refine AllReadyH.cons rfl (fun K' hK' => ?_) (AllReadyH.cons rfl (fun K' hK' => ?_) AllReadyH.nil)
    · refine step_emptyH (wanted_of 2 false 89 rfl rfl (F.at 89 _ (by simp))) rfl ?_
      refine openK (v := .slice (some ⟨wD.heap.size, 0, none⟩) 0 0) 90 rfl F (by decide) (by simp) (fun a F => ?_)
      refine hK'.out _ _ (HSX.out _ ((Below.refl wD.heap.size wD).alloc (Nat.le_refl _) (.cells #[] 33))) (fun hH => ?_)
      refine wpAnyH_ready (rs := [5, 7]) (by kernel_rfl) (by simp) ?_
      refine AllReadyH.cons rfl (fun K' hK' => ?_) (AllReadyH.cons rfl (fun K' hK' => ?_) AllReadyH.nil)
      · obtain ⟨q1, r1⟩ := HR.out _ ((Below.refl wD.heap.size wD).alloc (Nat.le_refl _) (.cells #[] 33))
        refine step_growH (wanted_of 2 false 89 rfl rfl (F.at 89 _ (by simp))) (.tmp 90) (.tmp 91) rfl wD.heap.size wD _ [] (F.eval 90 _ (by simp)) (OH.made wD.heap.size wD wD (Below.refl _ _) (Nat.le_refl _)) au n cu q1 0 L HN.out (F.eval 91 _ (by simp)) r1 hnil (by simp; rw [HN.out]; omega) ?_
        intro v3 w3 ho3 hg3
        rw [List.nil_append] at ho3
        refine openK (v := v3) 92 rfl F (by decide) (by simp) (fun a F => ?_)
        refine hK'.out _ _ (HSX.out _ ho3.2.1) (fun hH => ?_)
        refine wpAnyH_ready (rs := [7]) (by kernel_rfl) (by simp) ?_
        refine AllReadyH.cons rfl (fun K' hK' => ?_) AllReadyH.nil
        refine step_oneH (wanted_of 2 false 89 rfl rfl (F.at 89 _ (by simp))) (.tmp 93) rfl X (F.eval 93 _ (by simp)) ?_
        refine openK (v := .slice (some ⟨w3.heap.size, 0, none⟩) 1 1) 94 rfl F (by decide) (by simp) (fun a F => ?_)
        refine hK'.out _ _ (HSX.out _ (ho3.2.1.alloc ho3.2.2 (.cells #[.int .i64 X.h, .int .i64 X.e, .string X.r, .string X.p] 33))) (fun hH => ?_)
        refine wpAnyH_ready (rs := [8]) (by kernel_rfl) (by simp) ?_
        refine AllReadyH.cons rfl (fun K' hK' => ?_) AllReadyH.nil
        refine step_growH (wanted_of 2 false 89 rfl rfl (F.at 89 _ (by simp))) (.tmp 92) (.tmp 94) rfl wD.heap.size wD _ _ (F.eval 92 _ (by simp)) (ho3.later ((Below.refl w3.heap.size w3).alloc (Nat.le_refl _) (.cells #[.int .i64 X.h, .int .i64 X.e, .string X.r, .string X.p] 33))) (some ⟨w3.heap.size, 0, none⟩) 1 1 w3.heap.size 0 [X] rfl (F.eval 94 _ (by simp)) (rs_one w3 X rfl rfl) (by simp) (by simp; rw [HN.out]; omega) ?_
        intro v8 w8 ho8 hg8
        refine openK (v := v8) 95 rfl F (by decide) (by simp) (fun a F => ?_)
        refine hK'.out _ _ (HSX.out _ ho8.2.1) (fun hH => ?_)
        refine wpAnyH_ready (rs := [10]) (by kernel_rfl) (by simp) ?_
        refine AllReadyH.cons rfl (fun K' hK' => ?_) AllReadyH.nil
        refine step_chainH (wanted_of 2 false 89 rfl rfl (F.at 89 _ (by simp))) 95 96 _ rfl _ _ _ _ (F.get 95 _ (by simp)) (F.get 96 _ (by simp)) (HFC.out _ _ ho8) ?_
        intro w9 hb9
        refine openK (v := .bool true) 97 rfl F (by decide) (by simp) (fun a F => ?_)
        refine hK'.out _ _ (HSX.out _ hb9) (fun hH => ?_)
        have r97 := F.get 97 (.bool true) (by simp)
        refine takeF (i := 11) (v := .bool true) rfl (by kernel_rfl) (by kernel_rfl) (by kernel_rfl) (fun _ _ _ h => h) (Or.inl ⟨wanted_of 2 false 89 rfl rfl (F.at 89 _ (by simp)), fun w hw => by go_simp⟩) hH 98 rfl F (by decide) (by simp) (fun a F => ?_)
        clear r97
        have r7 := F.get 7 (.pointer (some ⟨w7.heap.size, 0, none⟩)) (by simp)
        refine takeF (i := 12) (v := .pointer (some ⟨w7.heap.size, 2, none⟩)) rfl (by kernel_rfl) (by kernel_rfl) (by kernel_rfl) (fun _ _ _ h => h) (Or.inl ⟨wanted_of 11 true 98 rfl rfl (F.at 98 _ (by simp)), fun w hw => by go_simp⟩) hH 99 rfl F (by decide) (by simp) (fun a F => ?_)
        clear r7
        have r99 := F.get 99 (.pointer (some ⟨w7.heap.size, 2, none⟩)) (by simp)
        refine takeF (i := 13) (v := .string X.r) rfl (by kernel_rfl) (by kernel_rfl) (by kernel_rfl) (fun _ _ _ h => h) (Or.inl ⟨wanted_of 11 true 98 rfl rfl (F.at 98 _ (by simp)), fun w hw => by have hw2 := hw 2 _ rfl; simp only [Nat.zero_add] at hw2; go_simp⟩) hH 100 rfl F (by decide) (by simp) (fun a F => ?_)
        clear r99
        have r6 := F.get 6 (.string root) (by simp)
        refine takeF (i := 14) (v := .string root) rfl (by kernel_rfl) (by kernel_rfl) (by kernel_rfl) (fun _ _ _ h => h) (Or.inl ⟨wanted_of 11 true 98 rfl rfl (F.at 98 _ (by simp)), fun w hw => by go_simp⟩) hH 101 rfl F (by decide) (by simp) (fun a F => ?_)
        clear r6
        have r100 := F.get 100 (.string X.r) (by simp)
        have r101 := F.get 101 (.string root) (by simp)
        refine takeF (i := 15) (v := .bool true) rfl (by kernel_rfl) (by kernel_rfl) (by kernel_rfl) (fun _ _ _ h => h) (Or.inl ⟨wanted_of 11 true 98 rfl rfl (F.at 98 _ (by simp)), fun w hw => by go_simp⟩) hH 102 rfl F (by decide) (by simp) (fun a F => ?_)
        clear r100 r101
        have r98 := F.get 98 (.bool true) (by simp)
        have r102 := F.get 102 (.bool true) (by simp)
        refine takeF (i := 16) (v := .bool true) rfl (by kernel_rfl) (by kernel_rfl) (by kernel_rfl) (fun _ _ _ h => h) (Or.inl ⟨wanted_of 2 false 89 rfl rfl (F.at 89 _ (by simp)), fun w hw => by go_simp⟩) hH 103 rfl F (by decide) (by simp) (fun a F => ?_)
        clear r98 r102
        have r89 := F.get 89 (.bool false) (by simp)
        have r103 := F.get 103 (.bool true) (by simp)
        refine takeF (i := 17) (v := .bool true) rfl (by kernel_rfl) (by kernel_rfl) (by kernel_rfl) (fun _ _ _ h => h) (Or.inl ⟨by rfl, fun w hw => by go_simp⟩) hH 104 rfl F (by decide) (by simp) (fun a F => ?_)
        clear r89 r103
        have r104 := F.get 104 (.bool true) (by simp)
        refine takeF (i := 18) (v := .bool true) rfl (by kernel_rfl) (by kernel_rfl) (by kernel_rfl) (fun _ _ _ h => h) (Or.inl ⟨by rfl, fun w hw => by go_simp⟩) hH 2 rfl F (by decide) (by simp) (fun a F => ?_)
        clear r104
        refine wpAnyH_done (by kernel_rfl) ?_ _
        have hbF := HD.out.2.2.trans (hb9.mono HD.out.1.2.2)
        have hd := F.2.1
        have r2 := F.get 2 (.bool true) (by simp)
        clear HD HR HFC HSX ho8 hb9 hH F
        go_wp2
        exact ret_tmpF 2 (.bool true) rfl hd r2 ⟨rfl, hbF⟩
      · refine step_oneH (wanted_of 2 false 89 rfl rfl (F.at 89 _ (by simp))) (.tmp 93) rfl X (F.eval 93 _ (by simp)) ?_
        rw [World.size_alloc]
        refine openK (v := .slice (some ⟨wD.heap.size + 1, 0, none⟩) 1 1) 94 rfl F (by decide) (by simp) (fun a F => ?_)
        refine hK'.out _ _ (HSX.out _ (((Below.refl wD.heap.size wD).alloc (Nat.le_refl _) (.cells #[] 33)).alloc (by simp) (.cells #[.int .i64 X.h, .int .i64 X.e, .string X.r, .string X.p] 33))) (fun hH => ?_)
        refine wpAnyH_ready (rs := [5]) (by kernel_rfl) (by simp) ?_
        refine AllReadyH.cons rfl (fun K' hK' => ?_) AllReadyH.nil
        obtain ⟨q1, r1⟩ := HR.out _ (((Below.refl wD.heap.size wD).alloc (Nat.le_refl _) (.cells #[] 33)).alloc (by simp) (.cells #[.int .i64 X.h, .int .i64 X.e, .string X.r, .string X.p] 33))
        have hX1 := rs_one (g := wD.heap.size + 1) (g' := wD.heap.size + 1) (wD.alloc (.cells #[] 33)) X (by simp) (by simp)
        refine step_growH (wanted_of 2 false 89 rfl rfl (F.at 89 _ (by simp))) (.tmp 90) (.tmp 91) rfl wD.heap.size wD _ [] (F.eval 90 _ (by simp)) ((OH.made wD.heap.size wD wD (Below.refl _ _) (Nat.le_refl _)).later ((Below.refl _ _).alloc (Nat.le_refl _) (.cells #[.int .i64 X.h, .int .i64 X.e, .string X.r, .string X.p] 33))) au n cu q1 0 L HN.out (F.eval 91 _ (by simp)) r1 hnil (by simp; rw [HN.out]; omega) ?_
        intro v3 w3 ho3 hg3
        rw [List.nil_append] at ho3
        have hX2 := hX1.grown hg3 (by simp [Value.ownBlock])
        refine openK (v := v3) 92 rfl F (by decide) (by simp) (fun a F => ?_)
        refine hK'.out _ _ (HSX.out _ ho3.2.1) (fun hH => ?_)
        refine wpAnyH_ready (rs := [8]) (by kernel_rfl) (by simp) ?_
        refine AllReadyH.cons rfl (fun K' hK' => ?_) AllReadyH.nil
        refine step_growH (wanted_of 2 false 89 rfl rfl (F.at 89 _ (by simp))) (.tmp 92) (.tmp 94) rfl wD.heap.size wD _ _ (F.eval 92 _ (by simp)) ho3 (some ⟨wD.heap.size + 1, 0, none⟩) 1 1 (wD.heap.size + 1) 0 [X] rfl (F.eval 94 _ (by simp)) hX2 (by simp) (by simp; rw [HN.out]; omega) ?_
        intro v8 w8 ho8 hg8
        refine openK (v := v8) 95 rfl F (by decide) (by simp) (fun a F => ?_)
        refine hK'.out _ _ (HSX.out _ ho8.2.1) (fun hH => ?_)
        refine wpAnyH_ready (rs := [10]) (by kernel_rfl) (by simp) ?_
        refine AllReadyH.cons rfl (fun K' hK' => ?_) AllReadyH.nil
        refine step_chainH (wanted_of 2 false 89 rfl rfl (F.at 89 _ (by simp))) 95 96 _ rfl _ _ _ _ (F.get 95 _ (by simp)) (F.get 96 _ (by simp)) (HFC.out _ _ ho8) ?_
        intro w9 hb9
        refine openK (v := .bool true) 97 rfl F (by decide) (by simp) (fun a F => ?_)
        refine hK'.out _ _ (HSX.out _ hb9) (fun hH => ?_)
        have r97 := F.get 97 (.bool true) (by simp)
        refine takeF (i := 11) (v := .bool true) rfl (by kernel_rfl) (by kernel_rfl) (by kernel_rfl) (fun _ _ _ h => h) (Or.inl ⟨wanted_of 2 false 89 rfl rfl (F.at 89 _ (by simp)), fun w hw => by go_simp⟩) hH 98 rfl F (by decide) (by simp) (fun a F => ?_)
        clear r97
        have r7 := F.get 7 (.pointer (some ⟨w7.heap.size, 0, none⟩)) (by simp)
        refine takeF (i := 12) (v := .pointer (some ⟨w7.heap.size, 2, none⟩)) rfl (by kernel_rfl) (by kernel_rfl) (by kernel_rfl) (fun _ _ _ h => h) (Or.inl ⟨wanted_of 11 true 98 rfl rfl (F.at 98 _ (by simp)), fun w hw => by go_simp⟩) hH 99 rfl F (by decide) (by simp) (fun a F => ?_)
        clear r7
        have r99 := F.get 99 (.pointer (some ⟨w7.heap.size, 2, none⟩)) (by simp)
        refine takeF (i := 13) (v := .string X.r) rfl (by kernel_rfl) (by kernel_rfl) (by kernel_rfl) (fun _ _ _ h => h) (Or.inl ⟨wanted_of 11 true 98 rfl rfl (F.at 98 _ (by simp)), fun w hw => by have hw2 := hw 2 _ rfl; simp only [Nat.zero_add] at hw2; go_simp⟩) hH 100 rfl F (by decide) (by simp) (fun a F => ?_)
        clear r99
        have r6 := F.get 6 (.string root) (by simp)
        refine takeF (i := 14) (v := .string root) rfl (by kernel_rfl) (by kernel_rfl) (by kernel_rfl) (fun _ _ _ h => h) (Or.inl ⟨wanted_of 11 true 98 rfl rfl (F.at 98 _ (by simp)), fun w hw => by go_simp⟩) hH 101 rfl F (by decide) (by simp) (fun a F => ?_)
        clear r6
        have r100 := F.get 100 (.string X.r) (by simp)
        have r101 := F.get 101 (.string root) (by simp)
        refine takeF (i := 15) (v := .bool true) rfl (by kernel_rfl) (by kernel_rfl) (by kernel_rfl) (fun _ _ _ h => h) (Or.inl ⟨wanted_of 11 true 98 rfl rfl (F.at 98 _ (by simp)), fun w hw => by go_simp⟩) hH 102 rfl F (by decide) (by simp) (fun a F => ?_)
        clear r100 r101
        have r98 := F.get 98 (.bool true) (by simp)
        have r102 := F.get 102 (.bool true) (by simp)
        refine takeF (i := 16) (v := .bool true) rfl (by kernel_rfl) (by kernel_rfl) (by kernel_rfl) (fun _ _ _ h => h) (Or.inl ⟨wanted_of 2 false 89 rfl rfl (F.at 89 _ (by simp)), fun w hw => by go_simp⟩) hH 103 rfl F (by decide) (by simp) (fun a F => ?_)
        clear r98 r102
        have r89 := F.get 89 (.bool false) (by simp)
        have r103 := F.get 103 (.bool true) (by simp)
        refine takeF (i := 17) (v := .bool true) rfl (by kernel_rfl) (by kernel_rfl) (by kernel_rfl) (fun _ _ _ h => h) (Or.inl ⟨by rfl, fun w hw => by go_simp⟩) hH 104 rfl F (by decide) (by simp) (fun a F => ?_)
        clear r89 r103
        have r104 := F.get 104 (.bool true) (by simp)
        refine takeF (i := 18) (v := .bool true) rfl (by kernel_rfl) (by kernel_rfl) (by kernel_rfl) (fun _ _ _ h => h) (Or.inl ⟨by rfl, fun w hw => by go_simp⟩) hH 2 rfl F (by decide) (by simp) (fun a F => ?_)
        clear r104
        refine wpAnyH_done (by kernel_rfl) ?_ _
        have hbF := HD.out.2.2.trans (hb9.mono HD.out.1.2.2)
        have hd := F.2.1
        have r2 := F.get 2 (.bool true) (by simp)
        clear HD HR HFC HSX ho8 hb9 hH F
        go_wp2
        exact ret_tmpF 2 (.bool true) rfl hd r2 ⟨rfl, hbF⟩
    · refine step_oneH (wanted_of 2 false 89 rfl rfl (F.at 89 _ (by simp))) (.tmp 93) rfl X (F.eval 93 _ (by simp)) ?_
      refine openK (v := .slice (some ⟨wD.heap.size, 0, none⟩) 1 1) 94 rfl F (by decide) (by simp) (fun a F => ?_)
      refine hK'.out _ _ (HSX.out _ ((Below.refl wD.heap.size wD).alloc (Nat.le_refl _) (.cells #[.int .i64 X.h, .int .i64 X.e, .string X.r, .string X.p] 33))) (fun hH => ?_)
      refine wpAnyH_ready (rs := [3]) (by kernel_rfl) (by simp) ?_
      refine AllReadyH.cons rfl (fun K' hK' => ?_) AllReadyH.nil
      refine step_emptyH (wanted_of 2 false 89 rfl rfl (F.at 89 _ (by simp))) rfl ?_
      rw [World.size_alloc]
      refine openK (v := .slice (some ⟨wD.heap.size + 1, 0, none⟩) 0 0) 90 rfl F (by decide) (by simp) (fun a F => ?_)
      refine hK'.out _ _ (HSX.out _ (((Below.refl wD.heap.size wD).alloc (Nat.le_refl _) (.cells #[.int .i64 X.h, .int .i64 X.e, .string X.r, .string X.p] 33)).alloc (by simp) (.cells #[] 33))) (fun hH => ?_)
      refine wpAnyH_ready (rs := [5]) (by kernel_rfl) (by simp) ?_
      refine AllReadyH.cons rfl (fun K' hK' => ?_) AllReadyH.nil
      obtain ⟨q1, r1⟩ := HR.out _ (((Below.refl wD.heap.size wD).alloc (Nat.le_refl _) (.cells #[.int .i64 X.h, .int .i64 X.e, .string X.r, .string X.p] 33)).alloc (by simp) (.cells #[] 33))
      have hX1 := (rs_one wD X rfl rfl).later ((Below.refl _ _).alloc (Nat.le_refl _) (.cells #[] 33))
      refine step_growH (wanted_of 2 false 89 rfl rfl (F.at 89 _ (by simp))) (.tmp 90) (.tmp 91) rfl wD.heap.size wD _ [] (F.eval 90 _ (by simp)) (OH.madeAt (g := wD.heap.size + 1) wD.heap.size wD (wD.alloc (.cells #[.int .i64 X.h, .int .i64 X.e, .string X.r, .string X.p] 33)) ((Below.refl wD.heap.size wD).alloc (Nat.le_refl _) (.cells #[.int .i64 X.h, .int .i64 X.e, .string X.r, .string X.p] 33)) (by simp) (by simp)) au n cu q1 0 L HN.out (F.eval 91 _ (by simp)) r1 hnil (by simp; rw [HN.out]; omega) ?_
      intro v3 w3 ho3 hg3
      rw [List.nil_append] at ho3
      have hX2 := hX1.grown hg3 (by simp [Value.ownBlock])
      refine openK (v := v3) 92 rfl F (by decide) (by simp) (fun a F => ?_)
      refine hK'.out _ _ (HSX.out _ ho3.2.1) (fun hH => ?_)
      refine wpAnyH_ready (rs := [8]) (by kernel_rfl) (by simp) ?_
      refine AllReadyH.cons rfl (fun K' hK' => ?_) AllReadyH.nil
      refine step_growH (wanted_of 2 false 89 rfl rfl (F.at 89 _ (by simp))) (.tmp 92) (.tmp 94) rfl wD.heap.size wD _ _ (F.eval 92 _ (by simp)) ho3 (some ⟨wD.heap.size, 0, none⟩) 1 1 wD.heap.size 0 [X] rfl (F.eval 94 _ (by simp)) hX2 (by simp) (by simp; rw [HN.out]; omega) ?_
      intro v8 w8 ho8 hg8
      refine openK (v := v8) 95 rfl F (by decide) (by simp) (fun a F => ?_)
      refine hK'.out _ _ (HSX.out _ ho8.2.1) (fun hH => ?_)
      refine wpAnyH_ready (rs := [10]) (by kernel_rfl) (by simp) ?_
      refine AllReadyH.cons rfl (fun K' hK' => ?_) AllReadyH.nil
      refine step_chainH (wanted_of 2 false 89 rfl rfl (F.at 89 _ (by simp))) 95 96 _ rfl _ _ _ _ (F.get 95 _ (by simp)) (F.get 96 _ (by simp)) (HFC.out _ _ ho8) ?_
      intro w9 hb9
      refine openK (v := .bool true) 97 rfl F (by decide) (by simp) (fun a F => ?_)
      refine hK'.out _ _ (HSX.out _ hb9) (fun hH => ?_)
      have r97 := F.get 97 (.bool true) (by simp)
      refine takeF (i := 11) (v := .bool true) rfl (by kernel_rfl) (by kernel_rfl) (by kernel_rfl) (fun _ _ _ h => h) (Or.inl ⟨wanted_of 2 false 89 rfl rfl (F.at 89 _ (by simp)), fun w hw => by go_simp⟩) hH 98 rfl F (by decide) (by simp) (fun a F => ?_)
      clear r97
      have r7 := F.get 7 (.pointer (some ⟨w7.heap.size, 0, none⟩)) (by simp)
      refine takeF (i := 12) (v := .pointer (some ⟨w7.heap.size, 2, none⟩)) rfl (by kernel_rfl) (by kernel_rfl) (by kernel_rfl) (fun _ _ _ h => h) (Or.inl ⟨wanted_of 11 true 98 rfl rfl (F.at 98 _ (by simp)), fun w hw => by go_simp⟩) hH 99 rfl F (by decide) (by simp) (fun a F => ?_)
      clear r7
      have r99 := F.get 99 (.pointer (some ⟨w7.heap.size, 2, none⟩)) (by simp)
      refine takeF (i := 13) (v := .string X.r) rfl (by kernel_rfl) (by kernel_rfl) (by kernel_rfl) (fun _ _ _ h => h) (Or.inl ⟨wanted_of 11 true 98 rfl rfl (F.at 98 _ (by simp)), fun w hw => by have hw2 := hw 2 _ rfl; simp only [Nat.zero_add] at hw2; go_simp⟩) hH 100 rfl F (by decide) (by simp) (fun a F => ?_)
      clear r99
      have r6 := F.get 6 (.string root) (by simp)
      refine takeF (i := 14) (v := .string root) rfl (by kernel_rfl) (by kernel_rfl) (by kernel_rfl) (fun _ _ _ h => h) (Or.inl ⟨wanted_of 11 true 98 rfl rfl (F.at 98 _ (by simp)), fun w hw => by go_simp⟩) hH 101 rfl F (by decide) (by simp) (fun a F => ?_)
      clear r6
      have r100 := F.get 100 (.string X.r) (by simp)
      have r101 := F.get 101 (.string root) (by simp)
      refine takeF (i := 15) (v := .bool true) rfl (by kernel_rfl) (by kernel_rfl) (by kernel_rfl) (fun _ _ _ h => h) (Or.inl ⟨wanted_of 11 true 98 rfl rfl (F.at 98 _ (by simp)), fun w hw => by go_simp⟩) hH 102 rfl F (by decide) (by simp) (fun a F => ?_)
      clear r100 r101
      have r98 := F.get 98 (.bool true) (by simp)
      have r102 := F.get 102 (.bool true) (by simp)
      refine takeF (i := 16) (v := .bool true) rfl (by kernel_rfl) (by kernel_rfl) (by kernel_rfl) (fun _ _ _ h => h) (Or.inl ⟨wanted_of 2 false 89 rfl rfl (F.at 89 _ (by simp)), fun w hw => by go_simp⟩) hH 103 rfl F (by decide) (by simp) (fun a F => ?_)
      clear r98 r102
      have r89 := F.get 89 (.bool false) (by simp)
      have r103 := F.get 103 (.bool true) (by simp)
      refine takeF (i := 17) (v := .bool true) rfl (by kernel_rfl) (by kernel_rfl) (by kernel_rfl) (fun _ _ _ h => h) (Or.inl ⟨by rfl, fun w hw => by go_simp⟩) hH 104 rfl F (by decide) (by simp) (fun a F => ?_)
      clear r89 r103
      have r104 := F.get 104 (.bool true) (by simp)
      refine takeF (i := 18) (v := .bool true) rfl (by kernel_rfl) (by kernel_rfl) (by kernel_rfl) (fun _ _ _ h => h) (Or.inl ⟨by rfl, fun w hw => by go_simp⟩) hH 2 rfl F (by decide) (by simp) (fun a F => ?_)
      clear r104
      refine wpAnyH_done (by kernel_rfl) ?_ _
      have hbF := HD.out.2.2.trans (hb9.mono HD.out.1.2.2)
      have hd := F.2.1
      have r2 := F.get 2 (.bool true) (by simp)
      clear HD HR HFC HSX ho8 hb9 hH F
      go_wp2
      exact ret_tmpF 2 (.bool true) rfl hd r2 ⟨rfl, hbF⟩
  · have i1 : (1 : Int) < (n : Int) := by omega
    have i1' : decide (1 < n) = true := decide_eq_true (by omega)
    obtain ⟨m, hm⟩ : ∃ m, n = m + 1 := ⟨n - 1, by omega⟩
    obtain ⟨i, hi⟩ : ∃ i, p1 % m = i := ⟨_, rfl⟩
    have hilt : i < m := by rw [← hi]; exact Nat.mod_lt _ (by omega)
    have hiI : (p1 : Int) % (m : Int) = (i : Int) := by rw [← hi]; simp
    have hm0 : ((m : Int) == 0) = false := beq_eq_false_iff_ne.2 (by omega)
    have e1 : (n : Int) - 1 = (m : Int) := by omega
    have HM : Hid (n = m + 1) := hm
    clear hi h1 hm
    obtain ⟨b4, hb4⟩ : ∃ b, decide (n < 4) = b := ⟨_, rfl⟩
    have hb4' : decide ((n : Int) < 4) = b4 := by rw [← hb4]; congr 1; exact propext (by omega)
    rw [hb4] at HNA ⊢
    clear hb4
    have x1 := HO7.out.2.2.2.1
    have HBA : Hid (Below w1.heap.size w1 (w7.alloc (.cells #[.int .i64 X.h, .int .i64 X.e, .string X.r, .string X.p] 33))) := HO7.out.1.2.1
    have HOE : Hid (OH (w7.alloc (.cells #[.int .i64 X.h, .int .i64 X.e, .string X.r, .string X.p] 33)).heap.size (w7.alloc (.cells #[.int .i64 X.h, .int .i64 X.e, .string X.r, .string X.p] 33)) ((w7.alloc (.cells #[.int .i64 X.h, .int .i64 X.e, .string X.r, .string X.p] 33)).alloc (.cells #[] 33)) (.slice (some ⟨w7.heap.size + 1, 0, none⟩) 0 0) []) := OH.madeAt (w7.alloc (.cells #[.int .i64 X.h, .int .i64 X.e, .string X.r, .string X.p] 33)).heap.size (w7.alloc (.cells #[.int .i64 X.h, .int .i64 X.e, .string X.r, .string X.p] 33)) (w7.alloc (.cells #[.int .i64 X.h, .int .i64 X.e, .string X.r, .string X.p] 33)) (Below.refl _ _) (Nat.le_refl _) (by simp)
    obtain ⟨q, hrw, _, _⟩ := (HO7.out.1.later ((Below.refl (w7.alloc (.cells #[.int .i64 X.h, .int .i64 X.e, .string X.r, .string X.p] 33)).heap.size (w7.alloc (.cells #[.int .i64 X.h, .int .i64 X.e, .string X.r, .string X.p] 33))).alloc (Nat.le_refl _) (.cells #[] 33))).rw (by rw [HN.out]; omega)
    have hnil : au = none → cu = 0 := fun e => by
      rcases HO7.out.1.1.2 with ⟨hv, _⟩ | ⟨g', cap', cur', hv, _⟩
      · simp at hv; omega
      · rw [e] at hv; simp at hv
    have HRA : Hid (RS 4 hcs ((w7.alloc (.cells #[.int .i64 X.h, .int .i64 X.e, .string X.r, .string X.p] 33)).alloc (.cells #[] 33)) (.slice au L.length cu) q 0 L) := by
      show RS 4 hcs ((w7.alloc (.cells #[.int .i64 X.h, .int .i64 X.e, .string X.r, .string X.p] 33)).alloc (.cells #[] 33)) (.slice au L.length cu) q 0 L
      rw [HN.out]
      exact hrw.1
    clear hrw
    · go_wp2_with (at_builtin; refine wp_rowH rfl _ _ rfl (w7.alloc (.cells #[.int .i64 X.h, .int .i64 X.e, .string X.r, .string X.p] 33)).heap.size (w7.alloc (.cells #[.int .i64 X.h, .int .i64 X.e, .string X.r, .string X.p] 33)) (w7.heap.size + 1) rfl HOE.out au q 0 cu L (by rw [HN.out]; rfl) HRA.out hnil ?_)
      intro v8 w8 ho8
      obtain ⟨a8, c8, rfl⟩ := ho8.shape
      rw [HN.out] at ho8 ⊢
      have hbA : Below (w7.alloc (.cells #[.int .i64 X.h, .int .i64 X.e, .string X.r, .string X.p] 33)).heap.size (w7.alloc (.cells #[.int .i64 X.h, .int .i64 X.e, .string X.r, .string X.p] 33)) w8 := by simpa using ho8.2.1
      obtain ⟨qL, hrwA, _, hqLo⟩ := HO7.out.1.rw (by rw [HN.out]; omega)
      have hqA : qL < w7.heap.size + 1 := by have := hrwA.lt (by rw [HN.out]; omega); simpa using this
      obtain ⟨qO, hrwO, hqO, _⟩ := ho8.rw (by rw [HN.out]; omega)
      have HL8 : Hid (OH w1.heap.size w1 w8 (.slice au n cu) L ∧ RS 4 hcs w8 (.slice au n cu) qL 0 L ∧ BH w8 w7.heap.size X ∧ gp < w8.heap.size ∧ w8.cell? ⟨gp, 0, none⟩ = some (.int .i64 (p0 : Int)) ∧ w8.cell? ⟨gp, 1, none⟩ = some (.int .i64 (p1 : Int))) := ⟨HO7.out.1.later hbA, hrwA.1.later hbA, HO7.out.2.2.2.2.later hbA, Nat.lt_of_lt_of_le HO7.out.2.1 hbA.size, (hbA.cell (p := ⟨gp, 0, none⟩) HO7.out.2.1).trans HO7.out.2.2.1, (hbA.cell (p := ⟨gp, 1, none⟩) HO7.out.2.1).trans HO7.out.2.2.2.1⟩
      have HO8 : Hid (RW 4 hcs w8 (.slice a8 n c8) qO L ∧ w7.heap.size + 1 ≤ qO ∧ qL < w7.heap.size + 1) := ⟨hrwO, hqO, hqA⟩
      obtain ⟨rfl, _⟩ : au = some ⟨qL, 0, none⟩ ∧ True := by
        obtain ⟨a', c', ev, _, hA, _⟩ := HL8.out.2.1
        exact ⟨by simp at ev; rw [ev.1]; exact (hA (by rw [HN.out]; omega)).1, trivial⟩
      obtain ⟨rfl, _⟩ : a8 = some ⟨qO, 0, none⟩ ∧ True := by
        obtain ⟨⟨a', c', ev, _, hA, _⟩, _⟩ := HO8.out.1
        exact ⟨by simp at ev; rw [ev.1]; exact (hA (by rw [HN.out]; omega)).1, trivial⟩
      have hcO : n ≤ c8 := ho8.cap _ _ _ rfl
      have hcL : n ≤ cu := HO7.out.1.cap _ _ _ rfl
      clear ho8 HOE HRA hbA hrwA hrwO hqO hqA hqLo HO7 x1
      have hin : i < n := by have := HM.out; omega
      have i3 : (i : Int) < (n : Int) := by omega
      have i4 : (0 : Int) ≤ (i : Int) := by omega
      obtain ⟨c0, c1, c2, c3⟩ := HL8.out.2.1.head i (by rw [HN.out]; exact hin)
      rw [Nat.zero_add] at c0 c1 c2 c3
      obtain ⟨Z, hZ⟩ : ∃ Z, L[i]'(by rw [HN.out]; exact hin) = Z := ⟨_, rfl⟩
      rw [hZ] at c0 c1 c2 c3
      have HZ : Hid (L[i]'(by rw [HN.out]; exact hin) = Z) := hZ
      have hzr : Z.r.size = 16 := by rw [← hZ]; exact (HV.okH_iff.1 (HCH.out.at i (by rw [HN.out]; exact hin)).1).2.2.1
      clear hZ
      go_wp2_with fail
      refine (turned_all Z.r gp pc p0 p1 _ (by omega) y0 y1 HL8.out.2.2.2.1 HL8.out.2.2.2.2.1 HL8.out.2.2.2.2.2).mono ?_
      rintro e w9 ⟨r2, hr1, hr2, rfl, hb9⟩
      have HL9 : Hid (OH w1.heap.size w1 w9 (.slice (some ⟨qL, 0, none⟩) n cu) L ∧ RS 4 hcs w9 (.slice (some ⟨qL, 0, none⟩) n cu) qL 0 L ∧ BH w9 w7.heap.size X) := ⟨HL8.out.1.later hb9, HL8.out.2.1.later hb9, HL8.out.2.2.1.later hb9⟩
      have HO9 : Hid (RW 4 hcs w9 (.slice (some ⟨qO, 0, none⟩) n c8) qO L ∧ w7.heap.size + 1 ≤ qO ∧ qL < w7.heap.size + 1) := ⟨HO8.out.1.later hb9, HO8.out.2⟩
      clear HL8 HO8 hb9 c0 c1 c2 c3
      obtain ⟨⟨o0, t0⟩, ⟨o1, t1⟩, ⟨o2, t2⟩, ⟨o3, t3⟩, f0, f1, f2, f3⟩ := there4h (HO9.out.1.2 i (by rw [HN.out]; exact hin))
      have HW : Hid (OH w1.heap.size w1 (w9.setCell ⟨qO, i * 4 + 2, none⟩ (.string r2)) (.slice (some ⟨qL, 0, none⟩) n cu) L ∧ RS 4 hcs (w9.setCell ⟨qO, i * 4 + 2, none⟩ (.string r2)) (.slice (some ⟨qL, 0, none⟩) n cu) qL 0 L ∧ BH (w9.setCell ⟨qO, i * 4 + 2, none⟩ (.string r2)) w7.heap.size X ∧ RS 4 hcs (w9.setCell ⟨qO, i * 4 + 2, none⟩ (.string r2)) (.slice (some ⟨qO, 0, none⟩) n c8) qO 0 (L.set i ⟨Z.h, Z.e, r2, Z.p⟩)) := by
        have hg := grown_set w9 qO (i * 4 + 2) (.string r2)
        obtain ⟨h1, h2, h3⟩ := HO9.out
        have hB : w1.heap.size ≤ qO := by have := HBA.out.size; simp at this; omega
        refine ⟨HL9.out.1.grown hg (fun q hq => ⟨by simp at hq; omega, by simp [Value.ownBlock]; simp at hq; omega⟩), HL9.out.2.1.grown hg (fun _ => by simp; omega), HL9.out.2.2.grown hg (by simp; omega), (h1.setH i (by rw [HN.out]; exact hin) 2 (by omega) (.string r2) ⟨Z.h, Z.e, r2, Z.p⟩ (by rw [HZ.out]; rfl)).1⟩
      have HCN : Hid (HV.chB (L.set i ⟨Z.h, Z.e, r2, Z.p⟩) hs = true → HV.hashH ⟨Z.h, Z.e, r2, Z.p⟩ = HV.hashH Z) := fun h => by
        have := HV.turned_chain HCH.out (i := i) (by rw [HN.out, HM.out]; omega) h
        rw [HZ.out] at this
        exact this
      clear HL9 HO9 hr1 hr2
      go_wp2_with fail
      clear t0 t1 t2 t3 f0 f1 f2 f3 o0 o1 o2 o3
      generalize (w9.setCell ⟨qO, i * 4 + 2, none⟩ (.string r2)) = w10 at *
      obtain ⟨c0, c1, c2, c3⟩ := HW.out.2.1.head i (by rw [HN.out]; exact hin)
      obtain ⟨d0, d1, d2, d3⟩ := HW.out.2.2.2.head i (by rw [List.length_set, HN.out]; exact hin)
      rw [Nat.zero_add] at c0 c1 c2 c3 d0 d1 d2 d3
      rw [HZ.out] at c0 c1 c2 c3
      simp only [List.getElem_set_self] at d0 d1 d2 d3
      have HCO : Hid (∀ W, Below w10.heap.size w10 W → Calls Tryd.prog 11 #[.slice (some ⟨qO, 0, none⟩) n c8, .int .i64 hs] W fun e w' => e = .returned (.bool (HV.chB (L.set i ⟨Z.h, Z.e, r2, Z.p⟩) hs)) ∧ Below W.heap.size W w') := fun W hW => ChainOk_any _ qO 0 _ hs W (HW.out.2.2.2.later hW) (fun a n' c e => by simp at e; omega) (HT.out W (HW.out.1.2.1.trans (hW.mono HW.out.1.2.2)))
      have HCD : Hid (∀ W, Below w10.heap.size w10 W → Calls Tryd.prog 11 #[.slice (some ⟨qL, 4, none⟩) m (cu - 1), .int .i64 hs] W fun e w' => e = .returned (.bool false) ∧ Below W.heap.size W w') := fun W hW => by
        have hR := (HW.out.2.1.later hW).drop1 (m := m) (by rw [HN.out]; exact HM.out)
        have h := ChainOk_any _ qL 4 (L.drop 1) hs W hR (fun a n' c e => by simp at e; have := HM.out; omega) (HT.out W (HW.out.1.2.1.trans (hW.mono HW.out.1.2.2)))
        rw [HV.without_first HCH.out (by rw [HN.out, HM.out]; omega)] at h
        exact h
      have HH1 : Hid (∀ W, Calls Tryd.prog 16 #[.agg #[.int .i64 Z.h, .int .i64 Z.e, .string r2, .string Z.p]] W fun e w' => e = .returned (.string (HV.hashH ⟨Z.h, Z.e, r2, Z.p⟩)) ∧ Below W.heap.size W w') := fun W => sHeadHash_any ⟨Z.h, Z.e, r2, Z.p⟩ W
      have HH2 : Hid (∀ W, Calls Tryd.prog 16 #[.agg #[.int .i64 Z.h, .int .i64 Z.e, .string Z.r, .string Z.p]] W fun e w' => e = .returned (.string (HV.hashH Z)) ∧ Below W.heap.size W w') := fun W => sHeadHash_any Z W
      generalize HV.chB (L.set i ⟨Z.h, Z.e, r2, Z.p⟩) hs = bO at *
      generalize HV.hashH ⟨Z.h, Z.e, r2, Z.p⟩ = H1 at *
      generalize HV.hashH Z = H2 at *
      have hnc : (1 : Int) ≤ (cu : Int) := by omega
      have hnl : (n : Int) ≤ (cu : Int) := by omega
      have hnm : n - 1 = m := by have := HM.out; omega
      have hcu1 : ¬ cu - 1 = 0 := by omega
      have hcu2 : ¬ cu ≤ 1 := by omega
      cases bO
      · clear HCN
        have kc0 := cell_regrown (w := w10) c0
        have kc1 := cell_regrown (w := w10) c1
        have kc2 := cell_regrown (w := w10) c2
        have kc3 := cell_regrown (w := w10) c3
        have kd0 := cell_regrown (w := w10) d0
        have kd1 := cell_regrown (w := w10) d1
        have kd2 := cell_regrown (w := w10) d2
        have kd3 := cell_regrown (w := w10) d3
        have cq0 := fun d os => Calls.regrown_of (w := w10) (d := d) (os := os) (HCO.out _ (below_regrown w10 d os))
        have cq1 := fun d os => Calls.regrown_of (w := w10) (d := d) (os := os) (HCD.out _ (below_regrown w10 d os))
        have cq2 := fun d os => Calls.regrown_of (w := w10) (d := d) (os := os) (HH1.out _)
        have cq3 := fun d os => Calls.regrown_of (w := w10) (d := d) (os := os) (HH2.out _)
        refine wp_region_quiet_below (by kernel_rfl) (by kernel_rfl) ?_
        repeat (go_big_quiet_step (first | (with_reducible exact cq0 _ _) | (with_reducible exact cq1 _ _) | (with_reducible exact cq2 _ _) | (with_reducible exact cq3 _ _)))
        refine wpQuiet_nil ?_
        rintro _ ⟨⟨dq, osq⟩, rfl⟩
        have HS : Hid (OH w1.heap.size w1 (grow (redrawn w10 dq) osq) (.slice (some ⟨qL, 0, none⟩) n cu) L ∧ BH (grow (redrawn w10 dq) osq) w7.heap.size X) := ⟨HW.out.1.later (below_regrown w10 dq osq), HW.out.2.2.1.later (below_regrown w10 dq osq)⟩
        generalize grow (redrawn w10 dq) osq = wS at *
        clear kc0 kc1 kc2 kc3 kd0 kd1 kd2 kd3 cq0 cq1 cq2 cq3 c0 c1 c2 c3 d0 d1 d2 d3 HW HCO HCD HH1 HH2
        go_wp2_with fail
        cases b4
        · clear HNA HT
          refine wp_region_quiet_below (by kernel_rfl) (by kernel_rfl) ?_
          repeat (go_big_quiet_step (fail))
          refine wpQuiet_nil ?_
          rintro _ ⟨⟨dq, osq⟩, rfl⟩
          have hbF := HS.out.1.2.1.trans ((below_regrown wS dq osq).mono HS.out.1.2.2)
          generalize grow (redrawn wS dq) osq = wF at *
          clear HS
          go_wp2
          go_ret
          exact ⟨rfl, hbF⟩
        · obtain ⟨hXc, hXr⟩ := HNA.out rfl
          have hXr' : (X.r.toList == root.toList) = true := by rw [hXr]; simp
          refine wp_abs (fun a => FR 105 a [(8, .bool true), (3, .slice (some ⟨qL, 0, none⟩) n cu), (4, .int .i64 hs), (6, .string root), (7, .pointer (some ⟨w7.heap.size, 0, none⟩))]) ⟨rfl, rfl, fun p hp => by simp only [List.mem_cons, List.not_mem_nil, or_false] at hp; rcases hp with rfl | rfl | rfl | rfl | rfl <;> rfl⟩ (fun a F => ?_)
          refine wp_region_held_drew (S := fun W => W.rangeAt w7.heap.size 0 (hcs X)) (by kernel_rfl) (HS.out.2.range) (fun hH => ?_)
          have HD : Hid (OH w1.heap.size w1 wS.drew (.slice (some ⟨qL, 0, none⟩) n cu) L ∧ BH wS.drew w7.heap.size X ∧ Below w1.heap.size w1 wS.drew) := by
            have hd : Below wS.heap.size wS wS.drew := (Below.refl _ _).drew
            exact ⟨HS.out.1.later hd, HS.out.2.later hd, HS.out.1.2.1.trans (hd.mono HS.out.1.2.2)⟩
          clear HS
          generalize wS.drew = wD at *
          have HR : Hid (∀ W, Below wD.heap.size wD W → ∃ q, RS 4 hcs W (.slice (some ⟨qL, 0, none⟩) n cu) q 0 L) := fun W hW => by
            obtain ⟨q, hrw, _, _⟩ := (HD.out.1.later hW).rw (by rw [HN.out]; omega)
            exact ⟨q, hrw.1⟩
          have HSX : Hid (∀ W, Below wD.heap.size wD W → W.rangeAt w7.heap.size 0 (hcs X)) := fun W hW => (HD.out.2.1.later hW).range
          have HFC : Hid (∀ W v8, OH wD.heap.size wD W v8 (L ++ [X]) → Calls Tryd.prog 11 #[v8, .int .i64 hs] W fun e w' => e = .returned (.bool true) ∧ Below wD.heap.size wD w') := fun W v8 h8 => by
            obtain ⟨q8, hrw8, _, _⟩ := h8.rw (by rw [List.length_append, HN.out]; simp; omega)
            have hC := ChainOk_any v8 q8 0 (L ++ [X]) hs W hrw8.1 h8.cap (HT.out W (HD.out.2.2.trans (h8.2.1.mono HD.out.1.2.2)))
            rw [hXc] at hC
            exact hC.mono fun e w' ⟨he, hb⟩ => ⟨he, h8.2.1.trans (hb.mono h8.2.2)⟩
          clear hXc hXr HNA HT
          have r8 := F.get 8 (.bool true) (by simp)
          refine takeF (i := 0) (v := .bool true) rfl (by kernel_rfl) (by kernel_rfl) (by kernel_rfl) (fun _ _ _ h => h) (Or.inl ⟨by rfl, fun w hw => by go_simp⟩) hH 87 rfl F (by decide) (by simp) (fun a F => ?_)
          clear r8
          have r87 := F.get 87 (.bool true) (by simp)
          refine takeF (i := 1) (v := .bool false) rfl (by kernel_rfl) (by kernel_rfl) (by kernel_rfl) (fun _ _ _ h => h) (Or.inl ⟨by rfl, fun w hw => by go_simp⟩) hH 88 rfl F (by decide) (by simp) (fun a F => ?_)
          clear r87
          have r88 := F.get 88 (.bool false) (by simp)
          refine takeF (i := 2) (v := .bool false) rfl (by kernel_rfl) (by kernel_rfl) (by kernel_rfl) (fun _ _ _ h => h) (Or.inl ⟨by rfl, fun w hw => by go_simp⟩) hH 89 rfl F (by decide) (by simp) (fun a F => ?_)
          clear r88
          have r3 := F.get 3 (.slice (some ⟨qL, 0, none⟩) n cu) (by simp)
          refine takeF (i := 4) (v := .slice (some ⟨qL, 0, none⟩) n cu) rfl (by kernel_rfl) (by kernel_rfl) (by kernel_rfl) (fun _ _ _ h => h) (Or.inl ⟨wanted_of 2 false 89 rfl rfl (F.at 89 _ (by simp)), fun w hw => by go_simp⟩) hH 91 rfl F (by decide) (by simp) (fun a F => ?_)
          clear r3
          have r4 := F.get 4 (.int .i64 hs) (by simp)
          refine takeF (i := 9) (v := .int .i64 hs) rfl (by kernel_rfl) (by kernel_rfl) (by kernel_rfl) (fun _ _ _ h => h) (Or.inl ⟨wanted_of 2 false 89 rfl rfl (F.at 89 _ (by simp)), fun w hw => by go_simp⟩) hH 96 rfl F (by decide) (by simp) (fun a F => ?_)
          clear r4
          refine takeF (i := 6) (v := .agg #[.int .i64 X.h, .int .i64 X.e, .string X.r, .string X.p]) rfl (by kernel_rfl) (by kernel_rfl) (by kernel_rfl) (fun _ _ _ h => h) (yieldsIf_load_mid (wanted_of 2 false 89 rfl rfl (F.at 89 _ (by simp))) _ _ rfl w7.heap.size 0 (F.eval 7 _ (by simp)) (hcs X) _ (fun w h => h) Tryd.underlying33 rfl sizeHead) hH 93 rfl F (by decide) (by simp) (fun a F => ?_)
          refine wpAnyH_ready (rs := [3, 7]) (by kernel_rfl) (by simp) ?_
          refine AllReadyH.cons rfl (fun K' hK' => ?_) (AllReadyH.cons rfl (fun K' hK' => ?_) AllReadyH.nil)
          · refine step_emptyH (wanted_of 2 false 89 rfl rfl (F.at 89 _ (by simp))) rfl ?_
            refine openK (v := .slice (some ⟨wD.heap.size, 0, none⟩) 0 0) 90 rfl F (by decide) (by simp) (fun a F => ?_)
            refine hK'.out _ _ (HSX.out _ ((Below.refl wD.heap.size wD).alloc (Nat.le_refl _) (.cells #[] 33))) (fun hH => ?_)
            refine wpAnyH_ready (rs := [5, 7]) (by kernel_rfl) (by simp) ?_
            refine AllReadyH.cons rfl (fun K' hK' => ?_) (AllReadyH.cons rfl (fun K' hK' => ?_) AllReadyH.nil)
            · obtain ⟨q1, r1⟩ := HR.out _ ((Below.refl wD.heap.size wD).alloc (Nat.le_refl _) (.cells #[] 33))
              refine step_growH (wanted_of 2 false 89 rfl rfl (F.at 89 _ (by simp))) (.tmp 90) (.tmp 91) rfl wD.heap.size wD _ [] (F.eval 90 _ (by simp)) (OH.made wD.heap.size wD wD (Below.refl _ _) (Nat.le_refl _)) (some ⟨qL, 0, none⟩) n cu q1 0 L HN.out (F.eval 91 _ (by simp)) r1 hnil (by simp; rw [HN.out]; omega) ?_
              intro v3 w3 ho3 hg3
              rw [List.nil_append] at ho3
              refine openK (v := v3) 92 rfl F (by decide) (by simp) (fun a F => ?_)
              refine hK'.out _ _ (HSX.out _ ho3.2.1) (fun hH => ?_)
              refine wpAnyH_ready (rs := [7]) (by kernel_rfl) (by simp) ?_
              refine AllReadyH.cons rfl (fun K' hK' => ?_) AllReadyH.nil
              refine step_oneH (wanted_of 2 false 89 rfl rfl (F.at 89 _ (by simp))) (.tmp 93) rfl X (F.eval 93 _ (by simp)) ?_
              refine openK (v := .slice (some ⟨w3.heap.size, 0, none⟩) 1 1) 94 rfl F (by decide) (by simp) (fun a F => ?_)
              refine hK'.out _ _ (HSX.out _ (ho3.2.1.alloc ho3.2.2 (.cells #[.int .i64 X.h, .int .i64 X.e, .string X.r, .string X.p] 33))) (fun hH => ?_)
              refine wpAnyH_ready (rs := [8]) (by kernel_rfl) (by simp) ?_
              refine AllReadyH.cons rfl (fun K' hK' => ?_) AllReadyH.nil
              refine step_growH (wanted_of 2 false 89 rfl rfl (F.at 89 _ (by simp))) (.tmp 92) (.tmp 94) rfl wD.heap.size wD _ _ (F.eval 92 _ (by simp)) (ho3.later ((Below.refl w3.heap.size w3).alloc (Nat.le_refl _) (.cells #[.int .i64 X.h, .int .i64 X.e, .string X.r, .string X.p] 33))) (some ⟨w3.heap.size, 0, none⟩) 1 1 w3.heap.size 0 [X] rfl (F.eval 94 _ (by simp)) (rs_one w3 X rfl rfl) (by simp) (by simp; rw [HN.out]; omega) ?_
              intro v8 w8 ho8 hg8
              refine openK (v := v8) 95 rfl F (by decide) (by simp) (fun a F => ?_)
              refine hK'.out _ _ (HSX.out _ ho8.2.1) (fun hH => ?_)
              refine wpAnyH_ready (rs := [10]) (by kernel_rfl) (by simp) ?_
              refine AllReadyH.cons rfl (fun K' hK' => ?_) AllReadyH.nil
              refine step_chainH (wanted_of 2 false 89 rfl rfl (F.at 89 _ (by simp))) 95 96 _ rfl _ _ _ _ (F.get 95 _ (by simp)) (F.get 96 _ (by simp)) (HFC.out _ _ ho8) ?_
              intro w9 hb9
              refine openK (v := .bool true) 97 rfl F (by decide) (by simp) (fun a F => ?_)
              refine hK'.out _ _ (HSX.out _ hb9) (fun hH => ?_)
              have r97 := F.get 97 (.bool true) (by simp)
              refine takeF (i := 11) (v := .bool true) rfl (by kernel_rfl) (by kernel_rfl) (by kernel_rfl) (fun _ _ _ h => h) (Or.inl ⟨wanted_of 2 false 89 rfl rfl (F.at 89 _ (by simp)), fun w hw => by go_simp⟩) hH 98 rfl F (by decide) (by simp) (fun a F => ?_)
              clear r97
              have r7 := F.get 7 (.pointer (some ⟨w7.heap.size, 0, none⟩)) (by simp)
              refine takeF (i := 12) (v := .pointer (some ⟨w7.heap.size, 2, none⟩)) rfl (by kernel_rfl) (by kernel_rfl) (by kernel_rfl) (fun _ _ _ h => h) (Or.inl ⟨wanted_of 11 true 98 rfl rfl (F.at 98 _ (by simp)), fun w hw => by go_simp⟩) hH 99 rfl F (by decide) (by simp) (fun a F => ?_)
              clear r7
              have r99 := F.get 99 (.pointer (some ⟨w7.heap.size, 2, none⟩)) (by simp)
              refine takeF (i := 13) (v := .string X.r) rfl (by kernel_rfl) (by kernel_rfl) (by kernel_rfl) (fun _ _ _ h => h) (Or.inl ⟨wanted_of 11 true 98 rfl rfl (F.at 98 _ (by simp)), fun w hw => by have hw2 := hw 2 _ rfl; simp only [Nat.zero_add] at hw2; go_simp⟩) hH 100 rfl F (by decide) (by simp) (fun a F => ?_)
              clear r99
              have r6 := F.get 6 (.string root) (by simp)
              refine takeF (i := 14) (v := .string root) rfl (by kernel_rfl) (by kernel_rfl) (by kernel_rfl) (fun _ _ _ h => h) (Or.inl ⟨wanted_of 11 true 98 rfl rfl (F.at 98 _ (by simp)), fun w hw => by go_simp⟩) hH 101 rfl F (by decide) (by simp) (fun a F => ?_)
              clear r6
              have r100 := F.get 100 (.string X.r) (by simp)
              have r101 := F.get 101 (.string root) (by simp)
              refine takeF (i := 15) (v := .bool true) rfl (by kernel_rfl) (by kernel_rfl) (by kernel_rfl) (fun _ _ _ h => h) (Or.inl ⟨wanted_of 11 true 98 rfl rfl (F.at 98 _ (by simp)), fun w hw => by go_simp⟩) hH 102 rfl F (by decide) (by simp) (fun a F => ?_)
              clear r100 r101
              have r98 := F.get 98 (.bool true) (by simp)
              have r102 := F.get 102 (.bool true) (by simp)
              refine takeF (i := 16) (v := .bool true) rfl (by kernel_rfl) (by kernel_rfl) (by kernel_rfl) (fun _ _ _ h => h) (Or.inl ⟨wanted_of 2 false 89 rfl rfl (F.at 89 _ (by simp)), fun w hw => by go_simp⟩) hH 103 rfl F (by decide) (by simp) (fun a F => ?_)
              clear r98 r102
              have r89 := F.get 89 (.bool false) (by simp)
              have r103 := F.get 103 (.bool true) (by simp)
              refine takeF (i := 17) (v := .bool true) rfl (by kernel_rfl) (by kernel_rfl) (by kernel_rfl) (fun _ _ _ h => h) (Or.inl ⟨by rfl, fun w hw => by go_simp⟩) hH 104 rfl F (by decide) (by simp) (fun a F => ?_)
              clear r89 r103
              have r104 := F.get 104 (.bool true) (by simp)
              refine takeF (i := 18) (v := .bool true) rfl (by kernel_rfl) (by kernel_rfl) (by kernel_rfl) (fun _ _ _ h => h) (Or.inl ⟨by rfl, fun w hw => by go_simp⟩) hH 2 rfl F (by decide) (by simp) (fun a F => ?_)
              clear r104
              refine wpAnyH_done (by kernel_rfl) ?_ _
              have hbF := HD.out.2.2.trans (hb9.mono HD.out.1.2.2)
              have hd := F.2.1
              have r2 := F.get 2 (.bool true) (by simp)
              clear HD HR HFC HSX ho8 hb9 hH F
              go_wp2
              exact ret_tmpF 2 (.bool true) rfl hd r2 ⟨rfl, hbF⟩
            · refine step_oneH (wanted_of 2 false 89 rfl rfl (F.at 89 _ (by simp))) (.tmp 93) rfl X (F.eval 93 _ (by simp)) ?_
              rw [World.size_alloc]
              refine openK (v := .slice (some ⟨wD.heap.size + 1, 0, none⟩) 1 1) 94 rfl F (by decide) (by simp) (fun a F => ?_)
              refine hK'.out _ _ (HSX.out _ (((Below.refl wD.heap.size wD).alloc (Nat.le_refl _) (.cells #[] 33)).alloc (by simp) (.cells #[.int .i64 X.h, .int .i64 X.e, .string X.r, .string X.p] 33))) (fun hH => ?_)
              refine wpAnyH_ready (rs := [5]) (by kernel_rfl) (by simp) ?_
              refine AllReadyH.cons rfl (fun K' hK' => ?_) AllReadyH.nil
              obtain ⟨q1, r1⟩ := HR.out _ (((Below.refl wD.heap.size wD).alloc (Nat.le_refl _) (.cells #[] 33)).alloc (by simp) (.cells #[.int .i64 X.h, .int .i64 X.e, .string X.r, .string X.p] 33))
              have hX1 := rs_one (g := wD.heap.size + 1) (g' := wD.heap.size + 1) (wD.alloc (.cells #[] 33)) X (by simp) (by simp)
              refine step_growH (wanted_of 2 false 89 rfl rfl (F.at 89 _ (by simp))) (.tmp 90) (.tmp 91) rfl wD.heap.size wD _ [] (F.eval 90 _ (by simp)) ((OH.made wD.heap.size wD wD (Below.refl _ _) (Nat.le_refl _)).later ((Below.refl _ _).alloc (Nat.le_refl _) (.cells #[.int .i64 X.h, .int .i64 X.e, .string X.r, .string X.p] 33))) (some ⟨qL, 0, none⟩) n cu q1 0 L HN.out (F.eval 91 _ (by simp)) r1 hnil (by simp; rw [HN.out]; omega) ?_
              intro v3 w3 ho3 hg3
              rw [List.nil_append] at ho3
              have hX2 := hX1.grown hg3 (by simp [Value.ownBlock])
              refine openK (v := v3) 92 rfl F (by decide) (by simp) (fun a F => ?_)
              refine hK'.out _ _ (HSX.out _ ho3.2.1) (fun hH => ?_)
              refine wpAnyH_ready (rs := [8]) (by kernel_rfl) (by simp) ?_
              refine AllReadyH.cons rfl (fun K' hK' => ?_) AllReadyH.nil
              refine step_growH (wanted_of 2 false 89 rfl rfl (F.at 89 _ (by simp))) (.tmp 92) (.tmp 94) rfl wD.heap.size wD _ _ (F.eval 92 _ (by simp)) ho3 (some ⟨wD.heap.size + 1, 0, none⟩) 1 1 (wD.heap.size + 1) 0 [X] rfl (F.eval 94 _ (by simp)) hX2 (by simp) (by simp; rw [HN.out]; omega) ?_
              intro v8 w8 ho8 hg8
              refine openK (v := v8) 95 rfl F (by decide) (by simp) (fun a F => ?_)
              refine hK'.out _ _ (HSX.out _ ho8.2.1) (fun hH => ?_)
              refine wpAnyH_ready (rs := [10]) (by kernel_rfl) (by simp) ?_
              refine AllReadyH.cons rfl (fun K' hK' => ?_) AllReadyH.nil
              refine step_chainH (wanted_of 2 false 89 rfl rfl (F.at 89 _ (by simp))) 95 96 _ rfl _ _ _ _ (F.get 95 _ (by simp)) (F.get 96 _ (by simp)) (HFC.out _ _ ho8) ?_
              intro w9 hb9
              refine openK (v := .bool true) 97 rfl F (by decide) (by simp) (fun a F => ?_)
              refine hK'.out _ _ (HSX.out _ hb9) (fun hH => ?_)
              have r97 := F.get 97 (.bool true) (by simp)
              refine takeF (i := 11) (v := .bool true) rfl (by kernel_rfl) (by kernel_rfl) (by kernel_rfl) (fun _ _ _ h => h) (Or.inl ⟨wanted_of 2 false 89 rfl rfl (F.at 89 _ (by simp)), fun w hw => by go_simp⟩) hH 98 rfl F (by decide) (by simp) (fun a F => ?_)
              clear r97
              have r7 := F.get 7 (.pointer (some ⟨w7.heap.size, 0, none⟩)) (by simp)
              refine takeF (i := 12) (v := .pointer (some ⟨w7.heap.size, 2, none⟩)) rfl (by kernel_rfl) (by kernel_rfl) (by kernel_rfl) (fun _ _ _ h => h) (Or.inl ⟨wanted_of 11 true 98 rfl rfl (F.at 98 _ (by simp)), fun w hw => by go_simp⟩) hH 99 rfl F (by decide) (by simp) (fun a F => ?_)
              clear r7
              have r99 := F.get 99 (.pointer (some ⟨w7.heap.size, 2, none⟩)) (by simp)
              refine takeF (i := 13) (v := .string X.r) rfl (by kernel_rfl) (by kernel_rfl) (by kernel_rfl) (fun _ _ _ h => h) (Or.inl ⟨wanted_of 11 true 98 rfl rfl (F.at 98 _ (by simp)), fun w hw => by have hw2 := hw 2 _ rfl; simp only [Nat.zero_add] at hw2; go_simp⟩) hH 100 rfl F (by decide) (by simp) (fun a F => ?_)
              clear r99
              have r6 := F.get 6 (.string root) (by simp)
              refine takeF (i := 14) (v := .string root) rfl (by kernel_rfl) (by kernel_rfl) (by kernel_rfl) (fun _ _ _ h => h) (Or.inl ⟨wanted_of 11 true 98 rfl rfl (F.at 98 _ (by simp)), fun w hw => by go_simp⟩) hH 101 rfl F (by decide) (by simp) (fun a F => ?_)
              clear r6
              have r100 := F.get 100 (.string X.r) (by simp)
              have r101 := F.get 101 (.string root) (by simp)
              refine takeF (i := 15) (v := .bool true) rfl (by kernel_rfl) (by kernel_rfl) (by kernel_rfl) (fun _ _ _ h => h) (Or.inl ⟨wanted_of 11 true 98 rfl rfl (F.at 98 _ (by simp)), fun w hw => by go_simp⟩) hH 102 rfl F (by decide) (by simp) (fun a F => ?_)
              clear r100 r101
              have r98 := F.get 98 (.bool true) (by simp)
              have r102 := F.get 102 (.bool true) (by simp)
              refine takeF (i := 16) (v := .bool true) rfl (by kernel_rfl) (by kernel_rfl) (by kernel_rfl) (fun _ _ _ h => h) (Or.inl ⟨wanted_of 2 false 89 rfl rfl (F.at 89 _ (by simp)), fun w hw => by go_simp⟩) hH 103 rfl F (by decide) (by simp) (fun a F => ?_)
              clear r98 r102
              have r89 := F.get 89 (.bool false) (by simp)
              have r103 := F.get 103 (.bool true) (by simp)
              refine takeF (i := 17) (v := .bool true) rfl (by kernel_rfl) (by kernel_rfl) (by kernel_rfl) (fun _ _ _ h => h) (Or.inl ⟨by rfl, fun w hw => by go_simp⟩) hH 104 rfl F (by decide) (by simp) (fun a F => ?_)
              clear r89 r103
              have r104 := F.get 104 (.bool true) (by simp)
              refine takeF (i := 18) (v := .bool true) rfl (by kernel_rfl) (by kernel_rfl) (by kernel_rfl) (fun _ _ _ h => h) (Or.inl ⟨by rfl, fun w hw => by go_simp⟩) hH 2 rfl F (by decide) (by simp) (fun a F => ?_)
              clear r104
              refine wpAnyH_done (by kernel_rfl) ?_ _
              have hbF := HD.out.2.2.trans (hb9.mono HD.out.1.2.2)
              have hd := F.2.1
              have r2 := F.get 2 (.bool true) (by simp)
              clear HD HR HFC HSX ho8 hb9 hH F
              go_wp2
              exact ret_tmpF 2 (.bool true) rfl hd r2 ⟨rfl, hbF⟩
          · refine step_oneH (wanted_of 2 false 89 rfl rfl (F.at 89 _ (by simp))) (.tmp 93) rfl X (F.eval 93 _ (by simp)) ?_
            refine openK (v := .slice (some ⟨wD.heap.size, 0, none⟩) 1 1) 94 rfl F (by decide) (by simp) (fun a F => ?_)
            refine hK'.out _ _ (HSX.out _ ((Below.refl wD.heap.size wD).alloc (Nat.le_refl _) (.cells #[.int .i64 X.h, .int .i64 X.e, .string X.r, .string X.p] 33))) (fun hH => ?_)
            refine wpAnyH_ready (rs := [3]) (by kernel_rfl) (by simp) ?_
            refine AllReadyH.cons rfl (fun K' hK' => ?_) AllReadyH.nil
            refine step_emptyH (wanted_of 2 false 89 rfl rfl (F.at 89 _ (by simp))) rfl ?_
            rw [World.size_alloc]
            refine openK (v := .slice (some ⟨wD.heap.size + 1, 0, none⟩) 0 0) 90 rfl F (by decide) (by simp) (fun a F => ?_)
            refine hK'.out _ _ (HSX.out _ (((Below.refl wD.heap.size wD).alloc (Nat.le_refl _) (.cells #[.int .i64 X.h, .int .i64 X.e, .string X.r, .string X.p] 33)).alloc (by simp) (.cells #[] 33))) (fun hH => ?_)
            refine wpAnyH_ready (rs := [5]) (by kernel_rfl) (by simp) ?_
            refine AllReadyH.cons rfl (fun K' hK' => ?_) AllReadyH.nil
            obtain ⟨q1, r1⟩ := HR.out _ (((Below.refl wD.heap.size wD).alloc (Nat.le_refl _) (.cells #[.int .i64 X.h, .int .i64 X.e, .string X.r, .string X.p] 33)).alloc (by simp) (.cells #[] 33))
            have hX1 := (rs_one wD X rfl rfl).later ((Below.refl _ _).alloc (Nat.le_refl _) (.cells #[] 33))
            refine step_growH (wanted_of 2 false 89 rfl rfl (F.at 89 _ (by simp))) (.tmp 90) (.tmp 91) rfl wD.heap.size wD _ [] (F.eval 90 _ (by simp)) (OH.madeAt (g := wD.heap.size + 1) wD.heap.size wD (wD.alloc (.cells #[.int .i64 X.h, .int .i64 X.e, .string X.r, .string X.p] 33)) ((Below.refl wD.heap.size wD).alloc (Nat.le_refl _) (.cells #[.int .i64 X.h, .int .i64 X.e, .string X.r, .string X.p] 33)) (by simp) (by simp)) (some ⟨qL, 0, none⟩) n cu q1 0 L HN.out (F.eval 91 _ (by simp)) r1 hnil (by simp; rw [HN.out]; omega) ?_
            intro v3 w3 ho3 hg3
            rw [List.nil_append] at ho3
            have hX2 := hX1.grown hg3 (by simp [Value.ownBlock])
            refine openK (v := v3) 92 rfl F (by decide) (by simp) (fun a F => ?_)
            refine hK'.out _ _ (HSX.out _ ho3.2.1) (fun hH => ?_)
            refine wpAnyH_ready (rs := [8]) (by kernel_rfl) (by simp) ?_
            refine AllReadyH.cons rfl (fun K' hK' => ?_) AllReadyH.nil
            refine step_growH (wanted_of 2 false 89 rfl rfl (F.at 89 _ (by simp))) (.tmp 92) (.tmp 94) rfl wD.heap.size wD _ _ (F.eval 92 _ (by simp)) ho3 (some ⟨wD.heap.size, 0, none⟩) 1 1 wD.heap.size 0 [X] rfl (F.eval 94 _ (by simp)) hX2 (by simp) (by simp; rw [HN.out]; omega) ?_
            intro v8 w8 ho8 hg8
            refine openK (v := v8) 95 rfl F (by decide) (by simp) (fun a F => ?_)
            refine hK'.out _ _ (HSX.out _ ho8.2.1) (fun hH => ?_)
            refine wpAnyH_ready (rs := [10]) (by kernel_rfl) (by simp) ?_
            refine AllReadyH.cons rfl (fun K' hK' => ?_) AllReadyH.nil
            refine step_chainH (wanted_of 2 false 89 rfl rfl (F.at 89 _ (by simp))) 95 96 _ rfl _ _ _ _ (F.get 95 _ (by simp)) (F.get 96 _ (by simp)) (HFC.out _ _ ho8) ?_
            intro w9 hb9
            refine openK (v := .bool true) 97 rfl F (by decide) (by simp) (fun a F => ?_)
            refine hK'.out _ _ (HSX.out _ hb9) (fun hH => ?_)
            have r97 := F.get 97 (.bool true) (by simp)
            refine takeF (i := 11) (v := .bool true) rfl (by kernel_rfl) (by kernel_rfl) (by kernel_rfl) (fun _ _ _ h => h) (Or.inl ⟨wanted_of 2 false 89 rfl rfl (F.at 89 _ (by simp)), fun w hw => by go_simp⟩) hH 98 rfl F (by decide) (by simp) (fun a F => ?_)
            clear r97
            have r7 := F.get 7 (.pointer (some ⟨w7.heap.size, 0, none⟩)) (by simp)
            refine takeF (i := 12) (v := .pointer (some ⟨w7.heap.size, 2, none⟩)) rfl (by kernel_rfl) (by kernel_rfl) (by kernel_rfl) (fun _ _ _ h => h) (Or.inl ⟨wanted_of 11 true 98 rfl rfl (F.at 98 _ (by simp)), fun w hw => by go_simp⟩) hH 99 rfl F (by decide) (by simp) (fun a F => ?_)
            clear r7
            have r99 := F.get 99 (.pointer (some ⟨w7.heap.size, 2, none⟩)) (by simp)
            refine takeF (i := 13) (v := .string X.r) rfl (by kernel_rfl) (by kernel_rfl) (by kernel_rfl) (fun _ _ _ h => h) (Or.inl ⟨wanted_of 11 true 98 rfl rfl (F.at 98 _ (by simp)), fun w hw => by have hw2 := hw 2 _ rfl; simp only [Nat.zero_add] at hw2; go_simp⟩) hH 100 rfl F (by decide) (by simp) (fun a F => ?_)
            clear r99
            have r6 := F.get 6 (.string root) (by simp)
            refine takeF (i := 14) (v := .string root) rfl (by kernel_rfl) (by kernel_rfl) (by kernel_rfl) (fun _ _ _ h => h) (Or.inl ⟨wanted_of 11 true 98 rfl rfl (F.at 98 _ (by simp)), fun w hw => by go_simp⟩) hH 101 rfl F (by decide) (by simp) (fun a F => ?_)
            clear r6
            have r100 := F.get 100 (.string X.r) (by simp)
            have r101 := F.get 101 (.string root) (by simp)
            refine takeF (i := 15) (v := .bool true) rfl (by kernel_rfl) (by kernel_rfl) (by kernel_rfl) (fun _ _ _ h => h) (Or.inl ⟨wanted_of 11 true 98 rfl rfl (F.at 98 _ (by simp)), fun w hw => by go_simp⟩) hH 102 rfl F (by decide) (by simp) (fun a F => ?_)
            clear r100 r101
            have r98 := F.get 98 (.bool true) (by simp)
            have r102 := F.get 102 (.bool true) (by simp)
            refine takeF (i := 16) (v := .bool true) rfl (by kernel_rfl) (by kernel_rfl) (by kernel_rfl) (fun _ _ _ h => h) (Or.inl ⟨wanted_of 2 false 89 rfl rfl (F.at 89 _ (by simp)), fun w hw => by go_simp⟩) hH 103 rfl F (by decide) (by simp) (fun a F => ?_)
            clear r98 r102
            have r89 := F.get 89 (.bool false) (by simp)
            have r103 := F.get 103 (.bool true) (by simp)
            refine takeF (i := 17) (v := .bool true) rfl (by kernel_rfl) (by kernel_rfl) (by kernel_rfl) (fun _ _ _ h => h) (Or.inl ⟨by rfl, fun w hw => by go_simp⟩) hH 104 rfl F (by decide) (by simp) (fun a F => ?_)
            clear r89 r103
            have r104 := F.get 104 (.bool true) (by simp)
            refine takeF (i := 18) (v := .bool true) rfl (by kernel_rfl) (by kernel_rfl) (by kernel_rfl) (fun _ _ _ h => h) (Or.inl ⟨by rfl, fun w hw => by go_simp⟩) hH 2 rfl F (by decide) (by simp) (fun a F => ?_)
            clear r104
            refine wpAnyH_done (by kernel_rfl) ?_ _
            have hbF := HD.out.2.2.trans (hb9.mono HD.out.1.2.2)
            have hd := F.2.1
            have r2 := F.get 2 (.bool true) (by simp)
            clear HD HR HFC HSX ho8 hb9 hH F
            go_wp2
            exact ret_tmpF 2 (.bool true) rfl hd r2 ⟨rfl, hbF⟩
      · have hH := HCN.out rfl
        subst hH
        clear HCN
        have kc0 := cell_regrown (w := w10) c0
        have kc1 := cell_regrown (w := w10) c1
        have kc2 := cell_regrown (w := w10) c2
        have kc3 := cell_regrown (w := w10) c3
        have kd0 := cell_regrown (w := w10) d0
        have kd1 := cell_regrown (w := w10) d1
        have kd2 := cell_regrown (w := w10) d2
        have kd3 := cell_regrown (w := w10) d3
        have cq0 := fun d os => Calls.regrown_of (w := w10) (d := d) (os := os) (HCO.out _ (below_regrown w10 d os))
        have cq1 := fun d os => Calls.regrown_of (w := w10) (d := d) (os := os) (HCD.out _ (below_regrown w10 d os))
        have cq2 := fun d os => Calls.regrown_of (w := w10) (d := d) (os := os) (HH1.out _)
        have cq3 := fun d os => Calls.regrown_of (w := w10) (d := d) (os := os) (HH2.out _)
        refine wp_region_quiet_below (by kernel_rfl) (by kernel_rfl) ?_
        repeat (go_big_quiet_step (first | (with_reducible exact cq0 _ _) | (with_reducible exact cq1 _ _) | (with_reducible exact cq2 _ _) | (with_reducible exact cq3 _ _)))
        refine wpQuiet_nil ?_
        rintro _ ⟨⟨dq, osq⟩, rfl⟩
        have HS : Hid (OH w1.heap.size w1 (grow (redrawn w10 dq) osq) (.slice (some ⟨qL, 0, none⟩) n cu) L ∧ BH (grow (redrawn w10 dq) osq) w7.heap.size X) := ⟨HW.out.1.later (below_regrown w10 dq osq), HW.out.2.2.1.later (below_regrown w10 dq osq)⟩
        generalize grow (redrawn w10 dq) osq = wS at *
        clear kc0 kc1 kc2 kc3 kd0 kd1 kd2 kd3 cq0 cq1 cq2 cq3 c0 c1 c2 c3 d0 d1 d2 d3 HW HCO HCD HH1 HH2
        go_wp2_with fail
        cases b4
        · clear HNA HT
          refine wp_region_quiet_below (by kernel_rfl) (by kernel_rfl) ?_
          repeat (go_big_quiet_step (fail))
          refine wpQuiet_nil ?_
          rintro _ ⟨⟨dq, osq⟩, rfl⟩
          have hbF := HS.out.1.2.1.trans ((below_regrown wS dq osq).mono HS.out.1.2.2)
          generalize grow (redrawn wS dq) osq = wF at *
          clear HS
          go_wp2
          go_ret
          exact ⟨rfl, hbF⟩
        · obtain ⟨hXc, hXr⟩ := HNA.out rfl
          have hXr' : (X.r.toList == root.toList) = true := by rw [hXr]; simp
          refine wp_abs (fun a => FR 105 a [(8, .bool true), (3, .slice (some ⟨qL, 0, none⟩) n cu), (4, .int .i64 hs), (6, .string root), (7, .pointer (some ⟨w7.heap.size, 0, none⟩))]) ⟨rfl, rfl, fun p hp => by simp only [List.mem_cons, List.not_mem_nil, or_false] at hp; rcases hp with rfl | rfl | rfl | rfl | rfl <;> rfl⟩ (fun a F => ?_)
          refine wp_region_held_drew (S := fun W => W.rangeAt w7.heap.size 0 (hcs X)) (by kernel_rfl) (HS.out.2.range) (fun hH => ?_)
          have HD : Hid (OH w1.heap.size w1 wS.drew (.slice (some ⟨qL, 0, none⟩) n cu) L ∧ BH wS.drew w7.heap.size X ∧ Below w1.heap.size w1 wS.drew) := by
            have hd : Below wS.heap.size wS wS.drew := (Below.refl _ _).drew
            exact ⟨HS.out.1.later hd, HS.out.2.later hd, HS.out.1.2.1.trans (hd.mono HS.out.1.2.2)⟩
          clear HS
          generalize wS.drew = wD at *
          have HR : Hid (∀ W, Below wD.heap.size wD W → ∃ q, RS 4 hcs W (.slice (some ⟨qL, 0, none⟩) n cu) q 0 L) := fun W hW => by
            obtain ⟨q, hrw, _, _⟩ := (HD.out.1.later hW).rw (by rw [HN.out]; omega)
            exact ⟨q, hrw.1⟩
          have HSX : Hid (∀ W, Below wD.heap.size wD W → W.rangeAt w7.heap.size 0 (hcs X)) := fun W hW => (HD.out.2.1.later hW).range
          have HFC : Hid (∀ W v8, OH wD.heap.size wD W v8 (L ++ [X]) → Calls Tryd.prog 11 #[v8, .int .i64 hs] W fun e w' => e = .returned (.bool true) ∧ Below wD.heap.size wD w') := fun W v8 h8 => by
            obtain ⟨q8, hrw8, _, _⟩ := h8.rw (by rw [List.length_append, HN.out]; simp; omega)
            have hC := ChainOk_any v8 q8 0 (L ++ [X]) hs W hrw8.1 h8.cap (HT.out W (HD.out.2.2.trans (h8.2.1.mono HD.out.1.2.2)))
            rw [hXc] at hC
            exact hC.mono fun e w' ⟨he, hb⟩ => ⟨he, h8.2.1.trans (hb.mono h8.2.2)⟩
          clear hXc hXr HNA HT
          have r8 := F.get 8 (.bool true) (by simp)
          refine takeF (i := 0) (v := .bool true) rfl (by kernel_rfl) (by kernel_rfl) (by kernel_rfl) (fun _ _ _ h => h) (Or.inl ⟨by rfl, fun w hw => by go_simp⟩) hH 87 rfl F (by decide) (by simp) (fun a F => ?_)
          clear r8
          have r87 := F.get 87 (.bool true) (by simp)
          refine takeF (i := 1) (v := .bool false) rfl (by kernel_rfl) (by kernel_rfl) (by kernel_rfl) (fun _ _ _ h => h) (Or.inl ⟨by rfl, fun w hw => by go_simp⟩) hH 88 rfl F (by decide) (by simp) (fun a F => ?_)
          clear r87
          have r88 := F.get 88 (.bool false) (by simp)
          refine takeF (i := 2) (v := .bool false) rfl (by kernel_rfl) (by kernel_rfl) (by kernel_rfl) (fun _ _ _ h => h) (Or.inl ⟨by rfl, fun w hw => by go_simp⟩) hH 89 rfl F (by decide) (by simp) (fun a F => ?_)
          clear r88
          have r3 := F.get 3 (.slice (some ⟨qL, 0, none⟩) n cu) (by simp)
          refine takeF (i := 4) (v := .slice (some ⟨qL, 0, none⟩) n cu) rfl (by kernel_rfl) (by kernel_rfl) (by kernel_rfl) (fun _ _ _ h => h) (Or.inl ⟨wanted_of 2 false 89 rfl rfl (F.at 89 _ (by simp)), fun w hw => by go_simp⟩) hH 91 rfl F (by decide) (by simp) (fun a F => ?_)
          clear r3
          have r4 := F.get 4 (.int .i64 hs) (by simp)
          refine takeF (i := 9) (v := .int .i64 hs) rfl (by kernel_rfl) (by kernel_rfl) (by kernel_rfl) (fun _ _ _ h => h) (Or.inl ⟨wanted_of 2 false 89 rfl rfl (F.at 89 _ (by simp)), fun w hw => by go_simp⟩) hH 96 rfl F (by decide) (by simp) (fun a F => ?_)
          clear r4
          refine takeF (i := 6) (v := .agg #[.int .i64 X.h, .int .i64 X.e, .string X.r, .string X.p]) rfl (by kernel_rfl) (by kernel_rfl) (by kernel_rfl) (fun _ _ _ h => h) (yieldsIf_load_mid (wanted_of 2 false 89 rfl rfl (F.at 89 _ (by simp))) _ _ rfl w7.heap.size 0 (F.eval 7 _ (by simp)) (hcs X) _ (fun w h => h) Tryd.underlying33 rfl sizeHead) hH 93 rfl F (by decide) (by simp) (fun a F => ?_)
          refine wpAnyH_ready (rs := [3, 7]) (by kernel_rfl) (by simp) ?_
          refine AllReadyH.cons rfl (fun K' hK' => ?_) (AllReadyH.cons rfl (fun K' hK' => ?_) AllReadyH.nil)
          · refine step_emptyH (wanted_of 2 false 89 rfl rfl (F.at 89 _ (by simp))) rfl ?_
            refine openK (v := .slice (some ⟨wD.heap.size, 0, none⟩) 0 0) 90 rfl F (by decide) (by simp) (fun a F => ?_)
            refine hK'.out _ _ (HSX.out _ ((Below.refl wD.heap.size wD).alloc (Nat.le_refl _) (.cells #[] 33))) (fun hH => ?_)
            refine wpAnyH_ready (rs := [5, 7]) (by kernel_rfl) (by simp) ?_
            refine AllReadyH.cons rfl (fun K' hK' => ?_) (AllReadyH.cons rfl (fun K' hK' => ?_) AllReadyH.nil)
            · obtain ⟨q1, r1⟩ := HR.out _ ((Below.refl wD.heap.size wD).alloc (Nat.le_refl _) (.cells #[] 33))
              refine step_growH (wanted_of 2 false 89 rfl rfl (F.at 89 _ (by simp))) (.tmp 90) (.tmp 91) rfl wD.heap.size wD _ [] (F.eval 90 _ (by simp)) (OH.made wD.heap.size wD wD (Below.refl _ _) (Nat.le_refl _)) (some ⟨qL, 0, none⟩) n cu q1 0 L HN.out (F.eval 91 _ (by simp)) r1 hnil (by simp; rw [HN.out]; omega) ?_
              intro v3 w3 ho3 hg3
              rw [List.nil_append] at ho3
              refine openK (v := v3) 92 rfl F (by decide) (by simp) (fun a F => ?_)
              refine hK'.out _ _ (HSX.out _ ho3.2.1) (fun hH => ?_)
              refine wpAnyH_ready (rs := [7]) (by kernel_rfl) (by simp) ?_
              refine AllReadyH.cons rfl (fun K' hK' => ?_) AllReadyH.nil
              refine step_oneH (wanted_of 2 false 89 rfl rfl (F.at 89 _ (by simp))) (.tmp 93) rfl X (F.eval 93 _ (by simp)) ?_
              refine openK (v := .slice (some ⟨w3.heap.size, 0, none⟩) 1 1) 94 rfl F (by decide) (by simp) (fun a F => ?_)
              refine hK'.out _ _ (HSX.out _ (ho3.2.1.alloc ho3.2.2 (.cells #[.int .i64 X.h, .int .i64 X.e, .string X.r, .string X.p] 33))) (fun hH => ?_)
              refine wpAnyH_ready (rs := [8]) (by kernel_rfl) (by simp) ?_
              refine AllReadyH.cons rfl (fun K' hK' => ?_) AllReadyH.nil
              refine step_growH (wanted_of 2 false 89 rfl rfl (F.at 89 _ (by simp))) (.tmp 92) (.tmp 94) rfl wD.heap.size wD _ _ (F.eval 92 _ (by simp)) (ho3.later ((Below.refl w3.heap.size w3).alloc (Nat.le_refl _) (.cells #[.int .i64 X.h, .int .i64 X.e, .string X.r, .string X.p] 33))) (some ⟨w3.heap.size, 0, none⟩) 1 1 w3.heap.size 0 [X] rfl (F.eval 94 _ (by simp)) (rs_one w3 X rfl rfl) (by simp) (by simp; rw [HN.out]; omega) ?_
              intro v8 w8 ho8 hg8
              refine openK (v := v8) 95 rfl F (by decide) (by simp) (fun a F => ?_)
              refine hK'.out _ _ (HSX.out _ ho8.2.1) (fun hH => ?_)
              refine wpAnyH_ready (rs := [10]) (by kernel_rfl) (by simp) ?_
              refine AllReadyH.cons rfl (fun K' hK' => ?_) AllReadyH.nil
              refine step_chainH (wanted_of 2 false 89 rfl rfl (F.at 89 _ (by simp))) 95 96 _ rfl _ _ _ _ (F.get 95 _ (by simp)) (F.get 96 _ (by simp)) (HFC.out _ _ ho8) ?_
              intro w9 hb9
              refine openK (v := .bool true) 97 rfl F (by decide) (by simp) (fun a F => ?_)
              refine hK'.out _ _ (HSX.out _ hb9) (fun hH => ?_)
              have r97 := F.get 97 (.bool true) (by simp)
              refine takeF (i := 11) (v := .bool true) rfl (by kernel_rfl) (by kernel_rfl) (by kernel_rfl) (fun _ _ _ h => h) (Or.inl ⟨wanted_of 2 false 89 rfl rfl (F.at 89 _ (by simp)), fun w hw => by go_simp⟩) hH 98 rfl F (by decide) (by simp) (fun a F => ?_)
              clear r97
              have r7 := F.get 7 (.pointer (some ⟨w7.heap.size, 0, none⟩)) (by simp)
              refine takeF (i := 12) (v := .pointer (some ⟨w7.heap.size, 2, none⟩)) rfl (by kernel_rfl) (by kernel_rfl) (by kernel_rfl) (fun _ _ _ h => h) (Or.inl ⟨wanted_of 11 true 98 rfl rfl (F.at 98 _ (by simp)), fun w hw => by go_simp⟩) hH 99 rfl F (by decide) (by simp) (fun a F => ?_)
              clear r7
              have r99 := F.get 99 (.pointer (some ⟨w7.heap.size, 2, none⟩)) (by simp)
              refine takeF (i := 13) (v := .string X.r) rfl (by kernel_rfl) (by kernel_rfl) (by kernel_rfl) (fun _ _ _ h => h) (Or.inl ⟨wanted_of 11 true 98 rfl rfl (F.at 98 _ (by simp)), fun w hw => by have hw2 := hw 2 _ rfl; simp only [Nat.zero_add] at hw2; go_simp⟩) hH 100 rfl F (by decide) (by simp) (fun a F => ?_)
              clear r99
              have r6 := F.get 6 (.string root) (by simp)
              refine takeF (i := 14) (v := .string root) rfl (by kernel_rfl) (by kernel_rfl) (by kernel_rfl) (fun _ _ _ h => h) (Or.inl ⟨wanted_of 11 true 98 rfl rfl (F.at 98 _ (by simp)), fun w hw => by go_simp⟩) hH 101 rfl F (by decide) (by simp) (fun a F => ?_)
              clear r6
              have r100 := F.get 100 (.string X.r) (by simp)
              have r101 := F.get 101 (.string root) (by simp)
              refine takeF (i := 15) (v := .bool true) rfl (by kernel_rfl) (by kernel_rfl) (by kernel_rfl) (fun _ _ _ h => h) (Or.inl ⟨wanted_of 11 true 98 rfl rfl (F.at 98 _ (by simp)), fun w hw => by go_simp⟩) hH 102 rfl F (by decide) (by simp) (fun a F => ?_)
              clear r100 r101
              have r98 := F.get 98 (.bool true) (by simp)
              have r102 := F.get 102 (.bool true) (by simp)
              refine takeF (i := 16) (v := .bool true) rfl (by kernel_rfl) (by kernel_rfl) (by kernel_rfl) (fun _ _ _ h => h) (Or.inl ⟨wanted_of 2 false 89 rfl rfl (F.at 89 _ (by simp)), fun w hw => by go_simp⟩) hH 103 rfl F (by decide) (by simp) (fun a F => ?_)
              clear r98 r102
              have r89 := F.get 89 (.bool false) (by simp)
              have r103 := F.get 103 (.bool true) (by simp)
              refine takeF (i := 17) (v := .bool true) rfl (by kernel_rfl) (by kernel_rfl) (by kernel_rfl) (fun _ _ _ h => h) (Or.inl ⟨by rfl, fun w hw => by go_simp⟩) hH 104 rfl F (by decide) (by simp) (fun a F => ?_)
              clear r89 r103
              have r104 := F.get 104 (.bool true) (by simp)
              refine takeF (i := 18) (v := .bool true) rfl (by kernel_rfl) (by kernel_rfl) (by kernel_rfl) (fun _ _ _ h => h) (Or.inl ⟨by rfl, fun w hw => by go_simp⟩) hH 2 rfl F (by decide) (by simp) (fun a F => ?_)
              clear r104
              refine wpAnyH_done (by kernel_rfl) ?_ _
              have hbF := HD.out.2.2.trans (hb9.mono HD.out.1.2.2)
              have hd := F.2.1
              have r2 := F.get 2 (.bool true) (by simp)
              clear HD HR HFC HSX ho8 hb9 hH F
              go_wp2
              exact ret_tmpF 2 (.bool true) rfl hd r2 ⟨rfl, hbF⟩
            · refine step_oneH (wanted_of 2 false 89 rfl rfl (F.at 89 _ (by simp))) (.tmp 93) rfl X (F.eval 93 _ (by simp)) ?_
              rw [World.size_alloc]
              refine openK (v := .slice (some ⟨wD.heap.size + 1, 0, none⟩) 1 1) 94 rfl F (by decide) (by simp) (fun a F => ?_)
              refine hK'.out _ _ (HSX.out _ (((Below.refl wD.heap.size wD).alloc (Nat.le_refl _) (.cells #[] 33)).alloc (by simp) (.cells #[.int .i64 X.h, .int .i64 X.e, .string X.r, .string X.p] 33))) (fun hH => ?_)
              refine wpAnyH_ready (rs := [5]) (by kernel_rfl) (by simp) ?_
              refine AllReadyH.cons rfl (fun K' hK' => ?_) AllReadyH.nil
              obtain ⟨q1, r1⟩ := HR.out _ (((Below.refl wD.heap.size wD).alloc (Nat.le_refl _) (.cells #[] 33)).alloc (by simp) (.cells #[.int .i64 X.h, .int .i64 X.e, .string X.r, .string X.p] 33))
              have hX1 := rs_one (g := wD.heap.size + 1) (g' := wD.heap.size + 1) (wD.alloc (.cells #[] 33)) X (by simp) (by simp)
              refine step_growH (wanted_of 2 false 89 rfl rfl (F.at 89 _ (by simp))) (.tmp 90) (.tmp 91) rfl wD.heap.size wD _ [] (F.eval 90 _ (by simp)) ((OH.made wD.heap.size wD wD (Below.refl _ _) (Nat.le_refl _)).later ((Below.refl _ _).alloc (Nat.le_refl _) (.cells #[.int .i64 X.h, .int .i64 X.e, .string X.r, .string X.p] 33))) (some ⟨qL, 0, none⟩) n cu q1 0 L HN.out (F.eval 91 _ (by simp)) r1 hnil (by simp; rw [HN.out]; omega) ?_
              intro v3 w3 ho3 hg3
              rw [List.nil_append] at ho3
              have hX2 := hX1.grown hg3 (by simp [Value.ownBlock])
              refine openK (v := v3) 92 rfl F (by decide) (by simp) (fun a F => ?_)
              refine hK'.out _ _ (HSX.out _ ho3.2.1) (fun hH => ?_)
              refine wpAnyH_ready (rs := [8]) (by kernel_rfl) (by simp) ?_
              refine AllReadyH.cons rfl (fun K' hK' => ?_) AllReadyH.nil
              refine step_growH (wanted_of 2 false 89 rfl rfl (F.at 89 _ (by simp))) (.tmp 92) (.tmp 94) rfl wD.heap.size wD _ _ (F.eval 92 _ (by simp)) ho3 (some ⟨wD.heap.size + 1, 0, none⟩) 1 1 (wD.heap.size + 1) 0 [X] rfl (F.eval 94 _ (by simp)) hX2 (by simp) (by simp; rw [HN.out]; omega) ?_
              intro v8 w8 ho8 hg8
              refine openK (v := v8) 95 rfl F (by decide) (by simp) (fun a F => ?_)
              refine hK'.out _ _ (HSX.out _ ho8.2.1) (fun hH => ?_)
              refine wpAnyH_ready (rs := [10]) (by kernel_rfl) (by simp) ?_
              refine AllReadyH.cons rfl (fun K' hK' => ?_) AllReadyH.nil
              refine step_chainH (wanted_of 2 false 89 rfl rfl (F.at 89 _ (by simp))) 95 96 _ rfl _ _ _ _ (F.get 95 _ (by simp)) (F.get 96 _ (by simp)) (HFC.out _ _ ho8) ?_
              intro w9 hb9
              refine openK (v := .bool true) 97 rfl F (by decide) (by simp) (fun a F => ?_)
              refine hK'.out _ _ (HSX.out _ hb9) (fun hH => ?_)
              have r97 := F.get 97 (.bool true) (by simp)
              refine takeF (i := 11) (v := .bool true) rfl (by kernel_rfl) (by kernel_rfl) (by kernel_rfl) (fun _ _ _ h => h) (Or.inl ⟨wanted_of 2 false 89 rfl rfl (F.at 89 _ (by simp)), fun w hw => by go_simp⟩) hH 98 rfl F (by decide) (by simp) (fun a F => ?_)
              clear r97
              have r7 := F.get 7 (.pointer (some ⟨w7.heap.size, 0, none⟩)) (by simp)
              refine takeF (i := 12) (v := .pointer (some ⟨w7.heap.size, 2, none⟩)) rfl (by kernel_rfl) (by kernel_rfl) (by kernel_rfl) (fun _ _ _ h => h) (Or.inl ⟨wanted_of 11 true 98 rfl rfl (F.at 98 _ (by simp)), fun w hw => by go_simp⟩) hH 99 rfl F (by decide) (by simp) (fun a F => ?_)
              clear r7
              have r99 := F.get 99 (.pointer (some ⟨w7.heap.size, 2, none⟩)) (by simp)
              refine takeF (i := 13) (v := .string X.r) rfl (by kernel_rfl) (by kernel_rfl) (by kernel_rfl) (fun _ _ _ h => h) (Or.inl ⟨wanted_of 11 true 98 rfl rfl (F.at 98 _ (by simp)), fun w hw => by have hw2 := hw 2 _ rfl; simp only [Nat.zero_add] at hw2; go_simp⟩) hH 100 rfl F (by decide) (by simp) (fun a F => ?_)
              clear r99
              have r6 := F.get 6 (.string root) (by simp)
              refine takeF (i := 14) (v := .string root) rfl (by kernel_rfl) (by kernel_rfl) (by kernel_rfl) (fun _ _ _ h => h) (Or.inl ⟨wanted_of 11 true 98 rfl rfl (F.at 98 _ (by simp)), fun w hw => by go_simp⟩) hH 101 rfl F (by decide) (by simp) (fun a F => ?_)
              clear r6
              have r100 := F.get 100 (.string X.r) (by simp)
              have r101 := F.get 101 (.string root) (by simp)
              refine takeF (i := 15) (v := .bool true) rfl (by kernel_rfl) (by kernel_rfl) (by kernel_rfl) (fun _ _ _ h => h) (Or.inl ⟨wanted_of 11 true 98 rfl rfl (F.at 98 _ (by simp)), fun w hw => by go_simp⟩) hH 102 rfl F (by decide) (by simp) (fun a F => ?_)
              clear r100 r101
              have r98 := F.get 98 (.bool true) (by simp)
              have r102 := F.get 102 (.bool true) (by simp)
              refine takeF (i := 16) (v := .bool true) rfl (by kernel_rfl) (by kernel_rfl) (by kernel_rfl) (fun _ _ _ h => h) (Or.inl ⟨wanted_of 2 false 89 rfl rfl (F.at 89 _ (by simp)), fun w hw => by go_simp⟩) hH 103 rfl F (by decide) (by simp) (fun a F => ?_)
              clear r98 r102
              have r89 := F.get 89 (.bool false) (by simp)
              have r103 := F.get 103 (.bool true) (by simp)
              refine takeF (i := 17) (v := .bool true) rfl (by kernel_rfl) (by kernel_rfl) (by kernel_rfl) (fun _ _ _ h => h) (Or.inl ⟨by rfl, fun w hw => by go_simp⟩) hH 104 rfl F (by decide) (by simp) (fun a F => ?_)
              clear r89 r103
              have r104 := F.get 104 (.bool true) (by simp)
              refine takeF (i := 18) (v := .bool true) rfl (by kernel_rfl) (by kernel_rfl) (by kernel_rfl) (fun _ _ _ h => h) (Or.inl ⟨by rfl, fun w hw => by go_simp⟩) hH 2 rfl F (by decide) (by simp) (fun a F => ?_)
              clear r104
              refine wpAnyH_done (by kernel_rfl) ?_ _
              have hbF := HD.out.2.2.trans (hb9.mono HD.out.1.2.2)
              have hd := F.2.1
              have r2 := F.get 2 (.bool true) (by simp)
              clear HD HR HFC HSX ho8 hb9 hH F
              go_wp2
              exact ret_tmpF 2 (.bool true) rfl hd r2 ⟨rfl, hbF⟩
          · refine step_oneH (wanted_of 2 false 89 rfl rfl (F.at 89 _ (by simp))) (.tmp 93) rfl X (F.eval 93 _ (by simp)) ?_
            refine openK (v := .slice (some ⟨wD.heap.size, 0, none⟩) 1 1) 94 rfl F (by decide) (by simp) (fun a F => ?_)
            refine hK'.out _ _ (HSX.out _ ((Below.refl wD.heap.size wD).alloc (Nat.le_refl _) (.cells #[.int .i64 X.h, .int .i64 X.e, .string X.r, .string X.p] 33))) (fun hH => ?_)
            refine wpAnyH_ready (rs := [3]) (by kernel_rfl) (by simp) ?_
            refine AllReadyH.cons rfl (fun K' hK' => ?_) AllReadyH.nil
            refine step_emptyH (wanted_of 2 false 89 rfl rfl (F.at 89 _ (by simp))) rfl ?_
            rw [World.size_alloc]
            refine openK (v := .slice (some ⟨wD.heap.size + 1, 0, none⟩) 0 0) 90 rfl F (by decide) (by simp) (fun a F => ?_)
            refine hK'.out _ _ (HSX.out _ (((Below.refl wD.heap.size wD).alloc (Nat.le_refl _) (.cells #[.int .i64 X.h, .int .i64 X.e, .string X.r, .string X.p] 33)).alloc (by simp) (.cells #[] 33))) (fun hH => ?_)
            refine wpAnyH_ready (rs := [5]) (by kernel_rfl) (by simp) ?_
            refine AllReadyH.cons rfl (fun K' hK' => ?_) AllReadyH.nil
            obtain ⟨q1, r1⟩ := HR.out _ (((Below.refl wD.heap.size wD).alloc (Nat.le_refl _) (.cells #[.int .i64 X.h, .int .i64 X.e, .string X.r, .string X.p] 33)).alloc (by simp) (.cells #[] 33))
            have hX1 := (rs_one wD X rfl rfl).later ((Below.refl _ _).alloc (Nat.le_refl _) (.cells #[] 33))
            refine step_growH (wanted_of 2 false 89 rfl rfl (F.at 89 _ (by simp))) (.tmp 90) (.tmp 91) rfl wD.heap.size wD _ [] (F.eval 90 _ (by simp)) (OH.madeAt (g := wD.heap.size + 1) wD.heap.size wD (wD.alloc (.cells #[.int .i64 X.h, .int .i64 X.e, .string X.r, .string X.p] 33)) ((Below.refl wD.heap.size wD).alloc (Nat.le_refl _) (.cells #[.int .i64 X.h, .int .i64 X.e, .string X.r, .string X.p] 33)) (by simp) (by simp)) (some ⟨qL, 0, none⟩) n cu q1 0 L HN.out (F.eval 91 _ (by simp)) r1 hnil (by simp; rw [HN.out]; omega) ?_
            intro v3 w3 ho3 hg3
            rw [List.nil_append] at ho3
            have hX2 := hX1.grown hg3 (by simp [Value.ownBlock])
            refine openK (v := v3) 92 rfl F (by decide) (by simp) (fun a F => ?_)
            refine hK'.out _ _ (HSX.out _ ho3.2.1) (fun hH => ?_)
            refine wpAnyH_ready (rs := [8]) (by kernel_rfl) (by simp) ?_
            refine AllReadyH.cons rfl (fun K' hK' => ?_) AllReadyH.nil
            refine step_growH (wanted_of 2 false 89 rfl rfl (F.at 89 _ (by simp))) (.tmp 92) (.tmp 94) rfl wD.heap.size wD _ _ (F.eval 92 _ (by simp)) ho3 (some ⟨wD.heap.size, 0, none⟩) 1 1 wD.heap.size 0 [X] rfl (F.eval 94 _ (by simp)) hX2 (by simp) (by simp; rw [HN.out]; omega) ?_
            intro v8 w8 ho8 hg8
            refine openK (v := v8) 95 rfl F (by decide) (by simp) (fun a F => ?_)
            refine hK'.out _ _ (HSX.out _ ho8.2.1) (fun hH => ?_)
            refine wpAnyH_ready (rs := [10]) (by kernel_rfl) (by simp) ?_
            refine AllReadyH.cons rfl (fun K' hK' => ?_) AllReadyH.nil
            refine step_chainH (wanted_of 2 false 89 rfl rfl (F.at 89 _ (by simp))) 95 96 _ rfl _ _ _ _ (F.get 95 _ (by simp)) (F.get 96 _ (by simp)) (HFC.out _ _ ho8) ?_
            intro w9 hb9
            refine openK (v := .bool true) 97 rfl F (by decide) (by simp) (fun a F => ?_)
            refine hK'.out _ _ (HSX.out _ hb9) (fun hH => ?_)
            have r97 := F.get 97 (.bool true) (by simp)
            refine takeF (i := 11) (v := .bool true) rfl (by kernel_rfl) (by kernel_rfl) (by kernel_rfl) (fun _ _ _ h => h) (Or.inl ⟨wanted_of 2 false 89 rfl rfl (F.at 89 _ (by simp)), fun w hw => by go_simp⟩) hH 98 rfl F (by decide) (by simp) (fun a F => ?_)
            clear r97
            have r7 := F.get 7 (.pointer (some ⟨w7.heap.size, 0, none⟩)) (by simp)
            refine takeF (i := 12) (v := .pointer (some ⟨w7.heap.size, 2, none⟩)) rfl (by kernel_rfl) (by kernel_rfl) (by kernel_rfl) (fun _ _ _ h => h) (Or.inl ⟨wanted_of 11 true 98 rfl rfl (F.at 98 _ (by simp)), fun w hw => by go_simp⟩) hH 99 rfl F (by decide) (by simp) (fun a F => ?_)
            clear r7
            have r99 := F.get 99 (.pointer (some ⟨w7.heap.size, 2, none⟩)) (by simp)
            refine takeF (i := 13) (v := .string X.r) rfl (by kernel_rfl) (by kernel_rfl) (by kernel_rfl) (fun _ _ _ h => h) (Or.inl ⟨wanted_of 11 true 98 rfl rfl (F.at 98 _ (by simp)), fun w hw => by have hw2 := hw 2 _ rfl; simp only [Nat.zero_add] at hw2; go_simp⟩) hH 100 rfl F (by decide) (by simp) (fun a F => ?_)
            clear r99
            have r6 := F.get 6 (.string root) (by simp)
            refine takeF (i := 14) (v := .string root) rfl (by kernel_rfl) (by kernel_rfl) (by kernel_rfl) (fun _ _ _ h => h) (Or.inl ⟨wanted_of 11 true 98 rfl rfl (F.at 98 _ (by simp)), fun w hw => by go_simp⟩) hH 101 rfl F (by decide) (by simp) (fun a F => ?_)
            clear r6
            have r100 := F.get 100 (.string X.r) (by simp)
            have r101 := F.get 101 (.string root) (by simp)
            refine takeF (i := 15) (v := .bool true) rfl (by kernel_rfl) (by kernel_rfl) (by kernel_rfl) (fun _ _ _ h => h) (Or.inl ⟨wanted_of 11 true 98 rfl rfl (F.at 98 _ (by simp)), fun w hw => by go_simp⟩) hH 102 rfl F (by decide) (by simp) (fun a F => ?_)
            clear r100 r101
            have r98 := F.get 98 (.bool true) (by simp)
            have r102 := F.get 102 (.bool true) (by simp)
            refine takeF (i := 16) (v := .bool true) rfl (by kernel_rfl) (by kernel_rfl) (by kernel_rfl) (fun _ _ _ h => h) (Or.inl ⟨wanted_of 2 false 89 rfl rfl (F.at 89 _ (by simp)), fun w hw => by go_simp⟩) hH 103 rfl F (by decide) (by simp) (fun a F => ?_)
            clear r98 r102
            have r89 := F.get 89 (.bool false) (by simp)
            have r103 := F.get 103 (.bool true) (by simp)
            refine takeF (i := 17) (v := .bool true) rfl (by kernel_rfl) (by kernel_rfl) (by kernel_rfl) (fun _ _ _ h => h) (Or.inl ⟨by rfl, fun w hw => by go_simp⟩) hH 104 rfl F (by decide) (by simp) (fun a F => ?_)
            clear r89 r103
            have r104 := F.get 104 (.bool true) (by simp)
            refine takeF (i := 18) (v := .bool true) rfl (by kernel_rfl) (by kernel_rfl) (by kernel_rfl) (fun _ _ _ h => h) (Or.inl ⟨by rfl, fun w hw => by go_simp⟩) hH 2 rfl F (by decide) (by simp) (fun a F => ?_)
            clear r104
            refine wpAnyH_done (by kernel_rfl) ?_ _
            have hbF := HD.out.2.2.trans (hb9.mono HD.out.1.2.2)
            have hd := F.2.1
            have r2 := F.get 2 (.bool true) (by simp)
            clear HD HR HFC HSX ho8 hb9 hH F
            go_wp2
            exact ret_tmpF 2 (.bool true) rfl hd r2 ⟨rfl, hbF⟩

end Go.Proofs.YtlpbfafcaleifaaDoor
