/-
  What the specification's ShaBlock answers.
-/
import Derived.Test.YtjfdgidhgijheaaDoorSbi
import Derived.Test.YtjfdgidhgijheaaDoorDig
import Derived.Deep.RegionWith
namespace Go.Proofs.YtjfdgidhgijheaaDoor
open Go.RowKit Go.BigFrame
set_option linter.unusedVariables false

theorem agg8_eq {R : Array Value} {B : Nat → UInt32} (h : AggIs R 8 B) : R = #[.int .u32 ((B 0).toNat : Int), .int .u32 ((B 1).toNat : Int), .int .u32 ((B 2).toNat : Int), .int .u32 ((B 3).toNat : Int), .int .u32 ((B 4).toNat : Int), .int .u32 ((B 5).toNat : Int), .int .u32 ((B 6).toNat : Int), .int .u32 ((B 7).toNat : Int)] := by
  have h2 := agg8 B
  apply Array.ext_getElem?
  intro i
  by_cases hi : i < 8
  · rw [h.2 i hi, h2.2 i hi]
  · rw [Array.getElem?_eq_none (by rw [h.1]; omega), Array.getElem?_eq_none (by rw [h2.1]; omega)]
theorem keepAgg {R : Array Value} {B : Nat → UInt32} (h : AggIs R 8 B) : ∃ B', Hid (B' = B ∧ AggIs R 8 B) := ⟨B, rfl, h⟩

theorem Arr.eight {w7 : World} {gh t : Nat} {f : Nat → UInt32} (h : Arr w7 gh t 8 f) (B : Nat → UInt32) : Arr ((((((((w7.setCell ⟨gh, 0, none⟩ (.int .u32 ((B 0).toNat : Int))).setCell ⟨gh, 1, none⟩ (.int .u32 ((B 1).toNat : Int))).setCell ⟨gh, 2, none⟩ (.int .u32 ((B 2).toNat : Int))).setCell ⟨gh, 3, none⟩ (.int .u32 ((B 3).toNat : Int))).setCell ⟨gh, 4, none⟩ (.int .u32 ((B 4).toNat : Int))).setCell ⟨gh, 5, none⟩ (.int .u32 ((B 5).toNat : Int))).setCell ⟨gh, 6, none⟩ (.int .u32 ((B 6).toNat : Int))).setCell ⟨gh, 7, none⟩ (.int .u32 ((B 7).toNat : Int))) gh t 8 B := by
  have h1 := (((((((h.set 0 (by omega) (B 0)).set 1 (by omega) (B 1)).set 2 (by omega) (B 2)).set 3 (by omega) (B 3)).set 4 (by omega) (B 4)).set 5 (by omega) (B 5)).set 6 (by omega) (B 6)).set 7 (by omega) (B 7)
  refine h1.congr ?_
  intro i hi
  have h8 : i = 0 ∨ i = 1 ∨ i = 2 ∨ i = 3 ∨ i = 4 ∨ i = 5 ∨ i = 6 ∨ i = 7 := by omega
  rcases h8 with rfl | rfl | rfl | rfl | rfl | rfl | rfl | rfl <;> simp [H.upd]
theorem eight_below {w7 : World} {gh C : Nat} (hC : C ≤ gh) (B : Nat → UInt32) : Below C w7 ((((((((w7.setCell ⟨gh, 0, none⟩ (.int .u32 ((B 0).toNat : Int))).setCell ⟨gh, 1, none⟩ (.int .u32 ((B 1).toNat : Int))).setCell ⟨gh, 2, none⟩ (.int .u32 ((B 2).toNat : Int))).setCell ⟨gh, 3, none⟩ (.int .u32 ((B 3).toNat : Int))).setCell ⟨gh, 4, none⟩ (.int .u32 ((B 4).toNat : Int))).setCell ⟨gh, 5, none⟩ (.int .u32 ((B 5).toNat : Int))).setCell ⟨gh, 6, none⟩ (.int .u32 ((B 6).toNat : Int))).setCell ⟨gh, 7, none⟩ (.int .u32 ((B 7).toNat : Int))) :=
  ((((((((Below.refl C w7).setCell (p := ⟨gh, 0, none⟩) hC _).setCell (p := ⟨gh, 1, none⟩) hC _).setCell (p := ⟨gh, 2, none⟩) hC _).setCell (p := ⟨gh, 3, none⟩) hC _).setCell (p := ⟨gh, 4, none⟩) hC _).setCell (p := ⟨gh, 5, none⟩) hC _).setCell (p := ⟨gh, 6, none⟩) hC _).setCell (p := ⟨gh, 7, none⟩) hC _

def urow (l : List Int) (B : Nat → UInt32) (m : Nat) : List Int := stI B m ++ l.drop m
theorem urow_len (l : List Int) (B : Nat → UInt32) (m : Nat) (h : l.length = 8) (hm : m ≤ 8) : (urow l B m).length = 8 := by
  unfold urow
  rw [List.length_append, stI_len, List.length_drop]
  omega
theorem urow_step (l : List Int) (B : Nat → UInt32) (m : Nat) (h : l.length = 8) (hm : m < 8) : (urow l B m).set m ((B m).toNat : Int) = urow l B (m + 1) := by
  unfold urow
  rw [stI_succ, List.set_append_right _ _ (by rw [stI_len]; exact Nat.le_refl _), stI_len, Nat.sub_self, List.drop_eq_getElem_cons (by omega), List.set_cons_zero, List.append_assoc]
  rfl
theorem urow_all (l : List Int) (B : Nat → UInt32) (h : l.length = 8) : urow l B 8 = stI B 8 := by
  unfold urow
  rw [List.drop_eq_nil_of_le (by omega), List.append_nil]
def UR (w : World) (l : List Int) (B : Nat → UInt32) (gq gh : Nat) (i : Value) (wr : World) : Prop := ∃ m : Nat, m ≤ 8 ∧ i = .int .i64 m ∧ IB wr gq (urow l B m) ∧ Arr wr gh 39 8 B ∧ Below w.heap.size w wr

/-- the state so far: the copy, the words -/
def TR (w : World) (l : List Int) (gq gh : Nat) (i : Value) (wr : World) : Prop := ∃ (m : Nat) (f : Nat → UInt32), m ≤ 8 ∧ i = .int .i64 m ∧ (∀ j (h : j < l.length), j < m → inR l[j] ∧ f j = ofI l j) ∧ IB wr gq l ∧ Arr wr gh 39 8 f ∧ Below w.heap.size w wr

set_option maxRecDepth 100000 in
set_option maxHeartbeats 400000 in
theorem sShaBlock_any (g o n c : Nat) (l : List Int) (b : ByteArray) (w : World) (hn : l.length = n) (hl : n ≤ 1100000) (hbs : b.size ≤ 1100000) (hg : g < w.heap.size) (hc : ∀ j (h : j < l.length), w.cell? ⟨g, o + j, none⟩ = some (.int .i64 l[j])) :
    Calls Tryd.prog 14 #[.slice (some ⟨g, o, none⟩) n c, .string b] w fun e w' => (fitB l b → Ans w w' e (outI l b)) ∧ (¬ fitB l b → Ans w w' e l) := by
  have HC2 : Hid (∀ j (h : j < l.length), (w.alloc (.cells #[] 3)).cell? ⟨g, o + j, none⟩ = some (.int .i64 l[j])) := fun j hj => (((Below.refl _ _).alloc (Nat.le_refl _) (.cells #[] 3)).cell (p := ⟨g, o + j, none⟩) hg).trans (hc j hj)
  have HOW : Hid ((w.alloc (.cells #[] 3)).ownsRow w.heap.size 3 1 (.slice (some ⟨w.heap.size, 0, none⟩) 0 0) 0 []) := World.ownsRow_made w #[] 0 (Nat.le_refl _) (by decide) (by simp)
  by_cases h1 : n = 8 ∧ b.size = 64
  · obtain ⟨h8, h64⟩ := h1
    subst h8
    go_enter Tryd.func14, Tryd.ntmps14
    go_wp2_with (first | (with_reducible refine wp_alloc50 rfl rfl ?_) | (refine wp_storeNew rfl 39 8 _ _ rfl _ _ (zeros 8) (fun _ => 0) rfl (zeros_size 8) (AggIs.zeros 8) rfl rfl size51 ?_) | (at_builtin; refine wp_appI rfl _ _ rfl w.heap.size w.heap.size rfl HOW.out (by simp) g o 8 c l hn rfl HC2.out hl ?_; intro gq cq w2 hgq hib hb2))
    have hlt2 := hib.lt
    have hs2 := hb2.size
    have hz1 : (w.alloc (.cells #[] 3)).heap.size = w.heap.size + 1 := by simp
    have HST : Hid (TR w l gq w2.heap.size (.int .i64 0) (w2.alloc (.cells (zeros 8) 39))) := ⟨0, fun _ => 0, by omega, rfl, fun j h hj => absurd hj (by omega), hib.below ((Below.refl w2.heap.size w2).alloc (Nat.le_refl _) _) hlt2, Arr.agg (AggIs.zeros 8), (((Below.refl _ _).alloc (Nat.le_refl _) _).trans hb2).alloc (by omega) _⟩
    have hne : gq < w2.heap.size := hlt2
    have hwg : w.heap.size ≤ gq := hgq
    clear hib hb2 hs2 hz1 HC2 HOW hlt2 hgq
    generalize w2.alloc (.cells (zeros 8) 39) = w3 at *
    generalize w2.heap.size = gh at *
    go_loopw [7] (fun i wr => TR w l gq gh i wr) (fun i _ => 8 - (intOf i).toNat)
    case atStart => exact HST.out
    case round =>
      obtain ⟨m, f, hm, rfl, hf, hq, hs, hbel⟩ := hrel
      clear HST
      by_cases hlt : m < 8
      · have c1 : wr.cell? ⟨g, o + m, none⟩ = some (.int .i64 (l[m]'(by omega))) := (hbel.cell (p := ⟨g, o + m, none⟩) hg).trans (hc m (by omega))
        have i1 : (m : Int) < 8 := by omega
        have i2 : (0 : Int) ≤ (m : Int) := by omega
        by_cases hin : inR (l[m]'(by omega))
        · have hox := ofI_nat l m (by omega) hin
          have hin2 : 0 ≤ l[m]'(by omega) ∧ l[m]'(by omega) ≤ 4294967295 := hin
          have hd : decide ((0 : Int) ≤ l[m]'(by omega) ∧ l[m]'(by omega) ≤ 4294967295) = true := by simp; exact hin2
          have c0 := hs.cell m hlt
          have f0 := hs.frozen m
          have HN : Hid (TR w l gq gh (.int .i64 ((m : Int) + 1)) (wr.setCell ⟨gh, m, none⟩ (.int .u32 (l[m]'(by omega))))) := by
            have hb3 : Below (gq + 1) wr (wr.setCell ⟨gh, m, none⟩ (.int .u32 (l[m]'(by omega)))) := (Below.refl _ _).setCell (p := ⟨gh, m, none⟩) (by show gq + 1 ≤ gh; omega) _
            refine ⟨m + 1, H.upd f m (ofI l m), by omega, by simp, fun j h hj => ?_, hq.below hb3 (by omega), ?_, hbel.setCell (p := ⟨gh, m, none⟩) (by show w.heap.size ≤ gh; omega) _⟩
            · unfold H.upd
              by_cases h1 : j = m
              · subst h1
                exact ⟨hin, by simp⟩
              · rw [if_neg h1]
                exact hf j h (by omega)
            · rw [← hox]
              exact hs.set m hlt _
          generalize l[m]'(by omega) = X at *
          clear hf hq hs hbel hin hox
          go_wp2_with fail
          refine (l01In_any _ _ _ _).mono ?_
          rintro e w5 ⟨rfl, rfl⟩
          rw [hd]
          go_wp2
          refine ⟨HN.out, ?_⟩
          simp [intOf]
          omega
        · have HNF : Hid (¬ fitB l b) := fun h => hin (h.2.2 m (by omega))
          have hd : decide ((0 : Int) ≤ l[m]'(by omega) ∧ l[m]'(by omega) ≤ 4294967295) = false := by
            rw [decide_eq_false_iff_not]
            exact hin
          generalize l[m]'(by omega) = X at *
          have HQ : Hid (IB wr gq l ∧ Below w.heap.size w wr) := ⟨hq, hbel⟩
          clear hf hq hs hbel hin
          go_wp2_with fail
          refine (l01In_any _ _ _ _).mono ?_
          rintro e w5 ⟨rfl, rfl⟩
          rw [hd]
          go_wp2
          go_ret
          exact ⟨fun hf => absurd hf HNF.out, fun _ => ⟨gq, cq, by rw [hn]; rfl, hwg, HQ.out.1, HQ.out.2⟩⟩
      · have hme : m = 8 := by omega
        subst hme
        have HFIT : Hid (fitB l b) := ⟨hn, h64, fun j h => (hf j h (by omega)).1⟩
        have HS : Hid (Arr wr gh 39 8 (ofI l)) := hs.congr (fun j hj => (hf j (by omega) hj).2)
        have HQ : Hid (IB wr gq l ∧ Below w.heap.size w wr) := ⟨hq, hbel⟩
        clear hf hq hs hbel hc
        have hgh : gh < wr.heap.size := HS.out.lt
        have c0 := HS.out.cell 0 (by omega)
        have c1 := HS.out.cell 1 (by omega)
        have c2 := HS.out.cell 2 (by omega)
        have c3 := HS.out.cell 3 (by omega)
        have c4 := HS.out.cell 4 (by omega)
        have c5 := HS.out.cell 5 (by omega)
        have c6 := HS.out.cell 6 (by omega)
        have c7 := HS.out.cell 7 (by omega)
        have hag := agg8 (ofI l)
        have HAG : Hid (AggIs #[.int .u32 ((ofI l 0).toNat : Int), .int .u32 ((ofI l 1).toNat : Int), .int .u32 ((ofI l 2).toNat : Int), .int .u32 ((ofI l 3).toNat : Int), .int .u32 ((ofI l 4).toNat : Int), .int .u32 ((ofI l 5).toNat : Int), .int .u32 ((ofI l 6).toNat : Int), .int .u32 ((ofI l 7).toNat : Int)] 8 (ofI l)) := hag
        clear hag
        go_wp2_with fail
        go_region_with (first
          | (go_at_call 27; refine (l03Keys_any _).mono ?_; rintro e w6 ⟨R6, rfl, hR6, hb6⟩; have a6 : Arr w6 gh 39 8 (ofI l) := Arr.below (w := wr.drew) (HS.out.drewN 1) hb6 hgh; have d0 := a6.cell 0 (by omega); have d1 := a6.cell 1 (by omega); have d2 := a6.cell 2 (by omega); have d3 := a6.cell 3 (by omega); have d4 := a6.cell 4 (by omega); have d5 := a6.cell 5 (by omega); have d6 := a6.cell 6 (by omega); have d7 := a6.cell 7 (by omega); have A6 : Hid (Arr w6 gh 39 8 (ofI l)) := a6; clear a6)
          | (go_at_call 29; refine (l03Block_any _ _ (ofI l) keyF b h64 _ HAG.out hR6).mono ?_; rintro e w7 ⟨R7, rfl, hR7, hb7⟩; have a7 := A6.out.below hb7 A6.out.lt; have e0 := a7.cell 0 (by omega); have k0 := a7.frozen 0; have e1 := a7.cell 1 (by omega); have k1 := a7.frozen 1; have e2 := a7.cell 2 (by omega); have k2 := a7.frozen 2; have e3 := a7.cell 3 (by omega); have k3 := a7.frozen 3; have e4 := a7.cell 4 (by omega); have k4 := a7.frozen 4; have e5 := a7.cell 5 (by omega); have k5 := a7.frozen 5; have e6 := a7.cell 6 (by omega); have k6 := a7.frozen 6; have e7 := a7.cell 7 (by omega); have k7 := a7.frozen 7; have HX : Hid (Arr w7 gh 39 8 (ofI l) ∧ IB w7 gq l ∧ Below w.heap.size w w7) := ⟨a7, (IB.below (w := wr.drew) HQ.out.1 hb6 (by have : gh < wr.drew.heap.size := hgh; omega)).below hb7 (by have := A6.out.lt; omega), (HQ.out.2.drew.trans (Below.mono (B := wr.drew.heap.size) hb6 (HQ.out.2.size))).trans (Below.mono (B := w6.heap.size) hb7 (Nat.le_trans HQ.out.2.size hb6.size))⟩; have hq7 := agg8_eq hR7; subst hq7; clear a7))
        all_goals
          have HO : Hid (outI l b = stI (H.block (ofI l) keyF (bAt b)) 8) := rfl
          have hst1 := HX.out.1.eight (H.block (ofI l) keyF (bAt b))
          have hst2 := eight_below (w7 := w7) (gh := gh) (C := gq + 1) (by omega) (H.block (ofI l) keyF (bAt b))
          have hst3 := eight_below (w7 := w7) (gh := gh) (C := w.heap.size) (by omega) (H.block (ofI l) keyF (bAt b))
          have HU := HX.out
          generalize H.block (ofI l) keyF (bAt b) = B at *
          have HST2 : Hid (UR w l B gq gh (.int .i64 0) _) := ⟨0, by omega, rfl, by simpa [urow, stI] using HU.2.1.below hst2 (by omega), hst1, HU.2.2.trans hst3⟩
          clear c0 d0 e0 k0 c1 d1 e1 k1 c2 d2 e2 k2 c3 d3 e3 k3 c4 d4 e4 k4 c5 d5 e5 k5 c6 d6 e6 k6 c7 d7 e7 k7 hst1 hst2 hst3 HU HX A6 hb7 hR7 hR6 hb6 HAG HS HQ
          go_wp2
          go_loopw [8] (fun i wr => UR w l B gq gh i wr) (fun i _ => 8 - (intOf i).toNat)
          case atStart => exact HST2.out
          case round =>
            obtain ⟨m, hm8, rfl, hq, hs, hbel⟩ := hrel
            have hul := urow_len l B m hn hm8
            clear HST2
            by_cases hlt8 : m < 8
            · have c0 := hs.cell m hlt8
              have q0 := hq.cell m (by omega)
              have f0 := hq.frozen m
              have hsq := hq.set m (by omega) ((B m).toNat : Int)
              rw [urow_step l B m hn hlt8] at hsq
              have HS2 : Hid (IB (wr.setCell ⟨gq, m, none⟩ (.int .i64 ((B m).toNat : Int))) gq (urow l B (m + 1)) ∧ Arr (wr.setCell ⟨gq, m, none⟩ (.int .i64 ((B m).toNat : Int))) gh 39 8 B ∧ Below w.heap.size w (wr.setCell ⟨gq, m, none⟩ (.int .i64 ((B m).toNat : Int)))) := ⟨hsq, hs.other _ _ _ (by omega), hbel.setCell (p := ⟨gq, m, none⟩) hwg _⟩
              have hxl := H.u32_lt (B m)
              generalize (urow l B m)[m]'(by omega) = Y at *
              generalize B m = X at *
              clear hsq hq hs hbel hul
              have i1 : (m : Int) < 8 := by omega
              have i2 : (0 : Int) ≤ (m : Int) := by omega
              go_wp2
              refine ⟨⟨m + 1, by omega, by go_num, HS2.out.1, HS2.out.2.1, HS2.out.2.2⟩, ?_⟩
              simp [intOf]
              omega
            · have hme8 : m = 8 := by omega
              subst hme8
              have HFI : Hid (IB wr gq (stI B 8) ∧ Below w.heap.size w wr) := ⟨by rw [← urow_all l B hn]; exact hq, hbel⟩
              clear hq hs hbel hul
              go_wp2
              go_ret
              exact ⟨fun _ => ⟨gq, cq, by rw [HO.out, stI_len]; rfl, hwg, by rw [HO.out]; exact HFI.out.1, HFI.out.2⟩, fun hno => absurd HFIT.out hno⟩
  · have HNF : Hid (¬ fitB l b) := fun hf => h1 ⟨by rw [← hn]; exact hf.1, hf.2.1⟩
    by_cases h8 : n = 8
    · have h64 : ¬ (b.size : Int) = 64 := fun h => h1 ⟨h8, by omega⟩
      subst h8
      clear h1
      go_enter Tryd.func14, Tryd.ntmps14
      go_wp2_with (at_builtin; refine wp_appI rfl _ _ rfl w.heap.size w.heap.size rfl HOW.out (by simp) g o 8 c l hn rfl HC2.out hl ?_; intro gq cq w2 hgq hib hb2)
      go_wp2
      go_ret
      exact ⟨fun hf => absurd hf HNF.out, fun _ => ⟨gq, cq, by rw [hn]; rfl, hgq, hib, ((Below.refl _ _).alloc (Nat.le_refl _) _).trans hb2⟩⟩
    · have h8' : ¬ (n : Int) = 8 := by omega
      clear h1
      go_enter Tryd.func14, Tryd.ntmps14
      go_wp2_with (at_builtin; refine wp_appI rfl _ _ rfl w.heap.size w.heap.size rfl HOW.out (by simp) g o n c l hn rfl HC2.out hl ?_; intro gq cq w2 hgq hib hb2)
      go_wp2
      go_ret
      exact ⟨fun hf => absurd hf HNF.out, fun _ => ⟨gq, cq, by rw [hn]; rfl, hgq, hib, ((Below.refl _ _).alloc (Nat.le_refl _) _).trans hb2⟩⟩
end Go.Proofs.YtjfdgidhgijheaaDoor
