/-
  The walk of the specification's Digest.
-/
import Derived.Test.YtjfdgidhgijheaaDoorDig
namespace Go.Proofs.YtjfdgidhgijheaaDoor
open Go.RowKit Go.BigFrame
set_option linter.unusedVariables false

def SR (w : World) (t : ByteArray) (g gk : Nat) (i : Value) (wr : World) : Prop := ∃ k : Nat, k ≤ nbl t ∧ i = .int .i64 ((64 * k : Nat) : Int) ∧ Arr wr g 39 8 (stN (padB t) k) ∧ Arr wr gk 50 64 keyF ∧ Below w.heap.size w wr
def SR2 (w : World) (s : Nat → UInt32) (g go : Nat) (i : Value) (wr : World) : Prop := ∃ k : Nat, k ≤ 8 ∧ i = .int .i64 (k : Int) ∧ Arr wr g 39 8 s ∧ Byt wr go (digRow s k) ∧ Below w.heap.size w wr

set_option maxRecDepth 100000 in
set_option maxHeartbeats 400000 in
theorem sDigest_any (t : ByteArray) (w : World) (ht : t.size ≤ 1048576) :
    Calls Tryd.prog 11 #[.string t] w fun e w' => e = .returned (.string (digB t)) ∧ Below w.heap.size w w' := by
  have hpz := padB_size t
  have hnb : nbl t ≤ 20000 := by unfold nbl; omega
  have HD : Hid (digB t = ⟨(digL (stN (padB t) (nbl t)) 8).toArray⟩) := rfl
  generalize digB t = D at *
  have hPT : ∀ w, Calls Tryd.prog 28 #[.string t] w fun e w' => e = .returned (.string (padB t)) ∧ Below w.heap.size w w' := fun w => sPadText_any t w ht
  go_enter Tryd.func11, Tryd.ntmps11
  go_wp2_with fail
  refine (l03First_any _).mono ?_
  rintro e w1 ⟨R, rfl, hR, hb1⟩
  go_wp2_with (first | (with_reducible refine wp_alloc50 rfl rfl ?_) | (refine wp_storeNew rfl 39 8 _ _ rfl w1 _ R firstF rfl (zeros_size 8) hR rfl rfl size51 ?_))
  have ha1 : Arr (w1.alloc (.cells R 39)) w1.heap.size 39 8 firstF := Arr.agg hR
  have hs1 := hb1.size
  have hb2 : Below w.heap.size w (w1.alloc (.cells R 39)) := hb1.alloc hs1 _
  have hz2 : (w1.alloc (.cells R 39)).heap.size = w1.heap.size + 1 := by simp
  refine (l03Keys_any _).mono ?_
  rintro e w3 ⟨R3, rfl, hR3, hb3⟩
  have hs3 := hb3.size
  have ha3 := (ha1.below hb3 (by omega)).alloc (.cells R3 50)
  have hk3 : Arr (w3.alloc (.cells R3 50)) w3.heap.size 50 64 keyF := Arr.agg hR3
  have hb4 : Below w.heap.size w (w3.alloc (.cells R3 50)) := (hb2.trans (hb3.mono (by omega))).alloc (by omega) _
  go_wp2_with (first | (with_reducible refine wp_alloc55 rfl rfl ?_) | (refine wp_storeNew rfl 50 64 _ _ rfl w3 _ R3 keyF rfl (zeros_size 64) hR3 rfl rfl size61 ?_))
  have hz4 : (w3.alloc (.cells R3 50)).heap.size = w3.heap.size + 1 := by simp
  refine (hPT _).mono ?_
  rintro e w5 ⟨rfl, hb5⟩
  have hs5 := hb5.size
  have HST : Hid (SR w t w1.heap.size w3.heap.size (.int .i64 0) w5) := ⟨0, by omega, rfl, ha3.below hb5 (by omega), hk3.below hb5 (by omega), hb4.trans (hb5.mono (by omega))⟩
  have hg1 : w.heap.size ≤ w1.heap.size := hs1
  have hg2 : w1.heap.size < w3.heap.size := by omega
  clear ha1 hb2 hb3 hb4 hb5 hs5 hz4 hk3 ha3 hs3 hR3 hz2 hs1 hR hb1 hPT
  generalize w1.heap.size = g at *
  generalize w3.heap.size = gk at *
  go_wp2
  go_loopw [6] (fun i wr => SR w t g gk i wr) (fun i _ => nbl t * 64 - (intOf i).toNat)
  case atStart => exact HST.out
  case round =>
    obtain ⟨k, hk, rfl, ha, hkk, hbel⟩ := hrel
    clear HST
    by_cases hlt : k < nbl t
    · obtain ⟨c, hc⟩ : ∃ c, (padB t).extract (64 * k) (64 * k + 64) = c := ⟨_, rfl⟩
      have hcz : c.size = 64 := by rw [← hc, ByteArray.size_extract]; omega
      have hcut := run_cut (padB t) ((64 * k : Nat) : Int) (((64 * k : Nat) : Int) + 64) (64 * k) (64 * k + 64) rfl (by omega) (by omega) (by omega)
      rw [hc] at hcut
      have HN : Hid (stN (padB t) (k + 1) = H.block (stN (padB t) k) keyF (bAt c)) := by rw [← hc]; rfl
      clear hc
      generalize stN (padB t) k = S at *
      have HA : Hid (Arr wr g 39 8 S ∧ Arr wr gk 50 64 keyF) := ⟨ha, hkk⟩
      have hgs := ha.lt
      have hgk := hkk.lt
      clear ha hkk
      obtain ⟨n, hn⟩ : ∃ n : Nat, 64 * k = n := ⟨_, rfl⟩
      rw [hn] at hcut
      rw [hn]
      have hnl : n + 64 ≤ nbl t * 64 := by omega
      have wr1 : IntKind.i64.wrap ((n : Int) + 64) = (n : Int) + 64 := IntWalk.i64_in _ (by omega)
      have HNN : Hid (64 * k = n) := hn
      clear hn
      go_wp2
      refine wp_region_still_tail 7 (by kernel_rfl) (by kernel_rfl) ?_
      simp only [List.take_succ_cons, List.take_zero, List.drop_succ_cons, List.drop_zero]
      refine still_loadArr rfl 39 _ rfl g 39 8 S 38 rfl (HA.out.1.drewN 1) Tryd.underlying39 size51 ?_
      intro R1 hR1
      iterate 5 still_step
      refine still_loadArr rfl 50 _ rfl gk 50 64 keyF 38 rfl (HA.out.2.drewN 1) Tryd.underlying50 size61 ?_
      intro R2 hR2
      refine wpStill_nil ?_
      go_wp2_with fail
      refine (l03Block_any R1 R2 S keyF c hcz wr.drew hR1 hR2).mono ?_
      rintro e w6 ⟨R6, rfl, hR6, hb6⟩
      have ha6 : Arr w6 g 39 8 S := Arr.below (w := wr.drew) (HA.out.1.drewN 1) hb6 hgs
      have hk6 : Arr w6 gk 50 64 keyF := Arr.below (w := wr.drew) (HA.out.2.drewN 1) hb6 hgk
      have hz0 : w.heap.size ≤ wr.heap.size := hbel.size
      have hb7 : Below w.heap.size w (w6.setRow g R6) := below_setRow (hbel.drew.trans (Below.mono (B := wr.drew.heap.size) hb6 hz0)) hg1
      have hk7 : Arr (w6.setRow g R6) gk 50 64 keyF := hk6.otherRow (by omega)
      go_wp2_with (refine wp_storeArr rfl 39 _ _ rfl g 39 8 S _ R6 ha6 hR6 rfl rfl size51 ?_; intro hfin)
      clear ha6 hk6 hb6
      generalize w6.setRow g R6 = w7 at *
      go_wp2
      go_roundw
      case rel => exact ⟨k + 1, hlt, by have := HNN.out; show Value.int .i64 _ = Value.int .i64 _; congr 1; omega, by rw [HN.out]; exact hfin, hk7, hb7⟩
      case measure => simp [intOf]; omega
    · have hke : k = nbl t := by omega
      subst hke
      obtain ⟨n, hn⟩ : ∃ n : Nat, 64 * nbl t = n := ⟨_, rfl⟩
      rw [hn]
      have hn2 : (n : Int) = (nbl t : Int) * 64 := by omega
      generalize stN (padB t) (nbl t) = S at *
      have hgs := ha.lt
      obtain ⟨w6, hmk, hby, hb6, hs6⟩ := Byt.made 32 (by omega) wr
      have hmk' : (Instr.makeSlice 22 (.int .i64 32) (.int .i64 32)).run Tryd.prog wr = _ := hmk
      have HST2 : Hid (SR2 w S g wr.heap.size (.int .i64 0) w6) := ⟨0, by omega, rfl, ha.below hb6 hgs, hby, hbel.trans (hb6.mono hbel.size)⟩
      have hgo : g < wr.heap.size := hgs
      have hw0 := hbel.size
      clear hmk hby hb6 hs6 ha hkk hbel hn
      generalize wr.heap.size = go at *
      go_wp2
      go_loopw [8] (fun i wr => SR2 w S g go i wr) (fun i _ => 8 - (intOf i).toNat)
      case atStart => exact HST2.out
      case round =>
        obtain ⟨m, hm, rfl, ha, hby, hbel⟩ := hrel
        clear HST2 hmk'
        have hrl := digRow_len S m hm
        by_cases hlt8 : m < 8
        · have hc := ha.cell m hlt8
          obtain ⟨x0, d0⟩ := hby.has (4 * m) (by omega)
          obtain ⟨x1, d1⟩ := hby.has (4 * m + 1) (by omega)
          obtain ⟨x2, d2⟩ := hby.has (4 * m + 2) (by omega)
          obtain ⟨x3, d3⟩ := hby.has (4 * m + 3) (by omega)
          have f0 := hby.frozen (4 * m)
          have f1 := hby.frozen (4 * m + 1)
          have f2 := hby.frozen (4 * m + 2)
          have f3 := hby.frozen (4 * m + 3)
          have hst := digRow_step S m hlt8 (S m) rfl
          have hX := H.u32_lt (S m)
          have HA : Hid (Arr wr g 39 8 S ∧ Byt wr go (digRow S m) ∧ Below w.heap.size w wr) := ⟨ha, hby, hbel⟩
          clear ha hby hbel
          generalize S m = X at *
          have HST3 : Hid (((((digRow S m).set (4 * m) (UInt8.ofNat (X.toNat / 16777216))).set (4 * m + 1) (UInt8.ofNat (X.toNat / 65536))).set (4 * m + 2) (UInt8.ofNat (X.toNat / 256))).set (4 * m + 3) (UInt8.ofNat X.toNat) = digRow S (m + 1)) := hst
          clear hst
          have n1 : ¬ g = go := by omega
          have n2 : ¬ go = g := by omega
          have t0 : (4 * (m : Int)).toNat = 4 * m := by omega
          have t1 : (4 * (m : Int) + 1).toNat = 4 * m + 1 := by omega
          have t2 : (4 * (m : Int) + 2).toNat = 4 * m + 2 := by omega
          have t3 : (4 * (m : Int) + 3).toNat = 4 * m + 3 := by omega
          have i0 : (0 : Int) ≤ 4 * (m : Int) := by omega
          have i1 : 4 * (m : Int) < 32 := by omega
          have i2 : 4 * (m : Int) + 1 < 32 := by omega
          have i3 : 4 * (m : Int) + 2 < 32 := by omega
          have i4 : 4 * (m : Int) + 3 < 32 := by omega
          have i8 : (m : Int) < 8 := by omega
          have i9 : (0 : Int) ≤ (m : Int) := by omega
          go_wp2
          refine ⟨⟨m + 1, by omega, by go_num, ?_, ?_, ?_⟩, ?_⟩
          · exact (((HA.out.1.other _ _ _ n1).other _ _ _ n1).other _ _ _ n1).other _ _ _ n1
          · have y0 := HA.out.2.1.setx (4 * m) ((X.toNat : Int) / 16777216) (UInt8.ofNat (X.toNat / 16777216)) _ (by simp; omega) rfl
            have y1 := y0.setx (4 * m + 1) ((X.toNat : Int) / 65536 % 256) (UInt8.ofNat (X.toNat / 65536)) _ (by simp) rfl
            have y2 := y1.setx (4 * m + 2) ((X.toNat : Int) / 256 % 256) (UInt8.ofNat (X.toNat / 256)) _ (by simp) rfl
            exact y2.setx (4 * m + 3) ((X.toNat : Int) % 256) (UInt8.ofNat X.toNat) _ (by simp) HST3.out
          · have hwg : w.heap.size ≤ go := by omega
            exact (((HA.out.2.2.setCell (p := ⟨go, 4 * m, none⟩) hwg _).setCell (p := ⟨go, 4 * m + 1, none⟩) hwg _).setCell (p := ⟨go, 4 * m + 2, none⟩) hwg _).setCell (p := ⟨go, 4 * m + 3, none⟩) hwg _
          · simp [intOf]; omega
        · have hme : m = 8 := by omega
          subst hme
          have hcv := hby.str 32 32 hrl
          have HDR : Hid (digRow S 8 = digL S 8) := by show _ = _; simp [digRow]
          rw [HDR.out] at hcv
          clear hby ha
          go_wp2
          go_ret
          exact ⟨by rw [HD.out]; rfl, hbel⟩
end Go.Proofs.YtjfdgidhgijheaaDoor
