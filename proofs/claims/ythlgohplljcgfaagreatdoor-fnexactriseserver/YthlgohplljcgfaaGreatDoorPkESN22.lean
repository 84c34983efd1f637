/-
  Texts laid together: Dig, Digs, Hexw, Hexs.
-/
import Derived.Test.YthlgohplljcgfaaGreatDoorPkESN21
import Derived.StillTailTactics
import Derived.Test.YthlgohplljcgfaaGreatDoorPkESN4
/-
  What Digest answers, in plain words.
-/
namespace Go.Proofs.YthlgohplljcgfaaGreatDoor
open Go.RowKit Go.BigFrame
set_option linter.unusedVariables false

/-- the state behind the first so many blocks -/
def stN (p : ByteArray) : Nat → Nat → UInt32
  | 0 => firstF
  | k + 1 => H.block (stN p k) keyF (bAt (p.extract (64 * k) (64 * k + 64)))
def padB (t : ByteArray) : ByteArray := ⟨(padL t.data.toList).toArray⟩
def nbl (t : ByteArray) : Nat := (t.size + 72) / 64
def digB (t : ByteArray) : ByteArray := ⟨(digL (stN (padB t) (nbl t)) 8).toArray⟩
theorem padB_size (t : ByteArray) : (padB t).size = nbl t * 64 := by
  have h1 : (padB t).data.toList.length = (padB t).size := Array.length_toList
  have h2 : t.data.toList.length = t.size := Array.length_toList
  have h3 := padL_blocks t.data.toList
  rw [h2] at h3
  rw [← h1]
  simpa [padB, nbl] using h3
theorem digB_size (t : ByteArray) : (digB t).size = 32 := by
  have h1 : (digB t).data.toList.length = (digB t).size := Array.length_toList
  rw [← h1]
  simp [digB, digL_len]

section
variable {w : World} {ops : Array Oper} {rest : List Oper} {o : Oper} {a : Act} {Q : Act → Prop}
theorem still_loadArr (hgd : o.guard = none) (ty : TypeId) (p : Operand) (ho : o.op = .load ty p) (g t n : Nat) (f : Nat → UInt32) (e : TypeId) (hp : a.eval p = .pointer (some ⟨g, 0, none⟩)) (hA : Arr w g t n f)
    (hu : Tryz.prog.underlying ty = some (.array n e)) (hi : (Tryz.prog.info? ty).map (·.size) = some n)
    (h : ∀ R, AggIs R n f → wpStill Tryz.prog ops w Q rest (a.put o.dst (.agg R))) : wpStill Tryz.prog ops w Q (o :: rest) a := by
  refine wpStill_step fun K hK => ?_
  obtain ⟨R, hr, hR⟩ := run_loadArr ty e hu hi hA
  have hw : Region.wanted o (yielded ops a.tmps) = true := by simp [Region.wanted, hgd]
  rw [if_pos hw]
  unfold Oper.still
  simp [execOp, ho, hp, hr, Result.andThen, Oper.stillUpon]
  exact hK _ (h R hR)
end

def DR (w : World) (t : ByteArray) (g : Nat) (i : Value) (wr : World) : Prop := ∃ k : Nat, k ≤ nbl t ∧ i = .int .i64 k ∧ Arr wr g 228 8 (stN (padB t) k) ∧ TabK wr ∧ Below w.heap.size w wr

set_option maxRecDepth 100000 in
set_option maxHeartbeats 400000 in
theorem Digest_any (t : ByteArray) (w : World) (ht : t.size ≤ 1048576) (hK : TabK w) (hF : TabF w) :
    Calls Tryz.prog 179 #[.string t] w fun e w' => e = .returned (.string (digB t)) ∧ Below w.heap.size w w' := by
  have hpz := padB_size t
  have hkp := hK.pos
  have hfp := hF.pos
  have hnb : nbl t ≤ 20000 := by unfold nbl; omega
  have HK : Hid (TabK w) := hK
  have HF : Hid (TabF w) := hF
  have HD : Hid (digB t = ⟨(digL (stN (padB t) (nbl t)) 8).toArray⟩) := rfl
  have hPT : Calls Tryz.prog 187 #[.string t] w fun e w' => e = .returned (.string (padB t)) ∧ Below w.heap.size w w' := PadText_any t w ht
  clear hK hF
  generalize digB t = D at *
  go_enter Tryz.func179, Tryz.ntmps179
  go_wp2_with fail
  refine hPT.mono ?_
  rintro e w1 ⟨rfl, hb1⟩
  clear hPT
  go_wp2_with fail
  refine (shaBegin_any w1 (HF.out.later hb1 hfp)).mono ?_
  rintro e w2 ⟨R, rfl, hR, hb2⟩
  go_wp2_with (first | (refine wp_allocArr rfl 228 8 rfl zero52 ?_) | (refine wp_storeNew rfl 228 8 _ _ rfl w2 _ R firstF rfl (zeros_size 8) hR rfl rfl size52 ?_))
  have hs1 := hb1.size
  have hs2 := hb2.size
  have hb3 : Below w.heap.size w (w2.alloc (.cells R 228)) := (hb1.trans (hb2.mono hs1)).alloc (by omega) _
  have HST : Hid (DR w t w2.heap.size (.int .i64 0) (w2.alloc (.cells R 228))) := ⟨0, by omega, rfl, Arr.agg hR, HK.out.later hb3 hkp, hb3⟩
  have hg : w.heap.size ≤ w2.heap.size := by omega
  generalize w2.alloc (.cells R 228) = w3 at *
  generalize w2.heap.size = g at *
  clear hb1 hb2 hb3 hR hs1 hs2 HK HF
  go_loopw [12] (fun i wr => DR w t g i wr) (fun i _ => nbl t - (intOf i).toNat)
  case atStart => exact HST.out
  case round =>
    obtain ⟨k, hk, rfl, ha, hT, hbel⟩ := hrel
    clear HST
    by_cases hlt : k < nbl t
    · obtain ⟨c, hc⟩ : ∃ c, (padB t).extract (64 * k) (64 * k + 64) = c := ⟨_, rfl⟩
      have hcz : c.size = 64 := by rw [← hc, ByteArray.size_extract]; omega
      have hcut := run_cut (padB t) ((k : Int) * 64) (((k : Int) + 1) * 64) (64 * k) (64 * k + 64) (by omega) (by omega) (by omega) (by omega)
      rw [hc] at hcut
      have HN : Hid (stN (padB t) (k + 1) = H.block (stN (padB t) k) keyF (bAt c)) := by rw [← hc]; rfl
      clear hc
      have wr1 : IntKind.i64.wrap ((k : Int) * 64) = (k : Int) * 64 := IntWalk.i64_in _ (by omega)
      have wr2 : IntKind.i64.wrap ((k : Int) + 1) = (k : Int) + 1 := IntWalk.i64_in _ (by omega)
      have wr3 : IntKind.i64.wrap (((k : Int) + 1) * 64) = ((k : Int) + 1) * 64 := IntWalk.i64_in _ (by omega)
      generalize stN (padB t) k = S at *
      have HA : Hid (Arr wr g 228 8 S ∧ TabK wr) := ⟨ha, hT⟩
      have hgs := ha.lt
      clear ha hT
      go_wp2
      refine wp_region_still_tail 8 (by kernel_rfl) (by kernel_rfl) ?_
      simp only [List.take_succ_cons, List.take_zero, List.drop_succ_cons, List.drop_zero]
      refine still_loadArr rfl 228 _ rfl g 228 8 S 167 rfl (HA.out.1.drewN 1) Tryz.underlying228 size52 ?_
      intro R1 hR1
      iterate 7 still_step
      refine wpStill_nil ?_
      go_wp2_with fail
      refine (after_any R1 S c hcz wr.drew hR1 (fun i hi => HA.out.2 i hi)).mono ?_
      rintro e w5 ⟨R2, rfl, hR2, hb5⟩
      have ha5 : Arr w5 g 228 8 S := Arr.below (w := wr.drew) (HA.out.1.drewN 1) hb5 hgs
      go_wp2_with (refine wp_storeArr rfl 228 _ _ rfl g 228 8 S _ R2 ha5 hR2 rfl rfl size52 ?_; intro hfin)
      have hz0 : w.heap.size ≤ wr.heap.size := hbel.size
      have hb6 : Below w.heap.size wr.drew (w5.setRow g R2) := below_setRow (Below.mono (B := wr.drew.heap.size) hb5 hz0) hg
      have HT6 : Hid (TabK (w5.setRow g R2)) := TabK.later (w := wr.drew) (fun i hi => HA.out.2 i hi) hb6 hkp
      have HB6 : Hid (Below w.heap.size w (w5.setRow g R2)) := hbel.drew.trans hb6
      clear hb5 hb6 ha5
      generalize w5.setRow g R2 = w6 at *
      go_wp2
      go_roundw
      case rel => exact ⟨k + 1, hlt, by go_num, by rw [HN.out]; exact hfin, HT6.out, HB6.out⟩
      case measure => simp [intOf]; omega
    · have hke : k = nbl t := by omega
      subst hke
      have HA : Hid (Arr wr g 228 8 (stN (padB t) (nbl t))) := ha
      clear ha hT
      go_wp2_with (refine wp_loadArr rfl 228 _ rfl g 228 8 _ 167 rfl HA.out Tryz.underlying228 size52 ?_; intro R1 hR1)
      refine (inBytesH_any R1 _ _ hR1).mono ?_
      rintro e w5 ⟨rfl, hb5⟩
      go_wp2
      go_ret
      exact ⟨by rw [HD.out]; rfl, hbel.trans (hb5.mono hbel.size)⟩

/-- the row of the digest when the first so many numbers stand -/
def digRow (s : Nat → UInt32) (k : Nat) : List UInt8 := digL s k ++ List.replicate (32 - 4 * k) 0
theorem digRow_len (s : Nat → UInt32) (k : Nat) (h : k ≤ 8) : (digRow s k).length = 32 := by
  unfold digRow
  rw [List.length_append, digL_len, List.length_replicate]
  omega
theorem digRow_step (s : Nat → UInt32) (k : Nat) (h : k < 8) (X : UInt32) (hX : s k = X) :
    ((((digRow s k).set (4 * k) (UInt8.ofNat (X.toNat / 16777216))).set (4 * k + 1) (UInt8.ofNat (X.toNat / 65536))).set (4 * k + 2) (UInt8.ofNat (X.toNat / 256))).set (4 * k + 3) (UInt8.ofNat X.toNat) = digRow s (k + 1) := by
  subst hX
  have e : 32 - 4 * k = (32 - 4 * (k + 1)) + 1 + 1 + 1 + 1 := by omega
  have hl := digL_len s k
  unfold digRow
  rw [e, digL_succ]
  simp only [List.replicate_succ]
  rw [List.set_append_right _ _ (by omega), List.set_append_right _ _ (by omega), List.set_append_right _ _ (by omega), List.set_append_right _ _ (by omega)]
  have e0 : 4 * k - (digL s k).length = 0 := by omega
  have e1 : 4 * k + 1 - (digL s k).length = 1 := by omega
  have e2 : 4 * k + 2 - (digL s k).length = 2 := by omega
  have e3 : 4 * k + 3 - (digL s k).length = 3 := by omega
  rw [e0, e1, e2, e3]
  simp [be4]
end Go.Proofs.YthlgohplljcgfaaGreatDoor
/-
  The walk of the specification's Digest.
-/
namespace Go.Proofs.YthlgohplljcgfaaGreatDoor
open Go.RowKit Go.BigFrame
set_option linter.unusedVariables false

def SR (w : World) (t : ByteArray) (g gk : Nat) (i : Value) (wr : World) : Prop := ∃ k : Nat, k ≤ nbl t ∧ i = .int .i64 ((64 * k : Nat) : Int) ∧ Arr wr g 191 8 (stN (padB t) k) ∧ Arr wr gk 193 64 keyF ∧ Below w.heap.size w wr
def SR2 (w : World) (s : Nat → UInt32) (g go : Nat) (i : Value) (wr : World) : Prop := ∃ k : Nat, k ≤ 8 ∧ i = .int .i64 (k : Int) ∧ Arr wr g 191 8 s ∧ Byt wr go (digRow s k) ∧ Below w.heap.size w wr

set_option maxRecDepth 100000 in
set_option maxHeartbeats 400000 in
theorem sDigest_any (t : ByteArray) (w : World) (ht : t.size ≤ 1048576) :
    Calls Tryz.prog 134 #[.string t] w fun e w' => e = .returned (.string (digB t)) ∧ Below w.heap.size w w' := by
  have hpz := padB_size t
  have hnb : nbl t ≤ 20000 := by unfold nbl; omega
  have HD : Hid (digB t = ⟨(digL (stN (padB t) (nbl t)) 8).toArray⟩) := rfl
  generalize digB t = D at *
  have hPT : ∀ w, Calls Tryz.prog 157 #[.string t] w fun e w' => e = .returned (.string (padB t)) ∧ Below w.heap.size w w' := fun w => sPadText_any t w ht
  go_enter Tryz.func134, Tryz.ntmps134
  go_wp2_with fail
  refine (l03First_any _).mono ?_
  rintro e w1 ⟨R, rfl, hR, hb1⟩
  go_wp2_with (first | (with_reducible refine wp_alloc50 rfl rfl ?_) | (refine wp_storeNew rfl 191 8 _ _ rfl w1 _ R firstF rfl (zeros_size 8) hR rfl rfl size51 ?_))
  have ha1 : Arr (w1.alloc (.cells R 191)) w1.heap.size 191 8 firstF := Arr.agg hR
  have hs1 := hb1.size
  have hb2 : Below w.heap.size w (w1.alloc (.cells R 191)) := hb1.alloc hs1 _
  have hz2 : (w1.alloc (.cells R 191)).heap.size = w1.heap.size + 1 := by simp
  refine (l03Keys_any _).mono ?_
  rintro e w3 ⟨R3, rfl, hR3, hb3⟩
  have hs3 := hb3.size
  have ha3 := (ha1.below hb3 (by omega)).alloc (.cells R3 193)
  have hk3 : Arr (w3.alloc (.cells R3 193)) w3.heap.size 193 64 keyF := Arr.agg hR3
  have hb4 : Below w.heap.size w (w3.alloc (.cells R3 193)) := (hb2.trans (hb3.mono (by omega))).alloc (by omega) _
  go_wp2_with (first | (with_reducible refine wp_alloc55 rfl rfl ?_) | (refine wp_storeNew rfl 193 64 _ _ rfl w3 _ R3 keyF rfl (zeros_size 64) hR3 rfl rfl size61 ?_))
  have hz4 : (w3.alloc (.cells R3 193)).heap.size = w3.heap.size + 1 := by simp
  refine (hPT _).mono ?_
  rintro e w5 ⟨rfl, hb5⟩
  have hs5 := hb5.size
  have HST : Hid (SR w t w1.heap.size w3.heap.size (.int .i64 0) w5) := ⟨0, by omega, rfl, ha3.below hb5 (by omega), hk3.below hb5 (by omega), hb4.trans (hb5.mono (by omega))⟩
  have hg1 : w.heap.size ≤ w1.heap.size := hs1
  have hg2 : w1.heap.size < w3.heap.size := by omega
  clear ha1 hb2 hb3 hb4 hb5 hs5 hz4 hk3 ha3 hs3 hR3 hz2 hs1 hR hb1 hPT
  generalize w1.heap.size = g at *
  generalize w3.heap.size = gk at *
  go_wp2
  go_loopw [6] (fun i wr => SR w t g gk i wr) (fun i _ => nbl t * 64 - (intOf i).toNat)
  case atStart => exact HST.out
  case round =>
    obtain ⟨k, hk, rfl, ha, hkk, hbel⟩ := hrel
    clear HST
    by_cases hlt : k < nbl t
    · obtain ⟨c, hc⟩ : ∃ c, (padB t).extract (64 * k) (64 * k + 64) = c := ⟨_, rfl⟩
      have hcz : c.size = 64 := by rw [← hc, ByteArray.size_extract]; omega
      have hcut := run_cut (padB t) ((64 * k : Nat) : Int) (((64 * k : Nat) : Int) + 64) (64 * k) (64 * k + 64) rfl (by omega) (by omega) (by omega)
      rw [hc] at hcut
      have HN : Hid (stN (padB t) (k + 1) = H.block (stN (padB t) k) keyF (bAt c)) := by rw [← hc]; rfl
      clear hc
      generalize stN (padB t) k = S at *
      have HA : Hid (Arr wr g 191 8 S ∧ Arr wr gk 193 64 keyF) := ⟨ha, hkk⟩
      have hgs := ha.lt
      have hgk := hkk.lt
      clear ha hkk
      obtain ⟨n, hn⟩ : ∃ n : Nat, 64 * k = n := ⟨_, rfl⟩
      rw [hn] at hcut
      rw [hn]
      have hnl : n + 64 ≤ nbl t * 64 := by omega
      have wr1 : IntKind.i64.wrap ((n : Int) + 64) = (n : Int) + 64 := IntWalk.i64_in _ (by omega)
      have HNN : Hid (64 * k = n) := hn
      clear hn
      go_wp2
      refine wp_region_still_tail 7 (by kernel_rfl) (by kernel_rfl) ?_
      simp only [List.take_succ_cons, List.take_zero, List.drop_succ_cons, List.drop_zero]
      refine still_loadArr rfl 191 _ rfl g 191 8 S 167 rfl (HA.out.1.drewN 1) Tryz.underlying191 size51 ?_
      intro R1 hR1
      iterate 5 still_step
      refine still_loadArr rfl 193 _ rfl gk 193 64 keyF 167 rfl (HA.out.2.drewN 1) Tryz.underlying193 size61 ?_
      intro R2 hR2
      refine wpStill_nil ?_
      go_wp2_with fail
      refine (l03Block_any R1 R2 S keyF c hcz wr.drew hR1 hR2).mono ?_
      rintro e w6 ⟨R6, rfl, hR6, hb6⟩
      have ha6 : Arr w6 g 191 8 S := Arr.below (w := wr.drew) (HA.out.1.drewN 1) hb6 hgs
      have hk6 : Arr w6 gk 193 64 keyF := Arr.below (w := wr.drew) (HA.out.2.drewN 1) hb6 hgk
      have hz0 : w.heap.size ≤ wr.heap.size := hbel.size
      have hb7 : Below w.heap.size w (w6.setRow g R6) := below_setRow (hbel.drew.trans (Below.mono (B := wr.drew.heap.size) hb6 hz0)) hg1
      have hk7 : Arr (w6.setRow g R6) gk 193 64 keyF := hk6.otherRow (by omega)
      go_wp2_with (refine wp_storeArr rfl 191 _ _ rfl g 191 8 S _ R6 ha6 hR6 rfl rfl size51 ?_; intro hfin)
      clear ha6 hk6 hb6
      generalize w6.setRow g R6 = w7 at *
      go_wp2
      go_roundw
      case rel => exact ⟨k + 1, hlt, by have := HNN.out; show Value.int .i64 _ = Value.int .i64 _; congr 1; omega, by rw [HN.out]; exact hfin, hk7, hb7⟩
      case measure => simp [intOf]; omega
    · have hke : k = nbl t := by omega
      subst hke
      obtain ⟨n, hn⟩ : ∃ n : Nat, 64 * nbl t = n := ⟨_, rfl⟩
      rw [hn]
      have hn2 : (n : Int) = (nbl t : Int) * 64 := by omega
      generalize stN (padB t) (nbl t) = S at *
      have hgs := ha.lt
      obtain ⟨w6, hmk, hby, hb6, hs6⟩ := Byt.made 32 (by omega) wr
      have hmk' : (Instr.makeSlice 159 (.int .i64 32) (.int .i64 32)).run Tryz.prog wr = _ := hmk
      have HST2 : Hid (SR2 w S g wr.heap.size (.int .i64 0) w6) := ⟨0, by omega, rfl, ha.below hb6 hgs, hby, hbel.trans (hb6.mono hbel.size)⟩
      have hgo : g < wr.heap.size := hgs
      have hw0 := hbel.size
      clear hmk hby hb6 hs6 ha hkk hbel hn
      generalize wr.heap.size = go at *
      go_wp2
      go_loopw [8] (fun i wr => SR2 w S g go i wr) (fun i _ => 8 - (intOf i).toNat)
      case atStart => exact HST2.out
      case round =>
        obtain ⟨m, hm, rfl, ha, hby, hbel⟩ := hrel
        clear HST2 hmk'
        have hrl := digRow_len S m hm
        by_cases hlt8 : m < 8
        · have hc := ha.cell m hlt8
          obtain ⟨x0, d0⟩ := hby.has (4 * m) (by omega)
          obtain ⟨x1, d1⟩ := hby.has (4 * m + 1) (by omega)
          obtain ⟨x2, d2⟩ := hby.has (4 * m + 2) (by omega)
          obtain ⟨x3, d3⟩ := hby.has (4 * m + 3) (by omega)
          have f0 := hby.frozen (4 * m)
          have f1 := hby.frozen (4 * m + 1)
          have f2 := hby.frozen (4 * m + 2)
          have f3 := hby.frozen (4 * m + 3)
          have hst := digRow_step S m hlt8 (S m) rfl
          have hX := H.u32_lt (S m)
          have HA : Hid (Arr wr g 191 8 S ∧ Byt wr go (digRow S m) ∧ Below w.heap.size w wr) := ⟨ha, hby, hbel⟩
          clear ha hby hbel
          generalize S m = X at *
          have HST3 : Hid (((((digRow S m).set (4 * m) (UInt8.ofNat (X.toNat / 16777216))).set (4 * m + 1) (UInt8.ofNat (X.toNat / 65536))).set (4 * m + 2) (UInt8.ofNat (X.toNat / 256))).set (4 * m + 3) (UInt8.ofNat X.toNat) = digRow S (m + 1)) := hst
          clear hst
          have n1 : ¬ g = go := by omega
          have n2 : ¬ go = g := by omega
          have t0 : (4 * (m : Int)).toNat = 4 * m := by omega
          have t1 : (4 * (m : Int) + 1).toNat = 4 * m + 1 := by omega
          have t2 : (4 * (m : Int) + 2).toNat = 4 * m + 2 := by omega
          have t3 : (4 * (m : Int) + 3).toNat = 4 * m + 3 := by omega
          have i0 : (0 : Int) ≤ 4 * (m : Int) := by omega
          have i1 : 4 * (m : Int) < 32 := by omega
          have i2 : 4 * (m : Int) + 1 < 32 := by omega
          have i3 : 4 * (m : Int) + 2 < 32 := by omega
          have i4 : 4 * (m : Int) + 3 < 32 := by omega
          have i8 : (m : Int) < 8 := by omega
          have i9 : (0 : Int) ≤ (m : Int) := by omega
          go_wp2
          refine ⟨⟨m + 1, by omega, by go_num, ?_, ?_, ?_⟩, ?_⟩
          · exact (((HA.out.1.other _ _ _ n1).other _ _ _ n1).other _ _ _ n1).other _ _ _ n1
          · have y0 := HA.out.2.1.setx (4 * m) ((X.toNat : Int) / 16777216) (UInt8.ofNat (X.toNat / 16777216)) _ (by simp; omega) rfl
            have y1 := y0.setx (4 * m + 1) ((X.toNat : Int) / 65536 % 256) (UInt8.ofNat (X.toNat / 65536)) _ (by simp) rfl
            have y2 := y1.setx (4 * m + 2) ((X.toNat : Int) / 256 % 256) (UInt8.ofNat (X.toNat / 256)) _ (by simp) rfl
            exact y2.setx (4 * m + 3) ((X.toNat : Int) % 256) (UInt8.ofNat X.toNat) _ (by simp) HST3.out
          · have hwg : w.heap.size ≤ go := by omega
            exact (((HA.out.2.2.setCell (p := ⟨go, 4 * m, none⟩) hwg _).setCell (p := ⟨go, 4 * m + 1, none⟩) hwg _).setCell (p := ⟨go, 4 * m + 2, none⟩) hwg _).setCell (p := ⟨go, 4 * m + 3, none⟩) hwg _
          · simp [intOf]; omega
        · have hme : m = 8 := by omega
          subst hme
          have hcv := hby.str 32 32 hrl
          have HDR : Hid (digRow S 8 = digL S 8) := by show _ = _; simp [digRow]
          rw [HDR.out] at hcv
          clear hby ha
          go_wp2
          go_ret
          exact ⟨by rw [HD.out]; rfl, hbel⟩
end Go.Proofs.YthlgohplljcgfaaGreatDoor
/-
  The walks of Hex, the program's and the specification's.
-/
namespace Go.Proofs.YthlgohplljcgfaaGreatDoor
open Go.RowKit
set_option linter.unusedVariables false

def hexK (s : ByteArray) (k : Nat) : List UInt8 := hexL (s.data.toList.take k)
theorem hexK_len (s : ByteArray) (k : Nat) (h : k ≤ s.size) : (hexK s k).length = 2 * k := by
  have h1 : s.data.toList.length = s.size := Array.length_toList
  have h2 : ∀ l : List UInt8, (hexL l).length = 2 * l.length := by
    intro l
    induction l with
    | nil => rfl
    | cons b l ih => rw [show hexL (b :: l) = [fig (b.toNat / 16), fig (b.toNat % 16)] ++ hexL l from rfl, List.length_append, ih]; simp; omega
  unfold hexK
  rw [h2, List.length_take]
  omega
theorem hexK_succ (s : ByteArray) (k : Nat) (h : k < s.size) : hexK s k ++ [fig (s[k].toNat / 16), fig (s[k].toNat % 16)] = hexK s (k + 1) := by
  have hg : s.data.toList[k]? = some s[k] := by simp [ByteArray.getElem_eq_getElem_data]
  unfold hexK
  rw [List.take_add_one, hg]
  simp [hexL]

theorem run_figw (y : Int) (x : Nat) (h : y = (x : Int)) (h1 : x < 16) (w : World) : (Instr.index 9 (.string ⟨#[48, 49, 50, 51, 52, 53, 54, 55, 56, 57, 97, 98, 99, 100, 101, 102]⟩) (.int .u8 (IntKind.u8.wrap y))).run Tryz.prog w = .ok (.int .u8 ((fig x).toNat : Int)) w := by
  subst h
  rw [IntWalk.u8_in _ (by omega), run_fig _ (by omega) (by omega)]
  simp

theorem run_fign (y : Int) (x : Nat) (h : y = (x : Int)) (h1 : x < 16) (w : World) : (Instr.index 9 (.string ⟨#[48, 49, 50, 51, 52, 53, 54, 55, 56, 57, 97, 98, 99, 100, 101, 102]⟩) (.int .u8 y)).run Tryz.prog w = .ok (.int .u8 ((fig x).toNat : Int)) w := by
  subst h
  rw [run_fig _ (by omega) (by omega)]
  simp

def HexRel (s : ByteArray) (w : World) (v i : Value) (wr : World) : Prop :=
  ∃ k : Nat, k ≤ s.size ∧ i = .int .i64 k ∧ OB w.heap.size w wr v (hexK s k)

end Go.Proofs.YthlgohplljcgfaaGreatDoor
/-
  The walk of the specification's Hex.
-/
namespace Go.Proofs.YthlgohplljcgfaaGreatDoor
open Go.RowKit
set_option linter.unusedVariables false

theorem q1 (b : Nat) (h : b < 256) : IntKind.i64.wrap ((IntKind.i64.wrap (b : Int)).tdiv 16) = ((b / 16 : Nat) : Int) := by
  rw [IntWalk.i64_in (b : Int) (by omega)]
  have e : (b : Int).tdiv 16 = ((b / 16 : Nat) : Int) := (Int.ofNat_tdiv b 16).symm
  rw [e, IntWalk.i64_in _ (by omega)]
theorem q2 (b : Nat) (h : b < 256) : (IntKind.i64.wrap (b : Int)).tmod 16 = ((b % 16 : Nat) : Int) := by
  rw [IntWalk.i64_in (b : Int) (by omega)]
  exact (Int.ofNat_tmod b 16).symm

theorem q1b (b : Nat) (h : b < 256) : 0 ≤ IntKind.i64.wrap ((IntKind.i64.wrap (b : Int)).tdiv 16) ∧ IntKind.i64.wrap ((IntKind.i64.wrap (b : Int)).tdiv 16) < 16 := by
  rw [q1 b h]
  omega
theorem q2b (b : Nat) (h : b < 256) : 0 ≤ (IntKind.i64.wrap (b : Int)).tmod 16 ∧ (IntKind.i64.wrap (b : Int)).tmod 16 < 16 := by
  rw [q2 b h]
  omega
end Go.Proofs.YthlgohplljcgfaaGreatDoor
