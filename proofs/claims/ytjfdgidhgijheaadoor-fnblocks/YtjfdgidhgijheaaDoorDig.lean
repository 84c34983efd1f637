/-
  What Digest answers, in plain words.
-/
import Derived.Test.YtjfdgidhgijheaaDoorInb
import Derived.Test.YtjfdgidhgijheaaDoorBlock
import Derived.StillTailTactics
namespace Go.Proofs.YtjfdgidhgijheaaDoor
open Go.RowKit Go.BigFrame
set_option linter.unusedVariables false

/-- the state behind the first so many blocks -/
def stN (p : ByteArray) : Nat → Nat → UInt32
  | 0 => firstF
  | k + 1 => H.block (stN p k) keyF (bAt (p.extract (64 * k) (64 * k + 64)))
def padB (t : ByteArray) : ByteArray := ⟨(padL t.data.toList).toArray⟩
def nbl (t : ByteArray) : Nat := (t.size + 72) / 64
def digB (t : ByteArray) : ByteArray := ⟨(digL (stN (padB t) (nbl t)) 8).toArray⟩
theorem padB_size (t : ByteArray) : (padB t).size = nbl t * 64 := by
  have h1 : (padB t).data.toList.length = (padB t).size := Array.length_toList
  have h2 : t.data.toList.length = t.size := Array.length_toList
  have h3 := padL_blocks t.data.toList
  rw [h2] at h3
  rw [← h1]
  simpa [padB, nbl] using h3
theorem digB_size (t : ByteArray) : (digB t).size = 32 := by
  have h1 : (digB t).data.toList.length = (digB t).size := Array.length_toList
  rw [← h1]
  simp [digB, digL_len]

section
variable {w : World} {ops : Array Oper} {rest : List Oper} {o : Oper} {a : Act} {Q : Act → Prop}
theorem still_loadArr (hgd : o.guard = none) (ty : TypeId) (p : Operand) (ho : o.op = .load ty p) (g t n : Nat) (f : Nat → UInt32) (e : TypeId) (hp : a.eval p = .pointer (some ⟨g, 0, none⟩)) (hA : Arr w g t n f)
    (hu : Tryd.prog.underlying ty = some (.array n e)) (hi : (Tryd.prog.info? ty).map (·.size) = some n)
    (h : ∀ R, AggIs R n f → wpStill Tryd.prog ops w Q rest (a.put o.dst (.agg R))) : wpStill Tryd.prog ops w Q (o :: rest) a := by
  refine wpStill_step fun K hK => ?_
  obtain ⟨R, hr, hR⟩ := run_loadArr ty e hu hi hA
  have hw : Region.wanted o (yielded ops a.tmps) = true := by simp [Region.wanted, hgd]
  rw [if_pos hw]
  unfold Oper.still
  simp [execOp, ho, hp, hr, Result.andThen, Oper.stillUpon]
  exact hK _ (h R hR)
end

def DR (w : World) (t : ByteArray) (g : Nat) (i : Value) (wr : World) : Prop := ∃ k : Nat, k ≤ nbl t ∧ i = .int .i64 k ∧ Arr wr g 40 8 (stN (padB t) k) ∧ TabK wr ∧ Below w.heap.size w wr

set_option maxRecDepth 100000 in
set_option maxHeartbeats 400000 in
theorem Digest_any (t : ByteArray) (w : World) (ht : t.size ≤ 1048576) (hK : TabK w) (hF : TabF w) :
    Calls Tryd.prog 10 #[.string t] w fun e w' => e = .returned (.string (digB t)) ∧ Below w.heap.size w w' := by
  have hpz := padB_size t
  have hkp := hK.pos
  have hfp := hF.pos
  have hnb : nbl t ≤ 20000 := by unfold nbl; omega
  have HK : Hid (TabK w) := hK
  have HF : Hid (TabF w) := hF
  have HD : Hid (digB t = ⟨(digL (stN (padB t) (nbl t)) 8).toArray⟩) := rfl
  have hPT : Calls Tryd.prog 6 #[.string t] w fun e w' => e = .returned (.string (padB t)) ∧ Below w.heap.size w w' := PadText_any t w ht
  clear hK hF
  generalize digB t = D at *
  go_enter Tryd.func10, Tryd.ntmps10
  go_wp2_with fail
  refine hPT.mono ?_
  rintro e w1 ⟨rfl, hb1⟩
  clear hPT
  go_wp2_with fail
  refine (shaBegin_any w1 (HF.out.later hb1 hfp)).mono ?_
  rintro e w2 ⟨R, rfl, hR, hb2⟩
  go_wp2_with (first | (refine wp_allocArr rfl 40 8 rfl zero52 ?_) | (refine wp_storeNew rfl 40 8 _ _ rfl w2 _ R firstF rfl (zeros_size 8) hR rfl rfl size52 ?_))
  have hs1 := hb1.size
  have hs2 := hb2.size
  have hb3 : Below w.heap.size w (w2.alloc (.cells R 40)) := (hb1.trans (hb2.mono hs1)).alloc (by omega) _
  have HST : Hid (DR w t w2.heap.size (.int .i64 0) (w2.alloc (.cells R 40))) := ⟨0, by omega, rfl, Arr.agg hR, HK.out.later hb3 hkp, hb3⟩
  have hg : w.heap.size ≤ w2.heap.size := by omega
  generalize w2.alloc (.cells R 40) = w3 at *
  generalize w2.heap.size = g at *
  clear hb1 hb2 hb3 hR hs1 hs2 HK HF
  go_loopw [12] (fun i wr => DR w t g i wr) (fun i _ => nbl t - (intOf i).toNat)
  case atStart => exact HST.out
  case round =>
    obtain ⟨k, hk, rfl, ha, hT, hbel⟩ := hrel
    clear HST
    by_cases hlt : k < nbl t
    · obtain ⟨c, hc⟩ : ∃ c, (padB t).extract (64 * k) (64 * k + 64) = c := ⟨_, rfl⟩
      have hcz : c.size = 64 := by rw [← hc, ByteArray.size_extract]; omega
      have hcut := run_cut (padB t) ((k : Int) * 64) (((k : Int) + 1) * 64) (64 * k) (64 * k + 64) (by omega) (by omega) (by omega) (by omega)
      rw [hc] at hcut
      have HN : Hid (stN (padB t) (k + 1) = H.block (stN (padB t) k) keyF (bAt c)) := by rw [← hc]; rfl
      clear hc
      have wr1 : IntKind.i64.wrap ((k : Int) * 64) = (k : Int) * 64 := IntWalk.i64_in _ (by omega)
      have wr2 : IntKind.i64.wrap ((k : Int) + 1) = (k : Int) + 1 := IntWalk.i64_in _ (by omega)
      have wr3 : IntKind.i64.wrap (((k : Int) + 1) * 64) = ((k : Int) + 1) * 64 := IntWalk.i64_in _ (by omega)
      generalize stN (padB t) k = S at *
      have HA : Hid (Arr wr g 40 8 S ∧ TabK wr) := ⟨ha, hT⟩
      have hgs := ha.lt
      clear ha hT
      go_wp2
      refine wp_region_still_tail 8 (by kernel_rfl) (by kernel_rfl) ?_
      simp only [List.take_succ_cons, List.take_zero, List.drop_succ_cons, List.drop_zero]
      refine still_loadArr rfl 40 _ rfl g 40 8 S 38 rfl (HA.out.1.drewN 1) Tryd.underlying40 size52 ?_
      intro R1 hR1
      iterate 7 still_step
      refine wpStill_nil ?_
      go_wp2_with fail
      refine (after_any R1 S c hcz wr.drew hR1 (fun i hi => HA.out.2 i hi)).mono ?_
      rintro e w5 ⟨R2, rfl, hR2, hb5⟩
      have ha5 : Arr w5 g 40 8 S := Arr.below (w := wr.drew) (HA.out.1.drewN 1) hb5 hgs
      go_wp2_with (refine wp_storeArr rfl 40 _ _ rfl g 40 8 S _ R2 ha5 hR2 rfl rfl size52 ?_; intro hfin)
      have hz0 : w.heap.size ≤ wr.heap.size := hbel.size
      have hb6 : Below w.heap.size wr.drew (w5.setRow g R2) := below_setRow (Below.mono (B := wr.drew.heap.size) hb5 hz0) hg
      have HT6 : Hid (TabK (w5.setRow g R2)) := TabK.later (w := wr.drew) (fun i hi => HA.out.2 i hi) hb6 hkp
      have HB6 : Hid (Below w.heap.size w (w5.setRow g R2)) := hbel.drew.trans hb6
      clear hb5 hb6 ha5
      generalize w5.setRow g R2 = w6 at *
      go_wp2
      go_roundw
      case rel => exact ⟨k + 1, hlt, by go_num, by rw [HN.out]; exact hfin, HT6.out, HB6.out⟩
      case measure => simp [intOf]; omega
    · have hke : k = nbl t := by omega
      subst hke
      have HA : Hid (Arr wr g 40 8 (stN (padB t) (nbl t))) := ha
      clear ha hT
      go_wp2_with (refine wp_loadArr rfl 40 _ rfl g 40 8 _ 38 rfl HA.out Tryd.underlying40 size52 ?_; intro R1 hR1)
      refine (inBytesH_any R1 _ _ hR1).mono ?_
      rintro e w5 ⟨rfl, hb5⟩
      go_wp2
      go_ret
      exact ⟨by rw [HD.out]; rfl, hbel.trans (hb5.mono hbel.size)⟩

/-- the row of the digest when the first so many numbers stand -/
def digRow (s : Nat → UInt32) (k : Nat) : List UInt8 := digL s k ++ List.replicate (32 - 4 * k) 0
theorem digRow_len (s : Nat → UInt32) (k : Nat) (h : k ≤ 8) : (digRow s k).length = 32 := by
  unfold digRow
  rw [List.length_append, digL_len, List.length_replicate]
  omega
theorem digRow_step (s : Nat → UInt32) (k : Nat) (h : k < 8) (X : UInt32) (hX : s k = X) :
    ((((digRow s k).set (4 * k) (UInt8.ofNat (X.toNat / 16777216))).set (4 * k + 1) (UInt8.ofNat (X.toNat / 65536))).set (4 * k + 2) (UInt8.ofNat (X.toNat / 256))).set (4 * k + 3) (UInt8.ofNat X.toNat) = digRow s (k + 1) := by
  subst hX
  have e : 32 - 4 * k = (32 - 4 * (k + 1)) + 1 + 1 + 1 + 1 := by omega
  have hl := digL_len s k
  unfold digRow
  rw [e, digL_succ]
  simp only [List.replicate_succ]
  rw [List.set_append_right _ _ (by omega), List.set_append_right _ _ (by omega), List.set_append_right _ _ (by omega), List.set_append_right _ _ (by omega)]
  have e0 : 4 * k - (digL s k).length = 0 := by omega
  have e1 : 4 * k + 1 - (digL s k).length = 1 := by omega
  have e2 : 4 * k + 2 - (digL s k).length = 2 := by omega
  have e3 : 4 * k + 3 - (digL s k).length = 3 := by omega
  rw [e0, e1, e2, e3]
  simp [be4]
end Go.Proofs.YtjfdgidhgijheaaDoor
