/-
  Texts laid together: Digs, Hexw, Hexs, Cut, Hash.
-/
import Derived.Test.YtfiapodjiifmaaaGreatDoorPkP13
import Derived.Test.YtfiapodjiifmaaaGreatDoorPkP3
import Derived.Test.YtfiapodjiifmaaaGreatDoorPkP6
import Derived.Test.YtfiapodjiifmaaaGreatDoorPkP11
/-
  The walk of the specification's Digest.
-/
namespace Go.Proofs.YtfiapodjiifmaaaGreatDoor
open Go.RowKit Go.BigFrame
set_option linter.unusedVariables false

def SR (w : World) (t : ByteArray) (g gk : Nat) (i : Value) (wr : World) : Prop := ∃ k : Nat, k ≤ nbl t ∧ i = .int .i64 ((64 * k : Nat) : Int) ∧ Arr wr g 105 8 (stN (padB t) k) ∧ Arr wr gk 139 64 keyF ∧ Below w.heap.size w wr
def SR2 (w : World) (s : Nat → UInt32) (g go : Nat) (i : Value) (wr : World) : Prop := ∃ k : Nat, k ≤ 8 ∧ i = .int .i64 (k : Int) ∧ Arr wr g 105 8 s ∧ Byt wr go (digRow s k) ∧ Below w.heap.size w wr

set_option maxRecDepth 100000 in
set_option maxHeartbeats 400000 in
theorem sDigest_any (t : ByteArray) (w : World) (ht : t.size ≤ 1048576) :
    Calls Tryz.prog 105 #[.string t] w fun e w' => e = .returned (.string (digB t)) ∧ Below w.heap.size w w' := by
  have hpz := padB_size t
  have hnb : nbl t ≤ 20000 := by unfold nbl; omega
  have HD : Hid (digB t = ⟨(digL (stN (padB t) (nbl t)) 8).toArray⟩) := rfl
  generalize digB t = D at *
  have hPT : ∀ w, Calls Tryz.prog 113 #[.string t] w fun e w' => e = .returned (.string (padB t)) ∧ Below w.heap.size w w' := fun w => sPadText_any t w ht
  go_enter Tryz.func105, Tryz.ntmps105
  go_wp2_with fail
  refine (l03First_any _).mono ?_
  rintro e w1 ⟨R, rfl, hR, hb1⟩
  go_wp2_with (first | (with_reducible refine wp_alloc50 rfl rfl ?_) | (refine wp_storeNew rfl 105 8 _ _ rfl w1 _ R firstF rfl (zeros_size 8) hR rfl rfl size51 ?_))
  have ha1 : Arr (w1.alloc (.cells R 105)) w1.heap.size 105 8 firstF := Arr.agg hR
  have hs1 := hb1.size
  have hb2 : Below w.heap.size w (w1.alloc (.cells R 105)) := hb1.alloc hs1 _
  have hz2 : (w1.alloc (.cells R 105)).heap.size = w1.heap.size + 1 := by simp
  refine (l03Keys_any _).mono ?_
  rintro e w3 ⟨R3, rfl, hR3, hb3⟩
  have hs3 := hb3.size
  have ha3 := (ha1.below hb3 (by omega)).alloc (.cells R3 139)
  have hk3 : Arr (w3.alloc (.cells R3 139)) w3.heap.size 139 64 keyF := Arr.agg hR3
  have hb4 : Below w.heap.size w (w3.alloc (.cells R3 139)) := (hb2.trans (hb3.mono (by omega))).alloc (by omega) _
  go_wp2_with (first | (with_reducible refine wp_alloc55 rfl rfl ?_) | (refine wp_storeNew rfl 139 64 _ _ rfl w3 _ R3 keyF rfl (zeros_size 64) hR3 rfl rfl size61 ?_))
  have hz4 : (w3.alloc (.cells R3 139)).heap.size = w3.heap.size + 1 := by simp
  refine (hPT _).mono ?_
  rintro e w5 ⟨rfl, hb5⟩
  have hs5 := hb5.size
  have HST : Hid (SR w t w1.heap.size w3.heap.size (.int .i64 0) w5) := ⟨0, by omega, rfl, ha3.below hb5 (by omega), hk3.below hb5 (by omega), hb4.trans (hb5.mono (by omega))⟩
  have hg1 : w.heap.size ≤ w1.heap.size := hs1
  have hg2 : w1.heap.size < w3.heap.size := by omega
  clear ha1 hb2 hb3 hb4 hb5 hs5 hz4 hk3 ha3 hs3 hR3 hz2 hs1 hR hb1 hPT
  generalize w1.heap.size = g at *
  generalize w3.heap.size = gk at *
  go_wp2
  go_loopw [6] (fun i wr => SR w t g gk i wr) (fun i _ => nbl t * 64 - (intOf i).toNat)
  case atStart => exact HST.out
  case round =>
    obtain ⟨k, hk, rfl, ha, hkk, hbel⟩ := hrel
    clear HST
    by_cases hlt : k < nbl t
    · obtain ⟨c, hc⟩ : ∃ c, (padB t).extract (64 * k) (64 * k + 64) = c := ⟨_, rfl⟩
      have hcz : c.size = 64 := by rw [← hc, ByteArray.size_extract]; omega
      have hcut := run_cut (padB t) ((64 * k : Nat) : Int) (((64 * k : Nat) : Int) + 64) (64 * k) (64 * k + 64) rfl (by omega) (by omega) (by omega)
      rw [hc] at hcut
      have HN : Hid (stN (padB t) (k + 1) = H.block (stN (padB t) k) keyF (bAt c)) := by rw [← hc]; rfl
      clear hc
      generalize stN (padB t) k = S at *
      have HA : Hid (Arr wr g 105 8 S ∧ Arr wr gk 139 64 keyF) := ⟨ha, hkk⟩
      have hgs := ha.lt
      have hgk := hkk.lt
      clear ha hkk
      obtain ⟨n, hn⟩ : ∃ n : Nat, 64 * k = n := ⟨_, rfl⟩
      rw [hn] at hcut
      rw [hn]
      have hnl : n + 64 ≤ nbl t * 64 := by omega
      have wr1 : IntKind.i64.wrap ((n : Int) + 64) = (n : Int) + 64 := IntWalk.i64_in _ (by omega)
      have HNN : Hid (64 * k = n) := hn
      clear hn
      go_wp2
      refine wp_region_still_tail 7 (by kernel_rfl) (by kernel_rfl) ?_
      simp only [List.take_succ_cons, List.take_zero, List.drop_succ_cons, List.drop_zero]
      refine still_loadArr rfl 105 _ rfl g 105 8 S 104 rfl (HA.out.1.drewN 1) Tryz.underlying105 size51 ?_
      intro R1 hR1
      iterate 5 still_step
      refine still_loadArr rfl 139 _ rfl gk 139 64 keyF 104 rfl (HA.out.2.drewN 1) Tryz.underlying139 size61 ?_
      intro R2 hR2
      refine wpStill_nil ?_
      go_wp2_with fail
      refine (l03Block_any R1 R2 S keyF c hcz wr.drew hR1 hR2).mono ?_
      rintro e w6 ⟨R6, rfl, hR6, hb6⟩
      have ha6 : Arr w6 g 105 8 S := Arr.below (w := wr.drew) (HA.out.1.drewN 1) hb6 hgs
      have hk6 : Arr w6 gk 139 64 keyF := Arr.below (w := wr.drew) (HA.out.2.drewN 1) hb6 hgk
      have hz0 : w.heap.size ≤ wr.heap.size := hbel.size
      have hb7 : Below w.heap.size w (w6.setRow g R6) := below_setRow (hbel.drew.trans (Below.mono (B := wr.drew.heap.size) hb6 hz0)) hg1
      have hk7 : Arr (w6.setRow g R6) gk 139 64 keyF := hk6.otherRow (by omega)
      go_wp2_with (refine wp_storeArr rfl 105 _ _ rfl g 105 8 S _ R6 ha6 hR6 rfl rfl size51 ?_; intro hfin)
      clear ha6 hk6 hb6
      generalize w6.setRow g R6 = w7 at *
      go_wp2
      go_roundw
      case rel => exact ⟨k + 1, hlt, by have := HNN.out; show Value.int .i64 _ = Value.int .i64 _; congr 1; omega, by rw [HN.out]; exact hfin, hk7, hb7⟩
      case measure => simp [intOf]; omega
    · have hke : k = nbl t := by omega
      subst hke
      obtain ⟨n, hn⟩ : ∃ n : Nat, 64 * nbl t = n := ⟨_, rfl⟩
      rw [hn]
      have hn2 : (n : Int) = (nbl t : Int) * 64 := by omega
      generalize stN (padB t) (nbl t) = S at *
      have hgs := ha.lt
      obtain ⟨w6, hmk, hby, hb6, hs6⟩ := Byt.made 32 (by omega) wr
      have hmk' : (Instr.makeSlice 22 (.int .i64 32) (.int .i64 32)).run Tryz.prog wr = _ := hmk
      have HST2 : Hid (SR2 w S g wr.heap.size (.int .i64 0) w6) := ⟨0, by omega, rfl, ha.below hb6 hgs, hby, hbel.trans (hb6.mono hbel.size)⟩
      have hgo : g < wr.heap.size := hgs
      have hw0 := hbel.size
      clear hmk hby hb6 hs6 ha hkk hbel hn
      generalize wr.heap.size = go at *
      go_wp2
      go_loopw [8] (fun i wr => SR2 w S g go i wr) (fun i _ => 8 - (intOf i).toNat)
      case atStart => exact HST2.out
      case round =>
        obtain ⟨m, hm, rfl, ha, hby, hbel⟩ := hrel
        clear HST2 hmk'
        have hrl := digRow_len S m hm
        by_cases hlt8 : m < 8
        · have hc := ha.cell m hlt8
          obtain ⟨x0, d0⟩ := hby.has (4 * m) (by omega)
          obtain ⟨x1, d1⟩ := hby.has (4 * m + 1) (by omega)
          obtain ⟨x2, d2⟩ := hby.has (4 * m + 2) (by omega)
          obtain ⟨x3, d3⟩ := hby.has (4 * m + 3) (by omega)
          have f0 := hby.frozen (4 * m)
          have f1 := hby.frozen (4 * m + 1)
          have f2 := hby.frozen (4 * m + 2)
          have f3 := hby.frozen (4 * m + 3)
          have hst := digRow_step S m hlt8 (S m) rfl
          have hX := H.u32_lt (S m)
          have HA : Hid (Arr wr g 105 8 S ∧ Byt wr go (digRow S m) ∧ Below w.heap.size w wr) := ⟨ha, hby, hbel⟩
          clear ha hby hbel
          generalize S m = X at *
          have HST3 : Hid (((((digRow S m).set (4 * m) (UInt8.ofNat (X.toNat / 16777216))).set (4 * m + 1) (UInt8.ofNat (X.toNat / 65536))).set (4 * m + 2) (UInt8.ofNat (X.toNat / 256))).set (4 * m + 3) (UInt8.ofNat X.toNat) = digRow S (m + 1)) := hst
          clear hst
          have n1 : ¬ g = go := by omega
          have n2 : ¬ go = g := by omega
          have t0 : (4 * (m : Int)).toNat = 4 * m := by omega
          have t1 : (4 * (m : Int) + 1).toNat = 4 * m + 1 := by omega
          have t2 : (4 * (m : Int) + 2).toNat = 4 * m + 2 := by omega
          have t3 : (4 * (m : Int) + 3).toNat = 4 * m + 3 := by omega
          have i0 : (0 : Int) ≤ 4 * (m : Int) := by omega
          have i1 : 4 * (m : Int) < 32 := by omega
          have i2 : 4 * (m : Int) + 1 < 32 := by omega
          have i3 : 4 * (m : Int) + 2 < 32 := by omega
          have i4 : 4 * (m : Int) + 3 < 32 := by omega
          have i8 : (m : Int) < 8 := by omega
          have i9 : (0 : Int) ≤ (m : Int) := by omega
          go_wp2
          refine ⟨⟨m + 1, by omega, by go_num, ?_, ?_, ?_⟩, ?_⟩
          · exact (((HA.out.1.other _ _ _ n1).other _ _ _ n1).other _ _ _ n1).other _ _ _ n1
          · have y0 := HA.out.2.1.setx (4 * m) ((X.toNat : Int) / 16777216) (UInt8.ofNat (X.toNat / 16777216)) _ (by simp; omega) rfl
            have y1 := y0.setx (4 * m + 1) ((X.toNat : Int) / 65536 % 256) (UInt8.ofNat (X.toNat / 65536)) _ (by simp) rfl
            have y2 := y1.setx (4 * m + 2) ((X.toNat : Int) / 256 % 256) (UInt8.ofNat (X.toNat / 256)) _ (by simp) rfl
            exact y2.setx (4 * m + 3) ((X.toNat : Int) % 256) (UInt8.ofNat X.toNat) _ (by simp) HST3.out
          · have hwg : w.heap.size ≤ go := by omega
            exact (((HA.out.2.2.setCell (p := ⟨go, 4 * m, none⟩) hwg _).setCell (p := ⟨go, 4 * m + 1, none⟩) hwg _).setCell (p := ⟨go, 4 * m + 2, none⟩) hwg _).setCell (p := ⟨go, 4 * m + 3, none⟩) hwg _
          · simp [intOf]; omega
        · have hme : m = 8 := by omega
          subst hme
          have hcv := hby.str 32 32 hrl
          have HDR : Hid (digRow S 8 = digL S 8) := by show _ = _; simp [digRow]
          rw [HDR.out] at hcv
          clear hby ha
          go_wp2
          go_ret
          exact ⟨by rw [HD.out]; rfl, hbel⟩
end Go.Proofs.YtfiapodjiifmaaaGreatDoor
/-
  The walks of Hex, the program's and the specification's.
-/
namespace Go.Proofs.YtfiapodjiifmaaaGreatDoor
open Go.RowKit
set_option linter.unusedVariables false

def hexK (s : ByteArray) (k : Nat) : List UInt8 := hexL (s.data.toList.take k)
theorem hexK_len (s : ByteArray) (k : Nat) (h : k ≤ s.size) : (hexK s k).length = 2 * k := by
  have h1 : s.data.toList.length = s.size := Array.length_toList
  have h2 : ∀ l : List UInt8, (hexL l).length = 2 * l.length := by
    intro l
    induction l with
    | nil => rfl
    | cons b l ih => rw [show hexL (b :: l) = [fig (b.toNat / 16), fig (b.toNat % 16)] ++ hexL l from rfl, List.length_append, ih]; simp; omega
  unfold hexK
  rw [h2, List.length_take]
  omega
theorem hexK_succ (s : ByteArray) (k : Nat) (h : k < s.size) : hexK s k ++ [fig (s[k].toNat / 16), fig (s[k].toNat % 16)] = hexK s (k + 1) := by
  have hg : s.data.toList[k]? = some s[k] := by simp [ByteArray.getElem_eq_getElem_data]
  unfold hexK
  rw [List.take_add_one, hg]
  simp [hexL]

theorem run_figw (y : Int) (x : Nat) (h : y = (x : Int)) (h1 : x < 16) (w : World) : (Instr.index 9 (.string ⟨#[48, 49, 50, 51, 52, 53, 54, 55, 56, 57, 97, 98, 99, 100, 101, 102]⟩) (.int .u8 (IntKind.u8.wrap y))).run Tryz.prog w = .ok (.int .u8 ((fig x).toNat : Int)) w := by
  subst h
  rw [IntWalk.u8_in _ (by omega), run_fig _ (by omega) (by omega)]
  simp

theorem run_fign (y : Int) (x : Nat) (h : y = (x : Int)) (h1 : x < 16) (w : World) : (Instr.index 9 (.string ⟨#[48, 49, 50, 51, 52, 53, 54, 55, 56, 57, 97, 98, 99, 100, 101, 102]⟩) (.int .u8 y)).run Tryz.prog w = .ok (.int .u8 ((fig x).toNat : Int)) w := by
  subst h
  rw [run_fig _ (by omega) (by omega)]
  simp

def HexRel (s : ByteArray) (w : World) (v i : Value) (wr : World) : Prop :=
  ∃ k : Nat, k ≤ s.size ∧ i = .int .i64 k ∧ OB w.heap.size w wr v (hexK s k)

end Go.Proofs.YtfiapodjiifmaaaGreatDoor
/-
  The walk of the specification's Hex.
-/
namespace Go.Proofs.YtfiapodjiifmaaaGreatDoor
open Go.RowKit
set_option linter.unusedVariables false

theorem q1 (b : Nat) (h : b < 256) : IntKind.i64.wrap ((IntKind.i64.wrap (b : Int)).tdiv 16) = ((b / 16 : Nat) : Int) := by
  rw [IntWalk.i64_in (b : Int) (by omega)]
  have e : (b : Int).tdiv 16 = ((b / 16 : Nat) : Int) := (Int.ofNat_tdiv b 16).symm
  rw [e, IntWalk.i64_in _ (by omega)]
theorem q2 (b : Nat) (h : b < 256) : (IntKind.i64.wrap (b : Int)).tmod 16 = ((b % 16 : Nat) : Int) := by
  rw [IntWalk.i64_in (b : Int) (by omega)]
  exact (Int.ofNat_tmod b 16).symm

theorem q1b (b : Nat) (h : b < 256) : 0 ≤ IntKind.i64.wrap ((IntKind.i64.wrap (b : Int)).tdiv 16) ∧ IntKind.i64.wrap ((IntKind.i64.wrap (b : Int)).tdiv 16) < 16 := by
  rw [q1 b h]
  omega
theorem q2b (b : Nat) (h : b < 256) : 0 ≤ (IntKind.i64.wrap (b : Int)).tmod 16 ∧ (IntKind.i64.wrap (b : Int)).tmod 16 < 16 := by
  rw [q2 b h]
  omega
end Go.Proofs.YtfiapodjiifmaaaGreatDoor
/-
  What CutDigest and DigestHex answer, the program's and the specification's.
-/
namespace Go.Proofs.YtfiapodjiifmaaaGreatDoor
open Go.RowKit Go.BigFrame
set_option linter.unusedVariables false

def cutB (d : ByteArray) (k : Nat) : ByteArray := d.extract 0 k
theorem run_head (d : ByteArray) (k : Nat) (h : k ≤ d.size) (w : World) :
    (Instr.slice 9 (.string d) none (some (.int .i64 (k : Int))) none).run Tryz.prog w = .ok (.string (cutB d k)) w := by
  rw [run_slice_string_to_if (P := Tryz.prog) (w := w) 9 d .i64 _ Tryz.underlying9, if_pos (by omega)]
  unfold cutB
  simp

theorem CutDigest_no (t : ByteArray) (x : Int) (w : World) (hx : x < 1 ∨ 32 < x) :
    Calls Tryz.prog 37 #[.string t, .int .i64 x] w fun e w' => e = .returned (.string ⟨#[]⟩) ∧ Below w.heap.size w w' := by
  have hd : decide ((1 : Int) ≤ x ∧ x ≤ 32) = false := by simp; omega
  go_enter Tryz.func37, Tryz.ntmps37
  go_wp2_with fail
  refine (widthOk_any _ _).mono ?_
  rintro e w' ⟨rfl, rfl⟩
  rw [hd]
  go_wp2
  go_ret
  exact ⟨rfl, Below.refl _ _⟩
theorem sCutDigest_no (t : ByteArray) (x : Int) (w : World) (hx : x < 1 ∨ 32 < x) :
    Calls Tryz.prog 103 #[.string t, .int .i64 x] w fun e w' => e = .returned (.string ⟨#[]⟩) ∧ Below w.heap.size w w' := by
  have hd : decide ((1 : Int) ≤ x ∧ x ≤ 32) = false := by simp; omega
  go_enter Tryz.func103, Tryz.ntmps103
  go_wp2_with fail
  refine (l01In_any _ _ _ _).mono ?_
  rintro e w' ⟨rfl, rfl⟩
  rw [hd]
  go_wp2
  go_ret
  exact ⟨rfl, Below.refl _ _⟩

theorem CutDigest_yes (t : ByteArray) (k : Nat) (w : World) (ht : t.size ≤ 1048576) (h1 : 1 ≤ k) (h2 : k ≤ 32) (hK : TabK w) (hF : TabF w) :
    Calls Tryz.prog 37 #[.string t, .int .i64 (k : Int)] w fun e w' => e = .returned (.string (cutB (digB t) k)) ∧ Below w.heap.size w w' := by
  have hz := digB_size t
  have hc := Digest_any t w ht hK hF
  clear hK hF
  generalize digB t = D at *
  have hh := run_head D k (by omega)
  have hd : decide ((1 : Int) ≤ (k : Int) ∧ (k : Int) ≤ 32) = true := by simp; omega
  go_enter Tryz.func37, Tryz.ntmps37
  go_wp2_with fail
  refine (widthOk_any _ _).mono ?_
  rintro e w0 ⟨rfl, rfl⟩
  rw [hd]
  go_wp2_with fail
  refine hc.mono ?_
  rintro e w1 ⟨rfl, hb1⟩
  clear hc
  go_wp2
  go_ret
  exact ⟨rfl, hb1⟩
theorem sCutDigest_yes (t : ByteArray) (k : Nat) (w : World) (ht : t.size ≤ 1048576) (h1 : 1 ≤ k) (h2 : k ≤ 32) :
    Calls Tryz.prog 103 #[.string t, .int .i64 (k : Int)] w fun e w' => e = .returned (.string (cutB (digB t) k)) ∧ Below w.heap.size w w' := by
  have hz := digB_size t
  have hc := sDigest_any t w ht
  generalize digB t = D at *
  have hh := run_head D k (by omega)
  have hd : decide ((1 : Int) ≤ (k : Int) ∧ (k : Int) ≤ 32) = true := by simp; omega
  go_enter Tryz.func103, Tryz.ntmps103
  go_wp2_with fail
  refine (l01In_any _ _ _ _).mono ?_
  rintro e w0 ⟨rfl, rfl⟩
  rw [hd]
  go_wp2_with fail
  refine hc.mono ?_
  rintro e w1 ⟨rfl, hb1⟩
  clear hc
  go_wp2
  go_ret
  exact ⟨rfl, hb1⟩

def hexB (d : ByteArray) : ByteArray := ⟨(hexK d d.size).toArray⟩
end Go.Proofs.YtfiapodjiifmaaaGreatDoor
/-
  What TagHash and IndexOf answer, the program's and the specification's.
-/
namespace Go.Proofs.YtfiapodjiifmaaaGreatDoor
open Go.RowKit Go.BigFrame
set_option linter.unusedVariables false

/-- CutDigest -/
def cutH (t : ByteArray) (x : Int) : ByteArray := if 1 ≤ x ∧ x ≤ 32 then cutB (digB t) x.toNat else ⟨#[]⟩
theorem CutDigest_any (t : ByteArray) (x : Int) (w : World) (ht : t.size ≤ 1048576) (hK : TabK w) (hF : TabF w) :
    Calls Tryz.prog 37 #[.string t, .int .i64 x] w fun e w' => e = .returned (.string (cutH t x)) ∧ Below w.heap.size w w' := by
  unfold cutH
  by_cases h : 1 ≤ x ∧ x ≤ 32
  · rw [if_pos h]
    obtain ⟨k, rfl⟩ := Int.eq_ofNat_of_zero_le (show 0 ≤ x by omega)
    exact CutDigest_yes t k w ht (by omega) (by omega) hK hF
  · rw [if_neg h]
    exact CutDigest_no t x w (by omega)
theorem sCutDigest_any (t : ByteArray) (x : Int) (w : World) (ht : t.size ≤ 1048576) :
    Calls Tryz.prog 103 #[.string t, .int .i64 x] w fun e w' => e = .returned (.string (cutH t x)) ∧ Below w.heap.size w w' := by
  unfold cutH
  by_cases h : 1 ≤ x ∧ x ≤ 32
  · rw [if_pos h]
    obtain ⟨k, rfl⟩ := Int.eq_ofNat_of_zero_le (show 0 ≤ x by omega)
    exact sCutDigest_yes t k w ht (by omega) (by omega)
  · rw [if_neg h]
    exact sCutDigest_no t x w (by omega)

theorem tagB_size (k : Int) (l : List ByteArray) : (tagB k l).size ≤ 12601 := by
  cases h : tagOk k l with
  | false =>
    rw [tagB_no h]
    show 0 ≤ 12601
    omega
  | true =>
    unfold tagB
    rw [h]
    unfold tagOk at h
    rw [Bool.and_eq_true, decide_eq_true_eq, List.all_eq_true] at h
    obtain ⟨⟨_, h2⟩, h3⟩ := h
    have h4 := tagL_len k.toNat l l.length (Nat.le_refl _) (fun j hj _ => by simpa using h3 l[j] (List.getElem_mem _))
    rw [List.take_length] at h4
    simp only [if_true, ByteArray.size, List.size_toArray]
    omega

/-- what TagHash is -/
def hashB (k : Int) (l : List ByteArray) (x : Int) : ByteArray := if tagOk k l then cutH (tagB k l) x else ⟨#[]⟩

theorem taggedHash_any (x k : Int) (v : Value) (g o : Nat) (l : List ByteArray) (w : World) (hv : SS w v g o l) (hK : TabK w) (hF : TabF w) :
    Calls Tryz.prog 98 #[.int .i64 x, .int .i64 k, v] w fun e w' => e = .returned (.string (hashB k l x)) ∧ Below w.heap.size w w' := by
  have hc := tagged_any k v g o l w hv
  have hz := tagB_size k l
  have hkp := hK.pos
  have hfp := hF.pos
  obtain ⟨a, cap, rfl, _⟩ := hv
  unfold hashB
  generalize tagB k l = T at *
  cases hR : tagOk k l with
  | false =>
    rw [hR] at hc
    simp only [Bool.false_eq_true, if_false]
    clear hK hF
    go_enter Tryz.func98, Tryz.ntmps98
    go_wp2_with fail
    refine hc.mono ?_
    rintro e w1 ⟨rfl, hb1⟩
    go_wp2
    go_ret
    exact ⟨rfl, hb1⟩
  | true =>
    rw [hR] at hc
    simp only [if_true]
    have HC : Hid (∀ w1, Below w.heap.size w w1 → Calls Tryz.prog 37 #[.string T, .int .i64 x] w1 fun e w' => e = .returned (.string (cutH T x)) ∧ Below w1.heap.size w1 w') := fun w1 hb => CutDigest_any T x w1 (by omega) (hK.later hb hkp) (hF.later hb hfp)
    generalize cutH T x = D at *
    clear hK hF
    go_enter Tryz.func98, Tryz.ntmps98
    go_wp2_with fail
    refine hc.mono ?_
    rintro e w1 ⟨rfl, hb1⟩
    clear hc
    go_wp2_with fail
    refine (HC.out _ hb1).mono ?_
    rintro e w2 ⟨rfl, hb2⟩
    go_wp2
    go_ret
    exact ⟨rfl, hb1.trans (hb2.mono hb1.size)⟩

theorem sTagHash_any (k : Int) (v : Value) (x : Int) (g o : Nat) (l : List ByteArray) (w : World) (hv : SS w v g o l) :
    Calls Tryz.prog 90 #[.int .i64 k, v, .int .i64 x] w fun e w' => e = .returned (.string (hashB k l x)) ∧ Below w.heap.size w w' := by
  have hc := sTagText_any k v g o l w hv
  have hz := tagB_size k l
  obtain ⟨a, cap, rfl, _⟩ := hv
  unfold hashB
  generalize tagB k l = T at *
  cases hR : tagOk k l with
  | false =>
    rw [hR] at hc
    simp only [Bool.false_eq_true, if_false]
    go_enter Tryz.func90, Tryz.ntmps90
    go_wp2_with fail
    refine hc.mono ?_
    rintro e w1 ⟨rfl, hb1⟩
    go_wp2
    go_ret
    exact ⟨rfl, hb1⟩
  | true =>
    rw [hR] at hc
    simp only [if_true]
    have HC : Hid (∀ w1, Calls Tryz.prog 103 #[.string T, .int .i64 x] w1 fun e w' => e = .returned (.string (cutH T x)) ∧ Below w1.heap.size w1 w') := fun w1 => sCutDigest_any T x w1 (by omega)
    generalize cutH T x = D at *
    go_enter Tryz.func90, Tryz.ntmps90
    go_wp2_with fail
    refine hc.mono ?_
    rintro e w1 ⟨rfl, hb1⟩
    clear hc
    go_wp2_with fail
    refine (HC.out _).mono ?_
    rintro e w2 ⟨rfl, hb2⟩
    go_wp2
    go_ret
    exact ⟨rfl, hb1.trans (hb2.mono hb1.size)⟩

/-- the first byte of a text -/
def byte0 (d : ByteArray) : UInt8 := d.data.toList.getD 0 0
theorem run_byte0 (d : ByteArray) (h : 0 < d.size) (w : World) : (Instr.index 9 (.string d) (.int .i64 0)).run Tryz.prog w = .ok (.int .u8 ((byte0 d).toNat : Int)) w := by
  rw [run_index_string (P := Tryz.prog) (w := w) 9 d .i64 _ Tryz.underlying9, dif_pos ⟨by omega, by omega⟩]
  have e : byte0 d = d[0] := by
    unfold byte0
    rw [ByteArray.getElem_eq_getElem_data, List.getD_eq_getElem?_getD, List.getElem?_eq_getElem (by simpa using h)]
    simp
  rw [e]
  rfl

theorem IndexOf_any (t : ByteArray) (w : World) (ht : t.size ≤ 1048576) (hK : TabK w) (hF : TabF w) :
    Calls Tryz.prog 24 #[.string t] w fun e w' => e = .returned (.int .i64 ((byte0 (digB t)).toNat : Int)) ∧ Below w.heap.size w w' := by
  have hz := digB_size t
  have hc := Digest_any t w ht hK hF
  clear hK hF
  generalize digB t = D at *
  have hh := run_byte0 D (by omega)
  generalize byte0 D = b at *
  have hb : b.toNat < 256 := b.toNat_lt
  go_enter Tryz.func24, Tryz.ntmps24
  go_wp2_with fail
  refine hc.mono ?_
  rintro e w1 ⟨rfl, hb1⟩
  clear hc
  go_wp2
  go_ret
  exact ⟨rfl, hb1⟩
theorem sIndexOf_any (t : ByteArray) (w : World) (ht : t.size ≤ 1048576) :
    Calls Tryz.prog 91 #[.string t] w fun e w' => e = .returned (.int .i64 ((byte0 (digB t)).toNat : Int)) ∧ Below w.heap.size w w' := by
  have hz := digB_size t
  have hc := sDigest_any t w ht
  generalize digB t = D at *
  have hh := run_byte0 D (by omega)
  generalize byte0 D = b at *
  have hb : b.toNat < 256 := b.toNat_lt
  go_enter Tryz.func91, Tryz.ntmps91
  go_wp2_with fail
  refine hc.mono ?_
  rintro e w1 ⟨rfl, hb1⟩
  clear hc
  go_wp2
  go_ret
  exact ⟨rfl, hb1⟩

end Go.Proofs.YtfiapodjiifmaaaGreatDoor
