/-
  Texts laid together: Block, Words, After, Hex, Begin, Inb, Dig, Digs, Hexw, Hexs, Cut.
-/
import Derived.Test.YtdifilcdiacbpaaDoorPkA
import Derived.Deep.QuietTactic
import Derived.BigQuiet
import Derived.Deep.RegionHeld3
import Derived.Deep.RegionLaw
import Derived.StillTailTactics
/-
  What the specification makes of a block.
-/
namespace Go.Proofs.YtdifilcdiacbpaaDoor
open Go.RowKit Go.BigFrame
set_option linter.unusedVariables false
set_option maxHeartbeats 4000000 in
set_option maxRecDepth 100000 in
theorem l03Block_any (Hc Kc : Array Value) (h k : Nat → UInt32) (b : ByteArray) (hb : b.size = 64) (w : World) (hH : AggIs Hc 8 h) (hK : AggIs Kc 64 k) :
    Calls Tryd.prog 66 #[.agg Hc, .string b, .agg Kc] w fun e w' => ∃ R, e = .returned (.agg R) ∧ AggIs R 8 (H.block h k (bAt b)) ∧ Below w.heap.size w w' := by
  have hst := BS.start w Hc Kc h k hH hK
  have HST : Hid (BS w ((((w.alloc (.cells Hc 86)).alloc (.cells Kc 88)).alloc (.cells (zeros 8) 86)).alloc (.cells (zeros 64) 88)) h k (fun _ => 0) (fun _ => 0)) := hst
  clear hst hH hK
  go_enter Tryd.func66, Tryd.ntmps66
  go_wp2_with (first | (with_reducible refine wp_build rfl rfl ?_) | (with_reducible refine wp_alloc55 rfl rfl ?_) | (with_reducible refine wp_alloc50 rfl rfl ?_) | (refine wp_store55 rfl _ _ rfl _ rfl rfl rfl ?_))
  generalize ((((w.alloc (.cells Hc 86)).alloc (.cells Kc 88)).alloc (.cells (zeros 8) 86)).alloc (.cells (zeros 64) 88)) = w1 at *
  go_loopw [8] (fun i wr => L1 w h k b i wr) (fun i _ => 16 - (intOf i).toNat)
  case atStart => exact ⟨0, by omega, rfl, HST.out⟩
  case round =>
    obtain ⟨m, hm, rfl, hs⟩ := hrel
    by_cases hlt : m < 16
    · have e0 := bAt_eq b (4 * m) (by omega)
      have e1 := bAt_eq b (4 * m + 1) (by omega)
      have e2 := bAt_eq b (4 * m + 2) (by omega)
      have e3 := bAt_eq b (4 * m + 3) (by omega)
      have l0 := b[4 * m].toNat_lt
      have l1 := b[4 * m + 1].toNat_lt
      have l2 := b[4 * m + 2].toNat_lt
      have l3 := b[4 * m + 3].toNat_lt
      have hwd := H.word_eq b[4 * m].toNat b[4 * m + 1].toNat b[4 * m + 2].toNat b[4 * m + 3].toNat l0 l1 l2 l3
      have hx : ((b[4 * m].toNat * 16777216 + b[4 * m + 1].toNat * 65536 + b[4 * m + 2].toNat * 256 + b[4 * m + 3].toNat : Nat) : Int) = ((H.word (bAt b) m).toNat : Int) := by
        unfold H.word
        rw [H.toNat_of _ (by rw [e0, e1, e2, e3]; omega), e0, e1, e2, e3]
      rw [hx] at hwd
      clear hx e0 e1 e2 e3
      have hs' := hs.setW m (by omega) (H.word (bAt b) m)
      have HS' : Hid (BS w (wr.setCell ⟨w.heap.size + 1 + 1 + 1, m, none⟩ (.int .u32 ((H.word (bAt b) m).toNat : Int))) h k (fun _ => 0) (H.wHead (bAt b) (m + 1))) := hs'
      have c0 := hs.ww.cell m (by omega)
      have f0 := hs.ww.frozen m
      clear hs hs'
      have i0 : (0 : Int) ≤ 4 * (m : Int) := by omega
      have i1 : 4 * (m : Int) + 3 < 64 := by omega
      have i2 : (0 : Int) ≤ (m : Int) := by omega
      have i3 : (m : Int) < 64 := by omega
      go_wp2
      have x0 := run_at b (4 * (m : Int)) (4 * m) (by omega) (by omega)
      have x1 := run_at b (4 * (m : Int) + 1) (4 * m + 1) (by omega) (by omega)
      have x2 := run_at b (4 * (m : Int) + 2) (4 * m + 2) (by omega) (by omega)
      have x3 := run_at b (4 * (m : Int) + 3) (4 * m + 3) (by omega) (by omega)
      go_region
      go_wp2
      go_roundw
      case rel => exact ⟨m + 1, by omega, by go_num, HS'.out.drew⟩
      case measure => simp [intOf]; omega
    · have hme : m = 16 := by omega
      subst hme
      have HS : Hid (BS w wr h k (fun _ => 0) (H.wHead (bAt b) 16)) := hs
      clear hs
      go_wp2
      go_loopw [9] (fun i wx => L2 w h k b i wx) (fun i _ => 64 - (intOf i).toNat)
      case atStart => exact ⟨16, by omega, by omega, rfl, HS.out⟩
      case round =>
        obtain ⟨n, hn, hn2, rfl, hs⟩ := hrel
        by_cases hlt2 : n < 64
        · have hF : H.wMore (H.wHead (bAt b) 16) (n + 1 - 16) = H.upd (H.wMore (H.wHead (bAt b) 16) (n - 16)) n (H.wStep (H.wMore (H.wHead (bAt b) 16) (n - 16)) n) := by
            have e1 : n + 1 - 16 = (n - 16) + 1 := by omega
            have e2 : 16 + (n - 16) = n := by omega
            rw [e1, H.wMore, e2]
          generalize H.wMore (H.wHead (bAt b) 16) (n - 16) = F at *
          have HF : Hid (H.wMore (H.wHead (bAt b) 16) (n + 1 - 16) = H.upd F n (H.wStep F n)) := hF
          have hs' := hs.setW n hlt2 (H.wStep F n)
          have HS' : Hid (BS w (wr.setCell ⟨w.heap.size + 1 + 1 + 1, n, none⟩ (.int .u32 ((H.wStep F n).toNat : Int))) h k (fun _ => 0) (H.upd F n (H.wStep F n))) := hs'
          have HW : Hid (H.wStep F n = ((F (n - 16) + H.sig0 (F (n - 15))) + F (n - 7)) + H.sig1 (F (n - 2))) := rfl
          have c15 := hs.ww.cell (n - 15) (by omega)
          have c2 := hs.ww.cell (n - 2) (by omega)
          have c16 := hs.ww.cell (n - 16) (by omega)
          have c7 := hs.ww.cell (n - 7) (by omega)
          have c0 := hs.ww.cell n (by omega)
          have f0 := hs.ww.frozen n
          clear hs hs' hF
          generalize F (n - 15) = X15 at *
          generalize F (n - 2) = X2 at *
          generalize F (n - 16) = X16 at *
          generalize F (n - 7) = X7 at *
          generalize F n = X0 at *
          obtain ⟨x1, e1⟩ : ∃ x, H.rotr X15 7 ^^^ H.rotr X15 18 = x := ⟨_, rfl⟩
          have s1 : (X15.toNat : Int) / 8 = ((H.shr X15 3).toNat : Int) := H.bshr X15 3
          obtain ⟨x2, e2⟩ : ∃ x, x1 ^^^ H.shr X15 3 = x := ⟨_, rfl⟩
          obtain ⟨x3, e3⟩ : ∃ x, H.rotr X2 17 ^^^ H.rotr X2 19 = x := ⟨_, rfl⟩
          have s2 : (X2.toNat : Int) / 1024 = ((H.shr X2 10).toNat : Int) := H.bshr X2 10
          obtain ⟨x4, e4⟩ : ∃ x, x3 ^^^ H.shr X2 10 = x := ⟨_, rfl⟩
          obtain ⟨x5, e5⟩ : ∃ x, X16 + x2 = x := ⟨_, rfl⟩
          obtain ⟨x6, e6⟩ : ∃ x, x5 + X7 = x := ⟨_, rfl⟩
          have e7 : x6 + x4 = H.wStep F n := by rw [HW.out, ← e6, ← e5, ← e2, ← e1, ← e4, ← e3]; rfl
          generalize H.wStep F n = WS at *
          have b1 := bx' e1
          have b2 := bx' e2
          have b3 := bx' e3
          have b4 := bx' e4
          have a1 := badd' e5
          have a2 := badd' e6
          have a3 := badd' e7
          clear e1 e2 e3 e4 e5 e6 e7 HW
          have t15 : ((n : Int) - 15).toNat = n - 15 := by omega
          have t2 : ((n : Int) - 2).toNat = n - 2 := by omega
          have t16 : ((n : Int) - 16).toNat = n - 16 := by omega
          have t7 : ((n : Int) - 7).toNat = n - 7 := by omega
          have i0 : (0 : Int) ≤ (n : Int) - 15 := by omega
          have i1 : (n : Int) - 15 < 64 := by omega
          have i2 : (0 : Int) ≤ (n : Int) - 2 := by omega
          have i3 : (n : Int) - 2 < 64 := by omega
          have i4 : (0 : Int) ≤ (n : Int) - 16 := by omega
          have i5 : (n : Int) - 16 < 64 := by omega
          have i6 : (0 : Int) ≤ (n : Int) - 7 := by omega
          have i7 : (n : Int) - 7 < 64 := by omega
          have i8 : (n : Int) < 64 := by omega
          have i9 : (0 : Int) ≤ (n : Int) := by omega
          go_wp2
          refine wp_region_quiet_lit (by kernel_rfl) (by kernel_rfl) ?_
          go_big_quiet_step (exact Calls.quiet_of_same (Turn7 _ _))
          go_big_quiet_step (exact Calls.quiet_of_same (Turn7 _ _))
          go_big_quiet_step (exact Calls.quiet_of_same (Turn7 _ _))
          go_big_quiet_step (exact Calls.quiet_of_same (Turn7 _ _))
          go_big_quiet_step (exact Calls.quiet_of_same (Turn7 _ _))
          go_big_quiet_step (exact Calls.quiet_of_same (Turn18 _ _))
          go_big_quiet_step (exact Calls.quiet_of_same (Turn18 _ _))
          go_big_quiet_step (exact Calls.quiet_of_same (Turn18 _ _))
          go_big_quiet_step (exact Calls.quiet_of_same (Turn18 _ _))
          go_big_quiet_step (exact Calls.quiet_of_same (Turn18 _ _))
          go_big_quiet_step (exact Calls.quiet_of_same (Turn7 _ _))
          go_big_quiet_step (exact Calls.quiet_of_same (Turn7 _ _))
          go_big_quiet_step (exact Calls.quiet_of_same (Turn7 _ _))
          go_big_quiet_step (exact Calls.quiet_of_same (Turn7 _ _))
          go_big_quiet_step (exact Calls.quiet_of_same (Turn7 _ _))
          go_big_quiet_step (exact Calls.quiet_of_same (Turn7 _ _))
          go_big_quiet_step (exact Calls.quiet_of_same (Turn7 _ _))
          go_big_quiet_step (exact Calls.quiet_of_same (Turn7 _ _))
          refine wpQuiet_nil ?_
          rintro _ ⟨q1, rfl⟩
          go_wp2
          refine wp_region_quiet_lit (by kernel_rfl) (by kernel_rfl) ?_
          go_big_quiet_step (exact quiet_same2 (Turn17 _ _))
          go_big_quiet_step (exact quiet_same2 (Turn17 _ _))
          go_big_quiet_step (exact quiet_same2 (Turn17 _ _))
          go_big_quiet_step (exact quiet_same2 (Turn17 _ _))
          go_big_quiet_step (exact quiet_same2 (Turn17 _ _))
          go_big_quiet_step (exact quiet_same2 (Turn19 _ _))
          go_big_quiet_step (exact quiet_same2 (Turn19 _ _))
          go_big_quiet_step (exact quiet_same2 (Turn19 _ _))
          go_big_quiet_step (exact quiet_same2 (Turn19 _ _))
          go_big_quiet_step (exact quiet_same2 (Turn19 _ _))
          go_big_quiet_step (exact quiet_same2 (Turn17 _ _))
          go_big_quiet_step (exact quiet_same2 (Turn17 _ _))
          go_big_quiet_step (exact quiet_same2 (Turn17 _ _))
          go_big_quiet_step (exact quiet_same2 (Turn17 _ _))
          go_big_quiet_step (exact quiet_same2 (Turn17 _ _))
          go_big_quiet_step (exact quiet_same2 (Turn17 _ _))
          go_big_quiet_step (exact quiet_same2 (Turn17 _ _))
          go_big_quiet_step (exact quiet_same2 (Turn17 _ _))
          refine wpQuiet_nil ?_
          rintro _ ⟨q2, rfl⟩
          go_wp2
          go_region
          go_wp2
          go_roundw
          case rel => exact ⟨n + 1, by omega, by omega, by go_num, by rw [HF.out]; exact HS'.out.drewN _⟩
          case measure => simp [intOf]; omega
        · have hne : n = 64 := by omega
          subst hne
          have hsz := hs.sz
          have HS2 : Hid (BS w wr h k (fun _ => 0) (H.wAll (bAt b))) := hs
          clear hs HS HST
          go_wp2_with (first | (refine wp_loadArr rfl 86 _ rfl w.heap.size 86 8 h 85 rfl HS2.out.hh Tryd.underlying86 size51 ?_; intro R hR) | (with_reducible refine wp_alloc50 rfl rfl ?_) | (refine wp_storeNew rfl 86 8 _ _ rfl wr _ R h rfl (zeros_size 8) hR rfl rfl size51 ?_))
          have HS3 : Hid (S3 w (wr.alloc (.cells R 86)) h k (H.wAll (bAt b)) h) := HS2.out.copy hR
          clear hR HS2 hsz
          generalize wr.alloc (.cells R 86) = w3 at *
          have HB : Hid ((fun i => h i + H.rounds h k (H.wAll (bAt b)) 64 i) = H.block h k (bAt b)) := rfl
          generalize H.wAll (bAt b) = W at *
          go_loopw [13] (fun i wx => L3 w h k W i wx) (fun i _ => 64 - (intOf i).toNat)
          case atStart => exact ⟨0, by omega, rfl, HS3.out⟩
          case round =>
            obtain ⟨m, hm, rfl, hs⟩ := hrel
            by_cases hlt3 : m < 64
            · have HR : Hid (H.rounds h k W (m + 1) = H.round (H.rounds h k W m) (k m) (W m)) := rfl
              generalize H.rounds h k W m = s at *
              have ck := hs.kk.cell m hlt3
              have cw := hs.ww.cell m hlt3
              have c0 := hs.ss.cell 0 (by omega)
              have c1 := hs.ss.cell 1 (by omega)
              have c2 := hs.ss.cell 2 (by omega)
              have c3 := hs.ss.cell 3 (by omega)
              have c4 := hs.ss.cell 4 (by omega)
              have c5 := hs.ss.cell 5 (by omega)
              have c6 := hs.ss.cell 6 (by omega)
              have c7 := hs.ss.cell 7 (by omega)
              have f0 := hs.ss.frozen 0
              have f1 := hs.ss.frozen 1
              have f2 := hs.ss.frozen 2
              have f3 := hs.ss.frozen 3
              have f4 := hs.ss.frozen 4
              have f5 := hs.ss.frozen 5
              have f6 := hs.ss.frozen 6
              have f7 := hs.ss.frozen 7
              obtain ⟨N4, hN4⟩ : ∃ x, s 3 + H.one s (k m) (W m) = x := ⟨_, rfl⟩
              obtain ⟨N0, hN0⟩ : ∃ x, H.one s (k m) (W m) + H.two s = x := ⟨_, rfl⟩
              have hrd := fun q => (hs.drewN q).round (k m) (W m) N4 N0 hN4 hN0
              have e1 : H.one s (k m) (W m) = (((s 7 + H.big1 (s 4)) + H.ch (s 4) (s 5) (s 6)) + k m) + W m := rfl
              have e2 : H.two s = H.big0 (s 0) + H.maj (s 0) (s 1) (s 2) := rfl
              generalize H.one s (k m) (W m) = ONE at *
              generalize H.two s = TWO at *
              generalize H.round s (k m) (W m) = s' at *
              generalize k m = KM at *
              generalize W m = WM at *
              generalize s 0 = S0 at *
              generalize s 1 = S1 at *
              generalize s 2 = S2 at *
              generalize s 3 = S3' at *
              generalize s 4 = S4 at *
              generalize s 5 = S5 at *
              generalize s 6 = S6 at *
              generalize s 7 = S7 at *
              have HRD : Hid (∀ q, _) := hrd
              clear hrd hs
              obtain ⟨y1, g1⟩ : ∃ x, H.rotr S4 6 ^^^ H.rotr S4 11 = x := ⟨_, rfl⟩
              obtain ⟨y2, g2⟩ : ∃ x, y1 ^^^ H.rotr S4 25 = x := ⟨_, rfl⟩
              have q2 : H.big1 S4 = y2 := by rw [← g2, ← g1]; rfl
              obtain ⟨y3, g3⟩ : ∃ x, S4 &&& S5 = x := ⟨_, rfl⟩
              obtain ⟨y4, g4⟩ : ∃ x, S4 ^^^ 4294967295 = x := ⟨_, rfl⟩
              obtain ⟨y5, g5⟩ : ∃ x, y4 &&& S6 = x := ⟨_, rfl⟩
              obtain ⟨y6, g6⟩ : ∃ x, y3 ^^^ y5 = x := ⟨_, rfl⟩
              have q6 : H.ch S4 S5 S6 = y6 := by rw [← g6, ← g5, ← g4, ← g3]; rfl
              obtain ⟨y7, g7⟩ : ∃ x, S7 + y2 = x := ⟨_, rfl⟩
              obtain ⟨y8, g8⟩ : ∃ x, y7 + y6 = x := ⟨_, rfl⟩
              obtain ⟨y9, g9⟩ : ∃ x, y8 + KM = x := ⟨_, rfl⟩
              have g10 : y9 + WM = ONE := by rw [e1, q2, q6, g7, g8, g9]
              obtain ⟨z1, k1⟩ : ∃ x, H.rotr S0 2 ^^^ H.rotr S0 13 = x := ⟨_, rfl⟩
              obtain ⟨z2, k2⟩ : ∃ x, z1 ^^^ H.rotr S0 22 = x := ⟨_, rfl⟩
              have q3 : H.big0 S0 = z2 := by rw [← k2, ← k1]; rfl
              obtain ⟨z3, k3⟩ : ∃ x, S0 &&& S1 = x := ⟨_, rfl⟩
              obtain ⟨z4, k4⟩ : ∃ x, S0 &&& S2 = x := ⟨_, rfl⟩
              obtain ⟨z5, k5⟩ : ∃ x, z3 ^^^ z4 = x := ⟨_, rfl⟩
              obtain ⟨z6, k6⟩ : ∃ x, S1 &&& S2 = x := ⟨_, rfl⟩
              obtain ⟨z7, k7⟩ : ∃ x, z5 ^^^ z6 = x := ⟨_, rfl⟩
              have q7 : H.maj S0 S1 S2 = z7 := by rw [← k7, ← k6, ← k5, ← k4, ← k3]; rfl
              have k8 : z2 + z7 = TWO := by rw [e2, q3, q7]
              have bg1 := bx' g1
              have bg2 := bx' g2
              have bg3 := ba' g3
              have bg4 : bits .xor .u32 (S4.toNat : Int) 4294967295 = (y4.toNat : Int) := by rw [← g4]; exact H.bn S4
              have bg5 := ba' g5
              have bg6 := bx' g6
              have bg7 := badd' g7
              have bg8 := badd' g8
              have bg9 := badd' g9
              have bg10 := badd' g10
              have bk1 := bx' k1
              have bk2 := bx' k2
              have bk3 := ba' k3
              have bk4 := ba' k4
              have bk5 := bx' k5
              have bk6 := ba' k6
              have bk7 := bx' k7
              have bk8 := badd' k8
              have bN4 := badd' hN4
              have bN0 := badd' hN0
              clear g1 g2 g3 g4 g5 g6 g7 g8 g9 g10 k1 k2 k3 k4 k5 k6 k7 k8 hN4 hN0 e1 e2 q2 q3 q6 q7
              have i8 : (m : Int) < 64 := by omega
              have i9 : (0 : Int) ≤ (m : Int) := by omega
              go_wp2
              refine wp_region_quiet_lit (by kernel_rfl) (by kernel_rfl) ?_
              go_big_quiet_step (exact Calls.quiet_of_same (Turn6 _ _))
              go_big_quiet_step (exact Calls.quiet_of_same (Turn6 _ _))
              go_big_quiet_step (exact Calls.quiet_of_same (Turn6 _ _))
              go_big_quiet_step (exact Calls.quiet_of_same (Turn11 _ _))
              go_big_quiet_step (exact Calls.quiet_of_same (Turn11 _ _))
              go_big_quiet_step (exact Calls.quiet_of_same (Turn11 _ _))
              go_big_quiet_step (exact Calls.quiet_of_same (Turn11 _ _))
              go_big_quiet_step (exact Calls.quiet_of_same (Turn25 _ _))
              go_big_quiet_step (exact Calls.quiet_of_same (Turn25 _ _))
              go_big_quiet_step (exact Calls.quiet_of_same (Turn25 _ _))
              go_big_quiet_step (exact Calls.quiet_of_same (Turn25 _ _))
              go_big_quiet_step (exact Calls.quiet_of_same (Turn25 _ _))
              refine wpQuiet_nil ?_
              rintro _ ⟨q1, rfl⟩
              go_wp2
              refine wp_region_quiet_lit (by kernel_rfl) (by kernel_rfl) ?_
              go_big_quiet_step (fail)
              go_big_quiet_step (fail)
              go_big_quiet_step (fail)
              go_big_quiet_step (fail)
              go_big_quiet_step (fail)
              go_big_quiet_step (fail)
              go_big_quiet_step (fail)
              go_big_quiet_step (fail)
              go_big_quiet_step (fail)
              go_big_quiet_step (fail)
              go_big_quiet_step (fail)
              go_big_quiet_step (fail)
              go_big_quiet_step (fail)
              go_big_quiet_step (fail)
              go_big_quiet_step (fail)
              refine wpQuiet_nil ?_
              rintro _ ⟨q2, rfl⟩
              go_wp2
              refine wp_region_quiet_lit (by kernel_rfl) (by kernel_rfl) ?_
              go_big_quiet_step (exact quiet_same2 (Turn2 _ _))
              go_big_quiet_step (exact quiet_same2 (Turn2 _ _))
              go_big_quiet_step (exact quiet_same2 (Turn2 _ _))
              go_big_quiet_step (exact quiet_same2 (Turn13 _ _))
              go_big_quiet_step (exact quiet_same2 (Turn13 _ _))
              go_big_quiet_step (exact quiet_same2 (Turn13 _ _))
              go_big_quiet_step (exact quiet_same2 (Turn13 _ _))
              go_big_quiet_step (exact quiet_same2 (Turn22 _ _))
              go_big_quiet_step (exact quiet_same2 (Turn22 _ _))
              go_big_quiet_step (exact quiet_same2 (Turn22 _ _))
              go_big_quiet_step (exact quiet_same2 (Turn22 _ _))
              go_big_quiet_step (exact quiet_same2 (Turn22 _ _))
              refine wpQuiet_nil ?_
              rintro _ ⟨q3, rfl⟩
              go_wp2
              go_roundw
              case rel => exact ⟨m + 1, by omega, by go_num, by rw [HR.out]; exact HRD.out _⟩
              case measure => simp [intOf]; omega
            · have hme : m = 64 := by omega
              subst hme
              have HS4 : Hid (S3 w wr h k W (H.rounds h k W 64)) := hs
              clear hs HS3
              generalize H.rounds h k W 64 = s at *
              go_wp2
              go_loopw [20] (fun i wx => L4 w h k W s i wx) (fun i _ => 8 - (intOf i).toNat)
              case atStart => exact ⟨0, by omega, rfl, HS4.out.congrH (fun i hi => by simp [part])⟩
              case round =>
                obtain ⟨p, hp, rfl, hs⟩ := hrel
                by_cases hlt4 : p < 8
                · have ch := hs.hh.cell p hlt4
                  rw [part_at] at ch
                  have cs := hs.ss.cell p hlt4
                  have fh := hs.hh.frozen p
                  have hst := fun q => ((hs.drewN q).setH p hlt4 (h p + s p)).congrH (fun i hi => part_succ h s p i)
                  obtain ⟨x, hx⟩ : ∃ x, h p + s p = x := ⟨_, rfl⟩
                  rw [hx] at hst
                  have HST4 : Hid (∀ q, _) := hst
                  have bx := badd' hx
                  clear hs hst hx HS4
                  have i8 : (p : Int) < 8 := by omega
                  have i9 : (0 : Int) ≤ (p : Int) := by omega
                  go_wp2
                  go_region
                  go_wp2
                  go_roundw
                  case rel => exact ⟨p + 1, by omega, by go_num, HST4.out 1⟩
                  case measure => simp [intOf]; omega
                · have hpe : p = 8 := by omega
                  subst hpe
                  have HS5 : Hid (S3 w wr (part h s 8) k W s) := hs
                  clear hs HS4
                  go_wp2_with (first | (refine wp_loadArr rfl 86 _ rfl w.heap.size 86 8 (part h s 8) 85 rfl HS5.out.hh Tryd.underlying86 size51 ?_; intro R hR) | (refine wp_storeArr rfl 86 _ _ rfl (w.heap.size + 1 + 1) 86 8 _ (part h s 8) R HS5.out.rr hR rfl rfl size51 ?_; intro hfin))
                  refine ret_arr 6 (w.heap.size + 1 + 1) 86 8 86 85 (part h s 8) rfl rfl rfl hfin Tryd.underlying86 size51 ?_
                  intro R2 hR2
                  exact ⟨R2, rfl, hR2.congr (fun i hi => by have := HB.out; rw [← this]; simp [part, hi]), below_setRow HS5.out.bel (by omega)⟩
end Go.Proofs.YtdifilcdiacbpaaDoor
/-
  The words of a block, as the program makes them; the rotation of the standard library.
-/
namespace Go.Proofs.YtdifilcdiacbpaaDoor
open Go.RowKit Go.BigFrame
set_option linter.unusedVariables false

theorem brot' (a : UInt32) (n : Nat) (h : n ≤ 32) : bits .or .u32 ((a.toNat : Int) * ((2 ^ (32 - n) : Nat) : Int) % 4294967296) ((a.toNat : Int) / ((2 ^ n : Nat) : Int)) = ((H.rotr a n).toNat : Int) := by
  have h1 : a.toNat / 2 ^ n < 4294967296 := Nat.lt_of_le_of_lt (Nat.div_le_self _ _) (H.u32_lt a)
  have h2 : a.toNat * 2 ^ (32 - n) % 4294967296 < 4294967296 := Nat.mod_lt _ (by omega)
  have e := u32_or_nat _ _ h2 h1
  unfold H.rotr
  rw [H.toNat_of _ (Nat.or_lt_two_pow (n := 32) h1 h2), Nat.or_comm, ← e]
  simp

theorem Rot2 (x : UInt32) (w : World) :
    Calls Tryd.prog 82 #[.int .u32 (x.toNat : Int), .int .i64 (-2)] w fun e w' => e = .returned (.int .u32 ((H.rotr x 2).toNat : Int)) ∧ w' = w := by
  have hr : bits .or .u32 ((x.toNat : Int) * 1073741824 % 4294967296) ((x.toNat : Int) / 4) = ((H.rotr x 2).toNat : Int) := brot' x 2 (by omega)
  have ha : bits .and .u64 (IntKind.u64.wrap (-2)) 31 = 30 := by rfl
  go_enter Tryd.func82, Tryd.ntmps82
  go_wp2
  go_ret
  exact ⟨rfl, rfl⟩
theorem Rot6 (x : UInt32) (w : World) :
    Calls Tryd.prog 82 #[.int .u32 (x.toNat : Int), .int .i64 (-6)] w fun e w' => e = .returned (.int .u32 ((H.rotr x 6).toNat : Int)) ∧ w' = w := by
  have hr : bits .or .u32 ((x.toNat : Int) * 67108864 % 4294967296) ((x.toNat : Int) / 64) = ((H.rotr x 6).toNat : Int) := brot' x 6 (by omega)
  have ha : bits .and .u64 (IntKind.u64.wrap (-6)) 31 = 26 := by rfl
  go_enter Tryd.func82, Tryd.ntmps82
  go_wp2
  go_ret
  exact ⟨rfl, rfl⟩
theorem Rot7 (x : UInt32) (w : World) :
    Calls Tryd.prog 82 #[.int .u32 (x.toNat : Int), .int .i64 (-7)] w fun e w' => e = .returned (.int .u32 ((H.rotr x 7).toNat : Int)) ∧ w' = w := by
  have hr : bits .or .u32 ((x.toNat : Int) * 33554432 % 4294967296) ((x.toNat : Int) / 128) = ((H.rotr x 7).toNat : Int) := brot' x 7 (by omega)
  have ha : bits .and .u64 (IntKind.u64.wrap (-7)) 31 = 25 := by rfl
  go_enter Tryd.func82, Tryd.ntmps82
  go_wp2
  go_ret
  exact ⟨rfl, rfl⟩
theorem Rot11 (x : UInt32) (w : World) :
    Calls Tryd.prog 82 #[.int .u32 (x.toNat : Int), .int .i64 (-11)] w fun e w' => e = .returned (.int .u32 ((H.rotr x 11).toNat : Int)) ∧ w' = w := by
  have hr : bits .or .u32 ((x.toNat : Int) * 2097152 % 4294967296) ((x.toNat : Int) / 2048) = ((H.rotr x 11).toNat : Int) := brot' x 11 (by omega)
  have ha : bits .and .u64 (IntKind.u64.wrap (-11)) 31 = 21 := by rfl
  go_enter Tryd.func82, Tryd.ntmps82
  go_wp2
  go_ret
  exact ⟨rfl, rfl⟩
theorem Rot13 (x : UInt32) (w : World) :
    Calls Tryd.prog 82 #[.int .u32 (x.toNat : Int), .int .i64 (-13)] w fun e w' => e = .returned (.int .u32 ((H.rotr x 13).toNat : Int)) ∧ w' = w := by
  have hr : bits .or .u32 ((x.toNat : Int) * 524288 % 4294967296) ((x.toNat : Int) / 8192) = ((H.rotr x 13).toNat : Int) := brot' x 13 (by omega)
  have ha : bits .and .u64 (IntKind.u64.wrap (-13)) 31 = 19 := by rfl
  go_enter Tryd.func82, Tryd.ntmps82
  go_wp2
  go_ret
  exact ⟨rfl, rfl⟩
theorem Rot17 (x : UInt32) (w : World) :
    Calls Tryd.prog 82 #[.int .u32 (x.toNat : Int), .int .i64 (-17)] w fun e w' => e = .returned (.int .u32 ((H.rotr x 17).toNat : Int)) ∧ w' = w := by
  have hr : bits .or .u32 ((x.toNat : Int) * 32768 % 4294967296) ((x.toNat : Int) / 131072) = ((H.rotr x 17).toNat : Int) := brot' x 17 (by omega)
  have ha : bits .and .u64 (IntKind.u64.wrap (-17)) 31 = 15 := by rfl
  go_enter Tryd.func82, Tryd.ntmps82
  go_wp2
  go_ret
  exact ⟨rfl, rfl⟩
theorem Rot18 (x : UInt32) (w : World) :
    Calls Tryd.prog 82 #[.int .u32 (x.toNat : Int), .int .i64 (-18)] w fun e w' => e = .returned (.int .u32 ((H.rotr x 18).toNat : Int)) ∧ w' = w := by
  have hr : bits .or .u32 ((x.toNat : Int) * 16384 % 4294967296) ((x.toNat : Int) / 262144) = ((H.rotr x 18).toNat : Int) := brot' x 18 (by omega)
  have ha : bits .and .u64 (IntKind.u64.wrap (-18)) 31 = 14 := by rfl
  go_enter Tryd.func82, Tryd.ntmps82
  go_wp2
  go_ret
  exact ⟨rfl, rfl⟩
theorem Rot19 (x : UInt32) (w : World) :
    Calls Tryd.prog 82 #[.int .u32 (x.toNat : Int), .int .i64 (-19)] w fun e w' => e = .returned (.int .u32 ((H.rotr x 19).toNat : Int)) ∧ w' = w := by
  have hr : bits .or .u32 ((x.toNat : Int) * 8192 % 4294967296) ((x.toNat : Int) / 524288) = ((H.rotr x 19).toNat : Int) := brot' x 19 (by omega)
  have ha : bits .and .u64 (IntKind.u64.wrap (-19)) 31 = 13 := by rfl
  go_enter Tryd.func82, Tryd.ntmps82
  go_wp2
  go_ret
  exact ⟨rfl, rfl⟩
theorem Rot22 (x : UInt32) (w : World) :
    Calls Tryd.prog 82 #[.int .u32 (x.toNat : Int), .int .i64 (-22)] w fun e w' => e = .returned (.int .u32 ((H.rotr x 22).toNat : Int)) ∧ w' = w := by
  have hr : bits .or .u32 ((x.toNat : Int) * 1024 % 4294967296) ((x.toNat : Int) / 4194304) = ((H.rotr x 22).toNat : Int) := brot' x 22 (by omega)
  have ha : bits .and .u64 (IntKind.u64.wrap (-22)) 31 = 10 := by rfl
  go_enter Tryd.func82, Tryd.ntmps82
  go_wp2
  go_ret
  exact ⟨rfl, rfl⟩
theorem Rot25 (x : UInt32) (w : World) :
    Calls Tryd.prog 82 #[.int .u32 (x.toNat : Int), .int .i64 (-25)] w fun e w' => e = .returned (.int .u32 ((H.rotr x 25).toNat : Int)) ∧ w' = w := by
  have hr : bits .or .u32 ((x.toNat : Int) * 128 % 4294967296) ((x.toNat : Int) / 33554432) = ((H.rotr x 25).toNat : Int) := brot' x 25 (by omega)
  have ha : bits .and .u64 (IntKind.u64.wrap (-25)) 31 = 7 := by rfl
  go_enter Tryd.func82, Tryd.ntmps82
  go_wp2
  go_ret
  exact ⟨rfl, rfl⟩


structure WS (w wr : World) (W : Nat → UInt32) : Prop where
  rr : Arr wr w.heap.size 88 64 (fun _ => 0)
  ww : Arr wr (w.heap.size + 1) 88 64 W
  bel : Below w.heap.size w wr
theorem WS.start (w : World) : WS w ((w.alloc (.cells (zeros 64) 88)).alloc (.cells (zeros 64) 88)) (fun _ => 0) := by
  refine ⟨(Arr.agg (AggIs.zeros 64)).alloc _, ?_, ((Below.refl _ _).alloc (Nat.le_refl _) _).alloc (by simp) _⟩
  have := Arr.agg (w := w.alloc (.cells (zeros 64) 88)) (t := 88) (AggIs.zeros 64)
  simpa using this
theorem WS.set {w wr : World} {W : Nat → UInt32} (s : WS w wr W) (i : Nat) (hi : i < 64) (x : UInt32) : WS w (wr.setCell ⟨w.heap.size + 1, i, none⟩ (.int .u32 (x.toNat : Int))) (H.upd W i x) :=
  ⟨s.rr.other _ _ _ (by omega), s.ww.set i hi x, s.bel.setCell (p := ⟨w.heap.size + 1, i, none⟩) (by show w.heap.size ≤ w.heap.size + 1; omega) _⟩
theorem WS.drewN {w wr : World} {W : Nat → UInt32} (s : WS w wr W) (n : Nat) : WS w (wr.drewN n) W := ⟨s.rr, s.ww, s.bel.trans ⟨rfl, rfl, rfl, Nat.le_refl _, fun _ _ => rfl⟩⟩

def Q1 (w : World) (b : ByteArray) (i : Value) (wr : World) : Prop := ∃ m : Nat, m ≤ 16 ∧ i = .int .i64 m ∧ WS w wr (H.wHead (bAt b) m)
def Q2 (w : World) (b : ByteArray) (i : Value) (wr : World) : Prop := ∃ m : Nat, m ≤ 48 ∧ i = .int .i64 m ∧ WS w wr (H.wMore (H.wHead (bAt b) 16) m)

theorem run_cut (b : ByteArray) (x y : Int) (i j : Nat) (hx : x = (i : Int)) (hy : y = (j : Int)) (hij : i ≤ j) (hj : j ≤ b.size) (W : World) : (Instr.slice 9 (.string b) (some (.int .i64 x)) (some (.int .i64 y)) none).run Tryd.prog W = .ok (.string (b.extract i j)) W := by
  subst hx
  subst hy
  rw [run_slice_string W 9 b .i64 .i64 _ _ Tryd.underlying9 (by omega) (by omega) (by omega)]
  simp
theorem bAt_lt (b : ByteArray) (j : Nat) : bAt b j < 256 := UInt8.toNat_lt _
/-- four bytes of a text, cut out, and each of them -/
theorem cut4 (b : ByteArray) (m : Nat) (h : 4 * m + 4 ≤ b.size) : ∃ c : ByteArray, (∀ W, (Instr.slice 9 (.string b) (some (.int .i64 (4 * (m : Int)))) (some (.int .i64 (4 * (m : Int) + 4))) none).run Tryd.prog W = .ok (.string c) W) ∧
    ∀ j : Nat, j < 4 → ∀ (x : Int), x = (j : Int) → ∀ W, (Instr.index 9 (.string c) (.int .i64 x)).run Tryd.prog W = .ok (.int .u8 ((bAt b (4 * m + j) : Nat) : Int)) W := by
  have h1 : (b.extract (4 * m) (4 * m + 4)).size = 4 := by rw [ByteArray.size_extract]; omega
  refine ⟨b.extract (4 * m) (4 * m + 4), run_cut b _ _ _ _ (by omega) (by omega) (by omega) h, fun j hj x hx W => ?_⟩
  rw [run_at _ x j hx (by omega) W, bAt_eq b (4 * m + j) (by omega), ByteArray.getElem_extract]

set_option maxHeartbeats 1000000 in
set_option maxRecDepth 100000 in
theorem shaWords_any (b : ByteArray) (hb : b.size = 64) (w : World) :
    Calls Tryd.prog 81 #[.string b] w fun e w' => ∃ R, e = .returned (.agg R) ∧ AggIs R 64 (H.wAll (bAt b)) ∧ Below w.heap.size w w' := by
  have HST : Hid (WS w ((w.alloc (.cells (zeros 64) 88)).alloc (.cells (zeros 64) 88)) (fun _ => 0)) := WS.start w
  go_enter Tryd.func81, Tryd.ntmps81
  go_wp2_with (first | (with_reducible refine wp_build rfl rfl ?_) | (with_reducible refine wp_alloc55 rfl rfl ?_) | (refine wp_store55 rfl _ _ rfl _ rfl rfl rfl ?_))
  generalize ((w.alloc (.cells (zeros 64) 88)).alloc (.cells (zeros 64) 88)) = w1 at *
  go_loopw [12] (fun i wr => Q1 w b i wr) (fun i _ => 16 - (intOf i).toNat)
  case atStart => exact ⟨0, by omega, rfl, HST.out⟩
  case round =>
    obtain ⟨m, hm, rfl, hs⟩ := hrel
    by_cases hlt : m < 16
    · obtain ⟨c, hcut, hcj⟩ := cut4 b m (by omega)
      have hst := fun q => (hs.drewN q).set m (by omega) (H.word (bAt b) m)
      have HS' : Hid (∀ q, WS w ((wr.drewN q).setCell ⟨w.heap.size + 1, m, none⟩ (.int .u32 ((H.word (bAt b) m).toNat : Int))) (H.wHead (bAt b) (m + 1))) := hst
      have c0 := hs.ww.cell m (by omega)
      have f0 := hs.ww.frozen m
      have x0 := hcj 0 (by omega) 0 rfl
      have x1 := hcj 1 (by omega) 1 rfl
      have x2 := hcj 2 (by omega) 2 rfl
      have x3 := hcj 3 (by omega) 3 rfl
      have l0 := bAt_lt b (4 * m + 0)
      have l1 := bAt_lt b (4 * m + 1)
      have l2 := bAt_lt b (4 * m + 2)
      have l3 := bAt_lt b (4 * m + 3)
      have hwd := H.word_eq _ _ _ _ l0 l1 l2 l3
      have hx : ((bAt b (4 * m + 0) * 16777216 + bAt b (4 * m + 1) * 65536 + bAt b (4 * m + 2) * 256 + bAt b (4 * m + 3) : Nat) : Int) = ((H.word (bAt b) m).toNat : Int) := by
        unfold H.word
        rw [H.toNat_of _ (by simp only [Nat.add_zero] at l0; omega)]
        rfl
      rw [hx] at hwd
      generalize bAt b (4 * m + 0) = n0 at *
      generalize bAt b (4 * m + 1) = n1 at *
      generalize bAt b (4 * m + 2) = n2 at *
      generalize bAt b (4 * m + 3) = n3 at *
      clear hs hst hcj hx
      have i2 : (0 : Int) ≤ (m : Int) := by omega
      have i3 : (m : Int) < 64 := by omega
      go_wp2
      go_region
      go_wp2
      go_roundw
      case rel => exact ⟨m + 1, by omega, by go_num, HS'.out 1⟩
      case measure => simp [intOf]; omega
    · have hme : m = 16 := by omega
      have hI : (m : Int) = 16 := by omega
      rw [hI]
      clear hI
      subst hme
      have HS : Hid (WS w wr (H.wHead (bAt b) 16)) := hs
      clear hs HST
      go_wp2
      go_loopw [43] (fun i wx => Q2 w b i wx) (fun i _ => 48 - (intOf i).toNat)
      case atStart => exact ⟨0, by omega, rfl, HS.out⟩
      case round =>
        obtain ⟨n, hn, rfl, hs⟩ := hrel
        by_cases hlt2 : n < 48
        · have HF : Hid (H.wMore (H.wHead (bAt b) 16) (n + 1) = H.upd (H.wMore (H.wHead (bAt b) 16) n) (16 + n) (H.wStep (H.wMore (H.wHead (bAt b) 16) n) (16 + n))) := rfl
          generalize H.wMore (H.wHead (bAt b) 16) n = F at *
          have hst := fun q => (hs.drewN q).set (16 + n) (by omega) (H.wStep F (16 + n))
          have HW : Hid (H.wStep F (16 + n) = ((F (16 + n - 16) + H.sig0 (F (16 + n - 15))) + F (16 + n - 7)) + H.sig1 (F (16 + n - 2))) := rfl
          have c15 := hs.ww.cell (16 + n - 15) (by omega)
          have c2 := hs.ww.cell (16 + n - 2) (by omega)
          have c16 := hs.ww.cell (16 + n - 16) (by omega)
          have c7 := hs.ww.cell (16 + n - 7) (by omega)
          have c0 := hs.ww.cell (16 + n) (by omega)
          have f0 := hs.ww.frozen (16 + n)
          generalize F (16 + n - 15) = X15 at *
          generalize F (16 + n - 2) = X2 at *
          generalize F (16 + n - 16) = X16 at *
          generalize F (16 + n - 7) = X7 at *
          generalize F (16 + n) = X0 at *
          obtain ⟨x1, e1⟩ : ∃ x, H.rotr X15 7 ^^^ H.rotr X15 18 = x := ⟨_, rfl⟩
          have s1 : (X15.toNat : Int) / 8 = ((H.shr X15 3).toNat : Int) := H.bshr X15 3
          obtain ⟨x2, e2⟩ : ∃ x, x1 ^^^ H.shr X15 3 = x := ⟨_, rfl⟩
          obtain ⟨x3, e3⟩ : ∃ x, H.rotr X2 17 ^^^ H.rotr X2 19 = x := ⟨_, rfl⟩
          have s2 : (X2.toNat : Int) / 1024 = ((H.shr X2 10).toNat : Int) := H.bshr X2 10
          obtain ⟨x4, e4⟩ : ∃ x, x3 ^^^ H.shr X2 10 = x := ⟨_, rfl⟩
          obtain ⟨x5, e5⟩ : ∃ x, X16 + x2 = x := ⟨_, rfl⟩
          obtain ⟨x6, e6⟩ : ∃ x, x5 + X7 = x := ⟨_, rfl⟩
          have e7 : x6 + x4 = H.wStep F (16 + n) := by rw [HW.out, ← e6, ← e5, ← e2, ← e1, ← e4, ← e3]; rfl
          generalize H.wStep F (16 + n) = WS' at *
          have HST2 : Hid (∀ q, WS w ((wr.drewN q).setCell ⟨w.heap.size + 1, 16 + n, none⟩ (.int .u32 (WS'.toNat : Int))) (H.upd F (16 + n) WS')) := hst
          have b1 := bx' e1
          have b2 := bx' e2
          have b3 := bx' e3
          have b4 := bx' e4
          have a1 := badd' e5
          have a2 := badd' e6
          have a3 := badd' e7
          clear e1 e2 e3 e4 e5 e6 e7 HW hst hs
          have t15 : ((n : Int) + 16 - 15).toNat = 16 + n - 15 := by omega
          have t2 : ((n : Int) + 16 - 2).toNat = 16 + n - 2 := by omega
          have en : 16 + n - 16 = n := by omega
          rw [en] at c16
          clear en
          have t7 : ((n : Int) + 16 - 7).toNat = 16 + n - 7 := by omega
          have t0 : ((n : Int) + 16).toNat = 16 + n := by omega
          have i0 : (0 : Int) ≤ (n : Int) + 16 - 15 := by omega
          have i1 : (n : Int) + 16 - 15 < 64 := by omega
          have i2 : (0 : Int) ≤ (n : Int) + 16 - 2 := by omega
          have i3 : (n : Int) + 16 - 2 < 64 := by omega
          have i4 : (0 : Int) ≤ (n : Int) := by omega
          have i5 : (n : Int) < 64 := by omega
          have i6 : (0 : Int) ≤ (n : Int) + 16 - 7 := by omega
          have i7 : (n : Int) + 16 - 7 < 64 := by omega
          have i8 : (n : Int) + 16 < 64 := by omega
          have i9 : (0 : Int) ≤ (n : Int) + 16 := by omega
          go_wp2
          refine wp_region_quiet_lit (by kernel_rfl) (by kernel_rfl) ?_
          go_big_quiet_step (fail)
          go_big_quiet_step (fail)
          go_big_quiet_step (fail)
          go_big_quiet_step (fail)
          go_big_quiet_step (fail)
          go_big_quiet_step (fail)
          go_big_quiet_step (fail)
          go_big_quiet_step (fail)
          go_big_quiet_step (fail)
          go_big_quiet_step (fail)
          refine wpQuiet_nil ?_
          rintro _ ⟨q1, rfl⟩
          go_wp2_with fail
          refine (Rot7 X15 _).mono ?_
          rintro e w7 ⟨rfl, rfl⟩
          go_wp2_with fail
          refine (Rot18 X15 _).mono ?_
          rintro e w18 ⟨rfl, rfl⟩
          go_wp2_with fail
          refine (Rot17 X2 _).mono ?_
          rintro e w17 ⟨rfl, rfl⟩
          go_wp2_with fail
          refine (Rot19 X2 _).mono ?_
          rintro e w19 ⟨rfl, rfl⟩
          go_wp2_with fail
          go_region
          go_wp2
          go_roundw
          case rel => exact ⟨n + 1, by omega, by go_num, by rw [HF.out]; exact HST2.out _⟩
          case measure => simp [intOf]; omega
        · have hne : n = 48 := by omega
          subst hne
          have HS2 : Hid (WS w wr (H.wAll (bAt b))) := hs
          clear hs HS
          go_wp2_with (first | (refine wp_loadArr rfl 88 _ rfl (w.heap.size + 1) 88 64 (H.wAll (bAt b)) 85 rfl HS2.out.ww Tryd.underlying88 size61 ?_; intro R hR) | (refine wp_storeArr rfl 88 _ _ rfl w.heap.size 88 64 _ (H.wAll (bAt b)) R HS2.out.rr hR rfl rfl size61 ?_; intro hfin))
          refine ret_arr 2 w.heap.size 88 64 88 85 (H.wAll (bAt b)) rfl rfl rfl hfin Tryd.underlying88 size61 ?_
          intro R2 hR2
          exact ⟨R2, rfl, hR2, below_setRow HS2.out.bel (Nat.le_refl _)⟩
end Go.Proofs.YtdifilcdiacbpaaDoor
/-
  What the program makes of a state and a block.
-/
namespace Go.Proofs.YtdifilcdiacbpaaDoor
open Go.RowKit Go.BigFrame
set_option linter.unusedVariables false

def keyL : List UInt32 := [1116352408, 1899447441, 3049323471, 3921009573, 961987163, 1508970993, 2453635748, 2870763221, 3624381080, 310598401, 607225278, 1426881987, 1925078388, 2162078206, 2614888103, 3248222580, 3835390401, 4022224774, 264347078, 604807628, 770255983, 1249150122, 1555081692, 1996064986, 2554220882, 2821834349, 2952996808, 3210313671, 3336571891, 3584528711, 113926993, 338241895, 666307205, 773529912, 1294757372, 1396182291, 1695183700, 1986661051, 2177026350, 2456956037, 2730485921, 2820302411, 3259730800, 3345764771, 3516065817, 3600352804, 4094571909, 275423344, 430227734, 506948616, 659060556, 883997877, 958139571, 1322822218, 1537002063, 1747873779, 1955562222, 2024104815, 2227730452, 2361852424, 2428436474, 2756734187, 3204031479, 3329325298]
def keyF (i : Nat) : UInt32 := keyL.getD i 0
def firstL : List UInt32 := [1779033703, 3144134277, 1013904242, 2773480762, 1359893119, 2600822924, 528734635, 1541459225]
def firstF (i : Nat) : UInt32 := firstL.getD i 0

/-- the two tables of the program, as its text lays them -/
def TabK (w : World) : Prop := ∀ i : Nat, i < 64 → w.cell? ⟨1, i, none⟩ = some (.int .u32 ((keyF i).toNat : Int))
def TabF (w : World) : Prop := ∀ i : Nat, i < 8 → w.cell? ⟨0, i, none⟩ = some (.int .u32 ((firstF i).toNat : Int))
theorem cell_pos {w : World} {g i : Nat} {v : Value} (h : w.cell? ⟨g, i, none⟩ = some v) : g < w.heap.size := by
  rcases Nat.lt_or_ge g w.heap.size with hz | hz
  · exact hz
  · simp [World.cell?, Array.getElem?_eq_none hz] at h
theorem TabK.pos {w : World} (h : TabK w) : 1 < w.heap.size := cell_pos (h 0 (by omega))
theorem TabF.pos {w : World} (h : TabF w) : 0 < w.heap.size := cell_pos (h 0 (by omega))
theorem TabK.later {w w' : World} {B : Nat} (h : TabK w) (hb : Below B w w') (hB : 1 < B) : TabK w' := fun i hi => (hb.cell (p := ⟨1, i, none⟩) hB).trans (h i hi)
theorem TabF.later {w w' : World} {B : Nat} (h : TabF w) (hb : Below B w w') (hB : 0 < B) : TabF w' := fun i hi => (hb.cell (p := ⟨0, i, none⟩) hB).trans (h i hi)

theorem Arr.below {w w' : World} {g t n B : Nat} {f : Nat → UInt32} (h : Arr w g t n f) (hb : Below B w w') (hg : g < B) : Arr w' g t n f := h.keep (hb.block g hg)

/-- the blocks of the function: the state, the result, the words -/
structure AS (w wr : World) (g : Nat) (s W : Nat → UInt32) : Prop where
  ss : Arr wr w.heap.size 96 8 s
  rr : Arr wr (w.heap.size + 1) 96 8 (fun _ => 0)
  ww : Arr wr g 88 64 W
  tt : TabK wr
  bel : Below w.heap.size w wr
theorem AS.start {w w2 : World} {Sc R : Array Value} {s W : Nat → UInt32} (hS : AggIs Sc 8 s) (hR : AggIs R 64 W) (hT : TabK w) (hb : Below ((w.alloc (.cells Sc 96)).alloc (.cells (zeros 8) 96)).heap.size ((w.alloc (.cells Sc 96)).alloc (.cells (zeros 8) 96)) w2) :
    AS w (w2.alloc (.cells R 88)) w2.heap.size s W := by
  have a1 := (Arr.agg (w := w) (t := 96) hS).alloc (.cells (zeros 8) 96)
  have a2 := Arr.agg (w := w.alloc (.cells Sc 96)) (t := 96) (AggIs.zeros 8)
  have hp := hT.pos
  have hb0 : Below w.heap.size w ((w.alloc (.cells Sc 96)).alloc (.cells (zeros 8) 96)) := ((Below.refl _ _).alloc (Nat.le_refl _) _).alloc (by simp) _
  have hs : ((w.alloc (.cells Sc 96)).alloc (.cells (zeros 8) 96)).heap.size = w.heap.size + 1 + 1 := by simp
  have hb1 := hb.size
  rw [hs] at hb hb1
  have hb2 : Below w.heap.size w w2 := hb0.trans (hb.mono (by omega))
  have hb3 := hb2.alloc (by omega) (.cells R 88)
  refine ⟨(a1.below hb (by omega)).alloc _, ?_, Arr.agg hR, hT.later hb3 hp, hb3⟩
  have a3 := (a2.below hb (by simp)).alloc (.cells R 88)
  simpa using a3
theorem AS.drewN {w wr : World} {g : Nat} {s W : Nat → UInt32} (q : AS w wr g s W) (n : Nat) : AS w (wr.drewN n) g s W := ⟨q.ss, q.rr, q.ww, q.tt, q.bel.trans ⟨rfl, rfl, rfl, Nat.le_refl _, fun _ _ => rfl⟩⟩

theorem agg8 (B : Nat → UInt32) : AggIs #[.int .u32 ((B 0).toNat : Int), .int .u32 ((B 1).toNat : Int), .int .u32 ((B 2).toNat : Int), .int .u32 ((B 3).toNat : Int), .int .u32 ((B 4).toNat : Int), .int .u32 ((B 5).toNat : Int), .int .u32 ((B 6).toNat : Int), .int .u32 ((B 7).toNat : Int)] 8 B := by
  refine ⟨rfl, fun i hi => ?_⟩
  have h8 : i = 0 ∨ i = 1 ∨ i = 2 ∨ i = 3 ∨ i = 4 ∨ i = 5 ∨ i = 6 ∨ i = 7 := by omega
  rcases h8 with rfl | rfl | rfl | rfl | rfl | rfl | rfl | rfl <;> rfl

def v32 (x : UInt32) : Value := .int .u32 (x.toNat : Int)
def AR (w : World) (g : Nat) (s W : Nat → UInt32) (va vb vc vd ve vf vg vh i : Value) (wr : World) : Prop :=
  ∃ m : Nat, m ≤ 64 ∧ i = .int .i64 m ∧ va = v32 (H.rounds s keyF W m 0) ∧ vb = v32 (H.rounds s keyF W m 1) ∧ vc = v32 (H.rounds s keyF W m 2) ∧ vd = v32 (H.rounds s keyF W m 3) ∧ ve = v32 (H.rounds s keyF W m 4) ∧ vf = v32 (H.rounds s keyF W m 5) ∧ vg = v32 (H.rounds s keyF W m 6) ∧ vh = v32 (H.rounds s keyF W m 7) ∧ AS w wr g s W

set_option maxHeartbeats 1000000 in
set_option maxRecDepth 100000 in
theorem after_any (Sc : Array Value) (s : Nat → UInt32) (b : ByteArray) (hb : b.size = 64) (w : World) (hS : AggIs Sc 8 s) (hT : TabK w) :
    Calls Tryd.prog 75 #[.agg Sc, .string b] w fun e w' => ∃ R, e = .returned (.agg R) ∧ AggIs R 8 (H.block s keyF (bAt b)) ∧ Below w.heap.size w w' := by
  have HS : Hid (AggIs Sc 8 s) := hS
  have HT : Hid (TabK w) := hT
  clear hS hT
  go_enter Tryd.func75, Tryd.ntmps75
  go_wp2_with (first | (with_reducible refine wp_alloc55 rfl rfl ?_) | (refine wp_allocArr rfl 96 8 rfl zero52 ?_))
  refine (shaWords_any b hb _).mono ?_
  rintro e w2 ⟨R, rfl, hR, hb2⟩
  have hst := AS.start HS.out hR HT.out hb2
  have HST : Hid (AS w (w2.alloc (.cells R 88)) w2.heap.size s (H.wAll (bAt b))) := hst
  have HB : Hid (H.block s keyF (bAt b) = fun j => s j + H.rounds s keyF (H.wAll (bAt b)) 64 j) := rfl
  have HR : Hid (AggIs R 64 (H.wAll (bAt b))) := hR
  generalize H.wAll (bAt b) = W at *
  have c0 := hst.ss.cell 0 (by omega)
  have c1 := hst.ss.cell 1 (by omega)
  have c2 := hst.ss.cell 2 (by omega)
  have c3 := hst.ss.cell 3 (by omega)
  have c4 := hst.ss.cell 4 (by omega)
  have c5 := hst.ss.cell 5 (by omega)
  have c6 := hst.ss.cell 6 (by omega)
  have c7 := hst.ss.cell 7 (by omega)
  clear hst hb2 hR HS HT
  go_wp2_with (first | (with_reducible refine wp_alloc55 rfl rfl ?_) | (refine wp_storeNew rfl 88 64 _ _ rfl w2 _ R W rfl (zeros_size 64) HR.out rfl rfl size61 ?_))
  simp only [Act.put, List.setIfInBounds_toArray, List.set_cons_succ, List.set_cons_zero]
  refine wp_region_quiet_lit (by kernel_rfl) (by kernel_rfl) ?_
  iterate 24 go_big_quiet_step (fail)
  refine wpQuiet_nil ?_
  rintro _ ⟨q1, rfl⟩
  generalize w2.heap.size = g at *
  generalize w2.alloc (.cells R 88) = w3 at *
  go_wp2
  go_loopw [6, 7, 8, 9, 10, 11, 12, 13, 38] (fun va vb vc vd ve vf vg vh i wr => AR w g s W va vb vc vd ve vf vg vh i wr) (fun _ _ _ _ _ _ _ _ i _ => 64 - (intOf i).toNat)
  case atStart => exact ⟨0, by omega, rfl, rfl, rfl, rfl, rfl, rfl, rfl, rfl, rfl, HST.out.drewN _⟩
  case round =>
    obtain ⟨m, hm, rfl, rfl, rfl, rfl, rfl, rfl, rfl, rfl, rfl, hs⟩ := hrel
    clear c0 c1 c2 c3 c4 c5 c6 c7 HST HR
    by_cases hlt : m < 64
    · have HRR : Hid (H.rounds s keyF W (m + 1) = H.round (H.rounds s keyF W m) (keyF m) (W m)) := rfl
      have ck := hs.tt m hlt
      have cw := hs.ww.cell m hlt
      generalize H.rounds s keyF W m = t at *
      have HA : Hid (∀ q, AS w (wr.drewN q) g s W) := fun q => hs.drewN q
      clear hs
      have r0 : H.round t (keyF m) (W m) 0 = H.one t (keyF m) (W m) + H.two t := rfl
      have r4 : H.round t (keyF m) (W m) 4 = t 3 + H.one t (keyF m) (W m) := rfl
      have r1 : H.round t (keyF m) (W m) 1 = t 0 := rfl
      have r2 : H.round t (keyF m) (W m) 2 = t 1 := rfl
      have r3 : H.round t (keyF m) (W m) 3 = t 2 := rfl
      have r5 : H.round t (keyF m) (W m) 5 = t 4 := rfl
      have r6 : H.round t (keyF m) (W m) 6 = t 5 := rfl
      have r7 : H.round t (keyF m) (W m) 7 = t 6 := rfl
      have e1 : H.one t (keyF m) (W m) = (((t 7 + H.big1 (t 4)) + H.ch (t 4) (t 5) (t 6)) + keyF m) + W m := rfl
      have e2 : H.two t = H.big0 (t 0) + H.maj (t 0) (t 1) (t 2) := rfl
      generalize H.round t (keyF m) (W m) = t' at *
      generalize H.one t (keyF m) (W m) = ONE at *
      generalize H.two t = TWO at *
      generalize keyF m = KM at *
      generalize W m = WM at *
      generalize t 0 = S0 at *
      generalize t 1 = S1 at *
      generalize t 2 = S2 at *
      generalize t 3 = S3' at *
      generalize t 4 = S4 at *
      generalize t 5 = S5 at *
      generalize t 6 = S6 at *
      generalize t 7 = S7 at *
      obtain ⟨y1, g1⟩ : ∃ x, H.rotr S4 6 ^^^ H.rotr S4 11 = x := ⟨_, rfl⟩
      obtain ⟨y2, g2⟩ : ∃ x, y1 ^^^ H.rotr S4 25 = x := ⟨_, rfl⟩
      have q2 : H.big1 S4 = y2 := by rw [← g2, ← g1]; rfl
      obtain ⟨y3, g3⟩ : ∃ x, S4 &&& S5 = x := ⟨_, rfl⟩
      obtain ⟨y4, g4⟩ : ∃ x, S4 ^^^ 4294967295 = x := ⟨_, rfl⟩
      obtain ⟨y5, g5⟩ : ∃ x, y4 &&& S6 = x := ⟨_, rfl⟩
      obtain ⟨y6, g6⟩ : ∃ x, y3 ^^^ y5 = x := ⟨_, rfl⟩
      have q6 : H.ch S4 S5 S6 = y6 := by rw [← g6, ← g5, ← g4, ← g3]; rfl
      obtain ⟨y7, g7⟩ : ∃ x, S7 + y2 = x := ⟨_, rfl⟩
      obtain ⟨y8, g8⟩ : ∃ x, y7 + y6 = x := ⟨_, rfl⟩
      obtain ⟨y9, g9⟩ : ∃ x, y8 + KM = x := ⟨_, rfl⟩
      have g10 : y9 + WM = ONE := by rw [e1, q2, q6, g7, g8, g9]
      obtain ⟨z1, k1⟩ : ∃ x, H.rotr S0 2 ^^^ H.rotr S0 13 = x := ⟨_, rfl⟩
      obtain ⟨z2, k2⟩ : ∃ x, z1 ^^^ H.rotr S0 22 = x := ⟨_, rfl⟩
      have q3 : H.big0 S0 = z2 := by rw [← k2, ← k1]; rfl
      obtain ⟨z3, k3⟩ : ∃ x, S0 &&& S1 = x := ⟨_, rfl⟩
      obtain ⟨z4, k4⟩ : ∃ x, S0 &&& S2 = x := ⟨_, rfl⟩
      obtain ⟨z5, k5⟩ : ∃ x, z3 ^^^ z4 = x := ⟨_, rfl⟩
      obtain ⟨z6, k6⟩ : ∃ x, S1 &&& S2 = x := ⟨_, rfl⟩
      obtain ⟨z7, k7⟩ : ∃ x, z5 ^^^ z6 = x := ⟨_, rfl⟩
      have q7 : H.maj S0 S1 S2 = z7 := by rw [← k7, ← k6, ← k5, ← k4, ← k3]; rfl
      obtain ⟨z8, k8⟩ : ∃ x, ONE + z2 = x := ⟨_, rfl⟩
      have k9 : z8 + z7 = t' 0 := by rw [r0, e2, q3, q7, ← k8, UInt32.add_assoc]
      have k10 : S3' + ONE = t' 4 := r4.symm
      have bg1 := bx' g1
      have bg2 := bx' g2
      have bg3 := ba' g3
      have bg4 : bits .xor .u32 IntKind.u32.max (S4.toNat : Int) = (y4.toNat : Int) := by rw [← g4, UInt32.xor_comm]; exact H.bx 4294967295 S4
      have sg : IntKind.u32.signed = false := rfl
      have bg5 := ba' g5
      have bg6 := bx' g6
      have bg7 := badd' g7
      have bg8 := badd' g8
      have bg9 := badd' g9
      have bg10 := badd' g10
      have bk1 := bx' k1
      have bk2 := bx' k2
      have bk3 := ba' k3
      have bk4 := ba' k4
      have bk5 := bx' k5
      have bk6 := ba' k6
      have bk7 := bx' k7
      have bk8 := badd' k8
      have HV : Hid ((t' 1 = S0 ∧ t' 2 = S1) ∧ (t' 3 = S2 ∧ t' 5 = S4) ∧ (t' 6 = S5 ∧ t' 7 = S6)) := ⟨⟨r1, r2⟩, ⟨r3, r5⟩, ⟨r6, r7⟩⟩
      obtain ⟨N0, hN0⟩ : ∃ x, t' 0 = x := ⟨_, rfl⟩
      obtain ⟨N4, hN4⟩ : ∃ x, t' 4 = x := ⟨_, rfl⟩
      rw [hN0] at k9
      rw [hN4] at k10
      have bN0 := badd' k9
      have bN4 := badd' k10
      have HN : Hid (t' 0 = N0 ∧ t' 4 = N4) := ⟨hN0, hN4⟩
      clear g1 g2 g3 g4 g5 g6 g7 g8 g9 g10 k1 k2 k3 k4 k5 k6 k7 k8 k9 k10 hN4 hN0 e1 e2 q2 q3 q6 q7 r0 r1 r2 r3 r4 r5 r6 r7
      have i8 : (m : Int) < 64 := by omega
      have i9 : (0 : Int) ≤ (m : Int) := by omega
      unfold v32
      go_wp2_with fail
      refine (Rot6 S4 _).mono ?_
      rintro e w6 ⟨rfl, rfl⟩
      go_wp2_with fail
      refine (Rot11 S4 _).mono ?_
      rintro e w11 ⟨rfl, rfl⟩
      go_wp2_with fail
      refine (Rot25 S4 _).mono ?_
      rintro e w25 ⟨rfl, rfl⟩
      go_wp2_with fail
      refine wp_region_quiet_lit (by kernel_rfl) (by kernel_rfl) ?_
      iterate 14 go_big_quiet_step (fail)
      refine wpQuiet_nil ?_
      rintro _ ⟨q2, rfl⟩
      go_wp2_with fail
      refine (Rot2 S0 _).mono ?_
      rintro e w2 ⟨rfl, rfl⟩
      go_wp2_with fail
      refine (Rot13 S0 _).mono ?_
      rintro e w13 ⟨rfl, rfl⟩
      go_wp2_with fail
      refine (Rot22 S0 _).mono ?_
      rintro e w22 ⟨rfl, rfl⟩
      go_wp2_with fail
      go_roundw
      case rel =>
        refine ⟨m + 1, by omega, by go_num, ?_, ?_, ?_, ?_, ?_, ?_, ?_, ?_, HA.out _⟩
        · rw [HRR.out, HN.out.1, v32, ← bN0]
        · rw [HRR.out, HV.out.1.1]; rfl
        · rw [HRR.out, HV.out.1.2]; rfl
        · rw [HRR.out, HV.out.2.1.1]; rfl
        · rw [HRR.out, HN.out.2, v32, ← bN4]
        · rw [HRR.out, HV.out.2.1.2]; rfl
        · rw [HRR.out, HV.out.2.2.1]; rfl
        · rw [HRR.out, HV.out.2.2.2]; rfl
      case measure => simp [intOf]; omega
    · have hme : m = 64 := by omega
      subst hme
      have HS5 : Hid (AS w wr g s W) := hs
      have c0 := hs.ss.cell 0 (by omega)
      have c1 := hs.ss.cell 1 (by omega)
      have c2 := hs.ss.cell 2 (by omega)
      have c3 := hs.ss.cell 3 (by omega)
      have c4 := hs.ss.cell 4 (by omega)
      have c5 := hs.ss.cell 5 (by omega)
      have c6 := hs.ss.cell 6 (by omega)
      have c7 := hs.ss.cell 7 (by omega)
      clear hs
      have HB2 : Hid (∀ j, s j + H.rounds s keyF W 64 j = H.block s keyF (bAt b) j) := fun j => by rw [HB.out]
      generalize H.rounds s keyF W 64 = t at *
      obtain ⟨B, hB⟩ : ∃ B, H.block s keyF (bAt b) = B := ⟨_, rfl⟩
      rw [hB] at HB2
      have HBB : Hid (H.block s keyF (bAt b) = B) := hB
      clear hB
      have b0 := badd' (HB2.out 0)
      have b1 := badd' (HB2.out 1)
      have b2 := badd' (HB2.out 2)
      have b3 := badd' (HB2.out 3)
      have b4 := badd' (HB2.out 4)
      have b5 := badd' (HB2.out 5)
      have b6 := badd' (HB2.out 6)
      have b7 := badd' (HB2.out 7)
      have HAG : Hid (AggIs #[.int .u32 ((B 0).toNat : Int), .int .u32 ((B 1).toNat : Int), .int .u32 ((B 2).toNat : Int), .int .u32 ((B 3).toNat : Int), .int .u32 ((B 4).toNat : Int), .int .u32 ((B 5).toNat : Int), .int .u32 ((B 6).toNat : Int), .int .u32 ((B 7).toNat : Int)] 8 B) := agg8 B
      unfold v32
      go_wp2_with (refine wp_storeArr rfl 96 _ _ rfl (w.heap.size + 1) 96 8 _ B _ HS5.out.rr HAG.out rfl rfl size52 ?_; intro hfin)
      refine ret_arr 4 (w.heap.size + 1) 96 8 96 85 B rfl rfl rfl hfin Tryd.underlying96 size52 ?_
      intro R2 hR2
      exact ⟨R2, rfl, by rw [HBB.out]; exact hR2, below_setRow HS5.out.bel (by omega)⟩
end Go.Proofs.YtdifilcdiacbpaaDoor
/-
  What Hex answers, the program's and the specification's: two figures for each byte.
-/
namespace Go.Proofs.YtdifilcdiacbpaaDoor
open Go.RowKit
set_option linter.unusedVariables false

/-- the figure of a number below 16 -/
def fig (x : Nat) : UInt8 := if x < 10 then UInt8.ofNat (48 + x) else UInt8.ofNat (87 + x)
def hexL (l : List UInt8) : List UInt8 := l.flatMap (fun b => [fig (b.toNat / 16), fig (b.toNat % 16)])

theorem fig_nat (x : Nat) (h : x < 16) : (fig x).toNat = if x < 10 then 48 + x else 87 + x := by
  unfold fig
  split <;> simp <;> omega

theorem l01Figure_any (x : Nat) (w : World) (h : x < 16) :
    Calls Tryd.prog 44 #[.int .i64 x] w fun e w' => e = .returned (.int .u8 (fig x).toNat) ∧ w' = w := by
  have hf := fig_nat x h
  by_cases hx : x < 10
  · rw [if_pos hx] at hf
    rw [hf]
    go_enter Tryd.func44, Tryd.ntmps44
    go_wp2
    go_ret
    exact ⟨by go_num, rfl⟩
  · rw [if_neg hx] at hf
    rw [hf]
    go_enter Tryd.func44, Tryd.ntmps44
    go_wp2
    go_ret
    exact ⟨by go_num, rfl⟩

theorem step_app {w : World} {ops : Array Oper} {o : Oper} {a : Act} {K : Act → World → Prop} {Q : Exit → Act → World → Prop} {E : Prop} (hg : o.guard = none) (s x : Operand)
    (hop : o.op = .call { callee := .builtin .append, args := #[s, x], argTypes := #[22, 22] })
    (B : Nat) (w0 : World) (v : Value) (l : List UInt8) (hs : a.eval s = v) (hown : OB B w0 w v l)
    (ad : Addr) (m c : Nat) (news : List UInt8) (hx : a.eval x = .slice (some ad) m c) (hm : news.length = m)
    (hnews : ∀ j u, (bv news)[j]? = some u → w.cell? (ad.add j) = some u) (hlen : l.length + m ≤ 1000000000)
    (hK : ∀ v' w', OB B w0 w' v' (l ++ news) → K (a.put o.dst v') w') : if Region.wanted o (yielded ops a.tmps) = true then Oper.wp Tryd.prog o a w K Q else E := by
  obtain ⟨i0, hi, hz0, hz1, hz2⟩ := info_parts Tryd.info5
  obtain ⟨v', w', hrun, h1, h2, _⟩ := run_append_own (P := Tryd.prog) w B 22 o.type 5 i0 (.int .u8 0) 1 1 Tryd.underlying22 hi hz0 hz1 hz2 rfl (by decide) v l.length (bv l) hown.1 ad m c (bv news) (by simp [bv, hm]) hnews
    (fun u hu => by simp [bv] at hu; obtain ⟨b, _, rfl⟩ := hu; rfl) (by unfold maxLen; omega) (by omega) hown.2.2
  have hOB : OB B w0 w' v' (l ++ news) := ⟨by rw [List.length_append, bv_append, hm]; exact h1, hown.2.1.grown h2 hown.2.2 (fun k hk => (hown.1.lt k hk).1), Nat.le_trans hown.2.2 h2.size⟩
  have hw : Region.wanted o (yielded ops a.tmps) = true := by simp [Region.wanted, hg]
  rw [if_pos hw]
  unfold Oper.wp
  simp [execOp, hop, resolve, invoke, builtin, hs, hx, hrun, Result.andThen]
  exact hK v' w' hOB

theorem two_bytes (w : World) (x y : Int) (b c : UInt8) (t : TypeId) (hx : x = (b.toNat : Int)) (hy : y = (c.toNat : Int)) : ∀ j u, (bv [b, c])[j]? = some u → (w.alloc (.cells #[.int .u8 x, .int .u8 y] t)).cell? ((⟨w.heap.size, 0, none⟩ : Addr).add j) = some u := by
  intro j u hj
  obtain ⟨hj', rfl⟩ := bv_get _ _ _ hj
  subst hx
  subst hy
  have h0 : j = 0 ∨ j = 1 := by simp at hj'; omega
  rcases h0 with rfl | rfl <;> simp [Addr.add]

/-- 'make([]byte, 0, n)' -/
theorem run_mk (n : Nat) (h : n ≤ 1000000000) (W : World) : ∃ M : Array Value, (Instr.makeSlice 22 (.int .i64 0) (.int .i64 (n : Int))).run Tryd.prog W = .ok (.slice (some ⟨W.heap.size, 0, none⟩) 0 n) (W.alloc (.cells M 5)) ∧ OB W.heap.size W (W.alloc (.cells M 5)) (.slice (some ⟨W.heap.size, 0, none⟩) 0 n) [] := by
  obtain ⟨i0, hi, hz0, hz1, hz2⟩ := info_parts Tryd.info5
  have h1 := run_make (P := Tryd.prog) W 22 5 i0 (.int .u8 0) Tryd.underlying22 hi hz0 .i64 .i64 0 (n : Int) (by omega) (by omega) (by rw [hz2]; omega) (by omega)
  refine ⟨madeCells (Value.int .u8 0).cells (((n : Nat) : Int).toNat * i0.size), by simpa using h1, ?_⟩
  refine ⟨World.ownsRow_made W _ n (Nat.le_refl _) (by unfold maxLen; omega) ?_, (Below.refl _ _).alloc (Nat.le_refl _) _, by simp⟩
  rw [size_madeCells, hz1]
  simp

def figs : ByteArray := ⟨#[48, 49, 50, 51, 52, 53, 54, 55, 56, 57, 97, 98, 99, 100, 101, 102]⟩
theorem figs_at : ∀ x : Fin 16, figs[x.val]? = some (fig x.val) := by decide
theorem run_fig (x : Int) (h0 : 0 ≤ x) (h1 : x < 16) (w : World) : (Instr.index 9 (.string ⟨#[48, 49, 50, 51, 52, 53, 54, 55, 56, 57, 97, 98, 99, 100, 101, 102]⟩) (.int .u8 x)).run Tryd.prog w = .ok (.int .u8 ((fig x.toNat).toNat : Int)) w := by
  obtain ⟨n, rfl⟩ := Int.eq_ofNat_of_zero_le h0
  have h2 := figs_at ⟨n, by omega⟩
  have h3 : figs.size = 16 := rfl
  show (Instr.index 9 (.string figs) (.int .u8 (n : Int))).run Tryd.prog w = _
  rw [run_index_string (P := Tryd.prog) (w := w) 9 figs .u8 _ Tryd.underlying9]
  rw [dif_pos ⟨by omega, by rw [h3]; omega⟩]
  simp only [Int.toNat_natCast] at h2 ⊢
  have h4 : figs[n]? = some (figs[n]'(by rw [h3]; omega)) := getElem?_pos ..
  rw [h4] at h2
  simp only [Option.some.injEq] at h2
  rw [h2]

end Go.Proofs.YtdifilcdiacbpaaDoor
/-
  The first numbers and the keys, the program's and the specification's; a state in bytes.
-/
namespace Go.Proofs.YtdifilcdiacbpaaDoor
open Go.RowKit Go.BigFrame
set_option linter.unusedVariables false

theorem toNat_lit (n : Nat) (h : n < 4294967296) : ((UInt32.ofNat n).toNat : Int) = (n : Int) := by rw [H.toNat_of n h]

set_option maxRecDepth 100000 in
set_option maxHeartbeats 400000 in
theorem l03First_any (w : World) : Calls Tryd.prog 63 #[] w fun e w' => ∃ R, e = .returned (.agg R) ∧ AggIs R 8 firstF ∧ Below w.heap.size w w' := by
  have HAG : Hid (AggIs #[.int .u32 1779033703, .int .u32 3144134277, .int .u32 1013904242, .int .u32 2773480762, .int .u32 1359893119, .int .u32 2600822924, .int .u32 528734635, .int .u32 1541459225] 8 firstF) := agg8 firstF
  go_enter Tryd.func63, Tryd.ntmps63
  go_wp2_with (first | (with_reducible refine wp_alloc50 rfl rfl ?_) | (refine wp_storeArr rfl 86 _ _ rfl w.heap.size 86 8 _ firstF _ (Arr.agg (AggIs.zeros 8)) HAG.out rfl rfl size51 ?_; intro hfin))
  refine ret_arr 0 w.heap.size 86 8 86 85 firstF rfl rfl rfl hfin Tryd.underlying86 size51 ?_
  intro R2 hR2
  exact ⟨R2, rfl, hR2, below_setRow ((Below.refl _ _).alloc (Nat.le_refl _) _) (Nat.le_refl _)⟩

def B1 (w : World) (i : Value) (wr : World) : Prop := ∃ (m : Nat) (f : Nat → UInt32), m ≤ 8 ∧ i = .int .i64 m ∧ Arr wr w.heap.size 96 8 (fun _ => 0) ∧ Arr wr (w.heap.size + 1) 96 8 f ∧ (∀ i, i < m → f i = firstF i) ∧ TabF wr ∧ Below w.heap.size w wr

set_option maxRecDepth 100000 in
set_option maxHeartbeats 400000 in
theorem shaBegin_any (w : World) (hT : TabF w) : Calls Tryd.prog 74 #[] w fun e w' => ∃ R, e = .returned (.agg R) ∧ AggIs R 8 firstF ∧ Below w.heap.size w w' := by
  have hp := hT.pos
  have hb0 : Below w.heap.size w ((w.alloc (.cells (zeros 8) 96)).alloc (.cells (zeros 8) 96)) := ((Below.refl _ _).alloc (Nat.le_refl _) _).alloc (by simp) _
  have a2 := Arr.agg (w := w.alloc (.cells (zeros 8) 96)) (t := 96) (AggIs.zeros 8)
  have HST : Hid (B1 w (.int .i64 0) ((w.alloc (.cells (zeros 8) 96)).alloc (.cells (zeros 8) 96))) := ⟨0, fun _ => 0, by omega, rfl, (Arr.agg (AggIs.zeros 8)).alloc _, by simpa using a2, fun i hi => absurd hi (by omega), hT.later hb0 hp, hb0⟩
  clear a2 hb0 hT
  go_enter Tryd.func74, Tryd.ntmps74
  go_wp2_with (refine wp_allocArr rfl 96 8 rfl zero52 ?_)
  generalize ((w.alloc (.cells (zeros 8) 96)).alloc (.cells (zeros 8) 96)) = w1 at *
  go_loopw [3] (fun i wr => B1 w i wr) (fun i _ => 8 - (intOf i).toNat)
  case atStart => exact HST.out
  case round =>
    obtain ⟨m, f, hm, rfl, ha, hf, he, ht, hbel⟩ := hrel
    by_cases hlt : m < 8
    · have c0 := hf.cell m hlt
      have f0 := hf.frozen m
      have c1 := ht m hlt
      have HN : Hid (B1 w (.int .i64 ((m + 1 : Nat) : Int)) (wr.setCell ⟨w.heap.size + 1, m, none⟩ (.int .u32 ((firstF m).toNat : Int)))) := by
        have hb2 : Below w.heap.size w (wr.setCell ⟨w.heap.size + 1, m, none⟩ (.int .u32 ((firstF m).toNat : Int))) := hbel.setCell (p := ⟨w.heap.size + 1, m, none⟩) (by show w.heap.size ≤ w.heap.size + 1; omega) _
        refine ⟨m + 1, H.upd f m (firstF m), by omega, rfl, ha.other _ _ _ (by omega), hf.set m hlt _, fun i hi => ?_, fun i hi => ?_, hb2⟩
        · unfold H.upd
          by_cases h1 : i = m
          · rw [if_pos h1, h1]
          · rw [if_neg h1]; exact he i (by omega)
        · rw [World.cell?_setCell_other _ _ _ _ (by simp)]
          exact ht i hi
      generalize firstF m = X at *
      clear HST ha hf he ht hbel
      have i8 : (m : Int) < 8 := by omega
      have i9 : (0 : Int) ≤ (m : Int) := by omega
      go_wp2
      go_roundw
      case rel =>
        have h1 := HN.out
        have e1 : (((m + 1 : Nat)) : Int) = (m : Int) + 1 := by omega
        rw [e1] at h1
        exact h1
      case measure => simp [intOf]; omega
    · have hme : m = 8 := by omega
      subst hme
      have HF : Hid (Arr wr (w.heap.size + 1) 96 8 firstF) := hf.congr he
      have HR : Hid (Arr wr w.heap.size 96 8 (fun _ => 0)) := ha
      clear ha hf he ht HST
      go_wp2_with (first | (refine wp_loadArr rfl 96 _ rfl (w.heap.size + 1) 96 8 firstF 85 rfl HF.out Tryd.underlying96 size52 ?_; intro R hR) | (refine wp_storeArr rfl 96 _ _ rfl w.heap.size 96 8 _ firstF R HR.out hR rfl rfl size52 ?_; intro hfin))
      refine ret_arr 0 w.heap.size 96 8 96 85 firstF rfl rfl rfl hfin Tryd.underlying96 size52 ?_
      intro R2 hR2
      exact ⟨R2, rfl, hR2, below_setRow hbel (Nat.le_refl _)⟩

theorem agg_of (l : List UInt32) (n : Nat) (hn : l.length = n) : AggIs (l.map fun x => Value.int .u32 (x.toNat : Int)).toArray n (fun i => l.getD i 0) := by
  subst hn
  refine ⟨by simp, fun i hi => ?_⟩
  simp [List.getD, hi]

def keyA : Array Value := #[.int .u32 1116352408, .int .u32 1899447441, .int .u32 3049323471, .int .u32 3921009573, .int .u32 961987163, .int .u32 1508970993, .int .u32 2453635748, .int .u32 2870763221, .int .u32 3624381080, .int .u32 310598401, .int .u32 607225278, .int .u32 1426881987, .int .u32 1925078388, .int .u32 2162078206, .int .u32 2614888103, .int .u32 3248222580, .int .u32 3835390401, .int .u32 4022224774, .int .u32 264347078, .int .u32 604807628, .int .u32 770255983, .int .u32 1249150122, .int .u32 1555081692, .int .u32 1996064986, .int .u32 2554220882, .int .u32 2821834349, .int .u32 2952996808, .int .u32 3210313671, .int .u32 3336571891, .int .u32 3584528711, .int .u32 113926993, .int .u32 338241895, .int .u32 666307205, .int .u32 773529912, .int .u32 1294757372, .int .u32 1396182291, .int .u32 1695183700, .int .u32 1986661051, .int .u32 2177026350, .int .u32 2456956037, .int .u32 2730485921, .int .u32 2820302411, .int .u32 3259730800, .int .u32 3345764771, .int .u32 3516065817, .int .u32 3600352804, .int .u32 4094571909, .int .u32 275423344, .int .u32 430227734, .int .u32 506948616, .int .u32 659060556, .int .u32 883997877, .int .u32 958139571, .int .u32 1322822218, .int .u32 1537002063, .int .u32 1747873779, .int .u32 1955562222, .int .u32 2024104815, .int .u32 2227730452, .int .u32 2361852424, .int .u32 2428436474, .int .u32 2756734187, .int .u32 3204031479, .int .u32 3329325298]
theorem keyA_is : AggIs keyA 64 keyF := agg_of keyL 64 rfl
theorem zero61 : (Tryd.prog.info? 88).map (fun i => (i.zero, i.size)) = some (some (.agg (zeros 64)), 64) := by kernel_rfl

set_option maxRecDepth 100000 in
set_option maxHeartbeats 1000000 in
theorem l03Keys_any (w : World) : Calls Tryd.prog 64 #[] w fun e w' => ∃ R, e = .returned (.agg R) ∧ AggIs R 64 keyF ∧ Below w.heap.size w w' := by
  go_enter Tryd.func64, Tryd.ntmps64
  go_wp2_with (first | (with_reducible refine wp_alloc55 rfl rfl ?_) | (refine wp_storeArr rfl 88 _ _ rfl w.heap.size 88 64 _ keyF keyA (Arr.agg (AggIs.zeros 64)) keyA_is rfl rfl size61 ?_; intro hfin))
  refine ret_arr 0 w.heap.size 88 64 88 85 keyF rfl rfl rfl hfin Tryd.underlying88 size61 ?_
  intro R2 hR2
  exact ⟨R2, rfl, hR2, below_setRow ((Below.refl _ _).alloc (Nat.le_refl _) _) (Nat.le_refl _)⟩
end Go.Proofs.YtdifilcdiacbpaaDoor
/-
  A state in bytes.
-/
namespace Go.Proofs.YtdifilcdiacbpaaDoor
open Go.RowKit Go.BigFrame
set_option linter.unusedVariables false

def be4 (x : UInt32) : List UInt8 := [UInt8.ofNat (x.toNat / 16777216), UInt8.ofNat (x.toNat / 65536), UInt8.ofNat (x.toNat / 256), UInt8.ofNat x.toNat]
def digL (s : Nat → UInt32) (k : Nat) : List UInt8 := (List.range k).flatMap (fun i => be4 (s i))
theorem digL_succ (s : Nat → UInt32) (k : Nat) : digL s (k + 1) = digL s k ++ be4 (s k) := by simp [digL, List.range_succ]
theorem digL_len (s : Nat → UInt32) (k : Nat) : (digL s k).length = 4 * k := by
  induction k with
  | zero => rfl
  | succ k ih => rw [digL_succ, List.length_append, ih]; rfl

theorem run_aggAt {R : Array Value} {s : Nat → UInt32} (hR : AggIs R 8 s) (m : Nat) (hm : m < 8) (W : World) : (Instr.index 96 (.agg R) (.int .i64 (m : Int))).run Tryd.prog W = .ok (.int .u32 ((s m).toNat : Int)) W := by
  have h1 := hR.2 m hm
  simp [Instr.index, run_underlying Tryd.underlying96, asIntOf, go_sem, hm, h1]
theorem four_cells (w : World) (x0 x1 x2 x3 : Int) (X : UInt32) (t : TypeId) (h0 : x0 = (X.toNat : Int) / 16777216 % 256) (h1 : x1 = (X.toNat : Int) / 65536 % 256) (h2 : x2 = (X.toNat : Int) / 256 % 256) (h3 : x3 = (X.toNat : Int) % 256) :
    ∀ j u, (bv (be4 X))[j]? = some u → (w.alloc (.cells #[.int .u8 x0, .int .u8 x1, .int .u8 x2, .int .u8 x3] t)).cell? ((⟨w.heap.size, 0, none⟩ : Addr).add j) = some u := by
  intro j u hj
  obtain ⟨hj', rfl⟩ := bv_get _ _ _ hj
  subst h0 h1 h2 h3
  have h4 : j = 0 ∨ j = 1 ∨ j = 2 ∨ j = 3 := by simp [be4] at hj'; omega
  rcases h4 with rfl | rfl | rfl | rfl <;> simp [Addr.add, be4]
def IR (w w1 : World) (s : Nat → UInt32) (v i : Value) (wr : World) : Prop := ∃ m : Nat, m ≤ 8 ∧ i = .int .i64 m ∧ OB (w.heap.size + 1) w1 wr v (digL s m)

set_option maxRecDepth 100000 in
set_option maxHeartbeats 400000 in
theorem inBytes_any (Sc : Array Value) (s : Nat → UInt32) (w : World) (hS : AggIs Sc 8 s) :
    Calls Tryd.prog 76 #[.agg Sc] w fun e w' => e = .returned (.string ⟨(digL s 8).toArray⟩) ∧ Below w.heap.size w w' := by
  obtain ⟨M, hmk, hob⟩ := run_mk 32 (by omega) (w.alloc (.cells Sc 96))
  have hmk' : (Instr.makeSlice 22 (.int .i64 0) (.int .i64 32)).run Tryd.prog (w.alloc (.cells Sc 96)) = _ := hmk
  clear hmk
  have ha := (Arr.agg (w := w) (t := 96) hS).alloc (.cells M 5)
  have HA : Hid (Arr ((w.alloc (.cells Sc 96)).alloc (.cells M 5)) w.heap.size 96 8 s) := ha
  clear ha
  go_enter Tryd.func76, Tryd.ntmps76
  go_wp2_with (refine wp_loadArr rfl 96 _ rfl w.heap.size 96 8 s 85 rfl HA.out Tryd.underlying96 size52 ?_; intro R hR)
  have hsz : (w.alloc (.cells Sc 96)).heap.size = w.heap.size + 1 := by simp
  rw [hsz] at hob
  have HOB : Hid (OB (w.heap.size + 1) (w.alloc (.cells Sc 96)) ((w.alloc (.cells Sc 96)).alloc (.cells M 5)) (.slice (some ⟨w.heap.size + 1, 0, none⟩) 0 32) []) := hob
  have HR : Hid (AggIs R 8 s) := hR
  have HB : Hid (Below w.heap.size w (w.alloc (.cells Sc 96))) := (Below.refl _ _).alloc (Nat.le_refl _) _
  clear hob hmk' HA hR hsz
  generalize (w.alloc (.cells Sc 96)).alloc (.cells M 5) = w2 at *
  generalize w.alloc (.cells Sc 96) = w1 at *
  go_loopw [3, 8] (fun v i wr => IR w w1 s v i wr) (fun _ i _ => 8 - (intOf i).toNat)
  case atStart => exact ⟨0, by omega, rfl, HOB.out⟩
  case round =>
    obtain ⟨m, hm, rfl, hown⟩ := hrel
    have hl := digL_len s m
    by_cases hlt : m < 8
    · have hix := run_aggAt HR.out m hlt
      have hD := digL_succ s m
      have hx := H.u32_lt (s m)
      have HD : Hid (digL s (m + 1) = digL s m ++ be4 (s m)) := hD
      clear hD
      generalize s m = X at *
      have i9 : (0 : Int) ≤ (m : Int) := by omega
      go_wp2_with (at_builtin; refine wp_app rfl _ _ rfl (w.heap.size + 1) w1 _ (digL s m) rfl (hown.alloc _) ⟨_, 0, none⟩ 4 4 (be4 X) rfl rfl ?c1 ?c2 ?_)
      case c1 => exact four_cells _ _ _ _ _ X _ (by omega) (by omega) (by omega) (by omega)
      case c2 => omega
      intro v5 w5 hown5
      rw [← HD.out] at hown5
      go_wp2
      go_roundw
      case rel => exact ⟨m + 1, by omega, by go_num, hown5⟩
      case measure => simp [intOf]; omega
    · have hme : m = 8 := by omega
      subst hme
      have hcv := run_str hown
      clear HOB
      go_wp2
      go_ret
      exact ⟨rfl, HB.out.trans (hown.2.1.mono (by omega))⟩
end Go.Proofs.YtdifilcdiacbpaaDoor
/-
  What Digest answers, in plain words.
-/
namespace Go.Proofs.YtdifilcdiacbpaaDoor
open Go.RowKit Go.BigFrame
set_option linter.unusedVariables false

/-- the state behind the first so many blocks -/
def stN (p : ByteArray) : Nat → Nat → UInt32
  | 0 => firstF
  | k + 1 => H.block (stN p k) keyF (bAt (p.extract (64 * k) (64 * k + 64)))
def padB (t : ByteArray) : ByteArray := ⟨(padL t.data.toList).toArray⟩
def nbl (t : ByteArray) : Nat := (t.size + 72) / 64
def digB (t : ByteArray) : ByteArray := ⟨(digL (stN (padB t) (nbl t)) 8).toArray⟩
theorem padB_size (t : ByteArray) : (padB t).size = nbl t * 64 := by
  have h1 : (padB t).data.toList.length = (padB t).size := Array.length_toList
  have h2 : t.data.toList.length = t.size := Array.length_toList
  have h3 := padL_blocks t.data.toList
  rw [h2] at h3
  rw [← h1]
  simpa [padB, nbl] using h3
theorem digB_size (t : ByteArray) : (digB t).size = 32 := by
  have h1 : (digB t).data.toList.length = (digB t).size := Array.length_toList
  rw [← h1]
  simp [digB, digL_len]

section
variable {w : World} {ops : Array Oper} {rest : List Oper} {o : Oper} {a : Act} {Q : Act → Prop}
theorem still_loadArr (hgd : o.guard = none) (ty : TypeId) (p : Operand) (ho : o.op = .load ty p) (g t n : Nat) (f : Nat → UInt32) (e : TypeId) (hp : a.eval p = .pointer (some ⟨g, 0, none⟩)) (hA : Arr w g t n f)
    (hu : Tryd.prog.underlying ty = some (.array n e)) (hi : (Tryd.prog.info? ty).map (·.size) = some n)
    (h : ∀ R, AggIs R n f → wpStill Tryd.prog ops w Q rest (a.put o.dst (.agg R))) : wpStill Tryd.prog ops w Q (o :: rest) a := by
  refine wpStill_step fun K hK => ?_
  obtain ⟨R, hr, hR⟩ := run_loadArr ty e hu hi hA
  have hw : Region.wanted o (yielded ops a.tmps) = true := by simp [Region.wanted, hgd]
  rw [if_pos hw]
  unfold Oper.still
  simp [execOp, ho, hp, hr, Result.andThen, Oper.stillUpon]
  exact hK _ (h R hR)
end

def DR (w : World) (t : ByteArray) (g : Nat) (i : Value) (wr : World) : Prop := ∃ k : Nat, k ≤ nbl t ∧ i = .int .i64 k ∧ Arr wr g 96 8 (stN (padB t) k) ∧ TabK wr ∧ Below w.heap.size w wr

set_option maxRecDepth 100000 in
set_option maxHeartbeats 400000 in
theorem Digest_any (t : ByteArray) (w : World) (ht : t.size ≤ 1048576) (hK : TabK w) (hF : TabF w) :
    Calls Tryd.prog 56 #[.string t] w fun e w' => e = .returned (.string (digB t)) ∧ Below w.heap.size w w' := by
  have hpz := padB_size t
  have hkp := hK.pos
  have hfp := hF.pos
  have hnb : nbl t ≤ 20000 := by unfold nbl; omega
  have HK : Hid (TabK w) := hK
  have HF : Hid (TabF w) := hF
  have HD : Hid (digB t = ⟨(digL (stN (padB t) (nbl t)) 8).toArray⟩) := rfl
  have hPT : Calls Tryd.prog 73 #[.string t] w fun e w' => e = .returned (.string (padB t)) ∧ Below w.heap.size w w' := PadText_any t w ht
  clear hK hF
  generalize digB t = D at *
  go_enter Tryd.func56, Tryd.ntmps56
  go_wp2_with fail
  refine hPT.mono ?_
  rintro e w1 ⟨rfl, hb1⟩
  clear hPT
  go_wp2_with fail
  refine (shaBegin_any w1 (HF.out.later hb1 hfp)).mono ?_
  rintro e w2 ⟨R, rfl, hR, hb2⟩
  go_wp2_with (first | (refine wp_allocArr rfl 96 8 rfl zero52 ?_) | (refine wp_storeNew rfl 96 8 _ _ rfl w2 _ R firstF rfl (zeros_size 8) hR rfl rfl size52 ?_))
  have hs1 := hb1.size
  have hs2 := hb2.size
  have hb3 : Below w.heap.size w (w2.alloc (.cells R 96)) := (hb1.trans (hb2.mono hs1)).alloc (by omega) _
  have HST : Hid (DR w t w2.heap.size (.int .i64 0) (w2.alloc (.cells R 96))) := ⟨0, by omega, rfl, Arr.agg hR, HK.out.later hb3 hkp, hb3⟩
  have hg : w.heap.size ≤ w2.heap.size := by omega
  generalize w2.alloc (.cells R 96) = w3 at *
  generalize w2.heap.size = g at *
  clear hb1 hb2 hb3 hR hs1 hs2 HK HF
  go_loopw [12] (fun i wr => DR w t g i wr) (fun i _ => nbl t - (intOf i).toNat)
  case atStart => exact HST.out
  case round =>
    obtain ⟨k, hk, rfl, ha, hT, hbel⟩ := hrel
    clear HST
    by_cases hlt : k < nbl t
    · obtain ⟨c, hc⟩ : ∃ c, (padB t).extract (64 * k) (64 * k + 64) = c := ⟨_, rfl⟩
      have hcz : c.size = 64 := by rw [← hc, ByteArray.size_extract]; omega
      have hcut := run_cut (padB t) ((k : Int) * 64) (((k : Int) + 1) * 64) (64 * k) (64 * k + 64) (by omega) (by omega) (by omega) (by omega)
      rw [hc] at hcut
      have HN : Hid (stN (padB t) (k + 1) = H.block (stN (padB t) k) keyF (bAt c)) := by rw [← hc]; rfl
      clear hc
      have wr1 : IntKind.i64.wrap ((k : Int) * 64) = (k : Int) * 64 := IntWalk.i64_in _ (by omega)
      have wr2 : IntKind.i64.wrap ((k : Int) + 1) = (k : Int) + 1 := IntWalk.i64_in _ (by omega)
      have wr3 : IntKind.i64.wrap (((k : Int) + 1) * 64) = ((k : Int) + 1) * 64 := IntWalk.i64_in _ (by omega)
      generalize stN (padB t) k = S at *
      have HA : Hid (Arr wr g 96 8 S ∧ TabK wr) := ⟨ha, hT⟩
      have hgs := ha.lt
      clear ha hT
      go_wp2
      refine wp_region_still_tail 8 (by kernel_rfl) (by kernel_rfl) ?_
      simp only [List.take_succ_cons, List.take_zero, List.drop_succ_cons, List.drop_zero]
      refine still_loadArr rfl 96 _ rfl g 96 8 S 85 rfl (HA.out.1.drewN 1) Tryd.underlying96 size52 ?_
      intro R1 hR1
      iterate 7 still_step
      refine wpStill_nil ?_
      go_wp2_with fail
      refine (after_any R1 S c hcz wr.drew hR1 (fun i hi => HA.out.2 i hi)).mono ?_
      rintro e w5 ⟨R2, rfl, hR2, hb5⟩
      have ha5 : Arr w5 g 96 8 S := Arr.below (w := wr.drew) (HA.out.1.drewN 1) hb5 hgs
      go_wp2_with (refine wp_storeArr rfl 96 _ _ rfl g 96 8 S _ R2 ha5 hR2 rfl rfl size52 ?_; intro hfin)
      have hz0 : w.heap.size ≤ wr.heap.size := hbel.size
      have hb6 : Below w.heap.size wr.drew (w5.setRow g R2) := below_setRow (Below.mono (B := wr.drew.heap.size) hb5 hz0) hg
      have HT6 : Hid (TabK (w5.setRow g R2)) := TabK.later (w := wr.drew) (fun i hi => HA.out.2 i hi) hb6 hkp
      have HB6 : Hid (Below w.heap.size w (w5.setRow g R2)) := hbel.drew.trans hb6
      clear hb5 hb6 ha5
      generalize w5.setRow g R2 = w6 at *
      go_wp2
      go_roundw
      case rel => exact ⟨k + 1, hlt, by go_num, by rw [HN.out]; exact hfin, HT6.out, HB6.out⟩
      case measure => simp [intOf]; omega
    · have hke : k = nbl t := by omega
      subst hke
      have HA : Hid (Arr wr g 96 8 (stN (padB t) (nbl t))) := ha
      clear ha hT
      go_wp2_with (refine wp_loadArr rfl 96 _ rfl g 96 8 _ 85 rfl HA.out Tryd.underlying96 size52 ?_; intro R1 hR1)
      refine (inBytes_any R1 _ _ hR1).mono ?_
      rintro e w5 ⟨rfl, hb5⟩
      go_wp2
      go_ret
      exact ⟨by rw [HD.out]; rfl, hbel.trans (hb5.mono hbel.size)⟩

/-- the row of the digest when the first so many numbers stand -/
def digRow (s : Nat → UInt32) (k : Nat) : List UInt8 := digL s k ++ List.replicate (32 - 4 * k) 0
theorem digRow_len (s : Nat → UInt32) (k : Nat) (h : k ≤ 8) : (digRow s k).length = 32 := by
  unfold digRow
  rw [List.length_append, digL_len, List.length_replicate]
  omega
theorem digRow_step (s : Nat → UInt32) (k : Nat) (h : k < 8) (X : UInt32) (hX : s k = X) :
    ((((digRow s k).set (4 * k) (UInt8.ofNat (X.toNat / 16777216))).set (4 * k + 1) (UInt8.ofNat (X.toNat / 65536))).set (4 * k + 2) (UInt8.ofNat (X.toNat / 256))).set (4 * k + 3) (UInt8.ofNat X.toNat) = digRow s (k + 1) := by
  subst hX
  have e : 32 - 4 * k = (32 - 4 * (k + 1)) + 1 + 1 + 1 + 1 := by omega
  have hl := digL_len s k
  unfold digRow
  rw [e, digL_succ]
  simp only [List.replicate_succ]
  rw [List.set_append_right _ _ (by omega), List.set_append_right _ _ (by omega), List.set_append_right _ _ (by omega), List.set_append_right _ _ (by omega)]
  have e0 : 4 * k - (digL s k).length = 0 := by omega
  have e1 : 4 * k + 1 - (digL s k).length = 1 := by omega
  have e2 : 4 * k + 2 - (digL s k).length = 2 := by omega
  have e3 : 4 * k + 3 - (digL s k).length = 3 := by omega
  rw [e0, e1, e2, e3]
  simp [be4]
end Go.Proofs.YtdifilcdiacbpaaDoor
/-
  The walk of the specification's Digest.
-/
namespace Go.Proofs.YtdifilcdiacbpaaDoor
open Go.RowKit Go.BigFrame
set_option linter.unusedVariables false

def SR (w : World) (t : ByteArray) (g gk : Nat) (i : Value) (wr : World) : Prop := ∃ k : Nat, k ≤ nbl t ∧ i = .int .i64 ((64 * k : Nat) : Int) ∧ Arr wr g 86 8 (stN (padB t) k) ∧ Arr wr gk 88 64 keyF ∧ Below w.heap.size w wr
def SR2 (w : World) (s : Nat → UInt32) (g go : Nat) (i : Value) (wr : World) : Prop := ∃ k : Nat, k ≤ 8 ∧ i = .int .i64 (k : Int) ∧ Arr wr g 86 8 s ∧ Byt wr go (digRow s k) ∧ Below w.heap.size w wr

set_option maxRecDepth 100000 in
set_option maxHeartbeats 400000 in
theorem sDigest_any (t : ByteArray) (w : World) (ht : t.size ≤ 1048576) :
    Calls Tryd.prog 43 #[.string t] w fun e w' => e = .returned (.string (digB t)) ∧ Below w.heap.size w w' := by
  have hpz := padB_size t
  have hnb : nbl t ≤ 20000 := by unfold nbl; omega
  have HD : Hid (digB t = ⟨(digL (stN (padB t) (nbl t)) 8).toArray⟩) := rfl
  generalize digB t = D at *
  have hPT : ∀ w, Calls Tryd.prog 65 #[.string t] w fun e w' => e = .returned (.string (padB t)) ∧ Below w.heap.size w w' := fun w => sPadText_any t w ht
  go_enter Tryd.func43, Tryd.ntmps43
  go_wp2_with fail
  refine (l03First_any _).mono ?_
  rintro e w1 ⟨R, rfl, hR, hb1⟩
  go_wp2_with (first | (with_reducible refine wp_alloc50 rfl rfl ?_) | (refine wp_storeNew rfl 86 8 _ _ rfl w1 _ R firstF rfl (zeros_size 8) hR rfl rfl size51 ?_))
  have ha1 : Arr (w1.alloc (.cells R 86)) w1.heap.size 86 8 firstF := Arr.agg hR
  have hs1 := hb1.size
  have hb2 : Below w.heap.size w (w1.alloc (.cells R 86)) := hb1.alloc hs1 _
  have hz2 : (w1.alloc (.cells R 86)).heap.size = w1.heap.size + 1 := by simp
  refine (l03Keys_any _).mono ?_
  rintro e w3 ⟨R3, rfl, hR3, hb3⟩
  have hs3 := hb3.size
  have ha3 := (ha1.below hb3 (by omega)).alloc (.cells R3 88)
  have hk3 : Arr (w3.alloc (.cells R3 88)) w3.heap.size 88 64 keyF := Arr.agg hR3
  have hb4 : Below w.heap.size w (w3.alloc (.cells R3 88)) := (hb2.trans (hb3.mono (by omega))).alloc (by omega) _
  go_wp2_with (first | (with_reducible refine wp_alloc55 rfl rfl ?_) | (refine wp_storeNew rfl 88 64 _ _ rfl w3 _ R3 keyF rfl (zeros_size 64) hR3 rfl rfl size61 ?_))
  have hz4 : (w3.alloc (.cells R3 88)).heap.size = w3.heap.size + 1 := by simp
  refine (hPT _).mono ?_
  rintro e w5 ⟨rfl, hb5⟩
  have hs5 := hb5.size
  have HST : Hid (SR w t w1.heap.size w3.heap.size (.int .i64 0) w5) := ⟨0, by omega, rfl, ha3.below hb5 (by omega), hk3.below hb5 (by omega), hb4.trans (hb5.mono (by omega))⟩
  have hg1 : w.heap.size ≤ w1.heap.size := hs1
  have hg2 : w1.heap.size < w3.heap.size := by omega
  clear ha1 hb2 hb3 hb4 hb5 hs5 hz4 hk3 ha3 hs3 hR3 hz2 hs1 hR hb1 hPT
  generalize w1.heap.size = g at *
  generalize w3.heap.size = gk at *
  go_wp2
  go_loopw [6] (fun i wr => SR w t g gk i wr) (fun i _ => nbl t * 64 - (intOf i).toNat)
  case atStart => exact HST.out
  case round =>
    obtain ⟨k, hk, rfl, ha, hkk, hbel⟩ := hrel
    clear HST
    by_cases hlt : k < nbl t
    · obtain ⟨c, hc⟩ : ∃ c, (padB t).extract (64 * k) (64 * k + 64) = c := ⟨_, rfl⟩
      have hcz : c.size = 64 := by rw [← hc, ByteArray.size_extract]; omega
      have hcut := run_cut (padB t) ((64 * k : Nat) : Int) (((64 * k : Nat) : Int) + 64) (64 * k) (64 * k + 64) rfl (by omega) (by omega) (by omega)
      rw [hc] at hcut
      have HN : Hid (stN (padB t) (k + 1) = H.block (stN (padB t) k) keyF (bAt c)) := by rw [← hc]; rfl
      clear hc
      generalize stN (padB t) k = S at *
      have HA : Hid (Arr wr g 86 8 S ∧ Arr wr gk 88 64 keyF) := ⟨ha, hkk⟩
      have hgs := ha.lt
      have hgk := hkk.lt
      clear ha hkk
      obtain ⟨n, hn⟩ : ∃ n : Nat, 64 * k = n := ⟨_, rfl⟩
      rw [hn] at hcut
      rw [hn]
      have hnl : n + 64 ≤ nbl t * 64 := by omega
      have wr1 : IntKind.i64.wrap ((n : Int) + 64) = (n : Int) + 64 := IntWalk.i64_in _ (by omega)
      have HNN : Hid (64 * k = n) := hn
      clear hn
      go_wp2
      refine wp_region_still_tail 7 (by kernel_rfl) (by kernel_rfl) ?_
      simp only [List.take_succ_cons, List.take_zero, List.drop_succ_cons, List.drop_zero]
      refine still_loadArr rfl 86 _ rfl g 86 8 S 85 rfl (HA.out.1.drewN 1) Tryd.underlying86 size51 ?_
      intro R1 hR1
      iterate 5 still_step
      refine still_loadArr rfl 88 _ rfl gk 88 64 keyF 85 rfl (HA.out.2.drewN 1) Tryd.underlying88 size61 ?_
      intro R2 hR2
      refine wpStill_nil ?_
      go_wp2_with fail
      refine (l03Block_any R1 R2 S keyF c hcz wr.drew hR1 hR2).mono ?_
      rintro e w6 ⟨R6, rfl, hR6, hb6⟩
      have ha6 : Arr w6 g 86 8 S := Arr.below (w := wr.drew) (HA.out.1.drewN 1) hb6 hgs
      have hk6 : Arr w6 gk 88 64 keyF := Arr.below (w := wr.drew) (HA.out.2.drewN 1) hb6 hgk
      have hz0 : w.heap.size ≤ wr.heap.size := hbel.size
      have hb7 : Below w.heap.size w (w6.setRow g R6) := below_setRow (hbel.drew.trans (Below.mono (B := wr.drew.heap.size) hb6 hz0)) hg1
      have hk7 : Arr (w6.setRow g R6) gk 88 64 keyF := hk6.otherRow (by omega)
      go_wp2_with (refine wp_storeArr rfl 86 _ _ rfl g 86 8 S _ R6 ha6 hR6 rfl rfl size51 ?_; intro hfin)
      clear ha6 hk6 hb6
      generalize w6.setRow g R6 = w7 at *
      go_wp2
      go_roundw
      case rel => exact ⟨k + 1, hlt, by have := HNN.out; show Value.int .i64 _ = Value.int .i64 _; congr 1; omega, by rw [HN.out]; exact hfin, hk7, hb7⟩
      case measure => simp [intOf]; omega
    · have hke : k = nbl t := by omega
      subst hke
      obtain ⟨n, hn⟩ : ∃ n : Nat, 64 * nbl t = n := ⟨_, rfl⟩
      rw [hn]
      have hn2 : (n : Int) = (nbl t : Int) * 64 := by omega
      generalize stN (padB t) (nbl t) = S at *
      have hgs := ha.lt
      obtain ⟨w6, hmk, hby, hb6, hs6⟩ := Byt.made 32 (by omega) wr
      have hmk' : (Instr.makeSlice 22 (.int .i64 32) (.int .i64 32)).run Tryd.prog wr = _ := hmk
      have HST2 : Hid (SR2 w S g wr.heap.size (.int .i64 0) w6) := ⟨0, by omega, rfl, ha.below hb6 hgs, hby, hbel.trans (hb6.mono hbel.size)⟩
      have hgo : g < wr.heap.size := hgs
      have hw0 := hbel.size
      clear hmk hby hb6 hs6 ha hkk hbel hn
      generalize wr.heap.size = go at *
      go_wp2
      go_loopw [8] (fun i wr => SR2 w S g go i wr) (fun i _ => 8 - (intOf i).toNat)
      case atStart => exact HST2.out
      case round =>
        obtain ⟨m, hm, rfl, ha, hby, hbel⟩ := hrel
        clear HST2 hmk'
        have hrl := digRow_len S m hm
        by_cases hlt8 : m < 8
        · have hc := ha.cell m hlt8
          obtain ⟨x0, d0⟩ := hby.has (4 * m) (by omega)
          obtain ⟨x1, d1⟩ := hby.has (4 * m + 1) (by omega)
          obtain ⟨x2, d2⟩ := hby.has (4 * m + 2) (by omega)
          obtain ⟨x3, d3⟩ := hby.has (4 * m + 3) (by omega)
          have f0 := hby.frozen (4 * m)
          have f1 := hby.frozen (4 * m + 1)
          have f2 := hby.frozen (4 * m + 2)
          have f3 := hby.frozen (4 * m + 3)
          have hst := digRow_step S m hlt8 (S m) rfl
          have hX := H.u32_lt (S m)
          have HA : Hid (Arr wr g 86 8 S ∧ Byt wr go (digRow S m) ∧ Below w.heap.size w wr) := ⟨ha, hby, hbel⟩
          clear ha hby hbel
          generalize S m = X at *
          have HST3 : Hid (((((digRow S m).set (4 * m) (UInt8.ofNat (X.toNat / 16777216))).set (4 * m + 1) (UInt8.ofNat (X.toNat / 65536))).set (4 * m + 2) (UInt8.ofNat (X.toNat / 256))).set (4 * m + 3) (UInt8.ofNat X.toNat) = digRow S (m + 1)) := hst
          clear hst
          have n1 : ¬ g = go := by omega
          have n2 : ¬ go = g := by omega
          have t0 : (4 * (m : Int)).toNat = 4 * m := by omega
          have t1 : (4 * (m : Int) + 1).toNat = 4 * m + 1 := by omega
          have t2 : (4 * (m : Int) + 2).toNat = 4 * m + 2 := by omega
          have t3 : (4 * (m : Int) + 3).toNat = 4 * m + 3 := by omega
          have i0 : (0 : Int) ≤ 4 * (m : Int) := by omega
          have i1 : 4 * (m : Int) < 32 := by omega
          have i2 : 4 * (m : Int) + 1 < 32 := by omega
          have i3 : 4 * (m : Int) + 2 < 32 := by omega
          have i4 : 4 * (m : Int) + 3 < 32 := by omega
          have i8 : (m : Int) < 8 := by omega
          have i9 : (0 : Int) ≤ (m : Int) := by omega
          go_wp2
          refine ⟨⟨m + 1, by omega, by go_num, ?_, ?_, ?_⟩, ?_⟩
          · exact (((HA.out.1.other _ _ _ n1).other _ _ _ n1).other _ _ _ n1).other _ _ _ n1
          · have y0 := HA.out.2.1.setx (4 * m) ((X.toNat : Int) / 16777216) (UInt8.ofNat (X.toNat / 16777216)) _ (by simp; omega) rfl
            have y1 := y0.setx (4 * m + 1) ((X.toNat : Int) / 65536 % 256) (UInt8.ofNat (X.toNat / 65536)) _ (by simp) rfl
            have y2 := y1.setx (4 * m + 2) ((X.toNat : Int) / 256 % 256) (UInt8.ofNat (X.toNat / 256)) _ (by simp) rfl
            exact y2.setx (4 * m + 3) ((X.toNat : Int) % 256) (UInt8.ofNat X.toNat) _ (by simp) HST3.out
          · have hwg : w.heap.size ≤ go := by omega
            exact (((HA.out.2.2.setCell (p := ⟨go, 4 * m, none⟩) hwg _).setCell (p := ⟨go, 4 * m + 1, none⟩) hwg _).setCell (p := ⟨go, 4 * m + 2, none⟩) hwg _).setCell (p := ⟨go, 4 * m + 3, none⟩) hwg _
          · simp [intOf]; omega
        · have hme : m = 8 := by omega
          subst hme
          have hcv := hby.str 32 32 hrl
          have HDR : Hid (digRow S 8 = digL S 8) := by show _ = _; simp [digRow]
          rw [HDR.out] at hcv
          clear hby ha
          go_wp2
          go_ret
          exact ⟨by rw [HD.out]; rfl, hbel⟩
end Go.Proofs.YtdifilcdiacbpaaDoor
/-
  The walks of Hex, the program's and the specification's.
-/
namespace Go.Proofs.YtdifilcdiacbpaaDoor
open Go.RowKit
set_option linter.unusedVariables false

def hexK (s : ByteArray) (k : Nat) : List UInt8 := hexL (s.data.toList.take k)
theorem hexK_len (s : ByteArray) (k : Nat) (h : k ≤ s.size) : (hexK s k).length = 2 * k := by
  have h1 : s.data.toList.length = s.size := Array.length_toList
  have h2 : ∀ l : List UInt8, (hexL l).length = 2 * l.length := by
    intro l
    induction l with
    | nil => rfl
    | cons b l ih => rw [show hexL (b :: l) = [fig (b.toNat / 16), fig (b.toNat % 16)] ++ hexL l from rfl, List.length_append, ih]; simp; omega
  unfold hexK
  rw [h2, List.length_take]
  omega
theorem hexK_succ (s : ByteArray) (k : Nat) (h : k < s.size) : hexK s k ++ [fig (s[k].toNat / 16), fig (s[k].toNat % 16)] = hexK s (k + 1) := by
  have hg : s.data.toList[k]? = some s[k] := by simp [ByteArray.getElem_eq_getElem_data]
  unfold hexK
  rw [List.take_add_one, hg]
  simp [hexL]

theorem run_figw (y : Int) (x : Nat) (h : y = (x : Int)) (h1 : x < 16) (w : World) : (Instr.index 9 (.string ⟨#[48, 49, 50, 51, 52, 53, 54, 55, 56, 57, 97, 98, 99, 100, 101, 102]⟩) (.int .u8 (IntKind.u8.wrap y))).run Tryd.prog w = .ok (.int .u8 ((fig x).toNat : Int)) w := by
  subst h
  rw [IntWalk.u8_in _ (by omega), run_fig _ (by omega) (by omega)]
  simp

theorem run_fign (y : Int) (x : Nat) (h : y = (x : Int)) (h1 : x < 16) (w : World) : (Instr.index 9 (.string ⟨#[48, 49, 50, 51, 52, 53, 54, 55, 56, 57, 97, 98, 99, 100, 101, 102]⟩) (.int .u8 y)).run Tryd.prog w = .ok (.int .u8 ((fig x).toNat : Int)) w := by
  subst h
  rw [run_fig _ (by omega) (by omega)]
  simp

def HexRel (s : ByteArray) (w : World) (v i : Value) (wr : World) : Prop :=
  ∃ k : Nat, k ≤ s.size ∧ i = .int .i64 k ∧ OB w.heap.size w wr v (hexK s k)

theorem l01Figure_int (x : Int) (n : Nat) (w : World) (hx : x = (n : Int)) (h : n < 16) :
    Calls Tryd.prog 44 #[.int .i64 x] w fun e w' => e = .returned (.int .u8 (fig n).toNat) ∧ w' = w := by
  subst hx
  exact l01Figure_any n w h

end Go.Proofs.YtdifilcdiacbpaaDoor
/-
  The walk of the specification's Hex.
-/
namespace Go.Proofs.YtdifilcdiacbpaaDoor
open Go.RowKit
set_option linter.unusedVariables false

theorem q1 (b : Nat) (h : b < 256) : IntKind.i64.wrap ((IntKind.i64.wrap (b : Int)).tdiv 16) = ((b / 16 : Nat) : Int) := by
  rw [IntWalk.i64_in (b : Int) (by omega)]
  have e : (b : Int).tdiv 16 = ((b / 16 : Nat) : Int) := (Int.ofNat_tdiv b 16).symm
  rw [e, IntWalk.i64_in _ (by omega)]
theorem q2 (b : Nat) (h : b < 256) : (IntKind.i64.wrap (b : Int)).tmod 16 = ((b % 16 : Nat) : Int) := by
  rw [IntWalk.i64_in (b : Int) (by omega)]
  exact (Int.ofNat_tmod b 16).symm

theorem q1b (b : Nat) (h : b < 256) : 0 ≤ IntKind.i64.wrap ((IntKind.i64.wrap (b : Int)).tdiv 16) ∧ IntKind.i64.wrap ((IntKind.i64.wrap (b : Int)).tdiv 16) < 16 := by
  rw [q1 b h]
  omega
theorem q2b (b : Nat) (h : b < 256) : 0 ≤ (IntKind.i64.wrap (b : Int)).tmod 16 ∧ (IntKind.i64.wrap (b : Int)).tmod 16 < 16 := by
  rw [q2 b h]
  omega
theorem l01Figure_gen (x : Int) (w : World) (h : 0 ≤ x ∧ x < 16) :
    Calls Tryd.prog 44 #[.int .i64 x] w fun e w' => e = .returned (.int .u8 (fig x.toNat).toNat) ∧ w' = w := by
  obtain ⟨n, rfl⟩ := Int.eq_ofNat_of_zero_le h.1
  rw [Int.toNat_natCast]
  exact l01Figure_any n w (by omega)

end Go.Proofs.YtdifilcdiacbpaaDoor
/-
  What CutDigest and DigestHex answer, the program's and the specification's.
-/
namespace Go.Proofs.YtdifilcdiacbpaaDoor
open Go.RowKit Go.BigFrame
set_option linter.unusedVariables false

def cutB (d : ByteArray) (k : Nat) : ByteArray := d.extract 0 k
theorem run_head (d : ByteArray) (k : Nat) (h : k ≤ d.size) (w : World) :
    (Instr.slice 9 (.string d) none (some (.int .i64 (k : Int))) none).run Tryd.prog w = .ok (.string (cutB d k)) w := by
  rw [run_slice_string_to_if (P := Tryd.prog) (w := w) 9 d .i64 _ Tryd.underlying9, if_pos (by omega)]
  unfold cutB
  simp

theorem CutDigest_no (t : ByteArray) (x : Int) (w : World) (hx : x < 1 ∨ 32 < x) :
    Calls Tryd.prog 30 #[.string t, .int .i64 x] w fun e w' => e = .returned (.string ⟨#[]⟩) ∧ Below w.heap.size w w' := by
  rcases hx with h | h
  · go_enter Tryd.func30, Tryd.ntmps30
    go_wp2
    go_ret
    exact ⟨rfl, Below.refl _ _⟩
  · have h' : ¬ x < 1 := by omega
    go_enter Tryd.func30, Tryd.ntmps30
    go_wp2
    go_ret
    exact ⟨rfl, Below.refl _ _⟩
theorem sCutDigest_no (t : ByteArray) (x : Int) (w : World) (hx : x < 1 ∨ 32 < x) :
    Calls Tryd.prog 16 #[.string t, .int .i64 x] w fun e w' => e = .returned (.string ⟨#[]⟩) ∧ Below w.heap.size w w' := by
  have hd : decide ((1 : Int) ≤ x ∧ x ≤ 32) = false := by simp; omega
  go_enter Tryd.func16, Tryd.ntmps16
  go_wp2_with fail
  refine (l01In_any _ _ _ _).mono ?_
  rintro e w' ⟨rfl, rfl⟩
  rw [hd]
  go_wp2
  go_ret
  exact ⟨rfl, Below.refl _ _⟩

theorem CutDigest_yes (t : ByteArray) (k : Nat) (w : World) (ht : t.size ≤ 1048576) (h1 : 1 ≤ k) (h2 : k ≤ 32) (hK : TabK w) (hF : TabF w) :
    Calls Tryd.prog 30 #[.string t, .int .i64 (k : Int)] w fun e w' => e = .returned (.string (cutB (digB t) k)) ∧ Below w.heap.size w w' := by
  have hz := digB_size t
  have hc := Digest_any t w ht hK hF
  clear hK hF
  generalize digB t = D at *
  have hh := run_head D k (by omega)
  go_enter Tryd.func30, Tryd.ntmps30
  go_wp2_with fail
  refine hc.mono ?_
  rintro e w1 ⟨rfl, hb1⟩
  clear hc
  go_wp2
  go_ret
  exact ⟨rfl, hb1⟩
theorem sCutDigest_yes (t : ByteArray) (k : Nat) (w : World) (ht : t.size ≤ 1048576) (h1 : 1 ≤ k) (h2 : k ≤ 32) :
    Calls Tryd.prog 16 #[.string t, .int .i64 (k : Int)] w fun e w' => e = .returned (.string (cutB (digB t) k)) ∧ Below w.heap.size w w' := by
  have hz := digB_size t
  have hc := sDigest_any t w ht
  generalize digB t = D at *
  have hh := run_head D k (by omega)
  have hd : decide ((1 : Int) ≤ (k : Int) ∧ (k : Int) ≤ 32) = true := by simp; omega
  go_enter Tryd.func16, Tryd.ntmps16
  go_wp2_with fail
  refine (l01In_any _ _ _ _).mono ?_
  rintro e w0 ⟨rfl, rfl⟩
  rw [hd]
  go_wp2_with fail
  refine hc.mono ?_
  rintro e w1 ⟨rfl, hb1⟩
  clear hc
  go_wp2
  go_ret
  exact ⟨rfl, hb1⟩

def hexB (d : ByteArray) : ByteArray := ⟨(hexK d d.size).toArray⟩
end Go.Proofs.YtdifilcdiacbpaaDoor
