/-
  What the specification makes of a block.
-/
import Derived.Test.YtjfdgidhgijheaaDoorBlk
namespace Go.Proofs.YtjfdgidhgijheaaDoor
open Go.RowKit Go.BigFrame
set_option linter.unusedVariables false
set_option maxHeartbeats 4000000 in
set_option maxRecDepth 100000 in
theorem l03Block_any (Hc Kc : Array Value) (h k : Nat → UInt32) (b : ByteArray) (hb : b.size = 64) (w : World) (hH : AggIs Hc 8 h) (hK : AggIs Kc 64 k) :
    Calls Tryd.prog 29 #[.agg Hc, .string b, .agg Kc] w fun e w' => ∃ R, e = .returned (.agg R) ∧ AggIs R 8 (H.block h k (bAt b)) ∧ Below w.heap.size w w' := by
  have hst := BS.start w Hc Kc h k hH hK
  have HST : Hid (BS w ((((w.alloc (.cells Hc 39)).alloc (.cells Kc 50)).alloc (.cells (zeros 8) 39)).alloc (.cells (zeros 64) 50)) h k (fun _ => 0) (fun _ => 0)) := hst
  clear hst hH hK
  go_enter Tryd.func29, Tryd.ntmps29
  go_wp2_with (first | (with_reducible refine wp_build rfl rfl ?_) | (with_reducible refine wp_alloc55 rfl rfl ?_) | (with_reducible refine wp_alloc50 rfl rfl ?_) | (refine wp_store55 rfl _ _ rfl _ rfl rfl rfl ?_))
  generalize ((((w.alloc (.cells Hc 39)).alloc (.cells Kc 50)).alloc (.cells (zeros 8) 39)).alloc (.cells (zeros 64) 50)) = w1 at *
  go_loopw [8] (fun i wr => L1 w h k b i wr) (fun i _ => 16 - (intOf i).toNat)
  case atStart => exact ⟨0, by omega, rfl, HST.out⟩
  case round =>
    obtain ⟨m, hm, rfl, hs⟩ := hrel
    by_cases hlt : m < 16
    · have e0 := bAt_eq b (4 * m) (by omega)
      have e1 := bAt_eq b (4 * m + 1) (by omega)
      have e2 := bAt_eq b (4 * m + 2) (by omega)
      have e3 := bAt_eq b (4 * m + 3) (by omega)
      have l0 := b[4 * m].toNat_lt
      have l1 := b[4 * m + 1].toNat_lt
      have l2 := b[4 * m + 2].toNat_lt
      have l3 := b[4 * m + 3].toNat_lt
      have hwd := H.word_eq b[4 * m].toNat b[4 * m + 1].toNat b[4 * m + 2].toNat b[4 * m + 3].toNat l0 l1 l2 l3
      have hx : ((b[4 * m].toNat * 16777216 + b[4 * m + 1].toNat * 65536 + b[4 * m + 2].toNat * 256 + b[4 * m + 3].toNat : Nat) : Int) = ((H.word (bAt b) m).toNat : Int) := by
        unfold H.word
        rw [H.toNat_of _ (by rw [e0, e1, e2, e3]; omega), e0, e1, e2, e3]
      rw [hx] at hwd
      clear hx e0 e1 e2 e3
      have hs' := hs.setW m (by omega) (H.word (bAt b) m)
      have HS' : Hid (BS w (wr.setCell ⟨w.heap.size + 1 + 1 + 1, m, none⟩ (.int .u32 ((H.word (bAt b) m).toNat : Int))) h k (fun _ => 0) (H.wHead (bAt b) (m + 1))) := hs'
      have c0 := hs.ww.cell m (by omega)
      have f0 := hs.ww.frozen m
      clear hs hs'
      have i0 : (0 : Int) ≤ 4 * (m : Int) := by omega
      have i1 : 4 * (m : Int) + 3 < 64 := by omega
      have i2 : (0 : Int) ≤ (m : Int) := by omega
      have i3 : (m : Int) < 64 := by omega
      go_wp2
      have x0 := run_at b (4 * (m : Int)) (4 * m) (by omega) (by omega)
      have x1 := run_at b (4 * (m : Int) + 1) (4 * m + 1) (by omega) (by omega)
      have x2 := run_at b (4 * (m : Int) + 2) (4 * m + 2) (by omega) (by omega)
      have x3 := run_at b (4 * (m : Int) + 3) (4 * m + 3) (by omega) (by omega)
      go_region
      go_wp2
      go_roundw
      case rel => exact ⟨m + 1, by omega, by go_num, HS'.out.drew⟩
      case measure => simp [intOf]; omega
    · have hme : m = 16 := by omega
      subst hme
      have HS : Hid (BS w wr h k (fun _ => 0) (H.wHead (bAt b) 16)) := hs
      clear hs
      go_wp2
      go_loopw [9] (fun i wx => L2 w h k b i wx) (fun i _ => 64 - (intOf i).toNat)
      case atStart => exact ⟨16, by omega, by omega, rfl, HS.out⟩
      case round =>
        obtain ⟨n, hn, hn2, rfl, hs⟩ := hrel
        by_cases hlt2 : n < 64
        · have hF : H.wMore (H.wHead (bAt b) 16) (n + 1 - 16) = H.upd (H.wMore (H.wHead (bAt b) 16) (n - 16)) n (H.wStep (H.wMore (H.wHead (bAt b) 16) (n - 16)) n) := by
            have e1 : n + 1 - 16 = (n - 16) + 1 := by omega
            have e2 : 16 + (n - 16) = n := by omega
            rw [e1, H.wMore, e2]
          generalize H.wMore (H.wHead (bAt b) 16) (n - 16) = F at *
          have HF : Hid (H.wMore (H.wHead (bAt b) 16) (n + 1 - 16) = H.upd F n (H.wStep F n)) := hF
          have hs' := hs.setW n hlt2 (H.wStep F n)
          have HS' : Hid (BS w (wr.setCell ⟨w.heap.size + 1 + 1 + 1, n, none⟩ (.int .u32 ((H.wStep F n).toNat : Int))) h k (fun _ => 0) (H.upd F n (H.wStep F n))) := hs'
          have HW : Hid (H.wStep F n = ((F (n - 16) + H.sig0 (F (n - 15))) + F (n - 7)) + H.sig1 (F (n - 2))) := rfl
          have c15 := hs.ww.cell (n - 15) (by omega)
          have c2 := hs.ww.cell (n - 2) (by omega)
          have c16 := hs.ww.cell (n - 16) (by omega)
          have c7 := hs.ww.cell (n - 7) (by omega)
          have c0 := hs.ww.cell n (by omega)
          have f0 := hs.ww.frozen n
          clear hs hs' hF
          generalize F (n - 15) = X15 at *
          generalize F (n - 2) = X2 at *
          generalize F (n - 16) = X16 at *
          generalize F (n - 7) = X7 at *
          generalize F n = X0 at *
          obtain ⟨x1, e1⟩ : ∃ x, H.rotr X15 7 ^^^ H.rotr X15 18 = x := ⟨_, rfl⟩
          have s1 : (X15.toNat : Int) / 8 = ((H.shr X15 3).toNat : Int) := H.bshr X15 3
          obtain ⟨x2, e2⟩ : ∃ x, x1 ^^^ H.shr X15 3 = x := ⟨_, rfl⟩
          obtain ⟨x3, e3⟩ : ∃ x, H.rotr X2 17 ^^^ H.rotr X2 19 = x := ⟨_, rfl⟩
          have s2 : (X2.toNat : Int) / 1024 = ((H.shr X2 10).toNat : Int) := H.bshr X2 10
          obtain ⟨x4, e4⟩ : ∃ x, x3 ^^^ H.shr X2 10 = x := ⟨_, rfl⟩
          obtain ⟨x5, e5⟩ : ∃ x, X16 + x2 = x := ⟨_, rfl⟩
          obtain ⟨x6, e6⟩ : ∃ x, x5 + X7 = x := ⟨_, rfl⟩
          have e7 : x6 + x4 = H.wStep F n := by rw [HW.out, ← e6, ← e5, ← e2, ← e1, ← e4, ← e3]; rfl
          generalize H.wStep F n = WS at *
          have b1 := bx' e1
          have b2 := bx' e2
          have b3 := bx' e3
          have b4 := bx' e4
          have a1 := badd' e5
          have a2 := badd' e6
          have a3 := badd' e7
          clear e1 e2 e3 e4 e5 e6 e7 HW
          have t15 : ((n : Int) - 15).toNat = n - 15 := by omega
          have t2 : ((n : Int) - 2).toNat = n - 2 := by omega
          have t16 : ((n : Int) - 16).toNat = n - 16 := by omega
          have t7 : ((n : Int) - 7).toNat = n - 7 := by omega
          have i0 : (0 : Int) ≤ (n : Int) - 15 := by omega
          have i1 : (n : Int) - 15 < 64 := by omega
          have i2 : (0 : Int) ≤ (n : Int) - 2 := by omega
          have i3 : (n : Int) - 2 < 64 := by omega
          have i4 : (0 : Int) ≤ (n : Int) - 16 := by omega
          have i5 : (n : Int) - 16 < 64 := by omega
          have i6 : (0 : Int) ≤ (n : Int) - 7 := by omega
          have i7 : (n : Int) - 7 < 64 := by omega
          have i8 : (n : Int) < 64 := by omega
          have i9 : (0 : Int) ≤ (n : Int) := by omega
          go_wp2
          refine wp_region_quiet_lit (by kernel_rfl) (by kernel_rfl) ?_
          go_big_quiet_step (exact Calls.quiet_of_same (Turn7 _ _))
          go_big_quiet_step (exact Calls.quiet_of_same (Turn7 _ _))
          go_big_quiet_step (exact Calls.quiet_of_same (Turn7 _ _))
          go_big_quiet_step (exact Calls.quiet_of_same (Turn7 _ _))
          go_big_quiet_step (exact Calls.quiet_of_same (Turn7 _ _))
          go_big_quiet_step (exact Calls.quiet_of_same (Turn18 _ _))
          go_big_quiet_step (exact Calls.quiet_of_same (Turn18 _ _))
          go_big_quiet_step (exact Calls.quiet_of_same (Turn18 _ _))
          go_big_quiet_step (exact Calls.quiet_of_same (Turn18 _ _))
          go_big_quiet_step (exact Calls.quiet_of_same (Turn18 _ _))
          go_big_quiet_step (exact Calls.quiet_of_same (Turn7 _ _))
          go_big_quiet_step (exact Calls.quiet_of_same (Turn7 _ _))
          go_big_quiet_step (exact Calls.quiet_of_same (Turn7 _ _))
          go_big_quiet_step (exact Calls.quiet_of_same (Turn7 _ _))
          go_big_quiet_step (exact Calls.quiet_of_same (Turn7 _ _))
          go_big_quiet_step (exact Calls.quiet_of_same (Turn7 _ _))
          go_big_quiet_step (exact Calls.quiet_of_same (Turn7 _ _))
          go_big_quiet_step (exact Calls.quiet_of_same (Turn7 _ _))
          refine wpQuiet_nil ?_
          rintro _ ⟨q1, rfl⟩
          go_wp2
          refine wp_region_quiet_lit (by kernel_rfl) (by kernel_rfl) ?_
          go_big_quiet_step (exact quiet_same2 (Turn17 _ _))
          go_big_quiet_step (exact quiet_same2 (Turn17 _ _))
          go_big_quiet_step (exact quiet_same2 (Turn17 _ _))
          go_big_quiet_step (exact quiet_same2 (Turn17 _ _))
          go_big_quiet_step (exact quiet_same2 (Turn17 _ _))
          go_big_quiet_step (exact quiet_same2 (Turn19 _ _))
          go_big_quiet_step (exact quiet_same2 (Turn19 _ _))
          go_big_quiet_step (exact quiet_same2 (Turn19 _ _))
          go_big_quiet_step (exact quiet_same2 (Turn19 _ _))
          go_big_quiet_step (exact quiet_same2 (Turn19 _ _))
          go_big_quiet_step (exact quiet_same2 (Turn17 _ _))
          go_big_quiet_step (exact quiet_same2 (Turn17 _ _))
          go_big_quiet_step (exact quiet_same2 (Turn17 _ _))
          go_big_quiet_step (exact quiet_same2 (Turn17 _ _))
          go_big_quiet_step (exact quiet_same2 (Turn17 _ _))
          go_big_quiet_step (exact quiet_same2 (Turn17 _ _))
          go_big_quiet_step (exact quiet_same2 (Turn17 _ _))
          go_big_quiet_step (exact quiet_same2 (Turn17 _ _))
          refine wpQuiet_nil ?_
          rintro _ ⟨q2, rfl⟩
          go_wp2
          go_region
          go_wp2
          go_roundw
          case rel => exact ⟨n + 1, by omega, by omega, by go_num, by rw [HF.out]; exact HS'.out.drewN _⟩
          case measure => simp [intOf]; omega
        · have hne : n = 64 := by omega
          subst hne
          have hsz := hs.sz
          have HS2 : Hid (BS w wr h k (fun _ => 0) (H.wAll (bAt b))) := hs
          clear hs HS HST
          go_wp2_with (first | (refine wp_loadArr rfl 39 _ rfl w.heap.size 39 8 h 38 rfl HS2.out.hh Tryd.underlying39 size51 ?_; intro R hR) | (with_reducible refine wp_alloc50 rfl rfl ?_) | (refine wp_storeNew rfl 39 8 _ _ rfl wr _ R h rfl (zeros_size 8) hR rfl rfl size51 ?_))
          have HS3 : Hid (S3 w (wr.alloc (.cells R 39)) h k (H.wAll (bAt b)) h) := HS2.out.copy hR
          clear hR HS2 hsz
          generalize wr.alloc (.cells R 39) = w3 at *
          have HB : Hid ((fun i => h i + H.rounds h k (H.wAll (bAt b)) 64 i) = H.block h k (bAt b)) := rfl
          generalize H.wAll (bAt b) = W at *
          go_loopw [13] (fun i wx => L3 w h k W i wx) (fun i _ => 64 - (intOf i).toNat)
          case atStart => exact ⟨0, by omega, rfl, HS3.out⟩
          case round =>
            obtain ⟨m, hm, rfl, hs⟩ := hrel
            by_cases hlt3 : m < 64
            · have HR : Hid (H.rounds h k W (m + 1) = H.round (H.rounds h k W m) (k m) (W m)) := rfl
              generalize H.rounds h k W m = s at *
              have ck := hs.kk.cell m hlt3
              have cw := hs.ww.cell m hlt3
              have c0 := hs.ss.cell 0 (by omega)
              have c1 := hs.ss.cell 1 (by omega)
              have c2 := hs.ss.cell 2 (by omega)
              have c3 := hs.ss.cell 3 (by omega)
              have c4 := hs.ss.cell 4 (by omega)
              have c5 := hs.ss.cell 5 (by omega)
              have c6 := hs.ss.cell 6 (by omega)
              have c7 := hs.ss.cell 7 (by omega)
              have f0 := hs.ss.frozen 0
              have f1 := hs.ss.frozen 1
              have f2 := hs.ss.frozen 2
              have f3 := hs.ss.frozen 3
              have f4 := hs.ss.frozen 4
              have f5 := hs.ss.frozen 5
              have f6 := hs.ss.frozen 6
              have f7 := hs.ss.frozen 7
              obtain ⟨N4, hN4⟩ : ∃ x, s 3 + H.one s (k m) (W m) = x := ⟨_, rfl⟩
              obtain ⟨N0, hN0⟩ : ∃ x, H.one s (k m) (W m) + H.two s = x := ⟨_, rfl⟩
              have hrd := fun q => (hs.drewN q).round (k m) (W m) N4 N0 hN4 hN0
              have e1 : H.one s (k m) (W m) = (((s 7 + H.big1 (s 4)) + H.ch (s 4) (s 5) (s 6)) + k m) + W m := rfl
              have e2 : H.two s = H.big0 (s 0) + H.maj (s 0) (s 1) (s 2) := rfl
              generalize H.one s (k m) (W m) = ONE at *
              generalize H.two s = TWO at *
              generalize H.round s (k m) (W m) = s' at *
              generalize k m = KM at *
              generalize W m = WM at *
              generalize s 0 = S0 at *
              generalize s 1 = S1 at *
              generalize s 2 = S2 at *
              generalize s 3 = S3' at *
              generalize s 4 = S4 at *
              generalize s 5 = S5 at *
              generalize s 6 = S6 at *
              generalize s 7 = S7 at *
              have HRD : Hid (∀ q, _) := hrd
              clear hrd hs
              obtain ⟨y1, g1⟩ : ∃ x, H.rotr S4 6 ^^^ H.rotr S4 11 = x := ⟨_, rfl⟩
              obtain ⟨y2, g2⟩ : ∃ x, y1 ^^^ H.rotr S4 25 = x := ⟨_, rfl⟩
              have q2 : H.big1 S4 = y2 := by rw [← g2, ← g1]; rfl
              obtain ⟨y3, g3⟩ : ∃ x, S4 &&& S5 = x := ⟨_, rfl⟩
              obtain ⟨y4, g4⟩ : ∃ x, S4 ^^^ 4294967295 = x := ⟨_, rfl⟩
              obtain ⟨y5, g5⟩ : ∃ x, y4 &&& S6 = x := ⟨_, rfl⟩
              obtain ⟨y6, g6⟩ : ∃ x, y3 ^^^ y5 = x := ⟨_, rfl⟩
              have q6 : H.ch S4 S5 S6 = y6 := by rw [← g6, ← g5, ← g4, ← g3]; rfl
              obtain ⟨y7, g7⟩ : ∃ x, S7 + y2 = x := ⟨_, rfl⟩
              obtain ⟨y8, g8⟩ : ∃ x, y7 + y6 = x := ⟨_, rfl⟩
              obtain ⟨y9, g9⟩ : ∃ x, y8 + KM = x := ⟨_, rfl⟩
              have g10 : y9 + WM = ONE := by rw [e1, q2, q6, g7, g8, g9]
              obtain ⟨z1, k1⟩ : ∃ x, H.rotr S0 2 ^^^ H.rotr S0 13 = x := ⟨_, rfl⟩
              obtain ⟨z2, k2⟩ : ∃ x, z1 ^^^ H.rotr S0 22 = x := ⟨_, rfl⟩
              have q3 : H.big0 S0 = z2 := by rw [← k2, ← k1]; rfl
              obtain ⟨z3, k3⟩ : ∃ x, S0 &&& S1 = x := ⟨_, rfl⟩
              obtain ⟨z4, k4⟩ : ∃ x, S0 &&& S2 = x := ⟨_, rfl⟩
              obtain ⟨z5, k5⟩ : ∃ x, z3 ^^^ z4 = x := ⟨_, rfl⟩
              obtain ⟨z6, k6⟩ : ∃ x, S1 &&& S2 = x := ⟨_, rfl⟩
              obtain ⟨z7, k7⟩ : ∃ x, z5 ^^^ z6 = x := ⟨_, rfl⟩
              have q7 : H.maj S0 S1 S2 = z7 := by rw [← k7, ← k6, ← k5, ← k4, ← k3]; rfl
              have k8 : z2 + z7 = TWO := by rw [e2, q3, q7]
              have bg1 := bx' g1
              have bg2 := bx' g2
              have bg3 := ba' g3
              have bg4 : bits .xor .u32 (S4.toNat : Int) 4294967295 = (y4.toNat : Int) := by rw [← g4]; exact H.bn S4
              have bg5 := ba' g5
              have bg6 := bx' g6
              have bg7 := badd' g7
              have bg8 := badd' g8
              have bg9 := badd' g9
              have bg10 := badd' g10
              have bk1 := bx' k1
              have bk2 := bx' k2
              have bk3 := ba' k3
              have bk4 := ba' k4
              have bk5 := bx' k5
              have bk6 := ba' k6
              have bk7 := bx' k7
              have bk8 := badd' k8
              have bN4 := badd' hN4
              have bN0 := badd' hN0
              clear g1 g2 g3 g4 g5 g6 g7 g8 g9 g10 k1 k2 k3 k4 k5 k6 k7 k8 hN4 hN0 e1 e2 q2 q3 q6 q7
              have i8 : (m : Int) < 64 := by omega
              have i9 : (0 : Int) ≤ (m : Int) := by omega
              go_wp2
              refine wp_region_quiet_lit (by kernel_rfl) (by kernel_rfl) ?_
              go_big_quiet_step (exact Calls.quiet_of_same (Turn6 _ _))
              go_big_quiet_step (exact Calls.quiet_of_same (Turn6 _ _))
              go_big_quiet_step (exact Calls.quiet_of_same (Turn6 _ _))
              go_big_quiet_step (exact Calls.quiet_of_same (Turn11 _ _))
              go_big_quiet_step (exact Calls.quiet_of_same (Turn11 _ _))
              go_big_quiet_step (exact Calls.quiet_of_same (Turn11 _ _))
              go_big_quiet_step (exact Calls.quiet_of_same (Turn11 _ _))
              go_big_quiet_step (exact Calls.quiet_of_same (Turn25 _ _))
              go_big_quiet_step (exact Calls.quiet_of_same (Turn25 _ _))
              go_big_quiet_step (exact Calls.quiet_of_same (Turn25 _ _))
              go_big_quiet_step (exact Calls.quiet_of_same (Turn25 _ _))
              go_big_quiet_step (exact Calls.quiet_of_same (Turn25 _ _))
              refine wpQuiet_nil ?_
              rintro _ ⟨q1, rfl⟩
              go_wp2
              refine wp_region_quiet_lit (by kernel_rfl) (by kernel_rfl) ?_
              go_big_quiet_step (fail)
              go_big_quiet_step (fail)
              go_big_quiet_step (fail)
              go_big_quiet_step (fail)
              go_big_quiet_step (fail)
              go_big_quiet_step (fail)
              go_big_quiet_step (fail)
              go_big_quiet_step (fail)
              go_big_quiet_step (fail)
              go_big_quiet_step (fail)
              go_big_quiet_step (fail)
              go_big_quiet_step (fail)
              go_big_quiet_step (fail)
              go_big_quiet_step (fail)
              go_big_quiet_step (fail)
              refine wpQuiet_nil ?_
              rintro _ ⟨q2, rfl⟩
              go_wp2
              refine wp_region_quiet_lit (by kernel_rfl) (by kernel_rfl) ?_
              go_big_quiet_step (exact quiet_same2 (Turn2 _ _))
              go_big_quiet_step (exact quiet_same2 (Turn2 _ _))
              go_big_quiet_step (exact quiet_same2 (Turn2 _ _))
              go_big_quiet_step (exact quiet_same2 (Turn13 _ _))
              go_big_quiet_step (exact quiet_same2 (Turn13 _ _))
              go_big_quiet_step (exact quiet_same2 (Turn13 _ _))
              go_big_quiet_step (exact quiet_same2 (Turn13 _ _))
              go_big_quiet_step (exact quiet_same2 (Turn22 _ _))
              go_big_quiet_step (exact quiet_same2 (Turn22 _ _))
              go_big_quiet_step (exact quiet_same2 (Turn22 _ _))
              go_big_quiet_step (exact quiet_same2 (Turn22 _ _))
              go_big_quiet_step (exact quiet_same2 (Turn22 _ _))
              refine wpQuiet_nil ?_
              rintro _ ⟨q3, rfl⟩
              go_wp2
              go_roundw
              case rel => exact ⟨m + 1, by omega, by go_num, by rw [HR.out]; exact HRD.out _⟩
              case measure => simp [intOf]; omega
            · have hme : m = 64 := by omega
              subst hme
              have HS4 : Hid (S3 w wr h k W (H.rounds h k W 64)) := hs
              clear hs HS3
              generalize H.rounds h k W 64 = s at *
              go_wp2
              go_loopw [20] (fun i wx => L4 w h k W s i wx) (fun i _ => 8 - (intOf i).toNat)
              case atStart => exact ⟨0, by omega, rfl, HS4.out.congrH (fun i hi => by simp [part])⟩
              case round =>
                obtain ⟨p, hp, rfl, hs⟩ := hrel
                by_cases hlt4 : p < 8
                · have ch := hs.hh.cell p hlt4
                  rw [part_at] at ch
                  have cs := hs.ss.cell p hlt4
                  have fh := hs.hh.frozen p
                  have hst := fun q => ((hs.drewN q).setH p hlt4 (h p + s p)).congrH (fun i hi => part_succ h s p i)
                  obtain ⟨x, hx⟩ : ∃ x, h p + s p = x := ⟨_, rfl⟩
                  rw [hx] at hst
                  have HST4 : Hid (∀ q, _) := hst
                  have bx := badd' hx
                  clear hs hst hx HS4
                  have i8 : (p : Int) < 8 := by omega
                  have i9 : (0 : Int) ≤ (p : Int) := by omega
                  go_wp2
                  go_region
                  go_wp2
                  go_roundw
                  case rel => exact ⟨p + 1, by omega, by go_num, HST4.out 1⟩
                  case measure => simp [intOf]; omega
                · have hpe : p = 8 := by omega
                  subst hpe
                  have HS5 : Hid (S3 w wr (part h s 8) k W s) := hs
                  clear hs HS4
                  go_wp2_with (first | (refine wp_loadArr rfl 39 _ rfl w.heap.size 39 8 (part h s 8) 38 rfl HS5.out.hh Tryd.underlying39 size51 ?_; intro R hR) | (refine wp_storeArr rfl 39 _ _ rfl (w.heap.size + 1 + 1) 39 8 _ (part h s 8) R HS5.out.rr hR rfl rfl size51 ?_; intro hfin))
                  refine ret_arr 6 (w.heap.size + 1 + 1) 39 8 39 38 (part h s 8) rfl rfl rfl hfin Tryd.underlying39 size51 ?_
                  intro R2 hR2
                  exact ⟨R2, rfl, hR2.congr (fun i hi => by have := HB.out; rw [← this]; simp [part, hi]), below_setRow HS5.out.bel (by omega)⟩
end Go.Proofs.YtjfdgidhgijheaaDoor
