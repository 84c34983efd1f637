/-
  Texts laid together: Words, After, Pad, Padw.
-/
import Derived.Test.YthlgohplljcgfaaGreatDoorPkESN19
import Derived.Test.YthlgohplljcgfaaGreatDoorPkESN0
import Derived.Lib.ConvBytes
import Derived.Lib.BufferWrite
/-
  The words of a block, as the program makes them; the rotation of the standard library.
-/
namespace Go.Proofs.YthlgohplljcgfaaGreatDoor
open Go.RowKit Go.BigFrame
set_option linter.unusedVariables false

theorem brot' (a : UInt32) (n : Nat) (h : n ≤ 32) : bits .or .u32 ((a.toNat : Int) * ((2 ^ (32 - n) : Nat) : Int) % 4294967296) ((a.toNat : Int) / ((2 ^ n : Nat) : Int)) = ((H.rotr a n).toNat : Int) := by
  have h1 : a.toNat / 2 ^ n < 4294967296 := Nat.lt_of_le_of_lt (Nat.div_le_self _ _) (H.u32_lt a)
  have h2 : a.toNat * 2 ^ (32 - n) % 4294967296 < 4294967296 := Nat.mod_lt _ (by omega)
  have e := u32_or_nat _ _ h2 h1
  unfold H.rotr
  rw [H.toNat_of _ (Nat.or_lt_two_pow (n := 32) h1 h2), Nat.or_comm, ← e]
  simp

theorem Rot2 (x : UInt32) (w : World) :
    Calls Tryz.prog 195 #[.int .u32 (x.toNat : Int), .int .i64 (-2)] w fun e w' => e = .returned (.int .u32 ((H.rotr x 2).toNat : Int)) ∧ w' = w := by
  have hr : bits .or .u32 ((x.toNat : Int) * 1073741824 % 4294967296) ((x.toNat : Int) / 4) = ((H.rotr x 2).toNat : Int) := brot' x 2 (by omega)
  have ha : bits .and .u64 (IntKind.u64.wrap (-2)) 31 = 30 := by rfl
  go_enter Tryz.func195, Tryz.ntmps195
  go_wp2
  go_ret
  exact ⟨rfl, rfl⟩
theorem Rot6 (x : UInt32) (w : World) :
    Calls Tryz.prog 195 #[.int .u32 (x.toNat : Int), .int .i64 (-6)] w fun e w' => e = .returned (.int .u32 ((H.rotr x 6).toNat : Int)) ∧ w' = w := by
  have hr : bits .or .u32 ((x.toNat : Int) * 67108864 % 4294967296) ((x.toNat : Int) / 64) = ((H.rotr x 6).toNat : Int) := brot' x 6 (by omega)
  have ha : bits .and .u64 (IntKind.u64.wrap (-6)) 31 = 26 := by rfl
  go_enter Tryz.func195, Tryz.ntmps195
  go_wp2
  go_ret
  exact ⟨rfl, rfl⟩
theorem Rot7 (x : UInt32) (w : World) :
    Calls Tryz.prog 195 #[.int .u32 (x.toNat : Int), .int .i64 (-7)] w fun e w' => e = .returned (.int .u32 ((H.rotr x 7).toNat : Int)) ∧ w' = w := by
  have hr : bits .or .u32 ((x.toNat : Int) * 33554432 % 4294967296) ((x.toNat : Int) / 128) = ((H.rotr x 7).toNat : Int) := brot' x 7 (by omega)
  have ha : bits .and .u64 (IntKind.u64.wrap (-7)) 31 = 25 := by rfl
  go_enter Tryz.func195, Tryz.ntmps195
  go_wp2
  go_ret
  exact ⟨rfl, rfl⟩
theorem Rot11 (x : UInt32) (w : World) :
    Calls Tryz.prog 195 #[.int .u32 (x.toNat : Int), .int .i64 (-11)] w fun e w' => e = .returned (.int .u32 ((H.rotr x 11).toNat : Int)) ∧ w' = w := by
  have hr : bits .or .u32 ((x.toNat : Int) * 2097152 % 4294967296) ((x.toNat : Int) / 2048) = ((H.rotr x 11).toNat : Int) := brot' x 11 (by omega)
  have ha : bits .and .u64 (IntKind.u64.wrap (-11)) 31 = 21 := by rfl
  go_enter Tryz.func195, Tryz.ntmps195
  go_wp2
  go_ret
  exact ⟨rfl, rfl⟩
theorem Rot13 (x : UInt32) (w : World) :
    Calls Tryz.prog 195 #[.int .u32 (x.toNat : Int), .int .i64 (-13)] w fun e w' => e = .returned (.int .u32 ((H.rotr x 13).toNat : Int)) ∧ w' = w := by
  have hr : bits .or .u32 ((x.toNat : Int) * 524288 % 4294967296) ((x.toNat : Int) / 8192) = ((H.rotr x 13).toNat : Int) := brot' x 13 (by omega)
  have ha : bits .and .u64 (IntKind.u64.wrap (-13)) 31 = 19 := by rfl
  go_enter Tryz.func195, Tryz.ntmps195
  go_wp2
  go_ret
  exact ⟨rfl, rfl⟩
theorem Rot17 (x : UInt32) (w : World) :
    Calls Tryz.prog 195 #[.int .u32 (x.toNat : Int), .int .i64 (-17)] w fun e w' => e = .returned (.int .u32 ((H.rotr x 17).toNat : Int)) ∧ w' = w := by
  have hr : bits .or .u32 ((x.toNat : Int) * 32768 % 4294967296) ((x.toNat : Int) / 131072) = ((H.rotr x 17).toNat : Int) := brot' x 17 (by omega)
  have ha : bits .and .u64 (IntKind.u64.wrap (-17)) 31 = 15 := by rfl
  go_enter Tryz.func195, Tryz.ntmps195
  go_wp2
  go_ret
  exact ⟨rfl, rfl⟩
theorem Rot18 (x : UInt32) (w : World) :
    Calls Tryz.prog 195 #[.int .u32 (x.toNat : Int), .int .i64 (-18)] w fun e w' => e = .returned (.int .u32 ((H.rotr x 18).toNat : Int)) ∧ w' = w := by
  have hr : bits .or .u32 ((x.toNat : Int) * 16384 % 4294967296) ((x.toNat : Int) / 262144) = ((H.rotr x 18).toNat : Int) := brot' x 18 (by omega)
  have ha : bits .and .u64 (IntKind.u64.wrap (-18)) 31 = 14 := by rfl
  go_enter Tryz.func195, Tryz.ntmps195
  go_wp2
  go_ret
  exact ⟨rfl, rfl⟩
theorem Rot19 (x : UInt32) (w : World) :
    Calls Tryz.prog 195 #[.int .u32 (x.toNat : Int), .int .i64 (-19)] w fun e w' => e = .returned (.int .u32 ((H.rotr x 19).toNat : Int)) ∧ w' = w := by
  have hr : bits .or .u32 ((x.toNat : Int) * 8192 % 4294967296) ((x.toNat : Int) / 524288) = ((H.rotr x 19).toNat : Int) := brot' x 19 (by omega)
  have ha : bits .and .u64 (IntKind.u64.wrap (-19)) 31 = 13 := by rfl
  go_enter Tryz.func195, Tryz.ntmps195
  go_wp2
  go_ret
  exact ⟨rfl, rfl⟩
theorem Rot22 (x : UInt32) (w : World) :
    Calls Tryz.prog 195 #[.int .u32 (x.toNat : Int), .int .i64 (-22)] w fun e w' => e = .returned (.int .u32 ((H.rotr x 22).toNat : Int)) ∧ w' = w := by
  have hr : bits .or .u32 ((x.toNat : Int) * 1024 % 4294967296) ((x.toNat : Int) / 4194304) = ((H.rotr x 22).toNat : Int) := brot' x 22 (by omega)
  have ha : bits .and .u64 (IntKind.u64.wrap (-22)) 31 = 10 := by rfl
  go_enter Tryz.func195, Tryz.ntmps195
  go_wp2
  go_ret
  exact ⟨rfl, rfl⟩
theorem Rot25 (x : UInt32) (w : World) :
    Calls Tryz.prog 195 #[.int .u32 (x.toNat : Int), .int .i64 (-25)] w fun e w' => e = .returned (.int .u32 ((H.rotr x 25).toNat : Int)) ∧ w' = w := by
  have hr : bits .or .u32 ((x.toNat : Int) * 128 % 4294967296) ((x.toNat : Int) / 33554432) = ((H.rotr x 25).toNat : Int) := brot' x 25 (by omega)
  have ha : bits .and .u64 (IntKind.u64.wrap (-25)) 31 = 7 := by rfl
  go_enter Tryz.func195, Tryz.ntmps195
  go_wp2
  go_ret
  exact ⟨rfl, rfl⟩


structure WS (w wr : World) (W : Nat → UInt32) : Prop where
  rr : Arr wr w.heap.size 193 64 (fun _ => 0)
  ww : Arr wr (w.heap.size + 1) 193 64 W
  bel : Below w.heap.size w wr
theorem WS.start (w : World) : WS w ((w.alloc (.cells (zeros 64) 193)).alloc (.cells (zeros 64) 193)) (fun _ => 0) := by
  refine ⟨(Arr.agg (AggIs.zeros 64)).alloc _, ?_, ((Below.refl _ _).alloc (Nat.le_refl _) _).alloc (by simp) _⟩
  have := Arr.agg (w := w.alloc (.cells (zeros 64) 193)) (t := 193) (AggIs.zeros 64)
  simpa using this
theorem WS.set {w wr : World} {W : Nat → UInt32} (s : WS w wr W) (i : Nat) (hi : i < 64) (x : UInt32) : WS w (wr.setCell ⟨w.heap.size + 1, i, none⟩ (.int .u32 (x.toNat : Int))) (H.upd W i x) :=
  ⟨s.rr.other _ _ _ (by omega), s.ww.set i hi x, s.bel.setCell (p := ⟨w.heap.size + 1, i, none⟩) (by show w.heap.size ≤ w.heap.size + 1; omega) _⟩
theorem WS.drewN {w wr : World} {W : Nat → UInt32} (s : WS w wr W) (n : Nat) : WS w (wr.drewN n) W := ⟨s.rr, s.ww, s.bel.trans ⟨rfl, rfl, rfl, Nat.le_refl _, fun _ _ => rfl⟩⟩

def Q1 (w : World) (b : ByteArray) (i : Value) (wr : World) : Prop := ∃ m : Nat, m ≤ 16 ∧ i = .int .i64 m ∧ WS w wr (H.wHead (bAt b) m)
def Q2 (w : World) (b : ByteArray) (i : Value) (wr : World) : Prop := ∃ m : Nat, m ≤ 48 ∧ i = .int .i64 m ∧ WS w wr (H.wMore (H.wHead (bAt b) 16) m)

theorem run_cut (b : ByteArray) (x y : Int) (i j : Nat) (hx : x = (i : Int)) (hy : y = (j : Int)) (hij : i ≤ j) (hj : j ≤ b.size) (W : World) : (Instr.slice 9 (.string b) (some (.int .i64 x)) (some (.int .i64 y)) none).run Tryz.prog W = .ok (.string (b.extract i j)) W := by
  subst hx
  subst hy
  rw [run_slice_string W 9 b .i64 .i64 _ _ Tryz.underlying9 (by omega) (by omega) (by omega)]
  simp
theorem bAt_lt (b : ByteArray) (j : Nat) : bAt b j < 256 := UInt8.toNat_lt _
/-- four bytes of a text, cut out, and each of them -/
theorem cut4 (b : ByteArray) (m : Nat) (h : 4 * m + 4 ≤ b.size) : ∃ c : ByteArray, (∀ W, (Instr.slice 9 (.string b) (some (.int .i64 (4 * (m : Int)))) (some (.int .i64 (4 * (m : Int) + 4))) none).run Tryz.prog W = .ok (.string c) W) ∧
    ∀ j : Nat, j < 4 → ∀ (x : Int), x = (j : Int) → ∀ W, (Instr.index 9 (.string c) (.int .i64 x)).run Tryz.prog W = .ok (.int .u8 ((bAt b (4 * m + j) : Nat) : Int)) W := by
  have h1 : (b.extract (4 * m) (4 * m + 4)).size = 4 := by rw [ByteArray.size_extract]; omega
  refine ⟨b.extract (4 * m) (4 * m + 4), run_cut b _ _ _ _ (by omega) (by omega) (by omega) h, fun j hj x hx W => ?_⟩
  rw [run_at _ x j hx (by omega) W, bAt_eq b (4 * m + j) (by omega), ByteArray.getElem_extract]

set_option maxHeartbeats 1000000 in
set_option maxRecDepth 100000 in
theorem shaWords_any (b : ByteArray) (hb : b.size = 64) (w : World) :
    Calls Tryz.prog 194 #[.string b] w fun e w' => ∃ R, e = .returned (.agg R) ∧ AggIs R 64 (H.wAll (bAt b)) ∧ Below w.heap.size w w' := by
  have HST : Hid (WS w ((w.alloc (.cells (zeros 64) 193)).alloc (.cells (zeros 64) 193)) (fun _ => 0)) := WS.start w
  go_enter Tryz.func194, Tryz.ntmps194
  go_wp2_with (first | (with_reducible refine wp_build rfl rfl ?_) | (with_reducible refine wp_alloc55 rfl rfl ?_) | (refine wp_store55 rfl _ _ rfl _ rfl rfl rfl ?_))
  generalize ((w.alloc (.cells (zeros 64) 193)).alloc (.cells (zeros 64) 193)) = w1 at *
  go_loopw [12] (fun i wr => Q1 w b i wr) (fun i _ => 16 - (intOf i).toNat)
  case atStart => exact ⟨0, by omega, rfl, HST.out⟩
  case round =>
    obtain ⟨m, hm, rfl, hs⟩ := hrel
    by_cases hlt : m < 16
    · obtain ⟨c, hcut, hcj⟩ := cut4 b m (by omega)
      have hst := fun q => (hs.drewN q).set m (by omega) (H.word (bAt b) m)
      have HS' : Hid (∀ q, WS w ((wr.drewN q).setCell ⟨w.heap.size + 1, m, none⟩ (.int .u32 ((H.word (bAt b) m).toNat : Int))) (H.wHead (bAt b) (m + 1))) := hst
      have c0 := hs.ww.cell m (by omega)
      have f0 := hs.ww.frozen m
      have x0 := hcj 0 (by omega) 0 rfl
      have x1 := hcj 1 (by omega) 1 rfl
      have x2 := hcj 2 (by omega) 2 rfl
      have x3 := hcj 3 (by omega) 3 rfl
      have l0 := bAt_lt b (4 * m + 0)
      have l1 := bAt_lt b (4 * m + 1)
      have l2 := bAt_lt b (4 * m + 2)
      have l3 := bAt_lt b (4 * m + 3)
      have hwd := H.word_eq _ _ _ _ l0 l1 l2 l3
      have hx : ((bAt b (4 * m + 0) * 16777216 + bAt b (4 * m + 1) * 65536 + bAt b (4 * m + 2) * 256 + bAt b (4 * m + 3) : Nat) : Int) = ((H.word (bAt b) m).toNat : Int) := by
        unfold H.word
        rw [H.toNat_of _ (by simp only [Nat.add_zero] at l0; omega)]
        rfl
      rw [hx] at hwd
      generalize bAt b (4 * m + 0) = n0 at *
      generalize bAt b (4 * m + 1) = n1 at *
      generalize bAt b (4 * m + 2) = n2 at *
      generalize bAt b (4 * m + 3) = n3 at *
      clear hs hst hcj hx
      have i2 : (0 : Int) ≤ (m : Int) := by omega
      have i3 : (m : Int) < 64 := by omega
      go_wp2
      go_region
      go_wp2
      go_roundw
      case rel => exact ⟨m + 1, by omega, by go_num, HS'.out 1⟩
      case measure => simp [intOf]; omega
    · have hme : m = 16 := by omega
      have hI : (m : Int) = 16 := by omega
      rw [hI]
      clear hI
      subst hme
      have HS : Hid (WS w wr (H.wHead (bAt b) 16)) := hs
      clear hs HST
      go_wp2
      go_loopw [43] (fun i wx => Q2 w b i wx) (fun i _ => 48 - (intOf i).toNat)
      case atStart => exact ⟨0, by omega, rfl, HS.out⟩
      case round =>
        obtain ⟨n, hn, rfl, hs⟩ := hrel
        by_cases hlt2 : n < 48
        · have HF : Hid (H.wMore (H.wHead (bAt b) 16) (n + 1) = H.upd (H.wMore (H.wHead (bAt b) 16) n) (16 + n) (H.wStep (H.wMore (H.wHead (bAt b) 16) n) (16 + n))) := rfl
          generalize H.wMore (H.wHead (bAt b) 16) n = F at *
          have hst := fun q => (hs.drewN q).set (16 + n) (by omega) (H.wStep F (16 + n))
          have HW : Hid (H.wStep F (16 + n) = ((F (16 + n - 16) + H.sig0 (F (16 + n - 15))) + F (16 + n - 7)) + H.sig1 (F (16 + n - 2))) := rfl
          have c15 := hs.ww.cell (16 + n - 15) (by omega)
          have c2 := hs.ww.cell (16 + n - 2) (by omega)
          have c16 := hs.ww.cell (16 + n - 16) (by omega)
          have c7 := hs.ww.cell (16 + n - 7) (by omega)
          have c0 := hs.ww.cell (16 + n) (by omega)
          have f0 := hs.ww.frozen (16 + n)
          generalize F (16 + n - 15) = X15 at *
          generalize F (16 + n - 2) = X2 at *
          generalize F (16 + n - 16) = X16 at *
          generalize F (16 + n - 7) = X7 at *
          generalize F (16 + n) = X0 at *
          obtain ⟨x1, e1⟩ : ∃ x, H.rotr X15 7 ^^^ H.rotr X15 18 = x := ⟨_, rfl⟩
          have s1 : (X15.toNat : Int) / 8 = ((H.shr X15 3).toNat : Int) := H.bshr X15 3
          obtain ⟨x2, e2⟩ : ∃ x, x1 ^^^ H.shr X15 3 = x := ⟨_, rfl⟩
          obtain ⟨x3, e3⟩ : ∃ x, H.rotr X2 17 ^^^ H.rotr X2 19 = x := ⟨_, rfl⟩
          have s2 : (X2.toNat : Int) / 1024 = ((H.shr X2 10).toNat : Int) := H.bshr X2 10
          obtain ⟨x4, e4⟩ : ∃ x, x3 ^^^ H.shr X2 10 = x := ⟨_, rfl⟩
          obtain ⟨x5, e5⟩ : ∃ x, X16 + x2 = x := ⟨_, rfl⟩
          obtain ⟨x6, e6⟩ : ∃ x, x5 + X7 = x := ⟨_, rfl⟩
          have e7 : x6 + x4 = H.wStep F (16 + n) := by rw [HW.out, ← e6, ← e5, ← e2, ← e1, ← e4, ← e3]; rfl
          generalize H.wStep F (16 + n) = WS' at *
          have HST2 : Hid (∀ q, WS w ((wr.drewN q).setCell ⟨w.heap.size + 1, 16 + n, none⟩ (.int .u32 (WS'.toNat : Int))) (H.upd F (16 + n) WS')) := hst
          have b1 := bx' e1
          have b2 := bx' e2
          have b3 := bx' e3
          have b4 := bx' e4
          have a1 := badd' e5
          have a2 := badd' e6
          have a3 := badd' e7
          clear e1 e2 e3 e4 e5 e6 e7 HW hst hs
          have t15 : ((n : Int) + 16 - 15).toNat = 16 + n - 15 := by omega
          have t2 : ((n : Int) + 16 - 2).toNat = 16 + n - 2 := by omega
          have en : 16 + n - 16 = n := by omega
          rw [en] at c16
          clear en
          have t7 : ((n : Int) + 16 - 7).toNat = 16 + n - 7 := by omega
          have t0 : ((n : Int) + 16).toNat = 16 + n := by omega
          have i0 : (0 : Int) ≤ (n : Int) + 16 - 15 := by omega
          have i1 : (n : Int) + 16 - 15 < 64 := by omega
          have i2 : (0 : Int) ≤ (n : Int) + 16 - 2 := by omega
          have i3 : (n : Int) + 16 - 2 < 64 := by omega
          have i4 : (0 : Int) ≤ (n : Int) := by omega
          have i5 : (n : Int) < 64 := by omega
          have i6 : (0 : Int) ≤ (n : Int) + 16 - 7 := by omega
          have i7 : (n : Int) + 16 - 7 < 64 := by omega
          have i8 : (n : Int) + 16 < 64 := by omega
          have i9 : (0 : Int) ≤ (n : Int) + 16 := by omega
          go_wp2
          refine wp_region_quiet_lit (by kernel_rfl) (by kernel_rfl) ?_
          go_big_quiet_step (fail)
          go_big_quiet_step (fail)
          go_big_quiet_step (fail)
          go_big_quiet_step (fail)
          go_big_quiet_step (fail)
          go_big_quiet_step (fail)
          go_big_quiet_step (fail)
          go_big_quiet_step (fail)
          go_big_quiet_step (fail)
          go_big_quiet_step (fail)
          refine wpQuiet_nil ?_
          rintro _ ⟨q1, rfl⟩
          go_wp2_with fail
          refine (Rot7 X15 _).mono ?_
          rintro e w7 ⟨rfl, rfl⟩
          go_wp2_with fail
          refine (Rot18 X15 _).mono ?_
          rintro e w18 ⟨rfl, rfl⟩
          go_wp2_with fail
          refine (Rot17 X2 _).mono ?_
          rintro e w17 ⟨rfl, rfl⟩
          go_wp2_with fail
          refine (Rot19 X2 _).mono ?_
          rintro e w19 ⟨rfl, rfl⟩
          go_wp2_with fail
          go_region
          go_wp2
          go_roundw
          case rel => exact ⟨n + 1, by omega, by go_num, by rw [HF.out]; exact HST2.out _⟩
          case measure => simp [intOf]; omega
        · have hne : n = 48 := by omega
          subst hne
          have HS2 : Hid (WS w wr (H.wAll (bAt b))) := hs
          clear hs HS
          go_wp2_with (first | (refine wp_loadArr rfl 193 _ rfl (w.heap.size + 1) 193 64 (H.wAll (bAt b)) 167 rfl HS2.out.ww Tryz.underlying193 size61 ?_; intro R hR) | (refine wp_storeArr rfl 193 _ _ rfl w.heap.size 193 64 _ (H.wAll (bAt b)) R HS2.out.rr hR rfl rfl size61 ?_; intro hfin))
          refine ret_arr 2 w.heap.size 193 64 193 167 (H.wAll (bAt b)) rfl rfl rfl hfin Tryz.underlying193 size61 ?_
          intro R2 hR2
          exact ⟨R2, rfl, hR2, below_setRow HS2.out.bel (Nat.le_refl _)⟩
end Go.Proofs.YthlgohplljcgfaaGreatDoor
/-
  What the program makes of a state and a block.
-/
namespace Go.Proofs.YthlgohplljcgfaaGreatDoor
open Go.RowKit Go.BigFrame
set_option linter.unusedVariables false

def keyL : List UInt32 := [1116352408, 1899447441, 3049323471, 3921009573, 961987163, 1508970993, 2453635748, 2870763221, 3624381080, 310598401, 607225278, 1426881987, 1925078388, 2162078206, 2614888103, 3248222580, 3835390401, 4022224774, 264347078, 604807628, 770255983, 1249150122, 1555081692, 1996064986, 2554220882, 2821834349, 2952996808, 3210313671, 3336571891, 3584528711, 113926993, 338241895, 666307205, 773529912, 1294757372, 1396182291, 1695183700, 1986661051, 2177026350, 2456956037, 2730485921, 2820302411, 3259730800, 3345764771, 3516065817, 3600352804, 4094571909, 275423344, 430227734, 506948616, 659060556, 883997877, 958139571, 1322822218, 1537002063, 1747873779, 1955562222, 2024104815, 2227730452, 2361852424, 2428436474, 2756734187, 3204031479, 3329325298]
def keyF (i : Nat) : UInt32 := keyL.getD i 0
def firstL : List UInt32 := [1779033703, 3144134277, 1013904242, 2773480762, 1359893119, 2600822924, 528734635, 1541459225]
def firstF (i : Nat) : UInt32 := firstL.getD i 0

/-- the two tables of the program, as its text lays them -/
def TabK (w : World) : Prop := ∀ i : Nat, i < 64 → w.cell? ⟨2, i, none⟩ = some (.int .u32 ((keyF i).toNat : Int))
def TabF (w : World) : Prop := ∀ i : Nat, i < 8 → w.cell? ⟨1, i, none⟩ = some (.int .u32 ((firstF i).toNat : Int))
theorem cell_pos {w : World} {g i : Nat} {v : Value} (h : w.cell? ⟨g, i, none⟩ = some v) : g < w.heap.size := by
  rcases Nat.lt_or_ge g w.heap.size with hz | hz
  · exact hz
  · simp [World.cell?, Array.getElem?_eq_none hz] at h
theorem TabK.pos {w : World} (h : TabK w) : 2 < w.heap.size := cell_pos (h 0 (by omega))
theorem TabF.pos {w : World} (h : TabF w) : 1 < w.heap.size := cell_pos (h 0 (by omega))
theorem TabK.later {w w' : World} {B : Nat} (h : TabK w) (hb : Below B w w') (hB : 2 < B) : TabK w' := fun i hi => (hb.cell (p := ⟨2, i, none⟩) hB).trans (h i hi)
theorem TabF.later {w w' : World} {B : Nat} (h : TabF w) (hb : Below B w w') (hB : 1 < B) : TabF w' := fun i hi => (hb.cell (p := ⟨1, i, none⟩) hB).trans (h i hi)

theorem Arr.below {w w' : World} {g t n B : Nat} {f : Nat → UInt32} (h : Arr w g t n f) (hb : Below B w w') (hg : g < B) : Arr w' g t n f := h.keep (hb.block g hg)

/-- the blocks of the function: the state, the result, the words -/
structure AS (w wr : World) (g : Nat) (s W : Nat → UInt32) : Prop where
  ss : Arr wr w.heap.size 228 8 s
  rr : Arr wr (w.heap.size + 1) 228 8 (fun _ => 0)
  ww : Arr wr g 193 64 W
  tt : TabK wr
  bel : Below w.heap.size w wr
theorem AS.start {w w2 : World} {Sc R : Array Value} {s W : Nat → UInt32} (hS : AggIs Sc 8 s) (hR : AggIs R 64 W) (hT : TabK w) (hb : Below ((w.alloc (.cells Sc 228)).alloc (.cells (zeros 8) 228)).heap.size ((w.alloc (.cells Sc 228)).alloc (.cells (zeros 8) 228)) w2) :
    AS w (w2.alloc (.cells R 193)) w2.heap.size s W := by
  have a1 := (Arr.agg (w := w) (t := 228) hS).alloc (.cells (zeros 8) 228)
  have a2 := Arr.agg (w := w.alloc (.cells Sc 228)) (t := 228) (AggIs.zeros 8)
  have hp := hT.pos
  have hb0 : Below w.heap.size w ((w.alloc (.cells Sc 228)).alloc (.cells (zeros 8) 228)) := ((Below.refl _ _).alloc (Nat.le_refl _) _).alloc (by simp) _
  have hs : ((w.alloc (.cells Sc 228)).alloc (.cells (zeros 8) 228)).heap.size = w.heap.size + 1 + 1 := by simp
  have hb1 := hb.size
  rw [hs] at hb hb1
  have hb2 : Below w.heap.size w w2 := hb0.trans (hb.mono (by omega))
  have hb3 := hb2.alloc (by omega) (.cells R 193)
  refine ⟨(a1.below hb (by omega)).alloc _, ?_, Arr.agg hR, hT.later hb3 hp, hb3⟩
  have a3 := (a2.below hb (by simp)).alloc (.cells R 193)
  simpa using a3
theorem AS.drewN {w wr : World} {g : Nat} {s W : Nat → UInt32} (q : AS w wr g s W) (n : Nat) : AS w (wr.drewN n) g s W := ⟨q.ss, q.rr, q.ww, q.tt, q.bel.trans ⟨rfl, rfl, rfl, Nat.le_refl _, fun _ _ => rfl⟩⟩

theorem agg8 (B : Nat → UInt32) : AggIs #[.int .u32 ((B 0).toNat : Int), .int .u32 ((B 1).toNat : Int), .int .u32 ((B 2).toNat : Int), .int .u32 ((B 3).toNat : Int), .int .u32 ((B 4).toNat : Int), .int .u32 ((B 5).toNat : Int), .int .u32 ((B 6).toNat : Int), .int .u32 ((B 7).toNat : Int)] 8 B := by
  refine ⟨rfl, fun i hi => ?_⟩
  have h8 : i = 0 ∨ i = 1 ∨ i = 2 ∨ i = 3 ∨ i = 4 ∨ i = 5 ∨ i = 6 ∨ i = 7 := by omega
  rcases h8 with rfl | rfl | rfl | rfl | rfl | rfl | rfl | rfl <;> rfl

def v32 (x : UInt32) : Value := .int .u32 (x.toNat : Int)
def AR (w : World) (g : Nat) (s W : Nat → UInt32) (va vb vc vd ve vf vg vh i : Value) (wr : World) : Prop :=
  ∃ m : Nat, m ≤ 64 ∧ i = .int .i64 m ∧ va = v32 (H.rounds s keyF W m 0) ∧ vb = v32 (H.rounds s keyF W m 1) ∧ vc = v32 (H.rounds s keyF W m 2) ∧ vd = v32 (H.rounds s keyF W m 3) ∧ ve = v32 (H.rounds s keyF W m 4) ∧ vf = v32 (H.rounds s keyF W m 5) ∧ vg = v32 (H.rounds s keyF W m 6) ∧ vh = v32 (H.rounds s keyF W m 7) ∧ AS w wr g s W

set_option maxHeartbeats 1000000 in
set_option maxRecDepth 100000 in
theorem after_any (Sc : Array Value) (s : Nat → UInt32) (b : ByteArray) (hb : b.size = 64) (w : World) (hS : AggIs Sc 8 s) (hT : TabK w) :
    Calls Tryz.prog 189 #[.agg Sc, .string b] w fun e w' => ∃ R, e = .returned (.agg R) ∧ AggIs R 8 (H.block s keyF (bAt b)) ∧ Below w.heap.size w w' := by
  have HS : Hid (AggIs Sc 8 s) := hS
  have HT : Hid (TabK w) := hT
  clear hS hT
  go_enter Tryz.func189, Tryz.ntmps189
  go_wp2_with (first | (with_reducible refine wp_alloc55 rfl rfl ?_) | (refine wp_allocArr rfl 228 8 rfl zero52 ?_))
  refine (shaWords_any b hb _).mono ?_
  rintro e w2 ⟨R, rfl, hR, hb2⟩
  have hst := AS.start HS.out hR HT.out hb2
  have HST : Hid (AS w (w2.alloc (.cells R 193)) w2.heap.size s (H.wAll (bAt b))) := hst
  have HB : Hid (H.block s keyF (bAt b) = fun j => s j + H.rounds s keyF (H.wAll (bAt b)) 64 j) := rfl
  have HR : Hid (AggIs R 64 (H.wAll (bAt b))) := hR
  generalize H.wAll (bAt b) = W at *
  have c0 := hst.ss.cell 0 (by omega)
  have c1 := hst.ss.cell 1 (by omega)
  have c2 := hst.ss.cell 2 (by omega)
  have c3 := hst.ss.cell 3 (by omega)
  have c4 := hst.ss.cell 4 (by omega)
  have c5 := hst.ss.cell 5 (by omega)
  have c6 := hst.ss.cell 6 (by omega)
  have c7 := hst.ss.cell 7 (by omega)
  clear hst hb2 hR HS HT
  go_wp2_with (first | (with_reducible refine wp_alloc55 rfl rfl ?_) | (refine wp_storeNew rfl 193 64 _ _ rfl w2 _ R W rfl (zeros_size 64) HR.out rfl rfl size61 ?_))
  simp only [Act.put, List.setIfInBounds_toArray, List.set_cons_succ, List.set_cons_zero]
  refine wp_region_quiet_lit (by kernel_rfl) (by kernel_rfl) ?_
  iterate 24 go_big_quiet_step (fail)
  refine wpQuiet_nil ?_
  rintro _ ⟨q1, rfl⟩
  generalize w2.heap.size = g at *
  generalize w2.alloc (.cells R 193) = w3 at *
  go_wp2
  go_loopw [6, 7, 8, 9, 10, 11, 12, 13, 38] (fun va vb vc vd ve vf vg vh i wr => AR w g s W va vb vc vd ve vf vg vh i wr) (fun _ _ _ _ _ _ _ _ i _ => 64 - (intOf i).toNat)
  case atStart => exact ⟨0, by omega, rfl, rfl, rfl, rfl, rfl, rfl, rfl, rfl, rfl, HST.out.drewN _⟩
  case round =>
    obtain ⟨m, hm, rfl, rfl, rfl, rfl, rfl, rfl, rfl, rfl, rfl, hs⟩ := hrel
    clear c0 c1 c2 c3 c4 c5 c6 c7 HST HR
    by_cases hlt : m < 64
    · have HRR : Hid (H.rounds s keyF W (m + 1) = H.round (H.rounds s keyF W m) (keyF m) (W m)) := rfl
      have ck := hs.tt m hlt
      have cw := hs.ww.cell m hlt
      generalize H.rounds s keyF W m = t at *
      have HA : Hid (∀ q, AS w (wr.drewN q) g s W) := fun q => hs.drewN q
      clear hs
      have r0 : H.round t (keyF m) (W m) 0 = H.one t (keyF m) (W m) + H.two t := rfl
      have r4 : H.round t (keyF m) (W m) 4 = t 3 + H.one t (keyF m) (W m) := rfl
      have r1 : H.round t (keyF m) (W m) 1 = t 0 := rfl
      have r2 : H.round t (keyF m) (W m) 2 = t 1 := rfl
      have r3 : H.round t (keyF m) (W m) 3 = t 2 := rfl
      have r5 : H.round t (keyF m) (W m) 5 = t 4 := rfl
      have r6 : H.round t (keyF m) (W m) 6 = t 5 := rfl
      have r7 : H.round t (keyF m) (W m) 7 = t 6 := rfl
      have e1 : H.one t (keyF m) (W m) = (((t 7 + H.big1 (t 4)) + H.ch (t 4) (t 5) (t 6)) + keyF m) + W m := rfl
      have e2 : H.two t = H.big0 (t 0) + H.maj (t 0) (t 1) (t 2) := rfl
      generalize H.round t (keyF m) (W m) = t' at *
      generalize H.one t (keyF m) (W m) = ONE at *
      generalize H.two t = TWO at *
      generalize keyF m = KM at *
      generalize W m = WM at *
      generalize t 0 = S0 at *
      generalize t 1 = S1 at *
      generalize t 2 = S2 at *
      generalize t 3 = S3' at *
      generalize t 4 = S4 at *
      generalize t 5 = S5 at *
      generalize t 6 = S6 at *
      generalize t 7 = S7 at *
      obtain ⟨y1, g1⟩ : ∃ x, H.rotr S4 6 ^^^ H.rotr S4 11 = x := ⟨_, rfl⟩
      obtain ⟨y2, g2⟩ : ∃ x, y1 ^^^ H.rotr S4 25 = x := ⟨_, rfl⟩
      have q2 : H.big1 S4 = y2 := by rw [← g2, ← g1]; rfl
      obtain ⟨y3, g3⟩ : ∃ x, S4 &&& S5 = x := ⟨_, rfl⟩
      obtain ⟨y4, g4⟩ : ∃ x, S4 ^^^ 4294967295 = x := ⟨_, rfl⟩
      obtain ⟨y5, g5⟩ : ∃ x, y4 &&& S6 = x := ⟨_, rfl⟩
      obtain ⟨y6, g6⟩ : ∃ x, y3 ^^^ y5 = x := ⟨_, rfl⟩
      have q6 : H.ch S4 S5 S6 = y6 := by rw [← g6, ← g5, ← g4, ← g3]; rfl
      obtain ⟨y7, g7⟩ : ∃ x, S7 + y2 = x := ⟨_, rfl⟩
      obtain ⟨y8, g8⟩ : ∃ x, y7 + y6 = x := ⟨_, rfl⟩
      obtain ⟨y9, g9⟩ : ∃ x, y8 + KM = x := ⟨_, rfl⟩
      have g10 : y9 + WM = ONE := by rw [e1, q2, q6, g7, g8, g9]
      obtain ⟨z1, k1⟩ : ∃ x, H.rotr S0 2 ^^^ H.rotr S0 13 = x := ⟨_, rfl⟩
      obtain ⟨z2, k2⟩ : ∃ x, z1 ^^^ H.rotr S0 22 = x := ⟨_, rfl⟩
      have q3 : H.big0 S0 = z2 := by rw [← k2, ← k1]; rfl
      obtain ⟨z3, k3⟩ : ∃ x, S0 &&& S1 = x := ⟨_, rfl⟩
      obtain ⟨z4, k4⟩ : ∃ x, S0 &&& S2 = x := ⟨_, rfl⟩
      obtain ⟨z5, k5⟩ : ∃ x, z3 ^^^ z4 = x := ⟨_, rfl⟩
      obtain ⟨z6, k6⟩ : ∃ x, S1 &&& S2 = x := ⟨_, rfl⟩
      obtain ⟨z7, k7⟩ : ∃ x, z5 ^^^ z6 = x := ⟨_, rfl⟩
      have q7 : H.maj S0 S1 S2 = z7 := by rw [← k7, ← k6, ← k5, ← k4, ← k3]; rfl
      obtain ⟨z8, k8⟩ : ∃ x, ONE + z2 = x := ⟨_, rfl⟩
      have k9 : z8 + z7 = t' 0 := by rw [r0, e2, q3, q7, ← k8, UInt32.add_assoc]
      have k10 : S3' + ONE = t' 4 := r4.symm
      have bg1 := bx' g1
      have bg2 := bx' g2
      have bg3 := ba' g3
      have bg4 : bits .xor .u32 IntKind.u32.max (S4.toNat : Int) = (y4.toNat : Int) := by rw [← g4, UInt32.xor_comm]; exact H.bx 4294967295 S4
      have sg : IntKind.u32.signed = false := rfl
      have bg5 := ba' g5
      have bg6 := bx' g6
      have bg7 := badd' g7
      have bg8 := badd' g8
      have bg9 := badd' g9
      have bg10 := badd' g10
      have bk1 := bx' k1
      have bk2 := bx' k2
      have bk3 := ba' k3
      have bk4 := ba' k4
      have bk5 := bx' k5
      have bk6 := ba' k6
      have bk7 := bx' k7
      have bk8 := badd' k8
      have HV : Hid ((t' 1 = S0 ∧ t' 2 = S1) ∧ (t' 3 = S2 ∧ t' 5 = S4) ∧ (t' 6 = S5 ∧ t' 7 = S6)) := ⟨⟨r1, r2⟩, ⟨r3, r5⟩, ⟨r6, r7⟩⟩
      obtain ⟨N0, hN0⟩ : ∃ x, t' 0 = x := ⟨_, rfl⟩
      obtain ⟨N4, hN4⟩ : ∃ x, t' 4 = x := ⟨_, rfl⟩
      rw [hN0] at k9
      rw [hN4] at k10
      have bN0 := badd' k9
      have bN4 := badd' k10
      have HN : Hid (t' 0 = N0 ∧ t' 4 = N4) := ⟨hN0, hN4⟩
      clear g1 g2 g3 g4 g5 g6 g7 g8 g9 g10 k1 k2 k3 k4 k5 k6 k7 k8 k9 k10 hN4 hN0 e1 e2 q2 q3 q6 q7 r0 r1 r2 r3 r4 r5 r6 r7
      have i8 : (m : Int) < 64 := by omega
      have i9 : (0 : Int) ≤ (m : Int) := by omega
      unfold v32
      go_wp2_with fail
      refine (Rot6 S4 _).mono ?_
      rintro e w6 ⟨rfl, rfl⟩
      go_wp2_with fail
      refine (Rot11 S4 _).mono ?_
      rintro e w11 ⟨rfl, rfl⟩
      go_wp2_with fail
      refine (Rot25 S4 _).mono ?_
      rintro e w25 ⟨rfl, rfl⟩
      go_wp2_with fail
      refine wp_region_quiet_lit (by kernel_rfl) (by kernel_rfl) ?_
      iterate 14 go_big_quiet_step (fail)
      refine wpQuiet_nil ?_
      rintro _ ⟨q2, rfl⟩
      go_wp2_with fail
      refine (Rot2 S0 _).mono ?_
      rintro e w2 ⟨rfl, rfl⟩
      go_wp2_with fail
      refine (Rot13 S0 _).mono ?_
      rintro e w13 ⟨rfl, rfl⟩
      go_wp2_with fail
      refine (Rot22 S0 _).mono ?_
      rintro e w22 ⟨rfl, rfl⟩
      go_wp2_with fail
      go_roundw
      case rel =>
        refine ⟨m + 1, by omega, by go_num, ?_, ?_, ?_, ?_, ?_, ?_, ?_, ?_, HA.out _⟩
        · rw [HRR.out, HN.out.1, v32, ← bN0]
        · rw [HRR.out, HV.out.1.1]; rfl
        · rw [HRR.out, HV.out.1.2]; rfl
        · rw [HRR.out, HV.out.2.1.1]; rfl
        · rw [HRR.out, HN.out.2, v32, ← bN4]
        · rw [HRR.out, HV.out.2.1.2]; rfl
        · rw [HRR.out, HV.out.2.2.1]; rfl
        · rw [HRR.out, HV.out.2.2.2]; rfl
      case measure => simp [intOf]; omega
    · have hme : m = 64 := by omega
      subst hme
      have HS5 : Hid (AS w wr g s W) := hs
      have c0 := hs.ss.cell 0 (by omega)
      have c1 := hs.ss.cell 1 (by omega)
      have c2 := hs.ss.cell 2 (by omega)
      have c3 := hs.ss.cell 3 (by omega)
      have c4 := hs.ss.cell 4 (by omega)
      have c5 := hs.ss.cell 5 (by omega)
      have c6 := hs.ss.cell 6 (by omega)
      have c7 := hs.ss.cell 7 (by omega)
      clear hs
      have HB2 : Hid (∀ j, s j + H.rounds s keyF W 64 j = H.block s keyF (bAt b) j) := fun j => by rw [HB.out]
      generalize H.rounds s keyF W 64 = t at *
      obtain ⟨B, hB⟩ : ∃ B, H.block s keyF (bAt b) = B := ⟨_, rfl⟩
      rw [hB] at HB2
      have HBB : Hid (H.block s keyF (bAt b) = B) := hB
      clear hB
      have b0 := badd' (HB2.out 0)
      have b1 := badd' (HB2.out 1)
      have b2 := badd' (HB2.out 2)
      have b3 := badd' (HB2.out 3)
      have b4 := badd' (HB2.out 4)
      have b5 := badd' (HB2.out 5)
      have b6 := badd' (HB2.out 6)
      have b7 := badd' (HB2.out 7)
      have HAG : Hid (AggIs #[.int .u32 ((B 0).toNat : Int), .int .u32 ((B 1).toNat : Int), .int .u32 ((B 2).toNat : Int), .int .u32 ((B 3).toNat : Int), .int .u32 ((B 4).toNat : Int), .int .u32 ((B 5).toNat : Int), .int .u32 ((B 6).toNat : Int), .int .u32 ((B 7).toNat : Int)] 8 B) := agg8 B
      unfold v32
      go_wp2_with (refine wp_storeArr rfl 228 _ _ rfl (w.heap.size + 1) 228 8 _ B _ HS5.out.rr HAG.out rfl rfl size52 ?_; intro hfin)
      refine ret_arr 4 (w.heap.size + 1) 228 8 228 167 B rfl rfl rfl hfin Tryz.underlying228 size52 ?_
      intro R2 hR2
      exact ⟨R2, rfl, by rw [HBB.out]; exact hR2, below_setRow HS5.out.bel (by omega)⟩
end Go.Proofs.YthlgohplljcgfaaGreatDoor
/-
  What PadText answers, in plain words; a row of bytes that the call owns, also one that was made of a string.
-/
namespace Go.Proofs.YthlgohplljcgfaaGreatDoor
open Go.RowKit
set_option linter.unusedVariables false

/-- the byte of place j of the length, the highest first -/
def lenB (n j : Nat) : UInt8 := UInt8.ofNat (n / 256 ^ (7 - j))
def lenL (n k : Nat) : List UInt8 := (List.range k).map (lenB n)
def padZ (n : Nat) : Nat := (119 - n % 64) % 64
def padL (l : List UInt8) : List UInt8 := (l ++ [128] ++ List.replicate (padZ l.length) 0) ++ lenL (8 * l.length) 8

theorem lenL_len (n k : Nat) : (lenL n k).length = k := by simp [lenL]
theorem lenL_succ (n k : Nat) : lenL n (k + 1) = lenL n k ++ [lenB n k] := by simp [lenL, List.range_succ]
theorem padZ_mod (n : Nat) : (n + 1 + padZ n) % 64 = 56 := by unfold padZ; omega
theorem padZ_least (n k : Nat) (h : k < padZ n) : (n + 1 + k) % 64 ≠ 56 := by unfold padZ at h; omega
theorem padL_len (l : List UInt8) : (padL l).length = l.length + 1 + padZ l.length + 8 := by
  unfold padL
  rw [List.length_append, lenL_len]
  simp
  omega
theorem padL_blocks (l : List UInt8) : (padL l).length = (l.length + 72) / 64 * 64 := by
  rw [padL_len]
  unfold padZ
  omega

/-- v owns the bytes l, in blocks from B on; what lies behind its row may bear a mark; below B all is as it was in w0 -/
def OG (B : Nat) (w0 w : World) (v : Value) (l : List UInt8) : Prop :=
  (∃ (g cap : Nat) (cur : Array Value) (fz : Nat × Nat), v = .slice (some ⟨g, 0, none⟩) l.length cap ∧ B ≤ g ∧ w.heap[g]? = some (.cells cur 5 fz) ∧ (fz = (0, 0) ∨ cap ≤ fz.1) ∧ l.length ≤ cap ∧ cap ≤ maxLen ∧ cur.size = cap ∧
    ∀ j (h : j < l.length), cur[j]? = some (.int .u8 (l[j].toNat : Int))) ∧ Below B w0 w ∧ B ≤ w.heap.size

theorem OG.alloc {B : Nat} {w0 w : World} {v : Value} {l : List UInt8} (h : OG B w0 w v l) (o : Obj) : OG B w0 (w.alloc o) v l := by
  obtain ⟨⟨g, cap, cur, fz, hv, hb, hg, hr⟩, h2, h3⟩ := h
  exact ⟨⟨g, cap, cur, fz, hv, hb, by rw [Go.heap_alloc_old w o (Array.getElem?_eq_some_iff.1 hg).1]; exact hg, hr⟩, h2.alloc h3 o, by simp; omega⟩

theorem OG.size {B : Nat} {w0 w : World} {v : Value} {l : List UInt8} (h : OG B w0 w v l) : ∃ a cap, v = .slice a l.length cap := by
  obtain ⟨⟨g, cap, cur, fz, hv, _⟩, _⟩ := h
  exact ⟨_, cap, hv⟩

theorem OG.conv (t : ByteArray) (w : World) (ht : t.size ≤ maxLen) : ∃ (w' : World) (cap : Nat), (convert 9 159 (.string t)).run Tryz.prog w = .ok (.slice (some ⟨w.heap.size, 0, none⟩) t.size cap) w' ∧ OG w.heap.size w w' (.slice (some ⟨w.heap.size, 0, none⟩) t.size cap) t.data.toList := by
  have h1 : t.data.toList.length = t.size := Array.length_toList
  have hge := grownCap_ge w t.size 0 5
  have hcm := grownCap_le_maxLen w t.size 0 5 ht
  refine ⟨Lib.bytesWorld w 5 t, grownCap w t.size 0 5, Lib.run_convert_string_bytes w 9 159 5 t Tryz.underlying9 Tryz.underlying159 Tryz.underlying5, ⟨_, _, _, _, by rw [h1], Nat.le_refl _, Lib.bytesWorld_at_new w 5 t, ?_, by omega, hcm, ?_, ?_⟩, ⟨?_, ?_, ?_, ?_, ?_⟩, ?_⟩
  · right
    simp [Lib.bytesCells]
    have : t.data.size = t.size := rfl
    omega
  · simp [Lib.bytesCells]
    have : t.data.size = t.size := rfl
    omega
  · intro j hj
    have hj' : j < t.data.size := by have : t.data.size = t.size := rfl; omega
    have hj2 : j < t.size := hj'
    simp [Lib.bytesCells, Array.getElem?_append, hj2]
  · simp [Lib.bytesWorld, World.freeze, World.alloc, World.drew, -World.alloc_eq, -World.drew_eq]
  · simp [Lib.bytesWorld, World.freeze, World.alloc, World.drew, -World.alloc_eq, -World.drew_eq]
  · simp [Lib.bytesWorld, World.freeze, World.alloc, World.drew, -World.alloc_eq, -World.drew_eq]
  · rw [Lib.bytesWorld_size]; omega
  · intro b hb
    exact Lib.bytesWorld_at_old w 5 t b hb
  · rw [Lib.bytesWorld_size]; omega

/-- one byte more -/
theorem OG.app {B : Nat} {w0 w : World} {v : Value} {l : List UInt8} (h : OG B w0 w v l) (ty : TypeId) (ad : Addr) (c : Nat) (b : UInt8) (hx : w.cell? ad = some (.int .u8 (b.toNat : Int))) (hlen : l.length + 1 ≤ 1000000000) :
    ∃ v' w', (Builtin.append_ #[159, 159] ty #[v, .slice (some ad) 1 c]).run Tryz.prog w = .ok v' w' ∧ OG B w0 w' v' (l ++ [b]) := by
  obtain ⟨i0, hi, hz0, hz1, hz2⟩ := info_parts Tryz.info5
  obtain ⟨⟨g, cap, cur, fz, rfl, hb, hg, hfz, hn, hm, hcs, hcell⟩, hbel, hB⟩ := h
  have hglt := (Array.getElem?_eq_some_iff.1 hg).1
  have hnews : ∀ j u, [Value.int .u8 (b.toNat : Int)][j]? = some u → w.cell? (ad.add j) = some u := by
    intro j u hj
    have h0 : j = 0 := by
      rcases Nat.eq_zero_or_pos j with h0 | h0
      · exact h0
      · simp [List.getElem?_eq_none (show [Value.int .u8 (b.toNat : Int)].length ≤ j by simp; omega)] at hj
    subst h0
    simp at hj
    subst hj
    have : ad.add 0 = ad := by unfold Addr.add; split <;> simp_all
    rw [this]; exact hx
  by_cases hroom : l.length + 1 ≤ cap
  · have hi' : l.length < cur.size := by omega
    have hadd : (⟨g, 0, none⟩ : Addr).add l.length = ⟨g, l.length, none⟩ := by unfold Addr.add; split <;> simp_all
    have hadd0 : (⟨g, l.length, none⟩ : Addr).add 0 = ⟨g, l.length, none⟩ := by unfold Addr.add; split <;> simp_all
    have hc : w.cell? ⟨g, l.length, none⟩ = some cur[l.length] := by simp [World.cell?, hg, hi']
    have hf : w.frozen? ⟨g, l.length, none⟩ = false := by
      obtain ⟨lo, hi2⟩ := fz
      simp only [World.frozen?, hg, Bool.and_eq_false_iff, decide_eq_false_iff_not]
      rcases hfz with h0 | h0
      · simp at h0; right; omega
      · left; simp only at h0; omega
    have hfc := run_firstCells_some (P := Tryz.prog) w 1 1 ad 1 c [Value.int .u8 (b.toNat : Int)] rfl hnews
    have hst := run_store Tryz.prog w ⟨g, l.length, none⟩ (.int .u8 (b.toNat : Int)) .plain rfl
    rw [hc] at hst
    simp [hf] at hst
    refine ⟨.slice (some ⟨g, 0, none⟩) (l.length + 1) cap, w.setCell ⟨g, l.length, none⟩ (.int .u8 (b.toNat : Int)), ?_, ⟨g, cap, cur.setIfInBounds l.length (.int .u8 (b.toNat : Int)), fz, by simp, hb, ?_, hfz, by simpa using hroom, hm, by simpa using hcs, ?_⟩, hbel.setCell (p := ⟨g, l.length, none⟩) hb _, by simpa using hB⟩
    · simp [Builtin.append_, run_underlying Tryz.underlying159, sizeOf, typeInfo, hi, hz1, Builtin.lenOf, hroom, hfc, storeCells, hadd, hadd0, hst]
    · have := setCell_eq_setRow w g l.length cur 5 fz (.int .u8 (b.toNat : Int)) hg
      rw [this]
      exact setRow_heap w g cur _ 5 _ hg
    · intro j hj
      rw [Array.getElem?_setIfInBounds]
      by_cases he : l.length = j
      · subst he
        simp [hi']
      · rw [if_neg he]
        have hj2 : j < l.length := by simp at hj; omega
        rw [hcell j hj2, List.getElem_append_left hj2]
  · have hxs : ∀ j u, (bv l)[j]? = some u → w.cell? ((⟨g, 0, none⟩ : Addr).add j) = some u := by
      intro j u hj
      obtain ⟨hj', rfl⟩ := bv_get _ _ _ hj
      have hadd : (⟨g, 0, none⟩ : Addr).add j = ⟨g, j, none⟩ := by unfold Addr.add; split <;> simp_all
      rw [hadd, cell_of_row w g j cur 5 fz hg]
      exact hcell j hj'
    have hr := run_append_grow (P := Tryz.prog) w 159 ty 5 i0 (.int .u8 0) Tryz.underlying159 hi hz0 ⟨g, 0, none⟩ l.length cap (bv l) (by rw [hz1]; simp [bv]) hxs ad 1 c [Value.int .u8 (b.toNat : Int)] (by rw [hz1]; rfl) hnews (by omega) (by omega) (growslice_fits (by omega) (by rw [hz2]; omega))
    have hge := grownCap_ge w (l.length + 1) cap 5
    have hcm := grownCap_le_maxLen w (l.length + 1) cap 5 (by unfold maxLen; omega)
    refine ⟨_, _, hr, ⟨w.heap.size, _, _, (0, 0), by simp, by omega, heap_alloc_new w.drew _, .inl rfl, by simpa using hge, hcm, ?_, ?_⟩, (hbel.drew).alloc hB _, by simp; omega⟩
    · have hz : (Value.int IntKind.u8 0).cells.size = 1 := rfl
      simp only [Array.size_append, List.size_toArray, size_zeroCells, hz, bv_length]
      simp
      omega
    · intro j hj
      have hj2 : j < l.length + 1 := by simpa using hj
      simp only [List.append_toArray]
      rw [Array.getElem?_append_left (by simp [bv]; omega)]
      by_cases he : j < l.length
      · simp [bv, List.getElem?_append_left, he, List.getElem_append_left]
      · have : j = l.length := by omega
        subst this
        simp [bv]

/-- 'string(b)' -/
theorem OG.str {B : Nat} {w0 w : World} {v : Value} {l : List UInt8} (h : OG B w0 w v l) : (convert 159 9 v).run Tryz.prog w = .ok (.string ⟨l.toArray⟩) w := by
  obtain ⟨⟨g, cap, cur, fz, rfl, hb, hg, hfz, hn, hm, hcs, hcell⟩, hbel, hB⟩ := h
  refine run_convert_bytes_back w 159 9 5 ⟨g, 0, none⟩ cap l Tryz.underlying159 Tryz.underlying5 Tryz.underlying9 ?_
  intro j hj
  have hadd : (⟨g, 0, none⟩ : Addr).add j = ⟨g, j, none⟩ := by unfold Addr.add; split <;> simp_all
  rw [hadd, cell_of_row w g j cur 5 fz hg]
  exact hcell j hj

theorem wp_appg {w : World} {ops : Array Oper} {rest : List Oper} {o : Oper} {a : Act} {Q : Exit → Act → World → Prop} (hgd : o.guard = none) (s x : Operand)
    (ho : o.op = .call { callee := .builtin .append, args := #[s, x], argTypes := #[159, 159] })
    (B : Nat) (w0 : World) (v : Value) (l : List UInt8) (hs : a.eval s = v) (hown : OG B w0 w v l)
    (ad : Addr) (c : Nat) (b : UInt8) (hx : a.eval x = .slice (some ad) 1 c)
    (hnews : w.cell? ad = some (.int .u8 (b.toNat : Int))) (hlen : l.length + 1 ≤ 1000000000)
    (h : ∀ v' w', OG B w0 w' v' (l ++ [b]) → wpList Tryz.prog ops Q rest (a.put o.dst v') w') : wpList Tryz.prog ops Q (o :: rest) a w := by
  refine wpList_plain hgd fun K hK => ?_
  obtain ⟨v', w', hr, h2⟩ := hown.app o.type ad c b hnews hlen
  unfold Oper.wp
  simp [execOp, ho, resolve, invoke, builtin, hs, hx, hr, Result.andThen]
  exact hK _ _ (h v' w' h2)

end Go.Proofs.YthlgohplljcgfaaGreatDoor
/-
  The walks of PadText, the program's and the specification's.
-/
namespace Go.Proofs.YthlgohplljcgfaaGreatDoor
open Go.RowKit
set_option linter.unusedVariables false

def vlen : Value → Nat
  | .slice _ n _ => n
  | _ => 0

theorem OG.open {B : Nat} {w0 w : World} {v : Value} {l : List UInt8} (h : OG B w0 w v l) (n : Nat) (hn : l.length = n) : ∃ a cap, v = .slice a n cap := by
  subst hn
  exact h.size
theorem one_cell (w : World) (x : Int) (b : UInt8) (t : TypeId) (h : x = (b.toNat : Int)) : (w.alloc (.cells #[.int .u8 x] t)).cell? ⟨w.heap.size, 0, none⟩ = some (.int .u8 (b.toNat : Int)) := by
  subst h
  simp

def padHead (l : List UInt8) (k : Nat) : List UInt8 := l ++ [128] ++ List.replicate k 0
theorem padHead_len (l : List UInt8) (k : Nat) : (padHead l k).length = l.length + 1 + k := by simp [padHead]; omega
theorem padHead_succ (l : List UInt8) (k : Nat) : padHead l k ++ [0] = padHead l (k + 1) := by
  unfold padHead
  rw [List.append_assoc, ← List.replicate_succ']

def PadRel (t : ByteArray) (w : World) (v : Value) (wr : World) : Prop :=
  ∃ k : Nat, k ≤ padZ t.size ∧ OG w.heap.size w wr v (padHead t.data.toList k)
def PadRel2 (t : ByteArray) (w : World) (v i : Value) (wr : World) : Prop :=
  ∃ j : Nat, j ≤ 8 ∧ i = .int .i64 (7 - (j : Int)) ∧ OG w.heap.size w wr v (padHead t.data.toList (padZ t.size) ++ lenL (8 * t.size) j)

theorem lenB_nat (n j : Nat) : (lenB n j).toNat = n / 256 ^ (7 - j) % 256 := by simp [lenB]

set_option maxRecDepth 100000 in
set_option maxHeartbeats 1000000 in
theorem sPadText_any (t : ByteArray) (w : World) (ht : t.size ≤ 1048576) :
    Calls Tryz.prog 157 #[.string t] w fun e w' => e = .returned (.string ⟨(padL t.data.toList).toArray⟩) ∧ Below w.heap.size w w' := by
  obtain ⟨w1, cap, hcv, hog⟩ := OG.conv t w (by unfold maxLen; omega)
  have hl : t.data.toList.length = t.size := Array.length_toList
  go_enter Tryz.func157, Tryz.ntmps157
  go_wp2_with (at_builtin; refine wp_appg rfl _ _ rfl w.heap.size w _ t.data.toList rfl (hog.alloc _) ⟨w1.heap.size, 0, none⟩ 1 128 rfl ?c1 ?c2 ?_)
  case c1 => exact one_cell _ _ _ _ rfl
  case c2 => omega
  intro v w2 hown
  have HL : Hid (t.data.toList.length = t.size) := hl
  clear hcv hog hl
  go_wp2
  go_loopw [3] (fun v wr => PadRel t w v wr) (fun v _ => t.size + 1 + padZ t.size - vlen v)
  case atStart => exact ⟨0, Nat.zero_le _, by simpa [padHead] using hown⟩
  case round =>
    obtain ⟨k, hk, hog⟩ := hrel
    obtain ⟨N, hN⟩ : ∃ N : Nat, t.size + 1 + k = N := ⟨_, rfl⟩
    obtain ⟨a, c, rfl⟩ := hog.open N (by rw [padHead_len, HL.out]; exact hN)
    by_cases hlt : k < padZ t.size
    · have h56 : (N : Int) % 64 ≠ 56 := by have := padZ_least t.size k hlt; omega
      have hp : padZ t.size ≤ 63 := by unfold padZ; omega
      have HLT : Hid (k < padZ t.size) := hlt
      have HP := padHead_len t.data.toList k
      rw [HL.out] at HP
      have HN : Hid (t.size + 1 + k = N) := hN
      clear hlt hk hN
      go_wp2_with (at_builtin; refine wp_appg rfl _ _ rfl w.heap.size w _ (padHead t.data.toList k) rfl (hog.alloc _) ⟨wr.heap.size, 0, none⟩ 1 0 rfl ?c3 ?c4 ?_)
      case c3 => exact one_cell _ _ _ _ rfl
      case c4 => have := HLT.out; omega
      intro v3 w3 hown3
      rw [padHead_succ] at hown3
      go_wp2
      go_roundw
      case rel => exact ⟨k + 1, HLT.out, hown3⟩
      case measure =>
        obtain ⟨a3, c3, rfl⟩ := hown3.open (N + 1) (by rw [padHead_len, HL.out]; have := HN.out; omega)
        have := HN.out
        have := HLT.out
        show t.size + 1 + padZ t.size - (N + 1) < t.size + 1 + padZ t.size - N
        omega
    · have hke : k = padZ t.size := by omega
      have h56 : (N : Int) % 64 = 56 := by have := padZ_mod t.size; omega
      subst hke
      clear hk hlt
      have HN : Hid (t.size + 1 + padZ t.size = N) := hN
      clear hN
      go_wp2
      go_loopw [3, 5] (fun v i wr => PadRel2 t w v i wr) (fun _ i _ => (intOf i + 1).toNat)
      case atStart => exact ⟨0, by omega, rfl, by simpa [lenL] using hog⟩
      case round =>
        obtain ⟨j, hj, rfl, hog2⟩ := hrel
        have HP : (padHead t.data.toList (padZ t.size) ++ lenL (8 * t.size) j).length ≤ 1048576 + 80 := by
          rw [List.length_append, lenL_len, padHead_len, HL.out]
          have : padZ t.size ≤ 63 := by unfold padZ; omega
          omega
        have hS := lenL_succ (8 * t.size) j
        have hB := lenB_nat (8 * t.size) j
        clear hog h56
        by_cases h8 : j = 8
        · subst h8
          have hcv := hog2.str
          have HF : Hid (padHead t.data.toList (padZ t.size) ++ lenL (8 * t.size) 8 = padL t.data.toList) := by
            show _ = _
            unfold padL padHead
            rw [HL.out]
          rw [HF.out] at hcv
          clear hS hB HP
          go_wp2
          go_ret
          exact ⟨rfl, hog2.2.1⟩
        · obtain ⟨I, hI⟩ : ∃ I : Int, 7 - (j : Int) = I := ⟨_, rfl⟩
          rw [hI]
          have H8 : (j = 0 ∧ I = 7) ∨ (j = 1 ∧ I = 6) ∨ (j = 2 ∧ I = 5) ∨ (j = 3 ∧ I = 4) ∨ (j = 4 ∧ I = 3) ∨ (j = 5 ∧ I = 2) ∨ (j = 6 ∧ I = 1) ∨ (j = 7 ∧ I = 0) := by omega
          have HB : Hid ((lenB (8 * t.size) j).toNat = 8 * t.size / 256 ^ (7 - j) % 256) := hB
          have HS : Hid (lenL (8 * t.size) (j + 1) = lenL (8 * t.size) j ++ [lenB (8 * t.size) j]) := hS
          have HPP : Hid ((padHead t.data.toList (padZ t.size) ++ lenL (8 * t.size) j).length ≤ 1048576 + 80) := HP
          clear hB hS h8 hj HP hI
          rcases H8 with ⟨rfl, rfl⟩ | ⟨rfl, rfl⟩ | ⟨rfl, rfl⟩ | ⟨rfl, rfl⟩ | ⟨rfl, rfl⟩ | ⟨rfl, rfl⟩ | ⟨rfl, rfl⟩ | ⟨rfl, rfl⟩
          · go_wp2_with (at_builtin; refine wp_appg rfl _ _ rfl w.heap.size w _ (padHead t.data.toList (padZ t.size) ++ lenL (8 * t.size) 0) rfl (hog2.alloc _) ⟨_, 0, none⟩ 1 (lenB (8 * t.size) 0) rfl ?c5 ?c6 ?_)
            case c5 => exact one_cell _ _ _ _ (by have := HB.out; omega)
            case c6 => have := HPP.out; omega
            intro v5 w5 hown5
            rw [← lenL_succ] at hown5
            go_wp2
            go_roundw
            case rel => exact ⟨1, by omega, rfl, hown5⟩
            case measure => simp [intOf]
          · go_wp2_with (at_builtin; refine wp_appg rfl _ _ rfl w.heap.size w _ (padHead t.data.toList (padZ t.size) ++ lenL (8 * t.size) 1) rfl (hog2.alloc _) ⟨_, 0, none⟩ 1 (lenB (8 * t.size) 1) rfl ?c5 ?c6 ?_)
            case c5 => exact one_cell _ _ _ _ (by have := HB.out; omega)
            case c6 => have := HPP.out; omega
            intro v5 w5 hown5
            rw [← lenL_succ] at hown5
            go_wp2
            go_roundw
            case rel => exact ⟨2, by omega, rfl, hown5⟩
            case measure => simp [intOf]
          · go_wp2_with (at_builtin; refine wp_appg rfl _ _ rfl w.heap.size w _ (padHead t.data.toList (padZ t.size) ++ lenL (8 * t.size) 2) rfl (hog2.alloc _) ⟨_, 0, none⟩ 1 (lenB (8 * t.size) 2) rfl ?c5 ?c6 ?_)
            case c5 => exact one_cell _ _ _ _ (by have := HB.out; omega)
            case c6 => have := HPP.out; omega
            intro v5 w5 hown5
            rw [← lenL_succ] at hown5
            go_wp2
            go_roundw
            case rel => exact ⟨3, by omega, rfl, hown5⟩
            case measure => simp [intOf]
          · go_wp2_with (at_builtin; refine wp_appg rfl _ _ rfl w.heap.size w _ (padHead t.data.toList (padZ t.size) ++ lenL (8 * t.size) 3) rfl (hog2.alloc _) ⟨_, 0, none⟩ 1 (lenB (8 * t.size) 3) rfl ?c5 ?c6 ?_)
            case c5 => exact one_cell _ _ _ _ (by have := HB.out; omega)
            case c6 => have := HPP.out; omega
            intro v5 w5 hown5
            rw [← lenL_succ] at hown5
            go_wp2
            go_roundw
            case rel => exact ⟨4, by omega, rfl, hown5⟩
            case measure => simp [intOf]
          · go_wp2_with (at_builtin; refine wp_appg rfl _ _ rfl w.heap.size w _ (padHead t.data.toList (padZ t.size) ++ lenL (8 * t.size) 4) rfl (hog2.alloc _) ⟨_, 0, none⟩ 1 (lenB (8 * t.size) 4) rfl ?c5 ?c6 ?_)
            case c5 => exact one_cell _ _ _ _ (by have := HB.out; omega)
            case c6 => have := HPP.out; omega
            intro v5 w5 hown5
            rw [← lenL_succ] at hown5
            go_wp2
            go_roundw
            case rel => exact ⟨5, by omega, rfl, hown5⟩
            case measure => simp [intOf]
          · go_wp2_with (at_builtin; refine wp_appg rfl _ _ rfl w.heap.size w _ (padHead t.data.toList (padZ t.size) ++ lenL (8 * t.size) 5) rfl (hog2.alloc _) ⟨_, 0, none⟩ 1 (lenB (8 * t.size) 5) rfl ?c5 ?c6 ?_)
            case c5 => exact one_cell _ _ _ _ (by have := HB.out; omega)
            case c6 => have := HPP.out; omega
            intro v5 w5 hown5
            rw [← lenL_succ] at hown5
            go_wp2
            go_roundw
            case rel => exact ⟨6, by omega, rfl, hown5⟩
            case measure => simp [intOf]
          · go_wp2_with (at_builtin; refine wp_appg rfl _ _ rfl w.heap.size w _ (padHead t.data.toList (padZ t.size) ++ lenL (8 * t.size) 6) rfl (hog2.alloc _) ⟨_, 0, none⟩ 1 (lenB (8 * t.size) 6) rfl ?c5 ?c6 ?_)
            case c5 => exact one_cell _ _ _ _ (by have := HB.out; omega)
            case c6 => have := HPP.out; omega
            intro v5 w5 hown5
            rw [← lenL_succ] at hown5
            go_wp2
            go_roundw
            case rel => exact ⟨7, by omega, rfl, hown5⟩
            case measure => simp [intOf]
          · go_wp2_with (at_builtin; refine wp_appg rfl _ _ rfl w.heap.size w _ (padHead t.data.toList (padZ t.size) ++ lenL (8 * t.size) 7) rfl (hog2.alloc _) ⟨_, 0, none⟩ 1 (lenB (8 * t.size) 7) rfl ?c5 ?c6 ?_)
            case c5 => exact one_cell _ _ _ _ (by have := HB.out; omega)
            case c6 => have := HPP.out; omega
            intro v5 w5 hown5
            rw [← lenL_succ] at hown5
            go_wp2
            go_roundw
            case rel => exact ⟨8, by omega, rfl, hown5⟩
            case measure => simp [intOf]


/-- block g holds just the bytes l -/
def Byt (w : World) (g : Nat) (l : List UInt8) : Prop := w.heap[g]? = some (.cells (bv l).toArray 5 (0, 0))

theorem Byt.cell {w : World} {g : Nat} {l : List UInt8} (h : Byt w g l) (i : Nat) (hi : i < l.length) : w.cell? ⟨g, i, none⟩ = some (.int .u8 (l[i].toNat : Int)) := by
  rw [cell_of_row w g i _ 5 (0, 0) h]
  simp [bv, hi]
theorem Byt.has {w : World} {g : Nat} {l : List UInt8} (h : Byt w g l) (i : Nat) (hi : i < l.length) : ∃ x, w.cell? ⟨g, i, none⟩ = some x := ⟨_, h.cell i hi⟩
theorem Byt.frozen {w : World} {g : Nat} {l : List UInt8} (h : Byt w g l) (i : Nat) : w.frozen? ⟨g, i, none⟩ = false := by
  simp [World.frozen?, show w.heap[g]? = some (.cells (bv l).toArray 5 (0, 0)) from h]
theorem Byt.set {w : World} {g : Nat} {l : List UInt8} (h : Byt w g l) (i : Nat) (b : UInt8) (l' : List UInt8) (hl : l.set i b = l') : Byt (w.setCell ⟨g, i, none⟩ (.int .u8 (b.toNat : Int))) g l' := by
  subst hl
  unfold Byt at *
  rw [heap_setCell_same w g i _ 5 _ h]
  congr 2
  simp [bv, List.map_set]
theorem Byt.setx {w : World} {g : Nat} {l : List UInt8} (h : Byt w g l) (i : Nat) (x : Int) (b : UInt8) (l' : List UInt8) (hx : x = (b.toNat : Int)) (hl : l.set i b = l') : Byt (w.setCell ⟨g, i, none⟩ (.int .u8 x)) g l' := by
  subst hx
  exact h.set i b l' hl
theorem Byt.str {w : World} {g : Nat} {l : List UInt8} (h : Byt w g l) (n cap : Nat) (hn : l.length = n) : (convert 159 9 (.slice (some ⟨g, 0, none⟩) n cap)).run Tryz.prog w = .ok (.string ⟨l.toArray⟩) w := by
  subst hn
  refine run_convert_bytes_back w 159 9 5 ⟨g, 0, none⟩ cap l Tryz.underlying159 Tryz.underlying5 Tryz.underlying9 ?_
  intro j hj
  have hadd : (⟨g, 0, none⟩ : Addr).add j = ⟨g, j, none⟩ := by unfold Addr.add; split <;> simp_all
  rw [hadd]
  exact h.cell j hj

/-- 'make([]byte, n)' -/
theorem Byt.made (n : Nat) (h : n ≤ 1000000000) (W : World) : ∃ w', (Instr.makeSlice 159 (.int .i64 (n : Int)) (.int .i64 (n : Int))).run Tryz.prog W = .ok (.slice (some ⟨W.heap.size, 0, none⟩) n n) w' ∧ Byt w' W.heap.size (List.replicate n 0) ∧ Below W.heap.size W w' ∧ w'.heap.size = W.heap.size + 1 := by
  obtain ⟨i0, hi, hz0, hz1, hz2⟩ := info_parts Tryz.info5
  have h1 := run_make (P := Tryz.prog) W 159 5 i0 (.int .u8 0) Tryz.underlying159 hi hz0 .i64 .i64 (n : Int) (n : Int) (by omega) (by omega) (by rw [hz2]; omega) (by omega)
  refine ⟨_, by simpa using h1, ?_, (Below.refl _ _).alloc (Nat.le_refl _) _, by simp⟩
  unfold Byt
  have e : madeCells (Value.int .u8 0).cells (n * i0.size) = (bv (List.replicate n 0)).toArray := by
    apply Array.toList_inj.1
    rw [hz1]
    simp [Value.cells, toList_madeCells_one, bv]
  rw [e, Go.heap_alloc_new]

set_option maxRecDepth 100000 in
/-- 'copy(b, t)' -/
theorem Byt.copy {w : World} {g n : Nat} (t : ByteArray) (ty : TypeId) (h : Byt w g (List.replicate n 0)) (hn : t.size ≤ n) : ∃ w', (Builtin.copy_ #[159, 9] ty #[.slice (some ⟨g, 0, none⟩) n n, .string t]).run Tryz.prog w = .ok (.int .i64 (t.size : Int)) w' ∧ Byt w' g (t.data.toList ++ List.replicate (n - t.size) 0) ∧ (∀ B, B ≤ g → Below B w w') ∧ w'.heap.size = w.heap.size := by
  have h1 := Lib.run_copy_row_string (P := Tryz.prog) w 159 9 ty 5 g 0 n n t _ 5 Tryz.underlying159 (by kernel_rfl) h hn (by simp [bv]; omega)
  have h2 : t.data.toList.length = t.size := Array.length_toList
  refine ⟨_, h1, ?_, ?_, ?_⟩
  · unfold Byt
    rw [setRow_heap w g _ _ 5 _ h]
    congr 2
    simp [bv, Lib.byteCells]
  · intro B hB
    exact ⟨rfl, rfl, rfl, by simp [World.setRow], fun k hk => setRow_other w g k _ (by omega)⟩
  · simp [World.setRow]

end Go.Proofs.YthlgohplljcgfaaGreatDoor
