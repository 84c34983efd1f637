/-
  The words of a block, as the program makes them; the rotation of the standard library.
-/
import Derived.Test.YtjfdgidhgijheaaDoorBlk
namespace Go.Proofs.YtjfdgidhgijheaaDoor
open Go.RowKit Go.BigFrame
set_option linter.unusedVariables false

theorem brot' (a : UInt32) (n : Nat) (h : n ≤ 32) : bits .or .u32 ((a.toNat : Int) * ((2 ^ (32 - n) : Nat) : Int) % 4294967296) ((a.toNat : Int) / ((2 ^ n : Nat) : Int)) = ((H.rotr a n).toNat : Int) := by
  have h1 : a.toNat / 2 ^ n < 4294967296 := Nat.lt_of_le_of_lt (Nat.div_le_self _ _) (H.u32_lt a)
  have h2 : a.toNat * 2 ^ (32 - n) % 4294967296 < 4294967296 := Nat.mod_lt _ (by omega)
  have e := u32_or_nat _ _ h2 h1
  unfold H.rotr
  rw [H.toNat_of _ (Nat.or_lt_two_pow (n := 32) h1 h2), Nat.or_comm, ← e]
  simp

theorem Rot2 (x : UInt32) (w : World) :
    Calls Tryd.prog 33 #[.int .u32 (x.toNat : Int), .int .i64 (-2)] w fun e w' => e = .returned (.int .u32 ((H.rotr x 2).toNat : Int)) ∧ w' = w := by
  have hr : bits .or .u32 ((x.toNat : Int) * 1073741824 % 4294967296) ((x.toNat : Int) / 4) = ((H.rotr x 2).toNat : Int) := brot' x 2 (by omega)
  have ha : bits .and .u64 (IntKind.u64.wrap (-2)) 31 = 30 := by rfl
  go_enter Tryd.func33, Tryd.ntmps33
  go_wp2
  go_ret
  exact ⟨rfl, rfl⟩
theorem Rot6 (x : UInt32) (w : World) :
    Calls Tryd.prog 33 #[.int .u32 (x.toNat : Int), .int .i64 (-6)] w fun e w' => e = .returned (.int .u32 ((H.rotr x 6).toNat : Int)) ∧ w' = w := by
  have hr : bits .or .u32 ((x.toNat : Int) * 67108864 % 4294967296) ((x.toNat : Int) / 64) = ((H.rotr x 6).toNat : Int) := brot' x 6 (by omega)
  have ha : bits .and .u64 (IntKind.u64.wrap (-6)) 31 = 26 := by rfl
  go_enter Tryd.func33, Tryd.ntmps33
  go_wp2
  go_ret
  exact ⟨rfl, rfl⟩
theorem Rot7 (x : UInt32) (w : World) :
    Calls Tryd.prog 33 #[.int .u32 (x.toNat : Int), .int .i64 (-7)] w fun e w' => e = .returned (.int .u32 ((H.rotr x 7).toNat : Int)) ∧ w' = w := by
  have hr : bits .or .u32 ((x.toNat : Int) * 33554432 % 4294967296) ((x.toNat : Int) / 128) = ((H.rotr x 7).toNat : Int) := brot' x 7 (by omega)
  have ha : bits .and .u64 (IntKind.u64.wrap (-7)) 31 = 25 := by rfl
  go_enter Tryd.func33, Tryd.ntmps33
  go_wp2
  go_ret
  exact ⟨rfl, rfl⟩
theorem Rot11 (x : UInt32) (w : World) :
    Calls Tryd.prog 33 #[.int .u32 (x.toNat : Int), .int .i64 (-11)] w fun e w' => e = .returned (.int .u32 ((H.rotr x 11).toNat : Int)) ∧ w' = w := by
  have hr : bits .or .u32 ((x.toNat : Int) * 2097152 % 4294967296) ((x.toNat : Int) / 2048) = ((H.rotr x 11).toNat : Int) := brot' x 11 (by omega)
  have ha : bits .and .u64 (IntKind.u64.wrap (-11)) 31 = 21 := by rfl
  go_enter Tryd.func33, Tryd.ntmps33
  go_wp2
  go_ret
  exact ⟨rfl, rfl⟩
theorem Rot13 (x : UInt32) (w : World) :
    Calls Tryd.prog 33 #[.int .u32 (x.toNat : Int), .int .i64 (-13)] w fun e w' => e = .returned (.int .u32 ((H.rotr x 13).toNat : Int)) ∧ w' = w := by
  have hr : bits .or .u32 ((x.toNat : Int) * 524288 % 4294967296) ((x.toNat : Int) / 8192) = ((H.rotr x 13).toNat : Int) := brot' x 13 (by omega)
  have ha : bits .and .u64 (IntKind.u64.wrap (-13)) 31 = 19 := by rfl
  go_enter Tryd.func33, Tryd.ntmps33
  go_wp2
  go_ret
  exact ⟨rfl, rfl⟩
theorem Rot17 (x : UInt32) (w : World) :
    Calls Tryd.prog 33 #[.int .u32 (x.toNat : Int), .int .i64 (-17)] w fun e w' => e = .returned (.int .u32 ((H.rotr x 17).toNat : Int)) ∧ w' = w := by
  have hr : bits .or .u32 ((x.toNat : Int) * 32768 % 4294967296) ((x.toNat : Int) / 131072) = ((H.rotr x 17).toNat : Int) := brot' x 17 (by omega)
  have ha : bits .and .u64 (IntKind.u64.wrap (-17)) 31 = 15 := by rfl
  go_enter Tryd.func33, Tryd.ntmps33
  go_wp2
  go_ret
  exact ⟨rfl, rfl⟩
theorem Rot18 (x : UInt32) (w : World) :
    Calls Tryd.prog 33 #[.int .u32 (x.toNat : Int), .int .i64 (-18)] w fun e w' => e = .returned (.int .u32 ((H.rotr x 18).toNat : Int)) ∧ w' = w := by
  have hr : bits .or .u32 ((x.toNat : Int) * 16384 % 4294967296) ((x.toNat : Int) / 262144) = ((H.rotr x 18).toNat : Int) := brot' x 18 (by omega)
  have ha : bits .and .u64 (IntKind.u64.wrap (-18)) 31 = 14 := by rfl
  go_enter Tryd.func33, Tryd.ntmps33
  go_wp2
  go_ret
  exact ⟨rfl, rfl⟩
theorem Rot19 (x : UInt32) (w : World) :
    Calls Tryd.prog 33 #[.int .u32 (x.toNat : Int), .int .i64 (-19)] w fun e w' => e = .returned (.int .u32 ((H.rotr x 19).toNat : Int)) ∧ w' = w := by
  have hr : bits .or .u32 ((x.toNat : Int) * 8192 % 4294967296) ((x.toNat : Int) / 524288) = ((H.rotr x 19).toNat : Int) := brot' x 19 (by omega)
  have ha : bits .and .u64 (IntKind.u64.wrap (-19)) 31 = 13 := by rfl
  go_enter Tryd.func33, Tryd.ntmps33
  go_wp2
  go_ret
  exact ⟨rfl, rfl⟩
theorem Rot22 (x : UInt32) (w : World) :
    Calls Tryd.prog 33 #[.int .u32 (x.toNat : Int), .int .i64 (-22)] w fun e w' => e = .returned (.int .u32 ((H.rotr x 22).toNat : Int)) ∧ w' = w := by
  have hr : bits .or .u32 ((x.toNat : Int) * 1024 % 4294967296) ((x.toNat : Int) / 4194304) = ((H.rotr x 22).toNat : Int) := brot' x 22 (by omega)
  have ha : bits .and .u64 (IntKind.u64.wrap (-22)) 31 = 10 := by rfl
  go_enter Tryd.func33, Tryd.ntmps33
  go_wp2
  go_ret
  exact ⟨rfl, rfl⟩
theorem Rot25 (x : UInt32) (w : World) :
    Calls Tryd.prog 33 #[.int .u32 (x.toNat : Int), .int .i64 (-25)] w fun e w' => e = .returned (.int .u32 ((H.rotr x 25).toNat : Int)) ∧ w' = w := by
  have hr : bits .or .u32 ((x.toNat : Int) * 128 % 4294967296) ((x.toNat : Int) / 33554432) = ((H.rotr x 25).toNat : Int) := brot' x 25 (by omega)
  have ha : bits .and .u64 (IntKind.u64.wrap (-25)) 31 = 7 := by rfl
  go_enter Tryd.func33, Tryd.ntmps33
  go_wp2
  go_ret
  exact ⟨rfl, rfl⟩


structure WS (w wr : World) (W : Nat → UInt32) : Prop where
  rr : Arr wr w.heap.size 50 64 (fun _ => 0)
  ww : Arr wr (w.heap.size + 1) 50 64 W
  bel : Below w.heap.size w wr
theorem WS.start (w : World) : WS w ((w.alloc (.cells (zeros 64) 50)).alloc (.cells (zeros 64) 50)) (fun _ => 0) := by
  refine ⟨(Arr.agg (AggIs.zeros 64)).alloc _, ?_, ((Below.refl _ _).alloc (Nat.le_refl _) _).alloc (by simp) _⟩
  have := Arr.agg (w := w.alloc (.cells (zeros 64) 50)) (t := 50) (AggIs.zeros 64)
  simpa using this
theorem WS.set {w wr : World} {W : Nat → UInt32} (s : WS w wr W) (i : Nat) (hi : i < 64) (x : UInt32) : WS w (wr.setCell ⟨w.heap.size + 1, i, none⟩ (.int .u32 (x.toNat : Int))) (H.upd W i x) :=
  ⟨s.rr.other _ _ _ (by omega), s.ww.set i hi x, s.bel.setCell (p := ⟨w.heap.size + 1, i, none⟩) (by show w.heap.size ≤ w.heap.size + 1; omega) _⟩
theorem WS.drewN {w wr : World} {W : Nat → UInt32} (s : WS w wr W) (n : Nat) : WS w (wr.drewN n) W := ⟨s.rr, s.ww, s.bel.trans ⟨rfl, rfl, rfl, Nat.le_refl _, fun _ _ => rfl⟩⟩

def Q1 (w : World) (b : ByteArray) (i : Value) (wr : World) : Prop := ∃ m : Nat, m ≤ 16 ∧ i = .int .i64 m ∧ WS w wr (H.wHead (bAt b) m)
def Q2 (w : World) (b : ByteArray) (i : Value) (wr : World) : Prop := ∃ m : Nat, m ≤ 48 ∧ i = .int .i64 m ∧ WS w wr (H.wMore (H.wHead (bAt b) 16) m)

theorem run_cut (b : ByteArray) (x y : Int) (i j : Nat) (hx : x = (i : Int)) (hy : y = (j : Int)) (hij : i ≤ j) (hj : j ≤ b.size) (W : World) : (Instr.slice 9 (.string b) (some (.int .i64 x)) (some (.int .i64 y)) none).run Tryd.prog W = .ok (.string (b.extract i j)) W := by
  subst hx
  subst hy
  rw [run_slice_string W 9 b .i64 .i64 _ _ Tryd.underlying9 (by omega) (by omega) (by omega)]
  simp
theorem bAt_lt (b : ByteArray) (j : Nat) : bAt b j < 256 := UInt8.toNat_lt _
/-- four bytes of a text, cut out, and each of them -/
theorem cut4 (b : ByteArray) (m : Nat) (h : 4 * m + 4 ≤ b.size) : ∃ c : ByteArray, (∀ W, (Instr.slice 9 (.string b) (some (.int .i64 (4 * (m : Int)))) (some (.int .i64 (4 * (m : Int) + 4))) none).run Tryd.prog W = .ok (.string c) W) ∧
    ∀ j : Nat, j < 4 → ∀ (x : Int), x = (j : Int) → ∀ W, (Instr.index 9 (.string c) (.int .i64 x)).run Tryd.prog W = .ok (.int .u8 ((bAt b (4 * m + j) : Nat) : Int)) W := by
  have h1 : (b.extract (4 * m) (4 * m + 4)).size = 4 := by rw [ByteArray.size_extract]; omega
  refine ⟨b.extract (4 * m) (4 * m + 4), run_cut b _ _ _ _ (by omega) (by omega) (by omega) h, fun j hj x hx W => ?_⟩
  rw [run_at _ x j hx (by omega) W, bAt_eq b (4 * m + j) (by omega), ByteArray.getElem_extract]

set_option maxHeartbeats 1000000 in
set_option maxRecDepth 100000 in
theorem shaWords_any (b : ByteArray) (hb : b.size = 64) (w : World) :
    Calls Tryd.prog 32 #[.string b] w fun e w' => ∃ R, e = .returned (.agg R) ∧ AggIs R 64 (H.wAll (bAt b)) ∧ Below w.heap.size w w' := by
  have HST : Hid (WS w ((w.alloc (.cells (zeros 64) 50)).alloc (.cells (zeros 64) 50)) (fun _ => 0)) := WS.start w
  go_enter Tryd.func32, Tryd.ntmps32
  go_wp2_with (first | (with_reducible refine wp_build rfl rfl ?_) | (with_reducible refine wp_alloc55 rfl rfl ?_) | (refine wp_store55 rfl _ _ rfl _ rfl rfl rfl ?_))
  generalize ((w.alloc (.cells (zeros 64) 50)).alloc (.cells (zeros 64) 50)) = w1 at *
  go_loopw [12] (fun i wr => Q1 w b i wr) (fun i _ => 16 - (intOf i).toNat)
  case atStart => exact ⟨0, by omega, rfl, HST.out⟩
  case round =>
    obtain ⟨m, hm, rfl, hs⟩ := hrel
    by_cases hlt : m < 16
    · obtain ⟨c, hcut, hcj⟩ := cut4 b m (by omega)
      have hst := fun q => (hs.drewN q).set m (by omega) (H.word (bAt b) m)
      have HS' : Hid (∀ q, WS w ((wr.drewN q).setCell ⟨w.heap.size + 1, m, none⟩ (.int .u32 ((H.word (bAt b) m).toNat : Int))) (H.wHead (bAt b) (m + 1))) := hst
      have c0 := hs.ww.cell m (by omega)
      have f0 := hs.ww.frozen m
      have x0 := hcj 0 (by omega) 0 rfl
      have x1 := hcj 1 (by omega) 1 rfl
      have x2 := hcj 2 (by omega) 2 rfl
      have x3 := hcj 3 (by omega) 3 rfl
      have l0 := bAt_lt b (4 * m + 0)
      have l1 := bAt_lt b (4 * m + 1)
      have l2 := bAt_lt b (4 * m + 2)
      have l3 := bAt_lt b (4 * m + 3)
      have hwd := H.word_eq _ _ _ _ l0 l1 l2 l3
      have hx : ((bAt b (4 * m + 0) * 16777216 + bAt b (4 * m + 1) * 65536 + bAt b (4 * m + 2) * 256 + bAt b (4 * m + 3) : Nat) : Int) = ((H.word (bAt b) m).toNat : Int) := by
        unfold H.word
        rw [H.toNat_of _ (by simp only [Nat.add_zero] at l0; omega)]
        rfl
      rw [hx] at hwd
      generalize bAt b (4 * m + 0) = n0 at *
      generalize bAt b (4 * m + 1) = n1 at *
      generalize bAt b (4 * m + 2) = n2 at *
      generalize bAt b (4 * m + 3) = n3 at *
      clear hs hst hcj hx
      have i2 : (0 : Int) ≤ (m : Int) := by omega
      have i3 : (m : Int) < 64 := by omega
      go_wp2
      go_region
      go_wp2
      go_roundw
      case rel => exact ⟨m + 1, by omega, by go_num, HS'.out 1⟩
      case measure => simp [intOf]; omega
    · have hme : m = 16 := by omega
      have hI : (m : Int) = 16 := by omega
      rw [hI]
      clear hI
      subst hme
      have HS : Hid (WS w wr (H.wHead (bAt b) 16)) := hs
      clear hs HST
      go_wp2
      go_loopw [43] (fun i wx => Q2 w b i wx) (fun i _ => 48 - (intOf i).toNat)
      case atStart => exact ⟨0, by omega, rfl, HS.out⟩
      case round =>
        obtain ⟨n, hn, rfl, hs⟩ := hrel
        by_cases hlt2 : n < 48
        · have HF : Hid (H.wMore (H.wHead (bAt b) 16) (n + 1) = H.upd (H.wMore (H.wHead (bAt b) 16) n) (16 + n) (H.wStep (H.wMore (H.wHead (bAt b) 16) n) (16 + n))) := rfl
          generalize H.wMore (H.wHead (bAt b) 16) n = F at *
          have hst := fun q => (hs.drewN q).set (16 + n) (by omega) (H.wStep F (16 + n))
          have HW : Hid (H.wStep F (16 + n) = ((F (16 + n - 16) + H.sig0 (F (16 + n - 15))) + F (16 + n - 7)) + H.sig1 (F (16 + n - 2))) := rfl
          have c15 := hs.ww.cell (16 + n - 15) (by omega)
          have c2 := hs.ww.cell (16 + n - 2) (by omega)
          have c16 := hs.ww.cell (16 + n - 16) (by omega)
          have c7 := hs.ww.cell (16 + n - 7) (by omega)
          have c0 := hs.ww.cell (16 + n) (by omega)
          have f0 := hs.ww.frozen (16 + n)
          generalize F (16 + n - 15) = X15 at *
          generalize F (16 + n - 2) = X2 at *
          generalize F (16 + n - 16) = X16 at *
          generalize F (16 + n - 7) = X7 at *
          generalize F (16 + n) = X0 at *
          obtain ⟨x1, e1⟩ : ∃ x, H.rotr X15 7 ^^^ H.rotr X15 18 = x := ⟨_, rfl⟩
          have s1 : (X15.toNat : Int) / 8 = ((H.shr X15 3).toNat : Int) := H.bshr X15 3
          obtain ⟨x2, e2⟩ : ∃ x, x1 ^^^ H.shr X15 3 = x := ⟨_, rfl⟩
          obtain ⟨x3, e3⟩ : ∃ x, H.rotr X2 17 ^^^ H.rotr X2 19 = x := ⟨_, rfl⟩
          have s2 : (X2.toNat : Int) / 1024 = ((H.shr X2 10).toNat : Int) := H.bshr X2 10
          obtain ⟨x4, e4⟩ : ∃ x, x3 ^^^ H.shr X2 10 = x := ⟨_, rfl⟩
          obtain ⟨x5, e5⟩ : ∃ x, X16 + x2 = x := ⟨_, rfl⟩
          obtain ⟨x6, e6⟩ : ∃ x, x5 + X7 = x := ⟨_, rfl⟩
          have e7 : x6 + x4 = H.wStep F (16 + n) := by rw [HW.out, ← e6, ← e5, ← e2, ← e1, ← e4, ← e3]; rfl
          generalize H.wStep F (16 + n) = WS' at *
          have HST2 : Hid (∀ q, WS w ((wr.drewN q).setCell ⟨w.heap.size + 1, 16 + n, none⟩ (.int .u32 (WS'.toNat : Int))) (H.upd F (16 + n) WS')) := hst
          have b1 := bx' e1
          have b2 := bx' e2
          have b3 := bx' e3
          have b4 := bx' e4
          have a1 := badd' e5
          have a2 := badd' e6
          have a3 := badd' e7
          clear e1 e2 e3 e4 e5 e6 e7 HW hst hs
          have t15 : ((n : Int) + 16 - 15).toNat = 16 + n - 15 := by omega
          have t2 : ((n : Int) + 16 - 2).toNat = 16 + n - 2 := by omega
          have en : 16 + n - 16 = n := by omega
          rw [en] at c16
          clear en
          have t7 : ((n : Int) + 16 - 7).toNat = 16 + n - 7 := by omega
          have t0 : ((n : Int) + 16).toNat = 16 + n := by omega
          have i0 : (0 : Int) ≤ (n : Int) + 16 - 15 := by omega
          have i1 : (n : Int) + 16 - 15 < 64 := by omega
          have i2 : (0 : Int) ≤ (n : Int) + 16 - 2 := by omega
          have i3 : (n : Int) + 16 - 2 < 64 := by omega
          have i4 : (0 : Int) ≤ (n : Int) := by omega
          have i5 : (n : Int) < 64 := by omega
          have i6 : (0 : Int) ≤ (n : Int) + 16 - 7 := by omega
          have i7 : (n : Int) + 16 - 7 < 64 := by omega
          have i8 : (n : Int) + 16 < 64 := by omega
          have i9 : (0 : Int) ≤ (n : Int) + 16 := by omega
          go_wp2
          refine wp_region_quiet_lit (by kernel_rfl) (by kernel_rfl) ?_
          go_big_quiet_step (fail)
          go_big_quiet_step (fail)
          go_big_quiet_step (fail)
          go_big_quiet_step (fail)
          go_big_quiet_step (fail)
          go_big_quiet_step (fail)
          go_big_quiet_step (fail)
          go_big_quiet_step (fail)
          go_big_quiet_step (fail)
          go_big_quiet_step (fail)
          refine wpQuiet_nil ?_
          rintro _ ⟨q1, rfl⟩
          go_wp2_with fail
          refine (Rot7 X15 _).mono ?_
          rintro e w7 ⟨rfl, rfl⟩
          go_wp2_with fail
          refine (Rot18 X15 _).mono ?_
          rintro e w18 ⟨rfl, rfl⟩
          go_wp2_with fail
          refine (Rot17 X2 _).mono ?_
          rintro e w17 ⟨rfl, rfl⟩
          go_wp2_with fail
          refine (Rot19 X2 _).mono ?_
          rintro e w19 ⟨rfl, rfl⟩
          go_wp2_with fail
          go_region
          go_wp2
          go_roundw
          case rel => exact ⟨n + 1, by omega, by go_num, by rw [HF.out]; exact HST2.out _⟩
          case measure => simp [intOf]; omega
        · have hne : n = 48 := by omega
          subst hne
          have HS2 : Hid (WS w wr (H.wAll (bAt b))) := hs
          clear hs HS
          go_wp2_with (first | (refine wp_loadArr rfl 50 _ rfl (w.heap.size + 1) 50 64 (H.wAll (bAt b)) 38 rfl HS2.out.ww Tryd.underlying50 size61 ?_; intro R hR) | (refine wp_storeArr rfl 50 _ _ rfl w.heap.size 50 64 _ (H.wAll (bAt b)) R HS2.out.rr hR rfl rfl size61 ?_; intro hfin))
          refine ret_arr 2 w.heap.size 50 64 50 38 (H.wAll (bAt b)) rfl rfl rfl hfin Tryd.underlying50 size61 ?_
          intro R2 hR2
          exact ⟨R2, rfl, hR2, below_setRow HS2.out.bel (Nat.le_refl _)⟩
end Go.Proofs.YtjfdgidhgijheaaDoor
