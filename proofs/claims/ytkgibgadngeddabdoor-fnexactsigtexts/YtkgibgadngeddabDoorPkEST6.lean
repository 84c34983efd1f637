/-
  Texts laid together: After, Pad.
-/
import Derived.Test.YtkgibgadngeddabDoorPkEST5
import Derived.Test.YtkgibgadngeddabDoorPkEST0
import Derived.Lib.ConvBytes
import Derived.Lib.BufferWrite
/-
  What the program makes of a state and a block.
-/
namespace Go.Proofs.YtkgibgadngeddabDoor
open Go.RowKit Go.BigFrame
set_option linter.unusedVariables false

def keyL : List UInt32 := [1116352408, 1899447441, 3049323471, 3921009573, 961987163, 1508970993, 2453635748, 2870763221, 3624381080, 310598401, 607225278, 1426881987, 1925078388, 2162078206, 2614888103, 3248222580, 3835390401, 4022224774, 264347078, 604807628, 770255983, 1249150122, 1555081692, 1996064986, 2554220882, 2821834349, 2952996808, 3210313671, 3336571891, 3584528711, 113926993, 338241895, 666307205, 773529912, 1294757372, 1396182291, 1695183700, 1986661051, 2177026350, 2456956037, 2730485921, 2820302411, 3259730800, 3345764771, 3516065817, 3600352804, 4094571909, 275423344, 430227734, 506948616, 659060556, 883997877, 958139571, 1322822218, 1537002063, 1747873779, 1955562222, 2024104815, 2227730452, 2361852424, 2428436474, 2756734187, 3204031479, 3329325298]
def keyF (i : Nat) : UInt32 := keyL.getD i 0
def firstL : List UInt32 := [1779033703, 3144134277, 1013904242, 2773480762, 1359893119, 2600822924, 528734635, 1541459225]
def firstF (i : Nat) : UInt32 := firstL.getD i 0

/-- the two tables of the program, as its text lays them -/
def TabK (w : World) : Prop := ∀ i : Nat, i < 64 → w.cell? ⟨1, i, none⟩ = some (.int .u32 ((keyF i).toNat : Int))
def TabF (w : World) : Prop := ∀ i : Nat, i < 8 → w.cell? ⟨0, i, none⟩ = some (.int .u32 ((firstF i).toNat : Int))
theorem cell_pos {w : World} {g i : Nat} {v : Value} (h : w.cell? ⟨g, i, none⟩ = some v) : g < w.heap.size := by
  rcases Nat.lt_or_ge g w.heap.size with hz | hz
  · exact hz
  · simp [World.cell?, Array.getElem?_eq_none hz] at h
theorem TabK.pos {w : World} (h : TabK w) : 1 < w.heap.size := cell_pos (h 0 (by omega))
theorem TabF.pos {w : World} (h : TabF w) : 0 < w.heap.size := cell_pos (h 0 (by omega))
theorem TabK.later {w w' : World} {B : Nat} (h : TabK w) (hb : Below B w w') (hB : 1 < B) : TabK w' := fun i hi => (hb.cell (p := ⟨1, i, none⟩) hB).trans (h i hi)
theorem TabF.later {w w' : World} {B : Nat} (h : TabF w) (hb : Below B w w') (hB : 0 < B) : TabF w' := fun i hi => (hb.cell (p := ⟨0, i, none⟩) hB).trans (h i hi)

theorem Arr.below {w w' : World} {g t n B : Nat} {f : Nat → UInt32} (h : Arr w g t n f) (hb : Below B w w') (hg : g < B) : Arr w' g t n f := h.keep (hb.block g hg)

/-- the blocks of the function: the state, the result, the words -/
structure AS (w wr : World) (g : Nat) (s W : Nat → UInt32) : Prop where
  ss : Arr wr w.heap.size 66 8 s
  rr : Arr wr (w.heap.size + 1) 66 8 (fun _ => 0)
  ww : Arr wr g 62 64 W
  tt : TabK wr
  bel : Below w.heap.size w wr
theorem AS.start {w w2 : World} {Sc R : Array Value} {s W : Nat → UInt32} (hS : AggIs Sc 8 s) (hR : AggIs R 64 W) (hT : TabK w) (hb : Below ((w.alloc (.cells Sc 66)).alloc (.cells (zeros 8) 66)).heap.size ((w.alloc (.cells Sc 66)).alloc (.cells (zeros 8) 66)) w2) :
    AS w (w2.alloc (.cells R 62)) w2.heap.size s W := by
  have a1 := (Arr.agg (w := w) (t := 66) hS).alloc (.cells (zeros 8) 66)
  have a2 := Arr.agg (w := w.alloc (.cells Sc 66)) (t := 66) (AggIs.zeros 8)
  have hp := hT.pos
  have hb0 : Below w.heap.size w ((w.alloc (.cells Sc 66)).alloc (.cells (zeros 8) 66)) := ((Below.refl _ _).alloc (Nat.le_refl _) _).alloc (by simp) _
  have hs : ((w.alloc (.cells Sc 66)).alloc (.cells (zeros 8) 66)).heap.size = w.heap.size + 1 + 1 := by simp
  have hb1 := hb.size
  rw [hs] at hb hb1
  have hb2 : Below w.heap.size w w2 := hb0.trans (hb.mono (by omega))
  have hb3 := hb2.alloc (by omega) (.cells R 62)
  refine ⟨(a1.below hb (by omega)).alloc _, ?_, Arr.agg hR, hT.later hb3 hp, hb3⟩
  have a3 := (a2.below hb (by simp)).alloc (.cells R 62)
  simpa using a3
theorem AS.drewN {w wr : World} {g : Nat} {s W : Nat → UInt32} (q : AS w wr g s W) (n : Nat) : AS w (wr.drewN n) g s W := ⟨q.ss, q.rr, q.ww, q.tt, q.bel.trans ⟨rfl, rfl, rfl, Nat.le_refl _, fun _ _ => rfl⟩⟩

theorem agg8 (B : Nat → UInt32) : AggIs #[.int .u32 ((B 0).toNat : Int), .int .u32 ((B 1).toNat : Int), .int .u32 ((B 2).toNat : Int), .int .u32 ((B 3).toNat : Int), .int .u32 ((B 4).toNat : Int), .int .u32 ((B 5).toNat : Int), .int .u32 ((B 6).toNat : Int), .int .u32 ((B 7).toNat : Int)] 8 B := by
  refine ⟨rfl, fun i hi => ?_⟩
  have h8 : i = 0 ∨ i = 1 ∨ i = 2 ∨ i = 3 ∨ i = 4 ∨ i = 5 ∨ i = 6 ∨ i = 7 := by omega
  rcases h8 with rfl | rfl | rfl | rfl | rfl | rfl | rfl | rfl <;> rfl

def v32 (x : UInt32) : Value := .int .u32 (x.toNat : Int)
def AR (w : World) (g : Nat) (s W : Nat → UInt32) (va vb vc vd ve vf vg vh i : Value) (wr : World) : Prop :=
  ∃ m : Nat, m ≤ 64 ∧ i = .int .i64 m ∧ va = v32 (H.rounds s keyF W m 0) ∧ vb = v32 (H.rounds s keyF W m 1) ∧ vc = v32 (H.rounds s keyF W m 2) ∧ vd = v32 (H.rounds s keyF W m 3) ∧ ve = v32 (H.rounds s keyF W m 4) ∧ vf = v32 (H.rounds s keyF W m 5) ∧ vg = v32 (H.rounds s keyF W m 6) ∧ vh = v32 (H.rounds s keyF W m 7) ∧ AS w wr g s W

set_option maxHeartbeats 1000000 in
set_option maxRecDepth 100000 in
theorem after_any (Sc : Array Value) (s : Nat → UInt32) (b : ByteArray) (hb : b.size = 64) (w : World) (hS : AggIs Sc 8 s) (hT : TabK w) :
    Calls Tryd.prog 47 #[.agg Sc, .string b] w fun e w' => ∃ R, e = .returned (.agg R) ∧ AggIs R 8 (H.block s keyF (bAt b)) ∧ Below w.heap.size w w' := by
  have HS : Hid (AggIs Sc 8 s) := hS
  have HT : Hid (TabK w) := hT
  clear hS hT
  go_enter Tryd.func47, Tryd.ntmps47
  go_wp2_with (first | (with_reducible refine wp_alloc55 rfl rfl ?_) | (refine wp_allocArr rfl 66 8 rfl zero52 ?_))
  refine (shaWords_any b hb _).mono ?_
  rintro e w2 ⟨R, rfl, hR, hb2⟩
  have hst := AS.start HS.out hR HT.out hb2
  have HST : Hid (AS w (w2.alloc (.cells R 62)) w2.heap.size s (H.wAll (bAt b))) := hst
  have HB : Hid (H.block s keyF (bAt b) = fun j => s j + H.rounds s keyF (H.wAll (bAt b)) 64 j) := rfl
  have HR : Hid (AggIs R 64 (H.wAll (bAt b))) := hR
  generalize H.wAll (bAt b) = W at *
  have c0 := hst.ss.cell 0 (by omega)
  have c1 := hst.ss.cell 1 (by omega)
  have c2 := hst.ss.cell 2 (by omega)
  have c3 := hst.ss.cell 3 (by omega)
  have c4 := hst.ss.cell 4 (by omega)
  have c5 := hst.ss.cell 5 (by omega)
  have c6 := hst.ss.cell 6 (by omega)
  have c7 := hst.ss.cell 7 (by omega)
  clear hst hb2 hR HS HT
  go_wp2_with (first | (with_reducible refine wp_alloc55 rfl rfl ?_) | (refine wp_storeNew rfl 62 64 _ _ rfl w2 _ R W rfl (zeros_size 64) HR.out rfl rfl size61 ?_))
  simp only [Act.put, List.setIfInBounds_toArray, List.set_cons_succ, List.set_cons_zero]
  refine wp_region_quiet_lit (by kernel_rfl) (by kernel_rfl) ?_
  iterate 24 go_big_quiet_step (fail)
  refine wpQuiet_nil ?_
  rintro _ ⟨q1, rfl⟩
  generalize w2.heap.size = g at *
  generalize w2.alloc (.cells R 62) = w3 at *
  go_wp2
  go_loopw [6, 7, 8, 9, 10, 11, 12, 13, 38] (fun va vb vc vd ve vf vg vh i wr => AR w g s W va vb vc vd ve vf vg vh i wr) (fun _ _ _ _ _ _ _ _ i _ => 64 - (intOf i).toNat)
  case atStart => exact ⟨0, by omega, rfl, rfl, rfl, rfl, rfl, rfl, rfl, rfl, rfl, HST.out.drewN _⟩
  case round =>
    obtain ⟨m, hm, rfl, rfl, rfl, rfl, rfl, rfl, rfl, rfl, rfl, hs⟩ := hrel
    clear c0 c1 c2 c3 c4 c5 c6 c7 HST HR
    by_cases hlt : m < 64
    · have HRR : Hid (H.rounds s keyF W (m + 1) = H.round (H.rounds s keyF W m) (keyF m) (W m)) := rfl
      have ck := hs.tt m hlt
      have cw := hs.ww.cell m hlt
      generalize H.rounds s keyF W m = t at *
      have HA : Hid (∀ q, AS w (wr.drewN q) g s W) := fun q => hs.drewN q
      clear hs
      have r0 : H.round t (keyF m) (W m) 0 = H.one t (keyF m) (W m) + H.two t := rfl
      have r4 : H.round t (keyF m) (W m) 4 = t 3 + H.one t (keyF m) (W m) := rfl
      have r1 : H.round t (keyF m) (W m) 1 = t 0 := rfl
      have r2 : H.round t (keyF m) (W m) 2 = t 1 := rfl
      have r3 : H.round t (keyF m) (W m) 3 = t 2 := rfl
      have r5 : H.round t (keyF m) (W m) 5 = t 4 := rfl
      have r6 : H.round t (keyF m) (W m) 6 = t 5 := rfl
      have r7 : H.round t (keyF m) (W m) 7 = t 6 := rfl
      have e1 : H.one t (keyF m) (W m) = (((t 7 + H.big1 (t 4)) + H.ch (t 4) (t 5) (t 6)) + keyF m) + W m := rfl
      have e2 : H.two t = H.big0 (t 0) + H.maj (t 0) (t 1) (t 2) := rfl
      generalize H.round t (keyF m) (W m) = t' at *
      generalize H.one t (keyF m) (W m) = ONE at *
      generalize H.two t = TWO at *
      generalize keyF m = KM at *
      generalize W m = WM at *
      generalize t 0 = S0 at *
      generalize t 1 = S1 at *
      generalize t 2 = S2 at *
      generalize t 3 = S3' at *
      generalize t 4 = S4 at *
      generalize t 5 = S5 at *
      generalize t 6 = S6 at *
      generalize t 7 = S7 at *
      obtain ⟨y1, g1⟩ : ∃ x, H.rotr S4 6 ^^^ H.rotr S4 11 = x := ⟨_, rfl⟩
      obtain ⟨y2, g2⟩ : ∃ x, y1 ^^^ H.rotr S4 25 = x := ⟨_, rfl⟩
      have q2 : H.big1 S4 = y2 := by rw [← g2, ← g1]; rfl
      obtain ⟨y3, g3⟩ : ∃ x, S4 &&& S5 = x := ⟨_, rfl⟩
      obtain ⟨y4, g4⟩ : ∃ x, S4 ^^^ 4294967295 = x := ⟨_, rfl⟩
      obtain ⟨y5, g5⟩ : ∃ x, y4 &&& S6 = x := ⟨_, rfl⟩
      obtain ⟨y6, g6⟩ : ∃ x, y3 ^^^ y5 = x := ⟨_, rfl⟩
      have q6 : H.ch S4 S5 S6 = y6 := by rw [← g6, ← g5, ← g4, ← g3]; rfl
      obtain ⟨y7, g7⟩ : ∃ x, S7 + y2 = x := ⟨_, rfl⟩
      obtain ⟨y8, g8⟩ : ∃ x, y7 + y6 = x := ⟨_, rfl⟩
      obtain ⟨y9, g9⟩ : ∃ x, y8 + KM = x := ⟨_, rfl⟩
      have g10 : y9 + WM = ONE := by rw [e1, q2, q6, g7, g8, g9]
      obtain ⟨z1, k1⟩ : ∃ x, H.rotr S0 2 ^^^ H.rotr S0 13 = x := ⟨_, rfl⟩
      obtain ⟨z2, k2⟩ : ∃ x, z1 ^^^ H.rotr S0 22 = x := ⟨_, rfl⟩
      have q3 : H.big0 S0 = z2 := by rw [← k2, ← k1]; rfl
      obtain ⟨z3, k3⟩ : ∃ x, S0 &&& S1 = x := ⟨_, rfl⟩
      obtain ⟨z4, k4⟩ : ∃ x, S0 &&& S2 = x := ⟨_, rfl⟩
      obtain ⟨z5, k5⟩ : ∃ x, z3 ^^^ z4 = x := ⟨_, rfl⟩
      obtain ⟨z6, k6⟩ : ∃ x, S1 &&& S2 = x := ⟨_, rfl⟩
      obtain ⟨z7, k7⟩ : ∃ x, z5 ^^^ z6 = x := ⟨_, rfl⟩
      have q7 : H.maj S0 S1 S2 = z7 := by rw [← k7, ← k6, ← k5, ← k4, ← k3]; rfl
      obtain ⟨z8, k8⟩ : ∃ x, ONE + z2 = x := ⟨_, rfl⟩
      have k9 : z8 + z7 = t' 0 := by rw [r0, e2, q3, q7, ← k8, UInt32.add_assoc]
      have k10 : S3' + ONE = t' 4 := r4.symm
      have bg1 := bx' g1
      have bg2 := bx' g2
      have bg3 := ba' g3
      have bg4 : bits .xor .u32 IntKind.u32.max (S4.toNat : Int) = (y4.toNat : Int) := by rw [← g4, UInt32.xor_comm]; exact H.bx 4294967295 S4
      have sg : IntKind.u32.signed = false := rfl
      have bg5 := ba' g5
      have bg6 := bx' g6
      have bg7 := badd' g7
      have bg8 := badd' g8
      have bg9 := badd' g9
      have bg10 := badd' g10
      have bk1 := bx' k1
      have bk2 := bx' k2
      have bk3 := ba' k3
      have bk4 := ba' k4
      have bk5 := bx' k5
      have bk6 := ba' k6
      have bk7 := bx' k7
      have bk8 := badd' k8
      have HV : Hid ((t' 1 = S0 ∧ t' 2 = S1) ∧ (t' 3 = S2 ∧ t' 5 = S4) ∧ (t' 6 = S5 ∧ t' 7 = S6)) := ⟨⟨r1, r2⟩, ⟨r3, r5⟩, ⟨r6, r7⟩⟩
      obtain ⟨N0, hN0⟩ : ∃ x, t' 0 = x := ⟨_, rfl⟩
      obtain ⟨N4, hN4⟩ : ∃ x, t' 4 = x := ⟨_, rfl⟩
      rw [hN0] at k9
      rw [hN4] at k10
      have bN0 := badd' k9
      have bN4 := badd' k10
      have HN : Hid (t' 0 = N0 ∧ t' 4 = N4) := ⟨hN0, hN4⟩
      clear g1 g2 g3 g4 g5 g6 g7 g8 g9 g10 k1 k2 k3 k4 k5 k6 k7 k8 k9 k10 hN4 hN0 e1 e2 q2 q3 q6 q7 r0 r1 r2 r3 r4 r5 r6 r7
      have i8 : (m : Int) < 64 := by omega
      have i9 : (0 : Int) ≤ (m : Int) := by omega
      unfold v32
      go_wp2_with fail
      refine (Rot6 S4 _).mono ?_
      rintro e w6 ⟨rfl, rfl⟩
      go_wp2_with fail
      refine (Rot11 S4 _).mono ?_
      rintro e w11 ⟨rfl, rfl⟩
      go_wp2_with fail
      refine (Rot25 S4 _).mono ?_
      rintro e w25 ⟨rfl, rfl⟩
      go_wp2_with fail
      refine wp_region_quiet_lit (by kernel_rfl) (by kernel_rfl) ?_
      iterate 14 go_big_quiet_step (fail)
      refine wpQuiet_nil ?_
      rintro _ ⟨q2, rfl⟩
      go_wp2_with fail
      refine (Rot2 S0 _).mono ?_
      rintro e w2 ⟨rfl, rfl⟩
      go_wp2_with fail
      refine (Rot13 S0 _).mono ?_
      rintro e w13 ⟨rfl, rfl⟩
      go_wp2_with fail
      refine (Rot22 S0 _).mono ?_
      rintro e w22 ⟨rfl, rfl⟩
      go_wp2_with fail
      go_roundw
      case rel =>
        refine ⟨m + 1, by omega, by go_num, ?_, ?_, ?_, ?_, ?_, ?_, ?_, ?_, HA.out _⟩
        · rw [HRR.out, HN.out.1, v32, ← bN0]
        · rw [HRR.out, HV.out.1.1]; rfl
        · rw [HRR.out, HV.out.1.2]; rfl
        · rw [HRR.out, HV.out.2.1.1]; rfl
        · rw [HRR.out, HN.out.2, v32, ← bN4]
        · rw [HRR.out, HV.out.2.1.2]; rfl
        · rw [HRR.out, HV.out.2.2.1]; rfl
        · rw [HRR.out, HV.out.2.2.2]; rfl
      case measure => simp [intOf]; omega
    · have hme : m = 64 := by omega
      subst hme
      have HS5 : Hid (AS w wr g s W) := hs
      have c0 := hs.ss.cell 0 (by omega)
      have c1 := hs.ss.cell 1 (by omega)
      have c2 := hs.ss.cell 2 (by omega)
      have c3 := hs.ss.cell 3 (by omega)
      have c4 := hs.ss.cell 4 (by omega)
      have c5 := hs.ss.cell 5 (by omega)
      have c6 := hs.ss.cell 6 (by omega)
      have c7 := hs.ss.cell 7 (by omega)
      clear hs
      have HB2 : Hid (∀ j, s j + H.rounds s keyF W 64 j = H.block s keyF (bAt b) j) := fun j => by rw [HB.out]
      generalize H.rounds s keyF W 64 = t at *
      obtain ⟨B, hB⟩ : ∃ B, H.block s keyF (bAt b) = B := ⟨_, rfl⟩
      rw [hB] at HB2
      have HBB : Hid (H.block s keyF (bAt b) = B) := hB
      clear hB
      have b0 := badd' (HB2.out 0)
      have b1 := badd' (HB2.out 1)
      have b2 := badd' (HB2.out 2)
      have b3 := badd' (HB2.out 3)
      have b4 := badd' (HB2.out 4)
      have b5 := badd' (HB2.out 5)
      have b6 := badd' (HB2.out 6)
      have b7 := badd' (HB2.out 7)
      have HAG : Hid (AggIs #[.int .u32 ((B 0).toNat : Int), .int .u32 ((B 1).toNat : Int), .int .u32 ((B 2).toNat : Int), .int .u32 ((B 3).toNat : Int), .int .u32 ((B 4).toNat : Int), .int .u32 ((B 5).toNat : Int), .int .u32 ((B 6).toNat : Int), .int .u32 ((B 7).toNat : Int)] 8 B) := agg8 B
      unfold v32
      go_wp2_with (refine wp_storeArr rfl 66 _ _ rfl (w.heap.size + 1) 66 8 _ B _ HS5.out.rr HAG.out rfl rfl size52 ?_; intro hfin)
      refine ret_arr 4 (w.heap.size + 1) 66 8 66 59 B rfl rfl rfl hfin Tryd.underlying66 size52 ?_
      intro R2 hR2
      exact ⟨R2, rfl, by rw [HBB.out]; exact hR2, below_setRow HS5.out.bel (by omega)⟩
end Go.Proofs.YtkgibgadngeddabDoor
/-
  What PadText answers, in plain words; a row of bytes that the call owns, also one that was made of a string.
-/
namespace Go.Proofs.YtkgibgadngeddabDoor
open Go.RowKit
set_option linter.unusedVariables false

/-- the byte of place j of the length, the highest first -/
def lenB (n j : Nat) : UInt8 := UInt8.ofNat (n / 256 ^ (7 - j))
def lenL (n k : Nat) : List UInt8 := (List.range k).map (lenB n)
def padZ (n : Nat) : Nat := (119 - n % 64) % 64
def padL (l : List UInt8) : List UInt8 := (l ++ [128] ++ List.replicate (padZ l.length) 0) ++ lenL (8 * l.length) 8

theorem lenL_len (n k : Nat) : (lenL n k).length = k := by simp [lenL]
theorem lenL_succ (n k : Nat) : lenL n (k + 1) = lenL n k ++ [lenB n k] := by simp [lenL, List.range_succ]
theorem padZ_mod (n : Nat) : (n + 1 + padZ n) % 64 = 56 := by unfold padZ; omega
theorem padZ_least (n k : Nat) (h : k < padZ n) : (n + 1 + k) % 64 ≠ 56 := by unfold padZ at h; omega
theorem padL_len (l : List UInt8) : (padL l).length = l.length + 1 + padZ l.length + 8 := by
  unfold padL
  rw [List.length_append, lenL_len]
  simp
  omega
theorem padL_blocks (l : List UInt8) : (padL l).length = (l.length + 72) / 64 * 64 := by
  rw [padL_len]
  unfold padZ
  omega

/-- v owns the bytes l, in blocks from B on; what lies behind its row may bear a mark; below B all is as it was in w0 -/
def OG (B : Nat) (w0 w : World) (v : Value) (l : List UInt8) : Prop :=
  (∃ (g cap : Nat) (cur : Array Value) (fz : Nat × Nat), v = .slice (some ⟨g, 0, none⟩) l.length cap ∧ B ≤ g ∧ w.heap[g]? = some (.cells cur 5 fz) ∧ (fz = (0, 0) ∨ cap ≤ fz.1) ∧ l.length ≤ cap ∧ cap ≤ maxLen ∧ cur.size = cap ∧
    ∀ j (h : j < l.length), cur[j]? = some (.int .u8 (l[j].toNat : Int))) ∧ Below B w0 w ∧ B ≤ w.heap.size

theorem OG.alloc {B : Nat} {w0 w : World} {v : Value} {l : List UInt8} (h : OG B w0 w v l) (o : Obj) : OG B w0 (w.alloc o) v l := by
  obtain ⟨⟨g, cap, cur, fz, hv, hb, hg, hr⟩, h2, h3⟩ := h
  exact ⟨⟨g, cap, cur, fz, hv, hb, by rw [Go.heap_alloc_old w o (Array.getElem?_eq_some_iff.1 hg).1]; exact hg, hr⟩, h2.alloc h3 o, by simp; omega⟩

theorem OG.size {B : Nat} {w0 w : World} {v : Value} {l : List UInt8} (h : OG B w0 w v l) : ∃ a cap, v = .slice a l.length cap := by
  obtain ⟨⟨g, cap, cur, fz, hv, _⟩, _⟩ := h
  exact ⟨_, cap, hv⟩

theorem OG.conv (t : ByteArray) (w : World) (ht : t.size ≤ maxLen) : ∃ (w' : World) (cap : Nat), (convert 9 51 (.string t)).run Tryd.prog w = .ok (.slice (some ⟨w.heap.size, 0, none⟩) t.size cap) w' ∧ OG w.heap.size w w' (.slice (some ⟨w.heap.size, 0, none⟩) t.size cap) t.data.toList := by
  have h1 : t.data.toList.length = t.size := Array.length_toList
  have hge := grownCap_ge w t.size 0 5
  have hcm := grownCap_le_maxLen w t.size 0 5 ht
  refine ⟨Lib.bytesWorld w 5 t, grownCap w t.size 0 5, Lib.run_convert_string_bytes w 9 51 5 t Tryd.underlying9 Tryd.underlying51 Tryd.underlying5, ⟨_, _, _, _, by rw [h1], Nat.le_refl _, Lib.bytesWorld_at_new w 5 t, ?_, by omega, hcm, ?_, ?_⟩, ⟨?_, ?_, ?_, ?_, ?_⟩, ?_⟩
  · right
    simp [Lib.bytesCells]
    have : t.data.size = t.size := rfl
    omega
  · simp [Lib.bytesCells]
    have : t.data.size = t.size := rfl
    omega
  · intro j hj
    have hj' : j < t.data.size := by have : t.data.size = t.size := rfl; omega
    have hj2 : j < t.size := hj'
    simp [Lib.bytesCells, Array.getElem?_append, hj2]
  · simp [Lib.bytesWorld, World.freeze, World.alloc, World.drew, -World.alloc_eq, -World.drew_eq]
  · simp [Lib.bytesWorld, World.freeze, World.alloc, World.drew, -World.alloc_eq, -World.drew_eq]
  · simp [Lib.bytesWorld, World.freeze, World.alloc, World.drew, -World.alloc_eq, -World.drew_eq]
  · rw [Lib.bytesWorld_size]; omega
  · intro b hb
    exact Lib.bytesWorld_at_old w 5 t b hb
  · rw [Lib.bytesWorld_size]; omega

/-- one byte more -/
theorem OG.app {B : Nat} {w0 w : World} {v : Value} {l : List UInt8} (h : OG B w0 w v l) (ty : TypeId) (ad : Addr) (c : Nat) (b : UInt8) (hx : w.cell? ad = some (.int .u8 (b.toNat : Int))) (hlen : l.length + 1 ≤ 1000000000) :
    ∃ v' w', (Builtin.append_ #[51, 51] ty #[v, .slice (some ad) 1 c]).run Tryd.prog w = .ok v' w' ∧ OG B w0 w' v' (l ++ [b]) := by
  obtain ⟨i0, hi, hz0, hz1, hz2⟩ := info_parts Tryd.info5
  obtain ⟨⟨g, cap, cur, fz, rfl, hb, hg, hfz, hn, hm, hcs, hcell⟩, hbel, hB⟩ := h
  have hglt := (Array.getElem?_eq_some_iff.1 hg).1
  have hnews : ∀ j u, [Value.int .u8 (b.toNat : Int)][j]? = some u → w.cell? (ad.add j) = some u := by
    intro j u hj
    have h0 : j = 0 := by
      rcases Nat.eq_zero_or_pos j with h0 | h0
      · exact h0
      · simp [List.getElem?_eq_none (show [Value.int .u8 (b.toNat : Int)].length ≤ j by simp; omega)] at hj
    subst h0
    simp at hj
    subst hj
    have : ad.add 0 = ad := by unfold Addr.add; split <;> simp_all
    rw [this]; exact hx
  by_cases hroom : l.length + 1 ≤ cap
  · have hi' : l.length < cur.size := by omega
    have hadd : (⟨g, 0, none⟩ : Addr).add l.length = ⟨g, l.length, none⟩ := by unfold Addr.add; split <;> simp_all
    have hadd0 : (⟨g, l.length, none⟩ : Addr).add 0 = ⟨g, l.length, none⟩ := by unfold Addr.add; split <;> simp_all
    have hc : w.cell? ⟨g, l.length, none⟩ = some cur[l.length] := by simp [World.cell?, hg, hi']
    have hf : w.frozen? ⟨g, l.length, none⟩ = false := by
      obtain ⟨lo, hi2⟩ := fz
      simp only [World.frozen?, hg, Bool.and_eq_false_iff, decide_eq_false_iff_not]
      rcases hfz with h0 | h0
      · simp at h0; right; omega
      · left; simp only at h0; omega
    have hfc := run_firstCells_some (P := Tryd.prog) w 1 1 ad 1 c [Value.int .u8 (b.toNat : Int)] rfl hnews
    have hst := run_store Tryd.prog w ⟨g, l.length, none⟩ (.int .u8 (b.toNat : Int)) .plain rfl
    rw [hc] at hst
    simp [hf] at hst
    refine ⟨.slice (some ⟨g, 0, none⟩) (l.length + 1) cap, w.setCell ⟨g, l.length, none⟩ (.int .u8 (b.toNat : Int)), ?_, ⟨g, cap, cur.setIfInBounds l.length (.int .u8 (b.toNat : Int)), fz, by simp, hb, ?_, hfz, by simpa using hroom, hm, by simpa using hcs, ?_⟩, hbel.setCell (p := ⟨g, l.length, none⟩) hb _, by simpa using hB⟩
    · simp [Builtin.append_, run_underlying Tryd.underlying51, sizeOf, typeInfo, hi, hz1, Builtin.lenOf, hroom, hfc, storeCells, hadd, hadd0, hst]
    · have := setCell_eq_setRow w g l.length cur 5 fz (.int .u8 (b.toNat : Int)) hg
      rw [this]
      exact setRow_heap w g cur _ 5 _ hg
    · intro j hj
      rw [Array.getElem?_setIfInBounds]
      by_cases he : l.length = j
      · subst he
        simp [hi']
      · rw [if_neg he]
        have hj2 : j < l.length := by simp at hj; omega
        rw [hcell j hj2, List.getElem_append_left hj2]
  · have hxs : ∀ j u, (bv l)[j]? = some u → w.cell? ((⟨g, 0, none⟩ : Addr).add j) = some u := by
      intro j u hj
      obtain ⟨hj', rfl⟩ := bv_get _ _ _ hj
      have hadd : (⟨g, 0, none⟩ : Addr).add j = ⟨g, j, none⟩ := by unfold Addr.add; split <;> simp_all
      rw [hadd, cell_of_row w g j cur 5 fz hg]
      exact hcell j hj'
    have hr := run_append_grow (P := Tryd.prog) w 51 ty 5 i0 (.int .u8 0) Tryd.underlying51 hi hz0 ⟨g, 0, none⟩ l.length cap (bv l) (by rw [hz1]; simp [bv]) hxs ad 1 c [Value.int .u8 (b.toNat : Int)] (by rw [hz1]; rfl) hnews (by omega) (by omega) (growslice_fits (by omega) (by rw [hz2]; omega))
    have hge := grownCap_ge w (l.length + 1) cap 5
    have hcm := grownCap_le_maxLen w (l.length + 1) cap 5 (by unfold maxLen; omega)
    refine ⟨_, _, hr, ⟨w.heap.size, _, _, (0, 0), by simp, by omega, heap_alloc_new w.drew _, .inl rfl, by simpa using hge, hcm, ?_, ?_⟩, (hbel.drew).alloc hB _, by simp; omega⟩
    · have hz : (Value.int IntKind.u8 0).cells.size = 1 := rfl
      simp only [Array.size_append, List.size_toArray, size_zeroCells, hz, bv_length]
      simp
      omega
    · intro j hj
      have hj2 : j < l.length + 1 := by simpa using hj
      simp only [List.append_toArray]
      rw [Array.getElem?_append_left (by simp [bv]; omega)]
      by_cases he : j < l.length
      · simp [bv, List.getElem?_append_left, he, List.getElem_append_left]
      · have : j = l.length := by omega
        subst this
        simp [bv]

/-- 'string(b)' -/
theorem OG.str {B : Nat} {w0 w : World} {v : Value} {l : List UInt8} (h : OG B w0 w v l) : (convert 51 9 v).run Tryd.prog w = .ok (.string ⟨l.toArray⟩) w := by
  obtain ⟨⟨g, cap, cur, fz, rfl, hb, hg, hfz, hn, hm, hcs, hcell⟩, hbel, hB⟩ := h
  refine run_convert_bytes_back w 51 9 5 ⟨g, 0, none⟩ cap l Tryd.underlying51 Tryd.underlying5 Tryd.underlying9 ?_
  intro j hj
  have hadd : (⟨g, 0, none⟩ : Addr).add j = ⟨g, j, none⟩ := by unfold Addr.add; split <;> simp_all
  rw [hadd, cell_of_row w g j cur 5 fz hg]
  exact hcell j hj

theorem wp_appg {w : World} {ops : Array Oper} {rest : List Oper} {o : Oper} {a : Act} {Q : Exit → Act → World → Prop} (hgd : o.guard = none) (s x : Operand)
    (ho : o.op = .call { callee := .builtin .append, args := #[s, x], argTypes := #[51, 51] })
    (B : Nat) (w0 : World) (v : Value) (l : List UInt8) (hs : a.eval s = v) (hown : OG B w0 w v l)
    (ad : Addr) (c : Nat) (b : UInt8) (hx : a.eval x = .slice (some ad) 1 c)
    (hnews : w.cell? ad = some (.int .u8 (b.toNat : Int))) (hlen : l.length + 1 ≤ 1000000000)
    (h : ∀ v' w', OG B w0 w' v' (l ++ [b]) → wpList Tryd.prog ops Q rest (a.put o.dst v') w') : wpList Tryd.prog ops Q (o :: rest) a w := by
  refine wpList_plain hgd fun K hK => ?_
  obtain ⟨v', w', hr, h2⟩ := hown.app o.type ad c b hnews hlen
  unfold Oper.wp
  simp [execOp, ho, resolve, invoke, builtin, hs, hx, hr, Result.andThen]
  exact hK _ _ (h v' w' h2)

end Go.Proofs.YtkgibgadngeddabDoor
