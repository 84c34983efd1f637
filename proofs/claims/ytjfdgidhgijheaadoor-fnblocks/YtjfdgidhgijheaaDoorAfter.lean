/-
  What the program makes of a state and a block.
-/
import Derived.Test.YtjfdgidhgijheaaDoorWords
namespace Go.Proofs.YtjfdgidhgijheaaDoor
open Go.RowKit Go.BigFrame
set_option linter.unusedVariables false

def keyL : List UInt32 := [1116352408, 1899447441, 3049323471, 3921009573, 961987163, 1508970993, 2453635748, 2870763221, 3624381080, 310598401, 607225278, 1426881987, 1925078388, 2162078206, 2614888103, 3248222580, 3835390401, 4022224774, 264347078, 604807628, 770255983, 1249150122, 1555081692, 1996064986, 2554220882, 2821834349, 2952996808, 3210313671, 3336571891, 3584528711, 113926993, 338241895, 666307205, 773529912, 1294757372, 1396182291, 1695183700, 1986661051, 2177026350, 2456956037, 2730485921, 2820302411, 3259730800, 3345764771, 3516065817, 3600352804, 4094571909, 275423344, 430227734, 506948616, 659060556, 883997877, 958139571, 1322822218, 1537002063, 1747873779, 1955562222, 2024104815, 2227730452, 2361852424, 2428436474, 2756734187, 3204031479, 3329325298]
def keyF (i : Nat) : UInt32 := keyL.getD i 0
def firstL : List UInt32 := [1779033703, 3144134277, 1013904242, 2773480762, 1359893119, 2600822924, 528734635, 1541459225]
def firstF (i : Nat) : UInt32 := firstL.getD i 0

/-- the two tables of the program, as its text lays them -/
def TabK (w : World) : Prop := ∀ i : Nat, i < 64 → w.cell? ⟨1, i, none⟩ = some (.int .u32 ((keyF i).toNat : Int))
def TabF (w : World) : Prop := ∀ i : Nat, i < 8 → w.cell? ⟨0, i, none⟩ = some (.int .u32 ((firstF i).toNat : Int))
theorem cell_pos {w : World} {g i : Nat} {v : Value} (h : w.cell? ⟨g, i, none⟩ = some v) : g < w.heap.size := by
  rcases Nat.lt_or_ge g w.heap.size with hz | hz
  · exact hz
  · simp [World.cell?, Array.getElem?_eq_none hz] at h
theorem TabK.pos {w : World} (h : TabK w) : 1 < w.heap.size := cell_pos (h 0 (by omega))
theorem TabF.pos {w : World} (h : TabF w) : 0 < w.heap.size := cell_pos (h 0 (by omega))
theorem TabK.later {w w' : World} {B : Nat} (h : TabK w) (hb : Below B w w') (hB : 1 < B) : TabK w' := fun i hi => (hb.cell (p := ⟨1, i, none⟩) hB).trans (h i hi)
theorem TabF.later {w w' : World} {B : Nat} (h : TabF w) (hb : Below B w w') (hB : 0 < B) : TabF w' := fun i hi => (hb.cell (p := ⟨0, i, none⟩) hB).trans (h i hi)

theorem Arr.below {w w' : World} {g t n B : Nat} {f : Nat → UInt32} (h : Arr w g t n f) (hb : Below B w w') (hg : g < B) : Arr w' g t n f := h.keep (hb.block g hg)

/-- the blocks of the function: the state, the result, the words -/
structure AS (w wr : World) (g : Nat) (s W : Nat → UInt32) : Prop where
  ss : Arr wr w.heap.size 40 8 s
  rr : Arr wr (w.heap.size + 1) 40 8 (fun _ => 0)
  ww : Arr wr g 50 64 W
  tt : TabK wr
  bel : Below w.heap.size w wr
theorem AS.start {w w2 : World} {Sc R : Array Value} {s W : Nat → UInt32} (hS : AggIs Sc 8 s) (hR : AggIs R 64 W) (hT : TabK w) (hb : Below ((w.alloc (.cells Sc 40)).alloc (.cells (zeros 8) 40)).heap.size ((w.alloc (.cells Sc 40)).alloc (.cells (zeros 8) 40)) w2) :
    AS w (w2.alloc (.cells R 50)) w2.heap.size s W := by
  have a1 := (Arr.agg (w := w) (t := 40) hS).alloc (.cells (zeros 8) 40)
  have a2 := Arr.agg (w := w.alloc (.cells Sc 40)) (t := 40) (AggIs.zeros 8)
  have hp := hT.pos
  have hb0 : Below w.heap.size w ((w.alloc (.cells Sc 40)).alloc (.cells (zeros 8) 40)) := ((Below.refl _ _).alloc (Nat.le_refl _) _).alloc (by simp) _
  have hs : ((w.alloc (.cells Sc 40)).alloc (.cells (zeros 8) 40)).heap.size = w.heap.size + 1 + 1 := by simp
  have hb1 := hb.size
  rw [hs] at hb hb1
  have hb2 : Below w.heap.size w w2 := hb0.trans (hb.mono (by omega))
  have hb3 := hb2.alloc (by omega) (.cells R 50)
  refine ⟨(a1.below hb (by omega)).alloc _, ?_, Arr.agg hR, hT.later hb3 hp, hb3⟩
  have a3 := (a2.below hb (by simp)).alloc (.cells R 50)
  simpa using a3
theorem AS.drewN {w wr : World} {g : Nat} {s W : Nat → UInt32} (q : AS w wr g s W) (n : Nat) : AS w (wr.drewN n) g s W := ⟨q.ss, q.rr, q.ww, q.tt, q.bel.trans ⟨rfl, rfl, rfl, Nat.le_refl _, fun _ _ => rfl⟩⟩

theorem agg8 (B : Nat → UInt32) : AggIs #[.int .u32 ((B 0).toNat : Int), .int .u32 ((B 1).toNat : Int), .int .u32 ((B 2).toNat : Int), .int .u32 ((B 3).toNat : Int), .int .u32 ((B 4).toNat : Int), .int .u32 ((B 5).toNat : Int), .int .u32 ((B 6).toNat : Int), .int .u32 ((B 7).toNat : Int)] 8 B := by
  refine ⟨rfl, fun i hi => ?_⟩
  have h8 : i = 0 ∨ i = 1 ∨ i = 2 ∨ i = 3 ∨ i = 4 ∨ i = 5 ∨ i = 6 ∨ i = 7 := by omega
  rcases h8 with rfl | rfl | rfl | rfl | rfl | rfl | rfl | rfl <;> rfl

def v32 (x : UInt32) : Value := .int .u32 (x.toNat : Int)
def AR (w : World) (g : Nat) (s W : Nat → UInt32) (va vb vc vd ve vf vg vh i : Value) (wr : World) : Prop :=
  ∃ m : Nat, m ≤ 64 ∧ i = .int .i64 m ∧ va = v32 (H.rounds s keyF W m 0) ∧ vb = v32 (H.rounds s keyF W m 1) ∧ vc = v32 (H.rounds s keyF W m 2) ∧ vd = v32 (H.rounds s keyF W m 3) ∧ ve = v32 (H.rounds s keyF W m 4) ∧ vf = v32 (H.rounds s keyF W m 5) ∧ vg = v32 (H.rounds s keyF W m 6) ∧ vh = v32 (H.rounds s keyF W m 7) ∧ AS w wr g s W

set_option maxHeartbeats 1000000 in
set_option maxRecDepth 100000 in
theorem after_any (Sc : Array Value) (s : Nat → UInt32) (b : ByteArray) (hb : b.size = 64) (w : World) (hS : AggIs Sc 8 s) (hT : TabK w) :
    Calls Tryd.prog 20 #[.agg Sc, .string b] w fun e w' => ∃ R, e = .returned (.agg R) ∧ AggIs R 8 (H.block s keyF (bAt b)) ∧ Below w.heap.size w w' := by
  have HS : Hid (AggIs Sc 8 s) := hS
  have HT : Hid (TabK w) := hT
  clear hS hT
  go_enter Tryd.func20, Tryd.ntmps20
  go_wp2_with (first | (with_reducible refine wp_alloc55 rfl rfl ?_) | (refine wp_allocArr rfl 40 8 rfl zero52 ?_))
  refine (shaWords_any b hb _).mono ?_
  rintro e w2 ⟨R, rfl, hR, hb2⟩
  have hst := AS.start HS.out hR HT.out hb2
  have HST : Hid (AS w (w2.alloc (.cells R 50)) w2.heap.size s (H.wAll (bAt b))) := hst
  have HB : Hid (H.block s keyF (bAt b) = fun j => s j + H.rounds s keyF (H.wAll (bAt b)) 64 j) := rfl
  have HR : Hid (AggIs R 64 (H.wAll (bAt b))) := hR
  generalize H.wAll (bAt b) = W at *
  have c0 := hst.ss.cell 0 (by omega)
  have c1 := hst.ss.cell 1 (by omega)
  have c2 := hst.ss.cell 2 (by omega)
  have c3 := hst.ss.cell 3 (by omega)
  have c4 := hst.ss.cell 4 (by omega)
  have c5 := hst.ss.cell 5 (by omega)
  have c6 := hst.ss.cell 6 (by omega)
  have c7 := hst.ss.cell 7 (by omega)
  clear hst hb2 hR HS HT
  go_wp2_with (first | (with_reducible refine wp_alloc55 rfl rfl ?_) | (refine wp_storeNew rfl 50 64 _ _ rfl w2 _ R W rfl (zeros_size 64) HR.out rfl rfl size61 ?_))
  simp only [Act.put, List.setIfInBounds_toArray, List.set_cons_succ, List.set_cons_zero]
  refine wp_region_quiet_lit (by kernel_rfl) (by kernel_rfl) ?_
  iterate 24 go_big_quiet_step (fail)
  refine wpQuiet_nil ?_
  rintro _ ⟨q1, rfl⟩
  generalize w2.heap.size = g at *
  generalize w2.alloc (.cells R 50) = w3 at *
  go_wp2
  go_loopw [6, 7, 8, 9, 10, 11, 12, 13, 38] (fun va vb vc vd ve vf vg vh i wr => AR w g s W va vb vc vd ve vf vg vh i wr) (fun _ _ _ _ _ _ _ _ i _ => 64 - (intOf i).toNat)
  case atStart => exact ⟨0, by omega, rfl, rfl, rfl, rfl, rfl, rfl, rfl, rfl, rfl, HST.out.drewN _⟩
  case round =>
    obtain ⟨m, hm, rfl, rfl, rfl, rfl, rfl, rfl, rfl, rfl, rfl, hs⟩ := hrel
    clear c0 c1 c2 c3 c4 c5 c6 c7 HST HR
    by_cases hlt : m < 64
    · have HRR : Hid (H.rounds s keyF W (m + 1) = H.round (H.rounds s keyF W m) (keyF m) (W m)) := rfl
      have ck := hs.tt m hlt
      have cw := hs.ww.cell m hlt
      generalize H.rounds s keyF W m = t at *
      have HA : Hid (∀ q, AS w (wr.drewN q) g s W) := fun q => hs.drewN q
      clear hs
      have r0 : H.round t (keyF m) (W m) 0 = H.one t (keyF m) (W m) + H.two t := rfl
      have r4 : H.round t (keyF m) (W m) 4 = t 3 + H.one t (keyF m) (W m) := rfl
      have r1 : H.round t (keyF m) (W m) 1 = t 0 := rfl
      have r2 : H.round t (keyF m) (W m) 2 = t 1 := rfl
      have r3 : H.round t (keyF m) (W m) 3 = t 2 := rfl
      have r5 : H.round t (keyF m) (W m) 5 = t 4 := rfl
      have r6 : H.round t (keyF m) (W m) 6 = t 5 := rfl
      have r7 : H.round t (keyF m) (W m) 7 = t 6 := rfl
      have e1 : H.one t (keyF m) (W m) = (((t 7 + H.big1 (t 4)) + H.ch (t 4) (t 5) (t 6)) + keyF m) + W m := rfl
      have e2 : H.two t = H.big0 (t 0) + H.maj (t 0) (t 1) (t 2) := rfl
      generalize H.round t (keyF m) (W m) = t' at *
      generalize H.one t (keyF m) (W m) = ONE at *
      generalize H.two t = TWO at *
      generalize keyF m = KM at *
      generalize W m = WM at *
      generalize t 0 = S0 at *
      generalize t 1 = S1 at *
      generalize t 2 = S2 at *
      generalize t 3 = S3' at *
      generalize t 4 = S4 at *
      generalize t 5 = S5 at *
      generalize t 6 = S6 at *
      generalize t 7 = S7 at *
      obtain ⟨y1, g1⟩ : ∃ x, H.rotr S4 6 ^^^ H.rotr S4 11 = x := ⟨_, rfl⟩
      obtain ⟨y2, g2⟩ : ∃ x, y1 ^^^ H.rotr S4 25 = x := ⟨_, rfl⟩
      have q2 : H.big1 S4 = y2 := by rw [← g2, ← g1]; rfl
      obtain ⟨y3, g3⟩ : ∃ x, S4 &&& S5 = x := ⟨_, rfl⟩
      obtain ⟨y4, g4⟩ : ∃ x, S4 ^^^ 4294967295 = x := ⟨_, rfl⟩
      obtain ⟨y5, g5⟩ : ∃ x, y4 &&& S6 = x := ⟨_, rfl⟩
      obtain ⟨y6, g6⟩ : ∃ x, y3 ^^^ y5 = x := ⟨_, rfl⟩
      have q6 : H.ch S4 S5 S6 = y6 := by rw [← g6, ← g5, ← g4, ← g3]; rfl
      obtain ⟨y7, g7⟩ : ∃ x, S7 + y2 = x := ⟨_, rfl⟩
      obtain ⟨y8, g8⟩ : ∃ x, y7 + y6 = x := ⟨_, rfl⟩
      obtain ⟨y9, g9⟩ : ∃ x, y8 + KM = x := ⟨_, rfl⟩
      have g10 : y9 + WM = ONE := by rw [e1, q2, q6, g7, g8, g9]
      obtain ⟨z1, k1⟩ : ∃ x, H.rotr S0 2 ^^^ H.rotr S0 13 = x := ⟨_, rfl⟩
      obtain ⟨z2, k2⟩ : ∃ x, z1 ^^^ H.rotr S0 22 = x := ⟨_, rfl⟩
      have q3 : H.big0 S0 = z2 := by rw [← k2, ← k1]; rfl
      obtain ⟨z3, k3⟩ : ∃ x, S0 &&& S1 = x := ⟨_, rfl⟩
      obtain ⟨z4, k4⟩ : ∃ x, S0 &&& S2 = x := ⟨_, rfl⟩
      obtain ⟨z5, k5⟩ : ∃ x, z3 ^^^ z4 = x := ⟨_, rfl⟩
      obtain ⟨z6, k6⟩ : ∃ x, S1 &&& S2 = x := ⟨_, rfl⟩
      obtain ⟨z7, k7⟩ : ∃ x, z5 ^^^ z6 = x := ⟨_, rfl⟩
      have q7 : H.maj S0 S1 S2 = z7 := by rw [← k7, ← k6, ← k5, ← k4, ← k3]; rfl
      obtain ⟨z8, k8⟩ : ∃ x, ONE + z2 = x := ⟨_, rfl⟩
      have k9 : z8 + z7 = t' 0 := by rw [r0, e2, q3, q7, ← k8, UInt32.add_assoc]
      have k10 : S3' + ONE = t' 4 := r4.symm
      have bg1 := bx' g1
      have bg2 := bx' g2
      have bg3 := ba' g3
      have bg4 : bits .xor .u32 IntKind.u32.max (S4.toNat : Int) = (y4.toNat : Int) := by rw [← g4, UInt32.xor_comm]; exact H.bx 4294967295 S4
      have sg : IntKind.u32.signed = false := rfl
      have bg5 := ba' g5
      have bg6 := bx' g6
      have bg7 := badd' g7
      have bg8 := badd' g8
      have bg9 := badd' g9
      have bg10 := badd' g10
      have bk1 := bx' k1
      have bk2 := bx' k2
      have bk3 := ba' k3
      have bk4 := ba' k4
      have bk5 := bx' k5
      have bk6 := ba' k6
      have bk7 := bx' k7
      have bk8 := badd' k8
      have HV : Hid ((t' 1 = S0 ∧ t' 2 = S1) ∧ (t' 3 = S2 ∧ t' 5 = S4) ∧ (t' 6 = S5 ∧ t' 7 = S6)) := ⟨⟨r1, r2⟩, ⟨r3, r5⟩, ⟨r6, r7⟩⟩
      obtain ⟨N0, hN0⟩ : ∃ x, t' 0 = x := ⟨_, rfl⟩
      obtain ⟨N4, hN4⟩ : ∃ x, t' 4 = x := ⟨_, rfl⟩
      rw [hN0] at k9
      rw [hN4] at k10
      have bN0 := badd' k9
      have bN4 := badd' k10
      have HN : Hid (t' 0 = N0 ∧ t' 4 = N4) := ⟨hN0, hN4⟩
      clear g1 g2 g3 g4 g5 g6 g7 g8 g9 g10 k1 k2 k3 k4 k5 k6 k7 k8 k9 k10 hN4 hN0 e1 e2 q2 q3 q6 q7 r0 r1 r2 r3 r4 r5 r6 r7
      have i8 : (m : Int) < 64 := by omega
      have i9 : (0 : Int) ≤ (m : Int) := by omega
      unfold v32
      go_wp2_with fail
      refine (Rot6 S4 _).mono ?_
      rintro e w6 ⟨rfl, rfl⟩
      go_wp2_with fail
      refine (Rot11 S4 _).mono ?_
      rintro e w11 ⟨rfl, rfl⟩
      go_wp2_with fail
      refine (Rot25 S4 _).mono ?_
      rintro e w25 ⟨rfl, rfl⟩
      go_wp2_with fail
      refine wp_region_quiet_lit (by kernel_rfl) (by kernel_rfl) ?_
      iterate 14 go_big_quiet_step (fail)
      refine wpQuiet_nil ?_
      rintro _ ⟨q2, rfl⟩
      go_wp2_with fail
      refine (Rot2 S0 _).mono ?_
      rintro e w2 ⟨rfl, rfl⟩
      go_wp2_with fail
      refine (Rot13 S0 _).mono ?_
      rintro e w13 ⟨rfl, rfl⟩
      go_wp2_with fail
      refine (Rot22 S0 _).mono ?_
      rintro e w22 ⟨rfl, rfl⟩
      go_wp2_with fail
      go_roundw
      case rel =>
        refine ⟨m + 1, by omega, by go_num, ?_, ?_, ?_, ?_, ?_, ?_, ?_, ?_, HA.out _⟩
        · rw [HRR.out, HN.out.1, v32, ← bN0]
        · rw [HRR.out, HV.out.1.1]; rfl
        · rw [HRR.out, HV.out.1.2]; rfl
        · rw [HRR.out, HV.out.2.1.1]; rfl
        · rw [HRR.out, HN.out.2, v32, ← bN4]
        · rw [HRR.out, HV.out.2.1.2]; rfl
        · rw [HRR.out, HV.out.2.2.1]; rfl
        · rw [HRR.out, HV.out.2.2.2]; rfl
      case measure => simp [intOf]; omega
    · have hme : m = 64 := by omega
      subst hme
      have HS5 : Hid (AS w wr g s W) := hs
      have c0 := hs.ss.cell 0 (by omega)
      have c1 := hs.ss.cell 1 (by omega)
      have c2 := hs.ss.cell 2 (by omega)
      have c3 := hs.ss.cell 3 (by omega)
      have c4 := hs.ss.cell 4 (by omega)
      have c5 := hs.ss.cell 5 (by omega)
      have c6 := hs.ss.cell 6 (by omega)
      have c7 := hs.ss.cell 7 (by omega)
      clear hs
      have HB2 : Hid (∀ j, s j + H.rounds s keyF W 64 j = H.block s keyF (bAt b) j) := fun j => by rw [HB.out]
      generalize H.rounds s keyF W 64 = t at *
      obtain ⟨B, hB⟩ : ∃ B, H.block s keyF (bAt b) = B := ⟨_, rfl⟩
      rw [hB] at HB2
      have HBB : Hid (H.block s keyF (bAt b) = B) := hB
      clear hB
      have b0 := badd' (HB2.out 0)
      have b1 := badd' (HB2.out 1)
      have b2 := badd' (HB2.out 2)
      have b3 := badd' (HB2.out 3)
      have b4 := badd' (HB2.out 4)
      have b5 := badd' (HB2.out 5)
      have b6 := badd' (HB2.out 6)
      have b7 := badd' (HB2.out 7)
      have HAG : Hid (AggIs #[.int .u32 ((B 0).toNat : Int), .int .u32 ((B 1).toNat : Int), .int .u32 ((B 2).toNat : Int), .int .u32 ((B 3).toNat : Int), .int .u32 ((B 4).toNat : Int), .int .u32 ((B 5).toNat : Int), .int .u32 ((B 6).toNat : Int), .int .u32 ((B 7).toNat : Int)] 8 B) := agg8 B
      unfold v32
      go_wp2_with (refine wp_storeArr rfl 40 _ _ rfl (w.heap.size + 1) 40 8 _ B _ HS5.out.rr HAG.out rfl rfl size52 ?_; intro hfin)
      refine ret_arr 4 (w.heap.size + 1) 40 8 40 38 B rfl rfl rfl hfin Tryd.underlying40 size52 ?_
      intro R2 hR2
      exact ⟨R2, rfl, by rw [HBB.out]; exact hR2, below_setRow HS5.out.bel (by omega)⟩
end Go.Proofs.YtjfdgidhgijheaaDoor
