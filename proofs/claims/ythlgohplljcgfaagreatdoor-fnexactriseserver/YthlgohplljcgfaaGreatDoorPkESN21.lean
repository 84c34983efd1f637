/-
  Texts laid together: Padi, Begin, Inb, Block.
-/
import Derived.Test.YthlgohplljcgfaaGreatDoorPkESN20
import Derived.Test.YthlgohplljcgfaaGreatDoorPkESN4
import Derived.Test.YthlgohplljcgfaaGreatDoorPkESN19
/-
  The walk of the program's PadText.
-/
namespace Go.Proofs.YthlgohplljcgfaaGreatDoor
open Go.RowKit
set_option linter.unusedVariables false

/-- the row when the last i bytes of the length stand -/
def padRow (l : List UInt8) (i : Nat) : List UInt8 := padHead l (padZ l.length + (8 - i)) ++ (lenL (8 * l.length) 8).drop (8 - i)
theorem padRow_len (l : List UInt8) (i : Nat) (h : i ≤ 8) : (padRow l i).length = (l.length + 72) / 64 * 64 := by
  unfold padRow
  rw [List.length_append, padHead_len, List.length_drop, lenL_len]
  unfold padZ
  omega
theorem padRow_start (l : List UInt8) : (l ++ List.replicate ((l.length + 72) / 64 * 64 - l.length) 0).set l.length 128 = padRow l 0 := by
  have e : (l.length + 72) / 64 * 64 - l.length = (padZ l.length + 8) + 1 := by unfold padZ; omega
  rw [e, List.replicate_succ, List.set_append_right _ _ (Nat.le_refl _)]
  simp [padRow, padHead, lenL_len]
theorem padRow_end (l : List UInt8) : padRow l 8 = padL l := by simp [padRow, padL, padHead]
theorem padRow_step (l : List UInt8) (i : Nat) (h : i < 8) : (padRow l i).set ((l.length + 72) / 64 * 64 - 1 - i) (lenB (8 * l.length) (7 - i)) = padRow l (i + 1) := by
  have e1 : 8 - i = (8 - (i + 1)) + 1 := by omega
  have e2 : (l.length + 72) / 64 * 64 - 1 - i = (padHead l (padZ l.length + (8 - (i + 1)))).length := by rw [padHead_len]; unfold padZ; omega
  unfold padRow
  rw [e1, ← Nat.add_assoc, ← padHead_succ, List.append_assoc, e2, List.set_append_right _ _ (Nat.le_refl _)]
  congr 1
  simp
  have e3 : 7 - i < (lenL (8 * l.length) 8).length := by rw [lenL_len]; omega
  rw [List.drop_eq_getElem_cons e3]
  congr 1
  simp [lenL]

def PadRel3 (t : ByteArray) (w : World) (i : Value) (wr : World) : Prop :=
  ∃ j : Nat, j ≤ 8 ∧ i = .int .i64 (j : Int) ∧ Byt wr w.heap.size (padRow t.data.toList j) ∧ Below w.heap.size w wr

set_option maxRecDepth 100000 in
set_option maxHeartbeats 1000000 in
theorem PadText_any (t : ByteArray) (w : World) (ht : t.size ≤ 1048576) :
    Calls Tryz.prog 187 #[.string t] w fun e w' => e = .returned (.string ⟨(padL t.data.toList).toArray⟩) ∧ Below w.heap.size w w' := by
  obtain ⟨M, hm⟩ : ∃ M : Nat, (t.size + 72) / 64 * 64 = M := ⟨_, rfl⟩
  obtain ⟨w1, hmk, hb1, hbel1, hsz1⟩ := Byt.made M (by omega) w
  obtain ⟨w2, hcp, hb2, hbel2, hsz2⟩ := hb1.copy t 3 (by omega)
  have eM : (M : Int) = ((t.size : Int) + 1 + 8 + 64 - 1) / 64 * 64 := by omega
  rw [eM] at hmk
  have hl : t.data.toList.length = t.size := Array.length_toList
  obtain ⟨x1, c1⟩ := hb2.has t.size (by simp [hl]; omega)
  have f1 := hb2.frozen t.size
  have hM : t.size + 9 ≤ M := by omega
  have hM2 : M ≤ 2000000 := by omega
  have hst := hb2.set t.size 128 (padRow t.data.toList 0) (by have := padRow_start t.data.toList; rw [hl, hm] at this; exact this)
  have hbel : Below w.heap.size w (w2.setCell ⟨w.heap.size, t.size, none⟩ (.int .u8 ((128 : UInt8).toNat : Int))) := (hbel1.trans (hbel2 _ (Nat.le_refl _))).setCell (p := ⟨w.heap.size, t.size, none⟩) (Nat.le_refl _) _
  have HST : Hid (Byt (w2.setCell ⟨w.heap.size, t.size, none⟩ (.int .u8 128)) w.heap.size (padRow t.data.toList 0) ∧ Below w.heap.size w (w2.setCell ⟨w.heap.size, t.size, none⟩ (.int .u8 128))) := ⟨hst, hbel⟩
  have HL : Hid (t.data.toList.length = t.size) := hl
  have HM : Hid ((t.size + 72) / 64 * 64 = M) := hm
  clear hst hbel hb1 hb2 hbel1 hbel2 hsz1 hsz2 hl hm eM
  go_enter Tryz.func187, Tryz.ntmps187
  go_wp2
  go_loopw [28] (fun i wr => PadRel3 t w i wr) (fun i _ => 8 - (intOf i).toNat)
  case atStart => exact ⟨0, by omega, rfl, HST.out.1, HST.out.2⟩
  case round =>
    obtain ⟨j, hj, rfl, hb, hbel⟩ := hrel
    have hlen := padRow_len t.data.toList j hj
    rw [HL.out, HM.out] at hlen
    clear HST c1 f1 hcp hmk
    by_cases h8 : j = 8
    · subst h8
      have hcv := hb.str M M hlen
      rw [padRow_end] at hcv
      clear hb hlen
      go_wp2
      go_ret
      exact ⟨rfl, hbel⟩
    · have hB := lenB_nat (8 * t.size) (7 - j)
      have hS := padRow_step t.data.toList j (by omega)
      rw [HL.out, HM.out] at hS
      obtain ⟨x1, c1⟩ := hb.has (M - 1 - j) (by omega)
      have f1 := hb.frozen (M - 1 - j)
      have HB : Hid ((lenB (8 * t.size) (7 - j)).toNat = 8 * t.size / 256 ^ (7 - (7 - j)) % 256) := hB
      have HS : Hid ((padRow t.data.toList j).set (M - 1 - j) (lenB (8 * t.size) (7 - j)) = padRow t.data.toList (j + 1)) := hS
      obtain ⟨I, hI⟩ : ∃ I : Int, (j : Int) = I := ⟨_, rfl⟩
      rw [hI]
      have H8 : (j = 0 ∧ I = 0) ∨ (j = 1 ∧ I = 1) ∨ (j = 2 ∧ I = 2) ∨ (j = 3 ∧ I = 3) ∨ (j = 4 ∧ I = 4) ∨ (j = 5 ∧ I = 5) ∨ (j = 6 ∧ I = 6) ∨ (j = 7 ∧ I = 7) := by omega
      clear hB hS h8 hj hlen hI
      rcases H8 with ⟨rfl, rfl⟩ | ⟨rfl, rfl⟩ | ⟨rfl, rfl⟩ | ⟨rfl, rfl⟩ | ⟨rfl, rfl⟩ | ⟨rfl, rfl⟩ | ⟨rfl, rfl⟩ | ⟨rfl, rfl⟩
      · have i0 : (0 : Int) ≤ (M : Int) - 1 := by omega
        have i1 : (M : Int) - 1 < (M : Int) := by omega
        have i2 : ((M : Int) - 1).toNat = M - 1 := by omega
        simp only [Nat.sub_zero] at c1 f1
        go_wp2
        go_roundw
        case rel => exact ⟨1, by omega, by go_num, hb.setx _ _ _ _ (by have := HB.out; omega) HS.out, hbel.setCell (p := ⟨w.heap.size, M - 1 - 0, none⟩) (Nat.le_refl _) _⟩
        case measure => simp [intOf]
      · have i0 : (0 : Int) ≤ (M : Int) - 1 - 1 := by omega
        have i1 : (M : Int) - 1 - 1 < (M : Int) := by omega
        have i2 : ((M : Int) - 1 - 1).toNat = M - 1 - 1 := by omega
        go_wp2
        go_roundw
        case rel => exact ⟨2, by omega, by go_num, hb.setx _ _ _ _ (by have := HB.out; omega) HS.out, hbel.setCell (p := ⟨w.heap.size, M - 1 - 1, none⟩) (Nat.le_refl _) _⟩
        case measure => simp [intOf]
      · have i0 : (0 : Int) ≤ (M : Int) - 1 - 2 := by omega
        have i1 : (M : Int) - 1 - 2 < (M : Int) := by omega
        have i2 : ((M : Int) - 1 - 2).toNat = M - 1 - 2 := by omega
        go_wp2
        go_roundw
        case rel => exact ⟨3, by omega, by go_num, hb.setx _ _ _ _ (by have := HB.out; omega) HS.out, hbel.setCell (p := ⟨w.heap.size, M - 1 - 2, none⟩) (Nat.le_refl _) _⟩
        case measure => simp [intOf]
      · have i0 : (0 : Int) ≤ (M : Int) - 1 - 3 := by omega
        have i1 : (M : Int) - 1 - 3 < (M : Int) := by omega
        have i2 : ((M : Int) - 1 - 3).toNat = M - 1 - 3 := by omega
        go_wp2
        go_roundw
        case rel => exact ⟨4, by omega, by go_num, hb.setx _ _ _ _ (by have := HB.out; omega) HS.out, hbel.setCell (p := ⟨w.heap.size, M - 1 - 3, none⟩) (Nat.le_refl _) _⟩
        case measure => simp [intOf]
      · have i0 : (0 : Int) ≤ (M : Int) - 1 - 4 := by omega
        have i1 : (M : Int) - 1 - 4 < (M : Int) := by omega
        have i2 : ((M : Int) - 1 - 4).toNat = M - 1 - 4 := by omega
        go_wp2
        go_roundw
        case rel => exact ⟨5, by omega, by go_num, hb.setx _ _ _ _ (by have := HB.out; omega) HS.out, hbel.setCell (p := ⟨w.heap.size, M - 1 - 4, none⟩) (Nat.le_refl _) _⟩
        case measure => simp [intOf]
      · have i0 : (0 : Int) ≤ (M : Int) - 1 - 5 := by omega
        have i1 : (M : Int) - 1 - 5 < (M : Int) := by omega
        have i2 : ((M : Int) - 1 - 5).toNat = M - 1 - 5 := by omega
        go_wp2
        go_roundw
        case rel => exact ⟨6, by omega, by go_num, hb.setx _ _ _ _ (by have := HB.out; omega) HS.out, hbel.setCell (p := ⟨w.heap.size, M - 1 - 5, none⟩) (Nat.le_refl _) _⟩
        case measure => simp [intOf]
      · have i0 : (0 : Int) ≤ (M : Int) - 1 - 6 := by omega
        have i1 : (M : Int) - 1 - 6 < (M : Int) := by omega
        have i2 : ((M : Int) - 1 - 6).toNat = M - 1 - 6 := by omega
        go_wp2
        go_roundw
        case rel => exact ⟨7, by omega, by go_num, hb.setx _ _ _ _ (by have := HB.out; omega) HS.out, hbel.setCell (p := ⟨w.heap.size, M - 1 - 6, none⟩) (Nat.le_refl _) _⟩
        case measure => simp [intOf]
      · have i0 : (0 : Int) ≤ (M : Int) - 1 - 7 := by omega
        have i1 : (M : Int) - 1 - 7 < (M : Int) := by omega
        have i2 : ((M : Int) - 1 - 7).toNat = M - 1 - 7 := by omega
        go_wp2
        go_roundw
        case rel => exact ⟨8, by omega, by go_num, hb.setx _ _ _ _ (by have := HB.out; omega) HS.out, hbel.setCell (p := ⟨w.heap.size, M - 1 - 7, none⟩) (Nat.le_refl _) _⟩
        case measure => simp [intOf]

end Go.Proofs.YthlgohplljcgfaaGreatDoor
/-
  The first numbers and the keys, the program's and the specification's; a state in bytes.
-/
namespace Go.Proofs.YthlgohplljcgfaaGreatDoor
open Go.RowKit Go.BigFrame
set_option linter.unusedVariables false

theorem toNat_lit (n : Nat) (h : n < 4294967296) : ((UInt32.ofNat n).toNat : Int) = (n : Int) := by rw [H.toNat_of n h]

set_option maxRecDepth 100000 in
set_option maxHeartbeats 400000 in
theorem l03First_any (w : World) : Calls Tryz.prog 155 #[] w fun e w' => ∃ R, e = .returned (.agg R) ∧ AggIs R 8 firstF ∧ Below w.heap.size w w' := by
  have HAG : Hid (AggIs #[.int .u32 1779033703, .int .u32 3144134277, .int .u32 1013904242, .int .u32 2773480762, .int .u32 1359893119, .int .u32 2600822924, .int .u32 528734635, .int .u32 1541459225] 8 firstF) := agg8 firstF
  go_enter Tryz.func155, Tryz.ntmps155
  go_wp2_with (first | (with_reducible refine wp_alloc50 rfl rfl ?_) | (refine wp_storeArr rfl 191 _ _ rfl w.heap.size 191 8 _ firstF _ (Arr.agg (AggIs.zeros 8)) HAG.out rfl rfl size51 ?_; intro hfin))
  refine ret_arr 0 w.heap.size 191 8 191 167 firstF rfl rfl rfl hfin Tryz.underlying191 size51 ?_
  intro R2 hR2
  exact ⟨R2, rfl, hR2, below_setRow ((Below.refl _ _).alloc (Nat.le_refl _) _) (Nat.le_refl _)⟩

def B1 (w : World) (i : Value) (wr : World) : Prop := ∃ (m : Nat) (f : Nat → UInt32), m ≤ 8 ∧ i = .int .i64 m ∧ Arr wr w.heap.size 228 8 (fun _ => 0) ∧ Arr wr (w.heap.size + 1) 228 8 f ∧ (∀ i, i < m → f i = firstF i) ∧ TabF wr ∧ Below w.heap.size w wr

set_option maxRecDepth 100000 in
set_option maxHeartbeats 400000 in
theorem shaBegin_any (w : World) (hT : TabF w) : Calls Tryz.prog 188 #[] w fun e w' => ∃ R, e = .returned (.agg R) ∧ AggIs R 8 firstF ∧ Below w.heap.size w w' := by
  have hp := hT.pos
  have hb0 : Below w.heap.size w ((w.alloc (.cells (zeros 8) 228)).alloc (.cells (zeros 8) 228)) := ((Below.refl _ _).alloc (Nat.le_refl _) _).alloc (by simp) _
  have a2 := Arr.agg (w := w.alloc (.cells (zeros 8) 228)) (t := 228) (AggIs.zeros 8)
  have HST : Hid (B1 w (.int .i64 0) ((w.alloc (.cells (zeros 8) 228)).alloc (.cells (zeros 8) 228))) := ⟨0, fun _ => 0, by omega, rfl, (Arr.agg (AggIs.zeros 8)).alloc _, by simpa using a2, fun i hi => absurd hi (by omega), hT.later hb0 hp, hb0⟩
  clear a2 hb0 hT
  go_enter Tryz.func188, Tryz.ntmps188
  go_wp2_with (refine wp_allocArr rfl 228 8 rfl zero52 ?_)
  generalize ((w.alloc (.cells (zeros 8) 228)).alloc (.cells (zeros 8) 228)) = w1 at *
  go_loopw [3] (fun i wr => B1 w i wr) (fun i _ => 8 - (intOf i).toNat)
  case atStart => exact HST.out
  case round =>
    obtain ⟨m, f, hm, rfl, ha, hf, he, ht, hbel⟩ := hrel
    by_cases hlt : m < 8
    · have c0 := hf.cell m hlt
      have f0 := hf.frozen m
      have c1 := ht m hlt
      have HN : Hid (B1 w (.int .i64 ((m + 1 : Nat) : Int)) (wr.setCell ⟨w.heap.size + 1, m, none⟩ (.int .u32 ((firstF m).toNat : Int)))) := by
        have hb2 : Below w.heap.size w (wr.setCell ⟨w.heap.size + 1, m, none⟩ (.int .u32 ((firstF m).toNat : Int))) := hbel.setCell (p := ⟨w.heap.size + 1, m, none⟩) (by show w.heap.size ≤ w.heap.size + 1; omega) _
        refine ⟨m + 1, H.upd f m (firstF m), by omega, rfl, ha.other _ _ _ (by omega), hf.set m hlt _, fun i hi => ?_, fun i hi => ?_, hb2⟩
        · unfold H.upd
          by_cases h1 : i = m
          · rw [if_pos h1, h1]
          · rw [if_neg h1]; exact he i (by omega)
        · rw [World.cell?_setCell_other _ _ _ _ (by simp)]
          exact ht i hi
      generalize firstF m = X at *
      clear HST ha hf he ht hbel
      have i8 : (m : Int) < 8 := by omega
      have i9 : (0 : Int) ≤ (m : Int) := by omega
      go_wp2
      go_roundw
      case rel =>
        have h1 := HN.out
        have e1 : (((m + 1 : Nat)) : Int) = (m : Int) + 1 := by omega
        rw [e1] at h1
        exact h1
      case measure => simp [intOf]; omega
    · have hme : m = 8 := by omega
      subst hme
      have HF : Hid (Arr wr (w.heap.size + 1) 228 8 firstF) := hf.congr he
      have HR : Hid (Arr wr w.heap.size 228 8 (fun _ => 0)) := ha
      clear ha hf he ht HST
      go_wp2_with (first | (refine wp_loadArr rfl 228 _ rfl (w.heap.size + 1) 228 8 firstF 167 rfl HF.out Tryz.underlying228 size52 ?_; intro R hR) | (refine wp_storeArr rfl 228 _ _ rfl w.heap.size 228 8 _ firstF R HR.out hR rfl rfl size52 ?_; intro hfin))
      refine ret_arr 0 w.heap.size 228 8 228 167 firstF rfl rfl rfl hfin Tryz.underlying228 size52 ?_
      intro R2 hR2
      exact ⟨R2, rfl, hR2, below_setRow hbel (Nat.le_refl _)⟩

theorem agg_of (l : List UInt32) (n : Nat) (hn : l.length = n) : AggIs (l.map fun x => Value.int .u32 (x.toNat : Int)).toArray n (fun i => l.getD i 0) := by
  subst hn
  refine ⟨by simp, fun i hi => ?_⟩
  simp [List.getD, hi]

def keyA : Array Value := #[.int .u32 1116352408, .int .u32 1899447441, .int .u32 3049323471, .int .u32 3921009573, .int .u32 961987163, .int .u32 1508970993, .int .u32 2453635748, .int .u32 2870763221, .int .u32 3624381080, .int .u32 310598401, .int .u32 607225278, .int .u32 1426881987, .int .u32 1925078388, .int .u32 2162078206, .int .u32 2614888103, .int .u32 3248222580, .int .u32 3835390401, .int .u32 4022224774, .int .u32 264347078, .int .u32 604807628, .int .u32 770255983, .int .u32 1249150122, .int .u32 1555081692, .int .u32 1996064986, .int .u32 2554220882, .int .u32 2821834349, .int .u32 2952996808, .int .u32 3210313671, .int .u32 3336571891, .int .u32 3584528711, .int .u32 113926993, .int .u32 338241895, .int .u32 666307205, .int .u32 773529912, .int .u32 1294757372, .int .u32 1396182291, .int .u32 1695183700, .int .u32 1986661051, .int .u32 2177026350, .int .u32 2456956037, .int .u32 2730485921, .int .u32 2820302411, .int .u32 3259730800, .int .u32 3345764771, .int .u32 3516065817, .int .u32 3600352804, .int .u32 4094571909, .int .u32 275423344, .int .u32 430227734, .int .u32 506948616, .int .u32 659060556, .int .u32 883997877, .int .u32 958139571, .int .u32 1322822218, .int .u32 1537002063, .int .u32 1747873779, .int .u32 1955562222, .int .u32 2024104815, .int .u32 2227730452, .int .u32 2361852424, .int .u32 2428436474, .int .u32 2756734187, .int .u32 3204031479, .int .u32 3329325298]
theorem keyA_is : AggIs keyA 64 keyF := agg_of keyL 64 rfl
theorem zero61 : (Tryz.prog.info? 193).map (fun i => (i.zero, i.size)) = some (some (.agg (zeros 64)), 64) := by kernel_rfl

set_option maxRecDepth 100000 in
set_option maxHeartbeats 1000000 in
theorem l03Keys_any (w : World) : Calls Tryz.prog 156 #[] w fun e w' => ∃ R, e = .returned (.agg R) ∧ AggIs R 64 keyF ∧ Below w.heap.size w w' := by
  go_enter Tryz.func156, Tryz.ntmps156
  go_wp2_with (first | (with_reducible refine wp_alloc55 rfl rfl ?_) | (refine wp_storeArr rfl 193 _ _ rfl w.heap.size 193 64 _ keyF keyA (Arr.agg (AggIs.zeros 64)) keyA_is rfl rfl size61 ?_; intro hfin))
  refine ret_arr 0 w.heap.size 193 64 193 167 keyF rfl rfl rfl hfin Tryz.underlying193 size61 ?_
  intro R2 hR2
  exact ⟨R2, rfl, hR2, below_setRow ((Below.refl _ _).alloc (Nat.le_refl _) _) (Nat.le_refl _)⟩
end Go.Proofs.YthlgohplljcgfaaGreatDoor
/-
  A state in bytes.
-/
namespace Go.Proofs.YthlgohplljcgfaaGreatDoor
open Go.RowKit Go.BigFrame
set_option linter.unusedVariables false

def be4 (x : UInt32) : List UInt8 := [UInt8.ofNat (x.toNat / 16777216), UInt8.ofNat (x.toNat / 65536), UInt8.ofNat (x.toNat / 256), UInt8.ofNat x.toNat]
def digL (s : Nat → UInt32) (k : Nat) : List UInt8 := (List.range k).flatMap (fun i => be4 (s i))
theorem digL_succ (s : Nat → UInt32) (k : Nat) : digL s (k + 1) = digL s k ++ be4 (s k) := by simp [digL, List.range_succ]
theorem digL_len (s : Nat → UInt32) (k : Nat) : (digL s k).length = 4 * k := by
  induction k with
  | zero => rfl
  | succ k ih => rw [digL_succ, List.length_append, ih]; rfl

theorem run_aggAt {R : Array Value} {s : Nat → UInt32} (hR : AggIs R 8 s) (m : Nat) (hm : m < 8) (W : World) : (Instr.index 228 (.agg R) (.int .i64 (m : Int))).run Tryz.prog W = .ok (.int .u32 ((s m).toNat : Int)) W := by
  have h1 := hR.2 m hm
  simp [Instr.index, run_underlying Tryz.underlying228, asIntOf, go_sem, hm, h1]
theorem four_cells (w : World) (x0 x1 x2 x3 : Int) (X : UInt32) (t : TypeId) (h0 : x0 = (X.toNat : Int) / 16777216 % 256) (h1 : x1 = (X.toNat : Int) / 65536 % 256) (h2 : x2 = (X.toNat : Int) / 256 % 256) (h3 : x3 = (X.toNat : Int) % 256) :
    ∀ j u, (bv (be4 X))[j]? = some u → (w.alloc (.cells #[.int .u8 x0, .int .u8 x1, .int .u8 x2, .int .u8 x3] t)).cell? ((⟨w.heap.size, 0, none⟩ : Addr).add j) = some u := by
  intro j u hj
  obtain ⟨hj', rfl⟩ := bv_get _ _ _ hj
  subst h0 h1 h2 h3
  have h4 : j = 0 ∨ j = 1 ∨ j = 2 ∨ j = 3 := by simp [be4] at hj'; omega
  rcases h4 with rfl | rfl | rfl | rfl <;> simp [Addr.add, be4]
def IR (w w1 : World) (s : Nat → UInt32) (v i : Value) (wr : World) : Prop := ∃ m : Nat, m ≤ 8 ∧ i = .int .i64 m ∧ OB (w.heap.size + 1) w1 wr v (digL s m)

set_option maxRecDepth 100000 in
set_option maxHeartbeats 400000 in
theorem inBytesH_any (Sc : Array Value) (s : Nat → UInt32) (w : World) (hS : AggIs Sc 8 s) :
    Calls Tryz.prog 190 #[.agg Sc] w fun e w' => e = .returned (.string ⟨(digL s 8).toArray⟩) ∧ Below w.heap.size w w' := by
  obtain ⟨M, hmk, hob⟩ := run_mk 32 (by omega) (w.alloc (.cells Sc 228))
  have hmk' : (Instr.makeSlice 159 (.int .i64 0) (.int .i64 32)).run Tryz.prog (w.alloc (.cells Sc 228)) = _ := hmk
  clear hmk
  have ha := (Arr.agg (w := w) (t := 228) hS).alloc (.cells M 5)
  have HA : Hid (Arr ((w.alloc (.cells Sc 228)).alloc (.cells M 5)) w.heap.size 228 8 s) := ha
  clear ha
  go_enter Tryz.func190, Tryz.ntmps190
  go_wp2_with (refine wp_loadArr rfl 228 _ rfl w.heap.size 228 8 s 167 rfl HA.out Tryz.underlying228 size52 ?_; intro R hR)
  have hsz : (w.alloc (.cells Sc 228)).heap.size = w.heap.size + 1 := by simp
  rw [hsz] at hob
  have HOB : Hid (OB (w.heap.size + 1) (w.alloc (.cells Sc 228)) ((w.alloc (.cells Sc 228)).alloc (.cells M 5)) (.slice (some ⟨w.heap.size + 1, 0, none⟩) 0 32) []) := hob
  have HR : Hid (AggIs R 8 s) := hR
  have HB : Hid (Below w.heap.size w (w.alloc (.cells Sc 228))) := (Below.refl _ _).alloc (Nat.le_refl _) _
  clear hob hmk' HA hR hsz
  generalize (w.alloc (.cells Sc 228)).alloc (.cells M 5) = w2 at *
  generalize w.alloc (.cells Sc 228) = w1 at *
  go_loopw [3, 8] (fun v i wr => IR w w1 s v i wr) (fun _ i _ => 8 - (intOf i).toNat)
  case atStart => exact ⟨0, by omega, rfl, HOB.out⟩
  case round =>
    obtain ⟨m, hm, rfl, hown⟩ := hrel
    have hl := digL_len s m
    by_cases hlt : m < 8
    · have hix := run_aggAt HR.out m hlt
      have hD := digL_succ s m
      have hx := H.u32_lt (s m)
      have HD : Hid (digL s (m + 1) = digL s m ++ be4 (s m)) := hD
      clear hD
      generalize s m = X at *
      have i9 : (0 : Int) ≤ (m : Int) := by omega
      go_wp2_with (at_builtin; refine wp_app rfl _ _ rfl (w.heap.size + 1) w1 _ (digL s m) rfl (hown.alloc _) ⟨_, 0, none⟩ 4 4 (be4 X) rfl rfl ?c1 ?c2 ?_)
      case c1 => exact four_cells _ _ _ _ _ X _ (by omega) (by omega) (by omega) (by omega)
      case c2 => omega
      intro v5 w5 hown5
      rw [← HD.out] at hown5
      go_wp2
      go_roundw
      case rel => exact ⟨m + 1, by omega, by go_num, hown5⟩
      case measure => simp [intOf]; omega
    · have hme : m = 8 := by omega
      subst hme
      have hcv := run_str hown
      clear HOB
      go_wp2
      go_ret
      exact ⟨rfl, HB.out.trans (hown.2.1.mono (by omega))⟩
end Go.Proofs.YthlgohplljcgfaaGreatDoor
/-
  What the specification makes of a block.
-/
namespace Go.Proofs.YthlgohplljcgfaaGreatDoor
open Go.RowKit Go.BigFrame
set_option linter.unusedVariables false
set_option maxHeartbeats 4000000 in
set_option maxRecDepth 100000 in
theorem l03Block_any (Hc Kc : Array Value) (h k : Nat → UInt32) (b : ByteArray) (hb : b.size = 64) (w : World) (hH : AggIs Hc 8 h) (hK : AggIs Kc 64 k) :
    Calls Tryz.prog 158 #[.agg Hc, .string b, .agg Kc] w fun e w' => ∃ R, e = .returned (.agg R) ∧ AggIs R 8 (H.block h k (bAt b)) ∧ Below w.heap.size w w' := by
  have hst := BS.start w Hc Kc h k hH hK
  have HST : Hid (BS w ((((w.alloc (.cells Hc 191)).alloc (.cells Kc 193)).alloc (.cells (zeros 8) 191)).alloc (.cells (zeros 64) 193)) h k (fun _ => 0) (fun _ => 0)) := hst
  clear hst hH hK
  go_enter Tryz.func158, Tryz.ntmps158
  go_wp2_with (first | (with_reducible refine wp_build rfl rfl ?_) | (with_reducible refine wp_alloc55 rfl rfl ?_) | (with_reducible refine wp_alloc50 rfl rfl ?_) | (refine wp_store55 rfl _ _ rfl _ rfl rfl rfl ?_))
  generalize ((((w.alloc (.cells Hc 191)).alloc (.cells Kc 193)).alloc (.cells (zeros 8) 191)).alloc (.cells (zeros 64) 193)) = w1 at *
  go_loopw [8] (fun i wr => L1 w h k b i wr) (fun i _ => 16 - (intOf i).toNat)
  case atStart => exact ⟨0, by omega, rfl, HST.out⟩
  case round =>
    obtain ⟨m, hm, rfl, hs⟩ := hrel
    by_cases hlt : m < 16
    · have e0 := bAt_eq b (4 * m) (by omega)
      have e1 := bAt_eq b (4 * m + 1) (by omega)
      have e2 := bAt_eq b (4 * m + 2) (by omega)
      have e3 := bAt_eq b (4 * m + 3) (by omega)
      have l0 := b[4 * m].toNat_lt
      have l1 := b[4 * m + 1].toNat_lt
      have l2 := b[4 * m + 2].toNat_lt
      have l3 := b[4 * m + 3].toNat_lt
      have hwd := H.word_eq b[4 * m].toNat b[4 * m + 1].toNat b[4 * m + 2].toNat b[4 * m + 3].toNat l0 l1 l2 l3
      have hx : ((b[4 * m].toNat * 16777216 + b[4 * m + 1].toNat * 65536 + b[4 * m + 2].toNat * 256 + b[4 * m + 3].toNat : Nat) : Int) = ((H.word (bAt b) m).toNat : Int) := by
        unfold H.word
        rw [H.toNat_of _ (by rw [e0, e1, e2, e3]; omega), e0, e1, e2, e3]
      rw [hx] at hwd
      clear hx e0 e1 e2 e3
      have hs' := hs.setW m (by omega) (H.word (bAt b) m)
      have HS' : Hid (BS w (wr.setCell ⟨w.heap.size + 1 + 1 + 1, m, none⟩ (.int .u32 ((H.word (bAt b) m).toNat : Int))) h k (fun _ => 0) (H.wHead (bAt b) (m + 1))) := hs'
      have c0 := hs.ww.cell m (by omega)
      have f0 := hs.ww.frozen m
      clear hs hs'
      have i0 : (0 : Int) ≤ 4 * (m : Int) := by omega
      have i1 : 4 * (m : Int) + 3 < 64 := by omega
      have i2 : (0 : Int) ≤ (m : Int) := by omega
      have i3 : (m : Int) < 64 := by omega
      go_wp2
      have x0 := run_at b (4 * (m : Int)) (4 * m) (by omega) (by omega)
      have x1 := run_at b (4 * (m : Int) + 1) (4 * m + 1) (by omega) (by omega)
      have x2 := run_at b (4 * (m : Int) + 2) (4 * m + 2) (by omega) (by omega)
      have x3 := run_at b (4 * (m : Int) + 3) (4 * m + 3) (by omega) (by omega)
      go_region
      go_wp2
      go_roundw
      case rel => exact ⟨m + 1, by omega, by go_num, HS'.out.drew⟩
      case measure => simp [intOf]; omega
    · have hme : m = 16 := by omega
      subst hme
      have HS : Hid (BS w wr h k (fun _ => 0) (H.wHead (bAt b) 16)) := hs
      clear hs
      go_wp2
      go_loopw [9] (fun i wx => L2 w h k b i wx) (fun i _ => 64 - (intOf i).toNat)
      case atStart => exact ⟨16, by omega, by omega, rfl, HS.out⟩
      case round =>
        obtain ⟨n, hn, hn2, rfl, hs⟩ := hrel
        by_cases hlt2 : n < 64
        · have hF : H.wMore (H.wHead (bAt b) 16) (n + 1 - 16) = H.upd (H.wMore (H.wHead (bAt b) 16) (n - 16)) n (H.wStep (H.wMore (H.wHead (bAt b) 16) (n - 16)) n) := by
            have e1 : n + 1 - 16 = (n - 16) + 1 := by omega
            have e2 : 16 + (n - 16) = n := by omega
            rw [e1, H.wMore, e2]
          generalize H.wMore (H.wHead (bAt b) 16) (n - 16) = F at *
          have HF : Hid (H.wMore (H.wHead (bAt b) 16) (n + 1 - 16) = H.upd F n (H.wStep F n)) := hF
          have hs' := hs.setW n hlt2 (H.wStep F n)
          have HS' : Hid (BS w (wr.setCell ⟨w.heap.size + 1 + 1 + 1, n, none⟩ (.int .u32 ((H.wStep F n).toNat : Int))) h k (fun _ => 0) (H.upd F n (H.wStep F n))) := hs'
          have HW : Hid (H.wStep F n = ((F (n - 16) + H.sig0 (F (n - 15))) + F (n - 7)) + H.sig1 (F (n - 2))) := rfl
          have c15 := hs.ww.cell (n - 15) (by omega)
          have c2 := hs.ww.cell (n - 2) (by omega)
          have c16 := hs.ww.cell (n - 16) (by omega)
          have c7 := hs.ww.cell (n - 7) (by omega)
          have c0 := hs.ww.cell n (by omega)
          have f0 := hs.ww.frozen n
          clear hs hs' hF
          generalize F (n - 15) = X15 at *
          generalize F (n - 2) = X2 at *
          generalize F (n - 16) = X16 at *
          generalize F (n - 7) = X7 at *
          generalize F n = X0 at *
          obtain ⟨x1, e1⟩ : ∃ x, H.rotr X15 7 ^^^ H.rotr X15 18 = x := ⟨_, rfl⟩
          have s1 : (X15.toNat : Int) / 8 = ((H.shr X15 3).toNat : Int) := H.bshr X15 3
          obtain ⟨x2, e2⟩ : ∃ x, x1 ^^^ H.shr X15 3 = x := ⟨_, rfl⟩
          obtain ⟨x3, e3⟩ : ∃ x, H.rotr X2 17 ^^^ H.rotr X2 19 = x := ⟨_, rfl⟩
          have s2 : (X2.toNat : Int) / 1024 = ((H.shr X2 10).toNat : Int) := H.bshr X2 10
          obtain ⟨x4, e4⟩ : ∃ x, x3 ^^^ H.shr X2 10 = x := ⟨_, rfl⟩
          obtain ⟨x5, e5⟩ : ∃ x, X16 + x2 = x := ⟨_, rfl⟩
          obtain ⟨x6, e6⟩ : ∃ x, x5 + X7 = x := ⟨_, rfl⟩
          have e7 : x6 + x4 = H.wStep F n := by rw [HW.out, ← e6, ← e5, ← e2, ← e1, ← e4, ← e3]; rfl
          generalize H.wStep F n = WS at *
          have b1 := bx' e1
          have b2 := bx' e2
          have b3 := bx' e3
          have b4 := bx' e4
          have a1 := badd' e5
          have a2 := badd' e6
          have a3 := badd' e7
          clear e1 e2 e3 e4 e5 e6 e7 HW
          have t15 : ((n : Int) - 15).toNat = n - 15 := by omega
          have t2 : ((n : Int) - 2).toNat = n - 2 := by omega
          have t16 : ((n : Int) - 16).toNat = n - 16 := by omega
          have t7 : ((n : Int) - 7).toNat = n - 7 := by omega
          have i0 : (0 : Int) ≤ (n : Int) - 15 := by omega
          have i1 : (n : Int) - 15 < 64 := by omega
          have i2 : (0 : Int) ≤ (n : Int) - 2 := by omega
          have i3 : (n : Int) - 2 < 64 := by omega
          have i4 : (0 : Int) ≤ (n : Int) - 16 := by omega
          have i5 : (n : Int) - 16 < 64 := by omega
          have i6 : (0 : Int) ≤ (n : Int) - 7 := by omega
          have i7 : (n : Int) - 7 < 64 := by omega
          have i8 : (n : Int) < 64 := by omega
          have i9 : (0 : Int) ≤ (n : Int) := by omega
          go_wp2
          refine wp_region_quiet_lit (by kernel_rfl) (by kernel_rfl) ?_
          go_big_quiet_step (exact Calls.quiet_of_same (Turn7 _ _))
          go_big_quiet_step (exact Calls.quiet_of_same (Turn7 _ _))
          go_big_quiet_step (exact Calls.quiet_of_same (Turn7 _ _))
          go_big_quiet_step (exact Calls.quiet_of_same (Turn7 _ _))
          go_big_quiet_step (exact Calls.quiet_of_same (Turn7 _ _))
          go_big_quiet_step (exact Calls.quiet_of_same (Turn18 _ _))
          go_big_quiet_step (exact Calls.quiet_of_same (Turn18 _ _))
          go_big_quiet_step (exact Calls.quiet_of_same (Turn18 _ _))
          go_big_quiet_step (exact Calls.quiet_of_same (Turn18 _ _))
          go_big_quiet_step (exact Calls.quiet_of_same (Turn18 _ _))
          go_big_quiet_step (exact Calls.quiet_of_same (Turn7 _ _))
          go_big_quiet_step (exact Calls.quiet_of_same (Turn7 _ _))
          go_big_quiet_step (exact Calls.quiet_of_same (Turn7 _ _))
          go_big_quiet_step (exact Calls.quiet_of_same (Turn7 _ _))
          go_big_quiet_step (exact Calls.quiet_of_same (Turn7 _ _))
          go_big_quiet_step (exact Calls.quiet_of_same (Turn7 _ _))
          go_big_quiet_step (exact Calls.quiet_of_same (Turn7 _ _))
          go_big_quiet_step (exact Calls.quiet_of_same (Turn7 _ _))
          refine wpQuiet_nil ?_
          rintro _ ⟨q1, rfl⟩
          go_wp2
          refine wp_region_quiet_lit (by kernel_rfl) (by kernel_rfl) ?_
          go_big_quiet_step (exact quiet_same2 (Turn17 _ _))
          go_big_quiet_step (exact quiet_same2 (Turn17 _ _))
          go_big_quiet_step (exact quiet_same2 (Turn17 _ _))
          go_big_quiet_step (exact quiet_same2 (Turn17 _ _))
          go_big_quiet_step (exact quiet_same2 (Turn17 _ _))
          go_big_quiet_step (exact quiet_same2 (Turn19 _ _))
          go_big_quiet_step (exact quiet_same2 (Turn19 _ _))
          go_big_quiet_step (exact quiet_same2 (Turn19 _ _))
          go_big_quiet_step (exact quiet_same2 (Turn19 _ _))
          go_big_quiet_step (exact quiet_same2 (Turn19 _ _))
          go_big_quiet_step (exact quiet_same2 (Turn17 _ _))
          go_big_quiet_step (exact quiet_same2 (Turn17 _ _))
          go_big_quiet_step (exact quiet_same2 (Turn17 _ _))
          go_big_quiet_step (exact quiet_same2 (Turn17 _ _))
          go_big_quiet_step (exact quiet_same2 (Turn17 _ _))
          go_big_quiet_step (exact quiet_same2 (Turn17 _ _))
          go_big_quiet_step (exact quiet_same2 (Turn17 _ _))
          go_big_quiet_step (exact quiet_same2 (Turn17 _ _))
          refine wpQuiet_nil ?_
          rintro _ ⟨q2, rfl⟩
          go_wp2
          go_region
          go_wp2
          go_roundw
          case rel => exact ⟨n + 1, by omega, by omega, by go_num, by rw [HF.out]; exact HS'.out.drewN _⟩
          case measure => simp [intOf]; omega
        · have hne : n = 64 := by omega
          subst hne
          have hsz := hs.sz
          have HS2 : Hid (BS w wr h k (fun _ => 0) (H.wAll (bAt b))) := hs
          clear hs HS HST
          go_wp2_with (first | (refine wp_loadArr rfl 191 _ rfl w.heap.size 191 8 h 167 rfl HS2.out.hh Tryz.underlying191 size51 ?_; intro R hR) | (with_reducible refine wp_alloc50 rfl rfl ?_) | (refine wp_storeNew rfl 191 8 _ _ rfl wr _ R h rfl (zeros_size 8) hR rfl rfl size51 ?_))
          have HS3 : Hid (S3 w (wr.alloc (.cells R 191)) h k (H.wAll (bAt b)) h) := HS2.out.copy hR
          clear hR HS2 hsz
          generalize wr.alloc (.cells R 191) = w3 at *
          have HB : Hid ((fun i => h i + H.rounds h k (H.wAll (bAt b)) 64 i) = H.block h k (bAt b)) := rfl
          generalize H.wAll (bAt b) = W at *
          go_loopw [13] (fun i wx => L3 w h k W i wx) (fun i _ => 64 - (intOf i).toNat)
          case atStart => exact ⟨0, by omega, rfl, HS3.out⟩
          case round =>
            obtain ⟨m, hm, rfl, hs⟩ := hrel
            by_cases hlt3 : m < 64
            · have HR : Hid (H.rounds h k W (m + 1) = H.round (H.rounds h k W m) (k m) (W m)) := rfl
              generalize H.rounds h k W m = s at *
              have ck := hs.kk.cell m hlt3
              have cw := hs.ww.cell m hlt3
              have c0 := hs.ss.cell 0 (by omega)
              have c1 := hs.ss.cell 1 (by omega)
              have c2 := hs.ss.cell 2 (by omega)
              have c3 := hs.ss.cell 3 (by omega)
              have c4 := hs.ss.cell 4 (by omega)
              have c5 := hs.ss.cell 5 (by omega)
              have c6 := hs.ss.cell 6 (by omega)
              have c7 := hs.ss.cell 7 (by omega)
              have f0 := hs.ss.frozen 0
              have f1 := hs.ss.frozen 1
              have f2 := hs.ss.frozen 2
              have f3 := hs.ss.frozen 3
              have f4 := hs.ss.frozen 4
              have f5 := hs.ss.frozen 5
              have f6 := hs.ss.frozen 6
              have f7 := hs.ss.frozen 7
              obtain ⟨N4, hN4⟩ : ∃ x, s 3 + H.one s (k m) (W m) = x := ⟨_, rfl⟩
              obtain ⟨N0, hN0⟩ : ∃ x, H.one s (k m) (W m) + H.two s = x := ⟨_, rfl⟩
              have hrd := fun q => (hs.drewN q).round (k m) (W m) N4 N0 hN4 hN0
              have e1 : H.one s (k m) (W m) = (((s 7 + H.big1 (s 4)) + H.ch (s 4) (s 5) (s 6)) + k m) + W m := rfl
              have e2 : H.two s = H.big0 (s 0) + H.maj (s 0) (s 1) (s 2) := rfl
              generalize H.one s (k m) (W m) = ONE at *
              generalize H.two s = TWO at *
              generalize H.round s (k m) (W m) = s' at *
              generalize k m = KM at *
              generalize W m = WM at *
              generalize s 0 = S0 at *
              generalize s 1 = S1 at *
              generalize s 2 = S2 at *
              generalize s 3 = S3' at *
              generalize s 4 = S4 at *
              generalize s 5 = S5 at *
              generalize s 6 = S6 at *
              generalize s 7 = S7 at *
              have HRD : Hid (∀ q, _) := hrd
              clear hrd hs
              obtain ⟨y1, g1⟩ : ∃ x, H.rotr S4 6 ^^^ H.rotr S4 11 = x := ⟨_, rfl⟩
              obtain ⟨y2, g2⟩ : ∃ x, y1 ^^^ H.rotr S4 25 = x := ⟨_, rfl⟩
              have q2 : H.big1 S4 = y2 := by rw [← g2, ← g1]; rfl
              obtain ⟨y3, g3⟩ : ∃ x, S4 &&& S5 = x := ⟨_, rfl⟩
              obtain ⟨y4, g4⟩ : ∃ x, S4 ^^^ 4294967295 = x := ⟨_, rfl⟩
              obtain ⟨y5, g5⟩ : ∃ x, y4 &&& S6 = x := ⟨_, rfl⟩
              obtain ⟨y6, g6⟩ : ∃ x, y3 ^^^ y5 = x := ⟨_, rfl⟩
              have q6 : H.ch S4 S5 S6 = y6 := by rw [← g6, ← g5, ← g4, ← g3]; rfl
              obtain ⟨y7, g7⟩ : ∃ x, S7 + y2 = x := ⟨_, rfl⟩
              obtain ⟨y8, g8⟩ : ∃ x, y7 + y6 = x := ⟨_, rfl⟩
              obtain ⟨y9, g9⟩ : ∃ x, y8 + KM = x := ⟨_, rfl⟩
              have g10 : y9 + WM = ONE := by rw [e1, q2, q6, g7, g8, g9]
              obtain ⟨z1, k1⟩ : ∃ x, H.rotr S0 2 ^^^ H.rotr S0 13 = x := ⟨_, rfl⟩
              obtain ⟨z2, k2⟩ : ∃ x, z1 ^^^ H.rotr S0 22 = x := ⟨_, rfl⟩
              have q3 : H.big0 S0 = z2 := by rw [← k2, ← k1]; rfl
              obtain ⟨z3, k3⟩ : ∃ x, S0 &&& S1 = x := ⟨_, rfl⟩
              obtain ⟨z4, k4⟩ : ∃ x, S0 &&& S2 = x := ⟨_, rfl⟩
              obtain ⟨z5, k5⟩ : ∃ x, z3 ^^^ z4 = x := ⟨_, rfl⟩
              obtain ⟨z6, k6⟩ : ∃ x, S1 &&& S2 = x := ⟨_, rfl⟩
              obtain ⟨z7, k7⟩ : ∃ x, z5 ^^^ z6 = x := ⟨_, rfl⟩
              have q7 : H.maj S0 S1 S2 = z7 := by rw [← k7, ← k6, ← k5, ← k4, ← k3]; rfl
              have k8 : z2 + z7 = TWO := by rw [e2, q3, q7]
              have bg1 := bx' g1
              have bg2 := bx' g2
              have bg3 := ba' g3
              have bg4 : bits .xor .u32 (S4.toNat : Int) 4294967295 = (y4.toNat : Int) := by rw [← g4]; exact H.bn S4
              have bg5 := ba' g5
              have bg6 := bx' g6
              have bg7 := badd' g7
              have bg8 := badd' g8
              have bg9 := badd' g9
              have bg10 := badd' g10
              have bk1 := bx' k1
              have bk2 := bx' k2
              have bk3 := ba' k3
              have bk4 := ba' k4
              have bk5 := bx' k5
              have bk6 := ba' k6
              have bk7 := bx' k7
              have bk8 := badd' k8
              have bN4 := badd' hN4
              have bN0 := badd' hN0
              clear g1 g2 g3 g4 g5 g6 g7 g8 g9 g10 k1 k2 k3 k4 k5 k6 k7 k8 hN4 hN0 e1 e2 q2 q3 q6 q7
              have i8 : (m : Int) < 64 := by omega
              have i9 : (0 : Int) ≤ (m : Int) := by omega
              go_wp2
              refine wp_region_quiet_lit (by kernel_rfl) (by kernel_rfl) ?_
              go_big_quiet_step (exact Calls.quiet_of_same (Turn6 _ _))
              go_big_quiet_step (exact Calls.quiet_of_same (Turn6 _ _))
              go_big_quiet_step (exact Calls.quiet_of_same (Turn6 _ _))
              go_big_quiet_step (exact Calls.quiet_of_same (Turn11 _ _))
              go_big_quiet_step (exact Calls.quiet_of_same (Turn11 _ _))
              go_big_quiet_step (exact Calls.quiet_of_same (Turn11 _ _))
              go_big_quiet_step (exact Calls.quiet_of_same (Turn11 _ _))
              go_big_quiet_step (exact Calls.quiet_of_same (Turn25 _ _))
              go_big_quiet_step (exact Calls.quiet_of_same (Turn25 _ _))
              go_big_quiet_step (exact Calls.quiet_of_same (Turn25 _ _))
              go_big_quiet_step (exact Calls.quiet_of_same (Turn25 _ _))
              go_big_quiet_step (exact Calls.quiet_of_same (Turn25 _ _))
              refine wpQuiet_nil ?_
              rintro _ ⟨q1, rfl⟩
              go_wp2
              refine wp_region_quiet_lit (by kernel_rfl) (by kernel_rfl) ?_
              go_big_quiet_step (fail)
              go_big_quiet_step (fail)
              go_big_quiet_step (fail)
              go_big_quiet_step (fail)
              go_big_quiet_step (fail)
              go_big_quiet_step (fail)
              go_big_quiet_step (fail)
              go_big_quiet_step (fail)
              go_big_quiet_step (fail)
              go_big_quiet_step (fail)
              go_big_quiet_step (fail)
              go_big_quiet_step (fail)
              go_big_quiet_step (fail)
              go_big_quiet_step (fail)
              go_big_quiet_step (fail)
              refine wpQuiet_nil ?_
              rintro _ ⟨q2, rfl⟩
              go_wp2
              refine wp_region_quiet_lit (by kernel_rfl) (by kernel_rfl) ?_
              go_big_quiet_step (exact quiet_same2 (Turn2 _ _))
              go_big_quiet_step (exact quiet_same2 (Turn2 _ _))
              go_big_quiet_step (exact quiet_same2 (Turn2 _ _))
              go_big_quiet_step (exact quiet_same2 (Turn13 _ _))
              go_big_quiet_step (exact quiet_same2 (Turn13 _ _))
              go_big_quiet_step (exact quiet_same2 (Turn13 _ _))
              go_big_quiet_step (exact quiet_same2 (Turn13 _ _))
              go_big_quiet_step (exact quiet_same2 (Turn22 _ _))
              go_big_quiet_step (exact quiet_same2 (Turn22 _ _))
              go_big_quiet_step (exact quiet_same2 (Turn22 _ _))
              go_big_quiet_step (exact quiet_same2 (Turn22 _ _))
              go_big_quiet_step (exact quiet_same2 (Turn22 _ _))
              refine wpQuiet_nil ?_
              rintro _ ⟨q3, rfl⟩
              go_wp2
              go_roundw
              case rel => exact ⟨m + 1, by omega, by go_num, by rw [HR.out]; exact HRD.out _⟩
              case measure => simp [intOf]; omega
            · have hme : m = 64 := by omega
              subst hme
              have HS4 : Hid (S3 w wr h k W (H.rounds h k W 64)) := hs
              clear hs HS3
              generalize H.rounds h k W 64 = s at *
              go_wp2
              go_loopw [20] (fun i wx => L4 w h k W s i wx) (fun i _ => 8 - (intOf i).toNat)
              case atStart => exact ⟨0, by omega, rfl, HS4.out.congrH (fun i hi => by simp [part])⟩
              case round =>
                obtain ⟨p, hp, rfl, hs⟩ := hrel
                by_cases hlt4 : p < 8
                · have ch := hs.hh.cell p hlt4
                  rw [part_at] at ch
                  have cs := hs.ss.cell p hlt4
                  have fh := hs.hh.frozen p
                  have hst := fun q => ((hs.drewN q).setH p hlt4 (h p + s p)).congrH (fun i hi => part_succ h s p i)
                  obtain ⟨x, hx⟩ : ∃ x, h p + s p = x := ⟨_, rfl⟩
                  rw [hx] at hst
                  have HST4 : Hid (∀ q, _) := hst
                  have bx := badd' hx
                  clear hs hst hx HS4
                  have i8 : (p : Int) < 8 := by omega
                  have i9 : (0 : Int) ≤ (p : Int) := by omega
                  go_wp2
                  go_region
                  go_wp2
                  go_roundw
                  case rel => exact ⟨p + 1, by omega, by go_num, HST4.out 1⟩
                  case measure => simp [intOf]; omega
                · have hpe : p = 8 := by omega
                  subst hpe
                  have HS5 : Hid (S3 w wr (part h s 8) k W s) := hs
                  clear hs HS4
                  go_wp2_with (first | (refine wp_loadArr rfl 191 _ rfl w.heap.size 191 8 (part h s 8) 167 rfl HS5.out.hh Tryz.underlying191 size51 ?_; intro R hR) | (refine wp_storeArr rfl 191 _ _ rfl (w.heap.size + 1 + 1) 191 8 _ (part h s 8) R HS5.out.rr hR rfl rfl size51 ?_; intro hfin))
                  refine ret_arr 6 (w.heap.size + 1 + 1) 191 8 191 167 (part h s 8) rfl rfl rfl hfin Tryz.underlying191 size51 ?_
                  intro R2 hR2
                  exact ⟨R2, rfl, hR2.congr (fun i hi => by have := HB.out; rw [← this]; simp [part, hi]), below_setRow HS5.out.bel (by omega)⟩
end Go.Proofs.YthlgohplljcgfaaGreatDoor
