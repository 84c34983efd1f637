/-
  The first numbers and the keys, the program's and the specification's; a state in bytes.
-/
import Derived.Test.YtjfdgidhgijheaaDoorAfter
import Derived.Test.YtjfdgidhgijheaaDoorPadi
namespace Go.Proofs.YtjfdgidhgijheaaDoor
open Go.RowKit Go.BigFrame
set_option linter.unusedVariables false

theorem toNat_lit (n : Nat) (h : n < 4294967296) : ((UInt32.ofNat n).toNat : Int) = (n : Int) := by rw [H.toNat_of n h]

set_option maxRecDepth 100000 in
set_option maxHeartbeats 400000 in
theorem l03First_any (w : World) : Calls Tryd.prog 26 #[] w fun e w' => ∃ R, e = .returned (.agg R) ∧ AggIs R 8 firstF ∧ Below w.heap.size w w' := by
  have HAG : Hid (AggIs #[.int .u32 1779033703, .int .u32 3144134277, .int .u32 1013904242, .int .u32 2773480762, .int .u32 1359893119, .int .u32 2600822924, .int .u32 528734635, .int .u32 1541459225] 8 firstF) := agg8 firstF
  go_enter Tryd.func26, Tryd.ntmps26
  go_wp2_with (first | (with_reducible refine wp_alloc50 rfl rfl ?_) | (refine wp_storeArr rfl 39 _ _ rfl w.heap.size 39 8 _ firstF _ (Arr.agg (AggIs.zeros 8)) HAG.out rfl rfl size51 ?_; intro hfin))
  refine ret_arr 0 w.heap.size 39 8 39 38 firstF rfl rfl rfl hfin Tryd.underlying39 size51 ?_
  intro R2 hR2
  exact ⟨R2, rfl, hR2, below_setRow ((Below.refl _ _).alloc (Nat.le_refl _) _) (Nat.le_refl _)⟩

def B1 (w : World) (i : Value) (wr : World) : Prop := ∃ (m : Nat) (f : Nat → UInt32), m ≤ 8 ∧ i = .int .i64 m ∧ Arr wr w.heap.size 40 8 (fun _ => 0) ∧ Arr wr (w.heap.size + 1) 40 8 f ∧ (∀ i, i < m → f i = firstF i) ∧ TabF wr ∧ Below w.heap.size w wr

set_option maxRecDepth 100000 in
set_option maxHeartbeats 400000 in
theorem shaBegin_any (w : World) (hT : TabF w) : Calls Tryd.prog 17 #[] w fun e w' => ∃ R, e = .returned (.agg R) ∧ AggIs R 8 firstF ∧ Below w.heap.size w w' := by
  have hp := hT.pos
  have hb0 : Below w.heap.size w ((w.alloc (.cells (zeros 8) 40)).alloc (.cells (zeros 8) 40)) := ((Below.refl _ _).alloc (Nat.le_refl _) _).alloc (by simp) _
  have a2 := Arr.agg (w := w.alloc (.cells (zeros 8) 40)) (t := 40) (AggIs.zeros 8)
  have HST : Hid (B1 w (.int .i64 0) ((w.alloc (.cells (zeros 8) 40)).alloc (.cells (zeros 8) 40))) := ⟨0, fun _ => 0, by omega, rfl, (Arr.agg (AggIs.zeros 8)).alloc _, by simpa using a2, fun i hi => absurd hi (by omega), hT.later hb0 hp, hb0⟩
  clear a2 hb0 hT
  go_enter Tryd.func17, Tryd.ntmps17
  go_wp2_with (refine wp_allocArr rfl 40 8 rfl zero52 ?_)
  generalize ((w.alloc (.cells (zeros 8) 40)).alloc (.cells (zeros 8) 40)) = w1 at *
  go_loopw [3] (fun i wr => B1 w i wr) (fun i _ => 8 - (intOf i).toNat)
  case atStart => exact HST.out
  case round =>
    obtain ⟨m, f, hm, rfl, ha, hf, he, ht, hbel⟩ := hrel
    by_cases hlt : m < 8
    · have c0 := hf.cell m hlt
      have f0 := hf.frozen m
      have c1 := ht m hlt
      have HN : Hid (B1 w (.int .i64 ((m + 1 : Nat) : Int)) (wr.setCell ⟨w.heap.size + 1, m, none⟩ (.int .u32 ((firstF m).toNat : Int)))) := by
        have hb2 : Below w.heap.size w (wr.setCell ⟨w.heap.size + 1, m, none⟩ (.int .u32 ((firstF m).toNat : Int))) := hbel.setCell (p := ⟨w.heap.size + 1, m, none⟩) (by show w.heap.size ≤ w.heap.size + 1; omega) _
        refine ⟨m + 1, H.upd f m (firstF m), by omega, rfl, ha.other _ _ _ (by omega), hf.set m hlt _, fun i hi => ?_, fun i hi => ?_, hb2⟩
        · unfold H.upd
          by_cases h1 : i = m
          · rw [if_pos h1, h1]
          · rw [if_neg h1]; exact he i (by omega)
        · rw [World.cell?_setCell_other _ _ _ _ (by simp)]
          exact ht i hi
      generalize firstF m = X at *
      clear HST ha hf he ht hbel
      have i8 : (m : Int) < 8 := by omega
      have i9 : (0 : Int) ≤ (m : Int) := by omega
      go_wp2
      go_roundw
      case rel =>
        have h1 := HN.out
        have e1 : (((m + 1 : Nat)) : Int) = (m : Int) + 1 := by omega
        rw [e1] at h1
        exact h1
      case measure => simp [intOf]; omega
    · have hme : m = 8 := by omega
      subst hme
      have HF : Hid (Arr wr (w.heap.size + 1) 40 8 firstF) := hf.congr he
      have HR : Hid (Arr wr w.heap.size 40 8 (fun _ => 0)) := ha
      clear ha hf he ht HST
      go_wp2_with (first | (refine wp_loadArr rfl 40 _ rfl (w.heap.size + 1) 40 8 firstF 38 rfl HF.out Tryd.underlying40 size52 ?_; intro R hR) | (refine wp_storeArr rfl 40 _ _ rfl w.heap.size 40 8 _ firstF R HR.out hR rfl rfl size52 ?_; intro hfin))
      refine ret_arr 0 w.heap.size 40 8 40 38 firstF rfl rfl rfl hfin Tryd.underlying40 size52 ?_
      intro R2 hR2
      exact ⟨R2, rfl, hR2, below_setRow hbel (Nat.le_refl _)⟩

theorem agg_of (l : List UInt32) (n : Nat) (hn : l.length = n) : AggIs (l.map fun x => Value.int .u32 (x.toNat : Int)).toArray n (fun i => l.getD i 0) := by
  subst hn
  refine ⟨by simp, fun i hi => ?_⟩
  simp [List.getD, hi]

def keyA : Array Value := #[.int .u32 1116352408, .int .u32 1899447441, .int .u32 3049323471, .int .u32 3921009573, .int .u32 961987163, .int .u32 1508970993, .int .u32 2453635748, .int .u32 2870763221, .int .u32 3624381080, .int .u32 310598401, .int .u32 607225278, .int .u32 1426881987, .int .u32 1925078388, .int .u32 2162078206, .int .u32 2614888103, .int .u32 3248222580, .int .u32 3835390401, .int .u32 4022224774, .int .u32 264347078, .int .u32 604807628, .int .u32 770255983, .int .u32 1249150122, .int .u32 1555081692, .int .u32 1996064986, .int .u32 2554220882, .int .u32 2821834349, .int .u32 2952996808, .int .u32 3210313671, .int .u32 3336571891, .int .u32 3584528711, .int .u32 113926993, .int .u32 338241895, .int .u32 666307205, .int .u32 773529912, .int .u32 1294757372, .int .u32 1396182291, .int .u32 1695183700, .int .u32 1986661051, .int .u32 2177026350, .int .u32 2456956037, .int .u32 2730485921, .int .u32 2820302411, .int .u32 3259730800, .int .u32 3345764771, .int .u32 3516065817, .int .u32 3600352804, .int .u32 4094571909, .int .u32 275423344, .int .u32 430227734, .int .u32 506948616, .int .u32 659060556, .int .u32 883997877, .int .u32 958139571, .int .u32 1322822218, .int .u32 1537002063, .int .u32 1747873779, .int .u32 1955562222, .int .u32 2024104815, .int .u32 2227730452, .int .u32 2361852424, .int .u32 2428436474, .int .u32 2756734187, .int .u32 3204031479, .int .u32 3329325298]
theorem keyA_is : AggIs keyA 64 keyF := agg_of keyL 64 rfl
theorem zero61 : (Tryd.prog.info? 50).map (fun i => (i.zero, i.size)) = some (some (.agg (zeros 64)), 64) := by kernel_rfl

set_option maxRecDepth 100000 in
set_option maxHeartbeats 1000000 in
theorem l03Keys_any (w : World) : Calls Tryd.prog 27 #[] w fun e w' => ∃ R, e = .returned (.agg R) ∧ AggIs R 64 keyF ∧ Below w.heap.size w w' := by
  go_enter Tryd.func27, Tryd.ntmps27
  go_wp2_with (first | (with_reducible refine wp_alloc55 rfl rfl ?_) | (refine wp_storeArr rfl 50 _ _ rfl w.heap.size 50 64 _ keyF keyA (Arr.agg (AggIs.zeros 64)) keyA_is rfl rfl size61 ?_; intro hfin))
  refine ret_arr 0 w.heap.size 50 64 50 38 keyF rfl rfl rfl hfin Tryd.underlying50 size61 ?_
  intro R2 hR2
  exact ⟨R2, rfl, hR2, below_setRow ((Below.refl _ _).alloc (Nat.le_refl _) _) (Nat.le_refl _)⟩
end Go.Proofs.YtjfdgidhgijheaaDoor
