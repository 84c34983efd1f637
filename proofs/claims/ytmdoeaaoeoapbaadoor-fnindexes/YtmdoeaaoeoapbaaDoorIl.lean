/-
  The walk of the law FnIndexes: it answers true of all that is drawn.
-/
import Derived.Test.YtmdoeaaoeoapbaaDoorDn
import Derived.Test.YtmdoeaaoeoapbaaDoorHash
import Derived.Test.YtmdoeaaoeoapbaaDoorTrn
import Derived.Deep.RegionHeld3
namespace Go.Proofs.YtmdoeaaoeoapbaaDoor
open Go.RowKit Go.BigFrame
set_option linter.unusedVariables false

/-- BitOf at every argument -/
def bitA (x y : Int) : Int := if 0 ≤ y ∧ y ≤ 7 then bitI x y.toNat else 0
theorem BitOf_any (x y : Int) (w : World) : Calls Tryd.prog 17 #[.int .i64 x, .int .i64 y] w fun e w' => e = .returned (.int .i64 (bitA x y)) ∧ w' = w := by
  unfold bitA
  by_cases h : 0 ≤ y ∧ y ≤ 7
  · rw [if_pos h]
    obtain ⟨k, rfl⟩ := Int.eq_ofNat_of_zero_le h.1
    exact BitOf_yes x k w (by omega)
  · rw [if_neg h]
    exact BitOf_no x y w (by omega)
theorem sBitOf_any (x y : Int) (w : World) : Calls Tryd.prog 22 #[.int .i64 x, .int .i64 y] w fun e w' => e = .returned (.int .i64 (bitA x y)) ∧ w' = w := by
  unfold bitA
  by_cases h : 0 ≤ y ∧ y ≤ 7
  · rw [if_pos h]
    obtain ⟨k, rfl⟩ := Int.eq_ofNat_of_zero_le h.1
    exact sBitOf_yes x k w (by omega)
  · rw [if_neg h]
    exact sBitOf_no x y w (by omega)

/-- what the bits up to a level tell -/
def topN (b : UInt8) (m : Nat) : Nat := b.toNat / 2 ^ (8 - m)
theorem bit_byte : ∀ (b : Fin 256) (m : Fin 8), bitA (b.val : Int) (m.val : Int) = ((b.val / 2 ^ (7 - m.val) % 2 : Nat) : Int) := by decide +kernel
theorem top_byte : ∀ (b : Fin 256) (m : Fin 8), 2 * (b.val / 2 ^ (8 - m.val)) + b.val / 2 ^ (7 - m.val) % 2 = b.val / 2 ^ (8 - (m.val + 1)) := by decide +kernel
theorem top_step (b : UInt8) (m : Nat) (h : m < 8) : ∃ c : Nat, c ≤ 1 ∧ bitA (b.toNat : Int) (m : Int) = (c : Int) ∧ 2 * topN b m + c = topN b (m + 1) ∧ topN b m ≤ 255 := by
  refine ⟨b.toNat / 2 ^ (7 - m) % 2, by omega, bit_byte ⟨b.toNat, b.toNat_lt⟩ ⟨m, h⟩, top_byte ⟨b.toNat, b.toNat_lt⟩ ⟨m, h⟩, ?_⟩
  have := b.toNat_lt
  have h2 := Nat.div_le_self b.toNat (2 ^ (8 - m))
  unfold topN
  omega
theorem top_zero (b : UInt8) : topN b 0 = 0 := by
  have := b.toNat_lt
  unfold topN
  omega
theorem top_all (b : UInt8) : topN b 8 = b.toNat := by
  unfold topN
  simp

def IxR (b : UInt8) (w : World) (n i : Value) (wr : World) : Prop := ∃ m : Nat, m ≤ 8 ∧ i = .int .i64 m ∧ n = .int .i64 (topN b m : Int) ∧ wr = w

set_option maxRecDepth 100000 in
set_option maxHeartbeats 1000000 in
theorem indexesLaw_any (ao : Option Addr) (len cap : Nat) (w : World) (hc : Code w.heap.size w (.slice ao len cap)) (hK : TabK w) (hF : TabF w) :
    Calls Tryd.prog 4 #[.slice ao len cap] w fun e w' => e = .returned (.bool true) ∧ Below w.heap.size w w' := by
  have hl : len ≤ 1048576 := by
    obtain ⟨_, _, _, _, _, he, hl, _⟩ := hc
    simp at he
    omega
  have hkp := hK.pos
  have hfp := hF.pos
  have HT : Hid (∀ w', Below w.heap.size w w' → TabK w' ∧ TabF w') := fun w' hb => ⟨hK.later hb hkp, hF.later hb hfp⟩
  have HC : Hid (Code w.heap.size w (.slice ao len cap)) := hc
  clear hc hK hF hkp hfp
  go_enter Tryd.func4, Tryd.ntmps4
  go_wp2_with fail
  refine (big_no ao len cap _ hl).mono ?_
  rintro e w1 ⟨rfl, rfl⟩
  go_wp2_with fail
  refine (DrawName_any _ _ HC.out).mono ?_
  rintro e w2 ⟨y, ⟨hy1, hy2⟩, rfl, hb2⟩
  go_wp2_with fail
  refine (IndexOf_any y _ (by omega) (HT.out _ hb2).1 (HT.out _ hb2).2).mono ?_
  rintro e w3 ⟨rfl, hb3⟩
  have b3 := hb2.trans (hb3.mono hb2.size)
  clear hb2 hb3
  obtain ⟨b, hb⟩ : ∃ b, byte0 (digB y) = b := ⟨_, rfl⟩
  have HB : Hid (byte0 (digB y) = b) := hb
  rw [hb]
  clear hb
  go_wp2
  go_loopw [5, 6] (fun n i wr => IxR b w3 n i wr) (fun _ i _ => 8 - (intOf i).toNat)
  case atStart => exact ⟨0, by omega, rfl, by rw [top_zero]; rfl, rfl⟩
  case round =>
    obtain ⟨m, hm, rfl, rfl, rfl⟩ := hrel
    by_cases hlt : m < 8
    · obtain ⟨c, hc1, hbit, htop, htl⟩ := top_step b m hlt
      have i1 : (m : Int) < 8 := by omega
      have HS : Hid (IxR b wr (.int .i64 (2 * (topN b m : Int) + (c : Int))) (.int .i64 ((m : Int) + 1)) wr) := ⟨m + 1, by omega, by simp, by rw [← htop]; simp, rfl⟩
      clear htop
      generalize topN b m = N0 at *
      go_wp2_with fail
      refine (BitOf_any _ _ _).mono ?_
      rintro e w4 ⟨rfl, rfl⟩
      rw [hbit]
      go_wp2
      go_roundw
      case rel => exact HS.out
      case measure => simp [intOf]; omega
    · have hme : m = 8 := by omega
      subst hme
      rw [top_all]
      have HC2 : Hid (Code wr.heap.size wr (.slice ao len cap)) := code_later HC.out b3
      go_wp2_with fail
      refine (DrawBitOf_any _ _ HC2.out).mono ?_
      rintro e w4 ⟨x1, x2, ⟨hx1, hx2⟩, rfl, hb4⟩
      have HC4 : Hid (Code w4.heap.size w4 (.slice ao len cap)) := code_later HC2.out hb4
      have b4 := b3.trans (hb4.mono b3.size)
      clear HC2 hb4 b3
      go_wp2_with fail
      refine (DrawNameOk_any _ _ HC4.out).mono ?_
      rintro e w5 ⟨s5, hs5, rfl, hb5⟩
      have HC5 : Hid (Code w5.heap.size w5 (.slice ao len cap)) := code_later HC4.out hb5
      have b5 := b4.trans (hb5.mono b4.size)
      clear HC4 hb5 b4
      go_wp2_with fail
      refine (DrawValueOk_any _ _ HC5.out).mono ?_
      rintro e w6 ⟨s6, hs6, rfl, hb6⟩
      have b6 := b5.trans (hb6.mono b5.size)
      clear HC5 hb6 b5
      go_wp2_with fail
      refine (sIndexOf_any y _ (by omega)).mono ?_
      rintro e w7 ⟨rfl, hb7⟩
      have b7 := b6.trans (hb7.mono b6.size)
      rw [HB.out]
      clear hb7 b6
      go_wp2_with fail
      refine (BitOf_any _ _ _).mono ?_
      rintro e w8 ⟨rfl, rfl⟩
      go_wp2_with fail
      refine (sBitOf_any _ _ _).mono ?_
      rintro e w8 ⟨rfl, rfl⟩
      generalize bitA x1 x2 = B0 at *
      go_wp2_with fail
      refine (NameOk_any y _ (by omega)).mono ?_
      rintro e w8 ⟨rfl, rfl⟩
      rw [hy1]
      go_wp2_with fail
      refine (NameOk_any s5 _ (by omega)).mono ?_
      rintro e w8 ⟨rfl, rfl⟩
      go_wp2_with fail
      refine (sNameOk_any s5 _ (by omega)).mono ?_
      rintro e w8 ⟨rfl, rfl⟩
      generalize okB nameB s5 = B1 at *
      go_wp2_with fail
      refine (ValueOk_any s6 _ (by omega)).mono ?_
      rintro e w8 ⟨rfl, rfl⟩
      go_wp2_with fail
      refine (sValueOk_any s6 _ (by omega)).mono ?_
      rintro e w8 ⟨rfl, rfl⟩
      generalize okB valB s6 = B2 at *
      go_wp2
      go_ret
      exact ⟨rfl, b7⟩

end Go.Proofs.YtmdoeaaoeoapbaaDoor
