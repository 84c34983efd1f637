/-
  The walks of Unhex, the program's and the specification's.
-/
import Derived.Test.YtkpcjhihbhmakaaUnhex
namespace Go.Proofs.Ytkpcjhihbhmakaa
open Go.RowKit
set_option linter.unusedVariables false

def pb (a b : Nat) : UInt8 := UInt8.ofNat (16 * a + b)
theorem pb_int (a b : Nat) (ha : a < 16) (hb : b < 16) : (16 * (a : Int) + (b : Int)) = ((pb a b).toNat : Int) := by
  unfold pb
  simp
  omega

/-- what the specification's loop holds at each round's head -/
def sUnRel (w : World) (s : ByteArray) (v i : Value) (wr : World) : Prop :=
  ∃ (k : Nat) (vs : List Nat), 2 * k ≤ s.size ∧ i = .int .i64 (2 * k : Nat) ∧ vs.length = 2 * k ∧ OB w.heap.size w wr v (pairs vs) ∧ Hid (vals 16 s.data.toList = (vals 16 (s.data.toList.drop (2 * k))).map (vs ++ ·))

set_option maxRecDepth 100000 in
set_option maxHeartbeats 1000000 in
theorem sUnhex_any (s : ByteArray) (w : World) (hs : s.size ≤ 40000) (he : s.size % 2 = 0) :
    Calls Try.prog 20 #[.string s] w (UnPost w s) := by
  have h3 : ¬ ((40000 : Int) < (s.size : Int)) := by omega
  have h4 : ((s.size : Int) % 2 != 0) = false := by simp; omega
  go_enter Try.func20, Try.ntmps20
  go_wp2
  go_loopw [4, 5] (fun v i wr => sUnRel w s v i wr) (fun _ i _ => s.size - (intOf i).toNat)
  case atStart => exact ⟨0, [], by omega, rfl, rfl, OB.made w, by unfold Hid; simp⟩
  case round =>
    obtain ⟨k, vs, hk, rfl, hvl, hown, HI⟩ := hrel
    have hpl := pairs_len vs
    by_cases hlt : 2 * k < s.size
    · have hlt1 : 2 * k + 1 < s.size := by omega
      have hg0 := get_f s (2 * k) hlt
      have hg1 := get_f s (2 * k + 1) hlt1
      cases hA : figV 16 s[2 * k] with
      | none =>
        have hva : valOf s[2 * k] = -1 := by unfold valOf; rw [hA]
        have hfail := vals_fail 16 (2 * k) _ vs _ hg0 hA HI.out
        have HF : Hid (vals 16 s.data.toList = none) := hfail
        have c1 := fun wx => l01Value_any s[2 * k] wx
        rw [hva] at c1
        have C1 : Hid (∀ wx, Calls Try.prog 28 #[.int .u8 s[2 * k].toNat] wx fun e w' => e = .returned (.int .i64 (-1)) ∧ w' = wx) := c1
        clear hva hfail hA hg0 hg1 c1
        go_wp2_with fail
        refine (C1.out _).mono ?_
        rintro e w1 ⟨rfl, rfl⟩
        go_wp2_with fail
        refine (l01Value_any s[2 * k + 1] _).mono ?_
        rintro e w1 ⟨rfl, rfl⟩
        go_wp2
        go_ret2
        exact ⟨.inl ⟨HF.out, rfl⟩, hown.2.1⟩
      | some a =>
        have ha := (figV_lt 16 a _ hA).1
        have hva : valOf s[2 * k] = (a : Int) := by unfold valOf; rw [hA]
        have hst := vals_step 16 (2 * k) a _ vs _ hg0 hA HI.out
        have c1 := fun wx => l01Value_any s[2 * k] wx
        rw [hva] at c1
        have C1 : Hid (∀ wx, Calls Try.prog 28 #[.int .u8 s[2 * k].toNat] wx fun e w' => e = .returned (.int .i64 (a : Int)) ∧ w' = wx) := c1
        clear c1
        cases hB : figV 16 s[2 * k + 1] with
        | none =>
          have hvb : valOf s[2 * k + 1] = -1 := by unfold valOf; rw [hB]
          have hfail := vals_fail 16 (2 * k + 1) _ (vs ++ [a]) _ hg1 hB hst
          have HF : Hid (vals 16 s.data.toList = none) := hfail
          have c2 := fun wx => l01Value_any s[2 * k + 1] wx
          rw [hvb] at c2
          have C2 : Hid (∀ wx, Calls Try.prog 28 #[.int .u8 s[2 * k + 1].toNat] wx fun e w' => e = .returned (.int .i64 (-1)) ∧ w' = wx) := c2
          clear hva hvb hfail hA hB hg0 hg1 c2 hst
          go_wp2_with fail
          refine (C1.out _).mono ?_
          rintro e w1 ⟨rfl, rfl⟩
          go_wp2_with fail
          refine (C2.out _).mono ?_
          rintro e w1 ⟨rfl, rfl⟩
          go_wp2
          go_ret2
          exact ⟨.inl ⟨HF.out, rfl⟩, hown.2.1⟩
        | some b =>
          have hb := (figV_lt 16 b _ hB).1
          have hvb : valOf s[2 * k + 1] = (b : Int) := by unfold valOf; rw [hB]
          have hst2 := vals_step 16 (2 * k + 1) b _ (vs ++ [a]) _ hg1 hB hst
          have HS : Hid (vals 16 s.data.toList = (vals 16 (s.data.toList.drop (2 * k + 1 + 1))).map (((vs ++ [a]) ++ [b]) ++ ·)) := hst2
          have hpr := pairs_snoc k vs a b hvl
          have HP : Hid (pairs (vs ++ [a, b]) = pairs vs ++ [UInt8.ofNat (16 * a + b)]) := hpr
          have c2 := fun wx => l01Value_any s[2 * k + 1] wx
          rw [hvb] at c2
          have C2 : Hid (∀ wx, Calls Try.prog 28 #[.int .u8 s[2 * k + 1].toNat] wx fun e w' => e = .returned (.int .i64 (b : Int)) ∧ w' = wx) := c2
          clear hva hvb hA hB hg0 hg1 c2 hst hst2 hpr
          go_wp2_with fail
          refine (C1.out _).mono ?_
          rintro e w1 ⟨rfl, rfl⟩
          go_wp2_with fail
          refine (C2.out _).mono ?_
          rintro e w2 ⟨rfl, rfl⟩
          go_wp2_with (at_builtin; refine wp_app rfl _ _ rfl w.heap.size w _ (pairs vs) rfl (hown.alloc _) ⟨w2.heap.size, 0, none⟩ 1 1 [pb a b] rfl rfl ?c1 ?c2 ?_)
          case c1 => exact one_byte _ _ _ _ (pb_int a b ha hb)
          case c2 => omega
          intro v' w3 hown'
          go_wp2
          go_roundw
          case rel =>
            refine ⟨k + 1, vs ++ [a, b], by omega, by go_num, by simp; omega, ?_, ?_⟩
            · rw [HP.out]; exact hown'
            · have h := HS.out
              unfold Hid
              rw [h]
              simp [Nat.mul_add]
          case measure => simp [intOf]; omega
    · have hke : 2 * k = s.size := by omega
      have hv : vals 16 s.data.toList = some vs := by
        have h1 := HI.out
        rw [List.drop_eq_nil_of_le (by rw [Array.length_toList]; show s.size ≤ 2 * k; omega)] at h1
        simpa [vals] using h1
      have HV : Hid (vals 16 s.data.toList = some vs) := hv
      have hcv := run_str hown
      clear hv hke
      go_wp2
      go_ret2
      exact ⟨.inr ⟨vs, HV.out, rfl⟩, hown.2.1⟩

end Go.Proofs.Ytkpcjhihbhmakaa
