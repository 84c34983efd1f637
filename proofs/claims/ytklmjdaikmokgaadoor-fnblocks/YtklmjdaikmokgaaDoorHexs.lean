/-
  The walk of the specification's Hex.
-/
import Derived.Test.YtklmjdaikmokgaaDoorHexw
namespace Go.Proofs.YtklmjdaikmokgaaDoor
open Go.RowKit
set_option linter.unusedVariables false

theorem q1 (b : Nat) (h : b < 256) : IntKind.i64.wrap ((IntKind.i64.wrap (b : Int)).tdiv 16) = ((b / 16 : Nat) : Int) := by
  rw [IntWalk.i64_in (b : Int) (by omega)]
  have e : (b : Int).tdiv 16 = ((b / 16 : Nat) : Int) := (Int.ofNat_tdiv b 16).symm
  rw [e, IntWalk.i64_in _ (by omega)]
theorem q2 (b : Nat) (h : b < 256) : (IntKind.i64.wrap (b : Int)).tmod 16 = ((b % 16 : Nat) : Int) := by
  rw [IntWalk.i64_in (b : Int) (by omega)]
  exact (Int.ofNat_tmod b 16).symm

theorem q1b (b : Nat) (h : b < 256) : 0 ≤ IntKind.i64.wrap ((IntKind.i64.wrap (b : Int)).tdiv 16) ∧ IntKind.i64.wrap ((IntKind.i64.wrap (b : Int)).tdiv 16) < 16 := by
  rw [q1 b h]
  omega
theorem q2b (b : Nat) (h : b < 256) : 0 ≤ (IntKind.i64.wrap (b : Int)).tmod 16 ∧ (IntKind.i64.wrap (b : Int)).tmod 16 < 16 := by
  rw [q2 b h]
  omega
theorem l01Figure_gen (x : Int) (w : World) (h : 0 ≤ x ∧ x < 16) :
    Calls Tryd.prog 53 #[.int .i64 x] w fun e w' => e = .returned (.int .u8 (fig x.toNat).toNat) ∧ w' = w := by
  obtain ⟨n, rfl⟩ := Int.eq_ofNat_of_zero_le h.1
  rw [Int.toNat_natCast]
  exact l01Figure_any n w (by omega)

set_option maxRecDepth 100000 in
set_option maxHeartbeats 2000000 in
theorem sHex_yes (s : ByteArray) (w : World) (hs : s.size ≤ 20000) :
    Calls Tryd.prog 49 #[.string s] w fun e w' => e = .returned (.tuple #[.string ⟨(hexK s s.size).toArray⟩, .bool true]) ∧ Below w.heap.size w w' := by
  go_enter Tryd.func49, Tryd.ntmps49
  go_wp2
  go_loopw [4, 5] (fun v i wr => HexRel s w v i wr) (fun _ i _ => s.size - (intOf i).toNat)
  case atStart => exact ⟨0, Nat.zero_le _, rfl, OB.made w⟩
  case round =>
    obtain ⟨k, hk, rfl, hown⟩ := hrel
    have hkl := hexK_len s k hk
    by_cases hlt : k < s.size
    · have hb : s[k].toNat < 256 := s[k].toNat_lt
      go_wp2
      go_region_held3 (fun _ => True) (trivial) ((first | (go_at_call 53; refine (l01Figure_gen _ _ ?_).mono ?_; (first | (with_reducible exact q1b _ hb) | (with_reducible exact q2b _ hb)); rintro e w' ⟨rfl, rfl⟩) | (refine step_app rfl _ _ rfl w.heap.size w _ (hexK s k) (by rfl) (hown.drew.alloc _) ⟨wr.heap.size, 0, none⟩ 2 2 [fig (IntKind.i64.wrap ((IntKind.i64.wrap (s[k].toNat : Int)).tdiv 16)).toNat, fig ((IntKind.i64.wrap (s[k].toNat : Int)).tmod 16).toNat] (by rfl) rfl (by exact two_bytes _ _ _ _ _ _ rfl rfl) (by omega) ?_; intro v' w1 hown')))
      all_goals
        rw [q1 _ hb, q2 _ hb, Int.toNat_natCast, Int.toNat_natCast, hexK_succ s k hlt] at hown'
        go_wp2
        go_roundw
        case rel => exact ⟨k + 1, by omega, by go_num, hown'⟩
        case measure => simp [intOf]; omega
    · have hke : k = s.size := by omega
      subst hke
      have hcv := run_str hown
      go_wp2
      go_ret2
      exact ⟨rfl, hown.2.1⟩

end Go.Proofs.YtklmjdaikmokgaaDoor
