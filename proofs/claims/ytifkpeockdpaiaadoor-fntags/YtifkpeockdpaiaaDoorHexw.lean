/-
  The walks of Hex, the program's and the specification's.
-/
import Derived.Test.YtifkpeockdpaiaaDoorHex
namespace Go.Proofs.YtifkpeockdpaiaaDoor
open Go.RowKit
set_option linter.unusedVariables false

def hexK (s : ByteArray) (k : Nat) : List UInt8 := hexL (s.data.toList.take k)
theorem hexK_len (s : ByteArray) (k : Nat) (h : k ≤ s.size) : (hexK s k).length = 2 * k := by
  have h1 : s.data.toList.length = s.size := Array.length_toList
  have h2 : ∀ l : List UInt8, (hexL l).length = 2 * l.length := by
    intro l
    induction l with
    | nil => rfl
    | cons b l ih => rw [show hexL (b :: l) = [fig (b.toNat / 16), fig (b.toNat % 16)] ++ hexL l from rfl, List.length_append, ih]; simp; omega
  unfold hexK
  rw [h2, List.length_take]
  omega
theorem hexK_succ (s : ByteArray) (k : Nat) (h : k < s.size) : hexK s k ++ [fig (s[k].toNat / 16), fig (s[k].toNat % 16)] = hexK s (k + 1) := by
  have hg : s.data.toList[k]? = some s[k] := by simp [ByteArray.getElem_eq_getElem_data]
  unfold hexK
  rw [List.take_add_one, hg]
  simp [hexL]

theorem run_figw (y : Int) (x : Nat) (h : y = (x : Int)) (h1 : x < 16) (w : World) : (Instr.index 9 (.string ⟨#[48, 49, 50, 51, 52, 53, 54, 55, 56, 57, 97, 98, 99, 100, 101, 102]⟩) (.int .u8 (IntKind.u8.wrap y))).run Tryd.prog w = .ok (.int .u8 ((fig x).toNat : Int)) w := by
  subst h
  rw [IntWalk.u8_in _ (by omega), run_fig _ (by omega) (by omega)]
  simp

theorem run_fign (y : Int) (x : Nat) (h : y = (x : Int)) (h1 : x < 16) (w : World) : (Instr.index 9 (.string ⟨#[48, 49, 50, 51, 52, 53, 54, 55, 56, 57, 97, 98, 99, 100, 101, 102]⟩) (.int .u8 y)).run Tryd.prog w = .ok (.int .u8 ((fig x).toNat : Int)) w := by
  subst h
  rw [run_fig _ (by omega) (by omega)]
  simp

def HexRel (s : ByteArray) (w : World) (v i : Value) (wr : World) : Prop :=
  ∃ k : Nat, k ≤ s.size ∧ i = .int .i64 k ∧ OB w.heap.size w wr v (hexK s k)

set_option maxRecDepth 100000 in
set_option maxHeartbeats 1000000 in
theorem Hex_yes (s : ByteArray) (w : World) (hs : s.size ≤ 20000) :
    Calls Tryd.prog 38 #[.string s] w fun e w' => e = .returned (.tuple #[.string ⟨(hexK s s.size).toArray⟩, .bool true]) ∧ Below w.heap.size w w' := by
  obtain ⟨M, hmk, hob⟩ := run_mk (2 * s.size) (by omega) w
  have e2 : (((2 * s.size : Nat)) : Int) = 2 * (s.size : Int) := by omega
  rw [e2] at hmk
  go_enter Tryd.func38, Tryd.ntmps38
  go_wp2
  clear hmk e2
  go_loopw [4, 15] (fun v i wr => HexRel s w v i wr) (fun _ i _ => s.size - (intOf i).toNat)
  case atStart => exact ⟨0, Nat.zero_le _, rfl, hob⟩
  case round =>
    obtain ⟨k, hk, rfl, hown⟩ := hrel
    have hkl := hexK_len s k hk
    by_cases hlt : k < s.size
    · have hb : s[k].toNat < 256 := s[k].toNat_lt
      have hi1 := run_figw ((s[k].toNat : Int) / 16) (s[k].toNat / 16) (by omega) (by omega)
      have hi2 := run_fign ((s[k].toNat : Int).tmod 16) (s[k].toNat % 16) (Int.ofNat_tmod _ 16).symm (by omega)
      go_wp2
      go_region_held3 (fun _ => True) (trivial) ((refine step_app (by rfl) _ _ (by rfl) w.heap.size w _ (hexK s k) (by rfl) (hown.drew.alloc _) ⟨wr.heap.size, 0, none⟩ 2 2 [fig (s[k].toNat / 16), fig (s[k].toNat % 16)] (by rfl) rfl (by exact two_bytes _ _ _ _ _ _ rfl rfl) (by omega) ?_; intro v' w1 hown'))
      all_goals
        rw [hexK_succ s k hlt] at hown'
        go_wp2
        go_roundw
        case rel => exact ⟨k + 1, by omega, by go_num, hown'⟩
        case measure => simp [intOf]; omega
    · have hke : k = s.size := by omega
      subst hke
      have hcv := run_str hown
      go_wp2
      go_ret2
      exact ⟨rfl, hown.2.1⟩

theorem Hex_no (s : ByteArray) (w : World) (hs : 20000 < s.size) (hm : s.size ≤ 1048576) :
    Calls Tryd.prog 38 #[.string s] w fun e w' => e = .returned (.tuple #[.string ⟨#[]⟩, .bool false]) ∧ Below w.heap.size w w' := by
  go_enter Tryd.func38, Tryd.ntmps38
  go_wp2
  go_ret2
  exact ⟨rfl, Below.refl _ _⟩

end Go.Proofs.YtifkpeockdpaiaaDoor
