/-
  What NameOk, ValueOk and BitOf answer, the program's and the specification's.
-/
import Derived.Test.YtiabodhgjeoejaaVar
import Derived.Deep.QuietTactic
import Derived.BigQuiet
namespace Go.Proofs.Ytiabodhgjeoejaa
open Go.RowKit
set_option linter.unusedVariables false

def nameB (b : UInt8) : Bool := decide ((97 ≤ b.toNat ∧ b.toNat ≤ 122) ∨ (48 ≤ b.toNat ∧ b.toNat ≤ 57) ∨ b.toNat = 64 ∨ b.toNat = 46)
def valB (b : UInt8) : Bool := decide (33 ≤ b.toNat ∧ b.toNat ≤ 126)
/-- one to twelve bytes, each as p wants it -/
def okB (p : UInt8 → Bool) (s : ByteArray) : Bool := decide (1 ≤ s.size ∧ s.size ≤ 12) && s.data.toList.all p

theorem okB_bad (p : UInt8 → Bool) (s : ByteArray) (k : Nat) (h : k < s.size) (hb : p s[k] = false) : okB p s = false := by
  unfold okB
  have : s.data.toList.all p = false := by
    rw [List.all_eq_false]
    exact ⟨s[k], by rw [ByteArray.getElem_eq_getElem_data]; exact Array.getElem_mem_toList .., by simp [hb]⟩
  rw [this, Bool.and_false]
theorem okB_good (p : UInt8 → Bool) (s : ByteArray) (h : ∀ k (h : k < s.size), p s[k] = true) : okB p s = decide (1 ≤ s.size ∧ s.size ≤ 12) := by
  unfold okB
  have : s.data.toList.all p = true := by
    rw [List.all_eq_true]
    intro x hx
    obtain ⟨k, hk, rfl⟩ := List.getElem_of_mem hx
    have hk' : k < s.size := by simpa using hk
    have := h k hk'
    rw [ByteArray.getElem_eq_getElem_data] at this
    simpa using this
  rw [this, Bool.and_true]
theorem okB_len (p : UInt8 → Bool) (s : ByteArray) (h : ¬ (1 ≤ s.size ∧ s.size ≤ 12)) : okB p s = false := by
  unfold okB
  rw [decide_eq_false h, Bool.false_and]

theorem byte_of (b : UInt8) : b.toNat < 46 ∨ b.toNat = 46 ∨ b.toNat = 47 ∨ (48 ≤ b.toNat ∧ b.toNat ≤ 57) ∨ (58 ≤ b.toNat ∧ b.toNat ≤ 63) ∨ b.toNat = 64 ∨ (65 ≤ b.toNat ∧ b.toNat ≤ 96) ∨ (97 ≤ b.toNat ∧ b.toNat ≤ 122) ∨ 123 ≤ b.toNat := by omega

theorem ret_b {a b : Bool} (h : a = b) : Ending.returned (.bool a) = .returned (.bool b) := by rw [h]

set_option maxHeartbeats 400000 in
theorem inNames_any (b : UInt8) (w : World) : Calls Try.prog 95 #[.int .u8 b.toNat] w fun e w' => e = .returned (.bool (nameB b)) ∧ w' = w := by
  have hb : b.toNat < 256 := b.toNat_lt
  obtain ⟨R, hR⟩ : ∃ R, nameB b = R := ⟨_, rfl⟩
  rw [hR]
  have HR : Hid (nameB b = R) := hR
  clear hR
  rcases byte_of b with h | h | h | ⟨h, h'⟩ | ⟨h, h'⟩ | h | ⟨h, h'⟩ | ⟨h, h'⟩ | h
  all_goals
    go_enter Try.func95, Try.ntmps95
    go_wp2
  all_goals
    go_ret
    refine ⟨ret_b ?_, rfl⟩
    have hR := HR.out
    unfold nameB at hR
    rw [← hR, Bool.eq_iff_iff]
    clear hR HR
    simp
    omega

def NmRel (p : UInt8 → Bool) (s : ByteArray) (w : World) (i : Value) (wr : World) : Prop := ∃ k : Nat, k ≤ s.size ∧ i = .int .i64 k ∧ Hid (∀ j (h : j < s.size), j < k → p s[j] = true) ∧ wr = w
theorem NmRel.step {p : UInt8 → Bool} {s : ByteArray} {k : Nat} (hk : k < s.size) (hp : p s[k] = true) (h : ∀ j (h : j < s.size), j < k → p s[j] = true) : Hid (∀ j (h : j < s.size), j < k + 1 → p s[j] = true) := by
  intro j hj hlt
  rcases Nat.lt_or_ge j k with h1 | h1
  · exact h j hj h1
  · have : j = k := by omega
    subst this
    exact hp

theorem not_empty (s : ByteArray) (h : 1 ≤ s.size) : s.toList.isEmpty = false := by
  rw [ByteArray.toList_eq, List.isEmpty_eq_false_iff]
  intro h0
  have : s.data.toList.length = 0 := by rw [h0]; rfl
  have h1 : s.data.toList.length = s.size := Array.length_toList
  omega
theorem is_empty (s : ByteArray) (h : s.size = 0) : s.toList.isEmpty = true := by
  rw [ByteArray.toList_eq, List.isEmpty_iff]
  have h1 : s.data.toList.length = s.size := Array.length_toList
  exact List.length_eq_zero_iff.1 (by omega)

set_option maxRecDepth 100000 in
set_option maxHeartbeats 1000000 in
theorem NameOk_any (s : ByteArray) (w : World) (hs : s.size ≤ 1048576) : Calls Try.prog 87 #[.string s] w fun e w' => e = .returned (.bool (okB nameB s)) ∧ w' = w := by
  by_cases h1 : s.size = 0
  · rw [okB_len _ _ (by omega)]
    have hne := is_empty s h1
    go_enter Try.func87, Try.ntmps87
    go_wp2
    go_ret
    exact ⟨rfl, rfl⟩
  · by_cases h2 : 12 < s.size
    · rw [okB_len _ _ (by omega)]
      have hne := not_empty s (by omega)
      go_enter Try.func87, Try.ntmps87
      go_wp2
      go_ret
      exact ⟨rfl, rfl⟩
    · have hne := not_empty s (by omega)
      obtain ⟨R, hR⟩ : ∃ R, okB nameB s = R := ⟨_, rfl⟩
      rw [hR]
      have HR : Hid (okB nameB s = R) := hR
      clear hR
      go_enter Try.func87, Try.ntmps87
      go_wp2
      go_loopw [13] (fun i wr => NmRel nameB s w i wr) (fun i _ => s.size - (intOf i).toNat)
      case atStart => exact ⟨0, by omega, rfl, by intro j _ h; omega, rfl⟩
      case round =>
        obtain ⟨k, hk, rfl, HI, rfl⟩ := hrel
        by_cases hlt : k < s.size
        · have i1 : (k : Int) < (s.size : Int) := by omega
          go_wp2_with fail
          refine (inNames_any s[k] _).mono ?_
          rintro e w1 ⟨rfl, rfl⟩
          cases hp : nameB s[k] with
          | true =>
            have HI2 := NmRel.step hlt hp HI.out
            clear HI
            go_wp2
            go_roundw
            case rel => exact ⟨k + 1, by omega, by go_num, HI2, rfl⟩
            case measure => simp [intOf]; omega
          | false =>
            have hF := okB_bad nameB s k hlt hp
            rw [HR.out] at hF
            subst hF
            go_wp2
            try rw [Exit.noGoto_ret]
            go_ret
            exact ⟨rfl, rfl⟩
        · have hF := okB_good nameB s (fun j hj => HI.out j hj (by omega))
          rw [HR.out, decide_eq_true (by omega)] at hF
          subst hF
          have i1 : ¬ ((k : Int) < (s.size : Int)) := by omega
          clear HI
          go_wp2
          go_ret
          exact ⟨rfl, rfl⟩

set_option maxRecDepth 100000 in
set_option maxHeartbeats 1000000 in
theorem sNameOk_any (s : ByteArray) (w : World) (hs : s.size ≤ 1048576) : Calls Try.prog 62 #[.string s] w fun e w' => e = .returned (.bool (okB nameB s)) ∧ w' = w := by
  obtain ⟨R, hR⟩ : ∃ R, okB nameB s = R := ⟨_, rfl⟩
  rw [hR]
  have HR : Hid (okB nameB s = R) := hR
  clear hR
  go_enter Try.func62, Try.ntmps62
  go_wp2
  go_loopw [3] (fun i wr => NmRel nameB s w i wr) (fun i _ => s.size - (intOf i).toNat)
  case atStart => exact ⟨0, by omega, rfl, by intro j _ h; omega, rfl⟩
  case round =>
    obtain ⟨k, hk, rfl, HI, rfl⟩ := hrel
    by_cases hlt : k < s.size
    · have i1 : (k : Int) < (s.size : Int) := by omega
      have hb : (s[k]).toNat < 256 := (s[k]).toNat_lt
      cases hp : nameB s[k] with
      | true =>
        have HI2 := NmRel.step hlt hp HI.out
        clear HI
        unfold nameB at hp
        rw [decide_eq_true_eq] at hp
        rcases hp with ⟨h1, h2⟩ | ⟨h1, h2⟩ | h1 | h1
        · go_wp2
          go_roundw
          case rel => exact ⟨k + 1, by omega, by go_num, HI2, rfl⟩
          case measure => simp [intOf]; omega
        · go_wp2
          go_roundw
          case rel => exact ⟨k + 1, by omega, by go_num, HI2, rfl⟩
          case measure => simp [intOf]; omega
        · go_wp2
          go_roundw
          case rel => exact ⟨k + 1, by omega, by go_num, HI2, rfl⟩
          case measure => simp [intOf]; omega
        · go_wp2
          go_roundw
          case rel => exact ⟨k + 1, by omega, by go_num, HI2, rfl⟩
          case measure => simp [intOf]; omega
      | false =>
        have hF := okB_bad nameB s k hlt hp
        rw [HR.out] at hF
        subst hF
        unfold nameB at hp
        rw [decide_eq_false_iff_not] at hp
        have n1 : ((s[k].toNat : Int) != 64) = true := by simp; omega
        have n2 : ((s[k].toNat : Int) != 46) = true := by simp; omega
        rcases (show s[k].toNat < 48 ∨ (57 < s[k].toNat ∧ s[k].toNat < 97) ∨ 122 < s[k].toNat from by omega) with h | ⟨h, h'⟩ | h
        · clear hp
          go_wp2
          go_ret
          exact ⟨rfl, rfl⟩
        · clear hp
          go_wp2
          go_ret
          exact ⟨rfl, rfl⟩
        · clear hp
          go_wp2
          go_ret
          exact ⟨rfl, rfl⟩
    · have hF := okB_good nameB s (fun j hj => HI.out j hj (by omega))
      rw [HR.out] at hF
      subst hF
      have i1 : ¬ ((k : Int) < (s.size : Int)) := by omega
      clear HI
      go_wp2_with fail
      refine (l01In_any _ _ _ _).mono ?_
      rintro e w' ⟨rfl, rfl⟩
      go_wp2
      go_ret
      exact ⟨ret_b (by rw [Bool.eq_iff_iff]; simp; omega), rfl⟩

set_option maxRecDepth 100000 in
set_option maxHeartbeats 1000000 in
theorem ValueOk_any (s : ByteArray) (w : World) (hs : s.size ≤ 1048576) : Calls Try.prog 60 #[.string s] w fun e w' => e = .returned (.bool (okB valB s)) ∧ w' = w := by
  by_cases h1 : s.size = 0
  · rw [okB_len _ _ (by omega)]
    have hne := is_empty s h1
    go_enter Try.func60, Try.ntmps60
    go_wp2
    go_ret
    exact ⟨rfl, rfl⟩
  · by_cases h2 : 12 < s.size
    · rw [okB_len _ _ (by omega)]
      have hne := not_empty s (by omega)
      go_enter Try.func60, Try.ntmps60
      go_wp2
      go_ret
      exact ⟨rfl, rfl⟩
    · have hne := not_empty s (by omega)
      obtain ⟨R, hR⟩ : ∃ R, okB valB s = R := ⟨_, rfl⟩
      rw [hR]
      have HR : Hid (okB valB s = R) := hR
      clear hR
      go_enter Try.func60, Try.ntmps60
      go_wp2
      go_loopw [13] (fun i wr => NmRel valB s w i wr) (fun i _ => s.size - (intOf i).toNat)
      case atStart => exact ⟨0, by omega, rfl, by intro j _ h; omega, rfl⟩
      case round =>
        obtain ⟨k, hk, rfl, HI, rfl⟩ := hrel
        by_cases hlt : k < s.size
        · have i1 : (k : Int) < (s.size : Int) := by omega
          have hb : (s[k]).toNat < 256 := (s[k]).toNat_lt
          cases hp : valB s[k] with
          | true =>
            have HI2 := NmRel.step hlt hp HI.out
            clear HI
            unfold valB at hp
            rw [decide_eq_true_eq] at hp
            obtain ⟨h1, h2⟩ := hp
            go_wp2
            go_roundw
            case rel => exact ⟨k + 1, by omega, by go_num, HI2, rfl⟩
            case measure => simp [intOf]; omega
          | false =>
            have hF := okB_bad valB s k hlt hp
            rw [HR.out] at hF
            subst hF
            unfold valB at hp
            rw [decide_eq_false_iff_not] at hp
            rcases (show s[k].toNat < 33 ∨ 126 < s[k].toNat from by omega) with h | h
            · clear hp HI
              go_wp2
              try rw [Exit.noGoto_ret]
              go_ret
              exact ⟨rfl, rfl⟩
            · clear hp HI
              go_wp2
              try rw [Exit.noGoto_ret]
              go_ret
              exact ⟨rfl, rfl⟩
        · have hF := okB_good valB s (fun j hj => HI.out j hj (by omega))
          rw [HR.out, decide_eq_true (by omega)] at hF
          subst hF
          have i1 : ¬ ((k : Int) < (s.size : Int)) := by omega
          clear HI
          go_wp2
          go_ret
          exact ⟨rfl, rfl⟩

set_option maxRecDepth 100000 in
set_option maxHeartbeats 1000000 in
theorem sValueOk_any (s : ByteArray) (w : World) (hs : s.size ≤ 1048576) : Calls Try.prog 63 #[.string s] w fun e w' => e = .returned (.bool (okB valB s)) ∧ w' = w := by
  obtain ⟨R, hR⟩ : ∃ R, okB valB s = R := ⟨_, rfl⟩
  rw [hR]
  have HR : Hid (okB valB s = R) := hR
  clear hR
  go_enter Try.func63, Try.ntmps63
  go_wp2
  go_loopw [3] (fun i wr => NmRel valB s w i wr) (fun i _ => s.size - (intOf i).toNat)
  case atStart => exact ⟨0, by omega, rfl, by intro j _ h; omega, rfl⟩
  case round =>
    obtain ⟨k, hk, rfl, HI, rfl⟩ := hrel
    by_cases hlt : k < s.size
    · have i1 : (k : Int) < (s.size : Int) := by omega
      have hb : (s[k]).toNat < 256 := (s[k]).toNat_lt
      cases hp : valB s[k] with
      | true =>
        have HI2 := NmRel.step hlt hp HI.out
        clear HI
        unfold valB at hp
        rw [decide_eq_true_eq] at hp
        obtain ⟨h1, h2⟩ := hp
        go_wp2
        go_roundw
        case rel => exact ⟨k + 1, by omega, by go_num, HI2, rfl⟩
        case measure => simp [intOf]; omega
      | false =>
        have hF := okB_bad valB s k hlt hp
        rw [HR.out] at hF
        subst hF
        unfold valB at hp
        rw [decide_eq_false_iff_not] at hp
        rcases (show s[k].toNat < 33 ∨ 126 < s[k].toNat from by omega) with h | h
        · clear hp HI
          go_wp2
          try rw [Exit.noGoto_ret]
          go_ret
          exact ⟨rfl, rfl⟩
        · clear hp HI
          go_wp2
          try rw [Exit.noGoto_ret]
          go_ret
          exact ⟨rfl, rfl⟩
    · have hF := okB_good valB s (fun j hj => HI.out j hj (by omega))
      rw [HR.out] at hF
      subst hF
      have i1 : ¬ ((k : Int) < (s.size : Int)) := by omega
      clear HI
      go_wp2_with fail
      refine (l01In_any _ _ _ _).mono ?_
      rintro e w' ⟨rfl, rfl⟩
      go_wp2
      go_ret
      exact ⟨ret_b (by rw [Bool.eq_iff_iff]; simp; omega), rfl⟩

/-- the bit of a number at a level -/
def bitI (x : Int) (y : Nat) : Int := bits .and .i64 (x / 2 ^ (7 - y)) 1
end Go.Proofs.Ytiabodhgjeoejaa
