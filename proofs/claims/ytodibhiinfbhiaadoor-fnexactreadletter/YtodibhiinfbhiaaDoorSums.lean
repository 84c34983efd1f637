/-
  What SumMore and SumOf answer, the program's and the specification's.
-/
import Derived.Test.YtodibhiinfbhiaaDoorRows
import Derived.Test.YtodibhiinfbhiaaDoorCrc
import Derived.WalkKit
import Derived.Below
import Derived.Laws.BitsAllLaws
namespace Go.Proofs.YtodibhiinfbhiaaDoor
open Go.RowKit
set_option linter.unusedVariables false

/-- the table's sixteen words -/
def Tab (w : World) : Prop := ∀ i : Nat, i < 16 → w.cell? ⟨0, i, none⟩ = some (.int .u32 ((S.tabAt i : Nat) : Int))

theorem Tab.pos {w : World} (h : Tab w) : 0 < w.heap.size := by
  have h0 := h 0 (by omega)
  rcases Nat.lt_or_ge 0 w.heap.size with hz | hz
  · exact hz
  · simp [World.cell?, Array.getElem?_eq_none hz] at h0
theorem Tab.later {w w' : World} {B : Nat} (h : Tab w) (hb : Below B w w') (hB : 0 < B) : Tab w' := fun i hi => (hb.cell (p := ⟨0, i, none⟩) hB).trans (h i hi)

theorem tabAt_lt (i : Nat) : S.tabAt i < 4294967296 := by
  by_cases h : i < 16
  · have : ∀ j : Fin 16, S.tabAt j.val < 4294967296 := by decide
    exact this ⟨i, h⟩
  · have : S.tabAt i = 0 := by
      unfold S.tabAt
      simp [S.tab, List.getD, List.getElem?_eq_none (show [0x00000000, 0x4589ac8d, 0x8b13591a, 0xce9af597, 0xbe152a1f, 0xfb9c8692, 0x35067305, 0x708fdf88, 0xd419cc15, 0x91906098, 0x5f0a950f, 0x1a833982, 0x6a0ce60a, 0x2f854a87, 0xe11fbf10, 0xa496139d].length ≤ i by simp; omega)]
    omega

theorem bx (a b c : Nat) (ha : a < 4294967296) (hb : b < 4294967296) (hc : a ^^^ b = c) : bits .xor .u32 (a : Int) (b : Int) = (c : Int) := by
  rw [u32_xor_nat a b ha hb, hc]

theorem bxd (a b c : Nat) (ha : a < 4294967296) (hb : b < 4294967296) (hc : a / 16 ^^^ b = c) : bits .xor .u32 ((a : Int) / 16) (b : Int) = (c : Int) := bx (a / 16) b c (by omega) hb hc

def crcK (x : Nat) (s : ByteArray) (k : Nat) : Nat := S.crc x (s.data.toList.take k)
theorem crcK_lt (x : Nat) (s : ByteArray) (k : Nat) (h : x < 4294967296) : crcK x s k < 4294967296 := S.crc_lt _ _ h
theorem crcK_zero (x : Nat) (s : ByteArray) : crcK x s 0 = x := by simp [crcK, S.crc]
theorem crcK_succ (x : Nat) (s : ByteArray) (k : Nat) (h : k < s.size) : crcK x s (k + 1) = S.st8 (crcK x s k ^^^ s[k].toNat) := by
  have hg : s.data.toList[k]? = some s[k] := by simp [ByteArray.getElem_eq_getElem_data]
  unfold crcK S.crc
  rw [List.take_add_one, hg]
  simp [S.step]
theorem crcK_all (x : Nat) (s : ByteArray) : crcK x s s.size = S.crc x s.data.toList := by
  have h1 : s.data.toList.length = s.size := Array.length_toList
  unfold crcK
  rw [← h1, List.take_length]

def SumRel (x : Nat) (s : ByteArray) (v i : Value) : Prop := ∃ k : Nat, k ≤ s.size ∧ i = .int .i64 k ∧ v = .int .u32 ((crcK x s k : Nat) : Int)

set_option maxRecDepth 100000 in
set_option maxHeartbeats 1000000 in
theorem more_any (s : ByteArray) (x : Nat) (w : World) (hs : s.size ≤ 1048576) (hx : x < 4294967296) (hT : Tab w) :
    Calls Tryd.prog 58 #[.int .u32 (x : Int), .string s] w fun e w' => e = .returned (.int .u32 ((S.crc x s.data.toList : Nat) : Int)) ∧ w' = w := by
  have HT : Hid (Tab w) := hT
  clear hT
  go_enter Tryd.func58, Tryd.ntmps58
  go_wp2
  go_loop [0, 8] (fun v i => SumRel x s v i) (fun _ i => s.size - (intOf i).toNat)
  case atStart => exact ⟨0, Nat.zero_le _, rfl, by rw [crcK_zero]⟩
  case round =>
    obtain ⟨k, hk, rfl, rfl⟩ := hrel
    by_cases hlt : k < s.size
    · have hb : s[k].toNat < 256 := s[k].toNat_lt
      have hsucc := crcK_succ x s k hlt
      have hm := crcK_lt x s k hx
      have hm' := crcK_lt x s (k + 1) hx
      rw [S.st8_tab] at hsucc
      generalize crcK x s k = m at *
      obtain ⟨m', hm2⟩ : ∃ m', crcK x s (k + 1) = m' := ⟨_, rfl⟩
      rw [hm2] at hm' hsucc
      have HM : Hid (crcK x s (k + 1) = m') := hm2
      clear hm2
      obtain ⟨m1, e1⟩ : ∃ m1, m ^^^ s[k].toNat = m1 := ⟨_, rfl⟩
      have l1 : m1 < 4294967296 := by rw [← e1]; exact S.xorb_lt m s[k] hm
      have b1 := bx m s[k].toNat m1 hm (by omega) e1
      rw [e1] at hsucc
      have c1 := HT.out (m1 % 16) (by omega)
      have t1 := tabAt_lt (m1 % 16)
      generalize S.tabAt (m1 % 16) = T1 at *
      obtain ⟨m2, e2⟩ : ∃ m2, m1 / 16 ^^^ T1 = m2 := ⟨_, rfl⟩
      have l2 : m2 < 4294967296 := by rw [← e2]; exact Nat.xor_lt_two_pow (n := 32) (by omega) (by omega)
      have b2 := bxd m1 T1 m2 l1 t1 e2
      rw [e2] at hsucc
      have c2 := HT.out (m2 % 16) (by omega)
      have t2 := tabAt_lt (m2 % 16)
      generalize S.tabAt (m2 % 16) = T2 at *
      have b3 := bxd m2 T2 m' l2 t2 hsucc.symm
      clear e1 e2 hsucc
      go_wp2
      go_round
      case rel => exact ⟨k + 1, by omega, by go_num, by rw [HM.out]⟩
      case measure => simp [intOf]; omega
    · have hke : k = s.size := by omega
      subst hke
      go_wp2
      go_ret
      exact ⟨by rw [crcK_all]; rfl, rfl⟩


theorem st_run (m : Nat) (hm : m < 4294967296) : (m % 2 = 1 → bits .xor .u32 ((m : Int) / 2) 3558460437 = ((S.st m : Nat) : Int)) ∧ (¬ m % 2 = 1 → (m : Int) / 2 = ((S.st m : Nat) : Int)) := by
  constructor
  · intro h
    have h1 := bx (m / 2) 3558460437 (S.st m) (by omega) (by omega) (by unfold S.st; rw [if_pos h])
    exact h1
  · intro h
    unfold S.st
    rw [if_neg h]
    omega

def stN : Nat → Nat → Nat
  | 0, m => m
  | k + 1, m => S.st (stN k m)
theorem stN_lt (k m : Nat) (h : m < 4294967296) : stN k m < 4294967296 := by
  induction k with
  | zero => exact h
  | succ k ih => exact S.st_lt _ ih
theorem stN_eight (m : Nat) : stN 8 m = S.st8 m := rfl

def BitRel (m : Nat) (v j : Value) : Prop := ∃ k : Nat, k ≤ 8 ∧ j = .int .i64 k ∧ v = .int .u32 ((stN k m : Nat) : Int)

set_option maxRecDepth 100000 in
set_option maxHeartbeats 1000000 in
theorem sSumMore_any (s : ByteArray) (x : Nat) (w : World) (hs : s.size ≤ 1048576) (hx : x < 4294967296) :
    Calls Tryd.prog 56 #[.int .u32 (x : Int), .string s] w fun e w' => e = .returned (.int .u32 ((S.crc x s.data.toList : Nat) : Int)) ∧ w' = w := by
  go_enter Tryd.func56, Tryd.ntmps56
  go_wp2
  go_loop [0, 5] (fun v i => SumRel x s v i) (fun _ i => s.size - (intOf i).toNat)
  case atStart => exact ⟨0, Nat.zero_le _, rfl, by rw [crcK_zero]⟩
  case round =>
    obtain ⟨k, hk, rfl, rfl⟩ := hrel
    by_cases hlt : k < s.size
    · have hb : s[k].toNat < 256 := s[k].toNat_lt
      have hsucc := crcK_succ x s k hlt
      have hm := crcK_lt x s k hx
      generalize crcK x s k = m at *
      obtain ⟨m1, e1⟩ : ∃ m1, m ^^^ s[k].toNat = m1 := ⟨_, rfl⟩
      have l1 : m1 < 4294967296 := by rw [← e1]; exact S.xorb_lt m s[k] hm
      have b1 := bx m s[k].toNat m1 hm (by omega) e1
      rw [e1, ← stN_eight] at hsucc
      have HM : Hid (crcK x s (k + 1) = stN 8 m1) := hsucc
      clear e1 hsucc
      go_wp2
      go_loop [0, 6] (fun v j => BitRel m1 v j) (fun _ j => 8 - (intOf j).toNat)
      case atStart => exact ⟨0, Nat.zero_le _, rfl, rfl⟩
      case round =>
        obtain ⟨j, hj, rfl, rfl⟩ := hrel
        have hq := stN_lt j m1 l1
        have hst := st_run (stN j m1) hq
        have hq' := stN_lt (j + 1) m1 l1
        have HN : Hid (stN (j + 1) m1 = S.st (stN j m1)) := rfl
        by_cases hl8 : j < 8
        · generalize stN j m1 = q at *
          obtain ⟨q', hq2⟩ : ∃ q', S.st q = q' := ⟨_, rfl⟩
          rw [hq2] at hst HN
          clear hq2 hq'
          by_cases ho : q % 2 = 1
          · have h1 := hst.1 ho
            have ho' : ((q : Int) % 2 == 1) = true := by simp; omega
            clear hst ho
            go_wp2
            go_round
            case rel => exact ⟨j + 1, by omega, by go_num, by rw [HN.out]⟩
            case measure => simp [intOf]; omega
          · have h1 := hst.2 ho
            have ho' : ((q : Int) % 2 == 1) = false := by simp; omega
            clear hst ho
            go_wp2
            go_round
            case rel => exact ⟨j + 1, by omega, by go_num, by rw [HN.out, ← h1]⟩
            case measure => simp [intOf]; omega
        · have hj8 : j = 8 := by omega
          subst hj8
          rw [← HM.out]
          go_wp2
          go_round
          case rel => exact ⟨k + 1, by omega, by go_num, rfl⟩
          case measure => simp [intOf]; omega
    · have hke : k = s.size := by omega
      subst hke
      go_wp2
      go_ret
      exact ⟨by rw [crcK_all]; rfl, rfl⟩

theorem SumMore_any (s : ByteArray) (x : Nat) (w : World) (hs : s.size ≤ 1048576) (hx : x < 4294967296) (hT : Tab w) :
    Calls Tryd.prog 54 #[.int .u32 (x : Int), .string s] w fun e w' => e = .returned (.int .u32 ((S.crc x s.data.toList : Nat) : Int)) ∧ w' = w := by
  have hl := S.crc_lt s.data.toList x hx
  go_enter Tryd.func54, Tryd.ntmps54
  go_wp2_with fail
  refine (more_any s x _ hs hx hT).mono ?_
  rintro e w' ⟨rfl, rfl⟩
  go_wp2
  go_ret
  exact ⟨rfl, rfl⟩

def sumN (s : ByteArray) : Nat := S.crc 4294967295 s.data.toList
theorem sumN_lt (s : ByteArray) : sumN s < 4294967296 := S.crc_lt _ _ (by omega)

theorem SumOf_any (s : ByteArray) (w : World) (hs : s.size ≤ 1048576) (hT : Tab w) :
    Calls Tryd.prog 44 #[.string s] w fun e w' => e = .returned (.int .u32 ((sumN s : Nat) : Int)) ∧ w' = w := by
  go_enter Tryd.func44, Tryd.ntmps44
  go_wp2_with fail
  refine (SumMore_any s 4294967295 _ hs (by omega) hT).mono ?_
  rintro e w' ⟨rfl, rfl⟩
  go_wp2
  go_ret
  exact ⟨rfl, rfl⟩

theorem sSumOf_any (s : ByteArray) (w : World) (hs : s.size ≤ 1048576) :
    Calls Tryd.prog 49 #[.string s] w fun e w' => e = .returned (.int .u32 ((sumN s : Nat) : Int)) ∧ w' = w := by
  go_enter Tryd.func49, Tryd.ntmps49
  go_wp2_with fail
  refine (sSumMore_any s 4294967295 _ hs (by omega)).mono ?_
  rintro e w' ⟨rfl, rfl⟩
  go_wp2
  go_ret
  exact ⟨rfl, rfl⟩

end Go.Proofs.YtodibhiinfbhiaaDoor
