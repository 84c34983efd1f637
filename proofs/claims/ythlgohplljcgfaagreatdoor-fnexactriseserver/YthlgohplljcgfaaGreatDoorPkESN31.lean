/-
  Texts laid together: Crc, Sums, Four, GFr.
-/
import Derived.Test.YthlgohplljcgfaaGreatDoorRows
import Derived.WalkKit
import Derived.Below
import Derived.Laws.BitsAllLaws
import Derived.Test.YthlgohplljcgfaaGreatDoorPkESN0
import Derived.Test.YthlgohplljcgfaaGreatDoorPkESN3
/-
  Plain facts on the check sum: its eight steps a byte, the same by half bytes over a table, and that no other byte makes the same sum.
-/
namespace Go.Proofs.YthlgohplljcgfaaGreatDoor.S
def st (s : Nat) : Nat := if s % 2 = 1 then s / 2 ^^^ 3558460437 else s / 2
def st8 (s : Nat) : Nat := st (st (st (st (st (st (st (st s)))))))
def tab : List Nat := [0x00000000, 0x4589ac8d, 0x8b13591a, 0xce9af597,
  0xbe152a1f, 0xfb9c8692, 0x35067305, 0x708fdf88,
  0xd419cc15, 0x91906098, 0x5f0a950f, 0x1a833982,
  0x6a0ce60a, 0x2f854a87, 0xe11fbf10, 0xa496139d]
def tabAt (r : Nat) : Nat := tab.getD r 0
def step (s : Nat) (b : UInt8) : Nat := st8 (s ^^^ b.toNat)
def crc (s : Nat) (l : List UInt8) : Nat := l.foldl step s

theorem xor_half (a b : Nat) : (a ^^^ b) / 2 = a / 2 ^^^ b / 2 := by
  exact Nat.xor_div_two
theorem xor_odd (a b : Nat) : (a ^^^ b) % 2 = (a % 2 + b % 2) % 2 := by
  have h := @Nat.xor_mod_two_eq_one a b
  have h1 := Nat.mod_two_eq_zero_or_one (a ^^^ b)
  omega
theorem xor_cancel_r {a b c : Nat} (h : a ^^^ c = b ^^^ c) : a = b := by
  have h1 : a ^^^ c ^^^ c = b ^^^ c ^^^ c := by rw [h]
  rw [Nat.xor_assoc, Nat.xor_assoc, Nat.xor_self, Nat.xor_zero, Nat.xor_zero] at h1
  exact h1
theorem xor_cancel_l {a b c : Nat} (h : c ^^^ a = c ^^^ b) : a = b := by
  rw [Nat.xor_comm c a, Nat.xor_comm c b] at h
  exact xor_cancel_r h
theorem st_xor (a b : Nat) : st (a ^^^ b) = st a ^^^ st b := by
  unfold st
  rw [xor_half, xor_odd]
  rcases Nat.mod_two_eq_zero_or_one a with ha | ha <;> rcases Nat.mod_two_eq_zero_or_one b with hb | hb <;> simp [ha, hb]
  · ac_rfl
  · ac_rfl
  · rw [show a / 2 ^^^ 3558460437 ^^^ (b / 2 ^^^ 3558460437) = a / 2 ^^^ b / 2 ^^^ (3558460437 ^^^ 3558460437) by ac_rfl]; simp
theorem st_even (q : Nat) : st (2 * q) = q := by
  unfold st
  rw [if_neg (by omega)]; omega
theorem parts (s : Nat) : s = 16 * (s / 16) ^^^ s % 16 := by
  have h := Nat.two_pow_add_eq_or_of_lt (i := 4) (b := s % 16) (by omega) (s / 16)
  apply Nat.eq_of_testBit_eq
  intro i
  rw [Nat.testBit_xor, show 16 * (s / 16) = 2 ^ 4 * (s / 16) by omega, Nat.testBit_two_pow_mul, show s % 16 = s % 2 ^ 4 by rfl, Nat.testBit_mod_two_pow, show s / 16 = s / 2 ^ 4 by rfl, Nat.testBit_div_two_pow]
  by_cases hi : i < 4
  · have h4 : ¬ 4 ≤ i := by omega
    simp [hi, h4]
  · have h4 : 4 ≤ i := by omega
    simp [hi, h4]
theorem small : ∀ r : Fin 16, st (st (st (st r.val))) = tabAt r.val := by decide +kernel
theorem st4 (s : Nat) : st (st (st (st s))) = s / 16 ^^^ tabAt (s % 16) := by
  have h := small ⟨s % 16, by omega⟩
  simp only at h
  conv => lhs; rw [parts s]
  simp only [st_xor]
  rw [h, show 16 * (s / 16) = 2 * (2 * (2 * (2 * (s / 16)))) by omega]
  simp only [st_even]
theorem st_lt (s : Nat) (h : s < 4294967296) : st s < 4294967296 := by
  unfold st
  split
  · exact Nat.xor_lt_two_pow (n := 32) (by omega) (by omega)
  · omega
theorem st8_lt (s : Nat) (h : s < 4294967296) : st8 s < 4294967296 :=
  st_lt _ (st_lt _ (st_lt _ (st_lt _ (st_lt _ (st_lt _ (st_lt _ (st_lt _ h)))))))
theorem xorb_lt (s : Nat) (b : UInt8) (h : s < 4294967296) : s ^^^ b.toNat < 4294967296 :=
  Nat.xor_lt_two_pow (n := 32) (by omega) (by have := b.toNat_lt; omega)
theorem step_lt (s : Nat) (b : UInt8) (h : s < 4294967296) : step s b < 4294967296 := st8_lt _ (xorb_lt s b h)
theorem crc_lt (l : List UInt8) : ∀ s, s < 4294967296 → crc s l < 4294967296 := by
  induction l with
  | nil => intro s h; exact h
  | cons b l ih => intro s h; exact ih _ (step_lt s b h)
theorem st_inj (a b : Nat) (ha : a < 4294967296) (hb : b < 4294967296) (h : st a = st b) : a = b := by
  have top : ∀ x, x < 4294967296 → (st x).testBit 31 = decide (x % 2 = 1) := by
    intro x hx
    unfold st
    have h0 : (x / 2).testBit 31 = false := Nat.testBit_lt_two_pow (by omega)
    split
    · rename_i h1
      rw [Nat.testBit_xor, h0, h1]; decide
    · rename_i h1
      rw [h0]; simp; omega
  have h1 := top a ha
  have h2 := top b hb
  rw [h, h2] at h1
  simp only [decide_eq_decide] at h1
  unfold st at h
  by_cases ho : a % 2 = 1
  · have ho' := h1.2 ho
    rw [if_pos ho, if_pos ho'] at h
    have : a / 2 = b / 2 := xor_cancel_r h
    omega
  · have ho' : ¬ b % 2 = 1 := fun x => ho (h1.1 x)
    rw [if_neg ho, if_neg ho'] at h
    omega
theorem st8_inj (a b : Nat) (ha : a < 4294967296) (hb : b < 4294967296) (h : st8 a = st8 b) : a = b := by
  unfold st8 at h
  have l1 := st_lt a ha; have l2 := st_lt _ l1; have l3 := st_lt _ l2; have l4 := st_lt _ l3; have l5 := st_lt _ l4; have l6 := st_lt _ l5; have l7 := st_lt _ l6
  have m1 := st_lt b hb; have m2 := st_lt _ m1; have m3 := st_lt _ m2; have m4 := st_lt _ m3; have m5 := st_lt _ m4; have m6 := st_lt _ m5; have m7 := st_lt _ m6
  exact st_inj _ _ ha hb (st_inj _ _ l1 m1 (st_inj _ _ l2 m2 (st_inj _ _ l3 m3 (st_inj _ _ l4 m4 (st_inj _ _ l5 m5 (st_inj _ _ l6 m6 (st_inj _ _ l7 m7 h)))))))
theorem step_inj (a b : Nat) (c : UInt8) (ha : a < 4294967296) (hb : b < 4294967296) (h : step a c = step b c) : a = b :=
  xor_cancel_r (st8_inj _ _ (xorb_lt a c ha) (xorb_lt b c hb) h)
theorem crc_inj (l : List UInt8) : ∀ a b, a < 4294967296 → b < 4294967296 → crc a l = crc b l → a = b := by
  induction l with
  | nil => intro a b _ _ h; exact h
  | cons c l ih => intro a b ha hb h; exact step_inj a b c ha hb (ih _ _ (step_lt a c ha) (step_lt b c hb) h)
theorem step_other (s : Nat) (c d : UInt8) (hs : s < 4294967296) (h : step s c = step s d) : c = d :=
  UInt8.toNat_inj.1 (xor_cancel_l (st8_inj _ _ (xorb_lt s c hs) (xorb_lt s d hs) h))
theorem crc_turned (s : Nat) (pre post : List UInt8) (c d : UInt8) (hs : s < 4294967296) (h : crc s (pre ++ c :: post) = crc s (pre ++ d :: post)) : c = d := by
  unfold crc at h
  rw [List.foldl_append, List.foldl_append] at h
  have hl := crc_lt pre s hs
  exact step_other _ c d hl (crc_inj post _ _ (step_lt _ c hl) (step_lt _ d hl) h)
theorem st8_tab (s : Nat) : st8 s = (s / 16 ^^^ tabAt (s % 16)) / 16 ^^^ tabAt ((s / 16 ^^^ tabAt (s % 16)) % 16) := by
  unfold st8
  rw [st4, st4 s]
end Go.Proofs.YthlgohplljcgfaaGreatDoor.S
/-
  What SumMore and SumOf answer, the program's and the specification's.
-/
namespace Go.Proofs.YthlgohplljcgfaaGreatDoor
open Go.RowKit
set_option linter.unusedVariables false

/-- the table's sixteen words -/
def Tab (w : World) : Prop := ∀ i : Nat, i < 16 → w.cell? ⟨3, i, none⟩ = some (.int .u32 ((S.tabAt i : Nat) : Int))

theorem Tab.pos {w : World} (h : Tab w) : 3 < w.heap.size := by
  have h0 := h 0 (by omega)
  rcases Nat.lt_or_ge 3 w.heap.size with hz | hz
  · exact hz
  · simp [World.cell?, Array.getElem?_eq_none hz] at h0
theorem Tab.later {w w' : World} {B : Nat} (h : Tab w) (hb : Below B w w') (hB : 3 < B) : Tab w' := fun i hi => (hb.cell (p := ⟨3, i, none⟩) hB).trans (h i hi)

theorem tabAt_lt (i : Nat) : S.tabAt i < 4294967296 := by
  by_cases h : i < 16
  · have : ∀ j : Fin 16, S.tabAt j.val < 4294967296 := by decide
    exact this ⟨i, h⟩
  · have : S.tabAt i = 0 := by
      unfold S.tabAt
      simp [S.tab, List.getD, List.getElem?_eq_none (show [0x00000000, 0x4589ac8d, 0x8b13591a, 0xce9af597, 0xbe152a1f, 0xfb9c8692, 0x35067305, 0x708fdf88, 0xd419cc15, 0x91906098, 0x5f0a950f, 0x1a833982, 0x6a0ce60a, 0x2f854a87, 0xe11fbf10, 0xa496139d].length ≤ i by simp; omega)]
    omega

theorem bx (a b c : Nat) (ha : a < 4294967296) (hb : b < 4294967296) (hc : a ^^^ b = c) : bits .xor .u32 (a : Int) (b : Int) = (c : Int) := by
  rw [u32_xor_nat a b ha hb, hc]

theorem bxd (a b c : Nat) (ha : a < 4294967296) (hb : b < 4294967296) (hc : a / 16 ^^^ b = c) : bits .xor .u32 ((a : Int) / 16) (b : Int) = (c : Int) := bx (a / 16) b c (by omega) hb hc

def crcK (x : Nat) (s : ByteArray) (k : Nat) : Nat := S.crc x (s.data.toList.take k)
theorem crcK_lt (x : Nat) (s : ByteArray) (k : Nat) (h : x < 4294967296) : crcK x s k < 4294967296 := S.crc_lt _ _ h
theorem crcK_zero (x : Nat) (s : ByteArray) : crcK x s 0 = x := by simp [crcK, S.crc]
theorem crcK_succ (x : Nat) (s : ByteArray) (k : Nat) (h : k < s.size) : crcK x s (k + 1) = S.st8 (crcK x s k ^^^ s[k].toNat) := by
  have hg : s.data.toList[k]? = some s[k] := by simp [ByteArray.getElem_eq_getElem_data]
  unfold crcK S.crc
  rw [List.take_add_one, hg]
  simp [S.step]
theorem crcK_all (x : Nat) (s : ByteArray) : crcK x s s.size = S.crc x s.data.toList := by
  have h1 : s.data.toList.length = s.size := Array.length_toList
  unfold crcK
  rw [← h1, List.take_length]

def SumRel (x : Nat) (s : ByteArray) (v i : Value) : Prop := ∃ k : Nat, k ≤ s.size ∧ i = .int .i64 k ∧ v = .int .u32 ((crcK x s k : Nat) : Int)

set_option maxRecDepth 100000 in
set_option maxHeartbeats 1000000 in
theorem more_any (s : ByteArray) (x : Nat) (w : World) (hs : s.size ≤ 1048576) (hx : x < 4294967296) (hT : Tab w) :
    Calls Tryz.prog 193 #[.int .u32 (x : Int), .string s] w fun e w' => e = .returned (.int .u32 ((S.crc x s.data.toList : Nat) : Int)) ∧ w' = w := by
  have HT : Hid (Tab w) := hT
  clear hT
  go_enter Tryz.func193, Tryz.ntmps193
  go_wp2
  go_loop [0, 8] (fun v i => SumRel x s v i) (fun _ i => s.size - (intOf i).toNat)
  case atStart => exact ⟨0, Nat.zero_le _, rfl, by rw [crcK_zero]⟩
  case round =>
    obtain ⟨k, hk, rfl, rfl⟩ := hrel
    by_cases hlt : k < s.size
    · have hb : s[k].toNat < 256 := s[k].toNat_lt
      have hsucc := crcK_succ x s k hlt
      have hm := crcK_lt x s k hx
      have hm' := crcK_lt x s (k + 1) hx
      rw [S.st8_tab] at hsucc
      generalize crcK x s k = m at *
      obtain ⟨m', hm2⟩ : ∃ m', crcK x s (k + 1) = m' := ⟨_, rfl⟩
      rw [hm2] at hm' hsucc
      have HM : Hid (crcK x s (k + 1) = m') := hm2
      clear hm2
      obtain ⟨m1, e1⟩ : ∃ m1, m ^^^ s[k].toNat = m1 := ⟨_, rfl⟩
      have l1 : m1 < 4294967296 := by rw [← e1]; exact S.xorb_lt m s[k] hm
      have b1 := bx m s[k].toNat m1 hm (by omega) e1
      rw [e1] at hsucc
      have c1 := HT.out (m1 % 16) (by omega)
      have t1 := tabAt_lt (m1 % 16)
      generalize S.tabAt (m1 % 16) = T1 at *
      obtain ⟨m2, e2⟩ : ∃ m2, m1 / 16 ^^^ T1 = m2 := ⟨_, rfl⟩
      have l2 : m2 < 4294967296 := by rw [← e2]; exact Nat.xor_lt_two_pow (n := 32) (by omega) (by omega)
      have b2 := bxd m1 T1 m2 l1 t1 e2
      rw [e2] at hsucc
      have c2 := HT.out (m2 % 16) (by omega)
      have t2 := tabAt_lt (m2 % 16)
      generalize S.tabAt (m2 % 16) = T2 at *
      have b3 := bxd m2 T2 m' l2 t2 hsucc.symm
      clear e1 e2 hsucc
      go_wp2
      go_round
      case rel => exact ⟨k + 1, by omega, by go_num, by rw [HM.out]⟩
      case measure => simp [intOf]; omega
    · have hke : k = s.size := by omega
      subst hke
      go_wp2
      go_ret
      exact ⟨by rw [crcK_all]; rfl, rfl⟩


theorem st_run (m : Nat) (hm : m < 4294967296) : (m % 2 = 1 → bits .xor .u32 ((m : Int) / 2) 3558460437 = ((S.st m : Nat) : Int)) ∧ (¬ m % 2 = 1 → (m : Int) / 2 = ((S.st m : Nat) : Int)) := by
  constructor
  · intro h
    have h1 := bx (m / 2) 3558460437 (S.st m) (by omega) (by omega) (by unfold S.st; rw [if_pos h])
    exact h1
  · intro h
    unfold S.st
    rw [if_neg h]
    omega

def stCn : Nat → Nat → Nat
  | 0, m => m
  | k + 1, m => S.st (stCn k m)
theorem stCn_lt (k m : Nat) (h : m < 4294967296) : stCn k m < 4294967296 := by
  induction k with
  | zero => exact h
  | succ k ih => exact S.st_lt _ ih
theorem stCn_eight (m : Nat) : stCn 8 m = S.st8 m := rfl

def BitRel (m : Nat) (v j : Value) : Prop := ∃ k : Nat, k ≤ 8 ∧ j = .int .i64 k ∧ v = .int .u32 ((stCn k m : Nat) : Int)

set_option maxRecDepth 100000 in
set_option maxHeartbeats 1000000 in
theorem sSumMore_any (s : ByteArray) (x : Nat) (w : World) (hs : s.size ≤ 1048576) (hx : x < 4294967296) :
    Calls Tryz.prog 152 #[.int .u32 (x : Int), .string s] w fun e w' => e = .returned (.int .u32 ((S.crc x s.data.toList : Nat) : Int)) ∧ w' = w := by
  go_enter Tryz.func152, Tryz.ntmps152
  go_wp2
  go_loop [0, 5] (fun v i => SumRel x s v i) (fun _ i => s.size - (intOf i).toNat)
  case atStart => exact ⟨0, Nat.zero_le _, rfl, by rw [crcK_zero]⟩
  case round =>
    obtain ⟨k, hk, rfl, rfl⟩ := hrel
    by_cases hlt : k < s.size
    · have hb : s[k].toNat < 256 := s[k].toNat_lt
      have hsucc := crcK_succ x s k hlt
      have hm := crcK_lt x s k hx
      generalize crcK x s k = m at *
      obtain ⟨m1, e1⟩ : ∃ m1, m ^^^ s[k].toNat = m1 := ⟨_, rfl⟩
      have l1 : m1 < 4294967296 := by rw [← e1]; exact S.xorb_lt m s[k] hm
      have b1 := bx m s[k].toNat m1 hm (by omega) e1
      rw [e1, ← stCn_eight] at hsucc
      have HM : Hid (crcK x s (k + 1) = stCn 8 m1) := hsucc
      clear e1 hsucc
      go_wp2
      go_loop [0, 6] (fun v j => BitRel m1 v j) (fun _ j => 8 - (intOf j).toNat)
      case atStart => exact ⟨0, Nat.zero_le _, rfl, rfl⟩
      case round =>
        obtain ⟨j, hj, rfl, rfl⟩ := hrel
        have hq := stCn_lt j m1 l1
        have hst := st_run (stCn j m1) hq
        have hq' := stCn_lt (j + 1) m1 l1
        have HN : Hid (stCn (j + 1) m1 = S.st (stCn j m1)) := rfl
        by_cases hl8 : j < 8
        · generalize stCn j m1 = q at *
          obtain ⟨q', hq2⟩ : ∃ q', S.st q = q' := ⟨_, rfl⟩
          rw [hq2] at hst HN
          clear hq2 hq'
          by_cases ho : q % 2 = 1
          · have h1 := hst.1 ho
            have ho' : ((q : Int) % 2 == 1) = true := by simp; omega
            clear hst ho
            go_wp2
            go_round
            case rel => exact ⟨j + 1, by omega, by go_num, by rw [HN.out]⟩
            case measure => simp [intOf]; omega
          · have h1 := hst.2 ho
            have ho' : ((q : Int) % 2 == 1) = false := by simp; omega
            clear hst ho
            go_wp2
            go_round
            case rel => exact ⟨j + 1, by omega, by go_num, by rw [HN.out, ← h1]⟩
            case measure => simp [intOf]; omega
        · have hj8 : j = 8 := by omega
          subst hj8
          rw [← HM.out]
          go_wp2
          go_round
          case rel => exact ⟨k + 1, by omega, by go_num, rfl⟩
          case measure => simp [intOf]; omega
    · have hke : k = s.size := by omega
      subst hke
      go_wp2
      go_ret
      exact ⟨by rw [crcK_all]; rfl, rfl⟩

theorem SumMore_any (s : ByteArray) (x : Nat) (w : World) (hs : s.size ≤ 1048576) (hx : x < 4294967296) (hT : Tab w) :
    Calls Tryz.prog 181 #[.int .u32 (x : Int), .string s] w fun e w' => e = .returned (.int .u32 ((S.crc x s.data.toList : Nat) : Int)) ∧ w' = w := by
  have hl := S.crc_lt s.data.toList x hx
  go_enter Tryz.func181, Tryz.ntmps181
  go_wp2_with fail
  refine (more_any s x _ hs hx hT).mono ?_
  rintro e w' ⟨rfl, rfl⟩
  go_wp2
  go_ret
  exact ⟨rfl, rfl⟩

def sumN (s : ByteArray) : Nat := S.crc 4294967295 s.data.toList
theorem sumN_lt (s : ByteArray) : sumN s < 4294967296 := S.crc_lt _ _ (by omega)

theorem SumOf_any (s : ByteArray) (w : World) (hs : s.size ≤ 1048576) (hT : Tab w) :
    Calls Tryz.prog 173 #[.string s] w fun e w' => e = .returned (.int .u32 ((sumN s : Nat) : Int)) ∧ w' = w := by
  go_enter Tryz.func173, Tryz.ntmps173
  go_wp2_with fail
  refine (SumMore_any s 4294967295 _ hs (by omega) hT).mono ?_
  rintro e w' ⟨rfl, rfl⟩
  go_wp2
  go_ret
  exact ⟨rfl, rfl⟩

theorem sSumOf_any (s : ByteArray) (w : World) (hs : s.size ≤ 1048576) :
    Calls Tryz.prog 131 #[.string s] w fun e w' => e = .returned (.int .u32 ((sumN s : Nat) : Int)) ∧ w' = w := by
  go_enter Tryz.func131, Tryz.ntmps131
  go_wp2_with fail
  refine (sSumMore_any s 4294967295 _ hs (by omega)).mono ?_
  rintro e w' ⟨rfl, rfl⟩
  go_wp2
  go_ret
  exact ⟨rfl, rfl⟩

end Go.Proofs.YthlgohplljcgfaaGreatDoor
/-
  The four bytes of a sum, as the program and the specification write them, and what Sealed answers.
-/
namespace Go.Proofs.YthlgohplljcgfaaGreatDoor
open Go.RowKit
set_option linter.unusedVariables false

def four (n : Nat) : List UInt8 := [UInt8.ofNat (n / 16777216), UInt8.ofNat (n / 65536), UInt8.ofNat (n / 256), UInt8.ofNat n]
def fourB (n : Nat) : ByteArray := ⟨(four n).toArray⟩
theorem fourB_size (n : Nat) : (fourB n).size = 4 := rfl

theorem run_four (n : Nat) (hn : n < 4294967296) (w : World) :
    (convert 159 9 (.slice (some ⟨w.heap.size, 0, none⟩) 4 4)).run Tryz.prog (w.alloc (.cells #[.int .u8 ((n : Int) / 16777216), .int .u8 ((n : Int) / 65536 % 256), .int .u8 ((n : Int) / 256 % 256), .int .u8 ((n : Int) % 256)] 5)) =
      .ok (.string (fourB n)) (w.alloc (.cells #[.int .u8 ((n : Int) / 16777216), .int .u8 ((n : Int) / 65536 % 256), .int .u8 ((n : Int) / 256 % 256), .int .u8 ((n : Int) % 256)] 5)) := by
  refine run_convert_bytes_back (P := Tryz.prog) _ 159 9 5 ⟨w.heap.size, 0, none⟩ 4 (four n) Tryz.underlying159 Tryz.underlying5 Tryz.underlying9 ?_
  intro j hj
  have h0 : (UInt8.ofNat (n / 16777216)).toNat = n / 16777216 := by simp; omega
  have h1 : (UInt8.ofNat (n / 65536)).toNat = n / 65536 % 256 := by simp
  have h2 : (UInt8.ofNat (n / 256)).toNat = n / 256 % 256 := by simp
  have h3 : (UInt8.ofNat n).toNat = n % 256 := by simp
  have hj4 : j < 4 := by simpa [four] using hj
  rcases (show j = 0 ∨ j = 1 ∨ j = 2 ∨ j = 3 by omega) with rfl | rfl | rfl | rfl
  · simp [Addr.add, four, h0]
  · simp [Addr.add, four, h1]
  · simp [Addr.add, four, h2]
  · simp [Addr.add, four, h3]

theorem inBytes_any (n : Nat) (w : World) (hn : n < 4294967296) :
    Calls Tryz.prog 174 #[.int .u32 (n : Int)] w fun e w' => e = .returned (.string (fourB n)) ∧ Below w.heap.size w w' := by
  have hcv := run_four n hn w
  go_enter Tryz.func174, Tryz.ntmps174
  go_wp2
  go_ret
  exact ⟨rfl, (Below.refl _ _).alloc (Nat.le_refl _) _⟩
theorem l02Four_any (n : Nat) (w : World) (hn : n < 4294967296) :
    Calls Tryz.prog 130 #[.int .u32 (n : Int)] w fun e w' => e = .returned (.string (fourB n)) ∧ Below w.heap.size w w' := by
  have hcv := run_four n hn w
  go_enter Tryz.func130, Tryz.ntmps130
  go_wp2
  go_ret
  exact ⟨rfl, (Below.refl _ _).alloc (Nat.le_refl _) _⟩

def sealedB (s : ByteArray) : ByteArray := s ++ fourB (sumN s)

end Go.Proofs.YthlgohplljcgfaaGreatDoor
/-
  Plain facts on frames: which record stands at a place of a file, and all records of the whole frames that it begins with.
-/
namespace Go.Proofs.YthlgohplljcgfaaGreatDoor
open Go.RowKit
set_option linter.unusedVariables false

def frB (t : ByteArray) : ByteArray := varB t.size ++ fourB (sumN t) ++ t

/-- the record whose frame stands at p, and the place behind it -/
def recAt (s : ByteArray) (p : Nat) : Option (ByteArray × Nat) :=
  match M.readVar s.data.toList p with
  | none => none
  | some (n, q) => if (1 ≤ n ∧ n ≤ 9000 ∧ q + 4 + n ≤ s.size) ∧ (fourB (sumN (piece s (q + 4) n))).data.toList = (piece s q 4).data.toList then some (piece s (q + 4) n, q + 4 + n) else none

theorem recAt_none {s : ByteArray} {p : Nat} (h : M.readVar s.data.toList p = none) : recAt s p = none := by unfold recAt; rw [h]
theorem recAt_no {s : ByteArray} {p n q : Nat} (h : M.readVar s.data.toList p = some (n, q)) (hn : ¬ (1 ≤ n ∧ n ≤ 9000 ∧ q + 4 + n ≤ s.size)) : recAt s p = none := by
  unfold recAt
  rw [h]
  exact if_neg (fun h => hn h.1)
theorem recAt_other {s : ByteArray} {p n q : Nat} (h : M.readVar s.data.toList p = some (n, q)) (hn : ¬ fourB (sumN (piece s (q + 4) n)) = piece s q 4) : recAt s p = none := by
  unfold recAt
  rw [h]
  exact if_neg (fun h => hn (ByteArray.ext (Array.toList_inj.1 h.2)))
theorem recAt_yes {s : ByteArray} {p n q : Nat} (h : M.readVar s.data.toList p = some (n, q)) (hn : 1 ≤ n ∧ n ≤ 9000 ∧ q + 4 + n ≤ s.size) (he : fourB (sumN (piece s (q + 4) n)) = piece s q 4) : recAt s p = some (piece s (q + 4) n, q + 4 + n) := by
  unfold recAt
  rw [h]
  exact if_pos ⟨hn, by rw [he]⟩

theorem rv_past (s : List UInt8) (p : Nat) : ∀ (f i n a q : Nat), M.rv s p f i n = some (a, q) → p + i < q
  | 0, _, _, _, _, h => by simp [M.rv] at h
  | f + 1, i, n, a, q, h => by
    rw [M.rv] at h
    cases hb : s[p + i]? with
    | none => rw [hb] at h; simp at h
    | some b =>
      rw [hb] at h
      simp only at h
      split at h
      · have := rv_past s p f (i + 1) _ a q h
        omega
      · split at h
        · simp at h
        · simp at h
          omega
theorem read_past (s : List UInt8) (p n q : Nat) (h : M.readVar s p = some (n, q)) : p < q := by
  have := rv_past s p 5 0 0 n q h
  omega

theorem recAt_some {s : ByteArray} {p q : Nat} {t : ByteArray} (h : recAt s p = some (t, q)) :
    ∃ n b, M.readVar s.data.toList p = some (n, b) ∧ (1 ≤ n ∧ n ≤ 9000 ∧ b + 4 + n ≤ s.size) ∧ fourB (sumN (piece s (b + 4) n)) = piece s b 4 ∧ t = piece s (b + 4) n ∧ q = b + 4 + n := by
  unfold recAt at h
  cases hv : M.readVar s.data.toList p with
  | none => rw [hv] at h; simp at h
  | some x =>
    obtain ⟨n, b⟩ := x
    rw [hv] at h
    simp only at h
    split at h
    · rename_i hc
      simp only [Option.some.injEq, Prod.mk.injEq] at h
      exact ⟨n, b, rfl, hc.1, ByteArray.ext (Array.toList_inj.1 hc.2), h.1.symm, h.2.symm⟩
    · simp at h
theorem recAt_lt {s : ByteArray} {p q : Nat} {t : ByteArray} (h : recAt s p = some (t, q)) : p < q ∧ q ≤ s.size := by
  obtain ⟨n, b, hv, hn, _, _, rfl⟩ := recAt_some h
  have := read_past _ _ _ _ hv
  omega
theorem recAt_end (s : ByteArray) : recAt s s.size = none := by
  refine recAt_none ?_
  have h1 : s.data.toList.length = s.size := Array.length_toList
  unfold M.readVar
  rw [M.rv]
  have : s.data.toList[s.size + 0]? = none := by rw [List.getElem?_eq_none_iff]; omega
  rw [this]

/-- the records from a place on, each with the place behind its frame -/
def framesF (s : ByteArray) : Nat → Nat → List (ByteArray × Nat)
  | 0, _ => []
  | f + 1, p => match recAt s p with
    | none => []
    | some x => x :: framesF s f x.2
def frames (s : ByteArray) : List (ByteArray × Nat) := framesF s (s.size + 1) 0
def endOf (l : List (ByteArray × Nat)) : Nat := (l.getLast?.map Prod.snd).getD 0
def textsOf (l : List (ByteArray × Nat)) : List ByteArray := l.map Prod.fst
theorem endOf_snoc (l : List (ByteArray × Nat)) (x : ByteArray × Nat) : endOf (l ++ [x]) = x.2 := by simp [endOf]
theorem textsOf_snoc (l : List (ByteArray × Nat)) (x : ByteArray × Nat) : textsOf (l ++ [x]) = textsOf l ++ [x.1] := by simp [textsOf]
theorem textsOf_len (l : List (ByteArray × Nat)) : (textsOf l).length = l.length := by simp [textsOf]

/-- so many have come, and the next one begins at p -/
def FI (s : ByteArray) (p : Nat) (pre : List (ByteArray × Nat)) : Prop := ∃ f, s.size - p < f ∧ pre ++ framesF s f p = frames s ∧ pre.length ≤ p ∧ p ≤ s.size ∧ endOf pre = p
theorem FI.start (s : ByteArray) : FI s 0 [] := ⟨s.size + 1, by omega, rfl, by simp, by omega, rfl⟩
theorem FI.len {s : ByteArray} {p : Nat} {pre : List (ByteArray × Nat)} (h : FI s p pre) : pre.length ≤ p ∧ p ≤ s.size := by
  obtain ⟨f, _, _, h1, h2, _⟩ := h
  exact ⟨h1, h2⟩
theorem FI.ends {s : ByteArray} {p : Nat} {pre : List (ByteArray × Nat)} (h : FI s p pre) : endOf pre = p := by
  obtain ⟨f, _, _, _, _, h3⟩ := h
  exact h3
theorem FI.step {s : ByteArray} {p q : Nat} {t : ByteArray} {pre : List (ByteArray × Nat)} (h : FI s p pre) (hr : recAt s p = some (t, q)) : FI s q (pre ++ [(t, q)]) := by
  obtain ⟨f, hf, he, hl, hp, _⟩ := h
  obtain ⟨h1, h2⟩ := recAt_lt hr
  cases f with
  | zero => omega
  | succ f =>
    refine ⟨f, by omega, ?_, by simp; omega, h2, endOf_snoc _ _⟩
    rw [← he, framesF, hr]
    simp
theorem FI.stop {s : ByteArray} {p : Nat} {pre : List (ByteArray × Nat)} (h : FI s p pre) (hr : recAt s p = none) : frames s = pre := by
  obtain ⟨f, hf, he, hl, hp, _⟩ := h
  cases f with
  | zero => omega
  | succ f =>
    rw [← he, framesF, hr]
    simp

/-- a piece of a list -/
def cutL (l : List UInt8) (a b : Nat) : List UInt8 := (l.drop a).take (b - a)
theorem extract_cut (s : ByteArray) (a b : Nat) : (s.extract a b).data.toList = cutL s.data.toList a b := by
  unfold cutL
  simp [ByteArray.data_extract, List.extract_eq_take_drop]
theorem cutL_join (l : List UInt8) (a b c : Nat) (h1 : a ≤ b) (h2 : b ≤ c) : cutL l a b ++ cutL l b c = cutL l a c := by
  unfold cutL
  have e : c - a = (b - a) + (c - b) := by omega
  rw [e, List.take_add, List.drop_drop]
  have e2 : a + (b - a) = b := by omega
  rw [e2]
theorem cutL_len (l : List UInt8) (a b : Nat) (h1 : a ≤ b) (h2 : b ≤ l.length) : (cutL l a b).length = b - a := by
  unfold cutL
  rw [List.length_take, List.length_drop]
  omega

/-- what was read stands there just as it is written -/
theorem rv_canon (s : ByteArray) (p : Nat) : ∀ (f k N n q : Nat), f + k = 5 → p + k ≤ s.size → (∀ b ∈ got s p k, 127 < b.toNat) → N = M.val (got s p k) → M.rv s.data.toList p f k N = some (n, q) → cutL s.data.toList p q = M.varL n
  | 0, _, _, _, _, _, _, _, _, h => by simp [M.rv] at h
  | f + 1, k, N, n, q, hf, hk, ha, hN, h => by
    rw [M.rv] at h
    cases hb : s.data.toList[p + k]? with
    | none => rw [hb] at h; simp at h
    | some b =>
      have hlt : p + k < s.size := by
        obtain ⟨h1, _⟩ := List.getElem?_eq_some_iff.1 hb
        rw [Array.length_toList] at h1
        exact h1
      have hbb : b = s[p + k] := by
        have := get_l s (p + k) hlt
        rw [hb] at this
        exact Option.some.inj this
      rw [hb] at h
      simp only at h
      have hv : M.val (got s p (k + 1)) = N + b.toNat % 128 * 128 ^ k := by
        rw [got_succ s p k hlt, val_snoc, got_len s p k (by omega), ← hN, hbb]
      split at h
      · rename_i h1
        refine rv_canon s p f (k + 1) _ n q (by omega) (by omega) ?_ hv.symm h
        rw [got_succ s p k hlt]
        intro x hx
        rcases List.mem_append.1 hx with h2 | h2
        · exact ha x h2
        · simp at h2
          subst h2
          rw [← hbb]
          omega
      · rename_i h1
        split at h
        · simp at h
        · rename_i h2
          simp only [Option.some.injEq, Prod.mk.injEq] at h
          obtain ⟨rfl, rfl⟩ := h
          have hc := M.canon 9 (got s p k ++ [s[p + k]]) (shaped_snoc _ _ ha (by rw [← hbb]; omega)) (by simp [got_len s p k (by omega)]; omega)
          rw [← got_succ s p k hlt, hv] at hc
          have h3 := hc.2 (by
            by_cases hk0 : k = 0
            · left
              rw [got_len s p (k + 1) (by omega)]
              omega
            · right
              rw [got_succ s p k hlt]
              simp only [List.getLast?_append, List.getLast?_singleton, Option.some_or, ne_eq, Option.some.injEq]
              intro h0
              apply h2
              left
              rw [hbb, h0]
              exact ⟨rfl, by omega⟩)
          have e : cutL s.data.toList p (p + k + 1) = got s p (k + 1) := by
            unfold cutL got
            have : p + k + 1 - p = k + 1 := by omega
            rw [this]
          rw [e]
          exact h3.symm
theorem read_canon {s : ByteArray} {p n q : Nat} (hp : p ≤ s.size) (h : M.readVar s.data.toList p = some (n, q)) : cutL s.data.toList p q = M.varL n :=
  rv_canon s p 5 0 0 n q rfl (by omega) (by simp [got]) (by simp [got, M.val]) h

theorem piece_len (s : ByteArray) (q n : Nat) (h : q + n ≤ s.size) : (piece s q n).size = n := by
  unfold piece
  rw [ByteArray.size_extract]
  omega
theorem frB_list (t : ByteArray) : (frB t).data.toList = M.varL t.size ++ four (sumN t) ++ t.data.toList := by
  unfold frB varB fourB
  simp [ByteArray.data_append]
theorem frB_size (t : ByteArray) : (frB t).size = (M.varL t.size).length + 4 + t.size := by
  have h : (frB t).data.toList.length = (frB t).size := Array.length_toList
  rw [← h, frB_list]
  simp [four]
  omega

/-- the frame of what was cut out is what it was cut out of just when the sums are the same -/
theorem frame_iff {s : ByteArray} {p n q : Nat} (hp : p ≤ s.size) (h : M.readVar s.data.toList p = some (n, q)) (hq : q + 4 + n ≤ s.size) :
    frB (piece s (q + 4) n) = s.extract p (q + 4 + n) ↔ fourB (sumN (piece s (q + 4) n)) = piece s q 4 := by
  have hlt := read_past _ _ _ _ h
  have hc := read_canon hp h
  have hL : s.data.toList.length = s.size := Array.length_toList
  have e1 : (s.extract p (q + 4 + n)).data.toList = M.varL n ++ cutL s.data.toList q (q + 4) ++ (piece s (q + 4) n).data.toList := by
    rw [extract_cut, ← hc]
    unfold piece
    rw [extract_cut, cutL_join _ p q (q + 4) (by omega) (by omega), cutL_join _ p (q + 4) (q + 4 + n) (by omega) (by omega)]
  have e2 : (piece s q 4).data.toList = cutL s.data.toList q (q + 4) := by unfold piece; rw [extract_cut]
  have e3 := frB_list (piece s (q + 4) n)
  rw [piece_len s (q + 4) n (by omega)] at e3
  constructor
  · intro he
    have h1 : (frB (piece s (q + 4) n)).data.toList = (s.extract p (q + 4 + n)).data.toList := by rw [he]
    rw [e1, e3] at h1
    have h2 := List.append_cancel_right h1
    have h3 := List.append_cancel_left h2
    apply ByteArray.ext
    apply Array.toList_inj.1
    rw [e2, ← h3]
    simp [fourB]
  · intro he
    apply ByteArray.ext
    apply Array.toList_inj.1
    rw [e3, e1, ← e2, ← he]
    simp [fourB]

end Go.Proofs.YthlgohplljcgfaaGreatDoor
