/-
  Plain facts on the check sum: its eight steps a byte, the same by half bytes over a table, and that no other byte makes the same sum.
-/
namespace Go.Proofs.YtodibhiinfbhiaaDoor.S
def st (s : Nat) : Nat := if s % 2 = 1 then s / 2 ^^^ 3558460437 else s / 2
def st8 (s : Nat) : Nat := st (st (st (st (st (st (st (st s)))))))
def tab : List Nat := [0x00000000, 0x4589ac8d, 0x8b13591a, 0xce9af597,
  0xbe152a1f, 0xfb9c8692, 0x35067305, 0x708fdf88,
  0xd419cc15, 0x91906098, 0x5f0a950f, 0x1a833982,
  0x6a0ce60a, 0x2f854a87, 0xe11fbf10, 0xa496139d]
def tabAt (r : Nat) : Nat := tab.getD r 0
def step (s : Nat) (b : UInt8) : Nat := st8 (s ^^^ b.toNat)
def crc (s : Nat) (l : List UInt8) : Nat := l.foldl step s

theorem xor_half (a b : Nat) : (a ^^^ b) / 2 = a / 2 ^^^ b / 2 := by
  exact Nat.xor_div_two
theorem xor_odd (a b : Nat) : (a ^^^ b) % 2 = (a % 2 + b % 2) % 2 := by
  have h := @Nat.xor_mod_two_eq_one a b
  have h1 := Nat.mod_two_eq_zero_or_one (a ^^^ b)
  omega
theorem xor_cancel_r {a b c : Nat} (h : a ^^^ c = b ^^^ c) : a = b := by
  have h1 : a ^^^ c ^^^ c = b ^^^ c ^^^ c := by rw [h]
  rw [Nat.xor_assoc, Nat.xor_assoc, Nat.xor_self, Nat.xor_zero, Nat.xor_zero] at h1
  exact h1
theorem xor_cancel_l {a b c : Nat} (h : c ^^^ a = c ^^^ b) : a = b := by
  rw [Nat.xor_comm c a, Nat.xor_comm c b] at h
  exact xor_cancel_r h
theorem st_xor (a b : Nat) : st (a ^^^ b) = st a ^^^ st b := by
  unfold st
  rw [xor_half, xor_odd]
  rcases Nat.mod_two_eq_zero_or_one a with ha | ha <;> rcases Nat.mod_two_eq_zero_or_one b with hb | hb <;> simp [ha, hb]
  · ac_rfl
  · ac_rfl
  · rw [show a / 2 ^^^ 3558460437 ^^^ (b / 2 ^^^ 3558460437) = a / 2 ^^^ b / 2 ^^^ (3558460437 ^^^ 3558460437) by ac_rfl]; simp
theorem st_even (q : Nat) : st (2 * q) = q := by
  unfold st
  rw [if_neg (by omega)]; omega
theorem parts (s : Nat) : s = 16 * (s / 16) ^^^ s % 16 := by
  have h := Nat.two_pow_add_eq_or_of_lt (i := 4) (b := s % 16) (by omega) (s / 16)
  apply Nat.eq_of_testBit_eq
  intro i
  rw [Nat.testBit_xor, show 16 * (s / 16) = 2 ^ 4 * (s / 16) by omega, Nat.testBit_two_pow_mul, show s % 16 = s % 2 ^ 4 by rfl, Nat.testBit_mod_two_pow, show s / 16 = s / 2 ^ 4 by rfl, Nat.testBit_div_two_pow]
  by_cases hi : i < 4
  · have h4 : ¬ 4 ≤ i := by omega
    simp [hi, h4]
  · have h4 : 4 ≤ i := by omega
    simp [hi, h4]
theorem small : ∀ r : Fin 16, st (st (st (st r.val))) = tabAt r.val := by decide +kernel
theorem st4 (s : Nat) : st (st (st (st s))) = s / 16 ^^^ tabAt (s % 16) := by
  have h := small ⟨s % 16, by omega⟩
  simp only at h
  conv => lhs; rw [parts s]
  simp only [st_xor]
  rw [h, show 16 * (s / 16) = 2 * (2 * (2 * (2 * (s / 16)))) by omega]
  simp only [st_even]
theorem st_lt (s : Nat) (h : s < 4294967296) : st s < 4294967296 := by
  unfold st
  split
  · exact Nat.xor_lt_two_pow (n := 32) (by omega) (by omega)
  · omega
theorem st8_lt (s : Nat) (h : s < 4294967296) : st8 s < 4294967296 :=
  st_lt _ (st_lt _ (st_lt _ (st_lt _ (st_lt _ (st_lt _ (st_lt _ (st_lt _ h)))))))
theorem xorb_lt (s : Nat) (b : UInt8) (h : s < 4294967296) : s ^^^ b.toNat < 4294967296 :=
  Nat.xor_lt_two_pow (n := 32) (by omega) (by have := b.toNat_lt; omega)
theorem step_lt (s : Nat) (b : UInt8) (h : s < 4294967296) : step s b < 4294967296 := st8_lt _ (xorb_lt s b h)
theorem crc_lt (l : List UInt8) : ∀ s, s < 4294967296 → crc s l < 4294967296 := by
  induction l with
  | nil => intro s h; exact h
  | cons b l ih => intro s h; exact ih _ (step_lt s b h)
theorem st_inj (a b : Nat) (ha : a < 4294967296) (hb : b < 4294967296) (h : st a = st b) : a = b := by
  have top : ∀ x, x < 4294967296 → (st x).testBit 31 = decide (x % 2 = 1) := by
    intro x hx
    unfold st
    have h0 : (x / 2).testBit 31 = false := Nat.testBit_lt_two_pow (by omega)
    split
    · rename_i h1
      rw [Nat.testBit_xor, h0, h1]; decide
    · rename_i h1
      rw [h0]; simp; omega
  have h1 := top a ha
  have h2 := top b hb
  rw [h, h2] at h1
  simp only [decide_eq_decide] at h1
  unfold st at h
  by_cases ho : a % 2 = 1
  · have ho' := h1.2 ho
    rw [if_pos ho, if_pos ho'] at h
    have : a / 2 = b / 2 := xor_cancel_r h
    omega
  · have ho' : ¬ b % 2 = 1 := fun x => ho (h1.1 x)
    rw [if_neg ho, if_neg ho'] at h
    omega
theorem st8_inj (a b : Nat) (ha : a < 4294967296) (hb : b < 4294967296) (h : st8 a = st8 b) : a = b := by
  unfold st8 at h
  have l1 := st_lt a ha; have l2 := st_lt _ l1; have l3 := st_lt _ l2; have l4 := st_lt _ l3; have l5 := st_lt _ l4; have l6 := st_lt _ l5; have l7 := st_lt _ l6
  have m1 := st_lt b hb; have m2 := st_lt _ m1; have m3 := st_lt _ m2; have m4 := st_lt _ m3; have m5 := st_lt _ m4; have m6 := st_lt _ m5; have m7 := st_lt _ m6
  exact st_inj _ _ ha hb (st_inj _ _ l1 m1 (st_inj _ _ l2 m2 (st_inj _ _ l3 m3 (st_inj _ _ l4 m4 (st_inj _ _ l5 m5 (st_inj _ _ l6 m6 (st_inj _ _ l7 m7 h)))))))
theorem step_inj (a b : Nat) (c : UInt8) (ha : a < 4294967296) (hb : b < 4294967296) (h : step a c = step b c) : a = b :=
  xor_cancel_r (st8_inj _ _ (xorb_lt a c ha) (xorb_lt b c hb) h)
theorem crc_inj (l : List UInt8) : ∀ a b, a < 4294967296 → b < 4294967296 → crc a l = crc b l → a = b := by
  induction l with
  | nil => intro a b _ _ h; exact h
  | cons c l ih => intro a b ha hb h; exact step_inj a b c ha hb (ih _ _ (step_lt a c ha) (step_lt b c hb) h)
theorem step_other (s : Nat) (c d : UInt8) (hs : s < 4294967296) (h : step s c = step s d) : c = d :=
  UInt8.toNat_inj.1 (xor_cancel_l (st8_inj _ _ (xorb_lt s c hs) (xorb_lt s d hs) h))
theorem crc_turned (s : Nat) (pre post : List UInt8) (c d : UInt8) (hs : s < 4294967296) (h : crc s (pre ++ c :: post) = crc s (pre ++ d :: post)) : c = d := by
  unfold crc at h
  rw [List.foldl_append, List.foldl_append] at h
  have hl := crc_lt pre s hs
  exact step_other _ c d hl (crc_inj post _ _ (step_lt _ c hl) (step_lt _ d hl) h)
theorem st8_tab (s : Nat) : st8 s = (s / 16 ^^^ tabAt (s % 16)) / 16 ^^^ tabAt ((s / 16 ^^^ tabAt (s % 16)) % 16) := by
  unfold st8
  rw [st4, st4 s]
end Go.Proofs.YtodibhiinfbhiaaDoor.S
