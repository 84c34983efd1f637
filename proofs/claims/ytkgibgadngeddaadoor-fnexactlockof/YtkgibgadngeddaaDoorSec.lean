/-
  What SecretOf, LockOf and SignBitsOf answer, the program's and the specification's.
-/
import Derived.Test.YtkgibgadngeddaaDoorTbl
namespace Go.Proofs.YtkgibgadngeddaaDoor
open Go.RowKit Go.BigFrame
set_option linter.unusedVariables false

theorem hashB_size {k : Int} {l : List ByteArray} (h : tagOk k l = true) : (hashB k l 16).size = 16 := by
  unfold hashB cutH
  rw [if_pos h, if_pos (by omega)]
  unfold cutB
  have := digB_size (tagB k l)
  simp [ByteArray.size_extract]
  omega
theorem hashB_le (k : Int) (l : List ByteArray) : (hashB k l 16).size ≤ 16 := by
  cases h : tagOk k l with
  | true => rw [hashB_size h]; omega
  | false =>
    unfold hashB
    rw [h]
    show 0 ≤ 16
    omega

theorem taggedHash_lit (k : Int) (l : List ByteArray) (n : Nat) (cs : Array Value) (w : World) (g : Nat) (hg : w.heap.size = g) (hn : l.length = n) (hl : n ≤ 60) (hc : cs = (svs l).toArray) (hT : Tb w) :
    Hid (Calls Tryd.prog 29 #[.int .i64 16, .int .i64 k, .slice (some ⟨g, 0, none⟩) n n] (w.alloc (.cells cs 9)) fun e w' => e = .returned (.string (hashB k l 16)) ∧ Below w.heap.size w w') := by
  subst hg
  have hT' := hT.alloc (.cells cs 9)
  exact (taggedHash_any 16 k _ w.heap.size 0 l (w.alloc (.cells cs 9)) (ss_lits w l cs n hn (by omega) hc) hT'.1 hT'.2).mono fun e w' ⟨he, hb⟩ => ⟨he, ((Below.refl _ _).alloc (Nat.le_refl _) _).trans (hb.mono (by simp))⟩
theorem sTagHash_lit (k : Int) (l : List ByteArray) (n : Nat) (cs : Array Value) (w : World) (g : Nat) (hg : w.heap.size = g) (hn : l.length = n) (hl : n ≤ 60) (hc : cs = (svs l).toArray) :
    Hid (Calls Tryd.prog 27 #[.int .i64 k, .slice (some ⟨g, 0, none⟩) n n, .int .i64 16] (w.alloc (.cells cs 9)) fun e w' => e = .returned (.string (hashB k l 16)) ∧ Below w.heap.size w w') := by
  subst hg
  exact (sTagHash_any k _ 16 w.heap.size 0 l (w.alloc (.cells cs 9)) (ss_lits w l cs n hn (by omega) hc)).mono fun e w' ⟨he, hb⟩ => ⟨he, ((Below.refl _ _).alloc (Nat.le_refl _) _).trans (hb.mono (by simp))⟩

/-- what LockOf is -/
def lockB (s : ByteArray) : ByteArray := hashB 6 [s] 16

theorem LockOf_any (s : ByteArray) (w : World) (hT : Tb w) :
    Calls Tryd.prog 12 #[.string s] w fun e w' => e = .returned (.string (lockB s)) ∧ Below w.heap.size w w' := by
  have hc := taggedHash_lit 6 [s] 1 #[.string s] w _ rfl rfl (by omega) rfl hT
  unfold lockB
  generalize hashB 6 [s] 16 = T at *
  clear hT
  go_enter Tryd.func12, Tryd.ntmps12
  go_wp2_with fail
  refine hc.out.mono ?_
  rintro e w1 ⟨rfl, hb1⟩
  go_wp2
  go_ret
  exact ⟨rfl, hb1⟩
theorem sLockOf_any (s : ByteArray) (w : World) :
    Calls Tryd.prog 11 #[.string s] w fun e w' => e = .returned (.string (lockB s)) ∧ Below w.heap.size w w' := by
  have hc := sTagHash_lit 6 [s] 1 #[.string s] w _ rfl rfl (by omega) rfl
  unfold lockB
  generalize hashB 6 [s] 16 = T at *
  go_enter Tryd.func11, Tryd.ntmps11
  go_wp2_with fail
  refine hc.out.mono ?_
  rintro e w1 ⟨rfl, hb1⟩
  go_wp2
  go_ret
  exact ⟨rfl, hb1⟩

/-- what SignBitsOf is -/
def bitsB (s : ByteArray) : Nat := if s.size ≤ 200 then (byte0 (hashB 7 [s] 16)).toNat else 0
theorem bitsB_lt (s : ByteArray) : bitsB s < 256 := by
  unfold bitsB
  split
  · exact UInt8.toNat_lt _
  · omega
theorem tagOk_one (k : Int) (s : ByteArray) (hk : 1 ≤ k ∧ k ≤ 8) : tagOk k [s] = decide (s.size ≤ 200) := by
  unfold tagOk
  rw [decide_eq_true ⟨hk, by simp⟩]
  simp

theorem SignBitsOf_any (s : ByteArray) (w : World) (hT : Tb w) :
    Calls Tryd.prog 25 #[.string s] w fun e w' => e = .returned (.int .i64 (bitsB s : Int)) ∧ Below w.heap.size w w' := by
  have hc := taggedHash_lit 7 [s] 1 #[.string s] w _ rfl rfl (by omega) rfl hT
  have ht := tagOk_one 7 s (by omega)
  unfold bitsB
  by_cases h : s.size ≤ 200
  · rw [if_pos h]
    rw [decide_eq_true h] at ht
    have hz := hashB_size ht
    generalize hashB 7 [s] 16 = D at *
    have hh := run_byte0 D (by omega)
    have hne : (D.toList == []) = false := by
      rw [beq_eq_false_iff_ne]
      intro he
      have : D.toList.length = 0 := by rw [he]; rfl
      rw [ByteArray.toList_eq, Array.length_toList] at this
      have h2 : D.data.size = D.size := rfl
      omega
    generalize byte0 D = b at *
    have hb : b.toNat < 256 := b.toNat_lt
    clear hT ht
    go_enter Tryd.func25, Tryd.ntmps25
    go_wp2_with fail
    refine hc.out.mono ?_
    rintro e w1 ⟨rfl, hb1⟩
    clear hc
    go_wp2
    go_ret
    exact ⟨rfl, hb1⟩
  · rw [if_neg h]
    rw [decide_eq_false h] at ht
    have hz : hashB 7 [s] 16 = ⟨#[]⟩ := by unfold hashB; rw [ht]; rfl
    rw [hz] at hc
    clear hT ht hz
    go_enter Tryd.func25, Tryd.ntmps25
    go_wp2_with fail
    refine hc.out.mono ?_
    rintro e w1 ⟨rfl, hb1⟩
    clear hc
    go_wp2
    go_ret
    exact ⟨rfl, hb1⟩
theorem sSignBitsOf_any (s : ByteArray) (w : World) :
    Calls Tryd.prog 24 #[.string s] w fun e w' => e = .returned (.int .i64 (bitsB s : Int)) ∧ Below w.heap.size w w' := by
  have hc := sTagHash_lit 7 [s] 1 #[.string s] w _ rfl rfl (by omega) rfl
  have ht := tagOk_one 7 s (by omega)
  unfold bitsB
  by_cases h : s.size ≤ 200
  · rw [if_pos h]
    rw [decide_eq_true h] at ht
    have hz := hashB_size ht
    generalize hashB 7 [s] 16 = D at *
    have hh := run_byte0 D (by omega)
    have hne : (D.toList == []) = false := by
      rw [beq_eq_false_iff_ne]
      intro he
      have : D.toList.length = 0 := by rw [he]; rfl
      rw [ByteArray.toList_eq, Array.length_toList] at this
      have h2 : D.data.size = D.size := rfl
      omega
    generalize byte0 D = b at *
    have hb : b.toNat < 256 := b.toNat_lt
    clear ht
    go_enter Tryd.func24, Tryd.ntmps24
    go_wp2_with fail
    refine hc.out.mono ?_
    rintro e w1 ⟨rfl, hb1⟩
    clear hc
    go_wp2
    go_ret
    exact ⟨rfl, hb1⟩
  · rw [if_neg h]
    rw [decide_eq_false h] at ht
    have hz : hashB 7 [s] 16 = ⟨#[]⟩ := by unfold hashB; rw [ht]; rfl
    rw [hz] at hc
    clear ht hz
    go_enter Tryd.func24, Tryd.ntmps24
    go_wp2_with fail
    refine hc.out.mono ?_
    rintro e w1 ⟨rfl, hb1⟩
    clear hc
    go_wp2
    go_ret
    exact ⟨rfl, hb1⟩

theorem inPool_any (x : Int) (w : World) : Calls Tryd.prog 28 #[.int .i64 x] w fun e w' => e = .returned (.bool (decide (0 ≤ x ∧ x ≤ 15))) ∧ w' = w := by
  by_cases h1 : x < 0
  · have hd : decide (0 ≤ x ∧ x ≤ 15) = false := by simp; omega
    rw [hd]
    go_enter Tryd.func28, Tryd.ntmps28
    go_wp2
    go_ret
    exact ⟨rfl, rfl⟩
  · by_cases h2 : x < 16
    · have hd : decide (0 ≤ x ∧ x ≤ 15) = true := by simp; omega
      rw [hd]
      go_enter Tryd.func28, Tryd.ntmps28
      go_wp2
      go_ret
      exact ⟨rfl, rfl⟩
    · have hd : decide (0 ≤ x ∧ x ≤ 15) = false := by simp; omega
      rw [hd]
      go_enter Tryd.func28, Tryd.ntmps28
      go_wp2
      go_ret
      exact ⟨rfl, rfl⟩

/-- three bytes -/
def trip (a b c : Nat) : ByteArray := ⟨[UInt8.ofNat a, UInt8.ofNat b, UInt8.ofNat c].toArray⟩
theorem trip_size (a b c : Nat) : (trip a b c).size = 3 := rfl
theorem three_s (w : World) (a b c : Nat) (ha : a ≤ 255) (hb : b ≤ 255) (hc : c ≤ 255) : (convert 38 9 (.slice (some ⟨w.heap.size, 0, none⟩) 3 3)).run Tryd.prog (w.alloc (.cells #[.int .u8 (a : Int), .int .u8 (b : Int), .int .u8 (c : Int)] 5)) = .ok (.string (trip a b c)) (w.alloc (.cells #[.int .u8 (a : Int), .int .u8 (b : Int), .int .u8 (c : Int)] 5)) := by
  refine run_convert_bytes_back _ 38 9 5 ⟨w.heap.size, 0, none⟩ 3 [UInt8.ofNat a, UInt8.ofNat b, UInt8.ofNat c] Tryd.underlying38 Tryd.underlying5 Tryd.underlying9 ?_
  intro j hj
  have h0 : j = 0 ∨ j = 1 ∨ j = 2 := by simp at hj; omega
  rcases h0 with rfl | rfl | rfl
  · simp [Addr.add]; omega
  · simp [Addr.add]; omega
  · simp [Addr.add]; omega

/-- what SecretOf is at a place, a bit and a val -/
def secB (s : ByteArray) (a b c : Nat) : ByteArray := hashB 5 [s, trip a b c] 16
/-- what SecretOf is at any argument -/
def secA (s : ByteArray) (a b c : Int) : ByteArray := if s.size ≤ 100 ∧ (0 ≤ a ∧ a ≤ 15) ∧ (0 ≤ b ∧ b ≤ 7) ∧ (0 ≤ c ∧ c ≤ 1) then secB s a.toNat b.toNat c.toNat else ⟨#[]⟩
theorem secB_size (s : ByteArray) (a b c : Nat) (h : s.size ≤ 100) : (secB s a b c).size = 16 := by
  unfold secB
  refine hashB_size ?_
  refine tagOk_yes _ _ ⟨by omega, by simp⟩ ?_
  intro m hm
  have h0 : m = 0 ∨ m = 1 := by simp at hm; omega
  rcases h0 with rfl | rfl
  · show s.size ≤ 200
    omega
  · show (trip a b c).size ≤ 200
    rw [trip_size]
    omega
theorem secA_no {s : ByteArray} {a b c : Int} (h : ¬ (s.size ≤ 100 ∧ (0 ≤ a ∧ a ≤ 15) ∧ (0 ≤ b ∧ b ≤ 7) ∧ (0 ≤ c ∧ c ≤ 1))) : secA s a b c = ⟨#[]⟩ := by
  unfold secA
  rw [if_neg h]
theorem secA_yes {s : ByteArray} {a b c : Nat} (h1 : s.size ≤ 100) (h2 : a ≤ 15) (h3 : b ≤ 7) (h4 : c ≤ 1) : secA s a b c = secB s a b c := by
  unfold secA
  rw [if_pos ⟨h1, by omega, by omega, by omega⟩]
  simp

set_option maxRecDepth 100000 in
theorem SecretOf_yes (s : ByteArray) (a b c : Nat) (w : World) (h1 : s.size ≤ 100) (h2 : a ≤ 15) (h3 : b ≤ 7) (h4 : c ≤ 1) (hT : Tb w) :
    Calls Tryd.prog 10 #[.string s, .int .i64 a, .int .i64 b, .int .i64 c] w fun e w' => e = .returned (.string (secB s a b c)) ∧ Below w.heap.size w w' := by
  have hcv := three_s w a b c (by omega) (by omega) (by omega)
  have hc := taggedHash_lit 5 [s, trip a b c] 2 #[.string s, .string (trip a b c)] (w.alloc (.cells #[.int .u8 (a : Int), .int .u8 (b : Int), .int .u8 (c : Int)] 5)) (w.heap.size + 1) (by simp) rfl (by omega) rfl (hT.alloc _)
  have hd : decide ((0 : Int) ≤ (a : Int) ∧ (a : Int) ≤ 15) = true := by simp; omega
  unfold secB
  generalize hashB 5 [s, trip a b c] 16 = T at *
  generalize trip a b c = X at *
  clear hT
  go_enter Tryd.func10, Tryd.ntmps10
  go_wp2_with fail
  refine (inPool_any _ _).mono ?_
  rintro e w1 ⟨rfl, rfl⟩
  rw [hd]
  go_wp2_with fail
  refine hc.out.mono ?_
  rintro e w2 ⟨rfl, hb2⟩
  go_wp2
  go_ret
  exact ⟨rfl, ((Below.refl _ _).alloc (Nat.le_refl _) _).trans (hb2.mono (by simp))⟩
set_option maxRecDepth 100000 in
theorem sSecretOf_yes (s : ByteArray) (a b c : Nat) (w : World) (h1 : s.size ≤ 100) (h2 : a ≤ 15) (h3 : b ≤ 7) (h4 : c ≤ 1) :
    Calls Tryd.prog 9 #[.string s, .int .i64 a, .int .i64 b, .int .i64 c] w fun e w' => e = .returned (.string (secB s a b c)) ∧ Below w.heap.size w w' := by
  have hcv := three_s w a b c (by omega) (by omega) (by omega)
  have hc := sTagHash_lit 5 [s, trip a b c] 2 #[.string s, .string (trip a b c)] (w.alloc (.cells #[.int .u8 (a : Int), .int .u8 (b : Int), .int .u8 (c : Int)] 5)) (w.heap.size + 1) (by simp) rfl (by omega) rfl
  have hd : decide ((0 : Int) ≤ (a : Int) ∧ (a : Int) ≤ 15) = true := by simp; omega
  have hd2 : decide ((0 : Int) ≤ (b : Int) ∧ (b : Int) ≤ 7) = true := by simp; omega
  have hd3 : decide ((0 : Int) ≤ (c : Int) ∧ (c : Int) ≤ 1) = true := by simp; omega
  unfold secB
  generalize hashB 5 [s, trip a b c] 16 = T at *
  generalize trip a b c = X at *
  go_enter Tryd.func9, Tryd.ntmps9
  go_wp2_with fail
  refine (l01In_any _ _ _ _).mono ?_
  rintro e w1 ⟨rfl, rfl⟩
  rw [hd]
  go_wp2_with fail
  refine (l01In_any _ _ _ _).mono ?_
  rintro e w1 ⟨rfl, rfl⟩
  rw [hd2]
  go_wp2_with fail
  refine (l01In_any _ _ _ _).mono ?_
  rintro e w1 ⟨rfl, rfl⟩
  rw [hd3]
  go_wp2_with fail
  refine hc.out.mono ?_
  rintro e w2 ⟨rfl, hb2⟩
  go_wp2
  go_ret
  exact ⟨rfl, ((Below.refl _ _).alloc (Nat.le_refl _) _).trans (hb2.mono (by simp))⟩

theorem SecretOf_no (s : ByteArray) (a b c : Int) (w : World) (hs : s.size ≤ 1100000) (h : ¬ (s.size ≤ 100 ∧ (0 ≤ a ∧ a ≤ 15) ∧ (0 ≤ b ∧ b ≤ 7) ∧ (0 ≤ c ∧ c ≤ 1))) :
    Calls Tryd.prog 10 #[.string s, .int .i64 a, .int .i64 b, .int .i64 c] w fun e w' => e = .returned (.string ⟨#[]⟩) ∧ Below w.heap.size w w' := by
  by_cases h1 : 100 < s.size
  · clear h
    go_enter Tryd.func10, Tryd.ntmps10
    go_wp2
    go_ret
    exact ⟨rfl, Below.refl _ _⟩
  · by_cases h2 : 0 ≤ a ∧ a ≤ 15
    · have hd : decide ((0 : Int) ≤ a ∧ a ≤ 15) = true := decide_eq_true h2
      have h3 : b < 0 ∨ (0 ≤ b ∧ 8 ≤ b) ∨ (0 ≤ b ∧ b < 8 ∧ c < 0) ∨ (0 ≤ b ∧ b < 8 ∧ 0 ≤ c ∧ 1 < c) := by omega
      clear h h2
      rcases h3 with h3 | ⟨h3, h4⟩ | ⟨h3, h4, h5⟩ | ⟨h3, h4, h5, h6⟩
      all_goals
        go_enter Tryd.func10, Tryd.ntmps10
        go_wp2_with fail
        refine (inPool_any _ _).mono ?_
        rintro e w1 ⟨rfl, rfl⟩
        rw [hd]
        go_wp2
        go_ret
        exact ⟨rfl, Below.refl _ _⟩
    · have hd : decide ((0 : Int) ≤ a ∧ a ≤ 15) = false := decide_eq_false h2
      clear h h2
      go_enter Tryd.func10, Tryd.ntmps10
      go_wp2_with fail
      refine (inPool_any _ _).mono ?_
      rintro e w1 ⟨rfl, rfl⟩
      rw [hd]
      go_wp2
      go_ret
      exact ⟨rfl, Below.refl _ _⟩
theorem sSecretOf_no (s : ByteArray) (a b c : Int) (w : World) (hs : s.size ≤ 1100000) (h : ¬ (s.size ≤ 100 ∧ (0 ≤ a ∧ a ≤ 15) ∧ (0 ≤ b ∧ b ≤ 7) ∧ (0 ≤ c ∧ c ≤ 1))) :
    Calls Tryd.prog 9 #[.string s, .int .i64 a, .int .i64 b, .int .i64 c] w fun e w' => e = .returned (.string ⟨#[]⟩) ∧ Below w.heap.size w w' := by
  by_cases h1 : 100 < s.size
  · clear h
    go_enter Tryd.func9, Tryd.ntmps9
    go_wp2
    go_ret
    exact ⟨rfl, Below.refl _ _⟩
  · by_cases h2 : 0 ≤ a ∧ a ≤ 15
    · have hd : decide ((0 : Int) ≤ a ∧ a ≤ 15) = true := decide_eq_true h2
      by_cases h3 : 0 ≤ b ∧ b ≤ 7
      · have hd2 : decide ((0 : Int) ≤ b ∧ b ≤ 7) = true := decide_eq_true h3
        have hd3 : decide ((0 : Int) ≤ c ∧ c ≤ 1) = false := decide_eq_false (by omega)
        clear h h2 h3
        go_enter Tryd.func9, Tryd.ntmps9
        go_wp2_with fail
        refine (l01In_any _ _ _ _).mono ?_
        rintro e w1 ⟨rfl, rfl⟩
        rw [hd]
        go_wp2_with fail
        refine (l01In_any _ _ _ _).mono ?_
        rintro e w1 ⟨rfl, rfl⟩
        rw [hd2]
        go_wp2_with fail
        refine (l01In_any _ _ _ _).mono ?_
        rintro e w1 ⟨rfl, rfl⟩
        rw [hd3]
        go_wp2
        go_ret
        exact ⟨rfl, Below.refl _ _⟩
      · have hd2 : decide ((0 : Int) ≤ b ∧ b ≤ 7) = false := decide_eq_false h3
        clear h h2 h3
        go_enter Tryd.func9, Tryd.ntmps9
        go_wp2_with fail
        refine (l01In_any _ _ _ _).mono ?_
        rintro e w1 ⟨rfl, rfl⟩
        rw [hd]
        go_wp2_with fail
        refine (l01In_any _ _ _ _).mono ?_
        rintro e w1 ⟨rfl, rfl⟩
        rw [hd2]
        go_wp2
        go_ret
        exact ⟨rfl, Below.refl _ _⟩
    · have hd : decide ((0 : Int) ≤ a ∧ a ≤ 15) = false := decide_eq_false h2
      clear h h2
      go_enter Tryd.func9, Tryd.ntmps9
      go_wp2_with fail
      refine (l01In_any _ _ _ _).mono ?_
      rintro e w1 ⟨rfl, rfl⟩
      rw [hd]
      go_wp2
      go_ret
      exact ⟨rfl, Below.refl _ _⟩

theorem SecretOf_any (s : ByteArray) (a b c : Int) (w : World) (hs : s.size ≤ 1100000) (hT : Tb w) :
    Calls Tryd.prog 10 #[.string s, .int .i64 a, .int .i64 b, .int .i64 c] w fun e w' => e = .returned (.string (secA s a b c)) ∧ Below w.heap.size w w' := by
  by_cases h : s.size ≤ 100 ∧ (0 ≤ a ∧ a ≤ 15) ∧ (0 ≤ b ∧ b ≤ 7) ∧ (0 ≤ c ∧ c ≤ 1)
  · obtain ⟨h1, h2, h3, h4⟩ := h
    obtain ⟨a, rfl⟩ := Int.eq_ofNat_of_zero_le h2.1
    obtain ⟨b, rfl⟩ := Int.eq_ofNat_of_zero_le h3.1
    obtain ⟨c, rfl⟩ := Int.eq_ofNat_of_zero_le h4.1
    rw [secA_yes h1 (by omega) (by omega) (by omega)]
    exact SecretOf_yes s a b c w h1 (by omega) (by omega) (by omega) hT
  · rw [secA_no h]
    exact SecretOf_no s a b c w hs h
theorem sSecretOf_any (s : ByteArray) (a b c : Int) (w : World) (hs : s.size ≤ 1100000) :
    Calls Tryd.prog 9 #[.string s, .int .i64 a, .int .i64 b, .int .i64 c] w fun e w' => e = .returned (.string (secA s a b c)) ∧ Below w.heap.size w w' := by
  by_cases h : s.size ≤ 100 ∧ (0 ≤ a ∧ a ≤ 15) ∧ (0 ≤ b ∧ b ≤ 7) ∧ (0 ≤ c ∧ c ≤ 1)
  · obtain ⟨h1, h2, h3, h4⟩ := h
    obtain ⟨a, rfl⟩ := Int.eq_ofNat_of_zero_le h2.1
    obtain ⟨b, rfl⟩ := Int.eq_ofNat_of_zero_le h3.1
    obtain ⟨c, rfl⟩ := Int.eq_ofNat_of_zero_le h4.1
    rw [secA_yes h1 (by omega) (by omega) (by omega)]
    exact sSecretOf_yes s a b c w h1 (by omega) (by omega) (by omega)
  · rw [secA_no h]
    exact sSecretOf_no s a b c w hs h

end Go.Proofs.YtkgibgadngeddaaDoor
