/-
  Texts laid together: Sec, Ta, Pub, Pool, Root.
-/
import Derived.Test.YtmfoliocibjdnaaDoorPkG
import Derived.Test.YtmfoliocibjdnaaDoorPkE
import Derived.Test.YtmfoliocibjdnaaDoorPkB
import Derived.Deep.RegionHeld3
import Derived.Laws.CopyRow
/-
  What SecretOf, LockOf and SignBitsOf answer, the program's and the specification's.
-/
namespace Go.Proofs.YtmfoliocibjdnaaDoor
open Go.RowKit Go.BigFrame
set_option linter.unusedVariables false

theorem hashB_size {k : Int} {l : List ByteArray} (h : tagOk k l = true) : (hashB k l 16).size = 16 := by
  unfold hashB cutH
  rw [if_pos h, if_pos (by omega)]
  unfold cutB
  have := digB_size (tagB k l)
  simp [ByteArray.size_extract]
  omega
theorem hashB_le (k : Int) (l : List ByteArray) : (hashB k l 16).size ≤ 16 := by
  cases h : tagOk k l with
  | true => rw [hashB_size h]; omega
  | false =>
    unfold hashB
    rw [h]
    show 0 ≤ 16
    omega

theorem taggedHash_lit (k : Int) (l : List ByteArray) (n : Nat) (cs : Array Value) (w : World) (g : Nat) (hg : w.heap.size = g) (hn : l.length = n) (hl : n ≤ 60) (hc : cs = (svs l).toArray) (hT : Tb w) :
    Hid (Calls Tryd.prog 97 #[.int .i64 16, .int .i64 k, .slice (some ⟨g, 0, none⟩) n n] (w.alloc (.cells cs 9)) fun e w' => e = .returned (.string (hashB k l 16)) ∧ Below w.heap.size w w') := by
  subst hg
  have hT' := hT.alloc (.cells cs 9)
  exact (taggedHash_any 16 k _ w.heap.size 0 l (w.alloc (.cells cs 9)) (ss_lits w l cs n hn (by omega) hc) hT'.1 hT'.2).mono fun e w' ⟨he, hb⟩ => ⟨he, ((Below.refl _ _).alloc (Nat.le_refl _) _).trans (hb.mono (by simp))⟩
theorem sTagHash_lit (k : Int) (l : List ByteArray) (n : Nat) (cs : Array Value) (w : World) (g : Nat) (hg : w.heap.size = g) (hn : l.length = n) (hl : n ≤ 60) (hc : cs = (svs l).toArray) :
    Hid (Calls Tryd.prog 98 #[.int .i64 k, .slice (some ⟨g, 0, none⟩) n n, .int .i64 16] (w.alloc (.cells cs 9)) fun e w' => e = .returned (.string (hashB k l 16)) ∧ Below w.heap.size w w') := by
  subst hg
  exact (sTagHash_any k _ 16 w.heap.size 0 l (w.alloc (.cells cs 9)) (ss_lits w l cs n hn (by omega) hc)).mono fun e w' ⟨he, hb⟩ => ⟨he, ((Below.refl _ _).alloc (Nat.le_refl _) _).trans (hb.mono (by simp))⟩

/-- what LockOf is -/
def lockB (s : ByteArray) : ByteArray := hashB 6 [s] 16

theorem LockOf_any (s : ByteArray) (w : World) (hT : Tb w) :
    Calls Tryd.prog 42 #[.string s] w fun e w' => e = .returned (.string (lockB s)) ∧ Below w.heap.size w w' := by
  have hc := taggedHash_lit 6 [s] 1 #[.string s] w _ rfl rfl (by omega) rfl hT
  unfold lockB
  generalize hashB 6 [s] 16 = T at *
  clear hT
  go_enter Tryd.func42, Tryd.ntmps42
  go_wp2_with fail
  refine hc.out.mono ?_
  rintro e w1 ⟨rfl, hb1⟩
  go_wp2
  go_ret
  exact ⟨rfl, hb1⟩
theorem sLockOf_any (s : ByteArray) (w : World) :
    Calls Tryd.prog 93 #[.string s] w fun e w' => e = .returned (.string (lockB s)) ∧ Below w.heap.size w w' := by
  have hc := sTagHash_lit 6 [s] 1 #[.string s] w _ rfl rfl (by omega) rfl
  unfold lockB
  generalize hashB 6 [s] 16 = T at *
  go_enter Tryd.func93, Tryd.ntmps93
  go_wp2_with fail
  refine hc.out.mono ?_
  rintro e w1 ⟨rfl, hb1⟩
  go_wp2
  go_ret
  exact ⟨rfl, hb1⟩

/-- what SignBitsOf is -/
def bitsB (s : ByteArray) : Nat := if s.size ≤ 200 then (byte0 (hashB 7 [s] 16)).toNat else 0
theorem bitsB_lt (s : ByteArray) : bitsB s < 256 := by
  unfold bitsB
  split
  · exact UInt8.toNat_lt _
  · omega
theorem tagOk_one (k : Int) (s : ByteArray) (hk : 1 ≤ k ∧ k ≤ 8) : tagOk k [s] = decide (s.size ≤ 200) := by
  unfold tagOk
  rw [decide_eq_true ⟨hk, by simp⟩]
  simp

theorem SignBitsOf_any (s : ByteArray) (w : World) (hT : Tb w) :
    Calls Tryd.prog 27 #[.string s] w fun e w' => e = .returned (.int .i64 (bitsB s : Int)) ∧ Below w.heap.size w w' := by
  have hc := taggedHash_lit 7 [s] 1 #[.string s] w _ rfl rfl (by omega) rfl hT
  have ht := tagOk_one 7 s (by omega)
  unfold bitsB
  by_cases h : s.size ≤ 200
  · rw [if_pos h]
    rw [decide_eq_true h] at ht
    have hz := hashB_size ht
    generalize hashB 7 [s] 16 = D at *
    have hh := run_byte0 D (by omega)
    have hne : (D.toList == []) = false := by
      rw [beq_eq_false_iff_ne]
      intro he
      have : D.toList.length = 0 := by rw [he]; rfl
      rw [ByteArray.toList_eq, Array.length_toList] at this
      have h2 : D.data.size = D.size := rfl
      omega
    generalize byte0 D = b at *
    have hb : b.toNat < 256 := b.toNat_lt
    clear hT ht
    go_enter Tryd.func27, Tryd.ntmps27
    go_wp2_with fail
    refine hc.out.mono ?_
    rintro e w1 ⟨rfl, hb1⟩
    clear hc
    go_wp2
    go_ret
    exact ⟨rfl, hb1⟩
  · rw [if_neg h]
    rw [decide_eq_false h] at ht
    have hz : hashB 7 [s] 16 = ⟨#[]⟩ := by unfold hashB; rw [ht]; rfl
    rw [hz] at hc
    clear hT ht hz
    go_enter Tryd.func27, Tryd.ntmps27
    go_wp2_with fail
    refine hc.out.mono ?_
    rintro e w1 ⟨rfl, hb1⟩
    clear hc
    go_wp2
    go_ret
    exact ⟨rfl, hb1⟩
theorem sSignBitsOf_any (s : ByteArray) (w : World) :
    Calls Tryd.prog 30 #[.string s] w fun e w' => e = .returned (.int .i64 (bitsB s : Int)) ∧ Below w.heap.size w w' := by
  have hc := sTagHash_lit 7 [s] 1 #[.string s] w _ rfl rfl (by omega) rfl
  have ht := tagOk_one 7 s (by omega)
  unfold bitsB
  by_cases h : s.size ≤ 200
  · rw [if_pos h]
    rw [decide_eq_true h] at ht
    have hz := hashB_size ht
    generalize hashB 7 [s] 16 = D at *
    have hh := run_byte0 D (by omega)
    have hne : (D.toList == []) = false := by
      rw [beq_eq_false_iff_ne]
      intro he
      have : D.toList.length = 0 := by rw [he]; rfl
      rw [ByteArray.toList_eq, Array.length_toList] at this
      have h2 : D.data.size = D.size := rfl
      omega
    generalize byte0 D = b at *
    have hb : b.toNat < 256 := b.toNat_lt
    clear ht
    go_enter Tryd.func30, Tryd.ntmps30
    go_wp2_with fail
    refine hc.out.mono ?_
    rintro e w1 ⟨rfl, hb1⟩
    clear hc
    go_wp2
    go_ret
    exact ⟨rfl, hb1⟩
  · rw [if_neg h]
    rw [decide_eq_false h] at ht
    have hz : hashB 7 [s] 16 = ⟨#[]⟩ := by unfold hashB; rw [ht]; rfl
    rw [hz] at hc
    clear ht hz
    go_enter Tryd.func30, Tryd.ntmps30
    go_wp2_with fail
    refine hc.out.mono ?_
    rintro e w1 ⟨rfl, hb1⟩
    clear hc
    go_wp2
    go_ret
    exact ⟨rfl, hb1⟩

theorem inPool_any (x : Int) (w : World) : Calls Tryd.prog 87 #[.int .i64 x] w fun e w' => e = .returned (.bool (decide (0 ≤ x ∧ x ≤ 15))) ∧ w' = w := by
  by_cases h1 : x < 0
  · have hd : decide (0 ≤ x ∧ x ≤ 15) = false := by simp; omega
    rw [hd]
    go_enter Tryd.func87, Tryd.ntmps87
    go_wp2
    go_ret
    exact ⟨rfl, rfl⟩
  · by_cases h2 : x < 16
    · have hd : decide (0 ≤ x ∧ x ≤ 15) = true := by simp; omega
      rw [hd]
      go_enter Tryd.func87, Tryd.ntmps87
      go_wp2
      go_ret
      exact ⟨rfl, rfl⟩
    · have hd : decide (0 ≤ x ∧ x ≤ 15) = false := by simp; omega
      rw [hd]
      go_enter Tryd.func87, Tryd.ntmps87
      go_wp2
      go_ret
      exact ⟨rfl, rfl⟩

/-- three bytes -/
def trip (a b c : Nat) : ByteArray := ⟨[UInt8.ofNat a, UInt8.ofNat b, UInt8.ofNat c].toArray⟩
theorem trip_size (a b c : Nat) : (trip a b c).size = 3 := rfl
theorem three_s (w : World) (a b c : Nat) (ha : a ≤ 255) (hb : b ≤ 255) (hc : c ≤ 255) : (convert 22 9 (.slice (some ⟨w.heap.size, 0, none⟩) 3 3)).run Tryd.prog (w.alloc (.cells #[.int .u8 (a : Int), .int .u8 (b : Int), .int .u8 (c : Int)] 5)) = .ok (.string (trip a b c)) (w.alloc (.cells #[.int .u8 (a : Int), .int .u8 (b : Int), .int .u8 (c : Int)] 5)) := by
  refine run_convert_bytes_back _ 22 9 5 ⟨w.heap.size, 0, none⟩ 3 [UInt8.ofNat a, UInt8.ofNat b, UInt8.ofNat c] Tryd.underlying22 Tryd.underlying5 Tryd.underlying9 ?_
  intro j hj
  have h0 : j = 0 ∨ j = 1 ∨ j = 2 := by simp at hj; omega
  rcases h0 with rfl | rfl | rfl
  · simp [Addr.add]; omega
  · simp [Addr.add]; omega
  · simp [Addr.add]; omega

/-- what SecretOf is at a place, a bit and a val -/
def secB (s : ByteArray) (a b c : Nat) : ByteArray := hashB 5 [s, trip a b c] 16
/-- what SecretOf is at any argument -/
def secA (s : ByteArray) (a b c : Int) : ByteArray := if s.size ≤ 100 ∧ (0 ≤ a ∧ a ≤ 15) ∧ (0 ≤ b ∧ b ≤ 7) ∧ (0 ≤ c ∧ c ≤ 1) then secB s a.toNat b.toNat c.toNat else ⟨#[]⟩
theorem secB_size (s : ByteArray) (a b c : Nat) (h : s.size ≤ 100) : (secB s a b c).size = 16 := by
  unfold secB
  refine hashB_size ?_
  refine tagOk_yes _ _ ⟨by omega, by simp⟩ ?_
  intro m hm
  have h0 : m = 0 ∨ m = 1 := by simp at hm; omega
  rcases h0 with rfl | rfl
  · show s.size ≤ 200
    omega
  · show (trip a b c).size ≤ 200
    rw [trip_size]
    omega
theorem secA_no {s : ByteArray} {a b c : Int} (h : ¬ (s.size ≤ 100 ∧ (0 ≤ a ∧ a ≤ 15) ∧ (0 ≤ b ∧ b ≤ 7) ∧ (0 ≤ c ∧ c ≤ 1))) : secA s a b c = ⟨#[]⟩ := by
  unfold secA
  rw [if_neg h]
theorem secA_yes {s : ByteArray} {a b c : Nat} (h1 : s.size ≤ 100) (h2 : a ≤ 15) (h3 : b ≤ 7) (h4 : c ≤ 1) : secA s a b c = secB s a b c := by
  unfold secA
  rw [if_pos ⟨h1, by omega, by omega, by omega⟩]
  simp

set_option maxRecDepth 100000 in
theorem SecretOf_yes (s : ByteArray) (a b c : Nat) (w : World) (h1 : s.size ≤ 100) (h2 : a ≤ 15) (h3 : b ≤ 7) (h4 : c ≤ 1) (hT : Tb w) :
    Calls Tryd.prog 40 #[.string s, .int .i64 a, .int .i64 b, .int .i64 c] w fun e w' => e = .returned (.string (secB s a b c)) ∧ Below w.heap.size w w' := by
  have hcv := three_s w a b c (by omega) (by omega) (by omega)
  have hc := taggedHash_lit 5 [s, trip a b c] 2 #[.string s, .string (trip a b c)] (w.alloc (.cells #[.int .u8 (a : Int), .int .u8 (b : Int), .int .u8 (c : Int)] 5)) (w.heap.size + 1) (by simp) rfl (by omega) rfl (hT.alloc _)
  have hd : decide ((0 : Int) ≤ (a : Int) ∧ (a : Int) ≤ 15) = true := by simp; omega
  unfold secB
  generalize hashB 5 [s, trip a b c] 16 = T at *
  generalize trip a b c = X at *
  clear hT
  go_enter Tryd.func40, Tryd.ntmps40
  go_wp2_with fail
  refine (inPool_any _ _).mono ?_
  rintro e w1 ⟨rfl, rfl⟩
  rw [hd]
  go_wp2_with fail
  refine hc.out.mono ?_
  rintro e w2 ⟨rfl, hb2⟩
  go_wp2
  go_ret
  exact ⟨rfl, ((Below.refl _ _).alloc (Nat.le_refl _) _).trans (hb2.mono (by simp))⟩
set_option maxRecDepth 100000 in
theorem sSecretOf_yes (s : ByteArray) (a b c : Nat) (w : World) (h1 : s.size ≤ 100) (h2 : a ≤ 15) (h3 : b ≤ 7) (h4 : c ≤ 1) :
    Calls Tryd.prog 43 #[.string s, .int .i64 a, .int .i64 b, .int .i64 c] w fun e w' => e = .returned (.string (secB s a b c)) ∧ Below w.heap.size w w' := by
  have hcv := three_s w a b c (by omega) (by omega) (by omega)
  have hc := sTagHash_lit 5 [s, trip a b c] 2 #[.string s, .string (trip a b c)] (w.alloc (.cells #[.int .u8 (a : Int), .int .u8 (b : Int), .int .u8 (c : Int)] 5)) (w.heap.size + 1) (by simp) rfl (by omega) rfl
  have hd : decide ((0 : Int) ≤ (a : Int) ∧ (a : Int) ≤ 15) = true := by simp; omega
  have hd2 : decide ((0 : Int) ≤ (b : Int) ∧ (b : Int) ≤ 7) = true := by simp; omega
  have hd3 : decide ((0 : Int) ≤ (c : Int) ∧ (c : Int) ≤ 1) = true := by simp; omega
  unfold secB
  generalize hashB 5 [s, trip a b c] 16 = T at *
  generalize trip a b c = X at *
  go_enter Tryd.func43, Tryd.ntmps43
  go_wp2_with fail
  refine (l01In_any _ _ _ _).mono ?_
  rintro e w1 ⟨rfl, rfl⟩
  rw [hd]
  go_wp2_with fail
  refine (l01In_any _ _ _ _).mono ?_
  rintro e w1 ⟨rfl, rfl⟩
  rw [hd2]
  go_wp2_with fail
  refine (l01In_any _ _ _ _).mono ?_
  rintro e w1 ⟨rfl, rfl⟩
  rw [hd3]
  go_wp2_with fail
  refine hc.out.mono ?_
  rintro e w2 ⟨rfl, hb2⟩
  go_wp2
  go_ret
  exact ⟨rfl, ((Below.refl _ _).alloc (Nat.le_refl _) _).trans (hb2.mono (by simp))⟩

theorem SecretOf_no (s : ByteArray) (a b c : Int) (w : World) (hs : s.size ≤ 1100000) (h : ¬ (s.size ≤ 100 ∧ (0 ≤ a ∧ a ≤ 15) ∧ (0 ≤ b ∧ b ≤ 7) ∧ (0 ≤ c ∧ c ≤ 1))) :
    Calls Tryd.prog 40 #[.string s, .int .i64 a, .int .i64 b, .int .i64 c] w fun e w' => e = .returned (.string ⟨#[]⟩) ∧ Below w.heap.size w w' := by
  by_cases h1 : 100 < s.size
  · clear h
    go_enter Tryd.func40, Tryd.ntmps40
    go_wp2
    go_ret
    exact ⟨rfl, Below.refl _ _⟩
  · by_cases h2 : 0 ≤ a ∧ a ≤ 15
    · have hd : decide ((0 : Int) ≤ a ∧ a ≤ 15) = true := decide_eq_true h2
      have h3 : b < 0 ∨ (0 ≤ b ∧ 8 ≤ b) ∨ (0 ≤ b ∧ b < 8 ∧ c < 0) ∨ (0 ≤ b ∧ b < 8 ∧ 0 ≤ c ∧ 1 < c) := by omega
      clear h h2
      rcases h3 with h3 | ⟨h3, h4⟩ | ⟨h3, h4, h5⟩ | ⟨h3, h4, h5, h6⟩
      all_goals
        go_enter Tryd.func40, Tryd.ntmps40
        go_wp2_with fail
        refine (inPool_any _ _).mono ?_
        rintro e w1 ⟨rfl, rfl⟩
        rw [hd]
        go_wp2
        go_ret
        exact ⟨rfl, Below.refl _ _⟩
    · have hd : decide ((0 : Int) ≤ a ∧ a ≤ 15) = false := decide_eq_false h2
      clear h h2
      go_enter Tryd.func40, Tryd.ntmps40
      go_wp2_with fail
      refine (inPool_any _ _).mono ?_
      rintro e w1 ⟨rfl, rfl⟩
      rw [hd]
      go_wp2
      go_ret
      exact ⟨rfl, Below.refl _ _⟩
theorem sSecretOf_no (s : ByteArray) (a b c : Int) (w : World) (hs : s.size ≤ 1100000) (h : ¬ (s.size ≤ 100 ∧ (0 ≤ a ∧ a ≤ 15) ∧ (0 ≤ b ∧ b ≤ 7) ∧ (0 ≤ c ∧ c ≤ 1))) :
    Calls Tryd.prog 43 #[.string s, .int .i64 a, .int .i64 b, .int .i64 c] w fun e w' => e = .returned (.string ⟨#[]⟩) ∧ Below w.heap.size w w' := by
  by_cases h1 : 100 < s.size
  · clear h
    go_enter Tryd.func43, Tryd.ntmps43
    go_wp2
    go_ret
    exact ⟨rfl, Below.refl _ _⟩
  · by_cases h2 : 0 ≤ a ∧ a ≤ 15
    · have hd : decide ((0 : Int) ≤ a ∧ a ≤ 15) = true := decide_eq_true h2
      by_cases h3 : 0 ≤ b ∧ b ≤ 7
      · have hd2 : decide ((0 : Int) ≤ b ∧ b ≤ 7) = true := decide_eq_true h3
        have hd3 : decide ((0 : Int) ≤ c ∧ c ≤ 1) = false := decide_eq_false (by omega)
        clear h h2 h3
        go_enter Tryd.func43, Tryd.ntmps43
        go_wp2_with fail
        refine (l01In_any _ _ _ _).mono ?_
        rintro e w1 ⟨rfl, rfl⟩
        rw [hd]
        go_wp2_with fail
        refine (l01In_any _ _ _ _).mono ?_
        rintro e w1 ⟨rfl, rfl⟩
        rw [hd2]
        go_wp2_with fail
        refine (l01In_any _ _ _ _).mono ?_
        rintro e w1 ⟨rfl, rfl⟩
        rw [hd3]
        go_wp2
        go_ret
        exact ⟨rfl, Below.refl _ _⟩
      · have hd2 : decide ((0 : Int) ≤ b ∧ b ≤ 7) = false := decide_eq_false h3
        clear h h2 h3
        go_enter Tryd.func43, Tryd.ntmps43
        go_wp2_with fail
        refine (l01In_any _ _ _ _).mono ?_
        rintro e w1 ⟨rfl, rfl⟩
        rw [hd]
        go_wp2_with fail
        refine (l01In_any _ _ _ _).mono ?_
        rintro e w1 ⟨rfl, rfl⟩
        rw [hd2]
        go_wp2
        go_ret
        exact ⟨rfl, Below.refl _ _⟩
    · have hd : decide ((0 : Int) ≤ a ∧ a ≤ 15) = false := decide_eq_false h2
      clear h h2
      go_enter Tryd.func43, Tryd.ntmps43
      go_wp2_with fail
      refine (l01In_any _ _ _ _).mono ?_
      rintro e w1 ⟨rfl, rfl⟩
      rw [hd]
      go_wp2
      go_ret
      exact ⟨rfl, Below.refl _ _⟩

theorem SecretOf_any (s : ByteArray) (a b c : Int) (w : World) (hs : s.size ≤ 1100000) (hT : Tb w) :
    Calls Tryd.prog 40 #[.string s, .int .i64 a, .int .i64 b, .int .i64 c] w fun e w' => e = .returned (.string (secA s a b c)) ∧ Below w.heap.size w w' := by
  by_cases h : s.size ≤ 100 ∧ (0 ≤ a ∧ a ≤ 15) ∧ (0 ≤ b ∧ b ≤ 7) ∧ (0 ≤ c ∧ c ≤ 1)
  · obtain ⟨h1, h2, h3, h4⟩ := h
    obtain ⟨a, rfl⟩ := Int.eq_ofNat_of_zero_le h2.1
    obtain ⟨b, rfl⟩ := Int.eq_ofNat_of_zero_le h3.1
    obtain ⟨c, rfl⟩ := Int.eq_ofNat_of_zero_le h4.1
    rw [secA_yes h1 (by omega) (by omega) (by omega)]
    exact SecretOf_yes s a b c w h1 (by omega) (by omega) (by omega) hT
  · rw [secA_no h]
    exact SecretOf_no s a b c w hs h
theorem sSecretOf_any (s : ByteArray) (a b c : Int) (w : World) (hs : s.size ≤ 1100000) :
    Calls Tryd.prog 43 #[.string s, .int .i64 a, .int .i64 b, .int .i64 c] w fun e w' => e = .returned (.string (secA s a b c)) ∧ Below w.heap.size w w' := by
  by_cases h : s.size ≤ 100 ∧ (0 ≤ a ∧ a ≤ 15) ∧ (0 ≤ b ∧ b ≤ 7) ∧ (0 ≤ c ∧ c ≤ 1)
  · obtain ⟨h1, h2, h3, h4⟩ := h
    obtain ⟨a, rfl⟩ := Int.eq_ofNat_of_zero_le h2.1
    obtain ⟨b, rfl⟩ := Int.eq_ofNat_of_zero_le h3.1
    obtain ⟨c, rfl⟩ := Int.eq_ofNat_of_zero_le h4.1
    rw [secA_yes h1 (by omega) (by omega) (by omega)]
    exact sSecretOf_yes s a b c w h1 (by omega) (by omega) (by omega)
  · rw [secA_no h]
    exact sSecretOf_no s a b c w hs h

end Go.Proofs.YtmfoliocibjdnaaDoor
/-
  Arrays of texts by value: made, loaded, stored whole, sliced.
-/
namespace Go.Proofs.YtmfoliocibjdnaaDoor
open Go.RowKit
set_option linter.unusedVariables false

/-- block g is just the array of the texts l -/
def TA (w : World) (g t : Nat) (l : List ByteArray) : Prop := w.heap[g]? = some (.cells (svs l).toArray t (0, 0))
theorem TA.cell {w : World} {g t : Nat} {l : List ByteArray} (h : TA w g t l) (j : Nat) (hj : j < l.length) : w.cell? ⟨g, j, none⟩ = some (.string l[j]) := by
  rw [cell_of_row w g j _ t (0, 0) h]
  simp [svs, List.getElem?_eq_getElem hj]
theorem TA.frozen {w : World} {g t : Nat} {l : List ByteArray} (h : TA w g t l) (j : Nat) : w.frozen? ⟨g, j, none⟩ = false := by
  simp [World.frozen?, show w.heap[g]? = some (.cells (svs l).toArray t (0, 0)) from h]
theorem TA.lt {w : World} {g t : Nat} {l : List ByteArray} (h : TA w g t l) : g < w.heap.size := (Array.getElem?_eq_some_iff.1 h).1
theorem TA.set {w : World} {g t : Nat} {l : List ByteArray} (h : TA w g t l) (i : Nat) (x : ByteArray) : TA (w.setCell ⟨g, i, none⟩ (.string x)) g t (l.set i x) := by
  unfold TA at *
  rw [heap_setCell_same w g i _ t _ h]
  congr 2
  simp [svs, List.map_set]
theorem TA.keep {w w' : World} {g t : Nat} {l : List ByteArray} (h : TA w g t l) (he : w'.heap[g]? = w.heap[g]?) : TA w' g t l := by
  unfold TA at *
  rw [he, h]
theorem TA.below {w w' : World} {g t B : Nat} {l : List ByteArray} (h : TA w g t l) (hb : Below B w w') (hg : g < B) : TA w' g t l := h.keep (hb.block g hg)
theorem TA.later {w w' : World} {g t : Nat} {l : List ByteArray} (h : TA w g t l) (hb : Below w.heap.size w w') : TA w' g t l := h.below hb h.lt
theorem TA.ss {w : World} {g t : Nat} {l : List ByteArray} (h : TA w g t l) (cap n : Nat) (hn : l.length = n) (hl : n ≤ 1100000) : SS w (.slice (some ⟨g, 0, none⟩) n cap) g 0 l := by
  subst hn
  exact ⟨_, cap, rfl, hl, fun _ => rfl, fun j hj => by rw [Nat.zero_add]; exact h.cell j hj⟩
theorem TA.new (w : World) (l : List ByteArray) (t : Nat) : TA (w.alloc (.cells (svs l).toArray t)) w.heap.size t l := Go.heap_alloc_new w _

/-- an array of so many empty texts -/
def zT (n : Nat) : Array Value := (svs (List.replicate n ByteArray.empty)).toArray
theorem zT_size (n : Nat) : (zT n).size = n := by simp [zT, svs]
theorem TA.zero (w : World) (L : List ByteArray) (t n : Nat) (hn : L.length = n) : TA (w.alloc (.cells (zT n) t)) w.heap.size t (srow L 0) := by
  have e : srow L 0 = List.replicate n ByteArray.empty := by unfold srow; rw [hn]; rfl
  rw [e]
  exact TA.new w _ t
theorem svs_one (l : List ByteArray) : (svs l).toArray.all (·.oneCell') = true := by
  rw [Array.all_eq_true]
  intro i hi
  simp [svs]
  rfl
theorem svs_size (l : List ByteArray) : (svs l).toArray.size = l.length := by simp [svs]

theorem zeroP : (Tryd.prog.info? 118).map (fun i => (i.zero, i.size)) = some (some (.agg (zT 16)), 16) := by kernel_rfl
theorem sizeP : (Tryd.prog.info? 118).map (·.size) = some 16 := by kernel_rfl
theorem zeroA : (Tryd.prog.info? 102).map (fun i => (i.zero, i.size)) = some (some (.agg (zT 16)), 16) := by kernel_rfl
theorem sizeA : (Tryd.prog.info? 102).map (·.size) = some 16 := by kernel_rfl

section
variable {w : World} {ops : Array Oper} {rest : List Oper} {o : Oper} {a : Act} {Q : Exit → Act → World → Prop}

theorem wp_allocT (hgd : o.guard = none) (ty : TypeId) (n : Nat) (ho : o.op = .alloc ty) (hz : (Tryd.prog.info? ty).map (fun i => (i.zero, i.size)) = some (some (.agg (zT n)), n))
    (h : wpList Tryd.prog ops Q rest (a.put o.dst (.pointer (some ⟨w.heap.size, 0, none⟩))) (w.alloc (.cells (zT n) ty))) : wpList Tryd.prog ops Q (o :: rest) a w := by
  refine wpList_plain hgd fun K hK => ?_
  have h1 := (zero_of_info hz).1
  have hr : (Instr.alloc ty true (.tuple #[])).run Tryd.prog w = .ok (.pointer (some ⟨w.heap.size, 0, none⟩)) (w.alloc (.cells (zT n) ty)) := by
    unfold Instr.alloc
    simp [h1, newVar, newRow, Value.cells]
  unfold Oper.wp
  simp [execOp, ho, hr, Result.andThen]
  exact hK _ _ h
theorem run_loadT {w : World} {g t n : Nat} {l : List ByteArray} (ty e : TypeId) (hu : Tryd.prog.underlying ty = some (.array n e)) (hi : (Tryd.prog.info? ty).map (·.size) = some n) (hl : l.length = n) (hA : TA w g t l) :
    (Instr.loadAt ty (.pointer (some ⟨g, 0, none⟩))).run Tryd.prog w = .ok (.agg (svs l).toArray) w := by
  simp only [Instr.loadAt, Instr.sureAddr, Sem.run_bind, Sem.run_pure, Result.andThen]
  exact run_loadVar_row w g t ty _ (0, 0) _ hA hu rfl (by rw [svs_size, hl]; exact hi)
theorem wp_loadT (hgd : o.guard = none) (ty : TypeId) (p : Operand) (ho : o.op = .load ty p) (g t n : Nat) (l : List ByteArray) (e : TypeId) (hp : a.eval p = .pointer (some ⟨g, 0, none⟩)) (hA : TA w g t l) (hl : l.length = n)
    (hu : Tryd.prog.underlying ty = some (.array n e)) (hi : (Tryd.prog.info? ty).map (·.size) = some n)
    (h : wpList Tryd.prog ops Q rest (a.put o.dst (.agg (svs l).toArray)) w) : wpList Tryd.prog ops Q (o :: rest) a w := by
  refine wpList_plain hgd fun K hK => ?_
  have hr := run_loadT ty e hu hi hl hA
  unfold Oper.wp
  simp [execOp, ho, hp, hr, Result.andThen]
  exact hK _ _ h
theorem run_storeT {w : World} {g t n : Nat} {l r : List ByteArray} (ty : TypeId) (hi : (Tryd.prog.info? ty).map (·.size) = some n) (hA : TA w g t l) (hl : l.length = n) (hr : r.length = n) :
    (Instr.storeAt ty (.pointer (some ⟨g, 0, none⟩)) (.agg (svs r).toArray)).run Tryd.prog w = .ok () (w.setRow g (svs r).toArray) ∧ TA (w.setRow g (svs r).toArray) g t r := by
  constructor
  · simp only [Instr.storeAt, Instr.sureAddr, Sem.run_bind, Sem.run_pure, Result.andThen]
    exact run_storeVar_row w g t ty _ _ hA (by rw [svs_size, hr]; exact hi) (by rw [svs_size, svs_size, hl, hr]) (svs_one r)
  · exact setRow_heap w g _ _ t _ hA
/-- a whole array over an old one -/
theorem wp_storeT (hgd : o.guard = none) (ty : TypeId) (p v : Operand) (ho : o.op = .store ty p v) (g t n : Nat) (l r : List ByteArray) (hA : TA w g t l) (hl : l.length = n) (hr : r.length = n) (hp : a.eval p = .pointer (some ⟨g, 0, none⟩)) (hv : a.eval v = .agg (svs r).toArray)
    (hi : (Tryd.prog.info? ty).map (·.size) = some n)
    (h : TA (w.setRow g (svs r).toArray) g t r → wpList Tryd.prog ops Q rest (a.put o.dst (.tuple #[])) (w.setRow g (svs r).toArray)) : wpList Tryd.prog ops Q (o :: rest) a w := by
  refine wpList_plain hgd fun K hK => ?_
  obtain ⟨h1, h2⟩ := run_storeT ty hi hA hl hr
  unfold Oper.wp
  simp [execOp, ho, hp, hv, h1, Result.andThen]
  exact hK _ _ (h h2)
/-- a whole array into the block that was made last -/
theorem wp_storeNewT (hgd : o.guard = none) (ty n : Nat) (p v : Operand) (ho : o.op = .store ty p v) (w0 : World) (c : Array Value) (r : List ByteArray) (hw : w = w0.alloc (.cells c ty)) (hc : c.size = n) (hr : r.length = n) (hp : a.eval p = .pointer (some ⟨w0.heap.size, 0, none⟩)) (hv : a.eval v = .agg (svs r).toArray)
    (hi : (Tryd.prog.info? ty).map (·.size) = some n)
    (h : wpList Tryd.prog ops Q rest (a.put o.dst (.tuple #[])) (w0.alloc (.cells (svs r).toArray ty))) : wpList Tryd.prog ops Q (o :: rest) a w := by
  subst hw
  refine wpList_plain hgd fun K hK => ?_
  have h1 := run_storeAt_new (P := Tryd.prog) w0 ty c (svs r).toArray (by rw [svs_size, hr]; exact hi) (by rw [hc, svs_size, hr]) (svs_one r)
  unfold Oper.wp
  simp [execOp, ho, hp, hv, h1, Result.andThen]
  exact hK _ _ h
end

theorem TA.otherRow {w : World} {g t k : Nat} {l : List ByteArray} {R : Array Value} (h : TA w g t l) (hk : g ≠ k) : TA (w.setRow k R) g t l :=
  h.keep (setRow_other w k g R hk)

end Go.Proofs.YtmfoliocibjdnaaDoor
/-
  What PublicOf answers, the program's and the specification's.
-/
namespace Go.Proofs.YtmfoliocibjdnaaDoor
open Go.RowKit Go.BigFrame
set_option linter.unusedVariables false

/-- the sixteen locks of a place -/
def locksL (s : ByteArray) (a : Nat) : List ByteArray := (List.range 16).map fun i => lockB (secB s a (i / 2) (i % 2))
theorem locksL_len (s : ByteArray) (a : Nat) : (locksL s a).length = 16 := by simp [locksL]
theorem locksL_at (s : ByteArray) (a i : Nat) (h : i < (locksL s a).length) : (locksL s a)[i] = lockB (secB s a (i / 2) (i % 2)) := by simp [locksL]
/-- what PublicOf is -/
def pubB (s : ByteArray) (a : Nat) : ByteArray := hashB 6 (locksL s a) 16
def pubA (s : ByteArray) (a : Int) : ByteArray := if s.size ≤ 100 ∧ (0 ≤ a ∧ a ≤ 15) then pubB s a.toNat else ⟨#[]⟩

theorem SecretOf_at (s : ByteArray) (a b c : Nat) (z x y : Int) (w : World) (hz : z = (a : Int)) (hx : x = (b : Int)) (hy : y = (c : Int)) (h1 : s.size ≤ 100) (h2 : a ≤ 15) (h3 : b ≤ 7) (h4 : c ≤ 1) (hT : Tb w) :
    Calls Tryd.prog 40 #[.string s, .int .i64 z, .int .i64 x, .int .i64 y] w fun e w' => e = .returned (.string (secB s a b c)) ∧ Below w.heap.size w w' := by
  subst hx hy hz
  exact SecretOf_yes s a b c w h1 h2 h3 h4 hT
theorem sSecretOf_at (s : ByteArray) (a b c : Nat) (z x y : Int) (w : World) (hz : z = (a : Int)) (hx : x = (b : Int)) (hy : y = (c : Int)) (h1 : s.size ≤ 100) (h2 : a ≤ 15) (h3 : b ≤ 7) (h4 : c ≤ 1) :
    Calls Tryd.prog 43 #[.string s, .int .i64 z, .int .i64 x, .int .i64 y] w fun e w' => e = .returned (.string (secB s a b c)) ∧ Below w.heap.size w w' := by
  subst hx hy hz
  exact sSecretOf_yes s a b c w h1 h2 h3 h4

theorem not_nil {D : ByteArray} (h : 0 < D.size) : (D.toList == []) = false := by
  rw [beq_eq_false_iff_ne]
  intro he
  have : D.toList.length = 0 := by rw [he]; rfl
  rw [ByteArray.toList_eq, Array.length_toList] at this
  have h2 : D.data.size = D.size := rfl
  omega

def PuR (s : ByteArray) (a : Nat) (w : World) (i : Value) (wr : World) : Prop :=
  ∃ m : Nat, m ≤ 16 ∧ i = .int .i64 m ∧ TA wr w.heap.size 102 (srow (locksL s a) m) ∧ Below w.heap.size w wr

set_option maxRecDepth 100000 in
set_option maxHeartbeats 1000000 in
theorem PublicOf_yes (s : ByteArray) (a : Nat) (w : World) (h1 : s.size ≤ 100) (h2 : a ≤ 15) (hT : Tb w) :
    Calls Tryd.prog 44 #[.string s, .int .i64 a] w fun e w' => e = .returned (.string (pubB s a)) ∧ Below w.heap.size w w' := by
  have HT : Hid (Tb w) := hT
  have HST : Hid (PuR s a w (.int .i64 0) (w.alloc (.cells (zT 16) 102))) := ⟨0, by omega, rfl, TA.zero w _ _ 16 (locksL_len s a), (Below.refl _ _).alloc (Nat.le_refl _) _⟩
  have HL : Hid ((locksL s a).length = 16 ∧ ∀ i (h : i < (locksL s a).length), (locksL s a)[i] = lockB (secB s a (i / 2) (i % 2))) := ⟨locksL_len s a, locksL_at s a⟩
  unfold pubB
  generalize hL : locksL s a = L at *
  obtain ⟨T, hTe⟩ : ∃ T, hashB 6 L 16 = T := ⟨_, rfl⟩
  have HTe : Hid (hashB 6 L 16 = T) := hTe
  rw [hTe]
  clear hT hTe
  go_enter Tryd.func44, Tryd.ntmps44
  go_wp2_with (refine wp_allocT rfl 102 16 rfl zeroA ?_)
  go_loopw [8] (fun i wr => PuR s a w i wr) (fun i _ => 16 - (intOf i).toNat)
  case atStart => exact HST.out
  case round =>
    obtain ⟨m, hm, rfl, hta, hbel⟩ := hrel
    rw [hL] at hta
    clear HST
    have hT1 := HT.out.later hbel
    by_cases hlt : m < 16
    · have i1 : (m : Int) < 16 := by omega
      go_wp2_with fail
      refine (SecretOf_at s a (m / 2) (m % 2) _ _ _ _ rfl (by omega) (by omega) h1 h2 (by omega) (by omega) hT1).mono ?_
      rintro e w1 ⟨rfl, hb1⟩
      have hz := not_nil (show 0 < (secB s a (m / 2) (m % 2)).size by rw [secB_size _ _ _ _ h1]; omega)
      have hlk := HL.out.2 m (by rw [HL.out.1]; exact hlt)
      generalize secB s a (m / 2) (m % 2) = S at *
      have hta1 := hta.later hb1
      have b1 := hbel.trans (hb1.mono hbel.size)
      have hT2 := HT.out.later b1
      clear hT1 hta hbel hb1
      go_wp2_with fail
      refine (LockOf_any S _ hT2).mono ?_
      rintro e w2 ⟨rfl, hb2⟩
      have hta2 := hta1.later hb2
      have b2 := b1.trans (hb2.mono b1.size)
      have hl16 : (srow L m).length = 16 := by rw [srow_len _ _ (by rw [HL.out.1]; omega)]; exact HL.out.1
      have c0 := hta2.cell m (by omega)
      have f0 := hta2.frozen m
      have hs := hta2.set m (lockB S)
      rw [← hlk, srow_step L m (by rw [HL.out.1]; exact hlt), hlk] at hs
      have HS : Hid (TA (w2.setCell ⟨w.heap.size, m, none⟩ (.string (lockB S))) w.heap.size 102 (srow L (m + 1)) ∧ Below w.heap.size w (w2.setCell ⟨w.heap.size, m, none⟩ (.string (lockB S)))) := ⟨hs, b2.setCell (p := ⟨w.heap.size, m, none⟩) (Nat.le_refl _) _⟩
      generalize (srow L m)[m]'(by omega) = Y at *
      generalize lockB S = K at *
      clear hs hta2 b2 hb2 hta1 b1 hT2 hlk HL hl16
      go_wp2
      go_roundw
      case rel => exact ⟨m + 1, by omega, by go_num, by rw [hL]; exact HS.out.1, HS.out.2⟩
      case measure => simp [intOf]; omega
    · have hme : m = 16 := by omega
      subst hme
      have e : srow L 16 = L := by have := srow_all L; rw [HL.out.1] at this; exact this
      rw [e] at hta
      have hc := taggedHash_any 16 6 _ _ _ L wr (hta.ss 16 16 HL.out.1 (by omega)) hT1.1 hT1.2
      rw [HTe.out] at hc
      clear hta e hT1
      go_wp2_with fail
      refine hc.mono ?_
      rintro e w1 ⟨rfl, hb1⟩
      go_wp2
      go_ret
      exact ⟨rfl, hbel.trans (hb1.mono hbel.size)⟩

def NoR (w : World) (i : Value) (wr : World) : Prop := i = .int .i64 0 ∧ Below w.heap.size w wr
theorem PublicOf_no (s : ByteArray) (a : Int) (w : World) (hs : s.size ≤ 1100000) (h : ¬ (s.size ≤ 100 ∧ (0 ≤ a ∧ a ≤ 15))) :
    Calls Tryd.prog 44 #[.string s, .int .i64 a] w fun e w' => e = .returned (.string ⟨#[]⟩) ∧ Below w.heap.size w w' := by
  have HS : Hid (∀ W, Calls Tryd.prog 40 #[.string s, .int .i64 a, .int .i64 0, .int .i64 0] W fun e w' => e = .returned (.string ⟨#[]⟩) ∧ Below W.heap.size W w') := fun W => SecretOf_no s a 0 0 W hs (by omega)
  clear h
  go_enter Tryd.func44, Tryd.ntmps44
  go_wp2_with (refine wp_allocT rfl 102 16 rfl zeroA ?_)
  go_loopw [8] (fun i wr => NoR w i wr) (fun i _ => 16 - (intOf i).toNat)
  case atStart => exact ⟨rfl, (Below.refl _ _).alloc (Nat.le_refl _) _⟩
  case round =>
    obtain ⟨rfl, hbel⟩ := hrel
    go_wp2_with fail
    refine (HS.out _).mono ?_
    rintro e w1 ⟨rfl, hb1⟩
    go_wp2
    try rw [Exit.noGoto_ret]
    go_ret
    exact ⟨rfl, hbel.trans (hb1.mono hbel.size)⟩
theorem PublicOf_any (s : ByteArray) (a : Int) (w : World) (hs : s.size ≤ 1100000) (hT : Tb w) :
    Calls Tryd.prog 44 #[.string s, .int .i64 a] w fun e w' => e = .returned (.string (pubA s a)) ∧ Below w.heap.size w w' := by
  unfold pubA
  by_cases h : s.size ≤ 100 ∧ (0 ≤ a ∧ a ≤ 15)
  · rw [if_pos h]
    obtain ⟨h1, h2⟩ := h
    obtain ⟨a, rfl⟩ := Int.eq_ofNat_of_zero_le h2.1
    exact PublicOf_yes s a w h1 (by omega) hT
  · rw [if_neg h]
    exact PublicOf_no s a w hs h

/-- what the outer loop holds, and the inner one -/
def PsO (s : ByteArray) (a : Nat) (w : World) (v i : Value) (wr : World) : Prop :=
  ∃ m : Nat, m ≤ 8 ∧ i = .int .i64 m ∧ OS w.heap.size w wr v ((locksL s a).take (2 * m))
def PsI (s : ByteArray) (a m : Nat) (w : World) (v i : Value) (wr : World) : Prop :=
  ∃ k : Nat, k ≤ 2 ∧ i = .int .i64 k ∧ OS w.heap.size w wr v ((locksL s a).take (2 * m + k))

theorem locks_step (s : ByteArray) (a b c : Nat) (hb : b < 8) (hc : c < 2) : (locksL s a).take (2 * b + c) ++ [lockB (secB s a b c)] = (locksL s a).take (2 * b + (c + 1)) := by
  have hl := locksL_len s a
  have h := locksL_at s a (2 * b + c) (by omega)
  rw [show (2 * b + c) / 2 = b by omega, show (2 * b + c) % 2 = c by omega] at h
  rw [← h, show 2 * b + (c + 1) = (2 * b + c) + 1 by omega]
  exact List.take_append_getElem (by omega)

set_option maxRecDepth 100000 in
set_option maxHeartbeats 1000000 in
theorem sPublicOf_yes (s : ByteArray) (a : Nat) (w : World) (h1 : s.size ≤ 100) (h2 : a ≤ 15) :
    Calls Tryd.prog 111 #[.string s, .int .i64 a] w fun e w' => e = .returned (.string (pubB s a)) ∧ Below w.heap.size w w' := by
  have HST : Hid (PsO s a w (.slice (some ⟨w.heap.size, 0, none⟩) 0 0) (.int .i64 0) (w.alloc (.cells #[] 9))) := ⟨0, by omega, rfl, OS.made w⟩
  unfold pubB
  obtain ⟨T, hTe⟩ : ∃ T, hashB 6 (locksL s a) 16 = T := ⟨_, rfl⟩
  have HTe : Hid (hashB 6 (locksL s a) 16 = T) := hTe
  rw [hTe]
  clear hTe
  go_enter Tryd.func111, Tryd.ntmps111
  go_wp2
  go_loopw [5, 6] (fun v i wr => PsO s a w v i wr) (fun _ i _ => 8 - (intOf i).toNat)
  case atStart => exact HST.out
  case round =>
    obtain ⟨m, hm, rfl, hos⟩ := hrel
    clear HST
    by_cases hlt : m < 8
    · have i1 : (m : Int) < 8 := by omega
      have HS2 : Hid (PsI s a m w u5 (.int .i64 0) wr) := ⟨0, by omega, rfl, hos⟩
      clear hos
      go_wp2
      go_loopw [5, 7] (fun v i wr => PsI s a m w v i wr) (fun _ i _ => 2 - (intOf i).toNat)
      case atStart => exact HS2.out
      case round =>
        obtain ⟨k, hk, rfl, hos⟩ := hrel
        clear HS2
        by_cases hlt2 : k < 2
        · have i2 : (k : Int) < 2 := by omega
          have hst := locks_step s a m k hlt hlt2
          have hll : ((locksL s a).take (2 * m + k)).length ≤ 16 := by rw [List.length_take, locksL_len]; omega
          go_wp2_with fail
          refine (sSecretOf_at s a m k _ _ _ _ rfl rfl rfl h1 h2 (by omega) (by omega)).mono ?_
          rintro e w1 ⟨rfl, hb1⟩
          have hz := not_nil (show 0 < (secB s a m k).size by rw [secB_size _ _ _ _ h1]; omega)
          generalize secB s a m k = S at *
          have hos1 := hos.later hb1
          clear hos hb1
          go_wp2_with fail
          refine (sLockOf_any S _).mono ?_
          rintro e w2 ⟨rfl, hb2⟩
          have hos2 := hos1.later hb2
          have HN : Hid (∀ v W, OS w.heap.size w W v ((locksL s a).take (2 * m + k) ++ [lockB S]) → PsI s a m w v (.int .i64 ((k : Int) + 1)) W) := by
            rw [hst]
            exact fun v W hW => ⟨k + 1, by omega, by simp, hW⟩
          generalize (locksL s a).take (2 * m + k) = X at *
          generalize lockB S = K at *
          clear hos1 hb2 hst
          go_wp2_with (at_builtin; refine wp_appS rfl _ _ rfl w.heap.size w _ X rfl (hos2.alloc _) ⟨w2.heap.size, 0, none⟩ K rfl ?c1 ?c2 ?_)
          case c1 => exact one_text _ _ _
          case c2 => omega
          intro v' w3 hos3
          go_wp2
          go_roundw
          case rel => exact HN.out _ _ hos3
          case measure => simp [intOf]; omega
        · have hke : k = 2 := by omega
          subst hke
          have HN : Hid (PsO s a w _ (.int .i64 ((m : Int) + 1)) wr) := ⟨m + 1, by omega, by simp, by rw [show 2 * (m + 1) = 2 * m + 2 by omega]; exact hos⟩
          clear hos
          go_wp2
          go_roundw
          case rel => exact HN.out
          case measure => simp [intOf]; omega
    · have hme : m = 8 := by omega
      subst hme
      have e : (locksL s a).take (2 * 8) = locksL s a := List.take_of_length_le (by rw [locksL_len]; omega)
      rw [e] at hos
      obtain ⟨g, hss⟩ := hos.ss (by rw [locksL_len]; omega)
      have hc := sTagHash_any 6 _ 16 g 0 (locksL s a) wr hss
      have hbel := hos.2.1
      rw [HTe.out] at hc
      obtain ⟨aa, cc, hv⟩ := own_slice hos.1
      subst hv
      clear hos e hss
      go_wp2_with fail
      refine hc.mono ?_
      rintro e w1 ⟨rfl, hb1⟩
      go_wp2
      go_ret
      exact ⟨rfl, hbel.trans (hb1.mono hbel.size)⟩

theorem sPublicOf_no (s : ByteArray) (a : Int) (w : World) (hs : s.size ≤ 1100000) (h : ¬ (s.size ≤ 100 ∧ (0 ≤ a ∧ a ≤ 15))) :
    Calls Tryd.prog 111 #[.string s, .int .i64 a] w fun e w' => e = .returned (.string ⟨#[]⟩) ∧ Below w.heap.size w w' := by
  have HS : Hid (∀ W, Calls Tryd.prog 43 #[.string s, .int .i64 a, .int .i64 0, .int .i64 0] W fun e w' => e = .returned (.string ⟨#[]⟩) ∧ Below W.heap.size W w') := fun W => sSecretOf_no s a 0 0 W hs (by omega)
  clear h
  go_enter Tryd.func111, Tryd.ntmps111
  go_wp2
  go_loopw [6] (fun i wr => NoR w i wr) (fun i _ => 8 - (intOf i).toNat)
  case atStart => exact ⟨rfl, (Below.refl _ _).alloc (Nat.le_refl _) _⟩
  case round =>
    obtain ⟨rfl, hbel⟩ := hrel
    go_wp2
    go_loopw [7] (fun i wr => NoR w i wr) (fun i _ => 2 - (intOf i).toNat)
    case atStart => exact ⟨rfl, hbel⟩
    case round =>
      obtain ⟨rfl, hbel⟩ := hrel
      go_wp2_with fail
      refine (HS.out _).mono ?_
      rintro e w1 ⟨rfl, hb1⟩
      go_wp2
      try rw [Exit.noGoto_ret]
      go_ret
      exact ⟨rfl, hbel.trans (hb1.mono hbel.size)⟩
theorem sPublicOf_any (s : ByteArray) (a : Int) (w : World) (hs : s.size ≤ 1100000) :
    Calls Tryd.prog 111 #[.string s, .int .i64 a] w fun e w' => e = .returned (.string (pubA s a)) ∧ Below w.heap.size w w' := by
  unfold pubA
  by_cases h : s.size ≤ 100 ∧ (0 ≤ a ∧ a ≤ 15)
  · rw [if_pos h]
    obtain ⟨h1, h2⟩ := h
    obtain ⟨a, rfl⟩ := Int.eq_ofNat_of_zero_le h2.1
    exact sPublicOf_yes s a w h1 (by omega)
  · rw [if_neg h]
    exact sPublicOf_no s a w hs h

end Go.Proofs.YtmfoliocibjdnaaDoor
/-
  What PoolOf answers, and how a row of texts is folded two by two, the program's and the specification's.
-/
namespace Go.Proofs.YtmfoliocibjdnaaDoor
open Go.RowKit Go.BigFrame
set_option linter.unusedVariables false

/-- what PoolOf is -/
def poolL (s : ByteArray) : List ByteArray := (List.range 16).map fun i => pubA s (i : Nat)
theorem poolL_len (s : ByteArray) : (poolL s).length = 16 := by simp [poolL]
theorem poolL_at (s : ByteArray) (i : Nat) (h : i < (poolL s).length) : (poolL s)[i] = pubA s (i : Nat) := by simp [poolL]

def PlR (s : ByteArray) (w : World) (g : Nat) (i : Value) (wr : World) : Prop := ∃ m : Nat, m ≤ 16 ∧ i = .int .i64 m ∧ TB wr g (srow (poolL s) m) ∧ Below w.heap.size w wr

set_option maxRecDepth 100000 in
set_option maxHeartbeats 1000000 in
theorem PoolOf_any (s : ByteArray) (w : World) (hs : s.size ≤ 1100000) (hT : Tb w) :
    Calls Tryd.prog 39 #[.string s] w fun e w' => ∃ g, e = .returned (.slice (some ⟨g, 0, none⟩) 16 16) ∧ w.heap.size ≤ g ∧ TB w' g (poolL s) ∧ Below w.heap.size w w' := by
  have HT : Hid (Tb w) := hT
  obtain ⟨w2, hmk0, hib, hb2, hs2⟩ := TB.made 16 (by omega) w
  have hmk : (Instr.makeSlice 24 (.int .i64 16) (.int .i64 16)).run Tryd.prog w = .ok (.slice (some ⟨w.heap.size, 0, none⟩) 16 16) w2 := hmk0
  have HST : Hid (PlR s w w.heap.size (.int .i64 0) w2) := ⟨0, by omega, rfl, by rw [show srow (poolL s) 0 = List.replicate 16 ByteArray.empty by unfold srow; rw [poolL_len]; rfl]; exact hib, hb2⟩
  have HL : Hid ((poolL s).length = 16 ∧ ∀ i (h : i < (poolL s).length), (poolL s)[i] = pubA s (i : Nat)) := ⟨poolL_len s, poolL_at s⟩
  generalize hL : poolL s = L at *
  clear hib hb2 hs2 hT hmk0
  go_enter Tryd.func39, Tryd.ntmps39
  go_wp2
  clear hmk
  go_loopw [8] (fun i wr => PlR s w w.heap.size i wr) (fun i _ => 16 - (intOf i).toNat)
  case atStart => exact HST.out
  case round =>
    obtain ⟨m, hm, rfl, hib, hbel⟩ := hrel
    rw [hL] at hib
    clear HST
    by_cases hlt : m < 16
    · have i1 : (m : Int) < 16 := by omega
      have i2 : (0 : Int) ≤ (m : Int) := by omega
      have hl16 : (srow L m).length = 16 := by rw [srow_len _ _ (by rw [HL.out.1]; omega)]; exact HL.out.1
      go_wp2_with fail
      refine (PublicOf_any s _ _ hs (HT.out.later hbel)).mono ?_
      rintro e w1 ⟨rfl, hb1⟩
      have hib1 := hib.below hb1 hib.lt
      have b1 := hbel.trans (hb1.mono hbel.size)
      have hlk := HL.out.2 m (by rw [HL.out.1]; exact hlt)
      have c0 := hib1.cell m (by omega)
      have f0 := hib1.frozen m
      have hss := hib1.set m (by omega) (pubA s (m : Nat))
      rw [← hlk, srow_step L m (by rw [HL.out.1]; exact hlt), hlk] at hss
      have HS : Hid (TB (w1.setCell ⟨w.heap.size, m, none⟩ (.string (pubA s (m : Nat)))) w.heap.size (srow L (m + 1)) ∧ Below w.heap.size w (w1.setCell ⟨w.heap.size, m, none⟩ (.string (pubA s (m : Nat))))) := ⟨hss, b1.setCell (p := ⟨w.heap.size, m, none⟩) (Nat.le_refl _) _⟩
      generalize (srow L m)[m]'(by omega) = Y at *
      generalize pubA s (m : Nat) = K at *
      clear hss hib1 hib hbel b1 hb1 hlk HL hl16
      go_wp2
      go_roundw
      case rel => exact ⟨m + 1, by omega, by go_num, by rw [hL]; exact HS.out.1, HS.out.2⟩
      case measure => simp [intOf]; omega
    · have hme : m = 16 := by omega
      subst hme
      have e : srow L 16 = L := by have := srow_all L; rw [HL.out.1] at this; exact this
      rw [e] at hib
      clear e HL
      go_wp2
      go_ret
      exact ⟨w.heap.size, rfl, Nat.le_refl _, hib, hbel⟩

def PlS (s : ByteArray) (w : World) (v i : Value) (wr : World) : Prop := ∃ m : Nat, m ≤ 16 ∧ i = .int .i64 m ∧ OS w.heap.size w wr v ((poolL s).take m)

set_option maxRecDepth 100000 in
set_option maxHeartbeats 1000000 in
theorem sPoolOf_any (s : ByteArray) (w : World) (hs : s.size ≤ 1100000) :
    Calls Tryd.prog 54 #[.string s] w fun e w' => ∃ v, e = .returned v ∧ OS w.heap.size w w' v (poolL s) := by
  have HST : Hid (PlS s w (.slice (some ⟨w.heap.size, 0, none⟩) 0 0) (.int .i64 0) (w.alloc (.cells #[] 9))) := ⟨0, by omega, rfl, OS.made w⟩
  have HL : Hid ((poolL s).length = 16 ∧ ∀ i (h : i < (poolL s).length), (poolL s)[i] = pubA s (i : Nat)) := ⟨poolL_len s, poolL_at s⟩
  generalize hL : poolL s = L at *
  go_enter Tryd.func54, Tryd.ntmps54
  go_wp2
  go_loopw [3, 4] (fun v i wr => PlS s w v i wr) (fun _ i _ => 16 - (intOf i).toNat)
  case atStart => exact HST.out
  case round =>
    obtain ⟨m, hm, rfl, hos⟩ := hrel
    rw [hL] at hos
    clear HST
    by_cases hlt : m < 16
    · have i1 : (m : Int) < 16 := by omega
      go_wp2_with fail
      refine (sPublicOf_any s _ _ hs).mono ?_
      rintro e w1 ⟨rfl, hb1⟩
      have hos1 := hos.later hb1
      have hlk := HL.out.2 m (by rw [HL.out.1]; exact hlt)
      have hll : (L.take m).length ≤ 16 := by rw [List.length_take, HL.out.1]; omega
      have HN : Hid (∀ v W, OS w.heap.size w W v (L.take m ++ [pubA s (m : Nat)]) → PlS s w v (.int .i64 ((m : Int) + 1)) W) := by
        rw [← hlk, List.take_append_getElem]
        exact fun v W hW => ⟨m + 1, by omega, by simp, by rw [hL]; exact hW⟩
      generalize L.take m = X at *
      generalize pubA s (m : Nat) = K at *
      clear hos hb1 hlk HL
      go_wp2_with (at_builtin; refine wp_appS rfl _ _ rfl w.heap.size w _ X rfl (hos1.alloc _) ⟨w1.heap.size, 0, none⟩ K rfl ?c1 ?c2 ?_)
      case c1 => exact one_text _ _ _
      case c2 => omega
      intro v' w3 hos3
      go_wp2
      go_roundw
      case rel => exact HN.out _ _ hos3
      case measure => simp [intOf]; omega
    · have hme : m = 16 := by omega
      subst hme
      have e : L.take 16 = L := List.take_of_length_le (by rw [HL.out.1]; omega)
      rw [e] at hos
      go_wp2
      go_ret
      exact ⟨_, rfl, hos⟩

/-- a place of the row above -/
def upAt (l : List ByteArray) (i : Nat) : ByteArray := hashB 3 [l.getD (2 * i) ByteArray.empty, l.getD (2 * i + 1) ByteArray.empty] 16
/-- the row above -/
def upL (l : List ByteArray) : List ByteArray := (List.range (l.length / 2)).map (upAt l)
theorem upL_len (l : List ByteArray) : (upL l).length = l.length / 2 := by simp [upL]
theorem upL_at (l : List ByteArray) (i : Nat) (h : i < (upL l).length) : (upL l)[i] = upAt l i := by simp [upL]
theorem upAt_eq (l : List ByteArray) (i : Nat) (h : 2 * i + 1 < l.length) : upAt l i = hashB 3 [l[2 * i], l[2 * i + 1]] 16 := by
  unfold upAt
  rw [List.getD_eq_getElem?_getD, List.getD_eq_getElem?_getD, List.getElem?_eq_getElem (by omega), List.getElem?_eq_getElem h]
  rfl

theorem taggedHash_litd (k : Int) (l : List ByteArray) (n : Nat) (cs : Array Value) (w : World) (g : Nat) (hg : w.heap.size = g) (hn : l.length = n) (hl : n ≤ 60) (hc : cs = (svs l).toArray) (hT : Tb w) :
    Hid (Calls Tryd.prog 97 #[.int .i64 16, .int .i64 k, .slice (some ⟨g, 0, none⟩) n n] (w.alloc (.cells cs 9)).drew fun e w' => e = .returned (.string (hashB k l 16)) ∧ Below w.heap.size w w') := by
  have h := taggedHash_lit k l n cs w.drew g hg hn hl hc hT
  exact h.out.mono fun e w' ⟨he, hb⟩ => ⟨he, (Below.refl _ _).drew.trans hb⟩
theorem sTagHash_litd (k : Int) (l : List ByteArray) (n : Nat) (cs : Array Value) (w : World) (g : Nat) (hg : w.heap.size = g) (hn : l.length = n) (hl : n ≤ 60) (hc : cs = (svs l).toArray) :
    Hid (Calls Tryd.prog 98 #[.int .i64 k, .slice (some ⟨g, 0, none⟩) n n, .int .i64 16] (w.alloc (.cells cs 9)).drew fun e w' => e = .returned (.string (hashB k l 16)) ∧ Below w.heap.size w w') := by
  have h := sTagHash_lit k l n cs w.drew g hg hn hl hc
  exact h.out.mono fun e w' ⟨he, hb⟩ => ⟨he, (Below.refl _ _).drew.trans hb⟩

theorem cell_other_set {w : World} {g m : Nat} {u x : Value} {p : Addr} (h : p.block ≠ g) (hc : w.cell? p = some x) : (w.setCell ⟨g, m, none⟩ u).cell? p = some x :=
  (World.cell?_of_block (w := w) (heap_setCell_other w ⟨g, m, none⟩ p.block u h)).trans hc

def RaR (l : List ByteArray) (w : World) (g : Nat) (i : Value) (wr : World) : Prop := ∃ m : Nat, m ≤ l.length / 2 ∧ i = .int .i64 m ∧ TB wr g (srow (upL l) m) ∧ Below w.heap.size w wr

set_option maxRecDepth 100000 in
set_option maxHeartbeats 2000000 in
theorem rowAbove_any (v : Value) (ga oa : Nat) (l : List ByteArray) (w : World) (hv : SS w v ga oa l) (hl : l.length ≤ 1000) (hT : Tb w) :
    Calls Tryd.prog 150 #[v, .int .i64 16] w fun e w' => ∃ g, e = .returned (.slice (some ⟨g, 0, none⟩) (l.length / 2) (l.length / 2)) ∧ w.heap.size ≤ g ∧ TB w' g (upL l) ∧ Below w.heap.size w w' := by
  have HT : Hid (Tb w) := hT
  have hga := hv.lt
  obtain ⟨a, cap, rfl, _, hA, hc⟩ := hv
  obtain ⟨n, hn⟩ : ∃ n, l.length = n := ⟨_, rfl⟩
  obtain ⟨w2, hmk0, hib, hb2, hs2⟩ := TB.made (n / 2) (by omega) w
  have hmk : (Instr.makeSlice 24 (.int .i64 ((n : Int) / 2)) (.int .i64 ((n : Int) / 2))).run Tryd.prog w = .ok (.slice (some ⟨w.heap.size, 0, none⟩) (n / 2) (n / 2)) w2 := by simpa using hmk0
  have HST : Hid (RaR l w w.heap.size (.int .i64 0) w2) := ⟨0, by omega, rfl, by rw [show srow (upL l) 0 = List.replicate (n / 2) ByteArray.empty by unfold srow; rw [upL_len, hn]; rfl]; exact hib, hb2⟩
  have HA : Hid (0 < n → a = some ⟨ga, oa, none⟩ ∧ ga < w.heap.size) := by rw [← hn]; exact fun h => ⟨hA h, hga h⟩
  have HC : Hid (∀ j (h : j < l.length), w.cell? ⟨ga, oa + j, none⟩ = some (.string l[j])) := hc
  have HN : Hid (l.length = n) := hn
  rw [hn] at hl ⊢
  clear hib hb2 hs2 hA hga hc hT hmk0
  go_enter Tryd.func150, Tryd.ntmps150
  go_wp2
  clear hmk
  go_loopw [13] (fun i wr => RaR l w w.heap.size i wr) (fun i _ => n / 2 - (intOf i).toNat)
  case atStart => exact HST.out
  case round =>
    obtain ⟨m, hm, rfl, hib, hbel⟩ := hrel
    rw [hn] at hm
    clear HST hn
    by_cases hlt : m < n / 2
    · obtain ⟨ea, hgw⟩ := HA.out (by omega)
      subst ea
      have i1 : (m : Int) < (n : Int) / 2 := by omega
      have i2 : (0 : Int) ≤ (m : Int) := by omega
      have i3 : 2 * (m : Int) < (n : Int) := by omega
      have i4 : 2 * (m : Int) + 1 < (n : Int) := by omega
      have hu := upAt_eq l m (by rw [HN.out]; omega)
      have c1 : wr.cell? ⟨ga, oa + 2 * m, none⟩ = some (.string (l[2 * m]'(by rw [HN.out]; omega))) := (hbel.cell (p := ⟨ga, oa + 2 * m, none⟩) hgw).trans (HC.out (2 * m) _)
      have c2 : wr.cell? ⟨ga, oa + (2 * m + 1), none⟩ = some (.string (l[2 * m + 1]'(by rw [HN.out]; omega))) := (hbel.cell (p := ⟨ga, oa + (2 * m + 1), none⟩) hgw).trans (HC.out (2 * m + 1) _)
      have hlk := upL_at l m (by rw [upL_len, HN.out]; exact hlt)
      have hst := srow_step (upL l) m (by rw [upL_len, HN.out]; exact hlt)
      have hll : (srow (upL l) m).length = n / 2 := by rw [srow_len _ _ (by rw [upL_len, HN.out]; omega), upL_len, HN.out]
      rw [hlk, hu] at hst
      generalize l[2 * m]'(by rw [HN.out]; omega) = X at *
      generalize l[2 * m + 1]'(by rw [HN.out]; omega) = Y at *
      have HCT := taggedHash_litd 3 [X, Y] 2 #[.string X, .string Y] wr _ rfl rfl (by omega) rfl (HT.out.later hbel)
      generalize hashB 3 [X, Y] 16 = K at *
      clear hu hlk
      have hgr : ga < wr.heap.size := Nat.lt_of_lt_of_le hgw hbel.size
      have hne : ga ≠ w.heap.size := by omega
      have a1 : IntKind.i64.wrap (2 * (m : Int)) = 2 * (m : Int) := IntWalk.i64_in _ (by omega)
      have a2 : IntKind.i64.wrap (2 * (m : Int) + 1) = 2 * (m : Int) + 1 := IntWalk.i64_in _ (by omega)
      have hlt2 := hib.lt
      go_wp2
      have i5 : (0 : Int) ≤ 2 * (m : Int) := by omega
      have i6 : (0 : Int) ≤ 2 * (m : Int) + 1 := by omega
      have t1 : (2 * (m : Int)).toNat = 2 * m := by omega
      have t2 : (2 * (m : Int) + 1).toNat = 2 * m + 1 := by omega
      go_region_held3 (fun W => W.cell? ⟨ga, oa + 2 * m, none⟩ = some (.string X) ∧ W.cell? ⟨ga, oa + (2 * m + 1), none⟩ = some (.string Y)) (first | go_keep | exact ⟨(hb1.cell (p := ⟨ga, oa + 2 * m, none⟩) hgr).trans c1, (hb1.cell (p := ⟨ga, oa + (2 * m + 1), none⟩) hgr).trans c2⟩ | exact ⟨cell_other_set hne ((hb1.cell (p := ⟨ga, oa + 2 * m, none⟩) hgr).trans c1), cell_other_set hne ((hb1.cell (p := ⟨ga, oa + (2 * m + 1), none⟩) hgr).trans c2)⟩) ((go_at_call 97; refine HCT.out.mono ?_; rintro e w1 ⟨rfl, hb1⟩; have hib1 := hib.below hb1 hlt2; have c0 := hib1.cell m (by omega); have f0 := hib1.frozen m))
      have hs := hib1.set m (by omega) K
      rw [hst] at hs
      have HS : Hid (TB (w1.setCell ⟨w.heap.size, m, none⟩ (.string K)) w.heap.size (srow (upL l) (m + 1)) ∧ Below w.heap.size w (w1.setCell ⟨w.heap.size, m, none⟩ (.string K))) := ⟨hs, (hbel.trans (hb1.mono hbel.size)).setCell (p := ⟨w.heap.size, m, none⟩) (Nat.le_refl _) _⟩
      clear hs hib1 c0 f0 hb1
      go_wp2
      go_roundw
      case rel => exact ⟨m + 1, by rw [HN.out]; omega, by go_num, HS.out.1, HS.out.2⟩
      case measure => simp [intOf]; omega
    · have hme : m = n / 2 := by omega
      have e : srow (upL l) m = upL l := by have := srow_all (upL l); rw [upL_len, HN.out, ← hme] at this; exact this
      rw [e] at hib
      subst hme
      clear e
      go_wp2
      go_ret
      exact ⟨w.heap.size, rfl, Nat.le_refl _, hib, hbel⟩

end Go.Proofs.YtmfoliocibjdnaaDoor
/-
  What PoolRoot answers, the program's and the specification's.
-/
namespace Go.Proofs.YtmfoliocibjdnaaDoor
open Go.RowKit Go.BigFrame
set_option linter.unusedVariables false

/-- one text appended, in a region that draws -/
theorem step_appS {w : World} {ops : Array Oper} {o : Oper} {a : Act} {K : Act → World → Prop} {Q : Exit → Act → World → Prop} {E : Prop} (hg : o.guard = none) (s x : Operand)
    (hop : o.op = .call { callee := .builtin .append, args := #[s, x], argTypes := #[24, 24] })
    (B : Nat) (w0 : World) (v : Value) (l : List ByteArray) (hs : a.eval s = v) (hown : OS B w0 w v l)
    (ad : Addr) (t : ByteArray) (hx : a.eval x = .slice (some ad) 1 1) (hnews : w.cell? ad = some (.string t)) (hlen : l.length ≤ 1000000)
    (hK : ∀ v' w', OS B w0 w' v' (l ++ [t]) → w.grownBy w' v.ownBlock → K (a.put o.dst v') w') : if Region.wanted o (yielded ops a.tmps) = true then Oper.wp Tryd.prog o a w K Q else E := by
  obtain ⟨i0, hi, hz0, hz1, hz2⟩ := info_parts Tryd.info9
  have h0 : ∀ j u, [Value.string t][j]? = some u → w.cell? (ad.add j) = some u := by
    intro j u hj
    match j, hj with
    | 0, hj =>
      simp at hj
      subst hj
      have : ad.add 0 = ad := by unfold Addr.add; split <;> simp_all
      rw [this]
      exact hnews
  obtain ⟨v', w', hrun, h1, h2, _⟩ := run_append_own (P := Tryd.prog) w B 24 o.type 9 i0 (.string ByteArray.empty) 1 16 Tryd.underlying24 hi hz0 hz1 hz2 rfl (by decide) v l.length (svs l) hown.1 ad 1 1 [.string t] rfl h0
    (fun u hu => by simp at hu; subst hu; rfl) (by unfold maxLen; omega) (by omega) hown.2.2
  have hOB : OS B w0 w' v' (l ++ [t]) := ⟨by simpa [svs] using h1, hown.2.1.grown h2 hown.2.2 (fun k hk => (hown.1.lt k hk).1), Nat.le_trans hown.2.2 h2.size⟩
  have hw : Region.wanted o (yielded ops a.tmps) = true := by simp [Region.wanted, hg]
  rw [if_pos hw]
  unfold Oper.wp
  simp [execOp, hop, resolve, invoke, builtin, hs, hx, hrun, Result.andThen]
  exact hK v' w' hOB h2

/-- a row of texts appended -/
theorem wp_appRow {w : World} {ops : Array Oper} {rest : List Oper} {o : Oper} {a : Act} {Q : Exit → Act → World → Prop} (hgd : o.guard = none) (s x : Operand)
    (ho : o.op = .call { callee := .builtin .append, args := #[s, x], argTypes := #[24, 24] })
    (B : Nat) (w0 : World) (v u : Value) (l r : List ByteArray) (hs : a.eval s = v) (hown : OS B w0 w v l) (hx : a.eval x = u) (g of : Nat) (hr : SS w u g of r) (h0 : 0 < r.length) (hlen : l.length + r.length ≤ 1000000)
    (h : ∀ v' w', OS B w0 w' v' (l ++ r) → w.grownBy w' v.ownBlock → wpList Tryd.prog ops Q rest (a.put o.dst v') w') : wpList Tryd.prog ops Q (o :: rest) a w := by
  obtain ⟨i0, hi, hz0, hz1, hz2⟩ := info_parts Tryd.info9
  obtain ⟨ao, cap, rfl, _, hA, hc⟩ := hr
  have ea := hA h0
  subst ea
  refine wpList_append_own _ hgd s x 24 ho B 9 i0 (.string ByteArray.empty) 1 16 Tryd.underlying24 hi hz0 hz1 hz2 rfl (by decide) v l.length (svs l) hs hown.1 ⟨g, of, none⟩ r.length cap (svs r) hx (by simp [svs]) ?_
    (fun u hu => by simp [svs] at hu; obtain ⟨b, _, rfl⟩ := hu; rfl) (by unfold maxLen; omega) (by omega) hown.2.2 ?_
  · intro j u hj
    have hj2 : j < r.length := by
      have := (List.getElem?_eq_some_iff.1 hj).1
      simpa [svs] using this
    have e : (⟨g, of, none⟩ : Addr).add j = ⟨g, of + j, none⟩ := by unfold Addr.add; split <;> simp_all
    rw [e, hc j hj2]
    simp [svs, List.getElem?_eq_getElem hj2] at hj
    rw [hj]
  · intro v' w' h1 h2 _
    refine h v' w' ⟨by rw [List.length_append, svs_append]; exact h1, hown.2.1.grown h2 hown.2.2 (fun k hk => (hown.1.lt k hk).1), ?_⟩ h2
    exact Nat.le_trans hown.2.2 h2.size

def LuR (l : List ByteArray) (w : World) (v i : Value) (wr : World) : Prop := ∃ m : Nat, m ≤ l.length / 2 ∧ i = .int .i64 (2 * m : Nat) ∧ OS w.heap.size w wr v ((upL l).take m)

set_option maxRecDepth 100000 in
set_option maxHeartbeats 2000000 in
theorem l05Up_any (v : Value) (ga oa : Nat) (l : List ByteArray) (w : World) (hv : SS w v ga oa l) (hl : l.length ≤ 1000) :
    Calls Tryd.prog 112 #[v] w fun e w' => ∃ u, e = .returned u ∧ OS w.heap.size w w' u (upL l) := by
  have hga := hv.lt
  obtain ⟨a, cap, rfl, _, hA, hc⟩ := hv
  obtain ⟨n, hn⟩ : ∃ n, l.length = n := ⟨_, rfl⟩
  have HST : Hid (LuR l w (.slice (some ⟨w.heap.size, 0, none⟩) 0 0) (.int .i64 0) (w.alloc (.cells #[] 9))) := ⟨0, by omega, rfl, OS.made w⟩
  have HA : Hid (0 < n → a = some ⟨ga, oa, none⟩ ∧ ga < w.heap.size) := by rw [← hn]; exact fun h => ⟨hA h, hga h⟩
  have HC : Hid (∀ j (h : j < l.length), w.cell? ⟨ga, oa + j, none⟩ = some (.string l[j])) := hc
  have HN : Hid (l.length = n) := hn
  rw [hn] at hl ⊢
  clear hA hga hc
  go_enter Tryd.func112, Tryd.ntmps112
  go_wp2
  go_loopw [3, 4] (fun v i wr => LuR l w v i wr) (fun _ i _ => n - (intOf i).toNat)
  case atStart => exact HST.out
  case round =>
    obtain ⟨m, hm, rfl, hos⟩ := hrel
    rw [hn] at hm
    clear HST hn
    have e2 : (((2 * m : Nat)) : Int) = 2 * (m : Int) := by omega
    rw [e2]
    by_cases hlt : m < n / 2
    · obtain ⟨ea, hgw⟩ := HA.out (by omega)
      subst ea
      have hbel := hos.2.1
      have i2 : (0 : Int) ≤ 2 * (m : Int) := by omega
      have i3 : 2 * (m : Int) < (n : Int) := by omega
      have i4 : 2 * (m : Int) + 1 < (n : Int) := by omega
      have i6 : (0 : Int) ≤ 2 * (m : Int) + 1 := by omega
      have t1 : (2 * (m : Int)).toNat = 2 * m := by omega
      have t2 : (2 * (m : Int) + 1).toNat = 2 * m + 1 := by omega
      have a2 : IntKind.i64.wrap (2 * (m : Int) + 1) = 2 * (m : Int) + 1 := IntWalk.i64_in _ (by omega)
      have hu := upAt_eq l m (by rw [HN.out]; omega)
      have c1 : wr.cell? ⟨ga, oa + 2 * m, none⟩ = some (.string (l[2 * m]'(by rw [HN.out]; omega))) := (hbel.cell (p := ⟨ga, oa + 2 * m, none⟩) hgw).trans (HC.out (2 * m) _)
      have c2 : wr.cell? ⟨ga, oa + (2 * m + 1), none⟩ = some (.string (l[2 * m + 1]'(by rw [HN.out]; omega))) := (hbel.cell (p := ⟨ga, oa + (2 * m + 1), none⟩) hgw).trans (HC.out (2 * m + 1) _)
      have c1w := HC.out (2 * m) (by rw [HN.out]; omega)
      have c2w := HC.out (2 * m + 1) (by rw [HN.out]; omega)
      have hlk := upL_at l m (by rw [upL_len, HN.out]; exact hlt)
      have hst : (upL l).take m ++ [(upL l)[m]'(by rw [upL_len, HN.out]; exact hlt)] = (upL l).take (m + 1) := List.take_append_getElem _
      have hll : ((upL l).take m).length ≤ 1000 := by rw [List.length_take, upL_len, HN.out]; omega
      rw [hlk, hu] at hst
      generalize l[2 * m]'(by rw [HN.out]; omega) = X at *
      generalize l[2 * m + 1]'(by rw [HN.out]; omega) = Y at *
      have HCT := sTagHash_litd 3 [X, Y] 2 #[.string X, .string Y] wr _ rfl rfl (by omega) rfl
      generalize hashB 3 [X, Y] 16 = K at *
      have HNX : Hid (∀ v W, OS w.heap.size w W v ((upL l).take m ++ [K]) → LuR l w v (.int .i64 (2 * (m : Int) + 2)) W) := by
        rw [hst]
        exact fun v W hW => ⟨m + 1, by rw [HN.out]; omega, by congr 1, hW⟩
      generalize (upL l).take m = X0 at *
      have hgr : ga < wr.heap.size := Nat.lt_of_lt_of_le hgw hbel.size
      clear hu hlk hst HC HA HN
      go_wp2
      go_region_held3 (fun W => W.cell? ⟨ga, oa + 2 * m, none⟩ = some (.string X) ∧ W.cell? ⟨ga, oa + (2 * m + 1), none⟩ = some (.string Y)) (first | go_keep | exact ⟨(hb1.cell (p := ⟨ga, oa + 2 * m, none⟩) hgr).trans c1, (hb1.cell (p := ⟨ga, oa + (2 * m + 1), none⟩) hgr).trans c2⟩ | exact ⟨(hos2.2.1.cell (p := ⟨ga, oa + 2 * m, none⟩) hgw).trans c1w, (hos2.2.1.cell (p := ⟨ga, oa + (2 * m + 1), none⟩) hgw).trans c2w⟩) ((first | (go_at_call 98; refine HCT.out.mono ?_; rintro e w1 ⟨rfl, hb1⟩) | (refine step_appS rfl _ _ rfl w.heap.size w _ X0 (by rfl) ((hos.later hb1).alloc _) ⟨w1.heap.size, 0, none⟩ K (by rfl) (by exact one_text _ _ _) (by omega) ?_; intro v' w2 hos2 hg2)))
      go_wp2
      go_roundw
      case rel => exact HNX.out _ _ hos2
      case measure => simp [intOf]; omega
    · have hme : m = n / 2 := by omega
      have e : (upL l).take m = upL l := List.take_of_length_le (by rw [upL_len, HN.out]; omega)
      rw [e] at hos
      have i4 : ¬ (2 * (m : Int) + 1 < (n : Int)) := by omega
      clear e
      go_wp2
      go_ret
      exact ⟨_, rfl, hos⟩

/-- so many rows up -/
def upN (l : List ByteArray) : Nat → List ByteArray
  | 0 => l
  | j + 1 => upL (upN l j)
theorem upN_len (l : List ByteArray) (h : l.length = 16) : (upN l 0).length = 16 ∧ (upN l 1).length = 8 ∧ (upN l 2).length = 4 ∧ (upN l 3).length = 2 ∧ (upN l 4).length = 1 := by
  simp [upN, upL_len, h]
theorem upN_pow (l : List ByteArray) (h : l.length = 16) (j : Nat) (hj : j ≤ 4) : (upN l j).length = 16 / 2 ^ j := by
  have := upN_len l h
  have h0 : j = 0 ∨ j = 1 ∨ j = 2 ∨ j = 3 ∨ j = 4 := by omega
  rcases h0 with rfl | rfl | rfl | rfl | rfl
  · exact this.1
  · exact this.2.1
  · exact this.2.2.1
  · exact this.2.2.2.1
  · exact this.2.2.2.2
/-- what PoolRoot is of sixteen texts -/
def rootB (l : List ByteArray) : ByteArray := (upN l 4).getD 0 ByteArray.empty
theorem rootB_eq (l : List ByteArray) (h : 0 < (upN l 4).length) : (upN l 4)[0] = rootB l := by
  unfold rootB
  rw [List.getD_eq_getElem?_getD, List.getElem?_eq_getElem h]
  rfl
def rootA (l : List ByteArray) : ByteArray := if l.length = 16 then rootB l else ⟨#[]⟩

def SrR (l : List ByteArray) (w : World) (v : Value) (wr : World) : Prop := ∃ j : Nat, j ≤ 4 ∧ OS w.heap.size w wr v (upN l j)

theorem OS.up {B : Nat} {w0 w w' : World} {u : Value} {l : List ByteArray} (hb : Below B w0 w) (hB : B ≤ w.heap.size) (h : OS w.heap.size w w' u l) : OS B w0 w' u l := by
  refine ⟨⟨h.1.1, ?_⟩, hb.trans (h.2.1.mono hB), Nat.le_trans hB h.2.2⟩
  rcases h.1.2 with hn | ⟨g, cap, cur, hv, hbg, rest⟩
  · exact .inl hn
  · exact .inr ⟨g, cap, cur, hv, Nat.le_trans hB hbg, rest⟩

set_option maxRecDepth 100000 in
set_option maxHeartbeats 1000000 in
theorem sPoolRoot_yes (v : Value) (ga oa : Nat) (l : List ByteArray) (w : World) (hv : SS w v ga oa l) (hl : l.length = 16) :
    Calls Tryd.prog 46 #[v] w fun e w' => e = .returned (.string (rootB l)) ∧ Below w.heap.size w w' := by
  have hga := hv.lt
  have HV : Hid (SS (w.alloc (.cells #[] 9)) v ga oa l) := hv.below ((Below.refl _ _).alloc (Nat.le_refl _) _) hga
  have HL : Hid (l.length = 16) := hl
  obtain ⟨a, cap, rfl, _, hA, hc⟩ := hv
  rw [hl] at HV ⊢
  clear hA hc hga hl
  go_enter Tryd.func46, Tryd.ntmps46
  go_wp2_with (at_builtin; refine wp_appRow rfl _ _ rfl w.heap.size w _ _ [] l rfl (OS.made w) rfl ga oa HV.out ?c0 ?c1 ?_)
  case c0 => rw [HL.out]; omega
  case c1 => rw [HL.out]; simp
  intro v1 w1 hos1 _
  have HS : Hid (SrR l w v1 w1) := ⟨0, by omega, hos1⟩
  clear hos1 HV
  go_wp2
  go_loopw [3] (fun v wr => SrR l w v wr) (fun v _ => lenOf v)
  case atStart => exact HS.out
  case round =>
    obtain ⟨j, hj, hos⟩ := hrel
    clear HS
    have hln := upN_pow l HL.out j hj
    have hbel := hos.2.1
    have hB := hos.2.2
    by_cases hlt : j < 4
    · obtain ⟨g, hss⟩ := hos.ss (by rw [hln]; exact Nat.le_trans (Nat.div_le_self _ _) (by omega))
      have hc := l05Up_any _ g 0 (upN l j) wr hss (by rw [hln]; exact Nat.le_trans (Nat.div_le_self _ _) (by omega))
      obtain ⟨aa, cc, hvv⟩ := own_slice hos.1
      have hln2 := upN_pow l HL.out (j + 1) (by omega)
      have h1 : 1 < (upN l j).length ∧ (upN l (j + 1)).length < (upN l j).length := by
        rw [hln, hln2]
        have h0 : j = 0 ∨ j = 1 ∨ j = 2 ∨ j = 3 := by omega
        rcases h0 with rfl | rfl | rfl | rfl <;> decide
      obtain ⟨k, hk⟩ : ∃ k, (upN l j).length = k := ⟨_, rfl⟩
      have HK2 : Hid ((upN l (j + 1)).length < k) := by rw [← hk]; exact h1.2
      have h1 := h1.1
      rw [hk] at hvv h1
      subst hvv
      clear hss hos hln hln2
      have q1 : (1 : Int) < (k : Int) := by omega
      go_wp2_with fail
      refine hc.mono ?_
      rintro e w2 ⟨u, rfl, hos2⟩
      have HN : Hid (SrR l w u w2) := ⟨j + 1, by omega, OS.up hbel hB hos2⟩
      obtain ⟨ab, cb, hub⟩ := own_slice hos2.1
      have HU : Hid (lenOf u = (upN l (j + 1)).length) := by rw [hub]; rfl
      clear hos2 hc hbel hB hk hub
      go_wp2
      go_roundw
      case rel => exact HN.out
      case measure => rw [HU.out]; exact HK2.out
    · have hje : j = 4 := by omega
      subst hje
      have h4 := (upN_len l HL.out).2.2.2.2
      have hr := rootB_eq l (by omega)
      have hat : ∀ g cap, u3 = .slice (some ⟨g, 0, none⟩) (upN l 4).length cap → wr.cell? ⟨g, 0, none⟩ = some (.string (rootB l)) := by
        intro g cap he
        subst he
        have := hos.at 0 (by omega)
        rw [hr] at this
        exact this
      rcases hos.shape with ⟨_, hnil⟩ | ⟨g, cap', hv', _, _⟩
      · rw [hnil] at h4
        simp at h4
      · have c0 := hat g cap' hv'
        rw [h4] at hv'
        subst hv'
        clear hat hos h4 hr hln
        go_wp2
        go_ret
        exact ⟨rfl, hbel⟩

theorem sPoolRoot_no (a : Option Addr) (n cap : Nat) (w : World) (h : n ≠ 16) (hn : n ≤ 1100000) :
    Calls Tryd.prog 46 #[.slice a n cap] w fun e w' => e = .returned (.string ⟨#[]⟩) ∧ Below w.heap.size w w' := by
  have q : ((n : Int) != 16) = true := by simp; omega
  clear h
  go_enter Tryd.func46, Tryd.ntmps46
  go_wp2
  go_ret
  exact ⟨rfl, Below.refl _ _⟩
theorem sPoolRoot_any (v : Value) (ga oa : Nat) (l : List ByteArray) (w : World) (hv : SS w v ga oa l) :
    Calls Tryd.prog 46 #[v] w fun e w' => e = .returned (.string (rootA l)) ∧ Below w.heap.size w w' := by
  unfold rootA
  by_cases h : l.length = 16
  · rw [if_pos h]
    exact sPoolRoot_yes v ga oa l w hv h
  · rw [if_neg h]
    obtain ⟨a, cap, rfl, hl, _⟩ := hv
    exact sPoolRoot_no a l.length cap w h hl

end Go.Proofs.YtmfoliocibjdnaaDoor
