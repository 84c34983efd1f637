/-
  Texts laid together: Cc, Mathb, Read.
-/
import Derived.Test.YtiabodhgjeoejaaPkC2
import Derived.Laws.RangeAny
import Derived.Lib.OthersKept
import Derived.Lib.QuietBelow
import Derived.Test.YtiabodhgjeoejaaPkC0
import Derived.Test.YtiabodhgjeoejaaPkC1
import Derived.BigQuiet
import Derived.Deep.RegionWith
/-
  When a change is right: the program's and the specification's answers. Names are gone through rune by rune.
-/
namespace Go.Proofs.Ytiabodhgjeoejaa
open Go.RowKit Go.BigFrame Go.Sort
set_option linter.unusedVariables false
set_option linter.unusedSimpArgs false

set_option maxRecDepth 100000 in
set_option maxHeartbeats 400000 in
theorem hasInt_any (a b x : Int) (w : World) : Calls Try.prog 58 #[.agg #[.int .i64 a, .int .i64 b], .int .i64 x] w fun e w' => e = .returned (.bool (decide (a ≤ x ∧ x ≤ b))) ∧ Below w.heap.size w w' := by
  have HB : Hid (Below w.heap.size w (w.alloc (.cells #[.int .i64 a, .int .i64 b] 87))) := (Below.refl _ _).alloc (Nat.le_refl _) _
  by_cases h1 : a ≤ x
  · by_cases h2 : x ≤ b
    · rw [decide_eq_true ⟨h1, h2⟩]
      go_enter Try.func58, Try.ntmps58
      go_wp2
      go_ret
      exact ⟨rfl, HB.out⟩
    · rw [decide_eq_false (fun h => h2 h.2)]
      go_enter Try.func58, Try.ntmps58
      go_wp2
      go_ret
      exact ⟨rfl, HB.out⟩
  · rw [decide_eq_false (fun h => h1 h.1)]
    go_enter Try.func58, Try.ntmps58
    go_wp2
    go_ret
    exact ⟨rfl, HB.out⟩
set_option maxRecDepth 100000 in
set_option maxHeartbeats 400000 in
theorem hasRune_any (a b x : Int) (w : World) : Calls Try.prog 97 #[.agg #[.int .i32 a, .int .i32 b], .int .i32 x] w fun e w' => e = .returned (.bool (decide (a ≤ x ∧ x ≤ b))) ∧ Below w.heap.size w w' := by
  have HB : Hid (Below w.heap.size w (w.alloc (.cells #[.int .i32 a, .int .i32 b] 123))) := (Below.refl _ _).alloc (Nat.le_refl _) _
  by_cases h1 : a ≤ x
  · by_cases h2 : x ≤ b
    · rw [decide_eq_true ⟨h1, h2⟩]
      go_enter Try.func97, Try.ntmps97
      go_wp2
      go_ret
      exact ⟨rfl, HB.out⟩
    · rw [decide_eq_false (fun h => h2 h.2)]
      go_enter Try.func97, Try.ntmps97
      go_wp2
      go_ret
      exact ⟨rfl, HB.out⟩
  · rw [decide_eq_false (fun h => h1 h.1)]
    go_enter Try.func97, Try.ntmps97
    go_wp2
    go_ret
    exact ⟨rfl, HB.out⟩

set_option maxRecDepth 100000 in
set_option maxHeartbeats 400000 in
theorem runeIn_one (b : UInt8) (h : b.toNat < 128) (w : World) : Calls Try.prog 89 #[.int .i32 (b.toNat : Int)] w fun e w' => e = .returned (.bool (nameB b)) ∧ Below w.heap.size w w' := by
  have HB : Hid (Below w.heap.size w (w.alloc (.cells #[.int .i32 0, .int .i32 127] 123))) := (Below.refl _ _).alloc (Nat.le_refl _) _
  have HH : Hid (∀ W, Calls Try.prog 97 #[.agg #[.int .i32 0, .int .i32 127], .int .i32 (b.toNat : Int)] W fun e w' => e = .returned (.bool true) ∧ Below W.heap.size W w') := fun W => (hasRune_any 0 127 b.toNat W).mono fun e w' ⟨he, hw⟩ => ⟨by rw [he, decide_eq_true (by omega)], hw⟩
  have HN : Hid (∀ W, Calls Try.prog 95 #[.int .u8 b.toNat] W fun e w' => e = .returned (.bool (nameB b)) ∧ w' = W) := fun W => inNames_any b W
  generalize nameB b = R at *
  have i1 : (b.toNat : Int) % 256 = (b.toNat : Int) := by omega
  go_enter Try.func89, Try.ntmps89
  go_wp2_with fail
  refine (HH.out _).mono ?_
  rintro e w1 ⟨rfl, hb1⟩
  have b1 := HB.out.trans (hb1.mono HB.out.size)
  clear HB HH hb1
  go_wp2_with fail
  refine (HN.out _).mono ?_
  rintro e w2 ⟨rfl, rfl⟩
  clear HN
  go_wp2
  go_ret
  exact ⟨rfl, b1⟩

set_option maxRecDepth 100000 in
set_option maxHeartbeats 400000 in
theorem runeIn_wide (r : Int) (h : 128 ≤ r) (w : World) : Calls Try.prog 89 #[.int .i32 r] w fun e w' => e = .returned (.bool false) ∧ Below w.heap.size w w' := by
  have HB : Hid (Below w.heap.size w (w.alloc (.cells #[.int .i32 0, .int .i32 127] 123))) := (Below.refl _ _).alloc (Nat.le_refl _) _
  have HH : Hid (∀ W, Calls Try.prog 97 #[.agg #[.int .i32 0, .int .i32 127], .int .i32 r] W fun e w' => e = .returned (.bool false) ∧ Below W.heap.size W w') := fun W => (hasRune_any 0 127 r W).mono fun e w' ⟨he, hw⟩ => ⟨by rw [he, decide_eq_false (by omega)], hw⟩
  go_enter Try.func89, Try.ntmps89
  go_wp2_with fail
  refine (HH.out _).mono ?_
  rintro e w1 ⟨rfl, hb1⟩
  have b1 := HB.out.trans (hb1.mono HB.out.size)
  clear HB HH hb1
  go_wp2
  go_ret
  exact ⟨rfl, b1⟩

theorem nameB_high {b : UInt8} (h : 128 ≤ b.toNat) : nameB b = false := by
  unfold nameB
  rw [decide_eq_false]
  omega
theorem iterPos_of {w : World} {k p : Nat} {s : ByteArray} (h : w.heap[k]? = some (.stringIter s p)) : w.iterPos k = p := by simp [World.iterPos, h]

/-- the first runes, all of one byte each, may be in a name; the reader stands behind them -/
def CnRel (s : ByteArray) (w : World) (g : Nat) (wr : World) : Prop := ∃ k : Nat, k ≤ s.size ∧ wr.heap[g]? = some (.stringIter s k) ∧ Hid (∀ j (h : j < s.size), j < k → nameB s[j] = true) ∧ Below w.heap.size w wr

set_option maxRecDepth 100000 in
set_option maxHeartbeats 1000000 in
theorem changeNameOk_any (s : ByteArray) (w : World) (hs : s.size ≤ 1048576) : Calls Try.prog 59 #[.string s] w fun e w' => e = .returned (.bool (okB nameB s)) ∧ Below w.heap.size w w' := by
  have HB : Hid (Below w.heap.size w (w.alloc (.cells #[.int .i64 1, .int .i64 12] 87))) := (Below.refl _ _).alloc (Nat.le_refl _) _
  have HH : Hid (∀ W, Calls Try.prog 58 #[.agg #[.int .i64 1, .int .i64 12], .int .i64 (s.size : Int)] W fun e w' => e = .returned (.bool (decide ((1 : Int) ≤ (s.size : Int) ∧ (s.size : Int) ≤ 12))) ∧ Below W.heap.size W w') := fun W => hasInt_any 1 12 s.size W
  by_cases hsz : 1 ≤ s.size ∧ s.size ≤ 12
  · rw [decide_eq_true (show (1 : Int) ≤ (s.size : Int) ∧ (s.size : Int) ≤ 12 by omega)] at HH
    obtain ⟨R, hR⟩ : ∃ R, okB nameB s = R := ⟨_, rfl⟩
    rw [hR]
    have HR : Hid (okB nameB s = R) := hR
    clear hR
    go_enter Try.func59, Try.ntmps59
    go_wp2_with fail
    refine (HH.out _).mono ?_
    rintro e w1 ⟨rfl, hb1⟩
    have b1 := HB.out.trans (hb1.mono HB.out.size)
    clear HB HH hb1
    go_wp2
    go_loopw [5] (fun _ wr => CnRel s w w1.heap.size wr) (fun _ wr => s.size - wr.iterPos w1.heap.size)
    case atStart => exact ⟨0, by omega, World.iter_heap w1 s 0, by intro j _ h; omega, b1.alloc b1.size _⟩
    case round =>
      obtain ⟨k, hk, hit, HI, hbw⟩ := hrel
      have hw1 : w.heap.size ≤ w1.heap.size := b1.size
      by_cases hp : k < s.size
      · by_cases ha : (s[k]'hp).toNat < 128
        · have hnx : ∀ ty, (Instr.next (.pointer (some ⟨w1.heap.size, 0, none⟩)) true ty).run Try.prog wr = _ := fun ty => Lib.run_next_ascii_at wr w1.heap.size s k ty hit hp ha
          have HIT : Hid ((wr.iterAt w1.heap.size s (k + 1)).heap[w1.heap.size]? = some (.stringIter s (k + 1)) ∧ Below w.heap.size w (wr.iterAt w1.heap.size s (k + 1)) ∧ wr.iterPos w1.heap.size = k) := ⟨Lib.iterAt_heap wr w1.heap.size s k (k + 1) hit, Lib.below_iterAt hbw (k := w1.heap.size) hw1 s (k + 1), iterPos_of hit⟩
          have HC : Hid (∀ W, Calls Try.prog 89 #[.int .i32 ((s[k]'hp).toNat : Int)] W fun e w' => e = .returned (.bool (nameB (s[k]'hp))) ∧ Below W.heap.size W w') := fun W => runeIn_one _ ha W
          obtain ⟨p, hp1⟩ : ∃ p, nameB (s[k]'hp) = p := ⟨_, rfl⟩
          have HP : Hid (nameB (s[k]'hp) = p) := hp1
          simp only [hp1] at HC
          clear hp1 hit hbw b1
          generalize wr.iterAt w1.heap.size s (k + 1) = W2 at *
          go_wp2_with fail
          refine (HC.out _).mono ?_
          rintro e w3 ⟨rfl, hb3⟩
          have b3 := HIT.out.2.1.trans (hb3.mono HIT.out.2.1.size)
          have hit3 : w3.heap[w1.heap.size]? = some (.stringIter s (k + 1)) := (hb3.block _ (Array.getElem?_eq_some_iff.1 HIT.out.1).1).trans HIT.out.1
          clear HC hb3 hnx
          cases p
          · have hR : R = false := by rw [← HR.out]; exact okB_bad _ _ k hp HP.out
            subst hR
            clear HI HIT HP HR hit3
            go_wp2
            try rw [Exit.noGoto_ret]
            go_ret
            exact ⟨rfl, b3⟩
          · go_wp2
            go_roundw
            case rel => exact ⟨k + 1, by omega, hit3, NmRel.step hp HP.out HI.out, b3⟩
            case measure =>
              rw [iterPos_of hit3, HIT.out.2.2]
              omega
        · have hnx : ∀ ty, (Instr.next (.pointer (some ⟨w1.heap.size, 0, none⟩)) true ty).run Try.prog wr = _ := fun ty => Lib.run_next_any_at wr w1.heap.size s k ty hit hp
          have HB2 : Hid (Below w.heap.size w (wr.iterAt w1.heap.size s (k + (Utf8.decode s k).2))) := Lib.below_iterAt hbw (k := w1.heap.size) hw1 s _
          have hd := (decode_high s k hp (by omega)).1
          have HC : Hid (∀ W, Calls Try.prog 89 #[.int .i32 ((Utf8.decode s k).1 : Int)] W fun e w' => e = .returned (.bool false) ∧ Below W.heap.size W w') := fun W => runeIn_wide _ (by omega) W
          have hR : R = false := by rw [← HR.out]; exact okB_bad _ _ k hp (nameB_high (by omega))
          subst hR
          clear hit hbw b1 HI HR hd
          generalize wr.iterAt w1.heap.size s (k + (Utf8.decode s k).2) = W2 at *
          generalize (Utf8.decode s k).1 = r at *
          go_wp2_with fail
          refine (HC.out _).mono ?_
          rintro e w3 ⟨rfl, hb3⟩
          have b3 := HB2.out.trans (hb3.mono HB2.out.size)
          clear HC hb3 hnx HB2
          go_wp2
          try rw [Exit.noGoto_ret]
          go_ret
          exact ⟨rfl, b3⟩
      · have hnx : ∀ ty, (Instr.next (.pointer (some ⟨w1.heap.size, 0, none⟩)) true ty).run Try.prog wr = _ := fun ty => Lib.run_next_end_at wr w1.heap.size s k ty hit hp
        have hR : R = true := by rw [← HR.out, okB_good _ _ (fun j h => HI.out j h (by omega))]; exact decide_eq_true hsz
        subst hR
        clear hit HI HR b1
        go_wp2
        go_ret
        exact ⟨rfl, hbw⟩
  · rw [decide_eq_false (show ¬ ((1 : Int) ≤ (s.size : Int) ∧ (s.size : Int) ≤ 12) by omega)] at HH
    rw [okB_len _ _ hsz]
    clear hsz
    go_enter Try.func59, Try.ntmps59
    go_wp2_with fail
    refine (HH.out _).mono ?_
    rintro e w1 ⟨rfl, hb1⟩
    have b1 := HB.out.trans (hb1.mono HB.out.size)
    clear HB HH hb1
    go_wp2
    go_ret
    exact ⟨rfl, b1⟩

theorem drops_any (x : Ug) (w : World) : Calls Try.prog 43 #[.agg #[.int .i64 x.i, .string x.n, .string x.v]] w fun e w' => e = .returned (.bool x.v.toList.isEmpty) ∧ Below w.heap.size w w' := by
  obtain ⟨i, n, v⟩ := x
  have HB : Hid (Below w.heap.size w (w.alloc (.cells #[.int .i64 i, .string n, .string v] 31))) := (Below.refl _ _).alloc (Nat.le_refl _) _
  simp only
  cases hv : v.toList.isEmpty
  all_goals
    go_enter Try.func43, Try.ntmps43
    go_wp2
    go_ret
    exact ⟨rfl, HB.out⟩

set_option maxRecDepth 100000 in
set_option maxHeartbeats 1000000 in
theorem ChangeOk_any (x : Ug) (w : World) (hn : x.n.size ≤ 1048576) (hv : x.v.size ≤ 1048576) : Calls Try.prog 22 #[.agg #[.int .i64 x.i, .string x.n, .string x.v]] w fun e w' => e = .returned (.bool (UV.okU x)) ∧ Below w.heap.size w w' := by
  have HH : Hid (∀ W, Calls Try.prog 58 #[.agg #[.int .i64 1, .int .i64 99], .int .i64 x.i] W fun e w' => e = .returned (.bool (decide (1 ≤ x.i ∧ x.i ≤ 99))) ∧ Below W.heap.size W w') := fun W => hasInt_any 1 99 x.i W
  have HN : Hid (∀ W, Calls Try.prog 59 #[.string x.n] W fun e w' => e = .returned (.bool (okB nameB x.n)) ∧ Below W.heap.size W w') := fun W => changeNameOk_any x.n W hn
  have HD : Hid (∀ W, Calls Try.prog 43 #[.agg #[.int .i64 x.i, .string x.n, .string x.v]] W fun e w' => e = .returned (.bool x.v.toList.isEmpty) ∧ Below W.heap.size W w') := fun W => drops_any x W
  have HV : Hid (∀ W, Calls Try.prog 60 #[.string x.v] W fun e w' => e = .returned (.bool (okB valB x.v)) ∧ w' = W) := fun W => ValueOk_any x.v W hv
  unfold UV.okU UV.vOk
  generalize okB nameB x.n = b2 at *
  generalize okB valB x.v = b4 at *
  generalize x.v.toList.isEmpty = b3 at *
  generalize decide (1 ≤ x.i ∧ x.i ≤ 99) = b1 at *
  obtain ⟨i, n, v⟩ := x
  simp only at HH HN HD HV ⊢
  have HW : Hid (BU ((w.alloc (.cells #[.int .i64 i, .string n, .string v] 31)).alloc (.cells #[.int .i64 1, .int .i64 99] 87)) w.heap.size ⟨i, n, v⟩ ∧ Below w.heap.size w ((w.alloc (.cells #[.int .i64 i, .string n, .string v] 31)).alloc (.cells #[.int .i64 1, .int .i64 99] 87))) := ⟨alloc_snd _ _ _ rfl, ((Below.refl _ _).alloc (Nat.le_refl _) _).alloc (by simp) _⟩
  go_enter Try.func22, Try.ntmps22
  go_wp2_with fail
  refine (HH.out _).mono ?_
  rintro e w1 ⟨rfl, hb1⟩
  have HW1 : Hid (BU w1 w.heap.size ⟨i, n, v⟩ ∧ Below w.heap.size w w1) := ⟨HW.out.1.later hb1, HW.out.2.trans (hb1.mono HW.out.2.size)⟩
  clear HH HW hb1
  cases b1
  · clear HN HD HV
    go_wp2
    go_ret
    exact ⟨rfl, HW1.out.2⟩
  have z1 := HW1.out.1.c1
  simp only at z1
  go_wp2_with fail
  refine (HN.out _).mono ?_
  rintro e w2 ⟨rfl, hb2⟩
  have HW2 : Hid (BU w2 w.heap.size ⟨i, n, v⟩ ∧ Below w.heap.size w w2) := ⟨HW1.out.1.later hb2, HW1.out.2.trans (hb2.mono HW1.out.2.size)⟩
  clear HN HW1 hb2 z1
  cases b2
  · clear HD HV
    go_wp2
    go_ret
    exact ⟨rfl, HW2.out.2⟩
  have z0 := HW2.out.1.c0
  have z1 := HW2.out.1.c1
  have z2 := HW2.out.1.c2
  simp only at z0 z1 z2
  go_wp2_with fail
  refine (HD.out _).mono ?_
  rintro e w3 ⟨rfl, hb3⟩
  have HW3 : Hid (BU w3 w.heap.size ⟨i, n, v⟩ ∧ Below w.heap.size w w3) := ⟨HW2.out.1.later hb3, HW2.out.2.trans (hb3.mono HW2.out.2.size)⟩
  clear HD HW2 hb3 z0 z1 z2
  cases b3
  · have z2 := HW3.out.1.c2
    simp only at z2
    go_wp2_with fail
    refine (HV.out _).mono ?_
    rintro e w4 ⟨rfl, rfl⟩
    clear HV z2
    go_wp2
    go_ret
    exact ⟨rfl, HW3.out.2⟩
  · clear HV
    go_wp2
    go_ret
    exact ⟨rfl, HW3.out.2⟩

set_option maxRecDepth 100000 in
set_option maxHeartbeats 1000000 in
theorem sChangeOk_any (x : Ug) (w : World) (hn : x.n.size ≤ 1048576) (hv : x.v.size ≤ 1048576) : Calls Try.prog 23 #[.agg #[.int .i64 x.i, .string x.n, .string x.v]] w fun e w' => e = .returned (.bool (UV.okU x)) ∧ Below w.heap.size w w' := by
  have HH : Hid (∀ W, Calls Try.prog 61 #[.int .i64 x.i, .int .i64 1, .int .i64 99] W fun e w' => e = .returned (.bool (decide (1 ≤ x.i ∧ x.i ≤ 99))) ∧ w' = W) := fun W => l01In_any x.i 1 99 W
  have HN : Hid (∀ W, Calls Try.prog 62 #[.string x.n] W fun e w' => e = .returned (.bool (okB nameB x.n)) ∧ w' = W) := fun W => sNameOk_any x.n W hn
  have HV : Hid (∀ W, Calls Try.prog 63 #[.string x.v] W fun e w' => e = .returned (.bool (okB valB x.v)) ∧ w' = W) := fun W => sValueOk_any x.v W hv
  unfold UV.okU UV.vOk
  generalize okB nameB x.n = b2 at *
  generalize okB valB x.v = b4 at *
  obtain ⟨b3, hb3⟩ : ∃ b, x.v.toList.isEmpty = b := ⟨_, rfl⟩
  rw [hb3]
  generalize decide (1 ≤ x.i ∧ x.i ≤ 99) = b1 at *
  obtain ⟨i, n, v⟩ := x
  simp only at HH HN HV hb3 ⊢
  have HW : Hid (BU (w.alloc (.cells #[.int .i64 i, .string n, .string v] 31)) w.heap.size ⟨i, n, v⟩ ∧ Below w.heap.size w (w.alloc (.cells #[.int .i64 i, .string n, .string v] 31))) := ⟨BU.new w ⟨i, n, v⟩, (Below.refl _ _).alloc (Nat.le_refl _) _⟩
  go_enter Try.func23, Try.ntmps23
  go_wp2_with fail
  refine (HH.out _).mono ?_
  rintro e w1 ⟨rfl, hw1⟩
  have HW1 : Hid (BU w1 w.heap.size ⟨i, n, v⟩ ∧ Below w.heap.size w w1) := by rw [hw1]; exact HW.out
  clear HH HW hw1
  cases b1
  · clear HN HV
    go_wp2
    go_ret
    exact ⟨rfl, HW1.out.2⟩
  have z1 := HW1.out.1.c1
  have z2 := HW1.out.1.c2
  simp only at z1 z2
  go_wp2_with fail
  refine (HN.out _).mono ?_
  rintro e w2 ⟨rfl, rfl⟩
  clear HN
  cases b2
  · clear HV
    go_wp2
    go_ret
    exact ⟨rfl, HW1.out.2⟩
  cases b3
  · go_wp2_with fail
    refine (HV.out _).mono ?_
    rintro e w4 ⟨rfl, rfl⟩
    clear HV
    go_wp2
    go_ret
    exact ⟨rfl, HW1.out.2⟩
  · clear HV
    go_wp2
    go_ret
    exact ⟨rfl, HW1.out.2⟩

end Go.Proofs.Ytiabodhgjeoejaa
/-
  Plain facts on reading a number that stands in bytes, step by step.
-/
namespace Go.Proofs.Ytiabodhgjeoejaa.M

theorem pow7 (k : Nat) : (2 : Nat) ^ (7 * k) = 128 ^ k := by rw [Nat.pow_mul]

theorem sh_eq (b k : Nat) : ((b : Int) % 128 * 2 ^ (7 * k)) = ((b % 128 * 128 ^ k : Nat) : Int) := by
  have h : ((2 ^ (7 * k) : Nat) : Int) = (2 : Int) ^ (7 * k) := by simp
  rw [← h, pow7]
  simp

theorem pow_le5 (k : Nat) (h : k ≤ 4) : 128 ^ k ≤ 268435456 := by
  have := Nat.pow_le_pow_right (show 0 < 128 by omega) h
  simpa using this

theorem sh_le (b k : Nat) (h : k ≤ 4) : b % 128 * 128 ^ k ≤ 127 * 268435456 :=
  Nat.mul_le_mul (by omega) (pow_le5 k h)

theorem acc_lt (N b k : Nat) (h : N < 128 ^ k) : N + b % 128 * 128 ^ k < 128 ^ (k + 1) := by
  have h1 : b % 128 * 128 ^ k ≤ 127 * 128 ^ k := Nat.mul_le_mul_right _ (by omega)
  have h2 : 128 ^ (k + 1) = 128 ^ k * 128 := Nat.pow_succ ..
  omega

theorem rv_more (s : List UInt8) (p k N : Nat) (b : UInt8) (hk : k < 5) (hb : s[p + k]? = some b) (h : 127 < b.toNat) :
    rv s p (5 - k) k N = rv s p (5 - (k + 1)) (k + 1) (N + b.toNat % 128 * 128 ^ k) := by
  have e : 5 - k = (5 - (k + 1)) + 1 := by omega
  rw [e]
  simp only [rv, hb]
  rw [if_pos (by omega)]

theorem rv_no (s : List UInt8) (p k N : Nat) (b : UInt8) (hk : k < 5) (hb : s[p + k]? = some b) (h : ¬ 127 < b.toNat) (hn : (b.toNat = 0 ∧ 0 < k) ∨ 1000000000 < N + b.toNat % 128 * 128 ^ k) :
    rv s p (5 - k) k N = none := by
  have e : 5 - k = (5 - (k + 1)) + 1 := by omega
  rw [e]
  simp only [rv, hb]
  rw [if_neg (by omega), if_pos hn]

theorem rv_yes (s : List UInt8) (p k N : Nat) (b : UInt8) (hk : k < 5) (hb : s[p + k]? = some b) (h : ¬ 127 < b.toNat) (hn : ¬ ((b.toNat = 0 ∧ 0 < k) ∨ 1000000000 < N + b.toNat % 128 * 128 ^ k)) :
    rv s p (5 - k) k N = some (N + b.toNat % 128 * 128 ^ k, p + k + 1) := by
  have e : 5 - k = (5 - (k + 1)) + 1 := by omega
  rw [e]
  simp only [rv, hb]
  rw [if_neg (by omega), if_neg hn]

theorem rv_end (s : List UInt8) (p k N : Nat) (h : ¬ (k < 5 ∧ p + k < s.length)) : rv s p (5 - k) k N = none := by
  by_cases hk : k < 5
  · have e : 5 - k = (5 - (k + 1)) + 1 := by omega
    rw [e]
    have hb : s[p + k]? = none := by simp; omega
    simp only [rv, hb]
  · have e : 5 - k = 0 := by omega
    rw [e]
    rfl

end Go.Proofs.Ytiabodhgjeoejaa.M
/-
  What ReadVar answers, the program's and the specification's: M.readVar of the text and the place.
-/
namespace Go.Proofs.Ytiabodhgjeoejaa
open Go.RowKit
set_option linter.unusedVariables false

/-- the three results of ReadVar -/
def rvOut : Option (Nat × Nat) → Array Value
  | none => #[.int .i64 0, .int .i64 0, .bool false]
  | some (n, q) => #[.int .i64 n, .int .i64 q, .bool true]

theorem ReadVar_out (s : ByteArray) (p : Int) (w : World) (hs : s.size ≤ 1048576) (hp : p < 0 ∨ (s.size : Int) < p) :
    Calls Try.prog 48 #[.string s, .int .i64 p] w fun e w' => e = .returned (.tuple (rvOut none)) ∧ w' = w := by
  rcases hp with h | h
  · go_enter Try.func48, Try.ntmps48
    go_wp2
    go_ret3
    exact ⟨rfl, rfl⟩
  · have h' : ¬ p < 0 := by omega
    go_enter Try.func48, Try.ntmps48
    go_wp2
    go_ret3
    exact ⟨rfl, rfl⟩

theorem get_l (s : ByteArray) (j : Nat) (h : j < s.size) : s.data.toList[j]? = some s[j] := by
  simp [ByteArray.getElem_eq_getElem_data]

/-- what the loop of ReadVar holds at each round's head -/
def ReadRel (s : ByteArray) (p : Nat) (n i : Value) : Prop :=
  ∃ k N : Nat, k ≤ 5 ∧ p + k ≤ s.size ∧ i = .int .i64 k ∧ n = .int .i64 N ∧ N < 128 ^ k ∧ M.readVar s.data.toList p = M.rv s.data.toList p (5 - k) k N

theorem tuple_none {o : Option (Nat × Nat)} (h : o = none) : Ending.returned (.tuple #[.int .i64 0, .int .i64 0, .bool false]) = .returned (.tuple (rvOut o)) := by rw [h]; rfl
theorem tuple_some {o : Option (Nat × Nat)} {a b : Int} {n q : Nat} (h : o = some (n, q)) (ha : a = n) (hb : b = q) : Ending.returned (.tuple #[.int .i64 a, .int .i64 b, .bool true]) = .returned (.tuple (rvOut o)) := by rw [h, ha, hb]; rfl

set_option maxHeartbeats 1000000 in
theorem ReadVar_in (s : ByteArray) (p : Nat) (w : World) (hs : s.size ≤ 1048576) (hp : p ≤ s.size) :
    Calls Try.prog 48 #[.string s, .int .i64 p] w fun e w' => e = .returned (.tuple (rvOut (M.readVar s.data.toList p))) ∧ w' = w := by
  have hp0 : ¬ ((p : Int) < 0) := by omega
  have hp1 : ¬ (s.size : Int) < (p : Int) := by omega
  by_cases h5 : 5 < s.size - p
  all_goals
    go_enter Try.func48, Try.ntmps48
    go_wp2
    go_loop [7, 23] (fun n i => ReadRel s p n i) (fun _ i => 5 - (intOf i).toNat)
    case atStart => exact ⟨0, 0, by omega, by omega, rfl, rfl, by omega, rfl⟩
    case round =>
      obtain ⟨k, N, hk, hpk, rfl, rfl, hN, he⟩ := hrel
      have HE : Hid (M.readVar s.data.toList p = M.rv s.data.toList p (5 - k) k N) := he
      clear he
      by_cases hkk : k < 5 ∧ p + k < s.size
      · obtain ⟨hk5, hlt⟩ := hkk
        have hb : s[p + k].toNat < 256 := s[p + k].toNat_lt
        have hx : 0 ≤ (s[p + k].toNat : Int) % 128 * 2 ^ (7 * k) ∧ (s[p + k].toNat : Int) % 128 * 2 ^ (7 * k) ≤ 34359738368 := by
          rw [M.sh_eq]
          have := M.sh_le s[p + k].toNat k (by omega)
          omega
        obtain ⟨hx0, hx1⟩ := hx
        have hN5 : N ≤ 268435456 := Nat.le_trans (Nat.le_of_lt hN) (M.pow_le5 k (by omega))
        have hacc := M.acc_lt N s[p + k].toNat k hN
        have HX : Hid ((s[p + k].toNat : Int) % 128 * 2 ^ (7 * k) = ((s[p + k].toNat % 128 * 128 ^ k : Nat) : Int)) := M.sh_eq _ _
        have hget := get_l s (p + k) hlt
        have HG : Hid (s.data.toList[p + k]? = some s[p + k]) := hget
        clear hget
        by_cases hbb : 127 < s[p + k].toNat
        · go_wp2
          go_round
          case rel =>
            refine ⟨k + 1, N + s[p + k].toNat % 128 * 128 ^ k, by omega, by omega, by go_num, ?_, hacc, ?_⟩
            · have hxe := HX.out
              congr 1
              omega
            · rw [HE.out, M.rv_more _ _ _ _ _ hk5 HG.out hbb]
          case measure => simp [intOf]; omega
        · have HT : Hid (s[p + k].toNat = 0 → s[p + k].toNat % 128 * 128 ^ k = 0) := fun h => by rw [h]; simp
          go_wp2
          all_goals
            go_ret3
            refine ⟨?_, rfl⟩
            have hxe := HX.out
            have hT0 := HT.out
            by_cases hd : (s[p + k].toNat = 0 ∧ 0 < k) ∨ 1000000000 < N + s[p + k].toNat % 128 * 128 ^ k
            · have hv := HE.out.trans (M.rv_no _ _ _ _ _ hk5 HG.out hbb hd)
              first | exact tuple_none hv | (exfalso; omega)
            · have hv := HE.out.trans (M.rv_yes _ _ _ _ _ hk5 HG.out hbb hd)
              first | (exfalso; omega) | (refine tuple_some hv ?_ ?_ <;> omega)
      · go_wp2
        go_ret3
        exact ⟨tuple_none (by rw [HE.out, M.rv_end _ _ _ _ (by simpa using hkk)]), rfl⟩

end Go.Proofs.Ytiabodhgjeoejaa
