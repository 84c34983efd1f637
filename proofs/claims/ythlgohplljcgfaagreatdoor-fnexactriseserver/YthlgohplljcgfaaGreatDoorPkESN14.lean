/-
  Texts laid together: Cc, Nc, Ch, Ci.
-/
import Derived.Test.YthlgohplljcgfaaGreatDoorPkESN11
import Derived.Laws.RangeAny
import Derived.Lib.OthersKept
import Derived.Lib.QuietBelow
import Derived.Test.YthlgohplljcgfaaGreatDoorPkESN9
/-
  When a change is right: the program's and the specification's answers. Names are gone through rune by rune.
-/
namespace Go.Proofs.YthlgohplljcgfaaGreatDoor
open Go.RowKit Go.BigFrame Go.Sort
set_option linter.unusedVariables false
set_option linter.unusedSimpArgs false

set_option maxRecDepth 100000 in
set_option maxHeartbeats 400000 in
theorem hasInt_any (a b x : Int) (w : World) : Calls Tryz.prog 161 #[.agg #[.int .i64 a, .int .i64 b], .int .i64 x] w fun e w' => e = .returned (.bool (decide (a ≤ x ∧ x ≤ b))) ∧ Below w.heap.size w w' := by
  have HB : Hid (Below w.heap.size w (w.alloc (.cells #[.int .i64 a, .int .i64 b] 199))) := (Below.refl _ _).alloc (Nat.le_refl _) _
  by_cases h1 : a ≤ x
  · by_cases h2 : x ≤ b
    · rw [decide_eq_true ⟨h1, h2⟩]
      go_enter Tryz.func161, Tryz.ntmps161
      go_wp2
      go_ret
      exact ⟨rfl, HB.out⟩
    · rw [decide_eq_false (fun h => h2 h.2)]
      go_enter Tryz.func161, Tryz.ntmps161
      go_wp2
      go_ret
      exact ⟨rfl, HB.out⟩
  · rw [decide_eq_false (fun h => h1 h.1)]
    go_enter Tryz.func161, Tryz.ntmps161
    go_wp2
    go_ret
    exact ⟨rfl, HB.out⟩
set_option maxRecDepth 100000 in
set_option maxHeartbeats 400000 in
theorem hasRune_any (a b x : Int) (w : World) : Calls Tryz.prog 185 #[.agg #[.int .i32 a, .int .i32 b], .int .i32 x] w fun e w' => e = .returned (.bool (decide (a ≤ x ∧ x ≤ b))) ∧ Below w.heap.size w w' := by
  have HB : Hid (Below w.heap.size w (w.alloc (.cells #[.int .i32 a, .int .i32 b] 226))) := (Below.refl _ _).alloc (Nat.le_refl _) _
  by_cases h1 : a ≤ x
  · by_cases h2 : x ≤ b
    · rw [decide_eq_true ⟨h1, h2⟩]
      go_enter Tryz.func185, Tryz.ntmps185
      go_wp2
      go_ret
      exact ⟨rfl, HB.out⟩
    · rw [decide_eq_false (fun h => h2 h.2)]
      go_enter Tryz.func185, Tryz.ntmps185
      go_wp2
      go_ret
      exact ⟨rfl, HB.out⟩
  · rw [decide_eq_false (fun h => h1 h.1)]
    go_enter Tryz.func185, Tryz.ntmps185
    go_wp2
    go_ret
    exact ⟨rfl, HB.out⟩

set_option maxRecDepth 100000 in
set_option maxHeartbeats 400000 in
theorem runeIn_one (b : UInt8) (h : b.toNat < 128) (w : World) : Calls Tryz.prog 178 #[.int .i32 (b.toNat : Int)] w fun e w' => e = .returned (.bool (nameB b)) ∧ Below w.heap.size w w' := by
  have HB : Hid (Below w.heap.size w (w.alloc (.cells #[.int .i32 0, .int .i32 127] 226))) := (Below.refl _ _).alloc (Nat.le_refl _) _
  have HH : Hid (∀ W, Calls Tryz.prog 185 #[.agg #[.int .i32 0, .int .i32 127], .int .i32 (b.toNat : Int)] W fun e w' => e = .returned (.bool true) ∧ Below W.heap.size W w') := fun W => (hasRune_any 0 127 b.toNat W).mono fun e w' ⟨he, hw⟩ => ⟨by rw [he, decide_eq_true (by omega)], hw⟩
  have HN : Hid (∀ W, Calls Tryz.prog 186 #[.int .u8 b.toNat] W fun e w' => e = .returned (.bool (nameB b)) ∧ w' = W) := fun W => inNames_any b W
  generalize nameB b = R at *
  have i1 : (b.toNat : Int) % 256 = (b.toNat : Int) := by omega
  go_enter Tryz.func178, Tryz.ntmps178
  go_wp2_with fail
  refine (HH.out _).mono ?_
  rintro e w1 ⟨rfl, hb1⟩
  have b1 := HB.out.trans (hb1.mono HB.out.size)
  clear HB HH hb1
  go_wp2_with fail
  refine (HN.out _).mono ?_
  rintro e w2 ⟨rfl, rfl⟩
  clear HN
  go_wp2
  go_ret
  exact ⟨rfl, b1⟩

set_option maxRecDepth 100000 in
set_option maxHeartbeats 400000 in
theorem runeIn_wide (r : Int) (h : 128 ≤ r) (w : World) : Calls Tryz.prog 178 #[.int .i32 r] w fun e w' => e = .returned (.bool false) ∧ Below w.heap.size w w' := by
  have HB : Hid (Below w.heap.size w (w.alloc (.cells #[.int .i32 0, .int .i32 127] 226))) := (Below.refl _ _).alloc (Nat.le_refl _) _
  have HH : Hid (∀ W, Calls Tryz.prog 185 #[.agg #[.int .i32 0, .int .i32 127], .int .i32 r] W fun e w' => e = .returned (.bool false) ∧ Below W.heap.size W w') := fun W => (hasRune_any 0 127 r W).mono fun e w' ⟨he, hw⟩ => ⟨by rw [he, decide_eq_false (by omega)], hw⟩
  go_enter Tryz.func178, Tryz.ntmps178
  go_wp2_with fail
  refine (HH.out _).mono ?_
  rintro e w1 ⟨rfl, hb1⟩
  have b1 := HB.out.trans (hb1.mono HB.out.size)
  clear HB HH hb1
  go_wp2
  go_ret
  exact ⟨rfl, b1⟩

theorem nameB_high {b : UInt8} (h : 128 ≤ b.toNat) : nameB b = false := by
  unfold nameB
  rw [decide_eq_false]
  omega
theorem iterPos_of {w : World} {k p : Nat} {s : ByteArray} (h : w.heap[k]? = some (.stringIter s p)) : w.iterPos k = p := by simp [World.iterPos, h]

/-- the first runes, all of one byte each, may be in a name; the reader stands behind them -/
def CnRel (s : ByteArray) (w : World) (g : Nat) (wr : World) : Prop := ∃ k : Nat, k ≤ s.size ∧ wr.heap[g]? = some (.stringIter s k) ∧ Hid (∀ j (h : j < s.size), j < k → nameB s[j] = true) ∧ Below w.heap.size w wr

set_option maxRecDepth 100000 in
set_option maxHeartbeats 1000000 in
theorem changeNameOk_any (s : ByteArray) (w : World) (hs : s.size ≤ 1048576) : Calls Tryz.prog 162 #[.string s] w fun e w' => e = .returned (.bool (okB nameB s)) ∧ Below w.heap.size w w' := by
  have HB : Hid (Below w.heap.size w (w.alloc (.cells #[.int .i64 1, .int .i64 12] 199))) := (Below.refl _ _).alloc (Nat.le_refl _) _
  have HH : Hid (∀ W, Calls Tryz.prog 161 #[.agg #[.int .i64 1, .int .i64 12], .int .i64 (s.size : Int)] W fun e w' => e = .returned (.bool (decide ((1 : Int) ≤ (s.size : Int) ∧ (s.size : Int) ≤ 12))) ∧ Below W.heap.size W w') := fun W => hasInt_any 1 12 s.size W
  by_cases hsz : 1 ≤ s.size ∧ s.size ≤ 12
  · rw [decide_eq_true (show (1 : Int) ≤ (s.size : Int) ∧ (s.size : Int) ≤ 12 by omega)] at HH
    obtain ⟨R, hR⟩ : ∃ R, okB nameB s = R := ⟨_, rfl⟩
    rw [hR]
    have HR : Hid (okB nameB s = R) := hR
    clear hR
    go_enter Tryz.func162, Tryz.ntmps162
    go_wp2_with fail
    refine (HH.out _).mono ?_
    rintro e w1 ⟨rfl, hb1⟩
    have b1 := HB.out.trans (hb1.mono HB.out.size)
    clear HB HH hb1
    go_wp2
    go_loopw [5] (fun _ wr => CnRel s w w1.heap.size wr) (fun _ wr => s.size - wr.iterPos w1.heap.size)
    case atStart => exact ⟨0, by omega, World.iter_heap w1 s 0, by intro j _ h; omega, b1.alloc b1.size _⟩
    case round =>
      obtain ⟨k, hk, hit, HI, hbw⟩ := hrel
      have hw1 : w.heap.size ≤ w1.heap.size := b1.size
      by_cases hp : k < s.size
      · by_cases ha : (s[k]'hp).toNat < 128
        · have hnx : ∀ ty, (Instr.next (.pointer (some ⟨w1.heap.size, 0, none⟩)) true ty).run Tryz.prog wr = _ := fun ty => Lib.run_next_ascii_at wr w1.heap.size s k ty hit hp ha
          have HIT : Hid ((wr.iterAt w1.heap.size s (k + 1)).heap[w1.heap.size]? = some (.stringIter s (k + 1)) ∧ Below w.heap.size w (wr.iterAt w1.heap.size s (k + 1)) ∧ wr.iterPos w1.heap.size = k) := ⟨Lib.iterAt_heap wr w1.heap.size s k (k + 1) hit, Lib.below_iterAt hbw (k := w1.heap.size) hw1 s (k + 1), iterPos_of hit⟩
          have HC : Hid (∀ W, Calls Tryz.prog 178 #[.int .i32 ((s[k]'hp).toNat : Int)] W fun e w' => e = .returned (.bool (nameB (s[k]'hp))) ∧ Below W.heap.size W w') := fun W => runeIn_one _ ha W
          obtain ⟨p, hp1⟩ : ∃ p, nameB (s[k]'hp) = p := ⟨_, rfl⟩
          have HP : Hid (nameB (s[k]'hp) = p) := hp1
          simp only [hp1] at HC
          clear hp1 hit hbw b1
          generalize wr.iterAt w1.heap.size s (k + 1) = W2 at *
          go_wp2_with fail
          refine (HC.out _).mono ?_
          rintro e w3 ⟨rfl, hb3⟩
          have b3 := HIT.out.2.1.trans (hb3.mono HIT.out.2.1.size)
          have hit3 : w3.heap[w1.heap.size]? = some (.stringIter s (k + 1)) := (hb3.block _ (Array.getElem?_eq_some_iff.1 HIT.out.1).1).trans HIT.out.1
          clear HC hb3 hnx
          cases p
          · have hR : R = false := by rw [← HR.out]; exact okB_bad _ _ k hp HP.out
            subst hR
            clear HI HIT HP HR hit3
            go_wp2
            try rw [Exit.noGoto_ret]
            go_ret
            exact ⟨rfl, b3⟩
          · go_wp2
            go_roundw
            case rel => exact ⟨k + 1, by omega, hit3, NmRel.step hp HP.out HI.out, b3⟩
            case measure =>
              rw [iterPos_of hit3, HIT.out.2.2]
              omega
        · have hnx : ∀ ty, (Instr.next (.pointer (some ⟨w1.heap.size, 0, none⟩)) true ty).run Tryz.prog wr = _ := fun ty => Lib.run_next_any_at wr w1.heap.size s k ty hit hp
          have HB2 : Hid (Below w.heap.size w (wr.iterAt w1.heap.size s (k + (Utf8.decode s k).2))) := Lib.below_iterAt hbw (k := w1.heap.size) hw1 s _
          have hd := (decode_high s k hp (by omega)).1
          have HC : Hid (∀ W, Calls Tryz.prog 178 #[.int .i32 ((Utf8.decode s k).1 : Int)] W fun e w' => e = .returned (.bool false) ∧ Below W.heap.size W w') := fun W => runeIn_wide _ (by omega) W
          have hR : R = false := by rw [← HR.out]; exact okB_bad _ _ k hp (nameB_high (by omega))
          subst hR
          clear hit hbw b1 HI HR hd
          generalize wr.iterAt w1.heap.size s (k + (Utf8.decode s k).2) = W2 at *
          generalize (Utf8.decode s k).1 = r at *
          go_wp2_with fail
          refine (HC.out _).mono ?_
          rintro e w3 ⟨rfl, hb3⟩
          have b3 := HB2.out.trans (hb3.mono HB2.out.size)
          clear HC hb3 hnx HB2
          go_wp2
          try rw [Exit.noGoto_ret]
          go_ret
          exact ⟨rfl, b3⟩
      · have hnx : ∀ ty, (Instr.next (.pointer (some ⟨w1.heap.size, 0, none⟩)) true ty).run Tryz.prog wr = _ := fun ty => Lib.run_next_end_at wr w1.heap.size s k ty hit hp
        have hR : R = true := by rw [← HR.out, okB_good _ _ (fun j h => HI.out j h (by omega))]; exact decide_eq_true hsz
        subst hR
        clear hit HI HR b1
        go_wp2
        go_ret
        exact ⟨rfl, hbw⟩
  · rw [decide_eq_false (show ¬ ((1 : Int) ≤ (s.size : Int) ∧ (s.size : Int) ≤ 12) by omega)] at HH
    rw [okB_len _ _ hsz]
    clear hsz
    go_enter Tryz.func162, Tryz.ntmps162
    go_wp2_with fail
    refine (HH.out _).mono ?_
    rintro e w1 ⟨rfl, hb1⟩
    have b1 := HB.out.trans (hb1.mono HB.out.size)
    clear HB HH hb1
    go_wp2
    go_ret
    exact ⟨rfl, b1⟩

theorem drops_any (x : Ug) (w : World) : Calls Tryz.prog 163 #[.agg #[.int .i64 x.i, .string x.n, .string x.v]] w fun e w' => e = .returned (.bool x.v.toList.isEmpty) ∧ Below w.heap.size w w' := by
  obtain ⟨i, n, v⟩ := x
  have HB : Hid (Below w.heap.size w (w.alloc (.cells #[.int .i64 i, .string n, .string v] 102))) := (Below.refl _ _).alloc (Nat.le_refl _) _
  simp only
  cases hv : v.toList.isEmpty
  all_goals
    go_enter Tryz.func163, Tryz.ntmps163
    go_wp2
    go_ret
    exact ⟨rfl, HB.out⟩

set_option maxRecDepth 100000 in
set_option maxHeartbeats 1000000 in
theorem ChangeOk_any (x : Ug) (w : World) (hn : x.n.size ≤ 1048576) (hv : x.v.size ≤ 1048576) : Calls Tryz.prog 139 #[.agg #[.int .i64 x.i, .string x.n, .string x.v]] w fun e w' => e = .returned (.bool (UV.okU x)) ∧ Below w.heap.size w w' := by
  have HH : Hid (∀ W, Calls Tryz.prog 161 #[.agg #[.int .i64 1, .int .i64 99], .int .i64 x.i] W fun e w' => e = .returned (.bool (decide (1 ≤ x.i ∧ x.i ≤ 99))) ∧ Below W.heap.size W w') := fun W => hasInt_any 1 99 x.i W
  have HN : Hid (∀ W, Calls Tryz.prog 162 #[.string x.n] W fun e w' => e = .returned (.bool (okB nameB x.n)) ∧ Below W.heap.size W w') := fun W => changeNameOk_any x.n W hn
  have HD : Hid (∀ W, Calls Tryz.prog 163 #[.agg #[.int .i64 x.i, .string x.n, .string x.v]] W fun e w' => e = .returned (.bool x.v.toList.isEmpty) ∧ Below W.heap.size W w') := fun W => drops_any x W
  have HV : Hid (∀ W, Calls Tryz.prog 164 #[.string x.v] W fun e w' => e = .returned (.bool (okB valB x.v)) ∧ w' = W) := fun W => ValueOk_any x.v W hv
  unfold UV.okU UV.vOk
  generalize okB nameB x.n = b2 at *
  generalize okB valB x.v = b4 at *
  generalize x.v.toList.isEmpty = b3 at *
  generalize decide (1 ≤ x.i ∧ x.i ≤ 99) = b1 at *
  obtain ⟨i, n, v⟩ := x
  simp only at HH HN HD HV ⊢
  have HW : Hid (BU ((w.alloc (.cells #[.int .i64 i, .string n, .string v] 102)).alloc (.cells #[.int .i64 1, .int .i64 99] 199)) w.heap.size ⟨i, n, v⟩ ∧ Below w.heap.size w ((w.alloc (.cells #[.int .i64 i, .string n, .string v] 102)).alloc (.cells #[.int .i64 1, .int .i64 99] 199))) := ⟨alloc_snd _ _ _ rfl, ((Below.refl _ _).alloc (Nat.le_refl _) _).alloc (by simp) _⟩
  go_enter Tryz.func139, Tryz.ntmps139
  go_wp2_with fail
  refine (HH.out _).mono ?_
  rintro e w1 ⟨rfl, hb1⟩
  have HW1 : Hid (BU w1 w.heap.size ⟨i, n, v⟩ ∧ Below w.heap.size w w1) := ⟨HW.out.1.later hb1, HW.out.2.trans (hb1.mono HW.out.2.size)⟩
  clear HH HW hb1
  cases b1
  · clear HN HD HV
    go_wp2
    go_ret
    exact ⟨rfl, HW1.out.2⟩
  have z1 := HW1.out.1.c1
  simp only at z1
  go_wp2_with fail
  refine (HN.out _).mono ?_
  rintro e w2 ⟨rfl, hb2⟩
  have HW2 : Hid (BU w2 w.heap.size ⟨i, n, v⟩ ∧ Below w.heap.size w w2) := ⟨HW1.out.1.later hb2, HW1.out.2.trans (hb2.mono HW1.out.2.size)⟩
  clear HN HW1 hb2 z1
  cases b2
  · clear HD HV
    go_wp2
    go_ret
    exact ⟨rfl, HW2.out.2⟩
  have z0 := HW2.out.1.c0
  have z1 := HW2.out.1.c1
  have z2 := HW2.out.1.c2
  simp only at z0 z1 z2
  go_wp2_with fail
  refine (HD.out _).mono ?_
  rintro e w3 ⟨rfl, hb3⟩
  have HW3 : Hid (BU w3 w.heap.size ⟨i, n, v⟩ ∧ Below w.heap.size w w3) := ⟨HW2.out.1.later hb3, HW2.out.2.trans (hb3.mono HW2.out.2.size)⟩
  clear HD HW2 hb3 z0 z1 z2
  cases b3
  · have z2 := HW3.out.1.c2
    simp only at z2
    go_wp2_with fail
    refine (HV.out _).mono ?_
    rintro e w4 ⟨rfl, rfl⟩
    clear HV z2
    go_wp2
    go_ret
    exact ⟨rfl, HW3.out.2⟩
  · clear HV
    go_wp2
    go_ret
    exact ⟨rfl, HW3.out.2⟩

set_option maxRecDepth 100000 in
set_option maxHeartbeats 1000000 in
theorem sChangeOk_any (x : Ug) (w : World) (hn : x.n.size ≤ 1048576) (hv : x.v.size ≤ 1048576) : Calls Tryz.prog 133 #[.agg #[.int .i64 x.i, .string x.n, .string x.v]] w fun e w' => e = .returned (.bool (UV.okU x)) ∧ Below w.heap.size w w' := by
  have HH : Hid (∀ W, Calls Tryz.prog 56 #[.int .i64 x.i, .int .i64 1, .int .i64 99] W fun e w' => e = .returned (.bool (decide (1 ≤ x.i ∧ x.i ≤ 99))) ∧ w' = W) := fun W => l01In_any x.i 1 99 W
  have HN : Hid (∀ W, Calls Tryz.prog 153 #[.string x.n] W fun e w' => e = .returned (.bool (okB nameB x.n)) ∧ w' = W) := fun W => sNameOk_any x.n W hn
  have HV : Hid (∀ W, Calls Tryz.prog 154 #[.string x.v] W fun e w' => e = .returned (.bool (okB valB x.v)) ∧ w' = W) := fun W => sValueOk_any x.v W hv
  unfold UV.okU UV.vOk
  generalize okB nameB x.n = b2 at *
  generalize okB valB x.v = b4 at *
  obtain ⟨b3, hb3⟩ : ∃ b, x.v.toList.isEmpty = b := ⟨_, rfl⟩
  rw [hb3]
  generalize decide (1 ≤ x.i ∧ x.i ≤ 99) = b1 at *
  obtain ⟨i, n, v⟩ := x
  simp only at HH HN HV hb3 ⊢
  have HW : Hid (BU (w.alloc (.cells #[.int .i64 i, .string n, .string v] 102)) w.heap.size ⟨i, n, v⟩ ∧ Below w.heap.size w (w.alloc (.cells #[.int .i64 i, .string n, .string v] 102))) := ⟨BU.new w ⟨i, n, v⟩, (Below.refl _ _).alloc (Nat.le_refl _) _⟩
  go_enter Tryz.func133, Tryz.ntmps133
  go_wp2_with fail
  refine (HH.out _).mono ?_
  rintro e w1 ⟨rfl, hw1⟩
  have HW1 : Hid (BU w1 w.heap.size ⟨i, n, v⟩ ∧ Below w.heap.size w w1) := by rw [hw1]; exact HW.out
  clear HH HW hw1
  cases b1
  · clear HN HV
    go_wp2
    go_ret
    exact ⟨rfl, HW1.out.2⟩
  have z1 := HW1.out.1.c1
  have z2 := HW1.out.1.c2
  simp only at z1 z2
  go_wp2_with fail
  refine (HN.out _).mono ?_
  rintro e w2 ⟨rfl, rfl⟩
  clear HN
  cases b2
  · clear HV
    go_wp2
    go_ret
    exact ⟨rfl, HW1.out.2⟩
  cases b3
  · go_wp2_with fail
    refine (HV.out _).mono ?_
    rintro e w4 ⟨rfl, rfl⟩
    clear HV
    go_wp2
    go_ret
    exact ⟨rfl, HW1.out.2⟩
  · clear HV
    go_wp2
    go_ret
    exact ⟨rfl, HW1.out.2⟩

end Go.Proofs.YthlgohplljcgfaaGreatDoor
/-
  A leaf dropped from a list: the specification's answer.
-/
namespace Go.Proofs.YthlgohplljcgfaaGreatDoor
open Go.RowKit Go.BigFrame Go.Sort
set_option linter.unusedVariables false
set_option linter.unusedSimpArgs false

set_option maxRecDepth 100000 in
set_option maxHeartbeats 2000000 in
theorem sLeafDropN_any (p : Option Addr) (cap : Nat) (ga oa : Nat) (L : List Le) (x : ByteArray) (w : World) (hv : RS 2 lcs w (.slice p L.length cap) ga oa L) (hnil : p = none → cap = 0) (hsm : SmallL L) (hL : L.length ≤ 1048576) :
    Calls Tryz.prog 176 #[.slice p L.length cap, .string x] w (LqN (LV.dropR L x) (LV.dropB L x) w) := by
  have HV : Hid (RS 2 lcs w (.slice p L.length cap) ga oa L ∧ SmallL L) := ⟨hv, hsm⟩
  have h0 := sLeafGet_any _ ga oa L x w hv
  have HDB : Hid (LV.dropB L x = (LV.leavesB L && LV.getB L x)) := rfl
  have HNO : Hid (∀ W v', OL w.heap.size w W v' L → LV.dropB L x = false → LqN (LV.dropR L x) (LV.dropB L x) w (.returned (.tuple #[v', .bool false])) W) := fun W v' ho hf => by
    rw [dropR_no hf, hf]
    obtain ⟨gz, hrz, hgz, _⟩ := ho.rw (by omega)
    obtain ⟨az, cz, rfl⟩ := ho.shape
    exact ⟨az, cz, gz, rfl, hrz, hgz, ho.2.1, ho.nil0⟩
  have HYE : Hid (∀ V W v', Below w.heap.size w V → OL V.heap.size V W v' (LV.wout L x) → LV.dropB L x = true → LqN (LV.dropR L x) (LV.dropB L x) w (.returned (.tuple #[v', .bool true])) W) := fun V W v' hV ho hf => by
    rw [dropR_yes hf, hf]
    obtain ⟨gz, hrz, hgz, _⟩ := ho.rw (by have := LV.len_wout_le L x; omega)
    obtain ⟨az, cz, rfl⟩ := ho.shape
    exact ⟨az, cz, gz, rfl, hrz, by have := hV.size; omega, hV.trans (ho.2.1.mono hV.size), ho.nil0⟩
  have HOK : Hid (∀ W, Below w.heap.size w W → Calls Tryz.prog 183 #[.slice p L.length cap] W fun e w' => e = .returned (.bool (LV.leavesB L)) ∧ Below W.heap.size W w') := fun W hW => sLeavesOk_any _ ga oa L W (hv.later hW) hsm
  have HWO : Hid (∀ W, Below w.heap.size w W → Calls Tryz.prog 184 #[.slice p L.length cap, .string x] W fun e w' => ∃ u, e = .returned u ∧ OL W.heap.size W w' u (LV.wout L x)) := fun W hW => l09Without_any _ ga oa L x W (hv.later hW)
  clear hv hsm
  generalize LV.getV L x = T at *
  go_enter Tryz.func176, Tryz.ntmps176
  go_wp2_with fail
  refine h0.mono ?_
  rintro e w1 ⟨rfl, hb1⟩
  clear h0
  go_wp2_with fail
  refine (HOK.out _ hb1).mono ?_
  rintro e w2 ⟨rfl, hb2⟩
  have b2 := hb1.trans (hb2.mono hb1.size)
  clear hb1 hb2 HOK
  have ho6 : OL w.heap.size w (w2.alloc (.cells #[] 134)) (.slice (some ⟨w2.heap.size, 0, none⟩) 0 0) [] := OL.made _ w w2 b2 b2.size
  have hrs6 := HV.out.1.later (b2.alloc b2.size (.cells #[] 134))
  cases hR1 : LV.leavesB L
  · rw [hR1, Bool.false_and] at HDB
    clear HWO HV
    go_wp2_with (at_builtin; refine wp_rowL rfl _ _ rfl w.heap.size w w2.heap.size rfl ho6 p ga oa cap L rfl hrs6 hnil ?_)
    intro v' w7 ho7
    have HF2 : Hid (LqN (LV.dropR L x) (LV.dropB L x) w (.returned (.tuple #[v', .bool false])) w7) := HNO.out w7 v' ho7 HDB.out
    clear ho7 ho6 hrs6 HNO HYE b2
    go_wp2
    go_ret2
    exact HF2.out
  · rw [hR1, Bool.true_and] at HDB
    cases hR2 : LV.getB L x
    · rw [hR2] at HDB
      clear HWO HV
      go_wp2_with (at_builtin; refine wp_rowL rfl _ _ rfl w.heap.size w w2.heap.size rfl ho6 p ga oa cap L rfl hrs6 hnil ?_)
      intro v' w7 ho7
      have HF2 : Hid (LqN (LV.dropR L x) (LV.dropB L x) w (.returned (.tuple #[v', .bool false])) w7) := HNO.out w7 v' ho7 HDB.out
      clear ho7 ho6 hrs6 HNO HYE b2
      go_wp2
      go_ret2
      exact HF2.out
    · rw [hR2] at HDB
      clear ho6 hrs6 HV
      go_wp2_with fail
      refine (HWO.out _ b2).mono ?_
      rintro e w3 ⟨u, rfl, ho3⟩
      have HF2 : Hid (LqN (LV.dropR L x) (LV.dropB L x) w (.returned (.tuple #[u, .bool true])) w3) := HYE.out w2 w3 u b2 ho3 HDB.out
      clear ho3 HNO HYE b2 HWO
      go_wp2
      go_ret2
      exact HF2.out
theorem sLeafDrop_any (p : Option Addr) (cap : Nat) (ga oa : Nat) (L : List Le) (x : ByteArray) (w : World) (hv : RS 2 lcs w (.slice p L.length cap) ga oa L) (hnil : p = none → cap = 0) (hsm : SmallL L) (hL : L.length ≤ 1048576) :
    Calls Tryz.prog 176 #[.slice p L.length cap, .string x] w (LqP (LV.dropR L x) (LV.dropB L x) w) := (sLeafDropN_any p cap ga oa L x w hv hnil hsm hL).mono fun _ _ h => h.plain

end Go.Proofs.YthlgohplljcgfaaGreatDoor
/-
  A change done to a list, and changes done one behind the other: plain facts; the specification's answer to one.
-/
namespace Go.Proofs.YthlgohplljcgfaaGreatDoor
open Go.RowKit Go.BigFrame Go.Sort
set_option linter.unusedVariables false
set_option linter.unusedSimpArgs false

namespace UV
/-- what a change leaves of a list -/
noncomputable def apU (L : List Le) (x : Ug) : List Le := if x.v.toList.isEmpty = true then LV.dropR L x.n else LV.putR L ⟨x.n, x.v⟩
/-- .. and changes, one behind the other -/
noncomputable def apA (L : List Le) (A : List Ug) : List Le := A.foldl apU L
theorem apA_step (L : List Le) (A : List Ug) {m : Nat} (h : m < A.length) : apA L (A.take (m + 1)) = apU (apA L (A.take m)) A[m] := by
  unfold apA
  rw [List.take_succ_eq_append_getElem h, List.foldl_append]
  rfl
theorem apA_all (L : List Le) (A : List Ug) : apA L (A.take A.length) = apA L A := by rw [List.take_length]
theorem drop_len (L : List Le) (x : ByteArray) : (LV.dropR L x).length ≤ L.length := by
  unfold LV.dropR
  split
  · exact LV.len_wout_le L x
  · exact Nat.le_refl _
theorem put_len {L : List Le} {f : Le} (hl : L.length ≤ 1048576) : (LV.putR L f).length ≤ 1048576 := by
  cases h : LV.putB L f
  · rw [putR_no h]; exact hl
  · rw [putR_yes h]
    have := LV.putB_spec L f
    rw [h] at this
    have h2 : LV.leavesB (LV.put L f) = true := (Bool.and_eq_true_iff.1 this.symm).2
    have := (LV.leavesB_iff.1 h2).1
    omega
theorem ap_len {L : List Le} {x : Ug} (hl : L.length ≤ 1048576) : (apU L x).length ≤ 1048576 := by
  unfold apU
  split
  · exact Nat.le_trans (drop_len L x.n) hl
  · exact put_len hl
end UV
theorem small_drop {L : List Le} {x : ByteArray} (h : SmallL L) : SmallL (LV.dropR L x) := by
  unfold LV.dropR
  split
  · exact fun f hf => h f (List.mem_filter.1 hf).1
  · exact h
theorem small_putR {L : List Le} {f : Le} (h : SmallL L) (hn : f.n.size ≤ 1048576) (hv : f.v.size ≤ 1048576) : SmallL (LV.putR L f) := by
  unfold LV.putR
  split
  · exact small_put h hn hv
  · exact h
theorem small_ap {L : List Le} {x : Ug} (h : SmallL L) (hn : x.n.size ≤ 1048576) (hv : x.v.size ≤ 1048576) : SmallL (UV.apU L x) := by
  unfold UV.apU
  split
  · exact small_drop h
  · exact small_putR h hn hv

/-- a list answered; where it is nil it has no room -/
def ApP (M : List Le) (w : World) (e : Ending) (w' : World) : Prop := ∃ a cap g, e = .returned (.slice a M.length cap) ∧ RW 2 lcs w' (.slice a M.length cap) g M ∧ w.heap.size ≤ g ∧ Below w.heap.size w w'
def ApN (M : List Le) (w : World) (e : Ending) (w' : World) : Prop := ∃ a cap g, e = .returned (.slice a M.length cap) ∧ RW 2 lcs w' (.slice a M.length cap) g M ∧ w.heap.size ≤ g ∧ Below w.heap.size w w' ∧ (a = none → cap = 0)
theorem ApN.plain {M : List Le} {w w' : World} {e : Ending} (h : ApN M w e w') : ApP M w e w' := by
  obtain ⟨a, cap, g, h1, h2, h3, h4, _⟩ := h
  exact ⟨a, cap, g, h1, h2, h3, h4⟩

set_option maxRecDepth 100000 in
set_option maxHeartbeats 1000000 in
theorem sApplyChange_any (p : Option Addr) (cap : Nat) (ga oa : Nat) (L : List Le) (x : Ug) (w : World) (hv : RS 2 lcs w (.slice p L.length cap) ga oa L) (hnil : p = none → cap = 0) (hsm : SmallL L) (hL : L.length ≤ 1048576) (hn : x.n.size ≤ 1048576) (hvs : x.v.size ≤ 1048576) :
    Calls Tryz.prog 159 #[.slice p L.length cap, .agg #[.int .i64 x.i, .string x.n, .string x.v]] w (ApN (UV.apU L x) w) := by
  have HW : Hid (BU (w.alloc (.cells #[.int .i64 x.i, .string x.n, .string x.v] 102)) w.heap.size x ∧ Below w.heap.size w (w.alloc (.cells #[.int .i64 x.i, .string x.n, .string x.v] 102))) := ⟨BU.new w x, (Below.refl _ _).alloc (Nat.le_refl _) _⟩
  have HP : Hid (∀ W, Below w.heap.size w W → Calls Tryz.prog 177 #[.slice p L.length cap, .string x.n, .string x.v] W (LqN (LV.putR L ⟨x.n, x.v⟩) (LV.putB L ⟨x.n, x.v⟩) W)) := fun W hW => sLeafPutN_any p cap ga oa L x.n x.v W (hv.later hW) hnil hsm hL hn hvs
  have HR : Hid (∀ W, Below w.heap.size w W → Calls Tryz.prog 176 #[.slice p L.length cap, .string x.n] W (LqN (LV.dropR L x.n) (LV.dropB L x.n) W)) := fun W hW => sLeafDropN_any p cap ga oa L x.n W (hv.later hW) hnil hsm hL
  generalize L.length = n at *
  unfold LqN at HP HR
  unfold UV.apU
  clear hv hsm hn hvs hnil hL
  generalize LV.putB L ⟨x.n, x.v⟩ = b1 at *
  generalize LV.dropB L x.n = b2 at *
  obtain ⟨i, N, V⟩ := x
  simp only at HW HP HR ⊢
  have z1 := HW.out.1.c1
  have z2 := HW.out.1.c2
  simp only at z1 z2
  cases hd : V.toList.isEmpty
  · rw [if_neg (by simp)]
    generalize LV.putR L ⟨N, V⟩ = M at *
    clear HR
    obtain ⟨k, hk⟩ : ∃ k, M.length = k := ⟨_, rfl⟩
    rw [hk] at HP
    have HF : Hid (∀ W e, (∃ a cap g, e = .returned (.slice a k cap) ∧ RW 2 lcs W (.slice a k cap) g M ∧ w.heap.size ≤ g ∧ Below w.heap.size w W ∧ (a = none → cap = 0)) → ApN M w e W) := fun W e h => by unfold ApN; rw [hk]; exact h
    clear hk
    go_enter Tryz.func159, Tryz.ntmps159
    go_wp2_with fail
    refine (HP.out _ HW.out.2).mono ?_
    rintro e w2 ⟨a2, c2, g2, rfl, hr2, hg2, hb2, hz2⟩
    have HE := hide (HF.out w2 _ ⟨a2, c2, g2, rfl, hr2, by have := HW.out.2.size; omega, HW.out.2.trans (hb2.mono HW.out.2.size), hz2⟩)
    clear HP HW hr2 hg2 hb2 z1 z2 HF hz2
    go_wp2
    go_ret
    exact HE.out
  · rw [if_pos rfl]
    generalize LV.dropR L N = M at *
    clear HP
    obtain ⟨k, hk⟩ : ∃ k, M.length = k := ⟨_, rfl⟩
    rw [hk] at HR
    have HF : Hid (∀ W e, (∃ a cap g, e = .returned (.slice a k cap) ∧ RW 2 lcs W (.slice a k cap) g M ∧ w.heap.size ≤ g ∧ Below w.heap.size w W ∧ (a = none → cap = 0)) → ApN M w e W) := fun W e h => by unfold ApN; rw [hk]; exact h
    clear hk
    go_enter Tryz.func159, Tryz.ntmps159
    go_wp2_with fail
    refine (HR.out _ HW.out.2).mono ?_
    rintro e w2 ⟨a2, c2, g2, rfl, hr2, hg2, hb2, hz2⟩
    have HE := hide (HF.out w2 _ ⟨a2, c2, g2, rfl, hr2, by have := HW.out.2.size; omega, HW.out.2.trans (hb2.mono HW.out.2.size), hz2⟩)
    clear HR HW hr2 hg2 hb2 z1 z2 HF hz2
    go_wp2
    go_ret
    exact HE.out

end Go.Proofs.YthlgohplljcgfaaGreatDoor
/-
  Changes done one behind the other: the specification's answer.
-/
namespace Go.Proofs.YthlgohplljcgfaaGreatDoor
open Go.RowKit Go.BigFrame Go.Sort
set_option linter.unusedVariables false
set_option linter.unusedSimpArgs false

theorem small_apA {L : List Le} {A : List Ug} (h : SmallL L) (hA : ∀ x ∈ A, x.n.size ≤ 1048576 ∧ x.v.size ≤ 1048576) (m : Nat) : SmallL (UV.apA L (A.take m)) := by
  induction m with
  | zero => simpa [UV.apA] using h
  | succ m ih =>
    rcases Nat.lt_or_ge m A.length with hm | hm
    · rw [UV.apA_step L A hm]
      have := hA A[m] (List.getElem_mem _)
      exact small_ap ih this.1 this.2
    · rw [List.take_of_length_le (by omega)]
      rw [List.take_of_length_le hm] at ih
      exact ih
theorem UV.apA_len {L : List Le} {A : List Ug} (h : L.length ≤ 1048576) (m : Nat) : (UV.apA L (A.take m)).length ≤ 1048576 := by
  induction m with
  | zero => simpa [UV.apA] using h
  | succ m ih =>
    rcases Nat.lt_or_ge m A.length with hm | hm
    · rw [UV.apA_step L A hm]
      exact UV.ap_len ih
    · rw [List.take_of_length_le (by omega)]
      rw [List.take_of_length_le hm] at ih
      exact ih

/-- so many are done -/
def AaS (w : World) (M : List Le) (u : Value) (wr : World) : Prop := ∃ g, RW 2 lcs wr u g M ∧ w.heap.size ≤ g ∧ Below w.heap.size w wr
def AaN (w : World) (L : List Le) (A : List Ug) (u i : Value) (wr : World) : Prop := ∃ (m : Nat) (a : Option Addr) (c : Nat), m ≤ A.length ∧ i = .int .i64 (m : Int) ∧ u = .slice a (UV.apA L (A.take m)).length c ∧ (a = none → c = 0) ∧ Hid (AaS w (UV.apA L (A.take m)) u wr)
def AaR (w : World) (L : List Le) (A : List Ug) (u i : Value) (wr : World) : Prop := ∃ (m : Nat) (a : Option Addr) (c : Nat), m ≤ A.length ∧ i = .int .i64 (m : Int) ∧ u = .slice a (UV.apA L (A.take m)).length c ∧ Hid (AaS w (UV.apA L (A.take m)) u wr)

set_option maxRecDepth 100000 in
set_option maxHeartbeats 1000000 in
theorem sApplyAll_any (p : Option Addr) (cap : Nat) (ga oa : Nat) (L : List Le) (q : Value) (gq oq : Nat) (A : List Ug) (w : World) (hv : RS 2 lcs w (.slice p L.length cap) ga oa L) (hnil : p = none → cap = 0) (hsm : SmallL L) (hL : L.length ≤ 1048576) (hq : RS 3 ucs w q gq oq A) (hA : ∀ x ∈ A, x.n.size ≤ 1048576 ∧ x.v.size ≤ 1048576) :
    Calls Tryz.prog 135 #[.slice p L.length cap, q] w (ApN (UV.apA L A) w) := by
  have HQ : Hid (RS 3 ucs w q gq oq A) := hq
  have HSM : Hid (∀ m (h : m < A.length), SmallL (UV.apA L (A.take m)) ∧ (UV.apA L (A.take m)).length ≤ 1048576 ∧ (A[m]'h).n.size ≤ 1048576 ∧ (A[m]'h).v.size ≤ 1048576) := fun m h => ⟨small_apA hsm hA m, UV.apA_len hL m, hA _ (List.getElem_mem h)⟩
  obtain ⟨aq, cq, rfl, hlq, hAq, _⟩ := hq
  obtain ⟨n, hn⟩ : ∃ n, A.length = n := ⟨_, rfl⟩
  have HA : Hid (0 < n → aq = some ⟨gq, oq, none⟩) := by rw [← hn]; exact fun h => (hAq h).1
  rw [hn] at hlq HQ ⊢
  have ho6 : OL w.heap.size w (w.alloc (.cells #[] 134)) (.slice (some ⟨w.heap.size, 0, none⟩) 0 0) [] := OL.made _ w w (Below.refl _ _) (Nat.le_refl _)
  have hrs6 := hv.later ((Below.refl w.heap.size w).alloc (Nat.le_refl _) (.cells #[] 134))
  have HF : Hid (∀ W, AaN w L A (.slice none 0 0) (.int .i64 0) W → True) := fun _ _ => trivial
  clear hv hsm hA hAq HF
  go_enter Tryz.func135, Tryz.ntmps135
  go_wp2_with (at_builtin; refine wp_rowL rfl _ _ rfl w.heap.size w w.heap.size rfl ho6 p ga oa cap L rfl hrs6 hnil ?_)
  intro v' w7 ho7
  have HST : Hid (AaN w L A v' (.int .i64 0) w7) := by
    obtain ⟨gz, hrz, hgz, _⟩ := ho7.rw (by omega)
    obtain ⟨az, cz, rfl⟩ := ho7.shape
    exact ⟨0, az, cz, Nat.zero_le _, rfl, rfl, ho7.nil0, ⟨gz, hrz, hgz, ho7.2.1⟩⟩
  clear ho7 ho6 hrs6 hnil hL
  go_wp2
  go_loopw [5, 6] (fun u i wr => AaN w L A u i wr) (fun _ i _ => n - (intOf i).toNat)
  case atStart => exact HST.out
  case round =>
    obtain ⟨m, au, cu, hm, rfl, rfl, hz, HI⟩ := hrel
    clear HST
    rw [hn] at hm
    obtain ⟨gu, hru, hgu, hbu⟩ := HI.out
    by_cases hlt : m < n
    · have ea := HA.out (by omega)
      subst ea
      obtain ⟨c0, c1, c2⟩ := (HQ.out.later hbu).chg m (by omega)
      have hs := HSM.out m (by omega)
      have hst := UV.apA_step L A (m := m) (by omega)
      obtain ⟨X, hX⟩ : ∃ X, A[m]'(by omega) = X := ⟨_, rfl⟩
      rw [hX] at c0 c1 c2 hs hst
      have HC := hide (sApplyChange_any au cu gu 0 _ X wr hru.1 hz hs.1 hs.2.1 hs.2.2.1 hs.2.2.2)
      have HJ : Hid (UV.apA L (A.take (m + 1)) = UV.apU (UV.apA L (A.take m)) X) := hst
      have HB : Hid (Below w.heap.size w wr) := hbu
      have i1 : (m : Int) < (n : Int) := by omega
      have i2 : (0 : Int) ≤ (m : Int) := by omega
      generalize UV.apA L (A.take m) = M at *
      clear HI hru hgu hbu hs hst hX HQ HA HSM hz
      generalize M.length = k at *
      obtain ⟨x0, x1, x2⟩ := X
      simp only at c0 c1 c2 HC
      go_wp2_with fail
      refine HC.out.mono ?_
      rintro e w2 ⟨a2, c2', g2, rfl, hr2, hg2, hb2, hz2⟩
      have HK : Hid (UV.apA L (A.take (m + 1)) = UV.apU M ⟨x0, x1, x2⟩ ∧ (a2 = none → c2' = 0) ∧ AaS w (UV.apU M ⟨x0, x1, x2⟩) (.slice a2 (UV.apU M ⟨x0, x1, x2⟩).length c2') w2) := ⟨HJ.out, hz2, g2, hr2, by have := HB.out.size; omega, HB.out.trans (hb2.mono HB.out.size)⟩
      clear HC HJ HB hr2 hg2 hb2 hz2 c0 c1 c2
      generalize UV.apU M ⟨x0, x1, x2⟩ = M2 at *
      go_wp2
      go_roundw
      case rel => exact ⟨m + 1, a2, c2', by omega, by go_num, by rw [HK.out.1], HK.out.2.1, by rw [HK.out.1]; exact HK.out.2.2⟩
      case measure => simp [intOf]; omega
    · have hme : m = n := by omega
      subst hme
      have hall : UV.apA L (A.take m) = UV.apA L A := by rw [← hn]; exact UV.apA_all L A
      have HE : Hid (ApN (UV.apA L A) w (.returned (.slice au (UV.apA L (A.take m)).length cu)) wr) := by
        rw [← hall]
        exact ⟨au, cu, gu, rfl, hru, hgu, hbu, hz⟩
      clear HI hru hgu hbu hz hall HQ HA HSM
      go_wp2
      go_ret
      exact HE.out

end Go.Proofs.YthlgohplljcgfaaGreatDoor
