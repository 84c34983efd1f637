/-
  The law FnNumbers, walked.
-/
import Derived.Test.YtihdpbdfadpahaaDoorNum
import Derived.Test.YtihdpbdfadpahaaDoorDrawc
import Derived.Deep.QuietTactic
import Derived.BigQuiet
namespace Go.Proofs.YtihdpbdfadpahaaDoor
open Go.RowKit
set_option linter.unusedVariables false

theorem code_later {w w' : World} {v : Value} (h : Code w.heap.size w v) (hb : Below w.heap.size w w') : Code w'.heap.size w' v := by
  obtain ⟨ao, b, off, len, cap, rfl, hl, h1, h2⟩ := h
  refine ⟨ao, b, off, len, cap, rfl, hl, fun h0 => ⟨(h1 h0).1, Nat.lt_of_lt_of_le (h1 h0).2 hb.size⟩, fun j hj => ?_⟩
  obtain ⟨n, hn, hc⟩ := h2 j hj
  exact ⟨n, hn, (hb.cell (p := ⟨b, off + j, none⟩) (h1 (by omega)).2).trans hc⟩

abbrev Pow (w : World) : Prop := Lib.TabIs Tryd.prog w "internal/strconv.uint64pow10" .u64 Lib.pow10Tab
theorem pow_later {w w' : World} (h : Pow w) (hb : Below w.heap.size w w') : Pow w' := Lib.tabBelow_of_tabIs h w' hb

set_option maxRecDepth 100000 in
set_option maxHeartbeats 4000000 in
theorem law_any (ao : Option Addr) (len cap : Nat) (w : World) (hc : Code w.heap.size w (.slice ao len cap)) (hT : Pow w) :
    Calls Tryd.prog 3 #[.slice ao len cap] w fun e w' => e = .returned (.bool true) ∧ Below w.heap.size w w' := by
  have hlen : len ≤ 1048576 := by obtain ⟨_, _, _, _, _, he, hl, _⟩ := hc; cases he; exact hl
  have HC : Hid (Code w.heap.size w (.slice ao len cap)) := hc
  have HT : Hid (Pow w) := hT
  clear hc hT
  go_enter Tryd.func3, Tryd.ntmps3
  go_wp2_with fail
  refine (big_no ao len cap _ hlen).mono ?_
  rintro e w1 ⟨rfl, rfl⟩
  go_wp2_with fail
  refine (DrawVarText_in _ _ HC.out).mono ?_
  rintro e w2 ⟨y, hy, rfl, hb2⟩
  rcases (show y < 0 ∨ 1000000000 < y ∨ ∃ m : Nat, y = (m : Int) ∧ m ≤ 1000000000 by rcases Int.lt_or_le y 0 with h | h; exact .inl h; rcases Int.lt_or_le 1000000000 y with h2 | h2; exact .inr (.inl h2); exact .inr (.inr ⟨y.toNat, by omega, by omega⟩)) with h | h | ⟨m, rfl, hm⟩
  · skip
    go_wp2_with fail
    obtain ⟨m, hme⟩ : ∃ m : Nat, (12345 : Int) = (m : Int) := ⟨12345, rfl⟩
    have hm : m ≤ 1000000000 := by omega
    rw [hme]
    clear hme
    have hv := varB_size m
    refine (VarText_b m _ hm).mono ?_
    rintro e w3 ⟨rfl, hb3⟩
    have b3 := hb2.trans (hb3.mono hb2.size)
    go_wp2_with fail
    refine (ReadVar_b m _ hm).mono ?_
    rintro e w4 ⟨rfl, rfl⟩
    have hP := pow_later HT.out b3
    have HP : Hid (Pow w4) := hP
    clear hP
    go_wp2_with fail
    refine (Decimal_b m _ hm HP.out).mono ?_
    rintro e w5 ⟨rfl, hb5⟩
    have b5 := b3.trans (hb5.mono b3.size)
    go_wp2_with fail
    refine (ReadDecimal_b m _ hm).mono ?_
    rintro e w6 ⟨rfl, hb6⟩
    have b6 := b5.trans (hb6.mono b5.size)
    have hc6 := code_later HC.out b6
    have HC6 : Hid (Code w6.heap.size w6 (.slice ao len cap)) := hc6
    clear hc6
    go_wp2_with fail
    refine (DrawHex_in _ _ HC6.out).mono ?_
    rintro e w7 ⟨l, hl, rfl, hb7⟩
    have b7 := b6.trans (hb7.mono b6.size)
    obtain ⟨t0, ht0⟩ : ∃ t : ByteArray, t = ⟨l.toArray⟩ := ⟨_, rfl⟩
    have hz0 : t0.size ≤ 20001 := by subst ht0; exact hl
    rw [← ht0]
    clear ht0 hl hb5 hb6 hb7 b5 b6 hb3 b3 hb2
    by_cases h300 : 300 < t0.size
    · skip
      go_wp2_with fail
      obtain ⟨t, hte⟩ : ∃ t : ByteArray, (⟨#[97, 98, 99]⟩ : ByteArray) = t := ⟨_, rfl⟩
      have hz : t.size ≤ 300 := by rw [← hte]; show 3 ≤ 300; omega
      rw [hte]
      clear hte
      refine (Short_b t _ (by omega)).mono ?_
      rintro e w8 ⟨rfl, hb8⟩
      have b8 := b7.trans (hb8.mono b7.size)
      go_wp2_with fail
      refine (ReadShort_b t _ (by omega)).mono ?_
      rintro e w9 ⟨rfl, hb9⟩
      have b9 := b8.trans (hb9.mono b8.size)
      go_wp2_with fail
      refine (Hex_b t _ (by omega)).mono ?_
      rintro e w10 ⟨rfl, hb10⟩
      have b10 := b9.trans (hb10.mono b9.size)
      go_wp2_with fail
      refine (Unhex_b t _ (by omega)).mono ?_
      rintro e w11 ⟨rfl, hb11⟩
      have b11 := b10.trans (hb11.mono b10.size)
      have hsz := shortB_size t
      have hvz := varB_size t.size
      clear hb8 hb9 hb10 hb11 b7 b8 b9 b10
      go_wp2
      go_ret
      exact ⟨rfl, b11⟩
    · have hz : t0.size ≤ 300 := by omega
      go_wp2_with fail
      refine (Short_b t0 _ (by omega)).mono ?_
      rintro e w8 ⟨rfl, hb8⟩
      have b8 := b7.trans (hb8.mono b7.size)
      go_wp2_with fail
      refine (ReadShort_b t0 _ (by omega)).mono ?_
      rintro e w9 ⟨rfl, hb9⟩
      have b9 := b8.trans (hb9.mono b8.size)
      go_wp2_with fail
      refine (Hex_b t0 _ (by omega)).mono ?_
      rintro e w10 ⟨rfl, hb10⟩
      have b10 := b9.trans (hb10.mono b9.size)
      go_wp2_with fail
      refine (Unhex_b t0 _ (by omega)).mono ?_
      rintro e w11 ⟨rfl, hb11⟩
      have b11 := b10.trans (hb11.mono b10.size)
      have hsz := shortB_size t0
      have hvz := varB_size t0.size
      clear hb8 hb9 hb10 hb11 b7 b8 b9 b10
      go_wp2
      go_ret
      exact ⟨rfl, b11⟩
  · have h' : ¬ y < 0 := by omega
    go_wp2_with fail
    obtain ⟨m, hme⟩ : ∃ m : Nat, (12345 : Int) = (m : Int) := ⟨12345, rfl⟩
    have hm : m ≤ 1000000000 := by omega
    rw [hme]
    clear hme
    have hv := varB_size m
    refine (VarText_b m _ hm).mono ?_
    rintro e w3 ⟨rfl, hb3⟩
    have b3 := hb2.trans (hb3.mono hb2.size)
    go_wp2_with fail
    refine (ReadVar_b m _ hm).mono ?_
    rintro e w4 ⟨rfl, rfl⟩
    have hP := pow_later HT.out b3
    have HP : Hid (Pow w4) := hP
    clear hP
    go_wp2_with fail
    refine (Decimal_b m _ hm HP.out).mono ?_
    rintro e w5 ⟨rfl, hb5⟩
    have b5 := b3.trans (hb5.mono b3.size)
    go_wp2_with fail
    refine (ReadDecimal_b m _ hm).mono ?_
    rintro e w6 ⟨rfl, hb6⟩
    have b6 := b5.trans (hb6.mono b5.size)
    have hc6 := code_later HC.out b6
    have HC6 : Hid (Code w6.heap.size w6 (.slice ao len cap)) := hc6
    clear hc6
    go_wp2_with fail
    refine (DrawHex_in _ _ HC6.out).mono ?_
    rintro e w7 ⟨l, hl, rfl, hb7⟩
    have b7 := b6.trans (hb7.mono b6.size)
    obtain ⟨t0, ht0⟩ : ∃ t : ByteArray, t = ⟨l.toArray⟩ := ⟨_, rfl⟩
    have hz0 : t0.size ≤ 20001 := by subst ht0; exact hl
    rw [← ht0]
    clear ht0 hl hb5 hb6 hb7 b5 b6 hb3 b3 hb2
    by_cases h300 : 300 < t0.size
    · skip
      go_wp2_with fail
      obtain ⟨t, hte⟩ : ∃ t : ByteArray, (⟨#[97, 98, 99]⟩ : ByteArray) = t := ⟨_, rfl⟩
      have hz : t.size ≤ 300 := by rw [← hte]; show 3 ≤ 300; omega
      rw [hte]
      clear hte
      refine (Short_b t _ (by omega)).mono ?_
      rintro e w8 ⟨rfl, hb8⟩
      have b8 := b7.trans (hb8.mono b7.size)
      go_wp2_with fail
      refine (ReadShort_b t _ (by omega)).mono ?_
      rintro e w9 ⟨rfl, hb9⟩
      have b9 := b8.trans (hb9.mono b8.size)
      go_wp2_with fail
      refine (Hex_b t _ (by omega)).mono ?_
      rintro e w10 ⟨rfl, hb10⟩
      have b10 := b9.trans (hb10.mono b9.size)
      go_wp2_with fail
      refine (Unhex_b t _ (by omega)).mono ?_
      rintro e w11 ⟨rfl, hb11⟩
      have b11 := b10.trans (hb11.mono b10.size)
      have hsz := shortB_size t
      have hvz := varB_size t.size
      clear hb8 hb9 hb10 hb11 b7 b8 b9 b10
      go_wp2
      go_ret
      exact ⟨rfl, b11⟩
    · have hz : t0.size ≤ 300 := by omega
      go_wp2_with fail
      refine (Short_b t0 _ (by omega)).mono ?_
      rintro e w8 ⟨rfl, hb8⟩
      have b8 := b7.trans (hb8.mono b7.size)
      go_wp2_with fail
      refine (ReadShort_b t0 _ (by omega)).mono ?_
      rintro e w9 ⟨rfl, hb9⟩
      have b9 := b8.trans (hb9.mono b8.size)
      go_wp2_with fail
      refine (Hex_b t0 _ (by omega)).mono ?_
      rintro e w10 ⟨rfl, hb10⟩
      have b10 := b9.trans (hb10.mono b9.size)
      go_wp2_with fail
      refine (Unhex_b t0 _ (by omega)).mono ?_
      rintro e w11 ⟨rfl, hb11⟩
      have b11 := b10.trans (hb11.mono b10.size)
      have hsz := shortB_size t0
      have hvz := varB_size t0.size
      clear hb8 hb9 hb10 hb11 b7 b8 b9 b10
      go_wp2
      go_ret
      exact ⟨rfl, b11⟩
  · clear hy
    have hv := varB_size m
    go_wp2_with fail
    refine (VarText_b m _ hm).mono ?_
    rintro e w3 ⟨rfl, hb3⟩
    have b3 := hb2.trans (hb3.mono hb2.size)
    go_wp2_with fail
    refine (ReadVar_b m _ hm).mono ?_
    rintro e w4 ⟨rfl, rfl⟩
    have hP := pow_later HT.out b3
    have HP : Hid (Pow w4) := hP
    clear hP
    go_wp2_with fail
    refine (Decimal_b m _ hm HP.out).mono ?_
    rintro e w5 ⟨rfl, hb5⟩
    have b5 := b3.trans (hb5.mono b3.size)
    go_wp2_with fail
    refine (ReadDecimal_b m _ hm).mono ?_
    rintro e w6 ⟨rfl, hb6⟩
    have b6 := b5.trans (hb6.mono b5.size)
    have hc6 := code_later HC.out b6
    have HC6 : Hid (Code w6.heap.size w6 (.slice ao len cap)) := hc6
    clear hc6
    go_wp2_with fail
    refine (DrawHex_in _ _ HC6.out).mono ?_
    rintro e w7 ⟨l, hl, rfl, hb7⟩
    have b7 := b6.trans (hb7.mono b6.size)
    obtain ⟨t0, ht0⟩ : ∃ t : ByteArray, t = ⟨l.toArray⟩ := ⟨_, rfl⟩
    have hz0 : t0.size ≤ 20001 := by subst ht0; exact hl
    rw [← ht0]
    clear ht0 hl hb5 hb6 hb7 b5 b6 hb3 b3 hb2
    by_cases h300 : 300 < t0.size
    · skip
      go_wp2_with fail
      obtain ⟨t, hte⟩ : ∃ t : ByteArray, (⟨#[97, 98, 99]⟩ : ByteArray) = t := ⟨_, rfl⟩
      have hz : t.size ≤ 300 := by rw [← hte]; show 3 ≤ 300; omega
      rw [hte]
      clear hte
      refine (Short_b t _ (by omega)).mono ?_
      rintro e w8 ⟨rfl, hb8⟩
      have b8 := b7.trans (hb8.mono b7.size)
      go_wp2_with fail
      refine (ReadShort_b t _ (by omega)).mono ?_
      rintro e w9 ⟨rfl, hb9⟩
      have b9 := b8.trans (hb9.mono b8.size)
      go_wp2_with fail
      refine (Hex_b t _ (by omega)).mono ?_
      rintro e w10 ⟨rfl, hb10⟩
      have b10 := b9.trans (hb10.mono b9.size)
      go_wp2_with fail
      refine (Unhex_b t _ (by omega)).mono ?_
      rintro e w11 ⟨rfl, hb11⟩
      have b11 := b10.trans (hb11.mono b10.size)
      have hsz := shortB_size t
      have hvz := varB_size t.size
      clear hb8 hb9 hb10 hb11 b7 b8 b9 b10
      go_wp2
      go_ret
      exact ⟨rfl, b11⟩
    · have hz : t0.size ≤ 300 := by omega
      go_wp2_with fail
      refine (Short_b t0 _ (by omega)).mono ?_
      rintro e w8 ⟨rfl, hb8⟩
      have b8 := b7.trans (hb8.mono b7.size)
      go_wp2_with fail
      refine (ReadShort_b t0 _ (by omega)).mono ?_
      rintro e w9 ⟨rfl, hb9⟩
      have b9 := b8.trans (hb9.mono b8.size)
      go_wp2_with fail
      refine (Hex_b t0 _ (by omega)).mono ?_
      rintro e w10 ⟨rfl, hb10⟩
      have b10 := b9.trans (hb10.mono b9.size)
      go_wp2_with fail
      refine (Unhex_b t0 _ (by omega)).mono ?_
      rintro e w11 ⟨rfl, hb11⟩
      have b11 := b10.trans (hb11.mono b10.size)
      have hsz := shortB_size t0
      have hvz := varB_size t0.size
      clear hb8 hb9 hb10 hb11 b7 b8 b9 b10
      go_wp2
      go_ret
      exact ⟨rfl, b11⟩

end Go.Proofs.YtihdpbdfadpahaaDoor
