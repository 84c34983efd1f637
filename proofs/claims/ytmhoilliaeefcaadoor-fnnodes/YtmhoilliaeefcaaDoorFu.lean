/-
  What FoldUp answers, the program's and the specification's.
-/
import Derived.Test.YtmhoilliaeefcaaDoorEm
import Derived.Test.YtmhoilliaeefcaaDoorEh
import Derived.Test.YtmhoilliaeefcaaDoorPkD
import Derived.Test.YtmhoilliaeefcaaDoorRshort
namespace Go.Proofs.YtmhoilliaeefcaaDoor
open Go.RowKit Go.BigFrame
set_option linter.unusedVariables false
set_option linter.unusedSimpArgs false

namespace TR
variable {β : Type} {hN : β → β → β} {b : Nat → Bool}
theorem fold_snoc : ∀ (l : List β) (i : Nat) (h s : β), fold hN b i h (l ++ [s]) = if b (i + l.length) then hN s (fold hN b i h l) else hN (fold hN b i h l) s
  | [], i, h, s => rfl
  | a :: t, i, h, s => by
    have := fold_snoc t (i + 1) (if b i then hN a h else hN h a) s
    rw [show i + 1 + t.length = i + (a :: t).length by simp; omega] at this
    exact this
theorem fold_step {l : List β} {m : Nat} (hm : m < l.length) (h : β) : fold hN b 0 h (l.take (m + 1)) = if b m then hN l[m] (fold hN b 0 h (l.take m)) else hN (fold hN b 0 h (l.take m)) l[m] := by
  rw [List.take_succ_eq_append_getElem hm, fold_snoc]
  have : (l.take m).length = m := by simp; omega
  rw [this, Nat.zero_add]
end TR

theorem BitOf_at (x z : Int) (w : World) (h : 0 ≤ z ∧ z ≤ 7) : Calls Tryd.prog 63 #[.int .i64 x, .int .i64 z] w fun e w' => e = .returned (.int .i64 (bitI x z.toNat)) ∧ w' = w := by
  obtain ⟨k, rfl⟩ := Int.eq_ofNat_of_zero_le h.1
  exact BitOf_yes x k w (by omega)
theorem sBitOf_z (x z : Int) (w : World) (h : 0 ≤ z ∧ z ≤ 7) : Calls Tryd.prog 83 #[.int .i64 x, .int .i64 z] w fun e w' => e = .returned (.int .i64 (bitI x z.toNat)) ∧ w' = w := by
  obtain ⟨k, rfl⟩ := Int.eq_ofNat_of_zero_le h.1
  exact sBitOf_yes x k w (by omega)

/-- is the hash second at this step? -/
def fbB (ix : Int) (l i : Nat) : Bool := !decide (bitI ix (l - 1 - i) = 0)
def fuF (x ix : Int) (l : Nat) (h : ByteArray) (s : List ByteArray) : ByteArray := TR.fold (hnB x) (fbB ix l) 0 h s
/-- what FoldUp is -/
def fuB (h : ByteArray) (ix l : Int) (s : List ByteArray) (x : Int) : ByteArray := if (0 ≤ l ∧ l ≤ 8) ∧ (s.length : Int) ≤ l then fuF x ix l.toNat h s else ⟨#[]⟩

theorem fuF_step (x ix : Int) (l : Nat) (h : ByteArray) {s : List ByteArray} {m : Nat} (hm : m < s.length) : fuF x ix l h (s.take (m + 1)) = if bitI ix (l - 1 - m) = 0 then hashB 3 [fuF x ix l h (s.take m), s[m]] x else hashB 3 [s[m], fuF x ix l h (s.take m)] x := by
  unfold fuF
  rw [TR.fold_step hm]
  unfold fbB
  by_cases hb : bitI ix (l - 1 - m) = 0
  · rw [if_pos hb]; simp [hb]; rfl
  · rw [if_neg hb]; simp [hb]; rfl
theorem fuF_none (x ix : Int) (l : Nat) (h : ByteArray) : fuF x ix l h [] = h := rfl

def FuR (x ix : Int) (l : Nat) (h : ByteArray) (s : List ByteArray) (w : World) (u i : Value) (wr : World) : Prop := ∃ m : Nat, m ≤ s.length ∧ i = .int .i64 m ∧ u = .string (fuF x ix l h (s.take m)) ∧ Below w.heap.size w wr

set_option maxRecDepth 100000 in
set_option maxHeartbeats 1000000 in
theorem sFoldUp_yes (h : ByteArray) (ix : Int) (l : Nat) (v : Value) (g o : Nat) (s : List ByteArray) (x : Int) (w : World) (hv : SS w v g o s) (hl : l ≤ 8) (hs : s.length ≤ l) :
    Calls Tryd.prog 47 #[.string h, .int .i64 ix, .int .i64 (l : Int), v, .int .i64 x] w fun e w' => e = .returned (.string (fuF x ix l h s)) ∧ Below w.heap.size w w' := by
  have HV : Hid (SS w v g o s) := hv
  have hga := hv.lt
  obtain ⟨a, cap, rfl, _, hA, hc⟩ := hv
  obtain ⟨n, hn⟩ : ∃ n, s.length = n := ⟨_, rfl⟩
  have HA : Hid (0 < n → a = some ⟨g, o, none⟩ ∧ g < w.heap.size) := by rw [← hn]; exact fun h0 => ⟨hA h0, hga h0⟩
  have HC : Hid (∀ j (h : j < s.length), w.cell? ⟨g, o + j, none⟩ = some (.string s[j])) := hc
  have HN : Hid (s.length = n) := hn
  have d1 : decide (0 ≤ (l : Int) ∧ (l : Int) ≤ 8) = true := by simp; omega
  have HST : Hid (FuR x ix l h s w (.string h) (.int .i64 0) w) := ⟨0, by omega, rfl, rfl, Below.refl _ _⟩
  rw [hn] at hs ⊢
  have q1 : ¬ ((l : Int) < (n : Int)) := by omega
  have q2 : decide (l < n) = false := by simp; omega
  clear hA hga hc hn
  go_enter Tryd.func47, Tryd.ntmps47
  go_wp2_with fail
  refine (l01In_any _ _ _ _).mono ?_
  rintro e w1 ⟨rfl, rfl⟩
  rw [d1]
  go_wp2
  go_loopw [11, 12] (fun u i wr => FuR x ix l h s w1 u i wr) (fun _ i _ => n - (intOf i).toNat)
  case atStart => exact HST.out
  case round =>
    obtain ⟨m, hm, rfl, rfl, hbel⟩ := hrel
    clear HST
    rw [HN.out] at hm
    by_cases hlt : m < n
    · obtain ⟨ea, hgw⟩ := HA.out (by omega)
      subst ea
      have c0 : wr.cell? ⟨g, o + m, none⟩ = some (.string (s[m]'(by rw [HN.out]; exact hlt))) := (hbel.cell (p := ⟨g, o + m, none⟩) hgw).trans (HC.out m _)
      have hst := fuF_step x ix l h (s := s) (m := m) (by rw [HN.out]; exact hlt)
      generalize s[m]'(by rw [HN.out]; exact hlt) = X at *
      have i1 : (m : Int) < (n : Int) := by omega
      have i2 : (0 : Int) ≤ (m : Int) := by omega
      have i3 : (0 : Int) ≤ (l : Int) - 1 - (m : Int) := by omega
      have hbo := sBitOf_z ix ((l : Int) - 1 - (m : Int)) wr ⟨i3, by omega⟩
      have et : ((l : Int) - 1 - (m : Int)).toNat = l - 1 - m := by omega
      rw [et] at hbo
      have HNX : Hid (∀ W, Below wr.heap.size wr W → FuR x ix l h s w1 (.string (fuF x ix l h (s.take (m + 1)))) (.int .i64 ((m : Int) + 1)) W) := fun W hW => ⟨m + 1, by rw [HN.out]; omega, by congr 1, rfl, hbel.trans (hW.mono hbel.size)⟩
      rw [hst] at HNX
      generalize fuF x ix l h (s.take m) = U at *
      have ht1 := sTagHash_w x 3 [U, X] 2 #[.string U, .string X] wr _ rfl rfl (by omega) rfl
      have ht2 := sTagHash_w x 3 [X, U] 2 #[.string X, .string U] wr _ rfl rfl (by omega) rfl
      generalize hashB 3 [U, X] x = P1 at *
      generalize hashB 3 [X, U] x = P2 at *
      generalize bitI ix (l - 1 - m) = b at *
      clear hst HA HC HV et
      by_cases hb : b = 0
      · rw [if_pos hb] at HNX
        subst hb
        go_wp2_with fail
        refine hbo.mono ?_
        rintro e w2 ⟨rfl, rfl⟩
        clear hbo
        go_wp2_with fail
        refine ht1.out.mono ?_
        rintro e w3 ⟨rfl, hb3⟩
        have HF := HNX.out _ hb3
        have HF2 : Hid (FuR x ix l h s w1 (.string P1) (.int .i64 ((m : Int) + 1)) w3) := HF
        clear HF HNX ht1 ht2 c0 hb3
        go_wp2
        go_roundw
        case rel => exact HF2.out
        case measure => simp [intOf]; omega
      · rw [if_neg hb] at HNX
        have qb : (b == 0) = false := by simpa using hb
        go_wp2_with fail
        refine hbo.mono ?_
        rintro e w2 ⟨rfl, rfl⟩
        clear hbo hb
        go_wp2_with fail
        refine ht2.out.mono ?_
        rintro e w3 ⟨rfl, hb3⟩
        have HF := HNX.out _ hb3
        have HF2 : Hid (FuR x ix l h s w1 (.string P2) (.int .i64 ((m : Int) + 1)) w3) := HF
        clear HF HNX ht1 ht2 c0 hb3
        go_wp2
        go_roundw
        case rel => exact HF2.out
        case measure => simp [intOf]; omega
    · have hme : m = n := by omega
      have e : fuF x ix l h (s.take m) = fuF x ix l h s := by rw [List.take_of_length_le (by rw [HN.out]; omega)]
      rw [e]
      subst hme
      clear e HN HA HC HV
      go_wp2
      go_ret
      exact ⟨rfl, hbel⟩

theorem inOrder_0 (h s : ByteArray) (w : World) : Calls Tryd.prog 62 #[.string h, .string s, .int .i64 0] w fun e w' => e = .returned (.tuple #[.string h, .string s]) ∧ w' = w := by
  go_enter Tryd.func62, Tryd.ntmps62
  go_wp2
  go_ret2
  exact ⟨rfl, rfl⟩
theorem inOrder_1 (h s : ByteArray) (b : Int) (w : World) (hb : b ≠ 0) : Calls Tryd.prog 62 #[.string h, .string s, .int .i64 b] w fun e w' => e = .returned (.tuple #[.string s, .string h]) ∧ w' = w := by
  have qb : (b == 0) = false := by simpa using hb
  clear hb
  go_enter Tryd.func62, Tryd.ntmps62
  go_wp2
  go_ret2
  exact ⟨rfl, rfl⟩

set_option maxRecDepth 100000 in
set_option maxHeartbeats 1000000 in
theorem FoldUp_yes (h : ByteArray) (ix : Int) (l : Nat) (v : Value) (g o : Nat) (s : List ByteArray) (x : Int) (w : World) (hv : SS w v g o s) (hl : l ≤ 8) (hs : s.length ≤ l) (hh : h.size ≤ 1048576) (hT : Tb w) :
    Calls Tryd.prog 21 #[.string h, .int .i64 ix, .int .i64 (l : Int), v, .int .i64 x] w fun e w' => e = .returned (.string (fuF x ix l h s)) ∧ Below w.heap.size w w' := by
  have HV : Hid (SS w v g o s) := hv
  have HT : Hid (Tb w) := hT
  have hga := hv.lt
  obtain ⟨a, cap, rfl, _, hA, hc⟩ := hv
  obtain ⟨n, hn⟩ : ∃ n, s.length = n := ⟨_, rfl⟩
  have HA : Hid (0 < n → a = some ⟨g, o, none⟩ ∧ g < w.heap.size) := by rw [← hn]; exact fun h0 => ⟨hA h0, hga h0⟩
  have HC : Hid (∀ j (h : j < s.length), w.cell? ⟨g, o + j, none⟩ = some (.string s[j])) := hc
  have HN : Hid (s.length = n) := hn
  have d1 : decide (0 ≤ (l : Int) ∧ (l : Int) ≤ 8) = true := by simp; omega
  have HST : Hid (∀ W, Below w.heap.size w W → FuR x ix l h s w (.string h) (.int .i64 0) W) := fun W hW => ⟨0, by omega, rfl, rfl, hW⟩
  rw [hn] at hs ⊢
  have q1 : ¬ ((l : Int) < (n : Int)) := by omega
  have q2 : decide (l < n) = false := by simp; omega
  have hcl := Clone_any h w hh
  clear hA hga hc hn hT
  go_enter Tryd.func21, Tryd.ntmps21
  go_wp2_with fail
  refine (levelOk_any _ _).mono ?_
  rintro e w1 ⟨rfl, rfl⟩
  rw [d1]
  go_wp2_with fail
  refine hcl.mono ?_
  rintro e w2 ⟨rfl, hb2⟩
  have HS2 : Hid (FuR x ix l h s w1 (.string h) (.int .i64 0) w2) := HST.out _ hb2
  clear HST hcl hb2
  go_wp2
  go_loopw [11, 29] (fun u i wr => FuR x ix l h s w1 u i wr) (fun _ i _ => n - (intOf i).toNat)
  case atStart => exact HS2.out
  case round =>
    obtain ⟨m, hm, rfl, rfl, hbel⟩ := hrel
    clear HS2
    rw [HN.out] at hm
    by_cases hlt : m < n
    · obtain ⟨ea, hgw⟩ := HA.out (by omega)
      subst ea
      have c0 : wr.cell? ⟨g, o + m, none⟩ = some (.string (s[m]'(by rw [HN.out]; exact hlt))) := (hbel.cell (p := ⟨g, o + m, none⟩) hgw).trans (HC.out m _)
      have hst := fuF_step x ix l h (s := s) (m := m) (by rw [HN.out]; exact hlt)
      generalize s[m]'(by rw [HN.out]; exact hlt) = X at *
      have i1 : (m : Int) < (n : Int) := by omega
      have i2 : (0 : Int) ≤ (m : Int) := by omega
      have i3 : (0 : Int) ≤ (l : Int) - 1 - (m : Int) := by omega
      have hbo := BitOf_at ix ((l : Int) - 1 - (m : Int)) wr ⟨i3, by omega⟩
      have et : ((l : Int) - 1 - (m : Int)).toNat = l - 1 - m := by omega
      rw [et] at hbo
      have HNX : Hid (∀ W, Below wr.heap.size wr W → FuR x ix l h s w1 (.string (fuF x ix l h (s.take (m + 1)))) (.int .i64 ((m : Int) + 1)) W) := fun W hW => ⟨m + 1, by rw [HN.out]; omega, by congr 1, rfl, hbel.trans (hW.mono hbel.size)⟩
      rw [hst] at HNX
      have hT1 := HT.out.later hbel
      generalize fuF x ix l h (s.take m) = U at *
      have ht1 := taggedHash_w x 3 [U, X] 2 #[.string U, .string X] wr _ rfl rfl (by omega) rfl hT1
      have ht2 := taggedHash_w x 3 [X, U] 2 #[.string X, .string U] wr _ rfl rfl (by omega) rfl hT1
      generalize hashB 3 [U, X] x = P1 at *
      generalize hashB 3 [X, U] x = P2 at *
      generalize bitI ix (l - 1 - m) = b at *
      clear hst HA HC HV et hT1
      by_cases hb : b = 0
      · rw [if_pos hb] at HNX
        subst hb
        go_wp2_with fail
        refine hbo.mono ?_
        rintro e w2 ⟨rfl, rfl⟩
        clear hbo
        go_wp2_with fail
        refine (inOrder_0 _ _ _).mono ?_
        rintro e w2 ⟨rfl, rfl⟩
        go_wp2_with fail
        refine ht1.out.mono ?_
        rintro e w3 ⟨rfl, hb3⟩
        have HF := HNX.out _ hb3
        have HF2 : Hid (FuR x ix l h s w1 (.string P1) (.int .i64 ((m : Int) + 1)) w3) := HF
        clear HF HNX ht1 ht2 c0 hb3
        go_wp2
        go_roundw
        case rel => exact HF2.out
        case measure => simp [intOf]; omega
      · rw [if_neg hb] at HNX
        go_wp2_with fail
        refine hbo.mono ?_
        rintro e w2 ⟨rfl, rfl⟩
        clear hbo
        go_wp2_with fail
        refine (inOrder_1 _ _ _ _ hb).mono ?_
        rintro e w2 ⟨rfl, rfl⟩
        clear hb
        go_wp2_with fail
        refine ht2.out.mono ?_
        rintro e w3 ⟨rfl, hb3⟩
        have HF := HNX.out _ hb3
        have HF2 : Hid (FuR x ix l h s w1 (.string P2) (.int .i64 ((m : Int) + 1)) w3) := HF
        clear HF HNX ht1 ht2 c0 hb3
        go_wp2
        go_roundw
        case rel => exact HF2.out
        case measure => simp [intOf]; omega
    · have hme : m = n := by omega
      have e : fuF x ix l h (s.take m) = fuF x ix l h s := by rw [List.take_of_length_le (by rw [HN.out]; omega)]
      rw [e]
      subst hme
      clear e HN HA HC HV
      go_wp2
      go_ret
      exact ⟨rfl, hbel⟩

theorem sFoldUp_any (h : ByteArray) (ix l : Int) (v : Value) (g o : Nat) (s : List ByteArray) (x : Int) (w : World) (hv : SS w v g o s) :
    Calls Tryd.prog 47 #[.string h, .int .i64 ix, .int .i64 l, v, .int .i64 x] w fun e w' => e = .returned (.string (fuB h ix l s x)) ∧ Below w.heap.size w w' := by
  unfold fuB
  by_cases h1 : 0 ≤ l ∧ l ≤ 8
  · obtain ⟨k, rfl⟩ := Int.eq_ofNat_of_zero_le h1.1
    by_cases h2 : (s.length : Int) ≤ (k : Int)
    · rw [if_pos ⟨h1, h2⟩]
      exact sFoldUp_yes h ix k v g o s x w hv (by omega) (by omega)
    · rw [if_neg (fun h => h2 h.2)]
      obtain ⟨a, cap, rfl, hl, hrest⟩ := hv
      clear hrest
      generalize s.length = n at *
      have d1 : decide (0 ≤ (k : Int) ∧ (k : Int) ≤ 8) = true := by simp; omega
      have q1 : (k : Int) < (n : Int) := by omega
      clear h2
      go_enter Tryd.func47, Tryd.ntmps47
      go_wp2_with fail
      refine (l01In_any _ _ _ _).mono ?_
      rintro e w1 ⟨rfl, rfl⟩
      rw [d1]
      go_wp2
      go_ret
      exact ⟨rfl, Below.refl _ _⟩
  · rw [if_neg (fun h => h1 h.1)]
    obtain ⟨a, cap, rfl, hl, _⟩ := hv
    have d1 : decide (0 ≤ l ∧ l ≤ 8) = false := by simpa using h1
    clear h1
    go_enter Tryd.func47, Tryd.ntmps47
    go_wp2_with fail
    refine (l01In_any _ _ _ _).mono ?_
    rintro e w1 ⟨rfl, rfl⟩
    rw [d1]
    go_wp2
    go_ret
    exact ⟨rfl, Below.refl _ _⟩
theorem FoldUp_any (h : ByteArray) (ix l : Int) (v : Value) (g o : Nat) (s : List ByteArray) (x : Int) (w : World) (hv : SS w v g o s) (hh : h.size ≤ 1048576) (hT : Tb w) :
    Calls Tryd.prog 21 #[.string h, .int .i64 ix, .int .i64 l, v, .int .i64 x] w fun e w' => e = .returned (.string (fuB h ix l s x)) ∧ Below w.heap.size w w' := by
  unfold fuB
  by_cases h1 : 0 ≤ l ∧ l ≤ 8
  · obtain ⟨k, rfl⟩ := Int.eq_ofNat_of_zero_le h1.1
    by_cases h2 : (s.length : Int) ≤ (k : Int)
    · rw [if_pos ⟨h1, h2⟩]
      exact FoldUp_yes h ix k v g o s x w hv (by omega) (by omega) hh hT
    · rw [if_neg (fun h => h2 h.2)]
      obtain ⟨a, cap, rfl, hl, hrest⟩ := hv
      clear hrest
      generalize s.length = n at *
      have d1 : decide (0 ≤ (k : Int) ∧ (k : Int) ≤ 8) = true := by simp; omega
      have q1 : (k : Int) < (n : Int) := by omega
      clear h2 hT
      go_enter Tryd.func21, Tryd.ntmps21
      go_wp2_with fail
      refine (levelOk_any _ _).mono ?_
      rintro e w1 ⟨rfl, rfl⟩
      rw [d1]
      go_wp2
      go_ret
      exact ⟨rfl, Below.refl _ _⟩
  · rw [if_neg (fun h => h1 h.1)]
    obtain ⟨a, cap, rfl, hl, _⟩ := hv
    have d1 : decide (0 ≤ l ∧ l ≤ 8) = false := by simpa using h1
    clear h1 hT
    go_enter Tryd.func21, Tryd.ntmps21
    go_wp2_with fail
    refine (levelOk_any _ _).mono ?_
    rintro e w1 ⟨rfl, rfl⟩
    rw [d1]
    go_wp2
    go_ret
    exact ⟨rfl, Below.refl _ _⟩

end Go.Proofs.YtmhoilliaeefcaaDoor
