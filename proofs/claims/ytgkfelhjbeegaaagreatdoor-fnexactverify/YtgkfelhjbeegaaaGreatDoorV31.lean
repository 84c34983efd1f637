/-
  Texts laid together: Fu, Sb, Si, Rf.
-/
import Derived.Test.YtgkfelhjbeegaaaGreatDoorV27
import Derived.Test.YtgkfelhjbeegaaaGreatDoorV28
import Derived.Test.YtgkfelhjbeegaaaGreatDoorV05
import Derived.Test.YtgkfelhjbeegaaaGreatDoorV06
import Derived.Test.YtgkfelhjbeegaaaGreatDoorV30
/-
  What FoldUp answers, the program's and the specification's.
-/
namespace Go.Proofs.YtgkfelhjbeegaaaGreatDoor
open Go.RowKit Go.BigFrame
set_option linter.unusedVariables false
set_option linter.unusedSimpArgs false

namespace TR
variable {β : Type} {hN : β → β → β} {b : Nat → Bool}
theorem fold_snoc : ∀ (l : List β) (i : Nat) (h s : β), fold hN b i h (l ++ [s]) = if b (i + l.length) then hN s (fold hN b i h l) else hN (fold hN b i h l) s
  | [], i, h, s => rfl
  | a :: t, i, h, s => by
    have := fold_snoc t (i + 1) (if b i then hN a h else hN h a) s
    rw [show i + 1 + t.length = i + (a :: t).length by simp; omega] at this
    exact this
theorem fold_step {l : List β} {m : Nat} (hm : m < l.length) (h : β) : fold hN b 0 h (l.take (m + 1)) = if b m then hN l[m] (fold hN b 0 h (l.take m)) else hN (fold hN b 0 h (l.take m)) l[m] := by
  rw [List.take_succ_eq_append_getElem hm, fold_snoc]
  have : (l.take m).length = m := by simp; omega
  rw [this, Nat.zero_add]
end TR

theorem BitOf_at (x z : Int) (w : World) (h : 0 ≤ z ∧ z ≤ 7) : Calls Tryz.prog 110 #[.int .i64 x, .int .i64 z] w fun e w' => e = .returned (.int .i64 (bitI x z.toNat)) ∧ w' = w := by
  obtain ⟨k, rfl⟩ := Int.eq_ofNat_of_zero_le h.1
  exact BitOf_yes x k w (by omega)
theorem sBitOf_z (x z : Int) (w : World) (h : 0 ≤ z ∧ z ≤ 7) : Calls Tryz.prog 45 #[.int .i64 x, .int .i64 z] w fun e w' => e = .returned (.int .i64 (bitI x z.toNat)) ∧ w' = w := by
  obtain ⟨k, rfl⟩ := Int.eq_ofNat_of_zero_le h.1
  exact sBitOf_yes x k w (by omega)

/-- is the hash second at this step? -/
def fbB (ix : Int) (l i : Nat) : Bool := !decide (bitI ix (l - 1 - i) = 0)
def fuF (x ix : Int) (l : Nat) (h : ByteArray) (s : List ByteArray) : ByteArray := TR.fold (hnB x) (fbB ix l) 0 h s
/-- what FoldUp is -/
def fuB (h : ByteArray) (ix l : Int) (s : List ByteArray) (x : Int) : ByteArray := if (0 ≤ l ∧ l ≤ 8) ∧ (s.length : Int) ≤ l then fuF x ix l.toNat h s else ⟨#[]⟩

theorem fuF_step (x ix : Int) (l : Nat) (h : ByteArray) {s : List ByteArray} {m : Nat} (hm : m < s.length) : fuF x ix l h (s.take (m + 1)) = if bitI ix (l - 1 - m) = 0 then hashB 3 [fuF x ix l h (s.take m), s[m]] x else hashB 3 [s[m], fuF x ix l h (s.take m)] x := by
  unfold fuF
  rw [TR.fold_step hm]
  unfold fbB
  by_cases hb : bitI ix (l - 1 - m) = 0
  · rw [if_pos hb]; simp [hb]; rfl
  · rw [if_neg hb]; simp [hb]; rfl
theorem fuF_none (x ix : Int) (l : Nat) (h : ByteArray) : fuF x ix l h [] = h := rfl

def FuR (x ix : Int) (l : Nat) (h : ByteArray) (s : List ByteArray) (w : World) (u i : Value) (wr : World) : Prop := ∃ m : Nat, m ≤ s.length ∧ i = .int .i64 m ∧ u = .string (fuF x ix l h (s.take m)) ∧ Below w.heap.size w wr

set_option maxRecDepth 100000 in
set_option maxHeartbeats 1000000 in
theorem sFoldUp_yes (h : ByteArray) (ix : Int) (l : Nat) (v : Value) (g o : Nat) (s : List ByteArray) (x : Int) (w : World) (hv : SS w v g o s) (hl : l ≤ 8) (hs : s.length ≤ l) :
    Calls Tryz.prog 18 #[.string h, .int .i64 ix, .int .i64 (l : Int), v, .int .i64 x] w fun e w' => e = .returned (.string (fuF x ix l h s)) ∧ Below w.heap.size w w' := by
  have HV : Hid (SS w v g o s) := hv
  have hga := hv.lt
  obtain ⟨a, cap, rfl, _, hA, hc⟩ := hv
  obtain ⟨n, hn⟩ : ∃ n, s.length = n := ⟨_, rfl⟩
  have HA : Hid (0 < n → a = some ⟨g, o, none⟩ ∧ g < w.heap.size) := by rw [← hn]; exact fun h0 => ⟨hA h0, hga h0⟩
  have HC : Hid (∀ j (h : j < s.length), w.cell? ⟨g, o + j, none⟩ = some (.string s[j])) := hc
  have HN : Hid (s.length = n) := hn
  have d1 : decide (0 ≤ (l : Int) ∧ (l : Int) ≤ 8) = true := by simp; omega
  have HST : Hid (FuR x ix l h s w (.string h) (.int .i64 0) w) := ⟨0, by omega, rfl, rfl, Below.refl _ _⟩
  rw [hn] at hs ⊢
  have q1 : ¬ ((l : Int) < (n : Int)) := by omega
  have q2 : decide (l < n) = false := by simp; omega
  clear hA hga hc hn
  go_enter Tryz.func18, Tryz.ntmps18
  go_wp2_with fail
  refine (l01In_any _ _ _ _).mono ?_
  rintro e w1 ⟨rfl, rfl⟩
  rw [d1]
  go_wp2
  go_loopw [11, 12] (fun u i wr => FuR x ix l h s w1 u i wr) (fun _ i _ => n - (intOf i).toNat)
  case atStart => exact HST.out
  case round =>
    obtain ⟨m, hm, rfl, rfl, hbel⟩ := hrel
    clear HST
    rw [HN.out] at hm
    by_cases hlt : m < n
    · obtain ⟨ea, hgw⟩ := HA.out (by omega)
      subst ea
      have c0 : wr.cell? ⟨g, o + m, none⟩ = some (.string (s[m]'(by rw [HN.out]; exact hlt))) := (hbel.cell (p := ⟨g, o + m, none⟩) hgw).trans (HC.out m _)
      have hst := fuF_step x ix l h (s := s) (m := m) (by rw [HN.out]; exact hlt)
      generalize s[m]'(by rw [HN.out]; exact hlt) = X at *
      have i1 : (m : Int) < (n : Int) := by omega
      have i2 : (0 : Int) ≤ (m : Int) := by omega
      have i3 : (0 : Int) ≤ (l : Int) - 1 - (m : Int) := by omega
      have hbo := sBitOf_z ix ((l : Int) - 1 - (m : Int)) wr ⟨i3, by omega⟩
      have et : ((l : Int) - 1 - (m : Int)).toNat = l - 1 - m := by omega
      rw [et] at hbo
      have HNX : Hid (∀ W, Below wr.heap.size wr W → FuR x ix l h s w1 (.string (fuF x ix l h (s.take (m + 1)))) (.int .i64 ((m : Int) + 1)) W) := fun W hW => ⟨m + 1, by rw [HN.out]; omega, by congr 1, rfl, hbel.trans (hW.mono hbel.size)⟩
      rw [hst] at HNX
      generalize fuF x ix l h (s.take m) = U at *
      have ht1 := sTagHash_w x 3 [U, X] 2 #[.string U, .string X] wr _ rfl rfl (by omega) rfl
      have ht2 := sTagHash_w x 3 [X, U] 2 #[.string X, .string U] wr _ rfl rfl (by omega) rfl
      generalize hashB 3 [U, X] x = P1 at *
      generalize hashB 3 [X, U] x = P2 at *
      generalize bitI ix (l - 1 - m) = b at *
      clear hst HA HC HV et
      by_cases hb : b = 0
      · rw [if_pos hb] at HNX
        subst hb
        go_wp2_with fail
        refine hbo.mono ?_
        rintro e w2 ⟨rfl, rfl⟩
        clear hbo
        go_wp2_with fail
        refine ht1.out.mono ?_
        rintro e w3 ⟨rfl, hb3⟩
        have HF := HNX.out _ hb3
        have HF2 : Hid (FuR x ix l h s w1 (.string P1) (.int .i64 ((m : Int) + 1)) w3) := HF
        clear HF HNX ht1 ht2 c0 hb3
        go_wp2
        go_roundw
        case rel => exact HF2.out
        case measure => simp [intOf]; omega
      · rw [if_neg hb] at HNX
        have qb : (b == 0) = false := by simpa using hb
        go_wp2_with fail
        refine hbo.mono ?_
        rintro e w2 ⟨rfl, rfl⟩
        clear hbo hb
        go_wp2_with fail
        refine ht2.out.mono ?_
        rintro e w3 ⟨rfl, hb3⟩
        have HF := HNX.out _ hb3
        have HF2 : Hid (FuR x ix l h s w1 (.string P2) (.int .i64 ((m : Int) + 1)) w3) := HF
        clear HF HNX ht1 ht2 c0 hb3
        go_wp2
        go_roundw
        case rel => exact HF2.out
        case measure => simp [intOf]; omega
    · have hme : m = n := by omega
      have e : fuF x ix l h (s.take m) = fuF x ix l h s := by rw [List.take_of_length_le (by rw [HN.out]; omega)]
      rw [e]
      subst hme
      clear e HN HA HC HV
      go_wp2
      go_ret
      exact ⟨rfl, hbel⟩

theorem inOrder_0 (h s : ByteArray) (w : World) : Calls Tryz.prog 109 #[.string h, .string s, .int .i64 0] w fun e w' => e = .returned (.tuple #[.string h, .string s]) ∧ w' = w := by
  go_enter Tryz.func109, Tryz.ntmps109
  go_wp2
  go_ret2
  exact ⟨rfl, rfl⟩
theorem inOrder_1 (h s : ByteArray) (b : Int) (w : World) (hb : b ≠ 0) : Calls Tryz.prog 109 #[.string h, .string s, .int .i64 b] w fun e w' => e = .returned (.tuple #[.string s, .string h]) ∧ w' = w := by
  have qb : (b == 0) = false := by simpa using hb
  clear hb
  go_enter Tryz.func109, Tryz.ntmps109
  go_wp2
  go_ret2
  exact ⟨rfl, rfl⟩

set_option maxRecDepth 100000 in
set_option maxHeartbeats 1000000 in
theorem FoldUp_yes (h : ByteArray) (ix : Int) (l : Nat) (v : Value) (g o : Nat) (s : List ByteArray) (x : Int) (w : World) (hv : SS w v g o s) (hl : l ≤ 8) (hs : s.length ≤ l) (hh : h.size ≤ 1048576) (hT : Tb w) :
    Calls Tryz.prog 88 #[.string h, .int .i64 ix, .int .i64 (l : Int), v, .int .i64 x] w fun e w' => e = .returned (.string (fuF x ix l h s)) ∧ Below w.heap.size w w' := by
  have HV : Hid (SS w v g o s) := hv
  have HT : Hid (Tb w) := hT
  have hga := hv.lt
  obtain ⟨a, cap, rfl, _, hA, hc⟩ := hv
  obtain ⟨n, hn⟩ : ∃ n, s.length = n := ⟨_, rfl⟩
  have HA : Hid (0 < n → a = some ⟨g, o, none⟩ ∧ g < w.heap.size) := by rw [← hn]; exact fun h0 => ⟨hA h0, hga h0⟩
  have HC : Hid (∀ j (h : j < s.length), w.cell? ⟨g, o + j, none⟩ = some (.string s[j])) := hc
  have HN : Hid (s.length = n) := hn
  have d1 : decide (0 ≤ (l : Int) ∧ (l : Int) ≤ 8) = true := by simp; omega
  have HST : Hid (∀ W, Below w.heap.size w W → FuR x ix l h s w (.string h) (.int .i64 0) W) := fun W hW => ⟨0, by omega, rfl, rfl, hW⟩
  rw [hn] at hs ⊢
  have q1 : ¬ ((l : Int) < (n : Int)) := by omega
  have q2 : decide (l < n) = false := by simp; omega
  have hcl := Clone_any h w hh
  clear hA hga hc hn hT
  go_enter Tryz.func88, Tryz.ntmps88
  go_wp2_with fail
  refine (levelOk_any _ _).mono ?_
  rintro e w1 ⟨rfl, rfl⟩
  rw [d1]
  go_wp2_with fail
  refine hcl.mono ?_
  rintro e w2 ⟨rfl, hb2⟩
  have HS2 : Hid (FuR x ix l h s w1 (.string h) (.int .i64 0) w2) := HST.out _ hb2
  clear HST hcl hb2
  go_wp2
  go_loopw [11, 29] (fun u i wr => FuR x ix l h s w1 u i wr) (fun _ i _ => n - (intOf i).toNat)
  case atStart => exact HS2.out
  case round =>
    obtain ⟨m, hm, rfl, rfl, hbel⟩ := hrel
    clear HS2
    rw [HN.out] at hm
    by_cases hlt : m < n
    · obtain ⟨ea, hgw⟩ := HA.out (by omega)
      subst ea
      have c0 : wr.cell? ⟨g, o + m, none⟩ = some (.string (s[m]'(by rw [HN.out]; exact hlt))) := (hbel.cell (p := ⟨g, o + m, none⟩) hgw).trans (HC.out m _)
      have hst := fuF_step x ix l h (s := s) (m := m) (by rw [HN.out]; exact hlt)
      generalize s[m]'(by rw [HN.out]; exact hlt) = X at *
      have i1 : (m : Int) < (n : Int) := by omega
      have i2 : (0 : Int) ≤ (m : Int) := by omega
      have i3 : (0 : Int) ≤ (l : Int) - 1 - (m : Int) := by omega
      have hbo := BitOf_at ix ((l : Int) - 1 - (m : Int)) wr ⟨i3, by omega⟩
      have et : ((l : Int) - 1 - (m : Int)).toNat = l - 1 - m := by omega
      rw [et] at hbo
      have HNX : Hid (∀ W, Below wr.heap.size wr W → FuR x ix l h s w1 (.string (fuF x ix l h (s.take (m + 1)))) (.int .i64 ((m : Int) + 1)) W) := fun W hW => ⟨m + 1, by rw [HN.out]; omega, by congr 1, rfl, hbel.trans (hW.mono hbel.size)⟩
      rw [hst] at HNX
      have hT1 := HT.out.later hbel
      generalize fuF x ix l h (s.take m) = U at *
      have ht1 := taggedHash_w x 3 [U, X] 2 #[.string U, .string X] wr _ rfl rfl (by omega) rfl hT1
      have ht2 := taggedHash_w x 3 [X, U] 2 #[.string X, .string U] wr _ rfl rfl (by omega) rfl hT1
      generalize hashB 3 [U, X] x = P1 at *
      generalize hashB 3 [X, U] x = P2 at *
      generalize bitI ix (l - 1 - m) = b at *
      clear hst HA HC HV et hT1
      by_cases hb : b = 0
      · rw [if_pos hb] at HNX
        subst hb
        go_wp2_with fail
        refine hbo.mono ?_
        rintro e w2 ⟨rfl, rfl⟩
        clear hbo
        go_wp2_with fail
        refine (inOrder_0 _ _ _).mono ?_
        rintro e w2 ⟨rfl, rfl⟩
        go_wp2_with fail
        refine ht1.out.mono ?_
        rintro e w3 ⟨rfl, hb3⟩
        have HF := HNX.out _ hb3
        have HF2 : Hid (FuR x ix l h s w1 (.string P1) (.int .i64 ((m : Int) + 1)) w3) := HF
        clear HF HNX ht1 ht2 c0 hb3
        go_wp2
        go_roundw
        case rel => exact HF2.out
        case measure => simp [intOf]; omega
      · rw [if_neg hb] at HNX
        go_wp2_with fail
        refine hbo.mono ?_
        rintro e w2 ⟨rfl, rfl⟩
        clear hbo
        go_wp2_with fail
        refine (inOrder_1 _ _ _ _ hb).mono ?_
        rintro e w2 ⟨rfl, rfl⟩
        clear hb
        go_wp2_with fail
        refine ht2.out.mono ?_
        rintro e w3 ⟨rfl, hb3⟩
        have HF := HNX.out _ hb3
        have HF2 : Hid (FuR x ix l h s w1 (.string P2) (.int .i64 ((m : Int) + 1)) w3) := HF
        clear HF HNX ht1 ht2 c0 hb3
        go_wp2
        go_roundw
        case rel => exact HF2.out
        case measure => simp [intOf]; omega
    · have hme : m = n := by omega
      have e : fuF x ix l h (s.take m) = fuF x ix l h s := by rw [List.take_of_length_le (by rw [HN.out]; omega)]
      rw [e]
      subst hme
      clear e HN HA HC HV
      go_wp2
      go_ret
      exact ⟨rfl, hbel⟩

theorem sFoldUp_any (h : ByteArray) (ix l : Int) (v : Value) (g o : Nat) (s : List ByteArray) (x : Int) (w : World) (hv : SS w v g o s) :
    Calls Tryz.prog 18 #[.string h, .int .i64 ix, .int .i64 l, v, .int .i64 x] w fun e w' => e = .returned (.string (fuB h ix l s x)) ∧ Below w.heap.size w w' := by
  unfold fuB
  by_cases h1 : 0 ≤ l ∧ l ≤ 8
  · obtain ⟨k, rfl⟩ := Int.eq_ofNat_of_zero_le h1.1
    by_cases h2 : (s.length : Int) ≤ (k : Int)
    · rw [if_pos ⟨h1, h2⟩]
      exact sFoldUp_yes h ix k v g o s x w hv (by omega) (by omega)
    · rw [if_neg (fun h => h2 h.2)]
      obtain ⟨a, cap, rfl, hl, hrest⟩ := hv
      clear hrest
      generalize s.length = n at *
      have d1 : decide (0 ≤ (k : Int) ∧ (k : Int) ≤ 8) = true := by simp; omega
      have q1 : (k : Int) < (n : Int) := by omega
      clear h2
      go_enter Tryz.func18, Tryz.ntmps18
      go_wp2_with fail
      refine (l01In_any _ _ _ _).mono ?_
      rintro e w1 ⟨rfl, rfl⟩
      rw [d1]
      go_wp2
      go_ret
      exact ⟨rfl, Below.refl _ _⟩
  · rw [if_neg (fun h => h1 h.1)]
    obtain ⟨a, cap, rfl, hl, _⟩ := hv
    have d1 : decide (0 ≤ l ∧ l ≤ 8) = false := by simpa using h1
    clear h1
    go_enter Tryz.func18, Tryz.ntmps18
    go_wp2_with fail
    refine (l01In_any _ _ _ _).mono ?_
    rintro e w1 ⟨rfl, rfl⟩
    rw [d1]
    go_wp2
    go_ret
    exact ⟨rfl, Below.refl _ _⟩
theorem FoldUp_any (h : ByteArray) (ix l : Int) (v : Value) (g o : Nat) (s : List ByteArray) (x : Int) (w : World) (hv : SS w v g o s) (hh : h.size ≤ 1048576) (hT : Tb w) :
    Calls Tryz.prog 88 #[.string h, .int .i64 ix, .int .i64 l, v, .int .i64 x] w fun e w' => e = .returned (.string (fuB h ix l s x)) ∧ Below w.heap.size w w' := by
  unfold fuB
  by_cases h1 : 0 ≤ l ∧ l ≤ 8
  · obtain ⟨k, rfl⟩ := Int.eq_ofNat_of_zero_le h1.1
    by_cases h2 : (s.length : Int) ≤ (k : Int)
    · rw [if_pos ⟨h1, h2⟩]
      exact FoldUp_yes h ix k v g o s x w hv (by omega) (by omega) hh hT
    · rw [if_neg (fun h => h2 h.2)]
      obtain ⟨a, cap, rfl, hl, hrest⟩ := hv
      clear hrest
      generalize s.length = n at *
      have d1 : decide (0 ≤ (k : Int) ∧ (k : Int) ≤ 8) = true := by simp; omega
      have q1 : (k : Int) < (n : Int) := by omega
      clear h2 hT
      go_enter Tryz.func88, Tryz.ntmps88
      go_wp2_with fail
      refine (levelOk_any _ _).mono ?_
      rintro e w1 ⟨rfl, rfl⟩
      rw [d1]
      go_wp2
      go_ret
      exact ⟨rfl, Below.refl _ _⟩
  · rw [if_neg (fun h => h1 h.1)]
    obtain ⟨a, cap, rfl, hl, _⟩ := hv
    have d1 : decide (0 ≤ l ∧ l ≤ 8) = false := by simpa using h1
    clear h1 hT
    go_enter Tryz.func88, Tryz.ntmps88
    go_wp2_with fail
    refine (levelOk_any _ _).mono ?_
    rintro e w1 ⟨rfl, rfl⟩
    rw [d1]
    go_wp2
    go_ret
    exact ⟨rfl, Below.refl _ _⟩

end Go.Proofs.YtgkfelhjbeegaaaGreatDoor
/-
  The sides that the program finds on the way down.
-/
namespace Go.Proofs.YtgkfelhjbeegaaaGreatDoor
open Go.RowKit Go.BigFrame Go.Sort
set_option linter.unusedVariables false
set_option linter.unusedSimpArgs false

theorem one_new (w : World) (t : ByteArray) : (w.alloc (.cells #[.string t] 9)).cell? ⟨w.heap.size, 0, none⟩ = some (.string t) := by
  rw [World.cell?_alloc_at _ _ _ _ rfl]; rfl
section
variable {w : World} {ops : Array Oper} {o : Oper} {a : Act} {K : Act → World → Prop} {Q : Exit → Act → World → Prop}
end

theorem and_b (q : Nat) (h : q ≤ 255) : bits BinOp.and IntKind.i64 (q : Int) 1 = ((q % 2 : Nat) : Int) := by
  have : ∀ q : Fin 256, bits BinOp.and IntKind.i64 ((q.val : Nat) : Int) 1 = ((q.val % 2 : Nat) : Int) := by decide +kernel
  exact this ⟨q, by omega⟩
theorem bit_of (ix k : Nat) (hk : k ≤ 7) (hx : ix ≤ 255) : bitI (ix : Int) (7 - k) = ((ix / 2 ^ k % 2 : Nat) : Int) := by
  unfold bitI
  have e1 : 7 - (7 - k) = k := by omega
  have e2 : (ix : Int) / 2 ^ k = ((ix / 2 ^ k : Nat) : Int) := by simp
  rw [e1, e2]
  exact and_b _ (Nat.le_trans (Nat.div_le_self _ _) hx)
theorem oth_half (q : Nat) : TR.oth q / 2 = q / 2 := by unfold TR.oth; split <;> omega

theorem sdL_zero (x : Int) (ix : Nat) (L : List Le) : sdL x ix L 0 = [] := rfl

end Go.Proofs.YtgkfelhjbeegaaaGreatDoor
/-
  What SidesOf answers: the program's.
-/
namespace Go.Proofs.YtgkfelhjbeegaaaGreatDoor
open Go.RowKit Go.BigFrame Go.Sort
set_option linter.unusedVariables false
set_option linter.unusedSimpArgs false

theorem OS.upT {B : Nat} {w0 w w' : World} {u : Value} {l : List ByteArray} (hb : Below B w0 w) (hB : B ≤ w.heap.size) (h : OS w.heap.size w w' u l) : OS B w0 w' u l := by
  refine ⟨⟨h.1.1, ?_⟩, hb.trans (h.2.1.mono hB), Nat.le_trans hB h.2.2⟩
  rcases h.1.2 with hn | ⟨g, cap, cur, hv, hbg, rest⟩
  · exact .inl hn
  · exact .inr ⟨g, cap, cur, hv, Nat.le_trans hB hbg, rest⟩

end Go.Proofs.YtgkfelhjbeegaaaGreatDoor
/-
  Plain facts of roots: a bucket's hash folds up to the root; how wide hashes are.
-/
namespace Go.Proofs.YtgkfelhjbeegaaaGreatDoor
open Go.RowKit
set_option linter.unusedVariables false
set_option linter.unusedSimpArgs false

namespace TR
variable {β : Type} {hN : β → β → β}
theorem fold_congr {b b' : Nat → Bool} : ∀ (s : List β) (i : Nat) (h : β), (∀ j, i ≤ j → j < i + s.length → b j = b' j) → fold hN b i h s = fold hN b' i h s
  | [], i, h, _ => rfl
  | a :: t, i, h, hb => by
    have e := hb i (Nat.le_refl _) (by simp)
    show fold hN b (i + 1) (if b i then hN a h else hN h a) t = fold hN b' (i + 1) (if b' i then hN a h else hN h a) t
    rw [e]
    exact fold_congr t (i + 1) _ (fun j h1 h2 => hb j (by omega) (by simp; omega))
end TR

theorem bkL_und (L : List Le) (ix : Nat) : bkL L (ix : Int) = TR.und idxL 0 ix L := by
  unfold bkL TR.und
  refine List.filter_congr fun f _ => ?_
  unfold bkP idxL
  rw [Nat.pow_zero, Nat.div_one]
  by_cases h : idxN f.n = ix
  · rw [decide_eq_true h, decide_eq_true (by omega)]
  · rw [decide_eq_false h, decide_eq_false (by omega)]
/-- **a bucket's hash folds up to the root** -/
theorem fold_root (x : Int) (ix : Nat) (hx : ix ≤ 255) (L : List Le) : fuF x (ix : Int) 8 (trB x 0 ix L) (sdL x ix L 8) = trB x 8 0 L := by
  unfold fuF trB
  rw [TR.fold_congr (b' := fun i => decide (ix / 2 ^ i % 2 = 1)) (sdL x ix L 8) 0 _ (fun j _ hj => ?_)]
  · have h := TR.fold_up (idx := idxL) (hN := hnB x) (hB := bhB x) (fun i => decide (ix / 2 ^ i % 2 = 1)) ix (fun i => rfl) L 8 0
    rw [Nat.pow_zero, Nat.div_one, Nat.zero_add, Nat.div_eq_of_lt (show ix < 2 ^ 8 by omega)] at h
    exact h
  · rw [sdL_len] at hj
    unfold fbB
    rw [show 8 - 1 - j = 7 - j by omega, bit_of ix j (by omega) hx]
    have h2 : ix / 2 ^ j % 2 < 2 := Nat.mod_lt _ (by omega)
    generalize ix / 2 ^ j % 2 = q at *
    have : q = 0 ∨ q = 1 := by omega
    rcases this with rfl | rfl <;> rfl
theorem cutH_size {t : ByteArray} {x : Int} (h : 1 ≤ x ∧ x ≤ 32) : (cutH t x).size = x.toNat := by
  unfold cutH
  rw [if_pos h]
  unfold cutB
  have := digB_size t
  rw [ByteArray.size_extract]
  omega
theorem hash3_size {a b : ByteArray} {x : Int} (h : 1 ≤ x ∧ x ≤ 32) (ha : a.size ≤ 200) (hb : b.size ≤ 200) : (hashB 3 [a, b] x).size = x.toNat := by
  have ht : tagOk 3 [a, b] = true := by
    unfold tagOk
    simp [ha, hb]
  unfold hashB
  rw [if_pos ht]
  exact cutH_size h
theorem trB_size {x : Int} {L : List Le} (h : 1 ≤ x ∧ x ≤ 32) (hL : LV.LOk L) : ∀ k p, (trB x k p L).size = x.toNat
  | 0, p => by
    show (bhB x (TR.und idxL 0 p L)).size = x.toNat
    rw [bhB_yes (leaves_und hL 0 p)]
    exact cutH_size h
  | k + 1, p => by
    show (hashB 3 [trB x k (2 * p) L, trB x k (2 * p + 1) L] x).size = x.toNat
    exact hash3_size h (by rw [trB_size h hL k]; omega) (by rw [trB_size h hL k]; omega)
theorem nh_root {L : List Le} {x : Int} (h : 1 ≤ x ∧ x ≤ 32) (hL : LV.LOk L) : nhB L 0 0 x = trB x 8 0 L := by
  unfold nhB
  rw [if_pos ⟨LV.leavesB_iff.2 hL, by omega, by decide, h⟩]
  rfl
theorem nh_leaf {L : List Le} {x : Int} (h : 1 ≤ x ∧ x ≤ 32) (hL : LV.LOk L) (ix : Nat) (hx : ix ≤ 255) : nhB L 8 (ix : Int) x = trB x 0 ix L := by
  unfold nhB
  have e : (2 : Int) ^ (8 : Int).toNat = 256 := by decide
  rw [if_pos ⟨LV.leavesB_iff.2 hL, by omega, by rw [e]; omega, h⟩]
  rfl
theorem sd_all {L : List Le} {x : Int} (h : 1 ≤ x ∧ x ≤ 32) (hL : LV.LOk L) (ix : Nat) (hx : ix ≤ 255) : sdA L (ix : Int) 0 x = sdL x ix L 8 := by
  unfold sdA
  rw [if_pos ⟨LV.leavesB_iff.2 hL, by omega, by omega, h⟩]
  rfl
theorem fu_root {L : List Le} {x : Int} (ix : Nat) (hx : ix ≤ 255) : fuB (trB x 0 ix L) (ix : Int) 8 (sdL x ix L 8) x = trB x 8 0 L := by
  unfold fuB
  rw [if_pos ⟨by omega, by rw [sdL_len]; omega⟩]
  exact fold_root x ix hx L

end Go.Proofs.YtgkfelhjbeegaaaGreatDoor
