/-
  There and back: a number that was written is read again, and so is a text; plain facts.
-/
import Derived.Test.YtihdpbdfadpahaaDoorUnhexi
import Derived.Test.YtihdpbdfadpahaaDoorRdec
import Derived.Test.YtihdpbdfadpahaaDoorRshort
import Derived.Lib.ItoaMem
namespace Go.Proofs.YtihdpbdfadpahaaDoor
open Go.RowKit
set_option linter.unusedVariables false

theorem drop_at (s l : List UInt8) (k : Nat) (b : UInt8) (h : s.drop k = b :: l) : s[k]? = some b ∧ s.drop (k + 1) = l := by
  constructor
  · have : (s.drop k)[0]? = some b := by rw [h]; rfl
    simpa using this
  · have : (s.drop k).drop 1 = l := by rw [h]; rfl
    simpa [List.drop_drop] using this

/-- what varF wrote is read from there on -/
theorem rv_back (s : List UInt8) (p : Nat) : ∀ (fuel f i N m : Nat) (post : List UInt8), m < 128 ^ fuel → m < 128 ^ (f + 1) → 0 < fuel → (0 < m ∨ i = 0) → N + m * 128 ^ i ≤ 1000000000 → s.drop (p + i) = M.varF f m ++ post →
    M.rv s p fuel i N = some (N + m * 128 ^ i, p + i + (M.varF f m).length)
  | 0, _, _, _, _, _, _, _, h, _, _, _ => by omega
  | fuel + 1, f, i, N, m, post, h1, h2, _, h3, h4, h5 => by
    by_cases hm : m ≤ 127
    · rw [M.varF_small f m hm] at h5 ⊢
      obtain ⟨hb, _⟩ := drop_at _ _ _ _ h5
      have hn : (UInt8.ofNat m).toNat = m := by simp; omega
      rw [M.rv, hb]
      simp only [hn]
      rw [if_neg (by omega), if_neg]
      · have : m % 128 = m := by omega
        rw [this]
        rfl
      · have : m % 128 = m := by omega
        rw [this]
        omega
    · cases f with
      | zero => simp at h2; omega
      | succ f =>
        rw [M.varF_big f m (by omega)] at h5 ⊢
        obtain ⟨hb, hd⟩ := drop_at _ _ _ _ h5
        have hn : (UInt8.ofNat (m % 128 + 128)).toNat = m % 128 + 128 := by simp; omega
        have e1 : m % 128 * 128 ^ i + m / 128 * 128 ^ (i + 1) = m * 128 ^ i := by
          rw [Nat.pow_succ, Nat.mul_comm (128 ^ i) 128, ← Nat.mul_assoc, ← Nat.add_mul]
          congr 1
          omega
        have hfp : 0 < fuel := by
          rcases Nat.eq_zero_or_pos fuel with h0 | h0
          · subst h0; simp at h1; omega
          · exact h0
        rw [M.rv, hb]
        simp only [hn]
        have e2 : (m % 128 + 128) % 128 = m % 128 := by omega
        rw [if_pos (by omega), e2]
        have ih := rv_back s p fuel f (i + 1) (N + m % 128 * 128 ^ i) (m / 128) post (by rw [Nat.pow_succ] at h1; omega) (by rw [Nat.pow_succ] at h2; omega) hfp (.inl (by omega)) (by omega) (by rw [show p + (i + 1) = p + i + 1 by omega]; exact hd)
        rw [ih, Nat.add_assoc N, e1, List.length_cons]
        congr 2
        omega

theorem readVar_back (pre post : List UInt8) (n : Nat) (hn : n ≤ 1000000000) : M.readVar (pre ++ (M.varL n ++ post)) pre.length = some (n, pre.length + (M.varL n).length) := by
  have h := rv_back (pre ++ (M.varL n ++ post)) pre.length 5 9 0 0 n post (by omega) (by omega) (by omega) (.inr rfl) (by simpa using hn) (by simp [M.varL])
  unfold M.readVar
  rw [h]
  simp [M.varL]

/-- the figures of a number, in base 10, have their values -/
theorem vals_append (base : Nat) : ∀ (l r : List UInt8) (a b : List Nat), vals base l = some a → vals base r = some b → vals base (l ++ r) = some (a ++ b)
  | [], r, a, b, h1, h2 => by
    simp [vals] at h1
    subst h1
    simpa using h2
  | x :: l, r, a, b, h1, h2 => by
    rw [vals] at h1
    obtain ⟨v, hv, h3⟩ := Option.bind_eq_some_iff.1 h1
    obtain ⟨c, hc, rfl⟩ := Option.map_eq_some_iff.1 h3
    rw [List.cons_append, vals, hv]
    simp [vals_append base l r c b hc h2]

theorem figV_fig (base v : Nat) (hb : base ≤ 16) (hv : v < base) : figV base (fig v) = some v := figV_some base v _ hb hv rfl

theorem decR_vals : ∀ (f n : Nat), n < 10 ^ f → ∃ vs, vals 10 (decR f n) = some vs ∧ num vs = n ∧ vs.length ≤ f := by
  intro f
  induction f with
  | zero => intro n h; exact ⟨[], rfl, by simp at h; subst h; rfl, Nat.le_refl _⟩
  | succ f ih =>
    intro n h
    by_cases h0 : n = 0
    · subst h0
      exact ⟨[], by simp [decR, vals], rfl, by simp⟩
    · obtain ⟨vs, h1, h2, h3⟩ := ih (n / 10) (by rw [Nat.pow_succ] at h; omega)
      refine ⟨vs ++ [n % 10], ?_, ?_, by simp; omega⟩
      · rw [decR, if_neg h0]
        refine vals_append 10 _ _ _ _ h1 ?_
        simp [vals, figV_fig 10 (n % 10) (by omega) (by omega)]
      · rw [num_snoc, h2]
        omega

theorem decR_len : ∀ (f g n : Nat), n < 10 ^ g → (decR f n).length ≤ g := by
  intro f
  induction f with
  | zero => intro g n h; simp [decR]
  | succ f ih =>
    intro g n h
    by_cases h0 : n = 0
    · subst h0; simp [decR]
    · cases g with
      | zero => simp at h; omega
      | succ g =>
        have := ih g (n / 10) (by rw [Nat.pow_succ] at h; omega)
        rw [decR, if_neg h0]
        simp
        omega

theorem readDec_back (n : Nat) (hn : n ≤ 1000000000) : readDec (decL n) = some n := by
  have hl : (decL n).length ≤ 10 := by
    unfold decL
    split
    · simp
    · exact decR_len 20 10 n (by omega)
  obtain ⟨vs, hv, hm⟩ : ∃ vs, vals 10 (decL n) = some vs ∧ num vs = n := by
    unfold decL
    split
    · rename_i h
      subst h
      exact ⟨[0], by decide +kernel, rfl⟩
    · obtain ⟨vs, h1, h2, _⟩ := decR_vals 20 n (by omega)
      exact ⟨vs, h1, h2⟩
  rw [readDec_canon (decL n) vs hv hl, hm, if_pos ⟨hn, rfl⟩]

theorem fig_lib (v : Nat) (h : v < 10) : fig v = UInt8.ofNat (48 + v) := by
  unfold fig
  rw [if_pos h]

theorem decR_digits : ∀ (f n : Nat), 0 < n → n < 10 ^ f → decR f n = Lib.decDigits n := by
  intro f
  induction f with
  | zero => intro n h0 h; simp at h; omega
  | succ f ih =>
    intro n h0 h
    rw [decR, if_neg (by omega), fig_lib _ (by omega)]
    by_cases hs : n < 10
    · rw [Lib.decDigits_one hs]
      have e1 : n / 10 = 0 := by omega
      have e2 : n % 10 = n := by omega
      rw [e1, e2]
      have e3 : decR f 0 = [] := by cases f <;> simp [decR]
      rw [e3]
      rfl
    · rw [Lib.decDigits, dif_neg hs, ih (n / 10) (by omega) (by rw [Nat.pow_succ] at h; omega)]

theorem itoa_dec (n : Nat) (hn : n ≤ 1000000000) : Lib.itoa (n : Int) = decL n := by
  unfold Lib.itoa
  rw [if_neg (by omega)]
  unfold decL
  have e : (n : Int).toNat = n := by omega
  split
  · rename_i h
    subst h
    simp [Lib.decDigits_one]
  · rename_i h
    rw [decR_digits 20 n (by omega) (by omega)]
    simp

/-- two figures for each byte, and the byte of each two -/
theorem hex_vals : ∀ (l : List UInt8), ∃ vs, vals 16 (hexL l) = some vs ∧ pairs vs = l
  | [] => ⟨[], rfl, rfl⟩
  | b :: l => by
    obtain ⟨vs, h1, h2⟩ := hex_vals l
    have hb := b.toNat_lt
    refine ⟨b.toNat / 16 :: b.toNat % 16 :: vs, ?_, ?_⟩
    · have e : hexL (b :: l) = fig (b.toNat / 16) :: fig (b.toNat % 16) :: hexL l := rfl
      rw [e, vals, figV_fig 16 _ (by omega) (by omega)]
      simp only [Option.bind_some, vals, figV_fig 16 (b.toNat % 16) (by omega) (by omega), h1]
      rfl
    · rw [pairs, h2]
      congr 1
      apply UInt8.toNat_inj.1
      simp
      omega

end Go.Proofs.YtihdpbdfadpahaaDoor
