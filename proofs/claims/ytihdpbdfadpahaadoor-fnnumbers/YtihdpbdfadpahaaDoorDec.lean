/-
  Plain facts on decimal figures: how a number is written, and that just its own figures are read as it.
-/
import Derived.Test.YtihdpbdfadpahaaDoorUnhex
namespace Go.Proofs.YtihdpbdfadpahaaDoor
set_option linter.unusedVariables false

def decR : Nat → Nat → List UInt8
  | 0, _ => []
  | f + 1, n => if n = 0 then [] else decR f (n / 10) ++ [fig (n % 10)]

/-- the figures of a number -/
def decL (n : Nat) : List UInt8 := if n = 0 then [48] else decR 20 n

/-- the number of figures -/
def num (vs : List Nat) : Nat := vs.foldl (fun n v => 10 * n + v) 0

theorem num_snoc (vs : List Nat) (v : Nat) : num (vs ++ [v]) = 10 * num vs + v := by simp [num]

theorem num_aux : ∀ (vs : List Nat) (acc : Nat), (∀ v ∈ vs, v < 10) → vs.foldl (fun n v => 10 * n + v) acc < (acc + 1) * 10 ^ vs.length
  | [], acc, _ => by simp
  | v :: r, acc, h => by
    have h1 := num_aux r (10 * acc + v) (fun x hx => h x (by simp [hx]))
    have h2 := h v (by simp)
    have h3 : (10 * acc + v + 1) * 10 ^ r.length ≤ ((acc + 1) * 10) * 10 ^ r.length := Nat.mul_le_mul_right _ (by omega)
    have h4 : ((acc + 1) * 10) * 10 ^ r.length = (acc + 1) * 10 ^ (v :: r).length := by
      rw [List.length_cons, Nat.pow_succ, Nat.mul_assoc, Nat.mul_comm 10]
    simp only [List.foldl_cons]
    omega

theorem num_lt (vs : List Nat) (h : ∀ v ∈ vs, v < 10) : num vs < 10 ^ vs.length := by
  have := num_aux vs 0 h
  unfold num
  omega

theorem fig_lt (v : Nat) (h : v < 10) : (fig v).toNat = 48 + v := by
  have := fig_nat v (by omega)
  rw [if_pos h] at this
  exact this

theorem fig_zero (v : Nat) (h : v < 10) (h0 : fig v = 48) : v = 0 := by
  have h1 := fig_lt v h
  rw [h0] at h1
  have h2 : (48 : UInt8).toNat = 48 := rfl
  omega

/-- figures that do not begin with a nought are those of their number -/
theorem decR_num : ∀ (f : Nat) (r : List Nat), (∀ v ∈ r, v < 10) → r.head? ≠ some 0 → r.length ≤ f → decR f (num r) = r.map fig := by
  intro f
  induction f with
  | zero =>
    intro r _ _ hl
    have : r = [] := List.length_eq_zero_iff.1 (by omega)
    subst this
    rfl
  | succ f ih =>
    intro r h h0 hl
    rcases List.eq_nil_or_concat r with rfl | ⟨q, v, rfl⟩
    · rfl
    · rw [List.concat_eq_append] at *
      have hv := h v (by simp)
      have hq : ∀ x ∈ q, x < 10 := fun x hx => h x (by simp [hx])
      rw [num_snoc, decR]
      have e1 : (10 * num q + v) / 10 = num q := by omega
      have e2 : (10 * num q + v) % 10 = v := by omega
      have hq0 : q.head? ≠ some 0 := by
        cases q with
        | nil => simp
        | cons a q => simpa using h0
      have hpos : 10 * num q + v ≠ 0 := by
        intro hz
        cases q with
        | nil =>
          simp at h0
          omega
        | cons a q =>
          have hn : num (a :: q) = 0 := by omega
          have := ih (a :: q) hq hq0 (by simp at hl ⊢; omega)
          rw [hn] at this
          cases f with
          | zero => simp at hl
          | succ f => simp [decR] at this
      rw [if_neg hpos, e1, e2, ih q hq hq0 (by simp at hl; omega)]
      simp

/-- no number's figures begin with a nought -/
theorem decR_head : ∀ (f n : Nat), n < 10 ^ f → (decR f n).head? ≠ some 48 := by
  intro f
  induction f with
  | zero => intro n _; simp [decR]
  | succ f ih =>
    intro n hn
    rw [decR]
    by_cases h0 : n = 0
    · simp [h0]
    · rw [if_neg h0]
      have hq : n / 10 < 10 ^ f := by rw [Nat.pow_succ] at hn; omega
      cases hd : decR f (n / 10) with
      | nil =>
        simp only [List.nil_append, List.head?_cons, ne_eq, Option.some.injEq]
        intro h
        have h1 := fig_zero _ (by omega) h
        cases f with
        | zero => simp at hq; omega
        | succ f =>
          rw [decR] at hd
          by_cases hz : n / 10 = 0
          · omega
          · rw [if_neg hz] at hd
            simp at hd
      | cons a r =>
        have := ih (n / 10) hq
        rw [hd] at this
        simpa using this

theorem decL_num (r : List Nat) (h : ∀ v ∈ r, v < 10) (hl : r.length ≤ 10) : decL (num r) = r.map fig ↔ ¬ (r = [] ∨ (1 < r.length ∧ r.head? = some 0)) := by
  have hn := num_lt r h
  have hp : (10 : Nat) ^ r.length ≤ 10 ^ 10 := Nat.pow_le_pow_right (by omega) hl
  unfold decL
  by_cases hz : num r = 0
  · rw [if_pos hz]
    constructor
    · intro he
      have h1 : r.length = 1 := by
        have := congrArg List.length he
        simpa using this.symm
      intro hc
      rcases hc with hc | hc
      · rw [hc] at h1; simp at h1
      · omega
    · intro hc
      cases r with
      | nil => simp at hc
      | cons a q =>
        by_cases ha : a = 0
        · subst ha
          have : q = [] := by
            cases q with
            | nil => rfl
            | cons b q => simp at hc
          subst this
          rfl
        · have := decR_num 10 (a :: q) h (by simpa using ha) hl
          rw [hz] at this
          simp [decR] at this
  · rw [if_neg hz]
    have hd := decR_head 20 (num r) (by have : (10 : Nat) ^ 10 ≤ 10 ^ 20 := Nat.pow_le_pow_right (by omega) (by omega); omega)
    constructor
    · intro he hc
      rcases hc with hc | ⟨_, hc⟩
      · subst hc
        exact hz rfl
      · rw [he] at hd
        cases r with
        | nil => simp at hc
        | cons a q =>
          simp at hc
          subst hc
          exact hd rfl
    · intro hc
      refine decR_num 20 r h ?_ (by omega)
      intro h0
      cases r with
      | nil => simp at h0
      | cons a q =>
        simp at h0
        subst h0
        cases q with
        | nil => exact hz rfl
        | cons b q => exact hc (.inr ⟨by simp, rfl⟩)

theorem figV10 : ∀ n : Fin 256, figV 10 (UInt8.ofNat n.val) = if 48 ≤ n.val ∧ n.val ≤ 57 then some (n.val - 48) else none := by decide +kernel

theorem figV10_of (b : UInt8) : figV 10 b = if 48 ≤ b.toNat ∧ b.toNat ≤ 57 then some (b.toNat - 48) else none := by
  have h := figV10 ⟨b.toNat, b.toNat_lt⟩
  have e : UInt8.ofNat b.toNat = b := by simp
  simp only [e] at h
  exact h

/-- what the figures of a text are read as -/
theorem vals_map (base : Nat) : ∀ (l : List UInt8) (vs : List Nat), vals base l = some vs → vs.map fig = l
  | [], vs, h => by simp [vals] at h; subst h; rfl
  | b :: r, vs, h => by
    simp only [vals, Option.bind_eq_some_iff, Option.map_eq_some_iff] at h
    obtain ⟨v, hv, us, hu, rfl⟩ := h
    rw [List.map_cons, vals_map base r us hu, (figV_lt base v b hv).2]

/-- what ReadDecimal answers -/
def readDec (l : List UInt8) : Option Nat :=
  match vals 10 l with
  | none => none
  | some vs => if l = [] ∨ 10 < l.length ∨ (1 < l.length ∧ l.head? = some 48) ∨ 1000000000 < num vs then none else some (num vs)

theorem readDec_canon (l : List UInt8) (vs : List Nat) (hv : vals 10 l = some vs) (hl : l.length ≤ 10) :
    readDec l = if num vs ≤ 1000000000 ∧ decL (num vs) = l then some (num vs) else none := by
  obtain ⟨h1, h2⟩ := vals_len 10 l vs hv
  have hm := vals_map 10 l vs hv
  have hc := decL_num vs h2 (by omega)
  rw [hm] at hc
  have hh : l.head? = some 48 ↔ vs.head? = some 0 := by
    rw [← hm]
    cases vs with
    | nil => simp
    | cons a q =>
      simp only [List.map_cons, List.head?_cons, Option.some.injEq]
      constructor
      · intro h; exact fig_zero a (h2 a (by simp)) h
      · intro h; rw [h]; rfl
  have hn : l = [] ↔ vs = [] := by
    rw [← hm]
    simp
  unfold readDec
  rw [hv]
  simp only
  by_cases hx : num vs ≤ 1000000000
  · by_cases hy : vs = [] ∨ (1 < vs.length ∧ vs.head? = some 0)
    · rw [if_pos, if_neg (fun h => (hc.1 h.2) hy)]
      rcases hy with hy | hy
      · exact .inl (hn.2 hy)
      · exact .inr (.inr (.inl ⟨by omega, hh.2 hy.2⟩))
    · rw [if_neg, if_pos ⟨hx, hc.2 hy⟩]
      intro hd
      rcases hd with hd | hd | hd | hd
      · exact hy (.inl (hn.1 hd))
      · omega
      · exact hy (.inr ⟨by omega, hh.1 hd.2⟩)
      · omega
  · rw [if_pos (.inr (.inr (.inr (by omega)))), if_neg (fun h => hx h.1)]

end Go.Proofs.YtihdpbdfadpahaaDoor
