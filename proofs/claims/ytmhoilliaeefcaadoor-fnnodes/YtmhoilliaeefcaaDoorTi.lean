/-
  Plain facts of tagged texts: two of them are alike only where kind and parts are; of two chains of digested texts that end alike and differ, the last two that differ have one digest.
-/
import Derived.Test.YtmhoilliaeefcaaDoorPkD
import Derived.Test.YtmhoilliaeefcaaDoorLm
import Derived.Test.YtmhoilliaeefcaaDoorRv
namespace Go.Proofs.YtmhoilliaeefcaaDoor.TR
set_option linter.unusedVariables false

theorem var_inj {n m : Nat} {s t : List UInt8} (hn : n ≤ 1000000000) (hm : m ≤ 1000000000) (h : M.varL n ++ s = M.varL m ++ t) : n = m ∧ s = t := by
  have a := LV.readVar_back [] s n hn
  have b := LV.readVar_back [] t m hm
  simp only [List.nil_append, List.length_nil, Nat.zero_add] at a b
  rw [h, b] at a
  have e : m = n := by simpa using congrArg (fun o => o.map Prod.fst) a
  subst e
  exact ⟨rfl, List.append_cancel_left h⟩
theorem var_ne (n : Nat) : M.varL n ≠ [] := by
  unfold M.varL
  by_cases h : n ≤ 127
  · rw [M.varF_small 9 n h]; simp
  · rw [M.varF_big 8 n (by omega)]; simp
theorem part_inj {p q : ByteArray} {s t : List UInt8} (hp : p.size ≤ 1000000000) (hq : q.size ≤ 1000000000) (h : tagP p ++ s = tagP q ++ t) : p = q ∧ s = t := by
  unfold tagP at h
  rw [List.append_assoc, List.append_assoc] at h
  obtain ⟨e, h2⟩ := var_inj hp hq h
  have hl : p.data.toList.length = q.data.toList.length := by
    have h1 : p.data.toList.length = p.size := rfl
    have h3 : q.data.toList.length = q.size := rfl
    omega
  obtain ⟨e1, e2⟩ := List.append_inj h2 hl
  refine ⟨?_, e2⟩
  cases p
  cases q
  congr
  exact Array.toList_inj.1 e1
theorem parts_inj : ∀ {l l' : List ByteArray}, (∀ x ∈ l, x.size ≤ 1000000000) → (∀ x ∈ l', x.size ≤ 1000000000) → l.flatMap tagP = l'.flatMap tagP → l = l'
  | [], [], _, _, _ => rfl
  | [], q :: t, _, _, h => by
    rw [List.flatMap_nil, List.flatMap_cons] at h
    have := (List.append_eq_nil_iff.1 h.symm).1
    unfold tagP at this
    exact absurd (List.append_eq_nil_iff.1 this).1 (var_ne _)
  | p :: t, [], _, _, h => by
    rw [List.flatMap_nil, List.flatMap_cons] at h
    have := (List.append_eq_nil_iff.1 h).1
    unfold tagP at this
    exact absurd (List.append_eq_nil_iff.1 this).1 (var_ne _)
  | p :: s, q :: t, h1, h2, h => by
    rw [List.flatMap_cons, List.flatMap_cons] at h
    obtain ⟨e, h3⟩ := part_inj (h1 p (by simp)) (h2 q (by simp)) h
    rw [e, parts_inj (fun x hx => h1 x (by simp [hx])) (fun x hx => h2 x (by simp [hx])) h3]
/-- **two tagged texts are alike only where kind and parts are** -/
theorem tag_inj {k k' : Nat} {l l' : List ByteArray} (hk : k ≤ 255) (hk' : k' ≤ 255) (h1 : ∀ x ∈ l, x.size ≤ 1000000000) (h2 : ∀ x ∈ l', x.size ≤ 1000000000) (h : tagS k l = tagS k' l') : k = k' ∧ l = l' := by
  have e : tagL k l = tagL k' l' := by
    have := congrArg (fun b : ByteArray => b.data.toList) h
    simpa [tagS] using this
  unfold tagL at e
  obtain ⟨e1, e2⟩ := List.cons.inj e
  refine ⟨?_, parts_inj h1 h2 e2⟩
  have := congrArg UInt8.toNat e1
  simp at this
  omega
/-- the parts of a bucket's text -/
def bkp (L : List Le) : List ByteArray := L.flatMap fun f => [f.n, f.v]
theorem bkp_inj : ∀ {L M : List Le}, bkp L = bkp M → L = M
  | [], [], _ => rfl
  | [], g :: t, h => by simp [bkp] at h
  | f :: s, [], h => by simp [bkp] at h
  | f :: s, g :: t, h => by
    have h' : f.n :: f.v :: bkp s = g.n :: g.v :: bkp t := h
    obtain ⟨e1, h2⟩ := List.cons.inj h'
    obtain ⟨e2, h3⟩ := List.cons.inj h2
    have : f = g := by cases f; cases g; simp at e1 e2; rw [e1, e2]
    rw [this, bkp_inj h3]
theorem bkp_len (L : List Le) : (bkp L).length = 2 * L.length := by
  induction L with
  | nil => rfl
  | cons f t ih => unfold bkp at ih ⊢; rw [List.flatMap_cons, List.length_append, ih]; simp; omega

/-- of two chains: from the last one on back the first two that differ, have they one digest? -/
def clB {τ δ : Type} [DecidableEq τ] [DecidableEq δ] (d : τ → δ) (a b : Nat → τ) : Nat → Bool
  | 0 => false
  | n + 1 => if a n = b n then clB d a b n else decide (d (a n) = d (b n))
theorem clB_yes {τ δ : Type} [DecidableEq τ] [DecidableEq δ] {d : τ → δ} {a b : Nat → τ} : ∀ n, (∃ i, i < n ∧ a i ≠ b i) → d (a (n - 1)) = d (b (n - 1)) → (∀ i, i + 1 < n → a (i + 1) = b (i + 1) → d (a i) = d (b i)) → clB d a b n = true
  | 0, ⟨i, hi, _⟩, _, _ => absurd hi (by omega)
  | n + 1, ⟨i, hi, hne⟩, hl, hs => by
    unfold clB
    by_cases h : a n = b n
    · rw [if_pos h]
      have hin : i < n := by
        rcases Nat.lt_or_ge i n with h1 | h1
        · exact h1
        · have : i = n := by omega
          subst this
          exact absurd h hne
      refine clB_yes n ⟨i, hin, hne⟩ (hs (n - 1) (by omega) ?_) (fun j hj => hs j (by omega))
      rw [show n - 1 + 1 = n by omega]
      exact h
    · rw [if_neg h]
      simpa using hl

end Go.Proofs.YtmhoilliaeefcaaDoor.TR
