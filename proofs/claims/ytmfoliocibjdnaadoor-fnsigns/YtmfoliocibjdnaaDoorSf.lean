/-
  Plain facts of signatures: the locks of what is signed are the key's, and its text folds up to the pool's root.
-/
import Derived.Test.YtmfoliocibjdnaaDoorSgw
import Derived.Test.YtmfoliocibjdnaaDoorSgv
import Derived.Test.YtmfoliocibjdnaaDoorPkL
namespace Go.Proofs.YtmfoliocibjdnaaDoor
set_option linter.unusedVariables false

theorem gB_app {l r : List ByteArray} {i : Nat} (h : i < l.length) : gB (l ++ r) i = gB l i := by
  unfold gB
  rw [List.getD_eq_getElem?_getD, List.getD_eq_getElem?_getD, List.getElem?_append_left h]
theorem gB_last {l : List ByteArray} {x : ByteArray} : gB (l ++ [x]) l.length = x := by
  unfold gB
  rw [List.getD_eq_getElem?_getD, List.getElem?_concat_length]
  rfl
theorem opN_at (s : ByteArray) (a b : Nat) : ∀ m i, i < m → gB (opN s a b m) i = secB s a i (bitN b i)
  | 0, i, h => absurd h (by omega)
  | m + 1, i, h => by
    unfold opN
    by_cases h1 : i < m
    · rw [gB_app (by rw [opN_len]; exact h1), opN_at s a b m i h1]
    · have : i = m := by omega
      subst this
      have := gB_last (l := opN s a b i) (x := secB s a i (bitN b i))
      rw [opN_len] at this
      exact this
theorem shN_at (s : ByteArray) (a b : Nat) : ∀ m i, i < m → gB (shN s a b m) i = lockB (secB s a i (1 - bitN b i))
  | 0, i, h => absurd h (by omega)
  | m + 1, i, h => by
    unfold shN
    by_cases h1 : i < m
    · rw [gB_app (by rw [shN_len]; exact h1), shN_at s a b m i h1]
    · have : i = m := by omega
      subst this
      have := gB_last (l := shN s a b i) (x := lockB (secB s a i (1 - bitN b i)))
      rw [shN_len] at this
      exact this
theorem sdN_at (l : List ByteArray) (a : Nat) : ∀ m i, i < m → gB (sdN l a m) i = gB (upN l i) ((a / 2 ^ i) ^^^ 1)
  | 0, i, h => absurd h (by omega)
  | m + 1, i, h => by
    unfold sdN
    by_cases h1 : i < m
    · rw [gB_app (by rw [sdN_len]; exact h1), sdN_at l a m i h1]
    · have : i = m := by omega
      subst this
      have := gB_last (l := sdN l a i) (x := gB (upN l i) ((a / 2 ^ i) ^^^ 1))
      rw [sdN_len] at this
      exact this
theorem lk2_signed (s : ByteArray) (a b i : Nat) (h : i < 8) : lk2 b (opN s a b 8) (shN s a b 8) i = [lockB (secB s a i 0), lockB (secB s a i 1)] := by
  unfold lk2
  rw [opN_at s a b 8 i h, shN_at s a b 8 i h]
  have hb := bitN_lt b i
  by_cases h0 : bitN b i = 0
  · rw [if_pos h0, h0]
  · have h1 : bitN b i = 1 := by omega
    rw [if_neg h0, h1]
/-- the locks of what is signed are the key's -/
theorem lkN_signed (s : ByteArray) (a b : Nat) : lkN b (opN s a b 8) (shN s a b 8) 8 = locksL s a := by
  have e : ∀ m, m ≤ 8 → lkN b (opN s a b 8) (shN s a b 8) m = (List.range m).flatMap fun i => [lockB (secB s a i 0), lockB (secB s a i 1)] := by
    intro m
    induction m with
    | zero => intro _; rfl
    | succ m ih => intro hm; rw [lkN_step, ih (by omega), lk2_signed s a b m (by omega), List.range_succ, List.flatMap_append]; simp
  rw [e 8 (by omega)]
  rfl

theorem lock16 (x : ByteArray) (h : x.size ≤ 200) : (lockB x).size = 16 := by
  unfold lockB
  refine hashB_size (tagOk_yes _ _ ⟨by omega, by simp⟩ ?_)
  intro m hm
  have h0 : m = 0 := by simp at hm; omega
  subst h0
  exact h
theorem locks_ok (s : ByteArray) (a : Nat) (hs : s.size ≤ 100) : tagOk 6 (locksL s a) = true := by
  refine tagOk_yes _ _ ⟨by omega, by simp [locksL]⟩ ?_
  intro m hm
  have : (locksL s a)[m] = lockB (secB s a (m / 2) (m % 2)) := by simp [locksL]
  rw [this, lock16 _ (by rw [secB_size _ _ _ _ hs]; omega)]
  omega
theorem hash_cut {k : Int} {l : List ByteArray} (h : tagOk k l = true) : cut16 (tagB k l) = hashB k l 16 := by
  unfold cut16 hashB
  rw [if_pos h]
/-- the text of what is signed has the key's digest -/
theorem pubT_signed (s : ByteArray) (a b : Nat) (hs : s.size ≤ 100) : cut16 (pubT b (opN s a b 8) (shN s a b 8)) = pubB s a := by
  unfold pubT pubB
  rw [lkN_signed, hash_cut (locks_ok s a hs)]

theorem hash_le200 (k : Int) (l : List ByteArray) : (hashB k l 16).size ≤ 200 := by
  by_cases h : tagOk k l = true
  · rw [hashB_size h]; omega
  · unfold hashB; rw [if_neg h]; simp [ByteArray.size]
theorem up_at (u : List ByteArray) (i : Nat) (h : i < u.length / 2) : gB (upL u) i = upAt u i := by
  have h1 : i < (upL u).length := by rw [upL_len]; exact h
  rw [← gB_eq _ _ h1, upL_at]
theorem up_le (l : List ByteArray) (hs : ∀ j, (gB l j).size ≤ 200) : ∀ m j, (gB (upN l m) j).size ≤ 200
  | 0, j => hs j
  | m + 1, j => by
    show (gB (upL (upN l m)) j).size ≤ 200
    by_cases h : j < (upN l m).length / 2
    · rw [up_at _ _ h]; exact hash_le200 _ _
    · unfold gB
      rw [List.getD_eq_getElem?_getD, List.getElem?_eq_none (by rw [upL_len]; omega)]
      simp
theorem xor_e : ∀ q, q < 16 → q ^^^ 1 = if q % 2 = 0 then q + 1 else q - 1 := by decide
theorem two_ok (x y : ByteArray) (hx : x.size ≤ 200) (hy : y.size ≤ 200) : tagOk 3 [x, y] = true := by
  refine tagOk_yes _ _ ⟨by omega, by simp⟩ ?_
  intro m hm
  have h0 : m = 0 ∨ m = 1 := by simp at hm; omega
  rcases h0 with rfl | rfl
  · exact hx
  · exact hy
/-- **what is signed folds up to the pool's root** -/
theorem fT_up (l : List ByteArray) (a : Nat) (T : ByteArray) (hl : l.length = 16) (ha : a ≤ 15) (hs : ∀ j, (gB l j).size ≤ 200) (hT : cut16 T = gB l a) : ∀ m, m ≤ 4 → cut16 (fT a (sdN l a 4) T m) = gB (upN l m) (a / 2 ^ m)
  | 0, _ => by simpa [fT, upN] using hT
  | m + 1, hm => by
    have ih := fT_up l a T hl ha hs hT m (by omega)
    have hlen := upN_pow l hl m (by omega)
    have hq : a / 2 ^ m < 16 / 2 ^ m := by
      have h0 : m = 0 ∨ m = 1 ∨ m = 2 ∨ m = 3 := by omega
      rcases h0 with rfl | rfl | rfl | rfl <;> simp <;> omega
    have hev : 16 / 2 ^ m % 2 = 0 := by
      have h0 : m = 0 ∨ m = 1 ∨ m = 2 ∨ m = 3 := by omega
      rcases h0 with rfl | rfl | rfl | rfl <;> rfl
    have hq16 : a / 2 ^ m < 16 := Nat.lt_of_le_of_lt (Nat.div_le_self _ _) (by omega)
    have e2 : a / 2 ^ (m + 1) = a / 2 ^ m / 2 := by rw [Nat.pow_succ, ← Nat.div_div_eq_div_mul]
    have hle := up_le l hs m
    unfold fT
    rw [ih, sdN_at l a 4 m (by omega), e2, xor_e _ hq16]
    show _ = gB (upL (upN l m)) (a / 2 ^ m / 2)
    rw [up_at _ _ (by omega)]
    unfold nodeT upAt
    generalize a / 2 ^ m = q at *
    by_cases h0 : q % 2 = 0
    · rw [if_pos h0, if_pos h0, hash_cut (two_ok _ _ (hle _) (hle _)), show 2 * (q / 2) = q by omega]
      rfl
    · rw [if_neg h0, if_neg h0, hash_cut (two_ok _ _ (hle _) (hle _)), show 2 * (q / 2) + 1 = q by omega, show 2 * (q / 2) = q - 1 by omega]
      rfl
theorem fT_root (l : List ByteArray) (a : Nat) (T : ByteArray) (hl : l.length = 16) (ha : a ≤ 15) (hs : ∀ j, (gB l j).size ≤ 200) (hT : cut16 T = gB l a) : cut16 (fT a (sdN l a 4) T 4) = rootB l := by
  rw [fT_up l a T hl ha hs hT 4 (by omega), show a / 2 ^ 4 = 0 by omega]
  rfl

end Go.Proofs.YtmfoliocibjdnaaDoor
