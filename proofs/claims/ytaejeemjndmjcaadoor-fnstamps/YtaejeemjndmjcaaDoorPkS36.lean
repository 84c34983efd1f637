/-
  Texts laid together: Sf, Sgq, Sgy.
-/
import Derived.Test.YtaejeemjndmjcaaDoorPkS31
import Derived.Test.YtaejeemjndmjcaaDoorPkS12
import Derived.Test.YtaejeemjndmjcaaDoorPkS35
import Derived.Test.YtaejeemjndmjcaaDoorPkS33
import Derived.Test.YtaejeemjndmjcaaDoorPkS34
import Derived.Test.YtaejeemjndmjcaaDoorPkS22
import Derived.Test.YtaejeemjndmjcaaDoorPkS28
/-
  Plain facts of signatures: the locks of what is signed are the key's, and its text folds up to the pool's root.
-/
namespace Go.Proofs.YtaejeemjndmjcaaDoor
set_option linter.unusedVariables false

theorem gB_app {l r : List ByteArray} {i : Nat} (h : i < l.length) : gB (l ++ r) i = gB l i := by
  unfold gB
  rw [List.getD_eq_getElem?_getD, List.getD_eq_getElem?_getD, List.getElem?_append_left h]
theorem gB_last {l : List ByteArray} {x : ByteArray} : gB (l ++ [x]) l.length = x := by
  unfold gB
  rw [List.getD_eq_getElem?_getD, List.getElem?_concat_length]
  rfl
theorem opN_at (s : ByteArray) (a b : Nat) : ∀ m i, i < m → gB (opN s a b m) i = secB s a i (bitN b i)
  | 0, i, h => absurd h (by omega)
  | m + 1, i, h => by
    unfold opN
    by_cases h1 : i < m
    · rw [gB_app (by rw [opN_len]; exact h1), opN_at s a b m i h1]
    · have : i = m := by omega
      subst this
      have := gB_last (l := opN s a b i) (x := secB s a i (bitN b i))
      rw [opN_len] at this
      exact this
theorem shN_at (s : ByteArray) (a b : Nat) : ∀ m i, i < m → gB (shN s a b m) i = lockB (secB s a i (1 - bitN b i))
  | 0, i, h => absurd h (by omega)
  | m + 1, i, h => by
    unfold shN
    by_cases h1 : i < m
    · rw [gB_app (by rw [shN_len]; exact h1), shN_at s a b m i h1]
    · have : i = m := by omega
      subst this
      have := gB_last (l := shN s a b i) (x := lockB (secB s a i (1 - bitN b i)))
      rw [shN_len] at this
      exact this
theorem sdN_at (l : List ByteArray) (a : Nat) : ∀ m i, i < m → gB (sdN l a m) i = gB (upN l i) ((a / 2 ^ i) ^^^ 1)
  | 0, i, h => absurd h (by omega)
  | m + 1, i, h => by
    unfold sdN
    by_cases h1 : i < m
    · rw [gB_app (by rw [sdN_len]; exact h1), sdN_at l a m i h1]
    · have : i = m := by omega
      subst this
      have := gB_last (l := sdN l a i) (x := gB (upN l i) ((a / 2 ^ i) ^^^ 1))
      rw [sdN_len] at this
      exact this
theorem lk2_signed (s : ByteArray) (a b i : Nat) (h : i < 8) : lk2 b (opN s a b 8) (shN s a b 8) i = [lockB (secB s a i 0), lockB (secB s a i 1)] := by
  unfold lk2
  rw [opN_at s a b 8 i h, shN_at s a b 8 i h]
  have hb := bitN_lt b i
  by_cases h0 : bitN b i = 0
  · rw [if_pos h0, h0]
  · have h1 : bitN b i = 1 := by omega
    rw [if_neg h0, h1]
/-- the locks of what is signed are the key's -/
theorem lkN_signed (s : ByteArray) (a b : Nat) : lkN b (opN s a b 8) (shN s a b 8) 8 = locksL s a := by
  have e : ∀ m, m ≤ 8 → lkN b (opN s a b 8) (shN s a b 8) m = (List.range m).flatMap fun i => [lockB (secB s a i 0), lockB (secB s a i 1)] := by
    intro m
    induction m with
    | zero => intro _; rfl
    | succ m ih => intro hm; rw [lkN_step, ih (by omega), lk2_signed s a b m (by omega), List.range_succ, List.flatMap_append]; simp
  rw [e 8 (by omega)]
  rfl

theorem lock16 (x : ByteArray) (h : x.size ≤ 200) : (lockB x).size = 16 := by
  unfold lockB
  refine hashB_size (tagOk_yes _ _ ⟨by omega, by simp⟩ ?_)
  intro m hm
  have h0 : m = 0 := by simp at hm; omega
  subst h0
  exact h
theorem locks_ok (s : ByteArray) (a : Nat) (hs : s.size ≤ 100) : tagOk 6 (locksL s a) = true := by
  refine tagOk_yes _ _ ⟨by omega, by simp [locksL]⟩ ?_
  intro m hm
  have : (locksL s a)[m] = lockB (secB s a (m / 2) (m % 2)) := by simp [locksL]
  rw [this, lock16 _ (by rw [secB_size _ _ _ _ hs]; omega)]
  omega
theorem hash_cut {k : Int} {l : List ByteArray} (h : tagOk k l = true) : cut16 (tagB k l) = hashB k l 16 := by
  unfold cut16 hashB
  rw [if_pos h]
/-- the text of what is signed has the key's digest -/
theorem pubT_signed (s : ByteArray) (a b : Nat) (hs : s.size ≤ 100) : cut16 (pubT b (opN s a b 8) (shN s a b 8)) = pubB s a := by
  unfold pubT pubB
  rw [lkN_signed, hash_cut (locks_ok s a hs)]

theorem hash_le200 (k : Int) (l : List ByteArray) : (hashB k l 16).size ≤ 200 := by
  by_cases h : tagOk k l = true
  · rw [hashB_size h]; omega
  · unfold hashB; rw [if_neg h]; simp [ByteArray.size]
theorem up_at (u : List ByteArray) (i : Nat) (h : i < u.length / 2) : gB (upL u) i = upAt u i := by
  have h1 : i < (upL u).length := by rw [upL_len]; exact h
  rw [← gB_eq _ _ h1, upL_at]
theorem up_le (l : List ByteArray) (hs : ∀ j, (gB l j).size ≤ 200) : ∀ m j, (gB (upN l m) j).size ≤ 200
  | 0, j => hs j
  | m + 1, j => by
    show (gB (upL (upN l m)) j).size ≤ 200
    by_cases h : j < (upN l m).length / 2
    · rw [up_at _ _ h]; exact hash_le200 _ _
    · unfold gB
      rw [List.getD_eq_getElem?_getD, List.getElem?_eq_none (by rw [upL_len]; omega)]
      simp
theorem xor_e : ∀ q, q < 16 → q ^^^ 1 = if q % 2 = 0 then q + 1 else q - 1 := by decide
theorem two_ok (x y : ByteArray) (hx : x.size ≤ 200) (hy : y.size ≤ 200) : tagOk 3 [x, y] = true := by
  refine tagOk_yes _ _ ⟨by omega, by simp⟩ ?_
  intro m hm
  have h0 : m = 0 ∨ m = 1 := by simp at hm; omega
  rcases h0 with rfl | rfl
  · exact hx
  · exact hy
/-- **what is signed folds up to the pool's root** -/
theorem fT_up (l : List ByteArray) (a : Nat) (T : ByteArray) (hl : l.length = 16) (ha : a ≤ 15) (hs : ∀ j, (gB l j).size ≤ 200) (hT : cut16 T = gB l a) : ∀ m, m ≤ 4 → cut16 (fT a (sdN l a 4) T m) = gB (upN l m) (a / 2 ^ m)
  | 0, _ => by simpa [fT, upN] using hT
  | m + 1, hm => by
    have ih := fT_up l a T hl ha hs hT m (by omega)
    have hlen := upN_pow l hl m (by omega)
    have hq : a / 2 ^ m < 16 / 2 ^ m := by
      have h0 : m = 0 ∨ m = 1 ∨ m = 2 ∨ m = 3 := by omega
      rcases h0 with rfl | rfl | rfl | rfl <;> simp <;> omega
    have hev : 16 / 2 ^ m % 2 = 0 := by
      have h0 : m = 0 ∨ m = 1 ∨ m = 2 ∨ m = 3 := by omega
      rcases h0 with rfl | rfl | rfl | rfl <;> rfl
    have hq16 : a / 2 ^ m < 16 := Nat.lt_of_le_of_lt (Nat.div_le_self _ _) (by omega)
    have e2 : a / 2 ^ (m + 1) = a / 2 ^ m / 2 := by rw [Nat.pow_succ, ← Nat.div_div_eq_div_mul]
    have hle := up_le l hs m
    unfold fT
    rw [ih, sdN_at l a 4 m (by omega), e2, xor_e _ hq16]
    show _ = gB (upL (upN l m)) (a / 2 ^ m / 2)
    rw [up_at _ _ (by omega)]
    unfold nodeT upAt
    generalize a / 2 ^ m = q at *
    by_cases h0 : q % 2 = 0
    · rw [if_pos h0, if_pos h0, hash_cut (two_ok _ _ (hle _) (hle _)), show 2 * (q / 2) = q by omega]
      rfl
    · rw [if_neg h0, if_neg h0, hash_cut (two_ok _ _ (hle _) (hle _)), show 2 * (q / 2) + 1 = q by omega, show 2 * (q / 2) = q - 1 by omega]
      rfl
theorem fT_root (l : List ByteArray) (a : Nat) (T : ByteArray) (hl : l.length = 16) (ha : a ≤ 15) (hs : ∀ j, (gB l j).size ≤ 200) (hT : cut16 T = gB l a) : cut16 (fT a (sdN l a 4) T 4) = rootB l := by
  rw [fT_up l a T hl ha hs hT 4 (by omega), show a / 2 ^ 4 = 0 by omega]
  rfl

end Go.Proofs.YtaejeemjndmjcaaDoor
/-
  What spec.SignText answers at any argument; what is signed is right for the pool's root.
-/
namespace Go.Proofs.YtaejeemjndmjcaaDoor
open Go.RowKit Go.BigFrame
set_option linter.unusedVariables false
set_option linter.unusedSimpArgs false

/-- is it signed -/
def okG (s t : ByteArray) (l : List ByteArray) (y : Int) : Bool := decide (l.length = 16 ∧ (0 ≤ y ∧ y ≤ 15) ∧ t.size ≤ 200 ∧ gB l y.toNat = pubB s y.toNat)
def sgAt (s t : ByteArray) (l : List ByteArray) (y : Int) : Int := if okG s t l y then y else 0
def sgO (s t : ByteArray) (l : List ByteArray) (y : Int) : List ByteArray := if okG s t l y then opN s y.toNat (bitsB t) 8 else []
def sgS (s t : ByteArray) (l : List ByteArray) (y : Int) : List ByteArray := if okG s t l y then shN s y.toNat (bitsB t) 8 else []
def sgD (s t : ByteArray) (l : List ByteArray) (y : Int) : List ByteArray := if okG s t l y then sdN l y.toNat 4 else []
def SgAns (s t : ByteArray) (l : List ByteArray) (y : Int) (w : World) (e : Ending) (w' : World) : Prop :=
  ∃ v, e = .returned (.tuple #[v, .bool (okG s t l y)]) ∧ SigIn w' w.heap.size v (sgAt s t l y) (sgO s t l y) (sgS s t l y) (sgD s t l y) ∧ Below w.heap.size w w'
theorem ans_no {s t : ByteArray} {l : List ByteArray} {y : Int} {w w' : World} {e : Ending} (hok : okG s t l y = false) (h : e = .returned (.tuple #[.agg zSig, .bool false]) ∧ Below w.heap.size w w') : SgAns s t l y w e w' := by
  refine ⟨.agg zSig, by rw [hok]; exact h.1, ?_, h.2⟩
  unfold sgAt sgO sgS sgD
  simp only [hok, Bool.false_eq_true, if_false]
  exact SigIn.zero w' _
theorem ans_yes {s t : ByteArray} {l : List ByteArray} {a : Nat} {w w' : World} {e : Ending} (hok : okG s t l a = true) (h : ∃ v, e = .returned (.tuple #[v, .bool true]) ∧ SigIn w' w.heap.size v a (opN s a (bitsB t) 8) (shN s a (bitsB t) 8) (sdN l a 4) ∧ Below w.heap.size w w') : SgAns s t l a w e w' := by
  obtain ⟨v, h1, h2, h3⟩ := h
  refine ⟨v, by rw [hok]; exact h1, ?_, h3⟩
  unfold sgAt sgO sgS sgD
  simp only [hok, if_true]
  exact h2
theorem sSignText_any (s t : ByteArray) (x : Option Addr) (n c g o : Nat) (l : List ByteArray) (y : Int) (w : World) (hs : s.size ≤ 100) (ht : t.size ≤ 1000) (hln : l.length = n) (hn : n ≤ 16) (hv : SS w (.slice x n c) g o l) :
    Calls Tryd.prog 91 #[.string s, .slice x n c, .int .i64 y, .string t] w (SgAns s t l y w) := by
  by_cases h1 : l.length = 16
  · by_cases h2 : 0 ≤ y ∧ y ≤ 15
    · by_cases h3 : t.size ≤ 200
      · obtain ⟨a, rfl⟩ := Int.eq_ofNat_of_zero_le h2.1
        by_cases h4 : gB l a = pubB s a
        · have hok : okG s t l a = true := decide_eq_true ⟨h1, h2, h3, h4⟩
          exact (sSignText_yes s t _ g o a l w hv h1 (by omega) hs h3 h4).mono fun e w' h => ans_yes hok h
        · have hok : okG s t l a = false := decide_eq_false fun h => h4 h.2.2.2
          exact (sSignText_key s t _ g o a l w hv h1 (by omega) hs h3 h4).mono fun e w' h => ans_no hok h
      · have hok : okG s t l y = false := decide_eq_false fun h => h3 h.2.2.1
        have : n = 16 := by omega
        subst this
        exact (sSignText_off s t x c y w (.inr ⟨decide_eq_true h2, by omega⟩) (by omega)).mono fun e w' h => ans_no hok h
    · have hok : okG s t l y = false := decide_eq_false fun h => h2 h.2.1
      have : n = 16 := by omega
      subst this
      exact (sSignText_off s t x c y w (.inl (decide_eq_false h2)) (by omega)).mono fun e w' h => ans_no hok h
  · have hok : okG s t l y = false := decide_eq_false fun h => h1 h.1
    exact (sSignText_len s t x n c y w (by omega) (by omega)).mono fun e w' h => ans_no hok h

theorem pool_le (s : ByteArray) : ∀ m j, (gB (upN (poolL s) m) j).size ≤ 16
  | 0, j => by
    show (gB (poolL s) j).size ≤ 16
    by_cases h : j < (poolL s).length
    · rw [← gB_eq _ _ h, poolL_at]
      unfold pubA
      split
      · exact hashB_le _ _
      · exact Nat.zero_le _
    · unfold gB
      rw [List.getD_eq_getElem?_getD, List.getElem?_eq_none (by omega)]
      exact Nat.zero_le _
  | m + 1, j => by
    by_cases h : j < (upN (poolL s) (m + 1)).length
    · have e : upN (poolL s) (m + 1) = upL (upN (poolL s) m) := rfl
      rw [e] at h ⊢
      rw [← gB_eq _ _ h, upL_at]
      exact hashB_le _ _
    · unfold gB
      rw [List.getD_eq_getElem?_getD, List.getElem?_eq_none (by omega)]
      exact Nat.zero_le _
theorem rootA_one (s : ByteArray) : (rootA (poolL s)).size = 16 := by
  unfold rootA
  rw [if_pos (poolL_len s)]
  unfold rootB
  have h4 := (upN_len (poolL s) (poolL_len s)).2.2.2.2
  have h3 := (upN_len (poolL s) (poolL_len s)).2.2.2.1
  have e : (upN (poolL s) 4).getD 0 ByteArray.empty = gB (upN (poolL s) 4) 0 := rfl
  rw [e]
  have e4 : upN (poolL s) 4 = upL (upN (poolL s) 3) := rfl
  rw [e4] at h4 ⊢
  rw [← gB_eq _ 0 (by omega), upL_at]
  unfold upAt
  refine hashB_size ?_
  refine tagOk_yes _ _ ⟨by omega, by simp⟩ ?_
  intro m hm
  have h0 : m = 0 ∨ m = 1 := by simp at hm; omega
  rcases h0 with rfl | rfl
  · exact Nat.le_trans (pool_le s 3 _) (by omega)
  · exact Nat.le_trans (pool_le s 3 _) (by omega)


theorem pub16 (s : ByteArray) (a : Nat) (hs : s.size ≤ 100) : (pubB s a).size = 16 := hashB_size (locks_ok s a hs)
theorem pool_at (s : ByteArray) (j : Nat) (hs : s.size ≤ 100) (hj : j < 16) : gB (poolL s) j = pubB s j := by
  have h : j < (poolL s).length := by rw [poolL_len]; exact hj
  rw [← gB_eq _ _ h, poolL_at]
  unfold pubA
  rw [if_pos ⟨hs, by omega, by omega⟩]
  simp
theorem pool16 (s : ByteArray) (hs : s.size ≤ 100) : ∀ m, m ≤ 4 → ∀ j, j < 16 / 2 ^ m → (gB (upN (poolL s) m) j).size = 16
  | 0, _, j, hj => by
    show (gB (poolL s) j).size = 16
    rw [pool_at s j hs (by simpa using hj), pub16 s j hs]
  | m + 1, hm, j, hj => by
    have hlen := upN_pow (poolL s) (poolL_len s) m (by omega)
    have e : 16 / 2 ^ (m + 1) = 16 / 2 ^ m / 2 := by rw [Nat.pow_succ, ← Nat.div_div_eq_div_mul]
    show (gB (upL (upN (poolL s) m)) j).size = 16
    rw [up_at _ _ (by rw [hlen]; omega)]
    have ih := pool16 s hs m (by omega)
    refine hashB_size (two_ok _ _ ?_ ?_)
    · have := ih (2 * j) (by omega); unfold gB at this; omega
    · have := ih (2 * j + 1) (by omega); unfold gB at this; omega
theorem wide_of {l : List ByteArray} (h : ∀ i, i < l.length → (gB l i).size = 16) : (∀ p ∈ l, p.size = 16) ∧ kwB l = true := by
  have h1 : ∀ p ∈ l, p.size = 16 := fun p hp => by
    obtain ⟨i, hi, rfl⟩ := List.getElem_of_mem hp
    rw [gB_eq _ _ hi]
    exact h i hi
  exact ⟨h1, List.all_eq_true.2 fun p hp => decide_eq_true (h1 p hp)⟩
/-- what is known of a text that is signed with a key of a pool -/
theorem signed_facts (s t : ByteArray) (a : Nat) (hs : s.size ≤ 100) (ht : t.size ≤ 200) (ha : a ≤ 15) :
    okG s t (poolL s) a = true ∧ formB a (opN s a (bitsB t) 8) (shN s a (bitsB t) 8) (sdN (poolL s) a 4) = true ∧ (∀ p ∈ opN s a (bitsB t) 8 ++ shN s a (bitsB t) 8 ++ sdN (poolL s) a 4, p.size = 16)
      ∧ cut16 (fT a (sdN (poolL s) a 4) (pubT (bitsB t) (opN s a (bitsB t) 8) (shN s a (bitsB t) 8)) 4) = rootA (poolL s) := by
  have ho := wide_of (l := opN s a (bitsB t) 8) (fun i hi => by rw [opN_len] at hi; rw [opN_at _ _ _ _ _ hi]; exact secB_size _ _ _ _ hs)
  have hh := wide_of (l := shN s a (bitsB t) 8) (fun i hi => by rw [shN_len] at hi; rw [shN_at _ _ _ _ _ hi]; exact lock16 _ (by rw [secB_size _ _ _ _ hs]; omega))
  have hd := wide_of (l := sdN (poolL s) a 4) (fun i hi => by
    rw [sdN_len] at hi
    rw [sdN_at _ _ _ _ hi]
    have hq : a / 2 ^ i < 16 / 2 ^ i := by
      have h0 : i = 0 ∨ i = 1 ∨ i = 2 ∨ i = 3 := by omega
      rcases h0 with rfl | rfl | rfl | rfl <;> simp <;> omega
    have hev : 16 / 2 ^ i % 2 = 0 := by
      have h0 : i = 0 ∨ i = 1 ∨ i = 2 ∨ i = 3 := by omega
      rcases h0 with rfl | rfl | rfl | rfl <;> rfl
    have hq16 : a / 2 ^ i < 16 := Nat.lt_of_le_of_lt (Nat.div_le_self _ _) (by omega)
    refine pool16 s hs i (by omega) _ ?_
    rw [xor_e _ hq16]
    clear ho hh
    generalize a / 2 ^ i = q at *
    generalize 16 / 2 ^ i = n at *
    split <;> omega)
  refine ⟨decide_eq_true ⟨poolL_len s, ⟨by omega, by omega⟩, ht, by rw [Int.toNat_natCast]; exact pool_at s a hs (by omega)⟩, ?_, ?_, ?_⟩
  · unfold formB
    rw [ho.2, hh.2, hd.2, opN_len, shN_len, sdN_len]
    simp
    omega
  · intro p hp
    rcases List.mem_append.1 hp with h | h
    · rcases List.mem_append.1 h with h | h
      · exact ho.1 p h
      · exact hh.1 p h
    · exact hd.1 p h
  · rw [fT_root (poolL s) a _ (poolL_len s) ha (fun j => Nat.le_trans (pool_le s 0 j) (by omega)) (by rw [pubT_signed s a _ hs, pool_at s a hs (by omega)])]
    unfold rootA
    rw [if_pos (poolL_len s)]

end Go.Proofs.YtaejeemjndmjcaaDoor
/-
  What impl.SignText answers at any argument of the drawn laws.
-/
namespace Go.Proofs.YtaejeemjndmjcaaDoor
open Go.RowKit Go.BigFrame
set_option linter.unusedVariables false
set_option linter.unusedSimpArgs false

theorem SignText_any (s t : ByteArray) (x : Option Addr) (n c g o : Nat) (l : List ByteArray) (y : Int) (w : World) (hs : s.size ≤ 100) (ht : t.size ≤ 1000) (hln : l.length = n) (hn : n ≤ 16) (hsz : ∀ j, (gB l j).size ≤ 1048576) (hv : SS w (.slice x n c) g o l) (hT : Tb w) :
    Calls Tryd.prog 51 #[.string s, .slice x n c, .int .i64 y, .string t] w (SgAns s t l y w) := by
  by_cases h1 : l.length = 16
  · by_cases h2 : 0 ≤ y ∧ y ≤ 15
    · by_cases h3 : t.size ≤ 200
      · obtain ⟨a, rfl⟩ := Int.eq_ofNat_of_zero_le h2.1
        by_cases h4 : gB l a = pubB s a
        · have hok : okG s t l a = true := decide_eq_true ⟨h1, h2, h3, h4⟩
          exact (SignText_yes s t _ g o a l w hv h1 (by omega) hs h3 hsz h4 hT).mono fun e w' h => ans_yes hok h
        · have hok : okG s t l a = false := decide_eq_false fun h => h4 h.2.2.2
          exact (SignText_key s t _ g o a l w hv h1 (by omega) hs h3 h4 hT).mono fun e w' h => ans_no hok h
      · have hok : okG s t l y = false := decide_eq_false fun h => h3 h.2.2.1
        exact (SignText_off s t _ g o y l w hv h1 (.inr ⟨decide_eq_true h2, by omega⟩) (by omega)).mono fun e w' h => ans_no hok h
    · have hok : okG s t l y = false := decide_eq_false fun h => h2 h.2.1
      exact (SignText_off s t _ g o y l w hv h1 (.inl (decide_eq_false h2)) (by omega)).mono fun e w' h => ans_no hok h
  · have hok : okG s t l y = false := decide_eq_false fun h => h1 h.1
    exact (SignText_len s t x n c y w (by omega) (by omega)).mono fun e w' h => ans_no hok h

end Go.Proofs.YtaejeemjndmjcaaDoor
