/-
  Texts laid together: Pa, Wb, Tsz, Pfm.
-/
import Derived.Test.YtgkfelhjbeegaaaGreatDoorV08
import Derived.Lib.QuietBelow
import Derived.Test.YtgkfelhjbeegaaaGreatDoorV03
import Derived.Test.YtgkfelhjbeegaaaGreatDoorV02
import Derived.Test.YtgkfelhjbeegaaaGreatDoorV04
import Derived.Laws.Rows
import Derived.Laws.Tables
/-
  Proofs: how wide their sides are, and when these are right: the program's answers.
-/
namespace Go.Proofs.YtgkfelhjbeegaaaGreatDoor
open Go.RowKit Go.BigFrame Go.Sort
set_option linter.unusedVariables false
set_option linter.unusedSimpArgs false

def allW (S : List ByteArray) (x : Int) : Bool := S.all (fun s => decide ((s.size : Int) = x))
theorem allW_bad {S : List ByteArray} {x : Int} {m : Nat} (hm : m < S.length) (h : ¬ ((S[m].size : Int) = x)) : allW S x = false := by
  unfold allW
  rw [List.all_eq_false]
  exact ⟨S[m], List.getElem_mem _, by simpa using h⟩
theorem allW_good {S : List ByteArray} {x : Int} (h : ∀ j (hj : j < S.length), (S[j].size : Int) = x) : allW S x = true := by
  unfold allW
  rw [List.all_eq_true]
  intro s hs
  obtain ⟨j, hj, rfl⟩ := List.getElem_of_mem hs
  simpa using h j hj
theorem wideB_all (S : List ByteArray) (x : Int) : wideB S x = (allW S x && decide (1 ≤ x ∧ x ≤ 32)) := rfl

set_option maxRecDepth 100000 in
set_option maxHeartbeats 1000000 in
theorem allWide_any (v : Value) (g o : Nat) (S : List ByteArray) (x : Int) (w : World) (hv : SS w v g o S) :
    Calls Tryz.prog 97 #[v, .int .i64 x] w fun e w' => e = .returned (.bool (allW S x)) ∧ w' = w := by
  obtain ⟨R, hR⟩ : ∃ R, allW S x = R := ⟨_, rfl⟩
  have HR : Hid (allW S x = R) := hR
  rw [hR]
  obtain ⟨a, cap, rfl, hl, hA, hc⟩ := hv
  obtain ⟨n, hn⟩ : ∃ n, S.length = n := ⟨_, rfl⟩
  have HA : Hid (0 < n → a = some ⟨g, o, none⟩) := by rw [← hn]; exact hA
  have HCC : Hid (∀ j (h : j < S.length), w.cell? ⟨g, o + j, none⟩ = some (.string S[j])) := hc
  have HN : Hid (S.length = n) := hn
  have HST : Hid (PwR w S x (.int .i64 0) w) := ⟨0, by omega, rfl, rfl, fun j _ h => by omega⟩
  rw [hn] at hl ⊢
  clear hA hc hn hR
  go_enter Tryz.func97, Tryz.ntmps97
  go_wp2
  go_loopw [9] (fun i wr => PwR w S x i wr) (fun i _ => n - (intOf i).toNat)
  case atStart => exact HST.out
  case round =>
    obtain ⟨m, hm, rfl, rfl, HI⟩ := hrel
    clear HST
    rw [HN.out] at hm
    by_cases hlt : m < n
    · have ea := HA.out (by omega)
      subst ea
      have c0 := HCC.out m (by rw [HN.out]; exact hlt)
      have HB : Hid (¬ (((S[m]'(by rw [HN.out]; exact hlt)).size : Int) = x) → allW S x = false) := fun h => allW_bad _ h
      have HJ : Hid ((((S[m]'(by rw [HN.out]; exact hlt)).size : Int) = x) → ∀ j (h : j < S.length), j < m + 1 → (S[j].size : Int) = x) := fun h j hj hjm => by
        rcases Nat.lt_or_ge j m with h1 | h1
        · exact HI.out j hj h1
        · have : j = m := by omega
          subst this
          exact h
      generalize S[m]'(by rw [HN.out]; exact hlt) = X at *
      have i1 : (m : Int) < (n : Int) := by omega
      have i2 : (0 : Int) ≤ (m : Int) := by omega
      by_cases hk : (X.size : Int) = x
      · have HJ2 : Hid (∀ j (h : j < S.length), j < m + 1 → (S[j].size : Int) = x) := HJ.out hk
        have q : ((X.size : Int) != x) = false := by simpa using hk
        clear HJ HB hk HI HCC
        go_wp2
        go_roundw
        case rel => exact ⟨m + 1, by rw [HN.out]; omega, by go_num, rfl, HJ2⟩
        case measure => simp [intOf]; omega
      · have hRf := HB.out hk
        rw [HR.out] at hRf
        subst hRf
        have q : ((X.size : Int) != x) = true := by simpa using hk
        clear HJ HB hk HI HCC HR
        go_wp2
        try rw [Exit.noGoto_ret]
        go_ret
        exact ⟨rfl, rfl⟩
    · have hme : m = n := by omega
      have hG := allW_good (S := S) (x := x) (fun j hj => HI.out j hj (by rw [HN.out] at hj; omega))
      rw [HR.out] at hG
      subst hG
      have i1 : ¬ (m : Int) < (n : Int) := by omega
      clear HI HCC HR
      go_wp2
      go_ret
      exact ⟨rfl, rfl⟩

/-- are they right sides? -/
def sidB (S : List ByteArray) (x : Int) : Bool := decide (S.length ≤ 8) && wideB S x
set_option maxRecDepth 100000 in
set_option maxHeartbeats 1000000 in
theorem sidesOk_any (v : Value) (g o : Nat) (S : List ByteArray) (x : Int) (w : World) (hv : SS w v g o S) :
    Calls Tryz.prog 102 #[v, .int .i64 x] w fun e w' => e = .returned (.bool (sidB S x)) ∧ w' = w := by
  obtain ⟨R, hR⟩ : ∃ R, sidB S x = R := ⟨_, rfl⟩
  have haw := allWide_any v g o S x w hv
  have e0 : sidB S x = (decide (S.length ≤ 8) && (allW S x && decide (1 ≤ x ∧ x ≤ 32))) := rfl
  rw [hR] at e0 ⊢
  obtain ⟨a, cap, rfl, hl, hz1, hz2⟩ := hv
  clear hR hz1 hz2
  cases h1 : decide (1 ≤ x ∧ x ≤ 32) with
  | false =>
    have hRf : R = false := by rw [e0, h1]; simp
    subst hRf
    clear haw e0
    go_enter Tryz.func102, Tryz.ntmps102
    go_wp2_with fail
    refine (widthOk_any _ _).mono ?_
    rintro e w1 ⟨rfl, rfl⟩
    rw [h1]
    go_wp2
    go_ret
    exact ⟨rfl, rfl⟩
  | true =>
    by_cases h2 : S.length ≤ 8
    · have hRf : R = allW S x := by rw [e0, h1, decide_eq_true h2]; simp
      have i2 : (S.length : Int) ≤ 8 := by omega
      rw [← hRf] at haw
      clear hRf e0
      generalize S.length = n at *
      go_enter Tryz.func102, Tryz.ntmps102
      go_wp2_with fail
      refine (widthOk_any _ _).mono ?_
      rintro e w1 ⟨rfl, rfl⟩
      rw [h1]
      go_wp2_with fail
      refine haw.mono ?_
      rintro e w2 ⟨rfl, rfl⟩
      go_wp2
      go_ret
      exact ⟨rfl, rfl⟩
    · have hRf : R = false := by rw [e0, decide_eq_false h2]; simp
      subst hRf
      have i2 : ¬ (S.length : Int) ≤ 8 := by omega
      clear haw e0
      generalize S.length = n at *
      go_enter Tryz.func102, Tryz.ntmps102
      go_wp2_with fail
      refine (widthOk_any _ _).mono ?_
      rintro e w1 ⟨rfl, rfl⟩
      rw [h1]
      go_wp2
      go_ret
      exact ⟨rfl, rfl⟩

end Go.Proofs.YtgkfelhjbeegaaaGreatDoor
/-
  When a trust is right: the program's and the specification's answers.
-/
namespace Go.Proofs.YtgkfelhjbeegaaaGreatDoor
open Go.RowKit Go.BigFrame Go.Sort
set_option linter.unusedVariables false
set_option linter.unusedSimpArgs false

theorem splitOk_any (k : Int) (w : World) : Calls Tryz.prog 98 #[.int .i64 k] w fun e w' => e = .returned (.bool (decide (0 ≤ k ∧ k ≤ 2))) ∧ w' = w := by
  by_cases h1 : 0 ≤ k
  · by_cases h2 : k ≤ 2
    · go_enter Tryz.func98, Tryz.ntmps98
      go_wp2
      go_ret
      exact ⟨by simp [h1, h2], rfl⟩
    · go_enter Tryz.func98, Tryz.ntmps98
      go_wp2
      go_ret
      exact ⟨by simp [h2], rfl⟩
  · go_enter Tryz.func98, Tryz.ntmps98
    go_wp2
    go_ret
    exact ⟨by simp; omega, rfl⟩

theorem wide16 (R : List ByteArray) : wideB R 16 = allW R 16 := by
  rw [wideB_all, decide_eq_true (by omega), Bool.and_true]
theorem tkB_w (R : List ByteArray) (K N : Int) : tkB R K N = (decide (1 ≤ (R.length : Int) ∧ (R.length : Int) ≤ 3) && (allW R 16 && (decide (0 ≤ K ∧ K ≤ 2) && decide (0 ≤ N ∧ N ≤ 2)))) := rfl

set_option maxRecDepth 100000 in
set_option maxHeartbeats 1000000 in
theorem TrustOk_any (v : Value) (g o : Nat) (R : List ByteArray) (K N : Int) (w : World) (hv : SS w v g o R) :
    Calls Tryz.prog 81 #[.agg #[v, .int .i64 K, .int .i64 N]] w fun e w' => e = .returned (.bool (tkB R K N)) ∧ Below w.heap.size w w' := by
  have HX : Hid (Below w.heap.size w (w.alloc (.cells #[v, .int .i64 K, .int .i64 N] 41)) ∧ Box 41 (w.alloc (.cells #[v, .int .i64 K, .int .i64 N] 41)) w.heap.size [v, .int .i64 K, .int .i64 N]) := ⟨below_alloc _ _, Box.new _ _ _⟩
  have HW : Hid (∀ W, Below w.heap.size w W → Calls Tryz.prog 97 #[v, .int .i64 16] W fun e w' => e = .returned (.bool (allW R 16)) ∧ w' = W) := fun W hW => allWide_any v g o R 16 W (hv.below hW hv.lt)
  have HS : Hid (∀ W, Calls Tryz.prog 98 #[.int .i64 K] W fun e w' => e = .returned (.bool (decide (0 ≤ K ∧ K ≤ 2))) ∧ w' = W) := fun W => splitOk_any K W
  rw [tkB_w]
  obtain ⟨a, c, rfl, hl, hf1, hf2⟩ := hv
  clear hf1 hf2
  generalize allW R 16 = A1 at *
  generalize hA2 : decide (0 ≤ K ∧ K ≤ 2) = A2 at *
  generalize R.length = n at *
  clear hA2
  have HB : Hid (Below w.heap.size w (w.alloc (.cells #[.slice a n c, .int .i64 K, .int .i64 N] 41))) := HX.out.1
  clear HX
  by_cases h1 : 1 ≤ n
  · by_cases h3 : n ≤ 3
    · rw [decide_eq_true (by omega), Bool.true_and]
      have q1 : (1 : Int) ≤ (n : Int) := by omega
      have q3 : (n : Int) ≤ 3 := by omega
      cases A1
      · go_enter Tryz.func81, Tryz.ntmps81
        go_wp2_with fail
        refine (HW.out _ HB.out).mono ?_
        rintro e w1 ⟨rfl, rfl⟩
        clear HW HS
        go_wp2
        go_ret
        exact ⟨by simp, HB.out⟩
      · cases A2
        · go_enter Tryz.func81, Tryz.ntmps81
          go_wp2_with fail
          refine (HW.out _ HB.out).mono ?_
          rintro e w1 ⟨rfl, rfl⟩
          clear HW
          go_wp2_with fail
          refine (HS.out _).mono ?_
          rintro e w2 ⟨rfl, rfl⟩
          clear HS
          go_wp2
          go_ret
          exact ⟨by simp, HB.out⟩
        · by_cases hN : 0 ≤ N
          · by_cases hM : N ≤ 2
            · rw [decide_eq_true ⟨hN, hM⟩]
              have qM : N < 3 := by omega
              go_enter Tryz.func81, Tryz.ntmps81
              go_wp2_with fail
              refine (HW.out _ HB.out).mono ?_
              rintro e w1 ⟨rfl, rfl⟩
              clear HW
              go_wp2_with fail
              refine (HS.out _).mono ?_
              rintro e w2 ⟨rfl, rfl⟩
              clear HS
              go_wp2
              go_ret
              exact ⟨by simp, HB.out⟩
            · rw [decide_eq_false (fun h => hM h.2)]
              have qM : ¬ N < 3 := by omega
              go_enter Tryz.func81, Tryz.ntmps81
              go_wp2_with fail
              refine (HW.out _ HB.out).mono ?_
              rintro e w1 ⟨rfl, rfl⟩
              clear HW
              go_wp2_with fail
              refine (HS.out _).mono ?_
              rintro e w2 ⟨rfl, rfl⟩
              clear HS
              go_wp2
              go_ret
              exact ⟨by simp; omega, HB.out⟩
          · rw [decide_eq_false (fun h => hN h.1)]
            go_enter Tryz.func81, Tryz.ntmps81
            go_wp2_with fail
            refine (HW.out _ HB.out).mono ?_
            rintro e w1 ⟨rfl, rfl⟩
            clear HW
            go_wp2_with fail
            refine (HS.out _).mono ?_
            rintro e w2 ⟨rfl, rfl⟩
            clear HS
            go_wp2
            go_ret
            exact ⟨by simp, HB.out⟩
    · rw [decide_eq_false (by omega), Bool.false_and]
      have q1 : (1 : Int) ≤ (n : Int) := by omega
      have q3 : ¬ (n : Int) ≤ 3 := by omega
      clear HW HS
      go_enter Tryz.func81, Tryz.ntmps81
      go_wp2
      go_ret
      exact ⟨by simp, HB.out⟩
  · rw [decide_eq_false (by omega), Bool.false_and]
    have q1 : ¬ (1 : Int) ≤ (n : Int) := by omega
    clear HW HS
    go_enter Tryz.func81, Tryz.ntmps81
    go_wp2
    go_ret
    exact ⟨by simp, HB.out⟩

set_option maxRecDepth 100000 in
set_option maxHeartbeats 1000000 in
theorem sTrustOk_any (v : Value) (g o : Nat) (R : List ByteArray) (K N : Int) (w : World) (hv : SS w v g o R) :
    Calls Tryz.prog 38 #[.agg #[v, .int .i64 K, .int .i64 N]] w fun e w' => e = .returned (.bool (tkB R K N)) ∧ Below w.heap.size w w' := by
  have HB : Hid (Below w.heap.size w (w.alloc (.cells #[v, .int .i64 K, .int .i64 N] 41))) := below_alloc _ _
  have HW : Hid (∀ W, Below w.heap.size w W → Calls Tryz.prog 40 #[v, .int .i64 16] W fun e w' => e = .returned (.bool (wideB R 16)) ∧ w' = W) := fun W hW => l11Wide_any v g o R 16 W (hv.below hW hv.lt)
  have HL : Hid (∀ (x lo hi : Int) W, Calls Tryz.prog 21 #[.int .i64 x, .int .i64 lo, .int .i64 hi] W fun e w' => e = .returned (.bool (decide (lo ≤ x ∧ x ≤ hi))) ∧ w' = W) := fun x lo hi W => l01In_any x lo hi W
  rw [tkB_w]
  rw [wide16] at HW
  obtain ⟨a, c, rfl, hl, hf1, hf2⟩ := hv
  clear hf1 hf2
  generalize allW R 16 = A1 at *
  generalize R.length = n at *
  have H0 : Hid (∀ W, Calls Tryz.prog 21 #[.int .i64 (n : Int), .int .i64 1, .int .i64 3] W fun e w' => e = .returned (.bool (decide (1 ≤ (n : Int) ∧ (n : Int) ≤ 3))) ∧ w' = W) := fun W => HL.out _ _ _ W
  have H1 : Hid (∀ W, Calls Tryz.prog 21 #[.int .i64 K, .int .i64 0, .int .i64 2] W fun e w' => e = .returned (.bool (decide (0 ≤ K ∧ K ≤ 2))) ∧ w' = W) := fun W => HL.out _ _ _ W
  have H2 : Hid (∀ W, Calls Tryz.prog 21 #[.int .i64 N, .int .i64 0, .int .i64 2] W fun e w' => e = .returned (.bool (decide (0 ≤ N ∧ N ≤ 2))) ∧ w' = W) := fun W => HL.out _ _ _ W
  clear HL
  generalize decide (1 ≤ (n : Int) ∧ (n : Int) ≤ 3) = A0 at *
  generalize decide (0 ≤ K ∧ K ≤ 2) = A2 at *
  generalize decide (0 ≤ N ∧ N ≤ 2) = A3 at *
  go_enter Tryz.func38, Tryz.ntmps38
  go_wp2_with fail
  refine (H0.out _).mono ?_
  rintro e w1 ⟨rfl, rfl⟩
  clear H0
  cases A0
  · clear HW H1 H2
    go_wp2
    go_ret
    exact ⟨by simp, HB.out⟩
  go_wp2_with fail
  refine (HW.out _ HB.out).mono ?_
  rintro e w2 ⟨rfl, rfl⟩
  clear HW
  cases A1
  · clear H1 H2
    go_wp2
    go_ret
    exact ⟨by simp, HB.out⟩
  go_wp2_with fail
  refine (H1.out _).mono ?_
  rintro e w3 ⟨rfl, rfl⟩
  clear H1
  cases A2
  · clear H2
    go_wp2
    go_ret
    exact ⟨by simp, HB.out⟩
  go_wp2_with fail
  refine (H2.out _).mono ?_
  rintro e w4 ⟨rfl, rfl⟩
  clear H2
  go_wp2
  go_ret
  exact ⟨by simp, HB.out⟩

set_option maxRecDepth 100000 in
theorem knows_any (v : Value) (R : List ByteArray) (K N h : Int) (w : World) (hv : ∃ a c, v = .slice a R.length c) (hl : R.length ≤ 1100000) :
    Calls Tryz.prog 82 #[.agg #[v, .int .i64 K, .int .i64 N], .int .i64 h] w fun e w' => e = .returned (.bool (decide (0 ≤ h ∧ h < (R.length : Int)))) ∧ Below w.heap.size w w' := by
  have HB : Hid (Below w.heap.size w (w.alloc (.cells #[v, .int .i64 K, .int .i64 N] 41))) := below_alloc _ _
  obtain ⟨a, c, rfl⟩ := hv
  generalize R.length = n at *
  by_cases h0 : 0 ≤ h
  · by_cases h1 : h < (n : Int)
    · rw [decide_eq_true ⟨h0, h1⟩]
      go_enter Tryz.func82, Tryz.ntmps82
      go_wp2
      go_ret
      exact ⟨rfl, HB.out⟩
    · rw [decide_eq_false (fun h => h1 h.2)]
      go_enter Tryz.func82, Tryz.ntmps82
      go_wp2
      go_ret
      exact ⟨by simp, HB.out⟩
  · rw [decide_eq_false (fun h => h0 h.1)]
    go_enter Tryz.func82, Tryz.ntmps82
    go_wp2
    go_ret
    exact ⟨by simp, HB.out⟩

end Go.Proofs.YtgkfelhjbeegaaaGreatDoor
/-
  A row of texts that was handed in, great or small, and what a law weighs of it.
-/
namespace Go.Proofs.YtgkfelhjbeegaaaGreatDoor
open Go.RowKit Go.BigFrame Go.Sort
set_option linter.unusedVariables false
set_option linter.unusedSimpArgs false

def IsRowT (w : World) (v : Value) (g o : Nat) (l : List ByteArray) : Prop := ∃ a n cap, v = .slice a n cap ∧ n ≤ 9223372036854775807 ∧ (n ≤ 1048576 → l.length = n ∧ SS w v g o l ∧ (0 < l.length → g < w.heap.size) ∧ ∀ t ∈ l, t.size ≤ 9223372036854775807)
theorem IsRowT.later {w w' : World} {v : Value} {g o : Nat} {l : List ByteArray} (h : IsRowT w v g o l) (hb : Below w.heap.size w w') : IsRowT w' v g o l := by
  obtain ⟨a, n, cap, hv, hn, hr⟩ := h
  exact ⟨a, n, cap, hv, hn, fun hl => ⟨(hr hl).1, (hr hl).2.1.below hb (hr hl).2.2.1, fun h => Nat.lt_of_lt_of_le ((hr hl).2.2.1 h) hb.size, (hr hl).2.2.2⟩⟩
theorem rowT_of {w : World} {a : Option Addr} {len cap : Nat} {z : List ByteArray} (h : IsRowS w a len cap z) : ∃ g o l, IsRowT w (.slice a len cap) g o l := by
  have hm := h.len
  unfold maxLen at hm
  by_cases hl : len ≤ 1048576
  · obtain ⟨g, o, l, h1, h2, h3⟩ := ss_of_row h hl
    exact ⟨g, o, l, a, len, cap, rfl, by omega, fun _ => ⟨h1, h2, h2.lt, fun t ht => by have := h3 t ht; unfold maxLen at this; omega⟩⟩
  · exact ⟨0, 0, [], a, len, cap, rfl, by omega, fun h => absurd h hl⟩

def SzTw (l : List ByteArray) (x0 : Int) (w : World) (x i : Value) (wr : World) : Prop := ∃ (m : Nat) (y : Int), m ≤ l.length ∧ i = .int .i64 m ∧ x = .int .i64 y ∧ 0 ≤ y ∧ y ≤ x0 ∧ Hid (∀ j (h : j < l.length), j < m → l[j].size ≤ 1048576) ∧ wr = w

set_option maxRecDepth 100000 in
set_option maxHeartbeats 400000 in
theorem szStringS_row (v : Value) (g o : Nat) (l : List ByteArray) (x : Int) (w : World) (hv : IsRowT w v g o l) (h0 : 0 ≤ x) (h1 : x ≤ 1048576) :
    Calls Tryz.prog 12 #[v, .int .i64 x] w fun e w' => ∃ A : Int, e = .returned (.int .i64 A) ∧ w' = w ∧ A ≤ x ∧ (0 ≤ A → SS w v g o l ∧ (0 < l.length → g < w.heap.size) ∧ (∀ t ∈ l, t.size ≤ 1048576) ∧ l.length ≤ 1048576) := by
  obtain ⟨a, n, cap, rfl, hn, hr⟩ := hv
  by_cases hbig : x < (n : Int)
  · have q : x - (n : Int) < 0 := by omega
    go_enter Tryz.func12, Tryz.ntmps12
    go_wp2
    go_ret
    exact ⟨_, rfl, rfl, by omega, fun h => by omega⟩
  obtain ⟨hln, hrs, hgl, hsz⟩ := hr (by omega)
  have HRS : Hid (SS w (.slice a n cap) g o l ∧ (0 < l.length → g < w.heap.size)) := ⟨hrs, hgl⟩
  have HSZ : Hid (∀ t ∈ l, t.size ≤ 9223372036854775807) := hsz
  have HLN : Hid (l.length = n) := hln
  obtain ⟨a', c', ev, _, hA, hc⟩ := hrs
  have HC : Hid (∀ j (h : j < l.length), w.cell? ⟨g, o + j, none⟩ = some (.string l[j])) := hc
  have HA : Hid (0 < n → a = some ⟨g, o, none⟩) := fun h => by
    have := hA (by omega)
    simp at ev
    rw [ev.1, this]
  clear hr hA hsz ev hc hgl
  have q : ¬ x - (n : Int) < 0 := by omega
  go_enter Tryz.func12, Tryz.ntmps12
  go_wp2
  go_loopw [1, 5] (fun y i wr => SzTw l (x - (n : Int)) w y i wr) (fun _ i _ => n - (intOf i).toNat)
  case atStart => exact ⟨0, x - (n : Int), by omega, rfl, by go_num, by omega, by omega, fun j _ h => by omega, rfl⟩
  case round =>
    obtain ⟨m, y, hm, rfl, rfl, hy0, hy1, HJ, rfl⟩ := hrel
    by_cases hlt : m < n
    · have ea := HA.out (by omega)
      subst ea
      have c0 := HC.out m (by omega)
      obtain ⟨X, hX⟩ : ∃ X, l[m]'(by omega) = X := ⟨_, rfl⟩
      rw [hX] at c0
      have hxs := HSZ.out X (by rw [← hX]; exact List.getElem_mem _)
      have HX : Hid (l[m]'(by omega) = X) := hX
      have i1 : (m : Int) < (n : Int) := by omega
      have i2 : (0 : Int) ≤ (m : Int) := by omega
      clear hX HSZ HA HRS HC
      by_cases hneg : y - (X.size : Int) < 0
      · clear HJ HX
        go_wp2
        try rw [Exit.noGoto_ret]
        go_ret
        exact ⟨_, rfl, rfl, by omega, fun h => by omega⟩
      · have HX2 : Hid (X.size ≤ 1048576) := by show X.size ≤ 1048576; omega
        go_wp2
        go_roundw
        case rel =>
          refine ⟨m + 1, y - (X.size : Int), by omega, by go_num, by go_num, by omega, by omega, ?_, rfl⟩
          intro j hj hjl
          rcases Nat.lt_or_ge j m with h3 | h3
          · exact HJ.out j hj h3
          · have : j = m := by omega
            subst this
            rw [HX.out]
            exact HX2.out
        case measure => simp [intOf]; omega
    · have hme : m = n := by omega
      have HF : Hid (SS wr (.slice a n cap) g o l ∧ (0 < l.length → g < wr.heap.size) ∧ (∀ t ∈ l, t.size ≤ 1048576) ∧ l.length ≤ 1048576) := ⟨HRS.out.1, HRS.out.2, fun f hf => by
        obtain ⟨j, hj, rfl⟩ := List.getElem_of_mem hf
        exact HJ.out j hj (by omega), by omega⟩
      subst hme
      clear HJ HA HRS HSZ HC
      go_wp2
      go_ret
      exact ⟨_, rfl, rfl, by omega, fun _ => HF.out⟩

end Go.Proofs.YtgkfelhjbeegaaaGreatDoor
/-
  A proof in a box of its own: read, stored, answered.
-/
namespace Go.Proofs.YtgkfelhjbeegaaaGreatDoor
open Go.RowKit Go.BigFrame Go.Sort
set_option linter.unusedVariables false
set_option linter.unusedSimpArgs false

theorem cell_up {w w' : World} {p : Addr} {v : Value} (h : w.cell? p = some v) (hb : Below w.heap.size w w') : w'.cell? p = some v := by
  have hlt : p.block < w.heap.size := by
    rcases Nat.lt_or_ge p.block w.heap.size with h5 | h5
    · exact h5
    · simp [World.cell?, Array.getElem?_eq_none h5] at h
  exact (hb.cell hlt).trans h
/-- block g is a proof with these fields -/
def PfM (w : World) (g : Nat) (v1 v2 : Value) : Prop := w.heap[g]? = some (.cells #[v1, v2] 45 (0, 0))
theorem PfM.lt {w : World} {g : Nat} {v1 v2 : Value} (h : PfM w g v1 v2) : g < w.heap.size := (Array.getElem?_eq_some_iff.1 h).1
theorem PfM.keep {w w' : World} {g : Nat} {v1 v2 : Value} (h : PfM w g v1 v2) (he : w'.heap[g]? = w.heap[g]?) : PfM w' g v1 v2 := by
  unfold PfM at *
  rw [he, h]
theorem PfM.later {w w' : World} {g : Nat} {v1 v2 : Value} (h : PfM w g v1 v2) (hb : Below w.heap.size w w') : PfM w' g v1 v2 := h.keep (hb.block g h.lt)
theorem PfM.new (w : World) (v1 v2 : Value) : PfM (w.alloc (.cells #[v1, v2] 45)) w.heap.size v1 v2 := Go.heap_alloc_new w _
theorem sizeP : (Tryz.prog.info? 45).map (·.size) = some 2 := by kernel_rfl
theorem load_pf {w : World} {g : Nat} {v1 v2 : Value} (hA : PfM w g v1 v2) : (loadVar 45 ⟨g, 0, none⟩).run Tryz.prog w = .ok (.agg #[v1, v2]) w :=
  run_loadVar_row (P := Tryz.prog) w g 45 45 _ (0, 0) _ hA Tryz.underlying45 rfl sizeP
theorem ret_pf2 {fn : Func} {Rp : Ending → World → Prop} {a : Act} {w : World} (c s g : Nat) (v1 v2 b : Value) (hres : fn.results = #[.cell c 45, .tmp s]) (hd : a.defers = []) (hp : a.tmps.getD c undef = .pointer (some ⟨g, 0, none⟩)) (hb : a.tmps.getD s undef = b)
    (hA : PfM w g v1 v2) (h : Rp (.returned (.tuple #[.agg #[v1, v2], b])) w) : bodyPost Tryz.prog fn Rp .ret a w := by
  have hr := load_pf hA
  refine bodyPost_ret (v := .tuple #[.agg #[v1, v2], b]) ?_ hd h
  have hp' : a.tmps[c]?.getD undef = .pointer (some ⟨g, 0, none⟩) := by simpa using hp
  have hb' : a.tmps[s]?.getD undef = b := by simpa using hb
  simp [results, hres, asAddr, hr, hp', hb']
section
variable {w : World} {ops : Array Oper} {rest : List Oper} {o : Oper} {a : Act} {Q : Exit → Act → World → Prop}
theorem wp_storePf (hgd : o.guard = none) (p v : Operand) (ho : o.op = .store 45 p v) (g : Nat) (v1 v2 u1 u2 : Value) (hA : PfM w g v1 v2) (hp : a.eval p = .pointer (some ⟨g, 0, none⟩)) (hv : a.eval v = .agg #[u1, u2])
    (h1 : u1.oneCell' = true) (h2 : u2.oneCell' = true)
    (h : PfM (w.setRow g #[u1, u2]) g u1 u2 → wpList Tryz.prog ops Q rest (a.put o.dst (.tuple #[])) (w.setRow g #[u1, u2])) : wpList Tryz.prog ops Q (o :: rest) a w := by
  refine wpList_plain hgd fun K hK => ?_
  have hr : (Instr.storeAt 45 (.pointer (some ⟨g, 0, none⟩)) (.agg #[u1, u2])).run Tryz.prog w = .ok () (w.setRow g #[u1, u2]) := by
    simp only [Instr.storeAt, Instr.sureAddr, Sem.run_bind, Sem.run_pure, Result.andThen]
    refine run_storeVar_row w g 45 45 _ _ hA sizeP rfl ?_
    simp [h1, h2]
  unfold Oper.wp
  simp [execOp, ho, hp, hv, hr, Result.andThen]
  exact hK _ _ (h (setRow_heap w g _ _ _ _ hA))
end
theorem grown_setRowP (w : World) (g : Nat) (R : Array Value) : w.grownBy (w.setRow g R) (some g) :=
  ⟨rfl, rfl, rfl, by simp [World.setRow], fun k _ hk => setRow_other w g k R (fun e => hk (by simp [e]))⟩
theorem below_row {B g : Nat} {w0 w : World} {R : Array Value} (h : Below B w0 w) (hg : B ≤ g) : Below B w0 (w.setRow g R) :=
  h.trans ⟨rfl, rfl, rfl, by simp [World.setRow], fun k hk => setRow_other w g k R (by omega)⟩
theorem size_setRowP (w : World) (g : Nat) (R : Array Value) : (w.setRow g R).heap.size = w.heap.size := by simp [World.setRow]
theorem PfM.c0 {w : World} {g : Nat} {v1 v2 : Value} (h : PfM w g v1 v2) : w.cell? ⟨g, 0, none⟩ = some v1 := by rw [cell_of_row w g 0 _ _ _ h]; rfl
theorem PfM.c1 {w : World} {g : Nat} {v1 v2 : Value} (h : PfM w g v1 v2) : w.cell? ⟨g, 1, none⟩ = some v2 := by rw [cell_of_row w g 1 _ _ _ h]; rfl
theorem PfM.fr {w : World} {g : Nat} {v1 v2 : Value} (h : PfM w g v1 v2) (j : Nat) : w.frozen? ⟨g, j, none⟩ = false := by simp [World.frozen?, show w.heap[g]? = _ from h]
theorem PfM.set0 {w : World} {g : Nat} {v1 v2 : Value} (h : PfM w g v1 v2) (u : Value) : PfM (w.setCell ⟨g, 0, none⟩ u) g u v2 := heap_setCell_same w g 0 _ _ _ h
theorem PfM.set1 {w : World} {g : Nat} {v1 v2 : Value} (h : PfM w g v1 v2) (u : Value) : PfM (w.setCell ⟨g, 1, none⟩ u) g v1 u := heap_setCell_same w g 1 _ _ _ h
theorem ret_pf1 {fn : Func} {Rp : Ending → World → Prop} {a : Act} {w : World} (c g : Nat) (v1 v2 : Value) (hres : fn.results = #[.cell c 45]) (hd : a.defers = []) (hp : a.tmps.getD c undef = .pointer (some ⟨g, 0, none⟩))
    (hA : PfM w g v1 v2) (h : Rp (.returned (.agg #[v1, v2])) w) : bodyPost Tryz.prog fn Rp .ret a w := by
  have hr := load_pf hA
  refine bodyPost_ret (v := .agg #[v1, v2]) ?_ hd h
  have hp' : a.tmps[c]?.getD undef = .pointer (some ⟨g, 0, none⟩) := by simpa using hp
  simp [results, hres, asAddr, hr, hp']
theorem wp_loadPf {w : World} {ops : Array Oper} {rest : List Oper} {o : Oper} {a : Act} {Q : Exit → Act → World → Prop} (hgd : o.guard = none) (p : Operand) (ho : o.op = .load 45 p) (g : Nat) (v1 v2 : Value) (hp : a.eval p = .pointer (some ⟨g, 0, none⟩)) (hA : PfM w g v1 v2)
    (h : wpList Tryz.prog ops Q rest (a.put o.dst (.agg #[v1, v2])) w) : wpList Tryz.prog ops Q (o :: rest) a w := by
  refine wpList_plain hgd fun K hK => ?_
  have hr : (Instr.loadAt 45 (.pointer (some ⟨g, 0, none⟩))).run Tryz.prog w = .ok (.agg #[v1, v2]) w := by
    simp only [Instr.loadAt, Instr.sureAddr, Sem.run_bind, Sem.run_pure, Result.andThen]
    exact load_pf hA
  unfold Oper.wp
  simp [execOp, ho, hp, hr, Result.andThen]
  exact hK _ _ h

end Go.Proofs.YtgkfelhjbeegaaaGreatDoor
