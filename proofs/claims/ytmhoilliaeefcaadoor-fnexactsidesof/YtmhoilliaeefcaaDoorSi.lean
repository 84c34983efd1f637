/-
  What SidesOf answers: the program's.
-/
import Derived.Test.YtmhoilliaeefcaaDoorSb
namespace Go.Proofs.YtmhoilliaeefcaaDoor
open Go.RowKit Go.BigFrame Go.Sort
set_option linter.unusedVariables false
set_option linter.unusedSimpArgs false

theorem OS.upT {B : Nat} {w0 w w' : World} {u : Value} {l : List ByteArray} (hb : Below B w0 w) (hB : B ≤ w.heap.size) (h : OS w.heap.size w w' u l) : OS B w0 w' u l := by
  refine ⟨⟨h.1.1, ?_⟩, hb.trans (h.2.1.mono hB), Nat.le_trans hB h.2.2⟩
  rcases h.1.2 with hn | ⟨g, cap, cur, hv, hbg, rest⟩
  · exact .inl hn
  · exact .inr ⟨g, cap, cur, hv, Nat.le_trans hB hbg, rest⟩

set_option maxRecDepth 100000 in
set_option maxHeartbeats 1000000 in
theorem SidesOf_yes (v : Value) (ga oa : Nat) (L : List Le) (ix l : Nat) (x : Int) (w : World) (hv : RS 2 lcs w v ga oa L) (hsm : SmallL L) (h1 : LV.leavesB L = true) (h2 : ix ≤ 255) (h3 : l ≤ 8) (h4 : 1 ≤ x ∧ x ≤ 32) (hT : Tb w) :
    Calls Tryd.prog 17 #[v, .int .i64 (ix : Int), .int .i64 (l : Int), .int .i64 x] w fun e w' => ∃ u, e = .returned u ∧ OS w.heap.size w w' u (sdL x ix L (8 - l)) := by
  have hc := LeavesOk_any v ga oa L w hv hsm
  rw [h1] at hc
  have hpl : ix / 2 ^ (8 - l) < 2 ^ l := by
    rw [Nat.div_lt_iff_lt_mul (Nat.two_pow_pos _), ← Nat.pow_add, show l + (8 - l) = 8 by omega]
    omega
  have HN : Hid (∀ W, Below w.heap.size w W → Calls Tryd.prog 59 #[v, .int .i64 (l : Int), .int .i64 ((ix : Int) / 2 ^ (8 - l)), .int .i64 x] W fun e w' => ∃ u, e = .returned u ∧ NT x L w' (8 - l) (ix / 2 ^ (8 - l)) u ∧ Below w.heap.size w w') := fun W hW => by
    have hsh : (ix : Int) / 2 ^ (8 - l) = ((ix / 2 ^ (8 - l) : Nat) : Int) := by simp
    rw [hsh]
    have h := nodeAt_any v ga oa L l (ix / 2 ^ (8 - l)) x W (hv.later hW) hsm (LV.leavesB_iff.1 h1) h3 hpl (hT.later hW)
    exact h.mono fun e w' ⟨u, h6, h7, h8⟩ => ⟨u, h6, h7, hW.trans (h8.mono hW.size)⟩
  have HS : Hid (∀ W u, Below w.heap.size w W → NT x L W (8 - l) (ix / 2 ^ (8 - l)) u → Calls Tryd.prog 58 #[u, .int .i64 (ix : Int), .int .i64 (l : Int)] W fun e w' => ∃ r, e = .returned r ∧ OS w.heap.size w w' r (sdL x ix L (8 - l))) := fun W u hW hNT => by
    have h := sidesBelow_any x L ix h2 (8 - l) (by omega) u (l : Int) W (by omega) hNT
    exact h.mono fun e w' ⟨r, h6, h7⟩ => ⟨r, h6, OS.upT hW hW.size h7⟩
  obtain ⟨a, cap, rfl, hl, _⟩ := hv
  have d1 : decide (0 ≤ (l : Int) ∧ (l : Int) ≤ 8) = true := by simp; omega
  have d2 : decide (1 ≤ x ∧ x ≤ 32) = true := by simpa using h4
  have q1 : decide ((ix : Int) < 0) = false := by simp
  have q3 : (0 : Int) ≤ 8 - (l : Int) := by omega
  have q2 : decide ((256 : Int) ≤ (ix : Int)) = false := by simp; omega
  clear hsm h1 hT
  go_enter Tryd.func17, Tryd.ntmps17
  go_wp2_with fail
  refine hc.mono ?_
  rintro e w1 ⟨rfl, hb1⟩
  clear hc
  go_wp2_with fail
  refine (levelOk_any _ _).mono ?_
  rintro e w2 ⟨rfl, rfl⟩
  rw [d1]
  go_wp2_with fail
  refine (widthOk_any _ _).mono ?_
  rintro e w2 ⟨rfl, rfl⟩
  rw [d2]
  go_wp2_with fail
  refine (HN.out _ hb1).mono ?_
  rintro e w3 ⟨u, rfl, hNT, hb3⟩
  have hS := HS.out _ _ hb3 hNT
  clear HN HS hNT
  go_wp2_with fail
  refine hS.mono ?_
  rintro e w4 ⟨r, rfl, ho⟩
  have HF : Hid (∃ u, Ending.returned r = .returned u ∧ OS w.heap.size w w4 u (sdL x ix L (8 - l))) := ⟨_, rfl, ho⟩
  clear hS ho hb3 hb1
  go_wp2
  go_ret
  exact HF.out

theorem SidesOf_any (v : Value) (ga oa : Nat) (L : List Le) (ix l x : Int) (w : World) (hv : RS 2 lcs w v ga oa L) (hsm : SmallL L) (hT : Tb w) :
    Calls Tryd.prog 17 #[v, .int .i64 ix, .int .i64 l, .int .i64 x] w fun e w' => ∃ u, e = .returned u ∧ OS w.heap.size w w' u (sdA L ix l x) := by
  unfold sdA
  have hc := LeavesOk_any v ga oa L w hv hsm
  have HF : Hid (∀ W, Below w.heap.size w W → ∃ u, Ending.returned (.slice (some ⟨W.heap.size, 0, none⟩) 0 0) = .returned u ∧ OS w.heap.size w (W.alloc (.cells #[] 9)) u []) := fun W hW => ⟨_, rfl, OS.upT hW hW.size (OS.made W)⟩
  cases h1 : LV.leavesB L with
  | false =>
    rw [if_neg (fun h => by simp at h)]
    rw [h1] at hc
    obtain ⟨a, cap, rfl, hl, _⟩ := hv
    clear hsm h1 hT
    go_enter Tryd.func17, Tryd.ntmps17
    go_wp2_with fail
    refine hc.mono ?_
    rintro e w1 ⟨rfl, hb1⟩
    clear hc
    go_wp2
    go_ret
    exact HF.out _ hb1
  | true =>
    by_cases h2 : 0 ≤ ix ∧ ix ≤ 255
    · have q1 : decide (ix < 0) = false := by simp; omega
      have q2 : decide (256 ≤ ix) = false := by simp; omega
      by_cases h3 : 0 ≤ l ∧ l ≤ 8
      · by_cases h4 : 1 ≤ x ∧ x ≤ 32
        · rw [if_pos ⟨rfl, h2, h3, h4⟩]
          obtain ⟨i, rfl⟩ := Int.eq_ofNat_of_zero_le h2.1
          obtain ⟨k, rfl⟩ := Int.eq_ofNat_of_zero_le h3.1
          exact SidesOf_yes v ga oa L i k x w hv hsm h1 (by omega) (by omega) h4 hT
        · rw [if_neg (fun h => h4 h.2.2.2)]
          rw [h1] at hc
          obtain ⟨a, cap, rfl, hl, _⟩ := hv
          have d1 : decide (0 ≤ l ∧ l ≤ 8) = true := by simpa using h3
          have d2 : decide (1 ≤ x ∧ x ≤ 32) = false := by simpa using h4
          clear hsm h1 hT
          go_enter Tryd.func17, Tryd.ntmps17
          go_wp2_with fail
          refine hc.mono ?_
          rintro e w1 ⟨rfl, hb1⟩
          clear hc
          go_wp2_with fail
          refine (levelOk_any _ _).mono ?_
          rintro e w2 ⟨rfl, rfl⟩
          rw [d1]
          go_wp2_with fail
          refine (widthOk_any _ _).mono ?_
          rintro e w2 ⟨rfl, rfl⟩
          rw [d2]
          go_wp2
          go_ret
          exact HF.out _ hb1
      · rw [if_neg (fun h => h3 h.2.2.1)]
        rw [h1] at hc
        obtain ⟨a, cap, rfl, hl, _⟩ := hv
        have d1 : decide (0 ≤ l ∧ l ≤ 8) = false := by simpa using h3
        clear hsm h1 hT h3
        go_enter Tryd.func17, Tryd.ntmps17
        go_wp2_with fail
        refine hc.mono ?_
        rintro e w1 ⟨rfl, hb1⟩
        clear hc
        go_wp2_with fail
        refine (levelOk_any _ _).mono ?_
        rintro e w2 ⟨rfl, rfl⟩
        rw [d1]
        go_wp2
        go_ret
        exact HF.out _ hb1
    · rw [if_neg (fun h => h2 h.2.1)]
      rw [h1] at hc
      obtain ⟨a, cap, rfl, hl, _⟩ := hv
      by_cases h0 : ix < 0
      · have q1 : decide (ix < 0) = true := by simpa using h0
        clear hsm h1 hT h2
        go_enter Tryd.func17, Tryd.ntmps17
        go_wp2_with fail
        refine hc.mono ?_
        rintro e w1 ⟨rfl, hb1⟩
        clear hc
        go_wp2
        go_ret
        exact HF.out _ hb1
      · have q1 : decide (ix < 0) = false := by simpa using h0
        have q2 : (256 : Int) ≤ ix := by omega
        clear hsm h1 hT h2
        go_enter Tryd.func17, Tryd.ntmps17
        go_wp2_with fail
        refine hc.mono ?_
        rintro e w1 ⟨rfl, hb1⟩
        clear hc
        go_wp2
        go_ret
        exact HF.out _ hb1

end Go.Proofs.YtmhoilliaeefcaaDoor
