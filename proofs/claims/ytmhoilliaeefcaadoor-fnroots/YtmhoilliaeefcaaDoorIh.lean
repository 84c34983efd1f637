/-
  What NodeHash, RootOf and SidesOf answer: the program's.
-/
import Derived.Test.YtmhoilliaeefcaaDoorNx
namespace Go.Proofs.YtmhoilliaeefcaaDoor
open Go.RowKit Go.BigFrame Go.Sort
set_option linter.unusedVariables false
set_option linter.unusedSimpArgs false

set_option maxRecDepth 100000 in
set_option maxHeartbeats 1000000 in
theorem NodeHash_yes (v : Value) (ga oa : Nat) (L : List Le) (l p x : Int) (w : World) (hv : RS 2 lcs w v ga oa L) (hsm : SmallL L) (h1 : LV.leavesB L = true) (h2 : 0 ≤ l ∧ l ≤ 8) (h3 : 0 ≤ p ∧ p < 2 ^ l.toNat) (h4 : 1 ≤ x ∧ x ≤ 32) (hT : Tb w) :
    Calls Tryd.prog 23 #[v, .int .i64 l, .int .i64 p, .int .i64 x] w fun e w' => e = .returned (.string (trB x (8 - l.toNat) p.toNat L)) ∧ Below w.heap.size w w' := by
  have hc := LeavesOk_any v ga oa L w hv hsm
  rw [h1] at hc
  have d1 : decide (0 ≤ l ∧ l ≤ 8) = true := by simpa using h2
  have d2 : decide (1 ≤ x ∧ x ≤ 32) = true := by simpa using h4
  have hpw := pow_le8 h2.2
  have dp : decide (p < 0) = false := by simp; omega
  have dq : decide (2 ^ l.toNat ≤ p) = false := by simp; omega
  have HN : Hid (∀ W, Below w.heap.size w W → Calls Tryd.prog 59 #[v, .int .i64 l, .int .i64 p, .int .i64 x] W fun e w' => ∃ u, e = .returned u ∧ HsN w' u (trB x (8 - l.toNat) p.toNat L) ∧ Below w.heap.size w w') := fun W hW => by
    obtain ⟨k, rfl⟩ := Int.eq_ofNat_of_zero_le h2.1
    obtain ⟨q, rfl⟩ := Int.eq_ofNat_of_zero_le h3.1
    have h5 := h3.2
    have e2 : ((2 ^ k : Nat) : Int) = (2 : Int) ^ k := by simp
    have h := nodeAt_any v ga oa L k q x W (hv.later hW) hsm (LV.leavesB_iff.1 h1) (by omega) (by
      simp only [Int.toNat_natCast] at h5
      rw [← e2] at h5
      exact Int.ofNat_lt.1 h5) (hT.later hW)
    exact h.mono fun e w' ⟨u, h6, h7, h8⟩ => ⟨u, h6, h7.hash, hW.trans (h8.mono hW.size)⟩
  obtain ⟨a, cap, rfl, hl, _⟩ := hv
  generalize trB x (8 - l.toNat) p.toNat L = T at *
  clear hsm h1 hT
  go_enter Tryd.func23, Tryd.ntmps23
  go_wp2_with fail
  refine hc.mono ?_
  rintro e w1 ⟨rfl, hb1⟩
  clear hc
  go_wp2_with fail
  refine (levelOk_any _ _).mono ?_
  rintro e w2 ⟨rfl, rfl⟩
  rw [d1]
  go_wp2_with fail
  refine (widthOk_any _ _).mono ?_
  rintro e w2 ⟨rfl, rfl⟩
  rw [d2]
  go_wp2_with fail
  refine (HN.out _ hb1).mono ?_
  rintro e w3 ⟨u, rfl, hH, hb3⟩
  have HH : Hid (HsN w3 u T) := hH
  obtain ⟨Tu, gu, rfl, _⟩ := hH
  go_wp2_with (refine wp_hash rfl _ rfl _ T rfl HH.out ?_)
  go_ret
  exact ⟨rfl, hb3⟩

theorem NodeHash_any (v : Value) (ga oa : Nat) (L : List Le) (l p x : Int) (w : World) (hv : RS 2 lcs w v ga oa L) (hsm : SmallL L) (hT : Tb w) :
    Calls Tryd.prog 23 #[v, .int .i64 l, .int .i64 p, .int .i64 x] w fun e w' => e = .returned (.string (nhB L l p x)) ∧ Below w.heap.size w w' := by
  unfold nhB
  have hc := LeavesOk_any v ga oa L w hv hsm
  cases h1 : LV.leavesB L with
  | false =>
    rw [if_neg (fun h => by simp at h)]
    rw [h1] at hc
    obtain ⟨a, cap, rfl, hl, _⟩ := hv
    clear hsm h1 hT
    go_enter Tryd.func23, Tryd.ntmps23
    go_wp2_with fail
    refine hc.mono ?_
    rintro e w1 ⟨rfl, hb1⟩
    clear hc
    go_wp2
    go_ret
    exact ⟨rfl, hb1⟩
  | true =>
    by_cases h2 : 0 ≤ l ∧ l ≤ 8
    · by_cases h3 : 0 ≤ p ∧ p < 2 ^ l.toNat
      · by_cases h4 : 1 ≤ x ∧ x ≤ 32
        · rw [if_pos ⟨rfl, h2, h3, h4⟩]
          exact NodeHash_yes v ga oa L l p x w hv hsm h1 h2 h3 h4 hT
        · rw [if_neg (fun h => h4 h.2.2.2)]
          rw [h1] at hc
          obtain ⟨a, cap, rfl, hl, _⟩ := hv
          have d1 : decide (0 ≤ l ∧ l ≤ 8) = true := by simpa using h2
          have d2 : decide (1 ≤ x ∧ x ≤ 32) = false := by simpa using h4
          have hpw := pow_le8 h2.2
          have dp : decide (p < 0) = false := by simp; omega
          have dq : decide (2 ^ l.toNat ≤ p) = false := by simp; omega
          clear hsm h1 hT
          go_enter Tryd.func23, Tryd.ntmps23
          go_wp2_with fail
          refine hc.mono ?_
          rintro e w1 ⟨rfl, hb1⟩
          clear hc
          go_wp2_with fail
          refine (levelOk_any _ _).mono ?_
          rintro e w2 ⟨rfl, rfl⟩
          rw [d1]
          go_wp2_with fail
          refine (widthOk_any _ _).mono ?_
          rintro e w2 ⟨rfl, rfl⟩
          rw [d2]
          go_wp2
          go_ret
          exact ⟨rfl, hb1⟩
      · rw [if_neg (fun h => h3 h.2.2.1)]
        rw [h1] at hc
        obtain ⟨a, cap, rfl, hl, _⟩ := hv
        have d1 : decide (0 ≤ l ∧ l ≤ 8) = true := by simpa using h2
        have hpw := pow_le8 h2.2
        by_cases hp0 : p < 0
        · have dp : decide (p < 0) = true := by simpa using hp0
          clear hsm h1 h3 hT
          go_enter Tryd.func23, Tryd.ntmps23
          go_wp2_with fail
          refine hc.mono ?_
          rintro e w1 ⟨rfl, hb1⟩
          clear hc
          go_wp2_with fail
          refine (levelOk_any _ _).mono ?_
          rintro e w2 ⟨rfl, rfl⟩
          rw [d1]
          go_wp2
          go_ret
          exact ⟨rfl, hb1⟩
        · have dp : decide (p < 0) = false := by simpa using hp0
          have dq : (2 : Int) ^ l.toNat ≤ p := by omega
          have hpos : (0 : Int) < 2 ^ l.toNat := Int.pow_pos (by omega)
          clear hsm h1 h3 hT
          go_enter Tryd.func23, Tryd.ntmps23
          go_wp2_with fail
          refine hc.mono ?_
          rintro e w1 ⟨rfl, hb1⟩
          clear hc
          go_wp2_with fail
          refine (levelOk_any _ _).mono ?_
          rintro e w2 ⟨rfl, rfl⟩
          rw [d1]
          go_wp2
          go_ret
          exact ⟨rfl, hb1⟩
    · rw [if_neg (fun h => h2 h.2.1)]
      rw [h1] at hc
      obtain ⟨a, cap, rfl, hl, _⟩ := hv
      have d1 : decide (0 ≤ l ∧ l ≤ 8) = false := by simpa using h2
      clear hsm h1 h2 hT
      go_enter Tryd.func23, Tryd.ntmps23
      go_wp2_with fail
      refine hc.mono ?_
      rintro e w1 ⟨rfl, hb1⟩
      clear hc
      go_wp2_with fail
      refine (levelOk_any _ _).mono ?_
      rintro e w2 ⟨rfl, rfl⟩
      rw [d1]
      go_wp2
      go_ret
      exact ⟨rfl, hb1⟩

theorem RootOf_any (v : Value) (ga oa : Nat) (L : List Le) (x : Int) (w : World) (hv : RS 2 lcs w v ga oa L) (hsm : SmallL L) (hT : Tb w) :
    Calls Tryd.prog 20 #[v, .int .i64 x] w fun e w' => e = .returned (.string (nhB L 0 0 x)) ∧ Below w.heap.size w w' := by
  have hc := NodeHash_any v ga oa L 0 0 x w hv hsm hT
  obtain ⟨a, cap, rfl, hl, _⟩ := hv
  generalize nhB L 0 0 x = T at *
  clear hsm hT
  go_enter Tryd.func20, Tryd.ntmps20
  go_wp2_with fail
  refine hc.mono ?_
  rintro e w1 ⟨rfl, hb1⟩
  go_wp2
  go_ret
  exact ⟨rfl, hb1⟩

end Go.Proofs.YtmhoilliaeefcaaDoor
