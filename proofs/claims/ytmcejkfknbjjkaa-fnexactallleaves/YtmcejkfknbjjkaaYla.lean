/-
  The walk of the law FnExactAllLeaves: it answers true of every row of rows of leaves.
-/
import Derived.Test.YtmcejkfknbjjkaaYo
import Derived.Test.YtmcejkfknbjjkaaYsm
namespace Go.Proofs.Ytmcejkfknbjjkaa
open Go.RowKit Go.BigFrame Go.Sort
set_option linter.unusedVariables false
set_option linter.unusedSimpArgs false

theorem markP_one (v : Value) (g : Nat) (l : List Le) (w : World) (h : RW 2 lcs w v g l) :
    Calls Try.prog 11 #[v, .int .i64 1] w fun e w' => e = .returned (.int .i64 (1 + 2 * l.length : Nat)) ∧ RW 2 lcs w' v g (lmarks 1 l.length) ∧ w.grownBy w' (rowF g l.length) := markLeafS_any v g l 1 1 w rfl h (by omega) (by omega)
theorem heldP_one (v : Value) (g n : Nat) (w : World) (h : RW 2 lcs w v g (lmarks 1 n)) :
    Calls Try.prog 12 #[v, .int .i64 1] w fun e w' => e = .returned (.int .i64 (1 + 2 * n : Nat)) ∧ Below w.heap.size w w' := heldLeafS_any v g 1 1 n w rfl h.1 (by omega) (by omega)

set_option maxRecDepth 100000 in
set_option maxHeartbeats 4000000 in
theorem allLeavesLaw_any (v : Value) (g o : Nat) (Q : List (Value × Nat × Nat × List Le)) (w : World) (hv : IsRowP w v g o Q) :
    Calls Try.prog 3 #[v] w fun e w' => e = .returned (.bool true) ∧ Below w.heap.size w w' := by
  have HSZ := szLeafSS_row v g o Q 1048576 _ hv (by omega) (by omega)
  have hsv : ∃ a n cap, v = .slice a n cap := by obtain ⟨a, n, cap, h, _⟩ := hv; exact ⟨a, n, cap, h⟩
  obtain ⟨a, n, cap, rfl⟩ := hsv
  clear hv
  go_enter Try.func3, Try.ntmps3
  go_wp2_with fail
  refine HSZ.mono ?_
  rintro e w1 ⟨A, rfl, hb1, hA⟩
  clear HSZ
  by_cases hneg : A < 0
  · clear hA
    go_wp2
    go_ret
    exact ⟨rfl, hb1⟩
  · obtain ⟨hps, hsm, hfl⟩ := hA (by omega)
    clear hA
    generalize ofQ Q = P at *
    obtain ⟨N, hN⟩ : ∃ N, P.length = N := ⟨_, rfl⟩
    have HTO : Hid (∀ W, Below w.heap.size w W → Calls Try.prog 6 #[.slice a n cap] W fun e w' => ∃ go G, e = .returned (.slice (some ⟨go, 0, none⟩) N N) ∧ XW W.heap.size w' go G P ∧ Below W.heap.size W w') := fun W hW => by
      have h := toLeafSS_any _ g o P W (hps.later hW)
      rw [hN] at h
      exact h
    have HCS : Hid (∀ W B go G, XW B W go G P → Calls Try.prog 5 #[.slice (some ⟨go, 0, none⟩) N N] W (LqP (LV.allR P.flatten) (LV.allB P.flatten) W)) := fun W B go G h => sAllLeaves_any _ go 0 P W (h.ps hN) hsm hfl
    have HCI : Hid (∀ W B go G, XW B W go G P → Calls Try.prog 7 #[.slice (some ⟨go, 0, none⟩) N N] W (LqP (LV.allR P.flatten) (LV.allB P.flatten) W)) := fun W B go G h => AllLeaves_any _ go 0 P W (h.ps hN) hsm
    have HES : Hid (∀ W B1 B2 g1 G1 g2 G2, XW B1 W g1 G1 P → XW B2 W g2 G2 P → Calls Try.prog 9 #[.slice (some ⟨g1, 0, none⟩) N N, .slice (some ⟨g2, 0, none⟩) N N] W fun e w' => e = .returned (.bool true) ∧ Below W.heap.size W w') := fun W B1 B2 g1 G1 g2 G2 h1 h2 => eqLeafSS_yes _ _ g1 0 g2 0 P W (h1.ps hN) (h2.ps hN)
    have HMK : Hid (∀ W B go G, XW B W go G P → Calls Try.prog 10 #[.slice (some ⟨go, 0, none⟩) N N, .int .i64 1] W fun e w' => ∃ K : Int, e = .returned (.int .i64 K) ∧ 0 ≤ K ∧ ButG G W w') := fun W B go G h => markLeafSS_any B go G P N W h hN hfl
    unfold LqP at HCS HCI
    generalize LV.allR P.flatten = M at *
    generalize LV.allB P.flatten = R at *
    obtain ⟨k, hk⟩ : ∃ k, M.length = k := ⟨_, rfl⟩
    have HK : Hid (M.length = k) := hk
    rw [hk] at HCS HCI
    clear hps hsm hfl hN hk
    go_wp2_with fail
    refine (HTO.out _ hb1).mono ?_
    rintro e w2 ⟨go2, G2, rfl, hx2, hb2⟩
    have b2 := hb1.trans (hb2.mono hb1.size)
    go_wp2_with fail
    refine (HCS.out _ _ go2 G2 hx2).mono ?_
    rintro e w3 ⟨a3, c3, g3, rfl, hr3, hg3, hb3⟩
    have HW3 : Hid (RW 2 lcs w3 (.slice a3 k c3) g3 M ∧ Below w.heap.size w w3) := ⟨hr3, b2.trans (hb3.mono b2.size)⟩
    clear hx2 hb2 b2 hr3 hg3 hb3 hb1 HCS
    go_wp2_with fail
    refine (HTO.out _ HW3.out.2).mono ?_
    rintro e w4 ⟨go4, G4, rfl, hx4, hb4⟩
    have HW4 : Hid (RW 2 lcs w4 (.slice a3 k c3) g3 M ∧ XW w3.heap.size w4 go4 G4 P ∧ Below w.heap.size w w4 ∧ (0 < k → g3 < w3.heap.size) ∧ w.heap.size ≤ w3.heap.size) := ⟨HW3.out.1.later hb4, hx4, HW3.out.2.trans (hb4.mono HW3.out.2.size), fun hp => HW3.out.1.lt (by rw [HK.out]; exact hp), HW3.out.2.size⟩
    clear hx4 hb4 HW3
    go_wp2_with fail
    refine (HCI.out _ _ go4 G4 HW4.out.2.1).mono ?_
    rintro e w5 ⟨a5, c5, g5, rfl, hr5, hg5, hb5⟩
    have HW5 : Hid (RW 2 lcs w5 (.slice a3 k c3) g3 M ∧ XW w3.heap.size w5 go4 G4 P ∧ RW 2 lcs w5 (.slice a5 k c5) g5 M ∧ Below w.heap.size w w5 ∧ (0 < k → g3 < w3.heap.size) ∧ w.heap.size ≤ w3.heap.size ∧ (∀ b ∈ G4, b < g5) ∧ (0 < k → g3 < g5) ∧ w.heap.size ≤ g5) :=
      ⟨HW4.out.1.later hb5, HW4.out.2.1.later hb5, hr5, HW4.out.2.2.1.trans (hb5.mono HW4.out.2.2.1.size), HW4.out.2.2.2.1, HW4.out.2.2.2.2, fun b hb => by have := (HW4.out.2.1.2.2.2.2.2.1 b hb).2.1; omega, fun hp => by have := HW4.out.1.lt (by rw [HK.out]; exact hp); omega, by have := HW4.out.2.2.1.size; omega⟩
    clear hr5 hg5 hb5 HW4
    have qR : (R != R) = false := by simp
    go_wp2_with fail
    refine (eqLeafS_yes _ _ g5 0 g3 0 M _ HW5.out.2.2.1.1 HW5.out.1.1).mono ?_
    rintro e w6 ⟨rfl, hb6⟩
    have HW6 : Hid (RW 2 lcs w6 (.slice a3 k c3) g3 M ∧ XW w3.heap.size w6 go4 G4 P ∧ RW 2 lcs w6 (.slice a5 k c5) g5 M ∧ Below w.heap.size w w6 ∧ (0 < k → g3 < w3.heap.size) ∧ w.heap.size ≤ w3.heap.size ∧ (∀ b ∈ G4, b < g5) ∧ (0 < k → g3 < g5) ∧ w.heap.size ≤ g5) := by
      obtain ⟨h1, h2, h3, h4, h5⟩ := HW5.out
      exact ⟨h1.later hb6, h2.later hb6, h3.later hb6, h4.trans (hb6.mono h4.size), h5⟩
    clear hb6 HW5
    go_wp2_with fail
    refine (HTO.out _ HW6.out.2.2.2.1).mono ?_
    rintro e w7 ⟨go7, G7, rfl, hx7, hb7⟩
    have HW7 : Hid (RW 2 lcs w7 (.slice a3 k c3) g3 M ∧ XW w3.heap.size w7 go4 G4 P ∧ RW 2 lcs w7 (.slice a5 k c5) g5 M ∧ Below w.heap.size w w7 ∧ (0 < k → g3 < w3.heap.size) ∧ w.heap.size ≤ w3.heap.size ∧ (∀ b ∈ G4, b < g5) ∧ (0 < k → g3 < g5) ∧ w.heap.size ≤ g5) := by
      obtain ⟨h1, h2, h3, h4, h5⟩ := HW6.out
      exact ⟨h1.later hb7, h2.later hb7, h3.later hb7, h4.trans (hb7.mono h4.size), h5⟩
    clear hb7 HW6
    go_wp2_with fail
    refine (HES.out _ _ _ go4 G4 go7 G7 HW7.out.2.1 hx7).mono ?_
    rintro e w8 ⟨rfl, hb8⟩
    have HW8 : Hid (RW 2 lcs w8 (.slice a3 k c3) g3 M ∧ XW w3.heap.size w8 go4 G4 P ∧ RW 2 lcs w8 (.slice a5 k c5) g5 M ∧ Below w.heap.size w w8 ∧ (0 < k → g3 < w3.heap.size) ∧ w.heap.size ≤ w3.heap.size ∧ (∀ b ∈ G4, b < g5) ∧ (0 < k → g3 < g5) ∧ w.heap.size ≤ g5) := by
      obtain ⟨h1, h2, h3, h4, h5⟩ := HW7.out
      exact ⟨h1.later hb8, h2.later hb8, h3.later hb8, h4.trans (hb8.mono h4.size), h5⟩
    clear hb8 HW7 hx7 HES
    go_wp2_with fail
    refine (HMK.out _ _ go4 G4 HW8.out.2.1).mono ?_
    rintro e w9 ⟨A8, rfl, hA8, hbt9⟩
    have hA80 : ¬ A8 < 0 := by omega
    have HW9 : Hid (RW 2 lcs w9 (.slice a3 k c3) g3 M ∧ RW 2 lcs w9 (.slice a5 k c5) g5 M ∧ Below w.heap.size w w9 ∧ (0 < k → g3 < g5) ∧ w.heap.size ≤ g5) := by
      obtain ⟨h1, h2, h3, h4, h5, h6, h7, h8, h9⟩ := HW8.out
      refine ⟨h1.butG hbt9 (fun hp hm => ?_), h3.butG hbt9 (fun hp hm => ?_), hbt9.below h4 h4.size (fun b hb => ?_), h8, h9⟩
      · have := (h2.2.2.2.2.2.1 g3 hm).1
        have := h5 (by rw [← HK.out]; exact hp)
        omega
      · have := h7 g5 hm
        omega
      · have := (h2.2.2.2.2.2.1 b hb).1
        omega
    clear hA8 hbt9 HW8 HMK
    go_wp2_with fail
    refine (eqLeafS_yes _ _ g5 0 g3 0 M _ HW9.out.2.1.1 HW9.out.1.1).mono ?_
    rintro e w10 ⟨rfl, hb10⟩
    have HW10 : Hid (RW 2 lcs w10 (.slice a3 k c3) g3 M ∧ RW 2 lcs w10 (.slice a5 k c5) g5 M ∧ Below w.heap.size w w10 ∧ (0 < k → g3 < g5) ∧ w.heap.size ≤ g5) := by
      obtain ⟨h1, h3, h4, h5⟩ := HW9.out
      exact ⟨h1.later hb10, h3.later hb10, h4.trans (hb10.mono h4.size), h5⟩
    clear hb10 HW9
    have hm10 := markP_one _ g5 M w10 HW10.out.2.1
    rw [HK.out] at hm10
    obtain ⟨A9, hA9⟩ : ∃ A9 : Int, ((1 + 2 * k : Nat) : Int) = A9 := ⟨_, rfl⟩
    have hA90 : ¬ A9 < 0 := by omega
    rw [hA9] at hm10
    have HHD : Hid (∀ W, RW 2 lcs W (.slice a5 k c5) g5 (lmarks 1 k) → Calls Try.prog 12 #[.slice a5 k c5, .int .i64 1] W fun e w' => e = .returned (.int .i64 A9) ∧ Below W.heap.size W w') := fun W h => by rw [← hA9]; exact heldP_one _ g5 k W h
    clear hA9
    go_wp2_with fail
    refine hm10.mono ?_
    rintro e w11 ⟨rfl, hr11, hg11⟩
    have HW11 : Hid (RW 2 lcs w11 (.slice a3 k c3) g3 M ∧ RW 2 lcs w11 (.slice a5 k c5) g5 (lmarks 1 k) ∧ Below w.heap.size w w11) := by
      obtain ⟨h1, h3, h4, h5, h6⟩ := HW10.out
      exact ⟨h1.grown hg11 (fun hp => rowF_ne fun hp2 => by have := h5 hp2; omega), hr11, h4.grown hg11 h4.size (rowF_le h6)⟩
    clear hm10 hr11 hg11 HW10
    go_wp2_with fail
    refine (HHD.out _ HW11.out.2.1).mono ?_
    rintro e w12 ⟨rfl, hb12⟩
    have HW12 : Hid (RW 2 lcs w12 (.slice a3 k c3) g3 M ∧ RW 2 lcs w12 (.slice a5 k c5) g5 (lmarks 1 k) ∧ Below w.heap.size w w12) := by
      obtain ⟨h1, h3, h4⟩ := HW11.out
      exact ⟨h1.later hb12, h3.later hb12, h4.trans (hb12.mono h4.size)⟩
    clear hb12 HW11
    go_wp2_with fail
    refine (HTO.out _ HW12.out.2.2).mono ?_
    rintro e w13 ⟨go13, G13, rfl, hx13, hb13⟩
    have HW13 : Hid (RW 2 lcs w13 (.slice a3 k c3) g3 M ∧ RW 2 lcs w13 (.slice a5 k c5) g5 (lmarks 1 k) ∧ Below w.heap.size w w13) := by
      obtain ⟨h1, h3, h4⟩ := HW12.out
      exact ⟨h1.later hb13, h3.later hb13, h4.trans (hb13.mono h4.size)⟩
    clear hb13 HW12 HTO
    go_wp2_with fail
    refine (HCI.out _ _ go13 G13 hx13).mono ?_
    rintro e w14 ⟨a14, c14, g14, rfl, hr14, hg14, hb14⟩
    have HW14 : Hid (RW 2 lcs w14 (.slice a3 k c3) g3 M ∧ RW 2 lcs w14 (.slice a5 k c5) g5 (lmarks 1 k) ∧ Below w.heap.size w w14 ∧ RW 2 lcs w14 (.slice a14 k c14) g14 M) := by
      obtain ⟨h1, h3, h4⟩ := HW13.out
      exact ⟨h1.later hb14, h3.later hb14, h4.trans (hb14.mono h4.size), hr14⟩
    clear hb14 HW13 hr14 hg14 HCI hx13
    go_wp2_with fail
    refine (eqLeafS_yes _ _ g14 0 g3 0 M _ HW14.out.2.2.2.1 HW14.out.1.1).mono ?_
    rintro e w15 ⟨rfl, hb15⟩
    have HW15 : Hid (RW 2 lcs w15 (.slice a5 k c5) g5 (lmarks 1 k) ∧ Below w.heap.size w w15) := ⟨HW14.out.2.1.later hb15, HW14.out.2.2.1.trans (hb15.mono HW14.out.2.2.1.size)⟩
    clear hb15 HW14
    go_wp2_with fail
    refine (HHD.out _ HW15.out.1).mono ?_
    rintro e w16 ⟨rfl, hb16⟩
    have b16 := HW15.out.2.trans (hb16.mono HW15.out.2.size)
    clear hb16 HW15 HHD
    go_wp2
    go_ret
    exact ⟨rfl, b16⟩

end Go.Proofs.Ytmcejkfknbjjkaa
