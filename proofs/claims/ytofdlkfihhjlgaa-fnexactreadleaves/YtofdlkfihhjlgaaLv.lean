/-
  The walk of the law FnExactReadLeaves: it answers true of every text.
-/
import Derived.Test.YtofdlkfihhjlgaaLz
import Derived.Test.YtofdlkfihhjlgaaLk
namespace Go.Proofs.Ytofdlkfihhjlgaa
open Go.RowKit Go.BigFrame Go.Sort
set_option linter.unusedVariables false
set_option linter.unusedSimpArgs false

theorem markLeafS_one (v : Value) (g : Nat) (l : List Le) (w : World) (h : RW 2 lcs w v g l) :
    Calls Try.prog 26 #[v, .int .i64 1] w fun e w' => e = .returned (.int .i64 (1 + 2 * l.length : Nat)) ∧ RW 2 lcs w' v g (lmarks 1 l.length) ∧ w.grownBy w' (rowF g l.length) := markLeafS_any v g l 1 1 w rfl h (by omega) (by omega)
theorem heldLeafS_one (v : Value) (g n : Nat) (w : World) (h : RW 2 lcs w v g (lmarks 1 n)) :
    Calls Try.prog 27 #[v, .int .i64 1] w fun e w' => e = .returned (.int .i64 (1 + 2 * n : Nat)) ∧ Below w.heap.size w w' := heldLeafS_any v g 1 1 n w rfl h.1 (by omega) (by omega)
/-- a row kept while another, made behind it, is marked -/
theorem RW.marked {w w' : World} {v : Value} {g g2 n : Nat} {l : List Le} (h : RW 2 lcs w v g l) (hn : l.length = n) (hlt : 0 < n → g ≠ g2) (hg : w.grownBy w' (rowF g2 n)) : RW 2 lcs w' v g l := h.grown hg (fun hp => rowF_ne (fun hp2 => hlt (by omega)))

set_option maxRecDepth 100000 in
set_option maxHeartbeats 2000000 in
theorem readLeavesLaw_any (x : ByteArray) (w : World) (hx : x.size ≤ maxLen) :
    Calls Try.prog 9 #[.string x] w fun e w' => e = .returned (.bool true) ∧ Below w.heap.size w w' := by
  unfold maxLen at hx
  by_cases hbig : 1048576 < x.size
  · have q : (1048576 : Int) < (x.size : Int) := by omega
    go_enter Try.func9, Try.ntmps9
    go_wp2
    go_ret
    exact ⟨rfl, Below.refl _ _⟩
  have q : ¬ (1048576 : Int) < (x.size : Int) := by omega
  have HS : Hid (∀ W, Calls Try.prog 30 #[.string x] W (RxP x W)) := fun W => sReadLeaves_any x W (by omega)
  have HI : Hid (∀ W, Calls Try.prog 17 #[.string x] W (RxP x W)) := fun W => ReadLeaves_any x W (by omega)
  unfold RxP at HS HI
  generalize LV.rdL x = l at *
  generalize LV.rdB x = R at *
  obtain ⟨n, hn⟩ : ∃ n, l.length = n := ⟨_, rfl⟩
  simp only [hn] at HS HI
  have HN : Hid (l.length = n) := hn
  clear hn
  go_enter Try.func9, Try.ntmps9
  go_wp2_with fail
  refine (HS.out _).mono ?_
  rintro e w1 ⟨a1, c1, g1, rfl, hr1, hg1, hb1⟩
  clear HS
  go_wp2_with fail
  refine (HI.out _).mono ?_
  rintro e w2 ⟨a2, c2, g2, rfl, hr2, hg2, hb2⟩
  have HW2 : Hid (RW 2 lcs w2 (.slice a1 n c1) g1 l ∧ RW 2 lcs w2 (.slice a2 n c2) g2 l ∧ (0 < n → g1 ≠ g2) ∧ Below w.heap.size w w2 ∧ w.heap.size ≤ g2) :=
    ⟨hr1.later hb2, hr2, fun hp => by have := hr1.lt (by have := HN.out; omega); omega, hb1.trans (hb2.mono hb1.size), by have := hb1.size; omega⟩
  clear hr1 hg1 hr2 hg2 hb1 hb2
  go_wp2_with fail
  refine (eqLeafS_yes _ _ g2 0 g1 0 l _ HW2.out.2.1.1 HW2.out.1.1).mono ?_
  rintro e w3 ⟨rfl, hb3⟩
  have HW3 : Hid (RW 2 lcs w3 (.slice a1 n c1) g1 l ∧ RW 2 lcs w3 (.slice a2 n c2) g2 l ∧ (0 < n → g1 ≠ g2) ∧ Below w.heap.size w w3 ∧ w.heap.size ≤ g2) :=
    ⟨HW2.out.1.later hb3, HW2.out.2.1.later hb3, HW2.out.2.2.1, HW2.out.2.2.2.1.trans (hb3.mono HW2.out.2.2.2.1.size), HW2.out.2.2.2.2⟩
  have hmk := markLeafS_one _ g2 l w3 HW3.out.2.1
  rw [HN.out] at hmk
  obtain ⟨M, hM⟩ : ∃ M : Int, ((1 + 2 * n : Nat) : Int) = M := ⟨_, rfl⟩
  have hM0 : ¬ M < 0 := by omega
  rw [hM] at hmk
  have HHD : Hid (∀ W, RW 2 lcs W (.slice a2 n c2) g2 (lmarks 1 n) → Calls Try.prog 27 #[.slice a2 n c2, .int .i64 1] W fun e w' => e = .returned (.int .i64 M) ∧ Below W.heap.size W w') := fun W h => by rw [← hM]; exact heldLeafS_one _ g2 n W h
  clear hb3 HW2 hM
  go_wp2_with fail
  refine hmk.mono ?_
  rintro e w4 ⟨rfl, hr4, hg4⟩
  have HW4 : Hid (RW 2 lcs w4 (.slice a1 n c1) g1 l ∧ RW 2 lcs w4 (.slice a2 n c2) g2 (lmarks 1 n) ∧ Below w.heap.size w w4) :=
    ⟨HW3.out.1.marked HN.out HW3.out.2.2.1 hg4, hr4, HW3.out.2.2.2.1.grown hg4 HW3.out.2.2.2.1.size (rowF_le HW3.out.2.2.2.2)⟩
  clear hmk hr4 hg4 HW3
  go_wp2_with fail
  refine (HHD.out _ HW4.out.2.1).mono ?_
  rintro e w5 ⟨rfl, hb5⟩
  have HW5 : Hid (RW 2 lcs w5 (.slice a1 n c1) g1 l ∧ RW 2 lcs w5 (.slice a2 n c2) g2 (lmarks 1 n) ∧ Below w.heap.size w w5) := ⟨HW4.out.1.later hb5, HW4.out.2.1.later hb5, HW4.out.2.2.trans (hb5.mono HW4.out.2.2.size)⟩
  clear hb5 HW4
  go_wp2_with fail
  refine (HI.out _).mono ?_
  rintro e w6 ⟨a6, c6, g6, rfl, hr6, hg6, hb6⟩
  have HW6 : Hid (RW 2 lcs w6 (.slice a1 n c1) g1 l ∧ RW 2 lcs w6 (.slice a2 n c2) g2 (lmarks 1 n) ∧ RW 2 lcs w6 (.slice a6 n c6) g6 l ∧ Below w.heap.size w w6) := ⟨HW5.out.1.later hb6, HW5.out.2.1.later hb6, hr6, HW5.out.2.2.trans (hb6.mono HW5.out.2.2.size)⟩
  clear hb6 hr6 hg6 HW5 HI
  go_wp2_with fail
  refine (eqLeafS_yes _ _ g6 0 g1 0 l _ HW6.out.2.2.1.1 HW6.out.1.1).mono ?_
  rintro e w7 ⟨rfl, hb7⟩
  have HW7 : Hid (RW 2 lcs w7 (.slice a2 n c2) g2 (lmarks 1 n) ∧ Below w.heap.size w w7) := ⟨HW6.out.2.1.later hb7, HW6.out.2.2.2.trans (hb7.mono HW6.out.2.2.2.size)⟩
  clear hb7 HW6
  go_wp2_with fail
  refine (HHD.out _ HW7.out.1).mono ?_
  rintro e w8 ⟨rfl, hb8⟩
  have b8 := HW7.out.2.trans (hb8.mono HW7.out.2.size)
  clear hb8 HW7 HHD
  go_wp2
  go_ret
  exact ⟨rfl, b8⟩

end Go.Proofs.Ytofdlkfihhjlgaa
