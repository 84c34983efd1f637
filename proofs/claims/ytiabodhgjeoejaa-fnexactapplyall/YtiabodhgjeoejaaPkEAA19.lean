/-
  Texts laid together: Ll, Lmk, Cla.
-/
import Derived.Test.YtiabodhgjeoejaaPkEAA11
import Derived.Deep.RegionHeld3
import Derived.Test.YtiabodhgjeoejaaPkEAA12
import Derived.Test.YtiabodhgjeoejaaPkEAA10
import Derived.Test.YtiabodhgjeoejaaPkEAA18
import Derived.Test.YtiabodhgjeoejaaPkEAA14
/-
  The walk of the law FnExactLeavesOk: it answers true of every row of leaves.
-/
namespace Go.Proofs.Ytiabodhgjeoejaa
open Go.RowKit Go.BigFrame Go.Sort
set_option linter.unusedVariables false
set_option linter.unusedSimpArgs false

/-- a row answered: it may be written, and lies in blocks from B on -/
def LvIn (w : World) (B : Nat) (v : Value) (l : List Le) : Prop := ∃ a c g, v = .slice a l.length c ∧ RW 2 lcs w v g l ∧ B ≤ g

theorem toLeafS_in (v : Value) (ga oa : Nat) (l : List Le) (w : World) (hv : RS 2 lcs w v ga oa l) :
    Calls Try.prog 31 #[v] w fun e w' => ∃ g, e = .returned (.slice (some ⟨g, 0, none⟩) l.length l.length) ∧ RW 2 lcs w' (.slice (some ⟨g, 0, none⟩) l.length l.length) g l ∧ w.heap.size ≤ g ∧ Below w.heap.size w w' :=
  (toLeafS_any v ga oa l w hv).mono fun e w' ⟨g, he, hg, hrw, _, hb⟩ => ⟨g, he, hrw, hg, hb⟩

/-- what a law knows of its row, in every world above -/
def LvA (w : World) (v : Value) (g o : Nat) (l : List Le) : Prop := RS 2 lcs w v g o l ∧ SmallL l

end Go.Proofs.Ytiabodhgjeoejaa
/-
  Rows of leaves that a law marks, and looks at again.
-/
namespace Go.Proofs.Ytiabodhgjeoejaa
open Go.RowKit Go.BigFrame Go.Sort
set_option linter.unusedVariables false
set_option linter.unusedSimpArgs false

theorem markL_one (v : Value) (g : Nat) (l : List Le) (w : World) (h : RW 2 lcs w v g l) :
    Calls Try.prog 33 #[v, .int .i64 1] w fun e w' => e = .returned (.int .i64 (1 + 2 * l.length : Nat)) ∧ RW 2 lcs w' v g (lmarks 1 l.length) ∧ w.grownBy w' (rowF g l.length) := markLeafS_any v g l 1 1 w rfl h (by omega) (by omega)
theorem heldL_one (v : Value) (g n : Nat) (w : World) (h : RW 2 lcs w v g (lmarks 1 n)) :
    Calls Try.prog 34 #[v, .int .i64 1] w fun e w' => e = .returned (.int .i64 (1 + 2 * n : Nat)) ∧ Below w.heap.size w w' := heldLeafS_any v g 1 1 n w rfl h.1 (by omega) (by omega)
/-- a row kept while another is marked -/
theorem RW.marks {w w' : World} {v : Value} {g g2 n : Nat} {l : List Le} (h : RW 2 lcs w v g l) (hlt : 0 < l.length → 0 < n → g ≠ g2) (hg : w.grownBy w' (rowF g2 n)) : RW 2 lcs w' v g l := h.grown hg (fun hp => rowF_ne (fun hp2 => hlt hp hp2))
/-- what a list answered leaves: where its row lies -/
theorem LqP.open {M : List Le} {R : Bool} {w w' : World} {e : Ending} (h : LqP M R w e w') : ∃ a cap g, e = .returned (.tuple #[.slice a M.length cap, .bool R]) ∧ RW 2 lcs w' (.slice a M.length cap) g M ∧ w.heap.size ≤ g ∧ Below w.heap.size w w' := h

end Go.Proofs.Ytiabodhgjeoejaa
/-
  The walk of the law FnExactApplyAll: it answers true of every row of leaves and every row of changes.
-/
namespace Go.Proofs.Ytiabodhgjeoejaa
open Go.RowKit Go.BigFrame Go.Sort
set_option linter.unusedVariables false
set_option linter.unusedSimpArgs false

/-- where all lies that the law looks at -/
def LawS (wa W : World) (M L : List Le) (A : List Ug) (k : Nat) (a3 : Option Addr) (c3 g3 g4 : Nat) (a5 : Option Addr) (c5 g5 p4 : Nat) : Prop :=
  RW 2 lcs W (.slice a3 k c3) g3 M ∧ RW 2 lcs W (.slice (some ⟨g4, 0, none⟩) L.length L.length) g4 L ∧ RW 2 lcs W (.slice a5 k c5) g5 M ∧ Below wa.heap.size wa W ∧ RW 3 ucs W (.slice (some ⟨p4, 0, none⟩) A.length A.length) p4 A ∧ (0 < k → g3 < g4) ∧ (0 < L.length → g4 < g5) ∧ (0 < k → g3 < g5) ∧ wa.heap.size ≤ g4 ∧ wa.heap.size ≤ g5 ∧ (0 < L.length → g4 < p4) ∧ (0 < k → g3 < p4) ∧ wa.heap.size ≤ p4 ∧ (0 < A.length → p4 < g5)
theorem LawS.later {wa W W' : World} {M L : List Le} {A : List Ug} {k : Nat} {a3 : Option Addr} {c3 g3 g4 : Nat} {a5 : Option Addr} {c5 g5 p4 : Nat} (h : LawS wa W M L A k a3 c3 g3 g4 a5 c5 g5 p4) (hb : Below W.heap.size W W') : LawS wa W' M L A k a3 c3 g3 g4 a5 c5 g5 p4 := by
  obtain ⟨h1, h2, h3, h4, h5, h6⟩ := h
  exact ⟨h1.later hb, h2.later hb, h3.later hb, h4.trans (hb.mono h4.size), h5.later hb, h6⟩

set_option maxRecDepth 100000 in
set_option maxHeartbeats 4000000 in
theorem applyAllLaw_any (v : Value) (g o : Nat) (L : List Le) (u : Value) (gu ou : Nat) (A : List Ug) (w : World) (hv : IsRowL w v g o L) (hu : IsRowU w u gu ou A) :
    Calls Try.prog 8 #[v, u] w fun e w' => e = .returned (.bool true) ∧ Below w.heap.size w w' := by
  have HSZ := szLeafS_row v g o L 1048576 w hv (by omega) (by omega)
  have HSU : Hid (∀ W x, Below w.heap.size w W → 0 ≤ x → x ≤ 1048576 → Calls Try.prog 35 #[u, .int .i64 x] W fun e w' => ∃ A' : Int, e = .returned (.int .i64 A') ∧ Below W.heap.size W w' ∧ (0 ≤ A' → RS 3 ucs W u gu ou A ∧ SmallUs A ∧ A.length ≤ 1048576)) := fun W x h h1 h2 => (szChangeS_row u gu ou A x W (hu.later h) h1 h2).mono fun e w' ⟨B, h1, h2, _, h4⟩ => ⟨B, h1, h2, h4⟩
  have hsv : ∃ a n cap, v = .slice a n cap := by obtain ⟨a, n, cap, h, _⟩ := hv; exact ⟨a, n, cap, h⟩
  obtain ⟨a, n, cap, rfl⟩ := hsv
  have hsu : ∃ a n cap, u = .slice a n cap := by obtain ⟨a, n, cap, h, _⟩ := hu; exact ⟨a, n, cap, h⟩
  obtain ⟨au, nu, cu, rfl⟩ := hsu
  clear hv hu
  go_enter Try.func8, Try.ntmps8
  go_wp2_with fail
  refine HSZ.mono ?_
  rintro e w1 ⟨A1, rfl, hb1, hA1, hA⟩
  clear HSZ
  by_cases hneg : A1 < 0
  · clear hA
    go_wp2
    go_ret
    exact ⟨rfl, hb1⟩
  obtain ⟨hrs, hsm, hlen⟩ := hA (by omega)
  clear hA
  go_wp2_with fail
  refine (HSU.out _ A1 hb1 (by omega) (by omega)).mono ?_
  rintro e w1' ⟨A', rfl, hb1', hA'⟩
  clear HSU
  by_cases hneg' : A' < 0
  · clear hA'
    have HE := hide (hb1.trans (hb1'.mono hb1.size))
    go_wp2
    go_ret
    exact ⟨rfl, HE.out⟩
  obtain ⟨hur, hus, hul⟩ := hA' (by omega)
  replace hur := hur.later hb1'
  replace hb1 : Below w.heap.size w w1' := hb1.trans (hb1'.mono hb1.size)
  clear hA' hb1'
  have HTO : Hid (∀ W, Below w.heap.size w W → Calls Try.prog 31 #[.slice a n cap] W fun e w' => ∃ g, e = .returned (.slice (some ⟨g, 0, none⟩) L.length L.length) ∧ RW 2 lcs w' (.slice (some ⟨g, 0, none⟩) L.length L.length) g L ∧ W.heap.size ≤ g ∧ Below W.heap.size W w') := fun W hW => toLeafS_in _ g o L W (hrs.later hW)
  have HTU : Hid (∀ W, Below w1'.heap.size w1' W → Calls Try.prog 36 #[.slice au nu cu] W fun e w' => ∃ g, e = .returned (.slice (some ⟨g, 0, none⟩) A.length A.length) ∧ W.heap.size ≤ g ∧ RW 3 ucs w' (.slice (some ⟨g, 0, none⟩) A.length A.length) g A ∧ Below W.heap.size W w') := fun W hW => (toChangeS_any _ gu ou A W (hur.later hW)).mono fun e w' ⟨g, h1, h2, h3, _, h5⟩ => ⟨g, h1, h2, h3, h5⟩
  have HCS : Hid (∀ W q p, RS 2 lcs W (.slice (some ⟨q, 0, none⟩) L.length L.length) q 0 L → RS 3 ucs W (.slice (some ⟨p, 0, none⟩) A.length A.length) p 0 A → Calls Try.prog 24 #[.slice (some ⟨q, 0, none⟩) L.length L.length, .slice (some ⟨p, 0, none⟩) A.length A.length] W (ApP (UV.apA L A) W)) := fun W q p h h2 => (sApplyAll_any _ _ q 0 L _ p 0 A W h (fun e => by cases e) hsm hlen h2 hus).mono fun _ _ h => h.plain
  have HCI : Hid (∀ W q p, RS 2 lcs W (.slice (some ⟨q, 0, none⟩) L.length L.length) q 0 L → RS 3 ucs W (.slice (some ⟨p, 0, none⟩) A.length A.length) p 0 A → Calls Try.prog 12 #[.slice (some ⟨q, 0, none⟩) L.length L.length, .slice (some ⟨p, 0, none⟩) A.length A.length] W (ApP (UV.apA L A) W)) := fun W q p h h2 => ApplyAll_any _ q 0 L _ p 0 A W h hsm h2 hus
  unfold ApP at HCS HCI
  generalize hMM : UV.apA L A = M at *
  clear hrs hsm hMM hur hus
  obtain ⟨k, hk⟩ : ∃ k, M.length = k := ⟨_, rfl⟩
  have HK : Hid (M.length = k) := hk
  simp only [hk] at HCS HCI
  clear hk
  have HL : Hid (A.length ≤ 1048576 ∧ L.length ≤ 1048576) := ⟨hul, hlen⟩
  clear hul hlen
  have b1 : Below w1'.heap.size w1' w1' := Below.refl _ _
  have HB : Hid (Below w.heap.size w w1') := hb1
  clear hb1
  go_wp2_with fail
  refine (HTO.out _ HB.out).mono ?_
  rintro e w2 ⟨g2, rfl, hr2, _, hb2⟩
  go_wp2_with fail
  refine (HTU.out _ hb2).mono ?_
  rintro e v2 ⟨p2, rfl, hp2, hq2, hbv2⟩
  have b2 := hb2.trans (hbv2.mono hb2.size)
  go_wp2_with fail
  refine (HCS.out _ g2 p2 (hr2.later hbv2).1 hq2.1).mono ?_
  rintro e w3 ⟨a3, c3, g3, rfl, hr3, hg3, hb3⟩
  have HW3 : Hid (RW 2 lcs w3 (.slice a3 k c3) g3 M ∧ Below w1'.heap.size w1' w3) := ⟨hr3, b2.trans (hb3.mono b2.size)⟩
  clear hr2 hb2 b2 hbv2 hp2 hq2 hr3 hg3 hb3 HCS b1
  go_wp2_with fail
  refine (HTO.out _ (HB.out.trans (HW3.out.2.mono HB.out.size))).mono ?_
  rintro e w4 ⟨g4, rfl, hr4, hg4, hb4⟩
  have HW4 : Hid (RW 2 lcs w4 (.slice a3 k c3) g3 M ∧ RW 2 lcs w4 (.slice (some ⟨g4, 0, none⟩) L.length L.length) g4 L ∧ Below w1'.heap.size w1' w4 ∧ (0 < k → g3 < g4) ∧ w1'.heap.size ≤ g4) := ⟨HW3.out.1.later hb4, hr4, HW3.out.2.trans (hb4.mono HW3.out.2.size), fun hp => by have := HW3.out.1.lt (by rw [HK.out]; exact hp); omega, by have := HW3.out.2.size; omega⟩
  clear hr4 hg4 hb4 HW3
  go_wp2_with fail
  refine (HTU.out _ HW4.out.2.2.1).mono ?_
  rintro e v4 ⟨p4, rfl, hp4, hq4, hbv4⟩
  have HW4' : Hid (RW 2 lcs v4 (.slice a3 k c3) g3 M ∧ RW 2 lcs v4 (.slice (some ⟨g4, 0, none⟩) L.length L.length) g4 L ∧ Below w1'.heap.size w1' v4 ∧ (0 < k → g3 < g4) ∧ w1'.heap.size ≤ g4 ∧ RW 3 ucs v4 (.slice (some ⟨p4, 0, none⟩) A.length A.length) p4 A ∧ (0 < L.length → g4 < p4) ∧ (0 < k → g3 < p4) ∧ w1'.heap.size ≤ p4) := ⟨HW4.out.1.later hbv4, HW4.out.2.1.later hbv4, HW4.out.2.2.1.trans (hbv4.mono HW4.out.2.2.1.size), HW4.out.2.2.2.1, HW4.out.2.2.2.2, hq4, fun hp => by have := HW4.out.2.1.lt hp; omega, fun hp => by have := HW4.out.1.lt (by rw [HK.out]; exact hp); omega, by have := HW4.out.2.2.1.size; omega⟩
  clear hbv4 HW4 hp4 hq4
  go_wp2_with fail
  refine (HCI.out _ g4 p4 HW4'.out.2.1.1 HW4'.out.2.2.2.2.2.1.1).mono ?_
  rintro e w5 ⟨a5, c5, g5, rfl, hr5, hg5, hb5⟩
  have HW5 : Hid (LawS w1' w5 M L A k a3 c3 g3 g4 a5 c5 g5 p4) := by
    obtain ⟨h1, h2, h3, h4, h5, h6, h7, h8, h9⟩ := HW4'.out
    exact ⟨h1.later hb5, h2.later hb5, hr5, h3.trans (hb5.mono h3.size), h6.later hb5, h4, fun hp => by have := h2.lt hp; omega, fun hp => by have := h1.lt (by rw [HK.out]; exact hp); omega, h5, by have := h3.size; omega, h7, h8, h9, fun hp => by have := h6.lt hp; omega⟩
  clear hr5 hg5 hb5 HW4'
  go_wp2_with fail
  refine (eqLeafS_yes _ _ g5 0 g3 0 M _ HW5.out.2.2.1.1 HW5.out.1.1).mono ?_
  rintro e w6 ⟨rfl, hb6⟩
  have HW6 : Hid (LawS w1' w6 M L A k a3 c3 g3 g4 a5 c5 g5 p4) := HW5.out.later hb6
  clear hb6 HW5
  go_wp2_with fail
  refine (HTO.out _ (HB.out.trans (HW6.out.2.2.2.1.mono HB.out.size))).mono ?_
  rintro e w7 ⟨g7, rfl, hr7, hg7, hb7⟩
  have HW7 : Hid (LawS w1' w7 M L A k a3 c3 g3 g4 a5 c5 g5 p4) := HW6.out.later hb7
  clear hb7 HW6
  clear hg7
  go_wp2_with fail
  refine (eqLeafS_yes _ _ g4 0 g7 0 L _ HW7.out.2.1.1 hr7.1).mono ?_
  rintro e w8 ⟨rfl, hb8⟩
  have HW8 : Hid (LawS w1' w8 M L A k a3 c3 g3 g4 a5 c5 g5 p4) := HW7.out.later hb8
  clear hb8 HW7
  clear hr7
  go_wp2_with fail
  refine (HTU.out _ HW8.out.2.2.2.1).mono ?_
  rintro e w9 ⟨p9, rfl, hp9, hq9, hb9⟩
  have HW9 : Hid (LawS w1' w9 M L A k a3 c3 g3 g4 a5 c5 g5 p4) := HW8.out.later hb9
  clear hb9 HW8
  clear hp9
  go_wp2_with fail
  refine (eqChangeS_yes _ _ p4 0 p9 0 A _ HW9.out.2.2.2.2.1.1 hq9.1).mono ?_
  rintro e w10 ⟨rfl, hb10⟩
  have HW10 : Hid (LawS w1' w10 M L A k a3 c3 g3 g4 a5 c5 g5 p4) := HW9.out.later hb10
  clear hb10 HW9
  clear hq9
  have hm10 := markL_one _ g4 L w10 HW10.out.2.1
  obtain ⟨A8, hA8⟩ : ∃ A8 : Nat, 1 + 2 * L.length = A8 := ⟨_, rfl⟩
  have hA80 : 0 < A8 ∧ A8 ≤ 10000000 := by have := HL.out.2; omega
  rw [hA8] at hm10
  clear hA8
  go_wp2_with fail
  refine hm10.mono ?_
  rintro e w11 ⟨rfl, hr11, hg11⟩
  have HW11 : Hid (RW 2 lcs w11 (.slice a3 k c3) g3 M ∧ RW 2 lcs w11 (.slice a5 k c5) g5 M ∧ RW 3 ucs w11 (.slice (some ⟨p4, 0, none⟩) A.length A.length) p4 A ∧ Below w1'.heap.size w1' w11 ∧ (0 < k → g3 < g5) ∧ (0 < k → g3 < p4) ∧ (0 < A.length → p4 < g5) ∧ w1'.heap.size ≤ g5 ∧ w1'.heap.size ≤ p4) := by
    obtain ⟨h1, h2, h3, h4, h5, h6, h7, h8, h9, h10, h11, h12, h13, h14⟩ := HW10.out
    exact ⟨h1.marks (fun hp _ => by have := h6 (by rw [← HK.out]; exact hp); omega) hg11, h3.marks (fun _ hp => by have := h7 hp; omega) hg11, h5.grown hg11 (fun hp => rowF_ne (fun hp2 => by have := h11 hp2; omega)), h4.grown hg11 h4.size (rowF_le h9), h8, h12, h14, h10, h13⟩
  clear hm10 hr11 hg11 HW10
  have hm11 := markChangeS_any _ p4 A (A8 : Int) A8 w11 rfl HW11.out.2.2.1 hA80.1 hA80.2
  obtain ⟨A9, hA9⟩ : ∃ A9 : Int, ((A8 + 3 * A.length : Nat) : Int) = A9 := ⟨_, rfl⟩
  have hA90 : ¬ A9 < 0 := by omega
  rw [hA9] at hm11
  clear hA9 hA80
  go_wp2_with fail
  refine hm11.mono ?_
  rintro e w12 ⟨rfl, hg12⟩
  have HW12 : Hid (RW 2 lcs w12 (.slice a3 k c3) g3 M ∧ RW 2 lcs w12 (.slice a5 k c5) g5 M ∧ Below w1'.heap.size w1' w12 ∧ (0 < k → g3 < g5) ∧ w1'.heap.size ≤ g5) := by
    obtain ⟨h1, h2, h3, h4, h5, h6, h7, h8, h9⟩ := HW11.out
    exact ⟨h1.grown hg12 (fun hp => rowF_ne (fun hp2 => by have := h6 (by rw [← HK.out]; exact hp); omega)), h2.grown hg12 (fun hp => rowF_ne (fun hp2 => by have := h7 hp2; omega)), h4.grown hg12 h4.size (rowF_le h9), h5, h8⟩
  clear hm11 hg12 HW11
  go_wp2_with fail
  refine (eqLeafS_yes _ _ g5 0 g3 0 M _ HW12.out.2.1.1 HW12.out.1.1).mono ?_
  rintro e w13 ⟨rfl, hb13⟩
  have HW13 : Hid (RW 2 lcs w13 (.slice a3 k c3) g3 M ∧ RW 2 lcs w13 (.slice a5 k c5) g5 M ∧ Below w1'.heap.size w1' w13 ∧ (0 < k → g3 < g5) ∧ w1'.heap.size ≤ g5) := by
    obtain ⟨h1, h3, h4, h5⟩ := HW12.out
    exact ⟨h1.later hb13, h3.later hb13, h4.trans (hb13.mono h4.size), h5⟩
  clear hb13 HW12
  have hm13 := markL_one _ g5 M w13 HW13.out.2.1
  rw [HK.out] at hm13
  obtain ⟨A7, hA7⟩ : ∃ A7 : Int, ((1 + 2 * k : Nat) : Int) = A7 := ⟨_, rfl⟩
  have hA70 : ¬ A7 < 0 := by omega
  rw [hA7] at hm13
  have HHD : Hid (∀ W, RW 2 lcs W (.slice a5 k c5) g5 (lmarks 1 k) → Calls Try.prog 34 #[.slice a5 k c5, .int .i64 1] W fun e w' => e = .returned (.int .i64 A7) ∧ Below W.heap.size W w') := fun W h => by rw [← hA7]; exact heldL_one _ g5 k W h
  clear hA7
  go_wp2_with fail
  refine hm13.mono ?_
  rintro e w14 ⟨rfl, hr14, hg14⟩
  have HW14 : Hid (RW 2 lcs w14 (.slice a3 k c3) g3 M ∧ RW 2 lcs w14 (.slice a5 k c5) g5 (lmarks 1 k) ∧ Below w1'.heap.size w1' w14) := by
    obtain ⟨h1, h3, h4, h5, h6⟩ := HW13.out
    exact ⟨h1.marks (fun _ hp => by have := h5 hp; omega) hg14, hr14, h4.grown hg14 h4.size (rowF_le h6)⟩
  clear hm13 hr14 hg14 HW13
  go_wp2_with fail
  refine (HHD.out _ HW14.out.2.1).mono ?_
  rintro e w15 ⟨rfl, hb15⟩
  have HW15 : Hid (RW 2 lcs w15 (.slice a3 k c3) g3 M ∧ RW 2 lcs w15 (.slice a5 k c5) g5 (lmarks 1 k) ∧ Below w1'.heap.size w1' w15) := by
    obtain ⟨h1, h3, h4⟩ := HW14.out
    exact ⟨h1.later hb15, h3.later hb15, h4.trans (hb15.mono h4.size)⟩
  clear hb15 HW14
  go_wp2_with fail
  refine (HTO.out _ (HB.out.trans (HW15.out.2.2.mono HB.out.size))).mono ?_
  rintro e w16 ⟨g16, rfl, hr16, hg16, hb16⟩
  have HW16 : Hid (RW 2 lcs w16 (.slice a3 k c3) g3 M ∧ RW 2 lcs w16 (.slice a5 k c5) g5 (lmarks 1 k) ∧ Below w1'.heap.size w1' w16) := by
    obtain ⟨h1, h3, h4⟩ := HW15.out
    exact ⟨h1.later hb16, h3.later hb16, h4.trans (hb16.mono h4.size)⟩
  clear hb16 HW15 hg16 HTO
  go_wp2_with fail
  refine (HTU.out _ HW16.out.2.2).mono ?_
  rintro e v16 ⟨p16, rfl, hp16, hq16, hbv16⟩
  have HW16' : Hid (RW 2 lcs v16 (.slice a3 k c3) g3 M ∧ RW 2 lcs v16 (.slice a5 k c5) g5 (lmarks 1 k) ∧ Below w1'.heap.size w1' v16) := by
    obtain ⟨h1, h3, h4⟩ := HW16.out
    exact ⟨h1.later hbv16, h3.later hbv16, h4.trans (hbv16.mono h4.size)⟩
  replace hr16 := hr16.later hbv16
  clear hbv16 HW16 hp16
  go_wp2_with fail
  refine (HCI.out _ g16 p16 hr16.1 hq16.1).mono ?_
  rintro e w17 ⟨a17, c17, g17, rfl, hr17, hg17, hb17⟩
  have HW17 : Hid (RW 2 lcs w17 (.slice a3 k c3) g3 M ∧ RW 2 lcs w17 (.slice a5 k c5) g5 (lmarks 1 k) ∧ Below w1'.heap.size w1' w17 ∧ RW 2 lcs w17 (.slice a17 k c17) g17 M) := by
    obtain ⟨h1, h3, h4⟩ := HW16'.out
    exact ⟨h1.later hb17, h3.later hb17, h4.trans (hb17.mono h4.size), hr17⟩
  clear hb17 HW16' hr16 hq16 hr17 hg17 HCI
  go_wp2_with fail
  refine (eqLeafS_yes _ _ g17 0 g3 0 M _ HW17.out.2.2.2.1 HW17.out.1.1).mono ?_
  rintro e w18 ⟨rfl, hb18⟩
  have HW18 : Hid (RW 2 lcs w18 (.slice a5 k c5) g5 (lmarks 1 k) ∧ Below w1'.heap.size w1' w18) := ⟨HW17.out.2.1.later hb18, HW17.out.2.2.1.trans (hb18.mono HW17.out.2.2.1.size)⟩
  clear hb18 HW17
  go_wp2_with fail
  refine (HHD.out _ HW18.out.1).mono ?_
  rintro e w19 ⟨rfl, hb19⟩
  have b19 := HW18.out.2.trans (hb19.mono HW18.out.2.size)
  clear hb19 HW18 HHD
  go_wp2
  go_ret
  exact ⟨rfl, HB.out.trans (b19.mono HB.out.size)⟩

end Go.Proofs.Ytiabodhgjeoejaa
