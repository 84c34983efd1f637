/-
  Texts laid together: Clc, Cp.
-/
import Derived.Test.YtiabodhgjeoejaaPkEx26
import Derived.Test.YtiabodhgjeoejaaPkEx20
import Derived.Test.YtiabodhgjeoejaaPkEx27
import Derived.Test.YtiabodhgjeoejaaPkEx15
import Derived.Lib.SmallJoins
import Derived.Deep.Strs
import Derived.Deep.Slices
import Derived.ProofKit
import Derived.ChangeSame
/-
  The walk of the law FnExactApplyChange: it answers true of every row of leaves and every change.
-/
namespace Go.Proofs.Ytiabodhgjeoejaa
open Go.RowKit Go.BigFrame Go.Sort
set_option linter.unusedVariables false
set_option linter.unusedSimpArgs false

set_option maxRecDepth 100000 in
set_option maxHeartbeats 4000000 in
theorem applyChangeLaw_any (v : Value) (g o : Nat) (L : List Le) (x : Ug) (w : World) (hv : IsRowL w v g o L) (hnx : x.n.size ≤ 9223372036854775807) (hvx : x.v.size ≤ 9223372036854775807) :
    Calls Try.prog 7 #[v, .agg #[.int .i64 x.i, .string x.n, .string x.v]] w fun e w' => e = .returned (.bool true) ∧ Below w.heap.size w w' := by
  obtain ⟨i, N, V⟩ := x
  simp only at hnx hvx ⊢
  obtain ⟨wa, hwa⟩ : ∃ wa, w.alloc (.cells #[.int .i64 i, .string N, .string V] 42) = wa := ⟨_, rfl⟩
  have HWA : Hid (Below w.heap.size w wa ∧ RU wa w.heap.size ⟨i, N, V⟩) := by rw [← hwa]; exact ⟨(Below.refl _ _).alloc (Nat.le_refl _) _, RU.new w ⟨i, N, V⟩ _⟩
  have HSZ := szLeafS_row v g o L 1048576 wa (hv.later HWA.out.1) (by omega) (by omega)
  have HSU : Hid (∀ W A, 0 ≤ A → A ≤ 1048576 → Calls Try.prog 25 #[.agg #[.int .i64 i, .string N, .string V], .int .i64 A] W fun e w' => ∃ A : Int, e = .returned (.int .i64 A) ∧ Below W.heap.size W w' ∧ (0 ≤ A → N.size ≤ 1048576 ∧ V.size ≤ 1048576)) := fun W A h1 h2 => (szChange_any ⟨i, N, V⟩ A W h1 h2 hnx hvx).mono fun e w' ⟨B, h1, h2, _, h4⟩ => ⟨B, h1, h2, h4⟩
  have HTC : Hid (∀ W, Calls Try.prog 26 #[.agg #[.int .i64 i, .string N, .string V]] W fun e w' => e = .returned (.agg #[.int .i64 i, .string N, .string V]) ∧ Below W.heap.size W w') := fun W => toChange_any ⟨i, N, V⟩ W
  have hsv : ∃ a n cap, v = .slice a n cap := by obtain ⟨a, n, cap, h, _⟩ := hv; exact ⟨a, n, cap, h⟩
  obtain ⟨a, n, cap, rfl⟩ := hsv
  have HZ : Hid (∀ W, Below wa.heap.size wa W → W.cell? ⟨w.heap.size, 0, none⟩ = some (.int .i64 i) ∧ W.cell? ⟨w.heap.size, 1, none⟩ = some (.string N) ∧ W.cell? ⟨w.heap.size, 2, none⟩ = some (.string V)) := fun W h => ⟨(HWA.out.2.later h).c0, (HWA.out.2.later h).c1, (HWA.out.2.later h).c2⟩
  clear hv hnx hvx
  go_enter Try.func7, Try.ntmps7
  go_wp2_with fail
  refine HSZ.mono ?_
  rintro e w1 ⟨A, rfl, hb1, hA1, hA⟩
  clear HSZ hwa
  by_cases hneg : A < 0
  · clear hA
    have HE := hide (HWA.out.1.trans (hb1.mono HWA.out.1.size))
    go_wp2
    go_ret
    exact ⟨rfl, HE.out⟩
  obtain ⟨hrs, hsm, hlen⟩ := hA (by omega)
  have hsu := HSU.out
  clear hA
  obtain ⟨z0, z1, z2⟩ := HZ.out _ hb1
  go_wp2_with fail
  refine (HSU.out _ A (by omega) (by omega)).mono ?_
  rintro e w1' ⟨A', rfl, hb1', hA'⟩
  clear HSU hsu z0 z1 z2
  replace hb1 : Below wa.heap.size wa w1' := hb1.trans (hb1'.mono hb1.size)
  clear hb1'
  by_cases hneg' : A' < 0
  · clear hA'
    have HE := hide (HWA.out.1.trans (hb1.mono HWA.out.1.size))
    go_wp2
    go_ret
    exact ⟨rfl, HE.out⟩
  obtain ⟨hN, hV⟩ := hA' (by omega)
  clear hA'
  have HTO : Hid (∀ W, Below wa.heap.size wa W → Calls Try.prog 31 #[.slice a n cap] W fun e w' => ∃ g, e = .returned (.slice (some ⟨g, 0, none⟩) L.length L.length) ∧ RW 2 lcs w' (.slice (some ⟨g, 0, none⟩) L.length L.length) g L ∧ W.heap.size ≤ g ∧ Below W.heap.size W w') := fun W hW => toLeafS_in _ g o L W (hrs.later hW)
  have HCS : Hid (∀ W q, RS 2 lcs W (.slice (some ⟨q, 0, none⟩) L.length L.length) q 0 L → Calls Try.prog 30 #[.slice (some ⟨q, 0, none⟩) L.length L.length, .agg #[.int .i64 i, .string N, .string V]] W (ApP (UV.apU L ⟨i, N, V⟩) W)) := fun W q h => (sApplyChange_any _ _ q 0 L ⟨i, N, V⟩ W h (fun e => by cases e) hsm hlen hN hV).mono fun _ _ h => h.plain
  have HCI : Hid (∀ W q, RS 2 lcs W (.slice (some ⟨q, 0, none⟩) L.length L.length) q 0 L → Calls Try.prog 13 #[.slice (some ⟨q, 0, none⟩) L.length L.length, .agg #[.int .i64 i, .string N, .string V]] W (ApP (UV.apU L ⟨i, N, V⟩) W)) := fun W q h => ApplyChange_any _ q 0 L ⟨i, N, V⟩ W h hsm hN hV
  unfold ApP at HCS HCI
  generalize hMM : UV.apU L ⟨i, N, V⟩ = M at *
  clear hrs hsm hMM hN hV
  obtain ⟨k, hk⟩ : ∃ k, M.length = k := ⟨_, rfl⟩
  have HK : Hid (M.length = k) := hk
  simp only [hk] at HCS HCI
  clear hk
  have hb0 : Below wa.heap.size wa w1'.drew := hb1.trans ((Below.refl _ _).drew.mono hb1.size)
  clear hb1
  go_wp2
  go_region_held3 (fun W => W.cell? ⟨w.heap.size, 0, none⟩ = some (.int .i64 i) ∧ W.cell? ⟨w.heap.size, 1, none⟩ = some (.string N) ∧ W.cell? ⟨w.heap.size, 2, none⟩ = some (.string V)) (first | (go_keep; done) | exact HZ.out _ hb0) (first | (go_at_call 31; (with_reducible refine (HTO.out _ hb0).mono ?_); rintro e w2 ⟨g2, rfl, hr2, _, hb2⟩; have hb0 := hb0.trans (hb2.mono hb0.size)) | (go_at_call 26; refine (HTC.out _).mono ?_; rintro e v2 ⟨rfl, hbv2⟩; have hb0 := hb0.trans (hbv2.mono hb0.size)) | (go_at_call 30; refine (HCS.out _ g2 (hr2.later hbv2).1).mono ?_; rintro e w3 ⟨a3, c3, g3, rfl, hr3, hg3, hb3⟩; have hb0 := hb0.trans (hb3.mono hb0.size)) | fail)
  try rename_i hHeld
  try clear hHeld
  have HW3 : Hid (RW 2 lcs w3 (.slice a3 k c3) g3 M ∧ Below wa.heap.size wa w3) := ⟨hr3, hb0⟩
  clear hr2 hb2 hbv2 hr3 hg3 hb3 HCS hb0
  go_wp2_with fail
  refine (HTO.out _ HW3.out.2).mono ?_
  rintro e w4 ⟨g4, rfl, hr4, hg4, hb4⟩
  have b4 := HW3.out.2.trans (hb4.mono HW3.out.2.size)
  have HW4 : Hid (RW 2 lcs w4 (.slice a3 k c3) g3 M ∧ RW 2 lcs w4 (.slice (some ⟨g4, 0, none⟩) L.length L.length) g4 L ∧ Below wa.heap.size wa w4 ∧ (0 < k → g3 < g4) ∧ wa.heap.size ≤ g4) := ⟨HW3.out.1.later hb4, hr4, b4, fun hp => by have := HW3.out.1.lt (by rw [HK.out]; exact hp); omega, by have := HW3.out.2.size; omega⟩
  clear hr4 hg4 hb4 b4 HW3
  obtain ⟨z0, z1, z2⟩ := HZ.out _ (HW4.out.2.2.1)
  go_wp2_with fail
  refine (HTC.out _).mono ?_
  rintro e v4 ⟨rfl, hbv4⟩
  clear z0 z1 z2
  have HW4' : Hid (RW 2 lcs v4 (.slice a3 k c3) g3 M ∧ RW 2 lcs v4 (.slice (some ⟨g4, 0, none⟩) L.length L.length) g4 L ∧ Below wa.heap.size wa v4 ∧ (0 < k → g3 < g4) ∧ wa.heap.size ≤ g4) := ⟨HW4.out.1.later hbv4, HW4.out.2.1.later hbv4, HW4.out.2.2.1.trans (hbv4.mono HW4.out.2.2.1.size), HW4.out.2.2.2⟩
  clear hbv4 HW4
  go_wp2_with fail
  refine (HCI.out _ g4 HW4'.out.2.1.1).mono ?_
  rintro e w5 ⟨a5, c5, g5, rfl, hr5, hg5, hb5⟩
  have HW5 : Hid (RW 2 lcs w5 (.slice a3 k c3) g3 M ∧ RW 2 lcs w5 (.slice (some ⟨g4, 0, none⟩) L.length L.length) g4 L ∧ RW 2 lcs w5 (.slice a5 k c5) g5 M ∧ Below wa.heap.size wa w5 ∧ (0 < k → g3 < g4) ∧ (0 < L.length → g4 < g5) ∧ (0 < k → g3 < g5) ∧ wa.heap.size ≤ g4 ∧ wa.heap.size ≤ g5) :=
    ⟨HW4'.out.1.later hb5, HW4'.out.2.1.later hb5, hr5, HW4'.out.2.2.1.trans (hb5.mono HW4'.out.2.2.1.size), HW4'.out.2.2.2.1, fun hp => by have := HW4'.out.2.1.lt hp; omega, fun hp => by have := HW4'.out.1.lt (by rw [HK.out]; exact hp); omega, HW4'.out.2.2.2.2, by have := HW4'.out.2.2.1.size; omega⟩
  clear hr5 hg5 hb5 HW4'
  go_wp2_with fail
  refine (eqLeafS_yes _ _ g5 0 g3 0 M _ HW5.out.2.2.1.1 HW5.out.1.1).mono ?_
  rintro e w6 ⟨rfl, hb6⟩
  have HW6 : Hid (RW 2 lcs w6 (.slice a3 k c3) g3 M ∧ RW 2 lcs w6 (.slice (some ⟨g4, 0, none⟩) L.length L.length) g4 L ∧ RW 2 lcs w6 (.slice a5 k c5) g5 M ∧ Below wa.heap.size wa w6 ∧ (0 < k → g3 < g4) ∧ (0 < L.length → g4 < g5) ∧ (0 < k → g3 < g5) ∧ wa.heap.size ≤ g4 ∧ wa.heap.size ≤ g5) := by
    obtain ⟨h1, h2, h3, h4, h5⟩ := HW5.out
    exact ⟨h1.later hb6, h2.later hb6, h3.later hb6, h4.trans (hb6.mono h4.size), h5⟩
  clear hb6 HW5
  go_wp2_with fail
  refine (HTO.out _ HW6.out.2.2.2.1).mono ?_
  rintro e w7 ⟨g7, rfl, hr7, hg7, hb7⟩
  have HW7 : Hid (RW 2 lcs w7 (.slice a3 k c3) g3 M ∧ RW 2 lcs w7 (.slice (some ⟨g4, 0, none⟩) L.length L.length) g4 L ∧ RW 2 lcs w7 (.slice a5 k c5) g5 M ∧ Below wa.heap.size wa w7 ∧ (0 < k → g3 < g4) ∧ (0 < L.length → g4 < g5) ∧ (0 < k → g3 < g5) ∧ wa.heap.size ≤ g4 ∧ wa.heap.size ≤ g5) := by
    obtain ⟨h1, h2, h3, h4, h5⟩ := HW6.out
    exact ⟨h1.later hb7, h2.later hb7, h3.later hb7, h4.trans (hb7.mono h4.size), h5⟩
  clear hb7 HW6 hg7
  go_wp2_with fail
  refine (eqLeafS_yes _ _ g4 0 g7 0 L _ HW7.out.2.1.1 hr7.1).mono ?_
  rintro e w8 ⟨rfl, hb8⟩
  have HW8 : Hid (RW 2 lcs w8 (.slice a3 k c3) g3 M ∧ RW 2 lcs w8 (.slice (some ⟨g4, 0, none⟩) L.length L.length) g4 L ∧ RW 2 lcs w8 (.slice a5 k c5) g5 M ∧ Below wa.heap.size wa w8 ∧ (0 < k → g3 < g4) ∧ (0 < L.length → g4 < g5) ∧ (0 < k → g3 < g5) ∧ wa.heap.size ≤ g4 ∧ wa.heap.size ≤ g5) := by
    obtain ⟨h1, h2, h3, h4, h5⟩ := HW7.out
    exact ⟨h1.later hb8, h2.later hb8, h3.later hb8, h4.trans (hb8.mono h4.size), h5⟩
  clear hb8 HW7 hr7
  have hm8 := markL_one _ g4 L w8 HW8.out.2.1
  obtain ⟨A8, hA8⟩ : ∃ A8 : Int, ((1 + 2 * L.length : Nat) : Int) = A8 := ⟨_, rfl⟩
  have hA80 : ¬ A8 < 0 := by omega
  rw [hA8] at hm8
  clear hA8
  go_wp2_with fail
  refine hm8.mono ?_
  rintro e w9 ⟨rfl, hr9, hg9⟩
  have HW9 : Hid (RW 2 lcs w9 (.slice a3 k c3) g3 M ∧ RW 2 lcs w9 (.slice a5 k c5) g5 M ∧ Below wa.heap.size wa w9 ∧ (0 < k → g3 < g5) ∧ wa.heap.size ≤ g5) := by
    obtain ⟨h1, h2, h3, h4, h5, h6, h7, h8, h10⟩ := HW8.out
    exact ⟨h1.marks (fun hp _ => by have := h5 (by rw [← HK.out]; exact hp); omega) hg9, h3.marks (fun _ hp => by have := h6 hp; omega) hg9, h4.grown hg9 h4.size (rowF_le h8), h7, h10⟩
  clear hm8 hr9 hg9 HW8
  go_wp2_with fail
  refine (eqLeafS_yes _ _ g5 0 g3 0 M _ HW9.out.2.1.1 HW9.out.1.1).mono ?_
  rintro e w10 ⟨rfl, hb10⟩
  have HW10 : Hid (RW 2 lcs w10 (.slice a3 k c3) g3 M ∧ RW 2 lcs w10 (.slice a5 k c5) g5 M ∧ Below wa.heap.size wa w10 ∧ (0 < k → g3 < g5) ∧ wa.heap.size ≤ g5) := by
    obtain ⟨h1, h3, h4, h5⟩ := HW9.out
    exact ⟨h1.later hb10, h3.later hb10, h4.trans (hb10.mono h4.size), h5⟩
  clear hb10 HW9
  have hm10 := markL_one _ g5 M w10 HW10.out.2.1
  rw [HK.out] at hm10
  obtain ⟨A9, hA9⟩ : ∃ A9 : Int, ((1 + 2 * k : Nat) : Int) = A9 := ⟨_, rfl⟩
  have hA90 : ¬ A9 < 0 := by omega
  rw [hA9] at hm10
  have HHD : Hid (∀ W, RW 2 lcs W (.slice a5 k c5) g5 (lmarks 1 k) → Calls Try.prog 34 #[.slice a5 k c5, .int .i64 1] W fun e w' => e = .returned (.int .i64 A9) ∧ Below W.heap.size W w') := fun W h => by rw [← hA9]; exact heldL_one _ g5 k W h
  clear hA9
  go_wp2_with fail
  refine hm10.mono ?_
  rintro e w11 ⟨rfl, hr11, hg11⟩
  have HW11 : Hid (RW 2 lcs w11 (.slice a3 k c3) g3 M ∧ RW 2 lcs w11 (.slice a5 k c5) g5 (lmarks 1 k) ∧ Below wa.heap.size wa w11) := by
    obtain ⟨h1, h3, h4, h5, h6⟩ := HW10.out
    exact ⟨h1.marks (fun _ hp => by have := h5 hp; omega) hg11, hr11, h4.grown hg11 h4.size (rowF_le h6)⟩
  clear hm10 hr11 hg11 HW10
  go_wp2_with fail
  refine (HHD.out _ HW11.out.2.1).mono ?_
  rintro e w12 ⟨rfl, hb12⟩
  have HW12 : Hid (RW 2 lcs w12 (.slice a3 k c3) g3 M ∧ RW 2 lcs w12 (.slice a5 k c5) g5 (lmarks 1 k) ∧ Below wa.heap.size wa w12) := by
    obtain ⟨h1, h3, h4⟩ := HW11.out
    exact ⟨h1.later hb12, h3.later hb12, h4.trans (hb12.mono h4.size)⟩
  clear hb12 HW11
  have hb0 : Below w12.heap.size w12 w12.drew := (Below.refl _ _).drew
  have HZ12 := hide (fun W (hW : Below w12.heap.size w12 W) => HZ.out W (HW12.out.2.2.trans (hW.mono HW12.out.2.2.size)))
  have HTO12 := hide (fun W (hW : Below w12.heap.size w12 W) => HTO.out W (HW12.out.2.2.trans (hW.mono HW12.out.2.2.size)))
  go_wp2
  go_region_held3 (fun W => W.cell? ⟨w.heap.size, 0, none⟩ = some (.int .i64 i) ∧ W.cell? ⟨w.heap.size, 1, none⟩ = some (.string N) ∧ W.cell? ⟨w.heap.size, 2, none⟩ = some (.string V)) (first | (go_keep; done) | exact HZ12.out _ hb0) (first | (go_at_call 31; (with_reducible refine (HTO12.out _ hb0).mono ?_); rintro e w13 ⟨g13, rfl, hr13, _, hb13⟩; have hb0 := hb0.trans (hb13.mono hb0.size)) | (go_at_call 26; refine (HTC.out _).mono ?_; rintro e v13 ⟨rfl, hbv13⟩; have hb0 := hb0.trans (hbv13.mono hb0.size)) | (go_at_call 13; refine (HCI.out _ g13 (hr13.later hbv13).1).mono ?_; rintro e w14 ⟨a14, c14, g14, rfl, hr14, hg14, hb14⟩; have hb0 := hb0.trans (hb14.mono hb0.size)) | fail)
  try rename_i hHeld
  try clear hHeld
  have HW14 : Hid (RW 2 lcs w14 (.slice a3 k c3) g3 M ∧ RW 2 lcs w14 (.slice a5 k c5) g5 (lmarks 1 k) ∧ Below wa.heap.size wa w14 ∧ RW 2 lcs w14 (.slice a14 k c14) g14 M) := by
    obtain ⟨h1, h3, h4⟩ := HW12.out
    exact ⟨h1.later hb0, h3.later hb0, h4.trans (hb0.mono h4.size), hr14⟩
  clear hb14 HW12 hr13 hr14 hg14 HCI hb0 HZ12 HTO12 HTO HTC HZ hb13 hbv13
  go_wp2_with fail
  refine (eqLeafS_yes _ _ g14 0 g3 0 M _ HW14.out.2.2.2.1 HW14.out.1.1).mono ?_
  rintro e w15 ⟨rfl, hb15⟩
  have HW15 : Hid (RW 2 lcs w15 (.slice a5 k c5) g5 (lmarks 1 k) ∧ Below wa.heap.size wa w15) := ⟨HW14.out.2.1.later hb15, HW14.out.2.2.1.trans (hb15.mono HW14.out.2.2.1.size)⟩
  clear hb15 HW14
  go_wp2_with fail
  refine (HHD.out _ HW15.out.1).mono ?_
  rintro e w16 ⟨rfl, hb16⟩
  have b16 := HW15.out.2.trans (hb16.mono HW15.out.2.size)
  clear hb16 HW15 HHD
  go_wp2
  go_ret
  exact ⟨rfl, HWA.out.1.trans (b16.mono HWA.out.1.size)⟩

end Go.Proofs.Ytiabodhgjeoejaa
/-
  A change, and a row of changes, that a law is handed.
-/
namespace Go.Proofs.Ytiabodhgjeoejaa
open Go.ChangeShapes Go.WideShapes Go.ChangeAt Go.RowKit
set_option linter.unusedVariables false
set_option linter.unusedSimpArgs false
namespace UV

theorem addr_flat {w : World} {x : Addr} {u : Value} (h : w.cell? x = some u) (j : Nat) : x.add j = ⟨x.block, x.off + j, none⟩ := by
  have hs := World.cell?_spot h
  cases x
  simp at hs
  subst hs
  unfold Addr.add
  split <;> simp_all
theorem addr_zero (x : Addr) : x.add 0 = x := by unfold Addr.add; simp
theorem addr_add (x : Addr) (i j : Nat) : (x.add i).add j = x.add (i + j) := by
  unfold Addr.add
  split <;> split <;> simp_all <;> omega

/-- n records, each read -/
theorem list_of {α : Type} {p : Nat → α → Prop} : ∀ n : Nat, (∀ i, i < n → ∃ f, p i f) → ∃ l : List α, l.length = n ∧ ∀ i (h : i < l.length), p i l[i]
  | 0, _ => ⟨[], rfl, fun i h => absurd h (by simp)⟩
  | n + 1, h => by
    obtain ⟨l, hl, hp⟩ := list_of n (fun i hi => h i (by omega))
    obtain ⟨f, hf⟩ := h n (by omega)
    refine ⟨l ++ [f], by simp [hl], fun i hi => ?_⟩
    rcases Nat.lt_or_ge i l.length with h1 | h1
    · rw [List.getElem_append_left h1]; exact hp i h1
    · have : i = n := by simp at hi; omega
      subst this
      rw [List.getElem_append_right h1]
      simpa using hf

theorem row_at {α : Type} {k : Nat} {enc : α → List Value} {W : World} {a : Addr} {len : Nat} {l : List α} (hk0 : ∀ x, ∃ u r, enc x = u :: r) (hl : l.length = len) (cap : Nat)
    (hp : ∀ i (h : i < l.length), ∀ j u, (enc l[i])[j]? = some u → W.cell? (a.add (i * k + j)) = some u) (hsm : len ≤ 1100000) : RS k enc W (.slice (some a) len cap) a.block a.off l := by
  have hc0 : ∀ h0 : 0 < l.length, ∃ u, W.cell? a = some u := fun h0 => by
    obtain ⟨u, r, e⟩ := hk0 l[0]
    have c0 := hp 0 h0 0 u (by rw [e]; rfl)
    simp only [Nat.zero_mul, Nat.zero_add] at c0
    rw [addr_zero] at c0
    exact ⟨u, c0⟩
  refine ⟨some a, cap, by rw [hl], by omega, fun h0 => ?_, fun j hj i u hu => ?_⟩
  · obtain ⟨u, c0⟩ := hc0 h0
    have e := addr_flat c0 0
    rw [addr_zero] at e
    refine ⟨congrArg some e, ?_⟩
    rw [e] at c0
    exact lt_of_cell c0
  · obtain ⟨u0, c0⟩ := hc0 (by omega)
    have c := hp j hj i u hu
    rw [addr_flat c0] at c
    rw [Nat.add_assoc]
    exact c

theorem cellsLChange : Try.prog.cellsOf 42 = 3 := by kernel_rfl
theorem cells9u : Try.prog.cellsOf 9 = 1 := by kernel_rfl
theorem cells3u : Try.prog.cellsOf 3 = 1 := by kernel_rfl

set_option maxRecDepth 100000 in
theorem chg_of_trod {H : Type} {enc : TypeId × Value → H} {W : World} {fuel : Nat} {cs : List Value} {y : DataW H × List MemPlace} (h : DataW.trod enc Try.prog W 0 (fun _ => true) true fuel 42 cs = some y) :
    ∃ a : Ug, cs = ucs a ∧ a.n.size ≤ maxLen ∧ a.v.size ≤ maxLen := by
  obtain ⟨y0, y1, y2, n, _, hl, h0, h1, h2⟩ := Deep.trod_struct3 Try.underlying42 h
  rw [cellsLChange] at hl
  match cs, hl with
  | [c0, c1, c2], _ =>
    simp [cells9u, cells3u] at h0 h1 h2
    obtain ⟨i0, e0, _, _⟩ := DataW.trod_int Try.underlying3 h0
    obtain ⟨s1, e1, _, b1⟩ := DataW.trod_string Try.underlying9 h1
    obtain ⟨s2, e2, _, b2⟩ := DataW.trod_string Try.underlying9 h2
    simp at e0 e1 e2
    exact ⟨⟨i0, s1, s2⟩, by rw [e0, e1, e2]; rfl, b1, b2⟩

/-- no text of it passes what a text may have -/
def FitU (a : Ug) : Prop := a.n.size ≤ 9223372036854775807 ∧ a.v.size ≤ 9223372036854775807

set_option maxRecDepth 100000 in
theorem open_change {H : Type} {enc : TypeId × Value → H} {W : World} {base : Nat} {v : Value} {d : DataW H} {p : List MemPlace} (hv : Value.okWide Try.prog W .any base 42 v) (h : DataW.Trod enc Try.prog W 0 (fun _ => true) true 42 v d p) :
    ∃ a : Ug, v = .agg #[.int .i64 a.i, .string a.n, .string a.v] ∧ FitU a := by
  obtain ⟨cs, rfl, hsz⟩ := okWide_struct Try.underlying42 hv
  obtain ⟨fuel, hf⟩ := h
  obtain ⟨a, e, b1, b2⟩ := chg_of_trod hf
  obtain ⟨l⟩ := cs
  have e' : l = ucs a := by simpa [Value.cells] using e
  subst e'
  unfold maxLen at b1 b2
  exact ⟨a, rfl, b1, b2⟩

set_option maxRecDepth 100000 in
theorem open_changes {H : Type} {enc : TypeId × Value → H} {W : World} {base : Nat} {v : Value} {d : DataW H} {p : List MemPlace} (hv : Value.okWide Try.prog W .any base 53 v) (h : DataW.Trod enc Try.prog W 0 (fun _ => true) true 53 v d p) :
    ∃ g o l, IsRowU W v g o l := by
  obtain ⟨a, len, cap, rfl⟩ := okWide_slice Try.underlying53 hv
  obtain ⟨fuel, hf⟩ := h
  rcases Deep.open_slice Try.underlying53 hf with ⟨ucs, _⟩ | ⟨a, len, cap, m, n, D, Pl, ucs, _, hlc, hcm, hm, _, hx⟩
  · simp [Value.cells] at ucs
    obtain ⟨rfl, rfl, rfl⟩ := ucs
    exact ⟨0, 0, [], none, 0, 0, rfl, by omega, fun _ => ⟨rfl, RS.nil W 0 0, fun f hf => absurd hf (by simp)⟩⟩
  · simp [Value.cells] at ucs
    obtain ⟨rfl, rfl, rfl⟩ := ucs
    have hx' : ∀ i, i < len → ∃ z : Ug, (∀ j u, (ucs z)[j]? = some u → W.cell? (a.add (i * 3 + j)) = some u) ∧ z.n.size ≤ maxLen ∧ z.v.size ≤ maxLen := fun i hi => by
      obtain ⟨cs', h1, h2⟩ := hx i (by rw [hm]; split <;> omega)
      obtain ⟨z, rfl, b1, b2⟩ := chg_of_trod h2
      rw [cellsLChange] at h1
      obtain ⟨_, _, hc⟩ := World.cells?_some h1
      refine ⟨z, fun j u hu => ?_, b1, b2⟩
      have hj : j < 3 := by have := (List.getElem?_eq_some_iff.1 hu).1; simpa [ucs] using this
      have := hc j hj
      rw [addr_add] at this
      rw [this]
      exact hu
    obtain ⟨l, hl, hp⟩ := list_of len hx'
    refine ⟨a.block, a.off, l, some a, len, cap, rfl, by unfold maxLen at hcm; omega, fun hsm => ⟨hl, row_at (k := 3) (enc := ucs) (fun x => ⟨_, _, rfl⟩) hl cap (fun i h => (hp i h).1) hsm, fun f hf => ?_⟩⟩
    obtain ⟨j, hj, rfl⟩ := List.getElem_of_mem hf
    have := (hp j hj).2
    unfold maxLen at this
    exact this
end UV

end Go.Proofs.Ytiabodhgjeoejaa
