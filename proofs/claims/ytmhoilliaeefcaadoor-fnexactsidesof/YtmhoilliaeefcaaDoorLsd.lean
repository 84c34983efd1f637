/-
  The walk of the law FnExactSidesOf: it answers true of every row of leaves, every index, level and width.
-/
import Derived.Test.YtmhoilliaeefcaaDoorSi
import Derived.Test.YtmhoilliaeefcaaDoorLl
import Derived.Test.YtmhoilliaeefcaaDoorLk
namespace Go.Proofs.YtmhoilliaeefcaaDoor
open Go.RowKit Go.BigFrame Go.Sort
set_option linter.unusedVariables false
set_option linter.unusedSimpArgs false

/-- texts answered, k of them -/
def TdP (k : Nat) (M : List ByteArray) (w : World) (e : Ending) (w' : World) : Prop := ∃ a cap g, e = .returned (.slice a k cap) ∧ TS w' (.slice a k cap) g M ∧ w.heap.size ≤ g ∧ Below w.heap.size w w'
theorem TdP.of {f : FuncId} {args : Array Value} {M : List ByteArray} {k : Nat} {w : World} (h : Calls Tryd.prog f args w fun e w' => ∃ u, e = .returned u ∧ OS w.heap.size w w' u M) (hk : M.length = k) (hl : k ≤ 1100000) : Calls Tryd.prog f args w (TdP k M w) :=
  h.mono fun e w' ⟨u, he, ho⟩ => by
    obtain ⟨gz, hts, hgz⟩ := ho.ts (by omega)
    obtain ⟨az, cz, rfl⟩ := ho.slice
    rw [hk] at he hts
    exact ⟨az, cz, gz, he, hts, hgz, ho.2.1⟩
theorem sdA_len (L : List Le) (ix l x : Int) : (sdA L ix l x).length ≤ 8 := by
  unfold sdA
  split
  · rw [sdL_len]; omega
  · simp
theorem markT_one (v : Value) (g : Nat) (l : List ByteArray) (w : World) (h : TS w v g l) :
    Calls Tryd.prog 44 #[v, .int .i64 1] w fun e w' => e = .returned (.int .i64 (1 + l.length : Nat)) ∧ TS w' v g (marks 1 l.length) ∧ w.grownBy w' (rowOf g l) := markStringS_any v g l 1 1 w rfl h (by omega) (by omega)
theorem heldT_one (v : Value) (g n : Nat) (w : World) (h : TS w v g (marks 1 n)) :
    Calls Tryd.prog 45 #[v, .int .i64 1] w fun e w' => e = .returned (.int .i64 (1 + n : Nat)) ∧ Below w.heap.size w w' := heldStringS_any v g 1 1 n w rfl h (by omega) (by omega)
theorem markS_one (v : Value) (g : Nat) (l : List Le) (w : World) (h : RW 2 lcs w v g l) :
    Calls Tryd.prog 43 #[v, .int .i64 1] w fun e w' => e = .returned (.int .i64 (1 + 2 * l.length : Nat)) ∧ RW 2 lcs w' v g (lmarks 1 l.length) ∧ w.grownBy w' (rowF g l.length) := markLeafS_any v g l 1 1 w rfl h (by omega) (by omega)
theorem rowOf_leT {g B : Nat} {l : List ByteArray} (h : B ≤ g) (q : Nat) (hq : rowOf g l = some q) : B ≤ q := by
  unfold rowOf at hq
  split at hq
  · cases hq
  · have : g = q := by simpa using hq
    omega
/-- two rows of texts compared: below, in plain words -/
theorem eqT_yes (va vb : Value) (ga gb : Nat) (l : List ByteArray) (w : World) (ha : TS w va ga l) (hb : TS w vb gb l) :
    Calls Tryd.prog 42 #[va, vb] w fun e w' => e = .returned (.bool true) ∧ Below w.heap.size w w' :=
  (eqStringS_yes va vb ga 0 gb 0 l w ha.ss hb.ss).mono fun e w' ⟨he, q, hw⟩ => ⟨he, by rw [hw]; exact below_drn (Below.refl _ _) q⟩

set_option maxRecDepth 100000 in
set_option maxHeartbeats 4000000 in
theorem exactSidesOf_any (v : Value) (g o : Nat) (L : List Le) (ix l x : Int) (w : World) (hT : Tb w) (hv : IsRowL w v g o L) :
    Calls Tryd.prog 10 #[v, .int .i64 ix, .int .i64 l, .int .i64 x] w fun e w' => e = .returned (.bool true) ∧ Below w.heap.size w w' := by
  have HSZ := szLeafS_row v g o L 1048576 _ hv (by omega) (by omega)
  have hsv : ∃ a n cap, v = .slice a n cap := by obtain ⟨a, n, cap, h, _⟩ := hv; exact ⟨a, n, cap, h⟩
  obtain ⟨a, n, cap, rfl⟩ := hsv
  clear hv
  go_enter Tryd.func10, Tryd.ntmps10
  go_wp2_with fail
  refine HSZ.mono ?_
  rintro e w1 ⟨A, rfl, hb1, _, hA⟩
  clear HSZ
  by_cases hneg : A < 0
  · clear hA hT
    go_wp2
    go_ret
    exact ⟨rfl, hb1⟩
  · obtain ⟨hrs, hsm, hlen⟩ := hA (by omega)
    clear hA
    obtain ⟨k, hk⟩ : ∃ k, (sdA L ix l x).length = k := ⟨_, rfl⟩
    have hk8 := sdA_len L ix l x
    have HTO : Hid (∀ W, Below w.heap.size w W → Calls Tryd.prog 39 #[.slice a n cap] W fun e w' => ∃ g, e = .returned (.slice (some ⟨g, 0, none⟩) L.length L.length) ∧ RW 2 lcs w' (.slice (some ⟨g, 0, none⟩) L.length L.length) g L ∧ W.heap.size ≤ g ∧ Below W.heap.size W w') := fun W hW => toLeafS_in _ g o L W (hrs.later hW)
    have HCS : Hid (∀ W q, RS 2 lcs W (.slice (some ⟨q, 0, none⟩) L.length L.length) q 0 L → Calls Tryd.prog 41 #[.slice (some ⟨q, 0, none⟩) L.length L.length, .int .i64 ix, .int .i64 l, .int .i64 x] W (TdP k (sdA L ix l x) W)) := fun W q h => TdP.of (sSidesOf_any _ q 0 L ix l x W h hsm) hk (by omega)
    have HCI : Hid (∀ W q, Below w.heap.size w W → RS 2 lcs W (.slice (some ⟨q, 0, none⟩) L.length L.length) q 0 L → Calls Tryd.prog 17 #[.slice (some ⟨q, 0, none⟩) L.length L.length, .int .i64 ix, .int .i64 l, .int .i64 x] W (TdP k (sdA L ix l x) W)) := fun W q hW h => TdP.of (SidesOf_any _ q 0 L ix l x W h hsm (hT.later hW)) hk (by omega)
    have HK : Hid ((sdA L ix l x).length = k) := hk
    unfold TdP at HCS HCI
    generalize sdA L ix l x = M at *
    clear hrs hsm hT hk
    go_wp2_with fail
    refine (HTO.out _ hb1).mono ?_
    rintro e w2 ⟨g2, rfl, hr2, _, hb2⟩
    have b2 := hb1.trans (hb2.mono hb1.size)
    go_wp2_with fail
    refine (HCS.out _ g2 hr2.1).mono ?_
    rintro e w3 ⟨a3, c3, g3, rfl, hr3, hg3, hb3⟩
    have HW3 : Hid (TS w3 (.slice a3 k c3) g3 M ∧ Below w.heap.size w w3) := ⟨hr3, b2.trans (hb3.mono b2.size)⟩
    clear hr2 hb2 b2 hr3 hg3 hb3 hb1 HCS
    go_wp2_with fail
    refine (HTO.out _ HW3.out.2).mono ?_
    rintro e w4 ⟨g4, rfl, hr4, hg4, hb4⟩
    have b4 := HW3.out.2.trans (hb4.mono HW3.out.2.size)
    have HW4 : Hid (TS w4 (.slice a3 k c3) g3 M ∧ RW 2 lcs w4 (.slice (some ⟨g4, 0, none⟩) L.length L.length) g4 L ∧ Below w.heap.size w w4 ∧ (0 < k → g3 < g4) ∧ w.heap.size ≤ g4) := ⟨HW3.out.1.later hb4, hr4, b4, fun hp => by have := HW3.out.1.lt (by rw [HK.out]; exact hp); omega, by have := HW3.out.2.size; omega⟩
    clear hr4 hg4 hb4 b4 HW3
    go_wp2_with fail
    refine (HCI.out _ g4 HW4.out.2.2.1 HW4.out.2.1.1).mono ?_
    rintro e w5 ⟨a5, c5, g5, rfl, hr5, hg5, hb5⟩
    have HW5 : Hid (TS w5 (.slice a3 k c3) g3 M ∧ RW 2 lcs w5 (.slice (some ⟨g4, 0, none⟩) L.length L.length) g4 L ∧ TS w5 (.slice a5 k c5) g5 M ∧ Below w.heap.size w w5 ∧ (0 < k → g3 < g4) ∧ (0 < L.length → g4 < g5) ∧ (0 < k → g3 < g5) ∧ w.heap.size ≤ g4 ∧ w.heap.size ≤ g5) :=
      ⟨HW4.out.1.later hb5, HW4.out.2.1.later hb5, hr5, HW4.out.2.2.1.trans (hb5.mono HW4.out.2.2.1.size), HW4.out.2.2.2.1, fun hp => by have := HW4.out.2.1.lt hp; omega, fun hp => by have := HW4.out.1.lt (by rw [HK.out]; exact hp); omega, HW4.out.2.2.2.2, by have := HW4.out.2.2.1.size; omega⟩
    clear hr5 hg5 hb5 HW4
    go_wp2_with fail
    refine (eqT_yes _ _ g5 g3 M _ HW5.out.2.2.1 HW5.out.1).mono ?_
    rintro e w6 ⟨rfl, hb6⟩
    have HW6 : Hid (TS w6 (.slice a3 k c3) g3 M ∧ RW 2 lcs w6 (.slice (some ⟨g4, 0, none⟩) L.length L.length) g4 L ∧ TS w6 (.slice a5 k c5) g5 M ∧ Below w.heap.size w w6 ∧ (0 < k → g3 < g4) ∧ (0 < L.length → g4 < g5) ∧ (0 < k → g3 < g5) ∧ w.heap.size ≤ g4 ∧ w.heap.size ≤ g5) := by
      obtain ⟨h1, h2, h3, h4, h5⟩ := HW5.out
      exact ⟨h1.later hb6, h2.later hb6, h3.later hb6, h4.trans (hb6.mono h4.size), h5⟩
    clear hb6 HW5
    go_wp2_with fail
    refine (HTO.out _ HW6.out.2.2.2.1).mono ?_
    rintro e w7 ⟨g7, rfl, hr7, hg7, hb7⟩
    have HW7 : Hid (TS w7 (.slice a3 k c3) g3 M ∧ RW 2 lcs w7 (.slice (some ⟨g4, 0, none⟩) L.length L.length) g4 L ∧ TS w7 (.slice a5 k c5) g5 M ∧ Below w.heap.size w w7 ∧ (0 < k → g3 < g4) ∧ (0 < L.length → g4 < g5) ∧ (0 < k → g3 < g5) ∧ w.heap.size ≤ g4 ∧ w.heap.size ≤ g5) := by
      obtain ⟨h1, h2, h3, h4, h5⟩ := HW6.out
      exact ⟨h1.later hb7, h2.later hb7, h3.later hb7, h4.trans (hb7.mono h4.size), h5⟩
    clear hb7 HW6 hg7
    go_wp2_with fail
    refine (eqLeafS_yes _ _ g4 0 g7 0 L _ HW7.out.2.1.1 hr7.1).mono ?_
    rintro e w8 ⟨rfl, hb8⟩
    have HW8 : Hid (TS w8 (.slice a3 k c3) g3 M ∧ RW 2 lcs w8 (.slice (some ⟨g4, 0, none⟩) L.length L.length) g4 L ∧ TS w8 (.slice a5 k c5) g5 M ∧ Below w.heap.size w w8 ∧ (0 < k → g3 < g4) ∧ (0 < L.length → g4 < g5) ∧ (0 < k → g3 < g5) ∧ w.heap.size ≤ g4 ∧ w.heap.size ≤ g5) := by
      obtain ⟨h1, h2, h3, h4, h5⟩ := HW7.out
      exact ⟨h1.later hb8, h2.later hb8, h3.later hb8, h4.trans (hb8.mono h4.size), h5⟩
    clear hb8 HW7 hr7
    have hm8 := markS_one _ g4 L w8 HW8.out.2.1
    obtain ⟨A8, hA8⟩ : ∃ A8 : Int, ((1 + 2 * L.length : Nat) : Int) = A8 := ⟨_, rfl⟩
    have hA80 : ¬ A8 < 0 := by omega
    rw [hA8] at hm8
    clear hA8
    go_wp2_with fail
    refine hm8.mono ?_
    rintro e w9 ⟨rfl, hr9, hg9⟩
    have HW9 : Hid (TS w9 (.slice a3 k c3) g3 M ∧ TS w9 (.slice a5 k c5) g5 M ∧ Below w.heap.size w w9 ∧ (0 < k → g3 < g5) ∧ w.heap.size ≤ g5) := by
      obtain ⟨h1, h2, h3, h4, h5, h6, h7, h8, h10⟩ := HW8.out
      exact ⟨h1.keptG hg9 (fun hp => rowF_ne fun _ => by have := h5 (by rw [← HK.out]; exact hp); omega), h3.keptG hg9 (fun _ => rowF_ne fun hp => by have := h6 hp; omega), h4.grown hg9 h4.size (rowF_le h8), h7, h10⟩
    clear hm8 hr9 hg9 HW8
    go_wp2_with fail
    refine (eqT_yes _ _ g5 g3 M _ HW9.out.2.1 HW9.out.1).mono ?_
    rintro e w10 ⟨rfl, hb10⟩
    have HW10 : Hid (TS w10 (.slice a3 k c3) g3 M ∧ TS w10 (.slice a5 k c5) g5 M ∧ Below w.heap.size w w10 ∧ (0 < k → g3 < g5) ∧ w.heap.size ≤ g5) := by
      obtain ⟨h1, h3, h4, h5⟩ := HW9.out
      exact ⟨h1.later hb10, h3.later hb10, h4.trans (hb10.mono h4.size), h5⟩
    clear hb10 HW9
    have hm10 := markT_one _ g5 M w10 HW10.out.2.1
    rw [HK.out] at hm10
    obtain ⟨A9, hA9⟩ : ∃ A9 : Int, ((1 + k : Nat) : Int) = A9 := ⟨_, rfl⟩
    have hA90 : ¬ A9 < 0 := by omega
    rw [hA9] at hm10
    have HHD : Hid (∀ W, TS W (.slice a5 k c5) g5 (marks 1 k) → Calls Tryd.prog 45 #[.slice a5 k c5, .int .i64 1] W fun e w' => e = .returned (.int .i64 A9) ∧ Below W.heap.size W w') := fun W h => by rw [← hA9]; exact heldT_one _ g5 k W h
    clear hA9
    go_wp2_with fail
    refine hm10.mono ?_
    rintro e w11 ⟨rfl, hr11, hg11⟩
    have HW11 : Hid (TS w11 (.slice a3 k c3) g3 M ∧ TS w11 (.slice a5 k c5) g5 (marks 1 k) ∧ Below w.heap.size w w11) := by
      obtain ⟨h1, h3, h4, h5, h6⟩ := HW10.out
      exact ⟨h1.keptG hg11 (fun _ => rowOf_ne fun hp => by have := h5 (by rw [← HK.out]; exact hp); omega), hr11, h4.grown hg11 h4.size (rowOf_leT h6)⟩
    clear hm10 hr11 hg11 HW10
    go_wp2_with fail
    refine (HHD.out _ HW11.out.2.1).mono ?_
    rintro e w12 ⟨rfl, hb12⟩
    have HW12 : Hid (TS w12 (.slice a3 k c3) g3 M ∧ TS w12 (.slice a5 k c5) g5 (marks 1 k) ∧ Below w.heap.size w w12) := by
      obtain ⟨h1, h3, h4⟩ := HW11.out
      exact ⟨h1.later hb12, h3.later hb12, h4.trans (hb12.mono h4.size)⟩
    clear hb12 HW11
    go_wp2_with fail
    refine (HTO.out _ HW12.out.2.2).mono ?_
    rintro e w13 ⟨g13, rfl, hr13, hg13, hb13⟩
    have HW13 : Hid (TS w13 (.slice a3 k c3) g3 M ∧ TS w13 (.slice a5 k c5) g5 (marks 1 k) ∧ Below w.heap.size w w13) := by
      obtain ⟨h1, h3, h4⟩ := HW12.out
      exact ⟨h1.later hb13, h3.later hb13, h4.trans (hb13.mono h4.size)⟩
    clear hb13 HW12 hg13 HTO
    go_wp2_with fail
    refine (HCI.out _ g13 HW13.out.2.2 hr13.1).mono ?_
    rintro e w14 ⟨a14, c14, g14, rfl, hr14, hg14, hb14⟩
    have HW14 : Hid (TS w14 (.slice a3 k c3) g3 M ∧ TS w14 (.slice a5 k c5) g5 (marks 1 k) ∧ Below w.heap.size w w14 ∧ TS w14 (.slice a14 k c14) g14 M) := by
      obtain ⟨h1, h3, h4⟩ := HW13.out
      exact ⟨h1.later hb14, h3.later hb14, h4.trans (hb14.mono h4.size), hr14⟩
    clear hb14 HW13 hr13 hr14 hg14 HCI
    go_wp2_with fail
    refine (eqT_yes _ _ g14 g3 M _ HW14.out.2.2.2 HW14.out.1).mono ?_
    rintro e w15 ⟨rfl, hb15⟩
    have HW15 : Hid (TS w15 (.slice a5 k c5) g5 (marks 1 k) ∧ Below w.heap.size w w15) := ⟨HW14.out.2.1.later hb15, HW14.out.2.2.1.trans (hb15.mono HW14.out.2.2.1.size)⟩
    clear hb15 HW14
    go_wp2_with fail
    refine (HHD.out _ HW15.out.1).mono ?_
    rintro e w16 ⟨rfl, hb16⟩
    have b16 := HW15.out.2.trans (hb16.mono HW15.out.2.size)
    clear hb16 HW15 HHD
    go_wp2
    go_ret
    exact ⟨rfl, b16⟩

end Go.Proofs.YtmhoilliaeefcaaDoor
