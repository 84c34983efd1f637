/-
  The walk of the law FnExactBucketOf: it answers true of every row of leaves and every index.
-/
import Derived.Test.YtofdlkfihhjlgaaDoorBk
import Derived.Test.YtofdlkfihhjlgaaDoorLl
import Derived.Test.YtofdlkfihhjlgaaDoorLk
namespace Go.Proofs.YtofdlkfihhjlgaaDoor
open Go.RowKit Go.BigFrame Go.Sort
set_option linter.unusedVariables false
set_option linter.unusedSimpArgs false

/-- a list answered -/
def LbP (M : List Le) (w : World) (e : Ending) (w' : World) : Prop := ∃ a cap g, e = .returned (.slice a M.length cap) ∧ RW 2 lcs w' (.slice a M.length cap) g M ∧ w.heap.size ≤ g ∧ Below w.heap.size w w'
theorem LbP.of {f : FuncId} {args : Array Value} {M : List Le} {w : World} (h : Calls Tryd.prog f args w fun e w' => ∃ u, e = .returned u ∧ OL w.heap.size w w' u M) (hl : M.length ≤ 1100000) : Calls Tryd.prog f args w (LbP M w) :=
  h.mono fun e w' ⟨u, he, ho⟩ => by
    obtain ⟨gz, hrz, hgz, _⟩ := ho.rw hl
    obtain ⟨az, cz, rfl⟩ := ho.shape
    exact ⟨az, cz, gz, he, hrz, hgz, ho.2.1⟩
theorem markB_one (v : Value) (g : Nat) (l : List Le) (w : World) (h : RW 2 lcs w v g l) :
    Calls Tryd.prog 23 #[v, .int .i64 1] w fun e w' => e = .returned (.int .i64 (1 + 2 * l.length : Nat)) ∧ RW 2 lcs w' v g (lmarks 1 l.length) ∧ w.grownBy w' (rowF g l.length) := markLeafS_any v g l 1 1 w rfl h (by omega) (by omega)
theorem heldB_one (v : Value) (g n : Nat) (w : World) (h : RW 2 lcs w v g (lmarks 1 n)) :
    Calls Tryd.prog 24 #[v, .int .i64 1] w fun e w' => e = .returned (.int .i64 (1 + 2 * n : Nat)) ∧ Below w.heap.size w w' := heldLeafS_any v g 1 1 n w rfl h.1 (by omega) (by omega)
/-- a row kept while another is marked -/
theorem RW.marksB {w w' : World} {v : Value} {g g2 n : Nat} {l : List Le} (h : RW 2 lcs w v g l) (hlt : 0 < l.length → 0 < n → g ≠ g2) (hg : w.grownBy w' (rowF g2 n)) : RW 2 lcs w' v g l := h.grown hg (fun hp => rowF_ne (fun hp2 => hlt hp hp2))

set_option maxRecDepth 100000 in
set_option maxHeartbeats 4000000 in
theorem bucketLaw_any (v : Value) (g o : Nat) (L : List Le) (i : Int) (w : World) (hK : TabK w) (hF : TabF w) (hv : IsRowL w v g o L) :
    Calls Tryd.prog 4 #[v, .int .i64 i] w fun e w' => e = .returned (.bool true) ∧ Below w.heap.size w w' := by
  have HSZ := szLeafS_row v g o L 1048576 _ hv (by omega) (by omega)
  have hsv : ∃ a n cap, v = .slice a n cap := by obtain ⟨a, n, cap, h, _⟩ := hv; exact ⟨a, n, cap, h⟩
  obtain ⟨a, n, cap, rfl⟩ := hsv
  clear hv
  go_enter Tryd.func4, Tryd.ntmps4
  go_wp2_with fail
  refine HSZ.mono ?_
  rintro e w1 ⟨A, rfl, hb1, _, hA⟩
  clear HSZ
  by_cases hneg : A < 0
  · clear hA
    go_wp2
    go_ret
    exact ⟨rfl, hb1⟩
  · obtain ⟨hrs, hsm, hlen⟩ := hA (by omega)
    clear hA
    have HTO : Hid (∀ W, Below w.heap.size w W → Calls Tryd.prog 21 #[.slice a n cap] W fun e w' => ∃ g, e = .returned (.slice (some ⟨g, 0, none⟩) L.length L.length) ∧ RW 2 lcs w' (.slice (some ⟨g, 0, none⟩) L.length L.length) g L ∧ W.heap.size ≤ g ∧ Below W.heap.size W w') := fun W hW => toLeafS_in _ g o L W (hrs.later hW)
    have HCS : Hid (∀ W q, RS 2 lcs W (.slice (some ⟨q, 0, none⟩) L.length L.length) q 0 L → Calls Tryd.prog 20 #[.slice (some ⟨q, 0, none⟩) L.length L.length, .int .i64 i] W (LbP (bkL L i) W)) := fun W q h => LbP.of (sBucketOf_any _ q 0 L i W h hsm) (by have := List.length_filter_le (bkP i) L; show (bkL L i).length ≤ 1100000; unfold bkL; omega)
    have HCI : Hid (∀ W q, Below w.heap.size w W → RS 2 lcs W (.slice (some ⟨q, 0, none⟩) L.length L.length) q 0 L → Calls Tryd.prog 15 #[.slice (some ⟨q, 0, none⟩) L.length L.length, .int .i64 i] W (LbP (bkL L i) W)) := fun W q hW h => LbP.of (BucketOf_any _ q 0 L i W h hsm (hK.later hW hK.pos) (hF.later hW hF.pos)) (by have := List.length_filter_le (bkP i) L; show (bkL L i).length ≤ 1100000; unfold bkL; omega)
    unfold LbP at HCS HCI
    generalize hMM : bkL L i = M at *
    clear hrs hsm hMM hK hF
    obtain ⟨k, hk⟩ : ∃ k, M.length = k := ⟨_, rfl⟩
    have HK : Hid (M.length = k) := hk
    simp only [hk] at HCS HCI
    clear hk
    go_wp2_with fail
    refine (HTO.out _ hb1).mono ?_
    rintro e w2 ⟨g2, rfl, hr2, _, hb2⟩
    have b2 := hb1.trans (hb2.mono hb1.size)
    go_wp2_with fail
    refine (HCS.out _ g2 hr2.1).mono ?_
    rintro e w3 ⟨a3, c3, g3, rfl, hr3, hg3, hb3⟩
    have HW3 : Hid (RW 2 lcs w3 (.slice a3 k c3) g3 M ∧ Below w.heap.size w w3) := ⟨hr3, b2.trans (hb3.mono b2.size)⟩
    clear hr2 hb2 b2 hr3 hg3 hb3 hb1 HCS
    go_wp2_with fail
    refine (HTO.out _ HW3.out.2).mono ?_
    rintro e w4 ⟨g4, rfl, hr4, hg4, hb4⟩
    have b4 := HW3.out.2.trans (hb4.mono HW3.out.2.size)
    have HW4 : Hid (RW 2 lcs w4 (.slice a3 k c3) g3 M ∧ RW 2 lcs w4 (.slice (some ⟨g4, 0, none⟩) L.length L.length) g4 L ∧ Below w.heap.size w w4 ∧ (0 < k → g3 < g4) ∧ w.heap.size ≤ g4) := ⟨HW3.out.1.later hb4, hr4, b4, fun hp => by have := HW3.out.1.lt (by rw [HK.out]; exact hp); omega, by have := HW3.out.2.size; omega⟩
    clear hr4 hg4 hb4 b4 HW3
    go_wp2_with fail
    refine (HCI.out _ g4 HW4.out.2.2.1 HW4.out.2.1.1).mono ?_
    rintro e w5 ⟨a5, c5, g5, rfl, hr5, hg5, hb5⟩
    have HW5 : Hid (RW 2 lcs w5 (.slice a3 k c3) g3 M ∧ RW 2 lcs w5 (.slice (some ⟨g4, 0, none⟩) L.length L.length) g4 L ∧ RW 2 lcs w5 (.slice a5 k c5) g5 M ∧ Below w.heap.size w w5 ∧ (0 < k → g3 < g4) ∧ (0 < L.length → g4 < g5) ∧ (0 < k → g3 < g5) ∧ w.heap.size ≤ g4 ∧ w.heap.size ≤ g5) :=
      ⟨HW4.out.1.later hb5, HW4.out.2.1.later hb5, hr5, HW4.out.2.2.1.trans (hb5.mono HW4.out.2.2.1.size), HW4.out.2.2.2.1, fun hp => by have := HW4.out.2.1.lt hp; omega, fun hp => by have := HW4.out.1.lt (by rw [HK.out]; exact hp); omega, HW4.out.2.2.2.2, by have := HW4.out.2.2.1.size; omega⟩
    clear hr5 hg5 hb5 HW4
    go_wp2_with fail
    refine (eqLeafS_yes _ _ g5 0 g3 0 M _ HW5.out.2.2.1.1 HW5.out.1.1).mono ?_
    rintro e w6 ⟨rfl, hb6⟩
    have HW6 : Hid (RW 2 lcs w6 (.slice a3 k c3) g3 M ∧ RW 2 lcs w6 (.slice (some ⟨g4, 0, none⟩) L.length L.length) g4 L ∧ RW 2 lcs w6 (.slice a5 k c5) g5 M ∧ Below w.heap.size w w6 ∧ (0 < k → g3 < g4) ∧ (0 < L.length → g4 < g5) ∧ (0 < k → g3 < g5) ∧ w.heap.size ≤ g4 ∧ w.heap.size ≤ g5) := by
      obtain ⟨h1, h2, h3, h4, h5⟩ := HW5.out
      exact ⟨h1.later hb6, h2.later hb6, h3.later hb6, h4.trans (hb6.mono h4.size), h5⟩
    clear hb6 HW5
    go_wp2_with fail
    refine (HTO.out _ HW6.out.2.2.2.1).mono ?_
    rintro e w7 ⟨g7, rfl, hr7, hg7, hb7⟩
    have HW7 : Hid (RW 2 lcs w7 (.slice a3 k c3) g3 M ∧ RW 2 lcs w7 (.slice (some ⟨g4, 0, none⟩) L.length L.length) g4 L ∧ RW 2 lcs w7 (.slice a5 k c5) g5 M ∧ Below w.heap.size w w7 ∧ (0 < k → g3 < g4) ∧ (0 < L.length → g4 < g5) ∧ (0 < k → g3 < g5) ∧ w.heap.size ≤ g4 ∧ w.heap.size ≤ g5) := by
      obtain ⟨h1, h2, h3, h4, h5⟩ := HW6.out
      exact ⟨h1.later hb7, h2.later hb7, h3.later hb7, h4.trans (hb7.mono h4.size), h5⟩
    clear hb7 HW6 hg7
    go_wp2_with fail
    refine (eqLeafS_yes _ _ g4 0 g7 0 L _ HW7.out.2.1.1 hr7.1).mono ?_
    rintro e w8 ⟨rfl, hb8⟩
    have HW8 : Hid (RW 2 lcs w8 (.slice a3 k c3) g3 M ∧ RW 2 lcs w8 (.slice (some ⟨g4, 0, none⟩) L.length L.length) g4 L ∧ RW 2 lcs w8 (.slice a5 k c5) g5 M ∧ Below w.heap.size w w8 ∧ (0 < k → g3 < g4) ∧ (0 < L.length → g4 < g5) ∧ (0 < k → g3 < g5) ∧ w.heap.size ≤ g4 ∧ w.heap.size ≤ g5) := by
      obtain ⟨h1, h2, h3, h4, h5⟩ := HW7.out
      exact ⟨h1.later hb8, h2.later hb8, h3.later hb8, h4.trans (hb8.mono h4.size), h5⟩
    clear hb8 HW7 hr7
    have hm8 := markB_one _ g4 L w8 HW8.out.2.1
    obtain ⟨A8, hA8⟩ : ∃ A8 : Int, ((1 + 2 * L.length : Nat) : Int) = A8 := ⟨_, rfl⟩
    have hA80 : ¬ A8 < 0 := by omega
    rw [hA8] at hm8
    clear hA8
    go_wp2_with fail
    refine hm8.mono ?_
    rintro e w9 ⟨rfl, hr9, hg9⟩
    have HW9 : Hid (RW 2 lcs w9 (.slice a3 k c3) g3 M ∧ RW 2 lcs w9 (.slice a5 k c5) g5 M ∧ Below w.heap.size w w9 ∧ (0 < k → g3 < g5) ∧ w.heap.size ≤ g5) := by
      obtain ⟨h1, h2, h3, h4, h5, h6, h7, h8, h10⟩ := HW8.out
      exact ⟨h1.marksB (fun hp _ => by have := h5 (by rw [← HK.out]; exact hp); omega) hg9, h3.marksB (fun _ hp => by have := h6 hp; omega) hg9, h4.grown hg9 h4.size (rowF_le h8), h7, h10⟩
    clear hm8 hr9 hg9 HW8
    go_wp2_with fail
    refine (eqLeafS_yes _ _ g5 0 g3 0 M _ HW9.out.2.1.1 HW9.out.1.1).mono ?_
    rintro e w10 ⟨rfl, hb10⟩
    have HW10 : Hid (RW 2 lcs w10 (.slice a3 k c3) g3 M ∧ RW 2 lcs w10 (.slice a5 k c5) g5 M ∧ Below w.heap.size w w10 ∧ (0 < k → g3 < g5) ∧ w.heap.size ≤ g5) := by
      obtain ⟨h1, h3, h4, h5⟩ := HW9.out
      exact ⟨h1.later hb10, h3.later hb10, h4.trans (hb10.mono h4.size), h5⟩
    clear hb10 HW9
    have hm10 := markB_one _ g5 M w10 HW10.out.2.1
    rw [HK.out] at hm10
    obtain ⟨A9, hA9⟩ : ∃ A9 : Int, ((1 + 2 * k : Nat) : Int) = A9 := ⟨_, rfl⟩
    have hA90 : ¬ A9 < 0 := by omega
    rw [hA9] at hm10
    have HHD : Hid (∀ W, RW 2 lcs W (.slice a5 k c5) g5 (lmarks 1 k) → Calls Tryd.prog 24 #[.slice a5 k c5, .int .i64 1] W fun e w' => e = .returned (.int .i64 A9) ∧ Below W.heap.size W w') := fun W h => by rw [← hA9]; exact heldB_one _ g5 k W h
    clear hA9
    go_wp2_with fail
    refine hm10.mono ?_
    rintro e w11 ⟨rfl, hr11, hg11⟩
    have HW11 : Hid (RW 2 lcs w11 (.slice a3 k c3) g3 M ∧ RW 2 lcs w11 (.slice a5 k c5) g5 (lmarks 1 k) ∧ Below w.heap.size w w11) := by
      obtain ⟨h1, h3, h4, h5, h6⟩ := HW10.out
      exact ⟨h1.marksB (fun _ hp => by have := h5 hp; omega) hg11, hr11, h4.grown hg11 h4.size (rowF_le h6)⟩
    clear hm10 hr11 hg11 HW10
    go_wp2_with fail
    refine (HHD.out _ HW11.out.2.1).mono ?_
    rintro e w12 ⟨rfl, hb12⟩
    have HW12 : Hid (RW 2 lcs w12 (.slice a3 k c3) g3 M ∧ RW 2 lcs w12 (.slice a5 k c5) g5 (lmarks 1 k) ∧ Below w.heap.size w w12) := by
      obtain ⟨h1, h3, h4⟩ := HW11.out
      exact ⟨h1.later hb12, h3.later hb12, h4.trans (hb12.mono h4.size)⟩
    clear hb12 HW11
    go_wp2_with fail
    refine (HTO.out _ HW12.out.2.2).mono ?_
    rintro e w13 ⟨g13, rfl, hr13, hg13, hb13⟩
    have HW13 : Hid (RW 2 lcs w13 (.slice a3 k c3) g3 M ∧ RW 2 lcs w13 (.slice a5 k c5) g5 (lmarks 1 k) ∧ Below w.heap.size w w13) := by
      obtain ⟨h1, h3, h4⟩ := HW12.out
      exact ⟨h1.later hb13, h3.later hb13, h4.trans (hb13.mono h4.size)⟩
    clear hb13 HW12 hg13 HTO
    go_wp2_with fail
    refine (HCI.out _ g13 HW13.out.2.2 hr13.1).mono ?_
    rintro e w14 ⟨a14, c14, g14, rfl, hr14, hg14, hb14⟩
    have HW14 : Hid (RW 2 lcs w14 (.slice a3 k c3) g3 M ∧ RW 2 lcs w14 (.slice a5 k c5) g5 (lmarks 1 k) ∧ Below w.heap.size w w14 ∧ RW 2 lcs w14 (.slice a14 k c14) g14 M) := by
      obtain ⟨h1, h3, h4⟩ := HW13.out
      exact ⟨h1.later hb14, h3.later hb14, h4.trans (hb14.mono h4.size), hr14⟩
    clear hb14 HW13 hr13 hr14 hg14 HCI
    go_wp2_with fail
    refine (eqLeafS_yes _ _ g14 0 g3 0 M _ HW14.out.2.2.2.1 HW14.out.1.1).mono ?_
    rintro e w15 ⟨rfl, hb15⟩
    have HW15 : Hid (RW 2 lcs w15 (.slice a5 k c5) g5 (lmarks 1 k) ∧ Below w.heap.size w w15) := ⟨HW14.out.2.1.later hb15, HW14.out.2.2.1.trans (hb15.mono HW14.out.2.2.1.size)⟩
    clear hb15 HW14
    go_wp2_with fail
    refine (HHD.out _ HW15.out.1).mono ?_
    rintro e w16 ⟨rfl, hb16⟩
    have b16 := HW15.out.2.trans (hb16.mono HW15.out.2.size)
    clear hb16 HW15 HHD
    go_wp2
    go_ret
    exact ⟨rfl, b16⟩

end Go.Proofs.YtofdlkfihhjlgaaDoor
