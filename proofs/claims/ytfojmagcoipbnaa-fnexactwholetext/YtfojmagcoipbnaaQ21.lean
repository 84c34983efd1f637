/-
  Texts laid together: Hc, He, Sta, Xc.
-/
import Derived.Test.YtfojmagcoipbnaaQ05
import Derived.Test.YtfojmagcoipbnaaQ20
import Derived.Test.YtfojmagcoipbnaaQ13
import Derived.Test.YtfojmagcoipbnaaQ18
/-
  When a head is right: the program's and the specification's answers.
-/
namespace Go.Proofs.Ytfojmagcoipbnaa
open Go.RowKit Go.BigFrame Go.Sort
set_option linter.unusedVariables false
set_option linter.unusedSimpArgs false

theorem houseOk_any (x : Int) (w : World) : Calls Try.prog 105 #[.int .i64 x] w fun e w' => e = .returned (.bool (decide (0 ≤ x ∧ x < 3))) ∧ w' = w := by
  by_cases h1 : 0 ≤ x
  · by_cases h2 : x < 3
    · rw [decide_eq_true ⟨h1, h2⟩]
      go_enter Try.func105, Try.ntmps105
      go_wp2
      go_ret
      exact ⟨rfl, rfl⟩
    · rw [decide_eq_false (fun h => h2 h.2)]
      go_enter Try.func105, Try.ntmps105
      go_wp2
      go_ret
      exact ⟨rfl, rfl⟩
  · rw [decide_eq_false (fun h => h1 h.1)]
    go_enter Try.func105, Try.ntmps105
    go_wp2
    go_ret
    exact ⟨rfl, rfl⟩
theorem epochOk_any (x : Int) (w : World) : Calls Try.prog 140 #[.int .i64 x] w fun e w' => e = .returned (.bool (decide (1 ≤ x ∧ x ≤ 4))) ∧ w' = w := by
  by_cases h1 : 1 ≤ x
  · by_cases h2 : x ≤ 4
    · rw [decide_eq_true ⟨h1, h2⟩]
      go_enter Try.func140, Try.ntmps140
      go_wp2
      go_ret
      exact ⟨rfl, rfl⟩
    · rw [decide_eq_false (fun h => h2 h.2)]
      go_enter Try.func140, Try.ntmps140
      go_wp2
      go_ret
      exact ⟨rfl, rfl⟩
  · rw [decide_eq_false (fun h => h1 h.1)]
    go_enter Try.func140, Try.ntmps140
    go_wp2
    go_ret
    exact ⟨rfl, rfl⟩
theorem prevWide_any (x : Int) (w : World) : Calls Try.prog 141 #[.int .i64 x] w fun e w' => e = .returned (.int .i64 ((HV.pw x : Nat) : Int)) ∧ w' = w := by
  unfold HV.pw
  by_cases h1 : x = 1
  · rw [if_pos h1]
    have q : (x == 1) = true := by simp [h1]
    clear h1
    go_enter Try.func141, Try.ntmps141
    go_wp2
    go_ret
    exact ⟨rfl, rfl⟩
  · rw [if_neg h1]
    have q : (x == 1) = false := by simp [h1]
    clear h1
    go_enter Try.func141, Try.ntmps141
    go_wp2
    go_ret
    exact ⟨rfl, rfl⟩

set_option maxRecDepth 100000 in
set_option maxHeartbeats 1000000 in
theorem HeadOk_any (x : Hd) (w : World) : Calls Try.prog 129 #[.agg #[.int .i64 x.h, .int .i64 x.e, .string x.r, .string x.p]] w fun e w' => e = .returned (.bool (HV.okH x)) ∧ Below w.heap.size w w' := by
  obtain ⟨h, e, r, p⟩ := x
  have HB : Hid (Below w.heap.size w (w.alloc (.cells #[.int .i64 h, .int .i64 e, .string r, .string p] 58))) := (Below.refl _ _).alloc (Nat.le_refl _) _
  obtain ⟨b1, hb1⟩ : ∃ b, decide (0 ≤ h ∧ h < 3) = b := ⟨_, rfl⟩
  obtain ⟨b2, hb2⟩ : ∃ b, decide (1 ≤ e ∧ e ≤ 4) = b := ⟨_, rfl⟩
  obtain ⟨n, hn⟩ : ∃ n, HV.pw e = n := ⟨_, rfl⟩
  have H1 : Hid (∀ W, Calls Try.prog 105 #[.int .i64 h] W fun e w' => e = .returned (.bool b1) ∧ Below W.heap.size W w') := fun W => (houseOk_any h W).mono fun e w' ⟨he, hw⟩ => ⟨hb1 ▸ he, hw ▸ Below.refl _ _⟩
  have H2 : Hid (∀ W, Calls Try.prog 140 #[.int .i64 e] W fun e w' => e = .returned (.bool b2) ∧ Below W.heap.size W w') := fun W => (epochOk_any e W).mono fun e w' ⟨he, hw⟩ => ⟨hb2 ▸ he, hw ▸ Below.refl _ _⟩
  have H3 : Hid (∀ W, Calls Try.prog 141 #[.int .i64 e] W fun e w' => e = .returned (.int .i64 (n : Int)) ∧ Below W.heap.size W w') := fun W => (prevWide_any e W).mono fun e w' ⟨he, hw⟩ => ⟨hn ▸ he, hw ▸ Below.refl _ _⟩
  have HF : Hid (HV.okH ⟨h, e, r, p⟩ = (b1 && b2 && decide ((r.size : Int) = 16) && decide ((p.size : Int) = (n : Int)))) := by
    rw [← hb1, ← hb2, ← hn, HV.okH]
    simp only [← Bool.decide_and]
    congr 1
    exact propext ⟨fun ⟨a, b, c, d⟩ => ⟨⟨⟨a, b⟩, by omega⟩, by omega⟩, fun ⟨⟨⟨a, b⟩, c⟩, d⟩ => ⟨a, b, by omega, by omega⟩⟩
  rw [HF.out]
  clear HF hb1 hb2 hn
  obtain ⟨b3, hb3⟩ : ∃ b, decide ((r.size : Int) = 16) = b := ⟨_, rfl⟩
  obtain ⟨b4, hb4⟩ : ∃ b, decide ((p.size : Int) = (n : Int)) = b := ⟨_, rfl⟩
  have z0 : (w.alloc (.cells #[.int .i64 h, .int .i64 e, .string r, .string p] 58)).cell? ⟨w.heap.size, 0, none⟩ = some (.int .i64 h) := by simp
  have z1 : (w.alloc (.cells #[.int .i64 h, .int .i64 e, .string r, .string p] 58)).cell? ⟨w.heap.size, 1, none⟩ = some (.int .i64 e) := by simp
  have z2 : (w.alloc (.cells #[.int .i64 h, .int .i64 e, .string r, .string p] 58)).cell? ⟨w.heap.size, 2, none⟩ = some (.string r) := by simp
  have z3 : (w.alloc (.cells #[.int .i64 h, .int .i64 e, .string r, .string p] 58)).cell? ⟨w.heap.size, 3, none⟩ = some (.string p) := by simp
  have q3 : ((r.size : Int) == 16) = b3 := by rw [← hb3]; rfl
  have q4 : ((p.size : Int) == (n : Int)) = b4 := by rw [← hb4]; rfl
  rw [hb3, hb4]
  clear hb3 hb4
  have HW : Hid (∀ X, Below (w.alloc (.cells #[.int .i64 h, .int .i64 e, .string r, .string p] 58)).heap.size (w.alloc (.cells #[.int .i64 h, .int .i64 e, .string r, .string p] 58)) X → Below w.heap.size w X) := fun X hX => HB.out.trans (hX.mono HB.out.size)
  cases b1
  · go_enter Try.func129, Try.ntmps129
    go_wp2
    have kq0 := cell_regrown (w := (w.alloc (.cells #[.int .i64 h, .int .i64 e, .string r, .string p] 58))) z0
    have kq1 := cell_regrown (w := (w.alloc (.cells #[.int .i64 h, .int .i64 e, .string r, .string p] 58))) z1
    have kq2 := cell_regrown (w := (w.alloc (.cells #[.int .i64 h, .int .i64 e, .string r, .string p] 58))) z2
    have kq3 := cell_regrown (w := (w.alloc (.cells #[.int .i64 h, .int .i64 e, .string r, .string p] 58))) z3
    have cq0 := fun d os => Calls.regrown_of (w := (w.alloc (.cells #[.int .i64 h, .int .i64 e, .string r, .string p] 58))) (d := d) (os := os) (H1.out _)
    have cq1 := fun d os => Calls.regrown_of (w := (w.alloc (.cells #[.int .i64 h, .int .i64 e, .string r, .string p] 58))) (d := d) (os := os) (H2.out _)
    have cq2 := fun d os => Calls.regrown_of (w := (w.alloc (.cells #[.int .i64 h, .int .i64 e, .string r, .string p] 58))) (d := d) (os := os) (H3.out _)
    refine wp_region_quiet_below (by kernel_rfl) (by kernel_rfl) ?_
    repeat (go_big_quiet_step (first | (with_reducible exact cq0 _ _) | (with_reducible exact cq1 _ _) | (with_reducible exact cq2 _ _)))
    refine wpQuiet_nil ?_
    rintro _ ⟨⟨dq, osq⟩, rfl⟩
    have hb6 := HW.out _ (below_regrown (w.alloc (.cells #[.int .i64 h, .int .i64 e, .string r, .string p] 58)) dq osq)
    generalize grow (redrawn (w.alloc (.cells #[.int .i64 h, .int .i64 e, .string r, .string p] 58)) dq) osq = w6 at *
    clear kq0 kq1 kq2 kq3 cq0 cq1 cq2
    go_wp2
    go_ret
    exact ⟨rfl, hb6⟩
  · cases b2
    · go_enter Try.func129, Try.ntmps129
      go_wp2
      have kq0 := cell_regrown (w := (w.alloc (.cells #[.int .i64 h, .int .i64 e, .string r, .string p] 58))) z0
      have kq1 := cell_regrown (w := (w.alloc (.cells #[.int .i64 h, .int .i64 e, .string r, .string p] 58))) z1
      have kq2 := cell_regrown (w := (w.alloc (.cells #[.int .i64 h, .int .i64 e, .string r, .string p] 58))) z2
      have kq3 := cell_regrown (w := (w.alloc (.cells #[.int .i64 h, .int .i64 e, .string r, .string p] 58))) z3
      have cq0 := fun d os => Calls.regrown_of (w := (w.alloc (.cells #[.int .i64 h, .int .i64 e, .string r, .string p] 58))) (d := d) (os := os) (H1.out _)
      have cq1 := fun d os => Calls.regrown_of (w := (w.alloc (.cells #[.int .i64 h, .int .i64 e, .string r, .string p] 58))) (d := d) (os := os) (H2.out _)
      have cq2 := fun d os => Calls.regrown_of (w := (w.alloc (.cells #[.int .i64 h, .int .i64 e, .string r, .string p] 58))) (d := d) (os := os) (H3.out _)
      refine wp_region_quiet_below (by kernel_rfl) (by kernel_rfl) ?_
      repeat (go_big_quiet_step (first | (with_reducible exact cq0 _ _) | (with_reducible exact cq1 _ _) | (with_reducible exact cq2 _ _)))
      refine wpQuiet_nil ?_
      rintro _ ⟨⟨dq, osq⟩, rfl⟩
      have hb6 := HW.out _ (below_regrown (w.alloc (.cells #[.int .i64 h, .int .i64 e, .string r, .string p] 58)) dq osq)
      generalize grow (redrawn (w.alloc (.cells #[.int .i64 h, .int .i64 e, .string r, .string p] 58)) dq) osq = w6 at *
      clear kq0 kq1 kq2 kq3 cq0 cq1 cq2
      go_wp2
      go_ret
      exact ⟨rfl, hb6⟩
    · cases b3
      · go_enter Try.func129, Try.ntmps129
        go_wp2
        have kq0 := cell_regrown (w := (w.alloc (.cells #[.int .i64 h, .int .i64 e, .string r, .string p] 58))) z0
        have kq1 := cell_regrown (w := (w.alloc (.cells #[.int .i64 h, .int .i64 e, .string r, .string p] 58))) z1
        have kq2 := cell_regrown (w := (w.alloc (.cells #[.int .i64 h, .int .i64 e, .string r, .string p] 58))) z2
        have kq3 := cell_regrown (w := (w.alloc (.cells #[.int .i64 h, .int .i64 e, .string r, .string p] 58))) z3
        have cq0 := fun d os => Calls.regrown_of (w := (w.alloc (.cells #[.int .i64 h, .int .i64 e, .string r, .string p] 58))) (d := d) (os := os) (H1.out _)
        have cq1 := fun d os => Calls.regrown_of (w := (w.alloc (.cells #[.int .i64 h, .int .i64 e, .string r, .string p] 58))) (d := d) (os := os) (H2.out _)
        have cq2 := fun d os => Calls.regrown_of (w := (w.alloc (.cells #[.int .i64 h, .int .i64 e, .string r, .string p] 58))) (d := d) (os := os) (H3.out _)
        refine wp_region_quiet_below (by kernel_rfl) (by kernel_rfl) ?_
        repeat (go_big_quiet_step (first | (with_reducible exact cq0 _ _) | (with_reducible exact cq1 _ _) | (with_reducible exact cq2 _ _)))
        refine wpQuiet_nil ?_
        rintro _ ⟨⟨dq, osq⟩, rfl⟩
        have hb6 := HW.out _ (below_regrown (w.alloc (.cells #[.int .i64 h, .int .i64 e, .string r, .string p] 58)) dq osq)
        generalize grow (redrawn (w.alloc (.cells #[.int .i64 h, .int .i64 e, .string r, .string p] 58)) dq) osq = w6 at *
        clear kq0 kq1 kq2 kq3 cq0 cq1 cq2
        go_wp2
        go_ret
        exact ⟨rfl, hb6⟩
      · cases b4
        · go_enter Try.func129, Try.ntmps129
          go_wp2
          have kq0 := cell_regrown (w := (w.alloc (.cells #[.int .i64 h, .int .i64 e, .string r, .string p] 58))) z0
          have kq1 := cell_regrown (w := (w.alloc (.cells #[.int .i64 h, .int .i64 e, .string r, .string p] 58))) z1
          have kq2 := cell_regrown (w := (w.alloc (.cells #[.int .i64 h, .int .i64 e, .string r, .string p] 58))) z2
          have kq3 := cell_regrown (w := (w.alloc (.cells #[.int .i64 h, .int .i64 e, .string r, .string p] 58))) z3
          have cq0 := fun d os => Calls.regrown_of (w := (w.alloc (.cells #[.int .i64 h, .int .i64 e, .string r, .string p] 58))) (d := d) (os := os) (H1.out _)
          have cq1 := fun d os => Calls.regrown_of (w := (w.alloc (.cells #[.int .i64 h, .int .i64 e, .string r, .string p] 58))) (d := d) (os := os) (H2.out _)
          have cq2 := fun d os => Calls.regrown_of (w := (w.alloc (.cells #[.int .i64 h, .int .i64 e, .string r, .string p] 58))) (d := d) (os := os) (H3.out _)
          refine wp_region_quiet_below (by kernel_rfl) (by kernel_rfl) ?_
          repeat (go_big_quiet_step (first | (with_reducible exact cq0 _ _) | (with_reducible exact cq1 _ _) | (with_reducible exact cq2 _ _)))
          refine wpQuiet_nil ?_
          rintro _ ⟨⟨dq, osq⟩, rfl⟩
          have hb6 := HW.out _ (below_regrown (w.alloc (.cells #[.int .i64 h, .int .i64 e, .string r, .string p] 58)) dq osq)
          generalize grow (redrawn (w.alloc (.cells #[.int .i64 h, .int .i64 e, .string r, .string p] 58)) dq) osq = w6 at *
          clear kq0 kq1 kq2 kq3 cq0 cq1 cq2
          go_wp2
          go_ret
          exact ⟨rfl, hb6⟩
        · go_enter Try.func129, Try.ntmps129
          go_wp2
          have kq0 := cell_regrown (w := (w.alloc (.cells #[.int .i64 h, .int .i64 e, .string r, .string p] 58))) z0
          have kq1 := cell_regrown (w := (w.alloc (.cells #[.int .i64 h, .int .i64 e, .string r, .string p] 58))) z1
          have kq2 := cell_regrown (w := (w.alloc (.cells #[.int .i64 h, .int .i64 e, .string r, .string p] 58))) z2
          have kq3 := cell_regrown (w := (w.alloc (.cells #[.int .i64 h, .int .i64 e, .string r, .string p] 58))) z3
          have cq0 := fun d os => Calls.regrown_of (w := (w.alloc (.cells #[.int .i64 h, .int .i64 e, .string r, .string p] 58))) (d := d) (os := os) (H1.out _)
          have cq1 := fun d os => Calls.regrown_of (w := (w.alloc (.cells #[.int .i64 h, .int .i64 e, .string r, .string p] 58))) (d := d) (os := os) (H2.out _)
          have cq2 := fun d os => Calls.regrown_of (w := (w.alloc (.cells #[.int .i64 h, .int .i64 e, .string r, .string p] 58))) (d := d) (os := os) (H3.out _)
          refine wp_region_quiet_below (by kernel_rfl) (by kernel_rfl) ?_
          repeat (go_big_quiet_step (first | (with_reducible exact cq0 _ _) | (with_reducible exact cq1 _ _) | (with_reducible exact cq2 _ _)))
          refine wpQuiet_nil ?_
          rintro _ ⟨⟨dq, osq⟩, rfl⟩
          have hb6 := HW.out _ (below_regrown (w.alloc (.cells #[.int .i64 h, .int .i64 e, .string r, .string p] 58)) dq osq)
          generalize grow (redrawn (w.alloc (.cells #[.int .i64 h, .int .i64 e, .string r, .string p] 58)) dq) osq = w6 at *
          clear kq0 kq1 kq2 kq3 cq0 cq1 cq2
          go_wp2
          go_ret
          exact ⟨rfl, hb6⟩

set_option maxRecDepth 100000 in
set_option maxHeartbeats 1000000 in
theorem sHeadOk_any (x : Hd) (w : World) : Calls Try.prog 127 #[.agg #[.int .i64 x.h, .int .i64 x.e, .string x.r, .string x.p]] w fun e w' => e = .returned (.bool (HV.okH x)) ∧ Below w.heap.size w w' := by
  obtain ⟨h, e, r, p⟩ := x
  have HB : Hid (Below w.heap.size w (w.alloc (.cells #[.int .i64 h, .int .i64 e, .string r, .string p] 58))) := (Below.refl _ _).alloc (Nat.le_refl _) _
  obtain ⟨b1, hb1⟩ : ∃ b, decide (0 ≤ h ∧ h ≤ 2) = b := ⟨_, rfl⟩
  obtain ⟨b2, hb2⟩ : ∃ b, decide (1 ≤ e ∧ e ≤ 4) = b := ⟨_, rfl⟩
  obtain ⟨b3, hb3⟩ : ∃ b, decide ((r.size : Int) = 16) = b := ⟨_, rfl⟩
  have H1 : Hid (∀ W, Calls Try.prog 55 #[.int .i64 h, .int .i64 0, .int .i64 2] W fun e w' => e = .returned (.bool b1) ∧ w' = W) := fun W => hb1 ▸ l01In_any h 0 2 W
  have H2 : Hid (∀ W, Calls Try.prog 55 #[.int .i64 e, .int .i64 1, .int .i64 4] W fun e w' => e = .returned (.bool b2) ∧ w' = W) := fun W => hb2 ▸ l01In_any e 1 4 W
  have HF : Hid (HV.okH ⟨h, e, r, p⟩ = (b1 && b2 && b3 && decide (p.size = HV.pw e))) := by
    rw [← hb1, ← hb2, ← hb3, HV.okH]
    simp only [← Bool.decide_and]
    congr 1
    exact propext ⟨fun ⟨a, b, c, d⟩ => ⟨⟨⟨by omega, b⟩, by omega⟩, by omega⟩, fun ⟨⟨⟨a, b⟩, c⟩, d⟩ => ⟨by omega, b, by omega, by omega⟩⟩
  rw [HF.out]
  clear HF hb1 hb2
  have z0 : (w.alloc (.cells #[.int .i64 h, .int .i64 e, .string r, .string p] 58)).cell? ⟨w.heap.size, 0, none⟩ = some (.int .i64 h) := by simp
  have z1 : (w.alloc (.cells #[.int .i64 h, .int .i64 e, .string r, .string p] 58)).cell? ⟨w.heap.size, 1, none⟩ = some (.int .i64 e) := by simp
  have z2 : (w.alloc (.cells #[.int .i64 h, .int .i64 e, .string r, .string p] 58)).cell? ⟨w.heap.size, 2, none⟩ = some (.string r) := by simp
  have z3 : (w.alloc (.cells #[.int .i64 h, .int .i64 e, .string r, .string p] 58)).cell? ⟨w.heap.size, 3, none⟩ = some (.string p) := by simp
  have q3 : ((r.size : Int) != 16) = !b3 := by rw [← hb3]; rfl
  clear hb3
  have HW : Hid (∀ X, Below (w.alloc (.cells #[.int .i64 h, .int .i64 e, .string r, .string p] 58)).heap.size (w.alloc (.cells #[.int .i64 h, .int .i64 e, .string r, .string p] 58)) X → Below w.heap.size w X) := fun X hX => HB.out.trans (hX.mono HB.out.size)
  clear HW z0 z1 z2 z3
  cases b1
  · go_enter Try.func127, Try.ntmps127
    go_wp2_with fail
    refine (H1.out _).mono ?_
    rintro e1 w1 ⟨rfl, rfl⟩
    go_wp2
    go_ret
    exact ⟨by simp, HB.out⟩
  · cases b2
    · go_enter Try.func127, Try.ntmps127
      go_wp2_with fail
      refine (H1.out _).mono ?_
      rintro e1 w1 ⟨rfl, rfl⟩
      go_wp2_with fail
      refine (H2.out _).mono ?_
      rintro e1 w1 ⟨rfl, rfl⟩
      go_wp2
      go_ret
      exact ⟨by simp, HB.out⟩
    · cases b3
      · go_enter Try.func127, Try.ntmps127
        go_wp2_with fail
        refine (H1.out _).mono ?_
        rintro e1 w1 ⟨rfl, rfl⟩
        go_wp2_with fail
        refine (H2.out _).mono ?_
        rintro e1 w1 ⟨rfl, rfl⟩
        go_wp2
        go_ret
        exact ⟨by simp, HB.out⟩
      · by_cases he : e = 1
        · subst he
          cases hp : p.toList.isEmpty
          · have e1 : decide (p.size = HV.pw 1) = false := by
              refine decide_eq_false fun h => ?_
              have : p.data.toList.length = 0 := by rw [Array.length_toList]; exact h
              rw [ByteArray.toList_eq, List.length_eq_zero_iff.1 this] at hp
              cases hp
            rw [e1]
            clear e1
            go_enter Try.func127, Try.ntmps127
            go_wp2_with fail
            refine (H1.out _).mono ?_
            rintro e1 w1 ⟨rfl, rfl⟩
            go_wp2_with fail
            refine (H2.out _).mono ?_
            rintro e1 w1 ⟨rfl, rfl⟩
            go_wp2
            go_ret
            exact ⟨rfl, HB.out⟩
          · have e1 : decide (p.size = HV.pw 1) = true := by
              refine decide_eq_true ?_
              rw [ByteArray.toList_eq, List.isEmpty_iff] at hp
              show p.data.size = 0
              rw [← Array.length_toList, hp]
              rfl
            rw [e1]
            clear e1
            go_enter Try.func127, Try.ntmps127
            go_wp2_with fail
            refine (H1.out _).mono ?_
            rintro e1 w1 ⟨rfl, rfl⟩
            go_wp2_with fail
            refine (H2.out _).mono ?_
            rintro e1 w1 ⟨rfl, rfl⟩
            go_wp2
            go_ret
            exact ⟨rfl, HB.out⟩
        · have q : (e == 1) = false := by simp [he]
          have q5 : ((p.size : Int) == 16) = decide (p.size = HV.pw e) := by
            unfold HV.pw
            rw [if_neg he]
            show decide ((p.size : Int) = 16) = _
            congr 1
            exact propext (by omega)
          generalize decide (p.size = HV.pw e) = b5 at *
          clear he
          go_enter Try.func127, Try.ntmps127
          go_wp2_with fail
          refine (H1.out _).mono ?_
          rintro e1 w1 ⟨rfl, rfl⟩
          go_wp2_with fail
          refine (H2.out _).mono ?_
          rintro e1 w1 ⟨rfl, rfl⟩
          go_wp2
          go_ret
          exact ⟨by simp, HB.out⟩

end Go.Proofs.Ytfojmagcoipbnaa
/-
  The text of a head: the program's and the specification's answers.
-/
namespace Go.Proofs.Ytfojmagcoipbnaa
open Go.RowKit Go.BigFrame Go.Sort
set_option linter.unusedVariables false
set_option linter.unusedSimpArgs false

theorem two_str (w : World) (b c : UInt8) : (convert 101 9 (.slice (some ⟨w.heap.size, 0, none⟩) 2 2)).run Try.prog (w.alloc (.cells #[.int .u8 (b.toNat : Int), .int .u8 (c.toNat : Int)] 5)) = .ok (.string ⟨#[b, c]⟩) (w.alloc (.cells #[.int .u8 (b.toNat : Int), .int .u8 (c.toNat : Int)] 5)) := by
  refine run_convert_bytes_back (P := Try.prog) _ 101 9 5 ⟨w.heap.size, 0, none⟩ 2 [b, c] Try.underlying101 Try.underlying5 Try.underlying9 ?_
  intro j hj
  have h0 : j = 0 ∨ j = 1 := by simp at hj; omega
  rcases h0 with rfl | rfl <;> simp [Addr.add]
theorem byte_int (x : Int) (n : Nat) (hx : x = (n : Int)) (h : n ≤ 255) : x = ((UInt8.ofNat n).toNat : Int) := by
  rw [hx]
  simp
  omega
/-- what stands as a text: two bytes, and two texts behind them -/
def b2T (b c : UInt8) (r p : ByteArray) : ByteArray := ⟨#[b, c]⟩ ++ r ++ p
theorem b2T_size (b c : UInt8) (r p : ByteArray) : (b2T b c r p).size = 2 + r.size + p.size := by
  unfold b2T
  rw [ByteArray.size_append, ByteArray.size_append]
  rfl
theorem HV.txtH_b2 (x : Hd) : HV.txtH x = b2T (UInt8.ofNat x.h.toNat) (UInt8.ofNat x.e.toNat) x.r x.p := rfl

set_option maxRecDepth 100000 in
set_option maxHeartbeats 1000000 in
theorem HeadText_any (x : Hd) (w : World) : Calls Try.prog 103 #[.agg #[.int .i64 x.h, .int .i64 x.e, .string x.r, .string x.p]] w fun e w' => e = .returned (.tuple #[.string (HV.textH x), .bool (HV.okH x)]) ∧ Below w.heap.size w w' := by
  have HC : Hid (∀ W, Calls Try.prog 129 #[.agg #[.int .i64 x.h, .int .i64 x.e, .string x.r, .string x.p]] W fun e w' => e = .returned (.bool (HV.okH x)) ∧ Below W.heap.size W w') := fun W => HeadOk_any x W
  unfold HV.textH
  cases hk : HV.okH x
  · rw [hk] at HC
    obtain ⟨h, e, r, p⟩ := x
    clear hk
    have HB : Hid (Below w.heap.size w (w.alloc (.cells #[.int .i64 h, .int .i64 e, .string r, .string p] 58))) := (Below.refl _ _).alloc (Nat.le_refl _) _
    have HS : w.heap.size ≤ (w.alloc (.cells #[.int .i64 h, .int .i64 e, .string r, .string p] 58)).heap.size := HB.out.size
    rw [if_neg (by simp)]
    go_enter Try.func103, Try.ntmps103
    go_wp2_with fail
    refine (HC.out _).mono ?_
    rintro e1 w1 ⟨rfl, hb1⟩
    have HB1 := HB.out.trans (hb1.mono HS)
    clear hb1
    go_wp2
    go_ret2
    exact ⟨rfl, HB1⟩
  · rw [hk] at HC
    rw [if_pos rfl, HV.txtH_b2]
    obtain ⟨⟨h0, h1⟩, ⟨h2, h3⟩, h4, h5⟩ := HV.okH_iff.1 hk
    have h6 : x.p.size ≤ 16 := by rw [h5]; unfold HV.pw; split <;> omega
    clear hk h5
    obtain ⟨h, e, r, p⟩ := x
    simp only at *
    obtain ⟨b, hb⟩ : ∃ b, UInt8.ofNat h.toNat = b := ⟨_, rfl⟩
    obtain ⟨c, hc⟩ : ∃ c, UInt8.ofNat e.toNat = c := ⟨_, rfl⟩
    have kb : h = (b.toNat : Int) := by rw [← hb]; exact byte_int h _ (by omega) (by omega)
    have kc : e = (c.toNat : Int) := by rw [← hc]; exact byte_int e _ (by omega) (by omega)
    rw [hb, hc]
    clear hb hc
    subst kb
    subst kc
    have HB : Hid (Below w.heap.size w (w.alloc (.cells #[.int .i64 (b.toNat : Int), .int .i64 (c.toNat : Int), .string r, .string p] 58))) := (Below.refl _ _).alloc (Nat.le_refl _) _
    have HS : w.heap.size ≤ (w.alloc (.cells #[.int .i64 (b.toNat : Int), .int .i64 (c.toNat : Int), .string r, .string p] 58)).heap.size := HB.out.size
    have HZ : Hid ((w.alloc (.cells #[.int .i64 (b.toNat : Int), .int .i64 (c.toNat : Int), .string r, .string p] 58)).rangeAt w.heap.size 0 [.int .i64 (b.toNat : Int), .int .i64 (c.toNat : Int), .string r, .string p]) := range_new w [.int .i64 (b.toNat : Int), .int .i64 (c.toNat : Int), .string r, .string p] _
    have HL : w.heap.size < (w.alloc (.cells #[.int .i64 (b.toNat : Int), .int .i64 (c.toNat : Int), .string r, .string p] 58)).heap.size := by simp
    go_enter Try.func103, Try.ntmps103
    go_wp2_with fail
    refine (HC.out _).mono ?_
    rintro e1 w1 ⟨rfl, hb1⟩
    have HB1 := HB.out.trans (hb1.mono HS)
    have HR := range_kept HZ.out (hb1.block _ HL)
    have z0 : w1.cell? ⟨w.heap.size, 0, none⟩ = some (.int .i64 (b.toNat : Int)) := HR 0 _ rfl
    have z1 : w1.cell? ⟨w.heap.size, 1, none⟩ = some (.int .i64 (c.toNat : Int)) := HR 1 _ rfl
    have z2 : w1.cell? ⟨w.heap.size, 2, none⟩ = some (.string r) := HR 2 _ rfl
    have z3 : w1.cell? ⟨w.heap.size, 3, none⟩ = some (.string p) := HR 3 _ rfl
    have HLT : w.heap.size < w1.heap.size := lt_of_cell z0
    have z2' : (w1.alloc (.cells #[.int .u8 (b.toNat : Int), .int .u8 (c.toNat : Int)] 5)).cell? ⟨w.heap.size, 2, none⟩ = some (.string r) := (cell_kept (Below.heap_alloc _ _ _ HLT)).trans z2
    have z3' : (w1.alloc (.cells #[.int .u8 (b.toNat : Int), .int .u8 (c.toNat : Int)] 5)).cell? ⟨w.heap.size, 3, none⟩ = some (.string p) := (cell_kept (Below.heap_alloc _ _ _ HLT)).trans z3
    have t2 := two_str w1 b c
    have s2 : (⟨#[b, c]⟩ : ByteArray).size = 2 := rfl
    have HB2 : Hid (Below w.heap.size w (w1.alloc (.cells #[.int .u8 (b.toNat : Int), .int .u8 (c.toNat : Int)] 5))) := HB1.alloc HB1.size _
    have HT : Hid (b2T b c r p = ⟨#[b, c]⟩ ++ r ++ p) := rfl
    clear HR HZ hb1 HC HB
    generalize hS : (⟨#[b, c]⟩ : ByteArray) = S2 at *
    clear hS
    go_wp2
    go_ret2
    rw [HT.out]
    exact ⟨rfl, HB2.out⟩

set_option maxRecDepth 100000 in
set_option maxHeartbeats 1000000 in
theorem sHeadText_any (x : Hd) (w : World) : Calls Try.prog 98 #[.agg #[.int .i64 x.h, .int .i64 x.e, .string x.r, .string x.p]] w fun e w' => e = .returned (.tuple #[.string (HV.textH x), .bool (HV.okH x)]) ∧ Below w.heap.size w w' := by
  have HC : Hid (∀ W, Calls Try.prog 127 #[.agg #[.int .i64 x.h, .int .i64 x.e, .string x.r, .string x.p]] W fun e w' => e = .returned (.bool (HV.okH x)) ∧ Below W.heap.size W w') := fun W => sHeadOk_any x W
  unfold HV.textH
  cases hk : HV.okH x
  · rw [hk] at HC
    obtain ⟨h, e, r, p⟩ := x
    clear hk
    have HB : Hid (Below w.heap.size w (w.alloc (.cells #[.int .i64 h, .int .i64 e, .string r, .string p] 58))) := (Below.refl _ _).alloc (Nat.le_refl _) _
    have HS : w.heap.size ≤ (w.alloc (.cells #[.int .i64 h, .int .i64 e, .string r, .string p] 58)).heap.size := HB.out.size
    rw [if_neg (by simp)]
    go_enter Try.func98, Try.ntmps98
    go_wp2_with fail
    refine (HC.out _).mono ?_
    rintro e1 w1 ⟨rfl, hb1⟩
    have HB1 := HB.out.trans (hb1.mono HS)
    clear hb1
    go_wp2
    go_ret2
    exact ⟨rfl, HB1⟩
  · rw [hk] at HC
    rw [if_pos rfl, HV.txtH_b2]
    obtain ⟨⟨h0, h1⟩, ⟨h2, h3⟩, h4, h5⟩ := HV.okH_iff.1 hk
    have h6 : x.p.size ≤ 16 := by rw [h5]; unfold HV.pw; split <;> omega
    clear hk h5
    obtain ⟨h, e, r, p⟩ := x
    simp only at *
    obtain ⟨b, hb⟩ : ∃ b, UInt8.ofNat h.toNat = b := ⟨_, rfl⟩
    obtain ⟨c, hc⟩ : ∃ c, UInt8.ofNat e.toNat = c := ⟨_, rfl⟩
    have kb : h = (b.toNat : Int) := by rw [← hb]; exact byte_int h _ (by omega) (by omega)
    have kc : e = (c.toNat : Int) := by rw [← hc]; exact byte_int e _ (by omega) (by omega)
    rw [hb, hc]
    clear hb hc
    subst kb
    subst kc
    have HB : Hid (Below w.heap.size w (w.alloc (.cells #[.int .i64 (b.toNat : Int), .int .i64 (c.toNat : Int), .string r, .string p] 58))) := (Below.refl _ _).alloc (Nat.le_refl _) _
    have HS : w.heap.size ≤ (w.alloc (.cells #[.int .i64 (b.toNat : Int), .int .i64 (c.toNat : Int), .string r, .string p] 58)).heap.size := HB.out.size
    have HZ : Hid ((w.alloc (.cells #[.int .i64 (b.toNat : Int), .int .i64 (c.toNat : Int), .string r, .string p] 58)).rangeAt w.heap.size 0 [.int .i64 (b.toNat : Int), .int .i64 (c.toNat : Int), .string r, .string p]) := range_new w [.int .i64 (b.toNat : Int), .int .i64 (c.toNat : Int), .string r, .string p] _
    have HL : w.heap.size < (w.alloc (.cells #[.int .i64 (b.toNat : Int), .int .i64 (c.toNat : Int), .string r, .string p] 58)).heap.size := by simp
    go_enter Try.func98, Try.ntmps98
    go_wp2_with fail
    refine (HC.out _).mono ?_
    rintro e1 w1 ⟨rfl, hb1⟩
    have HB1 := HB.out.trans (hb1.mono HS)
    have HR := range_kept HZ.out (hb1.block _ HL)
    have z0 : w1.cell? ⟨w.heap.size, 0, none⟩ = some (.int .i64 (b.toNat : Int)) := HR 0 _ rfl
    have z1 : w1.cell? ⟨w.heap.size, 1, none⟩ = some (.int .i64 (c.toNat : Int)) := HR 1 _ rfl
    have z2 : w1.cell? ⟨w.heap.size, 2, none⟩ = some (.string r) := HR 2 _ rfl
    have z3 : w1.cell? ⟨w.heap.size, 3, none⟩ = some (.string p) := HR 3 _ rfl
    have HLT : w.heap.size < w1.heap.size := lt_of_cell z0
    have z2' : (w1.alloc (.cells #[.int .u8 (b.toNat : Int), .int .u8 (c.toNat : Int)] 5)).cell? ⟨w.heap.size, 2, none⟩ = some (.string r) := (cell_kept (Below.heap_alloc _ _ _ HLT)).trans z2
    have z3' : (w1.alloc (.cells #[.int .u8 (b.toNat : Int), .int .u8 (c.toNat : Int)] 5)).cell? ⟨w.heap.size, 3, none⟩ = some (.string p) := (cell_kept (Below.heap_alloc _ _ _ HLT)).trans z3
    have t2 := two_str w1 b c
    have s2 : (⟨#[b, c]⟩ : ByteArray).size = 2 := rfl
    have HB2 : Hid (Below w.heap.size w (w1.alloc (.cells #[.int .u8 (b.toNat : Int), .int .u8 (c.toNat : Int)] 5))) := HB1.alloc HB1.size _
    have HT : Hid (b2T b c r p = ⟨#[b, c]⟩ ++ r ++ p) := rfl
    clear HR HZ hb1 HC HB
    generalize hS : (⟨#[b, c]⟩ : ByteArray) = S2 at *
    clear hS
    go_wp2
    go_ret2
    rw [HT.out]
    exact ⟨rfl, HB2.out⟩

end Go.Proofs.Ytfojmagcoipbnaa
/-
  What SigText answers of every signature, the program's and the specification's.
-/
namespace Go.Proofs.Ytfojmagcoipbnaa
open Go.RowKit Go.BigFrame
set_option linter.unusedVariables false

theorem SigText_all (a : Int) (vo vs vd : Value) (g1 o1 g2 o2 g3 o3 : Nat) (o s d : List ByteArray) (w : World) (ho : SS w vo g1 o1 o) (hs : SS w vs g2 o2 s) (hd : SS w vd g3 o3 d) :
    Calls Try.prog 104 #[.agg #[.int .i64 a, vo, vs, vd]] w fun e w' => e = .returned (.tuple #[.string (sigB a o s d), .bool (formB a o s d)]) ∧ Below w.heap.size w w' := by
  unfold sigB
  cases hf : formB a o s d with
  | false => exact SigText_no a vo vs vd g1 o1 g2 o2 g3 o3 o s d w ho hs hd hf
  | true =>
    obtain ⟨hA, _⟩ := formB_parts hf
    obtain ⟨a, rfl⟩ := Int.eq_ofNat_of_zero_le hA.1
    exact SigText_yes a vo vs vd g1 o1 g2 o2 g3 o3 o s d w ho hs hd hf

theorem sSigText_all (a : Int) (vo vs vd : Value) (g1 o1 g2 o2 g3 o3 : Nat) (o s d : List ByteArray) (w : World) (ho : SS w vo g1 o1 o) (hs : SS w vs g2 o2 s) (hd : SS w vd g3 o3 d) :
    Calls Try.prog 61 #[.agg #[.int .i64 a, vo, vs, vd]] w fun e w' => e = .returned (.tuple #[.string (sigB a o s d), .bool (formB a o s d)]) ∧ Below w.heap.size w w' := by
  unfold sigB
  cases hf : formB a o s d with
  | false => exact sSigText_no a vo vs vd g1 o1 g2 o2 g3 o3 o s d w ho hs hd hf
  | true =>
    obtain ⟨hA, _⟩ := formB_parts hf
    obtain ⟨a, rfl⟩ := Int.eq_ofNat_of_zero_le hA.1
    exact sSigText_yes a vo vs vd g1 o1 g2 o2 g3 o3 o s d w ho hs hd hf

theorem sigB_size (a : Int) (o s d : List ByteArray) : (sigB a o s d).size ≤ 321 := by
  unfold sigB
  split
  · rename_i hf
    obtain ⟨_, ⟨h1, l1⟩, ⟨h2, l2⟩, ⟨h3, l3⟩⟩ := formB_parts hf
    rw [kyB_size, kyL_len _ _ (kwB_append (kwB_append h1 h2) h3)]
    simp [l1, l2, l3]
  · exact Nat.zero_le _

end Go.Proofs.Ytfojmagcoipbnaa
/-
  A seal in its box; its text: the program's and the specification's answers.
-/
namespace Go.Proofs.Ytfojmagcoipbnaa
open Go.RowKit Go.BigFrame Go.Sort
set_option linter.unusedVariables false
set_option linter.unusedSimpArgs false

/-- the cells of a seal -/
def scs (x : Hd) (a : Int) (v1 v2 v3 : Value) : List Value := [.int .i64 x.h, .int .i64 x.e, .string x.r, .string x.p, .int .i64 a, v1, v2, v3]
/-- a seal in its box, of the law's type or the program's -/
def SlB (T : Nat) (W : World) (g : Nat) (x : Hd) (a : Int) (v1 v2 v3 : Value) : Prop := W.heap[g]? = some (.cells #[.int .i64 x.h, .int .i64 x.e, .string x.r, .string x.p, .int .i64 a, v1, v2, v3] T (0, 0))
section
variable {T : Nat} {W W' : World} {g : Nat} {x : Hd} {a : Int} {v1 v2 v3 : Value}
theorem SlB.new (T : Nat) (w : World) (x : Hd) (a : Int) (v1 v2 v3 : Value) : SlB T (w.alloc (.cells #[.int .i64 x.h, .int .i64 x.e, .string x.r, .string x.p, .int .i64 a, v1, v2, v3] T)) w.heap.size x a v1 v2 v3 := Go.heap_alloc_new w _
theorem SlB.lt (h : SlB T W g x a v1 v2 v3) : g < W.heap.size := (Array.getElem?_eq_some_iff.1 h).1
theorem SlB.keep (h : SlB T W g x a v1 v2 v3) (he : W'.heap[g]? = W.heap[g]?) : SlB T W' g x a v1 v2 v3 := by
  unfold SlB at *
  rw [he, h]
theorem SlB.later (h : SlB T W g x a v1 v2 v3) (hb : Below W.heap.size W W') : SlB T W' g x a v1 v2 v3 := h.keep (hb.block g h.lt)
theorem SlB.grown {row : Option Nat} (h : SlB T W g x a v1 v2 v3) (hg : W.grownBy W' row) (hne : some g ≠ row) : SlB T W' g x a v1 v2 v3 := h.keep (hg.block g h.lt hne)
theorem SlB.range (h : SlB T W g x a v1 v2 v3) : W.rangeAt g 0 (scs x a v1 v2 v3) := fun j v hv => by
  rw [cell_of_row W g (0 + j) _ _ _ h, Nat.zero_add]
  simpa [scs] using hv
theorem SlB.c0 (h : SlB T W g x a v1 v2 v3) : W.cell? ⟨g, 0, none⟩ = some (.int .i64 x.h) := h.range 0 _ rfl
theorem SlB.c1 (h : SlB T W g x a v1 v2 v3) : W.cell? ⟨g, 1, none⟩ = some (.int .i64 x.e) := h.range 1 _ rfl
theorem SlB.c2 (h : SlB T W g x a v1 v2 v3) : W.cell? ⟨g, 2, none⟩ = some (.string x.r) := h.range 2 _ rfl
theorem SlB.c3 (h : SlB T W g x a v1 v2 v3) : W.cell? ⟨g, 3, none⟩ = some (.string x.p) := h.range 3 _ rfl
theorem SlB.c4 (h : SlB T W g x a v1 v2 v3) : W.cell? ⟨g, 4, none⟩ = some (.int .i64 a) := h.range 4 _ rfl
theorem SlB.c5 (h : SlB T W g x a v1 v2 v3) : W.cell? ⟨g, 5, none⟩ = some v1 := h.range 5 _ rfl
theorem SlB.c6 (h : SlB T W g x a v1 v2 v3) : W.cell? ⟨g, 6, none⟩ = some v2 := h.range 6 _ rfl
theorem SlB.c7 (h : SlB T W g x a v1 v2 v3) : W.cell? ⟨g, 7, none⟩ = some v3 := h.range 7 _ rfl
theorem SlB.fz (h : SlB T W g x a v1 v2 v3) (j : Nat) : W.frozen? ⟨g, j, none⟩ = false := by simp [World.frozen?, show W.heap[g]? = _ from h]
/-- all eight cells -/
theorem SlB.cells (h : SlB T W g x a v1 v2 v3) : W.cell? ⟨g, 0, none⟩ = some (.int .i64 x.h) ∧ W.cell? ⟨g, 1, none⟩ = some (.int .i64 x.e) ∧ W.cell? ⟨g, 2, none⟩ = some (.string x.r) ∧ W.cell? ⟨g, 3, none⟩ = some (.string x.p) ∧ W.cell? ⟨g, 4, none⟩ = some (.int .i64 a) ∧ W.cell? ⟨g, 5, none⟩ = some v1 ∧ W.cell? ⟨g, 6, none⟩ = some v2 ∧ W.cell? ⟨g, 7, none⟩ = some v3 := ⟨h.c0, h.c1, h.c2, h.c3, h.c4, h.c5, h.c6, h.c7⟩
end
theorem sizeSeal : (Try.prog.info? 61).map (·.size) = some 8 := by kernel_rfl
section
variable {fn : Func} {Rp : Ending → World → Prop} {a : Act} {w : World}
/-- a seal answered out of its box -/
theorem ret_sl1 (c g : Nat) (x : Hd) (y : Int) (v1 v2 v3 : Value) (hres : fn.results = #[.cell c 61]) (hd : a.defers = []) (hp : a.tmps.getD c undef = .pointer (some ⟨g, 0, none⟩)) (hA : SlB 61 w g x y v1 v2 v3) (h : Rp (.returned (.agg #[.int .i64 x.h, .int .i64 x.e, .string x.r, .string x.p, .int .i64 y, v1, v2, v3])) w) : bodyPost Try.prog fn Rp .ret a w :=
  ret_rec c g 61 (scs x y v1 v2 v3) _ hres hd hp Try.underlying61 rfl sizeSeal hA.range h
theorem ret_sl2 (c s g : Nat) (x : Hd) (y : Int) (v1 v2 v3 b : Value) (hres : fn.results = #[.cell c 61, .tmp s]) (hd : a.defers = []) (hp : a.tmps.getD c undef = .pointer (some ⟨g, 0, none⟩)) (hb : a.tmps.getD s undef = b) (hA : SlB 61 w g x y v1 v2 v3) (h : Rp (.returned (.tuple #[.agg #[.int .i64 x.h, .int .i64 x.e, .string x.r, .string x.p, .int .i64 y, v1, v2, v3], b])) w) : bodyPost Try.prog fn Rp .ret a w :=
  ret_rec2 c s g 61 (scs x y v1 v2 v3) b _ hres hd hp hb Try.underlying61 rfl sizeSeal hA.range h
end

/-- is it a seal that has a text -/
def slOk (x : Hd) (a : Int) (o s d : List ByteArray) : Bool := HV.okH x && formB a o s d
/-- the text of a seal -/
def slB (x : Hd) (a : Int) (o s d : List ByteArray) : ByteArray := if slOk x a o s d = true then ⟨(M.varL (HV.txtH x).size).toArray⟩ ++ HV.txtH x ++ sigB a o s d else ⟨#[]⟩
theorem txtH_small {x : Hd} (h : HV.okH x = true) : (HV.txtH x).size ≤ 34 := by
  obtain ⟨_, _, hr, hp⟩ := HV.okH_iff.1 h
  rw [HV.txtH_b2, b2T_size, hr, hp]
  unfold HV.pw
  split <;> omega

theorem slB_size (x : Hd) (a : Int) (o s d : List ByteArray) : (slB x a o s d).size ≤ 400 := by
  unfold slB
  split
  · rename_i h
    unfold slOk at h
    rw [Bool.and_eq_true] at h
    have h1 := txtH_small h.1
    have h2 := sigB_size a o s d
    have h3 := varA_size (HV.txtH x).size
    rw [ByteArray.size_append, ByteArray.size_append]
    omega
  · exact Nat.zero_le _
set_option maxRecDepth 100000 in
set_option maxHeartbeats 1000000 in
theorem SealText_any (x : Hd) (a : Int) (vo vs vd : Value) (g1 o1 g2 o2 g3 o3 : Nat) (o s d : List ByteArray) (w : World) (ho : SS w vo g1 o1 o) (hs : SS w vs g2 o2 s) (hd : SS w vd g3 o3 d) :
    Calls Try.prog 64 #[.agg #[.int .i64 x.h, .int .i64 x.e, .string x.r, .string x.p, .int .i64 a, vo, vs, vd]] w fun e w' => e = .returned (.tuple #[.string (slB x a o s d), .bool (slOk x a o s d)]) ∧ Below w.heap.size w w' := by
  have hB : Below w.heap.size w (w.alloc (.cells #[.int .i64 x.h, .int .i64 x.e, .string x.r, .string x.p, .int .i64 a, vo, vs, vd] 61)) := (Below.refl _ _).alloc (Nat.le_refl _) _
  have HX : Hid (Below w.heap.size w (w.alloc (.cells #[.int .i64 x.h, .int .i64 x.e, .string x.r, .string x.p, .int .i64 a, vo, vs, vd] 61)) ∧ SlB 61 (w.alloc (.cells #[.int .i64 x.h, .int .i64 x.e, .string x.r, .string x.p, .int .i64 a, vo, vs, vd] 61)) w.heap.size x a vo vs vd) := ⟨hB, SlB.new _ _ _ _ _ _ _⟩
  have HH : Hid (∀ W, Calls Try.prog 103 #[.agg #[.int .i64 x.h, .int .i64 x.e, .string x.r, .string x.p]] W fun e w' => e = .returned (.tuple #[.string (HV.textH x), .bool (HV.okH x)]) ∧ Below W.heap.size W w') := fun W => HeadText_any x W
  have HS : Hid (∀ W, Below w.heap.size w W → Calls Try.prog 104 #[.agg #[.int .i64 a, vo, vs, vd]] W fun e w' => e = .returned (.tuple #[.string (sigB a o s d), .bool (formB a o s d)]) ∧ Below W.heap.size W w') := fun W hW => SigText_all a vo vs vd g1 o1 g2 o2 g3 o3 o s d W (ho.below hW ho.lt) (hs.below hW hs.lt) (hd.below hW hd.lt)
  have hzs := sigB_size a o s d
  have HTX : Hid (HV.okH x = true → (HV.txtH x).size ≤ 34) := fun h => txtH_small h
  unfold slB slOk
  unfold HV.textH at HH
  obtain ⟨ao, co, rfl, lo, x1⟩ := ho
  obtain ⟨as2, cs2, rfl, ls, x2⟩ := hs
  obtain ⟨ad, cd, rfl, ld, x3⟩ := hd
  clear x1 x2 x3 hB
  generalize HV.txtH x = X at *
  generalize HV.okH x = b1 at *
  generalize sigB a o s d = Y at *
  generalize formB a o s d = b2 at *
  generalize o.length = n1 at *
  generalize s.length = n2 at *
  generalize d.length = n3 at *
  obtain ⟨h, e, r, p⟩ := x
  simp only at HX HH ⊢
  cases b1
  · rw [if_neg (by simp)] at HH
    rw [Bool.false_and, if_neg (by simp)]
    go_enter Try.func64, Try.ntmps64
    go_wp2_with fail
    refine (HH.out _).mono ?_
    rintro e1 w1 ⟨rfl, hb1⟩
    have HX1 : Hid (Below w.heap.size w w1 ∧ SlB 61 w1 w.heap.size ⟨h, e, r, p⟩ a (.slice ao n1 co) (.slice as2 n2 cs2) (.slice ad n3 cd)) := ⟨HX.out.1.trans (hb1.mono HX.out.1.size), HX.out.2.later hb1⟩
    obtain ⟨z0, z1, z2, z3, z4, z5, z6, z7⟩ := HX1.out.2.cells
    clear hb1 HX HH z0 z1 z2 z3 HTX
    go_wp2_with fail
    refine (HS.out _ HX1.out.1).mono ?_
    rintro e2 w2 ⟨rfl, hb2⟩
    have HB2 : Hid (Below w.heap.size w w2) := HX1.out.1.trans (hb2.mono HX1.out.1.size)
    clear z4 z5 z6 z7 HX1 HS hb2
    go_wp2
    go_ret2
    exact ⟨rfl, HB2.out⟩
  · rw [if_pos rfl] at HH
    have hxz := HTX.out rfl
    rw [Bool.true_and]
    clear HTX
    cases b2
    · rw [if_neg (by simp)]
      go_enter Try.func64, Try.ntmps64
      go_wp2_with fail
      refine (HH.out _).mono ?_
      rintro e1 w1 ⟨rfl, hb1⟩
      have HX1 : Hid (Below w.heap.size w w1 ∧ SlB 61 w1 w.heap.size ⟨h, e, r, p⟩ a (.slice ao n1 co) (.slice as2 n2 cs2) (.slice ad n3 cd)) := ⟨HX.out.1.trans (hb1.mono HX.out.1.size), HX.out.2.later hb1⟩
      obtain ⟨z0, z1, z2, z3, z4, z5, z6, z7⟩ := HX1.out.2.cells
      clear hb1 HX HH z0 z1 z2 z3
      go_wp2_with fail
      refine (HS.out _ HX1.out.1).mono ?_
      rintro e2 w2 ⟨rfl, hb2⟩
      have HB2 : Hid (Below w.heap.size w w2) := HX1.out.1.trans (hb2.mono HX1.out.1.size)
      clear z4 z5 z6 z7 HX1 HS hb2
      go_wp2
      go_ret2
      exact ⟨rfl, HB2.out⟩
    · rw [if_pos rfl]
      have HSH : Hid (∀ W, Calls Try.prog 66 #[.string X] W fun e w' => e = .returned (.tuple #[.string (⟨(M.varL X.size).toArray⟩ ++ X), .bool true]) ∧ Below W.heap.size W w') := fun W => Short_yes X W (by omega)
      have hvz := varA_size X.size
      have hxy : (⟨(M.varL X.size).toArray⟩ ++ X : ByteArray).size ≤ 44 := by rw [ByteArray.size_append]; omega
      generalize (⟨(M.varL X.size).toArray⟩ ++ X : ByteArray) = Z at *
      clear hvz
      go_enter Try.func64, Try.ntmps64
      go_wp2_with fail
      refine (HH.out _).mono ?_
      rintro e1 w1 ⟨rfl, hb1⟩
      have HX1 : Hid (Below w.heap.size w w1 ∧ SlB 61 w1 w.heap.size ⟨h, e, r, p⟩ a (.slice ao n1 co) (.slice as2 n2 cs2) (.slice ad n3 cd)) := ⟨HX.out.1.trans (hb1.mono HX.out.1.size), HX.out.2.later hb1⟩
      obtain ⟨z0, z1, z2, z3, z4, z5, z6, z7⟩ := HX1.out.2.cells
      clear hb1 HX HH z0 z1 z2 z3
      go_wp2_with fail
      refine (HS.out _ HX1.out.1).mono ?_
      rintro e2 w2 ⟨rfl, hb2⟩
      have HB2 : Hid (Below w.heap.size w w2) := HX1.out.1.trans (hb2.mono HX1.out.1.size)
      clear z4 z5 z6 z7 HX1 HS hb2
      go_wp2_with fail
      refine (HSH.out _).mono ?_
      rintro e3 w3 ⟨rfl, hb3⟩
      have HB3 : Hid (Below w.heap.size w w3) := HB2.out.trans (hb3.mono HB2.out.size)
      clear HB2 HSH hb3
      go_wp2
      go_ret2
      exact ⟨rfl, HB3.out⟩

set_option maxRecDepth 100000 in
set_option maxHeartbeats 1000000 in
theorem sSealText_any (x : Hd) (a : Int) (vo vs vd : Value) (g1 o1 g2 o2 g3 o3 : Nat) (o s d : List ByteArray) (w : World) (ho : SS w vo g1 o1 o) (hs : SS w vs g2 o2 s) (hd : SS w vd g3 o3 d) :
    Calls Try.prog 60 #[.agg #[.int .i64 x.h, .int .i64 x.e, .string x.r, .string x.p, .int .i64 a, vo, vs, vd]] w fun e w' => e = .returned (.tuple #[.string (slB x a o s d), .bool (slOk x a o s d)]) ∧ Below w.heap.size w w' := by
  have hB : Below w.heap.size w (w.alloc (.cells #[.int .i64 x.h, .int .i64 x.e, .string x.r, .string x.p, .int .i64 a, vo, vs, vd] 61)) := (Below.refl _ _).alloc (Nat.le_refl _) _
  have HX : Hid (Below w.heap.size w (w.alloc (.cells #[.int .i64 x.h, .int .i64 x.e, .string x.r, .string x.p, .int .i64 a, vo, vs, vd] 61)) ∧ SlB 61 (w.alloc (.cells #[.int .i64 x.h, .int .i64 x.e, .string x.r, .string x.p, .int .i64 a, vo, vs, vd] 61)) w.heap.size x a vo vs vd) := ⟨hB, SlB.new _ _ _ _ _ _ _⟩
  have HH : Hid (∀ W, Calls Try.prog 98 #[.agg #[.int .i64 x.h, .int .i64 x.e, .string x.r, .string x.p]] W fun e w' => e = .returned (.tuple #[.string (HV.textH x), .bool (HV.okH x)]) ∧ Below W.heap.size W w') := fun W => sHeadText_any x W
  have HS : Hid (∀ W, Below w.heap.size w W → Calls Try.prog 61 #[.agg #[.int .i64 a, vo, vs, vd]] W fun e w' => e = .returned (.tuple #[.string (sigB a o s d), .bool (formB a o s d)]) ∧ Below W.heap.size W w') := fun W hW => sSigText_all a vo vs vd g1 o1 g2 o2 g3 o3 o s d W (ho.below hW ho.lt) (hs.below hW hs.lt) (hd.below hW hd.lt)
  have hzs := sigB_size a o s d
  have HTX : Hid (HV.okH x = true → (HV.txtH x).size ≤ 34) := fun h => txtH_small h
  unfold slB slOk
  unfold HV.textH at HH
  obtain ⟨ao, co, rfl, lo, x1⟩ := ho
  obtain ⟨as2, cs2, rfl, ls, x2⟩ := hs
  obtain ⟨ad, cd, rfl, ld, x3⟩ := hd
  clear x1 x2 x3 hB
  generalize HV.txtH x = X at *
  generalize HV.okH x = b1 at *
  generalize sigB a o s d = Y at *
  generalize formB a o s d = b2 at *
  generalize o.length = n1 at *
  generalize s.length = n2 at *
  generalize d.length = n3 at *
  obtain ⟨h, e, r, p⟩ := x
  simp only at HX HH ⊢
  cases b1
  · rw [if_neg (by simp)] at HH
    rw [Bool.false_and, if_neg (by simp)]
    go_enter Try.func60, Try.ntmps60
    go_wp2_with fail
    refine (HH.out _).mono ?_
    rintro e1 w1 ⟨rfl, hb1⟩
    have HX1 : Hid (Below w.heap.size w w1 ∧ SlB 61 w1 w.heap.size ⟨h, e, r, p⟩ a (.slice ao n1 co) (.slice as2 n2 cs2) (.slice ad n3 cd)) := ⟨HX.out.1.trans (hb1.mono HX.out.1.size), HX.out.2.later hb1⟩
    obtain ⟨z0, z1, z2, z3, z4, z5, z6, z7⟩ := HX1.out.2.cells
    clear hb1 HX HH z0 z1 z2 z3 HTX
    go_wp2_with fail
    refine (HS.out _ HX1.out.1).mono ?_
    rintro e2 w2 ⟨rfl, hb2⟩
    have HB2 : Hid (Below w.heap.size w w2) := HX1.out.1.trans (hb2.mono HX1.out.1.size)
    clear z4 z5 z6 z7 HX1 HS hb2
    go_wp2
    go_ret2
    exact ⟨rfl, HB2.out⟩
  · rw [if_pos rfl] at HH
    have hxz := HTX.out rfl
    rw [Bool.true_and]
    clear HTX
    cases b2
    · rw [if_neg (by simp)]
      go_enter Try.func60, Try.ntmps60
      go_wp2_with fail
      refine (HH.out _).mono ?_
      rintro e1 w1 ⟨rfl, hb1⟩
      have HX1 : Hid (Below w.heap.size w w1 ∧ SlB 61 w1 w.heap.size ⟨h, e, r, p⟩ a (.slice ao n1 co) (.slice as2 n2 cs2) (.slice ad n3 cd)) := ⟨HX.out.1.trans (hb1.mono HX.out.1.size), HX.out.2.later hb1⟩
      obtain ⟨z0, z1, z2, z3, z4, z5, z6, z7⟩ := HX1.out.2.cells
      clear hb1 HX HH z0 z1 z2 z3
      go_wp2_with fail
      refine (HS.out _ HX1.out.1).mono ?_
      rintro e2 w2 ⟨rfl, hb2⟩
      have HB2 : Hid (Below w.heap.size w w2) := HX1.out.1.trans (hb2.mono HX1.out.1.size)
      clear z4 z5 z6 z7 HX1 HS hb2
      go_wp2
      go_ret2
      exact ⟨rfl, HB2.out⟩
    · rw [if_pos rfl]
      have HSH : Hid (∀ W, Calls Try.prog 35 #[.int .i64 X.size] W fun e w' => e = .returned (.string ⟨(M.varL X.size).toArray⟩) ∧ Below W.heap.size W w') := fun W => l01Var_any X.size W (by omega)
      have hvz := varA_size X.size
      have HZ : Hid ((⟨(M.varL X.size).toArray⟩ ++ X : ByteArray).size ≤ 44) := by show ByteArray.size _ ≤ 44; rw [ByteArray.size_append]; omega
      generalize (⟨(M.varL X.size).toArray⟩ : ByteArray) = Z at *
      go_enter Try.func60, Try.ntmps60
      go_wp2_with fail
      refine (HH.out _).mono ?_
      rintro e1 w1 ⟨rfl, hb1⟩
      have HX1 : Hid (Below w.heap.size w w1 ∧ SlB 61 w1 w.heap.size ⟨h, e, r, p⟩ a (.slice ao n1 co) (.slice as2 n2 cs2) (.slice ad n3 cd)) := ⟨HX.out.1.trans (hb1.mono HX.out.1.size), HX.out.2.later hb1⟩
      obtain ⟨z0, z1, z2, z3, z4, z5, z6, z7⟩ := HX1.out.2.cells
      clear hb1 HX HH z0 z1 z2 z3
      go_wp2_with fail
      refine (HS.out _ HX1.out.1).mono ?_
      rintro e2 w2 ⟨rfl, hb2⟩
      have HB2 : Hid (Below w.heap.size w w2) := HX1.out.1.trans (hb2.mono HX1.out.1.size)
      clear z4 z5 z6 z7 HX1 HS hb2
      go_wp2_with fail
      refine (HSH.out _).mono ?_
      rintro e3 w3 ⟨rfl, hb3⟩
      have HB3 : Hid (Below w.heap.size w w3) := HB2.out.trans (hb3.mono HB2.out.size)
      clear HB2 HSH hb3
      go_wp2
      go_ret2
      exact ⟨rfl, HB3.out⟩

end Go.Proofs.Ytfojmagcoipbnaa
