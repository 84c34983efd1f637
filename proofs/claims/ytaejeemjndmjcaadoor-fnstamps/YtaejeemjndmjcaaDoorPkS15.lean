/-
  Texts laid together: Hc.
-/
import Derived.Test.YtaejeemjndmjcaaDoorPkS14
/-
  When a head is right: the program's and the specification's answers.
-/
namespace Go.Proofs.YtaejeemjndmjcaaDoor
open Go.RowKit Go.BigFrame Go.Sort
set_option linter.unusedVariables false
set_option linter.unusedSimpArgs false

theorem houseOk_any (x : Int) (w : World) : Calls Tryd.prog 53 #[.int .i64 x] w fun e w' => e = .returned (.bool (decide (0 ≤ x ∧ x < 3))) ∧ w' = w := by
  by_cases h1 : 0 ≤ x
  · by_cases h2 : x < 3
    · rw [decide_eq_true ⟨h1, h2⟩]
      go_enter Tryd.func53, Tryd.ntmps53
      go_wp2
      go_ret
      exact ⟨rfl, rfl⟩
    · rw [decide_eq_false (fun h => h2 h.2)]
      go_enter Tryd.func53, Tryd.ntmps53
      go_wp2
      go_ret
      exact ⟨rfl, rfl⟩
  · rw [decide_eq_false (fun h => h1 h.1)]
    go_enter Tryd.func53, Tryd.ntmps53
    go_wp2
    go_ret
    exact ⟨rfl, rfl⟩
theorem epochOk_any (x : Int) (w : World) : Calls Tryd.prog 48 #[.int .i64 x] w fun e w' => e = .returned (.bool (decide (1 ≤ x ∧ x ≤ 4))) ∧ w' = w := by
  by_cases h1 : 1 ≤ x
  · by_cases h2 : x ≤ 4
    · rw [decide_eq_true ⟨h1, h2⟩]
      go_enter Tryd.func48, Tryd.ntmps48
      go_wp2
      go_ret
      exact ⟨rfl, rfl⟩
    · rw [decide_eq_false (fun h => h2 h.2)]
      go_enter Tryd.func48, Tryd.ntmps48
      go_wp2
      go_ret
      exact ⟨rfl, rfl⟩
  · rw [decide_eq_false (fun h => h1 h.1)]
    go_enter Tryd.func48, Tryd.ntmps48
    go_wp2
    go_ret
    exact ⟨rfl, rfl⟩
theorem prevWide_any (x : Int) (w : World) : Calls Tryd.prog 73 #[.int .i64 x] w fun e w' => e = .returned (.int .i64 ((HV.pw x : Nat) : Int)) ∧ w' = w := by
  unfold HV.pw
  by_cases h1 : x = 1
  · rw [if_pos h1]
    have q : (x == 1) = true := by simp [h1]
    clear h1
    go_enter Tryd.func73, Tryd.ntmps73
    go_wp2
    go_ret
    exact ⟨rfl, rfl⟩
  · rw [if_neg h1]
    have q : (x == 1) = false := by simp [h1]
    clear h1
    go_enter Tryd.func73, Tryd.ntmps73
    go_wp2
    go_ret
    exact ⟨rfl, rfl⟩

set_option maxRecDepth 100000 in
set_option maxHeartbeats 1000000 in
theorem HeadOk_any (x : Hd) (w : World) : Calls Tryd.prog 40 #[.agg #[.int .i64 x.h, .int .i64 x.e, .string x.r, .string x.p]] w fun e w' => e = .returned (.bool (HV.okH x)) ∧ Below w.heap.size w w' := by
  obtain ⟨h, e, r, p⟩ := x
  have HB : Hid (Below w.heap.size w (w.alloc (.cells #[.int .i64 h, .int .i64 e, .string r, .string p] 25))) := (Below.refl _ _).alloc (Nat.le_refl _) _
  obtain ⟨b1, hb1⟩ : ∃ b, decide (0 ≤ h ∧ h < 3) = b := ⟨_, rfl⟩
  obtain ⟨b2, hb2⟩ : ∃ b, decide (1 ≤ e ∧ e ≤ 4) = b := ⟨_, rfl⟩
  obtain ⟨n, hn⟩ : ∃ n, HV.pw e = n := ⟨_, rfl⟩
  have H1 : Hid (∀ W, Calls Tryd.prog 53 #[.int .i64 h] W fun e w' => e = .returned (.bool b1) ∧ Below W.heap.size W w') := fun W => (houseOk_any h W).mono fun e w' ⟨he, hw⟩ => ⟨hb1 ▸ he, hw ▸ Below.refl _ _⟩
  have H2 : Hid (∀ W, Calls Tryd.prog 48 #[.int .i64 e] W fun e w' => e = .returned (.bool b2) ∧ Below W.heap.size W w') := fun W => (epochOk_any e W).mono fun e w' ⟨he, hw⟩ => ⟨hb2 ▸ he, hw ▸ Below.refl _ _⟩
  have H3 : Hid (∀ W, Calls Tryd.prog 73 #[.int .i64 e] W fun e w' => e = .returned (.int .i64 (n : Int)) ∧ Below W.heap.size W w') := fun W => (prevWide_any e W).mono fun e w' ⟨he, hw⟩ => ⟨hn ▸ he, hw ▸ Below.refl _ _⟩
  have HF : Hid (HV.okH ⟨h, e, r, p⟩ = (b1 && b2 && decide ((r.size : Int) = 16) && decide ((p.size : Int) = (n : Int)))) := by
    rw [← hb1, ← hb2, ← hn, HV.okH]
    simp only [← Bool.decide_and]
    congr 1
    exact propext ⟨fun ⟨a, b, c, d⟩ => ⟨⟨⟨a, b⟩, by omega⟩, by omega⟩, fun ⟨⟨⟨a, b⟩, c⟩, d⟩ => ⟨a, b, by omega, by omega⟩⟩
  rw [HF.out]
  clear HF hb1 hb2 hn
  obtain ⟨b3, hb3⟩ : ∃ b, decide ((r.size : Int) = 16) = b := ⟨_, rfl⟩
  obtain ⟨b4, hb4⟩ : ∃ b, decide ((p.size : Int) = (n : Int)) = b := ⟨_, rfl⟩
  have z0 : (w.alloc (.cells #[.int .i64 h, .int .i64 e, .string r, .string p] 25)).cell? ⟨w.heap.size, 0, none⟩ = some (.int .i64 h) := by simp
  have z1 : (w.alloc (.cells #[.int .i64 h, .int .i64 e, .string r, .string p] 25)).cell? ⟨w.heap.size, 1, none⟩ = some (.int .i64 e) := by simp
  have z2 : (w.alloc (.cells #[.int .i64 h, .int .i64 e, .string r, .string p] 25)).cell? ⟨w.heap.size, 2, none⟩ = some (.string r) := by simp
  have z3 : (w.alloc (.cells #[.int .i64 h, .int .i64 e, .string r, .string p] 25)).cell? ⟨w.heap.size, 3, none⟩ = some (.string p) := by simp
  have q3 : ((r.size : Int) == 16) = b3 := by rw [← hb3]; rfl
  have q4 : ((p.size : Int) == (n : Int)) = b4 := by rw [← hb4]; rfl
  rw [hb3, hb4]
  clear hb3 hb4
  have HW : Hid (∀ X, Below (w.alloc (.cells #[.int .i64 h, .int .i64 e, .string r, .string p] 25)).heap.size (w.alloc (.cells #[.int .i64 h, .int .i64 e, .string r, .string p] 25)) X → Below w.heap.size w X) := fun X hX => HB.out.trans (hX.mono HB.out.size)
  cases b1
  · go_enter Tryd.func40, Tryd.ntmps40
    go_wp2
    have kq0 := cell_regrown (w := (w.alloc (.cells #[.int .i64 h, .int .i64 e, .string r, .string p] 25))) z0
    have kq1 := cell_regrown (w := (w.alloc (.cells #[.int .i64 h, .int .i64 e, .string r, .string p] 25))) z1
    have kq2 := cell_regrown (w := (w.alloc (.cells #[.int .i64 h, .int .i64 e, .string r, .string p] 25))) z2
    have kq3 := cell_regrown (w := (w.alloc (.cells #[.int .i64 h, .int .i64 e, .string r, .string p] 25))) z3
    have cq0 := fun d os => Calls.regrown_of (w := (w.alloc (.cells #[.int .i64 h, .int .i64 e, .string r, .string p] 25))) (d := d) (os := os) (H1.out _)
    have cq1 := fun d os => Calls.regrown_of (w := (w.alloc (.cells #[.int .i64 h, .int .i64 e, .string r, .string p] 25))) (d := d) (os := os) (H2.out _)
    have cq2 := fun d os => Calls.regrown_of (w := (w.alloc (.cells #[.int .i64 h, .int .i64 e, .string r, .string p] 25))) (d := d) (os := os) (H3.out _)
    refine wp_region_quiet_below (by kernel_rfl) (by kernel_rfl) ?_
    repeat (go_big_quiet_step (first | (with_reducible exact cq0 _ _) | (with_reducible exact cq1 _ _) | (with_reducible exact cq2 _ _)))
    refine wpQuiet_nil ?_
    rintro _ ⟨⟨dq, osq⟩, rfl⟩
    have hb6 := HW.out _ (below_regrown (w.alloc (.cells #[.int .i64 h, .int .i64 e, .string r, .string p] 25)) dq osq)
    generalize grow (redrawn (w.alloc (.cells #[.int .i64 h, .int .i64 e, .string r, .string p] 25)) dq) osq = w6 at *
    clear kq0 kq1 kq2 kq3 cq0 cq1 cq2
    go_wp2
    go_ret
    exact ⟨rfl, hb6⟩
  · cases b2
    · go_enter Tryd.func40, Tryd.ntmps40
      go_wp2
      have kq0 := cell_regrown (w := (w.alloc (.cells #[.int .i64 h, .int .i64 e, .string r, .string p] 25))) z0
      have kq1 := cell_regrown (w := (w.alloc (.cells #[.int .i64 h, .int .i64 e, .string r, .string p] 25))) z1
      have kq2 := cell_regrown (w := (w.alloc (.cells #[.int .i64 h, .int .i64 e, .string r, .string p] 25))) z2
      have kq3 := cell_regrown (w := (w.alloc (.cells #[.int .i64 h, .int .i64 e, .string r, .string p] 25))) z3
      have cq0 := fun d os => Calls.regrown_of (w := (w.alloc (.cells #[.int .i64 h, .int .i64 e, .string r, .string p] 25))) (d := d) (os := os) (H1.out _)
      have cq1 := fun d os => Calls.regrown_of (w := (w.alloc (.cells #[.int .i64 h, .int .i64 e, .string r, .string p] 25))) (d := d) (os := os) (H2.out _)
      have cq2 := fun d os => Calls.regrown_of (w := (w.alloc (.cells #[.int .i64 h, .int .i64 e, .string r, .string p] 25))) (d := d) (os := os) (H3.out _)
      refine wp_region_quiet_below (by kernel_rfl) (by kernel_rfl) ?_
      repeat (go_big_quiet_step (first | (with_reducible exact cq0 _ _) | (with_reducible exact cq1 _ _) | (with_reducible exact cq2 _ _)))
      refine wpQuiet_nil ?_
      rintro _ ⟨⟨dq, osq⟩, rfl⟩
      have hb6 := HW.out _ (below_regrown (w.alloc (.cells #[.int .i64 h, .int .i64 e, .string r, .string p] 25)) dq osq)
      generalize grow (redrawn (w.alloc (.cells #[.int .i64 h, .int .i64 e, .string r, .string p] 25)) dq) osq = w6 at *
      clear kq0 kq1 kq2 kq3 cq0 cq1 cq2
      go_wp2
      go_ret
      exact ⟨rfl, hb6⟩
    · cases b3
      · go_enter Tryd.func40, Tryd.ntmps40
        go_wp2
        have kq0 := cell_regrown (w := (w.alloc (.cells #[.int .i64 h, .int .i64 e, .string r, .string p] 25))) z0
        have kq1 := cell_regrown (w := (w.alloc (.cells #[.int .i64 h, .int .i64 e, .string r, .string p] 25))) z1
        have kq2 := cell_regrown (w := (w.alloc (.cells #[.int .i64 h, .int .i64 e, .string r, .string p] 25))) z2
        have kq3 := cell_regrown (w := (w.alloc (.cells #[.int .i64 h, .int .i64 e, .string r, .string p] 25))) z3
        have cq0 := fun d os => Calls.regrown_of (w := (w.alloc (.cells #[.int .i64 h, .int .i64 e, .string r, .string p] 25))) (d := d) (os := os) (H1.out _)
        have cq1 := fun d os => Calls.regrown_of (w := (w.alloc (.cells #[.int .i64 h, .int .i64 e, .string r, .string p] 25))) (d := d) (os := os) (H2.out _)
        have cq2 := fun d os => Calls.regrown_of (w := (w.alloc (.cells #[.int .i64 h, .int .i64 e, .string r, .string p] 25))) (d := d) (os := os) (H3.out _)
        refine wp_region_quiet_below (by kernel_rfl) (by kernel_rfl) ?_
        repeat (go_big_quiet_step (first | (with_reducible exact cq0 _ _) | (with_reducible exact cq1 _ _) | (with_reducible exact cq2 _ _)))
        refine wpQuiet_nil ?_
        rintro _ ⟨⟨dq, osq⟩, rfl⟩
        have hb6 := HW.out _ (below_regrown (w.alloc (.cells #[.int .i64 h, .int .i64 e, .string r, .string p] 25)) dq osq)
        generalize grow (redrawn (w.alloc (.cells #[.int .i64 h, .int .i64 e, .string r, .string p] 25)) dq) osq = w6 at *
        clear kq0 kq1 kq2 kq3 cq0 cq1 cq2
        go_wp2
        go_ret
        exact ⟨rfl, hb6⟩
      · cases b4
        · go_enter Tryd.func40, Tryd.ntmps40
          go_wp2
          have kq0 := cell_regrown (w := (w.alloc (.cells #[.int .i64 h, .int .i64 e, .string r, .string p] 25))) z0
          have kq1 := cell_regrown (w := (w.alloc (.cells #[.int .i64 h, .int .i64 e, .string r, .string p] 25))) z1
          have kq2 := cell_regrown (w := (w.alloc (.cells #[.int .i64 h, .int .i64 e, .string r, .string p] 25))) z2
          have kq3 := cell_regrown (w := (w.alloc (.cells #[.int .i64 h, .int .i64 e, .string r, .string p] 25))) z3
          have cq0 := fun d os => Calls.regrown_of (w := (w.alloc (.cells #[.int .i64 h, .int .i64 e, .string r, .string p] 25))) (d := d) (os := os) (H1.out _)
          have cq1 := fun d os => Calls.regrown_of (w := (w.alloc (.cells #[.int .i64 h, .int .i64 e, .string r, .string p] 25))) (d := d) (os := os) (H2.out _)
          have cq2 := fun d os => Calls.regrown_of (w := (w.alloc (.cells #[.int .i64 h, .int .i64 e, .string r, .string p] 25))) (d := d) (os := os) (H3.out _)
          refine wp_region_quiet_below (by kernel_rfl) (by kernel_rfl) ?_
          repeat (go_big_quiet_step (first | (with_reducible exact cq0 _ _) | (with_reducible exact cq1 _ _) | (with_reducible exact cq2 _ _)))
          refine wpQuiet_nil ?_
          rintro _ ⟨⟨dq, osq⟩, rfl⟩
          have hb6 := HW.out _ (below_regrown (w.alloc (.cells #[.int .i64 h, .int .i64 e, .string r, .string p] 25)) dq osq)
          generalize grow (redrawn (w.alloc (.cells #[.int .i64 h, .int .i64 e, .string r, .string p] 25)) dq) osq = w6 at *
          clear kq0 kq1 kq2 kq3 cq0 cq1 cq2
          go_wp2
          go_ret
          exact ⟨rfl, hb6⟩
        · go_enter Tryd.func40, Tryd.ntmps40
          go_wp2
          have kq0 := cell_regrown (w := (w.alloc (.cells #[.int .i64 h, .int .i64 e, .string r, .string p] 25))) z0
          have kq1 := cell_regrown (w := (w.alloc (.cells #[.int .i64 h, .int .i64 e, .string r, .string p] 25))) z1
          have kq2 := cell_regrown (w := (w.alloc (.cells #[.int .i64 h, .int .i64 e, .string r, .string p] 25))) z2
          have kq3 := cell_regrown (w := (w.alloc (.cells #[.int .i64 h, .int .i64 e, .string r, .string p] 25))) z3
          have cq0 := fun d os => Calls.regrown_of (w := (w.alloc (.cells #[.int .i64 h, .int .i64 e, .string r, .string p] 25))) (d := d) (os := os) (H1.out _)
          have cq1 := fun d os => Calls.regrown_of (w := (w.alloc (.cells #[.int .i64 h, .int .i64 e, .string r, .string p] 25))) (d := d) (os := os) (H2.out _)
          have cq2 := fun d os => Calls.regrown_of (w := (w.alloc (.cells #[.int .i64 h, .int .i64 e, .string r, .string p] 25))) (d := d) (os := os) (H3.out _)
          refine wp_region_quiet_below (by kernel_rfl) (by kernel_rfl) ?_
          repeat (go_big_quiet_step (first | (with_reducible exact cq0 _ _) | (with_reducible exact cq1 _ _) | (with_reducible exact cq2 _ _)))
          refine wpQuiet_nil ?_
          rintro _ ⟨⟨dq, osq⟩, rfl⟩
          have hb6 := HW.out _ (below_regrown (w.alloc (.cells #[.int .i64 h, .int .i64 e, .string r, .string p] 25)) dq osq)
          generalize grow (redrawn (w.alloc (.cells #[.int .i64 h, .int .i64 e, .string r, .string p] 25)) dq) osq = w6 at *
          clear kq0 kq1 kq2 kq3 cq0 cq1 cq2
          go_wp2
          go_ret
          exact ⟨rfl, hb6⟩

set_option maxRecDepth 100000 in
set_option maxHeartbeats 1000000 in
theorem sHeadOk_any (x : Hd) (w : World) : Calls Tryd.prog 60 #[.agg #[.int .i64 x.h, .int .i64 x.e, .string x.r, .string x.p]] w fun e w' => e = .returned (.bool (HV.okH x)) ∧ Below w.heap.size w w' := by
  obtain ⟨h, e, r, p⟩ := x
  have HB : Hid (Below w.heap.size w (w.alloc (.cells #[.int .i64 h, .int .i64 e, .string r, .string p] 25))) := (Below.refl _ _).alloc (Nat.le_refl _) _
  obtain ⟨b1, hb1⟩ : ∃ b, decide (0 ≤ h ∧ h ≤ 2) = b := ⟨_, rfl⟩
  obtain ⟨b2, hb2⟩ : ∃ b, decide (1 ≤ e ∧ e ≤ 4) = b := ⟨_, rfl⟩
  obtain ⟨b3, hb3⟩ : ∃ b, decide ((r.size : Int) = 16) = b := ⟨_, rfl⟩
  have H1 : Hid (∀ W, Calls Tryd.prog 75 #[.int .i64 h, .int .i64 0, .int .i64 2] W fun e w' => e = .returned (.bool b1) ∧ w' = W) := fun W => hb1 ▸ l01In_any h 0 2 W
  have H2 : Hid (∀ W, Calls Tryd.prog 75 #[.int .i64 e, .int .i64 1, .int .i64 4] W fun e w' => e = .returned (.bool b2) ∧ w' = W) := fun W => hb2 ▸ l01In_any e 1 4 W
  have HF : Hid (HV.okH ⟨h, e, r, p⟩ = (b1 && b2 && b3 && decide (p.size = HV.pw e))) := by
    rw [← hb1, ← hb2, ← hb3, HV.okH]
    simp only [← Bool.decide_and]
    congr 1
    exact propext ⟨fun ⟨a, b, c, d⟩ => ⟨⟨⟨by omega, b⟩, by omega⟩, by omega⟩, fun ⟨⟨⟨a, b⟩, c⟩, d⟩ => ⟨by omega, b, by omega, by omega⟩⟩
  rw [HF.out]
  clear HF hb1 hb2
  have z0 : (w.alloc (.cells #[.int .i64 h, .int .i64 e, .string r, .string p] 25)).cell? ⟨w.heap.size, 0, none⟩ = some (.int .i64 h) := by simp
  have z1 : (w.alloc (.cells #[.int .i64 h, .int .i64 e, .string r, .string p] 25)).cell? ⟨w.heap.size, 1, none⟩ = some (.int .i64 e) := by simp
  have z2 : (w.alloc (.cells #[.int .i64 h, .int .i64 e, .string r, .string p] 25)).cell? ⟨w.heap.size, 2, none⟩ = some (.string r) := by simp
  have z3 : (w.alloc (.cells #[.int .i64 h, .int .i64 e, .string r, .string p] 25)).cell? ⟨w.heap.size, 3, none⟩ = some (.string p) := by simp
  have q3 : ((r.size : Int) != 16) = !b3 := by rw [← hb3]; rfl
  clear hb3
  have HW : Hid (∀ X, Below (w.alloc (.cells #[.int .i64 h, .int .i64 e, .string r, .string p] 25)).heap.size (w.alloc (.cells #[.int .i64 h, .int .i64 e, .string r, .string p] 25)) X → Below w.heap.size w X) := fun X hX => HB.out.trans (hX.mono HB.out.size)
  clear HW z0 z1 z2 z3
  cases b1
  · go_enter Tryd.func60, Tryd.ntmps60
    go_wp2_with fail
    refine (H1.out _).mono ?_
    rintro e1 w1 ⟨rfl, rfl⟩
    go_wp2
    go_ret
    exact ⟨by simp, HB.out⟩
  · cases b2
    · go_enter Tryd.func60, Tryd.ntmps60
      go_wp2_with fail
      refine (H1.out _).mono ?_
      rintro e1 w1 ⟨rfl, rfl⟩
      go_wp2_with fail
      refine (H2.out _).mono ?_
      rintro e1 w1 ⟨rfl, rfl⟩
      go_wp2
      go_ret
      exact ⟨by simp, HB.out⟩
    · cases b3
      · go_enter Tryd.func60, Tryd.ntmps60
        go_wp2_with fail
        refine (H1.out _).mono ?_
        rintro e1 w1 ⟨rfl, rfl⟩
        go_wp2_with fail
        refine (H2.out _).mono ?_
        rintro e1 w1 ⟨rfl, rfl⟩
        go_wp2
        go_ret
        exact ⟨by simp, HB.out⟩
      · by_cases he : e = 1
        · subst he
          cases hp : p.toList.isEmpty
          · have e1 : decide (p.size = HV.pw 1) = false := by
              refine decide_eq_false fun h => ?_
              have : p.data.toList.length = 0 := by rw [Array.length_toList]; exact h
              rw [ByteArray.toList_eq, List.length_eq_zero_iff.1 this] at hp
              cases hp
            rw [e1]
            clear e1
            go_enter Tryd.func60, Tryd.ntmps60
            go_wp2_with fail
            refine (H1.out _).mono ?_
            rintro e1 w1 ⟨rfl, rfl⟩
            go_wp2_with fail
            refine (H2.out _).mono ?_
            rintro e1 w1 ⟨rfl, rfl⟩
            go_wp2
            go_ret
            exact ⟨rfl, HB.out⟩
          · have e1 : decide (p.size = HV.pw 1) = true := by
              refine decide_eq_true ?_
              rw [ByteArray.toList_eq, List.isEmpty_iff] at hp
              show p.data.size = 0
              rw [← Array.length_toList, hp]
              rfl
            rw [e1]
            clear e1
            go_enter Tryd.func60, Tryd.ntmps60
            go_wp2_with fail
            refine (H1.out _).mono ?_
            rintro e1 w1 ⟨rfl, rfl⟩
            go_wp2_with fail
            refine (H2.out _).mono ?_
            rintro e1 w1 ⟨rfl, rfl⟩
            go_wp2
            go_ret
            exact ⟨rfl, HB.out⟩
        · have q : (e == 1) = false := by simp [he]
          have q5 : ((p.size : Int) == 16) = decide (p.size = HV.pw e) := by
            unfold HV.pw
            rw [if_neg he]
            show decide ((p.size : Int) = 16) = _
            congr 1
            exact propext (by omega)
          generalize decide (p.size = HV.pw e) = b5 at *
          clear he
          go_enter Tryd.func60, Tryd.ntmps60
          go_wp2_with fail
          refine (H1.out _).mono ?_
          rintro e1 w1 ⟨rfl, rfl⟩
          go_wp2_with fail
          refine (H2.out _).mono ?_
          rintro e1 w1 ⟨rfl, rfl⟩
          go_wp2
          go_ret
          exact ⟨by simp, HB.out⟩

end Go.Proofs.YtaejeemjndmjcaaDoor
