/-
  When a letter is right: the program's and the specification's answers.
-/
import Derived.Test.YtodibhiinfbhiaaDoorVa
import Derived.Test.YtodibhiinfbhiaaDoorReads
import Derived.Lib.QuietBelow
namespace Go.Proofs.YtodibhiinfbhiaaDoor
open Go.RowKit Go.BigFrame Go.Sort
set_option linter.unusedVariables false
set_option linter.unusedSimpArgs false

namespace VV
/-- who may write what to whom -/
def way (k f t : Int) : Bool := decide (((k = 1 ∨ k = 3 ∨ k = 4) ∧ f = 0 ∧ 1 ≤ t ∧ t ≤ 4) ∨ ((k = 2 ∨ k = 5) ∧ t = 0 ∧ 1 ≤ f ∧ f ≤ 4))
def rw (k : Int) : Nat := if k = 2 then 16 else 0
def ok (x : Ltr) : Bool := way x.k x.f x.t && decide (1 ≤ x.e ∧ x.e ≤ 4) && decide (1 ≤ x.y ∧ x.y ≤ 1000) && decide (x.r.size = rw x.k)
end VV
theorem VV.full (s : ByteArray) (h : s.size ≠ 0) : s.toList.isEmpty = false := by
  rw [ByteArray.toList_eq, List.isEmpty_eq_false_iff]
  intro h0
  have : s.data.toList.length = 0 := by rw [h0]; rfl
  have h1 : s.data.toList.length = s.size := Array.length_toList
  omega
theorem VV.empty (s : ByteArray) (h : s.size = 0) : s.toList.isEmpty = true := by
  rw [ByteArray.toList_eq, List.isEmpty_iff]
  have h1 : s.data.toList.length = s.size := Array.length_toList
  exact List.length_eq_zero_iff.1 (by omega)
/-- in cells of any box -/
def RKc (W : World) (g : Nat) (x : Ltr) : Prop := W.rangeAt g 0 (kcs x) ∧ g < W.heap.size
theorem RKc.c0 {W : World} {g : Nat} {x : Ltr} (h : RKc W g x) : W.cell? ⟨g, 0, none⟩ = some (.int .i64 x.k) := h.1 0 _ rfl
theorem RKc.c1 {W : World} {g : Nat} {x : Ltr} (h : RKc W g x) : W.cell? ⟨g, 1, none⟩ = some (.int .i64 x.f) := h.1 1 _ rfl
theorem RKc.c2 {W : World} {g : Nat} {x : Ltr} (h : RKc W g x) : W.cell? ⟨g, 2, none⟩ = some (.int .i64 x.t) := h.1 2 _ rfl
theorem RKc.c3 {W : World} {g : Nat} {x : Ltr} (h : RKc W g x) : W.cell? ⟨g, 3, none⟩ = some (.int .i64 x.e) := h.1 3 _ rfl
theorem RKc.c4 {W : World} {g : Nat} {x : Ltr} (h : RKc W g x) : W.cell? ⟨g, 4, none⟩ = some (.int .i64 x.y) := h.1 4 _ rfl
theorem RKc.c5 {W : World} {g : Nat} {x : Ltr} (h : RKc W g x) : W.cell? ⟨g, 5, none⟩ = some (.string x.r) := h.1 5 _ rfl

theorem isShardNode_any (x : Int) (w : World) : Calls Tryd.prog 47 #[.int .i64 x] w fun e w' => e = .returned (.bool (decide (1 ≤ x ∧ x ≤ 4))) ∧ w' = w := by
  by_cases h1 : 0 < x
  · by_cases h2 : x ≤ 4
    · rw [decide_eq_true ⟨by omega, h2⟩]
      go_enter Tryd.func47, Tryd.ntmps47
      go_wp2
      go_ret
      exact ⟨rfl, rfl⟩
    · rw [decide_eq_false (fun h => h2 h.2)]
      go_enter Tryd.func47, Tryd.ntmps47
      go_wp2
      go_ret
      exact ⟨rfl, rfl⟩
  · rw [decide_eq_false (fun h => by omega)]
    go_enter Tryd.func47, Tryd.ntmps47
    go_wp2
    go_ret
    exact ⟨rfl, rfl⟩
theorem tryOk_any (x : Int) (w : World) : Calls Tryd.prog 29 #[.int .i64 x] w fun e w' => e = .returned (.bool (decide (1 ≤ x ∧ x ≤ 1000))) ∧ w' = w := by
  by_cases h1 : 1 ≤ x
  · by_cases h2 : x ≤ 1000
    · rw [decide_eq_true ⟨h1, h2⟩]
      go_enter Tryd.func29, Tryd.ntmps29
      go_wp2
      go_ret
      exact ⟨rfl, rfl⟩
    · rw [decide_eq_false (fun h => h2 h.2)]
      go_enter Tryd.func29, Tryd.ntmps29
      go_wp2
      go_ret
      exact ⟨rfl, rfl⟩
  · rw [decide_eq_false (fun h => h1 h.1)]
    go_enter Tryd.func29, Tryd.ntmps29
    go_wp2
    go_ret
    exact ⟨rfl, rfl⟩
theorem epochOkV_any (x : Int) (w : World) : Calls Tryd.prog 28 #[.int .i64 x] w fun e w' => e = .returned (.bool (decide (1 ≤ x ∧ x ≤ 4))) ∧ w' = w := by
  by_cases h1 : 1 ≤ x
  · by_cases h2 : x ≤ 4
    · rw [decide_eq_true ⟨h1, h2⟩]
      go_enter Tryd.func28, Tryd.ntmps28
      go_wp2
      go_ret
      exact ⟨rfl, rfl⟩
    · rw [decide_eq_false (fun h => h2 h.2)]
      go_enter Tryd.func28, Tryd.ntmps28
      go_wp2
      go_ret
      exact ⟨rfl, rfl⟩
  · rw [decide_eq_false (fun h => h1 h.1)]
    go_enter Tryd.func28, Tryd.ntmps28
    go_wp2
    go_ret
    exact ⟨rfl, rfl⟩

set_option maxRecDepth 100000 in
set_option maxHeartbeats 1000000 in
theorem rootWide_any (x : Ltr) (w : World) : Calls Tryd.prog 30 #[.agg #[.int .i64 x.k, .int .i64 x.f, .int .i64 x.t, .int .i64 x.e, .int .i64 x.y, .string x.r]] w fun e w' => e = .returned (.int .i64 ((VV.rw x.k : Nat) : Int)) ∧ Below w.heap.size w w' := by
  obtain ⟨k, f, t, e, y, r⟩ := x
  have HB : Hid (Below w.heap.size w (w.alloc (.cells #[.int .i64 k, .int .i64 f, .int .i64 t, .int .i64 e, .int .i64 y, .string r] 25))) := (Below.refl _ _).alloc (Nat.le_refl _) _
  unfold VV.rw
  by_cases h1 : k = 2
  · rw [if_pos h1]
    subst h1
    go_enter Tryd.func30, Tryd.ntmps30
    go_wp2
    go_ret
    exact ⟨rfl, HB.out⟩
  · rw [if_neg h1]
    have q : (k == 2) = false := by simp [h1]
    clear h1
    go_enter Tryd.func30, Tryd.ntmps30
    go_wp2
    go_ret
    exact ⟨rfl, HB.out⟩

set_option maxRecDepth 100000 in
set_option maxHeartbeats 1000000 in
theorem wayOk_any (x : Ltr) (w : World) : Calls Tryd.prog 27 #[.agg #[.int .i64 x.k, .int .i64 x.f, .int .i64 x.t, .int .i64 x.e, .int .i64 x.y, .string x.r]] w fun e w' => e = .returned (.bool (VV.way x.k x.f x.t)) ∧ Below w.heap.size w w' := by
  obtain ⟨k, f, t, e, y, r⟩ := x
  have HB : Hid (Below w.heap.size w (w.alloc (.cells #[.int .i64 k, .int .i64 f, .int .i64 t, .int .i64 e, .int .i64 y, .string r] 25))) := (Below.refl _ _).alloc (Nat.le_refl _) _
  have H1 : Hid (∀ W, Calls Tryd.prog 47 #[.int .i64 t] W fun e w' => e = .returned (.bool (decide (1 ≤ t ∧ t ≤ 4))) ∧ w' = W) := fun W => isShardNode_any t W
  have H2 : Hid (∀ W, Calls Tryd.prog 47 #[.int .i64 f] W fun e w' => e = .returned (.bool (decide (1 ≤ f ∧ f ≤ 4))) ∧ w' = W) := fun W => isShardNode_any f W
  have hd : ((k = 1 ∨ k = 3 ∨ k = 4) ∨ (k = 2 ∨ k = 5)) ∨ ¬ (k = 1 ∨ k = 3 ∨ k = 4 ∨ k = 2 ∨ k = 5) := by omega
  rcases hd with (hd | hd) | hd
  · by_cases hf : f = 0
    · have hw : VV.way k f t = decide (1 ≤ t ∧ t ≤ 4) := by
        unfold VV.way
        by_cases h : 1 ≤ t ∧ t ≤ 4
        · rw [decide_eq_true h, decide_eq_true (.inl ⟨hd, hf, h⟩)]
        · rw [decide_eq_false h, decide_eq_false (by omega)]
      rw [hw]
      clear hw H2
      subst hf
      generalize decide (1 ≤ t ∧ t ≤ 4) = b at *
      rcases hd with rfl | rfl | rfl
      all_goals
        go_enter Tryd.func27, Tryd.ntmps27
        go_wp2_with fail
        refine (H1.out _).mono ?_
        rintro e1 w1 ⟨rfl, rfl⟩
        go_wp2
        go_ret
        exact ⟨rfl, HB.out⟩
    · have hw : VV.way k f t = false := by
        unfold VV.way
        exact decide_eq_false (by omega)
      rw [hw]
      have q : (f == 0) = false := by simp [hf]
      clear hw H1 H2 hf
      rcases hd with rfl | rfl | rfl
      all_goals
        go_enter Tryd.func27, Tryd.ntmps27
        go_wp2
        go_ret
        exact ⟨rfl, HB.out⟩
  · have hw : VV.way k f t = (decide (1 ≤ f ∧ f ≤ 4) && decide (t = 0)) := by
      unfold VV.way
      rw [← Bool.decide_and]
      congr 1
      apply propext
      omega
    rw [hw]
    clear hw H1
    have q : (t == 0) = decide (t = 0) := rfl
    generalize decide (1 ≤ f ∧ f ≤ 4) = b at *
    generalize decide (t = 0) = c at *
    cases b
    all_goals
      rcases hd with rfl | rfl
      all_goals
        go_enter Tryd.func27, Tryd.ntmps27
        go_wp2_with fail
        refine (H2.out _).mono ?_
        rintro e1 w1 ⟨rfl, rfl⟩
        go_wp2
        go_ret
        exact ⟨by simp, HB.out⟩
  · have hw : VV.way k f t = false := by
      unfold VV.way
      exact decide_eq_false (by omega)
    rw [hw]
    have q1 : (k == 1) = false := by simp; omega
    have q2 : (k == 2) = false := by simp; omega
    have q3 : (k == 3) = false := by simp; omega
    have q4 : (k == 4) = false := by simp; omega
    have q5 : (k == 5) = false := by simp; omega
    clear hw H1 H2 hd
    go_enter Tryd.func27, Tryd.ntmps27
    go_wp2
    go_ret
    exact ⟨rfl, HB.out⟩

set_option maxRecDepth 100000 in
set_option maxHeartbeats 1000000 in
theorem LetterOk_any (x : Ltr) (w : World) (hr : x.r.size ≤ 1048576) : Calls Tryd.prog 11 #[.agg #[.int .i64 x.k, .int .i64 x.f, .int .i64 x.t, .int .i64 x.e, .int .i64 x.y, .string x.r]] w fun e w' => e = .returned (.bool (VV.ok x)) ∧ Below w.heap.size w w' := by
  have HWY : Hid (∀ W, Calls Tryd.prog 27 #[.agg #[.int .i64 x.k, .int .i64 x.f, .int .i64 x.t, .int .i64 x.e, .int .i64 x.y, .string x.r]] W fun e w' => e = .returned (.bool (VV.way x.k x.f x.t)) ∧ Below W.heap.size W w') := fun W => wayOk_any x W
  have HRW : Hid (∀ W, Calls Tryd.prog 30 #[.agg #[.int .i64 x.k, .int .i64 x.f, .int .i64 x.t, .int .i64 x.e, .int .i64 x.y, .string x.r]] W fun e w' => e = .returned (.int .i64 ((VV.rw x.k : Nat) : Int)) ∧ Below W.heap.size W w') := fun W => rootWide_any x W
  have H1 : Hid (∀ W, Calls Tryd.prog 28 #[.int .i64 x.e] W fun e w' => e = .returned (.bool (decide (1 ≤ x.e ∧ x.e ≤ 4))) ∧ Below W.heap.size W w') := fun W => (epochOkV_any x.e W).mono fun e w' ⟨he, hw⟩ => ⟨he, hw ▸ Below.refl _ _⟩
  have H2 : Hid (∀ W, Calls Tryd.prog 29 #[.int .i64 x.y] W fun e w' => e = .returned (.bool (decide (1 ≤ x.y ∧ x.y ≤ 1000))) ∧ Below W.heap.size W w') := fun W => (tryOk_any x.y W).mono fun e w' ⟨he, hw⟩ => ⟨he, hw ▸ Below.refl _ _⟩
  unfold VV.ok
  obtain ⟨b4, hb4⟩ : ∃ b, decide (x.r.size = VV.rw x.k) = b := ⟨_, rfl⟩
  have q4 : ((x.r.size : Int) == ((VV.rw x.k : Nat) : Int)) = b4 := by
    rw [← hb4]
    by_cases h : x.r.size = VV.rw x.k
    · rw [h]; simp
    · rw [decide_eq_false h]; simp; omega
  rw [hb4]
  clear hb4
  generalize VV.rw x.k = n at *
  generalize VV.way x.k x.f x.t = b1 at *
  generalize decide (1 ≤ x.e ∧ x.e ≤ 4) = b2 at *
  generalize decide (1 ≤ x.y ∧ x.y ≤ 1000) = b3 at *
  obtain ⟨k, f, t, e, y, r⟩ := x
  simp only at *
  have HR : Hid (RKc (w.alloc (.cells #[.int .i64 k, .int .i64 f, .int .i64 t, .int .i64 e, .int .i64 y, .string r] 25)) w.heap.size ⟨k, f, t, e, y, r⟩ ∧ Below w.heap.size w (w.alloc (.cells #[.int .i64 k, .int .i64 f, .int .i64 t, .int .i64 e, .int .i64 y, .string r] 25))) := ⟨⟨range_new w (kcs ⟨k, f, t, e, y, r⟩) _, by simp⟩, (Below.refl _ _).alloc (Nat.le_refl _) _⟩
  have hbb : b1 = false ∨ (b1 = true ∧ b2 = false) ∨ (b1 = true ∧ b2 = true ∧ b3 = false) ∨ (b1 = true ∧ b2 = true ∧ b3 = true ∧ b4 = false) ∨ (b1 = true ∧ b2 = true ∧ b3 = true ∧ b4 = true) := by cases b1 <;> cases b2 <;> cases b3 <;> cases b4 <;> simp
  rcases hbb with rfl | ⟨rfl, rfl⟩ | ⟨rfl, rfl, rfl⟩ | ⟨rfl, rfl, rfl, rfl⟩ | ⟨rfl, rfl, rfl, rfl⟩
  all_goals
    go_enter Tryd.func11, Tryd.ntmps11
    go_wp2_with fail
    generalize (w.alloc (.cells #[.int .i64 k, .int .i64 f, .int .i64 t, .int .i64 e, .int .i64 y, .string r] 25)) = W0 at *
    have kq0 := cell_regrown (w := W0) HR.out.1.c0
    have kq1 := cell_regrown (w := W0) HR.out.1.c1
    have kq2 := cell_regrown (w := W0) HR.out.1.c2
    have kq3 := cell_regrown (w := W0) HR.out.1.c3
    have kq4 := cell_regrown (w := W0) HR.out.1.c4
    have kq5 := cell_regrown (w := W0) HR.out.1.c5
    simp only at kq0 kq1 kq2 kq3 kq4 kq5
    have cq0 := fun d os => Calls.regrown_of (w := W0) (d := d) (os := os) (HWY.out _)
    have cq1 := fun d os => Calls.regrown_of (w := W0) (d := d) (os := os) (H1.out _)
    have cq2 := fun d os => Calls.regrown_of (w := W0) (d := d) (os := os) (H2.out _)
    have cq3 := fun d os => Calls.regrown_of (w := W0) (d := d) (os := os) (HRW.out _)
    refine wp_region_quiet_below (by kernel_rfl) (by kernel_rfl) ?_
    repeat (go_big_quiet_step (first | (with_reducible exact cq0 _ _) | (with_reducible exact cq1 _ _) | (with_reducible exact cq2 _ _) | (with_reducible exact cq3 _ _)))
    refine wpQuiet_nil ?_
    rintro _ ⟨⟨dq, osq⟩, rfl⟩
    have hb6 := HR.out.2.trans ((below_regrown W0 dq osq).mono HR.out.2.size)
    generalize grow (redrawn W0 dq) osq = w6 at *
    clear kq0 kq1 kq2 kq3 kq4 kq5 cq0 cq1 cq2 cq3 HR
    go_wp2
    go_ret
    exact ⟨rfl, hb6⟩

set_option maxRecDepth 100000 in
set_option maxHeartbeats 1000000 in
theorem sLetterOk_any (x : Ltr) (w : World) (hr : x.r.size ≤ 1048576) : Calls Tryd.prog 10 #[.agg #[.int .i64 x.k, .int .i64 x.f, .int .i64 x.t, .int .i64 x.e, .int .i64 x.y, .string x.r]] w fun e w' => e = .returned (.bool (VV.ok x)) ∧ Below w.heap.size w w' := by
  obtain ⟨k, f, t, e, y, r⟩ := x
  simp only at hr ⊢
  have HIN : Hid (∀ (a lo hi : Int) W, Calls Tryd.prog 26 #[.int .i64 a, .int .i64 lo, .int .i64 hi] W fun e w' => e = .returned (.bool (decide (lo ≤ a ∧ a ≤ hi))) ∧ w' = W) := fun a lo hi W => l01In_any a lo hi W
  have HB : Hid (Below w.heap.size w (w.alloc (.cells #[.int .i64 k, .int .i64 f, .int .i64 t, .int .i64 e, .int .i64 y, .string r] 25))) := (Below.refl _ _).alloc (Nat.le_refl _) _
  have Hk := hide (fun W => HIN.out k 1 5 W)
  have He := hide (fun W => HIN.out e 1 4 W)
  have Hy := hide (fun W => HIN.out y 1 1000 W)
  have Hf := hide (fun W => HIN.out f 1 4 W)
  have Ht := hide (fun W => HIN.out t 1 4 W)
  clear HIN
  by_cases hk : 1 ≤ k ∧ k ≤ 5
  case neg =>
    have hw : VV.ok ⟨k, f, t, e, y, r⟩ = false := by
      have : VV.way k f t = false := by unfold VV.way; exact decide_eq_false (by omega)
      unfold VV.ok; simp only; rw [this]; rfl
    rw [hw]
    rw [decide_eq_false hk] at Hk
    clear hw hk
    go_enter Tryd.func10, Tryd.ntmps10
    go_wp2_with fail
    refine (Hk.out _).mono ?_
    rintro e1 w1 ⟨rfl, rfl⟩
    go_wp2
    go_ret
    exact ⟨rfl, HB.out⟩
  rw [decide_eq_true hk] at Hk
  by_cases he : 1 ≤ e ∧ e ≤ 4
  case neg =>
    have hw : VV.ok ⟨k, f, t, e, y, r⟩ = false := by unfold VV.ok; simp only; rw [decide_eq_false he]; simp
    rw [hw]
    rw [decide_eq_false he] at He
    clear hw he hk
    go_enter Tryd.func10, Tryd.ntmps10
    go_wp2_with fail
    refine (Hk.out _).mono ?_
    rintro e1 w1 ⟨rfl, rfl⟩
    go_wp2_with fail
    refine (He.out _).mono ?_
    rintro e1 w1 ⟨rfl, rfl⟩
    go_wp2
    go_ret
    exact ⟨rfl, HB.out⟩
  rw [decide_eq_true he] at He
  by_cases hy : 1 ≤ y ∧ y ≤ 1000
  case neg =>
    have hw : VV.ok ⟨k, f, t, e, y, r⟩ = false := by unfold VV.ok; simp only; rw [decide_eq_false hy]; simp
    rw [hw]
    rw [decide_eq_false hy] at Hy
    clear hw he hk hy
    go_enter Tryd.func10, Tryd.ntmps10
    go_wp2_with fail
    refine (Hk.out _).mono ?_
    rintro e1 w1 ⟨rfl, rfl⟩
    go_wp2_with fail
    refine (He.out _).mono ?_
    rintro e1 w1 ⟨rfl, rfl⟩
    go_wp2_with fail
    refine (Hy.out _).mono ?_
    rintro e1 w1 ⟨rfl, rfl⟩
    go_wp2
    go_ret
    exact ⟨rfl, HB.out⟩
  rw [decide_eq_true hy] at Hy
  have hw : VV.ok ⟨k, f, t, e, y, r⟩ = (VV.way k f t && decide (r.size = VV.rw k)) := by unfold VV.ok; simp only; rw [decide_eq_true hy, decide_eq_true he]; simp
  rw [hw]
  clear hw he hy
  have hz : (r.toList.isEmpty) = decide (r.size = 0) := by
    by_cases h : r.size = 0
    · rw [decide_eq_true h]; exact VV.empty r h
    · rw [decide_eq_false h]; exact VV.full r h
  have hs : ((r.size : Int) == 16) = decide (r.size = 16) := by
    by_cases h : r.size = 16
    · rw [h]; rfl
    · rw [decide_eq_false h]; simp; omega
  have hd : (k = 1 ∨ k = 3 ∨ k = 4) ∨ (k = 2 ∨ k = 5) := by omega
  rcases hd with hd | hd
  · have hrw : VV.rw k = 0 := by unfold VV.rw; rw [if_neg (by omega)]
    rw [hrw, ← hz]
    obtain ⟨bz, hbz⟩ : ∃ b, r.toList.isEmpty = b := ⟨_, rfl⟩
    rw [hbz]
    clear Hf hs hrw hz
    by_cases hf : f = 0
    · have hw : VV.way k f t = decide (1 ≤ t ∧ t ≤ 4) := by
        unfold VV.way
        by_cases h : 1 ≤ t ∧ t ≤ 4
        · rw [decide_eq_true h, decide_eq_true (.inl ⟨hd, hf, h⟩)]
        · rw [decide_eq_false h, decide_eq_false (by omega)]
      rw [hw]
      clear hw hk
      have qf : (f != 0) = false := by simp [hf]
      clear hf
      generalize decide (1 ≤ t ∧ t ≤ 4) = b at *
      rcases hd with rfl | rfl | rfl <;> cases b
      all_goals
        go_enter Tryd.func10, Tryd.ntmps10
        go_wp2_with fail
        refine (Hk.out _).mono ?_
        rintro e1 w1 ⟨rfl, rfl⟩
        go_wp2_with fail
        refine (He.out _).mono ?_
        rintro e1 w1 ⟨rfl, rfl⟩
        go_wp2_with fail
        refine (Hy.out _).mono ?_
        rintro e1 w1 ⟨rfl, rfl⟩
        go_wp2_with fail
        refine (Ht.out _).mono ?_
        rintro e1 w1 ⟨rfl, rfl⟩
        go_wp2
        go_ret
        exact ⟨by simp, HB.out⟩
    · have hw : VV.way k f t = false := by
        unfold VV.way
        exact decide_eq_false (by omega)
      rw [hw]
      have qf : (f != 0) = true := by simp [hf]
      clear hw hk hf Ht
      rcases hd with rfl | rfl | rfl
      all_goals
        go_enter Tryd.func10, Tryd.ntmps10
        go_wp2_with fail
        refine (Hk.out _).mono ?_
        rintro e1 w1 ⟨rfl, rfl⟩
        go_wp2_with fail
        refine (He.out _).mono ?_
        rintro e1 w1 ⟨rfl, rfl⟩
        go_wp2_with fail
        refine (Hy.out _).mono ?_
        rintro e1 w1 ⟨rfl, rfl⟩
        go_wp2
        go_ret
        exact ⟨by simp, HB.out⟩
  · clear Ht
    by_cases ht : t = 0
    · have hw : VV.way k f t = decide (1 ≤ f ∧ f ≤ 4) := by
        unfold VV.way
        by_cases h : 1 ≤ f ∧ f ≤ 4
        · rw [decide_eq_true h, decide_eq_true (.inr ⟨hd, ht, h⟩)]
        · rw [decide_eq_false h, decide_eq_false (by omega)]
      rw [hw]
      clear hw hk
      have qt : (t != 0) = false := by simp [ht]
      clear ht
      generalize decide (1 ≤ f ∧ f ≤ 4) = b at *
      rcases hd with rfl | rfl
      · rw [show VV.rw 2 = 16 from rfl, ← hs]
        obtain ⟨bs, hbs⟩ : ∃ b, ((r.size : Int) == 16) = b := ⟨_, rfl⟩
        rw [hbs]
        clear hs hz
        cases b
        all_goals
          go_enter Tryd.func10, Tryd.ntmps10
          go_wp2_with fail
          refine (Hk.out _).mono ?_
          rintro e1 w1 ⟨rfl, rfl⟩
          go_wp2_with fail
          refine (He.out _).mono ?_
          rintro e1 w1 ⟨rfl, rfl⟩
          go_wp2_with fail
          refine (Hy.out _).mono ?_
          rintro e1 w1 ⟨rfl, rfl⟩
          go_wp2_with fail
          refine (Hf.out _).mono ?_
          rintro e1 w1 ⟨rfl, rfl⟩
          go_wp2
          go_ret
          exact ⟨by simp, HB.out⟩
      · rw [show VV.rw 5 = 0 from rfl, ← hz]
        obtain ⟨bz, hbz⟩ : ∃ b, r.toList.isEmpty = b := ⟨_, rfl⟩
        rw [hbz]
        clear hs hz
        cases b
        all_goals
          go_enter Tryd.func10, Tryd.ntmps10
          go_wp2_with fail
          refine (Hk.out _).mono ?_
          rintro e1 w1 ⟨rfl, rfl⟩
          go_wp2_with fail
          refine (He.out _).mono ?_
          rintro e1 w1 ⟨rfl, rfl⟩
          go_wp2_with fail
          refine (Hy.out _).mono ?_
          rintro e1 w1 ⟨rfl, rfl⟩
          go_wp2_with fail
          refine (Hf.out _).mono ?_
          rintro e1 w1 ⟨rfl, rfl⟩
          go_wp2
          go_ret
          exact ⟨by simp, HB.out⟩
    · have hw : VV.way k f t = false := by
        unfold VV.way
        exact decide_eq_false (by omega)
      rw [hw]
      have qt : (t != 0) = true := by simp [ht]
      clear hw hk ht Hf hs hz
      rcases hd with rfl | rfl
      all_goals
        go_enter Tryd.func10, Tryd.ntmps10
        go_wp2_with fail
        refine (Hk.out _).mono ?_
        rintro e1 w1 ⟨rfl, rfl⟩
        go_wp2_with fail
        refine (He.out _).mono ?_
        rintro e1 w1 ⟨rfl, rfl⟩
        go_wp2_with fail
        refine (Hy.out _).mono ?_
        rintro e1 w1 ⟨rfl, rfl⟩
        go_wp2
        go_ret
        exact ⟨by simp, HB.out⟩

end Go.Proofs.YtodibhiinfbhiaaDoor
