/-
  A change's text: the program's and the specification's answers.
-/
import Derived.Test.YtiabodhgjeoejaaCc
import Derived.Test.YtiabodhgjeoejaaShort
import Derived.Test.YtiabodhgjeoejaaReads
namespace Go.Proofs.Ytiabodhgjeoejaa
open Go.RowKit Go.BigFrame Go.Sort
set_option linter.unusedVariables false
set_option linter.unusedSimpArgs false

theorem okB_size {p : UInt8 → Bool} {s : ByteArray} (h : okB p s = true) : 1 ≤ s.size ∧ s.size ≤ 12 := by
  unfold okB at h
  rw [Bool.and_eq_true] at h
  exact of_decide_eq_true h.1
theorem empty_size {s : ByteArray} (h : s.toList.isEmpty = true) : s.size = 0 := by
  rw [ByteArray.toList_eq, List.isEmpty_iff] at h
  have h1 : s.data.toList.length = s.size := Array.length_toList
  rw [h] at h1
  exact h1.symm
namespace UV
def vb (n : Nat) : ByteArray := ⟨(M.varL n).toArray⟩
/-- its text, when it is right -/
def txtU (x : Ug) : ByteArray := vb x.i.toNat ++ (vb x.n.size ++ x.n) ++ (vb x.v.size ++ x.v)
/-- .. and else nothing -/
def textU (x : Ug) : ByteArray := if okU x = true then txtU x else ⟨#[]⟩
theorem vOk_size {v : ByteArray} (h : vOk v = true) : v.size ≤ 12 := by
  unfold vOk at h
  rw [Bool.or_eq_true] at h
  rcases h with h | h
  · rw [empty_size h]; omega
  · exact (okB_size h).2
theorem okU_parts {x : Ug} (h : okU x = true) : (1 ≤ x.i ∧ x.i ≤ 99) ∧ okB nameB x.n = true ∧ vOk x.v = true := by
  unfold okU at h
  rw [Bool.and_eq_true, Bool.and_eq_true] at h
  exact ⟨of_decide_eq_true h.1, h.2⟩
end UV

set_option maxRecDepth 100000 in
set_option maxHeartbeats 1000000 in
theorem ChangeText_any (x : Ug) (w : World) (hn : x.n.size ≤ 1048576) (hv : x.v.size ≤ 1048576) : Calls Try.prog 14 #[.agg #[.int .i64 x.i, .string x.n, .string x.v]] w fun e w' => e = .returned (.tuple #[.string (UV.textU x), .bool (UV.okU x)]) ∧ Below w.heap.size w w' := by
  have HC : Hid (∀ W, Calls Try.prog 22 #[.agg #[.int .i64 x.i, .string x.n, .string x.v]] W fun e w' => e = .returned (.bool (UV.okU x)) ∧ Below W.heap.size W w') := fun W => ChangeOk_any x W hn hv
  have HW : Hid (BU (w.alloc (.cells #[.int .i64 x.i, .string x.n, .string x.v] 31)) w.heap.size x ∧ Below w.heap.size w (w.alloc (.cells #[.int .i64 x.i, .string x.n, .string x.v] 31))) := ⟨BU.new w x, (Below.refl _ _).alloc (Nat.le_refl _) _⟩
  unfold UV.textU
  cases hok : UV.okU x
  · rw [hok] at HC
    rw [if_neg (by simp)]
    clear hok hn hv
    obtain ⟨i, n, v⟩ := x
    simp only at HC HW ⊢
    go_enter Try.func14, Try.ntmps14
    go_wp2_with fail
    refine (HC.out _).mono ?_
    rintro e w1 ⟨rfl, hb1⟩
    have b1 := HW.out.2.trans (hb1.mono HW.out.2.size)
    clear HC HW hb1
    go_wp2
    go_ret2
    exact ⟨rfl, b1⟩
  · rw [hok] at HC
    rw [if_pos rfl]
    obtain ⟨⟨h1, h2⟩, h3, h4⟩ := UV.okU_parts hok
    have hns := (okB_size h3).2
    have hvs := UV.vOk_size h4
    obtain ⟨k, hk⟩ : ∃ k : Nat, x.i = (k : Int) := ⟨x.i.toNat, by omega⟩
    have HV1 : Hid (∀ W, Calls Try.prog 46 #[.int .i64 (k : Int)] W fun e w' => e = .returned (.tuple #[.string (UV.vb k), .bool true]) ∧ Below W.heap.size W w') := fun W => VarText_yes k W (by omega)
    have HN1 : Hid (∀ W, Calls Try.prog 47 #[.string x.n] W fun e w' => e = .returned (.tuple #[.string (UV.vb x.n.size ++ x.n), .bool true]) ∧ Below W.heap.size W w') := fun W => Short_yes x.n W (by omega)
    have HS1 : Hid (∀ W, Calls Try.prog 47 #[.string x.v] W fun e w' => e = .returned (.tuple #[.string (UV.vb x.v.size ++ x.v), .bool true]) ∧ Below W.heap.size W w') := fun W => Short_yes x.v W (by omega)
    have s1 : (UV.vb k).size ≤ 10 := varA_size k
    have s2 : (UV.vb x.n.size ++ x.n).size ≤ 22 := by have := varA_size x.n.size; rw [ByteArray.size_append]; unfold UV.vb; omega
    have s3 : (UV.vb x.v.size ++ x.v).size ≤ 22 := by have := varA_size x.v.size; rw [ByteArray.size_append]; unfold UV.vb; omega
    have hT : UV.txtU x = UV.vb k ++ (UV.vb x.n.size ++ x.n) ++ (UV.vb x.v.size ++ x.v) := by unfold UV.txtU; rw [hk]; rfl
    rw [hT]
    clear hT hok h1 h2 h3 h4 hns hvs hn hv
    generalize UV.vb k = A at *
    generalize UV.vb x.n.size ++ x.n = B at *
    generalize UV.vb x.v.size ++ x.v = C at *
    obtain ⟨i, n, v⟩ := x
    simp only at HC HW HN1 HS1 hk ⊢
    subst hk
    go_enter Try.func14, Try.ntmps14
    go_wp2_with fail
    refine (HC.out _).mono ?_
    rintro e w1 ⟨rfl, hb1⟩
    have HW1 : Hid (BU w1 w.heap.size ⟨k, n, v⟩ ∧ Below w.heap.size w w1) := ⟨HW.out.1.later hb1, HW.out.2.trans (hb1.mono HW.out.2.size)⟩
    clear HC HW hb1
    have z0 := HW1.out.1.c0
    simp only at z0
    go_wp2_with fail
    refine (HV1.out _).mono ?_
    rintro e w2 ⟨rfl, hb2⟩
    have HW2 : Hid (BU w2 w.heap.size ⟨k, n, v⟩ ∧ Below w.heap.size w w2) := ⟨HW1.out.1.later hb2, HW1.out.2.trans (hb2.mono HW1.out.2.size)⟩
    clear HV1 HW1 hb2 z0
    have z1 := HW2.out.1.c1
    simp only at z1
    go_wp2_with fail
    refine (HN1.out _).mono ?_
    rintro e w3 ⟨rfl, hb3⟩
    have HW3 : Hid (BU w3 w.heap.size ⟨k, n, v⟩ ∧ Below w.heap.size w w3) := ⟨HW2.out.1.later hb3, HW2.out.2.trans (hb3.mono HW2.out.2.size)⟩
    clear HN1 HW2 hb3 z1
    have z2 := HW3.out.1.c2
    simp only at z2
    go_wp2_with fail
    refine (HS1.out _).mono ?_
    rintro e w4 ⟨rfl, hb4⟩
    have b4 := HW3.out.2.trans (hb4.mono HW3.out.2.size)
    clear HS1 HW3 hb4 z2
    go_wp2
    go_ret2
    exact ⟨rfl, b4⟩

set_option maxRecDepth 100000 in
set_option maxHeartbeats 1000000 in
theorem sChangeText_any (x : Ug) (w : World) (hn : x.n.size ≤ 1048576) (hv : x.v.size ≤ 1048576) : Calls Try.prog 27 #[.agg #[.int .i64 x.i, .string x.n, .string x.v]] w fun e w' => e = .returned (.tuple #[.string (UV.textU x), .bool (UV.okU x)]) ∧ Below w.heap.size w w' := by
  have HC : Hid (∀ W, Calls Try.prog 23 #[.agg #[.int .i64 x.i, .string x.n, .string x.v]] W fun e w' => e = .returned (.bool (UV.okU x)) ∧ Below W.heap.size W w') := fun W => sChangeOk_any x W hn hv
  have HW : Hid (BU (w.alloc (.cells #[.int .i64 x.i, .string x.n, .string x.v] 31)) w.heap.size x ∧ Below w.heap.size w (w.alloc (.cells #[.int .i64 x.i, .string x.n, .string x.v] 31))) := ⟨BU.new w x, (Below.refl _ _).alloc (Nat.le_refl _) _⟩
  unfold UV.textU
  cases hok : UV.okU x
  · rw [hok] at HC
    rw [if_neg (by simp)]
    clear hok hn hv
    obtain ⟨i, n, v⟩ := x
    simp only at HC HW ⊢
    go_enter Try.func27, Try.ntmps27
    go_wp2_with fail
    refine (HC.out _).mono ?_
    rintro e w1 ⟨rfl, hb1⟩
    have b1 := HW.out.2.trans (hb1.mono HW.out.2.size)
    clear HC HW hb1
    go_wp2
    go_ret2
    exact ⟨rfl, b1⟩
  · rw [hok] at HC
    rw [if_pos rfl]
    obtain ⟨⟨h1, h2⟩, h3, h4⟩ := UV.okU_parts hok
    have hns := (okB_size h3).2
    have hvs := UV.vOk_size h4
    obtain ⟨k, hk⟩ : ∃ k : Nat, x.i = (k : Int) := ⟨x.i.toNat, by omega⟩
    have HV1 : Hid (∀ W, Calls Try.prog 64 #[.int .i64 (k : Int)] W fun e w' => e = .returned (.string (UV.vb k)) ∧ Below W.heap.size W w') := fun W => l01Var_any k W (by omega)
    have HN1 : Hid (∀ W, Calls Try.prog 64 #[.int .i64 (x.n.size : Int)] W fun e w' => e = .returned (.string (UV.vb x.n.size)) ∧ Below W.heap.size W w') := fun W => l01Var_any x.n.size W (by omega)
    have HS1 : Hid (∀ W, Calls Try.prog 64 #[.int .i64 (x.v.size : Int)] W fun e w' => e = .returned (.string (UV.vb x.v.size)) ∧ Below W.heap.size W w') := fun W => l01Var_any x.v.size W (by omega)
    have s1 : (UV.vb k).size ≤ 10 := varA_size k
    have s2 : (UV.vb x.n.size).size ≤ 10 := varA_size _
    have s3 : (UV.vb x.v.size).size ≤ 10 := varA_size _
    have hT : UV.txtU x = UV.vb k ++ UV.vb x.n.size ++ x.n ++ UV.vb x.v.size ++ x.v := by unfold UV.txtU; rw [hk]; simp only [Int.toNat_natCast, ByteArray.append_assoc]
    rw [hT]
    clear hT hok h1 h2 h3 h4 hn hv
    generalize UV.vb k = A at *
    generalize UV.vb x.n.size = B at *
    generalize UV.vb x.v.size = C at *
    obtain ⟨i, n, v⟩ := x
    simp only at HC HW HN1 HS1 hk hns hvs ⊢
    subst hk
    go_enter Try.func27, Try.ntmps27
    go_wp2_with fail
    refine (HC.out _).mono ?_
    rintro e w1 ⟨rfl, hb1⟩
    have HW1 : Hid (BU w1 w.heap.size ⟨k, n, v⟩ ∧ Below w.heap.size w w1) := ⟨HW.out.1.later hb1, HW.out.2.trans (hb1.mono HW.out.2.size)⟩
    clear HC HW hb1
    have z0 := HW1.out.1.c0
    have z1 := HW1.out.1.c1
    have z2 := HW1.out.1.c2
    simp only at z0 z1 z2
    go_wp2_with fail
    have kq0 := cell_regrown (w := w1) z0
    have kq1 := cell_regrown (w := w1) z1
    have kq2 := cell_regrown (w := w1) z2
    have cq0 := fun d os => Calls.regrown_of (w := w1) (d := d) (os := os) (HV1.out _)
    have cq1 := fun d os => Calls.regrown_of (w := w1) (d := d) (os := os) (HN1.out _)
    have cq2 := fun d os => Calls.regrown_of (w := w1) (d := d) (os := os) (HS1.out _)
    refine wp_region_quiet_below (by kernel_rfl) (by kernel_rfl) ?_
    repeat (go_big_quiet_step (first | (with_reducible exact cq0 _ _) | (with_reducible exact cq1 _ _) | (with_reducible exact cq2 _ _)))
    refine wpQuiet_nil ?_
    rintro _ ⟨⟨dq, osq⟩, rfl⟩
    have hb6 := HW1.out.2.trans ((below_regrown w1 dq osq).mono HW1.out.2.size)
    generalize grow (redrawn w1 dq) osq = w6 at *
    clear kq0 kq1 kq2 cq0 cq1 cq2 HW1
    go_wp2
    go_ret2
    exact ⟨rfl, hb6⟩

end Go.Proofs.Ytiabodhgjeoejaa
