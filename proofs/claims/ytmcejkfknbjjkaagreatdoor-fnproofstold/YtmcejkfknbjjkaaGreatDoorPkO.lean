/-
  Texts laid together: Ls, Ly, Lz, Jo, Pj, Rw, Rs, Rt, Ru, Rx, Ry.
-/
import Derived.Test.YtmcejkfknbjjkaaGreatDoorPkE
import Derived.Test.YtmcejkfknbjjkaaGreatDoorPkJ
import Derived.Deep.AppendLies
import Derived.Deep.RegionHeld3
import Derived.Shelf.Strings.OnBuilder
import Derived.Test.YtmcejkfknbjjkaaGreatDoorProg
import Derived.Test.YtmcejkfknbjjkaaGreatDoorPkM
import Derived.Lib.QuietBelow
import Derived.Tactics2
import Derived.Defers
import Derived.Recover
import Derived.WalkLawsBesides
import Derived.Test.YtmcejkfknbjjkaaGreatDoorShelf
import Derived.StillTailTactics
import Derived.Test.YtmcejkfknbjjkaaGreatDoorRshort
/-
  Leaves read of a whole text: the program's and the specification's answers.
-/
namespace Go.Proofs.YtmcejkfknbjjkaaGreatDoor
open Go.RowKit Go.BigFrame Go.Sort
set_option linter.unusedVariables false
set_option linter.unusedSimpArgs false

/-- what ReadLeaves answers -/
def RxP (s : ByteArray) (w : World) (e : Ending) (w' : World) : Prop := ∃ a c g, e = .returned (.tuple #[.slice a (LV.rdL s).length c, .bool (LV.rdB s)]) ∧ RW 2 lcs w' (.slice a (LV.rdL s).length c) g (LV.rdL s) ∧ w.heap.size ≤ g ∧ Below w.heap.size w w'
theorem RW.empty (W : World) (g c : Nat) (a : Option Addr) : RW 2 lcs W (.slice a 0 c) g [] := ⟨⟨a, c, rfl, by simp, fun h => absurd h (by simp), fun j h => absurd h (by simp)⟩, fun j h => absurd h (by simp)⟩
theorem RxP.no {s : ByteArray} {w w' : World} (hB : LV.rdB s = false) (hL : LV.rdL s = []) (c : Nat) (a : Option Addr) (hb : Below w.heap.size w w') : RxP s w (.returned (.tuple #[.slice a 0 c, .bool false])) w' := by
  unfold RxP
  rw [hB, hL]
  exact ⟨a, c, w.heap.size, rfl, RW.empty _ _ _ _, Nat.le_refl _, hb⟩

theorem rd_none {s : ByteArray} (h : LV.rawL s 0 = none) : LV.rdB s = false ∧ LV.rdL s = [] := by
  unfold LV.rdB LV.rdL
  rw [h]
  exact ⟨rfl, rfl⟩
theorem rd_some {s : ByteArray} {l : List Le} {q : Nat} (h : LV.rawL s 0 = some (l, q)) : LV.rdB s = (decide (q = s.size) && LV.leavesB l) ∧ LV.rdL s = if decide (q = s.size) && LV.leavesB l then l else [] := by
  unfold LV.rdB LV.rdL
  rw [h]
  exact ⟨rfl, rfl⟩

/-! the specification's reader -/
/-- the block of a reader: its text, its place, and whether it was spoilt -/
def Cu (W : World) (c : Nat) (s : ByteArray) (p : Nat) (b : Bool) : Prop := W.heap[c]? = some (.cells #[.string s, .int .i64 (p : Int), .bool b] 88 (0, 0))
section
variable {W W' : World} {c p : Nat} {s : ByteArray} {b : Bool}
theorem Cu.lt (h : Cu W c s p b) : c < W.heap.size := (Array.getElem?_eq_some_iff.1 h).1
theorem Cu.later (h : Cu W c s p b) (hb : Below W.heap.size W W') : Cu W' c s p b := (hb.block c h.lt).trans h
theorem Cu.grown {row : Option Nat} (h : Cu W c s p b) (hg : W.grownBy W' row) (hne : some c ≠ row) : Cu W' c s p b := (hg.block c h.lt hne).trans h
theorem Cu.c0 (h : Cu W c s p b) : W.cell? ⟨c, 0, none⟩ = some (.string s) := by rw [cell_of_row W c 0 _ _ _ h]; rfl
theorem Cu.c1 (h : Cu W c s p b) : W.cell? ⟨c, 1, none⟩ = some (.int .i64 (p : Int)) := by rw [cell_of_row W c 1 _ _ _ h]; rfl
theorem Cu.c2 (h : Cu W c s p b) : W.cell? ⟨c, 2, none⟩ = some (.bool b) := by rw [cell_of_row W c 2 _ _ _ h]; rfl
theorem Cu.f1 (h : Cu W c s p b) : W.frozen? ⟨c, 1, none⟩ = false := by simp [World.frozen?, show W.heap[c]? = _ from h]
theorem Cu.f2 (h : Cu W c s p b) : W.frozen? ⟨c, 2, none⟩ = false := by simp [World.frozen?, show W.heap[c]? = _ from h]
theorem Cu.at (h : Cu W c s p b) (q : Nat) : Cu (W.setCell ⟨c, 1, none⟩ (.int .i64 (q : Int))) c s q b := heap_setCell_same W c 1 _ _ _ h
theorem Cu.bad (h : Cu W c s p b) : Cu (W.setCell ⟨c, 2, none⟩ (.bool true)) c s p true := heap_setCell_same W c 2 _ _ _ h
end

set_option maxRecDepth 100000 in
set_option maxHeartbeats 1000000 in
theorem l09Var_at (c : Nat) (s : ByteArray) (p : Nat) (w : World) (h : Cu w c s p false) (hs : s.size ≤ 1048576) (hp : p ≤ s.size) :
    Calls Tryz.prog 59 #[.pointer (some ⟨c, 0, none⟩)] w fun e w' => (match M.readVar s.data.toList p with
      | none => e = .returned (.int .i64 0) ∧ Cu w' c s p true
      | some (n, q) => e = .returned (.int .i64 (n : Int)) ∧ Cu w' c s q false) ∧ w.grownBy w' (some c) := by
  have c0 := h.c0
  have c1 := h.c1
  have H : Hid (Cu w c s p false) := h
  have hcl := h.lt
  clear h
  cases hr : M.readVar s.data.toList p with
  | none =>
    have H1 : Hid (∀ W, Calls Tryz.prog 113 #[.string s, .int .i64 (p : Int)] W fun e w' => e = .returned (.tuple #[.int .i64 0, .int .i64 0, .bool false]) ∧ Below W.heap.size W w') := fun W => sReadVar_none s (p : Int) W hs (.inr ⟨by omega, by simpa using hr⟩)
    clear hr
    go_enter Tryz.func59, Tryz.ntmps59
    go_wp2
    have kq0 := cell_regrown (w := w) c0
    have kq1 := cell_regrown (w := w) c1
    have cq0 := fun d os => Calls.regrown_of (w := w) (d := d) (os := os) (H1.out _)
    refine wp_region_quiet_below (by kernel_rfl) (by kernel_rfl) ?_
    repeat (go_big_quiet_step (first | with_reducible exact cq0 _ _))
    refine wpQuiet_nil ?_
    rintro _ ⟨⟨dq, osq⟩, rfl⟩
    have hb6 := below_regrown (w) dq osq
    generalize grow (redrawn (w) dq) osq = w6 at *
    clear kq0 kq1 cq0
    have h6 := H.out.later hb6
    have d2 := h6.c2
    have g2 := h6.f2
    have hcl6 := h6.lt
    have HF : Hid (Cu (w6.setCell ⟨c, 2, none⟩ (.bool true)) c s p true ∧ w.grownBy (w6.setCell ⟨c, 2, none⟩ (.bool true)) (some c)) := ⟨h6.bad, (grown_below hb6).trans (grown_setC w6 c 2 _)⟩
    clear h6 hb6 H H1 c0 c1
    go_wp2
    go_ret
    exact ⟨⟨rfl, HF.out.1⟩, HF.out.2⟩
  | some y =>
    obtain ⟨n, q⟩ := y
    have H1 : Hid (∀ W, Calls Tryz.prog 113 #[.string s, .int .i64 (p : Int)] W fun e w' => e = .returned (.tuple #[.int .i64 n, .int .i64 q, .bool true]) ∧ Below W.heap.size W w') := fun W => sReadVar_some s (p : Int) n q W hs (by omega) (by simpa using hr)
    clear hr
    go_enter Tryz.func59, Tryz.ntmps59
    go_wp2
    have kq0 := cell_regrown (w := w) c0
    have kq1 := cell_regrown (w := w) c1
    have cq0 := fun d os => Calls.regrown_of (w := w) (d := d) (os := os) (H1.out _)
    refine wp_region_quiet_below (by kernel_rfl) (by kernel_rfl) ?_
    repeat (go_big_quiet_step (first | with_reducible exact cq0 _ _))
    refine wpQuiet_nil ?_
    rintro _ ⟨⟨dq, osq⟩, rfl⟩
    have hb6 := below_regrown (w) dq osq
    generalize grow (redrawn (w) dq) osq = w6 at *
    clear kq0 kq1 cq0
    have h6 := H.out.later hb6
    have d2 := h6.c2
    have d1 := h6.c1
    have g1 := h6.f1
    have hcl6 := h6.lt
    have HF : Hid (Cu (w6.setCell ⟨c, 1, none⟩ (.int .i64 (q : Int))) c s q false ∧ w.grownBy (w6.setCell ⟨c, 1, none⟩ (.int .i64 (q : Int))) (some c)) := ⟨h6.at q, (grown_below hb6).trans (grown_setC w6 c 1 _)⟩
    clear h6 hb6 H H1 c0 c1
    go_wp2
    go_ret
    exact ⟨⟨rfl, HF.out.1⟩, HF.out.2⟩

/-- a short text that is read, or why not -/
theorem sReadShort_at (s : ByteArray) (p : Nat) (w : World) (hs : s.size ≤ 1048576) (hp : p ≤ s.size) :
    Calls Tryz.prog 148 #[.string s, .int .i64 (p : Int)] w fun e w' => (match LV.shortAt s p with
      | none => e = .returned (.tuple #[.string ⟨#[]⟩, .int .i64 0, .bool false])
      | some (t, q) => e = .returned (.tuple #[.string t, .int .i64 (q : Int), .bool true])) ∧ Below w.heap.size w w' := by
  cases hr : M.readVar s.data.toList p with
  | none =>
    rw [LV.shortAt_none hr]
    exact sReadShort_none s p w hs (.inr ⟨by omega, by simpa using hr⟩)
  | some y =>
    obtain ⟨n, q⟩ := y
    obtain ⟨hq, hN⟩ := read_bound s p n q hr
    by_cases hn : n ≤ 20000 ∧ q + n ≤ s.size
    · rw [LV.shortAt_yes hr hn]
      have h := sReadShort_yes s p n q w hs (show 0 ≤ (p : Int) ∧ (p : Int) ≤ (s.size : Int) from by omega) (show M.readVar s.data.toList (p : Int).toNat = some (n, q) from by simpa using hr) hn.1 hn.2
      have e : ((q + n : Nat) : Int) = (q : Int) + (n : Int) := by omega
      simp only [e]
      exact h
    · rw [LV.shortAt_no hr hn]
      exact sReadShort_no s p n q w hs (show 0 ≤ (p : Int) ∧ (p : Int) ≤ (s.size : Int) from by omega) (show M.readVar s.data.toList (p : Int).toNat = some (n, q) from by simpa using hr) hq hN hn

set_option maxRecDepth 100000 in
set_option maxHeartbeats 1000000 in
theorem l09Short_no (c : Nat) (s : ByteArray) (p : Nat) (b : Bool) (w : World) (h : Cu w c s p b) (hs : s.size ≤ 1048576) (hp : p ≤ s.size) (hq : b = true ∨ LV.shortAt s p = none) :
    Calls Tryz.prog 112 #[.pointer (some ⟨c, 0, none⟩)] w fun e w' => (e = .returned (.string ⟨#[]⟩) ∧ Cu w' c s p true) ∧ w.grownBy w' (some c) := by
  have c0 := h.c0
  have c1 := h.c1
  have H : Hid (Cu w c s p b) := h
  have hcl := h.lt
  clear h
  cases hr : LV.shortAt s p with
  | none =>
    clear hq
    cases b
    · have H1 : Hid (∀ W, Calls Tryz.prog 148 #[.string s, .int .i64 (p : Int)] W fun e w' => e = .returned (.tuple #[.string ⟨#[]⟩, .int .i64 0, .bool false]) ∧ Below W.heap.size W w') := fun W => by have h := sReadShort_at s p W hs hp; rw [hr] at h; exact h
      clear hr
      go_enter Tryz.func112, Tryz.ntmps112
      go_wp2
      have kq0 := cell_regrown (w := w) c0
      have kq1 := cell_regrown (w := w) c1
      have cq0 := fun d os => Calls.regrown_of (w := w) (d := d) (os := os) (H1.out _)
      refine wp_region_quiet_below (by kernel_rfl) (by kernel_rfl) ?_
      repeat (go_big_quiet_step (first | with_reducible exact cq0 _ _))
      refine wpQuiet_nil ?_
      rintro _ ⟨⟨dq, osq⟩, rfl⟩
      have hb6 := below_regrown (w) dq osq
      generalize grow (redrawn (w) dq) osq = w6 at *
      clear kq0 kq1 cq0
      have h6 := H.out.later hb6
      have d2 := h6.c2
      have d1 := h6.c1
      have g1 := h6.f1
      have g2 := h6.f2
      have hcl6 := h6.lt
      have HF : Hid (Cu (w6.setCell ⟨c, 2, none⟩ (.bool true)) c s p true ∧ w.grownBy (w6.setCell ⟨c, 2, none⟩ (.bool true)) (some c)) := ⟨h6.bad, (grown_below hb6).trans (grown_setC w6 c 2 _)⟩
      clear h6 hb6 H H1 c0 c1
      go_wp2
      go_ret
      exact ⟨⟨rfl, HF.out.1⟩, HF.out.2⟩
    · have H1 : Hid (∀ W, Calls Tryz.prog 148 #[.string s, .int .i64 (p : Int)] W fun e w' => e = .returned (.tuple #[.string ⟨#[]⟩, .int .i64 0, .bool false]) ∧ Below W.heap.size W w') := fun W => by have h := sReadShort_at s p W hs hp; rw [hr] at h; exact h
      clear hr
      go_enter Tryz.func112, Tryz.ntmps112
      go_wp2
      have kq0 := cell_regrown (w := w) c0
      have kq1 := cell_regrown (w := w) c1
      have cq0 := fun d os => Calls.regrown_of (w := w) (d := d) (os := os) (H1.out _)
      refine wp_region_quiet_below (by kernel_rfl) (by kernel_rfl) ?_
      repeat (go_big_quiet_step (first | with_reducible exact cq0 _ _))
      refine wpQuiet_nil ?_
      rintro _ ⟨⟨dq, osq⟩, rfl⟩
      have hb6 := below_regrown (w) dq osq
      generalize grow (redrawn (w) dq) osq = w6 at *
      clear kq0 kq1 cq0
      have h6 := H.out.later hb6
      have d2 := h6.c2
      have d1 := h6.c1
      have g1 := h6.f1
      have g2 := h6.f2
      have hcl6 := h6.lt
      have HF : Hid (Cu (w6.setCell ⟨c, 2, none⟩ (.bool true)) c s p true ∧ w.grownBy (w6.setCell ⟨c, 2, none⟩ (.bool true)) (some c)) := ⟨h6.bad, (grown_below hb6).trans (grown_setC w6 c 2 _)⟩
      clear h6 hb6 H H1 c0 c1
      go_wp2
      go_ret
      exact ⟨⟨rfl, HF.out.1⟩, HF.out.2⟩
  | some y =>
    obtain ⟨t, r⟩ := y
    obtain rfl : b = true := by
      rcases hq with hq | hq
      · exact hq
      · rw [hr] at hq
        cases hq
    clear hq
    have H1 : Hid (∀ W, Calls Tryz.prog 148 #[.string s, .int .i64 (p : Int)] W fun e w' => e = .returned (.tuple #[.string t, .int .i64 (r : Int), .bool true]) ∧ Below W.heap.size W w') := fun W => by have h := sReadShort_at s p W hs hp; rw [hr] at h; exact h
    clear hr
    go_enter Tryz.func112, Tryz.ntmps112
    go_wp2
    have kq0 := cell_regrown (w := w) c0
    have kq1 := cell_regrown (w := w) c1
    have cq0 := fun d os => Calls.regrown_of (w := w) (d := d) (os := os) (H1.out _)
    refine wp_region_quiet_below (by kernel_rfl) (by kernel_rfl) ?_
    repeat (go_big_quiet_step (first | with_reducible exact cq0 _ _))
    refine wpQuiet_nil ?_
    rintro _ ⟨⟨dq, osq⟩, rfl⟩
    have hb6 := below_regrown (w) dq osq
    generalize grow (redrawn (w) dq) osq = w6 at *
    clear kq0 kq1 cq0
    have h6 := H.out.later hb6
    have d2 := h6.c2
    have d1 := h6.c1
    have g1 := h6.f1
    have g2 := h6.f2
    have hcl6 := h6.lt
    have HF : Hid (Cu (w6.setCell ⟨c, 2, none⟩ (.bool true)) c s p true ∧ w.grownBy (w6.setCell ⟨c, 2, none⟩ (.bool true)) (some c)) := ⟨h6.bad, (grown_below hb6).trans (grown_setC w6 c 2 _)⟩
    clear h6 hb6 H H1 c0 c1
    go_wp2
    go_ret
    exact ⟨⟨rfl, HF.out.1⟩, HF.out.2⟩

set_option maxRecDepth 100000 in
set_option maxHeartbeats 1000000 in
theorem l09Short_yes (c : Nat) (s : ByteArray) (p r : Nat) (t : ByteArray) (w : World) (h : Cu w c s p false) (hs : s.size ≤ 1048576) (hp : p ≤ s.size) (hr : LV.shortAt s p = some (t, r)) :
    Calls Tryz.prog 112 #[.pointer (some ⟨c, 0, none⟩)] w fun e w' => (e = .returned (.string t) ∧ Cu w' c s r false) ∧ w.grownBy w' (some c) := by
  have c0 := h.c0
  have c1 := h.c1
  have H : Hid (Cu w c s p false) := h
  have hcl := h.lt
  clear h
  have H1 : Hid (∀ W, Calls Tryz.prog 148 #[.string s, .int .i64 (p : Int)] W fun e w' => e = .returned (.tuple #[.string t, .int .i64 (r : Int), .bool true]) ∧ Below W.heap.size W w') := fun W => by have h := sReadShort_at s p W hs hp; rw [hr] at h; exact h
  clear hr
  go_enter Tryz.func112, Tryz.ntmps112
  go_wp2
  have kq0 := cell_regrown (w := w) c0
  have kq1 := cell_regrown (w := w) c1
  have cq0 := fun d os => Calls.regrown_of (w := w) (d := d) (os := os) (H1.out _)
  refine wp_region_quiet_below (by kernel_rfl) (by kernel_rfl) ?_
  repeat (go_big_quiet_step (first | with_reducible exact cq0 _ _))
  refine wpQuiet_nil ?_
  rintro _ ⟨⟨dq, osq⟩, rfl⟩
  have hb6 := below_regrown (w) dq osq
  generalize grow (redrawn (w) dq) osq = w6 at *
  clear kq0 kq1 cq0
  have h6 := H.out.later hb6
  have d2 := h6.c2
  have d1 := h6.c1
  have g1 := h6.f1
  have g2 := h6.f2
  have hcl6 := h6.lt
  have HF : Hid (Cu (w6.setCell ⟨c, 1, none⟩ (.int .i64 (r : Int))) c s r false ∧ w.grownBy (w6.setCell ⟨c, 1, none⟩ (.int .i64 (r : Int))) (some c)) := ⟨h6.at r, (grown_below hb6).trans (grown_setC w6 c 1 _)⟩
  clear h6 hb6 H H1 c0 c1
  go_wp2
  go_ret
  exact ⟨⟨rfl, HF.out.1⟩, HF.out.2⟩

end Go.Proofs.YtmcejkfknbjjkaaGreatDoor
/-
  Leaves read by the specification's reader.
-/
namespace Go.Proofs.YtmcejkfknbjjkaaGreatDoor
open Go.RowKit Go.BigFrame Go.Sort
set_option linter.unusedVariables false
set_option linter.unusedSimpArgs false

theorem leafAt_first {s : ByteArray} {q : Nat} (h : LV.shortAt s q = none) : LV.leafAt s q = none := by unfold LV.leafAt; rw [h]
theorem leafAt_second {s a : ByteArray} {q r : Nat} (h : LV.shortAt s q = some (a, r)) (h2 : LV.shortAt s r = none) : LV.leafAt s q = none := by unfold LV.leafAt; rw [h]; simp only; rw [h2]
theorem leafAt_both {s a b : ByteArray} {q r t : Nat} (h : LV.shortAt s q = some (a, r)) (h2 : LV.shortAt s r = some (b, t)) : LV.leafAt s q = some (⟨a, b⟩, t) := by unfold LV.leafAt; rw [h]; simp only; rw [h2]

/-- what was read so far -/
def LyI (s : ByteArray) (q0 m q : Nat) (l : List Le) (b : Bool) : Prop := (∀ f ∈ l, f.n.size ≤ s.size ∧ f.v.size ≤ s.size) ∧ l.length = m ∧ q ≤ s.size ∧ (b = false → LV.leavesF s m q0 = some (l, q)) ∧ (b = true → LV.leavesF s m q0 = none)
theorem LyI.start {s : ByteArray} {q0 : Nat} (h : q0 ≤ s.size) : LyI s q0 0 q0 [] false := ⟨fun f hf => absurd hf (by simp), rfl, h, fun _ => rfl, fun h => (by cases h)⟩
theorem LyI.bad {s : ByteArray} {q0 m q r : Nat} {l : List Le} {f : Le} (h : LyI s q0 m q l false) (hf : LV.leafAt s q = none) (h1 : f.n.size ≤ s.size ∧ f.v.size ≤ s.size) (hr : r ≤ s.size) : LyI s q0 (m + 1) r (l ++ [f]) true := by
  refine ⟨fun g hg => ?_, by simp [h.2.1], hr, fun h => (by cases h), fun _ => leavesF_ends (h.2.2.2.1 rfl) hf⟩
  rcases List.mem_append.1 hg with hg | hg
  · exact h.1 g hg
  · simp at hg; subst hg; exact h1
theorem LyI.more {s : ByteArray} {q0 m q r : Nat} {l : List Le} {f : Le} (h : LyI s q0 m q l false) (hf : LV.leafAt s q = some (f, r)) : LyI s q0 (m + 1) r (l ++ [f]) false := by
  refine ⟨fun g hg => ?_, by simp [h.2.1], (LV.leafAt_some h.2.2.1 hf).2.1, fun _ => leavesF_more (h.2.2.2.1 rfl) hf, fun h => (by cases h)⟩
  rcases List.mem_append.1 hg with hg | hg
  · exact h.1 g hg
  · simp at hg; subst hg; exact LV.leafAt_size hf

theorem OL.lt {B : Nat} {w0 w : World} {u : Value} {l : List Le} (h : OL B w0 w u l) {q : Nat} (hq : u.ownBlock = some q) : q < w.heap.size := (h.1.lt q hq).2
theorem BL.grown {W W' : World} {p : Nat} {a b : ByteArray} {row : Option Nat} (h : BL W p a b) (hg : W.grownBy W' row) (hne : some p ≠ row) : BL W' p a b := (hg.block p (Array.getElem?_eq_some_iff.1 h).1 hne).trans h
/-- a leaf under way in its box, its Value written behind a call of the reader -/
theorem Ly_store {B c q q' : Nat} {s a : ByteArray} {b b' : Bool} {w0 w2 w3 : World} {u : Value} {l : List Le} (ho : OL B w0 w2 u l) (hc : Cu w2 c s q b) (hB : B ≤ c) (hg3 : (w2.alloc (.cells #[.string a, .string ⟨#[]⟩] 34)).grownBy w3 (some c)) (hc3 : Cu w3 c s q' b') (t : ByteArray) :
    BL w3 w2.heap.size a ⟨#[]⟩ ∧ BL (w3.setCell ⟨w2.heap.size, 1, none⟩ (.string t)) w2.heap.size a t ∧ OL B w0 (w3.setCell ⟨w2.heap.size, 1, none⟩ (.string t)) u l ∧ Cu (w3.setCell ⟨w2.heap.size, 1, none⟩ (.string t)) c s q' b' := by
  have hcl := hc.lt
  have h1 : BL w3 w2.heap.size a ⟨#[]⟩ := (BL.new w2 a ⟨#[]⟩).grown hg3 (by simp; omega)
  have hba : Below w2.heap.size w2 (w2.alloc (.cells #[.string a, .string ⟨#[]⟩] 34)) := (Below.refl _ _).alloc (Nat.le_refl _) _
  have ho1 := ho.later hba
  have ho3 : OL B w0 w3 u l := ho1.grown hg3 (fun k hk => by cases hk; exact ⟨hB, ho1.ne (hc.later hba) (by decide)⟩)
  have hg4 := grown_setC w3 w2.heap.size 1 (.string t)
  refine ⟨h1, h1.set1 t, ho3.grown hg4 (fun k hk => ?_), hc3.grown hg4 (by simp; omega)⟩
  cases hk
  exact ⟨ho.2.2, fun e => by have := ho.lt e; omega⟩

/-- what the reader answers -/
def LyP (s : ByteArray) (c B : Nat) (w0 : World) (e : Ending) (w' : World) : Prop := ∃ (u : Value) (l : List Le) (q : Nat) (b : Bool), e = .returned u ∧ OL B w0 w' u l ∧ Cu w' c s q b ∧ (l.length ≤ 30 ∧ q ≤ s.size) ∧ (∀ f ∈ l, f.n.size ≤ s.size ∧ f.v.size ≤ s.size) ∧
  (b = true → LV.rawL s 0 = none) ∧ (b = false → (LV.rawL s 0 = none ∧ 24 < l.length) ∨ LV.rawL s 0 = some (l, q))
def LyR (s : ByteArray) (c n q0 B : Nat) (w0 : World) (u i : Value) (wr : World) : Prop := ∃ (m q : Nat) (l : List Le) (b : Bool), m ≤ n ∧ m ≤ 30 ∧ i = .int .i64 m ∧ Hid (LyI s q0 m q l b ∧ OL B w0 wr u l ∧ Cu wr c s q b)

set_option maxRecDepth 100000 in
set_option maxHeartbeats 1000000 in
theorem l09Leaves_at (c : Nat) (s : ByteArray) (B : Nat) (w0 w : World) (h : Cu w c s 0 false) (hB : B ≤ c) (hb : Below B w0 w) (hs : s.size ≤ 1048576) :
    Calls Tryz.prog 58 #[.pointer (some ⟨c, 0, none⟩)] w (LyP s c B w0) := by
  have hcl := h.lt
  have HO : Hid (OL B w0 (w.alloc (.cells #[] 34)) (.slice (some ⟨w.heap.size, 0, none⟩) 0 0) []) := OL.made B w0 w hb (by omega)
  have HC : Hid (Cu (w.alloc (.cells #[] 34)) c s 0 false) := h.later ((Below.refl _ _).alloc (Nat.le_refl _) _)
  have h1 := l09Var_at c s 0 _ HC.out hs (by omega)
  clear h hb
  cases hr : M.readVar s.data.toList 0 with
  | none =>
    have hraw := LV.rawL_none hr
    simp only [hr] at h1
    go_enter Tryz.func58, Tryz.ntmps58
    go_wp2_with fail
    refine h1.mono ?_
    rintro e w1 ⟨⟨rfl, hc1⟩, hg1⟩
    have HF : Hid (OL B w0 w1 (.slice (some ⟨w.heap.size, 0, none⟩) 0 0) [] ∧ Cu w1 c s 0 true) := ⟨HO.out.grown hg1 (fun q hq => by cases hq; exact ⟨hB, HO.out.ne HC.out (by decide)⟩), hc1⟩
    have d2 := hc1.c2
    have hcl1 := hc1.lt
    clear h1 hc1 hg1 HO HC
    go_wp2
    go_loopw [3, 5] (fun u i wr => u = .slice (some ⟨w.heap.size, 0, none⟩) 0 0 ∧ i = .int .i64 0 ∧ wr = w1) (fun _ _ _ => 0)
    case atStart => exact ⟨rfl, rfl, rfl⟩
    case round =>
      obtain ⟨rfl, rfl, rfl⟩ := hrel
      go_wp2
      go_ret
      exact ⟨_, [], 0, true, rfl, HF.out.1, HF.out.2, ⟨by simp, Nat.zero_le _⟩, fun f hf => absurd hf (by simp), fun _ => hraw, fun h => by cases h⟩
  | some y =>
    obtain ⟨n, q0⟩ := y
    obtain ⟨hq0, hN⟩ := read_bound s 0 n q0 hr
    have HRG : Hid (24 < n → LV.rawL s 0 = none) := fun h => LV.rawL_great hr h
    have HRA : Hid (¬ 24 < n → LV.rawL s 0 = LV.leavesF s n q0) := fun h => LV.rawL_at hr h
    simp only [hr] at h1
    clear hr
    go_enter Tryz.func58, Tryz.ntmps58
    go_wp2_with fail
    refine h1.mono ?_
    rintro e w1 ⟨⟨rfl, hc1⟩, hg1⟩
    have HST : Hid (LyR s c n q0 B w0 (.slice (some ⟨w.heap.size, 0, none⟩) 0 0) (.int .i64 0) w1) := ⟨0, q0, [], false, by omega, by omega, rfl, LyI.start hq0, HO.out.grown hg1 (fun q hq => by cases hq; exact ⟨hB, HO.out.ne HC.out (by decide)⟩), hc1⟩
    clear h1 hc1 hg1 HO HC hcl
    go_wp2
    go_loopw [3, 5] (fun u i wr => LyR s c n q0 B w0 u i wr) (fun _ i _ => 31 - (intOf i).toNat)
    case atStart => exact HST.out
    case round =>
      obtain ⟨m, q, l, b, hm, hm30, rfl, HI⟩ := hrel
      clear HST
      have d2 := HI.out.2.2.c2
      have hcl := HI.out.2.2.lt
      obtain ⟨au, cu, rfl⟩ := HI.out.2.1.shape
      have hlm : l.length = m := HI.out.1.2.1
      rw [hlm]
      have HLM : Hid (l.length = m) := hlm
      rw [hlm] at HI
      clear hlm
      by_cases hstop : m < n ∧ m < 30 ∧ b = false
      · obtain ⟨hmn, hm3, rfl⟩ := hstop
        have i1 : (m : Int) < (n : Int) := by omega
        have i3 : (m : Int) < 30 := by omega
        have hq := HI.out.1.2.2.1
        have hown : OL B w0 wr (.slice au m cu) l := HI.out.2.1
        cases hf1 : LV.shortAt s q with
        | none =>
          have h2 := l09Short_no c s q false wr HI.out.2.2 hs hq (.inr hf1)
          have HN : Hid (LyI s q0 (m + 1) q (l ++ [⟨⟨#[]⟩, ⟨#[]⟩⟩]) true) := LyI.bad HI.out.1 (leafAt_first hf1) ⟨Nat.zero_le _, Nat.zero_le _⟩ hq
          clear HRG HRA hf1
          go_wp2_with fail
          refine h2.mono ?_
          rintro e w2 ⟨⟨rfl, hc2⟩, hg2⟩
          have ho2 := hown.grown hg2 (fun q hq => by cases hq; exact ⟨hB, hown.ne HI.out.2.2 (by decide)⟩)
          have h3 := l09Short_no c s q true _ (hc2.later ((Below.refl _ _).alloc (Nat.le_refl _) (.cells #[.string ⟨#[]⟩, .string ⟨#[]⟩] 34))) hs hq (.inl rfl)
          clear h2 hg2
          go_wp2_with fail
          refine h3.mono ?_
          rintro e w3 ⟨⟨rfl, hc3⟩, hg3⟩
          have hst := Ly_store (a := ⟨#[]⟩) ho2 hc2 hB hg3 hc3 ⟨#[]⟩
          have HS : Hid (BL (w3.setCell ⟨w2.heap.size, 1, none⟩ (.string ⟨#[]⟩)) w2.heap.size ⟨#[]⟩ ⟨#[]⟩ ∧ OL B w0 (w3.setCell ⟨w2.heap.size, 1, none⟩ (.string ⟨#[]⟩)) (.slice au m cu) l ∧ Cu (w3.setCell ⟨w2.heap.size, 1, none⟩ (.string ⟨#[]⟩)) c s q true) := hst.2
          have x1 := hst.1.c1
          have y1 := hst.1.f1
          have z0 := hst.2.1.c0
          have z1 := hst.2.1.c1
          have hba : Below (w3.setCell ⟨w2.heap.size, 1, none⟩ (.string ⟨#[]⟩)).heap.size (w3.setCell ⟨w2.heap.size, 1, none⟩ (.string ⟨#[]⟩)) ((w3.setCell ⟨w2.heap.size, 1, none⟩ (.string ⟨#[]⟩)).alloc (.cells #[.string ⟨#[]⟩, .string ⟨#[]⟩] 34)) := (Below.refl _ _).alloc (Nat.le_refl _) _
          have hoa := HS.out.2.1.later hba
          have HRN : Hid (((w3.setCell ⟨w2.heap.size, 1, none⟩ (.string ⟨#[]⟩)).alloc (.cells #[.string ⟨#[]⟩, .string ⟨#[]⟩] 34)).rangeAt w3.heap.size 0 (lcs ⟨⟨#[]⟩, ⟨#[]⟩⟩)) := range_at (by simp) (range_new _ [.string ⟨#[]⟩, .string ⟨#[]⟩] 34)
          have HCA : Hid (Cu ((w3.setCell ⟨w2.heap.size, 1, none⟩ (.string ⟨#[]⟩)).alloc (.cells #[.string ⟨#[]⟩, .string ⟨#[]⟩] 34)) c s q true) := HS.out.2.2.later hba
          clear hst hg3 hc3 HS hba h3
          go_wp2_with (at_builtin; refine wp_leaf rfl _ _ rfl B w0 (.slice au m cu) l ⟨⟨#[]⟩, ⟨#[]⟩⟩ rfl hoa _ rfl HRN.out (by have := HLM.out; omega) ?_)
          intro g5 cap5 w5 ho5 hg5
          have HJ : Hid (LyI s q0 (m + 1) q (l ++ [⟨⟨#[]⟩, ⟨#[]⟩⟩]) true ∧ OL B w0 w5 (.slice (some ⟨g5, 0, none⟩) (l.length + 1) cap5) (l ++ [⟨⟨#[]⟩, ⟨#[]⟩⟩]) ∧ Cu w5 c s q true) := ⟨HN.out, ho5, HCA.out.grown hg5 (Ne.symm (hoa.ne HCA.out (by decide)))⟩
          clear ho5 hg5 hoa HCA HRN HI hown ho2 hc2
          go_wp2
          go_roundw
          case rel => exact ⟨m + 1, q, _, true, by omega, by omega, by go_num, HJ⟩
          case measure => simp [intOf]; omega
        | some z =>
          obtain ⟨a, r⟩ := z
          have hr := (LV.shortAt_some hq hf1).2.1
          have hsa := LV.shortAt_size hf1
          have h2 := l09Short_yes c s q r a wr HI.out.2.2 hs hq hf1
          cases hf2 : LV.shortAt s r with
          | none =>
            have HN : Hid (LyI s q0 (m + 1) r (l ++ [⟨a, ⟨#[]⟩⟩]) true) := LyI.bad HI.out.1 (leafAt_second hf1 hf2) ⟨hsa, Nat.zero_le _⟩ hr
            clear HRG HRA hf1
            go_wp2_with fail
            refine h2.mono ?_
            rintro e w2 ⟨⟨rfl, hc2⟩, hg2⟩
            have ho2 := hown.grown hg2 (fun q hq => by cases hq; exact ⟨hB, hown.ne HI.out.2.2 (by decide)⟩)
            have h3 := l09Short_no c s r false _ (hc2.later ((Below.refl _ _).alloc (Nat.le_refl _) (.cells #[.string a, .string ⟨#[]⟩] 34))) hs hr (.inr hf2)
            clear h2 hg2
            go_wp2_with fail
            refine h3.mono ?_
            rintro e w3 ⟨⟨rfl, hc3⟩, hg3⟩
            have hst := Ly_store (a := a) ho2 hc2 hB hg3 hc3 ⟨#[]⟩
            have HS : Hid (BL (w3.setCell ⟨w2.heap.size, 1, none⟩ (.string ⟨#[]⟩)) w2.heap.size a ⟨#[]⟩ ∧ OL B w0 (w3.setCell ⟨w2.heap.size, 1, none⟩ (.string ⟨#[]⟩)) (.slice au m cu) l ∧ Cu (w3.setCell ⟨w2.heap.size, 1, none⟩ (.string ⟨#[]⟩)) c s r true) := hst.2
            have x1 := hst.1.c1
            have y1 := hst.1.f1
            have z0 := hst.2.1.c0
            have z1 := hst.2.1.c1
            have hba : Below (w3.setCell ⟨w2.heap.size, 1, none⟩ (.string ⟨#[]⟩)).heap.size (w3.setCell ⟨w2.heap.size, 1, none⟩ (.string ⟨#[]⟩)) ((w3.setCell ⟨w2.heap.size, 1, none⟩ (.string ⟨#[]⟩)).alloc (.cells #[.string a, .string ⟨#[]⟩] 34)) := (Below.refl _ _).alloc (Nat.le_refl _) _
            have hoa := HS.out.2.1.later hba
            have HRN : Hid (((w3.setCell ⟨w2.heap.size, 1, none⟩ (.string ⟨#[]⟩)).alloc (.cells #[.string a, .string ⟨#[]⟩] 34)).rangeAt w3.heap.size 0 (lcs ⟨a, ⟨#[]⟩⟩)) := range_at (by simp) (range_new _ [.string a, .string ⟨#[]⟩] 34)
            have HCA : Hid (Cu ((w3.setCell ⟨w2.heap.size, 1, none⟩ (.string ⟨#[]⟩)).alloc (.cells #[.string a, .string ⟨#[]⟩] 34)) c s r true) := HS.out.2.2.later hba
            clear hst hg3 hc3 HS hba h3
            go_wp2_with (at_builtin; refine wp_leaf rfl _ _ rfl B w0 (.slice au m cu) l ⟨a, ⟨#[]⟩⟩ rfl hoa _ rfl HRN.out (by have := HLM.out; omega) ?_)
            intro g5 cap5 w5 ho5 hg5
            have HJ : Hid (LyI s q0 (m + 1) r (l ++ [⟨a, ⟨#[]⟩⟩]) true ∧ OL B w0 w5 (.slice (some ⟨g5, 0, none⟩) (l.length + 1) cap5) (l ++ [⟨a, ⟨#[]⟩⟩]) ∧ Cu w5 c s r true) := ⟨HN.out, ho5, HCA.out.grown hg5 (Ne.symm (hoa.ne HCA.out (by decide)))⟩
            clear ho5 hg5 hoa HCA HRN HI hown ho2 hc2
            go_wp2
            go_roundw
            case rel => exact ⟨m + 1, r, _, true, by omega, by omega, by go_num, HJ⟩
            case measure => simp [intOf]; omega
          | some z =>
            obtain ⟨t, v⟩ := z
            have HN : Hid (LyI s q0 (m + 1) v (l ++ [⟨a, t⟩]) false) := LyI.more HI.out.1 (leafAt_both hf1 hf2)
            clear HRG HRA hf1
            go_wp2_with fail
            refine h2.mono ?_
            rintro e w2 ⟨⟨rfl, hc2⟩, hg2⟩
            have ho2 := hown.grown hg2 (fun q hq => by cases hq; exact ⟨hB, hown.ne HI.out.2.2 (by decide)⟩)
            have h3 := l09Short_yes c s r v t _ (hc2.later ((Below.refl _ _).alloc (Nat.le_refl _) (.cells #[.string a, .string ⟨#[]⟩] 34))) hs hr hf2
            clear h2 hg2
            go_wp2_with fail
            refine h3.mono ?_
            rintro e w3 ⟨⟨rfl, hc3⟩, hg3⟩
            have hst := Ly_store (a := a) ho2 hc2 hB hg3 hc3 t
            have HS : Hid (BL (w3.setCell ⟨w2.heap.size, 1, none⟩ (.string t)) w2.heap.size a t ∧ OL B w0 (w3.setCell ⟨w2.heap.size, 1, none⟩ (.string t)) (.slice au m cu) l ∧ Cu (w3.setCell ⟨w2.heap.size, 1, none⟩ (.string t)) c s v false) := hst.2
            have x1 := hst.1.c1
            have y1 := hst.1.f1
            have z0 := hst.2.1.c0
            have z1 := hst.2.1.c1
            have hba : Below (w3.setCell ⟨w2.heap.size, 1, none⟩ (.string t)).heap.size (w3.setCell ⟨w2.heap.size, 1, none⟩ (.string t)) ((w3.setCell ⟨w2.heap.size, 1, none⟩ (.string t)).alloc (.cells #[.string a, .string t] 34)) := (Below.refl _ _).alloc (Nat.le_refl _) _
            have hoa := HS.out.2.1.later hba
            have HRN : Hid (((w3.setCell ⟨w2.heap.size, 1, none⟩ (.string t)).alloc (.cells #[.string a, .string t] 34)).rangeAt w3.heap.size 0 (lcs ⟨a, t⟩)) := range_at (by simp) (range_new _ [.string a, .string t] 34)
            have HCA : Hid (Cu ((w3.setCell ⟨w2.heap.size, 1, none⟩ (.string t)).alloc (.cells #[.string a, .string t] 34)) c s v false) := HS.out.2.2.later hba
            clear hst hg3 hc3 HS hba h3
            go_wp2_with (at_builtin; refine wp_leaf rfl _ _ rfl B w0 (.slice au m cu) l ⟨a, t⟩ rfl hoa _ rfl HRN.out (by have := HLM.out; omega) ?_)
            intro g5 cap5 w5 ho5 hg5
            have HJ : Hid (LyI s q0 (m + 1) v (l ++ [⟨a, t⟩]) false ∧ OL B w0 w5 (.slice (some ⟨g5, 0, none⟩) (l.length + 1) cap5) (l ++ [⟨a, t⟩]) ∧ Cu w5 c s v false) := ⟨HN.out, ho5, HCA.out.grown hg5 (Ne.symm (hoa.ne HCA.out (by decide)))⟩
            clear ho5 hg5 hoa HCA HRN HI hown ho2 hc2
            go_wp2
            go_roundw
            case rel => exact ⟨m + 1, v, _, false, by omega, by omega, by go_num, HJ⟩
            case measure => simp [intOf]; omega
      · have HF : Hid (∃ (l : List Le) (q : Nat) (b : Bool), OL B w0 wr (.slice au m cu) l ∧ Cu wr c s q b ∧ (l.length ≤ 30 ∧ q ≤ s.size) ∧ (∀ f ∈ l, f.n.size ≤ s.size ∧ f.v.size ≤ s.size) ∧ (b = true → LV.rawL s 0 = none) ∧ (b = false → (LV.rawL s 0 = none ∧ 24 < l.length) ∨ LV.rawL s 0 = some (l, q))) := by
          obtain ⟨⟨j1, j2, j3, j4, j5⟩, ho, hc⟩ := HI.out
          refine ⟨l, q, b, ho, hc, ⟨by omega, j3⟩, j1, fun hb => ?_, fun hb => ?_⟩
          · by_cases h24 : 24 < n
            · exact HRG.out h24
            · rw [HRA.out h24]
              exact LV.leavesF_none (j5 hb) n hm
          · by_cases h24 : 24 < n
            · refine .inl ⟨HRG.out h24, ?_⟩
              have : ¬ (m < n ∧ m < 30) := fun h => hstop ⟨h.1, h.2, hb⟩
              omega
            · have hmn : m = n := by
                have : ¬ (m < n ∧ m < 30) := fun h => hstop ⟨h.1, h.2, hb⟩
                omega
              rw [HRA.out h24, ← hmn]
              exact .inr (j4 hb)
        clear HI HRG HRA
        by_cases hmn : m < n
        · have i1 : (m : Int) < (n : Int) := by omega
          by_cases hm3 : m < 30
          · have i3 : (m : Int) < 30 := by omega
            obtain rfl : b = true := by
              cases b
              · exact absurd ⟨hmn, hm3, rfl⟩ hstop
              · rfl
            go_wp2
            go_ret
            obtain ⟨l2, q2, b2, h2⟩ := HF.out
            exact ⟨_, l2, q2, b2, rfl, h2⟩
          · have i3 : ¬ (m : Int) < 30 := by omega
            go_wp2
            go_ret
            obtain ⟨l2, q2, b2, h2⟩ := HF.out
            exact ⟨_, l2, q2, b2, rfl, h2⟩
        · have i1 : ¬ (m : Int) < (n : Int) := by omega
          go_wp2
          go_ret
          obtain ⟨l2, q2, b2, h2⟩ := HF.out
          exact ⟨_, l2, q2, b2, rfl, h2⟩

end Go.Proofs.YtmcejkfknbjjkaaGreatDoor
/-
  Leaves read of a whole text by the specification, and the walk of the law FnExactReadLeaves: it answers true of every text.
-/
namespace Go.Proofs.YtmcejkfknbjjkaaGreatDoor
open Go.RowKit Go.BigFrame Go.Sort
set_option linter.unusedVariables false
set_option linter.unusedSimpArgs false

theorem raw_text {s : ByteArray} {l : List Le} {q : Nat} (h : LV.rawL s 0 = some (l, q)) : q ≤ s.size ∧ (LV.lvL l = s.data.toList ↔ q = s.size) := by
  cases hr : M.readVar s.data.toList 0 with
  | none => rw [LV.rawL_none hr] at h; cases h
  | some y =>
    obtain ⟨n, q0⟩ := y
    obtain ⟨hq0, hN⟩ := read_bound s 0 n q0 hr
    by_cases hn : 24 < n
    · rw [LV.rawL_great hr hn] at h; cases h
    · rw [LV.rawL_at hr hn] at h
      obtain ⟨h1, h2, h3, h4⟩ := LV.leavesF_some hq0 h
      have hc := LV.read_canon (Nat.zero_le _) hr
      have hp := LV.read_past _ _ _ _ hr
      have hL : s.data.toList.length = s.size := Array.length_toList
      have e : LV.lvL l = LV.cutL s.data.toList 0 q := by
        unfold LV.lvL
        rw [h3, ← hc, ← h4, LV.cutL_join _ 0 q0 q (by omega) h1]
      refine ⟨h2, ?_⟩
      rw [e]
      constructor
      · intro he
        have h5 := LV.cutL_len s.data.toList 0 q (by omega) (by omega)
        rw [he] at h5
        omega
      · intro he
        rw [he]
        unfold LV.cutL
        simp only [List.drop_zero, Nat.sub_zero]
        exact List.take_of_length_le (by omega)
theorem text_is {s : ByteArray} {l : List Le} (h : LV.leavesB l = true) : lvT l = s ↔ LV.lvL l = s.data.toList := by
  rw [lvT_yes h]
  constructor
  · intro e; rw [← e]
  · intro e
    exact ByteArray.ext (by rw [e])

end Go.Proofs.YtmcejkfknbjjkaaGreatDoor
/-
  The library's own contract on strings.Join, laid at this program: a table of numbers and two theorems.
-/
namespace Go.Proofs
open Go.Shelf
end Go.Proofs
/-
  A proof as a text: the program's and the specification's answers.
-/
namespace Go.Proofs.YtmcejkfknbjjkaaGreatDoor
open Go.RowKit Go.BigFrame Go.Sort
set_option linter.unusedVariables false
set_option linter.unusedSimpArgs false

/-- texts behind one another -/
def joinT (S : List ByteArray) : ByteArray := ⟨(S.map (·.data.toList)).flatten.toArray⟩
theorem joinT_none : joinT [] = ⟨#[]⟩ := rfl
theorem joinT_snoc (S : List ByteArray) (t : ByteArray) : joinT (S ++ [t]) = joinT S ++ t := by
  apply ByteArray.ext
  apply Array.toList_inj.1
  simp [joinT, ByteArray.data_append]
theorem joinT_take {S : List ByteArray} {m : Nat} (h : m < S.length) : joinT (S.take (m + 1)) = joinT (S.take m) ++ S[m] := by
  rw [← List.take_append_getElem h, joinT_snoc]
theorem join_flat (X : List (List UInt8)) : Lib.join X [] = X.flatten := by
  cases X with
  | nil => rfl
  | cons x r =>
    rw [Lib.join_cons]
    unfold Lib.joinTail
    simp
theorem join_is (S : List ByteArray) : (⟨(Lib.join (S.map (·.data.toList)) []).toArray⟩ : ByteArray) = joinT S := by
  rw [join_flat]
  rfl
theorem joinT_cons (t : ByteArray) (S : List ByteArray) : joinT (t :: S) = t ++ joinT S := by
  apply ByteArray.ext
  apply Array.toList_inj.1
  simp [joinT, ByteArray.data_append]
theorem joinT_size {x : Int} {S : List ByteArray} (h : ∀ s ∈ S, s.size ≤ 1048576) : (joinT S).size ≤ S.length * 1048576 := by
  induction S with
  | nil => exact Nat.zero_le _
  | cons s S ih =>
    have h1 := ih (fun t ht => h t (List.mem_cons_of_mem _ ht))
    have h2 := h s (List.mem_cons_self ..)
    rw [joinT_cons, ByteArray.size_append]
    simp only [List.length_cons]
    omega
noncomputable def pxB (L : List Le) (S : List ByteArray) (x : Int) : Bool := LV.leavesB L && sidB S x
noncomputable def pxT (L : List Le) (S : List ByteArray) (x : Int) : ByteArray := if pxB L S x then lvT L ++ ⟨(M.varL S.length).toArray⟩ ++ joinT S else ⟨#[]⟩
theorem lvT_le (L : List Le) : (lvT L).size ≤ 1100 := by
  cases h : LV.leavesB L with
  | false => rw [lvT_no h]; exact Nat.zero_le _
  | true =>
    rw [lvT_yes h]
    have h2 := LV.leavesB_iff.1 h
    have h3 := LV.ltL_len h2.2.1
    have h4 := M.varL_len L.length
    have h5 := h2.1
    show (LV.lvL L).toArray.size ≤ 1100
    unfold LV.lvL
    simp only [List.size_toArray, List.length_append]
    omega
theorem varT_le (n : Nat) : (⟨(M.varL n).toArray⟩ : ByteArray).size ≤ 10 := by
  show (M.varL n).toArray.size ≤ 10
  have := M.varL_len n
  simpa using this
theorem sid_sizes {S : List ByteArray} {x : Int} (h : sidB S x = true) : S.length ≤ 8 ∧ ∀ s ∈ S, s.size ≤ 32 := by
  unfold sidB wideB at h
  simp only [Bool.and_eq_true, decide_eq_true_eq, List.all_eq_true] at h
  refine ⟨h.1, fun s hs => ?_⟩
  have := h.2.1 s hs
  omega
theorem sid_join {S : List ByteArray} {x : Int} (h : sidB S x = true) (m : Nat) : (joinT (S.take m)).size ≤ 8 * 1048576 := by
  obtain ⟨h1, h2⟩ := sid_sizes h
  have h3 := joinT_size (x := 0) (S := S.take m) (fun s hs => by have := h2 s (List.mem_of_mem_take hs); omega)
  have h4 : (S.take m).length ≤ 8 := by simp; omega
  exact Nat.le_trans h3 (Nat.mul_le_mul_right _ h4)

def PjR (w : World) (U : ByteArray) (S : List ByteArray) (t i : Value) (wr : World) : Prop := ∃ m : Nat, m ≤ S.length ∧ i = .int .i64 m ∧ t = .string (U ++ joinT (S.take m)) ∧ Hid (Below w.heap.size w wr)

set_option maxRecDepth 100000 in
set_option maxHeartbeats 1000000 in
theorem sProofText_any (vb vs : Value) (gb ob gs os : Nat) (L : List Le) (S : List ByteArray) (x : Int) (w : World) (hb : RS 2 lcs w vb gb ob L) (hsm : SmallL L) (hs : SS w vs gs os S) :
    Calls Tryz.prog 51 #[.agg #[vb, vs], .int .i64 x] w fun e w' => e = .returned (.tuple #[.string (pxT L S x), .bool (pxB L S x)]) ∧ Below w.heap.size w w' := by
  obtain ⟨p0, p1⟩ := run_rangeP (w := w) (p := 0) (v1 := vb) (v2 := vs) 43
  have hba : Below w.heap.size w (w.alloc (.cells #[vb, vs] 43)) := (Below.refl _ _).alloc (Nat.le_refl _) _
  have HBS : Hid (∀ W, Below w.heap.size w W → RS 2 lcs W vb gb ob L ∧ SS W vs gs os S) := fun W hW => ⟨hb.later hW, hs.below hW hs.lt⟩
  have HPP : Hid (∀ W, Below (w.alloc (.cells #[vb, vs] 43)).heap.size (w.alloc (.cells #[vb, vs] 43)) W → W.cell? ⟨w.heap.size, 0, none⟩ = some vb ∧ W.cell? ⟨w.heap.size, 1, none⟩ = some vs ∧ Below w.heap.size w W) := fun W hW => ⟨cell_up p0 hW, cell_up p1 hW, hba.trans (hW.mono hba.size)⟩
  have hlt := sLeavesText_any vb gb ob L _ (HBS.out _ hba).1 hsm
  have HSD : Hid (∀ W, Below w.heap.size w W → Calls Tryz.prog 71 #[vs, .int .i64 x] W fun e w' => e = .returned (.bool (wideB S x)) ∧ w' = W) := fun W hW => l11Wide_any vs gs os S x W (HBS.out W hW).2
  have hT1 := lvT_le L
  have HR : Hid (pxB L S x = (LV.leavesB L && (decide (S.length ≤ 8) && wideB S x)) ∧ pxT L S x = if pxB L S x then lvT L ++ ⟨(M.varL S.length).toArray⟩ ++ joinT S else ⟨#[]⟩) := ⟨rfl, rfl⟩
  have HVT : Hid (∀ W, S.length ≤ 8 → Calls Tryz.prog 106 #[.int .i64 (S.length : Int)] W fun e w' => e = .returned (.string ⟨(M.varL S.length).toArray⟩) ∧ Below W.heap.size W w') := fun W h => l01Var_any S.length W (by omega)
  have HS8 : Hid ((decide (S.length ≤ 8) && wideB S x) = true → ∀ m, (joinT (S.take m)).size ≤ 8 * 1048576) := fun h m => sid_join (x := x) h m
  have HS9 : Hid ((decide (S.length ≤ 8) && wideB S x) = true → ∀ s ∈ S, s.size ≤ 32) := fun h => (sid_sizes (x := x) h).2
  have hT2 := varT_le S.length
  obtain ⟨aS, cS, rfl, hy1, hy2, hy3⟩ := hs
  obtain ⟨nS, hnS⟩ : ∃ nS, S.length = nS := ⟨_, rfl⟩
  have HN : Hid (S.length = nS) := hnS
  have HA : Hid (0 < nS → aS = some ⟨gs, os, none⟩) := by rw [← hnS]; exact hy2
  clear hy2 hy3
  rw [hnS] at hy1 hba p0 p1 HBS HPP HSD HR HVT HS8 HS9 hT2 hlt ⊢
  clear hnS
  generalize pxB L S x = B at *
  generalize pxT L S x = T at *
  generalize (⟨(M.varL nS).toArray⟩ : ByteArray) = V at *
  generalize wideB S x = A3 at *
  generalize LV.leavesB L = A1 at *
  generalize lvT L = LT at *
  clear hb hsm
  go_enter Tryz.func51, Tryz.ntmps51
  go_wp2_with fail
  refine hlt.mono ?_
  rintro e w1 ⟨rfl, hb1⟩
  obtain ⟨k0, k1, b1⟩ := HPP.out _ hb1
  clear hlt p0 p1 HPP
  cases A1 with
  | false =>
    obtain ⟨e1, e2⟩ := HR.out
    rw [Bool.false_and] at e1
    subst e1
    simp only [Bool.false_eq_true, if_false] at e2
    subst e2
    clear HR HSD HVT HS8 HS9
    go_wp2
    go_ret2
    exact ⟨rfl, b1⟩
  | true =>
    by_cases h8 : nS ≤ 8
    · go_wp2_with fail
      refine (HSD.out _ b1).mono ?_
      rintro e w2 ⟨rfl, hw2⟩
      subst hw2
      obtain ⟨e1, e2⟩ := HR.out
      rw [Bool.true_and, decide_eq_true h8, Bool.true_and] at e1
      subst e1
      cases B with
      | false =>
        simp only [Bool.false_eq_true, if_false] at e2
        subst e2
        clear HR HSD HVT HS8 HS9
        go_wp2
        go_ret2
        exact ⟨rfl, b1⟩
      | true =>
        simp only [if_true] at e2
        have hJ := HS8.out (by simp [h8])
        have hS := HS9.out (by simp [h8])
        have z1 : ¬ 9223372036854775807 < LT.size + V.size := by omega
        have hvt := fun W => HVT.out W h8
        have HT : Hid (T = LT ++ V ++ joinT S) := e2
        clear HR HSD HVT HS8 HS9 e2
        go_wp2_with fail
        refine (hvt _).mono ?_
        rintro e w3 ⟨rfl, hb3⟩
        have b3 := b1.trans (hb3.mono b1.size)
        have l1 := cell_up k1 hb3
        have HK1 : Hid (∀ W, Below w3.heap.size w3 W → W.cell? ⟨w.heap.size, 1, none⟩ = some (.slice aS nS cS)) := fun W hW => cell_up l1 hW
        have HB3 : Hid (Below w.heap.size w w3) := b3
        have hU : (LT ++ V).size ≤ 2000 := by rw [ByteArray.size_append]; omega
        have HST : Hid (PjR w3 (LT ++ V) S (.string (LT ++ V)) (.int .i64 0) w3) := ⟨0, by omega, rfl, by rw [List.take_zero, joinT_none]; congr 1; exact (ByteArray.append_empty (b := LT ++ V)).symm, Below.refl _ _⟩
        have HJJ : Hid (∀ m, (joinT (S.take m)).size ≤ 8 * 1048576) := hJ
        have HSS : Hid (∀ s ∈ S, s.size ≤ 32) := hS
        clear k0 k1 hb3 b3 b1 hb1 hJ hS hT1 hT2
        have hqd : decide ((8 : Int) < (nS : Int)) = false := decide_eq_false (by omega)
        go_wp2
        try simp only [hqd]
        generalize LT ++ V = U at *
        go_loopw [6, 8] (fun t i wr => PjR w3 U S t i wr) (fun _ i _ => nS - (intOf i).toNat)
        case atStart => exact HST.out
        case round =>
          obtain ⟨m, hm, rfl, rfl, HI⟩ := hrel
          clear HST
          rw [HN.out] at hm
          have c1 := HK1.out _ HI.out
          by_cases hlt : m < nS
          · have ea := HA.out (by omega)
            subst ea
            have hmS : m < S.length := by rw [HN.out]; exact hlt
            have c0 : wr.cell? ⟨gs, os + m, none⟩ = some (.string S[m]) := by
              obtain ⟨_, _, _, _, _, h6⟩ := (HBS.out wr (HB3.out.trans (HI.out.mono HB3.out.size))).2
              exact h6 m hmS
            have hst := joinT_take hmS
            have hj := HJJ.out m
            have hs32 := HSS.out _ (List.getElem_mem hmS)
            have HNX : Hid (∀ W, Below wr.heap.size wr W → PjR w3 U S (.string (U ++ (joinT (S.take m) ++ S[m]))) (.int .i64 ((m : Int) + 1)) W) := fun W hW => ⟨m + 1, by omega, by congr 1, by rw [hst], HI.out.trans (hW.mono HI.out.size)⟩
            rw [← ByteArray.append_assoc] at HNX
            clear hst
            generalize S[m] = X at *
            generalize joinT (S.take m) = J at *
            have z2 : ¬ 9223372036854775807 < (U ++ J).size + X.size := by rw [ByteArray.size_append]; omega
            have z3 : ¬ 9223372036854775807 < U.size + J.size + X.size := by omega
            have i1 : (m : Int) < (nS : Int) := by omega
            have i2 : (0 : Int) ≤ (m : Int) := by omega
            have HK : Hid (PjR w3 U S (.string (U ++ J ++ X)) (.int .i64 ((m : Int) + 1)) wr) := HNX.out _ (Below.refl _ _)
            clear HNX hj hs32
            go_wp2
            go_roundw
            case rel => exact HK.out
            case measure => simp [intOf]; omega
          · have hme : m = nS := by omega
            have i1 : ¬ (m : Int) < (nS : Int) := by omega
            have hT : T = U ++ joinT (S.take m) := by rw [HT.out, List.take_of_length_le (by rw [HN.out]; omega)]
            have bF := HB3.out.trans (HI.out.mono HB3.out.size)
            clear HI HBS HA
            go_wp2
            go_ret2
            exact ⟨rfl, bF⟩
    · obtain ⟨e1, e2⟩ := HR.out
      rw [Bool.true_and, decide_eq_false h8, Bool.false_and] at e1
      subst e1
      simp only [Bool.false_eq_true, if_false] at e2
      subst e2
      have i8 : (8 : Int) < (nS : Int) := by omega
      clear HR HSD HVT HS8 HS9
      go_wp2
      go_ret2
      exact ⟨rfl, b1⟩

end Go.Proofs.YtmcejkfknbjjkaaGreatDoor
/-
  The reader of a proof: its text and its place, and what it wants.
-/
namespace Go.Proofs.YtmcejkfknbjjkaaGreatDoor
open Go.RowKit Go.BigFrame Go.Sort
set_option linter.unusedVariables false
set_option linter.unusedSimpArgs false

/-- the block of a reader: its text and its place -/
def Rd (W : World) (c : Nat) (s : ByteArray) (p : Nat) : Prop := W.heap[c]? = some (.cells #[.string s, .int .i64 (p : Int)] 83 (0, 0))
section
variable {W W' : World} {c p : Nat} {s : ByteArray}
theorem Rd.lt (h : Rd W c s p) : c < W.heap.size := (Array.getElem?_eq_some_iff.1 h).1
theorem Rd.later (h : Rd W c s p) (hb : Below W.heap.size W W') : Rd W' c s p := (hb.block c h.lt).trans h
theorem Rd.grown {row : Option Nat} (h : Rd W c s p) (hg : W.grownBy W' row) (hne : some c ≠ row) : Rd W' c s p := (hg.block c h.lt hne).trans h
theorem Rd.c0 (h : Rd W c s p) : W.cell? ⟨c, 0, none⟩ = some (.string s) := by rw [cell_of_row W c 0 _ _ _ h]; rfl
theorem Rd.c1 (h : Rd W c s p) : W.cell? ⟨c, 1, none⟩ = some (.int .i64 (p : Int)) := by rw [cell_of_row W c 1 _ _ _ h]; rfl
theorem Rd.f1 (h : Rd W c s p) : W.frozen? ⟨c, 1, none⟩ = false := by simp [World.frozen?, show W.heap[c]? = _ from h]
theorem Rd.at (h : Rd W c s p) (q : Nat) : Rd (W.setCell ⟨c, 1, none⟩ (.int .i64 (q : Int))) c s q := heap_setCell_same W c 1 _ _ _ h
end
/-- what the reader panics with -/
def unR : PanicEntry := { v := .iface 172 (.agg #[]), recovered := false }

theorem want_yes (v : Value) (w : World) : Calls Tryz.prog 109 #[v, .bool true] w fun e w' => e = .returned (.tuple #[]) ∧ w' = w := by
  go_enter Tryz.func109, Tryz.ntmps109
  go_wp2
  go_end0
  exact ⟨rfl, rfl⟩
theorem want_no (v : Value) (w : World) : Calls Tryz.prog 109 #[v, .bool false] w fun e w' => e = .panicked [unR] ∧ w' = w := by
  go_enter Tryz.func109, Tryz.ntmps109
  go_wp2
  exact ⟨rfl, rfl, rfl⟩

set_option maxRecDepth 100000 in
set_option maxHeartbeats 1000000 in
theorem readerLeaves_no (c p : Nat) (s : ByteArray) (w : World) (h : Rd w c s p) (hs : s.size ≤ 1048576) (hp : p ≤ s.size) (hno : LV.rawL s p = none ∨ ∃ l q, LV.rawL s p = some (l, q) ∧ LV.leavesB l = false) :
    Calls Tryz.prog 55 #[.pointer (some ⟨c, 0, none⟩)] w fun e w' => e = .panicked [unR] ∧ Below w.heap.size w w' := by
  have HC : Hid (∀ W, Below w.heap.size w W → W.cell? ⟨c, 0, none⟩ = some (.string s) ∧ W.cell? ⟨c, 1, none⟩ = some (.int .i64 (p : Int))) := fun W hW => ⟨(h.later hW).c0, (h.later hW).c1⟩
  have H1 : Hid (∀ W, Calls Tryz.prog 108 #[.string s, .int .i64 (p : Int)] W fun e w' => (∃ a n c q, e = .returned (.tuple #[.slice a n c, .int .i64 q, .bool false])) ∧ Below W.heap.size W w') := fun W => (readLeaves_at s _ p W rfl hs hp).mono fun e w' ⟨hr, hb⟩ => by
    refine ⟨?_, hb⟩
    unfold RvP at hr
    rcases hno with h0 | ⟨l, q, h0, h1⟩
    · simp only [h0] at hr
      exact ⟨_, _, _, _, hr⟩
    · simp only [h0] at hr
      obtain ⟨g, he, _⟩ := hr
      rw [h1] at he
      exact ⟨_, _, _, _, he⟩
  have hb0 : Below w.heap.size w w.drew := (Below.refl _ _).drew
  clear h hno hs hp
  go_enter Tryz.func55, Tryz.ntmps55
  go_wp2
  go_region_held3 (fun W => W.cell? ⟨c, 0, none⟩ = some (.string s) ∧ W.cell? ⟨c, 1, none⟩ = some (.int .i64 (p : Int))) (first | (go_keep; done) | exact HC.out _ hb0) (first | (go_at_call 108; refine (H1.out _).mono ?_; rintro e w1 ⟨⟨a1, n1, c1, q1, rfl⟩, hc1⟩; have hb0 := hb0.trans (hc1.mono hb0.size)) | fail)
  clear HC H1 hc1
  try rename_i hHeld
  try clear hHeld
  go_wp2_with fail
  refine (want_no _ _).mono ?_
  rintro e w2 ⟨rfl, rfl⟩
  go_wp2
  exact ⟨rfl, rfl, hb0⟩

set_option maxRecDepth 100000 in
set_option maxHeartbeats 1000000 in
theorem readerLeaves_yes (c p : Nat) (s : ByteArray) (l : List Le) (q : Nat) (w : World) (h : Rd w c s p) (hs : s.size ≤ 1048576) (hp : p ≤ s.size) (hr : LV.rawL s p = some (l, q)) (hl : LV.leavesB l = true) :
    Calls Tryz.prog 55 #[.pointer (some ⟨c, 0, none⟩)] w fun e w' => ∃ g, e = .returned (.slice (some ⟨g, 0, none⟩) l.length l.length) ∧ RW 2 lcs w' (.slice (some ⟨g, 0, none⟩) l.length l.length) g l ∧ w.heap.size ≤ g ∧ Rd w' c s q ∧ w.grownBy w' (some c) := by
  have HC : Hid (∀ W, Below w.heap.size w W → W.cell? ⟨c, 0, none⟩ = some (.string s) ∧ W.cell? ⟨c, 1, none⟩ = some (.int .i64 (p : Int))) := fun W hW => ⟨(h.later hW).c0, (h.later hW).c1⟩
  have H1 : Hid (∀ W, Calls Tryz.prog 108 #[.string s, .int .i64 (p : Int)] W fun e w' => (∃ g, e = .returned (.tuple #[.slice (some ⟨g, 0, none⟩) l.length l.length, .int .i64 (q : Int), .bool true]) ∧ W.heap.size ≤ g ∧ RW 2 lcs w' (.slice (some ⟨g, 0, none⟩) l.length l.length) g l) ∧ Below W.heap.size W w') := fun W => (readLeaves_at s _ p W rfl hs hp).mono fun e w' ⟨hv, hb⟩ => by
    unfold RvP at hv
    simp only [hr, hl] at hv
    exact ⟨hv, hb⟩
  have hb0 : Below w.heap.size w w.drew := (Below.refl _ _).drew
  have HR : Hid (Rd w c s p) := h
  clear h hr hs hp hl
  go_enter Tryz.func55, Tryz.ntmps55
  go_wp2
  go_region_held3 (fun W => W.cell? ⟨c, 0, none⟩ = some (.string s) ∧ W.cell? ⟨c, 1, none⟩ = some (.int .i64 (p : Int))) (first | (go_keep; done) | exact HC.out _ hb0) (first | (go_at_call 108; refine (H1.out _).mono ?_; rintro e w1 ⟨⟨g, rfl, hg, hrw⟩, hc1⟩; have hsz := hb0.size; have hb0 := hb0.trans (hc1.mono hb0.size)) | fail)
  have h1 := HR.out.later hb0
  have d1 := h1.c1
  have f1 := h1.f1
  have hlt := h1.lt
  have HF : Hid (RW 2 lcs (w1.setCell ⟨c, 1, none⟩ (.int .i64 (q : Int))) (.slice (some ⟨g, 0, none⟩) l.length l.length) g l ∧ w.heap.size ≤ g ∧ Rd (w1.setCell ⟨c, 1, none⟩ (.int .i64 (q : Int))) c s q ∧ w.grownBy (w1.setCell ⟨c, 1, none⟩ (.int .i64 (q : Int))) (some c)) := by
    have hcw := HR.out.lt
    have hgw : w.heap.size ≤ g := by
      have e : w.drew.heap.size = w.heap.size := rfl
      omega
    refine ⟨hrw.grown (grown_setC w1 c 1 _) (fun _ => by simp; omega), hgw, h1.at q, (grown_below hb0).trans (grown_setC w1 c 1 _)⟩
  clear HC H1 hc1 HR h1 hrw hg hsz
  try rename_i hHeld
  try clear hHeld
  go_wp2_with fail
  refine (want_yes _ _).mono ?_
  rintro e w2 ⟨rfl, rfl⟩
  go_wp2
  go_ret
  exact ⟨g, rfl, HF.out⟩

end Go.Proofs.YtmcejkfknbjjkaaGreatDoor
/-
  The reader of a proof: a side, the sides, the end.
-/
namespace Go.Proofs.YtmcejkfknbjjkaaGreatDoor
open Go.RowKit Go.BigFrame Go.Sort
set_option linter.unusedVariables false
set_option linter.unusedSimpArgs false

set_option maxRecDepth 100000 in
set_option maxHeartbeats 1000000 in
theorem readerSide_no (c p : Nat) (s : ByteArray) (x : Nat) (w : World) (h : Rd w c s p) (hs : s.size ≤ 1048576) (hp : p ≤ s.size) (hx : x ≤ 32) (hno : s.size < p + x) :
    Calls Tryz.prog 111 #[.pointer (some ⟨c, 0, none⟩), .int .i64 (x : Int)] w fun e w' => e = .panicked [unR] ∧ Below w.heap.size w w' := by
  have c0 := h.c0
  have c1 := h.c1
  go_enter Tryz.func111, Tryz.ntmps111
  have d0 : w.drew.cell? ⟨c, 0, none⟩ = some (.string s) := c0
  have d1 : w.drew.cell? ⟨c, 1, none⟩ = some (.int .i64 (p : Int)) := c1
  have wr1 : IntKind.i64.wrap ((s.size : Int) - (p : Int)) = (s.size : Int) - (p : Int) := IntWalk.i64_in _ (by omega)
  have q1 : decide ((x : Int) ≤ (s.size : Int) - (p : Int)) = false := decide_eq_false (by omega)
  clear h
  go_wp2
  go_still_tail 13, (by kernel_rfl)
  go_wp2_with fail
  refine (want_no _ _).mono ?_
  rintro e w2 ⟨rfl, rfl⟩
  go_wp2
  exact ⟨rfl, rfl, (Below.refl _ _).drew⟩

set_option maxRecDepth 100000 in
set_option maxHeartbeats 1000000 in
theorem readerSide_yes (c p : Nat) (s : ByteArray) (x : Nat) (w : World) (h : Rd w c s p) (hs : s.size ≤ 1048576) (hx : x ≤ 32) (hyes : p + x ≤ s.size) :
    Calls Tryz.prog 111 #[.pointer (some ⟨c, 0, none⟩), .int .i64 (x : Int)] w fun e w' => e = .returned (.string (piece s p x)) ∧ Rd w' c s (p + x) ∧ w.grownBy w' (some c) := by
  have c0 := h.c0
  have c1 := h.c1
  have hpc := run_piece s p x hyes
  have hps := piece_size s p x
  have HR : Hid (Rd w c s p) := h
  have hlt := h.lt
  go_enter Tryz.func111, Tryz.ntmps111
  have d0 : w.drew.cell? ⟨c, 0, none⟩ = some (.string s) := c0
  have d1 : w.drew.cell? ⟨c, 1, none⟩ = some (.int .i64 (p : Int)) := c1
  have wr1 : IntKind.i64.wrap ((s.size : Int) - (p : Int)) = (s.size : Int) - (p : Int) := IntWalk.i64_in _ (by omega)
  have q1 : decide ((x : Int) ≤ (s.size : Int) - (p : Int)) = true := decide_eq_true (by omega)
  clear h
  go_wp2
  go_still_tail 13, (by kernel_rfl)
  go_wp2_with fail
  refine (want_yes _ _).mono ?_
  rintro e w2 ⟨rfl, hw2⟩
  subst hw2
  have f1 : w.drew.frozen? ⟨c, 1, none⟩ = false := HR.out.f1
  have H2 : Hid (Rd (w.setCell ⟨c, 1, none⟩ (.int .i64 ((p + x : Nat) : Int))).drew c s (p + x) ∧ w.grownBy (w.setCell ⟨c, 1, none⟩ (.int .i64 ((p + x : Nat) : Int))).drew (some c)) := ⟨Rd.later (HR.out.at (p + x)) (Below.refl _ _).drew, (grown_setC w c 1 _).trans (grown_below (Below.refl _ _).drew)⟩
  have e1 : ((p + x : Nat) : Int) = (p : Int) + (x : Int) := by omega
  rw [e1] at H2
  go_wp2
  generalize (w.setCell ⟨c, 1, none⟩ (.int .i64 ((p : Int) + (x : Int)))).drew = W2 at *
  have g0 : W2.drew.cell? ⟨c, 0, none⟩ = some (.string s) := H2.out.1.c0
  have g1 : W2.drew.cell? ⟨c, 1, none⟩ = some (.int .i64 ((p : Int) + (x : Int))) := by have := H2.out.1.c1; rw [e1] at this; exact this
  go_still_tail 10, (by kernel_rfl)
  go_wp2_with fail
  refine (Clone_any _ _ (by omega)).mono ?_
  rintro e w3 ⟨rfl, hb3⟩
  have HF : Hid (Rd w3 c s (p + x) ∧ w.grownBy w3 (some c)) := ⟨(Rd.later (W' := W2.drew) H2.out.1 (Below.refl _ _).drew).later hb3, (H2.out.2.trans (grown_below (Below.refl _ _).drew)).trans (grown_below hb3)⟩
  clear H2 g0 g1 hb3 d0 d1 c0 c1
  go_wp2
  go_ret
  exact ⟨rfl, HF.out⟩

end Go.Proofs.YtmcejkfknbjjkaaGreatDoor
/-
  The reader of a proof: the sides, the end.
-/
namespace Go.Proofs.YtmcejkfknbjjkaaGreatDoor
open Go.RowKit Go.BigFrame Go.Sort
set_option linter.unusedVariables false
set_option linter.unusedSimpArgs false

theorem grown_new {w wr : World} {c g j : Nat} (h : w.grownBy wr (some c)) (hg : w.heap.size ≤ g) (v : Value) : w.grownBy (wr.setCell ⟨g, j, none⟩ v) (some c) := by
  have hs := grown_setC wr g j v
  exact ⟨hs.os.trans h.os, hs.tape.trans h.tape, hs.output.trans h.output, Nat.le_trans h.size hs.size, fun k hk hne => (hs.block k (Nat.lt_of_lt_of_le hk h.size) (by simp; omega)).trans (h.block k hk hne)⟩

/-- k pieces of a text, each x bytes wide, from a place on -/
def sdp (s : ByteArray) (x p k : Nat) : List ByteArray := (List.range k).map fun i => piece s (p + i * x) x
theorem sdp_len (s : ByteArray) (x p k : Nat) : (sdp s x p k).length = k := by simp [sdp]
theorem sdp_at (s : ByteArray) (x p k j : Nat) (h : j < (sdp s x p k).length) : (sdp s x p k)[j] = piece s (p + j * x) x := by simp [sdp]

set_option maxRecDepth 100000 in
set_option maxHeartbeats 1000000 in
theorem readerEnd_yes (c : Nat) (s : ByteArray) (w : World) (h : Rd w c s s.size) :
    Calls Tryz.prog 57 #[.pointer (some ⟨c, 0, none⟩)] w fun e w' => e = .returned (.tuple #[]) ∧ Below w.heap.size w w' := by
  have d0 : w.drew.cell? ⟨c, 0, none⟩ = some (.string s) := h.c0
  have d1 : w.drew.cell? ⟨c, 1, none⟩ = some (.int .i64 (s.size : Int)) := h.c1
  clear h
  go_enter Tryz.func57, Tryz.ntmps57
  go_wp2
  go_still_tail 11, (by kernel_rfl)
  go_wp2_with fail
  refine (want_yes _ _).mono ?_
  rintro e w2 ⟨rfl, rfl⟩
  go_wp2
  go_end0
  exact ⟨rfl, (Below.refl _ _).drew⟩
set_option maxRecDepth 100000 in
set_option maxHeartbeats 1000000 in
theorem readerEnd_no (c p : Nat) (s : ByteArray) (w : World) (h : Rd w c s p) (hp : p ≠ s.size) :
    Calls Tryz.prog 57 #[.pointer (some ⟨c, 0, none⟩)] w fun e w' => e = .panicked [unR] ∧ Below w.heap.size w w' := by
  have d0 : w.drew.cell? ⟨c, 0, none⟩ = some (.string s) := h.c0
  have d1 : w.drew.cell? ⟨c, 1, none⟩ = some (.int .i64 (p : Int)) := h.c1
  have q1 : ((p : Int) == (s.size : Int)) = false := by simp; omega
  clear h
  go_enter Tryz.func57, Tryz.ntmps57
  go_wp2
  go_still_tail 11, (by kernel_rfl)
  go_wp2_with fail
  refine (want_no _ _).mono ?_
  rintro e w2 ⟨rfl, rfl⟩
  go_wp2
  exact ⟨rfl, rfl, (Below.refl _ _).drew⟩

/-- the first m sides of the row that is made are read -/
def RtR (w : World) (c : Nat) (s : ByteArray) (x q n g : Nat) (i : Value) (wr : World) : Prop := ∃ m : Nat, m ≤ n ∧ i = .int .i64 m ∧ q + m * x ≤ s.size ∧ Hid (Rd wr c s (q + m * x) ∧ TB wr g (srow (sdp s x q n) m) ∧ w.grownBy wr (some c) ∧ w.heap.size ≤ g)

set_option maxRecDepth 100000 in
set_option maxHeartbeats 1000000 in
theorem readerSides_yes (c p : Nat) (s : ByteArray) (x n q : Nat) (w : World) (h : Rd w c s p) (hs : s.size ≤ 1048576) (hp : p ≤ s.size) (hx : x ≤ 32) (hr : M.readVar s.data.toList p = some (n, q)) (hn : n ≤ 8) :
    Calls Tryz.prog 56 #[.pointer (some ⟨c, 0, none⟩), .int .i64 (x : Int)] w fun e w' => (if q + n * x ≤ s.size then ∃ g, e = .returned (.slice (some ⟨g, 0, none⟩) n n) ∧ TB w' g (sdp s x q n) ∧ w.heap.size ≤ g ∧ Rd w' c s (q + n * x) else e = .panicked [unR]) ∧ w.grownBy w' (some c) := by
  have hq := (read_bound s p n q hr).1
  have HC : Hid (∀ W, Below w.heap.size w W → W.cell? ⟨c, 0, none⟩ = some (.string s) ∧ W.cell? ⟨c, 1, none⟩ = some (.int .i64 (p : Int))) := fun W hW => ⟨(h.later hW).c0, (h.later hW).c1⟩
  have H1 : Hid (∀ W, Calls Tryz.prog 110 #[.string s, .int .i64 (p : Int)] W fun e w' => e = .returned (.tuple #[.int .i64 n, .int .i64 q, .bool true]) ∧ w' = W) := fun W => ReadVar_some s (p : Int) n q W hs (by omega) (by simpa using hr)
  have hb0 : Below w.heap.size w w.drew := (Below.refl _ _).drew
  have HR : Hid (Rd w c s p) := h
  have i8 : (n : Int) ≤ 8 := by omega
  clear h hr
  obtain ⟨P, hP⟩ : ∃ P : Ending → World → Prop, (fun e w' => (if q + n * x ≤ s.size then ∃ g, e = .returned (.slice (some ⟨g, 0, none⟩) n n) ∧ TB w' g (sdp s x q n) ∧ w.heap.size ≤ g ∧ Rd w' c s (q + n * x) else e = .panicked [unR]) ∧ w.grownBy w' (some c)) = P := ⟨_, rfl⟩
  have HP : Hid (∀ e w', P e w' ↔ (if q + n * x ≤ s.size then ∃ g, e = .returned (.slice (some ⟨g, 0, none⟩) n n) ∧ TB w' g (sdp s x q n) ∧ w.heap.size ≤ g ∧ Rd w' c s (q + n * x) else e = .panicked [unR]) ∧ w.grownBy w' (some c)) := fun e w' => by rw [← hP]
  rw [hP]
  clear hP
  go_enter Tryz.func56, Tryz.ntmps56
  go_wp2
  go_region_held3 (fun W => W.cell? ⟨c, 0, none⟩ = some (.string s) ∧ W.cell? ⟨c, 1, none⟩ = some (.int .i64 (p : Int))) (first | (go_keep; done) | exact HC.out _ hb0) (first | (go_at_call 110; refine (H1.out _).mono ?_; rintro e w1 ⟨rfl, hw1⟩; subst hw1) | fail)
  have h1 := Rd.later (W' := w.drew) HR.out hb0
  have d1 := h1.c1
  have f1 := h1.f1
  have hlt := h1.lt
  obtain ⟨w2, hmk, hib, hb2, hs2⟩ := TB.made n (by omega) (w.setCell ⟨c, 1, none⟩ (.int .i64 (q : Int))).drew
  have hW1 : Rd (w.setCell ⟨c, 1, none⟩ (.int .i64 (q : Int))).drew c s q := Rd.later (HR.out.at q) (Below.refl _ _).drew
  have hG1 : w.grownBy (w.setCell ⟨c, 1, none⟩ (.int .i64 (q : Int))).drew (some c) := (grown_setC w c 1 _).trans (grown_below (Below.refl _ _).drew)
  have hz : (w.setCell ⟨c, 1, none⟩ (.int .i64 (q : Int))).drew.heap.size = w.heap.size := by
    show (w.setCell ⟨c, 1, none⟩ (.int .i64 (q : Int))).heap.size = w.heap.size
    simp
  rw [hz] at hmk hib
  have HST : Hid (RtR w c s x q n w.heap.size (.int .i64 0) w2) := ⟨0, by omega, rfl, by omega, by rw [Nat.zero_mul, Nat.add_zero]; exact hW1.later hb2, by simpa [srow, sdp_len] using hib, hG1.trans (grown_below hb2), Nat.le_refl _⟩
  clear hib hb2 hs2 hW1 hG1 HC H1 h1
  try rename_i hHeld
  try clear hHeld
  go_wp2_with fail
  refine (want_yes _ _).mono ?_
  rintro e w3 ⟨rfl, hw3⟩
  subst hw3
  go_wp2
  clear hmk
  have HRD : Hid (Rd w c s p) := HR.out
  have hcw := HR.out.lt
  clear HR d1 f1 hlt hb0
  go_loopw [38] (fun i wr => RtR w c s x q n w.heap.size i wr) (fun i _ => n - (intOf i).toNat)
  case atStart => exact HST.out
  case round =>
    obtain ⟨m, hm, rfl, hqm, HI⟩ := hrel
    clear HST
    by_cases hlt : m < n
    · have i1 : (m : Int) < (n : Int) := by omega
      have i2 : (0 : Int) ≤ (m : Int) := by omega
      have em : q + (m + 1) * x = q + m * x + x := by rw [Nat.add_mul, Nat.one_mul, Nat.add_assoc]
      by_cases hy : q + m * x + x ≤ s.size
      · have hsd := readerSide_yes c (q + m * x) s x wr HI.out.1 hs hx hy
        have HX : Hid (piece s (q + m * x) x = (sdp s x q n)[m]'(by rw [sdp_len]; exact hlt)) := (sdp_at s x q n m _).symm
        generalize piece s (q + m * x) x = X at *
        go_wp2_with fail
        refine hsd.mono ?_
        rintro e w4 ⟨rfl, hr4, hg4⟩
        have htb : TB w4 w.heap.size (srow (sdp s x q n) m) := by
          obtain ⟨cur, h1, h2⟩ := HI.out.2.1
          refine ⟨cur, ?_, h2⟩
          rw [hg4.block w.heap.size (Array.getElem?_eq_some_iff.1 h1).1 (by simp; omega)]
          exact h1
        have hln : m < (srow (sdp s x q n) m).length := by rw [srow_len _ _ (by rw [sdp_len]; omega), sdp_len]; exact hlt
        have c0 := htb.cell m hln
        have f0 := htb.frozen m
        have hts := htb.set m hln X
        rw [HX.out, srow_step (sdp s x q n) m (by rw [sdp_len]; exact hlt), ← HX.out] at hts
        have HJ : Hid (RtR w c s x q n w.heap.size (.int .i64 ((m : Int) + 1)) (w4.setCell ⟨w.heap.size, m, none⟩ (.string X))) := by
          refine ⟨m + 1, by omega, by congr 1, by rw [em]; exact hy, ?_, hts, grown_new (HI.out.2.2.1.trans hg4) (Nat.le_refl _) _, Nat.le_refl _⟩
          rw [em]
          exact hr4.grown (grown_setC w4 w.heap.size m _) (by simp; omega)
        generalize (srow (sdp s x q n) m)[m] = Y at *
        clear hts htb hsd hr4 hg4 HI HX hln
        go_wp2
        go_roundw
        case rel => exact HJ.out
        case measure => simp [intOf]; omega
      · have hsd := readerSide_no c (q + m * x) s x wr HI.out.1 hs hqm hx (by omega)
        have hno : ¬ q + n * x ≤ s.size := fun hh => by
          have h2 : (m + 1) * x ≤ n * x := Nat.mul_le_mul_right _ hlt
          omega
        have HF : Hid (∀ w', Below wr.heap.size wr w' → P (.panicked [unR]) w') := fun w' hb => by
          rw [HP.out, if_neg hno]
          exact ⟨rfl, HI.out.2.2.1.trans (grown_below hb)⟩
        clear HI
        go_wp2_with fail
        refine hsd.mono ?_
        rintro e w4 ⟨rfl, hb4⟩
        have hF := HF.out _ hb4
        clear HF hb4 hsd HP
        go_wp2
        exact ⟨rfl, hF⟩
    · have hme : m = n := by omega
      subst hme
      have i1 : ¬ (m : Int) < (m : Int) := by omega
      have HF : Hid (P (.returned (.slice (some ⟨w.heap.size, 0, none⟩) m m)) wr) := by
        show P (.returned (.slice (some ⟨w.heap.size, 0, none⟩) m m)) wr
        rw [HP.out, if_pos hqm]
        have e : srow (sdp s x q m) m = sdp s x q m := by
          have := srow_all (sdp s x q m)
          rw [sdp_len] at this
          exact this
        have h2 := HI.out.2.1
        rw [e] at h2
        exact ⟨⟨w.heap.size, rfl, h2, Nat.le_refl _, HI.out.1⟩, HI.out.2.2.1⟩
      clear HI HP
      go_wp2
      exact HF.out

set_option maxRecDepth 100000 in
set_option maxHeartbeats 1000000 in
theorem readerSides_no (c p : Nat) (s : ByteArray) (x : Nat) (w : World) (h : Rd w c s p) (hs : s.size ≤ 1048576) (hp : p ≤ s.size) (hno : M.readVar s.data.toList p = none ∨ ∃ n q, M.readVar s.data.toList p = some (n, q) ∧ 8 < n) :
    Calls Tryz.prog 56 #[.pointer (some ⟨c, 0, none⟩), .int .i64 (x : Int)] w fun e w' => e = .panicked [unR] ∧ w.grownBy w' (some c) := by
  have HC : Hid (∀ W, Below w.heap.size w W → W.cell? ⟨c, 0, none⟩ = some (.string s) ∧ W.cell? ⟨c, 1, none⟩ = some (.int .i64 (p : Int))) := fun W hW => ⟨(h.later hW).c0, (h.later hW).c1⟩
  have hb0 : Below w.heap.size w w.drew := (Below.refl _ _).drew
  have HF : Hid (w.grownBy w.drew (some c)) := grown_below (Below.refl _ _).drew
  rcases hno with h0 | ⟨n, q, h0, h8⟩
  · have H1 : Hid (∀ W, Calls Tryz.prog 110 #[.string s, .int .i64 (p : Int)] W fun e w' => e = .returned (.tuple #[.int .i64 0, .int .i64 0, .bool false]) ∧ w' = W) := fun W => ReadVar_none s (p : Int) W hs (.inr ⟨by omega, by simpa using h0⟩)
    clear h h0
    go_enter Tryz.func56, Tryz.ntmps56
    go_wp2
    go_region_held3 (fun W => W.cell? ⟨c, 0, none⟩ = some (.string s) ∧ W.cell? ⟨c, 1, none⟩ = some (.int .i64 (p : Int))) (first | (go_keep; done) | exact HC.out _ hb0) (first | (go_at_call 110; refine (H1.out _).mono ?_; rintro e w1 ⟨rfl, hw1⟩; subst hw1) | fail)
    clear HC H1
    try rename_i hHeld
    try clear hHeld
    go_wp2_with fail
    refine (want_no _ _).mono ?_
    rintro e w3 ⟨rfl, rfl⟩
    go_wp2
    exact ⟨rfl, rfl, HF.out⟩
  · have hq := read_bound s p n q h0
    have i8 : decide ((n : Int) ≤ 8) = false := decide_eq_false (by omega)
    have H1 : Hid (∀ W, Calls Tryz.prog 110 #[.string s, .int .i64 (p : Int)] W fun e w' => e = .returned (.tuple #[.int .i64 n, .int .i64 q, .bool true]) ∧ w' = W) := fun W => ReadVar_some s (p : Int) n q W hs (by omega) (by simpa using h0)
    clear h h0 hq
    go_enter Tryz.func56, Tryz.ntmps56
    go_wp2
    go_region_held3 (fun W => W.cell? ⟨c, 0, none⟩ = some (.string s) ∧ W.cell? ⟨c, 1, none⟩ = some (.int .i64 (p : Int))) (first | (go_keep; done) | exact HC.out _ hb0) (first | (go_at_call 110; refine (H1.out _).mono ?_; rintro e w1 ⟨rfl, hw1⟩; subst hw1) | fail)
    clear HC H1
    try rename_i hHeld
    try clear hHeld
    go_wp2_with fail
    refine (want_no _ _).mono ?_
    rintro e w3 ⟨rfl, rfl⟩
    go_wp2
    exact ⟨rfl, rfl, HF.out⟩

end Go.Proofs.YtmcejkfknbjjkaaGreatDoor
/-
  A proof read of a text: the program's answer.
-/
namespace Go.Proofs.YtmcejkfknbjjkaaGreatDoor
open Go.RowKit Go.BigFrame Go.Sort
set_option linter.unusedVariables false
set_option linter.unusedSimpArgs false

theorem leaves_done {fn : Func} {tmps : Array Value} {R : Ending → World → Prop} {w : World} (g k : Nat) (v1 v2 : Value) (b : Bool) (hres : fn.results = #[.cell 4 43, .cell 5 4]) (hp : tmps.getD 4 undef = .pointer (some ⟨g, 0, none⟩)) (hk : tmps.getD 5 undef = .pointer (some ⟨k, 0, none⟩)) (hA : PfM w g v1 v2) (hB : w.cell? ⟨k, 0, none⟩ = some (.bool b))
    (h : R (.returned (.tuple #[.agg #[v1, v2], .bool b])) w) : Leaves Tryz.prog fn tmps R [] .returning w := by
  have hr := load_pf hA
  refine ⟨.tuple #[.agg #[v1, v2], .bool b], ?_, h⟩
  have hp' : tmps[4]?.getD undef = .pointer (some ⟨g, 0, none⟩) := by simpa using hp
  have hk' : tmps[5]?.getD undef = .pointer (some ⟨k, 0, none⟩) := by simpa using hk
  have hb : (loadVar 4 ⟨k, 0, none⟩).run Tryz.prog w = .ok (.bool b) w := by simp [go_sem, hB]
  simp [results, hres, asAddr, hr, hp', hk', hb]

set_option maxRecDepth 100000 in
theorem catch_idle (g k : Nat) (w : World) :
    CallsD Tryz.prog 54 #[.pointer (some ⟨g, 0, none⟩), .pointer (some ⟨k, 0, none⟩)] .returning w fun e u' w' => e = .returned (.tuple #[]) ∧ u' = .returning ∧ w' = w := by
  refine callsD_of_wpS Tryz.func54 rfl fun c₀ cs hu => ?_
  apply wpS_seq
  apply wpS_region
  simp [wpOpsS, go_sem, recoverD, hu, Tryz.ntmps54, Exit.thenS]
  refine wpS_cond (t := false) (by simp [Act.eval, Array.replicate]) ?_
  simp only [Bool.false_eq_true, if_false]
  refine wpS_of_wp (wp_skip ?_)
  cases c₀
  simp_all [bodyPostS, results, Tryz.results54]

set_option maxRecDepth 100000 in
theorem catch_panicking (g k : Nat) (v1 v2 : Value) (b : Bool) (pv : Value) (u : TypeId) (w : World) (hA : PfM w g v1 v2) (hB : w.heap[k]? = some (.cells #[.bool b] 4 (0, 0))) (hne : g ≠ k) :
    CallsD Tryz.prog 54 #[.pointer (some ⟨g, 0, none⟩), .pointer (some ⟨k, 0, none⟩)] (.panicking [{ v := .iface u pv, recovered := false }]) w fun e u' w' => e = .returned (.tuple #[]) ∧ u' = .panicking [{ v := .iface u pv, recovered := true }] ∧ w' = (w.setRow g #[.slice none 0 0, .slice none 0 0]).setCell ⟨k, 0, none⟩ (.bool false) := by
  refine callsD_of_wpS Tryz.func54 rfl fun c₀ cs hu => ?_
  apply wpS_seq
  apply wpS_region
  simp [wpOpsS, go_sem, recoverD, hu, Tryz.ntmps54, Exit.thenS]
  refine wpS_cond (t := true) (by simp [Act.eval, Array.replicate]) ?_
  simp only [if_true]
  refine wpS_of_wp ?_
  have e : (#[Value.pointer (some { block := g, off := 0 }), Value.pointer (some { block := k, off := 0 })] ++ ((Array.replicate 3 undef).setIfInBounds 0 (Value.iface u pv)).setIfInBounds 1 (Value.bool true)) = #[Value.pointer (some { block := g, off := 0 }), Value.pointer (some { block := k, off := 0 }), Value.iface u pv, Value.bool true, undef] := rfl
  rw [e]
  have hB2 : (w.setRow g #[.slice none 0 0, .slice none 0 0]).heap[k]? = some (.cells #[.bool b] 4 (0, 0)) := (setRow_other w g k _ (Ne.symm hne)).trans hB
  have c0 : (w.setRow g #[.slice none 0 0, .slice none 0 0]).cell? ⟨k, 0, none⟩ = some (.bool b) := by rw [cell_of_row _ k 0 _ _ _ hB2]; rfl
  have f0 : (w.setRow g #[.slice none 0 0, .slice none 0 0]).frozen? ⟨k, 0, none⟩ = false := by simp [World.frozen?, hB2]
  go_wp2_with (refine wp_storePf rfl _ _ rfl g _ _ (.slice none 0 0) (.slice none 0 0) hA rfl rfl rfl rfl ?_; intro hfin)
  exact ⟨rfl, _, rfl, .tuple #[], by simp [results, Tryz.results54], rfl, rfl, rfl⟩

set_option maxRecDepth 100000 in
set_option maxHeartbeats 1000000 in
theorem ReadProof_wide (s : ByteArray) (x : Int) (w : World) (hx : ¬ (1 ≤ x ∧ x ≤ 32)) :
    Calls Tryz.prog 17 #[.string s, .int .i64 x] w fun e w' => e = .returned (.tuple #[.agg #[.slice none 0 0, .slice none 0 0], .bool false]) ∧ Below w.heap.size w w' := by
  have q1 : decide (1 ≤ x ∧ x ≤ 32) = false := decide_eq_false hx
  have hmf : ∀ (fn : Fn) (first cap : Array Value) (w : World), (Instr.makeFunc fn first cap).run Tryz.prog w = .ok (.func fn first cap) w := fun _ _ _ _ => rfl
  go_enter_defers Tryz.func17, Tryz.ntmps17
  go_wp2_with fail
  refine (widthOk_any _ _).mono ?_
  rintro e w1 ⟨rfl, hw1⟩
  subst hw1
  rw [q1]
  go_wp2
  have hba : Below w.heap.size w ((w.alloc (.cells #[.slice none 0 0, .slice none 0 0] 43)).alloc (.cells #[.bool false] 4)) := ((Below.refl _ _).alloc (Nat.le_refl _) _).alloc (by simp) _
  have hA := PfM.later (PfM.new w (.slice none 0 0) (.slice none 0 0)) ((Below.refl _ _).alloc (Nat.le_refl _) (.cells #[.bool false] 4))
  have hB : ((w.alloc (.cells #[.slice none 0 0, .slice none 0 0] 43)).alloc (.cells #[.bool false] 4)).cell? ⟨w.heap.size + 1, 0, none⟩ = some (.bool false) := by simp
  unfold bodyPostD
  dsimp only
  refine leaves_done w.heap.size (w.heap.size + 1) _ _ false (by rfl) (by rfl) (by rfl) hA hB ?_
  exact ⟨rfl, hba⟩

set_option maxRecDepth 100000 in
theorem door_panic {fn : Func} {tmps : Array Value} {R : Ending → World → Prop} {W : World} (g k : Nat) (v1 v2 : Value) (b : Bool) (hres : fn.results = #[.cell 4 43, .cell 5 4]) (hp : tmps.getD 4 undef = .pointer (some ⟨g, 0, none⟩)) (hk : tmps.getD 5 undef = .pointer (some ⟨k, 0, none⟩)) (hA : PfM W g v1 v2) (hB : W.heap[k]? = some (.cells #[.bool b] 4 (0, 0))) (hne : g ≠ k)
    (h : R (.returned (.tuple #[.agg #[.slice none 0 0, .slice none 0 0], .bool false])) ((W.setRow g #[.slice none 0 0, .slice none 0 0]).setCell ⟨k, 0, none⟩ (.bool false))) : Leaves Tryz.prog fn tmps R [{ target := .fn (.func 54) #[.pointer (some ⟨g, 0, none⟩), .pointer (some ⟨k, 0, none⟩)], args := #[] }] (.panicking [unR]) W := by
  refine leaves_cons (f := 54) (args := #[.pointer (some ⟨g, 0, none⟩), .pointer (some ⟨k, 0, none⟩)]) (by simp) (by simp [go_sem]) ?_
  refine (catch_panicking g k v1 v2 b _ _ W hA hB hne).mono ?_
  rintro e u' w'' ⟨rfl, rfl, rfl⟩
  have hB2 : (W.setRow g #[.slice none 0 0, .slice none 0 0]).heap[k]? = some (.cells #[.bool b] 4 (0, 0)) := (setRow_other W g k _ (Ne.symm hne)).trans hB
  have hA2 : PfM (W.setRow g #[.slice none 0 0, .slice none 0 0]) g (.slice none 0 0) (.slice none 0 0) := setRow_heap W g _ _ _ _ hA
  have hB3 := heap_setCell_same (W.setRow g #[.slice none 0 0, .slice none 0 0]) k 0 _ _ (.bool false) hB2
  show Leaves _ _ _ _ [] .returning _
  refine leaves_done g k _ _ false hres hp hk (hA2.keep ((grown_setC _ k 0 _).block g hA2.lt (by simp; exact hne))) ?_ h
  rw [cell_of_row _ k 0 _ _ _ hB3]
  rfl

set_option maxRecDepth 100000 in
theorem door_ret {fn : Func} {tmps : Array Value} {R : Ending → World → Prop} {W : World} (g k : Nat) (v1 v2 : Value) (b : Bool) (hres : fn.results = #[.cell 4 43, .cell 5 4]) (hp : tmps.getD 4 undef = .pointer (some ⟨g, 0, none⟩)) (hk : tmps.getD 5 undef = .pointer (some ⟨k, 0, none⟩)) (hA : PfM W g v1 v2) (hB : W.cell? ⟨k, 0, none⟩ = some (.bool b))
    (h : R (.returned (.tuple #[.agg #[v1, v2], .bool b])) W) : Leaves Tryz.prog fn tmps R [{ target := .fn (.func 54) #[.pointer (some ⟨g, 0, none⟩), .pointer (some ⟨k, 0, none⟩)], args := #[] }] .returning W := by
  refine leaves_cons (f := 54) (args := #[.pointer (some ⟨g, 0, none⟩), .pointer (some ⟨k, 0, none⟩)]) (by simp) (by simp [go_sem]) ?_
  refine (catch_idle g k W).mono ?_
  rintro e u' w'' ⟨rfl, rfl, rfl⟩
  show Leaves _ _ _ _ [] .returning _
  exact leaves_done g k _ _ b hres hp hk hA hB h

/-- what stands when the reader begins: the proof, the word, the reader -/
theorem boxes3 (w : World) (s : ByteArray) : ∀ W, W = ((w.alloc (.cells #[.slice none 0 0, .slice none 0 0] 43)).alloc (.cells #[.bool false] 4)).alloc (.cells #[.string s, .int .i64 0] 83) → PfM W w.heap.size (.slice none 0 0) (.slice none 0 0) ∧ W.heap[w.heap.size + 1]? = some (.cells #[.bool false] 4 (0, 0)) ∧ Rd W (w.heap.size + 1 + 1) s 0 ∧ Below w.heap.size w W ∧ W.heap.size = w.heap.size + 3 := fun W hW => by
  subst hW
  have n0 := PfM.new w (.slice none 0 0) (.slice none 0 0)
  have b0 : Below w.heap.size w (w.alloc (.cells #[.slice none 0 0, .slice none 0 0] 43)) := (Below.refl _ _).alloc (Nat.le_refl _) _
  have z0 : (w.alloc (.cells #[.slice none 0 0, .slice none 0 0] 43)).heap.size = w.heap.size + 1 := by simp
  generalize w.alloc (.cells #[.slice none 0 0, .slice none 0 0] 43) = W1 at *
  have n1 : (W1.alloc (.cells #[.bool false] 4)).heap[W1.heap.size]? = some (.cells #[.bool false] 4 (0, 0)) := Go.heap_alloc_new W1 _
  have b1 : Below W1.heap.size W1 (W1.alloc (.cells #[.bool false] 4)) := (Below.refl _ _).alloc (Nat.le_refl _) _
  have z1 : (W1.alloc (.cells #[.bool false] 4)).heap.size = w.heap.size + 1 + 1 := by simp [z0]
  rw [z0] at n1
  generalize W1.alloc (.cells #[.bool false] 4) = W2 at *
  have n2 : Rd (W2.alloc (.cells #[.string s, .int .i64 0] 83)) W2.heap.size s 0 := Go.heap_alloc_new W2 _
  have b2 : Below W2.heap.size W2 (W2.alloc (.cells #[.string s, .int .i64 0] 83)) := (Below.refl _ _).alloc (Nat.le_refl _) _
  rw [z1] at n2
  refine ⟨(n0.later b1).later b2, (b2.block _ (by omega)).trans n1, n2, (b0.trans (b1.mono b0.size)).trans (b2.mono (by omega)), by simp [z1]⟩

/-- what a text tells as a proof -/
noncomputable def rpOk (s : ByteArray) (x : Int) : Bool :=
  match LV.rawL s 0 with
  | none => false
  | some (l, q) => match M.readVar s.data.toList q with
    | none => false
    | some (n, p) => decide (1 ≤ x ∧ x ≤ 32) && LV.leavesB l && decide (n ≤ 8) && decide (p + n * x.toNat = s.size)
noncomputable def rpL (s : ByteArray) (x : Int) : List Le :=
  match LV.rawL s 0 with
  | none => []
  | some (l, q) => if rpOk s x then l else []
noncomputable def rpS (s : ByteArray) (x : Int) : List ByteArray :=
  match LV.rawL s 0 with
  | none => []
  | some (l, q) => match M.readVar s.data.toList q with
    | none => []
    | some (n, p) => if rpOk s x then sdp s x.toNat p n else []
theorem rp_no {s : ByteArray} {x : Int} (h : rpOk s x = false) : rpL s x = [] ∧ rpS s x = [] := by
  unfold rpL rpS
  rw [h]
  constructor
  · split <;> simp
  · split
    · rfl
    · split <;> simp

set_option maxRecDepth 100000 in
set_option maxHeartbeats 2000000 in
theorem ReadProof_any (s : ByteArray) (x : Int) (w : World) (hs : s.size ≤ 1048576) :
    Calls Tryz.prog 17 #[.string s, .int .i64 x] w (PvP (rpL s x) (rpS s x) (rpOk s x) w) := by
  by_cases hx0 : ¬ (1 ≤ x ∧ x ≤ 32)
  · have hx := hx0
    have h0 : rpOk s x = false := by
      unfold rpOk
      split
      · rfl
      · split
        · rfl
        · rw [decide_eq_false hx]; rfl
    rw [h0, (rp_no h0).1, (rp_no h0).2]
    refine (ReadProof_wide s x w hx).mono fun e w' ⟨he, hb⟩ => ?_
    rw [he]
    exact PvP.no hb
  have hx : 1 ≤ x ∧ x ≤ 32 := Classical.not_not.1 hx0
  clear hx0
  obtain ⟨y, rfl⟩ : ∃ y : Nat, x = (y : Int) := ⟨x.toNat, by omega⟩
  have hy : 1 ≤ y ∧ y ≤ 32 := by omega
  have q1 : decide (1 ≤ (y : Int) ∧ (y : Int) ≤ 32) = true := decide_eq_true hx
  have hmf : ∀ (fn : Fn) (first cap : Array Value) (w : World), (Instr.makeFunc fn first cap).run Tryz.prog w = .ok (.func fn first cap) w := fun _ _ _ _ => rfl
  obtain ⟨A0, B0, R0, b0, z0⟩ := boxes3 w s _ rfl
  obtain ⟨Q, hQ⟩ : ∃ Q, PvP (rpL s (y : Int)) (rpS s (y : Int)) (rpOk s (y : Int)) w = Q := ⟨_, rfl⟩
  have HQ : Hid (PvP (rpL s (y : Int)) (rpS s (y : Int)) (rpOk s (y : Int)) w = Q) := hQ
  rw [hQ]
  clear hQ hx
  go_enter_defers Tryz.func17, Tryz.ntmps17
  go_wp2_with fail
  refine (widthOk_any _ _).mono ?_
  rintro e w1 ⟨rfl, hw1⟩
  subst hw1
  rw [q1]
  obtain ⟨W0, hW0⟩ : ∃ W0, ((w.alloc (.cells #[.slice none 0 0, .slice none 0 0] 43)).alloc (.cells #[.bool false] 4)).alloc (.cells #[.string s, .int .i64 0] 83) = W0 := ⟨_, rfl⟩
  rw [hW0] at A0 B0 R0 b0 z0
  have HW0 : Hid (((w.alloc (.cells #[.slice none 0 0, .slice none 0 0] 43)).alloc (.cells #[.bool false] 4)).alloc (.cells #[.string s, .int .i64 0] 83) = W0) := hW0
  clear hW0
  have HNO : Hid (∀ W, rpOk s (y : Int) = false → Below w.heap.size w W → Q (.returned (.tuple #[.agg #[.slice none 0 0, .slice none 0 0], .bool false])) ((W.setRow w.heap.size #[.slice none 0 0, .slice none 0 0]).setCell ⟨w.heap.size + 1, 0, none⟩ (.bool false))) := fun W h0 hb => by
    rw [← HQ.out, h0, (rp_no h0).1, (rp_no h0).2]
    exact PvP.no ((below_row hb (Nat.le_refl _)).setCell (p := ⟨w.heap.size + 1, 0, none⟩) (by simp) _)
  by_cases hraw : LV.rawL s 0 = none ∨ ∃ l q, LV.rawL s 0 = some (l, q) ∧ LV.leavesB l = false
  · have h0 : rpOk s (y : Int) = false := by
      unfold rpOk
      rcases hraw with h | ⟨l, q, h, h2⟩
      · rw [h]
      · rw [h]
        dsimp only
        split
        · rfl
        · rw [h2]; simp
    have hlv := readerLeaves_no (w.heap.size + 1 + 1) 0 s W0 R0 hs (Nat.zero_le _) hraw
    rw [← HW0.out] at hlv
    clear HQ hraw
    go_wp2_with fail
    refine hlv.mono ?_
    rintro e w2 ⟨rfl, hb2⟩
    rw [HW0.out] at hb2
    have hA := A0.later hb2
    have hB : w2.heap[w.heap.size + 1]? = some (.cells #[.bool false] 4 (0, 0)) := (hb2.block _ (by omega)).trans B0
    have b2 := b0.trans (hb2.mono b0.size)
    clear hlv hb2 A0 B0 R0
    go_wp2
    unfold bodyPostD
    dsimp only
    refine door_panic w.heap.size (w.heap.size + 1) _ _ false (by rfl) (by rfl) (by rfl) hA hB (by omega) ?_
    exact HNO.out _ h0 b2
  have hex : ∃ l q, LV.rawL s 0 = some (l, q) ∧ LV.leavesB l = true := by
    cases h : LV.rawL s 0 with
    | none => exact absurd (.inl h) hraw
    | some z =>
      obtain ⟨l, q⟩ := z
      refine ⟨l, q, rfl, ?_⟩
      cases h2 : LV.leavesB l with
      | true => rfl
      | false => exact absurd (.inr ⟨l, q, h, h2⟩) hraw
  obtain ⟨l, q, hr, hl⟩ := hex
  clear hraw
  have hqs := (raw_text hr).1
  have HRP : Hid (∀ n p, M.readVar s.data.toList q = some (n, p) → rpOk s (y : Int) = (decide (n ≤ 8) && decide (p + n * y = s.size)) ∧ (rpOk s (y : Int) = true → rpL s (y : Int) = l ∧ rpS s (y : Int) = sdp s y p n)) := fun n p h => by
    have e1 : rpOk s (y : Int) = (decide (n ≤ 8) && decide (p + n * y = s.size)) := by
      unfold rpOk
      rw [hr]
      dsimp only
      rw [h]
      dsimp only
      rw [q1, hl, Int.toNat_natCast, Bool.true_and, Bool.true_and]
    refine ⟨e1, fun h2 => ?_⟩
    unfold rpL rpS
    rw [hr]
    dsimp only
    rw [h]
    dsimp only
    rw [h2, Int.toNat_natCast]
    exact ⟨rfl, rfl⟩
  have HRN : Hid (M.readVar s.data.toList q = none → rpOk s (y : Int) = false) := fun h => by
    unfold rpOk
    rw [hr]
    dsimp only
    rw [h]
  have hlv := readerLeaves_yes (w.heap.size + 1 + 1) 0 s l q W0 R0 hs (Nat.zero_le _) hr hl
  rw [← HW0.out] at hlv
  go_wp2_with fail
  refine hlv.mono ?_
  rintro e w2 ⟨gl, rfl, hrw2, hgl, hrd2, hg2⟩
  rw [HW0.out] at hg2 hgl
  have A2 : PfM w2 w.heap.size (.slice none 0 0) (.slice none 0 0) := A0.keep (hg2.block _ A0.lt (by simp; omega))
  have B2 : w2.heap[w.heap.size + 1]? = some (.cells #[.bool false] 4 (0, 0)) := (hg2.block _ (by omega) (by simp)).trans B0
  have b2 : Below w.heap.size w w2 := b0.grown hg2 b0.size (fun k hk => by simp at hk; omega)
  have s2 := hg2.size
  have c20 := A2.c0
  have f20 := A2.fr 0
  have hgr3 := grown_setC w2 w.heap.size 0 (.slice (some ⟨gl, 0, none⟩) l.length l.length)
  have A3 := A2.set0 (.slice (some ⟨gl, 0, none⟩) l.length l.length)
  have B3 := (hgr3.block (w.heap.size + 1) (by omega) (by simp)).trans B2
  have R3 := hrd2.grown hgr3 (by simp; omega)
  have b3 := b2.setCell (p := ⟨w.heap.size, 0, none⟩) (Nat.le_refl _) (.slice (some ⟨gl, 0, none⟩) l.length l.length)
  have w3 := hrw2.grown hgr3 (fun _ => by simp; omega)
  have z3 : (w2.setCell ⟨w.heap.size, 0, none⟩ (.slice (some ⟨gl, 0, none⟩) l.length l.length)).heap.size = w2.heap.size := by simp
  clear hlv A2 B2 b2 hrd2 hrw2 hg2 A0 B0 R0 b0 hgr3 hr hl
  go_wp2_with fail
  generalize w2.setCell ⟨w.heap.size, 0, none⟩ (.slice (some ⟨gl, 0, none⟩) l.length l.length) = W3 at *
  by_cases hvar : M.readVar s.data.toList q = none ∨ ∃ n p, M.readVar s.data.toList q = some (n, p) ∧ 8 < n
  · have h0 : rpOk s (y : Int) = false := by
      rcases hvar with h | ⟨n, p, h, h8⟩
      · exact HRN.out h
      · rw [(HRP.out n p h).1, decide_eq_false (by omega)]
        rfl
    refine (readerSides_no (w.heap.size + 1 + 1) q s y W3 R3 hs hqs hvar).mono ?_
    rintro e w4 ⟨rfl, hg4⟩
    have hA := A3.keep (hg4.block _ A3.lt (by simp; omega))
    have hB : w4.heap[w.heap.size + 1]? = some (.cells #[.bool false] 4 (0, 0)) := (hg4.block _ (by omega) (by simp)).trans B3
    have b4 : Below w.heap.size w w4 := b3.grown hg4 b3.size (fun k hk => by simp at hk; omega)
    clear hvar hg4 A3 B3 R3 HRN HRP HQ
    go_wp2
    unfold bodyPostD
    dsimp only
    refine door_panic w.heap.size (w.heap.size + 1) _ _ false (by rfl) (by rfl) (by rfl) hA hB (by omega) ?_
    exact HNO.out _ h0 b4
  have hex : ∃ n p, M.readVar s.data.toList q = some (n, p) ∧ n ≤ 8 := by
    cases h : M.readVar s.data.toList q with
    | none => exact absurd (.inl h) hvar
    | some z =>
      obtain ⟨n, p⟩ := z
      exact ⟨n, p, rfl, Nat.le_of_not_lt fun h2 => hvar (.inr ⟨n, p, h, h2⟩)⟩
  obtain ⟨n, p, hv, hn8⟩ := hex
  obtain ⟨hrp1, hrp2⟩ := HRP.out n p hv
  rw [decide_eq_true hn8, Bool.true_and] at hrp1
  refine (readerSides_yes (w.heap.size + 1 + 1) q s y n p W3 R3 hs hqs hy.2 hv hn8).mono ?_
  clear hvar HRN HRP hv
  by_cases hfit : p + n * y ≤ s.size
  · rintro e w4 ⟨hif, hg4⟩
    rw [if_pos hfit] at hif
    obtain ⟨g4, rfl, t4, hg4', r4⟩ := hif
    have A4 := A3.keep (hg4.block _ A3.lt (by simp; omega))
    have B4 : w4.heap[w.heap.size + 1]? = some (.cells #[.bool false] 4 (0, 0)) := (hg4.block _ (by omega) (by simp)).trans B3
    have b4 : Below w.heap.size w w4 := b3.grown hg4 b3.size (fun k hk => by simp at hk; omega)
    have s4 := hg4.size
    have c21 := A4.c1
    have f21 := A4.fr 1
    have hgr5 := grown_setC w4 w.heap.size 1 (.slice (some ⟨g4, 0, none⟩) n n)
    have A5 := A4.set1 (.slice (some ⟨g4, 0, none⟩) n n)
    have B5 := (hgr5.block (w.heap.size + 1) (by omega) (by simp)).trans B4
    have R5 := r4.grown hgr5 (by simp; omega)
    have b5 := b4.setCell (p := ⟨w.heap.size, 1, none⟩) (Nat.le_refl _) (.slice (some ⟨g4, 0, none⟩) n n)
    have w5 := (w3.grown hg4 (fun _ => by simp; omega)).grown hgr5 (fun _ => by simp; omega)
    have t5 := (t4.ts n n (sdp_len _ _ _ _) (by omega)).keptG hgr5 (fun _ => by simp; omega)
    have hglt : 0 < l.length → gl < W3.heap.size := w3.lt
    have z5 : (w4.setCell ⟨w.heap.size, 1, none⟩ (.slice (some ⟨g4, 0, none⟩) n n)).heap.size = w4.heap.size := by simp
    clear A4 B4 b4 r4 t4 hg4 hgr5 A3 B3 R3 b3 w3 c20 f20
    go_wp2_with fail
    generalize w4.setCell ⟨w.heap.size, 1, none⟩ (.slice (some ⟨g4, 0, none⟩) n n) = W5 at *
    by_cases hend : p + n * y = s.size
    · rw [hend] at R5
      refine (readerEnd_yes (w.heap.size + 1 + 1) s W5 R5).mono ?_
      rintro e w6 ⟨rfl, hb6⟩
      have A6 := A5.later hb6
      have B6 : w6.heap[w.heap.size + 1]? = some (.cells #[.bool false] 4 (0, 0)) := (hb6.block _ (by omega)).trans B5
      have b6 := b5.trans (hb6.mono b5.size)
      have w6' := w5.later hb6
      have t6 := t5.later hb6
      have hX : PfM (w6.setRow w.heap.size #[.slice (some ⟨gl, 0, none⟩) l.length l.length, .slice (some ⟨g4, 0, none⟩) n n]) w.heap.size (.slice (some ⟨gl, 0, none⟩) l.length l.length) (.slice (some ⟨g4, 0, none⟩) n n) := setRow_heap w6 _ _ _ _ _ A6
      have hgx := grown_setRowP w6 w.heap.size #[.slice (some ⟨gl, 0, none⟩) l.length l.length, .slice (some ⟨g4, 0, none⟩) n n]
      have B7 : (w6.setRow w.heap.size #[.slice (some ⟨gl, 0, none⟩) l.length l.length, .slice (some ⟨g4, 0, none⟩) n n]).heap[w.heap.size + 1]? = some (.cells #[.bool false] 4 (0, 0)) := (setRow_other w6 _ _ _ (by omega)).trans B6
      have b7 := below_row (g := w.heap.size) (R := #[.slice (some ⟨gl, 0, none⟩) l.length l.length, .slice (some ⟨g4, 0, none⟩) n n]) b6 (Nat.le_refl _)
      have w7 := w6'.grown hgx (fun _ => by simp; omega)
      have t7 := t6.keptG hgx (fun _ => by simp; omega)
      have d60 : (w6.setRow w.heap.size #[.slice (some ⟨gl, 0, none⟩) l.length l.length, .slice (some ⟨g4, 0, none⟩) n n]).cell? ⟨w.heap.size + 1, 0, none⟩ = some (.bool false) := by rw [cell_of_row _ _ 0 _ _ _ B7]; rfl
      have f60 : (w6.setRow w.heap.size #[.slice (some ⟨gl, 0, none⟩) l.length l.length, .slice (some ⟨g4, 0, none⟩) n n]).frozen? ⟨w.heap.size + 1, 0, none⟩ = false := by simp [World.frozen?, B7]
      have HY : Hid (rpOk s (y : Int) = true ∧ rpL s (y : Int) = l ∧ rpS s (y : Int) = sdp s y p n) := by
        have h1 : rpOk s (y : Int) = true := by rw [hrp1, decide_eq_true hend]
        exact ⟨h1, hrp2 h1⟩
      clear A5 B5 R5 b5 w5 t5 hb6 c21 f21 hrp1 hrp2
      go_wp2_with (first | (refine wp_loadPf rfl _ rfl w.heap.size _ _ rfl A6 ?_) | (refine wp_storePf rfl _ _ rfl w.heap.size _ _ _ _ A6 rfl rfl rfl rfl ?_; intro hfin))
      generalize w6.setRow w.heap.size #[.slice (some ⟨gl, 0, none⟩) l.length l.length, .slice (some ⟨g4, 0, none⟩) n n] = W7 at *
      have hgy := grown_setC W7 (w.heap.size + 1) 0 (.bool true)
      have hBF := heap_setCell_same W7 (w.heap.size + 1) 0 _ _ (.bool true) B7
      have hlx := w7.lt
      unfold bodyPostD
      dsimp only
      refine door_ret w.heap.size (w.heap.size + 1) _ _ true (by rfl) (by rfl) (by rfl) (hX.keep (hgy.block _ hX.lt (by simp))) (by rw [cell_of_row _ _ 0 _ _ _ hBF]; rfl) ?_
      rw [← HQ.out, HY.out.1, HY.out.2.1, HY.out.2.2]
      refine ⟨_, l.length, _, n, gl, g4, by rw [sdp_len], w7.grown hgy (fun _ => by simp; omega), by rw [sdp_len]; exact t7.keptG hgy (fun _ => by simp; omega), by omega, by omega, ⟨fun h1 _ => by have := hglt h1; omega, by rw [sdp_len]; exact Nat.le_refl _⟩, b7.setCell (p := ⟨w.heap.size + 1, 0, none⟩) (by simp) _⟩
    · have h0 : rpOk s (y : Int) = false := by rw [hrp1, decide_eq_false hend]
      refine (readerEnd_no (w.heap.size + 1 + 1) _ s W5 R5 hend).mono ?_
      rintro e w6 ⟨rfl, hb6⟩
      have hA := A5.later hb6
      have hB : w6.heap[w.heap.size + 1]? = some (.cells #[.bool false] 4 (0, 0)) := (hb6.block _ (by omega)).trans B5
      have b6 := b5.trans (hb6.mono b5.size)
      clear A5 B5 R5 b5 w5 t5 hb6 c21 f21 HQ
      go_wp2
      unfold bodyPostD
      dsimp only
      refine door_panic w.heap.size (w.heap.size + 1) _ _ false (by rfl) (by rfl) (by rfl) hA hB (by omega) ?_
      exact HNO.out _ h0 b6
  · rintro e w4 ⟨hif, hg4⟩
    rw [if_neg hfit] at hif
    subst hif
    have h0 : rpOk s (y : Int) = false := by rw [hrp1, decide_eq_false (by omega)]
    have hA := A3.keep (hg4.block _ A3.lt (by simp; omega))
    have hB : w4.heap[w.heap.size + 1]? = some (.cells #[.bool false] 4 (0, 0)) := (hg4.block _ (by omega) (by simp)).trans B3
    have b4 : Below w.heap.size w w4 := b3.grown hg4 b3.size (fun k hk => by simp at hk; omega)
    clear hg4 A3 B3 R3 HQ
    go_wp2
    unfold bodyPostD
    dsimp only
    refine door_panic w.heap.size (w.heap.size + 1) _ _ false (by rfl) (by rfl) (by rfl) hA hB (by omega) ?_
    exact HNO.out _ h0 b4

end Go.Proofs.YtmcejkfknbjjkaaGreatDoor
/-
  The specification's reader: what it takes of a text for a proof's sides.
-/
namespace Go.Proofs.YtmcejkfknbjjkaaGreatDoor
open Go.RowKit Go.BigFrame Go.Sort
set_option linter.unusedVariables false
set_option linter.unusedSimpArgs false

/-- a number that is read, or why not -/
theorem sReadVar_at (s : ByteArray) (p : Nat) (w : World) (hs : s.size ≤ 1048576) (hp : p ≤ s.size) :
    ∃ n q b, Calls Tryz.prog 113 #[.string s, .int .i64 (p : Int)] w fun e w' => e = .returned (.tuple #[.int .i64 n, .int .i64 q, .bool b]) ∧ Below w.heap.size w w' := by
  cases hr : M.readVar s.data.toList p with
  | none => exact ⟨0, 0, false, sReadVar_none s (p : Int) w hs (.inr ⟨by omega, by simpa using hr⟩)⟩
  | some z => obtain ⟨n, q⟩ := z; exact ⟨n, q, true, sReadVar_some s (p : Int) n q w hs (by omega) (by simpa using hr)⟩

set_option maxRecDepth 100000 in
set_option maxHeartbeats 1000000 in
theorem l09Var_bad (c : Nat) (s : ByteArray) (p : Nat) (w : World) (h : Cu w c s p true) (hs : s.size ≤ 1048576) (hp : p ≤ s.size) :
    Calls Tryz.prog 59 #[.pointer (some ⟨c, 0, none⟩)] w fun e w' => (e = .returned (.int .i64 0) ∧ Cu w' c s p true) ∧ w.grownBy w' (some c) := by
  have c0 := h.c0
  have c1 := h.c1
  have H : Hid (Cu w c s p true) := h
  have hcl := h.lt
  clear h
  have HX : Hid (∃ (n q : Int) (b : Bool), ∀ W, Calls Tryz.prog 113 #[.string s, .int .i64 (p : Int)] W fun e w' => e = .returned (.tuple #[.int .i64 n, .int .i64 q, .bool b]) ∧ Below W.heap.size W w') := by
    show ∃ (n q : Int) (b : Bool), ∀ W, Calls Tryz.prog 113 #[.string s, .int .i64 (p : Int)] W fun e w' => e = .returned (.tuple #[.int .i64 n, .int .i64 q, .bool b]) ∧ Below W.heap.size W w'
    cases hr : M.readVar s.data.toList p with
    | none => exact ⟨0, 0, false, fun W => sReadVar_none s (p : Int) W hs (.inr ⟨by omega, by simpa using hr⟩)⟩
    | some z => obtain ⟨n, q⟩ := z; exact ⟨n, q, true, fun W => sReadVar_some s (p : Int) n q W hs (by omega) (by simpa using hr)⟩
  obtain ⟨n, q, b, h1⟩ := HX.out
  have H1 : Hid (∀ W, Calls Tryz.prog 113 #[.string s, .int .i64 (p : Int)] W fun e w' => e = .returned (.tuple #[.int .i64 n, .int .i64 q, .bool b]) ∧ Below W.heap.size W w') := h1
  clear HX h1
  go_enter Tryz.func59, Tryz.ntmps59
  go_wp2
  have kq0 := cell_regrown (w := w) c0
  have kq1 := cell_regrown (w := w) c1
  have cq0 := fun d os => Calls.regrown_of (w := w) (d := d) (os := os) (H1.out _)
  refine wp_region_quiet_below (by kernel_rfl) (by kernel_rfl) ?_
  repeat (go_big_quiet_step (first | with_reducible exact cq0 _ _))
  refine wpQuiet_nil ?_
  rintro _ ⟨⟨dq, osq⟩, rfl⟩
  have hb6 := below_regrown (w) dq osq
  generalize grow (redrawn (w) dq) osq = w6 at *
  clear kq0 kq1 cq0
  have h6 := H.out.later hb6
  have d2 := h6.c2
  have g2 := h6.f2
  have hcl6 := h6.lt
  have HF : Hid (Cu (w6.setCell ⟨c, 2, none⟩ (.bool true)) c s p true ∧ w.grownBy (w6.setCell ⟨c, 2, none⟩ (.bool true)) (some c)) := ⟨h6.bad, (grown_below hb6).trans (grown_setC w6 c 2 _)⟩
  clear h6 hb6 H H1 c0 c1
  go_wp2
  go_ret
  exact ⟨⟨rfl, HF.out.1⟩, HF.out.2⟩

set_option maxRecDepth 100000 in
set_option maxHeartbeats 1000000 in
theorem l09Take_no (c : Nat) (s : ByteArray) (p : Nat) (b : Bool) (x : Int) (w : World) (h : Cu w c s p b) (hs : s.size ≤ 1048576) (hp : p ≤ s.size) (hno : b = true ∨ x < 0 ∨ (s.size : Int) - (p : Int) < x) :
    Calls Tryz.prog 60 #[.pointer (some ⟨c, 0, none⟩), .int .i64 x] w fun e w' => (e = .returned (.string ⟨#[]⟩) ∧ Cu w' c s p true) ∧ w.grownBy w' (some c) := by
  have c0 := h.c0
  have c1 := h.c1
  have c2 := h.c2
  have hcl := h.lt
  have HH : Hid (Cu w c s p b) := h
  clear h
  cases b with
  | true =>
    clear hno
    go_enter Tryz.func60, Tryz.ntmps60
    go_wp2
    go_quiet (fail)
    have h6 : Cu (w.drewN nq) c s p true := HH.out
    have hgw : w.grownBy (w.drewN nq) (some c) := grown_below (below_drn (Below.refl _ _) nq)
    generalize w.drewN nq = wd at *
    have d2 := h6.c2
    have g2 := h6.f2
    have hl6 := h6.lt
    have HF : Hid (Cu (wd.setCell ⟨c, 2, none⟩ (.bool true)) c s p true ∧ w.grownBy (wd.setCell ⟨c, 2, none⟩ (.bool true)) (some c)) := ⟨h6.bad, hgw.trans (grown_setC wd c 2 _)⟩
    clear h6 hgw HH
    go_wp2
    go_ret
    exact ⟨⟨rfl, HF.out.1⟩, HF.out.2⟩
  | false =>
    by_cases hx : x < 0
    · have qx : decide (x < 0) = true := decide_eq_true hx
      clear hno
      go_enter Tryz.func60, Tryz.ntmps60
      go_wp2
      go_quiet (fail)
      have h6 : Cu (w.drewN nq) c s p false := HH.out
      have hgw : w.grownBy (w.drewN nq) (some c) := grown_below (below_drn (Below.refl _ _) nq)
      generalize w.drewN nq = wd at *
      have d2 := h6.c2
      have g2 := h6.f2
      have hl6 := h6.lt
      have HF : Hid (Cu (wd.setCell ⟨c, 2, none⟩ (.bool true)) c s p true ∧ w.grownBy (wd.setCell ⟨c, 2, none⟩ (.bool true)) (some c)) := ⟨h6.bad, hgw.trans (grown_setC wd c 2 _)⟩
      clear h6 hgw HH
      go_wp2
      go_ret
      exact ⟨⟨rfl, HF.out.1⟩, HF.out.2⟩
    · have h3 : (s.size : Int) - (p : Int) < x := by
        rcases hno with h | h | h
        · cases h
        · exact absurd h hx
        · exact h
      have qx : decide (x < 0) = false := decide_eq_false hx
      have q3 : decide ((s.size : Int) - (p : Int) < x) = true := decide_eq_true h3
      clear hno
      go_enter Tryz.func60, Tryz.ntmps60
      go_wp2
      go_quiet (fail)
      have h6 : Cu (w.drewN nq) c s p false := HH.out
      have hgw : w.grownBy (w.drewN nq) (some c) := grown_below (below_drn (Below.refl _ _) nq)
      generalize w.drewN nq = wd at *
      have d2 := h6.c2
      have g2 := h6.f2
      have hl6 := h6.lt
      have HF : Hid (Cu (wd.setCell ⟨c, 2, none⟩ (.bool true)) c s p true ∧ w.grownBy (wd.setCell ⟨c, 2, none⟩ (.bool true)) (some c)) := ⟨h6.bad, hgw.trans (grown_setC wd c 2 _)⟩
      clear h6 hgw HH
      go_wp2
      go_ret
      exact ⟨⟨rfl, HF.out.1⟩, HF.out.2⟩

set_option maxRecDepth 100000 in
set_option maxHeartbeats 1000000 in
theorem l09Take_yes (c : Nat) (s : ByteArray) (p y : Nat) (w : World) (h : Cu w c s p false) (hs : s.size ≤ 1048576) (hp : p + y ≤ s.size) :
    Calls Tryz.prog 60 #[.pointer (some ⟨c, 0, none⟩), .int .i64 (y : Int)] w fun e w' => (e = .returned (.string (piece s p y)) ∧ Cu w' c s (p + y) false) ∧ w.grownBy w' (some c) := by
  have c0 := h.c0
  have c1 := h.c1
  have c2 := h.c2
  have hcl := h.lt
  have HH : Hid (Cu w c s p false) := h
  have hpc := run_piece s p y hp
  have e1 : ((p + y : Nat) : Int) = (p : Int) + (y : Int) := by omega
  have qx : decide ((y : Int) < 0) = false := decide_eq_false (by omega)
  have q3 : decide ((s.size : Int) - (p : Int) < (y : Int)) = false := decide_eq_false (by omega)
  clear h
  go_enter Tryz.func60, Tryz.ntmps60
  go_wp2
  go_quiet (fail)
  have h6 : Cu (w.drewN nq) c s p false := HH.out
  have hgw : w.grownBy (w.drewN nq) (some c) := grown_below (below_drn (Below.refl _ _) nq)
  generalize w.drewN nq = wd at *
  have d1 := h6.c1
  have g1 := h6.f1
  have hl6 := h6.lt
  have hC : Cu (wd.setCell ⟨c, 1, none⟩ (.int .i64 ((p + y : Nat) : Int))) c s (p + y) false := h6.at (p + y)
  rw [e1] at hC
  have HF : Hid (Cu (wd.setCell ⟨c, 1, none⟩ (.int .i64 ((p : Int) + (y : Int)))) c s (p + y) false ∧ w.grownBy (wd.setCell ⟨c, 1, none⟩ (.int .i64 ((p : Int) + (y : Int)))) (some c)) := ⟨hC, hgw.trans (grown_setC wd c 1 _)⟩
  have k0 := hC.c0
  have k1 := hC.c1
  rw [e1] at k1
  have e2 : (p : Int) + (y : Int) - (y : Int) = (p : Int) := by omega
  clear h6 hgw hC HH c0 c1 c2
  go_wp2
  generalize wd.setCell ⟨c, 1, none⟩ (.int .i64 ((p : Int) + (y : Int))) = we at *
  go_quiet (fail)
  have HG : Hid (∀ n, Cu (we.drewN n) c s (p + y) false ∧ w.grownBy (we.drewN n) (some c)) := fun n => ⟨HF.out.1, HF.out.2.trans (grown_below (below_drn (Below.refl _ _) n))⟩
  go_wp2
  go_ret
  exact ⟨⟨rfl, (HG.out _).1⟩, (HG.out _).2⟩

end Go.Proofs.YtmcejkfknbjjkaaGreatDoor
/-
  A proof read of a text: the specification's answer.
-/
namespace Go.Proofs.YtmcejkfknbjjkaaGreatDoor
open Go.RowKit Go.BigFrame Go.Sort
set_option linter.unusedVariables false
set_option linter.unusedSimpArgs false

theorem raw_cut {s : ByteArray} {l : List Le} {q : Nat} (h : LV.rawL s 0 = some (l, q)) : q ≤ s.size ∧ LV.lvL l = LV.cutL s.data.toList 0 q := by
  cases hr : M.readVar s.data.toList 0 with
  | none => rw [LV.rawL_none hr] at h; cases h
  | some y =>
    obtain ⟨n, q0⟩ := y
    obtain ⟨hq0, hN⟩ := read_bound s 0 n q0 hr
    by_cases hn : 24 < n
    · rw [LV.rawL_great hr hn] at h; cases h
    · rw [LV.rawL_at hr hn] at h
      obtain ⟨h1, h2, h3, h4⟩ := LV.leavesF_some hq0 h
      have hc := LV.read_canon (Nat.zero_le _) hr
      have hp := LV.read_past _ _ _ _ hr
      refine ⟨h2, ?_⟩
      unfold LV.lvL
      rw [h3, ← hc, ← h4, LV.cutL_join _ 0 q0 q (by omega) h1]
theorem sdp_snoc (s : ByteArray) (y p n : Nat) : sdp s y p (n + 1) = sdp s y p n ++ [piece s (p + n * y) y] := by
  unfold sdp
  rw [List.range_succ, List.map_append]
  rfl
theorem join_sdp (s : ByteArray) (y p : Nat) : ∀ n, p + n * y ≤ s.size → (joinT (sdp s y p n)).data.toList = LV.cutL s.data.toList p (p + n * y)
  | 0, h => by
    have : LV.cutL s.data.toList p (p + 0 * y) = [] := by unfold LV.cutL; simp
    rw [this]
    rfl
  | n + 1, h => by
    have em : p + (n + 1) * y = p + n * y + y := by rw [Nat.add_mul, Nat.one_mul, Nat.add_assoc]
    have ih := join_sdp s y p n (by omega)
    rw [sdp_snoc, joinT_snoc, ByteArray.data_append, Array.toList_append, ih]
    unfold piece
    rw [LV.extract_cut, LV.cutL_join _ p (p + n * y) (p + n * y + y) (by omega) (by omega), em]
theorem sdp_wide {s : ByteArray} {y p n : Nat} (h : p + n * y ≤ s.size) (hy : 1 ≤ y ∧ y ≤ 32) : wideB (sdp s y p n) (y : Int) = true := by
  rw [wideB_good fun j hj => ?_]
  · exact decide_eq_true (by omega)
  · rw [sdp_at, LV.piece_len]
    rw [sdp_len] at hj
    have h2 : (j + 1) * y ≤ n * y := Nat.mul_le_mul_right _ hj
    have em : p + (j + 1) * y = p + j * y + y := by rw [Nat.add_mul, Nat.one_mul, Nat.add_assoc]
    omega
theorem px_text {s : ByteArray} {l : List Le} {q n p y : Nat} (h : LV.rawL s 0 = some (l, q)) (hl : LV.leavesB l = true) (hv : M.readVar s.data.toList q = some (n, p)) (hn : n ≤ 8) (hy : 1 ≤ y ∧ y ≤ 32) (hf : p + n * y ≤ s.size) :
    pxB l (sdp s y p n) (y : Int) = true ∧ (pxT l (sdp s y p n) (y : Int) = s ↔ p + n * y = s.size) := by
  have hb : pxB l (sdp s y p n) (y : Int) = true := by
    unfold pxB sidB
    rw [hl, sdp_wide hf hy, sdp_len, decide_eq_true hn]
    rfl
  refine ⟨hb, ?_⟩
  obtain ⟨hq, hc⟩ := raw_cut h
  have hpp := LV.read_past _ _ _ _ hv
  have e : (pxT l (sdp s y p n) (y : Int)).data.toList = LV.cutL s.data.toList 0 (p + n * y) := by
    unfold pxT
    rw [if_pos hb, lvT_yes hl, sdp_len, ByteArray.data_append, ByteArray.data_append, Array.toList_append, Array.toList_append, join_sdp s y p n hf]
    show LV.lvL l ++ M.varL n ++ LV.cutL s.data.toList p (p + n * y) = _
    rw [hc, ← LV.read_canon hq hv, LV.cutL_join _ 0 q p (by omega) (by omega), LV.cutL_join _ 0 p (p + n * y) (by omega) (by omega)]
  have hL : s.data.toList.length = s.size := Array.length_toList
  constructor
  · intro he
    rw [he] at e
    have h5 := LV.cutL_len s.data.toList 0 (p + n * y) (by omega) (by omega)
    rw [← e] at h5
    omega
  · intro he
    apply ByteArray.ext
    apply Array.toList_inj.1
    rw [e, he]
    unfold LV.cutL
    simp only [List.drop_zero, Nat.sub_zero]
    exact List.take_of_length_le (by omega)

/-- what the specification has read so far of the sides -/
def RyI (s : ByteArray) (X : Int) (l : List Le) (n : Int) (p m : Nat) (S : List ByteArray) (q : Nat) (b : Bool) : Prop :=
  S.length = m ∧ q ≤ s.size ∧ (∀ t ∈ S, t.size ≤ s.size) ∧ (b = true → rpOk s X = false) ∧ (b = false → (LV.rawL s 0 = none ∧ 24 < l.length) ∨ (∃ q0 k, LV.rawL s 0 = some (l, q0) ∧ M.readVar s.data.toList q0 = some (k, p) ∧ n = (k : Int) ∧ (0 < m → 0 ≤ X) ∧ S = sdp s X.toNat p m ∧ q = p + m * X.toNat))

theorem rp_at {s : ByteArray} {x : Int} {l : List Le} {q k p : Nat} (h : LV.rawL s 0 = some (l, q)) (hv : M.readVar s.data.toList q = some (k, p)) : rpOk s x = (decide (1 ≤ x ∧ x ≤ 32) && LV.leavesB l && decide (k ≤ 8) && decide (p + k * x.toNat = s.size)) ∧ (rpOk s x = true → rpL s x = l ∧ rpS s x = sdp s x.toNat p k) := by
  refine ⟨?_, fun h2 => ?_⟩
  · unfold rpOk
    rw [h]
    dsimp only
    rw [hv]
  · unfold rpL rpS
    rw [h]
    dsimp only
    rw [hv]
    dsimp only
    rw [h2]
    exact ⟨rfl, rfl⟩
theorem rp_none {s : ByteArray} {x : Int} (h : LV.rawL s 0 = none) : rpOk s x = false := by
  unfold rpOk
  rw [h]
theorem rp_var {s : ByteArray} {x : Int} {l : List Le} {q : Nat} (h : LV.rawL s 0 = some (l, q)) (hv : M.readVar s.data.toList q = none) : rpOk s x = false := by
  unfold rpOk
  rw [h]
  dsimp only
  rw [hv]
theorem RyI.bad {s : ByteArray} {X : Int} {l : List Le} {n : Int} {p m q : Nat} {S : List ByteArray} (h : RyI s X l n p m S q false) (hmn : (m : Int) < n) (hx : X < 0 ∨ (s.size : Int) - (q : Int) < X) : RyI s X l n p (m + 1) (S ++ [⟨#[]⟩]) q true := by
  obtain ⟨h1, h2, h3, _, h5⟩ := h
  refine ⟨by simp [h1], h2, fun t ht => ?_, fun _ => ?_, fun hb => by cases hb⟩
  · rcases List.mem_append.1 ht with h | h
    · exact h3 t h
    · simp at h
      subst h
      exact Nat.zero_le _
  · rcases h5 rfl with ⟨h, _⟩ | ⟨q0, k, hr, hv, rfl, hX, _, hq⟩
    · exact rp_none h
    · rw [(rp_at hr hv).1]
      by_cases hX0 : X < 0
      · rw [decide_eq_false (by omega)]
        rfl
      · have hlt : (m + 1) * X.toNat ≤ k * X.toNat := Nat.mul_le_mul_right _ (by omega)
        have em : p + (m + 1) * X.toNat = p + m * X.toNat + X.toNat := by rw [Nat.add_mul, Nat.one_mul, Nat.add_assoc]
        rw [decide_eq_false (show ¬ p + k * X.toNat = s.size by omega), Bool.and_false]
theorem RyI.take {s : ByteArray} {l : List Le} {n : Int} {p m q y : Nat} {S : List ByteArray} (h : RyI s (y : Int) l n p m S q false) (hy : q + y ≤ s.size) : RyI s (y : Int) l n p (m + 1) (S ++ [piece s q y]) (q + y) false := by
  obtain ⟨h1, h2, h3, _, h5⟩ := h
  refine ⟨by simp [h1], hy, fun t ht => ?_, (fun hb => by cases hb), fun _ => ?_⟩
  · rcases List.mem_append.1 ht with h | h
    · exact h3 t h
    · simp at h
      subst h
      exact piece_size s q y
  · rcases h5 rfl with h | ⟨q0, k, hr, hv, hk, hX, hS, hq⟩
    · exact .inl h
    · rw [Int.toNat_natCast] at hS hq
      refine .inr ⟨q0, k, hr, hv, hk, fun _ => by omega, ?_, ?_⟩
      · rw [Int.toNat_natCast, sdp_snoc, hS, hq]
      · rw [Int.toNat_natCast, hq, Nat.add_mul, Nat.one_mul, Nat.add_assoc]
theorem ry_end {s : ByteArray} {x : Int} {l : List Le} {n : Int} {p m q : Nat} {S : List ByteArray} {b : Bool} (h : RyI s x l n p m S q b) (hm : m ≤ 10) (hn : (m : Int) ≤ n) (hst : ¬ ((m : Int) < n ∧ m < 10 ∧ b = false)) :
    ((b = false ∧ pxB l S x = true ∧ pxT l S x = s) → rpOk s x = true ∧ rpL s x = l ∧ rpS s x = S) ∧ (¬ (b = false ∧ pxB l S x = true ∧ pxT l S x = s) → rpOk s x = false) := by
  obtain ⟨h1, h2, h3, h4, h5⟩ := h
  cases b with
  | true => exact ⟨fun h => (by cases h.1), fun _ => h4 rfl⟩
  | false =>
    rcases h5 rfl with ⟨hr, h24⟩ | ⟨q0, k, hr, hv, rfl, hX, hS, hq⟩
    · have hl : LV.leavesB l = false := by
        rw [LV.leavesB_no]
        intro hd
        have := hd.1
        omega
      have hp : pxB l S x = false := by unfold pxB; rw [hl]; rfl
      exact ⟨fun h => (by rw [hp] at h; cases h.2.1), fun _ => rp_none hr⟩
    · obtain ⟨e1, e2⟩ := rp_at (x := x) hr hv
      have hstop : ¬ (m < k ∧ m < 10) := fun h => hst ⟨by omega, h.2, rfl⟩
      by_cases hk8 : k ≤ 8
      · obtain rfl : m = k := by omega
        by_cases hx : 1 ≤ x ∧ x ≤ 32
        · obtain ⟨y, rfl⟩ : ∃ y : Nat, x = (y : Int) := ⟨x.toNat, by omega⟩
          rw [Int.toNat_natCast] at hS hq e1 e2
          subst hS
          cases hl : LV.leavesB l with
          | false =>
            have hp : pxB l (sdp s y p m) (y : Int) = false := by unfold pxB; rw [hl]; rfl
            refine ⟨fun h => (by rw [hp] at h; cases h.2.1), fun _ => ?_⟩
            rw [e1, hl, Bool.and_false]
            rfl
          | true =>
            obtain ⟨hp, ht⟩ := px_text (y := y) hr hl hv hk8 ⟨by omega, by omega⟩ (by omega)
            rw [decide_eq_true hx, hl, decide_eq_true hk8, Bool.true_and, Bool.true_and, Bool.true_and] at e1
            refine ⟨fun h => ?_, fun h => ?_⟩
            · have : rpOk s (y : Int) = true := by rw [e1]; exact decide_eq_true (ht.1 h.2.2)
              exact ⟨this, e2 this⟩
            · rw [e1]
              exact decide_eq_false fun hh => h ⟨rfl, hp, ht.2 hh⟩
        · have hp : pxB l S x = false := by
            unfold pxB sidB wideB
            rw [decide_eq_false hx]
            simp
          refine ⟨fun h => (by rw [hp] at h; cases h.2.1), fun _ => ?_⟩
          rw [e1, decide_eq_false hx]
          rfl
      · have hp : pxB l S x = false := by
          unfold pxB sidB
          rw [decide_eq_false (show ¬ S.length ≤ 8 by omega)]
          simp
        refine ⟨fun h => (by rw [hp] at h; cases h.2.1), fun _ => ?_⟩
        rw [e1, decide_eq_false hk8, Bool.and_false, Bool.false_and]

section
variable {w : World} {ops : Array Oper} {o : Oper} {a : Act} {Q : Exit → Act → World → Prop} {K : Act → World → Prop}
theorem one_txtP {w : World} {p : Nat} {t : ByteArray} (h : w.cell? ⟨p, 0, none⟩ = some (.string t)) : ∀ j u, [Value.string t][j]? = some u → w.cell? ((⟨p, 0, none⟩ : Addr).add j) = some u := by
  intro j u hj
  match j, hj with
  | 0, hj =>
    simp at hj
    subst hj
    simpa [Addr.add] using h
/-- a text appended, and where the row lies then: as one step of a region that draws its order -/
theorem step_txtP {E : Prop} (hgd : o.guard = none) (s x : Operand)
    (ho : o.op = .call { callee := .builtin .append, args := #[s, x], argTypes := #[29, 29] })
    (B : Nat) (w0 : World) (u : Value) (l : List ByteArray) (t : ByteArray) (hs : a.eval s = u) (h : OS B w0 w u l) (p : Nat) (hx : a.eval x = .slice (some ⟨p, 0, none⟩) 1 1)
    (hnews : w.cell? ⟨p, 0, none⟩ = some (.string t)) (hlen : l.length + 1 ≤ 1000000)
    (hk : ∀ g cap w', OS B w0 w' (.slice (some ⟨g, 0, none⟩) (l.length + 1) cap) (l ++ [t]) → w.grownBy w' u.ownBlock → (u.ownBlock = some g ∨ g = w.heap.size) → K (a.put o.dst (.slice (some ⟨g, 0, none⟩) (l.length + 1) cap)) w') : if Region.wanted o (yielded ops a.tmps) = true then Oper.wp Tryz.prog o a w K Q else E := by
  obtain ⟨i0, hi, hz0, hz1, hz2⟩ := info_parts Tryz.info9
  refine step_append_lies w hgd s x 29 ho B 9 i0 (.string ByteArray.empty) 1 16 Tryz.underlying29 hi hz0 hz1 hz2 rfl (by decide) u l.length (svs l) hs h.1 ⟨p, 0, none⟩ 1 1 [.string t] hx rfl (one_txtP hnews)
    (fun u hu => by simp at hu; subst hu; rfl) (by omega) (by unfold maxLen; omega) (by omega) h.2.2 w.heap.size rfl ?_
  intro g cap w' h1 h2 h3 _
  exact hk _ _ _ ⟨by rw [List.length_append, svs_append]; exact h1, h.2.1.grown h2 h.2.2 (fun k hk => (h.1.lt k hk).1), Nat.le_trans h.2.2 h2.size⟩ h2 h3
end

theorem OS.keptP {B : Nat} {w0 w w' : World} {v : Value} {row : Option Nat} {l : List ByteArray} (h : OS B w0 w v l) (hg : w.grownBy w' row) (hB : ∀ k, row = some k → B ≤ k) (hne : v.ownBlock = none ∨ v.ownBlock ≠ row) : OS B w0 w' v l :=
  ⟨World.ownsRow.kept h.1 hg hne, h.2.1.grown hg h.2.2 hB, Nat.le_trans h.2.2 hg.size⟩
theorem OS.neP {B g T : Nat} {w0 w : World} {v : Value} {cs : Array Value} {fz : Nat × Nat} {r : List ByteArray} (ho : OS B w0 w v r) (h : w.heap[g]? = some (.cells cs T fz)) (hT : T ≠ 9) : v.ownBlock ≠ some g := fun hq => by
  rcases ho.1.2 with ⟨hv, _⟩ | ⟨g', cap, cur, hv, _, hg, _⟩
  · rw [hv] at hq; cases hq
  · rw [hv] at hq
    have : g' = g := by simpa [Value.ownBlock] using hq
    subst this
    rw [hg] at h
    simp at h
    exact hT h.2.1.symm
theorem OL.typ {B g : Nat} {w0 w : World} {v : Value} {r : List Le} (ho : OL B w0 w v r) (hq : v.ownBlock = some g) : ∃ cs fz, w.heap[g]? = some (.cells cs 34 fz) := by
  rcases ho.1.2 with ⟨hv, _⟩ | ⟨g', cap, cur, hv, _, hg, _⟩
  · rw [hv] at hq; cases hq
  · rw [hv] at hq
    have : g' = g := by simpa [Value.ownBlock] using hq
    subst this
    exact ⟨_, _, hg⟩

/-- what stands while the specification reads -/
def RyS (B : Nat) (w0 W : World) (s : ByteArray) (c gp : Nat) (q : Nat) (b : Bool) (vL : Value) (l : List Le) (vS : Value) (S : List ByteArray) : Prop := OL B w0 W vL l ∧ Cu W c s q b ∧ PfM W gp vL vS ∧ OS B w0 W vS S
theorem RyS.later {B : Nat} {w0 W W' : World} {s : ByteArray} {c gp q : Nat} {b : Bool} {vL vS : Value} {l : List Le} {S : List ByteArray} (h : RyS B w0 W s c gp q b vL l vS S) (hb : Below W.heap.size W W') : RyS B w0 W' s c gp q b vL l vS S := ⟨h.1.later hb, h.2.1.later hb, h.2.2.1.later hb, h.2.2.2.later hb⟩
/-- the reader has gone on -/
theorem RyS.read {B : Nat} {w0 W W' : World} {s : ByteArray} {c gp q q' : Nat} {b b' : Bool} {vL vS : Value} {l : List Le} {S : List ByteArray} (h : RyS B w0 W s c gp q b vL l vS S) (hg : W.grownBy W' (some c)) (hc : Cu W' c s q' b') (hB : B ≤ c) : RyS B w0 W' s c gp q' b' vL l vS S :=
  ⟨h.1.grown hg (fun k hk => by cases hk; exact ⟨hB, h.1.ne h.2.1 (by decide)⟩), hc, h.2.2.1.keep (hg.block _ h.2.2.1.lt (fun e => by
    have : gp = c := by simpa using e
    subst this
    have h1 := h.2.1
    have h2 := h.2.2.1
    unfold Cu at h1
    unfold PfM at h2
    rw [h1] at h2
    simp at h2)), h.2.2.2.keptP hg (fun k hk => by cases hk; exact hB) (.inr (h.2.2.2.neP h.2.1 (by decide)))⟩
/-- a side more -/
theorem RyS.app {B : Nat} {w0 W W' : World} {s : ByteArray} {c gp q : Nat} {b : Bool} {vL vS v' : Value} {l : List Le} {S S' : List ByteArray} (h : RyS B w0 W s c gp q b vL l vS S) (hg : W.grownBy W' vS.ownBlock) (ho : OS B w0 W' v' S') (hgp : B ≤ gp) :
    W'.cell? ⟨gp, 1, none⟩ = some vS ∧ W'.frozen? ⟨gp, 1, none⟩ = false ∧ gp < W'.heap.size ∧ RyS B w0 (W'.setCell ⟨gp, 1, none⟩ v') s c gp q b vL l v' S' := by
  have hP := h.2.2.1.keep (hg.block _ h.2.2.1.lt (Ne.symm (h.2.2.2.neP h.2.2.1 (by decide))))
  have hC : Cu W' c s q b := (hg.block _ h.2.1.lt (Ne.symm (h.2.2.2.neP h.2.1 (by decide)))).trans h.2.1
  have hL : OL B w0 W' vL l := h.1.grown hg (fun k hk => ⟨(h.2.2.2.1.lt k hk).1, fun e => by
    obtain ⟨cs, fz, hh⟩ := h.1.typ e
    exact h.2.2.2.neP hh (by decide) hk⟩)
  have hgr := grown_setC W' gp 1 v'
  refine ⟨hP.c1, hP.fr 1, hP.lt, hL.grown hgr (fun k hk => by cases hk; exact ⟨hgp, hL.ne hP (by decide)⟩), hC.grown hgr (fun e => ?_), hP.set1 v', ho.keptP hgr (fun k hk => by cases hk; exact hgp) (.inr (ho.neP hP (by decide)))⟩
  have : c = gp := by simpa using e
  subst this
  unfold Cu at hC
  unfold PfM at hP
  rw [hC] at hP
  simp at hP

def RyR (B : Nat) (w0 : World) (s : ByteArray) (x : Int) (c gp : Nat) (vL : Value) (l : List Le) (n : Int) (p : Nat) (i : Value) (wr : World) : Prop := ∃ (m q : Nat) (b : Bool) (vS : Value) (S : List ByteArray), m ≤ 10 ∧ (m : Int) ≤ n ∧ i = .int .i64 m ∧ Hid (RyI s x l n p m S q b ∧ RyS B w0 wr s c gp q b vL l vS S)

set_option maxRecDepth 100000 in
set_option maxHeartbeats 2000000 in
theorem sReadProof_any (s : ByteArray) (x : Int) (w : World) (hs : s.size ≤ 1048576) :
    Calls Tryz.prog 18 #[.string s, .int .i64 x] w (PvP (rpL s x) (rpS s x) (rpOk s x) w) := by
  obtain ⟨Q, hQ⟩ : ∃ Q, PvP (rpL s x) (rpS s x) (rpOk s x) w = Q := ⟨_, rfl⟩
  have HQ : Hid (PvP (rpL s x) (rpS s x) (rpOk s x) w = Q) := hQ
  rw [hQ]
  clear hQ
  have A0 := PfM.later (PfM.new w (.slice none 0 0) (.slice none 0 0)) ((Below.refl _ _).alloc (Nat.le_refl _) (.cells #[.string s, .int .i64 0, .bool false] 88))
  have C0 : Cu ((w.alloc (.cells #[.slice none 0 0, .slice none 0 0] 43)).alloc (.cells #[.string s, .int .i64 0, .bool false] 88)) (w.heap.size + 1) s 0 false := by
    have := Go.heap_alloc_new (w.alloc (.cells #[.slice none 0 0, .slice none 0 0] 43)) (.cells #[.string s, .int .i64 0, .bool false] 88)
    have e : (w.alloc (.cells #[.slice none 0 0, .slice none 0 0] 43)).heap.size = w.heap.size + 1 := by simp
    rw [e] at this
    exact this
  have b0 : Below w.heap.size w ((w.alloc (.cells #[.slice none 0 0, .slice none 0 0] 43)).alloc (.cells #[.string s, .int .i64 0, .bool false] 88)) := ((Below.refl _ _).alloc (Nat.le_refl _) _).alloc (by simp) _
  have h1 := l09Leaves_at (w.heap.size + 1) s (w.heap.size + 1) _ _ C0 (Nat.le_refl _) (Below.refl _ _) hs
  go_enter Tryz.func18, Tryz.ntmps18
  go_wp2_with fail
  refine h1.mono ?_
  generalize (w.alloc (.cells #[.slice none 0 0, .slice none 0 0] 43)).alloc (.cells #[.string s, .int .i64 0, .bool false] 88) = w0 at *
  rintro e w1 ⟨u, l, q, b, rfl, ho, hc, ⟨hl30, hqs⟩, hsz, hbt, hbf⟩
  obtain ⟨au, cu, rfl⟩ := ho.shape
  clear h1 C0
  have hba : Below w1.heap.size w1 (w1.alloc (.cells #[.slice au l.length cu, .slice none 0 0] 43)) := (Below.refl _ _).alloc (Nat.le_refl _) _
  have hBs : w.heap.size + 1 ≤ w1.heap.size := ho.2.2
  have HSM : Hid (SmallL l) := fun f hf => by have := hsz f hf; omega
  have O1 := ho.later hba
  have S1 : RyS (w.heap.size + 1) w0 (w1.alloc (.cells #[.slice au l.length cu, .slice none 0 0] 43)) s (w.heap.size + 1) w1.heap.size q b (.slice au l.length cu) l (.slice none 0 0) [] := ⟨O1, hc.later hba, PfM.new w1 _ _, ⟨World.ownsRow_nil _ _ _ _, O1.2.1, O1.2.2⟩⟩
  have HV : Hid (∀ W, RyS (w.heap.size + 1) w0 W s (w.heap.size + 1) w1.heap.size q b (.slice au l.length cu) l (.slice none 0 0) [] → Calls Tryz.prog 59 #[.pointer (some ⟨w.heap.size + 1, 0, none⟩)] W fun e w' => ∃ (n p q1 : Nat) (b1 : Bool), e = .returned (.int .i64 (n : Int)) ∧ n ≤ 1000000000 ∧ RyI s x l (n : Int) p 0 [] q1 b1 ∧ RyS (w.heap.size + 1) w0 w' s (w.heap.size + 1) w1.heap.size q1 b1 (.slice au l.length cu) l (.slice none 0 0) []) := fun W hW => by
    cases b with
    | true =>
      refine (l09Var_bad (w.heap.size + 1) s q W hW.2.1 hs hqs).mono fun e w' ⟨⟨he, hc'⟩, hg⟩ => ?_
      exact ⟨0, 0, q, true, he, by omega, ⟨rfl, hqs, fun t ht => (by cases ht), fun _ => rp_none (hbt rfl), fun h => (by cases h)⟩, hW.read hg hc' (Nat.le_refl _)⟩
    | false =>
      refine (l09Var_at (w.heap.size + 1) s q W hW.2.1 hs hqs).mono fun e w' ⟨hm, hg⟩ => ?_
      cases hr : M.readVar s.data.toList q with
      | none =>
        rw [hr] at hm
        refine ⟨0, 0, q, true, hm.1, by omega, ⟨rfl, hqs, fun t ht => (by cases ht), fun _ => ?_, fun h => (by cases h)⟩, hW.read hg hm.2 (Nat.le_refl _)⟩
        rcases hbf rfl with ⟨h, _⟩ | h
        · exact rp_none h
        · exact rp_var h hr
      | some z =>
        obtain ⟨k, p⟩ := z
        rw [hr] at hm
        obtain ⟨hps, hk9⟩ := read_bound s q k p hr
        refine ⟨k, p, p, false, hm.1, hk9, ⟨rfl, hps, fun t ht => (by cases ht), fun h => (by cases h), fun _ => ?_⟩, hW.read hg hm.2 (Nat.le_refl _)⟩
        rcases hbf rfl with h | h
        · exact .inl h
        · exact .inr ⟨q, k, h, hr, rfl, fun h0 => absurd h0 (by omega), rfl, by omega⟩
  clear hbt hbf hsz ho hc O1 hba
  go_wp2_with fail
  refine (HV.out _ S1).mono ?_
  rintro e w2 ⟨n, p, q1, b1, rfl, hn9, hI1, S2⟩
  clear HV S1
  have HST : Hid (RyR (w.heap.size + 1) w0 s x (w.heap.size + 1) w1.heap.size (.slice au l.length cu) l (n : Int) p (.int .i64 0) w2) := ⟨0, q1, b1, _, _, by omega, by omega, rfl, hI1, S2⟩
  have HA0 : Hid (PfM w0 w.heap.size (.slice none 0 0) (.slice none 0 0) ∧ Below w.heap.size w w0) := ⟨A0, b0⟩
  clear hI1 S2 A0 b0
  go_wp2
  go_loopw [9] (fun i wr => RyR (w.heap.size + 1) w0 s x (w.heap.size + 1) w1.heap.size (.slice au l.length cu) l (n : Int) p i wr) (fun i _ => 11 - (intOf i).toNat)
  case atStart => exact HST.out
  case round =>
    obtain ⟨m, q, b, vS, S, hm, hmn, rfl, HI⟩ := hrel
    clear HST
    have d2 := HI.out.2.2.1.c2
    have hlt := HI.out.2.2.1.lt
    by_cases hstop : (m : Int) < (n : Int) ∧ m < 10 ∧ b = false
    · obtain ⟨i1, hm10, rfl⟩ := hstop
      have i3 : (m : Int) < 10 := by omega
      have HSl : Hid (S.length = m) := HI.out.1.1
      have HTK : Hid (∀ W, RyS (w.heap.size + 1) w0 W s (w.heap.size + 1) w1.heap.size q false (.slice au l.length cu) l vS S → Calls Tryz.prog 60 #[.pointer (some ⟨w.heap.size + 1, 0, none⟩), .int .i64 x] W fun e w' => ∃ (t : ByteArray) (q' : Nat) (b' : Bool), e = .returned (.string t) ∧ RyI s x l (n : Int) p (m + 1) (S ++ [t]) q' b' ∧ RyS (w.heap.size + 1) w0 w' s (w.heap.size + 1) w1.heap.size q' b' (.slice au l.length cu) l vS S) := fun W hW => by
        by_cases hno : x < 0 ∨ (s.size : Int) - (q : Int) < x
        · refine (l09Take_no (w.heap.size + 1) s q false x W hW.2.1 hs HI.out.1.2.1 (.inr hno)).mono fun e w' ⟨⟨he, hc'⟩, hg⟩ => ?_
          exact ⟨_, q, true, he, HI.out.1.bad i1 hno, hW.read hg hc' (Nat.le_refl _)⟩
        · obtain ⟨y, rfl⟩ : ∃ y : Nat, x = (y : Int) := ⟨x.toNat, by omega⟩
          have hqy : q + y ≤ s.size := by omega
          refine (l09Take_yes (w.heap.size + 1) s q y W hW.2.1 hs hqy).mono fun e w' ⟨⟨he, hc'⟩, hg⟩ => ?_
          exact ⟨_, q + y, false, he, HI.out.1.take hqy, hW.read hg hc' (Nat.le_refl _)⟩
      have HS0 : Hid (RyS (w.heap.size + 1) w0 wr.drew s (w.heap.size + 1) w1.heap.size q false (.slice au l.length cu) l vS S) := HI.out.2.later (Below.refl _ _).drew
      have k1 : wr.drew.cell? ⟨w1.heap.size, 1, none⟩ = some vS := HS0.out.2.2.1.c1
      have hvs : ∃ a c, vS = .slice a S.length c := by
        rcases HI.out.2.2.2.2.shape with ⟨hv, hn⟩ | ⟨g, cap, hv, _⟩
        · exact ⟨none, 0, by rw [hv, hn]; rfl⟩
        · exact ⟨_, _, hv⟩
      obtain ⟨aS, cS, rfl⟩ := hvs
      clear HI
      go_wp2
      go_region_law ((first
        | (refine step_txtP rfl _ _ rfl (w.heap.size + 1) w0 _ S t (by rfl) HS4.out.2.2.2 _ (by rfl) HCT.out (by have := HSl.out; omega) ?_; intro g5 cap5 w5 ho5 hg5 hl5; obtain ⟨e1, f1, z1, hS5⟩ := HS4.out.app hg5 ho5 hBs)
        | (go_simp; go_at_call 60; refine (HTK.out _ HS0.out).mono ?_; rintro e w3 ⟨t, q', b', rfl, hI3, hS3⟩; have k3 := hS3.2.2.1.c1; have HS4 : Hid (RyS (w.heap.size + 1) w0 (w3.alloc (.cells #[.string t] 9)) s (w.heap.size + 1) w1.heap.size q' b' (.slice au l.length cu) l (.slice aS S.length cS) S) := hS3.later ((Below.refl _ _).alloc (Nat.le_refl _) _); have HCT : Hid ((w3.alloc (.cells #[.string t] 9)).cell? ⟨w3.heap.size, 0, none⟩ = some (.string t)) := (by show (w3.alloc (.cells #[.string t] 9)).cell? ⟨w3.heap.size, 0, none⟩ = some (.string t); rw [World.cell?_alloc_at _ _ _ _ rfl]; rfl); have k4 := HS4.out.2.2.1.c1)))
      all_goals
        have HJ : Hid (RyR (w.heap.size + 1) w0 s x (w.heap.size + 1) w1.heap.size (.slice au l.length cu) l (n : Int) p (.int .i64 ((m : Int) + 1)) (w5.setCell ⟨w1.heap.size, 1, none⟩ (.slice (some ⟨g5, 0, none⟩) (S.length + 1) cap5))) := ⟨m + 1, q', b', _, _, by omega, by omega, by congr 1, hI3, hS5⟩
        clear hS5 hI3 HS4 HCT hS3 k3 k4 k1 HS0 HTK ho5 hg5 hl5 e1 f1 z1
        go_wp2
        go_roundw
        case rel => exact HJ.out
        case measure => simp [intOf]; omega
    · have HEND0 := ry_end HI.out.1 hm hmn hstop
      have HSl : Hid (S.length ≤ 10) := by have := HI.out.1.1; exact (show S.length ≤ 10 by omega)
      have HPX0 : Hid (∀ W, RyS (w.heap.size + 1) w0 W s (w.heap.size + 1) w1.heap.size q b (.slice au l.length cu) l vS S → Calls Tryz.prog 51 #[.agg #[.slice au l.length cu, vS], .int .i64 x] W fun e w' => e = .returned (.tuple #[.string (pxT l S x), .bool (pxB l S x)]) ∧ Below W.heap.size W w') := fun W hW => by
        obtain ⟨gl, hrl, _, _⟩ := hW.1.rw (by omega)
        obtain ⟨gs, hss⟩ := hW.2.2.2.ss (by have := HSl.out; omega)
        exact sProofText_any _ _ gl 0 gs 0 l S x W hrl.1 HSM.out hss
      obtain ⟨PT, hPT⟩ : ∃ PT, pxT l S x = PT := ⟨_, rfl⟩
      obtain ⟨PB, hPB⟩ : ∃ PB, pxB l S x = PB := ⟨_, rfl⟩
      rw [hPT, hPB] at HEND0 HPX0
      have HEND : Hid (((b = false ∧ PB = true ∧ PT = s) → rpOk s x = true ∧ rpL s x = l ∧ rpS s x = S) ∧ (¬ (b = false ∧ PB = true ∧ PT = s) → rpOk s x = false)) := HEND0
      have HPX : Hid _ := HPX0.out
      clear HEND0 HPX0 hPT hPB
      have k0 := HI.out.2.2.2.1.c0
      have k1 := HI.out.2.2.2.1.c1
      by_cases hmlt : (m : Int) < (n : Int)
      · by_cases hm10 : m < 10
        · have i3 : (m : Int) < 10 := by omega
          obtain rfl : b = true := by
            cases b
            · exact absurd ⟨hmlt, hm10, rfl⟩ hstop
            · rfl
          clear hstop
          go_wp2_with fail
          refine (HPX.out _ HI.out.2).mono ?_
          rintro e w3 ⟨rfl, hb3⟩
          have S3 := HI.out.2.later hb3
          have A3 : PfM w3 w.heap.size (.slice none 0 0) (.slice none 0 0) := HA0.out.1.keep (S3.1.2.1.block _ (by omega))
          have b3 : Below w.heap.size w w3 := HA0.out.2.trans (S3.1.2.1.mono (by omega))
          have d3 := S3.2.1.c2
          have hl3 := S3.2.1.lt
          have HNO : Hid (¬ (true = false ∧ PB = true ∧ PT = s) → Q (.returned (.tuple #[.agg #[.slice none 0 0, .slice none 0 0], .bool false])) (w3.setRow w.heap.size #[.slice none 0 0, .slice none 0 0])) := fun h => by
            have h0 := HEND.out.2 h
            rw [← HQ.out, h0, (rp_no h0).1, (rp_no h0).2]
            exact PvP.no (below_row b3 (Nat.le_refl _))
          have HYE : Hid (true = false ∧ PB = true ∧ PT = s → Q (.returned (.tuple #[.agg #[.slice au l.length cu, vS], .bool true])) (w3.setRow w.heap.size #[.slice au l.length cu, vS])) := fun h => by
            obtain ⟨y1, y2, y3⟩ := HEND.out.1 h
            rw [← HQ.out, y1, y2, y3]
            have hgx := grown_setRowP w3 w.heap.size #[.slice au l.length cu, vS]
            obtain ⟨gl, hrl, hgl, hql⟩ := S3.1.rw (by omega)
            obtain ⟨gs, hts, hgs⟩ := S3.2.2.2.ts (by have := HSl.out; omega)
            have hcap : ∃ aS cS, vS = .slice aS S.length cS ∧ S.length ≤ cS := by
              rcases S3.2.2.2.1.2 with ⟨hv, hn⟩ | ⟨g, cap, cur, hv, _, _, hca, _⟩
              · have h0 : S.length = 0 := hn
                exact ⟨none, 0, by rw [hv, h0], by omega⟩
              · exact ⟨_, cap, hv, hca⟩
            obtain ⟨aS, cS, rfl, hcS⟩ := hcap
            refine ⟨au, cu, aS, cS, gl, gs, rfl, hrl.grown hgx (fun _ => by simp; omega), hts.keptG hgx (fun _ => by simp; omega), by omega, by omega, ⟨fun h1 h2 he => ?_, hcS⟩, below_row b3 (Nat.le_refl _)⟩
            subst he
            have hS := S3.2.2.2
            rcases hS.1.2 with ⟨hv, hn⟩ | ⟨g, cap, cur, hv, _, hg, _⟩
            · have h0 : S.length = 0 := hn
              omega
            · have e1 : g = gl := by
                have hh := hts.ss
                obtain ⟨_, _, ev, _, hA, _⟩ := hh
                have := hA h2
                rw [this] at ev
                rw [hv] at ev
                simp only [Value.slice.injEq, Option.some.injEq, Addr.mk.injEq] at ev
                exact ev.1.1
              subst e1
              rcases S3.1.1.2 with ⟨hv2, hn2⟩ | ⟨g2, cap2, cur2, hv2, _, hg2, _⟩
              · have h0 : l.length = 0 := hn2
                omega
              · have e2 : g2 = g := hql g2 (by rw [hv2]; rfl)
                subst e2
                rw [hg] at hg2
                simp at hg2
          have HP3 : Hid (PfM w3 w1.heap.size (.slice au l.length cu) vS) := S3.2.2.1
          have hone : vS.oneCell' = true := by
            rcases S3.2.2.2.shape with ⟨hv, _⟩ | ⟨g, cap, hv, _⟩
            · rw [hv]; rfl
            · rw [hv]; rfl
          clear HEND HPX S3 HI hb3 HA0
          have hQ := HNO.out (fun h => by cases h.1)
          clear HNO HYE
          go_wp2_with (refine wp_storePf rfl _ _ rfl w.heap.size _ _ (.slice none 0 0) (.slice none 0 0) A3 rfl rfl rfl rfl ?_; intro hfin)
          refine ret_pf2 4 5 w.heap.size _ _ _ rfl rfl rfl rfl hfin ?_
          exact hQ
        · have i3 : ¬ (m : Int) < 10 := by omega
          clear hstop
          go_wp2_with fail
          refine (HPX.out _ HI.out.2).mono ?_
          rintro e w3 ⟨rfl, hb3⟩
          have S3 := HI.out.2.later hb3
          have A3 : PfM w3 w.heap.size (.slice none 0 0) (.slice none 0 0) := HA0.out.1.keep (S3.1.2.1.block _ (by omega))
          have b3 : Below w.heap.size w w3 := HA0.out.2.trans (S3.1.2.1.mono (by omega))
          have d3 := S3.2.1.c2
          have hl3 := S3.2.1.lt
          have HNO : Hid (¬ (b = false ∧ PB = true ∧ PT = s) → Q (.returned (.tuple #[.agg #[.slice none 0 0, .slice none 0 0], .bool false])) (w3.setRow w.heap.size #[.slice none 0 0, .slice none 0 0])) := fun h => by
            have h0 := HEND.out.2 h
            rw [← HQ.out, h0, (rp_no h0).1, (rp_no h0).2]
            exact PvP.no (below_row b3 (Nat.le_refl _))
          have HYE : Hid (b = false ∧ PB = true ∧ PT = s → Q (.returned (.tuple #[.agg #[.slice au l.length cu, vS], .bool true])) (w3.setRow w.heap.size #[.slice au l.length cu, vS])) := fun h => by
            obtain ⟨y1, y2, y3⟩ := HEND.out.1 h
            rw [← HQ.out, y1, y2, y3]
            have hgx := grown_setRowP w3 w.heap.size #[.slice au l.length cu, vS]
            obtain ⟨gl, hrl, hgl, hql⟩ := S3.1.rw (by omega)
            obtain ⟨gs, hts, hgs⟩ := S3.2.2.2.ts (by have := HSl.out; omega)
            have hcap : ∃ aS cS, vS = .slice aS S.length cS ∧ S.length ≤ cS := by
              rcases S3.2.2.2.1.2 with ⟨hv, hn⟩ | ⟨g, cap, cur, hv, _, _, hca, _⟩
              · have h0 : S.length = 0 := hn
                exact ⟨none, 0, by rw [hv, h0], by omega⟩
              · exact ⟨_, cap, hv, hca⟩
            obtain ⟨aS, cS, rfl, hcS⟩ := hcap
            refine ⟨au, cu, aS, cS, gl, gs, rfl, hrl.grown hgx (fun _ => by simp; omega), hts.keptG hgx (fun _ => by simp; omega), by omega, by omega, ⟨fun h1 h2 he => ?_, hcS⟩, below_row b3 (Nat.le_refl _)⟩
            subst he
            have hS := S3.2.2.2
            rcases hS.1.2 with ⟨hv, hn⟩ | ⟨g, cap, cur, hv, _, hg, _⟩
            · have h0 : S.length = 0 := hn
              omega
            · have e1 : g = gl := by
                have hh := hts.ss
                obtain ⟨_, _, ev, _, hA, _⟩ := hh
                have := hA h2
                rw [this] at ev
                rw [hv] at ev
                simp only [Value.slice.injEq, Option.some.injEq, Addr.mk.injEq] at ev
                exact ev.1.1
              subst e1
              rcases S3.1.1.2 with ⟨hv2, hn2⟩ | ⟨g2, cap2, cur2, hv2, _, hg2, _⟩
              · have h0 : l.length = 0 := hn2
                omega
              · have e2 : g2 = g := hql g2 (by rw [hv2]; rfl)
                subst e2
                rw [hg] at hg2
                simp at hg2
          have HP3 : Hid (PfM w3 w1.heap.size (.slice au l.length cu) vS) := S3.2.2.1
          have hone : vS.oneCell' = true := by
            rcases S3.2.2.2.shape with ⟨hv, _⟩ | ⟨g, cap, hv, _⟩
            · rw [hv]; rfl
            · rw [hv]; rfl
          clear HEND HPX S3 HI hb3 HA0
          cases b with
          | true =>
            have hQ := HNO.out (fun h => by cases h.1)
            clear HNO HYE
            go_wp2_with (refine wp_storePf rfl _ _ rfl w.heap.size _ _ (.slice none 0 0) (.slice none 0 0) A3 rfl rfl rfl rfl ?_; intro hfin)
            refine ret_pf2 4 5 w.heap.size _ _ _ rfl rfl rfl rfl hfin ?_
            exact hQ
          | false =>
            cases PB with
            | false =>
              have hQ := HNO.out (fun h => by cases h.2.1)
              clear HNO HYE
              go_wp2_with (refine wp_storePf rfl _ _ rfl w.heap.size _ _ (.slice none 0 0) (.slice none 0 0) A3 rfl rfl rfl rfl ?_; intro hfin)
              refine ret_pf2 4 5 w.heap.size _ _ _ rfl rfl rfl rfl hfin ?_
              exact hQ
            | true =>
              by_cases ht : PT = s
              · have hQ := HYE.out ⟨rfl, rfl, ht⟩
                have qt : (PT.toList == s.toList) = true := by rw [ht]; simp
                clear HNO HYE ht
                go_wp2_with (first | (refine wp_loadPf rfl _ rfl w1.heap.size _ _ rfl HP3.out ?_) | (refine wp_storePf rfl _ _ rfl w.heap.size _ _ (.slice au l.length cu) vS A3 rfl rfl rfl hone ?_; intro hfin))
                refine ret_pf2 4 5 w.heap.size _ _ _ rfl rfl rfl rfl hfin ?_
                exact hQ
              · have hQ := HNO.out (fun h => ht h.2.2)
                have qt : (PT.toList == s.toList) = false := LV.bytes_ne ht
                clear HNO HYE ht
                go_wp2_with (refine wp_storePf rfl _ _ rfl w.heap.size _ _ (.slice none 0 0) (.slice none 0 0) A3 rfl rfl rfl rfl ?_; intro hfin)
                refine ret_pf2 4 5 w.heap.size _ _ _ rfl rfl rfl rfl hfin ?_
                exact hQ
      · clear hstop
        go_wp2_with fail
        refine (HPX.out _ HI.out.2).mono ?_
        rintro e w3 ⟨rfl, hb3⟩
        have S3 := HI.out.2.later hb3
        have A3 : PfM w3 w.heap.size (.slice none 0 0) (.slice none 0 0) := HA0.out.1.keep (S3.1.2.1.block _ (by omega))
        have b3 : Below w.heap.size w w3 := HA0.out.2.trans (S3.1.2.1.mono (by omega))
        have d3 := S3.2.1.c2
        have hl3 := S3.2.1.lt
        have HNO : Hid (¬ (b = false ∧ PB = true ∧ PT = s) → Q (.returned (.tuple #[.agg #[.slice none 0 0, .slice none 0 0], .bool false])) (w3.setRow w.heap.size #[.slice none 0 0, .slice none 0 0])) := fun h => by
          have h0 := HEND.out.2 h
          rw [← HQ.out, h0, (rp_no h0).1, (rp_no h0).2]
          exact PvP.no (below_row b3 (Nat.le_refl _))
        have HYE : Hid (b = false ∧ PB = true ∧ PT = s → Q (.returned (.tuple #[.agg #[.slice au l.length cu, vS], .bool true])) (w3.setRow w.heap.size #[.slice au l.length cu, vS])) := fun h => by
          obtain ⟨y1, y2, y3⟩ := HEND.out.1 h
          rw [← HQ.out, y1, y2, y3]
          have hgx := grown_setRowP w3 w.heap.size #[.slice au l.length cu, vS]
          obtain ⟨gl, hrl, hgl, hql⟩ := S3.1.rw (by omega)
          obtain ⟨gs, hts, hgs⟩ := S3.2.2.2.ts (by have := HSl.out; omega)
          have hcap : ∃ aS cS, vS = .slice aS S.length cS ∧ S.length ≤ cS := by
            rcases S3.2.2.2.1.2 with ⟨hv, hn⟩ | ⟨g, cap, cur, hv, _, _, hca, _⟩
            · have h0 : S.length = 0 := hn
              exact ⟨none, 0, by rw [hv, h0], by omega⟩
            · exact ⟨_, cap, hv, hca⟩
          obtain ⟨aS, cS, rfl, hcS⟩ := hcap
          refine ⟨au, cu, aS, cS, gl, gs, rfl, hrl.grown hgx (fun _ => by simp; omega), hts.keptG hgx (fun _ => by simp; omega), by omega, by omega, ⟨fun h1 h2 he => ?_, hcS⟩, below_row b3 (Nat.le_refl _)⟩
          subst he
          have hS := S3.2.2.2
          rcases hS.1.2 with ⟨hv, hn⟩ | ⟨g, cap, cur, hv, _, hg, _⟩
          · have h0 : S.length = 0 := hn
            omega
          · have e1 : g = gl := by
              have hh := hts.ss
              obtain ⟨_, _, ev, _, hA, _⟩ := hh
              have := hA h2
              rw [this] at ev
              rw [hv] at ev
              simp only [Value.slice.injEq, Option.some.injEq, Addr.mk.injEq] at ev
              exact ev.1.1
            subst e1
            rcases S3.1.1.2 with ⟨hv2, hn2⟩ | ⟨g2, cap2, cur2, hv2, _, hg2, _⟩
            · have h0 : l.length = 0 := hn2
              omega
            · have e2 : g2 = g := hql g2 (by rw [hv2]; rfl)
              subst e2
              rw [hg] at hg2
              simp at hg2
        have HP3 : Hid (PfM w3 w1.heap.size (.slice au l.length cu) vS) := S3.2.2.1
        have hone : vS.oneCell' = true := by
          rcases S3.2.2.2.shape with ⟨hv, _⟩ | ⟨g, cap, hv, _⟩
          · rw [hv]; rfl
          · rw [hv]; rfl
        clear HEND HPX S3 HI hb3 HA0
        cases b with
        | true =>
          have hQ := HNO.out (fun h => by cases h.1)
          clear HNO HYE
          go_wp2_with (refine wp_storePf rfl _ _ rfl w.heap.size _ _ (.slice none 0 0) (.slice none 0 0) A3 rfl rfl rfl rfl ?_; intro hfin)
          refine ret_pf2 4 5 w.heap.size _ _ _ rfl rfl rfl rfl hfin ?_
          exact hQ
        | false =>
          cases PB with
          | false =>
            have hQ := HNO.out (fun h => by cases h.2.1)
            clear HNO HYE
            go_wp2_with (refine wp_storePf rfl _ _ rfl w.heap.size _ _ (.slice none 0 0) (.slice none 0 0) A3 rfl rfl rfl rfl ?_; intro hfin)
            refine ret_pf2 4 5 w.heap.size _ _ _ rfl rfl rfl rfl hfin ?_
            exact hQ
          | true =>
            by_cases ht : PT = s
            · have hQ := HYE.out ⟨rfl, rfl, ht⟩
              have qt : (PT.toList == s.toList) = true := by rw [ht]; simp
              clear HNO HYE ht
              go_wp2_with (first | (refine wp_loadPf rfl _ rfl w1.heap.size _ _ rfl HP3.out ?_) | (refine wp_storePf rfl _ _ rfl w.heap.size _ _ (.slice au l.length cu) vS A3 rfl rfl rfl hone ?_; intro hfin))
              refine ret_pf2 4 5 w.heap.size _ _ _ rfl rfl rfl rfl hfin ?_
              exact hQ
            · have hQ := HNO.out (fun h => ht h.2.2)
              have qt : (PT.toList == s.toList) = false := LV.bytes_ne ht
              clear HNO HYE ht
              go_wp2_with (refine wp_storePf rfl _ _ rfl w.heap.size _ _ (.slice none 0 0) (.slice none 0 0) A3 rfl rfl rfl rfl ?_; intro hfin)
              refine ret_pf2 4 5 w.heap.size _ _ _ rfl rfl rfl rfl hfin ?_
              exact hQ

end Go.Proofs.YtmcejkfknbjjkaaGreatDoor
