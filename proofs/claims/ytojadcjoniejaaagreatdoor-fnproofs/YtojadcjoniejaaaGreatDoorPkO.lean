/-
  Texts laid together: Ls, Ly, Lz, Jo, Pj, Rw, Rs, Rt, Ru.
-/
import Derived.Test.YtojadcjoniejaaaGreatDoorPkE
import Derived.Test.YtojadcjoniejaaaGreatDoorPkJ
import Derived.Deep.AppendLies
import Derived.Deep.RegionHeld3
import Derived.Shelf.Strings.OnBuilder
import Derived.Test.YtojadcjoniejaaaGreatDoorProg
import Derived.Test.YtojadcjoniejaaaGreatDoorPkM
import Derived.Lib.QuietBelow
import Derived.Tactics2
import Derived.Defers
import Derived.Recover
import Derived.WalkLawsBesides
import Derived.Test.YtojadcjoniejaaaGreatDoorShelf
import Derived.StillTailTactics
/-
  Leaves read of a whole text: the program's and the specification's answers.
-/
namespace Go.Proofs.YtojadcjoniejaaaGreatDoor
open Go.RowKit Go.BigFrame Go.Sort
set_option linter.unusedVariables false
set_option linter.unusedSimpArgs false

/-- what ReadLeaves answers -/
def RxP (s : ByteArray) (w : World) (e : Ending) (w' : World) : Prop := ∃ a c g, e = .returned (.tuple #[.slice a (LV.rdL s).length c, .bool (LV.rdB s)]) ∧ RW 2 lcs w' (.slice a (LV.rdL s).length c) g (LV.rdL s) ∧ w.heap.size ≤ g ∧ Below w.heap.size w w'
theorem RW.empty (W : World) (g c : Nat) (a : Option Addr) : RW 2 lcs W (.slice a 0 c) g [] := ⟨⟨a, c, rfl, by simp, fun h => absurd h (by simp), fun j h => absurd h (by simp)⟩, fun j h => absurd h (by simp)⟩
theorem RxP.no {s : ByteArray} {w w' : World} (hB : LV.rdB s = false) (hL : LV.rdL s = []) (c : Nat) (a : Option Addr) (hb : Below w.heap.size w w') : RxP s w (.returned (.tuple #[.slice a 0 c, .bool false])) w' := by
  unfold RxP
  rw [hB, hL]
  exact ⟨a, c, w.heap.size, rfl, RW.empty _ _ _ _, Nat.le_refl _, hb⟩

theorem rd_none {s : ByteArray} (h : LV.rawL s 0 = none) : LV.rdB s = false ∧ LV.rdL s = [] := by
  unfold LV.rdB LV.rdL
  rw [h]
  exact ⟨rfl, rfl⟩
theorem rd_some {s : ByteArray} {l : List Le} {q : Nat} (h : LV.rawL s 0 = some (l, q)) : LV.rdB s = (decide (q = s.size) && LV.leavesB l) ∧ LV.rdL s = if decide (q = s.size) && LV.leavesB l then l else [] := by
  unfold LV.rdB LV.rdL
  rw [h]
  exact ⟨rfl, rfl⟩

/-! the specification's reader -/
/-- the block of a reader: its text, its place, and whether it was spoilt -/
def Cu (W : World) (c : Nat) (s : ByteArray) (p : Nat) (b : Bool) : Prop := W.heap[c]? = some (.cells #[.string s, .int .i64 (p : Int), .bool b] 89 (0, 0))
section
variable {W W' : World} {c p : Nat} {s : ByteArray} {b : Bool}
theorem Cu.lt (h : Cu W c s p b) : c < W.heap.size := (Array.getElem?_eq_some_iff.1 h).1
theorem Cu.later (h : Cu W c s p b) (hb : Below W.heap.size W W') : Cu W' c s p b := (hb.block c h.lt).trans h
theorem Cu.grown {row : Option Nat} (h : Cu W c s p b) (hg : W.grownBy W' row) (hne : some c ≠ row) : Cu W' c s p b := (hg.block c h.lt hne).trans h
theorem Cu.c0 (h : Cu W c s p b) : W.cell? ⟨c, 0, none⟩ = some (.string s) := by rw [cell_of_row W c 0 _ _ _ h]; rfl
theorem Cu.c1 (h : Cu W c s p b) : W.cell? ⟨c, 1, none⟩ = some (.int .i64 (p : Int)) := by rw [cell_of_row W c 1 _ _ _ h]; rfl
theorem Cu.c2 (h : Cu W c s p b) : W.cell? ⟨c, 2, none⟩ = some (.bool b) := by rw [cell_of_row W c 2 _ _ _ h]; rfl
theorem Cu.f1 (h : Cu W c s p b) : W.frozen? ⟨c, 1, none⟩ = false := by simp [World.frozen?, show W.heap[c]? = _ from h]
theorem Cu.f2 (h : Cu W c s p b) : W.frozen? ⟨c, 2, none⟩ = false := by simp [World.frozen?, show W.heap[c]? = _ from h]
theorem Cu.at (h : Cu W c s p b) (q : Nat) : Cu (W.setCell ⟨c, 1, none⟩ (.int .i64 (q : Int))) c s q b := heap_setCell_same W c 1 _ _ _ h
theorem Cu.bad (h : Cu W c s p b) : Cu (W.setCell ⟨c, 2, none⟩ (.bool true)) c s p true := heap_setCell_same W c 2 _ _ _ h
end

set_option maxRecDepth 100000 in
set_option maxHeartbeats 1000000 in
theorem l09Var_at (c : Nat) (s : ByteArray) (p : Nat) (w : World) (h : Cu w c s p false) (hs : s.size ≤ 1048576) (hp : p ≤ s.size) :
    Calls Tryz.prog 63 #[.pointer (some ⟨c, 0, none⟩)] w fun e w' => (match M.readVar s.data.toList p with
      | none => e = .returned (.int .i64 0) ∧ Cu w' c s p true
      | some (n, q) => e = .returned (.int .i64 (n : Int)) ∧ Cu w' c s q false) ∧ w.grownBy w' (some c) := by
  have c0 := h.c0
  have c1 := h.c1
  have H : Hid (Cu w c s p false) := h
  have hcl := h.lt
  clear h
  cases hr : M.readVar s.data.toList p with
  | none =>
    have H1 : Hid (∀ W, Calls Tryz.prog 109 #[.string s, .int .i64 (p : Int)] W fun e w' => e = .returned (.tuple #[.int .i64 0, .int .i64 0, .bool false]) ∧ Below W.heap.size W w') := fun W => sReadVar_none s (p : Int) W hs (.inr ⟨by omega, by simpa using hr⟩)
    clear hr
    go_enter Tryz.func63, Tryz.ntmps63
    go_wp2
    have kq0 := cell_regrown (w := w) c0
    have kq1 := cell_regrown (w := w) c1
    have cq0 := fun d os => Calls.regrown_of (w := w) (d := d) (os := os) (H1.out _)
    refine wp_region_quiet_below (by kernel_rfl) (by kernel_rfl) ?_
    repeat (go_big_quiet_step (first | with_reducible exact cq0 _ _))
    refine wpQuiet_nil ?_
    rintro _ ⟨⟨dq, osq⟩, rfl⟩
    have hb6 := below_regrown (w) dq osq
    generalize grow (redrawn (w) dq) osq = w6 at *
    clear kq0 kq1 cq0
    have h6 := H.out.later hb6
    have d2 := h6.c2
    have g2 := h6.f2
    have hcl6 := h6.lt
    have HF : Hid (Cu (w6.setCell ⟨c, 2, none⟩ (.bool true)) c s p true ∧ w.grownBy (w6.setCell ⟨c, 2, none⟩ (.bool true)) (some c)) := ⟨h6.bad, (grown_below hb6).trans (grown_setC w6 c 2 _)⟩
    clear h6 hb6 H H1 c0 c1
    go_wp2
    go_ret
    exact ⟨⟨rfl, HF.out.1⟩, HF.out.2⟩
  | some y =>
    obtain ⟨n, q⟩ := y
    have H1 : Hid (∀ W, Calls Tryz.prog 109 #[.string s, .int .i64 (p : Int)] W fun e w' => e = .returned (.tuple #[.int .i64 n, .int .i64 q, .bool true]) ∧ Below W.heap.size W w') := fun W => sReadVar_some s (p : Int) n q W hs (by omega) (by simpa using hr)
    clear hr
    go_enter Tryz.func63, Tryz.ntmps63
    go_wp2
    have kq0 := cell_regrown (w := w) c0
    have kq1 := cell_regrown (w := w) c1
    have cq0 := fun d os => Calls.regrown_of (w := w) (d := d) (os := os) (H1.out _)
    refine wp_region_quiet_below (by kernel_rfl) (by kernel_rfl) ?_
    repeat (go_big_quiet_step (first | with_reducible exact cq0 _ _))
    refine wpQuiet_nil ?_
    rintro _ ⟨⟨dq, osq⟩, rfl⟩
    have hb6 := below_regrown (w) dq osq
    generalize grow (redrawn (w) dq) osq = w6 at *
    clear kq0 kq1 cq0
    have h6 := H.out.later hb6
    have d2 := h6.c2
    have d1 := h6.c1
    have g1 := h6.f1
    have hcl6 := h6.lt
    have HF : Hid (Cu (w6.setCell ⟨c, 1, none⟩ (.int .i64 (q : Int))) c s q false ∧ w.grownBy (w6.setCell ⟨c, 1, none⟩ (.int .i64 (q : Int))) (some c)) := ⟨h6.at q, (grown_below hb6).trans (grown_setC w6 c 1 _)⟩
    clear h6 hb6 H H1 c0 c1
    go_wp2
    go_ret
    exact ⟨⟨rfl, HF.out.1⟩, HF.out.2⟩

/-- a short text that is read, or why not -/
theorem sReadShort_at (s : ByteArray) (p : Nat) (w : World) (hs : s.size ≤ 1048576) (hp : p ≤ s.size) :
    Calls Tryz.prog 131 #[.string s, .int .i64 (p : Int)] w fun e w' => (match LV.shortAt s p with
      | none => e = .returned (.tuple #[.string ⟨#[]⟩, .int .i64 0, .bool false])
      | some (t, q) => e = .returned (.tuple #[.string t, .int .i64 (q : Int), .bool true])) ∧ Below w.heap.size w w' := by
  cases hr : M.readVar s.data.toList p with
  | none =>
    rw [LV.shortAt_none hr]
    exact sReadShort_none s p w hs (.inr ⟨by omega, by simpa using hr⟩)
  | some y =>
    obtain ⟨n, q⟩ := y
    obtain ⟨hq, hN⟩ := read_bound s p n q hr
    by_cases hn : n ≤ 20000 ∧ q + n ≤ s.size
    · rw [LV.shortAt_yes hr hn]
      have h := sReadShort_yes s p n q w hs (show 0 ≤ (p : Int) ∧ (p : Int) ≤ (s.size : Int) from by omega) (show M.readVar s.data.toList (p : Int).toNat = some (n, q) from by simpa using hr) hn.1 hn.2
      have e : ((q + n : Nat) : Int) = (q : Int) + (n : Int) := by omega
      simp only [e]
      exact h
    · rw [LV.shortAt_no hr hn]
      exact sReadShort_no s p n q w hs (show 0 ≤ (p : Int) ∧ (p : Int) ≤ (s.size : Int) from by omega) (show M.readVar s.data.toList (p : Int).toNat = some (n, q) from by simpa using hr) hq hN hn

set_option maxRecDepth 100000 in
set_option maxHeartbeats 1000000 in
theorem l09Short_no (c : Nat) (s : ByteArray) (p : Nat) (b : Bool) (w : World) (h : Cu w c s p b) (hs : s.size ≤ 1048576) (hp : p ≤ s.size) (hq : b = true ∨ LV.shortAt s p = none) :
    Calls Tryz.prog 108 #[.pointer (some ⟨c, 0, none⟩)] w fun e w' => (e = .returned (.string ⟨#[]⟩) ∧ Cu w' c s p true) ∧ w.grownBy w' (some c) := by
  have c0 := h.c0
  have c1 := h.c1
  have H : Hid (Cu w c s p b) := h
  have hcl := h.lt
  clear h
  cases hr : LV.shortAt s p with
  | none =>
    clear hq
    cases b
    · have H1 : Hid (∀ W, Calls Tryz.prog 131 #[.string s, .int .i64 (p : Int)] W fun e w' => e = .returned (.tuple #[.string ⟨#[]⟩, .int .i64 0, .bool false]) ∧ Below W.heap.size W w') := fun W => by have h := sReadShort_at s p W hs hp; rw [hr] at h; exact h
      clear hr
      go_enter Tryz.func108, Tryz.ntmps108
      go_wp2
      have kq0 := cell_regrown (w := w) c0
      have kq1 := cell_regrown (w := w) c1
      have cq0 := fun d os => Calls.regrown_of (w := w) (d := d) (os := os) (H1.out _)
      refine wp_region_quiet_below (by kernel_rfl) (by kernel_rfl) ?_
      repeat (go_big_quiet_step (first | with_reducible exact cq0 _ _))
      refine wpQuiet_nil ?_
      rintro _ ⟨⟨dq, osq⟩, rfl⟩
      have hb6 := below_regrown (w) dq osq
      generalize grow (redrawn (w) dq) osq = w6 at *
      clear kq0 kq1 cq0
      have h6 := H.out.later hb6
      have d2 := h6.c2
      have d1 := h6.c1
      have g1 := h6.f1
      have g2 := h6.f2
      have hcl6 := h6.lt
      have HF : Hid (Cu (w6.setCell ⟨c, 2, none⟩ (.bool true)) c s p true ∧ w.grownBy (w6.setCell ⟨c, 2, none⟩ (.bool true)) (some c)) := ⟨h6.bad, (grown_below hb6).trans (grown_setC w6 c 2 _)⟩
      clear h6 hb6 H H1 c0 c1
      go_wp2
      go_ret
      exact ⟨⟨rfl, HF.out.1⟩, HF.out.2⟩
    · have H1 : Hid (∀ W, Calls Tryz.prog 131 #[.string s, .int .i64 (p : Int)] W fun e w' => e = .returned (.tuple #[.string ⟨#[]⟩, .int .i64 0, .bool false]) ∧ Below W.heap.size W w') := fun W => by have h := sReadShort_at s p W hs hp; rw [hr] at h; exact h
      clear hr
      go_enter Tryz.func108, Tryz.ntmps108
      go_wp2
      have kq0 := cell_regrown (w := w) c0
      have kq1 := cell_regrown (w := w) c1
      have cq0 := fun d os => Calls.regrown_of (w := w) (d := d) (os := os) (H1.out _)
      refine wp_region_quiet_below (by kernel_rfl) (by kernel_rfl) ?_
      repeat (go_big_quiet_step (first | with_reducible exact cq0 _ _))
      refine wpQuiet_nil ?_
      rintro _ ⟨⟨dq, osq⟩, rfl⟩
      have hb6 := below_regrown (w) dq osq
      generalize grow (redrawn (w) dq) osq = w6 at *
      clear kq0 kq1 cq0
      have h6 := H.out.later hb6
      have d2 := h6.c2
      have d1 := h6.c1
      have g1 := h6.f1
      have g2 := h6.f2
      have hcl6 := h6.lt
      have HF : Hid (Cu (w6.setCell ⟨c, 2, none⟩ (.bool true)) c s p true ∧ w.grownBy (w6.setCell ⟨c, 2, none⟩ (.bool true)) (some c)) := ⟨h6.bad, (grown_below hb6).trans (grown_setC w6 c 2 _)⟩
      clear h6 hb6 H H1 c0 c1
      go_wp2
      go_ret
      exact ⟨⟨rfl, HF.out.1⟩, HF.out.2⟩
  | some y =>
    obtain ⟨t, r⟩ := y
    obtain rfl : b = true := by
      rcases hq with hq | hq
      · exact hq
      · rw [hr] at hq
        cases hq
    clear hq
    have H1 : Hid (∀ W, Calls Tryz.prog 131 #[.string s, .int .i64 (p : Int)] W fun e w' => e = .returned (.tuple #[.string t, .int .i64 (r : Int), .bool true]) ∧ Below W.heap.size W w') := fun W => by have h := sReadShort_at s p W hs hp; rw [hr] at h; exact h
    clear hr
    go_enter Tryz.func108, Tryz.ntmps108
    go_wp2
    have kq0 := cell_regrown (w := w) c0
    have kq1 := cell_regrown (w := w) c1
    have cq0 := fun d os => Calls.regrown_of (w := w) (d := d) (os := os) (H1.out _)
    refine wp_region_quiet_below (by kernel_rfl) (by kernel_rfl) ?_
    repeat (go_big_quiet_step (first | with_reducible exact cq0 _ _))
    refine wpQuiet_nil ?_
    rintro _ ⟨⟨dq, osq⟩, rfl⟩
    have hb6 := below_regrown (w) dq osq
    generalize grow (redrawn (w) dq) osq = w6 at *
    clear kq0 kq1 cq0
    have h6 := H.out.later hb6
    have d2 := h6.c2
    have d1 := h6.c1
    have g1 := h6.f1
    have g2 := h6.f2
    have hcl6 := h6.lt
    have HF : Hid (Cu (w6.setCell ⟨c, 2, none⟩ (.bool true)) c s p true ∧ w.grownBy (w6.setCell ⟨c, 2, none⟩ (.bool true)) (some c)) := ⟨h6.bad, (grown_below hb6).trans (grown_setC w6 c 2 _)⟩
    clear h6 hb6 H H1 c0 c1
    go_wp2
    go_ret
    exact ⟨⟨rfl, HF.out.1⟩, HF.out.2⟩

set_option maxRecDepth 100000 in
set_option maxHeartbeats 1000000 in
theorem l09Short_yes (c : Nat) (s : ByteArray) (p r : Nat) (t : ByteArray) (w : World) (h : Cu w c s p false) (hs : s.size ≤ 1048576) (hp : p ≤ s.size) (hr : LV.shortAt s p = some (t, r)) :
    Calls Tryz.prog 108 #[.pointer (some ⟨c, 0, none⟩)] w fun e w' => (e = .returned (.string t) ∧ Cu w' c s r false) ∧ w.grownBy w' (some c) := by
  have c0 := h.c0
  have c1 := h.c1
  have H : Hid (Cu w c s p false) := h
  have hcl := h.lt
  clear h
  have H1 : Hid (∀ W, Calls Tryz.prog 131 #[.string s, .int .i64 (p : Int)] W fun e w' => e = .returned (.tuple #[.string t, .int .i64 (r : Int), .bool true]) ∧ Below W.heap.size W w') := fun W => by have h := sReadShort_at s p W hs hp; rw [hr] at h; exact h
  clear hr
  go_enter Tryz.func108, Tryz.ntmps108
  go_wp2
  have kq0 := cell_regrown (w := w) c0
  have kq1 := cell_regrown (w := w) c1
  have cq0 := fun d os => Calls.regrown_of (w := w) (d := d) (os := os) (H1.out _)
  refine wp_region_quiet_below (by kernel_rfl) (by kernel_rfl) ?_
  repeat (go_big_quiet_step (first | with_reducible exact cq0 _ _))
  refine wpQuiet_nil ?_
  rintro _ ⟨⟨dq, osq⟩, rfl⟩
  have hb6 := below_regrown (w) dq osq
  generalize grow (redrawn (w) dq) osq = w6 at *
  clear kq0 kq1 cq0
  have h6 := H.out.later hb6
  have d2 := h6.c2
  have d1 := h6.c1
  have g1 := h6.f1
  have g2 := h6.f2
  have hcl6 := h6.lt
  have HF : Hid (Cu (w6.setCell ⟨c, 1, none⟩ (.int .i64 (r : Int))) c s r false ∧ w.grownBy (w6.setCell ⟨c, 1, none⟩ (.int .i64 (r : Int))) (some c)) := ⟨h6.at r, (grown_below hb6).trans (grown_setC w6 c 1 _)⟩
  clear h6 hb6 H H1 c0 c1
  go_wp2
  go_ret
  exact ⟨⟨rfl, HF.out.1⟩, HF.out.2⟩

end Go.Proofs.YtojadcjoniejaaaGreatDoor
/-
  Leaves read by the specification's reader.
-/
namespace Go.Proofs.YtojadcjoniejaaaGreatDoor
open Go.RowKit Go.BigFrame Go.Sort
set_option linter.unusedVariables false
set_option linter.unusedSimpArgs false

theorem leafAt_first {s : ByteArray} {q : Nat} (h : LV.shortAt s q = none) : LV.leafAt s q = none := by unfold LV.leafAt; rw [h]
theorem leafAt_second {s a : ByteArray} {q r : Nat} (h : LV.shortAt s q = some (a, r)) (h2 : LV.shortAt s r = none) : LV.leafAt s q = none := by unfold LV.leafAt; rw [h]; simp only; rw [h2]
theorem leafAt_both {s a b : ByteArray} {q r t : Nat} (h : LV.shortAt s q = some (a, r)) (h2 : LV.shortAt s r = some (b, t)) : LV.leafAt s q = some (⟨a, b⟩, t) := by unfold LV.leafAt; rw [h]; simp only; rw [h2]

/-- what was read so far -/
def LyI (s : ByteArray) (q0 m q : Nat) (l : List Le) (b : Bool) : Prop := (∀ f ∈ l, f.n.size ≤ s.size ∧ f.v.size ≤ s.size) ∧ l.length = m ∧ q ≤ s.size ∧ (b = false → LV.leavesF s m q0 = some (l, q)) ∧ (b = true → LV.leavesF s m q0 = none)
theorem LyI.start {s : ByteArray} {q0 : Nat} (h : q0 ≤ s.size) : LyI s q0 0 q0 [] false := ⟨fun f hf => absurd hf (by simp), rfl, h, fun _ => rfl, fun h => (by cases h)⟩
theorem LyI.bad {s : ByteArray} {q0 m q r : Nat} {l : List Le} {f : Le} (h : LyI s q0 m q l false) (hf : LV.leafAt s q = none) (h1 : f.n.size ≤ s.size ∧ f.v.size ≤ s.size) (hr : r ≤ s.size) : LyI s q0 (m + 1) r (l ++ [f]) true := by
  refine ⟨fun g hg => ?_, by simp [h.2.1], hr, fun h => (by cases h), fun _ => leavesF_ends (h.2.2.2.1 rfl) hf⟩
  rcases List.mem_append.1 hg with hg | hg
  · exact h.1 g hg
  · simp at hg; subst hg; exact h1
theorem LyI.more {s : ByteArray} {q0 m q r : Nat} {l : List Le} {f : Le} (h : LyI s q0 m q l false) (hf : LV.leafAt s q = some (f, r)) : LyI s q0 (m + 1) r (l ++ [f]) false := by
  refine ⟨fun g hg => ?_, by simp [h.2.1], (LV.leafAt_some h.2.2.1 hf).2.1, fun _ => leavesF_more (h.2.2.2.1 rfl) hf, fun h => (by cases h)⟩
  rcases List.mem_append.1 hg with hg | hg
  · exact h.1 g hg
  · simp at hg; subst hg; exact LV.leafAt_size hf

theorem OL.lt {B : Nat} {w0 w : World} {u : Value} {l : List Le} (h : OL B w0 w u l) {q : Nat} (hq : u.ownBlock = some q) : q < w.heap.size := (h.1.lt q hq).2
theorem BL.grown {W W' : World} {p : Nat} {a b : ByteArray} {row : Option Nat} (h : BL W p a b) (hg : W.grownBy W' row) (hne : some p ≠ row) : BL W' p a b := (hg.block p (Array.getElem?_eq_some_iff.1 h).1 hne).trans h
/-- a leaf under way in its box, its Value written behind a call of the reader -/
theorem Ly_store {B c q q' : Nat} {s a : ByteArray} {b b' : Bool} {w0 w2 w3 : World} {u : Value} {l : List Le} (ho : OL B w0 w2 u l) (hc : Cu w2 c s q b) (hB : B ≤ c) (hg3 : (w2.alloc (.cells #[.string a, .string ⟨#[]⟩] 62)).grownBy w3 (some c)) (hc3 : Cu w3 c s q' b') (t : ByteArray) :
    BL w3 w2.heap.size a ⟨#[]⟩ ∧ BL (w3.setCell ⟨w2.heap.size, 1, none⟩ (.string t)) w2.heap.size a t ∧ OL B w0 (w3.setCell ⟨w2.heap.size, 1, none⟩ (.string t)) u l ∧ Cu (w3.setCell ⟨w2.heap.size, 1, none⟩ (.string t)) c s q' b' := by
  have hcl := hc.lt
  have h1 : BL w3 w2.heap.size a ⟨#[]⟩ := (BL.new w2 a ⟨#[]⟩).grown hg3 (by simp; omega)
  have hba : Below w2.heap.size w2 (w2.alloc (.cells #[.string a, .string ⟨#[]⟩] 62)) := (Below.refl _ _).alloc (Nat.le_refl _) _
  have ho1 := ho.later hba
  have ho3 : OL B w0 w3 u l := ho1.grown hg3 (fun k hk => by cases hk; exact ⟨hB, ho1.ne (hc.later hba) (by decide)⟩)
  have hg4 := grown_setC w3 w2.heap.size 1 (.string t)
  refine ⟨h1, h1.set1 t, ho3.grown hg4 (fun k hk => ?_), hc3.grown hg4 (by simp; omega)⟩
  cases hk
  exact ⟨ho.2.2, fun e => by have := ho.lt e; omega⟩

/-- what the reader answers -/
def LyP (s : ByteArray) (c B : Nat) (w0 : World) (e : Ending) (w' : World) : Prop := ∃ (u : Value) (l : List Le) (q : Nat) (b : Bool), e = .returned u ∧ OL B w0 w' u l ∧ Cu w' c s q b ∧ (l.length ≤ 30 ∧ q ≤ s.size) ∧ (∀ f ∈ l, f.n.size ≤ s.size ∧ f.v.size ≤ s.size) ∧
  (b = true → LV.rawL s 0 = none) ∧ (b = false → (LV.rawL s 0 = none ∧ 24 < l.length) ∨ LV.rawL s 0 = some (l, q))
def LyR (s : ByteArray) (c n q0 B : Nat) (w0 : World) (u i : Value) (wr : World) : Prop := ∃ (m q : Nat) (l : List Le) (b : Bool), m ≤ n ∧ m ≤ 30 ∧ i = .int .i64 m ∧ Hid (LyI s q0 m q l b ∧ OL B w0 wr u l ∧ Cu wr c s q b)

set_option maxRecDepth 100000 in
set_option maxHeartbeats 1000000 in
theorem l09Leaves_at (c : Nat) (s : ByteArray) (B : Nat) (w0 w : World) (h : Cu w c s 0 false) (hB : B ≤ c) (hb : Below B w0 w) (hs : s.size ≤ 1048576) :
    Calls Tryz.prog 62 #[.pointer (some ⟨c, 0, none⟩)] w (LyP s c B w0) := by
  have hcl := h.lt
  have HO : Hid (OL B w0 (w.alloc (.cells #[] 62)) (.slice (some ⟨w.heap.size, 0, none⟩) 0 0) []) := OL.made B w0 w hb (by omega)
  have HC : Hid (Cu (w.alloc (.cells #[] 62)) c s 0 false) := h.later ((Below.refl _ _).alloc (Nat.le_refl _) _)
  have h1 := l09Var_at c s 0 _ HC.out hs (by omega)
  clear h hb
  cases hr : M.readVar s.data.toList 0 with
  | none =>
    have hraw := LV.rawL_none hr
    simp only [hr] at h1
    go_enter Tryz.func62, Tryz.ntmps62
    go_wp2_with fail
    refine h1.mono ?_
    rintro e w1 ⟨⟨rfl, hc1⟩, hg1⟩
    have HF : Hid (OL B w0 w1 (.slice (some ⟨w.heap.size, 0, none⟩) 0 0) [] ∧ Cu w1 c s 0 true) := ⟨HO.out.grown hg1 (fun q hq => by cases hq; exact ⟨hB, HO.out.ne HC.out (by decide)⟩), hc1⟩
    have d2 := hc1.c2
    have hcl1 := hc1.lt
    clear h1 hc1 hg1 HO HC
    go_wp2
    go_loopw [3, 5] (fun u i wr => u = .slice (some ⟨w.heap.size, 0, none⟩) 0 0 ∧ i = .int .i64 0 ∧ wr = w1) (fun _ _ _ => 0)
    case atStart => exact ⟨rfl, rfl, rfl⟩
    case round =>
      obtain ⟨rfl, rfl, rfl⟩ := hrel
      go_wp2
      go_ret
      exact ⟨_, [], 0, true, rfl, HF.out.1, HF.out.2, ⟨by simp, Nat.zero_le _⟩, fun f hf => absurd hf (by simp), fun _ => hraw, fun h => by cases h⟩
  | some y =>
    obtain ⟨n, q0⟩ := y
    obtain ⟨hq0, hN⟩ := read_bound s 0 n q0 hr
    have HRG : Hid (24 < n → LV.rawL s 0 = none) := fun h => LV.rawL_great hr h
    have HRA : Hid (¬ 24 < n → LV.rawL s 0 = LV.leavesF s n q0) := fun h => LV.rawL_at hr h
    simp only [hr] at h1
    clear hr
    go_enter Tryz.func62, Tryz.ntmps62
    go_wp2_with fail
    refine h1.mono ?_
    rintro e w1 ⟨⟨rfl, hc1⟩, hg1⟩
    have HST : Hid (LyR s c n q0 B w0 (.slice (some ⟨w.heap.size, 0, none⟩) 0 0) (.int .i64 0) w1) := ⟨0, q0, [], false, by omega, by omega, rfl, LyI.start hq0, HO.out.grown hg1 (fun q hq => by cases hq; exact ⟨hB, HO.out.ne HC.out (by decide)⟩), hc1⟩
    clear h1 hc1 hg1 HO HC hcl
    go_wp2
    go_loopw [3, 5] (fun u i wr => LyR s c n q0 B w0 u i wr) (fun _ i _ => 31 - (intOf i).toNat)
    case atStart => exact HST.out
    case round =>
      obtain ⟨m, q, l, b, hm, hm30, rfl, HI⟩ := hrel
      clear HST
      have d2 := HI.out.2.2.c2
      have hcl := HI.out.2.2.lt
      obtain ⟨au, cu, rfl⟩ := HI.out.2.1.shape
      have hlm : l.length = m := HI.out.1.2.1
      rw [hlm]
      have HLM : Hid (l.length = m) := hlm
      rw [hlm] at HI
      clear hlm
      by_cases hstop : m < n ∧ m < 30 ∧ b = false
      · obtain ⟨hmn, hm3, rfl⟩ := hstop
        have i1 : (m : Int) < (n : Int) := by omega
        have i3 : (m : Int) < 30 := by omega
        have hq := HI.out.1.2.2.1
        have hown : OL B w0 wr (.slice au m cu) l := HI.out.2.1
        cases hf1 : LV.shortAt s q with
        | none =>
          have h2 := l09Short_no c s q false wr HI.out.2.2 hs hq (.inr hf1)
          have HN : Hid (LyI s q0 (m + 1) q (l ++ [⟨⟨#[]⟩, ⟨#[]⟩⟩]) true) := LyI.bad HI.out.1 (leafAt_first hf1) ⟨Nat.zero_le _, Nat.zero_le _⟩ hq
          clear HRG HRA hf1
          go_wp2_with fail
          refine h2.mono ?_
          rintro e w2 ⟨⟨rfl, hc2⟩, hg2⟩
          have ho2 := hown.grown hg2 (fun q hq => by cases hq; exact ⟨hB, hown.ne HI.out.2.2 (by decide)⟩)
          have h3 := l09Short_no c s q true _ (hc2.later ((Below.refl _ _).alloc (Nat.le_refl _) (.cells #[.string ⟨#[]⟩, .string ⟨#[]⟩] 62))) hs hq (.inl rfl)
          clear h2 hg2
          go_wp2_with fail
          refine h3.mono ?_
          rintro e w3 ⟨⟨rfl, hc3⟩, hg3⟩
          have hst := Ly_store (a := ⟨#[]⟩) ho2 hc2 hB hg3 hc3 ⟨#[]⟩
          have HS : Hid (BL (w3.setCell ⟨w2.heap.size, 1, none⟩ (.string ⟨#[]⟩)) w2.heap.size ⟨#[]⟩ ⟨#[]⟩ ∧ OL B w0 (w3.setCell ⟨w2.heap.size, 1, none⟩ (.string ⟨#[]⟩)) (.slice au m cu) l ∧ Cu (w3.setCell ⟨w2.heap.size, 1, none⟩ (.string ⟨#[]⟩)) c s q true) := hst.2
          have x1 := hst.1.c1
          have y1 := hst.1.f1
          have z0 := hst.2.1.c0
          have z1 := hst.2.1.c1
          have hba : Below (w3.setCell ⟨w2.heap.size, 1, none⟩ (.string ⟨#[]⟩)).heap.size (w3.setCell ⟨w2.heap.size, 1, none⟩ (.string ⟨#[]⟩)) ((w3.setCell ⟨w2.heap.size, 1, none⟩ (.string ⟨#[]⟩)).alloc (.cells #[.string ⟨#[]⟩, .string ⟨#[]⟩] 62)) := (Below.refl _ _).alloc (Nat.le_refl _) _
          have hoa := HS.out.2.1.later hba
          have HRN : Hid (((w3.setCell ⟨w2.heap.size, 1, none⟩ (.string ⟨#[]⟩)).alloc (.cells #[.string ⟨#[]⟩, .string ⟨#[]⟩] 62)).rangeAt w3.heap.size 0 (lcs ⟨⟨#[]⟩, ⟨#[]⟩⟩)) := range_at (by simp) (range_new _ [.string ⟨#[]⟩, .string ⟨#[]⟩] 62)
          have HCA : Hid (Cu ((w3.setCell ⟨w2.heap.size, 1, none⟩ (.string ⟨#[]⟩)).alloc (.cells #[.string ⟨#[]⟩, .string ⟨#[]⟩] 62)) c s q true) := HS.out.2.2.later hba
          clear hst hg3 hc3 HS hba h3
          go_wp2_with (at_builtin; refine wp_leaf rfl _ _ rfl B w0 (.slice au m cu) l ⟨⟨#[]⟩, ⟨#[]⟩⟩ rfl hoa _ rfl HRN.out (by have := HLM.out; omega) ?_)
          intro g5 cap5 w5 ho5 hg5
          have HJ : Hid (LyI s q0 (m + 1) q (l ++ [⟨⟨#[]⟩, ⟨#[]⟩⟩]) true ∧ OL B w0 w5 (.slice (some ⟨g5, 0, none⟩) (l.length + 1) cap5) (l ++ [⟨⟨#[]⟩, ⟨#[]⟩⟩]) ∧ Cu w5 c s q true) := ⟨HN.out, ho5, HCA.out.grown hg5 (Ne.symm (hoa.ne HCA.out (by decide)))⟩
          clear ho5 hg5 hoa HCA HRN HI hown ho2 hc2
          go_wp2
          go_roundw
          case rel => exact ⟨m + 1, q, _, true, by omega, by omega, by go_num, HJ⟩
          case measure => simp [intOf]; omega
        | some z =>
          obtain ⟨a, r⟩ := z
          have hr := (LV.shortAt_some hq hf1).2.1
          have hsa := LV.shortAt_size hf1
          have h2 := l09Short_yes c s q r a wr HI.out.2.2 hs hq hf1
          cases hf2 : LV.shortAt s r with
          | none =>
            have HN : Hid (LyI s q0 (m + 1) r (l ++ [⟨a, ⟨#[]⟩⟩]) true) := LyI.bad HI.out.1 (leafAt_second hf1 hf2) ⟨hsa, Nat.zero_le _⟩ hr
            clear HRG HRA hf1
            go_wp2_with fail
            refine h2.mono ?_
            rintro e w2 ⟨⟨rfl, hc2⟩, hg2⟩
            have ho2 := hown.grown hg2 (fun q hq => by cases hq; exact ⟨hB, hown.ne HI.out.2.2 (by decide)⟩)
            have h3 := l09Short_no c s r false _ (hc2.later ((Below.refl _ _).alloc (Nat.le_refl _) (.cells #[.string a, .string ⟨#[]⟩] 62))) hs hr (.inr hf2)
            clear h2 hg2
            go_wp2_with fail
            refine h3.mono ?_
            rintro e w3 ⟨⟨rfl, hc3⟩, hg3⟩
            have hst := Ly_store (a := a) ho2 hc2 hB hg3 hc3 ⟨#[]⟩
            have HS : Hid (BL (w3.setCell ⟨w2.heap.size, 1, none⟩ (.string ⟨#[]⟩)) w2.heap.size a ⟨#[]⟩ ∧ OL B w0 (w3.setCell ⟨w2.heap.size, 1, none⟩ (.string ⟨#[]⟩)) (.slice au m cu) l ∧ Cu (w3.setCell ⟨w2.heap.size, 1, none⟩ (.string ⟨#[]⟩)) c s r true) := hst.2
            have x1 := hst.1.c1
            have y1 := hst.1.f1
            have z0 := hst.2.1.c0
            have z1 := hst.2.1.c1
            have hba : Below (w3.setCell ⟨w2.heap.size, 1, none⟩ (.string ⟨#[]⟩)).heap.size (w3.setCell ⟨w2.heap.size, 1, none⟩ (.string ⟨#[]⟩)) ((w3.setCell ⟨w2.heap.size, 1, none⟩ (.string ⟨#[]⟩)).alloc (.cells #[.string a, .string ⟨#[]⟩] 62)) := (Below.refl _ _).alloc (Nat.le_refl _) _
            have hoa := HS.out.2.1.later hba
            have HRN : Hid (((w3.setCell ⟨w2.heap.size, 1, none⟩ (.string ⟨#[]⟩)).alloc (.cells #[.string a, .string ⟨#[]⟩] 62)).rangeAt w3.heap.size 0 (lcs ⟨a, ⟨#[]⟩⟩)) := range_at (by simp) (range_new _ [.string a, .string ⟨#[]⟩] 62)
            have HCA : Hid (Cu ((w3.setCell ⟨w2.heap.size, 1, none⟩ (.string ⟨#[]⟩)).alloc (.cells #[.string a, .string ⟨#[]⟩] 62)) c s r true) := HS.out.2.2.later hba
            clear hst hg3 hc3 HS hba h3
            go_wp2_with (at_builtin; refine wp_leaf rfl _ _ rfl B w0 (.slice au m cu) l ⟨a, ⟨#[]⟩⟩ rfl hoa _ rfl HRN.out (by have := HLM.out; omega) ?_)
            intro g5 cap5 w5 ho5 hg5
            have HJ : Hid (LyI s q0 (m + 1) r (l ++ [⟨a, ⟨#[]⟩⟩]) true ∧ OL B w0 w5 (.slice (some ⟨g5, 0, none⟩) (l.length + 1) cap5) (l ++ [⟨a, ⟨#[]⟩⟩]) ∧ Cu w5 c s r true) := ⟨HN.out, ho5, HCA.out.grown hg5 (Ne.symm (hoa.ne HCA.out (by decide)))⟩
            clear ho5 hg5 hoa HCA HRN HI hown ho2 hc2
            go_wp2
            go_roundw
            case rel => exact ⟨m + 1, r, _, true, by omega, by omega, by go_num, HJ⟩
            case measure => simp [intOf]; omega
          | some z =>
            obtain ⟨t, v⟩ := z
            have HN : Hid (LyI s q0 (m + 1) v (l ++ [⟨a, t⟩]) false) := LyI.more HI.out.1 (leafAt_both hf1 hf2)
            clear HRG HRA hf1
            go_wp2_with fail
            refine h2.mono ?_
            rintro e w2 ⟨⟨rfl, hc2⟩, hg2⟩
            have ho2 := hown.grown hg2 (fun q hq => by cases hq; exact ⟨hB, hown.ne HI.out.2.2 (by decide)⟩)
            have h3 := l09Short_yes c s r v t _ (hc2.later ((Below.refl _ _).alloc (Nat.le_refl _) (.cells #[.string a, .string ⟨#[]⟩] 62))) hs hr hf2
            clear h2 hg2
            go_wp2_with fail
            refine h3.mono ?_
            rintro e w3 ⟨⟨rfl, hc3⟩, hg3⟩
            have hst := Ly_store (a := a) ho2 hc2 hB hg3 hc3 t
            have HS : Hid (BL (w3.setCell ⟨w2.heap.size, 1, none⟩ (.string t)) w2.heap.size a t ∧ OL B w0 (w3.setCell ⟨w2.heap.size, 1, none⟩ (.string t)) (.slice au m cu) l ∧ Cu (w3.setCell ⟨w2.heap.size, 1, none⟩ (.string t)) c s v false) := hst.2
            have x1 := hst.1.c1
            have y1 := hst.1.f1
            have z0 := hst.2.1.c0
            have z1 := hst.2.1.c1
            have hba : Below (w3.setCell ⟨w2.heap.size, 1, none⟩ (.string t)).heap.size (w3.setCell ⟨w2.heap.size, 1, none⟩ (.string t)) ((w3.setCell ⟨w2.heap.size, 1, none⟩ (.string t)).alloc (.cells #[.string a, .string t] 62)) := (Below.refl _ _).alloc (Nat.le_refl _) _
            have hoa := HS.out.2.1.later hba
            have HRN : Hid (((w3.setCell ⟨w2.heap.size, 1, none⟩ (.string t)).alloc (.cells #[.string a, .string t] 62)).rangeAt w3.heap.size 0 (lcs ⟨a, t⟩)) := range_at (by simp) (range_new _ [.string a, .string t] 62)
            have HCA : Hid (Cu ((w3.setCell ⟨w2.heap.size, 1, none⟩ (.string t)).alloc (.cells #[.string a, .string t] 62)) c s v false) := HS.out.2.2.later hba
            clear hst hg3 hc3 HS hba h3
            go_wp2_with (at_builtin; refine wp_leaf rfl _ _ rfl B w0 (.slice au m cu) l ⟨a, t⟩ rfl hoa _ rfl HRN.out (by have := HLM.out; omega) ?_)
            intro g5 cap5 w5 ho5 hg5
            have HJ : Hid (LyI s q0 (m + 1) v (l ++ [⟨a, t⟩]) false ∧ OL B w0 w5 (.slice (some ⟨g5, 0, none⟩) (l.length + 1) cap5) (l ++ [⟨a, t⟩]) ∧ Cu w5 c s v false) := ⟨HN.out, ho5, HCA.out.grown hg5 (Ne.symm (hoa.ne HCA.out (by decide)))⟩
            clear ho5 hg5 hoa HCA HRN HI hown ho2 hc2
            go_wp2
            go_roundw
            case rel => exact ⟨m + 1, v, _, false, by omega, by omega, by go_num, HJ⟩
            case measure => simp [intOf]; omega
      · have HF : Hid (∃ (l : List Le) (q : Nat) (b : Bool), OL B w0 wr (.slice au m cu) l ∧ Cu wr c s q b ∧ (l.length ≤ 30 ∧ q ≤ s.size) ∧ (∀ f ∈ l, f.n.size ≤ s.size ∧ f.v.size ≤ s.size) ∧ (b = true → LV.rawL s 0 = none) ∧ (b = false → (LV.rawL s 0 = none ∧ 24 < l.length) ∨ LV.rawL s 0 = some (l, q))) := by
          obtain ⟨⟨j1, j2, j3, j4, j5⟩, ho, hc⟩ := HI.out
          refine ⟨l, q, b, ho, hc, ⟨by omega, j3⟩, j1, fun hb => ?_, fun hb => ?_⟩
          · by_cases h24 : 24 < n
            · exact HRG.out h24
            · rw [HRA.out h24]
              exact LV.leavesF_none (j5 hb) n hm
          · by_cases h24 : 24 < n
            · refine .inl ⟨HRG.out h24, ?_⟩
              have : ¬ (m < n ∧ m < 30) := fun h => hstop ⟨h.1, h.2, hb⟩
              omega
            · have hmn : m = n := by
                have : ¬ (m < n ∧ m < 30) := fun h => hstop ⟨h.1, h.2, hb⟩
                omega
              rw [HRA.out h24, ← hmn]
              exact .inr (j4 hb)
        clear HI HRG HRA
        by_cases hmn : m < n
        · have i1 : (m : Int) < (n : Int) := by omega
          by_cases hm3 : m < 30
          · have i3 : (m : Int) < 30 := by omega
            obtain rfl : b = true := by
              cases b
              · exact absurd ⟨hmn, hm3, rfl⟩ hstop
              · rfl
            go_wp2
            go_ret
            obtain ⟨l2, q2, b2, h2⟩ := HF.out
            exact ⟨_, l2, q2, b2, rfl, h2⟩
          · have i3 : ¬ (m : Int) < 30 := by omega
            go_wp2
            go_ret
            obtain ⟨l2, q2, b2, h2⟩ := HF.out
            exact ⟨_, l2, q2, b2, rfl, h2⟩
        · have i1 : ¬ (m : Int) < (n : Int) := by omega
          go_wp2
          go_ret
          obtain ⟨l2, q2, b2, h2⟩ := HF.out
          exact ⟨_, l2, q2, b2, rfl, h2⟩

end Go.Proofs.YtojadcjoniejaaaGreatDoor
/-
  Leaves read of a whole text by the specification, and the walk of the law FnExactReadLeaves: it answers true of every text.
-/
namespace Go.Proofs.YtojadcjoniejaaaGreatDoor
open Go.RowKit Go.BigFrame Go.Sort
set_option linter.unusedVariables false
set_option linter.unusedSimpArgs false

theorem raw_text {s : ByteArray} {l : List Le} {q : Nat} (h : LV.rawL s 0 = some (l, q)) : q ≤ s.size ∧ (LV.lvL l = s.data.toList ↔ q = s.size) := by
  cases hr : M.readVar s.data.toList 0 with
  | none => rw [LV.rawL_none hr] at h; cases h
  | some y =>
    obtain ⟨n, q0⟩ := y
    obtain ⟨hq0, hN⟩ := read_bound s 0 n q0 hr
    by_cases hn : 24 < n
    · rw [LV.rawL_great hr hn] at h; cases h
    · rw [LV.rawL_at hr hn] at h
      obtain ⟨h1, h2, h3, h4⟩ := LV.leavesF_some hq0 h
      have hc := LV.read_canon (Nat.zero_le _) hr
      have hp := LV.read_past _ _ _ _ hr
      have hL : s.data.toList.length = s.size := Array.length_toList
      have e : LV.lvL l = LV.cutL s.data.toList 0 q := by
        unfold LV.lvL
        rw [h3, ← hc, ← h4, LV.cutL_join _ 0 q0 q (by omega) h1]
      refine ⟨h2, ?_⟩
      rw [e]
      constructor
      · intro he
        have h5 := LV.cutL_len s.data.toList 0 q (by omega) (by omega)
        rw [he] at h5
        omega
      · intro he
        rw [he]
        unfold LV.cutL
        simp only [List.drop_zero, Nat.sub_zero]
        exact List.take_of_length_le (by omega)
theorem text_is {s : ByteArray} {l : List Le} (h : LV.leavesB l = true) : lvT l = s ↔ LV.lvL l = s.data.toList := by
  rw [lvT_yes h]
  constructor
  · intro e; rw [← e]
  · intro e
    exact ByteArray.ext (by rw [e])

end Go.Proofs.YtojadcjoniejaaaGreatDoor
/-
  The library's own contract on strings.Join, laid at this program: a table of numbers and two theorems.
-/
namespace Go.Proofs
open Go.Shelf
def Tryz.lays156_ren : Go.Shelf.Ren := ⟨fun | 156 => 42 | 165 => 90 | 166 => 91 | 169 => 92 | 240 => 125 | 241 => 126 | 276 => 146 | 277 => 147 | n => n, fun | 31 => 27 | 9 => 9 | 3 => 3 | 4 => 4 | 0 => 0 | 20 => 20 | 72 => 115 | 76 => 119 | 70 => 113 | 37 => 22 | 75 => 118 | 127 => 157 | 164 => 181 | 5 => 5 | 80 => 121 | n => n, fun | n => n⟩
theorem Tryz.lays156 : Go.Proofs.Lays.n156 Tryz.prog Tryz.lays156_ren := {
  mixed := by kernel_rfl
  f156 := Tryz.func42.trans (congrArg some (by kernel_rfl))
  f165 := Tryz.func90.trans (congrArg some (by kernel_rfl))
  f166 := Tryz.func91.trans (congrArg some (by kernel_rfl))
  f169 := Tryz.func92.trans (congrArg some (by kernel_rfl))
  f240 := Tryz.func125.trans (congrArg some (by kernel_rfl))
  f241 := Tryz.func126.trans (congrArg some (by kernel_rfl))
  f276 := Tryz.func146.trans (congrArg some (by kernel_rfl))
  f277 := Tryz.func147.trans (congrArg some (by kernel_rfl))
  t0 := Tryz.underlying0
  a0 := Tryz.isAgg0
  z0 := Tryz.sizeOf0
  v0 := Tryz.zeroValue0
  t3 := Tryz.underlying3
  a3 := Tryz.isAgg3
  z3 := Tryz.sizeOf3
  v3 := Tryz.zeroValue3
  t4 := Tryz.underlying4
  a4 := Tryz.isAgg4
  z4 := Tryz.sizeOf4
  v4 := Tryz.zeroValue4
  t9 := Tryz.underlying9
  a9 := Tryz.isAgg9
  z9 := Tryz.sizeOf9
  v9 := Tryz.zeroValue9
  t20 := Tryz.underlying20
  a20 := Tryz.isAgg20
  z20 := Tryz.sizeOf20
  v20 := Tryz.zeroValue20
  t31 := Tryz.underlying27
  a31 := Tryz.isAgg27
  z31 := Tryz.sizeOf27
  v31 := Tryz.zeroValue27
  t37 := Tryz.underlying22
  a37 := Tryz.isAgg22
  z37 := Tryz.sizeOf22
  v37 := Tryz.zeroValue22
  t70 := Tryz.underlying113
  a70 := Tryz.isAgg113
  z70 := Tryz.sizeOf113
  v70 := Tryz.zeroValue113
  t72 := Tryz.underlying115
  a72 := Tryz.isAgg115
  z72 := Tryz.sizeOf115
  v72 := Tryz.zeroValue115
  t75 := Tryz.underlying118
  a75 := Tryz.isAgg118
  z75 := Tryz.sizeOf118
  v75 := Tryz.zeroValue118
  t76 := Tryz.underlying119
  a76 := Tryz.isAgg119
  z76 := Tryz.sizeOf119
  v76 := Tryz.zeroValue119
  t127 := Tryz.underlying157
  a127 := Tryz.isAgg157
  z127 := Tryz.sizeOf157
  v127 := Tryz.zeroValue157
  t164 := Tryz.underlying181
  a164 := Tryz.isAgg181
  z164 := Tryz.sizeOf181
  v164 := Tryz.zeroValue181 }
theorem Tryz.Builder_Extra_156 : Builder.Extra Tryz.prog Tryz.lays156_ren := {
  sizeBuilder := by kernel_rfl
  liesBuilder := by kernel_rfl
  t5 := Tryz.underlying5
  a5 := Tryz.isAgg5
  z5 := Tryz.sizeOf5
  v5 := Tryz.zeroValue5
  infoByte := by kernel_rfl
  cellsByte := by kernel_rfl
  sizeByte := by kernel_rfl
  neB5 := by decide }
open Go.RowKit in
theorem Tryz.strings_Join_none (a : Option Addr) (c : Nat) (sep : ByteArray) (w : World) :
    Calls Tryz.prog 42 #[.slice a 0 c, .string sep] w fun e w' => e = .returned (.string ⟨#[]⟩) ∧ w' = w := Any.strings_Join_none Tryz.lays156 Tryz.Builder_Extra_156 a c sep w
open Go.RowKit in
theorem Tryz.strings_Join (bk o c : Nat) (xs : List ByteArray) (sep : ByteArray) (w : World) (hcells : ∀ (j : Nat) x, xs[j]? = some x → w.cell? ⟨bk, o + j, none⟩ = some (.string x)) (hbk : bk < w.heap.size) (hN : xs.length ≤ 140737488355328) (hcap : xs.length ≤ c) (hlen : (Lib.join (xs.map (·.data.toList)) sep.data.toList).length ≤ 140737488355328) :
    Calls Tryz.prog 42 #[.slice (some ⟨bk, o, none⟩) xs.length c, .string sep] w fun e w' => e = .returned (.string ⟨(Lib.join (xs.map (·.data.toList)) sep.data.toList).toArray⟩) ∧ Below w.heap.size w w' := Any.strings_Join Tryz.lays156 Tryz.Builder_Extra_156 bk o c xs sep w hcells hbk hN hcap hlen
end Go.Proofs
/-
  A proof as a text: the program's and the specification's answers.
-/
namespace Go.Proofs.YtojadcjoniejaaaGreatDoor
open Go.RowKit Go.BigFrame Go.Sort
set_option linter.unusedVariables false
set_option linter.unusedSimpArgs false

/-- texts behind one another -/
def joinT (S : List ByteArray) : ByteArray := ⟨(S.map (·.data.toList)).flatten.toArray⟩
theorem joinT_none : joinT [] = ⟨#[]⟩ := rfl
theorem joinT_snoc (S : List ByteArray) (t : ByteArray) : joinT (S ++ [t]) = joinT S ++ t := by
  apply ByteArray.ext
  apply Array.toList_inj.1
  simp [joinT, ByteArray.data_append]
theorem joinT_take {S : List ByteArray} {m : Nat} (h : m < S.length) : joinT (S.take (m + 1)) = joinT (S.take m) ++ S[m] := by
  rw [← List.take_append_getElem h, joinT_snoc]
theorem join_flat (X : List (List UInt8)) : Lib.join X [] = X.flatten := by
  cases X with
  | nil => rfl
  | cons x r =>
    rw [Lib.join_cons]
    unfold Lib.joinTail
    simp
theorem join_is (S : List ByteArray) : (⟨(Lib.join (S.map (·.data.toList)) []).toArray⟩ : ByteArray) = joinT S := by
  rw [join_flat]
  rfl
theorem joinT_cons (t : ByteArray) (S : List ByteArray) : joinT (t :: S) = t ++ joinT S := by
  apply ByteArray.ext
  apply Array.toList_inj.1
  simp [joinT, ByteArray.data_append]
theorem joinT_size {x : Int} {S : List ByteArray} (h : ∀ s ∈ S, s.size ≤ 1048576) : (joinT S).size ≤ S.length * 1048576 := by
  induction S with
  | nil => exact Nat.zero_le _
  | cons s S ih =>
    have h1 := ih (fun t ht => h t (List.mem_cons_of_mem _ ht))
    have h2 := h s (List.mem_cons_self ..)
    rw [joinT_cons, ByteArray.size_append]
    simp only [List.length_cons]
    omega
noncomputable def pxB (L : List Le) (S : List ByteArray) (x : Int) : Bool := LV.leavesB L && sidB S x
noncomputable def pxT (L : List Le) (S : List ByteArray) (x : Int) : ByteArray := if pxB L S x then lvT L ++ ⟨(M.varL S.length).toArray⟩ ++ joinT S else ⟨#[]⟩
theorem lvT_le (L : List Le) : (lvT L).size ≤ 1100 := by
  cases h : LV.leavesB L with
  | false => rw [lvT_no h]; exact Nat.zero_le _
  | true =>
    rw [lvT_yes h]
    have h2 := LV.leavesB_iff.1 h
    have h3 := LV.ltL_len h2.2.1
    have h4 := M.varL_len L.length
    have h5 := h2.1
    show (LV.lvL L).toArray.size ≤ 1100
    unfold LV.lvL
    simp only [List.size_toArray, List.length_append]
    omega
theorem varT_le (n : Nat) : (⟨(M.varL n).toArray⟩ : ByteArray).size ≤ 10 := by
  show (M.varL n).toArray.size ≤ 10
  have := M.varL_len n
  simpa using this
theorem sid_sizes {S : List ByteArray} {x : Int} (h : sidB S x = true) : S.length ≤ 8 ∧ ∀ s ∈ S, s.size ≤ 32 := by
  unfold sidB wideB at h
  simp only [Bool.and_eq_true, decide_eq_true_eq, List.all_eq_true] at h
  refine ⟨h.1, fun s hs => ?_⟩
  have := h.2.1 s hs
  omega
theorem sid_join {S : List ByteArray} {x : Int} (h : sidB S x = true) (m : Nat) : (joinT (S.take m)).size ≤ 8 * 1048576 := by
  obtain ⟨h1, h2⟩ := sid_sizes h
  have h3 := joinT_size (x := 0) (S := S.take m) (fun s hs => by have := h2 s (List.mem_of_mem_take hs); omega)
  have h4 : (S.take m).length ≤ 8 := by simp; omega
  exact Nat.le_trans h3 (Nat.mul_le_mul_right _ h4)

set_option maxRecDepth 100000 in
set_option maxHeartbeats 1000000 in
theorem ProofText_any (vb vs : Value) (gb ob gs os : Nat) (L : List Le) (S : List ByteArray) (x : Int) (w : World) (hb : RS 2 lcs w vb gb ob L) (hsm : SmallL L) (hs : SS w vs gs os S) (hcap : ∀ a n c, vs = .slice a n c → n ≤ c) :
    Calls Tryz.prog 11 #[.agg #[vb, vs], .int .i64 x] w fun e w' => e = .returned (.tuple #[.string (pxT L S x), .bool (pxB L S x)]) ∧ Below w.heap.size w w' := by
  obtain ⟨p0, p1⟩ := run_rangeP (w := w) (p := 0) (v1 := vb) (v2 := vs) 29
  have hba : Below w.heap.size w (w.alloc (.cells #[vb, vs] 29)) := (Below.refl _ _).alloc (Nat.le_refl _) _
  have HBS : Hid (∀ W, Below w.heap.size w W → RS 2 lcs W vb gb ob L ∧ SS W vs gs os S) := fun W hW => ⟨hb.later hW, hs.below hW hs.lt⟩
  have HPP : Hid (∀ W, Below (w.alloc (.cells #[vb, vs] 29)).heap.size (w.alloc (.cells #[vb, vs] 29)) W → W.cell? ⟨w.heap.size, 0, none⟩ = some vb ∧ W.cell? ⟨w.heap.size, 1, none⟩ = some vs ∧ Below w.heap.size w W) := fun W hW => ⟨cell_up p0 hW, cell_up p1 hW, hba.trans (hW.mono hba.size)⟩
  have hlt := LeavesText_any vb gb ob L _ (HBS.out _ hba).1 hsm
  have HSD : Hid (∀ W, Below w.heap.size w W → Calls Tryz.prog 40 #[vs, .int .i64 x] W fun e w' => e = .returned (.bool (sidB S x)) ∧ w' = W) := fun W hW => sidesOk_any vs gs os S x W (HBS.out W hW).2
  have HJN : Hid (∀ W, sidB S x = true → Below w.heap.size w W → Calls Tryz.prog 42 #[vs, .string ⟨#[]⟩] W fun e w' => e = .returned (.string (joinT S)) ∧ Below W.heap.size W w') := fun W hsd hW => by
    have hss := (HBS.out W hW).2
    have hglt := hss.lt
    obtain ⟨a, cap, rfl, hl, hA, hc⟩ := hss
    have hcc := hcap _ _ _ rfl
    have h8 := sid_join hsd S.length
    rw [List.take_length] at h8
    have hsz : (Lib.join (S.map (·.data.toList)) (⟨#[]⟩ : ByteArray).data.toList).length ≤ 140737488355328 := by
      have e := join_is S
      have e2 : (joinT S).size = (Lib.join (S.map (·.data.toList)) []).length := by rw [← e]; simp [ByteArray.size]
      show (Lib.join (S.map (·.data.toList)) []).length ≤ _
      omega
    rcases Nat.eq_zero_or_pos S.length with h0 | h0
    · have e0 : S = [] := List.length_eq_zero_iff.1 h0
      subst e0
      exact (Tryz.strings_Join_none a cap ⟨#[]⟩ W).mono fun e w' ⟨he, hw⟩ => ⟨by rw [he, joinT_none], by rw [hw]; exact Below.refl _ _⟩
    · rw [hA h0]
      refine (Tryz.strings_Join gs os cap S ⟨#[]⟩ W (fun j t hj => ?_) (hglt h0) (by omega) hcc hsz).mono fun e w' ⟨he, hw⟩ => ⟨?_, hw⟩
      · obtain ⟨hj', rfl⟩ := List.getElem?_eq_some_iff.1 hj
        exact hc j hj'
      · rw [he]
        congr 2
        exact join_is S
  have hT1 := lvT_le L
  have HR : Hid (pxB L S x = (LV.leavesB L && sidB S x) ∧ pxT L S x = if pxB L S x then lvT L ++ ⟨(M.varL S.length).toArray⟩ ++ joinT S else ⟨#[]⟩) := ⟨rfl, rfl⟩
  have HVT : Hid (∀ W, S.length ≤ 8 → Calls Tryz.prog 41 #[.int .i64 (S.length : Int)] W fun e w' => e = .returned (.tuple #[.string ⟨(M.varL S.length).toArray⟩, .bool true]) ∧ Below W.heap.size W w') := fun W h => VarText_yes S.length W (by omega)
  have HS8 : Hid (sidB S x = true → S.length ≤ 8 ∧ (joinT S).size ≤ 8 * 1048576) := fun h => ⟨(sid_sizes h).1, by have := sid_join h S.length; rw [List.take_length] at this; exact this⟩
  have hT2 := varT_le S.length
  obtain ⟨aS, cS, rfl, hy1, hy2, hy3⟩ := hs
  generalize pxB L S x = B at *
  generalize pxT L S x = T at *
  generalize (⟨(M.varL S.length).toArray⟩ : ByteArray) = V at *
  generalize joinT S = J at *
  generalize sidB S x = A3 at *
  generalize LV.leavesB L = A1 at *
  generalize lvT L = LT at *
  clear hb hsm hcap HBS hy1 hy2 hy3
  go_enter Tryz.func11, Tryz.ntmps11
  go_wp2_with fail
  refine hlt.mono ?_
  rintro e w1 ⟨rfl, hb1⟩
  obtain ⟨k0, k1, b1⟩ := HPP.out _ hb1
  clear hlt p0 p1 HPP
  cases A1 with
  | false =>
    obtain ⟨e1, e2⟩ := HR.out
    rw [Bool.false_and] at e1
    subst e1
    simp only [Bool.false_eq_true, if_false] at e2
    subst e2
    clear HR HSD HJN HVT HS8
    go_wp2
    go_ret2
    exact ⟨rfl, b1⟩
  | true =>
    go_wp2_with fail
    refine (HSD.out _ b1).mono ?_
    rintro e w2 ⟨rfl, hw2⟩
    subst hw2
    obtain ⟨e1, e2⟩ := HR.out
    rw [Bool.true_and] at e1
    subst e1
    cases B with
    | false =>
      simp only [Bool.false_eq_true, if_false] at e2
      subst e2
      clear HR HSD HJN HVT HS8
      go_wp2
      go_ret2
      exact ⟨rfl, b1⟩
    | true =>
      simp only [if_true] at e2
      obtain ⟨h8, hJ⟩ := HS8.out rfl
      have z1 : ¬ 9223372036854775807 < LT.size + V.size := by omega
      have z2 : ¬ 9223372036854775807 < (LT ++ V).size + J.size := by rw [ByteArray.size_append]; omega
      have hvt := fun W => HVT.out W h8
      have hjn := fun W => HJN.out W rfl
      have HT : Hid (T = LT ++ V ++ J) := e2
      clear HR HSD HJN HVT HS8 hT1 hT2 e2
      generalize S.length = n at *
      go_wp2_with fail
      refine (hvt _).mono ?_
      rintro e w3 ⟨rfl, hb3⟩
      have b3 := b1.trans (hb3.mono b1.size)
      have l1 := cell_up k1 hb3
      clear k0 k1
      go_wp2_with fail
      refine (hjn _ b3).mono ?_
      rintro e w4 ⟨rfl, hb4⟩
      have b4 := b3.trans (hb4.mono b3.size)
      have z3 : ¬ 9223372036854775807 < LT.size + V.size + J.size := by rw [ByteArray.size_append] at z2; exact z2
      clear l1 hb4
      go_wp2
      go_ret2
      rw [HT.out]
      exact ⟨rfl, b4⟩

def PjR (w : World) (U : ByteArray) (S : List ByteArray) (t i : Value) (wr : World) : Prop := ∃ m : Nat, m ≤ S.length ∧ i = .int .i64 m ∧ t = .string (U ++ joinT (S.take m)) ∧ Hid (Below w.heap.size w wr)

set_option maxRecDepth 100000 in
set_option maxHeartbeats 1000000 in
theorem sProofText_any (vb vs : Value) (gb ob gs os : Nat) (L : List Le) (S : List ByteArray) (x : Int) (w : World) (hb : RS 2 lcs w vb gb ob L) (hsm : SmallL L) (hs : SS w vs gs os S) :
    Calls Tryz.prog 60 #[.agg #[vb, vs], .int .i64 x] w fun e w' => e = .returned (.tuple #[.string (pxT L S x), .bool (pxB L S x)]) ∧ Below w.heap.size w w' := by
  obtain ⟨p0, p1⟩ := run_rangeP (w := w) (p := 0) (v1 := vb) (v2 := vs) 29
  have hba : Below w.heap.size w (w.alloc (.cells #[vb, vs] 29)) := (Below.refl _ _).alloc (Nat.le_refl _) _
  have HBS : Hid (∀ W, Below w.heap.size w W → RS 2 lcs W vb gb ob L ∧ SS W vs gs os S) := fun W hW => ⟨hb.later hW, hs.below hW hs.lt⟩
  have HPP : Hid (∀ W, Below (w.alloc (.cells #[vb, vs] 29)).heap.size (w.alloc (.cells #[vb, vs] 29)) W → W.cell? ⟨w.heap.size, 0, none⟩ = some vb ∧ W.cell? ⟨w.heap.size, 1, none⟩ = some vs ∧ Below w.heap.size w W) := fun W hW => ⟨cell_up p0 hW, cell_up p1 hW, hba.trans (hW.mono hba.size)⟩
  have hlt := sLeavesText_any vb gb ob L _ (HBS.out _ hba).1 hsm
  have HSD : Hid (∀ W, Below w.heap.size w W → Calls Tryz.prog 71 #[vs, .int .i64 x] W fun e w' => e = .returned (.bool (wideB S x)) ∧ w' = W) := fun W hW => l11Wide_any vs gs os S x W (HBS.out W hW).2
  have hT1 := lvT_le L
  have HR : Hid (pxB L S x = (LV.leavesB L && (decide (S.length ≤ 8) && wideB S x)) ∧ pxT L S x = if pxB L S x then lvT L ++ ⟨(M.varL S.length).toArray⟩ ++ joinT S else ⟨#[]⟩) := ⟨rfl, rfl⟩
  have HVT : Hid (∀ W, S.length ≤ 8 → Calls Tryz.prog 106 #[.int .i64 (S.length : Int)] W fun e w' => e = .returned (.string ⟨(M.varL S.length).toArray⟩) ∧ Below W.heap.size W w') := fun W h => l01Var_any S.length W (by omega)
  have HS8 : Hid ((decide (S.length ≤ 8) && wideB S x) = true → ∀ m, (joinT (S.take m)).size ≤ 8 * 1048576) := fun h m => sid_join (x := x) h m
  have HS9 : Hid ((decide (S.length ≤ 8) && wideB S x) = true → ∀ s ∈ S, s.size ≤ 32) := fun h => (sid_sizes (x := x) h).2
  have hT2 := varT_le S.length
  obtain ⟨aS, cS, rfl, hy1, hy2, hy3⟩ := hs
  obtain ⟨nS, hnS⟩ : ∃ nS, S.length = nS := ⟨_, rfl⟩
  have HN : Hid (S.length = nS) := hnS
  have HA : Hid (0 < nS → aS = some ⟨gs, os, none⟩) := by rw [← hnS]; exact hy2
  clear hy2 hy3
  rw [hnS] at hy1 hba p0 p1 HBS HPP HSD HR HVT HS8 HS9 hT2 hlt ⊢
  clear hnS
  generalize pxB L S x = B at *
  generalize pxT L S x = T at *
  generalize (⟨(M.varL nS).toArray⟩ : ByteArray) = V at *
  generalize wideB S x = A3 at *
  generalize LV.leavesB L = A1 at *
  generalize lvT L = LT at *
  clear hb hsm
  go_enter Tryz.func60, Tryz.ntmps60
  go_wp2_with fail
  refine hlt.mono ?_
  rintro e w1 ⟨rfl, hb1⟩
  obtain ⟨k0, k1, b1⟩ := HPP.out _ hb1
  clear hlt p0 p1 HPP
  cases A1 with
  | false =>
    obtain ⟨e1, e2⟩ := HR.out
    rw [Bool.false_and] at e1
    subst e1
    simp only [Bool.false_eq_true, if_false] at e2
    subst e2
    clear HR HSD HVT HS8 HS9
    go_wp2
    go_ret2
    exact ⟨rfl, b1⟩
  | true =>
    by_cases h8 : nS ≤ 8
    · go_wp2_with fail
      refine (HSD.out _ b1).mono ?_
      rintro e w2 ⟨rfl, hw2⟩
      subst hw2
      obtain ⟨e1, e2⟩ := HR.out
      rw [Bool.true_and, decide_eq_true h8, Bool.true_and] at e1
      subst e1
      cases B with
      | false =>
        simp only [Bool.false_eq_true, if_false] at e2
        subst e2
        clear HR HSD HVT HS8 HS9
        go_wp2
        go_ret2
        exact ⟨rfl, b1⟩
      | true =>
        simp only [if_true] at e2
        have hJ := HS8.out (by simp [h8])
        have hS := HS9.out (by simp [h8])
        have z1 : ¬ 9223372036854775807 < LT.size + V.size := by omega
        have hvt := fun W => HVT.out W h8
        have HT : Hid (T = LT ++ V ++ joinT S) := e2
        clear HR HSD HVT HS8 HS9 e2
        go_wp2_with fail
        refine (hvt _).mono ?_
        rintro e w3 ⟨rfl, hb3⟩
        have b3 := b1.trans (hb3.mono b1.size)
        have l1 := cell_up k1 hb3
        have HK1 : Hid (∀ W, Below w3.heap.size w3 W → W.cell? ⟨w.heap.size, 1, none⟩ = some (.slice aS nS cS)) := fun W hW => cell_up l1 hW
        have HB3 : Hid (Below w.heap.size w w3) := b3
        have hU : (LT ++ V).size ≤ 2000 := by rw [ByteArray.size_append]; omega
        have HST : Hid (PjR w3 (LT ++ V) S (.string (LT ++ V)) (.int .i64 0) w3) := ⟨0, by omega, rfl, by rw [List.take_zero, joinT_none]; congr 1; exact (ByteArray.append_empty (b := LT ++ V)).symm, Below.refl _ _⟩
        have HJJ : Hid (∀ m, (joinT (S.take m)).size ≤ 8 * 1048576) := hJ
        have HSS : Hid (∀ s ∈ S, s.size ≤ 32) := hS
        clear k0 k1 hb3 b3 b1 hb1 hJ hS hT1 hT2
        have hqd : decide ((8 : Int) < (nS : Int)) = false := decide_eq_false (by omega)
        go_wp2
        try simp only [hqd]
        generalize LT ++ V = U at *
        go_loopw [6, 8] (fun t i wr => PjR w3 U S t i wr) (fun _ i _ => nS - (intOf i).toNat)
        case atStart => exact HST.out
        case round =>
          obtain ⟨m, hm, rfl, rfl, HI⟩ := hrel
          clear HST
          rw [HN.out] at hm
          have c1 := HK1.out _ HI.out
          by_cases hlt : m < nS
          · have ea := HA.out (by omega)
            subst ea
            have hmS : m < S.length := by rw [HN.out]; exact hlt
            have c0 : wr.cell? ⟨gs, os + m, none⟩ = some (.string S[m]) := by
              obtain ⟨_, _, _, _, _, h6⟩ := (HBS.out wr (HB3.out.trans (HI.out.mono HB3.out.size))).2
              exact h6 m hmS
            have hst := joinT_take hmS
            have hj := HJJ.out m
            have hs32 := HSS.out _ (List.getElem_mem hmS)
            have HNX : Hid (∀ W, Below wr.heap.size wr W → PjR w3 U S (.string (U ++ (joinT (S.take m) ++ S[m]))) (.int .i64 ((m : Int) + 1)) W) := fun W hW => ⟨m + 1, by omega, by congr 1, by rw [hst], HI.out.trans (hW.mono HI.out.size)⟩
            rw [← ByteArray.append_assoc] at HNX
            clear hst
            generalize S[m] = X at *
            generalize joinT (S.take m) = J at *
            have z2 : ¬ 9223372036854775807 < (U ++ J).size + X.size := by rw [ByteArray.size_append]; omega
            have z3 : ¬ 9223372036854775807 < U.size + J.size + X.size := by omega
            have i1 : (m : Int) < (nS : Int) := by omega
            have i2 : (0 : Int) ≤ (m : Int) := by omega
            have HK : Hid (PjR w3 U S (.string (U ++ J ++ X)) (.int .i64 ((m : Int) + 1)) wr) := HNX.out _ (Below.refl _ _)
            clear HNX hj hs32
            go_wp2
            go_roundw
            case rel => exact HK.out
            case measure => simp [intOf]; omega
          · have hme : m = nS := by omega
            have i1 : ¬ (m : Int) < (nS : Int) := by omega
            have hT : T = U ++ joinT (S.take m) := by rw [HT.out, List.take_of_length_le (by rw [HN.out]; omega)]
            have bF := HB3.out.trans (HI.out.mono HB3.out.size)
            clear HI HBS HA
            go_wp2
            go_ret2
            exact ⟨rfl, bF⟩
    · obtain ⟨e1, e2⟩ := HR.out
      rw [Bool.true_and, decide_eq_false h8, Bool.false_and] at e1
      subst e1
      simp only [Bool.false_eq_true, if_false] at e2
      subst e2
      have i8 : (8 : Int) < (nS : Int) := by omega
      clear HR HSD HVT HS8 HS9
      go_wp2
      go_ret2
      exact ⟨rfl, b1⟩

end Go.Proofs.YtojadcjoniejaaaGreatDoor
/-
  The reader of a proof: its text and its place, and what it wants.
-/
namespace Go.Proofs.YtojadcjoniejaaaGreatDoor
open Go.RowKit Go.BigFrame Go.Sort
set_option linter.unusedVariables false
set_option linter.unusedSimpArgs false

/-- the block of a reader: its text and its place -/
def Rd (W : World) (c : Nat) (s : ByteArray) (p : Nat) : Prop := W.heap[c]? = some (.cells #[.string s, .int .i64 (p : Int)] 68 (0, 0))
section
variable {W W' : World} {c p : Nat} {s : ByteArray}
theorem Rd.lt (h : Rd W c s p) : c < W.heap.size := (Array.getElem?_eq_some_iff.1 h).1
theorem Rd.later (h : Rd W c s p) (hb : Below W.heap.size W W') : Rd W' c s p := (hb.block c h.lt).trans h
theorem Rd.grown {row : Option Nat} (h : Rd W c s p) (hg : W.grownBy W' row) (hne : some c ≠ row) : Rd W' c s p := (hg.block c h.lt hne).trans h
theorem Rd.c0 (h : Rd W c s p) : W.cell? ⟨c, 0, none⟩ = some (.string s) := by rw [cell_of_row W c 0 _ _ _ h]; rfl
theorem Rd.c1 (h : Rd W c s p) : W.cell? ⟨c, 1, none⟩ = some (.int .i64 (p : Int)) := by rw [cell_of_row W c 1 _ _ _ h]; rfl
theorem Rd.f1 (h : Rd W c s p) : W.frozen? ⟨c, 1, none⟩ = false := by simp [World.frozen?, show W.heap[c]? = _ from h]
theorem Rd.at (h : Rd W c s p) (q : Nat) : Rd (W.setCell ⟨c, 1, none⟩ (.int .i64 (q : Int))) c s q := heap_setCell_same W c 1 _ _ _ h
end
/-- what the reader panics with -/
def unR : PanicEntry := { v := .iface 161 (.agg #[]), recovered := false }

theorem want_yes (v : Value) (w : World) : Calls Tryz.prog 94 #[v, .bool true] w fun e w' => e = .returned (.tuple #[]) ∧ w' = w := by
  go_enter Tryz.func94, Tryz.ntmps94
  go_wp2
  go_end0
  exact ⟨rfl, rfl⟩
theorem want_no (v : Value) (w : World) : Calls Tryz.prog 94 #[v, .bool false] w fun e w' => e = .panicked [unR] ∧ w' = w := by
  go_enter Tryz.func94, Tryz.ntmps94
  go_wp2
  exact ⟨rfl, rfl, rfl⟩

set_option maxRecDepth 100000 in
set_option maxHeartbeats 1000000 in
theorem readerLeaves_no (c p : Nat) (s : ByteArray) (w : World) (h : Rd w c s p) (hs : s.size ≤ 1048576) (hp : p ≤ s.size) (hno : LV.rawL s p = none ∨ ∃ l q, LV.rawL s p = some (l, q) ∧ LV.leavesB l = false) :
    Calls Tryz.prog 44 #[.pointer (some ⟨c, 0, none⟩)] w fun e w' => e = .panicked [unR] ∧ Below w.heap.size w w' := by
  have HC : Hid (∀ W, Below w.heap.size w W → W.cell? ⟨c, 0, none⟩ = some (.string s) ∧ W.cell? ⟨c, 1, none⟩ = some (.int .i64 (p : Int))) := fun W hW => ⟨(h.later hW).c0, (h.later hW).c1⟩
  have H1 : Hid (∀ W, Calls Tryz.prog 93 #[.string s, .int .i64 (p : Int)] W fun e w' => (∃ a n c q, e = .returned (.tuple #[.slice a n c, .int .i64 q, .bool false])) ∧ Below W.heap.size W w') := fun W => (readLeaves_at s _ p W rfl hs hp).mono fun e w' ⟨hr, hb⟩ => by
    refine ⟨?_, hb⟩
    unfold RvP at hr
    rcases hno with h0 | ⟨l, q, h0, h1⟩
    · simp only [h0] at hr
      exact ⟨_, _, _, _, hr⟩
    · simp only [h0] at hr
      obtain ⟨g, he, _⟩ := hr
      rw [h1] at he
      exact ⟨_, _, _, _, he⟩
  have hb0 : Below w.heap.size w w.drew := (Below.refl _ _).drew
  clear h hno hs hp
  go_enter Tryz.func44, Tryz.ntmps44
  go_wp2
  go_region_held3 (fun W => W.cell? ⟨c, 0, none⟩ = some (.string s) ∧ W.cell? ⟨c, 1, none⟩ = some (.int .i64 (p : Int))) (first | (go_keep; done) | exact HC.out _ hb0) (first | (go_at_call 93; refine (H1.out _).mono ?_; rintro e w1 ⟨⟨a1, n1, c1, q1, rfl⟩, hc1⟩; have hb0 := hb0.trans (hc1.mono hb0.size)) | fail)
  clear HC H1 hc1
  try rename_i hHeld
  try clear hHeld
  go_wp2_with fail
  refine (want_no _ _).mono ?_
  rintro e w2 ⟨rfl, rfl⟩
  go_wp2
  exact ⟨rfl, rfl, hb0⟩

set_option maxRecDepth 100000 in
set_option maxHeartbeats 1000000 in
theorem readerLeaves_yes (c p : Nat) (s : ByteArray) (l : List Le) (q : Nat) (w : World) (h : Rd w c s p) (hs : s.size ≤ 1048576) (hp : p ≤ s.size) (hr : LV.rawL s p = some (l, q)) (hl : LV.leavesB l = true) :
    Calls Tryz.prog 44 #[.pointer (some ⟨c, 0, none⟩)] w fun e w' => ∃ g, e = .returned (.slice (some ⟨g, 0, none⟩) l.length l.length) ∧ RW 2 lcs w' (.slice (some ⟨g, 0, none⟩) l.length l.length) g l ∧ w.heap.size ≤ g ∧ Rd w' c s q ∧ w.grownBy w' (some c) := by
  have HC : Hid (∀ W, Below w.heap.size w W → W.cell? ⟨c, 0, none⟩ = some (.string s) ∧ W.cell? ⟨c, 1, none⟩ = some (.int .i64 (p : Int))) := fun W hW => ⟨(h.later hW).c0, (h.later hW).c1⟩
  have H1 : Hid (∀ W, Calls Tryz.prog 93 #[.string s, .int .i64 (p : Int)] W fun e w' => (∃ g, e = .returned (.tuple #[.slice (some ⟨g, 0, none⟩) l.length l.length, .int .i64 (q : Int), .bool true]) ∧ W.heap.size ≤ g ∧ RW 2 lcs w' (.slice (some ⟨g, 0, none⟩) l.length l.length) g l) ∧ Below W.heap.size W w') := fun W => (readLeaves_at s _ p W rfl hs hp).mono fun e w' ⟨hv, hb⟩ => by
    unfold RvP at hv
    simp only [hr, hl] at hv
    exact ⟨hv, hb⟩
  have hb0 : Below w.heap.size w w.drew := (Below.refl _ _).drew
  have HR : Hid (Rd w c s p) := h
  clear h hr hs hp hl
  go_enter Tryz.func44, Tryz.ntmps44
  go_wp2
  go_region_held3 (fun W => W.cell? ⟨c, 0, none⟩ = some (.string s) ∧ W.cell? ⟨c, 1, none⟩ = some (.int .i64 (p : Int))) (first | (go_keep; done) | exact HC.out _ hb0) (first | (go_at_call 93; refine (H1.out _).mono ?_; rintro e w1 ⟨⟨g, rfl, hg, hrw⟩, hc1⟩; have hsz := hb0.size; have hb0 := hb0.trans (hc1.mono hb0.size)) | fail)
  have h1 := HR.out.later hb0
  have d1 := h1.c1
  have f1 := h1.f1
  have hlt := h1.lt
  have HF : Hid (RW 2 lcs (w1.setCell ⟨c, 1, none⟩ (.int .i64 (q : Int))) (.slice (some ⟨g, 0, none⟩) l.length l.length) g l ∧ w.heap.size ≤ g ∧ Rd (w1.setCell ⟨c, 1, none⟩ (.int .i64 (q : Int))) c s q ∧ w.grownBy (w1.setCell ⟨c, 1, none⟩ (.int .i64 (q : Int))) (some c)) := by
    have hcw := HR.out.lt
    have hgw : w.heap.size ≤ g := by
      have e : w.drew.heap.size = w.heap.size := rfl
      omega
    refine ⟨hrw.grown (grown_setC w1 c 1 _) (fun _ => by simp; omega), hgw, h1.at q, (grown_below hb0).trans (grown_setC w1 c 1 _)⟩
  clear HC H1 hc1 HR h1 hrw hg hsz
  try rename_i hHeld
  try clear hHeld
  go_wp2_with fail
  refine (want_yes _ _).mono ?_
  rintro e w2 ⟨rfl, rfl⟩
  go_wp2
  go_ret
  exact ⟨g, rfl, HF.out⟩

end Go.Proofs.YtojadcjoniejaaaGreatDoor
/-
  The reader of a proof: a side, the sides, the end.
-/
namespace Go.Proofs.YtojadcjoniejaaaGreatDoor
open Go.RowKit Go.BigFrame Go.Sort
set_option linter.unusedVariables false
set_option linter.unusedSimpArgs false

set_option maxRecDepth 100000 in
set_option maxHeartbeats 1000000 in
theorem readerSide_no (c p : Nat) (s : ByteArray) (x : Nat) (w : World) (h : Rd w c s p) (hs : s.size ≤ 1048576) (hp : p ≤ s.size) (hx : x ≤ 32) (hno : s.size < p + x) :
    Calls Tryz.prog 96 #[.pointer (some ⟨c, 0, none⟩), .int .i64 (x : Int)] w fun e w' => e = .panicked [unR] ∧ Below w.heap.size w w' := by
  have c0 := h.c0
  have c1 := h.c1
  go_enter Tryz.func96, Tryz.ntmps96
  have d0 : w.drew.cell? ⟨c, 0, none⟩ = some (.string s) := c0
  have d1 : w.drew.cell? ⟨c, 1, none⟩ = some (.int .i64 (p : Int)) := c1
  have wr1 : IntKind.i64.wrap ((s.size : Int) - (p : Int)) = (s.size : Int) - (p : Int) := IntWalk.i64_in _ (by omega)
  have q1 : decide ((x : Int) ≤ (s.size : Int) - (p : Int)) = false := decide_eq_false (by omega)
  clear h
  go_wp2
  go_still_tail 13, (by kernel_rfl)
  go_wp2_with fail
  refine (want_no _ _).mono ?_
  rintro e w2 ⟨rfl, rfl⟩
  go_wp2
  exact ⟨rfl, rfl, (Below.refl _ _).drew⟩

set_option maxRecDepth 100000 in
set_option maxHeartbeats 1000000 in
theorem readerSide_yes (c p : Nat) (s : ByteArray) (x : Nat) (w : World) (h : Rd w c s p) (hs : s.size ≤ 1048576) (hx : x ≤ 32) (hyes : p + x ≤ s.size) :
    Calls Tryz.prog 96 #[.pointer (some ⟨c, 0, none⟩), .int .i64 (x : Int)] w fun e w' => e = .returned (.string (piece s p x)) ∧ Rd w' c s (p + x) ∧ w.grownBy w' (some c) := by
  have c0 := h.c0
  have c1 := h.c1
  have hpc := run_piece s p x hyes
  have hps := piece_size s p x
  have HR : Hid (Rd w c s p) := h
  have hlt := h.lt
  go_enter Tryz.func96, Tryz.ntmps96
  have d0 : w.drew.cell? ⟨c, 0, none⟩ = some (.string s) := c0
  have d1 : w.drew.cell? ⟨c, 1, none⟩ = some (.int .i64 (p : Int)) := c1
  have wr1 : IntKind.i64.wrap ((s.size : Int) - (p : Int)) = (s.size : Int) - (p : Int) := IntWalk.i64_in _ (by omega)
  have q1 : decide ((x : Int) ≤ (s.size : Int) - (p : Int)) = true := decide_eq_true (by omega)
  clear h
  go_wp2
  go_still_tail 13, (by kernel_rfl)
  go_wp2_with fail
  refine (want_yes _ _).mono ?_
  rintro e w2 ⟨rfl, hw2⟩
  subst hw2
  have f1 : w.drew.frozen? ⟨c, 1, none⟩ = false := HR.out.f1
  have H2 : Hid (Rd (w.setCell ⟨c, 1, none⟩ (.int .i64 ((p + x : Nat) : Int))).drew c s (p + x) ∧ w.grownBy (w.setCell ⟨c, 1, none⟩ (.int .i64 ((p + x : Nat) : Int))).drew (some c)) := ⟨Rd.later (HR.out.at (p + x)) (Below.refl _ _).drew, (grown_setC w c 1 _).trans (grown_below (Below.refl _ _).drew)⟩
  have e1 : ((p + x : Nat) : Int) = (p : Int) + (x : Int) := by omega
  rw [e1] at H2
  go_wp2
  generalize (w.setCell ⟨c, 1, none⟩ (.int .i64 ((p : Int) + (x : Int)))).drew = W2 at *
  have g0 : W2.drew.cell? ⟨c, 0, none⟩ = some (.string s) := H2.out.1.c0
  have g1 : W2.drew.cell? ⟨c, 1, none⟩ = some (.int .i64 ((p : Int) + (x : Int))) := by have := H2.out.1.c1; rw [e1] at this; exact this
  go_still_tail 10, (by kernel_rfl)
  go_wp2_with fail
  refine (Clone_any _ _ (by omega)).mono ?_
  rintro e w3 ⟨rfl, hb3⟩
  have HF : Hid (Rd w3 c s (p + x) ∧ w.grownBy w3 (some c)) := ⟨(Rd.later (W' := W2.drew) H2.out.1 (Below.refl _ _).drew).later hb3, (H2.out.2.trans (grown_below (Below.refl _ _).drew)).trans (grown_below hb3)⟩
  clear H2 g0 g1 hb3 d0 d1 c0 c1
  go_wp2
  go_ret
  exact ⟨rfl, HF.out⟩

end Go.Proofs.YtojadcjoniejaaaGreatDoor
/-
  The reader of a proof: the sides, the end.
-/
namespace Go.Proofs.YtojadcjoniejaaaGreatDoor
open Go.RowKit Go.BigFrame Go.Sort
set_option linter.unusedVariables false
set_option linter.unusedSimpArgs false

theorem grown_new {w wr : World} {c g j : Nat} (h : w.grownBy wr (some c)) (hg : w.heap.size ≤ g) (v : Value) : w.grownBy (wr.setCell ⟨g, j, none⟩ v) (some c) := by
  have hs := grown_setC wr g j v
  exact ⟨hs.os.trans h.os, hs.tape.trans h.tape, hs.output.trans h.output, Nat.le_trans h.size hs.size, fun k hk hne => (hs.block k (Nat.lt_of_lt_of_le hk h.size) (by simp; omega)).trans (h.block k hk hne)⟩

/-- k pieces of a text, each x bytes wide, from a place on -/
def sdp (s : ByteArray) (x p k : Nat) : List ByteArray := (List.range k).map fun i => piece s (p + i * x) x
theorem sdp_len (s : ByteArray) (x p k : Nat) : (sdp s x p k).length = k := by simp [sdp]
theorem sdp_at (s : ByteArray) (x p k j : Nat) (h : j < (sdp s x p k).length) : (sdp s x p k)[j] = piece s (p + j * x) x := by simp [sdp]

set_option maxRecDepth 100000 in
set_option maxHeartbeats 1000000 in
theorem readerEnd_yes (c : Nat) (s : ByteArray) (w : World) (h : Rd w c s s.size) :
    Calls Tryz.prog 46 #[.pointer (some ⟨c, 0, none⟩)] w fun e w' => e = .returned (.tuple #[]) ∧ Below w.heap.size w w' := by
  have d0 : w.drew.cell? ⟨c, 0, none⟩ = some (.string s) := h.c0
  have d1 : w.drew.cell? ⟨c, 1, none⟩ = some (.int .i64 (s.size : Int)) := h.c1
  clear h
  go_enter Tryz.func46, Tryz.ntmps46
  go_wp2
  go_still_tail 11, (by kernel_rfl)
  go_wp2_with fail
  refine (want_yes _ _).mono ?_
  rintro e w2 ⟨rfl, rfl⟩
  go_wp2
  go_end0
  exact ⟨rfl, (Below.refl _ _).drew⟩
set_option maxRecDepth 100000 in
set_option maxHeartbeats 1000000 in
theorem readerEnd_no (c p : Nat) (s : ByteArray) (w : World) (h : Rd w c s p) (hp : p ≠ s.size) :
    Calls Tryz.prog 46 #[.pointer (some ⟨c, 0, none⟩)] w fun e w' => e = .panicked [unR] ∧ Below w.heap.size w w' := by
  have d0 : w.drew.cell? ⟨c, 0, none⟩ = some (.string s) := h.c0
  have d1 : w.drew.cell? ⟨c, 1, none⟩ = some (.int .i64 (p : Int)) := h.c1
  have q1 : ((p : Int) == (s.size : Int)) = false := by simp; omega
  clear h
  go_enter Tryz.func46, Tryz.ntmps46
  go_wp2
  go_still_tail 11, (by kernel_rfl)
  go_wp2_with fail
  refine (want_no _ _).mono ?_
  rintro e w2 ⟨rfl, rfl⟩
  go_wp2
  exact ⟨rfl, rfl, (Below.refl _ _).drew⟩

/-- the first m sides of the row that is made are read -/
def RtR (w : World) (c : Nat) (s : ByteArray) (x q n g : Nat) (i : Value) (wr : World) : Prop := ∃ m : Nat, m ≤ n ∧ i = .int .i64 m ∧ q + m * x ≤ s.size ∧ Hid (Rd wr c s (q + m * x) ∧ TB wr g (srow (sdp s x q n) m) ∧ w.grownBy wr (some c) ∧ w.heap.size ≤ g)

set_option maxRecDepth 100000 in
set_option maxHeartbeats 1000000 in
theorem readerSides_yes (c p : Nat) (s : ByteArray) (x n q : Nat) (w : World) (h : Rd w c s p) (hs : s.size ≤ 1048576) (hp : p ≤ s.size) (hx : x ≤ 32) (hr : M.readVar s.data.toList p = some (n, q)) (hn : n ≤ 8) :
    Calls Tryz.prog 45 #[.pointer (some ⟨c, 0, none⟩), .int .i64 (x : Int)] w fun e w' => (if q + n * x ≤ s.size then ∃ g, e = .returned (.slice (some ⟨g, 0, none⟩) n n) ∧ TB w' g (sdp s x q n) ∧ w.heap.size ≤ g ∧ Rd w' c s (q + n * x) else e = .panicked [unR]) ∧ w.grownBy w' (some c) := by
  have hq := (read_bound s p n q hr).1
  have HC : Hid (∀ W, Below w.heap.size w W → W.cell? ⟨c, 0, none⟩ = some (.string s) ∧ W.cell? ⟨c, 1, none⟩ = some (.int .i64 (p : Int))) := fun W hW => ⟨(h.later hW).c0, (h.later hW).c1⟩
  have H1 : Hid (∀ W, Calls Tryz.prog 95 #[.string s, .int .i64 (p : Int)] W fun e w' => e = .returned (.tuple #[.int .i64 n, .int .i64 q, .bool true]) ∧ w' = W) := fun W => ReadVar_some s (p : Int) n q W hs (by omega) (by simpa using hr)
  have hb0 : Below w.heap.size w w.drew := (Below.refl _ _).drew
  have HR : Hid (Rd w c s p) := h
  have i8 : (n : Int) ≤ 8 := by omega
  clear h hr
  obtain ⟨P, hP⟩ : ∃ P : Ending → World → Prop, (fun e w' => (if q + n * x ≤ s.size then ∃ g, e = .returned (.slice (some ⟨g, 0, none⟩) n n) ∧ TB w' g (sdp s x q n) ∧ w.heap.size ≤ g ∧ Rd w' c s (q + n * x) else e = .panicked [unR]) ∧ w.grownBy w' (some c)) = P := ⟨_, rfl⟩
  have HP : Hid (∀ e w', P e w' ↔ (if q + n * x ≤ s.size then ∃ g, e = .returned (.slice (some ⟨g, 0, none⟩) n n) ∧ TB w' g (sdp s x q n) ∧ w.heap.size ≤ g ∧ Rd w' c s (q + n * x) else e = .panicked [unR]) ∧ w.grownBy w' (some c)) := fun e w' => by rw [← hP]
  rw [hP]
  clear hP
  go_enter Tryz.func45, Tryz.ntmps45
  go_wp2
  go_region_held3 (fun W => W.cell? ⟨c, 0, none⟩ = some (.string s) ∧ W.cell? ⟨c, 1, none⟩ = some (.int .i64 (p : Int))) (first | (go_keep; done) | exact HC.out _ hb0) (first | (go_at_call 95; refine (H1.out _).mono ?_; rintro e w1 ⟨rfl, hw1⟩; subst hw1) | fail)
  have h1 := Rd.later (W' := w.drew) HR.out hb0
  have d1 := h1.c1
  have f1 := h1.f1
  have hlt := h1.lt
  obtain ⟨w2, hmk, hib, hb2, hs2⟩ := TB.made n (by omega) (w.setCell ⟨c, 1, none⟩ (.int .i64 (q : Int))).drew
  have hW1 : Rd (w.setCell ⟨c, 1, none⟩ (.int .i64 (q : Int))).drew c s q := Rd.later (HR.out.at q) (Below.refl _ _).drew
  have hG1 : w.grownBy (w.setCell ⟨c, 1, none⟩ (.int .i64 (q : Int))).drew (some c) := (grown_setC w c 1 _).trans (grown_below (Below.refl _ _).drew)
  have hz : (w.setCell ⟨c, 1, none⟩ (.int .i64 (q : Int))).drew.heap.size = w.heap.size := by
    show (w.setCell ⟨c, 1, none⟩ (.int .i64 (q : Int))).heap.size = w.heap.size
    simp
  rw [hz] at hmk hib
  have HST : Hid (RtR w c s x q n w.heap.size (.int .i64 0) w2) := ⟨0, by omega, rfl, by omega, by rw [Nat.zero_mul, Nat.add_zero]; exact hW1.later hb2, by simpa [srow, sdp_len] using hib, hG1.trans (grown_below hb2), Nat.le_refl _⟩
  clear hib hb2 hs2 hW1 hG1 HC H1 h1
  try rename_i hHeld
  try clear hHeld
  go_wp2_with fail
  refine (want_yes _ _).mono ?_
  rintro e w3 ⟨rfl, hw3⟩
  subst hw3
  go_wp2
  clear hmk
  have HRD : Hid (Rd w c s p) := HR.out
  have hcw := HR.out.lt
  clear HR d1 f1 hlt hb0
  go_loopw [38] (fun i wr => RtR w c s x q n w.heap.size i wr) (fun i _ => n - (intOf i).toNat)
  case atStart => exact HST.out
  case round =>
    obtain ⟨m, hm, rfl, hqm, HI⟩ := hrel
    clear HST
    by_cases hlt : m < n
    · have i1 : (m : Int) < (n : Int) := by omega
      have i2 : (0 : Int) ≤ (m : Int) := by omega
      have em : q + (m + 1) * x = q + m * x + x := by rw [Nat.add_mul, Nat.one_mul, Nat.add_assoc]
      by_cases hy : q + m * x + x ≤ s.size
      · have hsd := readerSide_yes c (q + m * x) s x wr HI.out.1 hs hx hy
        have HX : Hid (piece s (q + m * x) x = (sdp s x q n)[m]'(by rw [sdp_len]; exact hlt)) := (sdp_at s x q n m _).symm
        generalize piece s (q + m * x) x = X at *
        go_wp2_with fail
        refine hsd.mono ?_
        rintro e w4 ⟨rfl, hr4, hg4⟩
        have htb : TB w4 w.heap.size (srow (sdp s x q n) m) := by
          obtain ⟨cur, h1, h2⟩ := HI.out.2.1
          refine ⟨cur, ?_, h2⟩
          rw [hg4.block w.heap.size (Array.getElem?_eq_some_iff.1 h1).1 (by simp; omega)]
          exact h1
        have hln : m < (srow (sdp s x q n) m).length := by rw [srow_len _ _ (by rw [sdp_len]; omega), sdp_len]; exact hlt
        have c0 := htb.cell m hln
        have f0 := htb.frozen m
        have hts := htb.set m hln X
        rw [HX.out, srow_step (sdp s x q n) m (by rw [sdp_len]; exact hlt), ← HX.out] at hts
        have HJ : Hid (RtR w c s x q n w.heap.size (.int .i64 ((m : Int) + 1)) (w4.setCell ⟨w.heap.size, m, none⟩ (.string X))) := by
          refine ⟨m + 1, by omega, by congr 1, by rw [em]; exact hy, ?_, hts, grown_new (HI.out.2.2.1.trans hg4) (Nat.le_refl _) _, Nat.le_refl _⟩
          rw [em]
          exact hr4.grown (grown_setC w4 w.heap.size m _) (by simp; omega)
        generalize (srow (sdp s x q n) m)[m] = Y at *
        clear hts htb hsd hr4 hg4 HI HX hln
        go_wp2
        go_roundw
        case rel => exact HJ.out
        case measure => simp [intOf]; omega
      · have hsd := readerSide_no c (q + m * x) s x wr HI.out.1 hs hqm hx (by omega)
        have hno : ¬ q + n * x ≤ s.size := fun hh => by
          have h2 : (m + 1) * x ≤ n * x := Nat.mul_le_mul_right _ hlt
          omega
        have HF : Hid (∀ w', Below wr.heap.size wr w' → P (.panicked [unR]) w') := fun w' hb => by
          rw [HP.out, if_neg hno]
          exact ⟨rfl, HI.out.2.2.1.trans (grown_below hb)⟩
        clear HI
        go_wp2_with fail
        refine hsd.mono ?_
        rintro e w4 ⟨rfl, hb4⟩
        have hF := HF.out _ hb4
        clear HF hb4 hsd HP
        go_wp2
        exact ⟨rfl, hF⟩
    · have hme : m = n := by omega
      subst hme
      have i1 : ¬ (m : Int) < (m : Int) := by omega
      have HF : Hid (P (.returned (.slice (some ⟨w.heap.size, 0, none⟩) m m)) wr) := by
        show P (.returned (.slice (some ⟨w.heap.size, 0, none⟩) m m)) wr
        rw [HP.out, if_pos hqm]
        have e : srow (sdp s x q m) m = sdp s x q m := by
          have := srow_all (sdp s x q m)
          rw [sdp_len] at this
          exact this
        have h2 := HI.out.2.1
        rw [e] at h2
        exact ⟨⟨w.heap.size, rfl, h2, Nat.le_refl _, HI.out.1⟩, HI.out.2.2.1⟩
      clear HI HP
      go_wp2
      exact HF.out

set_option maxRecDepth 100000 in
set_option maxHeartbeats 1000000 in
theorem readerSides_no (c p : Nat) (s : ByteArray) (x : Nat) (w : World) (h : Rd w c s p) (hs : s.size ≤ 1048576) (hp : p ≤ s.size) (hno : M.readVar s.data.toList p = none ∨ ∃ n q, M.readVar s.data.toList p = some (n, q) ∧ 8 < n) :
    Calls Tryz.prog 45 #[.pointer (some ⟨c, 0, none⟩), .int .i64 (x : Int)] w fun e w' => e = .panicked [unR] ∧ w.grownBy w' (some c) := by
  have HC : Hid (∀ W, Below w.heap.size w W → W.cell? ⟨c, 0, none⟩ = some (.string s) ∧ W.cell? ⟨c, 1, none⟩ = some (.int .i64 (p : Int))) := fun W hW => ⟨(h.later hW).c0, (h.later hW).c1⟩
  have hb0 : Below w.heap.size w w.drew := (Below.refl _ _).drew
  have HF : Hid (w.grownBy w.drew (some c)) := grown_below (Below.refl _ _).drew
  rcases hno with h0 | ⟨n, q, h0, h8⟩
  · have H1 : Hid (∀ W, Calls Tryz.prog 95 #[.string s, .int .i64 (p : Int)] W fun e w' => e = .returned (.tuple #[.int .i64 0, .int .i64 0, .bool false]) ∧ w' = W) := fun W => ReadVar_none s (p : Int) W hs (.inr ⟨by omega, by simpa using h0⟩)
    clear h h0
    go_enter Tryz.func45, Tryz.ntmps45
    go_wp2
    go_region_held3 (fun W => W.cell? ⟨c, 0, none⟩ = some (.string s) ∧ W.cell? ⟨c, 1, none⟩ = some (.int .i64 (p : Int))) (first | (go_keep; done) | exact HC.out _ hb0) (first | (go_at_call 95; refine (H1.out _).mono ?_; rintro e w1 ⟨rfl, hw1⟩; subst hw1) | fail)
    clear HC H1
    try rename_i hHeld
    try clear hHeld
    go_wp2_with fail
    refine (want_no _ _).mono ?_
    rintro e w3 ⟨rfl, rfl⟩
    go_wp2
    exact ⟨rfl, rfl, HF.out⟩
  · have hq := read_bound s p n q h0
    have i8 : decide ((n : Int) ≤ 8) = false := decide_eq_false (by omega)
    have H1 : Hid (∀ W, Calls Tryz.prog 95 #[.string s, .int .i64 (p : Int)] W fun e w' => e = .returned (.tuple #[.int .i64 n, .int .i64 q, .bool true]) ∧ w' = W) := fun W => ReadVar_some s (p : Int) n q W hs (by omega) (by simpa using h0)
    clear h h0 hq
    go_enter Tryz.func45, Tryz.ntmps45
    go_wp2
    go_region_held3 (fun W => W.cell? ⟨c, 0, none⟩ = some (.string s) ∧ W.cell? ⟨c, 1, none⟩ = some (.int .i64 (p : Int))) (first | (go_keep; done) | exact HC.out _ hb0) (first | (go_at_call 95; refine (H1.out _).mono ?_; rintro e w1 ⟨rfl, hw1⟩; subst hw1) | fail)
    clear HC H1
    try rename_i hHeld
    try clear hHeld
    go_wp2_with fail
    refine (want_no _ _).mono ?_
    rintro e w3 ⟨rfl, rfl⟩
    go_wp2
    exact ⟨rfl, rfl, HF.out⟩

end Go.Proofs.YtojadcjoniejaaaGreatDoor
/-
  A proof read of a text: the program's answer.
-/
namespace Go.Proofs.YtojadcjoniejaaaGreatDoor
open Go.RowKit Go.BigFrame Go.Sort
set_option linter.unusedVariables false
set_option linter.unusedSimpArgs false

theorem leaves_done {fn : Func} {tmps : Array Value} {R : Ending → World → Prop} {w : World} (g k : Nat) (v1 v2 : Value) (b : Bool) (hres : fn.results = #[.cell 4 29, .cell 5 4]) (hp : tmps.getD 4 undef = .pointer (some ⟨g, 0, none⟩)) (hk : tmps.getD 5 undef = .pointer (some ⟨k, 0, none⟩)) (hA : PfM w g v1 v2) (hB : w.cell? ⟨k, 0, none⟩ = some (.bool b))
    (h : R (.returned (.tuple #[.agg #[v1, v2], .bool b])) w) : Leaves Tryz.prog fn tmps R [] .returning w := by
  have hr := load_pf hA
  refine ⟨.tuple #[.agg #[v1, v2], .bool b], ?_, h⟩
  have hp' : tmps[4]?.getD undef = .pointer (some ⟨g, 0, none⟩) := by simpa using hp
  have hk' : tmps[5]?.getD undef = .pointer (some ⟨k, 0, none⟩) := by simpa using hk
  have hb : (loadVar 4 ⟨k, 0, none⟩).run Tryz.prog w = .ok (.bool b) w := by simp [go_sem, hB]
  simp [results, hres, asAddr, hr, hp', hk', hb]

set_option maxRecDepth 100000 in
theorem catch_idle (g k : Nat) (w : World) :
    CallsD Tryz.prog 43 #[.pointer (some ⟨g, 0, none⟩), .pointer (some ⟨k, 0, none⟩)] .returning w fun e u' w' => e = .returned (.tuple #[]) ∧ u' = .returning ∧ w' = w := by
  refine callsD_of_wpS Tryz.func43 rfl fun c₀ cs hu => ?_
  apply wpS_seq
  apply wpS_region
  simp [wpOpsS, go_sem, recoverD, hu, Tryz.ntmps43, Exit.thenS]
  refine wpS_cond (t := false) (by simp [Act.eval, Array.replicate]) ?_
  simp only [Bool.false_eq_true, if_false]
  refine wpS_of_wp (wp_skip ?_)
  cases c₀
  simp_all [bodyPostS, results, Tryz.results43]

set_option maxRecDepth 100000 in
theorem catch_panicking (g k : Nat) (v1 v2 : Value) (b : Bool) (pv : Value) (u : TypeId) (w : World) (hA : PfM w g v1 v2) (hB : w.heap[k]? = some (.cells #[.bool b] 4 (0, 0))) (hne : g ≠ k) :
    CallsD Tryz.prog 43 #[.pointer (some ⟨g, 0, none⟩), .pointer (some ⟨k, 0, none⟩)] (.panicking [{ v := .iface u pv, recovered := false }]) w fun e u' w' => e = .returned (.tuple #[]) ∧ u' = .panicking [{ v := .iface u pv, recovered := true }] ∧ w' = (w.setRow g #[.slice none 0 0, .slice none 0 0]).setCell ⟨k, 0, none⟩ (.bool false) := by
  refine callsD_of_wpS Tryz.func43 rfl fun c₀ cs hu => ?_
  apply wpS_seq
  apply wpS_region
  simp [wpOpsS, go_sem, recoverD, hu, Tryz.ntmps43, Exit.thenS]
  refine wpS_cond (t := true) (by simp [Act.eval, Array.replicate]) ?_
  simp only [if_true]
  refine wpS_of_wp ?_
  have e : (#[Value.pointer (some { block := g, off := 0 }), Value.pointer (some { block := k, off := 0 })] ++ ((Array.replicate 3 undef).setIfInBounds 0 (Value.iface u pv)).setIfInBounds 1 (Value.bool true)) = #[Value.pointer (some { block := g, off := 0 }), Value.pointer (some { block := k, off := 0 }), Value.iface u pv, Value.bool true, undef] := rfl
  rw [e]
  have hB2 : (w.setRow g #[.slice none 0 0, .slice none 0 0]).heap[k]? = some (.cells #[.bool b] 4 (0, 0)) := (setRow_other w g k _ (Ne.symm hne)).trans hB
  have c0 : (w.setRow g #[.slice none 0 0, .slice none 0 0]).cell? ⟨k, 0, none⟩ = some (.bool b) := by rw [cell_of_row _ k 0 _ _ _ hB2]; rfl
  have f0 : (w.setRow g #[.slice none 0 0, .slice none 0 0]).frozen? ⟨k, 0, none⟩ = false := by simp [World.frozen?, hB2]
  go_wp2_with (refine wp_storePf rfl _ _ rfl g _ _ (.slice none 0 0) (.slice none 0 0) hA rfl rfl rfl rfl ?_; intro hfin)
  exact ⟨rfl, _, rfl, .tuple #[], by simp [results, Tryz.results43], rfl, rfl, rfl⟩

set_option maxRecDepth 100000 in
set_option maxHeartbeats 1000000 in
theorem ReadProof_wide (s : ByteArray) (x : Int) (w : World) (hx : ¬ (1 ≤ x ∧ x ≤ 32)) :
    Calls Tryz.prog 12 #[.string s, .int .i64 x] w fun e w' => e = .returned (.tuple #[.agg #[.slice none 0 0, .slice none 0 0], .bool false]) ∧ Below w.heap.size w w' := by
  have q1 : decide (1 ≤ x ∧ x ≤ 32) = false := decide_eq_false hx
  have hmf : ∀ (fn : Fn) (first cap : Array Value) (w : World), (Instr.makeFunc fn first cap).run Tryz.prog w = .ok (.func fn first cap) w := fun _ _ _ _ => rfl
  go_enter_defers Tryz.func12, Tryz.ntmps12
  go_wp2_with fail
  refine (widthOk_any _ _).mono ?_
  rintro e w1 ⟨rfl, hw1⟩
  subst hw1
  rw [q1]
  go_wp2
  have hba : Below w.heap.size w ((w.alloc (.cells #[.slice none 0 0, .slice none 0 0] 29)).alloc (.cells #[.bool false] 4)) := ((Below.refl _ _).alloc (Nat.le_refl _) _).alloc (by simp) _
  have hA := PfM.later (PfM.new w (.slice none 0 0) (.slice none 0 0)) ((Below.refl _ _).alloc (Nat.le_refl _) (.cells #[.bool false] 4))
  have hB : ((w.alloc (.cells #[.slice none 0 0, .slice none 0 0] 29)).alloc (.cells #[.bool false] 4)).cell? ⟨w.heap.size + 1, 0, none⟩ = some (.bool false) := by simp
  unfold bodyPostD
  dsimp only
  refine leaves_done w.heap.size (w.heap.size + 1) _ _ false (by rfl) (by rfl) (by rfl) hA hB ?_
  exact ⟨rfl, hba⟩

set_option maxRecDepth 100000 in
theorem door_panic {fn : Func} {tmps : Array Value} {R : Ending → World → Prop} {W : World} (g k : Nat) (v1 v2 : Value) (b : Bool) (hres : fn.results = #[.cell 4 29, .cell 5 4]) (hp : tmps.getD 4 undef = .pointer (some ⟨g, 0, none⟩)) (hk : tmps.getD 5 undef = .pointer (some ⟨k, 0, none⟩)) (hA : PfM W g v1 v2) (hB : W.heap[k]? = some (.cells #[.bool b] 4 (0, 0))) (hne : g ≠ k)
    (h : R (.returned (.tuple #[.agg #[.slice none 0 0, .slice none 0 0], .bool false])) ((W.setRow g #[.slice none 0 0, .slice none 0 0]).setCell ⟨k, 0, none⟩ (.bool false))) : Leaves Tryz.prog fn tmps R [{ target := .fn (.func 43) #[.pointer (some ⟨g, 0, none⟩), .pointer (some ⟨k, 0, none⟩)], args := #[] }] (.panicking [unR]) W := by
  refine leaves_cons (f := 43) (args := #[.pointer (some ⟨g, 0, none⟩), .pointer (some ⟨k, 0, none⟩)]) (by simp) (by simp [go_sem]) ?_
  refine (catch_panicking g k v1 v2 b _ _ W hA hB hne).mono ?_
  rintro e u' w'' ⟨rfl, rfl, rfl⟩
  have hB2 : (W.setRow g #[.slice none 0 0, .slice none 0 0]).heap[k]? = some (.cells #[.bool b] 4 (0, 0)) := (setRow_other W g k _ (Ne.symm hne)).trans hB
  have hA2 : PfM (W.setRow g #[.slice none 0 0, .slice none 0 0]) g (.slice none 0 0) (.slice none 0 0) := setRow_heap W g _ _ _ _ hA
  have hB3 := heap_setCell_same (W.setRow g #[.slice none 0 0, .slice none 0 0]) k 0 _ _ (.bool false) hB2
  show Leaves _ _ _ _ [] .returning _
  refine leaves_done g k _ _ false hres hp hk (hA2.keep ((grown_setC _ k 0 _).block g hA2.lt (by simp; exact hne))) ?_ h
  rw [cell_of_row _ k 0 _ _ _ hB3]
  rfl

set_option maxRecDepth 100000 in
theorem door_ret {fn : Func} {tmps : Array Value} {R : Ending → World → Prop} {W : World} (g k : Nat) (v1 v2 : Value) (b : Bool) (hres : fn.results = #[.cell 4 29, .cell 5 4]) (hp : tmps.getD 4 undef = .pointer (some ⟨g, 0, none⟩)) (hk : tmps.getD 5 undef = .pointer (some ⟨k, 0, none⟩)) (hA : PfM W g v1 v2) (hB : W.cell? ⟨k, 0, none⟩ = some (.bool b))
    (h : R (.returned (.tuple #[.agg #[v1, v2], .bool b])) W) : Leaves Tryz.prog fn tmps R [{ target := .fn (.func 43) #[.pointer (some ⟨g, 0, none⟩), .pointer (some ⟨k, 0, none⟩)], args := #[] }] .returning W := by
  refine leaves_cons (f := 43) (args := #[.pointer (some ⟨g, 0, none⟩), .pointer (some ⟨k, 0, none⟩)]) (by simp) (by simp [go_sem]) ?_
  refine (catch_idle g k W).mono ?_
  rintro e u' w'' ⟨rfl, rfl, rfl⟩
  show Leaves _ _ _ _ [] .returning _
  exact leaves_done g k _ _ b hres hp hk hA hB h

/-- what stands when the reader begins: the proof, the word, the reader -/
theorem boxes3 (w : World) (s : ByteArray) : ∀ W, W = ((w.alloc (.cells #[.slice none 0 0, .slice none 0 0] 29)).alloc (.cells #[.bool false] 4)).alloc (.cells #[.string s, .int .i64 0] 68) → PfM W w.heap.size (.slice none 0 0) (.slice none 0 0) ∧ W.heap[w.heap.size + 1]? = some (.cells #[.bool false] 4 (0, 0)) ∧ Rd W (w.heap.size + 1 + 1) s 0 ∧ Below w.heap.size w W ∧ W.heap.size = w.heap.size + 3 := fun W hW => by
  subst hW
  have n0 := PfM.new w (.slice none 0 0) (.slice none 0 0)
  have b0 : Below w.heap.size w (w.alloc (.cells #[.slice none 0 0, .slice none 0 0] 29)) := (Below.refl _ _).alloc (Nat.le_refl _) _
  have z0 : (w.alloc (.cells #[.slice none 0 0, .slice none 0 0] 29)).heap.size = w.heap.size + 1 := by simp
  generalize w.alloc (.cells #[.slice none 0 0, .slice none 0 0] 29) = W1 at *
  have n1 : (W1.alloc (.cells #[.bool false] 4)).heap[W1.heap.size]? = some (.cells #[.bool false] 4 (0, 0)) := Go.heap_alloc_new W1 _
  have b1 : Below W1.heap.size W1 (W1.alloc (.cells #[.bool false] 4)) := (Below.refl _ _).alloc (Nat.le_refl _) _
  have z1 : (W1.alloc (.cells #[.bool false] 4)).heap.size = w.heap.size + 1 + 1 := by simp [z0]
  rw [z0] at n1
  generalize W1.alloc (.cells #[.bool false] 4) = W2 at *
  have n2 : Rd (W2.alloc (.cells #[.string s, .int .i64 0] 68)) W2.heap.size s 0 := Go.heap_alloc_new W2 _
  have b2 : Below W2.heap.size W2 (W2.alloc (.cells #[.string s, .int .i64 0] 68)) := (Below.refl _ _).alloc (Nat.le_refl _) _
  rw [z1] at n2
  refine ⟨(n0.later b1).later b2, (b2.block _ (by omega)).trans n1, n2, (b0.trans (b1.mono b0.size)).trans (b2.mono (by omega)), by simp [z1]⟩

/-- what a text tells as a proof -/
noncomputable def rpOk (s : ByteArray) (x : Int) : Bool :=
  match LV.rawL s 0 with
  | none => false
  | some (l, q) => match M.readVar s.data.toList q with
    | none => false
    | some (n, p) => decide (1 ≤ x ∧ x ≤ 32) && LV.leavesB l && decide (n ≤ 8) && decide (p + n * x.toNat = s.size)
noncomputable def rpL (s : ByteArray) (x : Int) : List Le :=
  match LV.rawL s 0 with
  | none => []
  | some (l, q) => if rpOk s x then l else []
noncomputable def rpS (s : ByteArray) (x : Int) : List ByteArray :=
  match LV.rawL s 0 with
  | none => []
  | some (l, q) => match M.readVar s.data.toList q with
    | none => []
    | some (n, p) => if rpOk s x then sdp s x.toNat p n else []
theorem rp_no {s : ByteArray} {x : Int} (h : rpOk s x = false) : rpL s x = [] ∧ rpS s x = [] := by
  unfold rpL rpS
  rw [h]
  constructor
  · split <;> simp
  · split
    · rfl
    · split <;> simp

set_option maxRecDepth 100000 in
set_option maxHeartbeats 2000000 in
theorem ReadProof_any (s : ByteArray) (x : Int) (w : World) (hs : s.size ≤ 1048576) :
    Calls Tryz.prog 12 #[.string s, .int .i64 x] w (PvP (rpL s x) (rpS s x) (rpOk s x) w) := by
  by_cases hx0 : ¬ (1 ≤ x ∧ x ≤ 32)
  · have hx := hx0
    have h0 : rpOk s x = false := by
      unfold rpOk
      split
      · rfl
      · split
        · rfl
        · rw [decide_eq_false hx]; rfl
    rw [h0, (rp_no h0).1, (rp_no h0).2]
    refine (ReadProof_wide s x w hx).mono fun e w' ⟨he, hb⟩ => ?_
    rw [he]
    exact PvP.no hb
  have hx : 1 ≤ x ∧ x ≤ 32 := Classical.not_not.1 hx0
  clear hx0
  obtain ⟨y, rfl⟩ : ∃ y : Nat, x = (y : Int) := ⟨x.toNat, by omega⟩
  have hy : 1 ≤ y ∧ y ≤ 32 := by omega
  have q1 : decide (1 ≤ (y : Int) ∧ (y : Int) ≤ 32) = true := decide_eq_true hx
  have hmf : ∀ (fn : Fn) (first cap : Array Value) (w : World), (Instr.makeFunc fn first cap).run Tryz.prog w = .ok (.func fn first cap) w := fun _ _ _ _ => rfl
  obtain ⟨A0, B0, R0, b0, z0⟩ := boxes3 w s _ rfl
  obtain ⟨Q, hQ⟩ : ∃ Q, PvP (rpL s (y : Int)) (rpS s (y : Int)) (rpOk s (y : Int)) w = Q := ⟨_, rfl⟩
  have HQ : Hid (PvP (rpL s (y : Int)) (rpS s (y : Int)) (rpOk s (y : Int)) w = Q) := hQ
  rw [hQ]
  clear hQ hx
  go_enter_defers Tryz.func12, Tryz.ntmps12
  go_wp2_with fail
  refine (widthOk_any _ _).mono ?_
  rintro e w1 ⟨rfl, hw1⟩
  subst hw1
  rw [q1]
  obtain ⟨W0, hW0⟩ : ∃ W0, ((w.alloc (.cells #[.slice none 0 0, .slice none 0 0] 29)).alloc (.cells #[.bool false] 4)).alloc (.cells #[.string s, .int .i64 0] 68) = W0 := ⟨_, rfl⟩
  rw [hW0] at A0 B0 R0 b0 z0
  have HW0 : Hid (((w.alloc (.cells #[.slice none 0 0, .slice none 0 0] 29)).alloc (.cells #[.bool false] 4)).alloc (.cells #[.string s, .int .i64 0] 68) = W0) := hW0
  clear hW0
  have HNO : Hid (∀ W, rpOk s (y : Int) = false → Below w.heap.size w W → Q (.returned (.tuple #[.agg #[.slice none 0 0, .slice none 0 0], .bool false])) ((W.setRow w.heap.size #[.slice none 0 0, .slice none 0 0]).setCell ⟨w.heap.size + 1, 0, none⟩ (.bool false))) := fun W h0 hb => by
    rw [← HQ.out, h0, (rp_no h0).1, (rp_no h0).2]
    exact PvP.no ((below_row hb (Nat.le_refl _)).setCell (p := ⟨w.heap.size + 1, 0, none⟩) (by simp) _)
  by_cases hraw : LV.rawL s 0 = none ∨ ∃ l q, LV.rawL s 0 = some (l, q) ∧ LV.leavesB l = false
  · have h0 : rpOk s (y : Int) = false := by
      unfold rpOk
      rcases hraw with h | ⟨l, q, h, h2⟩
      · rw [h]
      · rw [h]
        dsimp only
        split
        · rfl
        · rw [h2]; simp
    have hlv := readerLeaves_no (w.heap.size + 1 + 1) 0 s W0 R0 hs (Nat.zero_le _) hraw
    rw [← HW0.out] at hlv
    clear HQ hraw
    go_wp2_with fail
    refine hlv.mono ?_
    rintro e w2 ⟨rfl, hb2⟩
    rw [HW0.out] at hb2
    have hA := A0.later hb2
    have hB : w2.heap[w.heap.size + 1]? = some (.cells #[.bool false] 4 (0, 0)) := (hb2.block _ (by omega)).trans B0
    have b2 := b0.trans (hb2.mono b0.size)
    clear hlv hb2 A0 B0 R0
    go_wp2
    unfold bodyPostD
    dsimp only
    refine door_panic w.heap.size (w.heap.size + 1) _ _ false (by rfl) (by rfl) (by rfl) hA hB (by omega) ?_
    exact HNO.out _ h0 b2
  have hex : ∃ l q, LV.rawL s 0 = some (l, q) ∧ LV.leavesB l = true := by
    cases h : LV.rawL s 0 with
    | none => exact absurd (.inl h) hraw
    | some z =>
      obtain ⟨l, q⟩ := z
      refine ⟨l, q, rfl, ?_⟩
      cases h2 : LV.leavesB l with
      | true => rfl
      | false => exact absurd (.inr ⟨l, q, h, h2⟩) hraw
  obtain ⟨l, q, hr, hl⟩ := hex
  clear hraw
  have hqs := (raw_text hr).1
  have HRP : Hid (∀ n p, M.readVar s.data.toList q = some (n, p) → rpOk s (y : Int) = (decide (n ≤ 8) && decide (p + n * y = s.size)) ∧ (rpOk s (y : Int) = true → rpL s (y : Int) = l ∧ rpS s (y : Int) = sdp s y p n)) := fun n p h => by
    have e1 : rpOk s (y : Int) = (decide (n ≤ 8) && decide (p + n * y = s.size)) := by
      unfold rpOk
      rw [hr]
      dsimp only
      rw [h]
      dsimp only
      rw [q1, hl, Int.toNat_natCast, Bool.true_and, Bool.true_and]
    refine ⟨e1, fun h2 => ?_⟩
    unfold rpL rpS
    rw [hr]
    dsimp only
    rw [h]
    dsimp only
    rw [h2, Int.toNat_natCast]
    exact ⟨rfl, rfl⟩
  have HRN : Hid (M.readVar s.data.toList q = none → rpOk s (y : Int) = false) := fun h => by
    unfold rpOk
    rw [hr]
    dsimp only
    rw [h]
  have hlv := readerLeaves_yes (w.heap.size + 1 + 1) 0 s l q W0 R0 hs (Nat.zero_le _) hr hl
  rw [← HW0.out] at hlv
  go_wp2_with fail
  refine hlv.mono ?_
  rintro e w2 ⟨gl, rfl, hrw2, hgl, hrd2, hg2⟩
  rw [HW0.out] at hg2 hgl
  have A2 : PfM w2 w.heap.size (.slice none 0 0) (.slice none 0 0) := A0.keep (hg2.block _ A0.lt (by simp; omega))
  have B2 : w2.heap[w.heap.size + 1]? = some (.cells #[.bool false] 4 (0, 0)) := (hg2.block _ (by omega) (by simp)).trans B0
  have b2 : Below w.heap.size w w2 := b0.grown hg2 b0.size (fun k hk => by simp at hk; omega)
  have s2 := hg2.size
  have c20 := A2.c0
  have f20 := A2.fr 0
  have hgr3 := grown_setC w2 w.heap.size 0 (.slice (some ⟨gl, 0, none⟩) l.length l.length)
  have A3 := A2.set0 (.slice (some ⟨gl, 0, none⟩) l.length l.length)
  have B3 := (hgr3.block (w.heap.size + 1) (by omega) (by simp)).trans B2
  have R3 := hrd2.grown hgr3 (by simp; omega)
  have b3 := b2.setCell (p := ⟨w.heap.size, 0, none⟩) (Nat.le_refl _) (.slice (some ⟨gl, 0, none⟩) l.length l.length)
  have w3 := hrw2.grown hgr3 (fun _ => by simp; omega)
  have z3 : (w2.setCell ⟨w.heap.size, 0, none⟩ (.slice (some ⟨gl, 0, none⟩) l.length l.length)).heap.size = w2.heap.size := by simp
  clear hlv A2 B2 b2 hrd2 hrw2 hg2 A0 B0 R0 b0 hgr3 hr hl
  go_wp2_with fail
  generalize w2.setCell ⟨w.heap.size, 0, none⟩ (.slice (some ⟨gl, 0, none⟩) l.length l.length) = W3 at *
  by_cases hvar : M.readVar s.data.toList q = none ∨ ∃ n p, M.readVar s.data.toList q = some (n, p) ∧ 8 < n
  · have h0 : rpOk s (y : Int) = false := by
      rcases hvar with h | ⟨n, p, h, h8⟩
      · exact HRN.out h
      · rw [(HRP.out n p h).1, decide_eq_false (by omega)]
        rfl
    refine (readerSides_no (w.heap.size + 1 + 1) q s y W3 R3 hs hqs hvar).mono ?_
    rintro e w4 ⟨rfl, hg4⟩
    have hA := A3.keep (hg4.block _ A3.lt (by simp; omega))
    have hB : w4.heap[w.heap.size + 1]? = some (.cells #[.bool false] 4 (0, 0)) := (hg4.block _ (by omega) (by simp)).trans B3
    have b4 : Below w.heap.size w w4 := b3.grown hg4 b3.size (fun k hk => by simp at hk; omega)
    clear hvar hg4 A3 B3 R3 HRN HRP HQ
    go_wp2
    unfold bodyPostD
    dsimp only
    refine door_panic w.heap.size (w.heap.size + 1) _ _ false (by rfl) (by rfl) (by rfl) hA hB (by omega) ?_
    exact HNO.out _ h0 b4
  have hex : ∃ n p, M.readVar s.data.toList q = some (n, p) ∧ n ≤ 8 := by
    cases h : M.readVar s.data.toList q with
    | none => exact absurd (.inl h) hvar
    | some z =>
      obtain ⟨n, p⟩ := z
      exact ⟨n, p, rfl, Nat.le_of_not_lt fun h2 => hvar (.inr ⟨n, p, h, h2⟩)⟩
  obtain ⟨n, p, hv, hn8⟩ := hex
  obtain ⟨hrp1, hrp2⟩ := HRP.out n p hv
  rw [decide_eq_true hn8, Bool.true_and] at hrp1
  refine (readerSides_yes (w.heap.size + 1 + 1) q s y n p W3 R3 hs hqs hy.2 hv hn8).mono ?_
  clear hvar HRN HRP hv
  by_cases hfit : p + n * y ≤ s.size
  · rintro e w4 ⟨hif, hg4⟩
    rw [if_pos hfit] at hif
    obtain ⟨g4, rfl, t4, hg4', r4⟩ := hif
    have A4 := A3.keep (hg4.block _ A3.lt (by simp; omega))
    have B4 : w4.heap[w.heap.size + 1]? = some (.cells #[.bool false] 4 (0, 0)) := (hg4.block _ (by omega) (by simp)).trans B3
    have b4 : Below w.heap.size w w4 := b3.grown hg4 b3.size (fun k hk => by simp at hk; omega)
    have s4 := hg4.size
    have c21 := A4.c1
    have f21 := A4.fr 1
    have hgr5 := grown_setC w4 w.heap.size 1 (.slice (some ⟨g4, 0, none⟩) n n)
    have A5 := A4.set1 (.slice (some ⟨g4, 0, none⟩) n n)
    have B5 := (hgr5.block (w.heap.size + 1) (by omega) (by simp)).trans B4
    have R5 := r4.grown hgr5 (by simp; omega)
    have b5 := b4.setCell (p := ⟨w.heap.size, 1, none⟩) (Nat.le_refl _) (.slice (some ⟨g4, 0, none⟩) n n)
    have w5 := (w3.grown hg4 (fun _ => by simp; omega)).grown hgr5 (fun _ => by simp; omega)
    have t5 := (t4.ts n n (sdp_len _ _ _ _) (by omega)).keptG hgr5 (fun _ => by simp; omega)
    have hglt : 0 < l.length → gl < W3.heap.size := w3.lt
    have z5 : (w4.setCell ⟨w.heap.size, 1, none⟩ (.slice (some ⟨g4, 0, none⟩) n n)).heap.size = w4.heap.size := by simp
    clear A4 B4 b4 r4 t4 hg4 hgr5 A3 B3 R3 b3 w3 c20 f20
    go_wp2_with fail
    generalize w4.setCell ⟨w.heap.size, 1, none⟩ (.slice (some ⟨g4, 0, none⟩) n n) = W5 at *
    by_cases hend : p + n * y = s.size
    · rw [hend] at R5
      refine (readerEnd_yes (w.heap.size + 1 + 1) s W5 R5).mono ?_
      rintro e w6 ⟨rfl, hb6⟩
      have A6 := A5.later hb6
      have B6 : w6.heap[w.heap.size + 1]? = some (.cells #[.bool false] 4 (0, 0)) := (hb6.block _ (by omega)).trans B5
      have b6 := b5.trans (hb6.mono b5.size)
      have w6' := w5.later hb6
      have t6 := t5.later hb6
      have hX : PfM (w6.setRow w.heap.size #[.slice (some ⟨gl, 0, none⟩) l.length l.length, .slice (some ⟨g4, 0, none⟩) n n]) w.heap.size (.slice (some ⟨gl, 0, none⟩) l.length l.length) (.slice (some ⟨g4, 0, none⟩) n n) := setRow_heap w6 _ _ _ _ _ A6
      have hgx := grown_setRowP w6 w.heap.size #[.slice (some ⟨gl, 0, none⟩) l.length l.length, .slice (some ⟨g4, 0, none⟩) n n]
      have B7 : (w6.setRow w.heap.size #[.slice (some ⟨gl, 0, none⟩) l.length l.length, .slice (some ⟨g4, 0, none⟩) n n]).heap[w.heap.size + 1]? = some (.cells #[.bool false] 4 (0, 0)) := (setRow_other w6 _ _ _ (by omega)).trans B6
      have b7 := below_row (g := w.heap.size) (R := #[.slice (some ⟨gl, 0, none⟩) l.length l.length, .slice (some ⟨g4, 0, none⟩) n n]) b6 (Nat.le_refl _)
      have w7 := w6'.grown hgx (fun _ => by simp; omega)
      have t7 := t6.keptG hgx (fun _ => by simp; omega)
      have d60 : (w6.setRow w.heap.size #[.slice (some ⟨gl, 0, none⟩) l.length l.length, .slice (some ⟨g4, 0, none⟩) n n]).cell? ⟨w.heap.size + 1, 0, none⟩ = some (.bool false) := by rw [cell_of_row _ _ 0 _ _ _ B7]; rfl
      have f60 : (w6.setRow w.heap.size #[.slice (some ⟨gl, 0, none⟩) l.length l.length, .slice (some ⟨g4, 0, none⟩) n n]).frozen? ⟨w.heap.size + 1, 0, none⟩ = false := by simp [World.frozen?, B7]
      have HY : Hid (rpOk s (y : Int) = true ∧ rpL s (y : Int) = l ∧ rpS s (y : Int) = sdp s y p n) := by
        have h1 : rpOk s (y : Int) = true := by rw [hrp1, decide_eq_true hend]
        exact ⟨h1, hrp2 h1⟩
      clear A5 B5 R5 b5 w5 t5 hb6 c21 f21 hrp1 hrp2
      go_wp2_with (first | (refine wp_loadPf rfl _ rfl w.heap.size _ _ rfl A6 ?_) | (refine wp_storePf rfl _ _ rfl w.heap.size _ _ _ _ A6 rfl rfl rfl rfl ?_; intro hfin))
      generalize w6.setRow w.heap.size #[.slice (some ⟨gl, 0, none⟩) l.length l.length, .slice (some ⟨g4, 0, none⟩) n n] = W7 at *
      have hgy := grown_setC W7 (w.heap.size + 1) 0 (.bool true)
      have hBF := heap_setCell_same W7 (w.heap.size + 1) 0 _ _ (.bool true) B7
      have hlx := w7.lt
      unfold bodyPostD
      dsimp only
      refine door_ret w.heap.size (w.heap.size + 1) _ _ true (by rfl) (by rfl) (by rfl) (hX.keep (hgy.block _ hX.lt (by simp))) (by rw [cell_of_row _ _ 0 _ _ _ hBF]; rfl) ?_
      rw [← HQ.out, HY.out.1, HY.out.2.1, HY.out.2.2]
      refine ⟨_, l.length, _, n, gl, g4, by rw [sdp_len], w7.grown hgy (fun _ => by simp; omega), by rw [sdp_len]; exact t7.keptG hgy (fun _ => by simp; omega), by omega, by omega, ⟨fun h1 _ => by have := hglt h1; omega, by rw [sdp_len]; exact Nat.le_refl _⟩, b7.setCell (p := ⟨w.heap.size + 1, 0, none⟩) (by simp) _⟩
    · have h0 : rpOk s (y : Int) = false := by rw [hrp1, decide_eq_false hend]
      refine (readerEnd_no (w.heap.size + 1 + 1) _ s W5 R5 hend).mono ?_
      rintro e w6 ⟨rfl, hb6⟩
      have hA := A5.later hb6
      have hB : w6.heap[w.heap.size + 1]? = some (.cells #[.bool false] 4 (0, 0)) := (hb6.block _ (by omega)).trans B5
      have b6 := b5.trans (hb6.mono b5.size)
      clear A5 B5 R5 b5 w5 t5 hb6 c21 f21 HQ
      go_wp2
      unfold bodyPostD
      dsimp only
      refine door_panic w.heap.size (w.heap.size + 1) _ _ false (by rfl) (by rfl) (by rfl) hA hB (by omega) ?_
      exact HNO.out _ h0 b6
  · rintro e w4 ⟨hif, hg4⟩
    rw [if_neg hfit] at hif
    subst hif
    have h0 : rpOk s (y : Int) = false := by rw [hrp1, decide_eq_false (by omega)]
    have hA := A3.keep (hg4.block _ A3.lt (by simp; omega))
    have hB : w4.heap[w.heap.size + 1]? = some (.cells #[.bool false] 4 (0, 0)) := (hg4.block _ (by omega) (by simp)).trans B3
    have b4 : Below w.heap.size w w4 := b3.grown hg4 b3.size (fun k hk => by simp at hk; omega)
    clear hg4 A3 B3 R3 HQ
    go_wp2
    unfold bodyPostD
    dsimp only
    refine door_panic w.heap.size (w.heap.size + 1) _ _ false (by rfl) (by rfl) (by rfl) hA hB (by omega) ?_
    exact HNO.out _ h0 b4

end Go.Proofs.YtojadcjoniejaaaGreatDoor
