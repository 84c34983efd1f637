/-
  The specification's reader: what it takes of a text for a proof's sides.
-/
import Derived.Test.YtfojmagcoipbnaaLz
import Derived.Test.YtfojmagcoipbnaaRshort
import Derived.StillTailTactics
namespace Go.Proofs.Ytfojmagcoipbnaa
open Go.RowKit Go.BigFrame Go.Sort
set_option linter.unusedVariables false
set_option linter.unusedSimpArgs false

/-- a number that is read, or why not -/
theorem sReadVar_at (s : ByteArray) (p : Nat) (w : World) (hs : s.size ≤ 1048576) (hp : p ≤ s.size) :
    ∃ n q b, Calls Try.prog 89 #[.string s, .int .i64 (p : Int)] w fun e w' => e = .returned (.tuple #[.int .i64 n, .int .i64 q, .bool b]) ∧ Below w.heap.size w w' := by
  cases hr : M.readVar s.data.toList p with
  | none => exact ⟨0, 0, false, sReadVar_none s (p : Int) w hs (.inr ⟨by omega, by simpa using hr⟩)⟩
  | some z => obtain ⟨n, q⟩ := z; exact ⟨n, q, true, sReadVar_some s (p : Int) n q w hs (by omega) (by simpa using hr)⟩

set_option maxRecDepth 100000 in
set_option maxHeartbeats 1000000 in
theorem l09Var_bad (c : Nat) (s : ByteArray) (p : Nat) (w : World) (h : Cu w c s p true) (hs : s.size ≤ 1048576) (hp : p ≤ s.size) :
    Calls Try.prog 44 #[.pointer (some ⟨c, 0, none⟩)] w fun e w' => (e = .returned (.int .i64 0) ∧ Cu w' c s p true) ∧ w.grownBy w' (some c) := by
  have c0 := h.c0
  have c1 := h.c1
  have H : Hid (Cu w c s p true) := h
  have hcl := h.lt
  clear h
  have HX : Hid (∃ (n q : Int) (b : Bool), ∀ W, Calls Try.prog 89 #[.string s, .int .i64 (p : Int)] W fun e w' => e = .returned (.tuple #[.int .i64 n, .int .i64 q, .bool b]) ∧ Below W.heap.size W w') := by
    show ∃ (n q : Int) (b : Bool), ∀ W, Calls Try.prog 89 #[.string s, .int .i64 (p : Int)] W fun e w' => e = .returned (.tuple #[.int .i64 n, .int .i64 q, .bool b]) ∧ Below W.heap.size W w'
    cases hr : M.readVar s.data.toList p with
    | none => exact ⟨0, 0, false, fun W => sReadVar_none s (p : Int) W hs (.inr ⟨by omega, by simpa using hr⟩)⟩
    | some z => obtain ⟨n, q⟩ := z; exact ⟨n, q, true, fun W => sReadVar_some s (p : Int) n q W hs (by omega) (by simpa using hr)⟩
  obtain ⟨n, q, b, h1⟩ := HX.out
  have H1 : Hid (∀ W, Calls Try.prog 89 #[.string s, .int .i64 (p : Int)] W fun e w' => e = .returned (.tuple #[.int .i64 n, .int .i64 q, .bool b]) ∧ Below W.heap.size W w') := h1
  clear HX h1
  go_enter Try.func44, Try.ntmps44
  go_wp2
  have kq0 := cell_regrown (w := w) c0
  have kq1 := cell_regrown (w := w) c1
  have cq0 := fun d os => Calls.regrown_of (w := w) (d := d) (os := os) (H1.out _)
  refine wp_region_quiet_below (by kernel_rfl) (by kernel_rfl) ?_
  repeat (go_big_quiet_step (first | with_reducible exact cq0 _ _))
  refine wpQuiet_nil ?_
  rintro _ ⟨⟨dq, osq⟩, rfl⟩
  have hb6 := below_regrown (w) dq osq
  generalize grow (redrawn (w) dq) osq = w6 at *
  clear kq0 kq1 cq0
  have h6 := H.out.later hb6
  have d2 := h6.c2
  have g2 := h6.f2
  have hcl6 := h6.lt
  have HF : Hid (Cu (w6.setCell ⟨c, 2, none⟩ (.bool true)) c s p true ∧ w.grownBy (w6.setCell ⟨c, 2, none⟩ (.bool true)) (some c)) := ⟨h6.bad, (grown_below hb6).trans (grown_setC w6 c 2 _)⟩
  clear h6 hb6 H H1 c0 c1
  go_wp2
  go_ret
  exact ⟨⟨rfl, HF.out.1⟩, HF.out.2⟩

set_option maxRecDepth 100000 in
set_option maxHeartbeats 1000000 in
theorem l09Take_no (c : Nat) (s : ByteArray) (p : Nat) (b : Bool) (x : Int) (w : World) (h : Cu w c s p b) (hs : s.size ≤ 1048576) (hp : p ≤ s.size) (hno : b = true ∨ x < 0 ∨ (s.size : Int) - (p : Int) < x) :
    Calls Try.prog 45 #[.pointer (some ⟨c, 0, none⟩), .int .i64 x] w fun e w' => (e = .returned (.string ⟨#[]⟩) ∧ Cu w' c s p true) ∧ w.grownBy w' (some c) := by
  have c0 := h.c0
  have c1 := h.c1
  have c2 := h.c2
  have hcl := h.lt
  have HH : Hid (Cu w c s p b) := h
  clear h
  cases b with
  | true =>
    clear hno
    go_enter Try.func45, Try.ntmps45
    go_wp2
    go_quiet (fail)
    have h6 : Cu (w.drewN nq) c s p true := HH.out
    have hgw : w.grownBy (w.drewN nq) (some c) := grown_below (below_drn (Below.refl _ _) nq)
    generalize w.drewN nq = wd at *
    have d2 := h6.c2
    have g2 := h6.f2
    have hl6 := h6.lt
    have HF : Hid (Cu (wd.setCell ⟨c, 2, none⟩ (.bool true)) c s p true ∧ w.grownBy (wd.setCell ⟨c, 2, none⟩ (.bool true)) (some c)) := ⟨h6.bad, hgw.trans (grown_setC wd c 2 _)⟩
    clear h6 hgw HH
    go_wp2
    go_ret
    exact ⟨⟨rfl, HF.out.1⟩, HF.out.2⟩
  | false =>
    by_cases hx : x < 0
    · have qx : decide (x < 0) = true := decide_eq_true hx
      clear hno
      go_enter Try.func45, Try.ntmps45
      go_wp2
      go_quiet (fail)
      have h6 : Cu (w.drewN nq) c s p false := HH.out
      have hgw : w.grownBy (w.drewN nq) (some c) := grown_below (below_drn (Below.refl _ _) nq)
      generalize w.drewN nq = wd at *
      have d2 := h6.c2
      have g2 := h6.f2
      have hl6 := h6.lt
      have HF : Hid (Cu (wd.setCell ⟨c, 2, none⟩ (.bool true)) c s p true ∧ w.grownBy (wd.setCell ⟨c, 2, none⟩ (.bool true)) (some c)) := ⟨h6.bad, hgw.trans (grown_setC wd c 2 _)⟩
      clear h6 hgw HH
      go_wp2
      go_ret
      exact ⟨⟨rfl, HF.out.1⟩, HF.out.2⟩
    · have h3 : (s.size : Int) - (p : Int) < x := by
        rcases hno with h | h | h
        · cases h
        · exact absurd h hx
        · exact h
      have qx : decide (x < 0) = false := decide_eq_false hx
      have q3 : decide ((s.size : Int) - (p : Int) < x) = true := decide_eq_true h3
      clear hno
      go_enter Try.func45, Try.ntmps45
      go_wp2
      go_quiet (fail)
      have h6 : Cu (w.drewN nq) c s p false := HH.out
      have hgw : w.grownBy (w.drewN nq) (some c) := grown_below (below_drn (Below.refl _ _) nq)
      generalize w.drewN nq = wd at *
      have d2 := h6.c2
      have g2 := h6.f2
      have hl6 := h6.lt
      have HF : Hid (Cu (wd.setCell ⟨c, 2, none⟩ (.bool true)) c s p true ∧ w.grownBy (wd.setCell ⟨c, 2, none⟩ (.bool true)) (some c)) := ⟨h6.bad, hgw.trans (grown_setC wd c 2 _)⟩
      clear h6 hgw HH
      go_wp2
      go_ret
      exact ⟨⟨rfl, HF.out.1⟩, HF.out.2⟩

set_option maxRecDepth 100000 in
set_option maxHeartbeats 1000000 in
theorem l09Take_yes (c : Nat) (s : ByteArray) (p y : Nat) (w : World) (h : Cu w c s p false) (hs : s.size ≤ 1048576) (hp : p + y ≤ s.size) :
    Calls Try.prog 45 #[.pointer (some ⟨c, 0, none⟩), .int .i64 (y : Int)] w fun e w' => (e = .returned (.string (piece s p y)) ∧ Cu w' c s (p + y) false) ∧ w.grownBy w' (some c) := by
  have c0 := h.c0
  have c1 := h.c1
  have c2 := h.c2
  have hcl := h.lt
  have HH : Hid (Cu w c s p false) := h
  have hpc := run_piece s p y hp
  have e1 : ((p + y : Nat) : Int) = (p : Int) + (y : Int) := by omega
  have qx : decide ((y : Int) < 0) = false := decide_eq_false (by omega)
  have q3 : decide ((s.size : Int) - (p : Int) < (y : Int)) = false := decide_eq_false (by omega)
  clear h
  go_enter Try.func45, Try.ntmps45
  go_wp2
  go_quiet (fail)
  have h6 : Cu (w.drewN nq) c s p false := HH.out
  have hgw : w.grownBy (w.drewN nq) (some c) := grown_below (below_drn (Below.refl _ _) nq)
  generalize w.drewN nq = wd at *
  have d1 := h6.c1
  have g1 := h6.f1
  have hl6 := h6.lt
  have hC : Cu (wd.setCell ⟨c, 1, none⟩ (.int .i64 ((p + y : Nat) : Int))) c s (p + y) false := h6.at (p + y)
  rw [e1] at hC
  have HF : Hid (Cu (wd.setCell ⟨c, 1, none⟩ (.int .i64 ((p : Int) + (y : Int)))) c s (p + y) false ∧ w.grownBy (wd.setCell ⟨c, 1, none⟩ (.int .i64 ((p : Int) + (y : Int)))) (some c)) := ⟨hC, hgw.trans (grown_setC wd c 1 _)⟩
  have k0 := hC.c0
  have k1 := hC.c1
  rw [e1] at k1
  have e2 : (p : Int) + (y : Int) - (y : Int) = (p : Int) := by omega
  clear h6 hgw hC HH c0 c1 c2
  go_wp2
  generalize wd.setCell ⟨c, 1, none⟩ (.int .i64 ((p : Int) + (y : Int))) = we at *
  go_quiet (fail)
  have HG : Hid (∀ n, Cu (we.drewN n) c s (p + y) false ∧ w.grownBy (we.drewN n) (some c)) := fun n => ⟨HF.out.1, HF.out.2.trans (grown_below (below_drn (Below.refl _ _) n))⟩
  go_wp2
  go_ret
  exact ⟨⟨rfl, (HG.out _).1⟩, (HG.out _).2⟩

end Go.Proofs.Ytfojmagcoipbnaa
