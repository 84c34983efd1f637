/-
  The specification's reader: a number, where the reader has failed before.
-/
import Derived.Test.YtodibhiinfbhiaaDoorSh
import Derived.Lib.QuietBelow
namespace Go.Proofs.YtodibhiinfbhiaaDoor
open Go.RowKit Go.BigFrame Go.Sort
set_option linter.unusedVariables false
set_option linter.unusedSimpArgs false

set_option maxRecDepth 100000 in
set_option maxHeartbeats 1000000 in
theorem l09Var_bad (c : Nat) (s : ByteArray) (p : Nat) (w : World) (h : Cu w c s p true) (hs : s.size ≤ 1048576) (hp : p ≤ s.size) :
    Calls Tryd.prog 36 #[.pointer (some ⟨c, 0, none⟩)] w fun e w' => (e = .returned (.int .i64 0) ∧ Cu w' c s p true) ∧ w.grownBy w' (some c) := by
  have c0 := h.c0
  have c1 := h.c1
  have H : Hid (Cu w c s p true) := h
  have hcl := h.lt
  clear h
  have HX : Hid (∃ (n q : Int) (b : Bool), ∀ W, Calls Tryd.prog 51 #[.string s, .int .i64 (p : Int)] W fun e w' => e = .returned (.tuple #[.int .i64 n, .int .i64 q, .bool b]) ∧ Below W.heap.size W w') := by
    show ∃ (n q : Int) (b : Bool), ∀ W, Calls Tryd.prog 51 #[.string s, .int .i64 (p : Int)] W fun e w' => e = .returned (.tuple #[.int .i64 n, .int .i64 q, .bool b]) ∧ Below W.heap.size W w'
    cases hr : M.readVar s.data.toList p with
    | none => exact ⟨0, 0, false, fun W => sReadVar_none s (p : Int) W hs (.inr ⟨by omega, by simpa using hr⟩)⟩
    | some z => obtain ⟨n, q⟩ := z; exact ⟨n, q, true, fun W => sReadVar_some s (p : Int) n q W hs (by omega) (by simpa using hr)⟩
  obtain ⟨n, q, b, h1⟩ := HX.out
  have H1 : Hid (∀ W, Calls Tryd.prog 51 #[.string s, .int .i64 (p : Int)] W fun e w' => e = .returned (.tuple #[.int .i64 n, .int .i64 q, .bool b]) ∧ Below W.heap.size W w') := h1
  clear HX h1
  go_enter Tryd.func36, Tryd.ntmps36
  go_wp2
  have kq0 := cell_regrown (w := w) c0
  have kq1 := cell_regrown (w := w) c1
  have cq0 := fun d os => Calls.regrown_of (w := w) (d := d) (os := os) (H1.out _)
  refine wp_region_quiet_below (by kernel_rfl) (by kernel_rfl) ?_
  repeat (go_big_quiet_step (first | with_reducible exact cq0 _ _))
  refine wpQuiet_nil ?_
  rintro _ ⟨⟨dq, osq⟩, rfl⟩
  have hb6 := below_regrown (w) dq osq
  generalize grow (redrawn (w) dq) osq = w6 at *
  clear kq0 kq1 cq0
  have h6 := H.out.later hb6
  have d2 := h6.c2
  have g2 := h6.f2
  have hcl6 := h6.lt
  have HF : Hid (Cu (w6.setCell ⟨c, 2, none⟩ (.bool true)) c s p true ∧ w.grownBy (w6.setCell ⟨c, 2, none⟩ (.bool true)) (some c)) := ⟨h6.bad, (grown_below hb6).trans (grown_setC w6 c 2 _)⟩
  clear h6 hb6 H H1 c0 c1
  go_wp2
  go_ret
  exact ⟨⟨rfl, HF.out.1⟩, HF.out.2⟩

end Go.Proofs.YtodibhiinfbhiaaDoor
