/-
  The reader of a proof: the next bytes.
-/
import Derived.Test.YtfojmagcoipbnaaRw
import Derived.Test.YtfojmagcoipbnaaShelf
import Derived.StillTailTactics
namespace Go.Proofs.Ytfojmagcoipbnaa
open Go.RowKit Go.BigFrame Go.Sort
set_option linter.unusedVariables false
set_option linter.unusedSimpArgs false

set_option maxRecDepth 100000 in
set_option maxHeartbeats 1000000 in
theorem readerPiece_no (c p : Nat) (s : ByteArray) (x : Nat) (w : World) (h : Rd w c s p) (hs : s.size ≤ 1048576) (hp : p ≤ s.size) (hx : x ≤ 4096) (hno : s.size < p + x) :
    Calls Try.prog 93 #[.pointer (some ⟨c, 0, none⟩), .int .i64 (x : Int)] w fun e w' => e = .panicked [unR] ∧ Below w.heap.size w w' := by
  have c0 := h.c0
  have c1 := h.c1
  go_enter Try.func93, Try.ntmps93
  have d0 : w.drew.cell? ⟨c, 0, none⟩ = some (.string s) := c0
  have d1 : w.drew.cell? ⟨c, 1, none⟩ = some (.int .i64 (p : Int)) := c1
  have wr1 : IntKind.i64.wrap ((s.size : Int) - (p : Int)) = (s.size : Int) - (p : Int) := IntWalk.i64_in _ (by omega)
  have q1 : decide ((x : Int) ≤ (s.size : Int) - (p : Int)) = false := decide_eq_false (by omega)
  clear h
  go_wp2
  go_still_tail 13, (by kernel_rfl)
  go_wp2_with fail
  refine (want_no _ _).mono ?_
  rintro e w2 ⟨rfl, rfl⟩
  go_wp2
  exact ⟨rfl, rfl, (Below.refl _ _).drew⟩

set_option maxRecDepth 100000 in
set_option maxHeartbeats 1000000 in
theorem readerPiece_yes (c p : Nat) (s : ByteArray) (x : Nat) (w : World) (h : Rd w c s p) (hs : s.size ≤ 1048576) (hx : x ≤ 4096) (hyes : p + x ≤ s.size) :
    Calls Try.prog 93 #[.pointer (some ⟨c, 0, none⟩), .int .i64 (x : Int)] w fun e w' => e = .returned (.string (piece s p x)) ∧ Rd w' c s (p + x) ∧ w.grownBy w' (some c) := by
  have c0 := h.c0
  have c1 := h.c1
  have hpc := run_piece s p x hyes
  have hps := piece_size s p x
  have HR : Hid (Rd w c s p) := h
  have hlt := h.lt
  go_enter Try.func93, Try.ntmps93
  have d0 : w.drew.cell? ⟨c, 0, none⟩ = some (.string s) := c0
  have d1 : w.drew.cell? ⟨c, 1, none⟩ = some (.int .i64 (p : Int)) := c1
  have wr1 : IntKind.i64.wrap ((s.size : Int) - (p : Int)) = (s.size : Int) - (p : Int) := IntWalk.i64_in _ (by omega)
  have q1 : decide ((x : Int) ≤ (s.size : Int) - (p : Int)) = true := decide_eq_true (by omega)
  clear h
  go_wp2
  go_still_tail 13, (by kernel_rfl)
  go_wp2_with fail
  refine (want_yes _ _).mono ?_
  rintro e w2 ⟨rfl, hw2⟩
  subst hw2
  have f1 : w.drew.frozen? ⟨c, 1, none⟩ = false := HR.out.f1
  have H2 : Hid (Rd (w.setCell ⟨c, 1, none⟩ (.int .i64 ((p + x : Nat) : Int))).drew c s (p + x) ∧ w.grownBy (w.setCell ⟨c, 1, none⟩ (.int .i64 ((p + x : Nat) : Int))).drew (some c)) := ⟨Rd.later (HR.out.at (p + x)) (Below.refl _ _).drew, (grown_setC w c 1 _).trans (grown_below (Below.refl _ _).drew)⟩
  have e1 : ((p + x : Nat) : Int) = (p : Int) + (x : Int) := by omega
  rw [e1] at H2
  go_wp2
  generalize (w.setCell ⟨c, 1, none⟩ (.int .i64 ((p : Int) + (x : Int)))).drew = W2 at *
  have g0 : W2.drew.cell? ⟨c, 0, none⟩ = some (.string s) := H2.out.1.c0
  have g1 : W2.drew.cell? ⟨c, 1, none⟩ = some (.int .i64 ((p : Int) + (x : Int))) := by have := H2.out.1.c1; rw [e1] at this; exact this
  go_still_tail 10, (by kernel_rfl)
  go_wp2_with fail
  refine (Clone_any _ _ (by omega)).mono ?_
  rintro e w3 ⟨rfl, hb3⟩
  have HF : Hid (Rd w3 c s (p + x) ∧ w.grownBy w3 (some c)) := ⟨(Rd.later (W' := W2.drew) H2.out.1 (Below.refl _ _).drew).later hb3, (H2.out.2.trans (grown_below (Below.refl _ _).drew)).trans (grown_below hb3)⟩
  clear H2 g0 g1 hb3 d0 d1 c0 c1
  go_wp2
  go_ret
  exact ⟨rfl, HF.out⟩

end Go.Proofs.Ytfojmagcoipbnaa
