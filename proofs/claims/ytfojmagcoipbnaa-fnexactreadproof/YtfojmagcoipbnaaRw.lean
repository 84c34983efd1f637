/-
  The reader of a proof: its text and its place, and what it wants.
-/
import Derived.Test.YtfojmagcoipbnaaPa
import Derived.Test.YtfojmagcoipbnaaPfm
import Derived.Test.YtfojmagcoipbnaaLr
import Derived.Tactics2
import Derived.Defers
import Derived.Recover
import Derived.WalkLawsBesides
import Derived.Lib.QuietBelow
namespace Go.Proofs.Ytfojmagcoipbnaa
open Go.RowKit Go.BigFrame Go.Sort
set_option linter.unusedVariables false
set_option linter.unusedSimpArgs false

/-- the block of a reader: its text and its place -/
def Rd (W : World) (c : Nat) (s : ByteArray) (p : Nat) : Prop := W.heap[c]? = some (.cells #[.string s, .int .i64 (p : Int)] 90 (0, 0))
section
variable {W W' : World} {c p : Nat} {s : ByteArray}
theorem Rd.lt (h : Rd W c s p) : c < W.heap.size := (Array.getElem?_eq_some_iff.1 h).1
theorem Rd.later (h : Rd W c s p) (hb : Below W.heap.size W W') : Rd W' c s p := (hb.block c h.lt).trans h
theorem Rd.grown {row : Option Nat} (h : Rd W c s p) (hg : W.grownBy W' row) (hne : some c ≠ row) : Rd W' c s p := (hg.block c h.lt hne).trans h
theorem Rd.c0 (h : Rd W c s p) : W.cell? ⟨c, 0, none⟩ = some (.string s) := by rw [cell_of_row W c 0 _ _ _ h]; rfl
theorem Rd.c1 (h : Rd W c s p) : W.cell? ⟨c, 1, none⟩ = some (.int .i64 (p : Int)) := by rw [cell_of_row W c 1 _ _ _ h]; rfl
theorem Rd.f1 (h : Rd W c s p) : W.frozen? ⟨c, 1, none⟩ = false := by simp [World.frozen?, show W.heap[c]? = _ from h]
theorem Rd.at (h : Rd W c s p) (q : Nat) : Rd (W.setCell ⟨c, 1, none⟩ (.int .i64 (q : Int))) c s q := heap_setCell_same W c 1 _ _ _ h
end
/-- what the reader panics with -/
def unR : PanicEntry := { v := .iface 169 (.agg #[]), recovered := false }

theorem want_yes (v : Value) (w : World) : Calls Try.prog 91 #[v, .bool true] w fun e w' => e = .returned (.tuple #[]) ∧ w' = w := by
  go_enter Try.func91, Try.ntmps91
  go_wp2
  go_end0
  exact ⟨rfl, rfl⟩
theorem want_no (v : Value) (w : World) : Calls Try.prog 91 #[v, .bool false] w fun e w' => e = .panicked [unR] ∧ w' = w := by
  go_enter Try.func91, Try.ntmps91
  go_wp2
  exact ⟨rfl, rfl, rfl⟩

set_option maxRecDepth 100000 in
set_option maxHeartbeats 1000000 in
theorem readerLeaves_no (c p : Nat) (s : ByteArray) (w : World) (h : Rd w c s p) (hs : s.size ≤ 1048576) (hp : p ≤ s.size) (hno : LV.rawL s p = none ∨ ∃ l q, LV.rawL s p = some (l, q) ∧ LV.leavesB l = false) :
    Calls Try.prog 48 #[.pointer (some ⟨c, 0, none⟩)] w fun e w' => e = .panicked [unR] ∧ Below w.heap.size w w' := by
  have HC : Hid (∀ W, Below w.heap.size w W → W.cell? ⟨c, 0, none⟩ = some (.string s) ∧ W.cell? ⟨c, 1, none⟩ = some (.int .i64 (p : Int))) := fun W hW => ⟨(h.later hW).c0, (h.later hW).c1⟩
  have H1 : Hid (∀ W, Calls Try.prog 90 #[.string s, .int .i64 (p : Int)] W fun e w' => (∃ a n c q, e = .returned (.tuple #[.slice a n c, .int .i64 q, .bool false])) ∧ Below W.heap.size W w') := fun W => (readLeaves_at s _ p W rfl hs hp).mono fun e w' ⟨hr, hb⟩ => by
    refine ⟨?_, hb⟩
    unfold RvP at hr
    rcases hno with h0 | ⟨l, q, h0, h1⟩
    · simp only [h0] at hr
      exact ⟨_, _, _, _, hr⟩
    · simp only [h0] at hr
      obtain ⟨g, he, _⟩ := hr
      rw [h1] at he
      exact ⟨_, _, _, _, he⟩
  have hb0 : Below w.heap.size w w.drew := (Below.refl _ _).drew
  clear h hno hs hp
  go_enter Try.func48, Try.ntmps48
  go_wp2
  go_region_held3 (fun W => W.cell? ⟨c, 0, none⟩ = some (.string s) ∧ W.cell? ⟨c, 1, none⟩ = some (.int .i64 (p : Int))) (first | (go_keep; done) | exact HC.out _ hb0) (first | (go_at_call 90; refine (H1.out _).mono ?_; rintro e w1 ⟨⟨a1, n1, c1, q1, rfl⟩, hc1⟩; have hb0 := hb0.trans (hc1.mono hb0.size)) | fail)
  clear HC H1 hc1
  try rename_i hHeld
  try clear hHeld
  go_wp2_with fail
  refine (want_no _ _).mono ?_
  rintro e w2 ⟨rfl, rfl⟩
  go_wp2
  exact ⟨rfl, rfl, hb0⟩

set_option maxRecDepth 100000 in
set_option maxHeartbeats 1000000 in
theorem readerLeaves_yes (c p : Nat) (s : ByteArray) (l : List Le) (q : Nat) (w : World) (h : Rd w c s p) (hs : s.size ≤ 1048576) (hp : p ≤ s.size) (hr : LV.rawL s p = some (l, q)) (hl : LV.leavesB l = true) :
    Calls Try.prog 48 #[.pointer (some ⟨c, 0, none⟩)] w fun e w' => ∃ g, e = .returned (.slice (some ⟨g, 0, none⟩) l.length l.length) ∧ RW 2 lcs w' (.slice (some ⟨g, 0, none⟩) l.length l.length) g l ∧ w.heap.size ≤ g ∧ Rd w' c s q ∧ w.grownBy w' (some c) := by
  have HC : Hid (∀ W, Below w.heap.size w W → W.cell? ⟨c, 0, none⟩ = some (.string s) ∧ W.cell? ⟨c, 1, none⟩ = some (.int .i64 (p : Int))) := fun W hW => ⟨(h.later hW).c0, (h.later hW).c1⟩
  have H1 : Hid (∀ W, Calls Try.prog 90 #[.string s, .int .i64 (p : Int)] W fun e w' => (∃ g, e = .returned (.tuple #[.slice (some ⟨g, 0, none⟩) l.length l.length, .int .i64 (q : Int), .bool true]) ∧ W.heap.size ≤ g ∧ RW 2 lcs w' (.slice (some ⟨g, 0, none⟩) l.length l.length) g l) ∧ Below W.heap.size W w') := fun W => (readLeaves_at s _ p W rfl hs hp).mono fun e w' ⟨hv, hb⟩ => by
    unfold RvP at hv
    simp only [hr, hl] at hv
    exact ⟨hv, hb⟩
  have hb0 : Below w.heap.size w w.drew := (Below.refl _ _).drew
  have HR : Hid (Rd w c s p) := h
  clear h hr hs hp hl
  go_enter Try.func48, Try.ntmps48
  go_wp2
  go_region_held3 (fun W => W.cell? ⟨c, 0, none⟩ = some (.string s) ∧ W.cell? ⟨c, 1, none⟩ = some (.int .i64 (p : Int))) (first | (go_keep; done) | exact HC.out _ hb0) (first | (go_at_call 90; refine (H1.out _).mono ?_; rintro e w1 ⟨⟨g, rfl, hg, hrw⟩, hc1⟩; have hsz := hb0.size; have hb0 := hb0.trans (hc1.mono hb0.size)) | fail)
  have h1 := HR.out.later hb0
  have d1 := h1.c1
  have f1 := h1.f1
  have hlt := h1.lt
  have HF : Hid (RW 2 lcs (w1.setCell ⟨c, 1, none⟩ (.int .i64 (q : Int))) (.slice (some ⟨g, 0, none⟩) l.length l.length) g l ∧ w.heap.size ≤ g ∧ Rd (w1.setCell ⟨c, 1, none⟩ (.int .i64 (q : Int))) c s q ∧ w.grownBy (w1.setCell ⟨c, 1, none⟩ (.int .i64 (q : Int))) (some c)) := by
    have hcw := HR.out.lt
    have hgw : w.heap.size ≤ g := by
      have e : w.drew.heap.size = w.heap.size := rfl
      omega
    refine ⟨hrw.grown (grown_setC w1 c 1 _) (fun _ => by simp; omega), hgw, h1.at q, (grown_below hb0).trans (grown_setC w1 c 1 _)⟩
  clear HC H1 hc1 HR h1 hrw hg hsz
  try rename_i hHeld
  try clear hHeld
  go_wp2_with fail
  refine (want_yes _ _).mono ?_
  rintro e w2 ⟨rfl, rfl⟩
  go_wp2
  go_ret
  exact ⟨g, rfl, HF.out⟩

end Go.Proofs.Ytfojmagcoipbnaa
