/-
  A short text read from a place of a text: plain facts, the program's ReadShort, the specification's reader.
-/
import Derived.Test.YtodibhiinfbhiaaDoorRa
import Derived.Test.YtodibhiinfbhiaaDoorRv
import Derived.Test.YtodibhiinfbhiaaDoorFw
import Derived.Test.YtodibhiinfbhiaaDoorMk
namespace Go.Proofs.YtodibhiinfbhiaaDoor
open Go.RowKit Go.BigFrame Go.Sort
set_option linter.unusedVariables false
set_option linter.unusedSimpArgs false

namespace LV
def shortAt (s : ByteArray) (p : Nat) : Option (ByteArray × Nat) :=
  match M.readVar s.data.toList p with
  | none => none
  | some (n, q) => if n ≤ 20000 ∧ q + n ≤ s.size then some (piece s q n, q + n) else none
theorem shortAt_some {s : ByteArray} {p q : Nat} {t : ByteArray} (hp : p ≤ s.size) (h : shortAt s p = some (t, q)) : p < q ∧ q ≤ s.size ∧ cutL s.data.toList p q = M.varL t.size ++ t.data.toList := by
  unfold shortAt at h
  cases hv : M.readVar s.data.toList p with
  | none => rw [hv] at h; simp at h
  | some x =>
    obtain ⟨n, b⟩ := x
    rw [hv] at h
    simp only at h
    split at h
    · rename_i hc
      simp only [Option.some.injEq, Prod.mk.injEq] at h
      obtain ⟨rfl, rfl⟩ := h
      have h1 := read_past _ _ _ _ hv
      refine ⟨by omega, hc.2, ?_⟩
      rw [piece_len s b n hc.2, ← read_canon hp hv]
      unfold piece
      rw [extract_cut, cutL_join _ p b (b + n) (by omega) (by omega)]
    · simp at h
theorem shortAt_none {s : ByteArray} {p : Nat} (h : M.readVar s.data.toList p = none) : shortAt s p = none := by unfold shortAt; rw [h]
theorem shortAt_no {s : ByteArray} {p n q : Nat} (h : M.readVar s.data.toList p = some (n, q)) (hn : ¬ (n ≤ 20000 ∧ q + n ≤ s.size)) : shortAt s p = none := by
  unfold shortAt
  rw [h]
  exact if_neg hn
theorem shortAt_yes {s : ByteArray} {p n q : Nat} (h : M.readVar s.data.toList p = some (n, q)) (hn : n ≤ 20000 ∧ q + n ≤ s.size) : shortAt s p = some (piece s q n, q + n) := by
  unfold shortAt
  rw [h]
  exact if_pos hn
theorem shortAt_size {s : ByteArray} {p q : Nat} {t : ByteArray} (h : shortAt s p = some (t, q)) : t.size ≤ s.size := by
  unfold shortAt at h
  cases hv : M.readVar s.data.toList p with
  | none => rw [hv] at h; simp at h
  | some x =>
    obtain ⟨n, b⟩ := x
    rw [hv] at h
    simp only at h
    split at h
    · simp only [Option.some.injEq, Prod.mk.injEq] at h
      rw [← h.1]
      exact piece_size s b n
    · simp at h
theorem toList_len (s : ByteArray) : s.data.toList.length = s.size := Array.length_toList
theorem bytes_eq {a b : ByteArray} (h : a.data.toList = b.data.toList) : a = b := ByteArray.ext (Array.toList_inj.1 h)
theorem shortAt_back (s t : ByteArray) (pre post : List UInt8) (ht : t.size ≤ 20000) (h : s.data.toList = pre ++ ((M.varL t.size ++ t.data.toList) ++ post)) : shortAt s pre.length = some (t, pre.length + (M.varL t.size ++ t.data.toList).length) := by
  have hr : M.readVar s.data.toList pre.length = some (t.size, pre.length + (M.varL t.size).length) := by
    rw [h, List.append_assoc]
    exact readVar_back pre _ t.size (by omega)
  have hsz := toList_len s
  have htl := toList_len t
  have hl : s.size = pre.length + (M.varL t.size).length + t.size + post.length := by
    rw [← hsz, h]
    simp only [List.length_append]
    omega
  rw [shortAt_yes hr ⟨ht, by omega⟩]
  have hp : piece s (pre.length + (M.varL t.size).length) t.size = t := by
    apply bytes_eq
    unfold piece
    rw [extract_cut, h]
    unfold cutL
    have e1 : (pre ++ ((M.varL t.size ++ t.data.toList) ++ post)).drop (pre.length + (M.varL t.size).length) = t.data.toList ++ post := by
      rw [← List.append_assoc, ← List.append_assoc, List.append_assoc (pre ++ M.varL t.size)]
      rw [← List.length_append]
      exact List.drop_left
    rw [e1]
    have e2 : pre.length + (M.varL t.size).length + t.size - (pre.length + (M.varL t.size).length) = t.data.toList.length := by omega
    rw [e2]
    exact List.take_left
  rw [hp]
  congr 2
  simp only [List.length_append]
  omega
end LV

/-! the specification's reader -/
/-- the block of a reader: its text, its place, and whether it was spoilt -/
def Cu (W : World) (c : Nat) (s : ByteArray) (p : Nat) (b : Bool) : Prop := W.heap[c]? = some (.cells #[.string s, .int .i64 (p : Int), .bool b] 60 (0, 0))
section
variable {W W' : World} {c p : Nat} {s : ByteArray} {b : Bool}
theorem Cu.lt (h : Cu W c s p b) : c < W.heap.size := (Array.getElem?_eq_some_iff.1 h).1
theorem Cu.later (h : Cu W c s p b) (hb : Below W.heap.size W W') : Cu W' c s p b := (hb.block c h.lt).trans h
theorem Cu.grown {row : Option Nat} (h : Cu W c s p b) (hg : W.grownBy W' row) (hne : some c ≠ row) : Cu W' c s p b := (hg.block c h.lt hne).trans h
theorem Cu.c0 (h : Cu W c s p b) : W.cell? ⟨c, 0, none⟩ = some (.string s) := by rw [cell_of_row W c 0 _ _ _ h]; rfl
theorem Cu.c1 (h : Cu W c s p b) : W.cell? ⟨c, 1, none⟩ = some (.int .i64 (p : Int)) := by rw [cell_of_row W c 1 _ _ _ h]; rfl
theorem Cu.c2 (h : Cu W c s p b) : W.cell? ⟨c, 2, none⟩ = some (.bool b) := by rw [cell_of_row W c 2 _ _ _ h]; rfl
theorem Cu.f1 (h : Cu W c s p b) : W.frozen? ⟨c, 1, none⟩ = false := by simp [World.frozen?, show W.heap[c]? = _ from h]
theorem Cu.f2 (h : Cu W c s p b) : W.frozen? ⟨c, 2, none⟩ = false := by simp [World.frozen?, show W.heap[c]? = _ from h]
theorem Cu.at (h : Cu W c s p b) (q : Nat) : Cu (W.setCell ⟨c, 1, none⟩ (.int .i64 (q : Int))) c s q b := heap_setCell_same W c 1 _ _ _ h
theorem Cu.bad (h : Cu W c s p b) : Cu (W.setCell ⟨c, 2, none⟩ (.bool true)) c s p true := heap_setCell_same W c 2 _ _ _ h
end

set_option maxRecDepth 100000 in
set_option maxHeartbeats 1000000 in
theorem l09Var_at (c : Nat) (s : ByteArray) (p : Nat) (w : World) (h : Cu w c s p false) (hs : s.size ≤ 1048576) (hp : p ≤ s.size) :
    Calls Tryd.prog 36 #[.pointer (some ⟨c, 0, none⟩)] w fun e w' => (match M.readVar s.data.toList p with
      | none => e = .returned (.int .i64 0) ∧ Cu w' c s p true
      | some (n, q) => e = .returned (.int .i64 (n : Int)) ∧ Cu w' c s q false) ∧ w.grownBy w' (some c) := by
  have c0 := h.c0
  have c1 := h.c1
  have H : Hid (Cu w c s p false) := h
  have hcl := h.lt
  clear h
  cases hr : M.readVar s.data.toList p with
  | none =>
    have H1 : Hid (∀ W, Calls Tryd.prog 51 #[.string s, .int .i64 (p : Int)] W fun e w' => e = .returned (.tuple #[.int .i64 0, .int .i64 0, .bool false]) ∧ Below W.heap.size W w') := fun W => sReadVar_none s (p : Int) W hs (.inr ⟨by omega, by simpa using hr⟩)
    clear hr
    go_enter Tryd.func36, Tryd.ntmps36
    go_wp2
    have kq0 := cell_regrown (w := w) c0
    have kq1 := cell_regrown (w := w) c1
    have cq0 := fun d os => Calls.regrown_of (w := w) (d := d) (os := os) (H1.out _)
    refine wp_region_quiet_below (by kernel_rfl) (by kernel_rfl) ?_
    repeat (go_big_quiet_step (first | with_reducible exact cq0 _ _))
    refine wpQuiet_nil ?_
    rintro _ ⟨⟨dq, osq⟩, rfl⟩
    have hb6 := below_regrown (w) dq osq
    generalize grow (redrawn (w) dq) osq = w6 at *
    clear kq0 kq1 cq0
    have h6 := H.out.later hb6
    have d2 := h6.c2
    have g2 := h6.f2
    have hcl6 := h6.lt
    have HF : Hid (Cu (w6.setCell ⟨c, 2, none⟩ (.bool true)) c s p true ∧ w.grownBy (w6.setCell ⟨c, 2, none⟩ (.bool true)) (some c)) := ⟨h6.bad, (grown_below hb6).trans (grown_setC w6 c 2 _)⟩
    clear h6 hb6 H H1 c0 c1
    go_wp2
    go_ret
    exact ⟨⟨rfl, HF.out.1⟩, HF.out.2⟩
  | some y =>
    obtain ⟨n, q⟩ := y
    have H1 : Hid (∀ W, Calls Tryd.prog 51 #[.string s, .int .i64 (p : Int)] W fun e w' => e = .returned (.tuple #[.int .i64 n, .int .i64 q, .bool true]) ∧ Below W.heap.size W w') := fun W => sReadVar_some s (p : Int) n q W hs (by omega) (by simpa using hr)
    clear hr
    go_enter Tryd.func36, Tryd.ntmps36
    go_wp2
    have kq0 := cell_regrown (w := w) c0
    have kq1 := cell_regrown (w := w) c1
    have cq0 := fun d os => Calls.regrown_of (w := w) (d := d) (os := os) (H1.out _)
    refine wp_region_quiet_below (by kernel_rfl) (by kernel_rfl) ?_
    repeat (go_big_quiet_step (first | with_reducible exact cq0 _ _))
    refine wpQuiet_nil ?_
    rintro _ ⟨⟨dq, osq⟩, rfl⟩
    have hb6 := below_regrown (w) dq osq
    generalize grow (redrawn (w) dq) osq = w6 at *
    clear kq0 kq1 cq0
    have h6 := H.out.later hb6
    have d2 := h6.c2
    have d1 := h6.c1
    have g1 := h6.f1
    have hcl6 := h6.lt
    have HF : Hid (Cu (w6.setCell ⟨c, 1, none⟩ (.int .i64 (q : Int))) c s q false ∧ w.grownBy (w6.setCell ⟨c, 1, none⟩ (.int .i64 (q : Int))) (some c)) := ⟨h6.at q, (grown_below hb6).trans (grown_setC w6 c 1 _)⟩
    clear h6 hb6 H H1 c0 c1
    go_wp2
    go_ret
    exact ⟨⟨rfl, HF.out.1⟩, HF.out.2⟩

end Go.Proofs.YtodibhiinfbhiaaDoor
