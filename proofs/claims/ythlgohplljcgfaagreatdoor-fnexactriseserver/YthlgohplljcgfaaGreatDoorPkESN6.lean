/-
  Texts laid together: Mk, Sh, Lm, Lw.
-/
import Derived.Test.YthlgohplljcgfaaGreatDoorPkESN5
import Derived.Deep.RegionHeld3
import Derived.Test.YthlgohplljcgfaaGreatDoorPkESN3
import Derived.Test.YthlgohplljcgfaaGreatDoorPkESN1
import Derived.Test.YthlgohplljcgfaaGreatDoorPkESN0
/-
  What the laws' own helpers do: markText, markStringS, heldStringS, from any first number on.
-/
namespace Go.Proofs.YthlgohplljcgfaaGreatDoor
open Go.RowKit
set_option linter.unusedVariables false

theorem one_strI (w : World) (x : Int) (b : UInt8) (h : x = (b.toNat : Int)) : (convert 159 9 (.slice (some ⟨w.heap.size, 0, none⟩) 1 1)).run Tryz.prog (w.alloc (.cells #[.int .u8 x] 5)) = .ok (.string ⟨[b].toArray⟩) (w.alloc (.cells #[.int .u8 x] 5)) := by
  subst h
  exact D.one_str w b

def markB (k : Nat) : ByteArray := D.consB 109 ⟨(Lib.decDigits k).toArray⟩

def MkRel (n : Nat) (w : World) (x s : Value) (wr : World) : Prop :=
  ∃ (m f : Nat) (t : ByteArray), m ≤ n ∧ x = .int .i64 m ∧ s = .string t ∧ t.size + f = 20 ∧ Hid (m < 10 ^ f) ∧ Hid (D.decR f m ++ t.data.toList = D.decR 20 n) ∧ Below w.heap.size w wr

set_option maxRecDepth 100000 in
set_option maxHeartbeats 1000000 in
theorem markText_any (n : Nat) (w : World) (h0 : 0 < n) (hn : n ≤ 1000000000) :
    Calls Tryz.prog 85 #[.int .i64 n] w fun e w' => e = .returned (.string (markB n)) ∧ Below w.heap.size w w' := by
  have hsg : ¬ ((n : Int) ≤ 0) := by omega
  go_enter Tryz.func85, Tryz.ntmps85
  go_wp2
  go_loopw [0, 3] (fun x s wr => MkRel n w x s wr) (fun x _ _ => (intOf x).toNat)
  case atStart => exact ⟨n, 20, ⟨#[]⟩, Nat.le_refl _, rfl, rfl, rfl, by unfold Hid; omega, by unfold Hid; simp, Below.refl _ _⟩
  case round =>
    obtain ⟨m, f, t, hmn, rfl, rfl, htf, HF, HE, hbel⟩ := hrel
    by_cases hm : m = 0
    · have hmq : ¬ ((0 : Int) < (m : Int)) := by omega
      have HD : Hid (t = ⟨(Lib.decDigits n).toArray⟩) := D.dec_end h0 (by omega) hm HE.out
      have hts : t.size ≤ 20 := by omega
      clear hm
      go_wp2
      go_ret
      exact ⟨by unfold markB; rw [← HD.out]; rfl, hbel⟩
    · have hmq : (0 : Int) < (m : Int) := by omega
      have hm0 : 0 < m := by omega
      obtain ⟨f', rfl, hF2, hS⟩ := D.dec_step hm HF.out HE.out
      have HS : Hid (D.decR f' (m / 10) ++ (D.consB (D.fig (m % 10)) t).data.toList = D.decR 20 n) := hS
      have HF2 : Hid (m / 10 < 10 ^ f') := hF2
      have hfg := D.fig_nat (m % 10) (by omega)
      have hcv := one_strI wr (48 + (m : Int) % 10) (D.fig (m % 10)) (by rw [hfg]; omega)
      clear hS hF2 hm hfg
      go_wp2
      go_roundw
      case rel => exact ⟨m / 10, f', D.consB (D.fig (m % 10)) t, by omega, by go_num, rfl, by rw [D.consB_size]; omega, HF2, HS, hbel.alloc hbel.size _⟩
      case measure => simp [intOf] <;> omega

theorem markText_int (x : Int) (n : Nat) (w : World) (hx : x = (n : Int)) (h0 : 0 < n) (hn : n ≤ 1000000000) :
    Calls Tryz.prog 85 #[.int .i64 x] w fun e w' => e = .returned (.string (markB n)) ∧ Below w.heap.size w w' := by
  subst hx
  exact markText_any n w h0 hn

/-- n marks from k on -/
def marks (k n : Nat) : List ByteArray := (List.range n).map fun j => markB (k + j)
theorem marks_len (k n : Nat) : (marks k n).length = n := by simp [marks]
theorem marks_at (k n j : Nat) (h : j < (marks k n).length) : (marks k n)[j] = markB (k + j) := by simp [marks]
theorem marks_set (k : Nat) (l : List ByteArray) (m : Nat) (h : m < l.length) : (marks k m ++ l.drop m).set m (markB (k + m)) = marks k (m + 1) ++ l.drop (m + 1) := by
  have e : l.drop m = l[m] :: l.drop (m + 1) := List.drop_eq_getElem_cons h
  rw [e, List.set_append_right _ _ (by rw [marks_len]; exact Nat.le_refl _), marks_len, Nat.sub_self]
  simp only [List.set_cons_zero, marks, List.range_succ, List.map_append, List.map_cons, List.map_nil, List.append_assoc, List.cons_append, List.nil_append]

theorem grown_below {w w' : World} {row : Option Nat} (h : Below w.heap.size w w') : w.grownBy w' row := ⟨h.os, h.tape, h.output, h.size, fun k hk _ => h.block k hk⟩
theorem grown_refl (w : World) (row : Option Nat) : w.grownBy w row := grown_below (Below.refl _ _)
theorem TB.keptG {w w' : World} {g : Nat} {row : Option Nat} {l : List ByteArray} (h : TB w g l) (hg : w.grownBy w' row) (hne : some g ≠ row) : TB w' g l := by
  have hlt := h.lt
  obtain ⟨cur, h1, h2⟩ := h
  exact ⟨cur, by rw [hg.block g hlt hne]; exact h1, h2⟩

/-- a row of texts that may be written, at the head of block g -/
def TS (w : World) (v : Value) (g : Nat) (l : List ByteArray) : Prop :=
  ∃ a cap, v = .slice a l.length cap ∧ l.length ≤ 1100000 ∧ (0 < l.length → a = some ⟨g, 0, none⟩ ∧ TB w g l)
theorem TS.len {w : World} {v : Value} {g : Nat} {l : List ByteArray} (h : TS w v g l) : l.length ≤ 1100000 := by
  obtain ⟨a, cap, rfl, hl, _⟩ := h
  exact hl
theorem TS.ss {w : World} {v : Value} {g : Nat} {l : List ByteArray} (h : TS w v g l) : SS w v g 0 l := by
  obtain ⟨a, cap, rfl, hl, h2⟩ := h
  exact ⟨a, cap, rfl, by omega, fun h0 => (h2 h0).1, fun j hj => by rw [Nat.zero_add]; exact (h2 (by omega)).2.cell j hj⟩
theorem TS.keptG {w w' : World} {v : Value} {g : Nat} {row : Option Nat} {l : List ByteArray} (h : TS w v g l) (hg : w.grownBy w' row) (hne : 0 < l.length → some g ≠ row) : TS w' v g l := by
  obtain ⟨a, cap, rfl, hl, h2⟩ := h
  exact ⟨a, cap, rfl, hl, fun h0 => ⟨(h2 h0).1, (h2 h0).2.keptG hg (hne h0)⟩⟩
theorem TS.later {w w' : World} {v : Value} {g : Nat} {l : List ByteArray} (h : TS w v g l) (hb : Below w.heap.size w w') : TS w' v g l := h.keptG (row := none) (grown_below hb) (fun _ => by simp)
theorem TS.drewN {w : World} {v : Value} {g : Nat} {l : List ByteArray} (h : TS w v g l) (n : Nat) : TS (w.drewN n) v g l := h
theorem TS.lt {w : World} {v : Value} {g : Nat} {l : List ByteArray} (h : TS w v g l) : 0 < l.length → g < w.heap.size := by
  obtain ⟨a, cap, rfl, hl, h2⟩ := h
  exact fun h0 => (h2 h0).2.lt
theorem TB.ts {w : World} {g : Nat} {l : List ByteArray} (h : TB w g l) (n cap : Nat) (hn : l.length = n) (hl : n ≤ 1100000) : TS w (.slice (some ⟨g, 0, none⟩) n cap) g l := by
  subst hn
  exact ⟨_, _, rfl, hl, fun _ => ⟨rfl, h⟩⟩
theorem TS.nil (w : World) (g : Nat) : TS w (.slice none 0 0) g [] := ⟨_, _, rfl, by simp, fun h => absurd h (by simp)⟩
theorem OS.ts {B : Nat} {w0 w : World} {v : Value} {l : List ByteArray} (h : OS B w0 w v l) (hl : l.length ≤ 1100000) : ∃ g, TS w v g l ∧ B ≤ g := by
  rcases h.shape with ⟨rfl, rfl⟩ | ⟨g, cap, rfl, hg, _⟩
  · exact ⟨B, TS.nil w B, Nat.le_refl _⟩
  · exact ⟨g, h.tb.ts _ _ rfl hl, hg⟩

/-- the block of a row that is not empty -/
def rowOf (g : Nat) (l : List ByteArray) : Option Nat := if l.length = 0 then none else some g
theorem rowOf_some {g : Nat} {l : List ByteArray} (h : 0 < l.length) : rowOf g l = some g := if_neg (by omega)
theorem rowOf_ne {g k : Nat} {l : List ByteArray} (h : 0 < l.length → k ≠ g) : some k ≠ rowOf g l := by
  unfold rowOf
  split
  · simp
  · have := h (by omega)
    simpa using this

def MsRel (k0 : Nat) (w : World) (g : Nat) (l : List ByteArray) (x i : Value) (wr : World) : Prop :=
  ∃ k : Nat, k ≤ l.length ∧ i = .int .i64 k ∧ x = .int .i64 (k0 + k : Nat) ∧ (0 < l.length → TB wr g (marks k0 k ++ l.drop k)) ∧ w.grownBy wr (rowOf g l)

def HsRel (k0 n : Nat) (w : World) (x i : Value) (wr : World) : Prop :=
  ∃ k : Nat, k ≤ n ∧ i = .int .i64 k ∧ x = .int .i64 (k0 + k : Nat) ∧ Below w.heap.size w wr

end Go.Proofs.YthlgohplljcgfaaGreatDoor
/-
  A short text read from a place of a text: plain facts, the program's ReadShort, the specification's reader.
-/
namespace Go.Proofs.YthlgohplljcgfaaGreatDoor
open Go.RowKit Go.BigFrame Go.Sort
set_option linter.unusedVariables false
set_option linter.unusedSimpArgs false

namespace LV
def shortAt (s : ByteArray) (p : Nat) : Option (ByteArray × Nat) :=
  match M.readVar s.data.toList p with
  | none => none
  | some (n, q) => if n ≤ 20000 ∧ q + n ≤ s.size then some (piece s q n, q + n) else none
theorem shortAt_some {s : ByteArray} {p q : Nat} {t : ByteArray} (hp : p ≤ s.size) (h : shortAt s p = some (t, q)) : p < q ∧ q ≤ s.size ∧ cutL s.data.toList p q = M.varL t.size ++ t.data.toList := by
  unfold shortAt at h
  cases hv : M.readVar s.data.toList p with
  | none => rw [hv] at h; simp at h
  | some x =>
    obtain ⟨n, b⟩ := x
    rw [hv] at h
    simp only at h
    split at h
    · rename_i hc
      simp only [Option.some.injEq, Prod.mk.injEq] at h
      obtain ⟨rfl, rfl⟩ := h
      have h1 := read_past _ _ _ _ hv
      refine ⟨by omega, hc.2, ?_⟩
      rw [piece_len s b n hc.2, ← read_canon hp hv]
      unfold piece
      rw [extract_cut, cutL_join _ p b (b + n) (by omega) (by omega)]
    · simp at h
theorem shortAt_none {s : ByteArray} {p : Nat} (h : M.readVar s.data.toList p = none) : shortAt s p = none := by unfold shortAt; rw [h]
theorem shortAt_no {s : ByteArray} {p n q : Nat} (h : M.readVar s.data.toList p = some (n, q)) (hn : ¬ (n ≤ 20000 ∧ q + n ≤ s.size)) : shortAt s p = none := by
  unfold shortAt
  rw [h]
  exact if_neg hn
theorem shortAt_yes {s : ByteArray} {p n q : Nat} (h : M.readVar s.data.toList p = some (n, q)) (hn : n ≤ 20000 ∧ q + n ≤ s.size) : shortAt s p = some (piece s q n, q + n) := by
  unfold shortAt
  rw [h]
  exact if_pos hn
theorem shortAt_size {s : ByteArray} {p q : Nat} {t : ByteArray} (h : shortAt s p = some (t, q)) : t.size ≤ s.size := by
  unfold shortAt at h
  cases hv : M.readVar s.data.toList p with
  | none => rw [hv] at h; simp at h
  | some x =>
    obtain ⟨n, b⟩ := x
    rw [hv] at h
    simp only at h
    split at h
    · simp only [Option.some.injEq, Prod.mk.injEq] at h
      rw [← h.1]
      exact piece_size s b n
    · simp at h
theorem toList_len (s : ByteArray) : s.data.toList.length = s.size := Array.length_toList
theorem bytes_eq {a b : ByteArray} (h : a.data.toList = b.data.toList) : a = b := ByteArray.ext (Array.toList_inj.1 h)
theorem shortAt_back (s t : ByteArray) (pre post : List UInt8) (ht : t.size ≤ 20000) (h : s.data.toList = pre ++ ((M.varL t.size ++ t.data.toList) ++ post)) : shortAt s pre.length = some (t, pre.length + (M.varL t.size ++ t.data.toList).length) := by
  have hr : M.readVar s.data.toList pre.length = some (t.size, pre.length + (M.varL t.size).length) := by
    rw [h, List.append_assoc]
    exact readVar_back pre _ t.size (by omega)
  have hsz := toList_len s
  have htl := toList_len t
  have hl : s.size = pre.length + (M.varL t.size).length + t.size + post.length := by
    rw [← hsz, h]
    simp only [List.length_append]
    omega
  rw [shortAt_yes hr ⟨ht, by omega⟩]
  have hp : piece s (pre.length + (M.varL t.size).length) t.size = t := by
    apply bytes_eq
    unfold piece
    rw [extract_cut, h]
    unfold cutL
    have e1 : (pre ++ ((M.varL t.size ++ t.data.toList) ++ post)).drop (pre.length + (M.varL t.size).length) = t.data.toList ++ post := by
      rw [← List.append_assoc, ← List.append_assoc, List.append_assoc (pre ++ M.varL t.size)]
      rw [← List.length_append]
      exact List.drop_left
    rw [e1]
    have e2 : pre.length + (M.varL t.size).length + t.size - (pre.length + (M.varL t.size).length) = t.data.toList.length := by omega
    rw [e2]
    exact List.take_left
  rw [hp]
  congr 2
  simp only [List.length_append]
  omega
end LV

/-- a short text that is read, or why not -/
theorem ReadShort_at (s : ByteArray) (x : Int) (p : Nat) (w : World) (hx : x = (p : Int)) (hs : s.size ≤ 1048576) (hp : p ≤ s.size) :
    Calls Tryz.prog 160 #[.string s, .int .i64 x] w fun e w' => (match LV.shortAt s p with
      | none => e = .returned (.tuple #[.string ⟨#[]⟩, .int .i64 0, .bool false])
      | some (t, q) => e = .returned (.tuple #[.string t, .int .i64 (q : Int), .bool true])) ∧ Below w.heap.size w w' := by
  subst hx
  cases hr : M.readVar s.data.toList p with
  | none =>
    rw [LV.shortAt_none hr]
    exact ReadShort_none s p w hs (.inr ⟨by omega, by simpa using hr⟩)
  | some y =>
    obtain ⟨n, q⟩ := y
    obtain ⟨hq, hN⟩ := read_bound s p n q hr
    by_cases hn : n ≤ 20000 ∧ q + n ≤ s.size
    · rw [LV.shortAt_yes hr hn]
      have h := ReadShort_yes s p n q w hs (show 0 ≤ (p : Int) ∧ (p : Int) ≤ (s.size : Int) from by omega) (show M.readVar s.data.toList (p : Int).toNat = some (n, q) from by simpa using hr) hn.1 hn.2
      have e : ((q + n : Nat) : Int) = (q : Int) + (n : Int) := by omega
      simp only [e]
      exact h
    · rw [LV.shortAt_no hr hn]
      exact ReadShort_no s p n q w hs (show 0 ≤ (p : Int) ∧ (p : Int) ≤ (s.size : Int) from by omega) (show M.readVar s.data.toList (p : Int).toNat = some (n, q) from by simpa using hr) hq hN hn

/-! the specification's reader -/
/-- the block of a reader: its text, its place, and whether it was spoilt -/
def Cu (W : World) (c : Nat) (s : ByteArray) (p : Nat) (b : Bool) : Prop := W.heap[c]? = some (.cells #[.string s, .int .i64 (p : Int), .bool b] 99 (0, 0))
section
variable {W W' : World} {c p : Nat} {s : ByteArray} {b : Bool}
theorem Cu.lt (h : Cu W c s p b) : c < W.heap.size := (Array.getElem?_eq_some_iff.1 h).1
theorem Cu.later (h : Cu W c s p b) (hb : Below W.heap.size W W') : Cu W' c s p b := (hb.block c h.lt).trans h
theorem Cu.grown {row : Option Nat} (h : Cu W c s p b) (hg : W.grownBy W' row) (hne : some c ≠ row) : Cu W' c s p b := (hg.block c h.lt hne).trans h
theorem Cu.c0 (h : Cu W c s p b) : W.cell? ⟨c, 0, none⟩ = some (.string s) := by rw [cell_of_row W c 0 _ _ _ h]; rfl
theorem Cu.c1 (h : Cu W c s p b) : W.cell? ⟨c, 1, none⟩ = some (.int .i64 (p : Int)) := by rw [cell_of_row W c 1 _ _ _ h]; rfl
theorem Cu.c2 (h : Cu W c s p b) : W.cell? ⟨c, 2, none⟩ = some (.bool b) := by rw [cell_of_row W c 2 _ _ _ h]; rfl
theorem Cu.f1 (h : Cu W c s p b) : W.frozen? ⟨c, 1, none⟩ = false := by simp [World.frozen?, show W.heap[c]? = _ from h]
theorem Cu.f2 (h : Cu W c s p b) : W.frozen? ⟨c, 2, none⟩ = false := by simp [World.frozen?, show W.heap[c]? = _ from h]
theorem Cu.at (h : Cu W c s p b) (q : Nat) : Cu (W.setCell ⟨c, 1, none⟩ (.int .i64 (q : Int))) c s q b := heap_setCell_same W c 1 _ _ _ h
theorem Cu.bad (h : Cu W c s p b) : Cu (W.setCell ⟨c, 2, none⟩ (.bool true)) c s p true := heap_setCell_same W c 2 _ _ _ h
end

set_option maxRecDepth 100000 in
set_option maxHeartbeats 1000000 in
theorem l09Var_at (c : Nat) (s : ByteArray) (p : Nat) (w : World) (h : Cu w c s p false) (hs : s.size ≤ 1048576) (hp : p ≤ s.size) :
    Calls Tryz.prog 70 #[.pointer (some ⟨c, 0, none⟩)] w fun e w' => (match M.readVar s.data.toList p with
      | none => e = .returned (.int .i64 0) ∧ Cu w' c s p true
      | some (n, q) => e = .returned (.int .i64 (n : Int)) ∧ Cu w' c s q false) ∧ w.grownBy w' (some c) := by
  have c0 := h.c0
  have c1 := h.c1
  have H : Hid (Cu w c s p false) := h
  have hcl := h.lt
  clear h
  cases hr : M.readVar s.data.toList p with
  | none =>
    have H1 : Hid (∀ W, Calls Tryz.prog 104 #[.string s, .int .i64 (p : Int)] W fun e w' => e = .returned (.tuple #[.int .i64 0, .int .i64 0, .bool false]) ∧ Below W.heap.size W w') := fun W => sReadVar_none s (p : Int) W hs (.inr ⟨by omega, by simpa using hr⟩)
    clear hr
    go_enter Tryz.func70, Tryz.ntmps70
    go_wp2
    have kq0 := cell_regrown (w := w) c0
    have kq1 := cell_regrown (w := w) c1
    have cq0 := fun d os => Calls.regrown_of (w := w) (d := d) (os := os) (H1.out _)
    refine wp_region_quiet_below (by kernel_rfl) (by kernel_rfl) ?_
    repeat (go_big_quiet_step (first | with_reducible exact cq0 _ _))
    refine wpQuiet_nil ?_
    rintro _ ⟨⟨dq, osq⟩, rfl⟩
    have hb6 := below_regrown (w) dq osq
    generalize grow (redrawn (w) dq) osq = w6 at *
    clear kq0 kq1 cq0
    have h6 := H.out.later hb6
    have d2 := h6.c2
    have g2 := h6.f2
    have hcl6 := h6.lt
    have HF : Hid (Cu (w6.setCell ⟨c, 2, none⟩ (.bool true)) c s p true ∧ w.grownBy (w6.setCell ⟨c, 2, none⟩ (.bool true)) (some c)) := ⟨h6.bad, (grown_below hb6).trans (grown_setC w6 c 2 _)⟩
    clear h6 hb6 H H1 c0 c1
    go_wp2
    go_ret
    exact ⟨⟨rfl, HF.out.1⟩, HF.out.2⟩
  | some y =>
    obtain ⟨n, q⟩ := y
    have H1 : Hid (∀ W, Calls Tryz.prog 104 #[.string s, .int .i64 (p : Int)] W fun e w' => e = .returned (.tuple #[.int .i64 n, .int .i64 q, .bool true]) ∧ Below W.heap.size W w') := fun W => sReadVar_some s (p : Int) n q W hs (by omega) (by simpa using hr)
    clear hr
    go_enter Tryz.func70, Tryz.ntmps70
    go_wp2
    have kq0 := cell_regrown (w := w) c0
    have kq1 := cell_regrown (w := w) c1
    have cq0 := fun d os => Calls.regrown_of (w := w) (d := d) (os := os) (H1.out _)
    refine wp_region_quiet_below (by kernel_rfl) (by kernel_rfl) ?_
    repeat (go_big_quiet_step (first | with_reducible exact cq0 _ _))
    refine wpQuiet_nil ?_
    rintro _ ⟨⟨dq, osq⟩, rfl⟩
    have hb6 := below_regrown (w) dq osq
    generalize grow (redrawn (w) dq) osq = w6 at *
    clear kq0 kq1 cq0
    have h6 := H.out.later hb6
    have d2 := h6.c2
    have d1 := h6.c1
    have g1 := h6.f1
    have hcl6 := h6.lt
    have HF : Hid (Cu (w6.setCell ⟨c, 1, none⟩ (.int .i64 (q : Int))) c s q false ∧ w.grownBy (w6.setCell ⟨c, 1, none⟩ (.int .i64 (q : Int))) (some c)) := ⟨h6.at q, (grown_below hb6).trans (grown_setC w6 c 1 _)⟩
    clear h6 hb6 H H1 c0 c1
    go_wp2
    go_ret
    exact ⟨⟨rfl, HF.out.1⟩, HF.out.2⟩

/-- a short text that is read, or why not -/
theorem sReadShort_at (s : ByteArray) (p : Nat) (w : World) (hs : s.size ≤ 1048576) (hp : p ≤ s.size) :
    Calls Tryz.prog 132 #[.string s, .int .i64 (p : Int)] w fun e w' => (match LV.shortAt s p with
      | none => e = .returned (.tuple #[.string ⟨#[]⟩, .int .i64 0, .bool false])
      | some (t, q) => e = .returned (.tuple #[.string t, .int .i64 (q : Int), .bool true])) ∧ Below w.heap.size w w' := by
  cases hr : M.readVar s.data.toList p with
  | none =>
    rw [LV.shortAt_none hr]
    exact sReadShort_none s p w hs (.inr ⟨by omega, by simpa using hr⟩)
  | some y =>
    obtain ⟨n, q⟩ := y
    obtain ⟨hq, hN⟩ := read_bound s p n q hr
    by_cases hn : n ≤ 20000 ∧ q + n ≤ s.size
    · rw [LV.shortAt_yes hr hn]
      have h := sReadShort_yes s p n q w hs (show 0 ≤ (p : Int) ∧ (p : Int) ≤ (s.size : Int) from by omega) (show M.readVar s.data.toList (p : Int).toNat = some (n, q) from by simpa using hr) hn.1 hn.2
      have e : ((q + n : Nat) : Int) = (q : Int) + (n : Int) := by omega
      simp only [e]
      exact h
    · rw [LV.shortAt_no hr hn]
      exact sReadShort_no s p n q w hs (show 0 ≤ (p : Int) ∧ (p : Int) ≤ (s.size : Int) from by omega) (show M.readVar s.data.toList (p : Int).toNat = some (n, q) from by simpa using hr) hq hN hn

set_option maxRecDepth 100000 in
set_option maxHeartbeats 1000000 in
theorem l09Short_no (c : Nat) (s : ByteArray) (p : Nat) (b : Bool) (w : World) (h : Cu w c s p b) (hs : s.size ≤ 1048576) (hp : p ≤ s.size) (hq : b = true ∨ LV.shortAt s p = none) :
    Calls Tryz.prog 106 #[.pointer (some ⟨c, 0, none⟩)] w fun e w' => (e = .returned (.string ⟨#[]⟩) ∧ Cu w' c s p true) ∧ w.grownBy w' (some c) := by
  have c0 := h.c0
  have c1 := h.c1
  have H : Hid (Cu w c s p b) := h
  have hcl := h.lt
  clear h
  cases hr : LV.shortAt s p with
  | none =>
    clear hq
    cases b
    · have H1 : Hid (∀ W, Calls Tryz.prog 132 #[.string s, .int .i64 (p : Int)] W fun e w' => e = .returned (.tuple #[.string ⟨#[]⟩, .int .i64 0, .bool false]) ∧ Below W.heap.size W w') := fun W => by have h := sReadShort_at s p W hs hp; rw [hr] at h; exact h
      clear hr
      go_enter Tryz.func106, Tryz.ntmps106
      go_wp2
      have kq0 := cell_regrown (w := w) c0
      have kq1 := cell_regrown (w := w) c1
      have cq0 := fun d os => Calls.regrown_of (w := w) (d := d) (os := os) (H1.out _)
      refine wp_region_quiet_below (by kernel_rfl) (by kernel_rfl) ?_
      repeat (go_big_quiet_step (first | with_reducible exact cq0 _ _))
      refine wpQuiet_nil ?_
      rintro _ ⟨⟨dq, osq⟩, rfl⟩
      have hb6 := below_regrown (w) dq osq
      generalize grow (redrawn (w) dq) osq = w6 at *
      clear kq0 kq1 cq0
      have h6 := H.out.later hb6
      have d2 := h6.c2
      have d1 := h6.c1
      have g1 := h6.f1
      have g2 := h6.f2
      have hcl6 := h6.lt
      have HF : Hid (Cu (w6.setCell ⟨c, 2, none⟩ (.bool true)) c s p true ∧ w.grownBy (w6.setCell ⟨c, 2, none⟩ (.bool true)) (some c)) := ⟨h6.bad, (grown_below hb6).trans (grown_setC w6 c 2 _)⟩
      clear h6 hb6 H H1 c0 c1
      go_wp2
      go_ret
      exact ⟨⟨rfl, HF.out.1⟩, HF.out.2⟩
    · have H1 : Hid (∀ W, Calls Tryz.prog 132 #[.string s, .int .i64 (p : Int)] W fun e w' => e = .returned (.tuple #[.string ⟨#[]⟩, .int .i64 0, .bool false]) ∧ Below W.heap.size W w') := fun W => by have h := sReadShort_at s p W hs hp; rw [hr] at h; exact h
      clear hr
      go_enter Tryz.func106, Tryz.ntmps106
      go_wp2
      have kq0 := cell_regrown (w := w) c0
      have kq1 := cell_regrown (w := w) c1
      have cq0 := fun d os => Calls.regrown_of (w := w) (d := d) (os := os) (H1.out _)
      refine wp_region_quiet_below (by kernel_rfl) (by kernel_rfl) ?_
      repeat (go_big_quiet_step (first | with_reducible exact cq0 _ _))
      refine wpQuiet_nil ?_
      rintro _ ⟨⟨dq, osq⟩, rfl⟩
      have hb6 := below_regrown (w) dq osq
      generalize grow (redrawn (w) dq) osq = w6 at *
      clear kq0 kq1 cq0
      have h6 := H.out.later hb6
      have d2 := h6.c2
      have d1 := h6.c1
      have g1 := h6.f1
      have g2 := h6.f2
      have hcl6 := h6.lt
      have HF : Hid (Cu (w6.setCell ⟨c, 2, none⟩ (.bool true)) c s p true ∧ w.grownBy (w6.setCell ⟨c, 2, none⟩ (.bool true)) (some c)) := ⟨h6.bad, (grown_below hb6).trans (grown_setC w6 c 2 _)⟩
      clear h6 hb6 H H1 c0 c1
      go_wp2
      go_ret
      exact ⟨⟨rfl, HF.out.1⟩, HF.out.2⟩
  | some y =>
    obtain ⟨t, r⟩ := y
    obtain rfl : b = true := by
      rcases hq with hq | hq
      · exact hq
      · rw [hr] at hq
        cases hq
    clear hq
    have H1 : Hid (∀ W, Calls Tryz.prog 132 #[.string s, .int .i64 (p : Int)] W fun e w' => e = .returned (.tuple #[.string t, .int .i64 (r : Int), .bool true]) ∧ Below W.heap.size W w') := fun W => by have h := sReadShort_at s p W hs hp; rw [hr] at h; exact h
    clear hr
    go_enter Tryz.func106, Tryz.ntmps106
    go_wp2
    have kq0 := cell_regrown (w := w) c0
    have kq1 := cell_regrown (w := w) c1
    have cq0 := fun d os => Calls.regrown_of (w := w) (d := d) (os := os) (H1.out _)
    refine wp_region_quiet_below (by kernel_rfl) (by kernel_rfl) ?_
    repeat (go_big_quiet_step (first | with_reducible exact cq0 _ _))
    refine wpQuiet_nil ?_
    rintro _ ⟨⟨dq, osq⟩, rfl⟩
    have hb6 := below_regrown (w) dq osq
    generalize grow (redrawn (w) dq) osq = w6 at *
    clear kq0 kq1 cq0
    have h6 := H.out.later hb6
    have d2 := h6.c2
    have d1 := h6.c1
    have g1 := h6.f1
    have g2 := h6.f2
    have hcl6 := h6.lt
    have HF : Hid (Cu (w6.setCell ⟨c, 2, none⟩ (.bool true)) c s p true ∧ w.grownBy (w6.setCell ⟨c, 2, none⟩ (.bool true)) (some c)) := ⟨h6.bad, (grown_below hb6).trans (grown_setC w6 c 2 _)⟩
    clear h6 hb6 H H1 c0 c1
    go_wp2
    go_ret
    exact ⟨⟨rfl, HF.out.1⟩, HF.out.2⟩

set_option maxRecDepth 100000 in
set_option maxHeartbeats 1000000 in
theorem l09Short_yes (c : Nat) (s : ByteArray) (p r : Nat) (t : ByteArray) (w : World) (h : Cu w c s p false) (hs : s.size ≤ 1048576) (hp : p ≤ s.size) (hr : LV.shortAt s p = some (t, r)) :
    Calls Tryz.prog 106 #[.pointer (some ⟨c, 0, none⟩)] w fun e w' => (e = .returned (.string t) ∧ Cu w' c s r false) ∧ w.grownBy w' (some c) := by
  have c0 := h.c0
  have c1 := h.c1
  have H : Hid (Cu w c s p false) := h
  have hcl := h.lt
  clear h
  have H1 : Hid (∀ W, Calls Tryz.prog 132 #[.string s, .int .i64 (p : Int)] W fun e w' => e = .returned (.tuple #[.string t, .int .i64 (r : Int), .bool true]) ∧ Below W.heap.size W w') := fun W => by have h := sReadShort_at s p W hs hp; rw [hr] at h; exact h
  clear hr
  go_enter Tryz.func106, Tryz.ntmps106
  go_wp2
  have kq0 := cell_regrown (w := w) c0
  have kq1 := cell_regrown (w := w) c1
  have cq0 := fun d os => Calls.regrown_of (w := w) (d := d) (os := os) (H1.out _)
  refine wp_region_quiet_below (by kernel_rfl) (by kernel_rfl) ?_
  repeat (go_big_quiet_step (first | with_reducible exact cq0 _ _))
  refine wpQuiet_nil ?_
  rintro _ ⟨⟨dq, osq⟩, rfl⟩
  have hb6 := below_regrown (w) dq osq
  generalize grow (redrawn (w) dq) osq = w6 at *
  clear kq0 kq1 cq0
  have h6 := H.out.later hb6
  have d2 := h6.c2
  have d1 := h6.c1
  have g1 := h6.f1
  have g2 := h6.f2
  have hcl6 := h6.lt
  have HF : Hid (Cu (w6.setCell ⟨c, 1, none⟩ (.int .i64 (r : Int))) c s r false ∧ w.grownBy (w6.setCell ⟨c, 1, none⟩ (.int .i64 (r : Int))) (some c)) := ⟨h6.at r, (grown_below hb6).trans (grown_setC w6 c 1 _)⟩
  clear h6 hb6 H H1 c0 c1
  go_wp2
  go_ret
  exact ⟨⟨rfl, HF.out.1⟩, HF.out.2⟩

end Go.Proofs.YthlgohplljcgfaaGreatDoor
/-
  Leaves as plain lists: when they are right, what putting and dropping makes of them, their text and what is read of a text.
-/
namespace Go.Proofs.YthlgohplljcgfaaGreatDoor
set_option linter.unusedVariables false

structure Le where
  n : ByteArray
  v : ByteArray

namespace LV
open F (ltN ltN_eq ltN_irrefl ltN_trans ltN_tri ltN_ne ltN_asymm)

def leB (f : Le) : Bool := okB nameB f.n && okB valB f.v
def Srt (L : List Le) : Prop := L.Pairwise fun f g => ltN f.n g.n = true
def LOk (L : List Le) : Prop := L.length ≤ 24 ∧ (∀ f ∈ L, leB f = true) ∧ Srt L
open Classical in
noncomputable def leavesB (L : List Le) : Bool := decide (LOk L)
theorem leavesB_iff {L : List Le} : leavesB L = true ↔ LOk L := by simp [leavesB]
theorem leavesB_no {L : List Le} : leavesB L = false ↔ ¬ LOk L := by simp [leavesB]

/-- the first m leaves are right -/
def Upto (L : List Le) (m : Nat) : Prop := ∀ j (h : j < L.length), j < m → leB L[j] = true ∧ ∀ h0 : 0 < j, ltN (L[j - 1]'(by omega)).n L[j].n = true
theorem Upto.zero (L : List Le) : Upto L 0 := fun j _ h => by omega
theorem Upto.step {L : List Le} {m : Nat} (h : Upto L m) (hm : m < L.length) (h1 : leB L[m] = true) (h2 : ∀ h0 : 0 < m, ltN (L[m - 1]'(by omega)).n L[m].n = true) : Upto L (m + 1) := by
  intro j hj hlt
  rcases Nat.lt_or_ge j m with h3 | h3
  · exact h j hj h3
  · have : j = m := by omega
    subst this
    exact ⟨h1, h2⟩
theorem srt_of_adj {L : List Le} (h : ∀ j (hj : j < L.length) (h0 : 0 < j), ltN (L[j - 1]'(by omega)).n L[j].n = true) : Srt L := by
  unfold Srt
  rw [List.pairwise_iff_getElem]
  intro i j hi hj hij
  induction j with
  | zero => omega
  | succ j ih =>
    have h1 := h (j + 1) hj (by omega)
    rcases Nat.lt_or_ge i j with h2 | h2
    · exact ltN_trans (ih (by omega) h2) h1
    · have : i = j := by omega
      subst this
      exact h1
theorem Upto.ok {L : List Le} (h : Upto L L.length) (hl : L.length ≤ 24) : LOk L := by
  refine ⟨hl, fun f hf => ?_, srt_of_adj fun j hj h0 => (h j hj hj).2 h0⟩
  obtain ⟨j, hj, rfl⟩ := List.getElem_of_mem hf
  exact (h j hj hj).1
theorem LOk.srt_at {L : List Le} (h : Srt L) (i j : Nat) (hi : i < L.length) (hj : j < L.length) (hij : i < j) : ltN L[i].n L[j].n = true := by
  unfold Srt at h
  rw [List.pairwise_iff_getElem] at h
  exact h i j hi hj hij
theorem not_ok_le {L : List Le} {m : Nat} (hm : m < L.length) (h : leB L[m] = false) : ¬ LOk L := fun hd => by
  have := hd.2.1 L[m] (List.getElem_mem _)
  rw [h] at this
  cases this
theorem not_ok_adj {L : List Le} {m : Nat} (hm : m < L.length) (h0 : 0 < m) (h : ltN (L[m - 1]'(by omega)).n L[m].n = false) : ¬ LOk L := fun hd => by
  have := LOk.srt_at hd.2.2 (m - 1) m (by omega) hm (by omega)
  rw [h] at this
  cases this

/-! what is made of leaves -/
def put (L : List Le) (f : Le) : List Le := L.filter (fun g => ltN g.n f.n) ++ f :: L.filter (fun g => ltN f.n g.n)
def wout (L : List Le) (x : ByteArray) : List Le := L.filter fun g => !decide (g.n = x)
def find (L : List Le) (x : ByteArray) : Option Le := L.find? fun g => decide (g.n = x)

theorem find_some {L : List Le} {x : ByteArray} {f : Le} (h : find L x = some f) : f ∈ L ∧ f.n = x := ⟨List.mem_of_find?_eq_some h, by simpa using List.find?_some h⟩
theorem find_none {L : List Le} {x : ByteArray} (h : find L x = none) : ∀ f ∈ L, f.n ≠ x := by
  intro f hf
  have := List.find?_eq_none.1 h f hf
  simpa using this
theorem srt_inj {L : List Le} (h : Srt L) {f g : Le} (hf : f ∈ L) (hg : g ∈ L) (e : f.n = g.n) : f = g := by
  obtain ⟨i, hi, rfl⟩ := List.getElem_of_mem hf
  obtain ⟨j, hj, rfl⟩ := List.getElem_of_mem hg
  rcases Nat.lt_trichotomy i j with h1 | h1 | h1
  · exact absurd e (ltN_ne (LOk.srt_at h i j hi hj h1))
  · subst h1; rfl
  · exact absurd e.symm (ltN_ne (LOk.srt_at h j i hj hi h1))
theorem mem_put {L : List Le} {f g : Le} : g ∈ put L f ↔ g = f ∨ (g ∈ L ∧ g.n ≠ f.n) := by
  simp only [put, List.mem_append, List.mem_cons, List.mem_filter]
  constructor
  · rintro (⟨h1, h2⟩ | rfl | ⟨h1, h2⟩)
    · exact .inr ⟨h1, ltN_ne h2⟩
    · exact .inl rfl
    · exact .inr ⟨h1, (ltN_ne h2).symm⟩
  · rintro (rfl | ⟨h1, h2⟩)
    · exact .inr (.inl rfl)
    · rcases ltN_tri g.n f.n with h3 | h3 | h3
      · exact .inl ⟨h1, h3⟩
      · exact absurd h3 h2
      · exact .inr (.inr ⟨h1, h3⟩)
theorem mem_wout {L : List Le} {x : ByteArray} {g : Le} : g ∈ wout L x ↔ g ∈ L ∧ g.n ≠ x := by simp [wout]
theorem srt_wout {L : List Le} (h : Srt L) (x : ByteArray) : Srt (wout L x) := h.filter _
theorem srt_put {L : List Le} (h : Srt L) (f : Le) : Srt (put L f) := by
  unfold Srt put
  rw [List.pairwise_append]
  refine ⟨List.Pairwise.filter _ h, List.pairwise_cons.2 ⟨fun g hg => (List.mem_filter.1 hg).2, List.Pairwise.filter _ h⟩, ?_⟩
  intro a ha b hb
  have h1 := (List.mem_filter.1 ha).2
  rcases List.mem_cons.1 hb with rfl | hb
  · exact h1
  · exact ltN_trans h1 (List.mem_filter.1 hb).2
theorem len_split (L : List Le) (x : ByteArray) : (L.filter fun g => ltN g.n x).length + (L.filter fun g => ltN x g.n).length = (wout L x).length := by
  unfold wout
  induction L with
  | nil => rfl
  | cons g r ih =>
    simp only [List.filter_cons]
    rcases ltN_tri g.n x with h | h | h
    · rw [if_pos h, if_neg (by rw [ltN_asymm h]; simp), if_pos (by simpa using ltN_ne h)]
      simp only [List.length_cons]; omega
    · rw [h, if_neg (by rw [ltN_irrefl]; simp), if_neg (by rw [ltN_irrefl]; simp), if_neg (by simp)]
      exact ih
    · rw [if_neg (by rw [ltN_asymm h]; simp), if_pos h, if_pos (by simpa using (ltN_ne h).symm)]
      simp only [List.length_cons]; omega
theorem len_put (L : List Le) (f : Le) : (put L f).length = (wout L f.n).length + 1 := by
  have := len_split L f.n
  simp only [put, List.length_append, List.length_cons]
  omega
theorem wout_id {L : List Le} {x : ByteArray} (h : ∀ f ∈ L, f.n ≠ x) : wout L x = L := List.filter_eq_self.2 fun f hf => by simpa using h f hf
theorem len_wout_le (L : List Le) (x : ByteArray) : (wout L x).length ≤ L.length := List.length_filter_le _ _
theorem len_wout_lt {L : List Le} {x : ByteArray} {f : Le} (hf : f ∈ L) (hx : f.n = x) : (wout L x).length < L.length := by
  unfold wout
  refine List.length_filter_lt_length_iff_exists.2 ⟨f, hf, by simp [hx]⟩
theorem len_wout_eq : ∀ {L : List Le}, Srt L → ∀ {f : Le}, f ∈ L → (wout L f.n).length + 1 = L.length
  | [], _, f, hf => by simp at hf
  | g :: r, h, f, hf => by
    obtain ⟨h1, h2⟩ := List.pairwise_cons.1 h
    by_cases e : g.n = f.n
    · have hr : wout r f.n = r := wout_id fun x hx => by rw [← e]; exact (ltN_ne (h1 x hx)).symm
      have : wout (g :: r) f.n = wout r f.n := by unfold wout; rw [List.filter_cons, if_neg (by simp [e])]
      rw [this, hr]; rfl
    · have hfr : f ∈ r := by
        rcases List.mem_cons.1 hf with rfl | h3
        · exact absurd rfl e
        · exact h3
      have ih := len_wout_eq h2 hfr
      have : wout (g :: r) f.n = g :: wout r f.n := by unfold wout; rw [List.filter_cons, if_pos (by simp [e])]
      rw [this]
      simp only [List.length_cons]; omega
theorem srt_nodup {L : List Le} (h : Srt L) : L.Nodup := h.imp fun {a b} hab e => by subst e; rw [ltN_irrefl] at hab; cases hab
/-- two sorted lists of the same leaves are one -/
theorem srt_ext {L M : List Le} (hL : Srt L) (hM : Srt M) (h : ∀ f, f ∈ L ↔ f ∈ M) : L = M := by
  refine List.Perm.eq_of_pairwise (le := fun (f g : Le) => ltN f.n g.n = true) (fun a b _ _ h1 h2 => ?_) hL hM ((List.perm_ext_iff_of_nodup (srt_nodup hL) (srt_nodup hM)).2 h)
  rw [ltN_asymm h1] at h2
  cases h2

theorem ok_put {L : List Le} (h : Srt L) (hall : ∀ g ∈ L, leB g = true) (f : Le) (hf : leB f = true) (hl : (put L f).length ≤ 24) : LOk (put L f) := by
  refine ⟨hl, fun g hg => ?_, srt_put h f⟩
  rcases mem_put.1 hg with rfl | ⟨h1, _⟩
  · exact hf
  · exact hall g h1
theorem ok_wout {L : List Le} (h : LOk L) (x : ByteArray) : LOk (wout L x) := ⟨Nat.le_trans (len_wout_le _ _) h.1, fun g hg => h.2.1 g (mem_wout.1 hg).1, srt_wout h.2.2 x⟩
theorem len_put_in {L : List Le} (h : Srt L) {x : ByteArray} {f g : Le} (hf : find L x = some f) (hg : g.n = x) : (put L g).length = L.length := by
  obtain ⟨h1, h2⟩ := find_some hf
  rw [len_put, hg, ← h2]
  exact len_wout_eq h h1
theorem len_put_new {L : List Le} {x : ByteArray} {g : Le} (hf : find L x = none) (hg : g.n = x) : (put L g).length = L.length + 1 := by
  rw [len_put, hg, wout_id (find_none hf)]
theorem leB_of {L : List Le} {f : Le} (h : LOk (put L f)) : leB f = true := h.2.1 f (mem_put.2 (.inl rfl))

/-- may this leaf be put? -/
noncomputable def putB (L : List Le) (f : Le) : Bool := leavesB L && (leB f && ((find L f.n).isSome || decide (L.length < 24)))
/-- what is left of it -/
noncomputable def putR (L : List Le) (f : Le) : List Le := if putB L f then put L f else L
theorem putB_spec (L : List Le) (f : Le) : putB L f = (leavesB L && leavesB (put L f)) := by
  unfold putB
  cases h : leavesB L
  · rfl
  · have hok := leavesB_iff.1 h
    rw [Bool.true_and, Bool.true_and]
    by_cases hf : leB f = true
    · rw [hf, Bool.true_and]
      cases hq : find L f.n with
      | some g =>
        have hl := len_put_in hok.2.2 hq (g := f) rfl
        have := leavesB_iff.2 (ok_put hok.2.2 hok.2.1 f hf (by rw [hl]; exact hok.1))
        rw [this]
        rfl
      | none =>
        have hl := len_put_new hq (g := f) rfl
        rw [Option.isSome_none, Bool.false_or]
        by_cases hn : L.length < 24
        · rw [decide_eq_true hn, leavesB_iff.2 (ok_put hok.2.2 hok.2.1 f hf (by omega))]
        · rw [decide_eq_false hn]
          symm
          rw [leavesB_no]
          intro hd
          have := hd.1
          omega
    · have hf' : leB f = false := by simpa using hf
      rw [hf', Bool.false_and]
      symm
      rw [leavesB_no]
      intro hd
      rw [leB_of hd] at hf'
      cases hf'
theorem putB_ok {L : List Le} {f : Le} (h : putB L f = true) : LOk (put L f) := by
  rw [putB_spec, Bool.and_eq_true] at h
  exact leavesB_iff.1 h.2
noncomputable def dropB (L : List Le) (x : ByteArray) : Bool := leavesB L && (find L x).isSome
noncomputable def dropR (L : List Le) (x : ByteArray) : List Le := if dropB L x then wout L x else L
def getV (L : List Le) (x : ByteArray) : ByteArray := ((find L x).map Le.v).getD ⟨#[]⟩
def getB (L : List Le) (x : ByteArray) : Bool := (find L x).isSome

/-! their text -/
def leL (f : Le) : List UInt8 := M.varL f.n.size ++ (f.n.data.toList ++ (M.varL f.v.size ++ f.v.data.toList))
def ltL (L : List Le) : List UInt8 := L.flatMap leL
def lvL (L : List Le) : List UInt8 := M.varL L.length ++ ltL L
theorem ltL_snoc (L : List Le) (f : Le) : ltL (L ++ [f]) = ltL L ++ leL f := by simp [ltL]
theorem okB_size {p : UInt8 → Bool} {s : ByteArray} (h : okB p s = true) : 1 ≤ s.size ∧ s.size ≤ 12 := by
  unfold okB at h
  rw [Bool.and_eq_true] at h
  exact of_decide_eq_true h.1
theorem leB_sizes {f : Le} (h : leB f = true) : (1 ≤ f.n.size ∧ f.n.size ≤ 12) ∧ (1 ≤ f.v.size ∧ f.v.size ≤ 12) := by
  unfold leB at h
  rw [Bool.and_eq_true] at h
  exact ⟨okB_size h.1, okB_size h.2⟩
theorem leL_len {f : Le} (h : leB f = true) : (leL f).length ≤ 44 := by
  have h1 := leB_sizes h
  have h2 := M.varL_len f.n.size
  have h3 := M.varL_len f.v.size
  have h4 : f.n.data.toList.length = f.n.size := Array.length_toList
  have h5 : f.v.data.toList.length = f.v.size := Array.length_toList
  simp only [leL, List.length_append]
  omega
theorem ltL_len : ∀ {L : List Le}, (∀ f ∈ L, leB f = true) → (ltL L).length ≤ 44 * L.length
  | [], _ => by simp [ltL]
  | f :: r, h => by
    have h1 := leL_len (h f (by simp))
    have h2 := ltL_len (L := r) (fun g hg => h g (by simp [hg]))
    simp only [ltL, List.flatMap_cons, List.length_append, List.length_cons] at *
    omega

/-! what is read of a text -/
def leafAt (s : ByteArray) (p : Nat) : Option (Le × Nat) :=
  match shortAt s p with
  | none => none
  | some (n, q) => match shortAt s q with
    | none => none
    | some (v, r) => some (⟨n, v⟩, r)
def leavesF (s : ByteArray) : Nat → Nat → Option (List Le × Nat)
  | 0, p => some ([], p)
  | k + 1, p => match leafAt s p with
    | none => none
    | some (f, q) => match leavesF s k q with
      | none => none
      | some (l, r) => some (f :: l, r)
theorem leafAt_some {s : ByteArray} {p q : Nat} {f : Le} (hp : p ≤ s.size) (h : leafAt s p = some (f, q)) : p < q ∧ q ≤ s.size ∧ cutL s.data.toList p q = leL f := by
  unfold leafAt at h
  cases h1 : shortAt s p with
  | none => rw [h1] at h; simp at h
  | some x =>
    obtain ⟨n, b⟩ := x
    rw [h1] at h
    simp only at h
    obtain ⟨a1, a2, a3⟩ := shortAt_some hp h1
    cases h2 : shortAt s b with
    | none => rw [h2] at h; simp at h
    | some y =>
      obtain ⟨v, r⟩ := y
      rw [h2] at h
      simp only [Option.some.injEq, Prod.mk.injEq] at h
      obtain ⟨rfl, rfl⟩ := h
      obtain ⟨b1, b2, b3⟩ := shortAt_some a2 h2
      refine ⟨by omega, b2, ?_⟩
      rw [← cutL_join _ p b r (by omega) (by omega), a3, b3]
      simp [leL]
theorem leavesF_some {s : ByteArray} : ∀ {k p q : Nat} {l : List Le}, p ≤ s.size → leavesF s k p = some (l, q) → p ≤ q ∧ q ≤ s.size ∧ l.length = k ∧ cutL s.data.toList p q = ltL l
  | 0, p, q, l, hp, h => by
    simp only [leavesF, Option.some.injEq, Prod.mk.injEq] at h
    obtain ⟨rfl, rfl⟩ := h
    exact ⟨Nat.le_refl _, hp, rfl, by simp [cutL, ltL]⟩
  | k + 1, p, q, l, hp, h => by
    rw [leavesF] at h
    cases h1 : leafAt s p with
    | none => rw [h1] at h; simp at h
    | some x =>
      obtain ⟨f, b⟩ := x
      rw [h1] at h
      simp only at h
      obtain ⟨a1, a2, a3⟩ := leafAt_some hp h1
      cases h2 : leavesF s k b with
      | none => rw [h2] at h; simp at h
      | some y =>
        obtain ⟨m, r⟩ := y
        rw [h2] at h
        simp only [Option.some.injEq, Prod.mk.injEq] at h
        obtain ⟨rfl, rfl⟩ := h
        obtain ⟨b1, b2, b3, b4⟩ := leavesF_some a2 h2
        refine ⟨by omega, b2, by simp [b3], ?_⟩
        rw [← cutL_join _ p b r (by omega) (by omega), a3, b4]
        simp [ltL]
/-- one more behind -/
theorem leavesF_snoc (s : ByteArray) : ∀ (k p : Nat), leavesF s (k + 1) p = match leavesF s k p with
    | none => none
    | some (l, q) => match leafAt s q with
      | none => none
      | some (f, r) => some (l ++ [f], r)
  | 0, p => by
    rw [leavesF]
    cases h : leafAt s p with
    | none => simp [leavesF, h]
    | some x => obtain ⟨f, q⟩ := x; simp [leavesF, h]
  | k + 1, p => by
    rw [leavesF]
    cases h : leafAt s p with
    | none => simp [leavesF, h]
    | some x =>
      obtain ⟨f, q⟩ := x
      simp only
      rw [leavesF_snoc s k q]
      rw [leavesF, h]
      simp only
      cases h2 : leavesF s k q with
      | none => simp
      | some y =>
        obtain ⟨l, r⟩ := y
        simp only
        cases h3 : leafAt s r with
        | none => simp
        | some z => obtain ⟨g, t⟩ := z; simp
/-- once a leaf fails, none more are read -/
theorem leavesF_none {s : ByteArray} {m p : Nat} (h : leavesF s m p = none) : ∀ k, m ≤ k → leavesF s k p = none := by
  intro k hk
  induction k with
  | zero =>
    have : m = 0 := by omega
    subst this
    exact h
  | succ k ih =>
    rcases Nat.lt_or_ge k m with h1 | h1
    · have : m = k + 1 := by omega
      subst this
      exact h
    · rw [leavesF_snoc, ih h1]

open Classical in
/-- the leaves that a text tells, with the place behind them -/
noncomputable def atL (s : ByteArray) (p : Nat) : Option (List Le × Nat) :=
  match M.readVar s.data.toList p with
  | none => none
  | some (n, q) => if 24 < n then none else
    match leavesF s n q with
    | none => none
    | some (l, e) => if LOk l then some (l, e) else none
noncomputable def readL (s : ByteArray) : Option (List Le) :=
  match atL s 0 with
  | none => none
  | some (l, e) => if e = s.size then some l else none

end LV
end Go.Proofs.YthlgohplljcgfaaGreatDoor
/-
  What the laws' own helpers do with leaves: taken over, compared, weighed.
-/
namespace Go.Proofs.YthlgohplljcgfaaGreatDoor
open Go.RowKit Go.BigFrame Go.Sort
set_option linter.unusedVariables false
set_option linter.unusedSimpArgs false

def lcs (f : Le) : List Value := [.string f.n, .string f.v]
theorem lcs_len (f : Le) : (lcs f).length = 2 := rfl
theorem RS.leaf {w : World} {v : Value} {g o : Nat} {l : List Le} (h : RS 2 lcs w v g o l) (j : Nat) (hj : j < l.length) :
    w.cell? ⟨g, o + j * 2, none⟩ = some (.string l[j].n) ∧ w.cell? ⟨g, o + j * 2 + 1, none⟩ = some (.string l[j].v) := by
  obtain ⟨a, c, _, _, _, hc⟩ := h
  exact ⟨hc j hj 0 _ rfl, hc j hj 1 _ rfl⟩
theorem range2 {w : World} {g o : Nat} {u1 u2 : Value} (h1 : w.cell? ⟨g, o, none⟩ = some u1) (h2 : w.cell? ⟨g, o + 1, none⟩ = some u2) : w.rangeAt g o [u1, u2] := fun j v hv => by
  match j, hv with
  | 0, hv => simp at hv; subst hv; exact h1
  | 1, hv => simp at hv; subst hv; exact h2
theorem there2 {w : World} {g o : Nat} (h : w.there g o 2) : (∃ u, w.cell? ⟨g, o, none⟩ = some u) ∧ (∃ u, w.cell? ⟨g, o + 1, none⟩ = some u) ∧ w.frozen? ⟨g, o, none⟩ = false ∧ w.frozen? ⟨g, o + 1, none⟩ = false :=
  ⟨Option.isSome_iff_exists.1 (h 0 (by omega)).1, Option.isSome_iff_exists.1 (h 1 (by omega)).1, (h 0 (by omega)).2, (h 1 (by omega)).2⟩
theorem sizeLeaf : (Tryz.prog.info? 134).map (·.size) = some 2 := by kernel_rfl

set_option maxRecDepth 100000 in
set_option maxHeartbeats 400000 in
theorem toLeaf_any (f : Le) (w : World) : Calls Tryz.prog 125 #[.agg #[.string f.n, .string f.v]] w fun e w' => e = .returned (.agg #[.string f.n, .string f.v]) ∧ Below w.heap.size w w' := by
  obtain ⟨x, t⟩ := f
  go_enter Tryz.func125, Tryz.ntmps125
  go_wp2
  refine ret_rec 2 (w.heap.size + 1) 134 [.string x, .string t] _ rfl rfl rfl Tryz.underlying134 rfl sizeLeaf ?_ ?_
  · exact World.rangeAt_alloc (range_at (by simp) (range_new _ [.string x, .string t] _)) _
  · exact ⟨rfl, (((Below.refl _ _).alloc (Nat.le_refl _) _).alloc (by simp) _).alloc (by simp; omega) _⟩


theorem Tryz.infoLeaf : (Tryz.prog.info? 134).map (fun i => (i.zero, i.size, i.bytes)) = some (some (.agg #[.string ByteArray.empty, .string ByteArray.empty]), 2, 32) := by kernel_rfl
theorem there_new2 {W : World} {cs : Array Value} {T n : Nat} (h : cs.size = n * 2) (j : Nat) (hj : j < n) : (W.alloc (.cells cs T)).there W.heap.size (j * 2) 2 := by
  intro i hi
  have hg := Go.heap_alloc_new W (.cells cs T)
  refine ⟨?_, by unfold World.frozen?; simp only [hg]; simp⟩
  rw [cell_of_row _ W.heap.size (j * 2 + i) cs T (0, 0) hg, Array.getElem?_eq_getElem (by omega)]
  rfl
theorem made_leaves (n : Nat) (h : n ≤ 1100000) (W : World) : ∃ w', (Instr.makeSlice 59 (.int .i64 (n : Int)) (.int .i64 (n : Int))).run Tryz.prog W = .ok (.slice (some ⟨W.heap.size, 0, none⟩) n n) w' ∧ (∀ j, j < n → w'.there W.heap.size (j * 2) 2) ∧ Below W.heap.size W w' ∧ w'.heap.size = W.heap.size + 1 := by
  obtain ⟨i0, hi, hz0, hz1, hz2⟩ := info_parts Tryz.infoLeaf
  have h1 := run_make (P := Tryz.prog) W 59 134 i0 _ Tryz.underlying59 hi hz0 .i64 .i64 (n : Int) (n : Int) (by omega) (by omega) (by rw [hz2]; omega) (by omega)
  refine ⟨_, by simpa using h1, fun j hj => there_new2 ?_ j hj, (Below.refl _ _).alloc (Nat.le_refl _) _, by simp⟩
  rw [size_madeCells, hz1]

/-- the first m records of a new row are written -/
def ToL (w : World) (l : List Le) (B g : Nat) (i : Value) (wr : World) : Prop := ∃ m : Nat, m ≤ l.length ∧ i = .int .i64 m ∧ (∀ j (h : j < l.length), j < m → wr.rangeAt g (j * 2) (lcs l[j])) ∧ (∀ j, j < l.length → wr.there g (j * 2) 2) ∧ Below B w wr
theorem ToL.set {w wr : World} {l : List Le} {g m B : Nat} (hm : m < l.length) (hB : B ≤ g) (h1 : ∀ j (h : j < l.length), j < m → wr.rangeAt g (j * 2) (lcs l[j])) (h2 : ∀ j, j < l.length → wr.there g (j * 2) 2) (h3 : Below B w wr) :
    (∀ j (h : j < l.length), j < m + 1 → (wr.setCells g (m * 2) (lcs l[m])).rangeAt g (j * 2) (lcs l[j])) ∧ (∀ j, j < l.length → (wr.setCells g (m * 2) (lcs l[m])).there g (j * 2) 2) ∧ Below B w (wr.setCells g (m * 2) (lcs l[m])) := by
  refine ⟨fun j hj hlt => ?_, fun j hj => World.there_setCells (h2 j hj) _ _ _, ?_⟩
  · rcases Nat.lt_or_ge j m with h4 | h4
    · exact World.rangeAt_setCells_apart (h1 j hj h4) _ _ _ (.inr (.inl (by rw [lcs_len]; omega)))
    · have : j = m := by omega
      subst this
      exact World.rangeAt_setCells_same _ _ _ _ (h2 j hj)
  · exact below_setCells hB _ _ _ h3

set_option maxRecDepth 100000 in
set_option maxHeartbeats 400000 in
theorem toLeafS_any (v : Value) (ga oa : Nat) (l : List Le) (w : World) (hv : RS 2 lcs w v ga oa l) :
    Calls Tryz.prog 91 #[v] w fun e w' => ∃ g, e = .returned (.slice (some ⟨g, 0, none⟩) l.length l.length) ∧ w.heap.size ≤ g ∧ RW 2 lcs w' (.slice (some ⟨g, 0, none⟩) l.length l.length) g l ∧ g < w'.heap.size ∧ Below w.heap.size w w' := by
  have HV : Hid (RS 2 lcs w v ga oa l) := hv
  obtain ⟨a, cap, rfl, hl, hA, hc⟩ := hv
  obtain ⟨n, hn⟩ : ∃ n, l.length = n := ⟨_, rfl⟩
  obtain ⟨w2, hmk, hib, hb2, hs2⟩ := made_leaves n (by omega) w
  have HST : Hid (ToL w l w.heap.size w.heap.size (.int .i64 0) w2 ∧ w.heap.size < w2.heap.size) := ⟨⟨0, by omega, rfl, fun j _ h => by omega, by rw [hn]; exact hib, hb2⟩, by omega⟩
  have HA : Hid (0 < n → a = some ⟨ga, oa, none⟩) := by rw [← hn]; exact fun h => (hA h).1
  rw [hn] at hl ⊢
  clear hib hb2 hs2 hA hc
  go_enter Tryz.func91, Tryz.ntmps91
  go_wp2
  clear hmk
  go_loopw [4] (fun i wr => ToL w l w.heap.size w.heap.size i wr ∧ w.heap.size < wr.heap.size) (fun i _ => n - (intOf i).toNat)
  case atStart => exact HST.out
  case round =>
    obtain ⟨⟨m, hm, rfl, h1, h2, hbel⟩, hws⟩ := hrel
    have HI : Hid ((∀ j (h : j < l.length), j < m → wr.rangeAt w.heap.size (j * 2) (lcs l[j])) ∧ (∀ j, j < l.length → wr.there w.heap.size (j * 2) 2) ∧ Below w.heap.size w wr) := ⟨h1, h2, hbel⟩
    clear HST h1 h2 hbel
    rw [hn] at hm
    by_cases hlt : m < n
    · have ea := HA.out (by omega)
      subst ea
      obtain ⟨c0, c1⟩ := (HV.out.later HI.out.2.2).leaf m (by omega)
      obtain ⟨X, hX⟩ : ∃ X, l[m]'(by omega) = X := ⟨_, rfl⟩
      rw [hX] at c0 c1
      have HX : Hid (l[m]'(by omega) = X) := hX
      have i1 : (m : Int) < (n : Int) := by omega
      have i2 : (0 : Int) ≤ (m : Int) := by omega
      clear hX HV HA
      go_wp2_with fail
      refine (toLeaf_any X _).mono ?_
      rintro e w1 ⟨rfl, hb1⟩
      have HJ : Hid ((∀ j (h : j < l.length), j < m + 1 → (w1.setCells w.heap.size (m * 2) (lcs X)).rangeAt w.heap.size (j * 2) (lcs l[j])) ∧ (∀ j, j < l.length → (w1.setCells w.heap.size (m * 2) (lcs X)).there w.heap.size (j * 2) 2) ∧ Below w.heap.size w (w1.setCells w.heap.size (m * 2) (lcs X))) := by
        have h := ToL.set (w := w) (wr := w1) (l := l) (g := w.heap.size) (m := m) (B := w.heap.size) (by omega) (Nat.le_refl _) (fun j hj h => range_kept (HI.out.1 j hj h) (hb1.block _ hws)) (fun j hj => there_kept (HI.out.2.1 j hj) (hb1.block _ hws)) (HI.out.2.2.trans (hb1.mono HI.out.2.2.size))
        rw [HX.out] at h
        exact h
      have HT : Hid (w1.there w.heap.size (m * 2) 2) := there_kept (HI.out.2.1 m (by omega)) (hb1.block _ hws)
      have hws1 : w.heap.size < (w1.setCells w.heap.size (m * 2) (lcs X)).heap.size := by rw [size_setCells]; exact Nat.lt_of_lt_of_le hws hb1.size
      clear hb1 HI c0 c1
      obtain ⟨⟨o0, x0⟩, ⟨o1, x1⟩, f0, f1⟩ := there2 HT.out
      go_wp2
      go_roundw
      case rel => exact ⟨⟨m + 1, by omega, by go_num, HJ.out⟩, hws1⟩
      case measure => simp [intOf]; omega
    · have hme : m = n := by omega
      subst hme
      clear HV HA
      go_wp2
      go_ret
      refine ⟨w.heap.size, rfl, Nat.le_refl _, ⟨⟨_, _, by rw [hn], by omega, fun _ => ⟨rfl, hws⟩, fun j hj => ?_⟩, HI.out.2.1⟩, hws, HI.out.2.2⟩
      rw [Nat.zero_add]
      exact HI.out.1 j hj (by omega)

theorem eqLeaf_yes (f : Le) (w : World) : Calls Tryz.prog 123 #[.agg #[.string f.n, .string f.v], .agg #[.string f.n, .string f.v]] w fun e w' => e = .returned (.bool true) ∧ Below w.heap.size w w' := by
  obtain ⟨x, t⟩ := f
  have hb : Below w.heap.size w ((w.alloc (.cells #[.string x, .string t] 134)).alloc (.cells #[.string x, .string t] 134)) := ((Below.refl _ _).alloc (Nat.le_refl _) _).alloc (by simp) _
  go_enter Tryz.func123, Tryz.ntmps123
  go_wp2
  go_ret
  exact ⟨rfl, hb⟩


def ElR (n : Nat) (w : World) (i : Value) (wr : World) : Prop := ∃ m : Nat, m ≤ n ∧ i = .int .i64 m ∧ Below w.heap.size w wr

set_option maxRecDepth 100000 in
set_option maxHeartbeats 400000 in
theorem eqLeafS_yes (u v : Value) (ga oa gb ob : Nat) (l : List Le) (w : World) (hu : RS 2 lcs w u ga oa l) (hv : RS 2 lcs w v gb ob l) :
    Calls Tryz.prog 82 #[u, v] w fun e w' => e = .returned (.bool true) ∧ Below w.heap.size w w' := by
  have HU : Hid (RS 2 lcs w u ga oa l) := hu
  have HV : Hid (RS 2 lcs w v gb ob l) := hv
  obtain ⟨a, cap, rfl, hl, hA, _⟩ := hu
  obtain ⟨b, cap2, rfl, _, hB, _⟩ := hv
  obtain ⟨n, hn⟩ : ∃ n, l.length = n := ⟨_, rfl⟩
  have HA : Hid (0 < n → a = some ⟨ga, oa, none⟩ ∧ b = some ⟨gb, ob, none⟩) := by rw [← hn]; exact fun h => ⟨(hA h).1, (hB h).1⟩
  rw [hn] at hl ⊢
  clear hA hB
  go_enter Tryz.func82, Tryz.ntmps82
  go_wp2
  go_loopw [5] (fun i wr => ElR n w i wr) (fun i _ => n - (intOf i).toNat)
  case atStart => exact ⟨0, by omega, rfl, Below.refl _ _⟩
  case round =>
    obtain ⟨m, hm, rfl, hbel⟩ := hrel
    by_cases hlt : m < n
    · obtain ⟨ea, eb⟩ := HA.out (by omega)
      subst ea
      subst eb
      obtain ⟨c0, c1⟩ := (HU.out.later hbel).leaf m (by omega)
      obtain ⟨e0, e1⟩ := (HV.out.later hbel).leaf m (by omega)
      generalize l[m]'(by omega) = X at *
      have i1 : (m : Int) < (n : Int) := by omega
      have i2 : (0 : Int) ≤ (m : Int) := by omega
      clear HU HV HA
      go_wp2
      have kq0 := cell_regrown (w := wr) c0
      have kq1 := cell_regrown (w := wr) c1
      have kq3 := cell_regrown (w := wr) e0
      have kq4 := cell_regrown (w := wr) e1
      have cq0 := fun d os => Calls.regrown_of (w := wr) (d := d) (os := os) (eqLeaf_yes X _)
      refine wp_region_quiet_below (by kernel_rfl) (by kernel_rfl) ?_
      repeat (go_big_quiet_step (first | exact cq0 _ _))
      refine wpQuiet_nil ?_
      rintro _ ⟨⟨dq, osq⟩, rfl⟩
      have hb6 := below_regrown (wr) dq osq
      generalize grow (redrawn (wr) dq) osq = w6 at *
      clear kq0 kq1 kq3 kq4 cq0
      go_wp2
      go_roundw
      case rel => exact ⟨m + 1, by omega, by go_num, hbel.trans (hb6.mono hbel.size)⟩
      case measure => simp [intOf]; omega
    · have hme : m = n := by omega
      subst hme
      clear HU HV HA
      go_wp2
      go_ret
      exact ⟨rfl, hbel⟩

set_option maxHeartbeats 400000 in
theorem szLeaf_any (f : Le) (x : Int) (w : World) (h0 : 0 ≤ x) (h1 : x ≤ 1048576) (hn : f.n.size ≤ 9223372036854775807) (ht : f.v.size ≤ 9223372036854775807) :
    Calls Tryz.prog 124 #[.agg #[.string f.n, .string f.v], .int .i64 x] w fun e w' => ∃ A : Int, e = .returned (.int .i64 A) ∧ Below w.heap.size w w' ∧ A ≤ x ∧ (0 ≤ A → f.n.size ≤ 1048576 ∧ f.v.size ≤ 1048576) := by
  obtain ⟨y, t⟩ := f
  simp only at hn ht ⊢
  have HB : Hid (Below w.heap.size w (w.alloc (.cells #[.string y, .string t] 161))) := (Below.refl _ _).alloc (Nat.le_refl _) _
  by_cases h2 : x - (y.size : Int) < 0
  · go_enter Tryz.func124, Tryz.ntmps124
    go_wp2
    go_ret
    exact ⟨_, rfl, HB.out, by omega, fun h => by omega⟩
  · by_cases h3 : x - (y.size : Int) - (t.size : Int) < 0
    · go_enter Tryz.func124, Tryz.ntmps124
      go_wp2
      go_ret
      exact ⟨_, rfl, HB.out, by omega, fun h => by omega⟩
    · go_enter Tryz.func124, Tryz.ntmps124
      go_wp2
      go_ret
      exact ⟨_, rfl, HB.out, by omega, fun h => ⟨by omega, by omega⟩⟩

/-- a row of leaves that was handed in, great or small: if it is small, it is l -/
def IsRowL (w : World) (v : Value) (g o : Nat) (l : List Le) : Prop := ∃ a n cap, v = .slice a n cap ∧ n ≤ 9223372036854775807 ∧ (n ≤ 1100000 → l.length = n ∧ RS 2 lcs w v g o l ∧ ∀ f ∈ l, f.n.size ≤ 9223372036854775807 ∧ f.v.size ≤ 9223372036854775807)
theorem IsRowL.later {w w' : World} {v : Value} {g o : Nat} {l : List Le} (h : IsRowL w v g o l) (hb : Below w.heap.size w w') : IsRowL w' v g o l := by
  obtain ⟨a, n, cap, hv, hn, hr⟩ := h
  exact ⟨a, n, cap, hv, hn, fun hl => ⟨(hr hl).1, (hr hl).2.1.later hb, (hr hl).2.2⟩⟩
/-- no text of it is great -/
def SmallL (l : List Le) : Prop := ∀ f ∈ l, f.n.size ≤ 1048576 ∧ f.v.size ≤ 1048576

def SzL (l : List Le) (x0 : Int) (w : World) (x i : Value) (wr : World) : Prop := ∃ (m : Nat) (y : Int), m ≤ l.length ∧ i = .int .i64 m ∧ x = .int .i64 y ∧ 0 ≤ y ∧ y ≤ x0 ∧ Hid (∀ j (h : j < l.length), j < m → l[j].n.size ≤ 1048576 ∧ l[j].v.size ≤ 1048576) ∧ Below w.heap.size w wr

set_option maxRecDepth 100000 in
set_option maxHeartbeats 400000 in
theorem szLeafS_row (v : Value) (g o : Nat) (l : List Le) (x : Int) (w : World) (hv : IsRowL w v g o l) (h0 : 0 ≤ x) (h1 : x ≤ 1048576) :
    Calls Tryz.prog 89 #[v, .int .i64 x] w fun e w' => ∃ A : Int, e = .returned (.int .i64 A) ∧ Below w.heap.size w w' ∧ A ≤ x ∧ (0 ≤ A → RS 2 lcs w v g o l ∧ SmallL l ∧ l.length ≤ 1048576) := by
  obtain ⟨a, n, cap, rfl, hn, hr⟩ := hv
  by_cases hbig : x < (n : Int)
  · have q : x - (n : Int) < 0 := by omega
    go_enter Tryz.func89, Tryz.ntmps89
    go_wp2
    go_ret
    exact ⟨_, rfl, Below.refl _ _, by omega, fun h => by omega⟩
  obtain ⟨hln, hrs, hsz⟩ := hr (by omega)
  have HRS : Hid (RS 2 lcs w (.slice a n cap) g o l) := hrs
  have HSZ : Hid (∀ f ∈ l, f.n.size ≤ 9223372036854775807 ∧ f.v.size ≤ 9223372036854775807) := hsz
  have HLN : Hid (l.length = n) := hln
  obtain ⟨a', c', ev, _, hA, _⟩ := hrs
  have HA : Hid (0 < n → a = some ⟨g, o, none⟩) := fun h => by
    have := (hA (by omega)).1
    simp at ev
    rw [ev.1, this]
  clear hr hA hsz ev
  have q : ¬ x - (n : Int) < 0 := by omega
  go_enter Tryz.func89, Tryz.ntmps89
  go_wp2
  go_loopw [1, 5] (fun y i wr => SzL l (x - (n : Int)) w y i wr) (fun _ i _ => n - (intOf i).toNat)
  case atStart => exact ⟨0, x - (n : Int), by omega, rfl, by go_num, by omega, by omega, fun j _ h => by omega, Below.refl _ _⟩
  case round =>
    obtain ⟨m, y, hm, rfl, rfl, hy0, hy1, HJ, hbel⟩ := hrel
    by_cases hlt : m < n
    · have ea := HA.out (by omega)
      subst ea
      obtain ⟨c0, c1⟩ := (HRS.out.later hbel).leaf m (by omega)
      obtain ⟨X, hX⟩ : ∃ X, l[m]'(by omega) = X := ⟨_, rfl⟩
      rw [hX] at c0 c1
      have hxs := HSZ.out X (by rw [← hX]; exact List.getElem_mem _)
      have HX : Hid (l[m]'(by omega) = X) := hX
      have i1 : (m : Int) < (n : Int) := by omega
      have i2 : (0 : Int) ≤ (m : Int) := by omega
      clear hX HSZ HA HRS
      go_wp2_with fail
      refine (szLeaf_any X y _ hy0 (by omega) hxs.1 hxs.2).mono ?_
      rintro e w1 ⟨A, rfl, hb1, hA1, hA2⟩
      have hbel1 := hbel.trans (hb1.mono hbel.size)
      have HA2 : Hid (0 ≤ A → X.n.size ≤ 1048576 ∧ X.v.size ≤ 1048576) := hA2
      clear hb1 hA2 c0 c1 hbel hxs
      by_cases hneg : A < 0
      · clear HJ HX HA2
        go_wp2
        try rw [Exit.noGoto_ret]
        go_ret
        exact ⟨_, rfl, hbel1, by omega, fun h => by omega⟩
      · go_wp2
        go_roundw
        case rel =>
          refine ⟨m + 1, A, by omega, by go_num, rfl, by omega, by omega, ?_, hbel1⟩
          intro j hj hjl
          rcases Nat.lt_or_ge j m with h3 | h3
          · exact HJ.out j hj h3
          · have : j = m := by omega
            subst this
            rw [HX.out]
            exact HA2.out (by omega)
        case measure => simp [intOf]; omega
    · have hme : m = n := by omega
      have HF : Hid (RS 2 lcs w (.slice a n cap) g o l ∧ SmallL l ∧ l.length ≤ 1048576) := ⟨HRS.out, fun f hf => by
        obtain ⟨j, hj, rfl⟩ := List.getElem_of_mem hf
        exact HJ.out j hj (by omega), by omega⟩
      subst hme
      clear HJ HA HRS HSZ
      go_wp2
      go_ret
      exact ⟨_, rfl, hbel, by omega, fun _ => HF.out⟩


end Go.Proofs.YthlgohplljcgfaaGreatDoor
