/-
  Texts laid together: Dd, Mk, Sh.
-/
import Derived.Test.YtodibhiinfbhiaaDoorRows
import Derived.WalkKit
import Derived.Lib.ItoaMem
import Derived.Test.YtodibhiinfbhiaaDoorPkL18
import Derived.Deep.RegionHeld3
import Derived.Test.YtodibhiinfbhiaaDoorPkL17
import Derived.Test.YtodibhiinfbhiaaDoorPkL2
/-
  What the specification's Decimal answers: the numeral that strconv.Itoa's own contract names.
-/
namespace Go.Proofs.YtodibhiinfbhiaaDoor.D
open Go.RowKit
set_option linter.unusedVariables false

def fig (x : Nat) : UInt8 := UInt8.ofNat (48 + x)

def decR : Nat → Nat → List UInt8
  | 0, _ => []
  | f + 1, n => if n = 0 then [] else decR f (n / 10) ++ [fig (n % 10)]

theorem decR_digits : ∀ (f n : Nat), 0 < n → n < 10 ^ f → decR f n = Lib.decDigits n := by
  intro f
  induction f with
  | zero => intro n h0 h; simp at h; omega
  | succ f ih =>
    intro n h0 h
    rw [decR, if_neg (by omega)]
    by_cases hs : n < 10
    · rw [Lib.decDigits_one hs]
      have e1 : n / 10 = 0 := by omega
      have e2 : n % 10 = n := by omega
      rw [e1, e2]
      have e3 : decR f 0 = [] := by cases f <;> simp [decR]
      rw [e3]
      rfl
    · rw [Lib.decDigits, dif_neg hs, ih (n / 10) (by omega) (by rw [Nat.pow_succ] at h; omega)]
      rfl

theorem fig_nat (x : Nat) (h : x < 10) : (fig x).toNat = 48 + x := by
  unfold fig
  simp
  omega

theorem one_str (w : World) (b : UInt8) : (convert 22 9 (.slice (some ⟨w.heap.size, 0, none⟩) 1 1)).run Tryd.prog (w.alloc (.cells #[.int .u8 (b.toNat : Int)] 5)) = .ok (.string ⟨[b].toArray⟩) (w.alloc (.cells #[.int .u8 (b.toNat : Int)] 5)) := by
  refine run_convert_bytes_back (P := Tryd.prog) _ 22 9 5 ⟨w.heap.size, 0, none⟩ 1 [b] Tryd.underlying22 Tryd.underlying5 Tryd.underlying9 ?_
  intro j hj
  have h0 : j = 0 := by simpa using hj
  subst h0
  simp [Addr.add]

/-- one figure ahead of a text -/
def consB (b : UInt8) (t : ByteArray) : ByteArray := ⟨[b].toArray⟩ ++ t
theorem consB_list (b : UInt8) (t : ByteArray) : (consB b t).data.toList = b :: t.data.toList := by
  unfold consB
  simp
theorem consB_size (b : UInt8) (t : ByteArray) : (consB b t).size = t.size + 1 := by
  unfold consB
  rw [ByteArray.size_append]
  show 1 + t.size = _
  omega

def itoaB (n : Int) : ByteArray := ⟨(Lib.itoa n).toArray⟩

def DecRel (sg : Int) (n : Nat) (w : World) (x s : Value) (wr : World) : Prop :=
  ∃ (m f : Nat) (t : ByteArray), m ≤ n ∧ x = .int .i64 (sg * m) ∧ s = .string t ∧ t.size + f = 20 ∧ Hid (m < 10 ^ f) ∧ Hid (decR f m ++ t.data.toList = decR 20 n) ∧ Below w.heap.size w wr

theorem dec_end {n m f : Nat} {t : ByteArray} (h0 : 0 < n) (hn : n < 10 ^ 20) (hm : m = 0) (h : decR f m ++ t.data.toList = decR 20 n) : t = ⟨(Lib.decDigits n).toArray⟩ := by
  have h2 : decR f m = [] := by rw [hm]; cases f <;> simp [decR]
  rw [h2, List.nil_append, decR_digits 20 n h0 hn] at h
  rw [← h]

theorem dec_step {n m f : Nat} {t : ByteArray} (hm : ¬ m = 0) (hF : m < 10 ^ f) (h : decR f m ++ t.data.toList = decR 20 n) : ∃ f', f = f' + 1 ∧ m / 10 < 10 ^ f' ∧ decR f' (m / 10) ++ (consB (fig (m % 10)) t).data.toList = decR 20 n := by
  cases f with
  | zero => simp at hF; omega
  | succ f =>
    refine ⟨f, rfl, by rw [Nat.pow_succ] at hF; omega, ?_⟩
    rw [decR, if_neg hm] at h
    rw [consB_list]
    simpa using h

end Go.Proofs.YtodibhiinfbhiaaDoor.D
/-
  What the laws' own helpers do: markText, markStringS, heldStringS, from any first number on.
-/
namespace Go.Proofs.YtodibhiinfbhiaaDoor
open Go.RowKit
set_option linter.unusedVariables false

theorem one_strI (w : World) (x : Int) (b : UInt8) (h : x = (b.toNat : Int)) : (convert 22 9 (.slice (some ⟨w.heap.size, 0, none⟩) 1 1)).run Tryd.prog (w.alloc (.cells #[.int .u8 x] 5)) = .ok (.string ⟨[b].toArray⟩) (w.alloc (.cells #[.int .u8 x] 5)) := by
  subst h
  exact D.one_str w b

def markB (k : Nat) : ByteArray := D.consB 109 ⟨(Lib.decDigits k).toArray⟩

def MkRel (n : Nat) (w : World) (x s : Value) (wr : World) : Prop :=
  ∃ (m f : Nat) (t : ByteArray), m ≤ n ∧ x = .int .i64 m ∧ s = .string t ∧ t.size + f = 20 ∧ Hid (m < 10 ^ f) ∧ Hid (D.decR f m ++ t.data.toList = D.decR 20 n) ∧ Below w.heap.size w wr

/-- n marks from k on -/
def marks (k n : Nat) : List ByteArray := (List.range n).map fun j => markB (k + j)
theorem marks_len (k n : Nat) : (marks k n).length = n := by simp [marks]
theorem marks_at (k n j : Nat) (h : j < (marks k n).length) : (marks k n)[j] = markB (k + j) := by simp [marks]
theorem marks_set (k : Nat) (l : List ByteArray) (m : Nat) (h : m < l.length) : (marks k m ++ l.drop m).set m (markB (k + m)) = marks k (m + 1) ++ l.drop (m + 1) := by
  have e : l.drop m = l[m] :: l.drop (m + 1) := List.drop_eq_getElem_cons h
  rw [e, List.set_append_right _ _ (by rw [marks_len]; exact Nat.le_refl _), marks_len, Nat.sub_self]
  simp only [List.set_cons_zero, marks, List.range_succ, List.map_append, List.map_cons, List.map_nil, List.append_assoc, List.cons_append, List.nil_append]

theorem grown_below {w w' : World} {row : Option Nat} (h : Below w.heap.size w w') : w.grownBy w' row := ⟨h.os, h.tape, h.output, h.size, fun k hk _ => h.block k hk⟩
theorem grown_refl (w : World) (row : Option Nat) : w.grownBy w row := grown_below (Below.refl _ _)
theorem TB.keptG {w w' : World} {g : Nat} {row : Option Nat} {l : List ByteArray} (h : TB w g l) (hg : w.grownBy w' row) (hne : some g ≠ row) : TB w' g l := by
  have hlt := h.lt
  obtain ⟨cur, h1, h2⟩ := h
  exact ⟨cur, by rw [hg.block g hlt hne]; exact h1, h2⟩

/-- a row of texts that may be written, at the head of block g -/
def TS (w : World) (v : Value) (g : Nat) (l : List ByteArray) : Prop :=
  ∃ a cap, v = .slice a l.length cap ∧ l.length ≤ 1100000 ∧ (0 < l.length → a = some ⟨g, 0, none⟩ ∧ TB w g l)
theorem TS.len {w : World} {v : Value} {g : Nat} {l : List ByteArray} (h : TS w v g l) : l.length ≤ 1100000 := by
  obtain ⟨a, cap, rfl, hl, _⟩ := h
  exact hl
theorem TS.ss {w : World} {v : Value} {g : Nat} {l : List ByteArray} (h : TS w v g l) : SS w v g 0 l := by
  obtain ⟨a, cap, rfl, hl, h2⟩ := h
  exact ⟨a, cap, rfl, by omega, fun h0 => (h2 h0).1, fun j hj => by rw [Nat.zero_add]; exact (h2 (by omega)).2.cell j hj⟩
theorem TS.keptG {w w' : World} {v : Value} {g : Nat} {row : Option Nat} {l : List ByteArray} (h : TS w v g l) (hg : w.grownBy w' row) (hne : 0 < l.length → some g ≠ row) : TS w' v g l := by
  obtain ⟨a, cap, rfl, hl, h2⟩ := h
  exact ⟨a, cap, rfl, hl, fun h0 => ⟨(h2 h0).1, (h2 h0).2.keptG hg (hne h0)⟩⟩
theorem TS.later {w w' : World} {v : Value} {g : Nat} {l : List ByteArray} (h : TS w v g l) (hb : Below w.heap.size w w') : TS w' v g l := h.keptG (row := none) (grown_below hb) (fun _ => by simp)
theorem TS.drewN {w : World} {v : Value} {g : Nat} {l : List ByteArray} (h : TS w v g l) (n : Nat) : TS (w.drewN n) v g l := h
theorem TS.lt {w : World} {v : Value} {g : Nat} {l : List ByteArray} (h : TS w v g l) : 0 < l.length → g < w.heap.size := by
  obtain ⟨a, cap, rfl, hl, h2⟩ := h
  exact fun h0 => (h2 h0).2.lt
theorem TB.ts {w : World} {g : Nat} {l : List ByteArray} (h : TB w g l) (n cap : Nat) (hn : l.length = n) (hl : n ≤ 1100000) : TS w (.slice (some ⟨g, 0, none⟩) n cap) g l := by
  subst hn
  exact ⟨_, _, rfl, hl, fun _ => ⟨rfl, h⟩⟩
theorem TS.nil (w : World) (g : Nat) : TS w (.slice none 0 0) g [] := ⟨_, _, rfl, by simp, fun h => absurd h (by simp)⟩
theorem OS.ts {B : Nat} {w0 w : World} {v : Value} {l : List ByteArray} (h : OS B w0 w v l) (hl : l.length ≤ 1100000) : ∃ g, TS w v g l ∧ B ≤ g := by
  rcases h.shape with ⟨rfl, rfl⟩ | ⟨g, cap, rfl, hg, _⟩
  · exact ⟨B, TS.nil w B, Nat.le_refl _⟩
  · exact ⟨g, h.tb.ts _ _ rfl hl, hg⟩

/-- the block of a row that is not empty -/
def rowOf (g : Nat) (l : List ByteArray) : Option Nat := if l.length = 0 then none else some g
theorem rowOf_some {g : Nat} {l : List ByteArray} (h : 0 < l.length) : rowOf g l = some g := if_neg (by omega)
theorem rowOf_ne {g k : Nat} {l : List ByteArray} (h : 0 < l.length → k ≠ g) : some k ≠ rowOf g l := by
  unfold rowOf
  split
  · simp
  · have := h (by omega)
    simpa using this

def MsRel (k0 : Nat) (w : World) (g : Nat) (l : List ByteArray) (x i : Value) (wr : World) : Prop :=
  ∃ k : Nat, k ≤ l.length ∧ i = .int .i64 k ∧ x = .int .i64 (k0 + k : Nat) ∧ (0 < l.length → TB wr g (marks k0 k ++ l.drop k)) ∧ w.grownBy wr (rowOf g l)

def HsRel (k0 n : Nat) (w : World) (x i : Value) (wr : World) : Prop :=
  ∃ k : Nat, k ≤ n ∧ i = .int .i64 k ∧ x = .int .i64 (k0 + k : Nat) ∧ Below w.heap.size w wr

end Go.Proofs.YtodibhiinfbhiaaDoor
/-
  A short text read from a place of a text: plain facts, the program's ReadShort, the specification's reader.
-/
namespace Go.Proofs.YtodibhiinfbhiaaDoor
open Go.RowKit Go.BigFrame Go.Sort
set_option linter.unusedVariables false
set_option linter.unusedSimpArgs false

namespace LV
def shortAt (s : ByteArray) (p : Nat) : Option (ByteArray × Nat) :=
  match M.readVar s.data.toList p with
  | none => none
  | some (n, q) => if n ≤ 20000 ∧ q + n ≤ s.size then some (piece s q n, q + n) else none
theorem shortAt_some {s : ByteArray} {p q : Nat} {t : ByteArray} (hp : p ≤ s.size) (h : shortAt s p = some (t, q)) : p < q ∧ q ≤ s.size ∧ cutL s.data.toList p q = M.varL t.size ++ t.data.toList := by
  unfold shortAt at h
  cases hv : M.readVar s.data.toList p with
  | none => rw [hv] at h; simp at h
  | some x =>
    obtain ⟨n, b⟩ := x
    rw [hv] at h
    simp only at h
    split at h
    · rename_i hc
      simp only [Option.some.injEq, Prod.mk.injEq] at h
      obtain ⟨rfl, rfl⟩ := h
      have h1 := read_past _ _ _ _ hv
      refine ⟨by omega, hc.2, ?_⟩
      rw [piece_len s b n hc.2, ← read_canon hp hv]
      unfold piece
      rw [extract_cut, cutL_join _ p b (b + n) (by omega) (by omega)]
    · simp at h
theorem shortAt_none {s : ByteArray} {p : Nat} (h : M.readVar s.data.toList p = none) : shortAt s p = none := by unfold shortAt; rw [h]
theorem shortAt_no {s : ByteArray} {p n q : Nat} (h : M.readVar s.data.toList p = some (n, q)) (hn : ¬ (n ≤ 20000 ∧ q + n ≤ s.size)) : shortAt s p = none := by
  unfold shortAt
  rw [h]
  exact if_neg hn
theorem shortAt_yes {s : ByteArray} {p n q : Nat} (h : M.readVar s.data.toList p = some (n, q)) (hn : n ≤ 20000 ∧ q + n ≤ s.size) : shortAt s p = some (piece s q n, q + n) := by
  unfold shortAt
  rw [h]
  exact if_pos hn
theorem shortAt_size {s : ByteArray} {p q : Nat} {t : ByteArray} (h : shortAt s p = some (t, q)) : t.size ≤ s.size := by
  unfold shortAt at h
  cases hv : M.readVar s.data.toList p with
  | none => rw [hv] at h; simp at h
  | some x =>
    obtain ⟨n, b⟩ := x
    rw [hv] at h
    simp only at h
    split at h
    · simp only [Option.some.injEq, Prod.mk.injEq] at h
      rw [← h.1]
      exact piece_size s b n
    · simp at h
theorem toList_len (s : ByteArray) : s.data.toList.length = s.size := Array.length_toList
theorem bytes_eq {a b : ByteArray} (h : a.data.toList = b.data.toList) : a = b := ByteArray.ext (Array.toList_inj.1 h)
theorem shortAt_back (s t : ByteArray) (pre post : List UInt8) (ht : t.size ≤ 20000) (h : s.data.toList = pre ++ ((M.varL t.size ++ t.data.toList) ++ post)) : shortAt s pre.length = some (t, pre.length + (M.varL t.size ++ t.data.toList).length) := by
  have hr : M.readVar s.data.toList pre.length = some (t.size, pre.length + (M.varL t.size).length) := by
    rw [h, List.append_assoc]
    exact readVar_back pre _ t.size (by omega)
  have hsz := toList_len s
  have htl := toList_len t
  have hl : s.size = pre.length + (M.varL t.size).length + t.size + post.length := by
    rw [← hsz, h]
    simp only [List.length_append]
    omega
  rw [shortAt_yes hr ⟨ht, by omega⟩]
  have hp : piece s (pre.length + (M.varL t.size).length) t.size = t := by
    apply bytes_eq
    unfold piece
    rw [extract_cut, h]
    unfold cutL
    have e1 : (pre ++ ((M.varL t.size ++ t.data.toList) ++ post)).drop (pre.length + (M.varL t.size).length) = t.data.toList ++ post := by
      rw [← List.append_assoc, ← List.append_assoc, List.append_assoc (pre ++ M.varL t.size)]
      rw [← List.length_append]
      exact List.drop_left
    rw [e1]
    have e2 : pre.length + (M.varL t.size).length + t.size - (pre.length + (M.varL t.size).length) = t.data.toList.length := by omega
    rw [e2]
    exact List.take_left
  rw [hp]
  congr 2
  simp only [List.length_append]
  omega
end LV

/-! the specification's reader -/
/-- the block of a reader: its text, its place, and whether it was spoilt -/
def Cu (W : World) (c : Nat) (s : ByteArray) (p : Nat) (b : Bool) : Prop := W.heap[c]? = some (.cells #[.string s, .int .i64 (p : Int), .bool b] 60 (0, 0))
section
variable {W W' : World} {c p : Nat} {s : ByteArray} {b : Bool}
theorem Cu.lt (h : Cu W c s p b) : c < W.heap.size := (Array.getElem?_eq_some_iff.1 h).1
theorem Cu.later (h : Cu W c s p b) (hb : Below W.heap.size W W') : Cu W' c s p b := (hb.block c h.lt).trans h
theorem Cu.grown {row : Option Nat} (h : Cu W c s p b) (hg : W.grownBy W' row) (hne : some c ≠ row) : Cu W' c s p b := (hg.block c h.lt hne).trans h
theorem Cu.c0 (h : Cu W c s p b) : W.cell? ⟨c, 0, none⟩ = some (.string s) := by rw [cell_of_row W c 0 _ _ _ h]; rfl
theorem Cu.c1 (h : Cu W c s p b) : W.cell? ⟨c, 1, none⟩ = some (.int .i64 (p : Int)) := by rw [cell_of_row W c 1 _ _ _ h]; rfl
theorem Cu.c2 (h : Cu W c s p b) : W.cell? ⟨c, 2, none⟩ = some (.bool b) := by rw [cell_of_row W c 2 _ _ _ h]; rfl
theorem Cu.f1 (h : Cu W c s p b) : W.frozen? ⟨c, 1, none⟩ = false := by simp [World.frozen?, show W.heap[c]? = _ from h]
theorem Cu.f2 (h : Cu W c s p b) : W.frozen? ⟨c, 2, none⟩ = false := by simp [World.frozen?, show W.heap[c]? = _ from h]
theorem Cu.at (h : Cu W c s p b) (q : Nat) : Cu (W.setCell ⟨c, 1, none⟩ (.int .i64 (q : Int))) c s q b := heap_setCell_same W c 1 _ _ _ h
theorem Cu.bad (h : Cu W c s p b) : Cu (W.setCell ⟨c, 2, none⟩ (.bool true)) c s p true := heap_setCell_same W c 2 _ _ _ h
end

set_option maxRecDepth 100000 in
set_option maxHeartbeats 1000000 in
theorem l09Var_at (c : Nat) (s : ByteArray) (p : Nat) (w : World) (h : Cu w c s p false) (hs : s.size ≤ 1048576) (hp : p ≤ s.size) :
    Calls Tryd.prog 36 #[.pointer (some ⟨c, 0, none⟩)] w fun e w' => (match M.readVar s.data.toList p with
      | none => e = .returned (.int .i64 0) ∧ Cu w' c s p true
      | some (n, q) => e = .returned (.int .i64 (n : Int)) ∧ Cu w' c s q false) ∧ w.grownBy w' (some c) := by
  have c0 := h.c0
  have c1 := h.c1
  have H : Hid (Cu w c s p false) := h
  have hcl := h.lt
  clear h
  cases hr : M.readVar s.data.toList p with
  | none =>
    have H1 : Hid (∀ W, Calls Tryd.prog 51 #[.string s, .int .i64 (p : Int)] W fun e w' => e = .returned (.tuple #[.int .i64 0, .int .i64 0, .bool false]) ∧ Below W.heap.size W w') := fun W => sReadVar_none s (p : Int) W hs (.inr ⟨by omega, by simpa using hr⟩)
    clear hr
    go_enter Tryd.func36, Tryd.ntmps36
    go_wp2
    have kq0 := cell_regrown (w := w) c0
    have kq1 := cell_regrown (w := w) c1
    have cq0 := fun d os => Calls.regrown_of (w := w) (d := d) (os := os) (H1.out _)
    refine wp_region_quiet_below (by kernel_rfl) (by kernel_rfl) ?_
    repeat (go_big_quiet_step (first | with_reducible exact cq0 _ _))
    refine wpQuiet_nil ?_
    rintro _ ⟨⟨dq, osq⟩, rfl⟩
    have hb6 := below_regrown (w) dq osq
    generalize grow (redrawn (w) dq) osq = w6 at *
    clear kq0 kq1 cq0
    have h6 := H.out.later hb6
    have d2 := h6.c2
    have g2 := h6.f2
    have hcl6 := h6.lt
    have HF : Hid (Cu (w6.setCell ⟨c, 2, none⟩ (.bool true)) c s p true ∧ w.grownBy (w6.setCell ⟨c, 2, none⟩ (.bool true)) (some c)) := ⟨h6.bad, (grown_below hb6).trans (grown_setC w6 c 2 _)⟩
    clear h6 hb6 H H1 c0 c1
    go_wp2
    go_ret
    exact ⟨⟨rfl, HF.out.1⟩, HF.out.2⟩
  | some y =>
    obtain ⟨n, q⟩ := y
    have H1 : Hid (∀ W, Calls Tryd.prog 51 #[.string s, .int .i64 (p : Int)] W fun e w' => e = .returned (.tuple #[.int .i64 n, .int .i64 q, .bool true]) ∧ Below W.heap.size W w') := fun W => sReadVar_some s (p : Int) n q W hs (by omega) (by simpa using hr)
    clear hr
    go_enter Tryd.func36, Tryd.ntmps36
    go_wp2
    have kq0 := cell_regrown (w := w) c0
    have kq1 := cell_regrown (w := w) c1
    have cq0 := fun d os => Calls.regrown_of (w := w) (d := d) (os := os) (H1.out _)
    refine wp_region_quiet_below (by kernel_rfl) (by kernel_rfl) ?_
    repeat (go_big_quiet_step (first | with_reducible exact cq0 _ _))
    refine wpQuiet_nil ?_
    rintro _ ⟨⟨dq, osq⟩, rfl⟩
    have hb6 := below_regrown (w) dq osq
    generalize grow (redrawn (w) dq) osq = w6 at *
    clear kq0 kq1 cq0
    have h6 := H.out.later hb6
    have d2 := h6.c2
    have d1 := h6.c1
    have g1 := h6.f1
    have hcl6 := h6.lt
    have HF : Hid (Cu (w6.setCell ⟨c, 1, none⟩ (.int .i64 (q : Int))) c s q false ∧ w.grownBy (w6.setCell ⟨c, 1, none⟩ (.int .i64 (q : Int))) (some c)) := ⟨h6.at q, (grown_below hb6).trans (grown_setC w6 c 1 _)⟩
    clear h6 hb6 H H1 c0 c1
    go_wp2
    go_ret
    exact ⟨⟨rfl, HF.out.1⟩, HF.out.2⟩

end Go.Proofs.YtodibhiinfbhiaaDoor
