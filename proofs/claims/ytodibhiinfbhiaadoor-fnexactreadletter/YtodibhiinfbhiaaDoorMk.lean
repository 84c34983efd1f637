/-
  What the laws' own helpers do: markText, markStringS, heldStringS, from any first number on.
-/
import Derived.Test.YtodibhiinfbhiaaDoorOs
import Derived.Test.YtodibhiinfbhiaaDoorDd
import Derived.Deep.RegionHeld3
namespace Go.Proofs.YtodibhiinfbhiaaDoor
open Go.RowKit
set_option linter.unusedVariables false

theorem one_strI (w : World) (x : Int) (b : UInt8) (h : x = (b.toNat : Int)) : (convert 22 9 (.slice (some ⟨w.heap.size, 0, none⟩) 1 1)).run Tryd.prog (w.alloc (.cells #[.int .u8 x] 5)) = .ok (.string ⟨[b].toArray⟩) (w.alloc (.cells #[.int .u8 x] 5)) := by
  subst h
  exact D.one_str w b

def markB (k : Nat) : ByteArray := D.consB 109 ⟨(Lib.decDigits k).toArray⟩

def MkRel (n : Nat) (w : World) (x s : Value) (wr : World) : Prop :=
  ∃ (m f : Nat) (t : ByteArray), m ≤ n ∧ x = .int .i64 m ∧ s = .string t ∧ t.size + f = 20 ∧ Hid (m < 10 ^ f) ∧ Hid (D.decR f m ++ t.data.toList = D.decR 20 n) ∧ Below w.heap.size w wr

/-- n marks from k on -/
def marks (k n : Nat) : List ByteArray := (List.range n).map fun j => markB (k + j)
theorem marks_len (k n : Nat) : (marks k n).length = n := by simp [marks]
theorem marks_at (k n j : Nat) (h : j < (marks k n).length) : (marks k n)[j] = markB (k + j) := by simp [marks]
theorem marks_set (k : Nat) (l : List ByteArray) (m : Nat) (h : m < l.length) : (marks k m ++ l.drop m).set m (markB (k + m)) = marks k (m + 1) ++ l.drop (m + 1) := by
  have e : l.drop m = l[m] :: l.drop (m + 1) := List.drop_eq_getElem_cons h
  rw [e, List.set_append_right _ _ (by rw [marks_len]; exact Nat.le_refl _), marks_len, Nat.sub_self]
  simp only [List.set_cons_zero, marks, List.range_succ, List.map_append, List.map_cons, List.map_nil, List.append_assoc, List.cons_append, List.nil_append]

theorem grown_below {w w' : World} {row : Option Nat} (h : Below w.heap.size w w') : w.grownBy w' row := ⟨h.os, h.tape, h.output, h.size, fun k hk _ => h.block k hk⟩
theorem grown_refl (w : World) (row : Option Nat) : w.grownBy w row := grown_below (Below.refl _ _)
theorem TB.keptG {w w' : World} {g : Nat} {row : Option Nat} {l : List ByteArray} (h : TB w g l) (hg : w.grownBy w' row) (hne : some g ≠ row) : TB w' g l := by
  have hlt := h.lt
  obtain ⟨cur, h1, h2⟩ := h
  exact ⟨cur, by rw [hg.block g hlt hne]; exact h1, h2⟩

/-- a row of texts that may be written, at the head of block g -/
def TS (w : World) (v : Value) (g : Nat) (l : List ByteArray) : Prop :=
  ∃ a cap, v = .slice a l.length cap ∧ l.length ≤ 1100000 ∧ (0 < l.length → a = some ⟨g, 0, none⟩ ∧ TB w g l)
theorem TS.len {w : World} {v : Value} {g : Nat} {l : List ByteArray} (h : TS w v g l) : l.length ≤ 1100000 := by
  obtain ⟨a, cap, rfl, hl, _⟩ := h
  exact hl
theorem TS.ss {w : World} {v : Value} {g : Nat} {l : List ByteArray} (h : TS w v g l) : SS w v g 0 l := by
  obtain ⟨a, cap, rfl, hl, h2⟩ := h
  exact ⟨a, cap, rfl, by omega, fun h0 => (h2 h0).1, fun j hj => by rw [Nat.zero_add]; exact (h2 (by omega)).2.cell j hj⟩
theorem TS.keptG {w w' : World} {v : Value} {g : Nat} {row : Option Nat} {l : List ByteArray} (h : TS w v g l) (hg : w.grownBy w' row) (hne : 0 < l.length → some g ≠ row) : TS w' v g l := by
  obtain ⟨a, cap, rfl, hl, h2⟩ := h
  exact ⟨a, cap, rfl, hl, fun h0 => ⟨(h2 h0).1, (h2 h0).2.keptG hg (hne h0)⟩⟩
theorem TS.later {w w' : World} {v : Value} {g : Nat} {l : List ByteArray} (h : TS w v g l) (hb : Below w.heap.size w w') : TS w' v g l := h.keptG (row := none) (grown_below hb) (fun _ => by simp)
theorem TS.drewN {w : World} {v : Value} {g : Nat} {l : List ByteArray} (h : TS w v g l) (n : Nat) : TS (w.drewN n) v g l := h
theorem TS.lt {w : World} {v : Value} {g : Nat} {l : List ByteArray} (h : TS w v g l) : 0 < l.length → g < w.heap.size := by
  obtain ⟨a, cap, rfl, hl, h2⟩ := h
  exact fun h0 => (h2 h0).2.lt
theorem TB.ts {w : World} {g : Nat} {l : List ByteArray} (h : TB w g l) (n cap : Nat) (hn : l.length = n) (hl : n ≤ 1100000) : TS w (.slice (some ⟨g, 0, none⟩) n cap) g l := by
  subst hn
  exact ⟨_, _, rfl, hl, fun _ => ⟨rfl, h⟩⟩
theorem TS.nil (w : World) (g : Nat) : TS w (.slice none 0 0) g [] := ⟨_, _, rfl, by simp, fun h => absurd h (by simp)⟩
theorem OS.ts {B : Nat} {w0 w : World} {v : Value} {l : List ByteArray} (h : OS B w0 w v l) (hl : l.length ≤ 1100000) : ∃ g, TS w v g l ∧ B ≤ g := by
  rcases h.shape with ⟨rfl, rfl⟩ | ⟨g, cap, rfl, hg, _⟩
  · exact ⟨B, TS.nil w B, Nat.le_refl _⟩
  · exact ⟨g, h.tb.ts _ _ rfl hl, hg⟩

/-- the block of a row that is not empty -/
def rowOf (g : Nat) (l : List ByteArray) : Option Nat := if l.length = 0 then none else some g
theorem rowOf_some {g : Nat} {l : List ByteArray} (h : 0 < l.length) : rowOf g l = some g := if_neg (by omega)
theorem rowOf_ne {g k : Nat} {l : List ByteArray} (h : 0 < l.length → k ≠ g) : some k ≠ rowOf g l := by
  unfold rowOf
  split
  · simp
  · have := h (by omega)
    simpa using this

def MsRel (k0 : Nat) (w : World) (g : Nat) (l : List ByteArray) (x i : Value) (wr : World) : Prop :=
  ∃ k : Nat, k ≤ l.length ∧ i = .int .i64 k ∧ x = .int .i64 (k0 + k : Nat) ∧ (0 < l.length → TB wr g (marks k0 k ++ l.drop k)) ∧ w.grownBy wr (rowOf g l)

def HsRel (k0 n : Nat) (w : World) (x i : Value) (wr : World) : Prop :=
  ∃ k : Nat, k ≤ n ∧ i = .int .i64 k ∧ x = .int .i64 (k0 + k : Nat) ∧ Below w.heap.size w wr

end Go.Proofs.YtodibhiinfbhiaaDoor
