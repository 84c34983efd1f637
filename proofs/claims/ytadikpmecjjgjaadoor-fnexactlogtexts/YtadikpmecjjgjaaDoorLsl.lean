/-
  The walk of the law FnExactLoseDisk: it answers true of every disk and every row of numbers.
-/
import Derived.Test.YtadikpmecjjgjaaDoorSl
import Derived.Test.YtadikpmecjjgjaaDoorIn
import Derived.Test.YtadikpmecjjgjaaDoorDl
namespace Go.Proofs.YtadikpmecjjgjaaDoor
open Go.RowKit Go.BigFrame Go.Sort
set_option linter.unusedVariables false
set_option linter.unusedSimpArgs false

/-- a row of numbers that was handed in: if it is small, it is l -/
def IsRowN (w : World) (v : Value) (g o : Nat) (l : List Int) : Prop := ∃ a n cap, v = .slice a n cap ∧ n ≤ 9223372036854775807 ∧ (n ≤ 1100000 → l.length = n ∧ RS 1 ics w v g o l)

/-- a disk in its box -/
def XD (W : World) (p : Nat) (s : Value) (g : Nat) (l : List Fl) : Prop := BD W p 36 s ∧ RW 3 fcs W s g l
theorem XD.later {W W' : World} {p : Nat} {s : Value} {g : Nat} {l : List Fl} (h : XD W p s g l) (hb : Below W.heap.size W W') : XD W' p s g l := ⟨h.1.later hb, h.2.later hb⟩
theorem XD.grown {W W' : World} {p : Nat} {s : Value} {g : Nat} {l : List Fl} {row : Option Nat} (h : XD W p s g l) (hg : W.grownBy W' row) (h1 : some p ≠ row) (h2 : 0 < l.length → some g ≠ row) : XD W' p s g l := ⟨h.1.grown hg h1, h.2.grown hg h2⟩
theorem XD.new {W : World} {s : Value} {g : Nat} {l : List Fl} (h : RW 3 fcs W s g l) : XD (W.alloc (.cells #[s] 36)) W.heap.size s g l := ⟨BD.new W _ _, h.alloc _⟩
theorem DkIn.open' {w : World} {B : Nat} {v : Value} {l : List Fl} (h : DkIn w B v l) : ∃ a c g, v = .agg #[.slice a l.length c] ∧ RW 3 fcs w (.slice a l.length c) g l ∧ B ≤ g ∧ (0 < l.length → g < w.heap.size) := by
  obtain ⟨a, c, g, h1, h2, h3⟩ := h.shape
  exact ⟨a, c, g, h1, h2, h3, h2.lt⟩

/-- the argument's box, what the specification answered, and what the program answered -/
def LwS (w W : World) (va : Value) (pw : Nat) (sw : Value) (gw : Nat) (pg : Nat) (sg : Value) (gg : Nat) (M N : List Fl) : Prop := BD W w.heap.size 30 va ∧ Below w.heap.size w W ∧ XD W pw sw gw M ∧ XD W pg sg gg N
theorem LwS.later {w W W' : World} {va : Value} {pw : Nat} {sw : Value} {gw : Nat} {pg : Nat} {sg : Value} {gg : Nat} {M N : List Fl} (h : LwS w W va pw sw gw pg sg gg M N) (hb : Below W.heap.size W W') : LwS w W' va pw sw gw pg sg gg M N :=
  ⟨h.1.later hb, h.2.1.trans (hb.mono h.2.1.size), h.2.2.1.later hb, h.2.2.2.later hb⟩
theorem LwS.grown {w W W' : World} {va : Value} {pw : Nat} {sw : Value} {gw : Nat} {pg : Nat} {sg : Value} {gg : Nat} {M N : List Fl} {row : Option Nat} (h : LwS w W va pw sw gw pg sg gg M N) (hg : W.grownBy W' row)
    (n1 : some w.heap.size ≠ row) (n2 : some pw ≠ row) (n3 : 0 < M.length → some gw ≠ row) (n4 : some pg ≠ row) (n5 : 0 < N.length → some gg ≠ row) (n7 : ∀ k, row = some k → w.heap.size ≤ k) : LwS w W' va pw sw gw pg sg gg M N :=
  ⟨h.1.grown hg n1, h.2.1.grown hg h.2.1.size n7, h.2.2.1.grown hg n2 n3, h.2.2.2.grown hg n4 n5⟩
/-- .. the latter bearing marks -/
def LwM (w W : World) (va : Value) (pw : Nat) (sw : Value) (gw : Nat) (pg : Nat) (sg : Value) (gg : Nat) (M : List Fl) : Prop := LwS w W va pw sw gw pg sg gg M (fmarks 1 M.length)
theorem LwM.later {w W W' : World} {va : Value} {pw : Nat} {sw : Value} {gw : Nat} {pg : Nat} {sg : Value} {gg : Nat} {M : List Fl} (h : LwM w W va pw sw gw pg sg gg M) (hb : Below W.heap.size W W') : LwM w W' va pw sw gw pg sg gg M := LwS.later h hb
theorem LwS.mark {w W W' : World} {va : Value} {pw : Nat} {sw : Value} {gw : Nat} {pg : Nat} {sg : Value} {gg : Nat} {M : List Fl} {row : Option Nat} (h : LwS w W va pw sw gw pg sg gg M M) (hg : W.grownBy W' row)
    (n1 : some w.heap.size ≠ row) (n2 : some pw ≠ row) (n3 : 0 < M.length → some gw ≠ row) (n4 : some pg ≠ row) (n7 : ∀ k, row = some k → w.heap.size ≤ k) (hr : RW 3 fcs W' sg gg (fmarks 1 M.length)) : LwM w W' va pw sw gw pg sg gg M :=
  ⟨h.1.grown hg n1, h.2.1.grown hg h.2.1.size n7, h.2.2.1.grown hg n2 n3, h.2.2.2.1.grown hg n4, hr⟩

end Go.Proofs.YtadikpmecjjgjaaDoor
