/-
  Texts laid together: Mf, Lk, Ls, La, Ly.
-/
import Derived.Test.YtfiapodjiifmaaaGreatDoorPkP1
import Derived.Test.YtfiapodjiifmaaaGreatDoorPkP4
import Derived.Test.YtfiapodjiifmaaaGreatDoorPkP5
import Derived.Lib.QuietBelow
import Derived.Test.YtfiapodjiifmaaaGreatDoorPkP7
import Derived.Test.YtfiapodjiifmaaaGreatDoorPkP8
import Derived.Deep.AppendLies
import Derived.Deep.RegionLaw
/-
  What the laws' own helpers write into the files of a disk, and find there again.
-/
namespace Go.Proofs.YtfiapodjiifmaaaGreatDoor
open Go.RowKit Go.BigFrame Go.Sort
set_option linter.unusedVariables false
set_option linter.unusedSimpArgs false

def fmk (k0 j : Nat) : Fl := ⟨markB (k0 + 3 * j), markB (k0 + 3 * j + 1), ((k0 + 3 * j + 2 : Nat) : Int)⟩
def fmarks (k0 n : Nat) : List Fl := (List.range n).map (fmk k0)
theorem fmarks_len (k0 n : Nat) : (fmarks k0 n).length = n := by simp [fmarks]
theorem fmarks_at (k0 n j : Nat) (h : j < (fmarks k0 n).length) : (fmarks k0 n)[j] = fmk k0 j := by simp [fmarks]

theorem set_here {w : World} {g o : Nat} {u : Value} (h : w.cell? ⟨g, o, none⟩ = some u) (hf : w.frozen? ⟨g, o, none⟩ = false) (v : Value) : (w.setCell ⟨g, o, none⟩ v).cell? ⟨g, o, none⟩ = some v :=
  (World.rangeAt_setCells_same w g o [v] (fun j hj => by
    have : j = 0 := by simpa using hj
    subst this
    exact ⟨by rw [Nat.add_zero, h]; rfl, hf⟩)) 0 v rfl
theorem set_else {w : World} {g o o' : Nat} (h : o' ≠ o) (v : Value) : (w.setCell ⟨g, o, none⟩ v).cell? ⟨g, o', none⟩ = w.cell? ⟨g, o', none⟩ :=
  World.cell?_setCells_out g [v] o w ⟨g, o', none⟩ (fun _ _ => by simp; omega)
theorem set_there {w : World} {g b o n : Nat} (o' : Nat) (h : w.there b o n) (v : Value) : (w.setCell ⟨g, o', none⟩ v).there b o n := World.there_setCells h g o' [v]
theorem set_range {w : World} {g o o' : Nat} {cs : List Value} (h : w.rangeAt g o cs) (hn : o + cs.length ≤ o') (v : Value) : (w.setCell ⟨g, o', none⟩ v).rangeAt g o cs := World.rangeAt_setCells_apart h g o' [v] (.inr (.inl hn))

def rowF (g n : Nat) : Option Nat := if n = 0 then none else some g
theorem rowF_some {g n : Nat} (h : 0 < n) : rowF g n = some g := if_neg (by omega)
theorem rowF_ne {g k n : Nat} (h : 0 < n → k ≠ g) : some k ≠ rowF g n := by
  unfold rowF
  split
  · simp
  · have := h (by omega)
    simpa using this
theorem rowF_le {g n B : Nat} (h : B ≤ g) (q : Nat) (hq : rowF g n = some q) : B ≤ q := by
  unfold rowF at hq
  split at hq
  · cases hq
  · cases hq; exact h
/-- the first m files bear marks, and all may be written -/
def MfI (w : World) (g : Nat) (l : List Fl) (k0 m : Nat) (wr : World) : Prop := (∀ j, j < m → wr.rangeAt g (j * 3) (fcs (fmk k0 j))) ∧ (∀ j, j < l.length → wr.there g (j * 3) 3) ∧ w.grownBy wr (rowF g l.length)
theorem MfI.below {w wr wr' : World} {g : Nat} {l : List Fl} {k0 m : Nat} (h : MfI w g l k0 m wr) (hg : g < wr.heap.size) (hb : Below wr.heap.size wr wr') : MfI w g l k0 m wr' :=
  ⟨fun j hj => range_kept (h.1 j hj) (hb.block g hg), fun j hj => there_kept (h.2.1 j hj) (hb.block g hg), h.2.2.trans ((grown_below hb))⟩
theorem MfI.set {w wr : World} {g : Nat} {l : List Fl} {k0 m : Nat} (h : MfI w g l k0 m wr) (hm : m < l.length) (o : Nat) (ho : m * 3 ≤ o) (v : Value) : MfI w g l k0 m (wr.setCell ⟨g, o, none⟩ v) :=
  ⟨fun j hj => set_range (h.1 j hj) (by rw [fcs_len]; omega) v, fun j hj => set_there o (h.2.1 j hj) v, by
    have h3 := h.2.2
    rw [rowF_some (by omega)] at h3 ⊢
    exact h3.trans (grown_set wr g o v)⟩

def MfR (w : World) (g : Nat) (l : List Fl) (k0 : Nat) (x i : Value) (wr : World) : Prop := ∃ m : Nat, m ≤ l.length ∧ i = .int .i64 m ∧ x = .int .i64 (k0 + 3 * m : Nat) ∧ Hid (MfI w g l k0 m wr)

def HfR (k0 n : Nat) (w : World) (x i : Value) (wr : World) : Prop := ∃ m : Nat, m ≤ n ∧ i = .int .i64 m ∧ x = .int .i64 (k0 + 3 * m : Nat) ∧ Below w.heap.size w wr

end Go.Proofs.YtfiapodjiifmaaaGreatDoor
/-
  What the laws' own helpers write into a row of leaves, and find there again.
-/
namespace Go.Proofs.YtfiapodjiifmaaaGreatDoor
open Go.RowKit Go.BigFrame Go.Sort
set_option linter.unusedVariables false
set_option linter.unusedSimpArgs false

def lmk (k0 j : Nat) : Le := ⟨markB (k0 + 2 * j), markB (k0 + 2 * j + 1)⟩
def lmarks (k0 n : Nat) : List Le := (List.range n).map (lmk k0)
theorem lmarks_len (k0 n : Nat) : (lmarks k0 n).length = n := by simp [lmarks]
theorem lmarks_at (k0 n j : Nat) (h : j < (lmarks k0 n).length) : (lmarks k0 n)[j] = lmk k0 j := by simp [lmarks]

/-- the first m leaves bear marks, and all may be written -/
def MlI (w : World) (g : Nat) (l : List Le) (k0 m : Nat) (wr : World) : Prop := (∀ j, j < m → wr.rangeAt g (j * 2) (lcs (lmk k0 j))) ∧ (∀ j, j < l.length → wr.there g (j * 2) 2) ∧ w.grownBy wr (rowF g l.length)
theorem MlI.below {w wr wr' : World} {g : Nat} {l : List Le} {k0 m : Nat} (h : MlI w g l k0 m wr) (hg : g < wr.heap.size) (hb : Below wr.heap.size wr wr') : MlI w g l k0 m wr' :=
  ⟨fun j hj => range_kept (h.1 j hj) (hb.block g hg), fun j hj => there_kept (h.2.1 j hj) (hb.block g hg), h.2.2.trans ((grown_below hb))⟩
theorem MlI.set {w wr : World} {g : Nat} {l : List Le} {k0 m : Nat} (h : MlI w g l k0 m wr) (hm : m < l.length) (o : Nat) (ho : m * 2 ≤ o) (v : Value) : MlI w g l k0 m (wr.setCell ⟨g, o, none⟩ v) :=
  ⟨fun j hj => set_range (h.1 j hj) (by rw [lcs_len]; omega) v, fun j hj => set_there o (h.2.1 j hj) v, by
    have h3 := h.2.2
    rw [rowF_some (by omega)] at h3 ⊢
    exact h3.trans (grown_set wr g o v)⟩

def MlR (w : World) (g : Nat) (l : List Le) (k0 : Nat) (x i : Value) (wr : World) : Prop := ∃ m : Nat, m ≤ l.length ∧ i = .int .i64 m ∧ x = .int .i64 (k0 + 2 * m : Nat) ∧ Hid (MlI w g l k0 m wr)

def HlR (k0 n : Nat) (w : World) (x i : Value) (wr : World) : Prop := ∃ m : Nat, m ≤ n ∧ i = .int .i64 m ∧ x = .int .i64 (k0 + 2 * m : Nat) ∧ Below w.heap.size w wr

end Go.Proofs.YtfiapodjiifmaaaGreatDoor
/-
  Leaves read of a whole text: the program's and the specification's answers.
-/
namespace Go.Proofs.YtfiapodjiifmaaaGreatDoor
open Go.RowKit Go.BigFrame Go.Sort
set_option linter.unusedVariables false
set_option linter.unusedSimpArgs false

/-- what ReadLeaves answers -/
def RxP (s : ByteArray) (w : World) (e : Ending) (w' : World) : Prop := ∃ a c g, e = .returned (.tuple #[.slice a (LV.rdL s).length c, .bool (LV.rdB s)]) ∧ RW 2 lcs w' (.slice a (LV.rdL s).length c) g (LV.rdL s) ∧ w.heap.size ≤ g ∧ Below w.heap.size w w'
theorem RW.empty (W : World) (g c : Nat) (a : Option Addr) : RW 2 lcs W (.slice a 0 c) g [] := ⟨⟨a, c, rfl, by simp, fun h => absurd h (by simp), fun j h => absurd h (by simp)⟩, fun j h => absurd h (by simp)⟩
theorem RxP.no {s : ByteArray} {w w' : World} (hB : LV.rdB s = false) (hL : LV.rdL s = []) (c : Nat) (a : Option Addr) (hb : Below w.heap.size w w') : RxP s w (.returned (.tuple #[.slice a 0 c, .bool false])) w' := by
  unfold RxP
  rw [hB, hL]
  exact ⟨a, c, w.heap.size, rfl, RW.empty _ _ _ _, Nat.le_refl _, hb⟩

theorem rd_none {s : ByteArray} (h : LV.rawL s 0 = none) : LV.rdB s = false ∧ LV.rdL s = [] := by
  unfold LV.rdB LV.rdL
  rw [h]
  exact ⟨rfl, rfl⟩
theorem rd_some {s : ByteArray} {l : List Le} {q : Nat} (h : LV.rawL s 0 = some (l, q)) : LV.rdB s = (decide (q = s.size) && LV.leavesB l) ∧ LV.rdL s = if decide (q = s.size) && LV.leavesB l then l else [] := by
  unfold LV.rdB LV.rdL
  rw [h]
  exact ⟨rfl, rfl⟩

end Go.Proofs.YtfiapodjiifmaaaGreatDoor
/-
  Rows of leaves that a call owns, grown leaf by leaf.
-/
namespace Go.Proofs.YtfiapodjiifmaaaGreatDoor
open Go.RowKit Go.BigFrame Go.Sort
set_option linter.unusedVariables false
set_option linter.unusedSimpArgs false

/-- v owns the leaves l -/
def OL (B : Nat) (w0 w : World) (v : Value) (l : List Le) : Prop := OR 53 2 lcs B w0 w v l
theorem OL.later {B : Nat} {w0 w w' : World} {v : Value} {l : List Le} (h : OL B w0 w v l) (hb : Below w.heap.size w w') : OL B w0 w' v l := OR.later h hb
theorem OL.grown {B : Nat} {w0 w w' : World} {v : Value} {l : List Le} {row : Option Nat} (h : OL B w0 w v l) (hg : w.grownBy w' row) (hne : ∀ q, row = some q → B ≤ q ∧ v.ownBlock ≠ some q) : OL B w0 w' v l := OR.grown h hg hne
theorem OL.rw {B : Nat} {w0 w : World} {v : Value} {l : List Le} (h : OL B w0 w v l) (hl : l.length ≤ 1100000) : ∃ g, RW 2 lcs w v g l ∧ B ≤ g ∧ (∀ q, v.ownBlock = some q → q = g) := OR.rw (k := 2) (enc := lcs) (fun x => lcs_len x) (by omega) h hl
theorem OL.shape {B : Nat} {w0 w : World} {v : Value} {l : List Le} (h : OL B w0 w v l) : ∃ a c, v = .slice a l.length c := by
  rcases h.1.2 with ⟨hv, hn⟩ | ⟨g, cap, cur, hv, _⟩
  · exact ⟨none, 0, by rw [hv, hn]⟩
  · exact ⟨_, _, hv⟩
theorem OL.made (B : Nat) (w0 w : World) (hb : Below B w0 w) (hB : B ≤ w.heap.size) : OL B w0 (w.alloc (.cells #[] 53)) (.slice (some ⟨w.heap.size, 0, none⟩) 0 0) [] :=
  ⟨World.ownsRow_made w #[] 0 hB (by decide) (by simp), hb.alloc hB _, by simp; omega⟩
/-- its block is none of another type -/
theorem OL.ne {B : Nat} {w0 w : World} {u : Value} {l : List Le} {p T : Nat} {cs : Array Value} {fz : Nat × Nat} (h : OL B w0 w u l) (hb : w.heap[p]? = some (.cells cs T fz)) (hT : T ≠ 53) : u.ownBlock ≠ some p := by
  rcases h.1.2 with ⟨hv, _⟩ | ⟨g, cap, cur, hv, _, hg, _⟩
  · rw [hv]; simp [Value.ownBlock]
  · rw [hv]
    intro e
    have : g = p := by simpa [Value.ownBlock] using e
    subst this
    rw [hg] at hb
    simp at hb
    exact hT hb.2.1.symm

section
variable {w : World} {ops : Array Oper} {o : Oper} {a : Act} {K : Act → World → Prop} {Q : Exit → Act → World → Prop}
/-- a leaf appended, as one step of a region that draws its order -/
theorem step_leaf {E : Prop} (hgd : o.guard = none) (s x : Operand)
    (ho : o.op = .call { callee := .builtin .append, args := #[s, x], argTypes := #[24, 24] })
    (B : Nat) (w0 : World) (u : Value) (l : List Le) (f : Le) (hs : a.eval s = u) (h : OL B w0 w u l) (p : Nat) (hx : a.eval x = .slice (some ⟨p, 0, none⟩) 1 1)
    (hnews : w.rangeAt p 0 (lcs f)) (hlen : l.length + 1 ≤ 1000000)
    (hk : ∀ g cap w', OL B w0 w' (.slice (some ⟨g, 0, none⟩) (l.length + 1) cap) (l ++ [f]) → w.grownBy w' u.ownBlock → K (a.put o.dst (.slice (some ⟨g, 0, none⟩) (l.length + 1) cap)) w') : if Region.wanted o (yielded ops a.tmps) = true then Oper.wp Tryz.prog o a w K Q else E := by
  obtain ⟨i0, hi, hz0, hz1, hz2⟩ := info_parts Tryz.infoLeaf
  refine step_append_lies w hgd s x 24 ho B 53 i0 _ 2 32 Tryz.underlying24 hi hz0 hz1 hz2 rfl (by decide) u l.length (l.flatMap lcs) hs h.1 ⟨p, 0, none⟩ 1 1 (lcs f) hx rfl ?_
    (fun u hu => by simp [lcs] at hu; rcases hu with rfl | rfl <;> rfl) (by omega) (by unfold maxLen; omega) (by omega) h.2.2 w.heap.size rfl ?_
  · intro j u hj
    have := hnews j u hj
    rw [Addr.add_mid]
    exact this
  · intro g cap w' h1 h2 h3 _
    exact hk _ _ _ ⟨by rw [List.flatMap_append, List.flatMap_singleton, List.length_append]; exact h1, h.2.1.grown h2 h.2.2 (fun k hk => (h.1.lt k hk).1), Nat.le_trans h.2.2 h2.size⟩ h2
/-- .. and in a plain region -/
theorem wp_leaf {rest : List Oper} (hgd : o.guard = none) (s x : Operand)
    (ho : o.op = .call { callee := .builtin .append, args := #[s, x], argTypes := #[24, 24] })
    (B : Nat) (w0 : World) (u : Value) (l : List Le) (f : Le) (hs : a.eval s = u) (h : OL B w0 w u l) (p : Nat) (hx : a.eval x = .slice (some ⟨p, 0, none⟩) 1 1)
    (hnews : w.rangeAt p 0 (lcs f)) (hlen : l.length + 1 ≤ 1000000)
    (hk : ∀ g cap w', OL B w0 w' (.slice (some ⟨g, 0, none⟩) (l.length + 1) cap) (l ++ [f]) → w.grownBy w' u.ownBlock → wpList Tryz.prog ops Q rest (a.put o.dst (.slice (some ⟨g, 0, none⟩) (l.length + 1) cap)) w') : wpList Tryz.prog ops Q (o :: rest) a w := by
  obtain ⟨i0, hi, hz0, hz1, hz2⟩ := info_parts Tryz.infoLeaf
  refine wpList_append_lies w hgd s x 24 ho B 53 i0 _ 2 32 Tryz.underlying24 hi hz0 hz1 hz2 rfl (by decide) u l.length (l.flatMap lcs) hs h.1 ⟨p, 0, none⟩ 1 1 (lcs f) hx rfl ?_
    (fun u hu => by simp [lcs] at hu; rcases hu with rfl | rfl <;> rfl) (by omega) (by unfold maxLen; omega) (by omega) h.2.2 w.heap.size rfl ?_
  · intro j u hj
    have := hnews j u hj
    rw [Addr.add_mid]
    exact this
  · intro g cap w' h1 h2 h3 _
    exact hk _ _ _ ⟨by rw [List.flatMap_append, List.flatMap_singleton, List.length_append]; exact h1, h.2.1.grown h2 h.2.2 (fun k hk => (h.1.lt k hk).1), Nat.le_trans h.2.2 h2.size⟩ h2
end

end Go.Proofs.YtfiapodjiifmaaaGreatDoor
/-
  Leaves read by the specification's reader.
-/
namespace Go.Proofs.YtfiapodjiifmaaaGreatDoor
open Go.RowKit Go.BigFrame Go.Sort
set_option linter.unusedVariables false
set_option linter.unusedSimpArgs false

theorem leafAt_first {s : ByteArray} {q : Nat} (h : LV.shortAt s q = none) : LV.leafAt s q = none := by unfold LV.leafAt; rw [h]
theorem leafAt_second {s a : ByteArray} {q r : Nat} (h : LV.shortAt s q = some (a, r)) (h2 : LV.shortAt s r = none) : LV.leafAt s q = none := by unfold LV.leafAt; rw [h]; simp only; rw [h2]
theorem leafAt_both {s a b : ByteArray} {q r t : Nat} (h : LV.shortAt s q = some (a, r)) (h2 : LV.shortAt s r = some (b, t)) : LV.leafAt s q = some (⟨a, b⟩, t) := by unfold LV.leafAt; rw [h]; simp only; rw [h2]

/-- what was read so far -/
def LyI (s : ByteArray) (q0 m q : Nat) (l : List Le) (b : Bool) : Prop := (∀ f ∈ l, f.n.size ≤ s.size ∧ f.v.size ≤ s.size) ∧ l.length = m ∧ q ≤ s.size ∧ (b = false → LV.leavesF s m q0 = some (l, q)) ∧ (b = true → LV.leavesF s m q0 = none)
theorem LyI.start {s : ByteArray} {q0 : Nat} (h : q0 ≤ s.size) : LyI s q0 0 q0 [] false := ⟨fun f hf => absurd hf (by simp), rfl, h, fun _ => rfl, fun h => (by cases h)⟩
theorem LyI.bad {s : ByteArray} {q0 m q r : Nat} {l : List Le} {f : Le} (h : LyI s q0 m q l false) (hf : LV.leafAt s q = none) (h1 : f.n.size ≤ s.size ∧ f.v.size ≤ s.size) (hr : r ≤ s.size) : LyI s q0 (m + 1) r (l ++ [f]) true := by
  refine ⟨fun g hg => ?_, by simp [h.2.1], hr, fun h => (by cases h), fun _ => leavesF_ends (h.2.2.2.1 rfl) hf⟩
  rcases List.mem_append.1 hg with hg | hg
  · exact h.1 g hg
  · simp at hg; subst hg; exact h1
theorem LyI.more {s : ByteArray} {q0 m q r : Nat} {l : List Le} {f : Le} (h : LyI s q0 m q l false) (hf : LV.leafAt s q = some (f, r)) : LyI s q0 (m + 1) r (l ++ [f]) false := by
  refine ⟨fun g hg => ?_, by simp [h.2.1], (LV.leafAt_some h.2.2.1 hf).2.1, fun _ => leavesF_more (h.2.2.2.1 rfl) hf, fun h => (by cases h)⟩
  rcases List.mem_append.1 hg with hg | hg
  · exact h.1 g hg
  · simp at hg; subst hg; exact LV.leafAt_size hf

theorem OL.lt {B : Nat} {w0 w : World} {u : Value} {l : List Le} (h : OL B w0 w u l) {q : Nat} (hq : u.ownBlock = some q) : q < w.heap.size := (h.1.lt q hq).2
theorem BL.grown {W W' : World} {p : Nat} {a b : ByteArray} {row : Option Nat} (h : BL W p a b) (hg : W.grownBy W' row) (hne : some p ≠ row) : BL W' p a b := (hg.block p (Array.getElem?_eq_some_iff.1 h).1 hne).trans h
end Go.Proofs.YtfiapodjiifmaaaGreatDoor
