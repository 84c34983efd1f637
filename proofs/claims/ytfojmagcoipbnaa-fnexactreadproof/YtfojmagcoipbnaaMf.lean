/-
  What the laws' own helpers write into the files of a disk, and find there again.
-/
import Derived.Test.YtfojmagcoipbnaaFw
import Derived.Test.YtfojmagcoipbnaaMk
namespace Go.Proofs.Ytfojmagcoipbnaa
open Go.RowKit Go.BigFrame Go.Sort
set_option linter.unusedVariables false
set_option linter.unusedSimpArgs false

def fmk (k0 j : Nat) : Fl := ⟨markB (k0 + 3 * j), markB (k0 + 3 * j + 1), ((k0 + 3 * j + 2 : Nat) : Int)⟩
def fmarks (k0 n : Nat) : List Fl := (List.range n).map (fmk k0)
theorem fmarks_len (k0 n : Nat) : (fmarks k0 n).length = n := by simp [fmarks]
theorem fmarks_at (k0 n j : Nat) (h : j < (fmarks k0 n).length) : (fmarks k0 n)[j] = fmk k0 j := by simp [fmarks]

theorem set_here {w : World} {g o : Nat} {u : Value} (h : w.cell? ⟨g, o, none⟩ = some u) (hf : w.frozen? ⟨g, o, none⟩ = false) (v : Value) : (w.setCell ⟨g, o, none⟩ v).cell? ⟨g, o, none⟩ = some v :=
  (World.rangeAt_setCells_same w g o [v] (fun j hj => by
    have : j = 0 := by simpa using hj
    subst this
    exact ⟨by rw [Nat.add_zero, h]; rfl, hf⟩)) 0 v rfl
theorem set_else {w : World} {g o o' : Nat} (h : o' ≠ o) (v : Value) : (w.setCell ⟨g, o, none⟩ v).cell? ⟨g, o', none⟩ = w.cell? ⟨g, o', none⟩ :=
  World.cell?_setCells_out g [v] o w ⟨g, o', none⟩ (fun _ _ => by simp; omega)
theorem set_there {w : World} {g b o n : Nat} (o' : Nat) (h : w.there b o n) (v : Value) : (w.setCell ⟨g, o', none⟩ v).there b o n := World.there_setCells h g o' [v]
theorem set_range {w : World} {g o o' : Nat} {cs : List Value} (h : w.rangeAt g o cs) (hn : o + cs.length ≤ o') (v : Value) : (w.setCell ⟨g, o', none⟩ v).rangeAt g o cs := World.rangeAt_setCells_apart h g o' [v] (.inr (.inl hn))

def rowF (g n : Nat) : Option Nat := if n = 0 then none else some g
theorem rowF_some {g n : Nat} (h : 0 < n) : rowF g n = some g := if_neg (by omega)
theorem rowF_ne {g k n : Nat} (h : 0 < n → k ≠ g) : some k ≠ rowF g n := by
  unfold rowF
  split
  · simp
  · have := h (by omega)
    simpa using this
theorem rowF_le {g n B : Nat} (h : B ≤ g) (q : Nat) (hq : rowF g n = some q) : B ≤ q := by
  unfold rowF at hq
  split at hq
  · cases hq
  · cases hq; exact h
/-- the first m files bear marks, and all may be written -/
def MfI (w : World) (g : Nat) (l : List Fl) (k0 m : Nat) (wr : World) : Prop := (∀ j, j < m → wr.rangeAt g (j * 3) (fcs (fmk k0 j))) ∧ (∀ j, j < l.length → wr.there g (j * 3) 3) ∧ w.grownBy wr (rowF g l.length)
theorem MfI.below {w wr wr' : World} {g : Nat} {l : List Fl} {k0 m : Nat} (h : MfI w g l k0 m wr) (hg : g < wr.heap.size) (hb : Below wr.heap.size wr wr') : MfI w g l k0 m wr' :=
  ⟨fun j hj => range_kept (h.1 j hj) (hb.block g hg), fun j hj => there_kept (h.2.1 j hj) (hb.block g hg), h.2.2.trans ((grown_below hb))⟩
theorem MfI.set {w wr : World} {g : Nat} {l : List Fl} {k0 m : Nat} (h : MfI w g l k0 m wr) (hm : m < l.length) (o : Nat) (ho : m * 3 ≤ o) (v : Value) : MfI w g l k0 m (wr.setCell ⟨g, o, none⟩ v) :=
  ⟨fun j hj => set_range (h.1 j hj) (by rw [fcs_len]; omega) v, fun j hj => set_there o (h.2.1 j hj) v, by
    have h3 := h.2.2
    rw [rowF_some (by omega)] at h3 ⊢
    exact h3.trans (grown_set wr g o v)⟩

def MfR (w : World) (g : Nat) (l : List Fl) (k0 : Nat) (x i : Value) (wr : World) : Prop := ∃ m : Nat, m ≤ l.length ∧ i = .int .i64 m ∧ x = .int .i64 (k0 + 3 * m : Nat) ∧ Hid (MfI w g l k0 m wr)

def HfR (k0 n : Nat) (w : World) (x i : Value) (wr : World) : Prop := ∃ m : Nat, m ≤ n ∧ i = .int .i64 m ∧ x = .int .i64 (k0 + 3 * m : Nat) ∧ Below w.heap.size w wr

end Go.Proofs.Ytfojmagcoipbnaa
