/-
  What the laws' own helpers write into a row of leaves, and find there again.
-/
import Derived.Test.YtmhoilliaeefcaaLw
import Derived.Test.YtmhoilliaeefcaaMf
import Derived.Lib.QuietBelow
namespace Go.Proofs.Ytmhoilliaeefcaa
open Go.RowKit Go.BigFrame Go.Sort
set_option linter.unusedVariables false
set_option linter.unusedSimpArgs false

def lmk (k0 j : Nat) : Le := ⟨markB (k0 + 2 * j), markB (k0 + 2 * j + 1)⟩
def lmarks (k0 n : Nat) : List Le := (List.range n).map (lmk k0)
theorem lmarks_len (k0 n : Nat) : (lmarks k0 n).length = n := by simp [lmarks]
theorem lmarks_at (k0 n j : Nat) (h : j < (lmarks k0 n).length) : (lmarks k0 n)[j] = lmk k0 j := by simp [lmarks]

/-- the first m leaves bear marks, and all may be written -/
def MlI (w : World) (g : Nat) (l : List Le) (k0 m : Nat) (wr : World) : Prop := (∀ j, j < m → wr.rangeAt g (j * 2) (lcs (lmk k0 j))) ∧ (∀ j, j < l.length → wr.there g (j * 2) 2) ∧ w.grownBy wr (rowF g l.length)
theorem MlI.below {w wr wr' : World} {g : Nat} {l : List Le} {k0 m : Nat} (h : MlI w g l k0 m wr) (hg : g < wr.heap.size) (hb : Below wr.heap.size wr wr') : MlI w g l k0 m wr' :=
  ⟨fun j hj => range_kept (h.1 j hj) (hb.block g hg), fun j hj => there_kept (h.2.1 j hj) (hb.block g hg), h.2.2.trans ((grown_below hb))⟩
theorem MlI.set {w wr : World} {g : Nat} {l : List Le} {k0 m : Nat} (h : MlI w g l k0 m wr) (hm : m < l.length) (o : Nat) (ho : m * 2 ≤ o) (v : Value) : MlI w g l k0 m (wr.setCell ⟨g, o, none⟩ v) :=
  ⟨fun j hj => set_range (h.1 j hj) (by rw [lcs_len]; omega) v, fun j hj => set_there o (h.2.1 j hj) v, by
    have h3 := h.2.2
    rw [rowF_some (by omega)] at h3 ⊢
    exact h3.trans (grown_set wr g o v)⟩

def MlR (w : World) (g : Nat) (l : List Le) (k0 : Nat) (x i : Value) (wr : World) : Prop := ∃ m : Nat, m ≤ l.length ∧ i = .int .i64 m ∧ x = .int .i64 (k0 + 2 * m : Nat) ∧ Hid (MlI w g l k0 m wr)

def HlR (k0 n : Nat) (w : World) (x i : Value) (wr : World) : Prop := ∃ m : Nat, m ≤ n ∧ i = .int .i64 m ∧ x = .int .i64 (k0 + 2 * m : Nat) ∧ Below w.heap.size w wr

end Go.Proofs.Ytmhoilliaeefcaa
