/-
  Laws on a slice of bytes that the call itself has made: appending to it, and making a string of it.
-/
import Derived.Test.YtodibhiinfbhiaaRows
import Derived.WalkKit
import Derived.Test.YtodibhiinfbhiaaMath
namespace Go.Proofs.Ytodibhiinfbhiaa
open Go.RowKit

def bv (l : List UInt8) : List Value := l.map (fun b => Value.int .u8 (b.toNat : Int))

theorem bv_length (l : List UInt8) : (bv l).length = l.length := by simp [bv]
theorem bv_append (l r : List UInt8) : bv (l ++ r) = bv l ++ bv r := by simp [bv]
theorem bv_get (l : List UInt8) (j : Nat) (u : Value) (h : (bv l)[j]? = some u) : ∃ hj : j < l.length, u = .int .u8 (l[j].toNat : Int) := by
  unfold bv at h
  rw [List.getElem?_map] at h
  cases hl : l[j]? with
  | none => rw [hl] at h; simp at h
  | some b =>
    rw [hl] at h
    obtain ⟨hj, hb⟩ := List.getElem?_eq_some_iff.1 hl
    simp at h
    exact ⟨hj, by rw [hb]; exact h.symm⟩

theorem Try.info5 : (Try.prog.info? 5).map (fun i => (i.zero, i.size, i.bytes)) = some (some (.int .u8 0), 1, 1) := by kernel_rfl
theorem Try.info3 : (Try.prog.info? 3).map (fun i => (i.zero, i.size, i.bytes)) = some (some (.int .i64 0), 1, 8) := by kernel_rfl

/-- v owns the bytes l, in blocks from B on; below B all is as it was in w0 -/
def OB (B : Nat) (w0 w : World) (v : Value) (l : List UInt8) : Prop :=
  w.ownsRow B 5 1 v l.length (bv l) ∧ Below B w0 w ∧ B ≤ w.heap.size

theorem OB.alloc {B : Nat} {w0 w : World} {v : Value} {l : List UInt8} (h : OB B w0 w v l) (o : Obj) : OB B w0 (w.alloc o) v l :=
  ⟨h.1.alloc o, h.2.1.alloc h.2.2 o, by have := h.2.2; simp; omega⟩
theorem OB.drew {B : Nat} {w0 w : World} {v : Value} {l : List UInt8} (h : OB B w0 w v l) : OB B w0 w.drew v l :=
  ⟨h.1.drew, h.2.1.drew, h.2.2⟩

theorem OB.nil (w : World) : OB w.heap.size w w (.slice none 0 0) [] :=
  ⟨World.ownsRow_nil _ _ _ _, Below.refl _ _, Nat.le_refl _⟩

theorem OB.made (w : World) : OB w.heap.size w (w.alloc (.cells #[] 5)) (.slice (some ⟨w.heap.size, 0, none⟩) 0 0) [] :=
  ⟨World.ownsRow_made w #[] 0 (Nat.le_refl _) (by decide) (by simp), (Below.refl _ _).alloc (Nat.le_refl _) _, by simp⟩

end Go.Proofs.Ytodibhiinfbhiaa
