/-
  Texts laid together: La, Cs.
-/
import Derived.Test.YtiabodhgjeoejaaPkEx14
import Derived.Test.YtiabodhgjeoejaaPkEx15
import Derived.Deep.AppendLies
import Derived.Deep.RegionLaw
import Derived.Shelf.Small.Strs
import Derived.Test.YtiabodhgjeoejaaProg
/-
  Rows of leaves that a call owns, grown leaf by leaf.
-/
namespace Go.Proofs.Ytiabodhgjeoejaa
open Go.RowKit Go.BigFrame Go.Sort
set_option linter.unusedVariables false
set_option linter.unusedSimpArgs false

/-- v owns the leaves l -/
def OL (B : Nat) (w0 w : World) (v : Value) (l : List Le) : Prop := OR 73 2 lcs B w0 w v l
theorem OL.later {B : Nat} {w0 w w' : World} {v : Value} {l : List Le} (h : OL B w0 w v l) (hb : Below w.heap.size w w') : OL B w0 w' v l := OR.later h hb
theorem OL.grown {B : Nat} {w0 w w' : World} {v : Value} {l : List Le} {row : Option Nat} (h : OL B w0 w v l) (hg : w.grownBy w' row) (hne : ∀ q, row = some q → B ≤ q ∧ v.ownBlock ≠ some q) : OL B w0 w' v l := OR.grown h hg hne
theorem OL.rw {B : Nat} {w0 w : World} {v : Value} {l : List Le} (h : OL B w0 w v l) (hl : l.length ≤ 1100000) : ∃ g, RW 2 lcs w v g l ∧ B ≤ g ∧ (∀ q, v.ownBlock = some q → q = g) := OR.rw (k := 2) (enc := lcs) (fun x => lcs_len x) (by omega) h hl
theorem OL.shape {B : Nat} {w0 w : World} {v : Value} {l : List Le} (h : OL B w0 w v l) : ∃ a c, v = .slice a l.length c := by
  rcases h.1.2 with ⟨hv, hn⟩ | ⟨g, cap, cur, hv, _⟩
  · exact ⟨none, 0, by rw [hv, hn]⟩
  · exact ⟨_, _, hv⟩
theorem OL.made (B : Nat) (w0 w : World) (hb : Below B w0 w) (hB : B ≤ w.heap.size) : OL B w0 (w.alloc (.cells #[] 73)) (.slice (some ⟨w.heap.size, 0, none⟩) 0 0) [] :=
  ⟨World.ownsRow_made w #[] 0 hB (by decide) (by simp), hb.alloc hB _, by simp; omega⟩
/-- its block is none of another type -/
theorem OL.ne {B : Nat} {w0 w : World} {u : Value} {l : List Le} {p T : Nat} {cs : Array Value} {fz : Nat × Nat} (h : OL B w0 w u l) (hb : w.heap[p]? = some (.cells cs T fz)) (hT : T ≠ 73) : u.ownBlock ≠ some p := by
  rcases h.1.2 with ⟨hv, _⟩ | ⟨g, cap, cur, hv, _, hg, _⟩
  · rw [hv]; simp [Value.ownBlock]
  · rw [hv]
    intro e
    have : g = p := by simpa [Value.ownBlock] using e
    subst this
    rw [hg] at hb
    simp at hb
    exact hT hb.2.1.symm

section
variable {w : World} {ops : Array Oper} {o : Oper} {a : Act} {K : Act → World → Prop} {Q : Exit → Act → World → Prop}
/-- a leaf appended, as one step of a region that draws its order -/
theorem step_leaf {E : Prop} (hgd : o.guard = none) (s x : Operand)
    (ho : o.op = .call { callee := .builtin .append, args := #[s, x], argTypes := #[24, 24] })
    (B : Nat) (w0 : World) (u : Value) (l : List Le) (f : Le) (hs : a.eval s = u) (h : OL B w0 w u l) (p : Nat) (hx : a.eval x = .slice (some ⟨p, 0, none⟩) 1 1)
    (hnews : w.rangeAt p 0 (lcs f)) (hlen : l.length + 1 ≤ 1000000)
    (hk : ∀ g cap w', OL B w0 w' (.slice (some ⟨g, 0, none⟩) (l.length + 1) cap) (l ++ [f]) → w.grownBy w' u.ownBlock → K (a.put o.dst (.slice (some ⟨g, 0, none⟩) (l.length + 1) cap)) w') : if Region.wanted o (yielded ops a.tmps) = true then Oper.wp Try.prog o a w K Q else E := by
  obtain ⟨i0, hi, hz0, hz1, hz2⟩ := info_parts Try.infoLeaf
  refine step_append_lies w hgd s x 24 ho B 73 i0 _ 2 32 Try.underlying24 hi hz0 hz1 hz2 rfl (by decide) u l.length (l.flatMap lcs) hs h.1 ⟨p, 0, none⟩ 1 1 (lcs f) hx rfl ?_
    (fun u hu => by simp [lcs] at hu; rcases hu with rfl | rfl <;> rfl) (by omega) (by unfold maxLen; omega) (by omega) h.2.2 w.heap.size rfl ?_
  · intro j u hj
    have := hnews j u hj
    rw [Addr.add_mid]
    exact this
  · intro g cap w' h1 h2 h3 _
    exact hk _ _ _ ⟨by rw [List.flatMap_append, List.flatMap_singleton, List.length_append]; exact h1, h.2.1.grown h2 h.2.2 (fun k hk => (h.1.lt k hk).1), Nat.le_trans h.2.2 h2.size⟩ h2
/-- .. and in a plain region -/
theorem wp_leaf {rest : List Oper} (hgd : o.guard = none) (s x : Operand)
    (ho : o.op = .call { callee := .builtin .append, args := #[s, x], argTypes := #[24, 24] })
    (B : Nat) (w0 : World) (u : Value) (l : List Le) (f : Le) (hs : a.eval s = u) (h : OL B w0 w u l) (p : Nat) (hx : a.eval x = .slice (some ⟨p, 0, none⟩) 1 1)
    (hnews : w.rangeAt p 0 (lcs f)) (hlen : l.length + 1 ≤ 1000000)
    (hk : ∀ g cap w', OL B w0 w' (.slice (some ⟨g, 0, none⟩) (l.length + 1) cap) (l ++ [f]) → w.grownBy w' u.ownBlock → wpList Try.prog ops Q rest (a.put o.dst (.slice (some ⟨g, 0, none⟩) (l.length + 1) cap)) w') : wpList Try.prog ops Q (o :: rest) a w := by
  obtain ⟨i0, hi, hz0, hz1, hz2⟩ := info_parts Try.infoLeaf
  refine wpList_append_lies w hgd s x 24 ho B 73 i0 _ 2 32 Try.underlying24 hi hz0 hz1 hz2 rfl (by decide) u l.length (l.flatMap lcs) hs h.1 ⟨p, 0, none⟩ 1 1 (lcs f) hx rfl ?_
    (fun u hu => by simp [lcs] at hu; rcases hu with rfl | rfl <;> rfl) (by omega) (by unfold maxLen; omega) (by omega) h.2.2 w.heap.size rfl ?_
  · intro j u hj
    have := hnews j u hj
    rw [Addr.add_mid]
    exact this
  · intro g cap w' h1 h2 h3 _
    exact hk _ _ _ ⟨by rw [List.flatMap_append, List.flatMap_singleton, List.length_append]; exact h1, h.2.1.grown h2 h.2.2 (fun k hk => (h.1.lt k hk).1), Nat.le_trans h.2.2 h2.size⟩ h2
end

end Go.Proofs.Ytiabodhgjeoejaa
/-
  The library's own contract on strings.Compare, laid at this program: a table of numbers and one theorem.
-/
namespace Go.Proofs
open Go.Shelf
def Try.cmpStr_ren : Go.Shelf.Ren := ⟨fun | 106 => 88 | 213 => 96 | 265 => 100 | n => n, fun | 9 => 9 | 3 => 3 | n => n, fun | n => n⟩
theorem Try.cmpStr : Go.Proofs.Lays.n106 Try.prog Try.cmpStr_ren := {
  mixed := by kernel_rfl
  f106 := Try.func88.trans (congrArg some (by kernel_rfl))
  f213 := Try.func96.trans (congrArg some (by kernel_rfl))
  f265 := Try.func100.trans (congrArg some (by kernel_rfl))
  t3 := Try.underlying3
  a3 := Try.isAgg3
  z3 := Try.sizeOf3
  v3 := Try.zeroValue3
  t9 := Try.underlying9
  a9 := Try.isAgg9
  z9 := Try.sizeOf9
  v9 := Try.zeroValue9 }
end Go.Proofs
