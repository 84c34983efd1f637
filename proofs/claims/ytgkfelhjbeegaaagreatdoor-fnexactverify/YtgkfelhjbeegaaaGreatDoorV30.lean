/-
  Texts laid together: Gr, Gn, Nx, Ih.
-/
import Derived.Test.YtgkfelhjbeegaaaGreatDoorV28
import Derived.Test.YtgkfelhjbeegaaaGreatDoorV22
/-
  Rows of buckets looked through; nodes and their hashes.
-/
namespace Go.Proofs.YtgkfelhjbeegaaaGreatDoor
open Go.RowKit Go.BigFrame Go.Sort
set_option linter.unusedVariables false
set_option linter.unusedSimpArgs false

/-- the buckets of the 2 ^ k indexes under place p, from offset o of block g on -/
def BkW (w : World) (g o : Nat) (L : List Le) (b n : Nat) : Prop := ∀ j, j < n → ∃ v gj, w.cell? ⟨g, o + j, none⟩ = some v ∧ RS 2 lcs w v gj 0 (TR.und idxL 0 (b + j) L)
theorem BkW.later {w w' : World} {g o : Nat} {L : List Le} {b n : Nat} (h : BkW w g o L b n) (hb : Below w.heap.size w w') : BkW w' g o L b n := fun j hj => by
  obtain ⟨v, gj, h1, h2⟩ := h j hj
  exact ⟨v, gj, cell_later h1 hb, h2.later hb⟩
/-- is one of the first m of them not empty? -/
def anyB (L : List Le) (b m : Nat) : Prop := ∃ j, j < m ∧ 0 < (TR.und idxL 0 (b + j) L).length

def IxfR (L : List Le) (b n : Nat) (w : World) (i : Value) (wr : World) : Prop := ∃ m : Nat, m ≤ n ∧ i = .int .i64 m ∧ wr = w ∧ ¬ anyB L b m

open Classical in
noncomputable def anyD (L : List Le) (b n : Nat) : Bool := decide (anyB L b n)
theorem anyD_iff {L : List Le} {b n : Nat} : anyD L b n = true ↔ anyB L b n := by simp [anyD]
/-! the method hash, of each kind of node -/
section
variable {w : World} {ops : Array Oper} {o : Oper} {a : Act} {K : Act → World → Prop} {Q : Exit → Act → World → Prop}
end

end Go.Proofs.YtgkfelhjbeegaaaGreatDoor
/-
  The tree that the program grows over its buckets.
-/
namespace Go.Proofs.YtgkfelhjbeegaaaGreatDoor
open Go.RowKit Go.BigFrame Go.Sort
set_option linter.unusedVariables false
set_option linter.unusedSimpArgs false

/-- nothing lies under a place where nothing lies below it -/
theorem und_any (L : List Le) (k p : Nat) : anyB L (p * 2 ^ k) (2 ^ k) ↔ TR.und idxL k p L ≠ [] := by
  constructor
  · rintro ⟨j, hj, h⟩ h0
    have h1 : (p * 2 ^ k + j) / 2 ^ k = p := by
      rw [Nat.mul_comm, Nat.mul_add_div (Nat.two_pow_pos k), Nat.div_eq_of_lt hj, Nat.add_zero]
    have h2 := TR.und_down (idx := idxL) (k := 0) (j := k) (p := p) (q := p * 2 ^ k + j) (l := L) h1 (by rw [Nat.zero_add]; exact h0)
    rw [h2] at h
    simp at h
  · intro h
    obtain ⟨f, hf⟩ := List.exists_mem_of_ne_nil _ h
    unfold TR.und at hf
    have hq : idxL f / 2 ^ k = p := by simpa using (List.mem_filter.1 hf).2
    have hfL := (List.mem_filter.1 hf).1
    refine ⟨idxL f % 2 ^ k, Nat.mod_lt _ (Nat.two_pow_pos k), List.length_pos_of_mem (a := f) ?_⟩
    unfold TR.und
    rw [List.mem_filter]
    refine ⟨hfL, ?_⟩
    have : p * 2 ^ k + idxL f % 2 ^ k = idxL f := by rw [← hq, Nat.mul_comm]; exact Nat.div_add_mod _ _
    rw [this]
    simp
theorem leaves_und {L : List Le} (h : LV.LOk L) (k p : Nat) : LV.leavesB (TR.und idxL k p L) = true := by
  refine LV.leavesB_iff.2 ⟨Nat.le_trans (und_len k p L) h.1, fun f hf => h.2.1 f ?_, List.Pairwise.filter _ h.2.2⟩
  unfold TR.und at hf
  exact (List.mem_filter.1 hf).1

end Go.Proofs.YtgkfelhjbeegaaaGreatDoor
/-
  The program's buckets of a list, and the node over them.
-/
namespace Go.Proofs.YtgkfelhjbeegaaaGreatDoor
open Go.RowKit Go.BigFrame Go.Sort
set_option linter.unusedVariables false
set_option linter.unusedSimpArgs false

/-- an array of so many nil slices -/
def zB : Array Value := (List.replicate 256 (Value.slice none 0 0)).toArray
theorem zB_at (j : Nat) (h : j < 256) : zB[j]? = some (.slice none 0 0) := by
  unfold zB
  rw [List.getElem?_toArray, List.getElem?_replicate, if_pos h]
section
variable {w : World} {ops : Array Oper} {rest : List Oper} {o : Oper} {a : Act} {Q : Exit → Act → World → Prop}
end

theorem OL.setOther {B : Nat} {w0 w : World} {v : Value} {l : List Le} {g : Nat} (h : OL B w0 w v l) (hg : B ≤ g) (hne : v.ownBlock ≠ some g) (i : Nat) (x : Value) : OL B w0 (w.setCell ⟨g, i, none⟩ x) v l := by
  refine ⟨⟨h.1.1, ?_⟩, h.2.1.setCell (p := ⟨g, i, none⟩) hg _, by rw [World.size_setCell]; exact h.2.2⟩
  rcases h.1.2 with hn | ⟨q, cap, cur, hv, hbq, hq, rest⟩
  · exact .inl hn
  · refine .inr ⟨q, cap, cur, hv, hbq, ?_, rest⟩
    rw [heap_setCell_other w ⟨g, i, none⟩ q x (fun e => hne (by rw [hv, e]; rfl))]
    exact hq

section
variable {w : World} {ops : Array Oper} {o : Oper} {a : Act} {K : Act → World → Prop} {Q : Exit → Act → World → Prop}
/-- a leaf appended, and where the row lies then: as one step of a region that draws its order -/
theorem step_leafL {E : Prop} (hgd : o.guard = none) (s x : Operand)
    (ho : o.op = .call { callee := .builtin .append, args := #[s, x], argTypes := #[43, 43] })
    (B : Nat) (w0 : World) (u : Value) (l : List Le) (f : Le) (hs : a.eval s = u) (h : OL B w0 w u l) (p : Nat) (hx : a.eval x = .slice (some ⟨p, 0, none⟩) 1 1)
    (hnews : w.rangeAt p 0 (lcs f)) (hlen : l.length + 1 ≤ 1000000)
    (hk : ∀ g cap w', OL B w0 w' (.slice (some ⟨g, 0, none⟩) (l.length + 1) cap) (l ++ [f]) → w.grownBy w' u.ownBlock → (u.ownBlock = some g ∨ g = w.heap.size) → K (a.put o.dst (.slice (some ⟨g, 0, none⟩) (l.length + 1) cap)) w') : if Region.wanted o (yielded ops a.tmps) = true then Oper.wp Tryz.prog o a w K Q else E := by
  obtain ⟨i0, hi, hz0, hz1, hz2⟩ := info_parts Tryz.infoLeaf
  refine step_append_lies w hgd s x 43 ho B 119 i0 _ 2 32 Tryz.underlying43 hi hz0 hz1 hz2 rfl (by decide) u l.length (l.flatMap lcs) hs h.1 ⟨p, 0, none⟩ 1 1 (lcs f) hx rfl ?_
    (fun u hu => by simp [lcs] at hu; rcases hu with rfl | rfl <;> rfl) (by omega) (by unfold maxLen; omega) (by omega) h.2.2 w.heap.size rfl ?_
  · intro j u hj
    have := hnews j u hj
    rw [Addr.add_mid]
    exact this
  · intro g cap w' h1 h2 h3 _
    exact hk _ _ _ ⟨by rw [List.flatMap_append, List.flatMap_singleton, List.length_append]; exact h1, h.2.1.grown h2 h.2.2 (fun k hk => (h.1.lt k hk).1), Nat.le_trans h.2.2 h2.size⟩ h2 h3
end

end Go.Proofs.YtgkfelhjbeegaaaGreatDoor
/-
  What NodeHash, RootOf and SidesOf answer: the program's.
-/
namespace Go.Proofs.YtgkfelhjbeegaaaGreatDoor
open Go.RowKit Go.BigFrame Go.Sort
set_option linter.unusedVariables false
set_option linter.unusedSimpArgs false

end Go.Proofs.YtgkfelhjbeegaaaGreatDoor
