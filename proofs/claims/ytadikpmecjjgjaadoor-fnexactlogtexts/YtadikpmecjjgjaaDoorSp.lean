/-
  The specification's own disks: a row of files that grows in a field, file by file.
-/
import Derived.Test.YtadikpmecjjgjaaDoorFa
import Derived.Test.YtadikpmecjjgjaaDoorLs
import Derived.Deep.AppendLies
import Derived.Deep.RegionLaw
namespace Go.Proofs.YtadikpmecjjgjaaDoor
open Go.RowKit Go.BigFrame Go.Sort
set_option linter.unusedVariables false
set_option linter.unusedSimpArgs false

/-- v owns the files l -/
def OF (B : Nat) (w0 w : World) (v : Value) (l : List Fl) : Prop := OR 85 3 fcs B w0 w v l
theorem BD.fr {W : World} {p T : Nat} {v : Value} (h : BD W p T v) : W.frozen? ⟨p, 0, none⟩ = false := by
  simp [World.frozen?, show W.heap[p]? = some (.cells #[v] T (0, 0)) from h]
theorem OF.ne {B : Nat} {w0 w : World} {u v : Value} {l : List Fl} {p : Nat} (h : OF B w0 w u l) (hb : BD w p 36 v) : u.ownBlock ≠ some p := by
  rcases h.1.2 with ⟨hv, _⟩ | ⟨g, cap, cur, hv, _, hg, _⟩
  · rw [hv]; simp [Value.ownBlock]
  · rw [hv]
    intro e
    have : g = p := by simpa [Value.ownBlock] using e
    subst this
    have e2 := (show w.heap[g]? = some (.cells #[v] 36 (0, 0)) from hb).symm.trans hg
    simp at e2
theorem OF.nil (w : World) : OF w.heap.size w w (.slice none 0 0) [] := OR.nil w
theorem OF.later {B : Nat} {w0 w w' : World} {v : Value} {l : List Fl} (h : OF B w0 w v l) (hb : Below w.heap.size w w') : OF B w0 w' v l := OR.later h hb
theorem OF.dk {B : Nat} {w0 w : World} {v : Value} {l : List Fl} (h : OF B w0 w v l) (hl : l.length ≤ 1100000) : DkIn w B (.agg #[v]) l := by
  obtain ⟨g, h1, h2, _⟩ := OR.rw (k := 3) (enc := fcs) (fun x => fcs_len x) (by omega) h hl
  exact ⟨v, g, rfl, h1, h2⟩
theorem OF.shape {B : Nat} {w0 w : World} {v : Value} {l : List Fl} (h : OF B w0 w v l) : ∃ a c, v = .slice a l.length c := by
  rcases h.1.2 with ⟨hv, hn⟩ | ⟨g, cap, cur, hv, _⟩
  · exact ⟨none, 0, by rw [hv, hn]⟩
  · exact ⟨_, _, hv⟩

section
variable {w : World} {ops : Array Oper} {o : Oper} {a : Act} {K : Act → World → Prop} {Q : Exit → Act → World → Prop}
/-- a file appended, as one step of a region that draws its order -/
theorem step_file {E : Prop} (hgd : o.guard = none) (s x : Operand)
    (ho : o.op = .call { callee := .builtin .append, args := #[s, x], argTypes := #[34, 34] })
    (B : Nat) (w0 : World) (u : Value) (l : List Fl) (f : Fl) (hs : a.eval s = u) (h : OF B w0 w u l) (p : Nat) (hx : a.eval x = .slice (some ⟨p, 0, none⟩) 1 1)
    (hnews : w.rangeAt p 0 (fcs f)) (hlen : l.length + 1 ≤ 1000000)
    (hk : ∀ g cap w', OF B w0 w' (.slice (some ⟨g, 0, none⟩) (l.length + 1) cap) (l ++ [f]) → w.grownBy w' u.ownBlock → K (a.put o.dst (.slice (some ⟨g, 0, none⟩) (l.length + 1) cap)) w') : if Region.wanted o (yielded ops a.tmps) = true then Oper.wp Tryd.prog o a w K Q else E := by
  obtain ⟨i0, hi, hz0, hz1, hz2⟩ := info_parts Tryd.infoFile
  refine step_append_lies w hgd s x 34 ho B 85 i0 _ 3 40 Tryd.underlying34 hi hz0 hz1 hz2 rfl (by decide) u l.length (l.flatMap fcs) hs h.1 ⟨p, 0, none⟩ 1 1 (fcs f) hx rfl ?_
    (fun u hu => by simp [fcs] at hu; rcases hu with rfl | rfl | rfl <;> rfl) (by omega) (by unfold maxLen; omega) (by omega) h.2.2 w.heap.size rfl ?_
  · intro j u hj
    have := hnews j u hj
    rw [Addr.add_mid]
    exact this
  · intro g cap w' h1 h2 h3 _
    exact hk _ _ _ ⟨by rw [List.flatMap_append, List.flatMap_singleton, List.length_append]; exact h1, h.2.1.grown h2 h.2.2 (fun k hk => (h.1.lt k hk).1), Nat.le_trans h.2.2 h2.size⟩ h2
/-- .. and in a plain region -/
theorem wp_file {rest : List Oper} (hgd : o.guard = none) (s x : Operand)
    (ho : o.op = .call { callee := .builtin .append, args := #[s, x], argTypes := #[34, 34] })
    (B : Nat) (w0 : World) (u : Value) (l : List Fl) (f : Fl) (hs : a.eval s = u) (h : OF B w0 w u l) (p : Nat) (hx : a.eval x = .slice (some ⟨p, 0, none⟩) 1 1)
    (hnews : w.rangeAt p 0 (fcs f)) (hlen : l.length + 1 ≤ 1000000)
    (hk : ∀ g cap w', OF B w0 w' (.slice (some ⟨g, 0, none⟩) (l.length + 1) cap) (l ++ [f]) → w.grownBy w' u.ownBlock → wpList Tryd.prog ops Q rest (a.put o.dst (.slice (some ⟨g, 0, none⟩) (l.length + 1) cap)) w') : wpList Tryd.prog ops Q (o :: rest) a w := by
  obtain ⟨i0, hi, hz0, hz1, hz2⟩ := info_parts Tryd.infoFile
  refine wpList_append_lies w hgd s x 34 ho B 85 i0 _ 3 40 Tryd.underlying34 hi hz0 hz1 hz2 rfl (by decide) u l.length (l.flatMap fcs) hs h.1 ⟨p, 0, none⟩ 1 1 (fcs f) hx rfl ?_
    (fun u hu => by simp [fcs] at hu; rcases hu with rfl | rfl | rfl <;> rfl) (by omega) (by unfold maxLen; omega) (by omega) h.2.2 w.heap.size rfl ?_
  · intro j u hj
    have := hnews j u hj
    rw [Addr.add_mid]
    exact this
  · intro g cap w' h1 h2 h3 _
    exact hk _ _ _ ⟨by rw [List.flatMap_append, List.flatMap_singleton, List.length_append]; exact h1, h.2.1.grown h2 h.2.2 (fun k hk => (h.1.lt k hk).1), Nat.le_trans h.2.2 h2.size⟩ h2
end

/-- the disk that is looked at (block p), one that is empty (block q), and one that grows (block r) -/
def SpW (B : Nat) (w0 w : World) (p q r : Nat) (v u : Value) (l : List Fl) : Prop := OF B w0 w u l ∧ (BD w p 36 v ∧ BD w q 36 (.slice none 0 0) ∧ BD w r 36 u) ∧ (B ≤ q ∧ B ≤ r) ∧ p ≠ r ∧ q ≠ r
theorem SpW.later {B : Nat} {w0 w w' : World} {p q r : Nat} {v u : Value} {l : List Fl} (h : SpW B w0 w p q r v u l) (hb : Below w.heap.size w w') : SpW B w0 w' p q r v u l :=
  ⟨h.1.later hb, ⟨h.2.1.1.later hb, h.2.1.2.1.later hb, h.2.1.2.2.later hb⟩, h.2.2⟩
/-- behind an append: the field still holds the old row -/
def SpA (B : Nat) (w0 w : World) (p q r : Nat) (v u u' : Value) (l' : List Fl) : Prop := OF B w0 w u' l' ∧ (BD w p 36 v ∧ BD w q 36 (.slice none 0 0) ∧ BD w r 36 u) ∧ (B ≤ q ∧ B ≤ r) ∧ p ≠ r ∧ q ≠ r
theorem SpW.app {B : Nat} {w0 w w' : World} {p q r : Nat} {v u u' : Value} {l l' : List Fl} (h : SpW B w0 w p q r v u l) (ho : OF B w0 w' u' l') (hg : w.grownBy w' u.ownBlock) : SpA B w0 w' p q r v u u' l' :=
  ⟨ho, ⟨h.2.1.1.grown hg (h.1.ne h.2.1.1).symm, h.2.1.2.1.grown hg (h.1.ne h.2.1.2.1).symm, h.2.1.2.2.grown hg (h.1.ne h.2.1.2.2).symm⟩, h.2.2⟩
theorem SpA.set {B : Nat} {w0 w : World} {p q r : Nat} {v u u' : Value} {l' : List Fl} (h : SpA B w0 w p q r v u u' l') : SpW B w0 (w.setCell ⟨r, 0, none⟩ u') p q r v u' l' := by
  have hg := grown_set w r 0 u'
  refine ⟨OR.grown h.1 hg (fun k hk => ⟨by cases hk; exact h.2.2.1.2, fun e => h.1.ne h.2.1.2.2 (e.trans hk.symm)⟩), ⟨h.2.1.1.grown hg (by simp [h.2.2.2.1]), h.2.1.2.1.grown hg (by simp [h.2.2.2.2]), ?_⟩, h.2.2⟩
  show (w.setCell ⟨r, 0, none⟩ u').heap[r]? = _
  rw [heap_setCell_same w r 0 _ _ _ h.2.1.2.2]
  rfl
theorem SpW.start (w : World) (v : Value) : SpW w.heap.size w (((w.alloc (.cells #[v] 36)).alloc (.cells #[.slice none 0 0] 36)).alloc (.cells #[.slice none 0 0] 36)) w.heap.size (w.heap.size + 1) (w.heap.size + 1 + 1) v (.slice none 0 0) [] := by
  have hb : Below w.heap.size w (((w.alloc (.cells #[v] 36)).alloc (.cells #[.slice none 0 0] 36)).alloc (.cells #[.slice none 0 0] 36)) := (((Below.refl _ _).alloc (Nat.le_refl _) _).alloc (by simp) _).alloc (by simp; omega) _
  exact ⟨(OF.nil w).later hb, ⟨(Below.heap_alloc _ _ w.heap.size (by simp; omega)).trans (alloc_snd _ _ _ rfl), alloc_snd _ _ _ (by simp), alloc_fst _ _ (by simp)⟩, ⟨by omega, by omega⟩, by omega, by omega⟩

/-- .. and the one that was empty is answered -/
theorem SpW.ret {B : Nat} {w0 w : World} {p q r : Nat} {v u : Value} {l : List Fl} (h : SpW B w0 w p q r v u l) (hl : l.length ≤ 1100000) :
    (w.setCell ⟨q, 0, none⟩ u).rangeAt q 0 [u] ∧ DkIn (w.setCell ⟨q, 0, none⟩ u) B (.agg #[u]) l ∧ Below B w0 (w.setCell ⟨q, 0, none⟩ u) := by
  have hg := grown_set w q 0 u
  refine ⟨range1 (set_here h.2.1.2.1.cell h.2.1.2.1.fr _), OF.dk (w0 := w0) (OR.grown h.1 hg (fun k hk => ⟨by cases hk; exact h.2.2.1.1, fun e => h.1.ne h.2.1.2.1 (e.trans hk.symm)⟩)) hl, ?_⟩
  exact h.1.2.1.setCell (p := ⟨q, 0, none⟩) h.2.2.1.1 _

namespace F
theorem wout_step {L : List Fl} {m : Nat} (x : ByteArray) (hm : m < L.length) : wout (L.take (m + 1)) x = if L[m].n = x then wout (L.take m) x else wout (L.take m) x ++ [L[m]] := by
  unfold wout
  rw [List.take_succ_eq_append_getElem hm, List.filter_append]
  by_cases h : L[m].n = x
  · simp [h]
  · simp [h]
theorem wout_take_len (L : List Fl) (m : Nat) (x : ByteArray) : (wout (L.take m) x).length ≤ L.length := Nat.le_trans (len_wout_le _ _) (by simp; omega)
end F

def WoR (w : World) (L : List Fl) (x : ByteArray) (v : Value) (i : Value) (wr : World) : Prop := ∃ (m : Nat) (u : Value), m ≤ L.length ∧ i = .int .i64 m ∧ Hid (SpW w.heap.size w wr w.heap.size (w.heap.size + 1) (w.heap.size + 1 + 1) v u (F.wout (L.take m) x))

end Go.Proofs.YtadikpmecjjgjaaDoor
