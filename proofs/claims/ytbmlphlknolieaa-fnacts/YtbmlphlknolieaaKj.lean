/-
  A disk in its box beside a cursor, its row its own: what the specification's l06Disk keeps to.
-/
import Derived.Test.YtbmlphlknolieaaPv
import Derived.Test.YtbmlphlknolieaaKd
import Derived.Laws.OwnMore
namespace Go.Proofs.Ytbmlphlknolieaa
open Go.RowKit Go.BigFrame Go.Sort
set_option linter.unusedVariables false
set_option linter.unusedSimpArgs false

theorem flat_set3 : ∀ (L : List Fl) (k : Nat) (hk : k < L.length) (j : Nat) (u : Value) (f : Fl), j < 3 → fcs f = (fcs L[k]).set j u → (L.flatMap fcs).set (k * 3 + j) u = (L.set k f).flatMap fcs
  | a :: r, 0, _, j, u, f, hj, he => by
    simp only [List.getElem_cons_zero] at he
    simp only [List.flatMap_cons, List.set_cons_zero, he, Nat.zero_mul, Nat.zero_add]
    rw [List.set_append_left _ _ (by rw [fcs_len]; omega)]
  | a :: r, k + 1, hk, j, u, f, hj, he => by
    have ih := flat_set3 r k (by simpa using hk) j u f hj (by simpa using he)
    simp only [List.flatMap_cons, List.set_cons_succ, ← ih]
    rw [List.set_append_right _ _ (by rw [fcs_len]; omega), fcs_len, show (k + 1) * 3 + j - 3 = k * 3 + j by omega]

def SzD (L : List Fl) : Prop := L.length ≤ 31 ∧ ∀ f ∈ L, f.n.size ≤ 9 ∧ f.t.size ≤ 20001

def DkS (B : Nat) (w0 w : World) (g : Nat) (v : Value) (r p : Nat) (s : Value) (L : List Fl) (W : World) : Prop :=
  Cur B w0 W g v ∧ w.grownBy W (some g) ∧ BD W p 26 s ∧ BD W r 26 (.slice none 0 0) ∧ W.ownsRow w.heap.size 36 3 s L.length (L.flatMap fcs) ∧ (w.heap.size ≤ r ∧ w.heap.size ≤ p ∧ r ≠ p ∧ g < w.heap.size ∧ B ≤ w.heap.size) ∧ True
section
variable {B : Nat} {w0 w : World} {g : Nat} {v : Value} {r p : Nat} {s : Value} {L : List Fl} {W W' : World}
theorem DkS.cur (h : DkS B w0 w g v r p s L W) : Cur B w0 W g v := h.1
theorem DkS.cell (h : DkS B w0 w g v r p s L W) : W.cell? ⟨p, 0, none⟩ = some s := h.2.2.1.cell
theorem DkS.fr (h : DkS B w0 w g v r p s L W) : W.frozen? ⟨p, 0, none⟩ = false := h.2.2.1.fr
theorem DkS.size (h : DkS B w0 w g v r p s L W) : w.heap.size ≤ W.heap.size := h.2.1.size
theorem DkS.of (h : DkS B w0 w g v r p s L W) : OF w.heap.size W W s L := ⟨h.2.2.2.2.1, Below.refl _ _, h.size⟩
theorem DkS.rw' (h : DkS B w0 w g v r p s L W) (hl : L.length ≤ 1100000) : ∃ q, RW 3 fcs W s q L ∧ w.heap.size ≤ q := by
  obtain ⟨q, h1, h2, _⟩ := OR.rw (k := 3) (enc := fcs) (fun x => fcs_len x) (by omega) h.of hl
  exact ⟨q, h1, h2⟩
theorem DkS.shape (h : DkS B w0 w g v r p s L W) : ∃ a c, s = .slice a L.length c := h.of.shape
theorem DkS.drew (h : DkS B w0 w g v r p s L W) : DkS B w0 w g v r p s L W.drew :=
  ⟨h.1.drn 1, grown_drn h.2.1 1, h.2.2.1, h.2.2.2.1, h.2.2.2.2.1.drew, h.2.2.2.2.2⟩
theorem DkS.call (h : DkS B w0 w g v r p s L W) (hc : Cur B w0 W' g v) (hg : W.grownBy W' (some g)) : DkS B w0 w g v r p s L W' := by
  obtain ⟨q1, q2, q3, q4, q5⟩ := h.2.2.2.2.2.1
  refine ⟨hc, h.2.1.trans hg, h.2.2.1.grown hg (by simp; omega), h.2.2.2.1.grown hg (by simp; omega), h.2.2.2.2.1.kept hg (.inr fun e => ?_), h.2.2.2.2.2⟩
  have := (h.2.2.2.2.1.lt g e).1
  omega
theorem DkS.below (h : DkS B w0 w g v r p s L W) (hb : Below W.heap.size W W') : DkS B w0 w g v r p s L W' :=
  h.call (h.1.kept (row := none) (grown_below hb) (by simp) h.1.size (fun k hk => by cases hk)) (grown_below hb)
/-- another row of its own is laid into the box -/
theorem DkS.lay (h : DkS B w0 w g v r p s L W) {s' : Value} {M : List Fl} (ho : W.ownsRow w.heap.size 36 3 s' M.length (M.flatMap fcs)) : DkS B w0 w g v r p s' M (W.setCell ⟨p, 0, none⟩ s') := by
  obtain ⟨q1, q2, q3, q4, q5⟩ := h.2.2.2.2.2.1
  have hg := grown_set W p 0 s'
  have hof : OF w.heap.size W W s' M := ⟨ho, Below.refl _ _, h.size⟩
  refine ⟨h.1.kept hg (by simp; omega) h.1.size (fun k hk => by cases hk; omega), grow_then h.2.1 hg (fun j hj => by cases hj; exact .inl q2), ?_, h.2.2.2.1.grown hg (by simpa using q3), ho.kept hg (.inr (hof.ne h.2.2.1)), ⟨q1, q2, q3, q4, q5⟩, trivial⟩
  have e1 := heap_setCell_same W p 0 _ 26 s' h.2.2.1
  simpa [BD] using e1
theorem DkS.put (h : DkS B w0 w g v r p s L W) {s' : Value} {f : Fl} (ho : OF W.heap.size W W' s' (F.put L f)) : DkS B w0 w g v r p s' (F.put L f) (W'.setCell ⟨p, 0, none⟩ s') :=
  (h.below ho.2.1).lay (own_mono ho.1 h.size)
/-- a cell of the row is written -/
theorem DkS.store {q cap : Nat} (h : DkS B w0 w g v r p (.slice (some ⟨q, 0, none⟩) L.length cap) L W) (k j : Nat) (hk : k < L.length) (hj : j < 3) (u : Value) (f : Fl) (hf : fcs f = (fcs L[k]).set j u) : DkS B w0 w g v r p (.slice (some ⟨q, 0, none⟩) L.length cap) (L.set k f) (W.setCell ⟨q, k * 3 + j, none⟩ u) := by
  obtain ⟨q1, q2, q3, q4, q5⟩ := h.2.2.2.2.2.1
  have hg := grown_set W q (k * 3 + j) u
  have hql := (h.2.2.2.2.1.lt q rfl).1
  have hne := h.of.ne h.2.2.1
  have hne2 := h.of.ne h.2.2.2.1
  simp only [Value.ownBlock] at hne hne2
  refine ⟨h.1.kept hg (by simp; omega) h.1.size (fun k hk => by cases hk; omega), grow_then h.2.1 hg (fun j hj => by cases hj; exact .inl hql), h.2.2.1.grown hg (fun e => hne e.symm), h.2.2.2.1.grown hg (fun e => hne2 e.symm), ?_, ⟨q1, q2, q3, q4, q5⟩, trivial⟩
  · have h1 := (h.2.2.2.2.1.stored (k * 3 + j) u).1
    rw [flat_set3 L k hk j u f hj hf] at h1
    rw [List.length_set]
    exact h1
/-- a file is appended, and what comes of it is laid into the box -/
theorem DkS.app (h : DkS B w0 w g v r p s L W) (hg : W.grownBy W' s.ownBlock) {s' : Value} {M : List Fl} (ho : W'.ownsRow w.heap.size 36 3 s' M.length (M.flatMap fcs)) : BD W' p 26 s ∧ DkS B w0 w g v r p s' M (W'.setCell ⟨p, 0, none⟩ s') := by
  obtain ⟨q1, q2, q3, q4, q5⟩ := h.2.2.2.2.2.1
  have hlt := h.2.2.2.2.1.lt
  have hne := h.of.ne h.2.2.1
  have hne2 := h.of.ne h.2.2.2.1
  have hw : Cur B w0 W' g v := h.1.kept hg (fun e => by have := (hlt g e.symm).1; omega) h.1.size (fun k hk => by have := (hlt k hk).1; omega)
  have hgg : w.grownBy W' (some g) := grow_then h.2.1 hg (fun j hj => .inl (hlt j hj).1)
  have hbp := h.2.2.1.grown hg (fun e => hne e.symm)
  have hbr := h.2.2.2.1.grown hg (fun e => hne2 e.symm)
  have hof : OF w.heap.size W' W' s' M := ⟨ho, Below.refl _ _, hgg.size⟩
  have hs := grown_set W' p 0 s'
  refine ⟨hbp, hw.kept hs (by simp; omega) hw.size (fun k hk => by cases hk; omega), grow_then hgg hs (fun j hj => by cases hj; exact .inl q2), ?_, hbr.grown hs (by simpa using q3), ho.kept hs (.inr (hof.ne hbp)), ⟨q1, q2, q3, q4, q5⟩, trivial⟩
  have e1 := heap_setCell_same W' p 0 _ 26 s' hbp
  simpa [BD] using e1
end
/-- what l06Disk answers -/
def DkA (B : Nat) (w0 w : World) (g : Nat) (v : Value) (e : Ending) (w' : World) : Prop :=
  ∃ (a : Option Addr) (c q : Nat) (L : List Fl), e = .returned (.agg #[.slice a L.length c]) ∧ RW 3 fcs w' (.slice a L.length c) q L ∧ w.heap.size ≤ q ∧ SzD L ∧ (a = none ∧ c = 0 ∨ a = some ⟨q, 0, none⟩) ∧ Cur B w0 w' g v ∧ w.grownBy w' (some g)
theorem DkS.ans {B : Nat} {w0 w : World} {g : Nat} {v : Value} {r p : Nat} {a : Option Addr} {c : Nat} {L : List Fl} {W : World} (h : DkS B w0 w g v r p (.slice a L.length c) L W) (hz : SzD L) :
    (W.setCell ⟨r, 0, none⟩ (.slice a L.length c)).rangeAt r 0 [.slice a L.length c] ∧ DkA B w0 w g v (.returned (.agg #[.slice a L.length c])) (W.setCell ⟨r, 0, none⟩ (.slice a L.length c)) := by
  obtain ⟨q1, q2, q3, q4, q5⟩ := h.2.2.2.2.2.1
  have hg := grown_set W r 0 (.slice a L.length c)
  have hne := h.of.ne h.2.2.2.1
  have hzl := hz.1
  obtain ⟨q, hr, hq, hqq⟩ := OR.rw (k := 3) (enc := fcs) (fun x => fcs_len x) (by omega) h.of (by omega)
  have hx : a = none ∧ c = 0 ∨ a = some ⟨q, 0, none⟩ := by
    rcases h.2.2.2.2.1.2 with ⟨hv, _⟩ | ⟨g', cap, cur, hv, _⟩
    · simp at hv
      exact .inl ⟨hv.1, hv.2.2⟩
    · simp at hv
      have := hqq g' (by rw [hv.1]; rfl)
      subst this
      exact .inr hv.1
  refine ⟨range1 (set_here h.2.2.2.1.cell h.2.2.2.1.fr _), a, c, q, L, rfl, hr.grown hg (fun h0 => ?_), hq, hz, hx, h.1.kept hg (by simp; omega) h.1.size (fun k hk => by cases hk; omega), grow_then h.2.1 hg (fun j hj => by cases hj; exact .inl q1)⟩
  intro e
  rcases hx with ⟨rfl, _⟩ | rfl
  · obtain ⟨a', c', ev, _, h1, _⟩ := hr.1
    simp at ev
    have := (h1 h0).1
    rw [← ev.1] at this
    cases this
  · exact hne e

end Go.Proofs.Ytbmlphlknolieaa
