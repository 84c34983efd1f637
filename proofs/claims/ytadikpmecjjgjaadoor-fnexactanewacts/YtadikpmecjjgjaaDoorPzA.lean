/-
  Texts laid together: Ls, Sp, Sl, In, Lsl.
-/
import Derived.Test.YtadikpmecjjgjaaDoorAk
import Derived.Test.YtadikpmecjjgjaaDoorMf
import Derived.Test.YtadikpmecjjgjaaDoorFa
import Derived.Deep.AppendLies
import Derived.Deep.RegionLaw
import Derived.Test.YtadikpmecjjgjaaDoorDl
/-
  A file copied, and cut when the power goes; a disk that loses.
-/
namespace Go.Proofs.YtadikpmecjjgjaaDoor
open Go.RowKit Go.BigFrame Go.Sort
set_option linter.unusedVariables false
set_option linter.unusedSimpArgs false

theorem there_of3 {w : World} {g o : Nat} {u0 u1 u2 : Value} (h0 : w.cell? ⟨g, o, none⟩ = some u0) (h1 : w.cell? ⟨g, o + 1, none⟩ = some u1) (h2 : w.cell? ⟨g, o + 2, none⟩ = some u2) (f0 : w.frozen? ⟨g, o, none⟩ = false) (f1 : w.frozen? ⟨g, o + 1, none⟩ = false) (f2 : w.frozen? ⟨g, o + 2, none⟩ = false) : w.there g o 3 := by
  intro j hj
  rcases j with _ | _ | _ | j
  · exact ⟨by rw [Nat.add_zero, h0]; rfl, f0⟩
  · exact ⟨by rw [h1]; rfl, f1⟩
  · exact ⟨by rw [h2]; rfl, f2⟩
  · omega
def ics (i : Int) : List Value := [.int .i64 i]
theorem RS.int {w : World} {v : Value} {g o : Nat} {l : List Int} (h : RS 1 ics w v g o l) (j : Nat) (hj : j < l.length) : w.cell? ⟨g, o + j, none⟩ = some (.int .i64 l[j]) := by
  obtain ⟨a, c, _, _, _, hc⟩ := h
  have := hc j hj 0 _ rfl
  rwa [Nat.mul_one] at this

namespace F
theorem cutL_len : ∀ (L : List Fl) (Q : List Int), (cutL L Q).length = L.length
  | [], _ => by simp [cutL]
  | f :: r, [] => by simp [cutL, cutL_len r []]
  | f :: r, n :: q => by simp [cutL, cutL_len r q]
theorem cutL_at : ∀ (L : List Fl) (Q : List Int) (j : Nat) (h : j < (cutL L Q).length) (h2 : j < L.length), (cutL L Q)[j] = cutF L[j] (Q.getD j 0)
  | [], _, _, _, h => by simp at h
  | f :: r, [], 0, _, _ => by simp [cutL]
  | f :: r, n :: q, 0, _, _ => by simp [cutL]
  | f :: r, [], j + 1, h, h2 => by
    have := cutL_at r [] j (by simpa [cutL] using h) (by simpa using h2)
    simp [cutL] at this ⊢
    exact this
  | f :: r, n :: q, j + 1, h, h2 => by
    have := cutL_at r q j (by simpa [cutL] using h) (by simpa using h2)
    simp [cutL] at this ⊢
    exact this
/-- a disk that has lost -/
noncomputable def loseR (L : List Fl) (Q : List Int) : List Fl := if diskB L then cutL L Q else []
end F

end Go.Proofs.YtadikpmecjjgjaaDoor
/-
  The specification's own disks: a row of files that grows in a field, file by file.
-/
namespace Go.Proofs.YtadikpmecjjgjaaDoor
open Go.RowKit Go.BigFrame Go.Sort
set_option linter.unusedVariables false
set_option linter.unusedSimpArgs false

/-- v owns the files l -/
def OF (B : Nat) (w0 w : World) (v : Value) (l : List Fl) : Prop := OR 85 3 fcs B w0 w v l
theorem BD.fr {W : World} {p T : Nat} {v : Value} (h : BD W p T v) : W.frozen? ⟨p, 0, none⟩ = false := by
  simp [World.frozen?, show W.heap[p]? = some (.cells #[v] T (0, 0)) from h]
theorem OF.ne {B : Nat} {w0 w : World} {u v : Value} {l : List Fl} {p : Nat} (h : OF B w0 w u l) (hb : BD w p 36 v) : u.ownBlock ≠ some p := by
  rcases h.1.2 with ⟨hv, _⟩ | ⟨g, cap, cur, hv, _, hg, _⟩
  · rw [hv]; simp [Value.ownBlock]
  · rw [hv]
    intro e
    have : g = p := by simpa [Value.ownBlock] using e
    subst this
    have e2 := (show w.heap[g]? = some (.cells #[v] 36 (0, 0)) from hb).symm.trans hg
    simp at e2
theorem OF.nil (w : World) : OF w.heap.size w w (.slice none 0 0) [] := OR.nil w
theorem OF.later {B : Nat} {w0 w w' : World} {v : Value} {l : List Fl} (h : OF B w0 w v l) (hb : Below w.heap.size w w') : OF B w0 w' v l := OR.later h hb
theorem OF.dk {B : Nat} {w0 w : World} {v : Value} {l : List Fl} (h : OF B w0 w v l) (hl : l.length ≤ 1100000) : DkIn w B (.agg #[v]) l := by
  obtain ⟨g, h1, h2, _⟩ := OR.rw (k := 3) (enc := fcs) (fun x => fcs_len x) (by omega) h hl
  exact ⟨v, g, rfl, h1, h2⟩
theorem OF.shape {B : Nat} {w0 w : World} {v : Value} {l : List Fl} (h : OF B w0 w v l) : ∃ a c, v = .slice a l.length c := by
  rcases h.1.2 with ⟨hv, hn⟩ | ⟨g, cap, cur, hv, _⟩
  · exact ⟨none, 0, by rw [hv, hn]⟩
  · exact ⟨_, _, hv⟩

section
variable {w : World} {ops : Array Oper} {o : Oper} {a : Act} {K : Act → World → Prop} {Q : Exit → Act → World → Prop}
/-- a file appended, as one step of a region that draws its order -/
theorem step_file {E : Prop} (hgd : o.guard = none) (s x : Operand)
    (ho : o.op = .call { callee := .builtin .append, args := #[s, x], argTypes := #[34, 34] })
    (B : Nat) (w0 : World) (u : Value) (l : List Fl) (f : Fl) (hs : a.eval s = u) (h : OF B w0 w u l) (p : Nat) (hx : a.eval x = .slice (some ⟨p, 0, none⟩) 1 1)
    (hnews : w.rangeAt p 0 (fcs f)) (hlen : l.length + 1 ≤ 1000000)
    (hk : ∀ g cap w', OF B w0 w' (.slice (some ⟨g, 0, none⟩) (l.length + 1) cap) (l ++ [f]) → w.grownBy w' u.ownBlock → K (a.put o.dst (.slice (some ⟨g, 0, none⟩) (l.length + 1) cap)) w') : if Region.wanted o (yielded ops a.tmps) = true then Oper.wp Tryd.prog o a w K Q else E := by
  obtain ⟨i0, hi, hz0, hz1, hz2⟩ := info_parts Tryd.infoFile
  refine step_append_lies w hgd s x 34 ho B 85 i0 _ 3 40 Tryd.underlying34 hi hz0 hz1 hz2 rfl (by decide) u l.length (l.flatMap fcs) hs h.1 ⟨p, 0, none⟩ 1 1 (fcs f) hx rfl ?_
    (fun u hu => by simp [fcs] at hu; rcases hu with rfl | rfl | rfl <;> rfl) (by omega) (by unfold maxLen; omega) (by omega) h.2.2 w.heap.size rfl ?_
  · intro j u hj
    have := hnews j u hj
    rw [Addr.add_mid]
    exact this
  · intro g cap w' h1 h2 h3 _
    exact hk _ _ _ ⟨by rw [List.flatMap_append, List.flatMap_singleton, List.length_append]; exact h1, h.2.1.grown h2 h.2.2 (fun k hk => (h.1.lt k hk).1), Nat.le_trans h.2.2 h2.size⟩ h2
/-- .. and in a plain region -/
theorem wp_file {rest : List Oper} (hgd : o.guard = none) (s x : Operand)
    (ho : o.op = .call { callee := .builtin .append, args := #[s, x], argTypes := #[34, 34] })
    (B : Nat) (w0 : World) (u : Value) (l : List Fl) (f : Fl) (hs : a.eval s = u) (h : OF B w0 w u l) (p : Nat) (hx : a.eval x = .slice (some ⟨p, 0, none⟩) 1 1)
    (hnews : w.rangeAt p 0 (fcs f)) (hlen : l.length + 1 ≤ 1000000)
    (hk : ∀ g cap w', OF B w0 w' (.slice (some ⟨g, 0, none⟩) (l.length + 1) cap) (l ++ [f]) → w.grownBy w' u.ownBlock → wpList Tryd.prog ops Q rest (a.put o.dst (.slice (some ⟨g, 0, none⟩) (l.length + 1) cap)) w') : wpList Tryd.prog ops Q (o :: rest) a w := by
  obtain ⟨i0, hi, hz0, hz1, hz2⟩ := info_parts Tryd.infoFile
  refine wpList_append_lies w hgd s x 34 ho B 85 i0 _ 3 40 Tryd.underlying34 hi hz0 hz1 hz2 rfl (by decide) u l.length (l.flatMap fcs) hs h.1 ⟨p, 0, none⟩ 1 1 (fcs f) hx rfl ?_
    (fun u hu => by simp [fcs] at hu; rcases hu with rfl | rfl | rfl <;> rfl) (by omega) (by unfold maxLen; omega) (by omega) h.2.2 w.heap.size rfl ?_
  · intro j u hj
    have := hnews j u hj
    rw [Addr.add_mid]
    exact this
  · intro g cap w' h1 h2 h3 _
    exact hk _ _ _ ⟨by rw [List.flatMap_append, List.flatMap_singleton, List.length_append]; exact h1, h.2.1.grown h2 h.2.2 (fun k hk => (h.1.lt k hk).1), Nat.le_trans h.2.2 h2.size⟩ h2
end

/-- the disk that is looked at (block p), one that is empty (block q), and one that grows (block r) -/
def SpW (B : Nat) (w0 w : World) (p q r : Nat) (v u : Value) (l : List Fl) : Prop := OF B w0 w u l ∧ (BD w p 36 v ∧ BD w q 36 (.slice none 0 0) ∧ BD w r 36 u) ∧ (B ≤ q ∧ B ≤ r) ∧ p ≠ r ∧ q ≠ r
theorem SpW.later {B : Nat} {w0 w w' : World} {p q r : Nat} {v u : Value} {l : List Fl} (h : SpW B w0 w p q r v u l) (hb : Below w.heap.size w w') : SpW B w0 w' p q r v u l :=
  ⟨h.1.later hb, ⟨h.2.1.1.later hb, h.2.1.2.1.later hb, h.2.1.2.2.later hb⟩, h.2.2⟩
/-- behind an append: the field still holds the old row -/
def SpA (B : Nat) (w0 w : World) (p q r : Nat) (v u u' : Value) (l' : List Fl) : Prop := OF B w0 w u' l' ∧ (BD w p 36 v ∧ BD w q 36 (.slice none 0 0) ∧ BD w r 36 u) ∧ (B ≤ q ∧ B ≤ r) ∧ p ≠ r ∧ q ≠ r
theorem SpW.app {B : Nat} {w0 w w' : World} {p q r : Nat} {v u u' : Value} {l l' : List Fl} (h : SpW B w0 w p q r v u l) (ho : OF B w0 w' u' l') (hg : w.grownBy w' u.ownBlock) : SpA B w0 w' p q r v u u' l' :=
  ⟨ho, ⟨h.2.1.1.grown hg (h.1.ne h.2.1.1).symm, h.2.1.2.1.grown hg (h.1.ne h.2.1.2.1).symm, h.2.1.2.2.grown hg (h.1.ne h.2.1.2.2).symm⟩, h.2.2⟩
theorem SpA.set {B : Nat} {w0 w : World} {p q r : Nat} {v u u' : Value} {l' : List Fl} (h : SpA B w0 w p q r v u u' l') : SpW B w0 (w.setCell ⟨r, 0, none⟩ u') p q r v u' l' := by
  have hg := grown_set w r 0 u'
  refine ⟨OR.grown h.1 hg (fun k hk => ⟨by cases hk; exact h.2.2.1.2, fun e => h.1.ne h.2.1.2.2 (e.trans hk.symm)⟩), ⟨h.2.1.1.grown hg (by simp [h.2.2.2.1]), h.2.1.2.1.grown hg (by simp [h.2.2.2.2]), ?_⟩, h.2.2⟩
  show (w.setCell ⟨r, 0, none⟩ u').heap[r]? = _
  rw [heap_setCell_same w r 0 _ _ _ h.2.1.2.2]
  rfl
theorem SpW.start (w : World) (v : Value) : SpW w.heap.size w (((w.alloc (.cells #[v] 36)).alloc (.cells #[.slice none 0 0] 36)).alloc (.cells #[.slice none 0 0] 36)) w.heap.size (w.heap.size + 1) (w.heap.size + 1 + 1) v (.slice none 0 0) [] := by
  have hb : Below w.heap.size w (((w.alloc (.cells #[v] 36)).alloc (.cells #[.slice none 0 0] 36)).alloc (.cells #[.slice none 0 0] 36)) := (((Below.refl _ _).alloc (Nat.le_refl _) _).alloc (by simp) _).alloc (by simp; omega) _
  exact ⟨(OF.nil w).later hb, ⟨(Below.heap_alloc _ _ w.heap.size (by simp; omega)).trans (alloc_snd _ _ _ rfl), alloc_snd _ _ _ (by simp), alloc_fst _ _ (by simp)⟩, ⟨by omega, by omega⟩, by omega, by omega⟩

/-- .. and the one that was empty is answered -/
theorem SpW.ret {B : Nat} {w0 w : World} {p q r : Nat} {v u : Value} {l : List Fl} (h : SpW B w0 w p q r v u l) (hl : l.length ≤ 1100000) :
    (w.setCell ⟨q, 0, none⟩ u).rangeAt q 0 [u] ∧ DkIn (w.setCell ⟨q, 0, none⟩ u) B (.agg #[u]) l ∧ Below B w0 (w.setCell ⟨q, 0, none⟩ u) := by
  have hg := grown_set w q 0 u
  refine ⟨range1 (set_here h.2.1.2.1.cell h.2.1.2.1.fr _), OF.dk (w0 := w0) (OR.grown h.1 hg (fun k hk => ⟨by cases hk; exact h.2.2.1.1, fun e => h.1.ne h.2.1.2.1 (e.trans hk.symm)⟩)) hl, ?_⟩
  exact h.1.2.1.setCell (p := ⟨q, 0, none⟩) h.2.2.1.1 _

namespace F
theorem wout_step {L : List Fl} {m : Nat} (x : ByteArray) (hm : m < L.length) : wout (L.take (m + 1)) x = if L[m].n = x then wout (L.take m) x else wout (L.take m) x ++ [L[m]] := by
  unfold wout
  rw [List.take_succ_eq_append_getElem hm, List.filter_append]
  by_cases h : L[m].n = x
  · simp [h]
  · simp [h]
theorem wout_take_len (L : List Fl) (m : Nat) (x : ByteArray) : (wout (L.take m) x).length ≤ L.length := Nat.le_trans (len_wout_le _ _) (by simp; omega)
end F

def WoR (w : World) (L : List Fl) (x : ByteArray) (v : Value) (i : Value) (wr : World) : Prop := ∃ (m : Nat) (u : Value), m ≤ L.length ∧ i = .int .i64 m ∧ Hid (SpW w.heap.size w wr w.heap.size (w.heap.size + 1) (w.heap.size + 1 + 1) v u (F.wout (L.take m) x))

end Go.Proofs.YtadikpmecjjgjaaDoor
/-
  A disk that loses, as the specification reckons it.
-/
namespace Go.Proofs.YtadikpmecjjgjaaDoor
open Go.RowKit Go.BigFrame Go.Sort
set_option linter.unusedVariables false
set_option linter.unusedSimpArgs false

def LoR (w : World) (r : Nat) (M : List Fl) (v : Value) (i : Value) (wr : World) : Prop := ∃ (m : Nat) (u : Value), m ≤ M.length ∧ i = .int .i64 m ∧ Hid (SpW w.heap.size w wr w.heap.size (w.heap.size + 1) r v u (M.take m))

end Go.Proofs.YtadikpmecjjgjaaDoor
/-
  Rows of numbers that a law takes over, compares and marks; a disk marked, and held against its marks.
-/
namespace Go.Proofs.YtadikpmecjjgjaaDoor
open Go.RowKit Go.BigFrame Go.Sort
set_option linter.unusedVariables false
set_option linter.unusedSimpArgs false

/-- a row of numbers that may be written, from the head of block g on -/
def IW (w : World) (v : Value) (g : Nat) (l : List Int) : Prop := ∃ a cap, v = .slice a l.length cap ∧ l.length ≤ 1100000 ∧ (0 < l.length → a = some ⟨g, 0, none⟩ ∧ g < w.heap.size) ∧ ∀ j (h : j < l.length), w.cell? ⟨g, j, none⟩ = some (.int .i64 l[j]) ∧ w.frozen? ⟨g, j, none⟩ = false
theorem IW.rs {w : World} {v : Value} {g : Nat} {l : List Int} (h : IW w v g l) : RS 1 ics w v g 0 l := by
  obtain ⟨a, c, hv, hl, h0, hc⟩ := h
  exact ⟨a, c, hv, hl, h0, fun j hj => range1 (by rw [Nat.zero_add, Nat.mul_one]; exact (hc j hj).1)⟩
theorem IW.later {w w' : World} {v : Value} {g : Nat} {l : List Int} (h : IW w v g l) (hb : Below w.heap.size w w') : IW w' v g l := by
  obtain ⟨a, c, hv, hl, h0, hc⟩ := h
  exact ⟨a, c, hv, hl, fun hp => ⟨(h0 hp).1, Nat.lt_of_lt_of_le (h0 hp).2 hb.size⟩, fun j hj => by
    have he := hb.block g (h0 (by omega)).2
    rw [cell_kept he, frozen_kept he]
    exact hc j hj⟩
theorem IW.grown {w w' : World} {v : Value} {g : Nat} {l : List Int} {row : Option Nat} (h : IW w v g l) (hg : w.grownBy w' row) (hne : 0 < l.length → some g ≠ row) : IW w' v g l := by
  obtain ⟨a, c, hv, hl, h0, hc⟩ := h
  exact ⟨a, c, hv, hl, fun hp => ⟨(h0 hp).1, Nat.lt_of_lt_of_le (h0 hp).2 hg.size⟩, fun j hj => by
    have he := hg.block g (h0 (by omega)).2 (hne (by omega))
    rw [cell_kept he, frozen_kept he]
    exact hc j hj⟩
theorem IW.lt {w : World} {v : Value} {g : Nat} {l : List Int} (h : IW w v g l) : 0 < l.length → g < w.heap.size := by
  obtain ⟨a, c, hv, hl, h0, hc⟩ := h
  exact fun hp => (h0 hp).2

def ToI (w : World) (l : List Int) (i : Value) (wr : World) : Prop := ∃ m : Nat, m ≤ l.length ∧ i = .int .i64 m ∧ Hid ((∀ j (h : j < l.length), j < m → wr.cell? ⟨w.heap.size, j, none⟩ = some (.int .i64 l[j])) ∧ (∀ j, j < l.length → (∃ u, wr.cell? ⟨w.heap.size, j, none⟩ = some u) ∧ wr.frozen? ⟨w.heap.size, j, none⟩ = false) ∧ Below w.heap.size w wr ∧ w.heap.size < wr.heap.size)

def MiR (w : World) (g n k0 : Nat) (x i : Value) (wr : World) : Prop := ∃ m : Nat, m ≤ n ∧ i = .int .i64 m ∧ x = .int .i64 (k0 + m : Nat) ∧ Hid ((∀ j, j < n → (∃ u, wr.cell? ⟨g, j, none⟩ = some u) ∧ wr.frozen? ⟨g, j, none⟩ = false) ∧ w.grownBy wr (rowF g n))

set_option maxRecDepth 100000 in
set_option maxHeartbeats 1000000 in
theorem markDisk_any (s : Value) (g : Nat) (l : List Fl) (x : Int) (k0 : Nat) (w : World) (hx : x = (k0 : Int)) (h : RW 3 fcs w s g l) (h0 : 0 < k0) (hk : k0 ≤ 10000000) :
    Calls Tryd.prog 17 #[.agg #[s], .int .i64 x] w fun e w' => e = .returned (.int .i64 (k0 + 3 * l.length : Nat)) ∧ RW 3 fcs w' s g (fmarks k0 l.length) ∧ w.grownBy w' (rowF g l.length) := by
  have hsh := h.1.shape
  obtain ⟨N, hN⟩ : ∃ N : Nat, k0 + 3 * l.length = N := ⟨_, rfl⟩
  obtain ⟨n, hn⟩ : ∃ n : Nat, l.length = n := ⟨_, rfl⟩
  have hb : Below w.heap.size w (w.alloc (.cells #[s] 36)) := (Below.refl _ _).alloc (Nat.le_refl _) _
  have HC := markFileS_any s g l x k0 _ hx (h.later hb) h0 hk
  rw [hN] at HC ⊢
  rw [hn] at HC hsh ⊢
  obtain ⟨a, cap, hs⟩ := hsh
  subst hs
  have HB : Hid (w.grownBy (w.alloc (.cells #[.slice a n cap] 36)) (rowF g n)) := grown_below hb
  generalize fmarks k0 n = F at *
  clear h hb hN hn h0 hk hx
  go_enter Tryd.func17, Tryd.ntmps17
  go_wp2_with fail
  refine HC.mono ?_
  rintro e w1 ⟨rfl, hrw, hg⟩
  have HR : Hid (RW 3 fcs w1 (.slice a n cap) g F ∧ w.grownBy w1 (rowF g n)) := ⟨hrw, HB.out.trans hg⟩
  clear hrw hg HC HB
  go_wp2
  go_ret
  exact ⟨rfl, HR.out.1, HR.out.2⟩

end Go.Proofs.YtadikpmecjjgjaaDoor
/-
  The walk of the law FnExactLoseDisk: it answers true of every disk and every row of numbers.
-/
namespace Go.Proofs.YtadikpmecjjgjaaDoor
open Go.RowKit Go.BigFrame Go.Sort
set_option linter.unusedVariables false
set_option linter.unusedSimpArgs false

/-- a row of numbers that was handed in: if it is small, it is l -/
def IsRowN (w : World) (v : Value) (g o : Nat) (l : List Int) : Prop := ∃ a n cap, v = .slice a n cap ∧ n ≤ 9223372036854775807 ∧ (n ≤ 1100000 → l.length = n ∧ RS 1 ics w v g o l)

/-- a disk in its box -/
def XD (W : World) (p : Nat) (s : Value) (g : Nat) (l : List Fl) : Prop := BD W p 36 s ∧ RW 3 fcs W s g l
theorem XD.later {W W' : World} {p : Nat} {s : Value} {g : Nat} {l : List Fl} (h : XD W p s g l) (hb : Below W.heap.size W W') : XD W' p s g l := ⟨h.1.later hb, h.2.later hb⟩
theorem XD.grown {W W' : World} {p : Nat} {s : Value} {g : Nat} {l : List Fl} {row : Option Nat} (h : XD W p s g l) (hg : W.grownBy W' row) (h1 : some p ≠ row) (h2 : 0 < l.length → some g ≠ row) : XD W' p s g l := ⟨h.1.grown hg h1, h.2.grown hg h2⟩
theorem XD.new {W : World} {s : Value} {g : Nat} {l : List Fl} (h : RW 3 fcs W s g l) : XD (W.alloc (.cells #[s] 36)) W.heap.size s g l := ⟨BD.new W _ _, h.alloc _⟩
theorem DkIn.open' {w : World} {B : Nat} {v : Value} {l : List Fl} (h : DkIn w B v l) : ∃ a c g, v = .agg #[.slice a l.length c] ∧ RW 3 fcs w (.slice a l.length c) g l ∧ B ≤ g ∧ (0 < l.length → g < w.heap.size) := by
  obtain ⟨a, c, g, h1, h2, h3⟩ := h.shape
  exact ⟨a, c, g, h1, h2, h3, h2.lt⟩

/-- the argument's box, what the specification answered, and what the program answered -/
def LwS (w W : World) (va : Value) (pw : Nat) (sw : Value) (gw : Nat) (pg : Nat) (sg : Value) (gg : Nat) (M N : List Fl) : Prop := BD W w.heap.size 30 va ∧ Below w.heap.size w W ∧ XD W pw sw gw M ∧ XD W pg sg gg N
theorem LwS.later {w W W' : World} {va : Value} {pw : Nat} {sw : Value} {gw : Nat} {pg : Nat} {sg : Value} {gg : Nat} {M N : List Fl} (h : LwS w W va pw sw gw pg sg gg M N) (hb : Below W.heap.size W W') : LwS w W' va pw sw gw pg sg gg M N :=
  ⟨h.1.later hb, h.2.1.trans (hb.mono h.2.1.size), h.2.2.1.later hb, h.2.2.2.later hb⟩
theorem LwS.grown {w W W' : World} {va : Value} {pw : Nat} {sw : Value} {gw : Nat} {pg : Nat} {sg : Value} {gg : Nat} {M N : List Fl} {row : Option Nat} (h : LwS w W va pw sw gw pg sg gg M N) (hg : W.grownBy W' row)
    (n1 : some w.heap.size ≠ row) (n2 : some pw ≠ row) (n3 : 0 < M.length → some gw ≠ row) (n4 : some pg ≠ row) (n5 : 0 < N.length → some gg ≠ row) (n7 : ∀ k, row = some k → w.heap.size ≤ k) : LwS w W' va pw sw gw pg sg gg M N :=
  ⟨h.1.grown hg n1, h.2.1.grown hg h.2.1.size n7, h.2.2.1.grown hg n2 n3, h.2.2.2.grown hg n4 n5⟩
/-- .. the latter bearing marks -/
def LwM (w W : World) (va : Value) (pw : Nat) (sw : Value) (gw : Nat) (pg : Nat) (sg : Value) (gg : Nat) (M : List Fl) : Prop := LwS w W va pw sw gw pg sg gg M (fmarks 1 M.length)
theorem LwM.later {w W W' : World} {va : Value} {pw : Nat} {sw : Value} {gw : Nat} {pg : Nat} {sg : Value} {gg : Nat} {M : List Fl} (h : LwM w W va pw sw gw pg sg gg M) (hb : Below W.heap.size W W') : LwM w W' va pw sw gw pg sg gg M := LwS.later h hb
theorem LwS.mark {w W W' : World} {va : Value} {pw : Nat} {sw : Value} {gw : Nat} {pg : Nat} {sg : Value} {gg : Nat} {M : List Fl} {row : Option Nat} (h : LwS w W va pw sw gw pg sg gg M M) (hg : W.grownBy W' row)
    (n1 : some w.heap.size ≠ row) (n2 : some pw ≠ row) (n3 : 0 < M.length → some gw ≠ row) (n4 : some pg ≠ row) (n7 : ∀ k, row = some k → w.heap.size ≤ k) (hr : RW 3 fcs W' sg gg (fmarks 1 M.length)) : LwM w W' va pw sw gw pg sg gg M :=
  ⟨h.1.grown hg n1, h.2.1.grown hg h.2.1.size n7, h.2.2.1.grown hg n2 n3, h.2.2.2.1.grown hg n4, hr⟩

end Go.Proofs.YtadikpmecjjgjaaDoor
