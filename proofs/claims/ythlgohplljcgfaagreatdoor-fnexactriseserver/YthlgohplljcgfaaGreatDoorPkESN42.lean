/-
  Texts laid together: Sp, Wpr, Jsp, Jmk.
-/
import Derived.Test.YthlgohplljcgfaaGreatDoorPkESN34
import Derived.Test.YthlgohplljcgfaaGreatDoorPkESN30
import Derived.Deep.AppendLies
import Derived.Deep.RegionLaw
import Derived.OwnWalk
import Derived.Test.YthlgohplljcgfaaGreatDoorPkESN41
import Derived.Test.YthlgohplljcgfaaGreatDoorPkESN36
import Derived.Test.YthlgohplljcgfaaGreatDoorPkESN11
import Derived.Test.YthlgohplljcgfaaGreatDoorPkESN12
/-
  The specification's own disks: a row of files that grows in a field, file by file.
-/
namespace Go.Proofs.YthlgohplljcgfaaGreatDoor
open Go.RowKit Go.BigFrame Go.Sort
set_option linter.unusedVariables false
set_option linter.unusedSimpArgs false

/-- v owns the files l -/
def OF (B : Nat) (w0 w : World) (v : Value) (l : List Fl) : Prop := OR 108 3 fcs B w0 w v l
theorem BD.fr {W : World} {p T : Nat} {v : Value} (h : BD W p T v) : W.frozen? ⟨p, 0, none⟩ = false := by
  simp [World.frozen?, show W.heap[p]? = some (.cells #[v] T (0, 0)) from h]
theorem OF.ne {B : Nat} {w0 w : World} {u v : Value} {l : List Fl} {p : Nat} (h : OF B w0 w u l) (hb : BD w p 28 v) : u.ownBlock ≠ some p := by
  rcases h.1.2 with ⟨hv, _⟩ | ⟨g, cap, cur, hv, _, hg, _⟩
  · rw [hv]; simp [Value.ownBlock]
  · rw [hv]
    intro e
    have : g = p := by simpa [Value.ownBlock] using e
    subst this
    have e2 := (show w.heap[g]? = some (.cells #[v] 28 (0, 0)) from hb).symm.trans hg
    simp at e2
theorem OF.nil (w : World) : OF w.heap.size w w (.slice none 0 0) [] := OR.nil w
theorem OF.later {B : Nat} {w0 w w' : World} {v : Value} {l : List Fl} (h : OF B w0 w v l) (hb : Below w.heap.size w w') : OF B w0 w' v l := OR.later h hb
theorem OF.dk {B : Nat} {w0 w : World} {v : Value} {l : List Fl} (h : OF B w0 w v l) (hl : l.length ≤ 1100000) : DkIn w B (.agg #[v]) l := by
  obtain ⟨g, h1, h2, _⟩ := OR.rw (k := 3) (enc := fcs) (fun x => fcs_len x) (by omega) h hl
  exact ⟨v, g, rfl, h1, h2⟩
theorem OF.shape {B : Nat} {w0 w : World} {v : Value} {l : List Fl} (h : OF B w0 w v l) : ∃ a c, v = .slice a l.length c := by
  rcases h.1.2 with ⟨hv, hn⟩ | ⟨g, cap, cur, hv, _⟩
  · exact ⟨none, 0, by rw [hv, hn]⟩
  · exact ⟨_, _, hv⟩

section
variable {w : World} {ops : Array Oper} {o : Oper} {a : Act} {K : Act → World → Prop} {Q : Exit → Act → World → Prop}
/-- a file appended, as one step of a region that draws its order -/
theorem step_file {E : Prop} (hgd : o.guard = none) (s x : Operand)
    (ho : o.op = .call { callee := .builtin .append, args := #[s, x], argTypes := #[26, 26] })
    (B : Nat) (w0 : World) (u : Value) (l : List Fl) (f : Fl) (hs : a.eval s = u) (h : OF B w0 w u l) (p : Nat) (hx : a.eval x = .slice (some ⟨p, 0, none⟩) 1 1)
    (hnews : w.rangeAt p 0 (fcs f)) (hlen : l.length + 1 ≤ 1000000)
    (hk : ∀ g cap w', OF B w0 w' (.slice (some ⟨g, 0, none⟩) (l.length + 1) cap) (l ++ [f]) → w.grownBy w' u.ownBlock → K (a.put o.dst (.slice (some ⟨g, 0, none⟩) (l.length + 1) cap)) w') : if Region.wanted o (yielded ops a.tmps) = true then Oper.wp Tryz.prog o a w K Q else E := by
  obtain ⟨i0, hi, hz0, hz1, hz2⟩ := info_parts Tryz.infoFile
  refine step_append_lies w hgd s x 26 ho B 108 i0 _ 3 40 Tryz.underlying26 hi hz0 hz1 hz2 rfl (by decide) u l.length (l.flatMap fcs) hs h.1 ⟨p, 0, none⟩ 1 1 (fcs f) hx rfl ?_
    (fun u hu => by simp [fcs] at hu; rcases hu with rfl | rfl | rfl <;> rfl) (by omega) (by unfold maxLen; omega) (by omega) h.2.2 w.heap.size rfl ?_
  · intro j u hj
    have := hnews j u hj
    rw [Addr.add_mid]
    exact this
  · intro g cap w' h1 h2 h3 _
    exact hk _ _ _ ⟨by rw [List.flatMap_append, List.flatMap_singleton, List.length_append]; exact h1, h.2.1.grown h2 h.2.2 (fun k hk => (h.1.lt k hk).1), Nat.le_trans h.2.2 h2.size⟩ h2
/-- .. and in a plain region -/
theorem wp_file {rest : List Oper} (hgd : o.guard = none) (s x : Operand)
    (ho : o.op = .call { callee := .builtin .append, args := #[s, x], argTypes := #[26, 26] })
    (B : Nat) (w0 : World) (u : Value) (l : List Fl) (f : Fl) (hs : a.eval s = u) (h : OF B w0 w u l) (p : Nat) (hx : a.eval x = .slice (some ⟨p, 0, none⟩) 1 1)
    (hnews : w.rangeAt p 0 (fcs f)) (hlen : l.length + 1 ≤ 1000000)
    (hk : ∀ g cap w', OF B w0 w' (.slice (some ⟨g, 0, none⟩) (l.length + 1) cap) (l ++ [f]) → w.grownBy w' u.ownBlock → wpList Tryz.prog ops Q rest (a.put o.dst (.slice (some ⟨g, 0, none⟩) (l.length + 1) cap)) w') : wpList Tryz.prog ops Q (o :: rest) a w := by
  obtain ⟨i0, hi, hz0, hz1, hz2⟩ := info_parts Tryz.infoFile
  refine wpList_append_lies w hgd s x 26 ho B 108 i0 _ 3 40 Tryz.underlying26 hi hz0 hz1 hz2 rfl (by decide) u l.length (l.flatMap fcs) hs h.1 ⟨p, 0, none⟩ 1 1 (fcs f) hx rfl ?_
    (fun u hu => by simp [fcs] at hu; rcases hu with rfl | rfl | rfl <;> rfl) (by omega) (by unfold maxLen; omega) (by omega) h.2.2 w.heap.size rfl ?_
  · intro j u hj
    have := hnews j u hj
    rw [Addr.add_mid]
    exact this
  · intro g cap w' h1 h2 h3 _
    exact hk _ _ _ ⟨by rw [List.flatMap_append, List.flatMap_singleton, List.length_append]; exact h1, h.2.1.grown h2 h.2.2 (fun k hk => (h.1.lt k hk).1), Nat.le_trans h.2.2 h2.size⟩ h2
end

/-- the disk that is looked at (block p), one that is empty (block q), and one that grows (block r) -/
def SpW (B : Nat) (w0 w : World) (p q r : Nat) (v u : Value) (l : List Fl) : Prop := OF B w0 w u l ∧ (BD w p 28 v ∧ BD w q 28 (.slice none 0 0) ∧ BD w r 28 u) ∧ (B ≤ q ∧ B ≤ r) ∧ p ≠ r ∧ q ≠ r
theorem SpW.later {B : Nat} {w0 w w' : World} {p q r : Nat} {v u : Value} {l : List Fl} (h : SpW B w0 w p q r v u l) (hb : Below w.heap.size w w') : SpW B w0 w' p q r v u l :=
  ⟨h.1.later hb, ⟨h.2.1.1.later hb, h.2.1.2.1.later hb, h.2.1.2.2.later hb⟩, h.2.2⟩
/-- behind an append: the field still holds the old row -/
def SpA (B : Nat) (w0 w : World) (p q r : Nat) (v u u' : Value) (l' : List Fl) : Prop := OF B w0 w u' l' ∧ (BD w p 28 v ∧ BD w q 28 (.slice none 0 0) ∧ BD w r 28 u) ∧ (B ≤ q ∧ B ≤ r) ∧ p ≠ r ∧ q ≠ r
theorem SpW.app {B : Nat} {w0 w w' : World} {p q r : Nat} {v u u' : Value} {l l' : List Fl} (h : SpW B w0 w p q r v u l) (ho : OF B w0 w' u' l') (hg : w.grownBy w' u.ownBlock) : SpA B w0 w' p q r v u u' l' :=
  ⟨ho, ⟨h.2.1.1.grown hg (h.1.ne h.2.1.1).symm, h.2.1.2.1.grown hg (h.1.ne h.2.1.2.1).symm, h.2.1.2.2.grown hg (h.1.ne h.2.1.2.2).symm⟩, h.2.2⟩
theorem SpA.set {B : Nat} {w0 w : World} {p q r : Nat} {v u u' : Value} {l' : List Fl} (h : SpA B w0 w p q r v u u' l') : SpW B w0 (w.setCell ⟨r, 0, none⟩ u') p q r v u' l' := by
  have hg := grown_set w r 0 u'
  refine ⟨OR.grown h.1 hg (fun k hk => ⟨by cases hk; exact h.2.2.1.2, fun e => h.1.ne h.2.1.2.2 (e.trans hk.symm)⟩), ⟨h.2.1.1.grown hg (by simp [h.2.2.2.1]), h.2.1.2.1.grown hg (by simp [h.2.2.2.2]), ?_⟩, h.2.2⟩
  show (w.setCell ⟨r, 0, none⟩ u').heap[r]? = _
  rw [heap_setCell_same w r 0 _ _ _ h.2.1.2.2]
  rfl
theorem SpW.start (w : World) (v : Value) : SpW w.heap.size w (((w.alloc (.cells #[v] 28)).alloc (.cells #[.slice none 0 0] 28)).alloc (.cells #[.slice none 0 0] 28)) w.heap.size (w.heap.size + 1) (w.heap.size + 1 + 1) v (.slice none 0 0) [] := by
  have hb : Below w.heap.size w (((w.alloc (.cells #[v] 28)).alloc (.cells #[.slice none 0 0] 28)).alloc (.cells #[.slice none 0 0] 28)) := (((Below.refl _ _).alloc (Nat.le_refl _) _).alloc (by simp) _).alloc (by simp; omega) _
  exact ⟨(OF.nil w).later hb, ⟨(Below.heap_alloc _ _ w.heap.size (by simp; omega)).trans (alloc_snd _ _ _ rfl), alloc_snd _ _ _ (by simp), alloc_fst _ _ (by simp)⟩, ⟨by omega, by omega⟩, by omega, by omega⟩

/-- .. and the one that was empty is answered -/
theorem SpW.ret {B : Nat} {w0 w : World} {p q r : Nat} {v u : Value} {l : List Fl} (h : SpW B w0 w p q r v u l) (hl : l.length ≤ 1100000) :
    (w.setCell ⟨q, 0, none⟩ u).rangeAt q 0 [u] ∧ DkIn (w.setCell ⟨q, 0, none⟩ u) B (.agg #[u]) l ∧ Below B w0 (w.setCell ⟨q, 0, none⟩ u) := by
  have hg := grown_set w q 0 u
  refine ⟨range1 (set_here h.2.1.2.1.cell h.2.1.2.1.fr _), OF.dk (w0 := w0) (OR.grown h.1 hg (fun k hk => ⟨by cases hk; exact h.2.2.1.1, fun e => h.1.ne h.2.1.2.1 (e.trans hk.symm)⟩)) hl, ?_⟩
  exact h.1.2.1.setCell (p := ⟨q, 0, none⟩) h.2.2.1.1 _

namespace F
theorem wout_step {L : List Fl} {m : Nat} (x : ByteArray) (hm : m < L.length) : wout (L.take (m + 1)) x = if L[m].n = x then wout (L.take m) x else wout (L.take m) x ++ [L[m]] := by
  unfold wout
  rw [List.take_succ_eq_append_getElem hm, List.filter_append]
  by_cases h : L[m].n = x
  · simp [h]
  · simp [h]
theorem wout_take_len (L : List Fl) (m : Nat) (x : ByteArray) : (wout (L.take m) x).length ≤ L.length := Nat.le_trans (len_wout_le _ _) (by simp; omega)
end F

def WoR (w : World) (L : List Fl) (x : ByteArray) (v : Value) (i : Value) (wr : World) : Prop := ∃ (m : Nat) (u : Value), m ≤ L.length ∧ i = .int .i64 m ∧ Hid (SpW w.heap.size w wr w.heap.size (w.heap.size + 1) (w.heap.size + 1 + 1) v u (F.wout (L.take m) x))

end Go.Proofs.YthlgohplljcgfaaGreatDoor
/-
  A whole row of files appended to an empty one.
-/
namespace Go.Proofs.YthlgohplljcgfaaGreatDoor
open Go.RowKit Go.BigFrame Go.Sort
set_option linter.unusedVariables false
set_option linter.unusedSimpArgs false

theorem flat_cellsJ {w : World} {g o : Nat} {l : List Fl} (h : ∀ j (h : j < l.length), w.rangeAt g (o + j * 3) (fcs l[j])) : ∀ j u, (l.flatMap fcs)[j]? = some u → w.cell? ⟨g, o + j, none⟩ = some u := by
  intro j u hu
  have hl := flat_len (k := 3) (enc := fcs) (fun x => fcs_len x) l
  have hj : j < l.length * 3 := by rw [← hl]; exact (List.getElem?_eq_some_iff.1 hu).1
  have e : j = j / 3 * 3 + j % 3 := by omega
  have hq : j / 3 < l.length := by omega
  rw [e, flat_at (k := 3) (enc := fcs) (fun x => fcs_len x) l (j / 3) hq (j % 3) (by omega)] at hu
  have := h (j / 3) hq (j % 3) u hu
  rw [e, ← Nat.add_assoc]
  exact this

/-- a whole row of files appended to an empty one -/
theorem wp_rowJ {w : World} {ops : Array Oper} {o : Oper} {a : Act} {Q : Exit → Act → World → Prop} {rest : List Oper} (hgd : o.guard = none) (s x : Operand)
    (ho : o.op = .call { callee := .builtin .append, args := #[s, x], argTypes := #[26, 26] })
    (B : Nat) (w0 : World) (u : Value) (hs : a.eval s = u) (h : OF B w0 w u []) (g o' cap : Nat) (l : List Fl) (hx : a.eval x = .slice (some ⟨g, o', none⟩) l.length cap)
    (hnews : ∀ j (h : j < l.length), w.rangeAt g (o' + j * 3) (fcs l[j])) (hlen : l.length ≤ 1100000)
    (hk : ∀ v' w', OF B w0 w' v' l → w.grownBy w' u.ownBlock → wpList Tryz.prog ops Q rest (a.put o.dst v') w') : wpList Tryz.prog ops Q (o :: rest) a w := by
  obtain ⟨i0, hi, hz0, hz1, hz2⟩ := info_parts Tryz.infoFile
  refine wpList_append_own _ hgd s x 26 ho B 108 i0 _ 3 40 Tryz.underlying26 hi hz0 hz1 hz2 rfl (by decide) u 0 [] hs h.1 ⟨g, o', none⟩ l.length cap (l.flatMap fcs) hx (flat_len (k := 3) (enc := fcs) (fun x => fcs_len x) l) ?_
    (fun u hu => by
      obtain ⟨f, _, hf⟩ := List.mem_flatMap.1 hu
      simp [fcs] at hf
      rcases hf with rfl | rfl | rfl <;> rfl) (by unfold maxLen; omega) (by omega) h.2.2 ?_
  · intro j u hj
    have := flat_cellsJ hnews j u hj
    rw [Addr.add_mid]
    exact this
  · intro v' w' h1 h2 _
    exact hk _ _ ⟨by simpa using h1, h.2.1.grown h2 h.2.2 (fun k hk => (h.1.lt k hk).1), Nat.le_trans h.2.2 h2.size⟩ h2

theorem wp_rowJ0 {w : World} {ops : Array Oper} {o : Oper} {a : Act} {Q : Exit → Act → World → Prop} {rest : List Oper} (hgd : o.guard = none) (s x : Operand)
    (ho : o.op = .call { callee := .builtin .append, args := #[s, x], argTypes := #[26, 26] })
    (B : Nat) (w0 : World) (g : Nat) (hs : a.eval s = .slice (some ⟨g, 0, none⟩) 0 0) (h : OF B w0 w (.slice (some ⟨g, 0, none⟩) 0 0) []) (hx : a.eval x = .slice none 0 0)
    (hk : ∀ v' w', OF B w0 w' v' [] → w.grownBy w' (some g) → wpList Tryz.prog ops Q rest (a.put o.dst v') w') : wpList Tryz.prog ops Q (o :: rest) a w := by
  obtain ⟨i0, hi, hz0, hz1, hz2⟩ := info_parts Tryz.infoFile
  refine wpList_append_fits_any w hgd s x 26 ho B 108 i0 3 Tryz.underlying26 hi hz1 g 0 0 [] hs h.1 none 0 0 [] hx rfl (fun _ => ⟨rfl, rfl⟩) (fun ad h => by cases h) (fun u hu => by cases hu) (by omega) ?_
  intro w' h1 h2
  exact hk _ _ ⟨by simpa using h1, h.2.1.grown h2 h.2.2 (fun k hk => (h.1.lt k hk).1), Nat.le_trans h.2.2 h2.size⟩ h2

end Go.Proofs.YthlgohplljcgfaaGreatDoor
/-
  A server made of its disk: the specification.
-/
namespace Go.Proofs.YthlgohplljcgfaaGreatDoor
open Go.RowKit Go.BigFrame Go.Sort
set_option linter.unusedVariables false
set_option linter.unusedSimpArgs false

set_option maxRecDepth 100000 in
set_option maxHeartbeats 4000000 in
theorem sServerNew_some (a k : Int) (L : List Fl) (gd od cd : Nat) (w : World) (hd : RS 3 fcs w (.slice (some ⟨gd, od, none⟩) L.length cd) gd od L) (hs : SmallF L) :
    Calls Tryz.prog 8 #[.int .i64 a, .int .i64 k, .agg #[.slice (some ⟨gd, od, none⟩) L.length cd]] w (SnA a k true L (SR.runS a k (ltT L ⟨#[115, 104, 97, 114, 100]⟩)) w) := by
  have hM := ltT_all L ⟨#[115, 104, 97, 114, 100]⟩
  have HOK : Hid ((SR.runS a k (ltT L ⟨#[115, 104, 97, 114, 100]⟩)).okJ (ltT L ⟨#[115, 104, 97, 114, 100]⟩).length) := okJ_all a k L _
  have HLT : Hid (∀ W, Below w.heap.size w W → Calls Tryz.prog 28 #[.agg #[.slice (some ⟨gd, od, none⟩) L.length cd], .string ⟨#[115, 104, 97, 114, 100]⟩] W (LtP W (ltT L ⟨#[115, 104, 97, 114, 100]⟩))) := fun W hW => sLogTexts_any _ gd od L _ W (hd.later hW) hs
  unfold LtP at HLT
  have HDK : Hid (BD ((w.alloc (.cells #[.slice (some ⟨gd, od, none⟩) L.length cd] 28)).alloc (.cells #[.int .i64 0, .int .i64 0, .bool false, .slice none 0 0, .int .i64 0, .slice none 0 0, .slice none 0 0, .slice none 0 0, .int .i64 0, .int .i64 0, .int .i64 0] 35)) w.heap.size 28 (.slice (some ⟨gd, od, none⟩) L.length cd)) := (BD.new w _ _).later (below_alloc _ _)
  have HBX : Hid (Box 35 ((w.alloc (.cells #[.slice (some ⟨gd, od, none⟩) L.length cd] 28)).alloc (.cells #[.int .i64 0, .int .i64 0, .bool false, .slice none 0 0, .int .i64 0, .slice none 0 0, .slice none 0 0, .slice none 0 0, .int .i64 0, .int .i64 0, .int .i64 0] 35)) (w.heap.size + 1) [.int .i64 0, .int .i64 0, .bool false, .slice none 0 0, .int .i64 0, .slice none 0 0, .slice none 0 0, .slice none 0 0, .int .i64 0, .int .i64 0, .int .i64 0]) := by
    have h := Box.new 35 (w.alloc (.cells #[.slice (some ⟨gd, od, none⟩) L.length cd] 28)) [.int .i64 0, .int .i64 0, .bool false, .slice none 0 0, .int .i64 0, .slice none 0 0, .slice none 0 0, .slice none 0 0, .int .i64 0, .int .i64 0, .int .i64 0]
    have e : (w.alloc (.cells #[.slice (some ⟨gd, od, none⟩) L.length cd] 28)).heap.size = w.heap.size + 1 := by simp
    rw [e] at h
    exact h
  obtain ⟨W2, hW2⟩ : ∃ W2, ((w.alloc (.cells #[.slice (some ⟨gd, od, none⟩) L.length cd] 28)).alloc (.cells #[.int .i64 0, .int .i64 0, .bool false, .slice none 0 0, .int .i64 0, .slice none 0 0, .slice none 0 0, .slice none 0 0, .int .i64 0, .int .i64 0, .int .i64 0] 35)) = W2 := ⟨_, rfl⟩
  have HB2 : Hid (Below w.heap.size w W2 ∧ W2.heap.size = w.heap.size + 1 + 1) := by rw [← hW2]; exact ⟨below_two _ _ _, by simp⟩
  rw [hW2] at HDK HBX
  have HR : Hid (∀ j (h : j < L.length), (W2.alloc (.cells #[] 108)).rangeAt gd (od + j * 3) (fcs L[j])) := by
    obtain ⟨_, _, _, _, _, hc⟩ := hd.later (HB2.out.1.alloc HB2.out.1.size (.cells #[] 108))
    exact hc
  have HLN : Hid (L.length ≤ 1100000) := hd.len
  have HN : Hid (OF W2.heap.size W2 (W2.alloc (.cells #[] 108)) (.slice (some ⟨W2.heap.size, 0, none⟩) 0 0) []) := ⟨World.ownsRow_made W2 #[] 0 (Nat.le_refl _) (by decide) (by simp), below_alloc _ _, by simp⟩
  have eW2 := HB2.out.2
  rw [eW2] at HN
  have HWW : Hid (w.heap.size + 1 + 1 = W2.heap.size) := eW2.symm
  clear hd
  generalize ltT L ⟨#[115, 104, 97, 114, 100]⟩ = M at *
  have HDL : Hid (W2.heap.size = w.heap.size + 1 + 1) := HB2.out.2
  have c0 : (W2.alloc (.cells #[] 108)).cell? ⟨w.heap.size, 0, none⟩ = some (.slice (some ⟨gd, od, none⟩) L.length cd) := (HDK.out.later (below_alloc _ _)).cell
  have HK4 : Hid (∀ w4 v, (W2.alloc (.cells #[] 108)).grownBy w4 (some (w.heap.size + 1 + 1)) → (NwW w4 a k v).cell? ⟨w.heap.size, 0, none⟩ = some (.slice (some ⟨gd, od, none⟩) L.length cd)) := fun w4 v hg => (((HDK.out.later (below_alloc _ _)).grown hg (by simp; omega)).later (NwW.below w4 a k _)).cell
  go_enter Tryz.func8, Tryz.ntmps8
  go_wp2_with (at_builtin; refine wp_rowJ rfl _ _ rfl (w.heap.size + 1 + 1) W2 (.slice (some ⟨w.heap.size + 1 + 1, 0, none⟩) 0 0) rfl HN.out gd od cd L rfl HR.out HLN.out ?_; intro v4 w4 h4 hg4; obtain ⟨a4, c4, hv4⟩ := OF.shape h4; subst hv4; have k4 := HK4.out w4 (.slice a4 L.length c4) hg4; unfold NwW at k4)
  change Calls _ _ _ (NwW w4 a k (.slice a4 L.length c4)) _
  have hbw4 : Below w.heap.size w w4 := (HB2.out.1.alloc HB2.out.1.size _).grown hg4 (by have := HB2.out.1.size; simp; omega) (fun q hq => by simp [Value.ownBlock] at hq; omega)
  have hs4 : w.heap.size + 1 + 1 ≤ w4.heap.size := h4.2.2
  obtain ⟨g4, hr4, hgb4, _⟩ := OR.rw (k := 3) (enc := fcs) (fun x => fcs_len x) (by omega) h4 HLN.out
  have HI : Hid (∀ W, Below (NwW w4 a k (.slice a4 L.length c4)).heap.size (NwW w4 a k (.slice a4 L.length c4)) W → SvO (w.heap.size + 1 + 1) W W (w4.heap.size + 1 + 1 + 1) ⟨a, k, true, 0, 0, 0, 0⟩ (.slice a4 L.length c4) (.slice (some ⟨w4.heap.size + 1, 0, none⟩) 1 1) (.slice (some ⟨w4.heap.size + 1 + 1, 0, none⟩) 1 1) (.slice none 0 0) ⟨L, [[]], [0], []⟩ [.slice (some ⟨w4.heap.size, 0, none⟩) 0 0] (fun _ => w4.heap.size) g4) := fun W hW => init_sv hr4 hs4 (fun _ => hgb4) hW
  have hb4 : Below w4.heap.size w4 (NwW w4 a k (.slice a4 L.length c4)) := NwW.below w4 a k _
  have HRB0 : Hid (Box 35 w4 (w.heap.size + 1) _) := ((HBX.out.later (below_alloc _ _)).grown hg4 (by simp [Value.ownBlock]))
  have HRB1 : Hid (Box 35 (NwW w4 a k (.slice a4 L.length c4)) (w.heap.size + 1) _) := HRB0.out.later hb4
  have HB3 : Hid (Below w.heap.size w (NwW w4 a k (.slice a4 L.length c4))) := hbw4.trans (hb4.mono hbw4.size)
  clear k4 hr4 h4 hg4 hb4 HRB0 HN HR HDK HBX HB2 c0 hgb4 hbw4
  generalize NwW w4 a k (.slice a4 L.length c4) = W3 at *
  refine (HLT.out W3 HB3.out).mono ?_
  rintro e_ w5 ⟨u5, rfl, hos⟩
  have HI5 := HI.out w5 hos.2.1
  have HB5 : Hid (Below w.heap.size w w5) := HB3.out.trans (hos.2.1.mono HB3.out.size)
  have HRB : Hid (Box 35 w5 (w.heap.size + 1) _) := HRB1.out.later hos.2.1
  have hsh : ∃ a c, u5 = .slice a (M).length c := by
    rcases hos.1.2 with ⟨hv, hn⟩ | ⟨g, cap, cur, hv, _⟩
    · exact ⟨none, 0, by rw [hv, hn]⟩
    · exact ⟨_, _, hv⟩
  have HOS : Hid (OS W3.heap.size W3 w5 u5 (M)) := hos
  obtain ⟨a5, c5, rfl⟩ := hsh
  have HMM : Hid (M.length < 1000000 ∧ ∀ t ∈ M, t.size ≤ 1048576 ∧ 0 < t.size) := hM
  have HST : Hid (∃ m : Nat, m ≤ M.length ∧ (Value.int .i64 0) = .int .i64 m ∧ RdQ (w.heap.size + 1 + 1) w5 (w4.heap.size + 1 + 1 + 1) ⟨a, k, true, 0, 0, 0, 0⟩ (.slice a4 L.length c4) L g4 (SR.runS a k (M.take m)) w5) := ⟨0, by omega, rfl, _, _, _, _, _, _, _, HI5, rfl, rfl, rfl, rfl, rfl⟩
  obtain ⟨nM, hnM⟩ : ∃ nM, M.length = nM := ⟨_, rfl⟩
  have HNM : Hid (M.length = nM) := hnM
  have HOS2 : Hid (∀ W, KpB w5 W → ∀ m (h : m < M.length), ∃ g5, a5 = some ⟨g5, 0, none⟩ ∧ W.cell? ⟨g5, m, none⟩ = some (.string M[m])) := fun W hW m hm => by
    rcases hos.1.2 with ⟨hv, hn⟩ | ⟨g5, cap, cur, hv, hbg, hg5, rest⟩
    · omega
    · have e5 : a5 = some ⟨g5, 0, none⟩ := by
        simp only [Value.slice.injEq] at hv
        exact hv.1
      have ho : W.ownsRow W3.heap.size 9 1 (.slice a5 M.length c5) M.length (svs M) := ⟨hos.1.1, .inr ⟨g5, cap, cur, hv, hbg, hW g5 9 cur (0, 0) (by unfold BadT; decide) hg5, rest⟩⟩
      have h1 := ho.cells (g := g5) (by rw [e5]; rfl) m (.string M[m]) (by simp [svs, List.getElem?_eq_getElem hm])
      rw [Addr.add_mid, Nat.zero_add] at h1
      exact ⟨g5, e5, h1⟩
  clear HI HI5 hos HB3 HLT HRB1 hM HOS
  rw [hnM]
  clear hnM
  go_wp2
  go_loopw [9] (fun i wr => ∃ m : Nat, m ≤ M.length ∧ i = .int .i64 m ∧ Hid (RdQ (w.heap.size + 1 + 1) w5 (w4.heap.size + 1 + 1 + 1) ⟨a, k, true, 0, 0, 0, 0⟩ (.slice a4 L.length c4) L g4 (SR.runS a k (M.take m)) wr)) (fun i _ => nM - (intOf i).toNat)
  case atStart => exact HST.out
  case round =>
    obtain ⟨m, hm, rfl, HI⟩ := hrel
    clear HST
    by_cases hlt : m < nM
    · obtain ⟨n', vv', vt', va', L', V', G', h1, h2, h3, ha, hk, hu⟩ := HI.out
      have hmM : m < M.length := by rw [HNM.out]; exact hlt
      obtain ⟨g5, e5, k5⟩ := HOS2.out wr h1.kp m hmM
      subst e5
      have hok := SR.okJ_run a k M m (by omega)
      rw [← h2] at hok
      have hML := HMM.out.1
      have hbd := HMM.out.2 M[m] (List.getElem_mem _)
      have hst := SR.runS_step a k M hmM
      have e1 := hok.p
      have e2 := hok.i
      have e3 := hok.u
      have e4 := hok.e0
      have e6 := hok.e1
      have hr : (n'.r0 = 0 ∧ n'.r1 = 0 ∧ n'.r2 = 0) ∨ 0 < n'.r0 := by
        rcases hok.r with h | h
        · exact .inl h
        · have h0 : n'.r0 = n'.e + 1 := h.1
          have h9 : (0 : Int) ≤ n'.e := e4
          exact .inr (by omega)
      simp only [Ss.of] at e1 e2 e3 e4 e6
      have hcall := sRecord_any h1 M[m] hbd.1 hbd.2 hr (by omega) (by omega) (by omega) (by omega) (by omega) (okU_small hok.us) e4 (by omega)
      have HCL : Hid (Calls Tryz.prog 29 #[.pointer (some ⟨w4.heap.size + 1 + 1 + 1, 0, none⟩), .string M[m]] wr fun e w' => e = .returned (.tuple #[]) ∧ RdQ (w.heap.size + 1 + 1) w5 (w4.heap.size + 1 + 1 + 1) ⟨a, k, true, 0, 0, 0, 0⟩ (.slice a4 L.length c4) L g4 (SR.runS a k (M.take (m + 1))) w') := hcall.mono fun e w' ⟨he, n2, vv2, vt2, va2, L2, V2, G2, q1, q2, q3, q4, q5, q6⟩ => ⟨he, n2, vv2, vt2, va2, L2, V2, G2, q1, by rw [q2, hst, ← h2, ha, hk], q3.trans h3, q4.trans ha, q5.trans hk, q6.trans hu⟩
      have wr1 : IntKind.i64.wrap ((m : Int) + 1) = (m : Int) + 1 := IntWalk.i64_in _ (by omega)
      clear hcall h1 h2 h3 ha hk hu hok hML hbd hst e1 e2 e3 e4 e6 hr HI
      have i1 : (m : Int) < (nM : Int) := by omega
      have i2 : (0 : Int) ≤ (m : Int) := by omega
      generalize M[m] = X at *
      go_wp2_with fail
      refine HCL.out.mono ?_
      rintro e w6 ⟨rfl, hq6⟩
      have HN2 : Hid (RdQ (w.heap.size + 1 + 1) w5 (w4.heap.size + 1 + 1 + 1) ⟨a, k, true, 0, 0, 0, 0⟩ (.slice a4 L.length c4) L g4 (SR.runS a k (M.take (m + 1))) w6) := hq6
      have HM1 : Hid (m + 1 ≤ M.length) := hmM
      clear hq6 HCL k5 hmM HOS2 HMM HRB HB5
      go_wp2
      go_roundw
      case rel => exact ⟨m + 1, HM1.out, by go_num, HN2.out⟩
      case measure => simp [intOf]; omega
    · have hme : m = nM := by have := HNM.out; omega
      subst hme
      have hT : M.take m = M := List.take_of_length_le (by rw [HNM.out]; exact Nat.le_refl _)
      rw [hT] at HI
      obtain ⟨n', vv', vt', va', L', V', G', h1, h2, h3, ha, hk, hu⟩ := HI.out
      have hbw := h1.ou.2.1
      have HR2 : Hid (Box 35 wr (w.heap.size + 1) _) := HRB.out.keep (hbw.block _ (by omega))
      have HB : Hid (Box 35 wr (w4.heap.size + 1 + 1 + 1) _) := h1.box
      have HBW : Hid (Below w.heap.size w wr) := HB5.out.trans (hbw.mono (by omega))
      have hM2 : M.length ≤ 1000000 := by have := HMM.out.1; omega
      have HF : Hid (∀ W, wr.grownBy W (some (w.heap.size + 1)) → Below w.heap.size w W → SnA a k true L (SR.runS a k M) w (.returned (.agg #[.int .i64 n'.a, .int .i64 n'.k, .bool n'.u, .slice a4 L.length c4, .int .i64 n'.e, vv', vt', va', .int .i64 n'.r0, .int .i64 n'.r1, .int .i64 n'.r2])) W) := fun W hW hb => SnA.of HOK.out hM2 h1.self (by omega) (by omega) hW h2 h3 ha hk hu hb
      obtain ⟨av3, cv3, rfl⟩ := OR.shapeJ h1.ov
      obtain ⟨at3, ct3, rfl⟩ := OR.shapeJ h1.oi
      obtain ⟨aa3, ca3, rfl⟩ := h1.ou.shape
      clear HI h1 h2 h3 ha hk hu hbw HOS2 HMM HRB HB5 hT HNM hM2 HOK
      go_wp2_with (first | (refine wp_loadSrv rfl _ rfl (w4.heap.size + 1 + 1 + 1) rfl HB.out ?_) | (refine wp_storeSrv rfl _ _ rfl (w.heap.size + 1) _ _ _ _ _ _ _ _ _ _ _ HR2.out rfl rfl ⟨rfl, rfl, rfl, rfl, rfl, rfl, rfl, rfl, rfl, rfl, rfl⟩ ?_; intro hfin))
      exact ret_srv 6 (w.heap.size + 1) rfl rfl rfl hfin (HF.out _ (grown_setRowP _ _ _) (below_setRow HBW.out (Nat.le_succ _)))

theorem sServerNew_at (a k : Int) (L : List Fl) (gg : Nat) (w : World) (h : RS 3 fcs w (.slice (some ⟨gg, 0, none⟩) L.length L.length) gg 0 L) (hs : SmallF L) :
    Calls Tryz.prog 8 #[.int .i64 a, .int .i64 k, .agg #[.slice (some ⟨gg, 0, none⟩) L.length L.length]] w (SnA a k true L (SR.runS a k (ltT L ⟨#[115, 104, 97, 114, 100]⟩)) w) := sServerNew_some a k L gg 0 L.length w h hs

end Go.Proofs.YthlgohplljcgfaaGreatDoor
/-
  Rows of numbers and of changes marked from any number on, and held against their marks.
-/
namespace Go.Proofs.YthlgohplljcgfaaGreatDoor
open Go.RowKit Go.BigFrame Go.Sort
set_option linter.unusedVariables false
set_option linter.unusedSimpArgs false

def imk (k0 n : Nat) : List Int := (List.range n).map fun j => ((k0 + j : Nat) : Int)
theorem imk_len (k0 n : Nat) : (imk k0 n).length = n := by simp [imk]
theorem imk_at (k0 n j : Nat) (h : j < (imk k0 n).length) : (imk k0 n)[j] = ((k0 + j : Nat) : Int) := by simp [imk]
def MiJ (w : World) (g n k0 : Nat) (x i : Value) (wr : World) : Prop := ∃ m : Nat, m ≤ n ∧ i = .int .i64 m ∧ x = .int .i64 (k0 + m : Nat) ∧ Hid ((∀ j, j < m → wr.cell? ⟨g, j, none⟩ = some (.int .i64 ((k0 + j : Nat) : Int))) ∧ (∀ j, j < n → (∃ u, wr.cell? ⟨g, j, none⟩ = some u) ∧ wr.frozen? ⟨g, j, none⟩ = false) ∧ w.grownBy wr (rowF g n))

set_option maxRecDepth 100000 in
set_option maxHeartbeats 400000 in
theorem markIntS_own (v : Value) (g : Nat) (l : List Int) (x : Int) (k0 : Nat) (w : World) (hx : x = (k0 : Int)) (h : IW w v g l) (hk : k0 ≤ 10000000) :
    Calls Tryz.prog 22 #[v, .int .i64 x] w fun e w' => e = .returned (.int .i64 (k0 + l.length : Nat)) ∧ IW w' v g (imk k0 l.length) ∧ w.grownBy w' (rowF g l.length) := by
  subst hx
  obtain ⟨a, cap, rfl, hl, hA, hc⟩ := h
  obtain ⟨n, hn⟩ : ∃ n, l.length = n := ⟨_, rfl⟩
  have HA : Hid (0 < n → a = some ⟨g, 0, none⟩ ∧ g < w.heap.size) := by rw [← hn]; exact fun h => hA h
  have HST : Hid (MiJ w g n k0 (.int .i64 k0) (.int .i64 0) w) := ⟨0, by omega, rfl, rfl, fun j hj => by omega, fun j hj => ⟨⟨_, (hc j (by omega)).1⟩, (hc j (by omega)).2⟩, ⟨rfl, rfl, rfl, Nat.le_refl _, fun _ _ _ => rfl⟩⟩
  rw [hn] at hl
  rw [hn]
  clear hA hc
  go_enter Tryz.func22, Tryz.ntmps22
  go_wp2
  go_loopw [1, 5] (fun x i wr => MiJ w g n k0 x i wr) (fun _ i _ => n - (intOf i).toNat)
  case atStart => exact HST.out
  case round =>
    obtain ⟨m, hm, rfl, rfl, HI⟩ := hrel
    clear HST
    by_cases hlt : m < n
    · have ea := (HA.out (by omega)).1
      subst ea
      obtain ⟨⟨o0, x0⟩, f0⟩ := HI.out.2.1 m (by omega)
      have HJ : Hid ((∀ j, j < m + 1 → (wr.setCell ⟨g, m, none⟩ (.int .i64 (k0 + m : Nat))).cell? ⟨g, j, none⟩ = some (.int .i64 ((k0 + j : Nat) : Int))) ∧ (∀ j, j < n → (∃ u, (wr.setCell ⟨g, m, none⟩ (.int .i64 (k0 + m : Nat))).cell? ⟨g, j, none⟩ = some u) ∧ (wr.setCell ⟨g, m, none⟩ (.int .i64 (k0 + m : Nat))).frozen? ⟨g, j, none⟩ = false) ∧ w.grownBy (wr.setCell ⟨g, m, none⟩ (.int .i64 (k0 + m : Nat))) (rowF g n)) := by
        refine ⟨fun j hj => ?_, fun j hj => ⟨?_, by rw [World.frozen?_setCell]; exact (HI.out.2.1 j hj).2⟩, ?_⟩
        · by_cases h : j = m
          · subst h; exact set_here x0 f0 _
          · rw [set_else h]; exact HI.out.1 j (by omega)
        · by_cases h : j = m
          · subst h; exact ⟨_, set_here x0 f0 _⟩
          · rw [set_else h]; exact (HI.out.2.1 j hj).1
        · have h3 := HI.out.2.2
          rw [rowF_some (by omega)] at h3 ⊢
          exact h3.trans (grown_set wr g m _)
      have i1 : (m : Int) < (n : Int) := by omega
      have i2 : (0 : Int) ≤ (m : Int) := by omega
      clear HI HA
      go_wp2
      go_roundw
      case rel => exact ⟨m + 1, by omega, by go_num, by go_num, HJ⟩
      case measure => simp [intOf]; omega
    · have hme : n = m := by omega
      have HF : Hid (IW wr (.slice a n cap) g (imk k0 n) ∧ w.grownBy wr (rowF g n)) := by
        obtain ⟨h1, h2, h3⟩ := HI.out
        refine ⟨⟨a, cap, by rw [imk_len], by rw [imk_len]; omega, fun hp => ?_, fun j hj => ?_⟩, h3⟩
        · rw [imk_len] at hp
          exact ⟨(HA.out hp).1, Nat.lt_of_lt_of_le (HA.out hp).2 h3.size⟩
        · rw [imk_at]
          rw [imk_len] at hj
          exact ⟨h1 j (by omega), (h2 j hj).2⟩
      subst hme
      clear HA HI
      go_wp2
      go_ret
      exact ⟨rfl, HF.out.1, HF.out.2⟩

def HiJ (k0 n : Nat) (w : World) (x i : Value) (wr : World) : Prop := ∃ m : Nat, m ≤ n ∧ i = .int .i64 m ∧ x = .int .i64 (k0 + m : Nat) ∧ Below w.heap.size w wr

set_option maxRecDepth 100000 in
set_option maxHeartbeats 400000 in
theorem heldIntS_own (v : Value) (g : Nat) (x : Int) (k0 n : Nat) (w : World) (hx : x = (k0 : Int)) (h : IW w v g (imk k0 n)) (hk : k0 ≤ 10000000) :
    Calls Tryz.prog 44 #[v, .int .i64 x] w fun e w' => e = .returned (.int .i64 (k0 + n : Nat)) ∧ Below w.heap.size w w' := by
  subst hx
  have HV : Hid (IW w v g (imk k0 n)) := h
  obtain ⟨a, cap, rfl, hl, hA, hc⟩ := h
  rw [imk_len] at *
  have HA : Hid (0 < n → a = some ⟨g, 0, none⟩) := fun h => (hA h).1
  clear hA hc
  go_enter Tryz.func44, Tryz.ntmps44
  go_wp2
  go_loopw [1, 5] (fun x i wr => HiJ k0 n w x i wr) (fun _ i _ => n - (intOf i).toNat)
  case atStart => exact ⟨0, by omega, rfl, rfl, Below.refl _ _⟩
  case round =>
    obtain ⟨m, hm, rfl, rfl, hbel⟩ := hrel
    by_cases hlt : m < n
    · have ea := HA.out (by omega)
      subst ea
      have c0 : wr.cell? ⟨g, m, none⟩ = some (.int .i64 ((k0 + m : Nat) : Int)) := by
        obtain ⟨_, _, _, _, _, hc⟩ := HV.out.later hbel
        have := (hc m (by rw [imk_len]; exact hlt)).1
        rw [imk_at] at this
        exact this
      have i1 : (m : Int) < (n : Int) := by omega
      have i2 : (0 : Int) ≤ (m : Int) := by omega
      clear HV HA
      go_wp2
      go_roundw
      case rel => exact ⟨m + 1, by omega, by go_num, by go_num, hbel⟩
      case measure => simp [intOf]; omega
    · have hme : m = n := by omega
      subst hme
      clear HV HA
      go_wp2
      go_ret
      exact ⟨rfl, hbel⟩

def umk (k0 j : Nat) : Ug := ⟨((k0 + 3 * j : Nat) : Int), markB (k0 + 3 * j + 1), markB (k0 + 3 * j + 2)⟩
def umarks (k0 n : Nat) : List Ug := (List.range n).map (umk k0)
theorem umarks_len (k0 n : Nat) : (umarks k0 n).length = n := by simp [umarks]
theorem umarks_at (k0 n j : Nat) (h : j < (umarks k0 n).length) : (umarks k0 n)[j] = umk k0 j := by simp [umarks]

/-- the first m changes bear marks, and all may be written -/
def UmI (w : World) (g n k0 m : Nat) (wr : World) : Prop := (∀ j, j < m → wr.rangeAt g (j * 3) (ucs (umk k0 j))) ∧ (∀ j, j < n → wr.there g (j * 3) 3) ∧ w.grownBy wr (rowF g n)
theorem UmI.below {w wr wr' : World} {g n k0 m : Nat} (h : UmI w g n k0 m wr) (hg : g < wr.heap.size) (hb : Below wr.heap.size wr wr') : UmI w g n k0 m wr' :=
  ⟨fun j hj => range_kept (h.1 j hj) (hb.block g hg), fun j hj => there_kept (h.2.1 j hj) (hb.block g hg), h.2.2.trans ((grown_below hb))⟩
theorem UmI.set {w wr : World} {g n k0 m : Nat} (h : UmI w g n k0 m wr) (hm : m < n) (o : Nat) (ho : m * 3 ≤ o) (v : Value) : UmI w g n k0 m (wr.setCell ⟨g, o, none⟩ v) :=
  ⟨fun j hj => set_range (h.1 j hj) (by rw [ucs_len]; omega) v, fun j hj => set_there o (h.2.1 j hj) v, by
    have h3 := h.2.2
    rw [rowF_some (by omega)] at h3 ⊢
    exact h3.trans (grown_set wr g o v)⟩
def UmR (w : World) (g n k0 : Nat) (x i : Value) (wr : World) : Prop := ∃ m : Nat, m ≤ n ∧ i = .int .i64 m ∧ x = .int .i64 (k0 + 3 * m : Nat) ∧ Hid (UmI w g n k0 m wr)

set_option maxRecDepth 100000 in
set_option maxHeartbeats 1000000 in
theorem markChangeS_own (v : Value) (g : Nat) (l : List Ug) (x : Int) (k0 : Nat) (w : World) (hx : x = (k0 : Int)) (h : RW 3 ucs w v g l) (h0 : 0 < k0) (hk : k0 ≤ 10000000) :
    Calls Tryz.prog 41 #[v, .int .i64 x] w fun e w' => e = .returned (.int .i64 (k0 + 3 * l.length : Nat)) ∧ RW 3 ucs w' v g (umarks k0 l.length) ∧ w.grownBy w' (rowF g l.length) := by
  subst hx
  obtain ⟨⟨a, cap, rfl, hl, hA, hc⟩, ht⟩ := h
  obtain ⟨n, hn⟩ : ∃ n, l.length = n := ⟨_, rfl⟩
  rw [hn] at ht hA hl ⊢
  have HA : Hid (0 < n → a = some ⟨g, 0, none⟩ ∧ g < w.heap.size) := hA
  have HST : Hid (UmR w g n k0 (.int .i64 k0) (.int .i64 0) w) := ⟨0, by omega, rfl, rfl, fun j h => by omega, ht, ⟨rfl, rfl, rfl, Nat.le_refl _, fun _ _ _ => rfl⟩⟩
  clear hA hc ht
  go_enter Tryz.func41, Tryz.ntmps41
  go_wp2
  go_loopw [1, 5] (fun x i wr => UmR w g n k0 x i wr) (fun _ i _ => n - (intOf i).toNat)
  case atStart => exact HST.out
  case round =>
    obtain ⟨m, hm, rfl, rfl, HI⟩ := hrel
    clear HST
    by_cases hlt : m < n
    · obtain ⟨ea, hgw⟩ := HA.out (by omega)
      subst ea
      have hgr : g < wr.heap.size := Nat.lt_of_lt_of_le hgw HI.out.2.2.size
      have i1 : (m : Int) < (n : Int) := by omega
      have i2 : (0 : Int) ≤ (m : Int) := by omega
      obtain ⟨⟨o0, x0⟩, ⟨o1, x1⟩, ⟨o2, x2⟩, f0, f1, f2⟩ := there3 (HI.out.2.1 m hlt)
      have HI1 : Hid (UmI w g n k0 m (wr.setCell ⟨g, m * 3, none⟩ (.int .i64 (k0 + 3 * m : Nat))) ∧ (wr.setCell ⟨g, m * 3, none⟩ (.int .i64 (k0 + 3 * m : Nat))).cell? ⟨g, m * 3, none⟩ = some (.int .i64 (k0 + 3 * m : Nat))) := ⟨HI.out.set hlt _ (by omega) _, set_here x0 f0 _⟩
      have hgr1 : g < (wr.setCell ⟨g, m * 3, none⟩ (.int .i64 (k0 + 3 * m : Nat))).heap.size := by simpa using hgr
      clear HI
      go_wp2_with fail
      refine (markText_int _ (k0 + 3 * m + 1) _ (by omega) (by omega) (by omega)).mono ?_
      rintro e w1 ⟨rfl, hb1⟩
      have HI2 : Hid (UmI w g n k0 m w1 ∧ w1.cell? ⟨g, m * 3, none⟩ = some (.int .i64 (k0 + 3 * m : Nat)) ∧ g < w1.heap.size) := ⟨HI1.out.1.below hgr1 hb1, (hb1.cell (p := ⟨g, m * 3, none⟩) hgr1).trans HI1.out.2, Nat.lt_of_lt_of_le hgr1 hb1.size⟩
      clear HI1 hb1 hgr1 hgr x0 x1 x2 f0 f1 f2 o0 o1 o2
      obtain ⟨⟨o0, x0⟩, ⟨o1, x1⟩, ⟨o2, x2⟩, f0, f1, f2⟩ := there3 (HI2.out.1.2.1 m hlt)
      obtain ⟨K0, hK0⟩ : ∃ K0, markB (k0 + 3 * m + 1) = K0 := ⟨_, rfl⟩
      rw [hK0]
      have HI3 : Hid (UmI w g n k0 m (w1.setCell ⟨g, m * 3 + 1, none⟩ (.string K0)) ∧ (w1.setCell ⟨g, m * 3 + 1, none⟩ (.string K0)).cell? ⟨g, m * 3, none⟩ = some (.int .i64 (k0 + 3 * m : Nat)) ∧ (w1.setCell ⟨g, m * 3 + 1, none⟩ (.string K0)).cell? ⟨g, m * 3 + 1, none⟩ = some (.string K0) ∧ g < (w1.setCell ⟨g, m * 3 + 1, none⟩ (.string K0)).heap.size) := ⟨HI2.out.1.set hlt _ (by omega) _, by rw [set_else (by omega)]; exact HI2.out.2.1, set_here x1 f1 _, by simpa using HI2.out.2.2⟩
      clear HI2
      go_wp2_with fail
      refine (markText_int _ (k0 + 3 * m + 2) _ (by omega) (by omega) (by omega)).mono ?_
      rintro e w2 ⟨rfl, hb2⟩
      have HI4 : Hid (UmI w g n k0 m w2 ∧ w2.cell? ⟨g, m * 3, none⟩ = some (.int .i64 (k0 + 3 * m : Nat)) ∧ w2.cell? ⟨g, m * 3 + 1, none⟩ = some (.string K0)) := ⟨HI3.out.1.below HI3.out.2.2.2 hb2, (hb2.cell (p := ⟨g, m * 3, none⟩) HI3.out.2.2.2).trans HI3.out.2.1, (hb2.cell (p := ⟨g, m * 3 + 1, none⟩) HI3.out.2.2.2).trans HI3.out.2.2.1⟩
      clear HI3 hb2 x0 x1 x2 f0 f1 f2 o0 o1 o2
      obtain ⟨⟨o0, x0⟩, ⟨o1, x1⟩, ⟨o2, x2⟩, f0, f1, f2⟩ := there3 (HI4.out.1.2.1 m hlt)
      have HI5 : Hid (UmI w g n k0 (m + 1) (w2.setCell ⟨g, m * 3 + 2, none⟩ (.string (markB (k0 + 3 * m + 2))))) := by
        have h4 := HI4.out.1.set hlt (m * 3 + 2) (by omega) (.string (markB (k0 + 3 * m + 2)))
        refine ⟨fun j hj => ?_, h4.2⟩
        rcases Nat.lt_or_ge j m with h5 | h5
        · exact h4.1 j h5
        · have : j = m := by omega
          subst this
          refine range3 ?_ ?_ (set_here x2 f2 _)
          · rw [set_else (by omega)]; exact HI4.out.2.1
          · rw [set_else (by omega)]
            exact HI4.out.2.2.trans (by rw [← hK0]; rfl)
      clear HI4 hK0
      generalize markB (k0 + 3 * m + 2) = K1 at *
      go_wp2
      go_roundw
      case rel => exact ⟨m + 1, by omega, by go_num, by go_num, HI5⟩
      case measure => simp [intOf]; omega
    · have hme : m = n := by omega
      have HF : Hid (RW 3 ucs wr (.slice a n cap) g (umarks k0 n) ∧ w.grownBy wr (rowF g n)) := by
        obtain ⟨h1, h2, h3⟩ := HI.out
        refine ⟨⟨⟨a, cap, by rw [umarks_len], by rw [umarks_len]; omega, fun hp => ?_, fun j hj => ?_⟩, fun j hj => ?_⟩, h3⟩
        · rw [umarks_len] at hp
          exact ⟨(HA.out hp).1, Nat.lt_of_lt_of_le (HA.out hp).2 h3.size⟩
        · rw [umarks_at, Nat.zero_add]
          rw [umarks_len] at hj
          exact h1 j (by omega)
        · rw [umarks_len] at hj
          exact h2 j (by omega)
      subst hme
      clear HI HA
      go_wp2
      go_ret
      exact ⟨rfl, HF.out.1, HF.out.2⟩

def HuJ (k0 n : Nat) (w : World) (x i : Value) (wr : World) : Prop := ∃ m : Nat, m ≤ n ∧ i = .int .i64 m ∧ x = .int .i64 (k0 + 3 * m : Nat) ∧ Below w.heap.size w wr

set_option maxRecDepth 100000 in
set_option maxHeartbeats 1000000 in
theorem heldChangeS_own (v : Value) (g : Nat) (x : Int) (k0 n : Nat) (w : World) (hx : x = (k0 : Int)) (h : RS 3 ucs w v g 0 (umarks k0 n)) (h0 : 0 < k0) (hk : k0 ≤ 10000000) :
    Calls Tryz.prog 45 #[v, .int .i64 x] w fun e w' => e = .returned (.int .i64 (k0 + 3 * n : Nat)) ∧ Below w.heap.size w w' := by
  subst hx
  have HV : Hid (RS 3 ucs w v g 0 (umarks k0 n)) := h
  obtain ⟨a, cap, rfl, hl, hA, hc⟩ := h
  rw [umarks_len] at *
  have HA : Hid (0 < n → a = some ⟨g, 0, none⟩) := fun h => (hA h).1
  clear hA hc
  go_enter Tryz.func45, Tryz.ntmps45
  go_wp2
  go_loopw [1, 5] (fun x i wr => HuJ k0 n w x i wr) (fun _ i _ => n - (intOf i).toNat)
  case atStart => exact ⟨0, by omega, rfl, rfl, Below.refl _ _⟩
  case round =>
    obtain ⟨m, hm, rfl, rfl, hbel⟩ := hrel
    by_cases hlt : m < n
    · have ea := HA.out (by omega)
      subst ea
      obtain ⟨c0, c1, c2⟩ := (HV.out.later hbel).chg m (by rw [umarks_len]; exact hlt)
      rw [umarks_at] at c0 c1 c2
      simp only [umk, Nat.zero_add] at c0 c1 c2
      have hg6 : g < wr.heap.size := lt_of_cell c0
      have i1 : (m : Int) < (n : Int) := by omega
      have i2 : (0 : Int) ≤ (m : Int) := by omega
      have HM0 : Hid (∀ W, Calls Tryz.prog 85 #[.int .i64 ((k0 + 3 * m + 1 : Nat) : Int)] W fun e w' => e = .returned (.string (markB (k0 + 3 * m + 1))) ∧ Below W.heap.size W w') := fun W => markText_int _ _ W rfl (by omega) (by omega)
      have HM1 : Hid (∀ W, Calls Tryz.prog 85 #[.int .i64 ((k0 + 3 * m + 2 : Nat) : Int)] W fun e w' => e = .returned (.string (markB (k0 + 3 * m + 2))) ∧ Below W.heap.size W w') := fun W => markText_int _ _ W rfl (by omega) (by omega)
      generalize markB (k0 + 3 * m + 1) = K0 at *
      generalize markB (k0 + 3 * m + 2) = K1 at *
      clear HV HA
      go_wp2
      have kq0 := cell_regrown (w := wr) c1
      have cq0 := fun d os => Calls.regrown_of (w := wr) (d := d) (os := os) (HM0.out _)
      refine wp_region_quiet_below (by kernel_rfl) (by kernel_rfl) ?_
      repeat (go_big_quiet_step (first | exact cq0 _ _))
      refine wpQuiet_nil ?_
      rintro _ ⟨⟨dq, osq⟩, rfl⟩
      have hb6 := below_regrown (wr) dq osq
      generalize grow (redrawn (wr) dq) osq = w6 at *
      clear kq0 cq0
      have c2' : w6.cell? ⟨g, m * 3 + 2, none⟩ = some (.string K1) := (hb6.cell (p := ⟨g, m * 3 + 2, none⟩) hg6).trans c2
      clear c0 c1 c2
      have c2 := c2'
      clear c2'
      go_wp2
      have kq0 := cell_regrown (w := w6) c2
      have cq0 := fun d os => Calls.regrown_of (w := w6) (d := d) (os := os) (HM1.out _)
      refine wp_region_quiet_below (by kernel_rfl) (by kernel_rfl) ?_
      repeat (go_big_quiet_step (first | exact cq0 _ _))
      refine wpQuiet_nil ?_
      rintro _ ⟨⟨dq, osq⟩, rfl⟩
      have hb7 := below_regrown (w6) dq osq
      generalize grow (redrawn (w6) dq) osq = w7 at *
      clear kq0 cq0 c2
      have hb8 := hbel.trans ((hb6.trans (hb7.mono hb6.size)).mono hbel.size)
      go_wp2
      go_roundw
      case rel => exact ⟨m + 1, by omega, by go_num, by go_num, hb8⟩
      case measure => simp [intOf]; omega
    · have hme : m = n := by omega
      subst hme
      clear HV HA
      go_wp2
      go_ret
      exact ⟨rfl, hbel⟩

end Go.Proofs.YthlgohplljcgfaaGreatDoor
