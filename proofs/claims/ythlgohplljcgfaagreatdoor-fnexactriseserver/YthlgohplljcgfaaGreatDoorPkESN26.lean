/-
  Texts laid together: Jr, Co, Js, Jt.
-/
import Derived.Test.YthlgohplljcgfaaGreatDoorPkESN25
import Derived.Test.YthlgohplljcgfaaGreatDoorPkESN11
import Derived.Test.YthlgohplljcgfaaGreatDoorPkESN3
import Derived.Test.YthlgohplljcgfaaGreatDoorPkESN4
import Derived.Deep.AppendLies
import Derived.Deep.RegionLaw
import Derived.OwnWalk
import Derived.Test.YthlgohplljcgfaaGreatDoorPkESN18
import Derived.Test.YthlgohplljcgfaaGreatDoorPkESN13
/-
  A change copied; taken in: the program's answers.
-/
namespace Go.Proofs.YthlgohplljcgfaaGreatDoor
open Go.RowKit Go.BigFrame Go.Sort
set_option linter.unusedVariables false
set_option linter.unusedSimpArgs false

/-- a change in its box, an empty one behind it -/
def CpK (w : World) (s : Nat) (y : Ug) (W : World) : Prop := BU W s y ∧ BU W (s + 1) ⟨0, ⟨#[]⟩, ⟨#[]⟩⟩ ∧ Below s w W
theorem CpK.call {w : World} {s : Nat} {y : Ug} {W W' : World} (h : CpK w s y W) (hb : Below W.heap.size W W') : CpK w s y W' := ⟨h.1.later hb, h.2.1.later hb, h.2.2.trans (hb.mono (by have := h.1.lt; omega))⟩
theorem CpK.set1 {w : World} {s : Nat} {y : Ug} {W : World} (h : CpK w s y W) : CpK w s y (W.setCell ⟨s, 1, none⟩ (.string y.n)) := ⟨h.1.set1 y.n, h.2.1.grown (grown_setC W s 1 _) (by simp), h.2.2.setCell (p := ⟨s, 1, none⟩) (Nat.le_refl _) _⟩
theorem CpK.set2 {w : World} {s : Nat} {y : Ug} {W : World} (h : CpK w s y W) : CpK w s y (W.setCell ⟨s, 2, none⟩ (.string y.v)) := ⟨h.1.set2 y.v, h.2.1.grown (grown_setC W s 2 _) (by simp), h.2.2.setCell (p := ⟨s, 2, none⟩) (Nat.le_refl _) _⟩
theorem CpK.all {w : World} {s : Nat} {y : Ug} {W : World} (h : CpK w s y W) : W.cell? ⟨s, 1, none⟩ = some (.string y.n) ∧ W.cell? ⟨s, 2, none⟩ = some (.string y.v) ∧ W.frozen? ⟨s, 1, none⟩ = false ∧ W.frozen? ⟨s, 2, none⟩ = false ∧ CpK w s y W := ⟨h.1.c1, h.1.c2, h.1.fz 1, h.1.fz 2, h⟩

/-- .. as one fact -/
structure CpH (w : World) (s : Nat) (y : Ug) (W : World) : Prop where
  k : CpK w s y W
theorem CpH.call {w : World} {s : Nat} {y : Ug} {W W' : World} (h : CpH w s y W) (hb : Below W.heap.size W W') : CpH w s y W' := ⟨h.k.call hb⟩
theorem CpH.set1 {w : World} {s : Nat} {y : Ug} {W : World} (h : CpH w s y W) : CpH w s y (W.setCell ⟨s, 1, none⟩ (.string y.n)) := ⟨h.k.set1⟩
theorem CpH.set2 {w : World} {s : Nat} {y : Ug} {W : World} (h : CpH w s y W) : CpH w s y (W.setCell ⟨s, 2, none⟩ (.string y.v)) := ⟨h.k.set2⟩
theorem CpH.all {w : World} {s : Nat} {y : Ug} {W : World} (h : CpH w s y W) : W.cell? ⟨s, 1, none⟩ = some (.string y.n) ∧ W.cell? ⟨s, 2, none⟩ = some (.string y.v) ∧ W.frozen? ⟨s, 1, none⟩ = false ∧ W.frozen? ⟨s, 2, none⟩ = false ∧ CpH w s y W := ⟨h.k.1.c1, h.k.1.c2, h.k.1.fz 1, h.k.1.fz 2, h⟩

set_option maxRecDepth 100000 in
set_option maxHeartbeats 1000000 in
theorem uCopied_any (y : Ug) (w : World) (hn : y.n.size ≤ 1048576) (hv : y.v.size ≤ 1048576) :
    Calls Tryz.prog 128 #[.agg #[.int .i64 y.i, .string y.n, .string y.v]] w fun e w' => e = .returned (.agg #[.int .i64 y.i, .string y.n, .string y.v]) ∧ Below w.heap.size w w' := by
  obtain ⟨i, n, v⟩ := y
  simp only at hn hv ⊢
  have h1 : BU ((w.alloc (.cells #[.int .i64 i, .string n, .string v] 102)).alloc (.cells #[.int .i64 0, .string ⟨#[]⟩, .string ⟨#[]⟩] 102)) w.heap.size ⟨i, n, v⟩ := (BU.new w ⟨i, n, v⟩).later (below_alloc _ _)
  have hK0 : CpH w w.heap.size ⟨i, n, v⟩ ((w.alloc (.cells #[.int .i64 i, .string n, .string v] 102)).alloc (.cells #[.int .i64 0, .string ⟨#[]⟩, .string ⟨#[]⟩] 102)).drew := ⟨⟨h1, alloc_fst _ _ (by simp), ((below_alloc _ _).alloc (by simp) _).drew⟩⟩
  have HK0 := hide hK0
  clear h1 hK0
  have hc1 : ∀ W, CpH w w.heap.size ⟨i, n, v⟩ W → CpH w w.heap.size ⟨i, n, v⟩ (W.setCell ⟨w.heap.size, 1, none⟩ (.string n)) := fun W h => h.set1
  have hc2 : ∀ W, CpH w w.heap.size ⟨i, n, v⟩ W → CpH w w.heap.size ⟨i, n, v⟩ (W.setCell ⟨w.heap.size, 2, none⟩ (.string v)) := fun W h => h.set2
  have hca : ∀ W, CpH w w.heap.size ⟨i, n, v⟩ W → W.cell? ⟨w.heap.size, 1, none⟩ = some (.string n) ∧ W.cell? ⟨w.heap.size, 2, none⟩ = some (.string v) ∧ W.frozen? ⟨w.heap.size, 1, none⟩ = false ∧ W.frozen? ⟨w.heap.size, 2, none⟩ = false ∧ CpH w w.heap.size ⟨i, n, v⟩ W := fun W h => h.all
  have HC1 := hide hc1
  have HC2 := hide hc2
  have HCA := hide hca
  clear hc1 hc2 hca
  go_enter Tryz.func128, Tryz.ntmps128
  go_wp2
  go_region_held3 (fun W => W.cell? ⟨w.heap.size, 1, none⟩ = some (.string n) ∧ W.cell? ⟨w.heap.size, 2, none⟩ = some (.string v) ∧ W.frozen? ⟨w.heap.size, 1, none⟩ = false ∧ W.frozen? ⟨w.heap.size, 2, none⟩ = false ∧ CpH w w.heap.size ⟨i, n, v⟩ W) (first | exact HCA.out _ HK0.out | exact HCA.out _ (CpH.call (by first | assumption | exact (‹World.cell? _ _ = _ ∧ World.cell? _ _ = _ ∧ World.frozen? _ _ = _ ∧ World.frozen? _ _ = _ ∧ CpH w w.heap.size ⟨i, n, v⟩ _›).2.2.2.2) hb2) | exact HCA.out _ (HC1.out _ (by first | assumption | exact (‹World.cell? _ _ = _ ∧ World.cell? _ _ = _ ∧ World.frozen? _ _ = _ ∧ World.frozen? _ _ = _ ∧ CpH w w.heap.size ⟨i, n, v⟩ _›).2.2.2.2)) | exact HCA.out _ (HC2.out _ (by first | assumption | exact (‹World.cell? _ _ = _ ∧ World.cell? _ _ = _ ∧ World.frozen? _ _ = _ ∧ World.frozen? _ _ = _ ∧ CpH w w.heap.size ⟨i, n, v⟩ _›).2.2.2.2))) (first | (go_at_call 110; refine (Clone_any _ _ (by first | exact hn | exact hv)).mono ?_; rintro e w2 ⟨rfl, hb2⟩) | fail)
  rename_i hHeld
  have HF := hide hHeld.2.2.2.2
  clear hHeld
  clear hb2
  generalize ((w2.setCell ⟨w.heap.size, 1, none⟩ (.string n)).setCell ⟨w.heap.size, 2, none⟩ (.string v)) = w3 at *
  have c0 := HF.out.k.1.c0
  have c1 := HF.out.k.1.c1
  have c2 := HF.out.k.1.c2
  have t0 := HF.out.k.2.1.c0
  have t1 := HF.out.k.2.1.c1
  have t2 := HF.out.k.2.1.c2
  have f0 := HF.out.k.2.1.fz 0
  have f1 := HF.out.k.2.1.fz 1
  have f2 := HF.out.k.2.1.fz 2
  have HR := hide (And.intro (HF.out.k.2.1.put ⟨i, n, v⟩) (below_setCells (b := w.heap.size + 1) (by omega) (ucs ⟨i, n, v⟩) 0 _ HF.out.k.2.2))
  clear HF HC1 HC2 HCA HK0
  go_wp2
  exact ret_ug 2 (w.heap.size + 1) ⟨i, n, v⟩ rfl rfl rfl HR.out.1 ⟨rfl, HR.out.2⟩

end Go.Proofs.YthlgohplljcgfaaGreatDoor
/-
  Rows of changes that a call owns, grown change by change; a row beside a cursor.
-/
namespace Go.Proofs.YthlgohplljcgfaaGreatDoor
open Go.RowKit Go.BigFrame Go.Sort
set_option linter.unusedVariables false
set_option linter.unusedSimpArgs false

theorem grown_belowU {w w' : World} {row : Option Nat} (h : Below w.heap.size w w') : w.grownBy w' row := ⟨h.os, h.tape, h.output, h.size, fun k hk _ => h.block k hk⟩

/-- v owns the changes l -/
def OU (B : Nat) (w0 w : World) (v : Value) (l : List Ug) : Prop := OR 102 3 ucs B w0 w v l
theorem OU.later {B : Nat} {w0 w w' : World} {v : Value} {l : List Ug} (h : OU B w0 w v l) (hb : Below w.heap.size w w') : OU B w0 w' v l := OR.later h hb
theorem OU.grown {B : Nat} {w0 w w' : World} {v : Value} {l : List Ug} {row : Option Nat} (h : OU B w0 w v l) (hg : w.grownBy w' row) (hne : ∀ q, row = some q → B ≤ q ∧ v.ownBlock ≠ some q) : OU B w0 w' v l := OR.grown h hg hne
theorem OU.rw {B : Nat} {w0 w : World} {v : Value} {l : List Ug} (h : OU B w0 w v l) (hl : l.length ≤ 1100000) : ∃ g, RW 3 ucs w v g l ∧ B ≤ g ∧ (∀ q, v.ownBlock = some q → q = g) := OR.rw (k := 3) (enc := ucs) (fun x => ucs_len x) (by omega) h hl
theorem OU.shape {B : Nat} {w0 w : World} {v : Value} {l : List Ug} (h : OU B w0 w v l) : ∃ a c, v = .slice a l.length c := by
  rcases h.1.2 with ⟨hv, hn⟩ | ⟨g, cap, cur, hv, _⟩
  · exact ⟨none, 0, by rw [hv, hn]⟩
  · exact ⟨_, _, hv⟩
theorem OU.made (B : Nat) (w0 w : World) (hb : Below B w0 w) (hB : B ≤ w.heap.size) : OU B w0 (w.alloc (.cells #[] 102)) (.slice (some ⟨w.heap.size, 0, none⟩) 0 0) [] :=
  ⟨World.ownsRow_made w #[] 0 hB (by decide) (by simp), hb.alloc hB _, by simp; omega⟩
/-- its block is none of another type -/
theorem OU.ne {B : Nat} {w0 w : World} {u : Value} {l : List Ug} {p T : Nat} {cs : Array Value} {fz : Nat × Nat} (h : OU B w0 w u l) (hb : w.heap[p]? = some (.cells cs T fz)) (hT : T ≠ 102) : u.ownBlock ≠ some p := by
  rcases h.1.2 with ⟨hv, _⟩ | ⟨g, cap, cur, hv, _, hg, _⟩
  · rw [hv]; simp [Value.ownBlock]
  · rw [hv]
    intro e
    have : g = p := by simpa [Value.ownBlock] using e
    subst this
    rw [hg] at hb
    simp at hb
    exact hT hb.2.1.symm

section
variable {w : World} {ops : Array Oper} {o : Oper} {a : Act} {K : Act → World → Prop} {Q : Exit → Act → World → Prop}
/-- a change appended, as one step of a region that draws its order -/
theorem step_chg {E : Prop} (hgd : o.guard = none) (s x : Operand)
    (ho : o.op = .call { callee := .builtin .append, args := #[s, x], argTypes := #[31, 31] })
    (B : Nat) (w0 : World) (u : Value) (l : List Ug) (f : Ug) (hs : a.eval s = u) (h : OU B w0 w u l) (p : Nat) (hx : a.eval x = .slice (some ⟨p, 0, none⟩) 1 1)
    (hnews : w.rangeAt p 0 (ucs f)) (hlen : l.length + 1 ≤ 1000000)
    (hk : ∀ g cap w', OU B w0 w' (.slice (some ⟨g, 0, none⟩) (l.length + 1) cap) (l ++ [f]) → w.grownBy w' u.ownBlock → K (a.put o.dst (.slice (some ⟨g, 0, none⟩) (l.length + 1) cap)) w') : if Region.wanted o (yielded ops a.tmps) = true then Oper.wp Tryz.prog o a w K Q else E := by
  obtain ⟨i0, hi, hz0, hz1, hz2⟩ := info_parts Tryz.infoChange
  refine step_append_lies w hgd s x 31 ho B 102 i0 _ 3 40 Tryz.underlying31 hi hz0 hz1 hz2 rfl (by decide) u l.length (l.flatMap ucs) hs h.1 ⟨p, 0, none⟩ 1 1 (ucs f) hx rfl ?_
    (fun u hu => by simp [ucs] at hu; rcases hu with rfl | rfl | rfl <;> rfl) (by omega) (by unfold maxLen; omega) (by omega) h.2.2 w.heap.size rfl ?_
  · intro j u hj
    have := hnews j u hj
    rw [Addr.add_mid]
    exact this
  · intro g cap w' h1 h2 h3 _
    exact hk _ _ _ ⟨by rw [List.flatMap_append, List.flatMap_singleton, List.length_append]; exact h1, h.2.1.grown h2 h.2.2 (fun k hk => (h.1.lt k hk).1), Nat.le_trans h.2.2 h2.size⟩ h2
/-- .. and in a plain region -/
theorem wp_chg {rest : List Oper} (hgd : o.guard = none) (s x : Operand)
    (ho : o.op = .call { callee := .builtin .append, args := #[s, x], argTypes := #[31, 31] })
    (B : Nat) (w0 : World) (u : Value) (l : List Ug) (f : Ug) (hs : a.eval s = u) (h : OU B w0 w u l) (p : Nat) (hx : a.eval x = .slice (some ⟨p, 0, none⟩) 1 1)
    (hnews : w.rangeAt p 0 (ucs f)) (hlen : l.length + 1 ≤ 1000000)
    (hk : ∀ g cap w', OU B w0 w' (.slice (some ⟨g, 0, none⟩) (l.length + 1) cap) (l ++ [f]) → w.grownBy w' u.ownBlock → wpList Tryz.prog ops Q rest (a.put o.dst (.slice (some ⟨g, 0, none⟩) (l.length + 1) cap)) w') : wpList Tryz.prog ops Q (o :: rest) a w := by
  obtain ⟨i0, hi, hz0, hz1, hz2⟩ := info_parts Tryz.infoChange
  refine wpList_append_lies w hgd s x 31 ho B 102 i0 _ 3 40 Tryz.underlying31 hi hz0 hz1 hz2 rfl (by decide) u l.length (l.flatMap ucs) hs h.1 ⟨p, 0, none⟩ 1 1 (ucs f) hx rfl ?_
    (fun u hu => by simp [ucs] at hu; rcases hu with rfl | rfl | rfl <;> rfl) (by omega) (by unfold maxLen; omega) (by omega) h.2.2 w.heap.size rfl ?_
  · intro j u hj
    have := hnews j u hj
    rw [Addr.add_mid]
    exact this
  · intro g cap w' h1 h2 h3 _
    exact hk _ _ _ ⟨by rw [List.flatMap_append, List.flatMap_singleton, List.length_append]; exact h1, h.2.1.grown h2 h.2.2 (fun k hk => (h.1.lt k hk).1), Nat.le_trans h.2.2 h2.size⟩ h2
end

section
variable {w : World} {ops : Array Oper} {o : Oper} {a : Act} {Q : Exit → Act → World → Prop}
/-- a change appended, and where the row lies then -/
theorem wp_chgL {rest : List Oper} (hgd : o.guard = none) (s x : Operand)
    (ho : o.op = .call { callee := .builtin .append, args := #[s, x], argTypes := #[31, 31] })
    (B : Nat) (w0 : World) (u : Value) (l : List Ug) (f : Ug) (hs : a.eval s = u) (h : OU B w0 w u l) (p : Nat) (hx : a.eval x = .slice (some ⟨p, 0, none⟩) 1 1)
    (hnews : w.rangeAt p 0 (ucs f)) (hlen : l.length + 1 ≤ 4000000)
    (hk : ∀ g cap w', OU B w0 w' (.slice (some ⟨g, 0, none⟩) (l.length + 1) cap) (l ++ [f]) → w.grownBy w' u.ownBlock → (u.ownBlock = some g ∨ g = w.heap.size) → wpList Tryz.prog ops Q rest (a.put o.dst (.slice (some ⟨g, 0, none⟩) (l.length + 1) cap)) w') : wpList Tryz.prog ops Q (o :: rest) a w := by
  obtain ⟨i0, hi, hz0, hz1, hz2⟩ := info_parts Tryz.infoChange
  refine wpList_append_lies w hgd s x 31 ho B 102 i0 _ 3 40 Tryz.underlying31 hi hz0 hz1 hz2 rfl (by decide) u l.length (l.flatMap ucs) hs h.1 ⟨p, 0, none⟩ 1 1 (ucs f) hx rfl ?_
    (fun u hu => by simp [ucs] at hu; rcases hu with rfl | rfl | rfl <;> rfl) (by omega) (by unfold maxLen; omega) (by omega) h.2.2 w.heap.size rfl ?_
  · intro j u hj
    have := hnews j u hj
    rw [Addr.add_mid]
    exact this
  · intro g cap w' h1 h2 h3 _
    exact hk _ _ _ ⟨by rw [List.flatMap_append, List.flatMap_singleton, List.length_append]; exact h1, h.2.1.grown h2 h.2.2 (fun k hk => (h.1.lt k hk).1), Nat.le_trans h.2.2 h2.size⟩ h2 h3

theorem flat_cellsU {w : World} {g o : Nat} {l : List Ug} (h : ∀ j (h : j < l.length), w.rangeAt g (o + j * 3) (ucs l[j])) : ∀ j u, (l.flatMap ucs)[j]? = some u → w.cell? ⟨g, o + j, none⟩ = some u := by
  intro j u hu
  have hl := flat_len (k := 3) (enc := ucs) (fun x => ucs_len x) l
  have hj : j < l.length * 3 := by rw [← hl]; exact (List.getElem?_eq_some_iff.1 hu).1
  have e : j = j / 3 * 3 + j % 3 := by omega
  have hq : j / 3 < l.length := by omega
  rw [e, flat_at (k := 3) (enc := ucs) (fun x => ucs_len x) l (j / 3) hq (j % 3) (by omega)] at hu
  have := h (j / 3) hq (j % 3) u hu
  rw [e, ← Nat.add_assoc]
  exact this
theorem oneU {l : List Ug} : ∀ u ∈ l.flatMap ucs, u.oneCell' = true := fun u hu => by
  obtain ⟨f, _, hf⟩ := List.mem_flatMap.1 hu
  simp [ucs] at hf
  rcases hf with rfl | rfl | rfl <;> rfl
/-- a whole row of changes appended to an empty one -/
theorem wp_rowU {rest : List Oper} (hgd : o.guard = none) (s x : Operand)
    (ho : o.op = .call { callee := .builtin .append, args := #[s, x], argTypes := #[31, 31] })
    (B : Nat) (w0 : World) (g : Nat) (hs : a.eval s = .slice (some ⟨g, 0, none⟩) 0 0) (h : OU B w0 w (.slice (some ⟨g, 0, none⟩) 0 0) []) (p : Option Addr) (ga oa cap : Nat) (l : List Ug) (hx : a.eval x = .slice p l.length cap) (hv : RS 3 ucs w (.slice p l.length cap) ga oa l) (hnil : p = none → cap = 0)
    (hk : ∀ v' w', OU B w0 w' v' l → wpList Tryz.prog ops Q rest (a.put o.dst v') w') : wpList Tryz.prog ops Q (o :: rest) a w := by
  obtain ⟨i0, hi, hz0, hz1, hz2⟩ := info_parts Tryz.infoChange
  obtain ⟨p', cap', ev, hlen, hA, hc⟩ := hv
  obtain ⟨rfl, rfl⟩ : p = p' ∧ cap = cap' := by simpa using ev
  by_cases h0 : l.length = 0
  · have : l = [] := List.length_eq_zero_iff.1 h0
    subst this
    refine wpList_append_fits_any w hgd s x 31 ho B 102 i0 3 Tryz.underlying31 hi hz1 g 0 0 [] hs h.1 p 0 cap [] hx rfl (fun e => ⟨rfl, hnil e⟩) (fun ad _ j u hu => by simp at hu) (fun u hu => by cases hu) (by omega) ?_
    intro w' h1 h2
    exact hk _ _ ⟨by simpa using h1, h.2.1.grown h2 h.2.2 (fun k hk => (h.1.lt k hk).1), Nat.le_trans h.2.2 h2.size⟩
  · obtain ⟨rfl, hg⟩ := hA (by omega)
    refine wpList_append_own _ hgd s x 31 ho B 102 i0 _ 3 40 Tryz.underlying31 hi hz0 hz1 hz2 rfl (by decide) _ 0 [] hs h.1 ⟨ga, oa, none⟩ l.length cap (l.flatMap ucs) hx (flat_len (k := 3) (enc := ucs) (fun x => ucs_len x) l) ?_ oneU (by unfold maxLen; omega) (by omega) h.2.2 ?_
    · intro j u hj
      have := flat_cellsU hc j u hj
      rw [Addr.add_mid]
      exact this
    · intro v' w' h1 h2 _
      exact hk _ _ ⟨by simpa using h1, h.2.1.grown h2 h.2.2 (fun k hk => (h.1.lt k hk).1), Nat.le_trans h.2.2 h2.size⟩
end


theorem grown_belU {w w2 w' : World} {row : Option Nat} (h : w.grownBy w2 row) (hb : Below w.heap.size w2 w') : w.grownBy w' row :=
  ⟨hb.os.trans h.os, hb.tape.trans h.tape, hb.output.trans h.output, Nat.le_trans h.size hb.size, fun k hk hne => (hb.block k hk).trans (h.block k hk hne)⟩
theorem OU.self {Bx : Nat} {w0 w : World} {u : Value} {l : List Ug} (h : OU Bx w0 w u l) : OU Bx w w u l := ⟨h.1, Below.refl _ _, h.2.2⟩

/-- its capacity is no less than its length -/
theorem OU.cap {B : Nat} {w0 w : World} {v : Value} {l : List Ug} (h : OU B w0 w v l) : ∀ a n c, v = .slice a n c → n ≤ c := by
  intro a n c e
  rcases h.1.2 with ⟨hv, hn⟩ | ⟨g, cap, cur, hv, _, _, hnc, _⟩
  · rw [hv] at e
    simp at e
    omega
  · rw [hv] at e
    simp at e
    omega
end Go.Proofs.YthlgohplljcgfaaGreatDoor
/-
  A change taken in: the program's answer.
-/
namespace Go.Proofs.YthlgohplljcgfaaGreatDoor
open Go.RowKit Go.BigFrame Go.Sort
set_option linter.unusedVariables false
set_option linter.unusedSimpArgs false

/-- a server's box beside its own row of changes -/
theorem ou_box {B : Nat} {w0 w : World} {u : Value} {l : List Ug} {p : Nat} {cs : List Value} (h : OU B w0 w u l) (hb : Box 35 w p cs) : some p ≠ u.ownBlock := fun e => h.ne hb (by decide) e.symm

section
variable {w : World} {ops : Array Oper} {o : Oper} {a : Act} {K : Act → World → Prop} {Q : Exit → Act → World → Prop}
theorem step_chgL {E : Prop} (hgd : o.guard = none) (s x : Operand)
    (ho : o.op = .call { callee := .builtin .append, args := #[s, x], argTypes := #[31, 31] })
    (B : Nat) (w0 : World) (u : Value) (l : List Ug) (f : Ug) (hs : a.eval s = u) (h : OU B w0 w u l) (p : Nat) (hx : a.eval x = .slice (some ⟨p, 0, none⟩) 1 1)
    (hnews : w.rangeAt p 0 (ucs f)) (hlen : l.length + 1 ≤ 1000000)
    (hk : ∀ g cap w', OU B w0 w' (.slice (some ⟨g, 0, none⟩) (l.length + 1) cap) (l ++ [f]) → w.grownBy w' u.ownBlock → (u.ownBlock = some g ∨ g = w.heap.size) → K (a.put o.dst (.slice (some ⟨g, 0, none⟩) (l.length + 1) cap)) w') : if Region.wanted o (yielded ops a.tmps) = true then Oper.wp Tryz.prog o a w K Q else E := by
  obtain ⟨i0, hi, hz0, hz1, hz2⟩ := info_parts Tryz.infoChange
  refine step_append_lies w hgd s x 31 ho B 102 i0 _ 3 40 Tryz.underlying31 hi hz0 hz1 hz2 rfl (by decide) u l.length (l.flatMap ucs) hs h.1 ⟨p, 0, none⟩ 1 1 (ucs f) hx rfl ?_
    (fun u hu => by simp [ucs] at hu; rcases hu with rfl | rfl | rfl <;> rfl) (by omega) (by unfold maxLen; omega) (by omega) h.2.2 w.heap.size rfl ?_
  · intro j u hj
    have := hnews j u hj
    rw [Addr.add_mid]
    exact this
  · intro g cap w' h1 h2 h3 _
    exact hk _ _ _ ⟨by rw [List.flatMap_append, List.flatMap_singleton, List.length_append]; exact h1, h.2.1.grown h2 h.2.2 (fun k hk => (h.1.lt k hk).1), Nat.le_trans h.2.2 h2.size⟩ h2 h3
end
theorem some_ge {B p : Nat} {o : Option Nat} (h : B ≤ p) (n : some p ≠ o) : ∀ q, some p = some q → B ≤ q ∧ o ≠ some q := by
  intro q hq
  have e : p = q := by simpa using hq
  subst e
  exact ⟨h, fun e => n e.symm⟩

set_option maxRecDepth 100000 in
set_option maxHeartbeats 1000000 in
theorem take_any (y : Ug) (U : List Ug) (B : Nat) (p : Nat) (x0 x1 x2 x3 x4 x5 x6 vu x8 x9 x10 : Value) (w : World) (h : Box 35 w p [x0, x1, x2, x3, x4, x5, x6, vu, x8, x9, x10]) (w0 : World) (hU : OU B w0 w vu U) (hl : U.length < 1000000) (hn : y.n.size ≤ 1048576) (hv : y.v.size ≤ 1048576) :
    Calls Tryz.prog 114 #[.pointer (some ⟨p, 0, none⟩), .agg #[.int .i64 y.i, .string y.n, .string y.v]] w fun e w' => e = .returned (.tuple #[]) ∧ ∃ w1 w2 g c, Below w.heap.size w w1 ∧ w1.grownBy w2 vu.ownBlock ∧ (vu.ownBlock = some g ∨ g = w1.heap.size) ∧ OU B w0 w2 (.slice (some ⟨g, 0, none⟩) (U.length + 1) c) (U ++ [y]) ∧ w' = w2.setCell ⟨p, 7, none⟩ (.slice (some ⟨g, 0, none⟩) (U.length + 1) c) := by
  obtain ⟨i, n, v⟩ := y
  simp only at hn hv ⊢
  obtain ⟨au, cu, rfl⟩ := hU.shape
  have hb0 : Below w.heap.size w (w.alloc (.cells #[.int .i64 i, .string n, .string v] 102)) := below_alloc _ _
  have hu0 : BU (w.alloc (.cells #[.int .i64 i, .string n, .string v] 102)) w.heap.size ⟨i, n, v⟩ := BU.new w ⟨i, n, v⟩
  have HC : Hid (∀ W, Below w.heap.size w W → Box 35 W p [x0, x1, x2, x3, x4, x5, x6, .slice au U.length cu, x8, x9, x10] ∧ OU B w0 W (.slice au U.length cu) U) := fun W hW => ⟨h.later hW, hU.later hW⟩
  have HCP : Hid (∀ W, Calls Tryz.prog 128 #[.agg #[.int .i64 i, .string n, .string v]] W fun e w' => e = .returned (.agg #[.int .i64 i, .string n, .string v]) ∧ Below W.heap.size W w') := fun W => uCopied_any ⟨i, n, v⟩ W hn hv
  have HL : Hid (U.length + 1 ≤ 1000000) := hl
  go_enter Tryz.func114, Tryz.ntmps114
  go_wp2
  generalize (w.alloc (.cells #[.int .i64 i, .string n, .string v] 102)) = W0 at *
  have c0 : W0.drew.cell? ⟨w.heap.size, 0, none⟩ = some (.int .i64 i) := hu0.c0
  have c1 : W0.drew.cell? ⟨w.heap.size, 1, none⟩ = some (.string n) := hu0.c1
  have c2 : W0.drew.cell? ⟨w.heap.size, 2, none⟩ = some (.string v) := hu0.c2
  have z7 : W0.drew.cell? ⟨p, 7, none⟩ = some (.slice au U.length cu) := (HC.out _ hb0).1.at 7 _ rfl
  have HB0 : Hid (Below w.heap.size w W0.drew) := hb0.drew
  clear hb0 hu0 h hU hl hn hv
  go_region_law ((first
    | (refine step_chgL rfl _ _ rfl B w0 (.slice au U.length cu) U ⟨i, n, v⟩ (by rfl) HW2.out.2 _ (by rfl) HRG.out HL.out ?_; intro g5 cap5 w5 ho5 hg5 hl5; have HB5 : Hid (Box 35 w5 p [x0, x1, x2, x3, x4, x5, x6, .slice au U.length cu, x8, x9, x10]) := (HW2.out.1.grown hg5 (ou_box HW2.out.2 HW2.out.1)); have e1 := HB5.out.at 7 _ rfl; have f1 := HB5.out.fz 7)
    | (go_simp; go_at_call 128; refine (HCP.out _).mono ?_; rintro e w3 ⟨rfl, hb3⟩; have HB3 : Hid (Below w.heap.size w w3) := (HB0.out.trans (hb3.mono HB0.out.size)); have HB4 : Hid (Below w.heap.size w (w3.alloc (.cells #[.int .i64 i, .string n, .string v] 102))) := (HB3.out.trans ((below_alloc w3 _).mono HB3.out.size)); have k3 : w3.cell? ⟨p, 7, none⟩ = some (.slice au U.length cu) := ((HC.out _ HB3.out).1.at 7 _ rfl); have k4 : (w3.alloc (.cells #[.int .i64 i, .string n, .string v] 102)).cell? ⟨p, 7, none⟩ = some (.slice au U.length cu) := ((HC.out _ HB4.out).1.at 7 _ rfl); have HRG : Hid ((w3.alloc (.cells #[.int .i64 i, .string n, .string v] 102)).rangeAt w3.heap.size 0 (ucs ⟨i, n, v⟩)) := (range_new w3 [.int .i64 i, .string n, .string v] 102); have HW2 : Hid (_ ∧ _) := (HC.out _ HB4.out))))
  all_goals
    have HF : Hid (∃ w1 w2 g c, Below w.heap.size w w1 ∧ w1.grownBy w2 (Value.slice au U.length cu).ownBlock ∧ ((Value.slice au U.length cu).ownBlock = some g ∨ g = w1.heap.size) ∧ OU B w0 w2 (.slice (some ⟨g, 0, none⟩) (U.length + 1) c) (U ++ [⟨i, n, v⟩]) ∧ (w5.setCell ⟨p, 7, none⟩ (.slice (some ⟨g5, 0, none⟩) (U.length + 1) cap5)) = w2.setCell ⟨p, 7, none⟩ (.slice (some ⟨g, 0, none⟩) (U.length + 1) c)) := ⟨_, w5, g5, cap5, HB4.out, hg5, hl5, ho5, rfl⟩
    clear HB4 HB3 hg5 ho5 hl5 HB5 e1 f1 k3 k4 HRG HW2 HC HCP HL c0 c1 c2 z7 hb3 HB0
    go_wp2
    refine bodyPost_end (results_none rfl _ _ _) rfl ?_
    exact ⟨rfl, HF.out⟩

end Go.Proofs.YthlgohplljcgfaaGreatDoor
/-
  A server under way: its own rows, and what is never written any more.
-/
namespace Go.Proofs.YthlgohplljcgfaaGreatDoor
open Go.RowKit Go.BigFrame Go.Sort
set_option linter.unusedVariables false
set_option linter.unusedSimpArgs false

/-- none of the blocks that are written -/
def FreeS (p : Nat) (vv vt va : Value) (q : Nat) : Prop := q ≠ p ∧ vv.ownBlock ≠ some q ∧ vt.ownBlock ≠ some q ∧ va.ownBlock ≠ some q
/-- what is never written any more: the disk's row, and those of the leaves -/
structure FzS (W : World) (p : Nat) (vd vv vt va : Value) (L : Sr) (V : List Value) (G : Nat → Nat) (gd : Nat) : Prop where
  len : V.length = L.P.length
  rows : ∀ j (h : j < L.P.length) (hv : j < V.length), (∃ a c, V[j] = .slice a L.P[j].length c) ∧ RW 2 lcs W V[j] (G j) L.P[j] ∧ (0 < L.P[j].length → FreeS p vv vt va (G j) ∧ (0 < L.F.length → G j ≠ gd))
  dist : ∀ i j (hi : i < L.P.length) (hj : j < L.P.length), i ≠ j → 0 < L.P[i].length → 0 < L.P[j].length → G i ≠ G j
  disk : RW 3 fcs W vd gd L.F
  free : 0 < L.F.length → FreeS p vv vt va gd
theorem FzS.move {W W' : World} {p : Nat} {vd vv vt va vv' vt' va' : Value} {L : Sr} {V : List Value} {G : Nat → Nat} {gd : Nat} (h : FzS W p vd vv vt va L V G gd) (hs : W.heap.size ≤ W'.heap.size) (hk : ∀ q, q < W.heap.size → FreeS p vv vt va q → W'.heap[q]? = W.heap[q]?) (hf : ∀ q, q < W.heap.size → FreeS p vv vt va q → FreeS p vv' vt' va' q) : FzS W' p vd vv' vt' va' L V G gd where
  len := h.len
  rows := fun j hj hv => by
    obtain ⟨h1, h2, h3⟩ := h.rows j hj hv
    exact ⟨h1, h2.kept hs (fun hp => hk _ (h2.lt hp) (h3 hp).1), fun hp => ⟨hf _ (h2.lt hp) (h3 hp).1, (h3 hp).2⟩⟩
  dist := h.dist
  disk := h.disk.kept hs (fun hp => hk _ (h.disk.lt hp) (h.free hp))
  free := fun hp => hf _ (h.disk.lt hp) (h.free hp)
theorem FzS.more {W : World} {p : Nat} {vd vv vt va : Value} {L : Sr} {V : List Value} {G : Nat → Nat} {gd : Nat} (h : FzS W p vd vv vt va L V G gd) {a : Option Addr} {c g : Nat} {M : List Le} (hr : RW 2 lcs W (.slice a M.length c) g M) (hf : 0 < M.length → FreeS p vv vt va g) (hg : ∀ q, q = g → (∃ j, ∃ (h : j < L.P.length), 0 < L.P[j].length ∧ q = G j) ∨ (0 < L.F.length ∧ q = gd) → False) : FzS W p vd vv vt va { L with P := L.P ++ [M] } (V ++ [.slice a M.length c]) (fun j => if j = L.P.length then g else G j) gd where
  len := by simp [h.len]
  rows := fun j hj hv => by
    simp only [List.length_append, List.length_cons, List.length_nil] at hj
    have hl := h.len
    by_cases e : j < L.P.length
    · obtain ⟨h1, h2, h3⟩ := h.rows j e (by omega)
      have e1 : (L.P ++ [M])[j]'(by simp; omega) = L.P[j] := List.getElem_append_left e
      have e2 : (V ++ [.slice a M.length c])[j]'hv = V[j]'(by omega) := List.getElem_append_left (by omega)
      have e3 : ¬ j = L.P.length := by omega
      simp only [e1, e2, e3, if_false]
      exact ⟨h1, h2, h3⟩
    · obtain rfl : j = L.P.length := by omega
      have e1 : (L.P ++ [M])[L.P.length]'(by simp) = M := by simp
      have e2 : (V ++ [.slice a M.length c])[L.P.length]'hv = .slice a M.length c := by
        rw [List.getElem_append_right (by omega)]
        simp [hl]
      simp only [e1, e2, if_true]
      exact ⟨⟨a, c, rfl⟩, hr, fun hp => ⟨hf hp, fun hq e => hg _ rfl (.inr ⟨hq, e⟩)⟩⟩
  dist := fun i j hi hj hij pi pj => by
    simp only [List.length_append, List.length_cons, List.length_nil] at hi hj
    by_cases ei : i < L.P.length
    · have e1 : (L.P ++ [M])[i]'(by simp; omega) = L.P[i] := List.getElem_append_left ei
      rw [e1] at pi
      by_cases ej : j < L.P.length
      · have e2 : (L.P ++ [M])[j]'(by simp; omega) = L.P[j] := List.getElem_append_left ej
        rw [e2] at pj
        simp only [show ¬ i = L.P.length by omega, show ¬ j = L.P.length by omega, if_false]
        exact h.dist i j ei ej hij pi pj
      · simp only [show ¬ i = L.P.length by omega, show j = L.P.length by omega, if_false, if_true]
        exact fun e => hg _ rfl (.inl ⟨i, ei, pi, e.symm⟩)
    · have ej : j < L.P.length := by omega
      have e2 : (L.P ++ [M])[j]'(by simp; omega) = L.P[j] := List.getElem_append_left ej
      rw [e2] at pj
      simp only [show i = L.P.length by omega, show ¬ j = L.P.length by omega, if_false, if_true]
      exact fun e => hg _ rfl (.inl ⟨j, ej, pj, e⟩)
  disk := h.disk
  free := h.free

/-- a row of slices of leaves that a call owns -/
def vcs (v : Value) : List Value := [v]
def OVw (B : Nat) (w0 w : World) (v : Value) (l : List Value) : Prop := OR 59 1 vcs B w0 w v l
def OZw (B : Nat) (w0 w : World) (v : Value) (l : List Int) : Prop := OR 3 1 ics B w0 w v l
theorem infoLsJ : (Tryz.prog.info? 59).map (fun i => (i.zero, i.size, i.bytes)) = some (some (.slice none 0 0), 1, 24) := by kernel_rfl
section
variable {w : World} {ops : Array Oper} {o : Oper} {a : Act} {K : Act → World → Prop} {Q : Exit → Act → World → Prop}
theorem step_view {E : Prop} (hgd : o.guard = none) (s x : Operand)
    (ho : o.op = .call { callee := .builtin .append, args := #[s, x], argTypes := #[29, 29] })
    (B : Nat) (w0 : World) (u : Value) (l : List Value) (t : Value) (hs : a.eval s = u) (h : OVw B w0 w u l) (p : Nat) (hx : a.eval x = .slice (some ⟨p, 0, none⟩) 1 1)
    (hnews : w.cell? ⟨p, 0, none⟩ = some t) (h1 : t.oneCell' = true) (hlen : l.length + 1 ≤ 1000000)
    (hk : ∀ g cap w', OVw B w0 w' (.slice (some ⟨g, 0, none⟩) (l.length + 1) cap) (l ++ [t]) → w.grownBy w' u.ownBlock → (u.ownBlock = some g ∨ g = w.heap.size) → K (a.put o.dst (.slice (some ⟨g, 0, none⟩) (l.length + 1) cap)) w') : if Region.wanted o (yielded ops a.tmps) = true then Oper.wp Tryz.prog o a w K Q else E := by
  obtain ⟨i0, hi, hz0, hz1, hz2⟩ := info_parts infoLsJ
  refine step_append_lies w hgd s x 29 ho B 59 i0 (.slice none 0 0) 1 24 Tryz.underlying29 hi hz0 hz1 hz2 rfl (by decide) u l.length (l.flatMap vcs) hs h.1 ⟨p, 0, none⟩ 1 1 (vcs t) hx rfl ?_
    (fun u hu => by simp [vcs] at hu; subst hu; exact h1) (by omega) (by unfold maxLen; omega) (by omega) h.2.2 w.heap.size rfl ?_
  · intro j u hj
    have := range1 hnews j u hj
    rw [Addr.add_mid]
    exact this
  · intro g cap w' h1 h2 h3 _
    exact hk _ _ _ ⟨by rw [List.flatMap_append, List.flatMap_singleton, List.length_append]; exact h1, h.2.1.grown h2 h.2.2 (fun k hk => (h.1.lt k hk).1), Nat.le_trans h.2.2 h2.size⟩ h2 h3
theorem step_num {E : Prop} (hgd : o.guard = none) (s x : Operand)
    (ho : o.op = .call { callee := .builtin .append, args := #[s, x], argTypes := #[30, 30] })
    (B : Nat) (w0 : World) (u : Value) (l : List Int) (f : Int) (hs : a.eval s = u) (h : OZw B w0 w u l) (p : Nat) (hx : a.eval x = .slice (some ⟨p, 0, none⟩) 1 1)
    (hnews : w.cell? ⟨p, 0, none⟩ = some (.int .i64 f)) (hlen : l.length + 1 ≤ 1000000)
    (hk : ∀ g cap w', OZw B w0 w' (.slice (some ⟨g, 0, none⟩) (l.length + 1) cap) (l ++ [f]) → w.grownBy w' u.ownBlock → (u.ownBlock = some g ∨ g = w.heap.size) → K (a.put o.dst (.slice (some ⟨g, 0, none⟩) (l.length + 1) cap)) w') : if Region.wanted o (yielded ops a.tmps) = true then Oper.wp Tryz.prog o a w K Q else E := by
  obtain ⟨i0, hi, hz0, hz1, hz2⟩ := info_parts Tryz.info3
  refine step_append_lies w hgd s x 30 ho B 3 i0 _ 1 8 Tryz.underlying30 hi hz0 hz1 hz2 rfl (by decide) u l.length (l.flatMap ics) hs h.1 ⟨p, 0, none⟩ 1 1 (ics f) hx rfl ?_
    (fun u hu => by simp [ics] at hu; subst hu; rfl) (by omega) (by unfold maxLen; omega) (by omega) h.2.2 w.heap.size rfl ?_
  · intro j u hj
    have := range1 hnews j u hj
    rw [Addr.add_mid]
    exact this
  · intro g cap w' h1 h2 h3 _
    exact hk _ _ _ ⟨by rw [List.flatMap_append, List.flatMap_singleton, List.length_append]; exact h1, h.2.1.grown h2 h.2.2 (fun k hk => (h.1.lt k hk).1), Nat.le_trans h.2.2 h2.size⟩ h2 h3
end
theorem own_apartJ {B C e f n m k l : Nat} {w : World} {u v : Value} {xs ys : List Value} (h : w.ownsRow B e k u n xs) (h' : w.ownsRow C f l v m ys) (hne : e ≠ f) : ∀ g, u.ownBlock = some g → v.ownBlock ≠ some g := by
  intro g hg hg'
  rcases h.2 with ⟨rfl, _⟩ | ⟨p, cap, cur, rfl, _, hp, _⟩
  · simp [Value.ownBlock] at hg
  · rcases h'.2 with ⟨rfl, _⟩ | ⟨q, cap', cur', rfl, _, hq, _⟩
    · simp [Value.ownBlock] at hg'
    · simp [Value.ownBlock] at hg hg'
      subst hg
      subst hg'
      rw [hp] at hq
      simp at hq
      exact hne hq.2
theorem own_box {T k B n p : Nat} {w : World} {u : Value} {xs cs : List Value} (h : w.ownsRow B T k u n xs) (hb : Box 35 w p cs) (hT : T ≠ 35) : some p ≠ u.ownBlock := by
  intro e
  rcases h.2 with ⟨rfl, _⟩ | ⟨g, cap, cur, rfl, _, hg, _⟩
  · simp [Value.ownBlock] at e
  · have : p = g := by simpa [Value.ownBlock] using e
    subst this
    unfold Box at hb
    rw [hg] at hb
    simp at hb
    exact hT hb.2

/-- the types of the blocks that are written -/
def BadT (T : Nat) : Prop := T = 35 ∨ T = 102 ∨ T = 3 ∨ T = 59
/-- whatever block of another type was there is as it was -/
def KpB (w0 W : World) : Prop := ∀ (q T : Nat) (cs : Array Value) (fz : Nat × Nat), ¬ BadT T → w0.heap[q]? = some (.cells cs T fz) → W.heap[q]? = some (.cells cs T fz)
theorem KpB.refl (w : World) : KpB w w := fun _ _ _ _ _ h => h
theorem KpB.later {w0 W W' : World} (h : KpB w0 W) (hb : Below W.heap.size W W') : KpB w0 W' := fun q T cs fz hT hq => by
  have h1 := h q T cs fz hT hq
  rw [hb.block q (Array.getElem?_eq_some_iff.1 h1).1]
  exact h1
theorem KpB.grown {w0 W W' : World} {row : Option Nat} (h : KpB w0 W) (hg : W.grownBy W' row) (hr : ∀ g, row = some g → ∃ cs T fz, BadT T ∧ W.heap[g]? = some (.cells cs T fz)) : KpB w0 W' := fun q T cs fz hT hq => by
  have h1 := h q T cs fz hT hq
  rw [hg.block q (Array.getElem?_eq_some_iff.1 h1).1 (fun e => ?_)]
  · exact h1
  · obtain ⟨cs', T', fz', hb, hx⟩ := hr q e.symm
    rw [hx] at h1
    simp at h1
    exact hT (h1.2.1 ▸ hb)
theorem own_bad {T k B n : Nat} {w : World} {u : Value} {xs : List Value} (h : w.ownsRow B T k u n xs) (hT : BadT T) : ∀ g, u.ownBlock = some g → ∃ cs T fz, BadT T ∧ w.heap[g]? = some (.cells cs T fz) := by
  intro g hg
  rcases h.2 with ⟨rfl, _⟩ | ⟨q, cap, cur, rfl, _, hq, _⟩
  · simp [Value.ownBlock] at hg
  · have : q = g := by simpa [Value.ownBlock] using hg
    subst this
    exact ⟨_, _, _, hT, hq⟩
theorem box_bad {w : World} {p : Nat} {cs : List Value} (h : Box 35 w p cs) : ∀ g, some p = some g → ∃ cs T fz, BadT T ∧ w.heap[g]? = some (.cells cs T fz) := by
  intro g hg
  have : p = g := by simpa using hg
  subst this
  exact ⟨_, _, _, .inl rfl, h⟩

/-- a server under way in the box at p -/
structure SvO (B : Nat) (w0 W : World) (p : Nat) (n : Sn) (vd vv vt va : Value) (L : Sr) (V : List Value) (G : Nat → Nat) (gd : Nat) : Prop where
  bp : B ≤ p
  box : Box 35 W p [.int .i64 n.a, .int .i64 n.k, .bool n.u, vd, .int .i64 n.e, vv, vt, va, .int .i64 n.r0, .int .i64 n.r1, .int .i64 n.r2]
  ou : OU B w0 W va L.U
  oi : OZw B w0 W vt L.I
  ov : OVw B w0 W vv V
  fz : FzS W p vd vv vt va L V G gd
  kp : KpB w0 W
  gp : ∀ j (h : j < L.P.length), 0 < L.P[j].length → B ≤ G j
  gf : 0 < L.F.length → B ≤ gd
theorem SvO.later {B : Nat} {w0 W W' : World} {p : Nat} {n : Sn} {vd vv vt va : Value} {L : Sr} {V : List Value} {G : Nat → Nat} {gd : Nat} (h : SvO B w0 W p n vd vv vt va L V G gd) (hb : Below W.heap.size W W') : SvO B w0 W' p n vd vv vt va L V G gd :=
  ⟨h.bp, h.box.later hb, h.ou.later hb, OR.later h.oi hb, OR.later h.ov hb, h.fz.move hb.size (fun q hq _ => hb.block q hq) (fun q _ hq => hq), h.kp.later hb, h.gp, h.gf⟩

theorem own_new {v : Value} {g n c q N : Nat} (hl : v.ownBlock = some g ∨ g = N) (hq : q < N) (h : v.ownBlock ≠ some q) : (Value.slice (some ⟨g, 0, none⟩) n c).ownBlock ≠ some q := by
  intro e
  have e2 : g = q := by simpa [Value.ownBlock] using e
  subst e2
  rcases hl with hl | hl
  · exact h hl
  · omega

/-- a view more, and the box holds the row -/
theorem SvO.view {B : Nat} {w0 W W5 : World} {p : Nat} {n : Sn} {vd vv vt va : Value} {L : Sr} {V : List Value} {G : Nat → Nat} {gd : Nat} (h : SvO B w0 W p n vd vv vt va L V G gd) {a : Option Addr} {c g : Nat} {M : List Le} (hr : RW 2 lcs W (.slice a M.length c) g M) (hf : 0 < M.length → FreeS p vv vt va g) (hg : ∀ q, q = g → (∃ j, ∃ (h : j < L.P.length), 0 < L.P[j].length ∧ q = G j) ∨ (0 < L.F.length ∧ q = gd) → False) (hgB : 0 < M.length → B ≤ g)
    {g5 c5 : Nat} (ho : OVw B w0 W5 (.slice (some ⟨g5, 0, none⟩) (V.length + 1) c5) (V ++ [.slice a M.length c])) (hg5 : W.grownBy W5 vv.ownBlock) (hl : vv.ownBlock = some g5 ∨ g5 = W.heap.size) :
    SvO B w0 (W5.setCell ⟨p, 5, none⟩ (.slice (some ⟨g5, 0, none⟩) (V.length + 1) c5)) p n vd (.slice (some ⟨g5, 0, none⟩) (V.length + 1) c5) vt va { L with P := L.P ++ [M] } (V ++ [.slice a M.length c]) (fun j => if j = L.P.length then g else G j) gd := by
  have nb : some p ≠ vv.ownBlock := own_box h.ov.1 h.box (by decide)
  have hb5 : Box 35 W5 p _ := h.box.grown hg5 nb
  have hlt := h.ov.1.lt
  have hO : ∀ {T k m : Nat} {v : Value} {xs : List Value}, W.ownsRow B T k v m xs → T ≠ 59 → ∀ q, vv.ownBlock = some q → B ≤ q ∧ v.ownBlock ≠ some q := fun h' hT q hq => ⟨(h.ov.1.lt q hq).1, own_apartJ h.ov.1 h' (Ne.symm hT) q hq⟩
  have ou5 : OU B w0 W5 va L.U := OR.grown h.ou hg5 (hO h.ou.1 (by decide))
  have oi5 : OZw B w0 W5 vt L.I := OR.grown h.oi hg5 (hO h.oi.1 (by decide))
  have hs := grown_setC W5 p 5 (.slice (some ⟨g5, 0, none⟩) (V.length + 1) c5)
  refine ⟨h.bp, hb5.set 5 _, OR.grown ou5 hs (some_ge h.bp (own_box ou5.1 hb5 (by decide))), OR.grown oi5 hs (some_ge h.bp (own_box oi5.1 hb5 (by decide))), OR.grown ho hs (some_ge h.bp (own_box ho.1 hb5 (by decide))), ?_, (h.kp.grown hg5 (own_bad h.ov.1 (.inr (.inr (.inr rfl))))).grown hs (box_bad hb5), fun j hj hp => ?_, h.gf⟩
  rotate_left
  · simp only [List.length_append, List.length_cons, List.length_nil] at hj
    by_cases e : j < L.P.length
    · have e1 : (L.P ++ [M])[j]'(by simp; omega) = L.P[j] := List.getElem_append_left e
      simp only [e1] at hp
      simp only [show ¬ j = L.P.length by omega, if_false]
      exact h.gp j e hp
    · obtain rfl : j = L.P.length := by omega
      simp only [if_true]
      exact hgB (by simpa using hp)
  refine (h.fz.more hr hf hg).move (Nat.le_trans hg5.size hs.size) (fun q hq hF => ?_) (fun q hq hF => ⟨hF.1, own_new hl hq hF.2.1, hF.2.2.1, hF.2.2.2⟩)
  exact (hs.block q (Nat.lt_of_lt_of_le hq hg5.size) (fun e => hF.1 (by simpa using e))).trans (hg5.block q hq (fun e => hF.2.1 e.symm))
/-- a number more -/
theorem SvO.num {B : Nat} {w0 W W5 : World} {p : Nat} {n : Sn} {vd vv vt va : Value} {L : Sr} {V : List Value} {G : Nat → Nat} {gd : Nat} (h : SvO B w0 W p n vd vv vt va L V G gd) {f : Int}
    {g5 c5 : Nat} (ho : OZw B w0 W5 (.slice (some ⟨g5, 0, none⟩) (L.I.length + 1) c5) (L.I ++ [f])) (hg5 : W.grownBy W5 vt.ownBlock) (hl : vt.ownBlock = some g5 ∨ g5 = W.heap.size) :
    SvO B w0 (W5.setCell ⟨p, 6, none⟩ (.slice (some ⟨g5, 0, none⟩) (L.I.length + 1) c5)) p n vd vv (.slice (some ⟨g5, 0, none⟩) (L.I.length + 1) c5) va { L with I := L.I ++ [f] } V G gd := by
  have nb : some p ≠ vt.ownBlock := own_box h.oi.1 h.box (by decide)
  have hb5 : Box 35 W5 p _ := h.box.grown hg5 nb
  have hO : ∀ {T k m : Nat} {v : Value} {xs : List Value}, W.ownsRow B T k v m xs → T ≠ 3 → ∀ q, vt.ownBlock = some q → B ≤ q ∧ v.ownBlock ≠ some q := fun h' hT q hq => ⟨(h.oi.1.lt q hq).1, own_apartJ h.oi.1 h' (Ne.symm hT) q hq⟩
  have ou5 : OU B w0 W5 va L.U := OR.grown h.ou hg5 (hO h.ou.1 (by decide))
  have ov5 : OVw B w0 W5 vv V := OR.grown h.ov hg5 (hO h.ov.1 (by decide))
  have hs := grown_setC W5 p 6 (.slice (some ⟨g5, 0, none⟩) (L.I.length + 1) c5)
  refine ⟨h.bp, hb5.set 6 _, OR.grown ou5 hs (some_ge h.bp (own_box ou5.1 hb5 (by decide))), OR.grown ho hs (some_ge h.bp (own_box ho.1 hb5 (by decide))), OR.grown ov5 hs (some_ge h.bp (own_box ov5.1 hb5 (by decide))), ?_, (h.kp.grown hg5 (own_bad h.oi.1 (.inr (.inr (.inl rfl))))).grown hs (box_bad hb5), h.gp, h.gf⟩
  have hz : FzS W p vd vv vt va { L with I := L.I ++ [f] } V G gd := ⟨h.fz.len, h.fz.rows, h.fz.dist, h.fz.disk, h.fz.free⟩
  refine hz.move (Nat.le_trans hg5.size hs.size) (fun q hq hF => ?_) (fun q hq hF => ⟨hF.1, hF.2.1, own_new hl hq hF.2.2.1, hF.2.2.2⟩)
  exact (hs.block q (Nat.lt_of_lt_of_le hq hg5.size) (fun e => hF.1 (by simpa using e))).trans (hg5.block q hq (fun e => hF.2.2.1 e.symm))
/-- a change more -/
theorem SvO.chg {B : Nat} {w0 W W5 : World} {p : Nat} {n : Sn} {vd vv vt va : Value} {L : Sr} {V : List Value} {G : Nat → Nat} {gd : Nat} (h : SvO B w0 W p n vd vv vt va L V G gd) {y : Ug}
    {g5 c5 : Nat} (ho : OU B w0 W5 (.slice (some ⟨g5, 0, none⟩) (L.U.length + 1) c5) (L.U ++ [y])) (hg5 : W.grownBy W5 va.ownBlock) (hl : va.ownBlock = some g5 ∨ g5 = W.heap.size) :
    SvO B w0 (W5.setCell ⟨p, 7, none⟩ (.slice (some ⟨g5, 0, none⟩) (L.U.length + 1) c5)) p n vd vv vt (.slice (some ⟨g5, 0, none⟩) (L.U.length + 1) c5) { L with U := L.U ++ [y] } V G gd := by
  have nb : some p ≠ va.ownBlock := own_box h.ou.1 h.box (by decide)
  have hb5 : Box 35 W5 p _ := h.box.grown hg5 nb
  have hO : ∀ {T k m : Nat} {v : Value} {xs : List Value}, W.ownsRow B T k v m xs → T ≠ 102 → ∀ q, va.ownBlock = some q → B ≤ q ∧ v.ownBlock ≠ some q := fun h' hT q hq => ⟨(h.ou.1.lt q hq).1, own_apartJ h.ou.1 h' (Ne.symm hT) q hq⟩
  have oi5 : OZw B w0 W5 vt L.I := OR.grown h.oi hg5 (hO h.oi.1 (by decide))
  have ov5 : OVw B w0 W5 vv V := OR.grown h.ov hg5 (hO h.ov.1 (by decide))
  have hs := grown_setC W5 p 7 (.slice (some ⟨g5, 0, none⟩) (L.U.length + 1) c5)
  refine ⟨h.bp, hb5.set 7 _, OR.grown ho hs (some_ge h.bp (own_box ho.1 hb5 (by decide))), OR.grown oi5 hs (some_ge h.bp (own_box oi5.1 hb5 (by decide))), OR.grown ov5 hs (some_ge h.bp (own_box ov5.1 hb5 (by decide))), ?_, (h.kp.grown hg5 (own_bad h.ou.1 (.inr (.inl rfl)))).grown hs (box_bad hb5), h.gp, h.gf⟩
  have hz : FzS W p vd vv vt va { L with U := L.U ++ [y] } V G gd := ⟨h.fz.len, h.fz.rows, h.fz.dist, h.fz.disk, h.fz.free⟩
  refine hz.move (Nat.le_trans hg5.size hs.size) (fun q hq hF => ?_) (fun q hq hF => ⟨hF.1, hF.2.1, hF.2.2.1, own_new hl hq hF.2.2.2⟩)
  exact (hs.block q (Nat.lt_of_lt_of_le hq hg5.size) (fun e => hF.1 (by simpa using e))).trans (hg5.block q hq (fun e => hF.2.2.2 e.symm))
/-- a number of it set -/
theorem SvO.keepR {B : Nat} {w0 W W' : World} {p : Nat} {n n' : Sn} {vd vv vt va : Value} {L : Sr} {V : List Value} {G : Nat → Nat} {gd : Nat} (h : SvO B w0 W p n vd vv vt va L V G gd) (hs : W.grownBy W' (some p)) (hb : Box 35 W' p [.int .i64 n'.a, .int .i64 n'.k, .bool n'.u, vd, .int .i64 n'.e, vv, vt, va, .int .i64 n'.r0, .int .i64 n'.r1, .int .i64 n'.r2]) : SvO B w0 W' p n' vd vv vt va L V G gd :=
  ⟨h.bp, hb, OR.grown h.ou hs (some_ge h.bp (own_box h.ou.1 h.box (by decide))), OR.grown h.oi hs (some_ge h.bp (own_box h.oi.1 h.box (by decide))), OR.grown h.ov hs (some_ge h.bp (own_box h.ov.1 h.box (by decide))), h.fz.move hs.size (fun q hq hF => hs.block q hq (fun e => hF.1 (by simpa using e))) (fun q _ hq => hq), h.kp.grown hs (box_bad h.box), h.gp, h.gf⟩

end Go.Proofs.YthlgohplljcgfaaGreatDoor
