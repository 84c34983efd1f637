/-
  Texts laid together: Jcs.
-/
import Derived.Test.YthlgohplljcgfaaGreatDoorPkERS1
import Derived.Test.YthlgohplljcgfaaGreatDoorPkEFS0
import Derived.Deep.CutRange
/-
  A server copied: the specification's answer.
-/
namespace Go.Proofs.YthlgohplljcgfaaGreatDoor
open Go.RowKit Go.BigFrame Go.Sort
set_option linter.unusedVariables false
set_option linter.unusedSimpArgs false

/-- a whole row appended to an empty one, within a drawn region -/
theorem step_rowLX {w : World} {ops : Array Oper} {o : Oper} {a : Act} {K : Act → World → Prop} {Q : Exit → Act → World → Prop} {E : Prop} (hgd : o.guard = none) (s x : Operand)
    (ho : o.op = .call { callee := .builtin .append, args := #[s, x], argTypes := #[59, 59] })
    (B : Nat) (w0 : World) (g : Nat) (hs : a.eval s = .slice (some ⟨g, 0, none⟩) 0 0) (h : OR 134 2 lcs B w0 w (.slice (some ⟨g, 0, none⟩) 0 0) ([] : List Le)) (g2 cap : Nat) (l : List Le) (hx : a.eval x = .slice (some ⟨g2, 0, none⟩) l.length cap)
    (hrs : RS 2 lcs w (.slice (some ⟨g2, 0, none⟩) l.length cap) g2 0 l)
    (hk : ∀ a' c' w', OR 134 2 lcs B w0 w' (.slice a' l.length c') l → K (a.put o.dst (.slice a' l.length c')) w') : if Region.wanted o (yielded ops a.tmps) = true then Oper.wp Tryz.prog o a w K Q else E := by
  have hw : Region.wanted o (yielded ops a.tmps) = true := by simp [Region.wanted, hgd]
  rw [if_pos hw]
  obtain ⟨i0, hi, hz0, hz1, hz2⟩ := info_parts Tryz.infoLeaf
  obtain ⟨a', c', hv, hl, h0, hc⟩ := hrs
  refine wp_append_own w s x 59 ho B 134 i0 _ 2 32 Tryz.underlying59 hi hz0 hz1 hz2 rfl (by decide) _ 0 [] hs h.1 ⟨g2, 0, none⟩ l.length cap (l.flatMap lcs) hx (flat_len (k := 2) (enc := lcs) (fun x => lcs_len x) l) ?_
    (fun u hu => by
      obtain ⟨f, _, hf⟩ := List.mem_flatMap.1 hu
      simp [lcs] at hf
      rcases hf with rfl | rfl <;> rfl) (by unfold maxLen; omega) (by omega) h.2.2 ?_
  · intro j u hj
    have := flat_cellsG (k := 2) (enc := lcs) (fun x => lcs_len x) (by omega) hc j u hj
    rw [Addr.add_mid]
    exact this
  · intro v' w' h1 h2 _
    have hO : OR 134 2 lcs B w0 w' v' l := ⟨by simpa using h1, h.2.1.grown h2 h.2.2 (fun k hk => (h.1.lt k hk).1), Nat.le_trans h.2.2 h2.size⟩
    obtain ⟨a2, c2, rfl⟩ := OR.shapeJ hO
    exact hk _ _ _ hO

/-- m rows are copied: what lies where -/
def LcI (w : World) (b1 : Nat) (P : List (List Le)) (X : World) (vv : Value) (V : List Value) (g : Nat → Nat) : Prop :=
  V.length = P.length ∧ b1 ≤ X.heap.size ∧ OVw w.heap.size w X vv V ∧ (∀ q, vv.ownBlock = some q → b1 ≤ q) ∧ (∀ j (h : j < P.length) (hV : j < V.length), RW 2 lcs X V[j] (g j) P[j] ∧ V[j].oneCell' = true ∧ (0 < P[j].length → b1 ≤ g j ∧ vv.ownBlock ≠ some (g j))) ∧ ∀ i j (hi : i < P.length) (hj : j < P.length), i ≠ j → 0 < P[i].length → 0 < P[j].length → g i ≠ g j
theorem LcI.later {w X X' : World} {b1 : Nat} {P : List (List Le)} {vv : Value} {V : List Value} {g : Nat → Nat} (h : LcI w b1 P X vv V g) (hb : Below X.heap.size X X') : LcI w b1 P X' vv V g := by
  obtain ⟨h1, h2, h3, h4, h5, h6⟩ := h
  exact ⟨h1, Nat.le_trans h2 hb.size, OR.later h3 hb, h4, fun j hj hV => ⟨(h5 j hj hV).1.later hb, (h5 j hj hV).2⟩, h6⟩
/-- a box ahead of the rows is written -/
theorem LcI.box {w X X' : World} {b1 q : Nat} {P : List (List Le)} {vv : Value} {V : List Value} {g : Nat → Nat} (h : LcI w b1 P X vv V g) (hg : X.grownBy X' (some q)) (hq : q < b1) (hw : w.heap.size ≤ q) : LcI w b1 P X' vv V g := by
  obtain ⟨h1, h2, h3, h4, h5, h6⟩ := h
  exact ⟨h1, Nat.le_trans h2 hg.size, OR.grown h3 hg (fun p hp => by
    have : q = p := by simpa using hp
    subst this
    exact ⟨hw, fun e => by have := h4 _ e; omega⟩), h4, fun j hj hV => ⟨(h5 j hj hV).1.grown hg (fun hp => by have := ((h5 j hj hV).2.2 hp).1; simp; omega), (h5 j hj hV).2⟩, h6⟩
/-- one row more -/
theorem LcI.add {w X X3 X4 : World} {b1 : Nat} {P : List (List Le)} {vv : Value} {V : List Value} {g : Nat → Nat} (h : LcI w b1 P X vv V g) (hb : Below X.heap.size X X3) {M : List Le} {t : Value} {gm : Nat} (hr : RW 2 lcs X3 t gm M) (hgm : X.heap.size ≤ gm) (ht : t.oneCell' = true) {g4 c4 : Nat}
    (ho : OVw w.heap.size w X4 (.slice (some ⟨g4, 0, none⟩) (V.length + 1) c4) (V ++ [t])) (hg : X3.grownBy X4 vv.ownBlock) (hl : vv.ownBlock = some g4 ∨ g4 = X3.heap.size) : LcI w b1 (P ++ [M]) X4 (.slice (some ⟨g4, 0, none⟩) (V.length + 1) c4) (V ++ [t]) (fun j => if j = P.length then gm else g j) := by
  obtain ⟨h1, h2, h3, h4, h5, h6⟩ := h
  have hs3 := hb.size
  have hs4 := hg.size
  have hlt : ∀ q, vv.ownBlock = some q → q < X.heap.size := fun q hq => (h3.1.lt q hq).2
  have hrl := hr.lt
  have hold : ∀ j (hj : j < P.length), 0 < P[j].length → g j < X.heap.size := fun j hj hp => (h5 j hj (by omega)).1.lt hp
  have h3l : ∀ j (hj : j < P.length) (hV : j < V.length), RW 2 lcs X4 V[j] (g j) P[j] := fun j hj hV => ((h5 j hj hV).1.later hb).grown hg (fun hp => fun e => ((h5 j hj hV).2.2 hp).2 e.symm)
  have hg4 : b1 ≤ g4 := by
    rcases hl with e | e
    · exact h4 _ e
    · omega
  refine ⟨by simp [h1], by omega, ho, fun q hq => ?_, fun j hj hV => ?_, fun i j hi hj hij pi pj => ?_⟩
  · have : g4 = q := by simpa [Value.ownBlock] using hq
    omega
  · by_cases e : j < P.length
    · have e1 : (P ++ [M])[j]'hj = P[j] := List.getElem_append_left e
      have e2 : (V ++ [t])[j]'hV = V[j]'(by omega) := List.getElem_append_left (by omega)
      simp only [e1, e2, show ¬ j = P.length by omega, if_false]
      refine ⟨h3l j e (by omega), (h5 j e (by omega)).2.1, fun hp => ⟨((h5 j e (by omega)).2.2 hp).1, fun hq => ?_⟩⟩
      have hq' : g4 = g j := by simpa [Value.ownBlock] using hq
      rcases hl with e4 | e4
      · exact ((h5 j e (by omega)).2.2 hp).2 (by rw [e4, hq'])
      · have := hold j e hp; omega
    · obtain rfl : j = P.length := by simp at hj; omega
      have e1 : (P ++ [M])[P.length]'hj = M := by simp
      have e2 : (V ++ [t])[P.length]'hV = t := by simp [← h1]
      simp only [e1, e2, if_true]
      refine ⟨hr.grown hg (fun hp => fun e => ?_), ht, fun hp => ⟨by omega, fun hq => ?_⟩⟩
      · have := hlt gm e.symm; omega
      · have hq' : g4 = gm := by simpa [Value.ownBlock] using hq
        rcases hl with e4 | e4
        · have := hlt g4 e4; omega
        · have := hrl hp; omega
  · have hM : ∀ k (hk : k < (P ++ [M]).length), k ≠ P.length → ∃ hk2 : k < P.length, (P ++ [M])[k] = P[k] := fun k hk hne => ⟨by simp at hk; omega, List.getElem_append_left (by simp at hk; omega)⟩
    by_cases ei : i = P.length
    · subst ei
      obtain ⟨hj2, ej⟩ := hM j hj (fun e => hij e.symm)
      rw [ej] at pj
      simp only [if_true, show ¬ j = P.length by omega, if_false]
      have := hold j hj2 pj
      omega
    · obtain ⟨hi2, e1⟩ := hM i hi ei
      rw [e1] at pi
      by_cases ej : j = P.length
      · subst ej
        simp only [if_true, show ¬ i = P.length by omega, if_false]
        have := hold i hi2 pi
        omega
      · obtain ⟨hj2, e2⟩ := hM j hj ej
        rw [e2] at pj
        simp only [show ¬ i = P.length by omega, show ¬ j = P.length by omega, if_false]
        exact h6 i j hi2 hj2 hij pi pj

theorem step_viewX {w : World} {ops : Array Oper} {o : Oper} {a : Act} {K : Act → World → Prop} {Q : Exit → Act → World → Prop} {E : Prop} (hgd : o.guard = none) (s x : Operand)
    (ho : o.op = .call { callee := .builtin .append, args := #[s, x], argTypes := #[29, 29] })
    (B : Nat) (w0 : World) (u : Value) (l : List Value) (t : Value) (hs : a.eval s = u) (h : OVw B w0 w u l) (p : Nat) (hx : a.eval x = .slice (some ⟨p, 0, none⟩) 1 1)
    (hnews : w.cell? ⟨p, 0, none⟩ = some t) (h1 : t.oneCell' = true) (hlen : l.length + 1 ≤ 1200000)
    (hk : ∀ g cap w', OVw B w0 w' (.slice (some ⟨g, 0, none⟩) (l.length + 1) cap) (l ++ [t]) → w.grownBy w' u.ownBlock → (u.ownBlock = some g ∨ g = w.heap.size) → K (a.put o.dst (.slice (some ⟨g, 0, none⟩) (l.length + 1) cap)) w') : if Region.wanted o (yielded ops a.tmps) = true then Oper.wp Tryz.prog o a w K Q else E := by
  obtain ⟨i0, hi, hz0, hz1, hz2⟩ := info_parts infoLsJ
  refine step_append_lies w hgd s x 29 ho B 59 i0 (.slice none 0 0) 1 24 Tryz.underlying29 hi hz0 hz1 hz2 rfl (by decide) u l.length (l.flatMap vcs) hs h.1 ⟨p, 0, none⟩ 1 1 (vcs t) hx rfl ?_
    (fun u hu => by simp [vcs] at hu; subst hu; exact h1) (by omega) (by unfold maxLen; omega) (by omega) h.2.2 w.heap.size rfl ?_
  · intro j u hj
    have := range1 hnews j u hj
    rw [Addr.add_mid]
    exact this
  · intro g cap w' h1 h2 h3 _
    exact hk _ _ _ ⟨by rw [List.flatMap_append, List.flatMap_singleton, List.length_append]; exact h1, h.2.1.grown h2 h.2.2 (fun k hk => (h.1.lt k hk).1), Nat.le_trans h.2.2 h2.size⟩ h2 h3

theorem LcI.vw {w X : World} {b1 : Nat} {P : List (List Le)} {vv : Value} {V : List Value} {g : Nat → Nat} (h : LcI w b1 P X vv V g) (hP : P.length ≤ 1100000) : ∃ go VV, VW X vv go VV g P ∧ (0 < P.length → vv.ownBlock = some go) := by
  obtain ⟨h1, h2, h3, h4, h5, h6⟩ := h
  obtain ⟨go, hr, _, ho⟩ := OR.rw (k := 1) (enc := vcs) (fun _ => rfl) (by omega) h3 (by omega)
  obtain ⟨⟨a, c, hv, hl, h0, hc⟩, _⟩ := hr
  have hob : 0 < P.length → vv.ownBlock = some go := fun hp => by
    obtain ⟨e, _⟩ := h0 (by omega)
    subst e
    subst hv
    rfl
  refine ⟨go, fun j => V.getD j (.slice none 0 0), ⟨⟨a, c, by rw [hv, h1], hP, fun hp => h0 (by omega)⟩, fun j hj => ?_, fun i j hi hj hij pi pj => h6 i j hi hj hij pi pj⟩, hob⟩
  have hV : j < V.length := by omega
  have e : V.getD j (.slice none 0 0) = V[j] := by simp [List.getD, List.getElem?_eq_getElem hV]
  simp only [e]
  refine ⟨?_, (h5 j hj hV).1, fun hp => fun e2 => ((h5 j hj hV).2.2 hp).2 (by rw [hob (by omega), e2])⟩
  have := hc j hV 0 V[j] (by simp [vcs])
  simpa using this
theorem svd_of2 {lo hi w1 w2 w3 w4 : Nat} {W : World} {vd vv vt va : Value} {go : Nat} {V : Nat → Value} {g : Nat → Nat} {L : Sr} {g1 g3 g4 : Nat} (hv : VW W vv go V g L.P) (bo : 0 < L.P.length → w1 ≤ go ∧ go < w2) (bg : ∀ j (h : j < L.P.length), 0 < L.P[j].length → w1 ≤ g j ∧ g j < w2) (h1 : RW 3 fcs W vd g1 L.F) (l1 : lo ≤ g1) (u1 : 0 < L.F.length → g1 < w1) (h3 : IW W vt g3 L.I) (l3 : w2 ≤ g3) (u3 : 0 < L.I.length → g3 < w3) (h4 : RW 3 ucs W va g4 L.U) (l4 : w3 ≤ g4) (u4 : 0 < L.U.length → g4 < w4) (a1 : lo ≤ w1) (a2 : w1 ≤ w2) (a3 : w2 ≤ w3) (a4 : w3 ≤ w4) (a5 : w4 ≤ hi) :
    SvD lo hi W vd vv vt va L := by
  refine ⟨g1, go, V, g, g3, g4, h1, hv, h3, h4, fun h => ?_, fun h => ?_, fun j hj h => ?_, fun h => ?_, fun h => ?_, fun h k => ?_, fun h j hj k => ?_, fun h k => ?_, fun h k => ?_, fun h k => ?_, fun h k => ?_, fun j hj h k => ?_, fun j hj h k => ?_, fun h k => ?_⟩
  · have := u1 h; omega
  · have := bo h; omega
  · have := bg j hj h; omega
  · have := u3 h; omega
  · have := u4 h; omega
  · have := u1 h; have := bo k; omega
  · have := u1 h; have := bg j hj k; omega
  · have := u1 h; omega
  · have := u1 h; omega
  · have := bo h; omega
  · have := bo h; omega
  · have := bg j hj h; omega
  · have := bg j hj h; omega
  · have := u3 h; omega

set_option maxRecDepth 100000 in
set_option maxHeartbeats 4000000 in
theorem sCopy_any (n : Sn) (gd gv ga : Nat) (b3 : Option Addr) (e3 : Nat) (G : List Nat) (L : Sr) (B : Nat) (w : World) (hM : SvS w (.slice (some ⟨gd, 0, none⟩) L.F.length L.F.length) (.slice (some ⟨gv, 0, none⟩) L.P.length L.P.length) (.slice b3 L.I.length e3) (.slice (some ⟨ga, 0, none⟩) L.U.length L.U.length) L) (hX : XW B w gv G L.P) (hn3 : b3 ≠ none) (hsm : L.sm) :
    Calls Tryz.prog 54 #[.agg #[.int .i64 n.a, .int .i64 n.k, .bool n.u, .slice (some ⟨gd, 0, none⟩) L.F.length L.F.length, .int .i64 n.e, .slice (some ⟨gv, 0, none⟩) L.P.length L.P.length, .slice b3 L.I.length e3, .slice (some ⟨ga, 0, none⟩) L.U.length L.U.length, .int .i64 n.r0, .int .i64 n.r1, .int .i64 n.r2]] w (SvA n L w) := by
  have HM : Hid (∀ W, Below w.heap.size w W → SvS W (.slice (some ⟨gd, 0, none⟩) L.F.length L.F.length) (.slice (some ⟨gv, 0, none⟩) L.P.length L.P.length) (.slice b3 L.I.length e3) (.slice (some ⟨ga, 0, none⟩) L.U.length L.U.length) L) := fun W hW => hM.later hW
  have HXW : Hid (∀ W, Below w.heap.size w W → XW B W gv G L.P) := fun W hW => hX.later hW
  have HU : Hid (Below w.heap.size w (((w.alloc (.cells #[.int .i64 n.a, .int .i64 n.k, .bool n.u, .slice (some ⟨gd, 0, none⟩) L.F.length L.F.length, .int .i64 n.e, .slice (some ⟨gv, 0, none⟩) L.P.length L.P.length, .slice b3 L.I.length e3, .slice (some ⟨ga, 0, none⟩) L.U.length L.U.length, .int .i64 n.r0, .int .i64 n.r1, .int .i64 n.r2] 35)).alloc (.cells #[.int .i64 0, .int .i64 0, .bool false, .slice none 0 0, .int .i64 0, .slice none 0 0, .slice none 0 0, .slice none 0 0, .int .i64 0, .int .i64 0, .int .i64 0] 35)).alloc (.cells #[.int .i64 n.a, .int .i64 n.k, .bool n.u, .slice (some ⟨gd, 0, none⟩) L.F.length L.F.length, .int .i64 n.e, .slice (some ⟨gv, 0, none⟩) L.P.length L.P.length, .slice b3 L.I.length e3, .slice (some ⟨ga, 0, none⟩) L.U.length L.U.length, .int .i64 n.r0, .int .i64 n.r1, .int .i64 n.r2] 35)) ∧ Box 35 (((w.alloc (.cells #[.int .i64 n.a, .int .i64 n.k, .bool n.u, .slice (some ⟨gd, 0, none⟩) L.F.length L.F.length, .int .i64 n.e, .slice (some ⟨gv, 0, none⟩) L.P.length L.P.length, .slice b3 L.I.length e3, .slice (some ⟨ga, 0, none⟩) L.U.length L.U.length, .int .i64 n.r0, .int .i64 n.r1, .int .i64 n.r2] 35)).alloc (.cells #[.int .i64 0, .int .i64 0, .bool false, .slice none 0 0, .int .i64 0, .slice none 0 0, .slice none 0 0, .slice none 0 0, .int .i64 0, .int .i64 0, .int .i64 0] 35)).alloc (.cells #[.int .i64 n.a, .int .i64 n.k, .bool n.u, .slice (some ⟨gd, 0, none⟩) L.F.length L.F.length, .int .i64 n.e, .slice (some ⟨gv, 0, none⟩) L.P.length L.P.length, .slice b3 L.I.length e3, .slice (some ⟨ga, 0, none⟩) L.U.length L.U.length, .int .i64 n.r0, .int .i64 n.r1, .int .i64 n.r2] 35)) w.heap.size [.int .i64 n.a, .int .i64 n.k, .bool n.u, .slice (some ⟨gd, 0, none⟩) L.F.length L.F.length, .int .i64 n.e, .slice (some ⟨gv, 0, none⟩) L.P.length L.P.length, .slice b3 L.I.length e3, .slice (some ⟨ga, 0, none⟩) L.U.length L.U.length, .int .i64 n.r0, .int .i64 n.r1, .int .i64 n.r2] ∧ Box 35 (((w.alloc (.cells #[.int .i64 n.a, .int .i64 n.k, .bool n.u, .slice (some ⟨gd, 0, none⟩) L.F.length L.F.length, .int .i64 n.e, .slice (some ⟨gv, 0, none⟩) L.P.length L.P.length, .slice b3 L.I.length e3, .slice (some ⟨ga, 0, none⟩) L.U.length L.U.length, .int .i64 n.r0, .int .i64 n.r1, .int .i64 n.r2] 35)).alloc (.cells #[.int .i64 0, .int .i64 0, .bool false, .slice none 0 0, .int .i64 0, .slice none 0 0, .slice none 0 0, .slice none 0 0, .int .i64 0, .int .i64 0, .int .i64 0] 35)).alloc (.cells #[.int .i64 n.a, .int .i64 n.k, .bool n.u, .slice (some ⟨gd, 0, none⟩) L.F.length L.F.length, .int .i64 n.e, .slice (some ⟨gv, 0, none⟩) L.P.length L.P.length, .slice b3 L.I.length e3, .slice (some ⟨ga, 0, none⟩) L.U.length L.U.length, .int .i64 n.r0, .int .i64 n.r1, .int .i64 n.r2] 35)) (w.heap.size + 1) [.int .i64 0, .int .i64 0, .bool false, .slice none 0 0, .int .i64 0, .slice none 0 0, .slice none 0 0, .slice none 0 0, .int .i64 0, .int .i64 0, .int .i64 0] ∧ Box 35 (((w.alloc (.cells #[.int .i64 n.a, .int .i64 n.k, .bool n.u, .slice (some ⟨gd, 0, none⟩) L.F.length L.F.length, .int .i64 n.e, .slice (some ⟨gv, 0, none⟩) L.P.length L.P.length, .slice b3 L.I.length e3, .slice (some ⟨ga, 0, none⟩) L.U.length L.U.length, .int .i64 n.r0, .int .i64 n.r1, .int .i64 n.r2] 35)).alloc (.cells #[.int .i64 0, .int .i64 0, .bool false, .slice none 0 0, .int .i64 0, .slice none 0 0, .slice none 0 0, .slice none 0 0, .int .i64 0, .int .i64 0, .int .i64 0] 35)).alloc (.cells #[.int .i64 n.a, .int .i64 n.k, .bool n.u, .slice (some ⟨gd, 0, none⟩) L.F.length L.F.length, .int .i64 n.e, .slice (some ⟨gv, 0, none⟩) L.P.length L.P.length, .slice b3 L.I.length e3, .slice (some ⟨ga, 0, none⟩) L.U.length L.U.length, .int .i64 n.r0, .int .i64 n.r1, .int .i64 n.r2] 35)) (w.heap.size + 1 + 1) [.int .i64 n.a, .int .i64 n.k, .bool n.u, .slice (some ⟨gd, 0, none⟩) L.F.length L.F.length, .int .i64 n.e, .slice (some ⟨gv, 0, none⟩) L.P.length L.P.length, .slice b3 L.I.length e3, .slice (some ⟨ga, 0, none⟩) L.U.length L.U.length, .int .i64 n.r0, .int .i64 n.r1, .int .i64 n.r2] ∧ (((w.alloc (.cells #[.int .i64 n.a, .int .i64 n.k, .bool n.u, .slice (some ⟨gd, 0, none⟩) L.F.length L.F.length, .int .i64 n.e, .slice (some ⟨gv, 0, none⟩) L.P.length L.P.length, .slice b3 L.I.length e3, .slice (some ⟨ga, 0, none⟩) L.U.length L.U.length, .int .i64 n.r0, .int .i64 n.r1, .int .i64 n.r2] 35)).alloc (.cells #[.int .i64 0, .int .i64 0, .bool false, .slice none 0 0, .int .i64 0, .slice none 0 0, .slice none 0 0, .slice none 0 0, .int .i64 0, .int .i64 0, .int .i64 0] 35)).alloc (.cells #[.int .i64 n.a, .int .i64 n.k, .bool n.u, .slice (some ⟨gd, 0, none⟩) L.F.length L.F.length, .int .i64 n.e, .slice (some ⟨gv, 0, none⟩) L.P.length L.P.length, .slice b3 L.I.length e3, .slice (some ⟨ga, 0, none⟩) L.U.length L.U.length, .int .i64 n.r0, .int .i64 n.r1, .int .i64 n.r2] 35)).heap.size = w.heap.size + 1 + 1 + 1) := by
    have h2 : Box 35 ((w.alloc (.cells #[.int .i64 n.a, .int .i64 n.k, .bool n.u, .slice (some ⟨gd, 0, none⟩) L.F.length L.F.length, .int .i64 n.e, .slice (some ⟨gv, 0, none⟩) L.P.length L.P.length, .slice b3 L.I.length e3, .slice (some ⟨ga, 0, none⟩) L.U.length L.U.length, .int .i64 n.r0, .int .i64 n.r1, .int .i64 n.r2] 35)).alloc (.cells #[.int .i64 0, .int .i64 0, .bool false, .slice none 0 0, .int .i64 0, .slice none 0 0, .slice none 0 0, .slice none 0 0, .int .i64 0, .int .i64 0, .int .i64 0] 35)) (w.heap.size + 1) [.int .i64 0, .int .i64 0, .bool false, .slice none 0 0, .int .i64 0, .slice none 0 0, .slice none 0 0, .slice none 0 0, .int .i64 0, .int .i64 0, .int .i64 0] := alloc_fst _ _ (by simp)
    exact ⟨(below_two _ _ _).alloc (below_two _ _ _).size _, ((Box.new _ w [.int .i64 n.a, .int .i64 n.k, .bool n.u, .slice (some ⟨gd, 0, none⟩) L.F.length L.F.length, .int .i64 n.e, .slice (some ⟨gv, 0, none⟩) L.P.length L.P.length, .slice b3 L.I.length e3, .slice (some ⟨ga, 0, none⟩) L.U.length L.U.length, .int .i64 n.r0, .int .i64 n.r1, .int .i64 n.r2]).later (below_alloc _ _)).later (below_alloc _ _), h2.later (below_alloc _ _), alloc_fst _ _ (by simp), by simp⟩
  obtain ⟨gdf, odf, hdf⟩ := (HM.out ((((w.alloc (.cells #[.int .i64 n.a, .int .i64 n.k, .bool n.u, .slice (some ⟨gd, 0, none⟩) L.F.length L.F.length, .int .i64 n.e, .slice (some ⟨gv, 0, none⟩) L.P.length L.P.length, .slice b3 L.I.length e3, .slice (some ⟨ga, 0, none⟩) L.U.length L.U.length, .int .i64 n.r0, .int .i64 n.r1, .int .i64 n.r2] 35)).alloc (.cells #[.int .i64 0, .int .i64 0, .bool false, .slice none 0 0, .int .i64 0, .slice none 0 0, .slice none 0 0, .slice none 0 0, .int .i64 0, .int .i64 0, .int .i64 0] 35)).alloc (.cells #[.int .i64 n.a, .int .i64 n.k, .bool n.u, .slice (some ⟨gd, 0, none⟩) L.F.length L.F.length, .int .i64 n.e, .slice (some ⟨gv, 0, none⟩) L.P.length L.P.length, .slice b3 L.I.length e3, .slice (some ⟨ga, 0, none⟩) L.U.length L.U.length, .int .i64 n.r0, .int .i64 n.r1, .int .i64 n.r2] 35)).alloc (.cells #[] 108)) (HU.out.1.alloc HU.out.1.size _)).1
  have HDF : Hid (RS 3 fcs ((((w.alloc (.cells #[.int .i64 n.a, .int .i64 n.k, .bool n.u, .slice (some ⟨gd, 0, none⟩) L.F.length L.F.length, .int .i64 n.e, .slice (some ⟨gv, 0, none⟩) L.P.length L.P.length, .slice b3 L.I.length e3, .slice (some ⟨ga, 0, none⟩) L.U.length L.U.length, .int .i64 n.r0, .int .i64 n.r1, .int .i64 n.r2] 35)).alloc (.cells #[.int .i64 0, .int .i64 0, .bool false, .slice none 0 0, .int .i64 0, .slice none 0 0, .slice none 0 0, .slice none 0 0, .int .i64 0, .int .i64 0, .int .i64 0] 35)).alloc (.cells #[.int .i64 n.a, .int .i64 n.k, .bool n.u, .slice (some ⟨gd, 0, none⟩) L.F.length L.F.length, .int .i64 n.e, .slice (some ⟨gv, 0, none⟩) L.P.length L.P.length, .slice b3 L.I.length e3, .slice (some ⟨ga, 0, none⟩) L.U.length L.U.length, .int .i64 n.r0, .int .i64 n.r1, .int .i64 n.r2] 35)).alloc (.cells #[] 108)) (.slice (some ⟨gd, 0, none⟩) L.F.length L.F.length) gdf odf L.F) := hdf
  have HN : Hid (OF (((w.alloc (.cells #[.int .i64 n.a, .int .i64 n.k, .bool n.u, .slice (some ⟨gd, 0, none⟩) L.F.length L.F.length, .int .i64 n.e, .slice (some ⟨gv, 0, none⟩) L.P.length L.P.length, .slice b3 L.I.length e3, .slice (some ⟨ga, 0, none⟩) L.U.length L.U.length, .int .i64 n.r0, .int .i64 n.r1, .int .i64 n.r2] 35)).alloc (.cells #[.int .i64 0, .int .i64 0, .bool false, .slice none 0 0, .int .i64 0, .slice none 0 0, .slice none 0 0, .slice none 0 0, .int .i64 0, .int .i64 0, .int .i64 0] 35)).alloc (.cells #[.int .i64 n.a, .int .i64 n.k, .bool n.u, .slice (some ⟨gd, 0, none⟩) L.F.length L.F.length, .int .i64 n.e, .slice (some ⟨gv, 0, none⟩) L.P.length L.P.length, .slice b3 L.I.length e3, .slice (some ⟨ga, 0, none⟩) L.U.length L.U.length, .int .i64 n.r0, .int .i64 n.r1, .int .i64 n.r2] 35)).heap.size (((w.alloc (.cells #[.int .i64 n.a, .int .i64 n.k, .bool n.u, .slice (some ⟨gd, 0, none⟩) L.F.length L.F.length, .int .i64 n.e, .slice (some ⟨gv, 0, none⟩) L.P.length L.P.length, .slice b3 L.I.length e3, .slice (some ⟨ga, 0, none⟩) L.U.length L.U.length, .int .i64 n.r0, .int .i64 n.r1, .int .i64 n.r2] 35)).alloc (.cells #[.int .i64 0, .int .i64 0, .bool false, .slice none 0 0, .int .i64 0, .slice none 0 0, .slice none 0 0, .slice none 0 0, .int .i64 0, .int .i64 0, .int .i64 0] 35)).alloc (.cells #[.int .i64 n.a, .int .i64 n.k, .bool n.u, .slice (some ⟨gd, 0, none⟩) L.F.length L.F.length, .int .i64 n.e, .slice (some ⟨gv, 0, none⟩) L.P.length L.P.length, .slice b3 L.I.length e3, .slice (some ⟨ga, 0, none⟩) L.U.length L.U.length, .int .i64 n.r0, .int .i64 n.r1, .int .i64 n.r2] 35)) ((((w.alloc (.cells #[.int .i64 n.a, .int .i64 n.k, .bool n.u, .slice (some ⟨gd, 0, none⟩) L.F.length L.F.length, .int .i64 n.e, .slice (some ⟨gv, 0, none⟩) L.P.length L.P.length, .slice b3 L.I.length e3, .slice (some ⟨ga, 0, none⟩) L.U.length L.U.length, .int .i64 n.r0, .int .i64 n.r1, .int .i64 n.r2] 35)).alloc (.cells #[.int .i64 0, .int .i64 0, .bool false, .slice none 0 0, .int .i64 0, .slice none 0 0, .slice none 0 0, .slice none 0 0, .int .i64 0, .int .i64 0, .int .i64 0] 35)).alloc (.cells #[.int .i64 n.a, .int .i64 n.k, .bool n.u, .slice (some ⟨gd, 0, none⟩) L.F.length L.F.length, .int .i64 n.e, .slice (some ⟨gv, 0, none⟩) L.P.length L.P.length, .slice b3 L.I.length e3, .slice (some ⟨ga, 0, none⟩) L.U.length L.U.length, .int .i64 n.r0, .int .i64 n.r1, .int .i64 n.r2] 35)).alloc (.cells #[] 108)) (.slice (some ⟨(((w.alloc (.cells #[.int .i64 n.a, .int .i64 n.k, .bool n.u, .slice (some ⟨gd, 0, none⟩) L.F.length L.F.length, .int .i64 n.e, .slice (some ⟨gv, 0, none⟩) L.P.length L.P.length, .slice b3 L.I.length e3, .slice (some ⟨ga, 0, none⟩) L.U.length L.U.length, .int .i64 n.r0, .int .i64 n.r1, .int .i64 n.r2] 35)).alloc (.cells #[.int .i64 0, .int .i64 0, .bool false, .slice none 0 0, .int .i64 0, .slice none 0 0, .slice none 0 0, .slice none 0 0, .int .i64 0, .int .i64 0, .int .i64 0] 35)).alloc (.cells #[.int .i64 n.a, .int .i64 n.k, .bool n.u, .slice (some ⟨gd, 0, none⟩) L.F.length L.F.length, .int .i64 n.e, .slice (some ⟨gv, 0, none⟩) L.P.length L.P.length, .slice b3 L.I.length e3, .slice (some ⟨ga, 0, none⟩) L.U.length L.U.length, .int .i64 n.r0, .int .i64 n.r1, .int .i64 n.r2] 35)).heap.size, 0, none⟩) 0 0) []) := ⟨World.ownsRow_made (((w.alloc (.cells #[.int .i64 n.a, .int .i64 n.k, .bool n.u, .slice (some ⟨gd, 0, none⟩) L.F.length L.F.length, .int .i64 n.e, .slice (some ⟨gv, 0, none⟩) L.P.length L.P.length, .slice b3 L.I.length e3, .slice (some ⟨ga, 0, none⟩) L.U.length L.U.length, .int .i64 n.r0, .int .i64 n.r1, .int .i64 n.r2] 35)).alloc (.cells #[.int .i64 0, .int .i64 0, .bool false, .slice none 0 0, .int .i64 0, .slice none 0 0, .slice none 0 0, .slice none 0 0, .int .i64 0, .int .i64 0, .int .i64 0] 35)).alloc (.cells #[.int .i64 n.a, .int .i64 n.k, .bool n.u, .slice (some ⟨gd, 0, none⟩) L.F.length L.F.length, .int .i64 n.e, .slice (some ⟨gv, 0, none⟩) L.P.length L.P.length, .slice b3 L.I.length e3, .slice (some ⟨ga, 0, none⟩) L.U.length L.U.length, .int .i64 n.r0, .int .i64 n.r1, .int .i64 n.r2] 35)) #[] 0 (Nat.le_refl _) (by decide) (by simp), below_alloc _ _, by simp⟩
  rw [HU.out.2.2.2.2] at HN
  have HLF : Hid (L.F.length ≤ 1100000) := by have := hsm.1.2; exact (by omega : L.F.length ≤ 1100000)
  clear hdf hM hX
  go_enter Tryz.func54, Tryz.ntmps54
  go_upto_region 3 with (at_builtin; refine wp_rowV rfl _ _ rfl (w.heap.size + 1 + 1 + 1) (((w.alloc (.cells #[.int .i64 n.a, .int .i64 n.k, .bool n.u, .slice (some ⟨gd, 0, none⟩) L.F.length L.F.length, .int .i64 n.e, .slice (some ⟨gv, 0, none⟩) L.P.length L.P.length, .slice b3 L.I.length e3, .slice (some ⟨ga, 0, none⟩) L.U.length L.U.length, .int .i64 n.r0, .int .i64 n.r1, .int .i64 n.r2] 35)).alloc (.cells #[.int .i64 0, .int .i64 0, .bool false, .slice none 0 0, .int .i64 0, .slice none 0 0, .slice none 0 0, .slice none 0 0, .int .i64 0, .int .i64 0, .int .i64 0] 35)).alloc (.cells #[.int .i64 n.a, .int .i64 n.k, .bool n.u, .slice (some ⟨gd, 0, none⟩) L.F.length L.F.length, .int .i64 n.e, .slice (some ⟨gv, 0, none⟩) L.P.length L.P.length, .slice b3 L.I.length e3, .slice (some ⟨ga, 0, none⟩) L.U.length L.U.length, .int .i64 n.r0, .int .i64 n.r1, .int .i64 n.r2] 35)) (w.heap.size + 1 + 1 + 1) rfl HN.out _ _ L.F rfl gdf odf HDF.out (fun h => by cases h) ?_; intro v4 w4 h4 hg4; obtain ⟨a4, c4, hv4⟩ := OF.shape h4; subst hv4; have HO4 : Hid (Box 35 w4 (w.heap.size + 1 + 1) [.int .i64 n.a, .int .i64 n.k, .bool n.u, .slice (some ⟨gd, 0, none⟩) L.F.length L.F.length, .int .i64 n.e, .slice (some ⟨gv, 0, none⟩) L.P.length L.P.length, .slice b3 L.I.length e3, .slice (some ⟨ga, 0, none⟩) L.U.length L.U.length, .int .i64 n.r0, .int .i64 n.r1, .int .i64 n.r2]) := HU.out.2.2.2.1.keep (h4.2.1.block _ (by omega)); have q3 := HO4.out.at 3 _ rfl; have j3 := HO4.out.fz 3)
  obtain ⟨g1, hr4, hg1b, _⟩ := OR.rw (k := 3) (enc := fcs) (fun x => fcs_len x) (by omega) h4 HLF.out
  have hgs := grown_setC w4 (w.heap.size + 1 + 1) 3 (.slice a4 L.F.length c4)
  have HD5 : Hid (Below w.heap.size w (w4.setCell ⟨w.heap.size + 1 + 1, 3, none⟩ (.slice a4 L.F.length c4)) ∧ Box 35 (w4.setCell ⟨w.heap.size + 1 + 1, 3, none⟩ (.slice a4 L.F.length c4)) w.heap.size [.int .i64 n.a, .int .i64 n.k, .bool n.u, .slice (some ⟨gd, 0, none⟩) L.F.length L.F.length, .int .i64 n.e, .slice (some ⟨gv, 0, none⟩) L.P.length L.P.length, .slice b3 L.I.length e3, .slice (some ⟨ga, 0, none⟩) L.U.length L.U.length, .int .i64 n.r0, .int .i64 n.r1, .int .i64 n.r2] ∧ Box 35 (w4.setCell ⟨w.heap.size + 1 + 1, 3, none⟩ (.slice a4 L.F.length c4)) (w.heap.size + 1) [.int .i64 0, .int .i64 0, .bool false, .slice none 0 0, .int .i64 0, .slice none 0 0, .slice none 0 0, .slice none 0 0, .int .i64 0, .int .i64 0, .int .i64 0] ∧ Box 35 (w4.setCell ⟨w.heap.size + 1 + 1, 3, none⟩ (.slice a4 L.F.length c4)) (w.heap.size + 1 + 1) [.int .i64 n.a, .int .i64 n.k, .bool n.u, .slice a4 L.F.length c4, .int .i64 n.e, .slice (some ⟨gv, 0, none⟩) L.P.length L.P.length, .slice b3 L.I.length e3, .slice (some ⟨ga, 0, none⟩) L.U.length L.U.length, .int .i64 n.r0, .int .i64 n.r1, .int .i64 n.r2] ∧ RW 3 fcs (w4.setCell ⟨w.heap.size + 1 + 1, 3, none⟩ (.slice a4 L.F.length c4)) (.slice a4 L.F.length c4) g1 L.F ∧ w.heap.size + 1 + 1 + 1 ≤ g1 ∧ w.heap.size + 1 + 1 + 1 ≤ (w4.setCell ⟨w.heap.size + 1 + 1, 3, none⟩ (.slice a4 L.F.length c4)).heap.size) := by
    have h9 := h4.2.1
    have h8 := h4.2.2
    exact ⟨(HU.out.1.trans (h9.mono (by omega))).grown hgs (by omega) (fun k hk => by simp at hk; omega), (HU.out.2.1.keep (h9.block _ (by omega))).grown hgs (by simp; omega), (HU.out.2.2.1.keep (h9.block _ (by omega))).grown hgs (by simp), HO4.out.set 3 _, hr4.grown hgs (fun _ => by simp; omega), hg1b, Nat.le_trans h8 hgs.size⟩
  clear h4 hg4 HO4 q3 j3 hr4 hg1b hgs HN HDF HU HLF
  generalize (w4.setCell ⟨w.heap.size + 1 + 1, 3, none⟩ (.slice a4 L.F.length c4)) = W5 at *
  have q5 : (W5.alloc (.cells #[] 59)).cell? ⟨w.heap.size + 1 + 1, 5, none⟩ = some (.slice (some ⟨gv, 0, none⟩) L.P.length L.P.length) := (HD5.out.2.2.2.1.later (below_alloc _ _)).at 5 _ rfl
  have j5 : (W5.alloc (.cells #[] 59)).frozen? ⟨w.heap.size + 1 + 1, 5, none⟩ = false := (HD5.out.2.2.2.1.later (below_alloc _ _)).fz 5
  have HL6 : Hid (LcI w W5.heap.size [] ((W5.alloc (.cells #[] 59)).setCell ⟨w.heap.size + 1 + 1, 5, none⟩ (.slice (some ⟨W5.heap.size, 0, none⟩) 0 0)) (.slice (some ⟨W5.heap.size, 0, none⟩) 0 0) [] (fun _ => 0)) := by
    have h0 := HD5.out.1.size
    have h3 := HD5.out.2.2.2.2.2.2
    have hO : OVw w.heap.size w (W5.alloc (.cells #[] 59)) (.slice (some ⟨W5.heap.size, 0, none⟩) 0 0) [] := ⟨World.ownsRow_made W5 #[] 0 h0 (by decide) (by simp), HD5.out.1.alloc h0 _, by simp; omega⟩
    have hI : LcI w W5.heap.size [] (W5.alloc (.cells #[] 59)) (.slice (some ⟨W5.heap.size, 0, none⟩) 0 0) [] (fun _ => 0) := ⟨rfl, by simp, hO, fun q hq => by simp [Value.ownBlock] at hq; omega, fun j h => absurd h (by simp), fun i j h => absurd h (by simp)⟩
    exact hI.box (grown_setC _ (w.heap.size + 1 + 1) 5 _) (by omega) (by omega)
  have HD6 : Hid (Below w.heap.size w ((W5.alloc (.cells #[] 59)).setCell ⟨w.heap.size + 1 + 1, 5, none⟩ (.slice (some ⟨W5.heap.size, 0, none⟩) 0 0)) ∧ Box 35 ((W5.alloc (.cells #[] 59)).setCell ⟨w.heap.size + 1 + 1, 5, none⟩ (.slice (some ⟨W5.heap.size, 0, none⟩) 0 0)) w.heap.size [.int .i64 n.a, .int .i64 n.k, .bool n.u, .slice (some ⟨gd, 0, none⟩) L.F.length L.F.length, .int .i64 n.e, .slice (some ⟨gv, 0, none⟩) L.P.length L.P.length, .slice b3 L.I.length e3, .slice (some ⟨ga, 0, none⟩) L.U.length L.U.length, .int .i64 n.r0, .int .i64 n.r1, .int .i64 n.r2] ∧ Box 35 ((W5.alloc (.cells #[] 59)).setCell ⟨w.heap.size + 1 + 1, 5, none⟩ (.slice (some ⟨W5.heap.size, 0, none⟩) 0 0)) (w.heap.size + 1) [.int .i64 0, .int .i64 0, .bool false, .slice none 0 0, .int .i64 0, .slice none 0 0, .slice none 0 0, .slice none 0 0, .int .i64 0, .int .i64 0, .int .i64 0] ∧ Box 35 ((W5.alloc (.cells #[] 59)).setCell ⟨w.heap.size + 1 + 1, 5, none⟩ (.slice (some ⟨W5.heap.size, 0, none⟩) 0 0)) (w.heap.size + 1 + 1) [.int .i64 n.a, .int .i64 n.k, .bool n.u, .slice a4 L.F.length c4, .int .i64 n.e, .slice (some ⟨W5.heap.size, 0, none⟩) 0 0, .slice b3 L.I.length e3, .slice (some ⟨ga, 0, none⟩) L.U.length L.U.length, .int .i64 n.r0, .int .i64 n.r1, .int .i64 n.r2] ∧ RW 3 fcs ((W5.alloc (.cells #[] 59)).setCell ⟨w.heap.size + 1 + 1, 5, none⟩ (.slice (some ⟨W5.heap.size, 0, none⟩) 0 0)) (.slice a4 L.F.length c4) g1 L.F) := by
    have hb := below_alloc W5 (.cells #[] 59)
    have hg := grown_setC (W5.alloc (.cells #[] 59)) (w.heap.size + 1 + 1) 5 (.slice (some ⟨W5.heap.size, 0, none⟩) 0 0)
    obtain ⟨d1, d2, d3, d4, d5, d6, d7⟩ := HD5.out
    exact ⟨(d1.alloc d1.size _).grown hg (d1.alloc d1.size _).size (fun k hk => by simp at hk; omega), (d2.later hb).grown hg (by simp; omega), (d3.later hb).grown hg (by simp), (d4.later hb).set 5 _, (d5.later hb).grown hg (fun _ => by simp; omega)⟩
  have HB1 : Hid (w.heap.size + 1 + 1 + 1 ≤ g1 ∧ w.heap.size + 1 + 1 + 1 ≤ W5.heap.size ∧ (0 < L.F.length → g1 < W5.heap.size)) := ⟨HD5.out.2.2.2.2.2.1, HD5.out.2.2.2.2.2.2, HD5.out.2.2.2.2.1.lt⟩
  clear HD5
  go_upto_region 4 with fail
  clear q5 j5
  generalize ((W5.alloc (.cells #[] 59)).setCell ⟨w.heap.size + 1 + 1, 5, none⟩ (.slice (some ⟨W5.heap.size, 0, none⟩) 0 0)) = W6 at *
  generalize W5.heap.size = b1 at *
  have HP0 : Hid (L.P.length ≤ 1100000 ∧ G.length = L.P.length) := by
    have h := HXW.out w (Below.refl _ _)
    exact ⟨h.2.1, h.1⟩
  generalize hnp : L.P.length = np at *
  have HNP : Hid (L.P.length = np) := hnp
  clear hnp
  generalize hnf : L.F.length = nf at *
  generalize hni : L.I.length = ni at *
  generalize hnu : L.U.length = nu at *
  have HNL : Hid (L.F.length = nf ∧ L.I.length = ni ∧ L.U.length = nu) := ⟨hnf, hni, hnu⟩
  clear hnf hni hnu hsm
  have HST : Hid (∃ av9 cv9 V9 g9, Below w.heap.size w W6 ∧ Box 35 W6 w.heap.size [.int .i64 n.a, .int .i64 n.k, .bool n.u, .slice (some ⟨gd, 0, none⟩) nf nf, .int .i64 n.e, .slice (some ⟨gv, 0, none⟩) np np, .slice b3 ni e3, .slice (some ⟨ga, 0, none⟩) nu nu, .int .i64 n.r0, .int .i64 n.r1, .int .i64 n.r2] ∧ Box 35 W6 (w.heap.size + 1) [.int .i64 0, .int .i64 0, .bool false, .slice none 0 0, .int .i64 0, .slice none 0 0, .slice none 0 0, .slice none 0 0, .int .i64 0, .int .i64 0, .int .i64 0] ∧ Box 35 W6 (w.heap.size + 1 + 1) [.int .i64 n.a, .int .i64 n.k, .bool n.u, .slice a4 nf c4, .int .i64 n.e, .slice av9 0 cv9, .slice b3 ni e3, .slice (some ⟨ga, 0, none⟩) nu nu, .int .i64 n.r0, .int .i64 n.r1, .int .i64 n.r2] ∧ RW 3 fcs W6 (.slice a4 nf c4) g1 L.F ∧ LcI w b1 (L.P.take 0) W6 (.slice av9 0 cv9) V9 g9) := ⟨_, _, _, _, HD6.out.1, HD6.out.2.1, HD6.out.2.2.1, HD6.out.2.2.2.1, HD6.out.2.2.2.2, HL6.out⟩
  clear HD6 HL6
  go_wp2
  go_loopw [4] (fun i wr => ∃ m : Nat, m ≤ np ∧ i = .int .i64 m ∧ Hid (∃ av9 cv9 V9 g9, Below w.heap.size w wr ∧ Box 35 wr w.heap.size [.int .i64 n.a, .int .i64 n.k, .bool n.u, .slice (some ⟨gd, 0, none⟩) nf nf, .int .i64 n.e, .slice (some ⟨gv, 0, none⟩) np np, .slice b3 ni e3, .slice (some ⟨ga, 0, none⟩) nu nu, .int .i64 n.r0, .int .i64 n.r1, .int .i64 n.r2] ∧ Box 35 wr (w.heap.size + 1) [.int .i64 0, .int .i64 0, .bool false, .slice none 0 0, .int .i64 0, .slice none 0 0, .slice none 0 0, .slice none 0 0, .int .i64 0, .int .i64 0, .int .i64 0] ∧ Box 35 wr (w.heap.size + 1 + 1) [.int .i64 n.a, .int .i64 n.k, .bool n.u, .slice a4 nf c4, .int .i64 n.e, .slice av9 m cv9, .slice b3 ni e3, .slice (some ⟨ga, 0, none⟩) nu nu, .int .i64 n.r0, .int .i64 n.r1, .int .i64 n.r2] ∧ RW 3 fcs wr (.slice a4 nf c4) g1 L.F ∧ LcI w b1 (L.P.take m) wr (.slice av9 m cv9) V9 g9)) (fun i _ => np - (intOf i).toNat)
  case atStart => exact ⟨0, Nat.zero_le _, rfl, HST⟩
  case round =>
    obtain ⟨m, hm, rfl, HI⟩ := hrel
    clear HST
    obtain ⟨av, cv, V, g, k1, k2, k3, k4, k5, k6⟩ := HI.out
    have z5 := k2.at 5 _ rfl
    by_cases hlt : m < np
    · have hmP : m < L.P.length := by rw [HNP.out]; exact hlt
      have hmG : m < G.length := by rw [HP0.out.2]; exact hlt
      have hx := (HXW.out wr k1).2.2.2.2.2.2 m hmP hmG
      have HTK : Hid (L.P.take (m + 1) = L.P.take m ++ [L.P[m]]) := by first | exact List.take_succ_eq_append_getElem hmP | exact (List.take_append_getElem hmP).symm | simp [List.take_succ, List.getElem?_eq_getElem hmP]
      have HVL : Hid (V.length = m) := by have h9 : V.length = (L.P.take m).length := k6.1; rw [List.length_take] at h9; exact (by omega : V.length = m)
      generalize L.P[m] = M at *
      generalize G[m] = gm at *
      have c5 := hx.1
      have HO1 : Hid (OR 134 2 lcs wr.heap.size wr (wr.alloc (.cells #[] 134)).drew (.slice (some ⟨wr.heap.size, 0, none⟩) 0 0) ([] : List Le)) := OR.drew (⟨World.ownsRow_made wr #[] 0 (Nat.le_refl _) (by decide) (by simp), below_alloc _ _, by simp⟩ : OR 134 2 lcs wr.heap.size wr (wr.alloc (.cells #[] 134)) (.slice (some ⟨wr.heap.size, 0, none⟩) 0 0) ([] : List Le))
      have HRM : Hid (RS 2 lcs (wr.alloc (.cells #[] 134)).drew (.slice (some ⟨gm, 0, none⟩) M.length M.length) gm 0 M) := (hx.2.1.later ((below_alloc _ _).drew))
      have hba := below_alloc wr (.cells #[] 134)
      have o5 := k4.at 5 _ rfl
      have z51 := (k2.later hba).at 5 _ rfl
      have o51 := (k4.later hba).at 5 _ rfl
      have hgv : gv < wr.heap.size := (HXW.out wr k1).2.2.2.1
      have c51 : (wr.alloc (.cells #[] 134)).cell? ⟨gv, m, none⟩ = _ := (hba.cell (p := ⟨gv, m, none⟩) hgv).trans c5
      have HML : Hid (V.length + 1 ≤ 1200000) := by have := HP0.out.1; have := HVL.out; exact (by omega : V.length + 1 ≤ 1200000)
      have HK2 : Hid (Box 35 wr w.heap.size _ ∧ Box 35 wr (w.heap.size + 1) _ ∧ Box 35 wr (w.heap.size + 1 + 1) _ ∧ RW 3 fcs wr (.slice a4 nf c4) g1 L.F ∧ LcI w b1 (L.P.take m) wr (.slice av m cv) V g ∧ Below w.heap.size w wr) := ⟨k2, k3, k4, k5, k6, k1⟩
      have HRL : Hid (M.length ≤ 1100000) := hx.2.1.len
      have HFIN : Hid (∀ a3 c3 w3 g6 cap6 w6, OR 134 2 lcs wr.heap.size wr w3 (.slice a3 M.length c3) M → OVw w.heap.size w w6 (.slice (some ⟨g6, 0, none⟩) (V.length + 1) cap6) (V ++ [.slice a3 M.length c3]) → (w3.alloc (.cells #[.slice a3 M.length c3] 59)).grownBy w6 (Value.slice av m cv).ownBlock → ((Value.slice av m cv).ownBlock = some g6 ∨ g6 = (w3.alloc (.cells #[.slice a3 M.length c3] 59)).heap.size) → ∃ av9 cv9 V9 g9, Below w.heap.size w (w6.setCell ⟨w.heap.size + 1 + 1, 5, none⟩ (.slice (some ⟨g6, 0, none⟩) (V.length + 1) cap6)) ∧ Box 35 (w6.setCell ⟨w.heap.size + 1 + 1, 5, none⟩ (.slice (some ⟨g6, 0, none⟩) (V.length + 1) cap6)) w.heap.size [.int .i64 n.a, .int .i64 n.k, .bool n.u, .slice (some ⟨gd, 0, none⟩) nf nf, .int .i64 n.e, .slice (some ⟨gv, 0, none⟩) np np, .slice b3 ni e3, .slice (some ⟨ga, 0, none⟩) nu nu, .int .i64 n.r0, .int .i64 n.r1, .int .i64 n.r2] ∧ Box 35 (w6.setCell ⟨w.heap.size + 1 + 1, 5, none⟩ (.slice (some ⟨g6, 0, none⟩) (V.length + 1) cap6)) (w.heap.size + 1) [.int .i64 0, .int .i64 0, .bool false, .slice none 0 0, .int .i64 0, .slice none 0 0, .slice none 0 0, .slice none 0 0, .int .i64 0, .int .i64 0, .int .i64 0] ∧ Box 35 (w6.setCell ⟨w.heap.size + 1 + 1, 5, none⟩ (.slice (some ⟨g6, 0, none⟩) (V.length + 1) cap6)) (w.heap.size + 1 + 1) [.int .i64 n.a, .int .i64 n.k, .bool n.u, .slice a4 nf c4, .int .i64 n.e, .slice av9 (m + 1) cv9, .slice b3 ni e3, .slice (some ⟨ga, 0, none⟩) nu nu, .int .i64 n.r0, .int .i64 n.r1, .int .i64 n.r2] ∧ RW 3 fcs (w6.setCell ⟨w.heap.size + 1 + 1, 5, none⟩ (.slice (some ⟨g6, 0, none⟩) (V.length + 1) cap6)) (.slice a4 nf c4) g1 L.F ∧ LcI w b1 (L.P.take (m + 1)) (w6.setCell ⟨w.heap.size + 1 + 1, 5, none⟩ (.slice (some ⟨g6, 0, none⟩) (V.length + 1) cap6)) (.slice av9 (m + 1) cv9) V9 g9) := by
        intro a3 c3 w3 g6 cap6 w6 ho3 ho6 hg6 hl6
        obtain ⟨gm2, hr2, hgm2, _⟩ := OR.rw (k := 2) (enc := lcs) (fun x => lcs_len x) (by omega) ho3 HRL.out
        have hb3 : Below wr.heap.size wr (w3.alloc (.cells #[.slice a3 M.length c3] 59)) := ho3.2.1.alloc ho3.2.2 _
        have hA := k6.add hb3 (hr2.later (below_alloc _ _)) hgm2 rfl ho6 hg6 hl6
        have hov : OVw w.heap.size w (w3.alloc (.cells #[.slice a3 M.length c3] 59)) (.slice av m cv) V := (k6.later hb3).2.2.1
        have hs := grown_setC w6 (w.heap.size + 1 + 1) 5 (.slice (some ⟨g6, 0, none⟩) (V.length + 1) cap6)
        have hB1 := HB1.out
        have hown : ∀ q, (Value.slice av m cv).ownBlock = some q → b1 ≤ q := k6.2.2.2.1
        have hA2 := hA.box hs (by omega) (by omega)
        have hbw : Below w.heap.size w w6 := (k1.trans (hb3.mono k1.size)).grown hg6 (k1.trans (hb3.mono k1.size)).size (fun q hq => (hov.1.lt q hq).1)
        have b2 := (k2.later hb3).grown hg6 (own_box hov.1 (k2.later hb3) (by decide))
        have b3' := (k3.later hb3).grown hg6 (own_box hov.1 (k3.later hb3) (by decide))
        have b4 := (k4.later hb3).grown hg6 (own_box hov.1 (k4.later hb3) (by decide))
        have b5 := (k5.later hb3).grown hg6 (fun hp => fun e => by have := hown g1 e.symm; have := hB1.2.2 (by have := HNL.out.1; omega); omega)
        rw [HVL.out] at hA2 hs ⊢
        rw [HTK.out]
        exact ⟨_, _, _, _, hbw.grown hs hbw.size (fun k hk => by simp at hk; omega), b2.grown hs (by simp; omega), b3'.grown hs (by simp), b4.set 5 _, b5.grown hs (fun _ => by simp; omega), hA2⟩
      have i1 : (m : Int) < (np : Int) := by omega
      have i2 : (0 : Int) ≤ (m : Int) := by omega
      have hnp9 := HP0.out.1
      have wr1 : IntKind.i64.wrap ((m : Int) + 1) = (m : Int) + 1 := IntWalk.i64_in _ (by omega)
      have wr2 : wrap64 ((m : Int) + 1) = (m : Int) + 1 := by unfold wrap64; omega
      clear hnp9
      clear HI k1 k2 k3 k4 k5 k6 hx hba hgv hmP hmG
      go_wp2
      go_region_law ((first
        | (refine step_rowLX rfl _ _ rfl wr.heap.size wr wr.heap.size (by rfl) HO1.out gm _ M (by rfl) HRM.out ?_; intro a3 c3 w3 ho3; have HB3 : Hid (Below wr.heap.size wr w3 ∧ OR 134 2 lcs wr.heap.size wr w3 (.slice a3 M.length c3) M) := ⟨ho3.2.1, ho3⟩; have o53 := (HK2.out.2.2.1.later HB3.out.1).at 5 _ rfl; have o54 := ((HK2.out.2.2.1.later HB3.out.1).later (below_alloc w3 (.cells #[.slice a3 M.length c3] 59))).at 5 _ rfl; have HRG : Hid ((w3.alloc (.cells #[.slice a3 M.length c3] 59)).cell? ⟨w3.heap.size, 0, none⟩ = some (.slice a3 M.length c3)) := (by show _ = _; rw [World.cell?_alloc_at _ _ _ _ rfl]; rfl); have HOV : Hid (OVw w.heap.size w (w3.alloc (.cells #[.slice a3 M.length c3] 59)) (.slice av m cv) V) := ((HK2.out.2.2.2.2.1.later HB3.out.1).later (below_alloc _ _)).2.2.1)
        | (refine step_viewX rfl _ _ rfl w.heap.size w (.slice av m cv) V (.slice a3 M.length c3) (by rfl) HOV.out _ (by rfl) HRG.out rfl HML.out ?_; intro g6 cap6 w6 ho6 hg6 hl6; have HB6 : Hid (Box 35 w6 (w.heap.size + 1 + 1) _) := (((HK2.out.2.2.1.later HB3.out.1).later (below_alloc _ _)).grown hg6 (own_box HOV.out.1 ((HK2.out.2.2.1.later HB3.out.1).later (below_alloc _ _)) (by decide))); have e1 := HB6.out.at 5 _ rfl; have f1 := HB6.out.fz 5)))
      all_goals
        have hN := HFIN.out a3 c3 w3 g6 cap6 w6 HB3.out.2 ho6 hg6 hl6
        have HNN : Hid _ := hN
        clear hN HFIN HB3 ho6 hg6 hl6 HB6 e1 f1 HOV HRG o53 o54 ho3 HO1 HRM HK2 HML HTK HRL
        go_wp2
        go_roundw
        case rel => exact ⟨m + 1, by omega, by go_num, HNN⟩
        case measure => simp [intOf]; omega
    · have i1 : ¬ (m : Int) < (np : Int) := by omega
      obtain rfl : m = np := by omega
      have e9 : L.P.take m = L.P := List.take_of_length_le (by rw [HNP.out]; omega)
      rw [e9] at k6
      have HK : Hid (Below w.heap.size w wr ∧ Box 35 wr w.heap.size _ ∧ Box 35 wr (w.heap.size + 1) _ ∧ Box 35 wr (w.heap.size + 1 + 1) _ ∧ RW 3 fcs wr (.slice a4 nf c4) g1 L.F ∧ LcI w b1 L.P wr (.slice av m cv) V g) := ⟨k1, k2, k3, k4, k5, k6⟩
      clear HI k1 k2 k3 k4 k5 k6 e9 hm hlt
      go_upto_region 8 with fail
      obtain rfl := HNP.out
      obtain ⟨rfl, rfl, rfl⟩ := HNL.out
      clear z5 i1
      have hb8 := below_alloc wr (.cells #[] 3)
      have z6 := (HK.out.2.1.later hb8).at 6 _ rfl
      have HI8 : Hid (OR 3 1 ics wr.heap.size wr (wr.alloc (.cells #[] 3)) (.slice (some ⟨wr.heap.size, 0, none⟩) 0 0) ([] : List Int)) := ⟨World.ownsRow_made wr #[] 0 (Nat.le_refl _) (by decide) (by simp), hb8, by simp⟩
      obtain ⟨_, _, ⟨gz, oz, hrz⟩, _⟩ := HM.out _ (HK.out.1.trans (hb8.mono HK.out.1.size))
      have HRI : Hid (RS 1 ics (wr.alloc (.cells #[] 3)) (.slice b3 L.I.length e3) gz oz L.I ∧ L.I.length ≤ 1100000) := ⟨hrz, hrz.len⟩
      clear hrz hb8
      go_upto_region 9 with (at_builtin; refine wp_rowIJ rfl _ _ rfl wr.heap.size wr wr.heap.size rfl HI8.out b3 e3 L.I rfl gz oz HRI.out.1 (fun h => absurd h hn3) ?_; intro v8 w8 h8 hg8; obtain ⟨a8, c8, hv8⟩ := OR.shapeJ h8; subst hv8; have HO8 : Hid (Box 35 w8 (w.heap.size + 1 + 1) _) := HK.out.2.2.2.1.later h8.2.1; have q6 := HO8.out.at 6 _ rfl; have j6 := HO8.out.fz 6)
      obtain ⟨g8, hr8, hg8b, _⟩ := OR.rw (k := 1) (enc := ics) (fun _ => rfl) (by omega) h8 HRI.out.2
      have hs8 := grown_setC w8 (w.heap.size + 1 + 1) 6 (.slice a8 L.I.length c8)
      have HD8 : Hid (Below w.heap.size w (w8.setCell ⟨w.heap.size + 1 + 1, 6, none⟩ (.slice a8 L.I.length c8)) ∧ Box 35 (w8.setCell ⟨w.heap.size + 1 + 1, 6, none⟩ (.slice a8 L.I.length c8)) w.heap.size [.int .i64 n.a, .int .i64 n.k, .bool n.u, .slice (some ⟨gd, 0, none⟩) L.F.length L.F.length, .int .i64 n.e, .slice (some ⟨gv, 0, none⟩) L.P.length L.P.length, .slice b3 L.I.length e3, .slice (some ⟨ga, 0, none⟩) L.U.length L.U.length, .int .i64 n.r0, .int .i64 n.r1, .int .i64 n.r2] ∧ Box 35 (w8.setCell ⟨w.heap.size + 1 + 1, 6, none⟩ (.slice a8 L.I.length c8)) (w.heap.size + 1) [.int .i64 0, .int .i64 0, .bool false, .slice none 0 0, .int .i64 0, .slice none 0 0, .slice none 0 0, .slice none 0 0, .int .i64 0, .int .i64 0, .int .i64 0] ∧ Box 35 (w8.setCell ⟨w.heap.size + 1 + 1, 6, none⟩ (.slice a8 L.I.length c8)) (w.heap.size + 1 + 1) [.int .i64 n.a, .int .i64 n.k, .bool n.u, .slice a4 L.F.length c4, .int .i64 n.e, .slice av L.P.length cv, .slice a8 L.I.length c8, .slice (some ⟨ga, 0, none⟩) L.U.length L.U.length, .int .i64 n.r0, .int .i64 n.r1, .int .i64 n.r2] ∧ RW 3 fcs (w8.setCell ⟨w.heap.size + 1 + 1, 6, none⟩ (.slice a8 L.I.length c8)) (.slice a4 L.F.length c4) g1 L.F ∧ LcI w b1 L.P (w8.setCell ⟨w.heap.size + 1 + 1, 6, none⟩ (.slice a8 L.I.length c8)) (.slice av L.P.length cv) V g ∧ IW (w8.setCell ⟨w.heap.size + 1 + 1, 6, none⟩ (.slice a8 L.I.length c8)) (.slice a8 L.I.length c8) g8 L.I ∧ wr.heap.size ≤ g8 ∧ wr.heap.size ≤ (w8.setCell ⟨w.heap.size + 1 + 1, 6, none⟩ (.slice a8 L.I.length c8)).heap.size) := by
        obtain ⟨d1, d2, d3, d4, d5, d6⟩ := HK.out
        have hb := h8.2.1
        have hB1 := HB1.out
        have hl := d6.2.1
        have d1' := d1.trans (hb.mono d1.size)
        exact ⟨d1'.grown hs8 d1'.size (fun k hk => by simp at hk; omega), (d2.later hb).grown hs8 (by simp; omega), (d3.later hb).grown hs8 (by simp), (d4.later hb).set 6 _, (d5.later hb).grown hs8 (fun _ => by simp; omega), (d6.later hb).box hs8 (by omega) (by omega), hr8.iw.grown hs8 (fun _ => by simp; omega), hg8b, Nat.le_trans hb.size hs8.size⟩
      have HKB : Hid ((0 < L.P.length → ∀ q, (Value.slice av L.P.length cv).ownBlock = some q → b1 ≤ q ∧ q < wr.heap.size) ∧ (∀ j (h : j < L.P.length), 0 < L.P[j].length → b1 ≤ g j ∧ g j < wr.heap.size) ∧ b1 ≤ wr.heap.size) := by
        have k6 := HK.out.2.2.2.2.2
        exact ⟨fun _ q hq => ⟨k6.2.2.2.1 q hq, (k6.2.2.1.1.lt q hq).2⟩, fun j hj hp => ⟨((k6.2.2.2.2.1 j hj (by rw [k6.1]; exact hj)).2.2 hp).1, (k6.2.2.2.2.1 j hj (by rw [k6.1]; exact hj)).1.lt hp⟩, k6.2.1⟩
      clear h8 hg8 HO8 q6 j6 hr8 hg8b hs8 HI8 HRI HK z6
      generalize (w8.setCell ⟨w.heap.size + 1 + 1, 6, none⟩ (.slice a8 L.I.length c8)) = W8 at *
      have hb9 := below_alloc W8 (.cells #[] 102)
      have z7 := (HD8.out.2.1.later hb9).at 7 _ rfl
      have HI9 : Hid (OR 102 3 ucs W8.heap.size W8 (W8.alloc (.cells #[] 102)) (.slice (some ⟨W8.heap.size, 0, none⟩) 0 0) ([] : List Ug)) := ⟨World.ownsRow_made W8 #[] 0 (Nat.le_refl _) (by decide) (by simp), hb9, by simp⟩
      obtain ⟨_, _, _, ⟨gu, ou, hru⟩⟩ := HM.out _ (HD8.out.1.trans (hb9.mono HD8.out.1.size))
      have HRU : Hid (RS 3 ucs (W8.alloc (.cells #[] 102)) (.slice (some ⟨ga, 0, none⟩) L.U.length L.U.length) gu ou L.U ∧ L.U.length ≤ 1100000) := ⟨hru, hru.len⟩
      clear hru hb9
      go_upto_region 10 with (at_builtin; refine wp_rowUJ rfl _ _ rfl W8.heap.size W8 W8.heap.size rfl HI9.out _ _ L.U rfl gu ou HRU.out.1 (fun h => by cases h) ?_; intro v9 w9 h9 hg9; obtain ⟨a9, c9, hv9⟩ := OR.shapeJ h9; subst hv9; have HO9 : Hid (Box 35 w9 (w.heap.size + 1 + 1) _) := HD8.out.2.2.2.1.later h9.2.1; have q7 := HO9.out.at 7 _ rfl; have j7 := HO9.out.fz 7)
      obtain ⟨g9, hr9, hg9b, _⟩ := OR.rw (k := 3) (enc := ucs) (fun x => ucs_len x) (by omega) h9 HRU.out.2
      have hs9 := grown_setC w9 (w.heap.size + 1 + 1) 7 (.slice a9 L.U.length c9)
      have HD9 : Hid (Below w.heap.size w (w9.setCell ⟨w.heap.size + 1 + 1, 7, none⟩ (.slice a9 L.U.length c9)) ∧ Box 35 (w9.setCell ⟨w.heap.size + 1 + 1, 7, none⟩ (.slice a9 L.U.length c9)) (w.heap.size + 1) [.int .i64 0, .int .i64 0, .bool false, .slice none 0 0, .int .i64 0, .slice none 0 0, .slice none 0 0, .slice none 0 0, .int .i64 0, .int .i64 0, .int .i64 0] ∧ Box 35 (w9.setCell ⟨w.heap.size + 1 + 1, 7, none⟩ (.slice a9 L.U.length c9)) (w.heap.size + 1 + 1) [.int .i64 n.a, .int .i64 n.k, .bool n.u, .slice a4 L.F.length c4, .int .i64 n.e, .slice av L.P.length cv, .slice a8 L.I.length c8, .slice a9 L.U.length c9, .int .i64 n.r0, .int .i64 n.r1, .int .i64 n.r2] ∧ SvD (w.heap.size + 1 + 1 + 1) (w9.setCell ⟨w.heap.size + 1 + 1, 7, none⟩ (.slice a9 L.U.length c9)).heap.size (w9.setCell ⟨w.heap.size + 1 + 1, 7, none⟩ (.slice a9 L.U.length c9)) (.slice a4 L.F.length c4) (.slice av L.P.length cv) (.slice a8 L.I.length c8) (.slice a9 L.U.length c9) L) := by
        obtain ⟨d1, d2, d3, d4, d5, d6, d7, d8, d9⟩ := HD8.out
        have hb := h9.2.1
        have hB1 := HB1.out
        have hl := d6.2.1
        have d1' := d1.trans (hb.mono d1.size)
        have hF := (d6.later hb).box hs9 (by omega) (by omega)
        obtain ⟨go, VV, hvw, hob⟩ := hF.vw HP0.out.1
        have r9 := hr9.grown hs9 (fun _ => by simp; omega)
        have hk9 := HKB.out.2.2
        have u9 := r9.lt
        have u8 := d7.lt
        have hsz := hb.size
        have hsz2 := hs9.size
        exact ⟨d1'.grown hs9 d1'.size (fun k hk => by simp at hk; omega), (d3.later hb).grown hs9 (by simp), (d4.later hb).set 7 _, svd_of2 (w1 := b1) (w2 := wr.heap.size) (w3 := W8.heap.size) hvw (fun hp => HKB.out.1 hp go (hob hp)) (fun j hj hp => HKB.out.2.1 j hj hp) ((d5.later hb).grown hs9 (fun _ => by simp; omega)) (by omega) (fun hp => hB1.2.2 hp) ((d7.later hb).grown hs9 (fun _ => by simp; omega)) d8 u8 r9 hg9b u9 (by omega) HKB.out.2.2 d9 (by omega) (Nat.le_refl _)⟩
      clear h9 hg9 HO9 q7 j7 hr9 hg9b hs9 HI9 HRU HD8 z7 HKB
      generalize (w9.setCell ⟨w.heap.size + 1 + 1, 7, none⟩ (.slice a9 L.U.length c9)) = W9 at *
      have HF : Hid (∀ W, W9.grownBy W (some (w.heap.size + 1)) → SvD w.heap.size W.heap.size W (.slice a4 L.F.length c4) (.slice av L.P.length cv) (.slice a8 L.I.length c8) (.slice a9 L.U.length c9) L ∧ Below w.heap.size w W) := fun W hg => by
        have s2 := hg.size
        obtain ⟨d1, d2, d3, d4⟩ := HD9.out
        exact ⟨(d4.kept hg (by omega)).wide (by omega) s2, d1.grown hg d1.size (fun k hk => by simp at hk; omega)⟩
      have HOO : Hid (Box 35 W9 (w.heap.size + 1 + 1) [.int .i64 n.a, .int .i64 n.k, .bool n.u, .slice a4 L.F.length c4, .int .i64 n.e, .slice av L.P.length cv, .slice a8 L.I.length c8, .slice a9 L.U.length c9, .int .i64 n.r0, .int .i64 n.r1, .int .i64 n.r2]) := HD9.out.2.2.1
      have HRR : Hid (Box 35 W9 (w.heap.size + 1) [.int .i64 0, .int .i64 0, .bool false, .slice none 0 0, .int .i64 0, .slice none 0 0, .slice none 0 0, .slice none 0 0, .int .i64 0, .int .i64 0, .int .i64 0]) := HD9.out.2.1
      clear HD9
      go_wp2_with (first | (refine wp_loadSrv rfl _ rfl (w.heap.size + 1 + 1) rfl HOO.out ?_) | (refine wp_storeSrv rfl _ _ rfl (w.heap.size + 1) _ _ _ _ _ _ _ _ _ _ _ HRR.out rfl rfl ⟨rfl, rfl, rfl, rfl, rfl, rfl, rfl, rfl, rfl, rfl, rfl⟩ ?_; intro hfin))
      exact ret_srv 2 (w.heap.size + 1) rfl rfl rfl hfin ⟨a4, c4, av, cv, a8, c8, a9, c9, rfl, HF.out _ (grown_setRowP _ _ _)⟩

end Go.Proofs.YthlgohplljcgfaaGreatDoor
