/-
  Texts laid together: Pfg, Ffg, Tkc, Rx.
-/
import Derived.Test.YtfojmagcoipbnaaGreatDoorQ26
import Derived.Test.YtfojmagcoipbnaaGreatDoorQ27
import Derived.Test.YtfojmagcoipbnaaGreatDoorQ32
import Derived.Test.YtfojmagcoipbnaaGreatDoorQ31
import Derived.Test.YtfojmagcoipbnaaGreatDoorQ30
import Derived.Test.YtfojmagcoipbnaaGreatDoorQ14
import Derived.Test.YtfojmagcoipbnaaGreatDoorQ13
import Derived.Test.YtfojmagcoipbnaaGreatDoorQ04
import Derived.StillTailTactics
/-
  Plain facts of two proofs of one name with the same sides: if they end alike and say otherwise, the last unlike texts have one digest.
-/
namespace Go.Proofs.YtfojmagcoipbnaaGreatDoor
open Go.RowKit
set_option linter.unusedVariables false
set_option linter.unusedSimpArgs false

theorem tag_12 {M : List Le} (hM : LV.LOk M) (h : btB [] = tagB 2 (TR.bkp M)) : False := by
  rw [btB_nil] at h
  unfold tagB at h
  rw [if_pos (show tagOk 1 [] = true by decide), if_pos (bkp_ok hM)] at h
  have sz : ∀ y ∈ TR.bkp M, y.size ≤ 1000000000 := fun y hy => by
    obtain ⟨f, hf, hfy⟩ := bkp_mem hy
    have := leB_size (hM.2.1 f hf)
    rcases hfy with rfl | rfl <;> omega
  have := (TR.tag_inj (k := 1) (k' := 2) (by omega) (by omega) (by simp) sz h).1
  omega
theorem btB_inj' {L M : List Le} (hL : LV.LOk L) (hM : LV.LOk M) (h : btB L = btB M) : L = M := by
  rcases Nat.eq_zero_or_pos L.length with h0 | h0
  · rcases Nat.eq_zero_or_pos M.length with h1 | h1
    · rw [List.length_eq_zero_iff.1 h0, List.length_eq_zero_iff.1 h1]
    · exfalso
      rw [List.length_eq_zero_iff.1 h0, btB_some h1] at h
      exact tag_12 hM h
  · rcases Nat.eq_zero_or_pos M.length with h1 | h1
    · exfalso
      rw [List.length_eq_zero_iff.1 h1, btB_some h0] at h
      exact tag_12 hL h.symm
    · exact btB_inj hL hM h0 h1 h

section
variable {ix : Nat} {x : Int} (h : 1 ≤ x ∧ x ≤ 32)
include h
theorem chain_step' (t0 t1 : ByteArray) {S : List ByteArray} (hw : ∀ s ∈ S, s.size ≤ 32) (i : Nat) (hi : i < S.length) (he : chT ix x t0 S (i + 1) = chT ix x t1 S (i + 1)) : cutH (chT ix x t0 S i) x = cutH (chT ix x t1 S i) x := by
  have e1 : S.getD i ⟨#[]⟩ = S[i]'(by omega) := by simp [List.getElem?_eq_getElem (show i < S.length by omega)]
  have s1 : (S[i]'(by omega)).size ≤ 200 := by
    have := hw (S[i]'(by omega)) (List.getElem_mem _)
    omega
  have c1 : (cutH (chT ix x t0 S i) x).size ≤ 200 := by rw [cutH_size h]; omega
  have c2 : (cutH (chT ix x t1 S i) x).size ≤ 200 := by rw [cutH_size h]; omega
  rw [chT, chT, e1] at he
  by_cases hb : bitI (ix : Int) (7 - i) = 1
  · rw [if_pos hb, if_pos hb] at he
    exact (tag3_inj s1 c1 s1 c2 he).2
  · rw [if_neg hb, if_neg hb] at he
    exact (tag3_inj c1 s1 c2 s1 he).1
theorem lu_chain {t0 t1 : ByteArray} {S : List ByteArray} (hw : ∀ s ∈ S, s.size ≤ 32) (hne : t0 ≠ t1) : ∀ m, m ≤ S.length → cutH (chT ix x t0 S m) x = cutH (chT ix x t1 S m) x →
    ∃ a b, lu (chL ix x t0 S (S.length + 1)) (chL ix x t1 S (S.length + 1)) (m + 1) = (a, b, true) ∧ a ≠ b ∧ cutH a x = cutH b x ∧ a.size ≤ (chT ix x t0 S m).size + b.size + a.size ∧ a ∈ chL ix x t0 S (S.length + 1) ∧ b ∈ chL ix x t1 S (S.length + 1) := by
  have g : ∀ (t : ByteArray) (i : Nat), i < S.length + 1 → (chL ix x t S (S.length + 1)).getD i ⟨#[]⟩ = chT ix x t S i := fun t i hi => by
    have hL : i < (chL ix x t S (S.length + 1)).length := by rw [chL_len]; exact hi
    rw [List.getD_eq_getElem?_getD, List.getElem?_eq_getElem hL, Option.getD_some, chL_at]
  have hmem : ∀ (t : ByteArray) (i : Nat), i < S.length + 1 → chT ix x t S i ∈ chL ix x t S (S.length + 1) := fun t i hi => List.mem_map.2 ⟨i, List.mem_range.2 hi, rfl⟩
  intro m
  induction m with
  | zero =>
    intro _ hc
    refine ⟨t0, t1, ?_, hne, hc, by omega, hmem t0 0 (by omega), hmem t1 0 (by omega)⟩
    rw [lu, g _ 0 (by omega), g _ 0 (by omega)]
    exact if_neg hne
  | succ m ih =>
    intro hm hc
    by_cases he : chT ix x t0 S (m + 1) = chT ix x t1 S (m + 1)
    · obtain ⟨a, b, hl, h1, h2, _, h4, h5⟩ := ih (by omega) (chain_step' h t0 t1 hw m (by omega) he)
      refine ⟨a, b, ?_, h1, h2, by omega, h4, h5⟩
      rw [lu, g _ _ (by omega), g _ _ (by omega), if_pos he]
      exact hl
    · refine ⟨_, _, ?_, he, hc, by omega, hmem t0 _ (by omega), hmem t1 _ (by omega)⟩
      rw [lu, g _ _ (by omega), g _ _ (by omega), if_neg he]
end

/-- two proofs of one name with the same sides are right -/
theorem pf_both {nm : ByteArray} {B : List Le} {S : List ByteArray} {x : Int} (hn : okB nameB nm = true) (h : 1 ≤ x ∧ x ≤ 32) (hB : LV.LOk B) (hi : ∀ f ∈ B, idxN f.n = idxN nm) (h8 : S.length ≤ 8) (hS : ∀ s ∈ S, s.size = x.toNat) : pfOk nm B S x = true := by
  rw [pfOk_yes hn (LV.leavesB_iff.2 hB) h8 ?_]
  · rw [List.all_eq_true]
    intro f hf
    rw [decide_eq_true_eq]
    exact hi f hf
  · rw [wideB_good fun j hj => ?_]
    · simpa using h
    · rw [hS _ (List.getElem_mem _)]
      omega
theorem ptA_yes {nm : ByteArray} {B : List Le} {S : List ByteArray} {x : Int} (hp : pfOk nm B S x = true) : ptA nm B S x = chL (idxN nm) x (btB B) S (S.length + 1) := by
  unfold ptA
  rw [if_pos hp]
theorem phA_yes {nm : ByteArray} {B : List Le} {S : List ByteArray} {x : Int} (hp : pfOk nm B S x = true) : phA nm B S x = cutH (chT (idxN nm) x (btB B) S S.length) x := by
  unfold phA
  rw [ptA_yes hp, lastH_at (k := S.length) (chL_len _ _ _ _ _), chL_at]
/-- **what ExtractTwo finds** -/
theorem xt_found {nm : ByteArray} {B C : List Le} {S : List ByteArray} {x : Int} (h : 1 ≤ x ∧ x ≤ 32) (hB : LV.LOk B) (hC : LV.LOk C) (hS : ∀ s ∈ S, s.size = x.toNat) (hp : pfOk nm B S x = true) (hq : pfOk nm C S x = true) (hh : phA nm B S x = phA nm C S x) (hs : sayB B C nm = false) :
    ∃ a b, xtR nm B S C S x = (a, b, true) ∧ a ≠ b ∧ cutH a x = cutH b x ∧ a.size ≤ 12601 ∧ b.size ≤ 12601 := by
  have hne : btB B ≠ btB C := fun he => by
    rw [btB_inj' hB hC he] at hs
    unfold sayB at hs
    simp at hs
  rw [phA_yes hp, phA_yes hq] at hh
  obtain ⟨a, b, hl, h1, h2, _, h4, h5⟩ := lu_chain (ix := idxN nm) h (S := S) (fun s hs => by rw [hS s hs]; omega) hne S.length (Nat.le_refl _) hh
  refine ⟨a, b, ?_, h1, h2, ?_, ?_⟩
  · unfold xtR
    rw [phA_yes hp, phA_yes hq, ptA_yes hp, ptA_yes hq, chL_len, chL_len, if_neg, hl]
    rw [hs]
    simp [hh]
  · exact ptA_size (nm := nm) (B := B) (S := S) (x := x) a (by rw [ptA_yes hp]; exact h4)
  · exact ptA_size (nm := nm) (B := C) (S := S) (x := x) b (by rw [ptA_yes hq]; exact h5)
theorem xt_none {nm : ByteArray} {B C : List Le} {S T : List ByteArray} {x : Int} (h : phA nm B S x ≠ phA nm C T x ∨ sayB B C nm = true) : xtR nm B S C T x = (⟨#[]⟩, ⟨#[]⟩, false) := by
  unfold xtR
  rw [if_pos]
  rcases h with h | h
  · exact .inr (.inr (.inl h))
  · exact .inr (.inr (.inr h))

end Go.Proofs.YtfojmagcoipbnaaGreatDoor
/-
  What the specification draws as two proofs of one name.
-/
namespace Go.Proofs.YtfojmagcoipbnaaGreatDoor
open Go.RowKit Go.BigFrame Go.Sort
set_option linter.unusedVariables false
set_option linter.unusedSimpArgs false

def lvfL : List Int := [8, 7, 6, 0]
def lvfC : Array Value := #[.int .i64 8, .int .i64 7, .int .i64 6, .int .i64 0]
theorem lvf_at (w : World) : Hid (∀ j, (h : j < lvfL.length) → (w.alloc (.cells lvfC 3)).cell? ⟨w.heap.size, j, none⟩ = some (.int .i64 lvfL[j])) := by
  intro j hj
  rw [World.cell?_alloc_at _ _ _ _ rfl]
  have : j = 0 ∨ j = 1 ∨ j = 2 ∨ j = 3 := by simp [lvfL] at hj; omega
  rcases this with rfl | rfl | rfl | rfl <;> rfl

/-- a list that may stand in a proof of a name -/
def FgB (nm : ByteArray) (B : List Le) : Prop := LV.LOk B ∧ ∀ f ∈ B, idxN f.n = idxN nm
/-- two proofs of one name with the same sides, as they are answered -/
def FgP (b0 : Nat) (w0 : World) (e : Ending) (w' : World) : Prop := ∃ (nm : ByteArray) (vb vs ub us : Value) (gb gs hb hs : Nat) (B C : List Le) (S : List ByteArray), e = .returned (.tuple #[.string nm, .agg #[vb, vs], .agg #[ub, us]]) ∧ (okB nameB nm = true ∧ nm.size ≤ 12) ∧ FgB nm B ∧ FgB nm C ∧ (S.length ≤ 8 ∧ ∀ s ∈ S, s.size = 1) ∧ RS 2 lcs w' vb gb 0 B ∧ SS w' vs gs 0 S ∧ RS 2 lcs w' ub hb 0 C ∧ SS w' us hs 0 S ∧ (b0 ≤ gb ∧ b0 ≤ gs ∧ b0 ≤ hb ∧ b0 ≤ hs) ∧ Below b0 w0 w'

theorem FgP.drew {b0 : Nat} {w0 w : World} {e : Ending} (h : FgP b0 w0 e w) : FgP b0 w0 e w.drew := by
  obtain ⟨nm, vb, vs, ub, us, gb, gs, hb, hs, B, C, S, h1, h2, h3, h4, h5, h6, h7, h8, h9, hz, h10⟩ := h
  exact ⟨nm, vb, vs, ub, us, gb, gs, hb, hs, B, C, S, h1, h2, h3, h4, h5, h6, h7, h8, h9, hz, h10.drew⟩
theorem dig_one : ∀ k, k < 10 → valB (48 + UInt8.ofNat k) = true := by decide
theorem dig_all (n : Nat) (h : n < 1000) : (Lib.decDigits n).length ≤ 3 ∧ (Lib.decDigits n).all valB = true := by
  by_cases h1 : n < 10
  · rw [Lib.decDigits_one h1]
    simp [dig_one n h1]
  · by_cases h2 : n < 100
    · rw [Lib.decDigits_two h1 h2]
      simp [dig_one (n / 10) (by omega), dig_one (n % 10) (by omega)]
    · rw [Lib.decDigits, dif_neg h1]
      by_cases h3 : n / 10 < 10
      · omega
      · rw [Lib.decDigits_two h3 (by omega)]
        simp [dig_one (n / 10 / 10) (by omega), dig_one (n / 10 % 10) (by omega), dig_one (n % 10) (by omega)]
def fT (i : Nat) : ByteArray := ⟨#[102]⟩ ++ ⟨(Lib.decDigits i).toArray⟩
theorem fT_facts (i : Nat) (h : i < 1000) : okB valB (fT i) = true ∧ (fT i).size ≤ 20 := by
  obtain ⟨h1, h2⟩ := dig_all i h
  have hs : (fT i).size = 1 + (Lib.decDigits i).length := by unfold fT; rw [ByteArray.size_append]; rfl
  refine ⟨?_, by omega⟩
  have hd : (fT i).data.toList = 102 :: Lib.decDigits i := by unfold fT; rw [ByteArray.data_append, Array.toList_append]; rfl
  unfold okB
  rw [hd, decide_eq_true (by omega), List.all_cons, h2]
  decide
theorem fDec_any (i : Nat) (h : i < 1000) (w : World) : Calls Tryz.prog 202 #[.int .i64 (i : Int)] w fun e w' => e = .returned (.string ⟨(Lib.decDigits i).toArray⟩) ∧ Below w.heap.size w w' := by
  rcases Nat.eq_zero_or_pos i with rfl | h0
  · exact D.Decimal_zero w
  · exact D.Decimal_pos i w h0 (by omega)
theorem PfM.grownF {w w' : World} {g : Nat} {v1 v2 : Value} {row : Option Nat} (h : PfM w g v1 v2) (hg : w.grownBy w' row) (hne : some g ≠ row) : PfM w' g v1 v2 := h.keep (hg.block g h.lt hne)

/-- the numbers of the blocks in their order -/
def FgN (r gp gq gb gs gu nb ns : Nat) : Prop := r + 1 < gp ∧ gp < gq ∧ (0 < nb → gb < gq) ∧ (0 < ns → gs < gq ∧ gu < gq) ∧ r + 1 < gb ∧ r + 1 < gs ∧ r + 1 < gu
/-- what the drawing of two proofs keeps -/
def FgS (b0 : Nat) (w0 : World) (r gp gq : Nat) (vb vs us : Value) (gb gs gu : Nat) (nm : ByteArray) (B : List Le) (S : List ByteArray) (W : World) : Prop :=
  Below b0 w0 W ∧ b0 ≤ r ∧ PfM W r (.slice none 0 0) (.slice none 0 0) ∧ PfM W (r + 1) (.slice none 0 0) (.slice none 0 0) ∧ PfM W gp vb vs ∧ RS 2 lcs W vb gb 0 B ∧ SS W vs gs 0 S ∧ SS W us gu 0 S ∧ ∃ ub hb C, PfM W gq ub us ∧ RS 2 lcs W ub hb 0 C ∧ FgB nm C ∧ r + 1 < hb ∧ ub.oneCell' = true
section
variable {b0 : Nat} {w0 : World} {r gp gq : Nat} {vb vs us : Value} {gb gs gu : Nat} {nm : ByteArray} {B : List Le} {S : List ByteArray} {W W' : World}
theorem FgS.later (h : FgS b0 w0 r gp gq vb vs us gb gs gu nm B S W) (hB : b0 ≤ W.heap.size) (hb : Below W.heap.size W W') : FgS b0 w0 r gp gq vb vs us gb gs gu nm B S W' := by
  obtain ⟨h1, h2, h3, h4, h5, h6, h7, h8, ub, hb', C, k1, k2, k3, k4, k5⟩ := h
  exact ⟨h1.trans (hb.mono hB), h2, h3.later hb, h4.later hb, h5.later hb, h6.later hb, h7.below hb h7.lt, h8.below hb h8.lt, ub, hb', C, k1.later hb, k2.later hb, k3, k4, k5⟩
theorem FgS.size (h : FgS b0 w0 r gp gq vb vs us gb gs gu nm B S W) : b0 ≤ W.heap.size := by
  have := h.2.2.1.lt
  have := h.2.1
  omega
theorem FgS.put (hn : FgN r gp gq gb gs gu B.length S.length) (h : FgS b0 w0 r gp gq vb vs us gb gs gu nm B S W) {un : Value} {g' : Nat} {C' : List Le} (hr : RS 2 lcs W un g' 0 C') (hg : gq < g') (hC : FgB nm C') (ho : un.oneCell' = true) : FgS b0 w0 r gp gq vb vs us gb gs gu nm B S (W.setCell ⟨gq, 0, none⟩ un) := by
  obtain ⟨h1, h2, h3, h4, h5, h6, h7, h8, ub, hb', C, k1, k2, k3, k4, k5⟩ := h
  obtain ⟨n1, n2, n3, n4, n5, n6, n7⟩ := hn
  have hs := grown_set W gq 0 un
  refine ⟨Below.setCell (p := ⟨gq, 0, none⟩) h1 (by simp; omega) _, h2, h3.grownF hs (by simp; omega), h4.grownF hs (by simp; omega), h5.grownF hs (by simp; omega), h6.grown hs (fun h0 => by have := n3 h0; simp; omega), h7.grown hs (fun h0 => by have := n4 h0; simp; omega), h8.grown hs (fun h0 => by have := n4 h0; simp; omega), un, g', C', k1.set0 _, hr.grown hs (fun _ => by simp; omega), hC, by omega, ho⟩
/-- the answer laid into its boxes -/
theorem FgS.end (hn : FgN r gp gq gb gs gu B.length S.length) (h1 : Below b0 w0 W) (h2 : b0 ≤ r) (h3 : PfM W r (.slice none 0 0) (.slice none 0 0)) (h4 : PfM W (r + 1) (.slice none 0 0) (.slice none 0 0)) (h6 : RS 2 lcs W vb gb 0 B) (h7 : SS W vs gs 0 S) (h8 : SS W us gu 0 S) {ub : Value} {hb' : Nat} {C : List Le} (k2 : RS 2 lcs W ub hb' 0 C) (k3 : FgB nm C) (k4 : r + 1 < hb') (hnm : okB nameB nm = true ∧ nm.size ≤ 12) (hBf : FgB nm B) (hS : S.length ≤ 8 ∧ ∀ s ∈ S, s.size = 1) :
    PfM ((((W.setCell ⟨r, 0, none⟩ vb).setCell ⟨r, 1, none⟩ vs).setCell ⟨r + 1, 0, none⟩ ub).setCell ⟨r + 1, 1, none⟩ us) r vb vs ∧ PfM ((((W.setCell ⟨r, 0, none⟩ vb).setCell ⟨r, 1, none⟩ vs).setCell ⟨r + 1, 0, none⟩ ub).setCell ⟨r + 1, 1, none⟩ us) (r + 1) ub us ∧ FgP b0 w0 (.returned (.tuple #[.string nm, .agg #[vb, vs], .agg #[ub, us]])) ((((W.setCell ⟨r, 0, none⟩ vb).setCell ⟨r, 1, none⟩ vs).setCell ⟨r + 1, 0, none⟩ ub).setCell ⟨r + 1, 1, none⟩ us) := by
  obtain ⟨n1, n2, n3, n4, n5, n6, n7⟩ := hn
  have s1 : ∀ (X : World) (j : Nat) (u : Value), X.grownBy (X.setCell ⟨r, j, none⟩ u) (some r) := fun X j u => grown_set X r j u
  have s2 : ∀ (X : World) (j : Nat) (u : Value), X.grownBy (X.setCell ⟨r + 1, j, none⟩ u) (some (r + 1)) := fun X j u => grown_set X (r + 1) j u
  have m1 : some r ≠ some (r + 1) := by simp
  have m2 : some (r + 1) ≠ some r := by simp
  refine ⟨(((h3.set0 _).set1 _).grownF (s2 _ _ _) m1).grownF (s2 _ _ _) m1, (((h4.grownF (s1 _ _ _) m2).grownF (s1 _ _ _) m2).set0 _).set1 _, nm, vb, vs, ub, us, gb, gs, hb', gu, B, C, S, rfl, hnm, hBf, k3, hS, ?_, ?_, ?_, ?_, ⟨by omega, by omega, by omega, by omega⟩, ?_⟩
  · exact (((h6.grown (s1 _ _ _) (fun _ => by simp; omega)).grown (s1 _ _ _) (fun _ => by simp; omega)).grown (s2 _ _ _) (fun _ => by simp; omega)).grown (s2 _ _ _) (fun _ => by simp; omega)
  · exact (((h7.grown (s1 _ _ _) (fun _ => by simp; omega)).grown (s1 _ _ _) (fun _ => by simp; omega)).grown (s2 _ _ _) (fun _ => by simp; omega)).grown (s2 _ _ _) (fun _ => by simp; omega)
  · exact (((k2.grown (s1 _ _ _) (fun _ => by simp; omega)).grown (s1 _ _ _) (fun _ => by simp; omega)).grown (s2 _ _ _) (fun _ => by simp; omega)).grown (s2 _ _ _) (fun _ => by simp; omega)
  · exact (((h8.grown (s1 _ _ _) (fun _ => by simp; omega)).grown (s1 _ _ _) (fun _ => by simp; omega)).grown (s2 _ _ _) (fun _ => by simp; omega)).grown (s2 _ _ _) (fun _ => by simp; omega)
  · exact Below.setCell (p := ⟨r + 1, 1, none⟩) (Below.setCell (p := ⟨r + 1, 0, none⟩) (Below.setCell (p := ⟨r, 1, none⟩) (Below.setCell (p := ⟨r, 0, none⟩) h1 (by simp; omega) _) (by simp; omega) _) (by simp; omega) _) (by simp; omega) _
end
/-- a text and two proofs, answered -/
theorem ret_pf3 {fn : Func} {Rp : Ending → World → Prop} {a : Act} {w : World} (s c d g g' : Nat) (b v1 v2 u1 u2 : Value) (hres : fn.results = #[.tmp s, .cell c 29, .cell d 29]) (hd : a.defers = []) (hb : a.tmps.getD s undef = b) (hp : a.tmps.getD c undef = .pointer (some ⟨g, 0, none⟩)) (hq : a.tmps.getD d undef = .pointer (some ⟨g', 0, none⟩))
    (hA : PfM w g v1 v2) (hC : PfM w g' u1 u2) (h : Rp (.returned (.tuple #[b, .agg #[v1, v2], .agg #[u1, u2]])) w) : bodyPost Tryz.prog fn Rp .ret a w := by
  have hr := load_pf hA
  have hr' := load_pf hC
  refine bodyPost_ret (v := .tuple #[b, .agg #[v1, v2], .agg #[u1, u2]]) ?_ hd h
  have hp' : a.tmps[c]?.getD undef = .pointer (some ⟨g, 0, none⟩) := by simpa using hp
  have hq' : a.tmps[d]?.getD undef = .pointer (some ⟨g', 0, none⟩) := by simpa using hq
  have hb' : a.tmps[s]?.getD undef = b := by simpa using hb
  simp [results, hres, asAddr, hr, hr', hp', hq', hb']
def FgL (b0 : Nat) (w0 : World) (r gp gq : Nat) (vb vs us : Value) (gb gs gu : Nat) (nm : ByteArray) (B : List Le) (S : List ByteArray) (i : Value) (wr : World) : Prop := ∃ m : Nat, m ≤ 600 ∧ i = .int .i64 m ∧ Hid (FgS b0 w0 r gp gq vb vs us gb gs gu nm B S wr)

set_option maxRecDepth 100000 in
set_option maxHeartbeats 2000000 in
theorem l11Forged_in (b0 : Nat) (w0 w : World) (g : Nat) (v : Value) (hc : Cur b0 w0 w g v) :
    Calls Tryz.prog 106 #[.pointer (some ⟨g, 0, none⟩)] w (FgP b0 w0) := by
  have hB := hc.size
  have hlt := hc.lt
  have hcA : Cur b0 w0 ((w.alloc (.cells #[.slice none 0 0, .slice none 0 0] 29)).alloc (.cells #[.slice none 0 0, .slice none 0 0] 29)) g v := hc.kept (grown_below (row := none) (((Below.refl _ _).alloc (Nat.le_refl _) _).alloc (by simp) _)) (by simp) hB (fun k hk => by cases hk)
  go_enter Tryz.func106, Tryz.ntmps106
  go_wp2_with fail
  have hp1 : PfM ((w.alloc (.cells #[.slice none 0 0, .slice none 0 0] 29)).alloc (.cells #[.slice none 0 0, .slice none 0 0] 29)) w.heap.size (.slice none 0 0) (.slice none 0 0) := (PfM.new w _ _).later ((Below.refl _ _).alloc (Nat.le_refl _) _)
  have hp2 : PfM ((w.alloc (.cells #[.slice none 0 0, .slice none 0 0] 29)).alloc (.cells #[.slice none 0 0, .slice none 0 0] 29)) (w.heap.size + 1) (.slice none 0 0) (.slice none 0 0) := by
    have h := PfM.new (w.alloc (.cells #[.slice none 0 0, .slice none 0 0] 29)) (.slice none 0 0) (.slice none 0 0)
    rw [World.size_alloc] at h
    exact h
  refine (l04Name_in b0 w0 _ g v hcA).mono ?_
  rintro e w1 ⟨nm, hnm, rfl, hc1, hg1⟩
  have CP := pickI_lit b0 w0 w1 g v 4 lvfL lvfC hc1 rfl (by omega) (by omega) (lvf_at w1)
  go_wp2_with fail
  refine CP.out.mono ?_
  rintro e w2 ⟨l, hl, rfl, hc2, hg2⟩
  go_wp2_with fail
  refine (l09Draw_in b0 w0 _ g v hc2).mono ?_
  rintro e w3 ⟨a3, c3, q3, L, rfl, hl8, hc3, hr3, hq3, _, hLk, hnil3, hg3⟩
  obtain ⟨r, hr⟩ : ∃ r, w.heap.size = r := ⟨_, rfl⟩
  have HB3 : Hid (PfM w3 r (.slice none 0 0) (.slice none 0 0) ∧ PfM w3 (r + 1) (.slice none 0 0) (.slice none 0 0) ∧ b0 ≤ r ∧ Below b0 w0 w3) := by
    rw [hr] at hp1 hp2 hlt hB
    have n1 : some r ≠ some g := by simp; omega
    have n2 : some (r + 1) ≠ some g := by simp; omega
    exact ⟨((hp1.grownF hg1 n1).grownF hg2 n1).grownF hg3 n1, ((hp2.grownF hg1 n2).grownF hg2 n2).grownF hg3 n2, hB, hc3.2.1⟩
  have hl8' : 0 ≤ l ∧ l ≤ 8 := by simp [lvfL] at hl; omega
  have hnk := nameL_ok nm hnm
  have hpv := sProveLeaf_lvl _ q3 0 L nm l 1 w3 hr3.1 (fun f hf => by have := leB_size (hLk.2.1 f hf); omega) (LV.leavesB_iff.2 hLk) hnk.1 hl8' (by omega) (by omega)
  have HPF : Hid (FgB nm (bkL L (idxN nm)) ∧ (bkL L (idxN nm)).length ≤ 8 ∧ ((sdA L (idxN nm) l 1).length ≤ 8 ∧ ∀ s ∈ sdA L (idxN nm) l 1, s.size = 1)) := by
    refine ⟨⟨ok_bk hLk _, fun f hf => by have := (bk_sub hf).2; omega⟩, Nat.le_trans (List.length_filter_le _ _) hl8, sdA_len _ _ _ _, ?_⟩
    unfold sdA
    split
    · intro s hs
      rw [sd_size (by omega) hLk _ _ s hs]
      rfl
    · simp
  rw [hr]
  generalize bkL L (idxN nm) = B at *
  generalize sdA L (idxN nm) l 1 = S at *
  clear hp1 hp2 hcA hc1 hg1 CP hc2 hg2 hg3 hnil3 hq3 hr3 hLk hl8 hl hl8' hlt hB hc hnm hc3
  go_wp2_with fail
  refine hpv.mono ?_
  rintro e w4 ⟨ab, cb, aS, cS, gb, gs, rfl, hrb, hss, ⟨hgb, hgs⟩, ⟨n1, n2⟩, hb4⟩
  have HB4 : Hid ((PfM w4 r (.slice none 0 0) (.slice none 0 0) ∧ PfM w4 (r + 1) (.slice none 0 0) (.slice none 0 0) ∧ b0 ≤ r ∧ Below b0 w0 w4) ∧ RS 2 lcs w4 (.slice ab B.length cb) gb 0 B ∧ SS w4 (.slice aS S.length cS) gs 0 S ∧ r + 1 < w3.heap.size ∧ w3.heap.size ≤ w4.heap.size) := ⟨⟨HB3.out.1.later hb4, HB3.out.2.1.later hb4, HB3.out.2.2.1, HB3.out.2.2.2.trans (hb4.mono (by have := HB3.out.1.lt; have := HB3.out.2.2.1; omega))⟩, hrb, hss, HB3.out.2.1.lt, hb4.size⟩
  have hpn := PfM.new w4 (.slice none 0 0) (.slice none 0 0)
  clear hrb hss hb4 HB3 hpv
  go_wp2_with (first | (refine wp_loadPf rfl _ rfl w4.heap.size _ _ rfl hfin ?_) | (refine wp_storePf rfl _ _ rfl w4.heap.size _ _ (.slice ab B.length cb) (.slice aS S.length cS) hpn rfl rfl rfl rfl ?_; intro hfin))
  obtain ⟨gp, hgp⟩ : ∃ gp, w4.heap.size = gp := ⟨_, rfl⟩
  have HA : Hid ((PfM ((w4.alloc (.cells #[.slice none 0 0, .slice none 0 0] 29)).setRow gp #[.slice ab B.length cb, .slice aS S.length cS]) r (.slice none 0 0) (.slice none 0 0) ∧ PfM ((w4.alloc (.cells #[.slice none 0 0, .slice none 0 0] 29)).setRow gp #[.slice ab B.length cb, .slice aS S.length cS]) (r + 1) (.slice none 0 0) (.slice none 0 0) ∧ b0 ≤ r ∧ Below b0 w0 ((w4.alloc (.cells #[.slice none 0 0, .slice none 0 0] 29)).setRow gp #[.slice ab B.length cb, .slice aS S.length cS])) ∧ RS 2 lcs ((w4.alloc (.cells #[.slice none 0 0, .slice none 0 0] 29)).setRow gp #[.slice ab B.length cb, .slice aS S.length cS]) (.slice ab B.length cb) gb 0 B ∧ SS ((w4.alloc (.cells #[.slice none 0 0, .slice none 0 0] 29)).setRow gp #[.slice ab B.length cb, .slice aS S.length cS]) (.slice aS S.length cS) gs 0 S ∧ PfM ((w4.alloc (.cells #[.slice none 0 0, .slice none 0 0] 29)).setRow gp #[.slice ab B.length cb, .slice aS S.length cS]) gp (.slice ab B.length cb) (.slice aS S.length cS) ∧ (r + 1 < gp ∧ (0 < B.length → gb < gp) ∧ (0 < S.length → gs < gp) ∧ r + 1 < gb ∧ r + 1 < gs)) := by
    have hbx : Below w4.heap.size w4 ((w4.alloc (.cells #[.slice none 0 0, .slice none 0 0] 29)).setRow w4.heap.size #[.slice ab B.length cb, .slice aS S.length cS]) := below_setRow ((Below.refl _ _).alloc (Nat.le_refl _) _) (Nat.le_refl _)
    obtain ⟨⟨h1, h2, h3, h4⟩, h5, h6, h7, h8⟩ := HB4.out
    rw [← hgp]
    refine ⟨⟨h1.later hbx, h2.later hbx, h3, h4.trans (hbx.mono (by have := h1.lt; omega))⟩, h5.later hbx, h6.below hbx h6.lt, hfin, by omega, fun h0 => ?_, h6.lt, by omega, by omega⟩
    obtain ⟨_, _, _, _, hx, _⟩ := h5
    exact (hx h0).2
  rw [hgp]
  clear HB4 hpn hfin hgb hgs
  generalize (w4.alloc (.cells #[.slice none 0 0, .slice none 0 0] 29)).setRow gp #[.slice ab B.length cb, .slice aS S.length cS] = wA at *
  clear hgp
  refine (l11Copy_any ab cb aS cS gb gs B S wA HA.out.2.1 HA.out.2.2.1 n1 n2 (by have := HPF.out.2.1; omega) (by have := HPF.out.2.2.1; omega)).mono ?_
  rintro e w5 ⟨a5, c5, a6, c6, g5, gu, rfl, hr5, hs5, ⟨k5, k6⟩, hb5⟩
  have hpn5 := PfM.new w5 (.slice none 0 0) (.slice none 0 0)
  go_wp2_with (refine wp_storePf rfl _ _ rfl w5.heap.size _ _ (.slice a5 B.length c5) (.slice a6 S.length c6) hpn5 rfl rfl rfl rfl ?_; intro hfin5)
  obtain ⟨gq, hgq⟩ : ∃ gq, w5.heap.size = gq := ⟨_, rfl⟩
  have HL : Hid (FgS b0 w0 r gp gq (.slice ab B.length cb) (.slice aS S.length cS) (.slice a6 S.length c6) gb gs gu nm B S ((w5.alloc (.cells #[.slice none 0 0, .slice none 0 0] 29)).setRow gq #[.slice a5 B.length c5, .slice a6 S.length c6]) ∧ FgN r gp gq gb gs gu B.length S.length) := by
    have hbx : Below w5.heap.size w5 ((w5.alloc (.cells #[.slice none 0 0, .slice none 0 0] 29)).setRow w5.heap.size #[.slice a5 B.length c5, .slice a6 S.length c6]) := below_setRow ((Below.refl _ _).alloc (Nat.le_refl _) _) (Nat.le_refl _)
    obtain ⟨⟨h1, h2, h3, h4⟩, h5, h6, h7, m1, m2, m3, m4, m5⟩ := HA.out
    have hbb := hb5.trans (hbx.mono hb5.size)
    have l1 := h7.lt
    have l2 := hb5.size
    rw [← hgq]
    refine ⟨⟨h4.trans (hbb.mono (by have := h1.lt; omega)), h3, h1.later hbb, h2.later hbb, h7.later hbb, h5.later hbb, h6.below hbb h6.lt, hs5.below hbx hs5.lt, _, g5, B, hfin5, hr5.later hbx, HPF.out.1, by omega, rfl⟩, by omega, by omega, fun h0 => ?_, fun h0 => ⟨?_, hs5.lt h0⟩, m4, m5, by omega⟩
    · have := m2 h0
      omega
    · have := m3 h0
      omega
  rw [hgq]
  clear HA hpn5 hfin5 hr5 hs5 k5 k6 hb5
  generalize (w5.alloc (.cells #[.slice none 0 0, .slice none 0 0] 29)).setRow gq #[.slice a5 B.length c5, .slice a6 S.length c6] = wB at *
  clear hgq
  have HN : Hid (FgN r gp gq gb gs gu B.length S.length) := HL.out.2
  have HST : Hid (FgL b0 w0 r gp gq (.slice ab B.length cb) (.slice aS S.length cS) (.slice a6 S.length c6) gb gs gu nm B S (.int .i64 0) wB) := ⟨0, by omega, rfl, HL.out.1⟩
  clear HL
  go_loopw [10] (fun i wr => FgL b0 w0 r gp gq (.slice ab B.length cb) (.slice aS S.length cS) (.slice a6 S.length c6) gb gs gu nm B S i wr) (fun i _ => 600 - (intOf i).toNat)
  case atStart => exact HST.out
  case round =>
    obtain ⟨m, hm, rfl, HI⟩ := hrel
    clear HST
    by_cases hlt : m < 600
    · have i1 : (m : Int) < 600 := by omega
      have hde := fDec_any m (by omega) wr
      obtain ⟨zok, zsz⟩ := fT_facts m (by omega)
      go_wp2_with fail
      refine hde.mono ?_
      rintro e w6 ⟨rfl, hb6⟩
      have H6 : Hid (FgS b0 w0 r gp gq (.slice ab B.length cb) (.slice aS S.length cS) (.slice a6 S.length c6) gb gs gu nm B S w6) := HI.out.later HI.out.size hb6
      have hlb : LV.leB ⟨nm, fT m⟩ = true := by unfold LV.leB; rw [hnk.1, zok]; rfl
      have hpb := LV.putB_yes (f := ⟨nm, fT m⟩) HPF.out.1.1 (by have := HPF.out.2.1; omega) hlb
      have hput := sLeafPut_any ab cb gb 0 B nm (fT m) w6 H6.out.2.2.2.2.2.1 n1 (fun f hf => by have := leB_size (HPF.out.1.1.2.1 f hf); omega) (by have := HPF.out.2.1; omega) (by omega) (by omega)
      rw [hpb, putR_yes hpb] at hput
      have HCn : Hid (FgB nm (LV.put B ⟨nm, fT m⟩)) := ⟨LV.putB_ok hpb, fun f hf => by
        rcases LV.mem_put.1 hf with rfl | hf'
        · rfl
        · exact HPF.out.1.2 f hf'.1⟩
      generalize LV.put B ⟨nm, fT m⟩ = C at *
      unfold fT at hput zsz
      rw [ByteArray.size_append] at zsz
      have hd1 : (⟨#[102]⟩ : ByteArray).size = 1 := rfl
      generalize (⟨(Lib.decDigits m).toArray⟩ : ByteArray) = DG at *
      have hdg : DG.size ≤ 20 := by omega
      have d0 := H6.out.2.2.2.2.1.c0
      clear HI hb6 hde zok hlb hpb
      go_wp2_with fail
      refine hput.mono ?_
      rintro e w7 ⟨a7, c7, g7, rfl, hr7, hg7, hb7⟩
      have H7 : Hid (FgS b0 w0 r gp gq (.slice ab B.length cb) (.slice aS S.length cS) (.slice a6 S.length c6) gb gs gu nm B S w7) := H6.out.later H6.out.size hb7
      have hq6 : gq < w6.heap.size := by
        obtain ⟨_, _, _, _, _, _, _, _, _, _, _, k1, _⟩ := H6.out
        exact k1.lt
      obtain ⟨ub, t0, f0, hk1⟩ : ∃ ub, w7.cell? ⟨gq, 0, none⟩ = some ub ∧ w7.frozen? ⟨gq, 0, none⟩ = false ∧ PfM w7 gq ub (.slice a6 S.length c6) := by
        obtain ⟨_, _, _, _, _, _, _, _, ub, _, _, k1, _⟩ := H7.out
        exact ⟨ub, k1.c0, k1.fr 0, k1⟩
      have H8 : Hid (FgS b0 w0 r gp gq (.slice ab B.length cb) (.slice aS S.length cS) (.slice a6 S.length c6) gb gs gu nm B S (w7.setCell ⟨gq, 0, none⟩ (.slice a7 C.length c7)) ∧ PfM (w7.setCell ⟨gq, 0, none⟩ (.slice a7 C.length c7)) gq (.slice a7 C.length c7) (.slice a6 S.length c6) ∧ RS 2 lcs (w7.setCell ⟨gq, 0, none⟩ (.slice a7 C.length c7)) (.slice a7 C.length c7) g7 0 C ∧ r + 1 < g7) := ⟨FgS.put HN.out H7.out hr7.1 (by omega) HCn.out rfl, hk1.set0 _, hr7.1.grown (grown_set _ _ _ _) (fun _ => by simp; omega), by have := HN.out.1; have := HN.out.2.1; omega⟩
      clear H6 H7 hr7 hg7 hb7 hput d0 hk1 hq6
      go_wp2_with fail
      clear t0 f0
      generalize w7.setCell ⟨gq, 0, none⟩ (.slice a7 C.length c7) = w8 at *
      have HCEL : Hid (∀ W, Below w8.heap.size w8 W → W.cell? ⟨gp, 0, none⟩ = some (.slice ab B.length cb) ∧ W.cell? ⟨gp, 1, none⟩ = some (.slice aS S.length cS) ∧ W.cell? ⟨gq, 0, none⟩ = some (.slice a7 C.length c7) ∧ W.cell? ⟨gq, 1, none⟩ = some (.slice a6 S.length c6)) := fun W hW => ⟨cell_up H8.out.1.2.2.2.2.1.c0 hW, cell_up H8.out.1.2.2.2.2.1.c1 hW, cell_up H8.out.2.1.c0 hW, cell_up H8.out.2.1.c1 hW⟩
      have HP1 : Hid (∀ W, Below w8.heap.size w8 W → Calls Tryz.prog 31 #[.string nm, .agg #[.slice a7 C.length c7, .slice a6 S.length c6], .int .i64 1] W fun e w' => e = .returned (.string (phA nm C S 1)) ∧ Below W.heap.size W w') := fun W hW => sProofHash_any nm _ _ g7 0 gu 0 C S 1 W (by omega) (H8.out.2.2.1.later hW) (fun f hf => by have := leB_size (HCn.out.1.2.1 f hf); omega) (H8.out.1.2.2.2.2.2.2.2.1.below hW H8.out.1.2.2.2.2.2.2.2.1.lt)
      have HP2 : Hid (∀ W, Below w8.heap.size w8 W → Calls Tryz.prog 31 #[.string nm, .agg #[.slice ab B.length cb, .slice aS S.length cS], .int .i64 1] W fun e w' => e = .returned (.string (phA nm B S 1)) ∧ Below W.heap.size W w') := fun W hW => sProofHash_any nm _ _ gb 0 gs 0 B S 1 W (by omega) (H8.out.1.2.2.2.2.2.1.later hW) (fun f hf => by have := leB_size (HPF.out.1.1.2.1 f hf); omega) (H8.out.1.2.2.2.2.2.2.1.below hW H8.out.1.2.2.2.2.2.2.1.lt)
      generalize phA nm C S 1 = X at *
      generalize phA nm B S 1 = Y at *
      have hb0 : Below w8.heap.size w8 w8.drew := (Below.refl _ _).drew
      obtain ⟨qb, hqb⟩ : ∃ qb, (X.toList == Y.toList) = qb := ⟨_, rfl⟩
      go_region_held3 (fun W => W.cell? ⟨gp, 0, none⟩ = some (.slice ab B.length cb) ∧ W.cell? ⟨gp, 1, none⟩ = some (.slice aS S.length cS) ∧ W.cell? ⟨gq, 0, none⟩ = some (.slice a7 C.length c7) ∧ W.cell? ⟨gq, 1, none⟩ = some (.slice a6 S.length c6)) (first | (go_keep; done) | exact HCEL.out _ hb0) (first | (go_at_call 31; first | ((with_reducible refine (HP1.out _ hb0).mono ?_); rintro e w9 ⟨rfl, hc9⟩; have hb0 := hb0.trans (hc9.mono hb0.size)) | ((with_reducible refine (HP2.out _ hb0).mono ?_); rintro e w10 ⟨rfl, hc10⟩; have hb0 := hb0.trans (hc10.mono hb0.size)) | fail) | fail)
      have H10 : Hid (FgS b0 w0 r gp gq (.slice ab B.length cb) (.slice aS S.length cS) (.slice a6 S.length c6) gb gs gu nm B S w10 ∧ PfM w10 gq (.slice a7 C.length c7) (.slice a6 S.length c6) ∧ RS 2 lcs w10 (.slice a7 C.length c7) g7 0 C ∧ r + 1 < g7) := ⟨H8.out.1.later H8.out.1.size hb0, H8.out.2.1.later hb0, H8.out.2.2.1.later hb0, H8.out.2.2.2⟩
      clear H8 HCEL HP1 HP2 hc9 hc10 hb0
      try rename_i hHeld
      try clear hHeld
      cases qb with
      | true =>
        obtain ⟨⟨h1, h2, h3, h4, h5, h6, h7, h8, _⟩, k1, k2, k4⟩ := H10.out
        have HE : Hid _ := FgS.end HN.out h1 h2 h3 h4 h6 h7 h8 k2 HCn.out k4 hnk HPF.out.1 HPF.out.2.2
        have e1 : gp ≠ r := by have := HN.out.1; omega
        have e2 : gp ≠ r + 1 := by have := HN.out.1; omega
        have e3 : gq ≠ r := by have := HN.out.1; have := HN.out.2.1; omega
        have e4 : gq ≠ r + 1 := by have := HN.out.1; have := HN.out.2.1; omega
        have t0 := h3.c0
        have t1 := h3.c1
        have t2 := h4.c0
        have t3 := h4.c1
        have f0 := h3.fr 0
        have f1 := h3.fr 1
        have f2 := h4.fr 0
        have f3 := h4.fr 1
        have d0 := h5.c0
        have d1 := h5.c1
        have d2 := k1.c0
        have d3 := k1.c1
        clear h1 h2 h3 h4 h5 h6 h7 h8 k1 k2 k4 H10 HPF HN HCn
        go_wp2_with fail
        go_region
        generalize (((w10.setCell ⟨r, 0, none⟩ (.slice ab B.length cb)).setCell ⟨r, 1, none⟩ (.slice aS S.length cS)).setCell ⟨r + 1, 0, none⟩ (.slice a7 C.length c7)).setCell ⟨r + 1, 1, none⟩ (.slice a6 S.length c6) = wF at HE ⊢
        clear t0 t1 t2 t3 f0 f1 f2 f3 d0 d1 d2 d3
        go_wp2
        exact ret_pf3 2 3 4 r (r + 1) (.string nm) _ _ _ _ rfl rfl rfl rfl rfl HE.out.1 HE.out.2.1 HE.out.2.2.drew
      | false =>
        have HK : Hid (FgS b0 w0 r gp gq (.slice ab B.length cb) (.slice aS S.length cS) (.slice a6 S.length c6) gb gs gu nm B S w10) := H10.out.1
        clear H10 HPF HN HCn
        go_wp2
        go_roundw
        case rel => exact ⟨m + 1, by omega, by go_num, HK⟩
        case measure => simp [intOf]; omega
    · have hme : m = 600 := by omega
      subst hme
      have i1 : ¬ ((600 : Nat) : Int) < 600 := by omega
      obtain ⟨h1, h2, h3, h4, h5, h6, h7, h8, ub, hb', C, k1, k2, k3, k4, k5⟩ := HI.out
      obtain ⟨au, cu, rfl⟩ := k2.shape
      have HE : Hid _ := FgS.end HN.out h1 h2 h3 h4 h6 h7 h8 k2 k3 k4 hnk HPF.out.1 HPF.out.2.2
      have n1 : gp ≠ r := by have := HN.out.1; omega
      have n2 : gp ≠ r + 1 := by have := HN.out.1; omega
      have n3 : gq ≠ r := by have := HN.out.1; have := HN.out.2.1; omega
      have n4 : gq ≠ r + 1 := by have := HN.out.1; have := HN.out.2.1; omega
      have t0 := h3.c0
      have t1 := h3.c1
      have t2 := h4.c0
      have t3 := h4.c1
      have f0 := h3.fr 0
      have f1 := h3.fr 1
      have f2 := h4.fr 0
      have f3 := h4.fr 1
      have d0 := h5.c0
      have d1 := h5.c1
      have d2 := k1.c0
      have d3 := k1.c1
      clear h1 h2 h3 h4 h5 h6 h7 h8 k1 k2 k3 k4 k5 HI HPF HN
      go_wp2_with fail
      go_region
      generalize (((wr.setCell ⟨r, 0, none⟩ (.slice ab B.length cb)).setCell ⟨r, 1, none⟩ (.slice aS S.length cS)).setCell ⟨r + 1, 0, none⟩ (.slice au C.length cu)).setCell ⟨r + 1, 1, none⟩ (.slice a6 S.length c6) = wF at HE ⊢
      clear t0 t1 t2 t3 f0 f1 f2 f3 d0 d1 d2 d3
      go_wp2
      exact ret_pf3 2 3 4 r (r + 1) (.string nm) _ _ _ _ rfl rfl rfl rfl rfl HE.out.1 HE.out.2.1 HE.out.2.2.drew

end Go.Proofs.YtfojmagcoipbnaaGreatDoor
/-
  A proof drawn, a text of one, two of them.
-/
namespace Go.Proofs.YtfojmagcoipbnaaGreatDoor
open Go.RowKit Go.BigFrame Go.Sort
set_option linter.unusedVariables false
set_option linter.unusedSimpArgs false

theorem ret_tpn {fn : Func} {Rp : Ending → World → Prop} {a : Act} {w : World} (s c d g : Nat) (b v1 v2 x : Value) (hres : fn.results = #[.tmp s, .cell c 29, .tmp d]) (hd : a.defers = []) (hb : a.tmps.getD s undef = b) (hp : a.tmps.getD c undef = .pointer (some ⟨g, 0, none⟩)) (hx : a.tmps.getD d undef = x)
    (hA : PfM w g v1 v2) (h : Rp (.returned (.tuple #[b, .agg #[v1, v2], x])) w) : bodyPost Tryz.prog fn Rp .ret a w := by
  have hr := load_pf hA
  refine bodyPost_ret (v := .tuple #[b, .agg #[v1, v2], x]) ?_ hd h
  have hp' : a.tmps[c]?.getD undef = .pointer (some ⟨g, 0, none⟩) := by simpa using hp
  have hb' : a.tmps[s]?.getD undef = b := by simpa using hb
  have hx' : a.tmps[d]?.getD undef = x := by simpa using hx
  simp [results, hres, asAddr, hr, hp', hb', hx']

def pkL : List Int := [16, 16, 1, 32, 3]
def pkC : Array Value := #[.int .i64 16, .int .i64 16, .int .i64 1, .int .i64 32, .int .i64 3]
theorem pk_at (w : World) : Hid (∀ j, (h : j < pkL.length) → (w.alloc (.cells pkC 3)).cell? ⟨w.heap.size, j, none⟩ = some (.int .i64 pkL[j])) := by
  intro j hj
  rw [World.cell?_alloc_at _ _ _ _ rfl]
  have : j = 0 ∨ j = 1 ∨ j = 2 ∨ j = 3 ∨ j = 4 := by simp [pkL] at hj; omega
  rcases this with rfl | rfl | rfl | rfl | rfl <;> rfl
def pmL : List Int := [0, 33, 5]
def pmC : Array Value := #[.int .i64 0, .int .i64 33, .int .i64 5]
theorem pm_at (w : World) : Hid (∀ j, (h : j < pmL.length) → (w.alloc (.cells pmC 3)).cell? ⟨w.heap.size, j, none⟩ = some (.int .i64 pmL[j])) := by
  intro j hj
  rw [World.cell?_alloc_at _ _ _ _ rfl]
  have : j = 0 ∨ j = 1 ∨ j = 2 := by simp [pmL] at hj; omega
  rcases this with rfl | rfl | rfl <;> rfl

/-- the drawing under way: the cursor, the answer's box, the proof in its own -/
def DoS (b0 : Nat) (w0 w : World) (g : Nat) (v : Value) (r gp : Nat) (vb vs : Value) (gb gs : Nat) (B : List Le) (S : List ByteArray) (W : World) : Prop :=
  Cur b0 w0 W g v ∧ PfM W r (.slice none 0 0) (.slice none 0 0) ∧ PfM W gp vb vs ∧ RS 2 lcs W vb gb 0 B ∧ SS W vs gs 0 S ∧ (w.heap.size ≤ r ∧ r < b0 ∧ g < gp ∧ g < gb ∧ g < gs) ∧ Below w.heap.size w w0
def DoP (w : World) (e : Ending) (w' : World) : Prop := ∃ (nm : ByteArray) (vb vs : Value) (gb gs : Nat) (B : List Le) (S : List ByteArray) (x : Int), e = .returned (.tuple #[.string nm, .agg #[vb, vs], .int .i64 x]) ∧ DpF 40 nm B S ∧ RS 2 lcs w' vb gb 0 B ∧ SS w' vs gs 0 S ∧ Below w.heap.size w w'
theorem DoP.drew {w : World} {e : Ending} {w' : World} (h : DoP w e w') : DoP w e w'.drew := by
  obtain ⟨nm, vb, vs, gb, gs, B, S, x, h1, h2, h3, h4, h5⟩ := h
  exact ⟨nm, vb, vs, gb, gs, B, S, x, h1, h2, h3, h4, h5.drew⟩
section
variable {b0 : Nat} {w0 w : World} {g : Nat} {v : Value} {r gp gb gs : Nat} {vb vs : Value} {B : List Le} {S : List ByteArray} {W W' : World}
theorem DoS.drawn (h : DoS b0 w0 w g v r gp vb vs gb gs B S W) (hc : Cur b0 w0 W' g v) (hg : W.grownBy W' (some g)) : DoS b0 w0 w g v r gp vb vs gb gs B S W' := by
  obtain ⟨h1, h2, h3, h4, h5, ⟨h6, h7, h8, h9, h10⟩, h11⟩ := h
  have hB := h1.1
  exact ⟨hc, h2.gr hg (by simp; omega), h3.gr hg (by simp; omega), h4.grown hg (fun _ => by simp; omega), h5.grown hg (fun _ => by simp; omega), ⟨h6, h7, h8, h9, h10⟩, h11⟩
theorem do_end (h : DoS b0 w0 w g v r gp vb vs gb gs B S W) {nm : ByteArray} (hp : DpF 40 nm B S) (x : Int) : PfM ((W.setCell ⟨r, 0, none⟩ vb).setCell ⟨r, 1, none⟩ vs) r vb vs ∧ DoP w (.returned (.tuple #[.string nm, .agg #[vb, vs], .int .i64 x])) ((W.setCell ⟨r, 0, none⟩ vb).setCell ⟨r, 1, none⟩ vs) := by
  obtain ⟨h1, h2, h3, h4, h5, ⟨h6, h7, h8, h9, h10⟩, h11⟩ := h
  have hB := h1.1
  have s1 := grown_set W r 0 vb
  have s2 := grown_set (W.setCell ⟨r, 0, none⟩ vb) r 1 vs
  have hlt := h2.lt
  have b1 : Below w.heap.size w W := h11.trans (h1.2.1.mono (by omega))
  have b2 := b1.grown s1 b1.size (fun k hk => by simp at hk; omega)
  have b3 := b2.grown s2 b2.size (fun k hk => by simp at hk; omega)
  exact ⟨(h2.set0 vb).set1 vs, nm, vb, vs, gb, gs, B, S, x, rfl, hp, (h4.grown s1 (fun _ => by simp; omega)).grown s2 (fun _ => by simp; omega), (h5.grown s1 (fun _ => by simp; omega)).grown s2 (fun _ => by simp; omega), b3⟩
end

set_option maxRecDepth 100000 in
set_option maxHeartbeats 4000000 in
theorem DrawProofOk_any (w : World) (v : Value) (hc : Code w.heap.size w v) :
    Calls Tryz.prog 24 #[v] w (DoP w) := by
  have hba : Below w.heap.size w (w.alloc (.cells #[.slice none 0 0, .slice none 0 0] 29)) := (Below.refl _ _).alloc (Nat.le_refl _) _
  have HC : Hid (Code (w.alloc (.cells #[.slice none 0 0, .slice none 0 0] 29)).heap.size (w.alloc (.cells #[.slice none 0 0, .slice none 0 0] 29)) v) := code_laterR hc hba
  have hpR := PfM.new w (.slice none 0 0) (.slice none 0 0)
  have hsz : (w.alloc (.cells #[.slice none 0 0, .slice none 0 0] 29)).heap.size = w.heap.size + 1 := by simp
  clear hc
  go_enter Tryz.func24, Tryz.ntmps24
  go_wp2_with fail
  generalize w.alloc (.cells #[.slice none 0 0, .slice none 0 0] 29) = wS at *
  refine (l01New_in wS v HC.out).mono ?_
  rintro e w1 ⟨g, rfl, hc1, hb1⟩
  have CP := pickI_lit wS.heap.size wS w1 g v 5 pkL pkC hc1 rfl (by omega) (by omega) (pk_at w1)
  go_wp2_with fail
  refine CP.out.mono ?_
  rintro e w2 ⟨x, hx, rfl, hc2, hg2⟩
  have hx' : 1 ≤ x ∧ x ≤ 32 := by simp [pkL] at hx; omega
  clear CP hb1 hc1 hg2
  go_wp2_with fail
  refine (l11Any_in wS.heap.size wS w2 g v x hx' hc2).mono ?_
  rintro e w3 ⟨nm, vb, vs, gb, gs, B, S, rfl, hpf, hrb, hss, ⟨hgb, hgs⟩, hc3, hg3⟩
  obtain ⟨ab, nb, cb, rfl⟩ : ∃ a n c, vb = .slice a n c := by obtain ⟨a, c, e⟩ := hrb.shape; exact ⟨a, _, c, e⟩
  obtain ⟨aS, nS, cS, rfl⟩ : ∃ a n c, vs = .slice a n c := by obtain ⟨a, c, e, _⟩ := hss; exact ⟨a, _, c, e⟩
  have hpn := PfM.new w3 (.slice none 0 0) (.slice none 0 0)
  have hbx : Below w3.heap.size w3 ((w3.alloc (.cells #[.slice none 0 0, .slice none 0 0] 29)).setRow w3.heap.size #[.slice ab nb cb, .slice aS nS cS]) := below_setRow ((Below.refl _ _).alloc (Nat.le_refl _) _) (Nat.le_refl _)
  have HD : Hid (∀ (hf : PfM ((w3.alloc (.cells #[.slice none 0 0, .slice none 0 0] 29)).setRow w3.heap.size #[.slice ab nb cb, .slice aS nS cS]) w3.heap.size (.slice ab nb cb) (.slice aS nS cS)), DoS wS.heap.size wS w g v w.heap.size w3.heap.size (.slice ab nb cb) (.slice aS nS cS) gb gs B S ((w3.alloc (.cells #[.slice none 0 0, .slice none 0 0] 29)).setRow w3.heap.size #[.slice ab nb cb, .slice aS nS cS])) := fun hf =>
    ⟨hc3.kept (grown_below (row := none) hbx) (by simp) hc3.size (fun k hk => by cases hk), (hpR.later hc3.2.1).later hbx, hf, hrb.later hbx, hss.below hbx hss.lt, ⟨Nat.le_refl _, by omega, hc3.lt, hgb, hgs⟩, hba⟩
  clear hpR hba HC hc2 hc3 hg3 hrb hss hbx hgb hgs
  go_wp2_with (refine wp_storePf rfl _ _ rfl w3.heap.size _ _ (.slice ab nb cb) (.slice aS nS cS) hpn rfl rfl rfl rfl ?_; intro hfin)
  obtain ⟨gp, hgp⟩ : ∃ gp, w3.heap.size = gp := ⟨_, rfl⟩
  have HI : Hid (DoS wS.heap.size wS w g v w.heap.size w3.heap.size (.slice ab nb cb) (.slice aS nS cS) gb gs B S ((w3.alloc (.cells #[.slice none 0 0, .slice none 0 0] 29)).setRow w3.heap.size #[.slice ab nb cb, .slice aS nS cS])) := HD.out hfin
  rw [hgp] at HI ⊢
  clear HD hpn hfin
  generalize (w3.alloc (.cells #[.slice none 0 0, .slice none 0 0] 29)).setRow gp #[.slice ab nb cb, .slice aS nS cS] = w4 at HI ⊢
  obtain ⟨r, hr⟩ : ∃ r, w.heap.size = r := ⟨_, rfl⟩
  rw [hr] at HI ⊢
  refine (l01Once_in wS.heap.size wS _ g v 12 12 rfl HI.out.1 (by omega) (by omega)).mono ?_
  rintro e w5 ⟨b, rfl, hc5, hg5⟩
  have H5 : Hid (DoS wS.heap.size wS w g v r gp (.slice ab nb cb) (.slice aS nS cS) gb gs B S w5) := HI.out.drawn hc5 hg5
  have hne : gp ≠ r := by have := HI.out.2.2.2.2.2.1; have := HI.out.1.1; omega
  clear HI hc5 hg5
  cases b with
  | true =>
    have CP := pickI_lit wS.heap.size wS w5 g v 3 pmL pmC H5.out.1 rfl (by omega) (by omega) (pm_at w5)
    go_wp2_with fail
    refine CP.out.mono ?_
    rintro e w6 ⟨y, hy, rfl, hc6, hg6⟩
    have H6 : Hid (DoS wS.heap.size wS w g v r gp (.slice ab nb cb) (.slice aS nS cS) gb gs B S w6) := H5.out.drawn hc6 hg6
    have HE : Hid _ := do_end H6.out hpf y
    have t0 := H6.out.2.1.c0
    have t1 := H6.out.2.1.c1
    have f0 := H6.out.2.1.fr 0
    have f1 := H6.out.2.1.fr 1
    have d0 := H6.out.2.2.1.c0
    have d1 := H6.out.2.2.1.c1
    clear H6 H5 hc6 hg6 CP
    go_wp2_with fail
    go_region
    generalize (w6.setCell ⟨r, 0, none⟩ (.slice ab nb cb)).setCell ⟨r, 1, none⟩ (.slice aS nS cS) = wF at HE ⊢
    clear t0 t1 f0 f1 d0 d1
    go_wp2
    exact ret_tpn 2 3 4 r (.string nm) _ _ (.int .i64 y) rfl rfl rfl rfl rfl HE.out.1 HE.out.2.drew
  | false =>
    have HE : Hid _ := do_end H5.out hpf x
    have t0 := H5.out.2.1.c0
    have t1 := H5.out.2.1.c1
    have f0 := H5.out.2.1.fr 0
    have f1 := H5.out.2.1.fr 1
    have d0 := H5.out.2.2.1.c0
    have d1 := H5.out.2.2.1.c1
    clear H5
    go_wp2_with fail
    go_region
    generalize (w5.setCell ⟨r, 0, none⟩ (.slice ab nb cb)).setCell ⟨r, 1, none⟩ (.slice aS nS cS) = wF at HE ⊢
    clear t0 t1 f0 f1 d0 d1
    go_wp2
    exact ret_tpn 2 3 4 r (.string nm) _ _ (.int .i64 x) rfl rfl rfl rfl rfl HE.out.1 HE.out.2.drew

theorem flat_le64 {S : List ByteArray} (hs : ∀ t ∈ S, t.size ≤ 64) : (S.map (·.data.toList)).flatten.length ≤ S.length * 64 := by
  induction S with
  | nil => simp
  | cons a r ih =>
    have htl := LV.toList_len a
    have ha := hs a (by simp)
    have := ih (fun t ht => hs t (by simp [ht]))
    simp only [List.map_cons, List.flatten_cons, List.length_append, List.length_cons]
    omega
theorem pxT_size64 {B : List Le} {S : List ByteArray} {x : Int} (hs : ∀ t ∈ S, t.size ≤ 64) (h8 : S.length ≤ 40) : (pxT B S x).size ≤ 1000000 := by
  unfold pxT
  split
  · have h1 := lvT_le B
    have h2 := flat_le64 hs
    have h3 := M.varL_len S.length
    unfold joinT
    rw [ByteArray.size_append, ByteArray.size_append]
    show (lvT B).size + (M.varL S.length).length + (S.map (·.data.toList)).flatten.length ≤ _
    omega
  · show (0 : Nat) ≤ _
    omega

def DrP (w : World) (e : Ending) (w' : World) : Prop := ∃ (t : ByteArray) (x : Int), e = .returned (.tuple #[.string t, .int .i64 x]) ∧ t.size ≤ 1048576 ∧ Below w.heap.size w w'
set_option maxRecDepth 100000 in
set_option maxHeartbeats 4000000 in
theorem DrawReadProof_any (w : World) (v : Value) (hc : Code w.heap.size w v) :
    Calls Tryz.prog 25 #[v] w (DrP w) := by
  have HC : Hid (∀ W, Below w.heap.size w W → Code W.heap.size W v) := fun W hW => code_laterR hc hW
  go_enter Tryz.func25, Tryz.ntmps25
  go_wp2_with fail
  refine (l01New_in w v hc).mono ?_
  rintro e w1 ⟨g, rfl, hc1, hb1⟩
  go_wp2_with fail
  refine (l01Below_in w.heap.size w _ g v 4 4 rfl hc1 (by omega) (by omega)).mono ?_
  rintro e w2 ⟨k, hk, rfl, hc2, hg2⟩
  clear hc hc1 hb1 hg2
  go_wp2_with fail
  refine (DrawProofOk_any w2 v (HC.out _ hc2.2.1)).mono ?_
  rintro e w3 ⟨nm, vb, vs, gb, gs, B, S, x, rfl, hpf, hrb, hss, hb3⟩
  obtain ⟨ab, nb, cb, rfl⟩ : ∃ a n c, vb = .slice a n c := by obtain ⟨a, c, e⟩ := hrb.shape; exact ⟨a, _, c, e⟩
  obtain ⟨aS, nS, cS, rfl⟩ : ∃ a n c, vs = .slice a n c := by obtain ⟨a, c, e, _⟩ := hss; exact ⟨a, _, c, e⟩
  have hpn := PfM.new w3 (.slice none 0 0) (.slice none 0 0)
  have hbx : Below w3.heap.size w3 ((w3.alloc (.cells #[.slice none 0 0, .slice none 0 0] 29)).setRow w3.heap.size #[.slice ab nb cb, .slice aS nS cS]) := below_setRow ((Below.refl _ _).alloc (Nat.le_refl _) _) (Nat.le_refl _)
  have HS : Hid (Cur w.heap.size w ((w3.alloc (.cells #[.slice none 0 0, .slice none 0 0] 29)).setRow w3.heap.size #[.slice ab nb cb, .slice aS nS cS]) g v ∧ RS 2 lcs ((w3.alloc (.cells #[.slice none 0 0, .slice none 0 0] 29)).setRow w3.heap.size #[.slice ab nb cb, .slice aS nS cS]) (.slice ab nb cb) gb 0 B ∧ SS ((w3.alloc (.cells #[.slice none 0 0, .slice none 0 0] 29)).setRow w3.heap.size #[.slice ab nb cb, .slice aS nS cS]) (.slice aS nS cS) gs 0 S) := by
    have hc3 := hc2.kept (grown_below (row := none) hb3) (by simp) hc2.size (fun k hk => by cases hk)
    exact ⟨hc3.kept (grown_below (row := none) hbx) (by simp) hc3.size (fun k hk => by cases hk), hrb.later hbx, hss.below hbx hss.lt⟩
  have hTs : (pxT B S x).size ≤ 1000000 := pxT_size64 hpf.2.2.2 hpf.2.2.1
  have hsm := hpf.2.1.1
  clear hb3 hc2 hrb hss hbx HC hpf
  go_wp2_with (first | (refine wp_loadPf rfl _ rfl w3.heap.size _ _ rfl hfin ?_) | (refine wp_storePf rfl _ _ rfl w3.heap.size _ _ (.slice ab nb cb) (.slice aS nS cS) hpn rfl rfl rfl rfl ?_; intro hfin))
  clear hpn hfin
  generalize (w3.alloc (.cells #[.slice none 0 0, .slice none 0 0] 29)).setRow w3.heap.size #[.slice ab nb cb, .slice aS nS cS] = w4 at HS ⊢
  refine (sProofText_any _ _ gb 0 gs 0 B S x _ HS.out.2.1 hsm HS.out.2.2).mono ?_
  rintro e w5 ⟨rfl, hb5⟩
  have H5 : Hid (Cur w.heap.size w w5 g v) := HS.out.1.kept (grown_below (row := none) hb5) (by simp) HS.out.1.size (fun k hk => by cases hk)
  generalize pxT B S x = T at *
  generalize pxB B S x = F at *
  clear HS hb5 hsm
  by_cases hk0 : k = 0
  · subst hk0
    go_wp2_with fail
    refine (l02Spoilt_in w.heap.size w _ g v T H5.out (by omega)).mono ?_
    rintro e w6 ⟨y, rfl, hy, hc6, hg6⟩
    go_wp2
    go_ret2
    exact ⟨_, _, rfl, by omega, hc6.2.1⟩
  · have hk1 : ¬ (k : Int) = 0 := by omega
    go_wp2
    go_ret2
    exact ⟨_, _, rfl, by omega, H5.out.2.1⟩

theorem ret_tppn {fn : Func} {Rp : Ending → World → Prop} {a : Act} {w : World} (s c d q g g' : Nat) (b v1 v2 u1 u2 x : Value) (hres : fn.results = #[.tmp s, .cell c 29, .cell d 29, .tmp q]) (hd : a.defers = []) (hb : a.tmps.getD s undef = b) (hp : a.tmps.getD c undef = .pointer (some ⟨g, 0, none⟩)) (hq : a.tmps.getD d undef = .pointer (some ⟨g', 0, none⟩)) (hx : a.tmps.getD q undef = x)
    (hA : PfM w g v1 v2) (hB : PfM w g' u1 u2) (h : Rp (.returned (.tuple #[b, .agg #[v1, v2], .agg #[u1, u2], x])) w) : bodyPost Tryz.prog fn Rp .ret a w := by
  have hr := load_pf hA
  have hr' := load_pf hB
  refine bodyPost_ret (v := .tuple #[b, .agg #[v1, v2], .agg #[u1, u2], x]) ?_ hd h
  have hp' : a.tmps[c]?.getD undef = .pointer (some ⟨g, 0, none⟩) := by simpa using hp
  have hq' : a.tmps[d]?.getD undef = .pointer (some ⟨g', 0, none⟩) := by simpa using hq
  have hb' : a.tmps[s]?.getD undef = b := by simpa using hb
  have hx' : a.tmps[q]?.getD undef = x := by simpa using hx
  simp [results, hres, asAddr, hr, hr', hp', hq', hb', hx']

/-- two proofs in their boxes, and the answer's two boxes -/
def X2S (w : World) (r gp gq : Nat) (vb vs ub us : Value) (gb gs hb hs : Nat) (B : List Le) (S : List ByteArray) (C : List Le) (T : List ByteArray) (W : World) : Prop :=
  (PfM W r (.slice none 0 0) (.slice none 0 0) ∧ PfM W (r + 1) (.slice none 0 0) (.slice none 0 0) ∧ PfM W gp vb vs ∧ PfM W gq ub us) ∧ (RS 2 lcs W vb gb 0 B ∧ SS W vs gs 0 S ∧ RS 2 lcs W ub hb 0 C ∧ SS W us hs 0 T) ∧ (w.heap.size ≤ r ∧ r + 1 < gp ∧ r + 1 < gq ∧ r + 1 < gb ∧ r + 1 < gs ∧ r + 1 < hb ∧ r + 1 < hs) ∧ Below w.heap.size w W
def X2P (w : World) (e : Ending) (w' : World) : Prop := ∃ (nm : ByteArray) (vb vs ub us : Value) (gb gs hb hs : Nat) (B : List Le) (S : List ByteArray) (C : List Le) (T : List ByteArray) (x : Int), e = .returned (.tuple #[.string nm, .agg #[vb, vs], .agg #[ub, us], .int .i64 x]) ∧ (nm.size ≤ 12 ∧ SmallL B ∧ SmallL C) ∧ RS 2 lcs w' vb gb 0 B ∧ SS w' vs gs 0 S ∧ RS 2 lcs w' ub hb 0 C ∧ SS w' us hs 0 T ∧ Below w.heap.size w w'
theorem X2P.drew {w : World} {e : Ending} {w' : World} (h : X2P w e w') : X2P w e w'.drew := by
  obtain ⟨nm, vb, vs, ub, us, gb, gs, hb, hs, B, S, C, T, x, h1, h2, h3, h4, h5, h6, h7⟩ := h
  exact ⟨nm, vb, vs, ub, us, gb, gs, hb, hs, B, S, C, T, x, h1, h2, h3, h4, h5, h6, h7.drew⟩
theorem x2_end {w W : World} {r gp gq gb gs hb hs : Nat} {vb vs ub us : Value} {B : List Le} {S : List ByteArray} {C : List Le} {T : List ByteArray} (h : X2S w r gp gq vb vs ub us gb gs hb hs B S C T W) {nm : ByteArray} (hn : nm.size ≤ 12 ∧ SmallL B ∧ SmallL C) (x : Int) : PfM ((((W.setCell ⟨r, 0, none⟩ vb).setCell ⟨r, 1, none⟩ vs).setCell ⟨r + 1, 0, none⟩ ub).setCell ⟨r + 1, 1, none⟩ us) r vb vs ∧ PfM ((((W.setCell ⟨r, 0, none⟩ vb).setCell ⟨r, 1, none⟩ vs).setCell ⟨r + 1, 0, none⟩ ub).setCell ⟨r + 1, 1, none⟩ us) (r + 1) ub us ∧ X2P w (.returned (.tuple #[.string nm, .agg #[vb, vs], .agg #[ub, us], .int .i64 x])) ((((W.setCell ⟨r, 0, none⟩ vb).setCell ⟨r, 1, none⟩ vs).setCell ⟨r + 1, 0, none⟩ ub).setCell ⟨r + 1, 1, none⟩ us) := by
  obtain ⟨⟨p1, p2, p3, p4⟩, ⟨h1, h2, h3, h4⟩, ⟨n0, n1, n2, n3, n4, n5, n6⟩, hb0⟩ := h
  have s1 := grown_set W r 0 vb
  have s2 := grown_set (W.setCell ⟨r, 0, none⟩ vb) r 1 vs
  have s3 := grown_set ((W.setCell ⟨r, 0, none⟩ vb).setCell ⟨r, 1, none⟩ vs) (r + 1) 0 ub
  have s4 := grown_set (((W.setCell ⟨r, 0, none⟩ vb).setCell ⟨r, 1, none⟩ vs).setCell ⟨r + 1, 0, none⟩ ub) (r + 1) 1 us
  have b1 := hb0.grown s1 hb0.size (fun k hk => by simp at hk; omega)
  have b2 := b1.grown s2 b1.size (fun k hk => by simp at hk; omega)
  have b3 := b2.grown s3 b2.size (fun k hk => by simp at hk; omega)
  have b4 := b3.grown s4 b3.size (fun k hk => by simp at hk; omega)
  have q1 := (p1.set0 vb).set1 vs
  have q2 := (((p2.gr s1 (by simp)).gr s2 (by simp)).set0 ub).set1 us
  have f1 := (((h1.grown s1 (fun _ => by simp; omega)).grown s2 (fun _ => by simp; omega)).grown s3 (fun _ => by simp; omega)).grown s4 (fun _ => by simp; omega)
  have f2 := (((h2.grown s1 (fun _ => by simp; omega)).grown s2 (fun _ => by simp; omega)).grown s3 (fun _ => by simp; omega)).grown s4 (fun _ => by simp; omega)
  have f3 := (((h3.grown s1 (fun _ => by simp; omega)).grown s2 (fun _ => by simp; omega)).grown s3 (fun _ => by simp; omega)).grown s4 (fun _ => by simp; omega)
  have f4 := (((h4.grown s1 (fun _ => by simp; omega)).grown s2 (fun _ => by simp; omega)).grown s3 (fun _ => by simp; omega)).grown s4 (fun _ => by simp; omega)
  exact ⟨(q1.gr s3 (by simp)).gr s4 (by simp), q2, nm, vb, vs, ub, us, gb, gs, hb, hs, B, S, C, T, x, rfl, hn, f1, f2, f3, f4, b4⟩

theorem X2S.drawn {w W W' : World} {r gp gq gb gs hb hs g : Nat} {vb vs ub us : Value} {B : List Le} {S : List ByteArray} {C : List Le} {T : List ByteArray} (h : X2S w r gp gq vb vs ub us gb gs hb hs B S C T W) (hg : W.grownBy W' (some g)) (n1 : r + 1 < g) (n2 : g < gp ∧ g < gq ∧ g < gb ∧ g < gs ∧ g < hb ∧ g < hs) : X2S w r gp gq vb vs ub us gb gs hb hs B S C T W' := by
  obtain ⟨⟨p1, p2, p3, p4⟩, ⟨h1, h2, h3, h4⟩, hn, hb0⟩ := h
  have hn' := hn
  obtain ⟨m0, m1, m2, m3, m4, m5, m6⟩ := hn'
  obtain ⟨k1, k2, k3, k4, k5, k6⟩ := n2
  exact ⟨⟨p1.gr hg (by simp; omega), p2.gr hg (by simp; omega), p3.gr hg (by simp; omega), p4.gr hg (by simp; omega)⟩, ⟨h1.grown hg (fun _ => by simp; omega), h2.grown hg (fun _ => by simp; omega), h3.grown hg (fun _ => by simp; omega), h4.grown hg (fun _ => by simp; omega)⟩, hn, hb0.grown hg hb0.size (fun k hk => by simp at hk; omega)⟩
theorem X2S.same {w W : World} {r gp gq gb gs hb hs : Nat} {vb vs ub us : Value} {B : List Le} {S : List ByteArray} {C : List Le} {T : List ByteArray} (h : X2S w r gp gq vb vs ub us gb gs hb hs B S C T W) (hf : PfM (W.setRow gq #[vb, vs]) gq vb vs) (n1 : gp ≠ gq) (n2 : 0 < B.length → gb < gq) (n3 : 0 < S.length → gs < gq) : X2S w r gp gq vb vs vb vs gb gs gb gs B S B S (W.setRow gq #[vb, vs]) := by
  obtain ⟨⟨p1, p2, p3, p4⟩, ⟨h1, h2, h3, h4⟩, ⟨m0, m1, m2, m3, m4, m5, m6⟩, hb0⟩ := h
  have hg := grown_setRowP W gq #[vb, vs]
  have f1 := h1.grown hg (fun h0 => by have := n2 h0; simp; omega)
  have f2 := h2.grown hg (fun h0 => by have := n3 h0; simp; omega)
  exact ⟨⟨p1.gr hg (by simp; omega), p2.gr hg (by simp; omega), p3.gr hg (by simp; omega), hf⟩, ⟨f1, f2, f1, f2⟩, ⟨m0, m1, m2, m3, m4, m3, m4⟩, hb0.grown hg hb0.size (fun k hk => by simp at hk; omega)⟩
theorem RS.ltL {W : World} {v : Value} {g : Nat} {l : List Le} (h : RS 2 lcs W v g 0 l) : 0 < l.length → g < W.heap.size := by
  obtain ⟨_, _, _, _, hx, _⟩ := h
  exact fun h0 => (hx h0).2

set_option maxRecDepth 100000 in
set_option maxHeartbeats 4000000 in
theorem DrawExtractTwo_any (w : World) (v : Value) (hc : Code w.heap.size w v) :
    Calls Tryz.prog 27 #[v] w (X2P w) := by
  have hba : Below w.heap.size w ((w.alloc (.cells #[.slice none 0 0, .slice none 0 0] 29)).alloc (.cells #[.slice none 0 0, .slice none 0 0] 29)) := ((Below.refl _ _).alloc (Nat.le_refl _) _).alloc (by simp) _
  have HC : Hid (Code ((w.alloc (.cells #[.slice none 0 0, .slice none 0 0] 29)).alloc (.cells #[.slice none 0 0, .slice none 0 0] 29)).heap.size ((w.alloc (.cells #[.slice none 0 0, .slice none 0 0] 29)).alloc (.cells #[.slice none 0 0, .slice none 0 0] 29)) v) := code_laterR hc hba
  have hp1 : PfM ((w.alloc (.cells #[.slice none 0 0, .slice none 0 0] 29)).alloc (.cells #[.slice none 0 0, .slice none 0 0] 29)) w.heap.size (.slice none 0 0) (.slice none 0 0) := (PfM.new w _ _).later ((Below.refl _ _).alloc (Nat.le_refl _) _)
  have hp2 : PfM ((w.alloc (.cells #[.slice none 0 0, .slice none 0 0] 29)).alloc (.cells #[.slice none 0 0, .slice none 0 0] 29)) (w.heap.size + 1) (.slice none 0 0) (.slice none 0 0) := by
    have h := PfM.new (w.alloc (.cells #[.slice none 0 0, .slice none 0 0] 29)) (.slice none 0 0) (.slice none 0 0)
    rw [World.size_alloc] at h
    exact h
  have hsz : ((w.alloc (.cells #[.slice none 0 0, .slice none 0 0] 29)).alloc (.cells #[.slice none 0 0, .slice none 0 0] 29)).heap.size = w.heap.size + 2 := by simp
  clear hc
  go_enter Tryz.func27, Tryz.ntmps27
  go_wp2_with fail
  generalize (w.alloc (.cells #[.slice none 0 0, .slice none 0 0] 29)).alloc (.cells #[.slice none 0 0, .slice none 0 0] 29) = wS at *
  obtain ⟨r, hr⟩ : ∃ r, w.heap.size = r := ⟨_, rfl⟩
  rw [hr] at hp1 hp2 ⊢
  refine (l01New_in wS v HC.out).mono ?_
  rintro e w1 ⟨g, rfl, hc1, hb1⟩
  go_wp2_with fail
  refine (l01Once_in wS.heap.size wS _ g v 2 2 rfl hc1 (by omega) (by omega)).mono ?_
  rintro e w2 ⟨b, rfl, hc2, hg2⟩
  clear hc1 hb1 hg2 HC
  cases b with
  | true =>
    go_wp2_with fail
    refine (l11Forged_in wS.heap.size wS w2 g v hc2).mono ?_
    rintro e w3 ⟨nm, vb, vs, ub, us, gb, gs, hb, hs, B, C, S, rfl, h2, h3, h4, h5, h6, h7, h8, h9, ⟨z1, z2, z3, z4⟩, h10⟩
    obtain ⟨ab, nb, cb, rfl⟩ : ∃ a n c, vb = .slice a n c := by obtain ⟨a, c, e⟩ := h6.shape; exact ⟨a, _, c, e⟩
    obtain ⟨aS, nS, cS, rfl⟩ : ∃ a n c, vs = .slice a n c := by obtain ⟨a, c, e, _⟩ := h7; exact ⟨a, _, c, e⟩
    obtain ⟨xb, mb, yb, rfl⟩ : ∃ a n c, ub = .slice a n c := by obtain ⟨a, c, e⟩ := h8.shape; exact ⟨a, _, c, e⟩
    obtain ⟨xS, mS, yS, rfl⟩ : ∃ a n c, us = .slice a n c := by obtain ⟨a, c, e, _⟩ := h9; exact ⟨a, _, c, e⟩
    have hsm : nm.size ≤ 12 ∧ SmallL B ∧ SmallL C := ⟨h2.2, fun f hf => by have := leB_size (h3.1.2.1 f hf); omega, fun f hf => by have := leB_size (h4.1.2.1 f hf); omega⟩
    have q1 : PfM ((w3.alloc (.cells #[.slice none 0 0, .slice none 0 0] 29)).alloc (.cells #[.slice none 0 0, .slice none 0 0] 29)) w3.heap.size (.slice none 0 0) (.slice none 0 0) := (PfM.new w3 _ _).later ((Below.refl _ _).alloc (Nat.le_refl _) _)
    have q2 : PfM ((w3.alloc (.cells #[.slice none 0 0, .slice none 0 0] 29)).alloc (.cells #[.slice none 0 0, .slice none 0 0] 29)) (w3.heap.size + 1) (.slice none 0 0) (.slice none 0 0) := by
      have h := PfM.new (w3.alloc (.cells #[.slice none 0 0, .slice none 0 0] 29)) (.slice none 0 0) (.slice none 0 0)
      rw [World.size_alloc] at h
      exact h
    have q3 : PfM (((w3.alloc (.cells #[.slice none 0 0, .slice none 0 0] 29)).alloc (.cells #[.slice none 0 0, .slice none 0 0] 29)).setRow w3.heap.size #[.slice ab nb cb, .slice aS nS cS]) (w3.heap.size + 1) (.slice none 0 0) (.slice none 0 0) := q2.gr (grown_setRowP _ w3.heap.size _) (by simp)
    have hbx : Below w3.heap.size w3 ((((w3.alloc (.cells #[.slice none 0 0, .slice none 0 0] 29)).alloc (.cells #[.slice none 0 0, .slice none 0 0] 29)).setRow w3.heap.size #[.slice ab nb cb, .slice aS nS cS]).setRow (w3.heap.size + 1) #[.slice xb mb yb, .slice xS mS yS]) := below_setRow (below_setRow (((Below.refl _ _).alloc (Nat.le_refl _) _).alloc (by simp) _) (Nat.le_refl _)) (by omega)
    have HM : Hid (∀ (hf1 : PfM ((((w3.alloc (.cells #[.slice none 0 0, .slice none 0 0] 29)).alloc (.cells #[.slice none 0 0, .slice none 0 0] 29)).setRow w3.heap.size #[.slice ab nb cb, .slice aS nS cS]).setRow (w3.heap.size + 1) #[.slice xb mb yb, .slice xS mS yS]) w3.heap.size (.slice ab nb cb) (.slice aS nS cS)) (hf2 : PfM ((((w3.alloc (.cells #[.slice none 0 0, .slice none 0 0] 29)).alloc (.cells #[.slice none 0 0, .slice none 0 0] 29)).setRow w3.heap.size #[.slice ab nb cb, .slice aS nS cS]).setRow (w3.heap.size + 1) #[.slice xb mb yb, .slice xS mS yS]) (w3.heap.size + 1) (.slice xb mb yb) (.slice xS mS yS)), X2S w r w3.heap.size (w3.heap.size + 1) (.slice ab nb cb) (.slice aS nS cS) (.slice xb mb yb) (.slice xS mS yS) gb gs hb hs B S C S ((((w3.alloc (.cells #[.slice none 0 0, .slice none 0 0] 29)).alloc (.cells #[.slice none 0 0, .slice none 0 0] 29)).setRow w3.heap.size #[.slice ab nb cb, .slice aS nS cS]).setRow (w3.heap.size + 1) #[.slice xb mb yb, .slice xS mS yS])) := fun hf1 hf2 => by
      have hz := h10.size
      exact ⟨⟨(hp1.later h10).later hbx, (hp2.later h10).later hbx, hf1, hf2⟩, ⟨h6.later hbx, h7.below hbx h7.lt, h8.later hbx, h9.below hbx h9.lt⟩, ⟨by omega, by omega, by omega, by omega, by omega, by omega, by omega⟩, (hba.trans (h10.mono (by omega))).trans (hbx.mono (by omega))⟩
    clear h3 h4 h5 h6 h7 h8 h9 z1 z2 z3 z4 h10 q2 hp1 hp2 hbx hc2
    go_wp2_with (first | (refine wp_storePf rfl _ _ rfl w3.heap.size _ _ (.slice ab nb cb) (.slice aS nS cS) q1 rfl rfl rfl rfl ?_; intro hf1) | (refine wp_storePf rfl _ _ rfl (w3.heap.size + 1) _ _ (.slice xb mb yb) (.slice xS mS yS) q3 rfl rfl rfl rfl ?_; intro hf2))
    have HI : Hid (X2S w r w3.heap.size (w3.heap.size + 1) (.slice ab nb cb) (.slice aS nS cS) (.slice xb mb yb) (.slice xS mS yS) gb gs hb hs B S C S ((((w3.alloc (.cells #[.slice none 0 0, .slice none 0 0] 29)).alloc (.cells #[.slice none 0 0, .slice none 0 0] 29)).setRow w3.heap.size #[.slice ab nb cb, .slice aS nS cS]).setRow (w3.heap.size + 1) #[.slice xb mb yb, .slice xS mS yS])) := HM.out (hf1.gr (grown_setRowP _ _ _) (by simp)) hf2
    obtain ⟨gp, hgp⟩ : ∃ gp, w3.heap.size = gp := ⟨_, rfl⟩
    rw [hgp] at HI ⊢
    clear HM q1 q3 hf1 hf2
    generalize (((w3.alloc (.cells #[.slice none 0 0, .slice none 0 0] 29)).alloc (.cells #[.slice none 0 0, .slice none 0 0] 29)).setRow gp #[.slice ab nb cb, .slice aS nS cS]).setRow (gp + 1) #[.slice xb mb yb, .slice xS mS yS] = w4 at HI ⊢
    obtain ⟨gq, hgq⟩ : ∃ gq, gp + 1 = gq := ⟨_, rfl⟩
    rw [hgq] at HI ⊢
    clear hgp hgq
    have HE : Hid _ := x2_end HI.out hsm 1
    have t0 := HI.out.1.1.c0
    have t1 := HI.out.1.1.c1
    have t2 := HI.out.1.2.1.c0
    have t3 := HI.out.1.2.1.c1
    have f0 := HI.out.1.1.fr 0
    have f1 := HI.out.1.1.fr 1
    have f2 := HI.out.1.2.1.fr 0
    have f3 := HI.out.1.2.1.fr 1
    have d0 := HI.out.1.2.2.1.c0
    have d1 := HI.out.1.2.2.1.c1
    have d2 := HI.out.1.2.2.2.c0
    have d3 := HI.out.1.2.2.2.c1
    have e1 : gp ≠ r := by have := HI.out.2.2.1; omega
    have e2 : gp ≠ r + 1 := by have := HI.out.2.2.1; omega
    have e3 : gq ≠ r := by have := HI.out.2.2.1; omega
    have e4 : gq ≠ r + 1 := by have := HI.out.2.2.1; omega
    clear HI
    go_wp2_with fail
    go_region
    all_goals generalize (((w4.setCell ⟨r, 0, none⟩ (.slice ab nb cb)).setCell ⟨r, 1, none⟩ (.slice aS nS cS)).setCell ⟨r + 1, 0, none⟩ (.slice xb mb yb)).setCell ⟨r + 1, 1, none⟩ (.slice xS mS yS) = wF at HE ⊢
    all_goals clear t0 t1 t2 t3 f0 f1 f2 f3 d0 d1 d2 d3
    all_goals (try go_wp2)
    all_goals exact ret_tppn 2 3 4 5 r (r + 1) (.string nm) _ _ _ _ (.int .i64 1) rfl rfl rfl rfl rfl rfl HE.out.1 HE.out.2.1 HE.out.2.2.drew
  | false =>
    go_wp2_with fail
    refine (l11Any_in wS.heap.size wS w2 g v 2 (by omega) hc2).mono ?_
    rintro e w3 ⟨nm, vb, vs, gb, gs, B, S, rfl, hpf, hrb, hss, ⟨hgb, hgs⟩, hc3, hg3⟩
    obtain ⟨ab, nb, cb, rfl⟩ : ∃ a n c, vb = .slice a n c := by obtain ⟨a, c, e⟩ := hrb.shape; exact ⟨a, _, c, e⟩
    obtain ⟨aS, nS, cS, rfl⟩ : ∃ a n c, vs = .slice a n c := by obtain ⟨a, c, e, _⟩ := hss; exact ⟨a, _, c, e⟩
    have hpn := PfM.new w3 (.slice none 0 0) (.slice none 0 0)
    have hbx : Below w3.heap.size w3 ((w3.alloc (.cells #[.slice none 0 0, .slice none 0 0] 29)).setRow w3.heap.size #[.slice ab nb cb, .slice aS nS cS]) := below_setRow ((Below.refl _ _).alloc (Nat.le_refl _) _) (Nat.le_refl _)
    have HQ : Hid (Cur wS.heap.size wS ((w3.alloc (.cells #[.slice none 0 0, .slice none 0 0] 29)).setRow w3.heap.size #[.slice ab nb cb, .slice aS nS cS]) g v ∧ RS 2 lcs ((w3.alloc (.cells #[.slice none 0 0, .slice none 0 0] 29)).setRow w3.heap.size #[.slice ab nb cb, .slice aS nS cS]) (.slice ab nb cb) gb 0 B ∧ SS ((w3.alloc (.cells #[.slice none 0 0, .slice none 0 0] 29)).setRow w3.heap.size #[.slice ab nb cb, .slice aS nS cS]) (.slice aS nS cS) gs 0 S) := ⟨hc3.kept (grown_below (row := none) hbx) (by simp) hc3.size (fun k hk => by cases hk), hrb.later hbx, hss.below hbx hss.lt⟩
    have hgp3 := hc3.lt
    clear hc2 hc3 hg3 hrb hss hbx
    go_wp2_with (refine wp_storePf rfl _ _ rfl w3.heap.size _ _ (.slice ab nb cb) (.slice aS nS cS) hpn rfl rfl rfl rfl ?_; intro hfin)
    obtain ⟨gp, hgp⟩ : ∃ gp, w3.heap.size = gp := ⟨_, rfl⟩
    rw [hgp] at HQ hfin hgp3 ⊢
    clear hpn hgp
    generalize (w3.alloc (.cells #[.slice none 0 0, .slice none 0 0] 29)).setRow gp #[.slice ab nb cb, .slice aS nS cS] = w4 at HQ hfin ⊢
    refine (l11Any_in wS.heap.size wS w4 g v 2 (by omega) HQ.out.1).mono ?_
    rintro e w5 ⟨nn, ub, us, hb, hs, C, T, rfl, hpg, hrc, hsu, ⟨hhb, hhs⟩, hc5, hg5⟩
    obtain ⟨xb, mb, yb, rfl⟩ : ∃ a n c, ub = .slice a n c := by obtain ⟨a, c, e⟩ := hrc.shape; exact ⟨a, _, c, e⟩
    obtain ⟨xS, mS, yS, rfl⟩ : ∃ a n c, us = .slice a n c := by obtain ⟨a, c, e, _⟩ := hsu; exact ⟨a, _, c, e⟩
    have p5 := hfin.gr hg5 (by simp; omega)
    have r5 := HQ.out.2.1.grown hg5 (fun _ => by simp; omega)
    have s5 := HQ.out.2.2.grown hg5 (fun _ => by simp; omega)
    have hgB := hc5.1
    have hpm := PfM.new w5 (.slice none 0 0) (.slice none 0 0)
    have hby : Below w5.heap.size w5 ((w5.alloc (.cells #[.slice none 0 0, .slice none 0 0] 29)).setRow w5.heap.size #[.slice xb mb yb, .slice xS mS yS]) := below_setRow ((Below.refl _ _).alloc (Nat.le_refl _) _) (Nat.le_refl _)
    have HM : Hid (∀ (hf : PfM ((w5.alloc (.cells #[.slice none 0 0, .slice none 0 0] 29)).setRow w5.heap.size #[.slice xb mb yb, .slice xS mS yS]) w5.heap.size (.slice xb mb yb) (.slice xS mS yS)), Cur wS.heap.size wS ((w5.alloc (.cells #[.slice none 0 0, .slice none 0 0] 29)).setRow w5.heap.size #[.slice xb mb yb, .slice xS mS yS]) g v ∧ X2S w r gp w5.heap.size (.slice ab nb cb) (.slice aS nS cS) (.slice xb mb yb) (.slice xS mS yS) gb gs hb hs B S C T ((w5.alloc (.cells #[.slice none 0 0, .slice none 0 0] 29)).setRow w5.heap.size #[.slice xb mb yb, .slice xS mS yS]) ∧ (0 < B.length → gb < w5.heap.size) ∧ (0 < S.length → gs < w5.heap.size) ∧ gp < w5.heap.size) := fun hf => by
      have h10 := hc5.2.1
      have hz := h10.size
      have hlt5 := hc5.lt
      exact ⟨hc5.kept (grown_below (row := none) hby) (by simp) hc5.size (fun k hk => by cases hk), ⟨⟨(hp1.later h10).later hby, (hp2.later h10).later hby, p5.later hby, hf⟩, ⟨r5.later hby, s5.below hby s5.lt, hrc.later hby, hsu.below hby hsu.lt⟩, ⟨by omega, by omega, by omega, by omega, by omega, by omega, by omega⟩, (hba.trans (h10.mono (by omega))).trans (hby.mono (by omega))⟩, r5.ltL, s5.lt, p5.lt⟩
    have hg7 : r + 1 < g ∧ g < gp := by omega
    have hlt5 := hc5.lt
    clear HQ hfin hp1 hp2 hrc hsu hc5 hg5 p5 r5 s5 hby
    go_wp2_with (refine wp_storePf rfl _ _ rfl w5.heap.size _ _ (.slice xb mb yb) (.slice xS mS yS) hpm rfl rfl rfl rfl ?_; intro hf2)
    have HI : Hid (Cur wS.heap.size wS ((w5.alloc (.cells #[.slice none 0 0, .slice none 0 0] 29)).setRow w5.heap.size #[.slice xb mb yb, .slice xS mS yS]) g v ∧ X2S w r gp w5.heap.size (.slice ab nb cb) (.slice aS nS cS) (.slice xb mb yb) (.slice xS mS yS) gb gs hb hs B S C T ((w5.alloc (.cells #[.slice none 0 0, .slice none 0 0] 29)).setRow w5.heap.size #[.slice xb mb yb, .slice xS mS yS]) ∧ (0 < B.length → gb < w5.heap.size) ∧ (0 < S.length → gs < w5.heap.size) ∧ gp < w5.heap.size) := HM.out hf2
    obtain ⟨gq, hgq⟩ : ∃ gq, w5.heap.size = gq := ⟨_, rfl⟩
    rw [hgq] at HI hlt5 ⊢
    clear HM hpm hf2 hgq
    generalize (w5.alloc (.cells #[.slice none 0 0, .slice none 0 0] 29)).setRow gq #[.slice xb mb yb, .slice xS mS yS] = w6 at HI ⊢
    refine (l01Once_in wS.heap.size wS _ g v 2 2 rfl HI.out.1 (by omega) (by omega)).mono ?_
    rintro e w7 ⟨b, rfl, hc7, hgw7⟩
    have H7 : Hid (X2S w r gp gq (.slice ab nb cb) (.slice aS nS cS) (.slice xb mb yb) (.slice xS mS yS) gb gs hb hs B S C T w7) := HI.out.2.1.drawn hgw7 hg7.1 ⟨hg7.2, hlt5, hgb, hgs, hhb, hhs⟩
    have HN : Hid ((0 < B.length → gb < gq) ∧ (0 < S.length → gs < gq) ∧ gp < gq) := HI.out.2.2
    clear HI hc7 hgw7
    have hsm1 := hpf.1
    have hsm2 := hpf.2.1.1
    have hsm3 := hpg.2.1.1
    cases b with
    | true =>
      have p7 := H7.out.1.2.2.1
      have q7 := H7.out.1.2.2.2
      go_wp2_with (first | (refine wp_loadPf rfl _ rfl gp _ _ rfl p7 ?_) | (refine wp_storePf rfl _ _ rfl gq _ _ (.slice ab nb cb) (.slice aS nS cS) q7 rfl rfl rfl rfl ?_; intro hf7; have H8 : Hid (X2S w r gp gq (.slice ab nb cb) (.slice aS nS cS) (.slice ab nb cb) (.slice aS nS cS) gb gs gb gs B S B S (w7.setRow gq #[.slice ab nb cb, .slice aS nS cS])) := H7.out.same hf7 (by have := HN.out.2.2; omega) HN.out.1 HN.out.2.1; generalize w7.setRow gq #[.slice ab nb cb, .slice aS nS cS] = w8 at H8 hf7 ⊢))
      clear p7 q7 hf7 H7 HN
      have HE : Hid _ := x2_end H8.out ⟨hsm1, hsm2, hsm2⟩ 2
      have t0 := H8.out.1.1.c0
      have t1 := H8.out.1.1.c1
      have t2 := H8.out.1.2.1.c0
      have t3 := H8.out.1.2.1.c1
      have f0 := H8.out.1.1.fr 0
      have f1 := H8.out.1.1.fr 1
      have f2 := H8.out.1.2.1.fr 0
      have f3 := H8.out.1.2.1.fr 1
      have d0 := H8.out.1.2.2.1.c0
      have d1 := H8.out.1.2.2.1.c1
      have d2 := H8.out.1.2.2.2.c0
      have d3 := H8.out.1.2.2.2.c1
      have e1 : gp ≠ r := by have := H8.out.2.2.1; omega
      have e2 : gp ≠ r + 1 := by have := H8.out.2.2.1; omega
      have e3 : gq ≠ r := by have := H8.out.2.2.1; omega
      have e4 : gq ≠ r + 1 := by have := H8.out.2.2.1; omega
      clear H8
      try go_wp2_with fail
      go_region
      all_goals generalize (((w8.setCell ⟨r, 0, none⟩ (.slice ab nb cb)).setCell ⟨r, 1, none⟩ (.slice aS nS cS)).setCell ⟨r + 1, 0, none⟩ (.slice ab nb cb)).setCell ⟨r + 1, 1, none⟩ (.slice aS nS cS) = wF at HE ⊢
      all_goals clear t0 t1 t2 t3 f0 f1 f2 f3 d0 d1 d2 d3
      all_goals (try go_wp2)
      all_goals exact ret_tppn 2 3 4 5 r (r + 1) (.string nm) _ _ _ _ (.int .i64 2) rfl rfl rfl rfl rfl rfl HE.out.1 HE.out.2.1 HE.out.2.2.drew
    | false =>
      clear HN
      have HE : Hid _ := x2_end H7.out ⟨hsm1, hsm2, hsm3⟩ 2
      have t0 := H7.out.1.1.c0
      have t1 := H7.out.1.1.c1
      have t2 := H7.out.1.2.1.c0
      have t3 := H7.out.1.2.1.c1
      have f0 := H7.out.1.1.fr 0
      have f1 := H7.out.1.1.fr 1
      have f2 := H7.out.1.2.1.fr 0
      have f3 := H7.out.1.2.1.fr 1
      have d0 := H7.out.1.2.2.1.c0
      have d1 := H7.out.1.2.2.1.c1
      have d2 := H7.out.1.2.2.2.c0
      have d3 := H7.out.1.2.2.2.c1
      have e1 : gp ≠ r := by have := H7.out.2.2.1; omega
      have e2 : gp ≠ r + 1 := by have := H7.out.2.2.1; omega
      have e3 : gq ≠ r := by have := H7.out.2.2.1; omega
      have e4 : gq ≠ r + 1 := by have := H7.out.2.2.1; omega
      clear H7
      go_wp2_with fail
      go_region
      all_goals generalize (((w7.setCell ⟨r, 0, none⟩ (.slice ab nb cb)).setCell ⟨r, 1, none⟩ (.slice aS nS cS)).setCell ⟨r + 1, 0, none⟩ (.slice xb mb yb)).setCell ⟨r + 1, 1, none⟩ (.slice xS mS yS) = wF at HE ⊢
      all_goals clear t0 t1 t2 t3 f0 f1 f2 f3 d0 d1 d2 d3
      all_goals (try go_wp2)
      all_goals exact ret_tppn 2 3 4 5 r (r + 1) (.string nm) _ _ _ _ (.int .i64 2) rfl rfl rfl rfl rfl rfl HE.out.1 HE.out.2.1 HE.out.2.2.drew

end Go.Proofs.YtfojmagcoipbnaaGreatDoor
/-
  The specification's reader: what it takes of a text for a proof's sides.
-/
namespace Go.Proofs.YtfojmagcoipbnaaGreatDoor
open Go.RowKit Go.BigFrame Go.Sort
set_option linter.unusedVariables false
set_option linter.unusedSimpArgs false

/-- a number that is read, or why not -/
theorem sReadVar_at (s : ByteArray) (p : Nat) (w : World) (hs : s.size ≤ 1048576) (hp : p ≤ s.size) :
    ∃ n q b, Calls Tryz.prog 200 #[.string s, .int .i64 (p : Int)] w fun e w' => e = .returned (.tuple #[.int .i64 n, .int .i64 q, .bool b]) ∧ Below w.heap.size w w' := by
  cases hr : M.readVar s.data.toList p with
  | none => exact ⟨0, 0, false, sReadVar_none s (p : Int) w hs (.inr ⟨by omega, by simpa using hr⟩)⟩
  | some z => obtain ⟨n, q⟩ := z; exact ⟨n, q, true, sReadVar_some s (p : Int) n q w hs (by omega) (by simpa using hr)⟩

set_option maxRecDepth 100000 in
set_option maxHeartbeats 1000000 in
theorem l09Var_bad (c : Nat) (s : ByteArray) (p : Nat) (w : World) (h : Cu w c s p true) (hs : s.size ≤ 1048576) (hp : p ≤ s.size) :
    Calls Tryz.prog 104 #[.pointer (some ⟨c, 0, none⟩)] w fun e w' => (e = .returned (.int .i64 0) ∧ Cu w' c s p true) ∧ w.grownBy w' (some c) := by
  have c0 := h.c0
  have c1 := h.c1
  have H : Hid (Cu w c s p true) := h
  have hcl := h.lt
  clear h
  have HX : Hid (∃ (n q : Int) (b : Bool), ∀ W, Calls Tryz.prog 200 #[.string s, .int .i64 (p : Int)] W fun e w' => e = .returned (.tuple #[.int .i64 n, .int .i64 q, .bool b]) ∧ Below W.heap.size W w') := by
    show ∃ (n q : Int) (b : Bool), ∀ W, Calls Tryz.prog 200 #[.string s, .int .i64 (p : Int)] W fun e w' => e = .returned (.tuple #[.int .i64 n, .int .i64 q, .bool b]) ∧ Below W.heap.size W w'
    cases hr : M.readVar s.data.toList p with
    | none => exact ⟨0, 0, false, fun W => sReadVar_none s (p : Int) W hs (.inr ⟨by omega, by simpa using hr⟩)⟩
    | some z => obtain ⟨n, q⟩ := z; exact ⟨n, q, true, fun W => sReadVar_some s (p : Int) n q W hs (by omega) (by simpa using hr)⟩
  obtain ⟨n, q, b, h1⟩ := HX.out
  have H1 : Hid (∀ W, Calls Tryz.prog 200 #[.string s, .int .i64 (p : Int)] W fun e w' => e = .returned (.tuple #[.int .i64 n, .int .i64 q, .bool b]) ∧ Below W.heap.size W w') := h1
  clear HX h1
  go_enter Tryz.func104, Tryz.ntmps104
  go_wp2
  have kq0 := cell_regrown (w := w) c0
  have kq1 := cell_regrown (w := w) c1
  have cq0 := fun d os => Calls.regrown_of (w := w) (d := d) (os := os) (H1.out _)
  refine wp_region_quiet_below (by kernel_rfl) (by kernel_rfl) ?_
  repeat (go_big_quiet_step (first | with_reducible exact cq0 _ _))
  refine wpQuiet_nil ?_
  rintro _ ⟨⟨dq, osq⟩, rfl⟩
  have hb6 := below_regrown (w) dq osq
  generalize grow (redrawn (w) dq) osq = w6 at *
  clear kq0 kq1 cq0
  have h6 := H.out.later hb6
  have d2 := h6.c2
  have g2 := h6.f2
  have hcl6 := h6.lt
  have HF : Hid (Cu (w6.setCell ⟨c, 2, none⟩ (.bool true)) c s p true ∧ w.grownBy (w6.setCell ⟨c, 2, none⟩ (.bool true)) (some c)) := ⟨h6.bad, (grown_below hb6).trans (grown_setC w6 c 2 _)⟩
  clear h6 hb6 H H1 c0 c1
  go_wp2
  go_ret
  exact ⟨⟨rfl, HF.out.1⟩, HF.out.2⟩

set_option maxRecDepth 100000 in
set_option maxHeartbeats 1000000 in
theorem l09Take_no (c : Nat) (s : ByteArray) (p : Nat) (b : Bool) (x : Int) (w : World) (h : Cu w c s p b) (hs : s.size ≤ 1048576) (hp : p ≤ s.size) (hno : b = true ∨ x < 0 ∨ (s.size : Int) - (p : Int) < x) :
    Calls Tryz.prog 105 #[.pointer (some ⟨c, 0, none⟩), .int .i64 x] w fun e w' => (e = .returned (.string ⟨#[]⟩) ∧ Cu w' c s p true) ∧ w.grownBy w' (some c) := by
  have c0 := h.c0
  have c1 := h.c1
  have c2 := h.c2
  have hcl := h.lt
  have HH : Hid (Cu w c s p b) := h
  clear h
  cases b with
  | true =>
    clear hno
    go_enter Tryz.func105, Tryz.ntmps105
    go_wp2
    go_quiet (fail)
    have h6 : Cu (w.drewN nq) c s p true := HH.out
    have hgw : w.grownBy (w.drewN nq) (some c) := grown_below (below_drn (Below.refl _ _) nq)
    generalize w.drewN nq = wd at *
    have d2 := h6.c2
    have g2 := h6.f2
    have hl6 := h6.lt
    have HF : Hid (Cu (wd.setCell ⟨c, 2, none⟩ (.bool true)) c s p true ∧ w.grownBy (wd.setCell ⟨c, 2, none⟩ (.bool true)) (some c)) := ⟨h6.bad, hgw.trans (grown_setC wd c 2 _)⟩
    clear h6 hgw HH
    go_wp2
    go_ret
    exact ⟨⟨rfl, HF.out.1⟩, HF.out.2⟩
  | false =>
    by_cases hx : x < 0
    · have qx : decide (x < 0) = true := decide_eq_true hx
      clear hno
      go_enter Tryz.func105, Tryz.ntmps105
      go_wp2
      go_quiet (fail)
      have h6 : Cu (w.drewN nq) c s p false := HH.out
      have hgw : w.grownBy (w.drewN nq) (some c) := grown_below (below_drn (Below.refl _ _) nq)
      generalize w.drewN nq = wd at *
      have d2 := h6.c2
      have g2 := h6.f2
      have hl6 := h6.lt
      have HF : Hid (Cu (wd.setCell ⟨c, 2, none⟩ (.bool true)) c s p true ∧ w.grownBy (wd.setCell ⟨c, 2, none⟩ (.bool true)) (some c)) := ⟨h6.bad, hgw.trans (grown_setC wd c 2 _)⟩
      clear h6 hgw HH
      go_wp2
      go_ret
      exact ⟨⟨rfl, HF.out.1⟩, HF.out.2⟩
    · have h3 : (s.size : Int) - (p : Int) < x := by
        rcases hno with h | h | h
        · cases h
        · exact absurd h hx
        · exact h
      have qx : decide (x < 0) = false := decide_eq_false hx
      have q3 : decide ((s.size : Int) - (p : Int) < x) = true := decide_eq_true h3
      clear hno
      go_enter Tryz.func105, Tryz.ntmps105
      go_wp2
      go_quiet (fail)
      have h6 : Cu (w.drewN nq) c s p false := HH.out
      have hgw : w.grownBy (w.drewN nq) (some c) := grown_below (below_drn (Below.refl _ _) nq)
      generalize w.drewN nq = wd at *
      have d2 := h6.c2
      have g2 := h6.f2
      have hl6 := h6.lt
      have HF : Hid (Cu (wd.setCell ⟨c, 2, none⟩ (.bool true)) c s p true ∧ w.grownBy (wd.setCell ⟨c, 2, none⟩ (.bool true)) (some c)) := ⟨h6.bad, hgw.trans (grown_setC wd c 2 _)⟩
      clear h6 hgw HH
      go_wp2
      go_ret
      exact ⟨⟨rfl, HF.out.1⟩, HF.out.2⟩

set_option maxRecDepth 100000 in
set_option maxHeartbeats 1000000 in
theorem l09Take_yes (c : Nat) (s : ByteArray) (p y : Nat) (w : World) (h : Cu w c s p false) (hs : s.size ≤ 1048576) (hp : p + y ≤ s.size) :
    Calls Tryz.prog 105 #[.pointer (some ⟨c, 0, none⟩), .int .i64 (y : Int)] w fun e w' => (e = .returned (.string (piece s p y)) ∧ Cu w' c s (p + y) false) ∧ w.grownBy w' (some c) := by
  have c0 := h.c0
  have c1 := h.c1
  have c2 := h.c2
  have hcl := h.lt
  have HH : Hid (Cu w c s p false) := h
  have hpc := run_piece s p y hp
  have e1 : ((p + y : Nat) : Int) = (p : Int) + (y : Int) := by omega
  have qx : decide ((y : Int) < 0) = false := decide_eq_false (by omega)
  have q3 : decide ((s.size : Int) - (p : Int) < (y : Int)) = false := decide_eq_false (by omega)
  clear h
  go_enter Tryz.func105, Tryz.ntmps105
  go_wp2
  go_quiet (fail)
  have h6 : Cu (w.drewN nq) c s p false := HH.out
  have hgw : w.grownBy (w.drewN nq) (some c) := grown_below (below_drn (Below.refl _ _) nq)
  generalize w.drewN nq = wd at *
  have d1 := h6.c1
  have g1 := h6.f1
  have hl6 := h6.lt
  have hC : Cu (wd.setCell ⟨c, 1, none⟩ (.int .i64 ((p + y : Nat) : Int))) c s (p + y) false := h6.at (p + y)
  rw [e1] at hC
  have HF : Hid (Cu (wd.setCell ⟨c, 1, none⟩ (.int .i64 ((p : Int) + (y : Int)))) c s (p + y) false ∧ w.grownBy (wd.setCell ⟨c, 1, none⟩ (.int .i64 ((p : Int) + (y : Int)))) (some c)) := ⟨hC, hgw.trans (grown_setC wd c 1 _)⟩
  have k0 := hC.c0
  have k1 := hC.c1
  rw [e1] at k1
  have e2 : (p : Int) + (y : Int) - (y : Int) = (p : Int) := by omega
  clear h6 hgw hC HH c0 c1 c2
  go_wp2
  generalize wd.setCell ⟨c, 1, none⟩ (.int .i64 ((p : Int) + (y : Int))) = we at *
  go_quiet (fail)
  have HG : Hid (∀ n, Cu (we.drewN n) c s (p + y) false ∧ w.grownBy (we.drewN n) (some c)) := fun n => ⟨HF.out.1, HF.out.2.trans (grown_below (below_drn (Below.refl _ _) n))⟩
  go_wp2
  go_ret
  exact ⟨⟨rfl, (HG.out _).1⟩, (HG.out _).2⟩

end Go.Proofs.YtfojmagcoipbnaaGreatDoor
