/-
  Plain facts of two proofs of one name with the same sides: if they end alike and say otherwise, the last unlike texts have one digest.
-/
import Derived.Test.YtojadcjoniejaaaDoorPkN
import Derived.Test.YtojadcjoniejaaaDoorPx
namespace Go.Proofs.YtojadcjoniejaaaDoor
open Go.RowKit
set_option linter.unusedVariables false
set_option linter.unusedSimpArgs false

theorem tag_12 {M : List Le} (hM : LV.LOk M) (h : btB [] = tagB 2 (TR.bkp M)) : False := by
  rw [btB_nil] at h
  unfold tagB at h
  rw [if_pos (show tagOk 1 [] = true by decide), if_pos (bkp_ok hM)] at h
  have sz : ∀ y ∈ TR.bkp M, y.size ≤ 1000000000 := fun y hy => by
    obtain ⟨f, hf, hfy⟩ := bkp_mem hy
    have := leB_size (hM.2.1 f hf)
    rcases hfy with rfl | rfl <;> omega
  have := (TR.tag_inj (k := 1) (k' := 2) (by omega) (by omega) (by simp) sz h).1
  omega
theorem btB_inj' {L M : List Le} (hL : LV.LOk L) (hM : LV.LOk M) (h : btB L = btB M) : L = M := by
  rcases Nat.eq_zero_or_pos L.length with h0 | h0
  · rcases Nat.eq_zero_or_pos M.length with h1 | h1
    · rw [List.length_eq_zero_iff.1 h0, List.length_eq_zero_iff.1 h1]
    · exfalso
      rw [List.length_eq_zero_iff.1 h0, btB_some h1] at h
      exact tag_12 hM h
  · rcases Nat.eq_zero_or_pos M.length with h1 | h1
    · exfalso
      rw [List.length_eq_zero_iff.1 h1, btB_some h0] at h
      exact tag_12 hL h.symm
    · exact btB_inj hL hM h0 h1 h

section
variable {ix : Nat} {x : Int} (h : 1 ≤ x ∧ x ≤ 32)
include h
theorem chain_step' (t0 t1 : ByteArray) {S : List ByteArray} (hw : ∀ s ∈ S, s.size ≤ 32) (i : Nat) (hi : i < S.length) (he : chT ix x t0 S (i + 1) = chT ix x t1 S (i + 1)) : cutH (chT ix x t0 S i) x = cutH (chT ix x t1 S i) x := by
  have e1 : S.getD i ⟨#[]⟩ = S[i]'(by omega) := by simp [List.getElem?_eq_getElem (show i < S.length by omega)]
  have s1 : (S[i]'(by omega)).size ≤ 200 := by
    have := hw (S[i]'(by omega)) (List.getElem_mem _)
    omega
  have c1 : (cutH (chT ix x t0 S i) x).size ≤ 200 := by rw [cutH_size h]; omega
  have c2 : (cutH (chT ix x t1 S i) x).size ≤ 200 := by rw [cutH_size h]; omega
  rw [chT, chT, e1] at he
  by_cases hb : bitI (ix : Int) (7 - i) = 1
  · rw [if_pos hb, if_pos hb] at he
    exact (tag3_inj s1 c1 s1 c2 he).2
  · rw [if_neg hb, if_neg hb] at he
    exact (tag3_inj c1 s1 c2 s1 he).1
theorem lu_chain {t0 t1 : ByteArray} {S : List ByteArray} (hw : ∀ s ∈ S, s.size ≤ 32) (hne : t0 ≠ t1) : ∀ m, m ≤ S.length → cutH (chT ix x t0 S m) x = cutH (chT ix x t1 S m) x →
    ∃ a b, lu (chL ix x t0 S (S.length + 1)) (chL ix x t1 S (S.length + 1)) (m + 1) = (a, b, true) ∧ a ≠ b ∧ cutH a x = cutH b x ∧ a.size ≤ (chT ix x t0 S m).size + b.size + a.size ∧ a ∈ chL ix x t0 S (S.length + 1) ∧ b ∈ chL ix x t1 S (S.length + 1) := by
  have g : ∀ (t : ByteArray) (i : Nat), i < S.length + 1 → (chL ix x t S (S.length + 1)).getD i ⟨#[]⟩ = chT ix x t S i := fun t i hi => by
    have hL : i < (chL ix x t S (S.length + 1)).length := by rw [chL_len]; exact hi
    rw [List.getD_eq_getElem?_getD, List.getElem?_eq_getElem hL, Option.getD_some, chL_at]
  have hmem : ∀ (t : ByteArray) (i : Nat), i < S.length + 1 → chT ix x t S i ∈ chL ix x t S (S.length + 1) := fun t i hi => List.mem_map.2 ⟨i, List.mem_range.2 hi, rfl⟩
  intro m
  induction m with
  | zero =>
    intro _ hc
    refine ⟨t0, t1, ?_, hne, hc, by omega, hmem t0 0 (by omega), hmem t1 0 (by omega)⟩
    rw [lu, g _ 0 (by omega), g _ 0 (by omega)]
    exact if_neg hne
  | succ m ih =>
    intro hm hc
    by_cases he : chT ix x t0 S (m + 1) = chT ix x t1 S (m + 1)
    · obtain ⟨a, b, hl, h1, h2, _, h4, h5⟩ := ih (by omega) (chain_step' h t0 t1 hw m (by omega) he)
      refine ⟨a, b, ?_, h1, h2, by omega, h4, h5⟩
      rw [lu, g _ _ (by omega), g _ _ (by omega), if_pos he]
      exact hl
    · refine ⟨_, _, ?_, he, hc, by omega, hmem t0 _ (by omega), hmem t1 _ (by omega)⟩
      rw [lu, g _ _ (by omega), g _ _ (by omega), if_neg he]
end

/-- two proofs of one name with the same sides are right -/
theorem pf_both {nm : ByteArray} {B : List Le} {S : List ByteArray} {x : Int} (hn : okB nameB nm = true) (h : 1 ≤ x ∧ x ≤ 32) (hB : LV.LOk B) (hi : ∀ f ∈ B, idxN f.n = idxN nm) (h8 : S.length ≤ 8) (hS : ∀ s ∈ S, s.size = x.toNat) : pfOk nm B S x = true := by
  rw [pfOk_yes hn (LV.leavesB_iff.2 hB) h8 ?_]
  · rw [List.all_eq_true]
    intro f hf
    rw [decide_eq_true_eq]
    exact hi f hf
  · rw [wideB_good fun j hj => ?_]
    · simpa using h
    · rw [hS _ (List.getElem_mem _)]
      omega
theorem ptA_yes {nm : ByteArray} {B : List Le} {S : List ByteArray} {x : Int} (hp : pfOk nm B S x = true) : ptA nm B S x = chL (idxN nm) x (btB B) S (S.length + 1) := by
  unfold ptA
  rw [if_pos hp]
theorem phA_yes {nm : ByteArray} {B : List Le} {S : List ByteArray} {x : Int} (hp : pfOk nm B S x = true) : phA nm B S x = cutH (chT (idxN nm) x (btB B) S S.length) x := by
  unfold phA
  rw [ptA_yes hp, lastH_at (k := S.length) (chL_len _ _ _ _ _), chL_at]
/-- **what ExtractTwo finds** -/
theorem xt_found {nm : ByteArray} {B C : List Le} {S : List ByteArray} {x : Int} (h : 1 ≤ x ∧ x ≤ 32) (hB : LV.LOk B) (hC : LV.LOk C) (hS : ∀ s ∈ S, s.size = x.toNat) (hp : pfOk nm B S x = true) (hq : pfOk nm C S x = true) (hh : phA nm B S x = phA nm C S x) (hs : sayB B C nm = false) :
    ∃ a b, xtR nm B S C S x = (a, b, true) ∧ a ≠ b ∧ cutH a x = cutH b x ∧ a.size ≤ 12601 ∧ b.size ≤ 12601 := by
  have hne : btB B ≠ btB C := fun he => by
    rw [btB_inj' hB hC he] at hs
    unfold sayB at hs
    simp at hs
  rw [phA_yes hp, phA_yes hq] at hh
  obtain ⟨a, b, hl, h1, h2, _, h4, h5⟩ := lu_chain (ix := idxN nm) h (S := S) (fun s hs => by rw [hS s hs]; omega) hne S.length (Nat.le_refl _) hh
  refine ⟨a, b, ?_, h1, h2, ?_, ?_⟩
  · unfold xtR
    rw [phA_yes hp, phA_yes hq, ptA_yes hp, ptA_yes hq, chL_len, chL_len, if_neg, hl]
    rw [hs]
    simp [hh]
  · exact ptA_size (nm := nm) (B := B) (S := S) (x := x) a (by rw [ptA_yes hp]; exact h4)
  · exact ptA_size (nm := nm) (B := C) (S := S) (x := x) b (by rw [ptA_yes hq]; exact h5)
theorem xt_none {nm : ByteArray} {B C : List Le} {S T : List ByteArray} {x : Int} (h : phA nm B S x ≠ phA nm C T x ∨ sayB B C nm = true) : xtR nm B S C T x = (⟨#[]⟩, ⟨#[]⟩, false) := by
  unfold xtR
  rw [if_pos]
  rcases h with h | h
  · exact .inr (.inr (.inl h))
  · exact .inr (.inr (.inr h))

end Go.Proofs.YtojadcjoniejaaaDoor
