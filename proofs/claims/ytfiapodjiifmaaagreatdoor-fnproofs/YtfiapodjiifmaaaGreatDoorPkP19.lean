/-
  Texts laid together: Rf, Pt, Pc, Pp, Pl.
-/
import Derived.Test.YtfiapodjiifmaaaGreatDoorPkP18
import Derived.Test.YtfiapodjiifmaaaGreatDoorPkP17
import Derived.Test.YtfiapodjiifmaaaGreatDoorPkP15
import Derived.Lib.QuietBelow
import Derived.Test.YtfiapodjiifmaaaGreatDoorPkP7
/-
  Plain facts of roots: a bucket's hash folds up to the root; how wide hashes are.
-/
namespace Go.Proofs.YtfiapodjiifmaaaGreatDoor
open Go.RowKit
set_option linter.unusedVariables false
set_option linter.unusedSimpArgs false

namespace TR
variable {β : Type} {hN : β → β → β}
theorem fold_congr {b b' : Nat → Bool} : ∀ (s : List β) (i : Nat) (h : β), (∀ j, i ≤ j → j < i + s.length → b j = b' j) → fold hN b i h s = fold hN b' i h s
  | [], i, h, _ => rfl
  | a :: t, i, h, hb => by
    have e := hb i (Nat.le_refl _) (by simp)
    show fold hN b (i + 1) (if b i then hN a h else hN h a) t = fold hN b' (i + 1) (if b' i then hN a h else hN h a) t
    rw [e]
    exact fold_congr t (i + 1) _ (fun j h1 h2 => hb j (by omega) (by simp; omega))
end TR

theorem bkL_und (L : List Le) (ix : Nat) : bkL L (ix : Int) = TR.und idxL 0 ix L := by
  unfold bkL TR.und
  refine List.filter_congr fun f _ => ?_
  unfold bkP idxL
  rw [Nat.pow_zero, Nat.div_one]
  by_cases h : idxN f.n = ix
  · rw [decide_eq_true h, decide_eq_true (by omega)]
  · rw [decide_eq_false h, decide_eq_false (by omega)]
/-- **a bucket's hash folds up to the root** -/
theorem fold_root (x : Int) (ix : Nat) (hx : ix ≤ 255) (L : List Le) : fuF x (ix : Int) 8 (trB x 0 ix L) (sdL x ix L 8) = trB x 8 0 L := by
  unfold fuF trB
  rw [TR.fold_congr (b' := fun i => decide (ix / 2 ^ i % 2 = 1)) (sdL x ix L 8) 0 _ (fun j _ hj => ?_)]
  · have h := TR.fold_up (idx := idxL) (hN := hnB x) (hB := bhB x) (fun i => decide (ix / 2 ^ i % 2 = 1)) ix (fun i => rfl) L 8 0
    rw [Nat.pow_zero, Nat.div_one, Nat.zero_add, Nat.div_eq_of_lt (show ix < 2 ^ 8 by omega)] at h
    exact h
  · rw [sdL_len] at hj
    unfold fbB
    rw [show 8 - 1 - j = 7 - j by omega, bit_of ix j (by omega) hx]
    have h2 : ix / 2 ^ j % 2 < 2 := Nat.mod_lt _ (by omega)
    generalize ix / 2 ^ j % 2 = q at *
    have : q = 0 ∨ q = 1 := by omega
    rcases this with rfl | rfl <;> rfl
theorem cutH_size {t : ByteArray} {x : Int} (h : 1 ≤ x ∧ x ≤ 32) : (cutH t x).size = x.toNat := by
  unfold cutH
  rw [if_pos h]
  unfold cutB
  have := digB_size t
  rw [ByteArray.size_extract]
  omega
theorem hash3_size {a b : ByteArray} {x : Int} (h : 1 ≤ x ∧ x ≤ 32) (ha : a.size ≤ 200) (hb : b.size ≤ 200) : (hashB 3 [a, b] x).size = x.toNat := by
  have ht : tagOk 3 [a, b] = true := by
    unfold tagOk
    simp [ha, hb]
  unfold hashB
  rw [if_pos ht]
  exact cutH_size h
theorem trB_size {x : Int} {L : List Le} (h : 1 ≤ x ∧ x ≤ 32) (hL : LV.LOk L) : ∀ k p, (trB x k p L).size = x.toNat
  | 0, p => by
    show (bhB x (TR.und idxL 0 p L)).size = x.toNat
    rw [bhB_yes (leaves_und hL 0 p)]
    exact cutH_size h
  | k + 1, p => by
    show (hashB 3 [trB x k (2 * p) L, trB x k (2 * p + 1) L] x).size = x.toNat
    exact hash3_size h (by rw [trB_size h hL k]; omega) (by rw [trB_size h hL k]; omega)
theorem nh_root {L : List Le} {x : Int} (h : 1 ≤ x ∧ x ≤ 32) (hL : LV.LOk L) : nhB L 0 0 x = trB x 8 0 L := by
  unfold nhB
  rw [if_pos ⟨LV.leavesB_iff.2 hL, by omega, by decide, h⟩]
  rfl
theorem nh_leaf {L : List Le} {x : Int} (h : 1 ≤ x ∧ x ≤ 32) (hL : LV.LOk L) (ix : Nat) (hx : ix ≤ 255) : nhB L 8 (ix : Int) x = trB x 0 ix L := by
  unfold nhB
  have e : (2 : Int) ^ (8 : Int).toNat = 256 := by decide
  rw [if_pos ⟨LV.leavesB_iff.2 hL, by omega, by rw [e]; omega, h⟩]
  rfl
theorem sd_all {L : List Le} {x : Int} (h : 1 ≤ x ∧ x ≤ 32) (hL : LV.LOk L) (ix : Nat) (hx : ix ≤ 255) : sdA L (ix : Int) 0 x = sdL x ix L 8 := by
  unfold sdA
  rw [if_pos ⟨LV.leavesB_iff.2 hL, by omega, by omega, h⟩]
  rfl
theorem fu_root {L : List Le} {x : Int} (ix : Nat) (hx : ix ≤ 255) : fuB (trB x 0 ix L) (ix : Int) 8 (sdL x ix L 8) x = trB x 8 0 L := by
  unfold fuB
  rw [if_pos ⟨by omega, by rw [sdL_len]; omega⟩]
  exact fold_root x ix hx L

end Go.Proofs.YtfiapodjiifmaaaGreatDoor
/-
  The chain of texts of a proof: the specification's answer.
-/
namespace Go.Proofs.YtfiapodjiifmaaaGreatDoor
open Go.RowKit Go.BigFrame Go.Sort
set_option linter.unusedVariables false
set_option linter.unusedSimpArgs false

/-- the chain of texts -/
def chT (ix : Int) (x : Int) (t0 : ByteArray) (S : List ByteArray) : Nat → ByteArray
  | 0 => t0
  | i + 1 => tagB 3 (if bitI ix (7 - i) = 1 then [S.getD i ⟨#[]⟩, cutH (chT ix x t0 S i) x] else [cutH (chT ix x t0 S i) x, S.getD i ⟨#[]⟩])
def chL (ix : Int) (x : Int) (t0 : ByteArray) (S : List ByteArray) (n : Nat) : List ByteArray := (List.range n).map (chT ix x t0 S)
theorem chL_len (ix : Int) (x : Int) (t0 : ByteArray) (S : List ByteArray) (n : Nat) : (chL ix x t0 S n).length = n := by simp [chL]
theorem chL_at (ix : Int) (x : Int) (t0 : ByteArray) (S : List ByteArray) (n j : Nat) (h : j < (chL ix x t0 S n).length) : (chL ix x t0 S n)[j] = chT ix x t0 S j := by simp [chL]
theorem chL_succ (ix : Int) (x : Int) (t0 : ByteArray) (S : List ByteArray) (n : Nat) : chL ix x t0 S (n + 1) = chL ix x t0 S n ++ [chT ix x t0 S n] := by
  unfold chL
  rw [List.range_succ, List.map_append]
  rfl
theorem chT_size (ix : Int) (x : Int) (t0 : ByteArray) (S : List ByteArray) (h : t0.size ≤ 12601) : ∀ i, (chT ix x t0 S i).size ≤ 12601
  | 0 => h
  | i + 1 => tagB_size _ _

def PtR (w0 : World) (B : Nat) (ix : Int) (x : Int) (t0 : ByteArray) (S : List ByteArray) (u i : Value) (wr : World) : Prop := ∃ m : Nat, m ≤ S.length ∧ i = .int .i64 m ∧ ∃ g cap, u = .slice (some ⟨g, 0, none⟩) (m + 1) cap ∧ Hid (OS B w0 wr u (chL ix x t0 S (m + 1)))

/-- what ProofTexts is -/
noncomputable def ptA (nm : ByteArray) (B : List Le) (S : List ByteArray) (x : Int) : List ByteArray := if pfOk nm B S x then chL (idxN nm) x (btB B) S (S.length + 1) else []
end Go.Proofs.YtfiapodjiifmaaaGreatDoor
/-
  Two chains of texts: from the last one on back the first two that differ, have they one digest?
-/
namespace Go.Proofs.YtfiapodjiifmaaaGreatDoor
open Go.RowKit Go.BigFrame Go.Sort
set_option linter.unusedVariables false
set_option linter.unusedSimpArgs false

def clF (A B : List ByteArray) (x : Int) (m : Nat) : Bool := TR.clB (fun t => cutH t x) (fun i => A.getD i ⟨#[]⟩) (fun i => B.getD i ⟨#[]⟩) m
def PcR (w : World) (F : Nat → Bool) (n : Nat) (i : Value) (wr : World) : Prop := ∃ m : Nat, m ≤ n ∧ i = .int .i64 ((m : Int) - 1) ∧ Hid (Below w.heap.size w wr ∧ F n = F m)

end Go.Proofs.YtfiapodjiifmaaaGreatDoor
/-
  Plain facts of proofs: a chain of texts ends in what folds up; two chains that begin unlike and end alike clash.
-/
namespace Go.Proofs.YtfiapodjiifmaaaGreatDoor
open Go.RowKit
set_option linter.unusedVariables false
set_option linter.unusedSimpArgs false

theorem bit_01 (ix j : Nat) (hj : j ≤ 7) (hx : ix ≤ 255) : bitI (ix : Int) (7 - j) = 0 ∨ bitI (ix : Int) (7 - j) = 1 := by
  rw [bit_of ix j (by omega) hx]
  have h2 : ix / 2 ^ j % 2 < 2 := Nat.mod_lt _ (by omega)
  generalize ix / 2 ^ j % 2 = q at *
  omega
theorem tag3_ok {a b : ByteArray} (ha : a.size ≤ 200) (hb : b.size ≤ 200) : tagOk 3 [a, b] = true := by
  unfold tagOk
  simp [ha, hb]
theorem hash3_yes {a b : ByteArray} (x : Int) (ha : a.size ≤ 200) (hb : b.size ≤ 200) : hashB 3 [a, b] x = cutH (tagB 3 [a, b]) x := by
  unfold hashB
  rw [if_pos (tag3_ok ha hb)]
theorem tag3_inj {a b c d : ByteArray} (ha : a.size ≤ 200) (hb : b.size ≤ 200) (hc : c.size ≤ 200) (hd : d.size ≤ 200) (h : tagB 3 [a, b] = tagB 3 [c, d]) : a = c ∧ b = d := by
  unfold tagB at h
  rw [if_pos (tag3_ok ha hb), if_pos (tag3_ok hc hd)] at h
  have := (TR.tag_inj (k := 3) (k' := 3) (by omega) (by omega) (fun x hx => by simp at hx; rcases hx with rfl | rfl <;> omega) (fun x hx => by simp at hx; rcases hx with rfl | rfl <;> omega) h).2
  simpa using this

section
variable {ix : Nat} (hx : ix ≤ 255) {x : Int} (h : 1 ≤ x ∧ x ≤ 32)
include hx h
/-- the digest of a chain's text is what folds up to there -/
theorem chain_fold (t0 : ByteArray) {S : List ByteArray} (hl : S.length ≤ 8) (hw : ∀ s ∈ S, s.size ≤ 32) : ∀ i, i ≤ S.length → cutH (chT ix x t0 S i) x = fuF x ix 8 (cutH t0 x) (S.take i)
  | 0, _ => by
    rw [List.take_zero, fuF_none]
    rfl
  | i + 1, hi => by
    have ih := chain_fold t0 hl hw i (by omega)
    have hs : (S[i]'(by omega)).size ≤ 200 := by
      have := hw (S[i]'(by omega)) (List.getElem_mem _)
      omega
    have hc : (cutH (chT ix x t0 S i) x).size ≤ 200 := by rw [cutH_size h]; omega
    rw [fuF_step x ix 8 (cutH t0 x) (s := S) (m := i) (by omega), ← ih, show 8 - 1 - i = 7 - i by omega]
    have e : S.getD i ⟨#[]⟩ = S[i]'(by omega) := by simp [List.getElem?_eq_getElem (show i < S.length by omega)]
    rw [chT, e]
    rcases bit_01 ix i (by omega) hx with hb | hb
    · rw [hb, if_neg (by decide), if_pos rfl, hash3_yes x hc hs]
    · rw [hb, if_pos rfl, if_neg (by decide), hash3_yes x hs hc]
omit hx in
theorem chain_step (t0 t1 : ByteArray) {S T : List ByteArray} (hl : S.length = 8) (hm : T.length = 8) (hw : ∀ s ∈ S, s.size ≤ 32) (hv : ∀ s ∈ T, s.size ≤ 32) (i : Nat) (hi : i < 8) (he : chT ix x t0 S (i + 1) = chT ix x t1 T (i + 1)) : cutH (chT ix x t0 S i) x = cutH (chT ix x t1 T i) x := by
  have e1 : S.getD i ⟨#[]⟩ = S[i]'(by omega) := by simp [List.getElem?_eq_getElem (show i < S.length by omega)]
  have e2 : T.getD i ⟨#[]⟩ = T[i]'(by omega) := by simp [List.getElem?_eq_getElem (show i < T.length by omega)]
  have s1 : (S[i]'(by omega)).size ≤ 200 := by
    have := hw (S[i]'(by omega)) (List.getElem_mem _)
    omega
  have s2 : (T[i]'(by omega)).size ≤ 200 := by
    have := hv (T[i]'(by omega)) (List.getElem_mem _)
    omega
  have c1 : (cutH (chT ix x t0 S i) x).size ≤ 200 := by rw [cutH_size h]; omega
  have c2 : (cutH (chT ix x t1 T i) x).size ≤ 200 := by rw [cutH_size h]; omega
  rw [chT, chT, e1, e2] at he
  by_cases hb : bitI (ix : Int) (7 - i) = 1
  · rw [if_pos hb, if_pos hb] at he
    exact (tag3_inj s1 c1 s2 c2 he).2
  · rw [if_neg hb, if_neg hb] at he
    exact (tag3_inj c1 s1 c2 s2 he).1
/-- **two chains that begin unlike and end alike clash** -/
theorem chains_clash {t0 t1 : ByteArray} {S T : List ByteArray} (hl : S.length = 8) (hm : T.length = 8) (hw : ∀ s ∈ S, s.size ≤ 32) (hv : ∀ s ∈ T, s.size ≤ 32) (hne : t0 ≠ t1) (hr : fuF x ix 8 (cutH t0 x) S = fuF x ix 8 (cutH t1 x) T) : clF (chL ix x t0 S 9) (chL ix x t1 T 9) x 9 = true := by
  have g : ∀ (t : ByteArray) (U : List ByteArray) (i : Nat), i < 9 → (chL ix x t U 9).getD i ⟨#[]⟩ = chT ix x t U i := fun t U i hi => by
    have hL : i < (chL ix x t U 9).length := by rw [chL_len]; exact hi
    rw [List.getD_eq_getElem?_getD, List.getElem?_eq_getElem hL, Option.getD_some, chL_at]
  unfold clF
  refine TR.clB_yes 9 ⟨0, by omega, ?_⟩ ?_ (fun i hi he => ?_)
  · show (chL ix x t0 S 9).getD 0 ⟨#[]⟩ ≠ (chL ix x t1 T 9).getD 0 ⟨#[]⟩
    rw [g _ _ 0 (by omega), g _ _ 0 (by omega)]
    exact hne
  · show cutH ((chL ix x t0 S 9).getD 8 ⟨#[]⟩) x = cutH ((chL ix x t1 T 9).getD 8 ⟨#[]⟩) x
    rw [g _ _ 8 (by omega), g _ _ 8 (by omega), chain_fold hx h t0 (by omega) hw 8 (by omega), chain_fold hx h t1 (by omega) hv 8 (by omega), List.take_of_length_le (by omega), List.take_of_length_le (by omega)]
    exact hr
  · show cutH ((chL ix x t0 S 9).getD i ⟨#[]⟩) x = cutH ((chL ix x t1 T 9).getD i ⟨#[]⟩) x
    have he' : (chL ix x t0 S 9).getD (i + 1) ⟨#[]⟩ = (chL ix x t1 T 9).getD (i + 1) ⟨#[]⟩ := he
    rw [g _ _ _ (by omega), g _ _ _ (by omega)] at he' ⊢
    exact chain_step h t0 t1 hl hm hw hv i (by omega) he'
end

end Go.Proofs.YtfiapodjiifmaaaGreatDoor
/-
  The proof of a name: the specification's answer.
-/
namespace Go.Proofs.YtfiapodjiifmaaaGreatDoor
open Go.RowKit Go.BigFrame Go.Sort
set_option linter.unusedVariables false
set_option linter.unusedSimpArgs false

end Go.Proofs.YtfiapodjiifmaaaGreatDoor
