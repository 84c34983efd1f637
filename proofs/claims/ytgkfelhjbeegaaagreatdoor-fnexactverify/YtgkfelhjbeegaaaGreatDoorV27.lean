/-
  Texts laid together: Bh, Tm, Em, Spo.
-/
import Derived.Test.YtgkfelhjbeegaaaGreatDoorV26
import Derived.Test.YtgkfelhjbeegaaaGreatDoorV07
import Derived.Deep.RegionHeld3
import Derived.Test.YtgkfelhjbeegaaaGreatDoorV25
/-
  What BucketHash answers, the program's and the specification's.
-/
namespace Go.Proofs.YtgkfelhjbeegaaaGreatDoor
open Go.RowKit Go.BigFrame Go.Sort
set_option linter.unusedVariables false
set_option linter.unusedSimpArgs false

open TR (bkp bkp_len)
/-- what BucketHash is -/
noncomputable def bhB (x : Int) (L : List Le) : ByteArray := if LV.leavesB L then cutH (btB L) x else ⟨#[]⟩
theorem bhB_yes {x : Int} {L : List Le} (h : LV.leavesB L = true) : bhB x L = cutH (btB L) x := by unfold bhB; rw [h]; rfl
theorem bhB_no {x : Int} {L : List Le} (h : LV.leavesB L = false) : bhB x L = ⟨#[]⟩ := by unfold bhB; rw [h]; rfl
theorem btB_size (L : List Le) : (btB L).size ≤ 12601 := by
  unfold btB
  split <;> exact tagB_size _ _
end Go.Proofs.YtgkfelhjbeegaaaGreatDoor
/-
  Plain facts of trees of hashes: what a place's hash is, where nothing is, and that a bucket's hash folds up.
-/
namespace Go.Proofs.YtgkfelhjbeegaaaGreatDoor.TR
set_option linter.unusedVariables false

variable {α : Type} {β : Type}
/-- the hash of nothing, k levels above the buckets -/
def emp (hN : β → β → β) (hE : β) : Nat → β
  | 0 => hE
  | k + 1 => hN (emp hN hE k) (emp hN hE k)
/-- those of l that lie under place p, k levels above the buckets -/
def und (idx : α → Nat) (k p : Nat) (l : List α) : List α := l.filter fun f => decide (idx f / 2 ^ k = p)
/-- a place's hash, as the two below it have it -/
def tr (idx : α → Nat) (hN : β → β → β) (hB : List α → β) : Nat → Nat → List α → β
  | 0, p, l => hB (und idx 0 p l)
  | k + 1, p, l => hN (tr idx hN hB k (2 * p) l) (tr idx hN hB k (2 * p + 1) l)
/-- a place's hash, as the specification goes down: what lies there is picked first -/
def nod (idx : α → Nat) (hN : β → β → β) (hE : β) (hB : List α → β) : Nat → Nat → List α → β
  | 0, p, l => if (und idx 0 p l).isEmpty then hE else hB (und idx 0 p l)
  | k + 1, p, l => if (und idx (k + 1) p l).isEmpty then emp hN hE (k + 1) else hN (nod idx hN hE hB k (2 * p) (und idx (k + 1) p l)) (nod idx hN hE hB k (2 * p + 1) (und idx (k + 1) p l))

section
variable {idx : α → Nat} {hN : β → β → β} {hE : β} {hB : List α → β}
theorem und_und {k j p q : Nat} {l : List α} (h : q / 2 ^ j = p) : und idx k q (und idx (k + j) p l) = und idx k q l := by
  unfold und
  rw [List.filter_filter]
  refine List.filter_congr fun f _ => ?_
  by_cases h1 : idx f / 2 ^ k = q
  · have h2 : idx f / 2 ^ (k + j) = p := by rw [Nat.pow_add, ← Nat.div_div_eq_div_mul, h1, h]
    rw [decide_eq_true h1, decide_eq_true h2]; rfl
  · rw [decide_eq_false h1]; rfl
theorem und_nil {k p : Nat} : und idx k p ([] : List α) = [] := rfl
/-- where nothing lies above, nothing lies below -/
theorem und_down {k j p q : Nat} {l : List α} (h : q / 2 ^ j = p) (h0 : und idx (k + j) p l = []) : und idx k q l = [] := by
  rw [← und_und h, h0, und_nil]
theorem tr_of : ∀ (k j p q : Nat) (l : List α), q / 2 ^ j = p → tr idx hN hB k q (und idx (k + j) p l) = tr idx hN hB k q l
  | 0, j, p, q, l, h => by unfold tr; rw [und_und h]
  | k + 1, j, p, q, l, h => by
    have e : k + 1 + j = k + (j + 1) := by omega
    have h1 : (2 * q) / 2 ^ (j + 1) = p := by rw [Nat.pow_succ, Nat.mul_comm (2 ^ j) 2, ← Nat.div_div_eq_div_mul, Nat.mul_div_cancel_left _ (by omega), h]
    have h2 : (2 * q + 1) / 2 ^ (j + 1) = p := by rw [Nat.pow_succ, Nat.mul_comm (2 ^ j) 2, ← Nat.div_div_eq_div_mul, show (2 * q + 1) / 2 = q by omega, h]
    unfold tr
    rw [e, tr_of k (j + 1) p (2 * q) l h1, tr_of k (j + 1) p (2 * q + 1) l h2]
theorem tr_none (hz : hB [] = hE) : ∀ (k p : Nat) (l : List α), und idx k p l = [] → tr idx hN hB k p l = emp hN hE k
  | 0, p, l, h => by unfold tr emp; rw [h, hz]
  | k + 1, p, l, h => by
    unfold tr emp
    rw [tr_none hz k (2 * p) l (und_down (j := 1) (by omega) h), tr_none hz k (2 * p + 1) l (und_down (j := 1) (by omega) h)]
/-- the specification's way down is the plain one -/
theorem nod_tr (hz : hB [] = hE) : ∀ (k p : Nat) (l : List α), nod idx hN hE hB k p l = tr idx hN hB k p l
  | 0, p, l => by
    unfold nod tr
    cases h : und idx 0 p l with
    | nil => simp [hz]
    | cons a t => simp
  | k + 1, p, l => by
    unfold nod
    cases h : (und idx (k + 1) p l).isEmpty with
    | true =>
      have h0 : und idx (k + 1) p l = [] := List.isEmpty_iff.1 h
      rw [tr_none hz (k + 1) p l h0]
      simp
    | false =>
      simp only [Bool.false_eq_true, if_false]
      rw [nod_tr hz k (2 * p) _, nod_tr hz k (2 * p + 1) _, tr_of k 1 p (2 * p) l (by omega), tr_of k 1 p (2 * p + 1) l (by omega)]
      rfl
theorem tr_step (k p : Nat) (l : List α) : tr idx hN hB (k + 1) p l = hN (tr idx hN hB k (2 * p) l) (tr idx hN hB k (2 * p + 1) l) := rfl

/-- the other one of two -/
def oth (y : Nat) : Nat := if y % 2 = 0 then y + 1 else y - 1
theorem oth_xor : ∀ y, y < 256 → y ^^^ 1 = oth y := by decide +kernel
/-- one step up: what stands at a place, and its side -/
theorem tr_up (k x : Nat) (l : List α) : tr idx hN hB (k + 1) (x / 2) l = if x % 2 = 0 then hN (tr idx hN hB k x l) (tr idx hN hB k (oth x) l) else hN (tr idx hN hB k (oth x) l) (tr idx hN hB k x l) := by
  rw [tr_step]
  unfold oth
  by_cases h : x % 2 = 0
  · rw [if_pos h, if_pos h, show 2 * (x / 2) = x by omega]
  · rw [if_neg h, if_neg h, show 2 * (x / 2) + 1 = x by omega, show 2 * (x / 2) = x - 1 by omega]
/-- a hash folded up over sides, from below; b tells the bit of each step -/
def fold (hN : β → β → β) (b : Nat → Bool) : Nat → β → List β → β
  | _, h, [] => h
  | i, h, s :: t => fold hN b (i + 1) (if b i then hN s h else hN h s) t
/-- the sides of index x from height k on, n of them -/
def sides (idx : α → Nat) (hN : β → β → β) (hB : List α → β) (x : Nat) (l : List α) : Nat → Nat → List β
  | _, 0 => []
  | k, n + 1 => tr idx hN hB k (oth (x / 2 ^ k)) l :: sides idx hN hB x l (k + 1) n
theorem sides_len (x : Nat) (l : List α) : ∀ (n k : Nat), (sides idx hN hB x l k n).length = n
  | 0, k => rfl
  | n + 1, k => by unfold sides; rw [List.length_cons, sides_len x l n (k + 1)]
theorem sides_at (x : Nat) (l : List α) : ∀ (n k i : Nat) (h : i < (sides idx hN hB x l k n).length), (sides idx hN hB x l k n)[i] = tr idx hN hB (k + i) (oth (x / 2 ^ (k + i))) l
  | 0, k, i, h => absurd h (by simp [sides])
  | n + 1, k, 0, h => rfl
  | n + 1, k, i + 1, h => by
    have h' : i < (sides idx hN hB x l (k + 1) n).length := by rw [sides_len] at h ⊢; omega
    have := sides_at x l n (k + 1) i h'
    rw [show k + 1 + i = k + (i + 1) by omega] at this
    exact this
/-- **a place's hash folds up**: from height k, over n sides -/
theorem fold_up (b : Nat → Bool) (x : Nat) (hb : ∀ i, b i = decide (x / 2 ^ i % 2 = 1)) (l : List α) : ∀ (n k : Nat), fold hN b k (tr idx hN hB k (x / 2 ^ k) l) (sides idx hN hB x l k n) = tr idx hN hB (k + n) (x / 2 ^ (k + n)) l
  | 0, k => rfl
  | n + 1, k => by
    unfold sides fold
    have e : (if b k then hN (tr idx hN hB k (oth (x / 2 ^ k)) l) (tr idx hN hB k (x / 2 ^ k) l) else hN (tr idx hN hB k (x / 2 ^ k) l) (tr idx hN hB k (oth (x / 2 ^ k)) l)) = tr idx hN hB (k + 1) (x / 2 ^ (k + 1)) l := by
      rw [Nat.pow_succ, ← Nat.div_div_eq_div_mul, tr_up, hb]
      by_cases h : x / 2 ^ k % 2 = 0
      · rw [if_pos h, decide_eq_false (by omega)]; rfl
      · rw [if_neg h, decide_eq_true (by omega)]; rfl
    rw [e, fold_up b x hb l n (k + 1), show k + 1 + n = k + (n + 1) by omega]
end

end Go.Proofs.YtgkfelhjbeegaaaGreatDoor.TR
/-
  Places where nothing is: the chain of empty nodes, and the specification's row of their hashes.
-/
namespace Go.Proofs.YtgkfelhjbeegaaaGreatDoor
open Go.RowKit Go.BigFrame
set_option linter.unusedVariables false
set_option linter.unusedSimpArgs false

/-- the hash of a place of two -/
def hnB (x : Int) (a b : ByteArray) : ByteArray := hashB 3 [a, b] x
/-- the hash of nothing, k levels above the buckets -/
def empB (x : Int) (k : Nat) : ByteArray := TR.emp (hnB x) (hashB 1 [] x) k
theorem empB_zero (x : Int) : empB x 0 = hashB 1 [] x := rfl
theorem empB_up (x : Int) (k : Nat) : empB x (k + 1) = hashB 3 [empB x k, empB x k] x := rfl

/-- v points to an empty node of this height, those below it behind it -/
def EmN (x : Int) (w : World) : Nat → Value → Prop
  | 0, v => ∃ g, v = .pointer (some ⟨g, 0, none⟩) ∧ w.cell? ⟨g, 0, none⟩ = some (.pointer none) ∧ w.cell? ⟨g, 1, none⟩ = some (.string (empB x 0))
  | k + 1, v => ∃ g b, v = .pointer (some ⟨g, 0, none⟩) ∧ w.cell? ⟨g, 0, none⟩ = some b ∧ w.cell? ⟨g, 1, none⟩ = some (.string (empB x (k + 1))) ∧ EmN x w k b
theorem cell_later {w w' : World} {p : Addr} {v : Value} (h : w.cell? p = some v) (hb : Below w.heap.size w w') : w'.cell? p = some v := by
  have hp : p.block < w.heap.size := by
    rcases Nat.lt_or_ge p.block w.heap.size with hz | hz
    · exact hz
    · simp [World.cell?, Array.getElem?_eq_none hz] at h
  exact (hb.cell hp).trans h
theorem EmN.later {x : Int} {w w' : World} (hb : Below w.heap.size w w') : ∀ {k : Nat} {v : Value}, EmN x w k v → EmN x w' k v
  | 0, v, ⟨g, h1, h2, h3⟩ => ⟨g, h1, cell_later h2 hb, cell_later h3 hb⟩
  | k + 1, v, ⟨g, b, h1, h2, h3, h4⟩ => ⟨g, b, h1, cell_later h2 hb, cell_later h3 hb, EmN.later hb h4⟩
/-- its hash stands there -/
theorem EmN.made {x : Int} {w : World} : ∀ {k : Nat} {v : Value}, EmN x w k v → ∃ g, v = .pointer (some ⟨g, 0, none⟩) ∧ w.cell? ⟨g, 1, none⟩ = some (.string (empB x k))
  | 0, v, ⟨g, h1, _, h3⟩ => ⟨g, h1, h3⟩
  | k + 1, v, ⟨g, b, h1, _, h3, _⟩ => ⟨g, h1, h3⟩

theorem taggedHash_none (x : Int) (w : World) (hT : Tb w) :
    Calls Tryz.prog 111 #[.int .i64 x, .int .i64 1, .slice none 0 0] w fun e w' => e = .returned (.string (hashB 1 [] x)) ∧ Below w.heap.size w w' :=
  taggedHash_any x 1 _ 0 0 [] w ⟨none, 0, rfl, by simp, fun h => absurd h (by simp), fun j h => absurd h (by simp)⟩ hT.1 hT.2

end Go.Proofs.YtgkfelhjbeegaaaGreatDoor
/-
  Leaves with their indexes, as the specification keeps them.
-/
namespace Go.Proofs.YtgkfelhjbeegaaaGreatDoor
open Go.RowKit Go.BigFrame Go.Sort
set_option linter.unusedVariables false
set_option linter.unusedSimpArgs false

def scs (f : Le) : List Value := [.string f.n, .string f.v, .int .i64 (idxN f.n : Int)]
theorem scs_len (f : Le) : (scs f).length = 3 := rfl
theorem RS.spot {w : World} {v : Value} {g o : Nat} {l : List Le} (h : RS 3 scs w v g o l) (j : Nat) (hj : j < l.length) :
    w.cell? ⟨g, o + j * 3, none⟩ = some (.string l[j].n) ∧ w.cell? ⟨g, o + j * 3 + 1, none⟩ = some (.string l[j].v) ∧ w.cell? ⟨g, o + j * 3 + 2, none⟩ = some (.int .i64 (idxN l[j].n : Int)) := by
  obtain ⟨a, c, _, _, _, hc⟩ := h
  exact ⟨hc j hj 0 _ rfl, hc j hj 1 _ rfl, hc j hj 2 _ rfl⟩
section
variable {w : World} {ops : Array Oper} {o : Oper} {a : Act} {K : Act → World → Prop} {Q : Exit → Act → World → Prop}
theorem scs_one {f : Le} : ∀ u ∈ scs f, u.oneCell' = true := fun u hu => by simp [scs] at hu; rcases hu with rfl | rfl | rfl <;> rfl
end

/-- a leaf's index -/
def idxL (f : Le) : Nat := idxN f.n
/-- what lies under a place, m of them seen -/
theorem und_step {L : List Le} {m : Nat} (k p : Nat) (hm : m < L.length) : TR.und idxL k p (L.take (m + 1)) = if idxL L[m] / 2 ^ k = p then TR.und idxL k p (L.take m) ++ [L[m]] else TR.und idxL k p (L.take m) := by
  unfold TR.und
  rw [LV.filt_step _ hm]
  by_cases h : idxL L[m] / 2 ^ k = p
  · rw [if_pos h, if_pos (by simpa using h)]
  · rw [if_neg h, if_neg (by simpa using h)]
theorem und_len (k p : Nat) (L : List Le) : (TR.und idxL k p L).length ≤ L.length := List.length_filter_le _ _
theorem und_small {k p : Nat} {L : List Le} (h : SmallL L) : SmallL (TR.und idxL k p L) := fun f hf => h f (List.mem_filter.1 hf).1
/-- a place's hash, as the specification goes down -/
noncomputable def ndB (x : Int) (k p : Nat) (L : List Le) : ByteArray := TR.nod idxL (hnB x) (hashB 1 [] x) (bhB x) k p L

end Go.Proofs.YtgkfelhjbeegaaaGreatDoor
