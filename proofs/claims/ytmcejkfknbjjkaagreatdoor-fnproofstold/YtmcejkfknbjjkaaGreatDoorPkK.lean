/-
  Texts laid together: Ti, Tm, Em, Eh, Bt, Bh, Fu, Spo, Nd, Nh.
-/
import Derived.Test.YtmcejkfknbjjkaaGreatDoorPkD
import Derived.Test.YtmcejkfknbjjkaaGreatDoorPkJ
import Derived.Test.YtmcejkfknbjjkaaGreatDoorPkE
import Derived.Deep.RegionHeld3
import Derived.Laws.CopyRow
import Derived.Test.YtmcejkfknbjjkaaGreatDoorRshort
/-
  Plain facts of tagged texts: two of them are alike only where kind and parts are; of two chains of digested texts that end alike and differ, the last two that differ have one digest.
-/
namespace Go.Proofs.YtmcejkfknbjjkaaGreatDoor.TR
set_option linter.unusedVariables false

theorem var_inj {n m : Nat} {s t : List UInt8} (hn : n ≤ 1000000000) (hm : m ≤ 1000000000) (h : M.varL n ++ s = M.varL m ++ t) : n = m ∧ s = t := by
  have a := LV.readVar_back [] s n hn
  have b := LV.readVar_back [] t m hm
  simp only [List.nil_append, List.length_nil, Nat.zero_add] at a b
  rw [h, b] at a
  have e : m = n := by simpa using congrArg (fun o => o.map Prod.fst) a
  subst e
  exact ⟨rfl, List.append_cancel_left h⟩
theorem var_ne (n : Nat) : M.varL n ≠ [] := by
  unfold M.varL
  by_cases h : n ≤ 127
  · rw [M.varF_small 9 n h]; simp
  · rw [M.varF_big 8 n (by omega)]; simp
theorem part_inj {p q : ByteArray} {s t : List UInt8} (hp : p.size ≤ 1000000000) (hq : q.size ≤ 1000000000) (h : tagP p ++ s = tagP q ++ t) : p = q ∧ s = t := by
  unfold tagP at h
  rw [List.append_assoc, List.append_assoc] at h
  obtain ⟨e, h2⟩ := var_inj hp hq h
  have hl : p.data.toList.length = q.data.toList.length := by
    have h1 : p.data.toList.length = p.size := rfl
    have h3 : q.data.toList.length = q.size := rfl
    omega
  obtain ⟨e1, e2⟩ := List.append_inj h2 hl
  refine ⟨?_, e2⟩
  cases p
  cases q
  congr
  exact Array.toList_inj.1 e1
theorem parts_inj : ∀ {l l' : List ByteArray}, (∀ x ∈ l, x.size ≤ 1000000000) → (∀ x ∈ l', x.size ≤ 1000000000) → l.flatMap tagP = l'.flatMap tagP → l = l'
  | [], [], _, _, _ => rfl
  | [], q :: t, _, _, h => by
    rw [List.flatMap_nil, List.flatMap_cons] at h
    have := (List.append_eq_nil_iff.1 h.symm).1
    unfold tagP at this
    exact absurd (List.append_eq_nil_iff.1 this).1 (var_ne _)
  | p :: t, [], _, _, h => by
    rw [List.flatMap_nil, List.flatMap_cons] at h
    have := (List.append_eq_nil_iff.1 h).1
    unfold tagP at this
    exact absurd (List.append_eq_nil_iff.1 this).1 (var_ne _)
  | p :: s, q :: t, h1, h2, h => by
    rw [List.flatMap_cons, List.flatMap_cons] at h
    obtain ⟨e, h3⟩ := part_inj (h1 p (by simp)) (h2 q (by simp)) h
    rw [e, parts_inj (fun x hx => h1 x (by simp [hx])) (fun x hx => h2 x (by simp [hx])) h3]
/-- **two tagged texts are alike only where kind and parts are** -/
theorem tag_inj {k k' : Nat} {l l' : List ByteArray} (hk : k ≤ 255) (hk' : k' ≤ 255) (h1 : ∀ x ∈ l, x.size ≤ 1000000000) (h2 : ∀ x ∈ l', x.size ≤ 1000000000) (h : tagS k l = tagS k' l') : k = k' ∧ l = l' := by
  have e : tagL k l = tagL k' l' := by
    have := congrArg (fun b : ByteArray => b.data.toList) h
    simpa [tagS] using this
  unfold tagL at e
  obtain ⟨e1, e2⟩ := List.cons.inj e
  refine ⟨?_, parts_inj h1 h2 e2⟩
  have := congrArg UInt8.toNat e1
  simp at this
  omega
/-- the parts of a bucket's text -/
def bkp (L : List Le) : List ByteArray := L.flatMap fun f => [f.n, f.v]
theorem bkp_inj : ∀ {L M : List Le}, bkp L = bkp M → L = M
  | [], [], _ => rfl
  | [], g :: t, h => by simp [bkp] at h
  | f :: s, [], h => by simp [bkp] at h
  | f :: s, g :: t, h => by
    have h' : f.n :: f.v :: bkp s = g.n :: g.v :: bkp t := h
    obtain ⟨e1, h2⟩ := List.cons.inj h'
    obtain ⟨e2, h3⟩ := List.cons.inj h2
    have : f = g := by cases f; cases g; simp at e1 e2; rw [e1, e2]
    rw [this, bkp_inj h3]
theorem bkp_len (L : List Le) : (bkp L).length = 2 * L.length := by
  induction L with
  | nil => rfl
  | cons f t ih => unfold bkp at ih ⊢; rw [List.flatMap_cons, List.length_append, ih]; simp; omega

/-- of two chains: from the last one on back the first two that differ, have they one digest? -/
def clB {τ δ : Type} [DecidableEq τ] [DecidableEq δ] (d : τ → δ) (a b : Nat → τ) : Nat → Bool
  | 0 => false
  | n + 1 => if a n = b n then clB d a b n else decide (d (a n) = d (b n))
theorem clB_yes {τ δ : Type} [DecidableEq τ] [DecidableEq δ] {d : τ → δ} {a b : Nat → τ} : ∀ n, (∃ i, i < n ∧ a i ≠ b i) → d (a (n - 1)) = d (b (n - 1)) → (∀ i, i + 1 < n → a (i + 1) = b (i + 1) → d (a i) = d (b i)) → clB d a b n = true
  | 0, ⟨i, hi, _⟩, _, _ => absurd hi (by omega)
  | n + 1, ⟨i, hi, hne⟩, hl, hs => by
    unfold clB
    by_cases h : a n = b n
    · rw [if_pos h]
      have hin : i < n := by
        rcases Nat.lt_or_ge i n with h1 | h1
        · exact h1
        · have : i = n := by omega
          subst this
          exact absurd h hne
      refine clB_yes n ⟨i, hin, hne⟩ (hs (n - 1) (by omega) ?_) (fun j hj => hs j (by omega))
      rw [show n - 1 + 1 = n by omega]
      exact h
    · rw [if_neg h]
      simpa using hl

end Go.Proofs.YtmcejkfknbjjkaaGreatDoor.TR
/-
  Plain facts of trees of hashes: what a place's hash is, where nothing is, and that a bucket's hash folds up.
-/
namespace Go.Proofs.YtmcejkfknbjjkaaGreatDoor.TR
set_option linter.unusedVariables false

variable {α : Type} {β : Type}
/-- the hash of nothing, k levels above the buckets -/
def emp (hN : β → β → β) (hE : β) : Nat → β
  | 0 => hE
  | k + 1 => hN (emp hN hE k) (emp hN hE k)
/-- those of l that lie under place p, k levels above the buckets -/
def und (idx : α → Nat) (k p : Nat) (l : List α) : List α := l.filter fun f => decide (idx f / 2 ^ k = p)
/-- a place's hash, as the two below it have it -/
def tr (idx : α → Nat) (hN : β → β → β) (hB : List α → β) : Nat → Nat → List α → β
  | 0, p, l => hB (und idx 0 p l)
  | k + 1, p, l => hN (tr idx hN hB k (2 * p) l) (tr idx hN hB k (2 * p + 1) l)
/-- a place's hash, as the specification goes down: what lies there is picked first -/
def nod (idx : α → Nat) (hN : β → β → β) (hE : β) (hB : List α → β) : Nat → Nat → List α → β
  | 0, p, l => if (und idx 0 p l).isEmpty then hE else hB (und idx 0 p l)
  | k + 1, p, l => if (und idx (k + 1) p l).isEmpty then emp hN hE (k + 1) else hN (nod idx hN hE hB k (2 * p) (und idx (k + 1) p l)) (nod idx hN hE hB k (2 * p + 1) (und idx (k + 1) p l))

section
variable {idx : α → Nat} {hN : β → β → β} {hE : β} {hB : List α → β}
theorem und_und {k j p q : Nat} {l : List α} (h : q / 2 ^ j = p) : und idx k q (und idx (k + j) p l) = und idx k q l := by
  unfold und
  rw [List.filter_filter]
  refine List.filter_congr fun f _ => ?_
  by_cases h1 : idx f / 2 ^ k = q
  · have h2 : idx f / 2 ^ (k + j) = p := by rw [Nat.pow_add, ← Nat.div_div_eq_div_mul, h1, h]
    rw [decide_eq_true h1, decide_eq_true h2]; rfl
  · rw [decide_eq_false h1]; rfl
theorem und_nil {k p : Nat} : und idx k p ([] : List α) = [] := rfl
/-- where nothing lies above, nothing lies below -/
theorem und_down {k j p q : Nat} {l : List α} (h : q / 2 ^ j = p) (h0 : und idx (k + j) p l = []) : und idx k q l = [] := by
  rw [← und_und h, h0, und_nil]
theorem tr_of : ∀ (k j p q : Nat) (l : List α), q / 2 ^ j = p → tr idx hN hB k q (und idx (k + j) p l) = tr idx hN hB k q l
  | 0, j, p, q, l, h => by unfold tr; rw [und_und h]
  | k + 1, j, p, q, l, h => by
    have e : k + 1 + j = k + (j + 1) := by omega
    have h1 : (2 * q) / 2 ^ (j + 1) = p := by rw [Nat.pow_succ, Nat.mul_comm (2 ^ j) 2, ← Nat.div_div_eq_div_mul, Nat.mul_div_cancel_left _ (by omega), h]
    have h2 : (2 * q + 1) / 2 ^ (j + 1) = p := by rw [Nat.pow_succ, Nat.mul_comm (2 ^ j) 2, ← Nat.div_div_eq_div_mul, show (2 * q + 1) / 2 = q by omega, h]
    unfold tr
    rw [e, tr_of k (j + 1) p (2 * q) l h1, tr_of k (j + 1) p (2 * q + 1) l h2]
theorem tr_none (hz : hB [] = hE) : ∀ (k p : Nat) (l : List α), und idx k p l = [] → tr idx hN hB k p l = emp hN hE k
  | 0, p, l, h => by unfold tr emp; rw [h, hz]
  | k + 1, p, l, h => by
    unfold tr emp
    rw [tr_none hz k (2 * p) l (und_down (j := 1) (by omega) h), tr_none hz k (2 * p + 1) l (und_down (j := 1) (by omega) h)]
/-- the specification's way down is the plain one -/
theorem nod_tr (hz : hB [] = hE) : ∀ (k p : Nat) (l : List α), nod idx hN hE hB k p l = tr idx hN hB k p l
  | 0, p, l => by
    unfold nod tr
    cases h : und idx 0 p l with
    | nil => simp [hz]
    | cons a t => simp
  | k + 1, p, l => by
    unfold nod
    cases h : (und idx (k + 1) p l).isEmpty with
    | true =>
      have h0 : und idx (k + 1) p l = [] := List.isEmpty_iff.1 h
      rw [tr_none hz (k + 1) p l h0]
      simp
    | false =>
      simp only [Bool.false_eq_true, if_false]
      rw [nod_tr hz k (2 * p) _, nod_tr hz k (2 * p + 1) _, tr_of k 1 p (2 * p) l (by omega), tr_of k 1 p (2 * p + 1) l (by omega)]
      rfl
theorem tr_step (k p : Nat) (l : List α) : tr idx hN hB (k + 1) p l = hN (tr idx hN hB k (2 * p) l) (tr idx hN hB k (2 * p + 1) l) := rfl

/-- the other one of two -/
def oth (y : Nat) : Nat := if y % 2 = 0 then y + 1 else y - 1
theorem oth_xor : ∀ y, y < 256 → y ^^^ 1 = oth y := by decide +kernel
/-- one step up: what stands at a place, and its side -/
theorem tr_up (k x : Nat) (l : List α) : tr idx hN hB (k + 1) (x / 2) l = if x % 2 = 0 then hN (tr idx hN hB k x l) (tr idx hN hB k (oth x) l) else hN (tr idx hN hB k (oth x) l) (tr idx hN hB k x l) := by
  rw [tr_step]
  unfold oth
  by_cases h : x % 2 = 0
  · rw [if_pos h, if_pos h, show 2 * (x / 2) = x by omega]
  · rw [if_neg h, if_neg h, show 2 * (x / 2) + 1 = x by omega, show 2 * (x / 2) = x - 1 by omega]
/-- a hash folded up over sides, from below; b tells the bit of each step -/
def fold (hN : β → β → β) (b : Nat → Bool) : Nat → β → List β → β
  | _, h, [] => h
  | i, h, s :: t => fold hN b (i + 1) (if b i then hN s h else hN h s) t
/-- the sides of index x from height k on, n of them -/
def sides (idx : α → Nat) (hN : β → β → β) (hB : List α → β) (x : Nat) (l : List α) : Nat → Nat → List β
  | _, 0 => []
  | k, n + 1 => tr idx hN hB k (oth (x / 2 ^ k)) l :: sides idx hN hB x l (k + 1) n
theorem sides_len (x : Nat) (l : List α) : ∀ (n k : Nat), (sides idx hN hB x l k n).length = n
  | 0, k => rfl
  | n + 1, k => by unfold sides; rw [List.length_cons, sides_len x l n (k + 1)]
theorem sides_at (x : Nat) (l : List α) : ∀ (n k i : Nat) (h : i < (sides idx hN hB x l k n).length), (sides idx hN hB x l k n)[i] = tr idx hN hB (k + i) (oth (x / 2 ^ (k + i))) l
  | 0, k, i, h => absurd h (by simp [sides])
  | n + 1, k, 0, h => rfl
  | n + 1, k, i + 1, h => by
    have h' : i < (sides idx hN hB x l (k + 1) n).length := by rw [sides_len] at h ⊢; omega
    have := sides_at x l n (k + 1) i h'
    rw [show k + 1 + i = k + (i + 1) by omega] at this
    exact this
/-- **a place's hash folds up**: from height k, over n sides -/
theorem fold_up (b : Nat → Bool) (x : Nat) (hb : ∀ i, b i = decide (x / 2 ^ i % 2 = 1)) (l : List α) : ∀ (n k : Nat), fold hN b k (tr idx hN hB k (x / 2 ^ k) l) (sides idx hN hB x l k n) = tr idx hN hB (k + n) (x / 2 ^ (k + n)) l
  | 0, k => rfl
  | n + 1, k => by
    unfold sides fold
    have e : (if b k then hN (tr idx hN hB k (oth (x / 2 ^ k)) l) (tr idx hN hB k (x / 2 ^ k) l) else hN (tr idx hN hB k (x / 2 ^ k) l) (tr idx hN hB k (oth (x / 2 ^ k)) l)) = tr idx hN hB (k + 1) (x / 2 ^ (k + 1)) l := by
      rw [Nat.pow_succ, ← Nat.div_div_eq_div_mul, tr_up, hb]
      by_cases h : x / 2 ^ k % 2 = 0
      · rw [if_pos h, decide_eq_false (by omega)]; rfl
      · rw [if_neg h, decide_eq_true (by omega)]; rfl
    rw [e, fold_up b x hb l n (k + 1), show k + 1 + n = k + (n + 1) by omega]
end

end Go.Proofs.YtmcejkfknbjjkaaGreatDoor.TR
/-
  Places where nothing is: the chain of empty nodes, and the specification's row of their hashes.
-/
namespace Go.Proofs.YtmcejkfknbjjkaaGreatDoor
open Go.RowKit Go.BigFrame
set_option linter.unusedVariables false
set_option linter.unusedSimpArgs false

/-- the hash of a place of two -/
def hnB (x : Int) (a b : ByteArray) : ByteArray := hashB 3 [a, b] x
/-- the hash of nothing, k levels above the buckets -/
def empB (x : Int) (k : Nat) : ByteArray := TR.emp (hnB x) (hashB 1 [] x) k
theorem empB_zero (x : Int) : empB x 0 = hashB 1 [] x := rfl
theorem empB_up (x : Int) (k : Nat) : empB x (k + 1) = hashB 3 [empB x k, empB x k] x := rfl

/-- v points to an empty node of this height, those below it behind it -/
def EmN (x : Int) (w : World) : Nat → Value → Prop
  | 0, v => ∃ g, v = .pointer (some ⟨g, 0, none⟩) ∧ w.cell? ⟨g, 0, none⟩ = some (.pointer none) ∧ w.cell? ⟨g, 1, none⟩ = some (.string (empB x 0))
  | k + 1, v => ∃ g b, v = .pointer (some ⟨g, 0, none⟩) ∧ w.cell? ⟨g, 0, none⟩ = some b ∧ w.cell? ⟨g, 1, none⟩ = some (.string (empB x (k + 1))) ∧ EmN x w k b
theorem cell_later {w w' : World} {p : Addr} {v : Value} (h : w.cell? p = some v) (hb : Below w.heap.size w w') : w'.cell? p = some v := by
  have hp : p.block < w.heap.size := by
    rcases Nat.lt_or_ge p.block w.heap.size with hz | hz
    · exact hz
    · simp [World.cell?, Array.getElem?_eq_none hz] at h
  exact (hb.cell hp).trans h
theorem EmN.later {x : Int} {w w' : World} (hb : Below w.heap.size w w') : ∀ {k : Nat} {v : Value}, EmN x w k v → EmN x w' k v
  | 0, v, ⟨g, h1, h2, h3⟩ => ⟨g, h1, cell_later h2 hb, cell_later h3 hb⟩
  | k + 1, v, ⟨g, b, h1, h2, h3, h4⟩ => ⟨g, b, h1, cell_later h2 hb, cell_later h3 hb, EmN.later hb h4⟩
/-- its hash stands there -/
theorem EmN.made {x : Int} {w : World} : ∀ {k : Nat} {v : Value}, EmN x w k v → ∃ g, v = .pointer (some ⟨g, 0, none⟩) ∧ w.cell? ⟨g, 1, none⟩ = some (.string (empB x k))
  | 0, v, ⟨g, h1, _, h3⟩ => ⟨g, h1, h3⟩
  | k + 1, v, ⟨g, b, h1, _, h3, _⟩ => ⟨g, h1, h3⟩

theorem taggedHash_none (x : Int) (w : World) (hT : Tb w) :
    Calls Tryz.prog 142 #[.int .i64 x, .int .i64 1, .slice none 0 0] w fun e w' => e = .returned (.string (hashB 1 [] x)) ∧ Below w.heap.size w w' :=
  taggedHash_any x 1 _ 0 0 [] w ⟨none, 0, rfl, by simp, fun h => absurd h (by simp), fun j h => absurd h (by simp)⟩ hT.1 hT.2

set_option maxRecDepth 100000 in
set_option maxHeartbeats 1000000 in
theorem emptyAt_any (x : Int) : ∀ (k : Nat) (l : Int) (w : World), l + (k : Int) = 8 → k ≤ 8 → Tb w →
    Calls Tryz.prog 129 #[.int .i64 l, .int .i64 x] w fun e w' => ∃ v, e = .returned v ∧ EmN x w' k v ∧ Below w.heap.size w w'
  | 0, l, w, hl, hk, hT => by
    have e : l = 8 := by omega
    subst e
    have hc := taggedHash_none x w hT
    clear hT
    rw [← empB_zero] at hc
    have HE : Hid (∀ w1, Below w.heap.size w w1 → EmN x (w1.alloc (.cells #[.pointer none, .string (empB x 0)] 189)) 0 (.pointer (some ⟨w1.heap.size, 0, none⟩)) ∧ Below w.heap.size w (w1.alloc (.cells #[.pointer none, .string (empB x 0)] 189))) := fun w1 hb => by
      refine ⟨⟨w1.heap.size, rfl, ?_, ?_⟩, hb.alloc hb.size _⟩
      · rw [World.cell?_alloc_at _ _ _ _ rfl]; rfl
      · rw [World.cell?_alloc_at _ _ _ _ rfl]; rfl
    generalize empB x 0 = E at *
    go_enter Tryz.func129, Tryz.ntmps129
    go_wp2_with fail
    refine hc.mono ?_
    rintro e w1 ⟨rfl, hb1⟩
    clear hc
    go_wp2_with fail
    go_ret
    exact ⟨_, rfl, HE.out _ hb1⟩
  | k + 1, l, w, hl, hk, hT => by
    have hc := emptyAt_any x k (l + 1) w (by omega) (by omega) hT
    have HT : Hid (Tb w) := hT
    have q : (l == 8) = false := by simp; omega
    have l0 : 0 ≤ l := by omega
    have l1 : l < 8 := by omega
    have HE : Hid (∀ w1 w2 g, Below w.heap.size w w1 → Below w1.heap.size w1 w2 → EmN x w1 k (.pointer (some ⟨g, 0, none⟩)) → EmN x (w2.alloc (.cells #[.pointer (some ⟨g, 0, none⟩), .string (empB x (k + 1))] 189)) (k + 1) (.pointer (some ⟨w2.heap.size, 0, none⟩)) ∧ Below w.heap.size w (w2.alloc (.cells #[.pointer (some ⟨g, 0, none⟩), .string (empB x (k + 1))] 189))) := fun w1 w2 g hb1 hb2 he => by
      have h2 : Below w.heap.size w w2 := hb1.trans (hb2.mono hb1.size)
      refine ⟨⟨w2.heap.size, .pointer (some ⟨g, 0, none⟩), rfl, ?_, ?_, he.later (hb2.alloc hb2.size _)⟩, h2.alloc h2.size _⟩
      · rw [World.cell?_alloc_at _ _ _ _ rfl]; rfl
      · rw [World.cell?_alloc_at _ _ _ _ rfl]; rfl
    clear hT hl hk
    go_enter Tryz.func129, Tryz.ntmps129
    go_wp2_with fail
    refine hc.mono ?_
    rintro e w1 ⟨v, rfl, he, hb1⟩
    obtain ⟨g, rfl, c1⟩ := he.made
    have HX : Hid (EmN x w1 k (.pointer (some ⟨g, 0, none⟩))) := he
    have HCT := taggedHash_wd x 3 [empB x k, empB x k] 2 #[.string (empB x k), .string (empB x k)] w1 _ rfl rfl (by omega) rfl (HT.out.later hb1)
    rw [← empB_up] at HCT
    have hg1 : g < w1.heap.size := lt_of_cell c1
    generalize empB x (k + 1) = F at *
    generalize empB x k = E at *
    clear hc he
    go_wp2_with fail
    go_region_held3 (fun W => W.cell? ⟨g, 1, none⟩ = some (.string E)) (first | go_keep | exact (hb2.cell (p := ⟨g, 1, none⟩) hg1).trans c1) ((go_at_call 142; refine HCT.out.mono ?_; rintro e w2 ⟨rfl, hb2⟩))
    go_wp2_with fail
    go_ret
    exact ⟨_, rfl, HE.out w1 w2 g hb1 hb2 HX.out⟩

end Go.Proofs.YtmcejkfknbjjkaaGreatDoor
/-
  What EmptyHash answers, the program's and the specification's.
-/
namespace Go.Proofs.YtmcejkfknbjjkaaGreatDoor
open Go.RowKit Go.BigFrame
set_option linter.unusedVariables false
set_option linter.unusedSimpArgs false

theorem levelOk_any (x : Int) (w : World) : Calls Tryz.prog 88 #[.int .i64 x] w fun e w' => e = .returned (.bool (decide (0 ≤ x ∧ x ≤ 8))) ∧ w' = w := by
  by_cases h1 : 0 ≤ x
  · by_cases h2 : x ≤ 8
    · go_enter Tryz.func88, Tryz.ntmps88
      go_wp2
      go_ret
      exact ⟨by simp [h1, h2], rfl⟩
    · go_enter Tryz.func88, Tryz.ntmps88
      go_wp2
      go_ret
      exact ⟨by simp [h2], rfl⟩
  · go_enter Tryz.func88, Tryz.ntmps88
    go_wp2
    go_ret
    exact ⟨by simp; omega, rfl⟩

/-- what EmptyHash is -/
def ehB (l x : Int) : ByteArray := if (0 ≤ l ∧ l ≤ 8) ∧ 1 ≤ x ∧ x ≤ 32 then empB x (8 - l.toNat) else ⟨#[]⟩

/-- the specification's row, laid from the last one on down to place m -/
def emL (x : Int) (m : Nat) : List ByteArray := (List.range 9).map fun j => if m ≤ j then empB x (8 - j) else ByteArray.empty
theorem emL_len (x : Int) (m : Nat) : (emL x m).length = 9 := by simp [emL]
theorem emL_at (x : Int) (m j : Nat) (h : j < (emL x m).length) : (emL x m)[j] = if m ≤ j then empB x (8 - j) else ByteArray.empty := by simp [emL]
theorem emL_set (x : Int) (m : Nat) (h : m < 9) : (emL x (m + 1)).set m (empB x (8 - m)) = emL x m := by
  apply List.ext_getElem
  · simp [emL]
  · intro j h1 h2
    rw [List.getElem_set, emL_at, emL_at]
    by_cases e : m = j
    · subst e; simp
    · rw [if_neg e]
      by_cases h3 : m ≤ j
      · rw [if_pos h3, if_pos (by omega)]
      · rw [if_neg h3, if_neg (by omega)]
theorem emL_none (x : Int) : emL x 9 = List.replicate 9 ByteArray.empty := by
  apply List.ext_getElem
  · simp [emL]
  · intro j h1 h2
    rw [emL_at, List.getElem_replicate, if_neg]
    rw [emL_len] at h1
    omega

theorem sTagHash_none (x : Int) (w : World) :
    Hid (Calls Tryz.prog 145 #[.int .i64 1, .slice (some ⟨w.heap.size, 0, none⟩) 0 0, .int .i64 x] (w.alloc (.cells #[] 9)) fun e w' => e = .returned (.string (hashB 1 [] x)) ∧ Below w.heap.size w w') :=
  sTagHash_w x 1 [] 0 #[] w _ rfl rfl (by omega) rfl

def ErR (x : Int) (w : World) (i : Value) (wr : World) : Prop := ∃ m : Nat, m ≤ 8 ∧ i = .int .i64 ((m : Int) - 1) ∧ TB wr w.heap.size (emL x m) ∧ Below w.heap.size w wr

set_option maxRecDepth 100000 in
set_option maxHeartbeats 1000000 in
theorem l10Empties_any (x : Int) (w : World) :
    Calls Tryz.prog 100 #[.int .i64 x] w fun e w' => ∃ g, e = .returned (.slice (some ⟨g, 0, none⟩) 9 9) ∧ w.heap.size ≤ g ∧ TB w' g (emL x 0) ∧ Below w.heap.size w w' := by
  obtain ⟨w2, hmk0, hib, hb2, hs2⟩ := TB.made 9 (by omega) w
  have hmk : (Instr.makeSlice 29 (.int .i64 9) (.int .i64 9)).run Tryz.prog w = .ok (.slice (some ⟨w.heap.size, 0, none⟩) 9 9) w2 := hmk0
  rw [← emL_none x] at hib
  have hc := sTagHash_none x w2
  rw [← empB_zero] at hc
  have hlt2 : w.heap.size < w2.heap.size := by omega
  clear hmk0 hs2
  go_enter Tryz.func100, Tryz.ntmps100
  go_wp2_with fail
  refine hc.out.mono ?_
  rintro e w3 ⟨rfl, hb3⟩
  have hib3 := hib.below hb3 hlt2
  have c0 := hib3.cell 8 (by rw [emL_len]; omega)
  have f0 := hib3.frozen 8
  have hs3 := hib3.set 8 (by rw [emL_len]; omega) (empB x 0)
  have e8 := emL_set x 8 (by omega)
  have e9 : empB x (8 - 8) = empB x 0 := rfl
  rw [e9] at e8
  rw [e8] at hs3
  have HST : Hid (ErR x w (.int .i64 7) (w3.setCell ⟨w.heap.size, 8, none⟩ (.string (empB x 0)))) := ⟨8, by omega, rfl, hs3, ((hb2.trans (hb3.mono (by omega))).setCell (p := ⟨w.heap.size, 8, none⟩) (Nat.le_refl _) _)⟩
  generalize (emL x 9)[8]'(by rw [emL_len]; omega) = Y at *
  clear hib hib3 hs3 e8 e9 hc hb2 hb3 hmk hlt2
  generalize empB x 0 = Z at *
  go_wp2
  clear c0 f0
  go_loopw [4] (fun i wr => ErR x w i wr) (fun i _ => (intOf i + 1).toNat)
  case atStart => exact HST.out
  case round =>
    obtain ⟨m, hm, rfl, hib, hbel⟩ := hrel
    clear HST
    by_cases hlt : 0 < m
    · have hlen : (emL x m).length = 9 := emL_len x m
      have c1 := hib.cell m (by omega)
      rw [emL_at, if_pos (Nat.le_refl _)] at c1
      have hlt2 : w.heap.size < wr.heap.size := hib.lt
      have HCT := sTagHash_wd x 3 [empB x (8 - m), empB x (8 - m)] 2 #[.string (empB x (8 - m)), .string (empB x (8 - m))] wr _ rfl rfl (by omega) rfl
      rw [← empB_up] at HCT
      have e1 : 8 - m + 1 = 8 - (m - 1) := by omega
      rw [e1] at HCT
      have HS : Hid (∀ w2, Below wr.heap.size wr w2 → ErR x w (.int .i64 ((m : Int) - 1 - 1)) (w2.setCell ⟨w.heap.size, m - 1, none⟩ (.string (empB x (8 - (m - 1))))) ) := fun w2 hb => by
        have h1 := (hib.below hb hlt2).set (m - 1) (by omega) (empB x (8 - (m - 1)))
        have e2 : m = m - 1 + 1 := by omega
        have e3 := emL_set x (m - 1) (by omega)
        rw [← e2] at e3
        rw [e3] at h1
        exact ⟨m - 1, by omega, by congr 1; omega, h1, ((hbel.trans (hb.mono hbel.size)).setCell (p := ⟨w.heap.size, m - 1, none⟩) (Nat.le_refl _) _)⟩
      have HC0 : Hid (∀ w2, Below wr.heap.size wr w2 → ∃ Y, w2.cell? ⟨w.heap.size, m - 1, none⟩ = some (.string Y) ∧ w2.frozen? ⟨w.heap.size, m - 1, none⟩ = false) := fun w2 hb => by
        have h1 := hib.below hb hlt2
        exact ⟨_, h1.cell (m - 1) (by omega), h1.frozen _⟩
      have i1 : (0 : Int) ≤ (m : Int) - 1 := by omega
      have i2 : (m : Int) - 1 + 1 = (m : Int) := by omega
      have t1 : ((m : Int) - 1).toNat = m - 1 := by omega
      have t2 : (m : Int).toNat = m := by omega
      have i3 : (m : Int) - 1 < 9 := by omega
      have i4 : (m : Int) < 9 := by omega
      have HSK : Hid (∀ w2, Below wr.heap.size wr w2 → (w2.setCell ⟨w.heap.size, m - 1, none⟩ (.string (empB x (8 - (m - 1))))).cell? ⟨w.heap.size, m, none⟩ = some (.string (empB x (8 - m)))) := fun w2 hb => by
        have h1 := (hib.below hb hlt2).set (m - 1) (by omega) (empB x (8 - (m - 1)))
        have h2 := h1.cell m (by rw [List.length_set]; omega)
        rw [List.getElem_set_ne (by omega), emL_at, if_pos (Nat.le_refl _)] at h2
        exact h2
      have a2 : IntKind.i64.wrap ((m : Int) - 1 + 1) = (m : Int) := by rw [i2]; exact IntWalk.i64_in _ (by omega)
      have a3 : IntKind.i64.wrap (m : Int) = (m : Int) := IntWalk.i64_in _ (by omega)
      have i5 : (0 : Int) ≤ (m : Int) := by omega
      clear i2
      generalize empB x (8 - (m - 1)) = F at *
      generalize empB x (8 - m) = E at *
      clear hib hbel hlen e1
      go_wp2
      go_region_held3 (fun W => W.cell? ⟨w.heap.size, m, none⟩ = some (.string E)) (first | go_keep | exact (hb1.cell (p := ⟨w.heap.size, m, none⟩) hlt2).trans c1 | exact HSK.out _ hb1) ((go_at_call 145; refine HCT.out.mono ?_; rintro e w1 ⟨rfl, hb1⟩; obtain ⟨Y0, c0, f0⟩ := HC0.out _ hb1))
      have HN := HS.out _ hb1
      have HNH : Hid (ErR x w (.int .i64 ((m : Int) - 1 - 1)) (w1.setCell ⟨w.heap.size, m - 1, none⟩ (.string F))) := HN
      clear HN HS HSK HC0
      go_wp2
      go_roundw
      case rel => exact HNH.out
      case measure => simp [intOf]; omega
    · have hme : m = 0 := by omega
      subst hme
      have HF : Hid (TB wr w.heap.size (emL x 0) ∧ Below w.heap.size w wr) := ⟨hib, hbel⟩
      clear hib hbel
      go_wp2
      go_ret
      exact ⟨_, rfl, Nat.le_refl _, HF.out⟩

end Go.Proofs.YtmcejkfknbjjkaaGreatDoor
/-
  What BucketText answers, the program's and the specification's.
-/
namespace Go.Proofs.YtmcejkfknbjjkaaGreatDoor
open Go.RowKit Go.BigFrame Go.Sort
set_option linter.unusedVariables false
set_option linter.unusedSimpArgs false

open TR (bkp bkp_len)
/-- the text of leaves that are right -/
def btB (L : List Le) : ByteArray := if L.isEmpty then tagB 1 [] else tagB 2 (bkp L)
/-- what BucketText is -/
noncomputable def btA (L : List Le) : ByteArray := if LV.leavesB L then btB L else ⟨#[]⟩
theorem btA_yes {L : List Le} (h : LV.leavesB L = true) : btA L = btB L := by unfold btA; rw [h]; rfl
theorem btA_no {L : List Le} (h : LV.leavesB L = false) : btA L = ⟨#[]⟩ := by unfold btA; rw [h]; rfl
theorem leB_size {f : Le} (h : LV.leB f = true) : f.n.size ≤ 12 ∧ f.v.size ≤ 12 ∧ 1 ≤ f.n.size := by
  unfold LV.leB okB at h
  simp only [Bool.and_eq_true, decide_eq_true_eq] at h
  omega
theorem bkp_mem {L : List Le} {y : ByteArray} (h : y ∈ bkp L) : ∃ f ∈ L, y = f.n ∨ y = f.v := by
  unfold bkp at h
  obtain ⟨f, hf, hy⟩ := List.mem_flatMap.1 h
  exact ⟨f, hf, by simpa using hy⟩
theorem bkp_ok {L : List Le} (h : LV.LOk L) : tagOk 2 (bkp L) = true := by
  unfold tagOk
  rw [Bool.and_eq_true, decide_eq_true_eq, List.all_eq_true]
  refine ⟨⟨by omega, by rw [bkp_len]; have := h.1; omega⟩, fun y hy => ?_⟩
  obtain ⟨f, hf, hfy⟩ := bkp_mem hy
  have := leB_size (h.2.1 f hf)
  rw [decide_eq_true_eq]
  rcases hfy with rfl | rfl <;> omega
theorem none_ok : tagOk 1 [] = true := by decide
theorem bkp_step {L : List Le} {m : Nat} (hm : m < L.length) : bkp (L.take (m + 1)) = bkp (L.take m) ++ [L[m].n, L[m].v] := by
  unfold bkp
  rw [List.take_succ_eq_append_getElem hm, List.flatMap_append]
  simp
theorem btB_nil : btB [] = tagB 1 [] := rfl
theorem btB_some {L : List Le} (h : 0 < L.length) : btB L = tagB 2 (bkp L) := by
  unfold btB
  cases L with
  | nil => simp at h
  | cons f t => rfl

theorem svs_len (l : List ByteArray) : (svs l).length = l.length := by simp [svs]
/-- some texts that are written out, appended to texts that the call owns -/
theorem wp_appLit {w : World} {ops : Array Oper} {rest : List Oper} {o : Oper} {a : Act} {Q : Exit → Act → World → Prop} (hgd : o.guard = none) (s x : Operand)
    (ho : o.op = .call { callee := .builtin .append, args := #[s, x], argTypes := #[29, 29] })
    (B : Nat) (w0 : World) (v u : Value) (l r : List ByteArray) (hs : a.eval s = v) (hown : OS B w0 w v l) (hx : a.eval x = u) (g of : Nat) (hr : SS w u g of r) (h0 : 0 < r.length) (hlen : l.length + r.length ≤ 1000000)
    (h : ∀ v' w', OS B w0 w' v' (l ++ r) → w.grownBy w' v.ownBlock → wpList Tryz.prog ops Q rest (a.put o.dst v') w') : wpList Tryz.prog ops Q (o :: rest) a w := by
  obtain ⟨i0, hi, hz0, hz1, hz2⟩ := info_parts Tryz.info9
  obtain ⟨ao, cap, rfl, _, hA, hc⟩ := hr
  have ea := hA h0
  subst ea
  refine wpList_append_own _ hgd s x 29 ho B 9 i0 (.string ByteArray.empty) 1 16 Tryz.underlying29 hi hz0 hz1 hz2 rfl (by decide) v l.length (svs l) hs hown.1 ⟨g, of, none⟩ r.length cap (svs r) hx (by simp [svs]) ?_
    (fun u hu => by simp [svs] at hu; obtain ⟨b, _, rfl⟩ := hu; rfl) (by unfold maxLen; omega) (by omega) hown.2.2 ?_
  · intro j u hj
    have hj2 : j < r.length := by
      have := (List.getElem?_eq_some_iff.1 hj).1
      simpa [svs] using this
    have e : (⟨g, of, none⟩ : Addr).add j = ⟨g, of + j, none⟩ := by unfold Addr.add; split <;> simp_all
    rw [e, hc j hj2]
    simp [svs, List.getElem?_eq_getElem hj2] at hj
    rw [hj]
  · intro v' w' h1 h2 _
    refine h v' w' ⟨by rw [List.length_append, svs_append]; exact h1, hown.2.1.grown h2 hown.2.2 (fun k hk => (hown.1.lt k hk).1), ?_⟩ h2
    exact Nat.le_trans hown.2.2 h2.size
/-- .. as one step of a region that draws its order -/
theorem step_appLit {w : World} {ops : Array Oper} {o : Oper} {a : Act} {K : Act → World → Prop} {Q : Exit → Act → World → Prop} {E : Prop} (hg : o.guard = none) (s x : Operand)
    (hop : o.op = .call { callee := .builtin .append, args := #[s, x], argTypes := #[29, 29] })
    (B : Nat) (w0 : World) (v u : Value) (l r : List ByteArray) (hs : a.eval s = v) (hown : OS B w0 w v l) (hx : a.eval x = u) (g of : Nat) (hr : SS w u g of r) (h0 : 0 < r.length) (hlen : l.length + r.length ≤ 1000000)
    (hK : ∀ v' w', OS B w0 w' v' (l ++ r) → w.grownBy w' v.ownBlock → K (a.put o.dst v') w') : if Region.wanted o (yielded ops a.tmps) = true then Oper.wp Tryz.prog o a w K Q else E := by
  obtain ⟨i0, hi, hz0, hz1, hz2⟩ := info_parts Tryz.info9
  obtain ⟨ao, cap, rfl, _, hA, hc⟩ := hr
  have ea := hA h0
  subst ea
  have hcs : ∀ j u, (svs r)[j]? = some u → w.cell? ((⟨g, of, none⟩ : Addr).add j) = some u := by
    intro j u hj
    have hj2 : j < r.length := by
      have := (List.getElem?_eq_some_iff.1 hj).1
      simpa [svs] using this
    have e : (⟨g, of, none⟩ : Addr).add j = ⟨g, of + j, none⟩ := by unfold Addr.add; split <;> simp_all
    rw [e, hc j hj2]
    simp [svs, List.getElem?_eq_getElem hj2] at hj
    rw [hj]
  obtain ⟨v', w', hrun, h1, h2, _⟩ := run_append_own (P := Tryz.prog) w B 29 o.type 9 i0 (.string ByteArray.empty) 1 16 Tryz.underlying29 hi hz0 hz1 hz2 rfl (by decide) v l.length (svs l) hown.1 ⟨g, of, none⟩ r.length cap (svs r) (by simp [svs]) hcs
    (fun u hu => by simp [svs] at hu; obtain ⟨b, _, rfl⟩ := hu; rfl) (by unfold maxLen; omega) (by omega) hown.2.2
  have hOB : OS B w0 w' v' (l ++ r) := ⟨by rw [List.length_append, svs_append]; exact h1, hown.2.1.grown h2 hown.2.2 (fun k hk => (hown.1.lt k hk).1), Nat.le_trans hown.2.2 h2.size⟩
  have hw : Region.wanted o (yielded ops a.tmps) = true := by simp [Region.wanted, hg]
  rw [if_pos hw]
  unfold Oper.wp
  simp [execOp, hop, resolve, invoke, builtin, hs, hx, hrun, Result.andThen]
  exact hK v' w' hOB h2
theorem OS.slice {B : Nat} {w0 w : World} {v : Value} {l : List ByteArray} (h : OS B w0 w v l) : ∃ a c, v = .slice a l.length c := by
  rcases h.shape with ⟨hv, hn⟩ | ⟨g, cap, hv, _⟩
  · exact ⟨none, 0, by rw [hv, hn]; rfl⟩
  · exact ⟨_, _, hv⟩

def BtR (B : Nat) (w : World) (L : List Le) (u i : Value) (wr : World) : Prop := ∃ m : Nat, m ≤ L.length ∧ i = .int .i64 m ∧ Hid (OS B w wr u (bkp (L.take m)))

set_option maxRecDepth 100000 in
set_option maxHeartbeats 1000000 in
theorem sBucketText_any (v : Value) (ga oa : Nat) (L : List Le) (w : World) (hv : RS 2 lcs w v ga oa L) (hsm : SmallL L) :
    Calls Tryz.prog 79 #[v] w fun e w' => e = .returned (.tuple #[.string (btA L), .bool (LV.leavesB L)]) ∧ Below w.heap.size w w' := by
  have hc := sLeavesOk_any v ga oa L w hv hsm
  have HV : Hid (RS 2 lcs w v ga oa L) := hv
  obtain ⟨a, cap, rfl, hl, hA, _⟩ := hv
  cases hR : LV.leavesB L with
  | false =>
    rw [btA_no hR]
    rw [hR] at hc
    clear hA hsm HV
    go_enter Tryz.func79, Tryz.ntmps79
    go_wp2_with fail
    refine hc.mono ?_
    rintro e w1 ⟨rfl, hb1⟩
    go_wp2
    go_ret2
    exact ⟨rfl, hb1⟩
  | true =>
    rw [btA_yes hR]
    rw [hR] at hc
    have hok := LV.leavesB_iff.1 hR
    obtain ⟨n, hn⟩ : ∃ n, L.length = n := ⟨_, rfl⟩
    have HA : Hid (0 < n → a = some ⟨ga, oa, none⟩) := by rw [← hn]; exact fun h => (hA h).1
    have HO : Hid (tagOk 2 (bkp L) = true ∧ LV.LOk L) := ⟨bkp_ok hok, hok⟩
    have hl24 := hok.1
    rw [hn] at hl hl24 HV hc ⊢
    clear hA hsm hok hR
    by_cases h0 : n = 0
    · have eL : L = [] := List.length_eq_zero_iff.1 (by omega)
      subst eL
      subst h0
      rw [btB_nil]
      have HT : Hid (∀ w1, Below w.heap.size w w1 → Calls Tryz.prog 81 #[.int .i64 1, .slice (some ⟨w1.heap.size, 0, none⟩) 0 0] (w1.alloc (.cells #[] 9)) fun e w' => e = .returned (.tuple #[.string (tagB 1 []), .bool true]) ∧ Below w.heap.size w w') := fun w1 hb1 => by
        have h := sTagText_any 1 (.slice (some ⟨w1.heap.size, 0, none⟩) 0 0) w1.heap.size 0 [] (w1.alloc (.cells #[] 9)) (ss_lits w1 [] #[] 0 rfl (by omega) rfl)
        rw [none_ok] at h
        have hb2 := hb1.alloc hb1.size (.cells #[] 9)
        exact h.mono fun e w' ⟨he, hb⟩ => ⟨he, hb2.trans (hb.mono hb2.size)⟩
      generalize tagB 1 [] = T at *
      clear HV HA HO hn
      go_enter Tryz.func79, Tryz.ntmps79
      go_wp2_with fail
      refine hc.mono ?_
      rintro e w1 ⟨rfl, hb1⟩
      clear hc
      go_wp2_with fail
      refine (HT.out _ hb1).mono ?_
      rintro e w2 ⟨rfl, hb2⟩
      go_wp2
      go_ret2
      exact ⟨rfl, hb2⟩
    · rw [btB_some (by omega)]
      have q0 : ((n : Int) == 0) = false := by simpa using h0
      have ea := HA.out (by omega)
      subst ea
      have HO2 : Hid (∀ w1, Below w.heap.size w w1 → ∀ wr u, OS w1.heap.size w1 wr u (bkp L) → Calls Tryz.prog 81 #[.int .i64 2, u] wr fun e w' => e = .returned (.tuple #[.string (tagB 2 (bkp L)), .bool true]) ∧ Below w.heap.size w w') := fun w1 hb1 wr u hos => by
        obtain ⟨g, hss⟩ := hos.ss (by rw [bkp_len]; omega)
        have h := sTagText_any 2 u g 0 (bkp L) wr hss
        rw [HO.out.1] at h
        have hb2 : Below w.heap.size w wr := hb1.trans (hos.2.1.mono hb1.size)
        exact h.mono fun e w' ⟨he, hb⟩ => ⟨he, hb2.trans (hb.mono hb2.size)⟩
      generalize tagB 2 (bkp L) = T at *
      clear HA h0 HO
      go_enter Tryz.func79, Tryz.ntmps79
      go_wp2_with fail
      refine hc.mono ?_
      rintro e w1 ⟨rfl, hb1⟩
      have HST : Hid (BtR w1.heap.size w1 L (.slice (some ⟨w1.heap.size, 0, none⟩) 0 0) (.int .i64 0) (w1.alloc (.cells #[] 9))) := ⟨0, by omega, rfl, OS.made w1⟩
      have HV1 : Hid (RS 2 lcs w1 (.slice (some ⟨ga, oa, none⟩) n cap) ga oa L ∧ Below w.heap.size w w1) := ⟨HV.out.later hb1, hb1⟩
      have HN : Hid (L.length = n) := hn
      clear hc HV hn hb1
      go_wp2
      go_loopw [4, 5] (fun u i wr => BtR w1.heap.size w1 L u i wr) (fun _ i _ => n - (intOf i).toNat)
      case atStart => exact HST.out
      case round =>
        obtain ⟨m, hm, rfl, HI⟩ := hrel
        clear HST
        rw [HN.out] at hm
        have hL : (bkp (L.take m)).length = 2 * m := by rw [bkp_len, List.length_take, HN.out]; omega
        obtain ⟨au, cu, hu⟩ := HI.out.slice
        rw [hL] at hu
        subst hu
        have HLL : Hid ((bkp (L.take m)).length + 2 ≤ 1000000) := by show (bkp (L.take m)).length + 2 ≤ 1000000; omega
        clear hL
        by_cases hlt : m < n
        · obtain ⟨c0, c1⟩ := (HV1.out.1.later HI.out.2.1).leaf m (by rw [HN.out]; exact hlt)
          have hst := bkp_step (L := L) (m := m) (by rw [HN.out]; exact hlt)
          generalize L[m]'(by rw [HN.out]; exact hlt) = X at *
          have i1 : (m : Int) < (n : Int) := by omega
          have i2 : (0 : Int) ≤ (m : Int) := by omega
          have hga : ga < wr.heap.size := lt_of_cell c0
          have HNX : Hid (∀ v W, OS w1.heap.size w1 W v (bkp (L.take m) ++ [X.n, X.v]) → BtR w1.heap.size w1 L v (.int .i64 ((m : Int) + 1)) W) := by
            rw [← hst]
            exact fun v W hW => ⟨m + 1, by rw [HN.out]; omega, by congr 1, hW⟩
          have hne : ∀ q, (Value.slice au (2 * m) cu).ownBlock = some q → q ≠ ga := fun q hq => by
            have h1 := (HI.out.1.lt q hq).1
            have h2 : ga < w1.heap.size := by
              obtain ⟨_, _, _, _, h3, _⟩ := HV1.out.1
              exact (h3 (by rw [HN.out]; omega)).2
            omega
          have HK : Hid (∀ W, (wr.alloc (.cells #[.string X.n, .string X.v] 9)).drew.grownBy W (Value.slice au (2 * m) cu).ownBlock → W.cell? ⟨ga, oa + m * 2, none⟩ = some (.string X.n) ∧ W.cell? ⟨ga, oa + m * 2 + 1, none⟩ = some (.string X.v)) := fun W hW => by
            have hb := hW.block ga (show ga < (wr.alloc (.cells #[.string X.n, .string X.v] 9)).heap.size by simp; omega) (fun e => hne ga e.symm rfl)
            have hb0 : (wr.alloc (.cells #[.string X.n, .string X.v] 9)).drew.heap[ga]? = wr.heap[ga]? := ((Below.refl wr.heap.size wr).alloc (Nat.le_refl _) _).block ga hga
            exact ⟨(cell_kept (hb.trans hb0)).trans c0, (cell_kept (hb.trans hb0)).trans c1⟩
          generalize bkp (L.take m) = l at *
          clear hst hne HO2
          go_wp2
          go_region_held3 (fun W => W.cell? ⟨ga, oa + m * 2, none⟩ = some (.string X.n) ∧ W.cell? ⟨ga, oa + m * 2 + 1, none⟩ = some (.string X.v)) (first | go_keep | exact HK.out _ hg2) ((refine step_appLit rfl _ _ rfl w1.heap.size w1 _ _ l [X.n, X.v] (by rfl) ((HI.out.alloc _).drew) (by rfl) wr.heap.size 0 (ss_lits wr [X.n, X.v] #[.string X.n, .string X.v] 2 rfl (by omega) rfl) (by simp) HLL.out ?_; intro v' w2 hos2 hg2))
          have HN2 : Hid (BtR w1.heap.size w1 L v' (.int .i64 ((m : Int) + 1)) w2) := HNX.out _ _ hos2
          clear HNX hos2 hg2 HI HK
          go_wp2
          go_roundw
          case rel => exact HN2.out
          case measure => simp [intOf]; omega
        · have hme : m = n := by omega
          have e : bkp (L.take m) = bkp L := by rw [List.take_of_length_le (by rw [HN.out]; omega)]
          rw [e] at HI
          have hq := HO2.out _ HV1.out.2 _ _ HI.out
          subst hme
          clear HI HV1 HO2 e HN HLL
          go_wp2_with fail
          refine hq.mono ?_
          rintro e w2 ⟨rfl, hb2⟩
          go_wp2
          go_ret2
          exact ⟨rfl, hb2⟩

/-- 'make([]string, 0, n)' -/
theorem OS.room (n : Nat) (hn : n ≤ 1000000) (w : World) : ∃ w', (Instr.makeSlice 29 (.int .i64 0) (.int .i64 (n : Int))).run Tryz.prog w = .ok (.slice (some ⟨w.heap.size, 0, none⟩) 0 n) w' ∧ OS w.heap.size w w' (.slice (some ⟨w.heap.size, 0, none⟩) 0 n) [] := by
  obtain ⟨i0, hi, hz0, hz1, hz2⟩ := info_parts Tryz.info9
  have h1 := run_make (P := Tryz.prog) w 29 9 i0 (.string ByteArray.empty) Tryz.underlying29 hi hz0 .i64 .i64 0 (n : Int) (by omega) (by omega) (by rw [hz2]; omega) (by omega)
  refine ⟨_, by simpa using h1, World.ownsRow_made w _ n (Nat.le_refl _) (by unfold maxLen; omega) ?_, (Below.refl _ _).alloc (Nat.le_refl _) _, by simp⟩
  rw [size_madeCells, hz1]

set_option maxRecDepth 100000 in
set_option maxHeartbeats 1000000 in
theorem BucketText_any (v : Value) (ga oa : Nat) (L : List Le) (w : World) (hv : RS 2 lcs w v ga oa L) (hsm : SmallL L) :
    Calls Tryz.prog 74 #[v] w fun e w' => e = .returned (.tuple #[.string (btA L), .bool (LV.leavesB L)]) ∧ Below w.heap.size w w' := by
  have hc := LeavesOk_any v ga oa L w hv hsm
  have HV : Hid (RS 2 lcs w v ga oa L) := hv
  obtain ⟨a, cap, rfl, hl, hA, _⟩ := hv
  cases hR : LV.leavesB L with
  | false =>
    rw [btA_no hR]
    rw [hR] at hc
    clear hA hsm HV
    go_enter Tryz.func74, Tryz.ntmps74
    go_wp2_with fail
    refine hc.mono ?_
    rintro e w1 ⟨rfl, hb1⟩
    go_wp2
    go_ret2
    exact ⟨rfl, hb1⟩
  | true =>
    rw [btA_yes hR]
    rw [hR] at hc
    have hok := LV.leavesB_iff.1 hR
    obtain ⟨n, hn⟩ : ∃ n, L.length = n := ⟨_, rfl⟩
    have HA : Hid (0 < n → a = some ⟨ga, oa, none⟩) := by rw [← hn]; exact fun h => (hA h).1
    have HO : Hid (tagOk 2 (bkp L) = true ∧ LV.LOk L) := ⟨bkp_ok hok, hok⟩
    have hl24 := hok.1
    rw [hn] at hl hl24 HV hc ⊢
    clear hA hsm hok hR
    by_cases h0 : n = 0
    · have eL : L = [] := List.length_eq_zero_iff.1 (by omega)
      subst eL
      subst h0
      rw [btB_nil]
      have HT : Hid (∀ w1, Below w.heap.size w w1 → Calls Tryz.prog 78 #[.int .i64 1, .slice none 0 0] w1 fun e w' => e = .returned (.tuple #[.string (tagB 1 []), .bool true]) ∧ Below w.heap.size w w') := fun w1 hb1 => by
        have h := tagged_any 1 (.slice none 0 0) 0 0 [] w1 ⟨none, 0, rfl, by simp, fun h => absurd h (by simp), fun j h => absurd h (by simp)⟩
        rw [none_ok] at h
        exact h.mono fun e w' ⟨he, hb⟩ => ⟨he, hb1.trans (hb.mono hb1.size)⟩
      generalize tagB 1 [] = T at *
      clear HV HA HO hn
      go_enter Tryz.func74, Tryz.ntmps74
      go_wp2_with fail
      refine hc.mono ?_
      rintro e w1 ⟨rfl, hb1⟩
      clear hc
      go_wp2_with fail
      refine (HT.out _ hb1).mono ?_
      rintro e w2 ⟨rfl, hb2⟩
      go_wp2
      go_ret2
      exact ⟨rfl, hb2⟩
    · rw [btB_some (by omega)]
      have q0 : ((n : Int) == 0) = false := by simpa using h0
      have ea := HA.out (by omega)
      subst ea
      have HO2 : Hid (∀ w1, Below w.heap.size w w1 → ∀ wr u, OS w1.heap.size w1 wr u (bkp L) → Calls Tryz.prog 78 #[.int .i64 2, u] wr fun e w' => e = .returned (.tuple #[.string (tagB 2 (bkp L)), .bool true]) ∧ Below w.heap.size w w') := fun w1 hb1 wr u hos => by
        obtain ⟨g, hss⟩ := hos.ss (by rw [bkp_len]; omega)
        have h := tagged_any 2 u g 0 (bkp L) wr hss
        rw [HO.out.1] at h
        have hb2 : Below w.heap.size w wr := hb1.trans (hos.2.1.mono hb1.size)
        exact h.mono fun e w' ⟨he, hb⟩ => ⟨he, hb2.trans (hb.mono hb2.size)⟩
      generalize tagB 2 (bkp L) = T at *
      clear HA h0 HO
      go_enter Tryz.func74, Tryz.ntmps74
      go_wp2_with fail
      refine hc.mono ?_
      rintro e w1 ⟨rfl, hb1⟩
      obtain ⟨w2, hmk, hos⟩ := OS.room (2 * n) (by omega) w1
      have hmk' : (Instr.makeSlice 29 (.int .i64 0) (.int .i64 (2 * (n : Int)))).run Tryz.prog w1 = .ok (.slice (some ⟨w1.heap.size, 0, none⟩) 0 (2 * n)) w2 := by simpa using hmk
      have HST : Hid (BtR w1.heap.size w1 L (.slice (some ⟨w1.heap.size, 0, none⟩) 0 (2 * n)) (.int .i64 0) w2) := ⟨0, by omega, rfl, hos⟩
      have HV1 : Hid (RS 2 lcs w1 (.slice (some ⟨ga, oa, none⟩) n cap) ga oa L ∧ Below w.heap.size w w1) := ⟨HV.out.later hb1, hb1⟩
      have HN : Hid (L.length = n) := hn
      clear hc HV hn hb1 hmk hos
      go_wp2
      clear hmk'
      go_loopw [4, 22] (fun u i wr => BtR w1.heap.size w1 L u i wr) (fun _ i _ => n - (intOf i).toNat)
      case atStart => exact HST.out
      case round =>
        obtain ⟨m, hm, rfl, HI⟩ := hrel
        clear HST
        rw [HN.out] at hm
        have hL : (bkp (L.take m)).length = 2 * m := by rw [bkp_len, List.length_take, HN.out]; omega
        obtain ⟨au, cu, hu⟩ := HI.out.slice
        rw [hL] at hu
        subst hu
        have HLL : Hid ((bkp (L.take m)).length + 2 ≤ 1000000) := by show (bkp (L.take m)).length + 2 ≤ 1000000; omega
        clear hL
        by_cases hlt : m < n
        · obtain ⟨c0, c1⟩ := (HV1.out.1.later HI.out.2.1).leaf m (by rw [HN.out]; exact hlt)
          have hst := bkp_step (L := L) (m := m) (by rw [HN.out]; exact hlt)
          generalize L[m]'(by rw [HN.out]; exact hlt) = X at *
          have i1 : (m : Int) < (n : Int) := by omega
          have i2 : (0 : Int) ≤ (m : Int) := by omega
          have HNX : Hid (∀ v W, OS w1.heap.size w1 W v (bkp (L.take m) ++ [X.n, X.v]) → BtR w1.heap.size w1 L v (.int .i64 ((m : Int) + 1)) W) := by
            rw [← hst]
            exact fun v W hW => ⟨m + 1, by rw [HN.out]; omega, by congr 1, hW⟩
          generalize bkp (L.take m) = l at *
          have HSS : Hid (SS ((wr.alloc (.cells #[.string X.n, .string X.v] 34)).alloc (.cells #[.string X.n, .string X.v] 9)) (.slice (some ⟨wr.heap.size + 1, 0, none⟩) 2 2) (wr.heap.size + 1) 0 [X.n, X.v]) := by
            have h := ss_lits (wr.alloc (.cells #[.string X.n, .string X.v] 34)) [X.n, X.v] #[.string X.n, .string X.v] 2 rfl (by omega) rfl
            rw [show (wr.alloc (.cells #[.string X.n, .string X.v] 34)).heap.size = wr.heap.size + 1 by simp] at h
            exact h
          have hoa := (HI.out.alloc (.cells #[.string X.n, .string X.v] 34)).alloc (.cells #[.string X.n, .string X.v] 9)
          clear hst HO2 HI
          go_wp2_with (at_builtin; refine wp_appLit rfl _ _ rfl w1.heap.size w1 _ _ l [X.n, X.v] rfl hoa rfl _ _ HSS.out (by simp) HLL.out ?_)
          intro v' w3 hos3 hg3
          have HN2 : Hid (BtR w1.heap.size w1 L v' (.int .i64 ((m : Int) + 1)) w3) := HNX.out _ _ hos3
          clear HNX hos3 hg3 HSS hoa
          go_wp2
          go_roundw
          case rel => exact HN2.out
          case measure => simp [intOf]; omega
        · have hme : m = n := by omega
          have e : bkp (L.take m) = bkp L := by rw [List.take_of_length_le (by rw [HN.out]; omega)]
          rw [e] at HI
          have hq := HO2.out _ HV1.out.2 _ _ HI.out
          subst hme
          clear HI HV1 HO2 e HN HLL
          go_wp2_with fail
          refine hq.mono ?_
          rintro e w2 ⟨rfl, hb2⟩
          go_wp2
          go_ret2
          exact ⟨rfl, hb2⟩

end Go.Proofs.YtmcejkfknbjjkaaGreatDoor
/-
  What BucketHash answers, the program's and the specification's.
-/
namespace Go.Proofs.YtmcejkfknbjjkaaGreatDoor
open Go.RowKit Go.BigFrame Go.Sort
set_option linter.unusedVariables false
set_option linter.unusedSimpArgs false

open TR (bkp bkp_len)
/-- what BucketHash is -/
noncomputable def bhB (x : Int) (L : List Le) : ByteArray := if LV.leavesB L then cutH (btB L) x else ⟨#[]⟩
theorem bhB_yes {x : Int} {L : List Le} (h : LV.leavesB L = true) : bhB x L = cutH (btB L) x := by unfold bhB; rw [h]; rfl
theorem bhB_no {x : Int} {L : List Le} (h : LV.leavesB L = false) : bhB x L = ⟨#[]⟩ := by unfold bhB; rw [h]; rfl
theorem btB_size (L : List Le) : (btB L).size ≤ 12601 := by
  unfold btB
  split <;> exact tagB_size _ _
theorem BucketHash_any (v : Value) (ga oa : Nat) (L : List Le) (x : Int) (w : World) (hv : RS 2 lcs w v ga oa L) (hsm : SmallL L) (hT : Tb w) :
    Calls Tryz.prog 162 #[v, .int .i64 x] w fun e w' => e = .returned (.string (bhB x L)) ∧ Below w.heap.size w w' := by
  have hc := BucketText_any v ga oa L w hv hsm
  obtain ⟨a, cap, rfl, _⟩ := hv
  cases hR : LV.leavesB L with
  | false =>
    rw [bhB_no hR]
    rw [hR, btA_no hR] at hc
    clear hsm hT
    go_enter Tryz.func162, Tryz.ntmps162
    go_wp2_with fail
    refine hc.mono ?_
    rintro e w1 ⟨rfl, hb1⟩
    go_wp2
    go_ret
    exact ⟨rfl, hb1⟩
  | true =>
    rw [bhB_yes hR]
    rw [hR, btA_yes hR] at hc
    have HC : Hid (∀ w1, Below w.heap.size w w1 → Calls Tryz.prog 76 #[.string (btB L), .int .i64 x] w1 fun e w' => e = .returned (.string (cutH (btB L) x)) ∧ Below w.heap.size w w') := fun w1 hb => by
      have hT1 := hT.later hb
      exact (CutDigest_any (btB L) x w1 (Nat.le_trans (btB_size L) (by omega)) hT1.1 hT1.2).mono fun e w' ⟨he, h⟩ => ⟨he, hb.trans (h.mono hb.size)⟩
    generalize cutH (btB L) x = T at *
    generalize btB L = S at *
    clear hsm hT
    go_enter Tryz.func162, Tryz.ntmps162
    go_wp2_with fail
    refine hc.mono ?_
    rintro e w1 ⟨rfl, hb1⟩
    clear hc
    go_wp2_with fail
    refine (HC.out _ hb1).mono ?_
    rintro e w2 ⟨rfl, hb2⟩
    go_wp2
    go_ret
    exact ⟨rfl, hb2⟩
theorem sBucketHash_any (v : Value) (ga oa : Nat) (L : List Le) (x : Int) (w : World) (hv : RS 2 lcs w v ga oa L) (hsm : SmallL L) :
    Calls Tryz.prog 144 #[v, .int .i64 x] w fun e w' => e = .returned (.string (bhB x L)) ∧ Below w.heap.size w w' := by
  have hc := sBucketText_any v ga oa L w hv hsm
  obtain ⟨a, cap, rfl, _⟩ := hv
  cases hR : LV.leavesB L with
  | false =>
    rw [bhB_no hR]
    rw [hR, btA_no hR] at hc
    clear hsm
    go_enter Tryz.func144, Tryz.ntmps144
    go_wp2_with fail
    refine hc.mono ?_
    rintro e w1 ⟨rfl, hb1⟩
    go_wp2
    go_ret
    exact ⟨rfl, hb1⟩
  | true =>
    rw [bhB_yes hR]
    rw [hR, btA_yes hR] at hc
    have HC : Hid (∀ w1, Below w.heap.size w w1 → Calls Tryz.prog 73 #[.string (btB L), .int .i64 x] w1 fun e w' => e = .returned (.string (cutH (btB L) x)) ∧ Below w.heap.size w w') := fun w1 hb =>
      (sCutDigest_any (btB L) x w1 (Nat.le_trans (btB_size L) (by omega))).mono fun e w' ⟨he, h⟩ => ⟨he, hb.trans (h.mono hb.size)⟩
    generalize cutH (btB L) x = T at *
    generalize btB L = S at *
    clear hsm
    go_enter Tryz.func144, Tryz.ntmps144
    go_wp2_with fail
    refine hc.mono ?_
    rintro e w1 ⟨rfl, hb1⟩
    clear hc
    go_wp2_with fail
    refine (HC.out _ hb1).mono ?_
    rintro e w2 ⟨rfl, hb2⟩
    go_wp2
    go_ret
    exact ⟨rfl, hb2⟩

end Go.Proofs.YtmcejkfknbjjkaaGreatDoor
/-
  What FoldUp answers, the program's and the specification's.
-/
namespace Go.Proofs.YtmcejkfknbjjkaaGreatDoor
open Go.RowKit Go.BigFrame
set_option linter.unusedVariables false
set_option linter.unusedSimpArgs false

namespace TR
variable {β : Type} {hN : β → β → β} {b : Nat → Bool}
theorem fold_snoc : ∀ (l : List β) (i : Nat) (h s : β), fold hN b i h (l ++ [s]) = if b (i + l.length) then hN s (fold hN b i h l) else hN (fold hN b i h l) s
  | [], i, h, s => rfl
  | a :: t, i, h, s => by
    have := fold_snoc t (i + 1) (if b i then hN a h else hN h a) s
    rw [show i + 1 + t.length = i + (a :: t).length by simp; omega] at this
    exact this
theorem fold_step {l : List β} {m : Nat} (hm : m < l.length) (h : β) : fold hN b 0 h (l.take (m + 1)) = if b m then hN l[m] (fold hN b 0 h (l.take m)) else hN (fold hN b 0 h (l.take m)) l[m] := by
  rw [List.take_succ_eq_append_getElem hm, fold_snoc]
  have : (l.take m).length = m := by simp; omega
  rw [this, Nat.zero_add]
end TR

theorem BitOf_at (x z : Int) (w : World) (h : 0 ≤ z ∧ z ≤ 7) : Calls Tryz.prog 77 #[.int .i64 x, .int .i64 z] w fun e w' => e = .returned (.int .i64 (bitI x z.toNat)) ∧ w' = w := by
  obtain ⟨k, rfl⟩ := Int.eq_ofNat_of_zero_le h.1
  exact BitOf_yes x k w (by omega)
theorem sBitOf_z (x z : Int) (w : World) (h : 0 ≤ z ∧ z ≤ 7) : Calls Tryz.prog 80 #[.int .i64 x, .int .i64 z] w fun e w' => e = .returned (.int .i64 (bitI x z.toNat)) ∧ w' = w := by
  obtain ⟨k, rfl⟩ := Int.eq_ofNat_of_zero_le h.1
  exact sBitOf_yes x k w (by omega)

/-- is the hash second at this step? -/
def fbB (ix : Int) (l i : Nat) : Bool := !decide (bitI ix (l - 1 - i) = 0)
def fuF (x ix : Int) (l : Nat) (h : ByteArray) (s : List ByteArray) : ByteArray := TR.fold (hnB x) (fbB ix l) 0 h s
/-- what FoldUp is -/
def fuB (h : ByteArray) (ix l : Int) (s : List ByteArray) (x : Int) : ByteArray := if (0 ≤ l ∧ l ≤ 8) ∧ (s.length : Int) ≤ l then fuF x ix l.toNat h s else ⟨#[]⟩

theorem fuF_step (x ix : Int) (l : Nat) (h : ByteArray) {s : List ByteArray} {m : Nat} (hm : m < s.length) : fuF x ix l h (s.take (m + 1)) = if bitI ix (l - 1 - m) = 0 then hashB 3 [fuF x ix l h (s.take m), s[m]] x else hashB 3 [s[m], fuF x ix l h (s.take m)] x := by
  unfold fuF
  rw [TR.fold_step hm]
  unfold fbB
  by_cases hb : bitI ix (l - 1 - m) = 0
  · rw [if_pos hb]; simp [hb]; rfl
  · rw [if_neg hb]; simp [hb]; rfl
theorem fuF_none (x ix : Int) (l : Nat) (h : ByteArray) : fuF x ix l h [] = h := rfl

def FuR (x ix : Int) (l : Nat) (h : ByteArray) (s : List ByteArray) (w : World) (u i : Value) (wr : World) : Prop := ∃ m : Nat, m ≤ s.length ∧ i = .int .i64 m ∧ u = .string (fuF x ix l h (s.take m)) ∧ Below w.heap.size w wr

theorem inOrder_0 (h s : ByteArray) (w : World) : Calls Tryz.prog 75 #[.string h, .string s, .int .i64 0] w fun e w' => e = .returned (.tuple #[.string h, .string s]) ∧ w' = w := by
  go_enter Tryz.func75, Tryz.ntmps75
  go_wp2
  go_ret2
  exact ⟨rfl, rfl⟩
theorem inOrder_1 (h s : ByteArray) (b : Int) (w : World) (hb : b ≠ 0) : Calls Tryz.prog 75 #[.string h, .string s, .int .i64 b] w fun e w' => e = .returned (.tuple #[.string s, .string h]) ∧ w' = w := by
  have qb : (b == 0) = false := by simpa using hb
  clear hb
  go_enter Tryz.func75, Tryz.ntmps75
  go_wp2
  go_ret2
  exact ⟨rfl, rfl⟩

end Go.Proofs.YtmcejkfknbjjkaaGreatDoor
/-
  Leaves with their indexes, as the specification keeps them.
-/
namespace Go.Proofs.YtmcejkfknbjjkaaGreatDoor
open Go.RowKit Go.BigFrame Go.Sort
set_option linter.unusedVariables false
set_option linter.unusedSimpArgs false

def scs (f : Le) : List Value := [.string f.n, .string f.v, .int .i64 (idxN f.n : Int)]
theorem scs_len (f : Le) : (scs f).length = 3 := rfl
theorem RS.spot {w : World} {v : Value} {g o : Nat} {l : List Le} (h : RS 3 scs w v g o l) (j : Nat) (hj : j < l.length) :
    w.cell? ⟨g, o + j * 3, none⟩ = some (.string l[j].n) ∧ w.cell? ⟨g, o + j * 3 + 1, none⟩ = some (.string l[j].v) ∧ w.cell? ⟨g, o + j * 3 + 2, none⟩ = some (.int .i64 (idxN l[j].n : Int)) := by
  obtain ⟨a, c, _, _, _, hc⟩ := h
  exact ⟨hc j hj 0 _ rfl, hc j hj 1 _ rfl, hc j hj 2 _ rfl⟩
theorem Tryz.infoSpot : (Tryz.prog.info? 166).map (fun i => (i.zero, i.size, i.bytes)) = some (some (.agg #[.string ByteArray.empty, .string ByteArray.empty, .int .i64 0]), 3, 40) := by kernel_rfl

/-- v owns the spots of the leaves l -/
def OP (B : Nat) (w0 w : World) (v : Value) (l : List Le) : Prop := OR 166 3 scs B w0 w v l
theorem OP.later {B : Nat} {w0 w w' : World} {v : Value} {l : List Le} (h : OP B w0 w v l) (hb : Below w.heap.size w w') : OP B w0 w' v l := OR.later h hb
theorem OP.alloc {B : Nat} {w0 w : World} {v : Value} {l : List Le} (h : OP B w0 w v l) (o : Obj) : OP B w0 (w.alloc o) v l := OR.alloc h o
theorem OP.drew {B : Nat} {w0 w : World} {v : Value} {l : List Le} (h : OP B w0 w v l) : OP B w0 w.drew v l := OR.drew h
theorem OP.rw {B : Nat} {w0 w : World} {v : Value} {l : List Le} (h : OP B w0 w v l) (hl : l.length ≤ 1100000) : ∃ g, RW 3 scs w v g l ∧ B ≤ g ∧ (∀ q, v.ownBlock = some q → q = g) := OR.rw (k := 3) (enc := scs) (fun x => scs_len x) (by omega) h hl
theorem OP.shape {B : Nat} {w0 w : World} {v : Value} {l : List Le} (h : OP B w0 w v l) : ∃ a c, v = .slice a l.length c := by
  rcases h.1.2 with ⟨hv, hn⟩ | ⟨g, cap, cur, hv, _⟩
  · exact ⟨none, 0, by rw [hv, hn]⟩
  · exact ⟨_, _, hv⟩
theorem OP.made (w : World) : OP w.heap.size w (w.alloc (.cells #[] 166)) (.slice (some ⟨w.heap.size, 0, none⟩) 0 0) [] :=
  ⟨World.ownsRow_made w #[] 0 (Nat.le_refl _) (by decide) (by simp), (Below.refl _ _).alloc (Nat.le_refl _) _, by simp⟩

section
variable {w : World} {ops : Array Oper} {o : Oper} {a : Act} {K : Act → World → Prop} {Q : Exit → Act → World → Prop}
theorem scs_one {f : Le} : ∀ u ∈ scs f, u.oneCell' = true := fun u hu => by simp [scs] at hu; rcases hu with rfl | rfl | rfl <;> rfl
/-- a spot appended, as one step of a region that draws its order -/
theorem step_spot {E : Prop} (hgd : o.guard = none) (s x : Operand)
    (ho : o.op = .call { callee := .builtin .append, args := #[s, x], argTypes := #[124, 124] })
    (B : Nat) (w0 : World) (u : Value) (l : List Le) (f : Le) (hs : a.eval s = u) (h : OP B w0 w u l) (p : Nat) (hx : a.eval x = .slice (some ⟨p, 0, none⟩) 1 1)
    (hnews : w.rangeAt p 0 (scs f)) (hlen : l.length + 1 ≤ 1000000)
    (hk : ∀ g cap w', OP B w0 w' (.slice (some ⟨g, 0, none⟩) (l.length + 1) cap) (l ++ [f]) → w.grownBy w' u.ownBlock → K (a.put o.dst (.slice (some ⟨g, 0, none⟩) (l.length + 1) cap)) w') : if Region.wanted o (yielded ops a.tmps) = true then Oper.wp Tryz.prog o a w K Q else E := by
  obtain ⟨i0, hi, hz0, hz1, hz2⟩ := info_parts Tryz.infoSpot
  refine step_append_lies w hgd s x 124 ho B 166 i0 _ 3 40 Tryz.underlying124 hi hz0 hz1 hz2 rfl (by decide) u l.length (l.flatMap scs) hs h.1 ⟨p, 0, none⟩ 1 1 (scs f) hx rfl ?_
    scs_one (by omega) (by unfold maxLen; omega) (by omega) h.2.2 w.heap.size rfl ?_
  · intro j u hj
    have := hnews j u hj
    rw [Addr.add_mid]
    exact this
  · intro g cap w' h1 h2 h3 _
    exact hk _ _ _ ⟨by rw [List.flatMap_append, List.flatMap_singleton, List.length_append]; exact h1, h.2.1.grown h2 h.2.2 (fun k hk => (h.1.lt k hk).1), Nat.le_trans h.2.2 h2.size⟩ h2
/-- .. and in a plain region -/
theorem wp_spot {rest : List Oper} (hgd : o.guard = none) (s x : Operand)
    (ho : o.op = .call { callee := .builtin .append, args := #[s, x], argTypes := #[124, 124] })
    (B : Nat) (w0 : World) (u : Value) (l : List Le) (f : Le) (hs : a.eval s = u) (h : OP B w0 w u l) (p : Nat) (hx : a.eval x = .slice (some ⟨p, 0, none⟩) 1 1)
    (hnews : w.rangeAt p 0 (scs f)) (hlen : l.length + 1 ≤ 1000000)
    (hk : ∀ g cap w', OP B w0 w' (.slice (some ⟨g, 0, none⟩) (l.length + 1) cap) (l ++ [f]) → w.grownBy w' u.ownBlock → wpList Tryz.prog ops Q rest (a.put o.dst (.slice (some ⟨g, 0, none⟩) (l.length + 1) cap)) w') : wpList Tryz.prog ops Q (o :: rest) a w := by
  obtain ⟨i0, hi, hz0, hz1, hz2⟩ := info_parts Tryz.infoSpot
  refine wpList_append_lies w hgd s x 124 ho B 166 i0 _ 3 40 Tryz.underlying124 hi hz0 hz1 hz2 rfl (by decide) u l.length (l.flatMap scs) hs h.1 ⟨p, 0, none⟩ 1 1 (scs f) hx rfl ?_
    scs_one (by omega) (by unfold maxLen; omega) (by omega) h.2.2 w.heap.size rfl ?_
  · intro j u hj
    have := hnews j u hj
    rw [Addr.add_mid]
    exact this
  · intro g cap w' h1 h2 h3 _
    exact hk _ _ _ ⟨by rw [List.flatMap_append, List.flatMap_singleton, List.length_append]; exact h1, h.2.1.grown h2 h.2.2 (fun k hk => (h.1.lt k hk).1), Nat.le_trans h.2.2 h2.size⟩ h2
end

def SpR (w : World) (L : List Le) (u i : Value) (wr : World) : Prop := ∃ m : Nat, m ≤ L.length ∧ i = .int .i64 m ∧ Hid (OP w.heap.size w wr u (L.take m))

set_option maxRecDepth 100000 in
set_option maxHeartbeats 1000000 in
theorem l10Spots_any (v : Value) (ga oa : Nat) (L : List Le) (w : World) (hv : RS 2 lcs w v ga oa L) (hsm : SmallL L) (hl24 : L.length ≤ 24) :
    Calls Tryz.prog 99 #[v] w fun e w' => ∃ u, e = .returned u ∧ OP w.heap.size w w' u L := by
  have HV : Hid (RS 2 lcs w v ga oa L ∧ SmallL L) := ⟨hv, hsm⟩
  obtain ⟨a, cap, rfl, hl, hA, _⟩ := hv
  obtain ⟨n, hn⟩ : ∃ n, L.length = n := ⟨_, rfl⟩
  have HA : Hid (0 < n → a = some ⟨ga, oa, none⟩) := by rw [← hn]; exact fun h => (hA h).1
  have HN : Hid (L.length = n) := hn
  rw [hn] at hl hl24 HV ⊢
  clear hA hsm hn
  have HST : Hid (SpR w L (.slice (some ⟨w.heap.size, 0, none⟩) 0 0) (.int .i64 0) (w.alloc (.cells #[] 166))) := ⟨0, by omega, rfl, OP.made w⟩
  go_enter Tryz.func99, Tryz.ntmps99
  go_wp2
  go_loopw [3, 4] (fun u i wr => SpR w L u i wr) (fun _ i _ => n - (intOf i).toNat)
  case atStart => exact HST.out
  case round =>
    obtain ⟨m, hm, rfl, HI⟩ := hrel
    clear HST
    rw [HN.out] at hm
    have hL : (L.take m).length = m := by rw [List.length_take, HN.out]; omega
    obtain ⟨au, cu, hu⟩ := HI.out.shape
    rw [hL] at hu
    subst hu
    by_cases hlt : m < n
    · have ea := HA.out (by omega)
      subst ea
      obtain ⟨c0, c1⟩ := (HV.out.1.later HI.out.2.1).leaf m (by rw [HN.out]; exact hlt)
      have hxs := HV.out.2 (L[m]'(by rw [HN.out]; exact hlt)) (List.getElem_mem _)
      have hst : L.take (m + 1) = L.take m ++ [L[m]'(by rw [HN.out]; exact hlt)] := List.take_succ_eq_append_getElem _
      generalize L[m]'(by rw [HN.out]; exact hlt) = X at *
      have i1 : (m : Int) < (n : Int) := by omega
      have i2 : (0 : Int) ≤ (m : Int) := by omega
      have HIX : Hid (∀ W, Calls Tryz.prog 72 #[.string X.n] W fun e w' => e = .returned (.int .i64 (idxN X.n : Int)) ∧ Below W.heap.size W w') := fun W => sIndexOf_any X.n W hxs.1
      have HNX : Hid (∀ g cap W, OP w.heap.size w W (.slice (some ⟨g, 0, none⟩) ((L.take m).length + 1) cap) (L.take m ++ [X]) → SpR w L (.slice (some ⟨g, 0, none⟩) ((L.take m).length + 1) cap) (.int .i64 ((m : Int) + 1)) W) := by
        rw [← hst]
        exact fun g cap W hW => ⟨m + 1, by rw [HN.out]; omega, by congr 1, hW⟩
      have HSC : Hid (scs X = [.string X.n, .string X.v, .int .i64 (idxN X.n : Int)]) := rfl
      have hga : ga < wr.heap.size := lt_of_cell c0
      have hgw : ga < w.heap.size := by
        obtain ⟨_, _, _, _, h3, _⟩ := HV.out.1
        exact (h3 (by rw [HN.out]; omega)).2
      have HB : Hid (Below w.heap.size w wr) := HI.out.2.1
      have HCC : Hid (∀ W, Below w.heap.size wr W → W.cell? ⟨ga, oa + m * 2, none⟩ = some (.string X.n) ∧ W.cell? ⟨ga, oa + m * 2 + 1, none⟩ = some (.string X.v)) := fun W hW => ⟨(hW.cell (p := ⟨ga, oa + m * 2, none⟩) hgw).trans c0, (hW.cell (p := ⟨ga, oa + m * 2 + 1, none⟩) hgw).trans c1⟩
      have HCD : Hid (∀ W v l, OP w.heap.size w W v l → W.cell? ⟨ga, oa + m * 2, none⟩ = some (.string X.n) ∧ W.cell? ⟨ga, oa + m * 2 + 1, none⟩ = some (.string X.v)) := fun W v l hW => by
        have h1 := hW.2.1.block ga hgw
        have h2 := HB.out.block ga hgw
        exact ⟨(cell_kept (h1.trans h2.symm)).trans c0, (cell_kept (h1.trans h2.symm)).trans c1⟩
      generalize idxN X.n = N at *
      have HLM : Hid ((L.take m).length + 1 ≤ 1000000) := by show (L.take m).length + 1 ≤ 1000000; omega
      have hws : w.heap.size ≤ wr.heap.size := HI.out.2.2
      clear hst HV HA
      clear hL
      generalize L.take m = l at *
      go_wp2
      go_region_held3 (fun W => W.cell? ⟨ga, oa + m * 2, none⟩ = some (.string X.n) ∧ W.cell? ⟨ga, oa + m * 2 + 1, none⟩ = some (.string X.v)) (first | go_keep | exact ⟨(hb1.cell (p := ⟨ga, oa + m * 2, none⟩) hga).trans c0, (hb1.cell (p := ⟨ga, oa + m * 2 + 1, none⟩) hga).trans c1⟩ | exact HCD.out _ _ _ ho5) ((first | (go_at_call 72; refine (HIX.out _).mono ?_; rintro e w1 ⟨rfl, hb1⟩) | (refine step_spot rfl _ _ rfl w.heap.size w _ l X (by rfl) (((HI.out.drew.later hb1).alloc _)) w1.heap.size (by rfl) (by rw [HSC.out]; exact range_new _ [.string X.n, .string X.v, .int .i64 (N : Int)] _) HLM.out ?_; intro g5 cap5 w5 ho5 hg5)))
      have HN2 : Hid (SpR w L (.slice (some ⟨g5, 0, none⟩) (l.length + 1) cap5) (.int .i64 ((m : Int) + 1)) w5) := HNX.out _ _ _ ho5
      clear HNX ho5 hg5 HI HCC HCD HIX HB
      go_wp2
      go_roundw
      case rel => exact HN2.out
      case measure => simp [intOf]; omega
    · have hme : m = n := by omega
      have e : L.take m = L := List.take_of_length_le (by rw [HN.out]; omega)
      rw [e] at HI
      have HF : Hid (∃ u, Ending.returned (.slice au m cu) = .returned u ∧ OP w.heap.size w wr u L) := ⟨_, rfl, HI.out⟩
      subst hme
      clear HI HV HA hL e
      go_wp2
      go_ret
      exact HF.out

/-- a leaf's index -/
def idxL (f : Le) : Nat := idxN f.n
/-- what lies under a place, m of them seen -/
theorem und_step {L : List Le} {m : Nat} (k p : Nat) (hm : m < L.length) : TR.und idxL k p (L.take (m + 1)) = if idxL L[m] / 2 ^ k = p then TR.und idxL k p (L.take m) ++ [L[m]] else TR.und idxL k p (L.take m) := by
  unfold TR.und
  rw [LV.filt_step _ hm]
  by_cases h : idxL L[m] / 2 ^ k = p
  · rw [if_pos h, if_pos (by simpa using h)]
  · rw [if_neg h, if_neg (by simpa using h)]
theorem und_len (k p : Nat) (L : List Le) : (TR.und idxL k p L).length ≤ L.length := List.length_filter_le _ _
theorem und_small {k p : Nat} {L : List Le} (h : SmallL L) : SmallL (TR.und idxL k p L) := fun f hf => h f (List.mem_filter.1 hf).1
/-- a place's hash, as the specification goes down -/
noncomputable def ndB (x : Int) (k p : Nat) (L : List Le) : ByteArray := TR.nod idxL (hnB x) (hashB 1 [] x) (bhB x) k p L

def NpR (w : World) (L : List Le) (k p : Nat) (u i : Value) (wr : World) : Prop := ∃ m : Nat, m ≤ L.length ∧ i = .int .i64 m ∧ Hid (OP w.heap.size w wr u (TR.und idxL k p (L.take m)))

end Go.Proofs.YtmcejkfknbjjkaaGreatDoor
/-
  A place's hash, as the specification goes down.
-/
namespace Go.Proofs.YtmcejkfknbjjkaaGreatDoor
open Go.RowKit Go.BigFrame Go.Sort
set_option linter.unusedVariables false
set_option linter.unusedSimpArgs false

theorem ndB_none {x : Int} {k p : Nat} {L : List Le} (h : TR.und idxL k p L = []) : ndB x k p L = empB x k := by
  unfold ndB
  cases k with
  | zero => unfold TR.nod; rw [h]; rfl
  | succ k => unfold TR.nod; rw [h]; rfl
theorem ndB_bucket {x : Int} {p : Nat} {L : List Le} (h : 0 < (TR.und idxL 0 p L).length) : ndB x 0 p L = bhB x (TR.und idxL 0 p L) := by
  unfold ndB TR.nod
  cases hu : TR.und idxL 0 p L with
  | nil => rw [hu] at h; simp at h
  | cons a t => rfl
theorem ndB_fork {x : Int} {k p : Nat} {L : List Le} (h : 0 < (TR.und idxL (k + 1) p L).length) : ndB x (k + 1) p L = hashB 3 [ndB x k (2 * p) (TR.und idxL (k + 1) p L), ndB x k (2 * p + 1) (TR.und idxL (k + 1) p L)] x := by
  unfold ndB
  rw [TR.nod]
  cases hu : TR.und idxL (k + 1) p L with
  | nil => rw [hu] at h; simp at h
  | cons a t => rfl
theorem idx_div (N k p : Nat) (l : Int) (hl : l + (k : Int) = 8) : ((N : Int) / 2 ^ (8 - l).toNat == (p : Int)) = decide (N / 2 ^ k = p) := by
  have e : (8 - l).toNat = k := by omega
  rw [e]
  have e2 : (N : Int) / 2 ^ k = ((N / 2 ^ k : Nat) : Int) := by simp
  rw [e2, Bool.eq_iff_iff, beq_iff_eq, decide_eq_true_iff]
  generalize N / 2 ^ k = q
  omega

/-- what l10Node answers at this height -/
def NdC (x : Int) (k : Nat) : Prop := ∀ (l : Int) (p : Nat) (v : Value) (ga oa : Nat) (L : List Le) (ve : Value) (ge : Nat) (w : World), l + (k : Int) = 8 → p < 100000 * 2 ^ (8 - k) → RS 3 scs w v ga oa L → SmallL L → L.length ≤ 24 → SS w ve ge 0 (emL x 0) →
    Calls Tryz.prog 98 #[v, .int .i64 l, .int .i64 (p : Int), .int .i64 x, ve] w fun e w' => e = .returned (.string (ndB x k p L)) ∧ Below w.heap.size w w'

def NdBR (w : World) (U : List Le) (u i : Value) (wr : World) : Prop := ∃ m : Nat, m ≤ U.length ∧ i = .int .i64 m ∧ Hid (OL w.heap.size w wr u (U.take m))

set_option maxRecDepth 100000 in
set_option maxHeartbeats 2000000 in
theorem l10Node_step (x : Int) (k : Nat) (hk8 : k ≤ 8) (IH : ∀ k', k = k' + 1 → NdC x k') : NdC x k := by
  intro l p v ga oa L ve ge w hlk hp hv hsm hl24 hve
  have HP : Hid (p < 100000 * 2 ^ (8 - k)) := hp
  have hpp : p ≤ 25600000 := by
    have : 2 ^ (8 - k) ≤ 2 ^ 8 := Nat.pow_le_pow_right (by omega) (by omega)
    omega
  have HV : Hid (RS 3 scs w v ga oa L ∧ SmallL L) := ⟨hv, hsm⟩
  have HE : Hid (SS w ve ge 0 (emL x 0)) := hve
  have HIH : Hid (∀ k', k = k' + 1 → NdC x k') := IH
  obtain ⟨a, cap, rfl, hl, hA, _⟩ := hv
  obtain ⟨ae, ce, rfl, _, hAe, hce⟩ := hve
  rw [emL_len] at hAe HE ⊢
  have eae := hAe (by omega)
  subst eae
  obtain ⟨n, hn⟩ : ∃ n, L.length = n := ⟨_, rfl⟩
  have HA : Hid (0 < n → a = some ⟨ga, oa, none⟩) := by rw [← hn]; exact fun h => (hA h).1
  have HN : Hid (L.length = n) := hn
  rw [hn] at hl hl24 HV ⊢
  have l0 : 0 ≤ l := by omega
  have l8 : l ≤ 8 := by omega
  have HL : Hid (l + (k : Int) = 8) := hlk
  clear hA hsm hn hAe hce IH hp
  have HST : Hid (NpR w L k p (.slice (some ⟨w.heap.size, 0, none⟩) 0 0) (.int .i64 0) (w.alloc (.cells #[] 166))) := ⟨0, by omega, rfl, OP.made w⟩
  obtain ⟨R, hR⟩ : ∃ R, ndB x k p L = R := ⟨_, rfl⟩
  have HR : Hid (ndB x k p L = R) := hR
  rw [hR]
  clear hR
  go_enter Tryz.func98, Tryz.ntmps98
  go_wp2
  go_loopw [11, 12] (fun u i wr => NpR w L k p u i wr) (fun _ i _ => n - (intOf i).toNat)
  case atStart => exact HST.out
  case round =>
    obtain ⟨m, hm, rfl, HI⟩ := hrel
    clear HST
    rw [HN.out] at hm
    obtain ⟨au, cu, hu⟩ := HI.out.shape
    subst hu
    have hul := und_len k p (L.take m)
    have hul2 : (L.take m).length ≤ 24 := by rw [List.length_take, HN.out]; omega
    by_cases hlt : m < n
    · have ea := HA.out (by omega)
      subst ea
      obtain ⟨c0, c1, c2⟩ := (HV.out.1.later HI.out.2.1).spot m (by rw [HN.out]; exact hlt)
      have hst := und_step (L := L) (m := m) k p (by rw [HN.out]; exact hlt)
      have HSC : Hid (scs (L[m]'(by rw [HN.out]; exact hlt)) = [.string (L[m]'(by rw [HN.out]; exact hlt)).n, .string (L[m]'(by rw [HN.out]; exact hlt)).v, .int .i64 (idxN (L[m]'(by rw [HN.out]; exact hlt)).n : Int)] ∧ idxL (L[m]'(by rw [HN.out]; exact hlt)) = idxN (L[m]'(by rw [HN.out]; exact hlt)).n) := ⟨rfl, rfl⟩
      generalize L[m]'(by rw [HN.out]; exact hlt) = X at *
      have i1 : (m : Int) < (n : Int) := by omega
      have i2 : (0 : Int) ≤ (m : Int) := by omega
      have hdv := idx_div (idxN X.n) k p l HL.out
      rw [HSC.out.2] at hst
      generalize idxN X.n = N at *
      have HLM : Hid ((TR.und idxL k p (L.take m)).length + 1 ≤ 1000000) := by show (TR.und idxL k p (L.take m)).length + 1 ≤ 1000000; omega
      clear HV HA hul hul2 HE HIH hlk
      by_cases hq : N / 2 ^ k = p
      · rw [if_pos hq] at hst
        rw [decide_eq_true hq] at hdv
        have HNX : Hid (∀ g cap W, OP w.heap.size w W (.slice (some ⟨g, 0, none⟩) ((TR.und idxL k p (L.take m)).length + 1) cap) (TR.und idxL k p (L.take m) ++ [X]) → NpR w L k p (.slice (some ⟨g, 0, none⟩) ((TR.und idxL k p (L.take m)).length + 1) cap) (.int .i64 ((m : Int) + 1)) W) := by
          rw [← hst]
          exact fun g cap W hW => ⟨m + 1, by rw [HN.out]; omega, by congr 1, hW⟩
        clear hst hq
        generalize TR.und idxL k p (L.take m) = U at *
        have hoa := HI.out.alloc (.cells #[.string X.n, .string X.v, .int .i64 (N : Int)] 166)
        have HRN : Hid ((wr.alloc (.cells #[.string X.n, .string X.v, .int .i64 (N : Int)] 166)).rangeAt wr.heap.size 0 (scs X)) := by
          show (wr.alloc (.cells #[.string X.n, .string X.v, .int .i64 (N : Int)] 166)).rangeAt wr.heap.size 0 (scs X)
          rw [HSC.out.1]
          exact range_new wr [.string X.n, .string X.v, .int .i64 (N : Int)] 166
        clear HI
        go_wp2_with (at_builtin; refine wp_spot rfl _ _ rfl w.heap.size w _ U X rfl hoa _ rfl HRN.out HLM.out ?_)
        intro g5 cap5 w5 ho5 hg5
        have HN2 : Hid (NpR w L k p (.slice (some ⟨g5, 0, none⟩) (U.length + 1) cap5) (.int .i64 ((m : Int) + 1)) w5) := HNX.out _ _ _ ho5
        clear HNX ho5 hg5 hoa HRN c0 c1 c2 HSC hdv
        go_wp2
        go_roundw
        case rel => exact HN2.out
        case measure => simp [intOf]; omega
      · rw [if_neg hq] at hst
        rw [decide_eq_false hq] at hdv
        have HN2 : Hid (NpR w L k p (.slice au (TR.und idxL k p (L.take m)).length cu) (.int .i64 ((m : Int) + 1)) wr) := by
          refine ⟨m + 1, by rw [HN.out]; omega, by congr 1, ?_⟩
          rw [hst]
          exact HI
        clear hst hq HI HSC HLM
        generalize (TR.und idxL k p (L.take m)).length = ul at *
        go_wp2
        go_roundw
        case rel => exact HN2.out
        case measure => simp [intOf]; omega
    · have hme : m = n := by omega
      have e : L.take m = L := List.take_of_length_le (by rw [HN.out]; omega)
      rw [e] at HI hul hul2 ⊢
      clear e
      have hbw := HI.out.2.1
      have HU : Hid (SmallL (TR.und idxL k p L)) := und_small HV.out.2
      have HEW : Hid (SS wr (.slice (some ⟨ge, 0, none⟩) 9 ce) ge 0 (emL x 0)) := HE.out.below hbw HE.out.lt
      have hul3 : (TR.und idxL k p L).length ≤ 24 := by omega
      subst hme
      clear HA HV HE hul hul2 HN
      by_cases hU : (TR.und idxL k p L).length = 0
      · have e0 : TR.und idxL k p L = [] := List.length_eq_zero_iff.1 hU
        have c0 : wr.cell? ⟨ge, 0 + l.toNat, none⟩ = some (.string R) := by
          obtain ⟨_, _, _, _, _, hcc⟩ := HEW.out
          have := hcc l.toNat (by rw [emL_len]; omega)
          rw [emL_at, if_pos (Nat.zero_le _), show 8 - l.toNat = k by omega, ← ndB_none e0, HR.out] at this
          exact this
        rw [Nat.zero_add] at c0
        rw [e0]
        have i9 : l < 9 := by omega
        clear HI HU HEW HIH HR e0 hU hul3
        go_wp2
        go_ret
        exact ⟨rfl, hbw⟩
      · have qU : (((TR.und idxL k p L).length : Int) == 0) = false := by simpa using hU
        by_cases hk0 : k = 0
        · subst hk0
          have el : l = 8 := by omega
          subst el
          have HRB : Hid (bhB x (TR.und idxL 0 p L) = R) := by
            show bhB x (TR.und idxL 0 p L) = R
            rw [← HR.out, ndB_bucket (by omega)]
          obtain ⟨gu, hrw, hgu, _⟩ := HI.out.rw (by omega)
          have HRW : Hid (RS 3 scs wr (.slice au (TR.und idxL 0 p L).length cu) gu 0 (TR.und idxL 0 p L)) := hrw.1
          have HST2 : Hid (NdBR wr (TR.und idxL 0 p L) (.slice (some ⟨wr.heap.size, 0, none⟩) 0 0) (.int .i64 0) (wr.alloc (.cells #[] 34))) := ⟨0, by omega, rfl, OL.made _ wr wr (Below.refl _ _) (Nat.le_refl _)⟩
          clear HI HR HIH hrw HEW HL hlk HP
          generalize TR.und idxL 0 p L = U at *
          obtain ⟨nu, hnu⟩ : ∃ nu, U.length = nu := ⟨_, rfl⟩
          have HNU : Hid (U.length = nu) := hnu
          rw [hnu] at hul3 HRW hU qU ⊢
          have eau : au = some ⟨gu, 0, none⟩ := by
            obtain ⟨a', c', hv', _, hA', _⟩ := HRW.out
            have := (hA' (by omega)).1
            simp at hv'
            rw [hv'.1, this]
          subst eau
          clear hnu
          rename World => W0
          go_wp2
          go_loopw [13, 14] (fun u i wz => NdBR W0 U u i wz) (fun _ i _ => nu - (intOf i).toNat)
          case atStart => exact HST2.out
          case round =>
            obtain ⟨j, hj, rfl, HJ⟩ := hrel
            clear HST2
            rw [HNU.out] at hj
            obtain ⟨ab, cb, hb⟩ := HJ.out.shape
            have hL : (U.take j).length = j := by rw [List.length_take, HNU.out]; omega
            rw [hL] at hb
            subst hb
            by_cases hjl : j < nu
            · obtain ⟨c0, c1, c2⟩ := (HRW.out.later HJ.out.2.1).spot j (by rw [HNU.out]; exact hjl)
              rw [Nat.zero_add] at c0 c1 c2
              have hst : U.take (j + 1) = U.take j ++ [U[j]'(by rw [HNU.out]; exact hjl)] := List.take_succ_eq_append_getElem _
              generalize U[j]'(by rw [HNU.out]; exact hjl) = X at *
              generalize (idxN X.n : Int) = N at *
              have i1 : (j : Int) < (nu : Int) := by omega
              have i2 : (0 : Int) ≤ (j : Int) := by omega
              have HNX : Hid (∀ g cap W, OL W0.heap.size W0 W (.slice (some ⟨g, 0, none⟩) ((U.take j).length + 1) cap) (U.take j ++ [X]) → NdBR W0 U (.slice (some ⟨g, 0, none⟩) ((U.take j).length + 1) cap) (.int .i64 ((j : Int) + 1)) W) := by
                rw [← hst]
                exact fun g cap W hW => ⟨j + 1, by rw [HNU.out]; omega, by congr 1, hW⟩
              have HLJ : Hid ((U.take j).length + 1 ≤ 1000000) := by show (U.take j).length + 1 ≤ 1000000; omega
              clear hst hL
              generalize U.take j = l2 at *
              have hoa := HJ.out.later ((Below.refl wr.heap.size wr).alloc (Nat.le_refl _) (.cells #[.string X.n, .string X.v] 34))
              have HRN : Hid ((wr.alloc (.cells #[.string X.n, .string X.v] 34)).rangeAt wr.heap.size 0 (lcs X)) := range_new wr [.string X.n, .string X.v] 34
              clear HJ HRB HU
              go_wp2_with (at_builtin; refine wp_leaf rfl _ _ rfl W0.heap.size W0 _ l2 X rfl hoa _ rfl HRN.out HLJ.out ?_)
              intro g5 cap5 w5 ho5 hg5
              have HN2 : Hid (NdBR W0 U (.slice (some ⟨g5, 0, none⟩) (l2.length + 1) cap5) (.int .i64 ((j : Int) + 1)) w5) := HNX.out _ _ _ ho5
              clear HNX ho5 hg5 hoa HRN c0 c1 c2
              go_wp2
              go_roundw
              case rel => exact HN2.out
              case measure => simp [intOf]; omega
            · have hje : j = nu := by omega
              have e : U.take j = U := List.take_of_length_le (by rw [HNU.out]; omega)
              rw [e] at HJ
              obtain ⟨gb, hrb, _, _⟩ := HJ.out.rw (by rw [HNU.out]; omega)
              have hq := sBucketHash_any _ gb 0 U x wr hrb.1 HU.out
              rw [HRB.out] at hq
              have hbz : Below w.heap.size w wr := hbw.trans (HJ.out.2.1.mono hbw.size)
              subst hje
              clear HJ hrb HRB HU HRW e hL
              go_wp2_with fail
              refine hq.mono ?_
              rintro e w2 ⟨rfl, hb2⟩
              clear hq
              go_wp2
              go_ret
              exact ⟨rfl, hbz.trans (hb2.mono hbz.size)⟩
        · obtain ⟨k', rfl⟩ : ∃ k', k = k' + 1 := ⟨k - 1, by omega⟩
          have hIH := HIH.out k' rfl
          have HRF : Hid (hashB 3 [ndB x k' (2 * p) (TR.und idxL (k' + 1) p L), ndB x k' (2 * p + 1) (TR.und idxL (k' + 1) p L)] x = R) := by
            show hashB 3 [ndB x k' (2 * p) (TR.und idxL (k' + 1) p L), ndB x k' (2 * p + 1) (TR.und idxL (k' + 1) p L)] x = R
            rw [← HR.out, ndB_fork (by omega)]
          obtain ⟨gu, hrw, hgu, _⟩ := HI.out.rw (by omega)
          have l9 : l < 8 := by omega
          have q8 : (l == 8) = false := by simp; omega
          have hp2 : 2 * p + 1 < 100000 * 2 ^ (8 - k') := by
            have h0 : p < 100000 * 2 ^ (8 - (k' + 1)) := HP.out
            have h1 : 1 ≤ 2 ^ (8 - (k' + 1)) := Nat.one_le_two_pow
            have e : 8 - k' = 8 - (k' + 1) + 1 := by omega
            rw [e, Nat.pow_succ]
            generalize 2 ^ (8 - (k' + 1)) = q at *
            omega
          have h1 := hIH (l + 1) (2 * p) _ gu 0 _ _ ge wr (by omega) (by omega) hrw.1 HU.out hul3 HEW.out
          have HS2 : Hid (∀ W, Below wr.heap.size wr W → Calls Tryz.prog 98 #[.slice au (TR.und idxL (k' + 1) p L).length cu, .int .i64 (l + 1), .int .i64 ((2 * p + 1 : Nat) : Int), .int .i64 x, .slice (some ⟨ge, 0, none⟩) 9 ce] W fun e w' => e = .returned (.string (ndB x k' (2 * p + 1) (TR.und idxL (k' + 1) p L))) ∧ Below W.heap.size W w') := fun W hW => hIH (l + 1) (2 * p + 1) _ gu 0 _ _ ge W (by omega) hp2 (hrw.1.later hW) HU.out hul3 (HEW.out.below hW HEW.out.lt)
          have e2p : ((2 * p : Nat) : Int) = 2 * (p : Int) := by omega
          have e2q : ((2 * p + 1 : Nat) : Int) = 2 * (p : Int) + 1 := by omega
          rw [e2p] at h1
          rw [e2q] at HS2
          clear HI HR HIH hIH hrw HEW HP HU hk0 hp2 e2p e2q HL hlk hU
          generalize (TR.und idxL (k' + 1) p L).length = ul at *
          generalize ndB x k' (2 * p) (TR.und idxL (k' + 1) p L) = A1 at *
          generalize ndB x k' (2 * p + 1) (TR.und idxL (k' + 1) p L) = A2 at *
          go_wp2_with fail
          refine h1.mono ?_
          rintro e w2 ⟨rfl, hb2⟩
          have h2 := HS2.out _ hb2
          clear h1 HS2
          go_wp2_with fail
          refine h2.mono ?_
          rintro e w3 ⟨rfl, hb3⟩
          have ht := sTagHash_w x 3 [A1, A2] 2 #[.string A1, .string A2] w3 _ rfl rfl (by omega) rfl
          rw [HRF.out] at ht
          have hbz : Below w.heap.size w w3 := (hbw.trans (hb2.mono hbw.size)).trans (hb3.mono (Nat.le_trans hbw.size hb2.size))
          clear h2 HRF hbw hb2 hb3
          go_wp2_with fail
          refine ht.out.mono ?_
          rintro e w4 ⟨rfl, hb4⟩
          go_wp2
          go_ret
          exact ⟨rfl, hbz.trans (hb4.mono hbz.size)⟩

theorem l10Node_any (x : Int) : ∀ (k : Nat), k ≤ 8 → NdC x k
  | 0, h => l10Node_step x 0 h (fun k' e => absurd e (by omega))
  | k + 1, h => l10Node_step x (k + 1) h (fun k' e => by
    have : k = k' := by omega
    subst this
    exact l10Node_any x k (by omega))

end Go.Proofs.YtmcejkfknbjjkaaGreatDoor
/-
  What NodeHash, RootOf and SidesOf answer: the specification's.
-/
namespace Go.Proofs.YtmcejkfknbjjkaaGreatDoor
open Go.RowKit Go.BigFrame Go.Sort
set_option linter.unusedVariables false
set_option linter.unusedSimpArgs false

/-- a place's hash, as the two below it have it -/
noncomputable def trB (x : Int) (k p : Nat) (L : List Le) : ByteArray := TR.tr idxL (hnB x) (bhB x) k p L
theorem leaves_none : LV.leavesB [] = true := LV.leavesB_iff.2 ⟨by simp, fun f hf => by simp at hf, List.Pairwise.nil⟩
theorem bhB_none (x : Int) : bhB x [] = hashB 1 [] x := by
  rw [bhB_yes leaves_none]
  unfold hashB
  rw [none_ok]
  rfl
theorem nd_tr (x : Int) (k p : Nat) (L : List Le) : ndB x k p L = trB x k p L := TR.nod_tr (bhB_none x) k p L
theorem tr_emp {x : Int} {k p : Nat} {L : List Le} (h : TR.und idxL k p L = []) : trB x k p L = empB x k := TR.tr_none (bhB_none x) k p L h
/-- what NodeHash is -/
noncomputable def nhB (L : List Le) (l p x : Int) : ByteArray := if LV.leavesB L = true ∧ (0 ≤ l ∧ l ≤ 8) ∧ (0 ≤ p ∧ p < 2 ^ l.toNat) ∧ 1 ≤ x ∧ x ≤ 32 then trB x (8 - l.toNat) p.toNat L else ⟨#[]⟩

theorem pow_le8 {l : Int} (h : l ≤ 8) : (2 : Int) ^ l.toNat ≤ 256 := by
  have h1 : (2 : Nat) ^ l.toNat ≤ 2 ^ 8 := Nat.pow_le_pow_right (by omega) (by omega)
  have h2 : ((2 ^ l.toNat : Nat) : Int) = (2 : Int) ^ l.toNat := by simp
  omega

set_option maxRecDepth 100000 in
set_option maxHeartbeats 1000000 in
theorem sNodeHash_yes (v : Value) (ga oa : Nat) (L : List Le) (l p x : Int) (w : World) (hv : RS 2 lcs w v ga oa L) (hsm : SmallL L) (h1 : LV.leavesB L = true) (h2 : 0 ≤ l ∧ l ≤ 8) (h3 : 0 ≤ p ∧ p < 2 ^ l.toNat) (h4 : 1 ≤ x ∧ x ≤ 32) :
    Calls Tryz.prog 47 #[v, .int .i64 l, .int .i64 p, .int .i64 x] w fun e w' => e = .returned (.string (trB x (8 - l.toNat) p.toNat L)) ∧ Below w.heap.size w w' := by
  have hc := sLeavesOk_any v ga oa L w hv hsm
  rw [h1] at hc
  have HV : Hid (RS 2 lcs w v ga oa L ∧ SmallL L ∧ LV.LOk L) := ⟨hv, hsm, LV.leavesB_iff.1 h1⟩
  obtain ⟨a, cap, rfl, hl, _⟩ := hv
  have d1 : decide (0 ≤ l ∧ l ≤ 8) = true := by simpa using h2
  have d2 : decide (1 ≤ x ∧ x ≤ 32) = true := by simpa using h4
  have hpw := pow_le8 h2.2
  clear hsm h1
  go_enter Tryz.func47, Tryz.ntmps47
  go_wp2_with fail
  refine hc.mono ?_
  rintro e w1 ⟨rfl, hb1⟩
  clear hc
  go_wp2_with fail
  refine (l01In_any _ _ _ _).mono ?_
  rintro e w2 ⟨rfl, rfl⟩
  rw [d1]
  have dp : decide (p < 0) = false := by simp; omega
  have dq : decide (2 ^ l.toNat ≤ p) = false := by simp; omega
  go_wp2_with fail
  refine (l01In_any _ _ _ _).mono ?_
  rintro e w2 ⟨rfl, rfl⟩
  rw [d2]
  have hs := l10Spots_any _ ga oa L w2 (HV.out.1.later hb1) HV.out.2.1 HV.out.2.2.1
  go_wp2_with fail
  refine hs.mono ?_
  rintro e w3 ⟨u, rfl, ho3⟩
  have he := l10Empties_any x w3
  clear hs
  go_wp2_with fail
  refine he.mono ?_
  rintro e w4 ⟨ge, rfl, hge, htb, hb4⟩
  have hb14 : Below w.heap.size w w4 := (hb1.trans (ho3.2.1.mono hb1.size)).trans (hb4.mono (Nat.le_trans hb1.size ho3.2.2))
  obtain ⟨gu, hrw, _, _⟩ := ho3.rw (Nat.le_trans HV.out.2.2.1 (by omega))
  have hn := l10Node_any x (8 - l.toNat) (by omega) l p.toNat u gu 0 L _ ge w4 (by omega) ?hpl (hrw.1.later hb4) HV.out.2.1 HV.out.2.2.1 (htb.ss 9 9 (emL_len x 0) (by omega))
  case hpl =>
    have e8 : 8 - (8 - l.toNat) = l.toNat := by omega
    rw [e8]
    have h5 : ((2 ^ l.toNat : Nat) : Int) = (2 : Int) ^ l.toNat := by simp
    have h6 := h3.2
    generalize 2 ^ l.toNat = q at *
    omega
  have ep : ((p.toNat : Nat) : Int) = p := by omega
  rw [ep, nd_tr] at hn
  clear he ho3 hrw htb HV
  go_wp2_with fail
  refine hn.mono ?_
  rintro e w5 ⟨rfl, hb5⟩
  clear hn
  go_wp2
  go_ret
  exact ⟨rfl, hb14.trans (hb5.mono hb14.size)⟩

theorem sNodeHash_any (v : Value) (ga oa : Nat) (L : List Le) (l p x : Int) (w : World) (hv : RS 2 lcs w v ga oa L) (hsm : SmallL L) :
    Calls Tryz.prog 47 #[v, .int .i64 l, .int .i64 p, .int .i64 x] w fun e w' => e = .returned (.string (nhB L l p x)) ∧ Below w.heap.size w w' := by
  unfold nhB
  have hc := sLeavesOk_any v ga oa L w hv hsm
  cases h1 : LV.leavesB L with
  | false =>
    rw [if_neg (fun h => by simp at h)]
    rw [h1] at hc
    obtain ⟨a, cap, rfl, hl, _⟩ := hv
    clear hsm h1
    go_enter Tryz.func47, Tryz.ntmps47
    go_wp2_with fail
    refine hc.mono ?_
    rintro e w1 ⟨rfl, hb1⟩
    clear hc
    go_wp2
    go_ret
    exact ⟨rfl, hb1⟩
  | true =>
    by_cases h2 : 0 ≤ l ∧ l ≤ 8
    · by_cases h3 : 0 ≤ p ∧ p < 2 ^ l.toNat
      · by_cases h4 : 1 ≤ x ∧ x ≤ 32
        · rw [if_pos ⟨rfl, h2, h3, h4⟩]
          exact sNodeHash_yes v ga oa L l p x w hv hsm h1 h2 h3 h4
        · rw [if_neg (fun h => h4 h.2.2.2)]
          rw [h1] at hc
          obtain ⟨a, cap, rfl, hl, _⟩ := hv
          have d1 : decide (0 ≤ l ∧ l ≤ 8) = true := by simpa using h2
          have d2 : decide (1 ≤ x ∧ x ≤ 32) = false := by simpa using h4
          have hpw := pow_le8 h2.2
          have dp : decide (p < 0) = false := by simp; omega
          have dq : decide (2 ^ l.toNat ≤ p) = false := by simp; omega
          clear hsm h1
          go_enter Tryz.func47, Tryz.ntmps47
          go_wp2_with fail
          refine hc.mono ?_
          rintro e w1 ⟨rfl, hb1⟩
          clear hc
          go_wp2_with fail
          refine (l01In_any _ _ _ _).mono ?_
          rintro e w2 ⟨rfl, rfl⟩
          rw [d1]
          go_wp2_with fail
          refine (l01In_any _ _ _ _).mono ?_
          rintro e w2 ⟨rfl, rfl⟩
          rw [d2]
          go_wp2
          go_ret
          exact ⟨rfl, hb1⟩
      · rw [if_neg (fun h => h3 h.2.2.1)]
        rw [h1] at hc
        obtain ⟨a, cap, rfl, hl, _⟩ := hv
        have d1 : decide (0 ≤ l ∧ l ≤ 8) = true := by simpa using h2
        have hpw := pow_le8 h2.2
        by_cases hp0 : p < 0
        · have dp : decide (p < 0) = true := by simpa using hp0
          clear hsm h1 h3
          go_enter Tryz.func47, Tryz.ntmps47
          go_wp2_with fail
          refine hc.mono ?_
          rintro e w1 ⟨rfl, hb1⟩
          clear hc
          go_wp2_with fail
          refine (l01In_any _ _ _ _).mono ?_
          rintro e w2 ⟨rfl, rfl⟩
          rw [d1]
          go_wp2
          go_ret
          exact ⟨rfl, hb1⟩
        · have dp : decide (p < 0) = false := by simpa using hp0
          have dq : (2 : Int) ^ l.toNat ≤ p := by omega
          have hpos : (0 : Int) < 2 ^ l.toNat := Int.pow_pos (by omega)
          clear hsm h1 h3
          go_enter Tryz.func47, Tryz.ntmps47
          go_wp2_with fail
          refine hc.mono ?_
          rintro e w1 ⟨rfl, hb1⟩
          clear hc
          go_wp2_with fail
          refine (l01In_any _ _ _ _).mono ?_
          rintro e w2 ⟨rfl, rfl⟩
          rw [d1]
          go_wp2
          go_ret
          exact ⟨rfl, hb1⟩
    · rw [if_neg (fun h => h2 h.2.1)]
      rw [h1] at hc
      obtain ⟨a, cap, rfl, hl, _⟩ := hv
      have d1 : decide (0 ≤ l ∧ l ≤ 8) = false := by simpa using h2
      clear hsm h1 h2
      go_enter Tryz.func47, Tryz.ntmps47
      go_wp2_with fail
      refine hc.mono ?_
      rintro e w1 ⟨rfl, hb1⟩
      clear hc
      go_wp2_with fail
      refine (l01In_any _ _ _ _).mono ?_
      rintro e w2 ⟨rfl, rfl⟩
      rw [d1]
      go_wp2
      go_ret
      exact ⟨rfl, hb1⟩

theorem sRootOf_any (v : Value) (ga oa : Nat) (L : List Le) (x : Int) (w : World) (hv : RS 2 lcs w v ga oa L) (hsm : SmallL L) :
    Calls Tryz.prog 14 #[v, .int .i64 x] w fun e w' => e = .returned (.string (nhB L 0 0 x)) ∧ Below w.heap.size w w' := by
  have hc := sNodeHash_any v ga oa L 0 0 x w hv hsm
  obtain ⟨a, cap, rfl, hl, _⟩ := hv
  generalize nhB L 0 0 x = T at *
  clear hsm
  go_enter Tryz.func14, Tryz.ntmps14
  go_wp2_with fail
  refine hc.mono ?_
  rintro e w1 ⟨rfl, hb1⟩
  go_wp2
  go_ret
  exact ⟨rfl, hb1⟩

namespace TR
variable {α : Type} {β : Type} {idx : α → Nat} {hN : β → β → β} {hB : List α → β}
theorem sides_snoc (x : Nat) (l : List α) : ∀ (n k : Nat), sides idx hN hB x l k (n + 1) = sides idx hN hB x l k n ++ [tr idx hN hB (k + n) (oth (x / 2 ^ (k + n))) l]
  | 0, k => rfl
  | n + 1, k => by
    have h := sides_snoc x l n (k + 1)
    rw [show k + 1 + n = k + (n + 1) by omega] at h
    show tr idx hN hB k (oth (x / 2 ^ k)) l :: sides idx hN hB x l (k + 1) (n + 1) = _
    rw [h]
    rfl
end TR
/-- the sides of index x, n of them from below -/
noncomputable def sdL (x : Int) (ix : Nat) (L : List Le) (n : Nat) : List ByteArray := TR.sides idxL (hnB x) (bhB x) ix L 0 n
theorem sdL_len (x : Int) (ix : Nat) (L : List Le) (n : Nat) : (sdL x ix L n).length = n := TR.sides_len ix L n 0
theorem sdL_up (x : Int) (ix : Nat) (L : List Le) (n : Nat) : sdL x ix L (n + 1) = sdL x ix L n ++ [trB x n (TR.oth (ix / 2 ^ n)) L] := by
  unfold sdL trB
  rw [TR.sides_snoc, Nat.zero_add]
theorem xor_b (q : Nat) (h : q ≤ 255) : bits BinOp.xor IntKind.i64 (q : Int) 1 = ((TR.oth q : Nat) : Int) := by
  rw [← TR.oth_xor q (by omega)]
  have : ∀ q : Fin 256, bits BinOp.xor IntKind.i64 ((q.val : Nat) : Int) 1 = ((q.val ^^^ 1 : Nat) : Int) := by decide +kernel
  exact this ⟨q, by omega⟩
theorem oth_le (q : Nat) : TR.oth q ≤ q + 1 := by unfold TR.oth; split <;> omega

section
variable {w : World} {ops : Array Oper} {o : Oper} {a : Act} {K : Act → World → Prop} {Q : Exit → Act → World → Prop}
theorem one_txt {w : World} {p : Nat} {t : ByteArray} (h : w.cell? ⟨p, 0, none⟩ = some (.string t)) : ∀ j u, [Value.string t][j]? = some u → w.cell? ((⟨p, 0, none⟩ : Addr).add j) = some u := by
  intro j u hj
  match j, hj with
  | 0, hj =>
    simp at hj
    subst hj
    rw [Addr.add_mid]
    exact h
/-- a text appended, and where the row lies then: as one step of a region that draws its order -/
theorem step_txtL {E : Prop} (hgd : o.guard = none) (s x : Operand)
    (ho : o.op = .call { callee := .builtin .append, args := #[s, x], argTypes := #[29, 29] })
    (B : Nat) (w0 : World) (u : Value) (l : List ByteArray) (t : ByteArray) (hs : a.eval s = u) (h : OS B w0 w u l) (p : Nat) (hx : a.eval x = .slice (some ⟨p, 0, none⟩) 1 1)
    (hnews : w.cell? ⟨p, 0, none⟩ = some (.string t)) (hlen : l.length + 1 ≤ 1000000)
    (hk : ∀ g cap w', OS B w0 w' (.slice (some ⟨g, 0, none⟩) (l.length + 1) cap) (l ++ [t]) → w.grownBy w' u.ownBlock → (u.ownBlock = some g ∨ g = w.heap.size) → K (a.put o.dst (.slice (some ⟨g, 0, none⟩) (l.length + 1) cap)) w') : if Region.wanted o (yielded ops a.tmps) = true then Oper.wp Tryz.prog o a w K Q else E := by
  obtain ⟨i0, hi, hz0, hz1, hz2⟩ := info_parts Tryz.info9
  refine step_append_lies w hgd s x 29 ho B 9 i0 (.string ByteArray.empty) 1 16 Tryz.underlying29 hi hz0 hz1 hz2 rfl (by decide) u l.length (svs l) hs h.1 ⟨p, 0, none⟩ 1 1 [.string t] hx rfl (one_txt hnews)
    (fun u hu => by simp at hu; subst hu; rfl) (by omega) (by unfold maxLen; omega) (by omega) h.2.2 w.heap.size rfl ?_
  intro g cap w' h1 h2 h3 _
  exact hk _ _ _ ⟨by rw [List.length_append, svs_append]; exact h1, h.2.1.grown h2 h.2.2 (fun k hk => (h.1.lt k hk).1), Nat.le_trans h.2.2 h2.size⟩ h2 h3
/-- .. and in a plain region -/
theorem wp_txtL {rest : List Oper} (hgd : o.guard = none) (s x : Operand)
    (ho : o.op = .call { callee := .builtin .append, args := #[s, x], argTypes := #[29, 29] })
    (B : Nat) (w0 : World) (u : Value) (l : List ByteArray) (t : ByteArray) (hs : a.eval s = u) (h : OS B w0 w u l) (p : Nat) (hx : a.eval x = .slice (some ⟨p, 0, none⟩) 1 1)
    (hnews : w.cell? ⟨p, 0, none⟩ = some (.string t)) (hlen : l.length + 1 ≤ 1000000)
    (hk : ∀ g cap w', OS B w0 w' (.slice (some ⟨g, 0, none⟩) (l.length + 1) cap) (l ++ [t]) → w.grownBy w' u.ownBlock → (u.ownBlock = some g ∨ g = w.heap.size) → wpList Tryz.prog ops Q rest (a.put o.dst (.slice (some ⟨g, 0, none⟩) (l.length + 1) cap)) w') : wpList Tryz.prog ops Q (o :: rest) a w := by
  obtain ⟨i0, hi, hz0, hz1, hz2⟩ := info_parts Tryz.info9
  refine wpList_append_lies w hgd s x 29 ho B 9 i0 (.string ByteArray.empty) 1 16 Tryz.underlying29 hi hz0 hz1 hz2 rfl (by decide) u l.length (svs l) hs h.1 ⟨p, 0, none⟩ 1 1 [.string t] hx rfl (one_txt hnews)
    (fun u hu => by simp at hu; subst hu; rfl) (by omega) (by unfold maxLen; omega) (by omega) h.2.2 w.heap.size rfl ?_
  intro g cap w' h1 h2 h3 _
  exact hk _ _ _ ⟨by rw [List.length_append, svs_append]; exact h1, h.2.1.grown h2 h.2.2 (fun k hk => (h.1.lt k hk).1), Nat.le_trans h.2.2 h2.size⟩ h2 h3
end
theorem SS.grown {w w' : World} {v : Value} {g o : Nat} {l : List ByteArray} {row : Option Nat} (h : SS w v g o l) (hg : w.grownBy w' row) (hne : 0 < l.length → some g ≠ row) : SS w' v g o l := by
  have hlt := h.lt
  obtain ⟨a, cap, h1, h2, h3, h4⟩ := h
  exact ⟨a, cap, h1, h2, h3, fun j hj => (cell_kept (hg.block g (hlt (by omega)) (hne (by omega)))).trans (h4 j hj)⟩

/-- the row of sides that grows, beside the specification's spots and empties -/
def SdI (x : Int) (L : List Le) (w wr : World) (vs ve : Value) (gu ge : Nat) (u : Value) (l : List ByteArray) : Prop :=
  OS w.heap.size w wr u l ∧ RS 3 scs wr vs gu 0 L ∧ SS wr ve ge 0 (emL x 0) ∧ (0 < L.length → u.ownBlock ≠ some gu) ∧ u.ownBlock ≠ some ge
theorem SdI.later {x : Int} {L : List Le} {w wr wr' : World} {vs ve : Value} {gu ge : Nat} {u : Value} {l : List ByteArray} (h : SdI x L w wr vs ve gu ge u l) (hb : Below wr.heap.size wr wr') : SdI x L w wr' vs ve gu ge u l :=
  ⟨h.1.later hb, h.2.1.later hb, h.2.2.1.below hb h.2.2.1.lt, h.2.2.2⟩
theorem SdI.drew {x : Int} {L : List Le} {w wr : World} {vs ve : Value} {gu ge : Nat} {u : Value} {l : List ByteArray} (h : SdI x L w wr vs ve gu ge u l) : SdI x L w wr.drew vs ve gu ge u l := ⟨h.1.drew, h.2.1, h.2.2.1, h.2.2.2⟩
theorem SdI.app {x : Int} {L : List Le} {w wr wr' : World} {vs ve : Value} {gu ge g cap n : Nat} {u : Value} {l l' : List ByteArray} (h : SdI x L w wr vs ve gu ge u l) (h1 : OS w.heap.size w wr' (.slice (some ⟨g, 0, none⟩) n cap) l') (hg : wr.grownBy wr' u.ownBlock) (hl : u.ownBlock = some g ∨ g = wr.heap.size) : SdI x L w wr' vs ve gu ge (.slice (some ⟨g, 0, none⟩) n cap) l' := by
  obtain ⟨a1, a2, a3, a4, a5⟩ := h
  have e9 : 0 < (emL x 0).length := by rw [emL_len]; omega
  have hge := a3.lt e9
  refine ⟨h1, a2.grown hg (fun h0 e => a4 h0 e.symm), a3.grown hg (fun _ e => a5 e.symm), fun h0 e => ?_, fun e => ?_⟩
  · have eg : g = gu := by simpa [Value.ownBlock] using e
    have hgu : gu < wr.heap.size := by
      obtain ⟨_, _, _, _, h3, _⟩ := a2
      exact (h3 h0).2
    rcases hl with hl | hl
    · exact a4 h0 (by rw [hl, eg])
    · omega
  · have eg : g = ge := by simpa [Value.ownBlock] using e
    rcases hl with hl | hl
    · exact a5 (by rw [hl, eg])
    · omega

def SdTR (N : Nat) (x : Int) (ix : Nat) (L : List Le) (w : World) (vs ve : Value) (gu ge : Nat) (u i : Value) (wr : World) : Prop := ∃ j : Nat, j ≤ N ∧ i = .int .i64 (8 - (j : Int)) ∧ Hid (SdI x L w wr vs ve gu ge u (sdL x ix L j))

/-- what SidesOf is -/
noncomputable def sdA (L : List Le) (ix l x : Int) : List ByteArray := if LV.leavesB L = true ∧ (0 ≤ ix ∧ ix ≤ 255) ∧ (0 ≤ l ∧ l ≤ 8) ∧ 1 ≤ x ∧ x ≤ 32 then sdL x ix.toNat L (8 - l.toNat) else []

set_option maxRecDepth 100000 in
set_option maxHeartbeats 1000000 in
theorem sSidesOf_yes (v : Value) (ga oa : Nat) (L : List Le) (ix l : Nat) (x : Int) (w : World) (hv : RS 2 lcs w v ga oa L) (hsm : SmallL L) (h1 : LV.leavesB L = true) (h2 : ix ≤ 255) (h3 : l ≤ 8) (h4 : 1 ≤ x ∧ x ≤ 32) :
    Calls Tryz.prog 150 #[v, .int .i64 (ix : Int), .int .i64 (l : Int), .int .i64 x] w fun e w' => ∃ u, e = .returned u ∧ OS w.heap.size w w' u (sdL x ix L (8 - l)) := by
  have HC : Hid (∀ W, Below w.heap.size w W → Calls Tryz.prog 70 #[v] W fun e w' => e = .returned (.bool true) ∧ Below W.heap.size W w') := fun W hW => by
    have h := sLeavesOk_any v ga oa L W (hv.later hW) hsm
    rw [h1] at h
    exact h
  have HV : Hid (RS 2 lcs w v ga oa L ∧ SmallL L ∧ LV.LOk L) := ⟨hv, hsm, LV.leavesB_iff.1 h1⟩
  obtain ⟨a, cap, rfl, hl, _⟩ := hv
  have d0 : decide (0 ≤ (ix : Int) ∧ (ix : Int) ≤ 255) = true := by simp; omega
  have d1 : decide (0 ≤ (l : Int) ∧ (l : Int) ≤ 8) = true := by simp; omega
  have d2 : decide (1 ≤ x ∧ x ≤ 32) = true := by simpa using h4
  have hba := (Below.refl w.heap.size w).alloc (Nat.le_refl _) (.cells #[] 9)
  have HO : Hid (OS w.heap.size w (w.alloc (.cells #[] 9)) (.slice (some ⟨w.heap.size, 0, none⟩) 0 0) []) := OS.made w
  have hc := HC.out _ hba
  clear hsm h1 HC
  go_enter Tryz.func150, Tryz.ntmps150
  go_wp2_with fail
  refine hc.mono ?_
  rintro e w1 ⟨rfl, hb1⟩
  clear hc
  go_wp2_with fail
  refine (l01In_any _ _ _ _).mono ?_
  rintro e w2 ⟨rfl, rfl⟩
  rw [d0]
  go_wp2_with fail
  refine (l01In_any _ _ _ _).mono ?_
  rintro e w2 ⟨rfl, rfl⟩
  rw [d1]
  go_wp2_with fail
  refine (l01In_any _ _ _ _).mono ?_
  rintro e w2 ⟨rfl, rfl⟩
  rw [d2]
  have hb1w : Below w.heap.size w w2 := hba.trans (hb1.mono (by simp))
  have hs := l10Spots_any _ ga oa L w2 (HV.out.1.later hb1w) HV.out.2.1 HV.out.2.2.1
  go_wp2_with fail
  refine hs.mono ?_
  rintro e w3 ⟨u, rfl, ho3⟩
  have he := l10Empties_any x w3
  clear hs
  go_wp2_with fail
  refine he.mono ?_
  rintro e w4 ⟨ge, rfl, hge, htb, hb4⟩
  have hb34 : Below w2.heap.size w2 w4 := ho3.2.1.trans (hb4.mono ho3.2.2)
  obtain ⟨gu, hrw, hgu, _⟩ := ho3.rw (Nat.le_trans HV.out.2.2.1 (by omega))
  obtain ⟨au, cu, eu⟩ := ho3.shape
  have HST : Hid (SdTR (8 - l) x ix L w u (.slice (some ⟨ge, 0, none⟩) 9 9) gu ge (.slice (some ⟨w.heap.size, 0, none⟩) 0 0) (.int .i64 8) w4) := by
    have hz1 : w.heap.size < w2.heap.size := by
      have := hb1.size
      simp at this
      omega
    refine ⟨0, by omega, rfl, (HO.out.later hb1).later hb34, hrw.1.later hb4, htb.ss 9 9 (emL_len x 0) (by omega), fun h0 e => ?_, fun e => ?_⟩
    · have : w.heap.size = gu := by simpa [Value.ownBlock] using e
      omega
    · have : w.heap.size = ge := by simpa [Value.ownBlock] using e
      have := ho3.2.2
      omega
  have hL24 : L.length ≤ 24 := HV.out.2.2.1
  obtain ⟨nL, hnL⟩ : ∃ nL, L.length = nL := ⟨_, rfl⟩
  have HNL : Hid (L.length = nL) := hnL
  have HSM : Hid (SmallL L) := HV.out.2.1
  rw [hnL] at eu hl hL24 ⊢
  subst eu
  clear he ho3 HO hb1 hba hnL hrw htb hb4 hb34 hgu hge HV hb1w
  go_wp2
  go_loopw [9, 12] (fun u i wr => SdTR (8 - l) x ix L w (.slice au nL cu) (.slice (some ⟨ge, 0, none⟩) 9 9) gu ge u i wr) (fun _ i _ => (intOf i).toNat)
  case atStart => exact HST.out
  case round =>
    obtain ⟨j, hj, rfl, HI⟩ := hrel
    clear HST
    have hL : (sdL x ix L j).length = j := sdL_len x ix L j
    obtain ⟨ab, cb, hb⟩ := HI.out.1.slice
    rw [hL] at hb
    subst hb
    by_cases hjl : j < 8 - l
    · have i1 : (l : Int) < 8 - (j : Int) := by omega
      have hdv : ix / 2 ^ j ≤ 255 := Nat.le_trans (Nat.div_le_self _ _) h2
      have hxq : bits BinOp.xor IntKind.i64 ((ix : Int) / 2 ^ (8 - (8 - j))) 1 = ((TR.oth (ix / 2 ^ j) : Nat) : Int) := by
        have e1 : 8 - (8 - j) = j := by omega
        have e2 : (ix : Int) / 2 ^ j = ((ix / 2 ^ j : Nat) : Int) := by simp
        rw [e1, e2]
        exact xor_b _ hdv
      have hol := oth_le (ix / 2 ^ j)
      have hn := l10Node_any x j (by omega) (8 - (j : Int)) (TR.oth (ix / 2 ^ j)) _ gu 0 L _ ge wr (by omega) (by
        have h5 : 1 ≤ 2 ^ (8 - j) := Nat.one_le_two_pow
        omega) HI.out.2.1 HSM.out (by rw [HNL.out]; exact hL24) HI.out.2.2.1
      rw [← hxq, nd_tr] at hn
      have hst := sdL_up x ix L j
      have HNX : Hid (∀ W v, SdI x L w W (.slice au nL cu) (.slice (some ⟨ge, 0, none⟩) 9 9) gu ge v (sdL x ix L j ++ [trB x j (TR.oth (ix / 2 ^ j)) L]) → SdTR (8 - l) x ix L w (.slice au nL cu) (.slice (some ⟨ge, 0, none⟩) 9 9) gu ge v (.int .i64 (8 - (j : Int) - 1)) W) := by
        rw [← hst]
        exact fun W v hW => ⟨j + 1, by omega, by congr 1; omega, hW⟩
      have HLJ : Hid ((sdL x ix L j).length + 1 ≤ 1000000) := by show (sdL x ix L j).length + 1 ≤ 1000000; omega
      generalize trB x j (TR.oth (ix / 2 ^ j)) L = T at *
      clear hL hst hxq hdv hol
      generalize sdL x ix L j = l0 at *
      go_wp2_with fail
      refine hn.mono ?_
      rintro e w5 ⟨rfl, hb5⟩
      have HI5 : Hid (SdI x L w (w5.alloc (.cells #[.string T] 9)) (.slice au nL cu) (.slice (some ⟨ge, 0, none⟩) 9 9) gu ge (.slice ab j cb) l0) := HI.out.later (hb5.alloc hb5.size _)
      have hct : (w5.alloc (.cells #[.string T] 9)).cell? ⟨w5.heap.size, 0, none⟩ = some (.string T) := by rw [World.cell?_alloc_at _ _ _ _ rfl]; rfl
      have HCT : Hid ((w5.alloc (.cells #[.string T] 9)).cell? ⟨w5.heap.size, 0, none⟩ = some (.string T)) := hct
      clear hn HI hct hb5
      go_wp2_with (at_builtin; refine wp_txtL rfl _ _ rfl w.heap.size w _ l0 T rfl HI5.out.1 _ rfl HCT.out HLJ.out ?_)
      intro g6 cap6 w6 ho6 hg6 hl6
      have HN2 : Hid (SdTR (8 - l) x ix L w (.slice au nL cu) (.slice (some ⟨ge, 0, none⟩) 9 9) gu ge (.slice (some ⟨g6, 0, none⟩) (l0.length + 1) cap6) (.int .i64 (8 - (j : Int) - 1)) w6) := HNX.out _ _ (HI5.out.app ho6 hg6 (by simpa using hl6))
      clear HNX ho6 hg6 hl6 HI5 HCT
      go_wp2
      go_roundw
      case rel => exact HN2.out
      case measure => simp [intOf]; omega
    · have i1 : ¬ ((l : Int) < 8 - (j : Int)) := by omega
      have hje : j = 8 - l := by omega
      have HF : Hid (∃ u, Ending.returned (.slice ab j cb) = .returned u ∧ OS w.heap.size w wr u (sdL x ix L (8 - l))) := ⟨_, rfl, by rw [← hje]; exact HI.out.1⟩
      clear HI hL hje
      go_wp2
      go_ret
      exact HF.out

theorem sSidesOf_any (v : Value) (ga oa : Nat) (L : List Le) (ix l x : Int) (w : World) (hv : RS 2 lcs w v ga oa L) (hsm : SmallL L) :
    Calls Tryz.prog 150 #[v, .int .i64 ix, .int .i64 l, .int .i64 x] w fun e w' => ∃ u, e = .returned u ∧ OS w.heap.size w w' u (sdA L ix l x) := by
  unfold sdA
  have hba := (Below.refl w.heap.size w).alloc (Nat.le_refl _) (.cells #[] 9)
  have hc := sLeavesOk_any v ga oa L _ (hv.later hba) hsm
  have HF : Hid (∀ W, Below (w.alloc (.cells #[] 9)).heap.size (w.alloc (.cells #[] 9)) W → ∃ u, Ending.returned (.slice (some ⟨w.heap.size, 0, none⟩) 0 0) = .returned u ∧ OS w.heap.size w W u []) := fun W hW => ⟨_, rfl, (OS.made w).later hW⟩
  cases h1 : LV.leavesB L with
  | false =>
    rw [if_neg (fun h => by simp at h)]
    rw [h1] at hc
    obtain ⟨a, cap, rfl, hl, _⟩ := hv
    clear hsm h1 hba
    go_enter Tryz.func150, Tryz.ntmps150
    go_wp2_with fail
    refine hc.mono ?_
    rintro e w1 ⟨rfl, hb1⟩
    clear hc
    go_wp2
    go_ret
    exact HF.out _ hb1
  | true =>
    by_cases h2 : 0 ≤ ix ∧ ix ≤ 255
    · by_cases h3 : 0 ≤ l ∧ l ≤ 8
      · by_cases h4 : 1 ≤ x ∧ x ≤ 32
        · rw [if_pos ⟨rfl, h2, h3, h4⟩]
          obtain ⟨i, rfl⟩ := Int.eq_ofNat_of_zero_le h2.1
          obtain ⟨k, rfl⟩ := Int.eq_ofNat_of_zero_le h3.1
          exact sSidesOf_yes v ga oa L i k x w hv hsm h1 (by omega) (by omega) h4
        · rw [if_neg (fun h => h4 h.2.2.2)]
          rw [h1] at hc
          obtain ⟨a, cap, rfl, hl, _⟩ := hv
          have d0 : decide (0 ≤ ix ∧ ix ≤ 255) = true := by simpa using h2
          have d1 : decide (0 ≤ l ∧ l ≤ 8) = true := by simpa using h3
          have d2 : decide (1 ≤ x ∧ x ≤ 32) = false := by simpa using h4
          clear hsm h1 hba
          go_enter Tryz.func150, Tryz.ntmps150
          go_wp2_with fail
          refine hc.mono ?_
          rintro e w1 ⟨rfl, hb1⟩
          clear hc
          go_wp2_with fail
          refine (l01In_any _ _ _ _).mono ?_
          rintro e w2 ⟨rfl, rfl⟩
          rw [d0]
          go_wp2_with fail
          refine (l01In_any _ _ _ _).mono ?_
          rintro e w2 ⟨rfl, rfl⟩
          rw [d1]
          go_wp2_with fail
          refine (l01In_any _ _ _ _).mono ?_
          rintro e w2 ⟨rfl, rfl⟩
          rw [d2]
          go_wp2
          go_ret
          exact HF.out _ hb1
      · rw [if_neg (fun h => h3 h.2.2.1)]
        rw [h1] at hc
        obtain ⟨a, cap, rfl, hl, _⟩ := hv
        have d0 : decide (0 ≤ ix ∧ ix ≤ 255) = true := by simpa using h2
        have d1 : decide (0 ≤ l ∧ l ≤ 8) = false := by simpa using h3
        clear hsm h1 hba h3
        go_enter Tryz.func150, Tryz.ntmps150
        go_wp2_with fail
        refine hc.mono ?_
        rintro e w1 ⟨rfl, hb1⟩
        clear hc
        go_wp2_with fail
        refine (l01In_any _ _ _ _).mono ?_
        rintro e w2 ⟨rfl, rfl⟩
        rw [d0]
        go_wp2_with fail
        refine (l01In_any _ _ _ _).mono ?_
        rintro e w2 ⟨rfl, rfl⟩
        rw [d1]
        go_wp2
        go_ret
        exact HF.out _ hb1
    · rw [if_neg (fun h => h2 h.2.1)]
      rw [h1] at hc
      obtain ⟨a, cap, rfl, hl, _⟩ := hv
      have d0 : decide (0 ≤ ix ∧ ix ≤ 255) = false := by simpa using h2
      clear hsm h1 hba h2
      go_enter Tryz.func150, Tryz.ntmps150
      go_wp2_with fail
      refine hc.mono ?_
      rintro e w1 ⟨rfl, hb1⟩
      clear hc
      go_wp2_with fail
      refine (l01In_any _ _ _ _).mono ?_
      rintro e w2 ⟨rfl, rfl⟩
      rw [d0]
      go_wp2
      go_ret
      exact HF.out _ hb1

end Go.Proofs.YtmcejkfknbjjkaaGreatDoor
