/-
  Texts laid together: Bh, Tm, Em, Spo, Eh.
-/
import Derived.Test.YtfiapodjiifmaaaGreatDoorPkP15
import Derived.Test.YtfiapodjiifmaaaGreatDoorPkP5
import Derived.Deep.RegionHeld3
/-
  What BucketHash answers, the program's and the specification's.
-/
namespace Go.Proofs.YtfiapodjiifmaaaGreatDoor
open Go.RowKit Go.BigFrame Go.Sort
set_option linter.unusedVariables false
set_option linter.unusedSimpArgs false

open TR (bkp bkp_len)
/-- what BucketHash is -/
noncomputable def bhB (x : Int) (L : List Le) : ByteArray := if LV.leavesB L then cutH (btB L) x else ⟨#[]⟩
theorem bhB_yes {x : Int} {L : List Le} (h : LV.leavesB L = true) : bhB x L = cutH (btB L) x := by unfold bhB; rw [h]; rfl
theorem bhB_no {x : Int} {L : List Le} (h : LV.leavesB L = false) : bhB x L = ⟨#[]⟩ := by unfold bhB; rw [h]; rfl
theorem btB_size (L : List Le) : (btB L).size ≤ 12601 := by
  unfold btB
  split <;> exact tagB_size _ _
theorem BucketHash_any (v : Value) (ga oa : Nat) (L : List Le) (x : Int) (w : World) (hv : RS 2 lcs w v ga oa L) (hsm : SmallL L) (hT : Tb w) :
    Calls Tryz.prog 97 #[v, .int .i64 x] w fun e w' => e = .returned (.string (bhB x L)) ∧ Below w.heap.size w w' := by
  have hc := BucketText_any v ga oa L w hv hsm
  obtain ⟨a, cap, rfl, _⟩ := hv
  cases hR : LV.leavesB L with
  | false =>
    rw [bhB_no hR]
    rw [hR, btA_no hR] at hc
    clear hsm hT
    go_enter Tryz.func97, Tryz.ntmps97
    go_wp2_with fail
    refine hc.mono ?_
    rintro e w1 ⟨rfl, hb1⟩
    go_wp2
    go_ret
    exact ⟨rfl, hb1⟩
  | true =>
    rw [bhB_yes hR]
    rw [hR, btA_yes hR] at hc
    have HC : Hid (∀ w1, Below w.heap.size w w1 → Calls Tryz.prog 37 #[.string (btB L), .int .i64 x] w1 fun e w' => e = .returned (.string (cutH (btB L) x)) ∧ Below w.heap.size w w') := fun w1 hb => by
      have hT1 := hT.later hb
      exact (CutDigest_any (btB L) x w1 (Nat.le_trans (btB_size L) (by omega)) hT1.1 hT1.2).mono fun e w' ⟨he, h⟩ => ⟨he, hb.trans (h.mono hb.size)⟩
    generalize cutH (btB L) x = T at *
    generalize btB L = S at *
    clear hsm hT
    go_enter Tryz.func97, Tryz.ntmps97
    go_wp2_with fail
    refine hc.mono ?_
    rintro e w1 ⟨rfl, hb1⟩
    clear hc
    go_wp2_with fail
    refine (HC.out _ hb1).mono ?_
    rintro e w2 ⟨rfl, hb2⟩
    go_wp2
    go_ret
    exact ⟨rfl, hb2⟩
theorem sBucketHash_any (v : Value) (ga oa : Nat) (L : List Le) (x : Int) (w : World) (hv : RS 2 lcs w v ga oa L) (hsm : SmallL L) :
    Calls Tryz.prog 89 #[v, .int .i64 x] w fun e w' => e = .returned (.string (bhB x L)) ∧ Below w.heap.size w w' := by
  have hc := sBucketText_any v ga oa L w hv hsm
  obtain ⟨a, cap, rfl, _⟩ := hv
  cases hR : LV.leavesB L with
  | false =>
    rw [bhB_no hR]
    rw [hR, btA_no hR] at hc
    clear hsm
    go_enter Tryz.func89, Tryz.ntmps89
    go_wp2_with fail
    refine hc.mono ?_
    rintro e w1 ⟨rfl, hb1⟩
    go_wp2
    go_ret
    exact ⟨rfl, hb1⟩
  | true =>
    rw [bhB_yes hR]
    rw [hR, btA_yes hR] at hc
    have HC : Hid (∀ w1, Below w.heap.size w w1 → Calls Tryz.prog 103 #[.string (btB L), .int .i64 x] w1 fun e w' => e = .returned (.string (cutH (btB L) x)) ∧ Below w.heap.size w w') := fun w1 hb =>
      (sCutDigest_any (btB L) x w1 (Nat.le_trans (btB_size L) (by omega))).mono fun e w' ⟨he, h⟩ => ⟨he, hb.trans (h.mono hb.size)⟩
    generalize cutH (btB L) x = T at *
    generalize btB L = S at *
    clear hsm
    go_enter Tryz.func89, Tryz.ntmps89
    go_wp2_with fail
    refine hc.mono ?_
    rintro e w1 ⟨rfl, hb1⟩
    clear hc
    go_wp2_with fail
    refine (HC.out _ hb1).mono ?_
    rintro e w2 ⟨rfl, hb2⟩
    go_wp2
    go_ret
    exact ⟨rfl, hb2⟩

end Go.Proofs.YtfiapodjiifmaaaGreatDoor
/-
  Plain facts of trees of hashes: what a place's hash is, where nothing is, and that a bucket's hash folds up.
-/
namespace Go.Proofs.YtfiapodjiifmaaaGreatDoor.TR
set_option linter.unusedVariables false

variable {α : Type} {β : Type}
/-- the hash of nothing, k levels above the buckets -/
def emp (hN : β → β → β) (hE : β) : Nat → β
  | 0 => hE
  | k + 1 => hN (emp hN hE k) (emp hN hE k)
/-- those of l that lie under place p, k levels above the buckets -/
def und (idx : α → Nat) (k p : Nat) (l : List α) : List α := l.filter fun f => decide (idx f / 2 ^ k = p)
/-- a place's hash, as the two below it have it -/
def tr (idx : α → Nat) (hN : β → β → β) (hB : List α → β) : Nat → Nat → List α → β
  | 0, p, l => hB (und idx 0 p l)
  | k + 1, p, l => hN (tr idx hN hB k (2 * p) l) (tr idx hN hB k (2 * p + 1) l)
/-- a place's hash, as the specification goes down: what lies there is picked first -/
def nod (idx : α → Nat) (hN : β → β → β) (hE : β) (hB : List α → β) : Nat → Nat → List α → β
  | 0, p, l => if (und idx 0 p l).isEmpty then hE else hB (und idx 0 p l)
  | k + 1, p, l => if (und idx (k + 1) p l).isEmpty then emp hN hE (k + 1) else hN (nod idx hN hE hB k (2 * p) (und idx (k + 1) p l)) (nod idx hN hE hB k (2 * p + 1) (und idx (k + 1) p l))

section
variable {idx : α → Nat} {hN : β → β → β} {hE : β} {hB : List α → β}
theorem und_und {k j p q : Nat} {l : List α} (h : q / 2 ^ j = p) : und idx k q (und idx (k + j) p l) = und idx k q l := by
  unfold und
  rw [List.filter_filter]
  refine List.filter_congr fun f _ => ?_
  by_cases h1 : idx f / 2 ^ k = q
  · have h2 : idx f / 2 ^ (k + j) = p := by rw [Nat.pow_add, ← Nat.div_div_eq_div_mul, h1, h]
    rw [decide_eq_true h1, decide_eq_true h2]; rfl
  · rw [decide_eq_false h1]; rfl
theorem und_nil {k p : Nat} : und idx k p ([] : List α) = [] := rfl
/-- where nothing lies above, nothing lies below -/
theorem und_down {k j p q : Nat} {l : List α} (h : q / 2 ^ j = p) (h0 : und idx (k + j) p l = []) : und idx k q l = [] := by
  rw [← und_und h, h0, und_nil]
theorem tr_of : ∀ (k j p q : Nat) (l : List α), q / 2 ^ j = p → tr idx hN hB k q (und idx (k + j) p l) = tr idx hN hB k q l
  | 0, j, p, q, l, h => by unfold tr; rw [und_und h]
  | k + 1, j, p, q, l, h => by
    have e : k + 1 + j = k + (j + 1) := by omega
    have h1 : (2 * q) / 2 ^ (j + 1) = p := by rw [Nat.pow_succ, Nat.mul_comm (2 ^ j) 2, ← Nat.div_div_eq_div_mul, Nat.mul_div_cancel_left _ (by omega), h]
    have h2 : (2 * q + 1) / 2 ^ (j + 1) = p := by rw [Nat.pow_succ, Nat.mul_comm (2 ^ j) 2, ← Nat.div_div_eq_div_mul, show (2 * q + 1) / 2 = q by omega, h]
    unfold tr
    rw [e, tr_of k (j + 1) p (2 * q) l h1, tr_of k (j + 1) p (2 * q + 1) l h2]
theorem tr_none (hz : hB [] = hE) : ∀ (k p : Nat) (l : List α), und idx k p l = [] → tr idx hN hB k p l = emp hN hE k
  | 0, p, l, h => by unfold tr emp; rw [h, hz]
  | k + 1, p, l, h => by
    unfold tr emp
    rw [tr_none hz k (2 * p) l (und_down (j := 1) (by omega) h), tr_none hz k (2 * p + 1) l (und_down (j := 1) (by omega) h)]
/-- the specification's way down is the plain one -/
theorem nod_tr (hz : hB [] = hE) : ∀ (k p : Nat) (l : List α), nod idx hN hE hB k p l = tr idx hN hB k p l
  | 0, p, l => by
    unfold nod tr
    cases h : und idx 0 p l with
    | nil => simp [hz]
    | cons a t => simp
  | k + 1, p, l => by
    unfold nod
    cases h : (und idx (k + 1) p l).isEmpty with
    | true =>
      have h0 : und idx (k + 1) p l = [] := List.isEmpty_iff.1 h
      rw [tr_none hz (k + 1) p l h0]
      simp
    | false =>
      simp only [Bool.false_eq_true, if_false]
      rw [nod_tr hz k (2 * p) _, nod_tr hz k (2 * p + 1) _, tr_of k 1 p (2 * p) l (by omega), tr_of k 1 p (2 * p + 1) l (by omega)]
      rfl
theorem tr_step (k p : Nat) (l : List α) : tr idx hN hB (k + 1) p l = hN (tr idx hN hB k (2 * p) l) (tr idx hN hB k (2 * p + 1) l) := rfl

/-- the other one of two -/
def oth (y : Nat) : Nat := if y % 2 = 0 then y + 1 else y - 1
theorem oth_xor : ∀ y, y < 256 → y ^^^ 1 = oth y := by decide +kernel
/-- one step up: what stands at a place, and its side -/
theorem tr_up (k x : Nat) (l : List α) : tr idx hN hB (k + 1) (x / 2) l = if x % 2 = 0 then hN (tr idx hN hB k x l) (tr idx hN hB k (oth x) l) else hN (tr idx hN hB k (oth x) l) (tr idx hN hB k x l) := by
  rw [tr_step]
  unfold oth
  by_cases h : x % 2 = 0
  · rw [if_pos h, if_pos h, show 2 * (x / 2) = x by omega]
  · rw [if_neg h, if_neg h, show 2 * (x / 2) + 1 = x by omega, show 2 * (x / 2) = x - 1 by omega]
/-- a hash folded up over sides, from below; b tells the bit of each step -/
def fold (hN : β → β → β) (b : Nat → Bool) : Nat → β → List β → β
  | _, h, [] => h
  | i, h, s :: t => fold hN b (i + 1) (if b i then hN s h else hN h s) t
/-- the sides of index x from height k on, n of them -/
def sides (idx : α → Nat) (hN : β → β → β) (hB : List α → β) (x : Nat) (l : List α) : Nat → Nat → List β
  | _, 0 => []
  | k, n + 1 => tr idx hN hB k (oth (x / 2 ^ k)) l :: sides idx hN hB x l (k + 1) n
theorem sides_len (x : Nat) (l : List α) : ∀ (n k : Nat), (sides idx hN hB x l k n).length = n
  | 0, k => rfl
  | n + 1, k => by unfold sides; rw [List.length_cons, sides_len x l n (k + 1)]
theorem sides_at (x : Nat) (l : List α) : ∀ (n k i : Nat) (h : i < (sides idx hN hB x l k n).length), (sides idx hN hB x l k n)[i] = tr idx hN hB (k + i) (oth (x / 2 ^ (k + i))) l
  | 0, k, i, h => absurd h (by simp [sides])
  | n + 1, k, 0, h => rfl
  | n + 1, k, i + 1, h => by
    have h' : i < (sides idx hN hB x l (k + 1) n).length := by rw [sides_len] at h ⊢; omega
    have := sides_at x l n (k + 1) i h'
    rw [show k + 1 + i = k + (i + 1) by omega] at this
    exact this
/-- **a place's hash folds up**: from height k, over n sides -/
theorem fold_up (b : Nat → Bool) (x : Nat) (hb : ∀ i, b i = decide (x / 2 ^ i % 2 = 1)) (l : List α) : ∀ (n k : Nat), fold hN b k (tr idx hN hB k (x / 2 ^ k) l) (sides idx hN hB x l k n) = tr idx hN hB (k + n) (x / 2 ^ (k + n)) l
  | 0, k => rfl
  | n + 1, k => by
    unfold sides fold
    have e : (if b k then hN (tr idx hN hB k (oth (x / 2 ^ k)) l) (tr idx hN hB k (x / 2 ^ k) l) else hN (tr idx hN hB k (x / 2 ^ k) l) (tr idx hN hB k (oth (x / 2 ^ k)) l)) = tr idx hN hB (k + 1) (x / 2 ^ (k + 1)) l := by
      rw [Nat.pow_succ, ← Nat.div_div_eq_div_mul, tr_up, hb]
      by_cases h : x / 2 ^ k % 2 = 0
      · rw [if_pos h, decide_eq_false (by omega)]; rfl
      · rw [if_neg h, decide_eq_true (by omega)]; rfl
    rw [e, fold_up b x hb l n (k + 1), show k + 1 + n = k + (n + 1) by omega]
end

end Go.Proofs.YtfiapodjiifmaaaGreatDoor.TR
/-
  Places where nothing is: the chain of empty nodes, and the specification's row of their hashes.
-/
namespace Go.Proofs.YtfiapodjiifmaaaGreatDoor
open Go.RowKit Go.BigFrame
set_option linter.unusedVariables false
set_option linter.unusedSimpArgs false

/-- the hash of a place of two -/
def hnB (x : Int) (a b : ByteArray) : ByteArray := hashB 3 [a, b] x
/-- the hash of nothing, k levels above the buckets -/
def empB (x : Int) (k : Nat) : ByteArray := TR.emp (hnB x) (hashB 1 [] x) k
theorem empB_zero (x : Int) : empB x 0 = hashB 1 [] x := rfl
theorem empB_up (x : Int) (k : Nat) : empB x (k + 1) = hashB 3 [empB x k, empB x k] x := rfl

/-- v points to an empty node of this height, those below it behind it -/
def EmN (x : Int) (w : World) : Nat → Value → Prop
  | 0, v => ∃ g, v = .pointer (some ⟨g, 0, none⟩) ∧ w.cell? ⟨g, 0, none⟩ = some (.pointer none) ∧ w.cell? ⟨g, 1, none⟩ = some (.string (empB x 0))
  | k + 1, v => ∃ g b, v = .pointer (some ⟨g, 0, none⟩) ∧ w.cell? ⟨g, 0, none⟩ = some b ∧ w.cell? ⟨g, 1, none⟩ = some (.string (empB x (k + 1))) ∧ EmN x w k b
theorem cell_later {w w' : World} {p : Addr} {v : Value} (h : w.cell? p = some v) (hb : Below w.heap.size w w') : w'.cell? p = some v := by
  have hp : p.block < w.heap.size := by
    rcases Nat.lt_or_ge p.block w.heap.size with hz | hz
    · exact hz
    · simp [World.cell?, Array.getElem?_eq_none hz] at h
  exact (hb.cell hp).trans h
theorem EmN.later {x : Int} {w w' : World} (hb : Below w.heap.size w w') : ∀ {k : Nat} {v : Value}, EmN x w k v → EmN x w' k v
  | 0, v, ⟨g, h1, h2, h3⟩ => ⟨g, h1, cell_later h2 hb, cell_later h3 hb⟩
  | k + 1, v, ⟨g, b, h1, h2, h3, h4⟩ => ⟨g, b, h1, cell_later h2 hb, cell_later h3 hb, EmN.later hb h4⟩
/-- its hash stands there -/
theorem EmN.made {x : Int} {w : World} : ∀ {k : Nat} {v : Value}, EmN x w k v → ∃ g, v = .pointer (some ⟨g, 0, none⟩) ∧ w.cell? ⟨g, 1, none⟩ = some (.string (empB x k))
  | 0, v, ⟨g, h1, _, h3⟩ => ⟨g, h1, h3⟩
  | k + 1, v, ⟨g, b, h1, _, h3, _⟩ => ⟨g, h1, h3⟩

theorem taggedHash_none (x : Int) (w : World) (hT : Tb w) :
    Calls Tryz.prog 98 #[.int .i64 x, .int .i64 1, .slice none 0 0] w fun e w' => e = .returned (.string (hashB 1 [] x)) ∧ Below w.heap.size w w' :=
  taggedHash_any x 1 _ 0 0 [] w ⟨none, 0, rfl, by simp, fun h => absurd h (by simp), fun j h => absurd h (by simp)⟩ hT.1 hT.2

set_option maxRecDepth 100000 in
set_option maxHeartbeats 1000000 in
theorem emptyAt_any (x : Int) : ∀ (k : Nat) (l : Int) (w : World), l + (k : Int) = 8 → k ≤ 8 → Tb w →
    Calls Tryz.prog 80 #[.int .i64 l, .int .i64 x] w fun e w' => ∃ v, e = .returned v ∧ EmN x w' k v ∧ Below w.heap.size w w'
  | 0, l, w, hl, hk, hT => by
    have e : l = 8 := by omega
    subst e
    have hc := taggedHash_none x w hT
    clear hT
    rw [← empB_zero] at hc
    have HE : Hid (∀ w1, Below w.heap.size w w1 → EmN x (w1.alloc (.cells #[.pointer none, .string (empB x 0)] 116)) 0 (.pointer (some ⟨w1.heap.size, 0, none⟩)) ∧ Below w.heap.size w (w1.alloc (.cells #[.pointer none, .string (empB x 0)] 116))) := fun w1 hb => by
      refine ⟨⟨w1.heap.size, rfl, ?_, ?_⟩, hb.alloc hb.size _⟩
      · rw [World.cell?_alloc_at _ _ _ _ rfl]; rfl
      · rw [World.cell?_alloc_at _ _ _ _ rfl]; rfl
    generalize empB x 0 = E at *
    go_enter Tryz.func80, Tryz.ntmps80
    go_wp2_with fail
    refine hc.mono ?_
    rintro e w1 ⟨rfl, hb1⟩
    clear hc
    go_wp2_with fail
    go_ret
    exact ⟨_, rfl, HE.out _ hb1⟩
  | k + 1, l, w, hl, hk, hT => by
    have hc := emptyAt_any x k (l + 1) w (by omega) (by omega) hT
    have HT : Hid (Tb w) := hT
    have q : (l == 8) = false := by simp; omega
    have l0 : 0 ≤ l := by omega
    have l1 : l < 8 := by omega
    have HE : Hid (∀ w1 w2 g, Below w.heap.size w w1 → Below w1.heap.size w1 w2 → EmN x w1 k (.pointer (some ⟨g, 0, none⟩)) → EmN x (w2.alloc (.cells #[.pointer (some ⟨g, 0, none⟩), .string (empB x (k + 1))] 116)) (k + 1) (.pointer (some ⟨w2.heap.size, 0, none⟩)) ∧ Below w.heap.size w (w2.alloc (.cells #[.pointer (some ⟨g, 0, none⟩), .string (empB x (k + 1))] 116))) := fun w1 w2 g hb1 hb2 he => by
      have h2 : Below w.heap.size w w2 := hb1.trans (hb2.mono hb1.size)
      refine ⟨⟨w2.heap.size, .pointer (some ⟨g, 0, none⟩), rfl, ?_, ?_, he.later (hb2.alloc hb2.size _)⟩, h2.alloc h2.size _⟩
      · rw [World.cell?_alloc_at _ _ _ _ rfl]; rfl
      · rw [World.cell?_alloc_at _ _ _ _ rfl]; rfl
    clear hT hl hk
    go_enter Tryz.func80, Tryz.ntmps80
    go_wp2_with fail
    refine hc.mono ?_
    rintro e w1 ⟨v, rfl, he, hb1⟩
    obtain ⟨g, rfl, c1⟩ := he.made
    have HX : Hid (EmN x w1 k (.pointer (some ⟨g, 0, none⟩))) := he
    have HCT := taggedHash_wd x 3 [empB x k, empB x k] 2 #[.string (empB x k), .string (empB x k)] w1 _ rfl rfl (by omega) rfl (HT.out.later hb1)
    rw [← empB_up] at HCT
    have hg1 : g < w1.heap.size := lt_of_cell c1
    generalize empB x (k + 1) = F at *
    generalize empB x k = E at *
    clear hc he
    go_wp2_with fail
    go_region_held3 (fun W => W.cell? ⟨g, 1, none⟩ = some (.string E)) (first | go_keep | exact (hb2.cell (p := ⟨g, 1, none⟩) hg1).trans c1) ((go_at_call 98; refine HCT.out.mono ?_; rintro e w2 ⟨rfl, hb2⟩))
    go_wp2_with fail
    go_ret
    exact ⟨_, rfl, HE.out w1 w2 g hb1 hb2 HX.out⟩

end Go.Proofs.YtfiapodjiifmaaaGreatDoor
/-
  Leaves with their indexes, as the specification keeps them.
-/
namespace Go.Proofs.YtfiapodjiifmaaaGreatDoor
open Go.RowKit Go.BigFrame Go.Sort
set_option linter.unusedVariables false
set_option linter.unusedSimpArgs false

def scs (f : Le) : List Value := [.string f.n, .string f.v, .int .i64 (idxN f.n : Int)]
theorem scs_len (f : Le) : (scs f).length = 3 := rfl
theorem RS.spot {w : World} {v : Value} {g o : Nat} {l : List Le} (h : RS 3 scs w v g o l) (j : Nat) (hj : j < l.length) :
    w.cell? ⟨g, o + j * 3, none⟩ = some (.string l[j].n) ∧ w.cell? ⟨g, o + j * 3 + 1, none⟩ = some (.string l[j].v) ∧ w.cell? ⟨g, o + j * 3 + 2, none⟩ = some (.int .i64 (idxN l[j].n : Int)) := by
  obtain ⟨a, c, _, _, _, hc⟩ := h
  exact ⟨hc j hj 0 _ rfl, hc j hj 1 _ rfl, hc j hj 2 _ rfl⟩
theorem Tryz.infoSpot : (Tryz.prog.info? 136).map (fun i => (i.zero, i.size, i.bytes)) = some (some (.agg #[.string ByteArray.empty, .string ByteArray.empty, .int .i64 0]), 3, 40) := by kernel_rfl

/-- v owns the spots of the leaves l -/
def OP (B : Nat) (w0 w : World) (v : Value) (l : List Le) : Prop := OR 136 3 scs B w0 w v l
theorem OP.later {B : Nat} {w0 w w' : World} {v : Value} {l : List Le} (h : OP B w0 w v l) (hb : Below w.heap.size w w') : OP B w0 w' v l := OR.later h hb
theorem OP.alloc {B : Nat} {w0 w : World} {v : Value} {l : List Le} (h : OP B w0 w v l) (o : Obj) : OP B w0 (w.alloc o) v l := OR.alloc h o
theorem OP.drew {B : Nat} {w0 w : World} {v : Value} {l : List Le} (h : OP B w0 w v l) : OP B w0 w.drew v l := OR.drew h
theorem OP.rw {B : Nat} {w0 w : World} {v : Value} {l : List Le} (h : OP B w0 w v l) (hl : l.length ≤ 1100000) : ∃ g, RW 3 scs w v g l ∧ B ≤ g ∧ (∀ q, v.ownBlock = some q → q = g) := OR.rw (k := 3) (enc := scs) (fun x => scs_len x) (by omega) h hl
theorem OP.shape {B : Nat} {w0 w : World} {v : Value} {l : List Le} (h : OP B w0 w v l) : ∃ a c, v = .slice a l.length c := by
  rcases h.1.2 with ⟨hv, hn⟩ | ⟨g, cap, cur, hv, _⟩
  · exact ⟨none, 0, by rw [hv, hn]⟩
  · exact ⟨_, _, hv⟩
theorem OP.made (w : World) : OP w.heap.size w (w.alloc (.cells #[] 136)) (.slice (some ⟨w.heap.size, 0, none⟩) 0 0) [] :=
  ⟨World.ownsRow_made w #[] 0 (Nat.le_refl _) (by decide) (by simp), (Below.refl _ _).alloc (Nat.le_refl _) _, by simp⟩

section
variable {w : World} {ops : Array Oper} {o : Oper} {a : Act} {K : Act → World → Prop} {Q : Exit → Act → World → Prop}
theorem scs_one {f : Le} : ∀ u ∈ scs f, u.oneCell' = true := fun u hu => by simp [scs] at hu; rcases hu with rfl | rfl | rfl <;> rfl
/-- a spot appended, as one step of a region that draws its order -/
theorem step_spot {E : Prop} (hgd : o.guard = none) (s x : Operand)
    (ho : o.op = .call { callee := .builtin .append, args := #[s, x], argTypes := #[98, 98] })
    (B : Nat) (w0 : World) (u : Value) (l : List Le) (f : Le) (hs : a.eval s = u) (h : OP B w0 w u l) (p : Nat) (hx : a.eval x = .slice (some ⟨p, 0, none⟩) 1 1)
    (hnews : w.rangeAt p 0 (scs f)) (hlen : l.length + 1 ≤ 1000000)
    (hk : ∀ g cap w', OP B w0 w' (.slice (some ⟨g, 0, none⟩) (l.length + 1) cap) (l ++ [f]) → w.grownBy w' u.ownBlock → K (a.put o.dst (.slice (some ⟨g, 0, none⟩) (l.length + 1) cap)) w') : if Region.wanted o (yielded ops a.tmps) = true then Oper.wp Tryz.prog o a w K Q else E := by
  obtain ⟨i0, hi, hz0, hz1, hz2⟩ := info_parts Tryz.infoSpot
  refine step_append_lies w hgd s x 98 ho B 136 i0 _ 3 40 Tryz.underlying98 hi hz0 hz1 hz2 rfl (by decide) u l.length (l.flatMap scs) hs h.1 ⟨p, 0, none⟩ 1 1 (scs f) hx rfl ?_
    scs_one (by omega) (by unfold maxLen; omega) (by omega) h.2.2 w.heap.size rfl ?_
  · intro j u hj
    have := hnews j u hj
    rw [Addr.add_mid]
    exact this
  · intro g cap w' h1 h2 h3 _
    exact hk _ _ _ ⟨by rw [List.flatMap_append, List.flatMap_singleton, List.length_append]; exact h1, h.2.1.grown h2 h.2.2 (fun k hk => (h.1.lt k hk).1), Nat.le_trans h.2.2 h2.size⟩ h2
/-- .. and in a plain region -/
theorem wp_spot {rest : List Oper} (hgd : o.guard = none) (s x : Operand)
    (ho : o.op = .call { callee := .builtin .append, args := #[s, x], argTypes := #[98, 98] })
    (B : Nat) (w0 : World) (u : Value) (l : List Le) (f : Le) (hs : a.eval s = u) (h : OP B w0 w u l) (p : Nat) (hx : a.eval x = .slice (some ⟨p, 0, none⟩) 1 1)
    (hnews : w.rangeAt p 0 (scs f)) (hlen : l.length + 1 ≤ 1000000)
    (hk : ∀ g cap w', OP B w0 w' (.slice (some ⟨g, 0, none⟩) (l.length + 1) cap) (l ++ [f]) → w.grownBy w' u.ownBlock → wpList Tryz.prog ops Q rest (a.put o.dst (.slice (some ⟨g, 0, none⟩) (l.length + 1) cap)) w') : wpList Tryz.prog ops Q (o :: rest) a w := by
  obtain ⟨i0, hi, hz0, hz1, hz2⟩ := info_parts Tryz.infoSpot
  refine wpList_append_lies w hgd s x 98 ho B 136 i0 _ 3 40 Tryz.underlying98 hi hz0 hz1 hz2 rfl (by decide) u l.length (l.flatMap scs) hs h.1 ⟨p, 0, none⟩ 1 1 (scs f) hx rfl ?_
    scs_one (by omega) (by unfold maxLen; omega) (by omega) h.2.2 w.heap.size rfl ?_
  · intro j u hj
    have := hnews j u hj
    rw [Addr.add_mid]
    exact this
  · intro g cap w' h1 h2 h3 _
    exact hk _ _ _ ⟨by rw [List.flatMap_append, List.flatMap_singleton, List.length_append]; exact h1, h.2.1.grown h2 h.2.2 (fun k hk => (h.1.lt k hk).1), Nat.le_trans h.2.2 h2.size⟩ h2
end

def SpR (w : World) (L : List Le) (u i : Value) (wr : World) : Prop := ∃ m : Nat, m ≤ L.length ∧ i = .int .i64 m ∧ Hid (OP w.heap.size w wr u (L.take m))

set_option maxRecDepth 100000 in
set_option maxHeartbeats 1000000 in
theorem l10Spots_any (v : Value) (ga oa : Nat) (L : List Le) (w : World) (hv : RS 2 lcs w v ga oa L) (hsm : SmallL L) (hl24 : L.length ≤ 24) :
    Calls Tryz.prog 68 #[v] w fun e w' => ∃ u, e = .returned u ∧ OP w.heap.size w w' u L := by
  have HV : Hid (RS 2 lcs w v ga oa L ∧ SmallL L) := ⟨hv, hsm⟩
  obtain ⟨a, cap, rfl, hl, hA, _⟩ := hv
  obtain ⟨n, hn⟩ : ∃ n, L.length = n := ⟨_, rfl⟩
  have HA : Hid (0 < n → a = some ⟨ga, oa, none⟩) := by rw [← hn]; exact fun h => (hA h).1
  have HN : Hid (L.length = n) := hn
  rw [hn] at hl hl24 HV ⊢
  clear hA hsm hn
  have HST : Hid (SpR w L (.slice (some ⟨w.heap.size, 0, none⟩) 0 0) (.int .i64 0) (w.alloc (.cells #[] 136))) := ⟨0, by omega, rfl, OP.made w⟩
  go_enter Tryz.func68, Tryz.ntmps68
  go_wp2
  go_loopw [3, 4] (fun u i wr => SpR w L u i wr) (fun _ i _ => n - (intOf i).toNat)
  case atStart => exact HST.out
  case round =>
    obtain ⟨m, hm, rfl, HI⟩ := hrel
    clear HST
    rw [HN.out] at hm
    have hL : (L.take m).length = m := by rw [List.length_take, HN.out]; omega
    obtain ⟨au, cu, hu⟩ := HI.out.shape
    rw [hL] at hu
    subst hu
    by_cases hlt : m < n
    · have ea := HA.out (by omega)
      subst ea
      obtain ⟨c0, c1⟩ := (HV.out.1.later HI.out.2.1).leaf m (by rw [HN.out]; exact hlt)
      have hxs := HV.out.2 (L[m]'(by rw [HN.out]; exact hlt)) (List.getElem_mem _)
      have hst : L.take (m + 1) = L.take m ++ [L[m]'(by rw [HN.out]; exact hlt)] := List.take_succ_eq_append_getElem _
      generalize L[m]'(by rw [HN.out]; exact hlt) = X at *
      have i1 : (m : Int) < (n : Int) := by omega
      have i2 : (0 : Int) ≤ (m : Int) := by omega
      have HIX : Hid (∀ W, Calls Tryz.prog 91 #[.string X.n] W fun e w' => e = .returned (.int .i64 (idxN X.n : Int)) ∧ Below W.heap.size W w') := fun W => sIndexOf_any X.n W hxs.1
      have HNX : Hid (∀ g cap W, OP w.heap.size w W (.slice (some ⟨g, 0, none⟩) ((L.take m).length + 1) cap) (L.take m ++ [X]) → SpR w L (.slice (some ⟨g, 0, none⟩) ((L.take m).length + 1) cap) (.int .i64 ((m : Int) + 1)) W) := by
        rw [← hst]
        exact fun g cap W hW => ⟨m + 1, by rw [HN.out]; omega, by congr 1, hW⟩
      have HSC : Hid (scs X = [.string X.n, .string X.v, .int .i64 (idxN X.n : Int)]) := rfl
      have hga : ga < wr.heap.size := lt_of_cell c0
      have hgw : ga < w.heap.size := by
        obtain ⟨_, _, _, _, h3, _⟩ := HV.out.1
        exact (h3 (by rw [HN.out]; omega)).2
      have HB : Hid (Below w.heap.size w wr) := HI.out.2.1
      have HCC : Hid (∀ W, Below w.heap.size wr W → W.cell? ⟨ga, oa + m * 2, none⟩ = some (.string X.n) ∧ W.cell? ⟨ga, oa + m * 2 + 1, none⟩ = some (.string X.v)) := fun W hW => ⟨(hW.cell (p := ⟨ga, oa + m * 2, none⟩) hgw).trans c0, (hW.cell (p := ⟨ga, oa + m * 2 + 1, none⟩) hgw).trans c1⟩
      have HCD : Hid (∀ W v l, OP w.heap.size w W v l → W.cell? ⟨ga, oa + m * 2, none⟩ = some (.string X.n) ∧ W.cell? ⟨ga, oa + m * 2 + 1, none⟩ = some (.string X.v)) := fun W v l hW => by
        have h1 := hW.2.1.block ga hgw
        have h2 := HB.out.block ga hgw
        exact ⟨(cell_kept (h1.trans h2.symm)).trans c0, (cell_kept (h1.trans h2.symm)).trans c1⟩
      generalize idxN X.n = N at *
      have HLM : Hid ((L.take m).length + 1 ≤ 1000000) := by show (L.take m).length + 1 ≤ 1000000; omega
      have hws : w.heap.size ≤ wr.heap.size := HI.out.2.2
      clear hst HV HA
      clear hL
      generalize L.take m = l at *
      go_wp2
      go_region_held3 (fun W => W.cell? ⟨ga, oa + m * 2, none⟩ = some (.string X.n) ∧ W.cell? ⟨ga, oa + m * 2 + 1, none⟩ = some (.string X.v)) (first | go_keep | exact ⟨(hb1.cell (p := ⟨ga, oa + m * 2, none⟩) hga).trans c0, (hb1.cell (p := ⟨ga, oa + m * 2 + 1, none⟩) hga).trans c1⟩ | exact HCD.out _ _ _ ho5) ((first | (go_at_call 91; refine (HIX.out _).mono ?_; rintro e w1 ⟨rfl, hb1⟩) | (refine step_spot rfl _ _ rfl w.heap.size w _ l X (by rfl) (((HI.out.drew.later hb1).alloc _)) w1.heap.size (by rfl) (by rw [HSC.out]; exact range_new _ [.string X.n, .string X.v, .int .i64 (N : Int)] _) HLM.out ?_; intro g5 cap5 w5 ho5 hg5)))
      have HN2 : Hid (SpR w L (.slice (some ⟨g5, 0, none⟩) (l.length + 1) cap5) (.int .i64 ((m : Int) + 1)) w5) := HNX.out _ _ _ ho5
      clear HNX ho5 hg5 HI HCC HCD HIX HB
      go_wp2
      go_roundw
      case rel => exact HN2.out
      case measure => simp [intOf]; omega
    · have hme : m = n := by omega
      have e : L.take m = L := List.take_of_length_le (by rw [HN.out]; omega)
      rw [e] at HI
      have HF : Hid (∃ u, Ending.returned (.slice au m cu) = .returned u ∧ OP w.heap.size w wr u L) := ⟨_, rfl, HI.out⟩
      subst hme
      clear HI HV HA hL e
      go_wp2
      go_ret
      exact HF.out

/-- a leaf's index -/
def idxL (f : Le) : Nat := idxN f.n
/-- what lies under a place, m of them seen -/
theorem und_step {L : List Le} {m : Nat} (k p : Nat) (hm : m < L.length) : TR.und idxL k p (L.take (m + 1)) = if idxL L[m] / 2 ^ k = p then TR.und idxL k p (L.take m) ++ [L[m]] else TR.und idxL k p (L.take m) := by
  unfold TR.und
  rw [LV.filt_step _ hm]
  by_cases h : idxL L[m] / 2 ^ k = p
  · rw [if_pos h, if_pos (by simpa using h)]
  · rw [if_neg h, if_neg (by simpa using h)]
theorem und_len (k p : Nat) (L : List Le) : (TR.und idxL k p L).length ≤ L.length := List.length_filter_le _ _
theorem und_small {k p : Nat} {L : List Le} (h : SmallL L) : SmallL (TR.und idxL k p L) := fun f hf => h f (List.mem_filter.1 hf).1
/-- a place's hash, as the specification goes down -/
noncomputable def ndB (x : Int) (k p : Nat) (L : List Le) : ByteArray := TR.nod idxL (hnB x) (hashB 1 [] x) (bhB x) k p L

def NpR (w : World) (L : List Le) (k p : Nat) (u i : Value) (wr : World) : Prop := ∃ m : Nat, m ≤ L.length ∧ i = .int .i64 m ∧ Hid (OP w.heap.size w wr u (TR.und idxL k p (L.take m)))

end Go.Proofs.YtfiapodjiifmaaaGreatDoor
/-
  What EmptyHash answers, the program's and the specification's.
-/
namespace Go.Proofs.YtfiapodjiifmaaaGreatDoor
open Go.RowKit Go.BigFrame
set_option linter.unusedVariables false
set_option linter.unusedSimpArgs false

theorem levelOk_any (x : Int) (w : World) : Calls Tryz.prog 22 #[.int .i64 x] w fun e w' => e = .returned (.bool (decide (0 ≤ x ∧ x ≤ 8))) ∧ w' = w := by
  by_cases h1 : 0 ≤ x
  · by_cases h2 : x ≤ 8
    · go_enter Tryz.func22, Tryz.ntmps22
      go_wp2
      go_ret
      exact ⟨by simp [h1, h2], rfl⟩
    · go_enter Tryz.func22, Tryz.ntmps22
      go_wp2
      go_ret
      exact ⟨by simp [h2], rfl⟩
  · go_enter Tryz.func22, Tryz.ntmps22
    go_wp2
    go_ret
    exact ⟨by simp; omega, rfl⟩

/-- what EmptyHash is -/
def ehB (l x : Int) : ByteArray := if (0 ≤ l ∧ l ≤ 8) ∧ 1 ≤ x ∧ x ≤ 32 then empB x (8 - l.toNat) else ⟨#[]⟩

/-- the specification's row, laid from the last one on down to place m -/
def emL (x : Int) (m : Nat) : List ByteArray := (List.range 9).map fun j => if m ≤ j then empB x (8 - j) else ByteArray.empty
theorem emL_len (x : Int) (m : Nat) : (emL x m).length = 9 := by simp [emL]
theorem emL_at (x : Int) (m j : Nat) (h : j < (emL x m).length) : (emL x m)[j] = if m ≤ j then empB x (8 - j) else ByteArray.empty := by simp [emL]
theorem emL_set (x : Int) (m : Nat) (h : m < 9) : (emL x (m + 1)).set m (empB x (8 - m)) = emL x m := by
  apply List.ext_getElem
  · simp [emL]
  · intro j h1 h2
    rw [List.getElem_set, emL_at, emL_at]
    by_cases e : m = j
    · subst e; simp
    · rw [if_neg e]
      by_cases h3 : m ≤ j
      · rw [if_pos h3, if_pos (by omega)]
      · rw [if_neg h3, if_neg (by omega)]
theorem emL_none (x : Int) : emL x 9 = List.replicate 9 ByteArray.empty := by
  apply List.ext_getElem
  · simp [emL]
  · intro j h1 h2
    rw [emL_at, List.getElem_replicate, if_neg]
    rw [emL_len] at h1
    omega

theorem sTagHash_none (x : Int) (w : World) :
    Hid (Calls Tryz.prog 90 #[.int .i64 1, .slice (some ⟨w.heap.size, 0, none⟩) 0 0, .int .i64 x] (w.alloc (.cells #[] 9)) fun e w' => e = .returned (.string (hashB 1 [] x)) ∧ Below w.heap.size w w') :=
  sTagHash_w x 1 [] 0 #[] w _ rfl rfl (by omega) rfl

def ErR (x : Int) (w : World) (i : Value) (wr : World) : Prop := ∃ m : Nat, m ≤ 8 ∧ i = .int .i64 ((m : Int) - 1) ∧ TB wr w.heap.size (emL x m) ∧ Below w.heap.size w wr

set_option maxRecDepth 100000 in
set_option maxHeartbeats 1000000 in
theorem l10Empties_any (x : Int) (w : World) :
    Calls Tryz.prog 69 #[.int .i64 x] w fun e w' => ∃ g, e = .returned (.slice (some ⟨g, 0, none⟩) 9 9) ∧ w.heap.size ≤ g ∧ TB w' g (emL x 0) ∧ Below w.heap.size w w' := by
  obtain ⟨w2, hmk0, hib, hb2, hs2⟩ := TB.made 9 (by omega) w
  have hmk : (Instr.makeSlice 27 (.int .i64 9) (.int .i64 9)).run Tryz.prog w = .ok (.slice (some ⟨w.heap.size, 0, none⟩) 9 9) w2 := hmk0
  rw [← emL_none x] at hib
  have hc := sTagHash_none x w2
  rw [← empB_zero] at hc
  have hlt2 : w.heap.size < w2.heap.size := by omega
  clear hmk0 hs2
  go_enter Tryz.func69, Tryz.ntmps69
  go_wp2_with fail
  refine hc.out.mono ?_
  rintro e w3 ⟨rfl, hb3⟩
  have hib3 := hib.below hb3 hlt2
  have c0 := hib3.cell 8 (by rw [emL_len]; omega)
  have f0 := hib3.frozen 8
  have hs3 := hib3.set 8 (by rw [emL_len]; omega) (empB x 0)
  have e8 := emL_set x 8 (by omega)
  have e9 : empB x (8 - 8) = empB x 0 := rfl
  rw [e9] at e8
  rw [e8] at hs3
  have HST : Hid (ErR x w (.int .i64 7) (w3.setCell ⟨w.heap.size, 8, none⟩ (.string (empB x 0)))) := ⟨8, by omega, rfl, hs3, ((hb2.trans (hb3.mono (by omega))).setCell (p := ⟨w.heap.size, 8, none⟩) (Nat.le_refl _) _)⟩
  generalize (emL x 9)[8]'(by rw [emL_len]; omega) = Y at *
  clear hib hib3 hs3 e8 e9 hc hb2 hb3 hmk hlt2
  generalize empB x 0 = Z at *
  go_wp2
  clear c0 f0
  go_loopw [4] (fun i wr => ErR x w i wr) (fun i _ => (intOf i + 1).toNat)
  case atStart => exact HST.out
  case round =>
    obtain ⟨m, hm, rfl, hib, hbel⟩ := hrel
    clear HST
    by_cases hlt : 0 < m
    · have hlen : (emL x m).length = 9 := emL_len x m
      have c1 := hib.cell m (by omega)
      rw [emL_at, if_pos (Nat.le_refl _)] at c1
      have hlt2 : w.heap.size < wr.heap.size := hib.lt
      have HCT := sTagHash_wd x 3 [empB x (8 - m), empB x (8 - m)] 2 #[.string (empB x (8 - m)), .string (empB x (8 - m))] wr _ rfl rfl (by omega) rfl
      rw [← empB_up] at HCT
      have e1 : 8 - m + 1 = 8 - (m - 1) := by omega
      rw [e1] at HCT
      have HS : Hid (∀ w2, Below wr.heap.size wr w2 → ErR x w (.int .i64 ((m : Int) - 1 - 1)) (w2.setCell ⟨w.heap.size, m - 1, none⟩ (.string (empB x (8 - (m - 1))))) ) := fun w2 hb => by
        have h1 := (hib.below hb hlt2).set (m - 1) (by omega) (empB x (8 - (m - 1)))
        have e2 : m = m - 1 + 1 := by omega
        have e3 := emL_set x (m - 1) (by omega)
        rw [← e2] at e3
        rw [e3] at h1
        exact ⟨m - 1, by omega, by congr 1; omega, h1, ((hbel.trans (hb.mono hbel.size)).setCell (p := ⟨w.heap.size, m - 1, none⟩) (Nat.le_refl _) _)⟩
      have HC0 : Hid (∀ w2, Below wr.heap.size wr w2 → ∃ Y, w2.cell? ⟨w.heap.size, m - 1, none⟩ = some (.string Y) ∧ w2.frozen? ⟨w.heap.size, m - 1, none⟩ = false) := fun w2 hb => by
        have h1 := hib.below hb hlt2
        exact ⟨_, h1.cell (m - 1) (by omega), h1.frozen _⟩
      have i1 : (0 : Int) ≤ (m : Int) - 1 := by omega
      have i2 : (m : Int) - 1 + 1 = (m : Int) := by omega
      have t1 : ((m : Int) - 1).toNat = m - 1 := by omega
      have t2 : (m : Int).toNat = m := by omega
      have i3 : (m : Int) - 1 < 9 := by omega
      have i4 : (m : Int) < 9 := by omega
      have HSK : Hid (∀ w2, Below wr.heap.size wr w2 → (w2.setCell ⟨w.heap.size, m - 1, none⟩ (.string (empB x (8 - (m - 1))))).cell? ⟨w.heap.size, m, none⟩ = some (.string (empB x (8 - m)))) := fun w2 hb => by
        have h1 := (hib.below hb hlt2).set (m - 1) (by omega) (empB x (8 - (m - 1)))
        have h2 := h1.cell m (by rw [List.length_set]; omega)
        rw [List.getElem_set_ne (by omega), emL_at, if_pos (Nat.le_refl _)] at h2
        exact h2
      have a2 : IntKind.i64.wrap ((m : Int) - 1 + 1) = (m : Int) := by rw [i2]; exact IntWalk.i64_in _ (by omega)
      have a3 : IntKind.i64.wrap (m : Int) = (m : Int) := IntWalk.i64_in _ (by omega)
      have i5 : (0 : Int) ≤ (m : Int) := by omega
      clear i2
      generalize empB x (8 - (m - 1)) = F at *
      generalize empB x (8 - m) = E at *
      clear hib hbel hlen e1
      go_wp2
      go_region_held3 (fun W => W.cell? ⟨w.heap.size, m, none⟩ = some (.string E)) (first | go_keep | exact (hb1.cell (p := ⟨w.heap.size, m, none⟩) hlt2).trans c1 | exact HSK.out _ hb1) ((go_at_call 90; refine HCT.out.mono ?_; rintro e w1 ⟨rfl, hb1⟩; obtain ⟨Y0, c0, f0⟩ := HC0.out _ hb1))
      have HN := HS.out _ hb1
      have HNH : Hid (ErR x w (.int .i64 ((m : Int) - 1 - 1)) (w1.setCell ⟨w.heap.size, m - 1, none⟩ (.string F))) := HN
      clear HN HS HSK HC0
      go_wp2
      go_roundw
      case rel => exact HNH.out
      case measure => simp [intOf]; omega
    · have hme : m = 0 := by omega
      subst hme
      have HF : Hid (TB wr w.heap.size (emL x 0) ∧ Below w.heap.size w wr) := ⟨hib, hbel⟩
      clear hib hbel
      go_wp2
      go_ret
      exact ⟨_, rfl, Nat.le_refl _, HF.out⟩

end Go.Proofs.YtfiapodjiifmaaaGreatDoor
