/-
  Texts laid together: Eh, Nd, Nh, Pw.
-/
import Derived.Test.YtgkfelhjbeegaaaGreatDoorV27
import Derived.Test.YtgkfelhjbeegaaaGreatDoorV08
/-
  What EmptyHash answers, the program's and the specification's.
-/
namespace Go.Proofs.YtgkfelhjbeegaaaGreatDoor
open Go.RowKit Go.BigFrame
set_option linter.unusedVariables false
set_option linter.unusedSimpArgs false

theorem levelOk_any (x : Int) (w : World) : Calls Tryz.prog 108 #[.int .i64 x] w fun e w' => e = .returned (.bool (decide (0 ≤ x ∧ x ≤ 8))) ∧ w' = w := by
  by_cases h1 : 0 ≤ x
  · by_cases h2 : x ≤ 8
    · go_enter Tryz.func108, Tryz.ntmps108
      go_wp2
      go_ret
      exact ⟨by simp [h1, h2], rfl⟩
    · go_enter Tryz.func108, Tryz.ntmps108
      go_wp2
      go_ret
      exact ⟨by simp [h2], rfl⟩
  · go_enter Tryz.func108, Tryz.ntmps108
    go_wp2
    go_ret
    exact ⟨by simp; omega, rfl⟩

/-- what EmptyHash is -/
def ehB (l x : Int) : ByteArray := if (0 ≤ l ∧ l ≤ 8) ∧ 1 ≤ x ∧ x ≤ 32 then empB x (8 - l.toNat) else ⟨#[]⟩

/-- the specification's row, laid from the last one on down to place m -/
def emL (x : Int) (m : Nat) : List ByteArray := (List.range 9).map fun j => if m ≤ j then empB x (8 - j) else ByteArray.empty
theorem emL_len (x : Int) (m : Nat) : (emL x m).length = 9 := by simp [emL]
theorem emL_at (x : Int) (m j : Nat) (h : j < (emL x m).length) : (emL x m)[j] = if m ≤ j then empB x (8 - j) else ByteArray.empty := by simp [emL]
theorem emL_set (x : Int) (m : Nat) (h : m < 9) : (emL x (m + 1)).set m (empB x (8 - m)) = emL x m := by
  apply List.ext_getElem
  · simp [emL]
  · intro j h1 h2
    rw [List.getElem_set, emL_at, emL_at]
    by_cases e : m = j
    · subst e; simp
    · rw [if_neg e]
      by_cases h3 : m ≤ j
      · rw [if_pos h3, if_pos (by omega)]
      · rw [if_neg h3, if_neg (by omega)]
theorem emL_none (x : Int) : emL x 9 = List.replicate 9 ByteArray.empty := by
  apply List.ext_getElem
  · simp [emL]
  · intro j h1 h2
    rw [emL_at, List.getElem_replicate, if_neg]
    rw [emL_len] at h1
    omega

theorem sTagHash_none (x : Int) (w : World) :
    Hid (Calls Tryz.prog 46 #[.int .i64 1, .slice (some ⟨w.heap.size, 0, none⟩) 0 0, .int .i64 x] (w.alloc (.cells #[] 9)) fun e w' => e = .returned (.string (hashB 1 [] x)) ∧ Below w.heap.size w w') :=
  sTagHash_w x 1 [] 0 #[] w _ rfl rfl (by omega) rfl

def ErR (x : Int) (w : World) (i : Value) (wr : World) : Prop := ∃ m : Nat, m ≤ 8 ∧ i = .int .i64 ((m : Int) - 1) ∧ TB wr w.heap.size (emL x m) ∧ Below w.heap.size w wr

end Go.Proofs.YtgkfelhjbeegaaaGreatDoor
/-
  A place's hash, as the specification goes down.
-/
namespace Go.Proofs.YtgkfelhjbeegaaaGreatDoor
open Go.RowKit Go.BigFrame Go.Sort
set_option linter.unusedVariables false
set_option linter.unusedSimpArgs false

theorem ndB_none {x : Int} {k p : Nat} {L : List Le} (h : TR.und idxL k p L = []) : ndB x k p L = empB x k := by
  unfold ndB
  cases k with
  | zero => unfold TR.nod; rw [h]; rfl
  | succ k => unfold TR.nod; rw [h]; rfl
theorem ndB_bucket {x : Int} {p : Nat} {L : List Le} (h : 0 < (TR.und idxL 0 p L).length) : ndB x 0 p L = bhB x (TR.und idxL 0 p L) := by
  unfold ndB TR.nod
  cases hu : TR.und idxL 0 p L with
  | nil => rw [hu] at h; simp at h
  | cons a t => rfl
theorem ndB_fork {x : Int} {k p : Nat} {L : List Le} (h : 0 < (TR.und idxL (k + 1) p L).length) : ndB x (k + 1) p L = hashB 3 [ndB x k (2 * p) (TR.und idxL (k + 1) p L), ndB x k (2 * p + 1) (TR.und idxL (k + 1) p L)] x := by
  unfold ndB
  rw [TR.nod]
  cases hu : TR.und idxL (k + 1) p L with
  | nil => rw [hu] at h; simp at h
  | cons a t => rfl
theorem idx_div (N k p : Nat) (l : Int) (hl : l + (k : Int) = 8) : ((N : Int) / 2 ^ (8 - l).toNat == (p : Int)) = decide (N / 2 ^ k = p) := by
  have e : (8 - l).toNat = k := by omega
  rw [e]
  have e2 : (N : Int) / 2 ^ k = ((N / 2 ^ k : Nat) : Int) := by simp
  rw [e2, Bool.eq_iff_iff, beq_iff_eq, decide_eq_true_iff]
  generalize N / 2 ^ k = q
  omega

def NdBR (w : World) (U : List Le) (u i : Value) (wr : World) : Prop := ∃ m : Nat, m ≤ U.length ∧ i = .int .i64 m ∧ Hid (OL w.heap.size w wr u (U.take m))

end Go.Proofs.YtgkfelhjbeegaaaGreatDoor
/-
  What NodeHash, RootOf and SidesOf answer: the specification's.
-/
namespace Go.Proofs.YtgkfelhjbeegaaaGreatDoor
open Go.RowKit Go.BigFrame Go.Sort
set_option linter.unusedVariables false
set_option linter.unusedSimpArgs false

/-- a place's hash, as the two below it have it -/
noncomputable def trB (x : Int) (k p : Nat) (L : List Le) : ByteArray := TR.tr idxL (hnB x) (bhB x) k p L
theorem leaves_none : LV.leavesB [] = true := LV.leavesB_iff.2 ⟨by simp, fun f hf => by simp at hf, List.Pairwise.nil⟩
theorem bhB_none (x : Int) : bhB x [] = hashB 1 [] x := by
  rw [bhB_yes leaves_none]
  unfold hashB
  rw [none_ok]
  rfl
theorem nd_tr (x : Int) (k p : Nat) (L : List Le) : ndB x k p L = trB x k p L := TR.nod_tr (bhB_none x) k p L
theorem tr_emp {x : Int} {k p : Nat} {L : List Le} (h : TR.und idxL k p L = []) : trB x k p L = empB x k := TR.tr_none (bhB_none x) k p L h
/-- what NodeHash is -/
noncomputable def nhB (L : List Le) (l p x : Int) : ByteArray := if LV.leavesB L = true ∧ (0 ≤ l ∧ l ≤ 8) ∧ (0 ≤ p ∧ p < 2 ^ l.toNat) ∧ 1 ≤ x ∧ x ≤ 32 then trB x (8 - l.toNat) p.toNat L else ⟨#[]⟩

theorem pow_le8 {l : Int} (h : l ≤ 8) : (2 : Int) ^ l.toNat ≤ 256 := by
  have h1 : (2 : Nat) ^ l.toNat ≤ 2 ^ 8 := Nat.pow_le_pow_right (by omega) (by omega)
  have h2 : ((2 ^ l.toNat : Nat) : Int) = (2 : Int) ^ l.toNat := by simp
  omega

namespace TR
variable {α : Type} {β : Type} {idx : α → Nat} {hN : β → β → β} {hB : List α → β}
theorem sides_snoc (x : Nat) (l : List α) : ∀ (n k : Nat), sides idx hN hB x l k (n + 1) = sides idx hN hB x l k n ++ [tr idx hN hB (k + n) (oth (x / 2 ^ (k + n))) l]
  | 0, k => rfl
  | n + 1, k => by
    have h := sides_snoc x l n (k + 1)
    rw [show k + 1 + n = k + (n + 1) by omega] at h
    show tr idx hN hB k (oth (x / 2 ^ k)) l :: sides idx hN hB x l (k + 1) (n + 1) = _
    rw [h]
    rfl
end TR
/-- the sides of index x, n of them from below -/
noncomputable def sdL (x : Int) (ix : Nat) (L : List Le) (n : Nat) : List ByteArray := TR.sides idxL (hnB x) (bhB x) ix L 0 n
theorem sdL_len (x : Int) (ix : Nat) (L : List Le) (n : Nat) : (sdL x ix L n).length = n := TR.sides_len ix L n 0
theorem sdL_up (x : Int) (ix : Nat) (L : List Le) (n : Nat) : sdL x ix L (n + 1) = sdL x ix L n ++ [trB x n (TR.oth (ix / 2 ^ n)) L] := by
  unfold sdL trB
  rw [TR.sides_snoc, Nat.zero_add]
theorem xor_b (q : Nat) (h : q ≤ 255) : bits BinOp.xor IntKind.i64 (q : Int) 1 = ((TR.oth q : Nat) : Int) := by
  rw [← TR.oth_xor q (by omega)]
  have : ∀ q : Fin 256, bits BinOp.xor IntKind.i64 ((q.val : Nat) : Int) 1 = ((q.val ^^^ 1 : Nat) : Int) := by decide +kernel
  exact this ⟨q, by omega⟩
theorem oth_le (q : Nat) : TR.oth q ≤ q + 1 := by unfold TR.oth; split <;> omega

section
variable {w : World} {ops : Array Oper} {o : Oper} {a : Act} {K : Act → World → Prop} {Q : Exit → Act → World → Prop}
theorem one_txt {w : World} {p : Nat} {t : ByteArray} (h : w.cell? ⟨p, 0, none⟩ = some (.string t)) : ∀ j u, [Value.string t][j]? = some u → w.cell? ((⟨p, 0, none⟩ : Addr).add j) = some u := by
  intro j u hj
  match j, hj with
  | 0, hj =>
    simp at hj
    subst hj
    rw [Addr.add_mid]
    exact h
/-- a text appended, and where the row lies then: as one step of a region that draws its order -/
theorem step_txtL {E : Prop} (hgd : o.guard = none) (s x : Operand)
    (ho : o.op = .call { callee := .builtin .append, args := #[s, x], argTypes := #[22, 22] })
    (B : Nat) (w0 : World) (u : Value) (l : List ByteArray) (t : ByteArray) (hs : a.eval s = u) (h : OS B w0 w u l) (p : Nat) (hx : a.eval x = .slice (some ⟨p, 0, none⟩) 1 1)
    (hnews : w.cell? ⟨p, 0, none⟩ = some (.string t)) (hlen : l.length + 1 ≤ 1000000)
    (hk : ∀ g cap w', OS B w0 w' (.slice (some ⟨g, 0, none⟩) (l.length + 1) cap) (l ++ [t]) → w.grownBy w' u.ownBlock → (u.ownBlock = some g ∨ g = w.heap.size) → K (a.put o.dst (.slice (some ⟨g, 0, none⟩) (l.length + 1) cap)) w') : if Region.wanted o (yielded ops a.tmps) = true then Oper.wp Tryz.prog o a w K Q else E := by
  obtain ⟨i0, hi, hz0, hz1, hz2⟩ := info_parts Tryz.info9
  refine step_append_lies w hgd s x 22 ho B 9 i0 (.string ByteArray.empty) 1 16 Tryz.underlying22 hi hz0 hz1 hz2 rfl (by decide) u l.length (svs l) hs h.1 ⟨p, 0, none⟩ 1 1 [.string t] hx rfl (one_txt hnews)
    (fun u hu => by simp at hu; subst hu; rfl) (by omega) (by unfold maxLen; omega) (by omega) h.2.2 w.heap.size rfl ?_
  intro g cap w' h1 h2 h3 _
  exact hk _ _ _ ⟨by rw [List.length_append, svs_append]; exact h1, h.2.1.grown h2 h.2.2 (fun k hk => (h.1.lt k hk).1), Nat.le_trans h.2.2 h2.size⟩ h2 h3
/-- .. and in a plain region -/
theorem wp_txtL {rest : List Oper} (hgd : o.guard = none) (s x : Operand)
    (ho : o.op = .call { callee := .builtin .append, args := #[s, x], argTypes := #[22, 22] })
    (B : Nat) (w0 : World) (u : Value) (l : List ByteArray) (t : ByteArray) (hs : a.eval s = u) (h : OS B w0 w u l) (p : Nat) (hx : a.eval x = .slice (some ⟨p, 0, none⟩) 1 1)
    (hnews : w.cell? ⟨p, 0, none⟩ = some (.string t)) (hlen : l.length + 1 ≤ 1000000)
    (hk : ∀ g cap w', OS B w0 w' (.slice (some ⟨g, 0, none⟩) (l.length + 1) cap) (l ++ [t]) → w.grownBy w' u.ownBlock → (u.ownBlock = some g ∨ g = w.heap.size) → wpList Tryz.prog ops Q rest (a.put o.dst (.slice (some ⟨g, 0, none⟩) (l.length + 1) cap)) w') : wpList Tryz.prog ops Q (o :: rest) a w := by
  obtain ⟨i0, hi, hz0, hz1, hz2⟩ := info_parts Tryz.info9
  refine wpList_append_lies w hgd s x 22 ho B 9 i0 (.string ByteArray.empty) 1 16 Tryz.underlying22 hi hz0 hz1 hz2 rfl (by decide) u l.length (svs l) hs h.1 ⟨p, 0, none⟩ 1 1 [.string t] hx rfl (one_txt hnews)
    (fun u hu => by simp at hu; subst hu; rfl) (by omega) (by unfold maxLen; omega) (by omega) h.2.2 w.heap.size rfl ?_
  intro g cap w' h1 h2 h3 _
  exact hk _ _ _ ⟨by rw [List.length_append, svs_append]; exact h1, h.2.1.grown h2 h.2.2 (fun k hk => (h.1.lt k hk).1), Nat.le_trans h.2.2 h2.size⟩ h2 h3
end
theorem SS.grown {w w' : World} {v : Value} {g o : Nat} {l : List ByteArray} {row : Option Nat} (h : SS w v g o l) (hg : w.grownBy w' row) (hne : 0 < l.length → some g ≠ row) : SS w' v g o l := by
  have hlt := h.lt
  obtain ⟨a, cap, h1, h2, h3, h4⟩ := h
  exact ⟨a, cap, h1, h2, h3, fun j hj => (cell_kept (hg.block g (hlt (by omega)) (hne (by omega)))).trans (h4 j hj)⟩

/-- the row of sides that grows, beside the specification's spots and empties -/
def SdI (x : Int) (L : List Le) (w wr : World) (vs ve : Value) (gu ge : Nat) (u : Value) (l : List ByteArray) : Prop :=
  OS w.heap.size w wr u l ∧ RS 3 scs wr vs gu 0 L ∧ SS wr ve ge 0 (emL x 0) ∧ (0 < L.length → u.ownBlock ≠ some gu) ∧ u.ownBlock ≠ some ge
theorem SdI.later {x : Int} {L : List Le} {w wr wr' : World} {vs ve : Value} {gu ge : Nat} {u : Value} {l : List ByteArray} (h : SdI x L w wr vs ve gu ge u l) (hb : Below wr.heap.size wr wr') : SdI x L w wr' vs ve gu ge u l :=
  ⟨h.1.later hb, h.2.1.later hb, h.2.2.1.below hb h.2.2.1.lt, h.2.2.2⟩
theorem SdI.drew {x : Int} {L : List Le} {w wr : World} {vs ve : Value} {gu ge : Nat} {u : Value} {l : List ByteArray} (h : SdI x L w wr vs ve gu ge u l) : SdI x L w wr.drew vs ve gu ge u l := ⟨h.1.drew, h.2.1, h.2.2.1, h.2.2.2⟩
theorem SdI.app {x : Int} {L : List Le} {w wr wr' : World} {vs ve : Value} {gu ge g cap n : Nat} {u : Value} {l l' : List ByteArray} (h : SdI x L w wr vs ve gu ge u l) (h1 : OS w.heap.size w wr' (.slice (some ⟨g, 0, none⟩) n cap) l') (hg : wr.grownBy wr' u.ownBlock) (hl : u.ownBlock = some g ∨ g = wr.heap.size) : SdI x L w wr' vs ve gu ge (.slice (some ⟨g, 0, none⟩) n cap) l' := by
  obtain ⟨a1, a2, a3, a4, a5⟩ := h
  have e9 : 0 < (emL x 0).length := by rw [emL_len]; omega
  have hge := a3.lt e9
  refine ⟨h1, a2.grown hg (fun h0 e => a4 h0 e.symm), a3.grown hg (fun _ e => a5 e.symm), fun h0 e => ?_, fun e => ?_⟩
  · have eg : g = gu := by simpa [Value.ownBlock] using e
    have hgu : gu < wr.heap.size := by
      obtain ⟨_, _, _, _, h3, _⟩ := a2
      exact (h3 h0).2
    rcases hl with hl | hl
    · exact a4 h0 (by rw [hl, eg])
    · omega
  · have eg : g = ge := by simpa [Value.ownBlock] using e
    rcases hl with hl | hl
    · exact a5 (by rw [hl, eg])
    · omega

def SdTR (N : Nat) (x : Int) (ix : Nat) (L : List Le) (w : World) (vs ve : Value) (gu ge : Nat) (u i : Value) (wr : World) : Prop := ∃ j : Nat, j ≤ N ∧ i = .int .i64 (8 - (j : Int)) ∧ Hid (SdI x L w wr vs ve gu ge u (sdL x ix L j))

/-- what SidesOf is -/
noncomputable def sdA (L : List Le) (ix l x : Int) : List ByteArray := if LV.leavesB L = true ∧ (0 ≤ ix ∧ ix ≤ 255) ∧ (0 ≤ l ∧ l ≤ 8) ∧ 1 ≤ x ∧ x ≤ 32 then sdL x ix.toNat L (8 - l.toNat) else []

end Go.Proofs.YtgkfelhjbeegaaaGreatDoor
/-
  Proofs: when they are right: the specification's answer.
-/
namespace Go.Proofs.YtgkfelhjbeegaaaGreatDoor
open Go.RowKit Go.BigFrame Go.Sort
set_option linter.unusedVariables false
set_option linter.unusedSimpArgs false

/-- is it a proof? -/
noncomputable def pfOk (nm : ByteArray) (B : List Le) (S : List ByteArray) (x : Int) : Bool := okB nameB nm && LV.leavesB B && decide (S.length ≤ 8) && wideB S x && B.all (fun f => decide (idxN f.n = idxN nm))
theorem pfOk_yes {nm : ByteArray} {B : List Le} {S : List ByteArray} {x : Int} (h1 : okB nameB nm = true) (h2 : LV.leavesB B = true) (h3 : S.length ≤ 8) (h4 : wideB S x = true) : pfOk nm B S x = B.all (fun f => decide (idxN f.n = idxN nm)) := by
  unfold pfOk
  rw [h1, h2, h4, decide_eq_true h3]
  rfl

def PkR (w : World) (B : List Le) (N : Nat) (i : Value) (wr : World) : Prop := ∃ m : Nat, m ≤ B.length ∧ i = .int .i64 m ∧ Hid (Below w.heap.size w wr ∧ ∀ j (h : j < B.length), j < m → idxN B[j].n = N)

set_option maxRecDepth 100000 in
set_option maxHeartbeats 1000000 in
theorem sProofOk_any (nm : ByteArray) (vb vs : Value) (gb ob gs os : Nat) (B : List Le) (S : List ByteArray) (x : Int) (w : World) (hnm : nm.size ≤ 1048576) (hb : RS 2 lcs w vb gb ob B) (hsm : SmallL B) (hs : SS w vs gs os S) :
    Calls Tryz.prog 39 #[.string nm, .agg #[vb, vs], .int .i64 x] w fun e w' => e = .returned (.bool (pfOk nm B S x)) ∧ Below w.heap.size w w' := by
  obtain ⟨R, hR⟩ : ∃ R, pfOk nm B S x = R := ⟨_, rfl⟩
  have HR : Hid (pfOk nm B S x = R) := hR
  rw [hR]
  clear hR
  obtain ⟨p0, p1⟩ := run_rangeP (w := w) (p := 0) (v1 := vb) (v2 := vs) 45
  have hba : Below w.heap.size w (w.alloc (.cells #[vb, vs] 45)) := (Below.refl _ _).alloc (Nat.le_refl _) _
  have HBS : Hid (∀ W, Below w.heap.size w W → RS 2 lcs W vb gb ob B ∧ SS W vs gs os S) := fun W hW => ⟨hb.later hW, hs.below hW hs.lt⟩
  obtain ⟨ab, cb, rfl, hlb, hAb, hxb⟩ := hb
  obtain ⟨aS, cS, rfl, hls, hAs, hxs⟩ := hs
  clear hxb hxs
  have HAB : Hid (0 < B.length → ab = some ⟨gb, ob, none⟩) := fun h => (hAb h).1
  clear hAb hAs
  have hnk := sNameOk_any nm (w.alloc (.cells #[.slice ab B.length cb, .slice aS S.length cS] 45)) hnm
  cases h1 : okB nameB nm with
  | false =>
    have hRf : pfOk nm B S x = false := by unfold pfOk; rw [h1]; rfl
    rw [HR.out] at hRf
    subst hRf
    rw [h1] at hnk
    clear HR HBS HAB hsm
    go_enter Tryz.func39, Tryz.ntmps39
    go_wp2_with fail
    refine hnk.mono ?_
    rintro e w1 ⟨rfl, rfl⟩
    go_wp2
    go_ret
    exact ⟨rfl, hba⟩
  | true =>
    rw [h1] at hnk
    have hlo := sLeavesOk_any _ gb ob B _ (HBS.out _ hba).1 hsm
    cases h2 : LV.leavesB B with
    | false =>
      have hRf : pfOk nm B S x = false := by unfold pfOk; rw [h2]; simp
      rw [HR.out] at hRf
      subst hRf
      rw [h2] at hlo
      clear HR HBS HAB hsm
      go_enter Tryz.func39, Tryz.ntmps39
      go_wp2_with fail
      refine hnk.mono ?_
      rintro e w1 ⟨rfl, hw1⟩
      subst hw1
      go_wp2_with fail
      refine hlo.mono ?_
      rintro e w2 ⟨rfl, hb2⟩
      go_wp2
      go_ret
      exact ⟨rfl, hba.trans (hb2.mono hba.size)⟩
    | true =>
      rw [h2] at hlo
      have hB24 := (LV.leavesB_iff.1 h2).1
      have HPP : Hid (∀ W, Below (w.alloc (.cells #[.slice ab B.length cb, .slice aS S.length cS] 45)).heap.size (w.alloc (.cells #[.slice ab B.length cb, .slice aS S.length cS] 45)) W → W.cell? ⟨w.heap.size, 0, none⟩ = some (.slice ab B.length cb) ∧ W.cell? ⟨w.heap.size, 1, none⟩ = some (.slice aS S.length cS) ∧ Below w.heap.size w W) := fun W hW => ⟨cell_later p0 hW, cell_later p1 hW, hba.trans (hW.mono hba.size)⟩
      by_cases h3 : S.length ≤ 8
      · cases h4 : wideB S x with
        | false =>
          have hRf : pfOk nm B S x = false := by unfold pfOk; rw [h4]; simp
          rw [HR.out] at hRf
          subst hRf
          have q3 : ¬ ((8 : Int) < (S.length : Int)) := by omega
          have HW4 : Hid (∀ W, Below w.heap.size w W → Calls Tryz.prog 40 #[.slice aS S.length cS, .int .i64 x] W fun e w' => e = .returned (.bool false) ∧ w' = W) := fun W hW => by
            have h := l11Wide_any _ gs os S x W (HBS.out W hW).2
            rw [h4] at h
            exact h
          clear HR HBS HAB hsm h4
          generalize S.length = nS at *
          go_enter Tryz.func39, Tryz.ntmps39
          go_wp2_with fail
          refine hnk.mono ?_
          rintro e w1 ⟨rfl, hw1⟩
          subst hw1
          go_wp2_with fail
          refine hlo.mono ?_
          rintro e w2 ⟨rfl, hb2⟩
          obtain ⟨k0, k1, b2⟩ := HPP.out _ hb2
          clear p0 p1 hnk hlo
          go_wp2_with fail
          refine (HW4.out _ b2).mono ?_
          rintro e w3 ⟨rfl, hw3⟩
          subst hw3
          go_wp2
          go_ret
          exact ⟨rfl, b2⟩
        | true =>
          have hall := pfOk_yes h1 h2 h3 h4
          rw [HR.out] at hall
          have HALL : Hid (R = B.all (fun f => decide (idxN f.n = idxN nm))) := hall
          have q3 : ¬ ((8 : Int) < (S.length : Int)) := by omega
          have HW4 : Hid (∀ W, Below w.heap.size w W → Calls Tryz.prog 40 #[.slice aS S.length cS, .int .i64 x] W fun e w' => e = .returned (.bool true) ∧ w' = W) := fun W hW => by
            have h := l11Wide_any _ gs os S x W (HBS.out W hW).2
            rw [h4] at h
            exact h
          have HIX : Hid (∀ (t : ByteArray) W, t.size ≤ 1048576 → Calls Tryz.prog 20 #[.string t] W fun e w' => e = .returned (.int .i64 (idxN t : Int)) ∧ Below W.heap.size W w') := fun t W ht => sIndexOf_any t W ht
          have HSM : Hid (SmallL B) := hsm
          obtain ⟨nB, hnB⟩ : ∃ nB, B.length = nB := ⟨_, rfl⟩
          have HNB : Hid (B.length = nB) := hnB
          rw [hnB] at HAB HBS hnk hlo HPP p0 p1 hba hB24 ⊢
          clear HR hsm h4 hall hnB
          generalize S.length = nS at *
          go_enter Tryz.func39, Tryz.ntmps39
          go_wp2_with fail
          refine hnk.mono ?_
          rintro e w1 ⟨rfl, hw1⟩
          subst hw1
          go_wp2_with fail
          refine hlo.mono ?_
          rintro e w2 ⟨rfl, hb2⟩
          obtain ⟨k0, k1, b2⟩ := HPP.out _ hb2
          clear p0 p1 hnk hlo
          go_wp2_with fail
          refine (HW4.out _ b2).mono ?_
          rintro e w3 ⟨rfl, hw3⟩
          subst hw3
          go_wp2_with fail
          refine (HIX.out nm _ hnm).mono ?_
          rintro e w4 ⟨rfl, hb4⟩
          have hqd : decide ((8 : Int) < (nS : Int)) = false := decide_eq_false (by omega)
          obtain ⟨N, hN⟩ : ∃ N, idxN nm = N := ⟨_, rfl⟩
          rw [hN] at HALL ⊢
          have HST : Hid (PkR w3 B N (.int .i64 0) w4) := ⟨0, by omega, rfl, hb4, fun j _ h => by omega⟩
          have HK0 : Hid (∀ W, Below w3.heap.size w3 W → W.cell? ⟨w.heap.size, 0, none⟩ = some (.slice ab nB cb) ∧ Below w.heap.size w W) := fun W hW => ⟨cell_later k0 hW, b2.trans (hW.mono b2.size)⟩
          clear hb4 k0 k1 HPP HW4 hN hb2 hba
          simp only [hqd]
          go_wp2
          go_loopw [8] (fun i wr => PkR w3 B N i wr) (fun i _ => nB - (intOf i).toNat)
          case atStart => exact HST.out
          case round =>
            obtain ⟨m, hm, rfl, HI⟩ := hrel
            clear HST
            rw [HNB.out] at hm
            obtain ⟨k0, bw⟩ := HK0.out _ HI.out.1
            by_cases hlt : m < nB
            · have ea := HAB.out (by omega)
              subst ea
              obtain ⟨c0, _⟩ := (HBS.out _ bw).1.leaf m (by rw [HNB.out]; exact hlt)
              obtain ⟨X, hX⟩ : ∃ X, B[m]'(by rw [HNB.out]; exact hlt) = X := ⟨_, rfl⟩
              rw [hX] at c0
              have hxs := HSM.out X (by rw [← hX]; exact List.getElem_mem _)
              have hix := HIX.out X.n wr hxs.1
              have HB0 : Hid (¬ (idxN X.n = N) → R = false) := fun h => by
                rw [HALL.out, List.all_eq_false]
                exact ⟨X, by rw [← hX]; exact List.getElem_mem _, by simpa using h⟩
              have HJ0 : Hid (idxN X.n = N → ∀ j (h : j < B.length), j < m + 1 → idxN B[j].n = N) := fun h j hj hjm => by
                rcases Nat.lt_or_ge j m with h1 | h1
                · exact HI.out.2 j hj h1
                · have : j = m := by omega
                  subst this
                  rw [hX]
                  exact h
              obtain ⟨M, hM⟩ : ∃ M, idxN X.n = M := ⟨_, rfl⟩
              rw [hM] at hix HB0 HJ0
              have i1 : (m : Int) < (nB : Int) := by omega
              have i2 : (0 : Int) ≤ (m : Int) := by omega
              clear hX hM HBS HIX HSM HALL
              go_wp2_with fail
              refine hix.mono ?_
              rintro e w5 ⟨rfl, hb5⟩
              by_cases hk : M = N
              · have HJ : Hid (PkR w3 B N (.int .i64 ((m + 1 : Nat) : Int)) w5) := ⟨m + 1, by rw [HNB.out]; omega, rfl, HI.out.1.trans (hb5.mono HI.out.1.size), HJ0.out hk⟩
                have q : ((M : Int) != (N : Int)) = false := by simp; omega
                clear HJ0 HB0 hk HI hix hb5
                go_wp2
                go_roundw
                case rel =>
                  obtain ⟨m', h1, h2, h3⟩ := HJ.out
                  exact ⟨m', h1, h2 ▸ by go_num, h3⟩
                case measure => simp [intOf]; omega
              · have hRf := HB0.out hk
                subst hRf
                have HF : Hid (Below w.heap.size w w5) := bw.trans (hb5.mono bw.size)
                have q : ((M : Int) != (N : Int)) = true := by simp; omega
                clear HJ0 HB0 hk HI hix hb5
                go_wp2
                go_ret
                exact ⟨rfl, HF.out⟩
            · have hme : m = nB := by omega
              have hRt : R = true := by
                rw [HALL.out, List.all_eq_true]
                intro f hf
                obtain ⟨j, hj, rfl⟩ := List.getElem_of_mem hf
                simpa using HI.out.2 j hj (by rw [HNB.out] at hj; omega)
              subst hRt
              have HF : Hid (Below w.heap.size w wr) := bw
              have i1 : ¬ (m : Int) < (nB : Int) := by omega
              clear HI HBS HIX HSM HALL HAB
              go_wp2
              go_ret
              exact ⟨rfl, HF.out⟩
      · have hRf : pfOk nm B S x = false := by unfold pfOk; rw [decide_eq_false h3]; simp
        rw [HR.out] at hRf
        subst hRf
        have q3 : (8 : Int) < (S.length : Int) := by omega
        clear HR HBS HAB hsm h3
        generalize S.length = nS at *
        go_enter Tryz.func39, Tryz.ntmps39
        go_wp2_with fail
        refine hnk.mono ?_
        rintro e w1 ⟨rfl, hw1⟩
        subst hw1
        go_wp2_with fail
        refine hlo.mono ?_
        rintro e w2 ⟨rfl, hb2⟩
        obtain ⟨k0, k1, b2⟩ := HPP.out _ hb2
        clear p0 p1 hnk hlo
        go_wp2
        go_ret
        exact ⟨rfl, b2⟩

end Go.Proofs.YtgkfelhjbeegaaaGreatDoor
