/-
  What NodeHash, RootOf and SidesOf answer: the specification's.
-/
import Derived.Test.YtmhoilliaeefcaaDoorNd
namespace Go.Proofs.YtmhoilliaeefcaaDoor
open Go.RowKit Go.BigFrame Go.Sort
set_option linter.unusedVariables false
set_option linter.unusedSimpArgs false

/-- a place's hash, as the two below it have it -/
noncomputable def trB (x : Int) (k p : Nat) (L : List Le) : ByteArray := TR.tr idxL (hnB x) (bhB x) k p L
theorem leaves_none : LV.leavesB [] = true := LV.leavesB_iff.2 ⟨by simp, fun f hf => by simp at hf, List.Pairwise.nil⟩
theorem bhB_none (x : Int) : bhB x [] = hashB 1 [] x := by
  rw [bhB_yes leaves_none]
  unfold hashB
  rw [none_ok]
  rfl
theorem nd_tr (x : Int) (k p : Nat) (L : List Le) : ndB x k p L = trB x k p L := TR.nod_tr (bhB_none x) k p L
theorem tr_emp {x : Int} {k p : Nat} {L : List Le} (h : TR.und idxL k p L = []) : trB x k p L = empB x k := TR.tr_none (bhB_none x) k p L h
/-- what NodeHash is -/
noncomputable def nhB (L : List Le) (l p x : Int) : ByteArray := if LV.leavesB L = true ∧ (0 ≤ l ∧ l ≤ 8) ∧ (0 ≤ p ∧ p < 2 ^ l.toNat) ∧ 1 ≤ x ∧ x ≤ 32 then trB x (8 - l.toNat) p.toNat L else ⟨#[]⟩

theorem pow_le8 {l : Int} (h : l ≤ 8) : (2 : Int) ^ l.toNat ≤ 256 := by
  have h1 : (2 : Nat) ^ l.toNat ≤ 2 ^ 8 := Nat.pow_le_pow_right (by omega) (by omega)
  have h2 : ((2 ^ l.toNat : Nat) : Int) = (2 : Int) ^ l.toNat := by simp
  omega

set_option maxRecDepth 100000 in
set_option maxHeartbeats 1000000 in
theorem sNodeHash_yes (v : Value) (ga oa : Nat) (L : List Le) (l p x : Int) (w : World) (hv : RS 2 lcs w v ga oa L) (hsm : SmallL L) (h1 : LV.leavesB L = true) (h2 : 0 ≤ l ∧ l ≤ 8) (h3 : 0 ≤ p ∧ p < 2 ^ l.toNat) (h4 : 1 ≤ x ∧ x ≤ 32) :
    Calls Tryd.prog 27 #[v, .int .i64 l, .int .i64 p, .int .i64 x] w fun e w' => e = .returned (.string (trB x (8 - l.toNat) p.toNat L)) ∧ Below w.heap.size w w' := by
  have hc := sLeavesOk_any v ga oa L w hv hsm
  rw [h1] at hc
  have HV : Hid (RS 2 lcs w v ga oa L ∧ SmallL L ∧ LV.LOk L) := ⟨hv, hsm, LV.leavesB_iff.1 h1⟩
  obtain ⟨a, cap, rfl, hl, _⟩ := hv
  have d1 : decide (0 ≤ l ∧ l ≤ 8) = true := by simpa using h2
  have d2 : decide (1 ≤ x ∧ x ≤ 32) = true := by simpa using h4
  have hpw := pow_le8 h2.2
  clear hsm h1
  go_enter Tryd.func27, Tryd.ntmps27
  go_wp2_with fail
  refine hc.mono ?_
  rintro e w1 ⟨rfl, hb1⟩
  clear hc
  go_wp2_with fail
  refine (l01In_any _ _ _ _).mono ?_
  rintro e w2 ⟨rfl, rfl⟩
  rw [d1]
  have dp : decide (p < 0) = false := by simp; omega
  have dq : decide (2 ^ l.toNat ≤ p) = false := by simp; omega
  go_wp2_with fail
  refine (l01In_any _ _ _ _).mono ?_
  rintro e w2 ⟨rfl, rfl⟩
  rw [d2]
  have hs := l10Spots_any _ ga oa L w2 (HV.out.1.later hb1) HV.out.2.1 HV.out.2.2.1
  go_wp2_with fail
  refine hs.mono ?_
  rintro e w3 ⟨u, rfl, ho3⟩
  have he := l10Empties_any x w3
  clear hs
  go_wp2_with fail
  refine he.mono ?_
  rintro e w4 ⟨ge, rfl, hge, htb, hb4⟩
  have hb14 : Below w.heap.size w w4 := (hb1.trans (ho3.2.1.mono hb1.size)).trans (hb4.mono (Nat.le_trans hb1.size ho3.2.2))
  obtain ⟨gu, hrw, _, _⟩ := ho3.rw (Nat.le_trans HV.out.2.2.1 (by omega))
  have hn := l10Node_any x (8 - l.toNat) (by omega) l p.toNat u gu 0 L _ ge w4 (by omega) ?hpl (hrw.1.later hb4) HV.out.2.1 HV.out.2.2.1 (htb.ss 9 9 (emL_len x 0) (by omega))
  case hpl =>
    have e8 : 8 - (8 - l.toNat) = l.toNat := by omega
    rw [e8]
    have h5 : ((2 ^ l.toNat : Nat) : Int) = (2 : Int) ^ l.toNat := by simp
    have h6 := h3.2
    generalize 2 ^ l.toNat = q at *
    omega
  have ep : ((p.toNat : Nat) : Int) = p := by omega
  rw [ep, nd_tr] at hn
  clear he ho3 hrw htb HV
  go_wp2_with fail
  refine hn.mono ?_
  rintro e w5 ⟨rfl, hb5⟩
  clear hn
  go_wp2
  go_ret
  exact ⟨rfl, hb14.trans (hb5.mono hb14.size)⟩

theorem sNodeHash_any (v : Value) (ga oa : Nat) (L : List Le) (l p x : Int) (w : World) (hv : RS 2 lcs w v ga oa L) (hsm : SmallL L) :
    Calls Tryd.prog 27 #[v, .int .i64 l, .int .i64 p, .int .i64 x] w fun e w' => e = .returned (.string (nhB L l p x)) ∧ Below w.heap.size w w' := by
  unfold nhB
  have hc := sLeavesOk_any v ga oa L w hv hsm
  cases h1 : LV.leavesB L with
  | false =>
    rw [if_neg (fun h => by simp at h)]
    rw [h1] at hc
    obtain ⟨a, cap, rfl, hl, _⟩ := hv
    clear hsm h1
    go_enter Tryd.func27, Tryd.ntmps27
    go_wp2_with fail
    refine hc.mono ?_
    rintro e w1 ⟨rfl, hb1⟩
    clear hc
    go_wp2
    go_ret
    exact ⟨rfl, hb1⟩
  | true =>
    by_cases h2 : 0 ≤ l ∧ l ≤ 8
    · by_cases h3 : 0 ≤ p ∧ p < 2 ^ l.toNat
      · by_cases h4 : 1 ≤ x ∧ x ≤ 32
        · rw [if_pos ⟨rfl, h2, h3, h4⟩]
          exact sNodeHash_yes v ga oa L l p x w hv hsm h1 h2 h3 h4
        · rw [if_neg (fun h => h4 h.2.2.2)]
          rw [h1] at hc
          obtain ⟨a, cap, rfl, hl, _⟩ := hv
          have d1 : decide (0 ≤ l ∧ l ≤ 8) = true := by simpa using h2
          have d2 : decide (1 ≤ x ∧ x ≤ 32) = false := by simpa using h4
          have hpw := pow_le8 h2.2
          have dp : decide (p < 0) = false := by simp; omega
          have dq : decide (2 ^ l.toNat ≤ p) = false := by simp; omega
          clear hsm h1
          go_enter Tryd.func27, Tryd.ntmps27
          go_wp2_with fail
          refine hc.mono ?_
          rintro e w1 ⟨rfl, hb1⟩
          clear hc
          go_wp2_with fail
          refine (l01In_any _ _ _ _).mono ?_
          rintro e w2 ⟨rfl, rfl⟩
          rw [d1]
          go_wp2_with fail
          refine (l01In_any _ _ _ _).mono ?_
          rintro e w2 ⟨rfl, rfl⟩
          rw [d2]
          go_wp2
          go_ret
          exact ⟨rfl, hb1⟩
      · rw [if_neg (fun h => h3 h.2.2.1)]
        rw [h1] at hc
        obtain ⟨a, cap, rfl, hl, _⟩ := hv
        have d1 : decide (0 ≤ l ∧ l ≤ 8) = true := by simpa using h2
        have hpw := pow_le8 h2.2
        by_cases hp0 : p < 0
        · have dp : decide (p < 0) = true := by simpa using hp0
          clear hsm h1 h3
          go_enter Tryd.func27, Tryd.ntmps27
          go_wp2_with fail
          refine hc.mono ?_
          rintro e w1 ⟨rfl, hb1⟩
          clear hc
          go_wp2_with fail
          refine (l01In_any _ _ _ _).mono ?_
          rintro e w2 ⟨rfl, rfl⟩
          rw [d1]
          go_wp2
          go_ret
          exact ⟨rfl, hb1⟩
        · have dp : decide (p < 0) = false := by simpa using hp0
          have dq : (2 : Int) ^ l.toNat ≤ p := by omega
          have hpos : (0 : Int) < 2 ^ l.toNat := Int.pow_pos (by omega)
          clear hsm h1 h3
          go_enter Tryd.func27, Tryd.ntmps27
          go_wp2_with fail
          refine hc.mono ?_
          rintro e w1 ⟨rfl, hb1⟩
          clear hc
          go_wp2_with fail
          refine (l01In_any _ _ _ _).mono ?_
          rintro e w2 ⟨rfl, rfl⟩
          rw [d1]
          go_wp2
          go_ret
          exact ⟨rfl, hb1⟩
    · rw [if_neg (fun h => h2 h.2.1)]
      rw [h1] at hc
      obtain ⟨a, cap, rfl, hl, _⟩ := hv
      have d1 : decide (0 ≤ l ∧ l ≤ 8) = false := by simpa using h2
      clear hsm h1 h2
      go_enter Tryd.func27, Tryd.ntmps27
      go_wp2_with fail
      refine hc.mono ?_
      rintro e w1 ⟨rfl, hb1⟩
      clear hc
      go_wp2_with fail
      refine (l01In_any _ _ _ _).mono ?_
      rintro e w2 ⟨rfl, rfl⟩
      rw [d1]
      go_wp2
      go_ret
      exact ⟨rfl, hb1⟩

theorem sRootOf_any (v : Value) (ga oa : Nat) (L : List Le) (x : Int) (w : World) (hv : RS 2 lcs w v ga oa L) (hsm : SmallL L) :
    Calls Tryd.prog 22 #[v, .int .i64 x] w fun e w' => e = .returned (.string (nhB L 0 0 x)) ∧ Below w.heap.size w w' := by
  have hc := sNodeHash_any v ga oa L 0 0 x w hv hsm
  obtain ⟨a, cap, rfl, hl, _⟩ := hv
  generalize nhB L 0 0 x = T at *
  clear hsm
  go_enter Tryd.func22, Tryd.ntmps22
  go_wp2_with fail
  refine hc.mono ?_
  rintro e w1 ⟨rfl, hb1⟩
  go_wp2
  go_ret
  exact ⟨rfl, hb1⟩

namespace TR
variable {α : Type} {β : Type} {idx : α → Nat} {hN : β → β → β} {hB : List α → β}
theorem sides_snoc (x : Nat) (l : List α) : ∀ (n k : Nat), sides idx hN hB x l k (n + 1) = sides idx hN hB x l k n ++ [tr idx hN hB (k + n) (oth (x / 2 ^ (k + n))) l]
  | 0, k => rfl
  | n + 1, k => by
    have h := sides_snoc x l n (k + 1)
    rw [show k + 1 + n = k + (n + 1) by omega] at h
    show tr idx hN hB k (oth (x / 2 ^ k)) l :: sides idx hN hB x l (k + 1) (n + 1) = _
    rw [h]
    rfl
end TR
/-- the sides of index x, n of them from below -/
noncomputable def sdL (x : Int) (ix : Nat) (L : List Le) (n : Nat) : List ByteArray := TR.sides idxL (hnB x) (bhB x) ix L 0 n
theorem sdL_len (x : Int) (ix : Nat) (L : List Le) (n : Nat) : (sdL x ix L n).length = n := TR.sides_len ix L n 0
theorem sdL_up (x : Int) (ix : Nat) (L : List Le) (n : Nat) : sdL x ix L (n + 1) = sdL x ix L n ++ [trB x n (TR.oth (ix / 2 ^ n)) L] := by
  unfold sdL trB
  rw [TR.sides_snoc, Nat.zero_add]
theorem xor_b (q : Nat) (h : q ≤ 255) : bits BinOp.xor IntKind.i64 (q : Int) 1 = ((TR.oth q : Nat) : Int) := by
  rw [← TR.oth_xor q (by omega)]
  have : ∀ q : Fin 256, bits BinOp.xor IntKind.i64 ((q.val : Nat) : Int) 1 = ((q.val ^^^ 1 : Nat) : Int) := by decide +kernel
  exact this ⟨q, by omega⟩
theorem oth_le (q : Nat) : TR.oth q ≤ q + 1 := by unfold TR.oth; split <;> omega

section
variable {w : World} {ops : Array Oper} {o : Oper} {a : Act} {K : Act → World → Prop} {Q : Exit → Act → World → Prop}
theorem one_txt {w : World} {p : Nat} {t : ByteArray} (h : w.cell? ⟨p, 0, none⟩ = some (.string t)) : ∀ j u, [Value.string t][j]? = some u → w.cell? ((⟨p, 0, none⟩ : Addr).add j) = some u := by
  intro j u hj
  match j, hj with
  | 0, hj =>
    simp at hj
    subst hj
    rw [Addr.add_mid]
    exact h
/-- a text appended, and where the row lies then: as one step of a region that draws its order -/
theorem step_txtL {E : Prop} (hgd : o.guard = none) (s x : Operand)
    (ho : o.op = .call { callee := .builtin .append, args := #[s, x], argTypes := #[30, 30] })
    (B : Nat) (w0 : World) (u : Value) (l : List ByteArray) (t : ByteArray) (hs : a.eval s = u) (h : OS B w0 w u l) (p : Nat) (hx : a.eval x = .slice (some ⟨p, 0, none⟩) 1 1)
    (hnews : w.cell? ⟨p, 0, none⟩ = some (.string t)) (hlen : l.length + 1 ≤ 1000000)
    (hk : ∀ g cap w', OS B w0 w' (.slice (some ⟨g, 0, none⟩) (l.length + 1) cap) (l ++ [t]) → w.grownBy w' u.ownBlock → (u.ownBlock = some g ∨ g = w.heap.size) → K (a.put o.dst (.slice (some ⟨g, 0, none⟩) (l.length + 1) cap)) w') : if Region.wanted o (yielded ops a.tmps) = true then Oper.wp Tryd.prog o a w K Q else E := by
  obtain ⟨i0, hi, hz0, hz1, hz2⟩ := info_parts Tryd.info9
  refine step_append_lies w hgd s x 30 ho B 9 i0 (.string ByteArray.empty) 1 16 Tryd.underlying30 hi hz0 hz1 hz2 rfl (by decide) u l.length (svs l) hs h.1 ⟨p, 0, none⟩ 1 1 [.string t] hx rfl (one_txt hnews)
    (fun u hu => by simp at hu; subst hu; rfl) (by omega) (by unfold maxLen; omega) (by omega) h.2.2 w.heap.size rfl ?_
  intro g cap w' h1 h2 h3 _
  exact hk _ _ _ ⟨by rw [List.length_append, svs_append]; exact h1, h.2.1.grown h2 h.2.2 (fun k hk => (h.1.lt k hk).1), Nat.le_trans h.2.2 h2.size⟩ h2 h3
/-- .. and in a plain region -/
theorem wp_txtL {rest : List Oper} (hgd : o.guard = none) (s x : Operand)
    (ho : o.op = .call { callee := .builtin .append, args := #[s, x], argTypes := #[30, 30] })
    (B : Nat) (w0 : World) (u : Value) (l : List ByteArray) (t : ByteArray) (hs : a.eval s = u) (h : OS B w0 w u l) (p : Nat) (hx : a.eval x = .slice (some ⟨p, 0, none⟩) 1 1)
    (hnews : w.cell? ⟨p, 0, none⟩ = some (.string t)) (hlen : l.length + 1 ≤ 1000000)
    (hk : ∀ g cap w', OS B w0 w' (.slice (some ⟨g, 0, none⟩) (l.length + 1) cap) (l ++ [t]) → w.grownBy w' u.ownBlock → (u.ownBlock = some g ∨ g = w.heap.size) → wpList Tryd.prog ops Q rest (a.put o.dst (.slice (some ⟨g, 0, none⟩) (l.length + 1) cap)) w') : wpList Tryd.prog ops Q (o :: rest) a w := by
  obtain ⟨i0, hi, hz0, hz1, hz2⟩ := info_parts Tryd.info9
  refine wpList_append_lies w hgd s x 30 ho B 9 i0 (.string ByteArray.empty) 1 16 Tryd.underlying30 hi hz0 hz1 hz2 rfl (by decide) u l.length (svs l) hs h.1 ⟨p, 0, none⟩ 1 1 [.string t] hx rfl (one_txt hnews)
    (fun u hu => by simp at hu; subst hu; rfl) (by omega) (by unfold maxLen; omega) (by omega) h.2.2 w.heap.size rfl ?_
  intro g cap w' h1 h2 h3 _
  exact hk _ _ _ ⟨by rw [List.length_append, svs_append]; exact h1, h.2.1.grown h2 h.2.2 (fun k hk => (h.1.lt k hk).1), Nat.le_trans h.2.2 h2.size⟩ h2 h3
end
theorem SS.grown {w w' : World} {v : Value} {g o : Nat} {l : List ByteArray} {row : Option Nat} (h : SS w v g o l) (hg : w.grownBy w' row) (hne : 0 < l.length → some g ≠ row) : SS w' v g o l := by
  have hlt := h.lt
  obtain ⟨a, cap, h1, h2, h3, h4⟩ := h
  exact ⟨a, cap, h1, h2, h3, fun j hj => (cell_kept (hg.block g (hlt (by omega)) (hne (by omega)))).trans (h4 j hj)⟩

/-- the row of sides that grows, beside the specification's spots and empties -/
def SdI (x : Int) (L : List Le) (w wr : World) (vs ve : Value) (gu ge : Nat) (u : Value) (l : List ByteArray) : Prop :=
  OS w.heap.size w wr u l ∧ RS 3 scs wr vs gu 0 L ∧ SS wr ve ge 0 (emL x 0) ∧ (0 < L.length → u.ownBlock ≠ some gu) ∧ u.ownBlock ≠ some ge
theorem SdI.later {x : Int} {L : List Le} {w wr wr' : World} {vs ve : Value} {gu ge : Nat} {u : Value} {l : List ByteArray} (h : SdI x L w wr vs ve gu ge u l) (hb : Below wr.heap.size wr wr') : SdI x L w wr' vs ve gu ge u l :=
  ⟨h.1.later hb, h.2.1.later hb, h.2.2.1.below hb h.2.2.1.lt, h.2.2.2⟩
theorem SdI.drew {x : Int} {L : List Le} {w wr : World} {vs ve : Value} {gu ge : Nat} {u : Value} {l : List ByteArray} (h : SdI x L w wr vs ve gu ge u l) : SdI x L w wr.drew vs ve gu ge u l := ⟨h.1.drew, h.2.1, h.2.2.1, h.2.2.2⟩
theorem SdI.app {x : Int} {L : List Le} {w wr wr' : World} {vs ve : Value} {gu ge g cap n : Nat} {u : Value} {l l' : List ByteArray} (h : SdI x L w wr vs ve gu ge u l) (h1 : OS w.heap.size w wr' (.slice (some ⟨g, 0, none⟩) n cap) l') (hg : wr.grownBy wr' u.ownBlock) (hl : u.ownBlock = some g ∨ g = wr.heap.size) : SdI x L w wr' vs ve gu ge (.slice (some ⟨g, 0, none⟩) n cap) l' := by
  obtain ⟨a1, a2, a3, a4, a5⟩ := h
  have e9 : 0 < (emL x 0).length := by rw [emL_len]; omega
  have hge := a3.lt e9
  refine ⟨h1, a2.grown hg (fun h0 e => a4 h0 e.symm), a3.grown hg (fun _ e => a5 e.symm), fun h0 e => ?_, fun e => ?_⟩
  · have eg : g = gu := by simpa [Value.ownBlock] using e
    have hgu : gu < wr.heap.size := by
      obtain ⟨_, _, _, _, h3, _⟩ := a2
      exact (h3 h0).2
    rcases hl with hl | hl
    · exact a4 h0 (by rw [hl, eg])
    · omega
  · have eg : g = ge := by simpa [Value.ownBlock] using e
    rcases hl with hl | hl
    · exact a5 (by rw [hl, eg])
    · omega

def SdTR (N : Nat) (x : Int) (ix : Nat) (L : List Le) (w : World) (vs ve : Value) (gu ge : Nat) (u i : Value) (wr : World) : Prop := ∃ j : Nat, j ≤ N ∧ i = .int .i64 (8 - (j : Int)) ∧ Hid (SdI x L w wr vs ve gu ge u (sdL x ix L j))

/-- what SidesOf is -/
noncomputable def sdA (L : List Le) (ix l x : Int) : List ByteArray := if LV.leavesB L = true ∧ (0 ≤ ix ∧ ix ≤ 255) ∧ (0 ≤ l ∧ l ≤ 8) ∧ 1 ≤ x ∧ x ≤ 32 then sdL x ix.toNat L (8 - l.toNat) else []

set_option maxRecDepth 100000 in
set_option maxHeartbeats 1000000 in
theorem sSidesOf_yes (v : Value) (ga oa : Nat) (L : List Le) (ix l : Nat) (x : Int) (w : World) (hv : RS 2 lcs w v ga oa L) (hsm : SmallL L) (h1 : LV.leavesB L = true) (h2 : ix ≤ 255) (h3 : l ≤ 8) (h4 : 1 ≤ x ∧ x ≤ 32) :
    Calls Tryd.prog 41 #[v, .int .i64 (ix : Int), .int .i64 (l : Int), .int .i64 x] w fun e w' => ∃ u, e = .returned u ∧ OS w.heap.size w w' u (sdL x ix L (8 - l)) := by
  have HC : Hid (∀ W, Below w.heap.size w W → Calls Tryd.prog 73 #[v] W fun e w' => e = .returned (.bool true) ∧ Below W.heap.size W w') := fun W hW => by
    have h := sLeavesOk_any v ga oa L W (hv.later hW) hsm
    rw [h1] at h
    exact h
  have HV : Hid (RS 2 lcs w v ga oa L ∧ SmallL L ∧ LV.LOk L) := ⟨hv, hsm, LV.leavesB_iff.1 h1⟩
  obtain ⟨a, cap, rfl, hl, _⟩ := hv
  have d0 : decide (0 ≤ (ix : Int) ∧ (ix : Int) ≤ 255) = true := by simp; omega
  have d1 : decide (0 ≤ (l : Int) ∧ (l : Int) ≤ 8) = true := by simp; omega
  have d2 : decide (1 ≤ x ∧ x ≤ 32) = true := by simpa using h4
  have hba := (Below.refl w.heap.size w).alloc (Nat.le_refl _) (.cells #[] 9)
  have HO : Hid (OS w.heap.size w (w.alloc (.cells #[] 9)) (.slice (some ⟨w.heap.size, 0, none⟩) 0 0) []) := OS.made w
  have hc := HC.out _ hba
  clear hsm h1 HC
  go_enter Tryd.func41, Tryd.ntmps41
  go_wp2_with fail
  refine hc.mono ?_
  rintro e w1 ⟨rfl, hb1⟩
  clear hc
  go_wp2_with fail
  refine (l01In_any _ _ _ _).mono ?_
  rintro e w2 ⟨rfl, rfl⟩
  rw [d0]
  go_wp2_with fail
  refine (l01In_any _ _ _ _).mono ?_
  rintro e w2 ⟨rfl, rfl⟩
  rw [d1]
  go_wp2_with fail
  refine (l01In_any _ _ _ _).mono ?_
  rintro e w2 ⟨rfl, rfl⟩
  rw [d2]
  have hb1w : Below w.heap.size w w2 := hba.trans (hb1.mono (by simp))
  have hs := l10Spots_any _ ga oa L w2 (HV.out.1.later hb1w) HV.out.2.1 HV.out.2.2.1
  go_wp2_with fail
  refine hs.mono ?_
  rintro e w3 ⟨u, rfl, ho3⟩
  have he := l10Empties_any x w3
  clear hs
  go_wp2_with fail
  refine he.mono ?_
  rintro e w4 ⟨ge, rfl, hge, htb, hb4⟩
  have hb34 : Below w2.heap.size w2 w4 := ho3.2.1.trans (hb4.mono ho3.2.2)
  obtain ⟨gu, hrw, hgu, _⟩ := ho3.rw (Nat.le_trans HV.out.2.2.1 (by omega))
  obtain ⟨au, cu, eu⟩ := ho3.shape
  have HST : Hid (SdTR (8 - l) x ix L w u (.slice (some ⟨ge, 0, none⟩) 9 9) gu ge (.slice (some ⟨w.heap.size, 0, none⟩) 0 0) (.int .i64 8) w4) := by
    have hz1 : w.heap.size < w2.heap.size := by
      have := hb1.size
      simp at this
      omega
    refine ⟨0, by omega, rfl, (HO.out.later hb1).later hb34, hrw.1.later hb4, htb.ss 9 9 (emL_len x 0) (by omega), fun h0 e => ?_, fun e => ?_⟩
    · have : w.heap.size = gu := by simpa [Value.ownBlock] using e
      omega
    · have : w.heap.size = ge := by simpa [Value.ownBlock] using e
      have := ho3.2.2
      omega
  have hL24 : L.length ≤ 24 := HV.out.2.2.1
  obtain ⟨nL, hnL⟩ : ∃ nL, L.length = nL := ⟨_, rfl⟩
  have HNL : Hid (L.length = nL) := hnL
  have HSM : Hid (SmallL L) := HV.out.2.1
  rw [hnL] at eu hl hL24 ⊢
  subst eu
  clear he ho3 HO hb1 hba hnL hrw htb hb4 hb34 hgu hge HV hb1w
  go_wp2
  go_loopw [9, 12] (fun u i wr => SdTR (8 - l) x ix L w (.slice au nL cu) (.slice (some ⟨ge, 0, none⟩) 9 9) gu ge u i wr) (fun _ i _ => (intOf i).toNat)
  case atStart => exact HST.out
  case round =>
    obtain ⟨j, hj, rfl, HI⟩ := hrel
    clear HST
    have hL : (sdL x ix L j).length = j := sdL_len x ix L j
    obtain ⟨ab, cb, hb⟩ := HI.out.1.slice
    rw [hL] at hb
    subst hb
    by_cases hjl : j < 8 - l
    · have i1 : (l : Int) < 8 - (j : Int) := by omega
      have hdv : ix / 2 ^ j ≤ 255 := Nat.le_trans (Nat.div_le_self _ _) h2
      have hxq : bits BinOp.xor IntKind.i64 ((ix : Int) / 2 ^ (8 - (8 - j))) 1 = ((TR.oth (ix / 2 ^ j) : Nat) : Int) := by
        have e1 : 8 - (8 - j) = j := by omega
        have e2 : (ix : Int) / 2 ^ j = ((ix / 2 ^ j : Nat) : Int) := by simp
        rw [e1, e2]
        exact xor_b _ hdv
      have hol := oth_le (ix / 2 ^ j)
      have hn := l10Node_any x j (by omega) (8 - (j : Int)) (TR.oth (ix / 2 ^ j)) _ gu 0 L _ ge wr (by omega) (by
        have h5 : 1 ≤ 2 ^ (8 - j) := Nat.one_le_two_pow
        omega) HI.out.2.1 HSM.out (by rw [HNL.out]; exact hL24) HI.out.2.2.1
      rw [← hxq, nd_tr] at hn
      have hst := sdL_up x ix L j
      have HNX : Hid (∀ W v, SdI x L w W (.slice au nL cu) (.slice (some ⟨ge, 0, none⟩) 9 9) gu ge v (sdL x ix L j ++ [trB x j (TR.oth (ix / 2 ^ j)) L]) → SdTR (8 - l) x ix L w (.slice au nL cu) (.slice (some ⟨ge, 0, none⟩) 9 9) gu ge v (.int .i64 (8 - (j : Int) - 1)) W) := by
        rw [← hst]
        exact fun W v hW => ⟨j + 1, by omega, by congr 1; omega, hW⟩
      have HLJ : Hid ((sdL x ix L j).length + 1 ≤ 1000000) := by show (sdL x ix L j).length + 1 ≤ 1000000; omega
      generalize trB x j (TR.oth (ix / 2 ^ j)) L = T at *
      clear hL hst hxq hdv hol
      generalize sdL x ix L j = l0 at *
      go_wp2_with fail
      refine hn.mono ?_
      rintro e w5 ⟨rfl, hb5⟩
      have HI5 : Hid (SdI x L w (w5.alloc (.cells #[.string T] 9)) (.slice au nL cu) (.slice (some ⟨ge, 0, none⟩) 9 9) gu ge (.slice ab j cb) l0) := HI.out.later (hb5.alloc hb5.size _)
      have hct : (w5.alloc (.cells #[.string T] 9)).cell? ⟨w5.heap.size, 0, none⟩ = some (.string T) := by rw [World.cell?_alloc_at _ _ _ _ rfl]; rfl
      have HCT : Hid ((w5.alloc (.cells #[.string T] 9)).cell? ⟨w5.heap.size, 0, none⟩ = some (.string T)) := hct
      clear hn HI hct hb5
      go_wp2_with (at_builtin; refine wp_txtL rfl _ _ rfl w.heap.size w _ l0 T rfl HI5.out.1 _ rfl HCT.out HLJ.out ?_)
      intro g6 cap6 w6 ho6 hg6 hl6
      have HN2 : Hid (SdTR (8 - l) x ix L w (.slice au nL cu) (.slice (some ⟨ge, 0, none⟩) 9 9) gu ge (.slice (some ⟨g6, 0, none⟩) (l0.length + 1) cap6) (.int .i64 (8 - (j : Int) - 1)) w6) := HNX.out _ _ (HI5.out.app ho6 hg6 (by simpa using hl6))
      clear HNX ho6 hg6 hl6 HI5 HCT
      go_wp2
      go_roundw
      case rel => exact HN2.out
      case measure => simp [intOf]; omega
    · have i1 : ¬ ((l : Int) < 8 - (j : Int)) := by omega
      have hje : j = 8 - l := by omega
      have HF : Hid (∃ u, Ending.returned (.slice ab j cb) = .returned u ∧ OS w.heap.size w wr u (sdL x ix L (8 - l))) := ⟨_, rfl, by rw [← hje]; exact HI.out.1⟩
      clear HI hL hje
      go_wp2
      go_ret
      exact HF.out

theorem sSidesOf_any (v : Value) (ga oa : Nat) (L : List Le) (ix l x : Int) (w : World) (hv : RS 2 lcs w v ga oa L) (hsm : SmallL L) :
    Calls Tryd.prog 41 #[v, .int .i64 ix, .int .i64 l, .int .i64 x] w fun e w' => ∃ u, e = .returned u ∧ OS w.heap.size w w' u (sdA L ix l x) := by
  unfold sdA
  have hba := (Below.refl w.heap.size w).alloc (Nat.le_refl _) (.cells #[] 9)
  have hc := sLeavesOk_any v ga oa L _ (hv.later hba) hsm
  have HF : Hid (∀ W, Below (w.alloc (.cells #[] 9)).heap.size (w.alloc (.cells #[] 9)) W → ∃ u, Ending.returned (.slice (some ⟨w.heap.size, 0, none⟩) 0 0) = .returned u ∧ OS w.heap.size w W u []) := fun W hW => ⟨_, rfl, (OS.made w).later hW⟩
  cases h1 : LV.leavesB L with
  | false =>
    rw [if_neg (fun h => by simp at h)]
    rw [h1] at hc
    obtain ⟨a, cap, rfl, hl, _⟩ := hv
    clear hsm h1 hba
    go_enter Tryd.func41, Tryd.ntmps41
    go_wp2_with fail
    refine hc.mono ?_
    rintro e w1 ⟨rfl, hb1⟩
    clear hc
    go_wp2
    go_ret
    exact HF.out _ hb1
  | true =>
    by_cases h2 : 0 ≤ ix ∧ ix ≤ 255
    · by_cases h3 : 0 ≤ l ∧ l ≤ 8
      · by_cases h4 : 1 ≤ x ∧ x ≤ 32
        · rw [if_pos ⟨rfl, h2, h3, h4⟩]
          obtain ⟨i, rfl⟩ := Int.eq_ofNat_of_zero_le h2.1
          obtain ⟨k, rfl⟩ := Int.eq_ofNat_of_zero_le h3.1
          exact sSidesOf_yes v ga oa L i k x w hv hsm h1 (by omega) (by omega) h4
        · rw [if_neg (fun h => h4 h.2.2.2)]
          rw [h1] at hc
          obtain ⟨a, cap, rfl, hl, _⟩ := hv
          have d0 : decide (0 ≤ ix ∧ ix ≤ 255) = true := by simpa using h2
          have d1 : decide (0 ≤ l ∧ l ≤ 8) = true := by simpa using h3
          have d2 : decide (1 ≤ x ∧ x ≤ 32) = false := by simpa using h4
          clear hsm h1 hba
          go_enter Tryd.func41, Tryd.ntmps41
          go_wp2_with fail
          refine hc.mono ?_
          rintro e w1 ⟨rfl, hb1⟩
          clear hc
          go_wp2_with fail
          refine (l01In_any _ _ _ _).mono ?_
          rintro e w2 ⟨rfl, rfl⟩
          rw [d0]
          go_wp2_with fail
          refine (l01In_any _ _ _ _).mono ?_
          rintro e w2 ⟨rfl, rfl⟩
          rw [d1]
          go_wp2_with fail
          refine (l01In_any _ _ _ _).mono ?_
          rintro e w2 ⟨rfl, rfl⟩
          rw [d2]
          go_wp2
          go_ret
          exact HF.out _ hb1
      · rw [if_neg (fun h => h3 h.2.2.1)]
        rw [h1] at hc
        obtain ⟨a, cap, rfl, hl, _⟩ := hv
        have d0 : decide (0 ≤ ix ∧ ix ≤ 255) = true := by simpa using h2
        have d1 : decide (0 ≤ l ∧ l ≤ 8) = false := by simpa using h3
        clear hsm h1 hba h3
        go_enter Tryd.func41, Tryd.ntmps41
        go_wp2_with fail
        refine hc.mono ?_
        rintro e w1 ⟨rfl, hb1⟩
        clear hc
        go_wp2_with fail
        refine (l01In_any _ _ _ _).mono ?_
        rintro e w2 ⟨rfl, rfl⟩
        rw [d0]
        go_wp2_with fail
        refine (l01In_any _ _ _ _).mono ?_
        rintro e w2 ⟨rfl, rfl⟩
        rw [d1]
        go_wp2
        go_ret
        exact HF.out _ hb1
    · rw [if_neg (fun h => h2 h.2.1)]
      rw [h1] at hc
      obtain ⟨a, cap, rfl, hl, _⟩ := hv
      have d0 : decide (0 ≤ ix ∧ ix ≤ 255) = false := by simpa using h2
      clear hsm h1 hba h2
      go_enter Tryd.func41, Tryd.ntmps41
      go_wp2_with fail
      refine hc.mono ?_
      rintro e w1 ⟨rfl, hb1⟩
      clear hc
      go_wp2_with fail
      refine (l01In_any _ _ _ _).mono ?_
      rintro e w2 ⟨rfl, rfl⟩
      rw [d0]
      go_wp2
      go_ret
      exact HF.out _ hb1

end Go.Proofs.YtmhoilliaeefcaaDoor
