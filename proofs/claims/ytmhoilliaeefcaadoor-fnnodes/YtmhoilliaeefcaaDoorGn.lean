/-
  The tree that the program grows over its buckets.
-/
import Derived.Test.YtmhoilliaeefcaaDoorGr
namespace Go.Proofs.YtmhoilliaeefcaaDoor
open Go.RowKit Go.BigFrame Go.Sort
set_option linter.unusedVariables false
set_option linter.unusedSimpArgs false

/-- v is the node of place p, k levels above the buckets -/
def NT (x : Int) (L : List Le) (w : World) : Nat → Nat → Value → Prop
  | 0, p, v => (∃ q, v = .iface 88 q ∧ EmN x w 0 q ∧ TR.und idxL 0 p L = []) ∨ ∃ g, v = .iface 131 (.pointer (some ⟨g, 0, none⟩)) ∧ w.cell? ⟨g, 0, none⟩ = some (.string (trB x 0 p L))
  | k + 1, p, v => (∃ q, v = .iface 88 q ∧ EmN x w (k + 1) q ∧ TR.und idxL (k + 1) p L = []) ∨ ∃ g a b, v = .iface 115 (.pointer (some ⟨g, 0, none⟩)) ∧ w.cell? ⟨g, 0, none⟩ = some a ∧ w.cell? ⟨g, 1, none⟩ = some b ∧ w.cell? ⟨g, 2, none⟩ = some (.string (trB x (k + 1) p L)) ∧ NT x L w k (2 * p) a ∧ NT x L w k (2 * p + 1) b
theorem NT.later {x : Int} {L : List Le} {w w' : World} (hb : Below w.heap.size w w') : ∀ {k p : Nat} {v : Value}, NT x L w k p v → NT x L w' k p v
  | 0, p, v, h => by
    rcases h with ⟨q, h1, h2, h3⟩ | ⟨g, h1, h2⟩
    · exact .inl ⟨q, h1, h2.later hb, h3⟩
    · exact .inr ⟨g, h1, cell_later h2 hb⟩
  | k + 1, p, v, h => by
    rcases h with ⟨q, h1, h2, h3⟩ | ⟨g, a, b, h1, h2, h3, h4, h5, h6⟩
    · exact .inl ⟨q, h1, h2.later hb, h3⟩
    · exact .inr ⟨g, a, b, h1, cell_later h2 hb, cell_later h3 hb, cell_later h4 hb, NT.later hb h5, NT.later hb h6⟩
theorem NT.empty {x : Int} {L : List Le} {w : World} : ∀ {k p : Nat} {q : Value}, EmN x w k q → TR.und idxL k p L = [] → NT x L w k p (.iface 88 q)
  | 0, p, q, h, h0 => .inl ⟨q, rfl, h, h0⟩
  | k + 1, p, q, h, h0 => .inl ⟨q, rfl, h, h0⟩
theorem NT.hash {x : Int} {L : List Le} {w : World} : ∀ {k p : Nat} {v : Value}, NT x L w k p v → HsN w v (trB x k p L)
  | 0, p, v, h => by
    rcases h with ⟨q, h1, h2, h3⟩ | ⟨g, h1, h2⟩
    · obtain ⟨g, rfl, hc⟩ := h2.made
      exact ⟨_, g, h1, .inl ⟨rfl, by rw [tr_emp h3]; exact hc⟩⟩
    · exact ⟨_, g, h1, .inr (.inl ⟨rfl, h2⟩)⟩
  | k + 1, p, v, h => by
    rcases h with ⟨q, h1, h2, h3⟩ | ⟨g, a, b, h1, h2, h3, h4, h5, h6⟩
    · obtain ⟨g, rfl, hc⟩ := h2.made
      exact ⟨_, g, h1, .inl ⟨rfl, by rw [tr_emp h3]; exact hc⟩⟩
    · exact ⟨_, g, h1, .inr (.inr ⟨rfl, h4⟩)⟩
/-- nothing lies under a place where nothing lies below it -/
theorem und_any (L : List Le) (k p : Nat) : anyB L (p * 2 ^ k) (2 ^ k) ↔ TR.und idxL k p L ≠ [] := by
  constructor
  · rintro ⟨j, hj, h⟩ h0
    have h1 : (p * 2 ^ k + j) / 2 ^ k = p := by
      rw [Nat.mul_comm, Nat.mul_add_div (Nat.two_pow_pos k), Nat.div_eq_of_lt hj, Nat.add_zero]
    have h2 := TR.und_down (idx := idxL) (k := 0) (j := k) (p := p) (q := p * 2 ^ k + j) (l := L) h1 (by rw [Nat.zero_add]; exact h0)
    rw [h2] at h
    simp at h
  · intro h
    obtain ⟨f, hf⟩ := List.exists_mem_of_ne_nil _ h
    unfold TR.und at hf
    have hq : idxL f / 2 ^ k = p := by simpa using (List.mem_filter.1 hf).2
    have hfL := (List.mem_filter.1 hf).1
    refine ⟨idxL f % 2 ^ k, Nat.mod_lt _ (Nat.two_pow_pos k), List.length_pos_of_mem (a := f) ?_⟩
    unfold TR.und
    rw [List.mem_filter]
    refine ⟨hfL, ?_⟩
    have : p * 2 ^ k + idxL f % 2 ^ k = idxL f := by rw [← hq, Nat.mul_comm]; exact Nat.div_add_mod _ _
    rw [this]
    simp
theorem leaves_und {L : List Le} (h : LV.LOk L) (k p : Nat) : LV.leavesB (TR.und idxL k p L) = true := by
  refine LV.leavesB_iff.2 ⟨Nat.le_trans (und_len k p L) h.1, fun f hf => h.2.1 f ?_, List.Pairwise.filter _ h.2.2⟩
  unfold TR.und at hf
  exact (List.mem_filter.1 hf).1

/-- what grown answers at this height -/
def GrC (x : Int) (L : List Le) (k : Nat) : Prop := ∀ (p g o n c : Nat) (e : Value) (w : World), n = 2 ^ k → n ≤ c → c ≤ 256 → BkW w g o L (p * n) n → EmN x w k e → Tb w →
    Calls Tryd.prog 97 #[.slice (some ⟨g, o, none⟩) n c, e, .int .i64 x] w fun e w' => ∃ v, e = .returned v ∧ NT x L w' k p v ∧ Below w.heap.size w w'

set_option maxRecDepth 100000 in
set_option maxHeartbeats 1000000 in
theorem grown_none (x : Int) (L : List Le) (k p g o n c : Nat) (e : Value) (w : World) (hn : n = 2 ^ k) (hc : n ≤ 256) (hB : BkW w g o L (p * n) n) (hE : EmN x w k e) (h0 : TR.und idxL k p L = []) :
    Calls Tryd.prog 97 #[.slice (some ⟨g, o, none⟩) n c, e, .int .i64 x] w fun e w' => ∃ v, e = .returned v ∧ NT x L w' k p v ∧ Below w.heap.size w w' := by
  have hcf := ContainsFunc_any g o n c (p * n) L w hc hB
  have ha : anyD L (p * n) n = false := by
    rw [← Bool.not_eq_true, anyD_iff, hn, und_any]
    simpa using h0
  rw [ha] at hcf
  have HN : Hid (NT x L w k p (.iface 88 e)) := NT.empty hE h0
  obtain ⟨ge, rfl, _⟩ := hE.made
  clear hB hE h0 ha hn
  go_enter Tryd.func97, Tryd.ntmps97
  go_wp2_with fail
  refine hcf.mono ?_
  rintro e w1 ⟨rfl, rfl⟩
  clear hcf
  go_wp2
  go_ret
  exact ⟨_, rfl, HN.out, Below.refl _ _⟩

set_option maxRecDepth 100000 in
set_option maxHeartbeats 1000000 in
theorem grown_zero (x : Int) (L : List Le) (hL : LV.LOk L) (hsm : SmallL L) : GrC x L 0 := by
  intro p g o n c e w hn hnc hc hB hE hT
  by_cases h0 : TR.und idxL 0 p L = []
  · exact grown_none x L 0 p g o n c e w hn (by omega) hB hE h0
  · have hcf := ContainsFunc_any g o n c (p * n) L w (by omega) hB
    have ha : anyD L (p * n) n = true := by rw [anyD_iff, hn, und_any]; exact h0
    rw [ha] at hcf
    have e1 : n = 1 := hn
    subst e1
    obtain ⟨v, gj, c0, hrs⟩ := hB 0 (by omega)
    rw [Nat.add_zero, Nat.mul_one] at hrs
    rw [Nat.add_zero] at c0
    have hbh := BucketHash_any v gj 0 _ x w hrs (und_small hsm) hT
    have HN : Hid (∀ W, Below w.heap.size w W → NT x L (W.alloc (.cells #[.string (bhB x (TR.und idxL 0 p L))] 133)) 0 p (.iface 131 (.pointer (some ⟨W.heap.size, 0, none⟩))) ∧ Below w.heap.size w (W.alloc (.cells #[.string (bhB x (TR.und idxL 0 p L))] 133))) := fun W hW => by
      refine ⟨.inr ⟨W.heap.size, rfl, ?_⟩, hW.alloc hW.size _⟩
      rw [World.cell?_alloc_at _ _ _ _ rfl]
      rfl
    obtain ⟨ge, rfl, _⟩ := hE.made
    obtain ⟨av, cv, rfl, _⟩ := hrs
    generalize bhB x (TR.und idxL 0 p L) = T at *
    clear hB hE h0 ha hn hT hsm hL
    go_enter Tryd.func97, Tryd.ntmps97
    go_wp2_with fail
    refine hcf.mono ?_
    rintro e w1 ⟨rfl, rfl⟩
    clear hcf
    go_wp2_with fail
    refine hbh.mono ?_
    rintro e w2 ⟨rfl, hb2⟩
    clear hbh
    go_wp2
    go_ret
    exact ⟨_, rfl, HN.out _ hb2⟩

set_option maxRecDepth 100000 in
set_option maxHeartbeats 2000000 in
theorem grown_fork (x : Int) (L : List Le) (k : Nat) (ih : GrC x L k) : GrC x L (k + 1) := by
  intro p g o n c e w hn hnc hc hB hE hT
  by_cases h0 : TR.und idxL (k + 1) p L = []
  · exact grown_none x L (k + 1) p g o n c e w hn (by omega) hB hE h0
  · have hcf := ContainsFunc_any g o n c (p * n) L w (by omega) hB
    have ha : anyD L (p * n) n = true := by rw [anyD_iff, hn, und_any]; exact h0
    rw [ha] at hcf
    obtain ⟨h, hh⟩ : ∃ h, 2 ^ k = h := ⟨_, rfl⟩
    have hpos : 1 ≤ h := by rw [← hh]; exact Nat.one_le_two_pow
    have hnh : n = h + h := by rw [hn, Nat.pow_succ, hh]; omega
    have HH : Hid (h = 2 ^ k) := hh.symm
    obtain ⟨ge, be, rfl, ce, c1, hbe⟩ := hE
    have HL : Hid (∀ W, Below w.heap.size w W → Calls Tryd.prog 97 #[.slice (some ⟨g, o, none⟩) h c, be, .int .i64 x] W fun e w' => ∃ v, e = .returned v ∧ NT x L w' k (2 * p) v ∧ Below W.heap.size W w') := fun W hW => by
      refine ih (2 * p) g o h c be W HH.out (by omega) hc ?_ (hbe.later hW) (hT.later hW)
      have h1 := hB.later hW
      have e1 : 2 * p * h = p * n := by rw [hnh, Nat.mul_comm 2 p, Nat.mul_assoc]; congr 1; omega
      rw [e1]
      exact fun j hj => h1 j (by omega)
    have HR : Hid (∀ W, Below w.heap.size w W → Calls Tryd.prog 97 #[.slice (some ⟨g, o + h, none⟩) (n - h) (c - h), be, .int .i64 x] W fun e w' => ∃ v, e = .returned v ∧ NT x L w' k (2 * p + 1) v ∧ Below W.heap.size W w') := fun W hW => by
      have e0 : n - h = h := by omega
      rw [e0]
      refine ih (2 * p + 1) g (o + h) h (c - h) be W HH.out (by omega) (by omega) ?_ (hbe.later hW) (hT.later hW)
      have h1 := hB.later hW
      have e1 : (2 * p + 1) * h = p * n + h := by rw [hnh, Nat.add_mul, Nat.one_mul, Nat.mul_comm 2 p, Nat.mul_assoc]; congr 2; omega
      intro j hj
      obtain ⟨v, gj, h2, h3⟩ := h1 (h + j) (by omega)
      refine ⟨v, gj, ?_, ?_⟩
      · rw [Nat.add_assoc]; exact h2
      · rw [e1, Nat.add_assoc]; exact h3
    have hge : ge < w.heap.size := lt_of_cell ce
    have HT : Hid (Tb w) := hT
    have q1 : ((n : Int) == 1) = false := by simp; omega
    have q2 : (n : Int) / 2 = (h : Int) := by omega
    have i1 : (h : Int) ≤ (c : Int) := by omega
    have i2 : (0 : Int) ≤ (h : Int) := by omega
    have i3 : (h : Int) ≤ (n : Int) := by omega
    have i4 : (n : Int) ≤ (c : Int) := by omega
    have hch : ¬ c = h := by omega
    have hn256 : n ≤ 256 := by omega
    clear hB hT ih hnh hh h0 ha hn c1 hbe HH
    go_enter Tryd.func97, Tryd.ntmps97
    go_wp2_with fail
    refine hcf.mono ?_
    rintro e w1 ⟨rfl, rfl⟩
    clear hcf
    go_wp2_with fail
    have HL1 : Hid (Calls Tryd.prog 97 #[.slice (some ⟨g, o, none⟩) h c, be, .int .i64 x] w1.drew fun e w' => ∃ v, e = .returned v ∧ NT x L w' k (2 * p) v ∧ Below w1.heap.size w1 w') := (HL.out w1.drew ((Below.refl _ _).drew)).mono fun e w' ⟨v, h1, h2, h3⟩ => ⟨v, h1, h2, (Below.refl _ _).drew.trans h3⟩
    go_region_held3 (fun W => W.cell? ⟨ge, 0, none⟩ = some be) (first | go_keep | exact (hb2.cell (p := ⟨ge, 0, none⟩) hge).trans ce) ((go_at_call 97; with_reducible refine HL1.out.mono ?_; rintro e w2 ⟨v1, rfl, hN1, hb2⟩))
    have ce2 : w2.cell? ⟨ge, 0, none⟩ = some be := (hb2.cell (p := ⟨ge, 0, none⟩) hge).trans ce
    have hge2 : ge < w2.heap.size := lt_of_cell ce2
    have HR1 : Hid (Calls Tryd.prog 97 #[.slice (some ⟨g, o + h, none⟩) (n - h) (c - h), be, .int .i64 x] w2.drew fun e w' => ∃ v, e = .returned v ∧ NT x L w' k (2 * p + 1) v ∧ Below w2.heap.size w2 w') := (HR.out w2.drew (hb2.trans (Below.refl _ _).drew)).mono fun e w' ⟨v, h1, h2, h3⟩ => ⟨v, h1, h2, (Below.refl _ _).drew.trans h3⟩
    have HN1 : Hid (NT x L w2 k (2 * p) v1) := hN1
    have HB2 : Hid (Below w1.heap.size w1 w2) := hb2
    clear HL HL1 hN1 hb2 ce hge HR
    go_wp2_with fail
    go_region_held3 (fun W => W.cell? ⟨ge, 0, none⟩ = some be) (first | go_keep | exact (hb3.cell (p := ⟨ge, 0, none⟩) hge2).trans ce2) ((go_at_call 97; with_reducible refine HR1.out.mono ?_; rintro e w3 ⟨v2, rfl, hN2, hb3⟩))
    have HN2 : Hid (NT x L w3 k (2 * p) v1 ∧ NT x L w3 k (2 * p + 1) v2 ∧ Below w1.heap.size w1 w3) := ⟨HN1.out.later hb3, hN2, HB2.out.trans (hb3.mono HB2.out.size)⟩
    have hA := HN2.out.1.hash
    have hBb := HN2.out.2.1.hash
    have HT3 : Hid (Tb w3) := HT.out.later HN2.out.2.2
    have htr : hashB 3 [trB x k (2 * p) L, trB x k (2 * p + 1) L] x = trB x (k + 1) p L := rfl
    have ht := taggedHash_w x 3 [trB x k (2 * p) L, trB x k (2 * p + 1) L] 2 #[.string (trB x k (2 * p) L), .string (trB x k (2 * p + 1) L)] w3 _ rfl rfl (by omega) rfl HT3.out
    rw [htr] at ht
    have HF : Hid (∀ W, Below w3.heap.size w3 W → NT x L (W.alloc (.cells #[v1, v2, .string (trB x (k + 1) p L)] 118)) (k + 1) p (.iface 115 (.pointer (some ⟨W.heap.size, 0, none⟩))) ∧ Below w1.heap.size w1 (W.alloc (.cells #[v1, v2, .string (trB x (k + 1) p L)] 118))) := fun W hW => by
      have hb0 : Below w1.heap.size w1 W := HN2.out.2.2.trans (hW.mono HN2.out.2.2.size)
      have hba := hW.alloc hW.size (.cells #[v1, v2, .string (trB x (k + 1) p L)] 118)
      refine ⟨.inr ⟨W.heap.size, v1, v2, rfl, ?_, ?_, ?_, HN2.out.1.later hba, HN2.out.2.1.later hba⟩, hb0.alloc hb0.size _⟩
      · rw [World.cell?_alloc_at _ _ _ _ rfl]; rfl
      · rw [World.cell?_alloc_at _ _ _ _ rfl]; rfl
      · rw [World.cell?_alloc_at _ _ _ _ rfl]; rfl
    generalize trB x (k + 1) p L = T at *
    generalize trB x k (2 * p) L = T1 at *
    generalize trB x k (2 * p + 1) L = T2 at *
    have HA : Hid (HsN w3 v1 T1) := hA
    have HBB : Hid (HsN w3 v2 T2) := hBb
    obtain ⟨Ta, pa, rfl, _⟩ := hA
    obtain ⟨Tb', pb, rfl, _⟩ := hBb
    clear HN1 HB2 HR1 hN2 hb3 HN2 HT3 htr HT ce2 hge2
    go_wp2_with (first | (refine wp_hash rfl _ rfl _ T1 rfl HA.out ?_) | (refine wp_hash rfl _ rfl _ T2 rfl HBB.out ?_))
    refine ht.out.mono ?_
    rintro e w4 ⟨rfl, hb4⟩
    clear ht HA HBB
    go_wp2_with fail
    go_ret
    exact ⟨_, rfl, HF.out _ hb4⟩

theorem grown_any (x : Int) (L : List Le) (hL : LV.LOk L) (hsm : SmallL L) : ∀ k, GrC x L k
  | 0 => grown_zero x L hL hsm
  | k + 1 => grown_fork x L k (grown_any x L hL hsm k)

end Go.Proofs.YtmhoilliaeefcaaDoor
