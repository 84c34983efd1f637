/-
  Parts laid together in one room: the program's tooMany and joined.
-/
import Derived.Test.YtmcejkfknbjjkaaYj
namespace Go.Proofs.Ytmcejkfknbjjkaa
open Go.RowKit Go.BigFrame Go.Sort
set_option linter.unusedVariables false
set_option linter.unusedSimpArgs false

def YtO (w : World) (P : List (List Le)) (x i : Value) (wr : World) : Prop := ∃ m : Nat, m ≤ P.length ∧ i = .int .i64 m ∧ (P.take m).flatten.length ≤ 24 ∧ x = .int .i64 (24 - ((P.take m).flatten.length : Int)) ∧ wr = w

set_option maxRecDepth 100000 in
set_option maxHeartbeats 1000000 in
theorem tooMany_any (v : Value) (g o : Nat) (P : List (List Le)) (w : World) (hv : PS w v g o P) :
    Calls Try.prog 16 #[v] w fun e w' => e = .returned (.bool (decide (24 < P.flatten.length))) ∧ w' = w := by
  have HV : Hid (PS w v g o P) := hv
  obtain ⟨R, hR⟩ : ∃ R, decide (24 < P.flatten.length) = R := ⟨_, rfl⟩
  have HR : Hid (decide (24 < P.flatten.length) = R) := hR
  rw [hR]
  obtain ⟨a, cap, rfl, hl, hA, _⟩ := hv
  obtain ⟨n, hn⟩ : ∃ n, P.length = n := ⟨_, rfl⟩
  have HA : Hid (0 < n → a = some ⟨g, o, none⟩) := by rw [← hn]; exact fun h => (hA h).1
  have HN : Hid (P.length = n) := hn
  have HST : Hid (YtO w P (.int .i64 24) (.int .i64 0) w) := ⟨0, by omega, rfl, by simp, by simp, rfl⟩
  rw [hn] at hl HV ⊢
  clear hA hn hR
  go_enter Try.func16, Try.ntmps16
  go_wp2
  go_loopw [3, 8] (fun x i wr => YtO w P x i wr) (fun _ i _ => n - (intOf i).toNat)
  case atStart => exact HST.out
  case round =>
    obtain ⟨m, hm, rfl, hs, rfl, hw⟩ := hrel
    obtain rfl := hw.symm
    clear HST
    rw [HN.out] at hm
    by_cases hlt : m < n
    · have ea := HA.out (by omega)
      subst ea
      have hmP : m < P.length := by rw [HN.out]; exact hlt
      obtain ⟨aj, cj, gj, oj, c0, hrj⟩ := HV.out.at m hmP
      have hst := congrArg List.length (parts_step hmP)
      rw [List.length_append] at hst
      have hpl := parts_len hmP
      have i1 : (m : Int) < (n : Int) := by omega
      have i2 : (0 : Int) ≤ (m : Int) := by omega
      have hpj := hrj.len
      have HNX : Hid (∀ y : Int, (P.take (m + 1)).flatten.length ≤ 24 → y = 24 - ((P.take (m + 1)).flatten.length : Int) → YtO w P (.int .i64 y) (.int .i64 ((m : Int) + 1)) w) := fun y h1 h2 => ⟨m + 1, by omega, by simp, h1, by rw [h2], rfl⟩
      rw [hst] at HNX
      have HYY : Hid (24 < (P.take m).flatten.length + P[m].length → R = true) := fun h => by rw [← HR.out, decide_eq_true_iff]; omega
      generalize P[m].length = q at *
      generalize (P.take m).flatten.length = s at *
      clear hst hrj hpl HV HR
      by_cases hk : 24 < s + q
      · have hRt := HYY.out hk
        subst hRt
        have i3 : 24 - (s : Int) < (q : Int) := by omega
        clear HYY HNX
        go_wp2
        try rw [Exit.noGoto_ret]
        go_ret
        exact ⟨rfl, rfl⟩
      · have i3 : ¬ (24 - (s : Int) < (q : Int)) := by omega
        have HK : Hid (YtO w P (.int .i64 (24 - (s : Int) - (q : Int))) (.int .i64 ((m : Int) + 1)) w) := HNX.out _ (by omega) (by omega)
        clear HYY HNX
        go_wp2
        go_roundw
        case rel => exact HK.out
        case measure => simp [intOf]; omega
    · have e : (P.take m).flatten = P.flatten := by rw [List.take_of_length_le (by rw [HN.out]; omega)]
      rw [e] at hs
      have hRf : R = false := by rw [← HR.out, decide_eq_false_iff_not]; omega
      subst hRf
      have i1 : ¬ (m : Int) < (n : Int) := by omega
      clear HR HV e
      go_wp2
      go_ret
      exact ⟨rfl, rfl⟩

/-- leaves copied over others -/
theorem run_copy_leaves (w : World) (ty : TypeId) (b o n dCap sCap : Nat) (a : Addr) (cs : List Value) (hn : cs.length = n * 2)
    (hsrc : ∀ j v, cs[j]? = some v → w.cell? (a.add j) = some v) (hc : ∀ j, j < cs.length → (w.cell? ⟨b, o + j, none⟩).isSome = true) (hf : ∀ j, j < cs.length → w.frozen? ⟨b, o + j, none⟩ = false) (h1 : ∀ v ∈ cs, v.oneCell' = true) :
    (Builtin.copy_ #[24, 24] ty #[.slice (some ⟨b, o, none⟩) n dCap, .slice (some a) n sCap]).run Try.prog w = .ok (.int .i64 (n : Int)) (w.setCells b o cs) := by
  obtain ⟨i0, hi, hz0, hz1, hz2⟩ := info_parts Try.infoLeaf
  have hl := run_firstCells_some (P := Try.prog) w 2 n a n sCap cs hn hsrc
  have hst := run_storeCells_cells (P := Try.prog) b o cs 0 w (by simpa using hc) (by simpa using hf) h1
  simp [Builtin.copy_, run_underlying Try.underlying24, Builtin.lenOf, sizeOf, typeInfo, hi, hz1, hl, hst, goInt]
theorem run_copy_noleaf (w : World) (ty : TypeId) (d a : Option Addr) (dCap sCap : Nat) :
    (Builtin.copy_ #[24, 24] ty #[.slice d 0 dCap, .slice a 0 sCap]).run Try.prog w = .ok (.int .i64 0) w := by
  obtain ⟨i0, hi, hz0, hz1, hz2⟩ := info_parts Try.infoLeaf
  have hl : ∀ (x : Addr), (loadCells x 0).run Try.prog w = .ok #[] w := fun x => by simpa using run_loadCells_list (P := Try.prog) w x [] (by simp)
  cases d <;> cases a <;> simp [Builtin.copy_, run_underlying Try.underlying24, Builtin.lenOf, Builtin.firstCells, sizeOf, typeInfo, hi, storeCells, hl, goInt]

/-- the first s leaves of A lie in the room -/
def RmI (A : List Le) (gr s : Nat) (W : World) : Prop := (∀ j (h : j < A.length), j < s → W.rangeAt gr (j * 2) (lcs A[j])) ∧ (∀ j, j < 24 → W.there gr (j * 2) 2) ∧ gr < W.heap.size
theorem RmI.later {A : List Le} {gr s : Nat} {W W' : World} (h : RmI A gr s W) (hb : Below W.heap.size W W') : RmI A gr s W' :=
  ⟨fun j hj hjs => range_kept (h.1 j hj hjs) (hb.block gr h.2.2), fun j hj => there_kept (h.2.1 j hj) (hb.block gr h.2.2), Nat.lt_of_lt_of_le h.2.2 hb.size⟩
theorem flat_range {w : World} {g o : Nat} {p : List Le} (h : w.rangeAt g o (p.flatMap lcs)) (j : Nat) (hj : j < p.length) : w.rangeAt g (o + j * 2) (lcs p[j]) := by
  intro i u hu
  have hi : i < 2 := by have := (List.getElem?_eq_some_iff.1 hu).1; rw [lcs_len] at this; exact this
  have := h (j * 2 + i) u (by rw [flat_at (k := 2) (enc := lcs) (fun x => lcs_len x) p j hj i hi]; exact hu)
  rw [← Nat.add_assoc] at this
  exact this
theorem RmI.step {A p : List Le} {gr s : Nat} {W : World} (h : RmI A gr s W) (hs : s + p.length ≤ 24) (hA : ∀ j (hj : j < p.length), ∃ h : s + j < A.length, A[s + j] = p[j]) : RmI A gr (s + p.length) (W.setCells gr (s * 2) (p.flatMap lcs)) := by
  have hfl := flat_len (k := 2) (enc := lcs) (fun x => lcs_len x) p
  refine ⟨fun j hj hjs => ?_, fun j hj => World.there_setCells (h.2.1 j hj) _ _ _, by rw [size_setCells]; exact h.2.2⟩
  rcases Nat.lt_or_ge j s with h1 | h1
  · exact World.rangeAt_setCells_apart (h.1 j hj h1) _ _ _ (.inr (.inl (by rw [lcs_len]; omega)))
  · have hr : (W.setCells gr (s * 2) (p.flatMap lcs)).rangeAt gr (s * 2) (p.flatMap lcs) := by
      refine World.rangeAt_setCells_same _ _ _ _ ?_
      intro i hi
      have := h.2.1 (s + i / 2) (by omega) (i % 2) (by omega)
      rw [show (s + i / 2) * 2 + i % 2 = s * 2 + i by omega] at this
      exact this
    have hr2 := flat_range hr (j - s) (by omega)
    obtain ⟨h3, h4⟩ := hA (j - s) (by omega)
    have e : A[j] = p[j - s]'(by omega) := by rw [← h4]; congr 1; omega
    rw [e]
    rw [show s * 2 + (j - s) * 2 = j * 2 by omega] at hr2
    exact hr2

def YjO (w : World) (P : List (List Le)) (gr : Nat) (x i : Value) (wr : World) : Prop := ∃ m : Nat, m ≤ P.length ∧ i = .int .i64 m ∧ x = .int .i64 ((P.take m).flatten.length : Int) ∧ Hid (RmI P.flatten gr (P.take m).flatten.length wr ∧ Below w.heap.size w wr ∧ w.heap.size ≤ gr)

set_option maxRecDepth 100000 in
set_option maxHeartbeats 1000000 in
theorem joined_any (v : Value) (g o : Nat) (P : List (List Le)) (w : World) (hv : PS w v g o P) (h24 : P.flatten.length ≤ 24) :
    Calls Try.prog 17 #[v] w fun e w' => ∃ gr, e = .returned (.slice (some ⟨gr, 0, none⟩) P.flatten.length P.flatten.length) ∧ w.heap.size ≤ gr ∧ RW 2 lcs w' (.slice (some ⟨gr, 0, none⟩) P.flatten.length P.flatten.length) gr P.flatten ∧ gr < w'.heap.size ∧ Below w.heap.size w w' := by
  have HV : Hid (PS w v g o P) := hv
  obtain ⟨A, hAA⟩ : ∃ A, P.flatten = A := ⟨_, rfl⟩
  have HAA : Hid (P.flatten = A) := hAA
  have h24P : Hid (P.flatten.length ≤ 24) := h24
  rw [hAA] at h24 ⊢
  obtain ⟨a, cap, rfl, hl, hA, _⟩ := hv
  obtain ⟨n, hn⟩ : ∃ n, P.length = n := ⟨_, rfl⟩
  have HA : Hid (0 < n → a = some ⟨g, o, none⟩) := by rw [← hn]; exact fun h => (hA h).1
  have HN : Hid (P.length = n) := hn
  obtain ⟨w2, hmk0, hib, hb2, hs2⟩ := made_leaves 24 (by omega) w
  have hmk : (Instr.makeSlice 24 (.int .i64 24) (.int .i64 24)).run Try.prog w = .ok (.slice (some ⟨w.heap.size, 0, none⟩) 24 24) w2 := hmk0
  have HST : Hid (YjO w P w.heap.size (.int .i64 0) (.int .i64 0) w2) := ⟨0, by omega, rfl, rfl, ⟨fun j _ h => absurd h (by simp), hib, by omega⟩, hb2, Nat.le_refl _⟩
  rw [hn] at hl HV ⊢
  clear hA hn hmk0 hib hb2
  obtain ⟨gr, hgr⟩ : ∃ gr, w.heap.size = gr := ⟨_, rfl⟩
  rw [hgr] at hmk HST
  go_enter Try.func17, Try.ntmps17
  go_wp2
  clear hmk
  go_loopw [4, 11] (fun x i wr => YjO w P gr x i wr) (fun _ i _ => n - (intOf i).toNat)
  case atStart => exact HST.out
  case round =>
    obtain ⟨m, hm, rfl, rfl, HI⟩ := hrel
    clear HST
    rw [HN.out] at hm
    by_cases hlt : m < n
    · have ea := HA.out (by omega)
      subst ea
      have hmP : m < P.length := by rw [HN.out]; exact hlt
      have hbel := HI.out.2.1
      obtain ⟨aj, cj, gj, oj, c0, hrj⟩ := (HV.out.later hbel).at m hmP
      have hst := congrArg List.length (parts_step hmP)
      rw [List.length_append] at hst
      have hpl := parts_len hmP
      have h24 := h24P.out
      have i1 : (m : Int) < (n : Int) := by omega
      have i2 : (0 : Int) ≤ (m : Int) := by omega
      have hAp : ∀ j (hj : j < P[m].length), ∃ h : (P.take m).flatten.length + j < P.flatten.length, P.flatten[(P.take m).flatten.length + j] = P[m][j] := fun j hj => by
        obtain ⟨R, hR⟩ := parts_split hmP hj
        refine ⟨by omega, ?_⟩
        have e1 : ((P.take m).flatten ++ P[m].take j).length = (P.take m).flatten.length + j := by rw [List.length_append, List.length_take]; omega
        have e2 : P.flatten[(P.take m).flatten.length + j]? = some P[m][j] := by
          rw [hR, List.getElem?_append_right (by omega), e1, Nat.sub_self]
          rfl
        rw [List.getElem?_eq_getElem (by omega)] at e2
        simpa using e2
      have hstep := HI.out.1.step (p := P[m]) (by omega) hAp
      have HNX : Hid (∀ W, RmI P.flatten gr ((P.take m).flatten.length + P[m].length) W → Below w.heap.size w W → YjO w P gr (.int .i64 (((P.take m).flatten.length : Int) + (P[m].length : Int))) (.int .i64 ((m : Int) + 1)) W) := fun W h1 h2 => by
        refine ⟨m + 1, by omega, by simp, by rw [hst]; simp, ?_, h2, HI.out.2.2⟩
        rw [hst]
        exact h1
      have hB := HI.out.2.2
      have hth : ∀ j, j < (P[m].flatMap lcs).length → (wr.cell? ⟨gr, (P.take m).flatten.length * 2 + j, none⟩).isSome = true ∧ wr.frozen? ⟨gr, (P.take m).flatten.length * 2 + j, none⟩ = false := fun j hj => by
        rw [flat_len (k := 2) (enc := lcs) (fun x => lcs_len x)] at hj
        have := HI.out.1.2.1 ((P.take m).flatten.length + j / 2) (by omega) (j % 2) (by omega)
        rw [show ((P.take m).flatten.length + j / 2) * 2 + j % 2 = (P.take m).flatten.length * 2 + j by omega] at this
        exact this
      generalize P[m] = p at *
      generalize (P.take m).flatten.length = s at *
      obtain ⟨q, hq⟩ : ∃ q, p.length = q := ⟨_, rfl⟩
      have hfl := flat_len (k := 2) (enc := lcs) (fun x => lcs_len x) p
      by_cases hq0 : q = 0
      · have hp0 : p = [] := List.length_eq_zero_iff.1 (by omega)
        have HK : Hid (YjO w P gr (.int .i64 (s : Int)) (.int .i64 ((m : Int) + 1)) wr) := by
          have h1 := HNX.out wr (by rw [hp0]; exact HI.out.1) hbel
          rw [hp0] at h1
          have h2 : YjO w P gr (.int .i64 (s : Int)) (.int .i64 ((m : Int) + 1)) wr := by simpa using h1
          exact h2
        rw [hq, hq0] at c0
        have hcp := run_copy_noleaf wr 3 (some ⟨gr, 0, none⟩) aj 0 cj
        have j1 : (0 : Int) ≤ (s : Int) := by omega
        have j2 : (s : Int) ≤ 24 := by omega
        clear HI HNX hstep hAp hth hfl hrj hst hpl hp0 hq hbel
        go_wp2
        go_roundw
        case rel => exact HK.out
        case measure => simp [intOf]; omega
      · obtain ⟨a', c', ev, _, hA', hcs⟩ := id hrj
        have ea' := (hA' (by omega)).1
        have ej : aj = some ⟨gj, oj, none⟩ := by simp at ev; rw [ev.1, ea']
        subst ej
        have hcp := run_copy_leaves wr 3 gr (s * 2) q q cj ⟨gj, oj, none⟩ (p.flatMap lcs) (by rw [hfl, hq]) (fun j u hj => by rw [Addr.add_mid]; exact flat_cellsL hcs j u hj) (fun j hj => (hth j hj).1) (fun j hj => (hth j hj).2) oneL
        have HK : Hid (YjO w P gr (.int .i64 ((s : Int) + (q : Int))) (.int .i64 ((m : Int) + 1)) (wr.setCells gr (s * 2) (p.flatMap lcs))) := by
          have h1 := HNX.out _ hstep (below_setCells hB _ _ _ hbel)
          rw [hq] at h1
          exact h1
        rw [hq] at c0 hpl
        generalize p.flatMap lcs = CS at *
        have j1 : (0 : Int) ≤ (s : Int) := by omega
        have j2 : (s : Int) + (q : Int) ≤ 24 := by omega
        have j3 : (s : Int) ≤ (s : Int) + (q : Int) := by omega
        have j4 : (0 : Int) ≤ (s : Int) + (q : Int) := by omega
        clear HI HNX hstep hAp hth hfl hrj hst hq hbel ev hA' hcs ea'
        go_wp2
        go_roundw
        case rel => exact HK.out
        case measure => simp [intOf]; omega
    · have e : (P.take m).flatten = A := by rw [List.take_of_length_le (by rw [HN.out]; omega)]; exact HAA.out
      rw [e, HAA.out] at HI
      rw [e]
      have i1 : ¬ (m : Int) < (n : Int) := by omega
      obtain ⟨nf, hnf⟩ : ∃ n, A.length = n := ⟨_, rfl⟩
      have HF : Hid (w.heap.size ≤ gr ∧ RW 2 lcs wr (.slice (some ⟨gr, 0, none⟩) A.length A.length) gr A ∧ gr < wr.heap.size ∧ Below w.heap.size w wr) := by
        refine ⟨HI.out.2.2, ⟨⟨_, _, rfl, by omega, fun _ => ⟨rfl, HI.out.1.2.2⟩, fun j hj => ?_⟩, fun j hj => HI.out.1.2.1 j (by omega)⟩, HI.out.1.2.2, HI.out.2.1⟩
        rw [Nat.zero_add]
        exact HI.out.1.1 j hj hj
      have HNF : Hid (A.length = nf) := hnf
      rw [hnf] at h24 ⊢
      have j1 : (0 : Int) ≤ (nf : Int) := by omega
      have j2 : (nf : Int) ≤ 24 := by omega
      clear HI e HV hnf hAA
      go_wp2
      go_ret
      have h1 := HF.out
      rw [HNF.out, hgr] at h1
      rw [HNF.out]
      exact ⟨gr, rfl, h1⟩

end Go.Proofs.Ytmcejkfknbjjkaa
