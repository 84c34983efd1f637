/-
  What the forms of a signature are held against: how many texts, how wide, the program's and the specification's.
-/
import Derived.Test.YteejjnpemaghcaaVar
import Derived.Test.YteejjnpemaghcaaTxt
namespace Go.Proofs.Yteejjnpemaghcaa
open Go.RowKit Go.BigFrame
set_option linter.unusedVariables false

/-- each text is sixteen bytes wide -/
def kwB (l : List ByteArray) : Bool := l.all (fun p => decide (p.size = 16))
theorem kwB_no (l : List ByteArray) (m : Nat) (h : m < l.length) (hb : l[m].size ≠ 16) : kwB l = false := by
  unfold kwB
  rw [List.all_eq_false]
  exact ⟨l[m], List.getElem_mem _, by simpa using hb⟩
theorem kwB_yes (l : List ByteArray) (h : ∀ j (h : j < l.length), l[j].size = 16) : kwB l = true := by
  unfold kwB
  rw [List.all_eq_true]
  intro x hx
  obtain ⟨j, hj, rfl⟩ := List.getElem_of_mem hx
  simpa using h j hj
theorem kwB_at {l : List ByteArray} (h : kwB l = true) (j : Nat) (hj : j < l.length) : l[j].size = 16 := by
  unfold kwB at h
  rw [List.all_eq_true] at h
  simpa using h l[j] (List.getElem_mem _)

def KwR (l : List ByteArray) (w : World) (i : Value) (wr : World) : Prop :=
  ∃ m : Nat, m ≤ l.length ∧ i = .int .i64 m ∧ Hid (∀ j (h : j < l.length), j < m → l[j].size = 16) ∧ wr = w
theorem kw_step {l : List ByteArray} {m : Nat} (hm : m < l.length) (hp : l[m].size = 16) (h : ∀ j (h : j < l.length), j < m → l[j].size = 16) : Hid (∀ j (h : j < l.length), j < m + 1 → l[j].size = 16) := by
  intro j hj hlt
  rcases Nat.lt_or_ge j m with h1 | h1
  · exact h j hj h1
  · have : j = m := by omega
    subst this
    exact hp

set_option maxRecDepth 100000 in
set_option maxHeartbeats 400000 in
theorem allWide_16 (v : Value) (ga oa : Nat) (l : List ByteArray) (w : World) (hv : SS w v ga oa l) :
    Calls Try.prog 26 #[v, .int .i64 16] w fun e w' => e = .returned (.bool (kwB l)) ∧ w' = w := by
  obtain ⟨a, cap, rfl, hl, hA, hc⟩ := hv
  obtain ⟨n, hn⟩ : ∃ n, l.length = n := ⟨_, rfl⟩
  have HA : Hid (0 < n → a = some ⟨ga, oa, none⟩) := by rw [← hn]; exact hA
  have HC : Hid (∀ j (h : j < l.length), w.cell? ⟨ga, oa + j, none⟩ = some (.string l[j])) := hc
  have HST : Hid (KwR l w (.int .i64 0) w) := ⟨0, by omega, rfl, by intro j _ h; omega, rfl⟩
  obtain ⟨R, hR⟩ : ∃ R, kwB l = R := ⟨_, rfl⟩
  have HR : Hid (kwB l = R) := hR
  rw [hn] at hl ⊢
  rw [hR]
  clear hA hc hR
  go_enter Try.func26, Try.ntmps26
  go_wp2
  go_loopw [9] (fun i wr => KwR l w i wr) (fun i _ => n - (intOf i).toNat)
  case atStart => exact HST.out
  case round =>
    obtain ⟨m, hm, rfl, HI, rfl⟩ := hrel
    rw [hn] at hm
    clear HST
    by_cases hlt : m < n
    · have ea := HA.out (by omega)
      subst ea
      have c0 := HC.out m (by omega)
      have i1 : (m : Int) < (n : Int) := by omega
      have i2 : (0 : Int) ≤ (m : Int) := by omega
      by_cases hx : (l[m]'(by omega)).size = 16
      · have HI2 := kw_step (show m < l.length by omega) hx HI.out
        have q : (((l[m]'(by omega)).size : Int) != 16) = false := by simp; omega
        clear HI HR HC HA hx
        generalize l[m]'(by omega) = X at *
        go_wp2
        go_roundw
        case rel => exact ⟨m + 1, by omega, by go_num, HI2, rfl⟩
        case measure => simp [intOf]; omega
      · have hF := kwB_no l m (by omega) hx
        rw [HR.out] at hF
        subst hF
        have q : (((l[m]'(by omega)).size : Int) != 16) = true := by simp; omega
        clear HI HR HC HA hx
        generalize l[m]'(by omega) = X at *
        go_wp2
        try rw [Exit.noGoto_ret]
        go_ret
        exact ⟨rfl, rfl⟩
    · have hme : m = n := by omega
      have hF := kwB_yes l (fun j hj => HI.out j hj (by omega))
      rw [HR.out] at hF
      subst hF
      subst hme
      clear HI HR HC HA
      go_wp2
      go_ret
      exact ⟨rfl, rfl⟩

set_option maxRecDepth 100000 in
set_option maxHeartbeats 400000 in
theorem l05Wide_any (v : Value) (x : Int) (k : Nat) (ga oa : Nat) (l : List ByteArray) (w : World) (hx : x = (k : Int)) (hv : SS w v ga oa l) :
    Calls Try.prog 25 #[v, .int .i64 x] w fun e w' => e = .returned (.bool (kwB l && decide (l.length = k))) ∧ w' = w := by
  subst hx
  obtain ⟨a, cap, rfl, hl, hA, hc⟩ := hv
  obtain ⟨n, hn⟩ : ∃ n, l.length = n := ⟨_, rfl⟩
  have HA : Hid (0 < n → a = some ⟨ga, oa, none⟩) := by rw [← hn]; exact hA
  have HC : Hid (∀ j (h : j < l.length), w.cell? ⟨ga, oa + j, none⟩ = some (.string l[j])) := hc
  have HST : Hid (KwR l w (.int .i64 0) w) := ⟨0, by omega, rfl, by intro j _ h; omega, rfl⟩
  obtain ⟨R, hR⟩ : ∃ R, kwB l = R := ⟨_, rfl⟩
  have HR : Hid (kwB l = R) := hR
  rw [hn] at hl ⊢
  rw [hR]
  clear hA hc hR
  go_enter Try.func25, Try.ntmps25
  go_wp2
  go_loopw [5] (fun i wr => KwR l w i wr) (fun i _ => n - (intOf i).toNat)
  case atStart => exact HST.out
  case round =>
    obtain ⟨m, hm, rfl, HI, rfl⟩ := hrel
    rw [hn] at hm
    clear HST
    by_cases hlt : m < n
    · have ea := HA.out (by omega)
      subst ea
      have c0 := HC.out m (by omega)
      have i1 : (m : Int) < (n : Int) := by omega
      have i2 : (0 : Int) ≤ (m : Int) := by omega
      by_cases hx : (l[m]'(by omega)).size = 16
      · have HI2 := kw_step (show m < l.length by omega) hx HI.out
        have q : (((l[m]'(by omega)).size : Int) != 16) = false := by simp; omega
        clear HI HR HC HA hx
        generalize l[m]'(by omega) = X at *
        go_wp2
        go_roundw
        case rel => exact ⟨m + 1, by omega, by go_num, HI2, rfl⟩
        case measure => simp [intOf]; omega
      · have hF := kwB_no l m (by omega) hx
        rw [HR.out] at hF
        subst hF
        have q : (((l[m]'(by omega)).size : Int) != 16) = true := by simp; omega
        clear HI HR HC HA hx
        generalize l[m]'(by omega) = X at *
        go_wp2
        try rw [Exit.noGoto_ret]
        go_ret
        exact ⟨rfl, rfl⟩
    · have hme : m = n := by omega
      have hF := kwB_yes l (fun j hj => HI.out j hj (by omega))
      rw [HR.out] at hF
      subst hF
      subst hme
      clear HI HR HC HA hn
      by_cases hk : m = k
      · have q : ((m : Int) == (k : Int)) = true := by simp; omega
        go_wp2
        go_ret
        exact ⟨by simp [hk], rfl⟩
      · have q : ((m : Int) == (k : Int)) = false := by simp; omega
        go_wp2
        go_ret
        exact ⟨by simp [hk], rfl⟩

/-- the form that a signature must have -/
def formB (a : Int) (o s d : List ByteArray) : Bool := decide (0 ≤ a ∧ a ≤ 15) && ((kwB o && decide (o.length = 8)) && ((kwB s && decide (s.length = 8)) && (kwB d && decide (d.length = 4))))
theorem formB_parts {a : Int} {o s d : List ByteArray} (h : formB a o s d = true) : (0 ≤ a ∧ a ≤ 15) ∧ (kwB o = true ∧ o.length = 8) ∧ (kwB s = true ∧ s.length = 8) ∧ (kwB d = true ∧ d.length = 4) := by
  unfold formB at h
  simpa only [Bool.and_eq_true, decide_eq_true_eq] using h
theorem formB_mk {a : Int} {o s d : List ByteArray} (h : (0 ≤ a ∧ a ≤ 15) ∧ (kwB o = true ∧ o.length = 8) ∧ (kwB s = true ∧ s.length = 8) ∧ (kwB d = true ∧ d.length = 4)) : formB a o s d = true := by
  unfold formB
  simpa only [Bool.and_eq_true, decide_eq_true_eq] using h

set_option maxRecDepth 100000 in
set_option maxHeartbeats 1000000 in
theorem l05Form_any (a : Int) (vo vs vd : Value) (g1 o1 g2 o2 g3 o3 : Nat) (o s d : List ByteArray) (w : World) (ho : SS w vo g1 o1 o) (hs : SS w vs g2 o2 s) (hd : SS w vd g3 o3 d) :
    Calls Try.prog 15 #[.agg #[.int .i64 a, vo, vs, vd]] w fun e w' => e = .returned (.bool (formB a o s d)) ∧ Below w.heap.size w w' := by
  have hb : Below w.heap.size w (w.alloc (.cells #[.int .i64 a, vo, vs, vd] 28)) := (Below.refl _ _).alloc (Nat.le_refl _) _
  have H1 : Hid (Calls Try.prog 25 #[vo, .int .i64 8] (w.alloc (.cells #[.int .i64 a, vo, vs, vd] 28)) fun e w' => e = .returned (.bool (kwB o && decide (o.length = 8))) ∧ w' = (w.alloc (.cells #[.int .i64 a, vo, vs, vd] 28))) := l05Wide_any vo 8 8 g1 o1 o _ rfl (ho.below hb ho.lt)
  have H2 : Hid (Calls Try.prog 25 #[vs, .int .i64 8] (w.alloc (.cells #[.int .i64 a, vo, vs, vd] 28)) fun e w' => e = .returned (.bool (kwB s && decide (s.length = 8))) ∧ w' = (w.alloc (.cells #[.int .i64 a, vo, vs, vd] 28))) := l05Wide_any vs 8 8 g2 o2 s _ rfl (hs.below hb hs.lt)
  have H3 : Hid (Calls Try.prog 25 #[vd, .int .i64 4] (w.alloc (.cells #[.int .i64 a, vo, vs, vd] 28)) fun e w' => e = .returned (.bool (kwB d && decide (d.length = 4))) ∧ w' = (w.alloc (.cells #[.int .i64 a, vo, vs, vd] 28))) := l05Wide_any vd 4 4 g3 o3 d _ rfl (hd.below hb hd.lt)
  have HB : Hid (Below w.heap.size w (w.alloc (.cells #[.int .i64 a, vo, vs, vd] 28))) := hb
  unfold formB
  generalize (kwB o && decide (o.length = 8)) = A1 at *
  generalize (kwB s && decide (s.length = 8)) = A2 at *
  generalize (kwB d && decide (d.length = 4)) = A3 at *
  generalize hA0 : decide (0 ≤ a ∧ a ≤ 15) = A0
  obtain ⟨ao, co, rfl, _⟩ := ho
  obtain ⟨as2, cs2, rfl, _⟩ := hs
  obtain ⟨ad, cd, rfl, _⟩ := hd
  clear hb
  go_enter Try.func15, Try.ntmps15
  go_wp2_with fail
  refine (l01In_any _ _ _ _).mono ?_
  rintro e w' ⟨rfl, rfl⟩
  rw [hA0]
  clear hA0
  cases A0 with
  | false =>
    go_wp2
    go_ret
    exact ⟨by simp, HB.out⟩
  | true =>
    go_wp2_with fail
    refine H1.out.mono ?_
    rintro e w' ⟨rfl, rfl⟩
    cases A1 with
    | false =>
      go_wp2
      go_ret
      exact ⟨by simp, HB.out⟩
    | true =>
      go_wp2_with fail
      refine H2.out.mono ?_
      rintro e w' ⟨rfl, rfl⟩
      cases A2 with
      | false =>
        go_wp2
        go_ret
        exact ⟨by simp, HB.out⟩
      | true =>
        go_wp2_with fail
        refine H3.out.mono ?_
        rintro e w' ⟨rfl, rfl⟩
        cases A3 with
        | false =>
          go_wp2
          go_ret
          exact ⟨by simp, HB.out⟩
        | true =>
          go_wp2
          go_ret
          exact ⟨by simp, HB.out⟩

theorem inPool_f (x : Int) (w : World) : Calls Try.prog 20 #[.int .i64 x] w fun e w' => e = .returned (.bool (decide (0 ≤ x ∧ x ≤ 15))) ∧ w' = w := by
  by_cases h1 : x < 0
  · have hd : decide (0 ≤ x ∧ x ≤ 15) = false := by simp; omega
    rw [hd]
    go_enter Try.func20, Try.ntmps20
    go_wp2
    go_ret
    exact ⟨rfl, rfl⟩
  · by_cases h2 : x < 16
    · have hd : decide (0 ≤ x ∧ x ≤ 15) = true := by simp; omega
      rw [hd]
      go_enter Try.func20, Try.ntmps20
      go_wp2
      go_ret
      exact ⟨rfl, rfl⟩
    · have hd : decide (0 ≤ x ∧ x ≤ 15) = false := by simp; omega
      rw [hd]
      go_enter Try.func20, Try.ntmps20
      go_wp2
      go_ret
      exact ⟨rfl, rfl⟩

set_option maxRecDepth 100000 in
set_option maxHeartbeats 1000000 in
theorem sigFormOk_any (a : Int) (vo vs vd : Value) (g1 o1 g2 o2 g3 o3 : Nat) (o s d : List ByteArray) (w : World) (ho : SS w vo g1 o1 o) (hs : SS w vs g2 o2 s) (hd : SS w vd g3 o3 d) :
    Calls Try.prog 17 #[.agg #[.int .i64 a, vo, vs, vd]] w fun e w' => e = .returned (.bool (formB a o s d)) ∧ Below w.heap.size w w' := by
  have H1 : Hid (∀ W, Below w.heap.size w W → Calls Try.prog 26 #[vo, .int .i64 16] W fun e w' => e = .returned (.bool (kwB o)) ∧ w' = W) := fun W hW => allWide_16 vo g1 o1 o _ (ho.below hW ho.lt)
  have H2 : Hid (∀ W, Below w.heap.size w W → Calls Try.prog 26 #[vs, .int .i64 16] W fun e w' => e = .returned (.bool (kwB s)) ∧ w' = W) := fun W hW => allWide_16 vs g2 o2 s _ (hs.below hW hs.lt)
  have H3 : Hid (∀ W, Below w.heap.size w W → Calls Try.prog 26 #[vd, .int .i64 16] W fun e w' => e = .returned (.bool (kwB d)) ∧ w' = W) := fun W hW => allWide_16 vd g3 o3 d _ (hd.below hW hd.lt)
  unfold formB
  generalize kwB o = A1 at *
  generalize kwB s = A2 at *
  generalize kwB d = A3 at *
  generalize hA0 : decide (0 ≤ a ∧ a ≤ 15) = A0
  obtain ⟨ao, co, rfl, hlo, hx1⟩ := ho
  obtain ⟨as2, cs2, rfl, hls, hx2⟩ := hs
  obtain ⟨ad, cd, rfl, hld, hx3⟩ := hd
  clear hx1 hx2 hx3
  generalize o.length = n1 at *
  generalize s.length = n2 at *
  generalize d.length = n3 at *
  have HB : Hid (∀ x y z : Obj, Below w.heap.size w (((w.alloc x).alloc y).alloc z)) := fun x y z => (((Below.refl _ _).alloc (Nat.le_refl _) _).alloc (by simp) _).alloc (by simp; omega) _
  by_cases h1 : (n1 : Int) = 8
  · by_cases h2 : (n2 : Int) = 8
    · by_cases h3 : (n3 : Int) = 4
      · obtain rfl : n1 = 8 := by omega
        obtain rfl : n2 = 8 := by omega
        obtain rfl : n3 = 4 := by omega
        clear h1 h2 h3 hlo hls hld
        go_enter Try.func17, Try.ntmps17
        go_wp2_with fail
        refine (inPool_f _ _).mono ?_
        rintro e w1 ⟨rfl, rfl⟩
        rw [hA0]
        clear hA0
        cases A0 with
        | false =>
          go_wp2
          go_ret
          exact ⟨by simp, HB.out _ _ _⟩
        | true =>
          go_wp2_with fail
          refine (H1.out _ (HB.out _ _ _)).mono ?_
          rintro e w1 ⟨rfl, rfl⟩
          cases A1 with
          | false =>
            go_wp2
            go_ret
            exact ⟨by simp, HB.out _ _ _⟩
          | true =>
            go_wp2_with fail
            refine (H2.out _ (HB.out _ _ _)).mono ?_
            rintro e w1 ⟨rfl, rfl⟩
            cases A2 with
            | false =>
              go_wp2
              go_ret
              exact ⟨by simp, HB.out _ _ _⟩
            | true =>
              go_wp2_with fail
              refine (H3.out _ (HB.out _ _ _)).mono ?_
              rintro e w1 ⟨rfl, rfl⟩
              go_wp2
              go_ret
              exact ⟨by simp, HB.out _ _ _⟩
      · obtain rfl : n1 = 8 := by omega
        obtain rfl : n2 = 8 := by omega
        have hF : (A0 && ((A1 && decide ((8 : Nat) = 8)) && ((A2 && decide ((8 : Nat) = 8)) && (A3 && decide (n3 = 4))))) = false := by
          rw [decide_eq_false (show ¬ n3 = 4 by omega)]; simp
        rw [hF]
        clear h1 h2 hlo hls hF
        go_enter Try.func17, Try.ntmps17
        go_wp2_with fail
        refine (inPool_f _ _).mono ?_
        rintro e w1 ⟨rfl, rfl⟩
        rw [hA0]
        clear hA0
        cases A0 with
        | false =>
          go_wp2
          go_ret
          exact ⟨by simp, HB.out _ _ _⟩
        | true =>
          go_wp2
          go_ret
          exact ⟨by simp, HB.out _ _ _⟩
    · obtain rfl : n1 = 8 := by omega
      have hF : (A0 && ((A1 && decide ((8 : Nat) = 8)) && ((A2 && decide (n2 = 8)) && (A3 && decide (n3 = 4))))) = false := by
        rw [decide_eq_false (show ¬ n2 = 8 by omega)]; simp
      rw [hF]
      clear h1 hlo hF
      go_enter Try.func17, Try.ntmps17
      go_wp2_with fail
      refine (inPool_f _ _).mono ?_
      rintro e w1 ⟨rfl, rfl⟩
      rw [hA0]
      clear hA0
      cases A0 with
      | false =>
        go_wp2
        go_ret
        exact ⟨by simp, HB.out _ _ _⟩
      | true =>
        go_wp2
        go_ret
        exact ⟨by simp, HB.out _ _ _⟩
  · have hF : (A0 && ((A1 && decide (n1 = 8)) && ((A2 && decide (n2 = 8)) && (A3 && decide (n3 = 4))))) = false := by
      rw [decide_eq_false (show ¬ n1 = 8 by omega)]; simp
    rw [hF]
    clear hF
    go_enter Try.func17, Try.ntmps17
    go_wp2_with fail
    refine (inPool_f _ _).mono ?_
    rintro e w1 ⟨rfl, rfl⟩
    rw [hA0]
    clear hA0
    cases A0 with
    | false =>
      go_wp2
      go_ret
      exact ⟨by simp, HB.out _ _ _⟩
    | true =>
      go_wp2
      go_ret
      exact ⟨by simp, HB.out _ _ _⟩

end Go.Proofs.Yteejjnpemaghcaa
