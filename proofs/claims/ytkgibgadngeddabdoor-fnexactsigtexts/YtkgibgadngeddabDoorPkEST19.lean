/-
  Texts laid together: Form, Sgx.
-/
import Derived.Test.YtkgibgadngeddabDoorPkEST1
import Derived.Test.YtkgibgadngeddabDoorPkEST2
import Derived.Test.YtkgibgadngeddabDoorPkEST18
import Derived.Deep.AppendLies
/-
  What the forms of a signature are held against: how many texts, how wide, the program's and the specification's.
-/
namespace Go.Proofs.YtkgibgadngeddabDoor
open Go.RowKit Go.BigFrame
set_option linter.unusedVariables false

/-- each text is sixteen bytes wide -/
def kwB (l : List ByteArray) : Bool := l.all (fun p => decide (p.size = 16))
theorem kwB_no (l : List ByteArray) (m : Nat) (h : m < l.length) (hb : l[m].size ≠ 16) : kwB l = false := by
  unfold kwB
  rw [List.all_eq_false]
  exact ⟨l[m], List.getElem_mem _, by simpa using hb⟩
theorem kwB_yes (l : List ByteArray) (h : ∀ j (h : j < l.length), l[j].size = 16) : kwB l = true := by
  unfold kwB
  rw [List.all_eq_true]
  intro x hx
  obtain ⟨j, hj, rfl⟩ := List.getElem_of_mem hx
  simpa using h j hj
theorem kwB_at {l : List ByteArray} (h : kwB l = true) (j : Nat) (hj : j < l.length) : l[j].size = 16 := by
  unfold kwB at h
  rw [List.all_eq_true] at h
  simpa using h l[j] (List.getElem_mem _)

def KwR (l : List ByteArray) (w : World) (i : Value) (wr : World) : Prop :=
  ∃ m : Nat, m ≤ l.length ∧ i = .int .i64 m ∧ Hid (∀ j (h : j < l.length), j < m → l[j].size = 16) ∧ wr = w
theorem kw_step {l : List ByteArray} {m : Nat} (hm : m < l.length) (hp : l[m].size = 16) (h : ∀ j (h : j < l.length), j < m → l[j].size = 16) : Hid (∀ j (h : j < l.length), j < m + 1 → l[j].size = 16) := by
  intro j hj hlt
  rcases Nat.lt_or_ge j m with h1 | h1
  · exact h j hj h1
  · have : j = m := by omega
    subst this
    exact hp

set_option maxRecDepth 100000 in
set_option maxHeartbeats 400000 in
theorem allWide_16 (v : Value) (ga oa : Nat) (l : List ByteArray) (w : World) (hv : SS w v ga oa l) :
    Calls Tryd.prog 33 #[v, .int .i64 16] w fun e w' => e = .returned (.bool (kwB l)) ∧ w' = w := by
  obtain ⟨a, cap, rfl, hl, hA, hc⟩ := hv
  obtain ⟨n, hn⟩ : ∃ n, l.length = n := ⟨_, rfl⟩
  have HA : Hid (0 < n → a = some ⟨ga, oa, none⟩) := by rw [← hn]; exact hA
  have HC : Hid (∀ j (h : j < l.length), w.cell? ⟨ga, oa + j, none⟩ = some (.string l[j])) := hc
  have HST : Hid (KwR l w (.int .i64 0) w) := ⟨0, by omega, rfl, by intro j _ h; omega, rfl⟩
  obtain ⟨R, hR⟩ : ∃ R, kwB l = R := ⟨_, rfl⟩
  have HR : Hid (kwB l = R) := hR
  rw [hn] at hl ⊢
  rw [hR]
  clear hA hc hR
  go_enter Tryd.func33, Tryd.ntmps33
  go_wp2
  go_loopw [9] (fun i wr => KwR l w i wr) (fun i _ => n - (intOf i).toNat)
  case atStart => exact HST.out
  case round =>
    obtain ⟨m, hm, rfl, HI, rfl⟩ := hrel
    rw [hn] at hm
    clear HST
    by_cases hlt : m < n
    · have ea := HA.out (by omega)
      subst ea
      have c0 := HC.out m (by omega)
      have i1 : (m : Int) < (n : Int) := by omega
      have i2 : (0 : Int) ≤ (m : Int) := by omega
      by_cases hx : (l[m]'(by omega)).size = 16
      · have HI2 := kw_step (show m < l.length by omega) hx HI.out
        have q : (((l[m]'(by omega)).size : Int) != 16) = false := by simp; omega
        clear HI HR HC HA hx
        generalize l[m]'(by omega) = X at *
        go_wp2
        go_roundw
        case rel => exact ⟨m + 1, by omega, by go_num, HI2, rfl⟩
        case measure => simp [intOf]; omega
      · have hF := kwB_no l m (by omega) hx
        rw [HR.out] at hF
        subst hF
        have q : (((l[m]'(by omega)).size : Int) != 16) = true := by simp; omega
        clear HI HR HC HA hx
        generalize l[m]'(by omega) = X at *
        go_wp2
        try rw [Exit.noGoto_ret]
        go_ret
        exact ⟨rfl, rfl⟩
    · have hme : m = n := by omega
      have hF := kwB_yes l (fun j hj => HI.out j hj (by omega))
      rw [HR.out] at hF
      subst hF
      subst hme
      clear HI HR HC HA
      go_wp2
      go_ret
      exact ⟨rfl, rfl⟩

set_option maxRecDepth 100000 in
set_option maxHeartbeats 400000 in
theorem l05Wide_any (v : Value) (x : Int) (k : Nat) (ga oa : Nat) (l : List ByteArray) (w : World) (hx : x = (k : Int)) (hv : SS w v ga oa l) :
    Calls Tryd.prog 28 #[v, .int .i64 x] w fun e w' => e = .returned (.bool (kwB l && decide (l.length = k))) ∧ w' = w := by
  subst hx
  obtain ⟨a, cap, rfl, hl, hA, hc⟩ := hv
  obtain ⟨n, hn⟩ : ∃ n, l.length = n := ⟨_, rfl⟩
  have HA : Hid (0 < n → a = some ⟨ga, oa, none⟩) := by rw [← hn]; exact hA
  have HC : Hid (∀ j (h : j < l.length), w.cell? ⟨ga, oa + j, none⟩ = some (.string l[j])) := hc
  have HST : Hid (KwR l w (.int .i64 0) w) := ⟨0, by omega, rfl, by intro j _ h; omega, rfl⟩
  obtain ⟨R, hR⟩ : ∃ R, kwB l = R := ⟨_, rfl⟩
  have HR : Hid (kwB l = R) := hR
  rw [hn] at hl ⊢
  rw [hR]
  clear hA hc hR
  go_enter Tryd.func28, Tryd.ntmps28
  go_wp2
  go_loopw [5] (fun i wr => KwR l w i wr) (fun i _ => n - (intOf i).toNat)
  case atStart => exact HST.out
  case round =>
    obtain ⟨m, hm, rfl, HI, rfl⟩ := hrel
    rw [hn] at hm
    clear HST
    by_cases hlt : m < n
    · have ea := HA.out (by omega)
      subst ea
      have c0 := HC.out m (by omega)
      have i1 : (m : Int) < (n : Int) := by omega
      have i2 : (0 : Int) ≤ (m : Int) := by omega
      by_cases hx : (l[m]'(by omega)).size = 16
      · have HI2 := kw_step (show m < l.length by omega) hx HI.out
        have q : (((l[m]'(by omega)).size : Int) != 16) = false := by simp; omega
        clear HI HR HC HA hx
        generalize l[m]'(by omega) = X at *
        go_wp2
        go_roundw
        case rel => exact ⟨m + 1, by omega, by go_num, HI2, rfl⟩
        case measure => simp [intOf]; omega
      · have hF := kwB_no l m (by omega) hx
        rw [HR.out] at hF
        subst hF
        have q : (((l[m]'(by omega)).size : Int) != 16) = true := by simp; omega
        clear HI HR HC HA hx
        generalize l[m]'(by omega) = X at *
        go_wp2
        try rw [Exit.noGoto_ret]
        go_ret
        exact ⟨rfl, rfl⟩
    · have hme : m = n := by omega
      have hF := kwB_yes l (fun j hj => HI.out j hj (by omega))
      rw [HR.out] at hF
      subst hF
      subst hme
      clear HI HR HC HA hn
      by_cases hk : m = k
      · have q : ((m : Int) == (k : Int)) = true := by simp; omega
        go_wp2
        go_ret
        exact ⟨by simp [hk], rfl⟩
      · have q : ((m : Int) == (k : Int)) = false := by simp; omega
        go_wp2
        go_ret
        exact ⟨by simp [hk], rfl⟩

/-- the form that a signature must have -/
def formB (a : Int) (o s d : List ByteArray) : Bool := decide (0 ≤ a ∧ a ≤ 15) && ((kwB o && decide (o.length = 8)) && ((kwB s && decide (s.length = 8)) && (kwB d && decide (d.length = 4))))
theorem formB_parts {a : Int} {o s d : List ByteArray} (h : formB a o s d = true) : (0 ≤ a ∧ a ≤ 15) ∧ (kwB o = true ∧ o.length = 8) ∧ (kwB s = true ∧ s.length = 8) ∧ (kwB d = true ∧ d.length = 4) := by
  unfold formB at h
  simpa only [Bool.and_eq_true, decide_eq_true_eq] using h
theorem formB_mk {a : Int} {o s d : List ByteArray} (h : (0 ≤ a ∧ a ≤ 15) ∧ (kwB o = true ∧ o.length = 8) ∧ (kwB s = true ∧ s.length = 8) ∧ (kwB d = true ∧ d.length = 4)) : formB a o s d = true := by
  unfold formB
  simpa only [Bool.and_eq_true, decide_eq_true_eq] using h

set_option maxRecDepth 100000 in
set_option maxHeartbeats 1000000 in
theorem l05Form_any (a : Int) (vo vs vd : Value) (g1 o1 g2 o2 g3 o3 : Nat) (o s d : List ByteArray) (w : World) (ho : SS w vo g1 o1 o) (hs : SS w vs g2 o2 s) (hd : SS w vd g3 o3 d) :
    Calls Tryd.prog 14 #[.agg #[.int .i64 a, vo, vs, vd]] w fun e w' => e = .returned (.bool (formB a o s d)) ∧ Below w.heap.size w w' := by
  have hb : Below w.heap.size w (w.alloc (.cells #[.int .i64 a, vo, vs, vd] 27)) := (Below.refl _ _).alloc (Nat.le_refl _) _
  have H1 : Hid (Calls Tryd.prog 28 #[vo, .int .i64 8] (w.alloc (.cells #[.int .i64 a, vo, vs, vd] 27)) fun e w' => e = .returned (.bool (kwB o && decide (o.length = 8))) ∧ w' = (w.alloc (.cells #[.int .i64 a, vo, vs, vd] 27))) := l05Wide_any vo 8 8 g1 o1 o _ rfl (ho.below hb ho.lt)
  have H2 : Hid (Calls Tryd.prog 28 #[vs, .int .i64 8] (w.alloc (.cells #[.int .i64 a, vo, vs, vd] 27)) fun e w' => e = .returned (.bool (kwB s && decide (s.length = 8))) ∧ w' = (w.alloc (.cells #[.int .i64 a, vo, vs, vd] 27))) := l05Wide_any vs 8 8 g2 o2 s _ rfl (hs.below hb hs.lt)
  have H3 : Hid (Calls Tryd.prog 28 #[vd, .int .i64 4] (w.alloc (.cells #[.int .i64 a, vo, vs, vd] 27)) fun e w' => e = .returned (.bool (kwB d && decide (d.length = 4))) ∧ w' = (w.alloc (.cells #[.int .i64 a, vo, vs, vd] 27))) := l05Wide_any vd 4 4 g3 o3 d _ rfl (hd.below hb hd.lt)
  have HB : Hid (Below w.heap.size w (w.alloc (.cells #[.int .i64 a, vo, vs, vd] 27))) := hb
  unfold formB
  generalize (kwB o && decide (o.length = 8)) = A1 at *
  generalize (kwB s && decide (s.length = 8)) = A2 at *
  generalize (kwB d && decide (d.length = 4)) = A3 at *
  generalize hA0 : decide (0 ≤ a ∧ a ≤ 15) = A0
  obtain ⟨ao, co, rfl, _⟩ := ho
  obtain ⟨as2, cs2, rfl, _⟩ := hs
  obtain ⟨ad, cd, rfl, _⟩ := hd
  clear hb
  go_enter Tryd.func14, Tryd.ntmps14
  go_wp2_with fail
  refine (l01In_any _ _ _ _).mono ?_
  rintro e w' ⟨rfl, rfl⟩
  rw [hA0]
  clear hA0
  cases A0 with
  | false =>
    go_wp2
    go_ret
    exact ⟨by simp, HB.out⟩
  | true =>
    go_wp2_with fail
    refine H1.out.mono ?_
    rintro e w' ⟨rfl, rfl⟩
    cases A1 with
    | false =>
      go_wp2
      go_ret
      exact ⟨by simp, HB.out⟩
    | true =>
      go_wp2_with fail
      refine H2.out.mono ?_
      rintro e w' ⟨rfl, rfl⟩
      cases A2 with
      | false =>
        go_wp2
        go_ret
        exact ⟨by simp, HB.out⟩
      | true =>
        go_wp2_with fail
        refine H3.out.mono ?_
        rintro e w' ⟨rfl, rfl⟩
        cases A3 with
        | false =>
          go_wp2
          go_ret
          exact ⟨by simp, HB.out⟩
        | true =>
          go_wp2
          go_ret
          exact ⟨by simp, HB.out⟩

theorem inPool_f (x : Int) (w : World) : Calls Tryd.prog 32 #[.int .i64 x] w fun e w' => e = .returned (.bool (decide (0 ≤ x ∧ x ≤ 15))) ∧ w' = w := by
  by_cases h1 : x < 0
  · have hd : decide (0 ≤ x ∧ x ≤ 15) = false := by simp; omega
    rw [hd]
    go_enter Tryd.func32, Tryd.ntmps32
    go_wp2
    go_ret
    exact ⟨rfl, rfl⟩
  · by_cases h2 : x < 16
    · have hd : decide (0 ≤ x ∧ x ≤ 15) = true := by simp; omega
      rw [hd]
      go_enter Tryd.func32, Tryd.ntmps32
      go_wp2
      go_ret
      exact ⟨rfl, rfl⟩
    · have hd : decide (0 ≤ x ∧ x ≤ 15) = false := by simp; omega
      rw [hd]
      go_enter Tryd.func32, Tryd.ntmps32
      go_wp2
      go_ret
      exact ⟨rfl, rfl⟩

set_option maxRecDepth 100000 in
set_option maxHeartbeats 1000000 in
theorem sigFormOk_any (a : Int) (vo vs vd : Value) (g1 o1 g2 o2 g3 o3 : Nat) (o s d : List ByteArray) (w : World) (ho : SS w vo g1 o1 o) (hs : SS w vs g2 o2 s) (hd : SS w vd g3 o3 d) :
    Calls Tryd.prog 21 #[.agg #[.int .i64 a, vo, vs, vd]] w fun e w' => e = .returned (.bool (formB a o s d)) ∧ Below w.heap.size w w' := by
  have H1 : Hid (∀ W, Below w.heap.size w W → Calls Tryd.prog 33 #[vo, .int .i64 16] W fun e w' => e = .returned (.bool (kwB o)) ∧ w' = W) := fun W hW => allWide_16 vo g1 o1 o _ (ho.below hW ho.lt)
  have H2 : Hid (∀ W, Below w.heap.size w W → Calls Tryd.prog 33 #[vs, .int .i64 16] W fun e w' => e = .returned (.bool (kwB s)) ∧ w' = W) := fun W hW => allWide_16 vs g2 o2 s _ (hs.below hW hs.lt)
  have H3 : Hid (∀ W, Below w.heap.size w W → Calls Tryd.prog 33 #[vd, .int .i64 16] W fun e w' => e = .returned (.bool (kwB d)) ∧ w' = W) := fun W hW => allWide_16 vd g3 o3 d _ (hd.below hW hd.lt)
  unfold formB
  generalize kwB o = A1 at *
  generalize kwB s = A2 at *
  generalize kwB d = A3 at *
  generalize hA0 : decide (0 ≤ a ∧ a ≤ 15) = A0
  obtain ⟨ao, co, rfl, hlo, hx1⟩ := ho
  obtain ⟨as2, cs2, rfl, hls, hx2⟩ := hs
  obtain ⟨ad, cd, rfl, hld, hx3⟩ := hd
  clear hx1 hx2 hx3
  generalize o.length = n1 at *
  generalize s.length = n2 at *
  generalize d.length = n3 at *
  have HB : Hid (∀ x y z : Obj, Below w.heap.size w (((w.alloc x).alloc y).alloc z)) := fun x y z => (((Below.refl _ _).alloc (Nat.le_refl _) _).alloc (by simp) _).alloc (by simp; omega) _
  by_cases h1 : (n1 : Int) = 8
  · by_cases h2 : (n2 : Int) = 8
    · by_cases h3 : (n3 : Int) = 4
      · obtain rfl : n1 = 8 := by omega
        obtain rfl : n2 = 8 := by omega
        obtain rfl : n3 = 4 := by omega
        clear h1 h2 h3 hlo hls hld
        go_enter Tryd.func21, Tryd.ntmps21
        go_wp2_with fail
        refine (inPool_f _ _).mono ?_
        rintro e w1 ⟨rfl, rfl⟩
        rw [hA0]
        clear hA0
        cases A0 with
        | false =>
          go_wp2
          go_ret
          exact ⟨by simp, HB.out _ _ _⟩
        | true =>
          go_wp2_with fail
          refine (H1.out _ (HB.out _ _ _)).mono ?_
          rintro e w1 ⟨rfl, rfl⟩
          cases A1 with
          | false =>
            go_wp2
            go_ret
            exact ⟨by simp, HB.out _ _ _⟩
          | true =>
            go_wp2_with fail
            refine (H2.out _ (HB.out _ _ _)).mono ?_
            rintro e w1 ⟨rfl, rfl⟩
            cases A2 with
            | false =>
              go_wp2
              go_ret
              exact ⟨by simp, HB.out _ _ _⟩
            | true =>
              go_wp2_with fail
              refine (H3.out _ (HB.out _ _ _)).mono ?_
              rintro e w1 ⟨rfl, rfl⟩
              go_wp2
              go_ret
              exact ⟨by simp, HB.out _ _ _⟩
      · obtain rfl : n1 = 8 := by omega
        obtain rfl : n2 = 8 := by omega
        have hF : (A0 && ((A1 && decide ((8 : Nat) = 8)) && ((A2 && decide ((8 : Nat) = 8)) && (A3 && decide (n3 = 4))))) = false := by
          rw [decide_eq_false (show ¬ n3 = 4 by omega)]; simp
        rw [hF]
        clear h1 h2 hlo hls hF
        go_enter Tryd.func21, Tryd.ntmps21
        go_wp2_with fail
        refine (inPool_f _ _).mono ?_
        rintro e w1 ⟨rfl, rfl⟩
        rw [hA0]
        clear hA0
        cases A0 with
        | false =>
          go_wp2
          go_ret
          exact ⟨by simp, HB.out _ _ _⟩
        | true =>
          go_wp2
          go_ret
          exact ⟨by simp, HB.out _ _ _⟩
    · obtain rfl : n1 = 8 := by omega
      have hF : (A0 && ((A1 && decide ((8 : Nat) = 8)) && ((A2 && decide (n2 = 8)) && (A3 && decide (n3 = 4))))) = false := by
        rw [decide_eq_false (show ¬ n2 = 8 by omega)]; simp
      rw [hF]
      clear h1 hlo hF
      go_enter Tryd.func21, Tryd.ntmps21
      go_wp2_with fail
      refine (inPool_f _ _).mono ?_
      rintro e w1 ⟨rfl, rfl⟩
      rw [hA0]
      clear hA0
      cases A0 with
      | false =>
        go_wp2
        go_ret
        exact ⟨by simp, HB.out _ _ _⟩
      | true =>
        go_wp2
        go_ret
        exact ⟨by simp, HB.out _ _ _⟩
  · have hF : (A0 && ((A1 && decide (n1 = 8)) && ((A2 && decide (n2 = 8)) && (A3 && decide (n3 = 4))))) = false := by
      rw [decide_eq_false (show ¬ n1 = 8 by omega)]; simp
    rw [hF]
    clear hF
    go_enter Tryd.func21, Tryd.ntmps21
    go_wp2_with fail
    refine (inPool_f _ _).mono ?_
    rintro e w1 ⟨rfl, rfl⟩
    rw [hA0]
    clear hA0
    cases A0 with
    | false =>
      go_wp2
      go_ret
      exact ⟨by simp, HB.out _ _ _⟩
    | true =>
      go_wp2
      go_ret
      exact ⟨by simp, HB.out _ _ _⟩

end Go.Proofs.YtkgibgadngeddabDoor
/-
  What is digested of a signature, in plain words: its locks, its public text, the texts on the way to the root; two rows of texts that grow side by side.
-/
namespace Go.Proofs.YtkgibgadngeddabDoor
open Go.RowKit Go.BigFrame
set_option linter.unusedVariables false

/-- the bit of a byte at a level, the highest first -/
def bitN (b i : Nat) : Nat := b / 2 ^ (7 - i) % 2
theorem bitN_lt (b i : Nat) : bitN b i < 2 := Nat.mod_lt _ (by omega)
theorem bitI_nat (b i : Nat) (hb : b < 256) : bitI (b : Int) i = (bitN b i : Int) := by
  unfold bitI bitN
  have e1 : ((b : Int) / 2 ^ (7 - i)) = ((b / 2 ^ (7 - i) : Nat) : Int) := by simp
  rw [e1]
  have hlt : b / 2 ^ (7 - i) < 256 := Nat.lt_of_le_of_lt (Nat.div_le_self _ _) hb
  generalize b / 2 ^ (7 - i) = n at *
  have e : bits .and .i64 (n : Int) 1 = IntKind.i64.wrap ((BitVec.ofInt 64 (n : Int) &&& BitVec.ofInt 64 1).toNat : Int) := rfl
  have e2 : (BitVec.ofInt 64 (n : Int) &&& BitVec.ofInt 64 1).toNat = n % 2 := by
    rw [BitVec.toNat_and, BitVec.ofInt_natCast, BitVec.toNat_ofNat, Nat.mod_eq_of_lt (by omega)]
    have : (BitVec.ofInt 64 1).toNat = 1 := by decide
    rw [this, Nat.and_one_is_mod]
  rw [e, e2, IntWalk.i64_in _ (by omega)]

def gB (l : List ByteArray) (i : Nat) : ByteArray := l.getD i ByteArray.empty
theorem gB_eq (l : List ByteArray) (i : Nat) (h : i < l.length) : l[i] = gB l i := by
  unfold gB
  rw [List.getD_eq_getElem?_getD, List.getElem?_eq_getElem h]
  rfl
/-- two locks of a bit -/
def lk2 (b : Nat) (o s : List ByteArray) (i : Nat) : List ByteArray := if bitN b i = 0 then [lockB (gB o i), gB s i] else [gB s i, lockB (gB o i)]
/-- the locks of the first m bits -/
def lkN (b : Nat) (o s : List ByteArray) (m : Nat) : List ByteArray := (List.range m).flatMap (lk2 b o s)
theorem lk2_len (b : Nat) (o s : List ByteArray) (i : Nat) : (lk2 b o s i).length = 2 := by
  unfold lk2
  split <;> rfl
theorem lkN_step (b : Nat) (o s : List ByteArray) (m : Nat) : lkN b o s (m + 1) = lkN b o s m ++ lk2 b o s m := by
  unfold lkN
  rw [List.range_succ, List.flatMap_append]
  simp
theorem lkN_len (b : Nat) (o s : List ByteArray) (m : Nat) : (lkN b o s m).length = 2 * m := by
  induction m with
  | zero => rfl
  | succ m ih =>
    rw [lkN_step, List.length_append, ih, lk2_len]
    omega
/-- the text of one opened secret -/
def tx1 (o : List ByteArray) (i : Nat) : ByteArray := tagB 6 [gB o i]
def txN (o : List ByteArray) (m : Nat) : List ByteArray := (List.range m).map (tx1 o)
theorem txN_step (o : List ByteArray) (m : Nat) : txN o (m + 1) = txN o m ++ [tx1 o m] := by
  unfold txN
  rw [List.range_succ, List.map_append]
  rfl
theorem txN_len (o : List ByteArray) (m : Nat) : (txN o m).length = m := by simp [txN]
/-- the text of the public key -/
def pubT (b : Nat) (o s : List ByteArray) : ByteArray := tagB 6 (lkN b o s 8)
def cut16 (t : ByteArray) : ByteArray := cutH t 16
/-- the text of a node: what came up stands left or right -/
def nodeT (p : Nat) (h x : ByteArray) : ByteArray := if p = 0 then tagB 3 [h, x] else tagB 3 [x, h]
/-- the texts on the way up -/
def fT (a : Nat) (d : List ByteArray) (t : ByteArray) : Nat → ByteArray
  | 0 => t
  | i + 1 => nodeT (a / 2 ^ i % 2) (cut16 (fT a d t i)) (gB d i)
def fN (a : Nat) (d : List ByteArray) (t : ByteArray) (m : Nat) : List ByteArray := (List.range m).map (fT a d t)
theorem fN_step (a : Nat) (d : List ByteArray) (t : ByteArray) (m : Nat) : fN a d t (m + 1) = fN a d t m ++ [fT a d t m] := by
  unfold fN
  rw [List.range_succ, List.map_append]
  rfl
theorem fN_len (a : Nat) (d : List ByteArray) (t : ByteArray) (m : Nat) : (fN a d t m).length = m := by simp [fN]
/-- what SigTexts is where the form is right -/
def sgT (b a : Nat) (o s d : List ByteArray) : List ByteArray := txN o 8 ++ fN a d (pubT b o s) 5
theorem sgT_len (b a : Nat) (o s d : List ByteArray) : (sgT b a o s d).length = 13 := by simp [sgT, txN_len, fN_len]
/-- what SigTexts is -/
def sigT (t : ByteArray) (a : Int) (o s d : List ByteArray) : List ByteArray := if formB a o s d && decide (t.size ≤ 200) then sgT (bitsB t) a.toNat o s d else []
theorem sigT_len (t : ByteArray) (a : Int) (o s d : List ByteArray) : (sigT t a o s d).length ≤ 13 := by
  unfold sigT
  split
  · rw [sgT_len]
    omega
  · simp

theorem cut16_tag (k : Int) (l : List ByteArray) (h : tagOk k l = true) : cut16 (tagB k l) = hashB k l 16 := by
  unfold cut16 hashB
  rw [if_pos h]
theorem lock_cut (o : List ByteArray) (i : Nat) (h : (gB o i).size ≤ 200) : cut16 (tx1 o i) = lockB (gB o i) := by
  unfold tx1 lockB
  refine cut16_tag 6 _ ?_
  rw [tagOk_one 6 _ (by omega), decide_eq_true h]
theorem cut16_size (k : Int) (l : List ByteArray) : (cut16 (tagB k l)).size ≤ 16 := by
  unfold cut16 cutH cutB
  rw [if_pos (by omega)]
  rw [ByteArray.size_extract]
  show min 16 _ - 0 ≤ 16
  omega
theorem fT_size (a : Nat) (d : List ByteArray) (t : ByteArray) (ht : t.size ≤ 12601) (i : Nat) : (fT a d t i).size ≤ 12601 := by
  cases i with
  | zero => exact ht
  | succ i =>
    show (nodeT _ _ _).size ≤ _
    unfold nodeT
    split
    · exact tagB_size _ _
    · exact tagB_size _ _

/-- one row of texts stays what it is behind what was appended to another -/
theorem OS.kept {B : Nat} {w0 w w' : World} {v : Value} {row : Option Nat} {l : List ByteArray} (h : OS B w0 w v l) (hg : w.grownBy w' row) (hB : ∀ k, row = some k → B ≤ k) (hne : v.ownBlock = none ∨ v.ownBlock ≠ row) : OS B w0 w' v l :=
  ⟨World.ownsRow.kept h.1 hg hne, h.2.1.grown hg h.2.2 hB, Nat.le_trans h.2.2 hg.size⟩

/-- two rows of texts, each with memory of its own -/
def TwR (B : Nat) (w0 w : World) (u v : Value) (l r : List ByteArray) : Prop := OS B w0 w u l ∧ OS B w0 w v r ∧ (∀ g, u.ownBlock = some g → v.ownBlock ≠ some g)
theorem TwR.swap {B : Nat} {w0 w : World} {u v : Value} {l r : List ByteArray} (h : TwR B w0 w u v l r) : TwR B w0 w v u r l := ⟨h.2.1, h.1, fun g hg hu => h.2.2 g hu hg⟩
theorem TwR.later {B : Nat} {w0 w w' : World} {u v : Value} {l r : List ByteArray} (h : TwR B w0 w u v l r) (hb : Below w.heap.size w w') : TwR B w0 w' u v l r := ⟨h.1.later hb, h.2.1.later hb, h.2.2⟩
theorem TwR.alloc {B : Nat} {w0 w : World} {u v : Value} {l r : List ByteArray} (h : TwR B w0 w u v l r) (x : Obj) : TwR B w0 (w.alloc x) u v l r := ⟨h.1.alloc x, h.2.1.alloc x, h.2.2⟩
theorem TwR.drew {B : Nat} {w0 w : World} {u v : Value} {l r : List ByteArray} (h : TwR B w0 w u v l r) : TwR B w0 w.drew u v l r := ⟨h.1.drew, h.2.1.drew, h.2.2⟩

theorem lit_at (w : World) (news : List ByteArray) (cs : Array Value) (hc : cs = (svs news).toArray) : ∀ j u, (svs news)[j]? = some u → (w.alloc (.cells cs 9)).cell? ((⟨w.heap.size, 0, none⟩ : Addr).add j) = some u := by
  intro j u hj
  subst hc
  have e : (⟨w.heap.size, 0, none⟩ : Addr).add j = ⟨w.heap.size, j, none⟩ := by unfold Addr.add; split <;> simp_all
  rw [e, World.cell?_alloc_at _ _ _ _ rfl]
  simpa using hj

/-- what an append to the first row leaves -/
theorem TwR.grow {B : Nat} {w0 w w' : World} {u v : Value} {l r news : List ByteArray} {g cap n : Nat} (h : TwR B w0 w u v l r) (hn : l.length + news.length = n) (h1 : w'.ownsRow B 9 1 (.slice (some ⟨g, 0, none⟩) n cap) n (svs l ++ svs news)) (h2 : w.grownBy w' u.ownBlock) (h3 : u.ownBlock = some g ∨ g = w.heap.size) :
    TwR B w0 w' (.slice (some ⟨g, 0, none⟩) n cap) v (l ++ news) r := by
  subst hn
  have hB : ∀ k, u.ownBlock = some k → B ≤ k := fun k hk => (h.1.1.lt k hk).1
  refine ⟨⟨by rw [List.length_append, svs_append]; exact h1, h.1.2.1.grown h2 h.1.2.2 hB, Nat.le_trans h.1.2.2 h2.size⟩, h.2.1.kept h2 hB ?_, ?_⟩
  · cases hv : v.ownBlock with
    | none => exact .inl rfl
    | some k => exact .inr (fun e => h.2.2 k e.symm hv)
  · intro k hk hv
    simp [Value.ownBlock] at hk
    subst hk
    rcases h3 with h3 | h3
    · exact h.2.2 g h3 hv
    · have := (h.2.1.1.lt g hv).2
      omega

/-- texts that are written out, appended to the first of two rows -/
theorem wp_tw {w : World} {ops : Array Oper} {rest : List Oper} {o : Oper} {a : Act} {Q : Exit → Act → World → Prop} (hgd : o.guard = none) (s x : Operand)
    (ho : o.op = .call { callee := .builtin .append, args := #[s, x], argTypes := #[22, 22] })
    (B : Nat) (w0 : World) (u v : Value) (l r news : List ByteArray) (hs : a.eval s = u) (h : TwR B w0 w u v l r) (p m c : Nat) (hx : a.eval x = .slice (some ⟨p, 0, none⟩) m c) (hm : news.length = m) (h0 : 0 < m)
    (hnews : ∀ j u, (svs news)[j]? = some u → w.cell? ((⟨p, 0, none⟩ : Addr).add j) = some u) (hlen : l.length + m ≤ 1000000)
    (hk : ∀ v' w', TwR B w0 w' v' v (l ++ news) r → wpList Tryd.prog ops Q rest (a.put o.dst v') w') : wpList Tryd.prog ops Q (o :: rest) a w := by
  obtain ⟨i0, hi, hz0, hz1, hz2⟩ := info_parts Tryd.info9
  refine wpList_append_lies w hgd s x 22 ho B 9 i0 (.string ByteArray.empty) 1 16 Tryd.underlying22 hi hz0 hz1 hz2 rfl (by decide) u l.length (svs l) hs h.1.1 ⟨p, 0, none⟩ m c (svs news) hx (by simp [svs, hm]) hnews
    (fun u hu => by simp [svs] at hu; obtain ⟨b, _, rfl⟩ := hu; rfl) h0 (by unfold maxLen; omega) (by omega) h.1.2.2 w.heap.size rfl ?_
  intro g cap w' h1 h2 h3 _
  exact hk _ _ (h.grow (by omega) h1 h2 h3)
theorem step_tw {w : World} {ops : Array Oper} {o : Oper} {a : Act} {K : Act → World → Prop} {Q : Exit → Act → World → Prop} {E : Prop} (hgd : o.guard = none) (s x : Operand)
    (ho : o.op = .call { callee := .builtin .append, args := #[s, x], argTypes := #[22, 22] })
    (B : Nat) (w0 : World) (u v : Value) (l r news : List ByteArray) (hs : a.eval s = u) (h : TwR B w0 w u v l r) (p m c : Nat) (hx : a.eval x = .slice (some ⟨p, 0, none⟩) m c) (hm : news.length = m) (h0 : 0 < m)
    (hnews : ∀ j u, (svs news)[j]? = some u → w.cell? ((⟨p, 0, none⟩ : Addr).add j) = some u) (hlen : l.length + m ≤ 1000000)
    (hk : ∀ v' w', TwR B w0 w' v' v (l ++ news) r → K (a.put o.dst v') w') : if Region.wanted o (yielded ops a.tmps) = true then Oper.wp Tryd.prog o a w K Q else E := by
  obtain ⟨i0, hi, hz0, hz1, hz2⟩ := info_parts Tryd.info9
  refine step_append_lies w hgd s x 22 ho B 9 i0 (.string ByteArray.empty) 1 16 Tryd.underlying22 hi hz0 hz1 hz2 rfl (by decide) u l.length (svs l) hs h.1.1 ⟨p, 0, none⟩ m c (svs news) hx (by simp [svs, hm]) hnews
    (fun u hu => by simp [svs] at hu; obtain ⟨b, _, rfl⟩ := hu; rfl) h0 (by unfold maxLen; omega) (by omega) h.1.2.2 w.heap.size rfl ?_
  intro g cap w' h1 h2 h3 _
  exact hk _ _ (h.grow (by omega) h1 h2 h3)

/-- what the texts of a key are -/
theorem keyText_any (k : Int) (v : Value) (g o : Nat) (l : List ByteArray) (w : World) (hv : SS w v g o l) :
    Calls Tryd.prog 24 #[.int .i64 k, v] w fun e w' => e = .returned (.string (tagB k l)) ∧ Below w.heap.size w w' := by
  have hc := tagged_any k v g o l w hv
  obtain ⟨a, cap, rfl, _⟩ := hv
  generalize tagB k l = T at *
  generalize tagOk k l = R at *
  go_enter Tryd.func24, Tryd.ntmps24
  go_wp2_with fail
  refine hc.mono ?_
  rintro e w1 ⟨rfl, hb1⟩
  go_wp2
  go_ret
  exact ⟨rfl, hb1⟩
theorem keyText_lit (k : Int) (l : List ByteArray) (n : Nat) (cs : Array Value) (w : World) (g : Nat) (hg : w.heap.size = g) (hn : l.length = n) (hl : n ≤ 60) (hc : cs = (svs l).toArray) :
    Hid (Calls Tryd.prog 24 #[.int .i64 k, .slice (some ⟨g, 0, none⟩) n n] (w.alloc (.cells cs 9)) fun e w' => e = .returned (.string (tagB k l)) ∧ Below w.heap.size w w') := by
  subst hg
  exact (keyText_any k _ w.heap.size 0 l (w.alloc (.cells cs 9)) (ss_lits w l cs n hn (by omega) hc)).mono fun e w' ⟨he, hb⟩ => ⟨he, ((Below.refl _ _).alloc (Nat.le_refl _) _).trans (hb.mono (by simp))⟩
theorem sTagText_lit (k : Int) (l : List ByteArray) (n : Nat) (cs : Array Value) (w : World) (g : Nat) (hg : w.heap.size = g) (hn : l.length = n) (hl : n ≤ 60) (hc : cs = (svs l).toArray) :
    Hid (Calls Tryd.prog 16 #[.int .i64 k, .slice (some ⟨g, 0, none⟩) n n] (w.alloc (.cells cs 9)) fun e w' => e = .returned (.tuple #[.string (tagB k l), .bool (tagOk k l)]) ∧ Below w.heap.size w w') := by
  subst hg
  exact (sTagText_any k _ w.heap.size 0 l (w.alloc (.cells cs 9)) (ss_lits w l cs n hn (by omega) hc)).mono fun e w' ⟨he, hb⟩ => ⟨he, ((Below.refl _ _).alloc (Nat.le_refl _) _).trans (hb.mono (by simp))⟩

theorem val_any (b i : Nat) (x : Int) (w : World) (hb : b < 256) (hx : x = (i : Int)) (hi : i ≤ 7) :
    Calls Tryd.prog 34 #[.int .u8 (b : Int), .int .i64 x] w fun e w' => e = .returned (.int .i64 (bitN b i : Int)) ∧ w' = w := by
  subst hx
  have hc := BitOf_yes (b : Int) i w hi
  rw [bitI_nat b i hb] at hc
  generalize bitN b i = B at *
  go_enter Tryd.func34, Tryd.ntmps34
  go_wp2_with fail
  refine hc.mono ?_
  rintro e w1 ⟨rfl, rfl⟩
  go_wp2
  go_ret
  exact ⟨rfl, rfl⟩
theorem sBitOf_at (b i : Nat) (x : Int) (w : World) (hb : b < 256) (hx : x = (i : Int)) (hi : i ≤ 7) :
    Calls Tryd.prog 17 #[.int .i64 (b : Int), .int .i64 x] w fun e w' => e = .returned (.int .i64 (bitN b i : Int)) ∧ w' = w := by
  subst hx
  have hc := sBitOf_yes (b : Int) i w hi
  rw [bitI_nat b i hb] at hc
  exact hc

end Go.Proofs.YtkgibgadngeddabDoor
