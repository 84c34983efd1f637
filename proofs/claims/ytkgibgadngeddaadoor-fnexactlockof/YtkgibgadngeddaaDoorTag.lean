/-
  What TagText answers, the program's and the specification's.
-/
import Derived.Test.YtkgibgadngeddaaDoorShort
import Derived.Test.YtkgibgadngeddaaDoorTxt
import Derived.Lib.AppendStr
import Derived.Deep.RegionHeld3
namespace Go.Proofs.YtkgibgadngeddaaDoor
open Go.RowKit
set_option linter.unusedVariables false

/-- a part behind its length -/
def tagP (p : ByteArray) : List UInt8 := M.varL p.size ++ p.data.toList
def tagL (k : Nat) (l : List ByteArray) : List UInt8 := UInt8.ofNat k :: l.flatMap tagP
def tagOk (k : Int) (l : List ByteArray) : Bool := decide ((1 ≤ k ∧ k ≤ 8) ∧ l.length ≤ 60) && l.all (fun p => decide (p.size ≤ 200))
def tagB (k : Int) (l : List ByteArray) : ByteArray := if tagOk k l then ⟨(tagL k.toNat l).toArray⟩ else ⟨#[]⟩
def tagS (k : Nat) (l : List ByteArray) : ByteArray := ⟨(tagL k l).toArray⟩

theorem tagOk_head (k : Int) (l : List ByteArray) (h : ¬ ((1 ≤ k ∧ k ≤ 8) ∧ l.length ≤ 60)) : tagOk k l = false := by
  unfold tagOk
  rw [decide_eq_false h, Bool.false_and]
theorem tagOk_part (k : Int) (l : List ByteArray) (m : Nat) (h : m < l.length) (hb : 200 < l[m].size) : tagOk k l = false := by
  unfold tagOk
  have : l.all (fun p => decide (p.size ≤ 200)) = false := by
    rw [List.all_eq_false]
    exact ⟨l[m], List.getElem_mem _, by simp; omega⟩
  rw [this, Bool.and_false]
theorem tagOk_yes (k : Int) (l : List ByteArray) (h : (1 ≤ k ∧ k ≤ 8) ∧ l.length ≤ 60) (hp : ∀ m (h : m < l.length), l[m].size ≤ 200) : tagOk k l = true := by
  unfold tagOk
  have : l.all (fun p => decide (p.size ≤ 200)) = true := by
    rw [List.all_eq_true]
    intro x hx
    obtain ⟨j, hj, rfl⟩ := List.getElem_of_mem hx
    simpa using hp j hj
  rw [this, decide_eq_true h]
  rfl
theorem tagB_no {k : Int} {l : List ByteArray} (h : tagOk k l = false) : tagB k l = ⟨#[]⟩ := by
  unfold tagB
  rw [h]
  rfl
theorem tagB_yes {k : Nat} {l : List ByteArray} (h : tagOk (k : Int) l = true) : tagB (k : Int) l = tagS k l := by
  unfold tagB
  rw [h]
  rfl

theorem tagP_len (p : ByteArray) : (tagP p).length ≤ p.size + 10 := by
  have := M.varL_len p.size
  have e : p.data.toList.length = p.size := Array.length_toList
  unfold tagP
  rw [List.length_append]
  omega
theorem tagL_step (k : Nat) (l : List ByteArray) (m : Nat) (h : m < l.length) : tagL k (l.take (m + 1)) = tagL k (l.take m) ++ tagP l[m] := by
  unfold tagL
  rw [← List.take_append_getElem h, List.flatMap_append]
  simp
theorem tagS_step (k : Nat) (l : List ByteArray) (m : Nat) (h : m < l.length) : (tagS k (l.take m) ++ ⟨(M.varL l[m].size).toArray⟩) ++ l[m] = tagS k (l.take (m + 1)) := by
  apply ByteArray.ext
  apply Array.toList_inj.1
  unfold tagS
  rw [tagL_step k l m h]
  simp [tagP, ByteArray.data_append]
theorem tagL_len (k : Nat) (l : List ByteArray) (m : Nat) (hm : m ≤ l.length) (hp : ∀ j (h : j < l.length), j < m → l[j].size ≤ 200) : (tagL k (l.take m)).length ≤ 1 + 210 * m := by
  induction m with
  | zero => simp [tagL]
  | succ m ih =>
    have h1 := ih (by omega) (fun j hj hlt => hp j hj (by omega))
    rw [tagL_step k l m (by omega), List.length_append]
    have h2 := tagP_len (l[m]'(by omega))
    have h3 := hp m (by omega) (by omega)
    omega

/-- 'string([]byte{x})' -/
theorem one_s (w : World) (x : Int) (b : UInt8) (h : x = (b.toNat : Int)) : (convert 38 9 (.slice (some ⟨w.heap.size, 0, none⟩) 1 1)).run Tryd.prog (w.alloc (.cells #[.int .u8 x] 5)) = .ok (.string ⟨[b].toArray⟩) (w.alloc (.cells #[.int .u8 x] 5)) := by
  subst h
  refine run_convert_bytes_back _ 38 9 5 ⟨w.heap.size, 0, none⟩ 1 [b] Tryd.underlying38 Tryd.underlying5 Tryd.underlying9 ?_
  intro j hj
  have h0 : j = 0 := by simp at hj; exact hj
  subst h0
  simp [Addr.add]

theorem l01Var_v (n : Nat) (V : ByteArray) (w : World) (hn : n ≤ 1000000000) (hV : (⟨(M.varL n).toArray⟩ : ByteArray) = V) :
    Calls Tryd.prog 40 #[.int .i64 n] w fun e w' => e = .returned (.string V) ∧ Below w.heap.size w w' := by
  subst hV
  exact l01Var_any n w hn

/-- what the loop of the specification's TagText holds at each round's head -/
def TgS (k : Nat) (l : List ByteArray) (w : World) (s i : Value) (wr : World) : Prop :=
  ∃ m : Nat, m ≤ l.length ∧ i = .int .i64 m ∧ s = .string (tagS k (l.take m)) ∧ Hid (∀ j (h : j < l.length), j < m → l[j].size ≤ 200) ∧ Below w.heap.size w wr

theorem pt_step {l : List ByteArray} {m : Nat} (hm : m < l.length) (hp : l[m].size ≤ 200) (h : ∀ j (h : j < l.length), j < m → l[j].size ≤ 200) : Hid (∀ j (h : j < l.length), j < m + 1 → l[j].size ≤ 200) := by
  intro j hj hlt
  rcases Nat.lt_or_ge j m with h1 | h1
  · exact h j hj h1
  · have : j = m := by omega
    subst this
    exact hp

theorem sTagText_no (k : Int) (a : Option Addr) (n cap : Nat) (w : World) (h : ¬ ((1 ≤ k ∧ k ≤ 8) ∧ n ≤ 60)) (hn : n ≤ 1100000) :
    Calls Tryd.prog 34 #[.int .i64 k, .slice a n cap] w fun e w' => e = .returned (.tuple #[.string ⟨#[]⟩, .bool false]) ∧ Below w.heap.size w w' := by
  by_cases hk : 1 ≤ k ∧ k ≤ 8
  · have hd : decide ((1 : Int) ≤ k ∧ k ≤ 8) = true := by simp; omega
    have hnn : 60 < n := by omega
    clear h
    go_enter Tryd.func34, Tryd.ntmps34
    go_wp2_with fail
    refine (l01In_any _ _ _ _).mono ?_
    rintro e w' ⟨rfl, rfl⟩
    rw [hd]
    go_wp2
    go_ret2
    exact ⟨rfl, Below.refl _ _⟩
  · have hd : decide ((1 : Int) ≤ k ∧ k ≤ 8) = false := by simp; omega
    clear h
    go_enter Tryd.func34, Tryd.ntmps34
    go_wp2_with fail
    refine (l01In_any _ _ _ _).mono ?_
    rintro e w' ⟨rfl, rfl⟩
    rw [hd]
    go_wp2
    go_ret2
    exact ⟨rfl, Below.refl _ _⟩

set_option maxRecDepth 100000 in
set_option maxHeartbeats 1000000 in
theorem sTagText_in (k : Nat) (v : Value) (g o : Nat) (l : List ByteArray) (w : World) (h1 : 1 ≤ k) (h8 : k ≤ 8) (hl : l.length ≤ 60) (hv : SS w v g o l) :
    Calls Tryd.prog 34 #[.int .i64 k, v] w fun e w' => e = .returned (.tuple #[.string (tagB (k : Int) l), .bool (tagOk (k : Int) l)]) ∧ Below w.heap.size w w' := by
  have hgl := hv.lt
  obtain ⟨a, cap, rfl, _, hA, hc⟩ := hv
  have hd : decide ((1 : Int) ≤ (k : Int) ∧ (k : Int) ≤ 8) = true := by simp; omega
  obtain ⟨n, hn⟩ : ∃ n, l.length = n := ⟨_, rfl⟩
  have HA : Hid (0 < n → a = some ⟨g, o, none⟩ ∧ g < w.heap.size) := by rw [← hn]; exact fun h => ⟨hA h, hgl h⟩
  have HC : Hid (∀ j (h : j < l.length), w.cell? ⟨g, o + j, none⟩ = some (.string l[j])) := hc
  obtain ⟨T, hT⟩ : ∃ T, tagB (k : Int) l = T := ⟨_, rfl⟩
  obtain ⟨R, hR⟩ : ∃ R, tagOk (k : Int) l = R := ⟨_, rfl⟩
  have HT : Hid (tagB (k : Int) l = T) := hT
  have HR : Hid (tagOk (k : Int) l = R) := hR
  rw [hn] at hl
  rw [hT, hR, hn]
  clear hA hgl hc hT hR
  go_enter Tryd.func34, Tryd.ntmps34
  go_wp2_with fail
  refine (l01In_any _ _ _ _).mono ?_
  rintro e w' ⟨rfl, rfl⟩
  rw [hd]
  have hcv := one_s w' (k : Int) (UInt8.ofNat k) (by simp; omega)
  have e1 : (⟨[UInt8.ofNat k].toArray⟩ : ByteArray) = tagS k [] := by simp [tagS, tagL]
  rw [e1] at hcv
  have HST : Hid (TgS k l w' (.string (tagS k [])) (.int .i64 0) (w'.alloc (.cells #[.int .u8 (k : Int)] 5))) := ⟨0, by omega, rfl, rfl, by intro j _ h; omega, (Below.refl _ _).alloc (Nat.le_refl _) _⟩
  clear e1
  go_wp2
  clear hcv hd
  go_loopw [6, 7] (fun s i wr => TgS k l w' s i wr) (fun _ i _ => n - (intOf i).toNat)
  case atStart => exact HST.out
  case round =>
    obtain ⟨m, hm, rfl, rfl, HI, hbel⟩ := hrel
    rw [hn] at hm
    clear HST
    by_cases hlt : m < n
    · obtain ⟨ea, hga⟩ := HA.out (by omega)
      subst ea
      have c0 : wr.cell? ⟨g, o + m, none⟩ = some (.string (l[m]'(by omega))) := (hbel.cell (p := ⟨g, o + m, none⟩) hga).trans (HC.out m (by omega))
      have hgr : g < wr.heap.size := Nat.lt_of_lt_of_le hga hbel.size
      have i1 : (m : Int) < (n : Int) := by omega
      have i2 : (0 : Int) ≤ (m : Int) := by omega
      by_cases hx : 200 < (l[m]'(by omega)).size
      · have hF := tagOk_part (k : Int) l m (by omega) hx
        have hT := tagB_no hF
        rw [HT.out] at hT
        rw [HR.out] at hF
        subst hF
        subst hT
        clear HI HT HR HC HA
        generalize l[m]'(by omega) = X at *
        generalize tagS k (l.take m) = S at *
        go_wp2
        go_ret2
        exact ⟨rfl, hbel⟩
      · have hsz : (tagS k (l.take m)).size ≤ 13000 := by
          have h := tagL_len k l m (by omega) HI.out
          have e : (tagS k (l.take m)).size = (tagL k (l.take m)).length := by simp [tagS, ByteArray.size]
          omega
        have hst := tagS_step k l m (by omega)
        have HI2 := pt_step (show m < l.length by omega) (by omega) HI.out
        have hvz := varA_size (l[m]'(by omega)).size
        have HN : Hid (∀ W, Below w'.heap.size w' W → TgS k l w' (.string ((tagS k (l.take m) ++ ⟨(M.varL (l[m]'(by omega)).size).toArray⟩) ++ l[m]'(by omega))) (.int .i64 ((m : Int) + 1)) W) := by
          rw [hst]
          exact fun W hW => ⟨m + 1, by omega, by simp, rfl, HI2, hW⟩
        clear HI HI2 HT HR HC HA hst
        generalize l[m]'(by omega) = X at *
        generalize tagS k (l.take m) = S at *
        obtain ⟨V, hV⟩ : ∃ V, (⟨(M.varL X.size).toArray⟩ : ByteArray) = V := ⟨_, rfl⟩
        rw [hV] at HN hvz
        have HV : Hid ((⟨(M.varL X.size).toArray⟩ : ByteArray) = V) := hV
        have q1 : ¬ (9223372036854775807 < S.size + V.size) := by omega
        have q2 : ¬ (9223372036854775807 < S.size + V.size + X.size) := by omega
        clear hV
        go_wp2
        go_region_held3 (fun W => W.cell? ⟨g, o + m, none⟩ = some (.string X)) (first | go_keep | exact (hb1.cell (p := ⟨g, o + m, none⟩) hgr).trans c0) ((go_at_call 40; refine (l01Var_v X.size V _ (by omega) HV.out).mono ?_; rintro e w1 ⟨rfl, hb1⟩))
        have hb2 := hbel.drew.trans (hb1.mono hbel.size)
        clear hb1
        go_wp2
        go_roundw
        case rel => exact HN.out _ hb2
        case measure => simp [intOf]; omega
    · have hme : m = n := by omega
      have hF := tagOk_yes (k : Int) l ⟨by omega, by omega⟩ (fun j hj => HI.out j hj (by omega))
      have hT := tagB_yes hF
      rw [HT.out] at hT
      rw [HR.out] at hF
      subst hF
      have e2 : l.take m = l := by rw [hme, ← hn]; exact List.take_length
      rw [e2, ← hT]
      subst hme
      clear HI HT HR HC HA e2 hT
      go_wp2
      go_ret2
      exact ⟨rfl, hbel⟩

theorem sTagText_any (k : Int) (v : Value) (g o : Nat) (l : List ByteArray) (w : World) (hv : SS w v g o l) :
    Calls Tryd.prog 34 #[.int .i64 k, v] w fun e w' => e = .returned (.tuple #[.string (tagB k l), .bool (tagOk k l)]) ∧ Below w.heap.size w w' := by
  by_cases h : (1 ≤ k ∧ k ≤ 8) ∧ l.length ≤ 60
  · obtain ⟨n, rfl⟩ := Int.eq_ofNat_of_zero_le (show 0 ≤ k by omega)
    exact sTagText_in n v g o l w (by omega) (by omega) h.2 hv
  · have hF := tagOk_head k l h
    rw [tagB_no hF, hF]
    obtain ⟨a, cap, rfl, hl, _⟩ := hv
    exact sTagText_no k a l.length cap w h hl

theorem tagged_no (k : Int) (a : Option Addr) (n cap : Nat) (w : World) (h : ¬ ((1 ≤ k ∧ k ≤ 8) ∧ n ≤ 60)) (hn : n ≤ 1100000) :
    Calls Tryd.prog 36 #[.int .i64 k, .slice a n cap] w fun e w' => e = .returned (.tuple #[.string ⟨#[]⟩, .bool false]) ∧ Below w.heap.size w w' := by
  rcases (show k < 1 ∨ (1 ≤ k ∧ 8 < k) ∨ (1 ≤ k ∧ k ≤ 8 ∧ 60 < n) from by omega) with hk | ⟨hk, hk2⟩ | ⟨hk, hk2, hk3⟩
  · clear h
    go_enter Tryd.func36, Tryd.ntmps36
    go_wp2
    go_ret2
    exact ⟨rfl, Below.refl _ _⟩
  · clear h
    go_enter Tryd.func36, Tryd.ntmps36
    go_wp2
    go_ret2
    exact ⟨rfl, Below.refl _ _⟩
  · clear h
    go_enter Tryd.func36, Tryd.ntmps36
    go_wp2
    go_ret2
    exact ⟨rfl, Below.refl _ _⟩

/-- a string appended to what is owned -/
theorem wp_appStr {w : World} {ops : Array Oper} {rest : List Oper} {o : Oper} {a : Act} {Q : Exit → Act → World → Prop} (hgd : o.guard = none) (s x : Operand)
    (ho : o.op = .call { callee := .builtin .append, args := #[s, x], argTypes := #[38, 9] })
    (B : Nat) (w0 : World) (v : Value) (l : List UInt8) (hs : a.eval s = v) (hown : OB B w0 w v l) (t : ByteArray) (hx : a.eval x = .string t) (hlen : l.length + t.size ≤ 1000000000)
    (h : ∀ v' w', OB B w0 w' v' (l ++ t.data.toList) → wpList Tryd.prog ops Q rest (a.put o.dst v') w') : wpList Tryd.prog ops Q (o :: rest) a w := by
  obtain ⟨i0, hi, hz0, hz1, hz2⟩ := info_parts Tryd.info5
  refine Lib.wpList_append_own_string w hgd s x 38 9 ho B 5 i0 Tryd.underlying38 Tryd.underlying9 hi hz0 hz1 hz2 v l.length (bv l) hs hown.1 t hx (by unfold maxLen; omega) (by omega) hown.2.2 ?_
  intro v' w' h1 h2 _
  have e : t.data.toList.length = t.size := Array.length_toList
  refine h v' w' ⟨?_, hown.2.1.grown h2 hown.2.2 (fun k hk => (hown.1.lt k hk).1), Nat.le_trans hown.2.2 h2.size⟩
  rw [List.length_append, bv_append, e]
  exact h1

/-- what is owned stays so behind a call that leaves all that was there as it was -/
theorem OB.later {B : Nat} {w0 w w' : World} {v : Value} {l : List UInt8} (h : OB B w0 w v l) (hb : Below w.heap.size w w') : OB B w0 w' v l := by
  refine ⟨⟨h.1.1, ?_⟩, h.2.1.trans (hb.mono h.2.2), Nat.le_trans h.2.2 hb.size⟩
  rcases h.1.2 with hn | ⟨g, cap, cur, hv, hbg, hg, rest⟩
  · exact .inl hn
  · refine .inr ⟨g, cap, cur, hv, hbg, ?_, rest⟩
    rw [hb.block g (Array.getElem?_eq_some_iff.1 hg).1]
    exact hg

theorem OB.one (w : World) (x : Int) (b : UInt8) (h : x = (b.toNat : Int)) : OB w.heap.size w (w.alloc (.cells #[.int .u8 x] 5)) (.slice (some ⟨w.heap.size, 0, none⟩) 1 1) [b] := by
  subst h
  exact ⟨World.ownsRow_lit w #[.int .u8 (b.toNat : Int)] 1 (Nat.le_refl _) (by decide) (by simp), (Below.refl _ _).alloc (Nat.le_refl _) _, by simp⟩

/-- what the loop of tagged holds at each round's head -/
def TgI (k : Nat) (l : List ByteArray) (w : World) (v i : Value) (wr : World) : Prop :=
  ∃ m : Nat, m ≤ l.length ∧ i = .int .i64 m ∧ OB w.heap.size w wr v (tagL k (l.take m)) ∧ Hid (∀ j (h : j < l.length), j < m → l[j].size ≤ 200)

set_option maxRecDepth 100000 in
set_option maxHeartbeats 1000000 in
theorem tagged_in (k : Nat) (v : Value) (g o : Nat) (l : List ByteArray) (w : World) (h1 : 1 ≤ k) (h8 : k ≤ 8) (hl : l.length ≤ 60) (hv : SS w v g o l) :
    Calls Tryd.prog 36 #[.int .i64 k, v] w fun e w' => e = .returned (.tuple #[.string (tagB (k : Int) l), .bool (tagOk (k : Int) l)]) ∧ Below w.heap.size w w' := by
  have hgl := hv.lt
  obtain ⟨a, cap, rfl, _, hA, hc⟩ := hv
  obtain ⟨n, hn⟩ : ∃ n, l.length = n := ⟨_, rfl⟩
  have HA : Hid (0 < n → a = some ⟨g, o, none⟩ ∧ g < w.heap.size) := by rw [← hn]; exact fun h => ⟨hA h, hgl h⟩
  have HC : Hid (∀ j (h : j < l.length), w.cell? ⟨g, o + j, none⟩ = some (.string l[j])) := hc
  obtain ⟨T, hT⟩ : ∃ T, tagB (k : Int) l = T := ⟨_, rfl⟩
  obtain ⟨R, hR⟩ : ∃ R, tagOk (k : Int) l = R := ⟨_, rfl⟩
  have HT : Hid (tagB (k : Int) l = T) := hT
  have HR : Hid (tagOk (k : Int) l = R) := hR
  have HST : Hid (TgI k l w (.slice (some ⟨w.heap.size, 0, none⟩) 1 1) (.int .i64 0) (w.alloc (.cells #[.int .u8 (k : Int)] 5))) := ⟨0, by omega, rfl, by simpa [tagL] using OB.one w (k : Int) (UInt8.ofNat k) (by simp; omega), by intro j _ h; omega⟩
  rw [hn] at hl
  rw [hT, hR, hn]
  clear hA hgl hc hT hR
  go_enter Tryd.func36, Tryd.ntmps36
  go_wp2
  go_loopw [6, 27] (fun v i wr => TgI k l w v i wr) (fun _ i _ => n - (intOf i).toNat)
  case atStart => exact HST.out
  case round =>
    obtain ⟨m, hm, rfl, hown, HI⟩ := hrel
    rw [hn] at hm
    clear HST
    by_cases hlt : m < n
    · obtain ⟨ea, hga⟩ := HA.out (by omega)
      subst ea
      have c0 : wr.cell? ⟨g, o + m, none⟩ = some (.string (l[m]'(by omega))) := (hown.2.1.cell (p := ⟨g, o + m, none⟩) hga).trans (HC.out m (by omega))
      have i1 : (m : Int) < (n : Int) := by omega
      have i2 : (0 : Int) ≤ (m : Int) := by omega
      by_cases hx : 200 < (l[m]'(by omega)).size
      · have hF := tagOk_part (k : Int) l m (by omega) hx
        have hT := tagB_no hF
        rw [HT.out] at hT
        rw [HR.out] at hF
        subst hF
        subst hT
        clear HI HT HR HC HA
        generalize l[m]'(by omega) = X at *
        go_wp2
        try rw [Exit.noGoto_ret]
        go_ret2
        exact ⟨rfl, hown.2.1⟩
      · have hsz := tagL_len k l m (by omega) HI.out
        have HI2 := pt_step (show m < l.length by omega) (by omega) HI.out
        have hvz := varA_size (l[m]'(by omega)).size
        have HN : Hid (∀ v W, OB w.heap.size w W v (tagL k (l.take m) ++ (⟨(M.varL (l[m]'(by omega)).size).toArray⟩ ++ l[m]'(by omega) : ByteArray).data.toList) → TgI k l w v (.int .i64 ((m : Int) + 1)) W) := by
          intro v W hW
          refine ⟨m + 1, by omega, by simp, ?_, HI2⟩
          rw [tagL_step k l m (by omega)]
          simpa [tagP, ByteArray.data_append] using hW
        clear HI HI2 HT HR HC HA
        generalize l[m]'(by omega) = X at *
        generalize tagL k (l.take m) = S at *
        go_wp2_with fail
        refine (Short_yes X _ (by omega)).mono ?_
        rintro e w1 ⟨rfl, hb1⟩
        have hown1 := hown.later hb1
        have hz : ((⟨(M.varL X.size).toArray⟩ : ByteArray) ++ X).size ≤ 210 := by
          rw [ByteArray.size_append]
          omega
        generalize (⟨(M.varL X.size).toArray⟩ : ByteArray) ++ X = Y at *
        clear hown hb1
        go_wp2_with (at_builtin; refine wp_appStr rfl _ _ rfl w.heap.size w _ S rfl hown1 Y rfl ?c1 ?_)
        case c1 => omega
        intro v' w2 hown2
        go_wp2
        go_roundw
        case rel => exact HN.out _ _ hown2
        case measure => simp [intOf]; omega
    · have hme : m = n := by omega
      have hF := tagOk_yes (k : Int) l ⟨by omega, by omega⟩ (fun j hj => HI.out j hj (by omega))
      have hT := tagB_yes hF
      rw [HT.out] at hT
      rw [HR.out] at hF
      subst hF
      have e2 : l.take m = l := by rw [hme, ← hn]; exact List.take_length
      rw [e2] at hown
      have hcv := run_str hown
      have e3 : (⟨(tagL k l).toArray⟩ : ByteArray) = T := by rw [hT]; rfl
      rw [e3] at hcv
      subst hme
      clear HI HT HR HC HA e2 hT e3
      go_wp2
      go_ret2
      exact ⟨rfl, hown.2.1⟩

theorem tagged_any (k : Int) (v : Value) (g o : Nat) (l : List ByteArray) (w : World) (hv : SS w v g o l) :
    Calls Tryd.prog 36 #[.int .i64 k, v] w fun e w' => e = .returned (.tuple #[.string (tagB k l), .bool (tagOk k l)]) ∧ Below w.heap.size w w' := by
  by_cases h : (1 ≤ k ∧ k ≤ 8) ∧ l.length ≤ 60
  · obtain ⟨n, rfl⟩ := Int.eq_ofNat_of_zero_le (show 0 ≤ k by omega)
    exact tagged_in n v g o l w (by omega) (by omega) h.2 hv
  · have hF := tagOk_head k l h
    rw [tagB_no hF, hF]
    obtain ⟨a, cap, rfl, hl, _⟩ := hv
    exact tagged_no k a l.length cap w h hl

end Go.Proofs.YtkgibgadngeddaaDoor
