/-
  Texts laid together: Na, Tag, Sha, Arr, Pro.
-/
import Derived.Test.YtfiapodjiifmaaaGreatDoorPkP9
import Derived.Test.YtfiapodjiifmaaaGreatDoorPkP6
import Derived.OwnWalk
import Derived.Test.YtfiapodjiifmaaaGreatDoorPkP8
import Derived.Test.YtfiapodjiifmaaaGreatDoorPkP4
import Derived.Lib.AppendStr
import Derived.Deep.RegionHeld3
import Derived.Test.YtfiapodjiifmaaaGreatDoorRows
import Derived.WalkKit
import Derived.Below
import Derived.Laws.BitsAllLaws
import Derived.Laws.Rows
import Derived.Deep.QuietTactic
import Derived.BigQuiet
import Derived.Deep.WholeRow
/-
  A leaf put into a list, and dropped from it: the specification's answers.
-/
namespace Go.Proofs.YtfiapodjiifmaaaGreatDoor
open Go.RowKit Go.BigFrame Go.Sort
set_option linter.unusedVariables false
set_option linter.unusedSimpArgs false

section
variable {w : World} {ops : Array Oper} {o : Oper} {a : Act} {Q : Exit → Act → World → Prop}
/-- a leaf appended, and where the row lies then -/
theorem wp_leafL {rest : List Oper} (hgd : o.guard = none) (s x : Operand)
    (ho : o.op = .call { callee := .builtin .append, args := #[s, x], argTypes := #[24, 24] })
    (B : Nat) (w0 : World) (u : Value) (l : List Le) (f : Le) (hs : a.eval s = u) (h : OL B w0 w u l) (p : Nat) (hx : a.eval x = .slice (some ⟨p, 0, none⟩) 1 1)
    (hnews : w.rangeAt p 0 (lcs f)) (hlen : l.length + 1 ≤ 4000000)
    (hk : ∀ g cap w', OL B w0 w' (.slice (some ⟨g, 0, none⟩) (l.length + 1) cap) (l ++ [f]) → w.grownBy w' u.ownBlock → (u.ownBlock = some g ∨ g = w.heap.size) → wpList Tryz.prog ops Q rest (a.put o.dst (.slice (some ⟨g, 0, none⟩) (l.length + 1) cap)) w') : wpList Tryz.prog ops Q (o :: rest) a w := by
  obtain ⟨i0, hi, hz0, hz1, hz2⟩ := info_parts Tryz.infoLeaf
  refine wpList_append_lies w hgd s x 24 ho B 53 i0 _ 2 32 Tryz.underlying24 hi hz0 hz1 hz2 rfl (by decide) u l.length (l.flatMap lcs) hs h.1 ⟨p, 0, none⟩ 1 1 (lcs f) hx rfl ?_
    (fun u hu => by simp [lcs] at hu; rcases hu with rfl | rfl <;> rfl) (by omega) (by unfold maxLen; omega) (by omega) h.2.2 w.heap.size rfl ?_
  · intro j u hj
    have := hnews j u hj
    rw [Addr.add_mid]
    exact this
  · intro g cap w' h1 h2 h3 _
    exact hk _ _ _ ⟨by rw [List.flatMap_append, List.flatMap_singleton, List.length_append]; exact h1, h.2.1.grown h2 h.2.2 (fun k hk => (h.1.lt k hk).1), Nat.le_trans h.2.2 h2.size⟩ h2 h3

theorem flat_cellsL {w : World} {g o : Nat} {l : List Le} (h : ∀ j (h : j < l.length), w.rangeAt g (o + j * 2) (lcs l[j])) : ∀ j u, (l.flatMap lcs)[j]? = some u → w.cell? ⟨g, o + j, none⟩ = some u := by
  intro j u hu
  have hl := flat_len (k := 2) (enc := lcs) (fun x => lcs_len x) l
  have hj : j < l.length * 2 := by rw [← hl]; exact (List.getElem?_eq_some_iff.1 hu).1
  have e : j = j / 2 * 2 + j % 2 := by omega
  have hq : j / 2 < l.length := by omega
  rw [e, flat_at (k := 2) (enc := lcs) (fun x => lcs_len x) l (j / 2) hq (j % 2) (by omega)] at hu
  have := h (j / 2) hq (j % 2) u hu
  rw [e, ← Nat.add_assoc]
  exact this
theorem oneL {l : List Le} : ∀ u ∈ l.flatMap lcs, u.oneCell' = true := fun u hu => by
  obtain ⟨f, _, hf⟩ := List.mem_flatMap.1 hu
  simp [lcs] at hf
  rcases hf with rfl | rfl <;> rfl
/-- a whole row of leaves appended to an empty one -/
theorem wp_rowL {rest : List Oper} (hgd : o.guard = none) (s x : Operand)
    (ho : o.op = .call { callee := .builtin .append, args := #[s, x], argTypes := #[24, 24] })
    (B : Nat) (w0 : World) (g : Nat) (hs : a.eval s = .slice (some ⟨g, 0, none⟩) 0 0) (h : OL B w0 w (.slice (some ⟨g, 0, none⟩) 0 0) []) (p : Option Addr) (ga oa cap : Nat) (l : List Le) (hx : a.eval x = .slice p l.length cap) (hv : RS 2 lcs w (.slice p l.length cap) ga oa l) (hnil : p = none → cap = 0)
    (hk : ∀ v' w', OL B w0 w' v' l → wpList Tryz.prog ops Q rest (a.put o.dst v') w') : wpList Tryz.prog ops Q (o :: rest) a w := by
  obtain ⟨i0, hi, hz0, hz1, hz2⟩ := info_parts Tryz.infoLeaf
  obtain ⟨p', cap', ev, hlen, hA, hc⟩ := hv
  obtain ⟨rfl, rfl⟩ : p = p' ∧ cap = cap' := by simpa using ev
  by_cases h0 : l.length = 0
  · have : l = [] := List.length_eq_zero_iff.1 h0
    subst this
    refine wpList_append_fits_any w hgd s x 24 ho B 53 i0 2 Tryz.underlying24 hi hz1 g 0 0 [] hs h.1 p 0 cap [] hx rfl (fun e => ⟨rfl, hnil e⟩) (fun ad _ j u hu => by simp at hu) (fun u hu => by cases hu) (by omega) ?_
    intro w' h1 h2
    exact hk _ _ ⟨by simpa using h1, h.2.1.grown h2 h.2.2 (fun k hk => (h.1.lt k hk).1), Nat.le_trans h.2.2 h2.size⟩
  · obtain ⟨rfl, hg⟩ := hA (by omega)
    refine wpList_append_own _ hgd s x 24 ho B 53 i0 _ 2 32 Tryz.underlying24 hi hz0 hz1 hz2 rfl (by decide) _ 0 [] hs h.1 ⟨ga, oa, none⟩ l.length cap (l.flatMap lcs) hx (flat_len (k := 2) (enc := lcs) (fun x => lcs_len x) l) ?_ oneL (by unfold maxLen; omega) (by omega) h.2.2 ?_
    · intro j u hj
      have := flat_cellsL hc j u hj
      rw [Addr.add_mid]
      exact this
    · intro v' w' h1 h2 _
      exact hk _ _ ⟨by simpa using h1, h.2.1.grown h2 h.2.2 (fun k hk => (h.1.lt k hk).1), Nat.le_trans h.2.2 h2.size⟩
end

namespace LV
theorem filt_step {L : List Le} {m : Nat} (P : Le → Bool) (hm : m < L.length) : (L.take (m + 1)).filter P = if P L[m] = true then (L.take m).filter P ++ [L[m]] else (L.take m).filter P := by
  rw [List.take_succ_eq_append_getElem hm, List.filter_append]
  by_cases h : P L[m] = true
  · simp [h]
  · simp [h]
theorem filt_len (L : List Le) (m : Nat) (P : Le → Bool) : ((L.take m).filter P).length ≤ L.length := Nat.le_trans (List.length_filter_le _ _) (by simp; omega)
end LV

/-- the leaves of a row that P wants, behind those of l0 -/
def NaR (B : Nat) (w0 : World) (ga : Nat) (l0 : List Le) (P : Le → Bool) (L : List Le) (V : World) (u i : Value) (wr : World) : Prop := ∃ m : Nat, m ≤ L.length ∧ i = .int .i64 m ∧ Hid (OL B w0 wr u (l0 ++ (L.take m).filter P) ∧ (0 < L.length → wr.heap[ga]? = V.heap[ga]? ∧ u.ownBlock ≠ some ga ∧ ga < wr.heap.size))

set_option maxRecDepth 100000 in
set_option maxHeartbeats 1000000 in
theorem l09Without_any (v : Value) (ga oa : Nat) (L : List Le) (x : ByteArray) (w : World) (hv : RS 2 lcs w v ga oa L) :
    Calls Tryz.prog 71 #[v, .string x] w fun e w' => ∃ u, e = .returned u ∧ OL w.heap.size w w' u (LV.wout L x) := by
  have HV : Hid (RS 2 lcs w v ga oa L) := hv
  obtain ⟨a, cap, rfl, hl, hA, _⟩ := hv
  obtain ⟨n, hn⟩ : ∃ n, L.length = n := ⟨_, rfl⟩
  have HA : Hid (0 < n → a = some ⟨ga, oa, none⟩ ∧ ga < w.heap.size) := by rw [← hn]; exact hA
  rw [hn] at hl HV ⊢
  clear hA
  have HST : Hid (∃ m : Nat, m ≤ L.length ∧ Value.int .i64 0 = .int .i64 m ∧ Hid (OL w.heap.size w (w.alloc (.cells #[] 53)) (.slice (some ⟨w.heap.size, 0, none⟩) 0 0) (LV.wout (L.take m) x))) := ⟨0, by omega, rfl, OL.made _ w w (Below.refl _ _) (Nat.le_refl _)⟩
  go_enter Tryz.func71, Tryz.ntmps71
  go_wp2
  go_loopw [5, 6] (fun u i wr => ∃ m : Nat, m ≤ L.length ∧ i = .int .i64 m ∧ Hid (OL w.heap.size w wr u (LV.wout (L.take m) x))) (fun _ i _ => n - (intOf i).toNat)
  case atStart => exact HST.out
  case round =>
    obtain ⟨m, hm, rfl, HI⟩ := hrel
    clear HST
    rw [hn] at hm
    obtain ⟨au, cu, rfl⟩ := HI.out.shape
    by_cases hlt : m < n
    · have ea := (HA.out (by omega)).1
      subst ea
      obtain ⟨c0, c1⟩ := (HV.out.later HI.out.2.1).leaf m (by omega)
      obtain ⟨X, hX⟩ : ∃ X, L[m]'(by omega) = X := ⟨_, rfl⟩
      rw [hX] at c0 c1
      have hst : LV.wout (L.take (m + 1)) x = if X.n = x then LV.wout (L.take m) x else LV.wout (L.take m) x ++ [X] := by
        have := LV.filt_step (L := L) (m := m) (fun g => !decide (g.n = x)) (by omega)
        rw [hX] at this
        unfold LV.wout
        rw [this]
        by_cases h : X.n = x <;> simp [h]
      have hle : (LV.wout (L.take m) x).length ≤ L.length := Nat.le_trans (LV.len_wout_le _ _) (by simp; omega)
      have i1 : (m : Int) < (n : Int) := by omega
      have i2 : (0 : Int) ≤ (m : Int) := by omega
      clear HV HA
      by_cases hk : X.n = x
      · rw [if_pos hk] at hst
        have HJ : Hid (OL w.heap.size w wr (.slice au (LV.wout (L.take m) x).length cu) (LV.wout (L.take (m + 1)) x)) := by rw [hst]; exact HI.out
        have q : (X.n.toList == x.toList) = true := by rw [hk]; simp
        clear HI hX hk hst
        generalize LV.wout (L.take m) x = l at *
        go_wp2
        go_roundw
        case rel => exact ⟨m + 1, by omega, by go_num, HJ⟩
        case measure => simp [intOf]; omega
      · rw [if_neg hk] at hst
        have HJ : Hid (LV.wout (L.take (m + 1)) x = LV.wout (L.take m) x ++ [X]) := hst
        have q : (X.n.toList == x.toList) = false := LV.bytes_ne hk
        clear hX hk hst
        generalize LV.wout (L.take m) x = l at *
        have hba : Below wr.heap.size wr (wr.alloc (.cells #[.string X.n, .string X.v] 53)) := (Below.refl _ _).alloc (Nat.le_refl _) _
        have hoa := HI.out.later hba
        have HRN : Hid ((wr.alloc (.cells #[.string X.n, .string X.v] 53)).rangeAt wr.heap.size 0 (lcs X)) := range_new _ [.string X.n, .string X.v] 53
        clear hba HI
        go_wp2_with (at_builtin; refine wp_leafL rfl _ _ rfl w.heap.size w (.slice au l.length cu) l X rfl hoa _ rfl HRN.out (by omega) ?_)
        intro g5 cap5 w5 ho5 hg5 hl5
        have HK : Hid (OL w.heap.size w w5 (.slice (some ⟨g5, 0, none⟩) (l.length + 1) cap5) (LV.wout (L.take (m + 1)) x)) := by rw [HJ.out]; exact ho5
        clear ho5 hg5 hl5 hoa HRN HJ c0 c1
        go_wp2
        go_roundw
        case rel => exact ⟨m + 1, by omega, by go_num, HK⟩
        case measure => simp [intOf]; omega
    · have hme : m = n := by omega
      have e : LV.wout (L.take m) x = LV.wout L x := by rw [List.take_of_length_le (by omega)]
      have HF : Hid (∃ u, Ending.returned (.slice au (LV.wout (L.take m) x).length cu) = .returned u ∧ OL w.heap.size w wr u (LV.wout L x)) := ⟨_, rfl, by rw [← e]; exact HI.out⟩
      generalize LV.wout (L.take m) x = l at *
      subst hme
      clear HI HA HV e
      go_wp2
      go_ret
      exact HF.out

end Go.Proofs.YtfiapodjiifmaaaGreatDoor
/-
  What TagText answers, the program's and the specification's.
-/
namespace Go.Proofs.YtfiapodjiifmaaaGreatDoor
open Go.RowKit
set_option linter.unusedVariables false

/-- a part behind its length -/
def tagP (p : ByteArray) : List UInt8 := M.varL p.size ++ p.data.toList
def tagL (k : Nat) (l : List ByteArray) : List UInt8 := UInt8.ofNat k :: l.flatMap tagP
def tagOk (k : Int) (l : List ByteArray) : Bool := decide ((1 ≤ k ∧ k ≤ 8) ∧ l.length ≤ 60) && l.all (fun p => decide (p.size ≤ 200))
def tagB (k : Int) (l : List ByteArray) : ByteArray := if tagOk k l then ⟨(tagL k.toNat l).toArray⟩ else ⟨#[]⟩
def tagS (k : Nat) (l : List ByteArray) : ByteArray := ⟨(tagL k l).toArray⟩

theorem tagOk_head (k : Int) (l : List ByteArray) (h : ¬ ((1 ≤ k ∧ k ≤ 8) ∧ l.length ≤ 60)) : tagOk k l = false := by
  unfold tagOk
  rw [decide_eq_false h, Bool.false_and]
theorem tagOk_part (k : Int) (l : List ByteArray) (m : Nat) (h : m < l.length) (hb : 200 < l[m].size) : tagOk k l = false := by
  unfold tagOk
  have : l.all (fun p => decide (p.size ≤ 200)) = false := by
    rw [List.all_eq_false]
    exact ⟨l[m], List.getElem_mem _, by simp; omega⟩
  rw [this, Bool.and_false]
theorem tagOk_yes (k : Int) (l : List ByteArray) (h : (1 ≤ k ∧ k ≤ 8) ∧ l.length ≤ 60) (hp : ∀ m (h : m < l.length), l[m].size ≤ 200) : tagOk k l = true := by
  unfold tagOk
  have : l.all (fun p => decide (p.size ≤ 200)) = true := by
    rw [List.all_eq_true]
    intro x hx
    obtain ⟨j, hj, rfl⟩ := List.getElem_of_mem hx
    simpa using hp j hj
  rw [this, decide_eq_true h]
  rfl
theorem tagB_no {k : Int} {l : List ByteArray} (h : tagOk k l = false) : tagB k l = ⟨#[]⟩ := by
  unfold tagB
  rw [h]
  rfl
theorem tagB_yes {k : Nat} {l : List ByteArray} (h : tagOk (k : Int) l = true) : tagB (k : Int) l = tagS k l := by
  unfold tagB
  rw [h]
  rfl

theorem tagP_len (p : ByteArray) : (tagP p).length ≤ p.size + 10 := by
  have := M.varL_len p.size
  have e : p.data.toList.length = p.size := Array.length_toList
  unfold tagP
  rw [List.length_append]
  omega
theorem tagL_step (k : Nat) (l : List ByteArray) (m : Nat) (h : m < l.length) : tagL k (l.take (m + 1)) = tagL k (l.take m) ++ tagP l[m] := by
  unfold tagL
  rw [← List.take_append_getElem h, List.flatMap_append]
  simp
theorem tagS_step (k : Nat) (l : List ByteArray) (m : Nat) (h : m < l.length) : (tagS k (l.take m) ++ ⟨(M.varL l[m].size).toArray⟩) ++ l[m] = tagS k (l.take (m + 1)) := by
  apply ByteArray.ext
  apply Array.toList_inj.1
  unfold tagS
  rw [tagL_step k l m h]
  simp [tagP, ByteArray.data_append]
theorem tagL_len (k : Nat) (l : List ByteArray) (m : Nat) (hm : m ≤ l.length) (hp : ∀ j (h : j < l.length), j < m → l[j].size ≤ 200) : (tagL k (l.take m)).length ≤ 1 + 210 * m := by
  induction m with
  | zero => simp [tagL]
  | succ m ih =>
    have h1 := ih (by omega) (fun j hj hlt => hp j hj (by omega))
    rw [tagL_step k l m (by omega), List.length_append]
    have h2 := tagP_len (l[m]'(by omega))
    have h3 := hp m (by omega) (by omega)
    omega

/-- 'string([]byte{x})' -/
theorem one_s (w : World) (x : Int) (b : UInt8) (h : x = (b.toNat : Int)) : (convert 22 9 (.slice (some ⟨w.heap.size, 0, none⟩) 1 1)).run Tryz.prog (w.alloc (.cells #[.int .u8 x] 5)) = .ok (.string ⟨[b].toArray⟩) (w.alloc (.cells #[.int .u8 x] 5)) := by
  subst h
  refine run_convert_bytes_back _ 22 9 5 ⟨w.heap.size, 0, none⟩ 1 [b] Tryz.underlying22 Tryz.underlying5 Tryz.underlying9 ?_
  intro j hj
  have h0 : j = 0 := by simp at hj; exact hj
  subst h0
  simp [Addr.add]

theorem l01Var_v (n : Nat) (V : ByteArray) (w : World) (hn : n ≤ 1000000000) (hV : (⟨(M.varL n).toArray⟩ : ByteArray) = V) :
    Calls Tryz.prog 110 #[.int .i64 n] w fun e w' => e = .returned (.string V) ∧ Below w.heap.size w w' := by
  subst hV
  exact l01Var_any n w hn

/-- what the loop of the specification's TagText holds at each round's head -/
def TgS (k : Nat) (l : List ByteArray) (w : World) (s i : Value) (wr : World) : Prop :=
  ∃ m : Nat, m ≤ l.length ∧ i = .int .i64 m ∧ s = .string (tagS k (l.take m)) ∧ Hid (∀ j (h : j < l.length), j < m → l[j].size ≤ 200) ∧ Below w.heap.size w wr

theorem pt_step {l : List ByteArray} {m : Nat} (hm : m < l.length) (hp : l[m].size ≤ 200) (h : ∀ j (h : j < l.length), j < m → l[j].size ≤ 200) : Hid (∀ j (h : j < l.length), j < m + 1 → l[j].size ≤ 200) := by
  intro j hj hlt
  rcases Nat.lt_or_ge j m with h1 | h1
  · exact h j hj h1
  · have : j = m := by omega
    subst this
    exact hp

theorem sTagText_no (k : Int) (a : Option Addr) (n cap : Nat) (w : World) (h : ¬ ((1 ≤ k ∧ k ≤ 8) ∧ n ≤ 60)) (hn : n ≤ 1100000) :
    Calls Tryz.prog 104 #[.int .i64 k, .slice a n cap] w fun e w' => e = .returned (.tuple #[.string ⟨#[]⟩, .bool false]) ∧ Below w.heap.size w w' := by
  by_cases hk : 1 ≤ k ∧ k ≤ 8
  · have hd : decide ((1 : Int) ≤ k ∧ k ≤ 8) = true := by simp; omega
    have hnn : 60 < n := by omega
    clear h
    go_enter Tryz.func104, Tryz.ntmps104
    go_wp2_with fail
    refine (l01In_any _ _ _ _).mono ?_
    rintro e w' ⟨rfl, rfl⟩
    rw [hd]
    go_wp2
    go_ret2
    exact ⟨rfl, Below.refl _ _⟩
  · have hd : decide ((1 : Int) ≤ k ∧ k ≤ 8) = false := by simp; omega
    clear h
    go_enter Tryz.func104, Tryz.ntmps104
    go_wp2_with fail
    refine (l01In_any _ _ _ _).mono ?_
    rintro e w' ⟨rfl, rfl⟩
    rw [hd]
    go_wp2
    go_ret2
    exact ⟨rfl, Below.refl _ _⟩

set_option maxRecDepth 100000 in
set_option maxHeartbeats 1000000 in
theorem sTagText_in (k : Nat) (v : Value) (g o : Nat) (l : List ByteArray) (w : World) (h1 : 1 ≤ k) (h8 : k ≤ 8) (hl : l.length ≤ 60) (hv : SS w v g o l) :
    Calls Tryz.prog 104 #[.int .i64 k, v] w fun e w' => e = .returned (.tuple #[.string (tagB (k : Int) l), .bool (tagOk (k : Int) l)]) ∧ Below w.heap.size w w' := by
  have hgl := hv.lt
  obtain ⟨a, cap, rfl, _, hA, hc⟩ := hv
  have hd : decide ((1 : Int) ≤ (k : Int) ∧ (k : Int) ≤ 8) = true := by simp; omega
  obtain ⟨n, hn⟩ : ∃ n, l.length = n := ⟨_, rfl⟩
  have HA : Hid (0 < n → a = some ⟨g, o, none⟩ ∧ g < w.heap.size) := by rw [← hn]; exact fun h => ⟨hA h, hgl h⟩
  have HC : Hid (∀ j (h : j < l.length), w.cell? ⟨g, o + j, none⟩ = some (.string l[j])) := hc
  obtain ⟨T, hT⟩ : ∃ T, tagB (k : Int) l = T := ⟨_, rfl⟩
  obtain ⟨R, hR⟩ : ∃ R, tagOk (k : Int) l = R := ⟨_, rfl⟩
  have HT : Hid (tagB (k : Int) l = T) := hT
  have HR : Hid (tagOk (k : Int) l = R) := hR
  rw [hn] at hl
  rw [hT, hR, hn]
  clear hA hgl hc hT hR
  go_enter Tryz.func104, Tryz.ntmps104
  go_wp2_with fail
  refine (l01In_any _ _ _ _).mono ?_
  rintro e w' ⟨rfl, rfl⟩
  rw [hd]
  have hcv := one_s w' (k : Int) (UInt8.ofNat k) (by simp; omega)
  have e1 : (⟨[UInt8.ofNat k].toArray⟩ : ByteArray) = tagS k [] := by simp [tagS, tagL]
  rw [e1] at hcv
  have HST : Hid (TgS k l w' (.string (tagS k [])) (.int .i64 0) (w'.alloc (.cells #[.int .u8 (k : Int)] 5))) := ⟨0, by omega, rfl, rfl, by intro j _ h; omega, (Below.refl _ _).alloc (Nat.le_refl _) _⟩
  clear e1
  go_wp2
  clear hcv hd
  go_loopw [6, 7] (fun s i wr => TgS k l w' s i wr) (fun _ i _ => n - (intOf i).toNat)
  case atStart => exact HST.out
  case round =>
    obtain ⟨m, hm, rfl, rfl, HI, hbel⟩ := hrel
    rw [hn] at hm
    clear HST
    by_cases hlt : m < n
    · obtain ⟨ea, hga⟩ := HA.out (by omega)
      subst ea
      have c0 : wr.cell? ⟨g, o + m, none⟩ = some (.string (l[m]'(by omega))) := (hbel.cell (p := ⟨g, o + m, none⟩) hga).trans (HC.out m (by omega))
      have hgr : g < wr.heap.size := Nat.lt_of_lt_of_le hga hbel.size
      have i1 : (m : Int) < (n : Int) := by omega
      have i2 : (0 : Int) ≤ (m : Int) := by omega
      by_cases hx : 200 < (l[m]'(by omega)).size
      · have hF := tagOk_part (k : Int) l m (by omega) hx
        have hT := tagB_no hF
        rw [HT.out] at hT
        rw [HR.out] at hF
        subst hF
        subst hT
        clear HI HT HR HC HA
        generalize l[m]'(by omega) = X at *
        generalize tagS k (l.take m) = S at *
        go_wp2
        go_ret2
        exact ⟨rfl, hbel⟩
      · have hsz : (tagS k (l.take m)).size ≤ 13000 := by
          have h := tagL_len k l m (by omega) HI.out
          have e : (tagS k (l.take m)).size = (tagL k (l.take m)).length := by simp [tagS, ByteArray.size]
          omega
        have hst := tagS_step k l m (by omega)
        have HI2 := pt_step (show m < l.length by omega) (by omega) HI.out
        have hvz := varA_size (l[m]'(by omega)).size
        have HN : Hid (∀ W, Below w'.heap.size w' W → TgS k l w' (.string ((tagS k (l.take m) ++ ⟨(M.varL (l[m]'(by omega)).size).toArray⟩) ++ l[m]'(by omega))) (.int .i64 ((m : Int) + 1)) W) := by
          rw [hst]
          exact fun W hW => ⟨m + 1, by omega, by simp, rfl, HI2, hW⟩
        clear HI HI2 HT HR HC HA hst
        generalize l[m]'(by omega) = X at *
        generalize tagS k (l.take m) = S at *
        obtain ⟨V, hV⟩ : ∃ V, (⟨(M.varL X.size).toArray⟩ : ByteArray) = V := ⟨_, rfl⟩
        rw [hV] at HN hvz
        have HV : Hid ((⟨(M.varL X.size).toArray⟩ : ByteArray) = V) := hV
        have q1 : ¬ (9223372036854775807 < S.size + V.size) := by omega
        have q2 : ¬ (9223372036854775807 < S.size + V.size + X.size) := by omega
        clear hV
        go_wp2
        go_region_held3 (fun W => W.cell? ⟨g, o + m, none⟩ = some (.string X)) (first | go_keep | exact (hb1.cell (p := ⟨g, o + m, none⟩) hgr).trans c0) ((go_at_call 110; refine (l01Var_v X.size V _ (by omega) HV.out).mono ?_; rintro e w1 ⟨rfl, hb1⟩))
        have hb2 := hbel.drew.trans (hb1.mono hbel.size)
        clear hb1
        go_wp2
        go_roundw
        case rel => exact HN.out _ hb2
        case measure => simp [intOf]; omega
    · have hme : m = n := by omega
      have hF := tagOk_yes (k : Int) l ⟨by omega, by omega⟩ (fun j hj => HI.out j hj (by omega))
      have hT := tagB_yes hF
      rw [HT.out] at hT
      rw [HR.out] at hF
      subst hF
      have e2 : l.take m = l := by rw [hme, ← hn]; exact List.take_length
      rw [e2, ← hT]
      subst hme
      clear HI HT HR HC HA e2 hT
      go_wp2
      go_ret2
      exact ⟨rfl, hbel⟩

theorem sTagText_any (k : Int) (v : Value) (g o : Nat) (l : List ByteArray) (w : World) (hv : SS w v g o l) :
    Calls Tryz.prog 104 #[.int .i64 k, v] w fun e w' => e = .returned (.tuple #[.string (tagB k l), .bool (tagOk k l)]) ∧ Below w.heap.size w w' := by
  by_cases h : (1 ≤ k ∧ k ≤ 8) ∧ l.length ≤ 60
  · obtain ⟨n, rfl⟩ := Int.eq_ofNat_of_zero_le (show 0 ≤ k by omega)
    exact sTagText_in n v g o l w (by omega) (by omega) h.2 hv
  · have hF := tagOk_head k l h
    rw [tagB_no hF, hF]
    obtain ⟨a, cap, rfl, hl, _⟩ := hv
    exact sTagText_no k a l.length cap w h hl

theorem tagged_no (k : Int) (a : Option Addr) (n cap : Nat) (w : World) (h : ¬ ((1 ≤ k ∧ k ≤ 8) ∧ n ≤ 60)) (hn : n ≤ 1100000) :
    Calls Tryz.prog 39 #[.int .i64 k, .slice a n cap] w fun e w' => e = .returned (.tuple #[.string ⟨#[]⟩, .bool false]) ∧ Below w.heap.size w w' := by
  rcases (show k < 1 ∨ (1 ≤ k ∧ 8 < k) ∨ (1 ≤ k ∧ k ≤ 8 ∧ 60 < n) from by omega) with hk | ⟨hk, hk2⟩ | ⟨hk, hk2, hk3⟩
  · clear h
    go_enter Tryz.func39, Tryz.ntmps39
    go_wp2
    go_ret2
    exact ⟨rfl, Below.refl _ _⟩
  · clear h
    go_enter Tryz.func39, Tryz.ntmps39
    go_wp2
    go_ret2
    exact ⟨rfl, Below.refl _ _⟩
  · clear h
    go_enter Tryz.func39, Tryz.ntmps39
    go_wp2
    go_ret2
    exact ⟨rfl, Below.refl _ _⟩

/-- a string appended to what is owned -/
theorem wp_appStr {w : World} {ops : Array Oper} {rest : List Oper} {o : Oper} {a : Act} {Q : Exit → Act → World → Prop} (hgd : o.guard = none) (s x : Operand)
    (ho : o.op = .call { callee := .builtin .append, args := #[s, x], argTypes := #[22, 9] })
    (B : Nat) (w0 : World) (v : Value) (l : List UInt8) (hs : a.eval s = v) (hown : OB B w0 w v l) (t : ByteArray) (hx : a.eval x = .string t) (hlen : l.length + t.size ≤ 1000000000)
    (h : ∀ v' w', OB B w0 w' v' (l ++ t.data.toList) → wpList Tryz.prog ops Q rest (a.put o.dst v') w') : wpList Tryz.prog ops Q (o :: rest) a w := by
  obtain ⟨i0, hi, hz0, hz1, hz2⟩ := info_parts Tryz.info5
  refine Lib.wpList_append_own_string w hgd s x 22 9 ho B 5 i0 Tryz.underlying22 Tryz.underlying9 hi hz0 hz1 hz2 v l.length (bv l) hs hown.1 t hx (by unfold maxLen; omega) (by omega) hown.2.2 ?_
  intro v' w' h1 h2 _
  have e : t.data.toList.length = t.size := Array.length_toList
  refine h v' w' ⟨?_, hown.2.1.grown h2 hown.2.2 (fun k hk => (hown.1.lt k hk).1), Nat.le_trans hown.2.2 h2.size⟩
  rw [List.length_append, bv_append, e]
  exact h1

/-- what is owned stays so behind a call that leaves all that was there as it was -/
theorem OB.later {B : Nat} {w0 w w' : World} {v : Value} {l : List UInt8} (h : OB B w0 w v l) (hb : Below w.heap.size w w') : OB B w0 w' v l := by
  refine ⟨⟨h.1.1, ?_⟩, h.2.1.trans (hb.mono h.2.2), Nat.le_trans h.2.2 hb.size⟩
  rcases h.1.2 with hn | ⟨g, cap, cur, hv, hbg, hg, rest⟩
  · exact .inl hn
  · refine .inr ⟨g, cap, cur, hv, hbg, ?_, rest⟩
    rw [hb.block g (Array.getElem?_eq_some_iff.1 hg).1]
    exact hg

theorem OB.one (w : World) (x : Int) (b : UInt8) (h : x = (b.toNat : Int)) : OB w.heap.size w (w.alloc (.cells #[.int .u8 x] 5)) (.slice (some ⟨w.heap.size, 0, none⟩) 1 1) [b] := by
  subst h
  exact ⟨World.ownsRow_lit w #[.int .u8 (b.toNat : Int)] 1 (Nat.le_refl _) (by decide) (by simp), (Below.refl _ _).alloc (Nat.le_refl _) _, by simp⟩

/-- what the loop of tagged holds at each round's head -/
def TgI (k : Nat) (l : List ByteArray) (w : World) (v i : Value) (wr : World) : Prop :=
  ∃ m : Nat, m ≤ l.length ∧ i = .int .i64 m ∧ OB w.heap.size w wr v (tagL k (l.take m)) ∧ Hid (∀ j (h : j < l.length), j < m → l[j].size ≤ 200)

set_option maxRecDepth 100000 in
set_option maxHeartbeats 1000000 in
theorem tagged_in (k : Nat) (v : Value) (g o : Nat) (l : List ByteArray) (w : World) (h1 : 1 ≤ k) (h8 : k ≤ 8) (hl : l.length ≤ 60) (hv : SS w v g o l) :
    Calls Tryz.prog 39 #[.int .i64 k, v] w fun e w' => e = .returned (.tuple #[.string (tagB (k : Int) l), .bool (tagOk (k : Int) l)]) ∧ Below w.heap.size w w' := by
  have hgl := hv.lt
  obtain ⟨a, cap, rfl, _, hA, hc⟩ := hv
  obtain ⟨n, hn⟩ : ∃ n, l.length = n := ⟨_, rfl⟩
  have HA : Hid (0 < n → a = some ⟨g, o, none⟩ ∧ g < w.heap.size) := by rw [← hn]; exact fun h => ⟨hA h, hgl h⟩
  have HC : Hid (∀ j (h : j < l.length), w.cell? ⟨g, o + j, none⟩ = some (.string l[j])) := hc
  obtain ⟨T, hT⟩ : ∃ T, tagB (k : Int) l = T := ⟨_, rfl⟩
  obtain ⟨R, hR⟩ : ∃ R, tagOk (k : Int) l = R := ⟨_, rfl⟩
  have HT : Hid (tagB (k : Int) l = T) := hT
  have HR : Hid (tagOk (k : Int) l = R) := hR
  have HST : Hid (TgI k l w (.slice (some ⟨w.heap.size, 0, none⟩) 1 1) (.int .i64 0) (w.alloc (.cells #[.int .u8 (k : Int)] 5))) := ⟨0, by omega, rfl, by simpa [tagL] using OB.one w (k : Int) (UInt8.ofNat k) (by simp; omega), by intro j _ h; omega⟩
  rw [hn] at hl
  rw [hT, hR, hn]
  clear hA hgl hc hT hR
  go_enter Tryz.func39, Tryz.ntmps39
  go_wp2
  go_loopw [6, 27] (fun v i wr => TgI k l w v i wr) (fun _ i _ => n - (intOf i).toNat)
  case atStart => exact HST.out
  case round =>
    obtain ⟨m, hm, rfl, hown, HI⟩ := hrel
    rw [hn] at hm
    clear HST
    by_cases hlt : m < n
    · obtain ⟨ea, hga⟩ := HA.out (by omega)
      subst ea
      have c0 : wr.cell? ⟨g, o + m, none⟩ = some (.string (l[m]'(by omega))) := (hown.2.1.cell (p := ⟨g, o + m, none⟩) hga).trans (HC.out m (by omega))
      have i1 : (m : Int) < (n : Int) := by omega
      have i2 : (0 : Int) ≤ (m : Int) := by omega
      by_cases hx : 200 < (l[m]'(by omega)).size
      · have hF := tagOk_part (k : Int) l m (by omega) hx
        have hT := tagB_no hF
        rw [HT.out] at hT
        rw [HR.out] at hF
        subst hF
        subst hT
        clear HI HT HR HC HA
        generalize l[m]'(by omega) = X at *
        go_wp2
        try rw [Exit.noGoto_ret]
        go_ret2
        exact ⟨rfl, hown.2.1⟩
      · have hsz := tagL_len k l m (by omega) HI.out
        have HI2 := pt_step (show m < l.length by omega) (by omega) HI.out
        have hvz := varA_size (l[m]'(by omega)).size
        have HN : Hid (∀ v W, OB w.heap.size w W v (tagL k (l.take m) ++ (⟨(M.varL (l[m]'(by omega)).size).toArray⟩ ++ l[m]'(by omega) : ByteArray).data.toList) → TgI k l w v (.int .i64 ((m : Int) + 1)) W) := by
          intro v W hW
          refine ⟨m + 1, by omega, by simp, ?_, HI2⟩
          rw [tagL_step k l m (by omega)]
          simpa [tagP, ByteArray.data_append] using hW
        clear HI HI2 HT HR HC HA
        generalize l[m]'(by omega) = X at *
        generalize tagL k (l.take m) = S at *
        go_wp2_with fail
        refine (Short_yes X _ (by omega)).mono ?_
        rintro e w1 ⟨rfl, hb1⟩
        have hown1 := hown.later hb1
        have hz : ((⟨(M.varL X.size).toArray⟩ : ByteArray) ++ X).size ≤ 210 := by
          rw [ByteArray.size_append]
          omega
        generalize (⟨(M.varL X.size).toArray⟩ : ByteArray) ++ X = Y at *
        clear hown hb1
        go_wp2_with (at_builtin; refine wp_appStr rfl _ _ rfl w.heap.size w _ S rfl hown1 Y rfl ?c1 ?_)
        case c1 => omega
        intro v' w2 hown2
        go_wp2
        go_roundw
        case rel => exact HN.out _ _ hown2
        case measure => simp [intOf]; omega
    · have hme : m = n := by omega
      have hF := tagOk_yes (k : Int) l ⟨by omega, by omega⟩ (fun j hj => HI.out j hj (by omega))
      have hT := tagB_yes hF
      rw [HT.out] at hT
      rw [HR.out] at hF
      subst hF
      have e2 : l.take m = l := by rw [hme, ← hn]; exact List.take_length
      rw [e2] at hown
      have hcv := run_str hown
      have e3 : (⟨(tagL k l).toArray⟩ : ByteArray) = T := by rw [hT]; rfl
      rw [e3] at hcv
      subst hme
      clear HI HT HR HC HA e2 hT e3
      go_wp2
      go_ret2
      exact ⟨rfl, hown.2.1⟩

theorem tagged_any (k : Int) (v : Value) (g o : Nat) (l : List ByteArray) (w : World) (hv : SS w v g o l) :
    Calls Tryz.prog 39 #[.int .i64 k, v] w fun e w' => e = .returned (.tuple #[.string (tagB k l), .bool (tagOk k l)]) ∧ Below w.heap.size w w' := by
  by_cases h : (1 ≤ k ∧ k ≤ 8) ∧ l.length ≤ 60
  · obtain ⟨n, rfl⟩ := Int.eq_ofNat_of_zero_le (show 0 ≤ k by omega)
    exact tagged_in n v g o l w (by omega) (by omega) h.2 hv
  · have hF := tagOk_head k l h
    rw [tagB_no hF, hF]
    obtain ⟨a, cap, rfl, hl, _⟩ := hv
    exact tagged_no k a l.length cap w h hl

end Go.Proofs.YtfiapodjiifmaaaGreatDoor
/-
  SHA-256 in plain words: rotations, the sixty-four words of a block, the rounds.
-/
namespace Go.Proofs.YtfiapodjiifmaaaGreatDoor.H
set_option linter.unusedVariables false

def rotr (x : UInt32) (n : Nat) : UInt32 := UInt32.ofNat (x.toNat / 2 ^ n ||| x.toNat * 2 ^ (32 - n) % 4294967296)
def shr (x : UInt32) (n : Nat) : UInt32 := UInt32.ofNat (x.toNat / 2 ^ n)
def upd (f : Nat → UInt32) (i : Nat) (x : UInt32) : Nat → UInt32 := fun j => if j = i then x else f j

def sig0 (x : UInt32) : UInt32 := (rotr x 7 ^^^ rotr x 18) ^^^ shr x 3
def sig1 (x : UInt32) : UInt32 := (rotr x 17 ^^^ rotr x 19) ^^^ shr x 10
def wStep (f : Nat → UInt32) (i : Nat) : UInt32 := ((f (i - 16) + sig0 (f (i - 15))) + f (i - 7)) + sig1 (f (i - 2))
/-- so many words more than sixteen -/
def wMore (f : Nat → UInt32) : Nat → Nat → UInt32
  | 0 => f
  | k + 1 => upd (wMore f k) (16 + k) (wStep (wMore f k) (16 + k))
def word (b : Nat → Nat) (i : Nat) : UInt32 := UInt32.ofNat (b (4 * i) * 16777216 + b (4 * i + 1) * 65536 + b (4 * i + 2) * 256 + b (4 * i + 3))
/-- the first so many words of a block, zeros behind -/
def wHead (b : Nat → Nat) : Nat → Nat → UInt32
  | 0 => fun _ => 0
  | k + 1 => upd (wHead b k) k (word b k)
def wAll (b : Nat → Nat) : Nat → UInt32 := wMore (wHead b 16) 48

def big1 (e : UInt32) : UInt32 := (rotr e 6 ^^^ rotr e 11) ^^^ rotr e 25
def big0 (a : UInt32) : UInt32 := (rotr a 2 ^^^ rotr a 13) ^^^ rotr a 22
def ch (e f g : UInt32) : UInt32 := (e &&& f) ^^^ ((e ^^^ 4294967295) &&& g)
def maj (a b c : UInt32) : UInt32 := ((a &&& b) ^^^ (a &&& c)) ^^^ (b &&& c)
def one (s : Nat → UInt32) (k w : UInt32) : UInt32 := (((s 7 + big1 (s 4)) + ch (s 4) (s 5) (s 6)) + k) + w
def two (s : Nat → UInt32) : UInt32 := big0 (s 0) + maj (s 0) (s 1) (s 2)
def round (s : Nat → UInt32) (k w : UInt32) : Nat → UInt32
  | 0 => one s k w + two s
  | 4 => s 3 + one s k w
  | j + 1 => s j
def rounds (s : Nat → UInt32) (k w : Nat → UInt32) : Nat → Nat → UInt32
  | 0 => s
  | i + 1 => round (rounds s k w i) (k i) (w i)
def block (h : Nat → UInt32) (k : Nat → UInt32) (b : Nat → Nat) : Nat → UInt32 := fun j => h j + rounds h k (wAll b) 64 j

theorem u32_lt (x : UInt32) : x.toNat < 4294967296 := x.toNat_lt
theorem toNat_of (n : Nat) (h : n < 4294967296) : (UInt32.ofNat n).toNat = n := UInt32.toNat_ofNat_of_lt h
theorem bx (a b : UInt32) : bits .xor .u32 (a.toNat : Int) (b.toNat : Int) = ((a ^^^ b).toNat : Int) := by
  rw [u32_xor_nat _ _ (u32_lt a) (u32_lt b), UInt32.toNat_xor]
theorem ba (a b : UInt32) : bits .and .u32 (a.toNat : Int) (b.toNat : Int) = ((a &&& b).toNat : Int) := by
  rw [u32_and_nat _ _ (u32_lt a) (u32_lt b), UInt32.toNat_and]
theorem bo (a b : UInt32) : bits .or .u32 (a.toNat : Int) (b.toNat : Int) = ((a ||| b).toNat : Int) := by
  rw [u32_or_nat _ _ (u32_lt a) (u32_lt b), UInt32.toNat_or]
theorem bn (a : UInt32) : bits .xor .u32 (a.toNat : Int) 4294967295 = ((a ^^^ 4294967295).toNat : Int) := bx a 4294967295
theorem badd (a b : UInt32) : ((a.toNat : Int) + (b.toNat : Int)) % 4294967296 = ((a + b).toNat : Int) := by
  rw [UInt32.toNat_add]
  simp
theorem bshr (a : UInt32) (n : Nat) : (a.toNat : Int) / ((2 ^ n : Nat) : Int) = ((shr a n).toNat : Int) := by
  unfold shr
  rw [toNat_of]
  · simp
  · exact Nat.lt_of_le_of_lt (Nat.div_le_self _ _) (u32_lt a)
theorem brot (a : UInt32) (n : Nat) (h : n ≤ 32) : bits .or .u32 ((a.toNat : Int) / ((2 ^ n : Nat) : Int)) ((a.toNat : Int) * ((2 ^ (32 - n) : Nat) : Int) % 4294967296) = ((rotr a n).toNat : Int) := by
  have h1 : a.toNat / 2 ^ n < 4294967296 := Nat.lt_of_le_of_lt (Nat.div_le_self _ _) (u32_lt a)
  have h2 : a.toNat * 2 ^ (32 - n) % 4294967296 < 4294967296 := Nat.mod_lt _ (by omega)
  have e := u32_or_nat _ _ h1 h2
  unfold rotr
  rw [toNat_of _ (Nat.or_lt_two_pow (n := 32) h1 h2), ← e]
  simp

theorem word_eq (b0 b1 b2 b3 : Nat) (h0 : b0 < 256) (h1 : b1 < 256) (h2 : b2 < 256) (h3 : b3 < 256) :
    bits .or .u32 (bits .or .u32 (bits .or .u32 ((b0 : Int) * 16777216) ((b1 : Int) * 65536)) ((b2 : Int) * 256)) (b3 : Int) = ((b0 * 16777216 + b1 * 65536 + b2 * 256 + b3 : Nat) : Int) := by
  have e1 := u32_or_nat (b0 * 16777216) (b1 * 65536) (by omega) (by omega)
  have e2 := nat_join 24 (b0 * 16777216) (b1 * 65536) (by omega) (by omega)
  rw [e2] at e1
  have e3 := u32_or_nat (b0 * 16777216 + b1 * 65536) (b2 * 256) (by omega) (by omega)
  rw [nat_join 16 _ _ (by omega) (by omega)] at e3
  have e4 := u32_or_nat (b0 * 16777216 + b1 * 65536 + b2 * 256) b3 (by omega) (by omega)
  rw [nat_join 8 _ _ (by omega) (by omega)] at e4
  simp only [Int.natCast_add, Int.natCast_mul] at e1 e3 e4 ⊢
  simp only [Int.cast_ofNat_Int] at e1 e3 e4 ⊢
  rw [e1, e3, e4]

end Go.Proofs.YtfiapodjiifmaaaGreatDoor.H
/-
  An array of 32-bit words in a block of its own; the rotation, the first numbers and the keys.
-/
namespace Go.Proofs.YtfiapodjiifmaaaGreatDoor
open Go.RowKit
set_option linter.unusedVariables false

/-- block g holds the n words f -/
def Arr (w : World) (g t n : Nat) (f : Nat → UInt32) : Prop :=
  ∃ cs : Array Value, w.heap[g]? = some (.cells cs t (0, 0)) ∧ cs.size = n ∧ ∀ i, i < n → cs[i]? = some (.int .u32 ((f i).toNat : Int))

theorem Arr.cell {w : World} {g t n : Nat} {f : Nat → UInt32} (h : Arr w g t n f) (i : Nat) (hi : i < n) : w.cell? ⟨g, i, none⟩ = some (.int .u32 ((f i).toNat : Int)) := by
  obtain ⟨cs, h1, h2, h3⟩ := h
  simp [World.cell?, h1, h3 i hi]
theorem Arr.frozen {w : World} {g t n : Nat} {f : Nat → UInt32} (h : Arr w g t n f) (i : Nat) : w.frozen? ⟨g, i, none⟩ = false := by
  obtain ⟨cs, h1, h2, h3⟩ := h
  simp [World.frozen?, h1]
theorem Arr.lt {w : World} {g t n : Nat} {f : Nat → UInt32} (h : Arr w g t n f) : g < w.heap.size := by
  obtain ⟨cs, h1, _⟩ := h
  exact (Array.getElem?_eq_some_iff.1 h1).1
theorem Arr.set {w : World} {g t n : Nat} {f : Nat → UInt32} (h : Arr w g t n f) (i : Nat) (hi : i < n) (x : UInt32) : Arr (w.setCell ⟨g, i, none⟩ (.int .u32 (x.toNat : Int))) g t n (H.upd f i x) := by
  obtain ⟨cs, h1, h2, h3⟩ := h
  refine ⟨_, heap_setCell_same w g i cs t _ h1, by simpa using h2, fun j hj => ?_⟩
  rw [Array.getElem?_setIfInBounds]
  by_cases he : i = j
  · subst he
    simp [H.upd, h2, hi]
  · have : j ≠ i := fun e => he e.symm
    simp [H.upd, he, this, h3 j hj]
theorem Arr.keep {w w' : World} {g t n : Nat} {f : Nat → UInt32} (h : Arr w g t n f) (hh : w'.heap[g]? = w.heap[g]?) : Arr w' g t n f := by
  obtain ⟨cs, h1, h2⟩ := h
  exact ⟨cs, by rw [hh]; exact h1, h2⟩
theorem Arr.other {w : World} {g t n : Nat} {f : Nat → UInt32} (h : Arr w g t n f) (k i : Nat) (v : Value) (hk : g ≠ k) : Arr (w.setCell ⟨k, i, none⟩ v) g t n f :=
  h.keep (heap_setCell_other w ⟨k, i, none⟩ g v hk)
theorem Arr.alloc {w : World} {g t n : Nat} {f : Nat → UInt32} (h : Arr w g t n f) (o : Obj) : Arr (w.alloc o) g t n f := by
  have hl := h.lt
  refine h.keep ?_
  have hn : g ≠ w.heap.size := by omega
  simp [World.alloc, -World.alloc_eq, Array.getElem?_push, hn]
theorem Arr.new (w : World) (cs : Array Value) (t n : Nat) (f : Nat → UInt32) (h : cs.size = n) (hc : ∀ i, i < n → cs[i]? = some (.int .u32 ((f i).toNat : Int))) : Arr (w.alloc (.cells cs t)) w.heap.size t n f :=
  ⟨cs, heap_alloc_new w _, h, hc⟩
theorem Arr.drewN {w : World} {g t n : Nat} {f : Nat → UInt32} (h : Arr w g t n f) (k : Nat) : Arr (w.drewN k) g t n f := h

theorem Turn_any (x : UInt32) (n : Nat) (w : World) (hn : n = 2 ∨ n = 6 ∨ n = 7 ∨ n = 11 ∨ n = 13 ∨ n = 17 ∨ n = 18 ∨ n = 19 ∨ n = 22 ∨ n = 25) :
    Calls Tryz.prog 115 #[.int .u32 (x.toNat : Int), .int .u64 (n : Int)] w fun e w' => e = .returned (.int .u32 ((H.rotr x n).toNat : Int)) ∧ w' = w := by
  have hr := H.brot x n (by omega)
  rcases hn with rfl | rfl | rfl | rfl | rfl | rfl | rfl | rfl | rfl | rfl
  all_goals
    go_enter Tryz.func115, Tryz.ntmps115
    go_wp2
    go_ret
    refine ⟨?_, rfl⟩
    rw [← hr]
    rfl

theorem Turn2 (x : UInt32) (w : World) : Calls Tryz.prog 115 #[.int .u32 (x.toNat : Int), .int .u64 2] w fun e w' => e = .returned (.int .u32 ((H.rotr x 2).toNat : Int)) ∧ w' = w := Turn_any x 2 w (by omega)
theorem Turn6 (x : UInt32) (w : World) : Calls Tryz.prog 115 #[.int .u32 (x.toNat : Int), .int .u64 6] w fun e w' => e = .returned (.int .u32 ((H.rotr x 6).toNat : Int)) ∧ w' = w := Turn_any x 6 w (by omega)
theorem Turn7 (x : UInt32) (w : World) : Calls Tryz.prog 115 #[.int .u32 (x.toNat : Int), .int .u64 7] w fun e w' => e = .returned (.int .u32 ((H.rotr x 7).toNat : Int)) ∧ w' = w := Turn_any x 7 w (by omega)
theorem Turn11 (x : UInt32) (w : World) : Calls Tryz.prog 115 #[.int .u32 (x.toNat : Int), .int .u64 11] w fun e w' => e = .returned (.int .u32 ((H.rotr x 11).toNat : Int)) ∧ w' = w := Turn_any x 11 w (by omega)
theorem Turn13 (x : UInt32) (w : World) : Calls Tryz.prog 115 #[.int .u32 (x.toNat : Int), .int .u64 13] w fun e w' => e = .returned (.int .u32 ((H.rotr x 13).toNat : Int)) ∧ w' = w := Turn_any x 13 w (by omega)
theorem Turn17 (x : UInt32) (w : World) : Calls Tryz.prog 115 #[.int .u32 (x.toNat : Int), .int .u64 17] w fun e w' => e = .returned (.int .u32 ((H.rotr x 17).toNat : Int)) ∧ w' = w := Turn_any x 17 w (by omega)
theorem Turn18 (x : UInt32) (w : World) : Calls Tryz.prog 115 #[.int .u32 (x.toNat : Int), .int .u64 18] w fun e w' => e = .returned (.int .u32 ((H.rotr x 18).toNat : Int)) ∧ w' = w := Turn_any x 18 w (by omega)
theorem Turn19 (x : UInt32) (w : World) : Calls Tryz.prog 115 #[.int .u32 (x.toNat : Int), .int .u64 19] w fun e w' => e = .returned (.int .u32 ((H.rotr x 19).toNat : Int)) ∧ w' = w := Turn_any x 19 w (by omega)
theorem Turn22 (x : UInt32) (w : World) : Calls Tryz.prog 115 #[.int .u32 (x.toNat : Int), .int .u64 22] w fun e w' => e = .returned (.int .u32 ((H.rotr x 22).toNat : Int)) ∧ w' = w := Turn_any x 22 w (by omega)
theorem Turn25 (x : UInt32) (w : World) : Calls Tryz.prog 115 #[.int .u32 (x.toNat : Int), .int .u64 25] w fun e w' => e = .returned (.int .u32 ((H.rotr x 25).toNat : Int)) ∧ w' = w := Turn_any x 25 w (by omega)

end Go.Proofs.YtfiapodjiifmaaaGreatDoor
/-
  A whole array of words by value: made, allocated, stored, boxed and loaded, its cells unopened.
-/
namespace Go.Proofs.YtfiapodjiifmaaaGreatDoor
open Go.RowKit
set_option linter.unusedVariables false

def zeros (n : Nat) : Array Value := Array.replicate n (.int .u32 0)
theorem info55 : (Tryz.prog.info? 139).map (fun i => (i.zero, i.size)) = some (some (.agg (zeros 64)), 64) := by kernel_rfl
theorem info50 : (Tryz.prog.info? 105).map (fun i => (i.zero, i.size)) = some (some (.agg (zeros 8)), 8) := by kernel_rfl
theorem zeros_size (n : Nat) : (zeros n).size = n := by simp [zeros]
theorem zeros_one (n : Nat) : (zeros n).all (·.oneCell') = true := by
  unfold zeros
  rw [Array.all_eq_true]
  intro i hi
  simp [Value.oneCell']
theorem run_build (w : World) : (Instr.build 139 #[]).run Tryz.prog w = .ok (.agg (zeros 64)) w := by
  have h := (zero_of_info info55).1
  unfold Instr.build
  simp [h]
  rfl
theorem run_alloc55 (w : World) : (Instr.alloc 139 true (.tuple #[])).run Tryz.prog w = .ok (.pointer (some ⟨w.heap.size, 0, none⟩)) (w.alloc (.cells (zeros 64) 139)) := by
  have h := (zero_of_info info55).1
  unfold Instr.alloc
  simp [h, newVar, newRow, Value.cells]
theorem run_alloc50 (w : World) : (Instr.alloc 105 true (.tuple #[])).run Tryz.prog w = .ok (.pointer (some ⟨w.heap.size, 0, none⟩)) (w.alloc (.cells (zeros 8) 105)) := by
  have h := (zero_of_info info50).1
  unfold Instr.alloc
  simp [h, newVar, newRow, Value.cells]

section
variable {w : World} {ops : Array Oper} {rest : List Oper} {o : Oper} {a : Act} {Q : Exit → Act → World → Prop}

theorem wp_build (hgd : o.guard = none) (ho : o.op = .build 139 #[]) (h : wpList Tryz.prog ops Q rest (a.put o.dst (.agg (zeros 64))) w) : wpList Tryz.prog ops Q (o :: rest) a w := by
  refine wpList_plain hgd fun K hK => ?_
  have hr := run_build w
  unfold Oper.wp
  simp [execOp, ho, hr, Result.andThen]
  exact hK _ _ h
theorem wp_alloc55 (hgd : o.guard = none) (ho : o.op = .alloc 139) (h : wpList Tryz.prog ops Q rest (a.put o.dst (.pointer (some ⟨w.heap.size, 0, none⟩))) (w.alloc (.cells (zeros 64) 139))) : wpList Tryz.prog ops Q (o :: rest) a w := by
  refine wpList_plain hgd fun K hK => ?_
  have hr := run_alloc55 w
  unfold Oper.wp
  simp [execOp, ho, hr, Result.andThen]
  exact hK _ _ h
theorem wp_alloc50 (hgd : o.guard = none) (ho : o.op = .alloc 105) (h : wpList Tryz.prog ops Q rest (a.put o.dst (.pointer (some ⟨w.heap.size, 0, none⟩))) (w.alloc (.cells (zeros 8) 105))) : wpList Tryz.prog ops Q (o :: rest) a w := by
  refine wpList_plain hgd fun K hK => ?_
  have hr := run_alloc50 w
  unfold Oper.wp
  simp [execOp, ho, hr, Result.andThen]
  exact hK _ _ h
theorem wp_store55 (hgd : o.guard = none) (p v : Operand) (ho : o.op = .store 139 p v) (w0 : World) (hw : w = w0.alloc (.cells (zeros 64) 139)) (hp : a.eval p = .pointer (some ⟨w0.heap.size, 0, none⟩)) (hv : a.eval v = .agg (zeros 64))
    (h : wpList Tryz.prog ops Q rest (a.put o.dst (.tuple #[])) w) : wpList Tryz.prog ops Q (o :: rest) a w := by
  subst hw
  refine wpList_plain hgd fun K hK => ?_
  have hr := run_storeAt_new (P := Tryz.prog) w0 139 (zeros 64) (zeros 64) (by rw [zeros_size]; exact (zero_of_info info55).2) rfl (zeros_one 64)
  unfold Oper.wp
  simp [execOp, ho, hp, hv, hr, Result.andThen]
  exact hK _ _ h
end
end Go.Proofs.YtfiapodjiifmaaaGreatDoor
