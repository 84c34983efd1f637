/-
  What the law's own helpers answer: eqStringS, markText, markStringS, heldStringS.
-/
import Derived.Test.YtkpcjhihbhmakaaDoorPartsi
import Derived.Test.YtkpcjhihbhmakaaDoorDec
import Derived.Deep.RegionHeld3
namespace Go.Proofs.YtkpcjhihbhmakaaDoor
open Go.RowKit
set_option linter.unusedVariables false

def EqRel (w : World) (n : Nat) (i : Value) (wr : World) : Prop := ∃ k q : Nat, k ≤ n ∧ i = .int .i64 k ∧ wr = w.drewN q

set_option maxRecDepth 100000 in
set_option maxHeartbeats 1000000 in
/-- two rows of the same texts -/
theorem eqStringS_row (ga gb ca cb : Nat) (l : List ByteArray) (w : World) (hl : l.length ≤ 1000000)
    (ha : ∀ j, (h : j < l.length) → w.cell? ⟨ga, j, none⟩ = some (.string l[j])) (hb : ∀ j, (h : j < l.length) → w.cell? ⟨gb, j, none⟩ = some (.string l[j])) :
    Calls Tryd.prog 9 #[.slice (some ⟨ga, 0, none⟩) l.length ca, .slice (some ⟨gb, 0, none⟩) l.length cb] w fun e w' => e = .returned (.bool true) ∧ ∃ q, w' = w.drewN q := by
  have HA : Hid (∀ j, (h : j < l.length) → w.cell? ⟨ga, j, none⟩ = some (.string l[j])) := ha
  have HB : Hid (∀ j, (h : j < l.length) → w.cell? ⟨gb, j, none⟩ = some (.string l[j])) := hb
  clear ha hb
  go_enter Tryd.func9, Tryd.ntmps9
  go_wp2
  go_loopw [5] (fun i wr => EqRel w l.length i wr) (fun i _ => l.length - (intOf i).toNat)
  case atStart => exact ⟨0, 0, by omega, rfl, rfl⟩
  case round =>
    obtain ⟨k, q, hk, rfl, rfl⟩ := hrel
    by_cases hlt : k < l.length
    · have c0 := HA.out k hlt
      have c1 := HB.out k hlt
      go_wp2
      go_quiet (fail)
      go_wp2
      go_roundw
      case rel => exact ⟨k + 1, _, by omega, by go_num, rfl⟩
      case measure => simp [intOf] <;> omega
    · go_wp2
      go_ret
      exact ⟨rfl, q, rfl⟩


theorem eqStringS_empty (a b : Option Addr) (ca cb : Nat) (w : World) :
    Calls Tryd.prog 9 #[.slice a 0 ca, .slice b 0 cb] w fun e w' => e = .returned (.bool true) ∧ ∃ q, w' = w.drewN q := by
  go_enter Tryd.func9, Tryd.ntmps9
  go_wp2
  refine wp_loop_rounds 1 ?_
  rw [rounds_succ]
  go_wp2
  go_ret
  exact ⟨rfl, 0, rfl⟩

theorem eqStringS_own {B1 B2 : Nat} {w1 w2 w : World} {va vb : Value} {l : List ByteArray} (ha : OS B1 w1 w va l) (hb : OS B2 w2 w vb l) (hl : l.length ≤ 1000000) :
    Calls Tryd.prog 9 #[va, vb] w fun e w' => e = .returned (.bool true) ∧ ∃ q, w' = w.drewN q := by
  rcases ha.shape with ⟨rfl, rfl⟩ | ⟨ga, ca, rfl, _, _⟩
  · rcases hb.shape with ⟨rfl, _⟩ | ⟨gb, cb, rfl, _, _⟩
    · exact eqStringS_empty _ _ _ _ w
    · exact eqStringS_empty _ _ _ _ w
  · rcases hb.shape with ⟨rfl, rfl⟩ | ⟨gb, cb, rfl, _, _⟩
    · exact eqStringS_empty _ _ _ _ w
    · exact eqStringS_row ga gb ca cb l w hl (fun j h => ha.at j h) (fun j h => hb.at j h)

theorem one_strI (w : World) (x : Int) (b : UInt8) (h : x = (b.toNat : Int)) : (convert 31 9 (.slice (some ⟨w.heap.size, 0, none⟩) 1 1)).run Tryd.prog (w.alloc (.cells #[.int .u8 x] 5)) = .ok (.string ⟨[b].toArray⟩) (w.alloc (.cells #[.int .u8 x] 5)) := by
  subst h
  exact one_str w b

def markB (k : Nat) : ByteArray := consB 109 ⟨(Lib.decDigits k).toArray⟩

def MkRel (n : Nat) (w : World) (x s : Value) (wr : World) : Prop :=
  ∃ (m f : Nat) (t : ByteArray), m ≤ n ∧ x = .int .i64 m ∧ s = .string t ∧ t.size + f = 20 ∧ Hid (m < 10 ^ f) ∧ Hid (decR f m ++ t.data.toList = decR 20 n) ∧ Below w.heap.size w wr

set_option maxRecDepth 100000 in
set_option maxHeartbeats 1000000 in
theorem markText_any (n : Nat) (w : World) (h0 : 0 < n) (hn : n ≤ 1000000000) :
    Calls Tryd.prog 17 #[.int .i64 n] w fun e w' => e = .returned (.string (markB n)) ∧ Below w.heap.size w w' := by
  have hsg : ¬ ((n : Int) ≤ 0) := by omega
  go_enter Tryd.func17, Tryd.ntmps17
  go_wp2
  go_loopw [0, 3] (fun x s wr => MkRel n w x s wr) (fun x _ _ => (intOf x).toNat)
  case atStart => exact ⟨n, 20, ⟨#[]⟩, Nat.le_refl _, rfl, rfl, rfl, by unfold Hid; omega, by unfold Hid; simp, Below.refl _ _⟩
  case round =>
    obtain ⟨m, f, t, hmn, rfl, rfl, htf, HF, HE, hbel⟩ := hrel
    by_cases hm : m = 0
    · have hmq : ¬ ((0 : Int) < (m : Int)) := by omega
      have HD : Hid (t = ⟨(Lib.decDigits n).toArray⟩) := dec_end h0 (by omega) hm HE.out
      have hts : t.size ≤ 20 := by omega
      clear hm
      go_wp2
      go_ret
      exact ⟨by unfold markB; rw [← HD.out]; rfl, hbel⟩
    · have hmq : (0 : Int) < (m : Int) := by omega
      have hm0 : 0 < m := by omega
      obtain ⟨f', rfl, hF2, hS⟩ := dec_step hm HF.out HE.out
      have HS : Hid (decR f' (m / 10) ++ (consB (fig (m % 10)) t).data.toList = decR 20 n) := hS
      have HF2 : Hid (m / 10 < 10 ^ f') := hF2
      have hfg := fig_nat (m % 10) (by omega)
      have hcv := one_strI wr (48 + (m : Int) % 10) (fig (m % 10)) (by rw [hfg]; omega)
      clear hS hF2 hm hfg
      go_wp2
      go_roundw
      case rel => exact ⟨m / 10, f', consB (fig (m % 10)) t, by omega, by go_num, rfl, by rw [consB_size]; omega, HF2, HS, hbel.alloc hbel.size _⟩
      case measure => simp [intOf] <;> omega

theorem markText_int (x : Int) (n : Nat) (w : World) (hx : x = (n : Int)) (h0 : 0 < n) (hn : n ≤ 1000000000) :
    Calls Tryd.prog 17 #[.int .i64 x] w fun e w' => e = .returned (.string (markB n)) ∧ Below w.heap.size w w' := by
  subst hx
  exact markText_any n w h0 hn

/-- the first n marks -/
def marks (n : Nat) : List ByteArray := (List.range n).map fun j => markB (1 + j)
theorem marks_len (n : Nat) : (marks n).length = n := by simp [marks]
theorem marks_at (n j : Nat) (h : j < (marks n).length) : (marks n)[j] = markB (1 + j) := by simp [marks]

theorem marks_set (l : List ByteArray) (k : Nat) (h : k < l.length) : (marks k ++ l.drop k).set k (markB (1 + k)) = marks (k + 1) ++ l.drop (k + 1) := by
  have e : l.drop k = l[k] :: l.drop (k + 1) := List.drop_eq_getElem_cons h
  rw [e, List.set_append_right _ _ (by rw [marks_len]; exact Nat.le_refl _), marks_len, Nat.sub_self]
  simp only [List.set_cons_zero, marks, List.range_succ, List.map_append, List.map_cons, List.map_nil, List.append_assoc, List.cons_append, List.nil_append]

/-- a store into what is owned -/
theorem OS.stored {B : Nat} {w0 w : World} {l : List ByteArray} {g cap : Nat} (h : OS B w0 w (.slice (some ⟨g, 0, none⟩) l.length cap) l) (hg : B ≤ g) (j : Nat) (t : ByteArray) :
    OS B w0 (w.setCell ⟨g, j, none⟩ (.string t)) (.slice (some ⟨g, 0, none⟩) l.length cap) (l.set j t) := by
  have h1 := (h.1.stored j (.string t)).1
  refine ⟨?_, h.2.1.setCell (p := ⟨g, j, none⟩) hg _, by have := h.2.2; simp; omega⟩
  have e : sv (l.set j t) = (sv l).set j (.string t) := by simp [sv, List.map_set]
  rw [e, List.length_set]
  exact h1

def MsRel (B : Nat) (w0 : World) (v : Value) (l : List ByteArray) (x i : Value) (wr : World) : Prop :=
  ∃ k : Nat, k ≤ l.length ∧ i = .int .i64 k ∧ x = .int .i64 (1 + k : Nat) ∧ OS B w0 wr v (marks k ++ l.drop k)

set_option maxRecDepth 100000 in
set_option maxHeartbeats 1000000 in
theorem markStringS_row (B : Nat) (w0 : World) (g cap : Nat) (l : List ByteArray) (w : World) (hl : l.length ≤ 1000000) (hg : B ≤ g) (hown : OS B w0 w (.slice (some ⟨g, 0, none⟩) l.length cap) l) :
    Calls Tryd.prog 10 #[.slice (some ⟨g, 0, none⟩) l.length cap, .int .i64 1] w fun e w' => e = .returned (.int .i64 (1 + l.length : Nat)) ∧ OS B w0 w' (.slice (some ⟨g, 0, none⟩) l.length cap) (marks l.length) := by
  go_enter Tryd.func10, Tryd.ntmps10
  go_wp2
  go_loopw [1, 5] (fun x i wr => MsRel B w0 (.slice (some ⟨g, 0, none⟩) l.length cap) l x i wr) (fun _ i _ => l.length - (intOf i).toNat)
  case atStart => exact ⟨0, by omega, rfl, rfl, by simpa [marks] using hown⟩
  case round =>
    obtain ⟨k, hk, rfl, rfl, ho⟩ := hrel
    by_cases hlt : k < l.length
    · go_wp2_with fail
      refine (markText_int _ (1 + k) _ (by omega) (by omega) (by omega)).mono ?_
      rintro e w1 ⟨rfl, hb1⟩
      have ho1 := ho.later hb1
      have hll : (marks k ++ l.drop k).length = l.length := by rw [List.length_append, marks_len, List.length_drop]; omega
      have c0 := ho1.at k (by rw [hll]; exact hlt)
      have f0 : w1.frozen? ⟨g, k, none⟩ = false := by
        have h1 := ho1.1
        rw [hll] at h1
        exact h1.frozenAt k
      have HO : Hid (OS B w0 (w1.setCell ⟨g, k, none⟩ (.string (markB (1 + k)))) (.slice (some ⟨g, 0, none⟩) l.length cap) (marks (k + 1) ++ l.drop (k + 1))) := by
        have h1 : OS B w0 w1 (.slice (some ⟨g, 0, none⟩) (marks k ++ l.drop k).length cap) (marks k ++ l.drop k) := by rw [hll]; exact ho1
        have h2 := h1.stored hg k (markB (1 + k))
        rw [marks_set l k hlt, hll] at h2
        exact h2
      generalize (marks k ++ l.drop k)[k]'(by rw [hll]; exact hlt) = old at c0
      clear ho1 hll
      go_wp2
      go_roundw
      case rel => exact ⟨k + 1, by omega, by go_num, by go_num, HO.out⟩
      case measure => simp [intOf] <;> omega
    · have hke : k = l.length := by omega
      subst hke
      rw [List.drop_length, List.append_nil] at ho
      go_wp2
      go_ret
      exact ⟨rfl, ho⟩


theorem markStringS_own {B : Nat} {w0 w : World} {v : Value} {l : List ByteArray} (hl : l.length ≤ 1000000) (hown : OS B w0 w v l) :
    Calls Tryd.prog 10 #[v, .int .i64 1] w fun e w' => e = .returned (.int .i64 (1 + l.length : Nat)) ∧ OS B w0 w' v (marks l.length) := by
  rcases hown.shape with ⟨rfl, rfl⟩ | ⟨g, cap, rfl, hg, _⟩
  · go_enter Tryd.func10, Tryd.ntmps10
    go_wp2
    refine wp_loop_rounds 1 ?_
    rw [rounds_succ]
    go_wp2
    go_ret
    exact ⟨rfl, hown⟩
  · exact markStringS_row B w0 g cap l w hl hg hown

def HsRel (B : Nat) (w0 : World) (v : Value) (n : Nat) (x i : Value) (wr : World) : Prop :=
  ∃ k : Nat, k ≤ n ∧ i = .int .i64 k ∧ x = .int .i64 (1 + k : Nat) ∧ OS B w0 wr v (marks n)

set_option maxRecDepth 100000 in
set_option maxHeartbeats 1000000 in
theorem heldStringS_row (B : Nat) (w0 : World) (g cap n : Nat) (w : World) (hl : n ≤ 1000000) (hown : OS B w0 w (.slice (some ⟨g, 0, none⟩) n cap) (marks n)) (hgw : g < w.heap.size) :
    Calls Tryd.prog 11 #[.slice (some ⟨g, 0, none⟩) n cap, .int .i64 1] w fun e w' => e = .returned (.int .i64 (1 + n : Nat)) ∧ OS B w0 w' (.slice (some ⟨g, 0, none⟩) n cap) (marks n) ∧ Below w.heap.size w w' := by
  go_enter Tryd.func11, Tryd.ntmps11
  go_wp2
  go_loopw [1, 5] (fun x i wr => HsRel B w0 (.slice (some ⟨g, 0, none⟩) n cap) n x i wr ∧ Below w.heap.size w wr) (fun _ i _ => n - (intOf i).toNat)
  case atStart => exact ⟨⟨0, by omega, rfl, rfl, hown⟩, Below.refl _ _⟩
  case round =>
    obtain ⟨⟨k, hk, rfl, rfl, ho⟩, hbel⟩ := hrel
    by_cases hlt : k < n
    · have hgr : g < wr.heap.size := Nat.lt_of_lt_of_le hgw hbel.size
      have c0 : wr.cell? ⟨g, k, none⟩ = some (.string (markB (1 + k))) := by
        have h1 := ho.at k (by rw [marks_len]; exact hlt)
        rw [marks_at] at h1
        exact h1
      have i0 : (0 : Int) ≤ (k : Int) := by omega
      have i1 : (k : Int) < (n : Int) := by omega
      go_wp2
      go_region_held3 (fun w' => w'.cell? ⟨g, k, none⟩ = some (.string (markB (1 + k)))) (first | go_keep | exact (hb1.cell (p := ⟨g, k, none⟩) hgr).trans c0) ((go_at_call 17; refine (markText_int _ (1 + k) _ (by omega) (by omega) (by omega)).mono ?_; rintro e w1 ⟨rfl, hb1⟩))
      all_goals
        have ho1 := ho.drew.later hb1
        have hbel1 := hbel.drew.trans (hb1.mono hbel.size)
        go_wp2
        go_roundw
        case rel => exact ⟨⟨k + 1, by omega, by go_num, by go_num, ho1⟩, hbel1⟩
        case measure => simp [intOf] <;> omega
    · have hke : k = n := by omega
      subst hke
      go_wp2
      go_ret
      exact ⟨rfl, ho, hbel⟩


theorem heldStringS_own {B : Nat} {w0 w : World} {v : Value} {n : Nat} (hl : n ≤ 1000000) (hown : OS B w0 w v (marks n)) :
    Calls Tryd.prog 11 #[v, .int .i64 1] w fun e w' => e = .returned (.int .i64 (1 + n : Nat)) ∧ OS B w0 w' v (marks n) ∧ Below w.heap.size w w' := by
  rcases hown.shape with ⟨rfl, hn⟩ | ⟨g, cap, rfl, hg, hgw⟩
  · have hn0 : n = 0 := by rw [← marks_len n, hn]; rfl
    subst hn0
    go_enter Tryd.func11, Tryd.ntmps11
    go_wp2
    refine wp_loop_rounds 1 ?_
    rw [rounds_succ]
    go_wp2
    go_ret
    exact ⟨rfl, hown, Below.refl _ _⟩
  · rw [marks_len] at hown ⊢
    exact heldStringS_row B w0 g cap n w hl hown hgw

end Go.Proofs.YtkpcjhihbhmakaaDoor
