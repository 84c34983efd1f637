/-
  Texts laid together: Mk, Sh, Lm.
-/
import Derived.Test.YtklpanjedolkdaaGreatDoorPkELS7
import Derived.Deep.RegionHeld3
import Derived.Test.YtklpanjedolkdaaGreatDoorPkELS4
import Derived.Test.YtklpanjedolkdaaGreatDoorPkELS5
import Derived.Test.YtklpanjedolkdaaGreatDoorPkELS2
import Derived.Test.YtklpanjedolkdaaGreatDoorPkELS1
/-
  What the laws' own helpers do: markText, markStringS, heldStringS, from any first number on.
-/
namespace Go.Proofs.YtklpanjedolkdaaGreatDoor
open Go.RowKit
set_option linter.unusedVariables false

theorem one_strI (w : World) (x : Int) (b : UInt8) (h : x = (b.toNat : Int)) : (convert 175 9 (.slice (some ⟨w.heap.size, 0, none⟩) 1 1)).run Tryz.prog (w.alloc (.cells #[.int .u8 x] 5)) = .ok (.string ⟨[b].toArray⟩) (w.alloc (.cells #[.int .u8 x] 5)) := by
  subst h
  exact D.one_str w b

def markB (k : Nat) : ByteArray := D.consB 109 ⟨(Lib.decDigits k).toArray⟩

def MkRel (n : Nat) (w : World) (x s : Value) (wr : World) : Prop :=
  ∃ (m f : Nat) (t : ByteArray), m ≤ n ∧ x = .int .i64 m ∧ s = .string t ∧ t.size + f = 20 ∧ Hid (m < 10 ^ f) ∧ Hid (D.decR f m ++ t.data.toList = D.decR 20 n) ∧ Below w.heap.size w wr

set_option maxRecDepth 100000 in
set_option maxHeartbeats 1000000 in
theorem markText_any (n : Nat) (w : World) (h0 : 0 < n) (hn : n ≤ 1000000000) :
    Calls Tryz.prog 107 #[.int .i64 n] w fun e w' => e = .returned (.string (markB n)) ∧ Below w.heap.size w w' := by
  have hsg : ¬ ((n : Int) ≤ 0) := by omega
  go_enter Tryz.func107, Tryz.ntmps107
  go_wp2
  go_loopw [0, 3] (fun x s wr => MkRel n w x s wr) (fun x _ _ => (intOf x).toNat)
  case atStart => exact ⟨n, 20, ⟨#[]⟩, Nat.le_refl _, rfl, rfl, rfl, by unfold Hid; omega, by unfold Hid; simp, Below.refl _ _⟩
  case round =>
    obtain ⟨m, f, t, hmn, rfl, rfl, htf, HF, HE, hbel⟩ := hrel
    by_cases hm : m = 0
    · have hmq : ¬ ((0 : Int) < (m : Int)) := by omega
      have HD : Hid (t = ⟨(Lib.decDigits n).toArray⟩) := D.dec_end h0 (by omega) hm HE.out
      have hts : t.size ≤ 20 := by omega
      clear hm
      go_wp2
      go_ret
      exact ⟨by unfold markB; rw [← HD.out]; rfl, hbel⟩
    · have hmq : (0 : Int) < (m : Int) := by omega
      have hm0 : 0 < m := by omega
      obtain ⟨f', rfl, hF2, hS⟩ := D.dec_step hm HF.out HE.out
      have HS : Hid (D.decR f' (m / 10) ++ (D.consB (D.fig (m % 10)) t).data.toList = D.decR 20 n) := hS
      have HF2 : Hid (m / 10 < 10 ^ f') := hF2
      have hfg := D.fig_nat (m % 10) (by omega)
      have hcv := one_strI wr (48 + (m : Int) % 10) (D.fig (m % 10)) (by rw [hfg]; omega)
      clear hS hF2 hm hfg
      go_wp2
      go_roundw
      case rel => exact ⟨m / 10, f', D.consB (D.fig (m % 10)) t, by omega, by go_num, rfl, by rw [D.consB_size]; omega, HF2, HS, hbel.alloc hbel.size _⟩
      case measure => simp [intOf] <;> omega

theorem markText_int (x : Int) (n : Nat) (w : World) (hx : x = (n : Int)) (h0 : 0 < n) (hn : n ≤ 1000000000) :
    Calls Tryz.prog 107 #[.int .i64 x] w fun e w' => e = .returned (.string (markB n)) ∧ Below w.heap.size w w' := by
  subst hx
  exact markText_any n w h0 hn

/-- n marks from k on -/
def marks (k n : Nat) : List ByteArray := (List.range n).map fun j => markB (k + j)
theorem marks_len (k n : Nat) : (marks k n).length = n := by simp [marks]
theorem marks_at (k n j : Nat) (h : j < (marks k n).length) : (marks k n)[j] = markB (k + j) := by simp [marks]
theorem marks_set (k : Nat) (l : List ByteArray) (m : Nat) (h : m < l.length) : (marks k m ++ l.drop m).set m (markB (k + m)) = marks k (m + 1) ++ l.drop (m + 1) := by
  have e : l.drop m = l[m] :: l.drop (m + 1) := List.drop_eq_getElem_cons h
  rw [e, List.set_append_right _ _ (by rw [marks_len]; exact Nat.le_refl _), marks_len, Nat.sub_self]
  simp only [List.set_cons_zero, marks, List.range_succ, List.map_append, List.map_cons, List.map_nil, List.append_assoc, List.cons_append, List.nil_append]

theorem grown_below {w w' : World} {row : Option Nat} (h : Below w.heap.size w w') : w.grownBy w' row := ⟨h.os, h.tape, h.output, h.size, fun k hk _ => h.block k hk⟩
theorem grown_refl (w : World) (row : Option Nat) : w.grownBy w row := grown_below (Below.refl _ _)
theorem TB.keptG {w w' : World} {g : Nat} {row : Option Nat} {l : List ByteArray} (h : TB w g l) (hg : w.grownBy w' row) (hne : some g ≠ row) : TB w' g l := by
  have hlt := h.lt
  obtain ⟨cur, h1, h2⟩ := h
  exact ⟨cur, by rw [hg.block g hlt hne]; exact h1, h2⟩

/-- a row of texts that may be written, at the head of block g -/
def TS (w : World) (v : Value) (g : Nat) (l : List ByteArray) : Prop :=
  ∃ a cap, v = .slice a l.length cap ∧ l.length ≤ 1100000 ∧ (0 < l.length → a = some ⟨g, 0, none⟩ ∧ TB w g l)
theorem TS.len {w : World} {v : Value} {g : Nat} {l : List ByteArray} (h : TS w v g l) : l.length ≤ 1100000 := by
  obtain ⟨a, cap, rfl, hl, _⟩ := h
  exact hl
theorem TS.ss {w : World} {v : Value} {g : Nat} {l : List ByteArray} (h : TS w v g l) : SS w v g 0 l := by
  obtain ⟨a, cap, rfl, hl, h2⟩ := h
  exact ⟨a, cap, rfl, by omega, fun h0 => (h2 h0).1, fun j hj => by rw [Nat.zero_add]; exact (h2 (by omega)).2.cell j hj⟩
theorem TS.keptG {w w' : World} {v : Value} {g : Nat} {row : Option Nat} {l : List ByteArray} (h : TS w v g l) (hg : w.grownBy w' row) (hne : 0 < l.length → some g ≠ row) : TS w' v g l := by
  obtain ⟨a, cap, rfl, hl, h2⟩ := h
  exact ⟨a, cap, rfl, hl, fun h0 => ⟨(h2 h0).1, (h2 h0).2.keptG hg (hne h0)⟩⟩
theorem TS.later {w w' : World} {v : Value} {g : Nat} {l : List ByteArray} (h : TS w v g l) (hb : Below w.heap.size w w') : TS w' v g l := h.keptG (row := none) (grown_below hb) (fun _ => by simp)
theorem TS.drewN {w : World} {v : Value} {g : Nat} {l : List ByteArray} (h : TS w v g l) (n : Nat) : TS (w.drewN n) v g l := h
theorem TS.lt {w : World} {v : Value} {g : Nat} {l : List ByteArray} (h : TS w v g l) : 0 < l.length → g < w.heap.size := by
  obtain ⟨a, cap, rfl, hl, h2⟩ := h
  exact fun h0 => (h2 h0).2.lt
theorem TB.ts {w : World} {g : Nat} {l : List ByteArray} (h : TB w g l) (n cap : Nat) (hn : l.length = n) (hl : n ≤ 1100000) : TS w (.slice (some ⟨g, 0, none⟩) n cap) g l := by
  subst hn
  exact ⟨_, _, rfl, hl, fun _ => ⟨rfl, h⟩⟩
theorem TS.nil (w : World) (g : Nat) : TS w (.slice none 0 0) g [] := ⟨_, _, rfl, by simp, fun h => absurd h (by simp)⟩
theorem OS.ts {B : Nat} {w0 w : World} {v : Value} {l : List ByteArray} (h : OS B w0 w v l) (hl : l.length ≤ 1100000) : ∃ g, TS w v g l ∧ B ≤ g := by
  rcases h.shape with ⟨rfl, rfl⟩ | ⟨g, cap, rfl, hg, _⟩
  · exact ⟨B, TS.nil w B, Nat.le_refl _⟩
  · exact ⟨g, h.tb.ts _ _ rfl hl, hg⟩

/-- the block of a row that is not empty -/
def rowOf (g : Nat) (l : List ByteArray) : Option Nat := if l.length = 0 then none else some g
theorem rowOf_some {g : Nat} {l : List ByteArray} (h : 0 < l.length) : rowOf g l = some g := if_neg (by omega)
theorem rowOf_ne {g k : Nat} {l : List ByteArray} (h : 0 < l.length → k ≠ g) : some k ≠ rowOf g l := by
  unfold rowOf
  split
  · simp
  · have := h (by omega)
    simpa using this

def MsRel (k0 : Nat) (w : World) (g : Nat) (l : List ByteArray) (x i : Value) (wr : World) : Prop :=
  ∃ k : Nat, k ≤ l.length ∧ i = .int .i64 k ∧ x = .int .i64 (k0 + k : Nat) ∧ (0 < l.length → TB wr g (marks k0 k ++ l.drop k)) ∧ w.grownBy wr (rowOf g l)

set_option maxRecDepth 100000 in
set_option maxHeartbeats 1000000 in
theorem markStringS_any (v : Value) (g : Nat) (l : List ByteArray) (x : Int) (k0 : Nat) (w : World) (hx : x = (k0 : Int)) (h : TS w v g l) (h0 : 0 < k0) (hk : k0 ≤ 10000000) :
    Calls Tryz.prog 71 #[v, .int .i64 x] w fun e w' => e = .returned (.int .i64 (k0 + l.length : Nat)) ∧ TS w' v g (marks k0 l.length) ∧ w.grownBy w' (rowOf g l) := by
  subst hx
  obtain ⟨a, cap, rfl, hl, h2⟩ := h
  obtain ⟨n, hn⟩ : ∃ n, l.length = n := ⟨_, rfl⟩
  have HA : Hid (0 < n → a = some ⟨g, 0, none⟩) := by rw [← hn]; exact fun h => (h2 h).1
  have HST : Hid (MsRel k0 w g l (.int .i64 k0) (.int .i64 0) w) := ⟨0, by omega, rfl, rfl, fun h => by simpa [marks] using (h2 h).2, grown_refl _ _⟩
  have HLN : Hid (l.length = n) := hn
  rw [hn] at hl ⊢
  clear h2
  go_enter Tryz.func71, Tryz.ntmps71
  go_wp2
  go_loopw [1, 5] (fun x i wr => MsRel k0 w g l x i wr) (fun _ i _ => n - (intOf i).toNat)
  case atStart => exact HST.out
  case round =>
    obtain ⟨k, hkn, rfl, rfl, htb, hgr⟩ := hrel
    rw [hn] at hkn
    clear HST
    by_cases hlt : k < n
    · have ea := HA.out (by omega)
      subst ea
      have htb := htb (by omega)
      have i1 : (k : Int) < (n : Int) := by omega
      have i2 : (0 : Int) ≤ (k : Int) := by omega
      clear hn
      go_wp2_with fail
      refine (markText_int _ (k0 + k) _ (by omega) (by omega) (by omega)).mono ?_
      rintro e w1 ⟨rfl, hb1⟩
      have htb1 := htb.below hb1 htb.lt
      have hll : (marks k0 k ++ l.drop k).length = n := by rw [List.length_append, marks_len, List.length_drop, HLN.out]; omega
      have c0 := htb1.cell k (by omega)
      have f0 := htb1.frozen k
      have hs := htb1.set k (by omega) (markB (k0 + k))
      rw [marks_set k0 l k (by rw [HLN.out]; omega)] at hs
      have HO : Hid (TB (w1.setCell ⟨g, k, none⟩ (.string (markB (k0 + k)))) g (marks k0 (k + 1) ++ l.drop (k + 1)) ∧ w.grownBy (w1.setCell ⟨g, k, none⟩ (.string (markB (k0 + k)))) (rowOf g l)) := by
        rw [rowOf_some (show 0 < l.length by rw [HLN.out]; omega)] at hgr ⊢
        exact ⟨hs, (hgr.trans (grown_below hb1)).trans (grown_set w1 g k _)⟩
      generalize (marks k0 k ++ l.drop k)[k]'(by omega) = old at c0
      generalize markB (k0 + k) = K at *
      clear hs htb1 hll htb hgr hb1
      go_wp2
      go_roundw
      case rel => exact ⟨k + 1, by rw [HLN.out]; omega, by go_num, by go_num, fun _ => HO.out.1, HO.out.2⟩
      case measure => simp [intOf]; omega
    · have hke : k = n := by omega
      have HF : Hid (TS wr (.slice a n cap) g (marks k0 n) ∧ w.grownBy wr (rowOf g l)) := by
        refine ⟨⟨a, cap, by rw [marks_len], by rw [marks_len]; omega, fun h0 => ?_⟩, hgr⟩
        rw [marks_len] at h0
        have h3 := htb (by omega)
        rw [hke, List.drop_of_length_le (by omega), List.append_nil] at h3
        exact ⟨HA.out h0, h3⟩
      subst hke
      clear htb hgr hn
      go_wp2
      go_ret
      exact ⟨rfl, HF.out.1, HF.out.2⟩

def HsRel (k0 n : Nat) (w : World) (x i : Value) (wr : World) : Prop :=
  ∃ k : Nat, k ≤ n ∧ i = .int .i64 k ∧ x = .int .i64 (k0 + k : Nat) ∧ Below w.heap.size w wr

set_option maxRecDepth 100000 in
set_option maxHeartbeats 1000000 in
theorem heldStringS_any (v : Value) (g : Nat) (x : Int) (k0 n : Nat) (w : World) (hx : x = (k0 : Int)) (h : TS w v g (marks k0 n)) (h0 : 0 < k0) (hk : k0 ≤ 10000000) :
    Calls Tryz.prog 73 #[v, .int .i64 x] w fun e w' => e = .returned (.int .i64 (k0 + n : Nat)) ∧ Below w.heap.size w w' := by
  subst hx
  have hgl := h.lt
  obtain ⟨a, cap, rfl, hl, h2⟩ := h
  rw [marks_len] at *
  have HA : Hid (0 < n → a = some ⟨g, 0, none⟩ ∧ g < w.heap.size) := fun h => ⟨(h2 h).1, hgl h⟩
  have HC : Hid (∀ j, j < n → w.cell? ⟨g, j, none⟩ = some (.string (markB (k0 + j)))) := fun j hj => by
    have h3 := (h2 (by omega)).2.cell j (by rw [marks_len]; exact hj)
    rw [marks_at] at h3
    exact h3
  clear h2 hgl
  go_enter Tryz.func73, Tryz.ntmps73
  go_wp2
  go_loopw [1, 5] (fun x i wr => HsRel k0 n w x i wr) (fun _ i _ => n - (intOf i).toNat)
  case atStart => exact ⟨0, by omega, rfl, rfl, Below.refl _ _⟩
  case round =>
    obtain ⟨k, hkn, rfl, rfl, hbel⟩ := hrel
    by_cases hlt : k < n
    · obtain ⟨ea, hgw⟩ := HA.out (by omega)
      subst ea
      have hgr : g < wr.heap.size := Nat.lt_of_lt_of_le hgw hbel.size
      have c0 : wr.cell? ⟨g, k, none⟩ = some (.string (markB (k0 + k))) := (hbel.cell (p := ⟨g, k, none⟩) hgw).trans (HC.out k hlt)
      have i0 : (0 : Int) ≤ (k : Int) := by omega
      have i1 : (k : Int) < (n : Int) := by omega
      clear HC HA
      go_wp2
      go_region_held3 (fun w' => w'.cell? ⟨g, k, none⟩ = some (.string (markB (k0 + k)))) (first | go_keep | exact (hb1.cell (p := ⟨g, k, none⟩) hgr).trans c0) ((go_at_call 107; refine (markText_int _ (k0 + k) _ (by omega) (by omega) (by omega)).mono ?_; rintro e w1 ⟨rfl, hb1⟩))
      all_goals
        have hbel1 := hbel.drew.trans (hb1.mono hbel.size)
        go_wp2
        go_roundw
        case rel => exact ⟨k + 1, by omega, by go_num, by go_num, hbel1⟩
        case measure => simp [intOf]; omega
    · have hke : k = n := by omega
      subst hke
      go_wp2
      go_ret
      exact ⟨rfl, hbel⟩

end Go.Proofs.YtklpanjedolkdaaGreatDoor
/-
  A short text read from a place of a text: plain facts, the program's ReadShort, the specification's reader.
-/
namespace Go.Proofs.YtklpanjedolkdaaGreatDoor
open Go.RowKit Go.BigFrame Go.Sort
set_option linter.unusedVariables false
set_option linter.unusedSimpArgs false

namespace LV
def shortAt (s : ByteArray) (p : Nat) : Option (ByteArray × Nat) :=
  match M.readVar s.data.toList p with
  | none => none
  | some (n, q) => if n ≤ 20000 ∧ q + n ≤ s.size then some (piece s q n, q + n) else none
theorem shortAt_some {s : ByteArray} {p q : Nat} {t : ByteArray} (hp : p ≤ s.size) (h : shortAt s p = some (t, q)) : p < q ∧ q ≤ s.size ∧ cutL s.data.toList p q = M.varL t.size ++ t.data.toList := by
  unfold shortAt at h
  cases hv : M.readVar s.data.toList p with
  | none => rw [hv] at h; simp at h
  | some x =>
    obtain ⟨n, b⟩ := x
    rw [hv] at h
    simp only at h
    split at h
    · rename_i hc
      simp only [Option.some.injEq, Prod.mk.injEq] at h
      obtain ⟨rfl, rfl⟩ := h
      have h1 := read_past _ _ _ _ hv
      refine ⟨by omega, hc.2, ?_⟩
      rw [piece_len s b n hc.2, ← read_canon hp hv]
      unfold piece
      rw [extract_cut, cutL_join _ p b (b + n) (by omega) (by omega)]
    · simp at h
theorem shortAt_none {s : ByteArray} {p : Nat} (h : M.readVar s.data.toList p = none) : shortAt s p = none := by unfold shortAt; rw [h]
theorem shortAt_no {s : ByteArray} {p n q : Nat} (h : M.readVar s.data.toList p = some (n, q)) (hn : ¬ (n ≤ 20000 ∧ q + n ≤ s.size)) : shortAt s p = none := by
  unfold shortAt
  rw [h]
  exact if_neg hn
theorem shortAt_yes {s : ByteArray} {p n q : Nat} (h : M.readVar s.data.toList p = some (n, q)) (hn : n ≤ 20000 ∧ q + n ≤ s.size) : shortAt s p = some (piece s q n, q + n) := by
  unfold shortAt
  rw [h]
  exact if_pos hn
theorem shortAt_size {s : ByteArray} {p q : Nat} {t : ByteArray} (h : shortAt s p = some (t, q)) : t.size ≤ s.size := by
  unfold shortAt at h
  cases hv : M.readVar s.data.toList p with
  | none => rw [hv] at h; simp at h
  | some x =>
    obtain ⟨n, b⟩ := x
    rw [hv] at h
    simp only at h
    split at h
    · simp only [Option.some.injEq, Prod.mk.injEq] at h
      rw [← h.1]
      exact piece_size s b n
    · simp at h
theorem toList_len (s : ByteArray) : s.data.toList.length = s.size := Array.length_toList
theorem bytes_eq {a b : ByteArray} (h : a.data.toList = b.data.toList) : a = b := ByteArray.ext (Array.toList_inj.1 h)
theorem shortAt_back (s t : ByteArray) (pre post : List UInt8) (ht : t.size ≤ 20000) (h : s.data.toList = pre ++ ((M.varL t.size ++ t.data.toList) ++ post)) : shortAt s pre.length = some (t, pre.length + (M.varL t.size ++ t.data.toList).length) := by
  have hr : M.readVar s.data.toList pre.length = some (t.size, pre.length + (M.varL t.size).length) := by
    rw [h, List.append_assoc]
    exact readVar_back pre _ t.size (by omega)
  have hsz := toList_len s
  have htl := toList_len t
  have hl : s.size = pre.length + (M.varL t.size).length + t.size + post.length := by
    rw [← hsz, h]
    simp only [List.length_append]
    omega
  rw [shortAt_yes hr ⟨ht, by omega⟩]
  have hp : piece s (pre.length + (M.varL t.size).length) t.size = t := by
    apply bytes_eq
    unfold piece
    rw [extract_cut, h]
    unfold cutL
    have e1 : (pre ++ ((M.varL t.size ++ t.data.toList) ++ post)).drop (pre.length + (M.varL t.size).length) = t.data.toList ++ post := by
      rw [← List.append_assoc, ← List.append_assoc, List.append_assoc (pre ++ M.varL t.size)]
      rw [← List.length_append]
      exact List.drop_left
    rw [e1]
    have e2 : pre.length + (M.varL t.size).length + t.size - (pre.length + (M.varL t.size).length) = t.data.toList.length := by omega
    rw [e2]
    exact List.take_left
  rw [hp]
  congr 2
  simp only [List.length_append]
  omega
end LV

/-- a short text that is read, or why not -/
theorem ReadShort_at (s : ByteArray) (x : Int) (p : Nat) (w : World) (hx : x = (p : Int)) (hs : s.size ≤ 1048576) (hp : p ≤ s.size) :
    Calls Tryz.prog 202 #[.string s, .int .i64 x] w fun e w' => (match LV.shortAt s p with
      | none => e = .returned (.tuple #[.string ⟨#[]⟩, .int .i64 0, .bool false])
      | some (t, q) => e = .returned (.tuple #[.string t, .int .i64 (q : Int), .bool true])) ∧ Below w.heap.size w w' := by
  subst hx
  cases hr : M.readVar s.data.toList p with
  | none =>
    rw [LV.shortAt_none hr]
    exact ReadShort_none s p w hs (.inr ⟨by omega, by simpa using hr⟩)
  | some y =>
    obtain ⟨n, q⟩ := y
    obtain ⟨hq, hN⟩ := read_bound s p n q hr
    by_cases hn : n ≤ 20000 ∧ q + n ≤ s.size
    · rw [LV.shortAt_yes hr hn]
      have h := ReadShort_yes s p n q w hs (show 0 ≤ (p : Int) ∧ (p : Int) ≤ (s.size : Int) from by omega) (show M.readVar s.data.toList (p : Int).toNat = some (n, q) from by simpa using hr) hn.1 hn.2
      have e : ((q + n : Nat) : Int) = (q : Int) + (n : Int) := by omega
      simp only [e]
      exact h
    · rw [LV.shortAt_no hr hn]
      exact ReadShort_no s p n q w hs (show 0 ≤ (p : Int) ∧ (p : Int) ≤ (s.size : Int) from by omega) (show M.readVar s.data.toList (p : Int).toNat = some (n, q) from by simpa using hr) hq hN hn

/-! the specification's reader -/
/-- the block of a reader: its text, its place, and whether it was spoilt -/
def Cu (W : World) (c : Nat) (s : ByteArray) (p : Nat) (b : Bool) : Prop := W.heap[c]? = some (.cells #[.string s, .int .i64 (p : Int), .bool b] 124 (0, 0))
section
variable {W W' : World} {c p : Nat} {s : ByteArray} {b : Bool}
theorem Cu.lt (h : Cu W c s p b) : c < W.heap.size := (Array.getElem?_eq_some_iff.1 h).1
theorem Cu.later (h : Cu W c s p b) (hb : Below W.heap.size W W') : Cu W' c s p b := (hb.block c h.lt).trans h
theorem Cu.grown {row : Option Nat} (h : Cu W c s p b) (hg : W.grownBy W' row) (hne : some c ≠ row) : Cu W' c s p b := (hg.block c h.lt hne).trans h
theorem Cu.c0 (h : Cu W c s p b) : W.cell? ⟨c, 0, none⟩ = some (.string s) := by rw [cell_of_row W c 0 _ _ _ h]; rfl
theorem Cu.c1 (h : Cu W c s p b) : W.cell? ⟨c, 1, none⟩ = some (.int .i64 (p : Int)) := by rw [cell_of_row W c 1 _ _ _ h]; rfl
theorem Cu.c2 (h : Cu W c s p b) : W.cell? ⟨c, 2, none⟩ = some (.bool b) := by rw [cell_of_row W c 2 _ _ _ h]; rfl
theorem Cu.f1 (h : Cu W c s p b) : W.frozen? ⟨c, 1, none⟩ = false := by simp [World.frozen?, show W.heap[c]? = _ from h]
theorem Cu.f2 (h : Cu W c s p b) : W.frozen? ⟨c, 2, none⟩ = false := by simp [World.frozen?, show W.heap[c]? = _ from h]
theorem Cu.at (h : Cu W c s p b) (q : Nat) : Cu (W.setCell ⟨c, 1, none⟩ (.int .i64 (q : Int))) c s q b := heap_setCell_same W c 1 _ _ _ h
theorem Cu.bad (h : Cu W c s p b) : Cu (W.setCell ⟨c, 2, none⟩ (.bool true)) c s p true := heap_setCell_same W c 2 _ _ _ h
end

set_option maxRecDepth 100000 in
set_option maxHeartbeats 1000000 in
theorem l09Var_at (c : Nat) (s : ByteArray) (p : Nat) (w : World) (h : Cu w c s p false) (hs : s.size ≤ 1048576) (hp : p ≤ s.size) :
    Calls Tryz.prog 94 #[.pointer (some ⟨c, 0, none⟩)] w fun e w' => (match M.readVar s.data.toList p with
      | none => e = .returned (.int .i64 0) ∧ Cu w' c s p true
      | some (n, q) => e = .returned (.int .i64 (n : Int)) ∧ Cu w' c s q false) ∧ w.grownBy w' (some c) := by
  have c0 := h.c0
  have c1 := h.c1
  have H : Hid (Cu w c s p false) := h
  have hcl := h.lt
  clear h
  cases hr : M.readVar s.data.toList p with
  | none =>
    have H1 : Hid (∀ W, Calls Tryz.prog 132 #[.string s, .int .i64 (p : Int)] W fun e w' => e = .returned (.tuple #[.int .i64 0, .int .i64 0, .bool false]) ∧ Below W.heap.size W w') := fun W => sReadVar_none s (p : Int) W hs (.inr ⟨by omega, by simpa using hr⟩)
    clear hr
    go_enter Tryz.func94, Tryz.ntmps94
    go_wp2
    have kq0 := cell_regrown (w := w) c0
    have kq1 := cell_regrown (w := w) c1
    have cq0 := fun d os => Calls.regrown_of (w := w) (d := d) (os := os) (H1.out _)
    refine wp_region_quiet_below (by kernel_rfl) (by kernel_rfl) ?_
    repeat (go_big_quiet_step (first | with_reducible exact cq0 _ _))
    refine wpQuiet_nil ?_
    rintro _ ⟨⟨dq, osq⟩, rfl⟩
    have hb6 := below_regrown (w) dq osq
    generalize grow (redrawn (w) dq) osq = w6 at *
    clear kq0 kq1 cq0
    have h6 := H.out.later hb6
    have d2 := h6.c2
    have g2 := h6.f2
    have hcl6 := h6.lt
    have HF : Hid (Cu (w6.setCell ⟨c, 2, none⟩ (.bool true)) c s p true ∧ w.grownBy (w6.setCell ⟨c, 2, none⟩ (.bool true)) (some c)) := ⟨h6.bad, (grown_below hb6).trans (grown_setC w6 c 2 _)⟩
    clear h6 hb6 H H1 c0 c1
    go_wp2
    go_ret
    exact ⟨⟨rfl, HF.out.1⟩, HF.out.2⟩
  | some y =>
    obtain ⟨n, q⟩ := y
    have H1 : Hid (∀ W, Calls Tryz.prog 132 #[.string s, .int .i64 (p : Int)] W fun e w' => e = .returned (.tuple #[.int .i64 n, .int .i64 q, .bool true]) ∧ Below W.heap.size W w') := fun W => sReadVar_some s (p : Int) n q W hs (by omega) (by simpa using hr)
    clear hr
    go_enter Tryz.func94, Tryz.ntmps94
    go_wp2
    have kq0 := cell_regrown (w := w) c0
    have kq1 := cell_regrown (w := w) c1
    have cq0 := fun d os => Calls.regrown_of (w := w) (d := d) (os := os) (H1.out _)
    refine wp_region_quiet_below (by kernel_rfl) (by kernel_rfl) ?_
    repeat (go_big_quiet_step (first | with_reducible exact cq0 _ _))
    refine wpQuiet_nil ?_
    rintro _ ⟨⟨dq, osq⟩, rfl⟩
    have hb6 := below_regrown (w) dq osq
    generalize grow (redrawn (w) dq) osq = w6 at *
    clear kq0 kq1 cq0
    have h6 := H.out.later hb6
    have d2 := h6.c2
    have d1 := h6.c1
    have g1 := h6.f1
    have hcl6 := h6.lt
    have HF : Hid (Cu (w6.setCell ⟨c, 1, none⟩ (.int .i64 (q : Int))) c s q false ∧ w.grownBy (w6.setCell ⟨c, 1, none⟩ (.int .i64 (q : Int))) (some c)) := ⟨h6.at q, (grown_below hb6).trans (grown_setC w6 c 1 _)⟩
    clear h6 hb6 H H1 c0 c1
    go_wp2
    go_ret
    exact ⟨⟨rfl, HF.out.1⟩, HF.out.2⟩

/-- a short text that is read, or why not -/
theorem sReadShort_at (s : ByteArray) (p : Nat) (w : World) (hs : s.size ≤ 1048576) (hp : p ≤ s.size) :
    Calls Tryz.prog 166 #[.string s, .int .i64 (p : Int)] w fun e w' => (match LV.shortAt s p with
      | none => e = .returned (.tuple #[.string ⟨#[]⟩, .int .i64 0, .bool false])
      | some (t, q) => e = .returned (.tuple #[.string t, .int .i64 (q : Int), .bool true])) ∧ Below w.heap.size w w' := by
  cases hr : M.readVar s.data.toList p with
  | none =>
    rw [LV.shortAt_none hr]
    exact sReadShort_none s p w hs (.inr ⟨by omega, by simpa using hr⟩)
  | some y =>
    obtain ⟨n, q⟩ := y
    obtain ⟨hq, hN⟩ := read_bound s p n q hr
    by_cases hn : n ≤ 20000 ∧ q + n ≤ s.size
    · rw [LV.shortAt_yes hr hn]
      have h := sReadShort_yes s p n q w hs (show 0 ≤ (p : Int) ∧ (p : Int) ≤ (s.size : Int) from by omega) (show M.readVar s.data.toList (p : Int).toNat = some (n, q) from by simpa using hr) hn.1 hn.2
      have e : ((q + n : Nat) : Int) = (q : Int) + (n : Int) := by omega
      simp only [e]
      exact h
    · rw [LV.shortAt_no hr hn]
      exact sReadShort_no s p n q w hs (show 0 ≤ (p : Int) ∧ (p : Int) ≤ (s.size : Int) from by omega) (show M.readVar s.data.toList (p : Int).toNat = some (n, q) from by simpa using hr) hq hN hn

set_option maxRecDepth 100000 in
set_option maxHeartbeats 1000000 in
theorem l09Short_no (c : Nat) (s : ByteArray) (p : Nat) (b : Bool) (w : World) (h : Cu w c s p b) (hs : s.size ≤ 1048576) (hp : p ≤ s.size) (hq : b = true ∨ LV.shortAt s p = none) :
    Calls Tryz.prog 134 #[.pointer (some ⟨c, 0, none⟩)] w fun e w' => (e = .returned (.string ⟨#[]⟩) ∧ Cu w' c s p true) ∧ w.grownBy w' (some c) := by
  have c0 := h.c0
  have c1 := h.c1
  have H : Hid (Cu w c s p b) := h
  have hcl := h.lt
  clear h
  cases hr : LV.shortAt s p with
  | none =>
    clear hq
    cases b
    · have H1 : Hid (∀ W, Calls Tryz.prog 166 #[.string s, .int .i64 (p : Int)] W fun e w' => e = .returned (.tuple #[.string ⟨#[]⟩, .int .i64 0, .bool false]) ∧ Below W.heap.size W w') := fun W => by have h := sReadShort_at s p W hs hp; rw [hr] at h; exact h
      clear hr
      go_enter Tryz.func134, Tryz.ntmps134
      go_wp2
      have kq0 := cell_regrown (w := w) c0
      have kq1 := cell_regrown (w := w) c1
      have cq0 := fun d os => Calls.regrown_of (w := w) (d := d) (os := os) (H1.out _)
      refine wp_region_quiet_below (by kernel_rfl) (by kernel_rfl) ?_
      repeat (go_big_quiet_step (first | with_reducible exact cq0 _ _))
      refine wpQuiet_nil ?_
      rintro _ ⟨⟨dq, osq⟩, rfl⟩
      have hb6 := below_regrown (w) dq osq
      generalize grow (redrawn (w) dq) osq = w6 at *
      clear kq0 kq1 cq0
      have h6 := H.out.later hb6
      have d2 := h6.c2
      have d1 := h6.c1
      have g1 := h6.f1
      have g2 := h6.f2
      have hcl6 := h6.lt
      have HF : Hid (Cu (w6.setCell ⟨c, 2, none⟩ (.bool true)) c s p true ∧ w.grownBy (w6.setCell ⟨c, 2, none⟩ (.bool true)) (some c)) := ⟨h6.bad, (grown_below hb6).trans (grown_setC w6 c 2 _)⟩
      clear h6 hb6 H H1 c0 c1
      go_wp2
      go_ret
      exact ⟨⟨rfl, HF.out.1⟩, HF.out.2⟩
    · have H1 : Hid (∀ W, Calls Tryz.prog 166 #[.string s, .int .i64 (p : Int)] W fun e w' => e = .returned (.tuple #[.string ⟨#[]⟩, .int .i64 0, .bool false]) ∧ Below W.heap.size W w') := fun W => by have h := sReadShort_at s p W hs hp; rw [hr] at h; exact h
      clear hr
      go_enter Tryz.func134, Tryz.ntmps134
      go_wp2
      have kq0 := cell_regrown (w := w) c0
      have kq1 := cell_regrown (w := w) c1
      have cq0 := fun d os => Calls.regrown_of (w := w) (d := d) (os := os) (H1.out _)
      refine wp_region_quiet_below (by kernel_rfl) (by kernel_rfl) ?_
      repeat (go_big_quiet_step (first | with_reducible exact cq0 _ _))
      refine wpQuiet_nil ?_
      rintro _ ⟨⟨dq, osq⟩, rfl⟩
      have hb6 := below_regrown (w) dq osq
      generalize grow (redrawn (w) dq) osq = w6 at *
      clear kq0 kq1 cq0
      have h6 := H.out.later hb6
      have d2 := h6.c2
      have d1 := h6.c1
      have g1 := h6.f1
      have g2 := h6.f2
      have hcl6 := h6.lt
      have HF : Hid (Cu (w6.setCell ⟨c, 2, none⟩ (.bool true)) c s p true ∧ w.grownBy (w6.setCell ⟨c, 2, none⟩ (.bool true)) (some c)) := ⟨h6.bad, (grown_below hb6).trans (grown_setC w6 c 2 _)⟩
      clear h6 hb6 H H1 c0 c1
      go_wp2
      go_ret
      exact ⟨⟨rfl, HF.out.1⟩, HF.out.2⟩
  | some y =>
    obtain ⟨t, r⟩ := y
    obtain rfl : b = true := by
      rcases hq with hq | hq
      · exact hq
      · rw [hr] at hq
        cases hq
    clear hq
    have H1 : Hid (∀ W, Calls Tryz.prog 166 #[.string s, .int .i64 (p : Int)] W fun e w' => e = .returned (.tuple #[.string t, .int .i64 (r : Int), .bool true]) ∧ Below W.heap.size W w') := fun W => by have h := sReadShort_at s p W hs hp; rw [hr] at h; exact h
    clear hr
    go_enter Tryz.func134, Tryz.ntmps134
    go_wp2
    have kq0 := cell_regrown (w := w) c0
    have kq1 := cell_regrown (w := w) c1
    have cq0 := fun d os => Calls.regrown_of (w := w) (d := d) (os := os) (H1.out _)
    refine wp_region_quiet_below (by kernel_rfl) (by kernel_rfl) ?_
    repeat (go_big_quiet_step (first | with_reducible exact cq0 _ _))
    refine wpQuiet_nil ?_
    rintro _ ⟨⟨dq, osq⟩, rfl⟩
    have hb6 := below_regrown (w) dq osq
    generalize grow (redrawn (w) dq) osq = w6 at *
    clear kq0 kq1 cq0
    have h6 := H.out.later hb6
    have d2 := h6.c2
    have d1 := h6.c1
    have g1 := h6.f1
    have g2 := h6.f2
    have hcl6 := h6.lt
    have HF : Hid (Cu (w6.setCell ⟨c, 2, none⟩ (.bool true)) c s p true ∧ w.grownBy (w6.setCell ⟨c, 2, none⟩ (.bool true)) (some c)) := ⟨h6.bad, (grown_below hb6).trans (grown_setC w6 c 2 _)⟩
    clear h6 hb6 H H1 c0 c1
    go_wp2
    go_ret
    exact ⟨⟨rfl, HF.out.1⟩, HF.out.2⟩

set_option maxRecDepth 100000 in
set_option maxHeartbeats 1000000 in
theorem l09Short_yes (c : Nat) (s : ByteArray) (p r : Nat) (t : ByteArray) (w : World) (h : Cu w c s p false) (hs : s.size ≤ 1048576) (hp : p ≤ s.size) (hr : LV.shortAt s p = some (t, r)) :
    Calls Tryz.prog 134 #[.pointer (some ⟨c, 0, none⟩)] w fun e w' => (e = .returned (.string t) ∧ Cu w' c s r false) ∧ w.grownBy w' (some c) := by
  have c0 := h.c0
  have c1 := h.c1
  have H : Hid (Cu w c s p false) := h
  have hcl := h.lt
  clear h
  have H1 : Hid (∀ W, Calls Tryz.prog 166 #[.string s, .int .i64 (p : Int)] W fun e w' => e = .returned (.tuple #[.string t, .int .i64 (r : Int), .bool true]) ∧ Below W.heap.size W w') := fun W => by have h := sReadShort_at s p W hs hp; rw [hr] at h; exact h
  clear hr
  go_enter Tryz.func134, Tryz.ntmps134
  go_wp2
  have kq0 := cell_regrown (w := w) c0
  have kq1 := cell_regrown (w := w) c1
  have cq0 := fun d os => Calls.regrown_of (w := w) (d := d) (os := os) (H1.out _)
  refine wp_region_quiet_below (by kernel_rfl) (by kernel_rfl) ?_
  repeat (go_big_quiet_step (first | with_reducible exact cq0 _ _))
  refine wpQuiet_nil ?_
  rintro _ ⟨⟨dq, osq⟩, rfl⟩
  have hb6 := below_regrown (w) dq osq
  generalize grow (redrawn (w) dq) osq = w6 at *
  clear kq0 kq1 cq0
  have h6 := H.out.later hb6
  have d2 := h6.c2
  have d1 := h6.c1
  have g1 := h6.f1
  have g2 := h6.f2
  have hcl6 := h6.lt
  have HF : Hid (Cu (w6.setCell ⟨c, 1, none⟩ (.int .i64 (r : Int))) c s r false ∧ w.grownBy (w6.setCell ⟨c, 1, none⟩ (.int .i64 (r : Int))) (some c)) := ⟨h6.at r, (grown_below hb6).trans (grown_setC w6 c 1 _)⟩
  clear h6 hb6 H H1 c0 c1
  go_wp2
  go_ret
  exact ⟨⟨rfl, HF.out.1⟩, HF.out.2⟩

end Go.Proofs.YtklpanjedolkdaaGreatDoor
/-
  Leaves as plain lists: when they are right, what putting and dropping makes of them, their text and what is read of a text.
-/
namespace Go.Proofs.YtklpanjedolkdaaGreatDoor
set_option linter.unusedVariables false

structure Le where
  n : ByteArray
  v : ByteArray

namespace LV
open F (ltN ltN_eq ltN_irrefl ltN_trans ltN_tri ltN_ne ltN_asymm)

def leB (f : Le) : Bool := okB nameB f.n && okB valB f.v
def Srt (L : List Le) : Prop := L.Pairwise fun f g => ltN f.n g.n = true
def LOk (L : List Le) : Prop := L.length ≤ 24 ∧ (∀ f ∈ L, leB f = true) ∧ Srt L
open Classical in
noncomputable def leavesB (L : List Le) : Bool := decide (LOk L)
theorem leavesB_iff {L : List Le} : leavesB L = true ↔ LOk L := by simp [leavesB]
theorem leavesB_no {L : List Le} : leavesB L = false ↔ ¬ LOk L := by simp [leavesB]

/-- the first m leaves are right -/
def Upto (L : List Le) (m : Nat) : Prop := ∀ j (h : j < L.length), j < m → leB L[j] = true ∧ ∀ h0 : 0 < j, ltN (L[j - 1]'(by omega)).n L[j].n = true
theorem Upto.zero (L : List Le) : Upto L 0 := fun j _ h => by omega
theorem Upto.step {L : List Le} {m : Nat} (h : Upto L m) (hm : m < L.length) (h1 : leB L[m] = true) (h2 : ∀ h0 : 0 < m, ltN (L[m - 1]'(by omega)).n L[m].n = true) : Upto L (m + 1) := by
  intro j hj hlt
  rcases Nat.lt_or_ge j m with h3 | h3
  · exact h j hj h3
  · have : j = m := by omega
    subst this
    exact ⟨h1, h2⟩
theorem srt_of_adj {L : List Le} (h : ∀ j (hj : j < L.length) (h0 : 0 < j), ltN (L[j - 1]'(by omega)).n L[j].n = true) : Srt L := by
  unfold Srt
  rw [List.pairwise_iff_getElem]
  intro i j hi hj hij
  induction j with
  | zero => omega
  | succ j ih =>
    have h1 := h (j + 1) hj (by omega)
    rcases Nat.lt_or_ge i j with h2 | h2
    · exact ltN_trans (ih (by omega) h2) h1
    · have : i = j := by omega
      subst this
      exact h1
theorem Upto.ok {L : List Le} (h : Upto L L.length) (hl : L.length ≤ 24) : LOk L := by
  refine ⟨hl, fun f hf => ?_, srt_of_adj fun j hj h0 => (h j hj hj).2 h0⟩
  obtain ⟨j, hj, rfl⟩ := List.getElem_of_mem hf
  exact (h j hj hj).1
theorem LOk.srt_at {L : List Le} (h : Srt L) (i j : Nat) (hi : i < L.length) (hj : j < L.length) (hij : i < j) : ltN L[i].n L[j].n = true := by
  unfold Srt at h
  rw [List.pairwise_iff_getElem] at h
  exact h i j hi hj hij
theorem not_ok_le {L : List Le} {m : Nat} (hm : m < L.length) (h : leB L[m] = false) : ¬ LOk L := fun hd => by
  have := hd.2.1 L[m] (List.getElem_mem _)
  rw [h] at this
  cases this
theorem not_ok_adj {L : List Le} {m : Nat} (hm : m < L.length) (h0 : 0 < m) (h : ltN (L[m - 1]'(by omega)).n L[m].n = false) : ¬ LOk L := fun hd => by
  have := LOk.srt_at hd.2.2 (m - 1) m (by omega) hm (by omega)
  rw [h] at this
  cases this

/-! what is made of leaves -/
def put (L : List Le) (f : Le) : List Le := L.filter (fun g => ltN g.n f.n) ++ f :: L.filter (fun g => ltN f.n g.n)
def wout (L : List Le) (x : ByteArray) : List Le := L.filter fun g => !decide (g.n = x)
def find (L : List Le) (x : ByteArray) : Option Le := L.find? fun g => decide (g.n = x)

theorem find_some {L : List Le} {x : ByteArray} {f : Le} (h : find L x = some f) : f ∈ L ∧ f.n = x := ⟨List.mem_of_find?_eq_some h, by simpa using List.find?_some h⟩
theorem find_none {L : List Le} {x : ByteArray} (h : find L x = none) : ∀ f ∈ L, f.n ≠ x := by
  intro f hf
  have := List.find?_eq_none.1 h f hf
  simpa using this
theorem srt_inj {L : List Le} (h : Srt L) {f g : Le} (hf : f ∈ L) (hg : g ∈ L) (e : f.n = g.n) : f = g := by
  obtain ⟨i, hi, rfl⟩ := List.getElem_of_mem hf
  obtain ⟨j, hj, rfl⟩ := List.getElem_of_mem hg
  rcases Nat.lt_trichotomy i j with h1 | h1 | h1
  · exact absurd e (ltN_ne (LOk.srt_at h i j hi hj h1))
  · subst h1; rfl
  · exact absurd e.symm (ltN_ne (LOk.srt_at h j i hj hi h1))
theorem mem_put {L : List Le} {f g : Le} : g ∈ put L f ↔ g = f ∨ (g ∈ L ∧ g.n ≠ f.n) := by
  simp only [put, List.mem_append, List.mem_cons, List.mem_filter]
  constructor
  · rintro (⟨h1, h2⟩ | rfl | ⟨h1, h2⟩)
    · exact .inr ⟨h1, ltN_ne h2⟩
    · exact .inl rfl
    · exact .inr ⟨h1, (ltN_ne h2).symm⟩
  · rintro (rfl | ⟨h1, h2⟩)
    · exact .inr (.inl rfl)
    · rcases ltN_tri g.n f.n with h3 | h3 | h3
      · exact .inl ⟨h1, h3⟩
      · exact absurd h3 h2
      · exact .inr (.inr ⟨h1, h3⟩)
theorem mem_wout {L : List Le} {x : ByteArray} {g : Le} : g ∈ wout L x ↔ g ∈ L ∧ g.n ≠ x := by simp [wout]
theorem srt_wout {L : List Le} (h : Srt L) (x : ByteArray) : Srt (wout L x) := h.filter _
theorem srt_put {L : List Le} (h : Srt L) (f : Le) : Srt (put L f) := by
  unfold Srt put
  rw [List.pairwise_append]
  refine ⟨List.Pairwise.filter _ h, List.pairwise_cons.2 ⟨fun g hg => (List.mem_filter.1 hg).2, List.Pairwise.filter _ h⟩, ?_⟩
  intro a ha b hb
  have h1 := (List.mem_filter.1 ha).2
  rcases List.mem_cons.1 hb with rfl | hb
  · exact h1
  · exact ltN_trans h1 (List.mem_filter.1 hb).2
theorem len_split (L : List Le) (x : ByteArray) : (L.filter fun g => ltN g.n x).length + (L.filter fun g => ltN x g.n).length = (wout L x).length := by
  unfold wout
  induction L with
  | nil => rfl
  | cons g r ih =>
    simp only [List.filter_cons]
    rcases ltN_tri g.n x with h | h | h
    · rw [if_pos h, if_neg (by rw [ltN_asymm h]; simp), if_pos (by simpa using ltN_ne h)]
      simp only [List.length_cons]; omega
    · rw [h, if_neg (by rw [ltN_irrefl]; simp), if_neg (by rw [ltN_irrefl]; simp), if_neg (by simp)]
      exact ih
    · rw [if_neg (by rw [ltN_asymm h]; simp), if_pos h, if_pos (by simpa using (ltN_ne h).symm)]
      simp only [List.length_cons]; omega
theorem len_put (L : List Le) (f : Le) : (put L f).length = (wout L f.n).length + 1 := by
  have := len_split L f.n
  simp only [put, List.length_append, List.length_cons]
  omega
theorem wout_id {L : List Le} {x : ByteArray} (h : ∀ f ∈ L, f.n ≠ x) : wout L x = L := List.filter_eq_self.2 fun f hf => by simpa using h f hf
theorem len_wout_le (L : List Le) (x : ByteArray) : (wout L x).length ≤ L.length := List.length_filter_le _ _
theorem len_wout_lt {L : List Le} {x : ByteArray} {f : Le} (hf : f ∈ L) (hx : f.n = x) : (wout L x).length < L.length := by
  unfold wout
  refine List.length_filter_lt_length_iff_exists.2 ⟨f, hf, by simp [hx]⟩
theorem len_wout_eq : ∀ {L : List Le}, Srt L → ∀ {f : Le}, f ∈ L → (wout L f.n).length + 1 = L.length
  | [], _, f, hf => by simp at hf
  | g :: r, h, f, hf => by
    obtain ⟨h1, h2⟩ := List.pairwise_cons.1 h
    by_cases e : g.n = f.n
    · have hr : wout r f.n = r := wout_id fun x hx => by rw [← e]; exact (ltN_ne (h1 x hx)).symm
      have : wout (g :: r) f.n = wout r f.n := by unfold wout; rw [List.filter_cons, if_neg (by simp [e])]
      rw [this, hr]; rfl
    · have hfr : f ∈ r := by
        rcases List.mem_cons.1 hf with rfl | h3
        · exact absurd rfl e
        · exact h3
      have ih := len_wout_eq h2 hfr
      have : wout (g :: r) f.n = g :: wout r f.n := by unfold wout; rw [List.filter_cons, if_pos (by simp [e])]
      rw [this]
      simp only [List.length_cons]; omega
theorem srt_nodup {L : List Le} (h : Srt L) : L.Nodup := h.imp fun {a b} hab e => by subst e; rw [ltN_irrefl] at hab; cases hab
/-- two sorted lists of the same leaves are one -/
theorem srt_ext {L M : List Le} (hL : Srt L) (hM : Srt M) (h : ∀ f, f ∈ L ↔ f ∈ M) : L = M := by
  refine List.Perm.eq_of_pairwise (le := fun (f g : Le) => ltN f.n g.n = true) (fun a b _ _ h1 h2 => ?_) hL hM ((List.perm_ext_iff_of_nodup (srt_nodup hL) (srt_nodup hM)).2 h)
  rw [ltN_asymm h1] at h2
  cases h2

theorem ok_put {L : List Le} (h : Srt L) (hall : ∀ g ∈ L, leB g = true) (f : Le) (hf : leB f = true) (hl : (put L f).length ≤ 24) : LOk (put L f) := by
  refine ⟨hl, fun g hg => ?_, srt_put h f⟩
  rcases mem_put.1 hg with rfl | ⟨h1, _⟩
  · exact hf
  · exact hall g h1
theorem ok_wout {L : List Le} (h : LOk L) (x : ByteArray) : LOk (wout L x) := ⟨Nat.le_trans (len_wout_le _ _) h.1, fun g hg => h.2.1 g (mem_wout.1 hg).1, srt_wout h.2.2 x⟩
theorem len_put_in {L : List Le} (h : Srt L) {x : ByteArray} {f g : Le} (hf : find L x = some f) (hg : g.n = x) : (put L g).length = L.length := by
  obtain ⟨h1, h2⟩ := find_some hf
  rw [len_put, hg, ← h2]
  exact len_wout_eq h h1
theorem len_put_new {L : List Le} {x : ByteArray} {g : Le} (hf : find L x = none) (hg : g.n = x) : (put L g).length = L.length + 1 := by
  rw [len_put, hg, wout_id (find_none hf)]
theorem leB_of {L : List Le} {f : Le} (h : LOk (put L f)) : leB f = true := h.2.1 f (mem_put.2 (.inl rfl))

/-- may this leaf be put? -/
noncomputable def putB (L : List Le) (f : Le) : Bool := leavesB L && (leB f && ((find L f.n).isSome || decide (L.length < 24)))
/-- what is left of it -/
noncomputable def putR (L : List Le) (f : Le) : List Le := if putB L f then put L f else L
theorem putB_spec (L : List Le) (f : Le) : putB L f = (leavesB L && leavesB (put L f)) := by
  unfold putB
  cases h : leavesB L
  · rfl
  · have hok := leavesB_iff.1 h
    rw [Bool.true_and, Bool.true_and]
    by_cases hf : leB f = true
    · rw [hf, Bool.true_and]
      cases hq : find L f.n with
      | some g =>
        have hl := len_put_in hok.2.2 hq (g := f) rfl
        have := leavesB_iff.2 (ok_put hok.2.2 hok.2.1 f hf (by rw [hl]; exact hok.1))
        rw [this]
        rfl
      | none =>
        have hl := len_put_new hq (g := f) rfl
        rw [Option.isSome_none, Bool.false_or]
        by_cases hn : L.length < 24
        · rw [decide_eq_true hn, leavesB_iff.2 (ok_put hok.2.2 hok.2.1 f hf (by omega))]
        · rw [decide_eq_false hn]
          symm
          rw [leavesB_no]
          intro hd
          have := hd.1
          omega
    · have hf' : leB f = false := by simpa using hf
      rw [hf', Bool.false_and]
      symm
      rw [leavesB_no]
      intro hd
      rw [leB_of hd] at hf'
      cases hf'
theorem putB_ok {L : List Le} {f : Le} (h : putB L f = true) : LOk (put L f) := by
  rw [putB_spec, Bool.and_eq_true] at h
  exact leavesB_iff.1 h.2
noncomputable def dropB (L : List Le) (x : ByteArray) : Bool := leavesB L && (find L x).isSome
noncomputable def dropR (L : List Le) (x : ByteArray) : List Le := if dropB L x then wout L x else L
def getV (L : List Le) (x : ByteArray) : ByteArray := ((find L x).map Le.v).getD ⟨#[]⟩
def getB (L : List Le) (x : ByteArray) : Bool := (find L x).isSome

/-! their text -/
def leL (f : Le) : List UInt8 := M.varL f.n.size ++ (f.n.data.toList ++ (M.varL f.v.size ++ f.v.data.toList))
def ltL (L : List Le) : List UInt8 := L.flatMap leL
def lvL (L : List Le) : List UInt8 := M.varL L.length ++ ltL L
theorem ltL_snoc (L : List Le) (f : Le) : ltL (L ++ [f]) = ltL L ++ leL f := by simp [ltL]
theorem okB_size {p : UInt8 → Bool} {s : ByteArray} (h : okB p s = true) : 1 ≤ s.size ∧ s.size ≤ 12 := by
  unfold okB at h
  rw [Bool.and_eq_true] at h
  exact of_decide_eq_true h.1
theorem leB_sizes {f : Le} (h : leB f = true) : (1 ≤ f.n.size ∧ f.n.size ≤ 12) ∧ (1 ≤ f.v.size ∧ f.v.size ≤ 12) := by
  unfold leB at h
  rw [Bool.and_eq_true] at h
  exact ⟨okB_size h.1, okB_size h.2⟩
theorem leL_len {f : Le} (h : leB f = true) : (leL f).length ≤ 44 := by
  have h1 := leB_sizes h
  have h2 := M.varL_len f.n.size
  have h3 := M.varL_len f.v.size
  have h4 : f.n.data.toList.length = f.n.size := Array.length_toList
  have h5 : f.v.data.toList.length = f.v.size := Array.length_toList
  simp only [leL, List.length_append]
  omega
theorem ltL_len : ∀ {L : List Le}, (∀ f ∈ L, leB f = true) → (ltL L).length ≤ 44 * L.length
  | [], _ => by simp [ltL]
  | f :: r, h => by
    have h1 := leL_len (h f (by simp))
    have h2 := ltL_len (L := r) (fun g hg => h g (by simp [hg]))
    simp only [ltL, List.flatMap_cons, List.length_append, List.length_cons] at *
    omega

/-! what is read of a text -/
def leafAt (s : ByteArray) (p : Nat) : Option (Le × Nat) :=
  match shortAt s p with
  | none => none
  | some (n, q) => match shortAt s q with
    | none => none
    | some (v, r) => some (⟨n, v⟩, r)
def leavesF (s : ByteArray) : Nat → Nat → Option (List Le × Nat)
  | 0, p => some ([], p)
  | k + 1, p => match leafAt s p with
    | none => none
    | some (f, q) => match leavesF s k q with
      | none => none
      | some (l, r) => some (f :: l, r)
theorem leafAt_some {s : ByteArray} {p q : Nat} {f : Le} (hp : p ≤ s.size) (h : leafAt s p = some (f, q)) : p < q ∧ q ≤ s.size ∧ cutL s.data.toList p q = leL f := by
  unfold leafAt at h
  cases h1 : shortAt s p with
  | none => rw [h1] at h; simp at h
  | some x =>
    obtain ⟨n, b⟩ := x
    rw [h1] at h
    simp only at h
    obtain ⟨a1, a2, a3⟩ := shortAt_some hp h1
    cases h2 : shortAt s b with
    | none => rw [h2] at h; simp at h
    | some y =>
      obtain ⟨v, r⟩ := y
      rw [h2] at h
      simp only [Option.some.injEq, Prod.mk.injEq] at h
      obtain ⟨rfl, rfl⟩ := h
      obtain ⟨b1, b2, b3⟩ := shortAt_some a2 h2
      refine ⟨by omega, b2, ?_⟩
      rw [← cutL_join _ p b r (by omega) (by omega), a3, b3]
      simp [leL]
theorem leavesF_some {s : ByteArray} : ∀ {k p q : Nat} {l : List Le}, p ≤ s.size → leavesF s k p = some (l, q) → p ≤ q ∧ q ≤ s.size ∧ l.length = k ∧ cutL s.data.toList p q = ltL l
  | 0, p, q, l, hp, h => by
    simp only [leavesF, Option.some.injEq, Prod.mk.injEq] at h
    obtain ⟨rfl, rfl⟩ := h
    exact ⟨Nat.le_refl _, hp, rfl, by simp [cutL, ltL]⟩
  | k + 1, p, q, l, hp, h => by
    rw [leavesF] at h
    cases h1 : leafAt s p with
    | none => rw [h1] at h; simp at h
    | some x =>
      obtain ⟨f, b⟩ := x
      rw [h1] at h
      simp only at h
      obtain ⟨a1, a2, a3⟩ := leafAt_some hp h1
      cases h2 : leavesF s k b with
      | none => rw [h2] at h; simp at h
      | some y =>
        obtain ⟨m, r⟩ := y
        rw [h2] at h
        simp only [Option.some.injEq, Prod.mk.injEq] at h
        obtain ⟨rfl, rfl⟩ := h
        obtain ⟨b1, b2, b3, b4⟩ := leavesF_some a2 h2
        refine ⟨by omega, b2, by simp [b3], ?_⟩
        rw [← cutL_join _ p b r (by omega) (by omega), a3, b4]
        simp [ltL]
/-- one more behind -/
theorem leavesF_snoc (s : ByteArray) : ∀ (k p : Nat), leavesF s (k + 1) p = match leavesF s k p with
    | none => none
    | some (l, q) => match leafAt s q with
      | none => none
      | some (f, r) => some (l ++ [f], r)
  | 0, p => by
    rw [leavesF]
    cases h : leafAt s p with
    | none => simp [leavesF, h]
    | some x => obtain ⟨f, q⟩ := x; simp [leavesF, h]
  | k + 1, p => by
    rw [leavesF]
    cases h : leafAt s p with
    | none => simp [leavesF, h]
    | some x =>
      obtain ⟨f, q⟩ := x
      simp only
      rw [leavesF_snoc s k q]
      rw [leavesF, h]
      simp only
      cases h2 : leavesF s k q with
      | none => simp
      | some y =>
        obtain ⟨l, r⟩ := y
        simp only
        cases h3 : leafAt s r with
        | none => simp
        | some z => obtain ⟨g, t⟩ := z; simp
/-- once a leaf fails, none more are read -/
theorem leavesF_none {s : ByteArray} {m p : Nat} (h : leavesF s m p = none) : ∀ k, m ≤ k → leavesF s k p = none := by
  intro k hk
  induction k with
  | zero =>
    have : m = 0 := by omega
    subst this
    exact h
  | succ k ih =>
    rcases Nat.lt_or_ge k m with h1 | h1
    · have : m = k + 1 := by omega
      subst this
      exact h
    · rw [leavesF_snoc, ih h1]

open Classical in
/-- the leaves that a text tells, with the place behind them -/
noncomputable def atL (s : ByteArray) (p : Nat) : Option (List Le × Nat) :=
  match M.readVar s.data.toList p with
  | none => none
  | some (n, q) => if 24 < n then none else
    match leavesF s n q with
    | none => none
    | some (l, e) => if LOk l then some (l, e) else none
noncomputable def readL (s : ByteArray) : Option (List Le) :=
  match atL s 0 with
  | none => none
  | some (l, e) => if e = s.size then some l else none

end LV
end Go.Proofs.YtklpanjedolkdaaGreatDoor
