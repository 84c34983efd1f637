/-
  Texts laid together: Dd, Mk, Sgm, Form, Shelf, Rsg, Rsh, Sgl, Rsl.
-/
import Derived.Test.YthkknckpippjhaaDoorRows
import Derived.WalkKit
import Derived.Lib.ItoaMem
import Derived.Test.YthkknckpippjhaaDoorPkD
import Derived.Deep.RegionHeld3
import Derived.Laws.Rows
import Derived.Laws.Tables
import Derived.Test.YthkknckpippjhaaDoorPkA
import Derived.Test.YthkknckpippjhaaDoorPkC
import Derived.Shelf.LaysM
import Derived.Shelf.Strconv.Clone
import Derived.Test.YthkknckpippjhaaDoorProg
import Derived.Laws.DeepStrings4
/-
  What the specification's Decimal answers: the numeral that strconv.Itoa's own contract names.
-/
namespace Go.Proofs.YthkknckpippjhaaDoor.D
open Go.RowKit
set_option linter.unusedVariables false

def fig (x : Nat) : UInt8 := UInt8.ofNat (48 + x)

def decR : Nat → Nat → List UInt8
  | 0, _ => []
  | f + 1, n => if n = 0 then [] else decR f (n / 10) ++ [fig (n % 10)]

theorem decR_digits : ∀ (f n : Nat), 0 < n → n < 10 ^ f → decR f n = Lib.decDigits n := by
  intro f
  induction f with
  | zero => intro n h0 h; simp at h; omega
  | succ f ih =>
    intro n h0 h
    rw [decR, if_neg (by omega)]
    by_cases hs : n < 10
    · rw [Lib.decDigits_one hs]
      have e1 : n / 10 = 0 := by omega
      have e2 : n % 10 = n := by omega
      rw [e1, e2]
      have e3 : decR f 0 = [] := by cases f <;> simp [decR]
      rw [e3]
      rfl
    · rw [Lib.decDigits, dif_neg hs, ih (n / 10) (by omega) (by rw [Nat.pow_succ] at h; omega)]
      rfl

theorem fig_nat (x : Nat) (h : x < 10) : (fig x).toNat = 48 + x := by
  unfold fig
  simp
  omega

theorem l01Figure_any (x : Nat) (w : World) (h : x < 10) :
    Calls Tryd.prog 89 #[.int .i64 x] w fun e w' => e = .returned (.int .u8 (fig x).toNat) ∧ w' = w := by
  have hf := fig_nat x h
  rw [hf]
  go_enter Tryd.func89, Tryd.ntmps89
  go_wp2
  go_ret
  exact ⟨by go_num, rfl⟩

theorem figI (x : Int) (n : Nat) (w : World) (hx : x = (n : Int)) (h : n < 10) :
    Calls Tryd.prog 89 #[.int .i64 x] w fun e w' => e = .returned (.int .u8 (fig n).toNat) ∧ w' = w := by
  subst hx
  exact l01Figure_any n w h

theorem one_str (w : World) (b : UInt8) : (convert 50 9 (.slice (some ⟨w.heap.size, 0, none⟩) 1 1)).run Tryd.prog (w.alloc (.cells #[.int .u8 (b.toNat : Int)] 5)) = .ok (.string ⟨[b].toArray⟩) (w.alloc (.cells #[.int .u8 (b.toNat : Int)] 5)) := by
  refine run_convert_bytes_back (P := Tryd.prog) _ 50 9 5 ⟨w.heap.size, 0, none⟩ 1 [b] Tryd.underlying50 Tryd.underlying5 Tryd.underlying9 ?_
  intro j hj
  have h0 : j = 0 := by simpa using hj
  subst h0
  simp [Addr.add]

/-- one figure ahead of a text -/
def consB (b : UInt8) (t : ByteArray) : ByteArray := ⟨[b].toArray⟩ ++ t
theorem consB_list (b : UInt8) (t : ByteArray) : (consB b t).data.toList = b :: t.data.toList := by
  unfold consB
  simp
theorem consB_size (b : UInt8) (t : ByteArray) : (consB b t).size = t.size + 1 := by
  unfold consB
  rw [ByteArray.size_append]
  show 1 + t.size = _
  omega

def itoaB (n : Int) : ByteArray := ⟨(Lib.itoa n).toArray⟩

def DecRel (sg : Int) (n : Nat) (w : World) (x s : Value) (wr : World) : Prop :=
  ∃ (m f : Nat) (t : ByteArray), m ≤ n ∧ x = .int .i64 (sg * m) ∧ s = .string t ∧ t.size + f = 20 ∧ Hid (m < 10 ^ f) ∧ Hid (decR f m ++ t.data.toList = decR 20 n) ∧ Below w.heap.size w wr

theorem dec_end {n m f : Nat} {t : ByteArray} (h0 : 0 < n) (hn : n < 10 ^ 20) (hm : m = 0) (h : decR f m ++ t.data.toList = decR 20 n) : t = ⟨(Lib.decDigits n).toArray⟩ := by
  have h2 : decR f m = [] := by rw [hm]; cases f <;> simp [decR]
  rw [h2, List.nil_append, decR_digits 20 n h0 hn] at h
  rw [← h]

theorem dec_step {n m f : Nat} {t : ByteArray} (hm : ¬ m = 0) (hF : m < 10 ^ f) (h : decR f m ++ t.data.toList = decR 20 n) : ∃ f', f = f' + 1 ∧ m / 10 < 10 ^ f' ∧ decR f' (m / 10) ++ (consB (fig (m % 10)) t).data.toList = decR 20 n := by
  cases f with
  | zero => simp at hF; omega
  | succ f =>
    refine ⟨f, rfl, by rw [Nat.pow_succ] at hF; omega, ?_⟩
    rw [decR, if_neg hm] at h
    rw [consB_list]
    simpa using h

set_option maxRecDepth 100000 in
set_option maxHeartbeats 1000000 in
theorem Decimal_pos (n : Nat) (w : World) (h0 : 0 < n) (hn : n ≤ 9223372036854775807) :
    Calls Tryd.prog 55 #[.int .i64 n] w fun e w' => e = .returned (.string ⟨(Lib.decDigits n).toArray⟩) ∧ Below w.heap.size w w' := by
  have hq : ((n : Int) == 0) = false := by simp; omega
  have hsg : ¬ ((n : Int) < 0) := by omega
  go_enter Tryd.func55, Tryd.ntmps55
  go_wp2
  go_loopw [0, 4, 5] (fun x s _ wr => DecRel 1 n w x s wr) (fun x _ _ _ => (intOf x).toNat)
  case atStart => exact ⟨n, 20, ⟨#[]⟩, Nat.le_refl _, by simp, rfl, rfl, by unfold Hid; omega, by unfold Hid; simp, Below.refl _ _⟩
  case round =>
    obtain ⟨m, f, t, hmn, rfl, rfl, htf, HF, HE, hbel⟩ := hrel
    rw [Int.one_mul]
    by_cases hm : m = 0
    · have hmq : ((m : Int) != 0) = false := by simp; omega
      have HD : Hid (t = ⟨(Lib.decDigits n).toArray⟩) := dec_end h0 (by omega) hm HE.out
      clear hm
      go_wp2
      go_ret
      exact ⟨by rw [← HD.out]; rfl, hbel⟩
    · have hmq : ((m : Int) != 0) = true := by simp; omega
      have hms : ¬ ((m : Int) % 10 < 0) := by omega
      have hm0 : 0 < m := by omega
      obtain ⟨f', rfl, hF2, hS⟩ := dec_step hm HF.out HE.out
      have HS : Hid (decR f' (m / 10) ++ (consB (fig (m % 10)) t).data.toList = decR 20 n) := hS
      have HF2 : Hid (m / 10 < 10 ^ f') := hF2
      clear hS hF2 hm
      go_wp2_with fail
      refine (figI _ (m % 10) _ (by omega) (by omega)).mono ?_
      rintro e w2 ⟨rfl, rfl⟩
      have hcv := one_str w2 (fig (m % 10))
      go_wp2
      go_roundw
      case rel => exact ⟨m / 10, f', consB (fig (m % 10)) t, by omega, by go_num, rfl, by rw [consB_size]; omega, HF2, HS, hbel.alloc hbel.size _⟩
      case measure => simp [intOf]; omega

theorem Decimal_zero (w : World) : Calls Tryd.prog 55 #[.int .i64 0] w fun e w' => e = .returned (.string ⟨(Lib.decDigits 0).toArray⟩) ∧ Below w.heap.size w w' := by
  rw [Lib.decDigits_one (by omega)]
  go_enter Tryd.func55, Tryd.ntmps55
  go_wp2
  go_ret
  exact ⟨rfl, Below.refl _ _⟩

end Go.Proofs.YthkknckpippjhaaDoor.D
/-
  What the laws' own helpers do: markText, markStringS, heldStringS, from any first number on.
-/
namespace Go.Proofs.YthkknckpippjhaaDoor
open Go.RowKit
set_option linter.unusedVariables false

theorem one_strI (w : World) (x : Int) (b : UInt8) (h : x = (b.toNat : Int)) : (convert 50 9 (.slice (some ⟨w.heap.size, 0, none⟩) 1 1)).run Tryd.prog (w.alloc (.cells #[.int .u8 x] 5)) = .ok (.string ⟨[b].toArray⟩) (w.alloc (.cells #[.int .u8 x] 5)) := by
  subst h
  exact D.one_str w b

def markB (k : Nat) : ByteArray := D.consB 109 ⟨(Lib.decDigits k).toArray⟩

def MkRel (n : Nat) (w : World) (x s : Value) (wr : World) : Prop :=
  ∃ (m f : Nat) (t : ByteArray), m ≤ n ∧ x = .int .i64 m ∧ s = .string t ∧ t.size + f = 20 ∧ Hid (m < 10 ^ f) ∧ Hid (D.decR f m ++ t.data.toList = D.decR 20 n) ∧ Below w.heap.size w wr

set_option maxRecDepth 100000 in
set_option maxHeartbeats 1000000 in
theorem markText_any (n : Nat) (w : World) (h0 : 0 < n) (hn : n ≤ 1000000000) :
    Calls Tryd.prog 66 #[.int .i64 n] w fun e w' => e = .returned (.string (markB n)) ∧ Below w.heap.size w w' := by
  have hsg : ¬ ((n : Int) ≤ 0) := by omega
  go_enter Tryd.func66, Tryd.ntmps66
  go_wp2
  go_loopw [0, 3] (fun x s wr => MkRel n w x s wr) (fun x _ _ => (intOf x).toNat)
  case atStart => exact ⟨n, 20, ⟨#[]⟩, Nat.le_refl _, rfl, rfl, rfl, by unfold Hid; omega, by unfold Hid; simp, Below.refl _ _⟩
  case round =>
    obtain ⟨m, f, t, hmn, rfl, rfl, htf, HF, HE, hbel⟩ := hrel
    by_cases hm : m = 0
    · have hmq : ¬ ((0 : Int) < (m : Int)) := by omega
      have HD : Hid (t = ⟨(Lib.decDigits n).toArray⟩) := D.dec_end h0 (by omega) hm HE.out
      have hts : t.size ≤ 20 := by omega
      clear hm
      go_wp2
      go_ret
      exact ⟨by unfold markB; rw [← HD.out]; rfl, hbel⟩
    · have hmq : (0 : Int) < (m : Int) := by omega
      have hm0 : 0 < m := by omega
      obtain ⟨f', rfl, hF2, hS⟩ := D.dec_step hm HF.out HE.out
      have HS : Hid (D.decR f' (m / 10) ++ (D.consB (D.fig (m % 10)) t).data.toList = D.decR 20 n) := hS
      have HF2 : Hid (m / 10 < 10 ^ f') := hF2
      have hfg := D.fig_nat (m % 10) (by omega)
      have hcv := one_strI wr (48 + (m : Int) % 10) (D.fig (m % 10)) (by rw [hfg]; omega)
      clear hS hF2 hm hfg
      go_wp2
      go_roundw
      case rel => exact ⟨m / 10, f', D.consB (D.fig (m % 10)) t, by omega, by go_num, rfl, by rw [D.consB_size]; omega, HF2, HS, hbel.alloc hbel.size _⟩
      case measure => simp [intOf] <;> omega

theorem markText_int (x : Int) (n : Nat) (w : World) (hx : x = (n : Int)) (h0 : 0 < n) (hn : n ≤ 1000000000) :
    Calls Tryd.prog 66 #[.int .i64 x] w fun e w' => e = .returned (.string (markB n)) ∧ Below w.heap.size w w' := by
  subst hx
  exact markText_any n w h0 hn

/-- n marks from k on -/
def marks (k n : Nat) : List ByteArray := (List.range n).map fun j => markB (k + j)
theorem marks_len (k n : Nat) : (marks k n).length = n := by simp [marks]
theorem marks_at (k n j : Nat) (h : j < (marks k n).length) : (marks k n)[j] = markB (k + j) := by simp [marks]
theorem marks_set (k : Nat) (l : List ByteArray) (m : Nat) (h : m < l.length) : (marks k m ++ l.drop m).set m (markB (k + m)) = marks k (m + 1) ++ l.drop (m + 1) := by
  have e : l.drop m = l[m] :: l.drop (m + 1) := List.drop_eq_getElem_cons h
  rw [e, List.set_append_right _ _ (by rw [marks_len]; exact Nat.le_refl _), marks_len, Nat.sub_self]
  simp only [List.set_cons_zero, marks, List.range_succ, List.map_append, List.map_cons, List.map_nil, List.append_assoc, List.cons_append, List.nil_append]

theorem grown_below {w w' : World} {row : Option Nat} (h : Below w.heap.size w w') : w.grownBy w' row := ⟨h.os, h.tape, h.output, h.size, fun k hk _ => h.block k hk⟩
theorem grown_refl (w : World) (row : Option Nat) : w.grownBy w row := grown_below (Below.refl _ _)
theorem TB.keptG {w w' : World} {g : Nat} {row : Option Nat} {l : List ByteArray} (h : TB w g l) (hg : w.grownBy w' row) (hne : some g ≠ row) : TB w' g l := by
  have hlt := h.lt
  obtain ⟨cur, h1, h2⟩ := h
  exact ⟨cur, by rw [hg.block g hlt hne]; exact h1, h2⟩

/-- a row of texts that may be written, at the head of block g -/
def TS (w : World) (v : Value) (g : Nat) (l : List ByteArray) : Prop :=
  ∃ a cap, v = .slice a l.length cap ∧ l.length ≤ 1100000 ∧ (0 < l.length → a = some ⟨g, 0, none⟩ ∧ TB w g l)
theorem TS.len {w : World} {v : Value} {g : Nat} {l : List ByteArray} (h : TS w v g l) : l.length ≤ 1100000 := by
  obtain ⟨a, cap, rfl, hl, _⟩ := h
  exact hl
theorem TS.ss {w : World} {v : Value} {g : Nat} {l : List ByteArray} (h : TS w v g l) : SS w v g 0 l := by
  obtain ⟨a, cap, rfl, hl, h2⟩ := h
  exact ⟨a, cap, rfl, by omega, fun h0 => (h2 h0).1, fun j hj => by rw [Nat.zero_add]; exact (h2 (by omega)).2.cell j hj⟩
theorem TS.keptG {w w' : World} {v : Value} {g : Nat} {row : Option Nat} {l : List ByteArray} (h : TS w v g l) (hg : w.grownBy w' row) (hne : 0 < l.length → some g ≠ row) : TS w' v g l := by
  obtain ⟨a, cap, rfl, hl, h2⟩ := h
  exact ⟨a, cap, rfl, hl, fun h0 => ⟨(h2 h0).1, (h2 h0).2.keptG hg (hne h0)⟩⟩
theorem TS.later {w w' : World} {v : Value} {g : Nat} {l : List ByteArray} (h : TS w v g l) (hb : Below w.heap.size w w') : TS w' v g l := h.keptG (row := none) (grown_below hb) (fun _ => by simp)
theorem TS.drewN {w : World} {v : Value} {g : Nat} {l : List ByteArray} (h : TS w v g l) (n : Nat) : TS (w.drewN n) v g l := h
theorem TS.lt {w : World} {v : Value} {g : Nat} {l : List ByteArray} (h : TS w v g l) : 0 < l.length → g < w.heap.size := by
  obtain ⟨a, cap, rfl, hl, h2⟩ := h
  exact fun h0 => (h2 h0).2.lt
theorem TB.ts {w : World} {g : Nat} {l : List ByteArray} (h : TB w g l) (n cap : Nat) (hn : l.length = n) (hl : n ≤ 1100000) : TS w (.slice (some ⟨g, 0, none⟩) n cap) g l := by
  subst hn
  exact ⟨_, _, rfl, hl, fun _ => ⟨rfl, h⟩⟩
theorem TS.nil (w : World) (g : Nat) : TS w (.slice none 0 0) g [] := ⟨_, _, rfl, by simp, fun h => absurd h (by simp)⟩
theorem OS.ts {B : Nat} {w0 w : World} {v : Value} {l : List ByteArray} (h : OS B w0 w v l) (hl : l.length ≤ 1100000) : ∃ g, TS w v g l ∧ B ≤ g := by
  rcases h.shape with ⟨rfl, rfl⟩ | ⟨g, cap, rfl, hg, _⟩
  · exact ⟨B, TS.nil w B, Nat.le_refl _⟩
  · exact ⟨g, h.tb.ts _ _ rfl hl, hg⟩

/-- the block of a row that is not empty -/
def rowOf (g : Nat) (l : List ByteArray) : Option Nat := if l.length = 0 then none else some g
theorem rowOf_some {g : Nat} {l : List ByteArray} (h : 0 < l.length) : rowOf g l = some g := if_neg (by omega)
theorem rowOf_ne {g k : Nat} {l : List ByteArray} (h : 0 < l.length → k ≠ g) : some k ≠ rowOf g l := by
  unfold rowOf
  split
  · simp
  · have := h (by omega)
    simpa using this

def MsRel (k0 : Nat) (w : World) (g : Nat) (l : List ByteArray) (x i : Value) (wr : World) : Prop :=
  ∃ k : Nat, k ≤ l.length ∧ i = .int .i64 k ∧ x = .int .i64 (k0 + k : Nat) ∧ (0 < l.length → TB wr g (marks k0 k ++ l.drop k)) ∧ w.grownBy wr (rowOf g l)

set_option maxRecDepth 100000 in
set_option maxHeartbeats 1000000 in
theorem markStringS_any (v : Value) (g : Nat) (l : List ByteArray) (x : Int) (k0 : Nat) (w : World) (hx : x = (k0 : Int)) (h : TS w v g l) (h0 : 0 < k0) (hk : k0 ≤ 10000000) :
    Calls Tryd.prog 25 #[v, .int .i64 x] w fun e w' => e = .returned (.int .i64 (k0 + l.length : Nat)) ∧ TS w' v g (marks k0 l.length) ∧ w.grownBy w' (rowOf g l) := by
  subst hx
  obtain ⟨a, cap, rfl, hl, h2⟩ := h
  obtain ⟨n, hn⟩ : ∃ n, l.length = n := ⟨_, rfl⟩
  have HA : Hid (0 < n → a = some ⟨g, 0, none⟩) := by rw [← hn]; exact fun h => (h2 h).1
  have HST : Hid (MsRel k0 w g l (.int .i64 k0) (.int .i64 0) w) := ⟨0, by omega, rfl, rfl, fun h => by simpa [marks] using (h2 h).2, grown_refl _ _⟩
  have HLN : Hid (l.length = n) := hn
  rw [hn] at hl ⊢
  clear h2
  go_enter Tryd.func25, Tryd.ntmps25
  go_wp2
  go_loopw [1, 5] (fun x i wr => MsRel k0 w g l x i wr) (fun _ i _ => n - (intOf i).toNat)
  case atStart => exact HST.out
  case round =>
    obtain ⟨k, hkn, rfl, rfl, htb, hgr⟩ := hrel
    rw [hn] at hkn
    clear HST
    by_cases hlt : k < n
    · have ea := HA.out (by omega)
      subst ea
      have htb := htb (by omega)
      have i1 : (k : Int) < (n : Int) := by omega
      have i2 : (0 : Int) ≤ (k : Int) := by omega
      clear hn
      go_wp2_with fail
      refine (markText_int _ (k0 + k) _ (by omega) (by omega) (by omega)).mono ?_
      rintro e w1 ⟨rfl, hb1⟩
      have htb1 := htb.below hb1 htb.lt
      have hll : (marks k0 k ++ l.drop k).length = n := by rw [List.length_append, marks_len, List.length_drop, HLN.out]; omega
      have c0 := htb1.cell k (by omega)
      have f0 := htb1.frozen k
      have hs := htb1.set k (by omega) (markB (k0 + k))
      rw [marks_set k0 l k (by rw [HLN.out]; omega)] at hs
      have HO : Hid (TB (w1.setCell ⟨g, k, none⟩ (.string (markB (k0 + k)))) g (marks k0 (k + 1) ++ l.drop (k + 1)) ∧ w.grownBy (w1.setCell ⟨g, k, none⟩ (.string (markB (k0 + k)))) (rowOf g l)) := by
        rw [rowOf_some (show 0 < l.length by rw [HLN.out]; omega)] at hgr ⊢
        exact ⟨hs, (hgr.trans (grown_below hb1)).trans (grown_set w1 g k _)⟩
      generalize (marks k0 k ++ l.drop k)[k]'(by omega) = old at c0
      generalize markB (k0 + k) = K at *
      clear hs htb1 hll htb hgr hb1
      go_wp2
      go_roundw
      case rel => exact ⟨k + 1, by rw [HLN.out]; omega, by go_num, by go_num, fun _ => HO.out.1, HO.out.2⟩
      case measure => simp [intOf]; omega
    · have hke : k = n := by omega
      have HF : Hid (TS wr (.slice a n cap) g (marks k0 n) ∧ w.grownBy wr (rowOf g l)) := by
        refine ⟨⟨a, cap, by rw [marks_len], by rw [marks_len]; omega, fun h0 => ?_⟩, hgr⟩
        rw [marks_len] at h0
        have h3 := htb (by omega)
        rw [hke, List.drop_of_length_le (by omega), List.append_nil] at h3
        exact ⟨HA.out h0, h3⟩
      subst hke
      clear htb hgr hn
      go_wp2
      go_ret
      exact ⟨rfl, HF.out.1, HF.out.2⟩

def HsRel (k0 n : Nat) (w : World) (x i : Value) (wr : World) : Prop :=
  ∃ k : Nat, k ≤ n ∧ i = .int .i64 k ∧ x = .int .i64 (k0 + k : Nat) ∧ Below w.heap.size w wr

set_option maxRecDepth 100000 in
set_option maxHeartbeats 1000000 in
theorem heldStringS_any (v : Value) (g : Nat) (x : Int) (k0 n : Nat) (w : World) (hx : x = (k0 : Int)) (h : TS w v g (marks k0 n)) (h0 : 0 < k0) (hk : k0 ≤ 10000000) :
    Calls Tryd.prog 26 #[v, .int .i64 x] w fun e w' => e = .returned (.int .i64 (k0 + n : Nat)) ∧ Below w.heap.size w w' := by
  subst hx
  have hgl := h.lt
  obtain ⟨a, cap, rfl, hl, h2⟩ := h
  rw [marks_len] at *
  have HA : Hid (0 < n → a = some ⟨g, 0, none⟩ ∧ g < w.heap.size) := fun h => ⟨(h2 h).1, hgl h⟩
  have HC : Hid (∀ j, j < n → w.cell? ⟨g, j, none⟩ = some (.string (markB (k0 + j)))) := fun j hj => by
    have h3 := (h2 (by omega)).2.cell j (by rw [marks_len]; exact hj)
    rw [marks_at] at h3
    exact h3
  clear h2 hgl
  go_enter Tryd.func26, Tryd.ntmps26
  go_wp2
  go_loopw [1, 5] (fun x i wr => HsRel k0 n w x i wr) (fun _ i _ => n - (intOf i).toNat)
  case atStart => exact ⟨0, by omega, rfl, rfl, Below.refl _ _⟩
  case round =>
    obtain ⟨k, hkn, rfl, rfl, hbel⟩ := hrel
    by_cases hlt : k < n
    · obtain ⟨ea, hgw⟩ := HA.out (by omega)
      subst ea
      have hgr : g < wr.heap.size := Nat.lt_of_lt_of_le hgw hbel.size
      have c0 : wr.cell? ⟨g, k, none⟩ = some (.string (markB (k0 + k))) := (hbel.cell (p := ⟨g, k, none⟩) hgw).trans (HC.out k hlt)
      have i0 : (0 : Int) ≤ (k : Int) := by omega
      have i1 : (k : Int) < (n : Int) := by omega
      clear HC HA
      go_wp2
      go_region_held3 (fun w' => w'.cell? ⟨g, k, none⟩ = some (.string (markB (k0 + k)))) (first | go_keep | exact (hb1.cell (p := ⟨g, k, none⟩) hgr).trans c0) ((go_at_call 66; refine (markText_int _ (k0 + k) _ (by omega) (by omega) (by omega)).mono ?_; rintro e w1 ⟨rfl, hb1⟩))
      all_goals
        have hbel1 := hbel.drew.trans (hb1.mono hbel.size)
        go_wp2
        go_roundw
        case rel => exact ⟨k + 1, by omega, by go_num, by go_num, hbel1⟩
        case measure => simp [intOf]; omega
    · have hke : k = n := by omega
      subst hke
      go_wp2
      go_ret
      exact ⟨rfl, hbel⟩

end Go.Proofs.YthkknckpippjhaaDoor
/-
  A signature as a struct: in a block of its own, its fields stored one by one, answered beside a flag.
-/
namespace Go.Proofs.YthkknckpippjhaaDoor
open Go.RowKit
set_option linter.unusedVariables false

/-- block g is a signature with these fields -/
def SgM (w : World) (g : Nat) (a : Int) (v1 v2 v3 : Value) : Prop := w.heap[g]? = some (.cells #[.int .i64 a, v1, v2, v3] 37 (0, 0))
theorem SgM.c0 {w : World} {g : Nat} {a : Int} {v1 v2 v3 : Value} (h : SgM w g a v1 v2 v3) : w.cell? ⟨g, 0, none⟩ = some (.int .i64 a) := by rw [cell_of_row w g 0 _ _ (0, 0) h]; rfl
theorem SgM.c1 {w : World} {g : Nat} {a : Int} {v1 v2 v3 : Value} (h : SgM w g a v1 v2 v3) : w.cell? ⟨g, 1, none⟩ = some v1 := by rw [cell_of_row w g 1 _ _ (0, 0) h]; rfl
theorem SgM.c2 {w : World} {g : Nat} {a : Int} {v1 v2 v3 : Value} (h : SgM w g a v1 v2 v3) : w.cell? ⟨g, 2, none⟩ = some v2 := by rw [cell_of_row w g 2 _ _ (0, 0) h]; rfl
theorem SgM.c3 {w : World} {g : Nat} {a : Int} {v1 v2 v3 : Value} (h : SgM w g a v1 v2 v3) : w.cell? ⟨g, 3, none⟩ = some v3 := by rw [cell_of_row w g 3 _ _ (0, 0) h]; rfl
theorem SgM.fr {w : World} {g : Nat} {a : Int} {v1 v2 v3 : Value} (h : SgM w g a v1 v2 v3) (j : Nat) : w.frozen? ⟨g, j, none⟩ = false := by
  simp [World.frozen?, show w.heap[g]? = some (.cells #[.int .i64 a, v1, v2, v3] 37 (0, 0)) from h]
theorem SgM.lt {w : World} {g : Nat} {a : Int} {v1 v2 v3 : Value} (h : SgM w g a v1 v2 v3) : g < w.heap.size := (Array.getElem?_eq_some_iff.1 h).1
theorem SgM.set1 {w : World} {g : Nat} {a : Int} {v1 v2 v3 : Value} (h : SgM w g a v1 v2 v3) (v : Value) : SgM (w.setCell ⟨g, 1, none⟩ v) g a v v2 v3 := by
  unfold SgM at *
  rw [heap_setCell_same w g 1 _ _ _ h]
  rfl
theorem SgM.set2 {w : World} {g : Nat} {a : Int} {v1 v2 v3 : Value} (h : SgM w g a v1 v2 v3) (v : Value) : SgM (w.setCell ⟨g, 2, none⟩ v) g a v1 v v3 := by
  unfold SgM at *
  rw [heap_setCell_same w g 2 _ _ _ h]
  rfl
theorem SgM.set3 {w : World} {g : Nat} {a : Int} {v1 v2 v3 : Value} (h : SgM w g a v1 v2 v3) (v : Value) : SgM (w.setCell ⟨g, 3, none⟩ v) g a v1 v2 v := by
  unfold SgM at *
  rw [heap_setCell_same w g 3 _ _ _ h]
  rfl
theorem SgM.keep {w w' : World} {g : Nat} {a : Int} {v1 v2 v3 : Value} (h : SgM w g a v1 v2 v3) (he : w'.heap[g]? = w.heap[g]?) : SgM w' g a v1 v2 v3 := by
  unfold SgM at *
  rw [he, h]
theorem SgM.later {w w' : World} {g : Nat} {a : Int} {v1 v2 v3 : Value} (h : SgM w g a v1 v2 v3) (hb : Below w.heap.size w w') : SgM w' g a v1 v2 v3 := h.keep (hb.block g h.lt)
theorem SgM.keptG {w w' : World} {g : Nat} {row : Option Nat} {a : Int} {v1 v2 v3 : Value} (h : SgM w g a v1 v2 v3) (hg : w.grownBy w' row) (hne : some g ≠ row) : SgM w' g a v1 v2 v3 := h.keep (hg.block g h.lt hne)
theorem SgM.new (w : World) (a : Int) (v1 v2 v3 : Value) : SgM (w.alloc (.cells #[.int .i64 a, v1, v2, v3] 37)) w.heap.size a v1 v2 v3 := Go.heap_alloc_new w _

theorem sizeS : (Tryd.prog.info? 37).map (·.size) = some 4 := by kernel_rfl
theorem load_sig {w : World} {g : Nat} {x : Int} {v1 v2 v3 : Value} (hA : SgM w g x v1 v2 v3) : (loadVar 37 ⟨g, 0, none⟩).run Tryd.prog w = .ok (.agg #[.int .i64 x, v1, v2, v3]) w :=
  run_loadVar_row (P := Tryd.prog) w g 37 37 _ (0, 0) _ hA Tryd.underlying37 rfl sizeS

/-- a signature and a flag, answered -/
theorem ret_sig2 {fn : Func} {Rp : Ending → World → Prop} {a : Act} {w : World} (c s g : Nat) (x : Int) (v1 v2 v3 b : Value) (hres : fn.results = #[.cell c 37, .tmp s]) (hd : a.defers = []) (hp : a.tmps.getD c undef = .pointer (some ⟨g, 0, none⟩)) (hb : a.tmps.getD s undef = b)
    (hA : SgM w g x v1 v2 v3) (h : Rp (.returned (.tuple #[.agg #[.int .i64 x, v1, v2, v3], b])) w) : bodyPost Tryd.prog fn Rp .ret a w := by
  have hr := load_sig hA
  refine bodyPost_ret (v := .tuple #[.agg #[.int .i64 x, v1, v2, v3], b]) ?_ hd h
  have hp' : a.tmps[c]?.getD undef = .pointer (some ⟨g, 0, none⟩) := by simpa using hp
  have hb' : a.tmps[s]?.getD undef = b := by simpa using hb
  simp [results, hres, asAddr, hr, hp', hb']

section
variable {w : World} {ops : Array Oper} {rest : List Oper} {o : Oper} {a : Act} {Q : Exit → Act → World → Prop}
/-- a signature loaded whole -/
theorem wp_loadSig (hgd : o.guard = none) (p : Operand) (ho : o.op = .load 37 p) (g : Nat) (x : Int) (v1 v2 v3 : Value) (hp : a.eval p = .pointer (some ⟨g, 0, none⟩)) (hA : SgM w g x v1 v2 v3)
    (h : wpList Tryd.prog ops Q rest (a.put o.dst (.agg #[.int .i64 x, v1, v2, v3])) w) : wpList Tryd.prog ops Q (o :: rest) a w := by
  refine wpList_plain hgd fun K hK => ?_
  have hr : (Instr.loadAt 37 (.pointer (some ⟨g, 0, none⟩))).run Tryd.prog w = .ok (.agg #[.int .i64 x, v1, v2, v3]) w := by
    simp only [Instr.loadAt, Instr.sureAddr, Sem.run_bind, Sem.run_pure, Result.andThen]
    exact load_sig hA
  unfold Oper.wp
  simp [execOp, ho, hp, hr, Result.andThen]
  exact hK _ _ h
/-- a signature stored whole -/
theorem wp_storeSig (hgd : o.guard = none) (p v : Operand) (ho : o.op = .store 37 p v) (g : Nat) (x y : Int) (v1 v2 v3 u1 u2 u3 : Value) (hA : SgM w g x v1 v2 v3) (hp : a.eval p = .pointer (some ⟨g, 0, none⟩)) (hv : a.eval v = .agg #[.int .i64 y, u1, u2, u3])
    (h1 : u1.oneCell' = true) (h2 : u2.oneCell' = true) (h3 : u3.oneCell' = true)
    (h : SgM (w.setRow g #[.int .i64 y, u1, u2, u3]) g y u1 u2 u3 → wpList Tryd.prog ops Q rest (a.put o.dst (.tuple #[])) (w.setRow g #[.int .i64 y, u1, u2, u3])) : wpList Tryd.prog ops Q (o :: rest) a w := by
  refine wpList_plain hgd fun K hK => ?_
  have hr : (Instr.storeAt 37 (.pointer (some ⟨g, 0, none⟩)) (.agg #[.int .i64 y, u1, u2, u3])).run Tryd.prog w = .ok () (w.setRow g #[.int .i64 y, u1, u2, u3]) := by
    simp only [Instr.storeAt, Instr.sureAddr, Sem.run_bind, Sem.run_pure, Result.andThen]
    refine run_storeVar_row w g 37 37 _ _ hA sizeS rfl ?_
    simp [h1, h2, h3]
    rfl
  unfold Oper.wp
  simp [execOp, ho, hp, hv, hr, Result.andThen]
  exact hK _ _ (h (setRow_heap w g _ _ _ _ hA))
end

end Go.Proofs.YthkknckpippjhaaDoor
/-
  What the forms of a signature are held against: how many texts, how wide, the program's and the specification's.
-/
namespace Go.Proofs.YthkknckpippjhaaDoor
open Go.RowKit Go.BigFrame
set_option linter.unusedVariables false

/-- each text is sixteen bytes wide -/
def wideB (l : List ByteArray) : Bool := l.all (fun p => decide (p.size = 16))
theorem wideB_no (l : List ByteArray) (m : Nat) (h : m < l.length) (hb : l[m].size ≠ 16) : wideB l = false := by
  unfold wideB
  rw [List.all_eq_false]
  exact ⟨l[m], List.getElem_mem _, by simpa using hb⟩
theorem wideB_yes (l : List ByteArray) (h : ∀ j (h : j < l.length), l[j].size = 16) : wideB l = true := by
  unfold wideB
  rw [List.all_eq_true]
  intro x hx
  obtain ⟨j, hj, rfl⟩ := List.getElem_of_mem hx
  simpa using h j hj
theorem wideB_at {l : List ByteArray} (h : wideB l = true) (j : Nat) (hj : j < l.length) : l[j].size = 16 := by
  unfold wideB at h
  rw [List.all_eq_true] at h
  simpa using h l[j] (List.getElem_mem _)

def KwR (l : List ByteArray) (w : World) (i : Value) (wr : World) : Prop :=
  ∃ m : Nat, m ≤ l.length ∧ i = .int .i64 m ∧ Hid (∀ j (h : j < l.length), j < m → l[j].size = 16) ∧ wr = w
theorem kw_step {l : List ByteArray} {m : Nat} (hm : m < l.length) (hp : l[m].size = 16) (h : ∀ j (h : j < l.length), j < m → l[j].size = 16) : Hid (∀ j (h : j < l.length), j < m + 1 → l[j].size = 16) := by
  intro j hj hlt
  rcases Nat.lt_or_ge j m with h1 | h1
  · exact h j hj h1
  · have : j = m := by omega
    subst this
    exact hp

set_option maxRecDepth 100000 in
set_option maxHeartbeats 400000 in
theorem keysWide_any (v : Value) (ga oa : Nat) (l : List ByteArray) (w : World) (hv : SS w v ga oa l) :
    Calls Tryd.prog 100 #[v] w fun e w' => e = .returned (.bool (wideB l)) ∧ w' = w := by
  obtain ⟨a, cap, rfl, hl, hA, hc⟩ := hv
  obtain ⟨n, hn⟩ : ∃ n, l.length = n := ⟨_, rfl⟩
  have HA : Hid (0 < n → a = some ⟨ga, oa, none⟩) := by rw [← hn]; exact hA
  have HC : Hid (∀ j (h : j < l.length), w.cell? ⟨ga, oa + j, none⟩ = some (.string l[j])) := hc
  have HST : Hid (KwR l w (.int .i64 0) w) := ⟨0, by omega, rfl, by intro j _ h; omega, rfl⟩
  obtain ⟨R, hR⟩ : ∃ R, wideB l = R := ⟨_, rfl⟩
  have HR : Hid (wideB l = R) := hR
  rw [hn] at hl ⊢
  rw [hR]
  clear hA hc hR
  go_enter Tryd.func100, Tryd.ntmps100
  go_wp2
  go_loopw [7] (fun i wr => KwR l w i wr) (fun i _ => n - (intOf i).toNat)
  case atStart => exact HST.out
  case round =>
    obtain ⟨m, hm, rfl, HI, rfl⟩ := hrel
    rw [hn] at hm
    clear HST
    by_cases hlt : m < n
    · have ea := HA.out (by omega)
      subst ea
      have c0 := HC.out m (by omega)
      have i1 : (m : Int) < (n : Int) := by omega
      have i2 : (0 : Int) ≤ (m : Int) := by omega
      by_cases hx : (l[m]'(by omega)).size = 16
      · have HI2 := kw_step (show m < l.length by omega) hx HI.out
        have q : (((l[m]'(by omega)).size : Int) != 16) = false := by simp; omega
        clear HI HR HC HA hx
        generalize l[m]'(by omega) = X at *
        go_wp2
        go_roundw
        case rel => exact ⟨m + 1, by omega, by go_num, HI2, rfl⟩
        case measure => simp [intOf]; omega
      · have hF := wideB_no l m (by omega) hx
        rw [HR.out] at hF
        subst hF
        have q : (((l[m]'(by omega)).size : Int) != 16) = true := by simp; omega
        clear HI HR HC HA hx
        generalize l[m]'(by omega) = X at *
        go_wp2
        try rw [Exit.noGoto_ret]
        go_ret
        exact ⟨rfl, rfl⟩
    · have hme : m = n := by omega
      have hF := wideB_yes l (fun j hj => HI.out j hj (by omega))
      rw [HR.out] at hF
      subst hF
      subst hme
      clear HI HR HC HA
      go_wp2
      go_ret
      exact ⟨rfl, rfl⟩

set_option maxRecDepth 100000 in
set_option maxHeartbeats 400000 in
theorem l05Wide_any (v : Value) (x : Int) (k : Nat) (ga oa : Nat) (l : List ByteArray) (w : World) (hx : x = (k : Int)) (hv : SS w v ga oa l) :
    Calls Tryd.prog 97 #[v, .int .i64 x] w fun e w' => e = .returned (.bool (wideB l && decide (l.length = k))) ∧ w' = w := by
  subst hx
  obtain ⟨a, cap, rfl, hl, hA, hc⟩ := hv
  obtain ⟨n, hn⟩ : ∃ n, l.length = n := ⟨_, rfl⟩
  have HA : Hid (0 < n → a = some ⟨ga, oa, none⟩) := by rw [← hn]; exact hA
  have HC : Hid (∀ j (h : j < l.length), w.cell? ⟨ga, oa + j, none⟩ = some (.string l[j])) := hc
  have HST : Hid (KwR l w (.int .i64 0) w) := ⟨0, by omega, rfl, by intro j _ h; omega, rfl⟩
  obtain ⟨R, hR⟩ : ∃ R, wideB l = R := ⟨_, rfl⟩
  have HR : Hid (wideB l = R) := hR
  rw [hn] at hl ⊢
  rw [hR]
  clear hA hc hR
  go_enter Tryd.func97, Tryd.ntmps97
  go_wp2
  go_loopw [5] (fun i wr => KwR l w i wr) (fun i _ => n - (intOf i).toNat)
  case atStart => exact HST.out
  case round =>
    obtain ⟨m, hm, rfl, HI, rfl⟩ := hrel
    rw [hn] at hm
    clear HST
    by_cases hlt : m < n
    · have ea := HA.out (by omega)
      subst ea
      have c0 := HC.out m (by omega)
      have i1 : (m : Int) < (n : Int) := by omega
      have i2 : (0 : Int) ≤ (m : Int) := by omega
      by_cases hx : (l[m]'(by omega)).size = 16
      · have HI2 := kw_step (show m < l.length by omega) hx HI.out
        have q : (((l[m]'(by omega)).size : Int) != 16) = false := by simp; omega
        clear HI HR HC HA hx
        generalize l[m]'(by omega) = X at *
        go_wp2
        go_roundw
        case rel => exact ⟨m + 1, by omega, by go_num, HI2, rfl⟩
        case measure => simp [intOf]; omega
      · have hF := wideB_no l m (by omega) hx
        rw [HR.out] at hF
        subst hF
        have q : (((l[m]'(by omega)).size : Int) != 16) = true := by simp; omega
        clear HI HR HC HA hx
        generalize l[m]'(by omega) = X at *
        go_wp2
        try rw [Exit.noGoto_ret]
        go_ret
        exact ⟨rfl, rfl⟩
    · have hme : m = n := by omega
      have hF := wideB_yes l (fun j hj => HI.out j hj (by omega))
      rw [HR.out] at hF
      subst hF
      subst hme
      clear HI HR HC HA hn
      by_cases hk : m = k
      · have q : ((m : Int) == (k : Int)) = true := by simp; omega
        go_wp2
        go_ret
        exact ⟨by simp [hk], rfl⟩
      · have q : ((m : Int) == (k : Int)) = false := by simp; omega
        go_wp2
        go_ret
        exact ⟨by simp [hk], rfl⟩

/-- the form that a signature must have -/
def formB (a : Int) (o s d : List ByteArray) : Bool := decide (0 ≤ a ∧ a ≤ 15) && ((wideB o && decide (o.length = 8)) && ((wideB s && decide (s.length = 8)) && (wideB d && decide (d.length = 4))))
theorem formB_parts {a : Int} {o s d : List ByteArray} (h : formB a o s d = true) : (0 ≤ a ∧ a ≤ 15) ∧ (wideB o = true ∧ o.length = 8) ∧ (wideB s = true ∧ s.length = 8) ∧ (wideB d = true ∧ d.length = 4) := by
  unfold formB at h
  simpa only [Bool.and_eq_true, decide_eq_true_eq] using h
theorem formB_mk {a : Int} {o s d : List ByteArray} (h : (0 ≤ a ∧ a ≤ 15) ∧ (wideB o = true ∧ o.length = 8) ∧ (wideB s = true ∧ s.length = 8) ∧ (wideB d = true ∧ d.length = 4)) : formB a o s d = true := by
  unfold formB
  simpa only [Bool.and_eq_true, decide_eq_true_eq] using h

set_option maxRecDepth 100000 in
set_option maxHeartbeats 1000000 in
theorem l05Form_any (a : Int) (vo vs vd : Value) (g1 o1 g2 o2 g3 o3 : Nat) (o s d : List ByteArray) (w : World) (ho : SS w vo g1 o1 o) (hs : SS w vs g2 o2 s) (hd : SS w vd g3 o3 d) :
    Calls Tryd.prog 73 #[.agg #[.int .i64 a, vo, vs, vd]] w fun e w' => e = .returned (.bool (formB a o s d)) ∧ Below w.heap.size w w' := by
  have hb : Below w.heap.size w (w.alloc (.cells #[.int .i64 a, vo, vs, vd] 37)) := (Below.refl _ _).alloc (Nat.le_refl _) _
  have H1 : Hid (Calls Tryd.prog 97 #[vo, .int .i64 8] (w.alloc (.cells #[.int .i64 a, vo, vs, vd] 37)) fun e w' => e = .returned (.bool (wideB o && decide (o.length = 8))) ∧ w' = (w.alloc (.cells #[.int .i64 a, vo, vs, vd] 37))) := l05Wide_any vo 8 8 g1 o1 o _ rfl (ho.below hb ho.lt)
  have H2 : Hid (Calls Tryd.prog 97 #[vs, .int .i64 8] (w.alloc (.cells #[.int .i64 a, vo, vs, vd] 37)) fun e w' => e = .returned (.bool (wideB s && decide (s.length = 8))) ∧ w' = (w.alloc (.cells #[.int .i64 a, vo, vs, vd] 37))) := l05Wide_any vs 8 8 g2 o2 s _ rfl (hs.below hb hs.lt)
  have H3 : Hid (Calls Tryd.prog 97 #[vd, .int .i64 4] (w.alloc (.cells #[.int .i64 a, vo, vs, vd] 37)) fun e w' => e = .returned (.bool (wideB d && decide (d.length = 4))) ∧ w' = (w.alloc (.cells #[.int .i64 a, vo, vs, vd] 37))) := l05Wide_any vd 4 4 g3 o3 d _ rfl (hd.below hb hd.lt)
  have HB : Hid (Below w.heap.size w (w.alloc (.cells #[.int .i64 a, vo, vs, vd] 37))) := hb
  unfold formB
  generalize (wideB o && decide (o.length = 8)) = A1 at *
  generalize (wideB s && decide (s.length = 8)) = A2 at *
  generalize (wideB d && decide (d.length = 4)) = A3 at *
  generalize hA0 : decide (0 ≤ a ∧ a ≤ 15) = A0
  obtain ⟨ao, co, rfl, _⟩ := ho
  obtain ⟨as2, cs2, rfl, _⟩ := hs
  obtain ⟨ad, cd, rfl, _⟩ := hd
  clear hb
  go_enter Tryd.func73, Tryd.ntmps73
  go_wp2_with fail
  refine (l01In_any _ _ _ _).mono ?_
  rintro e w' ⟨rfl, rfl⟩
  rw [hA0]
  clear hA0
  cases A0 with
  | false =>
    go_wp2
    go_ret
    exact ⟨by simp, HB.out⟩
  | true =>
    go_wp2_with fail
    refine H1.out.mono ?_
    rintro e w' ⟨rfl, rfl⟩
    cases A1 with
    | false =>
      go_wp2
      go_ret
      exact ⟨by simp, HB.out⟩
    | true =>
      go_wp2_with fail
      refine H2.out.mono ?_
      rintro e w' ⟨rfl, rfl⟩
      cases A2 with
      | false =>
        go_wp2
        go_ret
        exact ⟨by simp, HB.out⟩
      | true =>
        go_wp2_with fail
        refine H3.out.mono ?_
        rintro e w' ⟨rfl, rfl⟩
        cases A3 with
        | false =>
          go_wp2
          go_ret
          exact ⟨by simp, HB.out⟩
        | true =>
          go_wp2
          go_ret
          exact ⟨by simp, HB.out⟩

theorem inPool_f (x : Int) (w : World) : Calls Tryd.prog 64 #[.int .i64 x] w fun e w' => e = .returned (.bool (decide (0 ≤ x ∧ x ≤ 15))) ∧ w' = w := by
  by_cases h1 : x < 0
  · have hd : decide (0 ≤ x ∧ x ≤ 15) = false := by simp; omega
    rw [hd]
    go_enter Tryd.func64, Tryd.ntmps64
    go_wp2
    go_ret
    exact ⟨rfl, rfl⟩
  · by_cases h2 : x < 16
    · have hd : decide (0 ≤ x ∧ x ≤ 15) = true := by simp; omega
      rw [hd]
      go_enter Tryd.func64, Tryd.ntmps64
      go_wp2
      go_ret
      exact ⟨rfl, rfl⟩
    · have hd : decide (0 ≤ x ∧ x ≤ 15) = false := by simp; omega
      rw [hd]
      go_enter Tryd.func64, Tryd.ntmps64
      go_wp2
      go_ret
      exact ⟨rfl, rfl⟩

set_option maxRecDepth 100000 in
set_option maxHeartbeats 1000000 in
theorem sigFormOk_any (a : Int) (vo vs vd : Value) (g1 o1 g2 o2 g3 o3 : Nat) (o s d : List ByteArray) (w : World) (ho : SS w vo g1 o1 o) (hs : SS w vs g2 o2 s) (hd : SS w vd g3 o3 d) :
    Calls Tryd.prog 76 #[.agg #[.int .i64 a, vo, vs, vd]] w fun e w' => e = .returned (.bool (formB a o s d)) ∧ Below w.heap.size w w' := by
  have H1 : Hid (∀ W, Below w.heap.size w W → Calls Tryd.prog 100 #[vo] W fun e w' => e = .returned (.bool (wideB o)) ∧ w' = W) := fun W hW => keysWide_any vo g1 o1 o _ (ho.below hW ho.lt)
  have H2 : Hid (∀ W, Below w.heap.size w W → Calls Tryd.prog 100 #[vs] W fun e w' => e = .returned (.bool (wideB s)) ∧ w' = W) := fun W hW => keysWide_any vs g2 o2 s _ (hs.below hW hs.lt)
  have H3 : Hid (∀ W, Below w.heap.size w W → Calls Tryd.prog 100 #[vd] W fun e w' => e = .returned (.bool (wideB d)) ∧ w' = W) := fun W hW => keysWide_any vd g3 o3 d _ (hd.below hW hd.lt)
  unfold formB
  generalize wideB o = A1 at *
  generalize wideB s = A2 at *
  generalize wideB d = A3 at *
  generalize hA0 : decide (0 ≤ a ∧ a ≤ 15) = A0
  obtain ⟨ao, co, rfl, hlo, hx1⟩ := ho
  obtain ⟨as2, cs2, rfl, hls, hx2⟩ := hs
  obtain ⟨ad, cd, rfl, hld, hx3⟩ := hd
  clear hx1 hx2 hx3
  generalize o.length = n1 at *
  generalize s.length = n2 at *
  generalize d.length = n3 at *
  have HB : Hid (∀ x y z : Obj, Below w.heap.size w (((w.alloc x).alloc y).alloc z)) := fun x y z => (((Below.refl _ _).alloc (Nat.le_refl _) _).alloc (by simp) _).alloc (by simp; omega) _
  by_cases h1 : (n1 : Int) = 8
  · by_cases h2 : (n2 : Int) = 8
    · by_cases h3 : (n3 : Int) = 4
      · obtain rfl : n1 = 8 := by omega
        obtain rfl : n2 = 8 := by omega
        obtain rfl : n3 = 4 := by omega
        clear h1 h2 h3 hlo hls hld
        go_enter Tryd.func76, Tryd.ntmps76
        go_wp2_with fail
        refine (inPool_f _ _).mono ?_
        rintro e w1 ⟨rfl, rfl⟩
        rw [hA0]
        clear hA0
        cases A0 with
        | false =>
          go_wp2
          go_ret
          exact ⟨by simp, HB.out _ _ _⟩
        | true =>
          go_wp2_with fail
          refine (H1.out _ (HB.out _ _ _)).mono ?_
          rintro e w1 ⟨rfl, rfl⟩
          cases A1 with
          | false =>
            go_wp2
            go_ret
            exact ⟨by simp, HB.out _ _ _⟩
          | true =>
            go_wp2_with fail
            refine (H2.out _ (HB.out _ _ _)).mono ?_
            rintro e w1 ⟨rfl, rfl⟩
            cases A2 with
            | false =>
              go_wp2
              go_ret
              exact ⟨by simp, HB.out _ _ _⟩
            | true =>
              go_wp2_with fail
              refine (H3.out _ (HB.out _ _ _)).mono ?_
              rintro e w1 ⟨rfl, rfl⟩
              go_wp2
              go_ret
              exact ⟨by simp, HB.out _ _ _⟩
      · obtain rfl : n1 = 8 := by omega
        obtain rfl : n2 = 8 := by omega
        have hF : (A0 && ((A1 && decide ((8 : Nat) = 8)) && ((A2 && decide ((8 : Nat) = 8)) && (A3 && decide (n3 = 4))))) = false := by
          rw [decide_eq_false (show ¬ n3 = 4 by omega)]; simp
        rw [hF]
        clear h1 h2 hlo hls hF
        go_enter Tryd.func76, Tryd.ntmps76
        go_wp2_with fail
        refine (inPool_f _ _).mono ?_
        rintro e w1 ⟨rfl, rfl⟩
        rw [hA0]
        clear hA0
        cases A0 with
        | false =>
          go_wp2
          go_ret
          exact ⟨by simp, HB.out _ _ _⟩
        | true =>
          go_wp2
          go_ret
          exact ⟨by simp, HB.out _ _ _⟩
    · obtain rfl : n1 = 8 := by omega
      have hF : (A0 && ((A1 && decide ((8 : Nat) = 8)) && ((A2 && decide (n2 = 8)) && (A3 && decide (n3 = 4))))) = false := by
        rw [decide_eq_false (show ¬ n2 = 8 by omega)]; simp
      rw [hF]
      clear h1 hlo hF
      go_enter Tryd.func76, Tryd.ntmps76
      go_wp2_with fail
      refine (inPool_f _ _).mono ?_
      rintro e w1 ⟨rfl, rfl⟩
      rw [hA0]
      clear hA0
      cases A0 with
      | false =>
        go_wp2
        go_ret
        exact ⟨by simp, HB.out _ _ _⟩
      | true =>
        go_wp2
        go_ret
        exact ⟨by simp, HB.out _ _ _⟩
  · have hF : (A0 && ((A1 && decide (n1 = 8)) && ((A2 && decide (n2 = 8)) && (A3 && decide (n3 = 4))))) = false := by
      rw [decide_eq_false (show ¬ n1 = 8 by omega)]; simp
    rw [hF]
    clear hF
    go_enter Tryd.func76, Tryd.ntmps76
    go_wp2_with fail
    refine (inPool_f _ _).mono ?_
    rintro e w1 ⟨rfl, rfl⟩
    rw [hA0]
    clear hA0
    cases A0 with
    | false =>
      go_wp2
      go_ret
      exact ⟨by simp, HB.out _ _ _⟩
    | true =>
      go_wp2
      go_ret
      exact ⟨by simp, HB.out _ _ _⟩

end Go.Proofs.YthkknckpippjhaaDoor
/-
  What strings.Clone answers, by the library's own contract laid at this program: the same bytes; of what was there nothing has turned.
-/
namespace Go.Proofs
open Go.Shelf
def Tryd.laysM316_ren : Go.Shelf.Ren := ⟨fun | 316 => 108 | n => n, fun | 9 => 9 | 3 => 3 | 4 => 4 | 37 => 50 | 0 => 0 | 127 => 122 | 5 => 5 | n => n, fun | n => n⟩
theorem Tryd.laysM316 : Go.Proofs.LaysM.n316 Tryd.prog Tryd.laysM316_ren := {
  mixed := by kernel_rfl
  f316 := Tryd.func108.trans (congrArg some (by kernel_rfl))
  t0 := Tryd.underlying0
  a0 := Tryd.isAgg0
  z0 := Tryd.sizeOf0
  v0 := Tryd.zeroValue0
  t3 := Tryd.underlying3
  a3 := Tryd.isAgg3
  z3 := Tryd.sizeOf3
  v3 := Tryd.zeroValue3
  t4 := Tryd.underlying4
  a4 := Tryd.isAgg4
  z4 := Tryd.sizeOf4
  v4 := Tryd.zeroValue4
  t9 := Tryd.underlying9
  a9 := Tryd.isAgg9
  z9 := Tryd.sizeOf9
  v9 := Tryd.zeroValue9
  t37 := Tryd.underlying50
  a37 := Tryd.isAgg50
  z37 := Tryd.sizeOf50
  v37 := Tryd.zeroValue50
  t127 := Tryd.underlying122
  a127 := Tryd.isAgg122
  z127 := Tryd.sizeOf122
  v127 := Tryd.zeroValue122
  t5 := Tryd.underlying5
  a5 := Tryd.isAgg5
  z5 := Tryd.sizeOf5
  v5 := Tryd.zeroValue5
  i0 := by kernel_rfl
  i3 := by kernel_rfl
  i4 := by kernel_rfl
  i5 := by kernel_rfl
  i9 := by kernel_rfl
  i37 := by kernel_rfl
  i127 := by kernel_rfl }
open Go.RowKit in
theorem Tryd.stringslite_Clone (s : ByteArray) (w : World) (hlim : s.size ≤ 281474976710656) :
    Calls Tryd.prog 108 #[.string s] w fun e w' => e = .returned (.string s) ∧ Below w.heap.size w w' := Any.stringslite_Clone Tryd.laysM316 s w hlim
end Go.Proofs
/-
  What ReadSig answers, the program's and the specification's.
-/
namespace Go.Proofs.YthkknckpippjhaaDoor
open Go.RowKit Go.BigFrame
set_option linter.unusedVariables false

theorem Clone_any (s : ByteArray) (w : World) (h : s.size ≤ 1048576) : Calls Tryd.prog 95 #[.string s] w fun e w' => e = .returned (.string s) ∧ Below w.heap.size w w' := by
  go_enter Tryd.func95, Tryd.ntmps95
  go_wp2_with fail
  refine (Tryd.stringslite_Clone s _ (by omega)).mono ?_
  rintro e w' ⟨rfl, hb⟩
  go_wp2
  go_ret
  exact ⟨rfl, hb⟩

/-- n keys from place b on -/
def cutL (t : ByteArray) (b n : Nat) : List ByteArray := (List.range n).map fun i => t.extract (b + i * 16) (b + (i + 1) * 16)
theorem cutL_len (t : ByteArray) (b n : Nat) : (cutL t b n).length = n := by simp [cutL]
theorem cutL_at (t : ByteArray) (b n i : Nat) (h : i < (cutL t b n).length) : (cutL t b n)[i] = t.extract (b + i * 16) (b + (i + 1) * 16) := by simp [cutL]
theorem cutL_tail (t : ByteArray) (k b n : Nat) (h : k + b + n * 16 ≤ t.size) : cutL (t.extract k t.size) b n = cutL t (k + b) n := by
  unfold cutL
  apply List.map_congr_left
  intro i hi
  have hi' : i < n := by simpa using hi
  rw [ByteArray.extract_extract]
  have e1 : k + (b + i * 16) = k + b + i * 16 := by omega
  have e2 : min (k + (b + (i + 1) * 16)) t.size = k + b + (i + 1) * 16 := by
    have : (i + 1) * 16 ≤ n * 16 := Nat.mul_le_mul_right _ hi'
    omega
  rw [e1, e2]
theorem tail_tail (t : ByteArray) (k b : Nat) (h : k ≤ t.size) : (t.extract k t.size).extract b (t.extract k t.size).size = t.extract (k + b) t.size := by
  rw [ByteArray.extract_extract, ByteArray.size_extract]
  congr 1
  omega
theorem cutL_wide (t : ByteArray) (b n : Nat) (h : b + n * 16 ≤ t.size) : wideB (cutL t b n) = true := by
  refine wideB_yes _ fun j hj => ?_
  rw [cutL_at, ByteArray.size_extract]
  rw [cutL_len] at hj
  have : (j + 1) * 16 ≤ n * 16 := Nat.mul_le_mul_right _ hj
  omega

def CkR (t : ByteArray) (n : Nat) (w : World) (g : Nat) (i : Value) (wr : World) : Prop := ∃ m : Nat, m ≤ n ∧ i = .int .i64 m ∧ TB wr g (srow (cutL t 0 n) m) ∧ Below w.heap.size w wr

set_option maxRecDepth 100000 in
set_option maxHeartbeats 1000000 in
theorem cutKeys_any (t : ByteArray) (n : Nat) (x : Int) (w : World) (hx : x = (n : Int)) (hn : n ≤ 8) (ht : n * 16 ≤ t.size) (hts : t.size ≤ 1000) :
    Calls Tryd.prog 87 #[.string t, .int .i64 x] w fun e w' => ∃ g, e = .returned (.tuple #[.slice (some ⟨g, 0, none⟩) n n, .string (t.extract (n * 16) t.size)]) ∧ w.heap.size ≤ g ∧ TB w' g (cutL t 0 n) ∧ Below w.heap.size w w' := by
  subst hx
  obtain ⟨w2, hmk, hib, hb2, hs2⟩ := TB.made n (by omega) w
  have HST : Hid (CkR t n w w.heap.size (.int .i64 0) w2) := ⟨0, by omega, rfl, by rw [show srow (cutL t 0 n) 0 = List.replicate n ByteArray.empty by unfold srow; rw [cutL_len]; rfl]; exact hib, hb2⟩
  have HL : Hid ((cutL t 0 n).length = n ∧ ∀ i (h : i < (cutL t 0 n).length), (cutL t 0 n)[i] = t.extract (i * 16) ((i + 1) * 16)) := ⟨cutL_len t 0 n, fun i h => by rw [cutL_at, Nat.zero_add, Nat.zero_add]⟩
  generalize hL : cutL t 0 n = L at *
  clear hib hb2 hs2
  go_enter Tryd.func87, Tryd.ntmps87
  go_wp2
  clear hmk
  go_loopw [12] (fun i wr => CkR t n w w.heap.size i wr) (fun i _ => n - (intOf i).toNat)
  case atStart => exact HST.out
  case round =>
    obtain ⟨m, hm, rfl, hib, hbel⟩ := hrel
    rw [hL] at hib
    clear HST
    by_cases hlt : m < n
    · have i1 : (m : Int) < (n : Int) := by omega
      have i2 : (0 : Int) ≤ (m : Int) := by omega
      have hsl : ∀ W, (Instr.slice 9 (.string t) (some (.int .i64 ((m : Int) * 16))) (some (.int .i64 (((m : Int) + 1) * 16))) none).run Tryd.prog W = .ok (.string (t.extract (m * 16) ((m + 1) * 16))) W := by
        intro W
        rw [run_slice_string_if (P := Tryd.prog) (w := W) 9 t .i64 .i64 _ _ Tryd.underlying9, if_pos (by omega), if_pos (by omega)]
        congr 3 <;> omega
      have hes : (t.extract (m * 16) ((m + 1) * 16)).size ≤ 1048576 := by rw [ByteArray.size_extract]; omega
      have hl16 : (srow L m).length = n := by rw [srow_len _ _ (by rw [HL.out.1]; omega)]; exact HL.out.1
      have hlk := HL.out.2 m (by rw [HL.out.1]; exact hlt)
      have hst := srow_step L m (by rw [HL.out.1]; exact hlt)
      rw [hlk] at hst
      generalize t.extract (m * 16) ((m + 1) * 16) = K at *
      go_wp2_with fail
      refine (Clone_any K _ hes).mono ?_
      rintro e w1 ⟨rfl, hb1⟩
      have hib1 := hib.below hb1 hib.lt
      have b1 := hbel.trans (hb1.mono hbel.size)
      have c0 := hib1.cell m (by omega)
      have f0 := hib1.frozen m
      have hss := hib1.set m (by omega) K
      rw [hst] at hss
      have HS : Hid (TB (w1.setCell ⟨w.heap.size, m, none⟩ (.string K)) w.heap.size (srow L (m + 1)) ∧ Below w.heap.size w (w1.setCell ⟨w.heap.size, m, none⟩ (.string K))) := ⟨hss, b1.setCell (p := ⟨w.heap.size, m, none⟩) (Nat.le_refl _) _⟩
      generalize (srow L m)[m]'(by omega) = Y at *
      clear hss hib1 hib hbel b1 hb1 hlk HL hl16 hst hsl
      go_wp2
      go_roundw
      case rel => exact ⟨m + 1, by omega, by go_num, by rw [hL]; exact HS.out.1, HS.out.2⟩
      case measure => simp [intOf]; omega
    · have hme : m = n := by omega
      subst hme
      have e : srow L m = L := by have := srow_all L; rw [HL.out.1] at this; exact this
      rw [e] at hib
      have a1 : IntKind.i64.wrap ((m : Int) * 16) = (m : Int) * 16 := IntWalk.i64_in _ (by omega)
      have hsl : ∀ W, (Instr.slice 9 (.string t) (some (.int .i64 ((m : Int) * 16))) none none).run Tryd.prog W = .ok (.string (t.extract (m * 16) t.size)) W := by
        intro W
        rw [run_slice_string_from_if (P := Tryd.prog) (w := W) 9 t .i64 _ Tryd.underlying9, if_pos (by omega)]
        congr 3 <;> omega
      clear e HL
      go_wp2
      go_quiet (fail)
      go_wp2
      go_ret2
      exact ⟨w.heap.size, rfl, Nat.le_refl _, hib, hbel.trans ⟨rfl, rfl, rfl, Nat.le_refl _, fun _ _ => rfl⟩⟩

def LcR (t : ByteArray) (b n : Nat) (w : World) (v i : Value) (wr : World) : Prop := ∃ m : Nat, m ≤ n ∧ i = .int .i64 m ∧ OS w.heap.size w wr v ((cutL t b n).take m)

set_option maxRecDepth 100000 in
set_option maxHeartbeats 1000000 in
theorem l05Cut_any (t : ByteArray) (b n : Nat) (y x : Int) (w : World) (hy : y = (b : Int)) (hx : x = (n : Int)) (hn : n ≤ 8) (ht : b + n * 16 ≤ t.size) (hts : t.size ≤ 1000) :
    Calls Tryd.prog 93 #[.string t, .int .i64 y, .int .i64 x] w fun e w' => ∃ v, e = .returned v ∧ OS w.heap.size w w' v (cutL t b n) := by
  subst hx hy
  have HST : Hid (LcR t b n w (.slice (some ⟨w.heap.size, 0, none⟩) 0 0) (.int .i64 0) (w.alloc (.cells #[] 9))) := ⟨0, by omega, rfl, OS.made w⟩
  have HL : Hid ((cutL t b n).length = n ∧ ∀ i (h : i < (cutL t b n).length), (cutL t b n)[i] = t.extract (b + i * 16) (b + (i + 1) * 16)) := ⟨cutL_len t b n, cutL_at t b n⟩
  generalize hL : cutL t b n = L at *
  go_enter Tryd.func93, Tryd.ntmps93
  go_wp2
  go_loopw [7, 8] (fun v i wr => LcR t b n w v i wr) (fun _ i _ => n - (intOf i).toNat)
  case atStart => exact HST.out
  case round =>
    obtain ⟨m, hm, rfl, hos⟩ := hrel
    rw [hL] at hos
    clear HST
    by_cases hlt : m < n
    · have i1 : (m : Int) < (n : Int) := by omega
      have i2 : (0 : Int) ≤ (m : Int) := by omega
      have hsl : ∀ W, (Instr.slice 9 (.string t) (some (.int .i64 ((b : Int) + (m : Int) * 16))) (some (.int .i64 ((b : Int) + ((m : Int) + 1) * 16))) none).run Tryd.prog W = .ok (.string (t.extract (b + m * 16) (b + (m + 1) * 16))) W := by
        intro W
        rw [run_slice_string_if (P := Tryd.prog) (w := W) 9 t .i64 .i64 _ _ Tryd.underlying9, if_pos (by omega), if_pos (by omega)]
        congr 3 <;> omega
      have hlk := HL.out.2 m (by rw [HL.out.1]; exact hlt)
      have hll : (L.take m).length ≤ 16 := by rw [List.length_take, HL.out.1]; omega
      have HN : Hid (∀ v W, OS w.heap.size w W v (L.take m ++ [t.extract (b + m * 16) (b + (m + 1) * 16)]) → LcR t b n w v (.int .i64 ((m : Int) + 1)) W) := by
        rw [← hlk, List.take_append_getElem]
        exact fun v W hW => ⟨m + 1, by omega, by simp, by rw [hL]; exact hW⟩
      generalize t.extract (b + m * 16) (b + (m + 1) * 16) = K at *
      generalize L.take m = X at *
      clear hlk HL
      go_wp2_with (at_builtin; refine wp_appS rfl _ _ rfl w.heap.size w _ X rfl (hos.alloc _) ⟨wr.heap.size, 0, none⟩ K rfl ?c1 ?c2 ?_)
      case c1 => exact one_text _ _ _
      case c2 => omega
      intro v' w3 hos3
      clear hsl
      go_wp2
      go_roundw
      case rel => exact HN.out _ _ hos3
      case measure => simp [intOf]; omega
    · have hme : m = n := by omega
      subst hme
      have e : L.take m = L := List.take_of_length_le (by rw [HL.out.1]; omega)
      rw [e] at hos
      go_wp2
      go_ret
      exact ⟨_, rfl, hos⟩

/-- the first byte of a text -/
def b0 (d : ByteArray) : UInt8 := d.data.toList.getD 0 0
theorem run_b0 (d : ByteArray) (h : 0 < d.size) (w : World) : (Instr.index 9 (.string d) (.int .i64 0)).run Tryd.prog w = .ok (.int .u8 ((b0 d).toNat : Int)) w := by
  rw [run_index_string (P := Tryd.prog) (w := w) 9 d .i64 _ Tryd.underlying9, dif_pos ⟨by omega, by omega⟩]
  have e : b0 d = d[0] := by
    unfold b0
    rw [ByteArray.getElem_eq_getElem_data, List.getD_eq_getElem?_getD, List.getElem?_eq_getElem (by simpa using h)]
    simp
  rw [e]
  rfl

/-- a signature whose lists are new, each with memory of its own -/
def SigIn (w : World) (B : Nat) (v : Value) (a : Int) (o s d : List ByteArray) : Prop :=
  ∃ v1 v2 v3 g1 g2 g3, v = .agg #[.int .i64 a, v1, v2, v3] ∧ (TS w v1 g1 o ∧ TS w v2 g2 s ∧ TS w v3 g3 d) ∧ (B ≤ g1 ∧ B ≤ g2 ∧ B ≤ g3) ∧ (g1 ≠ g2 ∧ g1 ≠ g3 ∧ g2 ≠ g3)
theorem SigIn.zero (w : World) (B : Nat) : SigIn w B (.agg #[.int .i64 0, .slice none 0 0, .slice none 0 0, .slice none 0 0]) 0 [] [] [] :=
  ⟨_, _, _, B, B + 1, B + 2, rfl, ⟨TS.nil w _, TS.nil w _, TS.nil w _⟩, ⟨by omega, by omega, by omega⟩, ⟨by omega, by omega, by omega⟩⟩

def rsOk (t : ByteArray) : Bool := decide (t.size = 321 ∧ (b0 t).toNat ≤ 15)
def rsA (t : ByteArray) : Int := if rsOk t then ((b0 t).toNat : Int) else 0
def rsO (t : ByteArray) : List ByteArray := if rsOk t then cutL t 1 8 else []
def rsS (t : ByteArray) : List ByteArray := if rsOk t then cutL t 129 8 else []
def rsD (t : ByteArray) : List ByteArray := if rsOk t then cutL t 257 4 else []

theorem grown_setRow (w : World) (g : Nat) (R : Array Value) : w.grownBy (w.setRow g R) (some g) :=
  ⟨rfl, rfl, rfl, by simp [World.setRow], fun k _ hk => setRow_other w g k R (fun e => hk (by simp [e]))⟩

def zSig : Array Value := #[.int .i64 0, .slice none 0 0, .slice none 0 0, .slice none 0 0]

set_option maxRecDepth 100000 in
set_option maxHeartbeats 1000000 in
theorem ReadSig_yes (t : ByteArray) (w : World) (h1 : t.size = 321) (h2 : (b0 t).toNat ≤ 15) :
    Calls Tryd.prog 52 #[.string t] w fun e w' => ∃ v, e = .returned (.tuple #[v, .bool true]) ∧ SigIn w' w.heap.size v ((b0 t).toNat : Int) (cutL t 1 8) (cutL t 129 8) (cutL t 257 4) ∧ Below w.heap.size w w' := by
  have hh := run_b0 t (by omega)
  have hd : decide ((0 : Int) ≤ ((b0 t).toNat : Int) ∧ ((b0 t).toNat : Int) ≤ 15) = true := by simp; omega
  have hsl : ∀ W, (Instr.slice 9 (.string t) (some (.int .i64 1)) none none).run Tryd.prog W = .ok (.string (t.extract 1 t.size)) W := by
    intro W
    rw [run_slice_string_from_if (P := Tryd.prog) (w := W) 9 t .i64 _ Tryd.underlying9, if_pos (by omega)]
    rfl
  have z1 : (t.extract 1 t.size).size = 320 := by rw [ByteArray.size_extract]; omega
  have z2 : (t.extract 129 t.size).size = 192 := by rw [ByteArray.size_extract]; omega
  have z3 : (t.extract 257 t.size).size = 64 := by rw [ByteArray.size_extract]; omega
  have HC1 : Hid (∀ W, Calls Tryd.prog 87 #[.string (t.extract 1 t.size), .int .i64 8] W fun e w' => ∃ g, e = .returned (.tuple #[.slice (some ⟨g, 0, none⟩) 8 8, .string (t.extract 129 t.size)]) ∧ W.heap.size ≤ g ∧ TB w' g (cutL t 1 8) ∧ Below W.heap.size W w') := fun W => by
    have := cutKeys_any (t.extract 1 t.size) 8 8 W rfl (by omega) (by omega) (by omega)
    rw [cutL_tail t 1 0 8 (by omega), tail_tail t 1 (8 * 16) (by omega)] at this
    exact this
  have HC2 : Hid (∀ W, Calls Tryd.prog 87 #[.string (t.extract 129 t.size), .int .i64 8] W fun e w' => ∃ g, e = .returned (.tuple #[.slice (some ⟨g, 0, none⟩) 8 8, .string (t.extract 257 t.size)]) ∧ W.heap.size ≤ g ∧ TB w' g (cutL t 129 8) ∧ Below W.heap.size W w') := fun W => by
    have := cutKeys_any (t.extract 129 t.size) 8 8 W rfl (by omega) (by omega) (by omega)
    rw [cutL_tail t 129 0 8 (by omega), tail_tail t 129 (8 * 16) (by omega)] at this
    exact this
  have HC3 : Hid (∀ W, Calls Tryd.prog 87 #[.string (t.extract 257 t.size), .int .i64 4] W fun e w' => ∃ g, ∃ u, e = .returned (.tuple #[.slice (some ⟨g, 0, none⟩) 4 4, .string u]) ∧ W.heap.size ≤ g ∧ TB w' g (cutL t 257 4) ∧ Below W.heap.size W w') := fun W => by
    have := cutKeys_any (t.extract 257 t.size) 4 4 W rfl (by omega) (by omega) (by omega)
    rw [cutL_tail t 257 0 4 (by omega)] at this
    exact this.mono fun e w' ⟨g, he, h⟩ => ⟨g, _, he, h⟩
  have HLN : Hid ((cutL t 1 8).length = 8 ∧ (cutL t 129 8).length = 8 ∧ (cutL t 257 4).length = 4) := ⟨cutL_len _ _ _, cutL_len _ _ _, cutL_len _ _ _⟩
  have q : ((t.size : Int) != 321) = false := by simp; omega
  generalize cutL t 1 8 = L1 at *
  generalize cutL t 129 8 = L2 at *
  generalize cutL t 257 4 = L3 at *
  generalize t.extract 1 t.size = T1 at *
  generalize t.extract 129 t.size = T2 at *
  generalize t.extract 257 t.size = T3 at *
  generalize b0 t = b at *
  have hb : b.toNat < 256 := b.toNat_lt
  clear z1 z2 z3
  go_enter Tryd.func52, Tryd.ntmps52
  go_wp2_with fail
  refine (inPool_f _ _).mono ?_
  rintro e w0 ⟨rfl, rfl⟩
  rw [hd]
  have hS0 : SgM (w.alloc (.cells zSig 37)) w.heap.size 0 (.slice none 0 0) (.slice none 0 0) (.slice none 0 0) := SgM.new w 0 _ _ _
  have bb0 : Below w.heap.size w (w.alloc (.cells zSig 37)) := (Below.refl _ _).alloc (Nat.le_refl _) _
  have hsz : (w.alloc (.cells zSig 37)).heap.size = w.heap.size + 1 := by simp
  have HS0 : Hid (SgM (w.alloc (.cells zSig 37)) w.heap.size 0 (.slice none 0 0) (.slice none 0 0) (.slice none 0 0) ∧ Below w.heap.size w (w.alloc (.cells zSig 37)) ∧ (w.alloc (.cells zSig 37)).heap.size = w.heap.size + 1) := ⟨hS0, bb0, hsz⟩
  clear hS0 bb0 hsz hd
  go_wp2_with fail
  refine (HC1.out _).mono ?_
  rintro e w1 ⟨g1, rfl, hg1, ht1, hb1⟩
  obtain ⟨hS0, bb0, hsz⟩ := HS0.out
  have hS1 := hS0.later hb1
  have b1 := bb0.trans (hb1.mono bb0.size)
  have hg1' : w.heap.size + 1 ≤ g1 := by rw [← hsz]; exact hg1
  have hl1 := ht1.lt
  have hts1 := ht1.ts 8 8 HLN.out.1 (by omega)
  have HA1 : Hid (SgM w1 w.heap.size 0 (.slice none 0 0) (.slice none 0 0) (.slice none 0 0) ∧ Below w.heap.size w w1 ∧ TS w1 (.slice (some ⟨g1, 0, none⟩) 8 8) g1 L1) := ⟨hS1, b1, hts1⟩
  clear hS0 bb0 hsz hS1 b1 hts1 hb1 ht1 hg1 HS0 HC1
  go_wp2_with fail
  refine (HC2.out _).mono ?_
  rintro e w2 ⟨g2, rfl, hg2, ht2, hb2⟩
  obtain ⟨hS1, b1, hts1⟩ := HA1.out
  have hS2 := hS1.later hb2
  have b2 := b1.trans (hb2.mono b1.size)
  have hl2 := ht2.lt
  have HA2 : Hid (SgM w2 w.heap.size 0 (.slice none 0 0) (.slice none 0 0) (.slice none 0 0) ∧ Below w.heap.size w w2 ∧ TS w2 (.slice (some ⟨g1, 0, none⟩) 8 8) g1 L1 ∧ TS w2 (.slice (some ⟨g2, 0, none⟩) 8 8) g2 L2) := ⟨hS2, b2, hts1.later hb2, ht2.ts 8 8 HLN.out.2.1 (by omega)⟩
  clear hS1 b1 hts1 hS2 b2 hb2 ht2 HA1 HC2
  go_wp2_with fail
  refine (HC3.out _).mono ?_
  rintro e w3 ⟨g3, u3, rfl, hg3, ht3, hb3⟩
  obtain ⟨hS2, b2, hts1, hts2⟩ := HA2.out
  have hS3 := hS2.later hb3
  have b3 := b2.trans (hb3.mono b2.size)
  have HA3 : Hid (SgM w3 w.heap.size 0 (.slice none 0 0) (.slice none 0 0) (.slice none 0 0) ∧ Below w.heap.size w w3 ∧ TS w3 (.slice (some ⟨g1, 0, none⟩) 8 8) g1 L1 ∧ TS w3 (.slice (some ⟨g2, 0, none⟩) 8 8) g2 L2 ∧ TS w3 (.slice (some ⟨g3, 0, none⟩) 4 4) g3 L3) := ⟨hS3, b3, hts1.later hb3, hts2.later hb3, ht3.ts 4 4 HLN.out.2.2 (by omega)⟩
  clear hS2 b2 hts1 hts2 hS3 b3 hb3 ht3 HA2 HC3
  go_wp2_with (refine wp_storeSig rfl _ _ rfl w.heap.size 0 _ _ _ _ _ _ _ HA3.out.1 rfl rfl rfl rfl rfl ?_; intro hfin)
  refine ret_sig2 2 3 w.heap.size _ _ _ _ _ rfl rfl rfl rfl hfin ?_
  obtain ⟨_, b3, hts1, hts2, hts3⟩ := HA3.out
  have hgr := grown_setRow w3 w.heap.size #[.int .i64 (b.toNat : Int), .slice (some ⟨g1, 0, none⟩) 8 8, .slice (some ⟨g2, 0, none⟩) 8 8, .slice (some ⟨g3, 0, none⟩) 4 4]
  refine ⟨_, rfl, ⟨_, _, _, g1, g2, g3, rfl, ⟨hts1.keptG hgr (fun _ => ?_), hts2.keptG hgr (fun _ => ?_), hts3.keptG hgr (fun _ => ?_)⟩, ⟨by omega, by omega, by omega⟩, ⟨by omega, by omega, by omega⟩⟩, b3.grown hgr b3.size (fun k hk => by simp at hk; omega)⟩
  · simp; omega
  · simp; omega
  · simp; omega

end Go.Proofs.YthkknckpippjhaaDoor
/-
  What ReadSig answers at any text, the program's and the specification's.
-/
namespace Go.Proofs.YthkknckpippjhaaDoor
open Go.RowKit Go.BigFrame
set_option linter.unusedVariables false

theorem ReadSig_no (t : ByteArray) (w : World) (ht : t.size ≤ 1048576) (h : ¬ (t.size = 321 ∧ (b0 t).toNat ≤ 15)) :
    Calls Tryd.prog 52 #[.string t] w fun e w' => ∃ v, e = .returned (.tuple #[v, .bool false]) ∧ SigIn w' w.heap.size v 0 [] [] [] ∧ Below w.heap.size w w' := by
  have HF : Hid (SgM ((w.alloc (.cells zSig 37))) w.heap.size 0 (.slice none 0 0) (.slice none 0 0) (.slice none 0 0)) := SgM.new w 0 _ _ _
  by_cases h1 : t.size = 321
  · have hh := run_b0 t (by omega)
    have hd : decide ((0 : Int) ≤ ((b0 t).toNat : Int) ∧ ((b0 t).toNat : Int) ≤ 15) = false := by simp; omega
    have q : ((t.size : Int) != 321) = false := by simp; omega
    clear h
    generalize b0 t = b at *
    have hb : b.toNat < 256 := b.toNat_lt
    go_enter Tryd.func52, Tryd.ntmps52
    go_wp2_with fail
    refine (inPool_f _ _).mono ?_
    rintro e w0 ⟨rfl, rfl⟩
    rw [hd]
    go_wp2_with (refine wp_storeSig rfl _ _ rfl w.heap.size 0 _ _ _ _ _ _ _ HF.out rfl rfl rfl rfl rfl ?_; intro hfin)
    refine ret_sig2 2 3 w.heap.size _ _ _ _ _ rfl rfl rfl rfl hfin ?_
    exact ⟨_, rfl, SigIn.zero _ _, ((Below.refl _ _).alloc (Nat.le_refl _) _).grown (grown_setRow _ w.heap.size _) (by simp) (fun k hk => by simp at hk; omega)⟩
  · have q : ((t.size : Int) != 321) = true := by simp; omega
    clear h h1
    go_enter Tryd.func52, Tryd.ntmps52
    go_wp2_with (refine wp_storeSig rfl _ _ rfl w.heap.size 0 _ _ _ _ _ _ _ HF.out rfl rfl rfl rfl rfl ?_; intro hfin)
    refine ret_sig2 2 3 w.heap.size _ _ _ _ _ rfl rfl rfl rfl hfin ?_
    exact ⟨_, rfl, SigIn.zero _ _, ((Below.refl _ _).alloc (Nat.le_refl _) _).grown (grown_setRow _ w.heap.size _) (by simp) (fun k hk => by simp at hk; omega)⟩

theorem ReadSig_any (t : ByteArray) (w : World) (ht : t.size ≤ 1048576) :
    Calls Tryd.prog 52 #[.string t] w fun e w' => ∃ v, e = .returned (.tuple #[v, .bool (rsOk t)]) ∧ SigIn w' w.heap.size v (rsA t) (rsO t) (rsS t) (rsD t) ∧ Below w.heap.size w w' := by
  unfold rsA rsO rsS rsD
  by_cases h : t.size = 321 ∧ (b0 t).toNat ≤ 15
  · have e : rsOk t = true := decide_eq_true h
    rw [e]
    exact ReadSig_yes t w h.1 h.2
  · have e : rsOk t = false := decide_eq_false h
    rw [e]
    exact ReadSig_no t w ht h

theorem sReadSig_no (t : ByteArray) (w : World) (ht : t.size ≤ 1048576) (h : ¬ (t.size = 321 ∧ (b0 t).toNat ≤ 15)) :
    Calls Tryd.prog 61 #[.string t] w fun e w' => ∃ v, e = .returned (.tuple #[v, .bool false]) ∧ SigIn w' w.heap.size v 0 [] [] [] ∧ Below w.heap.size w w' := by
  have HF : Hid (SgM ((w.alloc (.cells zSig 37))) w.heap.size 0 (.slice none 0 0) (.slice none 0 0) (.slice none 0 0)) := SgM.new w 0 _ _ _
  by_cases h1 : t.size = 321
  · have hh := run_b0 t (by omega)
    have q : ((t.size : Int) != 321) = false := by simp; omega
    have h2 : 15 < (b0 t).toNat := by omega
    clear h
    generalize b0 t = b at *
    have hb : b.toNat < 256 := b.toNat_lt
    have q2 : (16 : Int) ≤ (b.toNat : Int) := by omega
    go_enter Tryd.func61, Tryd.ntmps61
    go_wp2_with (refine wp_storeSig rfl _ _ rfl w.heap.size 0 _ _ _ _ _ _ _ HF.out rfl rfl rfl rfl rfl ?_; intro hfin)
    refine ret_sig2 2 3 w.heap.size _ _ _ _ _ rfl rfl rfl rfl hfin ?_
    exact ⟨_, rfl, SigIn.zero _ _, ((Below.refl _ _).alloc (Nat.le_refl _) _).grown (grown_setRow _ w.heap.size _) (by simp) (fun k hk => by simp at hk; omega)⟩
  · have q : ((t.size : Int) != 321) = true := by simp; omega
    clear h h1
    go_enter Tryd.func61, Tryd.ntmps61
    go_wp2_with (refine wp_storeSig rfl _ _ rfl w.heap.size 0 _ _ _ _ _ _ _ HF.out rfl rfl rfl rfl rfl ?_; intro hfin)
    refine ret_sig2 2 3 w.heap.size _ _ _ _ _ rfl rfl rfl rfl hfin ?_
    exact ⟨_, rfl, SigIn.zero _ _, ((Below.refl _ _).alloc (Nat.le_refl _) _).grown (grown_setRow _ w.heap.size _) (by simp) (fun k hk => by simp at hk; omega)⟩

/-- what stands behind each field that was cut -/
def SrH (w w1 : World) (x : Int) (v1 v2 v3 : Value) : Prop := SgM w1 w.heap.size 0 (.slice none 0 0) (.slice none 0 0) (.slice none 0 0) ∧ SgM w1 (w.heap.size + 1) x v1 v2 v3 ∧ Below w.heap.size w w1
theorem SrH.later {w w1 w2 : World} {x : Int} {v1 v2 v3 : Value} (h : SrH w w1 x v1 v2 v3) (hb : Below w1.heap.size w1 w2) : SrH w w2 x v1 v2 v3 := ⟨h.1.later hb, h.2.1.later hb, h.2.2.trans (hb.mono h.2.2.size)⟩

set_option maxRecDepth 100000 in
set_option maxHeartbeats 1000000 in
theorem sReadSig_yes (t : ByteArray) (w : World) (h1 : t.size = 321) (h2 : (b0 t).toNat ≤ 15) :
    Calls Tryd.prog 61 #[.string t] w fun e w' => ∃ v, e = .returned (.tuple #[v, .bool true]) ∧ SigIn w' w.heap.size v ((b0 t).toNat : Int) (cutL t 1 8) (cutL t 129 8) (cutL t 257 4) ∧ Below w.heap.size w w' := by
  have hh := run_b0 t (by omega)
  have HC1 : Hid (∀ W, Calls Tryd.prog 93 #[.string t, .int .i64 1, .int .i64 8] W fun e w' => ∃ v, e = .returned v ∧ OS W.heap.size W w' v (cutL t 1 8)) := fun W => l05Cut_any t 1 8 1 8 W rfl rfl (by omega) (by omega) (by omega)
  have HC2 : Hid (∀ W, Calls Tryd.prog 93 #[.string t, .int .i64 129, .int .i64 8] W fun e w' => ∃ v, e = .returned v ∧ OS W.heap.size W w' v (cutL t 129 8)) := fun W => l05Cut_any t 129 8 129 8 W rfl rfl (by omega) (by omega) (by omega)
  have HC3 : Hid (∀ W, Calls Tryd.prog 93 #[.string t, .int .i64 257, .int .i64 4] W fun e w' => ∃ v, e = .returned v ∧ OS W.heap.size W w' v (cutL t 257 4)) := fun W => l05Cut_any t 257 4 257 4 W rfl rfl (by omega) (by omega) (by omega)
  have HLN : Hid ((cutL t 1 8).length = 8 ∧ (cutL t 129 8).length = 8 ∧ (cutL t 257 4).length = 4) := ⟨cutL_len _ _ _, cutL_len _ _ _, cutL_len _ _ _⟩
  have q : ((t.size : Int) != 321) = false := by simp; omega
  generalize cutL t 1 8 = L1 at *
  generalize cutL t 129 8 = L2 at *
  generalize cutL t 257 4 = L3 at *
  generalize b0 t = b at *
  have hb : b.toNat < 256 := b.toNat_lt
  have q2 : ¬ ((16 : Int) ≤ (b.toNat : Int)) := by omega
  have HA0 : Hid (SrH w ((w.alloc (.cells zSig 37)).alloc (.cells #[.int .i64 (b.toNat : Int), .slice none 0 0, .slice none 0 0, .slice none 0 0] 37)) (b.toNat : Int) (.slice none 0 0) (.slice none 0 0) (.slice none 0 0)) := by
    have e : (w.alloc (.cells zSig 37)).heap.size = w.heap.size + 1 := by simp
    refine ⟨(SgM.new w 0 _ _ _).later ((Below.refl _ _).alloc (Nat.le_refl _) _), ?_, ((Below.refl _ _).alloc (Nat.le_refl _) _).alloc (by simp) _⟩
    have := SgM.new (w.alloc (.cells zSig 37)) (b.toNat : Int) (.slice none 0 0) (.slice none 0 0) (.slice none 0 0)
    rw [e] at this
    exact this
  go_enter Tryd.func61, Tryd.ntmps61
  go_wp2_with fail
  refine (HC1.out _).mono ?_
  rintro e w1 ⟨V1, rfl, hos1⟩
  obtain ⟨a1, k1, hv1⟩ := own_slice hos1.1
  rw [HLN.out.1] at hv1
  subst hv1
  have hA1 := HA0.out.later hos1.2.1
  have c1 := hA1.2.1.c1
  have f1 := hA1.2.1.fr 1
  obtain ⟨g1, hts1, hg1⟩ := hos1.ts (by rw [HLN.out.1]; omega)
  have hg1' : w.heap.size + 2 ≤ g1 := by simpa using hg1
  have hl1 := hts1.lt (by rw [HLN.out.1]; omega)
  have hgr1 := grown_set w1 (w.heap.size + 1) 1 (.slice a1 8 k1)
  have HA1 : Hid (SrH w (w1.setCell ⟨w.heap.size + 1, 1, none⟩ (.slice a1 8 k1)) (b.toNat : Int) (.slice a1 8 k1) (.slice none 0 0) (.slice none 0 0) ∧ TS (w1.setCell ⟨w.heap.size + 1, 1, none⟩ (.slice a1 8 k1)) (.slice a1 8 k1) g1 L1) :=
    ⟨⟨hA1.1.keptG hgr1 (by simp), hA1.2.1.set1 (.slice a1 8 k1), hA1.2.2.setCell (p := ⟨w.heap.size + 1, 1, none⟩) (by simp) _⟩, hts1.keptG hgr1 (fun _ => by simp; omega)⟩
  have hsz1 : (w1.setCell ⟨w.heap.size + 1, 1, none⟩ (.slice a1 8 k1)).heap.size = w1.heap.size := by simp
  clear hA1 hos1 hts1 hg1 hgr1 HC1 HA0
  go_wp2_with fail
  refine (HC2.out _).mono ?_
  rintro e w2 ⟨V2, rfl, hos2⟩
  obtain ⟨a2, k2, hv2⟩ := own_slice hos2.1
  rw [HLN.out.2.1] at hv2
  subst hv2
  have hA2 := HA1.out.1.later hos2.2.1
  have ht12 := HA1.out.2.later hos2.2.1
  have c2 := hA2.2.1.c2
  have f2 := hA2.2.1.fr 2
  obtain ⟨g2, hts2, hg2⟩ := hos2.ts (by rw [HLN.out.2.1]; omega)
  rw [hsz1] at hg2
  have hl2 := hts2.lt (by rw [HLN.out.2.1]; omega)
  have hgr2 := grown_set w2 (w.heap.size + 1) 2 (.slice a2 8 k2)
  have HA2 : Hid (SrH w (w2.setCell ⟨w.heap.size + 1, 2, none⟩ (.slice a2 8 k2)) (b.toNat : Int) (.slice a1 8 k1) (.slice a2 8 k2) (.slice none 0 0) ∧ TS (w2.setCell ⟨w.heap.size + 1, 2, none⟩ (.slice a2 8 k2)) (.slice a1 8 k1) g1 L1 ∧ TS (w2.setCell ⟨w.heap.size + 1, 2, none⟩ (.slice a2 8 k2)) (.slice a2 8 k2) g2 L2) :=
    ⟨⟨hA2.1.keptG hgr2 (by simp), hA2.2.1.set2 (.slice a2 8 k2), hA2.2.2.setCell (p := ⟨w.heap.size + 1, 2, none⟩) (by simp) _⟩, ht12.keptG hgr2 (fun _ => by simp; omega), hts2.keptG hgr2 (fun _ => by simp; omega)⟩
  have hsz2 : (w2.setCell ⟨w.heap.size + 1, 2, none⟩ (.slice a2 8 k2)).heap.size = w2.heap.size := by simp
  clear hA2 hos2 hts2 ht12 hgr2 HC2 HA1 hsz1 c1 f1
  go_wp2_with fail
  refine (HC3.out _).mono ?_
  rintro e w3 ⟨V3, rfl, hos3⟩
  obtain ⟨a3, k3, hv3⟩ := own_slice hos3.1
  rw [HLN.out.2.2] at hv3
  subst hv3
  have hA3 := HA2.out.1.later hos3.2.1
  have ht13 := HA2.out.2.1.later hos3.2.1
  have ht23 := HA2.out.2.2.later hos3.2.1
  have c3 := hA3.2.1.c3
  have f3 := hA3.2.1.fr 3
  obtain ⟨g3, hts3, hg3⟩ := hos3.ts (by rw [HLN.out.2.2]; omega)
  rw [hsz2] at hg3
  have hgr3 := grown_set w3 (w.heap.size + 1) 3 (.slice a3 4 k3)
  have HA3 : Hid (SrH w (w3.setCell ⟨w.heap.size + 1, 3, none⟩ (.slice a3 4 k3)) (b.toNat : Int) (.slice a1 8 k1) (.slice a2 8 k2) (.slice a3 4 k3) ∧ TS (w3.setCell ⟨w.heap.size + 1, 3, none⟩ (.slice a3 4 k3)) (.slice a1 8 k1) g1 L1 ∧ TS (w3.setCell ⟨w.heap.size + 1, 3, none⟩ (.slice a3 4 k3)) (.slice a2 8 k2) g2 L2 ∧ TS (w3.setCell ⟨w.heap.size + 1, 3, none⟩ (.slice a3 4 k3)) (.slice a3 4 k3) g3 L3) :=
    ⟨⟨hA3.1.keptG hgr3 (by simp), hA3.2.1.set3 (.slice a3 4 k3), hA3.2.2.setCell (p := ⟨w.heap.size + 1, 3, none⟩) (by simp) _⟩, ht13.keptG hgr3 (fun _ => by simp; omega), ht23.keptG hgr3 (fun _ => by simp; omega), hts3.keptG hgr3 (fun _ => by simp; omega)⟩
  clear hA3 hos3 hts3 ht13 ht23 hgr3 HC3 HA2 hsz2 c2 f2
  go_wp2_with (first | (refine wp_loadSig rfl _ rfl (w.heap.size + 1) _ (.slice a1 8 k1) (.slice a2 8 k2) (.slice a3 4 k3) rfl HA3.out.1.2.1 ?_) | (refine wp_storeSig rfl _ _ rfl w.heap.size 0 _ _ _ _ (.slice a1 8 k1) (.slice a2 8 k2) (.slice a3 4 k3) HA3.out.1.1 rfl rfl rfl rfl rfl ?_; intro hfin))
  refine ret_sig2 2 3 w.heap.size _ _ _ _ _ rfl rfl rfl rfl hfin ?_
  obtain ⟨⟨_, _, b3⟩, hts1, hts2, hts3⟩ := HA3.out
  have hgr := grown_setRow (w3.setCell ⟨w.heap.size + 1, 3, none⟩ (.slice a3 4 k3)) w.heap.size #[.int .i64 (b.toNat : Int), (.slice a1 8 k1), (.slice a2 8 k2), (.slice a3 4 k3)]
  refine ⟨_, rfl, ⟨(.slice a1 8 k1), (.slice a2 8 k2), (.slice a3 4 k3), g1, g2, g3, rfl, ⟨hts1.keptG hgr (fun _ => ?_), hts2.keptG hgr (fun _ => ?_), hts3.keptG hgr (fun _ => ?_)⟩, ⟨by omega, by omega, by omega⟩, ⟨by omega, by omega, by omega⟩⟩, b3.grown hgr b3.size (fun k hk => by simp at hk; omega)⟩
  · simp; omega
  · simp; omega
  · simp; omega

theorem sReadSig_any (t : ByteArray) (w : World) (ht : t.size ≤ 1048576) :
    Calls Tryd.prog 61 #[.string t] w fun e w' => ∃ v, e = .returned (.tuple #[v, .bool (rsOk t)]) ∧ SigIn w' w.heap.size v (rsA t) (rsO t) (rsS t) (rsD t) ∧ Below w.heap.size w w' := by
  unfold rsA rsO rsS rsD
  by_cases h : t.size = 321 ∧ (b0 t).toNat ≤ 15
  · have e : rsOk t = true := decide_eq_true h
    rw [e]
    exact sReadSig_yes t w h.1 h.2
  · have e : rsOk t = false := decide_eq_false h
    rw [e]
    exact sReadSig_no t w ht h

end Go.Proofs.YthkknckpippjhaaDoor
/-
  What the laws' own helpers do with signatures: measured, taken over, compared, marked, held.
-/
namespace Go.Proofs.YthkknckpippjhaaDoor
open Go.RowKit Go.BigFrame
set_option linter.unusedVariables false

def SzT (n : Nat) (w : World) (x i : Value) (wr : World) : Prop := ∃ (m : Nat) (y : Int), m ≤ n ∧ i = .int .i64 m ∧ x = .int .i64 y ∧ (0 ≤ y ∧ y ≤ 1048576) ∧ wr = w

set_option maxRecDepth 100000 in
set_option maxHeartbeats 400000 in
theorem szS_row (a : Option Addr) (n cap : Nat) (ss : List ByteArray) (x : Int) (w : World) (hr : IsRowS w a n cap ss) (h0 : 0 ≤ x) (hx : x ≤ 1048576) :
    Calls Tryd.prog 27 #[.slice a n cap, .int .i64 x] w fun e w' => (∃ A : Int, e = .returned (.int .i64 A) ∧ (-1 ≤ A ∧ A ≤ 1048576) ∧ (0 ≤ A → n ≤ 1048576)) ∧ w' = w := by
  have hm := hr.len
  unfold maxLen at hm
  by_cases hb : x < (n : Int)
  · have q : (x - (n : Int) < 0) := by omega
    go_enter Tryd.func27, Tryd.ntmps27
    go_wp2
    go_ret
    exact ⟨⟨-1, rfl, by omega, fun h => by omega⟩, rfl⟩
  · obtain ⟨g, o, l, hl, hs, hz⟩ := ss_of_row hr (by omega)
    obtain ⟨a', cap', hv, _, hA, hc⟩ := hs
    rw [hl] at hv
    simp at hv
    obtain ⟨rfl, rfl⟩ := hv
    have HA : Hid (0 < n → a = some ⟨g, o, none⟩) := by rw [← hl]; exact hA
    have HC : Hid (∀ j (h : j < n), ∃ X : ByteArray, X.size ≤ 9223372036854775807 ∧ w.cell? ⟨g, o + j, none⟩ = some (.string X)) := fun j hj =>
      ⟨l[j]'(by omega), by have := hz (l[j]'(by omega)) (List.getElem_mem _); unfold maxLen at this; omega, hc j (by omega)⟩
    have HST : Hid (SzT n w (.int .i64 (x - (n : Int))) (.int .i64 0) w) := ⟨0, _, by omega, rfl, rfl, by omega, rfl⟩
    have q : ¬ (x - (n : Int) < 0) := by omega
    clear hA hc hl hz hr
    go_enter Tryd.func27, Tryd.ntmps27
    go_wp2
    go_loopw [1, 5] (fun x i wr => SzT n w x i wr) (fun _ i _ => n - (intOf i).toNat)
    case atStart => exact HST.out
    case round =>
      obtain ⟨m, y, hmn, rfl, rfl, hy, rfl⟩ := hrel
      clear HST
      by_cases hlt : m < n
      · obtain ⟨X, hX, c0⟩ := HC.out m hlt
        have ea := HA.out (by omega)
        subst ea
        have i1 : (m : Int) < (n : Int) := by omega
        have i2 : (0 : Int) ≤ (m : Int) := by omega
        clear HC HA
        by_cases hx : y - (X.size : Int) < 0
        · go_wp2
          go_ret
          exact ⟨⟨-1, rfl, by omega, fun h => by omega⟩, rfl⟩
        · go_wp2
          go_roundw
          case rel => exact ⟨m + 1, _, by omega, by go_num, rfl, by omega, rfl⟩
          case measure => simp [intOf]; omega
      · have hme : m = n := by omega
        subst hme
        clear HC HA
        go_wp2
        go_ret
        exact ⟨⟨y, rfl, by omega, fun h => by omega⟩, rfl⟩

set_option maxRecDepth 100000 in
set_option maxHeartbeats 1000000 in
theorem szSig_row (a : Int) (a1 a2 a3 : Option Addr) (n1 n2 n3 k1 k2 k3 : Nat) (z1 z2 z3 : List ByteArray) (w : World) (h1 : IsRowS w a1 n1 k1 z1) (h2 : IsRowS w a2 n2 k2 z2) (h3 : IsRowS w a3 n3 k3 z3) :
    Calls Tryd.prog 38 #[.agg #[.int .i64 a, .slice a1 n1 k1, .slice a2 n2 k2, .slice a3 n3 k3], .int .i64 1048576] w fun e w' => ∃ A : Int, e = .returned (.int .i64 A) ∧ Below w.heap.size w w' ∧ (0 ≤ A → n1 ≤ 1048576 ∧ n2 ≤ 1048576 ∧ n3 ≤ 1048576) := by
  have hrow : ∀ (x : Option Addr) (n k : Nat) (z : List ByteArray), IsRowS w x n k z → IsRowS (w.alloc (.cells #[.int .i64 a, .slice a1 n1 k1, .slice a2 n2 k2, .slice a3 n3 k3] 43)) x n k z := by
    intro x n k z h
    rcases h with h | ⟨p, rfl, hl, hm, hlz, hc, hz⟩
    · exact .inl h
    · refine .inr ⟨p, rfl, hl, hm, hlz, fun i hi => ?_, hz⟩
      have h4 := hc i hi
      have hlt : (p.add i).block < w.heap.size := by
        rcases Nat.lt_or_ge (p.add i).block w.heap.size with h5 | h5
        · exact h5
        · simp [World.cell?, Array.getElem?_eq_none h5] at h4
      exact (((Below.refl w.heap.size w).alloc (Nat.le_refl _) _).cell hlt).trans h4
  have H1 : Hid (∀ x : Int, 0 ≤ x → x ≤ 1048576 → Calls Tryd.prog 27 #[.slice a1 n1 k1, .int .i64 x] (w.alloc (.cells #[.int .i64 a, .slice a1 n1 k1, .slice a2 n2 k2, .slice a3 n3 k3] 43)) fun e w' => (∃ A : Int, e = .returned (.int .i64 A) ∧ (-1 ≤ A ∧ A ≤ 1048576) ∧ (0 ≤ A → n1 ≤ 1048576)) ∧ w' = (w.alloc (.cells #[.int .i64 a, .slice a1 n1 k1, .slice a2 n2 k2, .slice a3 n3 k3] 43))) := fun x h0 hx => szS_row a1 n1 k1 z1 x _ (hrow _ _ _ _ h1) h0 hx
  have H2 : Hid (∀ x : Int, 0 ≤ x → x ≤ 1048576 → Calls Tryd.prog 27 #[.slice a2 n2 k2, .int .i64 x] (w.alloc (.cells #[.int .i64 a, .slice a1 n1 k1, .slice a2 n2 k2, .slice a3 n3 k3] 43)) fun e w' => (∃ A : Int, e = .returned (.int .i64 A) ∧ (-1 ≤ A ∧ A ≤ 1048576) ∧ (0 ≤ A → n2 ≤ 1048576)) ∧ w' = (w.alloc (.cells #[.int .i64 a, .slice a1 n1 k1, .slice a2 n2 k2, .slice a3 n3 k3] 43))) := fun x h0 hx => szS_row a2 n2 k2 z2 x _ (hrow _ _ _ _ h2) h0 hx
  have H3 : Hid (∀ x : Int, 0 ≤ x → x ≤ 1048576 → Calls Tryd.prog 27 #[.slice a3 n3 k3, .int .i64 x] (w.alloc (.cells #[.int .i64 a, .slice a1 n1 k1, .slice a2 n2 k2, .slice a3 n3 k3] 43)) fun e w' => (∃ A : Int, e = .returned (.int .i64 A) ∧ (-1 ≤ A ∧ A ≤ 1048576) ∧ (0 ≤ A → n3 ≤ 1048576)) ∧ w' = (w.alloc (.cells #[.int .i64 a, .slice a1 n1 k1, .slice a2 n2 k2, .slice a3 n3 k3] 43))) := fun x h0 hx => szS_row a3 n3 k3 z3 x _ (hrow _ _ _ _ h3) h0 hx
  have HB : Hid (Below w.heap.size w (w.alloc (.cells #[.int .i64 a, .slice a1 n1 k1, .slice a2 n2 k2, .slice a3 n3 k3] 43))) := (Below.refl _ _).alloc (Nat.le_refl _) _
  clear hrow h1 h2 h3
  go_enter Tryd.func38, Tryd.ntmps38
  go_wp2_with fail
  refine (H1.out _ (by omega) (by omega)).mono ?_
  rintro e w' ⟨⟨A1, rfl, hA1, HN1⟩, rfl⟩
  by_cases hn1 : A1 < 0
  · go_wp2
    go_ret
    exact ⟨-1, rfl, HB.out, fun h => by omega⟩
  · go_wp2_with fail
    refine (H2.out _ (by omega) (by omega)).mono ?_
    rintro e w' ⟨⟨A2, rfl, hA2, HN2⟩, rfl⟩
    by_cases hn2 : A2 < 0
    · go_wp2
      go_ret
      exact ⟨-1, rfl, HB.out, fun h => by omega⟩
    · go_wp2_with fail
      refine (H3.out _ (by omega) (by omega)).mono ?_
      rintro e w' ⟨⟨A3, rfl, hA3, HN3⟩, rfl⟩
      by_cases hn3 : A3 < 0
      · go_wp2
        go_ret
        exact ⟨-1, rfl, HB.out, fun h => by omega⟩
      · have K := And.intro (HN1 (by omega)) (And.intro (HN2 (by omega)) (HN3 (by omega)))
        clear HN1 HN2 HN3
        go_wp2
        go_ret
        exact ⟨A3, rfl, HB.out, fun _ => K⟩

set_option maxRecDepth 100000 in
set_option maxHeartbeats 1000000 in
theorem eqSig_yes (a : Int) (v1 v2 v3 u1 u2 u3 : Value) (g1 o1 g2 o2 g3 o3 p1 q1 p2 q2 p3 q3 : Nat) (o s d : List ByteArray) (w : World) (h1 : SS w v1 g1 o1 o) (h2 : SS w v2 g2 o2 s) (h3 : SS w v3 g3 o3 d) (k1 : SS w u1 p1 q1 o) (k2 : SS w u2 p2 q2 s) (k3 : SS w u3 p3 q3 d) :
    Calls Tryd.prog 35 #[.agg #[.int .i64 a, v1, v2, v3], .agg #[.int .i64 a, u1, u2, u3]] w fun e w' => e = .returned (.bool true) ∧ Below w.heap.size w w' := by
  have H1 : Hid (∀ W, Below w.heap.size w W → Calls Tryd.prog 24 #[v1, u1] W fun e w' => e = .returned (.bool true) ∧ ∃ q, w' = W.drewN q) := fun W hW => eqStringS_yes v1 u1 g1 o1 p1 q1 o W (h1.below hW h1.lt) (k1.below hW k1.lt)
  have H2 : Hid (∀ W, Below w.heap.size w W → Calls Tryd.prog 24 #[v2, u2] W fun e w' => e = .returned (.bool true) ∧ ∃ q, w' = W.drewN q) := fun W hW => eqStringS_yes v2 u2 g2 o2 p2 q2 s W (h2.below hW h2.lt) (k2.below hW k2.lt)
  have H3 : Hid (∀ W, Below w.heap.size w W → Calls Tryd.prog 24 #[v3, u3] W fun e w' => e = .returned (.bool true) ∧ ∃ q, w' = W.drewN q) := fun W hW => eqStringS_yes v3 u3 g3 o3 p3 q3 d W (h3.below hW h3.lt) (k3.below hW k3.lt)
  have HB : Hid (∀ x y : Obj, Below w.heap.size w ((w.alloc x).alloc y)) := fun x y => ((Below.refl _ _).alloc (Nat.le_refl _) _).alloc (by simp) _
  obtain ⟨_, _, rfl, x1, y1⟩ := h1
  obtain ⟨_, _, rfl, x2, y2⟩ := h2
  obtain ⟨_, _, rfl, x3, y3⟩ := h3
  obtain ⟨_, _, rfl, x4, y4⟩ := k1
  obtain ⟨_, _, rfl, x5, y5⟩ := k2
  obtain ⟨_, _, rfl, x6, y6⟩ := k3
  clear x1 x2 x3 x4 x5 x6 y1 y2 y3 y4 y5 y6
  generalize o.length = n1 at *
  generalize s.length = n2 at *
  generalize d.length = n3 at *
  go_enter Tryd.func35, Tryd.ntmps35
  go_wp2_with fail
  refine (H1.out _ (HB.out _ _)).mono ?_
  rintro e w' ⟨rfl, q1, rfl⟩
  go_wp2_with fail
  refine (H2.out _ (below_drn (HB.out _ _) _)).mono ?_
  rintro e w' ⟨rfl, q2, rfl⟩
  go_wp2_with fail
  refine (H3.out _ (below_drn (HB.out _ _) _)).mono ?_
  rintro e w' ⟨rfl, q3, rfl⟩
  go_wp2
  go_ret
  exact ⟨rfl, below_drn (HB.out _ _) _⟩

/-- behind what was written into three rows alone -/
def Grown3 (w w' : World) (r1 r2 r3 : Option Nat) : Prop := ∃ wa wb, w.grownBy wa r1 ∧ wa.grownBy wb r2 ∧ wb.grownBy w' r3
theorem Grown3.ts {w w' : World} {r1 r2 r3 : Option Nat} {g : Nat} {v : Value} {l : List ByteArray} (h : Grown3 w w' r1 r2 r3) (ht : TS w v g l) (hn : 0 < l.length → some g ≠ r1 ∧ some g ≠ r2 ∧ some g ≠ r3) : TS w' v g l := by
  obtain ⟨wa, wb, ha, hb, hc⟩ := h
  exact ((ht.keptG ha (fun h => (hn h).1)).keptG hb (fun h => (hn h).2.1)).keptG hc (fun h => (hn h).2.2)
theorem Grown3.below {B : Nat} {w0 w w' : World} {r1 r2 r3 : Option Nat} (h : Grown3 w w' r1 r2 r3) (hb : Below B w0 w) (hB : B ≤ w.heap.size) (h1 : ∀ k, r1 = some k → B ≤ k) (h2 : ∀ k, r2 = some k → B ≤ k) (h3 : ∀ k, r3 = some k → B ≤ k) : Below B w0 w' := by
  obtain ⟨wa, wb, ha, hb2, hc⟩ := h
  have hB1 : B ≤ wa.heap.size := Nat.le_trans hB ha.size
  exact ((hb.grown ha hB h1).grown hb2 hB1 h2).grown hc (Nat.le_trans hB1 hb2.size) h3
theorem Grown3.size {w w' : World} {r1 r2 r3 : Option Nat} (h : Grown3 w w' r1 r2 r3) : w.heap.size ≤ w'.heap.size := by
  obtain ⟨wa, wb, ha, hb2, hc⟩ := h
  exact Nat.le_trans ha.size (Nat.le_trans hb2.size hc.size)
theorem rowOf_le {B g : Nat} {l : List ByteArray} (h : B ≤ g) : ∀ k, rowOf g l = some k → B ≤ k := by
  intro k hk
  unfold rowOf at hk
  split at hk
  · cases hk
  · simp at hk
    omega

set_option maxRecDepth 100000 in
set_option maxHeartbeats 1000000 in
theorem markSig_any (a : Int) (v1 v2 v3 : Value) (g1 g2 g3 : Nat) (o s d : List ByteArray) (w : World) (h1 : TS w v1 g1 o) (h2 : TS w v2 g2 s) (h3 : TS w v3 g3 d) (d12 : g1 ≠ g2) (d13 : g1 ≠ g3) (d23 : g2 ≠ g3) :
    Calls Tryd.prog 36 #[.agg #[.int .i64 a, v1, v2, v3], .int .i64 1] w fun e w' => e = .returned (.int .i64 (1 + o.length + s.length + d.length : Nat)) ∧ TS w' v1 g1 (marks 1 o.length) ∧ TS w' v2 g2 (marks (1 + o.length) s.length) ∧ TS w' v3 g3 (marks (1 + o.length + s.length) d.length) ∧ Grown3 w w' (rowOf g1 o) (rowOf g2 s) (rowOf g3 d) := by
  have l1 := h1.len
  have l2 := h2.len
  have l3 := h3.len
  have hB : Below w.heap.size w (w.alloc (.cells #[.int .i64 a, v1, v2, v3] 37)) := (Below.refl _ _).alloc (Nat.le_refl _) _
  have HT : Hid (TS (w.alloc (.cells #[.int .i64 a, v1, v2, v3] 37)) v1 g1 o ∧ TS (w.alloc (.cells #[.int .i64 a, v1, v2, v3] 37)) v2 g2 s ∧ TS (w.alloc (.cells #[.int .i64 a, v1, v2, v3] 37)) v3 g3 d ∧ SgM (w.alloc (.cells #[.int .i64 a, v1, v2, v3] 37)) w.heap.size a v1 v2 v3) := ⟨h1.later hB, h2.later hB, h3.later hB, SgM.new w a v1 v2 v3⟩
  have HB : Hid (Below w.heap.size w (w.alloc (.cells #[.int .i64 a, v1, v2, v3] 37))) := hB
  have HN : Hid ((0 < o.length → w.heap.size ≠ g1) ∧ (0 < s.length → w.heap.size ≠ g2) ∧ (0 < d.length → w.heap.size ≠ g3)) := ⟨fun h => by have := h1.lt h; omega, fun h => by have := h2.lt h; omega, fun h => by have := h3.lt h; omega⟩
  obtain ⟨a1, c1, rfl, _, x1⟩ := h1
  obtain ⟨a2, c2, rfl, _, x2⟩ := h2
  obtain ⟨a3, c3, rfl, _, x3⟩ := h3
  clear hB x1 x2 x3
  go_enter Tryd.func36, Tryd.ntmps36
  go_wp2_with fail
  refine (markStringS_any _ g1 o _ 1 _ rfl HT.out.1 (by omega) (by omega)).mono ?_
  rintro e wa ⟨rfl, ha1, hga⟩
  have ha2 := HT.out.2.1.keptG hga (fun _ => rowOf_ne (fun _ => d12.symm))
  have ha3 := HT.out.2.2.1.keptG hga (fun _ => rowOf_ne (fun _ => d13.symm))
  have hsa := HT.out.2.2.2.keptG hga (rowOf_ne HN.out.1)
  have e2 := hsa.c2
  have HG1 : Hid (w.grownBy wa (rowOf g1 o)) := (grown_below HB.out).trans hga
  have HA : Hid (TS wa (.slice a1 o.length c1) g1 (marks 1 o.length) ∧ TS wa (.slice a2 s.length c2) g2 s ∧ TS wa (.slice a3 d.length c3) g3 d ∧ SgM wa w.heap.size a (.slice a1 o.length c1) (.slice a2 s.length c2) (.slice a3 d.length c3)) := ⟨ha1, ha2, ha3, hsa⟩
  clear ha1 ha2 ha3 hsa hga HT HB
  go_wp2_with fail
  refine (markStringS_any _ g2 s _ (1 + o.length) _ rfl HA.out.2.1 (by omega) (by omega)).mono ?_
  rintro e wb ⟨rfl, hb2, hgb⟩
  have hb1 := HA.out.1.keptG hgb (fun _ => rowOf_ne (fun _ => d12))
  have hb3 := HA.out.2.2.1.keptG hgb (fun _ => rowOf_ne (fun _ => d23.symm))
  have hsb := HA.out.2.2.2.keptG hgb (rowOf_ne HN.out.2.1)
  have e3 := hsb.c3
  have HG2 : Hid (wa.grownBy wb (rowOf g2 s)) := hgb
  have HA2 : Hid (TS wb (.slice a1 o.length c1) g1 (marks 1 o.length) ∧ TS wb (.slice a2 s.length c2) g2 (marks (1 + o.length) s.length) ∧ TS wb (.slice a3 d.length c3) g3 d) := ⟨hb1, hb2, hb3⟩
  clear hb1 hb2 hb3 hsb hgb HA e2
  go_wp2_with fail
  refine (markStringS_any _ g3 d _ (1 + o.length + s.length) _ rfl HA2.out.2.2 (by omega) (by omega)).mono ?_
  rintro e wc ⟨rfl, hc3, hgc⟩
  have hc1 := HA2.out.1.keptG hgc (fun _ => rowOf_ne (fun _ => d13))
  have hc2 := HA2.out.2.1.keptG hgc (fun _ => rowOf_ne (fun _ => d23))
  clear e3
  go_wp2
  go_ret
  exact ⟨rfl, hc1, hc2, hc3, wa, wb, HG1.out, HG2.out, hgc⟩

set_option maxRecDepth 100000 in
set_option maxHeartbeats 1000000 in
theorem heldSig_any (a : Int) (v1 v2 v3 : Value) (g1 g2 g3 n1 n2 n3 : Nat) (w : World) (h1 : TS w v1 g1 (marks 1 n1)) (h2 : TS w v2 g2 (marks (1 + n1) n2)) (h3 : TS w v3 g3 (marks (1 + n1 + n2) n3)) :
    Calls Tryd.prog 37 #[.agg #[.int .i64 a, v1, v2, v3], .int .i64 1] w fun e w' => e = .returned (.int .i64 (1 + n1 + n2 + n3 : Nat)) ∧ Below w.heap.size w w' := by
  have l1 := h1.len
  have l2 := h2.len
  have l3 := h3.len
  rw [marks_len] at l1 l2 l3
  have H1 : Hid (∀ W, Below w.heap.size w W → TS W v1 g1 (marks 1 n1) ∧ TS W v2 g2 (marks (1 + n1) n2) ∧ TS W v3 g3 (marks (1 + n1 + n2) n3)) := fun W hW => ⟨h1.later hW, h2.later hW, h3.later hW⟩
  have hB : Below w.heap.size w (w.alloc (.cells #[.int .i64 a, v1, v2, v3] 37)) := (Below.refl _ _).alloc (Nat.le_refl _) _
  have HB : Hid (Below w.heap.size w (w.alloc (.cells #[.int .i64 a, v1, v2, v3] 37)) ∧ SgM (w.alloc (.cells #[.int .i64 a, v1, v2, v3] 37)) w.heap.size a v1 v2 v3) := ⟨hB, SgM.new w a v1 v2 v3⟩
  obtain ⟨a1, c1, rfl, _, x1⟩ := h1
  obtain ⟨a2, c2, rfl, _, x2⟩ := h2
  obtain ⟨a3, c3, rfl, _, x3⟩ := h3
  rw [marks_len, marks_len, marks_len] at *
  clear hB x1 x2 x3
  go_enter Tryd.func37, Tryd.ntmps37
  go_wp2_with fail
  refine (heldStringS_any _ g1 _ 1 n1 _ rfl (H1.out _ HB.out.1).1 (by omega) (by omega)).mono ?_
  rintro e wa ⟨rfl, hba⟩
  have ba := HB.out.1.trans (hba.mono HB.out.1.size)
  have hsa := HB.out.2.later hba
  have e2 := hsa.c2
  have HA : Hid (Below w.heap.size w wa ∧ SgM wa w.heap.size a (.slice a1 n1 c1) (.slice a2 n2 c2) (.slice a3 n3 c3)) := ⟨ba, hsa⟩
  have q1 : ¬ (((1 + n1 : Nat) : Int) < 0) := by omega
  clear ba hsa hba HB
  go_wp2_with fail
  refine (heldStringS_any _ g2 _ (1 + n1) n2 _ rfl (H1.out _ HA.out.1).2.1 (by omega) (by omega)).mono ?_
  rintro e wb ⟨rfl, hbb⟩
  have bb := HA.out.1.trans (hbb.mono HA.out.1.size)
  have e3 := (HA.out.2.later hbb).c3
  have q2 : ¬ (((1 + n1 + n2 : Nat) : Int) < 0) := by omega
  clear hbb HA e2
  go_wp2_with fail
  refine (heldStringS_any _ g3 _ (1 + n1 + n2) n3 _ rfl (H1.out _ bb).2.2 (by omega) (by omega)).mono ?_
  rintro e wc ⟨rfl, hbc⟩
  have q3 : ¬ (((1 + n1 + n2 + n3 : Nat) : Int) < 0) := by omega
  clear e3
  go_wp2
  go_ret
  exact ⟨rfl, bb.trans (hbc.mono bb.size)⟩

end Go.Proofs.YthkknckpippjhaaDoor
/-
  The walk of the law FnExactReadSig: it answers true of every text.
-/
namespace Go.Proofs.YthkknckpippjhaaDoor
open Go.RowKit Go.BigFrame
set_option linter.unusedVariables false

/-- block p is a signature, and its lists lie so -/
def WSg (W : World) (p : Nat) (a : Int) (v1 v2 v3 : Value) (g1 g2 g3 : Nat) (o s d : List ByteArray) : Prop := SgM W p a v1 v2 v3 ∧ TS W v1 g1 o ∧ TS W v2 g2 s ∧ TS W v3 g3 d
theorem WSg.later {W W' : World} {p : Nat} {a : Int} {v1 v2 v3 : Value} {g1 g2 g3 : Nat} {o s d : List ByteArray} (h : WSg W p a v1 v2 v3 g1 g2 g3 o s d) (hb : Below W.heap.size W W') : WSg W' p a v1 v2 v3 g1 g2 g3 o s d :=
  ⟨h.1.later hb, h.2.1.later hb, h.2.2.1.later hb, h.2.2.2.later hb⟩
theorem WSg.alloc {W : World} {p : Nat} {a : Int} {v1 v2 v3 : Value} {g1 g2 g3 : Nat} {o s d : List ByteArray} (h : WSg W p a v1 v2 v3 g1 g2 g3 o s d) (x : Obj) : WSg (W.alloc x) p a v1 v2 v3 g1 g2 g3 o s d := h.later ((Below.refl _ _).alloc (Nat.le_refl _) _)
theorem SgM.keptG3 {w w' : World} {g : Nat} {r1 r2 r3 : Option Nat} {a : Int} {v1 v2 v3 : Value} (h : SgM w g a v1 v2 v3) (hg : Grown3 w w' r1 r2 r3) (h1 : some g ≠ r1) (h2 : some g ≠ r2) (h3 : some g ≠ r3) : SgM w' g a v1 v2 v3 := by
  obtain ⟨wa, wb, ha, hb, hc⟩ := hg
  exact ((h.keptG ha h1).keptG hb h2).keptG hc h3
theorem TS.shape {w : World} {v : Value} {g : Nat} {l : List ByteArray} (h : TS w v g l) : ∃ a c, v = .slice a l.length c := by
  obtain ⟨a, c, hv, _⟩ := h
  exact ⟨a, c, hv⟩
theorem WSg.new (W : World) (a : Int) (v1 v2 v3 : Value) (g1 g2 g3 : Nat) (o s d : List ByteArray) (h1 : TS W v1 g1 o) (h2 : TS W v2 g2 s) (h3 : TS W v3 g3 d) : WSg (W.alloc (.cells #[.int .i64 a, v1, v2, v3] 37)) W.heap.size a v1 v2 v3 g1 g2 g3 o s d := by
  have hb : Below W.heap.size W (W.alloc (.cells #[.int .i64 a, v1, v2, v3] 37)) := (Below.refl _ _).alloc (Nat.le_refl _) _
  exact ⟨SgM.new W a v1 v2 v3, h1.later hb, h2.later hb, h3.later hb⟩

end Go.Proofs.YthkknckpippjhaaDoor
