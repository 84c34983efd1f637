/-
  Texts laid together: Dd, Mk.
-/
import Derived.Test.YtkgibgadngeddabDoorRows
import Derived.WalkKit
import Derived.Lib.ItoaMem
import Derived.Test.YtkgibgadngeddabDoorPkEST17
import Derived.Deep.RegionHeld3
/-
  What the specification's Decimal answers: the numeral that strconv.Itoa's own contract names.
-/
namespace Go.Proofs.YtkgibgadngeddabDoor.D
open Go.RowKit
set_option linter.unusedVariables false

def fig (x : Nat) : UInt8 := UInt8.ofNat (48 + x)

def decR : Nat → Nat → List UInt8
  | 0, _ => []
  | f + 1, n => if n = 0 then [] else decR f (n / 10) ++ [fig (n % 10)]

theorem decR_digits : ∀ (f n : Nat), 0 < n → n < 10 ^ f → decR f n = Lib.decDigits n := by
  intro f
  induction f with
  | zero => intro n h0 h; simp at h; omega
  | succ f ih =>
    intro n h0 h
    rw [decR, if_neg (by omega)]
    by_cases hs : n < 10
    · rw [Lib.decDigits_one hs]
      have e1 : n / 10 = 0 := by omega
      have e2 : n % 10 = n := by omega
      rw [e1, e2]
      have e3 : decR f 0 = [] := by cases f <;> simp [decR]
      rw [e3]
      rfl
    · rw [Lib.decDigits, dif_neg hs, ih (n / 10) (by omega) (by rw [Nat.pow_succ] at h; omega)]
      rfl

theorem fig_nat (x : Nat) (h : x < 10) : (fig x).toNat = 48 + x := by
  unfold fig
  simp
  omega

theorem one_str (w : World) (b : UInt8) : (convert 51 9 (.slice (some ⟨w.heap.size, 0, none⟩) 1 1)).run Tryd.prog (w.alloc (.cells #[.int .u8 (b.toNat : Int)] 5)) = .ok (.string ⟨[b].toArray⟩) (w.alloc (.cells #[.int .u8 (b.toNat : Int)] 5)) := by
  refine run_convert_bytes_back (P := Tryd.prog) _ 51 9 5 ⟨w.heap.size, 0, none⟩ 1 [b] Tryd.underlying51 Tryd.underlying5 Tryd.underlying9 ?_
  intro j hj
  have h0 : j = 0 := by simpa using hj
  subst h0
  simp [Addr.add]

/-- one figure ahead of a text -/
def consB (b : UInt8) (t : ByteArray) : ByteArray := ⟨[b].toArray⟩ ++ t
theorem consB_list (b : UInt8) (t : ByteArray) : (consB b t).data.toList = b :: t.data.toList := by
  unfold consB
  simp
theorem consB_size (b : UInt8) (t : ByteArray) : (consB b t).size = t.size + 1 := by
  unfold consB
  rw [ByteArray.size_append]
  show 1 + t.size = _
  omega

def itoaB (n : Int) : ByteArray := ⟨(Lib.itoa n).toArray⟩

def DecRel (sg : Int) (n : Nat) (w : World) (x s : Value) (wr : World) : Prop :=
  ∃ (m f : Nat) (t : ByteArray), m ≤ n ∧ x = .int .i64 (sg * m) ∧ s = .string t ∧ t.size + f = 20 ∧ Hid (m < 10 ^ f) ∧ Hid (decR f m ++ t.data.toList = decR 20 n) ∧ Below w.heap.size w wr

theorem dec_end {n m f : Nat} {t : ByteArray} (h0 : 0 < n) (hn : n < 10 ^ 20) (hm : m = 0) (h : decR f m ++ t.data.toList = decR 20 n) : t = ⟨(Lib.decDigits n).toArray⟩ := by
  have h2 : decR f m = [] := by rw [hm]; cases f <;> simp [decR]
  rw [h2, List.nil_append, decR_digits 20 n h0 hn] at h
  rw [← h]

theorem dec_step {n m f : Nat} {t : ByteArray} (hm : ¬ m = 0) (hF : m < 10 ^ f) (h : decR f m ++ t.data.toList = decR 20 n) : ∃ f', f = f' + 1 ∧ m / 10 < 10 ^ f' ∧ decR f' (m / 10) ++ (consB (fig (m % 10)) t).data.toList = decR 20 n := by
  cases f with
  | zero => simp at hF; omega
  | succ f =>
    refine ⟨f, rfl, by rw [Nat.pow_succ] at hF; omega, ?_⟩
    rw [decR, if_neg hm] at h
    rw [consB_list]
    simpa using h

end Go.Proofs.YtkgibgadngeddabDoor.D
/-
  What the laws' own helpers do: markText, markStringS, heldStringS, from any first number on.
-/
namespace Go.Proofs.YtkgibgadngeddabDoor
open Go.RowKit
set_option linter.unusedVariables false

theorem one_strI (w : World) (x : Int) (b : UInt8) (h : x = (b.toNat : Int)) : (convert 51 9 (.slice (some ⟨w.heap.size, 0, none⟩) 1 1)).run Tryd.prog (w.alloc (.cells #[.int .u8 x] 5)) = .ok (.string ⟨[b].toArray⟩) (w.alloc (.cells #[.int .u8 x] 5)) := by
  subst h
  exact D.one_str w b

def markB (k : Nat) : ByteArray := D.consB 109 ⟨(Lib.decDigits k).toArray⟩

def MkRel (n : Nat) (w : World) (x s : Value) (wr : World) : Prop :=
  ∃ (m f : Nat) (t : ByteArray), m ≤ n ∧ x = .int .i64 m ∧ s = .string t ∧ t.size + f = 20 ∧ Hid (m < 10 ^ f) ∧ Hid (D.decR f m ++ t.data.toList = D.decR 20 n) ∧ Below w.heap.size w wr

set_option maxRecDepth 100000 in
set_option maxHeartbeats 1000000 in
theorem markText_any (n : Nat) (w : World) (h0 : 0 < n) (hn : n ≤ 1000000000) :
    Calls Tryd.prog 26 #[.int .i64 n] w fun e w' => e = .returned (.string (markB n)) ∧ Below w.heap.size w w' := by
  have hsg : ¬ ((n : Int) ≤ 0) := by omega
  go_enter Tryd.func26, Tryd.ntmps26
  go_wp2
  go_loopw [0, 3] (fun x s wr => MkRel n w x s wr) (fun x _ _ => (intOf x).toNat)
  case atStart => exact ⟨n, 20, ⟨#[]⟩, Nat.le_refl _, rfl, rfl, rfl, by unfold Hid; omega, by unfold Hid; simp, Below.refl _ _⟩
  case round =>
    obtain ⟨m, f, t, hmn, rfl, rfl, htf, HF, HE, hbel⟩ := hrel
    by_cases hm : m = 0
    · have hmq : ¬ ((0 : Int) < (m : Int)) := by omega
      have HD : Hid (t = ⟨(Lib.decDigits n).toArray⟩) := D.dec_end h0 (by omega) hm HE.out
      have hts : t.size ≤ 20 := by omega
      clear hm
      go_wp2
      go_ret
      exact ⟨by unfold markB; rw [← HD.out]; rfl, hbel⟩
    · have hmq : (0 : Int) < (m : Int) := by omega
      have hm0 : 0 < m := by omega
      obtain ⟨f', rfl, hF2, hS⟩ := D.dec_step hm HF.out HE.out
      have HS : Hid (D.decR f' (m / 10) ++ (D.consB (D.fig (m % 10)) t).data.toList = D.decR 20 n) := hS
      have HF2 : Hid (m / 10 < 10 ^ f') := hF2
      have hfg := D.fig_nat (m % 10) (by omega)
      have hcv := one_strI wr (48 + (m : Int) % 10) (D.fig (m % 10)) (by rw [hfg]; omega)
      clear hS hF2 hm hfg
      go_wp2
      go_roundw
      case rel => exact ⟨m / 10, f', D.consB (D.fig (m % 10)) t, by omega, by go_num, rfl, by rw [D.consB_size]; omega, HF2, HS, hbel.alloc hbel.size _⟩
      case measure => simp [intOf] <;> omega

theorem markText_int (x : Int) (n : Nat) (w : World) (hx : x = (n : Int)) (h0 : 0 < n) (hn : n ≤ 1000000000) :
    Calls Tryd.prog 26 #[.int .i64 x] w fun e w' => e = .returned (.string (markB n)) ∧ Below w.heap.size w w' := by
  subst hx
  exact markText_any n w h0 hn

/-- n marks from k on -/
def marks (k n : Nat) : List ByteArray := (List.range n).map fun j => markB (k + j)
theorem marks_len (k n : Nat) : (marks k n).length = n := by simp [marks]
theorem marks_at (k n j : Nat) (h : j < (marks k n).length) : (marks k n)[j] = markB (k + j) := by simp [marks]
theorem marks_set (k : Nat) (l : List ByteArray) (m : Nat) (h : m < l.length) : (marks k m ++ l.drop m).set m (markB (k + m)) = marks k (m + 1) ++ l.drop (m + 1) := by
  have e : l.drop m = l[m] :: l.drop (m + 1) := List.drop_eq_getElem_cons h
  rw [e, List.set_append_right _ _ (by rw [marks_len]; exact Nat.le_refl _), marks_len, Nat.sub_self]
  simp only [List.set_cons_zero, marks, List.range_succ, List.map_append, List.map_cons, List.map_nil, List.append_assoc, List.cons_append, List.nil_append]

theorem grown_below {w w' : World} {row : Option Nat} (h : Below w.heap.size w w') : w.grownBy w' row := ⟨h.os, h.tape, h.output, h.size, fun k hk _ => h.block k hk⟩
theorem grown_refl (w : World) (row : Option Nat) : w.grownBy w row := grown_below (Below.refl _ _)
theorem TB.keptG {w w' : World} {g : Nat} {row : Option Nat} {l : List ByteArray} (h : TB w g l) (hg : w.grownBy w' row) (hne : some g ≠ row) : TB w' g l := by
  have hlt := h.lt
  obtain ⟨cur, h1, h2⟩ := h
  exact ⟨cur, by rw [hg.block g hlt hne]; exact h1, h2⟩

/-- a row of texts that may be written, at the head of block g -/
def TS (w : World) (v : Value) (g : Nat) (l : List ByteArray) : Prop :=
  ∃ a cap, v = .slice a l.length cap ∧ l.length ≤ 1100000 ∧ (0 < l.length → a = some ⟨g, 0, none⟩ ∧ TB w g l)
theorem TS.len {w : World} {v : Value} {g : Nat} {l : List ByteArray} (h : TS w v g l) : l.length ≤ 1100000 := by
  obtain ⟨a, cap, rfl, hl, _⟩ := h
  exact hl
theorem TS.ss {w : World} {v : Value} {g : Nat} {l : List ByteArray} (h : TS w v g l) : SS w v g 0 l := by
  obtain ⟨a, cap, rfl, hl, h2⟩ := h
  exact ⟨a, cap, rfl, by omega, fun h0 => (h2 h0).1, fun j hj => by rw [Nat.zero_add]; exact (h2 (by omega)).2.cell j hj⟩
theorem TS.keptG {w w' : World} {v : Value} {g : Nat} {row : Option Nat} {l : List ByteArray} (h : TS w v g l) (hg : w.grownBy w' row) (hne : 0 < l.length → some g ≠ row) : TS w' v g l := by
  obtain ⟨a, cap, rfl, hl, h2⟩ := h
  exact ⟨a, cap, rfl, hl, fun h0 => ⟨(h2 h0).1, (h2 h0).2.keptG hg (hne h0)⟩⟩
theorem TS.later {w w' : World} {v : Value} {g : Nat} {l : List ByteArray} (h : TS w v g l) (hb : Below w.heap.size w w') : TS w' v g l := h.keptG (row := none) (grown_below hb) (fun _ => by simp)
theorem TS.drewN {w : World} {v : Value} {g : Nat} {l : List ByteArray} (h : TS w v g l) (n : Nat) : TS (w.drewN n) v g l := h
theorem TS.lt {w : World} {v : Value} {g : Nat} {l : List ByteArray} (h : TS w v g l) : 0 < l.length → g < w.heap.size := by
  obtain ⟨a, cap, rfl, hl, h2⟩ := h
  exact fun h0 => (h2 h0).2.lt
theorem TB.ts {w : World} {g : Nat} {l : List ByteArray} (h : TB w g l) (n cap : Nat) (hn : l.length = n) (hl : n ≤ 1100000) : TS w (.slice (some ⟨g, 0, none⟩) n cap) g l := by
  subst hn
  exact ⟨_, _, rfl, hl, fun _ => ⟨rfl, h⟩⟩
theorem TS.nil (w : World) (g : Nat) : TS w (.slice none 0 0) g [] := ⟨_, _, rfl, by simp, fun h => absurd h (by simp)⟩
theorem OS.ts {B : Nat} {w0 w : World} {v : Value} {l : List ByteArray} (h : OS B w0 w v l) (hl : l.length ≤ 1100000) : ∃ g, TS w v g l ∧ B ≤ g := by
  rcases h.shape with ⟨rfl, rfl⟩ | ⟨g, cap, rfl, hg, _⟩
  · exact ⟨B, TS.nil w B, Nat.le_refl _⟩
  · exact ⟨g, h.tb.ts _ _ rfl hl, hg⟩

/-- the block of a row that is not empty -/
def rowOf (g : Nat) (l : List ByteArray) : Option Nat := if l.length = 0 then none else some g
theorem rowOf_some {g : Nat} {l : List ByteArray} (h : 0 < l.length) : rowOf g l = some g := if_neg (by omega)
theorem rowOf_ne {g k : Nat} {l : List ByteArray} (h : 0 < l.length → k ≠ g) : some k ≠ rowOf g l := by
  unfold rowOf
  split
  · simp
  · have := h (by omega)
    simpa using this

def MsRel (k0 : Nat) (w : World) (g : Nat) (l : List ByteArray) (x i : Value) (wr : World) : Prop :=
  ∃ k : Nat, k ≤ l.length ∧ i = .int .i64 k ∧ x = .int .i64 (k0 + k : Nat) ∧ (0 < l.length → TB wr g (marks k0 k ++ l.drop k)) ∧ w.grownBy wr (rowOf g l)

set_option maxRecDepth 100000 in
set_option maxHeartbeats 1000000 in
theorem markStringS_any (v : Value) (g : Nat) (l : List ByteArray) (x : Int) (k0 : Nat) (w : World) (hx : x = (k0 : Int)) (h : TS w v g l) (h0 : 0 < k0) (hk : k0 ≤ 10000000) :
    Calls Tryd.prog 11 #[v, .int .i64 x] w fun e w' => e = .returned (.int .i64 (k0 + l.length : Nat)) ∧ TS w' v g (marks k0 l.length) ∧ w.grownBy w' (rowOf g l) := by
  subst hx
  obtain ⟨a, cap, rfl, hl, h2⟩ := h
  obtain ⟨n, hn⟩ : ∃ n, l.length = n := ⟨_, rfl⟩
  have HA : Hid (0 < n → a = some ⟨g, 0, none⟩) := by rw [← hn]; exact fun h => (h2 h).1
  have HST : Hid (MsRel k0 w g l (.int .i64 k0) (.int .i64 0) w) := ⟨0, by omega, rfl, rfl, fun h => by simpa [marks] using (h2 h).2, grown_refl _ _⟩
  have HLN : Hid (l.length = n) := hn
  rw [hn] at hl ⊢
  clear h2
  go_enter Tryd.func11, Tryd.ntmps11
  go_wp2
  go_loopw [1, 5] (fun x i wr => MsRel k0 w g l x i wr) (fun _ i _ => n - (intOf i).toNat)
  case atStart => exact HST.out
  case round =>
    obtain ⟨k, hkn, rfl, rfl, htb, hgr⟩ := hrel
    rw [hn] at hkn
    clear HST
    by_cases hlt : k < n
    · have ea := HA.out (by omega)
      subst ea
      have htb := htb (by omega)
      have i1 : (k : Int) < (n : Int) := by omega
      have i2 : (0 : Int) ≤ (k : Int) := by omega
      clear hn
      go_wp2_with fail
      refine (markText_int _ (k0 + k) _ (by omega) (by omega) (by omega)).mono ?_
      rintro e w1 ⟨rfl, hb1⟩
      have htb1 := htb.below hb1 htb.lt
      have hll : (marks k0 k ++ l.drop k).length = n := by rw [List.length_append, marks_len, List.length_drop, HLN.out]; omega
      have c0 := htb1.cell k (by omega)
      have f0 := htb1.frozen k
      have hs := htb1.set k (by omega) (markB (k0 + k))
      rw [marks_set k0 l k (by rw [HLN.out]; omega)] at hs
      have HO : Hid (TB (w1.setCell ⟨g, k, none⟩ (.string (markB (k0 + k)))) g (marks k0 (k + 1) ++ l.drop (k + 1)) ∧ w.grownBy (w1.setCell ⟨g, k, none⟩ (.string (markB (k0 + k)))) (rowOf g l)) := by
        rw [rowOf_some (show 0 < l.length by rw [HLN.out]; omega)] at hgr ⊢
        exact ⟨hs, (hgr.trans (grown_below hb1)).trans (grown_set w1 g k _)⟩
      generalize (marks k0 k ++ l.drop k)[k]'(by omega) = old at c0
      generalize markB (k0 + k) = K at *
      clear hs htb1 hll htb hgr hb1
      go_wp2
      go_roundw
      case rel => exact ⟨k + 1, by rw [HLN.out]; omega, by go_num, by go_num, fun _ => HO.out.1, HO.out.2⟩
      case measure => simp [intOf]; omega
    · have hke : k = n := by omega
      have HF : Hid (TS wr (.slice a n cap) g (marks k0 n) ∧ w.grownBy wr (rowOf g l)) := by
        refine ⟨⟨a, cap, by rw [marks_len], by rw [marks_len]; omega, fun h0 => ?_⟩, hgr⟩
        rw [marks_len] at h0
        have h3 := htb (by omega)
        rw [hke, List.drop_of_length_le (by omega), List.append_nil] at h3
        exact ⟨HA.out h0, h3⟩
      subst hke
      clear htb hgr hn
      go_wp2
      go_ret
      exact ⟨rfl, HF.out.1, HF.out.2⟩

def HsRel (k0 n : Nat) (w : World) (x i : Value) (wr : World) : Prop :=
  ∃ k : Nat, k ≤ n ∧ i = .int .i64 k ∧ x = .int .i64 (k0 + k : Nat) ∧ Below w.heap.size w wr

set_option maxRecDepth 100000 in
set_option maxHeartbeats 1000000 in
theorem heldStringS_any (v : Value) (g : Nat) (x : Int) (k0 n : Nat) (w : World) (hx : x = (k0 : Int)) (h : TS w v g (marks k0 n)) (h0 : 0 < k0) (hk : k0 ≤ 10000000) :
    Calls Tryd.prog 12 #[v, .int .i64 x] w fun e w' => e = .returned (.int .i64 (k0 + n : Nat)) ∧ Below w.heap.size w w' := by
  subst hx
  have hgl := h.lt
  obtain ⟨a, cap, rfl, hl, h2⟩ := h
  rw [marks_len] at *
  have HA : Hid (0 < n → a = some ⟨g, 0, none⟩ ∧ g < w.heap.size) := fun h => ⟨(h2 h).1, hgl h⟩
  have HC : Hid (∀ j, j < n → w.cell? ⟨g, j, none⟩ = some (.string (markB (k0 + j)))) := fun j hj => by
    have h3 := (h2 (by omega)).2.cell j (by rw [marks_len]; exact hj)
    rw [marks_at] at h3
    exact h3
  clear h2 hgl
  go_enter Tryd.func12, Tryd.ntmps12
  go_wp2
  go_loopw [1, 5] (fun x i wr => HsRel k0 n w x i wr) (fun _ i _ => n - (intOf i).toNat)
  case atStart => exact ⟨0, by omega, rfl, rfl, Below.refl _ _⟩
  case round =>
    obtain ⟨k, hkn, rfl, rfl, hbel⟩ := hrel
    by_cases hlt : k < n
    · obtain ⟨ea, hgw⟩ := HA.out (by omega)
      subst ea
      have hgr : g < wr.heap.size := Nat.lt_of_lt_of_le hgw hbel.size
      have c0 : wr.cell? ⟨g, k, none⟩ = some (.string (markB (k0 + k))) := (hbel.cell (p := ⟨g, k, none⟩) hgw).trans (HC.out k hlt)
      have i0 : (0 : Int) ≤ (k : Int) := by omega
      have i1 : (k : Int) < (n : Int) := by omega
      clear HC HA
      go_wp2
      go_region_held3 (fun w' => w'.cell? ⟨g, k, none⟩ = some (.string (markB (k0 + k)))) (first | go_keep | exact (hb1.cell (p := ⟨g, k, none⟩) hgr).trans c0) ((go_at_call 26; refine (markText_int _ (k0 + k) _ (by omega) (by omega) (by omega)).mono ?_; rintro e w1 ⟨rfl, hb1⟩))
      all_goals
        have hbel1 := hbel.drew.trans (hb1.mono hbel.size)
        go_wp2
        go_roundw
        case rel => exact ⟨k + 1, by omega, by go_num, by go_num, hbel1⟩
        case measure => simp [intOf]; omega
    · have hke : k = n := by omega
      subst hke
      go_wp2
      go_ret
      exact ⟨rfl, hbel⟩

end Go.Proofs.YtkgibgadngeddabDoor
