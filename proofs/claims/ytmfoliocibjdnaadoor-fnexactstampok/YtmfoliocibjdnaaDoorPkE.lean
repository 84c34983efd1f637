/-
  Texts laid together: Os, Dd, Mk, Sgm, Form.
-/
import Derived.Test.YtmfoliocibjdnaaDoorPkG
import Derived.Test.YtmfoliocibjdnaaDoorRows
import Derived.WalkKit
import Derived.Lib.ItoaMem
import Derived.Deep.RegionHeld3
import Derived.Laws.Rows
import Derived.Laws.Tables
import Derived.Test.YtmfoliocibjdnaaDoorPkA
import Derived.Test.YtmfoliocibjdnaaDoorPkD
/-
  Laws on a slice of texts that the call itself has made: appending to it, reading it, storing into it.
-/
namespace Go.Proofs.YtmfoliocibjdnaaDoor
open Go.RowKit
set_option linter.unusedVariables false

/-- v owns the texts l, in blocks from B on; below B all is as it was in w0 -/
def OS (B : Nat) (w0 w : World) (v : Value) (l : List ByteArray) : Prop :=
  w.ownsRow B 9 1 v l.length (svs l) ∧ Below B w0 w ∧ B ≤ w.heap.size

theorem OS.alloc {B : Nat} {w0 w : World} {v : Value} {l : List ByteArray} (h : OS B w0 w v l) (o : Obj) : OS B w0 (w.alloc o) v l :=
  ⟨h.1.alloc o, h.2.1.alloc h.2.2 o, by have := h.2.2; simp; omega⟩
theorem OS.drew {B : Nat} {w0 w : World} {v : Value} {l : List ByteArray} (h : OS B w0 w v l) : OS B w0 w.drew v l :=
  ⟨h.1.drew, h.2.1.drew, h.2.2⟩
theorem below_drn {B : Nat} {a w : World} (h : Below B a w) (n : Nat) : Below B a (w.drewN n) := h.trans ⟨rfl, rfl, rfl, Nat.le_refl _, fun _ _ => rfl⟩
theorem OS.drewN {B : Nat} {w0 w : World} {v : Value} {l : List ByteArray} (h : OS B w0 w v l) (n : Nat) : OS B w0 (w.drewN n) v l :=
  ⟨h.1, below_drn h.2.1 n, h.2.2⟩
theorem OS.made (w : World) : OS w.heap.size w (w.alloc (.cells #[] 9)) (.slice (some ⟨w.heap.size, 0, none⟩) 0 0) [] :=
  ⟨World.ownsRow_made w #[] 0 (Nat.le_refl _) (by decide) (by simp), (Below.refl _ _).alloc (Nat.le_refl _) _, by simp⟩
/-- what is owned stays so behind a call that leaves all that was there as it was -/
theorem OS.later {B : Nat} {w0 w w' : World} {v : Value} {l : List ByteArray} (h : OS B w0 w v l) (hb : Below w.heap.size w w') : OS B w0 w' v l := by
  refine ⟨⟨h.1.1, ?_⟩, h.2.1.trans (hb.mono h.2.2), Nat.le_trans h.2.2 hb.size⟩
  rcases h.1.2 with hn | ⟨g, cap, cur, hv, hbg, hg, rest⟩
  · exact .inl hn
  · refine .inr ⟨g, cap, cur, hv, hbg, ?_, rest⟩
    rw [hb.block g (Array.getElem?_eq_some_iff.1 hg).1]
    exact hg
/-- the same with another world at the bottom -/
theorem OS.from {B : Nat} {w0 w1 w : World} {v : Value} {l : List ByteArray} (h : OS B w1 w v l) (hb : Below B w0 w1) : OS B w0 w v l := ⟨h.1, hb.trans h.2.1, h.2.2⟩

theorem wp_appS {w : World} {ops : Array Oper} {rest : List Oper} {o : Oper} {a : Act} {Q : Exit → Act → World → Prop} (hgd : o.guard = none) (s x : Operand)
    (ho : o.op = .call { callee := .builtin .append, args := #[s, x], argTypes := #[24, 24] })
    (B : Nat) (w0 : World) (v : Value) (l : List ByteArray) (hs : a.eval s = v) (hown : OS B w0 w v l)
    (ad : Addr) (t : ByteArray) (hx : a.eval x = .slice (some ad) 1 1) (hnews : w.cell? ad = some (.string t)) (hlen : l.length ≤ 1000000)
    (h : ∀ v' w', OS B w0 w' v' (l ++ [t]) → wpList Tryd.prog ops Q rest (a.put o.dst v') w') : wpList Tryd.prog ops Q (o :: rest) a w := by
  obtain ⟨i0, hi, hz0, hz1, hz2⟩ := info_parts Tryd.info9
  refine wpList_append_own _ hgd s x 24 ho B 9 i0 (.string ByteArray.empty) 1 16 Tryd.underlying24 hi hz0 hz1 hz2 rfl (by decide) v l.length (svs l) hs hown.1 ad 1 1 [.string t] hx rfl ?_
    (fun u hu => by simp at hu; subst hu; rfl) (by unfold maxLen; omega) (by omega) hown.2.2 ?_
  · intro j u hj
    match j, hj with
    | 0, hj =>
      simp at hj
      subst hj
      have : ad.add 0 = ad := by unfold Addr.add; split <;> simp_all
      rw [this]
      exact hnews
  · intro v' w' h1 h2 _
    refine h v' w' ⟨by simpa [svs] using h1, hown.2.1.grown h2 hown.2.2 (fun k hk => (hown.1.lt k hk).1), ?_⟩
    exact Nat.le_trans hown.2.2 h2.size

/-- the shape of what is owned: nil and nothing, or a row from the head of a block -/
theorem OS.shape {B : Nat} {w0 w : World} {v : Value} {l : List ByteArray} (h : OS B w0 w v l) :
    (v = .slice none 0 0 ∧ l = []) ∨ ∃ g cap, v = .slice (some ⟨g, 0, none⟩) l.length cap ∧ B ≤ g ∧ g < w.heap.size := by
  rcases h.1.2 with ⟨hv, hn⟩ | ⟨g, cap, cur, hv, hbg, hg, rest⟩
  · exact .inl ⟨hv, List.length_eq_zero_iff.1 hn⟩
  · exact .inr ⟨g, cap, hv, hbg, (Array.getElem?_eq_some_iff.1 hg).1⟩

/-- a cell of what is owned -/
theorem OS.at {B : Nat} {w0 w : World} {l : List ByteArray} {g n cap : Nat} (h : OS B w0 w (.slice (some ⟨g, 0, none⟩) n cap) l) (j : Nat) (hj : j < l.length) : w.cell? ⟨g, j, none⟩ = some (.string l[j]) := by
  have h1 := h.1.cells (g := g) rfl j (.string l[j]) (by simp [svs, List.getElem?_eq_getElem hj])
  have e : (⟨g, 0, none⟩ : Addr).add j = ⟨g, j, none⟩ := by unfold Addr.add; split <;> simp_all
  rw [e] at h1
  exact h1

/-- what is owned begins its block -/
theorem OS.tb {B : Nat} {w0 w : World} {l : List ByteArray} {g n cap : Nat} (h : OS B w0 w (.slice (some ⟨g, 0, none⟩) n cap) l) : TB w g l := by
  have hat := fun j hj => h.at j hj
  rcases h.1.2 with ⟨hv, hn⟩ | ⟨g', cap', cur, hv, hbg, hg, rest⟩
  · simp at hv
  · simp at hv
    obtain ⟨rfl, _⟩ := hv
    refine ⟨cur, hg, fun j hj => ?_⟩
    have h1 := hat j hj
    rw [cell_of_row w g j cur 9 (0, 0) hg] at h1
    exact h1
theorem OS.ss {B : Nat} {w0 w : World} {v : Value} {l : List ByteArray} (h : OS B w0 w v l) (hl : l.length ≤ 1100000) : ∃ g, SS w v g 0 l := ss_own h.1 rfl hl
theorem OS.nil (w : World) : OS w.heap.size w w (.slice none 0 0) [] := ⟨World.ownsRow_nil _ _ _ _, Below.refl _ _, Nat.le_refl _⟩
theorem OS.lit (w : World) (t : ByteArray) : OS w.heap.size w (w.alloc (.cells #[.string t] 9)) (.slice (some ⟨w.heap.size, 0, none⟩) 1 1) [t] :=
  ⟨World.ownsRow_lit w #[.string t] 1 (Nat.le_refl _) (by decide) (by simp), (Below.refl _ _).alloc (Nat.le_refl _) _, by simp⟩

end Go.Proofs.YtmfoliocibjdnaaDoor
/-
  What the specification's Decimal answers: the numeral that strconv.Itoa's own contract names.
-/
namespace Go.Proofs.YtmfoliocibjdnaaDoor.D
open Go.RowKit
set_option linter.unusedVariables false

def fig (x : Nat) : UInt8 := UInt8.ofNat (48 + x)

def decR : Nat → Nat → List UInt8
  | 0, _ => []
  | f + 1, n => if n = 0 then [] else decR f (n / 10) ++ [fig (n % 10)]

theorem decR_digits : ∀ (f n : Nat), 0 < n → n < 10 ^ f → decR f n = Lib.decDigits n := by
  intro f
  induction f with
  | zero => intro n h0 h; simp at h; omega
  | succ f ih =>
    intro n h0 h
    rw [decR, if_neg (by omega)]
    by_cases hs : n < 10
    · rw [Lib.decDigits_one hs]
      have e1 : n / 10 = 0 := by omega
      have e2 : n % 10 = n := by omega
      rw [e1, e2]
      have e3 : decR f 0 = [] := by cases f <;> simp [decR]
      rw [e3]
      rfl
    · rw [Lib.decDigits, dif_neg hs, ih (n / 10) (by omega) (by rw [Nat.pow_succ] at h; omega)]
      rfl

theorem fig_nat (x : Nat) (h : x < 10) : (fig x).toNat = 48 + x := by
  unfold fig
  simp
  omega

theorem l01Figure_any (x : Nat) (w : World) (h : x < 10) :
    Calls Tryd.prog 96 #[.int .i64 x] w fun e w' => e = .returned (.int .u8 (fig x).toNat) ∧ w' = w := by
  have hf := fig_nat x h
  rw [hf]
  go_enter Tryd.func96, Tryd.ntmps96
  go_wp2
  go_ret
  exact ⟨by go_num, rfl⟩

theorem figI (x : Int) (n : Nat) (w : World) (hx : x = (n : Int)) (h : n < 10) :
    Calls Tryd.prog 96 #[.int .i64 x] w fun e w' => e = .returned (.int .u8 (fig n).toNat) ∧ w' = w := by
  subst hx
  exact l01Figure_any n w h

theorem one_str (w : World) (b : UInt8) : (convert 22 9 (.slice (some ⟨w.heap.size, 0, none⟩) 1 1)).run Tryd.prog (w.alloc (.cells #[.int .u8 (b.toNat : Int)] 5)) = .ok (.string ⟨[b].toArray⟩) (w.alloc (.cells #[.int .u8 (b.toNat : Int)] 5)) := by
  refine run_convert_bytes_back (P := Tryd.prog) _ 22 9 5 ⟨w.heap.size, 0, none⟩ 1 [b] Tryd.underlying22 Tryd.underlying5 Tryd.underlying9 ?_
  intro j hj
  have h0 : j = 0 := by simpa using hj
  subst h0
  simp [Addr.add]

/-- one figure ahead of a text -/
def consB (b : UInt8) (t : ByteArray) : ByteArray := ⟨[b].toArray⟩ ++ t
theorem consB_list (b : UInt8) (t : ByteArray) : (consB b t).data.toList = b :: t.data.toList := by
  unfold consB
  simp
theorem consB_size (b : UInt8) (t : ByteArray) : (consB b t).size = t.size + 1 := by
  unfold consB
  rw [ByteArray.size_append]
  show 1 + t.size = _
  omega

def itoaB (n : Int) : ByteArray := ⟨(Lib.itoa n).toArray⟩

def DecRel (sg : Int) (n : Nat) (w : World) (x s : Value) (wr : World) : Prop :=
  ∃ (m f : Nat) (t : ByteArray), m ≤ n ∧ x = .int .i64 (sg * m) ∧ s = .string t ∧ t.size + f = 20 ∧ Hid (m < 10 ^ f) ∧ Hid (decR f m ++ t.data.toList = decR 20 n) ∧ Below w.heap.size w wr

theorem dec_end {n m f : Nat} {t : ByteArray} (h0 : 0 < n) (hn : n < 10 ^ 20) (hm : m = 0) (h : decR f m ++ t.data.toList = decR 20 n) : t = ⟨(Lib.decDigits n).toArray⟩ := by
  have h2 : decR f m = [] := by rw [hm]; cases f <;> simp [decR]
  rw [h2, List.nil_append, decR_digits 20 n h0 hn] at h
  rw [← h]

theorem dec_step {n m f : Nat} {t : ByteArray} (hm : ¬ m = 0) (hF : m < 10 ^ f) (h : decR f m ++ t.data.toList = decR 20 n) : ∃ f', f = f' + 1 ∧ m / 10 < 10 ^ f' ∧ decR f' (m / 10) ++ (consB (fig (m % 10)) t).data.toList = decR 20 n := by
  cases f with
  | zero => simp at hF; omega
  | succ f =>
    refine ⟨f, rfl, by rw [Nat.pow_succ] at hF; omega, ?_⟩
    rw [decR, if_neg hm] at h
    rw [consB_list]
    simpa using h

set_option maxRecDepth 100000 in
set_option maxHeartbeats 1000000 in
theorem Decimal_pos (n : Nat) (w : World) (h0 : 0 < n) (hn : n ≤ 9223372036854775807) :
    Calls Tryd.prog 26 #[.int .i64 n] w fun e w' => e = .returned (.string ⟨(Lib.decDigits n).toArray⟩) ∧ Below w.heap.size w w' := by
  have hq : ((n : Int) == 0) = false := by simp; omega
  have hsg : ¬ ((n : Int) < 0) := by omega
  go_enter Tryd.func26, Tryd.ntmps26
  go_wp2
  go_loopw [0, 4, 5] (fun x s _ wr => DecRel 1 n w x s wr) (fun x _ _ _ => (intOf x).toNat)
  case atStart => exact ⟨n, 20, ⟨#[]⟩, Nat.le_refl _, by simp, rfl, rfl, by unfold Hid; omega, by unfold Hid; simp, Below.refl _ _⟩
  case round =>
    obtain ⟨m, f, t, hmn, rfl, rfl, htf, HF, HE, hbel⟩ := hrel
    rw [Int.one_mul]
    by_cases hm : m = 0
    · have hmq : ((m : Int) != 0) = false := by simp; omega
      have HD : Hid (t = ⟨(Lib.decDigits n).toArray⟩) := dec_end h0 (by omega) hm HE.out
      clear hm
      go_wp2
      go_ret
      exact ⟨by rw [← HD.out]; rfl, hbel⟩
    · have hmq : ((m : Int) != 0) = true := by simp; omega
      have hms : ¬ ((m : Int) % 10 < 0) := by omega
      have hm0 : 0 < m := by omega
      obtain ⟨f', rfl, hF2, hS⟩ := dec_step hm HF.out HE.out
      have HS : Hid (decR f' (m / 10) ++ (consB (fig (m % 10)) t).data.toList = decR 20 n) := hS
      have HF2 : Hid (m / 10 < 10 ^ f') := hF2
      clear hS hF2 hm
      go_wp2_with fail
      refine (figI _ (m % 10) _ (by omega) (by omega)).mono ?_
      rintro e w2 ⟨rfl, rfl⟩
      have hcv := one_str w2 (fig (m % 10))
      go_wp2
      go_roundw
      case rel => exact ⟨m / 10, f', consB (fig (m % 10)) t, by omega, by go_num, rfl, by rw [consB_size]; omega, HF2, HS, hbel.alloc hbel.size _⟩
      case measure => simp [intOf]; omega

theorem Decimal_zero (w : World) : Calls Tryd.prog 26 #[.int .i64 0] w fun e w' => e = .returned (.string ⟨(Lib.decDigits 0).toArray⟩) ∧ Below w.heap.size w w' := by
  rw [Lib.decDigits_one (by omega)]
  go_enter Tryd.func26, Tryd.ntmps26
  go_wp2
  go_ret
  exact ⟨rfl, Below.refl _ _⟩

end Go.Proofs.YtmfoliocibjdnaaDoor.D
/-
  What the laws' own helpers do: markText, markStringS, heldStringS, from any first number on.
-/
namespace Go.Proofs.YtmfoliocibjdnaaDoor
open Go.RowKit
set_option linter.unusedVariables false

theorem one_strI (w : World) (x : Int) (b : UInt8) (h : x = (b.toNat : Int)) : (convert 22 9 (.slice (some ⟨w.heap.size, 0, none⟩) 1 1)).run Tryd.prog (w.alloc (.cells #[.int .u8 x] 5)) = .ok (.string ⟨[b].toArray⟩) (w.alloc (.cells #[.int .u8 x] 5)) := by
  subst h
  exact D.one_str w b

def markB (k : Nat) : ByteArray := D.consB 109 ⟨(Lib.decDigits k).toArray⟩

def MkRel (n : Nat) (w : World) (x s : Value) (wr : World) : Prop :=
  ∃ (m f : Nat) (t : ByteArray), m ≤ n ∧ x = .int .i64 m ∧ s = .string t ∧ t.size + f = 20 ∧ Hid (m < 10 ^ f) ∧ Hid (D.decR f m ++ t.data.toList = D.decR 20 n) ∧ Below w.heap.size w wr

set_option maxRecDepth 100000 in
set_option maxHeartbeats 1000000 in
theorem markText_any (n : Nat) (w : World) (h0 : 0 < n) (hn : n ≤ 1000000000) :
    Calls Tryd.prog 136 #[.int .i64 n] w fun e w' => e = .returned (.string (markB n)) ∧ Below w.heap.size w w' := by
  have hsg : ¬ ((n : Int) ≤ 0) := by omega
  go_enter Tryd.func136, Tryd.ntmps136
  go_wp2
  go_loopw [0, 3] (fun x s wr => MkRel n w x s wr) (fun x _ _ => (intOf x).toNat)
  case atStart => exact ⟨n, 20, ⟨#[]⟩, Nat.le_refl _, rfl, rfl, rfl, by unfold Hid; omega, by unfold Hid; simp, Below.refl _ _⟩
  case round =>
    obtain ⟨m, f, t, hmn, rfl, rfl, htf, HF, HE, hbel⟩ := hrel
    by_cases hm : m = 0
    · have hmq : ¬ ((0 : Int) < (m : Int)) := by omega
      have HD : Hid (t = ⟨(Lib.decDigits n).toArray⟩) := D.dec_end h0 (by omega) hm HE.out
      have hts : t.size ≤ 20 := by omega
      clear hm
      go_wp2
      go_ret
      exact ⟨by unfold markB; rw [← HD.out]; rfl, hbel⟩
    · have hmq : (0 : Int) < (m : Int) := by omega
      have hm0 : 0 < m := by omega
      obtain ⟨f', rfl, hF2, hS⟩ := D.dec_step hm HF.out HE.out
      have HS : Hid (D.decR f' (m / 10) ++ (D.consB (D.fig (m % 10)) t).data.toList = D.decR 20 n) := hS
      have HF2 : Hid (m / 10 < 10 ^ f') := hF2
      have hfg := D.fig_nat (m % 10) (by omega)
      have hcv := one_strI wr (48 + (m : Int) % 10) (D.fig (m % 10)) (by rw [hfg]; omega)
      clear hS hF2 hm hfg
      go_wp2
      go_roundw
      case rel => exact ⟨m / 10, f', D.consB (D.fig (m % 10)) t, by omega, by go_num, rfl, by rw [D.consB_size]; omega, HF2, HS, hbel.alloc hbel.size _⟩
      case measure => simp [intOf] <;> omega

theorem markText_int (x : Int) (n : Nat) (w : World) (hx : x = (n : Int)) (h0 : 0 < n) (hn : n ≤ 1000000000) :
    Calls Tryd.prog 136 #[.int .i64 x] w fun e w' => e = .returned (.string (markB n)) ∧ Below w.heap.size w w' := by
  subst hx
  exact markText_any n w h0 hn

/-- n marks from k on -/
def marks (k n : Nat) : List ByteArray := (List.range n).map fun j => markB (k + j)
theorem marks_len (k n : Nat) : (marks k n).length = n := by simp [marks]
theorem marks_at (k n j : Nat) (h : j < (marks k n).length) : (marks k n)[j] = markB (k + j) := by simp [marks]
theorem marks_set (k : Nat) (l : List ByteArray) (m : Nat) (h : m < l.length) : (marks k m ++ l.drop m).set m (markB (k + m)) = marks k (m + 1) ++ l.drop (m + 1) := by
  have e : l.drop m = l[m] :: l.drop (m + 1) := List.drop_eq_getElem_cons h
  rw [e, List.set_append_right _ _ (by rw [marks_len]; exact Nat.le_refl _), marks_len, Nat.sub_self]
  simp only [List.set_cons_zero, marks, List.range_succ, List.map_append, List.map_cons, List.map_nil, List.append_assoc, List.cons_append, List.nil_append]

theorem grown_below {w w' : World} {row : Option Nat} (h : Below w.heap.size w w') : w.grownBy w' row := ⟨h.os, h.tape, h.output, h.size, fun k hk _ => h.block k hk⟩
theorem grown_refl (w : World) (row : Option Nat) : w.grownBy w row := grown_below (Below.refl _ _)
theorem TB.keptG {w w' : World} {g : Nat} {row : Option Nat} {l : List ByteArray} (h : TB w g l) (hg : w.grownBy w' row) (hne : some g ≠ row) : TB w' g l := by
  have hlt := h.lt
  obtain ⟨cur, h1, h2⟩ := h
  exact ⟨cur, by rw [hg.block g hlt hne]; exact h1, h2⟩

/-- a row of texts that may be written, at the head of block g -/
def TS (w : World) (v : Value) (g : Nat) (l : List ByteArray) : Prop :=
  ∃ a cap, v = .slice a l.length cap ∧ l.length ≤ 1100000 ∧ (0 < l.length → a = some ⟨g, 0, none⟩ ∧ TB w g l)
theorem TS.len {w : World} {v : Value} {g : Nat} {l : List ByteArray} (h : TS w v g l) : l.length ≤ 1100000 := by
  obtain ⟨a, cap, rfl, hl, _⟩ := h
  exact hl
theorem TS.ss {w : World} {v : Value} {g : Nat} {l : List ByteArray} (h : TS w v g l) : SS w v g 0 l := by
  obtain ⟨a, cap, rfl, hl, h2⟩ := h
  exact ⟨a, cap, rfl, by omega, fun h0 => (h2 h0).1, fun j hj => by rw [Nat.zero_add]; exact (h2 (by omega)).2.cell j hj⟩
theorem TS.keptG {w w' : World} {v : Value} {g : Nat} {row : Option Nat} {l : List ByteArray} (h : TS w v g l) (hg : w.grownBy w' row) (hne : 0 < l.length → some g ≠ row) : TS w' v g l := by
  obtain ⟨a, cap, rfl, hl, h2⟩ := h
  exact ⟨a, cap, rfl, hl, fun h0 => ⟨(h2 h0).1, (h2 h0).2.keptG hg (hne h0)⟩⟩
theorem TS.later {w w' : World} {v : Value} {g : Nat} {l : List ByteArray} (h : TS w v g l) (hb : Below w.heap.size w w') : TS w' v g l := h.keptG (row := none) (grown_below hb) (fun _ => by simp)
theorem TS.drewN {w : World} {v : Value} {g : Nat} {l : List ByteArray} (h : TS w v g l) (n : Nat) : TS (w.drewN n) v g l := h
theorem TS.lt {w : World} {v : Value} {g : Nat} {l : List ByteArray} (h : TS w v g l) : 0 < l.length → g < w.heap.size := by
  obtain ⟨a, cap, rfl, hl, h2⟩ := h
  exact fun h0 => (h2 h0).2.lt
theorem TB.ts {w : World} {g : Nat} {l : List ByteArray} (h : TB w g l) (n cap : Nat) (hn : l.length = n) (hl : n ≤ 1100000) : TS w (.slice (some ⟨g, 0, none⟩) n cap) g l := by
  subst hn
  exact ⟨_, _, rfl, hl, fun _ => ⟨rfl, h⟩⟩
theorem TS.nil (w : World) (g : Nat) : TS w (.slice none 0 0) g [] := ⟨_, _, rfl, by simp, fun h => absurd h (by simp)⟩
theorem OS.ts {B : Nat} {w0 w : World} {v : Value} {l : List ByteArray} (h : OS B w0 w v l) (hl : l.length ≤ 1100000) : ∃ g, TS w v g l ∧ B ≤ g := by
  rcases h.shape with ⟨rfl, rfl⟩ | ⟨g, cap, rfl, hg, _⟩
  · exact ⟨B, TS.nil w B, Nat.le_refl _⟩
  · exact ⟨g, h.tb.ts _ _ rfl hl, hg⟩

/-- the block of a row that is not empty -/
def rowOf (g : Nat) (l : List ByteArray) : Option Nat := if l.length = 0 then none else some g
theorem rowOf_some {g : Nat} {l : List ByteArray} (h : 0 < l.length) : rowOf g l = some g := if_neg (by omega)
theorem rowOf_ne {g k : Nat} {l : List ByteArray} (h : 0 < l.length → k ≠ g) : some k ≠ rowOf g l := by
  unfold rowOf
  split
  · simp
  · have := h (by omega)
    simpa using this

def MsRel (k0 : Nat) (w : World) (g : Nat) (l : List ByteArray) (x i : Value) (wr : World) : Prop :=
  ∃ k : Nat, k ≤ l.length ∧ i = .int .i64 k ∧ x = .int .i64 (k0 + k : Nat) ∧ (0 < l.length → TB wr g (marks k0 k ++ l.drop k)) ∧ w.grownBy wr (rowOf g l)

set_option maxRecDepth 100000 in
set_option maxHeartbeats 1000000 in
theorem markStringS_any (v : Value) (g : Nat) (l : List ByteArray) (x : Int) (k0 : Nat) (w : World) (hx : x = (k0 : Int)) (h : TS w v g l) (h0 : 0 < k0) (hk : k0 ≤ 10000000) :
    Calls Tryd.prog 72 #[v, .int .i64 x] w fun e w' => e = .returned (.int .i64 (k0 + l.length : Nat)) ∧ TS w' v g (marks k0 l.length) ∧ w.grownBy w' (rowOf g l) := by
  subst hx
  obtain ⟨a, cap, rfl, hl, h2⟩ := h
  obtain ⟨n, hn⟩ : ∃ n, l.length = n := ⟨_, rfl⟩
  have HA : Hid (0 < n → a = some ⟨g, 0, none⟩) := by rw [← hn]; exact fun h => (h2 h).1
  have HST : Hid (MsRel k0 w g l (.int .i64 k0) (.int .i64 0) w) := ⟨0, by omega, rfl, rfl, fun h => by simpa [marks] using (h2 h).2, grown_refl _ _⟩
  have HLN : Hid (l.length = n) := hn
  rw [hn] at hl ⊢
  clear h2
  go_enter Tryd.func72, Tryd.ntmps72
  go_wp2
  go_loopw [1, 5] (fun x i wr => MsRel k0 w g l x i wr) (fun _ i _ => n - (intOf i).toNat)
  case atStart => exact HST.out
  case round =>
    obtain ⟨k, hkn, rfl, rfl, htb, hgr⟩ := hrel
    rw [hn] at hkn
    clear HST
    by_cases hlt : k < n
    · have ea := HA.out (by omega)
      subst ea
      have htb := htb (by omega)
      have i1 : (k : Int) < (n : Int) := by omega
      have i2 : (0 : Int) ≤ (k : Int) := by omega
      clear hn
      go_wp2_with fail
      refine (markText_int _ (k0 + k) _ (by omega) (by omega) (by omega)).mono ?_
      rintro e w1 ⟨rfl, hb1⟩
      have htb1 := htb.below hb1 htb.lt
      have hll : (marks k0 k ++ l.drop k).length = n := by rw [List.length_append, marks_len, List.length_drop, HLN.out]; omega
      have c0 := htb1.cell k (by omega)
      have f0 := htb1.frozen k
      have hs := htb1.set k (by omega) (markB (k0 + k))
      rw [marks_set k0 l k (by rw [HLN.out]; omega)] at hs
      have HO : Hid (TB (w1.setCell ⟨g, k, none⟩ (.string (markB (k0 + k)))) g (marks k0 (k + 1) ++ l.drop (k + 1)) ∧ w.grownBy (w1.setCell ⟨g, k, none⟩ (.string (markB (k0 + k)))) (rowOf g l)) := by
        rw [rowOf_some (show 0 < l.length by rw [HLN.out]; omega)] at hgr ⊢
        exact ⟨hs, (hgr.trans (grown_below hb1)).trans (grown_set w1 g k _)⟩
      generalize (marks k0 k ++ l.drop k)[k]'(by omega) = old at c0
      generalize markB (k0 + k) = K at *
      clear hs htb1 hll htb hgr hb1
      go_wp2
      go_roundw
      case rel => exact ⟨k + 1, by rw [HLN.out]; omega, by go_num, by go_num, fun _ => HO.out.1, HO.out.2⟩
      case measure => simp [intOf]; omega
    · have hke : k = n := by omega
      have HF : Hid (TS wr (.slice a n cap) g (marks k0 n) ∧ w.grownBy wr (rowOf g l)) := by
        refine ⟨⟨a, cap, by rw [marks_len], by rw [marks_len]; omega, fun h0 => ?_⟩, hgr⟩
        rw [marks_len] at h0
        have h3 := htb (by omega)
        rw [hke, List.drop_of_length_le (by omega), List.append_nil] at h3
        exact ⟨HA.out h0, h3⟩
      subst hke
      clear htb hgr hn
      go_wp2
      go_ret
      exact ⟨rfl, HF.out.1, HF.out.2⟩

def HsRel (k0 n : Nat) (w : World) (x i : Value) (wr : World) : Prop :=
  ∃ k : Nat, k ≤ n ∧ i = .int .i64 k ∧ x = .int .i64 (k0 + k : Nat) ∧ Below w.heap.size w wr

set_option maxRecDepth 100000 in
set_option maxHeartbeats 1000000 in
theorem heldStringS_any (v : Value) (g : Nat) (x : Int) (k0 n : Nat) (w : World) (hx : x = (k0 : Int)) (h : TS w v g (marks k0 n)) (h0 : 0 < k0) (hk : k0 ≤ 10000000) :
    Calls Tryd.prog 137 #[v, .int .i64 x] w fun e w' => e = .returned (.int .i64 (k0 + n : Nat)) ∧ Below w.heap.size w w' := by
  subst hx
  have hgl := h.lt
  obtain ⟨a, cap, rfl, hl, h2⟩ := h
  rw [marks_len] at *
  have HA : Hid (0 < n → a = some ⟨g, 0, none⟩ ∧ g < w.heap.size) := fun h => ⟨(h2 h).1, hgl h⟩
  have HC : Hid (∀ j, j < n → w.cell? ⟨g, j, none⟩ = some (.string (markB (k0 + j)))) := fun j hj => by
    have h3 := (h2 (by omega)).2.cell j (by rw [marks_len]; exact hj)
    rw [marks_at] at h3
    exact h3
  clear h2 hgl
  go_enter Tryd.func137, Tryd.ntmps137
  go_wp2
  go_loopw [1, 5] (fun x i wr => HsRel k0 n w x i wr) (fun _ i _ => n - (intOf i).toNat)
  case atStart => exact ⟨0, by omega, rfl, rfl, Below.refl _ _⟩
  case round =>
    obtain ⟨k, hkn, rfl, rfl, hbel⟩ := hrel
    by_cases hlt : k < n
    · obtain ⟨ea, hgw⟩ := HA.out (by omega)
      subst ea
      have hgr : g < wr.heap.size := Nat.lt_of_lt_of_le hgw hbel.size
      have c0 : wr.cell? ⟨g, k, none⟩ = some (.string (markB (k0 + k))) := (hbel.cell (p := ⟨g, k, none⟩) hgw).trans (HC.out k hlt)
      have i0 : (0 : Int) ≤ (k : Int) := by omega
      have i1 : (k : Int) < (n : Int) := by omega
      clear HC HA
      go_wp2
      go_region_held3 (fun w' => w'.cell? ⟨g, k, none⟩ = some (.string (markB (k0 + k)))) (first | go_keep | exact (hb1.cell (p := ⟨g, k, none⟩) hgr).trans c0) ((go_at_call 136; refine (markText_int _ (k0 + k) _ (by omega) (by omega) (by omega)).mono ?_; rintro e w1 ⟨rfl, hb1⟩))
      all_goals
        have hbel1 := hbel.drew.trans (hb1.mono hbel.size)
        go_wp2
        go_roundw
        case rel => exact ⟨k + 1, by omega, by go_num, by go_num, hbel1⟩
        case measure => simp [intOf]; omega
    · have hke : k = n := by omega
      subst hke
      go_wp2
      go_ret
      exact ⟨rfl, hbel⟩

end Go.Proofs.YtmfoliocibjdnaaDoor
/-
  A signature as a struct: in a block of its own, its fields stored one by one, answered beside a flag.
-/
namespace Go.Proofs.YtmfoliocibjdnaaDoor
open Go.RowKit
set_option linter.unusedVariables false

/-- block g is a signature with these fields -/
def SgM (w : World) (g : Nat) (a : Int) (v1 v2 v3 : Value) : Prop := w.heap[g]? = some (.cells #[.int .i64 a, v1, v2, v3] 26 (0, 0))
theorem SgM.c0 {w : World} {g : Nat} {a : Int} {v1 v2 v3 : Value} (h : SgM w g a v1 v2 v3) : w.cell? ⟨g, 0, none⟩ = some (.int .i64 a) := by rw [cell_of_row w g 0 _ _ (0, 0) h]; rfl
theorem SgM.c1 {w : World} {g : Nat} {a : Int} {v1 v2 v3 : Value} (h : SgM w g a v1 v2 v3) : w.cell? ⟨g, 1, none⟩ = some v1 := by rw [cell_of_row w g 1 _ _ (0, 0) h]; rfl
theorem SgM.c2 {w : World} {g : Nat} {a : Int} {v1 v2 v3 : Value} (h : SgM w g a v1 v2 v3) : w.cell? ⟨g, 2, none⟩ = some v2 := by rw [cell_of_row w g 2 _ _ (0, 0) h]; rfl
theorem SgM.c3 {w : World} {g : Nat} {a : Int} {v1 v2 v3 : Value} (h : SgM w g a v1 v2 v3) : w.cell? ⟨g, 3, none⟩ = some v3 := by rw [cell_of_row w g 3 _ _ (0, 0) h]; rfl
theorem SgM.fr {w : World} {g : Nat} {a : Int} {v1 v2 v3 : Value} (h : SgM w g a v1 v2 v3) (j : Nat) : w.frozen? ⟨g, j, none⟩ = false := by
  simp [World.frozen?, show w.heap[g]? = some (.cells #[.int .i64 a, v1, v2, v3] 26 (0, 0)) from h]
theorem SgM.lt {w : World} {g : Nat} {a : Int} {v1 v2 v3 : Value} (h : SgM w g a v1 v2 v3) : g < w.heap.size := (Array.getElem?_eq_some_iff.1 h).1
theorem SgM.set1 {w : World} {g : Nat} {a : Int} {v1 v2 v3 : Value} (h : SgM w g a v1 v2 v3) (v : Value) : SgM (w.setCell ⟨g, 1, none⟩ v) g a v v2 v3 := by
  unfold SgM at *
  rw [heap_setCell_same w g 1 _ _ _ h]
  rfl
theorem SgM.set2 {w : World} {g : Nat} {a : Int} {v1 v2 v3 : Value} (h : SgM w g a v1 v2 v3) (v : Value) : SgM (w.setCell ⟨g, 2, none⟩ v) g a v1 v v3 := by
  unfold SgM at *
  rw [heap_setCell_same w g 2 _ _ _ h]
  rfl
theorem SgM.set3 {w : World} {g : Nat} {a : Int} {v1 v2 v3 : Value} (h : SgM w g a v1 v2 v3) (v : Value) : SgM (w.setCell ⟨g, 3, none⟩ v) g a v1 v2 v := by
  unfold SgM at *
  rw [heap_setCell_same w g 3 _ _ _ h]
  rfl
theorem SgM.keep {w w' : World} {g : Nat} {a : Int} {v1 v2 v3 : Value} (h : SgM w g a v1 v2 v3) (he : w'.heap[g]? = w.heap[g]?) : SgM w' g a v1 v2 v3 := by
  unfold SgM at *
  rw [he, h]
theorem SgM.later {w w' : World} {g : Nat} {a : Int} {v1 v2 v3 : Value} (h : SgM w g a v1 v2 v3) (hb : Below w.heap.size w w') : SgM w' g a v1 v2 v3 := h.keep (hb.block g h.lt)
theorem SgM.keptG {w w' : World} {g : Nat} {row : Option Nat} {a : Int} {v1 v2 v3 : Value} (h : SgM w g a v1 v2 v3) (hg : w.grownBy w' row) (hne : some g ≠ row) : SgM w' g a v1 v2 v3 := h.keep (hg.block g h.lt hne)
theorem SgM.new (w : World) (a : Int) (v1 v2 v3 : Value) : SgM (w.alloc (.cells #[.int .i64 a, v1, v2, v3] 26)) w.heap.size a v1 v2 v3 := Go.heap_alloc_new w _

theorem sizeS : (Tryd.prog.info? 26).map (·.size) = some 4 := by kernel_rfl
theorem load_sig {w : World} {g : Nat} {x : Int} {v1 v2 v3 : Value} (hA : SgM w g x v1 v2 v3) : (loadVar 26 ⟨g, 0, none⟩).run Tryd.prog w = .ok (.agg #[.int .i64 x, v1, v2, v3]) w :=
  run_loadVar_row (P := Tryd.prog) w g 26 26 _ (0, 0) _ hA Tryd.underlying26 rfl sizeS

/-- a signature and a flag, answered -/
theorem ret_sig2 {fn : Func} {Rp : Ending → World → Prop} {a : Act} {w : World} (c s g : Nat) (x : Int) (v1 v2 v3 b : Value) (hres : fn.results = #[.cell c 26, .tmp s]) (hd : a.defers = []) (hp : a.tmps.getD c undef = .pointer (some ⟨g, 0, none⟩)) (hb : a.tmps.getD s undef = b)
    (hA : SgM w g x v1 v2 v3) (h : Rp (.returned (.tuple #[.agg #[.int .i64 x, v1, v2, v3], b])) w) : bodyPost Tryd.prog fn Rp .ret a w := by
  have hr := load_sig hA
  refine bodyPost_ret (v := .tuple #[.agg #[.int .i64 x, v1, v2, v3], b]) ?_ hd h
  have hp' : a.tmps[c]?.getD undef = .pointer (some ⟨g, 0, none⟩) := by simpa using hp
  have hb' : a.tmps[s]?.getD undef = b := by simpa using hb
  simp [results, hres, asAddr, hr, hp', hb']

section
variable {w : World} {ops : Array Oper} {rest : List Oper} {o : Oper} {a : Act} {Q : Exit → Act → World → Prop}
/-- a signature loaded whole -/
theorem wp_loadSig (hgd : o.guard = none) (p : Operand) (ho : o.op = .load 26 p) (g : Nat) (x : Int) (v1 v2 v3 : Value) (hp : a.eval p = .pointer (some ⟨g, 0, none⟩)) (hA : SgM w g x v1 v2 v3)
    (h : wpList Tryd.prog ops Q rest (a.put o.dst (.agg #[.int .i64 x, v1, v2, v3])) w) : wpList Tryd.prog ops Q (o :: rest) a w := by
  refine wpList_plain hgd fun K hK => ?_
  have hr : (Instr.loadAt 26 (.pointer (some ⟨g, 0, none⟩))).run Tryd.prog w = .ok (.agg #[.int .i64 x, v1, v2, v3]) w := by
    simp only [Instr.loadAt, Instr.sureAddr, Sem.run_bind, Sem.run_pure, Result.andThen]
    exact load_sig hA
  unfold Oper.wp
  simp [execOp, ho, hp, hr, Result.andThen]
  exact hK _ _ h
/-- a signature stored whole -/
theorem wp_storeSig (hgd : o.guard = none) (p v : Operand) (ho : o.op = .store 26 p v) (g : Nat) (x y : Int) (v1 v2 v3 u1 u2 u3 : Value) (hA : SgM w g x v1 v2 v3) (hp : a.eval p = .pointer (some ⟨g, 0, none⟩)) (hv : a.eval v = .agg #[.int .i64 y, u1, u2, u3])
    (h1 : u1.oneCell' = true) (h2 : u2.oneCell' = true) (h3 : u3.oneCell' = true)
    (h : SgM (w.setRow g #[.int .i64 y, u1, u2, u3]) g y u1 u2 u3 → wpList Tryd.prog ops Q rest (a.put o.dst (.tuple #[])) (w.setRow g #[.int .i64 y, u1, u2, u3])) : wpList Tryd.prog ops Q (o :: rest) a w := by
  refine wpList_plain hgd fun K hK => ?_
  have hr : (Instr.storeAt 26 (.pointer (some ⟨g, 0, none⟩)) (.agg #[.int .i64 y, u1, u2, u3])).run Tryd.prog w = .ok () (w.setRow g #[.int .i64 y, u1, u2, u3]) := by
    simp only [Instr.storeAt, Instr.sureAddr, Sem.run_bind, Sem.run_pure, Result.andThen]
    refine run_storeVar_row w g 26 26 _ _ hA sizeS rfl ?_
    simp [h1, h2, h3]
    rfl
  unfold Oper.wp
  simp [execOp, ho, hp, hv, hr, Result.andThen]
  exact hK _ _ (h (setRow_heap w g _ _ _ _ hA))
end

end Go.Proofs.YtmfoliocibjdnaaDoor
/-
  What the forms of a signature are held against: how many texts, how wide, the program's and the specification's.
-/
namespace Go.Proofs.YtmfoliocibjdnaaDoor
open Go.RowKit Go.BigFrame
set_option linter.unusedVariables false

/-- each text is sixteen bytes wide -/
def kwB (l : List ByteArray) : Bool := l.all (fun p => decide (p.size = 16))
theorem kwB_no (l : List ByteArray) (m : Nat) (h : m < l.length) (hb : l[m].size ≠ 16) : kwB l = false := by
  unfold kwB
  rw [List.all_eq_false]
  exact ⟨l[m], List.getElem_mem _, by simpa using hb⟩
theorem kwB_yes (l : List ByteArray) (h : ∀ j (h : j < l.length), l[j].size = 16) : kwB l = true := by
  unfold kwB
  rw [List.all_eq_true]
  intro x hx
  obtain ⟨j, hj, rfl⟩ := List.getElem_of_mem hx
  simpa using h j hj
theorem kwB_at {l : List ByteArray} (h : kwB l = true) (j : Nat) (hj : j < l.length) : l[j].size = 16 := by
  unfold kwB at h
  rw [List.all_eq_true] at h
  simpa using h l[j] (List.getElem_mem _)

def KwR (l : List ByteArray) (w : World) (i : Value) (wr : World) : Prop :=
  ∃ m : Nat, m ≤ l.length ∧ i = .int .i64 m ∧ Hid (∀ j (h : j < l.length), j < m → l[j].size = 16) ∧ wr = w
theorem kw_step {l : List ByteArray} {m : Nat} (hm : m < l.length) (hp : l[m].size = 16) (h : ∀ j (h : j < l.length), j < m → l[j].size = 16) : Hid (∀ j (h : j < l.length), j < m + 1 → l[j].size = 16) := by
  intro j hj hlt
  rcases Nat.lt_or_ge j m with h1 | h1
  · exact h j hj h1
  · have : j = m := by omega
    subst this
    exact hp

set_option maxRecDepth 100000 in
set_option maxHeartbeats 400000 in
theorem allWide_16 (v : Value) (ga oa : Nat) (l : List ByteArray) (w : World) (hv : SS w v ga oa l) :
    Calls Tryd.prog 140 #[v, .int .i64 16] w fun e w' => e = .returned (.bool (kwB l)) ∧ w' = w := by
  obtain ⟨a, cap, rfl, hl, hA, hc⟩ := hv
  obtain ⟨n, hn⟩ : ∃ n, l.length = n := ⟨_, rfl⟩
  have HA : Hid (0 < n → a = some ⟨ga, oa, none⟩) := by rw [← hn]; exact hA
  have HC : Hid (∀ j (h : j < l.length), w.cell? ⟨ga, oa + j, none⟩ = some (.string l[j])) := hc
  have HST : Hid (KwR l w (.int .i64 0) w) := ⟨0, by omega, rfl, by intro j _ h; omega, rfl⟩
  obtain ⟨R, hR⟩ : ∃ R, kwB l = R := ⟨_, rfl⟩
  have HR : Hid (kwB l = R) := hR
  rw [hn] at hl ⊢
  rw [hR]
  clear hA hc hR
  go_enter Tryd.func140, Tryd.ntmps140
  go_wp2
  go_loopw [9] (fun i wr => KwR l w i wr) (fun i _ => n - (intOf i).toNat)
  case atStart => exact HST.out
  case round =>
    obtain ⟨m, hm, rfl, HI, rfl⟩ := hrel
    rw [hn] at hm
    clear HST
    by_cases hlt : m < n
    · have ea := HA.out (by omega)
      subst ea
      have c0 := HC.out m (by omega)
      have i1 : (m : Int) < (n : Int) := by omega
      have i2 : (0 : Int) ≤ (m : Int) := by omega
      by_cases hx : (l[m]'(by omega)).size = 16
      · have HI2 := kw_step (show m < l.length by omega) hx HI.out
        have q : (((l[m]'(by omega)).size : Int) != 16) = false := by simp; omega
        clear HI HR HC HA hx
        generalize l[m]'(by omega) = X at *
        go_wp2
        go_roundw
        case rel => exact ⟨m + 1, by omega, by go_num, HI2, rfl⟩
        case measure => simp [intOf]; omega
      · have hF := kwB_no l m (by omega) hx
        rw [HR.out] at hF
        subst hF
        have q : (((l[m]'(by omega)).size : Int) != 16) = true := by simp; omega
        clear HI HR HC HA hx
        generalize l[m]'(by omega) = X at *
        go_wp2
        try rw [Exit.noGoto_ret]
        go_ret
        exact ⟨rfl, rfl⟩
    · have hme : m = n := by omega
      have hF := kwB_yes l (fun j hj => HI.out j hj (by omega))
      rw [HR.out] at hF
      subst hF
      subst hme
      clear HI HR HC HA
      go_wp2
      go_ret
      exact ⟨rfl, rfl⟩

set_option maxRecDepth 100000 in
set_option maxHeartbeats 400000 in
theorem l05Wide_any (v : Value) (x : Int) (k : Nat) (ga oa : Nat) (l : List ByteArray) (w : World) (hx : x = (k : Int)) (hv : SS w v ga oa l) :
    Calls Tryd.prog 143 #[v, .int .i64 x] w fun e w' => e = .returned (.bool (kwB l && decide (l.length = k))) ∧ w' = w := by
  subst hx
  obtain ⟨a, cap, rfl, hl, hA, hc⟩ := hv
  obtain ⟨n, hn⟩ : ∃ n, l.length = n := ⟨_, rfl⟩
  have HA : Hid (0 < n → a = some ⟨ga, oa, none⟩) := by rw [← hn]; exact hA
  have HC : Hid (∀ j (h : j < l.length), w.cell? ⟨ga, oa + j, none⟩ = some (.string l[j])) := hc
  have HST : Hid (KwR l w (.int .i64 0) w) := ⟨0, by omega, rfl, by intro j _ h; omega, rfl⟩
  obtain ⟨R, hR⟩ : ∃ R, kwB l = R := ⟨_, rfl⟩
  have HR : Hid (kwB l = R) := hR
  rw [hn] at hl ⊢
  rw [hR]
  clear hA hc hR
  go_enter Tryd.func143, Tryd.ntmps143
  go_wp2
  go_loopw [5] (fun i wr => KwR l w i wr) (fun i _ => n - (intOf i).toNat)
  case atStart => exact HST.out
  case round =>
    obtain ⟨m, hm, rfl, HI, rfl⟩ := hrel
    rw [hn] at hm
    clear HST
    by_cases hlt : m < n
    · have ea := HA.out (by omega)
      subst ea
      have c0 := HC.out m (by omega)
      have i1 : (m : Int) < (n : Int) := by omega
      have i2 : (0 : Int) ≤ (m : Int) := by omega
      by_cases hx : (l[m]'(by omega)).size = 16
      · have HI2 := kw_step (show m < l.length by omega) hx HI.out
        have q : (((l[m]'(by omega)).size : Int) != 16) = false := by simp; omega
        clear HI HR HC HA hx
        generalize l[m]'(by omega) = X at *
        go_wp2
        go_roundw
        case rel => exact ⟨m + 1, by omega, by go_num, HI2, rfl⟩
        case measure => simp [intOf]; omega
      · have hF := kwB_no l m (by omega) hx
        rw [HR.out] at hF
        subst hF
        have q : (((l[m]'(by omega)).size : Int) != 16) = true := by simp; omega
        clear HI HR HC HA hx
        generalize l[m]'(by omega) = X at *
        go_wp2
        try rw [Exit.noGoto_ret]
        go_ret
        exact ⟨rfl, rfl⟩
    · have hme : m = n := by omega
      have hF := kwB_yes l (fun j hj => HI.out j hj (by omega))
      rw [HR.out] at hF
      subst hF
      subst hme
      clear HI HR HC HA hn
      by_cases hk : m = k
      · have q : ((m : Int) == (k : Int)) = true := by simp; omega
        go_wp2
        go_ret
        exact ⟨by simp [hk], rfl⟩
      · have q : ((m : Int) == (k : Int)) = false := by simp; omega
        go_wp2
        go_ret
        exact ⟨by simp [hk], rfl⟩

/-- the form that a signature must have -/
def formB (a : Int) (o s d : List ByteArray) : Bool := decide (0 ≤ a ∧ a ≤ 15) && ((kwB o && decide (o.length = 8)) && ((kwB s && decide (s.length = 8)) && (kwB d && decide (d.length = 4))))
theorem formB_parts {a : Int} {o s d : List ByteArray} (h : formB a o s d = true) : (0 ≤ a ∧ a ≤ 15) ∧ (kwB o = true ∧ o.length = 8) ∧ (kwB s = true ∧ s.length = 8) ∧ (kwB d = true ∧ d.length = 4) := by
  unfold formB at h
  simpa only [Bool.and_eq_true, decide_eq_true_eq] using h
theorem formB_mk {a : Int} {o s d : List ByteArray} (h : (0 ≤ a ∧ a ≤ 15) ∧ (kwB o = true ∧ o.length = 8) ∧ (kwB s = true ∧ s.length = 8) ∧ (kwB d = true ∧ d.length = 4)) : formB a o s d = true := by
  unfold formB
  simpa only [Bool.and_eq_true, decide_eq_true_eq] using h

set_option maxRecDepth 100000 in
set_option maxHeartbeats 1000000 in
theorem l05Form_any (a : Int) (vo vs vd : Value) (g1 o1 g2 o2 g3 o3 : Nat) (o s d : List ByteArray) (w : World) (ho : SS w vo g1 o1 o) (hs : SS w vs g2 o2 s) (hd : SS w vd g3 o3 d) :
    Calls Tryd.prog 91 #[.agg #[.int .i64 a, vo, vs, vd]] w fun e w' => e = .returned (.bool (formB a o s d)) ∧ Below w.heap.size w w' := by
  have hb : Below w.heap.size w (w.alloc (.cells #[.int .i64 a, vo, vs, vd] 26)) := (Below.refl _ _).alloc (Nat.le_refl _) _
  have H1 : Hid (Calls Tryd.prog 143 #[vo, .int .i64 8] (w.alloc (.cells #[.int .i64 a, vo, vs, vd] 26)) fun e w' => e = .returned (.bool (kwB o && decide (o.length = 8))) ∧ w' = (w.alloc (.cells #[.int .i64 a, vo, vs, vd] 26))) := l05Wide_any vo 8 8 g1 o1 o _ rfl (ho.below hb ho.lt)
  have H2 : Hid (Calls Tryd.prog 143 #[vs, .int .i64 8] (w.alloc (.cells #[.int .i64 a, vo, vs, vd] 26)) fun e w' => e = .returned (.bool (kwB s && decide (s.length = 8))) ∧ w' = (w.alloc (.cells #[.int .i64 a, vo, vs, vd] 26))) := l05Wide_any vs 8 8 g2 o2 s _ rfl (hs.below hb hs.lt)
  have H3 : Hid (Calls Tryd.prog 143 #[vd, .int .i64 4] (w.alloc (.cells #[.int .i64 a, vo, vs, vd] 26)) fun e w' => e = .returned (.bool (kwB d && decide (d.length = 4))) ∧ w' = (w.alloc (.cells #[.int .i64 a, vo, vs, vd] 26))) := l05Wide_any vd 4 4 g3 o3 d _ rfl (hd.below hb hd.lt)
  have HB : Hid (Below w.heap.size w (w.alloc (.cells #[.int .i64 a, vo, vs, vd] 26))) := hb
  unfold formB
  generalize (kwB o && decide (o.length = 8)) = A1 at *
  generalize (kwB s && decide (s.length = 8)) = A2 at *
  generalize (kwB d && decide (d.length = 4)) = A3 at *
  generalize hA0 : decide (0 ≤ a ∧ a ≤ 15) = A0
  obtain ⟨ao, co, rfl, _⟩ := ho
  obtain ⟨as2, cs2, rfl, _⟩ := hs
  obtain ⟨ad, cd, rfl, _⟩ := hd
  clear hb
  go_enter Tryd.func91, Tryd.ntmps91
  go_wp2_with fail
  refine (l01In_any _ _ _ _).mono ?_
  rintro e w' ⟨rfl, rfl⟩
  rw [hA0]
  clear hA0
  cases A0 with
  | false =>
    go_wp2
    go_ret
    exact ⟨by simp, HB.out⟩
  | true =>
    go_wp2_with fail
    refine H1.out.mono ?_
    rintro e w' ⟨rfl, rfl⟩
    cases A1 with
    | false =>
      go_wp2
      go_ret
      exact ⟨by simp, HB.out⟩
    | true =>
      go_wp2_with fail
      refine H2.out.mono ?_
      rintro e w' ⟨rfl, rfl⟩
      cases A2 with
      | false =>
        go_wp2
        go_ret
        exact ⟨by simp, HB.out⟩
      | true =>
        go_wp2_with fail
        refine H3.out.mono ?_
        rintro e w' ⟨rfl, rfl⟩
        cases A3 with
        | false =>
          go_wp2
          go_ret
          exact ⟨by simp, HB.out⟩
        | true =>
          go_wp2
          go_ret
          exact ⟨by simp, HB.out⟩

theorem inPool_f (x : Int) (w : World) : Calls Tryd.prog 87 #[.int .i64 x] w fun e w' => e = .returned (.bool (decide (0 ≤ x ∧ x ≤ 15))) ∧ w' = w := by
  by_cases h1 : x < 0
  · have hd : decide (0 ≤ x ∧ x ≤ 15) = false := by simp; omega
    rw [hd]
    go_enter Tryd.func87, Tryd.ntmps87
    go_wp2
    go_ret
    exact ⟨rfl, rfl⟩
  · by_cases h2 : x < 16
    · have hd : decide (0 ≤ x ∧ x ≤ 15) = true := by simp; omega
      rw [hd]
      go_enter Tryd.func87, Tryd.ntmps87
      go_wp2
      go_ret
      exact ⟨rfl, rfl⟩
    · have hd : decide (0 ≤ x ∧ x ≤ 15) = false := by simp; omega
      rw [hd]
      go_enter Tryd.func87, Tryd.ntmps87
      go_wp2
      go_ret
      exact ⟨rfl, rfl⟩

set_option maxRecDepth 100000 in
set_option maxHeartbeats 1000000 in
theorem sigFormOk_any (a : Int) (vo vs vd : Value) (g1 o1 g2 o2 g3 o3 : Nat) (o s d : List ByteArray) (w : World) (ho : SS w vo g1 o1 o) (hs : SS w vs g2 o2 s) (hd : SS w vd g3 o3 d) :
    Calls Tryd.prog 86 #[.agg #[.int .i64 a, vo, vs, vd]] w fun e w' => e = .returned (.bool (formB a o s d)) ∧ Below w.heap.size w w' := by
  have H1 : Hid (∀ W, Below w.heap.size w W → Calls Tryd.prog 140 #[vo, .int .i64 16] W fun e w' => e = .returned (.bool (kwB o)) ∧ w' = W) := fun W hW => allWide_16 vo g1 o1 o _ (ho.below hW ho.lt)
  have H2 : Hid (∀ W, Below w.heap.size w W → Calls Tryd.prog 140 #[vs, .int .i64 16] W fun e w' => e = .returned (.bool (kwB s)) ∧ w' = W) := fun W hW => allWide_16 vs g2 o2 s _ (hs.below hW hs.lt)
  have H3 : Hid (∀ W, Below w.heap.size w W → Calls Tryd.prog 140 #[vd, .int .i64 16] W fun e w' => e = .returned (.bool (kwB d)) ∧ w' = W) := fun W hW => allWide_16 vd g3 o3 d _ (hd.below hW hd.lt)
  unfold formB
  generalize kwB o = A1 at *
  generalize kwB s = A2 at *
  generalize kwB d = A3 at *
  generalize hA0 : decide (0 ≤ a ∧ a ≤ 15) = A0
  obtain ⟨ao, co, rfl, hlo, hx1⟩ := ho
  obtain ⟨as2, cs2, rfl, hls, hx2⟩ := hs
  obtain ⟨ad, cd, rfl, hld, hx3⟩ := hd
  clear hx1 hx2 hx3
  generalize o.length = n1 at *
  generalize s.length = n2 at *
  generalize d.length = n3 at *
  have HB : Hid (∀ x y z : Obj, Below w.heap.size w (((w.alloc x).alloc y).alloc z)) := fun x y z => (((Below.refl _ _).alloc (Nat.le_refl _) _).alloc (by simp) _).alloc (by simp; omega) _
  by_cases h1 : (n1 : Int) = 8
  · by_cases h2 : (n2 : Int) = 8
    · by_cases h3 : (n3 : Int) = 4
      · obtain rfl : n1 = 8 := by omega
        obtain rfl : n2 = 8 := by omega
        obtain rfl : n3 = 4 := by omega
        clear h1 h2 h3 hlo hls hld
        go_enter Tryd.func86, Tryd.ntmps86
        go_wp2_with fail
        refine (inPool_f _ _).mono ?_
        rintro e w1 ⟨rfl, rfl⟩
        rw [hA0]
        clear hA0
        cases A0 with
        | false =>
          go_wp2
          go_ret
          exact ⟨by simp, HB.out _ _ _⟩
        | true =>
          go_wp2_with fail
          refine (H1.out _ (HB.out _ _ _)).mono ?_
          rintro e w1 ⟨rfl, rfl⟩
          cases A1 with
          | false =>
            go_wp2
            go_ret
            exact ⟨by simp, HB.out _ _ _⟩
          | true =>
            go_wp2_with fail
            refine (H2.out _ (HB.out _ _ _)).mono ?_
            rintro e w1 ⟨rfl, rfl⟩
            cases A2 with
            | false =>
              go_wp2
              go_ret
              exact ⟨by simp, HB.out _ _ _⟩
            | true =>
              go_wp2_with fail
              refine (H3.out _ (HB.out _ _ _)).mono ?_
              rintro e w1 ⟨rfl, rfl⟩
              go_wp2
              go_ret
              exact ⟨by simp, HB.out _ _ _⟩
      · obtain rfl : n1 = 8 := by omega
        obtain rfl : n2 = 8 := by omega
        have hF : (A0 && ((A1 && decide ((8 : Nat) = 8)) && ((A2 && decide ((8 : Nat) = 8)) && (A3 && decide (n3 = 4))))) = false := by
          rw [decide_eq_false (show ¬ n3 = 4 by omega)]; simp
        rw [hF]
        clear h1 h2 hlo hls hF
        go_enter Tryd.func86, Tryd.ntmps86
        go_wp2_with fail
        refine (inPool_f _ _).mono ?_
        rintro e w1 ⟨rfl, rfl⟩
        rw [hA0]
        clear hA0
        cases A0 with
        | false =>
          go_wp2
          go_ret
          exact ⟨by simp, HB.out _ _ _⟩
        | true =>
          go_wp2
          go_ret
          exact ⟨by simp, HB.out _ _ _⟩
    · obtain rfl : n1 = 8 := by omega
      have hF : (A0 && ((A1 && decide ((8 : Nat) = 8)) && ((A2 && decide (n2 = 8)) && (A3 && decide (n3 = 4))))) = false := by
        rw [decide_eq_false (show ¬ n2 = 8 by omega)]; simp
      rw [hF]
      clear h1 hlo hF
      go_enter Tryd.func86, Tryd.ntmps86
      go_wp2_with fail
      refine (inPool_f _ _).mono ?_
      rintro e w1 ⟨rfl, rfl⟩
      rw [hA0]
      clear hA0
      cases A0 with
      | false =>
        go_wp2
        go_ret
        exact ⟨by simp, HB.out _ _ _⟩
      | true =>
        go_wp2
        go_ret
        exact ⟨by simp, HB.out _ _ _⟩
  · have hF : (A0 && ((A1 && decide (n1 = 8)) && ((A2 && decide (n2 = 8)) && (A3 && decide (n3 = 4))))) = false := by
      rw [decide_eq_false (show ¬ n1 = 8 by omega)]; simp
    rw [hF]
    clear hF
    go_enter Tryd.func86, Tryd.ntmps86
    go_wp2_with fail
    refine (inPool_f _ _).mono ?_
    rintro e w1 ⟨rfl, rfl⟩
    rw [hA0]
    clear hA0
    cases A0 with
    | false =>
      go_wp2
      go_ret
      exact ⟨by simp, HB.out _ _ _⟩
    | true =>
      go_wp2
      go_ret
      exact ⟨by simp, HB.out _ _ _⟩

end Go.Proofs.YtmfoliocibjdnaaDoor
