/-
  Texts laid together: Math, Own, Var, Short, Pad, Padw, Padi, Sha, Arr, Pro, Whole, Blk.
-/
import Derived.Test.YtdifilcdiacbpaaDoorRows
import Derived.WalkKit
import Derived.Lib.ConvBytes
import Derived.Lib.BufferWrite
import Derived.Below
import Derived.Laws.BitsAllLaws
import Derived.Laws.Rows
import Derived.Deep.QuietTactic
import Derived.BigQuiet
import Derived.Deep.WholeRow
import Derived.BigFrame
import Derived.BigRegion
/-
  Plain facts on numbers in bytes: how VarText writes a number, and how it is read again.
-/
namespace Go.Proofs.YtdifilcdiacbpaaDoor.M

def varF : Nat → Nat → List UInt8
  | 0, n => [UInt8.ofNat n]
  | f + 1, n => if n ≤ 127 then [UInt8.ofNat n] else UInt8.ofNat (n % 128 + 128) :: varF f (n / 128)

def varL (n : Nat) : List UInt8 := varF 9 n

theorem varF_small (f n : Nat) (h : n ≤ 127) : varF f n = [UInt8.ofNat n] := by
  cases f with
  | zero => rfl
  | succ f => simp [varF, h]

theorem varF_big (f n : Nat) (h : 127 < n) : varF (f + 1) n = UInt8.ofNat (n % 128 + 128) :: varF f (n / 128) := by
  simp [varF]; omega

theorem varF_len (f n : Nat) : (varF f n).length ≤ f + 1 := by
  induction f generalizing n with
  | zero => simp [varF]
  | succ f ih =>
    simp only [varF]
    split
    · simp
    · have := ih (n / 128); simp; omega

theorem varL_len (n : Nat) : (varL n).length ≤ 10 := varF_len 9 n

/-- the value of bytes, seven bits each, the lowest first -/
def val : List UInt8 → Nat
  | [] => 0
  | b :: r => b.toNat % 128 + 128 * val r

/-- all but the last have their highest bit, the last has it not -/
def shaped : List UInt8 → Prop
  | [] => False
  | [b] => b.toNat < 128
  | b :: c :: r => 128 ≤ b.toNat ∧ shaped (c :: r)

theorem ofNat_toNat (b : UInt8) (n : Nat) (h : n = b.toNat) : UInt8.ofNat n = b := by
  subst h; simp

theorem val_zero : ∀ (l : List UInt8), shaped l → val l = 0 → ∃ a : UInt8, l.getLast? = some a ∧ a = 0
  | [], h, _ => h.elim
  | [b], h, hv => by
    simp only [shaped] at h
    simp only [val] at hv
    exact ⟨b, rfl, by
      have : b.toNat = 0 := by omega
      exact UInt8.toNat_inj.1 (by simpa using this)⟩
  | b :: c :: r, h, hv => by
    simp only [shaped] at h
    have hv' : val (c :: r) = 0 := by
      rw [val] at hv
      omega
    obtain ⟨a, ha, h0⟩ := val_zero (c :: r) h.2 hv'
    exact ⟨a, by simpa using ha, h0⟩

theorem val_pos : ∀ (l : List UInt8), shaped l → l.getLast? ≠ some 0 → 1 ≤ val l := by
  intro l h hl
  rcases Nat.eq_zero_or_pos (val l) with h0 | h0
  · obtain ⟨a, ha, rfl⟩ := val_zero l h h0
    exact absurd ha hl
  · exact h0

theorem canon : ∀ (f : Nat) (l : List UInt8), shaped l → l.length ≤ f + 1 → (varF f (val l) = l ↔ (l.length = 1 ∨ l.getLast? ≠ some 0))
  | f, [], h, _ => h.elim
  | f, [b], h, _ => by
    simp only [shaped] at h
    have e : val [b] = b.toNat := by simp only [val]; omega
    rw [e, varF_small f _ (by omega)]
    simp
  | 0, b :: c :: r, h, hl => by simp at hl
  | f + 1, b :: c :: r, h, hl => by
    simp only [shaped] at h
    have hv : val (b :: c :: r) = b.toNat % 128 + 128 * val (c :: r) := rfl
    have hb : b.toNat < 256 := b.toNat_lt
    have ih := canon f (c :: r) h.2 (by simp at hl ⊢; omega)
    have hlast : (b :: c :: r).getLast? = (c :: r).getLast? := by simp
    rcases Nat.eq_zero_or_pos (val (c :: r)) with h0 | h0
    · obtain ⟨a, ha, rfl⟩ := val_zero _ h.2 h0
      rw [hv, h0, varF_small _ _ (by omega), hlast, ha]
      simp
    · rw [hv, varF_big _ _ (by omega)]
      have e1 : (b.toNat % 128 + 128 * val (c :: r)) / 128 = val (c :: r) := by omega
      have e2 : UInt8.ofNat ((b.toNat % 128 + 128 * val (c :: r)) % 128 + 128) = b := ofNat_toNat b _ (by omega)
      rw [e1, e2, hlast]
      constructor
      · intro he
        have he' : varF f (val (c :: r)) = c :: r := by simpa using he
        rcases ih.1 he' with h1 | h1
        · right
          have hr : r = [] := by simpa using h1
          subst hr
          intro hc
          simp at hc
          subst hc
          simp [val] at h0
        · exact .inr h1
      · intro he
        rcases he with h1 | h1
        · simp at h1
        · rw [ih.2 (.inr h1)]

/-- reading a number: fuel, how many bytes were read, what they made -/
def rv (s : List UInt8) (p : Nat) : Nat → Nat → Nat → Option (Nat × Nat)
  | 0, _, _ => none
  | f + 1, i, n =>
    match s[p + i]? with
    | none => none
    | some b =>
      if 128 ≤ b.toNat then rv s p f (i + 1) (n + b.toNat % 128 * 128 ^ i)
      else if (b.toNat = 0 ∧ 0 < i) ∨ 1000000000 < n + b.toNat % 128 * 128 ^ i then none
      else some (n + b.toNat % 128 * 128 ^ i, p + i + 1)

def readVar (s : List UInt8) (p : Nat) : Option (Nat × Nat) := rv s p 5 0 0

end Go.Proofs.YtdifilcdiacbpaaDoor.M
/-
  Laws on a slice of bytes that the call itself has made: appending to it, and making a string of it.
-/
namespace Go.Proofs.YtdifilcdiacbpaaDoor
open Go.RowKit

def bv (l : List UInt8) : List Value := l.map (fun b => Value.int .u8 (b.toNat : Int))

theorem bv_length (l : List UInt8) : (bv l).length = l.length := by simp [bv]
theorem bv_append (l r : List UInt8) : bv (l ++ r) = bv l ++ bv r := by simp [bv]
theorem bv_get (l : List UInt8) (j : Nat) (u : Value) (h : (bv l)[j]? = some u) : ∃ hj : j < l.length, u = .int .u8 (l[j].toNat : Int) := by
  unfold bv at h
  rw [List.getElem?_map] at h
  cases hl : l[j]? with
  | none => rw [hl] at h; simp at h
  | some b =>
    rw [hl] at h
    obtain ⟨hj, hb⟩ := List.getElem?_eq_some_iff.1 hl
    simp at h
    exact ⟨hj, by rw [hb]; exact h.symm⟩

theorem Tryd.info5 : (Tryd.prog.info? 5).map (fun i => (i.zero, i.size, i.bytes)) = some (some (.int .u8 0), 1, 1) := by kernel_rfl
theorem Tryd.info3 : (Tryd.prog.info? 3).map (fun i => (i.zero, i.size, i.bytes)) = some (some (.int .i64 0), 1, 8) := by kernel_rfl

/-- v owns the bytes l, in blocks from B on; below B all is as it was in w0 -/
def OB (B : Nat) (w0 w : World) (v : Value) (l : List UInt8) : Prop :=
  w.ownsRow B 5 1 v l.length (bv l) ∧ Below B w0 w ∧ B ≤ w.heap.size

theorem OB.alloc {B : Nat} {w0 w : World} {v : Value} {l : List UInt8} (h : OB B w0 w v l) (o : Obj) : OB B w0 (w.alloc o) v l :=
  ⟨h.1.alloc o, h.2.1.alloc h.2.2 o, by have := h.2.2; simp; omega⟩
theorem OB.drew {B : Nat} {w0 w : World} {v : Value} {l : List UInt8} (h : OB B w0 w v l) : OB B w0 w.drew v l :=
  ⟨h.1.drew, h.2.1.drew, h.2.2⟩

theorem OB.nil (w : World) : OB w.heap.size w w (.slice none 0 0) [] :=
  ⟨World.ownsRow_nil _ _ _ _, Below.refl _ _, Nat.le_refl _⟩

theorem OB.made (w : World) : OB w.heap.size w (w.alloc (.cells #[] 5)) (.slice (some ⟨w.heap.size, 0, none⟩) 0 0) [] :=
  ⟨World.ownsRow_made w #[] 0 (Nat.le_refl _) (by decide) (by simp), (Below.refl _ _).alloc (Nat.le_refl _) _, by simp⟩

theorem wp_app {w : World} {ops : Array Oper} {rest : List Oper} {o : Oper} {a : Act} {Q : Exit → Act → World → Prop} (hgd : o.guard = none) (s x : Operand)
    (ho : o.op = .call { callee := .builtin .append, args := #[s, x], argTypes := #[22, 22] })
    (B : Nat) (w0 : World) (v : Value) (l : List UInt8) (hs : a.eval s = v) (hown : OB B w0 w v l)
    (ad : Addr) (m c : Nat) (news : List UInt8) (hx : a.eval x = .slice (some ad) m c) (hm : news.length = m)
    (hnews : ∀ j u, (bv news)[j]? = some u → w.cell? (ad.add j) = some u) (hlen : l.length + m ≤ 1000000000)
    (h : ∀ v' w', OB B w0 w' v' (l ++ news) → wpList Tryd.prog ops Q rest (a.put o.dst v') w') : wpList Tryd.prog ops Q (o :: rest) a w := by
  obtain ⟨i0, hi, hz0, hz1, hz2⟩ := info_parts Tryd.info5
  refine wpList_append_own _ hgd s x 22 ho B 5 i0 (.int .u8 0) 1 1 Tryd.underlying22 hi hz0 hz1 hz2 rfl (by decide) v l.length (bv l) hs hown.1 ad m c (bv news) hx (by simp [bv, hm]) hnews
    (fun u hu => by simp [bv] at hu; obtain ⟨b, _, rfl⟩ := hu; rfl) (by unfold maxLen; omega) (by omega) hown.2.2 ?_
  intro v' w' h1 h2 _
  refine h v' w' ⟨by rw [List.length_append, bv_append, hm]; exact h1, hown.2.1.grown h2 hown.2.2 (fun k hk => (hown.1.lt k hk).1), ?_⟩
  exact Nat.le_trans hown.2.2 h2.size

/-- 'string(b)' of a slice that the call owns -/
theorem run_str {B : Nat} {w0 w : World} {v : Value} {l : List UInt8} (h : OB B w0 w v l) : (convert 22 9 v).run Tryd.prog w = .ok (.string ⟨l.toArray⟩) w := by
  rcases h.1.2 with ⟨rfl, hn⟩ | ⟨g, cap, cur, rfl, hb, hgg, hnc, hcm, hsz, htake⟩
  · have : l = [] := by simpa using hn
    subst this
    rw [run_convert_bytes_string w 22 9 5 none 0 0 Tryd.underlying22 Tryd.underlying5 Tryd.underlying9]
    unfold Conv.bytesToString
    rfl
  · refine run_convert_bytes_back w 22 9 5 ⟨g, 0, none⟩ cap l Tryd.underlying22 Tryd.underlying5 Tryd.underlying9 ?_
    intro j hj
    refine h.1.cells (g := g) rfl j _ ?_
    simp [bv, List.getElem?_eq_getElem hj]

end Go.Proofs.YtdifilcdiacbpaaDoor
/-
  What VarText answers, the program's and the specification's: the bytes varL of the number.
-/
namespace Go.Proofs.YtdifilcdiacbpaaDoor
open Go.RowKit

theorem one_byte (w : World) (x : Int) (b : UInt8) (t : TypeId) (h : x = (b.toNat : Int)) : ∀ j u, (bv [b])[j]? = some u → (w.alloc (.cells #[.int .u8 x] t)).cell? ((⟨w.heap.size, 0, none⟩ : Addr).add j) = some u := by
  intro j u hj
  obtain ⟨hj', rfl⟩ := bv_get _ _ _ hj
  have h0 : j = 0 := by simp at hj'; exact hj'
  subst h0
  subst h
  simp [Addr.add]

def hiB (m : Nat) : UInt8 := UInt8.ofNat (m % 128 + 128)
def loB (m : Nat) : UInt8 := UInt8.ofNat m
theorem byte_hi (m : Nat) : ((m : Int) % 128 + 128) = ((hiB m).toNat : Int) := by
  unfold hiB; simp; omega
theorem byte_lo (m : Nat) (h : m ≤ 127) : (m : Int) = ((loB m).toNat : Int) := by
  unfold loB; simp; omega

/-- what the loop of VarText holds at each round's head: so many bytes are written, and those of the rest make the whole -/
def VarRel (n : Nat) (w : World) (x v : Value) (wr : World) : Prop :=
  ∃ (m f : Nat) (pre : List UInt8), m ≤ n ∧ m < 128 ^ (f + 1) ∧ x = .int .i64 m ∧ OB w.heap.size w wr v pre ∧ pre.length ≤ 10 ∧ pre ++ M.varF f m = M.varL n

theorem VarRel.step {n m f : Nat} {pre : List UInt8} (h : 127 < m) (hf : m < 128 ^ (f + 1)) (he : pre ++ M.varF f m = M.varL n) :
    ∃ f', m / 128 < 128 ^ (f' + 1) ∧ (pre ++ [hiB m]) ++ M.varF f' (m / 128) = M.varL n ∧ (pre ++ [hiB m]).length ≤ 10 := by
  cases f with
  | zero => simp at hf; omega
  | succ f =>
    rw [M.varF_big _ _ h] at he
    change pre ++ hiB m :: M.varF f (m / 128) = M.varL n at he
    refine ⟨f, ?_, by simpa using he, ?_⟩
    · have : m < 128 ^ (f + 1) * 128 := by rw [← Nat.pow_succ]; exact hf
      omega
    · have h1 := M.varL_len n
      rw [← he] at h1
      simp at h1 ⊢
      omega

set_option maxHeartbeats 400000 in
theorem l01Var_any (n : Nat) (w : World) (hn : n ≤ 1000000000) :
    Calls Tryd.prog 62 #[.int .i64 n] w fun e w' => e = .returned (.string ⟨(M.varL n).toArray⟩) ∧ Below w.heap.size w w' := by
  go_enter Tryd.func62, Tryd.ntmps62
  go_wp2
  go_loopw [0, 3] (fun x v wr => VarRel n w x v wr) (fun x _ _ => (intOf x).toNat)
  case atStart => exact ⟨n, 9, [], Nat.le_refl _, by omega, rfl, OB.made w, by simp, rfl⟩
  case round =>
    obtain ⟨m, f, pre, hmn, hmf, rfl, hown, hpl, he⟩ := hrel
    by_cases h : 127 < m
    · obtain ⟨f', h1, h2, h3⟩ := VarRel.step h hmf he
      have H2 : Hid ((pre ++ [hiB m]) ++ M.varF f' (m / 128) = M.varL n) := h2
      clear h2 he hmf
      go_wp2_with (at_builtin; refine wp_app rfl _ _ rfl w.heap.size w _ pre rfl (hown.alloc _) ⟨wr.heap.size, 0, none⟩ 1 1 [hiB m] rfl rfl ?c1 ?c2 ?_)
      case c1 => exact one_byte _ _ _ _ (byte_hi m)
      case c2 => omega
      intro v' w1 hown'
      go_wp2
      go_roundw
      case rel => exact ⟨m / 128, f', _, by omega, h1, by go_num, hown', h3, H2.out⟩
      case measure => simp [intOf]; omega
    · have he' : pre ++ [loB m] = M.varL n := by rw [M.varF_small f m (by omega)] at he; exact he
      have H2 : Hid (pre ++ [loB m] = M.varL n) := he'
      clear he' he hmf
      go_wp2_with (at_builtin; refine wp_app rfl _ _ rfl w.heap.size w _ pre rfl (hown.alloc _) ⟨wr.heap.size, 0, none⟩ 1 1 [loB m] rfl rfl ?c3 ?c4 ?_)
      case c3 => exact one_byte _ _ _ _ (byte_lo m (by omega))
      case c4 => omega
      intro v' w1 hown'
      have hcv := run_str hown'
      go_wp2
      go_ret
      exact ⟨by rw [H2.out]; rfl, hown'.2.1⟩


set_option maxHeartbeats 400000 in
theorem VarText_yes (n : Nat) (w : World) (hn : n ≤ 1000000000) :
    Calls Tryd.prog 83 #[.int .i64 n] w fun e w' => e = .returned (.tuple #[.string ⟨(M.varL n).toArray⟩, .bool true]) ∧ Below w.heap.size w w' := by
  go_enter Tryd.func83, Tryd.ntmps83
  go_wp2
  go_loopw [0, 4] (fun x v wr => VarRel n w x v wr) (fun x _ _ => (intOf x).toNat)
  case atStart => exact ⟨n, 9, [], Nat.le_refl _, by omega, rfl, OB.nil w, by simp, rfl⟩
  case round =>
    obtain ⟨m, f, pre, hmn, hmf, rfl, hown, hpl, he⟩ := hrel
    by_cases h : 127 < m
    · obtain ⟨f', h1, h2, h3⟩ := VarRel.step h hmf he
      have H2 : Hid ((pre ++ [hiB m]) ++ M.varF f' (m / 128) = M.varL n) := h2
      clear h2 he hmf
      go_wp2_with (at_builtin; refine wp_app rfl _ _ rfl w.heap.size w _ pre rfl (hown.alloc _) ⟨wr.heap.size, 0, none⟩ 1 1 [hiB m] rfl rfl ?c1 ?c2 ?_)
      case c1 => exact one_byte _ _ _ _ (byte_hi m)
      case c2 => omega
      intro v' w1 hown'
      go_wp2
      go_roundw
      case rel => exact ⟨m / 128, f', _, by omega, h1, by go_num, hown', h3, H2.out⟩
      case measure => simp [intOf]; omega
    · have he' : pre ++ [loB m] = M.varL n := by rw [M.varF_small f m (by omega)] at he; exact he
      have H2 : Hid (pre ++ [loB m] = M.varL n) := he'
      clear he' he hmf
      go_wp2_with (at_builtin; refine wp_app rfl _ _ rfl w.heap.size w _ pre rfl (hown.alloc _) ⟨wr.heap.size, 0, none⟩ 1 1 [loB m] rfl rfl ?c3 ?c4 ?_)
      case c3 => exact one_byte _ _ _ _ (byte_lo m (by omega))
      case c4 => omega
      intro v' w1 hown'
      have hcv := run_str hown'
      go_wp2
      go_ret2
      exact ⟨by rw [H2.out]; rfl, hown'.2.1⟩

theorem VarText_no (n : Int) (w : World) (hn : n < 0 ∨ 1000000000 < n) :
    Calls Tryd.prog 83 #[.int .i64 n] w fun e w' => e = .returned (.tuple #[.string ⟨#[]⟩, .bool false]) ∧ Below w.heap.size w w' := by
  rcases hn with h | h
  · go_enter Tryd.func83, Tryd.ntmps83
    go_wp2
    go_ret2
    exact ⟨rfl, Below.refl _ _⟩
  · have h' : ¬ n < 0 := by omega
    go_enter Tryd.func83, Tryd.ntmps83
    go_wp2
    go_ret2
    exact ⟨rfl, Below.refl _ _⟩

theorem l01In_any (x a b : Int) (w : World) : Calls Tryd.prog 42 #[.int .i64 x, .int .i64 a, .int .i64 b] w fun e w' => e = .returned (.bool (decide (a ≤ x ∧ x ≤ b))) ∧ w' = w := by
  by_cases h1 : a ≤ x
  · by_cases h2 : x ≤ b
    · go_enter Tryd.func42, Tryd.ntmps42
      go_wp2
      go_ret
      exact ⟨by simp [h1, h2], rfl⟩
    · go_enter Tryd.func42, Tryd.ntmps42
      go_wp2
      go_ret
      exact ⟨by simp [h2], rfl⟩
  · go_enter Tryd.func42, Tryd.ntmps42
    go_wp2
    go_ret
    exact ⟨by simp; omega, rfl⟩

end Go.Proofs.YtdifilcdiacbpaaDoor
/-
  What ShortText answers, the program's and the specification's: varL of the length, and the text.
-/
namespace Go.Proofs.YtdifilcdiacbpaaDoor
open Go.RowKit

theorem varA_size (n : Nat) : (⟨(M.varL n).toArray⟩ : ByteArray).size ≤ 10 := by
  have := M.varL_len n
  show (M.varL n).toArray.size ≤ 10
  simpa using this

theorem Short_yes (s : ByteArray) (w : World) (hs : s.size ≤ 20000) :
    Calls Tryd.prog 79 #[.string s] w fun e w' => e = .returned (.tuple #[.string (⟨(M.varL s.size).toArray⟩ ++ s), .bool true]) ∧ Below w.heap.size w w' := by
  have hz := varA_size s.size
  go_enter Tryd.func79, Tryd.ntmps79
  go_wp2_with fail
  refine (VarText_yes s.size _ (by omega)).mono ?_
  rintro e w' ⟨rfl, hb⟩
  go_wp2
  go_ret2
  exact ⟨rfl, hb⟩

theorem Short_no (s : ByteArray) (w : World) (hs : 20000 < s.size) (hm : s.size ≤ 1048576) :
    Calls Tryd.prog 79 #[.string s] w fun e w' => e = .returned (.tuple #[.string ⟨#[]⟩, .bool false]) ∧ Below w.heap.size w w' := by
  go_enter Tryd.func79, Tryd.ntmps79
  go_wp2
  go_ret2
  exact ⟨rfl, Below.refl _ _⟩

end Go.Proofs.YtdifilcdiacbpaaDoor
/-
  What PadText answers, in plain words; a row of bytes that the call owns, also one that was made of a string.
-/
namespace Go.Proofs.YtdifilcdiacbpaaDoor
open Go.RowKit
set_option linter.unusedVariables false

/-- the byte of place j of the length, the highest first -/
def lenB (n j : Nat) : UInt8 := UInt8.ofNat (n / 256 ^ (7 - j))
def lenL (n k : Nat) : List UInt8 := (List.range k).map (lenB n)
def padZ (n : Nat) : Nat := (119 - n % 64) % 64
def padL (l : List UInt8) : List UInt8 := (l ++ [128] ++ List.replicate (padZ l.length) 0) ++ lenL (8 * l.length) 8

theorem lenL_len (n k : Nat) : (lenL n k).length = k := by simp [lenL]
theorem lenL_succ (n k : Nat) : lenL n (k + 1) = lenL n k ++ [lenB n k] := by simp [lenL, List.range_succ]
theorem padZ_mod (n : Nat) : (n + 1 + padZ n) % 64 = 56 := by unfold padZ; omega
theorem padZ_least (n k : Nat) (h : k < padZ n) : (n + 1 + k) % 64 ≠ 56 := by unfold padZ at h; omega
theorem padL_len (l : List UInt8) : (padL l).length = l.length + 1 + padZ l.length + 8 := by
  unfold padL
  rw [List.length_append, lenL_len]
  simp
  omega
theorem padL_blocks (l : List UInt8) : (padL l).length = (l.length + 72) / 64 * 64 := by
  rw [padL_len]
  unfold padZ
  omega

/-- v owns the bytes l, in blocks from B on; what lies behind its row may bear a mark; below B all is as it was in w0 -/
def OG (B : Nat) (w0 w : World) (v : Value) (l : List UInt8) : Prop :=
  (∃ (g cap : Nat) (cur : Array Value) (fz : Nat × Nat), v = .slice (some ⟨g, 0, none⟩) l.length cap ∧ B ≤ g ∧ w.heap[g]? = some (.cells cur 5 fz) ∧ (fz = (0, 0) ∨ cap ≤ fz.1) ∧ l.length ≤ cap ∧ cap ≤ maxLen ∧ cur.size = cap ∧
    ∀ j (h : j < l.length), cur[j]? = some (.int .u8 (l[j].toNat : Int))) ∧ Below B w0 w ∧ B ≤ w.heap.size

theorem OG.alloc {B : Nat} {w0 w : World} {v : Value} {l : List UInt8} (h : OG B w0 w v l) (o : Obj) : OG B w0 (w.alloc o) v l := by
  obtain ⟨⟨g, cap, cur, fz, hv, hb, hg, hr⟩, h2, h3⟩ := h
  exact ⟨⟨g, cap, cur, fz, hv, hb, by rw [Go.heap_alloc_old w o (Array.getElem?_eq_some_iff.1 hg).1]; exact hg, hr⟩, h2.alloc h3 o, by simp; omega⟩

theorem OG.size {B : Nat} {w0 w : World} {v : Value} {l : List UInt8} (h : OG B w0 w v l) : ∃ a cap, v = .slice a l.length cap := by
  obtain ⟨⟨g, cap, cur, fz, hv, _⟩, _⟩ := h
  exact ⟨_, cap, hv⟩

theorem OG.conv (t : ByteArray) (w : World) (ht : t.size ≤ maxLen) : ∃ (w' : World) (cap : Nat), (convert 9 22 (.string t)).run Tryd.prog w = .ok (.slice (some ⟨w.heap.size, 0, none⟩) t.size cap) w' ∧ OG w.heap.size w w' (.slice (some ⟨w.heap.size, 0, none⟩) t.size cap) t.data.toList := by
  have h1 : t.data.toList.length = t.size := Array.length_toList
  have hge := grownCap_ge w t.size 0 5
  have hcm := grownCap_le_maxLen w t.size 0 5 ht
  refine ⟨Lib.bytesWorld w 5 t, grownCap w t.size 0 5, Lib.run_convert_string_bytes w 9 22 5 t Tryd.underlying9 Tryd.underlying22 Tryd.underlying5, ⟨_, _, _, _, by rw [h1], Nat.le_refl _, Lib.bytesWorld_at_new w 5 t, ?_, by omega, hcm, ?_, ?_⟩, ⟨?_, ?_, ?_, ?_, ?_⟩, ?_⟩
  · right
    simp [Lib.bytesCells]
    have : t.data.size = t.size := rfl
    omega
  · simp [Lib.bytesCells]
    have : t.data.size = t.size := rfl
    omega
  · intro j hj
    have hj' : j < t.data.size := by have : t.data.size = t.size := rfl; omega
    have hj2 : j < t.size := hj'
    simp [Lib.bytesCells, Array.getElem?_append, hj2]
  · simp [Lib.bytesWorld, World.freeze, World.alloc, World.drew, -World.alloc_eq, -World.drew_eq]
  · simp [Lib.bytesWorld, World.freeze, World.alloc, World.drew, -World.alloc_eq, -World.drew_eq]
  · simp [Lib.bytesWorld, World.freeze, World.alloc, World.drew, -World.alloc_eq, -World.drew_eq]
  · rw [Lib.bytesWorld_size]; omega
  · intro b hb
    exact Lib.bytesWorld_at_old w 5 t b hb
  · rw [Lib.bytesWorld_size]; omega

/-- one byte more -/
theorem OG.app {B : Nat} {w0 w : World} {v : Value} {l : List UInt8} (h : OG B w0 w v l) (ty : TypeId) (ad : Addr) (c : Nat) (b : UInt8) (hx : w.cell? ad = some (.int .u8 (b.toNat : Int))) (hlen : l.length + 1 ≤ 1000000000) :
    ∃ v' w', (Builtin.append_ #[22, 22] ty #[v, .slice (some ad) 1 c]).run Tryd.prog w = .ok v' w' ∧ OG B w0 w' v' (l ++ [b]) := by
  obtain ⟨i0, hi, hz0, hz1, hz2⟩ := info_parts Tryd.info5
  obtain ⟨⟨g, cap, cur, fz, rfl, hb, hg, hfz, hn, hm, hcs, hcell⟩, hbel, hB⟩ := h
  have hglt := (Array.getElem?_eq_some_iff.1 hg).1
  have hnews : ∀ j u, [Value.int .u8 (b.toNat : Int)][j]? = some u → w.cell? (ad.add j) = some u := by
    intro j u hj
    have h0 : j = 0 := by
      rcases Nat.eq_zero_or_pos j with h0 | h0
      · exact h0
      · simp [List.getElem?_eq_none (show [Value.int .u8 (b.toNat : Int)].length ≤ j by simp; omega)] at hj
    subst h0
    simp at hj
    subst hj
    have : ad.add 0 = ad := by unfold Addr.add; split <;> simp_all
    rw [this]; exact hx
  by_cases hroom : l.length + 1 ≤ cap
  · have hi' : l.length < cur.size := by omega
    have hadd : (⟨g, 0, none⟩ : Addr).add l.length = ⟨g, l.length, none⟩ := by unfold Addr.add; split <;> simp_all
    have hadd0 : (⟨g, l.length, none⟩ : Addr).add 0 = ⟨g, l.length, none⟩ := by unfold Addr.add; split <;> simp_all
    have hc : w.cell? ⟨g, l.length, none⟩ = some cur[l.length] := by simp [World.cell?, hg, hi']
    have hf : w.frozen? ⟨g, l.length, none⟩ = false := by
      obtain ⟨lo, hi2⟩ := fz
      simp only [World.frozen?, hg, Bool.and_eq_false_iff, decide_eq_false_iff_not]
      rcases hfz with h0 | h0
      · simp at h0; right; omega
      · left; simp only at h0; omega
    have hfc := run_firstCells_some (P := Tryd.prog) w 1 1 ad 1 c [Value.int .u8 (b.toNat : Int)] rfl hnews
    have hst := run_store Tryd.prog w ⟨g, l.length, none⟩ (.int .u8 (b.toNat : Int)) .plain rfl
    rw [hc] at hst
    simp [hf] at hst
    refine ⟨.slice (some ⟨g, 0, none⟩) (l.length + 1) cap, w.setCell ⟨g, l.length, none⟩ (.int .u8 (b.toNat : Int)), ?_, ⟨g, cap, cur.setIfInBounds l.length (.int .u8 (b.toNat : Int)), fz, by simp, hb, ?_, hfz, by simpa using hroom, hm, by simpa using hcs, ?_⟩, hbel.setCell (p := ⟨g, l.length, none⟩) hb _, by simpa using hB⟩
    · simp [Builtin.append_, run_underlying Tryd.underlying22, sizeOf, typeInfo, hi, hz1, Builtin.lenOf, hroom, hfc, storeCells, hadd, hadd0, hst]
    · have := setCell_eq_setRow w g l.length cur 5 fz (.int .u8 (b.toNat : Int)) hg
      rw [this]
      exact setRow_heap w g cur _ 5 _ hg
    · intro j hj
      rw [Array.getElem?_setIfInBounds]
      by_cases he : l.length = j
      · subst he
        simp [hi']
      · rw [if_neg he]
        have hj2 : j < l.length := by simp at hj; omega
        rw [hcell j hj2, List.getElem_append_left hj2]
  · have hxs : ∀ j u, (bv l)[j]? = some u → w.cell? ((⟨g, 0, none⟩ : Addr).add j) = some u := by
      intro j u hj
      obtain ⟨hj', rfl⟩ := bv_get _ _ _ hj
      have hadd : (⟨g, 0, none⟩ : Addr).add j = ⟨g, j, none⟩ := by unfold Addr.add; split <;> simp_all
      rw [hadd, cell_of_row w g j cur 5 fz hg]
      exact hcell j hj'
    have hr := run_append_grow (P := Tryd.prog) w 22 ty 5 i0 (.int .u8 0) Tryd.underlying22 hi hz0 ⟨g, 0, none⟩ l.length cap (bv l) (by rw [hz1]; simp [bv]) hxs ad 1 c [Value.int .u8 (b.toNat : Int)] (by rw [hz1]; rfl) hnews (by omega) (by omega) (growslice_fits (by omega) (by rw [hz2]; omega))
    have hge := grownCap_ge w (l.length + 1) cap 5
    have hcm := grownCap_le_maxLen w (l.length + 1) cap 5 (by unfold maxLen; omega)
    refine ⟨_, _, hr, ⟨w.heap.size, _, _, (0, 0), by simp, by omega, heap_alloc_new w.drew _, .inl rfl, by simpa using hge, hcm, ?_, ?_⟩, (hbel.drew).alloc hB _, by simp; omega⟩
    · have hz : (Value.int IntKind.u8 0).cells.size = 1 := rfl
      simp only [Array.size_append, List.size_toArray, size_zeroCells, hz, bv_length]
      simp
      omega
    · intro j hj
      have hj2 : j < l.length + 1 := by simpa using hj
      simp only [List.append_toArray]
      rw [Array.getElem?_append_left (by simp [bv]; omega)]
      by_cases he : j < l.length
      · simp [bv, List.getElem?_append_left, he, List.getElem_append_left]
      · have : j = l.length := by omega
        subst this
        simp [bv]

/-- 'string(b)' -/
theorem OG.str {B : Nat} {w0 w : World} {v : Value} {l : List UInt8} (h : OG B w0 w v l) : (convert 22 9 v).run Tryd.prog w = .ok (.string ⟨l.toArray⟩) w := by
  obtain ⟨⟨g, cap, cur, fz, rfl, hb, hg, hfz, hn, hm, hcs, hcell⟩, hbel, hB⟩ := h
  refine run_convert_bytes_back w 22 9 5 ⟨g, 0, none⟩ cap l Tryd.underlying22 Tryd.underlying5 Tryd.underlying9 ?_
  intro j hj
  have hadd : (⟨g, 0, none⟩ : Addr).add j = ⟨g, j, none⟩ := by unfold Addr.add; split <;> simp_all
  rw [hadd, cell_of_row w g j cur 5 fz hg]
  exact hcell j hj

theorem wp_appg {w : World} {ops : Array Oper} {rest : List Oper} {o : Oper} {a : Act} {Q : Exit → Act → World → Prop} (hgd : o.guard = none) (s x : Operand)
    (ho : o.op = .call { callee := .builtin .append, args := #[s, x], argTypes := #[22, 22] })
    (B : Nat) (w0 : World) (v : Value) (l : List UInt8) (hs : a.eval s = v) (hown : OG B w0 w v l)
    (ad : Addr) (c : Nat) (b : UInt8) (hx : a.eval x = .slice (some ad) 1 c)
    (hnews : w.cell? ad = some (.int .u8 (b.toNat : Int))) (hlen : l.length + 1 ≤ 1000000000)
    (h : ∀ v' w', OG B w0 w' v' (l ++ [b]) → wpList Tryd.prog ops Q rest (a.put o.dst v') w') : wpList Tryd.prog ops Q (o :: rest) a w := by
  refine wpList_plain hgd fun K hK => ?_
  obtain ⟨v', w', hr, h2⟩ := hown.app o.type ad c b hnews hlen
  unfold Oper.wp
  simp [execOp, ho, resolve, invoke, builtin, hs, hx, hr, Result.andThen]
  exact hK _ _ (h v' w' h2)

end Go.Proofs.YtdifilcdiacbpaaDoor
/-
  The walks of PadText, the program's and the specification's.
-/
namespace Go.Proofs.YtdifilcdiacbpaaDoor
open Go.RowKit
set_option linter.unusedVariables false

def vlen : Value → Nat
  | .slice _ n _ => n
  | _ => 0

theorem OG.open {B : Nat} {w0 w : World} {v : Value} {l : List UInt8} (h : OG B w0 w v l) (n : Nat) (hn : l.length = n) : ∃ a cap, v = .slice a n cap := by
  subst hn
  exact h.size
theorem one_cell (w : World) (x : Int) (b : UInt8) (t : TypeId) (h : x = (b.toNat : Int)) : (w.alloc (.cells #[.int .u8 x] t)).cell? ⟨w.heap.size, 0, none⟩ = some (.int .u8 (b.toNat : Int)) := by
  subst h
  simp

def padHead (l : List UInt8) (k : Nat) : List UInt8 := l ++ [128] ++ List.replicate k 0
theorem padHead_len (l : List UInt8) (k : Nat) : (padHead l k).length = l.length + 1 + k := by simp [padHead]; omega
theorem padHead_succ (l : List UInt8) (k : Nat) : padHead l k ++ [0] = padHead l (k + 1) := by
  unfold padHead
  rw [List.append_assoc, ← List.replicate_succ']

def PadRel (t : ByteArray) (w : World) (v : Value) (wr : World) : Prop :=
  ∃ k : Nat, k ≤ padZ t.size ∧ OG w.heap.size w wr v (padHead t.data.toList k)
def PadRel2 (t : ByteArray) (w : World) (v i : Value) (wr : World) : Prop :=
  ∃ j : Nat, j ≤ 8 ∧ i = .int .i64 (7 - (j : Int)) ∧ OG w.heap.size w wr v (padHead t.data.toList (padZ t.size) ++ lenL (8 * t.size) j)

theorem lenB_nat (n j : Nat) : (lenB n j).toNat = n / 256 ^ (7 - j) % 256 := by simp [lenB]

set_option maxRecDepth 100000 in
set_option maxHeartbeats 1000000 in
theorem sPadText_any (t : ByteArray) (w : World) (ht : t.size ≤ 1048576) :
    Calls Tryd.prog 65 #[.string t] w fun e w' => e = .returned (.string ⟨(padL t.data.toList).toArray⟩) ∧ Below w.heap.size w w' := by
  obtain ⟨w1, cap, hcv, hog⟩ := OG.conv t w (by unfold maxLen; omega)
  have hl : t.data.toList.length = t.size := Array.length_toList
  go_enter Tryd.func65, Tryd.ntmps65
  go_wp2_with (at_builtin; refine wp_appg rfl _ _ rfl w.heap.size w _ t.data.toList rfl (hog.alloc _) ⟨w1.heap.size, 0, none⟩ 1 128 rfl ?c1 ?c2 ?_)
  case c1 => exact one_cell _ _ _ _ rfl
  case c2 => omega
  intro v w2 hown
  have HL : Hid (t.data.toList.length = t.size) := hl
  clear hcv hog hl
  go_wp2
  go_loopw [3] (fun v wr => PadRel t w v wr) (fun v _ => t.size + 1 + padZ t.size - vlen v)
  case atStart => exact ⟨0, Nat.zero_le _, by simpa [padHead] using hown⟩
  case round =>
    obtain ⟨k, hk, hog⟩ := hrel
    obtain ⟨N, hN⟩ : ∃ N : Nat, t.size + 1 + k = N := ⟨_, rfl⟩
    obtain ⟨a, c, rfl⟩ := hog.open N (by rw [padHead_len, HL.out]; exact hN)
    by_cases hlt : k < padZ t.size
    · have h56 : (N : Int) % 64 ≠ 56 := by have := padZ_least t.size k hlt; omega
      have hp : padZ t.size ≤ 63 := by unfold padZ; omega
      have HLT : Hid (k < padZ t.size) := hlt
      have HP := padHead_len t.data.toList k
      rw [HL.out] at HP
      have HN : Hid (t.size + 1 + k = N) := hN
      clear hlt hk hN
      go_wp2_with (at_builtin; refine wp_appg rfl _ _ rfl w.heap.size w _ (padHead t.data.toList k) rfl (hog.alloc _) ⟨wr.heap.size, 0, none⟩ 1 0 rfl ?c3 ?c4 ?_)
      case c3 => exact one_cell _ _ _ _ rfl
      case c4 => have := HLT.out; omega
      intro v3 w3 hown3
      rw [padHead_succ] at hown3
      go_wp2
      go_roundw
      case rel => exact ⟨k + 1, HLT.out, hown3⟩
      case measure =>
        obtain ⟨a3, c3, rfl⟩ := hown3.open (N + 1) (by rw [padHead_len, HL.out]; have := HN.out; omega)
        have := HN.out
        have := HLT.out
        show t.size + 1 + padZ t.size - (N + 1) < t.size + 1 + padZ t.size - N
        omega
    · have hke : k = padZ t.size := by omega
      have h56 : (N : Int) % 64 = 56 := by have := padZ_mod t.size; omega
      subst hke
      clear hk hlt
      have HN : Hid (t.size + 1 + padZ t.size = N) := hN
      clear hN
      go_wp2
      go_loopw [3, 5] (fun v i wr => PadRel2 t w v i wr) (fun _ i _ => (intOf i + 1).toNat)
      case atStart => exact ⟨0, by omega, rfl, by simpa [lenL] using hog⟩
      case round =>
        obtain ⟨j, hj, rfl, hog2⟩ := hrel
        have HP : (padHead t.data.toList (padZ t.size) ++ lenL (8 * t.size) j).length ≤ 1048576 + 80 := by
          rw [List.length_append, lenL_len, padHead_len, HL.out]
          have : padZ t.size ≤ 63 := by unfold padZ; omega
          omega
        have hS := lenL_succ (8 * t.size) j
        have hB := lenB_nat (8 * t.size) j
        clear hog h56
        by_cases h8 : j = 8
        · subst h8
          have hcv := hog2.str
          have HF : Hid (padHead t.data.toList (padZ t.size) ++ lenL (8 * t.size) 8 = padL t.data.toList) := by
            show _ = _
            unfold padL padHead
            rw [HL.out]
          rw [HF.out] at hcv
          clear hS hB HP
          go_wp2
          go_ret
          exact ⟨rfl, hog2.2.1⟩
        · obtain ⟨I, hI⟩ : ∃ I : Int, 7 - (j : Int) = I := ⟨_, rfl⟩
          rw [hI]
          have H8 : (j = 0 ∧ I = 7) ∨ (j = 1 ∧ I = 6) ∨ (j = 2 ∧ I = 5) ∨ (j = 3 ∧ I = 4) ∨ (j = 4 ∧ I = 3) ∨ (j = 5 ∧ I = 2) ∨ (j = 6 ∧ I = 1) ∨ (j = 7 ∧ I = 0) := by omega
          have HB : Hid ((lenB (8 * t.size) j).toNat = 8 * t.size / 256 ^ (7 - j) % 256) := hB
          have HS : Hid (lenL (8 * t.size) (j + 1) = lenL (8 * t.size) j ++ [lenB (8 * t.size) j]) := hS
          have HPP : Hid ((padHead t.data.toList (padZ t.size) ++ lenL (8 * t.size) j).length ≤ 1048576 + 80) := HP
          clear hB hS h8 hj HP hI
          rcases H8 with ⟨rfl, rfl⟩ | ⟨rfl, rfl⟩ | ⟨rfl, rfl⟩ | ⟨rfl, rfl⟩ | ⟨rfl, rfl⟩ | ⟨rfl, rfl⟩ | ⟨rfl, rfl⟩ | ⟨rfl, rfl⟩
          · go_wp2_with (at_builtin; refine wp_appg rfl _ _ rfl w.heap.size w _ (padHead t.data.toList (padZ t.size) ++ lenL (8 * t.size) 0) rfl (hog2.alloc _) ⟨_, 0, none⟩ 1 (lenB (8 * t.size) 0) rfl ?c5 ?c6 ?_)
            case c5 => exact one_cell _ _ _ _ (by have := HB.out; omega)
            case c6 => have := HPP.out; omega
            intro v5 w5 hown5
            rw [← lenL_succ] at hown5
            go_wp2
            go_roundw
            case rel => exact ⟨1, by omega, rfl, hown5⟩
            case measure => simp [intOf]
          · go_wp2_with (at_builtin; refine wp_appg rfl _ _ rfl w.heap.size w _ (padHead t.data.toList (padZ t.size) ++ lenL (8 * t.size) 1) rfl (hog2.alloc _) ⟨_, 0, none⟩ 1 (lenB (8 * t.size) 1) rfl ?c5 ?c6 ?_)
            case c5 => exact one_cell _ _ _ _ (by have := HB.out; omega)
            case c6 => have := HPP.out; omega
            intro v5 w5 hown5
            rw [← lenL_succ] at hown5
            go_wp2
            go_roundw
            case rel => exact ⟨2, by omega, rfl, hown5⟩
            case measure => simp [intOf]
          · go_wp2_with (at_builtin; refine wp_appg rfl _ _ rfl w.heap.size w _ (padHead t.data.toList (padZ t.size) ++ lenL (8 * t.size) 2) rfl (hog2.alloc _) ⟨_, 0, none⟩ 1 (lenB (8 * t.size) 2) rfl ?c5 ?c6 ?_)
            case c5 => exact one_cell _ _ _ _ (by have := HB.out; omega)
            case c6 => have := HPP.out; omega
            intro v5 w5 hown5
            rw [← lenL_succ] at hown5
            go_wp2
            go_roundw
            case rel => exact ⟨3, by omega, rfl, hown5⟩
            case measure => simp [intOf]
          · go_wp2_with (at_builtin; refine wp_appg rfl _ _ rfl w.heap.size w _ (padHead t.data.toList (padZ t.size) ++ lenL (8 * t.size) 3) rfl (hog2.alloc _) ⟨_, 0, none⟩ 1 (lenB (8 * t.size) 3) rfl ?c5 ?c6 ?_)
            case c5 => exact one_cell _ _ _ _ (by have := HB.out; omega)
            case c6 => have := HPP.out; omega
            intro v5 w5 hown5
            rw [← lenL_succ] at hown5
            go_wp2
            go_roundw
            case rel => exact ⟨4, by omega, rfl, hown5⟩
            case measure => simp [intOf]
          · go_wp2_with (at_builtin; refine wp_appg rfl _ _ rfl w.heap.size w _ (padHead t.data.toList (padZ t.size) ++ lenL (8 * t.size) 4) rfl (hog2.alloc _) ⟨_, 0, none⟩ 1 (lenB (8 * t.size) 4) rfl ?c5 ?c6 ?_)
            case c5 => exact one_cell _ _ _ _ (by have := HB.out; omega)
            case c6 => have := HPP.out; omega
            intro v5 w5 hown5
            rw [← lenL_succ] at hown5
            go_wp2
            go_roundw
            case rel => exact ⟨5, by omega, rfl, hown5⟩
            case measure => simp [intOf]
          · go_wp2_with (at_builtin; refine wp_appg rfl _ _ rfl w.heap.size w _ (padHead t.data.toList (padZ t.size) ++ lenL (8 * t.size) 5) rfl (hog2.alloc _) ⟨_, 0, none⟩ 1 (lenB (8 * t.size) 5) rfl ?c5 ?c6 ?_)
            case c5 => exact one_cell _ _ _ _ (by have := HB.out; omega)
            case c6 => have := HPP.out; omega
            intro v5 w5 hown5
            rw [← lenL_succ] at hown5
            go_wp2
            go_roundw
            case rel => exact ⟨6, by omega, rfl, hown5⟩
            case measure => simp [intOf]
          · go_wp2_with (at_builtin; refine wp_appg rfl _ _ rfl w.heap.size w _ (padHead t.data.toList (padZ t.size) ++ lenL (8 * t.size) 6) rfl (hog2.alloc _) ⟨_, 0, none⟩ 1 (lenB (8 * t.size) 6) rfl ?c5 ?c6 ?_)
            case c5 => exact one_cell _ _ _ _ (by have := HB.out; omega)
            case c6 => have := HPP.out; omega
            intro v5 w5 hown5
            rw [← lenL_succ] at hown5
            go_wp2
            go_roundw
            case rel => exact ⟨7, by omega, rfl, hown5⟩
            case measure => simp [intOf]
          · go_wp2_with (at_builtin; refine wp_appg rfl _ _ rfl w.heap.size w _ (padHead t.data.toList (padZ t.size) ++ lenL (8 * t.size) 7) rfl (hog2.alloc _) ⟨_, 0, none⟩ 1 (lenB (8 * t.size) 7) rfl ?c5 ?c6 ?_)
            case c5 => exact one_cell _ _ _ _ (by have := HB.out; omega)
            case c6 => have := HPP.out; omega
            intro v5 w5 hown5
            rw [← lenL_succ] at hown5
            go_wp2
            go_roundw
            case rel => exact ⟨8, by omega, rfl, hown5⟩
            case measure => simp [intOf]


/-- block g holds just the bytes l -/
def Byt (w : World) (g : Nat) (l : List UInt8) : Prop := w.heap[g]? = some (.cells (bv l).toArray 5 (0, 0))

theorem Byt.cell {w : World} {g : Nat} {l : List UInt8} (h : Byt w g l) (i : Nat) (hi : i < l.length) : w.cell? ⟨g, i, none⟩ = some (.int .u8 (l[i].toNat : Int)) := by
  rw [cell_of_row w g i _ 5 (0, 0) h]
  simp [bv, hi]
theorem Byt.has {w : World} {g : Nat} {l : List UInt8} (h : Byt w g l) (i : Nat) (hi : i < l.length) : ∃ x, w.cell? ⟨g, i, none⟩ = some x := ⟨_, h.cell i hi⟩
theorem Byt.frozen {w : World} {g : Nat} {l : List UInt8} (h : Byt w g l) (i : Nat) : w.frozen? ⟨g, i, none⟩ = false := by
  simp [World.frozen?, show w.heap[g]? = some (.cells (bv l).toArray 5 (0, 0)) from h]
theorem Byt.set {w : World} {g : Nat} {l : List UInt8} (h : Byt w g l) (i : Nat) (b : UInt8) (l' : List UInt8) (hl : l.set i b = l') : Byt (w.setCell ⟨g, i, none⟩ (.int .u8 (b.toNat : Int))) g l' := by
  subst hl
  unfold Byt at *
  rw [heap_setCell_same w g i _ 5 _ h]
  congr 2
  simp [bv, List.map_set]
theorem Byt.setx {w : World} {g : Nat} {l : List UInt8} (h : Byt w g l) (i : Nat) (x : Int) (b : UInt8) (l' : List UInt8) (hx : x = (b.toNat : Int)) (hl : l.set i b = l') : Byt (w.setCell ⟨g, i, none⟩ (.int .u8 x)) g l' := by
  subst hx
  exact h.set i b l' hl
theorem Byt.str {w : World} {g : Nat} {l : List UInt8} (h : Byt w g l) (n cap : Nat) (hn : l.length = n) : (convert 22 9 (.slice (some ⟨g, 0, none⟩) n cap)).run Tryd.prog w = .ok (.string ⟨l.toArray⟩) w := by
  subst hn
  refine run_convert_bytes_back w 22 9 5 ⟨g, 0, none⟩ cap l Tryd.underlying22 Tryd.underlying5 Tryd.underlying9 ?_
  intro j hj
  have hadd : (⟨g, 0, none⟩ : Addr).add j = ⟨g, j, none⟩ := by unfold Addr.add; split <;> simp_all
  rw [hadd]
  exact h.cell j hj

/-- 'make([]byte, n)' -/
theorem Byt.made (n : Nat) (h : n ≤ 1000000000) (W : World) : ∃ w', (Instr.makeSlice 22 (.int .i64 (n : Int)) (.int .i64 (n : Int))).run Tryd.prog W = .ok (.slice (some ⟨W.heap.size, 0, none⟩) n n) w' ∧ Byt w' W.heap.size (List.replicate n 0) ∧ Below W.heap.size W w' ∧ w'.heap.size = W.heap.size + 1 := by
  obtain ⟨i0, hi, hz0, hz1, hz2⟩ := info_parts Tryd.info5
  have h1 := run_make (P := Tryd.prog) W 22 5 i0 (.int .u8 0) Tryd.underlying22 hi hz0 .i64 .i64 (n : Int) (n : Int) (by omega) (by omega) (by rw [hz2]; omega) (by omega)
  refine ⟨_, by simpa using h1, ?_, (Below.refl _ _).alloc (Nat.le_refl _) _, by simp⟩
  unfold Byt
  have e : madeCells (Value.int .u8 0).cells (n * i0.size) = (bv (List.replicate n 0)).toArray := by
    apply Array.toList_inj.1
    rw [hz1]
    simp [Value.cells, toList_madeCells_one, bv]
  rw [e, Go.heap_alloc_new]

set_option maxRecDepth 100000 in
/-- 'copy(b, t)' -/
theorem Byt.copy {w : World} {g n : Nat} (t : ByteArray) (ty : TypeId) (h : Byt w g (List.replicate n 0)) (hn : t.size ≤ n) : ∃ w', (Builtin.copy_ #[22, 9] ty #[.slice (some ⟨g, 0, none⟩) n n, .string t]).run Tryd.prog w = .ok (.int .i64 (t.size : Int)) w' ∧ Byt w' g (t.data.toList ++ List.replicate (n - t.size) 0) ∧ (∀ B, B ≤ g → Below B w w') ∧ w'.heap.size = w.heap.size := by
  have h1 := Lib.run_copy_row_string (P := Tryd.prog) w 22 9 ty 5 g 0 n n t _ 5 Tryd.underlying22 (by kernel_rfl) h hn (by simp [bv]; omega)
  have h2 : t.data.toList.length = t.size := Array.length_toList
  refine ⟨_, h1, ?_, ?_, ?_⟩
  · unfold Byt
    rw [setRow_heap w g _ _ 5 _ h]
    congr 2
    simp [bv, Lib.byteCells]
  · intro B hB
    exact ⟨rfl, rfl, rfl, by simp [World.setRow], fun k hk => setRow_other w g k _ (by omega)⟩
  · simp [World.setRow]

end Go.Proofs.YtdifilcdiacbpaaDoor
/-
  The walk of the program's PadText.
-/
namespace Go.Proofs.YtdifilcdiacbpaaDoor
open Go.RowKit
set_option linter.unusedVariables false

/-- the row when the last i bytes of the length stand -/
def padRow (l : List UInt8) (i : Nat) : List UInt8 := padHead l (padZ l.length + (8 - i)) ++ (lenL (8 * l.length) 8).drop (8 - i)
theorem padRow_len (l : List UInt8) (i : Nat) (h : i ≤ 8) : (padRow l i).length = (l.length + 72) / 64 * 64 := by
  unfold padRow
  rw [List.length_append, padHead_len, List.length_drop, lenL_len]
  unfold padZ
  omega
theorem padRow_start (l : List UInt8) : (l ++ List.replicate ((l.length + 72) / 64 * 64 - l.length) 0).set l.length 128 = padRow l 0 := by
  have e : (l.length + 72) / 64 * 64 - l.length = (padZ l.length + 8) + 1 := by unfold padZ; omega
  rw [e, List.replicate_succ, List.set_append_right _ _ (Nat.le_refl _)]
  simp [padRow, padHead, lenL_len]
theorem padRow_end (l : List UInt8) : padRow l 8 = padL l := by simp [padRow, padL, padHead]
theorem padRow_step (l : List UInt8) (i : Nat) (h : i < 8) : (padRow l i).set ((l.length + 72) / 64 * 64 - 1 - i) (lenB (8 * l.length) (7 - i)) = padRow l (i + 1) := by
  have e1 : 8 - i = (8 - (i + 1)) + 1 := by omega
  have e2 : (l.length + 72) / 64 * 64 - 1 - i = (padHead l (padZ l.length + (8 - (i + 1)))).length := by rw [padHead_len]; unfold padZ; omega
  unfold padRow
  rw [e1, ← Nat.add_assoc, ← padHead_succ, List.append_assoc, e2, List.set_append_right _ _ (Nat.le_refl _)]
  congr 1
  simp
  have e3 : 7 - i < (lenL (8 * l.length) 8).length := by rw [lenL_len]; omega
  rw [List.drop_eq_getElem_cons e3]
  congr 1
  simp [lenL]

def PadRel3 (t : ByteArray) (w : World) (i : Value) (wr : World) : Prop :=
  ∃ j : Nat, j ≤ 8 ∧ i = .int .i64 (j : Int) ∧ Byt wr w.heap.size (padRow t.data.toList j) ∧ Below w.heap.size w wr

set_option maxRecDepth 100000 in
set_option maxHeartbeats 1000000 in
theorem PadText_any (t : ByteArray) (w : World) (ht : t.size ≤ 1048576) :
    Calls Tryd.prog 73 #[.string t] w fun e w' => e = .returned (.string ⟨(padL t.data.toList).toArray⟩) ∧ Below w.heap.size w w' := by
  obtain ⟨M, hm⟩ : ∃ M : Nat, (t.size + 72) / 64 * 64 = M := ⟨_, rfl⟩
  obtain ⟨w1, hmk, hb1, hbel1, hsz1⟩ := Byt.made M (by omega) w
  obtain ⟨w2, hcp, hb2, hbel2, hsz2⟩ := hb1.copy t 3 (by omega)
  have eM : (M : Int) = ((t.size : Int) + 1 + 8 + 64 - 1) / 64 * 64 := by omega
  rw [eM] at hmk
  have hl : t.data.toList.length = t.size := Array.length_toList
  obtain ⟨x1, c1⟩ := hb2.has t.size (by simp [hl]; omega)
  have f1 := hb2.frozen t.size
  have hM : t.size + 9 ≤ M := by omega
  have hM2 : M ≤ 2000000 := by omega
  have hst := hb2.set t.size 128 (padRow t.data.toList 0) (by have := padRow_start t.data.toList; rw [hl, hm] at this; exact this)
  have hbel : Below w.heap.size w (w2.setCell ⟨w.heap.size, t.size, none⟩ (.int .u8 ((128 : UInt8).toNat : Int))) := (hbel1.trans (hbel2 _ (Nat.le_refl _))).setCell (p := ⟨w.heap.size, t.size, none⟩) (Nat.le_refl _) _
  have HST : Hid (Byt (w2.setCell ⟨w.heap.size, t.size, none⟩ (.int .u8 128)) w.heap.size (padRow t.data.toList 0) ∧ Below w.heap.size w (w2.setCell ⟨w.heap.size, t.size, none⟩ (.int .u8 128))) := ⟨hst, hbel⟩
  have HL : Hid (t.data.toList.length = t.size) := hl
  have HM : Hid ((t.size + 72) / 64 * 64 = M) := hm
  clear hst hbel hb1 hb2 hbel1 hbel2 hsz1 hsz2 hl hm eM
  go_enter Tryd.func73, Tryd.ntmps73
  go_wp2
  go_loopw [28] (fun i wr => PadRel3 t w i wr) (fun i _ => 8 - (intOf i).toNat)
  case atStart => exact ⟨0, by omega, rfl, HST.out.1, HST.out.2⟩
  case round =>
    obtain ⟨j, hj, rfl, hb, hbel⟩ := hrel
    have hlen := padRow_len t.data.toList j hj
    rw [HL.out, HM.out] at hlen
    clear HST c1 f1 hcp hmk
    by_cases h8 : j = 8
    · subst h8
      have hcv := hb.str M M hlen
      rw [padRow_end] at hcv
      clear hb hlen
      go_wp2
      go_ret
      exact ⟨rfl, hbel⟩
    · have hB := lenB_nat (8 * t.size) (7 - j)
      have hS := padRow_step t.data.toList j (by omega)
      rw [HL.out, HM.out] at hS
      obtain ⟨x1, c1⟩ := hb.has (M - 1 - j) (by omega)
      have f1 := hb.frozen (M - 1 - j)
      have HB : Hid ((lenB (8 * t.size) (7 - j)).toNat = 8 * t.size / 256 ^ (7 - (7 - j)) % 256) := hB
      have HS : Hid ((padRow t.data.toList j).set (M - 1 - j) (lenB (8 * t.size) (7 - j)) = padRow t.data.toList (j + 1)) := hS
      obtain ⟨I, hI⟩ : ∃ I : Int, (j : Int) = I := ⟨_, rfl⟩
      rw [hI]
      have H8 : (j = 0 ∧ I = 0) ∨ (j = 1 ∧ I = 1) ∨ (j = 2 ∧ I = 2) ∨ (j = 3 ∧ I = 3) ∨ (j = 4 ∧ I = 4) ∨ (j = 5 ∧ I = 5) ∨ (j = 6 ∧ I = 6) ∨ (j = 7 ∧ I = 7) := by omega
      clear hB hS h8 hj hlen hI
      rcases H8 with ⟨rfl, rfl⟩ | ⟨rfl, rfl⟩ | ⟨rfl, rfl⟩ | ⟨rfl, rfl⟩ | ⟨rfl, rfl⟩ | ⟨rfl, rfl⟩ | ⟨rfl, rfl⟩ | ⟨rfl, rfl⟩
      · have i0 : (0 : Int) ≤ (M : Int) - 1 := by omega
        have i1 : (M : Int) - 1 < (M : Int) := by omega
        have i2 : ((M : Int) - 1).toNat = M - 1 := by omega
        simp only [Nat.sub_zero] at c1 f1
        go_wp2
        go_roundw
        case rel => exact ⟨1, by omega, by go_num, hb.setx _ _ _ _ (by have := HB.out; omega) HS.out, hbel.setCell (p := ⟨w.heap.size, M - 1 - 0, none⟩) (Nat.le_refl _) _⟩
        case measure => simp [intOf]
      · have i0 : (0 : Int) ≤ (M : Int) - 1 - 1 := by omega
        have i1 : (M : Int) - 1 - 1 < (M : Int) := by omega
        have i2 : ((M : Int) - 1 - 1).toNat = M - 1 - 1 := by omega
        go_wp2
        go_roundw
        case rel => exact ⟨2, by omega, by go_num, hb.setx _ _ _ _ (by have := HB.out; omega) HS.out, hbel.setCell (p := ⟨w.heap.size, M - 1 - 1, none⟩) (Nat.le_refl _) _⟩
        case measure => simp [intOf]
      · have i0 : (0 : Int) ≤ (M : Int) - 1 - 2 := by omega
        have i1 : (M : Int) - 1 - 2 < (M : Int) := by omega
        have i2 : ((M : Int) - 1 - 2).toNat = M - 1 - 2 := by omega
        go_wp2
        go_roundw
        case rel => exact ⟨3, by omega, by go_num, hb.setx _ _ _ _ (by have := HB.out; omega) HS.out, hbel.setCell (p := ⟨w.heap.size, M - 1 - 2, none⟩) (Nat.le_refl _) _⟩
        case measure => simp [intOf]
      · have i0 : (0 : Int) ≤ (M : Int) - 1 - 3 := by omega
        have i1 : (M : Int) - 1 - 3 < (M : Int) := by omega
        have i2 : ((M : Int) - 1 - 3).toNat = M - 1 - 3 := by omega
        go_wp2
        go_roundw
        case rel => exact ⟨4, by omega, by go_num, hb.setx _ _ _ _ (by have := HB.out; omega) HS.out, hbel.setCell (p := ⟨w.heap.size, M - 1 - 3, none⟩) (Nat.le_refl _) _⟩
        case measure => simp [intOf]
      · have i0 : (0 : Int) ≤ (M : Int) - 1 - 4 := by omega
        have i1 : (M : Int) - 1 - 4 < (M : Int) := by omega
        have i2 : ((M : Int) - 1 - 4).toNat = M - 1 - 4 := by omega
        go_wp2
        go_roundw
        case rel => exact ⟨5, by omega, by go_num, hb.setx _ _ _ _ (by have := HB.out; omega) HS.out, hbel.setCell (p := ⟨w.heap.size, M - 1 - 4, none⟩) (Nat.le_refl _) _⟩
        case measure => simp [intOf]
      · have i0 : (0 : Int) ≤ (M : Int) - 1 - 5 := by omega
        have i1 : (M : Int) - 1 - 5 < (M : Int) := by omega
        have i2 : ((M : Int) - 1 - 5).toNat = M - 1 - 5 := by omega
        go_wp2
        go_roundw
        case rel => exact ⟨6, by omega, by go_num, hb.setx _ _ _ _ (by have := HB.out; omega) HS.out, hbel.setCell (p := ⟨w.heap.size, M - 1 - 5, none⟩) (Nat.le_refl _) _⟩
        case measure => simp [intOf]
      · have i0 : (0 : Int) ≤ (M : Int) - 1 - 6 := by omega
        have i1 : (M : Int) - 1 - 6 < (M : Int) := by omega
        have i2 : ((M : Int) - 1 - 6).toNat = M - 1 - 6 := by omega
        go_wp2
        go_roundw
        case rel => exact ⟨7, by omega, by go_num, hb.setx _ _ _ _ (by have := HB.out; omega) HS.out, hbel.setCell (p := ⟨w.heap.size, M - 1 - 6, none⟩) (Nat.le_refl _) _⟩
        case measure => simp [intOf]
      · have i0 : (0 : Int) ≤ (M : Int) - 1 - 7 := by omega
        have i1 : (M : Int) - 1 - 7 < (M : Int) := by omega
        have i2 : ((M : Int) - 1 - 7).toNat = M - 1 - 7 := by omega
        go_wp2
        go_roundw
        case rel => exact ⟨8, by omega, by go_num, hb.setx _ _ _ _ (by have := HB.out; omega) HS.out, hbel.setCell (p := ⟨w.heap.size, M - 1 - 7, none⟩) (Nat.le_refl _) _⟩
        case measure => simp [intOf]

end Go.Proofs.YtdifilcdiacbpaaDoor
/-
  SHA-256 in plain words: rotations, the sixty-four words of a block, the rounds.
-/
namespace Go.Proofs.YtdifilcdiacbpaaDoor.H
set_option linter.unusedVariables false

def rotr (x : UInt32) (n : Nat) : UInt32 := UInt32.ofNat (x.toNat / 2 ^ n ||| x.toNat * 2 ^ (32 - n) % 4294967296)
def shr (x : UInt32) (n : Nat) : UInt32 := UInt32.ofNat (x.toNat / 2 ^ n)
def upd (f : Nat → UInt32) (i : Nat) (x : UInt32) : Nat → UInt32 := fun j => if j = i then x else f j

def sig0 (x : UInt32) : UInt32 := (rotr x 7 ^^^ rotr x 18) ^^^ shr x 3
def sig1 (x : UInt32) : UInt32 := (rotr x 17 ^^^ rotr x 19) ^^^ shr x 10
def wStep (f : Nat → UInt32) (i : Nat) : UInt32 := ((f (i - 16) + sig0 (f (i - 15))) + f (i - 7)) + sig1 (f (i - 2))
/-- so many words more than sixteen -/
def wMore (f : Nat → UInt32) : Nat → Nat → UInt32
  | 0 => f
  | k + 1 => upd (wMore f k) (16 + k) (wStep (wMore f k) (16 + k))
def word (b : Nat → Nat) (i : Nat) : UInt32 := UInt32.ofNat (b (4 * i) * 16777216 + b (4 * i + 1) * 65536 + b (4 * i + 2) * 256 + b (4 * i + 3))
/-- the first so many words of a block, zeros behind -/
def wHead (b : Nat → Nat) : Nat → Nat → UInt32
  | 0 => fun _ => 0
  | k + 1 => upd (wHead b k) k (word b k)
def wAll (b : Nat → Nat) : Nat → UInt32 := wMore (wHead b 16) 48

def big1 (e : UInt32) : UInt32 := (rotr e 6 ^^^ rotr e 11) ^^^ rotr e 25
def big0 (a : UInt32) : UInt32 := (rotr a 2 ^^^ rotr a 13) ^^^ rotr a 22
def ch (e f g : UInt32) : UInt32 := (e &&& f) ^^^ ((e ^^^ 4294967295) &&& g)
def maj (a b c : UInt32) : UInt32 := ((a &&& b) ^^^ (a &&& c)) ^^^ (b &&& c)
def one (s : Nat → UInt32) (k w : UInt32) : UInt32 := (((s 7 + big1 (s 4)) + ch (s 4) (s 5) (s 6)) + k) + w
def two (s : Nat → UInt32) : UInt32 := big0 (s 0) + maj (s 0) (s 1) (s 2)
def round (s : Nat → UInt32) (k w : UInt32) : Nat → UInt32
  | 0 => one s k w + two s
  | 4 => s 3 + one s k w
  | j + 1 => s j
def rounds (s : Nat → UInt32) (k w : Nat → UInt32) : Nat → Nat → UInt32
  | 0 => s
  | i + 1 => round (rounds s k w i) (k i) (w i)
def block (h : Nat → UInt32) (k : Nat → UInt32) (b : Nat → Nat) : Nat → UInt32 := fun j => h j + rounds h k (wAll b) 64 j

theorem u32_lt (x : UInt32) : x.toNat < 4294967296 := x.toNat_lt
theorem toNat_of (n : Nat) (h : n < 4294967296) : (UInt32.ofNat n).toNat = n := UInt32.toNat_ofNat_of_lt h
theorem bx (a b : UInt32) : bits .xor .u32 (a.toNat : Int) (b.toNat : Int) = ((a ^^^ b).toNat : Int) := by
  rw [u32_xor_nat _ _ (u32_lt a) (u32_lt b), UInt32.toNat_xor]
theorem ba (a b : UInt32) : bits .and .u32 (a.toNat : Int) (b.toNat : Int) = ((a &&& b).toNat : Int) := by
  rw [u32_and_nat _ _ (u32_lt a) (u32_lt b), UInt32.toNat_and]
theorem bo (a b : UInt32) : bits .or .u32 (a.toNat : Int) (b.toNat : Int) = ((a ||| b).toNat : Int) := by
  rw [u32_or_nat _ _ (u32_lt a) (u32_lt b), UInt32.toNat_or]
theorem bn (a : UInt32) : bits .xor .u32 (a.toNat : Int) 4294967295 = ((a ^^^ 4294967295).toNat : Int) := bx a 4294967295
theorem badd (a b : UInt32) : ((a.toNat : Int) + (b.toNat : Int)) % 4294967296 = ((a + b).toNat : Int) := by
  rw [UInt32.toNat_add]
  simp
theorem bshr (a : UInt32) (n : Nat) : (a.toNat : Int) / ((2 ^ n : Nat) : Int) = ((shr a n).toNat : Int) := by
  unfold shr
  rw [toNat_of]
  · simp
  · exact Nat.lt_of_le_of_lt (Nat.div_le_self _ _) (u32_lt a)
theorem brot (a : UInt32) (n : Nat) (h : n ≤ 32) : bits .or .u32 ((a.toNat : Int) / ((2 ^ n : Nat) : Int)) ((a.toNat : Int) * ((2 ^ (32 - n) : Nat) : Int) % 4294967296) = ((rotr a n).toNat : Int) := by
  have h1 : a.toNat / 2 ^ n < 4294967296 := Nat.lt_of_le_of_lt (Nat.div_le_self _ _) (u32_lt a)
  have h2 : a.toNat * 2 ^ (32 - n) % 4294967296 < 4294967296 := Nat.mod_lt _ (by omega)
  have e := u32_or_nat _ _ h1 h2
  unfold rotr
  rw [toNat_of _ (Nat.or_lt_two_pow (n := 32) h1 h2), ← e]
  simp

theorem word_eq (b0 b1 b2 b3 : Nat) (h0 : b0 < 256) (h1 : b1 < 256) (h2 : b2 < 256) (h3 : b3 < 256) :
    bits .or .u32 (bits .or .u32 (bits .or .u32 ((b0 : Int) * 16777216) ((b1 : Int) * 65536)) ((b2 : Int) * 256)) (b3 : Int) = ((b0 * 16777216 + b1 * 65536 + b2 * 256 + b3 : Nat) : Int) := by
  have e1 := u32_or_nat (b0 * 16777216) (b1 * 65536) (by omega) (by omega)
  have e2 := nat_join 24 (b0 * 16777216) (b1 * 65536) (by omega) (by omega)
  rw [e2] at e1
  have e3 := u32_or_nat (b0 * 16777216 + b1 * 65536) (b2 * 256) (by omega) (by omega)
  rw [nat_join 16 _ _ (by omega) (by omega)] at e3
  have e4 := u32_or_nat (b0 * 16777216 + b1 * 65536 + b2 * 256) b3 (by omega) (by omega)
  rw [nat_join 8 _ _ (by omega) (by omega)] at e4
  simp only [Int.natCast_add, Int.natCast_mul] at e1 e3 e4 ⊢
  simp only [Int.cast_ofNat_Int] at e1 e3 e4 ⊢
  rw [e1, e3, e4]

end Go.Proofs.YtdifilcdiacbpaaDoor.H
/-
  An array of 32-bit words in a block of its own; the rotation, the first numbers and the keys.
-/
namespace Go.Proofs.YtdifilcdiacbpaaDoor
open Go.RowKit
set_option linter.unusedVariables false

/-- block g holds the n words f -/
def Arr (w : World) (g t n : Nat) (f : Nat → UInt32) : Prop :=
  ∃ cs : Array Value, w.heap[g]? = some (.cells cs t (0, 0)) ∧ cs.size = n ∧ ∀ i, i < n → cs[i]? = some (.int .u32 ((f i).toNat : Int))

theorem Arr.cell {w : World} {g t n : Nat} {f : Nat → UInt32} (h : Arr w g t n f) (i : Nat) (hi : i < n) : w.cell? ⟨g, i, none⟩ = some (.int .u32 ((f i).toNat : Int)) := by
  obtain ⟨cs, h1, h2, h3⟩ := h
  simp [World.cell?, h1, h3 i hi]
theorem Arr.frozen {w : World} {g t n : Nat} {f : Nat → UInt32} (h : Arr w g t n f) (i : Nat) : w.frozen? ⟨g, i, none⟩ = false := by
  obtain ⟨cs, h1, h2, h3⟩ := h
  simp [World.frozen?, h1]
theorem Arr.lt {w : World} {g t n : Nat} {f : Nat → UInt32} (h : Arr w g t n f) : g < w.heap.size := by
  obtain ⟨cs, h1, _⟩ := h
  exact (Array.getElem?_eq_some_iff.1 h1).1
theorem Arr.set {w : World} {g t n : Nat} {f : Nat → UInt32} (h : Arr w g t n f) (i : Nat) (hi : i < n) (x : UInt32) : Arr (w.setCell ⟨g, i, none⟩ (.int .u32 (x.toNat : Int))) g t n (H.upd f i x) := by
  obtain ⟨cs, h1, h2, h3⟩ := h
  refine ⟨_, heap_setCell_same w g i cs t _ h1, by simpa using h2, fun j hj => ?_⟩
  rw [Array.getElem?_setIfInBounds]
  by_cases he : i = j
  · subst he
    simp [H.upd, h2, hi]
  · have : j ≠ i := fun e => he e.symm
    simp [H.upd, he, this, h3 j hj]
theorem Arr.keep {w w' : World} {g t n : Nat} {f : Nat → UInt32} (h : Arr w g t n f) (hh : w'.heap[g]? = w.heap[g]?) : Arr w' g t n f := by
  obtain ⟨cs, h1, h2⟩ := h
  exact ⟨cs, by rw [hh]; exact h1, h2⟩
theorem Arr.other {w : World} {g t n : Nat} {f : Nat → UInt32} (h : Arr w g t n f) (k i : Nat) (v : Value) (hk : g ≠ k) : Arr (w.setCell ⟨k, i, none⟩ v) g t n f :=
  h.keep (heap_setCell_other w ⟨k, i, none⟩ g v hk)
theorem Arr.alloc {w : World} {g t n : Nat} {f : Nat → UInt32} (h : Arr w g t n f) (o : Obj) : Arr (w.alloc o) g t n f := by
  have hl := h.lt
  refine h.keep ?_
  have hn : g ≠ w.heap.size := by omega
  simp [World.alloc, -World.alloc_eq, Array.getElem?_push, hn]
theorem Arr.new (w : World) (cs : Array Value) (t n : Nat) (f : Nat → UInt32) (h : cs.size = n) (hc : ∀ i, i < n → cs[i]? = some (.int .u32 ((f i).toNat : Int))) : Arr (w.alloc (.cells cs t)) w.heap.size t n f :=
  ⟨cs, heap_alloc_new w _, h, hc⟩
theorem Arr.drewN {w : World} {g t n : Nat} {f : Nat → UInt32} (h : Arr w g t n f) (k : Nat) : Arr (w.drewN k) g t n f := h

theorem Turn_any (x : UInt32) (n : Nat) (w : World) (hn : n = 2 ∨ n = 6 ∨ n = 7 ∨ n = 11 ∨ n = 13 ∨ n = 17 ∨ n = 18 ∨ n = 19 ∨ n = 22 ∨ n = 25) :
    Calls Tryd.prog 80 #[.int .u32 (x.toNat : Int), .int .u64 (n : Int)] w fun e w' => e = .returned (.int .u32 ((H.rotr x n).toNat : Int)) ∧ w' = w := by
  have hr := H.brot x n (by omega)
  rcases hn with rfl | rfl | rfl | rfl | rfl | rfl | rfl | rfl | rfl | rfl
  all_goals
    go_enter Tryd.func80, Tryd.ntmps80
    go_wp2
    go_ret
    refine ⟨?_, rfl⟩
    rw [← hr]
    rfl

theorem Turn2 (x : UInt32) (w : World) : Calls Tryd.prog 80 #[.int .u32 (x.toNat : Int), .int .u64 2] w fun e w' => e = .returned (.int .u32 ((H.rotr x 2).toNat : Int)) ∧ w' = w := Turn_any x 2 w (by omega)
theorem Turn6 (x : UInt32) (w : World) : Calls Tryd.prog 80 #[.int .u32 (x.toNat : Int), .int .u64 6] w fun e w' => e = .returned (.int .u32 ((H.rotr x 6).toNat : Int)) ∧ w' = w := Turn_any x 6 w (by omega)
theorem Turn7 (x : UInt32) (w : World) : Calls Tryd.prog 80 #[.int .u32 (x.toNat : Int), .int .u64 7] w fun e w' => e = .returned (.int .u32 ((H.rotr x 7).toNat : Int)) ∧ w' = w := Turn_any x 7 w (by omega)
theorem Turn11 (x : UInt32) (w : World) : Calls Tryd.prog 80 #[.int .u32 (x.toNat : Int), .int .u64 11] w fun e w' => e = .returned (.int .u32 ((H.rotr x 11).toNat : Int)) ∧ w' = w := Turn_any x 11 w (by omega)
theorem Turn13 (x : UInt32) (w : World) : Calls Tryd.prog 80 #[.int .u32 (x.toNat : Int), .int .u64 13] w fun e w' => e = .returned (.int .u32 ((H.rotr x 13).toNat : Int)) ∧ w' = w := Turn_any x 13 w (by omega)
theorem Turn17 (x : UInt32) (w : World) : Calls Tryd.prog 80 #[.int .u32 (x.toNat : Int), .int .u64 17] w fun e w' => e = .returned (.int .u32 ((H.rotr x 17).toNat : Int)) ∧ w' = w := Turn_any x 17 w (by omega)
theorem Turn18 (x : UInt32) (w : World) : Calls Tryd.prog 80 #[.int .u32 (x.toNat : Int), .int .u64 18] w fun e w' => e = .returned (.int .u32 ((H.rotr x 18).toNat : Int)) ∧ w' = w := Turn_any x 18 w (by omega)
theorem Turn19 (x : UInt32) (w : World) : Calls Tryd.prog 80 #[.int .u32 (x.toNat : Int), .int .u64 19] w fun e w' => e = .returned (.int .u32 ((H.rotr x 19).toNat : Int)) ∧ w' = w := Turn_any x 19 w (by omega)
theorem Turn22 (x : UInt32) (w : World) : Calls Tryd.prog 80 #[.int .u32 (x.toNat : Int), .int .u64 22] w fun e w' => e = .returned (.int .u32 ((H.rotr x 22).toNat : Int)) ∧ w' = w := Turn_any x 22 w (by omega)
theorem Turn25 (x : UInt32) (w : World) : Calls Tryd.prog 80 #[.int .u32 (x.toNat : Int), .int .u64 25] w fun e w' => e = .returned (.int .u32 ((H.rotr x 25).toNat : Int)) ∧ w' = w := Turn_any x 25 w (by omega)

end Go.Proofs.YtdifilcdiacbpaaDoor
/-
  A whole array of words by value: made, allocated, stored, boxed and loaded, its cells unopened.
-/
namespace Go.Proofs.YtdifilcdiacbpaaDoor
open Go.RowKit
set_option linter.unusedVariables false

def zeros (n : Nat) : Array Value := Array.replicate n (.int .u32 0)
theorem info55 : (Tryd.prog.info? 88).map (fun i => (i.zero, i.size)) = some (some (.agg (zeros 64)), 64) := by kernel_rfl
theorem info50 : (Tryd.prog.info? 86).map (fun i => (i.zero, i.size)) = some (some (.agg (zeros 8)), 8) := by kernel_rfl
theorem zeros_size (n : Nat) : (zeros n).size = n := by simp [zeros]
theorem zeros_one (n : Nat) : (zeros n).all (·.oneCell') = true := by
  unfold zeros
  rw [Array.all_eq_true]
  intro i hi
  simp [Value.oneCell']
theorem run_build (w : World) : (Instr.build 88 #[]).run Tryd.prog w = .ok (.agg (zeros 64)) w := by
  have h := (zero_of_info info55).1
  unfold Instr.build
  simp [h]
  rfl
theorem run_alloc55 (w : World) : (Instr.alloc 88 true (.tuple #[])).run Tryd.prog w = .ok (.pointer (some ⟨w.heap.size, 0, none⟩)) (w.alloc (.cells (zeros 64) 88)) := by
  have h := (zero_of_info info55).1
  unfold Instr.alloc
  simp [h, newVar, newRow, Value.cells]
theorem run_alloc50 (w : World) : (Instr.alloc 86 true (.tuple #[])).run Tryd.prog w = .ok (.pointer (some ⟨w.heap.size, 0, none⟩)) (w.alloc (.cells (zeros 8) 86)) := by
  have h := (zero_of_info info50).1
  unfold Instr.alloc
  simp [h, newVar, newRow, Value.cells]

section
variable {w : World} {ops : Array Oper} {rest : List Oper} {o : Oper} {a : Act} {Q : Exit → Act → World → Prop}

theorem wp_build (hgd : o.guard = none) (ho : o.op = .build 88 #[]) (h : wpList Tryd.prog ops Q rest (a.put o.dst (.agg (zeros 64))) w) : wpList Tryd.prog ops Q (o :: rest) a w := by
  refine wpList_plain hgd fun K hK => ?_
  have hr := run_build w
  unfold Oper.wp
  simp [execOp, ho, hr, Result.andThen]
  exact hK _ _ h
theorem wp_alloc55 (hgd : o.guard = none) (ho : o.op = .alloc 88) (h : wpList Tryd.prog ops Q rest (a.put o.dst (.pointer (some ⟨w.heap.size, 0, none⟩))) (w.alloc (.cells (zeros 64) 88))) : wpList Tryd.prog ops Q (o :: rest) a w := by
  refine wpList_plain hgd fun K hK => ?_
  have hr := run_alloc55 w
  unfold Oper.wp
  simp [execOp, ho, hr, Result.andThen]
  exact hK _ _ h
theorem wp_alloc50 (hgd : o.guard = none) (ho : o.op = .alloc 86) (h : wpList Tryd.prog ops Q rest (a.put o.dst (.pointer (some ⟨w.heap.size, 0, none⟩))) (w.alloc (.cells (zeros 8) 86))) : wpList Tryd.prog ops Q (o :: rest) a w := by
  refine wpList_plain hgd fun K hK => ?_
  have hr := run_alloc50 w
  unfold Oper.wp
  simp [execOp, ho, hr, Result.andThen]
  exact hK _ _ h
theorem wp_store55 (hgd : o.guard = none) (p v : Operand) (ho : o.op = .store 88 p v) (w0 : World) (hw : w = w0.alloc (.cells (zeros 64) 88)) (hp : a.eval p = .pointer (some ⟨w0.heap.size, 0, none⟩)) (hv : a.eval v = .agg (zeros 64))
    (h : wpList Tryd.prog ops Q rest (a.put o.dst (.tuple #[])) w) : wpList Tryd.prog ops Q (o :: rest) a w := by
  subst hw
  refine wpList_plain hgd fun K hK => ?_
  have hr := run_storeAt_new (P := Tryd.prog) w0 88 (zeros 64) (zeros 64) (by rw [zeros_size]; exact (zero_of_info info55).2) rfl (zeros_one 64)
  unfold Oper.wp
  simp [execOp, ho, hp, hv, hr, Result.andThen]
  exact hK _ _ h
end
end Go.Proofs.YtdifilcdiacbpaaDoor
/-
  Whole arrays of words by value: loaded out of a block, stored into a new one or over an old one, whatever the named type.
-/
namespace Go.Proofs.YtdifilcdiacbpaaDoor
open Go.RowKit
set_option linter.unusedVariables false

def AggIs (cs : Array Value) (n : Nat) (f : Nat → UInt32) : Prop := cs.size = n ∧ ∀ i, i < n → cs[i]? = some (.int .u32 ((f i).toNat : Int))

theorem AggIs.one {cs : Array Value} {n : Nat} {f : Nat → UInt32} (h : AggIs cs n f) : cs.all (·.oneCell') = true := by
  rw [Array.all_eq_true]
  intro i hi
  have h1 := h.2 i (by have := h.1; omega)
  rw [Array.getElem?_eq_getElem hi] at h1
  simp only [Option.some.injEq] at h1
  rw [h1]
  rfl
theorem AggIs.congr {cs : Array Value} {n : Nat} {f g : Nat → UInt32} (h : AggIs cs n f) (e : ∀ i, i < n → f i = g i) : AggIs cs n g :=
  ⟨h.1, fun i hi => by rw [← e i hi]; exact h.2 i hi⟩
theorem zeros_at (n i : Nat) (h : i < n) : (zeros n)[i]? = some (.int .u32 (((fun _ : Nat => (0 : UInt32)) i).toNat : Int)) := by
  simp [zeros, h]
theorem AggIs.zeros (n : Nat) : AggIs (zeros n) n (fun _ => 0) := ⟨zeros_size n, zeros_at n⟩
theorem Arr.congr {w : World} {g t n : Nat} {f f' : Nat → UInt32} (h : Arr w g t n f) (e : ∀ i, i < n → f i = f' i) : Arr w g t n f' := by
  obtain ⟨cs, h1, h2, h3⟩ := h
  exact ⟨cs, h1, h2, fun i hi => by rw [← e i hi]; exact h3 i hi⟩
theorem Arr.agg {w : World} {t n : Nat} {f : Nat → UInt32} {R : Array Value} (hR : AggIs R n f) : Arr (w.alloc (.cells R t)) w.heap.size t n f := Arr.new w R t n f hR.1 hR.2

theorem run_loadArr {w : World} {g t n : Nat} {f : Nat → UInt32} (ty e : TypeId) (hu : Tryd.prog.underlying ty = some (.array n e)) (hi : (Tryd.prog.info? ty).map (·.size) = some n) (hA : Arr w g t n f) :
    ∃ R, (Instr.loadAt ty (.pointer (some ⟨g, 0, none⟩))).run Tryd.prog w = .ok (.agg R) w ∧ AggIs R n f := by
  obtain ⟨cs, h1, h2, h3⟩ := hA
  refine ⟨cs, ?_, h2, h3⟩
  simp only [Instr.loadAt, Instr.sureAddr, Sem.run_bind, Sem.run_pure, Result.andThen]
  exact run_loadVar_row w g t ty cs (0, 0) _ h1 hu rfl (by rw [h2]; exact hi)
theorem run_storeArr {w : World} {g t n : Nat} {f f' : Nat → UInt32} {R : Array Value} (ty : TypeId) (hi : (Tryd.prog.info? ty).map (·.size) = some n) (hA : Arr w g t n f) (hR : AggIs R n f') :
    (Instr.storeAt ty (.pointer (some ⟨g, 0, none⟩)) (.agg R)).run Tryd.prog w = .ok () (w.setRow g R) ∧ Arr (w.setRow g R) g t n f' := by
  obtain ⟨cs, h1, h2, h3⟩ := hA
  constructor
  · simp only [Instr.storeAt, Instr.sureAddr, Sem.run_bind, Sem.run_pure, Result.andThen]
    exact run_storeVar_row w g t ty cs R h1 (by rw [hR.1]; exact hi) (by rw [h2, hR.1]) hR.one
  · exact ⟨R, setRow_heap w g cs R t _ h1, hR.1, hR.2⟩
theorem Arr.otherRow {w : World} {g t n k : Nat} {f : Nat → UInt32} {R : Array Value} (h : Arr w g t n f) (hk : g ≠ k) : Arr (w.setRow k R) g t n f :=
  h.keep (setRow_other w k g R hk)
theorem below_setRow {B g : Nat} {w0 w : World} {R : Array Value} (h : Below B w0 w) (hg : B ≤ g) : Below B w0 (w.setRow g R) :=
  h.trans ⟨rfl, rfl, rfl, by simp [World.setRow], fun k hk => setRow_other w g k R (by omega)⟩

section
variable {w : World} {ops : Array Oper} {rest : List Oper} {o : Oper} {a : Act} {Q : Exit → Act → World → Prop}

theorem wp_loadArr (hgd : o.guard = none) (ty : TypeId) (p : Operand) (ho : o.op = .load ty p) (g t n : Nat) (f : Nat → UInt32) (e : TypeId) (hp : a.eval p = .pointer (some ⟨g, 0, none⟩)) (hA : Arr w g t n f)
    (hu : Tryd.prog.underlying ty = some (.array n e)) (hi : (Tryd.prog.info? ty).map (·.size) = some n)
    (h : ∀ R, AggIs R n f → wpList Tryd.prog ops Q rest (a.put o.dst (.agg R)) w) : wpList Tryd.prog ops Q (o :: rest) a w := by
  refine wpList_plain hgd fun K hK => ?_
  obtain ⟨R, hr, hR⟩ := run_loadArr ty e hu hi hA
  unfold Oper.wp
  simp [execOp, ho, hp, hr, Result.andThen]
  exact hK _ _ (h R hR)
theorem wp_allocArr (hgd : o.guard = none) (ty : TypeId) (n : Nat) (ho : o.op = .alloc ty) (hz : (Tryd.prog.info? ty).map (fun i => (i.zero, i.size)) = some (some (.agg (zeros n)), n))
    (h : wpList Tryd.prog ops Q rest (a.put o.dst (.pointer (some ⟨w.heap.size, 0, none⟩))) (w.alloc (.cells (zeros n) ty))) : wpList Tryd.prog ops Q (o :: rest) a w := by
  refine wpList_plain hgd fun K hK => ?_
  have h1 := (zero_of_info hz).1
  have hr : (Instr.alloc ty true (.tuple #[])).run Tryd.prog w = .ok (.pointer (some ⟨w.heap.size, 0, none⟩)) (w.alloc (.cells (zeros n) ty)) := by
    unfold Instr.alloc
    simp [h1, newVar, newRow, Value.cells]
  unfold Oper.wp
  simp [execOp, ho, hr, Result.andThen]
  exact hK _ _ h
/-- a whole array into the block that was made last -/
theorem wp_storeNew (hgd : o.guard = none) (ty n : Nat) (p v : Operand) (ho : o.op = .store ty p v) (w0 : World) (c R : Array Value) (f : Nat → UInt32) (hw : w = w0.alloc (.cells c ty)) (hc : c.size = n) (hR : AggIs R n f) (hp : a.eval p = .pointer (some ⟨w0.heap.size, 0, none⟩)) (hv : a.eval v = .agg R)
    (hi : (Tryd.prog.info? ty).map (·.size) = some n)
    (h : wpList Tryd.prog ops Q rest (a.put o.dst (.tuple #[])) (w0.alloc (.cells R ty))) : wpList Tryd.prog ops Q (o :: rest) a w := by
  subst hw
  refine wpList_plain hgd fun K hK => ?_
  have hr := run_storeAt_new (P := Tryd.prog) w0 ty c R (by rw [hR.1]; exact hi) (by rw [hc, hR.1]) hR.one
  unfold Oper.wp
  simp [execOp, ho, hp, hv, hr, Result.andThen]
  exact hK _ _ h
/-- a whole array over an old one -/
theorem wp_storeArr (hgd : o.guard = none) (ty : TypeId) (p v : Operand) (ho : o.op = .store ty p v) (g t n : Nat) (f f' : Nat → UInt32) (R : Array Value) (hA : Arr w g t n f) (hR : AggIs R n f') (hp : a.eval p = .pointer (some ⟨g, 0, none⟩)) (hv : a.eval v = .agg R)
    (hi : (Tryd.prog.info? ty).map (·.size) = some n)
    (h : Arr (w.setRow g R) g t n f' → wpList Tryd.prog ops Q rest (a.put o.dst (.tuple #[])) (w.setRow g R)) : wpList Tryd.prog ops Q (o :: rest) a w := by
  refine wpList_plain hgd fun K hK => ?_
  obtain ⟨hr, h2⟩ := run_storeArr ty hi hA hR
  unfold Oper.wp
  simp [execOp, ho, hp, hv, hr, Result.andThen]
  exact hK _ _ (h h2)
end

theorem ret_arr {fn : Func} {Rp : Ending → World → Prop} {a : Act} {w : World} (c g t n : Nat) (ty e : TypeId) (f : Nat → UInt32) (hres : fn.results = #[.cell c ty]) (hd : a.defers = []) (hp : a.tmps.getD c undef = .pointer (some ⟨g, 0, none⟩))
    (hA : Arr w g t n f) (hu : Tryd.prog.underlying ty = some (.array n e)) (hi : (Tryd.prog.info? ty).map (·.size) = some n) (h : ∀ R, AggIs R n f → Rp (.returned (.agg R)) w) : bodyPost Tryd.prog fn Rp .ret a w := by
  obtain ⟨cs, h1, h2, h3⟩ := hA
  have hr := run_loadVar_row (P := Tryd.prog) w g t ty cs (0, 0) _ h1 hu rfl (by rw [h2]; exact hi)
  refine bodyPost_ret (v := .agg cs) ?_ hd (h cs ⟨h2, h3⟩)
  have hp' : a.tmps[c]?.getD undef = .pointer (some ⟨g, 0, none⟩) := by simpa using hp
  simp [results, hres, asAddr, hr, hp']

theorem size51 : (Tryd.prog.info? 86).map (·.size) = some 8 := by kernel_rfl
theorem size61 : (Tryd.prog.info? 88).map (·.size) = some 64 := by kernel_rfl
theorem size52 : (Tryd.prog.info? 96).map (·.size) = some 8 := by kernel_rfl
theorem zero52 : (Tryd.prog.info? 96).map (fun i => (i.zero, i.size)) = some (some (.agg (zeros 8)), 8) := by kernel_rfl
end Go.Proofs.YtdifilcdiacbpaaDoor
/-
  What the specification makes of a block.
-/
namespace Go.Proofs.YtdifilcdiacbpaaDoor
open Go.RowKit
set_option linter.unusedVariables false


/-- the blocks of the function's arrays, and what they hold -/
structure BS (w wr : World) (h k r W : Nat → UInt32) : Prop where
  hh : Arr wr w.heap.size 86 8 h
  kk : Arr wr (w.heap.size + 1) 88 64 k
  rr : Arr wr (w.heap.size + 1 + 1) 86 8 r
  ww : Arr wr (w.heap.size + 1 + 1 + 1) 88 64 W
  bel : Below w.heap.size w wr
  sz : wr.heap.size = w.heap.size + 1 + 1 + 1 + 1

theorem BS.start (w : World) (Hc Kc : Array Value) (h k : Nat → UInt32) (hH : AggIs Hc 8 h) (hK : AggIs Kc 64 k) :
    BS w ((((w.alloc (.cells Hc 86)).alloc (.cells Kc 88)).alloc (.cells (zeros 8) 86)).alloc (.cells (zeros 64) 88)) h k (fun _ => 0) (fun _ => 0) := by
  have a1 := Arr.new w Hc 86 8 h hH.1 hH.2
  have a2 := Arr.new (w.alloc (.cells Hc 86)) Kc 88 64 k hK.1 hK.2
  have a3 := Arr.new ((w.alloc (.cells Hc 86)).alloc (.cells Kc 88)) (zeros 8) 86 8 (fun _ => 0) (zeros_size 8) (zeros_at 8)
  have a4 := Arr.new (((w.alloc (.cells Hc 86)).alloc (.cells Kc 88)).alloc (.cells (zeros 8) 86)) (zeros 64) 88 64 (fun _ => 0) (zeros_size 64) (zeros_at 64)
  refine ⟨((a1.alloc _).alloc _).alloc _, ?_, ?_, ?_, ?_, ?_⟩
  · have := (a2.alloc (.cells (zeros 8) 86)).alloc (.cells (zeros 64) 88)
    simpa using this
  · have := a3.alloc (.cells (zeros 64) 88)
    simpa using this
  · simpa using a4
  · exact ((((Below.refl _ _).alloc (Nat.le_refl _) _).alloc (by simp) _).alloc (by simp; omega) _).alloc (by simp; omega) _
  · simp

theorem BS.setW {w wr : World} {h k r W : Nat → UInt32} (s : BS w wr h k r W) (i : Nat) (hi : i < 64) (x : UInt32) :
    BS w (wr.setCell ⟨w.heap.size + 1 + 1 + 1, i, none⟩ (.int .u32 (x.toNat : Int))) h k r (H.upd W i x) :=
  ⟨s.hh.other _ _ _ (by omega), s.kk.other _ _ _ (by omega), s.rr.other _ _ _ (by omega), s.ww.set i hi x, s.bel.setCell (p := ⟨w.heap.size + 1 + 1 + 1, i, none⟩) (by show w.heap.size ≤ w.heap.size + 1 + 1 + 1; omega) _, by simpa using s.sz⟩

theorem BS.drew {w wr : World} {h k r W : Nat → UInt32} (s : BS w wr h k r W) : BS w wr.drew h k r W := ⟨s.hh, s.kk, s.rr, s.ww, s.bel.drew, s.sz⟩
theorem BS.drewN {w wr : World} {h k r W : Nat → UInt32} (s : BS w wr h k r W) (n : Nat) : BS w (wr.drewN n) h k r W := ⟨s.hh, s.kk, s.rr, s.ww, s.bel.trans ⟨rfl, rfl, rfl, Nat.le_refl _, fun _ _ => rfl⟩, s.sz⟩

def bAt (b : ByteArray) (j : Nat) : Nat := (b.data.toList.getD j 0).toNat
theorem bAt_eq (b : ByteArray) (j : Nat) (h : j < b.size) : bAt b j = b[j].toNat := by
  have hg : b.data.toList[j]? = some b[j] := by simp [ByteArray.getElem_eq_getElem_data]
  simp [bAt, List.getD, hg]

theorem run_at (b : ByteArray) (x : Int) (j : Nat) (hx : x = (j : Int)) (hj : j < b.size) (W : World) : (Instr.index 9 (.string b) (.int .i64 x)).run Tryd.prog W = .ok (.int .u8 (b[j].toNat : Int)) W := by
  subst hx
  rw [run_index_string (P := Tryd.prog) (w := W) 9 b .i64 _ Tryd.underlying9, dif_pos ⟨by omega, by omega⟩]
  simp

def L1 (w : World) (h k : Nat → UInt32) (b : ByteArray) (i : Value) (wr : World) : Prop :=
  ∃ m : Nat, m ≤ 16 ∧ i = .int .i64 m ∧ BS w wr h k (fun _ => 0) (H.wHead (bAt b) m)

def L2 (w : World) (h k : Nat → UInt32) (b : ByteArray) (i : Value) (wr : World) : Prop :=
  ∃ n : Nat, 16 ≤ n ∧ n ≤ 64 ∧ i = .int .i64 n ∧ BS w wr h k (fun _ => 0) (H.wMore (H.wHead (bAt b) 16) (n - 16))


structure S3 (w wr : World) (h k W s : Nat → UInt32) : Prop where
  hh : Arr wr w.heap.size 86 8 h
  kk : Arr wr (w.heap.size + 1) 88 64 k
  rr : Arr wr (w.heap.size + 1 + 1) 86 8 (fun _ => 0)
  ww : Arr wr (w.heap.size + 1 + 1 + 1) 88 64 W
  ss : Arr wr (w.heap.size + 1 + 1 + 1 + 1) 86 8 s
  bel : Below w.heap.size w wr
theorem BS.copy {w wr : World} {h k W : Nat → UInt32} {R : Array Value} (s : BS w wr h k (fun _ => 0) W) (hR : AggIs R 8 h) : S3 w (wr.alloc (.cells R 86)) h k W h :=
  ⟨s.hh.alloc _, s.kk.alloc _, s.rr.alloc _, s.ww.alloc _, by have := Arr.agg (w := wr) (t := 86) hR; rw [s.sz] at this; exact this, s.bel.alloc (by rw [s.sz]; omega) _⟩
theorem S3.setS {w wr : World} {h k W s : Nat → UInt32} (q : S3 w wr h k W s) (i : Nat) (hi : i < 8) (x : UInt32) :
    S3 w (wr.setCell ⟨w.heap.size + 1 + 1 + 1 + 1, i, none⟩ (.int .u32 (x.toNat : Int))) h k W (H.upd s i x) :=
  ⟨q.hh.other _ _ _ (by omega), q.kk.other _ _ _ (by omega), q.rr.other _ _ _ (by omega), q.ww.other _ _ _ (by omega), q.ss.set i hi x, q.bel.setCell (p := ⟨w.heap.size + 1 + 1 + 1 + 1, i, none⟩) (by show w.heap.size ≤ w.heap.size + 1 + 1 + 1 + 1; omega) _⟩
theorem S3.setH {w wr : World} {h k W s : Nat → UInt32} (q : S3 w wr h k W s) (i : Nat) (hi : i < 8) (x : UInt32) :
    S3 w (wr.setCell ⟨w.heap.size, i, none⟩ (.int .u32 (x.toNat : Int))) (H.upd h i x) k W s :=
  ⟨q.hh.set i hi x, q.kk.other _ _ _ (by omega), q.rr.other _ _ _ (by omega), q.ww.other _ _ _ (by omega), q.ss.other _ _ _ (by omega), q.bel.setCell (p := ⟨w.heap.size, i, none⟩) (Nat.le_refl _) _⟩
theorem S3.drewN {w wr : World} {h k W s : Nat → UInt32} (q : S3 w wr h k W s) (n : Nat) : S3 w (wr.drewN n) h k W s := ⟨q.hh, q.kk, q.rr, q.ww, q.ss, q.bel.trans ⟨rfl, rfl, rfl, Nat.le_refl _, fun _ _ => rfl⟩⟩
theorem S3.congr {w wr : World} {h k W s s' : Nat → UInt32} (q : S3 w wr h k W s) (e : ∀ i, i < 8 → s i = s' i) : S3 w wr h k W s' := ⟨q.hh, q.kk, q.rr, q.ww, q.ss.congr e, q.bel⟩

/-- the eight stores of a round -/
theorem S3.round {w wr : World} {h k W s : Nat → UInt32} (q : S3 w wr h k W s) (kx wx n4 n0 : UInt32) (e4 : s 3 + H.one s kx wx = n4) (e0 : H.one s kx wx + H.two s = n0) :
    S3 w ((((((((wr.setCell ⟨w.heap.size + 1 + 1 + 1 + 1, 7, none⟩ (.int .u32 ((s 6).toNat : Int))).setCell ⟨w.heap.size + 1 + 1 + 1 + 1, 6, none⟩ (.int .u32 ((s 5).toNat : Int))).setCell ⟨w.heap.size + 1 + 1 + 1 + 1, 5, none⟩ (.int .u32 ((s 4).toNat : Int))).setCell ⟨w.heap.size + 1 + 1 + 1 + 1, 4, none⟩ (.int .u32 (n4.toNat : Int))).setCell ⟨w.heap.size + 1 + 1 + 1 + 1, 3, none⟩ (.int .u32 ((s 2).toNat : Int))).setCell ⟨w.heap.size + 1 + 1 + 1 + 1, 2, none⟩ (.int .u32 ((s 1).toNat : Int))).setCell ⟨w.heap.size + 1 + 1 + 1 + 1, 1, none⟩ (.int .u32 ((s 0).toNat : Int))).setCell ⟨w.heap.size + 1 + 1 + 1 + 1, 0, none⟩ (.int .u32 (n0.toNat : Int))) h k W (H.round s kx wx) := by
  have h1 := (((((((q.setS 7 (by omega) (s 6)).setS 6 (by omega) (s 5)).setS 5 (by omega) (s 4)).setS 4 (by omega) n4).setS 3 (by omega) (s 2)).setS 2 (by omega) (s 1)).setS 1 (by omega) (s 0)).setS 0 (by omega) n0
  refine h1.congr ?_
  intro i hi
  have h8 : i = 0 ∨ i = 1 ∨ i = 2 ∨ i = 3 ∨ i = 4 ∨ i = 5 ∨ i = 6 ∨ i = 7 := by omega
  rcases h8 with rfl | rfl | rfl | rfl | rfl | rfl | rfl | rfl
  · simp [H.upd, H.round, e0]
  · simp [H.upd, H.round]
  · simp [H.upd, H.round]
  · simp [H.upd, H.round]
  · simp [H.upd, H.round, e4]
  · simp [H.upd, H.round]
  · simp [H.upd, H.round]
  · simp [H.upd, H.round]

def L3 (w : World) (h k W : Nat → UInt32) (i : Value) (wr : World) : Prop :=
  ∃ n : Nat, n ≤ 64 ∧ i = .int .i64 n ∧ S3 w wr h k W (H.rounds h k W n)
/-- the sums that are made so far -/
def part (h s : Nat → UInt32) (n : Nat) : Nat → UInt32 := fun i => if i < n then h i + s i else h i
def L4 (w : World) (h k W s : Nat → UInt32) (i : Value) (wr : World) : Prop :=
  ∃ n : Nat, n ≤ 8 ∧ i = .int .i64 n ∧ S3 w wr (part h s n) k W s
theorem part_succ (h s : Nat → UInt32) (n i : Nat) : H.upd (part h s n) n (h n + s n) i = part h s (n + 1) i := by
  unfold H.upd part
  by_cases h1 : i = n
  · subst h1; simp
  · by_cases h2 : i < n
    · simp [h1, h2]; omega
    · have h3 : ¬ i < n + 1 := by omega
      simp [h1, h2, h3]
theorem part_at (h s : Nat → UInt32) (n : Nat) : part h s n n = h n := by simp [part]
theorem S3.congrH {w wr : World} {h h' k W s : Nat → UInt32} (q : S3 w wr h k W s) (e : ∀ i, i < 8 → h i = h' i) : S3 w wr h' k W s := ⟨q.hh.congr e, q.kk, q.rr, q.ww, q.ss, q.bel⟩

theorem bx' {a b c : UInt32} (h : a ^^^ b = c) : bits .xor .u32 (a.toNat : Int) (b.toNat : Int) = (c.toNat : Int) := by subst h; exact H.bx a b
theorem ba' {a b c : UInt32} (h : a &&& b = c) : bits .and .u32 (a.toNat : Int) (b.toNat : Int) = (c.toNat : Int) := by subst h; exact H.ba a b
theorem badd' {a b c : UInt32} (h : a + b = c) : ((a.toNat : Int) + (b.toNat : Int)) % 4294967296 = (c.toNat : Int) := by subst h; exact H.badd a b

theorem quiet_same2 {P : Program} {f : FuncId} {args : Array Value} {w : World} {q n : Nat} {v : Value}
    (h : Calls P f args (w.drewN (q + n)) fun e w' => e = .returned v ∧ w' = w.drewN (q + n)) : Calls P f args (w.drewN (q + n)) fun e w'' => e = .returned v ∧ ∃ m, w'' = w.drewN (q + m) :=
  h.mono fun _ _ ⟨he, hm⟩ => ⟨he, n, hm⟩
end Go.Proofs.YtdifilcdiacbpaaDoor
