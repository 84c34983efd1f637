/-
  Texts laid together: Mathb, Read, Reads, Shelf.
-/
import Derived.Test.YthmfbnnfdhoieaaPkERL0
import Derived.Test.YthmfbnnfdhoieaaPkERL1
import Derived.BigQuiet
import Derived.Deep.RegionWith
import Derived.Deep.QuietTactic
import Derived.Deep.RegionHeld3
import Derived.Shelf.LaysM
import Derived.Shelf.Strconv.Clone
import Derived.Test.YthmfbnnfdhoieaaProg
/-
  Plain facts on reading a number that stands in bytes, step by step.
-/
namespace Go.Proofs.Ythmfbnnfdhoieaa.M

theorem pow7 (k : Nat) : (2 : Nat) ^ (7 * k) = 128 ^ k := by rw [Nat.pow_mul]

theorem sh_eq (b k : Nat) : ((b : Int) % 128 * 2 ^ (7 * k)) = ((b % 128 * 128 ^ k : Nat) : Int) := by
  have h : ((2 ^ (7 * k) : Nat) : Int) = (2 : Int) ^ (7 * k) := by simp
  rw [← h, pow7]
  simp

theorem pow_le5 (k : Nat) (h : k ≤ 4) : 128 ^ k ≤ 268435456 := by
  have := Nat.pow_le_pow_right (show 0 < 128 by omega) h
  simpa using this

theorem sh_le (b k : Nat) (h : k ≤ 4) : b % 128 * 128 ^ k ≤ 127 * 268435456 :=
  Nat.mul_le_mul (by omega) (pow_le5 k h)

theorem acc_lt (N b k : Nat) (h : N < 128 ^ k) : N + b % 128 * 128 ^ k < 128 ^ (k + 1) := by
  have h1 : b % 128 * 128 ^ k ≤ 127 * 128 ^ k := Nat.mul_le_mul_right _ (by omega)
  have h2 : 128 ^ (k + 1) = 128 ^ k * 128 := Nat.pow_succ ..
  omega

theorem rv_more (s : List UInt8) (p k N : Nat) (b : UInt8) (hk : k < 5) (hb : s[p + k]? = some b) (h : 127 < b.toNat) :
    rv s p (5 - k) k N = rv s p (5 - (k + 1)) (k + 1) (N + b.toNat % 128 * 128 ^ k) := by
  have e : 5 - k = (5 - (k + 1)) + 1 := by omega
  rw [e]
  simp only [rv, hb]
  rw [if_pos (by omega)]

theorem rv_no (s : List UInt8) (p k N : Nat) (b : UInt8) (hk : k < 5) (hb : s[p + k]? = some b) (h : ¬ 127 < b.toNat) (hn : (b.toNat = 0 ∧ 0 < k) ∨ 1000000000 < N + b.toNat % 128 * 128 ^ k) :
    rv s p (5 - k) k N = none := by
  have e : 5 - k = (5 - (k + 1)) + 1 := by omega
  rw [e]
  simp only [rv, hb]
  rw [if_neg (by omega), if_pos hn]

theorem rv_yes (s : List UInt8) (p k N : Nat) (b : UInt8) (hk : k < 5) (hb : s[p + k]? = some b) (h : ¬ 127 < b.toNat) (hn : ¬ ((b.toNat = 0 ∧ 0 < k) ∨ 1000000000 < N + b.toNat % 128 * 128 ^ k)) :
    rv s p (5 - k) k N = some (N + b.toNat % 128 * 128 ^ k, p + k + 1) := by
  have e : 5 - k = (5 - (k + 1)) + 1 := by omega
  rw [e]
  simp only [rv, hb]
  rw [if_neg (by omega), if_neg hn]

theorem rv_end (s : List UInt8) (p k N : Nat) (h : ¬ (k < 5 ∧ p + k < s.length)) : rv s p (5 - k) k N = none := by
  by_cases hk : k < 5
  · have e : 5 - k = (5 - (k + 1)) + 1 := by omega
    rw [e]
    have hb : s[p + k]? = none := by simp; omega
    simp only [rv, hb]
  · have e : 5 - k = 0 := by omega
    rw [e]
    rfl

end Go.Proofs.Ythmfbnnfdhoieaa.M
/-
  What ReadVar answers, the program's and the specification's: M.readVar of the text and the place.
-/
namespace Go.Proofs.Ythmfbnnfdhoieaa
open Go.RowKit
set_option linter.unusedVariables false

/-- the three results of ReadVar -/
def rvOut : Option (Nat × Nat) → Array Value
  | none => #[.int .i64 0, .int .i64 0, .bool false]
  | some (n, q) => #[.int .i64 n, .int .i64 q, .bool true]

theorem get_l (s : ByteArray) (j : Nat) (h : j < s.size) : s.data.toList[j]? = some s[j] := by
  simp [ByteArray.getElem_eq_getElem_data]

/-- what the loop of ReadVar holds at each round's head -/
def ReadRel (s : ByteArray) (p : Nat) (n i : Value) : Prop :=
  ∃ k N : Nat, k ≤ 5 ∧ p + k ≤ s.size ∧ i = .int .i64 k ∧ n = .int .i64 N ∧ N < 128 ^ k ∧ M.readVar s.data.toList p = M.rv s.data.toList p (5 - k) k N

theorem tuple_none {o : Option (Nat × Nat)} (h : o = none) : Ending.returned (.tuple #[.int .i64 0, .int .i64 0, .bool false]) = .returned (.tuple (rvOut o)) := by rw [h]; rfl
theorem tuple_some {o : Option (Nat × Nat)} {a b : Int} {n q : Nat} (h : o = some (n, q)) (ha : a = n) (hb : b = q) : Ending.returned (.tuple #[.int .i64 a, .int .i64 b, .bool true]) = .returned (.tuple (rvOut o)) := by rw [h, ha, hb]; rfl

end Go.Proofs.Ythmfbnnfdhoieaa
/-
  What the specification's ReadVar answers: M.readVar of the text and the place.
-/
namespace Go.Proofs.Ythmfbnnfdhoieaa
open Go.RowKit
set_option linter.unusedVariables false

theorem hide {p : Prop} (h : p) : Hid p := h
theorem unhide {p : Prop} (h : Hid p) : p := h

/-- the bytes that were read so far -/
def got (s : ByteArray) (p k : Nat) : List UInt8 := (s.data.toList.drop p).take k

def sReadRel (s : ByteArray) (p : Nat) (n sc i : Value) : Prop :=
  ∃ k N S : Nat, k ≤ 5 ∧ p + k ≤ s.size ∧ i = .int .i64 (p + k : Nat) ∧ n = .int .i64 N ∧ sc = .int .i64 S ∧ Hid (S = 128 ^ k) ∧ Hid (N < 128 ^ k) ∧ Hid (M.readVar s.data.toList p = M.rv s.data.toList p (5 - k) k N) ∧
    Hid (∀ b ∈ got s p k, 127 < b.toNat) ∧ Hid (N = M.val (got s p k))

/-- what the round of ReadVar needs of its product -/
theorem prod_le (b k S : Nat) (hS : S = 128 ^ k) (hk : k ≤ 4) : 0 ≤ (b : Int) % 128 * (S : Int) ∧ (b : Int) % 128 * (S : Int) ≤ 34359738368 ∧ (b : Int) % 128 * (S : Int) = ((b % 128 * 128 ^ k : Nat) : Int) := by
  have e : (b : Int) % 128 * (S : Int) = ((b % 128 * 128 ^ k : Nat) : Int) := by rw [hS]; simp
  have := M.sh_le b k hk
  rw [e]
  omega

/-- the bytes of a number, and the piece of the text that is held against them -/
def subB (s : ByteArray) (p k : Nat) : ByteArray := s.extract p (p + k + 1)
def varB (n : Nat) : ByteArray := ⟨(M.varL n).toArray⟩

theorem run_sub (s : ByteArray) (p k : Nat) (h : p + k < s.size) (hs : s.size ≤ 1048576) (w : World) :
    (Instr.slice 9 (.string s) (some (.int .i64 (p : Int))) (some (.int .i64 (IntKind.i64.wrap ((p : Int) + (k : Int) + 1)))) none).run Try.prog w = .ok (.string (subB s p k)) w := by
  rw [IntWalk.i64_in _ (by omega), run_slice_string w 9 s .i64 .i64 _ _ Try.underlying9 (by omega) (by omega) (by omega)]
  have e : ((p : Int) + (k : Int) + 1).toNat = p + k + 1 := by omega
  rw [e]
  rfl

theorem below_dn {B : Nat} {a w : World} (h : Below B a w) (n : Nat) : Below B a (w.drewN n) := h.trans ⟨rfl, rfl, rfl, Nat.le_refl _, fun _ _ => rfl⟩

theorem val_snoc : ∀ (l : List UInt8) (b : UInt8), M.val (l ++ [b]) = M.val l + b.toNat % 128 * 128 ^ l.length
  | [], b => by simp [M.val]
  | a :: l, b => by
    have ih := val_snoc l b
    have e : 128 * (b.toNat % 128 * 128 ^ l.length) = b.toNat % 128 * (128 ^ l.length * 128) := by rw [Nat.mul_left_comm, Nat.mul_comm 128 (128 ^ l.length)]
    simp only [List.cons_append, M.val, ih, List.length_cons, Nat.pow_succ]
    rw [Nat.mul_add, e, ← Nat.add_assoc]

theorem shaped_snoc : ∀ (l : List UInt8) (b : UInt8), (∀ x ∈ l, 127 < x.toNat) → ¬ 127 < b.toNat → M.shaped (l ++ [b])
  | [], b, _, hb => by simp only [List.nil_append, M.shaped]; omega
  | [a], b, h, hb => by
    have := h a (by simp)
    simp only [List.cons_append, List.nil_append, M.shaped]
    omega
  | a :: c :: l, b, h, hb => by
    have h1 := h a (by simp)
    have ih := shaped_snoc (c :: l) b (fun x hx => h x (by simp [hx])) hb
    simp only [List.cons_append, M.shaped] at ih ⊢
    exact ⟨by omega, ih⟩

theorem got_len (s : ByteArray) (p k : Nat) (h : p + k ≤ s.size) : (got s p k).length = k := by
  have : s.data.toList.length = s.size := Array.length_toList
  unfold got
  rw [List.length_take, List.length_drop, this]
  omega

theorem got_succ (s : ByteArray) (p k : Nat) (h : p + k < s.size) : got s p (k + 1) = got s p k ++ [s[p + k]] := by
  unfold got
  rw [List.take_add_one]
  congr 1
  rw [List.getElem?_drop, get_l s (p + k) h]
  rfl

theorem sub_list (s : ByteArray) (p k : Nat) : (subB s p k).data.toList = got s p (k + 1) := by
  unfold subB got
  simp [ByteArray.data_extract, List.extract_eq_take_drop, Nat.add_assoc]

theorem canon_sub (s : ByteArray) (p k N : Nat) (hk : k < 5) (hlt : p + k < s.size) (hall : ∀ b ∈ got s p k, 127 < b.toNat) (hval : N = M.val (got s p k)) (hb : ¬ 127 < s[p + k].toNat) :
    ((varB (N + s[p + k].toNat % 128 * 128 ^ k)).toList == (subB s p k).toList) = !decide (s[p + k].toNat = 0 ∧ 0 < k) := by
  have hl := got_len s p k (by omega)
  have hv : N + s[p + k].toNat % 128 * 128 ^ k = M.val (got s p k ++ [s[p + k]]) := by rw [val_snoc, hl, hval]
  have hc := M.canon 9 (got s p k ++ [s[p + k]]) (shaped_snoc _ _ hall hb) (by simp [hl]; omega)
  have e1 : (varB (N + s[p + k].toNat % 128 * 128 ^ k)).toList = M.varF 9 (M.val (got s p k ++ [s[p + k]])) := by
    rw [hv, ByteArray.toList_eq]
    rfl
  have e2 : (subB s p k).toList = got s p k ++ [s[p + k]] := by
    rw [ByteArray.toList_eq, sub_list, got_succ s p k hlt]
  rw [e1, e2]
  rw [Bool.eq_iff_iff]
  simp only [beq_iff_eq, Bool.not_eq_true', decide_eq_false_iff_not]
  rw [hc]
  have h3 : (got s p k ++ [s[p + k]]).getLast? = some s[p + k] := by simp
  have h4 : (got s p k ++ [s[p + k]]).length = k + 1 := by simp [hl]
  rw [h3, h4]
  have h5 : (s[p + k] = 0) ↔ s[p + k].toNat = 0 := by
    constructor
    · intro h; rw [h]; rfl
    · intro h; exact UInt8.toNat_inj.1 (by simpa using h)
  simp only [ne_eq, Option.some.injEq, h5]
  omega

theorem read_cases (s : ByteArray) (p : Int) : (¬ (0 ≤ p ∧ p ≤ (s.size : Int)) ∨ (0 ≤ p ∧ p ≤ (s.size : Int)) ∧ M.readVar s.data.toList p.toNat = none) ∨ ∃ n q, (0 ≤ p ∧ p ≤ (s.size : Int)) ∧ M.readVar s.data.toList p.toNat = some (n, q) := by
  by_cases h : 0 ≤ p ∧ p ≤ (s.size : Int)
  · cases ho : M.readVar s.data.toList p.toNat with
    | none => exact .inl (.inr ⟨h, rfl⟩)
    | some x => exact .inr ⟨x.1, x.2, h, rfl⟩
  · exact .inl (.inl h)

end Go.Proofs.Ythmfbnnfdhoieaa
/-
  What strings.Clone answers, by the library's own contract laid at this program: the same bytes; of what was there nothing has turned.
-/
namespace Go.Proofs
open Go.Shelf
def Try.laysM316_ren : Go.Shelf.Ren := ⟨fun | 316 => 69 | n => n, fun | 9 => 9 | 3 => 3 | 4 => 4 | 37 => 88 | 0 => 0 | 127 => 119 | 5 => 5 | n => n, fun | n => n⟩
theorem Try.laysM316 : Go.Proofs.LaysM.n316 Try.prog Try.laysM316_ren := {
  mixed := by kernel_rfl
  f316 := Try.func69.trans (congrArg some (by kernel_rfl))
  t0 := Try.underlying0
  a0 := Try.isAgg0
  z0 := Try.sizeOf0
  v0 := Try.zeroValue0
  t3 := Try.underlying3
  a3 := Try.isAgg3
  z3 := Try.sizeOf3
  v3 := Try.zeroValue3
  t4 := Try.underlying4
  a4 := Try.isAgg4
  z4 := Try.sizeOf4
  v4 := Try.zeroValue4
  t9 := Try.underlying9
  a9 := Try.isAgg9
  z9 := Try.sizeOf9
  v9 := Try.zeroValue9
  t37 := Try.underlying88
  a37 := Try.isAgg88
  z37 := Try.sizeOf88
  v37 := Try.zeroValue88
  t127 := Try.underlying119
  a127 := Try.isAgg119
  z127 := Try.sizeOf119
  v127 := Try.zeroValue119
  t5 := Try.underlying5
  a5 := Try.isAgg5
  z5 := Try.sizeOf5
  v5 := Try.zeroValue5
  i0 := by kernel_rfl
  i3 := by kernel_rfl
  i4 := by kernel_rfl
  i5 := by kernel_rfl
  i9 := by kernel_rfl
  i37 := by kernel_rfl
  i127 := by kernel_rfl }
open Go.RowKit in
theorem Try.stringslite_Clone (s : ByteArray) (w : World) (hlim : s.size ≤ 281474976710656) :
    Calls Try.prog 69 #[.string s] w fun e w' => e = .returned (.string s) ∧ Below w.heap.size w w' := Any.stringslite_Clone Try.laysM316 s w hlim
end Go.Proofs
