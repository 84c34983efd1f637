/-
  Texts laid together: Reads, Rshort.
-/
import Derived.Test.YtaejeemjndmjcaaDoorPkS18
import Derived.Deep.QuietTactic
import Derived.BigQuiet
import Derived.Deep.RegionHeld3
import Derived.Test.YtaejeemjndmjcaaDoorPkS17
/-
  What the specification's ReadVar answers: M.readVar of the text and the place.
-/
namespace Go.Proofs.YtaejeemjndmjcaaDoor
open Go.RowKit
set_option linter.unusedVariables false

theorem hide {p : Prop} (h : p) : Hid p := h
theorem unhide {p : Prop} (h : Hid p) : p := h

/-- the bytes that were read so far -/
def got (s : ByteArray) (p k : Nat) : List UInt8 := (s.data.toList.drop p).take k

def sReadRel (s : ByteArray) (p : Nat) (n sc i : Value) : Prop :=
  ∃ k N S : Nat, k ≤ 5 ∧ p + k ≤ s.size ∧ i = .int .i64 (p + k : Nat) ∧ n = .int .i64 N ∧ sc = .int .i64 S ∧ Hid (S = 128 ^ k) ∧ Hid (N < 128 ^ k) ∧ Hid (M.readVar s.data.toList p = M.rv s.data.toList p (5 - k) k N) ∧
    Hid (∀ b ∈ got s p k, 127 < b.toNat) ∧ Hid (N = M.val (got s p k))

/-- what the round of ReadVar needs of its product -/
theorem prod_le (b k S : Nat) (hS : S = 128 ^ k) (hk : k ≤ 4) : 0 ≤ (b : Int) % 128 * (S : Int) ∧ (b : Int) % 128 * (S : Int) ≤ 34359738368 ∧ (b : Int) % 128 * (S : Int) = ((b % 128 * 128 ^ k : Nat) : Int) := by
  have e : (b : Int) % 128 * (S : Int) = ((b % 128 * 128 ^ k : Nat) : Int) := by rw [hS]; simp
  have := M.sh_le b k hk
  rw [e]
  omega

/-- the bytes of a number, and the piece of the text that is held against them -/
def subB (s : ByteArray) (p k : Nat) : ByteArray := s.extract p (p + k + 1)
def varB (n : Nat) : ByteArray := ⟨(M.varL n).toArray⟩

theorem run_sub (s : ByteArray) (p k : Nat) (h : p + k < s.size) (hs : s.size ≤ 1048576) (w : World) :
    (Instr.slice 9 (.string s) (some (.int .i64 (p : Int))) (some (.int .i64 (IntKind.i64.wrap ((p : Int) + (k : Int) + 1)))) none).run Tryd.prog w = .ok (.string (subB s p k)) w := by
  rw [IntWalk.i64_in _ (by omega), run_slice_string w 9 s .i64 .i64 _ _ Tryd.underlying9 (by omega) (by omega) (by omega)]
  have e : ((p : Int) + (k : Int) + 1).toNat = p + k + 1 := by omega
  rw [e]
  rfl

theorem below_dn {B : Nat} {a w : World} (h : Below B a w) (n : Nat) : Below B a (w.drewN n) := h.trans ⟨rfl, rfl, rfl, Nat.le_refl _, fun _ _ => rfl⟩

theorem val_snoc : ∀ (l : List UInt8) (b : UInt8), M.val (l ++ [b]) = M.val l + b.toNat % 128 * 128 ^ l.length
  | [], b => by simp [M.val]
  | a :: l, b => by
    have ih := val_snoc l b
    have e : 128 * (b.toNat % 128 * 128 ^ l.length) = b.toNat % 128 * (128 ^ l.length * 128) := by rw [Nat.mul_left_comm, Nat.mul_comm 128 (128 ^ l.length)]
    simp only [List.cons_append, M.val, ih, List.length_cons, Nat.pow_succ]
    rw [Nat.mul_add, e, ← Nat.add_assoc]

theorem shaped_snoc : ∀ (l : List UInt8) (b : UInt8), (∀ x ∈ l, 127 < x.toNat) → ¬ 127 < b.toNat → M.shaped (l ++ [b])
  | [], b, _, hb => by simp only [List.nil_append, M.shaped]; omega
  | [a], b, h, hb => by
    have := h a (by simp)
    simp only [List.cons_append, List.nil_append, M.shaped]
    omega
  | a :: c :: l, b, h, hb => by
    have h1 := h a (by simp)
    have ih := shaped_snoc (c :: l) b (fun x hx => h x (by simp [hx])) hb
    simp only [List.cons_append, M.shaped] at ih ⊢
    exact ⟨by omega, ih⟩

theorem got_len (s : ByteArray) (p k : Nat) (h : p + k ≤ s.size) : (got s p k).length = k := by
  have : s.data.toList.length = s.size := Array.length_toList
  unfold got
  rw [List.length_take, List.length_drop, this]
  omega

theorem got_succ (s : ByteArray) (p k : Nat) (h : p + k < s.size) : got s p (k + 1) = got s p k ++ [s[p + k]] := by
  unfold got
  rw [List.take_add_one]
  congr 1
  rw [List.getElem?_drop, get_l s (p + k) h]
  rfl

theorem sub_list (s : ByteArray) (p k : Nat) : (subB s p k).data.toList = got s p (k + 1) := by
  unfold subB got
  simp [ByteArray.data_extract, List.extract_eq_take_drop, Nat.add_assoc]

theorem canon_sub (s : ByteArray) (p k N : Nat) (hk : k < 5) (hlt : p + k < s.size) (hall : ∀ b ∈ got s p k, 127 < b.toNat) (hval : N = M.val (got s p k)) (hb : ¬ 127 < s[p + k].toNat) :
    ((varB (N + s[p + k].toNat % 128 * 128 ^ k)).toList == (subB s p k).toList) = !decide (s[p + k].toNat = 0 ∧ 0 < k) := by
  have hl := got_len s p k (by omega)
  have hv : N + s[p + k].toNat % 128 * 128 ^ k = M.val (got s p k ++ [s[p + k]]) := by rw [val_snoc, hl, hval]
  have hc := M.canon 9 (got s p k ++ [s[p + k]]) (shaped_snoc _ _ hall hb) (by simp [hl]; omega)
  have e1 : (varB (N + s[p + k].toNat % 128 * 128 ^ k)).toList = M.varF 9 (M.val (got s p k ++ [s[p + k]])) := by
    rw [hv, ByteArray.toList_eq]
    rfl
  have e2 : (subB s p k).toList = got s p k ++ [s[p + k]] := by
    rw [ByteArray.toList_eq, sub_list, got_succ s p k hlt]
  rw [e1, e2]
  rw [Bool.eq_iff_iff]
  simp only [beq_iff_eq, Bool.not_eq_true', decide_eq_false_iff_not]
  rw [hc]
  have h3 : (got s p k ++ [s[p + k]]).getLast? = some s[p + k] := by simp
  have h4 : (got s p k ++ [s[p + k]]).length = k + 1 := by simp [hl]
  rw [h3, h4]
  have h5 : (s[p + k] = 0) ↔ s[p + k].toNat = 0 := by
    constructor
    · intro h; rw [h]; rfl
    · intro h; exact UInt8.toNat_inj.1 (by simpa using h)
  simp only [ne_eq, Option.some.injEq, h5]
  omega

theorem l01Var_int (x : Int) (w : World) (h0 : 0 ≤ x) (h1 : x ≤ 1000000000) :
    Calls Tryd.prog 78 #[.int .i64 x] w fun e w' => e = .returned (.string (varB x.toNat)) ∧ Below w.heap.size w w' := by
  obtain ⟨n, rfl⟩ := Int.eq_ofNat_of_zero_le h0
  exact l01Var_any n w (by omega)

theorem ReadVar_none (s : ByteArray) (p : Int) (w : World) (hs : s.size ≤ 1048576) (h : ¬ (0 ≤ p ∧ p ≤ (s.size : Int)) ∨ (0 ≤ p ∧ p ≤ (s.size : Int)) ∧ M.readVar s.data.toList p.toNat = none) :
    Calls Tryd.prog 67 #[.string s, .int .i64 p] w fun e w' => e = .returned (.tuple #[.int .i64 0, .int .i64 0, .bool false]) ∧ w' = w := by
  rcases h with h | ⟨h, ho⟩
  · exact ReadVar_out s p w hs (by omega)
  · obtain ⟨n, rfl⟩ := Int.eq_ofNat_of_zero_le h.1
    have hc := ReadVar_in s n w hs (by omega)
    rw [Int.toNat_natCast] at ho
    rw [ho] at hc
    exact hc

theorem ReadVar_some (s : ByteArray) (p : Int) (n q : Nat) (w : World) (hs : s.size ≤ 1048576) (h : 0 ≤ p ∧ p ≤ (s.size : Int)) (ho : M.readVar s.data.toList p.toNat = some (n, q)) :
    Calls Tryd.prog 67 #[.string s, .int .i64 p] w fun e w' => e = .returned (.tuple #[.int .i64 n, .int .i64 q, .bool true]) ∧ w' = w := by
  obtain ⟨m, rfl⟩ := Int.eq_ofNat_of_zero_le h.1
  have hc := ReadVar_in s m w hs (by omega)
  rw [Int.toNat_natCast] at ho
  rw [ho] at hc
  exact hc

theorem read_cases (s : ByteArray) (p : Int) : (¬ (0 ≤ p ∧ p ≤ (s.size : Int)) ∨ (0 ≤ p ∧ p ≤ (s.size : Int)) ∧ M.readVar s.data.toList p.toNat = none) ∨ ∃ n q, (0 ≤ p ∧ p ≤ (s.size : Int)) ∧ M.readVar s.data.toList p.toNat = some (n, q) := by
  by_cases h : 0 ≤ p ∧ p ≤ (s.size : Int)
  · cases ho : M.readVar s.data.toList p.toNat with
    | none => exact .inl (.inr ⟨h, rfl⟩)
    | some x => exact .inr ⟨x.1, x.2, h, rfl⟩
  · exact .inl (.inl h)

end Go.Proofs.YtaejeemjndmjcaaDoor
/-
  What ReadShort answers, the program's and the specification's.
-/
namespace Go.Proofs.YtaejeemjndmjcaaDoor
open Go.RowKit
set_option linter.unusedVariables false

theorem rv_bound (s : List UInt8) (p : Nat) : ∀ (f i n a q : Nat), M.rv s p f i n = some (a, q) → q ≤ s.length ∧ a ≤ 1000000000
  | 0, _, _, _, _, h => by simp [M.rv] at h
  | f + 1, i, n, a, q, h => by
    rw [M.rv] at h
    cases hb : s[p + i]? with
    | none => rw [hb] at h; simp at h
    | some b =>
      rw [hb] at h
      simp only at h
      split at h
      · exact rv_bound s p f (i + 1) _ a q h
      · split at h
        · simp at h
        · obtain ⟨hi, _⟩ := List.getElem?_eq_some_iff.1 hb
          simp at h
          obtain ⟨rfl, rfl⟩ := h
          omega

theorem read_bound (s : ByteArray) (p n q : Nat) (h : M.readVar s.data.toList p = some (n, q)) : q ≤ s.size ∧ n ≤ 1000000000 := by
  have := rv_bound _ _ _ _ _ _ _ h
  rw [Array.length_toList] at this
  exact this

/-- the piece of the text that stands there -/
def piece (s : ByteArray) (q n : Nat) : ByteArray := s.extract q (q + n)
theorem piece_size (s : ByteArray) (q n : Nat) : (piece s q n).size ≤ s.size := by
  unfold piece
  rw [ByteArray.size_extract]
  omega

theorem run_piece (s : ByteArray) (q n : Nat) (h : q + n ≤ s.size) (w : World) :
    (Instr.slice 9 (.string s) (some (.int .i64 (q : Int))) (some (.int .i64 ((q : Int) + (n : Int)))) none).run Tryd.prog w = .ok (.string (piece s q n)) w := by
  rw [run_slice_string w 9 s .i64 .i64 _ _ Tryd.underlying9 (by omega) (by omega) (by omega)]
  have e : ((q : Int) + (n : Int)).toNat = q + n := by omega
  rw [e]
  rfl

theorem ReadShort_yes (s : ByteArray) (p : Int) (n q : Nat) (w : World) (hs : s.size ≤ 1048576) (h : Hid (0 ≤ p ∧ p ≤ (s.size : Int))) (ho : Hid (M.readVar s.data.toList p.toNat = some (n, q))) (hn : n ≤ 20000) (hq : q + n ≤ s.size) :
    Calls Tryd.prog 34 #[.string s, .int .i64 p] w fun e w' => e = .returned (.tuple #[.string (piece s q n), .int .i64 ((q : Int) + (n : Int)), .bool true]) ∧ Below w.heap.size w w' := by
  have hpc := run_piece s q n hq
  have hps := piece_size s q n
  have hn1 : ¬ ((20000 : Int) < (n : Int)) := by omega
  have hn2 : ¬ ((s.size : Int) - (q : Int) < (n : Int)) := by omega
  go_enter Tryd.func34, Tryd.ntmps34
  go_wp2_with fail
  refine (ReadVar_some s p n q _ hs (unhide h) (unhide ho)).mono ?_
  rintro e w1 ⟨rfl, rfl⟩
  go_wp2_with fail
  refine (Clone_any _ _ (by omega)).mono ?_
  rintro e w2 ⟨rfl, hb2⟩
  go_wp2
  go_ret3
  exact ⟨rfl, hb2⟩

theorem ReadShort_no (s : ByteArray) (p : Int) (n q : Nat) (w : World) (hs : s.size ≤ 1048576) (h : Hid (0 ≤ p ∧ p ≤ (s.size : Int))) (ho : Hid (M.readVar s.data.toList p.toNat = some (n, q))) (hq : q ≤ s.size) (hN : n ≤ 1000000000) (hn : ¬ (n ≤ 20000 ∧ q + n ≤ s.size)) :
    Calls Tryd.prog 34 #[.string s, .int .i64 p] w fun e w' => e = .returned (.tuple #[.string ⟨#[]⟩, .int .i64 0, .bool false]) ∧ Below w.heap.size w w' := by
  by_cases hn1 : (20000 : Int) < (n : Int)
  · go_enter Tryd.func34, Tryd.ntmps34
    go_wp2_with fail
    refine (ReadVar_some s p n q _ hs (unhide h) (unhide ho)).mono ?_
    rintro e w1 ⟨rfl, rfl⟩
    go_wp2
    go_ret3
    exact ⟨rfl, Below.refl _ _⟩
  · have hn2 : (s.size : Int) - (q : Int) < (n : Int) := by omega
    go_enter Tryd.func34, Tryd.ntmps34
    go_wp2_with fail
    refine (ReadVar_some s p n q _ hs (unhide h) (unhide ho)).mono ?_
    rintro e w1 ⟨rfl, rfl⟩
    go_wp2
    go_ret3
    exact ⟨rfl, Below.refl _ _⟩

theorem ReadShort_none (s : ByteArray) (p : Int) (w : World) (hs : s.size ≤ 1048576) (h : Hid (¬ (0 ≤ p ∧ p ≤ (s.size : Int)) ∨ (0 ≤ p ∧ p ≤ (s.size : Int)) ∧ M.readVar s.data.toList p.toNat = none)) :
    Calls Tryd.prog 34 #[.string s, .int .i64 p] w fun e w' => e = .returned (.tuple #[.string ⟨#[]⟩, .int .i64 0, .bool false]) ∧ Below w.heap.size w w' := by
  go_enter Tryd.func34, Tryd.ntmps34
  go_wp2_with fail
  refine (ReadVar_none s p _ hs (unhide h)).mono ?_
  rintro e w1 ⟨rfl, rfl⟩
  go_wp2
  go_ret3
  exact ⟨rfl, Below.refl _ _⟩

end Go.Proofs.YtaejeemjndmjcaaDoor
