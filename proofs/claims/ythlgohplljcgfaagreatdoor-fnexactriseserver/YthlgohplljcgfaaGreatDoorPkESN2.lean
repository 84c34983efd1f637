/-
  Texts laid together: Mathb, Read, Reads, Shelf.
-/
import Derived.Test.YthlgohplljcgfaaGreatDoorPkESN0
import Derived.Test.YthlgohplljcgfaaGreatDoorPkESN1
import Derived.BigQuiet
import Derived.Deep.RegionWith
import Derived.Deep.QuietTactic
import Derived.Deep.RegionHeld3
import Derived.Shelf.LaysM
import Derived.Shelf.Strconv.Clone
import Derived.Test.YthlgohplljcgfaaGreatDoorProg
/-
  Plain facts on reading a number that stands in bytes, step by step.
-/
namespace Go.Proofs.YthlgohplljcgfaaGreatDoor.M

theorem pow7 (k : Nat) : (2 : Nat) ^ (7 * k) = 128 ^ k := by rw [Nat.pow_mul]

theorem sh_eq (b k : Nat) : ((b : Int) % 128 * 2 ^ (7 * k)) = ((b % 128 * 128 ^ k : Nat) : Int) := by
  have h : ((2 ^ (7 * k) : Nat) : Int) = (2 : Int) ^ (7 * k) := by simp
  rw [← h, pow7]
  simp

theorem pow_le5 (k : Nat) (h : k ≤ 4) : 128 ^ k ≤ 268435456 := by
  have := Nat.pow_le_pow_right (show 0 < 128 by omega) h
  simpa using this

theorem sh_le (b k : Nat) (h : k ≤ 4) : b % 128 * 128 ^ k ≤ 127 * 268435456 :=
  Nat.mul_le_mul (by omega) (pow_le5 k h)

theorem acc_lt (N b k : Nat) (h : N < 128 ^ k) : N + b % 128 * 128 ^ k < 128 ^ (k + 1) := by
  have h1 : b % 128 * 128 ^ k ≤ 127 * 128 ^ k := Nat.mul_le_mul_right _ (by omega)
  have h2 : 128 ^ (k + 1) = 128 ^ k * 128 := Nat.pow_succ ..
  omega

theorem rv_more (s : List UInt8) (p k N : Nat) (b : UInt8) (hk : k < 5) (hb : s[p + k]? = some b) (h : 127 < b.toNat) :
    rv s p (5 - k) k N = rv s p (5 - (k + 1)) (k + 1) (N + b.toNat % 128 * 128 ^ k) := by
  have e : 5 - k = (5 - (k + 1)) + 1 := by omega
  rw [e]
  simp only [rv, hb]
  rw [if_pos (by omega)]

theorem rv_no (s : List UInt8) (p k N : Nat) (b : UInt8) (hk : k < 5) (hb : s[p + k]? = some b) (h : ¬ 127 < b.toNat) (hn : (b.toNat = 0 ∧ 0 < k) ∨ 1000000000 < N + b.toNat % 128 * 128 ^ k) :
    rv s p (5 - k) k N = none := by
  have e : 5 - k = (5 - (k + 1)) + 1 := by omega
  rw [e]
  simp only [rv, hb]
  rw [if_neg (by omega), if_pos hn]

theorem rv_yes (s : List UInt8) (p k N : Nat) (b : UInt8) (hk : k < 5) (hb : s[p + k]? = some b) (h : ¬ 127 < b.toNat) (hn : ¬ ((b.toNat = 0 ∧ 0 < k) ∨ 1000000000 < N + b.toNat % 128 * 128 ^ k)) :
    rv s p (5 - k) k N = some (N + b.toNat % 128 * 128 ^ k, p + k + 1) := by
  have e : 5 - k = (5 - (k + 1)) + 1 := by omega
  rw [e]
  simp only [rv, hb]
  rw [if_neg (by omega), if_neg hn]

theorem rv_end (s : List UInt8) (p k N : Nat) (h : ¬ (k < 5 ∧ p + k < s.length)) : rv s p (5 - k) k N = none := by
  by_cases hk : k < 5
  · have e : 5 - k = (5 - (k + 1)) + 1 := by omega
    rw [e]
    have hb : s[p + k]? = none := by simp; omega
    simp only [rv, hb]
  · have e : 5 - k = 0 := by omega
    rw [e]
    rfl

end Go.Proofs.YthlgohplljcgfaaGreatDoor.M
/-
  What ReadVar answers, the program's and the specification's: M.readVar of the text and the place.
-/
namespace Go.Proofs.YthlgohplljcgfaaGreatDoor
open Go.RowKit
set_option linter.unusedVariables false

/-- the three results of ReadVar -/
def rvOut : Option (Nat × Nat) → Array Value
  | none => #[.int .i64 0, .int .i64 0, .bool false]
  | some (n, q) => #[.int .i64 n, .int .i64 q, .bool true]

theorem ReadVar_out (s : ByteArray) (p : Int) (w : World) (hs : s.size ≤ 1048576) (hp : p < 0 ∨ (s.size : Int) < p) :
    Calls Tryz.prog 137 #[.string s, .int .i64 p] w fun e w' => e = .returned (.tuple (rvOut none)) ∧ w' = w := by
  rcases hp with h | h
  · go_enter Tryz.func137, Tryz.ntmps137
    go_wp2
    go_ret3
    exact ⟨rfl, rfl⟩
  · have h' : ¬ p < 0 := by omega
    go_enter Tryz.func137, Tryz.ntmps137
    go_wp2
    go_ret3
    exact ⟨rfl, rfl⟩

theorem get_l (s : ByteArray) (j : Nat) (h : j < s.size) : s.data.toList[j]? = some s[j] := by
  simp [ByteArray.getElem_eq_getElem_data]

/-- what the loop of ReadVar holds at each round's head -/
def ReadRel (s : ByteArray) (p : Nat) (n i : Value) : Prop :=
  ∃ k N : Nat, k ≤ 5 ∧ p + k ≤ s.size ∧ i = .int .i64 k ∧ n = .int .i64 N ∧ N < 128 ^ k ∧ M.readVar s.data.toList p = M.rv s.data.toList p (5 - k) k N

theorem tuple_none {o : Option (Nat × Nat)} (h : o = none) : Ending.returned (.tuple #[.int .i64 0, .int .i64 0, .bool false]) = .returned (.tuple (rvOut o)) := by rw [h]; rfl
theorem tuple_some {o : Option (Nat × Nat)} {a b : Int} {n q : Nat} (h : o = some (n, q)) (ha : a = n) (hb : b = q) : Ending.returned (.tuple #[.int .i64 a, .int .i64 b, .bool true]) = .returned (.tuple (rvOut o)) := by rw [h, ha, hb]; rfl

set_option maxHeartbeats 1000000 in
theorem ReadVar_in (s : ByteArray) (p : Nat) (w : World) (hs : s.size ≤ 1048576) (hp : p ≤ s.size) :
    Calls Tryz.prog 137 #[.string s, .int .i64 p] w fun e w' => e = .returned (.tuple (rvOut (M.readVar s.data.toList p))) ∧ w' = w := by
  have hp0 : ¬ ((p : Int) < 0) := by omega
  have hp1 : ¬ (s.size : Int) < (p : Int) := by omega
  by_cases h5 : 5 < s.size - p
  all_goals
    go_enter Tryz.func137, Tryz.ntmps137
    go_wp2
    go_loop [7, 23] (fun n i => ReadRel s p n i) (fun _ i => 5 - (intOf i).toNat)
    case atStart => exact ⟨0, 0, by omega, by omega, rfl, rfl, by omega, rfl⟩
    case round =>
      obtain ⟨k, N, hk, hpk, rfl, rfl, hN, he⟩ := hrel
      have HE : Hid (M.readVar s.data.toList p = M.rv s.data.toList p (5 - k) k N) := he
      clear he
      by_cases hkk : k < 5 ∧ p + k < s.size
      · obtain ⟨hk5, hlt⟩ := hkk
        have hb : s[p + k].toNat < 256 := s[p + k].toNat_lt
        have hx : 0 ≤ (s[p + k].toNat : Int) % 128 * 2 ^ (7 * k) ∧ (s[p + k].toNat : Int) % 128 * 2 ^ (7 * k) ≤ 34359738368 := by
          rw [M.sh_eq]
          have := M.sh_le s[p + k].toNat k (by omega)
          omega
        obtain ⟨hx0, hx1⟩ := hx
        have hN5 : N ≤ 268435456 := Nat.le_trans (Nat.le_of_lt hN) (M.pow_le5 k (by omega))
        have hacc := M.acc_lt N s[p + k].toNat k hN
        have HX : Hid ((s[p + k].toNat : Int) % 128 * 2 ^ (7 * k) = ((s[p + k].toNat % 128 * 128 ^ k : Nat) : Int)) := M.sh_eq _ _
        have hget := get_l s (p + k) hlt
        have HG : Hid (s.data.toList[p + k]? = some s[p + k]) := hget
        clear hget
        by_cases hbb : 127 < s[p + k].toNat
        · go_wp2
          go_round
          case rel =>
            refine ⟨k + 1, N + s[p + k].toNat % 128 * 128 ^ k, by omega, by omega, by go_num, ?_, hacc, ?_⟩
            · have hxe := HX.out
              congr 1
              omega
            · rw [HE.out, M.rv_more _ _ _ _ _ hk5 HG.out hbb]
          case measure => simp [intOf]; omega
        · have HT : Hid (s[p + k].toNat = 0 → s[p + k].toNat % 128 * 128 ^ k = 0) := fun h => by rw [h]; simp
          go_wp2
          all_goals
            go_ret3
            refine ⟨?_, rfl⟩
            have hxe := HX.out
            have hT0 := HT.out
            by_cases hd : (s[p + k].toNat = 0 ∧ 0 < k) ∨ 1000000000 < N + s[p + k].toNat % 128 * 128 ^ k
            · have hv := HE.out.trans (M.rv_no _ _ _ _ _ hk5 HG.out hbb hd)
              first | exact tuple_none hv | (exfalso; omega)
            · have hv := HE.out.trans (M.rv_yes _ _ _ _ _ hk5 HG.out hbb hd)
              first | (exfalso; omega) | (refine tuple_some hv ?_ ?_ <;> omega)
      · go_wp2
        go_ret3
        exact ⟨tuple_none (by rw [HE.out, M.rv_end _ _ _ _ (by simpa using hkk)]), rfl⟩

end Go.Proofs.YthlgohplljcgfaaGreatDoor
/-
  What the specification's ReadVar answers: M.readVar of the text and the place.
-/
namespace Go.Proofs.YthlgohplljcgfaaGreatDoor
open Go.RowKit
set_option linter.unusedVariables false

theorem hide {p : Prop} (h : p) : Hid p := h
theorem unhide {p : Prop} (h : Hid p) : p := h

theorem sReadVar_out (s : ByteArray) (p : Int) (w : World) (hs : s.size ≤ 1048576) (hp : p < 0 ∨ (s.size : Int) < p) :
    Calls Tryz.prog 104 #[.string s, .int .i64 p] w fun e w' => e = .returned (.tuple (rvOut none)) ∧ Below w.heap.size w w' := by
  have hd : decide ((0 : Int) ≤ p ∧ p ≤ (s.size : Int)) = false := by simp; omega
  go_enter Tryz.func104, Tryz.ntmps104
  go_wp2_with fail
  refine (l01In_any _ _ _ _).mono ?_
  rintro e w' ⟨rfl, rfl⟩
  rw [hd]
  go_wp2
  go_ret3
  exact ⟨rfl, Below.refl _ _⟩

/-- the bytes that were read so far -/
def got (s : ByteArray) (p k : Nat) : List UInt8 := (s.data.toList.drop p).take k

def sReadRel (s : ByteArray) (p : Nat) (n sc i : Value) : Prop :=
  ∃ k N S : Nat, k ≤ 5 ∧ p + k ≤ s.size ∧ i = .int .i64 (p + k : Nat) ∧ n = .int .i64 N ∧ sc = .int .i64 S ∧ Hid (S = 128 ^ k) ∧ Hid (N < 128 ^ k) ∧ Hid (M.readVar s.data.toList p = M.rv s.data.toList p (5 - k) k N) ∧
    Hid (∀ b ∈ got s p k, 127 < b.toNat) ∧ Hid (N = M.val (got s p k))

/-- what the round of ReadVar needs of its product -/
theorem prod_le (b k S : Nat) (hS : S = 128 ^ k) (hk : k ≤ 4) : 0 ≤ (b : Int) % 128 * (S : Int) ∧ (b : Int) % 128 * (S : Int) ≤ 34359738368 ∧ (b : Int) % 128 * (S : Int) = ((b % 128 * 128 ^ k : Nat) : Int) := by
  have e : (b : Int) % 128 * (S : Int) = ((b % 128 * 128 ^ k : Nat) : Int) := by rw [hS]; simp
  have := M.sh_le b k hk
  rw [e]
  omega

/-- the bytes of a number, and the piece of the text that is held against them -/
def subB (s : ByteArray) (p k : Nat) : ByteArray := s.extract p (p + k + 1)
def varB (n : Nat) : ByteArray := ⟨(M.varL n).toArray⟩

theorem run_sub (s : ByteArray) (p k : Nat) (h : p + k < s.size) (hs : s.size ≤ 1048576) (w : World) :
    (Instr.slice 9 (.string s) (some (.int .i64 (p : Int))) (some (.int .i64 (IntKind.i64.wrap ((p : Int) + (k : Int) + 1)))) none).run Tryz.prog w = .ok (.string (subB s p k)) w := by
  rw [IntWalk.i64_in _ (by omega), run_slice_string w 9 s .i64 .i64 _ _ Tryz.underlying9 (by omega) (by omega) (by omega)]
  have e : ((p : Int) + (k : Int) + 1).toNat = p + k + 1 := by omega
  rw [e]
  rfl

theorem below_dn {B : Nat} {a w : World} (h : Below B a w) (n : Nat) : Below B a (w.drewN n) := h.trans ⟨rfl, rfl, rfl, Nat.le_refl _, fun _ _ => rfl⟩

theorem val_snoc : ∀ (l : List UInt8) (b : UInt8), M.val (l ++ [b]) = M.val l + b.toNat % 128 * 128 ^ l.length
  | [], b => by simp [M.val]
  | a :: l, b => by
    have ih := val_snoc l b
    have e : 128 * (b.toNat % 128 * 128 ^ l.length) = b.toNat % 128 * (128 ^ l.length * 128) := by rw [Nat.mul_left_comm, Nat.mul_comm 128 (128 ^ l.length)]
    simp only [List.cons_append, M.val, ih, List.length_cons, Nat.pow_succ]
    rw [Nat.mul_add, e, ← Nat.add_assoc]

theorem shaped_snoc : ∀ (l : List UInt8) (b : UInt8), (∀ x ∈ l, 127 < x.toNat) → ¬ 127 < b.toNat → M.shaped (l ++ [b])
  | [], b, _, hb => by simp only [List.nil_append, M.shaped]; omega
  | [a], b, h, hb => by
    have := h a (by simp)
    simp only [List.cons_append, List.nil_append, M.shaped]
    omega
  | a :: c :: l, b, h, hb => by
    have h1 := h a (by simp)
    have ih := shaped_snoc (c :: l) b (fun x hx => h x (by simp [hx])) hb
    simp only [List.cons_append, M.shaped] at ih ⊢
    exact ⟨by omega, ih⟩

theorem got_len (s : ByteArray) (p k : Nat) (h : p + k ≤ s.size) : (got s p k).length = k := by
  have : s.data.toList.length = s.size := Array.length_toList
  unfold got
  rw [List.length_take, List.length_drop, this]
  omega

theorem got_succ (s : ByteArray) (p k : Nat) (h : p + k < s.size) : got s p (k + 1) = got s p k ++ [s[p + k]] := by
  unfold got
  rw [List.take_add_one]
  congr 1
  rw [List.getElem?_drop, get_l s (p + k) h]
  rfl

theorem sub_list (s : ByteArray) (p k : Nat) : (subB s p k).data.toList = got s p (k + 1) := by
  unfold subB got
  simp [ByteArray.data_extract, List.extract_eq_take_drop, Nat.add_assoc]

theorem canon_sub (s : ByteArray) (p k N : Nat) (hk : k < 5) (hlt : p + k < s.size) (hall : ∀ b ∈ got s p k, 127 < b.toNat) (hval : N = M.val (got s p k)) (hb : ¬ 127 < s[p + k].toNat) :
    ((varB (N + s[p + k].toNat % 128 * 128 ^ k)).toList == (subB s p k).toList) = !decide (s[p + k].toNat = 0 ∧ 0 < k) := by
  have hl := got_len s p k (by omega)
  have hv : N + s[p + k].toNat % 128 * 128 ^ k = M.val (got s p k ++ [s[p + k]]) := by rw [val_snoc, hl, hval]
  have hc := M.canon 9 (got s p k ++ [s[p + k]]) (shaped_snoc _ _ hall hb) (by simp [hl]; omega)
  have e1 : (varB (N + s[p + k].toNat % 128 * 128 ^ k)).toList = M.varF 9 (M.val (got s p k ++ [s[p + k]])) := by
    rw [hv, ByteArray.toList_eq]
    rfl
  have e2 : (subB s p k).toList = got s p k ++ [s[p + k]] := by
    rw [ByteArray.toList_eq, sub_list, got_succ s p k hlt]
  rw [e1, e2]
  rw [Bool.eq_iff_iff]
  simp only [beq_iff_eq, Bool.not_eq_true', decide_eq_false_iff_not]
  rw [hc]
  have h3 : (got s p k ++ [s[p + k]]).getLast? = some s[p + k] := by simp
  have h4 : (got s p k ++ [s[p + k]]).length = k + 1 := by simp [hl]
  rw [h3, h4]
  have h5 : (s[p + k] = 0) ↔ s[p + k].toNat = 0 := by
    constructor
    · intro h; rw [h]; rfl
    · intro h; exact UInt8.toNat_inj.1 (by simpa using h)
  simp only [ne_eq, Option.some.injEq, h5]
  omega

theorem l01Var_int (x : Int) (w : World) (h0 : 0 ≤ x) (h1 : x ≤ 1000000000) :
    Calls Tryz.prog 129 #[.int .i64 x] w fun e w' => e = .returned (.string (varB x.toNat)) ∧ Below w.heap.size w w' := by
  obtain ⟨n, rfl⟩ := Int.eq_ofNat_of_zero_le h0
  exact l01Var_any n w (by omega)

set_option maxRecDepth 100000 in
set_option maxHeartbeats 1000000 in
theorem sReadVar_in (s : ByteArray) (p : Nat) (w : World) (hs : s.size ≤ 1048576) (hp : p ≤ s.size) :
    Calls Tryz.prog 104 #[.string s, .int .i64 p] w fun e w' => e = .returned (.tuple (rvOut (M.readVar s.data.toList p))) ∧ Below w.heap.size w w' := by
  have hd : decide ((0 : Int) ≤ p ∧ (p : Int) ≤ (s.size : Int)) = true := by simp; omega
  go_enter Tryz.func104, Tryz.ntmps104
  go_wp2_with fail
  refine (l01In_any _ _ _ _).mono ?_
  rintro e w' ⟨rfl, rfl⟩
  rw [hd]
  go_wp2
  go_loop [7, 8, 9] (fun n sc i => sReadRel s p n sc i) (fun _ _ i => p + 5 - (intOf i).toNat)
  case atStart => exact ⟨0, 0, 1, by omega, by omega, rfl, rfl, rfl, by unfold Hid; rfl, by unfold Hid; omega, by unfold Hid; rfl, by unfold Hid; simp [got], by unfold Hid; simp [got, M.val]⟩
  case round =>
    obtain ⟨k, N, S, hk, hpk, rfl, rfl, rfl, HS, HN, HE, HA, HV⟩ := hrel
    by_cases hkk : k < 5 ∧ p + k < s.size
    · obtain ⟨hk5, hlt⟩ := hkk
      have hb : s[p + k].toNat < 256 := s[p + k].toNat_lt
      have hN5 : N ≤ 268435456 := Nat.le_trans (Nat.le_of_lt HN.out) (M.pow_le5 k (by omega))
      have hS5 : S ≤ 268435456 := by rw [HS.out]; exact M.pow_le5 k (by omega)
      obtain ⟨hx0, hx1, hx⟩ := prod_le s[p + k].toNat k S HS.out (by omega)
      have HX : Hid ((s[p + k].toNat : Int) % 128 * (S : Int) = ((s[p + k].toNat % 128 * 128 ^ k : Nat) : Int)) := hx
      clear hx
      by_cases hbb : 127 < s[p + k].toNat
      · go_wp2
        go_round
        case rel =>
          have hxe := HX.out
          refine ⟨k + 1, N + s[p + k].toNat % 128 * 128 ^ k, S * 128, by omega, by omega, by go_num, ?_, by go_num, by unfold Hid; rw [HS.out, Nat.pow_succ], by unfold Hid; exact M.acc_lt _ _ _ HN.out, ?_, ?_, ?_⟩
          · congr 1
            omega
          · unfold Hid
            rw [HE.out, M.rv_more _ _ _ _ _ hk5 (get_l s (p + k) hlt) hbb]
          · unfold Hid
            rw [got_succ s p k hlt]
            intro b hbm
            rcases List.mem_append.1 hbm with h | h
            · exact HA.out b h
            · simp at h; subst h; exact hbb
          · unfold Hid
            rw [got_succ s p k hlt, val_snoc, got_len s p k (by omega), ← HV.out]
        case measure => simp [intOf]; omega
      · by_cases hmx : (1000000000 : Int) < (N : Int) + (s[p + k].toNat : Int) % 128 * (S : Int)
        · go_wp2
          go_quiet (fail)
          go_wp2
          go_ret3
          have hxe := HX.out
          refine ⟨tuple_none (HE.out.trans (M.rv_no _ _ _ _ _ hk5 (get_l s (p + k) hlt) hbb (.inr ?_))), ?_⟩
          · omega
          · exact below_dn (Below.refl _ _) _
        · have hmy : (N : Int) + (s[p + k].toNat : Int) % 128 * (S : Int) ≤ 1000000000 := by omega
          have hmz : 0 ≤ (N : Int) + (s[p + k].toNat : Int) % 128 * (S : Int) := by omega
          clear hmx
          go_wp2
          generalize hX : (N : Int) + (s[p + k].toNat : Int) % 128 * (S : Int) = X at *
          have HXX : Hid ((N : Int) + (s[p + k].toNat : Int) % 128 * (S : Int) = X) := hX
          clear hX
          have hmd : decide ((1000000000 : Int) < X) = false := by simp; omega
          have hsl := run_sub s p k hlt hs
          have hXN : X.toNat = N + s[p + k].toNat % 128 * 128 ^ k := by
            have h1 := HXX.out
            have h2 := HX.out
            omega
          have hcs := canon_sub s p k N hk5 hlt HA.out HV.out hbb
          rw [← hXN] at hcs
          have HXN : Hid (X.toNat = N + s[p + k].toNat % 128 * 128 ^ k) := hXN
          have HCS : Hid (((varB X.toNat).toList == (subB s p k).toList) = !decide (s[p + k].toNat = 0 ∧ 0 < k)) := hcs
          clear hcs hXN
          go_region_held3 (fun _ => True) (trivial) ((go_at_call 129; refine (l01Var_int X _ hmz hmy).mono ?_; rintro e w1 ⟨rfl, hb1⟩))
          go_wp2
          · go_ret3
            rename_i hyes
            rw [HCS.out] at hyes
            refine ⟨tuple_none (HE.out.trans (M.rv_no _ _ _ _ _ hk5 (get_l s (p + k) hlt) hbb (.inl ?_))), ((Below.refl _ _).drew).trans hb1⟩
            simpa using hyes
          · go_ret3
            rename_i hno
            rw [HCS.out] at hno
            have hxn := HXN.out
            refine ⟨tuple_some (HE.out.trans (M.rv_yes _ _ _ _ _ hk5 (get_l s (p + k) hlt) hbb ?_)) ?_ ?_, ((Below.refl _ _).drew).trans hb1⟩
            · intro h
              rcases h with h | h
              · simp [h] at hno
              · omega
            · omega
            · omega
    · go_wp2
      all_goals
        go_ret3
        exact ⟨tuple_none (by rw [HE.out, M.rv_end _ _ _ _ (by simpa using hkk)]), Below.refl _ _⟩


theorem ReadVar_none (s : ByteArray) (p : Int) (w : World) (hs : s.size ≤ 1048576) (h : ¬ (0 ≤ p ∧ p ≤ (s.size : Int)) ∨ (0 ≤ p ∧ p ≤ (s.size : Int)) ∧ M.readVar s.data.toList p.toNat = none) :
    Calls Tryz.prog 137 #[.string s, .int .i64 p] w fun e w' => e = .returned (.tuple #[.int .i64 0, .int .i64 0, .bool false]) ∧ w' = w := by
  rcases h with h | ⟨h, ho⟩
  · exact ReadVar_out s p w hs (by omega)
  · obtain ⟨n, rfl⟩ := Int.eq_ofNat_of_zero_le h.1
    have hc := ReadVar_in s n w hs (by omega)
    rw [Int.toNat_natCast] at ho
    rw [ho] at hc
    exact hc

theorem ReadVar_some (s : ByteArray) (p : Int) (n q : Nat) (w : World) (hs : s.size ≤ 1048576) (h : 0 ≤ p ∧ p ≤ (s.size : Int)) (ho : M.readVar s.data.toList p.toNat = some (n, q)) :
    Calls Tryz.prog 137 #[.string s, .int .i64 p] w fun e w' => e = .returned (.tuple #[.int .i64 n, .int .i64 q, .bool true]) ∧ w' = w := by
  obtain ⟨m, rfl⟩ := Int.eq_ofNat_of_zero_le h.1
  have hc := ReadVar_in s m w hs (by omega)
  rw [Int.toNat_natCast] at ho
  rw [ho] at hc
  exact hc

theorem sReadVar_none (s : ByteArray) (p : Int) (w : World) (hs : s.size ≤ 1048576) (h : ¬ (0 ≤ p ∧ p ≤ (s.size : Int)) ∨ (0 ≤ p ∧ p ≤ (s.size : Int)) ∧ M.readVar s.data.toList p.toNat = none) :
    Calls Tryz.prog 104 #[.string s, .int .i64 p] w fun e w' => e = .returned (.tuple #[.int .i64 0, .int .i64 0, .bool false]) ∧ Below w.heap.size w w' := by
  rcases h with h | ⟨h, ho⟩
  · exact sReadVar_out s p w hs (by omega)
  · obtain ⟨n, rfl⟩ := Int.eq_ofNat_of_zero_le h.1
    have hc := sReadVar_in s n w hs (by omega)
    rw [Int.toNat_natCast] at ho
    rw [ho] at hc
    exact hc

theorem sReadVar_some (s : ByteArray) (p : Int) (n q : Nat) (w : World) (hs : s.size ≤ 1048576) (h : 0 ≤ p ∧ p ≤ (s.size : Int)) (ho : M.readVar s.data.toList p.toNat = some (n, q)) :
    Calls Tryz.prog 104 #[.string s, .int .i64 p] w fun e w' => e = .returned (.tuple #[.int .i64 n, .int .i64 q, .bool true]) ∧ Below w.heap.size w w' := by
  obtain ⟨m, rfl⟩ := Int.eq_ofNat_of_zero_le h.1
  have hc := sReadVar_in s m w hs (by omega)
  rw [Int.toNat_natCast] at ho
  rw [ho] at hc
  exact hc

theorem read_cases (s : ByteArray) (p : Int) : (¬ (0 ≤ p ∧ p ≤ (s.size : Int)) ∨ (0 ≤ p ∧ p ≤ (s.size : Int)) ∧ M.readVar s.data.toList p.toNat = none) ∨ ∃ n q, (0 ≤ p ∧ p ≤ (s.size : Int)) ∧ M.readVar s.data.toList p.toNat = some (n, q) := by
  by_cases h : 0 ≤ p ∧ p ≤ (s.size : Int)
  · cases ho : M.readVar s.data.toList p.toNat with
    | none => exact .inl (.inr ⟨h, rfl⟩)
    | some x => exact .inr ⟨x.1, x.2, h, rfl⟩
  · exact .inl (.inl h)

end Go.Proofs.YthlgohplljcgfaaGreatDoor
/-
  What strings.Clone answers, by the library's own contract laid at this program: the same bytes; of what was there nothing has turned.
-/
namespace Go.Proofs
open Go.Shelf
def Tryz.laysM316_ren : Go.Shelf.Ren := ⟨fun | 316 => 136 | n => n, fun | 9 => 9 | 3 => 3 | 4 => 4 | 37 => 159 | 0 => 0 | 127 => 197 | 5 => 5 | n => n, fun | n => n⟩
theorem Tryz.laysM316 : Go.Proofs.LaysM.n316 Tryz.prog Tryz.laysM316_ren := {
  mixed := by kernel_rfl
  f316 := Tryz.func136.trans (congrArg some (by kernel_rfl))
  t0 := Tryz.underlying0
  a0 := Tryz.isAgg0
  z0 := Tryz.sizeOf0
  v0 := Tryz.zeroValue0
  t3 := Tryz.underlying3
  a3 := Tryz.isAgg3
  z3 := Tryz.sizeOf3
  v3 := Tryz.zeroValue3
  t4 := Tryz.underlying4
  a4 := Tryz.isAgg4
  z4 := Tryz.sizeOf4
  v4 := Tryz.zeroValue4
  t9 := Tryz.underlying9
  a9 := Tryz.isAgg9
  z9 := Tryz.sizeOf9
  v9 := Tryz.zeroValue9
  t37 := Tryz.underlying159
  a37 := Tryz.isAgg159
  z37 := Tryz.sizeOf159
  v37 := Tryz.zeroValue159
  t127 := Tryz.underlying197
  a127 := Tryz.isAgg197
  z127 := Tryz.sizeOf197
  v127 := Tryz.zeroValue197
  t5 := Tryz.underlying5
  a5 := Tryz.isAgg5
  z5 := Tryz.sizeOf5
  v5 := Tryz.zeroValue5
  i0 := by kernel_rfl
  i3 := by kernel_rfl
  i4 := by kernel_rfl
  i5 := by kernel_rfl
  i9 := by kernel_rfl
  i37 := by kernel_rfl
  i127 := by kernel_rfl }
open Go.RowKit in
theorem Tryz.stringslite_Clone (s : ByteArray) (w : World) (hlim : s.size ≤ 281474976710656) :
    Calls Tryz.prog 136 #[.string s] w fun e w' => e = .returned (.string s) ∧ Below w.heap.size w w' := Any.stringslite_Clone Tryz.laysM316 s w hlim
end Go.Proofs
