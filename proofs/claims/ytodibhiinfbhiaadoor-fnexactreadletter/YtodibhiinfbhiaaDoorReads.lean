/-
  What the specification's ReadVar answers: M.readVar of the text and the place.
-/
import Derived.Test.YtodibhiinfbhiaaDoorRead
import Derived.Deep.QuietTactic
import Derived.BigQuiet
import Derived.Deep.RegionHeld3
namespace Go.Proofs.YtodibhiinfbhiaaDoor
open Go.RowKit
set_option linter.unusedVariables false

theorem hide {p : Prop} (h : p) : Hid p := h
theorem unhide {p : Prop} (h : Hid p) : p := h

theorem sReadVar_out (s : ByteArray) (p : Int) (w : World) (hs : s.size ≤ 1048576) (hp : p < 0 ∨ (s.size : Int) < p) :
    Calls Tryd.prog 51 #[.string s, .int .i64 p] w fun e w' => e = .returned (.tuple (rvOut none)) ∧ Below w.heap.size w w' := by
  have hd : decide ((0 : Int) ≤ p ∧ p ≤ (s.size : Int)) = false := by simp; omega
  go_enter Tryd.func51, Tryd.ntmps51
  go_wp2_with fail
  refine (l01In_any _ _ _ _).mono ?_
  rintro e w' ⟨rfl, rfl⟩
  rw [hd]
  go_wp2
  go_ret3
  exact ⟨rfl, Below.refl _ _⟩

/-- the bytes that were read so far -/
def got (s : ByteArray) (p k : Nat) : List UInt8 := (s.data.toList.drop p).take k

def sReadRel (s : ByteArray) (p : Nat) (n sc i : Value) : Prop :=
  ∃ k N S : Nat, k ≤ 5 ∧ p + k ≤ s.size ∧ i = .int .i64 (p + k : Nat) ∧ n = .int .i64 N ∧ sc = .int .i64 S ∧ Hid (S = 128 ^ k) ∧ Hid (N < 128 ^ k) ∧ Hid (M.readVar s.data.toList p = M.rv s.data.toList p (5 - k) k N) ∧
    Hid (∀ b ∈ got s p k, 127 < b.toNat) ∧ Hid (N = M.val (got s p k))

/-- what the round of ReadVar needs of its product -/
theorem prod_le (b k S : Nat) (hS : S = 128 ^ k) (hk : k ≤ 4) : 0 ≤ (b : Int) % 128 * (S : Int) ∧ (b : Int) % 128 * (S : Int) ≤ 34359738368 ∧ (b : Int) % 128 * (S : Int) = ((b % 128 * 128 ^ k : Nat) : Int) := by
  have e : (b : Int) % 128 * (S : Int) = ((b % 128 * 128 ^ k : Nat) : Int) := by rw [hS]; simp
  have := M.sh_le b k hk
  rw [e]
  omega

/-- the bytes of a number, and the piece of the text that is held against them -/
def subB (s : ByteArray) (p k : Nat) : ByteArray := s.extract p (p + k + 1)
def varB (n : Nat) : ByteArray := ⟨(M.varL n).toArray⟩

theorem run_sub (s : ByteArray) (p k : Nat) (h : p + k < s.size) (hs : s.size ≤ 1048576) (w : World) :
    (Instr.slice 9 (.string s) (some (.int .i64 (p : Int))) (some (.int .i64 (IntKind.i64.wrap ((p : Int) + (k : Int) + 1)))) none).run Tryd.prog w = .ok (.string (subB s p k)) w := by
  rw [IntWalk.i64_in _ (by omega), run_slice_string w 9 s .i64 .i64 _ _ Tryd.underlying9 (by omega) (by omega) (by omega)]
  have e : ((p : Int) + (k : Int) + 1).toNat = p + k + 1 := by omega
  rw [e]
  rfl

theorem below_dn {B : Nat} {a w : World} (h : Below B a w) (n : Nat) : Below B a (w.drewN n) := h.trans ⟨rfl, rfl, rfl, Nat.le_refl _, fun _ _ => rfl⟩

theorem val_snoc : ∀ (l : List UInt8) (b : UInt8), M.val (l ++ [b]) = M.val l + b.toNat % 128 * 128 ^ l.length
  | [], b => by simp [M.val]
  | a :: l, b => by
    have ih := val_snoc l b
    have e : 128 * (b.toNat % 128 * 128 ^ l.length) = b.toNat % 128 * (128 ^ l.length * 128) := by rw [Nat.mul_left_comm, Nat.mul_comm 128 (128 ^ l.length)]
    simp only [List.cons_append, M.val, ih, List.length_cons, Nat.pow_succ]
    rw [Nat.mul_add, e, ← Nat.add_assoc]

theorem shaped_snoc : ∀ (l : List UInt8) (b : UInt8), (∀ x ∈ l, 127 < x.toNat) → ¬ 127 < b.toNat → M.shaped (l ++ [b])
  | [], b, _, hb => by simp only [List.nil_append, M.shaped]; omega
  | [a], b, h, hb => by
    have := h a (by simp)
    simp only [List.cons_append, List.nil_append, M.shaped]
    omega
  | a :: c :: l, b, h, hb => by
    have h1 := h a (by simp)
    have ih := shaped_snoc (c :: l) b (fun x hx => h x (by simp [hx])) hb
    simp only [List.cons_append, M.shaped] at ih ⊢
    exact ⟨by omega, ih⟩

theorem got_len (s : ByteArray) (p k : Nat) (h : p + k ≤ s.size) : (got s p k).length = k := by
  have : s.data.toList.length = s.size := Array.length_toList
  unfold got
  rw [List.length_take, List.length_drop, this]
  omega

theorem got_succ (s : ByteArray) (p k : Nat) (h : p + k < s.size) : got s p (k + 1) = got s p k ++ [s[p + k]] := by
  unfold got
  rw [List.take_add_one]
  congr 1
  rw [List.getElem?_drop, get_l s (p + k) h]
  rfl

theorem sub_list (s : ByteArray) (p k : Nat) : (subB s p k).data.toList = got s p (k + 1) := by
  unfold subB got
  simp [ByteArray.data_extract, List.extract_eq_take_drop, Nat.add_assoc]

theorem canon_sub (s : ByteArray) (p k N : Nat) (hk : k < 5) (hlt : p + k < s.size) (hall : ∀ b ∈ got s p k, 127 < b.toNat) (hval : N = M.val (got s p k)) (hb : ¬ 127 < s[p + k].toNat) :
    ((varB (N + s[p + k].toNat % 128 * 128 ^ k)).toList == (subB s p k).toList) = !decide (s[p + k].toNat = 0 ∧ 0 < k) := by
  have hl := got_len s p k (by omega)
  have hv : N + s[p + k].toNat % 128 * 128 ^ k = M.val (got s p k ++ [s[p + k]]) := by rw [val_snoc, hl, hval]
  have hc := M.canon 9 (got s p k ++ [s[p + k]]) (shaped_snoc _ _ hall hb) (by simp [hl]; omega)
  have e1 : (varB (N + s[p + k].toNat % 128 * 128 ^ k)).toList = M.varF 9 (M.val (got s p k ++ [s[p + k]])) := by
    rw [hv, ByteArray.toList_eq]
    rfl
  have e2 : (subB s p k).toList = got s p k ++ [s[p + k]] := by
    rw [ByteArray.toList_eq, sub_list, got_succ s p k hlt]
  rw [e1, e2]
  rw [Bool.eq_iff_iff]
  simp only [beq_iff_eq, Bool.not_eq_true', decide_eq_false_iff_not]
  rw [hc]
  have h3 : (got s p k ++ [s[p + k]]).getLast? = some s[p + k] := by simp
  have h4 : (got s p k ++ [s[p + k]]).length = k + 1 := by simp [hl]
  rw [h3, h4]
  have h5 : (s[p + k] = 0) ↔ s[p + k].toNat = 0 := by
    constructor
    · intro h; rw [h]; rfl
    · intro h; exact UInt8.toNat_inj.1 (by simpa using h)
  simp only [ne_eq, Option.some.injEq, h5]
  omega

theorem l01Var_int (x : Int) (w : World) (h0 : 0 ≤ x) (h1 : x ≤ 1000000000) :
    Calls Tryd.prog 38 #[.int .i64 x] w fun e w' => e = .returned (.string (varB x.toNat)) ∧ Below w.heap.size w w' := by
  obtain ⟨n, rfl⟩ := Int.eq_ofNat_of_zero_le h0
  exact l01Var_any n w (by omega)

set_option maxRecDepth 100000 in
set_option maxHeartbeats 1000000 in
theorem sReadVar_in (s : ByteArray) (p : Nat) (w : World) (hs : s.size ≤ 1048576) (hp : p ≤ s.size) :
    Calls Tryd.prog 51 #[.string s, .int .i64 p] w fun e w' => e = .returned (.tuple (rvOut (M.readVar s.data.toList p))) ∧ Below w.heap.size w w' := by
  have hd : decide ((0 : Int) ≤ p ∧ (p : Int) ≤ (s.size : Int)) = true := by simp; omega
  go_enter Tryd.func51, Tryd.ntmps51
  go_wp2_with fail
  refine (l01In_any _ _ _ _).mono ?_
  rintro e w' ⟨rfl, rfl⟩
  rw [hd]
  go_wp2
  go_loop [7, 8, 9] (fun n sc i => sReadRel s p n sc i) (fun _ _ i => p + 5 - (intOf i).toNat)
  case atStart => exact ⟨0, 0, 1, by omega, by omega, rfl, rfl, rfl, by unfold Hid; rfl, by unfold Hid; omega, by unfold Hid; rfl, by unfold Hid; simp [got], by unfold Hid; simp [got, M.val]⟩
  case round =>
    obtain ⟨k, N, S, hk, hpk, rfl, rfl, rfl, HS, HN, HE, HA, HV⟩ := hrel
    by_cases hkk : k < 5 ∧ p + k < s.size
    · obtain ⟨hk5, hlt⟩ := hkk
      have hb : s[p + k].toNat < 256 := s[p + k].toNat_lt
      have hN5 : N ≤ 268435456 := Nat.le_trans (Nat.le_of_lt HN.out) (M.pow_le5 k (by omega))
      have hS5 : S ≤ 268435456 := by rw [HS.out]; exact M.pow_le5 k (by omega)
      obtain ⟨hx0, hx1, hx⟩ := prod_le s[p + k].toNat k S HS.out (by omega)
      have HX : Hid ((s[p + k].toNat : Int) % 128 * (S : Int) = ((s[p + k].toNat % 128 * 128 ^ k : Nat) : Int)) := hx
      clear hx
      by_cases hbb : 127 < s[p + k].toNat
      · go_wp2
        go_round
        case rel =>
          have hxe := HX.out
          refine ⟨k + 1, N + s[p + k].toNat % 128 * 128 ^ k, S * 128, by omega, by omega, by go_num, ?_, by go_num, by unfold Hid; rw [HS.out, Nat.pow_succ], by unfold Hid; exact M.acc_lt _ _ _ HN.out, ?_, ?_, ?_⟩
          · congr 1
            omega
          · unfold Hid
            rw [HE.out, M.rv_more _ _ _ _ _ hk5 (get_l s (p + k) hlt) hbb]
          · unfold Hid
            rw [got_succ s p k hlt]
            intro b hbm
            rcases List.mem_append.1 hbm with h | h
            · exact HA.out b h
            · simp at h; subst h; exact hbb
          · unfold Hid
            rw [got_succ s p k hlt, val_snoc, got_len s p k (by omega), ← HV.out]
        case measure => simp [intOf]; omega
      · by_cases hmx : (1000000000 : Int) < (N : Int) + (s[p + k].toNat : Int) % 128 * (S : Int)
        · go_wp2
          go_quiet (fail)
          go_wp2
          go_ret3
          have hxe := HX.out
          refine ⟨tuple_none (HE.out.trans (M.rv_no _ _ _ _ _ hk5 (get_l s (p + k) hlt) hbb (.inr ?_))), ?_⟩
          · omega
          · exact below_dn (Below.refl _ _) _
        · have hmy : (N : Int) + (s[p + k].toNat : Int) % 128 * (S : Int) ≤ 1000000000 := by omega
          have hmz : 0 ≤ (N : Int) + (s[p + k].toNat : Int) % 128 * (S : Int) := by omega
          clear hmx
          go_wp2
          generalize hX : (N : Int) + (s[p + k].toNat : Int) % 128 * (S : Int) = X at *
          have HXX : Hid ((N : Int) + (s[p + k].toNat : Int) % 128 * (S : Int) = X) := hX
          clear hX
          have hmd : decide ((1000000000 : Int) < X) = false := by simp; omega
          have hsl := run_sub s p k hlt hs
          have hXN : X.toNat = N + s[p + k].toNat % 128 * 128 ^ k := by
            have h1 := HXX.out
            have h2 := HX.out
            omega
          have hcs := canon_sub s p k N hk5 hlt HA.out HV.out hbb
          rw [← hXN] at hcs
          have HXN : Hid (X.toNat = N + s[p + k].toNat % 128 * 128 ^ k) := hXN
          have HCS : Hid (((varB X.toNat).toList == (subB s p k).toList) = !decide (s[p + k].toNat = 0 ∧ 0 < k)) := hcs
          clear hcs hXN
          go_region_held3 (fun _ => True) (trivial) ((go_at_call 38; refine (l01Var_int X _ hmz hmy).mono ?_; rintro e w1 ⟨rfl, hb1⟩))
          go_wp2
          · go_ret3
            rename_i hyes
            rw [HCS.out] at hyes
            refine ⟨tuple_none (HE.out.trans (M.rv_no _ _ _ _ _ hk5 (get_l s (p + k) hlt) hbb (.inl ?_))), ((Below.refl _ _).drew).trans hb1⟩
            simpa using hyes
          · go_ret3
            rename_i hno
            rw [HCS.out] at hno
            have hxn := HXN.out
            refine ⟨tuple_some (HE.out.trans (M.rv_yes _ _ _ _ _ hk5 (get_l s (p + k) hlt) hbb ?_)) ?_ ?_, ((Below.refl _ _).drew).trans hb1⟩
            · intro h
              rcases h with h | h
              · simp [h] at hno
              · omega
            · omega
            · omega
    · go_wp2
      all_goals
        go_ret3
        exact ⟨tuple_none (by rw [HE.out, M.rv_end _ _ _ _ (by simpa using hkk)]), Below.refl _ _⟩


theorem ReadVar_none (s : ByteArray) (p : Int) (w : World) (hs : s.size ≤ 1048576) (h : ¬ (0 ≤ p ∧ p ≤ (s.size : Int)) ∨ (0 ≤ p ∧ p ≤ (s.size : Int)) ∧ M.readVar s.data.toList p.toNat = none) :
    Calls Tryd.prog 25 #[.string s, .int .i64 p] w fun e w' => e = .returned (.tuple #[.int .i64 0, .int .i64 0, .bool false]) ∧ w' = w := by
  rcases h with h | ⟨h, ho⟩
  · exact ReadVar_out s p w hs (by omega)
  · obtain ⟨n, rfl⟩ := Int.eq_ofNat_of_zero_le h.1
    have hc := ReadVar_in s n w hs (by omega)
    rw [Int.toNat_natCast] at ho
    rw [ho] at hc
    exact hc

theorem ReadVar_some (s : ByteArray) (p : Int) (n q : Nat) (w : World) (hs : s.size ≤ 1048576) (h : 0 ≤ p ∧ p ≤ (s.size : Int)) (ho : M.readVar s.data.toList p.toNat = some (n, q)) :
    Calls Tryd.prog 25 #[.string s, .int .i64 p] w fun e w' => e = .returned (.tuple #[.int .i64 n, .int .i64 q, .bool true]) ∧ w' = w := by
  obtain ⟨m, rfl⟩ := Int.eq_ofNat_of_zero_le h.1
  have hc := ReadVar_in s m w hs (by omega)
  rw [Int.toNat_natCast] at ho
  rw [ho] at hc
  exact hc

theorem sReadVar_none (s : ByteArray) (p : Int) (w : World) (hs : s.size ≤ 1048576) (h : ¬ (0 ≤ p ∧ p ≤ (s.size : Int)) ∨ (0 ≤ p ∧ p ≤ (s.size : Int)) ∧ M.readVar s.data.toList p.toNat = none) :
    Calls Tryd.prog 51 #[.string s, .int .i64 p] w fun e w' => e = .returned (.tuple #[.int .i64 0, .int .i64 0, .bool false]) ∧ Below w.heap.size w w' := by
  rcases h with h | ⟨h, ho⟩
  · exact sReadVar_out s p w hs (by omega)
  · obtain ⟨n, rfl⟩ := Int.eq_ofNat_of_zero_le h.1
    have hc := sReadVar_in s n w hs (by omega)
    rw [Int.toNat_natCast] at ho
    rw [ho] at hc
    exact hc

theorem sReadVar_some (s : ByteArray) (p : Int) (n q : Nat) (w : World) (hs : s.size ≤ 1048576) (h : 0 ≤ p ∧ p ≤ (s.size : Int)) (ho : M.readVar s.data.toList p.toNat = some (n, q)) :
    Calls Tryd.prog 51 #[.string s, .int .i64 p] w fun e w' => e = .returned (.tuple #[.int .i64 n, .int .i64 q, .bool true]) ∧ Below w.heap.size w w' := by
  obtain ⟨m, rfl⟩ := Int.eq_ofNat_of_zero_le h.1
  have hc := sReadVar_in s m w hs (by omega)
  rw [Int.toNat_natCast] at ho
  rw [ho] at hc
  exact hc

theorem read_cases (s : ByteArray) (p : Int) : (¬ (0 ≤ p ∧ p ≤ (s.size : Int)) ∨ (0 ≤ p ∧ p ≤ (s.size : Int)) ∧ M.readVar s.data.toList p.toNat = none) ∨ ∃ n q, (0 ≤ p ∧ p ≤ (s.size : Int)) ∧ M.readVar s.data.toList p.toNat = some (n, q) := by
  by_cases h : 0 ≤ p ∧ p ≤ (s.size : Int)
  · cases ho : M.readVar s.data.toList p.toNat with
    | none => exact .inl (.inr ⟨h, rfl⟩)
    | some x => exact .inr ⟨x.1, x.2, h, rfl⟩
  · exact .inl (.inl h)

end Go.Proofs.YtodibhiinfbhiaaDoor
