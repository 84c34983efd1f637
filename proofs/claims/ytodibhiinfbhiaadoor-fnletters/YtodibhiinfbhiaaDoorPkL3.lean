/-
  Texts laid together: Read, Reads, Vc.
-/
import Derived.Test.YtodibhiinfbhiaaDoorPkL1
import Derived.Test.YtodibhiinfbhiaaDoorPkL2
import Derived.BigQuiet
import Derived.Deep.RegionWith
import Derived.Deep.QuietTactic
import Derived.Deep.RegionHeld3
import Derived.Lib.QuietBelow
/-
  What ReadVar answers, the program's and the specification's: M.readVar of the text and the place.
-/
namespace Go.Proofs.YtodibhiinfbhiaaDoor
open Go.RowKit
set_option linter.unusedVariables false

/-- the three results of ReadVar -/
def rvOut : Option (Nat × Nat) → Array Value
  | none => #[.int .i64 0, .int .i64 0, .bool false]
  | some (n, q) => #[.int .i64 n, .int .i64 q, .bool true]

theorem ReadVar_out (s : ByteArray) (p : Int) (w : World) (hs : s.size ≤ 1048576) (hp : p < 0 ∨ (s.size : Int) < p) :
    Calls Tryd.prog 25 #[.string s, .int .i64 p] w fun e w' => e = .returned (.tuple (rvOut none)) ∧ w' = w := by
  rcases hp with h | h
  · go_enter Tryd.func25, Tryd.ntmps25
    go_wp2
    go_ret3
    exact ⟨rfl, rfl⟩
  · have h' : ¬ p < 0 := by omega
    go_enter Tryd.func25, Tryd.ntmps25
    go_wp2
    go_ret3
    exact ⟨rfl, rfl⟩

theorem get_l (s : ByteArray) (j : Nat) (h : j < s.size) : s.data.toList[j]? = some s[j] := by
  simp [ByteArray.getElem_eq_getElem_data]

/-- what the loop of ReadVar holds at each round's head -/
def ReadRel (s : ByteArray) (p : Nat) (n i : Value) : Prop :=
  ∃ k N : Nat, k ≤ 5 ∧ p + k ≤ s.size ∧ i = .int .i64 k ∧ n = .int .i64 N ∧ N < 128 ^ k ∧ M.readVar s.data.toList p = M.rv s.data.toList p (5 - k) k N

theorem tuple_none {o : Option (Nat × Nat)} (h : o = none) : Ending.returned (.tuple #[.int .i64 0, .int .i64 0, .bool false]) = .returned (.tuple (rvOut o)) := by rw [h]; rfl
theorem tuple_some {o : Option (Nat × Nat)} {a b : Int} {n q : Nat} (h : o = some (n, q)) (ha : a = n) (hb : b = q) : Ending.returned (.tuple #[.int .i64 a, .int .i64 b, .bool true]) = .returned (.tuple (rvOut o)) := by rw [h, ha, hb]; rfl

set_option maxHeartbeats 1000000 in
theorem ReadVar_in (s : ByteArray) (p : Nat) (w : World) (hs : s.size ≤ 1048576) (hp : p ≤ s.size) :
    Calls Tryd.prog 25 #[.string s, .int .i64 p] w fun e w' => e = .returned (.tuple (rvOut (M.readVar s.data.toList p))) ∧ w' = w := by
  have hp0 : ¬ ((p : Int) < 0) := by omega
  have hp1 : ¬ (s.size : Int) < (p : Int) := by omega
  by_cases h5 : 5 < s.size - p
  all_goals
    go_enter Tryd.func25, Tryd.ntmps25
    go_wp2
    go_loop [7, 23] (fun n i => ReadRel s p n i) (fun _ i => 5 - (intOf i).toNat)
    case atStart => exact ⟨0, 0, by omega, by omega, rfl, rfl, by omega, rfl⟩
    case round =>
      obtain ⟨k, N, hk, hpk, rfl, rfl, hN, he⟩ := hrel
      have HE : Hid (M.readVar s.data.toList p = M.rv s.data.toList p (5 - k) k N) := he
      clear he
      by_cases hkk : k < 5 ∧ p + k < s.size
      · obtain ⟨hk5, hlt⟩ := hkk
        have hb : s[p + k].toNat < 256 := s[p + k].toNat_lt
        have hx : 0 ≤ (s[p + k].toNat : Int) % 128 * 2 ^ (7 * k) ∧ (s[p + k].toNat : Int) % 128 * 2 ^ (7 * k) ≤ 34359738368 := by
          rw [M.sh_eq]
          have := M.sh_le s[p + k].toNat k (by omega)
          omega
        obtain ⟨hx0, hx1⟩ := hx
        have hN5 : N ≤ 268435456 := Nat.le_trans (Nat.le_of_lt hN) (M.pow_le5 k (by omega))
        have hacc := M.acc_lt N s[p + k].toNat k hN
        have HX : Hid ((s[p + k].toNat : Int) % 128 * 2 ^ (7 * k) = ((s[p + k].toNat % 128 * 128 ^ k : Nat) : Int)) := M.sh_eq _ _
        have hget := get_l s (p + k) hlt
        have HG : Hid (s.data.toList[p + k]? = some s[p + k]) := hget
        clear hget
        by_cases hbb : 127 < s[p + k].toNat
        · go_wp2
          go_round
          case rel =>
            refine ⟨k + 1, N + s[p + k].toNat % 128 * 128 ^ k, by omega, by omega, by go_num, ?_, hacc, ?_⟩
            · have hxe := HX.out
              congr 1
              omega
            · rw [HE.out, M.rv_more _ _ _ _ _ hk5 HG.out hbb]
          case measure => simp [intOf]; omega
        · have HT : Hid (s[p + k].toNat = 0 → s[p + k].toNat % 128 * 128 ^ k = 0) := fun h => by rw [h]; simp
          go_wp2
          all_goals
            go_ret3
            refine ⟨?_, rfl⟩
            have hxe := HX.out
            have hT0 := HT.out
            by_cases hd : (s[p + k].toNat = 0 ∧ 0 < k) ∨ 1000000000 < N + s[p + k].toNat % 128 * 128 ^ k
            · have hv := HE.out.trans (M.rv_no _ _ _ _ _ hk5 HG.out hbb hd)
              first | exact tuple_none hv | (exfalso; omega)
            · have hv := HE.out.trans (M.rv_yes _ _ _ _ _ hk5 HG.out hbb hd)
              first | (exfalso; omega) | (refine tuple_some hv ?_ ?_ <;> omega)
      · go_wp2
        go_ret3
        exact ⟨tuple_none (by rw [HE.out, M.rv_end _ _ _ _ (by simpa using hkk)]), rfl⟩

end Go.Proofs.YtodibhiinfbhiaaDoor
/-
  What the specification's ReadVar answers: M.readVar of the text and the place.
-/
namespace Go.Proofs.YtodibhiinfbhiaaDoor
open Go.RowKit
set_option linter.unusedVariables false

theorem hide {p : Prop} (h : p) : Hid p := h
theorem unhide {p : Prop} (h : Hid p) : p := h

theorem sReadVar_out (s : ByteArray) (p : Int) (w : World) (hs : s.size ≤ 1048576) (hp : p < 0 ∨ (s.size : Int) < p) :
    Calls Tryd.prog 51 #[.string s, .int .i64 p] w fun e w' => e = .returned (.tuple (rvOut none)) ∧ Below w.heap.size w w' := by
  have hd : decide ((0 : Int) ≤ p ∧ p ≤ (s.size : Int)) = false := by simp; omega
  go_enter Tryd.func51, Tryd.ntmps51
  go_wp2_with fail
  refine (l01In_any _ _ _ _).mono ?_
  rintro e w' ⟨rfl, rfl⟩
  rw [hd]
  go_wp2
  go_ret3
  exact ⟨rfl, Below.refl _ _⟩

/-- the bytes that were read so far -/
def got (s : ByteArray) (p k : Nat) : List UInt8 := (s.data.toList.drop p).take k

def sReadRel (s : ByteArray) (p : Nat) (n sc i : Value) : Prop :=
  ∃ k N S : Nat, k ≤ 5 ∧ p + k ≤ s.size ∧ i = .int .i64 (p + k : Nat) ∧ n = .int .i64 N ∧ sc = .int .i64 S ∧ Hid (S = 128 ^ k) ∧ Hid (N < 128 ^ k) ∧ Hid (M.readVar s.data.toList p = M.rv s.data.toList p (5 - k) k N) ∧
    Hid (∀ b ∈ got s p k, 127 < b.toNat) ∧ Hid (N = M.val (got s p k))

/-- what the round of ReadVar needs of its product -/
theorem prod_le (b k S : Nat) (hS : S = 128 ^ k) (hk : k ≤ 4) : 0 ≤ (b : Int) % 128 * (S : Int) ∧ (b : Int) % 128 * (S : Int) ≤ 34359738368 ∧ (b : Int) % 128 * (S : Int) = ((b % 128 * 128 ^ k : Nat) : Int) := by
  have e : (b : Int) % 128 * (S : Int) = ((b % 128 * 128 ^ k : Nat) : Int) := by rw [hS]; simp
  have := M.sh_le b k hk
  rw [e]
  omega

/-- the bytes of a number, and the piece of the text that is held against them -/
def subB (s : ByteArray) (p k : Nat) : ByteArray := s.extract p (p + k + 1)
def varB (n : Nat) : ByteArray := ⟨(M.varL n).toArray⟩

theorem run_sub (s : ByteArray) (p k : Nat) (h : p + k < s.size) (hs : s.size ≤ 1048576) (w : World) :
    (Instr.slice 9 (.string s) (some (.int .i64 (p : Int))) (some (.int .i64 (IntKind.i64.wrap ((p : Int) + (k : Int) + 1)))) none).run Tryd.prog w = .ok (.string (subB s p k)) w := by
  rw [IntWalk.i64_in _ (by omega), run_slice_string w 9 s .i64 .i64 _ _ Tryd.underlying9 (by omega) (by omega) (by omega)]
  have e : ((p : Int) + (k : Int) + 1).toNat = p + k + 1 := by omega
  rw [e]
  rfl

theorem below_dn {B : Nat} {a w : World} (h : Below B a w) (n : Nat) : Below B a (w.drewN n) := h.trans ⟨rfl, rfl, rfl, Nat.le_refl _, fun _ _ => rfl⟩

theorem val_snoc : ∀ (l : List UInt8) (b : UInt8), M.val (l ++ [b]) = M.val l + b.toNat % 128 * 128 ^ l.length
  | [], b => by simp [M.val]
  | a :: l, b => by
    have ih := val_snoc l b
    have e : 128 * (b.toNat % 128 * 128 ^ l.length) = b.toNat % 128 * (128 ^ l.length * 128) := by rw [Nat.mul_left_comm, Nat.mul_comm 128 (128 ^ l.length)]
    simp only [List.cons_append, M.val, ih, List.length_cons, Nat.pow_succ]
    rw [Nat.mul_add, e, ← Nat.add_assoc]

theorem shaped_snoc : ∀ (l : List UInt8) (b : UInt8), (∀ x ∈ l, 127 < x.toNat) → ¬ 127 < b.toNat → M.shaped (l ++ [b])
  | [], b, _, hb => by simp only [List.nil_append, M.shaped]; omega
  | [a], b, h, hb => by
    have := h a (by simp)
    simp only [List.cons_append, List.nil_append, M.shaped]
    omega
  | a :: c :: l, b, h, hb => by
    have h1 := h a (by simp)
    have ih := shaped_snoc (c :: l) b (fun x hx => h x (by simp [hx])) hb
    simp only [List.cons_append, M.shaped] at ih ⊢
    exact ⟨by omega, ih⟩

theorem got_len (s : ByteArray) (p k : Nat) (h : p + k ≤ s.size) : (got s p k).length = k := by
  have : s.data.toList.length = s.size := Array.length_toList
  unfold got
  rw [List.length_take, List.length_drop, this]
  omega

theorem got_succ (s : ByteArray) (p k : Nat) (h : p + k < s.size) : got s p (k + 1) = got s p k ++ [s[p + k]] := by
  unfold got
  rw [List.take_add_one]
  congr 1
  rw [List.getElem?_drop, get_l s (p + k) h]
  rfl

theorem sub_list (s : ByteArray) (p k : Nat) : (subB s p k).data.toList = got s p (k + 1) := by
  unfold subB got
  simp [ByteArray.data_extract, List.extract_eq_take_drop, Nat.add_assoc]

theorem canon_sub (s : ByteArray) (p k N : Nat) (hk : k < 5) (hlt : p + k < s.size) (hall : ∀ b ∈ got s p k, 127 < b.toNat) (hval : N = M.val (got s p k)) (hb : ¬ 127 < s[p + k].toNat) :
    ((varB (N + s[p + k].toNat % 128 * 128 ^ k)).toList == (subB s p k).toList) = !decide (s[p + k].toNat = 0 ∧ 0 < k) := by
  have hl := got_len s p k (by omega)
  have hv : N + s[p + k].toNat % 128 * 128 ^ k = M.val (got s p k ++ [s[p + k]]) := by rw [val_snoc, hl, hval]
  have hc := M.canon 9 (got s p k ++ [s[p + k]]) (shaped_snoc _ _ hall hb) (by simp [hl]; omega)
  have e1 : (varB (N + s[p + k].toNat % 128 * 128 ^ k)).toList = M.varF 9 (M.val (got s p k ++ [s[p + k]])) := by
    rw [hv, ByteArray.toList_eq]
    rfl
  have e2 : (subB s p k).toList = got s p k ++ [s[p + k]] := by
    rw [ByteArray.toList_eq, sub_list, got_succ s p k hlt]
  rw [e1, e2]
  rw [Bool.eq_iff_iff]
  simp only [beq_iff_eq, Bool.not_eq_true', decide_eq_false_iff_not]
  rw [hc]
  have h3 : (got s p k ++ [s[p + k]]).getLast? = some s[p + k] := by simp
  have h4 : (got s p k ++ [s[p + k]]).length = k + 1 := by simp [hl]
  rw [h3, h4]
  have h5 : (s[p + k] = 0) ↔ s[p + k].toNat = 0 := by
    constructor
    · intro h; rw [h]; rfl
    · intro h; exact UInt8.toNat_inj.1 (by simpa using h)
  simp only [ne_eq, Option.some.injEq, h5]
  omega

theorem l01Var_int (x : Int) (w : World) (h0 : 0 ≤ x) (h1 : x ≤ 1000000000) :
    Calls Tryd.prog 38 #[.int .i64 x] w fun e w' => e = .returned (.string (varB x.toNat)) ∧ Below w.heap.size w w' := by
  obtain ⟨n, rfl⟩ := Int.eq_ofNat_of_zero_le h0
  exact l01Var_any n w (by omega)

set_option maxRecDepth 100000 in
set_option maxHeartbeats 1000000 in
theorem sReadVar_in (s : ByteArray) (p : Nat) (w : World) (hs : s.size ≤ 1048576) (hp : p ≤ s.size) :
    Calls Tryd.prog 51 #[.string s, .int .i64 p] w fun e w' => e = .returned (.tuple (rvOut (M.readVar s.data.toList p))) ∧ Below w.heap.size w w' := by
  have hd : decide ((0 : Int) ≤ p ∧ (p : Int) ≤ (s.size : Int)) = true := by simp; omega
  go_enter Tryd.func51, Tryd.ntmps51
  go_wp2_with fail
  refine (l01In_any _ _ _ _).mono ?_
  rintro e w' ⟨rfl, rfl⟩
  rw [hd]
  go_wp2
  go_loop [7, 8, 9] (fun n sc i => sReadRel s p n sc i) (fun _ _ i => p + 5 - (intOf i).toNat)
  case atStart => exact ⟨0, 0, 1, by omega, by omega, rfl, rfl, rfl, by unfold Hid; rfl, by unfold Hid; omega, by unfold Hid; rfl, by unfold Hid; simp [got], by unfold Hid; simp [got, M.val]⟩
  case round =>
    obtain ⟨k, N, S, hk, hpk, rfl, rfl, rfl, HS, HN, HE, HA, HV⟩ := hrel
    by_cases hkk : k < 5 ∧ p + k < s.size
    · obtain ⟨hk5, hlt⟩ := hkk
      have hb : s[p + k].toNat < 256 := s[p + k].toNat_lt
      have hN5 : N ≤ 268435456 := Nat.le_trans (Nat.le_of_lt HN.out) (M.pow_le5 k (by omega))
      have hS5 : S ≤ 268435456 := by rw [HS.out]; exact M.pow_le5 k (by omega)
      obtain ⟨hx0, hx1, hx⟩ := prod_le s[p + k].toNat k S HS.out (by omega)
      have HX : Hid ((s[p + k].toNat : Int) % 128 * (S : Int) = ((s[p + k].toNat % 128 * 128 ^ k : Nat) : Int)) := hx
      clear hx
      by_cases hbb : 127 < s[p + k].toNat
      · go_wp2
        go_round
        case rel =>
          have hxe := HX.out
          refine ⟨k + 1, N + s[p + k].toNat % 128 * 128 ^ k, S * 128, by omega, by omega, by go_num, ?_, by go_num, by unfold Hid; rw [HS.out, Nat.pow_succ], by unfold Hid; exact M.acc_lt _ _ _ HN.out, ?_, ?_, ?_⟩
          · congr 1
            omega
          · unfold Hid
            rw [HE.out, M.rv_more _ _ _ _ _ hk5 (get_l s (p + k) hlt) hbb]
          · unfold Hid
            rw [got_succ s p k hlt]
            intro b hbm
            rcases List.mem_append.1 hbm with h | h
            · exact HA.out b h
            · simp at h; subst h; exact hbb
          · unfold Hid
            rw [got_succ s p k hlt, val_snoc, got_len s p k (by omega), ← HV.out]
        case measure => simp [intOf]; omega
      · by_cases hmx : (1000000000 : Int) < (N : Int) + (s[p + k].toNat : Int) % 128 * (S : Int)
        · go_wp2
          go_quiet (fail)
          go_wp2
          go_ret3
          have hxe := HX.out
          refine ⟨tuple_none (HE.out.trans (M.rv_no _ _ _ _ _ hk5 (get_l s (p + k) hlt) hbb (.inr ?_))), ?_⟩
          · omega
          · exact below_dn (Below.refl _ _) _
        · have hmy : (N : Int) + (s[p + k].toNat : Int) % 128 * (S : Int) ≤ 1000000000 := by omega
          have hmz : 0 ≤ (N : Int) + (s[p + k].toNat : Int) % 128 * (S : Int) := by omega
          clear hmx
          go_wp2
          generalize hX : (N : Int) + (s[p + k].toNat : Int) % 128 * (S : Int) = X at *
          have HXX : Hid ((N : Int) + (s[p + k].toNat : Int) % 128 * (S : Int) = X) := hX
          clear hX
          have hmd : decide ((1000000000 : Int) < X) = false := by simp; omega
          have hsl := run_sub s p k hlt hs
          have hXN : X.toNat = N + s[p + k].toNat % 128 * 128 ^ k := by
            have h1 := HXX.out
            have h2 := HX.out
            omega
          have hcs := canon_sub s p k N hk5 hlt HA.out HV.out hbb
          rw [← hXN] at hcs
          have HXN : Hid (X.toNat = N + s[p + k].toNat % 128 * 128 ^ k) := hXN
          have HCS : Hid (((varB X.toNat).toList == (subB s p k).toList) = !decide (s[p + k].toNat = 0 ∧ 0 < k)) := hcs
          clear hcs hXN
          go_region_held3 (fun _ => True) (trivial) ((go_at_call 38; refine (l01Var_int X _ hmz hmy).mono ?_; rintro e w1 ⟨rfl, hb1⟩))
          go_wp2
          · go_ret3
            rename_i hyes
            rw [HCS.out] at hyes
            refine ⟨tuple_none (HE.out.trans (M.rv_no _ _ _ _ _ hk5 (get_l s (p + k) hlt) hbb (.inl ?_))), ((Below.refl _ _).drew).trans hb1⟩
            simpa using hyes
          · go_ret3
            rename_i hno
            rw [HCS.out] at hno
            have hxn := HXN.out
            refine ⟨tuple_some (HE.out.trans (M.rv_yes _ _ _ _ _ hk5 (get_l s (p + k) hlt) hbb ?_)) ?_ ?_, ((Below.refl _ _).drew).trans hb1⟩
            · intro h
              rcases h with h | h
              · simp [h] at hno
              · omega
            · omega
            · omega
    · go_wp2
      all_goals
        go_ret3
        exact ⟨tuple_none (by rw [HE.out, M.rv_end _ _ _ _ (by simpa using hkk)]), Below.refl _ _⟩


theorem ReadVar_none (s : ByteArray) (p : Int) (w : World) (hs : s.size ≤ 1048576) (h : ¬ (0 ≤ p ∧ p ≤ (s.size : Int)) ∨ (0 ≤ p ∧ p ≤ (s.size : Int)) ∧ M.readVar s.data.toList p.toNat = none) :
    Calls Tryd.prog 25 #[.string s, .int .i64 p] w fun e w' => e = .returned (.tuple #[.int .i64 0, .int .i64 0, .bool false]) ∧ w' = w := by
  rcases h with h | ⟨h, ho⟩
  · exact ReadVar_out s p w hs (by omega)
  · obtain ⟨n, rfl⟩ := Int.eq_ofNat_of_zero_le h.1
    have hc := ReadVar_in s n w hs (by omega)
    rw [Int.toNat_natCast] at ho
    rw [ho] at hc
    exact hc

theorem ReadVar_some (s : ByteArray) (p : Int) (n q : Nat) (w : World) (hs : s.size ≤ 1048576) (h : 0 ≤ p ∧ p ≤ (s.size : Int)) (ho : M.readVar s.data.toList p.toNat = some (n, q)) :
    Calls Tryd.prog 25 #[.string s, .int .i64 p] w fun e w' => e = .returned (.tuple #[.int .i64 n, .int .i64 q, .bool true]) ∧ w' = w := by
  obtain ⟨m, rfl⟩ := Int.eq_ofNat_of_zero_le h.1
  have hc := ReadVar_in s m w hs (by omega)
  rw [Int.toNat_natCast] at ho
  rw [ho] at hc
  exact hc

theorem sReadVar_none (s : ByteArray) (p : Int) (w : World) (hs : s.size ≤ 1048576) (h : ¬ (0 ≤ p ∧ p ≤ (s.size : Int)) ∨ (0 ≤ p ∧ p ≤ (s.size : Int)) ∧ M.readVar s.data.toList p.toNat = none) :
    Calls Tryd.prog 51 #[.string s, .int .i64 p] w fun e w' => e = .returned (.tuple #[.int .i64 0, .int .i64 0, .bool false]) ∧ Below w.heap.size w w' := by
  rcases h with h | ⟨h, ho⟩
  · exact sReadVar_out s p w hs (by omega)
  · obtain ⟨n, rfl⟩ := Int.eq_ofNat_of_zero_le h.1
    have hc := sReadVar_in s n w hs (by omega)
    rw [Int.toNat_natCast] at ho
    rw [ho] at hc
    exact hc

theorem sReadVar_some (s : ByteArray) (p : Int) (n q : Nat) (w : World) (hs : s.size ≤ 1048576) (h : 0 ≤ p ∧ p ≤ (s.size : Int)) (ho : M.readVar s.data.toList p.toNat = some (n, q)) :
    Calls Tryd.prog 51 #[.string s, .int .i64 p] w fun e w' => e = .returned (.tuple #[.int .i64 n, .int .i64 q, .bool true]) ∧ Below w.heap.size w w' := by
  obtain ⟨m, rfl⟩ := Int.eq_ofNat_of_zero_le h.1
  have hc := sReadVar_in s m w hs (by omega)
  rw [Int.toNat_natCast] at ho
  rw [ho] at hc
  exact hc

theorem read_cases (s : ByteArray) (p : Int) : (¬ (0 ≤ p ∧ p ≤ (s.size : Int)) ∨ (0 ≤ p ∧ p ≤ (s.size : Int)) ∧ M.readVar s.data.toList p.toNat = none) ∨ ∃ n q, (0 ≤ p ∧ p ≤ (s.size : Int)) ∧ M.readVar s.data.toList p.toNat = some (n, q) := by
  by_cases h : 0 ≤ p ∧ p ≤ (s.size : Int)
  · cases ho : M.readVar s.data.toList p.toNat with
    | none => exact .inl (.inr ⟨h, rfl⟩)
    | some x => exact .inr ⟨x.1, x.2, h, rfl⟩
  · exact .inl (.inl h)

end Go.Proofs.YtodibhiinfbhiaaDoor
/-
  When a letter is right: the program's and the specification's answers.
-/
namespace Go.Proofs.YtodibhiinfbhiaaDoor
open Go.RowKit Go.BigFrame Go.Sort
set_option linter.unusedVariables false
set_option linter.unusedSimpArgs false

namespace VV
/-- who may write what to whom -/
def way (k f t : Int) : Bool := decide (((k = 1 ∨ k = 3 ∨ k = 4) ∧ f = 0 ∧ 1 ≤ t ∧ t ≤ 4) ∨ ((k = 2 ∨ k = 5) ∧ t = 0 ∧ 1 ≤ f ∧ f ≤ 4))
def rw (k : Int) : Nat := if k = 2 then 16 else 0
def ok (x : Ltr) : Bool := way x.k x.f x.t && decide (1 ≤ x.e ∧ x.e ≤ 4) && decide (1 ≤ x.y ∧ x.y ≤ 1000) && decide (x.r.size = rw x.k)
end VV
theorem VV.full (s : ByteArray) (h : s.size ≠ 0) : s.toList.isEmpty = false := by
  rw [ByteArray.toList_eq, List.isEmpty_eq_false_iff]
  intro h0
  have : s.data.toList.length = 0 := by rw [h0]; rfl
  have h1 : s.data.toList.length = s.size := Array.length_toList
  omega
theorem VV.empty (s : ByteArray) (h : s.size = 0) : s.toList.isEmpty = true := by
  rw [ByteArray.toList_eq, List.isEmpty_iff]
  have h1 : s.data.toList.length = s.size := Array.length_toList
  exact List.length_eq_zero_iff.1 (by omega)
/-- in cells of any box -/
def RKc (W : World) (g : Nat) (x : Ltr) : Prop := W.rangeAt g 0 (kcs x) ∧ g < W.heap.size
theorem RKc.c0 {W : World} {g : Nat} {x : Ltr} (h : RKc W g x) : W.cell? ⟨g, 0, none⟩ = some (.int .i64 x.k) := h.1 0 _ rfl
theorem RKc.c1 {W : World} {g : Nat} {x : Ltr} (h : RKc W g x) : W.cell? ⟨g, 1, none⟩ = some (.int .i64 x.f) := h.1 1 _ rfl
theorem RKc.c2 {W : World} {g : Nat} {x : Ltr} (h : RKc W g x) : W.cell? ⟨g, 2, none⟩ = some (.int .i64 x.t) := h.1 2 _ rfl
theorem RKc.c3 {W : World} {g : Nat} {x : Ltr} (h : RKc W g x) : W.cell? ⟨g, 3, none⟩ = some (.int .i64 x.e) := h.1 3 _ rfl
theorem RKc.c4 {W : World} {g : Nat} {x : Ltr} (h : RKc W g x) : W.cell? ⟨g, 4, none⟩ = some (.int .i64 x.y) := h.1 4 _ rfl
theorem RKc.c5 {W : World} {g : Nat} {x : Ltr} (h : RKc W g x) : W.cell? ⟨g, 5, none⟩ = some (.string x.r) := h.1 5 _ rfl

theorem isShardNode_any (x : Int) (w : World) : Calls Tryd.prog 47 #[.int .i64 x] w fun e w' => e = .returned (.bool (decide (1 ≤ x ∧ x ≤ 4))) ∧ w' = w := by
  by_cases h1 : 0 < x
  · by_cases h2 : x ≤ 4
    · rw [decide_eq_true ⟨by omega, h2⟩]
      go_enter Tryd.func47, Tryd.ntmps47
      go_wp2
      go_ret
      exact ⟨rfl, rfl⟩
    · rw [decide_eq_false (fun h => h2 h.2)]
      go_enter Tryd.func47, Tryd.ntmps47
      go_wp2
      go_ret
      exact ⟨rfl, rfl⟩
  · rw [decide_eq_false (fun h => by omega)]
    go_enter Tryd.func47, Tryd.ntmps47
    go_wp2
    go_ret
    exact ⟨rfl, rfl⟩
theorem tryOk_any (x : Int) (w : World) : Calls Tryd.prog 29 #[.int .i64 x] w fun e w' => e = .returned (.bool (decide (1 ≤ x ∧ x ≤ 1000))) ∧ w' = w := by
  by_cases h1 : 1 ≤ x
  · by_cases h2 : x ≤ 1000
    · rw [decide_eq_true ⟨h1, h2⟩]
      go_enter Tryd.func29, Tryd.ntmps29
      go_wp2
      go_ret
      exact ⟨rfl, rfl⟩
    · rw [decide_eq_false (fun h => h2 h.2)]
      go_enter Tryd.func29, Tryd.ntmps29
      go_wp2
      go_ret
      exact ⟨rfl, rfl⟩
  · rw [decide_eq_false (fun h => h1 h.1)]
    go_enter Tryd.func29, Tryd.ntmps29
    go_wp2
    go_ret
    exact ⟨rfl, rfl⟩
theorem epochOkV_any (x : Int) (w : World) : Calls Tryd.prog 28 #[.int .i64 x] w fun e w' => e = .returned (.bool (decide (1 ≤ x ∧ x ≤ 4))) ∧ w' = w := by
  by_cases h1 : 1 ≤ x
  · by_cases h2 : x ≤ 4
    · rw [decide_eq_true ⟨h1, h2⟩]
      go_enter Tryd.func28, Tryd.ntmps28
      go_wp2
      go_ret
      exact ⟨rfl, rfl⟩
    · rw [decide_eq_false (fun h => h2 h.2)]
      go_enter Tryd.func28, Tryd.ntmps28
      go_wp2
      go_ret
      exact ⟨rfl, rfl⟩
  · rw [decide_eq_false (fun h => h1 h.1)]
    go_enter Tryd.func28, Tryd.ntmps28
    go_wp2
    go_ret
    exact ⟨rfl, rfl⟩

set_option maxRecDepth 100000 in
set_option maxHeartbeats 1000000 in
theorem rootWide_any (x : Ltr) (w : World) : Calls Tryd.prog 30 #[.agg #[.int .i64 x.k, .int .i64 x.f, .int .i64 x.t, .int .i64 x.e, .int .i64 x.y, .string x.r]] w fun e w' => e = .returned (.int .i64 ((VV.rw x.k : Nat) : Int)) ∧ Below w.heap.size w w' := by
  obtain ⟨k, f, t, e, y, r⟩ := x
  have HB : Hid (Below w.heap.size w (w.alloc (.cells #[.int .i64 k, .int .i64 f, .int .i64 t, .int .i64 e, .int .i64 y, .string r] 25))) := (Below.refl _ _).alloc (Nat.le_refl _) _
  unfold VV.rw
  by_cases h1 : k = 2
  · rw [if_pos h1]
    subst h1
    go_enter Tryd.func30, Tryd.ntmps30
    go_wp2
    go_ret
    exact ⟨rfl, HB.out⟩
  · rw [if_neg h1]
    have q : (k == 2) = false := by simp [h1]
    clear h1
    go_enter Tryd.func30, Tryd.ntmps30
    go_wp2
    go_ret
    exact ⟨rfl, HB.out⟩

set_option maxRecDepth 100000 in
set_option maxHeartbeats 1000000 in
theorem wayOk_any (x : Ltr) (w : World) : Calls Tryd.prog 27 #[.agg #[.int .i64 x.k, .int .i64 x.f, .int .i64 x.t, .int .i64 x.e, .int .i64 x.y, .string x.r]] w fun e w' => e = .returned (.bool (VV.way x.k x.f x.t)) ∧ Below w.heap.size w w' := by
  obtain ⟨k, f, t, e, y, r⟩ := x
  have HB : Hid (Below w.heap.size w (w.alloc (.cells #[.int .i64 k, .int .i64 f, .int .i64 t, .int .i64 e, .int .i64 y, .string r] 25))) := (Below.refl _ _).alloc (Nat.le_refl _) _
  have H1 : Hid (∀ W, Calls Tryd.prog 47 #[.int .i64 t] W fun e w' => e = .returned (.bool (decide (1 ≤ t ∧ t ≤ 4))) ∧ w' = W) := fun W => isShardNode_any t W
  have H2 : Hid (∀ W, Calls Tryd.prog 47 #[.int .i64 f] W fun e w' => e = .returned (.bool (decide (1 ≤ f ∧ f ≤ 4))) ∧ w' = W) := fun W => isShardNode_any f W
  have hd : ((k = 1 ∨ k = 3 ∨ k = 4) ∨ (k = 2 ∨ k = 5)) ∨ ¬ (k = 1 ∨ k = 3 ∨ k = 4 ∨ k = 2 ∨ k = 5) := by omega
  rcases hd with (hd | hd) | hd
  · by_cases hf : f = 0
    · have hw : VV.way k f t = decide (1 ≤ t ∧ t ≤ 4) := by
        unfold VV.way
        by_cases h : 1 ≤ t ∧ t ≤ 4
        · rw [decide_eq_true h, decide_eq_true (.inl ⟨hd, hf, h⟩)]
        · rw [decide_eq_false h, decide_eq_false (by omega)]
      rw [hw]
      clear hw H2
      subst hf
      generalize decide (1 ≤ t ∧ t ≤ 4) = b at *
      rcases hd with rfl | rfl | rfl
      all_goals
        go_enter Tryd.func27, Tryd.ntmps27
        go_wp2_with fail
        refine (H1.out _).mono ?_
        rintro e1 w1 ⟨rfl, rfl⟩
        go_wp2
        go_ret
        exact ⟨rfl, HB.out⟩
    · have hw : VV.way k f t = false := by
        unfold VV.way
        exact decide_eq_false (by omega)
      rw [hw]
      have q : (f == 0) = false := by simp [hf]
      clear hw H1 H2 hf
      rcases hd with rfl | rfl | rfl
      all_goals
        go_enter Tryd.func27, Tryd.ntmps27
        go_wp2
        go_ret
        exact ⟨rfl, HB.out⟩
  · have hw : VV.way k f t = (decide (1 ≤ f ∧ f ≤ 4) && decide (t = 0)) := by
      unfold VV.way
      rw [← Bool.decide_and]
      congr 1
      apply propext
      omega
    rw [hw]
    clear hw H1
    have q : (t == 0) = decide (t = 0) := rfl
    generalize decide (1 ≤ f ∧ f ≤ 4) = b at *
    generalize decide (t = 0) = c at *
    cases b
    all_goals
      rcases hd with rfl | rfl
      all_goals
        go_enter Tryd.func27, Tryd.ntmps27
        go_wp2_with fail
        refine (H2.out _).mono ?_
        rintro e1 w1 ⟨rfl, rfl⟩
        go_wp2
        go_ret
        exact ⟨by simp, HB.out⟩
  · have hw : VV.way k f t = false := by
      unfold VV.way
      exact decide_eq_false (by omega)
    rw [hw]
    have q1 : (k == 1) = false := by simp; omega
    have q2 : (k == 2) = false := by simp; omega
    have q3 : (k == 3) = false := by simp; omega
    have q4 : (k == 4) = false := by simp; omega
    have q5 : (k == 5) = false := by simp; omega
    clear hw H1 H2 hd
    go_enter Tryd.func27, Tryd.ntmps27
    go_wp2
    go_ret
    exact ⟨rfl, HB.out⟩

set_option maxRecDepth 100000 in
set_option maxHeartbeats 1000000 in
theorem LetterOk_any (x : Ltr) (w : World) (hr : x.r.size ≤ 1048576) : Calls Tryd.prog 11 #[.agg #[.int .i64 x.k, .int .i64 x.f, .int .i64 x.t, .int .i64 x.e, .int .i64 x.y, .string x.r]] w fun e w' => e = .returned (.bool (VV.ok x)) ∧ Below w.heap.size w w' := by
  have HWY : Hid (∀ W, Calls Tryd.prog 27 #[.agg #[.int .i64 x.k, .int .i64 x.f, .int .i64 x.t, .int .i64 x.e, .int .i64 x.y, .string x.r]] W fun e w' => e = .returned (.bool (VV.way x.k x.f x.t)) ∧ Below W.heap.size W w') := fun W => wayOk_any x W
  have HRW : Hid (∀ W, Calls Tryd.prog 30 #[.agg #[.int .i64 x.k, .int .i64 x.f, .int .i64 x.t, .int .i64 x.e, .int .i64 x.y, .string x.r]] W fun e w' => e = .returned (.int .i64 ((VV.rw x.k : Nat) : Int)) ∧ Below W.heap.size W w') := fun W => rootWide_any x W
  have H1 : Hid (∀ W, Calls Tryd.prog 28 #[.int .i64 x.e] W fun e w' => e = .returned (.bool (decide (1 ≤ x.e ∧ x.e ≤ 4))) ∧ Below W.heap.size W w') := fun W => (epochOkV_any x.e W).mono fun e w' ⟨he, hw⟩ => ⟨he, hw ▸ Below.refl _ _⟩
  have H2 : Hid (∀ W, Calls Tryd.prog 29 #[.int .i64 x.y] W fun e w' => e = .returned (.bool (decide (1 ≤ x.y ∧ x.y ≤ 1000))) ∧ Below W.heap.size W w') := fun W => (tryOk_any x.y W).mono fun e w' ⟨he, hw⟩ => ⟨he, hw ▸ Below.refl _ _⟩
  unfold VV.ok
  obtain ⟨b4, hb4⟩ : ∃ b, decide (x.r.size = VV.rw x.k) = b := ⟨_, rfl⟩
  have q4 : ((x.r.size : Int) == ((VV.rw x.k : Nat) : Int)) = b4 := by
    rw [← hb4]
    by_cases h : x.r.size = VV.rw x.k
    · rw [h]; simp
    · rw [decide_eq_false h]; simp; omega
  rw [hb4]
  clear hb4
  generalize VV.rw x.k = n at *
  generalize VV.way x.k x.f x.t = b1 at *
  generalize decide (1 ≤ x.e ∧ x.e ≤ 4) = b2 at *
  generalize decide (1 ≤ x.y ∧ x.y ≤ 1000) = b3 at *
  obtain ⟨k, f, t, e, y, r⟩ := x
  simp only at *
  have HR : Hid (RKc (w.alloc (.cells #[.int .i64 k, .int .i64 f, .int .i64 t, .int .i64 e, .int .i64 y, .string r] 25)) w.heap.size ⟨k, f, t, e, y, r⟩ ∧ Below w.heap.size w (w.alloc (.cells #[.int .i64 k, .int .i64 f, .int .i64 t, .int .i64 e, .int .i64 y, .string r] 25))) := ⟨⟨range_new w (kcs ⟨k, f, t, e, y, r⟩) _, by simp⟩, (Below.refl _ _).alloc (Nat.le_refl _) _⟩
  have hbb : b1 = false ∨ (b1 = true ∧ b2 = false) ∨ (b1 = true ∧ b2 = true ∧ b3 = false) ∨ (b1 = true ∧ b2 = true ∧ b3 = true ∧ b4 = false) ∨ (b1 = true ∧ b2 = true ∧ b3 = true ∧ b4 = true) := by cases b1 <;> cases b2 <;> cases b3 <;> cases b4 <;> simp
  rcases hbb with rfl | ⟨rfl, rfl⟩ | ⟨rfl, rfl, rfl⟩ | ⟨rfl, rfl, rfl, rfl⟩ | ⟨rfl, rfl, rfl, rfl⟩
  all_goals
    go_enter Tryd.func11, Tryd.ntmps11
    go_wp2_with fail
    generalize (w.alloc (.cells #[.int .i64 k, .int .i64 f, .int .i64 t, .int .i64 e, .int .i64 y, .string r] 25)) = W0 at *
    have kq0 := cell_regrown (w := W0) HR.out.1.c0
    have kq1 := cell_regrown (w := W0) HR.out.1.c1
    have kq2 := cell_regrown (w := W0) HR.out.1.c2
    have kq3 := cell_regrown (w := W0) HR.out.1.c3
    have kq4 := cell_regrown (w := W0) HR.out.1.c4
    have kq5 := cell_regrown (w := W0) HR.out.1.c5
    simp only at kq0 kq1 kq2 kq3 kq4 kq5
    have cq0 := fun d os => Calls.regrown_of (w := W0) (d := d) (os := os) (HWY.out _)
    have cq1 := fun d os => Calls.regrown_of (w := W0) (d := d) (os := os) (H1.out _)
    have cq2 := fun d os => Calls.regrown_of (w := W0) (d := d) (os := os) (H2.out _)
    have cq3 := fun d os => Calls.regrown_of (w := W0) (d := d) (os := os) (HRW.out _)
    refine wp_region_quiet_below (by kernel_rfl) (by kernel_rfl) ?_
    repeat (go_big_quiet_step (first | (with_reducible exact cq0 _ _) | (with_reducible exact cq1 _ _) | (with_reducible exact cq2 _ _) | (with_reducible exact cq3 _ _)))
    refine wpQuiet_nil ?_
    rintro _ ⟨⟨dq, osq⟩, rfl⟩
    have hb6 := HR.out.2.trans ((below_regrown W0 dq osq).mono HR.out.2.size)
    generalize grow (redrawn W0 dq) osq = w6 at *
    clear kq0 kq1 kq2 kq3 kq4 kq5 cq0 cq1 cq2 cq3 HR
    go_wp2
    go_ret
    exact ⟨rfl, hb6⟩

set_option maxRecDepth 100000 in
set_option maxHeartbeats 1000000 in
theorem sLetterOk_any (x : Ltr) (w : World) (hr : x.r.size ≤ 1048576) : Calls Tryd.prog 10 #[.agg #[.int .i64 x.k, .int .i64 x.f, .int .i64 x.t, .int .i64 x.e, .int .i64 x.y, .string x.r]] w fun e w' => e = .returned (.bool (VV.ok x)) ∧ Below w.heap.size w w' := by
  obtain ⟨k, f, t, e, y, r⟩ := x
  simp only at hr ⊢
  have HIN : Hid (∀ (a lo hi : Int) W, Calls Tryd.prog 26 #[.int .i64 a, .int .i64 lo, .int .i64 hi] W fun e w' => e = .returned (.bool (decide (lo ≤ a ∧ a ≤ hi))) ∧ w' = W) := fun a lo hi W => l01In_any a lo hi W
  have HB : Hid (Below w.heap.size w (w.alloc (.cells #[.int .i64 k, .int .i64 f, .int .i64 t, .int .i64 e, .int .i64 y, .string r] 25))) := (Below.refl _ _).alloc (Nat.le_refl _) _
  have Hk := hide (fun W => HIN.out k 1 5 W)
  have He := hide (fun W => HIN.out e 1 4 W)
  have Hy := hide (fun W => HIN.out y 1 1000 W)
  have Hf := hide (fun W => HIN.out f 1 4 W)
  have Ht := hide (fun W => HIN.out t 1 4 W)
  clear HIN
  by_cases hk : 1 ≤ k ∧ k ≤ 5
  case neg =>
    have hw : VV.ok ⟨k, f, t, e, y, r⟩ = false := by
      have : VV.way k f t = false := by unfold VV.way; exact decide_eq_false (by omega)
      unfold VV.ok; simp only; rw [this]; rfl
    rw [hw]
    rw [decide_eq_false hk] at Hk
    clear hw hk
    go_enter Tryd.func10, Tryd.ntmps10
    go_wp2_with fail
    refine (Hk.out _).mono ?_
    rintro e1 w1 ⟨rfl, rfl⟩
    go_wp2
    go_ret
    exact ⟨rfl, HB.out⟩
  rw [decide_eq_true hk] at Hk
  by_cases he : 1 ≤ e ∧ e ≤ 4
  case neg =>
    have hw : VV.ok ⟨k, f, t, e, y, r⟩ = false := by unfold VV.ok; simp only; rw [decide_eq_false he]; simp
    rw [hw]
    rw [decide_eq_false he] at He
    clear hw he hk
    go_enter Tryd.func10, Tryd.ntmps10
    go_wp2_with fail
    refine (Hk.out _).mono ?_
    rintro e1 w1 ⟨rfl, rfl⟩
    go_wp2_with fail
    refine (He.out _).mono ?_
    rintro e1 w1 ⟨rfl, rfl⟩
    go_wp2
    go_ret
    exact ⟨rfl, HB.out⟩
  rw [decide_eq_true he] at He
  by_cases hy : 1 ≤ y ∧ y ≤ 1000
  case neg =>
    have hw : VV.ok ⟨k, f, t, e, y, r⟩ = false := by unfold VV.ok; simp only; rw [decide_eq_false hy]; simp
    rw [hw]
    rw [decide_eq_false hy] at Hy
    clear hw he hk hy
    go_enter Tryd.func10, Tryd.ntmps10
    go_wp2_with fail
    refine (Hk.out _).mono ?_
    rintro e1 w1 ⟨rfl, rfl⟩
    go_wp2_with fail
    refine (He.out _).mono ?_
    rintro e1 w1 ⟨rfl, rfl⟩
    go_wp2_with fail
    refine (Hy.out _).mono ?_
    rintro e1 w1 ⟨rfl, rfl⟩
    go_wp2
    go_ret
    exact ⟨rfl, HB.out⟩
  rw [decide_eq_true hy] at Hy
  have hw : VV.ok ⟨k, f, t, e, y, r⟩ = (VV.way k f t && decide (r.size = VV.rw k)) := by unfold VV.ok; simp only; rw [decide_eq_true hy, decide_eq_true he]; simp
  rw [hw]
  clear hw he hy
  have hz : (r.toList.isEmpty) = decide (r.size = 0) := by
    by_cases h : r.size = 0
    · rw [decide_eq_true h]; exact VV.empty r h
    · rw [decide_eq_false h]; exact VV.full r h
  have hs : ((r.size : Int) == 16) = decide (r.size = 16) := by
    by_cases h : r.size = 16
    · rw [h]; rfl
    · rw [decide_eq_false h]; simp; omega
  have hd : (k = 1 ∨ k = 3 ∨ k = 4) ∨ (k = 2 ∨ k = 5) := by omega
  rcases hd with hd | hd
  · have hrw : VV.rw k = 0 := by unfold VV.rw; rw [if_neg (by omega)]
    rw [hrw, ← hz]
    obtain ⟨bz, hbz⟩ : ∃ b, r.toList.isEmpty = b := ⟨_, rfl⟩
    rw [hbz]
    clear Hf hs hrw hz
    by_cases hf : f = 0
    · have hw : VV.way k f t = decide (1 ≤ t ∧ t ≤ 4) := by
        unfold VV.way
        by_cases h : 1 ≤ t ∧ t ≤ 4
        · rw [decide_eq_true h, decide_eq_true (.inl ⟨hd, hf, h⟩)]
        · rw [decide_eq_false h, decide_eq_false (by omega)]
      rw [hw]
      clear hw hk
      have qf : (f != 0) = false := by simp [hf]
      clear hf
      generalize decide (1 ≤ t ∧ t ≤ 4) = b at *
      rcases hd with rfl | rfl | rfl <;> cases b
      all_goals
        go_enter Tryd.func10, Tryd.ntmps10
        go_wp2_with fail
        refine (Hk.out _).mono ?_
        rintro e1 w1 ⟨rfl, rfl⟩
        go_wp2_with fail
        refine (He.out _).mono ?_
        rintro e1 w1 ⟨rfl, rfl⟩
        go_wp2_with fail
        refine (Hy.out _).mono ?_
        rintro e1 w1 ⟨rfl, rfl⟩
        go_wp2_with fail
        refine (Ht.out _).mono ?_
        rintro e1 w1 ⟨rfl, rfl⟩
        go_wp2
        go_ret
        exact ⟨by simp, HB.out⟩
    · have hw : VV.way k f t = false := by
        unfold VV.way
        exact decide_eq_false (by omega)
      rw [hw]
      have qf : (f != 0) = true := by simp [hf]
      clear hw hk hf Ht
      rcases hd with rfl | rfl | rfl
      all_goals
        go_enter Tryd.func10, Tryd.ntmps10
        go_wp2_with fail
        refine (Hk.out _).mono ?_
        rintro e1 w1 ⟨rfl, rfl⟩
        go_wp2_with fail
        refine (He.out _).mono ?_
        rintro e1 w1 ⟨rfl, rfl⟩
        go_wp2_with fail
        refine (Hy.out _).mono ?_
        rintro e1 w1 ⟨rfl, rfl⟩
        go_wp2
        go_ret
        exact ⟨by simp, HB.out⟩
  · clear Ht
    by_cases ht : t = 0
    · have hw : VV.way k f t = decide (1 ≤ f ∧ f ≤ 4) := by
        unfold VV.way
        by_cases h : 1 ≤ f ∧ f ≤ 4
        · rw [decide_eq_true h, decide_eq_true (.inr ⟨hd, ht, h⟩)]
        · rw [decide_eq_false h, decide_eq_false (by omega)]
      rw [hw]
      clear hw hk
      have qt : (t != 0) = false := by simp [ht]
      clear ht
      generalize decide (1 ≤ f ∧ f ≤ 4) = b at *
      rcases hd with rfl | rfl
      · rw [show VV.rw 2 = 16 from rfl, ← hs]
        obtain ⟨bs, hbs⟩ : ∃ b, ((r.size : Int) == 16) = b := ⟨_, rfl⟩
        rw [hbs]
        clear hs hz
        cases b
        all_goals
          go_enter Tryd.func10, Tryd.ntmps10
          go_wp2_with fail
          refine (Hk.out _).mono ?_
          rintro e1 w1 ⟨rfl, rfl⟩
          go_wp2_with fail
          refine (He.out _).mono ?_
          rintro e1 w1 ⟨rfl, rfl⟩
          go_wp2_with fail
          refine (Hy.out _).mono ?_
          rintro e1 w1 ⟨rfl, rfl⟩
          go_wp2_with fail
          refine (Hf.out _).mono ?_
          rintro e1 w1 ⟨rfl, rfl⟩
          go_wp2
          go_ret
          exact ⟨by simp, HB.out⟩
      · rw [show VV.rw 5 = 0 from rfl, ← hz]
        obtain ⟨bz, hbz⟩ : ∃ b, r.toList.isEmpty = b := ⟨_, rfl⟩
        rw [hbz]
        clear hs hz
        cases b
        all_goals
          go_enter Tryd.func10, Tryd.ntmps10
          go_wp2_with fail
          refine (Hk.out _).mono ?_
          rintro e1 w1 ⟨rfl, rfl⟩
          go_wp2_with fail
          refine (He.out _).mono ?_
          rintro e1 w1 ⟨rfl, rfl⟩
          go_wp2_with fail
          refine (Hy.out _).mono ?_
          rintro e1 w1 ⟨rfl, rfl⟩
          go_wp2_with fail
          refine (Hf.out _).mono ?_
          rintro e1 w1 ⟨rfl, rfl⟩
          go_wp2
          go_ret
          exact ⟨by simp, HB.out⟩
    · have hw : VV.way k f t = false := by
        unfold VV.way
        exact decide_eq_false (by omega)
      rw [hw]
      have qt : (t != 0) = true := by simp [ht]
      clear hw hk ht Hf hs hz
      rcases hd with rfl | rfl
      all_goals
        go_enter Tryd.func10, Tryd.ntmps10
        go_wp2_with fail
        refine (Hk.out _).mono ?_
        rintro e1 w1 ⟨rfl, rfl⟩
        go_wp2_with fail
        refine (He.out _).mono ?_
        rintro e1 w1 ⟨rfl, rfl⟩
        go_wp2_with fail
        refine (Hy.out _).mono ?_
        rintro e1 w1 ⟨rfl, rfl⟩
        go_wp2
        go_ret
        exact ⟨by simp, HB.out⟩

end Go.Proofs.YtodibhiinfbhiaaDoor
