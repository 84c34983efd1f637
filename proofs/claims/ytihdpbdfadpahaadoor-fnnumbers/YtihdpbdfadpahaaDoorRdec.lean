/-
  What ReadDecimal answers, the program's and the specification's: readDec of the text.
-/
import Derived.Test.YtihdpbdfadpahaaDoorDecw
import Derived.Test.YtihdpbdfadpahaaDoorUnhexi
namespace Go.Proofs.YtihdpbdfadpahaaDoor
open Go.RowKit
set_option linter.unusedVariables false

def rdOut : Option Nat → Array Value
  | none => #[.int .i64 0, .bool false]
  | some n => #[.int .i64 n, .bool true]

theorem rd_none {o : Option Nat} (h : o = none) : Ending.returned (.tuple #[.int .i64 0, .bool false]) = .returned (.tuple (rdOut o)) := by rw [h]; rfl
theorem rd_some {o : Option Nat} {a : Int} {n : Nat} (h : o = some n) (ha : a = n) : Ending.returned (.tuple #[.int .i64 a, .bool true]) = .returned (.tuple (rdOut o)) := by rw [h, ha]; rfl

theorem list_len (s : ByteArray) : s.data.toList.length = s.size := Array.length_toList

theorem readDec_long (s : ByteArray) (h : 10 < s.size) : readDec s.data.toList = none := by
  unfold readDec
  cases vals 10 s.data.toList with
  | none => rfl
  | some vs => simp only; rw [if_pos (.inr (.inl (by rw [list_len]; exact h)))]

def sRdRel (s : ByteArray) (n i : Value) : Prop :=
  ∃ (k : Nat) (vs : List Nat), k ≤ s.size ∧ i = .int .i64 k ∧ n = .int .i64 (num vs : Nat) ∧ Hid (vs.length = k ∧ ∀ v ∈ vs, v < 10) ∧ Hid (vals 10 s.data.toList = (vals 10 (s.data.toList.drop k)).map (vs ++ ·))

theorem sRd_bound {vs : List Nat} {k : Nat} (h : vs.length = k ∧ ∀ v ∈ vs, v < 10) (hk : k ≤ 10) : num vs ≤ 10000000000 := by
  have h1 := num_lt vs h.2
  have h2 : (10 : Nat) ^ vs.length ≤ 10 ^ 10 := Nat.pow_le_pow_right (by omega) (by omega)
  omega

theorem figuresOf10 (s : ByteArray) (w : World) (hs : s.size ≤ 1048576) : Calls Tryd.prog 17 #[.string s, .int .i64 10] w (FigPost w s 10) :=
  figuresOf_any s 10 w hs (by omega)

def RdRel (vs : List Nat) (n i : Value) : Prop :=
  ∃ k : Nat, k ≤ vs.length ∧ i = .int .i64 k ∧ n = .int .i64 (num (vs.take k) : Nat)

theorem num_take (vs : List Nat) (k : Nat) (h : k < vs.length) : num (vs.take (k + 1)) = 10 * num (vs.take k) + vs[k] := by
  rw [List.take_succ_eq_append_getElem h, num_snoc]

theorem num_takeb (vs : List Nat) (k : Nat) (h : ∀ v ∈ vs, v < 10) (hl : vs.length ≤ 10) : num (vs.take k) ≤ 10000000000 := by
  have h1 := num_lt (vs.take k) (fun v hv => h v (List.mem_of_mem_take hv))
  have h2 : (10 : Nat) ^ (vs.take k).length ≤ 10 ^ 10 := Nat.pow_le_pow_right (by omega) (by simp; omega)
  omega

theorem head_l (s : ByteArray) (h : 0 < s.size) : s.data.toList.head? = some s[0] := by
  rw [List.head?_eq_getElem?]
  exact get_f s 0 h

set_option maxRecDepth 100000 in
set_option maxHeartbeats 2000000 in
theorem ReadDecimal_any (s : ByteArray) (w : World) (hm : s.size ≤ 1048576) :
    Calls Tryd.prog 8 #[.string s] w fun e w' => e = .returned (.tuple (rdOut (readDec s.data.toList))) ∧ Below w.heap.size w w' := by
  by_cases h0 : s.size = 0
  · have hs : s = ⟨#[]⟩ := by
      apply ByteArray.ext
      exact Array.eq_empty_of_size_eq_zero h0
    subst hs
    go_enter Tryd.func8, Tryd.ntmps8
    go_wp2
    go_ret2
    exact ⟨rfl, Below.refl _ _⟩
  · have hemp : (s.toList == []) = false := by
      rw [ByteArray.toList_eq]
      cases hl : s.data.toList with
      | nil => exfalso; apply h0; rw [← list_len, hl]; rfl
      | cons a r => rfl
    by_cases h10 : 10 < s.size
    · have HR : Hid (readDec s.data.toList = none) := readDec_long s h10
      have h10' : (10 : Int) < (s.size : Int) := by omega
      go_enter Tryd.func8, Tryd.ntmps8
      go_wp2
      go_ret2
      exact ⟨rd_none HR.out, Below.refl _ _⟩
    · have h10' : ¬ ((10 : Int) < (s.size : Int)) := by omega
      have hp : 0 < s.size := by omega
      by_cases hz : 1 < s.size ∧ s[0].toNat = 48
      · have HR : Hid (readDec s.data.toList = none) := by
          unfold Hid readDec
          cases vals 10 s.data.toList with
          | none => rfl
          | some vs =>
            simp only
            rw [if_pos (.inr (.inr (.inl ⟨by rw [list_len]; exact hz.1, by rw [head_l s hp]; exact congrArg some (UInt8.toNat_inj.1 hz.2)⟩)))]
        obtain ⟨hz1, hz2⟩ := hz
        have hz3 : (1 : Int) < (s.size : Int) := by omega
        have hz4 : ((s[0].toNat : Int) == 48) = true := by simp; omega
        clear hz2
        go_enter Tryd.func8, Tryd.ntmps8
        go_wp2
        go_ret2
        exact ⟨rd_none HR.out, Below.refl _ _⟩
      · have HR : Hid (∀ vs, vals 10 s.data.toList = some vs → readDec s.data.toList = if 1000000000 < num vs then none else some (num vs)) := by
          intro vs hv
          unfold readDec
          rw [hv]
          simp only
          by_cases hx : 1000000000 < num vs
          · rw [if_pos (.inr (.inr (.inr hx))), if_pos hx]
          · rw [if_neg, if_neg hx]
            intro hc
            rcases hc with hc | hc | hc | hc
            · apply h0; rw [← list_len, hc]; rfl
            · rw [list_len] at hc; omega
            · apply hz
              rw [list_len, head_l s hp] at hc
              refine ⟨hc.1, ?_⟩
              have h1 := Option.some.inj hc.2
              rw [h1]
              rfl
            · exact hx hc
        have HN : Hid (vals 10 s.data.toList = none → readDec s.data.toList = none) := by
          intro hv
          unfold readDec
          rw [hv]
        by_cases h1 : 1 < s.size
        · have hz4 : ((s[0].toNat : Int) == 48) = false := by
            rw [beq_eq_false_iff_ne]
            intro h
            exact hz ⟨h1, by omega⟩
          have h1' : (1 : Int) < (s.size : Int) := by omega
          clear hz
          go_enter Tryd.func8, Tryd.ntmps8
          go_wp2_with fail
          refine (figuresOf10 s _ hm).mono ?_
          rintro e w1 (⟨hv, rfl, hb1⟩ | ⟨vs, v, hv, rfl, hown⟩)
          · have HV := HN.out hv
            have HV2 : Hid (readDec s.data.toList = none) := HV
            clear hv HV
            go_wp2
            go_ret2
            exact ⟨rd_none HV2.out, hb1⟩
          · obtain ⟨hvl, hvb⟩ := vals_len 10 _ vs hv
            rw [list_len] at hvl
            have hres := HR.out vs hv
            have HV : Hid (readDec s.data.toList = if 1000000000 < num vs then none else some (num vs)) := hres
            have hvl1 : vs.length ≤ 10 := by omega
            have hvp : 0 < vs.length := by omega
            have HB : Hid (∀ v ∈ vs, v < 10) := hvb
            clear hv hres hvl hvb
            rcases hown.1.2 with ⟨rfl, hn⟩ | ⟨g, cap, cur, rfl, hbg, hgg, hrest⟩
            · omega
            · clear hrest hgg
              go_wp2
              go_loop [6, 35] (fun n i => RdRel vs n i) (fun _ i => vs.length - (intOf i).toNat)
              case atStart => exact ⟨0, by omega, rfl, rfl⟩
              case round =>
                obtain ⟨k, hk, rfl, rfl⟩ := hrel
                have hnb := num_takeb vs k HB.out hvl1
                by_cases hlt : k < vs.length
                · have hc := hown.at k hlt
                  have hv10 : vs[k] < 10 := HB.out _ (List.getElem_mem _)
                  have HT : Hid (num (vs.take (k + 1)) = 10 * num (vs.take k) + vs[k]) := num_take vs k hlt
                  go_wp2
                  go_round
                  case rel =>
                    refine ⟨k + 1, by omega, by go_num, ?_⟩
                    rw [HT.out]
                    congr 1
                  case measure => simp [intOf]; omega
                · have hke : k = vs.length := by omega
                  subst hke
                  rw [List.take_length] at hnb ⊢
                  by_cases hx : 1000000000 < num vs
                  · have hx1 : (1000000000 : Int) < (num vs : Int) := by omega
                    go_wp2
                    go_ret2
                    exact ⟨rd_none (by rw [HV.out, if_pos hx]), hown.2.1⟩
                  · have hx1 : ¬ ((1000000000 : Int) < (num vs : Int)) := by omega
                    go_wp2
                    go_ret2
                    exact ⟨rd_some (by rw [HV.out, if_neg hx]) rfl, hown.2.1⟩
        · have h1' : ¬ ((1 : Int) < (s.size : Int)) := by omega
          clear hz
          go_enter Tryd.func8, Tryd.ntmps8
          go_wp2_with fail
          refine (figuresOf10 s _ hm).mono ?_
          rintro e w1 (⟨hv, rfl, hb1⟩ | ⟨vs, v, hv, rfl, hown⟩)
          · have HV := HN.out hv
            have HV2 : Hid (readDec s.data.toList = none) := HV
            clear hv HV
            go_wp2
            go_ret2
            exact ⟨rd_none HV2.out, hb1⟩
          · obtain ⟨hvl, hvb⟩ := vals_len 10 _ vs hv
            rw [list_len] at hvl
            have hres := HR.out vs hv
            have HV : Hid (readDec s.data.toList = if 1000000000 < num vs then none else some (num vs)) := hres
            have hvl1 : vs.length ≤ 10 := by omega
            have hvp : 0 < vs.length := by omega
            have HB : Hid (∀ v ∈ vs, v < 10) := hvb
            clear hv hres hvl hvb
            rcases hown.1.2 with ⟨rfl, hn⟩ | ⟨g, cap, cur, rfl, hbg, hgg, hrest⟩
            · omega
            · clear hrest hgg
              go_wp2
              go_loop [6, 35] (fun n i => RdRel vs n i) (fun _ i => vs.length - (intOf i).toNat)
              case atStart => exact ⟨0, by omega, rfl, rfl⟩
              case round =>
                obtain ⟨k, hk, rfl, rfl⟩ := hrel
                have hnb := num_takeb vs k HB.out hvl1
                by_cases hlt : k < vs.length
                · have hc := hown.at k hlt
                  have hv10 : vs[k] < 10 := HB.out _ (List.getElem_mem _)
                  have HT : Hid (num (vs.take (k + 1)) = 10 * num (vs.take k) + vs[k]) := num_take vs k hlt
                  go_wp2
                  go_round
                  case rel =>
                    refine ⟨k + 1, by omega, by go_num, ?_⟩
                    rw [HT.out]
                    congr 1
                  case measure => simp [intOf]; omega
                · have hke : k = vs.length := by omega
                  subst hke
                  rw [List.take_length] at hnb ⊢
                  by_cases hx : 1000000000 < num vs
                  · have hx1 : (1000000000 : Int) < (num vs : Int) := by omega
                    go_wp2
                    go_ret2
                    exact ⟨rd_none (by rw [HV.out, if_pos hx]), hown.2.1⟩
                  · have hx1 : ¬ ((1000000000 : Int) < (num vs : Int)) := by omega
                    go_wp2
                    go_ret2
                    exact ⟨rd_some (by rw [HV.out, if_neg hx]) rfl, hown.2.1⟩


theorem ReadDecimal_none (s : ByteArray) (w : World) (hs : s.size ≤ 1048576) (hv : readDec s.data.toList = none) :
    Calls Tryd.prog 8 #[.string s] w fun e w' => e = .returned (.tuple #[.int .i64 0, .bool false]) ∧ Below w.heap.size w w' := by
  have h := ReadDecimal_any s w hs
  rw [hv] at h
  exact h

theorem ReadDecimal_some (s : ByteArray) (n : Nat) (w : World) (hs : s.size ≤ 1048576) (hv : readDec s.data.toList = some n) :
    Calls Tryd.prog 8 #[.string s] w fun e w' => e = .returned (.tuple #[.int .i64 n, .bool true]) ∧ Below w.heap.size w w' := by
  have h := ReadDecimal_any s w hs
  rw [hv] at h
  exact h

end Go.Proofs.YtihdpbdfadpahaaDoor
