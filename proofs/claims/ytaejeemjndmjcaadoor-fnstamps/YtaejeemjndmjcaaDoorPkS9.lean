/-
  Texts laid together: Hexw, Hexs, Wid, Cut.
-/
import Derived.Test.YtaejeemjndmjcaaDoorPkS1
import Derived.Test.YtaejeemjndmjcaaDoorPkS0
import Derived.Test.YtaejeemjndmjcaaDoorPkS8
/-
  The walks of Hex, the program's and the specification's.
-/
namespace Go.Proofs.YtaejeemjndmjcaaDoor
open Go.RowKit
set_option linter.unusedVariables false

def hexK (s : ByteArray) (k : Nat) : List UInt8 := hexL (s.data.toList.take k)
theorem hexK_len (s : ByteArray) (k : Nat) (h : k ≤ s.size) : (hexK s k).length = 2 * k := by
  have h1 : s.data.toList.length = s.size := Array.length_toList
  have h2 : ∀ l : List UInt8, (hexL l).length = 2 * l.length := by
    intro l
    induction l with
    | nil => rfl
    | cons b l ih => rw [show hexL (b :: l) = [fig (b.toNat / 16), fig (b.toNat % 16)] ++ hexL l from rfl, List.length_append, ih]; simp; omega
  unfold hexK
  rw [h2, List.length_take]
  omega
theorem hexK_succ (s : ByteArray) (k : Nat) (h : k < s.size) : hexK s k ++ [fig (s[k].toNat / 16), fig (s[k].toNat % 16)] = hexK s (k + 1) := by
  have hg : s.data.toList[k]? = some s[k] := by simp [ByteArray.getElem_eq_getElem_data]
  unfold hexK
  rw [List.take_add_one, hg]
  simp [hexL]

theorem run_figw (y : Int) (x : Nat) (h : y = (x : Int)) (h1 : x < 16) (w : World) : (Instr.index 9 (.string ⟨#[48, 49, 50, 51, 52, 53, 54, 55, 56, 57, 97, 98, 99, 100, 101, 102]⟩) (.int .u8 (IntKind.u8.wrap y))).run Tryd.prog w = .ok (.int .u8 ((fig x).toNat : Int)) w := by
  subst h
  rw [IntWalk.u8_in _ (by omega), run_fig _ (by omega) (by omega)]
  simp

theorem run_fign (y : Int) (x : Nat) (h : y = (x : Int)) (h1 : x < 16) (w : World) : (Instr.index 9 (.string ⟨#[48, 49, 50, 51, 52, 53, 54, 55, 56, 57, 97, 98, 99, 100, 101, 102]⟩) (.int .u8 y)).run Tryd.prog w = .ok (.int .u8 ((fig x).toNat : Int)) w := by
  subst h
  rw [run_fig _ (by omega) (by omega)]
  simp

def HexRel (s : ByteArray) (w : World) (v i : Value) (wr : World) : Prop :=
  ∃ k : Nat, k ≤ s.size ∧ i = .int .i64 k ∧ OB w.heap.size w wr v (hexK s k)

end Go.Proofs.YtaejeemjndmjcaaDoor
/-
  The walk of the specification's Hex.
-/
namespace Go.Proofs.YtaejeemjndmjcaaDoor
open Go.RowKit
set_option linter.unusedVariables false

theorem q1 (b : Nat) (h : b < 256) : IntKind.i64.wrap ((IntKind.i64.wrap (b : Int)).tdiv 16) = ((b / 16 : Nat) : Int) := by
  rw [IntWalk.i64_in (b : Int) (by omega)]
  have e : (b : Int).tdiv 16 = ((b / 16 : Nat) : Int) := (Int.ofNat_tdiv b 16).symm
  rw [e, IntWalk.i64_in _ (by omega)]
theorem q2 (b : Nat) (h : b < 256) : (IntKind.i64.wrap (b : Int)).tmod 16 = ((b % 16 : Nat) : Int) := by
  rw [IntWalk.i64_in (b : Int) (by omega)]
  exact (Int.ofNat_tmod b 16).symm

theorem q1b (b : Nat) (h : b < 256) : 0 ≤ IntKind.i64.wrap ((IntKind.i64.wrap (b : Int)).tdiv 16) ∧ IntKind.i64.wrap ((IntKind.i64.wrap (b : Int)).tdiv 16) < 16 := by
  rw [q1 b h]
  omega
theorem q2b (b : Nat) (h : b < 256) : 0 ≤ (IntKind.i64.wrap (b : Int)).tmod 16 ∧ (IntKind.i64.wrap (b : Int)).tmod 16 < 16 := by
  rw [q2 b h]
  omega
end Go.Proofs.YtaejeemjndmjcaaDoor
/-
  Is a width right? The program's answer.
-/
namespace Go.Proofs.YtaejeemjndmjcaaDoor
open Go.RowKit Go.BigFrame
set_option linter.unusedVariables false

theorem widthOk_any (x : Int) (w : World) : Calls Tryd.prog 108 #[.int .i64 x] w fun e w' => e = .returned (.bool (decide (1 ≤ x ∧ x ≤ 32))) ∧ w' = w := by
  by_cases h1 : 1 ≤ x
  · by_cases h2 : x ≤ 32
    · go_enter Tryd.func108, Tryd.ntmps108
      go_wp2
      go_ret
      exact ⟨by simp [h1, h2], rfl⟩
    · go_enter Tryd.func108, Tryd.ntmps108
      go_wp2
      go_ret
      exact ⟨by simp [h2], rfl⟩
  · go_enter Tryd.func108, Tryd.ntmps108
    go_wp2
    go_ret
    exact ⟨by simp; omega, rfl⟩

end Go.Proofs.YtaejeemjndmjcaaDoor
/-
  What CutDigest and DigestHex answer, the program's and the specification's.
-/
namespace Go.Proofs.YtaejeemjndmjcaaDoor
open Go.RowKit Go.BigFrame
set_option linter.unusedVariables false

def cutB (d : ByteArray) (k : Nat) : ByteArray := d.extract 0 k
theorem run_head (d : ByteArray) (k : Nat) (h : k ≤ d.size) (w : World) :
    (Instr.slice 9 (.string d) none (some (.int .i64 (k : Int))) none).run Tryd.prog w = .ok (.string (cutB d k)) w := by
  rw [run_slice_string_to_if (P := Tryd.prog) (w := w) 9 d .i64 _ Tryd.underlying9, if_pos (by omega)]
  unfold cutB
  simp

theorem CutDigest_no (t : ByteArray) (x : Int) (w : World) (hx : x < 1 ∨ 32 < x) :
    Calls Tryd.prog 97 #[.string t, .int .i64 x] w fun e w' => e = .returned (.string ⟨#[]⟩) ∧ Below w.heap.size w w' := by
  have hd : decide ((1 : Int) ≤ x ∧ x ≤ 32) = false := by simp; omega
  go_enter Tryd.func97, Tryd.ntmps97
  go_wp2_with fail
  refine (widthOk_any _ _).mono ?_
  rintro e w' ⟨rfl, rfl⟩
  rw [hd]
  go_wp2
  go_ret
  exact ⟨rfl, Below.refl _ _⟩
theorem sCutDigest_no (t : ByteArray) (x : Int) (w : World) (hx : x < 1 ∨ 32 < x) :
    Calls Tryd.prog 42 #[.string t, .int .i64 x] w fun e w' => e = .returned (.string ⟨#[]⟩) ∧ Below w.heap.size w w' := by
  have hd : decide ((1 : Int) ≤ x ∧ x ≤ 32) = false := by simp; omega
  go_enter Tryd.func42, Tryd.ntmps42
  go_wp2_with fail
  refine (l01In_any _ _ _ _).mono ?_
  rintro e w' ⟨rfl, rfl⟩
  rw [hd]
  go_wp2
  go_ret
  exact ⟨rfl, Below.refl _ _⟩

theorem CutDigest_yes (t : ByteArray) (k : Nat) (w : World) (ht : t.size ≤ 1048576) (h1 : 1 ≤ k) (h2 : k ≤ 32) (hK : TabK w) (hF : TabF w) :
    Calls Tryd.prog 97 #[.string t, .int .i64 (k : Int)] w fun e w' => e = .returned (.string (cutB (digB t) k)) ∧ Below w.heap.size w w' := by
  have hz := digB_size t
  have hc := Digest_any t w ht hK hF
  clear hK hF
  generalize digB t = D at *
  have hh := run_head D k (by omega)
  have hd : decide ((1 : Int) ≤ (k : Int) ∧ (k : Int) ≤ 32) = true := by simp; omega
  go_enter Tryd.func97, Tryd.ntmps97
  go_wp2_with fail
  refine (widthOk_any _ _).mono ?_
  rintro e w0 ⟨rfl, rfl⟩
  rw [hd]
  go_wp2_with fail
  refine hc.mono ?_
  rintro e w1 ⟨rfl, hb1⟩
  clear hc
  go_wp2
  go_ret
  exact ⟨rfl, hb1⟩
theorem sCutDigest_yes (t : ByteArray) (k : Nat) (w : World) (ht : t.size ≤ 1048576) (h1 : 1 ≤ k) (h2 : k ≤ 32) :
    Calls Tryd.prog 42 #[.string t, .int .i64 (k : Int)] w fun e w' => e = .returned (.string (cutB (digB t) k)) ∧ Below w.heap.size w w' := by
  have hz := digB_size t
  have hc := sDigest_any t w ht
  generalize digB t = D at *
  have hh := run_head D k (by omega)
  have hd : decide ((1 : Int) ≤ (k : Int) ∧ (k : Int) ≤ 32) = true := by simp; omega
  go_enter Tryd.func42, Tryd.ntmps42
  go_wp2_with fail
  refine (l01In_any _ _ _ _).mono ?_
  rintro e w0 ⟨rfl, rfl⟩
  rw [hd]
  go_wp2_with fail
  refine hc.mono ?_
  rintro e w1 ⟨rfl, hb1⟩
  clear hc
  go_wp2
  go_ret
  exact ⟨rfl, hb1⟩

def hexB (d : ByteArray) : ByteArray := ⟨(hexK d d.size).toArray⟩
end Go.Proofs.YtaejeemjndmjcaaDoor
