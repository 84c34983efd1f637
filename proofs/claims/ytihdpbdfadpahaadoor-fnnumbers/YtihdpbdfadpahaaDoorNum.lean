/-
  What the program reads of what it wrote.
-/
import Derived.Test.YtihdpbdfadpahaaDoorBack
import Derived.Test.YtihdpbdfadpahaaDoorHexw
import Derived.Test.YtihdpbdfadpahaaDoorShort
import Derived.Test.YtihdpbdfadpahaaDoorItoa
import Derived.Lib.AppendIntMem
namespace Go.Proofs.YtihdpbdfadpahaaDoor
open Go.RowKit
set_option linter.unusedVariables false

theorem bytes_eq {a b : ByteArray} (h : a.data.toList = b.data.toList) : a = b := ByteArray.ext (Array.toList_inj.1 h)
theorem blen (s : ByteArray) : s.data.toList.length = s.size := Array.length_toList

def xB : ByteArray := ⟨#[120]⟩
def yB : ByteArray := ⟨#[121]⟩
def xyB (n : Nat) : ByteArray := xB ++ varB n ++ yB
theorem varB_list (n : Nat) : (varB n).data.toList = M.varL n := by simp [varB]
theorem varB_size (n : Nat) : (varB n).size ≤ 10 := varA_size n
theorem xyB_list (n : Nat) : (xyB n).data.toList = [120] ++ (M.varL n ++ [121]) := by
  unfold xyB xB yB
  simp [varB_list]
theorem xyB_size (n : Nat) : (xyB n).size = (varB n).size + 2 := by
  unfold xyB
  rw [ByteArray.size_append, ByteArray.size_append]
  have h1 : xB.size = 1 := rfl
  have h2 : yB.size = 1 := rfl
  omega

theorem VarText_b (n : Nat) (w : World) (hn : n ≤ 1000000000) :
    Calls Tryd.prog 6 #[.int .i64 n] w fun e w' => e = .returned (.tuple #[.string (varB n), .bool true]) ∧ Below w.heap.size w w' := VarText_yes n w hn

theorem ReadVar_b (n : Nat) (w : World) (hn : n ≤ 1000000000) :
    Calls Tryd.prog 7 #[.string (xyB n), .int .i64 1] w fun e w' => e = .returned (.tuple #[.int .i64 n, .int .i64 (((varB n).size + 1 : Nat) : Int), .bool true]) ∧ w' = w := by
  have hz := varB_size n
  have hx := xyB_size n
  have hv : (M.varL n).length = (varB n).size := by rw [← varB_list, blen]
  have h := readVar_back [120] [121] n hn
  rw [← xyB_list, hv] at h
  refine (ReadVar_some (xyB n) 1 n ((varB n).size + 1) w (by omega) (by omega) ?_)
  rw [show (1 : Int).toNat = [(120 : UInt8)].length from rfl, h]
  congr 2
  simp
  omega

theorem Decimal_b (n : Nat) (w : World) (hn : n ≤ 1000000000) (htab : Lib.TabIs Tryd.prog w "internal/strconv.uint64pow10" .u64 Lib.pow10Tab) :
    Calls Tryd.prog 9 #[.int .i64 n] w fun e w' => e = .returned (.string (decB n)) ∧ Below w.heap.size w w' := by
  have HT : Hid (Lib.TabIs Tryd.prog w "internal/strconv.uint64pow10" .u64 Lib.pow10Tab) := htab
  clear htab
  have HI : Hid ((⟨(Lib.itoa (n : Int)).toArray⟩ : ByteArray) = decB n) := by
    show _ = _
    rw [itoa_dec n hn]
    rfl
  go_enter Tryd.func9, Tryd.ntmps9
  go_wp2_with fail
  refine (Tryd.strconv_Itoa n (by omega) (by omega) _ HT.out).mono ?_
  rintro e w' ⟨rfl, k, os, rfl⟩
  rw [HI.out]
  go_wp2
  go_ret
  exact ⟨rfl, Lib.below_grow _ _ (Nat.le_refl _) _ _⟩

theorem decB_list (n : Nat) : (decB n).data.toList = decL n := by simp [decB]
theorem ReadDecimal_b (n : Nat) (w : World) (hn : n ≤ 1000000000) :
    Calls Tryd.prog 8 #[.string (decB n)] w fun e w' => e = .returned (.tuple #[.int .i64 n, .bool true]) ∧ Below w.heap.size w w' := by
  have hl : (decB n).size ≤ 10 := by
    rw [← blen, decB_list]
    unfold decL
    split
    · simp
    · exact decR_len 20 10 n (by omega)
  exact ReadDecimal_some (decB n) n w (by omega) (by rw [decB_list]; exact readDec_back n hn)

def shortB (t : ByteArray) : ByteArray := varB t.size ++ t
theorem shortB_size (t : ByteArray) : (shortB t).size = (varB t.size).size + t.size := by
  unfold shortB
  rw [ByteArray.size_append]
theorem Short_b (s : ByteArray) (w : World) (hs : s.size ≤ 20000) :
    Calls Tryd.prog 11 #[.string s] w fun e w' => e = .returned (.tuple #[.string (shortB s), .bool true]) ∧ Below w.heap.size w w' := Short_yes s w hs
theorem shortB_list (t : ByteArray) : (shortB t).data.toList = M.varL t.size ++ t.data.toList := by
  unfold shortB
  simp [varB_list]
theorem ReadShort_b (t : ByteArray) (w : World) (ht : t.size ≤ 20000) :
    Calls Tryd.prog 12 #[.string (shortB t), .int .i64 0] w fun e w' => e = .returned (.tuple #[.string t, .int .i64 ((shortB t).size : Int), .bool true]) ∧ Below w.heap.size w w' := by
  have hz := varB_size t.size
  have hs := shortB_size t
  have hv : (M.varL t.size).length = (varB t.size).size := by rw [← varB_list, blen]
  have h := readVar_back [] t.data.toList t.size (by omega)
  rw [List.nil_append, ← shortB_list, hv] at h
  have hp : piece (shortB t) (varB t.size).size t.size = t := by
    apply bytes_eq
    unfold piece
    have e : ((shortB t).extract (varB t.size).size ((varB t.size).size + t.size)).data.toList = ((shortB t).data.toList.drop (varB t.size).size).take t.size := by
      simp
    rw [e, shortB_list, List.drop_left' hv, ← blen, List.take_length]
  have hc := ReadShort_yes (shortB t) 0 t.size (varB t.size).size w (by omega) (by show 0 ≤ (0 : Int) ∧ (0 : Int) ≤ _; omega) (by show _ = _; simpa using h) ht (by omega)
  rw [hp, show (((varB t.size).size : Int) + (t.size : Int)) = ((shortB t).size : Int) by omega] at hc
  exact hc

def hexB (t : ByteArray) : ByteArray := ⟨(hexK t t.size).toArray⟩
theorem Hex_b (s : ByteArray) (w : World) (hs : s.size ≤ 20000) :
    Calls Tryd.prog 13 #[.string s] w fun e w' => e = .returned (.tuple #[.string (hexB s), .bool true]) ∧ Below w.heap.size w w' := Hex_yes s w hs
theorem Unhex_b (t : ByteArray) (w : World) (ht : t.size ≤ 20000) :
    Calls Tryd.prog 14 #[.string (hexB t)] w fun e w' => e = .returned (.tuple #[.string t, .bool true]) ∧ Below w.heap.size w w' := by
  have hl : (hexB t).data.toList = hexL t.data.toList := by
    unfold hexB hexK
    rw [← blen, List.take_length]
  have hz : (hexB t).size = 2 * t.size := by
    have := hexK_len t t.size (Nat.le_refl _)
    rw [← this]
    rfl
  obtain ⟨vs, h1, h2⟩ := hex_vals t.data.toList
  have hc := Unhex_some (hexB t) vs w (by omega) (by omega) (by rw [hl]; exact h1)
  rw [h2] at hc
  exact hc

end Go.Proofs.YtihdpbdfadpahaaDoor
