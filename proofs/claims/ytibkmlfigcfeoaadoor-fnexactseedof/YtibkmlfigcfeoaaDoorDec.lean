/-
  What the specification's Decimal answers: the numeral that strconv.Itoa's own contract names.
-/
import Derived.Test.YtibkmlfigcfeoaaDoorRows
import Derived.WalkKit
import Derived.Lib.ItoaMem
namespace Go.Proofs.YtibkmlfigcfeoaaDoor
open Go.RowKit
set_option linter.unusedVariables false

def fig (x : Nat) : UInt8 := UInt8.ofNat (48 + x)

def decR : Nat → Nat → List UInt8
  | 0, _ => []
  | f + 1, n => if n = 0 then [] else decR f (n / 10) ++ [fig (n % 10)]

theorem decR_digits : ∀ (f n : Nat), 0 < n → n < 10 ^ f → decR f n = Lib.decDigits n := by
  intro f
  induction f with
  | zero => intro n h0 h; simp at h; omega
  | succ f ih =>
    intro n h0 h
    rw [decR, if_neg (by omega)]
    by_cases hs : n < 10
    · rw [Lib.decDigits_one hs]
      have e1 : n / 10 = 0 := by omega
      have e2 : n % 10 = n := by omega
      rw [e1, e2]
      have e3 : decR f 0 = [] := by cases f <;> simp [decR]
      rw [e3]
      rfl
    · rw [Lib.decDigits, dif_neg hs, ih (n / 10) (by omega) (by rw [Nat.pow_succ] at h; omega)]
      rfl

theorem fig_nat (x : Nat) (h : x < 10) : (fig x).toNat = 48 + x := by
  unfold fig
  simp
  omega

theorem l01Figure_any (x : Nat) (w : World) (h : x < 10) :
    Calls Tryd.prog 10 #[.int .i64 x] w fun e w' => e = .returned (.int .u8 (fig x).toNat) ∧ w' = w := by
  have hf := fig_nat x h
  rw [hf]
  go_enter Tryd.func10, Tryd.ntmps10
  go_wp2
  go_ret
  exact ⟨by go_num, rfl⟩

theorem figI (x : Int) (n : Nat) (w : World) (hx : x = (n : Int)) (h : n < 10) :
    Calls Tryd.prog 10 #[.int .i64 x] w fun e w' => e = .returned (.int .u8 (fig n).toNat) ∧ w' = w := by
  subst hx
  exact l01Figure_any n w h

theorem one_str (w : World) (b : UInt8) : (convert 26 9 (.slice (some ⟨w.heap.size, 0, none⟩) 1 1)).run Tryd.prog (w.alloc (.cells #[.int .u8 (b.toNat : Int)] 5)) = .ok (.string ⟨[b].toArray⟩) (w.alloc (.cells #[.int .u8 (b.toNat : Int)] 5)) := by
  refine run_convert_bytes_back (P := Tryd.prog) _ 26 9 5 ⟨w.heap.size, 0, none⟩ 1 [b] Tryd.underlying26 Tryd.underlying5 Tryd.underlying9 ?_
  intro j hj
  have h0 : j = 0 := by simpa using hj
  subst h0
  simp [Addr.add]

/-- one figure ahead of a text -/
def consB (b : UInt8) (t : ByteArray) : ByteArray := ⟨[b].toArray⟩ ++ t
theorem consB_list (b : UInt8) (t : ByteArray) : (consB b t).data.toList = b :: t.data.toList := by
  unfold consB
  simp
theorem consB_size (b : UInt8) (t : ByteArray) : (consB b t).size = t.size + 1 := by
  unfold consB
  rw [ByteArray.size_append]
  show 1 + t.size = _
  omega

def itoaB (n : Int) : ByteArray := ⟨(Lib.itoa n).toArray⟩

def DecRel (sg : Int) (n : Nat) (w : World) (x s : Value) (wr : World) : Prop :=
  ∃ (m f : Nat) (t : ByteArray), m ≤ n ∧ x = .int .i64 (sg * m) ∧ s = .string t ∧ t.size + f = 20 ∧ Hid (m < 10 ^ f) ∧ Hid (decR f m ++ t.data.toList = decR 20 n) ∧ Below w.heap.size w wr

theorem dec_end {n m f : Nat} {t : ByteArray} (h0 : 0 < n) (hn : n < 10 ^ 20) (hm : m = 0) (h : decR f m ++ t.data.toList = decR 20 n) : t = ⟨(Lib.decDigits n).toArray⟩ := by
  have h2 : decR f m = [] := by rw [hm]; cases f <;> simp [decR]
  rw [h2, List.nil_append, decR_digits 20 n h0 hn] at h
  rw [← h]

theorem dec_step {n m f : Nat} {t : ByteArray} (hm : ¬ m = 0) (hF : m < 10 ^ f) (h : decR f m ++ t.data.toList = decR 20 n) : ∃ f', f = f' + 1 ∧ m / 10 < 10 ^ f' ∧ decR f' (m / 10) ++ (consB (fig (m % 10)) t).data.toList = decR 20 n := by
  cases f with
  | zero => simp at hF; omega
  | succ f =>
    refine ⟨f, rfl, by rw [Nat.pow_succ] at hF; omega, ?_⟩
    rw [decR, if_neg hm] at h
    rw [consB_list]
    simpa using h

set_option maxRecDepth 100000 in
set_option maxHeartbeats 1000000 in
theorem Decimal_pos (n : Nat) (w : World) (h0 : 0 < n) (hn : n ≤ 9223372036854775807) :
    Calls Tryd.prog 7 #[.int .i64 n] w fun e w' => e = .returned (.string ⟨(Lib.decDigits n).toArray⟩) ∧ Below w.heap.size w w' := by
  have hq : ((n : Int) == 0) = false := by simp; omega
  have hsg : ¬ ((n : Int) < 0) := by omega
  go_enter Tryd.func7, Tryd.ntmps7
  go_wp2
  go_loopw [0, 4, 5] (fun x s _ wr => DecRel 1 n w x s wr) (fun x _ _ _ => (intOf x).toNat)
  case atStart => exact ⟨n, 20, ⟨#[]⟩, Nat.le_refl _, by simp, rfl, rfl, by unfold Hid; omega, by unfold Hid; simp, Below.refl _ _⟩
  case round =>
    obtain ⟨m, f, t, hmn, rfl, rfl, htf, HF, HE, hbel⟩ := hrel
    rw [Int.one_mul]
    by_cases hm : m = 0
    · have hmq : ((m : Int) != 0) = false := by simp; omega
      have HD : Hid (t = ⟨(Lib.decDigits n).toArray⟩) := dec_end h0 (by omega) hm HE.out
      clear hm
      go_wp2
      go_ret
      exact ⟨by rw [← HD.out]; rfl, hbel⟩
    · have hmq : ((m : Int) != 0) = true := by simp; omega
      have hms : ¬ ((m : Int) % 10 < 0) := by omega
      have hm0 : 0 < m := by omega
      obtain ⟨f', rfl, hF2, hS⟩ := dec_step hm HF.out HE.out
      have HS : Hid (decR f' (m / 10) ++ (consB (fig (m % 10)) t).data.toList = decR 20 n) := hS
      have HF2 : Hid (m / 10 < 10 ^ f') := hF2
      clear hS hF2 hm
      go_wp2_with fail
      refine (figI _ (m % 10) _ (by omega) (by omega)).mono ?_
      rintro e w2 ⟨rfl, rfl⟩
      have hcv := one_str w2 (fig (m % 10))
      go_wp2
      go_roundw
      case rel => exact ⟨m / 10, f', consB (fig (m % 10)) t, by omega, by go_num, rfl, by rw [consB_size]; omega, HF2, HS, hbel.alloc hbel.size _⟩
      case measure => simp [intOf]; omega

theorem Decimal_zero (w : World) : Calls Tryd.prog 7 #[.int .i64 0] w fun e w' => e = .returned (.string ⟨(Lib.decDigits 0).toArray⟩) ∧ Below w.heap.size w w' := by
  rw [Lib.decDigits_one (by omega)]
  go_enter Tryd.func7, Tryd.ntmps7
  go_wp2
  go_ret
  exact ⟨rfl, Below.refl _ _⟩

end Go.Proofs.YtibkmlfigcfeoaaDoor
