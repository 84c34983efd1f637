/-
  The walk of the specification's Decimal, at a number that is not below 0.
-/
import Derived.Test.YtkpcjhihbhmakaaDec
namespace Go.Proofs.Ytkpcjhihbhmakaa
open Go.RowKit
set_option linter.unusedVariables false

def decB (n : Nat) : ByteArray := ⟨(decL n).toArray⟩

theorem figI (x : Int) (n : Nat) (w : World) (hx : x = (n : Int)) (h : n < 16) :
    Calls Try.prog 27 #[.int .i64 x] w fun e w' => e = .returned (.int .u8 (fig n).toNat) ∧ w' = w := by
  subst hx
  exact l01Figure_any n w h

theorem one_str (w : World) (b : UInt8) : (convert 36 9 (.slice (some ⟨w.heap.size, 0, none⟩) 1 1)).run Try.prog (w.alloc (.cells #[.int .u8 (b.toNat : Int)] 5)) = .ok (.string ⟨[b].toArray⟩) (w.alloc (.cells #[.int .u8 (b.toNat : Int)] 5)) := by
  refine run_convert_bytes_back (P := Try.prog) _ 36 9 5 ⟨w.heap.size, 0, none⟩ 1 [b] Try.underlying36 Try.underlying5 Try.underlying9 ?_
  intro j hj
  have h0 : j = 0 := by simpa using hj
  subst h0
  simp [Addr.add]

/-- one figure ahead of a text -/
def consB (b : UInt8) (t : ByteArray) : ByteArray := ⟨[b].toArray⟩ ++ t
theorem consB_list (b : UInt8) (t : ByteArray) : (consB b t).data.toList = b :: t.data.toList := by
  unfold consB
  simp
theorem consB_size (b : UInt8) (t : ByteArray) : (consB b t).size = t.size + 1 := by
  unfold consB
  rw [ByteArray.size_append]
  show 1 + t.size = _
  omega

def DecRel (n : Nat) (w : World) (x s : Value) (wr : World) : Prop :=
  ∃ (m f : Nat) (t : ByteArray), m ≤ n ∧ x = .int .i64 m ∧ s = .string t ∧ t.size + f = 20 ∧ Hid (m < 10 ^ f) ∧ Hid (decR f m ++ t.data.toList = decR 20 n) ∧ Below w.heap.size w wr

set_option maxRecDepth 100000 in
set_option maxHeartbeats 1000000 in
theorem Decimal_pos (n : Nat) (w : World) (h0 : 0 < n) (hn : n ≤ 1000000000) :
    Calls Try.prog 30 #[.int .i64 n] w fun e w' => e = .returned (.string (decB n)) ∧ Below w.heap.size w w' := by
  have hq : ((n : Int) == 0) = false := by simp; omega
  go_enter Try.func30, Try.ntmps30
  go_wp2
  go_loopw [0, 4, 5] (fun x s _ wr => DecRel n w x s wr) (fun x _ _ _ => (intOf x).toNat)
  case atStart => exact ⟨n, 20, ⟨#[]⟩, Nat.le_refl _, rfl, rfl, rfl, by unfold Hid; omega, by unfold Hid; simp, Below.refl _ _⟩
  case round =>
    obtain ⟨m, f, t, hmn, rfl, rfl, htf, HF, HE, hbel⟩ := hrel
    by_cases hm : m = 0
    · have hmq : ((m : Int) != 0) = false := by simp; omega
      have hd : decB n = t := by
        have h1 := HE.out
        have h2 : decR f m = [] := by rw [hm]; cases f <;> simp [decR]
        rw [h2, List.nil_append] at h1
        unfold decB decL
        rw [if_neg (by omega), ← h1]
      have HD : Hid (decB n = t) := hd
      clear hd hm
      go_wp2
      go_ret
      exact ⟨by rw [HD.out]; rfl, hbel⟩
    · have hmq : ((m : Int) != 0) = true := by simp; omega
      have hms : ¬ ((m : Int) % 10 < 0) := by omega
      have hm0 : 0 < m := by omega
      cases f with
      | zero => have := HF.out; simp at this; omega
      | succ f =>
        have hstep : decR f (m / 10) ++ (fig (m % 10) :: t.data.toList) = decR 20 n := by
          have h1 := HE.out
          rw [decR, if_neg hm] at h1
          simpa using h1
        have HS : Hid (decR f (m / 10) ++ (fig (m % 10) :: t.data.toList) = decR 20 n) := hstep
        have HF2 : Hid (m / 10 < 10 ^ f) := by
          have h1 := HF.out
          rw [Nat.pow_succ] at h1
          unfold Hid
          omega
        clear hstep hm
        go_wp2_with fail
        refine (figI _ (m % 10) _ (by omega) (by omega)).mono ?_
        rintro e w2 ⟨rfl, rfl⟩
        have hcv := one_str w2 (fig (m % 10))
        go_wp2
        go_roundw
        case rel =>
          refine ⟨m / 10, f, consB (fig (m % 10)) t, by omega, by go_num, rfl, by rw [consB_size]; omega, HF2, ?_, hbel.alloc hbel.size _⟩
          unfold Hid
          rw [consB_list]
          exact HS.out
        case measure => simp [intOf]; omega

theorem Decimal_zero (w : World) : Calls Try.prog 30 #[.int .i64 0] w fun e w' => e = .returned (.string (decB 0)) ∧ Below w.heap.size w w' := by
  go_enter Try.func30, Try.ntmps30
  go_wp2
  go_ret
  exact ⟨rfl, Below.refl _ _⟩

end Go.Proofs.Ytkpcjhihbhmakaa
