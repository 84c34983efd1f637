/-
  Texts laid together: Var, Short.
-/
import Derived.Test.YtkgibgadngeddabDoorPkEST0
/-
  What VarText answers, the program's and the specification's: the bytes varL of the number.
-/
namespace Go.Proofs.YtkgibgadngeddabDoor
open Go.RowKit

theorem one_byte (w : World) (x : Int) (b : UInt8) (t : TypeId) (h : x = (b.toNat : Int)) : ∀ j u, (bv [b])[j]? = some u → (w.alloc (.cells #[.int .u8 x] t)).cell? ((⟨w.heap.size, 0, none⟩ : Addr).add j) = some u := by
  intro j u hj
  obtain ⟨hj', rfl⟩ := bv_get _ _ _ hj
  have h0 : j = 0 := by simp at hj'; exact hj'
  subst h0
  subst h
  simp [Addr.add]

def hiB (m : Nat) : UInt8 := UInt8.ofNat (m % 128 + 128)
def loB (m : Nat) : UInt8 := UInt8.ofNat m
theorem byte_hi (m : Nat) : ((m : Int) % 128 + 128) = ((hiB m).toNat : Int) := by
  unfold hiB; simp; omega
theorem byte_lo (m : Nat) (h : m ≤ 127) : (m : Int) = ((loB m).toNat : Int) := by
  unfold loB; simp; omega

/-- what the loop of VarText holds at each round's head: so many bytes are written, and those of the rest make the whole -/
def VarRel (n : Nat) (w : World) (x v : Value) (wr : World) : Prop :=
  ∃ (m f : Nat) (pre : List UInt8), m ≤ n ∧ m < 128 ^ (f + 1) ∧ x = .int .i64 m ∧ OB w.heap.size w wr v pre ∧ pre.length ≤ 10 ∧ pre ++ M.varF f m = M.varL n

theorem VarRel.step {n m f : Nat} {pre : List UInt8} (h : 127 < m) (hf : m < 128 ^ (f + 1)) (he : pre ++ M.varF f m = M.varL n) :
    ∃ f', m / 128 < 128 ^ (f' + 1) ∧ (pre ++ [hiB m]) ++ M.varF f' (m / 128) = M.varL n ∧ (pre ++ [hiB m]).length ≤ 10 := by
  cases f with
  | zero => simp at hf; omega
  | succ f =>
    rw [M.varF_big _ _ h] at he
    change pre ++ hiB m :: M.varF f (m / 128) = M.varL n at he
    refine ⟨f, ?_, by simpa using he, ?_⟩
    · have : m < 128 ^ (f + 1) * 128 := by rw [← Nat.pow_succ]; exact hf
      omega
    · have h1 := M.varL_len n
      rw [← he] at h1
      simp at h1 ⊢
      omega

set_option maxHeartbeats 400000 in
theorem l01Var_any (n : Nat) (w : World) (hn : n ≤ 1000000000) :
    Calls Tryd.prog 30 #[.int .i64 n] w fun e w' => e = .returned (.string ⟨(M.varL n).toArray⟩) ∧ Below w.heap.size w w' := by
  go_enter Tryd.func30, Tryd.ntmps30
  go_wp2
  go_loopw [0, 3] (fun x v wr => VarRel n w x v wr) (fun x _ _ => (intOf x).toNat)
  case atStart => exact ⟨n, 9, [], Nat.le_refl _, by omega, rfl, OB.made w, by simp, rfl⟩
  case round =>
    obtain ⟨m, f, pre, hmn, hmf, rfl, hown, hpl, he⟩ := hrel
    by_cases h : 127 < m
    · obtain ⟨f', h1, h2, h3⟩ := VarRel.step h hmf he
      have H2 : Hid ((pre ++ [hiB m]) ++ M.varF f' (m / 128) = M.varL n) := h2
      clear h2 he hmf
      go_wp2_with (at_builtin; refine wp_app rfl _ _ rfl w.heap.size w _ pre rfl (hown.alloc _) ⟨wr.heap.size, 0, none⟩ 1 1 [hiB m] rfl rfl ?c1 ?c2 ?_)
      case c1 => exact one_byte _ _ _ _ (byte_hi m)
      case c2 => omega
      intro v' w1 hown'
      go_wp2
      go_roundw
      case rel => exact ⟨m / 128, f', _, by omega, h1, by go_num, hown', h3, H2.out⟩
      case measure => simp [intOf]; omega
    · have he' : pre ++ [loB m] = M.varL n := by rw [M.varF_small f m (by omega)] at he; exact he
      have H2 : Hid (pre ++ [loB m] = M.varL n) := he'
      clear he' he hmf
      go_wp2_with (at_builtin; refine wp_app rfl _ _ rfl w.heap.size w _ pre rfl (hown.alloc _) ⟨wr.heap.size, 0, none⟩ 1 1 [loB m] rfl rfl ?c3 ?c4 ?_)
      case c3 => exact one_byte _ _ _ _ (byte_lo m (by omega))
      case c4 => omega
      intro v' w1 hown'
      have hcv := run_str hown'
      go_wp2
      go_ret
      exact ⟨by rw [H2.out]; rfl, hown'.2.1⟩


set_option maxHeartbeats 400000 in
theorem VarText_yes (n : Nat) (w : World) (hn : n ≤ 1000000000) :
    Calls Tryd.prog 50 #[.int .i64 n] w fun e w' => e = .returned (.tuple #[.string ⟨(M.varL n).toArray⟩, .bool true]) ∧ Below w.heap.size w w' := by
  go_enter Tryd.func50, Tryd.ntmps50
  go_wp2
  go_loopw [0, 4] (fun x v wr => VarRel n w x v wr) (fun x _ _ => (intOf x).toNat)
  case atStart => exact ⟨n, 9, [], Nat.le_refl _, by omega, rfl, OB.nil w, by simp, rfl⟩
  case round =>
    obtain ⟨m, f, pre, hmn, hmf, rfl, hown, hpl, he⟩ := hrel
    by_cases h : 127 < m
    · obtain ⟨f', h1, h2, h3⟩ := VarRel.step h hmf he
      have H2 : Hid ((pre ++ [hiB m]) ++ M.varF f' (m / 128) = M.varL n) := h2
      clear h2 he hmf
      go_wp2_with (at_builtin; refine wp_app rfl _ _ rfl w.heap.size w _ pre rfl (hown.alloc _) ⟨wr.heap.size, 0, none⟩ 1 1 [hiB m] rfl rfl ?c1 ?c2 ?_)
      case c1 => exact one_byte _ _ _ _ (byte_hi m)
      case c2 => omega
      intro v' w1 hown'
      go_wp2
      go_roundw
      case rel => exact ⟨m / 128, f', _, by omega, h1, by go_num, hown', h3, H2.out⟩
      case measure => simp [intOf]; omega
    · have he' : pre ++ [loB m] = M.varL n := by rw [M.varF_small f m (by omega)] at he; exact he
      have H2 : Hid (pre ++ [loB m] = M.varL n) := he'
      clear he' he hmf
      go_wp2_with (at_builtin; refine wp_app rfl _ _ rfl w.heap.size w _ pre rfl (hown.alloc _) ⟨wr.heap.size, 0, none⟩ 1 1 [loB m] rfl rfl ?c3 ?c4 ?_)
      case c3 => exact one_byte _ _ _ _ (byte_lo m (by omega))
      case c4 => omega
      intro v' w1 hown'
      have hcv := run_str hown'
      go_wp2
      go_ret2
      exact ⟨by rw [H2.out]; rfl, hown'.2.1⟩

theorem VarText_no (n : Int) (w : World) (hn : n < 0 ∨ 1000000000 < n) :
    Calls Tryd.prog 50 #[.int .i64 n] w fun e w' => e = .returned (.tuple #[.string ⟨#[]⟩, .bool false]) ∧ Below w.heap.size w w' := by
  rcases hn with h | h
  · go_enter Tryd.func50, Tryd.ntmps50
    go_wp2
    go_ret2
    exact ⟨rfl, Below.refl _ _⟩
  · have h' : ¬ n < 0 := by omega
    go_enter Tryd.func50, Tryd.ntmps50
    go_wp2
    go_ret2
    exact ⟨rfl, Below.refl _ _⟩

theorem l01In_any (x a b : Int) (w : World) : Calls Tryd.prog 27 #[.int .i64 x, .int .i64 a, .int .i64 b] w fun e w' => e = .returned (.bool (decide (a ≤ x ∧ x ≤ b))) ∧ w' = w := by
  by_cases h1 : a ≤ x
  · by_cases h2 : x ≤ b
    · go_enter Tryd.func27, Tryd.ntmps27
      go_wp2
      go_ret
      exact ⟨by simp [h1, h2], rfl⟩
    · go_enter Tryd.func27, Tryd.ntmps27
      go_wp2
      go_ret
      exact ⟨by simp [h2], rfl⟩
  · go_enter Tryd.func27, Tryd.ntmps27
    go_wp2
    go_ret
    exact ⟨by simp; omega, rfl⟩

end Go.Proofs.YtkgibgadngeddabDoor
/-
  What ShortText answers, the program's and the specification's: varL of the length, and the text.
-/
namespace Go.Proofs.YtkgibgadngeddabDoor
open Go.RowKit

theorem varA_size (n : Nat) : (⟨(M.varL n).toArray⟩ : ByteArray).size ≤ 10 := by
  have := M.varL_len n
  show (M.varL n).toArray.size ≤ 10
  simpa using this

theorem Short_yes (s : ByteArray) (w : World) (hs : s.size ≤ 20000) :
    Calls Tryd.prog 44 #[.string s] w fun e w' => e = .returned (.tuple #[.string (⟨(M.varL s.size).toArray⟩ ++ s), .bool true]) ∧ Below w.heap.size w w' := by
  have hz := varA_size s.size
  go_enter Tryd.func44, Tryd.ntmps44
  go_wp2_with fail
  refine (VarText_yes s.size _ (by omega)).mono ?_
  rintro e w' ⟨rfl, hb⟩
  go_wp2
  go_ret2
  exact ⟨rfl, hb⟩

theorem Short_no (s : ByteArray) (w : World) (hs : 20000 < s.size) (hm : s.size ≤ 1048576) :
    Calls Tryd.prog 44 #[.string s] w fun e w' => e = .returned (.tuple #[.string ⟨#[]⟩, .bool false]) ∧ Below w.heap.size w w' := by
  go_enter Tryd.func44, Tryd.ntmps44
  go_wp2
  go_ret2
  exact ⟨rfl, Below.refl _ _⟩

end Go.Proofs.YtkgibgadngeddabDoor
