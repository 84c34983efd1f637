/-
  What Unhex answers, the program's and the specification's.
-/
import Derived.Test.YtihdpbdfadpahaaDoorFigw
namespace Go.Proofs.YtihdpbdfadpahaaDoor
open Go.RowKit
set_option linter.unusedVariables false

def pairs : List Nat → List UInt8
  | a :: b :: r => UInt8.ofNat (16 * a + b) :: pairs r
  | _ => []

theorem pairs_len : ∀ (l : List Nat), (pairs l).length ≤ l.length
  | [] => by simp [pairs]
  | [a] => by simp [pairs]
  | a :: b :: r => by have := pairs_len r; simp [pairs]; omega

theorem pairs_snoc : ∀ (k : Nat) (l : List Nat) (a b : Nat), l.length = 2 * k → pairs (l ++ [a, b]) = pairs l ++ [UInt8.ofNat (16 * a + b)]
  | 0, [], a, b, _ => by simp [pairs]
  | k + 1, x :: y :: r, a, b, h => by
    have ih := pairs_snoc k r a b (by simp at h; omega)
    simp [pairs, ih]
  | 0, x :: r, a, b, h => by simp at h
  | k + 1, [], a, b, h => by simp at h
  | k + 1, [x], a, b, h => by simp at h; omega

theorem take_two (vs : List Nat) (k : Nat) (h : 2 * k + 1 < vs.length) : vs.take (2 * (k + 1)) = vs.take (2 * k) ++ [vs[2 * k]'(by omega), vs[2 * k + 1]] := by
  have e : 2 * (k + 1) = 2 * k + 1 + 1 := by omega
  rw [e, List.take_succ_eq_append_getElem h, List.take_succ_eq_append_getElem (by omega), List.append_assoc]
  rfl

theorem vals_len (base : Nat) : ∀ (l : List UInt8) (vs : List Nat), vals base l = some vs → vs.length = l.length ∧ ∀ v ∈ vs, v < base
  | [], vs, h => by simp [vals] at h; subst h; simp
  | b :: r, vs, h => by
    simp only [vals, Option.bind_eq_some_iff, Option.map_eq_some_iff] at h
    obtain ⟨v, hv, us, hu, rfl⟩ := h
    obtain ⟨h1, h2⟩ := vals_len base r us hu
    refine ⟨by simp [h1], ?_⟩
    intro x hx
    rcases List.mem_cons.1 hx with rfl | hx
    · exact (figV_lt base _ b hv).1
    · exact h2 x hx

theorem figV16 : ∀ n : Fin 256, figV 16 (UInt8.ofNat n.val) = if 48 ≤ n.val ∧ n.val ≤ 57 then some (n.val - 48) else if 97 ≤ n.val ∧ n.val ≤ 102 then some (n.val - 87) else none := by decide +kernel

/-- what l01Value answers -/
def valOf (b : UInt8) : Int := match figV 16 b with
  | some v => (v : Int)
  | none => -1

theorem figV_of (b : UInt8) : figV 16 b = if 48 ≤ b.toNat ∧ b.toNat ≤ 57 then some (b.toNat - 48) else if 97 ≤ b.toNat ∧ b.toNat ≤ 102 then some (b.toNat - 87) else none := by
  have h := figV16 ⟨b.toNat, b.toNat_lt⟩
  have e : UInt8.ofNat b.toNat = b := by simp
  simp only [e] at h
  exact h

theorem ret_i {k : IntKind} {a b : Int} (h : a = b) : Ending.returned (.int k a) = .returned (.int k b) := by rw [h]

/-- what Unhex leaves -/
def UnPost (w : World) (s : ByteArray) (e : Ending) (w' : World) : Prop :=
  ((vals 16 s.data.toList = none ∧ e = .returned (.tuple #[.string ⟨#[]⟩, .bool false])) ∨ ∃ vs, vals 16 s.data.toList = some vs ∧ e = .returned (.tuple #[.string ⟨(pairs vs).toArray⟩, .bool true])) ∧ Below w.heap.size w w'

theorem Unhex_no (s : ByteArray) (w : World) (hm : s.size ≤ 1048576) (h : ¬ (s.size ≤ 40000 ∧ s.size % 2 = 0)) :
    Calls Tryd.prog 14 #[.string s] w fun e w' => e = .returned (.tuple #[.string ⟨#[]⟩, .bool false]) ∧ Below w.heap.size w w' := by
  by_cases h2 : s.size % 2 = 0
  · have h3 : (40000 : Int) < (s.size : Int) := by omega
    have h4 : ((s.size : Int) % 2 != 0) = false := by simp; omega
    go_enter Tryd.func14, Tryd.ntmps14
    go_wp2
    go_ret2
    exact ⟨rfl, Below.refl _ _⟩
  · have h4 : ((s.size : Int) % 2 != 0) = true := by simp; omega
    go_enter Tryd.func14, Tryd.ntmps14
    go_wp2
    go_ret2
    exact ⟨rfl, Below.refl _ _⟩

end Go.Proofs.YtihdpbdfadpahaaDoor
