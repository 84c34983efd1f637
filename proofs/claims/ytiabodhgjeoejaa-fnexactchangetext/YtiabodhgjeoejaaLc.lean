/-
  Two names compared; one leaf looked at, and copied.
-/
import Derived.Test.YtiabodhgjeoejaaLw
import Derived.Test.YtiabodhgjeoejaaCs
import Derived.Test.YtiabodhgjeoejaaRshort
import Derived.Lib.QuietBelow
namespace Go.Proofs.Ytiabodhgjeoejaa
open Go.RowKit Go.BigFrame Go.Sort Go.Shelf
set_option linter.unusedVariables false
set_option linter.unusedSimpArgs false

namespace LV
theorem cmp_lt : ∀ (x y : List UInt8), Lib.compareBytes x y < 0 ↔ x < y
  | [], [] => by simp [Lib.compareBytes]
  | [], b :: y => by simp [Lib.compareBytes]
  | a :: x, [] => by simp [Lib.compareBytes]
  | a :: x, b :: y => by
    rw [Lib.compareBytes, List.cons_lt_cons_iff]
    by_cases h1 : a < b
    · simp [h1]
    · by_cases h2 : b < a
      · have h3 : a ≠ b := fun e => by subst e; exact h1 h2
        simp [h1, h2, h3]
      · have h3 : a = b := by
          have : a.toNat = b.toNat := by
            rw [UInt8.lt_iff_toNat_lt] at h1 h2
            omega
          exact UInt8.toNat_inj.1 this
        subst h3
        simp [h1, cmp_lt x y]
/-- how two names compare -/
def cmpN (a b : ByteArray) : Int := Lib.compareBytes a.data.toList b.data.toList
theorem cmpN_lt (a b : ByteArray) : cmpN a b < 0 ↔ F.ltN a b = true := by
  rw [F.ltN_eq, decide_eq_true_eq, F.toList_data, F.toList_data]
  exact cmp_lt _ _
theorem cmpN_ge (a b : ByteArray) : 0 ≤ cmpN a b ↔ F.ltN a b = false := by
  have := cmpN_lt a b
  cases h : F.ltN a b
  · rw [h] at this
    constructor
    · intro _; rfl
    · intro _
      rcases Int.lt_or_le (cmpN a b) 0 with h1 | h1
      · exact absurd (this.1 h1) (by simp)
      · exact h1
  · rw [h] at this
    have := this.2 rfl
    constructor
    · intro h1; omega
    · intro h1; cases h1
end LV

theorem Compare_any (a b : ByteArray) (w : World) : Calls Try.prog 88 #[.string a, .string b] w fun e w' => e = .returned (.int .i64 (LV.cmpN a b)) ∧ w' = w := by
  have h := Any.strings_Compare Try.cmpStr a b w
  exact h

set_option maxHeartbeats 400000 in
/-- two blocks are laid: the leaves' boxes -/
theorem compareNames_grow (a b : Le) (W : World) : Calls Try.prog 57 #[.agg #[.string a.n, .string a.v], .agg #[.string b.n, .string b.v]] W fun e w' => e = .returned (.int .i64 (LV.cmpN a.n b.n)) ∧ ∃ q os', w' = grow (W.drewN q) os' := by
  obtain ⟨an, av⟩ := a
  obtain ⟨bn, bv⟩ := b
  have hcon := fun W' => Compare_any an bn W'
  simp only
  generalize LV.cmpN an bn = r at hcon ⊢
  go_enter Try.func57, Try.ntmps57
  go_wp2_with (go_at_call 88; refine (hcon _).mono ?_; rintro e w' ⟨rfl, rfl⟩)
  go_ret
  exact ⟨rfl, 0, _, by rw [alloc_eq_grow, alloc_eq_grow, grow_grow]; rfl⟩
theorem below_grow (W : World) (q : Nat) (os : Array Obj) : RowKit.Below W.heap.size W (grow (W.drewN q) os) := by
  have h : RowKit.Below W.heap.size W (W.drewN q) := ⟨rfl, rfl, rfl, Nat.le_refl _, fun _ _ => rfl⟩
  exact h.trans (below_regrown (W.drewN q) _ os)
theorem compareNames_any (a b : Le) (W : World) : Calls Try.prog 57 #[.agg #[.string a.n, .string a.v], .agg #[.string b.n, .string b.v]] W fun e w' => e = .returned (.int .i64 (LV.cmpN a.n b.n)) ∧ Below W.heap.size W w' :=
  (compareNames_grow a b W).mono fun e w' ⟨he, q, os, hw⟩ => ⟨he, hw ▸ below_grow W q os⟩

set_option maxHeartbeats 400000 in
theorem leafOk_any (f : Le) (w : World) (hn : f.n.size ≤ 1048576) (hv : f.v.size ≤ 1048576) : Calls Try.prog 56 #[.agg #[.string f.n, .string f.v]] w fun e w' => e = .returned (.bool (LV.leB f)) ∧ Below w.heap.size w w' := by
  obtain ⟨x, t⟩ := f
  have HB : Hid (Below w.heap.size w (w.alloc (.cells #[.string x, .string t] 73))) := (Below.refl _ _).alloc (Nat.le_refl _) _
  obtain ⟨b, hb⟩ : ∃ b, okB nameB x = b := ⟨_, rfl⟩
  obtain ⟨b2, hb2⟩ : ∃ b2, okB valB t = b2 := ⟨_, rfl⟩
  have HN : Hid (∀ W, Calls Try.prog 87 #[.string x] W fun e w' => e = .returned (.bool b) ∧ w' = W) := fun W => hb ▸ NameOk_any x W hn
  have HV : Hid (∀ W, Calls Try.prog 60 #[.string t] W fun e w' => e = .returned (.bool b2) ∧ w' = W) := fun W => hb2 ▸ ValueOk_any t W hv
  have HF : Hid (LV.leB ⟨x, t⟩ = (b && b2)) := by rw [← hb, ← hb2]; rfl
  rw [HF.out]
  clear HF hb hb2 hn hv
  go_enter Try.func56, Try.ntmps56
  go_wp2_with fail
  refine (HN.out _).mono ?_
  rintro e w1 ⟨rfl, rfl⟩
  clear HN
  cases b
  · go_wp2
    go_ret
    exact ⟨rfl, HB.out⟩
  · go_wp2_with fail
    refine (HV.out _).mono ?_
    rintro e w1 ⟨rfl, rfl⟩
    go_wp2
    go_ret
    exact ⟨rfl, HB.out⟩

end Go.Proofs.Ytiabodhgjeoejaa
