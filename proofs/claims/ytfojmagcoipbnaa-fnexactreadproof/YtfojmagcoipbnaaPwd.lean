/-
  Proofs: how wide their sides are: the specification's answer.
-/
import Derived.Test.YtfojmagcoipbnaaTxt
import Derived.Test.YtfojmagcoipbnaaVar
import Derived.Test.YtfojmagcoipbnaaMk
namespace Go.Proofs.Ytfojmagcoipbnaa
open Go.RowKit Go.BigFrame Go.Sort
set_option linter.unusedVariables false
set_option linter.unusedSimpArgs false

/-- are all of this width? -/
def wideB (S : List ByteArray) (x : Int) : Bool := S.all (fun s => decide ((s.size : Int) = x)) && decide (1 ≤ x ∧ x ≤ 32)
theorem wideB_bad {S : List ByteArray} {x : Int} {m : Nat} (hm : m < S.length) (h : ¬ ((S[m].size : Int) = x)) : wideB S x = false := by
  unfold wideB
  rw [Bool.and_eq_false_iff]
  left
  rw [List.all_eq_false]
  exact ⟨S[m], List.getElem_mem _, by simpa using h⟩
theorem wideB_good {S : List ByteArray} {x : Int} (h : ∀ j (hj : j < S.length), (S[j].size : Int) = x) : wideB S x = decide (1 ≤ x ∧ x ≤ 32) := by
  unfold wideB
  have : S.all (fun s => decide ((s.size : Int) = x)) = true := by
    rw [List.all_eq_true]
    intro s hs
    obtain ⟨j, hj, rfl⟩ := List.getElem_of_mem hs
    simpa using h j hj
  rw [this, Bool.true_and]

def PwR (w : World) (S : List ByteArray) (x : Int) (i : Value) (wr : World) : Prop := ∃ m : Nat, m ≤ S.length ∧ i = .int .i64 m ∧ wr = w ∧ Hid (∀ j (h : j < S.length), j < m → (S[j].size : Int) = x)

set_option maxRecDepth 100000 in
set_option maxHeartbeats 1000000 in
theorem l11Wide_any (v : Value) (g o : Nat) (S : List ByteArray) (x : Int) (w : World) (hv : SS w v g o S) :
    Calls Try.prog 34 #[v, .int .i64 x] w fun e w' => e = .returned (.bool (wideB S x)) ∧ w' = w := by
  obtain ⟨R, hR⟩ : ∃ R, wideB S x = R := ⟨_, rfl⟩
  have HR : Hid (wideB S x = R) := hR
  rw [hR]
  obtain ⟨a, cap, rfl, hl, hA, hc⟩ := hv
  obtain ⟨n, hn⟩ : ∃ n, S.length = n := ⟨_, rfl⟩
  have HA : Hid (0 < n → a = some ⟨g, o, none⟩) := by rw [← hn]; exact hA
  have HCC : Hid (∀ j (h : j < S.length), w.cell? ⟨g, o + j, none⟩ = some (.string S[j])) := hc
  have HN : Hid (S.length = n) := hn
  have HST : Hid (PwR w S x (.int .i64 0) w) := ⟨0, by omega, rfl, rfl, fun j _ h => by omega⟩
  rw [hn] at hl ⊢
  clear hA hc hn hR
  go_enter Try.func34, Try.ntmps34
  go_wp2
  go_loopw [5] (fun i wr => PwR w S x i wr) (fun i _ => n - (intOf i).toNat)
  case atStart => exact HST.out
  case round =>
    obtain ⟨m, hm, rfl, rfl, HI⟩ := hrel
    clear HST
    rw [HN.out] at hm
    by_cases hlt : m < n
    · have ea := HA.out (by omega)
      subst ea
      have c0 := HCC.out m (by rw [HN.out]; exact hlt)
      have HB : Hid (¬ (((S[m]'(by rw [HN.out]; exact hlt)).size : Int) = x) → wideB S x = false) := fun h => wideB_bad _ h
      have HJ : Hid ((((S[m]'(by rw [HN.out]; exact hlt)).size : Int) = x) → ∀ j (h : j < S.length), j < m + 1 → (S[j].size : Int) = x) := fun h j hj hjm => by
        rcases Nat.lt_or_ge j m with h1 | h1
        · exact HI.out j hj h1
        · have : j = m := by omega
          subst this
          exact h
      generalize S[m]'(by rw [HN.out]; exact hlt) = X at *
      have i1 : (m : Int) < (n : Int) := by omega
      have i2 : (0 : Int) ≤ (m : Int) := by omega
      by_cases hk : (X.size : Int) = x
      · have HJ2 : Hid (∀ j (h : j < S.length), j < m + 1 → (S[j].size : Int) = x) := HJ.out hk
        have q : ((X.size : Int) != x) = false := by simpa using hk
        clear HJ HB hk HI HCC
        go_wp2
        go_roundw
        case rel => exact ⟨m + 1, by rw [HN.out]; omega, by go_num, rfl, HJ2⟩
        case measure => simp [intOf]; omega
      · have hRf := HB.out hk
        rw [HR.out] at hRf
        subst hRf
        have q : ((X.size : Int) != x) = true := by simpa using hk
        clear HJ HB hk HI HCC HR
        go_wp2
        go_ret
        exact ⟨rfl, rfl⟩
    · have hme : m = n := by omega
      have hG := wideB_good (S := S) (x := x) (fun j hj => HI.out j hj (by rw [HN.out] at hj; omega))
      rw [HR.out] at hG
      have HG : Hid (decide (1 ≤ x ∧ x ≤ 32) = R) := hG.symm
      clear hG
      have i1 : ¬ (m : Int) < (n : Int) := by omega
      clear HI HCC HR
      go_wp2_with fail
      refine (l01In_any _ _ _ _).mono ?_
      rintro e w2 ⟨rfl, rfl⟩
      rw [HG.out]
      go_wp2
      go_ret
      exact ⟨rfl, rfl⟩

theorem run_rangeP {w : World} {p : Nat} {v1 v2 : Value} (t : TypeId) : (w.alloc (.cells #[v1, v2] t)).cell? ⟨w.heap.size, 0, none⟩ = some v1 ∧ (w.alloc (.cells #[v1, v2] t)).cell? ⟨w.heap.size, 1, none⟩ = some v2 := by
  constructor
  · rw [World.cell?_alloc_at _ _ _ _ rfl]; rfl
  · rw [World.cell?_alloc_at _ _ _ _ rfl]; rfl

end Go.Proofs.Ytfojmagcoipbnaa
