/-
  Texts laid together: Pwd, Ps, Wid, Pa.
-/
import Derived.Test.YtfojmagcoipbnaaGreatDoorQ06
import Derived.Test.YtfojmagcoipbnaaGreatDoorQ02
import Derived.Test.YtfojmagcoipbnaaGreatDoorQ07
import Derived.Test.YtfojmagcoipbnaaGreatDoorQ08
import Derived.Test.YtfojmagcoipbnaaGreatDoorQ01
/-
  Proofs: how wide their sides are: the specification's answer.
-/
namespace Go.Proofs.YtfojmagcoipbnaaGreatDoor
open Go.RowKit Go.BigFrame Go.Sort
set_option linter.unusedVariables false
set_option linter.unusedSimpArgs false

/-- are all of this width? -/
def wideB (S : List ByteArray) (x : Int) : Bool := S.all (fun s => decide ((s.size : Int) = x)) && decide (1 ≤ x ∧ x ≤ 32)
theorem wideB_bad {S : List ByteArray} {x : Int} {m : Nat} (hm : m < S.length) (h : ¬ ((S[m].size : Int) = x)) : wideB S x = false := by
  unfold wideB
  rw [Bool.and_eq_false_iff]
  left
  rw [List.all_eq_false]
  exact ⟨S[m], List.getElem_mem _, by simpa using h⟩
theorem wideB_good {S : List ByteArray} {x : Int} (h : ∀ j (hj : j < S.length), (S[j].size : Int) = x) : wideB S x = decide (1 ≤ x ∧ x ≤ 32) := by
  unfold wideB
  have : S.all (fun s => decide ((s.size : Int) = x)) = true := by
    rw [List.all_eq_true]
    intro s hs
    obtain ⟨j, hj, rfl⟩ := List.getElem_of_mem hs
    simpa using h j hj
  rw [this, Bool.true_and]

def PwR (w : World) (S : List ByteArray) (x : Int) (i : Value) (wr : World) : Prop := ∃ m : Nat, m ≤ S.length ∧ i = .int .i64 m ∧ wr = w ∧ Hid (∀ j (h : j < S.length), j < m → (S[j].size : Int) = x)

set_option maxRecDepth 100000 in
set_option maxHeartbeats 1000000 in
theorem l11Wide_any (v : Value) (g o : Nat) (S : List ByteArray) (x : Int) (w : World) (hv : SS w v g o S) :
    Calls Tryz.prog 112 #[v, .int .i64 x] w fun e w' => e = .returned (.bool (wideB S x)) ∧ w' = w := by
  obtain ⟨R, hR⟩ : ∃ R, wideB S x = R := ⟨_, rfl⟩
  have HR : Hid (wideB S x = R) := hR
  rw [hR]
  obtain ⟨a, cap, rfl, hl, hA, hc⟩ := hv
  obtain ⟨n, hn⟩ : ∃ n, S.length = n := ⟨_, rfl⟩
  have HA : Hid (0 < n → a = some ⟨g, o, none⟩) := by rw [← hn]; exact hA
  have HCC : Hid (∀ j (h : j < S.length), w.cell? ⟨g, o + j, none⟩ = some (.string S[j])) := hc
  have HN : Hid (S.length = n) := hn
  have HST : Hid (PwR w S x (.int .i64 0) w) := ⟨0, by omega, rfl, rfl, fun j _ h => by omega⟩
  rw [hn] at hl ⊢
  clear hA hc hn hR
  go_enter Tryz.func112, Tryz.ntmps112
  go_wp2
  go_loopw [5] (fun i wr => PwR w S x i wr) (fun i _ => n - (intOf i).toNat)
  case atStart => exact HST.out
  case round =>
    obtain ⟨m, hm, rfl, rfl, HI⟩ := hrel
    clear HST
    rw [HN.out] at hm
    by_cases hlt : m < n
    · have ea := HA.out (by omega)
      subst ea
      have c0 := HCC.out m (by rw [HN.out]; exact hlt)
      have HB : Hid (¬ (((S[m]'(by rw [HN.out]; exact hlt)).size : Int) = x) → wideB S x = false) := fun h => wideB_bad _ h
      have HJ : Hid ((((S[m]'(by rw [HN.out]; exact hlt)).size : Int) = x) → ∀ j (h : j < S.length), j < m + 1 → (S[j].size : Int) = x) := fun h j hj hjm => by
        rcases Nat.lt_or_ge j m with h1 | h1
        · exact HI.out j hj h1
        · have : j = m := by omega
          subst this
          exact h
      generalize S[m]'(by rw [HN.out]; exact hlt) = X at *
      have i1 : (m : Int) < (n : Int) := by omega
      have i2 : (0 : Int) ≤ (m : Int) := by omega
      by_cases hk : (X.size : Int) = x
      · have HJ2 : Hid (∀ j (h : j < S.length), j < m + 1 → (S[j].size : Int) = x) := HJ.out hk
        have q : ((X.size : Int) != x) = false := by simpa using hk
        clear HJ HB hk HI HCC
        go_wp2
        go_roundw
        case rel => exact ⟨m + 1, by rw [HN.out]; omega, by go_num, rfl, HJ2⟩
        case measure => simp [intOf]; omega
      · have hRf := HB.out hk
        rw [HR.out] at hRf
        subst hRf
        have q : ((X.size : Int) != x) = true := by simpa using hk
        clear HJ HB hk HI HCC HR
        go_wp2
        go_ret
        exact ⟨rfl, rfl⟩
    · have hme : m = n := by omega
      have hG := wideB_good (S := S) (x := x) (fun j hj => HI.out j hj (by rw [HN.out] at hj; omega))
      rw [HR.out] at hG
      have HG : Hid (decide (1 ≤ x ∧ x ≤ 32) = R) := hG.symm
      clear hG
      have i1 : ¬ (m : Int) < (n : Int) := by omega
      clear HI HCC HR
      go_wp2_with fail
      refine (l01In_any _ _ _ _).mono ?_
      rintro e w2 ⟨rfl, rfl⟩
      rw [HG.out]
      go_wp2
      go_ret
      exact ⟨rfl, rfl⟩

theorem run_rangeP {w : World} {p : Nat} {v1 v2 : Value} (t : TypeId) : (w.alloc (.cells #[v1, v2] t)).cell? ⟨w.heap.size, 0, none⟩ = some v1 ∧ (w.alloc (.cells #[v1, v2] t)).cell? ⟨w.heap.size, 1, none⟩ = some v2 := by
  constructor
  · rw [World.cell?_alloc_at _ _ _ _ rfl]; rfl
  · rw [World.cell?_alloc_at _ _ _ _ rfl]; rfl

end Go.Proofs.YtfojmagcoipbnaaGreatDoor
/-
  What a proof says: the program's and the specification's answers.
-/
namespace Go.Proofs.YtfojmagcoipbnaaGreatDoor
open Go.RowKit Go.BigFrame Go.Sort
set_option linter.unusedVariables false
set_option linter.unusedSimpArgs false

set_option maxRecDepth 100000 in
set_option maxHeartbeats 1000000 in
theorem ProofSays_any (nm : ByteArray) (vb vs : Value) (gb ob : Nat) (B : List Le) (w : World) (hb : RS 2 lcs w vb gb ob B) (hsm : SmallL B) :
    Calls Tryz.prog 15 #[.string nm, .agg #[vb, vs]] w fun e w' => e = .returned (.tuple #[.string (LV.getV B nm), .bool (LV.getB B nm)]) ∧ Below w.heap.size w w' := by
  obtain ⟨p0, p1⟩ := run_rangeP (w := w) (p := 0) (v1 := vb) (v2 := vs) 29
  have hba : Below w.heap.size w (w.alloc (.cells #[vb, vs] 29)) := (Below.refl _ _).alloc (Nat.le_refl _) _
  have h1 := LeafGet_any vb gb ob B nm _ (hb.later hba) hsm
  clear hb hsm
  go_enter Tryz.func15, Tryz.ntmps15
  go_wp2_with fail
  refine h1.mono ?_
  rintro e w1 ⟨rfl, hb1⟩
  go_wp2
  go_ret2
  exact ⟨rfl, hba.trans (hb1.mono hba.size)⟩
set_option maxRecDepth 100000 in
set_option maxHeartbeats 1000000 in
theorem sProofSays_any (nm : ByteArray) (vb vs : Value) (gb ob : Nat) (B : List Le) (w : World) (hb : RS 2 lcs w vb gb ob B) :
    Calls Tryz.prog 109 #[.string nm, .agg #[vb, vs]] w fun e w' => e = .returned (.tuple #[.string (LV.getV B nm), .bool (LV.getB B nm)]) ∧ Below w.heap.size w w' := by
  obtain ⟨p0, p1⟩ := run_rangeP (w := w) (p := 0) (v1 := vb) (v2 := vs) 29
  have hba : Below w.heap.size w (w.alloc (.cells #[vb, vs] 29)) := (Below.refl _ _).alloc (Nat.le_refl _) _
  have h1 := sLeafGet_any vb gb ob B nm _ (hb.later hba)
  clear hb
  go_enter Tryz.func109, Tryz.ntmps109
  go_wp2_with fail
  refine h1.mono ?_
  rintro e w1 ⟨rfl, hb1⟩
  go_wp2
  go_ret2
  exact ⟨rfl, hba.trans (hb1.mono hba.size)⟩

end Go.Proofs.YtfojmagcoipbnaaGreatDoor
/-
  Is a width right? The program's answer.
-/
namespace Go.Proofs.YtfojmagcoipbnaaGreatDoor
open Go.RowKit Go.BigFrame
set_option linter.unusedVariables false

theorem widthOk_any (x : Int) (w : World) : Calls Tryz.prog 76 #[.int .i64 x] w fun e w' => e = .returned (.bool (decide (1 ≤ x ∧ x ≤ 32))) ∧ w' = w := by
  by_cases h1 : 1 ≤ x
  · by_cases h2 : x ≤ 32
    · go_enter Tryz.func76, Tryz.ntmps76
      go_wp2
      go_ret
      exact ⟨by simp [h1, h2], rfl⟩
    · go_enter Tryz.func76, Tryz.ntmps76
      go_wp2
      go_ret
      exact ⟨by simp [h2], rfl⟩
  · go_enter Tryz.func76, Tryz.ntmps76
    go_wp2
    go_ret
    exact ⟨by simp; omega, rfl⟩

end Go.Proofs.YtfojmagcoipbnaaGreatDoor
/-
  Proofs: how wide their sides are, and when these are right: the program's answers.
-/
namespace Go.Proofs.YtfojmagcoipbnaaGreatDoor
open Go.RowKit Go.BigFrame Go.Sort
set_option linter.unusedVariables false
set_option linter.unusedSimpArgs false

def allW (S : List ByteArray) (x : Int) : Bool := S.all (fun s => decide ((s.size : Int) = x))
theorem allW_bad {S : List ByteArray} {x : Int} {m : Nat} (hm : m < S.length) (h : ¬ ((S[m].size : Int) = x)) : allW S x = false := by
  unfold allW
  rw [List.all_eq_false]
  exact ⟨S[m], List.getElem_mem _, by simpa using h⟩
theorem allW_good {S : List ByteArray} {x : Int} (h : ∀ j (hj : j < S.length), (S[j].size : Int) = x) : allW S x = true := by
  unfold allW
  rw [List.all_eq_true]
  intro s hs
  obtain ⟨j, hj, rfl⟩ := List.getElem_of_mem hs
  simpa using h j hj
theorem wideB_all (S : List ByteArray) (x : Int) : wideB S x = (allW S x && decide (1 ≤ x ∧ x ≤ 32)) := rfl

set_option maxRecDepth 100000 in
set_option maxHeartbeats 1000000 in
theorem allWide_any (v : Value) (g o : Nat) (S : List ByteArray) (x : Int) (w : World) (hv : SS w v g o S) :
    Calls Tryz.prog 147 #[v, .int .i64 x] w fun e w' => e = .returned (.bool (allW S x)) ∧ w' = w := by
  obtain ⟨R, hR⟩ : ∃ R, allW S x = R := ⟨_, rfl⟩
  have HR : Hid (allW S x = R) := hR
  rw [hR]
  obtain ⟨a, cap, rfl, hl, hA, hc⟩ := hv
  obtain ⟨n, hn⟩ : ∃ n, S.length = n := ⟨_, rfl⟩
  have HA : Hid (0 < n → a = some ⟨g, o, none⟩) := by rw [← hn]; exact hA
  have HCC : Hid (∀ j (h : j < S.length), w.cell? ⟨g, o + j, none⟩ = some (.string S[j])) := hc
  have HN : Hid (S.length = n) := hn
  have HST : Hid (PwR w S x (.int .i64 0) w) := ⟨0, by omega, rfl, rfl, fun j _ h => by omega⟩
  rw [hn] at hl ⊢
  clear hA hc hn hR
  go_enter Tryz.func147, Tryz.ntmps147
  go_wp2
  go_loopw [9] (fun i wr => PwR w S x i wr) (fun i _ => n - (intOf i).toNat)
  case atStart => exact HST.out
  case round =>
    obtain ⟨m, hm, rfl, rfl, HI⟩ := hrel
    clear HST
    rw [HN.out] at hm
    by_cases hlt : m < n
    · have ea := HA.out (by omega)
      subst ea
      have c0 := HCC.out m (by rw [HN.out]; exact hlt)
      have HB : Hid (¬ (((S[m]'(by rw [HN.out]; exact hlt)).size : Int) = x) → allW S x = false) := fun h => allW_bad _ h
      have HJ : Hid ((((S[m]'(by rw [HN.out]; exact hlt)).size : Int) = x) → ∀ j (h : j < S.length), j < m + 1 → (S[j].size : Int) = x) := fun h j hj hjm => by
        rcases Nat.lt_or_ge j m with h1 | h1
        · exact HI.out j hj h1
        · have : j = m := by omega
          subst this
          exact h
      generalize S[m]'(by rw [HN.out]; exact hlt) = X at *
      have i1 : (m : Int) < (n : Int) := by omega
      have i2 : (0 : Int) ≤ (m : Int) := by omega
      by_cases hk : (X.size : Int) = x
      · have HJ2 : Hid (∀ j (h : j < S.length), j < m + 1 → (S[j].size : Int) = x) := HJ.out hk
        have q : ((X.size : Int) != x) = false := by simpa using hk
        clear HJ HB hk HI HCC
        go_wp2
        go_roundw
        case rel => exact ⟨m + 1, by rw [HN.out]; omega, by go_num, rfl, HJ2⟩
        case measure => simp [intOf]; omega
      · have hRf := HB.out hk
        rw [HR.out] at hRf
        subst hRf
        have q : ((X.size : Int) != x) = true := by simpa using hk
        clear HJ HB hk HI HCC HR
        go_wp2
        try rw [Exit.noGoto_ret]
        go_ret
        exact ⟨rfl, rfl⟩
    · have hme : m = n := by omega
      have hG := allW_good (S := S) (x := x) (fun j hj => HI.out j hj (by rw [HN.out] at hj; omega))
      rw [HR.out] at hG
      subst hG
      have i1 : ¬ (m : Int) < (n : Int) := by omega
      clear HI HCC HR
      go_wp2
      go_ret
      exact ⟨rfl, rfl⟩

/-- are they right sides? -/
def sidB (S : List ByteArray) (x : Int) : Bool := decide (S.length ≤ 8) && wideB S x
set_option maxRecDepth 100000 in
set_option maxHeartbeats 1000000 in
theorem sidesOk_any (v : Value) (g o : Nat) (S : List ByteArray) (x : Int) (w : World) (hv : SS w v g o S) :
    Calls Tryz.prog 82 #[v, .int .i64 x] w fun e w' => e = .returned (.bool (sidB S x)) ∧ w' = w := by
  obtain ⟨R, hR⟩ : ∃ R, sidB S x = R := ⟨_, rfl⟩
  have haw := allWide_any v g o S x w hv
  have e0 : sidB S x = (decide (S.length ≤ 8) && (allW S x && decide (1 ≤ x ∧ x ≤ 32))) := rfl
  rw [hR] at e0 ⊢
  obtain ⟨a, cap, rfl, hl, hz1, hz2⟩ := hv
  clear hR hz1 hz2
  cases h1 : decide (1 ≤ x ∧ x ≤ 32) with
  | false =>
    have hRf : R = false := by rw [e0, h1]; simp
    subst hRf
    clear haw e0
    go_enter Tryz.func82, Tryz.ntmps82
    go_wp2_with fail
    refine (widthOk_any _ _).mono ?_
    rintro e w1 ⟨rfl, rfl⟩
    rw [h1]
    go_wp2
    go_ret
    exact ⟨rfl, rfl⟩
  | true =>
    by_cases h2 : S.length ≤ 8
    · have hRf : R = allW S x := by rw [e0, h1, decide_eq_true h2]; simp
      have i2 : (S.length : Int) ≤ 8 := by omega
      rw [← hRf] at haw
      clear hRf e0
      generalize S.length = n at *
      go_enter Tryz.func82, Tryz.ntmps82
      go_wp2_with fail
      refine (widthOk_any _ _).mono ?_
      rintro e w1 ⟨rfl, rfl⟩
      rw [h1]
      go_wp2_with fail
      refine haw.mono ?_
      rintro e w2 ⟨rfl, rfl⟩
      go_wp2
      go_ret
      exact ⟨rfl, rfl⟩
    · have hRf : R = false := by rw [e0, decide_eq_false h2]; simp
      subst hRf
      have i2 : ¬ (S.length : Int) ≤ 8 := by omega
      clear haw e0
      generalize S.length = n at *
      go_enter Tryz.func82, Tryz.ntmps82
      go_wp2_with fail
      refine (widthOk_any _ _).mono ?_
      rintro e w1 ⟨rfl, rfl⟩
      rw [h1]
      go_wp2
      go_ret
      exact ⟨rfl, rfl⟩

end Go.Proofs.YtfojmagcoipbnaaGreatDoor
