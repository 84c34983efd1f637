/-
  What BucketHash answers, the program's and the specification's.
-/
import Derived.Test.YtmhoilliaeefcaaDoorBt
import Derived.Test.YtmhoilliaeefcaaDoorTbl
namespace Go.Proofs.YtmhoilliaeefcaaDoor
open Go.RowKit Go.BigFrame Go.Sort
set_option linter.unusedVariables false
set_option linter.unusedSimpArgs false

open TR (bkp bkp_len)
/-- what BucketHash is -/
noncomputable def bhB (x : Int) (L : List Le) : ByteArray := if LV.leavesB L then cutH (btB L) x else ⟨#[]⟩
theorem bhB_yes {x : Int} {L : List Le} (h : LV.leavesB L = true) : bhB x L = cutH (btB L) x := by unfold bhB; rw [h]; rfl
theorem bhB_no {x : Int} {L : List Le} (h : LV.leavesB L = false) : bhB x L = ⟨#[]⟩ := by unfold bhB; rw [h]; rfl
theorem btB_size (L : List Le) : (btB L).size ≤ 12601 := by
  unfold btB
  split <;> exact tagB_size _ _
theorem BucketHash_any (v : Value) (ga oa : Nat) (L : List Le) (x : Int) (w : World) (hv : RS 2 lcs w v ga oa L) (hsm : SmallL L) (hT : Tb w) :
    Calls Tryd.prog 18 #[v, .int .i64 x] w fun e w' => e = .returned (.string (bhB x L)) ∧ Below w.heap.size w w' := by
  have hc := BucketText_any v ga oa L w hv hsm
  obtain ⟨a, cap, rfl, _⟩ := hv
  cases hR : LV.leavesB L with
  | false =>
    rw [bhB_no hR]
    rw [hR, btA_no hR] at hc
    clear hsm hT
    go_enter Tryd.func18, Tryd.ntmps18
    go_wp2_with fail
    refine hc.mono ?_
    rintro e w1 ⟨rfl, hb1⟩
    go_wp2
    go_ret
    exact ⟨rfl, hb1⟩
  | true =>
    rw [bhB_yes hR]
    rw [hR, btA_yes hR] at hc
    have HC : Hid (∀ w1, Below w.heap.size w w1 → Calls Tryd.prog 60 #[.string (btB L), .int .i64 x] w1 fun e w' => e = .returned (.string (cutH (btB L) x)) ∧ Below w.heap.size w w') := fun w1 hb => by
      have hT1 := hT.later hb
      exact (CutDigest_any (btB L) x w1 (Nat.le_trans (btB_size L) (by omega)) hT1.1 hT1.2).mono fun e w' ⟨he, h⟩ => ⟨he, hb.trans (h.mono hb.size)⟩
    generalize cutH (btB L) x = T at *
    generalize btB L = S at *
    clear hsm hT
    go_enter Tryd.func18, Tryd.ntmps18
    go_wp2_with fail
    refine hc.mono ?_
    rintro e w1 ⟨rfl, hb1⟩
    clear hc
    go_wp2_with fail
    refine (HC.out _ hb1).mono ?_
    rintro e w2 ⟨rfl, hb2⟩
    go_wp2
    go_ret
    exact ⟨rfl, hb2⟩
theorem sBucketHash_any (v : Value) (ga oa : Nat) (L : List Le) (x : Int) (w : World) (hv : RS 2 lcs w v ga oa L) (hsm : SmallL L) :
    Calls Tryd.prog 38 #[v, .int .i64 x] w fun e w' => e = .returned (.string (bhB x L)) ∧ Below w.heap.size w w' := by
  have hc := sBucketText_any v ga oa L w hv hsm
  obtain ⟨a, cap, rfl, _⟩ := hv
  cases hR : LV.leavesB L with
  | false =>
    rw [bhB_no hR]
    rw [hR, btA_no hR] at hc
    clear hsm
    go_enter Tryd.func38, Tryd.ntmps38
    go_wp2_with fail
    refine hc.mono ?_
    rintro e w1 ⟨rfl, hb1⟩
    go_wp2
    go_ret
    exact ⟨rfl, hb1⟩
  | true =>
    rw [bhB_yes hR]
    rw [hR, btA_yes hR] at hc
    have HC : Hid (∀ w1, Below w.heap.size w w1 → Calls Tryd.prog 70 #[.string (btB L), .int .i64 x] w1 fun e w' => e = .returned (.string (cutH (btB L) x)) ∧ Below w.heap.size w w') := fun w1 hb =>
      (sCutDigest_any (btB L) x w1 (Nat.le_trans (btB_size L) (by omega))).mono fun e w' ⟨he, h⟩ => ⟨he, hb.trans (h.mono hb.size)⟩
    generalize cutH (btB L) x = T at *
    generalize btB L = S at *
    clear hsm
    go_enter Tryd.func38, Tryd.ntmps38
    go_wp2_with fail
    refine hc.mono ?_
    rintro e w1 ⟨rfl, hb1⟩
    clear hc
    go_wp2_with fail
    refine (HC.out _ hb1).mono ?_
    rintro e w2 ⟨rfl, hb2⟩
    go_wp2
    go_ret
    exact ⟨rfl, hb2⟩

end Go.Proofs.YtmhoilliaeefcaaDoor
