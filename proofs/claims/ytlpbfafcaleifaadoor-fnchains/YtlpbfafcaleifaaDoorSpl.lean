/-
  A text that is spoilt by a draw: some text, at most a byte longer.
-/
import Derived.Test.YtlpbfafcaleifaaDoorPkG
import Derived.Deep.RegionLaw
import Derived.Deep.CutRange
import Derived.Deep.RegionHeld
namespace Go.Proofs.YtlpbfafcaleifaaDoor
open Go.RowKit
set_option linter.unusedVariables false
set_option linter.unusedSimpArgs false

/-- what is spoilt is some text, at most a byte longer -/
def SpP (B : Nat) (w0 w : World) (g : Nat) (v : Value) (n : Nat) (e : Ending) (w' : World) : Prop := ∃ y : ByteArray, e = .returned (.string y) ∧ y.size ≤ n + 1 ∧ Cur B w0 w' g v ∧ w.grownBy w' (some g)
theorem run_front (b : ByteArray) (x : Int) (j : Nat) (hx : x = (j : Int)) (hj : j ≤ b.size) (W : World) : (Instr.slice 9 (.string b) none (some (.int .i64 x)) none).run Tryd.prog W = .ok (.string (b.extract 0 j)) W := by
  subst hx
  have h1 : ¬ ((j : Int) < 0) := by omega
  go_simp
theorem run_back (b : ByteArray) (x : Int) (j : Nat) (hx : x = (j : Int)) (hj : j ≤ b.size) (W : World) : (Instr.slice 9 (.string b) (some (.int .i64 x)) none none).run Tryd.prog W = .ok (.string (b.extract j b.size)) W := by
  subst hx
  have h1 : ¬ ((j : Int) < 0) := by omega
  go_simp

set_option maxRecDepth 100000 in
set_option maxHeartbeats 1000000 in
theorem l02Spoilt_in (B : Nat) (w0 w : World) (g : Nat) (v : Value) (s : ByteArray) (hc : Cur B w0 w g v) (hs : s.size ≤ 4000000) :
    Calls Tryd.prog 45 #[.pointer (some ⟨g, 0, none⟩), .string s] w (SpP B w0 w g v s.size) := by
  go_enter Tryd.func45, Tryd.ntmps45
  go_wp2_with fail
  refine (l01Below_in B w0 _ g v 12 12 rfl hc (by omega) (by omega)).mono ?_
  rintro e w1 ⟨k, hk, rfl, hc1, hg1⟩
  clear hc
  have hkk : k = 0 ∨ k = 1 ∨ (k = 2 ∨ k = 3) ∨ (¬ (k : Int) = 0 ∧ ¬ (k : Int) = 1 ∧ ¬ (k : Int) = 2 ∧ ¬ (k : Int) = 3) := by omega
  have HF : Hid (SpP B w0 w g v s.size (.returned (.string s)) w1) := ⟨s, rfl, by omega, hc1, hg1⟩
  rcases hkk with rfl | rfl | hk2 | ⟨h0, h1, h2, h3⟩
  · go_wp2_with fail
    refine (l01Text_in B w0 _ g v 1 1 rfl hc1 (by omega)).mono ?_
    rintro e w2 ⟨l, hl, rfl, hc2, hg2⟩
    have hlz : (⟨l.toArray⟩ : ByteArray).size = 1 := by show l.toArray.size = 1; simpa using hl
    generalize (⟨l.toArray⟩ : ByteArray) = T at *
    have HG : Hid (SpP B w0 w g v s.size (.returned (.string (s ++ T))) w2) := ⟨_, rfl, by rw [ByteArray.size_append]; omega, hc2, hg1.trans hg2⟩
    clear HF hc1 hc2 hg1 hg2
    go_wp2
    go_ret
    exact HG.out
  · go_wp2_with fail
    refine (l01Below_in B w0 _ g v ((s.size : Int) + 1) (s.size + 1) (by omega) hc1 (by omega) (by omega)).mono ?_
    rintro e w2 ⟨j, hj, rfl, hc2, hg2⟩
    have hr := run_front s j j rfl (by omega)
    have HG : Hid (SpP B w0 w g v s.size (.returned (.string (s.extract 0 j))) w2) := ⟨_, rfl, by rw [ByteArray.size_extract]; omega, hc2, hg1.trans hg2⟩
    clear HF hc1 hc2 hg1 hg2
    go_wp2
    go_ret
    exact HG.out
  · by_cases hs0 : s.size = 0
    · have i0 : ¬ (0 : Int) < (s.size : Int) := by omega
      clear hc1 hg1
      rcases hk2 with rfl | rfl
      · go_wp2
        go_ret
        exact HF.out
      · go_wp2
        go_ret
        exact HF.out
    · have i0 : (0 : Int) < (s.size : Int) := by omega
      have HB : Hid (Calls Tryd.prog 36 #[.pointer (some ⟨g, 0, none⟩), .int .i64 s.size] w1 fun e w' => ∃ x : Nat, x < s.size ∧ e = .returned (.int .i64 x) ∧ Cur B w0 w' g v ∧ w1.grownBy w' (some g)) := l01Below_in B w0 _ g v s.size s.size rfl hc1 (by omega) (by omega)
      clear hc1
      rcases hk2 with rfl | rfl
      all_goals
        clear HF
        go_wp2_with fail
        refine HB.out.mono ?_
        rintro e w2 ⟨j, hj, rfl, hc2, hg2⟩
        have hr := run_front s j j rfl (by omega)
        have hr2 := run_back s ((j : Int) + 1) (j + 1) (by omega) (by omega)
        have HG : Hid (∀ T w3, T.size = 1 → Cur B w0 w3 g v → w2.grownBy w3 (some g) → SpP B w0 w g v s.size (.returned (.string (s.extract 0 j ++ T ++ s.extract (j + 1) s.size))) w3) := fun T w3 hT hc3 hg3 => ⟨_, rfl, by rw [ByteArray.size_append, ByteArray.size_append, ByteArray.size_extract, ByteArray.size_extract]; omega, hc3, (hg1.trans hg2).trans hg3⟩
        clear hg1 hg2
        have HT : Hid (Calls Tryd.prog 58 #[.pointer (some ⟨g, 0, none⟩), .int .i64 1] w2.drew fun e w' => ∃ T : ByteArray, T.size = 1 ∧ e = .returned (.string T) ∧ Cur B w0 w' g v ∧ w2.grownBy w' (some g)) := by
          refine (l01Text_in B w0 _ g v 1 1 rfl (hc2.drn 1) (by omega)).mono ?_
          rintro e w3 ⟨l, hl, rfl, hc3, hg3⟩
          exact ⟨_, by show l.toArray.size = 1; simpa using hl, rfl, hc3, ⟨hg3.os, hg3.tape, hg3.output, hg3.size, hg3.block⟩⟩
        clear hc2
        go_wp2
        refine wp_region_held_drew (S := fun _ => True) (by kernel_rfl) trivial (fun hH => ?_)
        refine wpAnyH_take (i := 0) (v := .string s) rfl (by kernel_rfl) (by kernel_rfl) (by kernel_rfl) (fun _ _ _ h => h) (Or.inl ⟨by rfl, fun w hw => by go_simp⟩) hH ?_
        simp only [Act.put, List.setIfInBounds_toArray, List.set_cons_zero, List.set_cons_succ]
        refine wpAnyH_take (i := 1) (v := .int .i64 (j : Int)) rfl (by kernel_rfl) (by kernel_rfl) (by kernel_rfl) (fun _ _ _ h => h) (Or.inl ⟨by rfl, fun w hw => by go_simp⟩) hH ?_
        simp only [Act.put, List.setIfInBounds_toArray, List.set_cons_zero, List.set_cons_succ]
        refine wpAnyH_take (i := 2) (v := .string (s.extract 0 j)) rfl (by kernel_rfl) (by kernel_rfl) (by kernel_rfl) (fun _ _ _ h => h) (Or.inl ⟨by rfl, fun w hw => by go_simp⟩) hH ?_
        simp only [Act.put, List.setIfInBounds_toArray, List.set_cons_zero, List.set_cons_succ]
        refine wpAnyH_take (i := 3) (v := .pointer (some ⟨g, 0, none⟩)) rfl (by kernel_rfl) (by kernel_rfl) (by kernel_rfl) (fun _ _ _ h => h) (Or.inl ⟨by rfl, fun w hw => by go_simp⟩) hH ?_
        simp only [Act.put, List.setIfInBounds_toArray, List.set_cons_zero, List.set_cons_succ]
        refine wpAnyH_take (i := 6) (v := .string s) rfl (by kernel_rfl) (by kernel_rfl) (by kernel_rfl) (fun _ _ _ h => h) (Or.inl ⟨by rfl, fun w hw => by go_simp⟩) hH ?_
        simp only [Act.put, List.setIfInBounds_toArray, List.set_cons_zero, List.set_cons_succ]
        refine wpAnyH_take (i := 7) (v := .int .i64 (j : Int)) rfl (by kernel_rfl) (by kernel_rfl) (by kernel_rfl) (fun _ _ _ h => h) (Or.inl ⟨by rfl, fun w hw => by go_simp⟩) hH ?_
        simp only [Act.put, List.setIfInBounds_toArray, List.set_cons_zero, List.set_cons_succ]
        refine wpAnyH_take (i := 8) (v := .int .i64 ((j : Int) + 1)) rfl (by kernel_rfl) (by kernel_rfl) (by kernel_rfl) (fun _ _ _ h => h) (Or.inl ⟨by rfl, fun w hw => by go_simp; exact IntWalk.i64_in _ (by omega)⟩) hH ?_
        simp only [Act.put, List.setIfInBounds_toArray, List.set_cons_zero, List.set_cons_succ]
        refine wpAnyH_take (i := 9) (v := .string (s.extract (j + 1) s.size)) rfl (by kernel_rfl) (by kernel_rfl) (by kernel_rfl) (fun _ _ _ h => h) (Or.inl ⟨by rfl, fun w hw => by go_simp⟩) hH ?_
        simp only [Act.put, List.setIfInBounds_toArray, List.set_cons_zero, List.set_cons_succ]
        refine wpAnyH_ready (rs := [4]) (by kernel_rfl) (by simp) ?_
        refine AllReadyH.cons rfl (fun K' hK' => ?_) AllReadyH.nil
        go_simp
        go_at_call 58
        refine HT.out.mono ?_
        rintro e w3 ⟨T, hT, rfl, hc3, hg3⟩
        go_wp2_with fail
        refine hK'.out _ _ trivial (fun hH => ?_)
        clear hK' K'
        try simp only [Act.put, List.setIfInBounds_toArray, List.set_cons_zero, List.set_cons_succ]
        have HG2 := HG.out T w3 hT hc3 hg3
        clear HG HT hc3 hg3
        refine wpAnyH_take (i := 5) (v := .string (s.extract 0 j ++ T)) rfl (by kernel_rfl) (by kernel_rfl) (by kernel_rfl) (fun _ _ _ h => h) (Or.inl ⟨by rfl, fun w hw => by go_simp; omega⟩) hH ?_
        simp only [Act.put, List.setIfInBounds_toArray, List.set_cons_zero, List.set_cons_succ]
        refine wpAnyH_take (i := 10) (v := .string (s.extract 0 j ++ T ++ s.extract (j + 1) s.size)) rfl (by kernel_rfl) (by kernel_rfl) (by kernel_rfl) (fun _ _ _ h => h) (Or.inl ⟨by rfl, fun w hw => by go_simp; omega⟩) hH ?_
        simp only [Act.put, List.setIfInBounds_toArray, List.set_cons_zero, List.set_cons_succ]
        refine wpAnyH_ready (rs := [11]) (by kernel_rfl) (by simp) ?_
        refine AllReadyH.cons rfl (fun K' hK' => ?_) AllReadyH.nil
        go_simp
        refine hK'.out _ _ trivial (fun hH => ?_)
        clear hK' K'
        try simp only [Act.put, List.setIfInBounds_toArray, List.set_cons_zero, List.set_cons_succ]
        refine wpAnyH_done (by kernel_rfl) ?_ _
        go_wp2_with fail
        go_ret
        exact HG2
  · clear hc1 hg1
    go_wp2
    go_ret
    exact HF.out

end Go.Proofs.YtlpbfafcaleifaaDoor
