/-
  What EmptyHash answers, the program's and the specification's.
-/
import Derived.Test.YtmhoilliaeefcaaDoorEm
namespace Go.Proofs.YtmhoilliaeefcaaDoor
open Go.RowKit Go.BigFrame
set_option linter.unusedVariables false
set_option linter.unusedSimpArgs false

theorem levelOk_any (x : Int) (w : World) : Calls Tryd.prog 56 #[.int .i64 x] w fun e w' => e = .returned (.bool (decide (0 ≤ x ∧ x ≤ 8))) ∧ w' = w := by
  by_cases h1 : 0 ≤ x
  · by_cases h2 : x ≤ 8
    · go_enter Tryd.func56, Tryd.ntmps56
      go_wp2
      go_ret
      exact ⟨by simp [h1, h2], rfl⟩
    · go_enter Tryd.func56, Tryd.ntmps56
      go_wp2
      go_ret
      exact ⟨by simp [h2], rfl⟩
  · go_enter Tryd.func56, Tryd.ntmps56
    go_wp2
    go_ret
    exact ⟨by simp; omega, rfl⟩

/-- what EmptyHash is -/
def ehB (l x : Int) : ByteArray := if (0 ≤ l ∧ l ≤ 8) ∧ 1 ≤ x ∧ x ≤ 32 then empB x (8 - l.toNat) else ⟨#[]⟩

set_option maxRecDepth 100000 in
theorem EmptyHash_any (l x : Int) (w : World) (hT : Tb w) :
    Calls Tryd.prog 26 #[.int .i64 l, .int .i64 x] w fun e w' => e = .returned (.string (ehB l x)) ∧ Below w.heap.size w w' := by
  unfold ehB
  by_cases h1 : 0 ≤ l ∧ l ≤ 8
  · by_cases h2 : 1 ≤ x ∧ x ≤ 32
    · rw [if_pos ⟨h1, h2⟩]
      have hc := emptyAt_any x (8 - l.toNat) l w (by omega) (by omega) hT
      have d1 : decide (0 ≤ l ∧ l ≤ 8) = true := by simpa using h1
      have d2 : decide (1 ≤ x ∧ x ≤ 32) = true := by simpa using h2
      clear hT h1 h2
      generalize 8 - l.toNat = k at *
      go_enter Tryd.func26, Tryd.ntmps26
      go_wp2_with fail
      refine (levelOk_any _ _).mono ?_
      rintro e w1 ⟨rfl, rfl⟩
      rw [d1]
      go_wp2_with fail
      refine (widthOk_any _ _).mono ?_
      rintro e w1 ⟨rfl, rfl⟩
      rw [d2]
      go_wp2_with fail
      refine hc.mono ?_
      rintro e w1 ⟨v, rfl, he, hb1⟩
      obtain ⟨g, rfl, c1⟩ := he.made
      clear hc he
      go_wp2
      go_ret
      exact ⟨rfl, hb1⟩
    · rw [if_neg (fun h => h2 h.2)]
      have d1 : decide (0 ≤ l ∧ l ≤ 8) = true := by simpa using h1
      have d2 : decide (1 ≤ x ∧ x ≤ 32) = false := by simpa using h2
      clear hT h1 h2
      go_enter Tryd.func26, Tryd.ntmps26
      go_wp2_with fail
      refine (levelOk_any _ _).mono ?_
      rintro e w1 ⟨rfl, rfl⟩
      rw [d1]
      go_wp2_with fail
      refine (widthOk_any _ _).mono ?_
      rintro e w1 ⟨rfl, rfl⟩
      rw [d2]
      go_wp2
      go_ret
      exact ⟨rfl, Below.refl _ _⟩
  · rw [if_neg (fun h => h1 h.1)]
    have d1 : decide (0 ≤ l ∧ l ≤ 8) = false := by simpa using h1
    clear hT h1
    go_enter Tryd.func26, Tryd.ntmps26
    go_wp2_with fail
    refine (levelOk_any _ _).mono ?_
    rintro e w1 ⟨rfl, rfl⟩
    rw [d1]
    go_wp2
    go_ret
    exact ⟨rfl, Below.refl _ _⟩

/-- the specification's row, laid from the last one on down to place m -/
def emL (x : Int) (m : Nat) : List ByteArray := (List.range 9).map fun j => if m ≤ j then empB x (8 - j) else ByteArray.empty
theorem emL_len (x : Int) (m : Nat) : (emL x m).length = 9 := by simp [emL]
theorem emL_at (x : Int) (m j : Nat) (h : j < (emL x m).length) : (emL x m)[j] = if m ≤ j then empB x (8 - j) else ByteArray.empty := by simp [emL]
theorem emL_set (x : Int) (m : Nat) (h : m < 9) : (emL x (m + 1)).set m (empB x (8 - m)) = emL x m := by
  apply List.ext_getElem
  · simp [emL]
  · intro j h1 h2
    rw [List.getElem_set, emL_at, emL_at]
    by_cases e : m = j
    · subst e; simp
    · rw [if_neg e]
      by_cases h3 : m ≤ j
      · rw [if_pos h3, if_pos (by omega)]
      · rw [if_neg h3, if_neg (by omega)]
theorem emL_none (x : Int) : emL x 9 = List.replicate 9 ByteArray.empty := by
  apply List.ext_getElem
  · simp [emL]
  · intro j h1 h2
    rw [emL_at, List.getElem_replicate, if_neg]
    rw [emL_len] at h1
    omega

theorem sTagHash_none (x : Int) (w : World) :
    Hid (Calls Tryd.prog 25 #[.int .i64 1, .slice (some ⟨w.heap.size, 0, none⟩) 0 0, .int .i64 x] (w.alloc (.cells #[] 9)) fun e w' => e = .returned (.string (hashB 1 [] x)) ∧ Below w.heap.size w w') :=
  sTagHash_w x 1 [] 0 #[] w _ rfl rfl (by omega) rfl

def ErR (x : Int) (w : World) (i : Value) (wr : World) : Prop := ∃ m : Nat, m ≤ 8 ∧ i = .int .i64 ((m : Int) - 1) ∧ TB wr w.heap.size (emL x m) ∧ Below w.heap.size w wr

set_option maxRecDepth 100000 in
set_option maxHeartbeats 1000000 in
theorem l10Empties_any (x : Int) (w : World) :
    Calls Tryd.prog 77 #[.int .i64 x] w fun e w' => ∃ g, e = .returned (.slice (some ⟨g, 0, none⟩) 9 9) ∧ w.heap.size ≤ g ∧ TB w' g (emL x 0) ∧ Below w.heap.size w w' := by
  obtain ⟨w2, hmk0, hib, hb2, hs2⟩ := TB.made 9 (by omega) w
  have hmk : (Instr.makeSlice 30 (.int .i64 9) (.int .i64 9)).run Tryd.prog w = .ok (.slice (some ⟨w.heap.size, 0, none⟩) 9 9) w2 := hmk0
  rw [← emL_none x] at hib
  have hc := sTagHash_none x w2
  rw [← empB_zero] at hc
  have hlt2 : w.heap.size < w2.heap.size := by omega
  clear hmk0 hs2
  go_enter Tryd.func77, Tryd.ntmps77
  go_wp2_with fail
  refine hc.out.mono ?_
  rintro e w3 ⟨rfl, hb3⟩
  have hib3 := hib.below hb3 hlt2
  have c0 := hib3.cell 8 (by rw [emL_len]; omega)
  have f0 := hib3.frozen 8
  have hs3 := hib3.set 8 (by rw [emL_len]; omega) (empB x 0)
  have e8 := emL_set x 8 (by omega)
  have e9 : empB x (8 - 8) = empB x 0 := rfl
  rw [e9] at e8
  rw [e8] at hs3
  have HST : Hid (ErR x w (.int .i64 7) (w3.setCell ⟨w.heap.size, 8, none⟩ (.string (empB x 0)))) := ⟨8, by omega, rfl, hs3, ((hb2.trans (hb3.mono (by omega))).setCell (p := ⟨w.heap.size, 8, none⟩) (Nat.le_refl _) _)⟩
  generalize (emL x 9)[8]'(by rw [emL_len]; omega) = Y at *
  clear hib hib3 hs3 e8 e9 hc hb2 hb3 hmk hlt2
  generalize empB x 0 = Z at *
  go_wp2
  clear c0 f0
  go_loopw [4] (fun i wr => ErR x w i wr) (fun i _ => (intOf i + 1).toNat)
  case atStart => exact HST.out
  case round =>
    obtain ⟨m, hm, rfl, hib, hbel⟩ := hrel
    clear HST
    by_cases hlt : 0 < m
    · have hlen : (emL x m).length = 9 := emL_len x m
      have c1 := hib.cell m (by omega)
      rw [emL_at, if_pos (Nat.le_refl _)] at c1
      have hlt2 : w.heap.size < wr.heap.size := hib.lt
      have HCT := sTagHash_wd x 3 [empB x (8 - m), empB x (8 - m)] 2 #[.string (empB x (8 - m)), .string (empB x (8 - m))] wr _ rfl rfl (by omega) rfl
      rw [← empB_up] at HCT
      have e1 : 8 - m + 1 = 8 - (m - 1) := by omega
      rw [e1] at HCT
      have HS : Hid (∀ w2, Below wr.heap.size wr w2 → ErR x w (.int .i64 ((m : Int) - 1 - 1)) (w2.setCell ⟨w.heap.size, m - 1, none⟩ (.string (empB x (8 - (m - 1))))) ) := fun w2 hb => by
        have h1 := (hib.below hb hlt2).set (m - 1) (by omega) (empB x (8 - (m - 1)))
        have e2 : m = m - 1 + 1 := by omega
        have e3 := emL_set x (m - 1) (by omega)
        rw [← e2] at e3
        rw [e3] at h1
        exact ⟨m - 1, by omega, by congr 1; omega, h1, ((hbel.trans (hb.mono hbel.size)).setCell (p := ⟨w.heap.size, m - 1, none⟩) (Nat.le_refl _) _)⟩
      have HC0 : Hid (∀ w2, Below wr.heap.size wr w2 → ∃ Y, w2.cell? ⟨w.heap.size, m - 1, none⟩ = some (.string Y) ∧ w2.frozen? ⟨w.heap.size, m - 1, none⟩ = false) := fun w2 hb => by
        have h1 := hib.below hb hlt2
        exact ⟨_, h1.cell (m - 1) (by omega), h1.frozen _⟩
      have i1 : (0 : Int) ≤ (m : Int) - 1 := by omega
      have i2 : (m : Int) - 1 + 1 = (m : Int) := by omega
      have t1 : ((m : Int) - 1).toNat = m - 1 := by omega
      have t2 : (m : Int).toNat = m := by omega
      have i3 : (m : Int) - 1 < 9 := by omega
      have i4 : (m : Int) < 9 := by omega
      have HSK : Hid (∀ w2, Below wr.heap.size wr w2 → (w2.setCell ⟨w.heap.size, m - 1, none⟩ (.string (empB x (8 - (m - 1))))).cell? ⟨w.heap.size, m, none⟩ = some (.string (empB x (8 - m)))) := fun w2 hb => by
        have h1 := (hib.below hb hlt2).set (m - 1) (by omega) (empB x (8 - (m - 1)))
        have h2 := h1.cell m (by rw [List.length_set]; omega)
        rw [List.getElem_set_ne (by omega), emL_at, if_pos (Nat.le_refl _)] at h2
        exact h2
      have a2 : IntKind.i64.wrap ((m : Int) - 1 + 1) = (m : Int) := by rw [i2]; exact IntWalk.i64_in _ (by omega)
      have a3 : IntKind.i64.wrap (m : Int) = (m : Int) := IntWalk.i64_in _ (by omega)
      have i5 : (0 : Int) ≤ (m : Int) := by omega
      clear i2
      generalize empB x (8 - (m - 1)) = F at *
      generalize empB x (8 - m) = E at *
      clear hib hbel hlen e1
      go_wp2
      go_region_held3 (fun W => W.cell? ⟨w.heap.size, m, none⟩ = some (.string E)) (first | go_keep | exact (hb1.cell (p := ⟨w.heap.size, m, none⟩) hlt2).trans c1 | exact HSK.out _ hb1) ((go_at_call 25; refine HCT.out.mono ?_; rintro e w1 ⟨rfl, hb1⟩; obtain ⟨Y0, c0, f0⟩ := HC0.out _ hb1))
      have HN := HS.out _ hb1
      have HNH : Hid (ErR x w (.int .i64 ((m : Int) - 1 - 1)) (w1.setCell ⟨w.heap.size, m - 1, none⟩ (.string F))) := HN
      clear HN HS HSK HC0
      go_wp2
      go_roundw
      case rel => exact HNH.out
      case measure => simp [intOf]; omega
    · have hme : m = 0 := by omega
      subst hme
      have HF : Hid (TB wr w.heap.size (emL x 0) ∧ Below w.heap.size w wr) := ⟨hib, hbel⟩
      clear hib hbel
      go_wp2
      go_ret
      exact ⟨_, rfl, Nat.le_refl _, HF.out⟩

set_option maxRecDepth 100000 in
theorem sEmptyHash_any (l x : Int) (w : World) :
    Calls Tryd.prog 36 #[.int .i64 l, .int .i64 x] w fun e w' => e = .returned (.string (ehB l x)) ∧ Below w.heap.size w w' := by
  unfold ehB
  by_cases h1 : 0 ≤ l ∧ l ≤ 8
  · by_cases h2 : 1 ≤ x ∧ x ≤ 32
    · rw [if_pos ⟨h1, h2⟩]
      have hc := l10Empties_any x w
      have d1 : decide (0 ≤ l ∧ l ≤ 8) = true := by simpa using h1
      have d2 : decide (1 ≤ x ∧ x ≤ 32) = true := by simpa using h2
      have i1 := h1.1
      have i2 : l < 9 := by omega
      clear h1 h2
      go_enter Tryd.func36, Tryd.ntmps36
      go_wp2_with fail
      refine (l01In_any _ _ _ _).mono ?_
      rintro e w1 ⟨rfl, rfl⟩
      rw [d1]
      go_wp2_with fail
      refine (l01In_any _ _ _ _).mono ?_
      rintro e w1 ⟨rfl, rfl⟩
      rw [d2]
      go_wp2_with fail
      refine hc.mono ?_
      rintro e w1 ⟨g, rfl, hg, htb, hb1⟩
      have c1 := htb.cell l.toNat (by rw [emL_len]; omega)
      rw [emL_at, if_pos (Nat.zero_le _)] at c1
      clear hc htb
      go_wp2
      go_ret
      exact ⟨rfl, hb1⟩
    · rw [if_neg (fun h => h2 h.2)]
      have d1 : decide (0 ≤ l ∧ l ≤ 8) = true := by simpa using h1
      have d2 : decide (1 ≤ x ∧ x ≤ 32) = false := by simpa using h2
      clear h1 h2
      go_enter Tryd.func36, Tryd.ntmps36
      go_wp2_with fail
      refine (l01In_any _ _ _ _).mono ?_
      rintro e w1 ⟨rfl, rfl⟩
      rw [d1]
      go_wp2_with fail
      refine (l01In_any _ _ _ _).mono ?_
      rintro e w1 ⟨rfl, rfl⟩
      rw [d2]
      go_wp2
      go_ret
      exact ⟨rfl, Below.refl _ _⟩
  · rw [if_neg (fun h => h1 h.1)]
    have d1 : decide (0 ≤ l ∧ l ≤ 8) = false := by simpa using h1
    clear h1
    go_enter Tryd.func36, Tryd.ntmps36
    go_wp2_with fail
    refine (l01In_any _ _ _ _).mono ?_
    rintro e w1 ⟨rfl, rfl⟩
    rw [d1]
    go_wp2
    go_ret
    exact ⟨rfl, Below.refl _ _⟩

end Go.Proofs.YtmhoilliaeefcaaDoor
