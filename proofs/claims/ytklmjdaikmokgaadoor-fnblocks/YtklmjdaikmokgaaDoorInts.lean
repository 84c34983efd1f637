/-
  Rows of numbers: two compared, one marked, one held against its marks.
-/
import Derived.Test.YtklmjdaikmokgaaDoorBegin
import Derived.Test.YtklmjdaikmokgaaDoorPlaces
namespace Go.Proofs.YtklmjdaikmokgaaDoor
open Go.RowKit Go.BigFrame
set_option linter.unusedVariables false

/-- v reads as the numbers l, which lie in block g from place o on -/
def SV (w : World) (v : Value) (g o : Nat) (l : List Int) : Prop :=
  ∃ a cap, v = .slice a l.length cap ∧ l.length ≤ 1100000 ∧ (0 < l.length → a = some ⟨g, o, none⟩) ∧ ∀ j (h : j < l.length), w.cell? ⟨g, o + j, none⟩ = some (.int .i64 l[j])

theorem SV.below {w w' : World} {v : Value} {g o B : Nat} {l : List Int} (h : SV w v g o l) (hb : Below B w w') (hg : g < B) : SV w' v g o l := by
  obtain ⟨a, cap, h1, h2, h3, h4⟩ := h
  exact ⟨a, cap, h1, h2, h3, fun j hj => (hb.cell (p := ⟨g, o + j, none⟩) hg).trans (h4 j hj)⟩
theorem SV.drewN {w : World} {v : Value} {g o : Nat} {l : List Int} (h : SV w v g o l) (n : Nat) : SV (w.drewN n) v g o l := h

def EqR (n : Nat) (w : World) (i : Value) (wr : World) : Prop := ∃ m q : Nat, m ≤ n ∧ i = .int .i64 m ∧ wr = w.drewN q

theorem drew0 (w : World) : w = w.drewN 0 := rfl

set_option maxRecDepth 100000 in
set_option maxHeartbeats 400000 in
theorem eqIntS_yes (va vb : Value) (ga oa gb ob : Nat) (l : List Int) (w : World) (ha : SV w va ga oa l) (hb : SV w vb gb ob l) :
    Calls Tryd.prog 26 #[va, vb] w fun e w' => e = .returned (.bool true) ∧ ∃ q, w' = w.drewN q := by
  obtain ⟨a, ca, rfl, hl, hA, hcA⟩ := ha
  obtain ⟨b, cb, rfl, _, hB, hcB⟩ := hb
  obtain ⟨n, hn⟩ : ∃ n, l.length = n := ⟨_, rfl⟩
  rw [hn] at hl ⊢
  have HA : Hid (0 < n → a = some ⟨ga, oa, none⟩) := by rw [← hn]; exact hA
  have HB : Hid (0 < n → b = some ⟨gb, ob, none⟩) := by rw [← hn]; exact hB
  clear hA hB
  go_enter Tryd.func26, Tryd.ntmps26
  go_wp2
  go_loopw [5] (fun i wr => EqR n w i wr) (fun i _ => n - (intOf i).toNat)
  case atStart => exact ⟨0, 0, by omega, rfl, rfl⟩
  case round =>
    obtain ⟨m, q, hm, rfl, rfl⟩ := hrel
    by_cases hlt : m < n
    · have ea := HA.out (by omega)
      have eb := HB.out (by omega)
      subst ea
      subst eb
      have c1 := hcA m (by omega)
      have c2 := hcB m (by omega)
      generalize l[m]'(by omega) = X at *
      have i1 : (m : Int) < (n : Int) := by omega
      have i2 : (0 : Int) ≤ (m : Int) := by omega
      clear hcA hcB HA HB
      go_wp2
      refine wp_region_quiet_lit (by kernel_rfl) (by kernel_rfl) ?_
      iterate 9 go_big_quiet_step (fail)
      refine wpQuiet_nil ?_
      rintro _ ⟨q1, rfl⟩
      go_wp2
      go_roundw
      case rel => exact ⟨m + 1, q + q1, by omega, by go_num, by first | rfl | rw [World.drewN_drewN]⟩
      case measure => simp [intOf]; omega
    · have hme : m = n := by omega
      subst hme
      clear hcA hcB HA HB
      go_wp2
      go_ret
      exact ⟨rfl, q, rfl⟩

/-- block g begins with the numbers l, and may be written -/
def IB (w : World) (g : Nat) (l : List Int) : Prop := ∃ cur, w.heap[g]? = some (.cells cur 3 (0, 0)) ∧ ∀ j (h : j < l.length), cur[j]? = some (.int .i64 l[j])
theorem IB.cell {w : World} {g : Nat} {l : List Int} (h : IB w g l) (j : Nat) (hj : j < l.length) : w.cell? ⟨g, j, none⟩ = some (.int .i64 l[j]) := by
  obtain ⟨cur, h1, h2⟩ := h
  rw [cell_of_row w g j cur 3 (0, 0) h1]
  exact h2 j hj
theorem IB.frozen {w : World} {g : Nat} {l : List Int} (h : IB w g l) (j : Nat) : w.frozen? ⟨g, j, none⟩ = false := by
  obtain ⟨cur, h1, h2⟩ := h
  simp [World.frozen?, h1]
theorem IB.lt {w : World} {g : Nat} {l : List Int} (h : IB w g l) : g < w.heap.size := by
  obtain ⟨cur, h1, h2⟩ := h
  exact (Array.getElem?_eq_some_iff.1 h1).1
theorem IB.set {w : World} {g : Nat} {l : List Int} (h : IB w g l) (i : Nat) (hi : i < l.length) (x : Int) : IB (w.setCell ⟨g, i, none⟩ (.int .i64 x)) g (l.set i x) := by
  obtain ⟨cur, h1, h2⟩ := h
  have hc := h2 i hi
  have his : i < cur.size := (Array.getElem?_eq_some_iff.1 hc).1
  refine ⟨_, heap_setCell_same w g i cur 3 _ h1, fun j hj => ?_⟩
  have hj' : j < l.length := by simpa using hj
  rw [Array.getElem?_setIfInBounds]
  by_cases he : i = j
  · subst he
    simp [his]
  · rw [if_neg he, h2 j hj']
    simp [List.getElem_set_ne he]
theorem IB.below {w w' : World} {g B : Nat} {l : List Int} (h : IB w g l) (hb : Below B w w') (hg : g < B) : IB w' g l := by
  obtain ⟨cur, h1, h2⟩ := h
  exact ⟨cur, by rw [hb.block g hg]; exact h1, h2⟩
theorem IB.sv {w : World} {g : Nat} {l : List Int} (h : IB w g l) (cap n : Nat) (hn : l.length = n) (hl : n ≤ 1100000) : SV w (.slice (some ⟨g, 0, none⟩) n cap) g 0 l := by
  subst hn
  exact ⟨_, cap, rfl, hl, fun _ => rfl, fun j hj => by rw [Nat.zero_add]; exact h.cell j hj⟩

/-- the marks from 1 on -/
def marks (n : Nat) : List Int := (List.range n).map (fun j : Nat => (j : Int) + 1)
theorem marks_len (n : Nat) : (marks n).length = n := by simp [marks]
theorem marks_at (n j : Nat) (h : j < (marks n).length) : (marks n)[j] = (j : Int) + 1 := by simp [marks]
def mrow (l : List Int) (m : Nat) : List Int := marks m ++ l.drop m
theorem mrow_len (l : List Int) (m : Nat) (h : m ≤ l.length) : (mrow l m).length = l.length := by
  unfold mrow
  rw [List.length_append, marks_len, List.length_drop]
  omega
theorem mrow_step (l : List Int) (m : Nat) (h : m < l.length) : (mrow l m).set m ((m : Int) + 1) = mrow l (m + 1) := by
  unfold mrow
  have e : marks (m + 1) = marks m ++ [(m : Int) + 1] := by simp [marks, List.range_succ]
  rw [e, List.set_append_right _ _ (by rw [marks_len]; exact Nat.le_refl _), marks_len, Nat.sub_self, List.drop_eq_getElem_cons h]
  rw [List.set_cons_zero, List.append_assoc]
  rfl
theorem mrow_all (l : List Int) : mrow l l.length = marks l.length := by simp [mrow]

def MkR (l : List Int) (w : World) (g B : Nat) (k i : Value) (wr : World) : Prop := ∃ m : Nat, m ≤ l.length ∧ i = .int .i64 m ∧ k = .int .i64 ((m : Int) + 1) ∧ IB wr g (mrow l m) ∧ Below B w wr

set_option maxRecDepth 100000 in
set_option maxHeartbeats 400000 in
theorem markIntS_any (g cap n B : Nat) (l : List Int) (w : World) (hn : l.length = n) (hl : n ≤ 1100000) (h : IB w g l) (hB : B ≤ g) :
    Calls Tryd.prog 27 #[.slice (some ⟨g, 0, none⟩) n cap, .int .i64 1] w fun e w' => e = .returned (.int .i64 ((n : Int) + 1)) ∧ IB w' g (marks n) ∧ Below B w w' := by
  subst hn
  have HST : Hid (MkR l w g B (.int .i64 1) (.int .i64 0) w) := ⟨0, by omega, rfl, rfl, by simpa [mrow, marks] using h, Below.refl _ _⟩
  clear h
  obtain ⟨n, hn⟩ : ∃ n, l.length = n := ⟨_, rfl⟩
  rw [hn] at hl ⊢
  go_enter Tryd.func27, Tryd.ntmps27
  go_wp2
  go_loopw [1, 5] (fun k i wr => MkR l w g B k i wr) (fun _ i _ => n - (intOf i).toNat)
  case atStart => exact HST.out
  case round =>
    obtain ⟨m, hm, rfl, rfl, hib, hbel⟩ := hrel
    have hml := mrow_len l m hm
    clear HST
    by_cases hlt : m < n
    · have c0 := hib.cell m (by omega)
      have f0 := hib.frozen m
      have hs := hib.set m (by omega) ((m : Int) + 1)
      rw [mrow_step l m (by omega)] at hs
      have HS : Hid (IB (wr.setCell ⟨g, m, none⟩ (.int .i64 ((m : Int) + 1))) g (mrow l (m + 1)) ∧ Below B w (wr.setCell ⟨g, m, none⟩ (.int .i64 ((m : Int) + 1)))) := ⟨hs, hbel.setCell (p := ⟨g, m, none⟩) hB _⟩
      generalize (mrow l m)[m]'(by omega) = X at *
      clear hs hib hbel hml
      have i1 : (m : Int) < (n : Int) := by omega
      have i2 : (0 : Int) ≤ (m : Int) := by omega
      go_wp2
      go_roundw
      case rel => exact ⟨m + 1, by omega, by go_num, by go_num, HS.out.1, HS.out.2⟩
      case measure => simp [intOf]; omega
    · have hme : m = n := by omega
      have HF : Hid (IB wr g (marks n) ∧ Below B w wr) := by
        refine ⟨?_, hbel⟩
        have e : mrow l m = marks n := by rw [hme, ← hn]; exact mrow_all l
        rw [← e]
        exact hib
      subst hme
      clear hib hbel hml
      go_wp2
      go_ret
      exact ⟨rfl, HF.out.1, HF.out.2⟩

def HdR (n : Nat) (w : World) (k i : Value) (wr : World) : Prop := ∃ m : Nat, m ≤ n ∧ i = .int .i64 m ∧ k = .int .i64 ((m : Int) + 1) ∧ wr = w

set_option maxRecDepth 100000 in
set_option maxHeartbeats 400000 in
theorem heldIntS_any (g cap n : Nat) (w : World) (hl : n ≤ 1100000) (h : IB w g (marks n)) :
    Calls Tryd.prog 28 #[.slice (some ⟨g, 0, none⟩) n cap, .int .i64 1] w fun e w' => e = .returned (.int .i64 ((n : Int) + 1)) ∧ w' = w := by
  have hml := marks_len n
  have HC : Hid (∀ m, m < n → w.cell? ⟨g, m, none⟩ = some (.int .i64 ((m : Int) + 1))) := fun m hm => by
    rw [h.cell m (by omega), marks_at]
  clear h hml
  go_enter Tryd.func28, Tryd.ntmps28
  go_wp2
  go_loopw [1, 5] (fun k i wr => HdR n w k i wr) (fun _ i _ => n - (intOf i).toNat)
  case atStart => exact ⟨0, by omega, rfl, rfl, rfl⟩
  case round =>
    obtain ⟨m, hm, rfl, rfl, rfl⟩ := hrel
    by_cases hlt : m < n
    · have c0 := HC.out m hlt
      have i1 : (m : Int) < (n : Int) := by omega
      have i2 : (0 : Int) ≤ (m : Int) := by omega
      go_wp2
      go_roundw
      case rel => exact ⟨m + 1, by omega, by go_num, by go_num, rfl⟩
      case measure => simp [intOf]; omega
    · have hme : m = n := by omega
      subst hme
      go_wp2
      go_ret
      exact ⟨rfl, rfl⟩
end Go.Proofs.YtklmjdaikmokgaaDoor
