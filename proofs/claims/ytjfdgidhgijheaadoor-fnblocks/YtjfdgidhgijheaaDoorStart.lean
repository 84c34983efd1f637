/-
  What ShaStart answers, the program's and the specification's; a state as a list of numbers.
-/
import Derived.Test.YtjfdgidhgijheaaDoorInts
import Derived.Test.YtjfdgidhgijheaaDoorInb
namespace Go.Proofs.YtjfdgidhgijheaaDoor
open Go.RowKit Go.BigFrame
set_option linter.unusedVariables false

/-- the numbers of a state -/
def stI (s : Nat → UInt32) (k : Nat) : List Int := (List.range k).map (fun j => ((s j).toNat : Int))
theorem stI_len (s : Nat → UInt32) (k : Nat) : (stI s k).length = k := by simp [stI]
theorem stI_succ (s : Nat → UInt32) (k : Nat) : stI s (k + 1) = stI s k ++ [((s k).toNat : Int)] := by simp [stI, List.range_succ]
def lrow (s : Nat → UInt32) (k : Nat) : List Int := stI s k ++ List.replicate (8 - k) 0
theorem lrow_len (s : Nat → UInt32) (k : Nat) (h : k ≤ 8) : (lrow s k).length = 8 := by simp [lrow, stI_len]; omega
theorem lrow_step (s : Nat → UInt32) (k : Nat) (h : k < 8) : (lrow s k).set k ((s k).toNat : Int) = lrow s (k + 1) := by
  unfold lrow
  have e : 8 - k = (8 - (k + 1)) + 1 := by omega
  rw [e, List.replicate_succ, List.set_append_right _ _ (by rw [stI_len]; exact Nat.le_refl _), stI_len, Nat.sub_self, List.set_cons_zero, stI_succ, List.append_assoc]
  rfl
theorem lrow_all (s : Nat → UInt32) : lrow s 8 = stI s 8 := by simp [lrow]

/-- 'make([]int, n)' -/
theorem IB.made (n : Nat) (h : n ≤ 1000000000) (W : World) : ∃ w', (Instr.makeSlice 26 (.int .i64 (n : Int)) (.int .i64 (n : Int))).run Tryd.prog W = .ok (.slice (some ⟨W.heap.size, 0, none⟩) n n) w' ∧ IB w' W.heap.size (List.replicate n 0) ∧ Below W.heap.size W w' ∧ w'.heap.size = W.heap.size + 1 := by
  obtain ⟨i0, hi, hz0, hz1, hz2⟩ := info_parts Tryd.info3
  have h1 := run_make (P := Tryd.prog) W 26 3 i0 (.int .i64 0) Tryd.underlying26 hi hz0 .i64 .i64 (n : Int) (n : Int) (by omega) (by omega) (by rw [hz2]; omega) (by omega)
  refine ⟨_, by simpa using h1, ⟨_, Go.heap_alloc_new W _, fun j hj => ?_⟩, (Below.refl _ _).alloc (Nat.le_refl _) _, by simp⟩
  have hj' : j < n := by simpa using hj
  have e : (madeCells (Value.int .i64 0).cells (n * i0.size)).toList = List.replicate n (.int .i64 0) := by
    rw [hz1]
    simp [Value.cells, toList_madeCells_one]
  rw [← Array.getElem?_toList, e]
  simp [hj']

def LsR (w : World) (s : Nat → UInt32) (g : Nat) (i : Value) (wr : World) : Prop := ∃ m : Nat, m ≤ 8 ∧ i = .int .i64 m ∧ IB wr g (lrow s m) ∧ Below w.heap.size w wr

set_option maxRecDepth 100000 in
set_option maxHeartbeats 400000 in
theorem list_any (Sc : Array Value) (s : Nat → UInt32) (w : World) (hS : AggIs Sc 8 s) :
    Calls Tryd.prog 18 #[.agg Sc] w fun e w' => ∃ g, e = .returned (.slice (some ⟨g, 0, none⟩) 8 8) ∧ w.heap.size ≤ g ∧ IB w' g (stI s 8) ∧ Below w.heap.size w w' := by
  obtain ⟨w2, hmk, hib, hb2, hs2⟩ := IB.made 8 (by omega) (w.alloc (.cells Sc 40))
  have hmk' : (Instr.makeSlice 26 (.int .i64 8) (.int .i64 8)).run Tryd.prog (w.alloc (.cells Sc 40)) = _ := hmk
  have hsz : (w.alloc (.cells Sc 40)).heap.size = w.heap.size + 1 := by simp
  have ha := (Arr.agg (w := w) (t := 40) hS).below hb2 (by omega)
  have HA : Hid (Arr w2 w.heap.size 40 8 s) := ha
  have HST : Hid (LsR w s (w.heap.size + 1) (.int .i64 0) w2) := ⟨0, by omega, rfl, by rw [hsz] at hib; simpa [lrow, stI] using hib, ((Below.refl _ _).alloc (Nat.le_refl _) _).trans (hb2.mono (by omega))⟩
  clear ha hmk hib hb2 hs2
  rw [hsz] at hmk'
  go_enter Tryd.func18, Tryd.ntmps18
  go_wp2_with (refine wp_loadArr rfl 40 _ rfl w.heap.size 40 8 s 38 rfl HA.out Tryd.underlying40 size52 ?_; intro R hR)
  have HR : Hid (AggIs R 8 s) := hR
  clear hR HA hmk' hsz
  obtain ⟨g, hg⟩ : ∃ g, w.heap.size + 1 = g := ⟨_, rfl⟩
  rw [hg] at HST ⊢
  go_loopw [8] (fun i wr => LsR w s g i wr) (fun i _ => 8 - (intOf i).toNat)
  case atStart => exact HST.out
  case round =>
    obtain ⟨m, hm, rfl, hib, hbel⟩ := hrel
    have hl := lrow_len s m hm
    clear HST
    by_cases hlt : m < 8
    · have hix := run_aggAt HR.out m hlt
      have c0 := hib.cell m (by omega)
      have f0 := hib.frozen m
      have hs := hib.set m (by omega) ((s m).toNat : Int)
      rw [lrow_step s m hlt] at hs
      have HS : Hid (IB (wr.setCell ⟨g, m, none⟩ (.int .i64 ((s m).toNat : Int))) g (lrow s (m + 1)) ∧ Below w.heap.size w (wr.setCell ⟨g, m, none⟩ (.int .i64 ((s m).toNat : Int)))) := ⟨hs, hbel.setCell (p := ⟨g, m, none⟩) (by show w.heap.size ≤ g; omega) _⟩
      have hx := H.u32_lt (s m)
      generalize (lrow s m)[m]'(by omega) = Y at *
      generalize s m = X at *
      clear hs hib hbel hl
      have i1 : (m : Int) < 8 := by omega
      have i2 : (0 : Int) ≤ (m : Int) := by omega
      go_wp2
      go_roundw
      case rel => exact ⟨m + 1, by omega, by go_num, HS.out.1, HS.out.2⟩
      case measure => simp [intOf]; omega
    · have hme : m = 8 := by omega
      subst hme
      have HF : Hid (IB wr g (stI s 8)) := by rw [← lrow_all]; exact hib
      clear hib hl
      go_wp2
      go_ret
      exact ⟨g, rfl, by omega, HF.out, hbel⟩

theorem ShaStart_any (w : World) (hF : TabF w) : Calls Tryd.prog 7 #[] w fun e w' => ∃ g cap, e = .returned (.slice (some ⟨g, 0, none⟩) 8 cap) ∧ w.heap.size ≤ g ∧ IB w' g (stI firstF 8) ∧ Below w.heap.size w w' := by
  have HF : Hid (TabF w) := hF
  clear hF
  go_enter Tryd.func7, Tryd.ntmps7
  go_wp2_with fail
  refine (shaBegin_any _ HF.out).mono ?_
  rintro e w1 ⟨R, rfl, hR, hb1⟩
  go_wp2_with fail
  refine (list_any R firstF _ hR).mono ?_
  rintro e w2 ⟨g, rfl, hg, hib, hb2⟩
  go_wp2
  go_ret
  exact ⟨g, 8, rfl, Nat.le_trans hb1.size hg, hib, hb1.trans (hb2.mono hb1.size)⟩

def natL (s : Nat → UInt32) (k : Nat) : List Nat := (List.range k).map (fun j => (s j).toNat)
theorem natL_len (s : Nat → UInt32) (k : Nat) : (natL s k).length = k := by simp [natL]
theorem natL_succ (s : Nat → UInt32) (k : Nat) : natL s (k + 1) = natL s k ++ [(s k).toNat] := by simp [natL, List.range_succ]
theorem own_ib {w : World} {B : Nat} {v : Value} {s : Nat → UInt32} {k : Nat} (h : w.ownsRow B 3 1 v (natL s k).length (iv (natL s k))) (hk : 0 < k) : ∃ g cap, v = .slice (some ⟨g, 0, none⟩) k cap ∧ B ≤ g ∧ IB w g (stI s k) := by
  rcases h.2 with ⟨_, h0⟩ | ⟨g, cap, cur, rfl, hb, hg, hn, hc, hs, ht⟩
  · rw [natL_len] at h0; omega
  · refine ⟨g, cap, by rw [natL_len], hb, cur, hg, fun j hj => ?_⟩
    have hj' : j < k := by rw [stI_len] at hj; exact hj
    have h1 : (cur.toList.take ((natL s k).length * 1))[j]? = (iv (natL s k))[j]? := by rw [ht]
    rw [List.getElem?_take, if_pos (by rw [natL_len]; omega)] at h1
    rw [← Array.getElem?_toList, h1]
    simp [iv, natL, stI, hj']
def SsR (w w1 : World) (gh : Nat) (v i : Value) (wr : World) : Prop := ∃ m : Nat, m ≤ 8 ∧ i = .int .i64 m ∧ wr.ownsRow w1.heap.size 3 1 v (natL firstF m).length (iv (natL firstF m)) ∧ Arr wr gh 39 8 firstF ∧ Below w1.heap.size w1 wr

set_option maxRecDepth 100000 in
set_option maxHeartbeats 400000 in
theorem sShaStart_any (w : World) : Calls Tryd.prog 24 #[] w fun e w' => ∃ g cap, e = .returned (.slice (some ⟨g, 0, none⟩) 8 cap) ∧ w.heap.size ≤ g ∧ IB w' g (stI firstF 8) ∧ Below w.heap.size w w' := by
  go_enter Tryd.func24, Tryd.ntmps24
  go_wp2_with fail
  refine (l03First_any _).mono ?_
  rintro e w1 ⟨R, rfl, hR, hb1⟩
  go_wp2_with (first | (with_reducible refine wp_alloc50 rfl rfl ?_) | (refine wp_storeNew rfl 39 8 _ _ rfl w1 _ R firstF rfl (zeros_size 8) hR rfl rfl size51 ?_))
  have hs1 := hb1.size
  have ha : Arr (w1.alloc (.cells R 39)) w1.heap.size 39 8 firstF := Arr.agg hR
  have hz : (w1.alloc (.cells R 39)).heap.size = w1.heap.size + 1 := by simp
  obtain ⟨w2, hw2⟩ : ∃ w2, w1.alloc (.cells R 39) = w2 := ⟨_, rfl⟩
  rw [hw2] at ha hz
  have HST : Hid (SsR w w2 w1.heap.size (.slice (some ⟨w1.heap.size + 1, 0, none⟩) 0 0) (.int .i64 0) (w2.alloc (.cells #[] 3))) := ⟨0, by omega, rfl, by rw [← hz]; exact World.ownsRow_made w2 #[] 0 (Nat.le_refl _) (by decide) (by simp), ha.alloc _, (Below.refl _ _).alloc (Nat.le_refl _) _⟩
  have HB : Hid (Below w.heap.size w w2) := by show Below _ _ _; rw [← hw2]; exact hb1.alloc hs1 _
  have hgl : w1.heap.size < w2.heap.size := by omega
  rw [hw2]
  clear hw2 ha hR hb1 hz
  generalize w1.heap.size = gh at *
  obtain ⟨w3, hw3⟩ : ∃ w3, w2.alloc (.cells #[] 3) = w3 := ⟨_, rfl⟩
  rw [hw3] at HST ⊢
  clear hw3
  go_loopw [2, 3] (fun v i wr => SsR w w2 gh v i wr) (fun _ i _ => 8 - (intOf i).toNat)
  case atStart => exact HST.out
  case round =>
    obtain ⟨m, hm, rfl, hown, ha, hbel⟩ := hrel
    have hnl := natL_len firstF m
    clear HST
    by_cases hlt : m < 8
    · have hc := ha.cell m hlt
      have hN := natL_succ firstF m
      have HN : Hid (natL firstF m ++ [(firstF m).toNat] = natL firstF (m + 1)) := hN.symm
      have hx := H.u32_lt (firstF m)
      have hsz := hbel.size
      have HA : Hid (Arr wr gh 39 8 firstF ∧ Below w2.heap.size w2 wr) := ⟨ha, hbel⟩
      have hown' := hown.alloc (.cells #[.int .i64 ((firstF m).toNat : Int)] 3)
      have hlts := hown.lt
      clear hN ha hbel hown
      generalize hX : (firstF m).toNat = X at *
      have i1 : (m : Int) < 8 := by omega
      have i2 : (0 : Int) ≤ (m : Int) := by omega
      go_wp2_with (at_builtin; refine wp_appJ rfl _ _ rfl w2.heap.size _ (natL firstF m) rfl hown' ?c0 ⟨_, 0, none⟩ X rfl ?c1 ?c2 ?_)
      case c0 => simp; omega
      case c1 => exact one_int _ _ _
      case c2 => omega
      intro v5 w5 hown5 hg5
      rw [HN.out] at hown5
      have hb5 : Below w2.heap.size w2 w5 := (HA.out.2.alloc hsz _).grown hg5 (by simp; omega) (fun k hk => (hlts k hk).1)
      have ha5 : Arr w5 gh 39 8 firstF := by
        refine (HA.out.1.alloc (.cells #[.int .i64 (X : Int)] 3)).keep (hg5.block gh ?_ ?_)
        · have := (HA.out.1.alloc (.cells #[.int .i64 (X : Int)] 3)).lt
          exact this
        · intro he
          have := (hlts gh he.symm).1
          omega
      go_wp2
      go_roundw
      case rel => exact ⟨m + 1, by omega, by go_num, by rw [natL_len]; exact hown5, ha5, hb5⟩
      case measure => simp [intOf]; omega
    · have hme : m = 8 := by omega
      subst hme
      obtain ⟨g, cap, rfl, hg, hib⟩ := own_ib hown (by omega)
      clear hown ha
      go_wp2
      go_ret
      exact ⟨g, cap, rfl, Nat.le_trans HB.out.size hg, hib, HB.out.trans (hbel.mono HB.out.size)⟩
end Go.Proofs.YtjfdgidhgijheaaDoor
