/-
  Texts laid together: Sgo, Sgp.
-/
import Derived.Test.YtkgibgadngeddabDoorPkEST23
/-
  What SigTexts and SigOk answer at any argument, the program's and the specification's.
-/
namespace Go.Proofs.YtkgibgadngeddabDoor
open Go.RowKit Go.BigFrame
set_option linter.unusedVariables false

theorem SigTexts_no (t : ByteArray) (a : Int) (vo vs vd : Value) (g1 o1 g2 o2 g3 o3 : Nat) (o s d : List ByteArray) (w : World) (ho : SS w vo g1 o1 o) (hs : SS w vs g2 o2 s) (hd : SS w vd g3 o3 d) (hz : t.size ≤ 1100000) (h : (formB a o s d && decide (t.size ≤ 200)) = false) :
    Calls Tryd.prog 7 #[.string t, .agg #[.int .i64 a, vo, vs, vd]] w fun e w' => ∃ v, e = .returned v ∧ OS w.heap.size w w' v [] := by
  have hB : Below w.heap.size w (w.alloc (.cells #[.int .i64 a, vo, vs, vd] 27)) := (Below.refl _ _).alloc (Nat.le_refl _) _
  have hc := sigFormOk_any a vo vs vd g1 o1 g2 o2 g3 o3 o s d _ (ho.below hB ho.lt) (hs.below hB hs.lt) (hd.below hB hd.lt)
  have HB : Hid (Below w.heap.size w (w.alloc (.cells #[.int .i64 a, vo, vs, vd] 27))) := hB
  by_cases ht : t.size ≤ 200
  · rw [decide_eq_true ht, Bool.and_true] at h
    rw [h] at hc
    have HC : Hid (Calls Tryd.prog 21 #[.agg #[.int .i64 a, vo, vs, vd]] (w.alloc (.cells #[.int .i64 a, vo, vs, vd] 27)) fun e w' => e = .returned (.bool false) ∧ Below (w.alloc (.cells #[.int .i64 a, vo, vs, vd] 27)).heap.size (w.alloc (.cells #[.int .i64 a, vo, vs, vd] 27)) w') := hc
    obtain ⟨ao, co, rfl, _, x1⟩ := ho
    obtain ⟨as2, cs2, rfl, _, x2⟩ := hs
    obtain ⟨ad, cd, rfl, _, x3⟩ := hd
    clear x1 x2 x3 hc hB h
    go_enter Tryd.func7, Tryd.ntmps7
    go_wp2_with fail
    refine HC.out.mono ?_
    rintro e w1 ⟨rfl, hb1⟩
    have b1 := HB.out.trans (hb1.mono HB.out.size)
    have hos := OS.up b1 b1.size (OS.made w1)
    go_wp2
    go_ret
    exact ⟨_, rfl, hos⟩
  · obtain ⟨ao, co, rfl, _, x1⟩ := ho
    obtain ⟨as2, cs2, rfl, _, x2⟩ := hs
    obtain ⟨ad, cd, rfl, _, x3⟩ := hd
    have ht' : 200 < t.size := by omega
    have hos := OS.up HB.out HB.out.size (OS.made (w.alloc (.cells #[.int .i64 a, .slice ao o.length co, .slice as2 s.length cs2, .slice ad d.length cd] 27)))
    have e : (w.alloc (.cells #[.int .i64 a, .slice ao o.length co, .slice as2 s.length cs2, .slice ad d.length cd] 27)).heap.size = w.heap.size + 1 := by simp
    rw [e] at hos
    clear x1 x2 x3 hc hB h ht e
    go_enter Tryd.func7, Tryd.ntmps7
    go_wp2
    go_ret
    exact ⟨_, rfl, hos⟩

theorem sSigTexts_no (t : ByteArray) (a : Int) (vo vs vd : Value) (g1 o1 g2 o2 g3 o3 : Nat) (o s d : List ByteArray) (w : World) (ho : SS w vo g1 o1 o) (hs : SS w vs g2 o2 s) (hd : SS w vd g3 o3 d) (hz : t.size ≤ 1100000) (h : (formB a o s d && decide (t.size ≤ 200)) = false) :
    Calls Tryd.prog 5 #[.string t, .agg #[.int .i64 a, vo, vs, vd]] w fun e w' => ∃ v, e = .returned v ∧ OS w.heap.size w w' v [] := by
  have hB : Below w.heap.size w (w.alloc (.cells #[.int .i64 a, vo, vs, vd] 27)) := (Below.refl _ _).alloc (Nat.le_refl _) _
  have hB1 : Below w.heap.size w ((w.alloc (.cells #[.int .i64 a, vo, vs, vd] 27)).alloc (.cells #[] 9)) := hB.alloc hB.size _
  have hc := l05Form_any a vo vs vd g1 o1 g2 o2 g3 o3 o s d _ (ho.below hB1 ho.lt) (hs.below hB1 hs.lt) (hd.below hB1 hd.lt)
  have hos := OS.up hB hB.size (OS.made (w.alloc (.cells #[.int .i64 a, vo, vs, vd] 27)))
  have e : (w.alloc (.cells #[.int .i64 a, vo, vs, vd] 27)).heap.size = w.heap.size + 1 := by simp
  rw [e] at hos
  have HO : Hid (OS w.heap.size w ((w.alloc (.cells #[.int .i64 a, vo, vs, vd] 27)).alloc (.cells #[] 9)) (.slice (some ⟨w.heap.size + 1, 0, none⟩) 0 0) []) := hos
  have HC : Hid (Calls Tryd.prog 14 #[.agg #[.int .i64 a, vo, vs, vd]] ((w.alloc (.cells #[.int .i64 a, vo, vs, vd] 27)).alloc (.cells #[] 9)) fun e w' => e = .returned (.bool (formB a o s d)) ∧ Below ((w.alloc (.cells #[.int .i64 a, vo, vs, vd] 27)).alloc (.cells #[] 9)).heap.size ((w.alloc (.cells #[.int .i64 a, vo, vs, vd] 27)).alloc (.cells #[] 9)) w') := hc
  obtain ⟨ao, co, rfl, _, x1⟩ := ho
  obtain ⟨as2, cs2, rfl, _, x2⟩ := hs
  obtain ⟨ad, cd, rfl, _, x3⟩ := hd
  generalize formB a o s d = F at *
  clear x1 x2 x3 hc hB hB1 hos e
  cases F with
  | false =>
    clear h
    go_enter Tryd.func5, Tryd.ntmps5
    go_wp2_with fail
    refine HC.out.mono ?_
    rintro e w1 ⟨rfl, hb1⟩
    have hos1 := HO.out.later hb1
    go_wp2
    go_ret
    exact ⟨_, rfl, hos1⟩
  | true =>
    have ht : 200 < t.size := by simpa using h
    clear h
    go_enter Tryd.func5, Tryd.ntmps5
    go_wp2_with fail
    refine HC.out.mono ?_
    rintro e w1 ⟨rfl, hb1⟩
    have hos1 := HO.out.later hb1
    go_wp2
    go_ret
    exact ⟨_, rfl, hos1⟩

theorem SigTexts_any (t : ByteArray) (a : Int) (vo vs vd : Value) (g1 o1 g2 o2 g3 o3 : Nat) (o s d : List ByteArray) (w : World) (ho : SS w vo g1 o1 o) (hs : SS w vs g2 o2 s) (hd : SS w vd g3 o3 d) (hz : t.size ≤ 1100000) (hT : Tb w) :
    Calls Tryd.prog 7 #[.string t, .agg #[.int .i64 a, vo, vs, vd]] w fun e w' => ∃ v, e = .returned v ∧ OS w.heap.size w w' v (sigT t a o s d) := by
  unfold sigT
  cases h : (formB a o s d && decide (t.size ≤ 200)) with
  | false => exact SigTexts_no t a vo vs vd g1 o1 g2 o2 g3 o3 o s d w ho hs hd hz h
  | true =>
    rw [Bool.and_eq_true, decide_eq_true_eq] at h
    obtain ⟨hA, _⟩ := formB_parts h.1
    obtain ⟨a, rfl⟩ := Int.eq_ofNat_of_zero_le hA.1
    exact SigTexts_yes t a vo vs vd g1 o1 g2 o2 g3 o3 o s d w ho hs hd h.1 h.2 hT
theorem sSigTexts_any (t : ByteArray) (a : Int) (vo vs vd : Value) (g1 o1 g2 o2 g3 o3 : Nat) (o s d : List ByteArray) (w : World) (ho : SS w vo g1 o1 o) (hs : SS w vs g2 o2 s) (hd : SS w vd g3 o3 d) (hz : t.size ≤ 1100000) :
    Calls Tryd.prog 5 #[.string t, .agg #[.int .i64 a, vo, vs, vd]] w fun e w' => ∃ v, e = .returned v ∧ OS w.heap.size w w' v (sigT t a o s d) := by
  unfold sigT
  cases h : (formB a o s d && decide (t.size ≤ 200)) with
  | false => exact sSigTexts_no t a vo vs vd g1 o1 g2 o2 g3 o3 o s d w ho hs hd hz h
  | true =>
    rw [Bool.and_eq_true, decide_eq_true_eq] at h
    obtain ⟨hA, _⟩ := formB_parts h.1
    obtain ⟨a, rfl⟩ := Int.eq_ofNat_of_zero_le hA.1
    exact sSigTexts_yes t a vo vs vd g1 o1 g2 o2 g3 o3 o s d w ho hs hd h.1 h.2

/-- what SigOk is -/
def okS (r t : ByteArray) (a : Int) (o s d : List ByteArray) : Bool := (formB a o s d && decide (t.size ≤ 200)) && ((cut16 (fT a.toNat d (pubT (bitsB t) o s) 4)).toList == r.toList)

theorem sgT_last (b a : Nat) (o s d : List ByteArray) (h : 12 < (sgT b a o s d).length) : (sgT b a o s d)[12] = fT a d (pubT b o s) 4 := by
  have h' : 12 < (txN o 8 ++ fN a d (pubT b o s) 5).length := h
  show (txN o 8 ++ fN a d (pubT b o s) 5)[12]'h' = _
  rw [List.getElem_append_right (by rw [txN_len]; omega)]
  simp [fN, txN_len]

end Go.Proofs.YtkgibgadngeddabDoor
/-
  What the specification's SigOk answers.
-/
namespace Go.Proofs.YtkgibgadngeddabDoor
open Go.RowKit Go.BigFrame
set_option linter.unusedVariables false

def K1R (b : Nat) (o s : List ByteArray) (B : Nat) (W0 : World) (v i : Value) (wr : World) : Prop :=
  ∃ m : Nat, m ≤ 8 ∧ i = .int .i64 m ∧ OS B W0 wr v (lkN b o s m)
def K2R (a : Nat) (d : List ByteArray) (t : ByteArray) (B : Nat) (W0 : World) (h p i : Value) (wr : World) : Prop :=
  ∃ m : Nat, m ≤ 4 ∧ i = .int .i64 m ∧ h = .string (cut16 (fT a d t m)) ∧ p = .int .i64 (a / 2 ^ m : Nat) ∧ Below B W0 wr

theorem tagOk_two (k : Int) (x y : ByteArray) (hk : 1 ≤ k ∧ k ≤ 8) (hx : x.size ≤ 200) (hy : y.size ≤ 200) : tagOk k [x, y] = true := by
  refine tagOk_yes _ _ ⟨hk, by simp⟩ ?_
  intro m hm
  have h0 : m = 0 ∨ m = 1 := by simp at hm; omega
  rcases h0 with rfl | rfl
  · exact hx
  · exact hy
theorem lkN_wide (b : Nat) (o s : List ByteArray) (ho : o.length = 8) (hs : s.length = 8) (wo : kwB o = true) (ws : kwB s = true) : ∀ m, m ≤ 8 → kwB (lkN b o s m) = true
  | 0, _ => rfl
  | m + 1, h => by
    rw [lkN_step]
    have ih := lkN_wide b o s ho hs wo ws m (by omega)
    have h1 : (gB s m).size = 16 := by rw [← gB_eq s m (by omega)]; exact kwB_at ws m (by omega)
    have h2 : (gB o m).size = 16 := by rw [← gB_eq o m (by omega)]; exact kwB_at wo m (by omega)
    have h3 : (lockB (gB o m)).size = 16 := by
      unfold lockB
      refine hashB_size ?_
      rw [tagOk_one 6 _ (by omega), decide_eq_true (by omega)]
    unfold kwB at *
    rw [List.all_append, ih]
    unfold lk2
    split <;> simp [h1, h3]
theorem pub_ok (b : Nat) (o s : List ByteArray) (ho : o.length = 8) (hs : s.length = 8) (wo : kwB o = true) (ws : kwB s = true) : tagOk 6 (lkN b o s 8) = true := by
  have hw := lkN_wide b o s ho hs wo ws 8 (by omega)
  refine tagOk_yes _ _ ⟨by omega, by rw [lkN_len]; omega⟩ ?_
  intro m hm
  rw [kwB_at hw m hm]
  omega
theorem fT_cut (a : Nat) (d : List ByteArray) (t : ByteArray) (i : Nat) : (cut16 (fT a d t i)).size ≤ 16 := by
  unfold cut16 cutH cutB
  rw [if_pos (by omega), ByteArray.size_extract]
  show min 16 _ - 0 ≤ 16
  omega

end Go.Proofs.YtkgibgadngeddabDoor
