/-
  Texts laid together: Sgo.
-/
import Derived.Test.YtaejeemjndmjcaaDoorPkS27
/-
  What SigTexts and SigOk answer at any argument, the program's and the specification's.
-/
namespace Go.Proofs.YtaejeemjndmjcaaDoor
open Go.RowKit Go.BigFrame
set_option linter.unusedVariables false

theorem SigTexts_no (t : ByteArray) (a : Int) (vo vs vd : Value) (g1 o1 g2 o2 g3 o3 : Nat) (o s d : List ByteArray) (w : World) (ho : SS w vo g1 o1 o) (hs : SS w vs g2 o2 s) (hd : SS w vd g3 o3 d) (hz : t.size ≤ 1100000) (h : (formB a o s d && decide (t.size ≤ 200)) = false) :
    Calls Tryd.prog 96 #[.string t, .agg #[.int .i64 a, vo, vs, vd]] w fun e w' => ∃ v, e = .returned v ∧ OS w.heap.size w w' v [] := by
  have hB : Below w.heap.size w (w.alloc (.cells #[.int .i64 a, vo, vs, vd] 28)) := (Below.refl _ _).alloc (Nat.le_refl _) _
  have hc := sigFormOk_any a vo vs vd g1 o1 g2 o2 g3 o3 o s d _ (ho.below hB ho.lt) (hs.below hB hs.lt) (hd.below hB hd.lt)
  have HB : Hid (Below w.heap.size w (w.alloc (.cells #[.int .i64 a, vo, vs, vd] 28))) := hB
  by_cases ht : t.size ≤ 200
  · rw [decide_eq_true ht, Bool.and_true] at h
    rw [h] at hc
    have HC : Hid (Calls Tryd.prog 65 #[.agg #[.int .i64 a, vo, vs, vd]] (w.alloc (.cells #[.int .i64 a, vo, vs, vd] 28)) fun e w' => e = .returned (.bool false) ∧ Below (w.alloc (.cells #[.int .i64 a, vo, vs, vd] 28)).heap.size (w.alloc (.cells #[.int .i64 a, vo, vs, vd] 28)) w') := hc
    obtain ⟨ao, co, rfl, _, x1⟩ := ho
    obtain ⟨as2, cs2, rfl, _, x2⟩ := hs
    obtain ⟨ad, cd, rfl, _, x3⟩ := hd
    clear x1 x2 x3 hc hB h
    go_enter Tryd.func96, Tryd.ntmps96
    go_wp2_with fail
    refine HC.out.mono ?_
    rintro e w1 ⟨rfl, hb1⟩
    have b1 := HB.out.trans (hb1.mono HB.out.size)
    have hos := OS.up b1 b1.size (OS.made w1)
    go_wp2
    go_ret
    exact ⟨_, rfl, hos⟩
  · obtain ⟨ao, co, rfl, _, x1⟩ := ho
    obtain ⟨as2, cs2, rfl, _, x2⟩ := hs
    obtain ⟨ad, cd, rfl, _, x3⟩ := hd
    have ht' : 200 < t.size := by omega
    have hos := OS.up HB.out HB.out.size (OS.made (w.alloc (.cells #[.int .i64 a, .slice ao o.length co, .slice as2 s.length cs2, .slice ad d.length cd] 28)))
    have e : (w.alloc (.cells #[.int .i64 a, .slice ao o.length co, .slice as2 s.length cs2, .slice ad d.length cd] 28)).heap.size = w.heap.size + 1 := by simp
    rw [e] at hos
    clear x1 x2 x3 hc hB h ht e
    go_enter Tryd.func96, Tryd.ntmps96
    go_wp2
    go_ret
    exact ⟨_, rfl, hos⟩

theorem sSigTexts_no (t : ByteArray) (a : Int) (vo vs vd : Value) (g1 o1 g2 o2 g3 o3 : Nat) (o s d : List ByteArray) (w : World) (ho : SS w vo g1 o1 o) (hs : SS w vs g2 o2 s) (hd : SS w vd g3 o3 d) (hz : t.size ≤ 1100000) (h : (formB a o s d && decide (t.size ≤ 200)) = false) :
    Calls Tryd.prog 15 #[.string t, .agg #[.int .i64 a, vo, vs, vd]] w fun e w' => ∃ v, e = .returned v ∧ OS w.heap.size w w' v [] := by
  have hB : Below w.heap.size w (w.alloc (.cells #[.int .i64 a, vo, vs, vd] 28)) := (Below.refl _ _).alloc (Nat.le_refl _) _
  have hB1 : Below w.heap.size w ((w.alloc (.cells #[.int .i64 a, vo, vs, vd] 28)).alloc (.cells #[] 9)) := hB.alloc hB.size _
  have hc := l05Form_any a vo vs vd g1 o1 g2 o2 g3 o3 o s d _ (ho.below hB1 ho.lt) (hs.below hB1 hs.lt) (hd.below hB1 hd.lt)
  have hos := OS.up hB hB.size (OS.made (w.alloc (.cells #[.int .i64 a, vo, vs, vd] 28)))
  have e : (w.alloc (.cells #[.int .i64 a, vo, vs, vd] 28)).heap.size = w.heap.size + 1 := by simp
  rw [e] at hos
  have HO : Hid (OS w.heap.size w ((w.alloc (.cells #[.int .i64 a, vo, vs, vd] 28)).alloc (.cells #[] 9)) (.slice (some ⟨w.heap.size + 1, 0, none⟩) 0 0) []) := hos
  have HC : Hid (Calls Tryd.prog 43 #[.agg #[.int .i64 a, vo, vs, vd]] ((w.alloc (.cells #[.int .i64 a, vo, vs, vd] 28)).alloc (.cells #[] 9)) fun e w' => e = .returned (.bool (formB a o s d)) ∧ Below ((w.alloc (.cells #[.int .i64 a, vo, vs, vd] 28)).alloc (.cells #[] 9)).heap.size ((w.alloc (.cells #[.int .i64 a, vo, vs, vd] 28)).alloc (.cells #[] 9)) w') := hc
  obtain ⟨ao, co, rfl, _, x1⟩ := ho
  obtain ⟨as2, cs2, rfl, _, x2⟩ := hs
  obtain ⟨ad, cd, rfl, _, x3⟩ := hd
  generalize formB a o s d = F at *
  clear x1 x2 x3 hc hB hB1 hos e
  cases F with
  | false =>
    clear h
    go_enter Tryd.func15, Tryd.ntmps15
    go_wp2_with fail
    refine HC.out.mono ?_
    rintro e w1 ⟨rfl, hb1⟩
    have hos1 := HO.out.later hb1
    go_wp2
    go_ret
    exact ⟨_, rfl, hos1⟩
  | true =>
    have ht : 200 < t.size := by simpa using h
    clear h
    go_enter Tryd.func15, Tryd.ntmps15
    go_wp2_with fail
    refine HC.out.mono ?_
    rintro e w1 ⟨rfl, hb1⟩
    have hos1 := HO.out.later hb1
    go_wp2
    go_ret
    exact ⟨_, rfl, hos1⟩

theorem SigTexts_any (t : ByteArray) (a : Int) (vo vs vd : Value) (g1 o1 g2 o2 g3 o3 : Nat) (o s d : List ByteArray) (w : World) (ho : SS w vo g1 o1 o) (hs : SS w vs g2 o2 s) (hd : SS w vd g3 o3 d) (hz : t.size ≤ 1100000) (hT : Tb w) :
    Calls Tryd.prog 96 #[.string t, .agg #[.int .i64 a, vo, vs, vd]] w fun e w' => ∃ v, e = .returned v ∧ OS w.heap.size w w' v (sigT t a o s d) := by
  unfold sigT
  cases h : (formB a o s d && decide (t.size ≤ 200)) with
  | false => exact SigTexts_no t a vo vs vd g1 o1 g2 o2 g3 o3 o s d w ho hs hd hz h
  | true =>
    rw [Bool.and_eq_true, decide_eq_true_eq] at h
    obtain ⟨hA, _⟩ := formB_parts h.1
    obtain ⟨a, rfl⟩ := Int.eq_ofNat_of_zero_le hA.1
    exact SigTexts_yes t a vo vs vd g1 o1 g2 o2 g3 o3 o s d w ho hs hd h.1 h.2 hT
theorem sSigTexts_any (t : ByteArray) (a : Int) (vo vs vd : Value) (g1 o1 g2 o2 g3 o3 : Nat) (o s d : List ByteArray) (w : World) (ho : SS w vo g1 o1 o) (hs : SS w vs g2 o2 s) (hd : SS w vd g3 o3 d) (hz : t.size ≤ 1100000) :
    Calls Tryd.prog 15 #[.string t, .agg #[.int .i64 a, vo, vs, vd]] w fun e w' => ∃ v, e = .returned v ∧ OS w.heap.size w w' v (sigT t a o s d) := by
  unfold sigT
  cases h : (formB a o s d && decide (t.size ≤ 200)) with
  | false => exact sSigTexts_no t a vo vs vd g1 o1 g2 o2 g3 o3 o s d w ho hs hd hz h
  | true =>
    rw [Bool.and_eq_true, decide_eq_true_eq] at h
    obtain ⟨hA, _⟩ := formB_parts h.1
    obtain ⟨a, rfl⟩ := Int.eq_ofNat_of_zero_le hA.1
    exact sSigTexts_yes t a vo vs vd g1 o1 g2 o2 g3 o3 o s d w ho hs hd h.1 h.2

/-- what SigOk is -/
def okS (r t : ByteArray) (a : Int) (o s d : List ByteArray) : Bool := (formB a o s d && decide (t.size ≤ 200)) && ((cut16 (fT a.toNat d (pubT (bitsB t) o s) 4)).toList == r.toList)

theorem sgT_last (b a : Nat) (o s d : List ByteArray) (h : 12 < (sgT b a o s d).length) : (sgT b a o s d)[12] = fT a d (pubT b o s) 4 := by
  have h' : 12 < (txN o 8 ++ fN a d (pubT b o s) 5).length := h
  show (txN o 8 ++ fN a d (pubT b o s) 5)[12]'h' = _
  rw [List.getElem_append_right (by rw [txN_len]; omega)]
  simp [fN, txN_len]

set_option maxRecDepth 100000 in
set_option maxHeartbeats 1000000 in
theorem SigOk_any (r t : ByteArray) (a : Int) (vo vs vd : Value) (g1 o1 g2 o2 g3 o3 : Nat) (o s d : List ByteArray) (w : World) (ho : SS w vo g1 o1 o) (hs : SS w vs g2 o2 s) (hd : SS w vd g3 o3 d) (hz : t.size ≤ 1100000) (hT : Tb w) :
    Calls Tryd.prog 74 #[.string r, .string t, .agg #[.int .i64 a, vo, vs, vd]] w fun e w' => e = .returned (.bool (okS r t a o s d)) ∧ Below w.heap.size w w' := by
  have hB : Below w.heap.size w (w.alloc (.cells #[.int .i64 a, vo, vs, vd] 28)) := (Below.refl _ _).alloc (Nat.le_refl _) _
  have hc := SigTexts_any t a vo vs vd g1 o1 g2 o2 g3 o3 o s d _ (ho.below hB ho.lt) (hs.below hB hs.lt) (hd.below hB hd.lt) hz (hT.later hB)
  have HC : Hid (Calls Tryd.prog 96 #[.string t, .agg #[.int .i64 a, vo, vs, vd]] (w.alloc (.cells #[.int .i64 a, vo, vs, vd] 28)) fun e w' => ∃ v, e = .returned v ∧ OS (w.alloc (.cells #[.int .i64 a, vo, vs, vd] 28)).heap.size (w.alloc (.cells #[.int .i64 a, vo, vs, vd] 28)) w' v (sigT t a o s d)) := hc
  have HB : Hid (Below w.heap.size w (w.alloc (.cells #[.int .i64 a, vo, vs, vd] 28))) := hB
  have HT : Hid (Tb w) := hT
  obtain ⟨ao, co, rfl, _, x1⟩ := ho
  obtain ⟨as2, cs2, rfl, _, x2⟩ := hs
  obtain ⟨ad, cd, rfl, _, x3⟩ := hd
  clear x1 x2 x3 hc hB hT
  unfold okS
  unfold sigT at HC
  cases h : (formB a o s d && decide (t.size ≤ 200)) with
  | false =>
    rw [h] at HC
    clear h
    go_enter Tryd.func74, Tryd.ntmps74
    go_wp2_with fail
    refine HC.out.mono ?_
    rintro e w1 ⟨v, rfl, hos⟩
    have b1 := HB.out.trans (hos.2.1.mono HB.out.size)
    obtain ⟨aa, cc, hv⟩ := own_slice hos.1
    have hv : v = .slice aa 0 cc := hv
    subst hv
    clear hos HC
    go_wp2
    go_ret
    exact ⟨by simp, b1⟩
  | true =>
    rw [h] at HC
    clear h
    have hl13 := sgT_len (bitsB t) a.toNat o s d
    have hlast : ∀ h : 12 < (sgT (bitsB t) a.toNat o s d).length, (sgT (bitsB t) a.toNat o s d)[12] = fT a.toNat d (pubT (bitsB t) o s) 4 := fun h => sgT_last (bitsB t) a.toNat o s d h
    have hfs := fT_size a.toNat d (pubT (bitsB t) o s) (tagB_size _ _) 4
    rw [if_pos rfl] at HC
    generalize fT a.toNat d (pubT (bitsB t) o s) 4 = F at *
    generalize sgT (bitsB t) a.toNat o s d = L at *
    have HCD : Hid (∀ W, Below w.heap.size w W → Calls Tryd.prog 97 #[.string F, .int .i64 16] W fun e w' => e = .returned (.string (cut16 F)) ∧ Below W.heap.size W w') := fun W hW => CutDigest_any F 16 W (by omega) (HT.out.later hW).1 (HT.out.later hW).2
    generalize cut16 F = H at *
    have HLL : Hid (L.length = 13) := hl13
    go_enter Tryd.func74, Tryd.ntmps74
    go_wp2_with fail
    refine HC.out.mono ?_
    rintro e w1 ⟨v, rfl, hos⟩
    have b1 := HB.out.trans (hos.2.1.mono HB.out.size)
    rcases hos.shape with ⟨_, hnil⟩ | ⟨gr, cr, hvr, _, _⟩
    · have h0 := congrArg List.length hnil
      rw [hl13] at h0
      exact absurd h0 (by rw [List.length_nil]; omega)
    · rw [hl13] at hvr
      subst hvr
      have cl := hos.at 12 (by omega)
      rw [hlast _] at cl
      clear hos HC hlast hl13
      go_wp2_with fail
      refine (HCD.out _ b1).mono ?_
      rintro e w2 ⟨rfl, hb2⟩
      go_wp2
      go_ret
      exact ⟨by simp, b1.trans (hb2.mono b1.size)⟩

end Go.Proofs.YtaejeemjndmjcaaDoor
