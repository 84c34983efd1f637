/-
  What PublicOf answers, the program's and the specification's.
-/
import Derived.Test.YtkgibgadngeddaaDoorSec
import Derived.Test.YtkgibgadngeddaaDoorTa
namespace Go.Proofs.YtkgibgadngeddaaDoor
open Go.RowKit Go.BigFrame
set_option linter.unusedVariables false

/-- the sixteen locks of a place -/
def locksL (s : ByteArray) (a : Nat) : List ByteArray := (List.range 16).map fun i => lockB (secB s a (i / 2) (i % 2))
theorem locksL_len (s : ByteArray) (a : Nat) : (locksL s a).length = 16 := by simp [locksL]
theorem locksL_at (s : ByteArray) (a i : Nat) (h : i < (locksL s a).length) : (locksL s a)[i] = lockB (secB s a (i / 2) (i % 2)) := by simp [locksL]
/-- what PublicOf is -/
def pubB (s : ByteArray) (a : Nat) : ByteArray := hashB 6 (locksL s a) 16
def pubA (s : ByteArray) (a : Int) : ByteArray := if s.size ≤ 100 ∧ (0 ≤ a ∧ a ≤ 15) then pubB s a.toNat else ⟨#[]⟩

theorem SecretOf_at (s : ByteArray) (a b c : Nat) (z x y : Int) (w : World) (hz : z = (a : Int)) (hx : x = (b : Int)) (hy : y = (c : Int)) (h1 : s.size ≤ 100) (h2 : a ≤ 15) (h3 : b ≤ 7) (h4 : c ≤ 1) (hT : Tb w) :
    Calls Tryd.prog 10 #[.string s, .int .i64 z, .int .i64 x, .int .i64 y] w fun e w' => e = .returned (.string (secB s a b c)) ∧ Below w.heap.size w w' := by
  subst hx hy hz
  exact SecretOf_yes s a b c w h1 h2 h3 h4 hT
theorem sSecretOf_at (s : ByteArray) (a b c : Nat) (z x y : Int) (w : World) (hz : z = (a : Int)) (hx : x = (b : Int)) (hy : y = (c : Int)) (h1 : s.size ≤ 100) (h2 : a ≤ 15) (h3 : b ≤ 7) (h4 : c ≤ 1) :
    Calls Tryd.prog 9 #[.string s, .int .i64 z, .int .i64 x, .int .i64 y] w fun e w' => e = .returned (.string (secB s a b c)) ∧ Below w.heap.size w w' := by
  subst hx hy hz
  exact sSecretOf_yes s a b c w h1 h2 h3 h4

theorem not_nil {D : ByteArray} (h : 0 < D.size) : (D.toList == []) = false := by
  rw [beq_eq_false_iff_ne]
  intro he
  have : D.toList.length = 0 := by rw [he]; rfl
  rw [ByteArray.toList_eq, Array.length_toList] at this
  have h2 : D.data.size = D.size := rfl
  omega

def PuR (s : ByteArray) (a : Nat) (w : World) (i : Value) (wr : World) : Prop :=
  ∃ m : Nat, m ≤ 16 ∧ i = .int .i64 m ∧ TA wr w.heap.size 41 (srow (locksL s a) m) ∧ Below w.heap.size w wr

set_option maxRecDepth 100000 in
set_option maxHeartbeats 1000000 in
theorem PublicOf_yes (s : ByteArray) (a : Nat) (w : World) (h1 : s.size ≤ 100) (h2 : a ≤ 15) (hT : Tb w) :
    Calls Tryd.prog 14 #[.string s, .int .i64 a] w fun e w' => e = .returned (.string (pubB s a)) ∧ Below w.heap.size w w' := by
  have HT : Hid (Tb w) := hT
  have HST : Hid (PuR s a w (.int .i64 0) (w.alloc (.cells (zT 16) 41))) := ⟨0, by omega, rfl, TA.zero w _ _ 16 (locksL_len s a), (Below.refl _ _).alloc (Nat.le_refl _) _⟩
  have HL : Hid ((locksL s a).length = 16 ∧ ∀ i (h : i < (locksL s a).length), (locksL s a)[i] = lockB (secB s a (i / 2) (i % 2))) := ⟨locksL_len s a, locksL_at s a⟩
  unfold pubB
  generalize hL : locksL s a = L at *
  obtain ⟨T, hTe⟩ : ∃ T, hashB 6 L 16 = T := ⟨_, rfl⟩
  have HTe : Hid (hashB 6 L 16 = T) := hTe
  rw [hTe]
  clear hT hTe
  go_enter Tryd.func14, Tryd.ntmps14
  go_wp2_with (refine wp_allocT rfl 41 16 rfl zeroA ?_)
  go_loopw [8] (fun i wr => PuR s a w i wr) (fun i _ => 16 - (intOf i).toNat)
  case atStart => exact HST.out
  case round =>
    obtain ⟨m, hm, rfl, hta, hbel⟩ := hrel
    rw [hL] at hta
    clear HST
    have hT1 := HT.out.later hbel
    by_cases hlt : m < 16
    · have i1 : (m : Int) < 16 := by omega
      go_wp2_with fail
      refine (SecretOf_at s a (m / 2) (m % 2) _ _ _ _ rfl (by omega) (by omega) h1 h2 (by omega) (by omega) hT1).mono ?_
      rintro e w1 ⟨rfl, hb1⟩
      have hz := not_nil (show 0 < (secB s a (m / 2) (m % 2)).size by rw [secB_size _ _ _ _ h1]; omega)
      have hlk := HL.out.2 m (by rw [HL.out.1]; exact hlt)
      generalize secB s a (m / 2) (m % 2) = S at *
      have hta1 := hta.later hb1
      have b1 := hbel.trans (hb1.mono hbel.size)
      have hT2 := HT.out.later b1
      clear hT1 hta hbel hb1
      go_wp2_with fail
      refine (LockOf_any S _ hT2).mono ?_
      rintro e w2 ⟨rfl, hb2⟩
      have hta2 := hta1.later hb2
      have b2 := b1.trans (hb2.mono b1.size)
      have hl16 : (srow L m).length = 16 := by rw [srow_len _ _ (by rw [HL.out.1]; omega)]; exact HL.out.1
      have c0 := hta2.cell m (by omega)
      have f0 := hta2.frozen m
      have hs := hta2.set m (lockB S)
      rw [← hlk, srow_step L m (by rw [HL.out.1]; exact hlt), hlk] at hs
      have HS : Hid (TA (w2.setCell ⟨w.heap.size, m, none⟩ (.string (lockB S))) w.heap.size 41 (srow L (m + 1)) ∧ Below w.heap.size w (w2.setCell ⟨w.heap.size, m, none⟩ (.string (lockB S)))) := ⟨hs, b2.setCell (p := ⟨w.heap.size, m, none⟩) (Nat.le_refl _) _⟩
      generalize (srow L m)[m]'(by omega) = Y at *
      generalize lockB S = K at *
      clear hs hta2 b2 hb2 hta1 b1 hT2 hlk HL hl16
      go_wp2
      go_roundw
      case rel => exact ⟨m + 1, by omega, by go_num, by rw [hL]; exact HS.out.1, HS.out.2⟩
      case measure => simp [intOf]; omega
    · have hme : m = 16 := by omega
      subst hme
      have e : srow L 16 = L := by have := srow_all L; rw [HL.out.1] at this; exact this
      rw [e] at hta
      have hc := taggedHash_any 16 6 _ _ _ L wr (hta.ss 16 16 HL.out.1 (by omega)) hT1.1 hT1.2
      rw [HTe.out] at hc
      clear hta e hT1
      go_wp2_with fail
      refine hc.mono ?_
      rintro e w1 ⟨rfl, hb1⟩
      go_wp2
      go_ret
      exact ⟨rfl, hbel.trans (hb1.mono hbel.size)⟩

def NoR (w : World) (i : Value) (wr : World) : Prop := i = .int .i64 0 ∧ Below w.heap.size w wr
theorem PublicOf_no (s : ByteArray) (a : Int) (w : World) (hs : s.size ≤ 1100000) (h : ¬ (s.size ≤ 100 ∧ (0 ≤ a ∧ a ≤ 15))) :
    Calls Tryd.prog 14 #[.string s, .int .i64 a] w fun e w' => e = .returned (.string ⟨#[]⟩) ∧ Below w.heap.size w w' := by
  have HS : Hid (∀ W, Calls Tryd.prog 10 #[.string s, .int .i64 a, .int .i64 0, .int .i64 0] W fun e w' => e = .returned (.string ⟨#[]⟩) ∧ Below W.heap.size W w') := fun W => SecretOf_no s a 0 0 W hs (by omega)
  clear h
  go_enter Tryd.func14, Tryd.ntmps14
  go_wp2_with (refine wp_allocT rfl 41 16 rfl zeroA ?_)
  go_loopw [8] (fun i wr => NoR w i wr) (fun i _ => 16 - (intOf i).toNat)
  case atStart => exact ⟨rfl, (Below.refl _ _).alloc (Nat.le_refl _) _⟩
  case round =>
    obtain ⟨rfl, hbel⟩ := hrel
    go_wp2_with fail
    refine (HS.out _).mono ?_
    rintro e w1 ⟨rfl, hb1⟩
    go_wp2
    try rw [Exit.noGoto_ret]
    go_ret
    exact ⟨rfl, hbel.trans (hb1.mono hbel.size)⟩
theorem PublicOf_any (s : ByteArray) (a : Int) (w : World) (hs : s.size ≤ 1100000) (hT : Tb w) :
    Calls Tryd.prog 14 #[.string s, .int .i64 a] w fun e w' => e = .returned (.string (pubA s a)) ∧ Below w.heap.size w w' := by
  unfold pubA
  by_cases h : s.size ≤ 100 ∧ (0 ≤ a ∧ a ≤ 15)
  · rw [if_pos h]
    obtain ⟨h1, h2⟩ := h
    obtain ⟨a, rfl⟩ := Int.eq_ofNat_of_zero_le h2.1
    exact PublicOf_yes s a w h1 (by omega) hT
  · rw [if_neg h]
    exact PublicOf_no s a w hs h

/-- what the outer loop holds, and the inner one -/
def PsO (s : ByteArray) (a : Nat) (w : World) (v i : Value) (wr : World) : Prop :=
  ∃ m : Nat, m ≤ 8 ∧ i = .int .i64 m ∧ OS w.heap.size w wr v ((locksL s a).take (2 * m))
def PsI (s : ByteArray) (a m : Nat) (w : World) (v i : Value) (wr : World) : Prop :=
  ∃ k : Nat, k ≤ 2 ∧ i = .int .i64 k ∧ OS w.heap.size w wr v ((locksL s a).take (2 * m + k))

theorem locks_step (s : ByteArray) (a b c : Nat) (hb : b < 8) (hc : c < 2) : (locksL s a).take (2 * b + c) ++ [lockB (secB s a b c)] = (locksL s a).take (2 * b + (c + 1)) := by
  have hl := locksL_len s a
  have h := locksL_at s a (2 * b + c) (by omega)
  rw [show (2 * b + c) / 2 = b by omega, show (2 * b + c) % 2 = c by omega] at h
  rw [← h, show 2 * b + (c + 1) = (2 * b + c) + 1 by omega]
  exact List.take_append_getElem (by omega)

set_option maxRecDepth 100000 in
set_option maxHeartbeats 1000000 in
theorem sPublicOf_yes (s : ByteArray) (a : Nat) (w : World) (h1 : s.size ≤ 100) (h2 : a ≤ 15) :
    Calls Tryd.prog 13 #[.string s, .int .i64 a] w fun e w' => e = .returned (.string (pubB s a)) ∧ Below w.heap.size w w' := by
  have HST : Hid (PsO s a w (.slice (some ⟨w.heap.size, 0, none⟩) 0 0) (.int .i64 0) (w.alloc (.cells #[] 9))) := ⟨0, by omega, rfl, OS.made w⟩
  unfold pubB
  obtain ⟨T, hTe⟩ : ∃ T, hashB 6 (locksL s a) 16 = T := ⟨_, rfl⟩
  have HTe : Hid (hashB 6 (locksL s a) 16 = T) := hTe
  rw [hTe]
  clear hTe
  go_enter Tryd.func13, Tryd.ntmps13
  go_wp2
  go_loopw [5, 6] (fun v i wr => PsO s a w v i wr) (fun _ i _ => 8 - (intOf i).toNat)
  case atStart => exact HST.out
  case round =>
    obtain ⟨m, hm, rfl, hos⟩ := hrel
    clear HST
    by_cases hlt : m < 8
    · have i1 : (m : Int) < 8 := by omega
      have HS2 : Hid (PsI s a m w u5 (.int .i64 0) wr) := ⟨0, by omega, rfl, hos⟩
      clear hos
      go_wp2
      go_loopw [5, 7] (fun v i wr => PsI s a m w v i wr) (fun _ i _ => 2 - (intOf i).toNat)
      case atStart => exact HS2.out
      case round =>
        obtain ⟨k, hk, rfl, hos⟩ := hrel
        clear HS2
        by_cases hlt2 : k < 2
        · have i2 : (k : Int) < 2 := by omega
          have hst := locks_step s a m k hlt hlt2
          have hll : ((locksL s a).take (2 * m + k)).length ≤ 16 := by rw [List.length_take, locksL_len]; omega
          go_wp2_with fail
          refine (sSecretOf_at s a m k _ _ _ _ rfl rfl rfl h1 h2 (by omega) (by omega)).mono ?_
          rintro e w1 ⟨rfl, hb1⟩
          have hz := not_nil (show 0 < (secB s a m k).size by rw [secB_size _ _ _ _ h1]; omega)
          generalize secB s a m k = S at *
          have hos1 := hos.later hb1
          clear hos hb1
          go_wp2_with fail
          refine (sLockOf_any S _).mono ?_
          rintro e w2 ⟨rfl, hb2⟩
          have hos2 := hos1.later hb2
          have HN : Hid (∀ v W, OS w.heap.size w W v ((locksL s a).take (2 * m + k) ++ [lockB S]) → PsI s a m w v (.int .i64 ((k : Int) + 1)) W) := by
            rw [hst]
            exact fun v W hW => ⟨k + 1, by omega, by simp, hW⟩
          generalize (locksL s a).take (2 * m + k) = X at *
          generalize lockB S = K at *
          clear hos1 hb2 hst
          go_wp2_with (at_builtin; refine wp_appS rfl _ _ rfl w.heap.size w _ X rfl (hos2.alloc _) ⟨w2.heap.size, 0, none⟩ K rfl ?c1 ?c2 ?_)
          case c1 => exact one_text _ _ _
          case c2 => omega
          intro v' w3 hos3
          go_wp2
          go_roundw
          case rel => exact HN.out _ _ hos3
          case measure => simp [intOf]; omega
        · have hke : k = 2 := by omega
          subst hke
          have HN : Hid (PsO s a w _ (.int .i64 ((m : Int) + 1)) wr) := ⟨m + 1, by omega, by simp, by rw [show 2 * (m + 1) = 2 * m + 2 by omega]; exact hos⟩
          clear hos
          go_wp2
          go_roundw
          case rel => exact HN.out
          case measure => simp [intOf]; omega
    · have hme : m = 8 := by omega
      subst hme
      have e : (locksL s a).take (2 * 8) = locksL s a := List.take_of_length_le (by rw [locksL_len]; omega)
      rw [e] at hos
      obtain ⟨g, hss⟩ := hos.ss (by rw [locksL_len]; omega)
      have hc := sTagHash_any 6 _ 16 g 0 (locksL s a) wr hss
      have hbel := hos.2.1
      rw [HTe.out] at hc
      obtain ⟨aa, cc, hv⟩ := own_slice hos.1
      subst hv
      clear hos e hss
      go_wp2_with fail
      refine hc.mono ?_
      rintro e w1 ⟨rfl, hb1⟩
      go_wp2
      go_ret
      exact ⟨rfl, hbel.trans (hb1.mono hbel.size)⟩

theorem sPublicOf_no (s : ByteArray) (a : Int) (w : World) (hs : s.size ≤ 1100000) (h : ¬ (s.size ≤ 100 ∧ (0 ≤ a ∧ a ≤ 15))) :
    Calls Tryd.prog 13 #[.string s, .int .i64 a] w fun e w' => e = .returned (.string ⟨#[]⟩) ∧ Below w.heap.size w w' := by
  have HS : Hid (∀ W, Calls Tryd.prog 9 #[.string s, .int .i64 a, .int .i64 0, .int .i64 0] W fun e w' => e = .returned (.string ⟨#[]⟩) ∧ Below W.heap.size W w') := fun W => sSecretOf_no s a 0 0 W hs (by omega)
  clear h
  go_enter Tryd.func13, Tryd.ntmps13
  go_wp2
  go_loopw [6] (fun i wr => NoR w i wr) (fun i _ => 8 - (intOf i).toNat)
  case atStart => exact ⟨rfl, (Below.refl _ _).alloc (Nat.le_refl _) _⟩
  case round =>
    obtain ⟨rfl, hbel⟩ := hrel
    go_wp2
    go_loopw [7] (fun i wr => NoR w i wr) (fun i _ => 2 - (intOf i).toNat)
    case atStart => exact ⟨rfl, hbel⟩
    case round =>
      obtain ⟨rfl, hbel⟩ := hrel
      go_wp2_with fail
      refine (HS.out _).mono ?_
      rintro e w1 ⟨rfl, hb1⟩
      go_wp2
      try rw [Exit.noGoto_ret]
      go_ret
      exact ⟨rfl, hbel.trans (hb1.mono hbel.size)⟩
theorem sPublicOf_any (s : ByteArray) (a : Int) (w : World) (hs : s.size ≤ 1100000) :
    Calls Tryd.prog 13 #[.string s, .int .i64 a] w fun e w' => e = .returned (.string (pubA s a)) ∧ Below w.heap.size w w' := by
  unfold pubA
  by_cases h : s.size ≤ 100 ∧ (0 ≤ a ∧ a ≤ 15)
  · rw [if_pos h]
    obtain ⟨h1, h2⟩ := h
    obtain ⟨a, rfl⟩ := Int.eq_ofNat_of_zero_le h2.1
    exact sPublicOf_yes s a w h1 (by omega)
  · rw [if_neg h]
    exact sPublicOf_no s a w hs h

end Go.Proofs.YtkgibgadngeddaaDoor
