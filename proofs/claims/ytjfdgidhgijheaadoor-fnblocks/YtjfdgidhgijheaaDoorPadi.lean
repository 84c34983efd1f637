/-
  The walk of the program's PadText.
-/
import Derived.Test.YtjfdgidhgijheaaDoorPadw
namespace Go.Proofs.YtjfdgidhgijheaaDoor
open Go.RowKit
set_option linter.unusedVariables false

/-- the row when the last i bytes of the length stand -/
def padRow (l : List UInt8) (i : Nat) : List UInt8 := padHead l (padZ l.length + (8 - i)) ++ (lenL (8 * l.length) 8).drop (8 - i)
theorem padRow_len (l : List UInt8) (i : Nat) (h : i ≤ 8) : (padRow l i).length = (l.length + 72) / 64 * 64 := by
  unfold padRow
  rw [List.length_append, padHead_len, List.length_drop, lenL_len]
  unfold padZ
  omega
theorem padRow_start (l : List UInt8) : (l ++ List.replicate ((l.length + 72) / 64 * 64 - l.length) 0).set l.length 128 = padRow l 0 := by
  have e : (l.length + 72) / 64 * 64 - l.length = (padZ l.length + 8) + 1 := by unfold padZ; omega
  rw [e, List.replicate_succ, List.set_append_right _ _ (Nat.le_refl _)]
  simp [padRow, padHead, lenL_len]
theorem padRow_end (l : List UInt8) : padRow l 8 = padL l := by simp [padRow, padL, padHead]
theorem padRow_step (l : List UInt8) (i : Nat) (h : i < 8) : (padRow l i).set ((l.length + 72) / 64 * 64 - 1 - i) (lenB (8 * l.length) (7 - i)) = padRow l (i + 1) := by
  have e1 : 8 - i = (8 - (i + 1)) + 1 := by omega
  have e2 : (l.length + 72) / 64 * 64 - 1 - i = (padHead l (padZ l.length + (8 - (i + 1)))).length := by rw [padHead_len]; unfold padZ; omega
  unfold padRow
  rw [e1, ← Nat.add_assoc, ← padHead_succ, List.append_assoc, e2, List.set_append_right _ _ (Nat.le_refl _)]
  congr 1
  simp
  have e3 : 7 - i < (lenL (8 * l.length) 8).length := by rw [lenL_len]; omega
  rw [List.drop_eq_getElem_cons e3]
  congr 1
  simp [lenL]

def PadRel3 (t : ByteArray) (w : World) (i : Value) (wr : World) : Prop :=
  ∃ j : Nat, j ≤ 8 ∧ i = .int .i64 (j : Int) ∧ Byt wr w.heap.size (padRow t.data.toList j) ∧ Below w.heap.size w wr

set_option maxRecDepth 100000 in
set_option maxHeartbeats 1000000 in
theorem PadText_any (t : ByteArray) (w : World) (ht : t.size ≤ 1048576) :
    Calls Tryd.prog 6 #[.string t] w fun e w' => e = .returned (.string ⟨(padL t.data.toList).toArray⟩) ∧ Below w.heap.size w w' := by
  obtain ⟨M, hm⟩ : ∃ M : Nat, (t.size + 72) / 64 * 64 = M := ⟨_, rfl⟩
  obtain ⟨w1, hmk, hb1, hbel1, hsz1⟩ := Byt.made M (by omega) w
  obtain ⟨w2, hcp, hb2, hbel2, hsz2⟩ := hb1.copy t 3 (by omega)
  have eM : (M : Int) = ((t.size : Int) + 1 + 8 + 64 - 1) / 64 * 64 := by omega
  rw [eM] at hmk
  have hl : t.data.toList.length = t.size := Array.length_toList
  obtain ⟨x1, c1⟩ := hb2.has t.size (by simp [hl]; omega)
  have f1 := hb2.frozen t.size
  have hM : t.size + 9 ≤ M := by omega
  have hM2 : M ≤ 2000000 := by omega
  have hst := hb2.set t.size 128 (padRow t.data.toList 0) (by have := padRow_start t.data.toList; rw [hl, hm] at this; exact this)
  have hbel : Below w.heap.size w (w2.setCell ⟨w.heap.size, t.size, none⟩ (.int .u8 ((128 : UInt8).toNat : Int))) := (hbel1.trans (hbel2 _ (Nat.le_refl _))).setCell (p := ⟨w.heap.size, t.size, none⟩) (Nat.le_refl _) _
  have HST : Hid (Byt (w2.setCell ⟨w.heap.size, t.size, none⟩ (.int .u8 128)) w.heap.size (padRow t.data.toList 0) ∧ Below w.heap.size w (w2.setCell ⟨w.heap.size, t.size, none⟩ (.int .u8 128))) := ⟨hst, hbel⟩
  have HL : Hid (t.data.toList.length = t.size) := hl
  have HM : Hid ((t.size + 72) / 64 * 64 = M) := hm
  clear hst hbel hb1 hb2 hbel1 hbel2 hsz1 hsz2 hl hm eM
  go_enter Tryd.func6, Tryd.ntmps6
  go_wp2
  go_loopw [28] (fun i wr => PadRel3 t w i wr) (fun i _ => 8 - (intOf i).toNat)
  case atStart => exact ⟨0, by omega, rfl, HST.out.1, HST.out.2⟩
  case round =>
    obtain ⟨j, hj, rfl, hb, hbel⟩ := hrel
    have hlen := padRow_len t.data.toList j hj
    rw [HL.out, HM.out] at hlen
    clear HST c1 f1 hcp hmk
    by_cases h8 : j = 8
    · subst h8
      have hcv := hb.str M M hlen
      rw [padRow_end] at hcv
      clear hb hlen
      go_wp2
      go_ret
      exact ⟨rfl, hbel⟩
    · have hB := lenB_nat (8 * t.size) (7 - j)
      have hS := padRow_step t.data.toList j (by omega)
      rw [HL.out, HM.out] at hS
      obtain ⟨x1, c1⟩ := hb.has (M - 1 - j) (by omega)
      have f1 := hb.frozen (M - 1 - j)
      have HB : Hid ((lenB (8 * t.size) (7 - j)).toNat = 8 * t.size / 256 ^ (7 - (7 - j)) % 256) := hB
      have HS : Hid ((padRow t.data.toList j).set (M - 1 - j) (lenB (8 * t.size) (7 - j)) = padRow t.data.toList (j + 1)) := hS
      obtain ⟨I, hI⟩ : ∃ I : Int, (j : Int) = I := ⟨_, rfl⟩
      rw [hI]
      have H8 : (j = 0 ∧ I = 0) ∨ (j = 1 ∧ I = 1) ∨ (j = 2 ∧ I = 2) ∨ (j = 3 ∧ I = 3) ∨ (j = 4 ∧ I = 4) ∨ (j = 5 ∧ I = 5) ∨ (j = 6 ∧ I = 6) ∨ (j = 7 ∧ I = 7) := by omega
      clear hB hS h8 hj hlen hI
      rcases H8 with ⟨rfl, rfl⟩ | ⟨rfl, rfl⟩ | ⟨rfl, rfl⟩ | ⟨rfl, rfl⟩ | ⟨rfl, rfl⟩ | ⟨rfl, rfl⟩ | ⟨rfl, rfl⟩ | ⟨rfl, rfl⟩
      · have i0 : (0 : Int) ≤ (M : Int) - 1 := by omega
        have i1 : (M : Int) - 1 < (M : Int) := by omega
        have i2 : ((M : Int) - 1).toNat = M - 1 := by omega
        simp only [Nat.sub_zero] at c1 f1
        go_wp2
        go_roundw
        case rel => exact ⟨1, by omega, by go_num, hb.setx _ _ _ _ (by have := HB.out; omega) HS.out, hbel.setCell (p := ⟨w.heap.size, M - 1 - 0, none⟩) (Nat.le_refl _) _⟩
        case measure => simp [intOf]
      · have i0 : (0 : Int) ≤ (M : Int) - 1 - 1 := by omega
        have i1 : (M : Int) - 1 - 1 < (M : Int) := by omega
        have i2 : ((M : Int) - 1 - 1).toNat = M - 1 - 1 := by omega
        go_wp2
        go_roundw
        case rel => exact ⟨2, by omega, by go_num, hb.setx _ _ _ _ (by have := HB.out; omega) HS.out, hbel.setCell (p := ⟨w.heap.size, M - 1 - 1, none⟩) (Nat.le_refl _) _⟩
        case measure => simp [intOf]
      · have i0 : (0 : Int) ≤ (M : Int) - 1 - 2 := by omega
        have i1 : (M : Int) - 1 - 2 < (M : Int) := by omega
        have i2 : ((M : Int) - 1 - 2).toNat = M - 1 - 2 := by omega
        go_wp2
        go_roundw
        case rel => exact ⟨3, by omega, by go_num, hb.setx _ _ _ _ (by have := HB.out; omega) HS.out, hbel.setCell (p := ⟨w.heap.size, M - 1 - 2, none⟩) (Nat.le_refl _) _⟩
        case measure => simp [intOf]
      · have i0 : (0 : Int) ≤ (M : Int) - 1 - 3 := by omega
        have i1 : (M : Int) - 1 - 3 < (M : Int) := by omega
        have i2 : ((M : Int) - 1 - 3).toNat = M - 1 - 3 := by omega
        go_wp2
        go_roundw
        case rel => exact ⟨4, by omega, by go_num, hb.setx _ _ _ _ (by have := HB.out; omega) HS.out, hbel.setCell (p := ⟨w.heap.size, M - 1 - 3, none⟩) (Nat.le_refl _) _⟩
        case measure => simp [intOf]
      · have i0 : (0 : Int) ≤ (M : Int) - 1 - 4 := by omega
        have i1 : (M : Int) - 1 - 4 < (M : Int) := by omega
        have i2 : ((M : Int) - 1 - 4).toNat = M - 1 - 4 := by omega
        go_wp2
        go_roundw
        case rel => exact ⟨5, by omega, by go_num, hb.setx _ _ _ _ (by have := HB.out; omega) HS.out, hbel.setCell (p := ⟨w.heap.size, M - 1 - 4, none⟩) (Nat.le_refl _) _⟩
        case measure => simp [intOf]
      · have i0 : (0 : Int) ≤ (M : Int) - 1 - 5 := by omega
        have i1 : (M : Int) - 1 - 5 < (M : Int) := by omega
        have i2 : ((M : Int) - 1 - 5).toNat = M - 1 - 5 := by omega
        go_wp2
        go_roundw
        case rel => exact ⟨6, by omega, by go_num, hb.setx _ _ _ _ (by have := HB.out; omega) HS.out, hbel.setCell (p := ⟨w.heap.size, M - 1 - 5, none⟩) (Nat.le_refl _) _⟩
        case measure => simp [intOf]
      · have i0 : (0 : Int) ≤ (M : Int) - 1 - 6 := by omega
        have i1 : (M : Int) - 1 - 6 < (M : Int) := by omega
        have i2 : ((M : Int) - 1 - 6).toNat = M - 1 - 6 := by omega
        go_wp2
        go_roundw
        case rel => exact ⟨7, by omega, by go_num, hb.setx _ _ _ _ (by have := HB.out; omega) HS.out, hbel.setCell (p := ⟨w.heap.size, M - 1 - 6, none⟩) (Nat.le_refl _) _⟩
        case measure => simp [intOf]
      · have i0 : (0 : Int) ≤ (M : Int) - 1 - 7 := by omega
        have i1 : (M : Int) - 1 - 7 < (M : Int) := by omega
        have i2 : ((M : Int) - 1 - 7).toNat = M - 1 - 7 := by omega
        go_wp2
        go_roundw
        case rel => exact ⟨8, by omega, by go_num, hb.setx _ _ _ _ (by have := HB.out; omega) HS.out, hbel.setCell (p := ⟨w.heap.size, M - 1 - 7, none⟩) (Nat.le_refl _) _⟩
        case measure => simp [intOf]

end Go.Proofs.YtjfdgidhgijheaaDoor
