/-
  Drawn chains of heads.
-/
import Derived.Test.YtlpbfafcaleifaaDoorHo
import Derived.Test.YtlpbfafcaleifaaDoorPkJ
import Derived.Test.YtlpbfafcaleifaaDoorPkC
import Derived.Test.YtlpbfafcaleifaaDoorPkG
namespace Go.Proofs.YtlpbfafcaleifaaDoor
open Go.RowKit Go.BigFrame Go.Sort
set_option linter.unusedVariables false
set_option linter.unusedSimpArgs false

theorem cutB_size (t : ByteArray) (k : Nat) (h : k ≤ 32) : (cutB (digB t) k).size = k := by
  unfold cutB
  rw [ByteArray.size_extract, digB_size]
  omega

theorem l13Root_in (B : Nat) (w0 w : World) (g : Nat) (v : Value) (hc : Cur B w0 w g v) :
    Calls Tryd.prog 50 #[.pointer (some ⟨g, 0, none⟩)] w fun e w' => ∃ r : ByteArray, r.size = 16 ∧ e = .returned (.string r) ∧ Cur B w0 w' g v ∧ w.grownBy w' (some g) := by
  go_enter Tryd.func50, Tryd.ntmps50
  go_wp2_with fail
  refine (l01Text_in B w0 _ g v 2 2 rfl hc (by omega)).mono ?_
  rintro e w1 ⟨l, hl, rfl, hc1, hg1⟩
  have hlz : (⟨l.toArray⟩ : ByteArray).size = 2 := by show l.toArray.size = 2; simpa using hl
  generalize (⟨l.toArray⟩ : ByteArray) = T at *
  have hC := sCutDigest_yes T 16 w1 (by omega) (by omega) (by omega)
  have hz := cutB_size T 16 (by omega)
  generalize cutB (digB T) 16 = R at *
  go_wp2_with fail
  refine hC.mono ?_
  rintro e w2 ⟨rfl, hb2⟩
  have HF : Hid (Cur B w0 w2 g v ∧ w.grownBy w2 (some g)) := ⟨hc1.kept (grown_belowH (row := none) hb2) (by simp) hc1.size (fun k hk => by cases hk), hg1.trans (grown_belowH hb2)⟩
  clear hC hc1 hg1 hb2
  go_wp2
  go_ret
  exact ⟨R, hz, rfl, HF.out.1, HF.out.2⟩

namespace HV
theorem ChOk.at {L : List Hd} {h : Int} (hc : ChOk L h) (i : Nat) (hi : i < L.length) : okH L[i] = true ∧ L[i].h = h ∧ L[i].e = (i : Int) + 1 ∧ L[i].p = lastP (L.take i) := by
  obtain ⟨h1, h2⟩ := hc i hi hi
  have := behind_iff.1 h2
  rw [List.length_take, Nat.min_eq_left (by omega)] at this
  exact ⟨h1, this⟩
theorem ChOk.len {L : List Hd} {h : Int} (hc : ChOk L h) : L.length ≤ 4 := by
  rcases Nat.lt_or_ge 4 L.length with h1 | h1
  · have h2 := hc.at 4 h1
    have := (okH_iff.1 h2.1).2.1.2
    rw [h2.2.2.1] at this
    omega
  · exact h1
theorem ChOk.nil (h : Int) : ChOk [] h := fun i hi _ => absurd hi (by simp)
theorem ChOk.add {L : List Hd} {h : Int} {r : ByteArray} (hc : ChOk L h) (hk : okH (behind L h r) = true) : ChOk (L ++ [behind L h r]) h := by
  intro i hi _
  rw [List.length_append] at hi
  have hi' : i < L.length + 1 := by simpa using hi
  rcases Nat.lt_or_ge i L.length with h1 | h1
  · rw [List.getElem_append_left h1, List.take_append_of_le_length (by omega)]
    exact hc i h1 h1
  · have : i = L.length := by omega
    subst this
    rw [List.getElem_append_right (Nat.le_refl _)]
    simp only [Nat.sub_self, List.getElem_cons_zero]
    rw [List.take_left']
    · exact ⟨hk, rfl⟩
    · rfl
end HV

def HnR (B : Nat) (w0 w : World) (g : Nat) (v : Value) (hs : Int) (u i : Value) (wr : World) : Prop := ∃ (m : Nat) (L : List Hd), m ≤ 5 ∧ i = .int .i64 m ∧ Hid (HnI B w0 w g v u L wr ∧ HV.ChOk L hs)
/-- what l13Chain answers -/
def HnP (B : Nat) (w0 w : World) (g : Nat) (v : Value) (e : Ending) (w' : World) : Prop := ∃ (u : Value) (L : List Hd) (hs : Int), e = .returned (.tuple #[u, .int .i64 hs]) ∧ (0 ≤ hs ∧ hs < 3) ∧ HV.ChOk L hs ∧ HnI B w0 w g v u L w'

set_option maxRecDepth 100000 in
set_option maxHeartbeats 2000000 in
theorem l13Chain_in (B : Nat) (w0 w : World) (g : Nat) (v : Value) (hc : Cur B w0 w g v) :
    Calls Tryd.prog 33 #[.pointer (some ⟨g, 0, none⟩)] w (HnP B w0 w g v) := by
  have hB := hc.size
  have hgl := hc.lt
  go_enter Tryd.func33, Tryd.ntmps33
  go_wp2_with fail
  refine (l01Below_in B w0 _ g v 3 3 rfl hc (by omega) (by omega)).mono ?_
  rintro e w1 ⟨hs, hhs, rfl, hc1, hg1⟩
  clear hc
  have HST : Hid (HnR B w0 w g v (hs : Int) (.slice (some ⟨w1.heap.size, 0, none⟩) 0 0) (.int .i64 0) (w1.alloc (.cells #[] 33))) :=
    ⟨0, [], by omega, rfl, ⟨hc1.kept (World.grownBy_alloc w1 _ none) (by simp) hc1.size (fun k hk => by cases hk), (OH.made w.heap.size w1 w1 (Below.refl _ _) hg1.size).self, hg1.trans (World.grownBy_alloc w1 _ (some g))⟩, HV.ChOk.nil _⟩
  clear hc1 hg1
  go_wp2
  go_loopw [5, 6] (fun u i wr => HnR B w0 w g v (hs : Int) u i wr) (fun _ i _ => 6 - (intOf i).toNat)
  case atStart => exact HST.out
  case round =>
    obtain ⟨m, L, hm, rfl, HI⟩ := hrel
    clear HST
    obtain ⟨au, cu, rfl⟩ := HI.out.1.2.1.shape
    go_wp2_with fail
    refine (l01Below_in B w0 _ g v 5 5 rfl HI.out.1.1 (by omega) (by omega)).mono ?_
    rintro e w1 ⟨j, hj, rfl, hc1, hg1⟩
    have HI1 : Hid (HnI B w0 w g v (.slice au L.length cu) L w1 ∧ HV.ChOk L (hs : Int)) := ⟨HI.out.1.drawn hc1 hg1, HI.out.2⟩
    clear hc1 hg1 HI
    by_cases hlt : m < j
    · have i1 : (m : Int) < (j : Int) := by omega
      go_wp2_with fail
      refine (l13Root_in B w0 _ g v HI1.out.1.1).mono ?_
      rintro e w2 ⟨r, hr, rfl, hc2, hg2⟩
      have HI2 : Hid (HnI B w0 w g v (.slice au L.length cu) L w2 ∧ HV.ChOk L (hs : Int)) := ⟨HI1.out.1.drawn hc2 hg2, HI1.out.2⟩
      clear hc2 hg2 HI1
      have hl4 := HI2.out.2.len
      obtain ⟨q, hrw, _, _⟩ := HI2.out.1.2.1.rw (by omega)
      have hN := sNextHead_any _ q 0 L (hs : Int) r w2 hrw.1
      have HNX : Hid (HV.nxOk L (hs : Int) r = true → HV.nxA L (hs : Int) r = HV.behind L (hs : Int) r ∧ HV.okH (HV.behind L (hs : Int) r) = true) := fun h => by
        have h' := h
        unfold HV.nxOk at h'
        exact ⟨by unfold HV.nxA; rw [if_pos h], (Bool.and_eq_true _ _ ▸ h').2⟩
      have HAD : Hid (HV.nxOk L (hs : Int) r = true → HV.ChOk (L ++ [HV.nxA L (hs : Int) r]) (hs : Int)) := fun h => by
        obtain ⟨h1, h2⟩ := HNX.out h
        rw [h1]
        exact HI2.out.2.add h2
      clear HNX hrw
      generalize HV.nxA L (hs : Int) r = X at *
      generalize HV.nxOk L (hs : Int) r = R at *
      go_wp2_with fail
      refine hN.mono ?_
      rintro e w3 ⟨rfl, hb3⟩
      have HI3 : Hid (HnI B w0 w g v (.slice au L.length cu) L (w3.alloc (.cells #[.int .i64 X.h, .int .i64 X.e, .string X.r, .string X.p] 33)) ∧ HV.ChOk L (hs : Int) ∧ RB (w3.alloc (.cells #[.int .i64 X.h, .int .i64 X.e, .string X.r, .string X.p] 33)) w3.heap.size X) := ⟨(HI2.out.1.below hb3).below ((Below.refl _ _).alloc (Nat.le_refl _) _), HI2.out.2, RB.new w3 X _⟩
      clear hN hb3 HI2
      cases R
      · have HK : Hid (HnI B w0 w g v (.slice au L.length cu) L (w3.alloc (.cells #[.int .i64 X.h, .int .i64 X.e, .string X.r, .string X.p] 33)) ∧ HV.ChOk L (hs : Int)) := ⟨HI3.out.1, HI3.out.2.1⟩
        clear HI3 HAD
        go_wp2
        go_roundw
        case rel => exact ⟨m + 1, L, by omega, by go_num, HK⟩
        case measure => simp [intOf]; omega
      · have hoa := HI3.out.1.2.1.later ((Below.refl _ _).alloc (Nat.le_refl _) (.cells #[.int .i64 X.h, .int .i64 X.e, .string X.r, .string X.p] 33))
        have z0 := HI3.out.2.2.c0
        have z1 := HI3.out.2.2.c1
        have z2 := HI3.out.2.2.c2
        have z3 := HI3.out.2.2.c3
        have HCH := HAD.out rfl
        have HI4 : Hid (HnI B w0 w g v (.slice au L.length cu) L (w3.alloc (.cells #[.int .i64 X.h, .int .i64 X.e, .string X.r, .string X.p] 33))) := HI3.out.1
        have HCC : Hid (HV.ChOk (L ++ [X]) (hs : Int)) := HCH
        clear HI3 HAD HCH
        have HRN : Hid (((w3.alloc (.cells #[.int .i64 X.h, .int .i64 X.e, .string X.r, .string X.p] 33)).alloc (.cells #[.int .i64 X.h, .int .i64 X.e, .string X.r, .string X.p] 33)).rangeAt (w3.heap.size + 1) 0 (hcs X)) := range_at (by simp) (range_new (w3.alloc (.cells #[.int .i64 X.h, .int .i64 X.e, .string X.r, .string X.p] 33)) (hcs X) 33)
        go_wp2_with (at_builtin; refine wp_headL rfl _ _ rfl w.heap.size (w3.alloc (.cells #[.int .i64 X.h, .int .i64 X.e, .string X.r, .string X.p] 33)) (.slice au L.length cu) L X rfl hoa _ rfl HRN.out (by omega) ?_)
        intro g5 cap5 w5 ho5 hg5 hl5
        have HK : Hid (HnI B w0 w g v (.slice (some ⟨g5, 0, none⟩) (L.length + 1) cap5) (L ++ [X]) w5 ∧ HV.ChOk (L ++ [X]) (hs : Int)) := ⟨HI4.out.app hgl hB ho5, HCC.out⟩
        clear ho5 hg5 hl5 hoa HRN HI4 HCC z0 z1 z2 z3
        go_wp2
        go_roundw
        case rel => exact ⟨m + 1, L ++ [X], by omega, by go_num, HK⟩
        case measure => simp [intOf]; omega
    · have i1 : ¬ (m : Int) < (j : Int) := by omega
      have HF : Hid (HnP B w0 w g v (.returned (.tuple #[.slice au L.length cu, .int .i64 (hs : Int)])) w1) := ⟨_, L, _, rfl, by omega, HI1.out.2, HI1.out.1⟩
      clear HI1
      go_wp2
      go_ret2
      exact HF.out

end Go.Proofs.YtlpbfafcaleifaaDoor
