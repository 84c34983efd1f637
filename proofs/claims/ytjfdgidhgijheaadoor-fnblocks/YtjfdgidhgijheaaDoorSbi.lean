/-
  What ShaBlock answers, the program's and the specification's.
-/
import Derived.Test.YtjfdgidhgijheaaDoorSb
import Derived.Test.YtjfdgidhgijheaaDoorBlock
import Derived.StillTailTactics
namespace Go.Proofs.YtjfdgidhgijheaaDoor
open Go.RowKit Go.BigFrame
set_option linter.unusedVariables false

/-- as the chapter wants a state and a block -/
def fitB (l : List Int) (b : ByteArray) : Prop := l.length = 8 ∧ b.size = 64 ∧ ∀ j (h : j < l.length), inR l[j]
def outI (l : List Int) (b : ByteArray) : List Int := stI (H.block (ofI l) keyF (bAt b)) 8

/-- the answer: a new row, which holds r -/
def Ans (w w' : World) (e : Ending) (r : List Int) : Prop := ∃ g c, e = .returned (.slice (some ⟨g, 0, none⟩) r.length c) ∧ w.heap.size ≤ g ∧ IB w' g r ∧ Below w.heap.size w w'

set_option maxRecDepth 100000 in
set_option maxHeartbeats 400000 in
theorem ShaBlock_yes (g o c : Nat) (l : List Int) (b : ByteArray) (w : World) (hf : fitB l b) (hg : g < w.heap.size) (hc : ∀ j (h : j < l.length), w.cell? ⟨g, o + j, none⟩ = some (.int .i64 l[j])) (hK : TabK w) :
    Calls Tryd.prog 8 #[.slice (some ⟨g, o, none⟩) 8 c, .string b] w fun e w' => Ans w w' e (outI l b) := by
  obtain ⟨h8, hb, hin⟩ := hf
  have hkp := hK.pos
  have HK : Hid (TabK w) := hK
  have HIN : Hid (∀ j (h : j < l.length), inR l[j]) := hin
  have hso := stateOf_eight g o c l w h8 hg hc
  clear hK hin hc
  go_enter Tryd.func8, Tryd.ntmps8
  go_wp2_with fail
  refine hso.mono ?_
  rintro e w1 ⟨R, hb1, ⟨_, rfl, hR⟩ | ⟨hno, _⟩⟩
  case inr => exact absurd HIN.out hno
  clear hso
  have hs1 := hb1.size
  have ha : Arr (w1.alloc (.cells R 40)) w1.heap.size 40 8 (ofI l) := Arr.agg hR
  have hb2 : Below w.heap.size w (w1.alloc (.cells R 40)) := hb1.alloc hs1 _
  have HA : Hid (Arr (w1.alloc (.cells R 40)) w1.heap.size 40 8 (ofI l)) := ha
  go_wp2_with (first | (refine wp_allocArr rfl 40 8 rfl zero52 ?_) | (refine wp_storeNew rfl 40 8 _ _ rfl w1 _ R _ rfl (zeros_size 8) hR rfl rfl size52 ?_) | (refine wp_loadArr rfl 40 _ rfl w1.heap.size 40 8 (ofI l) 38 rfl HA.out Tryd.underlying40 size52 ?_; intro R1 hR1))
  refine (after_any R1 (ofI l) b hb _ hR1 (HK.out.later hb2 hkp)).mono ?_
  rintro e w3 ⟨R3, rfl, hR3, hb3⟩
  go_wp2_with fail
  refine (list_any R3 _ _ hR3).mono ?_
  rintro e w4 ⟨g4, rfl, hg4, hib4, hb4⟩
  have b3 := hb2.trans (hb3.mono hb2.size)
  go_wp2
  go_ret
  exact ⟨g4, 8, by rw [outI, stI_len]; rfl, Nat.le_trans b3.size hg4, hib4, b3.trans (hb4.mono b3.size)⟩

set_option maxRecDepth 100000 in
set_option maxHeartbeats 400000 in
theorem ShaBlock_no (g o n c : Nat) (l : List Int) (b : ByteArray) (w : World) (hn : l.length = n) (hf : ¬ fitB l b) (hl : n ≤ 1100000) (hbs : b.size ≤ 1100000) (hg : g < w.heap.size) (hc : ∀ j (h : j < l.length), w.cell? ⟨g, o + j, none⟩ = some (.int .i64 l[j])) :
    Calls Tryd.prog 8 #[.slice (some ⟨g, o, none⟩) n c, .string b] w fun e w' => Ans w w' e l := by
  by_cases h8 : n = 8
  · subst h8
    have hso := stateOf_eight g o c l w hn hg hc
    have HF : Hid (¬ fitB l b) := hf
    clear hf
    go_enter Tryd.func8, Tryd.ntmps8
    go_wp2_with fail
    refine hso.mono ?_
    rintro e w1 ⟨R, hb1, ⟨hin, rfl, hR⟩ | ⟨hno, rfl, hR⟩⟩
    case inl =>
      have h64 : ¬ b.size = 64 := fun h => HF.out ⟨hn, h, hin⟩
      have h64' : ¬ (b.size : Int) = 64 := by omega
      clear hin hso
      have hz2 : (w1.alloc (.cells R 40)).heap.size = w1.heap.size + 1 := by simp
      have hs1 := hb1.size
      have hb2 : Below w.heap.size w (w1.alloc (.cells R 40)) := hb1.alloc hs1 _
      have HC2 : Hid (∀ j (h : j < l.length), ((w1.alloc (.cells R 40)).alloc (.cells #[] 3)).cell? ⟨g, o + j, none⟩ = some (.int .i64 l[j])) := fun j hj => ((hb2.alloc (by omega) (.cells #[] 3)).cell (p := ⟨g, o + j, none⟩) hg).trans (hc j hj)
      have HOW : Hid (((w1.alloc (.cells R 40)).alloc (.cells #[] 3)).ownsRow (w1.heap.size + 1) 3 1 (.slice (some ⟨w1.heap.size + 1, 0, none⟩) 0 0) 0 []) := by
        have := World.ownsRow_made (base := w1.heap.size + 1) (e := 3) (size := 1) (w1.alloc (.cells R 40)) #[] 0 (by omega) (by decide) (by simp)
        rw [hz2] at this
        exact this
      have HB3 : Hid (Below w.heap.size w ((w1.alloc (.cells R 40)).alloc (.cells #[] 3))) := hb2.alloc (by omega) _
      go_wp2_with (first | (refine wp_allocArr rfl 40 8 rfl zero52 ?_) | (refine wp_storeNew rfl 40 8 _ _ rfl w1 _ R _ rfl (zeros_size 8) hR rfl rfl size52 ?_) | (at_builtin; refine wp_appI rfl _ _ rfl (w1.heap.size + 1) (w1.heap.size + 1) rfl HOW.out (by simp) g o 8 c l hn rfl HC2.out hl ?_; intro g' c' w5 hg5 hib5 hb5))
      go_wp2
      go_ret
      exact ⟨g', c', by rw [hn]; rfl, by omega, hib5, HB3.out.trans (hb5.mono (by omega))⟩
    case inr =>
      clear hno hso
      have hz2 : (w1.alloc (.cells R 40)).heap.size = w1.heap.size + 1 := by simp
      have hs1 := hb1.size
      have hb2 : Below w.heap.size w (w1.alloc (.cells R 40)) := hb1.alloc hs1 _
      have HC2 : Hid (∀ j (h : j < l.length), ((w1.alloc (.cells R 40)).alloc (.cells #[] 3)).cell? ⟨g, o + j, none⟩ = some (.int .i64 l[j])) := fun j hj => ((hb2.alloc (by omega) (.cells #[] 3)).cell (p := ⟨g, o + j, none⟩) hg).trans (hc j hj)
      have HOW : Hid (((w1.alloc (.cells R 40)).alloc (.cells #[] 3)).ownsRow (w1.heap.size + 1) 3 1 (.slice (some ⟨w1.heap.size + 1, 0, none⟩) 0 0) 0 []) := by
        have := World.ownsRow_made (base := w1.heap.size + 1) (e := 3) (size := 1) (w1.alloc (.cells R 40)) #[] 0 (by omega) (by decide) (by simp)
        rw [hz2] at this
        exact this
      have HB3 : Hid (Below w.heap.size w ((w1.alloc (.cells R 40)).alloc (.cells #[] 3))) := hb2.alloc (by omega) _
      go_wp2_with (first | (refine wp_allocArr rfl 40 8 rfl zero52 ?_) | (refine wp_storeNew rfl 40 8 _ _ rfl w1 _ R _ rfl (zeros_size 8) hR rfl rfl size52 ?_) | (at_builtin; refine wp_appI rfl _ _ rfl (w1.heap.size + 1) (w1.heap.size + 1) rfl HOW.out (by simp) g o 8 c l hn rfl HC2.out hl ?_; intro g' c' w5 hg5 hib5 hb5))
      go_wp2
      go_ret
      exact ⟨g', c', by rw [hn]; rfl, by omega, hib5, HB3.out.trans (hb5.mono (by omega))⟩
  · have hso := stateOf_len g o n c w h8 hl
    go_enter Tryd.func8, Tryd.ntmps8
    go_wp2_with fail
    refine hso.mono ?_
    rintro e w1 ⟨R, rfl, hR, hb1⟩
    clear hso
    have hz2 : (w1.alloc (.cells R 40)).heap.size = w1.heap.size + 1 := by simp
    have hs1 := hb1.size
    have hb2 : Below w.heap.size w (w1.alloc (.cells R 40)) := hb1.alloc hs1 _
    have HC2 : Hid (∀ j (h : j < l.length), ((w1.alloc (.cells R 40)).alloc (.cells #[] 3)).cell? ⟨g, o + j, none⟩ = some (.int .i64 l[j])) := fun j hj => ((hb2.alloc (by omega) (.cells #[] 3)).cell (p := ⟨g, o + j, none⟩) hg).trans (hc j hj)
    have HOW : Hid (((w1.alloc (.cells R 40)).alloc (.cells #[] 3)).ownsRow (w1.heap.size + 1) 3 1 (.slice (some ⟨w1.heap.size + 1, 0, none⟩) 0 0) 0 []) := by
      have := World.ownsRow_made (base := w1.heap.size + 1) (e := 3) (size := 1) (w1.alloc (.cells R 40)) #[] 0 (by omega) (by decide) (by simp)
      rw [hz2] at this
      exact this
    have HB3 : Hid (Below w.heap.size w ((w1.alloc (.cells R 40)).alloc (.cells #[] 3))) := hb2.alloc (by omega) _
    go_wp2_with (first | (refine wp_allocArr rfl 40 8 rfl zero52 ?_) | (refine wp_storeNew rfl 40 8 _ _ rfl w1 _ R _ rfl (zeros_size 8) hR rfl rfl size52 ?_) | (at_builtin; refine wp_appI rfl _ _ rfl (w1.heap.size + 1) (w1.heap.size + 1) rfl HOW.out (by simp) g o n c l hn rfl HC2.out hl ?_; intro g' c' w5 hg5 hib5 hb5))
    go_wp2
    go_ret
    exact ⟨g', c', by rw [hn]; rfl, by omega, hib5, HB3.out.trans (hb5.mono (by omega))⟩
end Go.Proofs.YtjfdgidhgijheaaDoor
