/-
  The walk of the law FnExactFoldUp: it answers true at every argument.
-/
import Derived.Test.YtmhoilliaeefcaaDoorFu
import Derived.Test.YtmhoilliaeefcaaDoorOs
namespace Go.Proofs.YtmhoilliaeefcaaDoor
open Go.RowKit Go.BigFrame
set_option linter.unusedVariables false
set_option linter.unusedSimpArgs false

set_option maxRecDepth 100000 in
set_option maxHeartbeats 1000000 in
theorem exactFoldUp_any (h : ByteArray) (ix l : Int) (a : Option Addr) (len cap : Nat) (ss : List ByteArray) (x : Int) (w : World) (hh : h.size ≤ maxLen) (hr : IsRowS w a len cap ss) (hT : Tb w) :
    Calls Tryd.prog 11 #[.string h, .int .i64 ix, .int .i64 l, .slice a len cap, .int .i64 x] w fun e w' => e = .returned (.bool true) ∧ Below w.heap.size w w' := by
  unfold maxLen at hh
  by_cases hb : 1048576 < h.size
  · clear hr hT
    go_enter Tryd.func11, Tryd.ntmps11
    go_wp2
    go_ret
    exact ⟨rfl, Below.refl _ _⟩
  · have hlm := hr.len
    unfold maxLen at hlm
    have qh : ¬ ((1048576 : Int) < (h.size : Int)) := by omega
    by_cases hl : 1048576 < len
    · clear hr hT
      go_enter Tryd.func11, Tryd.ntmps11
      go_wp2_with fail
      refine (szStringS_big a len cap _ hl hlm).mono ?_
      rintro e w1 ⟨rfl, rfl⟩
      go_wp2
      go_ret
      exact ⟨rfl, Below.refl _ _⟩
    · obtain ⟨g, o, s, hsl, hss, hsz⟩ := ss_of_row hr (by omega)
      have hzz := szStringS_any _ g o s w hss (fun y hy => hsz y hy) (by omega)
      by_cases hz : szL s ≤ 1048576
      · have eA : szA s = 1048576 - (szL s : Int) := by unfold szA; rw [if_pos hz]
        rw [eA] at hzz
        have HTO : Hid (∀ W, Below w.heap.size w W → Calls Tryd.prog 48 #[.slice a len cap] W fun e w' => ∃ g, e = .returned (.slice (some ⟨g, 0, none⟩) s.length s.length) ∧ W.heap.size ≤ g ∧ TB w' g s ∧ Below W.heap.size W w') := fun W hW => toStringS_any _ g o s W (hss.below hW hss.lt) (fun h0 => Nat.lt_of_lt_of_le (hss.lt h0) hW.size)
        have hs11 : s.length ≤ 1100000 := by omega
        have HS : Hid (∀ W g, TB W g s → Calls Tryd.prog 47 #[.string h, .int .i64 ix, .int .i64 l, .slice (some ⟨g, 0, none⟩) s.length s.length, .int .i64 x] W fun e w' => e = .returned (.string (fuB h ix l s x)) ∧ Below W.heap.size W w') := fun W g hg => sFoldUp_any h ix l _ g 0 s x W (hg.ss _ _ rfl hs11)
        have HI : Hid (∀ W g, Below w.heap.size w W → TB W g s → Calls Tryd.prog 21 #[.string h, .int .i64 ix, .int .i64 l, .slice (some ⟨g, 0, none⟩) s.length s.length, .int .i64 x] W fun e w' => e = .returned (.string (fuB h ix l s x)) ∧ Below W.heap.size W w') := fun W g hW hg => FoldUp_any h ix l _ g 0 s x W (hg.ss _ _ rfl hs11) (by omega) (hT.later hW)
        have HEQ : Hid (∀ W g1 g2, TB W g1 s → TB W g2 s → Calls Tryd.prog 42 #[.slice (some ⟨g1, 0, none⟩) s.length s.length, .slice (some ⟨g2, 0, none⟩) s.length s.length] W fun e w' => e = .returned (.bool true) ∧ ∃ q, w' = W.drewN q) := fun W g1 g2 h1 h2 => eqStringS_yes _ _ g1 0 g2 0 s W (h1.ss _ _ rfl hs11) (h2.ss _ _ rfl hs11)
        have qA : ¬ ((1048576 : Int) - (szL s : Int) < 0) := by omega
        generalize fuB h ix l s x = T at *
        generalize (szL s : Int) = Z at *
        generalize s.length = k at *
        clear hr hT hss hsz eA hsl
        go_enter Tryd.func11, Tryd.ntmps11
        go_wp2_with fail
        refine hzz.mono ?_
        rintro e w1 ⟨rfl, rfl⟩
        clear hzz
        go_wp2_with fail
        refine (HTO.out _ (Below.refl _ _)).mono ?_
        rintro e w2 ⟨g2, rfl, _, ht2, hb2⟩
        go_wp2_with fail
        refine (HS.out _ g2 ht2).mono ?_
        rintro e w3 ⟨rfl, hb3⟩
        have b3 := hb2.trans (hb3.mono hb2.size)
        clear HS ht2 hb2 hb3
        go_wp2_with fail
        refine (HTO.out _ b3).mono ?_
        rintro e w4 ⟨g4, rfl, _, ht4, hb4⟩
        have b4 := b3.trans (hb4.mono b3.size)
        go_wp2_with fail
        refine (HI.out _ g4 b4 ht4).mono ?_
        rintro e w5 ⟨rfl, hb5⟩
        have b5 := b4.trans (hb5.mono b4.size)
        have HT5 : Hid (TB w5 g4 s) := ht4.below hb5 ht4.lt
        clear HI ht4 hb4 hb5 b3 b4
        go_wp2_with fail
        refine (HTO.out _ b5).mono ?_
        rintro e w6 ⟨g6, rfl, _, ht6, hb6⟩
        have b6 := b5.trans (hb6.mono b5.size)
        have HT6 : Hid (TB w6 g4 s) := HT5.out.below hb6 HT5.out.lt
        go_wp2_with fail
        refine (HEQ.out _ g4 g6 HT6.out ht6).mono ?_
        rintro e w7 ⟨rfl, q, rfl⟩
        clear HT5 HT6 ht6 hb6 b5 HTO HEQ
        go_wp2
        go_ret
        exact ⟨rfl, below_drn b6 q⟩
      · have eA : szA s = -1 := by unfold szA; rw [if_neg hz]
        rw [eA] at hzz
        clear hr hT hss hsz eA
        go_enter Tryd.func11, Tryd.ntmps11
        go_wp2_with fail
        refine hzz.mono ?_
        rintro e w1 ⟨rfl, rfl⟩
        go_wp2
        go_ret
        exact ⟨rfl, Below.refl _ _⟩

end Go.Proofs.YtmhoilliaeefcaaDoor
