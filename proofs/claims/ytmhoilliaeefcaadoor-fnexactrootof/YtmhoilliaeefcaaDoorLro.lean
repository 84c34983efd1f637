/-
  The walk of the law FnExactRootOf: it answers true of every row of leaves and every width.
-/
import Derived.Test.YtmhoilliaeefcaaDoorIh
import Derived.Test.YtmhoilliaeefcaaDoorLl
import Derived.Deep.RegionHeld3
namespace Go.Proofs.YtmhoilliaeefcaaDoor
open Go.RowKit Go.BigFrame Go.Sort
set_option linter.unusedVariables false
set_option linter.unusedSimpArgs false

set_option maxRecDepth 100000 in
set_option maxHeartbeats 2000000 in
theorem exactRootOf_any (v : Value) (g o : Nat) (L : List Le) (x : Int) (w : World) (hT : Tb w) (hv : IsRowL w v g o L) :
    Calls Tryd.prog 9 #[v, .int .i64 x] w fun e w' => e = .returned (.bool true) ∧ Below w.heap.size w w' := by
  have HSZ := szLeafS_row v g o L 1048576 _ hv (by omega) (by omega)
  have hsv : ∃ a n cap, v = .slice a n cap := by obtain ⟨a, n, cap, h, _⟩ := hv; exact ⟨a, n, cap, h⟩
  have HR : Hid (IsRowL w v g o L) := hv
  obtain ⟨a, n, cap, rfl⟩ := hsv
  clear hv
  go_enter Tryd.func9, Tryd.ntmps9
  go_wp2_with fail
  refine HSZ.mono ?_
  rintro e w1 ⟨A, rfl, hb1, _, hA⟩
  by_cases hneg : A < 0
  · clear hA HSZ HR hT
    go_wp2
    go_ret
    exact ⟨rfl, hb1⟩
  · obtain ⟨hrs, hsm, hlen⟩ := hA (by omega)
    have HTO : Hid (∀ W, Below w.heap.size w W → Calls Tryd.prog 39 #[.slice a n cap] W fun e w' => ∃ g, e = .returned (.slice (some ⟨g, 0, none⟩) L.length L.length) ∧ RW 2 lcs w' (.slice (some ⟨g, 0, none⟩) L.length L.length) g L ∧ W.heap.size ≤ g ∧ Below W.heap.size W w') := fun W hW => toLeafS_in _ g o L W (hrs.later hW)
    have HCS : Hid (∀ W s q, RS 2 lcs W s q 0 L → Calls Tryd.prog 22 #[s, .int .i64 x] W fun e w' => e = .returned (.string (nhB L 0 0 x)) ∧ Below W.heap.size W w') := fun W s q h => sRootOf_any s q 0 L x W h hsm
    have HCI : Hid (∀ W s q, Below w.heap.size w W → RS 2 lcs W s q 0 L → Calls Tryd.prog 20 #[s, .int .i64 x] W fun e w' => e = .returned (.string (nhB L 0 0 x)) ∧ Below W.heap.size W w') := fun W s q hW h => RootOf_any s q 0 L x W h hsm (hT.later hW)
    generalize nhB L 0 0 x = R at *
    clear hrs hA HSZ HR hsm hT
    go_wp2_with fail
    refine (HTO.out _ hb1).mono ?_
    rintro e w2 ⟨g2, rfl, hr2, _, hb2⟩
    have b2 := hb1.trans (hb2.mono hb1.size)
    go_wp2_with fail
    refine (HCS.out _ _ g2 hr2.1).mono ?_
    rintro e w3 ⟨rfl, hb3⟩
    have b3 := b2.trans (hb3.mono b2.size)
    clear hr2 hb2 b2 hb3 hb1 HCS
    go_wp2_with fail
    refine (HTO.out _ b3).mono ?_
    rintro e w4 ⟨g4, rfl, hr4, hg4, hb4⟩
    have b4 := b3.trans (hb4.mono b3.size)
    go_wp2_with fail
    refine (HCI.out _ _ g4 b4 hr4.1).mono ?_
    rintro e w5 ⟨rfl, hb5⟩
    have b5 := b4.trans (hb5.mono b4.size)
    have HR5 : Hid (RW 2 lcs w5 (.slice (some ⟨g4, 0, none⟩) L.length L.length) g4 L) := hr4.later hb5
    clear hr4 hb4 b4 hb5 b3 HCI
    go_wp2_with fail
    refine (HTO.out _ b5).mono ?_
    rintro e w6 ⟨g6, rfl, hr6, hg6, hb6⟩
    have b6 := b5.trans (hb6.mono b5.size)
    go_wp2_with fail
    refine (eqLeafS_yes _ _ g4 0 g6 0 L _ (HR5.out.later hb6).1 hr6.1).mono ?_
    rintro e w7 ⟨rfl, hb7⟩
    have b7 := b6.trans (hb7.mono b6.size)
    clear hr6 hb6 hb7 b5 b6 HR5 HTO
    go_wp2
    go_ret
    exact ⟨rfl, b7⟩

end Go.Proofs.YtmhoilliaeefcaaDoor
