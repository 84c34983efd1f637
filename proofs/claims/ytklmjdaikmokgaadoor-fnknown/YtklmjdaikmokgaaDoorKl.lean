/-
  The law FnKnown, walked.
-/
import Derived.Test.YtklmjdaikmokgaaDoorKnownv
import Derived.Test.YtklmjdaikmokgaaDoorTrn
namespace Go.Proofs.YtklmjdaikmokgaaDoor
open Go.RowKit
set_option linter.unusedVariables false

theorem hex_known (t h : ByteArray) (hh : hexB (digB t) = h) (ht : t.size ≤ 1048576) (w : World) (hK : TabK w) (hF : TabF w) :
    Calls Tryd.prog 13 #[.string t] w fun e w' => e = .returned (.string h) ∧ Below w.heap.size w w' := by
  subst hh
  exact DigestHex_any t w ht hK hF

set_option maxRecDepth 100000 in
set_option maxHeartbeats 1000000 in
theorem knownLaw_any (ao : Option Addr) (len cap : Nat) (w : World) (hc : Code w.heap.size w (.slice ao len cap)) (hK : TabK w) (hF : TabF w) :
    Calls Tryd.prog 3 #[.slice ao len cap] w fun e w' => e = .returned (.bool true) ∧ Below w.heap.size w w' := by
  have hlen : len ≤ 1048576 := by obtain ⟨_, _, _, _, _, he, hl, _⟩ := hc; cases he; exact hl
  have HC : Hid (Code w.heap.size w (.slice ao len cap)) := hc
  have HT : Hid (∀ w', Below w.heap.size w w' → TabK w' ∧ TabF w') := fun w' hb => ⟨hK.later hb hK.pos, hF.later hb hF.pos⟩
  have ca := hex_known texta knowna knowna_is (by show 0 ≤ 1048576; omega)
  have cb := hex_known textb knownb knownb_is (by show 3 ≤ 1048576; omega)
  have cc := hex_known textc knownc knownc_is (by show 56 ≤ 1048576; omega)
  have CA : Hid (∀ w', Below w.heap.size w w' → Calls Tryd.prog 13 #[.string texta] w' fun e w'' => e = .returned (.string knowna) ∧ Below w'.heap.size w' w'') := fun w' hb => ca w' (HT.out w' hb).1 (HT.out w' hb).2
  have CB : Hid (∀ w', Below w.heap.size w w' → Calls Tryd.prog 13 #[.string textb] w' fun e w'' => e = .returned (.string knownb) ∧ Below w'.heap.size w' w'') := fun w' hb => cb w' (HT.out w' hb).1 (HT.out w' hb).2
  have CC : Hid (∀ w', Below w.heap.size w w' → Calls Tryd.prog 13 #[.string textc] w' fun e w'' => e = .returned (.string knownc) ∧ Below w'.heap.size w' w'') := fun w' hb => cc w' (HT.out w' hb).1 (HT.out w' hb).2
  clear hc hK hF ca cb cc HT
  go_enter Tryd.func3, Tryd.ntmps3
  go_wp2_with fail
  refine (big_no ao len cap _ hlen).mono ?_
  rintro e w1 ⟨rfl, rfl⟩
  go_wp2_with fail
  refine (DrawPlaces_any _ _ HC.out).mono ?_
  rintro e w3 ⟨u, rfl, hpl, hb3⟩
  obtain ⟨g, pc, xs, rfl, hxl, hxs, hg1, hg2, hcells⟩ := hpl
  have x0 := hcells 0 (by omega)
  have y0 : xs[0] < 10000 := hxs _ (List.getElem_mem _)
  generalize xs[0] = p0 at *
  clear hcells hxs
  by_cases h0 : p0 % 3 = 0
  · have q0 : (p0 : Int) % 3 = 0 := by omega
    go_wp2_with fail
    have tl := knowna_list
    refine (CA.out _ hb3).mono ?_
    rintro e w4 ⟨rfl, hb4⟩
    go_wp2
    go_ret
    exact ⟨rfl, hb3.trans (hb4.mono hb3.size)⟩
  · by_cases h1 : p0 % 3 = 1
    · have q1 : (p0 : Int) % 3 = 1 := by omega
      go_wp2_with fail
      have tl := knownb_list
      refine (CB.out _ hb3).mono ?_
      rintro e w4 ⟨rfl, hb4⟩
      go_wp2
      go_ret
      exact ⟨rfl, hb3.trans (hb4.mono hb3.size)⟩
    · have q2 : (p0 : Int) % 3 = 2 := by omega
      go_wp2_with fail
      have tl := knownc_list
      refine (CC.out _ hb3).mono ?_
      rintro e w4 ⟨rfl, hb4⟩
      go_wp2
      go_ret
      exact ⟨rfl, hb3.trans (hb4.mono hb3.size)⟩
end Go.Proofs.YtklmjdaikmokgaaDoor
