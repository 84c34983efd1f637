/-
  The walk of the law FnExactLogActs: it answers true of every name and every text.
-/
import Derived.Test.YtadikpmecjjgjaaDoorLb
namespace Go.Proofs.YtadikpmecjjgjaaDoor
open Go.RowKit
set_option linter.unusedVariables false

/-- a row of the acts L, made from B on -/
theorem grown_rowF {B g n : Nat} {w0 w w' : World} (h : Below B w0 w) (hg : w.grownBy w' (rowF g n)) (hs : B ≤ w.heap.size) (hB : B ≤ g) : Below B w0 w' := h.grown hg hs (fun k hk => by
  unfold rowF at hk
  split at hk
  · simp at hk
  · simp at hk; omega)

set_option maxRecDepth 100000 in
set_option maxHeartbeats 2000000 in
theorem logActsLaw_any (s t : ByteArray) (w : World) (hs : s.size ≤ 1048576) (ht : t.size ≤ 1048576) (hT : Tab w) (hE : Eh w) :
    Calls Tryd.prog 3 #[.string s, .string t] w fun e w' => e = .returned (.bool true) ∧ Below w.heap.size w w' := by
  have HS : Hid (∀ W, Calls Tryd.prog 6 #[.string s, .string t] W (AcP W (laA s t) (laB s t))) := fun W => sLogActs_any s t W hs ht
  have HI : Hid (∀ W, Below w.heap.size w W → Calls Tryd.prog 7 #[.string s, .string t] W (AcP W (laA s t) (laB s t))) := fun W hW => LogActs_any s t W hs ht (hT.later hW hT.pos) (hE.later hW)
  have hl2 : (laA s t).length ≤ 2 := laA_len s t
  generalize laA s t = L at *
  generalize laB s t = R at *
  clear hT hE
  go_enter Tryd.func3, Tryd.ntmps3
  go_wp2_with fail
  refine (HS.out _).mono ?_
  rintro e w1 ⟨vW, gW, rfl, tW1, gWB, b1⟩
  go_wp2_with fail
  refine (HI.out _ b1).mono ?_
  rintro e w2 ⟨vG, g, rfl, tG2, hgB, hb2⟩
  have tW2 := tW1.later hb2
  go_wp2_with fail
  refine (eqActS_yes vG vW g 0 gW 0 L _ tG2.1 tW2.1).mono ?_
  rintro e w3 ⟨rfl, hb3⟩
  have tG3 := tG2.later hb3
  have b13 : Below w1.heap.size w1 w3 := hb2.trans (hb3.mono hb2.size)
  go_wp2_with fail
  refine (markActS_full vG g L 1 1 _ rfl tG3 (by omega) (by omega)).mono ?_
  rintro e w4 ⟨rfl, tG4, hg4⟩
  have b14 : Below w1.heap.size w1 w4 := grown_rowF b13 hg4 b13.size hgB
  have tW4 := tW1.later b14
  go_wp2_with fail
  refine (heldActS_any vG g 1 1 L.length _ rfl tG4.1 (by omega) (by omega)).mono ?_
  rintro e w5 ⟨rfl, hb5⟩
  have tG5 := tG4.later hb5
  have tW5 := tW4.later hb5
  have b15 := b14.trans (hb5.mono b14.size)
  have b05 := b1.trans (b15.mono b1.size)
  have hne : ¬ (((1 + 4 * L.length : Nat) : Int) < 0) := by omega
  go_wp2_with fail
  refine (HI.out _ b05).mono ?_
  rintro e w6 ⟨vH, gH, rfl, tH6, gHB, hb6⟩
  have tG6 := tG5.later hb6
  have tW6 := tW5.later hb6
  have b06 := b05.trans (hb6.mono b05.size)
  go_wp2_with fail
  refine (eqActS_yes vH vW gH 0 gW 0 L _ tH6.1 tW6.1).mono ?_
  rintro e w7 ⟨rfl, hb7⟩
  have tG7 := tG6.later hb7
  have b07 := b06.trans (hb7.mono b06.size)
  go_wp2_with fail
  refine (heldActS_any vG g 1 1 L.length _ rfl tG7.1 (by omega) (by omega)).mono ?_
  rintro e w8 ⟨rfl, hb8⟩
  have b08 := b07.trans (hb8.mono b07.size)
  go_wp2
  go_ret
  exact ⟨rfl, b08⟩

end Go.Proofs.YtadikpmecjjgjaaDoor
