/-
  What a proof says: the program's and the specification's answers.
-/
import Derived.Test.YtojadcjoniejaaaLg
import Derived.Test.YtojadcjoniejaaaPwd
namespace Go.Proofs.Ytojadcjoniejaaa
open Go.RowKit Go.BigFrame Go.Sort
set_option linter.unusedVariables false
set_option linter.unusedSimpArgs false

set_option maxRecDepth 100000 in
set_option maxHeartbeats 1000000 in
theorem ProofSays_any (nm : ByteArray) (vb vs : Value) (gb ob : Nat) (B : List Le) (w : World) (hb : RS 2 lcs w vb gb ob B) (hsm : SmallL B) :
    Calls Try.prog 9 #[.string nm, .agg #[vb, vs]] w fun e w' => e = .returned (.tuple #[.string (LV.getV B nm), .bool (LV.getB B nm)]) ∧ Below w.heap.size w w' := by
  obtain ⟨p0, p1⟩ := run_rangeP (w := w) (p := 0) (v1 := vb) (v2 := vs) 31
  have hba : Below w.heap.size w (w.alloc (.cells #[vb, vs] 31)) := (Below.refl _ _).alloc (Nat.le_refl _) _
  have h1 := LeafGet_any vb gb ob B nm _ (hb.later hba) hsm
  clear hb hsm
  go_enter Try.func9, Try.ntmps9
  go_wp2_with fail
  refine h1.mono ?_
  rintro e w1 ⟨rfl, hb1⟩
  go_wp2
  go_ret2
  exact ⟨rfl, hba.trans (hb1.mono hba.size)⟩
set_option maxRecDepth 100000 in
set_option maxHeartbeats 1000000 in
theorem sProofSays_any (nm : ByteArray) (vb vs : Value) (gb ob : Nat) (B : List Le) (w : World) (hb : RS 2 lcs w vb gb ob B) :
    Calls Try.prog 7 #[.string nm, .agg #[vb, vs]] w fun e w' => e = .returned (.tuple #[.string (LV.getV B nm), .bool (LV.getB B nm)]) ∧ Below w.heap.size w w' := by
  obtain ⟨p0, p1⟩ := run_rangeP (w := w) (p := 0) (v1 := vb) (v2 := vs) 31
  have hba : Below w.heap.size w (w.alloc (.cells #[vb, vs] 31)) := (Below.refl _ _).alloc (Nat.le_refl _) _
  have h1 := sLeafGet_any vb gb ob B nm _ (hb.later hba)
  clear hb
  go_enter Try.func7, Try.ntmps7
  go_wp2_with fail
  refine h1.mono ?_
  rintro e w1 ⟨rfl, hb1⟩
  go_wp2
  go_ret2
  exact ⟨rfl, hba.trans (hb1.mono hba.size)⟩

end Go.Proofs.Ytojadcjoniejaaa
