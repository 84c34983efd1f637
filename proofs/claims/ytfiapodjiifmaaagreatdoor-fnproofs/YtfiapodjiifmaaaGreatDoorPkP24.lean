/-
  Texts laid together: Arg.
-/
import Derived.Test.YtfiapodjiifmaaaGreatDoorPkP3
import Derived.ProofKit
import Derived.OpenShut
import Derived.ChangeOld
/-
  What a law is told of the bytes that came in, and how they serve as drawn ones.
-/
namespace Go.Proofs.YtfiapodjiifmaaaGreatDoor
open Go.ChangeShapes Go.WideShapes Go.ChangeAt Go.RowKit
set_option linter.unusedVariables false

/-- a slice of bytes that came in: nil, or a row of cap cells, each a byte -/
def IsRow (w : World) (a : Option Addr) (len cap : Nat) (zs : List Int) : Prop :=
  (a = none ∧ len = 0 ∧ cap = 0 ∧ zs = []) ∨
  ∃ x, a = some x ∧ len ≤ cap ∧ cap ≤ maxLen ∧ zs.length = cap ∧ (∀ i, i < zs.length → w.cell? (x.add i) = some (.int .u8 (zs.getD i 0))) ∧ ∀ n ∈ zs, (Lit.int .u8 n).wf = true

theorem IsRow.len {w : World} {a : Option Addr} {len cap : Nat} {zs : List Int} (h : IsRow w a len cap zs) : len ≤ maxLen := by
  rcases h with ⟨_, rfl, _⟩ | ⟨x, _, h1, h2, _⟩
  · omega
  · omega

theorem code_of_row {w : World} {a : Option Addr} {len cap : Nat} {zs : List Int} (h : IsRow w a len cap zs) (hl : len ≤ 1048576) : Code w.heap.size w (.slice a len cap) := by
  rcases h with ⟨rfl, rfl, rfl, rfl⟩ | ⟨x, rfl, h1, h2, h3, hc, hw⟩
  · exact ⟨none, 0, 0, 0, 0, rfl, by omega, fun h => by omega, fun j hj => by omega⟩
  · refine ⟨some x, x.block, x.off, len, cap, rfl, hl, ?_, ?_⟩
    · intro h0
      have h4 := hc 0 (by omega)
      have e : x.add 0 = x := by unfold Addr.add; simp
      rw [e] at h4
      have hs := World.cell?_spot h4
      refine ⟨?_, ?_⟩
      · cases x
        simp at hs
        subst hs
        rfl
      · rcases Nat.lt_or_ge x.block w.heap.size with hlt | hge
        · exact hlt
        · simp [World.cell?, Array.getElem?_eq_none hge] at h4
    · intro j hj
      have h4 := hc j (by omega)
      have e : x.add j = ⟨x.block, x.off + j, none⟩ := by
        have hs := World.cell?_spot h4
        unfold Addr.add at hs ⊢
        split
        · rename_i hz
          subst hz
          cases x
          simp at hs
          simp [hs]
        · rfl
      rw [e] at h4
      have hm : zs.getD j 0 ∈ zs := by
        have hjl : j < zs.length := by omega
        rw [List.getD_eq_getElem?_getD, List.getElem?_eq_getElem hjl]
        exact List.getElem_mem _
      have hwz := hw _ hm
      have hz : 0 ≤ zs.getD j 0 ∧ zs.getD j 0 ≤ 255 := by simpa [Lit.wf, IntKind.min, IntKind.max, IntKind.signed, IntKind.bits] using hwz
      refine ⟨(zs.getD j 0).toNat, by omega, ?_⟩
      rw [h4]
      congr 2
      omega

end Go.Proofs.YtfiapodjiifmaaaGreatDoor
