/-
  A trust that a law is handed: a row of texts that was there, and two numbers.
-/
import Derived.Test.YtfojmagcoipbnaaPop
namespace Go.Proofs.Ytfojmagcoipbnaa
open Go.ChangeShapes Go.WideShapes Go.ChangeAt Go.RowKit
set_option linter.unusedVariables false
set_option linter.unusedSimpArgs false

theorem cellsTrL : Try.prog.cellsOf 40 = 3 := by kernel_rfl
theorem cells3T : Try.prog.cellsOf 3 = 1 := by kernel_rfl
theorem cellsTST : Try.prog.cellsOf 23 = 1 := by kernel_rfl

set_option maxRecDepth 100000 in
theorem open_trust {H : Type} {enc : TypeId × Value → H} {W : World} {base : Nat} {v : Value} {d : DataW H} {p : List MemPlace} (hv : Value.okWide Try.prog W .any base 40 v) (h : DataW.Trod enc Try.prog W 0 (fun _ => true) true 40 v d p) :
    ∃ (v1 : Value) (g1 o1 : Nat) (R : List ByteArray) (K N : Int), v = .agg #[v1, .int .i64 K, .int .i64 N] ∧ IsRowT W v1 g1 o1 R := by
  obtain ⟨cs, rfl, hsz⟩ := okWide_struct Try.underlying40 hv
  obtain ⟨fuel, hf⟩ := h
  obtain ⟨y0, y1, y2, n, _, hl, h0, h1, h2⟩ := Deep.trod_struct3 Try.underlying40 hf
  rw [cellsTrL] at hl
  obtain ⟨l⟩ := cs
  have hl' : l.length = 3 := by simpa [Value.cells] using hl
  match l, hl' with
  | [c0, c1, c2], _ =>
    simp [Value.cells, cells3T, cellsTST] at h0 h1 h2
    obtain ⟨g1, o1, R, r1⟩ := rowT_of_trod h0
    obtain ⟨i1, e1, _, _⟩ := DataW.trod_int Try.underlying3 h1
    obtain ⟨i2, e2, _, _⟩ := DataW.trod_int Try.underlying3 h2
    simp at e1 e2
    subst e1
    subst e2
    exact ⟨c0, g1, o1, R, i1, i2, rfl, r1⟩

end Go.Proofs.Ytfojmagcoipbnaa
