/-
  An act that a law is handed.
-/
import Derived.Test.YtbmlphlknolieaaOpn
namespace Go.Proofs.Ytbmlphlknolieaa
open Go.ChangeShapes Go.WideShapes Go.ChangeAt Go.RowKit
set_option linter.unusedVariables false
set_option linter.unusedSimpArgs false

theorem cellsLAct : Try.prog.cellsOf 56 = 4 := by kernel_rfl

set_option maxRecDepth 100000 in
theorem act_of_trod {H : Type} {enc : TypeId × Value → H} {W : World} {fuel : Nat} {cs : List Value} {y : DataW H × List MemPlace} (h : DataW.trod enc Try.prog W 0 (fun _ => true) true fuel 56 cs = some y) :
    ∃ a : Ac, cs = acs a ∧ a.n.size ≤ maxLen ∧ a.t.size ≤ maxLen ∧ a.o.size ≤ maxLen := by
  obtain ⟨y0, y1, y2, y3, n, _, hl, h0, h1, h2, h3⟩ := Joins.trod_struct4 Try.underlying56 h
  rw [cellsLAct] at hl
  match cs, hl with
  | [c0, c1, c2, c3], _ =>
    simp [cells9', cells3'] at h0 h1 h2 h3
    obtain ⟨i0, e0, _, _⟩ := DataW.trod_int Try.underlying3 h0
    obtain ⟨s1, e1, _, b1⟩ := DataW.trod_string Try.underlying9 h1
    obtain ⟨s2, e2, _, b2⟩ := DataW.trod_string Try.underlying9 h2
    obtain ⟨s3, e3, _, b3⟩ := DataW.trod_string Try.underlying9 h3
    simp at e0 e1 e2 e3
    exact ⟨⟨i0, s1, s2, s3⟩, by rw [e0, e1, e2, e3]; rfl, b1, b2, b3⟩

/-- no text of it passes what a text may have -/
def FitA (a : Ac) : Prop := a.n.size ≤ 9223372036854775807 ∧ a.t.size ≤ 9223372036854775807 ∧ a.o.size ≤ 9223372036854775807

set_option maxRecDepth 100000 in
theorem open_act {H : Type} {enc : TypeId × Value → H} {W : World} {base : Nat} {v : Value} {d : DataW H} {p : List MemPlace} (hv : Value.okWide Try.prog W .any base 56 v) (h : DataW.Trod enc Try.prog W 0 (fun _ => true) true 56 v d p) :
    ∃ a : Ac, v = .agg #[.int .i64 a.k, .string a.n, .string a.t, .string a.o] ∧ FitA a := by
  obtain ⟨cs, rfl, hsz⟩ := okWide_struct Try.underlying56 hv
  obtain ⟨fuel, hf⟩ := h
  obtain ⟨a, e, b1, b2, b3⟩ := act_of_trod hf
  obtain ⟨l⟩ := cs
  have e' : l = acs a := by simpa [Value.cells] using e
  subst e'
  unfold maxLen at b1 b2 b3
  exact ⟨a, rfl, b1, b2, b3⟩

end Go.Proofs.Ytbmlphlknolieaa
