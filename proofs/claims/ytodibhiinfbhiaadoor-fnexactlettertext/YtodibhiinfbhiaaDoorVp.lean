/-
  A letter that a law is handed.
-/
import Derived.Test.YtodibhiinfbhiaaDoorVb
import Derived.Lib.SmallJoins
import Derived.Deep.Strs
import Derived.Deep.Slices
import Derived.ProofKit
import Derived.ChangeSame
namespace Go.Proofs.YtodibhiinfbhiaaDoor
open Go.ChangeShapes Go.WideShapes Go.ChangeAt Go.RowKit
set_option linter.unusedVariables false
set_option linter.unusedSimpArgs false
namespace VV

theorem cellsLLetter : Tryd.prog.cellsOf 36 = 6 := by kernel_rfl
theorem cells9ltr : Tryd.prog.cellsOf 9 = 1 := by kernel_rfl
theorem cells3ltr : Tryd.prog.cellsOf 3 = 1 := by kernel_rfl

theorem trod_own {H : Type} {enc : TypeId × Value → H} {W : World} {t : TypeId} {f0 f1 f2 f3 f4 f5 : Field} {fuel : Nat} {cs : List Value} {x : DataW H × List MemPlace} (ht : Tryd.prog.underlying t = some (.struct #[f0, f1, f2, f3, f4, f5])) (h : DataW.trod enc Tryd.prog W 0 (fun _ => true) true fuel t cs = some x) :
    ∃ y0 y1 y2 y3 y4 y5 n, True ∧ cs.length = Tryd.prog.cellsOf t ∧ DataW.trod enc Tryd.prog W 0 (fun _ => true) true n f0.type ((cs.drop f0.offset).take (Tryd.prog.cellsOf f0.type)) = some y0 ∧ DataW.trod enc Tryd.prog W 0 (fun _ => true) true n f1.type ((cs.drop f1.offset).take (Tryd.prog.cellsOf f1.type)) = some y1 ∧ DataW.trod enc Tryd.prog W 0 (fun _ => true) true n f2.type ((cs.drop f2.offset).take (Tryd.prog.cellsOf f2.type)) = some y2 ∧ DataW.trod enc Tryd.prog W 0 (fun _ => true) true n f3.type ((cs.drop f3.offset).take (Tryd.prog.cellsOf f3.type)) = some y3 ∧ DataW.trod enc Tryd.prog W 0 (fun _ => true) true n f4.type ((cs.drop f4.offset).take (Tryd.prog.cellsOf f4.type)) = some y4 ∧ DataW.trod enc Tryd.prog W 0 (fun _ => true) true n f5.type ((cs.drop f5.offset).take (Tryd.prog.cellsOf f5.type)) = some y5 := by
  obtain ⟨xs, n, _, rfl, hl, hlen, hf⟩ := DataW.trod_struct ht h
  match xs, hlen with
  | [y0, y1, y2, y3, y4, y5], _ => exact ⟨y0, y1, y2, y3, y4, y5, n, trivial, hl, by simpa using hf 0 f0 rfl, by simpa using hf 1 f1 rfl, by simpa using hf 2 f2 rfl, by simpa using hf 3 f3 rfl, by simpa using hf 4 f4 rfl, by simpa using hf 5 f5 rfl⟩
set_option maxRecDepth 100000 in
theorem of_trod {H : Type} {enc : TypeId × Value → H} {W : World} {fuel : Nat} {cs : List Value} {y : DataW H × List MemPlace} (h : DataW.trod enc Tryd.prog W 0 (fun _ => true) true fuel 36 cs = some y) :
    ∃ a : Ltr, cs = kcs a ∧ a.r.size ≤ maxLen := by
  obtain ⟨y0, y1, y2, y3, y4, y5, n, _, hl, h0, h1, h2, h3, h4, h5⟩ := trod_own Tryd.underlying36 h
  rw [cellsLLetter] at hl
  match cs, hl with
  | [c0, c1, c2, c3, c4, c5], _ =>
    simp [cells9ltr, cells3ltr] at h0 h1 h2 h3 h4 h5
    obtain ⟨s0, e0, _, _⟩ := DataW.trod_int Tryd.underlying3 h0
    obtain ⟨s1, e1, _, _⟩ := DataW.trod_int Tryd.underlying3 h1
    obtain ⟨s2, e2, _, _⟩ := DataW.trod_int Tryd.underlying3 h2
    obtain ⟨s3, e3, _, _⟩ := DataW.trod_int Tryd.underlying3 h3
    obtain ⟨s4, e4, _, _⟩ := DataW.trod_int Tryd.underlying3 h4
    obtain ⟨s5, e5, _, b5⟩ := DataW.trod_string Tryd.underlying9 h5
    simp at e0 e1 e2 e3 e4 e5
    exact ⟨⟨s0, s1, s2, s3, s4, s5⟩, by rw [e0, e1, e2, e3, e4, e5]; rfl, b5⟩

/-- no text of it passes what a text may have -/
def Fit (a : Ltr) : Prop := a.r.size ≤ 9223372036854775807

set_option maxRecDepth 100000 in
theorem open_it {H : Type} {enc : TypeId × Value → H} {W : World} {base : Nat} {v : Value} {d : DataW H} {p : List MemPlace} (hv : Value.okWide Tryd.prog W .any base 36 v) (h : DataW.Trod enc Tryd.prog W 0 (fun _ => true) true 36 v d p) :
    ∃ a : Ltr, v = .agg #[.int .i64 a.k, .int .i64 a.f, .int .i64 a.t, .int .i64 a.e, .int .i64 a.y, .string a.r] ∧ Fit a := by
  obtain ⟨cs, rfl, hsz⟩ := okWide_struct Tryd.underlying36 hv
  obtain ⟨fuel, hf⟩ := h
  obtain ⟨a, e, q0⟩ := of_trod hf
  obtain ⟨l⟩ := cs
  have e' : l = kcs a := by simpa [Value.cells] using e
  subst e'
  unfold maxLen at q0
  exact ⟨a, rfl, q0⟩
end VV

end Go.Proofs.YtodibhiinfbhiaaDoor
