/-
  A seal that a law is handed: a head, a number, and three rows of texts that were there.
-/
import Derived.Test.YtmfoliocibjdnaaDoorHp
import Derived.Test.YtmfoliocibjdnaaDoorSga
namespace Go.Proofs.YtmfoliocibjdnaaDoor
open Go.ChangeShapes Go.WideShapes Go.ChangeAt Go.RowKit
set_option linter.unusedVariables false
set_option linter.unusedSimpArgs false

theorem cellsSealL : Tryd.prog.cellsOf 86 = 8 := by kernel_rfl
theorem cells3S : Tryd.prog.cellsOf 3 = 1 := by kernel_rfl
theorem cellsTS : Tryd.prog.cellsOf 24 = 1 := by kernel_rfl

set_option maxRecDepth 100000 in
theorem sig_of_trod {H : Type} {enc : TypeId × Value → H} {W : World} {fuel : Nat} {cs : List Value} {y : DataW H × List MemPlace} (h : DataW.trod enc Tryd.prog W 0 (fun _ => true) true fuel 73 cs = some y) :
    ∃ (i : Int) (a1 : Option Addr) (n1 k1 : Nat) (z1 : List ByteArray) (a2 : Option Addr) (n2 k2 : Nat) (z2 : List ByteArray) (a3 : Option Addr) (n3 k3 : Nat) (z3 : List ByteArray),
      cs = [.int .i64 i, .slice a1 n1 k1, .slice a2 n2 k2, .slice a3 n3 k3] ∧ IsRowS W a1 n1 k1 z1 ∧ IsRowS W a2 n2 k2 z2 ∧ IsRowS W a3 n3 k3 z3 := by
  obtain ⟨y0, y1, y2, y3, n, _, hl, h0, h1, h2, h3⟩ := Joins.trod_struct4 Tryd.underlying73 h
  rw [cellsSig] at hl
  match cs, hl with
  | [c0, c1, c2, c3], _ =>
    simp [cells3S, cellsTS] at h0 h1 h2 h3
    obtain ⟨i0, e0, _, _⟩ := DataW.trod_int Tryd.underlying3 h0
    obtain ⟨a1, n1, k1, z1, rfl, r1⟩ := row_of_trod h1
    obtain ⟨a2, n2, k2, z2, rfl, r2⟩ := row_of_trod h2
    obtain ⟨a3, n3, k3, z3, rfl, r3⟩ := row_of_trod h3
    simp at e0
    subst e0
    exact ⟨i0, a1, n1, k1, z1, a2, n2, k2, z2, a3, n3, k3, z3, rfl, r1, r2, r3⟩

set_option maxRecDepth 100000 in
theorem open_seal {H : Type} {enc : TypeId × Value → H} {W : World} {base : Nat} {v : Value} {d : DataW H} {p : List MemPlace} (hv : Value.okWide Tryd.prog W .any base 86 v) (h : DataW.Trod enc Tryd.prog W 0 (fun _ => true) true 86 v d p) :
    ∃ (x : Hd) (i : Int) (a1 : Option Addr) (n1 k1 : Nat) (z1 : List ByteArray) (a2 : Option Addr) (n2 k2 : Nat) (z2 : List ByteArray) (a3 : Option Addr) (n3 k3 : Nat) (z3 : List ByteArray),
      v = .agg #[.int .i64 x.h, .int .i64 x.e, .string x.r, .string x.p, .int .i64 i, .slice a1 n1 k1, .slice a2 n2 k2, .slice a3 n3 k3] ∧ HV.FitH x ∧ IsRowS W a1 n1 k1 z1 ∧ IsRowS W a2 n2 k2 z2 ∧ IsRowS W a3 n3 k3 z3 := by
  obtain ⟨cs, rfl, hsz⟩ := okWide_struct Tryd.underlying86 hv
  obtain ⟨fuel, hf⟩ := h
  obtain ⟨y0, y1, n, _, hl, h0, h1⟩ := trod_struct2 Tryd.underlying86 hf
  rw [cellsSealL] at hl
  have hc0 : Tryd.prog.cellsOf 77 = 4 := HV.cellsLHead
  have hc1 : Tryd.prog.cellsOf 73 = 4 := cellsSig
  simp only [hc0, hc1] at h0 h1
  obtain ⟨x, ex, b1, b2⟩ := HV.head_of_trod h0
  obtain ⟨i, a1, n1, k1, z1, a2, n2, k2, z2, a3, n3, k3, z3, es, r1, r2, r3⟩ := sig_of_trod h1
  obtain ⟨l⟩ := cs
  have hl' : l.length = 8 := by simpa [Value.cells] using hl
  unfold maxLen at b1 b2
  refine ⟨x, i, a1, n1, k1, z1, a2, n2, k2, z2, a3, n3, k3, z3, ?_, ⟨b1, b2⟩, r1, r2, r3⟩
  have e0 : l.take 4 = hcs x := by simpa [Value.cells] using ex
  have e1 : (l.drop 4).take 4 = [.int .i64 i, .slice a1 n1 k1, .slice a2 n2 k2, .slice a3 n3 k3] := by simpa [Value.cells] using es
  have e2 : l = l.take 4 ++ (l.drop 4).take 4 := by
    rw [List.take_of_length_le (l := l.drop 4) (by simp; omega), List.take_append_drop]
  rw [e2, e0, e1]
  rfl

end Go.Proofs.YtmfoliocibjdnaaDoor
