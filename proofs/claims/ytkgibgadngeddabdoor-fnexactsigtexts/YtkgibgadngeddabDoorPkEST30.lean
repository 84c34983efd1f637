/-
  Texts laid together: Sga.
-/
import Derived.Test.YtkgibgadngeddabDoorPkEST2
import Derived.Lib.SmallJoins
import Derived.ProofKit
/-
  A signature that is handed to a law: its number, and three rows of texts that were there.
-/
namespace Go.Proofs.YtkgibgadngeddabDoor
open Go.ChangeShapes Go.WideShapes Go.ChangeAt Go.RowKit
set_option linter.unusedVariables false

theorem cellsSig : Tryd.prog.cellsOf 24 = 4 := by kernel_rfl
theorem cells9 : Tryd.prog.cellsOf 9 = 1 := by kernel_rfl

theorem row_of_trod {H : Type} {enc : TypeId × Value → H} {W : World} {fuel : Nat} {v : Value} {y : DataW H × List MemPlace} (h : DataW.trod enc Tryd.prog W 0 (fun _ => true) true fuel 22 [v] = some y) :
    ∃ (a : Option Addr) (len cap : Nat) (zs : List ByteArray), v = .slice a len cap ∧ IsRowS W a len cap zs := by
  rcases open_strings Tryd.underlying22 Tryd.underlying9 cells9 h with ⟨hcs, _⟩ | ⟨x, l, c, zs, hcs, _, hl, hm, hz, _, hcell, hwz⟩
  · simp at hcs
    exact ⟨none, 0, 0, [], hcs, .inl ⟨rfl, rfl, rfl, rfl⟩⟩
  · simp at hcs
    exact ⟨some x, l, c, zs, hcs, .inr ⟨_, rfl, hl, hm, by simp at hz; omega, hcell, hwz⟩⟩

set_option maxRecDepth 100000 in
theorem open_sig {H : Type} {enc : TypeId × Value → H} {W : World} {base : Nat} {v : Value} {d : DataW H} {p : List MemPlace} (hv : Value.okWide Tryd.prog W .any base 24 v) (h : DataW.Trod enc Tryd.prog W 0 (fun _ => true) true 24 v d p) :
    ∃ (i : Int) (a1 : Option Addr) (n1 k1 : Nat) (z1 : List ByteArray) (a2 : Option Addr) (n2 k2 : Nat) (z2 : List ByteArray) (a3 : Option Addr) (n3 k3 : Nat) (z3 : List ByteArray),
      v = .agg #[.int .i64 i, .slice a1 n1 k1, .slice a2 n2 k2, .slice a3 n3 k3] ∧ IsRowS W a1 n1 k1 z1 ∧ IsRowS W a2 n2 k2 z2 ∧ IsRowS W a3 n3 k3 z3 := by
  obtain ⟨v0, v1, v2, v3, y0, y1, y2, y3, n, rfl, _, _, h0, h1, h2, h3⟩ := Joins.open_agg4 Tryd.underlying24 (by kernel_rfl) cellsSig hv h
  obtain ⟨i, e0, _, _⟩ := DataW.trod_int Tryd.underlying3 h0
  obtain ⟨a1, n1, k1, z1, rfl, r1⟩ := row_of_trod h1
  obtain ⟨a2, n2, k2, z2, rfl, r2⟩ := row_of_trod h2
  obtain ⟨a3, n3, k3, z3, rfl, r3⟩ := row_of_trod h3
  simp at e0
  subst e0
  exact ⟨i, a1, n1, k1, z1, a2, n2, k2, z2, a3, n3, k3, z3, rfl, r1, r2, r3⟩

end Go.Proofs.YtkgibgadngeddabDoor
