/-
  Heads as plain words: when one is right, its text; rows of heads as they lie in memory.
-/
import Derived.Test.YtibkmlfigcfeoaaDoorFw
namespace Go.Proofs.YtibkmlfigcfeoaaDoor
open Go.RowKit Go.BigFrame Go.Sort
set_option linter.unusedVariables false
set_option linter.unusedSimpArgs false

structure Hd where
  h : Int
  e : Int
  r : ByteArray
  p : ByteArray

def hcs (x : Hd) : List Value := [.int .i64 x.h, .int .i64 x.e, .string x.r, .string x.p]
theorem hcs_len (x : Hd) : (hcs x).length = 4 := rfl
theorem RS.head {w : World} {v : Value} {g o : Nat} {l : List Hd} (h : RS 4 hcs w v g o l) (j : Nat) (hj : j < l.length) :
    w.cell? ⟨g, o + j * 4, none⟩ = some (.int .i64 l[j].h) ∧ w.cell? ⟨g, o + j * 4 + 1, none⟩ = some (.int .i64 l[j].e) ∧ w.cell? ⟨g, o + j * 4 + 2, none⟩ = some (.string l[j].r) ∧ w.cell? ⟨g, o + j * 4 + 3, none⟩ = some (.string l[j].p) := by
  obtain ⟨a, c, _, _, _, hc⟩ := h
  exact ⟨hc j hj 0 _ rfl, hc j hj 1 _ rfl, hc j hj 2 _ rfl, hc j hj 3 _ rfl⟩
theorem there4h {w : World} {g o : Nat} (h : w.there g o 4) : (∃ u, w.cell? ⟨g, o, none⟩ = some u) ∧ (∃ u, w.cell? ⟨g, o + 1, none⟩ = some u) ∧ (∃ u, w.cell? ⟨g, o + 2, none⟩ = some u) ∧ (∃ u, w.cell? ⟨g, o + 3, none⟩ = some u) ∧ w.frozen? ⟨g, o, none⟩ = false ∧ w.frozen? ⟨g, o + 1, none⟩ = false ∧ w.frozen? ⟨g, o + 2, none⟩ = false ∧ w.frozen? ⟨g, o + 3, none⟩ = false :=
  ⟨Option.isSome_iff_exists.1 (h 0 (by omega)).1, Option.isSome_iff_exists.1 (h 1 (by omega)).1, Option.isSome_iff_exists.1 (h 2 (by omega)).1, Option.isSome_iff_exists.1 (h 3 (by omega)).1, (h 0 (by omega)).2, (h 1 (by omega)).2, (h 2 (by omega)).2, (h 3 (by omega)).2⟩

theorem below_drnH {B : Nat} {a w : World} (h : Below B a w) (n : Nat) : Below B a (w.drewN n) := h.trans ⟨rfl, rfl, rfl, Nat.le_refl _, fun _ _ => rfl⟩
section
variable {fn : Func} {Rp : Ending → World → Prop} {a : Act} {w : World}
end

namespace HV
def pw (e : Int) : Nat := if e = 1 then 0 else 16
def OkH (x : Hd) : Prop := (0 ≤ x.h ∧ x.h < 3) ∧ (1 ≤ x.e ∧ x.e ≤ 4) ∧ x.r.size = 16 ∧ x.p.size = pw x.e
def okH (x : Hd) : Bool := decide ((0 ≤ x.h ∧ x.h < 3) ∧ (1 ≤ x.e ∧ x.e ≤ 4) ∧ x.r.size = 16 ∧ x.p.size = pw x.e)
theorem okH_iff {x : Hd} : okH x = true ↔ OkH x := by
  unfold okH OkH
  exact decide_eq_true_iff
theorem okH_no {x : Hd} : okH x = false ↔ ¬ OkH x := by
  unfold okH OkH
  exact decide_eq_false_iff_not
/-- its text, when it is right -/
def txtH (x : Hd) : ByteArray := ⟨#[UInt8.ofNat x.h.toNat, UInt8.ofNat x.e.toNat]⟩ ++ x.r ++ x.p
/-- .. and else nothing -/
def textH (x : Hd) : ByteArray := if okH x = true then txtH x else ⟨#[]⟩
end HV

end Go.Proofs.YtibkmlfigcfeoaaDoor
