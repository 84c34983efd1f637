/-
  The walk of the law FnExactReadSig: it answers true of every text.
-/
import Derived.Test.YtmfoliocibjdnaaSgl
namespace Go.Proofs.Ytmfoliocibjdnaa
open Go.RowKit Go.BigFrame
set_option linter.unusedVariables false

/-- block p is a signature, and its lists lie so -/
def WSg (W : World) (p : Nat) (a : Int) (v1 v2 v3 : Value) (g1 g2 g3 : Nat) (o s d : List ByteArray) : Prop := SgM W p a v1 v2 v3 ∧ TS W v1 g1 o ∧ TS W v2 g2 s ∧ TS W v3 g3 d
theorem WSg.later {W W' : World} {p : Nat} {a : Int} {v1 v2 v3 : Value} {g1 g2 g3 : Nat} {o s d : List ByteArray} (h : WSg W p a v1 v2 v3 g1 g2 g3 o s d) (hb : Below W.heap.size W W') : WSg W' p a v1 v2 v3 g1 g2 g3 o s d :=
  ⟨h.1.later hb, h.2.1.later hb, h.2.2.1.later hb, h.2.2.2.later hb⟩
theorem WSg.alloc {W : World} {p : Nat} {a : Int} {v1 v2 v3 : Value} {g1 g2 g3 : Nat} {o s d : List ByteArray} (h : WSg W p a v1 v2 v3 g1 g2 g3 o s d) (x : Obj) : WSg (W.alloc x) p a v1 v2 v3 g1 g2 g3 o s d := h.later ((Below.refl _ _).alloc (Nat.le_refl _) _)
theorem SgM.keptG3 {w w' : World} {g : Nat} {r1 r2 r3 : Option Nat} {a : Int} {v1 v2 v3 : Value} (h : SgM w g a v1 v2 v3) (hg : Grown3 w w' r1 r2 r3) (h1 : some g ≠ r1) (h2 : some g ≠ r2) (h3 : some g ≠ r3) : SgM w' g a v1 v2 v3 := by
  obtain ⟨wa, wb, ha, hb, hc⟩ := hg
  exact ((h.keptG ha h1).keptG hb h2).keptG hc h3
theorem TS.shape {w : World} {v : Value} {g : Nat} {l : List ByteArray} (h : TS w v g l) : ∃ a c, v = .slice a l.length c := by
  obtain ⟨a, c, hv, _⟩ := h
  exact ⟨a, c, hv⟩
theorem WSg.new (W : World) (a : Int) (v1 v2 v3 : Value) (g1 g2 g3 : Nat) (o s d : List ByteArray) (h1 : TS W v1 g1 o) (h2 : TS W v2 g2 s) (h3 : TS W v3 g3 d) : WSg (W.alloc (.cells #[.int .i64 a, v1, v2, v3] 37)) W.heap.size a v1 v2 v3 g1 g2 g3 o s d := by
  have hb : Below W.heap.size W (W.alloc (.cells #[.int .i64 a, v1, v2, v3] 37)) := (Below.refl _ _).alloc (Nat.le_refl _) _
  exact ⟨SgM.new W a v1 v2 v3, h1.later hb, h2.later hb, h3.later hb⟩

end Go.Proofs.Ytmfoliocibjdnaa
