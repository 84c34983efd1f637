/-
  A proof in a law's box, and what it is made of.
-/
import Derived.Test.YtfojmagcoipbnaaPz
import Derived.Test.YtfojmagcoipbnaaPvd
namespace Go.Proofs.Ytfojmagcoipbnaa
open Go.RowKit Go.BigFrame Go.Sort
set_option linter.unusedVariables false
set_option linter.unusedSimpArgs false

/-- a proof in its box, and what it is made of -/
def PbX (W : World) (p : Nat) (v1 v2 : Value) (g1 g2 : Nat) (B : List Le) (S : List ByteArray) : Prop := PfM W p v1 v2 ∧ RW 2 lcs W v1 g1 B ∧ TS W v2 g2 S
theorem PbX.later {W W' : World} {p : Nat} {v1 v2 : Value} {g1 g2 : Nat} {B : List Le} {S : List ByteArray} (h : PbX W p v1 v2 g1 g2 B S) (hb : Below W.heap.size W W') : PbX W' p v1 v2 g1 g2 B S := ⟨h.1.later hb, h.2.1.later hb, h.2.2.later hb⟩
theorem PbX.new {w : World} {a1 a2 : Option Addr} {c1 c2 n1 n2 g1 g2 : Nat} {B : List Le} {S : List ByteArray} (h1 : RW 2 lcs w (.slice a1 n1 c1) g1 B) (h2 : TS w (.slice a2 n2 c2) g2 S) : PbX (w.alloc (.cells #[.slice a1 n1 c1, .slice a2 n2 c2] 31)) w.heap.size (.slice a1 n1 c1) (.slice a2 n2 c2) g1 g2 B S := by
  have hb : Below w.heap.size w (w.alloc (.cells #[.slice a1 n1 c1, .slice a2 n2 c2] 31)) := (Below.refl _ _).alloc (Nat.le_refl _) _
  exact ⟨PfM.new w _ _, h1.later hb, h2.later hb⟩
theorem PbX.grown {W W' : World} {p : Nat} {v1 v2 : Value} {g1 g2 : Nat} {B : List Le} {S : List ByteArray} {row : Option Nat} (h : PbX W p v1 v2 g1 g2 B S) (hg : W.grownBy W' row) (hp : some p ≠ row) (h1 : 0 < B.length → some g1 ≠ row) (h2 : 0 < S.length → some g2 ≠ row) : PbX W' p v1 v2 g1 g2 B S :=
  ⟨h.1.keep (hg.block _ h.1.lt hp), h.2.1.grown hg h1, h.2.2.keptG hg h2⟩
theorem PbX.eq {W : World} {p q : Nat} {v1 v2 u1 u2 : Value} {g1 g2 k1 k2 : Nat} {B : List Le} {S : List ByteArray} (h : PbX W p v1 v2 g1 g2 B S) (k : PbX W q u1 u2 k1 k2 B S) : Calls Try.prog 12 #[.agg #[v1, v2], .agg #[u1, u2]] W fun e w' => e = .returned (.bool true) ∧ Below W.heap.size W w' :=
  eqProof_yes v1 v2 u1 u2 g1 0 g2 0 k1 0 k2 0 B S W h.2.1.1 h.2.2.ss k.2.1.1 k.2.2.ss

end Go.Proofs.Ytfojmagcoipbnaa
