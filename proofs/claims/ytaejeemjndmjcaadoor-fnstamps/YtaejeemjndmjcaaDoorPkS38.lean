/-
  Texts laid together: Rsl, Stl, Xg.
-/
import Derived.Test.YtaejeemjndmjcaaDoorPkS35
import Derived.Test.YtaejeemjndmjcaaDoorPkS16
import Derived.Deep.RegionHeld3
import Derived.Test.YtaejeemjndmjcaaDoorPkS23
import Derived.Test.YtaejeemjndmjcaaDoorPkS37
import Derived.Deep.CutRange
/-
  The walk of the law FnExactReadSig: it answers true of every text.
-/
namespace Go.Proofs.YtaejeemjndmjcaaDoor
open Go.RowKit Go.BigFrame
set_option linter.unusedVariables false

/-- block p is a signature, and its lists lie so -/
def WSg (W : World) (p : Nat) (a : Int) (v1 v2 v3 : Value) (g1 g2 g3 : Nat) (o s d : List ByteArray) : Prop := SgM W p a v1 v2 v3 ∧ TS W v1 g1 o ∧ TS W v2 g2 s ∧ TS W v3 g3 d
theorem WSg.later {W W' : World} {p : Nat} {a : Int} {v1 v2 v3 : Value} {g1 g2 g3 : Nat} {o s d : List ByteArray} (h : WSg W p a v1 v2 v3 g1 g2 g3 o s d) (hb : Below W.heap.size W W') : WSg W' p a v1 v2 v3 g1 g2 g3 o s d :=
  ⟨h.1.later hb, h.2.1.later hb, h.2.2.1.later hb, h.2.2.2.later hb⟩
theorem WSg.alloc {W : World} {p : Nat} {a : Int} {v1 v2 v3 : Value} {g1 g2 g3 : Nat} {o s d : List ByteArray} (h : WSg W p a v1 v2 v3 g1 g2 g3 o s d) (x : Obj) : WSg (W.alloc x) p a v1 v2 v3 g1 g2 g3 o s d := h.later ((Below.refl _ _).alloc (Nat.le_refl _) _)
theorem SgM.keptG3 {w w' : World} {g : Nat} {r1 r2 r3 : Option Nat} {a : Int} {v1 v2 v3 : Value} (h : SgM w g a v1 v2 v3) (hg : Grown3 w w' r1 r2 r3) (h1 : some g ≠ r1) (h2 : some g ≠ r2) (h3 : some g ≠ r3) : SgM w' g a v1 v2 v3 := by
  obtain ⟨wa, wb, ha, hb, hc⟩ := hg
  exact ((h.keptG ha h1).keptG hb h2).keptG hc h3
theorem TS.shape {w : World} {v : Value} {g : Nat} {l : List ByteArray} (h : TS w v g l) : ∃ a c, v = .slice a l.length c := by
  obtain ⟨a, c, hv, _⟩ := h
  exact ⟨a, c, hv⟩
theorem WSg.new (W : World) (a : Int) (v1 v2 v3 : Value) (g1 g2 g3 : Nat) (o s d : List ByteArray) (h1 : TS W v1 g1 o) (h2 : TS W v2 g2 s) (h3 : TS W v3 g3 d) : WSg (W.alloc (.cells #[.int .i64 a, v1, v2, v3] 28)) W.heap.size a v1 v2 v3 g1 g2 g3 o s d := by
  have hb : Below W.heap.size W (W.alloc (.cells #[.int .i64 a, v1, v2, v3] 28)) := (Below.refl _ _).alloc (Nat.le_refl _) _
  exact ⟨SgM.new W a v1 v2 v3, h1.later hb, h2.later hb, h3.later hb⟩

end Go.Proofs.YtaejeemjndmjcaaDoor
/-
  A signature taken over by a law; the walk of the law FnExactSigText.
-/
namespace Go.Proofs.YtaejeemjndmjcaaDoor
open Go.RowKit Go.BigFrame
set_option linter.unusedVariables false

/-- a signature, answered -/
theorem ret_sig1 {fn : Func} {Rp : Ending → World → Prop} {a : Act} {w : World} (c g : Nat) (x : Int) (v1 v2 v3 : Value) (hres : fn.results = #[.cell c 28]) (hd : a.defers = []) (hp : a.tmps.getD c undef = .pointer (some ⟨g, 0, none⟩))
    (hA : SgM w g x v1 v2 v3) (h : Rp (.returned (.agg #[.int .i64 x, v1, v2, v3])) w) : bodyPost Tryd.prog fn Rp .ret a w := by
  have hr := load_sig hA
  refine bodyPost_ret (v := .agg #[.int .i64 x, v1, v2, v3]) ?_ hd h
  have hp' : a.tmps[c]?.getD undef = .pointer (some ⟨g, 0, none⟩) := by simpa using hp
  simp [results, hres, asAddr, hr, hp']

/-- three cells of a block -/
def CX (w : World) (g : Nat) (v1 v2 v3 : Value) : Prop := w.cell? ⟨g, 1, none⟩ = some v1 ∧ w.cell? ⟨g, 2, none⟩ = some v2 ∧ w.cell? ⟨g, 3, none⟩ = some v3 ∧ g < w.heap.size
theorem CX.later {w w' : World} {g : Nat} {v1 v2 v3 : Value} (h : CX w g v1 v2 v3) (hb : Below w.heap.size w w') : CX w' g v1 v2 v3 :=
  ⟨(hb.cell (p := ⟨g, 1, none⟩) h.2.2.2).trans h.1, (hb.cell (p := ⟨g, 2, none⟩) h.2.2.2).trans h.2.1, (hb.cell (p := ⟨g, 3, none⟩) h.2.2.2).trans h.2.2.1, Nat.lt_of_lt_of_le h.2.2.2 hb.size⟩
theorem CX.keptG {w w' : World} {g : Nat} {row : Option Nat} {v1 v2 v3 : Value} (h : CX w g v1 v2 v3) (hg : w.grownBy w' row) (hne : some g ≠ row) : CX w' g v1 v2 v3 := by
  have e := hg.block g h.2.2.2 hne
  exact ⟨(World.cell?_of_block (w := w) e).trans h.1, (World.cell?_of_block (w := w) e).trans h.2.1, (World.cell?_of_block (w := w) e).trans h.2.2.1, Nat.lt_of_lt_of_le h.2.2.2 hg.size⟩

/-- what stands behind each list that was taken over -/
def TgH (w W : World) (vo vs vd : Value) (a : Int) (v1 v2 v3 : Value) : Prop := CX W w.heap.size vo vs vd ∧ SgM W (w.heap.size + 1) 0 (.slice none 0 0) (.slice none 0 0) (.slice none 0 0) ∧ SgM W (w.heap.size + 1 + 1) a v1 v2 v3 ∧ Below w.heap.size w W
theorem TgH.later {w W W' : World} {vo vs vd : Value} {a : Int} {v1 v2 v3 : Value} (h : TgH w W vo vs vd a v1 v2 v3) (hb : Below W.heap.size W W') : TgH w W' vo vs vd a v1 v2 v3 := ⟨h.1.later hb, h.2.1.later hb, h.2.2.1.later hb, h.2.2.2.trans (hb.mono h.2.2.2.size)⟩

theorem IsRowS.later {w w' : World} {a : Option Addr} {n k : Nat} {z : List ByteArray} (h : IsRowS w a n k z) (hb : Below w.heap.size w w') : IsRowS w' a n k z := by
  rcases h with h | ⟨p, rfl, hl, hm, hlz, hc, hz⟩
  · exact .inl h
  · refine .inr ⟨p, rfl, hl, hm, hlz, fun i hi => ?_, hz⟩
    have h4 := hc i hi
    have hlt : (p.add i).block < w.heap.size := by
      rcases Nat.lt_or_ge (p.add i).block w.heap.size with h5 | h5
      · exact h5
      · simp [World.cell?, Array.getElem?_eq_none h5] at h4
    exact (hb.cell hlt).trans h4

theorem SigText_any (a : Int) (vo vs vd : Value) (g1 o1 g2 o2 g3 o3 : Nat) (o s d : List ByteArray) (w : World) (ho : SS w vo g1 o1 o) (hs : SS w vs g2 o2 s) (hd : SS w vd g3 o3 d) :
    Calls Tryd.prog 32 #[.agg #[.int .i64 a, vo, vs, vd]] w fun e w' => e = .returned (.tuple #[.string (sigB a o s d), .bool (formB a o s d)]) ∧ Below w.heap.size w w' := by
  unfold sigB
  cases hf : formB a o s d with
  | false => exact SigText_no a vo vs vd g1 o1 g2 o2 g3 o3 o s d w ho hs hd hf
  | true =>
    obtain ⟨hA, _⟩ := formB_parts hf
    obtain ⟨a, rfl⟩ := Int.eq_ofNat_of_zero_le hA.1
    exact SigText_yes a vo vs vd g1 o1 g2 o2 g3 o3 o s d w ho hs hd hf

end Go.Proofs.YtaejeemjndmjcaaDoor
/-
  What the laws' own helpers do with seals: measured, taken over, compared, marked, held.
-/
namespace Go.Proofs.YtaejeemjndmjcaaDoor
open Go.RowKit Go.BigFrame Go.Sort
set_option linter.unusedVariables false
set_option linter.unusedSimpArgs false

section
variable {T : Nat} {W : World} {g : Nat} {x : Hd} {a : Int} {v1 v2 v3 : Value}
/-- its head stored anew -/
theorem SlB.putH (h : SlB T W g x a v1 v2 v3) (y : Hd) : SlB T ((((W.setCell ⟨g, 0, none⟩ (.int .i64 y.h)).setCell ⟨g, 1, none⟩ (.int .i64 y.e)).setCell ⟨g, 2, none⟩ (.string y.r)).setCell ⟨g, 3, none⟩ (.string y.p)) g y a v1 v2 v3 :=
  heap_setCell_same _ g 3 _ _ _ (heap_setCell_same _ g 2 _ _ _ (heap_setCell_same _ g 1 _ _ _ (heap_setCell_same W g 0 _ _ _ h)))
/-- its signature stored anew -/
theorem SlB.putS (h : SlB T W g x a v1 v2 v3) (y : Int) (u1 u2 u3 : Value) : SlB T ((((W.setCell ⟨g, 4, none⟩ (.int .i64 y)).setCell ⟨g, 5, none⟩ u1).setCell ⟨g, 6, none⟩ u2).setCell ⟨g, 7, none⟩ u3) g x y u1 u2 u3 :=
  heap_setCell_same _ g 7 _ _ _ (heap_setCell_same _ g 6 _ _ _ (heap_setCell_same _ g 5 _ _ _ (heap_setCell_same W g 4 _ _ _ h)))
end
theorem grown4 (W : World) (g i j k l : Nat) (u0 u1 u2 u3 : Value) : W.grownBy ((((W.setCell ⟨g, i, none⟩ u0).setCell ⟨g, j, none⟩ u1).setCell ⟨g, k, none⟩ u2).setCell ⟨g, l, none⟩ u3) (some g) :=
  (((grown_setC W g i u0).trans (grown_setC _ g j u1)).trans (grown_setC _ g k u2)).trans (grown_setC _ g l u3)

theorem SealIn.out {w : World} {B : Nat} {v : Value} {x : Hd} {a : Int} {o s d : List ByteArray} (h : SealIn w B v x a o s d) : ∃ v1 v2 v3 g1 g2 g3, v = .agg #[.int .i64 x.h, .int .i64 x.e, .string x.r, .string x.p, .int .i64 a, v1, v2, v3] ∧ (TS w v1 g1 o ∧ TS w v2 g2 s ∧ TS w v3 g3 d) ∧ (B ≤ g1 ∧ B ≤ g2 ∧ B ≤ g3) ∧ (g1 ≠ g2 ∧ g1 ≠ g3 ∧ g2 ≠ g3) := by
  obtain ⟨v1, v2, v3, rfl, u1, u2, u3, g1, g2, g3, hv, ht, hB, hn⟩ := h
  simp at hv
  obtain ⟨rfl, rfl, rfl⟩ := hv
  exact ⟨v1, v2, v3, g1, g2, g3, rfl, ht, hB, hn⟩
/-- block p is a seal, and its lists lie so -/
def WSl (W : World) (p : Nat) (x : Hd) (a : Int) (v1 v2 v3 : Value) (g1 g2 g3 : Nat) (o s d : List ByteArray) : Prop := SlB 30 W p x a v1 v2 v3 ∧ TS W v1 g1 o ∧ TS W v2 g2 s ∧ TS W v3 g3 d
theorem WSl.later {W W' : World} {p : Nat} {x : Hd} {a : Int} {v1 v2 v3 : Value} {g1 g2 g3 : Nat} {o s d : List ByteArray} (h : WSl W p x a v1 v2 v3 g1 g2 g3 o s d) (hb : Below W.heap.size W W') : WSl W' p x a v1 v2 v3 g1 g2 g3 o s d :=
  ⟨h.1.later hb, h.2.1.later hb, h.2.2.1.later hb, h.2.2.2.later hb⟩
theorem WSl.alloc {W : World} {p : Nat} {x : Hd} {a : Int} {v1 v2 v3 : Value} {g1 g2 g3 : Nat} {o s d : List ByteArray} (h : WSl W p x a v1 v2 v3 g1 g2 g3 o s d) (y : Obj) : WSl (W.alloc y) p x a v1 v2 v3 g1 g2 g3 o s d := h.later ((Below.refl _ _).alloc (Nat.le_refl _) _)
theorem WSl.new (W : World) (x : Hd) (a : Int) (v1 v2 v3 : Value) (g1 g2 g3 : Nat) (o s d : List ByteArray) (h1 : TS W v1 g1 o) (h2 : TS W v2 g2 s) (h3 : TS W v3 g3 d) : WSl (W.alloc (.cells #[.int .i64 x.h, .int .i64 x.e, .string x.r, .string x.p, .int .i64 a, v1, v2, v3] 30)) W.heap.size x a v1 v2 v3 g1 g2 g3 o s d := by
  have hb : Below W.heap.size W (W.alloc (.cells #[.int .i64 x.h, .int .i64 x.e, .string x.r, .string x.p, .int .i64 a, v1, v2, v3] 30)) := (Below.refl _ _).alloc (Nat.le_refl _) _
  exact ⟨SlB.new _ _ _ _ _ _ _, h1.later hb, h2.later hb, h3.later hb⟩
theorem SlB.keptG3 {T : Nat} {w w' : World} {g : Nat} {r1 r2 r3 : Option Nat} {x : Hd} {a : Int} {v1 v2 v3 : Value} (h : SlB T w g x a v1 v2 v3) (hg : Grown3 w w' r1 r2 r3) (h1 : some g ≠ r1) (h2 : some g ≠ r2) (h3 : some g ≠ r3) : SlB T w' g x a v1 v2 v3 := by
  obtain ⟨wa, wb, ha, hb, hc⟩ := hg
  exact ((h.grown ha h1).grown hb h2).grown hc h3
section
variable {w : World} {ops : Array Oper} {rest : List Oper} {o : Oper} {a : Act} {Q : Exit → Act → World → Prop}
end

end Go.Proofs.YtaejeemjndmjcaaDoor
