/-
  Texts laid together: Wye, Wus, Wyl, Sga.
-/
import Derived.Test.YtfojmagcoipbnaaQ24
import Derived.Deep.RegionHeld3
import Derived.Lib.QuietBelow
import Derived.BigQuiet
import Derived.Test.YtfojmagcoipbnaaQ02
import Derived.Lib.SmallJoins
import Derived.ProofKit
/-
  What the laws' own helpers do with whole proofs: taken over.
-/
namespace Go.Proofs.Ytfojmagcoipbnaa
open Go.RowKit Go.BigFrame Go.Sort
set_option linter.unusedVariables false
set_option linter.unusedSimpArgs false

/-- v reads as these leaves, somewhere behind block g -/
def RLn (W : World) (v : Value) (l : List Le) (g : Nat) : Prop := ∃ g1 o1, RS 2 lcs W v g1 o1 l ∧ (0 < l.length → g < g1)
theorem RLn.later {W W' : World} {v : Value} {l : List Le} {g : Nat} (h : RLn W v l g) (hb : Below W.heap.size W W') : RLn W' v l g := by
  obtain ⟨g1, o1, h1, h2⟩ := h
  exact ⟨g1, o1, h1.later hb, h2⟩
theorem RLn.grown {W W' : World} {v : Value} {l : List Le} {g q : Nat} (h : RLn W v l g) (hg : W.grownBy W' (some q)) (hq : q ≤ g) : RLn W' v l g := by
  obtain ⟨g1, o1, h1, h2⟩ := h
  exact ⟨g1, o1, h1.grown hg (fun h => by have := h2 h; simp; omega), h2⟩
theorem sizeWh : (Try.prog.info? 64).map (·.size) = some 12 := by kernel_rfl
section
variable {x0 x1 x2 x3 x4 x5 x6 x7 x8 x9 x10 x11 : Value}
theorem ret_wh {fn : Func} {Rp : Ending → World → Prop} {a : Act} {w : World} (c g : Nat) (hres : fn.results = #[.cell c 64]) (hd : a.defers = []) (hp : a.tmps.getD c undef = .pointer (some ⟨g, 0, none⟩)) (hA : Box 64 w g [x0, x1, x2, x3, x4, x5, x6, x7, x8, x9, x10, x11]) (h : Rp (.returned (.agg #[x0, x1, x2, x3, x4, x5, x6, x7, x8, x9, x10, x11])) w) : bodyPost Try.prog fn Rp .ret a w :=
  ret_rec c g 64 [x0, x1, x2, x3, x4, x5, x6, x7, x8, x9, x10, x11] _ hres hd hp Try.underlying64 rfl sizeWh hA.range h
theorem load_wh {w : World} {g : Nat} (hA : Box 64 w g [x0, x1, x2, x3, x4, x5, x6, x7, x8, x9, x10, x11]) : (loadVar 64 ⟨g, 0, none⟩).run Try.prog w = .ok (.agg #[x0, x1, x2, x3, x4, x5, x6, x7, x8, x9, x10, x11]) w :=
  run_loadVar_row (P := Try.prog) w g 64 64 _ (0, 0) _ hA Try.underlying64 rfl sizeWh
variable {w : World} {ops : Array Oper} {rest : List Oper} {o : Oper} {a : Act} {Q : Exit → Act → World → Prop}
theorem wp_loadWh (hgd : o.guard = none) (p : Operand) (ho : o.op = .load 64 p) (g : Nat) (hp : a.eval p = .pointer (some ⟨g, 0, none⟩)) (hA : Box 64 w g [x0, x1, x2, x3, x4, x5, x6, x7, x8, x9, x10, x11])
    (h : wpList Try.prog ops Q rest (a.put o.dst (.agg #[x0, x1, x2, x3, x4, x5, x6, x7, x8, x9, x10, x11])) w) : wpList Try.prog ops Q (o :: rest) a w := by
  refine wpList_plain hgd fun K hK => ?_
  have hr : (Instr.loadAt 64 (.pointer (some ⟨g, 0, none⟩))).run Try.prog w = .ok (.agg #[x0, x1, x2, x3, x4, x5, x6, x7, x8, x9, x10, x11]) w := by
    simp only [Instr.loadAt, Instr.sureAddr, Sem.run_bind, Sem.run_pure, Result.andThen]
    exact load_wh hA
  unfold Oper.wp
  simp [execOp, ho, hp, hr, Result.andThen]
  exact hK _ _ h
theorem wp_storeWh (hgd : o.guard = none) (p v : Operand) (ho : o.op = .store 64 p v) (g : Nat) (y0 y1 y2 y3 y4 y5 y6 y7 y8 y9 y10 y11 : Value) (hA : Box 64 w g [x0, x1, x2, x3, x4, x5, x6, x7, x8, x9, x10, x11]) (hp : a.eval p = .pointer (some ⟨g, 0, none⟩)) (hv : a.eval v = .agg #[y0, y1, y2, y3, y4, y5, y6, y7, y8, y9, y10, y11])
    (h1 : y0.oneCell' = true ∧ y1.oneCell' = true ∧ y2.oneCell' = true ∧ y3.oneCell' = true ∧ y4.oneCell' = true ∧ y5.oneCell' = true ∧ y6.oneCell' = true ∧ y7.oneCell' = true ∧ y8.oneCell' = true ∧ y9.oneCell' = true ∧ y10.oneCell' = true ∧ y11.oneCell' = true)
    (h : Box 64 (w.setRow g #[y0, y1, y2, y3, y4, y5, y6, y7, y8, y9, y10, y11]) g [y0, y1, y2, y3, y4, y5, y6, y7, y8, y9, y10, y11] → wpList Try.prog ops Q rest (a.put o.dst (.tuple #[])) (w.setRow g #[y0, y1, y2, y3, y4, y5, y6, y7, y8, y9, y10, y11])) : wpList Try.prog ops Q (o :: rest) a w := by
  refine wpList_plain hgd fun K hK => ?_
  have hr : (Instr.storeAt 64 (.pointer (some ⟨g, 0, none⟩)) (.agg #[y0, y1, y2, y3, y4, y5, y6, y7, y8, y9, y10, y11])).run Try.prog w = .ok () (w.setRow g #[y0, y1, y2, y3, y4, y5, y6, y7, y8, y9, y10, y11]) := by
    simp only [Instr.storeAt, Instr.sureAddr, Sem.run_bind, Sem.run_pure, Result.andThen]
    refine run_storeVar_row w g 64 64 _ _ hA sizeWh rfl ?_
    simp [h1]
  unfold Oper.wp
  simp [execOp, ho, hp, hv, hr, Result.andThen]
  exact hK _ _ (h (setRow_heap w g _ _ _ _ hA))
end

/-- what a law makes of a whole proof that it was handed -/
def ToW (x : Hd) (a : Int) (L : List Le) (S T o s d : List ByteArray) (G : List Stm) (w : World) (e : Ending) (w' : World) : Prop := ∃ kb ks kt e1 f1 g1 e2 f2 g2 e3 f3 g3 kg, e = .returned (.agg #[.slice (some ⟨kb, 0, none⟩) L.length L.length, .slice (some ⟨ks, 0, none⟩) S.length S.length, .slice (some ⟨kt, 0, none⟩) T.length T.length, .int .i64 x.h, .int .i64 x.e, .string x.r, .string x.p, .int .i64 a, .slice e1 f1 g1, .slice e2 f2 g2, .slice e3 f3 g3, .slice (some ⟨kg, 0, none⟩) G.length G.length]) ∧ WhS w' (.slice (some ⟨kb, 0, none⟩) L.length L.length) (.slice (some ⟨ks, 0, none⟩) S.length S.length) (.slice (some ⟨kt, 0, none⟩) T.length T.length) (.slice e1 f1 g1) (.slice e2 f2 g2) (.slice e3 f3 g3) (.slice (some ⟨kg, 0, none⟩) G.length G.length) L S T o s d G ∧ Below w.heap.size w w'

set_option maxRecDepth 100000 in
set_option maxHeartbeats 4000000 in
theorem toWhole_any (vb vs vt v1 v2 v3 vg : Value) (x : Hd) (a : Int) (L : List Le) (S T o s d : List ByteArray) (G : List Stm) (w : World) (hM : WhS w vb vs vt v1 v2 v3 vg L S T o s d G) :
    Calls Try.prog 24 #[.agg #[vb, vs, vt, .int .i64 x.h, .int .i64 x.e, .string x.r, .string x.p, .int .i64 a, v1, v2, v3, vg]] w (ToW x a L S T o s d G w) := by
  have H1 : Hid (∀ W, Below w.heap.size w W → Calls Try.prog 10 #[.agg #[vb, vs]] W fun e w' => ∃ kb ks, e = .returned (.agg #[.slice (some ⟨kb, 0, none⟩) L.length L.length, .slice (some ⟨ks, 0, none⟩) S.length S.length]) ∧ (∀ g, g < W.heap.size → RLn w' (.slice (some ⟨kb, 0, none⟩) L.length L.length) L g ∧ SXn w' (.slice (some ⟨ks, 0, none⟩) S.length S.length) S g) ∧ Below W.heap.size W w') := fun W hW => by
    obtain ⟨⟨g1, o1, h1⟩, _, ⟨g2, o2, h2⟩, _⟩ := hM.later hW
    refine (toProof_any vb vs g1 o1 g2 o2 L S W h1 h2).mono ?_
    rintro e w' ⟨k1, k2, he, hr, ht, l1, l2, _, _, _, hb⟩
    exact ⟨k1, k2, he, fun g hg => ⟨⟨k1, 0, hr.1, fun _ => by omega⟩, ⟨k2, 0, ht.ss, fun _ => by omega⟩⟩, hb⟩
  have H2 : Hid (∀ W, Below w.heap.size w W → Calls Try.prog 37 #[vt] W fun e w' => ∃ kt, e = .returned (.slice (some ⟨kt, 0, none⟩) T.length T.length) ∧ (∀ g, g < W.heap.size → SXn w' (.slice (some ⟨kt, 0, none⟩) T.length T.length) T g) ∧ Below W.heap.size W w') := fun W hW => by
    obtain ⟨_, _, _, ⟨g2, o2, h2⟩, _⟩ := hM.later hW
    refine (toStringS_any vt g2 o2 T W h2 h2.lt).mono ?_
    rintro e w' ⟨g, he, hg, ht, hb⟩
    exact ⟨g, he, fun q hq => ⟨g, 0, (ht.ts T.length T.length rfl (by obtain ⟨_, _, _, hl, _⟩ := h2; exact hl)).ss, fun _ => by omega⟩, hb⟩
  have H3 : Hid (∀ W, Below w.heap.size w W → Calls Try.prog 62 #[.agg #[.int .i64 x.h, .int .i64 x.e, .string x.r, .string x.p, .int .i64 a, v1, v2, v3]] W fun e w' => ∃ e1 f1 g1 e2 f2 g2 e3 f3 g3, e = .returned (.agg #[.int .i64 x.h, .int .i64 x.e, .string x.r, .string x.p, .int .i64 a, .slice e1 f1 g1, .slice e2 f2 g2, .slice e3 f3 g3]) ∧ (∀ g, g < W.heap.size → SXn w' (.slice e1 f1 g1) o g ∧ SXn w' (.slice e2 f2 g2) s g ∧ SXn w' (.slice e3 f3 g3) d g) ∧ Below W.heap.size W w') := fun W hW => by
    obtain ⟨_, _, _, _, ⟨g1, o1, h1⟩, ⟨g2, o2, h2⟩, ⟨g3, o3, h3⟩, _⟩ := hM.later hW
    refine (toSeal_any x a v1 v2 v3 g1 o1 g2 o2 g3 o3 o s d W h1 h2 h3).mono ?_
    rintro e w' ⟨v, rfl, hv, hb⟩
    obtain ⟨v1, v2, v3, p1, p2, p3, rfl, ⟨t1, t2, t3⟩, ⟨l1, l2, l3⟩, _⟩ := hv.out
    obtain ⟨y1, q1, rfl, _⟩ := id t1
    obtain ⟨y2, q2, rfl, _⟩ := id t2
    obtain ⟨y3, q3, rfl, _⟩ := id t3
    exact ⟨y1, _, q1, y2, _, q2, y3, _, q3, rfl, fun g hg => ⟨⟨p1, 0, t1.ss, fun _ => by omega⟩, ⟨p2, 0, t2.ss, fun _ => by omega⟩, ⟨p3, 0, t3.ss, fun _ => by omega⟩⟩, hb⟩
  have H4 : Hid (∀ W, Below w.heap.size w W → Calls Try.prog 63 #[vg] W fun e w' => ∃ kg, e = .returned (.slice (some ⟨kg, 0, none⟩) G.length G.length) ∧ W.heap.size ≤ kg ∧ StB w' (.slice (some ⟨kg, 0, none⟩) G.length G.length) kg G ∧ Below W.heap.size W w') := fun W hW => by
    obtain ⟨_, _, _, _, _, _, _, ⟨g, k, h⟩⟩ := hM.later hW
    exact toStampS_any vg g k G W h
  have hSM := hM.2.1
  have HSM : Hid (SmallL L) := hSM
  obtain ⟨Post, hPost⟩ : ∃ P, ToW x a L S T o s d G w = P := ⟨_, rfl⟩
  have HP : Hid (ToW x a L S T o s d G w = Post) := hPost
  rw [hPost]
  unfold ToW at HP
  obtain ⟨h, e, r, p⟩ := x
  simp only at H3 HP ⊢
  obtain ⟨⟨ab, cb, rfl⟩, ⟨as2, cs, rfl⟩, ⟨at2, ct, rfl⟩, ⟨a1, c1, rfl⟩, ⟨a2, c2, rfl⟩, ⟨a3, c3, rfl⟩, ⟨ag, cg, rfl⟩, lS, lT, lG⟩ := hM.shapes
  clear hM lS lT lG hPost hSM
  generalize L.length = nb at *
  generalize S.length = ns at *
  generalize T.length = nt at *
  generalize o.length = n1 at *
  generalize s.length = n2 at *
  generalize d.length = n3 at *
  generalize G.length = ng at *
  have HX : Hid (∀ W, W = (((w.alloc (.cells #[.slice ab nb cb, .slice as2 ns cs, .slice at2 nt ct, .int .i64 h, .int .i64 e, .string r, .string p, .int .i64 a, .slice a1 n1 c1, .slice a2 n2 c2, .slice a3 n3 c3, .slice ag ng cg] 55)).alloc (.cells #[.slice none 0 0, .slice none 0 0, .slice none 0 0, .int .i64 0, .int .i64 0, .string ⟨#[]⟩, .string ⟨#[]⟩, .int .i64 0, .slice none 0 0, .slice none 0 0, .slice none 0 0, .slice none 0 0] 64)).alloc (.cells #[.slice none 0 0, .slice none 0 0, .slice none 0 0, .int .i64 0, .int .i64 0, .string ⟨#[]⟩, .string ⟨#[]⟩, .int .i64 0, .slice none 0 0, .slice none 0 0, .slice none 0 0, .slice none 0 0] 64)) → Below w.heap.size w W ∧ Box 64 W (w.heap.size + 1) [.slice none 0 0, .slice none 0 0, .slice none 0 0, .int .i64 0, .int .i64 0, .string ⟨#[]⟩, .string ⟨#[]⟩, .int .i64 0, .slice none 0 0, .slice none 0 0, .slice none 0 0, .slice none 0 0] ∧ Box 64 W (w.heap.size + 1 + 1) [.slice none 0 0, .slice none 0 0, .slice none 0 0, .int .i64 0, .int .i64 0, .string ⟨#[]⟩, .string ⟨#[]⟩, .int .i64 0, .slice none 0 0, .slice none 0 0, .slice none 0 0, .slice none 0 0] ∧ Box 55 W w.heap.size [.slice ab nb cb, .slice as2 ns cs, .slice at2 nt ct, .int .i64 h, .int .i64 e, .string r, .string p, .int .i64 a, .slice a1 n1 c1, .slice a2 n2 c2, .slice a3 n3 c3, .slice ag ng cg] ∧ w.heap.size + 3 ≤ W.heap.size) := fun W hW => by
    subst hW
    refine ⟨((below_alloc _ _).alloc (by simp) _).alloc (by simp; omega) _, ?_, alloc_fst _ _ (by simp), ((Box.new _ w _).later (below_alloc _ _)).later (below_alloc _ _), by simp⟩
    have h2 : Box 64 ((w.alloc (.cells #[.slice ab nb cb, .slice as2 ns cs, .slice at2 nt ct, .int .i64 h, .int .i64 e, .string r, .string p, .int .i64 a, .slice a1 n1 c1, .slice a2 n2 c2, .slice a3 n3 c3, .slice ag ng cg] 55)).alloc (.cells #[.slice none 0 0, .slice none 0 0, .slice none 0 0, .int .i64 0, .int .i64 0, .string ⟨#[]⟩, .string ⟨#[]⟩, .int .i64 0, .slice none 0 0, .slice none 0 0, .slice none 0 0, .slice none 0 0] 64)) (w.heap.size + 1) [.slice none 0 0, .slice none 0 0, .slice none 0 0, .int .i64 0, .int .i64 0, .string ⟨#[]⟩, .string ⟨#[]⟩, .int .i64 0, .slice none 0 0, .slice none 0 0, .slice none 0 0, .slice none 0 0] := alloc_fst _ _ (by simp)
    exact h2.later (below_alloc _ _)
  have hne0 : w.heap.size ≠ w.heap.size + 1 + 1 := by omega
  go_enter Try.func24, Try.ntmps24
  go_wp2_with fail
  generalize hW0 : (((w.alloc (.cells #[.slice ab nb cb, .slice as2 ns cs, .slice at2 nt ct, .int .i64 h, .int .i64 e, .string r, .string p, .int .i64 a, .slice a1 n1 c1, .slice a2 n2 c2, .slice a3 n3 c3, .slice ag ng cg] 55)).alloc (.cells #[.slice none 0 0, .slice none 0 0, .slice none 0 0, .int .i64 0, .int .i64 0, .string ⟨#[]⟩, .string ⟨#[]⟩, .int .i64 0, .slice none 0 0, .slice none 0 0, .slice none 0 0, .slice none 0 0] 64)).alloc (.cells #[.slice none 0 0, .slice none 0 0, .slice none 0 0, .int .i64 0, .int .i64 0, .string ⟨#[]⟩, .string ⟨#[]⟩, .int .i64 0, .slice none 0 0, .slice none 0 0, .slice none 0 0, .slice none 0 0] 64)) = W0
  have HX0 : Hid (Below w.heap.size w W0 ∧ Box 64 W0 (w.heap.size + 1) [.slice none 0 0, .slice none 0 0, .slice none 0 0, .int .i64 0, .int .i64 0, .string ⟨#[]⟩, .string ⟨#[]⟩, .int .i64 0, .slice none 0 0, .slice none 0 0, .slice none 0 0, .slice none 0 0] ∧ Box 64 W0 (w.heap.size + 1 + 1) [.slice none 0 0, .slice none 0 0, .slice none 0 0, .int .i64 0, .int .i64 0, .string ⟨#[]⟩, .string ⟨#[]⟩, .int .i64 0, .slice none 0 0, .slice none 0 0, .slice none 0 0, .slice none 0 0] ∧ Box 55 W0 w.heap.size [.slice ab nb cb, .slice as2 ns cs, .slice at2 nt ct, .int .i64 h, .int .i64 e, .string r, .string p, .int .i64 a, .slice a1 n1 c1, .slice a2 n2 c2, .slice a3 n3 c3, .slice ag ng cg] ∧ w.heap.size + 3 ≤ W0.heap.size) := HX.out W0 hW0.symm
  clear HX hW0
  refine (H1.out _ HX0.out.1).mono ?_
  rintro e1 w1 ⟨kb, ks, rfl, hf1, hb1⟩
  have HX1 : Hid (Below w.heap.size w w1 ∧ Box 64 w1 (w.heap.size + 1) [.slice none 0 0, .slice none 0 0, .slice none 0 0, .int .i64 0, .int .i64 0, .string ⟨#[]⟩, .string ⟨#[]⟩, .int .i64 0, .slice none 0 0, .slice none 0 0, .slice none 0 0, .slice none 0 0] ∧ Box 64 w1 (w.heap.size + 1 + 1) [.slice none 0 0, .slice none 0 0, .slice none 0 0, .int .i64 0, .int .i64 0, .string ⟨#[]⟩, .string ⟨#[]⟩, .int .i64 0, .slice none 0 0, .slice none 0 0, .slice none 0 0, .slice none 0 0] ∧ Box 55 w1 w.heap.size [.slice ab nb cb, .slice as2 ns cs, .slice at2 nt ct, .int .i64 h, .int .i64 e, .string r, .string p, .int .i64 a, .slice a1 n1 c1, .slice a2 n2 c2, .slice a3 n3 c3, .slice ag ng cg] ∧ w.heap.size + 3 ≤ w1.heap.size ∧ RLn w1 (.slice (some ⟨kb, 0, none⟩) nb nb) L (w.heap.size + 1 + 1) ∧ SXn w1 (.slice (some ⟨ks, 0, none⟩) ns ns) S (w.heap.size + 1 + 1)) := ⟨HX0.out.1.trans (hb1.mono HX0.out.1.size), HX0.out.2.1.later hb1, HX0.out.2.2.1.later hb1, HX0.out.2.2.2.1.later hb1, Nat.le_trans HX0.out.2.2.2.2 hb1.size, (hf1 _ (by have := HX0.out.2.2.2.2; omega)).1, (hf1 _ (by have := HX0.out.2.2.2.2; omega)).2⟩
  clear hf1 hb1 HX0 H1
  have q0 := HX1.out.2.2.1.at 0 _ rfl
  have q1 := HX1.out.2.2.1.at 1 _ rfl
  have g0 := HX1.out.2.2.1.fz 0
  have g1 := HX1.out.2.2.1.fz 1
  have x2 := HX1.out.2.2.2.1.at 2 _ rfl
  have HY1 : Hid (∀ W, W = ((w1.setCell ⟨w.heap.size + 1 + 1, 0, none⟩ (.slice (some ⟨kb, 0, none⟩) nb nb)).setCell ⟨w.heap.size + 1 + 1, 1, none⟩ (.slice (some ⟨ks, 0, none⟩) ns ns)) → Below w.heap.size w W ∧ Box 64 W (w.heap.size + 1) [.slice none 0 0, .slice none 0 0, .slice none 0 0, .int .i64 0, .int .i64 0, .string ⟨#[]⟩, .string ⟨#[]⟩, .int .i64 0, .slice none 0 0, .slice none 0 0, .slice none 0 0, .slice none 0 0] ∧ Box 64 W (w.heap.size + 1 + 1) [.slice (some ⟨kb, 0, none⟩) nb nb, .slice (some ⟨ks, 0, none⟩) ns ns, .slice none 0 0, .int .i64 0, .int .i64 0, .string ⟨#[]⟩, .string ⟨#[]⟩, .int .i64 0, .slice none 0 0, .slice none 0 0, .slice none 0 0, .slice none 0 0] ∧ Box 55 W w.heap.size [.slice ab nb cb, .slice as2 ns cs, .slice at2 nt ct, .int .i64 h, .int .i64 e, .string r, .string p, .int .i64 a, .slice a1 n1 c1, .slice a2 n2 c2, .slice a3 n3 c3, .slice ag ng cg] ∧ w.heap.size + 3 ≤ W.heap.size ∧ RLn W (.slice (some ⟨kb, 0, none⟩) nb nb) L (w.heap.size + 1 + 1) ∧ SXn W (.slice (some ⟨ks, 0, none⟩) ns ns) S (w.heap.size + 1 + 1)) := fun W hW => by
    subst hW
    have hg := (grown_setC w1 (w.heap.size + 1 + 1) 0 (.slice (some ⟨kb, 0, none⟩) nb nb)).trans (grown_setC (w1.setCell ⟨w.heap.size + 1 + 1, 0, none⟩ (.slice (some ⟨kb, 0, none⟩) nb nb)) (w.heap.size + 1 + 1) 1 (.slice (some ⟨ks, 0, none⟩) ns ns))
    obtain ⟨k1, k2, k3, k4, k5, k6, k7⟩ := HX1.out
    exact ⟨k1.grown hg k1.size (fun k hk => by simp at hk; omega), k2.grown hg (by simp), (k3.set 0 _).set 1 _, k4.grown hg (by simp; omega), by have := hg.size; omega, k6.grown hg (Nat.le_refl _), k7.grown hg (Nat.le_refl _)⟩
  go_wp2_with fail
  generalize hW1 : ((w1.setCell ⟨w.heap.size + 1 + 1, 0, none⟩ (.slice (some ⟨kb, 0, none⟩) nb nb)).setCell ⟨w.heap.size + 1 + 1, 1, none⟩ (.slice (some ⟨ks, 0, none⟩) ns ns)) = W1
  have HZ1 : Hid (Below w.heap.size w W1 ∧ Box 64 W1 (w.heap.size + 1) [.slice none 0 0, .slice none 0 0, .slice none 0 0, .int .i64 0, .int .i64 0, .string ⟨#[]⟩, .string ⟨#[]⟩, .int .i64 0, .slice none 0 0, .slice none 0 0, .slice none 0 0, .slice none 0 0] ∧ Box 64 W1 (w.heap.size + 1 + 1) [.slice (some ⟨kb, 0, none⟩) nb nb, .slice (some ⟨ks, 0, none⟩) ns ns, .slice none 0 0, .int .i64 0, .int .i64 0, .string ⟨#[]⟩, .string ⟨#[]⟩, .int .i64 0, .slice none 0 0, .slice none 0 0, .slice none 0 0, .slice none 0 0] ∧ Box 55 W1 w.heap.size [.slice ab nb cb, .slice as2 ns cs, .slice at2 nt ct, .int .i64 h, .int .i64 e, .string r, .string p, .int .i64 a, .slice a1 n1 c1, .slice a2 n2 c2, .slice a3 n3 c3, .slice ag ng cg] ∧ w.heap.size + 3 ≤ W1.heap.size ∧ RLn W1 (.slice (some ⟨kb, 0, none⟩) nb nb) L (w.heap.size + 1 + 1) ∧ SXn W1 (.slice (some ⟨ks, 0, none⟩) ns ns) S (w.heap.size + 1 + 1)) := HY1.out W1 hW1.symm
  clear HY1 hW1 HX1 q0 q1 g0 g1 x2
  refine (H2.out _ HZ1.out.1).mono ?_
  rintro e2 w2 ⟨kt, rfl, hf2, hb2⟩
  have HX2 : Hid (Below w.heap.size w w2 ∧ Box 64 w2 (w.heap.size + 1) [.slice none 0 0, .slice none 0 0, .slice none 0 0, .int .i64 0, .int .i64 0, .string ⟨#[]⟩, .string ⟨#[]⟩, .int .i64 0, .slice none 0 0, .slice none 0 0, .slice none 0 0, .slice none 0 0] ∧ Box 64 w2 (w.heap.size + 1 + 1) [.slice (some ⟨kb, 0, none⟩) nb nb, .slice (some ⟨ks, 0, none⟩) ns ns, .slice none 0 0, .int .i64 0, .int .i64 0, .string ⟨#[]⟩, .string ⟨#[]⟩, .int .i64 0, .slice none 0 0, .slice none 0 0, .slice none 0 0, .slice none 0 0] ∧ Box 55 w2 w.heap.size [.slice ab nb cb, .slice as2 ns cs, .slice at2 nt ct, .int .i64 h, .int .i64 e, .string r, .string p, .int .i64 a, .slice a1 n1 c1, .slice a2 n2 c2, .slice a3 n3 c3, .slice ag ng cg] ∧ w.heap.size + 3 ≤ w2.heap.size ∧ RLn w2 (.slice (some ⟨kb, 0, none⟩) nb nb) L (w.heap.size + 1 + 1) ∧ SXn w2 (.slice (some ⟨ks, 0, none⟩) ns ns) S (w.heap.size + 1 + 1) ∧ SXn w2 (.slice (some ⟨kt, 0, none⟩) nt nt) T (w.heap.size + 1 + 1)) := by
    obtain ⟨k1, k2, k3, k4, k5, k6, k7⟩ := HZ1.out
    exact ⟨k1.trans (hb2.mono k1.size), k2.later hb2, k3.later hb2, k4.later hb2, Nat.le_trans k5 hb2.size, k6.later hb2, k7.later hb2, hf2 _ (by omega)⟩
  clear hf2 hb2 HZ1 H2
  have q2 := HX2.out.2.2.1.at 2 _ rfl
  have g2 := HX2.out.2.2.1.fz 2
  have x3 := HX2.out.2.2.2.1.at 3 _ rfl
  have x4 := HX2.out.2.2.2.1.at 4 _ rfl
  have x5 := HX2.out.2.2.2.1.at 5 _ rfl
  have x6 := HX2.out.2.2.2.1.at 6 _ rfl
  have x7 := HX2.out.2.2.2.1.at 7 _ rfl
  have x8 := HX2.out.2.2.2.1.at 8 _ rfl
  have x9 := HX2.out.2.2.2.1.at 9 _ rfl
  have x10 := HX2.out.2.2.2.1.at 10 _ rfl
  have HY2 : Hid (∀ W, W = (w2.setCell ⟨w.heap.size + 1 + 1, 2, none⟩ (.slice (some ⟨kt, 0, none⟩) nt nt)) → Below w.heap.size w W ∧ Box 64 W (w.heap.size + 1) [.slice none 0 0, .slice none 0 0, .slice none 0 0, .int .i64 0, .int .i64 0, .string ⟨#[]⟩, .string ⟨#[]⟩, .int .i64 0, .slice none 0 0, .slice none 0 0, .slice none 0 0, .slice none 0 0] ∧ Box 64 W (w.heap.size + 1 + 1) [.slice (some ⟨kb, 0, none⟩) nb nb, .slice (some ⟨ks, 0, none⟩) ns ns, .slice (some ⟨kt, 0, none⟩) nt nt, .int .i64 0, .int .i64 0, .string ⟨#[]⟩, .string ⟨#[]⟩, .int .i64 0, .slice none 0 0, .slice none 0 0, .slice none 0 0, .slice none 0 0] ∧ Box 55 W w.heap.size [.slice ab nb cb, .slice as2 ns cs, .slice at2 nt ct, .int .i64 h, .int .i64 e, .string r, .string p, .int .i64 a, .slice a1 n1 c1, .slice a2 n2 c2, .slice a3 n3 c3, .slice ag ng cg] ∧ w.heap.size + 3 ≤ W.heap.size ∧ RLn W (.slice (some ⟨kb, 0, none⟩) nb nb) L (w.heap.size + 1 + 1) ∧ SXn W (.slice (some ⟨ks, 0, none⟩) ns ns) S (w.heap.size + 1 + 1) ∧ SXn W (.slice (some ⟨kt, 0, none⟩) nt nt) T (w.heap.size + 1 + 1)) := fun W hW => by
    subst hW
    have hg := grown_setC w2 (w.heap.size + 1 + 1) 2 (.slice (some ⟨kt, 0, none⟩) nt nt)
    obtain ⟨k1, k2, k3, k4, k5, k6, k7, k8⟩ := HX2.out
    exact ⟨k1.grown hg k1.size (fun k hk => by simp at hk; omega), k2.grown hg (by simp), k3.set 2 _, k4.grown hg (by simp; omega), by have := hg.size; omega, k6.grown hg (Nat.le_refl _), k7.grown hg (Nat.le_refl _), k8.grown hg (Nat.le_refl _)⟩
  go_wp2_with fail
  generalize hW2 : (w2.setCell ⟨w.heap.size + 1 + 1, 2, none⟩ (.slice (some ⟨kt, 0, none⟩) nt nt)) = W2
  have HZ2 : Hid (Below w.heap.size w W2 ∧ Box 64 W2 (w.heap.size + 1) [.slice none 0 0, .slice none 0 0, .slice none 0 0, .int .i64 0, .int .i64 0, .string ⟨#[]⟩, .string ⟨#[]⟩, .int .i64 0, .slice none 0 0, .slice none 0 0, .slice none 0 0, .slice none 0 0] ∧ Box 64 W2 (w.heap.size + 1 + 1) [.slice (some ⟨kb, 0, none⟩) nb nb, .slice (some ⟨ks, 0, none⟩) ns ns, .slice (some ⟨kt, 0, none⟩) nt nt, .int .i64 0, .int .i64 0, .string ⟨#[]⟩, .string ⟨#[]⟩, .int .i64 0, .slice none 0 0, .slice none 0 0, .slice none 0 0, .slice none 0 0] ∧ Box 55 W2 w.heap.size [.slice ab nb cb, .slice as2 ns cs, .slice at2 nt ct, .int .i64 h, .int .i64 e, .string r, .string p, .int .i64 a, .slice a1 n1 c1, .slice a2 n2 c2, .slice a3 n3 c3, .slice ag ng cg] ∧ w.heap.size + 3 ≤ W2.heap.size ∧ RLn W2 (.slice (some ⟨kb, 0, none⟩) nb nb) L (w.heap.size + 1 + 1) ∧ SXn W2 (.slice (some ⟨ks, 0, none⟩) ns ns) S (w.heap.size + 1 + 1) ∧ SXn W2 (.slice (some ⟨kt, 0, none⟩) nt nt) T (w.heap.size + 1 + 1)) := HY2.out W2 hW2.symm
  clear HY2 hW2 HX2 q2 g2 x3 x4 x5 x6 x7 x8 x9 x10
  refine (H3.out _ HZ2.out.1).mono ?_
  rintro e3 w3 ⟨e1, f1, g1, e2, f2, g2, e3, f3, g3, rfl, hf3, hb3⟩
  have HX3 : Hid (Below w.heap.size w w3 ∧ Box 64 w3 (w.heap.size + 1) [.slice none 0 0, .slice none 0 0, .slice none 0 0, .int .i64 0, .int .i64 0, .string ⟨#[]⟩, .string ⟨#[]⟩, .int .i64 0, .slice none 0 0, .slice none 0 0, .slice none 0 0, .slice none 0 0] ∧ Box 64 w3 (w.heap.size + 1 + 1) [.slice (some ⟨kb, 0, none⟩) nb nb, .slice (some ⟨ks, 0, none⟩) ns ns, .slice (some ⟨kt, 0, none⟩) nt nt, .int .i64 0, .int .i64 0, .string ⟨#[]⟩, .string ⟨#[]⟩, .int .i64 0, .slice none 0 0, .slice none 0 0, .slice none 0 0, .slice none 0 0] ∧ Box 55 w3 w.heap.size [.slice ab nb cb, .slice as2 ns cs, .slice at2 nt ct, .int .i64 h, .int .i64 e, .string r, .string p, .int .i64 a, .slice a1 n1 c1, .slice a2 n2 c2, .slice a3 n3 c3, .slice ag ng cg] ∧ w.heap.size + 3 ≤ w3.heap.size ∧ RLn w3 (.slice (some ⟨kb, 0, none⟩) nb nb) L (w.heap.size + 1 + 1) ∧ SXn w3 (.slice (some ⟨ks, 0, none⟩) ns ns) S (w.heap.size + 1 + 1) ∧ SXn w3 (.slice (some ⟨kt, 0, none⟩) nt nt) T (w.heap.size + 1 + 1) ∧ (SXn w3 (.slice e1 f1 g1) o (w.heap.size + 1 + 1) ∧ SXn w3 (.slice e2 f2 g2) s (w.heap.size + 1 + 1) ∧ SXn w3 (.slice e3 f3 g3) d (w.heap.size + 1 + 1))) := by
    obtain ⟨k1, k2, k3, k4, k5, k6, k7, k8⟩ := HZ2.out
    exact ⟨k1.trans (hb3.mono k1.size), k2.later hb3, k3.later hb3, k4.later hb3, Nat.le_trans k5 hb3.size, k6.later hb3, k7.later hb3, k8.later hb3, hf3 _ (by omega)⟩
  clear hf3 hb3 HZ2 H3
  have q3 := HX3.out.2.2.1.at 3 _ rfl
  have q4 := HX3.out.2.2.1.at 4 _ rfl
  have q5 := HX3.out.2.2.1.at 5 _ rfl
  have q6 := HX3.out.2.2.1.at 6 _ rfl
  have q7 := HX3.out.2.2.1.at 7 _ rfl
  have q8 := HX3.out.2.2.1.at 8 _ rfl
  have q9 := HX3.out.2.2.1.at 9 _ rfl
  have q10 := HX3.out.2.2.1.at 10 _ rfl
  have i3 := HX3.out.2.2.1.fz 3
  have i4 := HX3.out.2.2.1.fz 4
  have i5 := HX3.out.2.2.1.fz 5
  have i6 := HX3.out.2.2.1.fz 6
  have i7 := HX3.out.2.2.1.fz 7
  have i8 := HX3.out.2.2.1.fz 8
  have i9 := HX3.out.2.2.1.fz 9
  have i10 := HX3.out.2.2.1.fz 10
  have x11 := HX3.out.2.2.2.1.at 11 _ rfl
  have HY3 : Hid (∀ W, W = ((((((((w3.setCell ⟨w.heap.size + 1 + 1, 3, none⟩ (.int .i64 h)).setCell ⟨w.heap.size + 1 + 1, 4, none⟩ (.int .i64 e)).setCell ⟨w.heap.size + 1 + 1, 5, none⟩ (.string r)).setCell ⟨w.heap.size + 1 + 1, 6, none⟩ (.string p)).setCell ⟨w.heap.size + 1 + 1, 7, none⟩ (.int .i64 a)).setCell ⟨w.heap.size + 1 + 1, 8, none⟩ (.slice e1 f1 g1)).setCell ⟨w.heap.size + 1 + 1, 9, none⟩ (.slice e2 f2 g2)).setCell ⟨w.heap.size + 1 + 1, 10, none⟩ (.slice e3 f3 g3)) → Below w.heap.size w W ∧ Box 64 W (w.heap.size + 1) [.slice none 0 0, .slice none 0 0, .slice none 0 0, .int .i64 0, .int .i64 0, .string ⟨#[]⟩, .string ⟨#[]⟩, .int .i64 0, .slice none 0 0, .slice none 0 0, .slice none 0 0, .slice none 0 0] ∧ Box 64 W (w.heap.size + 1 + 1) [.slice (some ⟨kb, 0, none⟩) nb nb, .slice (some ⟨ks, 0, none⟩) ns ns, .slice (some ⟨kt, 0, none⟩) nt nt, .int .i64 h, .int .i64 e, .string r, .string p, .int .i64 a, .slice e1 f1 g1, .slice e2 f2 g2, .slice e3 f3 g3, .slice none 0 0] ∧ Box 55 W w.heap.size [.slice ab nb cb, .slice as2 ns cs, .slice at2 nt ct, .int .i64 h, .int .i64 e, .string r, .string p, .int .i64 a, .slice a1 n1 c1, .slice a2 n2 c2, .slice a3 n3 c3, .slice ag ng cg] ∧ w.heap.size + 3 ≤ W.heap.size ∧ RLn W (.slice (some ⟨kb, 0, none⟩) nb nb) L (w.heap.size + 1 + 1) ∧ SXn W (.slice (some ⟨ks, 0, none⟩) ns ns) S (w.heap.size + 1 + 1) ∧ SXn W (.slice (some ⟨kt, 0, none⟩) nt nt) T (w.heap.size + 1 + 1) ∧ (SXn W (.slice e1 f1 g1) o (w.heap.size + 1 + 1) ∧ SXn W (.slice e2 f2 g2) s (w.heap.size + 1 + 1) ∧ SXn W (.slice e3 f3 g3) d (w.heap.size + 1 + 1))) := fun W hW => by
    subst hW
    have hga := grown4 w3 (w.heap.size + 1 + 1) 3 4 5 6 (.int .i64 h) (.int .i64 e) (.string r) (.string p)
    have hgb := grown4 ((((w3.setCell ⟨w.heap.size + 1 + 1, 3, none⟩ (.int .i64 h)).setCell ⟨w.heap.size + 1 + 1, 4, none⟩ (.int .i64 e)).setCell ⟨w.heap.size + 1 + 1, 5, none⟩ (.string r)).setCell ⟨w.heap.size + 1 + 1, 6, none⟩ (.string p)) (w.heap.size + 1 + 1) 7 8 9 10 (.int .i64 a) (.slice e1 f1 g1) (.slice e2 f2 g2) (.slice e3 f3 g3)
    have hg := hga.trans hgb
    obtain ⟨k1, k2, k3, k4, k5, k6, k7, k8, k9, k10, k11⟩ := HX3.out
    exact ⟨k1.grown hg k1.size (fun k hk => by simp at hk; omega), k2.grown hg (by simp), (((((((k3.set 3 _).set 4 _).set 5 _).set 6 _).set 7 _).set 8 _).set 9 _).set 10 _, k4.grown hg (by simp; omega), by have := hg.size; omega, k6.grown hg (Nat.le_refl _), k7.grown hg (Nat.le_refl _), k8.grown hg (Nat.le_refl _), k9.grown hg (Nat.le_refl _), k10.grown hg (Nat.le_refl _), k11.grown hg (Nat.le_refl _)⟩
  go_wp2_with fail
  generalize hW3 : ((((((((w3.setCell ⟨w.heap.size + 1 + 1, 3, none⟩ (.int .i64 h)).setCell ⟨w.heap.size + 1 + 1, 4, none⟩ (.int .i64 e)).setCell ⟨w.heap.size + 1 + 1, 5, none⟩ (.string r)).setCell ⟨w.heap.size + 1 + 1, 6, none⟩ (.string p)).setCell ⟨w.heap.size + 1 + 1, 7, none⟩ (.int .i64 a)).setCell ⟨w.heap.size + 1 + 1, 8, none⟩ (.slice e1 f1 g1)).setCell ⟨w.heap.size + 1 + 1, 9, none⟩ (.slice e2 f2 g2)).setCell ⟨w.heap.size + 1 + 1, 10, none⟩ (.slice e3 f3 g3)) = W3
  have HZ3 : Hid (Below w.heap.size w W3 ∧ Box 64 W3 (w.heap.size + 1) [.slice none 0 0, .slice none 0 0, .slice none 0 0, .int .i64 0, .int .i64 0, .string ⟨#[]⟩, .string ⟨#[]⟩, .int .i64 0, .slice none 0 0, .slice none 0 0, .slice none 0 0, .slice none 0 0] ∧ Box 64 W3 (w.heap.size + 1 + 1) [.slice (some ⟨kb, 0, none⟩) nb nb, .slice (some ⟨ks, 0, none⟩) ns ns, .slice (some ⟨kt, 0, none⟩) nt nt, .int .i64 h, .int .i64 e, .string r, .string p, .int .i64 a, .slice e1 f1 g1, .slice e2 f2 g2, .slice e3 f3 g3, .slice none 0 0] ∧ Box 55 W3 w.heap.size [.slice ab nb cb, .slice as2 ns cs, .slice at2 nt ct, .int .i64 h, .int .i64 e, .string r, .string p, .int .i64 a, .slice a1 n1 c1, .slice a2 n2 c2, .slice a3 n3 c3, .slice ag ng cg] ∧ w.heap.size + 3 ≤ W3.heap.size ∧ RLn W3 (.slice (some ⟨kb, 0, none⟩) nb nb) L (w.heap.size + 1 + 1) ∧ SXn W3 (.slice (some ⟨ks, 0, none⟩) ns ns) S (w.heap.size + 1 + 1) ∧ SXn W3 (.slice (some ⟨kt, 0, none⟩) nt nt) T (w.heap.size + 1 + 1) ∧ (SXn W3 (.slice e1 f1 g1) o (w.heap.size + 1 + 1) ∧ SXn W3 (.slice e2 f2 g2) s (w.heap.size + 1 + 1) ∧ SXn W3 (.slice e3 f3 g3) d (w.heap.size + 1 + 1))) := HY3.out W3 hW3.symm
  clear HY3 hW3 HX3 q3 q4 q5 q6 q7 q8 q9 q10 i3 i4 i5 i6 i7 i8 i9 i10 x11
  refine (H4.out _ HZ3.out.1).mono ?_
  rintro e4 w4 ⟨kg, rfl, hkg, hf4, hb4⟩
  have HX4 : Hid (Below w.heap.size w w4 ∧ Box 64 w4 (w.heap.size + 1) [.slice none 0 0, .slice none 0 0, .slice none 0 0, .int .i64 0, .int .i64 0, .string ⟨#[]⟩, .string ⟨#[]⟩, .int .i64 0, .slice none 0 0, .slice none 0 0, .slice none 0 0, .slice none 0 0] ∧ Box 64 w4 (w.heap.size + 1 + 1) [.slice (some ⟨kb, 0, none⟩) nb nb, .slice (some ⟨ks, 0, none⟩) ns ns, .slice (some ⟨kt, 0, none⟩) nt nt, .int .i64 h, .int .i64 e, .string r, .string p, .int .i64 a, .slice e1 f1 g1, .slice e2 f2 g2, .slice e3 f3 g3, .slice none 0 0] ∧ Box 55 w4 w.heap.size [.slice ab nb cb, .slice as2 ns cs, .slice at2 nt ct, .int .i64 h, .int .i64 e, .string r, .string p, .int .i64 a, .slice a1 n1 c1, .slice a2 n2 c2, .slice a3 n3 c3, .slice ag ng cg] ∧ w.heap.size + 3 ≤ w4.heap.size ∧ RLn w4 (.slice (some ⟨kb, 0, none⟩) nb nb) L (w.heap.size + 1 + 1) ∧ SXn w4 (.slice (some ⟨ks, 0, none⟩) ns ns) S (w.heap.size + 1 + 1) ∧ SXn w4 (.slice (some ⟨kt, 0, none⟩) nt nt) T (w.heap.size + 1 + 1) ∧ (SXn w4 (.slice e1 f1 g1) o (w.heap.size + 1 + 1) ∧ SXn w4 (.slice e2 f2 g2) s (w.heap.size + 1 + 1) ∧ SXn w4 (.slice e3 f3 g3) d (w.heap.size + 1 + 1)) ∧ StB w4 (.slice (some ⟨kg, 0, none⟩) ng ng) kg G ∧ w.heap.size + 1 + 1 < kg) := by
    obtain ⟨k1, k2, k3, k4, k5, k6, k7, k8, k9, k10, k11⟩ := HZ3.out
    exact ⟨k1.trans (hb4.mono k1.size), k2.later hb4, k3.later hb4, k4.later hb4, Nat.le_trans k5 hb4.size, k6.later hb4, k7.later hb4, k8.later hb4, ⟨k9.later hb4, k10.later hb4, k11.later hb4⟩, hf4, by omega⟩
  clear hf4 hb4 HZ3 H4 hkg
  have q11 := HX4.out.2.2.1.at 11 _ rfl
  have i11 := HX4.out.2.2.1.fz 11
  have HY4 : Hid (∀ W, W = (w4.setCell ⟨w.heap.size + 1 + 1, 11, none⟩ (.slice (some ⟨kg, 0, none⟩) ng ng)) → Below w.heap.size w W ∧ Box 64 W (w.heap.size + 1) [.slice none 0 0, .slice none 0 0, .slice none 0 0, .int .i64 0, .int .i64 0, .string ⟨#[]⟩, .string ⟨#[]⟩, .int .i64 0, .slice none 0 0, .slice none 0 0, .slice none 0 0, .slice none 0 0] ∧ Box 64 W (w.heap.size + 1 + 1) [.slice (some ⟨kb, 0, none⟩) nb nb, .slice (some ⟨ks, 0, none⟩) ns ns, .slice (some ⟨kt, 0, none⟩) nt nt, .int .i64 h, .int .i64 e, .string r, .string p, .int .i64 a, .slice e1 f1 g1, .slice e2 f2 g2, .slice e3 f3 g3, .slice (some ⟨kg, 0, none⟩) ng ng] ∧ Box 55 W w.heap.size [.slice ab nb cb, .slice as2 ns cs, .slice at2 nt ct, .int .i64 h, .int .i64 e, .string r, .string p, .int .i64 a, .slice a1 n1 c1, .slice a2 n2 c2, .slice a3 n3 c3, .slice ag ng cg] ∧ w.heap.size + 3 ≤ W.heap.size ∧ RLn W (.slice (some ⟨kb, 0, none⟩) nb nb) L (w.heap.size + 1 + 1) ∧ SXn W (.slice (some ⟨ks, 0, none⟩) ns ns) S (w.heap.size + 1 + 1) ∧ SXn W (.slice (some ⟨kt, 0, none⟩) nt nt) T (w.heap.size + 1 + 1) ∧ (SXn W (.slice e1 f1 g1) o (w.heap.size + 1 + 1) ∧ SXn W (.slice e2 f2 g2) s (w.heap.size + 1 + 1) ∧ SXn W (.slice e3 f3 g3) d (w.heap.size + 1 + 1)) ∧ StB W (.slice (some ⟨kg, 0, none⟩) ng ng) kg G ∧ w.heap.size + 1 + 1 < kg) := fun W hW => by
    subst hW
    have hg := grown_setC w4 (w.heap.size + 1 + 1) 11 (.slice (some ⟨kg, 0, none⟩) ng ng)
    obtain ⟨k1, k2, k3, k4, k5, k6, k7, k8, ⟨k9, k10, k11⟩, k12, k13⟩ := HX4.out
    exact ⟨k1.grown hg k1.size (fun k hk => by simp at hk; omega), k2.grown hg (by simp), k3.set 11 _, k4.grown hg (by simp; omega), by have := hg.size; omega, k6.grown hg (Nat.le_refl _), k7.grown hg (Nat.le_refl _), k8.grown hg (Nat.le_refl _), ⟨k9.grown hg (Nat.le_refl _), k10.grown hg (Nat.le_refl _), k11.grown hg (Nat.le_refl _)⟩, k12.grown hg k13, k13⟩
  go_upto_region 6 with fail
  generalize hW4 : (w4.setCell ⟨w.heap.size + 1 + 1, 11, none⟩ (.slice (some ⟨kg, 0, none⟩) ng ng)) = W4
  have HZ4 : Hid (Below w.heap.size w W4 ∧ Box 64 W4 (w.heap.size + 1) [.slice none 0 0, .slice none 0 0, .slice none 0 0, .int .i64 0, .int .i64 0, .string ⟨#[]⟩, .string ⟨#[]⟩, .int .i64 0, .slice none 0 0, .slice none 0 0, .slice none 0 0, .slice none 0 0] ∧ Box 64 W4 (w.heap.size + 1 + 1) [.slice (some ⟨kb, 0, none⟩) nb nb, .slice (some ⟨ks, 0, none⟩) ns ns, .slice (some ⟨kt, 0, none⟩) nt nt, .int .i64 h, .int .i64 e, .string r, .string p, .int .i64 a, .slice e1 f1 g1, .slice e2 f2 g2, .slice e3 f3 g3, .slice (some ⟨kg, 0, none⟩) ng ng] ∧ Box 55 W4 w.heap.size [.slice ab nb cb, .slice as2 ns cs, .slice at2 nt ct, .int .i64 h, .int .i64 e, .string r, .string p, .int .i64 a, .slice a1 n1 c1, .slice a2 n2 c2, .slice a3 n3 c3, .slice ag ng cg] ∧ w.heap.size + 3 ≤ W4.heap.size ∧ RLn W4 (.slice (some ⟨kb, 0, none⟩) nb nb) L (w.heap.size + 1 + 1) ∧ SXn W4 (.slice (some ⟨ks, 0, none⟩) ns ns) S (w.heap.size + 1 + 1) ∧ SXn W4 (.slice (some ⟨kt, 0, none⟩) nt nt) T (w.heap.size + 1 + 1) ∧ (SXn W4 (.slice e1 f1 g1) o (w.heap.size + 1 + 1) ∧ SXn W4 (.slice e2 f2 g2) s (w.heap.size + 1 + 1) ∧ SXn W4 (.slice e3 f3 g3) d (w.heap.size + 1 + 1)) ∧ StB W4 (.slice (some ⟨kg, 0, none⟩) ng ng) kg G ∧ w.heap.size + 1 + 1 < kg) := HY4.out W4 hW4.symm
  clear HY4 hW4 HX4 q11 i11
  go_wp2_with (first | (refine wp_loadWh rfl _ rfl (w.heap.size + 1 + 1) rfl HZ4.out.2.2.1 ?_) | (refine wp_storeWh rfl _ _ rfl (w.heap.size + 1) _ _ _ _ _ _ _ _ _ _ _ _ HZ4.out.2.1 rfl rfl ⟨rfl, rfl, rfl, rfl, rfl, rfl, rfl, rfl, rfl, rfl, rfl, rfl⟩ ?_; intro hfin) | fail)
  refine ret_wh 2 (w.heap.size + 1) rfl rfl rfl hfin ?_
  rw [← HP.out]
  obtain ⟨k1, k2, k3, k4, k5, k6, k7, k8, ⟨k9, k10, k11⟩, k12, k13⟩ := HZ4.out
  have hgr := grown_setRowP W4 (w.heap.size + 1) #[.slice (some ⟨kb, 0, none⟩) nb nb, .slice (some ⟨ks, 0, none⟩) ns ns, .slice (some ⟨kt, 0, none⟩) nt nt, .int .i64 h, .int .i64 e, .string r, .string p, .int .i64 a, .slice e1 f1 g1, .slice e2 f2 g2, .slice e3 f3 g3, .slice (some ⟨kg, 0, none⟩) ng ng]
  refine ⟨kb, ks, kt, e1, f1, g1, e2, f2, g2, e3, f3, g3, kg, rfl, ⟨?_, HSM.out, (k7.grown hgr (by omega)).sx, (k8.grown hgr (by omega)).sx, (k9.grown hgr (by omega)).sx, (k10.grown hgr (by omega)).sx, (k11.grown hgr (by omega)).sx, ⟨kg, 0, (k12.grown hgr (by omega)).sts⟩⟩, below_row k1 (by omega)⟩
  obtain ⟨g5, o5, k5', _⟩ := k6.grown hgr (q := w.heap.size + 1) (by omega)
  exact ⟨g5, o5, k5'⟩

end Go.Proofs.Ytfojmagcoipbnaa
/-
  A whole proof as a text: the specification's answer.
-/
namespace Go.Proofs.Ytfojmagcoipbnaa
open Go.RowKit Go.BigFrame Go.Sort
set_option linter.unusedVariables false
set_option linter.unusedSimpArgs false

set_option maxRecDepth 100000 in
set_option maxHeartbeats 2000000 in
theorem sWholeText_any (vb vs vt v1 v2 v3 vst : Value) (x : Hd) (xa : Int) (L : List Le) (S T o s d : List ByteArray) (G : List Stm) (w : World) (hM : WhS w vb vs vt v1 v2 v3 vst L S T o s d G) :
    Calls Try.prog 23 #[.agg #[vb, vs, vt, .int .i64 x.h, .int .i64 x.e, .string x.r, .string x.p, .int .i64 xa, v1, v2, v3, vst]] w fun e w' => e = .returned (.tuple #[.string (whT L S T x xa o s d G), .bool (whB L S T x xa o s d G)]) ∧ Below w.heap.size w w' := by
  have H1 : Hid (∀ W, Below w.heap.size w W → Calls Try.prog 9 #[.agg #[vb, vs], .int .i64 16] W fun e w' => e = .returned (.tuple #[.string (pxT L S 16), .bool (pxB L S 16)]) ∧ Below W.heap.size W w') := fun W hW => by
    obtain ⟨⟨g, k, h2⟩, h3, ⟨g4, k4, h4⟩, _⟩ := hM.later hW
    exact sProofText_any vb vs g k g4 k4 L S 16 W h2 h3 h4
  have H2 : Hid (∀ W, Below w.heap.size w W → Calls Try.prog 60 #[.agg #[.int .i64 x.h, .int .i64 x.e, .string x.r, .string x.p, .int .i64 xa, v1, v2, v3]] W fun e w' => e = .returned (.tuple #[.string (slB x xa o s d), .bool (slOk x xa o s d)]) ∧ Below W.heap.size W w') := fun W hW => by
    obtain ⟨_, _, _, _, ⟨g1, k1, h1⟩, ⟨g2, k2, h2⟩, ⟨g3, k3, h3⟩, _⟩ := hM.later hW
    exact sSealText_any x xa v1 v2 v3 g1 k1 g2 k2 g3 k3 o s d W h1 h2 h3
  have H4 : Hid (∀ W, Below w.heap.size w W → Calls Try.prog 34 #[vt, .int .i64 16] W fun e w' => e = .returned (.bool (allW T 16)) ∧ w' = W) := fun W hW => by
    obtain ⟨_, _, _, ⟨g, k, h⟩, _⟩ := hM.later hW
    rw [← wide16w]
    exact l11Wide_any vt g k T 16 W h
  have HMM : Hid (WhS w vb vs vt v1 v2 v3 vst L S T o s d G) := hM
  have HW4 : Hid (allW T 16 = true → (∀ s ∈ T, s.size = 16) ∧ True) := fun h => ⟨fun s hs => by
      unfold allW at h
      rw [List.all_eq_true] at h
      have := h s hs
      simp at this
      omega, trivial⟩
  have zp := pxT_le L S 16
  have zs := slB_size x xa o s d
  have HR : Hid (whB L S T x xa o s d G = (pxB L S 16 && (slOk x xa o s d && (stOk G && (decide (T.length ≤ 2) && allW T 16)))) ∧ (whB L S T x xa o s d G = false → whT L S T x xa o s d G = ⟨#[]⟩) ∧ (whB L S T x xa o s d G = true → whT L S T x xa o s d G = ⟨(M.varL (pxT L S 16).size).toArray⟩ ++ pxT L S 16 ++ ⟨(M.varL T.length).toArray⟩ ++ joinT T ++ ⟨(M.varL (slB x xa o s d).size).toArray⟩ ++ slB x xa o s d ++ ⟨(M.varL G.length).toArray⟩ ++ joinT (G.map oneT))) := by
    refine ⟨rfl, fun h => ?_, fun h => ?_⟩
    · unfold whT
      rw [h, if_neg (by simp)]
    · unfold whT whJ shT hsT stJ
      rw [if_pos h]
      simp only [ByteArray.append_assoc]
  obtain ⟨xh, xe, xr, xp⟩ := x
  simp only at H2 ⊢
  have HX : Hid (Below w.heap.size w (w.alloc (.cells #[vb, vs, vt, .int .i64 xh, .int .i64 xe, .string xr, .string xp, .int .i64 xa, v1, v2, v3, vst] 64)) ∧ Box 64 (w.alloc (.cells #[vb, vs, vt, .int .i64 xh, .int .i64 xe, .string xr, .string xp, .int .i64 xa, v1, v2, v3, vst] 64)) w.heap.size [vb, vs, vt, .int .i64 xh, .int .i64 xe, .string xr, .string xp, .int .i64 xa, v1, v2, v3, vst]) := ⟨below_alloc _ _, Box.new _ _ _⟩
  obtain ⟨⟨ab, cb, rfl⟩, ⟨as2, cs, rfl⟩, ⟨at2, ct, rfl⟩, ⟨a1, c1, rfl⟩, ⟨a2, c2, rfl⟩, ⟨a3, c3, rfl⟩, ⟨ag, cg, rfl⟩, lS, lT, lG⟩ := hM.shapes
  generalize whT L S T ⟨xh, xe, xr, xp⟩ xa o s d G = WT at *
  generalize whB L S T ⟨xh, xe, xr, xp⟩ xa o s d G = WB at *
  generalize pxT L S 16 = P at *
  generalize pxB L S 16 = b1 at *
  generalize slB ⟨xh, xe, xr, xp⟩ xa o s d = Q at *
  generalize slOk ⟨xh, xe, xr, xp⟩ xa o s d = b2 at *
  generalize allW T 16 = b4 at *
  obtain ⟨nt, hnt⟩ : ∃ n, T.length = n := ⟨_, rfl⟩
  obtain ⟨ng, hng⟩ : ∃ n, G.length = n := ⟨_, rfl⟩
  have HN : Hid (T.length = nt ∧ G.length = ng) := ⟨hnt, hng⟩
  rw [hnt] at HX HMM H4 HR lT ⊢
  rw [hng] at HX HMM HR lG ⊢
  clear hM hnt hng
  generalize L.length = nb at *
  generalize S.length = ns at *
  generalize o.length = n1 at *
  generalize s.length = n2 at *
  generalize d.length = n3 at *
  obtain ⟨z0, z1, z2, z3, z4, z5, z6, z7, z8, z9, z10, z11⟩ := HX.out.2.all12w
  go_enter Try.func23, Try.ntmps23
  go_wp2_with fail
  refine (H1.out _ HX.out.1).mono ?_
  rintro e w1 ⟨rfl, hb1⟩
  have HX1 : Hid (Below w.heap.size w w1 ∧ Box 64 w1 w.heap.size [.slice ab nb cb, .slice as2 ns cs, .slice at2 nt ct, .int .i64 xh, .int .i64 xe, .string xr, .string xp, .int .i64 xa, .slice a1 n1 c1, .slice a2 n2 c2, .slice a3 n3 c3, .slice ag ng cg]) := ⟨HX.out.1.trans (hb1.mono HX.out.1.size), HX.out.2.later hb1⟩
  clear hb1 HX H1 z0 z1 z2 z3 z4 z5 z6 z7 z8 z9 z10 z11
  obtain ⟨z0, z1, z2, z3, z4, z5, z6, z7, z8, z9, z10, z11⟩ := HX1.out.2.all12w
  go_wp2_with fail
  refine (H2.out _ HX1.out.1).mono ?_
  rintro e w2 ⟨rfl, hb2⟩
  have HX2 : Hid (Below w.heap.size w w2 ∧ Box 64 w2 w.heap.size [.slice ab nb cb, .slice as2 ns cs, .slice at2 nt ct, .int .i64 xh, .int .i64 xe, .string xr, .string xp, .int .i64 xa, .slice a1 n1 c1, .slice a2 n2 c2, .slice a3 n3 c3, .slice ag ng cg]) := ⟨HX1.out.1.trans (hb2.mono HX1.out.1.size), HX1.out.2.later hb2⟩
  clear hb2 HX1 H2 z0 z1 z2 z3 z4 z5 z6 z7 z8 z9 z10 z11
  obtain ⟨z0, z1, z2, z3, z4, z5, z6, z7, z8, z9, z10, z11⟩ := HX2.out.2.all12w
  cases b1
  · have hB : WB = false := by rw [HR.out.1]; rfl
    have hW := HR.out.2.1 hB
    subst hB
    subst hW
    clear HR H4 HMM
    go_wp2
    go_ret2
    exact ⟨rfl, HX2.out.1⟩
  cases b2
  · have hB : WB = false := by rw [HR.out.1]; rfl
    have hW := HR.out.2.1 hB
    subst hB
    subst hW
    clear HR H4 HMM
    go_wp2
    go_ret2
    exact ⟨rfl, HX2.out.1⟩
  by_cases ht2 : nt ≤ 2
  rotate_left
  · have hB : WB = false := by rw [HR.out.1, decide_eq_false ht2]; simp
    have qt : (2 : Int) < (nt : Int) := by omega
    have hW := HR.out.2.1 hB
    subst hB
    subst hW
    clear HR H4 HMM
    go_wp2
    go_ret2
    exact ⟨rfl, HX2.out.1⟩
  have qt : ¬ (2 : Int) < (nt : Int) := by omega
  go_wp2_with fail
  refine (H4.out _ HX2.out.1).mono ?_
  rintro e w3 ⟨rfl, rfl⟩
  cases b4
  · have hB : WB = false := by rw [HR.out.1]; simp
    have hW := HR.out.2.1 hB
    subst hB
    subst hW
    clear HR H4 HMM
    go_wp2
    go_ret2
    exact ⟨rfl, HX2.out.1⟩
  have HW5 : Hid (∀ s ∈ T, s.size = 16) := (HW4.out (by simp)).1
  by_cases hg3 : ng ≤ 3
  rotate_left
  · have hB : WB = false := by
      rw [HR.out.1]
      unfold stOk
      rw [HN.out.2, decide_eq_false hg3]
      simp
    have qg : (3 : Int) < (ng : Int) := by omega
    have hW := HR.out.2.1 hB
    subst hB
    subst hW
    clear HR H4 HMM
    go_wp2
    go_ret2
    exact ⟨rfl, HX2.out.1⟩
  have qg : ¬ (3 : Int) < (ng : Int) := by omega
  have HV1 : Hid (∀ W, Calls Try.prog 35 #[.int .i64 (P.size : Int)] W fun e w' => e = .returned (.string ⟨(M.varL P.size).toArray⟩) ∧ Below W.heap.size W w') := fun W => l01Var_any P.size W (by omega)
  have HV2 : Hid (∀ W, Calls Try.prog 35 #[.int .i64 (nt : Int)] W fun e w' => e = .returned (.string ⟨(M.varL nt).toArray⟩) ∧ Below W.heap.size W w') := fun W => l01Var_any nt W (by omega)
  have HV3 : Hid (∀ W, Calls Try.prog 35 #[.int .i64 (Q.size : Int)] W fun e w' => e = .returned (.string ⟨(M.varL Q.size).toArray⟩) ∧ Below W.heap.size W w') := fun W => l01Var_any Q.size W (by omega)
  have HV4 : Hid (∀ W, Calls Try.prog 35 #[.int .i64 (ng : Int)] W fun e w' => e = .returned (.string ⟨(M.varL ng).toArray⟩) ∧ Below W.heap.size W w') := fun W => l01Var_any ng W (by omega)
  have hz1 := varT_le P.size
  have hz2 := varT_le nt
  have hz3 := varT_le Q.size
  have hz4 := varT_le ng
  have HRT : Hid (WB = stOk G ∧ (stOk G = false → WT = ⟨#[]⟩) ∧ (stOk G = true → WT = ⟨(M.varL P.size).toArray⟩ ++ P ++ ⟨(M.varL nt).toArray⟩ ++ joinT T ++ ⟨(M.varL Q.size).toArray⟩ ++ Q ++ ⟨(M.varL ng).toArray⟩ ++ joinT (G.map oneT))) := by
    have hwb : WB = stOk G := by rw [HR.out.1]; simp [ht2]
    exact ⟨hwb, fun h => HR.out.2.1 (by rw [hwb, h]), fun h => HR.out.2.2 (by rw [hwb, h])⟩
  clear HR H4
  generalize (⟨(M.varL P.size).toArray⟩ : ByteArray) = V1 at *
  generalize (⟨(M.varL nt).toArray⟩ : ByteArray) = V2 at *
  generalize (⟨(M.varL Q.size).toArray⟩ : ByteArray) = V3 at *
  generalize (⟨(M.varL ng).toArray⟩ : ByteArray) = V4 at *
  have e1 : ¬ 9223372036854775807 < V1.size + P.size := by omega
  have e2 : ¬ 9223372036854775807 < (V1 ++ P).size + V2.size := by rw [ByteArray.size_append]; omega
  have e2' : ¬ 9223372036854775807 < V1.size + P.size + V2.size := by omega
  have HK : Hid (∀ W, Below w3.heap.size w3 W → Box 64 W w.heap.size [.slice ab nb cb, .slice as2 ns cs, .slice at2 nt ct, .int .i64 xh, .int .i64 xe, .string xr, .string xp, .int .i64 xa, .slice a1 n1 c1, .slice a2 n2 c2, .slice a3 n3 c3, .slice ag ng cg] ∧ Below w.heap.size w W) := fun W hW => ⟨HX2.out.2.later hW, HX2.out.1.trans (hW.mono HX2.out.1.size)⟩
  have HK2 : Hid (∀ W, Below w3.heap.size w3 W → W.cell? ⟨w.heap.size, 2, none⟩ = some (.slice at2 nt ct)) := fun W hW => (HK.out W hW).1.at 2 _ rfl
  have HK11 : Hid (∀ W, Below w3.heap.size w3 W → W.cell? ⟨w.heap.size, 11, none⟩ = some (.slice ag ng cg)) := fun W hW => (HK.out W hW).1.at 11 _ rfl
  have hb : Below w3.heap.size w3 w3.drew := (Below.refl _ _).drew
  have hqt : decide ((2 : Int) < (nt : Int)) = false := decide_eq_false (by omega)
  have hqg : decide ((3 : Int) < (ng : Int)) = false := decide_eq_false (by omega)
  have HKB : Hid (Below w.heap.size w w3) := HX2.out.1
  clear HX2
  go_wp2_with fail
  try simp only [hqt, hqg]
  go_region_held3 (fun W => W.cell? ⟨w.heap.size, 2, none⟩ = some (.slice at2 nt ct)) (first | (go_keep; done) | exact HK2.out _ hb) (first | (go_at_call 35; (with_reducible refine (HV1.out _).mono ?_); rintro e4 w4 ⟨rfl, hb4⟩; have hb := hb.trans (hb4.mono hb.size)) | (go_at_call 35; (with_reducible refine (HV2.out _).mono ?_); rintro e5 w5 ⟨rfl, hb5⟩; have hb := hb.trans (hb5.mono hb.size)) | fail)
  have HB5 : Hid (Below w3.heap.size w3 w5) := hb
  try rename_i hHeld
  try clear hHeld
  clear HV1 HV2 hb hb4 hb5 z0 z1 z2 z3 z4 z5 z6 z7 z8 z9 z10 z11
  have hU : (V1 ++ P ++ V2).size ≤ 3000 := by rw [ByteArray.size_append, ByteArray.size_append]; omega
  have HT2 : Hid (∀ m, (joinT (T.take m)).size ≤ 32) := fun m => by
    have hw2 := HW5.out
    have h2 := joinT_w (x := 16) (S := T.take m) (fun s hs => by have := hw2 s (List.mem_of_mem_take hs); omega)
    refine Nat.le_trans h2 ?_
    have : (T.take m).length ≤ 2 := by simp; rw [HN.out.1]; omega
    exact Nat.mul_le_mul_right _ this
  have HT3 : Hid (∀ s ∈ T, s.size = 16) := HW5.out
  generalize hUU : V1 ++ P ++ V2 = U at *
  have HST : Hid (PjR w5 U T (.string U) (.int .i64 0) w5) := ⟨0, by omega, rfl, by rw [List.take_zero, joinT_none]; congr 1; exact (ByteArray.append_empty (b := U)).symm, Below.refl _ _⟩
  have HAT : Hid (∀ W, Below w3.heap.size w3 W → ∃ gt ot, (0 < nt → at2 = some ⟨gt, ot, none⟩) ∧ ∀ j (h : j < T.length), W.cell? ⟨gt, ot + j, none⟩ = some (.string T[j])) := fun W hW => by
    obtain ⟨_, _, _, ⟨g, k, a0, c0, e0, l0, f0, hc⟩, _⟩ := HMM.out.later (HK.out W hW).2
    simp only [Value.slice.injEq] at e0
    rw [e0.1]
    exact ⟨g, k, fun h => f0 (by rw [HN.out.1]; exact h), hc⟩
  clear hUU
  go_wp2
  go_loopw [8, 9] (fun t i wr => PjR w5 U T t i wr) (fun _ i _ => nt - (intOf i).toNat)
  case atStart => exact HST.out
  case round =>
    obtain ⟨m, hm, rfl, rfl, HI⟩ := hrel
    clear HST
    rw [HN.out.1] at hm
    have hbw := HB5.out.trans (HI.out.mono HB5.out.size)
    have c1 := HK2.out _ hbw
    by_cases hlt : m < nt
    · obtain ⟨gt, ot, ea, hcc⟩ := HAT.out _ hbw
      have ea := ea (by omega)
      subst ea
      have hmS : m < T.length := by rw [HN.out.1]; exact hlt
      have c0 := hcc m hmS
      have hst := joinT_take hmS
      have hj := HT2.out m
      have hs32 := HT3.out _ (List.getElem_mem hmS)
      have HNX : Hid (∀ W, Below wr.heap.size wr W → PjR w5 U T (.string (U ++ (joinT (T.take m) ++ T[m]))) (.int .i64 ((m : Int) + 1)) W) := fun W hW => ⟨m + 1, by rw [HN.out.1]; omega, by congr 1, by rw [hst], HI.out.trans (hW.mono HI.out.size)⟩
      rw [← ByteArray.append_assoc] at HNX
      clear hst hcc
      generalize T[m] = X at *
      generalize joinT (T.take m) = J at *
      have z2 : ¬ 9223372036854775807 < (U ++ J).size + X.size := by rw [ByteArray.size_append]; omega
      have z3 : ¬ 9223372036854775807 < U.size + J.size + X.size := by omega
      have i1 : (m : Int) < (nt : Int) := by omega
      have i2 : (0 : Int) ≤ (m : Int) := by omega
      have HKK : Hid (PjR w5 U T (.string (U ++ J ++ X)) (.int .i64 ((m : Int) + 1)) wr) := HNX.out _ (Below.refl _ _)
      clear HNX hj hs32 HMM HAT
      go_wp2
      go_roundw
      case rel => exact HKK.out
      case measure => simp [intOf]; omega
    · have hme : m = nt := by omega
      have i1 : ¬ (m : Int) < (nt : Int) := by omega
      have hTk : T.take m = T := List.take_of_length_le (by rw [HN.out.1]; omega)
      rw [hTk]
      have hJT := HT2.out m
      rw [hTk] at hJT
      have HBR : Hid (Below w3.heap.size w3 wr) := hbw
      clear HI hbw HAT hTk
      generalize joinT T = J at *
      have hU1 : (U ++ J).size ≤ 4000 := by rw [ByteArray.size_append]; omega
      generalize hUJ : U ++ J = UJ at *
      have e3 : ¬ 9223372036854775807 < UJ.size + V3.size := by omega
      have e4 : ¬ 9223372036854775807 < (UJ ++ V3).size + Q.size := by rw [ByteArray.size_append]; omega
      have e4' : ¬ 9223372036854775807 < UJ.size + V3.size + Q.size := by omega
      have e5 : ¬ 9223372036854775807 < (UJ ++ V3 ++ Q).size + V4.size := by rw [ByteArray.size_append, ByteArray.size_append]; omega
      have e5' : ¬ 9223372036854775807 < UJ.size + V3.size + Q.size + V4.size := by omega
      have hb : Below w3.heap.size w3 wr.drew := HBR.out.drew
      go_wp2_with fail
      go_region_held3 (fun W => W.cell? ⟨w.heap.size, 11, none⟩ = some (.slice ag ng cg)) (first | (go_keep; done) | exact HK11.out _ hb) (first | (go_at_call 35; (with_reducible refine (HV3.out _).mono ?_); rintro e6 w6 ⟨rfl, hb6⟩; have hb := hb.trans (hb6.mono hb.size)) | (go_at_call 35; (with_reducible refine (HV4.out _).mono ?_); rintro e7 w7 ⟨rfl, hb7⟩; have hb := hb.trans (hb7.mono hb.size)) | fail)
      have HB7 : Hid (Below w3.heap.size w3 w7) := hb
      try rename_i hHeld
      try clear hHeld
      clear HV3 HV4 hb hb6 hb7 c1
      have hU2 : (UJ ++ V3 ++ Q ++ V4).size ≤ 5000 := by rw [ByteArray.size_append, ByteArray.size_append, ByteArray.size_append]; omega
      have HRT2 : Hid (WB = stOk G ∧ (stOk G = false → WT = ⟨#[]⟩) ∧ (stOk G = true → WT = UJ ++ V3 ++ Q ++ V4 ++ joinT (G.map oneT))) := HRT
      generalize UJ ++ V3 ++ Q ++ V4 = UU at *
      have HST2 : Hid (WtR w3 UU G (.string UU) (.int .i64 0) w7) := ⟨0, by omega, rfl, by rw [List.take_zero, List.map_nil, joinT_none]; congr 1; exact (ByteArray.append_empty (b := UU)).symm, HB7.out, fun j _ h => by omega⟩
      have HAG : Hid (∀ W, Below w3.heap.size w3 W → ∃ gg og, (0 < ng → ag = some ⟨gg, og, none⟩) ∧ StS W (.slice ag ng cg) gg og G) := fun W hW => by
        obtain ⟨_, _, _, _, _, _, _, ⟨g, k, hst⟩⟩ := HMM.out.later (HK.out W hW).2
        obtain ⟨a0, c0, e0, _, f0⟩ := hst.shape
        simp only [Value.slice.injEq] at e0
        refine ⟨g, k, fun h => ?_, hst⟩
        rw [e0.1]
        exact f0 (by rw [HN.out.2]; exact h)
      clear hUJ HRT HMM HT2 HT3 HW5 HBR
      rename World => wr0
      go_wp2
      go_loopw [8, 10] (fun t i wr => WtR w3 UU G t i wr) (fun _ i _ => ng - (intOf i).toNat)
      case atStart => exact HST2.out
      case round =>
        obtain ⟨k, hk, rfl, rfl, HI⟩ := hrel
        clear HST2
        rw [HN.out.2] at hk
        have hbw := HI.out.1
        have c11 := HK11.out _ hbw
        by_cases hlt : k < ng
        · obtain ⟨gg, og, ea, hstt⟩ := HAG.out _ hbw
          have ea := ea (by omega)
          subst ea
          have hkG : k < G.length := by rw [HN.out.2]; exact hlt
          obtain ⟨u1, u2, u3, ⟨c0, c1, c2, c3, c4⟩, hu1, hu2, hu3⟩ := hstt.at k hkG
          obtain ⟨b1, d1, rfl⟩ := hu1.shape
          obtain ⟨b2, d2, rfl⟩ := hu2.shape
          obtain ⟨b3, d3, rfl⟩ := hu3.shape
          have hgl := lt_of_cell c0
          have hsg : Calls Try.prog 61 #[.agg #[.int .i64 G[k].a, .slice b1 G[k].o.length d1, .slice b2 G[k].s.length d2, .slice b3 G[k].d.length d3]] wr fun e w' => e = .returned (.tuple #[.string (sigB G[k].a G[k].o G[k].s G[k].d), .bool (formB G[k].a G[k].o G[k].s G[k].d)]) ∧ Below wr.heap.size wr w' := by
            obtain ⟨k1, l1, s1⟩ := hu1
            obtain ⟨k2, l2, s2⟩ := hu2
            obtain ⟨k3, l3, s3⟩ := hu3
            exact sSigText_all _ _ _ _ k1 l1 k2 l2 k3 l3 _ _ _ _ s1 s2 s3
          have HX : Hid (oneB G[k] = (formB G[k].a G[k].o G[k].s G[k].d && decide (0 ≤ G[k].b ∧ G[k].b < 3)) ∧ (oneB G[k] = false → WB = false ∧ WT = ⟨#[]⟩)) := ⟨rfl, fun h => by
            have := stOk_bad hkG h
            exact ⟨by rw [HRT2.out.1]; exact this, HRT2.out.2.1 this⟩⟩
          have HNX : Hid (∀ W, oneB G[k] = true → Below wr.heap.size wr W → WtR w3 UU G (.string (UU ++ (joinT ((G.take k).map oneT) ++ (⟨#[UInt8.ofNat G[k].b.toNat]⟩ ++ sigB G[k].a G[k].o G[k].s G[k].d)))) (.int .i64 ((k : Int) + 1)) W) := fun W h hW => ⟨k + 1, by omega, by congr 1, by rw [stP_take hkG]; rfl, HI.out.1.trans (hW.mono HI.out.1.size), fun j hj hjm => by
            rcases Nat.lt_or_ge j k with h1 | h1
            · exact HI.out.2 j hj h1
            · have : j = k := by omega
              subst this
              exact h⟩
          have hJs := stP_size (G := G) (by rw [HN.out.2]; exact hg3) k
          have hss := sigB_size G[k].a G[k].o G[k].s G[k].d
          have HBW : Hid (Below w3.heap.size w3 wr) := HI.out.1
          have HCK : Hid (∀ W, Below wr.heap.size wr W → W.cell? ⟨w.heap.size, 11, none⟩ = some (.slice (some ⟨gg, og, none⟩) ng cg) ∧ W.cell? ⟨gg, og + k * 5, none⟩ = some (.int .i64 G[k].b)) := fun W hW => ⟨HK11.out W (HBW.out.trans (hW.mono HBW.out.size)), cell_up c0 hW⟩
          clear hu1 hu2 hu3 HI HAG hstt HRT2 hbw HK HK2 HK11
          generalize oneB G[k] = bo at *
          generalize formB G[k].a G[k].o G[k].s G[k].d = bf at *
          generalize sigB G[k].a G[k].o G[k].s G[k].d = Y at *
          generalize G[k].o.length = m1 at *
          generalize G[k].s.length = m2 at *
          generalize G[k].d.length = m3 at *
          generalize G[k].a = ya at *
          generalize G[k].b = yb at *
          generalize joinT ((G.take k).map oneT) = JJ at *
          have i1 : (k : Int) < (ng : Int) := by omega
          have i2 : (0 : Int) ≤ (k : Int) := by omega
          go_wp2_with fail
          refine hsg.mono ?_
          rintro e8 w8 ⟨rfl, hb8⟩
          obtain ⟨c11', c0'⟩ := HCK.out w8 hb8
          have HB8 : Hid (Below wr.heap.size wr w8) := hb8
          have hlt8 : gg < w8.heap.size := lt_of_cell c0'
          clear c0 c1 c2 c3 c4 c11 hsg hb8
          cases bf
          · have hbo : bo = false := by rw [HX.out.1]; simp
            obtain ⟨rfl, rfl⟩ := HX.out.2 hbo
            have HF : Hid (Below w.heap.size w w8) := HKB.out.trans ((HBW.out.trans (HB8.out.mono HBW.out.size)).mono HKB.out.size)
            clear HX HNX HCK
            go_wp2
            go_ret2
            exact ⟨rfl, HF.out⟩
          · go_wp2_with fail
            refine (l01In_any _ _ _ _).mono ?_
            rintro e9 w9 ⟨rfl, rfl⟩
            by_cases hyb : 0 ≤ yb ∧ yb < 3
            · rw [decide_eq_true (show 0 ≤ yb ∧ yb ≤ 2 by omega)]
              have hbo : bo = true := by rw [HX.out.1, decide_eq_true hyb]; rfl
              obtain ⟨b, hb⟩ : ∃ b, UInt8.ofNat yb.toNat = b := ⟨_, rfl⟩
              have kb : yb = (b.toNat : Int) := by rw [← hb]; exact byte_int yb _ (by omega) (by omega)
              rw [hb] at HNX
              clear hb
              subst kb
              have t1 := one_str w9 b
              have hs1 : (⟨#[b]⟩ : ByteArray).size = 1 := rfl
              have HF : Hid (WtR w3 UU G (.string (UU ++ (JJ ++ (⟨#[b]⟩ ++ Y)))) (.int .i64 ((k : Int) + 1)) (w9.alloc (.cells #[.int .u8 (b.toNat : Int)] 5))) := HNX.out _ hbo (HB8.out.alloc HB8.out.size _)
              rw [← ByteArray.append_assoc, ← ByteArray.append_assoc] at HF
              clear HX HNX HCK
              generalize (⟨#[b]⟩ : ByteArray) = S1 at *
              have z5 : ¬ 9223372036854775807 < (UU ++ JJ).size + S1.size := by rw [ByteArray.size_append]; omega
              have z5' : ¬ 9223372036854775807 < UU.size + JJ.size + S1.size := by omega
              have z6 : ¬ 9223372036854775807 < (UU ++ JJ ++ S1).size + Y.size := by rw [ByteArray.size_append, ByteArray.size_append]; omega
              have z6' : ¬ 9223372036854775807 < UU.size + JJ.size + S1.size + Y.size := by omega
              go_wp2
              go_roundw
              case rel => exact HF.out
              case measure => simp [intOf]; omega
            · rw [decide_eq_false (show ¬ (0 ≤ yb ∧ yb ≤ 2) by omega)]
              have hbo : bo = false := by rw [HX.out.1, decide_eq_false hyb]; rfl
              obtain ⟨rfl, rfl⟩ := HX.out.2 hbo
              have HF : Hid (Below w.heap.size w w9) := HKB.out.trans ((HBW.out.trans (HB8.out.mono HBW.out.size)).mono HKB.out.size)
              clear HX HNX HCK
              go_wp2
              go_ret2
              exact ⟨rfl, HF.out⟩
        · have hme : k = ng := by omega
          have hq : G.take k = G := List.take_of_length_le (by rw [HN.out.2]; omega)
          rw [hq]
          have i1 : ¬ (k : Int) < (ng : Int) := by omega
          have hBt : stOk G = true := stOk_good (by rw [HN.out.2]; exact hg3) fun j hj => HI.out.2 j hj (by rw [HN.out.2] at hj; omega)
          have hTe := HRT2.out.2.2 hBt
          have hWB : WB = true := by rw [HRT2.out.1, hBt]
          subst hWB
          subst hTe
          have HF : Hid (Below w.heap.size w wr) := HKB.out.trans (hbw.mono HKB.out.size)
          clear HI HAG HRT2 hbw HK HK2 HK11
          go_wp2
          go_ret2
          exact ⟨rfl, HF.out⟩

end Go.Proofs.Ytfojmagcoipbnaa
/-
  The walk of the law FnExactWholeText: it answers true of every whole proof.
-/
namespace Go.Proofs.Ytfojmagcoipbnaa
open Go.RowKit Go.BigFrame Go.Sort
set_option linter.unusedVariables false
set_option linter.unusedSimpArgs false

set_option maxRecDepth 100000 in
set_option maxHeartbeats 4000000 in
theorem wholeTextLaw_any (Z : WhA) (w : World) (hZ : Z.is w) :
    Calls Try.prog 6 #[.agg #[Z.vb, Z.vs, Z.vt, .int .i64 Z.x.h, .int .i64 Z.x.e, .string Z.x.r, .string Z.x.p, .int .i64 Z.a, Z.v1, Z.v2, Z.v3, Z.vg]] w fun e w' => e = .returned (.bool true) ∧ Below w.heap.size w w' := by
  have HX : Hid (Below w.heap.size w (w.alloc (.cells #[Z.vb, Z.vs, Z.vt, .int .i64 Z.x.h, .int .i64 Z.x.e, .string Z.x.r, .string Z.x.p, .int .i64 Z.a, Z.v1, Z.v2, Z.v3, Z.vg] 55)) ∧ Box 55 (w.alloc (.cells #[Z.vb, Z.vs, Z.vt, .int .i64 Z.x.h, .int .i64 Z.x.e, .string Z.x.r, .string Z.x.p, .int .i64 Z.a, Z.v1, Z.v2, Z.v3, Z.vg] 55)) w.heap.size [Z.vb, Z.vs, Z.vt, .int .i64 Z.x.h, .int .i64 Z.x.e, .string Z.x.r, .string Z.x.p, .int .i64 Z.a, Z.v1, Z.v2, Z.v3, Z.vg]) := ⟨below_alloc _ _, Box.new _ _ _⟩
  have hsz := szWhole_row Z 1048576 _ (hZ.later HX.out.1) (by omega) (by omega)
  have HTO : Hid (∀ w1, Z.sm w1 → ∀ W, Below w1.heap.size w1 W → Calls Try.prog 24 #[.agg #[Z.vb, Z.vs, Z.vt, .int .i64 Z.x.h, .int .i64 Z.x.e, .string Z.x.r, .string Z.x.p, .int .i64 Z.a, Z.v1, Z.v2, Z.v3, Z.vg]] W (ToW Z.x Z.a Z.L Z.S Z.T Z.o Z.s Z.d Z.G W)) := fun w1 hs W hW => toWhole_any Z.vb Z.vs Z.vt Z.v1 Z.v2 Z.v3 Z.vg Z.x Z.a Z.L Z.S Z.T Z.o Z.s Z.d Z.G W (WhS.later hs hW)
  have HCS : Hid (∀ W vb vs vt v1 v2 v3 vg, WhS W vb vs vt v1 v2 v3 vg Z.L Z.S Z.T Z.o Z.s Z.d Z.G → Calls Try.prog 23 #[.agg #[vb, vs, vt, .int .i64 Z.x.h, .int .i64 Z.x.e, .string Z.x.r, .string Z.x.p, .int .i64 Z.a, v1, v2, v3, vg]] W fun e w' => e = .returned (.tuple #[.string (whT Z.L Z.S Z.T Z.x Z.a Z.o Z.s Z.d Z.G), .bool (whB Z.L Z.S Z.T Z.x Z.a Z.o Z.s Z.d Z.G)]) ∧ Below W.heap.size W w') := fun W vb vs vt v1 v2 v3 vg h => sWholeText_any vb vs vt v1 v2 v3 vg Z.x Z.a Z.L Z.S Z.T Z.o Z.s Z.d Z.G W h
  have HCI : Hid (∀ W vb vs vt v1 v2 v3 vg, WhS W vb vs vt v1 v2 v3 vg Z.L Z.S Z.T Z.o Z.s Z.d Z.G → (∀ a n c, vs = .slice a n c → n ≤ c) → (∀ a n c, vt = .slice a n c → n ≤ c) → Calls Try.prog 25 #[.agg #[vb, vs, vt, .int .i64 Z.x.h, .int .i64 Z.x.e, .string Z.x.r, .string Z.x.p, .int .i64 Z.a, v1, v2, v3, vg]] W fun e w' => e = .returned (.tuple #[.string (whT Z.L Z.S Z.T Z.x Z.a Z.o Z.s Z.d Z.G), .bool (whB Z.L Z.S Z.T Z.x Z.a Z.o Z.s Z.d Z.G)]) ∧ Below W.heap.size W w') := fun W vb vs vt v1 v2 v3 vg h k1 k2 => WholeText_any vb vs vt v1 v2 v3 vg Z.x Z.a Z.L Z.S Z.T Z.o Z.s Z.d Z.G W h k1 k2
  have HEQ : Hid (∀ W vb vs vt v1 v2 v3 vg ub us ut u1 u2 u3 ug, WhS W vb vs vt v1 v2 v3 vg Z.L Z.S Z.T Z.o Z.s Z.d Z.G → WhS W ub us ut u1 u2 u3 ug Z.L Z.S Z.T Z.o Z.s Z.d Z.G → Calls Try.prog 26 #[.agg #[vb, vs, vt, .int .i64 Z.x.h, .int .i64 Z.x.e, .string Z.x.r, .string Z.x.p, .int .i64 Z.a, v1, v2, v3, vg], .agg #[ub, us, ut, .int .i64 Z.x.h, .int .i64 Z.x.e, .string Z.x.r, .string Z.x.p, .int .i64 Z.a, u1, u2, u3, ug]] W fun e w' => e = .returned (.bool true) ∧ Below W.heap.size W w') := fun W vb vs vt v1 v2 v3 vg ub us ut u1 u2 u3 ug h k => eqWhole_yes vb vs vt v1 v2 v3 vg ub us ut u1 u2 u3 ug Z.x Z.a Z.L Z.S Z.T Z.o Z.s Z.d Z.G W h k
  obtain ⟨⟨_, _, ab, nb, cb, e1, j1⟩, ⟨_, _, as2, ns, cs, e2, j2⟩, ⟨_, _, at2, nt, ct, e3, j3⟩, j4, ⟨_, _, a1, n1, c1, e5, j5⟩, ⟨_, _, a2, n2, c2, e6, j6⟩, ⟨_, _, a3, n3, c3, e7, j7⟩, ⟨_, _, ag, ng, cg, e8, j8⟩⟩ := hZ
  clear j1 j2 j3 j4 j5 j6 j7 j8
  unfold ToW at HTO
  generalize hSM : Z.sm = SM at *
  clear hSM
  obtain ⟨vb, vs, vt, ⟨h, ep, r, p⟩, a, v1, v2, v3, vg, L, S, T, o, s, d, V, G⟩ := Z
  simp only at e1 e2 e3 e5 e6 e7 e8 hsz HTO HCS HCI HEQ HX ⊢
  subst e1
  subst e2
  subst e3
  subst e5
  subst e6
  subst e7
  subst e8
  generalize whT L S T ⟨h, ep, r, p⟩ a o s d G = WT at *
  generalize whB L S T ⟨h, ep, r, p⟩ a o s d G = WB at *
  generalize L.length = lb at *
  generalize S.length = ls at *
  generalize T.length = lt at *
  generalize G.length = lg at *
  have HTO' : Hid (∀ w1, SM w1 → ∀ W, Below w1.heap.size w1 W → Calls Try.prog 24 #[.agg #[.slice ab nb cb, .slice as2 ns cs, .slice at2 nt ct, .int .i64 h, .int .i64 ep, .string r, .string p, .int .i64 a, .slice a1 n1 c1, .slice a2 n2 c2, .slice a3 n3 c3, .slice ag ng cg]] W fun e w' => ∃ kb ks kt e1 f1 g1 e2 f2 g2 e3 f3 g3 kg, e = .returned (.agg #[.slice (some ⟨kb, 0, none⟩) lb lb, .slice (some ⟨ks, 0, none⟩) ls ls, .slice (some ⟨kt, 0, none⟩) lt lt, .int .i64 h, .int .i64 ep, .string r, .string p, .int .i64 a, .slice e1 f1 g1, .slice e2 f2 g2, .slice e3 f3 g3, .slice (some ⟨kg, 0, none⟩) lg lg]) ∧ WhS w' (.slice (some ⟨kb, 0, none⟩) lb lb) (.slice (some ⟨ks, 0, none⟩) ls ls) (.slice (some ⟨kt, 0, none⟩) lt lt) (.slice e1 f1 g1) (.slice e2 f2 g2) (.slice e3 f3 g3) (.slice (some ⟨kg, 0, none⟩) lg lg) L S T o s d G ∧ Below W.heap.size W w') := HTO
  clear HTO
  go_enter Try.func6, Try.ntmps6
  go_wp2_with fail
  refine hsz.mono ?_
  rintro e w1 ⟨B, rfl, hb1, _, hB⟩
  have HX1 : Hid (Below w.heap.size w w1 ∧ Box 55 w1 w.heap.size [.slice ab nb cb, .slice as2 ns cs, .slice at2 nt ct, .int .i64 h, .int .i64 ep, .string r, .string p, .int .i64 a, .slice a1 n1 c1, .slice a2 n2 c2, .slice a3 n3 c3, .slice ag ng cg]) := ⟨HX.out.1.trans (hb1.mono HX.out.1.size), HX.out.2.later hb1⟩
  clear hsz HX hb1
  by_cases hneg : B < 0
  · clear hB HCS HCI HEQ HTO'
    go_wp2
    go_ret
    exact ⟨rfl, HX1.out.1⟩
  have HTO : Hid (∀ W, Below w1.heap.size w1 W → Calls Try.prog 24 #[.agg #[.slice ab nb cb, .slice as2 ns cs, .slice at2 nt ct, .int .i64 h, .int .i64 ep, .string r, .string p, .int .i64 a, .slice a1 n1 c1, .slice a2 n2 c2, .slice a3 n3 c3, .slice ag ng cg]] W fun e w' => ∃ kb ks kt e1 f1 g1 e2 f2 g2 e3 f3 g3 kg, e = .returned (.agg #[.slice (some ⟨kb, 0, none⟩) lb lb, .slice (some ⟨ks, 0, none⟩) ls ls, .slice (some ⟨kt, 0, none⟩) lt lt, .int .i64 h, .int .i64 ep, .string r, .string p, .int .i64 a, .slice e1 f1 g1, .slice e2 f2 g2, .slice e3 f3 g3, .slice (some ⟨kg, 0, none⟩) lg lg]) ∧ WhS w' (.slice (some ⟨kb, 0, none⟩) lb lb) (.slice (some ⟨ks, 0, none⟩) ls ls) (.slice (some ⟨kt, 0, none⟩) lt lt) (.slice e1 f1 g1) (.slice e2 f2 g2) (.slice e3 f3 g3) (.slice (some ⟨kg, 0, none⟩) lg lg) L S T o s d G ∧ Below W.heap.size W w') := HTO'.out w1 (hB (by omega))
  clear hB HTO'
  obtain ⟨z0, z1, z2, z3, z4, z5, z6, z7, z8, z9, z10, z11⟩ := HX1.out.2.all12w
  go_wp2_with fail
  refine (HTO.out _ (Below.refl _ _)).mono ?_
  rintro e w2 ⟨kb2, ks2, kt2, e12, f12, g12, e22, f22, g22, e32, f32, g32, kg2, rfl, hm2, hb2⟩
  go_wp2_with fail
  refine (HCS.out _ _ _ _ _ _ _ _ hm2).mono ?_
  rintro e w3 ⟨rfl, hb3⟩
  have HX3 : Hid (Below w.heap.size w w3 ∧ Box 55 w3 w.heap.size [.slice ab nb cb, .slice as2 ns cs, .slice at2 nt ct, .int .i64 h, .int .i64 ep, .string r, .string p, .int .i64 a, .slice a1 n1 c1, .slice a2 n2 c2, .slice a3 n3 c3, .slice ag ng cg] ∧ Below w1.heap.size w1 w3) := by
    have hb13 := hb2.trans (hb3.mono hb2.size)
    exact ⟨HX1.out.1.trans (hb13.mono HX1.out.1.size), HX1.out.2.later hb13, hb13⟩
  clear hm2 hb2 hb3 HCS HX1 z0 z1 z2 z3 z4 z5 z6 z7 z8 z9 z10 z11
  obtain ⟨z0, z1, z2, z3, z4, z5, z6, z7, z8, z9, z10, z11⟩ := HX3.out.2.1.all12w
  go_wp2_with fail
  refine (HTO.out _ HX3.out.2.2).mono ?_
  rintro e w4 ⟨kb4, ks4, kt4, e14, f14, g14, e24, f24, g24, e34, f34, g34, kg4, rfl, hm4, hb4⟩
  have HX4 : Hid (Below w.heap.size w (w4.alloc (.cells #[.slice (some ⟨kb4, 0, none⟩) lb lb, .slice (some ⟨ks4, 0, none⟩) ls ls, .slice (some ⟨kt4, 0, none⟩) lt lt, .int .i64 h, .int .i64 ep, .string r, .string p, .int .i64 a, .slice e14 f14 g14, .slice e24 f24 g24, .slice e34 f34 g34, .slice (some ⟨kg4, 0, none⟩) lg lg] 64)) ∧ Box 55 (w4.alloc (.cells #[.slice (some ⟨kb4, 0, none⟩) lb lb, .slice (some ⟨ks4, 0, none⟩) ls ls, .slice (some ⟨kt4, 0, none⟩) lt lt, .int .i64 h, .int .i64 ep, .string r, .string p, .int .i64 a, .slice e14 f14 g14, .slice e24 f24 g24, .slice e34 f34 g34, .slice (some ⟨kg4, 0, none⟩) lg lg] 64)) w.heap.size [.slice ab nb cb, .slice as2 ns cs, .slice at2 nt ct, .int .i64 h, .int .i64 ep, .string r, .string p, .int .i64 a, .slice a1 n1 c1, .slice a2 n2 c2, .slice a3 n3 c3, .slice ag ng cg] ∧ Below w1.heap.size w1 (w4.alloc (.cells #[.slice (some ⟨kb4, 0, none⟩) lb lb, .slice (some ⟨ks4, 0, none⟩) ls ls, .slice (some ⟨kt4, 0, none⟩) lt lt, .int .i64 h, .int .i64 ep, .string r, .string p, .int .i64 a, .slice e14 f14 g14, .slice e24 f24 g24, .slice e34 f34 g34, .slice (some ⟨kg4, 0, none⟩) lg lg] 64)) ∧ Box 64 (w4.alloc (.cells #[.slice (some ⟨kb4, 0, none⟩) lb lb, .slice (some ⟨ks4, 0, none⟩) ls ls, .slice (some ⟨kt4, 0, none⟩) lt lt, .int .i64 h, .int .i64 ep, .string r, .string p, .int .i64 a, .slice e14 f14 g14, .slice e24 f24 g24, .slice e34 f34 g34, .slice (some ⟨kg4, 0, none⟩) lg lg] 64)) w4.heap.size [.slice (some ⟨kb4, 0, none⟩) lb lb, .slice (some ⟨ks4, 0, none⟩) ls ls, .slice (some ⟨kt4, 0, none⟩) lt lt, .int .i64 h, .int .i64 ep, .string r, .string p, .int .i64 a, .slice e14 f14 g14, .slice e24 f24 g24, .slice e34 f34 g34, .slice (some ⟨kg4, 0, none⟩) lg lg] ∧ WhS (w4.alloc (.cells #[.slice (some ⟨kb4, 0, none⟩) lb lb, .slice (some ⟨ks4, 0, none⟩) ls ls, .slice (some ⟨kt4, 0, none⟩) lt lt, .int .i64 h, .int .i64 ep, .string r, .string p, .int .i64 a, .slice e14 f14 g14, .slice e24 f24 g24, .slice e34 f34 g34, .slice (some ⟨kg4, 0, none⟩) lg lg] 64)) (.slice (some ⟨kb4, 0, none⟩) lb lb) (.slice (some ⟨ks4, 0, none⟩) ls ls) (.slice (some ⟨kt4, 0, none⟩) lt lt) (.slice e14 f14 g14) (.slice e24 f24 g24) (.slice e34 f34 g34) (.slice (some ⟨kg4, 0, none⟩) lg lg) L S T o s d G) := by
    obtain ⟨k1, k2, k3⟩ := HX3.out
    have j1 := k1.trans (hb4.mono k1.size)
    have j3 := k3.trans (hb4.mono k3.size)
    exact ⟨j1.alloc j1.size _, (k2.later hb4).later (below_alloc _ _), j3.alloc j3.size _, Box.new _ _ _, hm4.later (below_alloc _ _)⟩
  clear hm4 hb4 HX3 z0 z1 z2 z3 z4 z5 z6 z7 z8 z9 z10 z11
  obtain ⟨z0, z1, z2, z3, z4, z5, z6, z7, z8, z9, z10, z11⟩ := HX4.out.2.2.2.1.all12w
  go_wp2_with fail
  refine (HCI.out _ _ _ _ _ _ _ _ HX4.out.2.2.2.2 (fun _ _ _ he => by simp only [Value.slice.injEq] at he; omega) (fun _ _ _ he => by simp only [Value.slice.injEq] at he; omega)).mono ?_
  rintro e w6 ⟨rfl, hb6⟩
  have HX6 : Hid (Below w.heap.size w w6 ∧ Box 55 w6 w.heap.size [.slice ab nb cb, .slice as2 ns cs, .slice at2 nt ct, .int .i64 h, .int .i64 ep, .string r, .string p, .int .i64 a, .slice a1 n1 c1, .slice a2 n2 c2, .slice a3 n3 c3, .slice ag ng cg] ∧ Below w1.heap.size w1 w6 ∧ Box 64 w6 w4.heap.size [.slice (some ⟨kb4, 0, none⟩) lb lb, .slice (some ⟨ks4, 0, none⟩) ls ls, .slice (some ⟨kt4, 0, none⟩) lt lt, .int .i64 h, .int .i64 ep, .string r, .string p, .int .i64 a, .slice e14 f14 g14, .slice e24 f24 g24, .slice e34 f34 g34, .slice (some ⟨kg4, 0, none⟩) lg lg] ∧ WhS w6 (.slice (some ⟨kb4, 0, none⟩) lb lb) (.slice (some ⟨ks4, 0, none⟩) ls ls) (.slice (some ⟨kt4, 0, none⟩) lt lt) (.slice e14 f14 g14) (.slice e24 f24 g24) (.slice e34 f34 g34) (.slice (some ⟨kg4, 0, none⟩) lg lg) L S T o s d G) := by
    obtain ⟨k1, k2, k3, k4, k5⟩ := HX4.out
    exact ⟨k1.trans (hb6.mono k1.size), k2.later hb6, k3.trans (hb6.mono k3.size), k4.later hb6, k5.later hb6⟩
  clear hb6 HX4 HCI z0 z1 z2 z3 z4 z5 z6 z7 z8 z9 z10 z11
  have HK : Hid (∀ W, Below w6.heap.size w6 W → (W.cell? ⟨w4.heap.size, 0, none⟩ = some (.slice (some ⟨kb4, 0, none⟩) lb lb) ∧ W.cell? ⟨w4.heap.size, 1, none⟩ = some (.slice (some ⟨ks4, 0, none⟩) ls ls) ∧ W.cell? ⟨w4.heap.size, 2, none⟩ = some (.slice (some ⟨kt4, 0, none⟩) lt lt) ∧ W.cell? ⟨w4.heap.size, 3, none⟩ = some (.int .i64 h) ∧ W.cell? ⟨w4.heap.size, 4, none⟩ = some (.int .i64 ep) ∧ W.cell? ⟨w4.heap.size, 5, none⟩ = some (.string r) ∧ W.cell? ⟨w4.heap.size, 6, none⟩ = some (.string p) ∧ W.cell? ⟨w4.heap.size, 7, none⟩ = some (.int .i64 a) ∧ W.cell? ⟨w4.heap.size, 8, none⟩ = some (.slice e14 f14 g14) ∧ W.cell? ⟨w4.heap.size, 9, none⟩ = some (.slice e24 f24 g24) ∧ W.cell? ⟨w4.heap.size, 10, none⟩ = some (.slice e34 f34 g34) ∧ W.cell? ⟨w4.heap.size, 11, none⟩ = some (.slice (some ⟨kg4, 0, none⟩) lg lg)) ∧ W.cell? ⟨w.heap.size, 0, none⟩ = some (.slice ab nb cb) ∧ W.cell? ⟨w.heap.size, 1, none⟩ = some (.slice as2 ns cs) ∧ W.cell? ⟨w.heap.size, 2, none⟩ = some (.slice at2 nt ct) ∧ W.cell? ⟨w.heap.size, 3, none⟩ = some (.int .i64 h) ∧ W.cell? ⟨w.heap.size, 4, none⟩ = some (.int .i64 ep) ∧ W.cell? ⟨w.heap.size, 5, none⟩ = some (.string r) ∧ W.cell? ⟨w.heap.size, 6, none⟩ = some (.string p) ∧ W.cell? ⟨w.heap.size, 7, none⟩ = some (.int .i64 a) ∧ W.cell? ⟨w.heap.size, 8, none⟩ = some (.slice a1 n1 c1) ∧ W.cell? ⟨w.heap.size, 9, none⟩ = some (.slice a2 n2 c2) ∧ W.cell? ⟨w.heap.size, 10, none⟩ = some (.slice a3 n3 c3) ∧ W.cell? ⟨w.heap.size, 11, none⟩ = some (.slice ag ng cg)) := fun W hW => ⟨(HX6.out.2.2.2.1.later hW).all12w, (HX6.out.2.1.later hW).all12w⟩
  have HTO6 : Hid (∀ W, Below w6.heap.size w6 W → Calls Try.prog 24 #[.agg #[.slice ab nb cb, .slice as2 ns cs, .slice at2 nt ct, .int .i64 h, .int .i64 ep, .string r, .string p, .int .i64 a, .slice a1 n1 c1, .slice a2 n2 c2, .slice a3 n3 c3, .slice ag ng cg]] W fun e w' => ∃ kb ks kt e1 f1 g1 e2 f2 g2 e3 f3 g3 kg, e = .returned (.agg #[.slice (some ⟨kb, 0, none⟩) lb lb, .slice (some ⟨ks, 0, none⟩) ls ls, .slice (some ⟨kt, 0, none⟩) lt lt, .int .i64 h, .int .i64 ep, .string r, .string p, .int .i64 a, .slice e1 f1 g1, .slice e2 f2 g2, .slice e3 f3 g3, .slice (some ⟨kg, 0, none⟩) lg lg]) ∧ WhS w' (.slice (some ⟨kb, 0, none⟩) lb lb) (.slice (some ⟨ks, 0, none⟩) ls ls) (.slice (some ⟨kt, 0, none⟩) lt lt) (.slice e1 f1 g1) (.slice e2 f2 g2) (.slice e3 f3 g3) (.slice (some ⟨kg, 0, none⟩) lg lg) L S T o s d G ∧ Below W.heap.size W w') := fun W hW => HTO.out W (HX6.out.2.2.1.trans (hW.mono HX6.out.2.2.1.size))
  have HEQ6 : Hid (∀ W ub us ut u1 u2 u3 ug, Below w6.heap.size w6 W → WhS W ub us ut u1 u2 u3 ug L S T o s d G → Calls Try.prog 26 #[.agg #[.slice (some ⟨kb4, 0, none⟩) lb lb, .slice (some ⟨ks4, 0, none⟩) ls ls, .slice (some ⟨kt4, 0, none⟩) lt lt, .int .i64 h, .int .i64 ep, .string r, .string p, .int .i64 a, .slice e14 f14 g14, .slice e24 f24 g24, .slice e34 f34 g34, .slice (some ⟨kg4, 0, none⟩) lg lg], .agg #[ub, us, ut, .int .i64 h, .int .i64 ep, .string r, .string p, .int .i64 a, u1, u2, u3, ug]] W fun e w' => e = .returned (.bool true) ∧ Below W.heap.size W w') := fun W ub us ut u1 u2 u3 ug hW hu => HEQ.out W _ _ _ _ _ _ _ ub us ut u1 u2 u3 ug (HX6.out.2.2.2.2.later hW) hu
  have hb0 : Below w6.heap.size w6 w6.drew := (Below.refl _ _).drew
  have HX7 := HX6.out.1
  clear HX6 HTO HEQ
  go_wp2
  go_region_held3 (fun W => (W.cell? ⟨w4.heap.size, 0, none⟩ = some (.slice (some ⟨kb4, 0, none⟩) lb lb) ∧ W.cell? ⟨w4.heap.size, 1, none⟩ = some (.slice (some ⟨ks4, 0, none⟩) ls ls) ∧ W.cell? ⟨w4.heap.size, 2, none⟩ = some (.slice (some ⟨kt4, 0, none⟩) lt lt) ∧ W.cell? ⟨w4.heap.size, 3, none⟩ = some (.int .i64 h) ∧ W.cell? ⟨w4.heap.size, 4, none⟩ = some (.int .i64 ep) ∧ W.cell? ⟨w4.heap.size, 5, none⟩ = some (.string r) ∧ W.cell? ⟨w4.heap.size, 6, none⟩ = some (.string p) ∧ W.cell? ⟨w4.heap.size, 7, none⟩ = some (.int .i64 a) ∧ W.cell? ⟨w4.heap.size, 8, none⟩ = some (.slice e14 f14 g14) ∧ W.cell? ⟨w4.heap.size, 9, none⟩ = some (.slice e24 f24 g24) ∧ W.cell? ⟨w4.heap.size, 10, none⟩ = some (.slice e34 f34 g34) ∧ W.cell? ⟨w4.heap.size, 11, none⟩ = some (.slice (some ⟨kg4, 0, none⟩) lg lg)) ∧ W.cell? ⟨w.heap.size, 0, none⟩ = some (.slice ab nb cb) ∧ W.cell? ⟨w.heap.size, 1, none⟩ = some (.slice as2 ns cs) ∧ W.cell? ⟨w.heap.size, 2, none⟩ = some (.slice at2 nt ct) ∧ W.cell? ⟨w.heap.size, 3, none⟩ = some (.int .i64 h) ∧ W.cell? ⟨w.heap.size, 4, none⟩ = some (.int .i64 ep) ∧ W.cell? ⟨w.heap.size, 5, none⟩ = some (.string r) ∧ W.cell? ⟨w.heap.size, 6, none⟩ = some (.string p) ∧ W.cell? ⟨w.heap.size, 7, none⟩ = some (.int .i64 a) ∧ W.cell? ⟨w.heap.size, 8, none⟩ = some (.slice a1 n1 c1) ∧ W.cell? ⟨w.heap.size, 9, none⟩ = some (.slice a2 n2 c2) ∧ W.cell? ⟨w.heap.size, 10, none⟩ = some (.slice a3 n3 c3) ∧ W.cell? ⟨w.heap.size, 11, none⟩ = some (.slice ag ng cg)) (first | (go_keep; done) | exact HK.out _ hb0) (first | (go_at_call 24; refine (HTO6.out _ hb0).mono ?_; rintro e w7 ⟨kb7, ks7, kt7, e17, f17, g17, e27, f27, g27, e37, f37, g37, kg7, rfl, hm7, hc7⟩; have hb0 := hb0.trans (hc7.mono hb0.size)) | (go_at_call 26; refine (HEQ6.out _ _ _ _ _ _ _ _ hb0 hm7).mono ?_; rintro e w8 ⟨rfl, hc8⟩; have hb0 := hb0.trans (hc8.mono hb0.size)) | fail)
  go_wp2
  go_ret
  exact ⟨rfl, HX7.trans (hb0.mono HX7.size)⟩

end Go.Proofs.Ytfojmagcoipbnaa
/-
  A signature that is handed to a law: its number, and three rows of texts that were there.
-/
namespace Go.Proofs.Ytfojmagcoipbnaa
open Go.ChangeShapes Go.WideShapes Go.ChangeAt Go.RowKit
set_option linter.unusedVariables false

theorem cellsSig : Try.prog.cellsOf 50 = 4 := by kernel_rfl
theorem cells9 : Try.prog.cellsOf 9 = 1 := by kernel_rfl

theorem row_of_trod {H : Type} {enc : TypeId × Value → H} {W : World} {fuel : Nat} {v : Value} {y : DataW H × List MemPlace} (h : DataW.trod enc Try.prog W 0 (fun _ => true) true fuel 23 [v] = some y) :
    ∃ (a : Option Addr) (len cap : Nat) (zs : List ByteArray), v = .slice a len cap ∧ IsRowS W a len cap zs := by
  rcases open_strings Try.underlying23 Try.underlying9 cells9 h with ⟨hcs, _⟩ | ⟨x, l, c, zs, hcs, _, hl, hm, hz, _, hcell, hwz⟩
  · simp at hcs
    exact ⟨none, 0, 0, [], hcs, .inl ⟨rfl, rfl, rfl, rfl⟩⟩
  · simp at hcs
    exact ⟨some x, l, c, zs, hcs, .inr ⟨_, rfl, hl, hm, by simp at hz; omega, hcell, hwz⟩⟩

set_option maxRecDepth 100000 in
theorem open_sig {H : Type} {enc : TypeId × Value → H} {W : World} {base : Nat} {v : Value} {d : DataW H} {p : List MemPlace} (hv : Value.okWide Try.prog W .any base 50 v) (h : DataW.Trod enc Try.prog W 0 (fun _ => true) true 50 v d p) :
    ∃ (i : Int) (a1 : Option Addr) (n1 k1 : Nat) (z1 : List ByteArray) (a2 : Option Addr) (n2 k2 : Nat) (z2 : List ByteArray) (a3 : Option Addr) (n3 k3 : Nat) (z3 : List ByteArray),
      v = .agg #[.int .i64 i, .slice a1 n1 k1, .slice a2 n2 k2, .slice a3 n3 k3] ∧ IsRowS W a1 n1 k1 z1 ∧ IsRowS W a2 n2 k2 z2 ∧ IsRowS W a3 n3 k3 z3 := by
  obtain ⟨v0, v1, v2, v3, y0, y1, y2, y3, n, rfl, _, _, h0, h1, h2, h3⟩ := Joins.open_agg4 Try.underlying50 (by kernel_rfl) cellsSig hv h
  obtain ⟨i, e0, _, _⟩ := DataW.trod_int Try.underlying3 h0
  obtain ⟨a1, n1, k1, z1, rfl, r1⟩ := row_of_trod h1
  obtain ⟨a2, n2, k2, z2, rfl, r2⟩ := row_of_trod h2
  obtain ⟨a3, n3, k3, z3, rfl, r3⟩ := row_of_trod h3
  simp at e0
  subst e0
  exact ⟨i, a1, n1, k1, z1, a2, n2, k2, z2, a3, n3, k3, z3, rfl, r1, r2, r3⟩

end Go.Proofs.Ytfojmagcoipbnaa
