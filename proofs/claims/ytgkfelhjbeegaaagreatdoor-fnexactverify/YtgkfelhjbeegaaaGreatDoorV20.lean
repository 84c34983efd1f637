/-
  Texts laid together: Wye, Wc, La, Lg.
-/
import Derived.Test.YtgkfelhjbeegaaaGreatDoorV19
import Derived.Test.YtgkfelhjbeegaaaGreatDoorV08
import Derived.Lib.QuietBelow
import Derived.BigQuiet
import Derived.Test.YtgkfelhjbeegaaaGreatDoorV17
import Derived.Deep.AppendLies
import Derived.Deep.RegionLaw
import Derived.Test.YtgkfelhjbeegaaaGreatDoorV16
/-
  What the laws' own helpers do with whole proofs: taken over.
-/
namespace Go.Proofs.YtgkfelhjbeegaaaGreatDoor
open Go.RowKit Go.BigFrame Go.Sort
set_option linter.unusedVariables false
set_option linter.unusedSimpArgs false

/-- v reads as these leaves, somewhere behind block g -/
def RLn (W : World) (v : Value) (l : List Le) (g : Nat) : Prop := ∃ g1 o1, RS 2 lcs W v g1 o1 l ∧ (0 < l.length → g < g1)
theorem RLn.later {W W' : World} {v : Value} {l : List Le} {g : Nat} (h : RLn W v l g) (hb : Below W.heap.size W W') : RLn W' v l g := by
  obtain ⟨g1, o1, h1, h2⟩ := h
  exact ⟨g1, o1, h1.later hb, h2⟩
theorem RLn.grown {W W' : World} {v : Value} {l : List Le} {g q : Nat} (h : RLn W v l g) (hg : W.grownBy W' (some q)) (hq : q ≤ g) : RLn W' v l g := by
  obtain ⟨g1, o1, h1, h2⟩ := h
  exact ⟨g1, o1, h1.grown hg (fun h => by have := h2 h; simp; omega), h2⟩
theorem sizeWh : (Tryz.prog.info? 52).map (·.size) = some 12 := by kernel_rfl
section
variable {x0 x1 x2 x3 x4 x5 x6 x7 x8 x9 x10 x11 : Value}
theorem ret_wh {fn : Func} {Rp : Ending → World → Prop} {a : Act} {w : World} (c g : Nat) (hres : fn.results = #[.cell c 52]) (hd : a.defers = []) (hp : a.tmps.getD c undef = .pointer (some ⟨g, 0, none⟩)) (hA : Box 52 w g [x0, x1, x2, x3, x4, x5, x6, x7, x8, x9, x10, x11]) (h : Rp (.returned (.agg #[x0, x1, x2, x3, x4, x5, x6, x7, x8, x9, x10, x11])) w) : bodyPost Tryz.prog fn Rp .ret a w :=
  ret_rec c g 52 [x0, x1, x2, x3, x4, x5, x6, x7, x8, x9, x10, x11] _ hres hd hp Tryz.underlying52 rfl sizeWh hA.range h
theorem load_wh {w : World} {g : Nat} (hA : Box 52 w g [x0, x1, x2, x3, x4, x5, x6, x7, x8, x9, x10, x11]) : (loadVar 52 ⟨g, 0, none⟩).run Tryz.prog w = .ok (.agg #[x0, x1, x2, x3, x4, x5, x6, x7, x8, x9, x10, x11]) w :=
  run_loadVar_row (P := Tryz.prog) w g 52 52 _ (0, 0) _ hA Tryz.underlying52 rfl sizeWh
variable {w : World} {ops : Array Oper} {rest : List Oper} {o : Oper} {a : Act} {Q : Exit → Act → World → Prop}
theorem wp_loadWh (hgd : o.guard = none) (p : Operand) (ho : o.op = .load 52 p) (g : Nat) (hp : a.eval p = .pointer (some ⟨g, 0, none⟩)) (hA : Box 52 w g [x0, x1, x2, x3, x4, x5, x6, x7, x8, x9, x10, x11])
    (h : wpList Tryz.prog ops Q rest (a.put o.dst (.agg #[x0, x1, x2, x3, x4, x5, x6, x7, x8, x9, x10, x11])) w) : wpList Tryz.prog ops Q (o :: rest) a w := by
  refine wpList_plain hgd fun K hK => ?_
  have hr : (Instr.loadAt 52 (.pointer (some ⟨g, 0, none⟩))).run Tryz.prog w = .ok (.agg #[x0, x1, x2, x3, x4, x5, x6, x7, x8, x9, x10, x11]) w := by
    simp only [Instr.loadAt, Instr.sureAddr, Sem.run_bind, Sem.run_pure, Result.andThen]
    exact load_wh hA
  unfold Oper.wp
  simp [execOp, ho, hp, hr, Result.andThen]
  exact hK _ _ h
theorem wp_storeWh (hgd : o.guard = none) (p v : Operand) (ho : o.op = .store 52 p v) (g : Nat) (y0 y1 y2 y3 y4 y5 y6 y7 y8 y9 y10 y11 : Value) (hA : Box 52 w g [x0, x1, x2, x3, x4, x5, x6, x7, x8, x9, x10, x11]) (hp : a.eval p = .pointer (some ⟨g, 0, none⟩)) (hv : a.eval v = .agg #[y0, y1, y2, y3, y4, y5, y6, y7, y8, y9, y10, y11])
    (h1 : y0.oneCell' = true ∧ y1.oneCell' = true ∧ y2.oneCell' = true ∧ y3.oneCell' = true ∧ y4.oneCell' = true ∧ y5.oneCell' = true ∧ y6.oneCell' = true ∧ y7.oneCell' = true ∧ y8.oneCell' = true ∧ y9.oneCell' = true ∧ y10.oneCell' = true ∧ y11.oneCell' = true)
    (h : Box 52 (w.setRow g #[y0, y1, y2, y3, y4, y5, y6, y7, y8, y9, y10, y11]) g [y0, y1, y2, y3, y4, y5, y6, y7, y8, y9, y10, y11] → wpList Tryz.prog ops Q rest (a.put o.dst (.tuple #[])) (w.setRow g #[y0, y1, y2, y3, y4, y5, y6, y7, y8, y9, y10, y11])) : wpList Tryz.prog ops Q (o :: rest) a w := by
  refine wpList_plain hgd fun K hK => ?_
  have hr : (Instr.storeAt 52 (.pointer (some ⟨g, 0, none⟩)) (.agg #[y0, y1, y2, y3, y4, y5, y6, y7, y8, y9, y10, y11])).run Tryz.prog w = .ok () (w.setRow g #[y0, y1, y2, y3, y4, y5, y6, y7, y8, y9, y10, y11]) := by
    simp only [Instr.storeAt, Instr.sureAddr, Sem.run_bind, Sem.run_pure, Result.andThen]
    refine run_storeVar_row w g 52 52 _ _ hA sizeWh rfl ?_
    simp [h1]
  unfold Oper.wp
  simp [execOp, ho, hp, hv, hr, Result.andThen]
  exact hK _ _ (h (setRow_heap w g _ _ _ _ hA))
end

/-- what a law makes of a whole proof that it was handed -/
def ToW (x : Hd) (a : Int) (L : List Le) (S T o s d : List ByteArray) (G : List Stm) (w : World) (e : Ending) (w' : World) : Prop := ∃ kb ks kt e1 f1 g1 e2 f2 g2 e3 f3 g3 kg, e = .returned (.agg #[.slice (some ⟨kb, 0, none⟩) L.length L.length, .slice (some ⟨ks, 0, none⟩) S.length S.length, .slice (some ⟨kt, 0, none⟩) T.length T.length, .int .i64 x.h, .int .i64 x.e, .string x.r, .string x.p, .int .i64 a, .slice e1 f1 g1, .slice e2 f2 g2, .slice e3 f3 g3, .slice (some ⟨kg, 0, none⟩) G.length G.length]) ∧ WhS w' (.slice (some ⟨kb, 0, none⟩) L.length L.length) (.slice (some ⟨ks, 0, none⟩) S.length S.length) (.slice (some ⟨kt, 0, none⟩) T.length T.length) (.slice e1 f1 g1) (.slice e2 f2 g2) (.slice e3 f3 g3) (.slice (some ⟨kg, 0, none⟩) G.length G.length) L S T o s d G ∧ Below w.heap.size w w'

set_option maxRecDepth 100000 in
set_option maxHeartbeats 4000000 in
theorem toWhole_any (vb vs vt v1 v2 v3 vg : Value) (x : Hd) (a : Int) (L : List Le) (S T o s d : List ByteArray) (G : List Stm) (w : World) (hM : WhS w vb vs vt v1 v2 v3 vg L S T o s d G) :
    Calls Tryz.prog 8 #[.agg #[vb, vs, vt, .int .i64 x.h, .int .i64 x.e, .string x.r, .string x.p, .int .i64 a, v1, v2, v3, vg]] w (ToW x a L S T o s d G w) := by
  have H1 : Hid (∀ W, Below w.heap.size w W → Calls Tryz.prog 25 #[.agg #[vb, vs]] W fun e w' => ∃ kb ks, e = .returned (.agg #[.slice (some ⟨kb, 0, none⟩) L.length L.length, .slice (some ⟨ks, 0, none⟩) S.length S.length]) ∧ (∀ g, g < W.heap.size → RLn w' (.slice (some ⟨kb, 0, none⟩) L.length L.length) L g ∧ SXn w' (.slice (some ⟨ks, 0, none⟩) S.length S.length) S g) ∧ Below W.heap.size W w') := fun W hW => by
    obtain ⟨⟨g1, o1, h1⟩, _, ⟨g2, o2, h2⟩, _⟩ := hM.later hW
    refine (toProof_any vb vs g1 o1 g2 o2 L S W h1 h2).mono ?_
    rintro e w' ⟨k1, k2, he, hr, ht, l1, l2, _, _, _, hb⟩
    exact ⟨k1, k2, he, fun g hg => ⟨⟨k1, 0, hr.1, fun _ => by omega⟩, ⟨k2, 0, ht.ss, fun _ => by omega⟩⟩, hb⟩
  have H2 : Hid (∀ W, Below w.heap.size w W → Calls Tryz.prog 24 #[vt] W fun e w' => ∃ kt, e = .returned (.slice (some ⟨kt, 0, none⟩) T.length T.length) ∧ (∀ g, g < W.heap.size → SXn w' (.slice (some ⟨kt, 0, none⟩) T.length T.length) T g) ∧ Below W.heap.size W w') := fun W hW => by
    obtain ⟨_, _, _, ⟨g2, o2, h2⟩, _⟩ := hM.later hW
    refine (toStringS_any vt g2 o2 T W h2 h2.lt).mono ?_
    rintro e w' ⟨g, he, hg, ht, hb⟩
    exact ⟨g, he, fun q hq => ⟨g, 0, (ht.ts T.length T.length rfl (by obtain ⟨_, _, _, hl, _⟩ := h2; exact hl)).ss, fun _ => by omega⟩, hb⟩
  have H3 : Hid (∀ W, Below w.heap.size w W → Calls Tryz.prog 26 #[.agg #[.int .i64 x.h, .int .i64 x.e, .string x.r, .string x.p, .int .i64 a, v1, v2, v3]] W fun e w' => ∃ e1 f1 g1 e2 f2 g2 e3 f3 g3, e = .returned (.agg #[.int .i64 x.h, .int .i64 x.e, .string x.r, .string x.p, .int .i64 a, .slice e1 f1 g1, .slice e2 f2 g2, .slice e3 f3 g3]) ∧ (∀ g, g < W.heap.size → SXn w' (.slice e1 f1 g1) o g ∧ SXn w' (.slice e2 f2 g2) s g ∧ SXn w' (.slice e3 f3 g3) d g) ∧ Below W.heap.size W w') := fun W hW => by
    obtain ⟨_, _, _, _, ⟨g1, o1, h1⟩, ⟨g2, o2, h2⟩, ⟨g3, o3, h3⟩, _⟩ := hM.later hW
    refine (toSeal_any x a v1 v2 v3 g1 o1 g2 o2 g3 o3 o s d W h1 h2 h3).mono ?_
    rintro e w' ⟨v, rfl, hv, hb⟩
    obtain ⟨v1, v2, v3, p1, p2, p3, rfl, ⟨t1, t2, t3⟩, ⟨l1, l2, l3⟩, _⟩ := hv.out
    obtain ⟨y1, q1, rfl, _⟩ := id t1
    obtain ⟨y2, q2, rfl, _⟩ := id t2
    obtain ⟨y3, q3, rfl, _⟩ := id t3
    exact ⟨y1, _, q1, y2, _, q2, y3, _, q3, rfl, fun g hg => ⟨⟨p1, 0, t1.ss, fun _ => by omega⟩, ⟨p2, 0, t2.ss, fun _ => by omega⟩, ⟨p3, 0, t3.ss, fun _ => by omega⟩⟩, hb⟩
  have H4 : Hid (∀ W, Below w.heap.size w W → Calls Tryz.prog 27 #[vg] W fun e w' => ∃ kg, e = .returned (.slice (some ⟨kg, 0, none⟩) G.length G.length) ∧ W.heap.size ≤ kg ∧ StB w' (.slice (some ⟨kg, 0, none⟩) G.length G.length) kg G ∧ Below W.heap.size W w') := fun W hW => by
    obtain ⟨_, _, _, _, _, _, _, ⟨g, k, h⟩⟩ := hM.later hW
    exact toStampS_any vg g k G W h
  have hSM := hM.2.1
  have HSM : Hid (SmallL L) := hSM
  obtain ⟨Post, hPost⟩ : ∃ P, ToW x a L S T o s d G w = P := ⟨_, rfl⟩
  have HP : Hid (ToW x a L S T o s d G w = Post) := hPost
  rw [hPost]
  unfold ToW at HP
  obtain ⟨h, e, r, p⟩ := x
  simp only at H3 HP ⊢
  obtain ⟨⟨ab, cb, rfl⟩, ⟨as2, cs, rfl⟩, ⟨at2, ct, rfl⟩, ⟨a1, c1, rfl⟩, ⟨a2, c2, rfl⟩, ⟨a3, c3, rfl⟩, ⟨ag, cg, rfl⟩, lS, lT, lG⟩ := hM.shapes
  clear hM lS lT lG hPost hSM
  generalize L.length = nb at *
  generalize S.length = ns at *
  generalize T.length = nt at *
  generalize o.length = n1 at *
  generalize s.length = n2 at *
  generalize d.length = n3 at *
  generalize G.length = ng at *
  have HX : Hid (∀ W, W = (((w.alloc (.cells #[.slice ab nb cb, .slice as2 ns cs, .slice at2 nt ct, .int .i64 h, .int .i64 e, .string r, .string p, .int .i64 a, .slice a1 n1 c1, .slice a2 n2 c2, .slice a3 n3 c3, .slice ag ng cg] 36)).alloc (.cells #[.slice none 0 0, .slice none 0 0, .slice none 0 0, .int .i64 0, .int .i64 0, .string ⟨#[]⟩, .string ⟨#[]⟩, .int .i64 0, .slice none 0 0, .slice none 0 0, .slice none 0 0, .slice none 0 0] 52)).alloc (.cells #[.slice none 0 0, .slice none 0 0, .slice none 0 0, .int .i64 0, .int .i64 0, .string ⟨#[]⟩, .string ⟨#[]⟩, .int .i64 0, .slice none 0 0, .slice none 0 0, .slice none 0 0, .slice none 0 0] 52)) → Below w.heap.size w W ∧ Box 52 W (w.heap.size + 1) [.slice none 0 0, .slice none 0 0, .slice none 0 0, .int .i64 0, .int .i64 0, .string ⟨#[]⟩, .string ⟨#[]⟩, .int .i64 0, .slice none 0 0, .slice none 0 0, .slice none 0 0, .slice none 0 0] ∧ Box 52 W (w.heap.size + 1 + 1) [.slice none 0 0, .slice none 0 0, .slice none 0 0, .int .i64 0, .int .i64 0, .string ⟨#[]⟩, .string ⟨#[]⟩, .int .i64 0, .slice none 0 0, .slice none 0 0, .slice none 0 0, .slice none 0 0] ∧ Box 36 W w.heap.size [.slice ab nb cb, .slice as2 ns cs, .slice at2 nt ct, .int .i64 h, .int .i64 e, .string r, .string p, .int .i64 a, .slice a1 n1 c1, .slice a2 n2 c2, .slice a3 n3 c3, .slice ag ng cg] ∧ w.heap.size + 3 ≤ W.heap.size) := fun W hW => by
    subst hW
    refine ⟨((below_alloc _ _).alloc (by simp) _).alloc (by simp; omega) _, ?_, alloc_fst _ _ (by simp), ((Box.new _ w _).later (below_alloc _ _)).later (below_alloc _ _), by simp⟩
    have h2 : Box 52 ((w.alloc (.cells #[.slice ab nb cb, .slice as2 ns cs, .slice at2 nt ct, .int .i64 h, .int .i64 e, .string r, .string p, .int .i64 a, .slice a1 n1 c1, .slice a2 n2 c2, .slice a3 n3 c3, .slice ag ng cg] 36)).alloc (.cells #[.slice none 0 0, .slice none 0 0, .slice none 0 0, .int .i64 0, .int .i64 0, .string ⟨#[]⟩, .string ⟨#[]⟩, .int .i64 0, .slice none 0 0, .slice none 0 0, .slice none 0 0, .slice none 0 0] 52)) (w.heap.size + 1) [.slice none 0 0, .slice none 0 0, .slice none 0 0, .int .i64 0, .int .i64 0, .string ⟨#[]⟩, .string ⟨#[]⟩, .int .i64 0, .slice none 0 0, .slice none 0 0, .slice none 0 0, .slice none 0 0] := alloc_fst _ _ (by simp)
    exact h2.later (below_alloc _ _)
  have hne0 : w.heap.size ≠ w.heap.size + 1 + 1 := by omega
  go_enter Tryz.func8, Tryz.ntmps8
  go_wp2_with fail
  generalize hW0 : (((w.alloc (.cells #[.slice ab nb cb, .slice as2 ns cs, .slice at2 nt ct, .int .i64 h, .int .i64 e, .string r, .string p, .int .i64 a, .slice a1 n1 c1, .slice a2 n2 c2, .slice a3 n3 c3, .slice ag ng cg] 36)).alloc (.cells #[.slice none 0 0, .slice none 0 0, .slice none 0 0, .int .i64 0, .int .i64 0, .string ⟨#[]⟩, .string ⟨#[]⟩, .int .i64 0, .slice none 0 0, .slice none 0 0, .slice none 0 0, .slice none 0 0] 52)).alloc (.cells #[.slice none 0 0, .slice none 0 0, .slice none 0 0, .int .i64 0, .int .i64 0, .string ⟨#[]⟩, .string ⟨#[]⟩, .int .i64 0, .slice none 0 0, .slice none 0 0, .slice none 0 0, .slice none 0 0] 52)) = W0
  have HX0 : Hid (Below w.heap.size w W0 ∧ Box 52 W0 (w.heap.size + 1) [.slice none 0 0, .slice none 0 0, .slice none 0 0, .int .i64 0, .int .i64 0, .string ⟨#[]⟩, .string ⟨#[]⟩, .int .i64 0, .slice none 0 0, .slice none 0 0, .slice none 0 0, .slice none 0 0] ∧ Box 52 W0 (w.heap.size + 1 + 1) [.slice none 0 0, .slice none 0 0, .slice none 0 0, .int .i64 0, .int .i64 0, .string ⟨#[]⟩, .string ⟨#[]⟩, .int .i64 0, .slice none 0 0, .slice none 0 0, .slice none 0 0, .slice none 0 0] ∧ Box 36 W0 w.heap.size [.slice ab nb cb, .slice as2 ns cs, .slice at2 nt ct, .int .i64 h, .int .i64 e, .string r, .string p, .int .i64 a, .slice a1 n1 c1, .slice a2 n2 c2, .slice a3 n3 c3, .slice ag ng cg] ∧ w.heap.size + 3 ≤ W0.heap.size) := HX.out W0 hW0.symm
  clear HX hW0
  refine (H1.out _ HX0.out.1).mono ?_
  rintro e1 w1 ⟨kb, ks, rfl, hf1, hb1⟩
  have HX1 : Hid (Below w.heap.size w w1 ∧ Box 52 w1 (w.heap.size + 1) [.slice none 0 0, .slice none 0 0, .slice none 0 0, .int .i64 0, .int .i64 0, .string ⟨#[]⟩, .string ⟨#[]⟩, .int .i64 0, .slice none 0 0, .slice none 0 0, .slice none 0 0, .slice none 0 0] ∧ Box 52 w1 (w.heap.size + 1 + 1) [.slice none 0 0, .slice none 0 0, .slice none 0 0, .int .i64 0, .int .i64 0, .string ⟨#[]⟩, .string ⟨#[]⟩, .int .i64 0, .slice none 0 0, .slice none 0 0, .slice none 0 0, .slice none 0 0] ∧ Box 36 w1 w.heap.size [.slice ab nb cb, .slice as2 ns cs, .slice at2 nt ct, .int .i64 h, .int .i64 e, .string r, .string p, .int .i64 a, .slice a1 n1 c1, .slice a2 n2 c2, .slice a3 n3 c3, .slice ag ng cg] ∧ w.heap.size + 3 ≤ w1.heap.size ∧ RLn w1 (.slice (some ⟨kb, 0, none⟩) nb nb) L (w.heap.size + 1 + 1) ∧ SXn w1 (.slice (some ⟨ks, 0, none⟩) ns ns) S (w.heap.size + 1 + 1)) := ⟨HX0.out.1.trans (hb1.mono HX0.out.1.size), HX0.out.2.1.later hb1, HX0.out.2.2.1.later hb1, HX0.out.2.2.2.1.later hb1, Nat.le_trans HX0.out.2.2.2.2 hb1.size, (hf1 _ (by have := HX0.out.2.2.2.2; omega)).1, (hf1 _ (by have := HX0.out.2.2.2.2; omega)).2⟩
  clear hf1 hb1 HX0 H1
  have q0 := HX1.out.2.2.1.at 0 _ rfl
  have q1 := HX1.out.2.2.1.at 1 _ rfl
  have g0 := HX1.out.2.2.1.fz 0
  have g1 := HX1.out.2.2.1.fz 1
  have x2 := HX1.out.2.2.2.1.at 2 _ rfl
  have HY1 : Hid (∀ W, W = ((w1.setCell ⟨w.heap.size + 1 + 1, 0, none⟩ (.slice (some ⟨kb, 0, none⟩) nb nb)).setCell ⟨w.heap.size + 1 + 1, 1, none⟩ (.slice (some ⟨ks, 0, none⟩) ns ns)) → Below w.heap.size w W ∧ Box 52 W (w.heap.size + 1) [.slice none 0 0, .slice none 0 0, .slice none 0 0, .int .i64 0, .int .i64 0, .string ⟨#[]⟩, .string ⟨#[]⟩, .int .i64 0, .slice none 0 0, .slice none 0 0, .slice none 0 0, .slice none 0 0] ∧ Box 52 W (w.heap.size + 1 + 1) [.slice (some ⟨kb, 0, none⟩) nb nb, .slice (some ⟨ks, 0, none⟩) ns ns, .slice none 0 0, .int .i64 0, .int .i64 0, .string ⟨#[]⟩, .string ⟨#[]⟩, .int .i64 0, .slice none 0 0, .slice none 0 0, .slice none 0 0, .slice none 0 0] ∧ Box 36 W w.heap.size [.slice ab nb cb, .slice as2 ns cs, .slice at2 nt ct, .int .i64 h, .int .i64 e, .string r, .string p, .int .i64 a, .slice a1 n1 c1, .slice a2 n2 c2, .slice a3 n3 c3, .slice ag ng cg] ∧ w.heap.size + 3 ≤ W.heap.size ∧ RLn W (.slice (some ⟨kb, 0, none⟩) nb nb) L (w.heap.size + 1 + 1) ∧ SXn W (.slice (some ⟨ks, 0, none⟩) ns ns) S (w.heap.size + 1 + 1)) := fun W hW => by
    subst hW
    have hg := (grown_setC w1 (w.heap.size + 1 + 1) 0 (.slice (some ⟨kb, 0, none⟩) nb nb)).trans (grown_setC (w1.setCell ⟨w.heap.size + 1 + 1, 0, none⟩ (.slice (some ⟨kb, 0, none⟩) nb nb)) (w.heap.size + 1 + 1) 1 (.slice (some ⟨ks, 0, none⟩) ns ns))
    obtain ⟨k1, k2, k3, k4, k5, k6, k7⟩ := HX1.out
    exact ⟨k1.grown hg k1.size (fun k hk => by simp at hk; omega), k2.grown hg (by simp), (k3.set 0 _).set 1 _, k4.grown hg (by simp; omega), by have := hg.size; omega, k6.grown hg (Nat.le_refl _), k7.grown hg (Nat.le_refl _)⟩
  go_wp2_with fail
  generalize hW1 : ((w1.setCell ⟨w.heap.size + 1 + 1, 0, none⟩ (.slice (some ⟨kb, 0, none⟩) nb nb)).setCell ⟨w.heap.size + 1 + 1, 1, none⟩ (.slice (some ⟨ks, 0, none⟩) ns ns)) = W1
  have HZ1 : Hid (Below w.heap.size w W1 ∧ Box 52 W1 (w.heap.size + 1) [.slice none 0 0, .slice none 0 0, .slice none 0 0, .int .i64 0, .int .i64 0, .string ⟨#[]⟩, .string ⟨#[]⟩, .int .i64 0, .slice none 0 0, .slice none 0 0, .slice none 0 0, .slice none 0 0] ∧ Box 52 W1 (w.heap.size + 1 + 1) [.slice (some ⟨kb, 0, none⟩) nb nb, .slice (some ⟨ks, 0, none⟩) ns ns, .slice none 0 0, .int .i64 0, .int .i64 0, .string ⟨#[]⟩, .string ⟨#[]⟩, .int .i64 0, .slice none 0 0, .slice none 0 0, .slice none 0 0, .slice none 0 0] ∧ Box 36 W1 w.heap.size [.slice ab nb cb, .slice as2 ns cs, .slice at2 nt ct, .int .i64 h, .int .i64 e, .string r, .string p, .int .i64 a, .slice a1 n1 c1, .slice a2 n2 c2, .slice a3 n3 c3, .slice ag ng cg] ∧ w.heap.size + 3 ≤ W1.heap.size ∧ RLn W1 (.slice (some ⟨kb, 0, none⟩) nb nb) L (w.heap.size + 1 + 1) ∧ SXn W1 (.slice (some ⟨ks, 0, none⟩) ns ns) S (w.heap.size + 1 + 1)) := HY1.out W1 hW1.symm
  clear HY1 hW1 HX1 q0 q1 g0 g1 x2
  refine (H2.out _ HZ1.out.1).mono ?_
  rintro e2 w2 ⟨kt, rfl, hf2, hb2⟩
  have HX2 : Hid (Below w.heap.size w w2 ∧ Box 52 w2 (w.heap.size + 1) [.slice none 0 0, .slice none 0 0, .slice none 0 0, .int .i64 0, .int .i64 0, .string ⟨#[]⟩, .string ⟨#[]⟩, .int .i64 0, .slice none 0 0, .slice none 0 0, .slice none 0 0, .slice none 0 0] ∧ Box 52 w2 (w.heap.size + 1 + 1) [.slice (some ⟨kb, 0, none⟩) nb nb, .slice (some ⟨ks, 0, none⟩) ns ns, .slice none 0 0, .int .i64 0, .int .i64 0, .string ⟨#[]⟩, .string ⟨#[]⟩, .int .i64 0, .slice none 0 0, .slice none 0 0, .slice none 0 0, .slice none 0 0] ∧ Box 36 w2 w.heap.size [.slice ab nb cb, .slice as2 ns cs, .slice at2 nt ct, .int .i64 h, .int .i64 e, .string r, .string p, .int .i64 a, .slice a1 n1 c1, .slice a2 n2 c2, .slice a3 n3 c3, .slice ag ng cg] ∧ w.heap.size + 3 ≤ w2.heap.size ∧ RLn w2 (.slice (some ⟨kb, 0, none⟩) nb nb) L (w.heap.size + 1 + 1) ∧ SXn w2 (.slice (some ⟨ks, 0, none⟩) ns ns) S (w.heap.size + 1 + 1) ∧ SXn w2 (.slice (some ⟨kt, 0, none⟩) nt nt) T (w.heap.size + 1 + 1)) := by
    obtain ⟨k1, k2, k3, k4, k5, k6, k7⟩ := HZ1.out
    exact ⟨k1.trans (hb2.mono k1.size), k2.later hb2, k3.later hb2, k4.later hb2, Nat.le_trans k5 hb2.size, k6.later hb2, k7.later hb2, hf2 _ (by omega)⟩
  clear hf2 hb2 HZ1 H2
  have q2 := HX2.out.2.2.1.at 2 _ rfl
  have g2 := HX2.out.2.2.1.fz 2
  have x3 := HX2.out.2.2.2.1.at 3 _ rfl
  have x4 := HX2.out.2.2.2.1.at 4 _ rfl
  have x5 := HX2.out.2.2.2.1.at 5 _ rfl
  have x6 := HX2.out.2.2.2.1.at 6 _ rfl
  have x7 := HX2.out.2.2.2.1.at 7 _ rfl
  have x8 := HX2.out.2.2.2.1.at 8 _ rfl
  have x9 := HX2.out.2.2.2.1.at 9 _ rfl
  have x10 := HX2.out.2.2.2.1.at 10 _ rfl
  have HY2 : Hid (∀ W, W = (w2.setCell ⟨w.heap.size + 1 + 1, 2, none⟩ (.slice (some ⟨kt, 0, none⟩) nt nt)) → Below w.heap.size w W ∧ Box 52 W (w.heap.size + 1) [.slice none 0 0, .slice none 0 0, .slice none 0 0, .int .i64 0, .int .i64 0, .string ⟨#[]⟩, .string ⟨#[]⟩, .int .i64 0, .slice none 0 0, .slice none 0 0, .slice none 0 0, .slice none 0 0] ∧ Box 52 W (w.heap.size + 1 + 1) [.slice (some ⟨kb, 0, none⟩) nb nb, .slice (some ⟨ks, 0, none⟩) ns ns, .slice (some ⟨kt, 0, none⟩) nt nt, .int .i64 0, .int .i64 0, .string ⟨#[]⟩, .string ⟨#[]⟩, .int .i64 0, .slice none 0 0, .slice none 0 0, .slice none 0 0, .slice none 0 0] ∧ Box 36 W w.heap.size [.slice ab nb cb, .slice as2 ns cs, .slice at2 nt ct, .int .i64 h, .int .i64 e, .string r, .string p, .int .i64 a, .slice a1 n1 c1, .slice a2 n2 c2, .slice a3 n3 c3, .slice ag ng cg] ∧ w.heap.size + 3 ≤ W.heap.size ∧ RLn W (.slice (some ⟨kb, 0, none⟩) nb nb) L (w.heap.size + 1 + 1) ∧ SXn W (.slice (some ⟨ks, 0, none⟩) ns ns) S (w.heap.size + 1 + 1) ∧ SXn W (.slice (some ⟨kt, 0, none⟩) nt nt) T (w.heap.size + 1 + 1)) := fun W hW => by
    subst hW
    have hg := grown_setC w2 (w.heap.size + 1 + 1) 2 (.slice (some ⟨kt, 0, none⟩) nt nt)
    obtain ⟨k1, k2, k3, k4, k5, k6, k7, k8⟩ := HX2.out
    exact ⟨k1.grown hg k1.size (fun k hk => by simp at hk; omega), k2.grown hg (by simp), k3.set 2 _, k4.grown hg (by simp; omega), by have := hg.size; omega, k6.grown hg (Nat.le_refl _), k7.grown hg (Nat.le_refl _), k8.grown hg (Nat.le_refl _)⟩
  go_wp2_with fail
  generalize hW2 : (w2.setCell ⟨w.heap.size + 1 + 1, 2, none⟩ (.slice (some ⟨kt, 0, none⟩) nt nt)) = W2
  have HZ2 : Hid (Below w.heap.size w W2 ∧ Box 52 W2 (w.heap.size + 1) [.slice none 0 0, .slice none 0 0, .slice none 0 0, .int .i64 0, .int .i64 0, .string ⟨#[]⟩, .string ⟨#[]⟩, .int .i64 0, .slice none 0 0, .slice none 0 0, .slice none 0 0, .slice none 0 0] ∧ Box 52 W2 (w.heap.size + 1 + 1) [.slice (some ⟨kb, 0, none⟩) nb nb, .slice (some ⟨ks, 0, none⟩) ns ns, .slice (some ⟨kt, 0, none⟩) nt nt, .int .i64 0, .int .i64 0, .string ⟨#[]⟩, .string ⟨#[]⟩, .int .i64 0, .slice none 0 0, .slice none 0 0, .slice none 0 0, .slice none 0 0] ∧ Box 36 W2 w.heap.size [.slice ab nb cb, .slice as2 ns cs, .slice at2 nt ct, .int .i64 h, .int .i64 e, .string r, .string p, .int .i64 a, .slice a1 n1 c1, .slice a2 n2 c2, .slice a3 n3 c3, .slice ag ng cg] ∧ w.heap.size + 3 ≤ W2.heap.size ∧ RLn W2 (.slice (some ⟨kb, 0, none⟩) nb nb) L (w.heap.size + 1 + 1) ∧ SXn W2 (.slice (some ⟨ks, 0, none⟩) ns ns) S (w.heap.size + 1 + 1) ∧ SXn W2 (.slice (some ⟨kt, 0, none⟩) nt nt) T (w.heap.size + 1 + 1)) := HY2.out W2 hW2.symm
  clear HY2 hW2 HX2 q2 g2 x3 x4 x5 x6 x7 x8 x9 x10
  refine (H3.out _ HZ2.out.1).mono ?_
  rintro e3 w3 ⟨e1, f1, g1, e2, f2, g2, e3, f3, g3, rfl, hf3, hb3⟩
  have HX3 : Hid (Below w.heap.size w w3 ∧ Box 52 w3 (w.heap.size + 1) [.slice none 0 0, .slice none 0 0, .slice none 0 0, .int .i64 0, .int .i64 0, .string ⟨#[]⟩, .string ⟨#[]⟩, .int .i64 0, .slice none 0 0, .slice none 0 0, .slice none 0 0, .slice none 0 0] ∧ Box 52 w3 (w.heap.size + 1 + 1) [.slice (some ⟨kb, 0, none⟩) nb nb, .slice (some ⟨ks, 0, none⟩) ns ns, .slice (some ⟨kt, 0, none⟩) nt nt, .int .i64 0, .int .i64 0, .string ⟨#[]⟩, .string ⟨#[]⟩, .int .i64 0, .slice none 0 0, .slice none 0 0, .slice none 0 0, .slice none 0 0] ∧ Box 36 w3 w.heap.size [.slice ab nb cb, .slice as2 ns cs, .slice at2 nt ct, .int .i64 h, .int .i64 e, .string r, .string p, .int .i64 a, .slice a1 n1 c1, .slice a2 n2 c2, .slice a3 n3 c3, .slice ag ng cg] ∧ w.heap.size + 3 ≤ w3.heap.size ∧ RLn w3 (.slice (some ⟨kb, 0, none⟩) nb nb) L (w.heap.size + 1 + 1) ∧ SXn w3 (.slice (some ⟨ks, 0, none⟩) ns ns) S (w.heap.size + 1 + 1) ∧ SXn w3 (.slice (some ⟨kt, 0, none⟩) nt nt) T (w.heap.size + 1 + 1) ∧ (SXn w3 (.slice e1 f1 g1) o (w.heap.size + 1 + 1) ∧ SXn w3 (.slice e2 f2 g2) s (w.heap.size + 1 + 1) ∧ SXn w3 (.slice e3 f3 g3) d (w.heap.size + 1 + 1))) := by
    obtain ⟨k1, k2, k3, k4, k5, k6, k7, k8⟩ := HZ2.out
    exact ⟨k1.trans (hb3.mono k1.size), k2.later hb3, k3.later hb3, k4.later hb3, Nat.le_trans k5 hb3.size, k6.later hb3, k7.later hb3, k8.later hb3, hf3 _ (by omega)⟩
  clear hf3 hb3 HZ2 H3
  have q3 := HX3.out.2.2.1.at 3 _ rfl
  have q4 := HX3.out.2.2.1.at 4 _ rfl
  have q5 := HX3.out.2.2.1.at 5 _ rfl
  have q6 := HX3.out.2.2.1.at 6 _ rfl
  have q7 := HX3.out.2.2.1.at 7 _ rfl
  have q8 := HX3.out.2.2.1.at 8 _ rfl
  have q9 := HX3.out.2.2.1.at 9 _ rfl
  have q10 := HX3.out.2.2.1.at 10 _ rfl
  have i3 := HX3.out.2.2.1.fz 3
  have i4 := HX3.out.2.2.1.fz 4
  have i5 := HX3.out.2.2.1.fz 5
  have i6 := HX3.out.2.2.1.fz 6
  have i7 := HX3.out.2.2.1.fz 7
  have i8 := HX3.out.2.2.1.fz 8
  have i9 := HX3.out.2.2.1.fz 9
  have i10 := HX3.out.2.2.1.fz 10
  have x11 := HX3.out.2.2.2.1.at 11 _ rfl
  have HY3 : Hid (∀ W, W = ((((((((w3.setCell ⟨w.heap.size + 1 + 1, 3, none⟩ (.int .i64 h)).setCell ⟨w.heap.size + 1 + 1, 4, none⟩ (.int .i64 e)).setCell ⟨w.heap.size + 1 + 1, 5, none⟩ (.string r)).setCell ⟨w.heap.size + 1 + 1, 6, none⟩ (.string p)).setCell ⟨w.heap.size + 1 + 1, 7, none⟩ (.int .i64 a)).setCell ⟨w.heap.size + 1 + 1, 8, none⟩ (.slice e1 f1 g1)).setCell ⟨w.heap.size + 1 + 1, 9, none⟩ (.slice e2 f2 g2)).setCell ⟨w.heap.size + 1 + 1, 10, none⟩ (.slice e3 f3 g3)) → Below w.heap.size w W ∧ Box 52 W (w.heap.size + 1) [.slice none 0 0, .slice none 0 0, .slice none 0 0, .int .i64 0, .int .i64 0, .string ⟨#[]⟩, .string ⟨#[]⟩, .int .i64 0, .slice none 0 0, .slice none 0 0, .slice none 0 0, .slice none 0 0] ∧ Box 52 W (w.heap.size + 1 + 1) [.slice (some ⟨kb, 0, none⟩) nb nb, .slice (some ⟨ks, 0, none⟩) ns ns, .slice (some ⟨kt, 0, none⟩) nt nt, .int .i64 h, .int .i64 e, .string r, .string p, .int .i64 a, .slice e1 f1 g1, .slice e2 f2 g2, .slice e3 f3 g3, .slice none 0 0] ∧ Box 36 W w.heap.size [.slice ab nb cb, .slice as2 ns cs, .slice at2 nt ct, .int .i64 h, .int .i64 e, .string r, .string p, .int .i64 a, .slice a1 n1 c1, .slice a2 n2 c2, .slice a3 n3 c3, .slice ag ng cg] ∧ w.heap.size + 3 ≤ W.heap.size ∧ RLn W (.slice (some ⟨kb, 0, none⟩) nb nb) L (w.heap.size + 1 + 1) ∧ SXn W (.slice (some ⟨ks, 0, none⟩) ns ns) S (w.heap.size + 1 + 1) ∧ SXn W (.slice (some ⟨kt, 0, none⟩) nt nt) T (w.heap.size + 1 + 1) ∧ (SXn W (.slice e1 f1 g1) o (w.heap.size + 1 + 1) ∧ SXn W (.slice e2 f2 g2) s (w.heap.size + 1 + 1) ∧ SXn W (.slice e3 f3 g3) d (w.heap.size + 1 + 1))) := fun W hW => by
    subst hW
    have hga := grown4 w3 (w.heap.size + 1 + 1) 3 4 5 6 (.int .i64 h) (.int .i64 e) (.string r) (.string p)
    have hgb := grown4 ((((w3.setCell ⟨w.heap.size + 1 + 1, 3, none⟩ (.int .i64 h)).setCell ⟨w.heap.size + 1 + 1, 4, none⟩ (.int .i64 e)).setCell ⟨w.heap.size + 1 + 1, 5, none⟩ (.string r)).setCell ⟨w.heap.size + 1 + 1, 6, none⟩ (.string p)) (w.heap.size + 1 + 1) 7 8 9 10 (.int .i64 a) (.slice e1 f1 g1) (.slice e2 f2 g2) (.slice e3 f3 g3)
    have hg := hga.trans hgb
    obtain ⟨k1, k2, k3, k4, k5, k6, k7, k8, k9, k10, k11⟩ := HX3.out
    exact ⟨k1.grown hg k1.size (fun k hk => by simp at hk; omega), k2.grown hg (by simp), (((((((k3.set 3 _).set 4 _).set 5 _).set 6 _).set 7 _).set 8 _).set 9 _).set 10 _, k4.grown hg (by simp; omega), by have := hg.size; omega, k6.grown hg (Nat.le_refl _), k7.grown hg (Nat.le_refl _), k8.grown hg (Nat.le_refl _), k9.grown hg (Nat.le_refl _), k10.grown hg (Nat.le_refl _), k11.grown hg (Nat.le_refl _)⟩
  go_wp2_with fail
  generalize hW3 : ((((((((w3.setCell ⟨w.heap.size + 1 + 1, 3, none⟩ (.int .i64 h)).setCell ⟨w.heap.size + 1 + 1, 4, none⟩ (.int .i64 e)).setCell ⟨w.heap.size + 1 + 1, 5, none⟩ (.string r)).setCell ⟨w.heap.size + 1 + 1, 6, none⟩ (.string p)).setCell ⟨w.heap.size + 1 + 1, 7, none⟩ (.int .i64 a)).setCell ⟨w.heap.size + 1 + 1, 8, none⟩ (.slice e1 f1 g1)).setCell ⟨w.heap.size + 1 + 1, 9, none⟩ (.slice e2 f2 g2)).setCell ⟨w.heap.size + 1 + 1, 10, none⟩ (.slice e3 f3 g3)) = W3
  have HZ3 : Hid (Below w.heap.size w W3 ∧ Box 52 W3 (w.heap.size + 1) [.slice none 0 0, .slice none 0 0, .slice none 0 0, .int .i64 0, .int .i64 0, .string ⟨#[]⟩, .string ⟨#[]⟩, .int .i64 0, .slice none 0 0, .slice none 0 0, .slice none 0 0, .slice none 0 0] ∧ Box 52 W3 (w.heap.size + 1 + 1) [.slice (some ⟨kb, 0, none⟩) nb nb, .slice (some ⟨ks, 0, none⟩) ns ns, .slice (some ⟨kt, 0, none⟩) nt nt, .int .i64 h, .int .i64 e, .string r, .string p, .int .i64 a, .slice e1 f1 g1, .slice e2 f2 g2, .slice e3 f3 g3, .slice none 0 0] ∧ Box 36 W3 w.heap.size [.slice ab nb cb, .slice as2 ns cs, .slice at2 nt ct, .int .i64 h, .int .i64 e, .string r, .string p, .int .i64 a, .slice a1 n1 c1, .slice a2 n2 c2, .slice a3 n3 c3, .slice ag ng cg] ∧ w.heap.size + 3 ≤ W3.heap.size ∧ RLn W3 (.slice (some ⟨kb, 0, none⟩) nb nb) L (w.heap.size + 1 + 1) ∧ SXn W3 (.slice (some ⟨ks, 0, none⟩) ns ns) S (w.heap.size + 1 + 1) ∧ SXn W3 (.slice (some ⟨kt, 0, none⟩) nt nt) T (w.heap.size + 1 + 1) ∧ (SXn W3 (.slice e1 f1 g1) o (w.heap.size + 1 + 1) ∧ SXn W3 (.slice e2 f2 g2) s (w.heap.size + 1 + 1) ∧ SXn W3 (.slice e3 f3 g3) d (w.heap.size + 1 + 1))) := HY3.out W3 hW3.symm
  clear HY3 hW3 HX3 q3 q4 q5 q6 q7 q8 q9 q10 i3 i4 i5 i6 i7 i8 i9 i10 x11
  refine (H4.out _ HZ3.out.1).mono ?_
  rintro e4 w4 ⟨kg, rfl, hkg, hf4, hb4⟩
  have HX4 : Hid (Below w.heap.size w w4 ∧ Box 52 w4 (w.heap.size + 1) [.slice none 0 0, .slice none 0 0, .slice none 0 0, .int .i64 0, .int .i64 0, .string ⟨#[]⟩, .string ⟨#[]⟩, .int .i64 0, .slice none 0 0, .slice none 0 0, .slice none 0 0, .slice none 0 0] ∧ Box 52 w4 (w.heap.size + 1 + 1) [.slice (some ⟨kb, 0, none⟩) nb nb, .slice (some ⟨ks, 0, none⟩) ns ns, .slice (some ⟨kt, 0, none⟩) nt nt, .int .i64 h, .int .i64 e, .string r, .string p, .int .i64 a, .slice e1 f1 g1, .slice e2 f2 g2, .slice e3 f3 g3, .slice none 0 0] ∧ Box 36 w4 w.heap.size [.slice ab nb cb, .slice as2 ns cs, .slice at2 nt ct, .int .i64 h, .int .i64 e, .string r, .string p, .int .i64 a, .slice a1 n1 c1, .slice a2 n2 c2, .slice a3 n3 c3, .slice ag ng cg] ∧ w.heap.size + 3 ≤ w4.heap.size ∧ RLn w4 (.slice (some ⟨kb, 0, none⟩) nb nb) L (w.heap.size + 1 + 1) ∧ SXn w4 (.slice (some ⟨ks, 0, none⟩) ns ns) S (w.heap.size + 1 + 1) ∧ SXn w4 (.slice (some ⟨kt, 0, none⟩) nt nt) T (w.heap.size + 1 + 1) ∧ (SXn w4 (.slice e1 f1 g1) o (w.heap.size + 1 + 1) ∧ SXn w4 (.slice e2 f2 g2) s (w.heap.size + 1 + 1) ∧ SXn w4 (.slice e3 f3 g3) d (w.heap.size + 1 + 1)) ∧ StB w4 (.slice (some ⟨kg, 0, none⟩) ng ng) kg G ∧ w.heap.size + 1 + 1 < kg) := by
    obtain ⟨k1, k2, k3, k4, k5, k6, k7, k8, k9, k10, k11⟩ := HZ3.out
    exact ⟨k1.trans (hb4.mono k1.size), k2.later hb4, k3.later hb4, k4.later hb4, Nat.le_trans k5 hb4.size, k6.later hb4, k7.later hb4, k8.later hb4, ⟨k9.later hb4, k10.later hb4, k11.later hb4⟩, hf4, by omega⟩
  clear hf4 hb4 HZ3 H4 hkg
  have q11 := HX4.out.2.2.1.at 11 _ rfl
  have i11 := HX4.out.2.2.1.fz 11
  have HY4 : Hid (∀ W, W = (w4.setCell ⟨w.heap.size + 1 + 1, 11, none⟩ (.slice (some ⟨kg, 0, none⟩) ng ng)) → Below w.heap.size w W ∧ Box 52 W (w.heap.size + 1) [.slice none 0 0, .slice none 0 0, .slice none 0 0, .int .i64 0, .int .i64 0, .string ⟨#[]⟩, .string ⟨#[]⟩, .int .i64 0, .slice none 0 0, .slice none 0 0, .slice none 0 0, .slice none 0 0] ∧ Box 52 W (w.heap.size + 1 + 1) [.slice (some ⟨kb, 0, none⟩) nb nb, .slice (some ⟨ks, 0, none⟩) ns ns, .slice (some ⟨kt, 0, none⟩) nt nt, .int .i64 h, .int .i64 e, .string r, .string p, .int .i64 a, .slice e1 f1 g1, .slice e2 f2 g2, .slice e3 f3 g3, .slice (some ⟨kg, 0, none⟩) ng ng] ∧ Box 36 W w.heap.size [.slice ab nb cb, .slice as2 ns cs, .slice at2 nt ct, .int .i64 h, .int .i64 e, .string r, .string p, .int .i64 a, .slice a1 n1 c1, .slice a2 n2 c2, .slice a3 n3 c3, .slice ag ng cg] ∧ w.heap.size + 3 ≤ W.heap.size ∧ RLn W (.slice (some ⟨kb, 0, none⟩) nb nb) L (w.heap.size + 1 + 1) ∧ SXn W (.slice (some ⟨ks, 0, none⟩) ns ns) S (w.heap.size + 1 + 1) ∧ SXn W (.slice (some ⟨kt, 0, none⟩) nt nt) T (w.heap.size + 1 + 1) ∧ (SXn W (.slice e1 f1 g1) o (w.heap.size + 1 + 1) ∧ SXn W (.slice e2 f2 g2) s (w.heap.size + 1 + 1) ∧ SXn W (.slice e3 f3 g3) d (w.heap.size + 1 + 1)) ∧ StB W (.slice (some ⟨kg, 0, none⟩) ng ng) kg G ∧ w.heap.size + 1 + 1 < kg) := fun W hW => by
    subst hW
    have hg := grown_setC w4 (w.heap.size + 1 + 1) 11 (.slice (some ⟨kg, 0, none⟩) ng ng)
    obtain ⟨k1, k2, k3, k4, k5, k6, k7, k8, ⟨k9, k10, k11⟩, k12, k13⟩ := HX4.out
    exact ⟨k1.grown hg k1.size (fun k hk => by simp at hk; omega), k2.grown hg (by simp), k3.set 11 _, k4.grown hg (by simp; omega), by have := hg.size; omega, k6.grown hg (Nat.le_refl _), k7.grown hg (Nat.le_refl _), k8.grown hg (Nat.le_refl _), ⟨k9.grown hg (Nat.le_refl _), k10.grown hg (Nat.le_refl _), k11.grown hg (Nat.le_refl _)⟩, k12.grown hg k13, k13⟩
  go_upto_region 6 with fail
  generalize hW4 : (w4.setCell ⟨w.heap.size + 1 + 1, 11, none⟩ (.slice (some ⟨kg, 0, none⟩) ng ng)) = W4
  have HZ4 : Hid (Below w.heap.size w W4 ∧ Box 52 W4 (w.heap.size + 1) [.slice none 0 0, .slice none 0 0, .slice none 0 0, .int .i64 0, .int .i64 0, .string ⟨#[]⟩, .string ⟨#[]⟩, .int .i64 0, .slice none 0 0, .slice none 0 0, .slice none 0 0, .slice none 0 0] ∧ Box 52 W4 (w.heap.size + 1 + 1) [.slice (some ⟨kb, 0, none⟩) nb nb, .slice (some ⟨ks, 0, none⟩) ns ns, .slice (some ⟨kt, 0, none⟩) nt nt, .int .i64 h, .int .i64 e, .string r, .string p, .int .i64 a, .slice e1 f1 g1, .slice e2 f2 g2, .slice e3 f3 g3, .slice (some ⟨kg, 0, none⟩) ng ng] ∧ Box 36 W4 w.heap.size [.slice ab nb cb, .slice as2 ns cs, .slice at2 nt ct, .int .i64 h, .int .i64 e, .string r, .string p, .int .i64 a, .slice a1 n1 c1, .slice a2 n2 c2, .slice a3 n3 c3, .slice ag ng cg] ∧ w.heap.size + 3 ≤ W4.heap.size ∧ RLn W4 (.slice (some ⟨kb, 0, none⟩) nb nb) L (w.heap.size + 1 + 1) ∧ SXn W4 (.slice (some ⟨ks, 0, none⟩) ns ns) S (w.heap.size + 1 + 1) ∧ SXn W4 (.slice (some ⟨kt, 0, none⟩) nt nt) T (w.heap.size + 1 + 1) ∧ (SXn W4 (.slice e1 f1 g1) o (w.heap.size + 1 + 1) ∧ SXn W4 (.slice e2 f2 g2) s (w.heap.size + 1 + 1) ∧ SXn W4 (.slice e3 f3 g3) d (w.heap.size + 1 + 1)) ∧ StB W4 (.slice (some ⟨kg, 0, none⟩) ng ng) kg G ∧ w.heap.size + 1 + 1 < kg) := HY4.out W4 hW4.symm
  clear HY4 hW4 HX4 q11 i11
  go_wp2_with (first | (refine wp_loadWh rfl _ rfl (w.heap.size + 1 + 1) rfl HZ4.out.2.2.1 ?_) | (refine wp_storeWh rfl _ _ rfl (w.heap.size + 1) _ _ _ _ _ _ _ _ _ _ _ _ HZ4.out.2.1 rfl rfl ⟨rfl, rfl, rfl, rfl, rfl, rfl, rfl, rfl, rfl, rfl, rfl, rfl⟩ ?_; intro hfin) | fail)
  refine ret_wh 2 (w.heap.size + 1) rfl rfl rfl hfin ?_
  rw [← HP.out]
  obtain ⟨k1, k2, k3, k4, k5, k6, k7, k8, ⟨k9, k10, k11⟩, k12, k13⟩ := HZ4.out
  have hgr := grown_setRowP W4 (w.heap.size + 1) #[.slice (some ⟨kb, 0, none⟩) nb nb, .slice (some ⟨ks, 0, none⟩) ns ns, .slice (some ⟨kt, 0, none⟩) nt nt, .int .i64 h, .int .i64 e, .string r, .string p, .int .i64 a, .slice e1 f1 g1, .slice e2 f2 g2, .slice e3 f3 g3, .slice (some ⟨kg, 0, none⟩) ng ng]
  refine ⟨kb, ks, kt, e1, f1, g1, e2, f2, g2, e3, f3, g3, kg, rfl, ⟨?_, HSM.out, (k7.grown hgr (by omega)).sx, (k8.grown hgr (by omega)).sx, (k9.grown hgr (by omega)).sx, (k10.grown hgr (by omega)).sx, (k11.grown hgr (by omega)).sx, ⟨kg, 0, (k12.grown hgr (by omega)).sts⟩⟩, below_row k1 (by omega)⟩
  obtain ⟨g5, o5, k5', _⟩ := k6.grown hgr (q := w.heap.size + 1) (by omega)
  exact ⟨g5, o5, k5'⟩

end Go.Proofs.YtgkfelhjbeegaaaGreatDoor
/-
  Whether stamps ascend: the program's answer.
-/
namespace Go.Proofs.YtgkfelhjbeegaaaGreatDoor
open Go.RowKit Go.BigFrame Go.Sort
set_option linter.unusedVariables false
set_option linter.unusedSimpArgs false

/-- the first m of them ascend -/
def WcR (w : World) (G : List Stm) (i : Value) (wr : World) : Prop := ∃ m q : Nat, 1 ≤ m ∧ (m ≤ G.length ∨ m = 1) ∧ i = .int .i64 m ∧ wr = w.drewN q ∧ Hid (∀ i (h : i + 1 < G.length), i + 1 < m → (G[i]'(by omega)).b < G[i + 1].b)

set_option maxRecDepth 100000 in
set_option maxHeartbeats 1000000 in
theorem stampsAscend_any (v : Value) (g o : Nat) (G : List Stm) (w : World) (hv : StS w v g o G) :
    Calls Tryz.prog 85 #[v] w fun e w' => e = .returned (.bool (ascS G)) ∧ Below w.heap.size w w' := by
  obtain ⟨R, hR⟩ : ∃ R, ascS G = R := ⟨_, rfl⟩
  have HR : Hid (ascS G = R) := hR
  have HV : Hid (StS w v g o G) := hv
  rw [hR]
  obtain ⟨a, c, rfl, hl, hA⟩ := hv.shape
  obtain ⟨n, hn⟩ : ∃ n, G.length = n := ⟨_, rfl⟩
  have HA : Hid (0 < n → a = some ⟨g, o, none⟩) := by rw [← hn]; exact hA
  have HN : Hid (G.length = n) := hn
  have HST : Hid (WcR w G (.int .i64 1) w) := ⟨1, 0, by omega, .inr rfl, rfl, rfl, fun i _ h => by omega⟩
  rw [hn] at hl ⊢
  clear hA hv hR hn
  go_enter Tryz.func85, Tryz.ntmps85
  go_wp2
  go_loopw [3] (fun i wr => WcR w G i wr) (fun i _ => n - (intOf i).toNat)
  case atStart => exact HST.out
  case round =>
    obtain ⟨m, q, hm1, hm, rfl, rfl, HI⟩ := hrel
    clear HST
    rw [HN.out] at hm
    by_cases hlt : m < n
    · have ea := HA.out (by omega)
      subst ea
      obtain ⟨p, rfl⟩ : ∃ p, m = p + 1 := ⟨m - 1, by omega⟩
      obtain ⟨x1, x2, x3, ⟨c0, _⟩, _⟩ := HV.out.at p (by rw [HN.out]; omega)
      obtain ⟨y1, y2, y3, ⟨d0, _⟩, _⟩ := HV.out.at (p + 1) (by rw [HN.out]; omega)
      have HB : Hid (¬ ((G[p]'(by rw [HN.out]; omega)).b < (G[p + 1]'(by rw [HN.out]; omega)).b) → ascS G = false) := fun h => ascS_no fun hh => h (hh p (by rw [HN.out]; omega))
      have HJ : Hid (((G[p]'(by rw [HN.out]; omega)).b < (G[p + 1]'(by rw [HN.out]; omega)).b) → ∀ i (h : i + 1 < G.length), i + 1 < p + 1 + 1 → (G[i]'(by omega)).b < G[i + 1].b) := fun h i hi him => by
        rcases Nat.lt_or_ge i p with h1 | h1
        · exact HI.out i hi (by omega)
        · have : i = p := by omega
          subst this
          exact h
      generalize (G[p]'(by rw [HN.out]; omega)).b = X at *
      generalize (G[p + 1]'(by rw [HN.out]; omega)).b = Y at *
      have i1 : ((p + 1 : Nat) : Int) < (n : Int) := by omega
      have i2 : (0 : Int) ≤ ((p + 1 : Nat) : Int) := by omega
      by_cases hk : X < Y
      · have HJ2 := HJ.out hk
        have HJ3 : Hid (∀ i (h : i + 1 < G.length), i + 1 < p + 1 + 1 → (G[i]'(by omega)).b < G[i + 1].b) := HJ2
        have q1 : decide (Y ≤ X) = false := decide_eq_false (by omega)
        have e1 : ((p + 1 : Nat) : Int) - 1 = (p : Int) := by omega
        clear HJ2 HJ HB HI HV
        go_wp2
        go_quiet (fail)
        go_wp2
        go_roundw
        case rel => exact ⟨p + 1 + 1, _, by omega, .inl (by rw [HN.out]; omega), by go_num, rfl, HJ3⟩
        case measure => simp [intOf]; omega
      · have hRf := HB.out hk
        rw [HR.out] at hRf
        subst hRf
        have q1 : decide (Y ≤ X) = true := decide_eq_true (by omega)
        have e1 : ((p + 1 : Nat) : Int) - 1 = (p : Int) := by omega
        clear HJ HB HI HV
        go_wp2
        go_quiet (fail)
        go_wp2
        go_ret
        exact ⟨rfl, below_drn (below_drn (Below.refl _ _) _) _⟩
    · have hRt : R = true := by
        rw [← HR.out]
        exact ascS_yes fun i hi => HI.out i hi (by rw [HN.out] at hi; omega)
      subst hRt
      have i1 : ¬ (m : Int) < (n : Int) := by omega
      clear HI HV
      go_wp2
      go_ret
      exact ⟨rfl, below_drn (Below.refl _ _) _⟩

end Go.Proofs.YtgkfelhjbeegaaaGreatDoor
/-
  Rows of leaves that a call owns, grown leaf by leaf.
-/
namespace Go.Proofs.YtgkfelhjbeegaaaGreatDoor
open Go.RowKit Go.BigFrame Go.Sort
set_option linter.unusedVariables false
set_option linter.unusedSimpArgs false

/-- v owns the leaves l -/
def OL (B : Nat) (w0 w : World) (v : Value) (l : List Le) : Prop := OR 119 2 lcs B w0 w v l
theorem OL.later {B : Nat} {w0 w w' : World} {v : Value} {l : List Le} (h : OL B w0 w v l) (hb : Below w.heap.size w w') : OL B w0 w' v l := OR.later h hb
theorem OL.grown {B : Nat} {w0 w w' : World} {v : Value} {l : List Le} {row : Option Nat} (h : OL B w0 w v l) (hg : w.grownBy w' row) (hne : ∀ q, row = some q → B ≤ q ∧ v.ownBlock ≠ some q) : OL B w0 w' v l := OR.grown h hg hne
theorem OL.rw {B : Nat} {w0 w : World} {v : Value} {l : List Le} (h : OL B w0 w v l) (hl : l.length ≤ 1100000) : ∃ g, RW 2 lcs w v g l ∧ B ≤ g ∧ (∀ q, v.ownBlock = some q → q = g) := OR.rw (k := 2) (enc := lcs) (fun x => lcs_len x) (by omega) h hl
theorem OL.shape {B : Nat} {w0 w : World} {v : Value} {l : List Le} (h : OL B w0 w v l) : ∃ a c, v = .slice a l.length c := by
  rcases h.1.2 with ⟨hv, hn⟩ | ⟨g, cap, cur, hv, _⟩
  · exact ⟨none, 0, by rw [hv, hn]⟩
  · exact ⟨_, _, hv⟩
theorem OL.made (B : Nat) (w0 w : World) (hb : Below B w0 w) (hB : B ≤ w.heap.size) : OL B w0 (w.alloc (.cells #[] 119)) (.slice (some ⟨w.heap.size, 0, none⟩) 0 0) [] :=
  ⟨World.ownsRow_made w #[] 0 hB (by decide) (by simp), hb.alloc hB _, by simp; omega⟩
/-- its block is none of another type -/
theorem OL.ne {B : Nat} {w0 w : World} {u : Value} {l : List Le} {p T : Nat} {cs : Array Value} {fz : Nat × Nat} (h : OL B w0 w u l) (hb : w.heap[p]? = some (.cells cs T fz)) (hT : T ≠ 119) : u.ownBlock ≠ some p := by
  rcases h.1.2 with ⟨hv, _⟩ | ⟨g, cap, cur, hv, _, hg, _⟩
  · rw [hv]; simp [Value.ownBlock]
  · rw [hv]
    intro e
    have : g = p := by simpa [Value.ownBlock] using e
    subst this
    rw [hg] at hb
    simp at hb
    exact hT hb.2.1.symm

section
variable {w : World} {ops : Array Oper} {o : Oper} {a : Act} {K : Act → World → Prop} {Q : Exit → Act → World → Prop}
/-- a leaf appended, as one step of a region that draws its order -/
theorem step_leaf {E : Prop} (hgd : o.guard = none) (s x : Operand)
    (ho : o.op = .call { callee := .builtin .append, args := #[s, x], argTypes := #[43, 43] })
    (B : Nat) (w0 : World) (u : Value) (l : List Le) (f : Le) (hs : a.eval s = u) (h : OL B w0 w u l) (p : Nat) (hx : a.eval x = .slice (some ⟨p, 0, none⟩) 1 1)
    (hnews : w.rangeAt p 0 (lcs f)) (hlen : l.length + 1 ≤ 1000000)
    (hk : ∀ g cap w', OL B w0 w' (.slice (some ⟨g, 0, none⟩) (l.length + 1) cap) (l ++ [f]) → w.grownBy w' u.ownBlock → K (a.put o.dst (.slice (some ⟨g, 0, none⟩) (l.length + 1) cap)) w') : if Region.wanted o (yielded ops a.tmps) = true then Oper.wp Tryz.prog o a w K Q else E := by
  obtain ⟨i0, hi, hz0, hz1, hz2⟩ := info_parts Tryz.infoLeaf
  refine step_append_lies w hgd s x 43 ho B 119 i0 _ 2 32 Tryz.underlying43 hi hz0 hz1 hz2 rfl (by decide) u l.length (l.flatMap lcs) hs h.1 ⟨p, 0, none⟩ 1 1 (lcs f) hx rfl ?_
    (fun u hu => by simp [lcs] at hu; rcases hu with rfl | rfl <;> rfl) (by omega) (by unfold maxLen; omega) (by omega) h.2.2 w.heap.size rfl ?_
  · intro j u hj
    have := hnews j u hj
    rw [Addr.add_mid]
    exact this
  · intro g cap w' h1 h2 h3 _
    exact hk _ _ _ ⟨by rw [List.flatMap_append, List.flatMap_singleton, List.length_append]; exact h1, h.2.1.grown h2 h.2.2 (fun k hk => (h.1.lt k hk).1), Nat.le_trans h.2.2 h2.size⟩ h2
/-- .. and in a plain region -/
theorem wp_leaf {rest : List Oper} (hgd : o.guard = none) (s x : Operand)
    (ho : o.op = .call { callee := .builtin .append, args := #[s, x], argTypes := #[43, 43] })
    (B : Nat) (w0 : World) (u : Value) (l : List Le) (f : Le) (hs : a.eval s = u) (h : OL B w0 w u l) (p : Nat) (hx : a.eval x = .slice (some ⟨p, 0, none⟩) 1 1)
    (hnews : w.rangeAt p 0 (lcs f)) (hlen : l.length + 1 ≤ 1000000)
    (hk : ∀ g cap w', OL B w0 w' (.slice (some ⟨g, 0, none⟩) (l.length + 1) cap) (l ++ [f]) → w.grownBy w' u.ownBlock → wpList Tryz.prog ops Q rest (a.put o.dst (.slice (some ⟨g, 0, none⟩) (l.length + 1) cap)) w') : wpList Tryz.prog ops Q (o :: rest) a w := by
  obtain ⟨i0, hi, hz0, hz1, hz2⟩ := info_parts Tryz.infoLeaf
  refine wpList_append_lies w hgd s x 43 ho B 119 i0 _ 2 32 Tryz.underlying43 hi hz0 hz1 hz2 rfl (by decide) u l.length (l.flatMap lcs) hs h.1 ⟨p, 0, none⟩ 1 1 (lcs f) hx rfl ?_
    (fun u hu => by simp [lcs] at hu; rcases hu with rfl | rfl <;> rfl) (by omega) (by unfold maxLen; omega) (by omega) h.2.2 w.heap.size rfl ?_
  · intro j u hj
    have := hnews j u hj
    rw [Addr.add_mid]
    exact this
  · intro g cap w' h1 h2 h3 _
    exact hk _ _ _ ⟨by rw [List.flatMap_append, List.flatMap_singleton, List.length_append]; exact h1, h.2.1.grown h2 h.2.2 (fun k hk => (h.1.lt k hk).1), Nat.le_trans h.2.2 h2.size⟩ h2
end

end Go.Proofs.YtgkfelhjbeegaaaGreatDoor
/-
  A leaf looked for, a leaf and a row of leaves copied: the program's and the specification's answers.
-/
namespace Go.Proofs.YtgkfelhjbeegaaaGreatDoor
open Go.RowKit Go.BigFrame Go.Sort
set_option linter.unusedVariables false
set_option linter.unusedSimpArgs false

namespace LV
/-- none of the first m has this name -/
def NotIn (L : List Le) (x : ByteArray) (m : Nat) : Prop := ∀ j (h : j < L.length), j < m → L[j].n ≠ x
theorem NotIn.zero (L : List Le) (x : ByteArray) : NotIn L x 0 := fun j _ h => by omega
theorem NotIn.step {L : List Le} {x : ByteArray} {m : Nat} (h : NotIn L x m) (hm : m < L.length) (hne : L[m].n ≠ x) : NotIn L x (m + 1) := by
  intro j hj hlt
  rcases Nat.lt_or_ge j m with h1 | h1
  · exact h j hj h1
  · have : j = m := by omega
    subst this
    exact hne
theorem NotIn.here {L : List Le} {x : ByteArray} {m : Nat} (h : NotIn L x m) (hm : m < L.length) (he : L[m].n = x) : find L x = some L[m] := by
  have h1 : L = L.take m ++ L[m] :: L.drop (m + 1) := by simp
  unfold find
  rw [List.find?_eq_some_iff_append]
  refine ⟨by simpa using he, L.take m, L.drop (m + 1), by simp, fun a ha => ?_⟩
  obtain ⟨j, hj, rfl⟩ := List.getElem_of_mem ha
  rw [List.length_take] at hj
  rw [List.getElem_take]
  simpa using h j (by omega) (by omega)
theorem NotIn.none {L : List Le} {x : ByteArray} (h : NotIn L x L.length) : find L x = none := by
  unfold find
  rw [List.find?_eq_none]
  intro a ha
  obtain ⟨j, hj, rfl⟩ := List.getElem_of_mem ha
  simpa using h j hj hj
theorem get_some {L : List Le} {x : ByteArray} {f : Le} (h : find L x = some f) : getV L x = f.v ∧ getB L x = true := by
  unfold getV getB
  rw [h]
  exact ⟨rfl, rfl⟩
theorem get_none {L : List Le} {x : ByteArray} (h : find L x = none) : getV L x = ⟨#[]⟩ ∧ getB L x = false := by
  unfold getV getB
  rw [h]
  exact ⟨rfl, rfl⟩
theorem bytes_ne {a b : ByteArray} (h : a ≠ b) : (a.toList == b.toList) = false := by
  rw [beq_eq_false_iff_ne]
  exact fun e => h (F.toList_inj e)
end LV

def LgR (L : List Le) (x : ByteArray) (w : World) (i : Value) (wr : World) : Prop := ∃ m : Nat, m ≤ L.length ∧ i = .int .i64 m ∧ Hid (LV.NotIn L x m) ∧ Below w.heap.size w wr

set_option maxRecDepth 100000 in
set_option maxHeartbeats 1000000 in
theorem LeafGet_any (v : Value) (ga oa : Nat) (L : List Le) (x : ByteArray) (w : World) (hv : RS 2 lcs w v ga oa L) (hsm : SmallL L) :
    Calls Tryz.prog 62 #[v, .string x] w fun e w' => e = .returned (.tuple #[.string (LV.getV L x), .bool (LV.getB L x)]) ∧ Below w.heap.size w w' := by
  obtain ⟨R, hR⟩ : ∃ R, LV.getV L x = R := ⟨_, rfl⟩
  obtain ⟨b, hb⟩ : ∃ b, LV.getB L x = b := ⟨_, rfl⟩
  have HVV : Hid (RS 2 lcs w v ga oa L) := hv
  obtain ⟨a, cap, rfl, hl, hA, hc⟩ := hv
  obtain ⟨n, hn⟩ : ∃ n, L.length = n := ⟨_, rfl⟩
  have HA : Hid (0 < n → a = some ⟨ga, oa, none⟩) := by rw [← hn]; exact fun h => (hA h).1
  have HSM : Hid (SmallL L) := hsm
  have HR : Hid (LV.getV L x = R ∧ LV.getB L x = b) := ⟨hR, hb⟩
  have HST : Hid (LgR L x w (.int .i64 0) w) := ⟨0, by omega, rfl, LV.NotIn.zero L x, Below.refl _ _⟩
  rw [hR, hb]
  rw [hn] at hl ⊢
  clear hc hA hR hb hsm
  go_enter Tryz.func62, Tryz.ntmps62
  go_wp2
  go_loopw [10] (fun i wr => LgR L x w i wr) (fun i _ => n - (intOf i).toNat)
  case atStart => exact HST.out
  case round =>
    obtain ⟨m, hm, rfl, HU, hbel⟩ := hrel
    rw [hn] at hm
    clear HST
    by_cases hlt : m < n
    · have ea := HA.out (by omega)
      subst ea
      have hrs := HVV.out.later hbel
      obtain ⟨c0, c1⟩ := hrs.leaf m (by omega)
      have i1 : (m : Int) < (n : Int) := by omega
      have i2 : (0 : Int) ≤ (m : Int) := by omega
      obtain ⟨X, hX⟩ : ∃ X, L[m]'(by omega) = X := ⟨_, rfl⟩
      rw [hX] at c0 c1
      have hxs := HSM.out X (by rw [← hX]; exact List.getElem_mem _)
      have hbw : Below w.heap.size w (wr.alloc (.cells #[.string X.n, .string X.v] 119)) := hbel.alloc hbel.size _
      clear HSM HVV hrs HA
      by_cases he : X.n = x
      · have hF := LV.get_some (HU.out.here (by omega) (by rw [hX]; exact he))
        rw [hX, HR.out.1, HR.out.2] at hF
        obtain ⟨rfl, rfl⟩ := hF
        have q : (X.n.toList == x.toList) = true := by rw [he]; simp
        clear HU HR hX he
        go_wp2_with fail
        refine (Clone_any X.v _ hxs.2).mono ?_
        rintro e w1 ⟨rfl, hb1⟩
        have hb2 := hbw.trans (hb1.mono hbw.size)
        go_wp2
        try rw [Exit.noGoto_ret]
        go_ret2
        exact ⟨rfl, hb2⟩
      · have HU2 : Hid (LV.NotIn L x (m + 1)) := HU.out.step (by omega) (by rw [hX]; exact he)
        have q : (X.n.toList == x.toList) = false := LV.bytes_ne he
        clear HU HR hX he
        go_wp2
        go_roundw
        case rel => exact ⟨m + 1, by omega, by go_num, HU2, hbw⟩
        case measure => simp [intOf]; omega
    · have hme : m = n := by omega
      have hF := LV.get_none (L := L) (x := x) (LV.NotIn.none (by rw [hn, ← hme]; exact HU.out))
      rw [HR.out.1, HR.out.2] at hF
      obtain ⟨rfl, rfl⟩ := hF
      subst hme
      clear HU HR HVV HA HSM
      go_wp2
      go_ret2
      exact ⟨rfl, hbel⟩

set_option maxRecDepth 100000 in
set_option maxHeartbeats 1000000 in
theorem sLeafGet_any (v : Value) (ga oa : Nat) (L : List Le) (x : ByteArray) (w : World) (hv : RS 2 lcs w v ga oa L) :
    Calls Tryz.prog 52 #[v, .string x] w fun e w' => e = .returned (.tuple #[.string (LV.getV L x), .bool (LV.getB L x)]) ∧ Below w.heap.size w w' := by
  obtain ⟨R, hR⟩ : ∃ R, LV.getV L x = R := ⟨_, rfl⟩
  obtain ⟨b, hb⟩ : ∃ b, LV.getB L x = b := ⟨_, rfl⟩
  have HVV : Hid (RS 2 lcs w v ga oa L) := hv
  obtain ⟨a, cap, rfl, hl, hA, hc⟩ := hv
  obtain ⟨n, hn⟩ : ∃ n, L.length = n := ⟨_, rfl⟩
  have HA : Hid (0 < n → a = some ⟨ga, oa, none⟩) := by rw [← hn]; exact fun h => (hA h).1
  have HR : Hid (LV.getV L x = R ∧ LV.getB L x = b) := ⟨hR, hb⟩
  have HST : Hid (LgR L x w (.int .i64 0) w) := ⟨0, by omega, rfl, LV.NotIn.zero L x, Below.refl _ _⟩
  rw [hR, hb]
  rw [hn] at hl ⊢
  clear hc hA hR hb
  go_enter Tryz.func52, Tryz.ntmps52
  go_wp2
  go_loopw [6] (fun i wr => LgR L x w i wr) (fun i _ => n - (intOf i).toNat)
  case atStart => exact HST.out
  case round =>
    obtain ⟨m, hm, rfl, HU, hbel⟩ := hrel
    rw [hn] at hm
    clear HST
    by_cases hlt : m < n
    · have ea := HA.out (by omega)
      subst ea
      have hrs := HVV.out.later hbel
      obtain ⟨c0, c1⟩ := hrs.leaf m (by omega)
      have i1 : (m : Int) < (n : Int) := by omega
      have i2 : (0 : Int) ≤ (m : Int) := by omega
      obtain ⟨X, hX⟩ : ∃ X, L[m]'(by omega) = X := ⟨_, rfl⟩
      rw [hX] at c0 c1
      clear HVV hrs HA
      by_cases he : X.n = x
      · have hF := LV.get_some (HU.out.here (by omega) (by rw [hX]; exact he))
        rw [hX, HR.out.1, HR.out.2] at hF
        obtain ⟨rfl, rfl⟩ := hF
        have q : (X.n.toList == x.toList) = true := by rw [he]; simp
        clear HU HR hX he
        go_wp2
        try rw [Exit.noGoto_ret]
        go_ret2
        exact ⟨rfl, hbel⟩
      · have HU2 : Hid (LV.NotIn L x (m + 1)) := HU.out.step (by omega) (by rw [hX]; exact he)
        have q : (X.n.toList == x.toList) = false := LV.bytes_ne he
        clear HU HR hX he
        go_wp2
        go_roundw
        case rel => exact ⟨m + 1, by omega, by go_num, HU2, hbel⟩
        case measure => simp [intOf]; omega
    · have hme : m = n := by omega
      have hF := LV.get_none (L := L) (x := x) (LV.NotIn.none (by rw [hn, ← hme]; exact HU.out))
      rw [HR.out.1, HR.out.2] at hF
      obtain ⟨rfl, rfl⟩ := hF
      subst hme
      clear HU HR HVV HA
      go_wp2
      go_ret2
      exact ⟨rfl, hbel⟩

end Go.Proofs.YtgkfelhjbeegaaaGreatDoor
