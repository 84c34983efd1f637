/-
  Texts laid together: Pfm, Jc, Short.
-/
import Derived.Test.YtklpanjedolkdaaGreatDoorPkELS6
import Derived.Test.YtklpanjedolkdaaGreatDoorPkELS2
import Derived.Laws.Rows
import Derived.Laws.Tables
import Derived.Test.YtklpanjedolkdaaGreatDoorPkELS17
import Derived.Deep.CutRange
import Derived.Test.YtklpanjedolkdaaGreatDoorPkELS1
/-
  A proof in a box of its own: read, stored, answered.
-/
namespace Go.Proofs.YtklpanjedolkdaaGreatDoor
open Go.RowKit Go.BigFrame Go.Sort
set_option linter.unusedVariables false
set_option linter.unusedSimpArgs false

theorem cell_up {w w' : World} {p : Addr} {v : Value} (h : w.cell? p = some v) (hb : Below w.heap.size w w') : w'.cell? p = some v := by
  have hlt : p.block < w.heap.size := by
    rcases Nat.lt_or_ge p.block w.heap.size with h5 | h5
    · exact h5
    · simp [World.cell?, Array.getElem?_eq_none h5] at h
  exact (hb.cell hlt).trans h
/-- block g is a proof with these fields -/
def PfM (w : World) (g : Nat) (v1 v2 : Value) : Prop := w.heap[g]? = some (.cells #[v1, v2] 55 (0, 0))
theorem PfM.lt {w : World} {g : Nat} {v1 v2 : Value} (h : PfM w g v1 v2) : g < w.heap.size := (Array.getElem?_eq_some_iff.1 h).1
theorem PfM.keep {w w' : World} {g : Nat} {v1 v2 : Value} (h : PfM w g v1 v2) (he : w'.heap[g]? = w.heap[g]?) : PfM w' g v1 v2 := by
  unfold PfM at *
  rw [he, h]
theorem PfM.later {w w' : World} {g : Nat} {v1 v2 : Value} (h : PfM w g v1 v2) (hb : Below w.heap.size w w') : PfM w' g v1 v2 := h.keep (hb.block g h.lt)
theorem PfM.new (w : World) (v1 v2 : Value) : PfM (w.alloc (.cells #[v1, v2] 55)) w.heap.size v1 v2 := Go.heap_alloc_new w _
theorem sizeP : (Tryz.prog.info? 55).map (·.size) = some 2 := by kernel_rfl
theorem load_pf {w : World} {g : Nat} {v1 v2 : Value} (hA : PfM w g v1 v2) : (loadVar 55 ⟨g, 0, none⟩).run Tryz.prog w = .ok (.agg #[v1, v2]) w :=
  run_loadVar_row (P := Tryz.prog) w g 55 55 _ (0, 0) _ hA Tryz.underlying55 rfl sizeP
theorem ret_pf2 {fn : Func} {Rp : Ending → World → Prop} {a : Act} {w : World} (c s g : Nat) (v1 v2 b : Value) (hres : fn.results = #[.cell c 55, .tmp s]) (hd : a.defers = []) (hp : a.tmps.getD c undef = .pointer (some ⟨g, 0, none⟩)) (hb : a.tmps.getD s undef = b)
    (hA : PfM w g v1 v2) (h : Rp (.returned (.tuple #[.agg #[v1, v2], b])) w) : bodyPost Tryz.prog fn Rp .ret a w := by
  have hr := load_pf hA
  refine bodyPost_ret (v := .tuple #[.agg #[v1, v2], b]) ?_ hd h
  have hp' : a.tmps[c]?.getD undef = .pointer (some ⟨g, 0, none⟩) := by simpa using hp
  have hb' : a.tmps[s]?.getD undef = b := by simpa using hb
  simp [results, hres, asAddr, hr, hp', hb']
section
variable {w : World} {ops : Array Oper} {rest : List Oper} {o : Oper} {a : Act} {Q : Exit → Act → World → Prop}
theorem wp_storePf (hgd : o.guard = none) (p v : Operand) (ho : o.op = .store 55 p v) (g : Nat) (v1 v2 u1 u2 : Value) (hA : PfM w g v1 v2) (hp : a.eval p = .pointer (some ⟨g, 0, none⟩)) (hv : a.eval v = .agg #[u1, u2])
    (h1 : u1.oneCell' = true) (h2 : u2.oneCell' = true)
    (h : PfM (w.setRow g #[u1, u2]) g u1 u2 → wpList Tryz.prog ops Q rest (a.put o.dst (.tuple #[])) (w.setRow g #[u1, u2])) : wpList Tryz.prog ops Q (o :: rest) a w := by
  refine wpList_plain hgd fun K hK => ?_
  have hr : (Instr.storeAt 55 (.pointer (some ⟨g, 0, none⟩)) (.agg #[u1, u2])).run Tryz.prog w = .ok () (w.setRow g #[u1, u2]) := by
    simp only [Instr.storeAt, Instr.sureAddr, Sem.run_bind, Sem.run_pure, Result.andThen]
    refine run_storeVar_row w g 55 55 _ _ hA sizeP rfl ?_
    simp [h1, h2]
  unfold Oper.wp
  simp [execOp, ho, hp, hv, hr, Result.andThen]
  exact hK _ _ (h (setRow_heap w g _ _ _ _ hA))
end
theorem grown_setRowP (w : World) (g : Nat) (R : Array Value) : w.grownBy (w.setRow g R) (some g) :=
  ⟨rfl, rfl, rfl, by simp [World.setRow], fun k _ hk => setRow_other w g k R (fun e => hk (by simp [e]))⟩
theorem below_row {B g : Nat} {w0 w : World} {R : Array Value} (h : Below B w0 w) (hg : B ≤ g) : Below B w0 (w.setRow g R) :=
  h.trans ⟨rfl, rfl, rfl, by simp [World.setRow], fun k hk => setRow_other w g k R (by omega)⟩
theorem size_setRowP (w : World) (g : Nat) (R : Array Value) : (w.setRow g R).heap.size = w.heap.size := by simp [World.setRow]
theorem PfM.c0 {w : World} {g : Nat} {v1 v2 : Value} (h : PfM w g v1 v2) : w.cell? ⟨g, 0, none⟩ = some v1 := by rw [cell_of_row w g 0 _ _ _ h]; rfl
theorem PfM.c1 {w : World} {g : Nat} {v1 v2 : Value} (h : PfM w g v1 v2) : w.cell? ⟨g, 1, none⟩ = some v2 := by rw [cell_of_row w g 1 _ _ _ h]; rfl
theorem PfM.fr {w : World} {g : Nat} {v1 v2 : Value} (h : PfM w g v1 v2) (j : Nat) : w.frozen? ⟨g, j, none⟩ = false := by simp [World.frozen?, show w.heap[g]? = _ from h]
theorem PfM.set0 {w : World} {g : Nat} {v1 v2 : Value} (h : PfM w g v1 v2) (u : Value) : PfM (w.setCell ⟨g, 0, none⟩ u) g u v2 := heap_setCell_same w g 0 _ _ _ h
theorem PfM.set1 {w : World} {g : Nat} {v1 v2 : Value} (h : PfM w g v1 v2) (u : Value) : PfM (w.setCell ⟨g, 1, none⟩ u) g v1 u := heap_setCell_same w g 1 _ _ _ h
theorem ret_pf1 {fn : Func} {Rp : Ending → World → Prop} {a : Act} {w : World} (c g : Nat) (v1 v2 : Value) (hres : fn.results = #[.cell c 55]) (hd : a.defers = []) (hp : a.tmps.getD c undef = .pointer (some ⟨g, 0, none⟩))
    (hA : PfM w g v1 v2) (h : Rp (.returned (.agg #[v1, v2])) w) : bodyPost Tryz.prog fn Rp .ret a w := by
  have hr := load_pf hA
  refine bodyPost_ret (v := .agg #[v1, v2]) ?_ hd h
  have hp' : a.tmps[c]?.getD undef = .pointer (some ⟨g, 0, none⟩) := by simpa using hp
  simp [results, hres, asAddr, hr, hp']
theorem wp_loadPf {w : World} {ops : Array Oper} {rest : List Oper} {o : Oper} {a : Act} {Q : Exit → Act → World → Prop} (hgd : o.guard = none) (p : Operand) (ho : o.op = .load 55 p) (g : Nat) (v1 v2 : Value) (hp : a.eval p = .pointer (some ⟨g, 0, none⟩)) (hA : PfM w g v1 v2)
    (h : wpList Tryz.prog ops Q rest (a.put o.dst (.agg #[v1, v2])) w) : wpList Tryz.prog ops Q (o :: rest) a w := by
  refine wpList_plain hgd fun K hK => ?_
  have hr : (Instr.loadAt 55 (.pointer (some ⟨g, 0, none⟩))).run Tryz.prog w = .ok (.agg #[v1, v2]) w := by
    simp only [Instr.loadAt, Instr.sureAddr, Sem.run_bind, Sem.run_pure, Result.andThen]
    exact load_pf hA
  unfold Oper.wp
  simp [execOp, ho, hp, hr, Result.andThen]
  exact hK _ _ h

end Go.Proofs.YtklpanjedolkdaaGreatDoor
/-
  What the laws' own helpers do with servers: taken over.
-/
namespace Go.Proofs.YtklpanjedolkdaaGreatDoor
open Go.RowKit Go.BigFrame Go.Sort
set_option linter.unusedVariables false
set_option linter.unusedSimpArgs false

theorem sizeSrv : (Tryz.prog.info? 41).map (·.size) = some 11 := by kernel_rfl
section
variable {x0 x1 x2 x3 x4 x5 x6 x7 x8 x9 x10 : Value}
theorem ret_srv {fn : Func} {Rp : Ending → World → Prop} {a : Act} {w : World} (c g : Nat) (hres : fn.results = #[.cell c 41]) (hd : a.defers = []) (hp : a.tmps.getD c undef = .pointer (some ⟨g, 0, none⟩)) (hA : Box 41 w g [x0, x1, x2, x3, x4, x5, x6, x7, x8, x9, x10]) (h : Rp (.returned (.agg #[x0, x1, x2, x3, x4, x5, x6, x7, x8, x9, x10])) w) : bodyPost Tryz.prog fn Rp .ret a w :=
  ret_rec c g 41 [x0, x1, x2, x3, x4, x5, x6, x7, x8, x9, x10] _ hres hd hp Tryz.underlying41 rfl sizeSrv hA.range h
theorem load_srv {w : World} {g : Nat} (hA : Box 41 w g [x0, x1, x2, x3, x4, x5, x6, x7, x8, x9, x10]) : (loadVar 41 ⟨g, 0, none⟩).run Tryz.prog w = .ok (.agg #[x0, x1, x2, x3, x4, x5, x6, x7, x8, x9, x10]) w :=
  run_loadVar_row (P := Tryz.prog) w g 41 41 _ (0, 0) _ hA Tryz.underlying41 rfl sizeSrv
variable {w : World} {ops : Array Oper} {rest : List Oper} {o : Oper} {a : Act} {Q : Exit → Act → World → Prop}
theorem wp_loadSrv (hgd : o.guard = none) (p : Operand) (ho : o.op = .load 41 p) (g : Nat) (hp : a.eval p = .pointer (some ⟨g, 0, none⟩)) (hA : Box 41 w g [x0, x1, x2, x3, x4, x5, x6, x7, x8, x9, x10])
    (h : wpList Tryz.prog ops Q rest (a.put o.dst (.agg #[x0, x1, x2, x3, x4, x5, x6, x7, x8, x9, x10])) w) : wpList Tryz.prog ops Q (o :: rest) a w := by
  refine wpList_plain hgd fun K hK => ?_
  have hr : (Instr.loadAt 41 (.pointer (some ⟨g, 0, none⟩))).run Tryz.prog w = .ok (.agg #[x0, x1, x2, x3, x4, x5, x6, x7, x8, x9, x10]) w := by
    simp only [Instr.loadAt, Instr.sureAddr, Sem.run_bind, Sem.run_pure, Result.andThen]
    exact load_srv hA
  unfold Oper.wp
  simp [execOp, ho, hp, hr, Result.andThen]
  exact hK _ _ h
theorem wp_storeSrv (hgd : o.guard = none) (p v : Operand) (ho : o.op = .store 41 p v) (g : Nat) (y0 y1 y2 y3 y4 y5 y6 y7 y8 y9 y10 : Value) (hA : Box 41 w g [x0, x1, x2, x3, x4, x5, x6, x7, x8, x9, x10]) (hp : a.eval p = .pointer (some ⟨g, 0, none⟩)) (hv : a.eval v = .agg #[y0, y1, y2, y3, y4, y5, y6, y7, y8, y9, y10])
    (h1 : y0.oneCell' = true ∧ y1.oneCell' = true ∧ y2.oneCell' = true ∧ y3.oneCell' = true ∧ y4.oneCell' = true ∧ y5.oneCell' = true ∧ y6.oneCell' = true ∧ y7.oneCell' = true ∧ y8.oneCell' = true ∧ y9.oneCell' = true ∧ y10.oneCell' = true)
    (h : Box 41 (w.setRow g #[y0, y1, y2, y3, y4, y5, y6, y7, y8, y9, y10]) g [y0, y1, y2, y3, y4, y5, y6, y7, y8, y9, y10] → wpList Tryz.prog ops Q rest (a.put o.dst (.tuple #[])) (w.setRow g #[y0, y1, y2, y3, y4, y5, y6, y7, y8, y9, y10])) : wpList Tryz.prog ops Q (o :: rest) a w := by
  refine wpList_plain hgd fun K hK => ?_
  have hr : (Instr.storeAt 41 (.pointer (some ⟨g, 0, none⟩)) (.agg #[y0, y1, y2, y3, y4, y5, y6, y7, y8, y9, y10])).run Tryz.prog w = .ok () (w.setRow g #[y0, y1, y2, y3, y4, y5, y6, y7, y8, y9, y10]) := by
    simp only [Instr.storeAt, Instr.sureAddr, Sem.run_bind, Sem.run_pure, Result.andThen]
    refine run_storeVar_row w g 41 41 _ _ hA sizeSrv rfl ?_
    simp [h1]
  unfold Oper.wp
  simp [execOp, ho, hp, hv, hr, Result.andThen]
  exact hK _ _ (h (setRow_heap w g _ _ _ _ hA))
end
theorem XW.kept {B q : Nat} {w w' : World} {go : Nat} {G : List Nat} {P : List (List Le)} (h : XW B w go G P) (hg : w.grownBy w' (some q)) (hq : q < B) : XW B w' go G P := by
  obtain ⟨h1, h2, h3, h4, h5, h6, h7⟩ := h
  refine ⟨h1, h2, h3, Nat.lt_of_lt_of_le h4 hg.size, h5, fun b hb' => ⟨(h6 b hb').1, Nat.lt_of_lt_of_le (h6 b hb').2.1 hg.size, (h6 b hb').2.2⟩, fun j hj hG => ⟨(cell_kept (hg.block go h4 (by simp; omega))).trans (h7 j hj hG).1, (h7 j hj hG).2.grown hg (fun _ => by have := (h6 _ (List.getElem_mem hG)).1; simp; omega)⟩⟩

/-- what a law makes of a server that it was handed -/
def ToSv (n : Sn) (L : Sr) (w : World) (e : Ending) (w' : World) : Prop := ∃ gd gv b3 e3 ga, e = .returned (.agg #[.int .i64 n.a, .int .i64 n.k, .bool n.u, .slice (some ⟨gd, 0, none⟩) L.F.length L.F.length, .int .i64 n.e, .slice (some ⟨gv, 0, none⟩) L.P.length L.P.length, .slice b3 L.I.length e3, .slice (some ⟨ga, 0, none⟩) L.U.length L.U.length, .int .i64 n.r0, .int .i64 n.r1, .int .i64 n.r2]) ∧ SvD w.heap.size w'.heap.size w' (.slice (some ⟨gd, 0, none⟩) L.F.length L.F.length) (.slice (some ⟨gv, 0, none⟩) L.P.length L.P.length) (.slice b3 L.I.length e3) (.slice (some ⟨ga, 0, none⟩) L.U.length L.U.length) L ∧ Below w.heap.size w w'

set_option maxRecDepth 100000 in
set_option maxHeartbeats 4000000 in
theorem toServer_any (n : Sn) (vd vv vt va : Value) (L : Sr) (w : World) (hM : SvS w vd vv vt va L) :
    Calls Tryz.prog 10 #[.agg #[.int .i64 n.a, .int .i64 n.k, .bool n.u, vd, .int .i64 n.e, vv, vt, va, .int .i64 n.r0, .int .i64 n.r1, .int .i64 n.r2]] w (ToSv n L w) := by
  have H1 : Hid (∀ W, Below w.heap.size w W → Calls Tryz.prog 15 #[.agg #[vd]] W fun e w' => ∃ g, e = .returned (.agg #[.slice (some ⟨g, 0, none⟩) L.F.length L.F.length]) ∧ RW 3 fcs w' (.slice (some ⟨g, 0, none⟩) L.F.length L.F.length) g L.F ∧ W.heap.size ≤ g ∧ (0 < L.F.length → g < w'.heap.size) ∧ Below W.heap.size W w') := fun W hW => by
    obtain ⟨⟨g1, o1, h1⟩, _⟩ := hM.later hW
    exact toDisk_some vd g1 o1 L.F W h1
  have H2 : Hid (∀ W, Below w.heap.size w W → Calls Tryz.prog 39 #[vv] W fun e w' => ∃ go G, e = .returned (.slice (some ⟨go, 0, none⟩) L.P.length L.P.length) ∧ XW W.heap.size w' go G L.P ∧ Below W.heap.size W w') := fun W hW => by
    obtain ⟨_, ⟨g1, o1, h1⟩, _⟩ := hM.later hW
    exact toLeafSS_any vv g1 o1 L.P W h1
  have H3 : Hid (∀ W, Below w.heap.size w W → Calls Tryz.prog 29 #[vt] W fun e w' => ∃ a c g, e = .returned (.slice a L.I.length c) ∧ IW w' (.slice a L.I.length c) g L.I ∧ W.heap.size ≤ g ∧ Below W.heap.size W w') := fun W hW => by
    obtain ⟨_, _, ⟨g1, o1, h1⟩, _⟩ := hM.later hW
    refine (toIntS_any vt g1 o1 L.I W h1).mono ?_
    rintro e w' ⟨s, g, rfl, hi, hg, hb⟩
    obtain ⟨a, c, rfl, _⟩ := id hi
    exact ⟨a, c, g, rfl, hi, hg, hb⟩
  have H4 : Hid (∀ W, Below w.heap.size w W → Calls Tryz.prog 40 #[va] W fun e w' => ∃ g, e = .returned (.slice (some ⟨g, 0, none⟩) L.U.length L.U.length) ∧ W.heap.size ≤ g ∧ RW 3 ucs w' (.slice (some ⟨g, 0, none⟩) L.U.length L.U.length) g L.U ∧ g < w'.heap.size ∧ Below W.heap.size W w') := fun W hW => by
    obtain ⟨_, _, _, ⟨g1, o1, h1⟩⟩ := hM.later hW
    exact toChangeS_any va g1 o1 L.U W h1
  obtain ⟨Post, hPost⟩ : ∃ P, ToSv n L w = P := ⟨_, rfl⟩
  have HP : Hid (ToSv n L w = Post) := hPost
  rw [hPost]
  unfold ToSv at HP
  obtain ⟨a, k, u, e, r0, r1, r2⟩ := n
  simp only at HP ⊢
  have H5 : Hid (∀ W, Calls Tryz.prog 41 #[.agg #[.int .i64 r0, .int .i64 r1, .int .i64 r2]] W fun e w' => e = .returned (.agg #[.int .i64 r0, .int .i64 r1, .int .i64 r2]) ∧ Below W.heap.size W w') := fun W => toReady_any r0 r1 r2 W
  obtain ⟨⟨ad, cd, rfl⟩, ⟨av, cv, rfl⟩, ⟨at2, ct, rfl⟩, ⟨aa, ca, rfl⟩⟩ := hM.shapes
  clear hM hPost
  have HX : Hid (∀ W, W = (((w.alloc (.cells #[.int .i64 a, .int .i64 k, .bool u, .slice ad L.F.length cd, .int .i64 e, .slice av L.P.length cv, .slice at2 L.I.length ct, .slice aa L.U.length ca, .int .i64 r0, .int .i64 r1, .int .i64 r2] 31)).alloc (.cells #[.int .i64 0, .int .i64 0, .bool false, .slice none 0 0, .int .i64 0, .slice none 0 0, .slice none 0 0, .slice none 0 0, .int .i64 0, .int .i64 0, .int .i64 0] 41)).alloc (.cells #[.int .i64 a, .int .i64 k, .bool u, .slice none 0 0, .int .i64 0, .slice none 0 0, .slice none 0 0, .slice none 0 0, .int .i64 0, .int .i64 0, .int .i64 0] 41)) → Below w.heap.size w W ∧ Box 41 W (w.heap.size + 1) [.int .i64 0, .int .i64 0, .bool false, .slice none 0 0, .int .i64 0, .slice none 0 0, .slice none 0 0, .slice none 0 0, .int .i64 0, .int .i64 0, .int .i64 0] ∧ Box 41 W (w.heap.size + 1 + 1) [.int .i64 a, .int .i64 k, .bool u, .slice none 0 0, .int .i64 0, .slice none 0 0, .slice none 0 0, .slice none 0 0, .int .i64 0, .int .i64 0, .int .i64 0] ∧ Box 31 W w.heap.size [.int .i64 a, .int .i64 k, .bool u, .slice ad L.F.length cd, .int .i64 e, .slice av L.P.length cv, .slice at2 L.I.length ct, .slice aa L.U.length ca, .int .i64 r0, .int .i64 r1, .int .i64 r2] ∧ w.heap.size + 3 ≤ W.heap.size) := fun W hW => by
    subst hW
    refine ⟨((below_alloc _ _).alloc (by simp) _).alloc (by simp; omega) _, ?_, alloc_fst _ _ (by simp), ((Box.new _ w _).later (below_alloc _ _)).later (below_alloc _ _), by simp⟩
    have h2 : ∀ (o : Obj) (cs : List Value), Box 41 ((w.alloc o).alloc (.cells cs.toArray 41)) (w.heap.size + 1) cs := fun o cs => alloc_fst _ _ (by simp)
    exact (h2 _ _).later (below_alloc _ _)
  obtain ⟨nd, hnd⟩ : ∃ nd, L.F.length = nd := ⟨_, rfl⟩
  obtain ⟨nv, hnv⟩ : ∃ nv, L.P.length = nv := ⟨_, rfl⟩
  obtain ⟨nt, hnt⟩ : ∃ nt, L.I.length = nt := ⟨_, rfl⟩
  obtain ⟨na, hna⟩ : ∃ na, L.U.length = na := ⟨_, rfl⟩
  have HN : Hid (L.F.length = nd ∧ L.P.length = nv ∧ L.I.length = nt ∧ L.U.length = na) := ⟨hnd, hnv, hnt, hna⟩
  rw [hnd] at H1 HX ⊢
  rw [hnv] at H2 HX ⊢
  rw [hnt] at H3 HX ⊢
  rw [hna] at H4 HX ⊢
  clear hnd hnv hnt hna
  have hne0 : w.heap.size ≠ w.heap.size + 1 + 1 := by omega
  go_enter Tryz.func10, Tryz.ntmps10
  go_wp2_with fail
  generalize hW0 : (((w.alloc (.cells #[.int .i64 a, .int .i64 k, .bool u, .slice ad nd cd, .int .i64 e, .slice av nv cv, .slice at2 nt ct, .slice aa na ca, .int .i64 r0, .int .i64 r1, .int .i64 r2] 31)).alloc (.cells #[.int .i64 0, .int .i64 0, .bool false, .slice none 0 0, .int .i64 0, .slice none 0 0, .slice none 0 0, .slice none 0 0, .int .i64 0, .int .i64 0, .int .i64 0] 41)).alloc (.cells #[.int .i64 a, .int .i64 k, .bool u, .slice none 0 0, .int .i64 0, .slice none 0 0, .slice none 0 0, .slice none 0 0, .int .i64 0, .int .i64 0, .int .i64 0] 41)) = W0
  have HX0 : Hid (Below w.heap.size w W0 ∧ Box 41 W0 (w.heap.size + 1) [.int .i64 0, .int .i64 0, .bool false, .slice none 0 0, .int .i64 0, .slice none 0 0, .slice none 0 0, .slice none 0 0, .int .i64 0, .int .i64 0, .int .i64 0] ∧ Box 41 W0 (w.heap.size + 1 + 1) [.int .i64 a, .int .i64 k, .bool u, .slice none 0 0, .int .i64 0, .slice none 0 0, .slice none 0 0, .slice none 0 0, .int .i64 0, .int .i64 0, .int .i64 0] ∧ Box 31 W0 w.heap.size [.int .i64 a, .int .i64 k, .bool u, .slice ad nd cd, .int .i64 e, .slice av nv cv, .slice at2 nt ct, .slice aa na ca, .int .i64 r0, .int .i64 r1, .int .i64 r2] ∧ w.heap.size + 3 ≤ W0.heap.size) := HX.out W0 hW0.symm
  clear HX hW0
  refine (H1.out _ HX0.out.1).mono ?_
  rintro e1 w1 ⟨gd, rfl, hr1, hg1, hl1, hb1⟩
  obtain ⟨b1, hb1e⟩ : ∃ b1, w1.heap.size = b1 := ⟨_, rfl⟩
  have HX1 : Hid (Below w.heap.size w w1 ∧ Box 41 w1 (w.heap.size + 1) [.int .i64 0, .int .i64 0, .bool false, .slice none 0 0, .int .i64 0, .slice none 0 0, .slice none 0 0, .slice none 0 0, .int .i64 0, .int .i64 0, .int .i64 0] ∧ Box 41 w1 (w.heap.size + 1 + 1) [.int .i64 a, .int .i64 k, .bool u, .slice none 0 0, .int .i64 0, .slice none 0 0, .slice none 0 0, .slice none 0 0, .int .i64 0, .int .i64 0, .int .i64 0] ∧ Box 31 w1 w.heap.size [.int .i64 a, .int .i64 k, .bool u, .slice ad nd cd, .int .i64 e, .slice av nv cv, .slice at2 nt ct, .slice aa na ca, .int .i64 r0, .int .i64 r1, .int .i64 r2] ∧ w.heap.size + 3 ≤ w1.heap.size ∧ b1 ≤ w1.heap.size ∧ w.heap.size + 3 ≤ b1 ∧ RW 3 fcs w1 (.slice (some ⟨gd, 0, none⟩) nd nd) gd L.F ∧ w.heap.size + 3 ≤ gd ∧ (0 < L.F.length → gd < b1)) := by
    obtain ⟨k1, k2, k3, k4, k5⟩ := HX0.out
    rw [hb1e] at hl1
    have := hb1.size
    exact ⟨k1.trans (hb1.mono k1.size), k2.later hb1, k3.later hb1, k4.later hb1, by omega, by omega, by omega, hr1, by omega, by rw [HN.out.1]; exact hl1⟩
  clear hr1 hg1 hl1 hb1 hb1e HX0 H1
  have q3 := HX1.out.2.2.1.at 3 _ rfl
  have j3 := HX1.out.2.2.1.fz 3
  have q4 := HX1.out.2.2.1.at 4 _ rfl
  have j4 := HX1.out.2.2.1.fz 4
  have z4 := HX1.out.2.2.2.1.at 4 _ rfl
  have z5 := HX1.out.2.2.2.1.at 5 _ rfl
  have HY1 : Hid (∀ W, W = ((w1.setCell ⟨w.heap.size + 1 + 1, 3, none⟩ (.slice (some ⟨gd, 0, none⟩) nd nd)).setCell ⟨w.heap.size + 1 + 1, 4, none⟩ (.int .i64 e)) → Below w.heap.size w W ∧ Box 41 W (w.heap.size + 1) [.int .i64 0, .int .i64 0, .bool false, .slice none 0 0, .int .i64 0, .slice none 0 0, .slice none 0 0, .slice none 0 0, .int .i64 0, .int .i64 0, .int .i64 0] ∧ Box 41 W (w.heap.size + 1 + 1) [.int .i64 a, .int .i64 k, .bool u, .slice (some ⟨gd, 0, none⟩) nd nd, .int .i64 e, .slice none 0 0, .slice none 0 0, .slice none 0 0, .int .i64 0, .int .i64 0, .int .i64 0] ∧ Box 31 W w.heap.size [.int .i64 a, .int .i64 k, .bool u, .slice ad nd cd, .int .i64 e, .slice av nv cv, .slice at2 nt ct, .slice aa na ca, .int .i64 r0, .int .i64 r1, .int .i64 r2] ∧ w.heap.size + 3 ≤ W.heap.size ∧ b1 ≤ W.heap.size ∧ w.heap.size + 3 ≤ b1 ∧ RW 3 fcs W (.slice (some ⟨gd, 0, none⟩) nd nd) gd L.F ∧ w.heap.size + 3 ≤ gd ∧ (0 < L.F.length → gd < b1)) := fun W hW => by
    subst hW
    have hg := ((grown_setC w1 (w.heap.size + 1 + 1) 3 (.slice (some ⟨gd, 0, none⟩) nd nd)).trans (grown_setC (w1.setCell ⟨w.heap.size + 1 + 1, 3, none⟩ (.slice (some ⟨gd, 0, none⟩) nd nd)) (w.heap.size + 1 + 1) 4 (.int .i64 e)))
    obtain ⟨k1, k2, k3, k4, k5, d1, d2, m1, m2, m3⟩ := HX1.out
    have hsz := hg.size
    exact ⟨k1.grown hg k1.size (fun k hk => by simp at hk; omega), k2.grown hg (by simp), ((k3.set 3 _).set 4 _), k4.grown hg (by simp; omega), by omega, by omega, d2, m1.grown hg (fun _ => by simp; omega), m2, m3⟩
  go_wp2_with fail
  generalize hW1 : ((w1.setCell ⟨w.heap.size + 1 + 1, 3, none⟩ (.slice (some ⟨gd, 0, none⟩) nd nd)).setCell ⟨w.heap.size + 1 + 1, 4, none⟩ (.int .i64 e)) = W1
  have HZ1 : Hid (Below w.heap.size w W1 ∧ Box 41 W1 (w.heap.size + 1) [.int .i64 0, .int .i64 0, .bool false, .slice none 0 0, .int .i64 0, .slice none 0 0, .slice none 0 0, .slice none 0 0, .int .i64 0, .int .i64 0, .int .i64 0] ∧ Box 41 W1 (w.heap.size + 1 + 1) [.int .i64 a, .int .i64 k, .bool u, .slice (some ⟨gd, 0, none⟩) nd nd, .int .i64 e, .slice none 0 0, .slice none 0 0, .slice none 0 0, .int .i64 0, .int .i64 0, .int .i64 0] ∧ Box 31 W1 w.heap.size [.int .i64 a, .int .i64 k, .bool u, .slice ad nd cd, .int .i64 e, .slice av nv cv, .slice at2 nt ct, .slice aa na ca, .int .i64 r0, .int .i64 r1, .int .i64 r2] ∧ w.heap.size + 3 ≤ W1.heap.size ∧ b1 ≤ W1.heap.size ∧ w.heap.size + 3 ≤ b1 ∧ RW 3 fcs W1 (.slice (some ⟨gd, 0, none⟩) nd nd) gd L.F ∧ w.heap.size + 3 ≤ gd ∧ (0 < L.F.length → gd < b1)) := HY1.out W1 hW1.symm
  clear HY1 hW1 HX1 q3 j3 q4 j4 z4 z5
  refine (H2.out _ HZ1.out.1).mono ?_
  rintro e2 w2 ⟨gv, G, rfl, hx2, hb2⟩
  obtain ⟨b2, hb2e⟩ : ∃ b2, w2.heap.size = b2 := ⟨_, rfl⟩
  have HX2 : Hid (Below w.heap.size w w2 ∧ Box 41 w2 (w.heap.size + 1) [.int .i64 0, .int .i64 0, .bool false, .slice none 0 0, .int .i64 0, .slice none 0 0, .slice none 0 0, .slice none 0 0, .int .i64 0, .int .i64 0, .int .i64 0] ∧ Box 41 w2 (w.heap.size + 1 + 1) [.int .i64 a, .int .i64 k, .bool u, .slice (some ⟨gd, 0, none⟩) nd nd, .int .i64 e, .slice none 0 0, .slice none 0 0, .slice none 0 0, .int .i64 0, .int .i64 0, .int .i64 0] ∧ Box 31 w2 w.heap.size [.int .i64 a, .int .i64 k, .bool u, .slice ad nd cd, .int .i64 e, .slice av nv cv, .slice at2 nt ct, .slice aa na ca, .int .i64 r0, .int .i64 r1, .int .i64 r2] ∧ w.heap.size + 3 ≤ w2.heap.size ∧ b1 ≤ b2 ∧ b2 ≤ w2.heap.size ∧ w.heap.size + 3 ≤ b1 ∧ RW 3 fcs w2 (.slice (some ⟨gd, 0, none⟩) nd nd) gd L.F ∧ w.heap.size + 3 ≤ gd ∧ (0 < L.F.length → gd < b1) ∧ XW b1 w2 gv G L.P ∧ gv < b2 ∧ (∀ b ∈ G, b < b2)) := by
    obtain ⟨k1, k2, k3, k4, k5, d1, d2, m1, m2, m3⟩ := HZ1.out
    have hsz := hb2.size
    obtain ⟨t1, t2, t3, t4, t5, t6, t7⟩ := id hx2
    exact ⟨k1.trans (hb2.mono k1.size), k2.later hb2, k3.later hb2, k4.later hb2, by omega, by omega, by omega, d2, m1.later hb2, m2, m3, ⟨t1, t2, by omega, t4, t5, fun b hb => ⟨by have := (t6 b hb).1; omega, (t6 b hb).2⟩, t7⟩, by omega, fun b hb => by have := (t6 b hb).2.1; omega⟩
  clear hx2 hb2 hb2e HZ1 H2
  have q5 := HX2.out.2.2.1.at 5 _ rfl
  have j5 := HX2.out.2.2.1.fz 5
  have z6 := HX2.out.2.2.2.1.at 6 _ rfl
  have HY2 : Hid (∀ W, W = (w2.setCell ⟨w.heap.size + 1 + 1, 5, none⟩ (.slice (some ⟨gv, 0, none⟩) nv nv)) → Below w.heap.size w W ∧ Box 41 W (w.heap.size + 1) [.int .i64 0, .int .i64 0, .bool false, .slice none 0 0, .int .i64 0, .slice none 0 0, .slice none 0 0, .slice none 0 0, .int .i64 0, .int .i64 0, .int .i64 0] ∧ Box 41 W (w.heap.size + 1 + 1) [.int .i64 a, .int .i64 k, .bool u, .slice (some ⟨gd, 0, none⟩) nd nd, .int .i64 e, .slice (some ⟨gv, 0, none⟩) nv nv, .slice none 0 0, .slice none 0 0, .int .i64 0, .int .i64 0, .int .i64 0] ∧ Box 31 W w.heap.size [.int .i64 a, .int .i64 k, .bool u, .slice ad nd cd, .int .i64 e, .slice av nv cv, .slice at2 nt ct, .slice aa na ca, .int .i64 r0, .int .i64 r1, .int .i64 r2] ∧ w.heap.size + 3 ≤ W.heap.size ∧ b1 ≤ b2 ∧ b2 ≤ W.heap.size ∧ w.heap.size + 3 ≤ b1 ∧ RW 3 fcs W (.slice (some ⟨gd, 0, none⟩) nd nd) gd L.F ∧ w.heap.size + 3 ≤ gd ∧ (0 < L.F.length → gd < b1) ∧ XW b1 W gv G L.P ∧ gv < b2 ∧ (∀ b ∈ G, b < b2)) := fun W hW => by
    subst hW
    have hg := (grown_setC w2 (w.heap.size + 1 + 1) 5 (.slice (some ⟨gv, 0, none⟩) nv nv))
    obtain ⟨k1, k2, k3, k4, k5, d0, d1, d2, m1, m2, m3, m4, m5, m6⟩ := HX2.out
    have hsz := hg.size
    exact ⟨k1.grown hg k1.size (fun k hk => by simp at hk; omega), k2.grown hg (by simp), (k3.set 5 _), k4.grown hg (by simp; omega), by omega, by omega, by omega, d2, m1.grown hg (fun _ => by simp; omega), m2, m3, m4.kept hg (by omega), m5, m6⟩
  go_wp2_with fail
  generalize hW2 : (w2.setCell ⟨w.heap.size + 1 + 1, 5, none⟩ (.slice (some ⟨gv, 0, none⟩) nv nv)) = W2
  have HZ2 : Hid (Below w.heap.size w W2 ∧ Box 41 W2 (w.heap.size + 1) [.int .i64 0, .int .i64 0, .bool false, .slice none 0 0, .int .i64 0, .slice none 0 0, .slice none 0 0, .slice none 0 0, .int .i64 0, .int .i64 0, .int .i64 0] ∧ Box 41 W2 (w.heap.size + 1 + 1) [.int .i64 a, .int .i64 k, .bool u, .slice (some ⟨gd, 0, none⟩) nd nd, .int .i64 e, .slice (some ⟨gv, 0, none⟩) nv nv, .slice none 0 0, .slice none 0 0, .int .i64 0, .int .i64 0, .int .i64 0] ∧ Box 31 W2 w.heap.size [.int .i64 a, .int .i64 k, .bool u, .slice ad nd cd, .int .i64 e, .slice av nv cv, .slice at2 nt ct, .slice aa na ca, .int .i64 r0, .int .i64 r1, .int .i64 r2] ∧ w.heap.size + 3 ≤ W2.heap.size ∧ b1 ≤ b2 ∧ b2 ≤ W2.heap.size ∧ w.heap.size + 3 ≤ b1 ∧ RW 3 fcs W2 (.slice (some ⟨gd, 0, none⟩) nd nd) gd L.F ∧ w.heap.size + 3 ≤ gd ∧ (0 < L.F.length → gd < b1) ∧ XW b1 W2 gv G L.P ∧ gv < b2 ∧ (∀ b ∈ G, b < b2)) := HY2.out W2 hW2.symm
  clear HY2 hW2 HX2 q5 j5 z6
  refine (H3.out _ HZ2.out.1).mono ?_
  rintro e3_ w3 ⟨b3, e3, g3, rfl, hx3, hg3, hb3⟩
  obtain ⟨b3', hb3e⟩ : ∃ b3', w3.heap.size = b3' := ⟨_, rfl⟩
  have HX3 : Hid (Below w.heap.size w w3 ∧ Box 41 w3 (w.heap.size + 1) [.int .i64 0, .int .i64 0, .bool false, .slice none 0 0, .int .i64 0, .slice none 0 0, .slice none 0 0, .slice none 0 0, .int .i64 0, .int .i64 0, .int .i64 0] ∧ Box 41 w3 (w.heap.size + 1 + 1) [.int .i64 a, .int .i64 k, .bool u, .slice (some ⟨gd, 0, none⟩) nd nd, .int .i64 e, .slice (some ⟨gv, 0, none⟩) nv nv, .slice none 0 0, .slice none 0 0, .int .i64 0, .int .i64 0, .int .i64 0] ∧ Box 31 w3 w.heap.size [.int .i64 a, .int .i64 k, .bool u, .slice ad nd cd, .int .i64 e, .slice av nv cv, .slice at2 nt ct, .slice aa na ca, .int .i64 r0, .int .i64 r1, .int .i64 r2] ∧ w.heap.size + 3 ≤ w3.heap.size ∧ b1 ≤ b2 ∧ b2 ≤ b3' ∧ b3' ≤ w3.heap.size ∧ w.heap.size + 3 ≤ b1 ∧ RW 3 fcs w3 (.slice (some ⟨gd, 0, none⟩) nd nd) gd L.F ∧ w.heap.size + 3 ≤ gd ∧ (0 < L.F.length → gd < b1) ∧ XW b1 w3 gv G L.P ∧ gv < b2 ∧ (∀ b ∈ G, b < b2) ∧ IW w3 (.slice b3 nt e3) g3 L.I ∧ b2 ≤ g3 ∧ (0 < L.I.length → g3 < b3')) := by
    obtain ⟨k1, k2, k3, k4, k5, d0, d1, d2, m1, m2, m3, m4, m5, m6⟩ := HZ2.out
    have hsz := hb3.size
    have hlt := hx3.lt
    exact ⟨k1.trans (hb3.mono k1.size), k2.later hb3, k3.later hb3, k4.later hb3, by omega, by omega, by omega, by omega, d2, m1.later hb3, m2, m3, m4.later hb3, m5, m6, hx3, by omega, fun h => by have := hlt h; omega⟩
  clear hx3 hg3 hb3 hb3e HZ2 H3
  have q6 := HX3.out.2.2.1.at 6 _ rfl
  have j6 := HX3.out.2.2.1.fz 6
  have z7 := HX3.out.2.2.2.1.at 7 _ rfl
  have HY3 : Hid (∀ W, W = (w3.setCell ⟨w.heap.size + 1 + 1, 6, none⟩ (.slice b3 nt e3)) → Below w.heap.size w W ∧ Box 41 W (w.heap.size + 1) [.int .i64 0, .int .i64 0, .bool false, .slice none 0 0, .int .i64 0, .slice none 0 0, .slice none 0 0, .slice none 0 0, .int .i64 0, .int .i64 0, .int .i64 0] ∧ Box 41 W (w.heap.size + 1 + 1) [.int .i64 a, .int .i64 k, .bool u, .slice (some ⟨gd, 0, none⟩) nd nd, .int .i64 e, .slice (some ⟨gv, 0, none⟩) nv nv, .slice b3 nt e3, .slice none 0 0, .int .i64 0, .int .i64 0, .int .i64 0] ∧ Box 31 W w.heap.size [.int .i64 a, .int .i64 k, .bool u, .slice ad nd cd, .int .i64 e, .slice av nv cv, .slice at2 nt ct, .slice aa na ca, .int .i64 r0, .int .i64 r1, .int .i64 r2] ∧ w.heap.size + 3 ≤ W.heap.size ∧ b1 ≤ b2 ∧ b2 ≤ b3' ∧ b3' ≤ W.heap.size ∧ w.heap.size + 3 ≤ b1 ∧ RW 3 fcs W (.slice (some ⟨gd, 0, none⟩) nd nd) gd L.F ∧ w.heap.size + 3 ≤ gd ∧ (0 < L.F.length → gd < b1) ∧ XW b1 W gv G L.P ∧ gv < b2 ∧ (∀ b ∈ G, b < b2) ∧ IW W (.slice b3 nt e3) g3 L.I ∧ b2 ≤ g3 ∧ (0 < L.I.length → g3 < b3')) := fun W hW => by
    subst hW
    have hg := (grown_setC w3 (w.heap.size + 1 + 1) 6 (.slice b3 nt e3))
    obtain ⟨k1, k2, k3, k4, k5, d0, d1, d3, d2, m1, m2, m3, m4, m5, m6, m7, m8, m9⟩ := HX3.out
    have hsz := hg.size
    exact ⟨k1.grown hg k1.size (fun k hk => by simp at hk; omega), k2.grown hg (by simp), (k3.set 6 _), k4.grown hg (by simp; omega), by omega, by omega, by omega, by omega, d2, m1.grown hg (fun _ => by simp; omega), m2, m3, m4.kept hg (by omega), m5, m6, m7.grown hg (fun _ => by simp; omega), m8, m9⟩
  go_wp2_with fail
  generalize hW3 : (w3.setCell ⟨w.heap.size + 1 + 1, 6, none⟩ (.slice b3 nt e3)) = W3
  have HZ3 : Hid (Below w.heap.size w W3 ∧ Box 41 W3 (w.heap.size + 1) [.int .i64 0, .int .i64 0, .bool false, .slice none 0 0, .int .i64 0, .slice none 0 0, .slice none 0 0, .slice none 0 0, .int .i64 0, .int .i64 0, .int .i64 0] ∧ Box 41 W3 (w.heap.size + 1 + 1) [.int .i64 a, .int .i64 k, .bool u, .slice (some ⟨gd, 0, none⟩) nd nd, .int .i64 e, .slice (some ⟨gv, 0, none⟩) nv nv, .slice b3 nt e3, .slice none 0 0, .int .i64 0, .int .i64 0, .int .i64 0] ∧ Box 31 W3 w.heap.size [.int .i64 a, .int .i64 k, .bool u, .slice ad nd cd, .int .i64 e, .slice av nv cv, .slice at2 nt ct, .slice aa na ca, .int .i64 r0, .int .i64 r1, .int .i64 r2] ∧ w.heap.size + 3 ≤ W3.heap.size ∧ b1 ≤ b2 ∧ b2 ≤ b3' ∧ b3' ≤ W3.heap.size ∧ w.heap.size + 3 ≤ b1 ∧ RW 3 fcs W3 (.slice (some ⟨gd, 0, none⟩) nd nd) gd L.F ∧ w.heap.size + 3 ≤ gd ∧ (0 < L.F.length → gd < b1) ∧ XW b1 W3 gv G L.P ∧ gv < b2 ∧ (∀ b ∈ G, b < b2) ∧ IW W3 (.slice b3 nt e3) g3 L.I ∧ b2 ≤ g3 ∧ (0 < L.I.length → g3 < b3')) := HY3.out W3 hW3.symm
  clear HY3 hW3 HX3 q6 j6 z7
  refine (H4.out _ HZ3.out.1).mono ?_
  rintro e4 w4 ⟨ga, rfl, hg4, hx4, hl4, hb4⟩
  obtain ⟨b4, hb4e⟩ : ∃ b4, w4.heap.size = b4 := ⟨_, rfl⟩
  have HX4 : Hid (Below w.heap.size w w4 ∧ Box 41 w4 (w.heap.size + 1) [.int .i64 0, .int .i64 0, .bool false, .slice none 0 0, .int .i64 0, .slice none 0 0, .slice none 0 0, .slice none 0 0, .int .i64 0, .int .i64 0, .int .i64 0] ∧ Box 41 w4 (w.heap.size + 1 + 1) [.int .i64 a, .int .i64 k, .bool u, .slice (some ⟨gd, 0, none⟩) nd nd, .int .i64 e, .slice (some ⟨gv, 0, none⟩) nv nv, .slice b3 nt e3, .slice none 0 0, .int .i64 0, .int .i64 0, .int .i64 0] ∧ Box 31 w4 w.heap.size [.int .i64 a, .int .i64 k, .bool u, .slice ad nd cd, .int .i64 e, .slice av nv cv, .slice at2 nt ct, .slice aa na ca, .int .i64 r0, .int .i64 r1, .int .i64 r2] ∧ w.heap.size + 3 ≤ w4.heap.size ∧ b1 ≤ b2 ∧ b2 ≤ b3' ∧ b3' ≤ b4 ∧ b4 ≤ w4.heap.size ∧ w.heap.size + 3 ≤ b1 ∧ RW 3 fcs w4 (.slice (some ⟨gd, 0, none⟩) nd nd) gd L.F ∧ w.heap.size + 3 ≤ gd ∧ (0 < L.F.length → gd < b1) ∧ XW b1 w4 gv G L.P ∧ gv < b2 ∧ (∀ b ∈ G, b < b2) ∧ IW w4 (.slice b3 nt e3) g3 L.I ∧ b2 ≤ g3 ∧ (0 < L.I.length → g3 < b3') ∧ RW 3 ucs w4 (.slice (some ⟨ga, 0, none⟩) na na) ga L.U ∧ b3' ≤ ga ∧ ga < b4) := by
    obtain ⟨k1, k2, k3, k4, k5, d0, d1, d3, d2, m1, m2, m3, m4, m5, m6, m7, m8, m9⟩ := HZ3.out
    have hsz := hb4.size
    exact ⟨k1.trans (hb4.mono k1.size), k2.later hb4, k3.later hb4, k4.later hb4, by omega, by omega, by omega, by omega, by omega, d2, m1.later hb4, m2, m3, m4.later hb4, m5, m6, m7.later hb4, m8, m9, hx4, by omega, by omega⟩
  clear hx4 hg4 hl4 hb4 hb4e HZ3 H4
  have q7 := HX4.out.2.2.1.at 7 _ rfl
  have j7 := HX4.out.2.2.1.fz 7
  have z8 := HX4.out.2.2.2.1.at 8 _ rfl
  have z9 := HX4.out.2.2.2.1.at 9 _ rfl
  have z10 := HX4.out.2.2.2.1.at 10 _ rfl
  have HY4 : Hid (∀ W, W = (w4.setCell ⟨w.heap.size + 1 + 1, 7, none⟩ (.slice (some ⟨ga, 0, none⟩) na na)) → Below w.heap.size w W ∧ Box 41 W (w.heap.size + 1) [.int .i64 0, .int .i64 0, .bool false, .slice none 0 0, .int .i64 0, .slice none 0 0, .slice none 0 0, .slice none 0 0, .int .i64 0, .int .i64 0, .int .i64 0] ∧ Box 41 W (w.heap.size + 1 + 1) [.int .i64 a, .int .i64 k, .bool u, .slice (some ⟨gd, 0, none⟩) nd nd, .int .i64 e, .slice (some ⟨gv, 0, none⟩) nv nv, .slice b3 nt e3, .slice (some ⟨ga, 0, none⟩) na na, .int .i64 0, .int .i64 0, .int .i64 0] ∧ Box 31 W w.heap.size [.int .i64 a, .int .i64 k, .bool u, .slice ad nd cd, .int .i64 e, .slice av nv cv, .slice at2 nt ct, .slice aa na ca, .int .i64 r0, .int .i64 r1, .int .i64 r2] ∧ w.heap.size + 3 ≤ W.heap.size ∧ b1 ≤ b2 ∧ b2 ≤ b3' ∧ b3' ≤ b4 ∧ b4 ≤ W.heap.size ∧ w.heap.size + 3 ≤ b1 ∧ RW 3 fcs W (.slice (some ⟨gd, 0, none⟩) nd nd) gd L.F ∧ w.heap.size + 3 ≤ gd ∧ (0 < L.F.length → gd < b1) ∧ XW b1 W gv G L.P ∧ gv < b2 ∧ (∀ b ∈ G, b < b2) ∧ IW W (.slice b3 nt e3) g3 L.I ∧ b2 ≤ g3 ∧ (0 < L.I.length → g3 < b3') ∧ RW 3 ucs W (.slice (some ⟨ga, 0, none⟩) na na) ga L.U ∧ b3' ≤ ga ∧ ga < b4) := fun W hW => by
    subst hW
    have hg := (grown_setC w4 (w.heap.size + 1 + 1) 7 (.slice (some ⟨ga, 0, none⟩) na na))
    obtain ⟨k1, k2, k3, k4, k5, d0, d1, d3, d4, d2, m1, m2, m3, m4, m5, m6, m7, m8, m9, m10, m11, m12⟩ := HX4.out
    have hsz := hg.size
    exact ⟨k1.grown hg k1.size (fun k hk => by simp at hk; omega), k2.grown hg (by simp), (k3.set 7 _), k4.grown hg (by simp; omega), by omega, by omega, by omega, by omega, by omega, d2, m1.grown hg (fun _ => by simp; omega), m2, m3, m4.kept hg (by omega), m5, m6, m7.grown hg (fun _ => by simp; omega), m8, m9, m10.grown hg (fun _ => by simp; omega), m11, m12⟩
  go_wp2_with fail
  generalize hW4 : (w4.setCell ⟨w.heap.size + 1 + 1, 7, none⟩ (.slice (some ⟨ga, 0, none⟩) na na)) = W4
  have HZ4 : Hid (Below w.heap.size w W4 ∧ Box 41 W4 (w.heap.size + 1) [.int .i64 0, .int .i64 0, .bool false, .slice none 0 0, .int .i64 0, .slice none 0 0, .slice none 0 0, .slice none 0 0, .int .i64 0, .int .i64 0, .int .i64 0] ∧ Box 41 W4 (w.heap.size + 1 + 1) [.int .i64 a, .int .i64 k, .bool u, .slice (some ⟨gd, 0, none⟩) nd nd, .int .i64 e, .slice (some ⟨gv, 0, none⟩) nv nv, .slice b3 nt e3, .slice (some ⟨ga, 0, none⟩) na na, .int .i64 0, .int .i64 0, .int .i64 0] ∧ Box 31 W4 w.heap.size [.int .i64 a, .int .i64 k, .bool u, .slice ad nd cd, .int .i64 e, .slice av nv cv, .slice at2 nt ct, .slice aa na ca, .int .i64 r0, .int .i64 r1, .int .i64 r2] ∧ w.heap.size + 3 ≤ W4.heap.size ∧ b1 ≤ b2 ∧ b2 ≤ b3' ∧ b3' ≤ b4 ∧ b4 ≤ W4.heap.size ∧ w.heap.size + 3 ≤ b1 ∧ RW 3 fcs W4 (.slice (some ⟨gd, 0, none⟩) nd nd) gd L.F ∧ w.heap.size + 3 ≤ gd ∧ (0 < L.F.length → gd < b1) ∧ XW b1 W4 gv G L.P ∧ gv < b2 ∧ (∀ b ∈ G, b < b2) ∧ IW W4 (.slice b3 nt e3) g3 L.I ∧ b2 ≤ g3 ∧ (0 < L.I.length → g3 < b3') ∧ RW 3 ucs W4 (.slice (some ⟨ga, 0, none⟩) na na) ga L.U ∧ b3' ≤ ga ∧ ga < b4) := HY4.out W4 hW4.symm
  clear HY4 hW4 HX4 q7 j7 z8 z9 z10
  refine (H5.out _).mono ?_
  rintro e5 w5 ⟨rfl, hb5⟩
  have HX5 : Hid (Below w.heap.size w w5 ∧ Box 41 w5 (w.heap.size + 1) [.int .i64 0, .int .i64 0, .bool false, .slice none 0 0, .int .i64 0, .slice none 0 0, .slice none 0 0, .slice none 0 0, .int .i64 0, .int .i64 0, .int .i64 0] ∧ Box 41 w5 (w.heap.size + 1 + 1) [.int .i64 a, .int .i64 k, .bool u, .slice (some ⟨gd, 0, none⟩) nd nd, .int .i64 e, .slice (some ⟨gv, 0, none⟩) nv nv, .slice b3 nt e3, .slice (some ⟨ga, 0, none⟩) na na, .int .i64 0, .int .i64 0, .int .i64 0] ∧ Box 31 w5 w.heap.size [.int .i64 a, .int .i64 k, .bool u, .slice ad nd cd, .int .i64 e, .slice av nv cv, .slice at2 nt ct, .slice aa na ca, .int .i64 r0, .int .i64 r1, .int .i64 r2] ∧ w.heap.size + 3 ≤ w5.heap.size ∧ b1 ≤ b2 ∧ b2 ≤ b3' ∧ b3' ≤ b4 ∧ b4 ≤ w5.heap.size ∧ w.heap.size + 3 ≤ b1 ∧ RW 3 fcs w5 (.slice (some ⟨gd, 0, none⟩) nd nd) gd L.F ∧ w.heap.size + 3 ≤ gd ∧ (0 < L.F.length → gd < b1) ∧ XW b1 w5 gv G L.P ∧ gv < b2 ∧ (∀ b ∈ G, b < b2) ∧ IW w5 (.slice b3 nt e3) g3 L.I ∧ b2 ≤ g3 ∧ (0 < L.I.length → g3 < b3') ∧ RW 3 ucs w5 (.slice (some ⟨ga, 0, none⟩) na na) ga L.U ∧ b3' ≤ ga ∧ ga < b4) := by
    obtain ⟨k1, k2, k3, k4, k5, d0, d1, d3, d4, d2, m1, m2, m3, m4, m5, m6, m7, m8, m9, m10, m11, m12⟩ := HZ4.out
    have hsz := hb5.size
    exact ⟨k1.trans (hb5.mono k1.size), k2.later hb5, k3.later hb5, k4.later hb5, by omega, by omega, by omega, by omega, by omega, d2, m1.later hb5, m2, m3, m4.later hb5, m5, m6, m7.later hb5, m8, m9, m10.later hb5, m11, m12⟩
  clear hb5 HZ4 H5
  have q8 := HX5.out.2.2.1.at 8 _ rfl
  have j8 := HX5.out.2.2.1.fz 8
  have q9 := HX5.out.2.2.1.at 9 _ rfl
  have j9 := HX5.out.2.2.1.fz 9
  have q10 := HX5.out.2.2.1.at 10 _ rfl
  have j10 := HX5.out.2.2.1.fz 10
  have HY5 : Hid (∀ W, W = (((w5.setCell ⟨w.heap.size + 1 + 1, 8, none⟩ (.int .i64 r0)).setCell ⟨w.heap.size + 1 + 1, 9, none⟩ (.int .i64 r1)).setCell ⟨w.heap.size + 1 + 1, 10, none⟩ (.int .i64 r2)) → Below w.heap.size w W ∧ Box 41 W (w.heap.size + 1) [.int .i64 0, .int .i64 0, .bool false, .slice none 0 0, .int .i64 0, .slice none 0 0, .slice none 0 0, .slice none 0 0, .int .i64 0, .int .i64 0, .int .i64 0] ∧ Box 41 W (w.heap.size + 1 + 1) [.int .i64 a, .int .i64 k, .bool u, .slice (some ⟨gd, 0, none⟩) nd nd, .int .i64 e, .slice (some ⟨gv, 0, none⟩) nv nv, .slice b3 nt e3, .slice (some ⟨ga, 0, none⟩) na na, .int .i64 r0, .int .i64 r1, .int .i64 r2] ∧ Box 31 W w.heap.size [.int .i64 a, .int .i64 k, .bool u, .slice ad nd cd, .int .i64 e, .slice av nv cv, .slice at2 nt ct, .slice aa na ca, .int .i64 r0, .int .i64 r1, .int .i64 r2] ∧ w.heap.size + 3 ≤ W.heap.size ∧ b1 ≤ b2 ∧ b2 ≤ b3' ∧ b3' ≤ b4 ∧ b4 ≤ W.heap.size ∧ w.heap.size + 3 ≤ b1 ∧ RW 3 fcs W (.slice (some ⟨gd, 0, none⟩) nd nd) gd L.F ∧ w.heap.size + 3 ≤ gd ∧ (0 < L.F.length → gd < b1) ∧ XW b1 W gv G L.P ∧ gv < b2 ∧ (∀ b ∈ G, b < b2) ∧ IW W (.slice b3 nt e3) g3 L.I ∧ b2 ≤ g3 ∧ (0 < L.I.length → g3 < b3') ∧ RW 3 ucs W (.slice (some ⟨ga, 0, none⟩) na na) ga L.U ∧ b3' ≤ ga ∧ ga < b4) := fun W hW => by
    subst hW
    have hg := (((grown_setC w5 (w.heap.size + 1 + 1) 8 (.int .i64 r0)).trans (grown_setC (w5.setCell ⟨w.heap.size + 1 + 1, 8, none⟩ (.int .i64 r0)) (w.heap.size + 1 + 1) 9 (.int .i64 r1))).trans (grown_setC ((w5.setCell ⟨w.heap.size + 1 + 1, 8, none⟩ (.int .i64 r0)).setCell ⟨w.heap.size + 1 + 1, 9, none⟩ (.int .i64 r1)) (w.heap.size + 1 + 1) 10 (.int .i64 r2)))
    obtain ⟨k1, k2, k3, k4, k5, d0, d1, d3, d4, d2, m1, m2, m3, m4, m5, m6, m7, m8, m9, m10, m11, m12⟩ := HX5.out
    have hsz := hg.size
    exact ⟨k1.grown hg k1.size (fun k hk => by simp at hk; omega), k2.grown hg (by simp), (((k3.set 8 _).set 9 _).set 10 _), k4.grown hg (by simp; omega), by omega, by omega, by omega, by omega, by omega, d2, m1.grown hg (fun _ => by simp; omega), m2, m3, m4.kept hg (by omega), m5, m6, m7.grown hg (fun _ => by simp; omega), m8, m9, m10.grown hg (fun _ => by simp; omega), m11, m12⟩
  go_upto_region 11 with fail
  generalize hW5 : (((w5.setCell ⟨w.heap.size + 1 + 1, 8, none⟩ (.int .i64 r0)).setCell ⟨w.heap.size + 1 + 1, 9, none⟩ (.int .i64 r1)).setCell ⟨w.heap.size + 1 + 1, 10, none⟩ (.int .i64 r2)) = W5
  have HZ5 : Hid (Below w.heap.size w W5 ∧ Box 41 W5 (w.heap.size + 1) [.int .i64 0, .int .i64 0, .bool false, .slice none 0 0, .int .i64 0, .slice none 0 0, .slice none 0 0, .slice none 0 0, .int .i64 0, .int .i64 0, .int .i64 0] ∧ Box 41 W5 (w.heap.size + 1 + 1) [.int .i64 a, .int .i64 k, .bool u, .slice (some ⟨gd, 0, none⟩) nd nd, .int .i64 e, .slice (some ⟨gv, 0, none⟩) nv nv, .slice b3 nt e3, .slice (some ⟨ga, 0, none⟩) na na, .int .i64 r0, .int .i64 r1, .int .i64 r2] ∧ Box 31 W5 w.heap.size [.int .i64 a, .int .i64 k, .bool u, .slice ad nd cd, .int .i64 e, .slice av nv cv, .slice at2 nt ct, .slice aa na ca, .int .i64 r0, .int .i64 r1, .int .i64 r2] ∧ w.heap.size + 3 ≤ W5.heap.size ∧ b1 ≤ b2 ∧ b2 ≤ b3' ∧ b3' ≤ b4 ∧ b4 ≤ W5.heap.size ∧ w.heap.size + 3 ≤ b1 ∧ RW 3 fcs W5 (.slice (some ⟨gd, 0, none⟩) nd nd) gd L.F ∧ w.heap.size + 3 ≤ gd ∧ (0 < L.F.length → gd < b1) ∧ XW b1 W5 gv G L.P ∧ gv < b2 ∧ (∀ b ∈ G, b < b2) ∧ IW W5 (.slice b3 nt e3) g3 L.I ∧ b2 ≤ g3 ∧ (0 < L.I.length → g3 < b3') ∧ RW 3 ucs W5 (.slice (some ⟨ga, 0, none⟩) na na) ga L.U ∧ b3' ≤ ga ∧ ga < b4) := HY5.out W5 hW5.symm
  clear HY5 hW5 HX5 q8 j8 q9 j9 q10 j10 
  go_wp2_with (first | (refine wp_loadSrv rfl _ rfl (w.heap.size + 1 + 1) rfl HZ5.out.2.2.1 ?_) | (refine wp_storeSrv rfl _ _ rfl (w.heap.size + 1) _ _ _ _ _ _ _ _ _ _ _ HZ5.out.2.1 rfl rfl ⟨rfl, rfl, rfl, rfl, rfl, rfl, rfl, rfl, rfl, rfl, rfl⟩ ?_; intro hfin) | fail)
  refine ret_srv 2 (w.heap.size + 1) rfl rfl rfl hfin ?_
  rw [← HP.out]
  obtain ⟨k1, k2, k3, k4, k5, d0, d1, d3, d4, d2, m1, m2, m3, m4, m5, m6, m7, m8, m9, m10, m11, m12⟩ := HZ5.out
  have hgr := grown_setRowP W5 (w.heap.size + 1) #[.int .i64 a, .int .i64 k, .bool u, .slice (some ⟨gd, 0, none⟩) nd nd, .int .i64 e, .slice (some ⟨gv, 0, none⟩) nv nv, .slice b3 nt e3, .slice (some ⟨ga, 0, none⟩) na na, .int .i64 r0, .int .i64 r1, .int .i64 r2]
  obtain ⟨n1, n2, n3, n4⟩ := HN.out
  rw [n1, n2, n3, n4]
  have hx := (m4.kept hgr (by omega)).vw (c := nv) n2
  have hgG0 : ∀ j (h : j < L.P.length), b1 ≤ (fun j => G.getD j 0) j ∧ (fun j => G.getD j 0) j < b2 ∧ (fun j => G.getD j 0) j ≠ gv := fun j hj => by
    have hjG : j < G.length := by rw [m4.1]; exact hj
    have e : G.getD j 0 = G[j] := by simp [List.getD, List.getElem?_eq_getElem hjG]
    simp only [e]
    exact ⟨(m4.2.2.2.2.2.1 _ (List.getElem_mem hjG)).1, m6 _ (List.getElem_mem hjG), (m4.2.2.2.2.2.1 _ (List.getElem_mem hjG)).2.2⟩
  generalize (fun j => G.getD j 0) = gf at hx hgG0
  have hgG := hgG0
  have hb1v : b1 ≤ gv := m4.2.2.1
  have hszr := hgr.size
  refine ⟨gd, gv, b3, e3, ga, rfl, ⟨gd, gv, _, _, g3, ga, m1.grown hgr (fun _ => by simp; omega), hx, m7.grown hgr (fun _ => by simp; omega), m10.grown hgr (fun _ => by simp; omega), fun h => by have := m3 h; omega, fun _ => by omega, fun j hj _ => by have := hgG j hj; omega, fun h => by have := m9 h; omega, fun _ => by omega, fun h _ => by have := m3 h; omega, fun h j hj _ => by have := m3 h; have := hgG j hj; omega, fun h h2 => by have := m3 h; have := m9 h2; omega, fun h _ => by have := m3 h; omega, fun _ h => by have := m9 h; omega, fun _ _ => by omega, fun j hj _ h => by have := m9 h; have := hgG j hj; omega, fun j hj _ _ => by have := hgG j hj; omega, fun h _ => by have := m9 h; omega⟩, below_row k1 (by omega)⟩

end Go.Proofs.YtklpanjedolkdaaGreatDoor
/-
  What ShortText answers, the program's and the specification's: varL of the length, and the text.
-/
namespace Go.Proofs.YtklpanjedolkdaaGreatDoor
open Go.RowKit

theorem varA_size (n : Nat) : (⟨(M.varL n).toArray⟩ : ByteArray).size ≤ 10 := by
  have := M.varL_len n
  show (M.varL n).toArray.size ≤ 10
  simpa using this

theorem Short_yes (s : ByteArray) (w : World) (hs : s.size ≤ 20000) :
    Calls Tryz.prog 242 #[.string s] w fun e w' => e = .returned (.tuple #[.string (⟨(M.varL s.size).toArray⟩ ++ s), .bool true]) ∧ Below w.heap.size w w' := by
  have hz := varA_size s.size
  go_enter Tryz.func242, Tryz.ntmps242
  go_wp2_with fail
  refine (VarText_yes s.size _ (by omega)).mono ?_
  rintro e w' ⟨rfl, hb⟩
  go_wp2
  go_ret2
  exact ⟨rfl, hb⟩

theorem Short_no (s : ByteArray) (w : World) (hs : 20000 < s.size) (hm : s.size ≤ 1048576) :
    Calls Tryz.prog 242 #[.string s] w fun e w' => e = .returned (.tuple #[.string ⟨#[]⟩, .bool false]) ∧ Below w.heap.size w w' := by
  go_enter Tryz.func242, Tryz.ntmps242
  go_wp2
  go_ret2
  exact ⟨rfl, Below.refl _ _⟩

end Go.Proofs.YtklpanjedolkdaaGreatDoor
