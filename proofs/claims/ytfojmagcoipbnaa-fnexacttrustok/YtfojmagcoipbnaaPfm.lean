/-
  A proof in a box of its own: read, stored, answered.
-/
import Derived.Test.YtfojmagcoipbnaaTxt
import Derived.Test.YtfojmagcoipbnaaFw
import Derived.Laws.Rows
import Derived.Laws.Tables
namespace Go.Proofs.Ytfojmagcoipbnaa
open Go.RowKit Go.BigFrame Go.Sort
set_option linter.unusedVariables false
set_option linter.unusedSimpArgs false

theorem cell_up {w w' : World} {p : Addr} {v : Value} (h : w.cell? p = some v) (hb : Below w.heap.size w w') : w'.cell? p = some v := by
  have hlt : p.block < w.heap.size := by
    rcases Nat.lt_or_ge p.block w.heap.size with h5 | h5
    · exact h5
    · simp [World.cell?, Array.getElem?_eq_none h5] at h
  exact (hb.cell hlt).trans h
/-- block g is a proof with these fields -/
def PfM (w : World) (g : Nat) (v1 v2 : Value) : Prop := w.heap[g]? = some (.cells #[v1, v2] 31 (0, 0))
theorem PfM.lt {w : World} {g : Nat} {v1 v2 : Value} (h : PfM w g v1 v2) : g < w.heap.size := (Array.getElem?_eq_some_iff.1 h).1
theorem PfM.keep {w w' : World} {g : Nat} {v1 v2 : Value} (h : PfM w g v1 v2) (he : w'.heap[g]? = w.heap[g]?) : PfM w' g v1 v2 := by
  unfold PfM at *
  rw [he, h]
theorem PfM.later {w w' : World} {g : Nat} {v1 v2 : Value} (h : PfM w g v1 v2) (hb : Below w.heap.size w w') : PfM w' g v1 v2 := h.keep (hb.block g h.lt)
theorem PfM.new (w : World) (v1 v2 : Value) : PfM (w.alloc (.cells #[v1, v2] 31)) w.heap.size v1 v2 := Go.heap_alloc_new w _
theorem sizeP : (Try.prog.info? 31).map (·.size) = some 2 := by kernel_rfl
theorem load_pf {w : World} {g : Nat} {v1 v2 : Value} (hA : PfM w g v1 v2) : (loadVar 31 ⟨g, 0, none⟩).run Try.prog w = .ok (.agg #[v1, v2]) w :=
  run_loadVar_row (P := Try.prog) w g 31 31 _ (0, 0) _ hA Try.underlying31 rfl sizeP
theorem ret_pf2 {fn : Func} {Rp : Ending → World → Prop} {a : Act} {w : World} (c s g : Nat) (v1 v2 b : Value) (hres : fn.results = #[.cell c 31, .tmp s]) (hd : a.defers = []) (hp : a.tmps.getD c undef = .pointer (some ⟨g, 0, none⟩)) (hb : a.tmps.getD s undef = b)
    (hA : PfM w g v1 v2) (h : Rp (.returned (.tuple #[.agg #[v1, v2], b])) w) : bodyPost Try.prog fn Rp .ret a w := by
  have hr := load_pf hA
  refine bodyPost_ret (v := .tuple #[.agg #[v1, v2], b]) ?_ hd h
  have hp' : a.tmps[c]?.getD undef = .pointer (some ⟨g, 0, none⟩) := by simpa using hp
  have hb' : a.tmps[s]?.getD undef = b := by simpa using hb
  simp [results, hres, asAddr, hr, hp', hb']
section
variable {w : World} {ops : Array Oper} {rest : List Oper} {o : Oper} {a : Act} {Q : Exit → Act → World → Prop}
theorem wp_storePf (hgd : o.guard = none) (p v : Operand) (ho : o.op = .store 31 p v) (g : Nat) (v1 v2 u1 u2 : Value) (hA : PfM w g v1 v2) (hp : a.eval p = .pointer (some ⟨g, 0, none⟩)) (hv : a.eval v = .agg #[u1, u2])
    (h1 : u1.oneCell' = true) (h2 : u2.oneCell' = true)
    (h : PfM (w.setRow g #[u1, u2]) g u1 u2 → wpList Try.prog ops Q rest (a.put o.dst (.tuple #[])) (w.setRow g #[u1, u2])) : wpList Try.prog ops Q (o :: rest) a w := by
  refine wpList_plain hgd fun K hK => ?_
  have hr : (Instr.storeAt 31 (.pointer (some ⟨g, 0, none⟩)) (.agg #[u1, u2])).run Try.prog w = .ok () (w.setRow g #[u1, u2]) := by
    simp only [Instr.storeAt, Instr.sureAddr, Sem.run_bind, Sem.run_pure, Result.andThen]
    refine run_storeVar_row w g 31 31 _ _ hA sizeP rfl ?_
    simp [h1, h2]
  unfold Oper.wp
  simp [execOp, ho, hp, hv, hr, Result.andThen]
  exact hK _ _ (h (setRow_heap w g _ _ _ _ hA))
end
theorem grown_setRowP (w : World) (g : Nat) (R : Array Value) : w.grownBy (w.setRow g R) (some g) :=
  ⟨rfl, rfl, rfl, by simp [World.setRow], fun k _ hk => setRow_other w g k R (fun e => hk (by simp [e]))⟩
theorem below_row {B g : Nat} {w0 w : World} {R : Array Value} (h : Below B w0 w) (hg : B ≤ g) : Below B w0 (w.setRow g R) :=
  h.trans ⟨rfl, rfl, rfl, by simp [World.setRow], fun k hk => setRow_other w g k R (by omega)⟩
theorem size_setRowP (w : World) (g : Nat) (R : Array Value) : (w.setRow g R).heap.size = w.heap.size := by simp [World.setRow]
theorem PfM.c0 {w : World} {g : Nat} {v1 v2 : Value} (h : PfM w g v1 v2) : w.cell? ⟨g, 0, none⟩ = some v1 := by rw [cell_of_row w g 0 _ _ _ h]; rfl
theorem PfM.c1 {w : World} {g : Nat} {v1 v2 : Value} (h : PfM w g v1 v2) : w.cell? ⟨g, 1, none⟩ = some v2 := by rw [cell_of_row w g 1 _ _ _ h]; rfl
theorem PfM.fr {w : World} {g : Nat} {v1 v2 : Value} (h : PfM w g v1 v2) (j : Nat) : w.frozen? ⟨g, j, none⟩ = false := by simp [World.frozen?, show w.heap[g]? = _ from h]
theorem PfM.set0 {w : World} {g : Nat} {v1 v2 : Value} (h : PfM w g v1 v2) (u : Value) : PfM (w.setCell ⟨g, 0, none⟩ u) g u v2 := heap_setCell_same w g 0 _ _ _ h
theorem PfM.set1 {w : World} {g : Nat} {v1 v2 : Value} (h : PfM w g v1 v2) (u : Value) : PfM (w.setCell ⟨g, 1, none⟩ u) g v1 u := heap_setCell_same w g 1 _ _ _ h
theorem ret_pf1 {fn : Func} {Rp : Ending → World → Prop} {a : Act} {w : World} (c g : Nat) (v1 v2 : Value) (hres : fn.results = #[.cell c 31]) (hd : a.defers = []) (hp : a.tmps.getD c undef = .pointer (some ⟨g, 0, none⟩))
    (hA : PfM w g v1 v2) (h : Rp (.returned (.agg #[v1, v2])) w) : bodyPost Try.prog fn Rp .ret a w := by
  have hr := load_pf hA
  refine bodyPost_ret (v := .agg #[v1, v2]) ?_ hd h
  have hp' : a.tmps[c]?.getD undef = .pointer (some ⟨g, 0, none⟩) := by simpa using hp
  simp [results, hres, asAddr, hr, hp']
theorem wp_loadPf {w : World} {ops : Array Oper} {rest : List Oper} {o : Oper} {a : Act} {Q : Exit → Act → World → Prop} (hgd : o.guard = none) (p : Operand) (ho : o.op = .load 31 p) (g : Nat) (v1 v2 : Value) (hp : a.eval p = .pointer (some ⟨g, 0, none⟩)) (hA : PfM w g v1 v2)
    (h : wpList Try.prog ops Q rest (a.put o.dst (.agg #[v1, v2])) w) : wpList Try.prog ops Q (o :: rest) a w := by
  refine wpList_plain hgd fun K hK => ?_
  have hr : (Instr.loadAt 31 (.pointer (some ⟨g, 0, none⟩))).run Try.prog w = .ok (.agg #[v1, v2]) w := by
    simp only [Instr.loadAt, Instr.sureAddr, Sem.run_bind, Sem.run_pure, Result.andThen]
    exact load_pf hA
  unfold Oper.wp
  simp [execOp, ho, hp, hr, Result.andThen]
  exact hK _ _ h

end Go.Proofs.Ytfojmagcoipbnaa
