/-
  A signature as a struct: in a block of its own, its fields stored one by one, answered beside a flag.
-/
import Derived.Test.YteejjnpemaghcaaMk
import Derived.Laws.Rows
import Derived.Laws.Tables
namespace Go.Proofs.Yteejjnpemaghcaa
open Go.RowKit
set_option linter.unusedVariables false

/-- block g is a signature with these fields -/
def SgM (w : World) (g : Nat) (a : Int) (v1 v2 v3 : Value) : Prop := w.heap[g]? = some (.cells #[.int .i64 a, v1, v2, v3] 28 (0, 0))
theorem SgM.c0 {w : World} {g : Nat} {a : Int} {v1 v2 v3 : Value} (h : SgM w g a v1 v2 v3) : w.cell? ⟨g, 0, none⟩ = some (.int .i64 a) := by rw [cell_of_row w g 0 _ _ (0, 0) h]; rfl
theorem SgM.c1 {w : World} {g : Nat} {a : Int} {v1 v2 v3 : Value} (h : SgM w g a v1 v2 v3) : w.cell? ⟨g, 1, none⟩ = some v1 := by rw [cell_of_row w g 1 _ _ (0, 0) h]; rfl
theorem SgM.c2 {w : World} {g : Nat} {a : Int} {v1 v2 v3 : Value} (h : SgM w g a v1 v2 v3) : w.cell? ⟨g, 2, none⟩ = some v2 := by rw [cell_of_row w g 2 _ _ (0, 0) h]; rfl
theorem SgM.c3 {w : World} {g : Nat} {a : Int} {v1 v2 v3 : Value} (h : SgM w g a v1 v2 v3) : w.cell? ⟨g, 3, none⟩ = some v3 := by rw [cell_of_row w g 3 _ _ (0, 0) h]; rfl
theorem SgM.fr {w : World} {g : Nat} {a : Int} {v1 v2 v3 : Value} (h : SgM w g a v1 v2 v3) (j : Nat) : w.frozen? ⟨g, j, none⟩ = false := by
  simp [World.frozen?, show w.heap[g]? = some (.cells #[.int .i64 a, v1, v2, v3] 28 (0, 0)) from h]
theorem SgM.lt {w : World} {g : Nat} {a : Int} {v1 v2 v3 : Value} (h : SgM w g a v1 v2 v3) : g < w.heap.size := (Array.getElem?_eq_some_iff.1 h).1
theorem SgM.set1 {w : World} {g : Nat} {a : Int} {v1 v2 v3 : Value} (h : SgM w g a v1 v2 v3) (v : Value) : SgM (w.setCell ⟨g, 1, none⟩ v) g a v v2 v3 := by
  unfold SgM at *
  rw [heap_setCell_same w g 1 _ _ _ h]
  rfl
theorem SgM.set2 {w : World} {g : Nat} {a : Int} {v1 v2 v3 : Value} (h : SgM w g a v1 v2 v3) (v : Value) : SgM (w.setCell ⟨g, 2, none⟩ v) g a v1 v v3 := by
  unfold SgM at *
  rw [heap_setCell_same w g 2 _ _ _ h]
  rfl
theorem SgM.set3 {w : World} {g : Nat} {a : Int} {v1 v2 v3 : Value} (h : SgM w g a v1 v2 v3) (v : Value) : SgM (w.setCell ⟨g, 3, none⟩ v) g a v1 v2 v := by
  unfold SgM at *
  rw [heap_setCell_same w g 3 _ _ _ h]
  rfl
theorem SgM.keep {w w' : World} {g : Nat} {a : Int} {v1 v2 v3 : Value} (h : SgM w g a v1 v2 v3) (he : w'.heap[g]? = w.heap[g]?) : SgM w' g a v1 v2 v3 := by
  unfold SgM at *
  rw [he, h]
theorem SgM.later {w w' : World} {g : Nat} {a : Int} {v1 v2 v3 : Value} (h : SgM w g a v1 v2 v3) (hb : Below w.heap.size w w') : SgM w' g a v1 v2 v3 := h.keep (hb.block g h.lt)
theorem SgM.keptG {w w' : World} {g : Nat} {row : Option Nat} {a : Int} {v1 v2 v3 : Value} (h : SgM w g a v1 v2 v3) (hg : w.grownBy w' row) (hne : some g ≠ row) : SgM w' g a v1 v2 v3 := h.keep (hg.block g h.lt hne)
theorem SgM.new (w : World) (a : Int) (v1 v2 v3 : Value) : SgM (w.alloc (.cells #[.int .i64 a, v1, v2, v3] 28)) w.heap.size a v1 v2 v3 := Go.heap_alloc_new w _

theorem sizeS : (Try.prog.info? 28).map (·.size) = some 4 := by kernel_rfl
theorem load_sig {w : World} {g : Nat} {x : Int} {v1 v2 v3 : Value} (hA : SgM w g x v1 v2 v3) : (loadVar 28 ⟨g, 0, none⟩).run Try.prog w = .ok (.agg #[.int .i64 x, v1, v2, v3]) w :=
  run_loadVar_row (P := Try.prog) w g 28 28 _ (0, 0) _ hA Try.underlying28 rfl sizeS

/-- a signature and a flag, answered -/
theorem ret_sig2 {fn : Func} {Rp : Ending → World → Prop} {a : Act} {w : World} (c s g : Nat) (x : Int) (v1 v2 v3 b : Value) (hres : fn.results = #[.cell c 28, .tmp s]) (hd : a.defers = []) (hp : a.tmps.getD c undef = .pointer (some ⟨g, 0, none⟩)) (hb : a.tmps.getD s undef = b)
    (hA : SgM w g x v1 v2 v3) (h : Rp (.returned (.tuple #[.agg #[.int .i64 x, v1, v2, v3], b])) w) : bodyPost Try.prog fn Rp .ret a w := by
  have hr := load_sig hA
  refine bodyPost_ret (v := .tuple #[.agg #[.int .i64 x, v1, v2, v3], b]) ?_ hd h
  have hp' : a.tmps[c]?.getD undef = .pointer (some ⟨g, 0, none⟩) := by simpa using hp
  have hb' : a.tmps[s]?.getD undef = b := by simpa using hb
  simp [results, hres, asAddr, hr, hp', hb']

section
variable {w : World} {ops : Array Oper} {rest : List Oper} {o : Oper} {a : Act} {Q : Exit → Act → World → Prop}
/-- a signature loaded whole -/
theorem wp_loadSig (hgd : o.guard = none) (p : Operand) (ho : o.op = .load 28 p) (g : Nat) (x : Int) (v1 v2 v3 : Value) (hp : a.eval p = .pointer (some ⟨g, 0, none⟩)) (hA : SgM w g x v1 v2 v3)
    (h : wpList Try.prog ops Q rest (a.put o.dst (.agg #[.int .i64 x, v1, v2, v3])) w) : wpList Try.prog ops Q (o :: rest) a w := by
  refine wpList_plain hgd fun K hK => ?_
  have hr : (Instr.loadAt 28 (.pointer (some ⟨g, 0, none⟩))).run Try.prog w = .ok (.agg #[.int .i64 x, v1, v2, v3]) w := by
    simp only [Instr.loadAt, Instr.sureAddr, Sem.run_bind, Sem.run_pure, Result.andThen]
    exact load_sig hA
  unfold Oper.wp
  simp [execOp, ho, hp, hr, Result.andThen]
  exact hK _ _ h
/-- a signature stored whole -/
theorem wp_storeSig (hgd : o.guard = none) (p v : Operand) (ho : o.op = .store 28 p v) (g : Nat) (x y : Int) (v1 v2 v3 u1 u2 u3 : Value) (hA : SgM w g x v1 v2 v3) (hp : a.eval p = .pointer (some ⟨g, 0, none⟩)) (hv : a.eval v = .agg #[.int .i64 y, u1, u2, u3])
    (h1 : u1.oneCell' = true) (h2 : u2.oneCell' = true) (h3 : u3.oneCell' = true)
    (h : SgM (w.setRow g #[.int .i64 y, u1, u2, u3]) g y u1 u2 u3 → wpList Try.prog ops Q rest (a.put o.dst (.tuple #[])) (w.setRow g #[.int .i64 y, u1, u2, u3])) : wpList Try.prog ops Q (o :: rest) a w := by
  refine wpList_plain hgd fun K hK => ?_
  have hr : (Instr.storeAt 28 (.pointer (some ⟨g, 0, none⟩)) (.agg #[.int .i64 y, u1, u2, u3])).run Try.prog w = .ok () (w.setRow g #[.int .i64 y, u1, u2, u3]) := by
    simp only [Instr.storeAt, Instr.sureAddr, Sem.run_bind, Sem.run_pure, Result.andThen]
    refine run_storeVar_row w g 28 28 _ _ hA sizeS rfl ?_
    simp [h1, h2, h3]
    rfl
  unfold Oper.wp
  simp [execOp, ho, hp, hv, hr, Result.andThen]
  exact hK _ _ (h (setRow_heap w g _ _ _ _ hA))
end

end Go.Proofs.Yteejjnpemaghcaa
