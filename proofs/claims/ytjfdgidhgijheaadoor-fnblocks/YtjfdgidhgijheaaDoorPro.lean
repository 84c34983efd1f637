/-
  A whole array of words by value: made, allocated, stored, boxed and loaded, its cells unopened.
-/
import Derived.Test.YtjfdgidhgijheaaDoorArr
import Derived.Deep.WholeRow
namespace Go.Proofs.YtjfdgidhgijheaaDoor
open Go.RowKit
set_option linter.unusedVariables false

def zeros (n : Nat) : Array Value := Array.replicate n (.int .u32 0)
theorem info55 : (Tryd.prog.info? 50).map (fun i => (i.zero, i.size)) = some (some (.agg (zeros 64)), 64) := by kernel_rfl
theorem info50 : (Tryd.prog.info? 39).map (fun i => (i.zero, i.size)) = some (some (.agg (zeros 8)), 8) := by kernel_rfl
theorem zeros_size (n : Nat) : (zeros n).size = n := by simp [zeros]
theorem zeros_one (n : Nat) : (zeros n).all (·.oneCell') = true := by
  unfold zeros
  rw [Array.all_eq_true]
  intro i hi
  simp [Value.oneCell']
theorem run_build (w : World) : (Instr.build 50 #[]).run Tryd.prog w = .ok (.agg (zeros 64)) w := by
  have h := (zero_of_info info55).1
  unfold Instr.build
  simp [h]
  rfl
theorem run_alloc55 (w : World) : (Instr.alloc 50 true (.tuple #[])).run Tryd.prog w = .ok (.pointer (some ⟨w.heap.size, 0, none⟩)) (w.alloc (.cells (zeros 64) 50)) := by
  have h := (zero_of_info info55).1
  unfold Instr.alloc
  simp [h, newVar, newRow, Value.cells]
theorem run_alloc50 (w : World) : (Instr.alloc 39 true (.tuple #[])).run Tryd.prog w = .ok (.pointer (some ⟨w.heap.size, 0, none⟩)) (w.alloc (.cells (zeros 8) 39)) := by
  have h := (zero_of_info info50).1
  unfold Instr.alloc
  simp [h, newVar, newRow, Value.cells]

section
variable {w : World} {ops : Array Oper} {rest : List Oper} {o : Oper} {a : Act} {Q : Exit → Act → World → Prop}

theorem wp_build (hgd : o.guard = none) (ho : o.op = .build 50 #[]) (h : wpList Tryd.prog ops Q rest (a.put o.dst (.agg (zeros 64))) w) : wpList Tryd.prog ops Q (o :: rest) a w := by
  refine wpList_plain hgd fun K hK => ?_
  have hr := run_build w
  unfold Oper.wp
  simp [execOp, ho, hr, Result.andThen]
  exact hK _ _ h
theorem wp_alloc55 (hgd : o.guard = none) (ho : o.op = .alloc 50) (h : wpList Tryd.prog ops Q rest (a.put o.dst (.pointer (some ⟨w.heap.size, 0, none⟩))) (w.alloc (.cells (zeros 64) 50))) : wpList Tryd.prog ops Q (o :: rest) a w := by
  refine wpList_plain hgd fun K hK => ?_
  have hr := run_alloc55 w
  unfold Oper.wp
  simp [execOp, ho, hr, Result.andThen]
  exact hK _ _ h
theorem wp_alloc50 (hgd : o.guard = none) (ho : o.op = .alloc 39) (h : wpList Tryd.prog ops Q rest (a.put o.dst (.pointer (some ⟨w.heap.size, 0, none⟩))) (w.alloc (.cells (zeros 8) 39))) : wpList Tryd.prog ops Q (o :: rest) a w := by
  refine wpList_plain hgd fun K hK => ?_
  have hr := run_alloc50 w
  unfold Oper.wp
  simp [execOp, ho, hr, Result.andThen]
  exact hK _ _ h
theorem wp_store55 (hgd : o.guard = none) (p v : Operand) (ho : o.op = .store 50 p v) (w0 : World) (hw : w = w0.alloc (.cells (zeros 64) 50)) (hp : a.eval p = .pointer (some ⟨w0.heap.size, 0, none⟩)) (hv : a.eval v = .agg (zeros 64))
    (h : wpList Tryd.prog ops Q rest (a.put o.dst (.tuple #[])) w) : wpList Tryd.prog ops Q (o :: rest) a w := by
  subst hw
  refine wpList_plain hgd fun K hK => ?_
  have hr := run_storeAt_new (P := Tryd.prog) w0 50 (zeros 64) (zeros 64) (by rw [zeros_size]; exact (zero_of_info info55).2) rfl (zeros_one 64)
  unfold Oper.wp
  simp [execOp, ho, hp, hv, hr, Result.andThen]
  exact hK _ _ h
end
end Go.Proofs.YtjfdgidhgijheaaDoor
