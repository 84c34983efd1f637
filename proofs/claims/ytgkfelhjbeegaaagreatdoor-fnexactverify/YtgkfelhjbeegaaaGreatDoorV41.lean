/-
  Texts laid together: Wf.
-/
import Derived.Test.YtgkfelhjbeegaaaGreatDoorV39
import Derived.Test.YtgkfelhjbeegaaaGreatDoorV40
/-
  Verify: the program's answer.
-/
namespace Go.Proofs.YtgkfelhjbeegaaaGreatDoor
open Go.RowKit Go.BigFrame Go.Sort
set_option linter.unusedVariables false
set_option linter.unusedSimpArgs false

theorem wholeChecks_any (w : World) :
    Calls Tryz.prog 28 #[] w fun e w' => e = .returned (.slice (some ⟨w.heap.size, 0, none⟩) 5 5) ∧ w' = w.alloc (.cells #[.int .i64 1, .func (Fn.func 57) #[] #[], .int .i64 2, .func (Fn.func 58) #[] #[], .int .i64 3, .func (Fn.func 59) #[] #[], .int .i64 4, .func (Fn.func 60) #[] #[], .int .i64 5, .func (Fn.func 61) #[] #[]] 82) := by
  go_enter Tryz.func28, Tryz.ntmps28
  go_wp2
  go_ret
  exact ⟨rfl, rfl⟩

/-- the code that is answered, by what five checks say -/
def vfC (b0 b1 b2 b3 b4 : Bool) : Int := if b0 = false then 1 else if b1 = false then 2 else if b2 = false then 3 else if b3 = false then 4 else if b4 = false then 5 else 0
def vfV (b0 b1 b2 b3 b4 : Bool) (v : ByteArray) : ByteArray := if b0 = true ∧ b1 = true ∧ b2 = true ∧ b3 = true ∧ b4 = true then v else ⟨#[]⟩
def vfB (b0 b1 b2 b3 b4 : Bool) (b : Bool) : Bool := b0 && (b1 && (b2 && (b3 && (b4 && b))))

/-- a box that holds this row -/
def BxA (T : Nat) (W : World) (g : Nat) (A : Array Value) : Prop := W.heap[g]? = some (.cells A T (0, 0))
theorem BxA.later {T : Nat} {W W' : World} {g : Nat} {A : Array Value} (h : BxA T W g A) (hb : Below W.heap.size W W') : BxA T W' g A := (hb.block g (Array.getElem?_eq_some_iff.1 h).1).trans h
theorem sizeAs : (Tryz.prog.info? 77).map (·.size) = some 18 := by kernel_rfl
theorem wp_loadAs {w : World} {ops : Array Oper} {rest : List Oper} {o : Oper} {a : Act} {Q : Exit → Act → World → Prop} (hgd : o.guard = none) (p : Operand) (ho : o.op = .load 77 p) (g : Nat) (A : Array Value) (hp : a.eval p = .pointer (some ⟨g, 0, none⟩)) (hA : BxA 77 w g A) (hs : A.size = 18)
    (h : wpList Tryz.prog ops Q rest (a.put o.dst (.agg A)) w) : wpList Tryz.prog ops Q (o :: rest) a w := by
  refine wpList_plain hgd fun K hK => ?_
  have hr : (Instr.loadAt 77 (.pointer (some ⟨g, 0, none⟩))).run Tryz.prog w = .ok (.agg A) w := by
    simp only [Instr.loadAt, Instr.sureAddr, Sem.run_bind, Sem.run_pure, Result.andThen]
    exact run_loadVar_row (P := Tryz.prog) w g 77 77 _ (0, 0) _ hA Tryz.underlying77 rfl (by rw [hs]; exact sizeAs)
  unfold Oper.wp
  simp [execOp, ho, hp, hr, Result.andThen]
  exact hK _ _ h

/-- the first m checks have passed -/
def WfR (w2 : World) (B : List Bool) (i : Value) (wr : World) : Prop := ∃ m : Nat, m ≤ 5 ∧ i = .int .i64 m ∧ Hid (Below w2.heap.size w2 wr ∧ ∀ j, j < m → B.getD j false = true)

end Go.Proofs.YtgkfelhjbeegaaaGreatDoor
