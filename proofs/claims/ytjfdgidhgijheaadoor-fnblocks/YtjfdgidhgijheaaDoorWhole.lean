/-
  Whole arrays of words by value: loaded out of a block, stored into a new one or over an old one, whatever the named type.
-/
import Derived.Test.YtjfdgidhgijheaaDoorPro
namespace Go.Proofs.YtjfdgidhgijheaaDoor
open Go.RowKit
set_option linter.unusedVariables false

def AggIs (cs : Array Value) (n : Nat) (f : Nat → UInt32) : Prop := cs.size = n ∧ ∀ i, i < n → cs[i]? = some (.int .u32 ((f i).toNat : Int))

theorem AggIs.one {cs : Array Value} {n : Nat} {f : Nat → UInt32} (h : AggIs cs n f) : cs.all (·.oneCell') = true := by
  rw [Array.all_eq_true]
  intro i hi
  have h1 := h.2 i (by have := h.1; omega)
  rw [Array.getElem?_eq_getElem hi] at h1
  simp only [Option.some.injEq] at h1
  rw [h1]
  rfl
theorem AggIs.congr {cs : Array Value} {n : Nat} {f g : Nat → UInt32} (h : AggIs cs n f) (e : ∀ i, i < n → f i = g i) : AggIs cs n g :=
  ⟨h.1, fun i hi => by rw [← e i hi]; exact h.2 i hi⟩
theorem zeros_at (n i : Nat) (h : i < n) : (zeros n)[i]? = some (.int .u32 (((fun _ : Nat => (0 : UInt32)) i).toNat : Int)) := by
  simp [zeros, h]
theorem AggIs.zeros (n : Nat) : AggIs (zeros n) n (fun _ => 0) := ⟨zeros_size n, zeros_at n⟩
theorem Arr.congr {w : World} {g t n : Nat} {f f' : Nat → UInt32} (h : Arr w g t n f) (e : ∀ i, i < n → f i = f' i) : Arr w g t n f' := by
  obtain ⟨cs, h1, h2, h3⟩ := h
  exact ⟨cs, h1, h2, fun i hi => by rw [← e i hi]; exact h3 i hi⟩
theorem Arr.agg {w : World} {t n : Nat} {f : Nat → UInt32} {R : Array Value} (hR : AggIs R n f) : Arr (w.alloc (.cells R t)) w.heap.size t n f := Arr.new w R t n f hR.1 hR.2

theorem run_loadArr {w : World} {g t n : Nat} {f : Nat → UInt32} (ty e : TypeId) (hu : Tryd.prog.underlying ty = some (.array n e)) (hi : (Tryd.prog.info? ty).map (·.size) = some n) (hA : Arr w g t n f) :
    ∃ R, (Instr.loadAt ty (.pointer (some ⟨g, 0, none⟩))).run Tryd.prog w = .ok (.agg R) w ∧ AggIs R n f := by
  obtain ⟨cs, h1, h2, h3⟩ := hA
  refine ⟨cs, ?_, h2, h3⟩
  simp only [Instr.loadAt, Instr.sureAddr, Sem.run_bind, Sem.run_pure, Result.andThen]
  exact run_loadVar_row w g t ty cs (0, 0) _ h1 hu rfl (by rw [h2]; exact hi)
theorem run_storeArr {w : World} {g t n : Nat} {f f' : Nat → UInt32} {R : Array Value} (ty : TypeId) (hi : (Tryd.prog.info? ty).map (·.size) = some n) (hA : Arr w g t n f) (hR : AggIs R n f') :
    (Instr.storeAt ty (.pointer (some ⟨g, 0, none⟩)) (.agg R)).run Tryd.prog w = .ok () (w.setRow g R) ∧ Arr (w.setRow g R) g t n f' := by
  obtain ⟨cs, h1, h2, h3⟩ := hA
  constructor
  · simp only [Instr.storeAt, Instr.sureAddr, Sem.run_bind, Sem.run_pure, Result.andThen]
    exact run_storeVar_row w g t ty cs R h1 (by rw [hR.1]; exact hi) (by rw [h2, hR.1]) hR.one
  · exact ⟨R, setRow_heap w g cs R t _ h1, hR.1, hR.2⟩
theorem Arr.otherRow {w : World} {g t n k : Nat} {f : Nat → UInt32} {R : Array Value} (h : Arr w g t n f) (hk : g ≠ k) : Arr (w.setRow k R) g t n f :=
  h.keep (setRow_other w k g R hk)
theorem below_setRow {B g : Nat} {w0 w : World} {R : Array Value} (h : Below B w0 w) (hg : B ≤ g) : Below B w0 (w.setRow g R) :=
  h.trans ⟨rfl, rfl, rfl, by simp [World.setRow], fun k hk => setRow_other w g k R (by omega)⟩

section
variable {w : World} {ops : Array Oper} {rest : List Oper} {o : Oper} {a : Act} {Q : Exit → Act → World → Prop}

theorem wp_loadArr (hgd : o.guard = none) (ty : TypeId) (p : Operand) (ho : o.op = .load ty p) (g t n : Nat) (f : Nat → UInt32) (e : TypeId) (hp : a.eval p = .pointer (some ⟨g, 0, none⟩)) (hA : Arr w g t n f)
    (hu : Tryd.prog.underlying ty = some (.array n e)) (hi : (Tryd.prog.info? ty).map (·.size) = some n)
    (h : ∀ R, AggIs R n f → wpList Tryd.prog ops Q rest (a.put o.dst (.agg R)) w) : wpList Tryd.prog ops Q (o :: rest) a w := by
  refine wpList_plain hgd fun K hK => ?_
  obtain ⟨R, hr, hR⟩ := run_loadArr ty e hu hi hA
  unfold Oper.wp
  simp [execOp, ho, hp, hr, Result.andThen]
  exact hK _ _ (h R hR)
theorem wp_allocArr (hgd : o.guard = none) (ty : TypeId) (n : Nat) (ho : o.op = .alloc ty) (hz : (Tryd.prog.info? ty).map (fun i => (i.zero, i.size)) = some (some (.agg (zeros n)), n))
    (h : wpList Tryd.prog ops Q rest (a.put o.dst (.pointer (some ⟨w.heap.size, 0, none⟩))) (w.alloc (.cells (zeros n) ty))) : wpList Tryd.prog ops Q (o :: rest) a w := by
  refine wpList_plain hgd fun K hK => ?_
  have h1 := (zero_of_info hz).1
  have hr : (Instr.alloc ty true (.tuple #[])).run Tryd.prog w = .ok (.pointer (some ⟨w.heap.size, 0, none⟩)) (w.alloc (.cells (zeros n) ty)) := by
    unfold Instr.alloc
    simp [h1, newVar, newRow, Value.cells]
  unfold Oper.wp
  simp [execOp, ho, hr, Result.andThen]
  exact hK _ _ h
/-- a whole array into the block that was made last -/
theorem wp_storeNew (hgd : o.guard = none) (ty n : Nat) (p v : Operand) (ho : o.op = .store ty p v) (w0 : World) (c R : Array Value) (f : Nat → UInt32) (hw : w = w0.alloc (.cells c ty)) (hc : c.size = n) (hR : AggIs R n f) (hp : a.eval p = .pointer (some ⟨w0.heap.size, 0, none⟩)) (hv : a.eval v = .agg R)
    (hi : (Tryd.prog.info? ty).map (·.size) = some n)
    (h : wpList Tryd.prog ops Q rest (a.put o.dst (.tuple #[])) (w0.alloc (.cells R ty))) : wpList Tryd.prog ops Q (o :: rest) a w := by
  subst hw
  refine wpList_plain hgd fun K hK => ?_
  have hr := run_storeAt_new (P := Tryd.prog) w0 ty c R (by rw [hR.1]; exact hi) (by rw [hc, hR.1]) hR.one
  unfold Oper.wp
  simp [execOp, ho, hp, hv, hr, Result.andThen]
  exact hK _ _ h
/-- a whole array over an old one -/
theorem wp_storeArr (hgd : o.guard = none) (ty : TypeId) (p v : Operand) (ho : o.op = .store ty p v) (g t n : Nat) (f f' : Nat → UInt32) (R : Array Value) (hA : Arr w g t n f) (hR : AggIs R n f') (hp : a.eval p = .pointer (some ⟨g, 0, none⟩)) (hv : a.eval v = .agg R)
    (hi : (Tryd.prog.info? ty).map (·.size) = some n)
    (h : Arr (w.setRow g R) g t n f' → wpList Tryd.prog ops Q rest (a.put o.dst (.tuple #[])) (w.setRow g R)) : wpList Tryd.prog ops Q (o :: rest) a w := by
  refine wpList_plain hgd fun K hK => ?_
  obtain ⟨hr, h2⟩ := run_storeArr ty hi hA hR
  unfold Oper.wp
  simp [execOp, ho, hp, hv, hr, Result.andThen]
  exact hK _ _ (h h2)
end

theorem ret_arr {fn : Func} {Rp : Ending → World → Prop} {a : Act} {w : World} (c g t n : Nat) (ty e : TypeId) (f : Nat → UInt32) (hres : fn.results = #[.cell c ty]) (hd : a.defers = []) (hp : a.tmps.getD c undef = .pointer (some ⟨g, 0, none⟩))
    (hA : Arr w g t n f) (hu : Tryd.prog.underlying ty = some (.array n e)) (hi : (Tryd.prog.info? ty).map (·.size) = some n) (h : ∀ R, AggIs R n f → Rp (.returned (.agg R)) w) : bodyPost Tryd.prog fn Rp .ret a w := by
  obtain ⟨cs, h1, h2, h3⟩ := hA
  have hr := run_loadVar_row (P := Tryd.prog) w g t ty cs (0, 0) _ h1 hu rfl (by rw [h2]; exact hi)
  refine bodyPost_ret (v := .agg cs) ?_ hd (h cs ⟨h2, h3⟩)
  have hp' : a.tmps[c]?.getD undef = .pointer (some ⟨g, 0, none⟩) := by simpa using hp
  simp [results, hres, asAddr, hr, hp']

theorem size51 : (Tryd.prog.info? 39).map (·.size) = some 8 := by kernel_rfl
theorem size61 : (Tryd.prog.info? 50).map (·.size) = some 64 := by kernel_rfl
theorem size52 : (Tryd.prog.info? 40).map (·.size) = some 8 := by kernel_rfl
theorem zero52 : (Tryd.prog.info? 40).map (fun i => (i.zero, i.size)) = some (some (.agg (zeros 8)), 8) := by kernel_rfl
end Go.Proofs.YtjfdgidhgijheaaDoor
