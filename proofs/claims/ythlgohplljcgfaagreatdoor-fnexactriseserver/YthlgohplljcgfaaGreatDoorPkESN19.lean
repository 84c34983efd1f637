/-
  Texts laid together: Arr, Pro, Whole, Blk.
-/
import Derived.Test.YthlgohplljcgfaaGreatDoorPkESN18
import Derived.Laws.Rows
import Derived.Deep.QuietTactic
import Derived.BigQuiet
import Derived.Deep.WholeRow
import Derived.BigFrame
import Derived.BigRegion
/-
  An array of 32-bit words in a block of its own; the rotation, the first numbers and the keys.
-/
namespace Go.Proofs.YthlgohplljcgfaaGreatDoor
open Go.RowKit
set_option linter.unusedVariables false

/-- block g holds the n words f -/
def Arr (w : World) (g t n : Nat) (f : Nat → UInt32) : Prop :=
  ∃ cs : Array Value, w.heap[g]? = some (.cells cs t (0, 0)) ∧ cs.size = n ∧ ∀ i, i < n → cs[i]? = some (.int .u32 ((f i).toNat : Int))

theorem Arr.cell {w : World} {g t n : Nat} {f : Nat → UInt32} (h : Arr w g t n f) (i : Nat) (hi : i < n) : w.cell? ⟨g, i, none⟩ = some (.int .u32 ((f i).toNat : Int)) := by
  obtain ⟨cs, h1, h2, h3⟩ := h
  simp [World.cell?, h1, h3 i hi]
theorem Arr.frozen {w : World} {g t n : Nat} {f : Nat → UInt32} (h : Arr w g t n f) (i : Nat) : w.frozen? ⟨g, i, none⟩ = false := by
  obtain ⟨cs, h1, h2, h3⟩ := h
  simp [World.frozen?, h1]
theorem Arr.lt {w : World} {g t n : Nat} {f : Nat → UInt32} (h : Arr w g t n f) : g < w.heap.size := by
  obtain ⟨cs, h1, _⟩ := h
  exact (Array.getElem?_eq_some_iff.1 h1).1
theorem Arr.set {w : World} {g t n : Nat} {f : Nat → UInt32} (h : Arr w g t n f) (i : Nat) (hi : i < n) (x : UInt32) : Arr (w.setCell ⟨g, i, none⟩ (.int .u32 (x.toNat : Int))) g t n (H.upd f i x) := by
  obtain ⟨cs, h1, h2, h3⟩ := h
  refine ⟨_, heap_setCell_same w g i cs t _ h1, by simpa using h2, fun j hj => ?_⟩
  rw [Array.getElem?_setIfInBounds]
  by_cases he : i = j
  · subst he
    simp [H.upd, h2, hi]
  · have : j ≠ i := fun e => he e.symm
    simp [H.upd, he, this, h3 j hj]
theorem Arr.keep {w w' : World} {g t n : Nat} {f : Nat → UInt32} (h : Arr w g t n f) (hh : w'.heap[g]? = w.heap[g]?) : Arr w' g t n f := by
  obtain ⟨cs, h1, h2⟩ := h
  exact ⟨cs, by rw [hh]; exact h1, h2⟩
theorem Arr.other {w : World} {g t n : Nat} {f : Nat → UInt32} (h : Arr w g t n f) (k i : Nat) (v : Value) (hk : g ≠ k) : Arr (w.setCell ⟨k, i, none⟩ v) g t n f :=
  h.keep (heap_setCell_other w ⟨k, i, none⟩ g v hk)
theorem Arr.alloc {w : World} {g t n : Nat} {f : Nat → UInt32} (h : Arr w g t n f) (o : Obj) : Arr (w.alloc o) g t n f := by
  have hl := h.lt
  refine h.keep ?_
  have hn : g ≠ w.heap.size := by omega
  simp [World.alloc, -World.alloc_eq, Array.getElem?_push, hn]
theorem Arr.new (w : World) (cs : Array Value) (t n : Nat) (f : Nat → UInt32) (h : cs.size = n) (hc : ∀ i, i < n → cs[i]? = some (.int .u32 ((f i).toNat : Int))) : Arr (w.alloc (.cells cs t)) w.heap.size t n f :=
  ⟨cs, heap_alloc_new w _, h, hc⟩
theorem Arr.drewN {w : World} {g t n : Nat} {f : Nat → UInt32} (h : Arr w g t n f) (k : Nat) : Arr (w.drewN k) g t n f := h

theorem Turn_any (x : UInt32) (n : Nat) (w : World) (hn : n = 2 ∨ n = 6 ∨ n = 7 ∨ n = 11 ∨ n = 13 ∨ n = 17 ∨ n = 18 ∨ n = 19 ∨ n = 22 ∨ n = 25) :
    Calls Tryz.prog 175 #[.int .u32 (x.toNat : Int), .int .u64 (n : Int)] w fun e w' => e = .returned (.int .u32 ((H.rotr x n).toNat : Int)) ∧ w' = w := by
  have hr := H.brot x n (by omega)
  rcases hn with rfl | rfl | rfl | rfl | rfl | rfl | rfl | rfl | rfl | rfl
  all_goals
    go_enter Tryz.func175, Tryz.ntmps175
    go_wp2
    go_ret
    refine ⟨?_, rfl⟩
    rw [← hr]
    rfl

theorem Turn2 (x : UInt32) (w : World) : Calls Tryz.prog 175 #[.int .u32 (x.toNat : Int), .int .u64 2] w fun e w' => e = .returned (.int .u32 ((H.rotr x 2).toNat : Int)) ∧ w' = w := Turn_any x 2 w (by omega)
theorem Turn6 (x : UInt32) (w : World) : Calls Tryz.prog 175 #[.int .u32 (x.toNat : Int), .int .u64 6] w fun e w' => e = .returned (.int .u32 ((H.rotr x 6).toNat : Int)) ∧ w' = w := Turn_any x 6 w (by omega)
theorem Turn7 (x : UInt32) (w : World) : Calls Tryz.prog 175 #[.int .u32 (x.toNat : Int), .int .u64 7] w fun e w' => e = .returned (.int .u32 ((H.rotr x 7).toNat : Int)) ∧ w' = w := Turn_any x 7 w (by omega)
theorem Turn11 (x : UInt32) (w : World) : Calls Tryz.prog 175 #[.int .u32 (x.toNat : Int), .int .u64 11] w fun e w' => e = .returned (.int .u32 ((H.rotr x 11).toNat : Int)) ∧ w' = w := Turn_any x 11 w (by omega)
theorem Turn13 (x : UInt32) (w : World) : Calls Tryz.prog 175 #[.int .u32 (x.toNat : Int), .int .u64 13] w fun e w' => e = .returned (.int .u32 ((H.rotr x 13).toNat : Int)) ∧ w' = w := Turn_any x 13 w (by omega)
theorem Turn17 (x : UInt32) (w : World) : Calls Tryz.prog 175 #[.int .u32 (x.toNat : Int), .int .u64 17] w fun e w' => e = .returned (.int .u32 ((H.rotr x 17).toNat : Int)) ∧ w' = w := Turn_any x 17 w (by omega)
theorem Turn18 (x : UInt32) (w : World) : Calls Tryz.prog 175 #[.int .u32 (x.toNat : Int), .int .u64 18] w fun e w' => e = .returned (.int .u32 ((H.rotr x 18).toNat : Int)) ∧ w' = w := Turn_any x 18 w (by omega)
theorem Turn19 (x : UInt32) (w : World) : Calls Tryz.prog 175 #[.int .u32 (x.toNat : Int), .int .u64 19] w fun e w' => e = .returned (.int .u32 ((H.rotr x 19).toNat : Int)) ∧ w' = w := Turn_any x 19 w (by omega)
theorem Turn22 (x : UInt32) (w : World) : Calls Tryz.prog 175 #[.int .u32 (x.toNat : Int), .int .u64 22] w fun e w' => e = .returned (.int .u32 ((H.rotr x 22).toNat : Int)) ∧ w' = w := Turn_any x 22 w (by omega)
theorem Turn25 (x : UInt32) (w : World) : Calls Tryz.prog 175 #[.int .u32 (x.toNat : Int), .int .u64 25] w fun e w' => e = .returned (.int .u32 ((H.rotr x 25).toNat : Int)) ∧ w' = w := Turn_any x 25 w (by omega)

end Go.Proofs.YthlgohplljcgfaaGreatDoor
/-
  A whole array of words by value: made, allocated, stored, boxed and loaded, its cells unopened.
-/
namespace Go.Proofs.YthlgohplljcgfaaGreatDoor
open Go.RowKit
set_option linter.unusedVariables false

def zeros (n : Nat) : Array Value := Array.replicate n (.int .u32 0)
theorem info55 : (Tryz.prog.info? 193).map (fun i => (i.zero, i.size)) = some (some (.agg (zeros 64)), 64) := by kernel_rfl
theorem info50 : (Tryz.prog.info? 191).map (fun i => (i.zero, i.size)) = some (some (.agg (zeros 8)), 8) := by kernel_rfl
theorem zeros_size (n : Nat) : (zeros n).size = n := by simp [zeros]
theorem zeros_one (n : Nat) : (zeros n).all (·.oneCell') = true := by
  unfold zeros
  rw [Array.all_eq_true]
  intro i hi
  simp [Value.oneCell']
theorem run_build (w : World) : (Instr.build 193 #[]).run Tryz.prog w = .ok (.agg (zeros 64)) w := by
  have h := (zero_of_info info55).1
  unfold Instr.build
  simp [h]
  rfl
theorem run_alloc55 (w : World) : (Instr.alloc 193 true (.tuple #[])).run Tryz.prog w = .ok (.pointer (some ⟨w.heap.size, 0, none⟩)) (w.alloc (.cells (zeros 64) 193)) := by
  have h := (zero_of_info info55).1
  unfold Instr.alloc
  simp [h, newVar, newRow, Value.cells]
theorem run_alloc50 (w : World) : (Instr.alloc 191 true (.tuple #[])).run Tryz.prog w = .ok (.pointer (some ⟨w.heap.size, 0, none⟩)) (w.alloc (.cells (zeros 8) 191)) := by
  have h := (zero_of_info info50).1
  unfold Instr.alloc
  simp [h, newVar, newRow, Value.cells]

section
variable {w : World} {ops : Array Oper} {rest : List Oper} {o : Oper} {a : Act} {Q : Exit → Act → World → Prop}

theorem wp_build (hgd : o.guard = none) (ho : o.op = .build 193 #[]) (h : wpList Tryz.prog ops Q rest (a.put o.dst (.agg (zeros 64))) w) : wpList Tryz.prog ops Q (o :: rest) a w := by
  refine wpList_plain hgd fun K hK => ?_
  have hr := run_build w
  unfold Oper.wp
  simp [execOp, ho, hr, Result.andThen]
  exact hK _ _ h
theorem wp_alloc55 (hgd : o.guard = none) (ho : o.op = .alloc 193) (h : wpList Tryz.prog ops Q rest (a.put o.dst (.pointer (some ⟨w.heap.size, 0, none⟩))) (w.alloc (.cells (zeros 64) 193))) : wpList Tryz.prog ops Q (o :: rest) a w := by
  refine wpList_plain hgd fun K hK => ?_
  have hr := run_alloc55 w
  unfold Oper.wp
  simp [execOp, ho, hr, Result.andThen]
  exact hK _ _ h
theorem wp_alloc50 (hgd : o.guard = none) (ho : o.op = .alloc 191) (h : wpList Tryz.prog ops Q rest (a.put o.dst (.pointer (some ⟨w.heap.size, 0, none⟩))) (w.alloc (.cells (zeros 8) 191))) : wpList Tryz.prog ops Q (o :: rest) a w := by
  refine wpList_plain hgd fun K hK => ?_
  have hr := run_alloc50 w
  unfold Oper.wp
  simp [execOp, ho, hr, Result.andThen]
  exact hK _ _ h
theorem wp_store55 (hgd : o.guard = none) (p v : Operand) (ho : o.op = .store 193 p v) (w0 : World) (hw : w = w0.alloc (.cells (zeros 64) 193)) (hp : a.eval p = .pointer (some ⟨w0.heap.size, 0, none⟩)) (hv : a.eval v = .agg (zeros 64))
    (h : wpList Tryz.prog ops Q rest (a.put o.dst (.tuple #[])) w) : wpList Tryz.prog ops Q (o :: rest) a w := by
  subst hw
  refine wpList_plain hgd fun K hK => ?_
  have hr := run_storeAt_new (P := Tryz.prog) w0 193 (zeros 64) (zeros 64) (by rw [zeros_size]; exact (zero_of_info info55).2) rfl (zeros_one 64)
  unfold Oper.wp
  simp [execOp, ho, hp, hv, hr, Result.andThen]
  exact hK _ _ h
end
end Go.Proofs.YthlgohplljcgfaaGreatDoor
/-
  Whole arrays of words by value: loaded out of a block, stored into a new one or over an old one, whatever the named type.
-/
namespace Go.Proofs.YthlgohplljcgfaaGreatDoor
open Go.RowKit
set_option linter.unusedVariables false

def AggIs (cs : Array Value) (n : Nat) (f : Nat → UInt32) : Prop := cs.size = n ∧ ∀ i, i < n → cs[i]? = some (.int .u32 ((f i).toNat : Int))

theorem AggIs.one {cs : Array Value} {n : Nat} {f : Nat → UInt32} (h : AggIs cs n f) : cs.all (·.oneCell') = true := by
  rw [Array.all_eq_true]
  intro i hi
  have h1 := h.2 i (by have := h.1; omega)
  rw [Array.getElem?_eq_getElem hi] at h1
  simp only [Option.some.injEq] at h1
  rw [h1]
  rfl
theorem AggIs.congr {cs : Array Value} {n : Nat} {f g : Nat → UInt32} (h : AggIs cs n f) (e : ∀ i, i < n → f i = g i) : AggIs cs n g :=
  ⟨h.1, fun i hi => by rw [← e i hi]; exact h.2 i hi⟩
theorem zeros_at (n i : Nat) (h : i < n) : (zeros n)[i]? = some (.int .u32 (((fun _ : Nat => (0 : UInt32)) i).toNat : Int)) := by
  simp [zeros, h]
theorem AggIs.zeros (n : Nat) : AggIs (zeros n) n (fun _ => 0) := ⟨zeros_size n, zeros_at n⟩
theorem Arr.congr {w : World} {g t n : Nat} {f f' : Nat → UInt32} (h : Arr w g t n f) (e : ∀ i, i < n → f i = f' i) : Arr w g t n f' := by
  obtain ⟨cs, h1, h2, h3⟩ := h
  exact ⟨cs, h1, h2, fun i hi => by rw [← e i hi]; exact h3 i hi⟩
theorem Arr.agg {w : World} {t n : Nat} {f : Nat → UInt32} {R : Array Value} (hR : AggIs R n f) : Arr (w.alloc (.cells R t)) w.heap.size t n f := Arr.new w R t n f hR.1 hR.2

theorem run_loadArr {w : World} {g t n : Nat} {f : Nat → UInt32} (ty e : TypeId) (hu : Tryz.prog.underlying ty = some (.array n e)) (hi : (Tryz.prog.info? ty).map (·.size) = some n) (hA : Arr w g t n f) :
    ∃ R, (Instr.loadAt ty (.pointer (some ⟨g, 0, none⟩))).run Tryz.prog w = .ok (.agg R) w ∧ AggIs R n f := by
  obtain ⟨cs, h1, h2, h3⟩ := hA
  refine ⟨cs, ?_, h2, h3⟩
  simp only [Instr.loadAt, Instr.sureAddr, Sem.run_bind, Sem.run_pure, Result.andThen]
  exact run_loadVar_row w g t ty cs (0, 0) _ h1 hu rfl (by rw [h2]; exact hi)
theorem run_storeArr {w : World} {g t n : Nat} {f f' : Nat → UInt32} {R : Array Value} (ty : TypeId) (hi : (Tryz.prog.info? ty).map (·.size) = some n) (hA : Arr w g t n f) (hR : AggIs R n f') :
    (Instr.storeAt ty (.pointer (some ⟨g, 0, none⟩)) (.agg R)).run Tryz.prog w = .ok () (w.setRow g R) ∧ Arr (w.setRow g R) g t n f' := by
  obtain ⟨cs, h1, h2, h3⟩ := hA
  constructor
  · simp only [Instr.storeAt, Instr.sureAddr, Sem.run_bind, Sem.run_pure, Result.andThen]
    exact run_storeVar_row w g t ty cs R h1 (by rw [hR.1]; exact hi) (by rw [h2, hR.1]) hR.one
  · exact ⟨R, setRow_heap w g cs R t _ h1, hR.1, hR.2⟩
theorem Arr.otherRow {w : World} {g t n k : Nat} {f : Nat → UInt32} {R : Array Value} (h : Arr w g t n f) (hk : g ≠ k) : Arr (w.setRow k R) g t n f :=
  h.keep (setRow_other w k g R hk)
theorem below_setRow {B g : Nat} {w0 w : World} {R : Array Value} (h : Below B w0 w) (hg : B ≤ g) : Below B w0 (w.setRow g R) :=
  h.trans ⟨rfl, rfl, rfl, by simp [World.setRow], fun k hk => setRow_other w g k R (by omega)⟩

section
variable {w : World} {ops : Array Oper} {rest : List Oper} {o : Oper} {a : Act} {Q : Exit → Act → World → Prop}

theorem wp_loadArr (hgd : o.guard = none) (ty : TypeId) (p : Operand) (ho : o.op = .load ty p) (g t n : Nat) (f : Nat → UInt32) (e : TypeId) (hp : a.eval p = .pointer (some ⟨g, 0, none⟩)) (hA : Arr w g t n f)
    (hu : Tryz.prog.underlying ty = some (.array n e)) (hi : (Tryz.prog.info? ty).map (·.size) = some n)
    (h : ∀ R, AggIs R n f → wpList Tryz.prog ops Q rest (a.put o.dst (.agg R)) w) : wpList Tryz.prog ops Q (o :: rest) a w := by
  refine wpList_plain hgd fun K hK => ?_
  obtain ⟨R, hr, hR⟩ := run_loadArr ty e hu hi hA
  unfold Oper.wp
  simp [execOp, ho, hp, hr, Result.andThen]
  exact hK _ _ (h R hR)
theorem wp_allocArr (hgd : o.guard = none) (ty : TypeId) (n : Nat) (ho : o.op = .alloc ty) (hz : (Tryz.prog.info? ty).map (fun i => (i.zero, i.size)) = some (some (.agg (zeros n)), n))
    (h : wpList Tryz.prog ops Q rest (a.put o.dst (.pointer (some ⟨w.heap.size, 0, none⟩))) (w.alloc (.cells (zeros n) ty))) : wpList Tryz.prog ops Q (o :: rest) a w := by
  refine wpList_plain hgd fun K hK => ?_
  have h1 := (zero_of_info hz).1
  have hr : (Instr.alloc ty true (.tuple #[])).run Tryz.prog w = .ok (.pointer (some ⟨w.heap.size, 0, none⟩)) (w.alloc (.cells (zeros n) ty)) := by
    unfold Instr.alloc
    simp [h1, newVar, newRow, Value.cells]
  unfold Oper.wp
  simp [execOp, ho, hr, Result.andThen]
  exact hK _ _ h
/-- a whole array into the block that was made last -/
theorem wp_storeNew (hgd : o.guard = none) (ty n : Nat) (p v : Operand) (ho : o.op = .store ty p v) (w0 : World) (c R : Array Value) (f : Nat → UInt32) (hw : w = w0.alloc (.cells c ty)) (hc : c.size = n) (hR : AggIs R n f) (hp : a.eval p = .pointer (some ⟨w0.heap.size, 0, none⟩)) (hv : a.eval v = .agg R)
    (hi : (Tryz.prog.info? ty).map (·.size) = some n)
    (h : wpList Tryz.prog ops Q rest (a.put o.dst (.tuple #[])) (w0.alloc (.cells R ty))) : wpList Tryz.prog ops Q (o :: rest) a w := by
  subst hw
  refine wpList_plain hgd fun K hK => ?_
  have hr := run_storeAt_new (P := Tryz.prog) w0 ty c R (by rw [hR.1]; exact hi) (by rw [hc, hR.1]) hR.one
  unfold Oper.wp
  simp [execOp, ho, hp, hv, hr, Result.andThen]
  exact hK _ _ h
/-- a whole array over an old one -/
theorem wp_storeArr (hgd : o.guard = none) (ty : TypeId) (p v : Operand) (ho : o.op = .store ty p v) (g t n : Nat) (f f' : Nat → UInt32) (R : Array Value) (hA : Arr w g t n f) (hR : AggIs R n f') (hp : a.eval p = .pointer (some ⟨g, 0, none⟩)) (hv : a.eval v = .agg R)
    (hi : (Tryz.prog.info? ty).map (·.size) = some n)
    (h : Arr (w.setRow g R) g t n f' → wpList Tryz.prog ops Q rest (a.put o.dst (.tuple #[])) (w.setRow g R)) : wpList Tryz.prog ops Q (o :: rest) a w := by
  refine wpList_plain hgd fun K hK => ?_
  obtain ⟨hr, h2⟩ := run_storeArr ty hi hA hR
  unfold Oper.wp
  simp [execOp, ho, hp, hv, hr, Result.andThen]
  exact hK _ _ (h h2)
end

theorem ret_arr {fn : Func} {Rp : Ending → World → Prop} {a : Act} {w : World} (c g t n : Nat) (ty e : TypeId) (f : Nat → UInt32) (hres : fn.results = #[.cell c ty]) (hd : a.defers = []) (hp : a.tmps.getD c undef = .pointer (some ⟨g, 0, none⟩))
    (hA : Arr w g t n f) (hu : Tryz.prog.underlying ty = some (.array n e)) (hi : (Tryz.prog.info? ty).map (·.size) = some n) (h : ∀ R, AggIs R n f → Rp (.returned (.agg R)) w) : bodyPost Tryz.prog fn Rp .ret a w := by
  obtain ⟨cs, h1, h2, h3⟩ := hA
  have hr := run_loadVar_row (P := Tryz.prog) w g t ty cs (0, 0) _ h1 hu rfl (by rw [h2]; exact hi)
  refine bodyPost_ret (v := .agg cs) ?_ hd (h cs ⟨h2, h3⟩)
  have hp' : a.tmps[c]?.getD undef = .pointer (some ⟨g, 0, none⟩) := by simpa using hp
  simp [results, hres, asAddr, hr, hp']

theorem size51 : (Tryz.prog.info? 191).map (·.size) = some 8 := by kernel_rfl
theorem size61 : (Tryz.prog.info? 193).map (·.size) = some 64 := by kernel_rfl
theorem size52 : (Tryz.prog.info? 228).map (·.size) = some 8 := by kernel_rfl
theorem zero52 : (Tryz.prog.info? 228).map (fun i => (i.zero, i.size)) = some (some (.agg (zeros 8)), 8) := by kernel_rfl
end Go.Proofs.YthlgohplljcgfaaGreatDoor
/-
  What the specification makes of a block.
-/
namespace Go.Proofs.YthlgohplljcgfaaGreatDoor
open Go.RowKit
set_option linter.unusedVariables false


/-- the blocks of the function's arrays, and what they hold -/
structure BS (w wr : World) (h k r W : Nat → UInt32) : Prop where
  hh : Arr wr w.heap.size 191 8 h
  kk : Arr wr (w.heap.size + 1) 193 64 k
  rr : Arr wr (w.heap.size + 1 + 1) 191 8 r
  ww : Arr wr (w.heap.size + 1 + 1 + 1) 193 64 W
  bel : Below w.heap.size w wr
  sz : wr.heap.size = w.heap.size + 1 + 1 + 1 + 1

theorem BS.start (w : World) (Hc Kc : Array Value) (h k : Nat → UInt32) (hH : AggIs Hc 8 h) (hK : AggIs Kc 64 k) :
    BS w ((((w.alloc (.cells Hc 191)).alloc (.cells Kc 193)).alloc (.cells (zeros 8) 191)).alloc (.cells (zeros 64) 193)) h k (fun _ => 0) (fun _ => 0) := by
  have a1 := Arr.new w Hc 191 8 h hH.1 hH.2
  have a2 := Arr.new (w.alloc (.cells Hc 191)) Kc 193 64 k hK.1 hK.2
  have a3 := Arr.new ((w.alloc (.cells Hc 191)).alloc (.cells Kc 193)) (zeros 8) 191 8 (fun _ => 0) (zeros_size 8) (zeros_at 8)
  have a4 := Arr.new (((w.alloc (.cells Hc 191)).alloc (.cells Kc 193)).alloc (.cells (zeros 8) 191)) (zeros 64) 193 64 (fun _ => 0) (zeros_size 64) (zeros_at 64)
  refine ⟨((a1.alloc _).alloc _).alloc _, ?_, ?_, ?_, ?_, ?_⟩
  · have := (a2.alloc (.cells (zeros 8) 191)).alloc (.cells (zeros 64) 193)
    simpa using this
  · have := a3.alloc (.cells (zeros 64) 193)
    simpa using this
  · simpa using a4
  · exact ((((Below.refl _ _).alloc (Nat.le_refl _) _).alloc (by simp) _).alloc (by simp; omega) _).alloc (by simp; omega) _
  · simp

theorem BS.setW {w wr : World} {h k r W : Nat → UInt32} (s : BS w wr h k r W) (i : Nat) (hi : i < 64) (x : UInt32) :
    BS w (wr.setCell ⟨w.heap.size + 1 + 1 + 1, i, none⟩ (.int .u32 (x.toNat : Int))) h k r (H.upd W i x) :=
  ⟨s.hh.other _ _ _ (by omega), s.kk.other _ _ _ (by omega), s.rr.other _ _ _ (by omega), s.ww.set i hi x, s.bel.setCell (p := ⟨w.heap.size + 1 + 1 + 1, i, none⟩) (by show w.heap.size ≤ w.heap.size + 1 + 1 + 1; omega) _, by simpa using s.sz⟩

theorem BS.drew {w wr : World} {h k r W : Nat → UInt32} (s : BS w wr h k r W) : BS w wr.drew h k r W := ⟨s.hh, s.kk, s.rr, s.ww, s.bel.drew, s.sz⟩
theorem BS.drewN {w wr : World} {h k r W : Nat → UInt32} (s : BS w wr h k r W) (n : Nat) : BS w (wr.drewN n) h k r W := ⟨s.hh, s.kk, s.rr, s.ww, s.bel.trans ⟨rfl, rfl, rfl, Nat.le_refl _, fun _ _ => rfl⟩, s.sz⟩

def bAt (b : ByteArray) (j : Nat) : Nat := (b.data.toList.getD j 0).toNat
theorem bAt_eq (b : ByteArray) (j : Nat) (h : j < b.size) : bAt b j = b[j].toNat := by
  have hg : b.data.toList[j]? = some b[j] := by simp [ByteArray.getElem_eq_getElem_data]
  simp [bAt, List.getD, hg]

theorem run_at (b : ByteArray) (x : Int) (j : Nat) (hx : x = (j : Int)) (hj : j < b.size) (W : World) : (Instr.index 9 (.string b) (.int .i64 x)).run Tryz.prog W = .ok (.int .u8 (b[j].toNat : Int)) W := by
  subst hx
  rw [run_index_string (P := Tryz.prog) (w := W) 9 b .i64 _ Tryz.underlying9, dif_pos ⟨by omega, by omega⟩]
  simp

def L1 (w : World) (h k : Nat → UInt32) (b : ByteArray) (i : Value) (wr : World) : Prop :=
  ∃ m : Nat, m ≤ 16 ∧ i = .int .i64 m ∧ BS w wr h k (fun _ => 0) (H.wHead (bAt b) m)

def L2 (w : World) (h k : Nat → UInt32) (b : ByteArray) (i : Value) (wr : World) : Prop :=
  ∃ n : Nat, 16 ≤ n ∧ n ≤ 64 ∧ i = .int .i64 n ∧ BS w wr h k (fun _ => 0) (H.wMore (H.wHead (bAt b) 16) (n - 16))


structure S3 (w wr : World) (h k W s : Nat → UInt32) : Prop where
  hh : Arr wr w.heap.size 191 8 h
  kk : Arr wr (w.heap.size + 1) 193 64 k
  rr : Arr wr (w.heap.size + 1 + 1) 191 8 (fun _ => 0)
  ww : Arr wr (w.heap.size + 1 + 1 + 1) 193 64 W
  ss : Arr wr (w.heap.size + 1 + 1 + 1 + 1) 191 8 s
  bel : Below w.heap.size w wr
theorem BS.copy {w wr : World} {h k W : Nat → UInt32} {R : Array Value} (s : BS w wr h k (fun _ => 0) W) (hR : AggIs R 8 h) : S3 w (wr.alloc (.cells R 191)) h k W h :=
  ⟨s.hh.alloc _, s.kk.alloc _, s.rr.alloc _, s.ww.alloc _, by have := Arr.agg (w := wr) (t := 191) hR; rw [s.sz] at this; exact this, s.bel.alloc (by rw [s.sz]; omega) _⟩
theorem S3.setS {w wr : World} {h k W s : Nat → UInt32} (q : S3 w wr h k W s) (i : Nat) (hi : i < 8) (x : UInt32) :
    S3 w (wr.setCell ⟨w.heap.size + 1 + 1 + 1 + 1, i, none⟩ (.int .u32 (x.toNat : Int))) h k W (H.upd s i x) :=
  ⟨q.hh.other _ _ _ (by omega), q.kk.other _ _ _ (by omega), q.rr.other _ _ _ (by omega), q.ww.other _ _ _ (by omega), q.ss.set i hi x, q.bel.setCell (p := ⟨w.heap.size + 1 + 1 + 1 + 1, i, none⟩) (by show w.heap.size ≤ w.heap.size + 1 + 1 + 1 + 1; omega) _⟩
theorem S3.setH {w wr : World} {h k W s : Nat → UInt32} (q : S3 w wr h k W s) (i : Nat) (hi : i < 8) (x : UInt32) :
    S3 w (wr.setCell ⟨w.heap.size, i, none⟩ (.int .u32 (x.toNat : Int))) (H.upd h i x) k W s :=
  ⟨q.hh.set i hi x, q.kk.other _ _ _ (by omega), q.rr.other _ _ _ (by omega), q.ww.other _ _ _ (by omega), q.ss.other _ _ _ (by omega), q.bel.setCell (p := ⟨w.heap.size, i, none⟩) (Nat.le_refl _) _⟩
theorem S3.drewN {w wr : World} {h k W s : Nat → UInt32} (q : S3 w wr h k W s) (n : Nat) : S3 w (wr.drewN n) h k W s := ⟨q.hh, q.kk, q.rr, q.ww, q.ss, q.bel.trans ⟨rfl, rfl, rfl, Nat.le_refl _, fun _ _ => rfl⟩⟩
theorem S3.congr {w wr : World} {h k W s s' : Nat → UInt32} (q : S3 w wr h k W s) (e : ∀ i, i < 8 → s i = s' i) : S3 w wr h k W s' := ⟨q.hh, q.kk, q.rr, q.ww, q.ss.congr e, q.bel⟩

/-- the eight stores of a round -/
theorem S3.round {w wr : World} {h k W s : Nat → UInt32} (q : S3 w wr h k W s) (kx wx n4 n0 : UInt32) (e4 : s 3 + H.one s kx wx = n4) (e0 : H.one s kx wx + H.two s = n0) :
    S3 w ((((((((wr.setCell ⟨w.heap.size + 1 + 1 + 1 + 1, 7, none⟩ (.int .u32 ((s 6).toNat : Int))).setCell ⟨w.heap.size + 1 + 1 + 1 + 1, 6, none⟩ (.int .u32 ((s 5).toNat : Int))).setCell ⟨w.heap.size + 1 + 1 + 1 + 1, 5, none⟩ (.int .u32 ((s 4).toNat : Int))).setCell ⟨w.heap.size + 1 + 1 + 1 + 1, 4, none⟩ (.int .u32 (n4.toNat : Int))).setCell ⟨w.heap.size + 1 + 1 + 1 + 1, 3, none⟩ (.int .u32 ((s 2).toNat : Int))).setCell ⟨w.heap.size + 1 + 1 + 1 + 1, 2, none⟩ (.int .u32 ((s 1).toNat : Int))).setCell ⟨w.heap.size + 1 + 1 + 1 + 1, 1, none⟩ (.int .u32 ((s 0).toNat : Int))).setCell ⟨w.heap.size + 1 + 1 + 1 + 1, 0, none⟩ (.int .u32 (n0.toNat : Int))) h k W (H.round s kx wx) := by
  have h1 := (((((((q.setS 7 (by omega) (s 6)).setS 6 (by omega) (s 5)).setS 5 (by omega) (s 4)).setS 4 (by omega) n4).setS 3 (by omega) (s 2)).setS 2 (by omega) (s 1)).setS 1 (by omega) (s 0)).setS 0 (by omega) n0
  refine h1.congr ?_
  intro i hi
  have h8 : i = 0 ∨ i = 1 ∨ i = 2 ∨ i = 3 ∨ i = 4 ∨ i = 5 ∨ i = 6 ∨ i = 7 := by omega
  rcases h8 with rfl | rfl | rfl | rfl | rfl | rfl | rfl | rfl
  · simp [H.upd, H.round, e0]
  · simp [H.upd, H.round]
  · simp [H.upd, H.round]
  · simp [H.upd, H.round]
  · simp [H.upd, H.round, e4]
  · simp [H.upd, H.round]
  · simp [H.upd, H.round]
  · simp [H.upd, H.round]

def L3 (w : World) (h k W : Nat → UInt32) (i : Value) (wr : World) : Prop :=
  ∃ n : Nat, n ≤ 64 ∧ i = .int .i64 n ∧ S3 w wr h k W (H.rounds h k W n)
/-- the sums that are made so far -/
def part (h s : Nat → UInt32) (n : Nat) : Nat → UInt32 := fun i => if i < n then h i + s i else h i
def L4 (w : World) (h k W s : Nat → UInt32) (i : Value) (wr : World) : Prop :=
  ∃ n : Nat, n ≤ 8 ∧ i = .int .i64 n ∧ S3 w wr (part h s n) k W s
theorem part_succ (h s : Nat → UInt32) (n i : Nat) : H.upd (part h s n) n (h n + s n) i = part h s (n + 1) i := by
  unfold H.upd part
  by_cases h1 : i = n
  · subst h1; simp
  · by_cases h2 : i < n
    · simp [h1, h2]; omega
    · have h3 : ¬ i < n + 1 := by omega
      simp [h1, h2, h3]
theorem part_at (h s : Nat → UInt32) (n : Nat) : part h s n n = h n := by simp [part]
theorem S3.congrH {w wr : World} {h h' k W s : Nat → UInt32} (q : S3 w wr h k W s) (e : ∀ i, i < 8 → h i = h' i) : S3 w wr h' k W s := ⟨q.hh.congr e, q.kk, q.rr, q.ww, q.ss, q.bel⟩

theorem bx' {a b c : UInt32} (h : a ^^^ b = c) : bits .xor .u32 (a.toNat : Int) (b.toNat : Int) = (c.toNat : Int) := by subst h; exact H.bx a b
theorem ba' {a b c : UInt32} (h : a &&& b = c) : bits .and .u32 (a.toNat : Int) (b.toNat : Int) = (c.toNat : Int) := by subst h; exact H.ba a b
theorem badd' {a b c : UInt32} (h : a + b = c) : ((a.toNat : Int) + (b.toNat : Int)) % 4294967296 = (c.toNat : Int) := by subst h; exact H.badd a b

theorem quiet_same2 {P : Program} {f : FuncId} {args : Array Value} {w : World} {q n : Nat} {v : Value}
    (h : Calls P f args (w.drewN (q + n)) fun e w' => e = .returned v ∧ w' = w.drewN (q + n)) : Calls P f args (w.drewN (q + n)) fun e w'' => e = .returned v ∧ ∃ m, w'' = w.drewN (q + m) :=
  h.mono fun _ _ ⟨he, hm⟩ => ⟨he, n, hm⟩
end Go.Proofs.YthlgohplljcgfaaGreatDoor
