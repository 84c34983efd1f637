/-
  Arrays of texts by value: made, loaded, stored whole, sliced.
-/
import Derived.Test.YtkgibgadngeddaaDoorOs
import Derived.Test.YtkgibgadngeddaaDoorWhole
namespace Go.Proofs.YtkgibgadngeddaaDoor
open Go.RowKit
set_option linter.unusedVariables false

/-- block g is just the array of the texts l -/
def TA (w : World) (g t : Nat) (l : List ByteArray) : Prop := w.heap[g]? = some (.cells (svs l).toArray t (0, 0))
theorem TA.cell {w : World} {g t : Nat} {l : List ByteArray} (h : TA w g t l) (j : Nat) (hj : j < l.length) : w.cell? ⟨g, j, none⟩ = some (.string l[j]) := by
  rw [cell_of_row w g j _ t (0, 0) h]
  simp [svs, List.getElem?_eq_getElem hj]
theorem TA.frozen {w : World} {g t : Nat} {l : List ByteArray} (h : TA w g t l) (j : Nat) : w.frozen? ⟨g, j, none⟩ = false := by
  simp [World.frozen?, show w.heap[g]? = some (.cells (svs l).toArray t (0, 0)) from h]
theorem TA.lt {w : World} {g t : Nat} {l : List ByteArray} (h : TA w g t l) : g < w.heap.size := (Array.getElem?_eq_some_iff.1 h).1
theorem TA.set {w : World} {g t : Nat} {l : List ByteArray} (h : TA w g t l) (i : Nat) (x : ByteArray) : TA (w.setCell ⟨g, i, none⟩ (.string x)) g t (l.set i x) := by
  unfold TA at *
  rw [heap_setCell_same w g i _ t _ h]
  congr 2
  simp [svs, List.map_set]
theorem TA.keep {w w' : World} {g t : Nat} {l : List ByteArray} (h : TA w g t l) (he : w'.heap[g]? = w.heap[g]?) : TA w' g t l := by
  unfold TA at *
  rw [he, h]
theorem TA.below {w w' : World} {g t B : Nat} {l : List ByteArray} (h : TA w g t l) (hb : Below B w w') (hg : g < B) : TA w' g t l := h.keep (hb.block g hg)
theorem TA.later {w w' : World} {g t : Nat} {l : List ByteArray} (h : TA w g t l) (hb : Below w.heap.size w w') : TA w' g t l := h.below hb h.lt
theorem TA.ss {w : World} {g t : Nat} {l : List ByteArray} (h : TA w g t l) (cap n : Nat) (hn : l.length = n) (hl : n ≤ 1100000) : SS w (.slice (some ⟨g, 0, none⟩) n cap) g 0 l := by
  subst hn
  exact ⟨_, cap, rfl, hl, fun _ => rfl, fun j hj => by rw [Nat.zero_add]; exact h.cell j hj⟩
theorem TA.new (w : World) (l : List ByteArray) (t : Nat) : TA (w.alloc (.cells (svs l).toArray t)) w.heap.size t l := Go.heap_alloc_new w _

/-- an array of so many empty texts -/
def zT (n : Nat) : Array Value := (svs (List.replicate n ByteArray.empty)).toArray
theorem zT_size (n : Nat) : (zT n).size = n := by simp [zT, svs]
theorem TA.zero (w : World) (L : List ByteArray) (t n : Nat) (hn : L.length = n) : TA (w.alloc (.cells (zT n) t)) w.heap.size t (srow L 0) := by
  have e : srow L 0 = List.replicate n ByteArray.empty := by unfold srow; rw [hn]; rfl
  rw [e]
  exact TA.new w _ t
theorem svs_one (l : List ByteArray) : (svs l).toArray.all (·.oneCell') = true := by
  rw [Array.all_eq_true]
  intro i hi
  simp [svs]
  rfl
theorem svs_size (l : List ByteArray) : (svs l).toArray.size = l.length := by simp [svs]

theorem zeroP : (Tryd.prog.info? 43).map (fun i => (i.zero, i.size)) = some (some (.agg (zT 16)), 16) := by kernel_rfl
theorem sizePT : (Tryd.prog.info? 43).map (·.size) = some 16 := by kernel_rfl
theorem zeroA : (Tryd.prog.info? 41).map (fun i => (i.zero, i.size)) = some (some (.agg (zT 16)), 16) := by kernel_rfl
theorem sizeA : (Tryd.prog.info? 41).map (·.size) = some 16 := by kernel_rfl

section
variable {w : World} {ops : Array Oper} {rest : List Oper} {o : Oper} {a : Act} {Q : Exit → Act → World → Prop}

theorem wp_allocT (hgd : o.guard = none) (ty : TypeId) (n : Nat) (ho : o.op = .alloc ty) (hz : (Tryd.prog.info? ty).map (fun i => (i.zero, i.size)) = some (some (.agg (zT n)), n))
    (h : wpList Tryd.prog ops Q rest (a.put o.dst (.pointer (some ⟨w.heap.size, 0, none⟩))) (w.alloc (.cells (zT n) ty))) : wpList Tryd.prog ops Q (o :: rest) a w := by
  refine wpList_plain hgd fun K hK => ?_
  have h1 := (zero_of_info hz).1
  have hr : (Instr.alloc ty true (.tuple #[])).run Tryd.prog w = .ok (.pointer (some ⟨w.heap.size, 0, none⟩)) (w.alloc (.cells (zT n) ty)) := by
    unfold Instr.alloc
    simp [h1, newVar, newRow, Value.cells]
  unfold Oper.wp
  simp [execOp, ho, hr, Result.andThen]
  exact hK _ _ h
theorem run_loadT {w : World} {g t n : Nat} {l : List ByteArray} (ty e : TypeId) (hu : Tryd.prog.underlying ty = some (.array n e)) (hi : (Tryd.prog.info? ty).map (·.size) = some n) (hl : l.length = n) (hA : TA w g t l) :
    (Instr.loadAt ty (.pointer (some ⟨g, 0, none⟩))).run Tryd.prog w = .ok (.agg (svs l).toArray) w := by
  simp only [Instr.loadAt, Instr.sureAddr, Sem.run_bind, Sem.run_pure, Result.andThen]
  exact run_loadVar_row w g t ty _ (0, 0) _ hA hu rfl (by rw [svs_size, hl]; exact hi)
theorem wp_loadT (hgd : o.guard = none) (ty : TypeId) (p : Operand) (ho : o.op = .load ty p) (g t n : Nat) (l : List ByteArray) (e : TypeId) (hp : a.eval p = .pointer (some ⟨g, 0, none⟩)) (hA : TA w g t l) (hl : l.length = n)
    (hu : Tryd.prog.underlying ty = some (.array n e)) (hi : (Tryd.prog.info? ty).map (·.size) = some n)
    (h : wpList Tryd.prog ops Q rest (a.put o.dst (.agg (svs l).toArray)) w) : wpList Tryd.prog ops Q (o :: rest) a w := by
  refine wpList_plain hgd fun K hK => ?_
  have hr := run_loadT ty e hu hi hl hA
  unfold Oper.wp
  simp [execOp, ho, hp, hr, Result.andThen]
  exact hK _ _ h
theorem run_storeT {w : World} {g t n : Nat} {l r : List ByteArray} (ty : TypeId) (hi : (Tryd.prog.info? ty).map (·.size) = some n) (hA : TA w g t l) (hl : l.length = n) (hr : r.length = n) :
    (Instr.storeAt ty (.pointer (some ⟨g, 0, none⟩)) (.agg (svs r).toArray)).run Tryd.prog w = .ok () (w.setRow g (svs r).toArray) ∧ TA (w.setRow g (svs r).toArray) g t r := by
  constructor
  · simp only [Instr.storeAt, Instr.sureAddr, Sem.run_bind, Sem.run_pure, Result.andThen]
    exact run_storeVar_row w g t ty _ _ hA (by rw [svs_size, hr]; exact hi) (by rw [svs_size, svs_size, hl, hr]) (svs_one r)
  · exact setRow_heap w g _ _ t _ hA
/-- a whole array over an old one -/
theorem wp_storeT (hgd : o.guard = none) (ty : TypeId) (p v : Operand) (ho : o.op = .store ty p v) (g t n : Nat) (l r : List ByteArray) (hA : TA w g t l) (hl : l.length = n) (hr : r.length = n) (hp : a.eval p = .pointer (some ⟨g, 0, none⟩)) (hv : a.eval v = .agg (svs r).toArray)
    (hi : (Tryd.prog.info? ty).map (·.size) = some n)
    (h : TA (w.setRow g (svs r).toArray) g t r → wpList Tryd.prog ops Q rest (a.put o.dst (.tuple #[])) (w.setRow g (svs r).toArray)) : wpList Tryd.prog ops Q (o :: rest) a w := by
  refine wpList_plain hgd fun K hK => ?_
  obtain ⟨h1, h2⟩ := run_storeT ty hi hA hl hr
  unfold Oper.wp
  simp [execOp, ho, hp, hv, h1, Result.andThen]
  exact hK _ _ (h h2)
/-- a whole array into the block that was made last -/
theorem wp_storeNewT (hgd : o.guard = none) (ty n : Nat) (p v : Operand) (ho : o.op = .store ty p v) (w0 : World) (c : Array Value) (r : List ByteArray) (hw : w = w0.alloc (.cells c ty)) (hc : c.size = n) (hr : r.length = n) (hp : a.eval p = .pointer (some ⟨w0.heap.size, 0, none⟩)) (hv : a.eval v = .agg (svs r).toArray)
    (hi : (Tryd.prog.info? ty).map (·.size) = some n)
    (h : wpList Tryd.prog ops Q rest (a.put o.dst (.tuple #[])) (w0.alloc (.cells (svs r).toArray ty))) : wpList Tryd.prog ops Q (o :: rest) a w := by
  subst hw
  refine wpList_plain hgd fun K hK => ?_
  have h1 := run_storeAt_new (P := Tryd.prog) w0 ty c (svs r).toArray (by rw [svs_size, hr]; exact hi) (by rw [hc, svs_size, hr]) (svs_one r)
  unfold Oper.wp
  simp [execOp, ho, hp, hv, h1, Result.andThen]
  exact hK _ _ h
end

theorem TA.otherRow {w : World} {g t k : Nat} {l : List ByteArray} {R : Array Value} (h : TA w g t l) (hk : g ≠ k) : TA (w.setRow k R) g t l :=
  h.keep (setRow_other w k g R hk)

end Go.Proofs.YtkgibgadngeddaaDoor
