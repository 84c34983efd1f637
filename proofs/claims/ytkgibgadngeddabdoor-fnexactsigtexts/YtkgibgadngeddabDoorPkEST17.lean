/-
  Texts laid together: Os, Ta.
-/
import Derived.Test.YtkgibgadngeddabDoorPkEST15
import Derived.Test.YtkgibgadngeddabDoorPkEST4
/-
  Laws on a slice of texts that the call itself has made: appending to it, reading it, storing into it.
-/
namespace Go.Proofs.YtkgibgadngeddabDoor
open Go.RowKit
set_option linter.unusedVariables false

/-- v owns the texts l, in blocks from B on; below B all is as it was in w0 -/
def OS (B : Nat) (w0 w : World) (v : Value) (l : List ByteArray) : Prop :=
  w.ownsRow B 9 1 v l.length (svs l) ∧ Below B w0 w ∧ B ≤ w.heap.size

theorem OS.alloc {B : Nat} {w0 w : World} {v : Value} {l : List ByteArray} (h : OS B w0 w v l) (o : Obj) : OS B w0 (w.alloc o) v l :=
  ⟨h.1.alloc o, h.2.1.alloc h.2.2 o, by have := h.2.2; simp; omega⟩
theorem OS.drew {B : Nat} {w0 w : World} {v : Value} {l : List ByteArray} (h : OS B w0 w v l) : OS B w0 w.drew v l :=
  ⟨h.1.drew, h.2.1.drew, h.2.2⟩
theorem below_drn {B : Nat} {a w : World} (h : Below B a w) (n : Nat) : Below B a (w.drewN n) := h.trans ⟨rfl, rfl, rfl, Nat.le_refl _, fun _ _ => rfl⟩
theorem OS.drewN {B : Nat} {w0 w : World} {v : Value} {l : List ByteArray} (h : OS B w0 w v l) (n : Nat) : OS B w0 (w.drewN n) v l :=
  ⟨h.1, below_drn h.2.1 n, h.2.2⟩
theorem OS.made (w : World) : OS w.heap.size w (w.alloc (.cells #[] 9)) (.slice (some ⟨w.heap.size, 0, none⟩) 0 0) [] :=
  ⟨World.ownsRow_made w #[] 0 (Nat.le_refl _) (by decide) (by simp), (Below.refl _ _).alloc (Nat.le_refl _) _, by simp⟩
/-- what is owned stays so behind a call that leaves all that was there as it was -/
theorem OS.later {B : Nat} {w0 w w' : World} {v : Value} {l : List ByteArray} (h : OS B w0 w v l) (hb : Below w.heap.size w w') : OS B w0 w' v l := by
  refine ⟨⟨h.1.1, ?_⟩, h.2.1.trans (hb.mono h.2.2), Nat.le_trans h.2.2 hb.size⟩
  rcases h.1.2 with hn | ⟨g, cap, cur, hv, hbg, hg, rest⟩
  · exact .inl hn
  · refine .inr ⟨g, cap, cur, hv, hbg, ?_, rest⟩
    rw [hb.block g (Array.getElem?_eq_some_iff.1 hg).1]
    exact hg
/-- the same with another world at the bottom -/
theorem OS.from {B : Nat} {w0 w1 w : World} {v : Value} {l : List ByteArray} (h : OS B w1 w v l) (hb : Below B w0 w1) : OS B w0 w v l := ⟨h.1, hb.trans h.2.1, h.2.2⟩

theorem wp_appS {w : World} {ops : Array Oper} {rest : List Oper} {o : Oper} {a : Act} {Q : Exit → Act → World → Prop} (hgd : o.guard = none) (s x : Operand)
    (ho : o.op = .call { callee := .builtin .append, args := #[s, x], argTypes := #[22, 22] })
    (B : Nat) (w0 : World) (v : Value) (l : List ByteArray) (hs : a.eval s = v) (hown : OS B w0 w v l)
    (ad : Addr) (t : ByteArray) (hx : a.eval x = .slice (some ad) 1 1) (hnews : w.cell? ad = some (.string t)) (hlen : l.length ≤ 1000000)
    (h : ∀ v' w', OS B w0 w' v' (l ++ [t]) → wpList Tryd.prog ops Q rest (a.put o.dst v') w') : wpList Tryd.prog ops Q (o :: rest) a w := by
  obtain ⟨i0, hi, hz0, hz1, hz2⟩ := info_parts Tryd.info9
  refine wpList_append_own _ hgd s x 22 ho B 9 i0 (.string ByteArray.empty) 1 16 Tryd.underlying22 hi hz0 hz1 hz2 rfl (by decide) v l.length (svs l) hs hown.1 ad 1 1 [.string t] hx rfl ?_
    (fun u hu => by simp at hu; subst hu; rfl) (by unfold maxLen; omega) (by omega) hown.2.2 ?_
  · intro j u hj
    match j, hj with
    | 0, hj =>
      simp at hj
      subst hj
      have : ad.add 0 = ad := by unfold Addr.add; split <;> simp_all
      rw [this]
      exact hnews
  · intro v' w' h1 h2 _
    refine h v' w' ⟨by simpa [svs] using h1, hown.2.1.grown h2 hown.2.2 (fun k hk => (hown.1.lt k hk).1), ?_⟩
    exact Nat.le_trans hown.2.2 h2.size

/-- the shape of what is owned: nil and nothing, or a row from the head of a block -/
theorem OS.shape {B : Nat} {w0 w : World} {v : Value} {l : List ByteArray} (h : OS B w0 w v l) :
    (v = .slice none 0 0 ∧ l = []) ∨ ∃ g cap, v = .slice (some ⟨g, 0, none⟩) l.length cap ∧ B ≤ g ∧ g < w.heap.size := by
  rcases h.1.2 with ⟨hv, hn⟩ | ⟨g, cap, cur, hv, hbg, hg, rest⟩
  · exact .inl ⟨hv, List.length_eq_zero_iff.1 hn⟩
  · exact .inr ⟨g, cap, hv, hbg, (Array.getElem?_eq_some_iff.1 hg).1⟩

/-- a cell of what is owned -/
theorem OS.at {B : Nat} {w0 w : World} {l : List ByteArray} {g n cap : Nat} (h : OS B w0 w (.slice (some ⟨g, 0, none⟩) n cap) l) (j : Nat) (hj : j < l.length) : w.cell? ⟨g, j, none⟩ = some (.string l[j]) := by
  have h1 := h.1.cells (g := g) rfl j (.string l[j]) (by simp [svs, List.getElem?_eq_getElem hj])
  have e : (⟨g, 0, none⟩ : Addr).add j = ⟨g, j, none⟩ := by unfold Addr.add; split <;> simp_all
  rw [e] at h1
  exact h1

/-- what is owned begins its block -/
theorem OS.tb {B : Nat} {w0 w : World} {l : List ByteArray} {g n cap : Nat} (h : OS B w0 w (.slice (some ⟨g, 0, none⟩) n cap) l) : TB w g l := by
  have hat := fun j hj => h.at j hj
  rcases h.1.2 with ⟨hv, hn⟩ | ⟨g', cap', cur, hv, hbg, hg, rest⟩
  · simp at hv
  · simp at hv
    obtain ⟨rfl, _⟩ := hv
    refine ⟨cur, hg, fun j hj => ?_⟩
    have h1 := hat j hj
    rw [cell_of_row w g j cur 9 (0, 0) hg] at h1
    exact h1
theorem OS.ss {B : Nat} {w0 w : World} {v : Value} {l : List ByteArray} (h : OS B w0 w v l) (hl : l.length ≤ 1100000) : ∃ g, SS w v g 0 l := ss_own h.1 rfl hl
theorem OS.nil (w : World) : OS w.heap.size w w (.slice none 0 0) [] := ⟨World.ownsRow_nil _ _ _ _, Below.refl _ _, Nat.le_refl _⟩
theorem OS.lit (w : World) (t : ByteArray) : OS w.heap.size w (w.alloc (.cells #[.string t] 9)) (.slice (some ⟨w.heap.size, 0, none⟩) 1 1) [t] :=
  ⟨World.ownsRow_lit w #[.string t] 1 (Nat.le_refl _) (by decide) (by simp), (Below.refl _ _).alloc (Nat.le_refl _) _, by simp⟩

end Go.Proofs.YtkgibgadngeddabDoor
/-
  Arrays of texts by value: made, loaded, stored whole, sliced.
-/
namespace Go.Proofs.YtkgibgadngeddabDoor
open Go.RowKit
set_option linter.unusedVariables false

/-- block g is just the array of the texts l -/
def TA (w : World) (g t : Nat) (l : List ByteArray) : Prop := w.heap[g]? = some (.cells (svs l).toArray t (0, 0))
theorem TA.cell {w : World} {g t : Nat} {l : List ByteArray} (h : TA w g t l) (j : Nat) (hj : j < l.length) : w.cell? ⟨g, j, none⟩ = some (.string l[j]) := by
  rw [cell_of_row w g j _ t (0, 0) h]
  simp [svs, List.getElem?_eq_getElem hj]
theorem TA.frozen {w : World} {g t : Nat} {l : List ByteArray} (h : TA w g t l) (j : Nat) : w.frozen? ⟨g, j, none⟩ = false := by
  simp [World.frozen?, show w.heap[g]? = some (.cells (svs l).toArray t (0, 0)) from h]
theorem TA.lt {w : World} {g t : Nat} {l : List ByteArray} (h : TA w g t l) : g < w.heap.size := (Array.getElem?_eq_some_iff.1 h).1
theorem TA.set {w : World} {g t : Nat} {l : List ByteArray} (h : TA w g t l) (i : Nat) (x : ByteArray) : TA (w.setCell ⟨g, i, none⟩ (.string x)) g t (l.set i x) := by
  unfold TA at *
  rw [heap_setCell_same w g i _ t _ h]
  congr 2
  simp [svs, List.map_set]
theorem TA.keep {w w' : World} {g t : Nat} {l : List ByteArray} (h : TA w g t l) (he : w'.heap[g]? = w.heap[g]?) : TA w' g t l := by
  unfold TA at *
  rw [he, h]
theorem TA.below {w w' : World} {g t B : Nat} {l : List ByteArray} (h : TA w g t l) (hb : Below B w w') (hg : g < B) : TA w' g t l := h.keep (hb.block g hg)
theorem TA.later {w w' : World} {g t : Nat} {l : List ByteArray} (h : TA w g t l) (hb : Below w.heap.size w w') : TA w' g t l := h.below hb h.lt
theorem TA.ss {w : World} {g t : Nat} {l : List ByteArray} (h : TA w g t l) (cap n : Nat) (hn : l.length = n) (hl : n ≤ 1100000) : SS w (.slice (some ⟨g, 0, none⟩) n cap) g 0 l := by
  subst hn
  exact ⟨_, cap, rfl, hl, fun _ => rfl, fun j hj => by rw [Nat.zero_add]; exact h.cell j hj⟩
theorem TA.new (w : World) (l : List ByteArray) (t : Nat) : TA (w.alloc (.cells (svs l).toArray t)) w.heap.size t l := Go.heap_alloc_new w _

/-- an array of so many empty texts -/
def zT (n : Nat) : Array Value := (svs (List.replicate n ByteArray.empty)).toArray
theorem zT_size (n : Nat) : (zT n).size = n := by simp [zT, svs]
theorem TA.zero (w : World) (L : List ByteArray) (t n : Nat) (hn : L.length = n) : TA (w.alloc (.cells (zT n) t)) w.heap.size t (srow L 0) := by
  have e : srow L 0 = List.replicate n ByteArray.empty := by unfold srow; rw [hn]; rfl
  rw [e]
  exact TA.new w _ t
theorem svs_one (l : List ByteArray) : (svs l).toArray.all (·.oneCell') = true := by
  rw [Array.all_eq_true]
  intro i hi
  simp [svs]
  rfl
theorem svs_size (l : List ByteArray) : (svs l).toArray.size = l.length := by simp [svs]

theorem zeroA : (Tryd.prog.info? 42).map (fun i => (i.zero, i.size)) = some (some (.agg (zT 16)), 16) := by kernel_rfl
theorem sizeA : (Tryd.prog.info? 42).map (·.size) = some 16 := by kernel_rfl

section
variable {w : World} {ops : Array Oper} {rest : List Oper} {o : Oper} {a : Act} {Q : Exit → Act → World → Prop}

theorem wp_allocT (hgd : o.guard = none) (ty : TypeId) (n : Nat) (ho : o.op = .alloc ty) (hz : (Tryd.prog.info? ty).map (fun i => (i.zero, i.size)) = some (some (.agg (zT n)), n))
    (h : wpList Tryd.prog ops Q rest (a.put o.dst (.pointer (some ⟨w.heap.size, 0, none⟩))) (w.alloc (.cells (zT n) ty))) : wpList Tryd.prog ops Q (o :: rest) a w := by
  refine wpList_plain hgd fun K hK => ?_
  have h1 := (zero_of_info hz).1
  have hr : (Instr.alloc ty true (.tuple #[])).run Tryd.prog w = .ok (.pointer (some ⟨w.heap.size, 0, none⟩)) (w.alloc (.cells (zT n) ty)) := by
    unfold Instr.alloc
    simp [h1, newVar, newRow, Value.cells]
  unfold Oper.wp
  simp [execOp, ho, hr, Result.andThen]
  exact hK _ _ h
theorem run_loadT {w : World} {g t n : Nat} {l : List ByteArray} (ty e : TypeId) (hu : Tryd.prog.underlying ty = some (.array n e)) (hi : (Tryd.prog.info? ty).map (·.size) = some n) (hl : l.length = n) (hA : TA w g t l) :
    (Instr.loadAt ty (.pointer (some ⟨g, 0, none⟩))).run Tryd.prog w = .ok (.agg (svs l).toArray) w := by
  simp only [Instr.loadAt, Instr.sureAddr, Sem.run_bind, Sem.run_pure, Result.andThen]
  exact run_loadVar_row w g t ty _ (0, 0) _ hA hu rfl (by rw [svs_size, hl]; exact hi)
theorem wp_loadT (hgd : o.guard = none) (ty : TypeId) (p : Operand) (ho : o.op = .load ty p) (g t n : Nat) (l : List ByteArray) (e : TypeId) (hp : a.eval p = .pointer (some ⟨g, 0, none⟩)) (hA : TA w g t l) (hl : l.length = n)
    (hu : Tryd.prog.underlying ty = some (.array n e)) (hi : (Tryd.prog.info? ty).map (·.size) = some n)
    (h : wpList Tryd.prog ops Q rest (a.put o.dst (.agg (svs l).toArray)) w) : wpList Tryd.prog ops Q (o :: rest) a w := by
  refine wpList_plain hgd fun K hK => ?_
  have hr := run_loadT ty e hu hi hl hA
  unfold Oper.wp
  simp [execOp, ho, hp, hr, Result.andThen]
  exact hK _ _ h
theorem run_storeT {w : World} {g t n : Nat} {l r : List ByteArray} (ty : TypeId) (hi : (Tryd.prog.info? ty).map (·.size) = some n) (hA : TA w g t l) (hl : l.length = n) (hr : r.length = n) :
    (Instr.storeAt ty (.pointer (some ⟨g, 0, none⟩)) (.agg (svs r).toArray)).run Tryd.prog w = .ok () (w.setRow g (svs r).toArray) ∧ TA (w.setRow g (svs r).toArray) g t r := by
  constructor
  · simp only [Instr.storeAt, Instr.sureAddr, Sem.run_bind, Sem.run_pure, Result.andThen]
    exact run_storeVar_row w g t ty _ _ hA (by rw [svs_size, hr]; exact hi) (by rw [svs_size, svs_size, hl, hr]) (svs_one r)
  · exact setRow_heap w g _ _ t _ hA
/-- a whole array over an old one -/
theorem wp_storeT (hgd : o.guard = none) (ty : TypeId) (p v : Operand) (ho : o.op = .store ty p v) (g t n : Nat) (l r : List ByteArray) (hA : TA w g t l) (hl : l.length = n) (hr : r.length = n) (hp : a.eval p = .pointer (some ⟨g, 0, none⟩)) (hv : a.eval v = .agg (svs r).toArray)
    (hi : (Tryd.prog.info? ty).map (·.size) = some n)
    (h : TA (w.setRow g (svs r).toArray) g t r → wpList Tryd.prog ops Q rest (a.put o.dst (.tuple #[])) (w.setRow g (svs r).toArray)) : wpList Tryd.prog ops Q (o :: rest) a w := by
  refine wpList_plain hgd fun K hK => ?_
  obtain ⟨h1, h2⟩ := run_storeT ty hi hA hl hr
  unfold Oper.wp
  simp [execOp, ho, hp, hv, h1, Result.andThen]
  exact hK _ _ (h h2)
/-- a whole array into the block that was made last -/
theorem wp_storeNewT (hgd : o.guard = none) (ty n : Nat) (p v : Operand) (ho : o.op = .store ty p v) (w0 : World) (c : Array Value) (r : List ByteArray) (hw : w = w0.alloc (.cells c ty)) (hc : c.size = n) (hr : r.length = n) (hp : a.eval p = .pointer (some ⟨w0.heap.size, 0, none⟩)) (hv : a.eval v = .agg (svs r).toArray)
    (hi : (Tryd.prog.info? ty).map (·.size) = some n)
    (h : wpList Tryd.prog ops Q rest (a.put o.dst (.tuple #[])) (w0.alloc (.cells (svs r).toArray ty))) : wpList Tryd.prog ops Q (o :: rest) a w := by
  subst hw
  refine wpList_plain hgd fun K hK => ?_
  have h1 := run_storeAt_new (P := Tryd.prog) w0 ty c (svs r).toArray (by rw [svs_size, hr]; exact hi) (by rw [hc, svs_size, hr]) (svs_one r)
  unfold Oper.wp
  simp [execOp, ho, hp, hv, h1, Result.andThen]
  exact hK _ _ h
end

theorem TA.otherRow {w : World} {g t k : Nat} {l : List ByteArray} {R : Array Value} (h : TA w g t l) (hk : g ≠ k) : TA (w.setRow k R) g t l :=
  h.keep (setRow_other w k g R hk)

end Go.Proofs.YtkgibgadngeddabDoor
