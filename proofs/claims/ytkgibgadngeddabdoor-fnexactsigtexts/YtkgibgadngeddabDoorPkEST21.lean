/-
  Texts laid together: Sgm, Lkt.
-/
import Derived.Test.YtkgibgadngeddabDoorPkEST20
import Derived.Laws.Rows
import Derived.Laws.Tables
import Derived.Test.YtkgibgadngeddabDoorPkEST19
import Derived.StillTailTactics
/-
  A signature as a struct: in a block of its own, its fields stored one by one, answered beside a flag.
-/
namespace Go.Proofs.YtkgibgadngeddabDoor
open Go.RowKit
set_option linter.unusedVariables false

/-- block g is a signature with these fields -/
def SgM (w : World) (g : Nat) (a : Int) (v1 v2 v3 : Value) : Prop := w.heap[g]? = some (.cells #[.int .i64 a, v1, v2, v3] 27 (0, 0))
theorem SgM.c0 {w : World} {g : Nat} {a : Int} {v1 v2 v3 : Value} (h : SgM w g a v1 v2 v3) : w.cell? ⟨g, 0, none⟩ = some (.int .i64 a) := by rw [cell_of_row w g 0 _ _ (0, 0) h]; rfl
theorem SgM.c1 {w : World} {g : Nat} {a : Int} {v1 v2 v3 : Value} (h : SgM w g a v1 v2 v3) : w.cell? ⟨g, 1, none⟩ = some v1 := by rw [cell_of_row w g 1 _ _ (0, 0) h]; rfl
theorem SgM.c2 {w : World} {g : Nat} {a : Int} {v1 v2 v3 : Value} (h : SgM w g a v1 v2 v3) : w.cell? ⟨g, 2, none⟩ = some v2 := by rw [cell_of_row w g 2 _ _ (0, 0) h]; rfl
theorem SgM.c3 {w : World} {g : Nat} {a : Int} {v1 v2 v3 : Value} (h : SgM w g a v1 v2 v3) : w.cell? ⟨g, 3, none⟩ = some v3 := by rw [cell_of_row w g 3 _ _ (0, 0) h]; rfl
theorem SgM.fr {w : World} {g : Nat} {a : Int} {v1 v2 v3 : Value} (h : SgM w g a v1 v2 v3) (j : Nat) : w.frozen? ⟨g, j, none⟩ = false := by
  simp [World.frozen?, show w.heap[g]? = some (.cells #[.int .i64 a, v1, v2, v3] 27 (0, 0)) from h]
theorem SgM.lt {w : World} {g : Nat} {a : Int} {v1 v2 v3 : Value} (h : SgM w g a v1 v2 v3) : g < w.heap.size := (Array.getElem?_eq_some_iff.1 h).1
theorem SgM.set1 {w : World} {g : Nat} {a : Int} {v1 v2 v3 : Value} (h : SgM w g a v1 v2 v3) (v : Value) : SgM (w.setCell ⟨g, 1, none⟩ v) g a v v2 v3 := by
  unfold SgM at *
  rw [heap_setCell_same w g 1 _ _ _ h]
  rfl
theorem SgM.set2 {w : World} {g : Nat} {a : Int} {v1 v2 v3 : Value} (h : SgM w g a v1 v2 v3) (v : Value) : SgM (w.setCell ⟨g, 2, none⟩ v) g a v1 v v3 := by
  unfold SgM at *
  rw [heap_setCell_same w g 2 _ _ _ h]
  rfl
theorem SgM.set3 {w : World} {g : Nat} {a : Int} {v1 v2 v3 : Value} (h : SgM w g a v1 v2 v3) (v : Value) : SgM (w.setCell ⟨g, 3, none⟩ v) g a v1 v2 v := by
  unfold SgM at *
  rw [heap_setCell_same w g 3 _ _ _ h]
  rfl
theorem SgM.keep {w w' : World} {g : Nat} {a : Int} {v1 v2 v3 : Value} (h : SgM w g a v1 v2 v3) (he : w'.heap[g]? = w.heap[g]?) : SgM w' g a v1 v2 v3 := by
  unfold SgM at *
  rw [he, h]
theorem SgM.later {w w' : World} {g : Nat} {a : Int} {v1 v2 v3 : Value} (h : SgM w g a v1 v2 v3) (hb : Below w.heap.size w w') : SgM w' g a v1 v2 v3 := h.keep (hb.block g h.lt)
theorem SgM.keptG {w w' : World} {g : Nat} {row : Option Nat} {a : Int} {v1 v2 v3 : Value} (h : SgM w g a v1 v2 v3) (hg : w.grownBy w' row) (hne : some g ≠ row) : SgM w' g a v1 v2 v3 := h.keep (hg.block g h.lt hne)
theorem SgM.new (w : World) (a : Int) (v1 v2 v3 : Value) : SgM (w.alloc (.cells #[.int .i64 a, v1, v2, v3] 27)) w.heap.size a v1 v2 v3 := Go.heap_alloc_new w _

theorem sizeS : (Tryd.prog.info? 27).map (·.size) = some 4 := by kernel_rfl
theorem load_sig {w : World} {g : Nat} {x : Int} {v1 v2 v3 : Value} (hA : SgM w g x v1 v2 v3) : (loadVar 27 ⟨g, 0, none⟩).run Tryd.prog w = .ok (.agg #[.int .i64 x, v1, v2, v3]) w :=
  run_loadVar_row (P := Tryd.prog) w g 27 27 _ (0, 0) _ hA Tryd.underlying27 rfl sizeS

/-- a signature and a flag, answered -/
theorem ret_sig2 {fn : Func} {Rp : Ending → World → Prop} {a : Act} {w : World} (c s g : Nat) (x : Int) (v1 v2 v3 b : Value) (hres : fn.results = #[.cell c 27, .tmp s]) (hd : a.defers = []) (hp : a.tmps.getD c undef = .pointer (some ⟨g, 0, none⟩)) (hb : a.tmps.getD s undef = b)
    (hA : SgM w g x v1 v2 v3) (h : Rp (.returned (.tuple #[.agg #[.int .i64 x, v1, v2, v3], b])) w) : bodyPost Tryd.prog fn Rp .ret a w := by
  have hr := load_sig hA
  refine bodyPost_ret (v := .tuple #[.agg #[.int .i64 x, v1, v2, v3], b]) ?_ hd h
  have hp' : a.tmps[c]?.getD undef = .pointer (some ⟨g, 0, none⟩) := by simpa using hp
  have hb' : a.tmps[s]?.getD undef = b := by simpa using hb
  simp [results, hres, asAddr, hr, hp', hb']

section
variable {w : World} {ops : Array Oper} {rest : List Oper} {o : Oper} {a : Act} {Q : Exit → Act → World → Prop}
/-- a signature loaded whole -/
theorem wp_loadSig (hgd : o.guard = none) (p : Operand) (ho : o.op = .load 27 p) (g : Nat) (x : Int) (v1 v2 v3 : Value) (hp : a.eval p = .pointer (some ⟨g, 0, none⟩)) (hA : SgM w g x v1 v2 v3)
    (h : wpList Tryd.prog ops Q rest (a.put o.dst (.agg #[.int .i64 x, v1, v2, v3])) w) : wpList Tryd.prog ops Q (o :: rest) a w := by
  refine wpList_plain hgd fun K hK => ?_
  have hr : (Instr.loadAt 27 (.pointer (some ⟨g, 0, none⟩))).run Tryd.prog w = .ok (.agg #[.int .i64 x, v1, v2, v3]) w := by
    simp only [Instr.loadAt, Instr.sureAddr, Sem.run_bind, Sem.run_pure, Result.andThen]
    exact load_sig hA
  unfold Oper.wp
  simp [execOp, ho, hp, hr, Result.andThen]
  exact hK _ _ h
/-- a signature stored whole -/
theorem wp_storeSig (hgd : o.guard = none) (p v : Operand) (ho : o.op = .store 27 p v) (g : Nat) (x y : Int) (v1 v2 v3 u1 u2 u3 : Value) (hA : SgM w g x v1 v2 v3) (hp : a.eval p = .pointer (some ⟨g, 0, none⟩)) (hv : a.eval v = .agg #[.int .i64 y, u1, u2, u3])
    (h1 : u1.oneCell' = true) (h2 : u2.oneCell' = true) (h3 : u3.oneCell' = true)
    (h : SgM (w.setRow g #[.int .i64 y, u1, u2, u3]) g y u1 u2 u3 → wpList Tryd.prog ops Q rest (a.put o.dst (.tuple #[])) (w.setRow g #[.int .i64 y, u1, u2, u3])) : wpList Tryd.prog ops Q (o :: rest) a w := by
  refine wpList_plain hgd fun K hK => ?_
  have hr : (Instr.storeAt 27 (.pointer (some ⟨g, 0, none⟩)) (.agg #[.int .i64 y, u1, u2, u3])).run Tryd.prog w = .ok () (w.setRow g #[.int .i64 y, u1, u2, u3]) := by
    simp only [Instr.storeAt, Instr.sureAddr, Sem.run_bind, Sem.run_pure, Result.andThen]
    refine run_storeVar_row w g 27 27 _ _ hA sizeS rfl ?_
    simp [h1, h2, h3]
    rfl
  unfold Oper.wp
  simp [execOp, ho, hp, hv, hr, Result.andThen]
  exact hK _ _ (h (setRow_heap w g _ _ _ _ hA))
end

end Go.Proofs.YtkgibgadngeddabDoor
/-
  What lockTexts answers: the texts of the opened secrets, and all locks.
-/
namespace Go.Proofs.YtkgibgadngeddabDoor
open Go.RowKit Go.BigFrame
set_option linter.unusedVariables false

/-- 'make([]string, 0, n)' -/
theorem run_mkT (n : Nat) (h : n ≤ 1000000000) (W : World) : ∃ M : Array Value, (Instr.makeSlice 22 (.int .i64 0) (.int .i64 (n : Int))).run Tryd.prog W = .ok (.slice (some ⟨W.heap.size, 0, none⟩) 0 n) (W.alloc (.cells M 9)) ∧ OS W.heap.size W (W.alloc (.cells M 9)) (.slice (some ⟨W.heap.size, 0, none⟩) 0 n) [] := by
  obtain ⟨i0, hi, hz0, hz1, hz2⟩ := info_parts Tryd.info9
  have h1 := run_make (P := Tryd.prog) W 22 9 i0 (.string ByteArray.empty) Tryd.underlying22 hi hz0 .i64 .i64 0 (n : Int) (by omega) (by omega) (by rw [hz2]; omega) (by omega)
  refine ⟨madeCells (Value.string ByteArray.empty).cells (((n : Nat) : Int).toNat * i0.size), by simpa using h1, ?_⟩
  refine ⟨World.ownsRow_made W _ n (Nat.le_refl _) (by unfold maxLen; omega) ?_, (Below.refl _ _).alloc (Nat.le_refl _) _, by simp⟩
  rw [size_madeCells, hz1]
  simp

/-- an array of texts is no row that a call appends to -/
theorem TA.keptO {w w' : World} {g t B : Nat} {w0 : World} {v : Value} {l r : List ByteArray} (h : TA w g t l) (ht : t ≠ 9) (ho : OS B w0 w v r) (hg : w.grownBy w' v.ownBlock) : TA w' g t l := by
  have hlt : g < w.heap.size := h.lt
  refine h.keep (hg.block g hlt ?_)
  intro he
  rcases ho.1.2 with ⟨rfl, _⟩ | ⟨g', cap, cur, rfl, _, hg', _⟩
  · simp [Value.ownBlock] at he
  · simp [Value.ownBlock] at he
    subst he
    unfold TA at h
    rw [h] at hg'
    simp at hg'
    exact ht hg'.2
theorem SgM.keptO {w w' : World} {g B : Nat} {w0 : World} {v : Value} {x : Int} {v1 v2 v3 : Value} {r : List ByteArray} (h : SgM w g x v1 v2 v3) (ho : OS B w0 w v r) (hg : w.grownBy w' v.ownBlock) : SgM w' g x v1 v2 v3 := by
  refine h.keep (hg.block g h.lt ?_)
  intro he
  rcases ho.1.2 with ⟨rfl, _⟩ | ⟨g', cap, cur, rfl, _, hg', _⟩
  · simp [Value.ownBlock] at he
  · simp [Value.ownBlock] at he
    subst he
    unfold SgM at h
    rw [h] at hg'
    simp at hg'

theorem os_ne {B g t : Nat} {w0 w : World} {v : Value} {l r : List ByteArray} (ho : OS B w0 w v r) (h : TA w g t l) (ht : t ≠ 9) : v.ownBlock = none ∨ v.ownBlock ≠ some g := by
  refine .inr (fun he => ?_)
  rcases ho.1.2 with ⟨rfl, _⟩ | ⟨g', cap, cur, rfl, _, hg', _⟩
  · simp [Value.ownBlock] at he
  · simp [Value.ownBlock] at he
    subst he
    unfold TA at h
    rw [h] at hg'
    simp at hg'
    exact ht hg'.2

/-- one text appended, and that nothing else turned -/
theorem wp_appSG {w : World} {ops : Array Oper} {rest : List Oper} {o : Oper} {a : Act} {Q : Exit → Act → World → Prop} (hgd : o.guard = none) (s x : Operand)
    (ho : o.op = .call { callee := .builtin .append, args := #[s, x], argTypes := #[22, 22] })
    (B : Nat) (w0 : World) (v : Value) (l : List ByteArray) (hs : a.eval s = v) (hown : OS B w0 w v l)
    (ad : Addr) (t : ByteArray) (hx : a.eval x = .slice (some ad) 1 1) (hnews : w.cell? ad = some (.string t)) (hlen : l.length ≤ 1000000)
    (h : ∀ v' w', OS B w0 w' v' (l ++ [t]) → w.grownBy w' v.ownBlock → wpList Tryd.prog ops Q rest (a.put o.dst v') w') : wpList Tryd.prog ops Q (o :: rest) a w := by
  obtain ⟨i0, hi, hz0, hz1, hz2⟩ := info_parts Tryd.info9
  refine wpList_append_own _ hgd s x 22 ho B 9 i0 (.string ByteArray.empty) 1 16 Tryd.underlying22 hi hz0 hz1 hz2 rfl (by decide) v l.length (svs l) hs hown.1 ad 1 1 [.string t] hx rfl ?_
    (fun u hu => by simp at hu; subst hu; rfl) (by unfold maxLen; omega) (by omega) hown.2.2 ?_
  · intro j u hj
    match j, hj with
    | 0, hj =>
      simp at hj
      subst hj
      have : ad.add 0 = ad := by unfold Addr.add; split <;> simp_all
      rw [this]
      exact hnews
  · intro v' w' h1 h2 _
    exact h v' w' ⟨by simpa [svs] using h1, hown.2.1.grown h2 hown.2.2 (fun k hk => (hown.1.lt k hk).1), Nat.le_trans hown.2.2 h2.size⟩ h2

/-- the locks so far, and nothing behind -/
def lkR (b : Nat) (o s : List ByteArray) (m : Nat) : List ByteArray := lkN b o s m ++ List.replicate (16 - 2 * m) ByteArray.empty
theorem lkR_len (b : Nat) (o s : List ByteArray) (m : Nat) (h : m ≤ 8) : (lkR b o s m).length = 16 := by
  unfold lkR
  rw [List.length_append, lkN_len, List.length_replicate]
  omega
theorem lkR_all (b : Nat) (o s : List ByteArray) : lkR b o s 8 = lkN b o s 8 := by simp [lkR]
theorem lkR_step (b : Nat) (o s : List ByteArray) (m : Nat) (h : m < 8) : ((lkR b o s m).set (2 * m + bitN b m) (lockB (gB o m))).set (2 * m + 1 - bitN b m) (gB s m) = lkR b o s (m + 1) := by
  unfold lkR
  rw [lkN_step]
  have e : 16 - 2 * m = (16 - 2 * (m + 1)) + 1 + 1 := by omega
  rw [e, List.replicate_succ, List.replicate_succ]
  have hl := lkN_len b o s m
  have hb := bitN_lt b m
  have h0 : bitN b m = 0 ∨ bitN b m = 1 := by omega
  rcases h0 with h0 | h0
  · rw [h0, List.set_append_right _ _ (by omega), hl, show 2 * m + 0 - 2 * m = 0 by omega, List.set_cons_zero, List.set_append_right _ _ (by omega), hl, show 2 * m + 1 - 0 - 2 * m = 1 by omega]
    unfold lk2
    rw [h0]
    simp
  · rw [h0, List.set_append_right _ _ (by omega), hl, show 2 * m + 1 - 2 * m = 1 by omega, List.set_cons_succ, List.set_cons_zero, List.set_append_right _ _ (by omega), hl, show 2 * m + 1 - 1 - 2 * m = 0 by omega]
    unfold lk2
    rw [h0]
    simp

theorem grown_setRow2 (w : World) (g : Nat) (R : Array Value) : w.grownBy (w.setRow g R) (some g) :=
  ⟨rfl, rfl, rfl, by simp [World.setRow], fun k _ hk => setRow_other w g k R (fun e => hk (by simp [e]))⟩
theorem still_loadT {w : World} {ops : Array Oper} {rest : List Oper} {o : Oper} {a : Act} {Q : Act → Prop} (hgd : o.guard = none) (ty : TypeId) (p : Operand) (ho : o.op = .load ty p) (g t n : Nat) (l : List ByteArray) (e : TypeId) (hp : a.eval p = .pointer (some ⟨g, 0, none⟩)) (hA : TA w g t l) (hl : l.length = n)
    (hu : Tryd.prog.underlying ty = some (.array n e)) (hi : (Tryd.prog.info? ty).map (·.size) = some n)
    (h : wpStill Tryd.prog ops w Q rest (a.put o.dst (.agg (svs l).toArray))) : wpStill Tryd.prog ops w Q (o :: rest) a := by
  refine wpStill_step fun K hK => ?_
  have hr := run_loadT ty e hu hi hl hA
  have hw : Region.wanted o (yielded ops a.tmps) = true := by simp [Region.wanted, hgd]
  rw [if_pos hw]
  unfold Oper.still
  simp [execOp, ho, hp, hr, Result.andThen, Oper.stillUpon]
  exact hK _ h

/-- what each round of lockTexts holds -/
def LtR (b : Nat) (o s : List ByteArray) (w : World) (a : Int) (vo vs vd v i : Value) (wr : World) : Prop :=
  ∃ m : Nat, m ≤ 8 ∧ i = .int .i64 m ∧ OS w.heap.size w wr v (txN o m) ∧ TA wr (w.heap.size + 1 + 1 + 1) 42 (lkR b o s m) ∧ TA wr (w.heap.size + 1) 42 (List.replicate 16 ByteArray.empty) ∧ SgM wr w.heap.size a vo vs vd
/-- a row of texts and an array of them, answered -/
theorem ret_rowArr {fn : Func} {Rp : Ending → World → Prop} {a : Act} {w : World} (c s g t n : Nat) (ty e : TypeId) (l : List ByteArray) (b : Value) (hres : fn.results = #[.tmp s, .cell c ty]) (hd : a.defers = []) (hp : a.tmps.getD c undef = .pointer (some ⟨g, 0, none⟩)) (hb : a.tmps.getD s undef = b)
    (hA : TA w g t l) (hl : l.length = n) (hu : Tryd.prog.underlying ty = some (.array n e)) (hi : (Tryd.prog.info? ty).map (·.size) = some n) (h : Rp (.returned (.tuple #[b, .agg (svs l).toArray])) w) : bodyPost Tryd.prog fn Rp .ret a w := by
  have hr := run_loadVar_row (P := Tryd.prog) w g t ty _ (0, 0) _ hA hu rfl (by rw [svs_size, hl]; exact hi)
  refine bodyPost_ret (v := .tuple #[b, .agg (svs l).toArray]) ?_ hd h
  have hp' : a.tmps[c]?.getD undef = .pointer (some ⟨g, 0, none⟩) := by simpa using hp
  have hb' : a.tmps[s]?.getD undef = b := by simpa using hb
  simp [results, hres, asAddr, hr, hp', hb']

set_option maxRecDepth 100000 in
set_option maxHeartbeats 4000000 in
theorem lockTexts_any (b : Nat) (a : Int) (vo vs vd : Value) (g1 o1 g2 o2 : Nat) (o s : List ByteArray) (w : World) (hb : b < 256) (ho : SS w vo g1 o1 o) (hs : SS w vs g2 o2 s) (lo : o.length = 8) (ls : s.length = 8) (wo : kwB o = true) (hvd : vd.oneCell' = true) (hT : Tb w) :
    Calls Tryd.prog 22 #[.int .u8 (b : Int), .agg #[.int .i64 a, vo, vs, vd]] w fun e w' => ∃ v, e = .returned (.tuple #[v, .agg (svs (lkN b o s 8)).toArray]) ∧ OS w.heap.size w w' v (txN o 8) := by
  have HSS : Hid (∀ W, Below w.heap.size w W → SS W vo g1 o1 o ∧ SS W vs g2 o2 s) := fun W hW => ⟨ho.below hW ho.lt, hs.below hW hs.lt⟩
  have HT : Hid (Tb w) := hT
  have HL : Hid (o.length = 8 ∧ s.length = 8 ∧ kwB o = true) := ⟨lo, ls, wo⟩
  obtain ⟨ao, co, rfl, _, x1⟩ := ho
  obtain ⟨as2, cs2, rfl, _, x2⟩ := hs
  rw [lo, ls] at HSS ⊢
  clear x1 x2 lo ls wo hT
  obtain ⟨M, hmk0, hos0⟩ := run_mkT 13 (by omega) ((w.alloc (.cells #[.int .i64 a, .slice ao 8 co, .slice as2 8 cs2, vd] 27)).alloc (.cells (zT 16) 42))
  have hmk : (Instr.makeSlice 22 (.int .i64 0) (.int .i64 13)).run Tryd.prog ((w.alloc (.cells #[.int .i64 a, .slice ao 8 co, .slice as2 8 cs2, vd] 27)).alloc (.cells (zT 16) 42)) = .ok (.slice (some ⟨w.heap.size + 1 + 1, 0, none⟩) 0 13) (((w.alloc (.cells #[.int .i64 a, .slice ao 8 co, .slice as2 8 cs2, vd] 27)).alloc (.cells (zT 16) 42)).alloc (.cells M 9)) := by simpa using hmk0
  have HST : Hid (LtR b o s w a (.slice ao 8 co) (.slice as2 8 cs2) vd (.slice (some ⟨w.heap.size + 1 + 1, 0, none⟩) 0 13) (.int .i64 0) ((((w.alloc (.cells #[.int .i64 a, .slice ao 8 co, .slice as2 8 cs2, vd] 27)).alloc (.cells (zT 16) 42)).alloc (.cells M 9)).alloc (.cells (zT 16) 42))) := by
    have h0 := SgM.new w a (.slice ao 8 co) (.slice as2 8 cs2) vd
    have b0 : Below w.heap.size w (w.alloc (.cells #[.int .i64 a, .slice ao 8 co, .slice as2 8 cs2, vd] 27)) := (Below.refl _ _).alloc (Nat.le_refl _) _
    have z0 : (w.alloc (.cells #[.int .i64 a, .slice ao 8 co, .slice as2 8 cs2, vd] 27)).heap.size = w.heap.size + 1 := by simp
    generalize w.alloc (.cells #[.int .i64 a, .slice ao 8 co, .slice as2 8 cs2, vd] 27) = W0 at *
    have h1 := TA.new W0 (List.replicate 16 ByteArray.empty) 42
    have b1 : Below W0.heap.size W0 (W0.alloc (.cells (zT 16) 42)) := (Below.refl _ _).alloc (Nat.le_refl _) _
    have z1 : (W0.alloc (.cells (zT 16) 42)).heap.size = w.heap.size + 1 + 1 := by simp [z0]
    rw [z0] at h1
    have h1 : TA (W0.alloc (.cells (zT 16) 42)) (w.heap.size + 1) 42 (List.replicate 16 ByteArray.empty) := h1
    have h0 := h0.later b1
    have b1 := b0.trans (b1.mono b0.size)
    generalize W0.alloc (.cells (zT 16) 42) = W1 at *
    have b2 : Below W1.heap.size W1 (W1.alloc (.cells M 9)) := (Below.refl _ _).alloc (Nat.le_refl _) _
    have z2 : (W1.alloc (.cells M 9)).heap.size = w.heap.size + 1 + 1 + 1 := by simp [z1]
    have h0 := h0.later b2
    have h1 := h1.later b2
    have hos : OS w.heap.size w (W1.alloc (.cells M 9)) (.slice (some ⟨w.heap.size + 1 + 1, 0, none⟩) 0 13) [] := by
      rw [← z1]
      refine ⟨⟨hos0.1.1, ?_⟩, b1.trans (b2.mono b1.size), Nat.le_trans b1.size b2.size⟩
      rcases hos0.1.2 with hn | ⟨g, cap, cur, hv, hbg, rest⟩
      · exact .inl hn
      · exact .inr ⟨g, cap, cur, hv, Nat.le_trans b1.size hbg, rest⟩
    generalize W1.alloc (.cells M 9) = W2 at *
    have h3 := TA.new W2 (List.replicate 16 ByteArray.empty) 42
    have b3 : Below W2.heap.size W2 (W2.alloc (.cells (zT 16) 42)) := (Below.refl _ _).alloc (Nat.le_refl _) _
    rw [z2] at h3
    exact ⟨0, by omega, rfl, hos.alloc _, h3, h1.later b3, h0.later b3⟩
  clear hmk0 hos0
  go_enter Tryd.func22, Tryd.ntmps22
  go_wp2_with (refine wp_allocT rfl 42 16 rfl zeroA ?_)
  clear hmk
  go_loopw [6, 16] (fun v i wr => LtR b o s w a (.slice ao 8 co) (.slice as2 8 cs2) vd v i wr) (fun _ i _ => 8 - (intOf i).toNat)
  case atStart => exact HST.out
  case round =>
    obtain ⟨m, hm, rfl, hos, hta, htz, hsg⟩ := hrel
    clear HST
    by_cases hlt : m < 8
    · obtain ⟨⟨x1, y1, hv1, _, hA1, hc1⟩, ⟨x2, y2, hv2, _, hA2, hc2⟩⟩ := HSS.out _ hos.2.1
      have e1 := hA1 (by rw [HL.out.1]; omega)
      have e2 := hA2 (by rw [HL.out.2.1]; omega)
      rw [HL.out.1] at hv1
      rw [HL.out.2.1] at hv2
      simp at hv1 hv2
      obtain ⟨rfl, rfl⟩ := hv1
      obtain ⟨rfl, rfl⟩ := hv2
      subst e1
      subst e2
      have hz1 := kwB_at HL.out.2.2 m (by rw [HL.out.1]; exact hlt)
      have c1 := hc1 m (by rw [HL.out.1]; exact hlt)
      rw [gB_eq o m (by rw [HL.out.1]; exact hlt)] at c1 hz1
      have hlc := lock_cut o m (by omega)
      have hst := lkR_step b o s m hlt
      have htx := txN_step o m
      have htl := txN_len o m
      have hll := lkR_len b o s m (by omega)
      have hKT := keyText_lit 6 [gB o m] 1 #[.string (gB o m)] wr _ rfl rfl (by omega) rfl
      have hV := bitN_lt b m
      have i1 : (m : Int) < 8 := by omega
      have i2 : (0 : Int) ≤ (m : Int) := by omega
      have hts : (tx1 o m).size ≤ 1048576 := Nat.le_trans (tagB_size _ _) (by omega)
      have HK : Hid (tagB 6 [gB o m] = tx1 o m) := rfl
      rw [HK.out] at hKT
      generalize tx1 o m = X at *
      have HH : Hid (cutH X 16 = lockB (gB o m)) := hlc
      have HSTEP : Hid (∀ K, ((lkR b o s m).set (2 * m + bitN b m) (lockB (gB o m))).set (2 * m + 1 - bitN b m) (gB s m) = K → lkR b o s (m + 1) = K) := fun K hK => hst.symm.trans hK
      generalize gB o m = O at *
      clear hst hA1 hA2 hlc HK
      have hc2 : Hid (∀ W, Below w.heap.size w W → W.cell? ⟨g2, o2 + m, none⟩ = some (.string (gB s m))) := fun W hW => by
        obtain ⟨_, ⟨_, _, _, _, _, hcc⟩⟩ := HSS.out W hW
        have := hcc m (by rw [HL.out.2.1]; exact hlt)
        rw [gB_eq s m (by rw [HL.out.2.1]; exact hlt)] at this
        exact this
      generalize gB s m = Y at *
      go_wp2_with fail
      refine hKT.out.mono ?_
      rintro e w1 ⟨rfl, hb1⟩
      have hos1 := hos.later hb1
      have hta1 := hta.later hb1
      have htz1 := htz.later hb1
      have hsg1 := hsg.later hb1
      clear hos hta htz hsg hb1 hKT c1 hc1
      go_wp2_with (at_builtin; refine wp_appSG rfl _ _ rfl w.heap.size w _ (txN o m) rfl (hos1.alloc _) ⟨w1.heap.size, 0, none⟩ X rfl ?c1 ?c2 ?_)
      case c1 => exact one_text _ _ _
      case c2 => omega
      intro v2 w2 hos2 hg2
      rw [← htx] at hos2
      have hba : Below w1.heap.size w1 (w1.alloc (.cells #[.string X] 9)) := (Below.refl _ _).alloc (Nat.le_refl _) _
      have hta2 := (hta1.later hba).keptO (by decide) (hos1.alloc _) hg2
      have htz2 := (htz1.later hba).keptO (by decide) (hos1.alloc _) hg2
      have hsg2 := (hsg1.later hba).keptO (hos1.alloc _) hg2
      clear hos1 hta1 htz1 hsg1 hg2 hba htx
      go_wp2_with fail
      refine (val_any b m _ _ hb rfl (by omega)).mono ?_
      rintro e w2' ⟨rfl, rfl⟩
      generalize bitN b m = V at *
      have hT2 := HT.out.later hos2.2.1
      have hcd := CutDigest_any X 16 w2' hts hT2.1 hT2.2
      rw [HH.out] at hcd
      clear hT2 HH
      generalize lockB O = K at *
      have j1 : (0 : Int) ≤ 2 * (m : Int) + (V : Int) := by omega
      have j2 : 2 * (m : Int) + (V : Int) < 16 := by omega
      have j3 : (0 : Int) ≤ 2 * (m : Int) + 1 - (V : Int) := by omega
      have j4 : 2 * (m : Int) + 1 - (V : Int) < 16 := by omega
      have t1 : (2 * (m : Int) + (V : Int)).toNat = 2 * m + V := by omega
      have t2 : (2 * (m : Int) + 1 - (V : Int)).toNat = 2 * m + 1 - V := by omega
      go_wp2_with fail
      refine hcd.mono ?_
      rintro e w3 ⟨rfl, hb3⟩
      have hos3 := hos2.later hb3
      have hta3 := hta2.later hb3
      have htz3 := htz2.later hb3
      have hsg3 := hsg2.later hb3
      clear hos2 hta2 htz2 hsg2 hb3 hcd
      obtain ⟨Z, c0⟩ : ∃ Z, w3.cell? ⟨w.heap.size + 1 + 1 + 1, 2 * m + V, none⟩ = some (.string Z) := ⟨_, hta3.cell (2 * m + V) (by omega)⟩
      have f0 := hta3.frozen (2 * m + V)
      have hgs := grown_set w3 (w.heap.size + 1 + 1 + 1) (2 * m + V) (.string K)
      have hta4 := hta3.set (2 * m + V) K
      have hos4 : OS w.heap.size w (w3.setCell ⟨w.heap.size + 1 + 1 + 1, 2 * m + V, none⟩ (.string K)) v2 (txN o (m + 1)) := hos3.kept hgs (fun k hk => by simp at hk; omega) (os_ne hos3 hta3 (by decide))
      have htz4 : TA (w3.setCell ⟨w.heap.size + 1 + 1 + 1, 2 * m + V, none⟩ (.string K)) (w.heap.size + 1) 42 (List.replicate 16 ByteArray.empty) := htz3.keep (hgs.block _ htz3.lt (by simp))
      have hsg4 := hsg3.keptG hgs (by simp; omega)
      have d1 := hsg4.c2
      have d2 := hc2.out _ hos4.2.1
      obtain ⟨Z2, c4⟩ : ∃ Z, (w3.setCell ⟨w.heap.size + 1 + 1 + 1, 2 * m + V, none⟩ (.string K)).cell? ⟨w.heap.size + 1 + 1 + 1, 2 * m + 1 - V, none⟩ = some (.string Z) := ⟨_, hta4.cell (2 * m + 1 - V) (by rw [List.length_set]; omega)⟩
      have f4 := hta4.frozen (2 * m + 1 - V)
      have hgs2 := grown_set (w3.setCell ⟨w.heap.size + 1 + 1 + 1, 2 * m + V, none⟩ (.string K)) (w.heap.size + 1 + 1 + 1) (2 * m + 1 - V) (.string Y)
      have hta5 := hta4.set (2 * m + 1 - V) Y
      have hos5 := hos4.kept hgs2 (fun k hk => by simp at hk; omega) (os_ne hos4 hta4 (by decide))
      have htz5 : TA _ (w.heap.size + 1) 42 (List.replicate 16 ByteArray.empty) := htz4.keep (hgs2.block _ htz4.lt (by simp))
      have hsg5 := hsg4.keptG hgs2 (by simp; omega)
      rw [← HSTEP.out _ rfl] at hta5
      have HN : Hid (LtR b o s w a (.slice (some ⟨g1, o1, none⟩) 8 co) (.slice (some ⟨g2, o2, none⟩) 8 cs2) vd v2 (.int .i64 ((m : Int) + 1)) ((w3.setCell ⟨w.heap.size + 1 + 1 + 1, 2 * m + V, none⟩ (.string K)).setCell ⟨w.heap.size + 1 + 1 + 1, 2 * m + 1 - V, none⟩ (.string Y))) := ⟨m + 1, by omega, by simp, hos5, hta5, htz5, hsg5⟩
      clear hta5 hos5 htz5 hsg5 hta4 hos4 htz4 hsg4 hos3 hta3 htz3 hsg3 hgs hgs2 HSTEP hll htl HL HSS hc2
      go_wp2
      go_roundw
      case rel => exact HN.out
      case measure => simp [intOf]; omega
    · have hme : m = 8 := by omega
      subst hme
      rw [lkR_all] at hta
      have hll := lkN_len b o s 8
      have HTA : Hid (TA wr (w.heap.size + 1 + 1 + 1) 42 (lkN b o s 8) ∧ TA wr (w.heap.size + 1) 42 (List.replicate 16 ByteArray.empty)) := ⟨hta, htz⟩
      have HO : Hid (OS w.heap.size w wr u6 (txN o 8)) := hos
      clear hta htz hos hsg HSS HL
      go_wp2
      refine wp_region_still_tail 3 (by kernel_rfl) (by kernel_rfl) ?_
      simp only [List.take_succ_cons, List.take_zero, List.drop_succ_cons, List.drop_zero]
      still_step
      refine still_loadT rfl 42 _ rfl (w.heap.size + 1 + 1 + 1) 42 16 (lkN b o s 8) 9 rfl HTA.out.1 hll Tryd.underlying42 sizeA ?_
      still_step
      refine wpStill_nil ?_
      go_wp2_with (refine wp_storeT rfl 42 _ _ rfl (w.heap.size + 1) 42 16 (List.replicate 16 ByteArray.empty) (lkN b o s 8) HTA.out.2 (by simp) hll rfl rfl sizeA ?_; intro hfin)
      refine ret_rowArr 5 4 (w.heap.size + 1) 42 16 42 9 (lkN b o s 8) _ rfl rfl rfl rfl hfin hll Tryd.underlying42 sizeA ?_
      exact ⟨_, rfl, HO.out.drew.kept (grown_setRow2 _ _ _) (fun k hk => by simp at hk; omega) (os_ne HO.out HTA.out.2 (by decide))⟩

end Go.Proofs.YtkgibgadngeddabDoor
