/-
  Texts laid together: Lrp, Sgm, Form, Rsg.
-/
import Derived.Test.YtfojmagcoipbnaaQ14
import Derived.Test.YtfojmagcoipbnaaQ17
import Derived.Test.YtfojmagcoipbnaaQ03
import Derived.Laws.Rows
import Derived.Laws.Tables
import Derived.Test.YtfojmagcoipbnaaQ01
import Derived.Test.YtfojmagcoipbnaaQ02
import Derived.Test.YtfojmagcoipbnaaQ06
import Derived.Laws.DeepStrings4
/-
  The walk of the law FnExactReadProof: it answers true of every text and every width.
-/
namespace Go.Proofs.Ytfojmagcoipbnaa
open Go.RowKit Go.BigFrame Go.Sort
set_option linter.unusedVariables false
set_option linter.unusedSimpArgs false

theorem rowOf_leP {g B : Nat} {l : List ByteArray} (h : B ≤ g) (q : Nat) (hq : rowOf g l = some q) : B ≤ q := by
  unfold rowOf at hq
  split at hq
  · cases hq
  · have : g = q := by simpa using hq
    omega

set_option maxRecDepth 100000 in
set_option maxHeartbeats 4000000 in
theorem readProofLaw_any (t : ByteArray) (ht : t.size ≤ maxLen) (x : Int) (w : World) :
    Calls Try.prog 4 #[.string t, .int .i64 x] w fun e w' => e = .returned (.bool true) ∧ Below w.heap.size w w' := by
  unfold maxLen at ht
  by_cases hbig : 1048576 < t.size
  · go_enter Try.func4, Try.ntmps4
    go_wp2
    go_ret
    exact ⟨rfl, Below.refl _ _⟩
  have HCS : Hid (∀ W, Calls Try.prog 13 #[.string t, .int .i64 x] W (PvP (rpL t x) (rpS t x) (rpOk t x) W)) := fun W => sReadProof_any t x W (by omega)
  have HCI : Hid (∀ W, Calls Try.prog 14 #[.string t, .int .i64 x] W (PvP (rpL t x) (rpS t x) (rpOk t x) W)) := fun W => ReadProof_any t x W (by omega)
  unfold PvP at HCS HCI
  generalize rpL t x = B at *
  generalize rpS t x = S at *
  generalize rpOk t x = R at *
  go_enter Try.func4, Try.ntmps4
  go_wp2_with fail
  refine (HCS.out _).mono ?_
  rintro e w3 ⟨ab, cb, aS, cS, gb, gs, rfl, rb3, ts3, hgb, hgs, _, b3⟩
  have hba3 : Below w3.heap.size w3 (w3.alloc (.cells #[.slice ab B.length cb, .slice aS S.length cS] 31)) := (Below.refl _ _).alloc (Nat.le_refl _) _
  have HW3 : Hid (PbX (w3.alloc (.cells #[.slice ab B.length cb, .slice aS S.length cS] 31)) w3.heap.size (.slice ab B.length cb) (.slice aS S.length cS) gb gs B S ∧ Below w.heap.size w (w3.alloc (.cells #[.slice ab B.length cb, .slice aS S.length cS] 31)) ∧ (0 < B.length → gb < w3.heap.size) ∧ (0 < S.length → gs < w3.heap.size) ∧ (w3.alloc (.cells #[.slice ab B.length cb, .slice aS S.length cS] 31)).heap.size = w3.heap.size + 1 ∧ w.heap.size ≤ w3.heap.size) := ⟨PbX.new rb3 ts3, b3.trans (hba3.mono b3.size), rb3.lt, ts3.lt, by simp, b3.size⟩
  clear rb3 ts3 hgb hgs HCS b3 hba3
  go_wp2_with fail
  refine (HCI.out _).mono ?_
  rintro e w5 ⟨a5, c5, e5, f5, g5, h5, rfl, rb5, ts5, hg5, hh5, ⟨hd5, _⟩, hb5⟩
  rw [HW3.out.2.2.2.2.1] at hg5 hh5
  have hba5 : Below w5.heap.size w5 (w5.alloc (.cells #[.slice a5 B.length c5, .slice e5 S.length f5] 31)) := (Below.refl _ _).alloc (Nat.le_refl _) _
  have HW5 : Hid (PbX (w5.alloc (.cells #[.slice a5 B.length c5, .slice e5 S.length f5] 31)) w3.heap.size (.slice ab B.length cb) (.slice aS S.length cS) gb gs B S ∧ PbX (w5.alloc (.cells #[.slice a5 B.length c5, .slice e5 S.length f5] 31)) w5.heap.size (.slice a5 B.length c5) (.slice e5 S.length f5) g5 h5 B S ∧ Below w.heap.size w (w5.alloc (.cells #[.slice a5 B.length c5, .slice e5 S.length f5] 31))) := by
    obtain ⟨y1, y2, y3, y4, y5, y6⟩ := HW3.out
    have b5 := y2.trans (hb5.mono y2.size)
    exact ⟨(y1.later hb5).later hba5, PbX.new rb5 ts5, b5.trans (hba5.mono b5.size)⟩
  have HJ : Hid ((0 < B.length → gb < w3.heap.size) ∧ (0 < S.length → gs < w3.heap.size) ∧ w3.heap.size < g5 ∧ w3.heap.size < h5 ∧ (0 < B.length → 0 < S.length → g5 ≠ h5) ∧ (0 < B.length → g5 < w5.heap.size) ∧ (0 < S.length → h5 < w5.heap.size) ∧ w.heap.size ≤ w3.heap.size) := by
    obtain ⟨y1, y2, y3, y4, y5, y6⟩ := HW3.out
    exact ⟨y3, y4, by omega, by omega, hd5, rb5.lt, ts5.lt, y6⟩
  clear rb5 ts5 hg5 hh5 hd5 hb5 hba5 HW3
  have q0 := HW5.out.1.1.c0
  have q1 := HW5.out.1.1.c1
  have q2' := HW5.out.2.1.1.c0
  have q3 := HW5.out.2.1.1.c1
  go_wp2_with fail
  refine (HW5.out.2.1.eq HW5.out.1).mono ?_
  rintro e w10 ⟨rfl, hb10⟩
  have HW10 : Hid (PbX w10 w3.heap.size (.slice ab B.length cb) (.slice aS S.length cS) gb gs B S ∧ PbX w10 w5.heap.size (.slice a5 B.length c5) (.slice e5 S.length f5) g5 h5 B S ∧ Below w.heap.size w w10) := by
    obtain ⟨y1, y2, y4⟩ := HW5.out
    exact ⟨y1.later hb10, y2.later hb10, y4.trans (hb10.mono y4.size)⟩
  clear hb10 HW5 q0 q1 q2' q3
  have q2' := HW10.out.2.1.1.c0
  have q3 := HW10.out.2.1.1.c1
  have hmk := markProof_any _ _ g5 h5 B S w10 HW10.out.2.1.2.1 HW10.out.2.1.2.2 HJ.out.2.2.2.2.1
  obtain ⟨A9, hA9⟩ : ∃ A9 : Int, ((1 + 2 * B.length + S.length : Nat) : Int) = A9 := ⟨_, rfl⟩
  have hA90 : ¬ A9 < 0 := by omega
  rw [hA9] at hmk
  have HHD : Hid (∀ W, RW 2 lcs W (.slice a5 B.length c5) g5 (lmarks 1 B.length) → TS W (.slice e5 S.length f5) h5 (marks (1 + 2 * B.length) S.length) → Calls Try.prog 16 #[.agg #[.slice a5 B.length c5, .slice e5 S.length f5], .int .i64 1] W fun e w' => e = .returned (.int .i64 A9) ∧ Below W.heap.size W w') := fun W h1 h2 => by rw [← hA9]; exact heldProof_any _ _ g5 h5 _ _ W h1 h2
  clear hA9
  go_wp2_with fail
  refine hmk.mono ?_
  rintro e w11 ⟨rfl, hr11, ht11, wm, hgm1, hgm2⟩
  have HW11 : Hid (PbX w11 w3.heap.size (.slice ab B.length cb) (.slice aS S.length cS) gb gs B S ∧ PbX w11 w5.heap.size (.slice a5 B.length c5) (.slice e5 S.length f5) g5 h5 (lmarks 1 B.length) (marks (1 + 2 * B.length) S.length) ∧ Below w.heap.size w w11) := by
    obtain ⟨y1, y2, y4⟩ := HW10.out
    obtain ⟨x1, x2, x4, x5, x7, x8, x9, x10⟩ := HJ.out
    have z1 := y1.grown hgm1 (rowF_ne fun _ => by omega) (fun hp => rowF_ne fun _ => by have := x1 hp; omega) (fun hp => rowF_ne fun _ => by have := x2 hp; omega)
    have bm := y4.grown hgm1 y4.size (rowF_le (by omega))
    have pm := y2.1.keep (hgm1.block _ y2.1.lt (rowF_ne fun hp => by have := x8 hp; omega))
    exact ⟨z1.grown hgm2 (rowOf_ne fun _ => by omega) (fun hp => rowOf_ne fun _ => by have := x1 hp; omega) (fun hp => rowOf_ne fun _ => by have := x2 hp; omega), ⟨pm.keep (hgm2.block _ pm.lt (rowOf_ne fun hp => by have := x9 hp; omega)), hr11, ht11⟩, bm.grown hgm2 bm.size (rowOf_leP (by omega))⟩
  clear hmk hr11 ht11 hgm1 hgm2 HW10 q2' q3 HJ
  have q2' := HW11.out.2.1.1.c0
  have q3 := HW11.out.2.1.1.c1
  go_wp2_with fail
  refine (HHD.out _ HW11.out.2.1.2.1 HW11.out.2.1.2.2).mono ?_
  rintro e w12 ⟨rfl, hb12⟩
  have HW12 : Hid (PbX w12 w3.heap.size (.slice ab B.length cb) (.slice aS S.length cS) gb gs B S ∧ PbX w12 w5.heap.size (.slice a5 B.length c5) (.slice e5 S.length f5) g5 h5 (lmarks 1 B.length) (marks (1 + 2 * B.length) S.length) ∧ Below w.heap.size w w12) := by
    obtain ⟨y1, y2, y4⟩ := HW11.out
    exact ⟨y1.later hb12, y2.later hb12, y4.trans (hb12.mono y4.size)⟩
  clear hb12 HW11 q2' q3
  go_wp2_with fail
  refine (HCI.out _).mono ?_
  rintro e w14 ⟨a14, c14, e14, f14, g14, h14, rfl, rb14, ts14, _, _, _, hb14⟩
  have hba14 : Below w14.heap.size w14 (w14.alloc (.cells #[.slice a14 B.length c14, .slice e14 S.length f14] 31)) := (Below.refl _ _).alloc (Nat.le_refl _) _
  have HW14 : Hid (PbX (w14.alloc (.cells #[.slice a14 B.length c14, .slice e14 S.length f14] 31)) w3.heap.size (.slice ab B.length cb) (.slice aS S.length cS) gb gs B S ∧ PbX (w14.alloc (.cells #[.slice a14 B.length c14, .slice e14 S.length f14] 31)) w5.heap.size (.slice a5 B.length c5) (.slice e5 S.length f5) g5 h5 (lmarks 1 B.length) (marks (1 + 2 * B.length) S.length) ∧ Below w.heap.size w (w14.alloc (.cells #[.slice a14 B.length c14, .slice e14 S.length f14] 31)) ∧ PbX (w14.alloc (.cells #[.slice a14 B.length c14, .slice e14 S.length f14] 31)) w14.heap.size (.slice a14 B.length c14) (.slice e14 S.length f14) g14 h14 B S) := by
    obtain ⟨y1, y2, y4⟩ := HW12.out
    have b14 := y4.trans (hb14.mono y4.size)
    exact ⟨(y1.later hb14).later hba14, (y2.later hb14).later hba14, b14.trans (hba14.mono b14.size), PbX.new rb14 ts14⟩
  clear hb14 HW12 rb14 ts14 HCI hba14
  have q0 := HW14.out.1.1.c0
  have q1 := HW14.out.1.1.c1
  have q2' := HW14.out.2.2.2.1.c0
  have q3 := HW14.out.2.2.2.1.c1
  go_wp2_with fail
  refine (HW14.out.2.2.2.eq HW14.out.1).mono ?_
  rintro e w15 ⟨rfl, hb15⟩
  have HW15 : Hid (PbX w15 w5.heap.size (.slice a5 B.length c5) (.slice e5 S.length f5) g5 h5 (lmarks 1 B.length) (marks (1 + 2 * B.length) S.length) ∧ Below w.heap.size w w15) := ⟨HW14.out.2.1.later hb15, HW14.out.2.2.1.trans (hb15.mono HW14.out.2.2.1.size)⟩
  clear hb15 HW14 q0 q1 q2' q3
  have q2' := HW15.out.1.1.c0
  have q3 := HW15.out.1.1.c1
  go_wp2_with fail
  refine (HHD.out _ HW15.out.1.2.1 HW15.out.1.2.2).mono ?_
  rintro e w16 ⟨rfl, hb16⟩
  have b16 := HW15.out.2.trans (hb16.mono HW15.out.2.size)
  clear hb16 HW15 HHD q2' q3
  go_wp2
  go_ret
  exact ⟨rfl, b16⟩

end Go.Proofs.Ytfojmagcoipbnaa
/-
  A signature as a struct: in a block of its own, its fields stored one by one, answered beside a flag.
-/
namespace Go.Proofs.Ytfojmagcoipbnaa
open Go.RowKit
set_option linter.unusedVariables false

/-- block g is a signature with these fields -/
def SgM (w : World) (g : Nat) (a : Int) (v1 v2 v3 : Value) : Prop := w.heap[g]? = some (.cells #[.int .i64 a, v1, v2, v3] 59 (0, 0))
theorem SgM.c0 {w : World} {g : Nat} {a : Int} {v1 v2 v3 : Value} (h : SgM w g a v1 v2 v3) : w.cell? ⟨g, 0, none⟩ = some (.int .i64 a) := by rw [cell_of_row w g 0 _ _ (0, 0) h]; rfl
theorem SgM.c1 {w : World} {g : Nat} {a : Int} {v1 v2 v3 : Value} (h : SgM w g a v1 v2 v3) : w.cell? ⟨g, 1, none⟩ = some v1 := by rw [cell_of_row w g 1 _ _ (0, 0) h]; rfl
theorem SgM.c2 {w : World} {g : Nat} {a : Int} {v1 v2 v3 : Value} (h : SgM w g a v1 v2 v3) : w.cell? ⟨g, 2, none⟩ = some v2 := by rw [cell_of_row w g 2 _ _ (0, 0) h]; rfl
theorem SgM.c3 {w : World} {g : Nat} {a : Int} {v1 v2 v3 : Value} (h : SgM w g a v1 v2 v3) : w.cell? ⟨g, 3, none⟩ = some v3 := by rw [cell_of_row w g 3 _ _ (0, 0) h]; rfl
theorem SgM.fr {w : World} {g : Nat} {a : Int} {v1 v2 v3 : Value} (h : SgM w g a v1 v2 v3) (j : Nat) : w.frozen? ⟨g, j, none⟩ = false := by
  simp [World.frozen?, show w.heap[g]? = some (.cells #[.int .i64 a, v1, v2, v3] 59 (0, 0)) from h]
theorem SgM.lt {w : World} {g : Nat} {a : Int} {v1 v2 v3 : Value} (h : SgM w g a v1 v2 v3) : g < w.heap.size := (Array.getElem?_eq_some_iff.1 h).1
theorem SgM.set1 {w : World} {g : Nat} {a : Int} {v1 v2 v3 : Value} (h : SgM w g a v1 v2 v3) (v : Value) : SgM (w.setCell ⟨g, 1, none⟩ v) g a v v2 v3 := by
  unfold SgM at *
  rw [heap_setCell_same w g 1 _ _ _ h]
  rfl
theorem SgM.set2 {w : World} {g : Nat} {a : Int} {v1 v2 v3 : Value} (h : SgM w g a v1 v2 v3) (v : Value) : SgM (w.setCell ⟨g, 2, none⟩ v) g a v1 v v3 := by
  unfold SgM at *
  rw [heap_setCell_same w g 2 _ _ _ h]
  rfl
theorem SgM.set3 {w : World} {g : Nat} {a : Int} {v1 v2 v3 : Value} (h : SgM w g a v1 v2 v3) (v : Value) : SgM (w.setCell ⟨g, 3, none⟩ v) g a v1 v2 v := by
  unfold SgM at *
  rw [heap_setCell_same w g 3 _ _ _ h]
  rfl
theorem SgM.keep {w w' : World} {g : Nat} {a : Int} {v1 v2 v3 : Value} (h : SgM w g a v1 v2 v3) (he : w'.heap[g]? = w.heap[g]?) : SgM w' g a v1 v2 v3 := by
  unfold SgM at *
  rw [he, h]
theorem SgM.later {w w' : World} {g : Nat} {a : Int} {v1 v2 v3 : Value} (h : SgM w g a v1 v2 v3) (hb : Below w.heap.size w w') : SgM w' g a v1 v2 v3 := h.keep (hb.block g h.lt)
theorem SgM.keptG {w w' : World} {g : Nat} {row : Option Nat} {a : Int} {v1 v2 v3 : Value} (h : SgM w g a v1 v2 v3) (hg : w.grownBy w' row) (hne : some g ≠ row) : SgM w' g a v1 v2 v3 := h.keep (hg.block g h.lt hne)
theorem SgM.new (w : World) (a : Int) (v1 v2 v3 : Value) : SgM (w.alloc (.cells #[.int .i64 a, v1, v2, v3] 59)) w.heap.size a v1 v2 v3 := Go.heap_alloc_new w _

theorem sizeS : (Try.prog.info? 59).map (·.size) = some 4 := by kernel_rfl
theorem load_sig {w : World} {g : Nat} {x : Int} {v1 v2 v3 : Value} (hA : SgM w g x v1 v2 v3) : (loadVar 59 ⟨g, 0, none⟩).run Try.prog w = .ok (.agg #[.int .i64 x, v1, v2, v3]) w :=
  run_loadVar_row (P := Try.prog) w g 59 59 _ (0, 0) _ hA Try.underlying59 rfl sizeS

/-- a signature and a flag, answered -/
theorem ret_sig2 {fn : Func} {Rp : Ending → World → Prop} {a : Act} {w : World} (c s g : Nat) (x : Int) (v1 v2 v3 b : Value) (hres : fn.results = #[.cell c 59, .tmp s]) (hd : a.defers = []) (hp : a.tmps.getD c undef = .pointer (some ⟨g, 0, none⟩)) (hb : a.tmps.getD s undef = b)
    (hA : SgM w g x v1 v2 v3) (h : Rp (.returned (.tuple #[.agg #[.int .i64 x, v1, v2, v3], b])) w) : bodyPost Try.prog fn Rp .ret a w := by
  have hr := load_sig hA
  refine bodyPost_ret (v := .tuple #[.agg #[.int .i64 x, v1, v2, v3], b]) ?_ hd h
  have hp' : a.tmps[c]?.getD undef = .pointer (some ⟨g, 0, none⟩) := by simpa using hp
  have hb' : a.tmps[s]?.getD undef = b := by simpa using hb
  simp [results, hres, asAddr, hr, hp', hb']

section
variable {w : World} {ops : Array Oper} {rest : List Oper} {o : Oper} {a : Act} {Q : Exit → Act → World → Prop}
/-- a signature loaded whole -/
theorem wp_loadSig (hgd : o.guard = none) (p : Operand) (ho : o.op = .load 59 p) (g : Nat) (x : Int) (v1 v2 v3 : Value) (hp : a.eval p = .pointer (some ⟨g, 0, none⟩)) (hA : SgM w g x v1 v2 v3)
    (h : wpList Try.prog ops Q rest (a.put o.dst (.agg #[.int .i64 x, v1, v2, v3])) w) : wpList Try.prog ops Q (o :: rest) a w := by
  refine wpList_plain hgd fun K hK => ?_
  have hr : (Instr.loadAt 59 (.pointer (some ⟨g, 0, none⟩))).run Try.prog w = .ok (.agg #[.int .i64 x, v1, v2, v3]) w := by
    simp only [Instr.loadAt, Instr.sureAddr, Sem.run_bind, Sem.run_pure, Result.andThen]
    exact load_sig hA
  unfold Oper.wp
  simp [execOp, ho, hp, hr, Result.andThen]
  exact hK _ _ h
/-- a signature stored whole -/
theorem wp_storeSig (hgd : o.guard = none) (p v : Operand) (ho : o.op = .store 59 p v) (g : Nat) (x y : Int) (v1 v2 v3 u1 u2 u3 : Value) (hA : SgM w g x v1 v2 v3) (hp : a.eval p = .pointer (some ⟨g, 0, none⟩)) (hv : a.eval v = .agg #[.int .i64 y, u1, u2, u3])
    (h1 : u1.oneCell' = true) (h2 : u2.oneCell' = true) (h3 : u3.oneCell' = true)
    (h : SgM (w.setRow g #[.int .i64 y, u1, u2, u3]) g y u1 u2 u3 → wpList Try.prog ops Q rest (a.put o.dst (.tuple #[])) (w.setRow g #[.int .i64 y, u1, u2, u3])) : wpList Try.prog ops Q (o :: rest) a w := by
  refine wpList_plain hgd fun K hK => ?_
  have hr : (Instr.storeAt 59 (.pointer (some ⟨g, 0, none⟩)) (.agg #[.int .i64 y, u1, u2, u3])).run Try.prog w = .ok () (w.setRow g #[.int .i64 y, u1, u2, u3]) := by
    simp only [Instr.storeAt, Instr.sureAddr, Sem.run_bind, Sem.run_pure, Result.andThen]
    refine run_storeVar_row w g 59 59 _ _ hA sizeS rfl ?_
    simp [h1, h2, h3]
    rfl
  unfold Oper.wp
  simp [execOp, ho, hp, hv, hr, Result.andThen]
  exact hK _ _ (h (setRow_heap w g _ _ _ _ hA))
end

end Go.Proofs.Ytfojmagcoipbnaa
/-
  What the forms of a signature are held against: how many texts, how wide, the program's and the specification's.
-/
namespace Go.Proofs.Ytfojmagcoipbnaa
open Go.RowKit Go.BigFrame
set_option linter.unusedVariables false

/-- each text is sixteen bytes wide -/
def kwB (l : List ByteArray) : Bool := l.all (fun p => decide (p.size = 16))
theorem kwB_no (l : List ByteArray) (m : Nat) (h : m < l.length) (hb : l[m].size ≠ 16) : kwB l = false := by
  unfold kwB
  rw [List.all_eq_false]
  exact ⟨l[m], List.getElem_mem _, by simpa using hb⟩
theorem kwB_yes (l : List ByteArray) (h : ∀ j (h : j < l.length), l[j].size = 16) : kwB l = true := by
  unfold kwB
  rw [List.all_eq_true]
  intro x hx
  obtain ⟨j, hj, rfl⟩ := List.getElem_of_mem hx
  simpa using h j hj
theorem kwB_at {l : List ByteArray} (h : kwB l = true) (j : Nat) (hj : j < l.length) : l[j].size = 16 := by
  unfold kwB at h
  rw [List.all_eq_true] at h
  simpa using h l[j] (List.getElem_mem _)

def KwR (l : List ByteArray) (w : World) (i : Value) (wr : World) : Prop :=
  ∃ m : Nat, m ≤ l.length ∧ i = .int .i64 m ∧ Hid (∀ j (h : j < l.length), j < m → l[j].size = 16) ∧ wr = w
theorem kw_step {l : List ByteArray} {m : Nat} (hm : m < l.length) (hp : l[m].size = 16) (h : ∀ j (h : j < l.length), j < m → l[j].size = 16) : Hid (∀ j (h : j < l.length), j < m + 1 → l[j].size = 16) := by
  intro j hj hlt
  rcases Nat.lt_or_ge j m with h1 | h1
  · exact h j hj h1
  · have : j = m := by omega
    subst this
    exact hp

set_option maxRecDepth 100000 in
set_option maxHeartbeats 400000 in
theorem allWide_16 (v : Value) (ga oa : Nat) (l : List ByteArray) (w : World) (hv : SS w v ga oa l) :
    Calls Try.prog 56 #[v, .int .i64 16] w fun e w' => e = .returned (.bool (kwB l)) ∧ w' = w := by
  obtain ⟨a, cap, rfl, hl, hA, hc⟩ := hv
  obtain ⟨n, hn⟩ : ∃ n, l.length = n := ⟨_, rfl⟩
  have HA : Hid (0 < n → a = some ⟨ga, oa, none⟩) := by rw [← hn]; exact hA
  have HC : Hid (∀ j (h : j < l.length), w.cell? ⟨ga, oa + j, none⟩ = some (.string l[j])) := hc
  have HST : Hid (KwR l w (.int .i64 0) w) := ⟨0, by omega, rfl, by intro j _ h; omega, rfl⟩
  obtain ⟨R, hR⟩ : ∃ R, kwB l = R := ⟨_, rfl⟩
  have HR : Hid (kwB l = R) := hR
  rw [hn] at hl ⊢
  rw [hR]
  clear hA hc hR
  go_enter Try.func56, Try.ntmps56
  go_wp2
  go_loopw [9] (fun i wr => KwR l w i wr) (fun i _ => n - (intOf i).toNat)
  case atStart => exact HST.out
  case round =>
    obtain ⟨m, hm, rfl, HI, rfl⟩ := hrel
    rw [hn] at hm
    clear HST
    by_cases hlt : m < n
    · have ea := HA.out (by omega)
      subst ea
      have c0 := HC.out m (by omega)
      have i1 : (m : Int) < (n : Int) := by omega
      have i2 : (0 : Int) ≤ (m : Int) := by omega
      by_cases hx : (l[m]'(by omega)).size = 16
      · have HI2 := kw_step (show m < l.length by omega) hx HI.out
        have q : (((l[m]'(by omega)).size : Int) != 16) = false := by simp; omega
        clear HI HR HC HA hx
        generalize l[m]'(by omega) = X at *
        go_wp2
        go_roundw
        case rel => exact ⟨m + 1, by omega, by go_num, HI2, rfl⟩
        case measure => simp [intOf]; omega
      · have hF := kwB_no l m (by omega) hx
        rw [HR.out] at hF
        subst hF
        have q : (((l[m]'(by omega)).size : Int) != 16) = true := by simp; omega
        clear HI HR HC HA hx
        generalize l[m]'(by omega) = X at *
        go_wp2
        try rw [Exit.noGoto_ret]
        go_ret
        exact ⟨rfl, rfl⟩
    · have hme : m = n := by omega
      have hF := kwB_yes l (fun j hj => HI.out j hj (by omega))
      rw [HR.out] at hF
      subst hF
      subst hme
      clear HI HR HC HA
      go_wp2
      go_ret
      exact ⟨rfl, rfl⟩

set_option maxRecDepth 100000 in
set_option maxHeartbeats 400000 in
theorem l05Wide_any (v : Value) (x : Int) (k : Nat) (ga oa : Nat) (l : List ByteArray) (w : World) (hx : x = (k : Int)) (hv : SS w v ga oa l) :
    Calls Try.prog 128 #[v, .int .i64 x] w fun e w' => e = .returned (.bool (kwB l && decide (l.length = k))) ∧ w' = w := by
  subst hx
  obtain ⟨a, cap, rfl, hl, hA, hc⟩ := hv
  obtain ⟨n, hn⟩ : ∃ n, l.length = n := ⟨_, rfl⟩
  have HA : Hid (0 < n → a = some ⟨ga, oa, none⟩) := by rw [← hn]; exact hA
  have HC : Hid (∀ j (h : j < l.length), w.cell? ⟨ga, oa + j, none⟩ = some (.string l[j])) := hc
  have HST : Hid (KwR l w (.int .i64 0) w) := ⟨0, by omega, rfl, by intro j _ h; omega, rfl⟩
  obtain ⟨R, hR⟩ : ∃ R, kwB l = R := ⟨_, rfl⟩
  have HR : Hid (kwB l = R) := hR
  rw [hn] at hl ⊢
  rw [hR]
  clear hA hc hR
  go_enter Try.func128, Try.ntmps128
  go_wp2
  go_loopw [5] (fun i wr => KwR l w i wr) (fun i _ => n - (intOf i).toNat)
  case atStart => exact HST.out
  case round =>
    obtain ⟨m, hm, rfl, HI, rfl⟩ := hrel
    rw [hn] at hm
    clear HST
    by_cases hlt : m < n
    · have ea := HA.out (by omega)
      subst ea
      have c0 := HC.out m (by omega)
      have i1 : (m : Int) < (n : Int) := by omega
      have i2 : (0 : Int) ≤ (m : Int) := by omega
      by_cases hx : (l[m]'(by omega)).size = 16
      · have HI2 := kw_step (show m < l.length by omega) hx HI.out
        have q : (((l[m]'(by omega)).size : Int) != 16) = false := by simp; omega
        clear HI HR HC HA hx
        generalize l[m]'(by omega) = X at *
        go_wp2
        go_roundw
        case rel => exact ⟨m + 1, by omega, by go_num, HI2, rfl⟩
        case measure => simp [intOf]; omega
      · have hF := kwB_no l m (by omega) hx
        rw [HR.out] at hF
        subst hF
        have q : (((l[m]'(by omega)).size : Int) != 16) = true := by simp; omega
        clear HI HR HC HA hx
        generalize l[m]'(by omega) = X at *
        go_wp2
        try rw [Exit.noGoto_ret]
        go_ret
        exact ⟨rfl, rfl⟩
    · have hme : m = n := by omega
      have hF := kwB_yes l (fun j hj => HI.out j hj (by omega))
      rw [HR.out] at hF
      subst hF
      subst hme
      clear HI HR HC HA hn
      by_cases hk : m = k
      · have q : ((m : Int) == (k : Int)) = true := by simp; omega
        go_wp2
        go_ret
        exact ⟨by simp [hk], rfl⟩
      · have q : ((m : Int) == (k : Int)) = false := by simp; omega
        go_wp2
        go_ret
        exact ⟨by simp [hk], rfl⟩

/-- the form that a signature must have -/
def formB (a : Int) (o s d : List ByteArray) : Bool := decide (0 ≤ a ∧ a ≤ 15) && ((kwB o && decide (o.length = 8)) && ((kwB s && decide (s.length = 8)) && (kwB d && decide (d.length = 4))))
theorem formB_parts {a : Int} {o s d : List ByteArray} (h : formB a o s d = true) : (0 ≤ a ∧ a ≤ 15) ∧ (kwB o = true ∧ o.length = 8) ∧ (kwB s = true ∧ s.length = 8) ∧ (kwB d = true ∧ d.length = 4) := by
  unfold formB at h
  simpa only [Bool.and_eq_true, decide_eq_true_eq] using h
theorem formB_mk {a : Int} {o s d : List ByteArray} (h : (0 ≤ a ∧ a ≤ 15) ∧ (kwB o = true ∧ o.length = 8) ∧ (kwB s = true ∧ s.length = 8) ∧ (kwB d = true ∧ d.length = 4)) : formB a o s d = true := by
  unfold formB
  simpa only [Bool.and_eq_true, decide_eq_true_eq] using h

set_option maxRecDepth 100000 in
set_option maxHeartbeats 1000000 in
theorem l05Form_any (a : Int) (vo vs vd : Value) (g1 o1 g2 o2 g3 o3 : Nat) (o s d : List ByteArray) (w : World) (ho : SS w vo g1 o1 o) (hs : SS w vs g2 o2 s) (hd : SS w vd g3 o3 d) :
    Calls Try.prog 99 #[.agg #[.int .i64 a, vo, vs, vd]] w fun e w' => e = .returned (.bool (formB a o s d)) ∧ Below w.heap.size w w' := by
  have hb : Below w.heap.size w (w.alloc (.cells #[.int .i64 a, vo, vs, vd] 59)) := (Below.refl _ _).alloc (Nat.le_refl _) _
  have H1 : Hid (Calls Try.prog 128 #[vo, .int .i64 8] (w.alloc (.cells #[.int .i64 a, vo, vs, vd] 59)) fun e w' => e = .returned (.bool (kwB o && decide (o.length = 8))) ∧ w' = (w.alloc (.cells #[.int .i64 a, vo, vs, vd] 59))) := l05Wide_any vo 8 8 g1 o1 o _ rfl (ho.below hb ho.lt)
  have H2 : Hid (Calls Try.prog 128 #[vs, .int .i64 8] (w.alloc (.cells #[.int .i64 a, vo, vs, vd] 59)) fun e w' => e = .returned (.bool (kwB s && decide (s.length = 8))) ∧ w' = (w.alloc (.cells #[.int .i64 a, vo, vs, vd] 59))) := l05Wide_any vs 8 8 g2 o2 s _ rfl (hs.below hb hs.lt)
  have H3 : Hid (Calls Try.prog 128 #[vd, .int .i64 4] (w.alloc (.cells #[.int .i64 a, vo, vs, vd] 59)) fun e w' => e = .returned (.bool (kwB d && decide (d.length = 4))) ∧ w' = (w.alloc (.cells #[.int .i64 a, vo, vs, vd] 59))) := l05Wide_any vd 4 4 g3 o3 d _ rfl (hd.below hb hd.lt)
  have HB : Hid (Below w.heap.size w (w.alloc (.cells #[.int .i64 a, vo, vs, vd] 59))) := hb
  unfold formB
  generalize (kwB o && decide (o.length = 8)) = A1 at *
  generalize (kwB s && decide (s.length = 8)) = A2 at *
  generalize (kwB d && decide (d.length = 4)) = A3 at *
  generalize hA0 : decide (0 ≤ a ∧ a ≤ 15) = A0
  obtain ⟨ao, co, rfl, _⟩ := ho
  obtain ⟨as2, cs2, rfl, _⟩ := hs
  obtain ⟨ad, cd, rfl, _⟩ := hd
  clear hb
  go_enter Try.func99, Try.ntmps99
  go_wp2_with fail
  refine (l01In_any _ _ _ _).mono ?_
  rintro e w' ⟨rfl, rfl⟩
  rw [hA0]
  clear hA0
  cases A0 with
  | false =>
    go_wp2
    go_ret
    exact ⟨by simp, HB.out⟩
  | true =>
    go_wp2_with fail
    refine H1.out.mono ?_
    rintro e w' ⟨rfl, rfl⟩
    cases A1 with
    | false =>
      go_wp2
      go_ret
      exact ⟨by simp, HB.out⟩
    | true =>
      go_wp2_with fail
      refine H2.out.mono ?_
      rintro e w' ⟨rfl, rfl⟩
      cases A2 with
      | false =>
        go_wp2
        go_ret
        exact ⟨by simp, HB.out⟩
      | true =>
        go_wp2_with fail
        refine H3.out.mono ?_
        rintro e w' ⟨rfl, rfl⟩
        cases A3 with
        | false =>
          go_wp2
          go_ret
          exact ⟨by simp, HB.out⟩
        | true =>
          go_wp2
          go_ret
          exact ⟨by simp, HB.out⟩

theorem inPool_f (x : Int) (w : World) : Calls Try.prog 142 #[.int .i64 x] w fun e w' => e = .returned (.bool (decide (0 ≤ x ∧ x ≤ 15))) ∧ w' = w := by
  by_cases h1 : x < 0
  · have hd : decide (0 ≤ x ∧ x ≤ 15) = false := by simp; omega
    rw [hd]
    go_enter Try.func142, Try.ntmps142
    go_wp2
    go_ret
    exact ⟨rfl, rfl⟩
  · by_cases h2 : x < 16
    · have hd : decide (0 ≤ x ∧ x ≤ 15) = true := by simp; omega
      rw [hd]
      go_enter Try.func142, Try.ntmps142
      go_wp2
      go_ret
      exact ⟨rfl, rfl⟩
    · have hd : decide (0 ≤ x ∧ x ≤ 15) = false := by simp; omega
      rw [hd]
      go_enter Try.func142, Try.ntmps142
      go_wp2
      go_ret
      exact ⟨rfl, rfl⟩

set_option maxRecDepth 100000 in
set_option maxHeartbeats 1000000 in
theorem sigFormOk_any (a : Int) (vo vs vd : Value) (g1 o1 g2 o2 g3 o3 : Nat) (o s d : List ByteArray) (w : World) (ho : SS w vo g1 o1 o) (hs : SS w vs g2 o2 s) (hd : SS w vd g3 o3 d) :
    Calls Try.prog 130 #[.agg #[.int .i64 a, vo, vs, vd]] w fun e w' => e = .returned (.bool (formB a o s d)) ∧ Below w.heap.size w w' := by
  have H1 : Hid (∀ W, Below w.heap.size w W → Calls Try.prog 56 #[vo, .int .i64 16] W fun e w' => e = .returned (.bool (kwB o)) ∧ w' = W) := fun W hW => allWide_16 vo g1 o1 o _ (ho.below hW ho.lt)
  have H2 : Hid (∀ W, Below w.heap.size w W → Calls Try.prog 56 #[vs, .int .i64 16] W fun e w' => e = .returned (.bool (kwB s)) ∧ w' = W) := fun W hW => allWide_16 vs g2 o2 s _ (hs.below hW hs.lt)
  have H3 : Hid (∀ W, Below w.heap.size w W → Calls Try.prog 56 #[vd, .int .i64 16] W fun e w' => e = .returned (.bool (kwB d)) ∧ w' = W) := fun W hW => allWide_16 vd g3 o3 d _ (hd.below hW hd.lt)
  unfold formB
  generalize kwB o = A1 at *
  generalize kwB s = A2 at *
  generalize kwB d = A3 at *
  generalize hA0 : decide (0 ≤ a ∧ a ≤ 15) = A0
  obtain ⟨ao, co, rfl, hlo, hx1⟩ := ho
  obtain ⟨as2, cs2, rfl, hls, hx2⟩ := hs
  obtain ⟨ad, cd, rfl, hld, hx3⟩ := hd
  clear hx1 hx2 hx3
  generalize o.length = n1 at *
  generalize s.length = n2 at *
  generalize d.length = n3 at *
  have HB : Hid (∀ x y z : Obj, Below w.heap.size w (((w.alloc x).alloc y).alloc z)) := fun x y z => (((Below.refl _ _).alloc (Nat.le_refl _) _).alloc (by simp) _).alloc (by simp; omega) _
  by_cases h1 : (n1 : Int) = 8
  · by_cases h2 : (n2 : Int) = 8
    · by_cases h3 : (n3 : Int) = 4
      · obtain rfl : n1 = 8 := by omega
        obtain rfl : n2 = 8 := by omega
        obtain rfl : n3 = 4 := by omega
        clear h1 h2 h3 hlo hls hld
        go_enter Try.func130, Try.ntmps130
        go_wp2_with fail
        refine (inPool_f _ _).mono ?_
        rintro e w1 ⟨rfl, rfl⟩
        rw [hA0]
        clear hA0
        cases A0 with
        | false =>
          go_wp2
          go_ret
          exact ⟨by simp, HB.out _ _ _⟩
        | true =>
          go_wp2_with fail
          refine (H1.out _ (HB.out _ _ _)).mono ?_
          rintro e w1 ⟨rfl, rfl⟩
          cases A1 with
          | false =>
            go_wp2
            go_ret
            exact ⟨by simp, HB.out _ _ _⟩
          | true =>
            go_wp2_with fail
            refine (H2.out _ (HB.out _ _ _)).mono ?_
            rintro e w1 ⟨rfl, rfl⟩
            cases A2 with
            | false =>
              go_wp2
              go_ret
              exact ⟨by simp, HB.out _ _ _⟩
            | true =>
              go_wp2_with fail
              refine (H3.out _ (HB.out _ _ _)).mono ?_
              rintro e w1 ⟨rfl, rfl⟩
              go_wp2
              go_ret
              exact ⟨by simp, HB.out _ _ _⟩
      · obtain rfl : n1 = 8 := by omega
        obtain rfl : n2 = 8 := by omega
        have hF : (A0 && ((A1 && decide ((8 : Nat) = 8)) && ((A2 && decide ((8 : Nat) = 8)) && (A3 && decide (n3 = 4))))) = false := by
          rw [decide_eq_false (show ¬ n3 = 4 by omega)]; simp
        rw [hF]
        clear h1 h2 hlo hls hF
        go_enter Try.func130, Try.ntmps130
        go_wp2_with fail
        refine (inPool_f _ _).mono ?_
        rintro e w1 ⟨rfl, rfl⟩
        rw [hA0]
        clear hA0
        cases A0 with
        | false =>
          go_wp2
          go_ret
          exact ⟨by simp, HB.out _ _ _⟩
        | true =>
          go_wp2
          go_ret
          exact ⟨by simp, HB.out _ _ _⟩
    · obtain rfl : n1 = 8 := by omega
      have hF : (A0 && ((A1 && decide ((8 : Nat) = 8)) && ((A2 && decide (n2 = 8)) && (A3 && decide (n3 = 4))))) = false := by
        rw [decide_eq_false (show ¬ n2 = 8 by omega)]; simp
      rw [hF]
      clear h1 hlo hF
      go_enter Try.func130, Try.ntmps130
      go_wp2_with fail
      refine (inPool_f _ _).mono ?_
      rintro e w1 ⟨rfl, rfl⟩
      rw [hA0]
      clear hA0
      cases A0 with
      | false =>
        go_wp2
        go_ret
        exact ⟨by simp, HB.out _ _ _⟩
      | true =>
        go_wp2
        go_ret
        exact ⟨by simp, HB.out _ _ _⟩
  · have hF : (A0 && ((A1 && decide (n1 = 8)) && ((A2 && decide (n2 = 8)) && (A3 && decide (n3 = 4))))) = false := by
      rw [decide_eq_false (show ¬ n1 = 8 by omega)]; simp
    rw [hF]
    clear hF
    go_enter Try.func130, Try.ntmps130
    go_wp2_with fail
    refine (inPool_f _ _).mono ?_
    rintro e w1 ⟨rfl, rfl⟩
    rw [hA0]
    clear hA0
    cases A0 with
    | false =>
      go_wp2
      go_ret
      exact ⟨by simp, HB.out _ _ _⟩
    | true =>
      go_wp2
      go_ret
      exact ⟨by simp, HB.out _ _ _⟩

end Go.Proofs.Ytfojmagcoipbnaa
/-
  What ReadSig answers, the program's and the specification's.
-/
namespace Go.Proofs.Ytfojmagcoipbnaa
open Go.RowKit Go.BigFrame
set_option linter.unusedVariables false

/-- n keys from place b on -/
def cutL (t : ByteArray) (b n : Nat) : List ByteArray := (List.range n).map fun i => t.extract (b + i * 16) (b + (i + 1) * 16)
theorem cutL_len (t : ByteArray) (b n : Nat) : (cutL t b n).length = n := by simp [cutL]
theorem cutL_at (t : ByteArray) (b n i : Nat) (h : i < (cutL t b n).length) : (cutL t b n)[i] = t.extract (b + i * 16) (b + (i + 1) * 16) := by simp [cutL]
theorem cutL_tail (t : ByteArray) (k b n : Nat) (h : k + b + n * 16 ≤ t.size) : cutL (t.extract k t.size) b n = cutL t (k + b) n := by
  unfold cutL
  apply List.map_congr_left
  intro i hi
  have hi' : i < n := by simpa using hi
  rw [ByteArray.extract_extract]
  have e1 : k + (b + i * 16) = k + b + i * 16 := by omega
  have e2 : min (k + (b + (i + 1) * 16)) t.size = k + b + (i + 1) * 16 := by
    have : (i + 1) * 16 ≤ n * 16 := Nat.mul_le_mul_right _ hi'
    omega
  rw [e1, e2]
theorem tail_tail (t : ByteArray) (k b : Nat) (h : k ≤ t.size) : (t.extract k t.size).extract b (t.extract k t.size).size = t.extract (k + b) t.size := by
  rw [ByteArray.extract_extract, ByteArray.size_extract]
  congr 1
  omega
theorem cutL_wide (t : ByteArray) (b n : Nat) (h : b + n * 16 ≤ t.size) : kwB (cutL t b n) = true := by
  refine kwB_yes _ fun j hj => ?_
  rw [cutL_at, ByteArray.size_extract]
  rw [cutL_len] at hj
  have : (j + 1) * 16 ≤ n * 16 := Nat.mul_le_mul_right _ hj
  omega

def CkR (t : ByteArray) (n : Nat) (w : World) (g : Nat) (i : Value) (wr : World) : Prop := ∃ m : Nat, m ≤ n ∧ i = .int .i64 m ∧ TB wr g (srow (cutL t 0 n) m) ∧ Below w.heap.size w wr

set_option maxRecDepth 100000 in
set_option maxHeartbeats 1000000 in
theorem cutKeys_any (t : ByteArray) (n : Nat) (x : Int) (w : World) (hx : x = (n : Int)) (hn : n ≤ 8) (ht : n * 16 ≤ t.size) (hts : t.size ≤ 1000) :
    Calls Try.prog 144 #[.string t, .int .i64 x] w fun e w' => ∃ g, e = .returned (.tuple #[.slice (some ⟨g, 0, none⟩) n n, .string (t.extract (n * 16) t.size)]) ∧ w.heap.size ≤ g ∧ TB w' g (cutL t 0 n) ∧ Below w.heap.size w w' := by
  subst hx
  obtain ⟨w2, hmk, hib, hb2, hs2⟩ := TB.made n (by omega) w
  have HST : Hid (CkR t n w w.heap.size (.int .i64 0) w2) := ⟨0, by omega, rfl, by rw [show srow (cutL t 0 n) 0 = List.replicate n ByteArray.empty by unfold srow; rw [cutL_len]; rfl]; exact hib, hb2⟩
  have HL : Hid ((cutL t 0 n).length = n ∧ ∀ i (h : i < (cutL t 0 n).length), (cutL t 0 n)[i] = t.extract (i * 16) ((i + 1) * 16)) := ⟨cutL_len t 0 n, fun i h => by rw [cutL_at, Nat.zero_add, Nat.zero_add]⟩
  generalize hL : cutL t 0 n = L at *
  clear hib hb2 hs2
  go_enter Try.func144, Try.ntmps144
  go_wp2
  clear hmk
  go_loopw [12] (fun i wr => CkR t n w w.heap.size i wr) (fun i _ => n - (intOf i).toNat)
  case atStart => exact HST.out
  case round =>
    obtain ⟨m, hm, rfl, hib, hbel⟩ := hrel
    rw [hL] at hib
    clear HST
    by_cases hlt : m < n
    · have i1 : (m : Int) < (n : Int) := by omega
      have i2 : (0 : Int) ≤ (m : Int) := by omega
      have hsl : ∀ W, (Instr.slice 9 (.string t) (some (.int .i64 ((m : Int) * 16))) (some (.int .i64 (((m : Int) + 1) * 16))) none).run Try.prog W = .ok (.string (t.extract (m * 16) ((m + 1) * 16))) W := by
        intro W
        rw [run_slice_string_if (P := Try.prog) (w := W) 9 t .i64 .i64 _ _ Try.underlying9, if_pos (by omega), if_pos (by omega)]
        congr 3 <;> omega
      have hes : (t.extract (m * 16) ((m + 1) * 16)).size ≤ 1048576 := by rw [ByteArray.size_extract]; omega
      have hl16 : (srow L m).length = n := by rw [srow_len _ _ (by rw [HL.out.1]; omega)]; exact HL.out.1
      have hlk := HL.out.2 m (by rw [HL.out.1]; exact hlt)
      have hst := srow_step L m (by rw [HL.out.1]; exact hlt)
      rw [hlk] at hst
      generalize t.extract (m * 16) ((m + 1) * 16) = K at *
      go_wp2_with fail
      refine (Clone_any K _ hes).mono ?_
      rintro e w1 ⟨rfl, hb1⟩
      have hib1 := hib.below hb1 hib.lt
      have b1 := hbel.trans (hb1.mono hbel.size)
      have c0 := hib1.cell m (by omega)
      have f0 := hib1.frozen m
      have hss := hib1.set m (by omega) K
      rw [hst] at hss
      have HS : Hid (TB (w1.setCell ⟨w.heap.size, m, none⟩ (.string K)) w.heap.size (srow L (m + 1)) ∧ Below w.heap.size w (w1.setCell ⟨w.heap.size, m, none⟩ (.string K))) := ⟨hss, b1.setCell (p := ⟨w.heap.size, m, none⟩) (Nat.le_refl _) _⟩
      generalize (srow L m)[m]'(by omega) = Y at *
      clear hss hib1 hib hbel b1 hb1 hlk HL hl16 hst hsl
      go_wp2
      go_roundw
      case rel => exact ⟨m + 1, by omega, by go_num, by rw [hL]; exact HS.out.1, HS.out.2⟩
      case measure => simp [intOf]; omega
    · have hme : m = n := by omega
      subst hme
      have e : srow L m = L := by have := srow_all L; rw [HL.out.1] at this; exact this
      rw [e] at hib
      have a1 : IntKind.i64.wrap ((m : Int) * 16) = (m : Int) * 16 := IntWalk.i64_in _ (by omega)
      have hsl : ∀ W, (Instr.slice 9 (.string t) (some (.int .i64 ((m : Int) * 16))) none none).run Try.prog W = .ok (.string (t.extract (m * 16) t.size)) W := by
        intro W
        rw [run_slice_string_from_if (P := Try.prog) (w := W) 9 t .i64 _ Try.underlying9, if_pos (by omega)]
        congr 3 <;> omega
      clear e HL
      go_wp2
      go_quiet (fail)
      go_wp2
      go_ret2
      exact ⟨w.heap.size, rfl, Nat.le_refl _, hib, hbel.trans ⟨rfl, rfl, rfl, Nat.le_refl _, fun _ _ => rfl⟩⟩

def LcR (t : ByteArray) (b n : Nat) (w : World) (v i : Value) (wr : World) : Prop := ∃ m : Nat, m ≤ n ∧ i = .int .i64 m ∧ OS w.heap.size w wr v ((cutL t b n).take m)

set_option maxRecDepth 100000 in
set_option maxHeartbeats 1000000 in
theorem l05Cut_any (t : ByteArray) (b n : Nat) (y x : Int) (w : World) (hy : y = (b : Int)) (hx : x = (n : Int)) (hn : n ≤ 8) (ht : b + n * 16 ≤ t.size) (hts : t.size ≤ 1000) :
    Calls Try.prog 111 #[.string t, .int .i64 y, .int .i64 x] w fun e w' => ∃ v, e = .returned v ∧ OS w.heap.size w w' v (cutL t b n) := by
  subst hx hy
  have HST : Hid (LcR t b n w (.slice (some ⟨w.heap.size, 0, none⟩) 0 0) (.int .i64 0) (w.alloc (.cells #[] 9))) := ⟨0, by omega, rfl, OS.made w⟩
  have HL : Hid ((cutL t b n).length = n ∧ ∀ i (h : i < (cutL t b n).length), (cutL t b n)[i] = t.extract (b + i * 16) (b + (i + 1) * 16)) := ⟨cutL_len t b n, cutL_at t b n⟩
  generalize hL : cutL t b n = L at *
  go_enter Try.func111, Try.ntmps111
  go_wp2
  go_loopw [7, 8] (fun v i wr => LcR t b n w v i wr) (fun _ i _ => n - (intOf i).toNat)
  case atStart => exact HST.out
  case round =>
    obtain ⟨m, hm, rfl, hos⟩ := hrel
    rw [hL] at hos
    clear HST
    by_cases hlt : m < n
    · have i1 : (m : Int) < (n : Int) := by omega
      have i2 : (0 : Int) ≤ (m : Int) := by omega
      have hsl : ∀ W, (Instr.slice 9 (.string t) (some (.int .i64 ((b : Int) + (m : Int) * 16))) (some (.int .i64 ((b : Int) + ((m : Int) + 1) * 16))) none).run Try.prog W = .ok (.string (t.extract (b + m * 16) (b + (m + 1) * 16))) W := by
        intro W
        rw [run_slice_string_if (P := Try.prog) (w := W) 9 t .i64 .i64 _ _ Try.underlying9, if_pos (by omega), if_pos (by omega)]
        congr 3 <;> omega
      have hlk := HL.out.2 m (by rw [HL.out.1]; exact hlt)
      have hll : (L.take m).length ≤ 16 := by rw [List.length_take, HL.out.1]; omega
      have HN : Hid (∀ v W, OS w.heap.size w W v (L.take m ++ [t.extract (b + m * 16) (b + (m + 1) * 16)]) → LcR t b n w v (.int .i64 ((m : Int) + 1)) W) := by
        rw [← hlk, List.take_append_getElem]
        exact fun v W hW => ⟨m + 1, by omega, by simp, by rw [hL]; exact hW⟩
      generalize t.extract (b + m * 16) (b + (m + 1) * 16) = K at *
      generalize L.take m = X at *
      clear hlk HL
      go_wp2_with (at_builtin; refine wp_appS rfl _ _ rfl w.heap.size w _ X rfl (hos.alloc _) ⟨wr.heap.size, 0, none⟩ K rfl ?c1 ?c2 ?_)
      case c1 => exact one_text _ _ _
      case c2 => omega
      intro v' w3 hos3
      clear hsl
      go_wp2
      go_roundw
      case rel => exact HN.out _ _ hos3
      case measure => simp [intOf]; omega
    · have hme : m = n := by omega
      subst hme
      have e : L.take m = L := List.take_of_length_le (by rw [HL.out.1]; omega)
      rw [e] at hos
      go_wp2
      go_ret
      exact ⟨_, rfl, hos⟩

/-- the first byte of a text -/
def b0 (d : ByteArray) : UInt8 := d.data.toList.getD 0 0
theorem run_b0 (d : ByteArray) (h : 0 < d.size) (w : World) : (Instr.index 9 (.string d) (.int .i64 0)).run Try.prog w = .ok (.int .u8 ((b0 d).toNat : Int)) w := by
  rw [run_index_string (P := Try.prog) (w := w) 9 d .i64 _ Try.underlying9, dif_pos ⟨by omega, by omega⟩]
  have e : b0 d = d[0] := by
    unfold b0
    rw [ByteArray.getElem_eq_getElem_data, List.getD_eq_getElem?_getD, List.getElem?_eq_getElem (by simpa using h)]
    simp
  rw [e]
  rfl

/-- a signature whose lists are new, each with memory of its own -/
def SigIn (w : World) (B : Nat) (v : Value) (a : Int) (o s d : List ByteArray) : Prop :=
  ∃ v1 v2 v3 g1 g2 g3, v = .agg #[.int .i64 a, v1, v2, v3] ∧ (TS w v1 g1 o ∧ TS w v2 g2 s ∧ TS w v3 g3 d) ∧ (B ≤ g1 ∧ B ≤ g2 ∧ B ≤ g3) ∧ (g1 ≠ g2 ∧ g1 ≠ g3 ∧ g2 ≠ g3)
theorem SigIn.zero (w : World) (B : Nat) : SigIn w B (.agg #[.int .i64 0, .slice none 0 0, .slice none 0 0, .slice none 0 0]) 0 [] [] [] :=
  ⟨_, _, _, B, B + 1, B + 2, rfl, ⟨TS.nil w _, TS.nil w _, TS.nil w _⟩, ⟨by omega, by omega, by omega⟩, ⟨by omega, by omega, by omega⟩⟩

def rsOk (t : ByteArray) : Bool := decide (t.size = 321 ∧ (b0 t).toNat ≤ 15)
def rsA (t : ByteArray) : Int := if rsOk t then ((b0 t).toNat : Int) else 0
def rsO (t : ByteArray) : List ByteArray := if rsOk t then cutL t 1 8 else []
def rsS (t : ByteArray) : List ByteArray := if rsOk t then cutL t 129 8 else []
def rsD (t : ByteArray) : List ByteArray := if rsOk t then cutL t 257 4 else []

theorem grown_setRow (w : World) (g : Nat) (R : Array Value) : w.grownBy (w.setRow g R) (some g) :=
  ⟨rfl, rfl, rfl, by simp [World.setRow], fun k _ hk => setRow_other w g k R (fun e => hk (by simp [e]))⟩

def zSig : Array Value := #[.int .i64 0, .slice none 0 0, .slice none 0 0, .slice none 0 0]

set_option maxRecDepth 100000 in
set_option maxHeartbeats 1000000 in
theorem ReadSig_yes (t : ByteArray) (w : World) (h1 : t.size = 321) (h2 : (b0 t).toNat ≤ 15) :
    Calls Try.prog 133 #[.string t] w fun e w' => ∃ v, e = .returned (.tuple #[v, .bool true]) ∧ SigIn w' w.heap.size v ((b0 t).toNat : Int) (cutL t 1 8) (cutL t 129 8) (cutL t 257 4) ∧ Below w.heap.size w w' := by
  have hh := run_b0 t (by omega)
  have hd : decide ((0 : Int) ≤ ((b0 t).toNat : Int) ∧ ((b0 t).toNat : Int) ≤ 15) = true := by simp; omega
  have hsl : ∀ W, (Instr.slice 9 (.string t) (some (.int .i64 1)) none none).run Try.prog W = .ok (.string (t.extract 1 t.size)) W := by
    intro W
    rw [run_slice_string_from_if (P := Try.prog) (w := W) 9 t .i64 _ Try.underlying9, if_pos (by omega)]
    rfl
  have z1 : (t.extract 1 t.size).size = 320 := by rw [ByteArray.size_extract]; omega
  have z2 : (t.extract 129 t.size).size = 192 := by rw [ByteArray.size_extract]; omega
  have z3 : (t.extract 257 t.size).size = 64 := by rw [ByteArray.size_extract]; omega
  have HC1 : Hid (∀ W, Calls Try.prog 144 #[.string (t.extract 1 t.size), .int .i64 8] W fun e w' => ∃ g, e = .returned (.tuple #[.slice (some ⟨g, 0, none⟩) 8 8, .string (t.extract 129 t.size)]) ∧ W.heap.size ≤ g ∧ TB w' g (cutL t 1 8) ∧ Below W.heap.size W w') := fun W => by
    have := cutKeys_any (t.extract 1 t.size) 8 8 W rfl (by omega) (by omega) (by omega)
    rw [cutL_tail t 1 0 8 (by omega), tail_tail t 1 (8 * 16) (by omega)] at this
    exact this
  have HC2 : Hid (∀ W, Calls Try.prog 144 #[.string (t.extract 129 t.size), .int .i64 8] W fun e w' => ∃ g, e = .returned (.tuple #[.slice (some ⟨g, 0, none⟩) 8 8, .string (t.extract 257 t.size)]) ∧ W.heap.size ≤ g ∧ TB w' g (cutL t 129 8) ∧ Below W.heap.size W w') := fun W => by
    have := cutKeys_any (t.extract 129 t.size) 8 8 W rfl (by omega) (by omega) (by omega)
    rw [cutL_tail t 129 0 8 (by omega), tail_tail t 129 (8 * 16) (by omega)] at this
    exact this
  have HC3 : Hid (∀ W, Calls Try.prog 144 #[.string (t.extract 257 t.size), .int .i64 4] W fun e w' => ∃ g, ∃ u, e = .returned (.tuple #[.slice (some ⟨g, 0, none⟩) 4 4, .string u]) ∧ W.heap.size ≤ g ∧ TB w' g (cutL t 257 4) ∧ Below W.heap.size W w') := fun W => by
    have := cutKeys_any (t.extract 257 t.size) 4 4 W rfl (by omega) (by omega) (by omega)
    rw [cutL_tail t 257 0 4 (by omega)] at this
    exact this.mono fun e w' ⟨g, he, h⟩ => ⟨g, _, he, h⟩
  have HLN : Hid ((cutL t 1 8).length = 8 ∧ (cutL t 129 8).length = 8 ∧ (cutL t 257 4).length = 4) := ⟨cutL_len _ _ _, cutL_len _ _ _, cutL_len _ _ _⟩
  have q : ((t.size : Int) != 321) = false := by simp; omega
  generalize cutL t 1 8 = L1 at *
  generalize cutL t 129 8 = L2 at *
  generalize cutL t 257 4 = L3 at *
  generalize t.extract 1 t.size = T1 at *
  generalize t.extract 129 t.size = T2 at *
  generalize t.extract 257 t.size = T3 at *
  generalize b0 t = b at *
  have hb : b.toNat < 256 := b.toNat_lt
  clear z1 z2 z3
  go_enter Try.func133, Try.ntmps133
  go_wp2_with fail
  refine (inPool_f _ _).mono ?_
  rintro e w0 ⟨rfl, rfl⟩
  rw [hd]
  have hS0 : SgM (w.alloc (.cells zSig 59)) w.heap.size 0 (.slice none 0 0) (.slice none 0 0) (.slice none 0 0) := SgM.new w 0 _ _ _
  have bb0 : Below w.heap.size w (w.alloc (.cells zSig 59)) := (Below.refl _ _).alloc (Nat.le_refl _) _
  have hsz : (w.alloc (.cells zSig 59)).heap.size = w.heap.size + 1 := by simp
  have HS0 : Hid (SgM (w.alloc (.cells zSig 59)) w.heap.size 0 (.slice none 0 0) (.slice none 0 0) (.slice none 0 0) ∧ Below w.heap.size w (w.alloc (.cells zSig 59)) ∧ (w.alloc (.cells zSig 59)).heap.size = w.heap.size + 1) := ⟨hS0, bb0, hsz⟩
  clear hS0 bb0 hsz hd
  go_wp2_with fail
  refine (HC1.out _).mono ?_
  rintro e w1 ⟨g1, rfl, hg1, ht1, hb1⟩
  obtain ⟨hS0, bb0, hsz⟩ := HS0.out
  have hS1 := hS0.later hb1
  have b1 := bb0.trans (hb1.mono bb0.size)
  have hg1' : w.heap.size + 1 ≤ g1 := by rw [← hsz]; exact hg1
  have hl1 := ht1.lt
  have hts1 := ht1.ts 8 8 HLN.out.1 (by omega)
  have HA1 : Hid (SgM w1 w.heap.size 0 (.slice none 0 0) (.slice none 0 0) (.slice none 0 0) ∧ Below w.heap.size w w1 ∧ TS w1 (.slice (some ⟨g1, 0, none⟩) 8 8) g1 L1) := ⟨hS1, b1, hts1⟩
  clear hS0 bb0 hsz hS1 b1 hts1 hb1 ht1 hg1 HS0 HC1
  go_wp2_with fail
  refine (HC2.out _).mono ?_
  rintro e w2 ⟨g2, rfl, hg2, ht2, hb2⟩
  obtain ⟨hS1, b1, hts1⟩ := HA1.out
  have hS2 := hS1.later hb2
  have b2 := b1.trans (hb2.mono b1.size)
  have hl2 := ht2.lt
  have HA2 : Hid (SgM w2 w.heap.size 0 (.slice none 0 0) (.slice none 0 0) (.slice none 0 0) ∧ Below w.heap.size w w2 ∧ TS w2 (.slice (some ⟨g1, 0, none⟩) 8 8) g1 L1 ∧ TS w2 (.slice (some ⟨g2, 0, none⟩) 8 8) g2 L2) := ⟨hS2, b2, hts1.later hb2, ht2.ts 8 8 HLN.out.2.1 (by omega)⟩
  clear hS1 b1 hts1 hS2 b2 hb2 ht2 HA1 HC2
  go_wp2_with fail
  refine (HC3.out _).mono ?_
  rintro e w3 ⟨g3, u3, rfl, hg3, ht3, hb3⟩
  obtain ⟨hS2, b2, hts1, hts2⟩ := HA2.out
  have hS3 := hS2.later hb3
  have b3 := b2.trans (hb3.mono b2.size)
  have HA3 : Hid (SgM w3 w.heap.size 0 (.slice none 0 0) (.slice none 0 0) (.slice none 0 0) ∧ Below w.heap.size w w3 ∧ TS w3 (.slice (some ⟨g1, 0, none⟩) 8 8) g1 L1 ∧ TS w3 (.slice (some ⟨g2, 0, none⟩) 8 8) g2 L2 ∧ TS w3 (.slice (some ⟨g3, 0, none⟩) 4 4) g3 L3) := ⟨hS3, b3, hts1.later hb3, hts2.later hb3, ht3.ts 4 4 HLN.out.2.2 (by omega)⟩
  clear hS2 b2 hts1 hts2 hS3 b3 hb3 ht3 HA2 HC3
  go_wp2_with (refine wp_storeSig rfl _ _ rfl w.heap.size 0 _ _ _ _ _ _ _ HA3.out.1 rfl rfl rfl rfl rfl ?_; intro hfin)
  refine ret_sig2 2 3 w.heap.size _ _ _ _ _ rfl rfl rfl rfl hfin ?_
  obtain ⟨_, b3, hts1, hts2, hts3⟩ := HA3.out
  have hgr := grown_setRow w3 w.heap.size #[.int .i64 (b.toNat : Int), .slice (some ⟨g1, 0, none⟩) 8 8, .slice (some ⟨g2, 0, none⟩) 8 8, .slice (some ⟨g3, 0, none⟩) 4 4]
  refine ⟨_, rfl, ⟨_, _, _, g1, g2, g3, rfl, ⟨hts1.keptG hgr (fun _ => ?_), hts2.keptG hgr (fun _ => ?_), hts3.keptG hgr (fun _ => ?_)⟩, ⟨by omega, by omega, by omega⟩, ⟨by omega, by omega, by omega⟩⟩, b3.grown hgr b3.size (fun k hk => by simp at hk; omega)⟩
  · simp; omega
  · simp; omega
  · simp; omega

end Go.Proofs.Ytfojmagcoipbnaa
