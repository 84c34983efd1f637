/-
  Texts laid together: Pa, Pfm, Lr, Rw, Rs.
-/
import Derived.Test.YtfiapodjiifmaaaGreatDoorPkP6
import Derived.Test.YtfiapodjiifmaaaGreatDoorPkP4
import Derived.Test.YtfiapodjiifmaaaGreatDoorPkP1
import Derived.Laws.Rows
import Derived.Laws.Tables
import Derived.Test.YtfiapodjiifmaaaGreatDoorPkP2
import Derived.Tactics2
import Derived.Defers
import Derived.Recover
import Derived.WalkLawsBesides
import Derived.Lib.QuietBelow
import Derived.StillTailTactics
/-
  Proofs: how wide their sides are, and when these are right: the program's answers.
-/
namespace Go.Proofs.YtfiapodjiifmaaaGreatDoor
open Go.RowKit Go.BigFrame Go.Sort
set_option linter.unusedVariables false
set_option linter.unusedSimpArgs false

def allW (S : List ByteArray) (x : Int) : Bool := S.all (fun s => decide ((s.size : Int) = x))
theorem allW_bad {S : List ByteArray} {x : Int} {m : Nat} (hm : m < S.length) (h : ¬ ((S[m].size : Int) = x)) : allW S x = false := by
  unfold allW
  rw [List.all_eq_false]
  exact ⟨S[m], List.getElem_mem _, by simpa using h⟩
theorem allW_good {S : List ByteArray} {x : Int} (h : ∀ j (hj : j < S.length), (S[j].size : Int) = x) : allW S x = true := by
  unfold allW
  rw [List.all_eq_true]
  intro s hs
  obtain ⟨j, hj, rfl⟩ := List.getElem_of_mem hs
  simpa using h j hj
theorem wideB_all (S : List ByteArray) (x : Int) : wideB S x = (allW S x && decide (1 ≤ x ∧ x ≤ 32)) := rfl

set_option maxRecDepth 100000 in
set_option maxHeartbeats 1000000 in
theorem allWide_any (v : Value) (g o : Nat) (S : List ByteArray) (x : Int) (w : World) (hv : SS w v g o S) :
    Calls Tryz.prog 59 #[v, .int .i64 x] w fun e w' => e = .returned (.bool (allW S x)) ∧ w' = w := by
  obtain ⟨R, hR⟩ : ∃ R, allW S x = R := ⟨_, rfl⟩
  have HR : Hid (allW S x = R) := hR
  rw [hR]
  obtain ⟨a, cap, rfl, hl, hA, hc⟩ := hv
  obtain ⟨n, hn⟩ : ∃ n, S.length = n := ⟨_, rfl⟩
  have HA : Hid (0 < n → a = some ⟨g, o, none⟩) := by rw [← hn]; exact hA
  have HCC : Hid (∀ j (h : j < S.length), w.cell? ⟨g, o + j, none⟩ = some (.string S[j])) := hc
  have HN : Hid (S.length = n) := hn
  have HST : Hid (PwR w S x (.int .i64 0) w) := ⟨0, by omega, rfl, rfl, fun j _ h => by omega⟩
  rw [hn] at hl ⊢
  clear hA hc hn hR
  go_enter Tryz.func59, Tryz.ntmps59
  go_wp2
  go_loopw [9] (fun i wr => PwR w S x i wr) (fun i _ => n - (intOf i).toNat)
  case atStart => exact HST.out
  case round =>
    obtain ⟨m, hm, rfl, rfl, HI⟩ := hrel
    clear HST
    rw [HN.out] at hm
    by_cases hlt : m < n
    · have ea := HA.out (by omega)
      subst ea
      have c0 := HCC.out m (by rw [HN.out]; exact hlt)
      have HB : Hid (¬ (((S[m]'(by rw [HN.out]; exact hlt)).size : Int) = x) → allW S x = false) := fun h => allW_bad _ h
      have HJ : Hid ((((S[m]'(by rw [HN.out]; exact hlt)).size : Int) = x) → ∀ j (h : j < S.length), j < m + 1 → (S[j].size : Int) = x) := fun h j hj hjm => by
        rcases Nat.lt_or_ge j m with h1 | h1
        · exact HI.out j hj h1
        · have : j = m := by omega
          subst this
          exact h
      generalize S[m]'(by rw [HN.out]; exact hlt) = X at *
      have i1 : (m : Int) < (n : Int) := by omega
      have i2 : (0 : Int) ≤ (m : Int) := by omega
      by_cases hk : (X.size : Int) = x
      · have HJ2 : Hid (∀ j (h : j < S.length), j < m + 1 → (S[j].size : Int) = x) := HJ.out hk
        have q : ((X.size : Int) != x) = false := by simpa using hk
        clear HJ HB hk HI HCC
        go_wp2
        go_roundw
        case rel => exact ⟨m + 1, by rw [HN.out]; omega, by go_num, rfl, HJ2⟩
        case measure => simp [intOf]; omega
      · have hRf := HB.out hk
        rw [HR.out] at hRf
        subst hRf
        have q : ((X.size : Int) != x) = true := by simpa using hk
        clear HJ HB hk HI HCC HR
        go_wp2
        try rw [Exit.noGoto_ret]
        go_ret
        exact ⟨rfl, rfl⟩
    · have hme : m = n := by omega
      have hG := allW_good (S := S) (x := x) (fun j hj => HI.out j hj (by rw [HN.out] at hj; omega))
      rw [HR.out] at hG
      subst hG
      have i1 : ¬ (m : Int) < (n : Int) := by omega
      clear HI HCC HR
      go_wp2
      go_ret
      exact ⟨rfl, rfl⟩

/-- are they right sides? -/
def sidB (S : List ByteArray) (x : Int) : Bool := decide (S.length ≤ 8) && wideB S x
set_option maxRecDepth 100000 in
set_option maxHeartbeats 1000000 in
theorem sidesOk_any (v : Value) (g o : Nat) (S : List ByteArray) (x : Int) (w : World) (hv : SS w v g o S) :
    Calls Tryz.prog 29 #[v, .int .i64 x] w fun e w' => e = .returned (.bool (sidB S x)) ∧ w' = w := by
  obtain ⟨R, hR⟩ : ∃ R, sidB S x = R := ⟨_, rfl⟩
  have haw := allWide_any v g o S x w hv
  have e0 : sidB S x = (decide (S.length ≤ 8) && (allW S x && decide (1 ≤ x ∧ x ≤ 32))) := rfl
  rw [hR] at e0 ⊢
  obtain ⟨a, cap, rfl, hl, hz1, hz2⟩ := hv
  clear hR hz1 hz2
  cases h1 : decide (1 ≤ x ∧ x ≤ 32) with
  | false =>
    have hRf : R = false := by rw [e0, h1]; simp
    subst hRf
    clear haw e0
    go_enter Tryz.func29, Tryz.ntmps29
    go_wp2_with fail
    refine (widthOk_any _ _).mono ?_
    rintro e w1 ⟨rfl, rfl⟩
    rw [h1]
    go_wp2
    go_ret
    exact ⟨rfl, rfl⟩
  | true =>
    by_cases h2 : S.length ≤ 8
    · have hRf : R = allW S x := by rw [e0, h1, decide_eq_true h2]; simp
      have i2 : (S.length : Int) ≤ 8 := by omega
      rw [← hRf] at haw
      clear hRf e0
      generalize S.length = n at *
      go_enter Tryz.func29, Tryz.ntmps29
      go_wp2_with fail
      refine (widthOk_any _ _).mono ?_
      rintro e w1 ⟨rfl, rfl⟩
      rw [h1]
      go_wp2_with fail
      refine haw.mono ?_
      rintro e w2 ⟨rfl, rfl⟩
      go_wp2
      go_ret
      exact ⟨rfl, rfl⟩
    · have hRf : R = false := by rw [e0, decide_eq_false h2]; simp
      subst hRf
      have i2 : ¬ (S.length : Int) ≤ 8 := by omega
      clear haw e0
      generalize S.length = n at *
      go_enter Tryz.func29, Tryz.ntmps29
      go_wp2_with fail
      refine (widthOk_any _ _).mono ?_
      rintro e w1 ⟨rfl, rfl⟩
      rw [h1]
      go_wp2
      go_ret
      exact ⟨rfl, rfl⟩

end Go.Proofs.YtfiapodjiifmaaaGreatDoor
/-
  A proof in a box of its own: read, stored, answered.
-/
namespace Go.Proofs.YtfiapodjiifmaaaGreatDoor
open Go.RowKit Go.BigFrame Go.Sort
set_option linter.unusedVariables false
set_option linter.unusedSimpArgs false

theorem cell_up {w w' : World} {p : Addr} {v : Value} (h : w.cell? p = some v) (hb : Below w.heap.size w w') : w'.cell? p = some v := by
  have hlt : p.block < w.heap.size := by
    rcases Nat.lt_or_ge p.block w.heap.size with h5 | h5
    · exact h5
    · simp [World.cell?, Array.getElem?_eq_none h5] at h
  exact (hb.cell hlt).trans h
/-- block g is a proof with these fields -/
def PfM (w : World) (g : Nat) (v1 v2 : Value) : Prop := w.heap[g]? = some (.cells #[v1, v2] 29 (0, 0))
theorem PfM.lt {w : World} {g : Nat} {v1 v2 : Value} (h : PfM w g v1 v2) : g < w.heap.size := (Array.getElem?_eq_some_iff.1 h).1
theorem PfM.keep {w w' : World} {g : Nat} {v1 v2 : Value} (h : PfM w g v1 v2) (he : w'.heap[g]? = w.heap[g]?) : PfM w' g v1 v2 := by
  unfold PfM at *
  rw [he, h]
theorem PfM.later {w w' : World} {g : Nat} {v1 v2 : Value} (h : PfM w g v1 v2) (hb : Below w.heap.size w w') : PfM w' g v1 v2 := h.keep (hb.block g h.lt)
theorem PfM.new (w : World) (v1 v2 : Value) : PfM (w.alloc (.cells #[v1, v2] 29)) w.heap.size v1 v2 := Go.heap_alloc_new w _
theorem sizeP : (Tryz.prog.info? 29).map (·.size) = some 2 := by kernel_rfl
theorem load_pf {w : World} {g : Nat} {v1 v2 : Value} (hA : PfM w g v1 v2) : (loadVar 29 ⟨g, 0, none⟩).run Tryz.prog w = .ok (.agg #[v1, v2]) w :=
  run_loadVar_row (P := Tryz.prog) w g 29 29 _ (0, 0) _ hA Tryz.underlying29 rfl sizeP
theorem ret_pf2 {fn : Func} {Rp : Ending → World → Prop} {a : Act} {w : World} (c s g : Nat) (v1 v2 b : Value) (hres : fn.results = #[.cell c 29, .tmp s]) (hd : a.defers = []) (hp : a.tmps.getD c undef = .pointer (some ⟨g, 0, none⟩)) (hb : a.tmps.getD s undef = b)
    (hA : PfM w g v1 v2) (h : Rp (.returned (.tuple #[.agg #[v1, v2], b])) w) : bodyPost Tryz.prog fn Rp .ret a w := by
  have hr := load_pf hA
  refine bodyPost_ret (v := .tuple #[.agg #[v1, v2], b]) ?_ hd h
  have hp' : a.tmps[c]?.getD undef = .pointer (some ⟨g, 0, none⟩) := by simpa using hp
  have hb' : a.tmps[s]?.getD undef = b := by simpa using hb
  simp [results, hres, asAddr, hr, hp', hb']
section
variable {w : World} {ops : Array Oper} {rest : List Oper} {o : Oper} {a : Act} {Q : Exit → Act → World → Prop}
theorem wp_storePf (hgd : o.guard = none) (p v : Operand) (ho : o.op = .store 29 p v) (g : Nat) (v1 v2 u1 u2 : Value) (hA : PfM w g v1 v2) (hp : a.eval p = .pointer (some ⟨g, 0, none⟩)) (hv : a.eval v = .agg #[u1, u2])
    (h1 : u1.oneCell' = true) (h2 : u2.oneCell' = true)
    (h : PfM (w.setRow g #[u1, u2]) g u1 u2 → wpList Tryz.prog ops Q rest (a.put o.dst (.tuple #[])) (w.setRow g #[u1, u2])) : wpList Tryz.prog ops Q (o :: rest) a w := by
  refine wpList_plain hgd fun K hK => ?_
  have hr : (Instr.storeAt 29 (.pointer (some ⟨g, 0, none⟩)) (.agg #[u1, u2])).run Tryz.prog w = .ok () (w.setRow g #[u1, u2]) := by
    simp only [Instr.storeAt, Instr.sureAddr, Sem.run_bind, Sem.run_pure, Result.andThen]
    refine run_storeVar_row w g 29 29 _ _ hA sizeP rfl ?_
    simp [h1, h2]
  unfold Oper.wp
  simp [execOp, ho, hp, hv, hr, Result.andThen]
  exact hK _ _ (h (setRow_heap w g _ _ _ _ hA))
end
theorem grown_setRowP (w : World) (g : Nat) (R : Array Value) : w.grownBy (w.setRow g R) (some g) :=
  ⟨rfl, rfl, rfl, by simp [World.setRow], fun k _ hk => setRow_other w g k R (fun e => hk (by simp [e]))⟩
theorem below_row {B g : Nat} {w0 w : World} {R : Array Value} (h : Below B w0 w) (hg : B ≤ g) : Below B w0 (w.setRow g R) :=
  h.trans ⟨rfl, rfl, rfl, by simp [World.setRow], fun k hk => setRow_other w g k R (by omega)⟩
theorem size_setRowP (w : World) (g : Nat) (R : Array Value) : (w.setRow g R).heap.size = w.heap.size := by simp [World.setRow]
theorem PfM.c0 {w : World} {g : Nat} {v1 v2 : Value} (h : PfM w g v1 v2) : w.cell? ⟨g, 0, none⟩ = some v1 := by rw [cell_of_row w g 0 _ _ _ h]; rfl
theorem PfM.c1 {w : World} {g : Nat} {v1 v2 : Value} (h : PfM w g v1 v2) : w.cell? ⟨g, 1, none⟩ = some v2 := by rw [cell_of_row w g 1 _ _ _ h]; rfl
theorem PfM.fr {w : World} {g : Nat} {v1 v2 : Value} (h : PfM w g v1 v2) (j : Nat) : w.frozen? ⟨g, j, none⟩ = false := by simp [World.frozen?, show w.heap[g]? = _ from h]
theorem PfM.set0 {w : World} {g : Nat} {v1 v2 : Value} (h : PfM w g v1 v2) (u : Value) : PfM (w.setCell ⟨g, 0, none⟩ u) g u v2 := heap_setCell_same w g 0 _ _ _ h
theorem PfM.set1 {w : World} {g : Nat} {v1 v2 : Value} (h : PfM w g v1 v2) (u : Value) : PfM (w.setCell ⟨g, 1, none⟩ u) g v1 u := heap_setCell_same w g 1 _ _ _ h
theorem ret_pf1 {fn : Func} {Rp : Ending → World → Prop} {a : Act} {w : World} (c g : Nat) (v1 v2 : Value) (hres : fn.results = #[.cell c 29]) (hd : a.defers = []) (hp : a.tmps.getD c undef = .pointer (some ⟨g, 0, none⟩))
    (hA : PfM w g v1 v2) (h : Rp (.returned (.agg #[v1, v2])) w) : bodyPost Tryz.prog fn Rp .ret a w := by
  have hr := load_pf hA
  refine bodyPost_ret (v := .agg #[v1, v2]) ?_ hd h
  have hp' : a.tmps[c]?.getD undef = .pointer (some ⟨g, 0, none⟩) := by simpa using hp
  simp [results, hres, asAddr, hr, hp']
theorem wp_loadPf {w : World} {ops : Array Oper} {rest : List Oper} {o : Oper} {a : Act} {Q : Exit → Act → World → Prop} (hgd : o.guard = none) (p : Operand) (ho : o.op = .load 29 p) (g : Nat) (v1 v2 : Value) (hp : a.eval p = .pointer (some ⟨g, 0, none⟩)) (hA : PfM w g v1 v2)
    (h : wpList Tryz.prog ops Q rest (a.put o.dst (.agg #[v1, v2])) w) : wpList Tryz.prog ops Q (o :: rest) a w := by
  refine wpList_plain hgd fun K hK => ?_
  have hr : (Instr.loadAt 29 (.pointer (some ⟨g, 0, none⟩))).run Tryz.prog w = .ok (.agg #[v1, v2]) w := by
    simp only [Instr.loadAt, Instr.sureAddr, Sem.run_bind, Sem.run_pure, Result.andThen]
    exact load_pf hA
  unfold Oper.wp
  simp [execOp, ho, hp, hr, Result.andThen]
  exact hK _ _ h

end Go.Proofs.YtfiapodjiifmaaaGreatDoor
/-
  Leaves read of a text: the program's answers.
-/
namespace Go.Proofs.YtfiapodjiifmaaaGreatDoor
open Go.RowKit Go.BigFrame Go.Sort
set_option linter.unusedVariables false
set_option linter.unusedSimpArgs false

namespace LV
theorem leafAt_size {s : ByteArray} {p q : Nat} {f : Le} (h : leafAt s p = some (f, q)) : f.n.size ≤ s.size ∧ f.v.size ≤ s.size := by
  unfold leafAt at h
  cases h1 : shortAt s p with
  | none => rw [h1] at h; simp at h
  | some x =>
    obtain ⟨n, b⟩ := x
    rw [h1] at h
    simp only at h
    cases h2 : shortAt s b with
    | none => rw [h2] at h; simp at h
    | some y =>
      obtain ⟨v, r⟩ := y
      rw [h2] at h
      simp only [Option.some.injEq, Prod.mk.injEq] at h
      rw [← h.1]
      exact ⟨shortAt_size h1, shortAt_size h2⟩
theorem leavesF_size {s : ByteArray} : ∀ {k p q : Nat} {l : List Le}, leavesF s k p = some (l, q) → ∀ f ∈ l, f.n.size ≤ s.size ∧ f.v.size ≤ s.size
  | 0, p, q, l, h, f, hf => by
    simp only [leavesF, Option.some.injEq, Prod.mk.injEq] at h
    rw [← h.1] at hf
    cases hf
  | k + 1, p, q, l, h, f, hf => by
    rw [leavesF] at h
    cases h1 : leafAt s p with
    | none => rw [h1] at h; simp at h
    | some x =>
      obtain ⟨g, b⟩ := x
      rw [h1] at h
      simp only at h
      cases h2 : leavesF s k b with
      | none => rw [h2] at h; simp at h
      | some y =>
        obtain ⟨m, r⟩ := y
        rw [h2] at h
        simp only [Option.some.injEq, Prod.mk.injEq] at h
        rw [← h.1] at hf
        rcases List.mem_cons.1 hf with rfl | hf
        · exact leafAt_size h1
        · exact leavesF_size h2 f hf
/-- what stands at a place as leaves, whether right or not -/
def rawL (s : ByteArray) (p : Nat) : Option (List Le × Nat) :=
  match M.readVar s.data.toList p with
  | none => none
  | some (n, q) => if 24 < n then none else leavesF s n q
theorem rawL_none {s : ByteArray} {p : Nat} (h : M.readVar s.data.toList p = none) : rawL s p = none := by unfold rawL; rw [h]
theorem rawL_great {s : ByteArray} {p n q : Nat} (h : M.readVar s.data.toList p = some (n, q)) (hn : 24 < n) : rawL s p = none := by
  unfold rawL
  rw [h]
  exact if_pos hn
theorem rawL_at {s : ByteArray} {p n q : Nat} (h : M.readVar s.data.toList p = some (n, q)) (hn : ¬ 24 < n) : rawL s p = leavesF s n q := by
  unfold rawL
  rw [h]
  exact if_neg hn
/-- the right leaves that a text tells -/
noncomputable def rdB (s : ByteArray) : Bool :=
  match rawL s 0 with
  | none => false
  | some (l, e) => decide (e = s.size) && leavesB l
noncomputable def rdL (s : ByteArray) : List Le :=
  match rawL s 0 with
  | none => []
  | some (l, e) => if decide (e = s.size) && leavesB l then l else []
end LV

/-- what readLeaf answers -/
def RlP (s : ByteArray) (p : Nat) (e : Ending) : Prop := match LV.leafAt s p with
  | none => ∃ a b, e = .returned (.tuple #[.agg #[.string a, .string b], .int .i64 0, .bool false])
  | some (f, q) => e = .returned (.tuple #[.agg #[.string f.n, .string f.v], .int .i64 (q : Int), .bool true])

section
variable {fn : Func} {Rp : Ending → World → Prop} {a : Act} {w : World}
/-- a record answered out of its block, and two things beside it -/
theorem ret_rec3 (c s t g T : Nat) (cs : List Value) (b d : Value) (td : TypeDesc) (hres : fn.results = #[.cell c T, .tmp s, .tmp t]) (hd : a.defers = []) (hp : a.tmps.getD c undef = .pointer (some ⟨g, 0, none⟩)) (hb : a.tmps.getD s undef = b) (hdd : a.tmps.getD t undef = d)
    (hu : Tryz.prog.underlying T = some td) (hrow : td.isRow = true) (hi : (Tryz.prog.info? T).map (·.size) = some cs.length) (hA : w.rangeAt g 0 cs) (h : Rp (.returned (.tuple #[.agg cs.toArray, b, d])) w) : bodyPost Tryz.prog fn Rp .ret a w := by
  have hr := run_loadVar_mid (P := Tryz.prog) w g 0 T cs td hA hu hrow hi
  refine bodyPost_ret (v := .tuple #[.agg cs.toArray, b, d]) ?_ hd h
  have hp' : a.tmps[c]?.getD undef = .pointer (some ⟨g, 0, none⟩) := by simpa using hp
  have hb' : a.tmps[s]?.getD undef = b := by simpa using hb
  have hd' : a.tmps[t]?.getD undef = d := by simpa using hdd
  simp [results, hres, asAddr, hr, hp', hb', hd']
end

/-- the box of a leaf -/
def BL (W : World) (p : Nat) (a b : ByteArray) : Prop := W.heap[p]? = some (.cells #[.string a, .string b] 53 (0, 0))
theorem BL.new (w : World) (a b : ByteArray) : BL (w.alloc (.cells #[.string a, .string b] 53)) w.heap.size a b := Go.heap_alloc_new w _
theorem BL.later {W W' : World} {p : Nat} {a b : ByteArray} (h : BL W p a b) (hb : Below W.heap.size W W') : BL W' p a b := (hb.block p (Array.getElem?_eq_some_iff.1 h).1).trans h
theorem BL.c0 {W : World} {p : Nat} {a b : ByteArray} (h : BL W p a b) : W.cell? ⟨p, 0, none⟩ = some (.string a) := by rw [cell_of_row W p 0 _ _ _ h]; rfl
theorem BL.c1 {W : World} {p : Nat} {a b : ByteArray} (h : BL W p a b) : W.cell? ⟨p, 1, none⟩ = some (.string b) := by rw [cell_of_row W p 1 _ _ _ h]; rfl
theorem BL.f0 {W : World} {p : Nat} {a b : ByteArray} (h : BL W p a b) : W.frozen? ⟨p, 0, none⟩ = false := by simp [World.frozen?, show W.heap[p]? = _ from h]
theorem BL.f1 {W : World} {p : Nat} {a b : ByteArray} (h : BL W p a b) : W.frozen? ⟨p, 1, none⟩ = false := by simp [World.frozen?, show W.heap[p]? = _ from h]
theorem BL.range {W : World} {p : Nat} {a b : ByteArray} (h : BL W p a b) : W.rangeAt p 0 [.string a, .string b] := range2 h.c0 h.c1
theorem BL.there {W : World} {p : Nat} {a b : ByteArray} (h : BL W p a b) : W.there p 0 2 := fun j hj => by
  match j, hj with
  | 0, _ => exact ⟨by rw [h.c0]; rfl, h.f0⟩
  | 1, _ => exact ⟨by rw [h.c1]; rfl, h.f1⟩
/-- .. and what is written into it whole -/
theorem BL.put {W : World} {p : Nat} {a b : ByteArray} (h : BL W p a b) (x y : ByteArray) : (W.setCells p 0 [.string x, .string y]).rangeAt p 0 [.string x, .string y] := World.rangeAt_setCells_same _ _ _ _ h.there
theorem BL.set0 {W : World} {p : Nat} {a b : ByteArray} (h : BL W p a b) (x : ByteArray) : BL (W.setCell ⟨p, 0, none⟩ (.string x)) p x b := heap_setCell_same W p 0 _ _ _ h
theorem BL.set1 {W : World} {p : Nat} {a b : ByteArray} (h : BL W p a b) (x : ByteArray) : BL (W.setCell ⟨p, 1, none⟩ (.string x)) p a x := heap_setCell_same W p 1 _ _ _ h

set_option maxRecDepth 100000 in
set_option maxHeartbeats 1000000 in
theorem readLeaf_at (s : ByteArray) (x : Int) (p : Nat) (w : World) (hx : x = (p : Int)) (hs : s.size ≤ 1048576) (hp : p ≤ s.size) :
    Calls Tryz.prog 86 #[.string s, .int .i64 x] w fun e w' => RlP s p e ∧ Below w.heap.size w w' := by
  have h1 := fun W => ReadShort_at s x p W hx hs hp
  have HB0 : Hid (Below w.heap.size w (w.alloc (.cells #[.string ⟨#[]⟩, .string ⟨#[]⟩] 53)) ∧ BL (w.alloc (.cells #[.string ⟨#[]⟩, .string ⟨#[]⟩] 53)) w.heap.size ⟨#[]⟩ ⟨#[]⟩) := ⟨(Below.refl _ _).alloc (Nat.le_refl _) _, BL.new _ _ _⟩
  cases hq : LV.shortAt s p with
  | none =>
    have hl : LV.leafAt s p = none := by unfold LV.leafAt; rw [hq]
    have HL : Hid (RlP s p (.returned (.tuple #[.agg #[.string ⟨#[]⟩, .string ⟨#[]⟩], .int .i64 0, .bool false]))) := by unfold RlP; rw [hl]; exact ⟨_, _, rfl⟩
    simp only [hq] at h1
    clear hl hx
    go_enter Tryz.func86, Tryz.ntmps86
    go_wp2_with fail
    refine (h1 _).mono ?_
    rintro e w1 ⟨rfl, hb1⟩
    have hbl := HB0.out.2.later hb1
    have b1 := HB0.out.1.trans (hb1.mono HB0.out.1.size)
    have c0 := hbl.c0
    have c1 := hbl.c1
    have f0 := hbl.f0
    have f1 := hbl.f1
    have HF : Hid ((w1.setCells w.heap.size 0 [.string ⟨#[]⟩, .string ⟨#[]⟩]).rangeAt w.heap.size 0 [.string ⟨#[]⟩, .string ⟨#[]⟩] ∧ Below w.heap.size w (w1.setCells w.heap.size 0 [.string ⟨#[]⟩, .string ⟨#[]⟩])) := ⟨hbl.put _ _, below_setCells (Nat.le_refl _) _ _ _ b1⟩
    clear hb1 h1 hbl
    go_wp2
    exact ret_rec3 4 5 6 w.heap.size 53 [.string ⟨#[]⟩, .string ⟨#[]⟩] _ _ _ rfl rfl rfl rfl rfl Tryz.underlying53 rfl sizeLeaf HF.out.1 ⟨HL.out, HF.out.2⟩
  | some y =>
    obtain ⟨a, q⟩ := y
    obtain ⟨hpq, hqs, _⟩ := LV.shortAt_some hp hq
    have h2 := fun W => ReadShort_at s q q W rfl hs hqs
    simp only [hq] at h1
    cases hr : LV.shortAt s q with
    | none =>
      have hl : LV.leafAt s p = none := by unfold LV.leafAt; rw [hq]; simp only; rw [hr]
      have HL : Hid (RlP s p (.returned (.tuple #[.agg #[.string a, .string ⟨#[]⟩], .int .i64 0, .bool false]))) := by unfold RlP; rw [hl]; exact ⟨_, _, rfl⟩
      simp only [hr] at h2
      clear hl hx
      go_enter Tryz.func86, Tryz.ntmps86
      go_wp2_with fail
      refine (h1 _).mono ?_
      rintro e w1 ⟨rfl, hb1⟩
      have HB1 : Hid (Below w.heap.size w w1 ∧ BL w1 w.heap.size ⟨#[]⟩ ⟨#[]⟩) := ⟨HB0.out.1.trans (hb1.mono HB0.out.1.size), HB0.out.2.later hb1⟩
      clear hb1 h1 HB0
      go_wp2_with fail
      refine (h2 _).mono ?_
      rintro e w2 ⟨rfl, hb2⟩
      have hbl := HB1.out.2.later hb2
      have b1 := HB1.out.1.trans (hb2.mono HB1.out.1.size)
      have c0 := hbl.c0
      have c1 := hbl.c1
      have f0 := hbl.f0
      have f1 := hbl.f1
      have HF : Hid ((w2.setCells w.heap.size 0 [.string a, .string ⟨#[]⟩]).rangeAt w.heap.size 0 [.string a, .string ⟨#[]⟩] ∧ Below w.heap.size w (w2.setCells w.heap.size 0 [.string a, .string ⟨#[]⟩])) := ⟨hbl.put _ _, below_setCells (Nat.le_refl _) _ _ _ b1⟩
      clear hb2 h2 HB1 hbl
      go_wp2
      exact ret_rec3 4 5 6 w.heap.size 53 [.string a, .string ⟨#[]⟩] _ _ _ rfl rfl rfl rfl rfl Tryz.underlying53 rfl sizeLeaf HF.out.1 ⟨HL.out, HF.out.2⟩
    | some z =>
      obtain ⟨b, r⟩ := z
      have hl : LV.leafAt s p = some (⟨a, b⟩, r) := by unfold LV.leafAt; rw [hq]; simp only; rw [hr]
      have HL : Hid (RlP s p (.returned (.tuple #[.agg #[.string a, .string b], .int .i64 (r : Int), .bool true]))) := by unfold RlP; rw [hl]; rfl
      simp only [hr] at h2
      clear hl hx
      go_enter Tryz.func86, Tryz.ntmps86
      go_wp2_with fail
      refine (h1 _).mono ?_
      rintro e w1 ⟨rfl, hb1⟩
      have HB1 : Hid (Below w.heap.size w w1 ∧ BL w1 w.heap.size ⟨#[]⟩ ⟨#[]⟩) := ⟨HB0.out.1.trans (hb1.mono HB0.out.1.size), HB0.out.2.later hb1⟩
      clear hb1 h1 HB0
      go_wp2_with fail
      refine (h2 _).mono ?_
      rintro e w2 ⟨rfl, hb2⟩
      have hbl := HB1.out.2.later hb2
      have b1 := HB1.out.1.trans (hb2.mono HB1.out.1.size)
      have c0 := hbl.c0
      have c1 := hbl.c1
      have f0 := hbl.f0
      have f1 := hbl.f1
      have HF : Hid ((w2.setCells w.heap.size 0 [.string a, .string b]).rangeAt w.heap.size 0 [.string a, .string b] ∧ Below w.heap.size w (w2.setCells w.heap.size 0 [.string a, .string b])) := ⟨hbl.put _ _, below_setCells (Nat.le_refl _) _ _ _ b1⟩
      clear hb2 h2 HB1 hbl
      go_wp2
      exact ret_rec3 4 5 6 w.heap.size 53 [.string a, .string b] _ _ _ rfl rfl rfl rfl rfl Tryz.underlying53 rfl sizeLeaf HF.out.1 ⟨HL.out, HF.out.2⟩

/-- what readLeaves answers -/
def RvP (s : ByteArray) (p : Nat) (w : World) (e : Ending) (w' : World) : Prop := match LV.rawL s p with
  | none => e = .returned (.tuple #[.slice none 0 0, .int .i64 0, .bool false])
  | some (l, q) => ∃ g, e = .returned (.tuple #[.slice (some ⟨g, 0, none⟩) l.length l.length, .int .i64 (q : Int), .bool (LV.leavesB l)]) ∧ w.heap.size ≤ g ∧ RW 2 lcs w' (.slice (some ⟨g, 0, none⟩) l.length l.length) g l

/-- the first m leaves of the row that is made are read, and the place is behind them -/
def RvR (s : ByteArray) (n p : Nat) (w : World) (x i : Value) (wr : World) : Prop := ∃ (m q : Nat) (l : List Le), m ≤ n ∧ i = .int .i64 m ∧ x = .int .i64 (q : Int) ∧ q ≤ s.size ∧
  Hid (LV.leavesF s m p = some (l, q) ∧ (∀ j (h : j < l.length), wr.rangeAt w.heap.size (j * 2) (lcs l[j])) ∧ (∀ j, j < n → wr.there w.heap.size (j * 2) 2) ∧ Below w.heap.size w wr ∧ w.heap.size < wr.heap.size)

theorem leavesF_more {s : ByteArray} {m p q r : Nat} {l : List Le} {f : Le} (h : LV.leavesF s m p = some (l, q)) (hf : LV.leafAt s q = some (f, r)) : LV.leavesF s (m + 1) p = some (l ++ [f], r) := by
  rw [LV.leavesF_snoc, h]
  simp only
  rw [hf]
theorem leavesF_ends {s : ByteArray} {m p q : Nat} {l : List Le} (h : LV.leavesF s m p = some (l, q)) (hf : LV.leafAt s q = none) : LV.leavesF s (m + 1) p = none := by
  rw [LV.leavesF_snoc, h]
  simp only
  rw [hf]

set_option maxRecDepth 100000 in
set_option maxHeartbeats 1000000 in
theorem readLeaves_at (s : ByteArray) (x : Int) (p : Nat) (w : World) (hx : x = (p : Int)) (hs : s.size ≤ 1048576) (hp : p ≤ s.size) :
    Calls Tryz.prog 61 #[.string s, .int .i64 x] w fun e w' => RvP s p w e w' ∧ Below w.heap.size w w' := by
  subst hx
  cases hr : M.readVar s.data.toList p with
  | none =>
    have HL : Hid (∀ W, RvP s p w (.returned (.tuple #[.slice none 0 0, .int .i64 0, .bool false])) W) := fun W => by unfold RvP; rw [LV.rawL_none hr]
    have h1 := fun W => ReadVar_none s (p : Int) W hs (.inr ⟨by omega, by simpa using hr⟩)
    clear hr
    go_enter Tryz.func61, Tryz.ntmps61
    go_wp2_with fail
    refine (h1 _).mono ?_
    rintro e w1 ⟨rfl, rfl⟩
    clear h1
    go_wp2
    go_ret3
    exact ⟨HL.out _, Below.refl _ _⟩
  | some y =>
    obtain ⟨n, q0⟩ := y
    obtain ⟨hq0, hN⟩ := read_bound s p n q0 hr
    have h1 := fun W => ReadVar_some s (p : Int) n q0 W hs (by omega) (by simpa using hr)
    by_cases hn : 24 < n
    · have HL : Hid (∀ W, RvP s p w (.returned (.tuple #[.slice none 0 0, .int .i64 0, .bool false])) W) := fun W => by unfold RvP; rw [LV.rawL_great hr hn]
      have q1 : (24 : Int) < (n : Int) := by omega
      clear hr
      go_enter Tryz.func61, Tryz.ntmps61
      go_wp2_with fail
      refine (h1 _).mono ?_
      rintro e w1 ⟨rfl, rfl⟩
      clear h1
      go_wp2
      go_ret3
      exact ⟨HL.out _, Below.refl _ _⟩
    · have q1 : ¬ (24 : Int) < (n : Int) := by omega
      have hraw := LV.rawL_at hr hn
      have HL : Hid (∀ W m, m ≤ n → LV.leavesF s m q0 = none → RvP s p w (.returned (.tuple #[.slice none 0 0, .int .i64 0, .bool false])) W) := fun W m hm h => by unfold RvP; rw [hraw, LV.leavesF_none h n hm]
      have HY : Hid (∀ l q, LV.leavesF s n q0 = some (l, q) → LV.rawL s p = some (l, q)) := fun l q h => by rw [hraw]; exact h
      obtain ⟨w2, hmk, hib, hb2, hs2⟩ := made_leaves n (by omega) w
      have HST : Hid (RvR s n q0 w (.int .i64 (q0 : Int)) (.int .i64 0) w2) := ⟨0, q0, [], by omega, rfl, rfl, hq0, rfl, fun j h => absurd h (by simp), hib, hb2, by omega⟩
      clear hr hraw hib hb2 hs2
      go_enter Tryz.func61, Tryz.ntmps61
      go_wp2_with fail
      refine (h1 _).mono ?_
      rintro e w1 ⟨rfl, rfl⟩
      clear h1
      go_wp2
      clear hmk
      go_loopw [1, 28] (fun x i wr => RvR s n q0 w1 x i wr) (fun _ i _ => n - (intOf i).toNat)
      case atStart => exact HST.out
      case round =>
        obtain ⟨m, q, l, hm, rfl, rfl, hq, HI⟩ := hrel
        clear HST
        by_cases hlt : m < n
        · have hRl := readLeaf_at s (q : Int) q wr rfl hs hq
          have i1 : (m : Int) < (n : Int) := by omega
          have i2 : (0 : Int) ≤ (m : Int) := by omega
          cases hf : LV.leafAt s q with
          | none =>
            have HE : Hid (∀ W, RvP s p w1 (.returned (.tuple #[.slice none 0 0, .int .i64 0, .bool false])) W) := fun W => HL.out W (m + 1) (by omega) (leavesF_ends HI.out.1 hf)
            unfold RlP at hRl
            simp only [hf] at hRl
            clear HY HL
            go_wp2_with fail
            refine hRl.mono ?_
            rintro e w3 ⟨⟨a, b, rfl⟩, hb3⟩
            have HT : Hid (w3.there w1.heap.size (m * 2) 2) := there_kept (HI.out.2.2.1 m (by omega)) (hb3.block _ HI.out.2.2.2.2)
            have HB : Hid (Below w1.heap.size w1 (w3.setCells w1.heap.size (m * 2) [.string a, .string b])) := below_setCells (Nat.le_refl _) _ _ _ (HI.out.2.2.2.1.trans (hb3.mono HI.out.2.2.2.1.size))
            clear hb3 HI hRl
            obtain ⟨⟨o0, x0⟩, ⟨o1, x1⟩, f0, f1⟩ := there2 HT.out
            go_wp2
            try rw [Exit.noGoto_ret]
            go_ret3
            exact ⟨HE.out _, HB.out⟩
          | some z =>
            obtain ⟨f, r⟩ := z
            have hrs := (LV.leafAt_some hq hf).2.1
            have hmore := leavesF_more HI.out.1 hf
            unfold RlP at hRl
            simp only [hf] at hRl
            go_wp2_with fail
            refine hRl.mono ?_
            rintro e w3 ⟨rfl, hb3⟩
            have hlen : l.length = m := (LV.leavesF_some hq0 HI.out.1).2.2.1
            have HT : Hid (w3.there w1.heap.size (m * 2) 2) := there_kept (HI.out.2.2.1 m (by omega)) (hb3.block _ HI.out.2.2.2.2)
            have HJ : Hid (LV.leavesF s (m + 1) q0 = some (l ++ [f], r) ∧ (∀ j (h : j < (l ++ [f]).length), (w3.setCells w1.heap.size (m * 2) [.string f.n, .string f.v]).rangeAt w1.heap.size (j * 2) (lcs (l ++ [f])[j])) ∧ (∀ j, j < n → (w3.setCells w1.heap.size (m * 2) [.string f.n, .string f.v]).there w1.heap.size (j * 2) 2) ∧ Below w1.heap.size w1 (w3.setCells w1.heap.size (m * 2) [.string f.n, .string f.v]) ∧ w1.heap.size < (w3.setCells w1.heap.size (m * 2) [.string f.n, .string f.v]).heap.size) := by
              obtain ⟨a1, a2, a3, a4, a5⟩ := HI.out
              refine ⟨hmore, fun j hj => ?_, fun j hj => World.there_setCells (there_kept (a3 j hj) (hb3.block _ a5)) _ _ _, below_setCells (Nat.le_refl _) _ _ _ (a4.trans (hb3.mono a4.size)), by rw [size_setCells]; exact Nat.lt_of_lt_of_le a5 hb3.size⟩
              by_cases hjl : j < l.length
              · rw [List.getElem_append_left hjl]
                exact World.rangeAt_setCells_apart (range_kept (a2 j hjl) (hb3.block _ a5)) _ _ _ (.inr (.inl (by rw [lcs_len]; omega)))
              · have hj2 : j = m := by simp at hj; omega
                subst hj2
                rw [List.getElem_append_right (by omega)]
                simp only [hlen, Nat.sub_self, List.getElem_cons_zero]
                exact World.rangeAt_setCells_same _ _ _ _ HT.out
            clear hb3 HI hRl hmore hlen HY HL
            obtain ⟨⟨o0, x0⟩, ⟨o1, x1⟩, f0, f1⟩ := there2 HT.out
            go_wp2
            go_roundw
            case rel => exact ⟨m + 1, r, l ++ [f], by omega, by go_num, rfl, hrs, HJ⟩
            case measure => simp [intOf]; omega
        · have hme : m = n := by omega
          subst hme
          obtain ⟨a1, a2, a3, a4, a5⟩ := HI.out
          obtain ⟨_, _, hlen, _⟩ := LV.leavesF_some hq0 a1
          have hraw := HY.out l q a1
          have hrw : RW 2 lcs wr (.slice (some ⟨w1.heap.size, 0, none⟩) m m) w1.heap.size l := ⟨⟨_, _, by rw [hlen], by omega, fun _ => ⟨rfl, a5⟩, fun j hj => by rw [Nat.zero_add]; exact a2 j hj⟩, fun j hj => a3 j (by omega)⟩
          have hsm : SmallL l := fun f hf => by
            have := LV.leavesF_size a1 f hf
            omega
          have hOk := LeavesOk_any _ w1.heap.size 0 l wr hrw.1 hsm
          have HF : Hid (∀ W, Below wr.heap.size wr W → RvP s p w1 (.returned (.tuple #[.slice (some ⟨w1.heap.size, 0, none⟩) m m, .int .i64 (q : Int), .bool (LV.leavesB l)])) W ∧ Below w1.heap.size w1 W) := fun W hW => by
            refine ⟨?_, a4.trans (hW.mono a4.size)⟩
            unfold RvP
            rw [hraw]
            exact ⟨w1.heap.size, by rw [hlen], Nat.le_refl _, by rw [hlen]; exact hrw.later hW⟩
          generalize LV.leavesB l = B at *
          clear a1 a2 a3 a4 a5 hraw hrw hsm HY HL HI hlen
          go_wp2_with fail
          refine hOk.mono ?_
          rintro e w4 ⟨rfl, hb4⟩
          have hF := HF.out _ hb4
          go_wp2
          go_ret3
          exact hF

end Go.Proofs.YtfiapodjiifmaaaGreatDoor
/-
  The reader of a proof: its text and its place, and what it wants.
-/
namespace Go.Proofs.YtfiapodjiifmaaaGreatDoor
open Go.RowKit Go.BigFrame Go.Sort
set_option linter.unusedVariables false
set_option linter.unusedSimpArgs false

/-- the block of a reader: its text and its place -/
def Rd (W : World) (c : Nat) (s : ByteArray) (p : Nat) : Prop := W.heap[c]? = some (.cells #[.string s, .int .i64 (p : Int)] 58 (0, 0))
section
variable {W W' : World} {c p : Nat} {s : ByteArray}
theorem Rd.lt (h : Rd W c s p) : c < W.heap.size := (Array.getElem?_eq_some_iff.1 h).1
theorem Rd.later (h : Rd W c s p) (hb : Below W.heap.size W W') : Rd W' c s p := (hb.block c h.lt).trans h
theorem Rd.grown {row : Option Nat} (h : Rd W c s p) (hg : W.grownBy W' row) (hne : some c ≠ row) : Rd W' c s p := (hg.block c h.lt hne).trans h
theorem Rd.c0 (h : Rd W c s p) : W.cell? ⟨c, 0, none⟩ = some (.string s) := by rw [cell_of_row W c 0 _ _ _ h]; rfl
theorem Rd.c1 (h : Rd W c s p) : W.cell? ⟨c, 1, none⟩ = some (.int .i64 (p : Int)) := by rw [cell_of_row W c 1 _ _ _ h]; rfl
theorem Rd.f1 (h : Rd W c s p) : W.frozen? ⟨c, 1, none⟩ = false := by simp [World.frozen?, show W.heap[c]? = _ from h]
theorem Rd.at (h : Rd W c s p) (q : Nat) : Rd (W.setCell ⟨c, 1, none⟩ (.int .i64 (q : Int))) c s q := heap_setCell_same W c 1 _ _ _ h
end
/-- what the reader panics with -/
def unR : PanicEntry := { v := .iface 134 (.agg #[]), recovered := false }

theorem want_yes (v : Value) (w : World) : Calls Tryz.prog 62 #[v, .bool true] w fun e w' => e = .returned (.tuple #[]) ∧ w' = w := by
  go_enter Tryz.func62, Tryz.ntmps62
  go_wp2
  go_end0
  exact ⟨rfl, rfl⟩
theorem want_no (v : Value) (w : World) : Calls Tryz.prog 62 #[v, .bool false] w fun e w' => e = .panicked [unR] ∧ w' = w := by
  go_enter Tryz.func62, Tryz.ntmps62
  go_wp2
  exact ⟨rfl, rfl, rfl⟩

set_option maxRecDepth 100000 in
set_option maxHeartbeats 1000000 in
theorem readerLeaves_no (c p : Nat) (s : ByteArray) (w : World) (h : Rd w c s p) (hs : s.size ≤ 1048576) (hp : p ≤ s.size) (hno : LV.rawL s p = none ∨ ∃ l q, LV.rawL s p = some (l, q) ∧ LV.leavesB l = false) :
    Calls Tryz.prog 32 #[.pointer (some ⟨c, 0, none⟩)] w fun e w' => e = .panicked [unR] ∧ Below w.heap.size w w' := by
  have HC : Hid (∀ W, Below w.heap.size w W → W.cell? ⟨c, 0, none⟩ = some (.string s) ∧ W.cell? ⟨c, 1, none⟩ = some (.int .i64 (p : Int))) := fun W hW => ⟨(h.later hW).c0, (h.later hW).c1⟩
  have H1 : Hid (∀ W, Calls Tryz.prog 61 #[.string s, .int .i64 (p : Int)] W fun e w' => (∃ a n c q, e = .returned (.tuple #[.slice a n c, .int .i64 q, .bool false])) ∧ Below W.heap.size W w') := fun W => (readLeaves_at s _ p W rfl hs hp).mono fun e w' ⟨hr, hb⟩ => by
    refine ⟨?_, hb⟩
    unfold RvP at hr
    rcases hno with h0 | ⟨l, q, h0, h1⟩
    · simp only [h0] at hr
      exact ⟨_, _, _, _, hr⟩
    · simp only [h0] at hr
      obtain ⟨g, he, _⟩ := hr
      rw [h1] at he
      exact ⟨_, _, _, _, he⟩
  have hb0 : Below w.heap.size w w.drew := (Below.refl _ _).drew
  clear h hno hs hp
  go_enter Tryz.func32, Tryz.ntmps32
  go_wp2
  go_region_held3 (fun W => W.cell? ⟨c, 0, none⟩ = some (.string s) ∧ W.cell? ⟨c, 1, none⟩ = some (.int .i64 (p : Int))) (first | (go_keep; done) | exact HC.out _ hb0) (first | (go_at_call 61; refine (H1.out _).mono ?_; rintro e w1 ⟨⟨a1, n1, c1, q1, rfl⟩, hc1⟩; have hb0 := hb0.trans (hc1.mono hb0.size)) | fail)
  clear HC H1 hc1
  try rename_i hHeld
  try clear hHeld
  go_wp2_with fail
  refine (want_no _ _).mono ?_
  rintro e w2 ⟨rfl, rfl⟩
  go_wp2
  exact ⟨rfl, rfl, hb0⟩

set_option maxRecDepth 100000 in
set_option maxHeartbeats 1000000 in
theorem readerLeaves_yes (c p : Nat) (s : ByteArray) (l : List Le) (q : Nat) (w : World) (h : Rd w c s p) (hs : s.size ≤ 1048576) (hp : p ≤ s.size) (hr : LV.rawL s p = some (l, q)) (hl : LV.leavesB l = true) :
    Calls Tryz.prog 32 #[.pointer (some ⟨c, 0, none⟩)] w fun e w' => ∃ g, e = .returned (.slice (some ⟨g, 0, none⟩) l.length l.length) ∧ RW 2 lcs w' (.slice (some ⟨g, 0, none⟩) l.length l.length) g l ∧ w.heap.size ≤ g ∧ Rd w' c s q ∧ w.grownBy w' (some c) := by
  have HC : Hid (∀ W, Below w.heap.size w W → W.cell? ⟨c, 0, none⟩ = some (.string s) ∧ W.cell? ⟨c, 1, none⟩ = some (.int .i64 (p : Int))) := fun W hW => ⟨(h.later hW).c0, (h.later hW).c1⟩
  have H1 : Hid (∀ W, Calls Tryz.prog 61 #[.string s, .int .i64 (p : Int)] W fun e w' => (∃ g, e = .returned (.tuple #[.slice (some ⟨g, 0, none⟩) l.length l.length, .int .i64 (q : Int), .bool true]) ∧ W.heap.size ≤ g ∧ RW 2 lcs w' (.slice (some ⟨g, 0, none⟩) l.length l.length) g l) ∧ Below W.heap.size W w') := fun W => (readLeaves_at s _ p W rfl hs hp).mono fun e w' ⟨hv, hb⟩ => by
    unfold RvP at hv
    simp only [hr, hl] at hv
    exact ⟨hv, hb⟩
  have hb0 : Below w.heap.size w w.drew := (Below.refl _ _).drew
  have HR : Hid (Rd w c s p) := h
  clear h hr hs hp hl
  go_enter Tryz.func32, Tryz.ntmps32
  go_wp2
  go_region_held3 (fun W => W.cell? ⟨c, 0, none⟩ = some (.string s) ∧ W.cell? ⟨c, 1, none⟩ = some (.int .i64 (p : Int))) (first | (go_keep; done) | exact HC.out _ hb0) (first | (go_at_call 61; refine (H1.out _).mono ?_; rintro e w1 ⟨⟨g, rfl, hg, hrw⟩, hc1⟩; have hsz := hb0.size; have hb0 := hb0.trans (hc1.mono hb0.size)) | fail)
  have h1 := HR.out.later hb0
  have d1 := h1.c1
  have f1 := h1.f1
  have hlt := h1.lt
  have HF : Hid (RW 2 lcs (w1.setCell ⟨c, 1, none⟩ (.int .i64 (q : Int))) (.slice (some ⟨g, 0, none⟩) l.length l.length) g l ∧ w.heap.size ≤ g ∧ Rd (w1.setCell ⟨c, 1, none⟩ (.int .i64 (q : Int))) c s q ∧ w.grownBy (w1.setCell ⟨c, 1, none⟩ (.int .i64 (q : Int))) (some c)) := by
    have hcw := HR.out.lt
    have hgw : w.heap.size ≤ g := by
      have e : w.drew.heap.size = w.heap.size := rfl
      omega
    refine ⟨hrw.grown (grown_setC w1 c 1 _) (fun _ => by simp; omega), hgw, h1.at q, (grown_below hb0).trans (grown_setC w1 c 1 _)⟩
  clear HC H1 hc1 HR h1 hrw hg hsz
  try rename_i hHeld
  try clear hHeld
  go_wp2_with fail
  refine (want_yes _ _).mono ?_
  rintro e w2 ⟨rfl, rfl⟩
  go_wp2
  go_ret
  exact ⟨g, rfl, HF.out⟩

end Go.Proofs.YtfiapodjiifmaaaGreatDoor
/-
  The reader of a proof: the next bytes.
-/
namespace Go.Proofs.YtfiapodjiifmaaaGreatDoor
open Go.RowKit Go.BigFrame Go.Sort
set_option linter.unusedVariables false
set_option linter.unusedSimpArgs false

set_option maxRecDepth 100000 in
set_option maxHeartbeats 1000000 in
theorem readerPiece_no (c p : Nat) (s : ByteArray) (x : Nat) (w : World) (h : Rd w c s p) (hs : s.size ≤ 1048576) (hp : p ≤ s.size) (hx : x ≤ 4096) (hno : s.size < p + x) :
    Calls Tryz.prog 64 #[.pointer (some ⟨c, 0, none⟩), .int .i64 (x : Int)] w fun e w' => e = .panicked [unR] ∧ Below w.heap.size w w' := by
  have c0 := h.c0
  have c1 := h.c1
  go_enter Tryz.func64, Tryz.ntmps64
  have d0 : w.drew.cell? ⟨c, 0, none⟩ = some (.string s) := c0
  have d1 : w.drew.cell? ⟨c, 1, none⟩ = some (.int .i64 (p : Int)) := c1
  have wr1 : IntKind.i64.wrap ((s.size : Int) - (p : Int)) = (s.size : Int) - (p : Int) := IntWalk.i64_in _ (by omega)
  have q1 : decide ((x : Int) ≤ (s.size : Int) - (p : Int)) = false := decide_eq_false (by omega)
  clear h
  go_wp2
  go_still_tail 13, (by kernel_rfl)
  go_wp2_with fail
  refine (want_no _ _).mono ?_
  rintro e w2 ⟨rfl, rfl⟩
  go_wp2
  exact ⟨rfl, rfl, (Below.refl _ _).drew⟩

set_option maxRecDepth 100000 in
set_option maxHeartbeats 1000000 in
theorem readerPiece_yes (c p : Nat) (s : ByteArray) (x : Nat) (w : World) (h : Rd w c s p) (hs : s.size ≤ 1048576) (hx : x ≤ 4096) (hyes : p + x ≤ s.size) :
    Calls Tryz.prog 64 #[.pointer (some ⟨c, 0, none⟩), .int .i64 (x : Int)] w fun e w' => e = .returned (.string (piece s p x)) ∧ Rd w' c s (p + x) ∧ w.grownBy w' (some c) := by
  have c0 := h.c0
  have c1 := h.c1
  have hpc := run_piece s p x hyes
  have hps := piece_size s p x
  have HR : Hid (Rd w c s p) := h
  have hlt := h.lt
  go_enter Tryz.func64, Tryz.ntmps64
  have d0 : w.drew.cell? ⟨c, 0, none⟩ = some (.string s) := c0
  have d1 : w.drew.cell? ⟨c, 1, none⟩ = some (.int .i64 (p : Int)) := c1
  have wr1 : IntKind.i64.wrap ((s.size : Int) - (p : Int)) = (s.size : Int) - (p : Int) := IntWalk.i64_in _ (by omega)
  have q1 : decide ((x : Int) ≤ (s.size : Int) - (p : Int)) = true := decide_eq_true (by omega)
  clear h
  go_wp2
  go_still_tail 13, (by kernel_rfl)
  go_wp2_with fail
  refine (want_yes _ _).mono ?_
  rintro e w2 ⟨rfl, hw2⟩
  subst hw2
  have f1 : w.drew.frozen? ⟨c, 1, none⟩ = false := HR.out.f1
  have H2 : Hid (Rd (w.setCell ⟨c, 1, none⟩ (.int .i64 ((p + x : Nat) : Int))).drew c s (p + x) ∧ w.grownBy (w.setCell ⟨c, 1, none⟩ (.int .i64 ((p + x : Nat) : Int))).drew (some c)) := ⟨Rd.later (HR.out.at (p + x)) (Below.refl _ _).drew, (grown_setC w c 1 _).trans (grown_below (Below.refl _ _).drew)⟩
  have e1 : ((p + x : Nat) : Int) = (p : Int) + (x : Int) := by omega
  rw [e1] at H2
  go_wp2
  generalize (w.setCell ⟨c, 1, none⟩ (.int .i64 ((p : Int) + (x : Int)))).drew = W2 at *
  have g0 : W2.drew.cell? ⟨c, 0, none⟩ = some (.string s) := H2.out.1.c0
  have g1 : W2.drew.cell? ⟨c, 1, none⟩ = some (.int .i64 ((p : Int) + (x : Int))) := by have := H2.out.1.c1; rw [e1] at this; exact this
  go_still_tail 10, (by kernel_rfl)
  go_wp2_with fail
  refine (Clone_any _ _ (by omega)).mono ?_
  rintro e w3 ⟨rfl, hb3⟩
  have HF : Hid (Rd w3 c s (p + x) ∧ w.grownBy w3 (some c)) := ⟨(Rd.later (W' := W2.drew) H2.out.1 (Below.refl _ _).drew).later hb3, (H2.out.2.trans (grown_below (Below.refl _ _).drew)).trans (grown_below hb3)⟩
  clear H2 g0 g1 hb3 d0 d1 c0 c1
  go_wp2
  go_ret
  exact ⟨rfl, HF.out⟩

end Go.Proofs.YtfiapodjiifmaaaGreatDoor
