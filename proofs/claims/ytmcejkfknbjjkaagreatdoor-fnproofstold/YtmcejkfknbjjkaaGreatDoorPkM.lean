/-
  Texts laid together: Pwd, Pfm, Pvd, Tsz, Pa.
-/
import Derived.Test.YtmcejkfknbjjkaaGreatDoorPkD
import Derived.Test.YtmcejkfknbjjkaaGreatDoorPkA
import Derived.Test.YtmcejkfknbjjkaaGreatDoorPkG
import Derived.Test.YtmcejkfknbjjkaaGreatDoorPkI
import Derived.Laws.Rows
import Derived.Laws.Tables
import Derived.Test.YtmcejkfknbjjkaaGreatDoorPkJ
import Derived.Test.YtmcejkfknbjjkaaGreatDoorPkC
/-
  Proofs: how wide their sides are: the specification's answer.
-/
namespace Go.Proofs.YtmcejkfknbjjkaaGreatDoor
open Go.RowKit Go.BigFrame Go.Sort
set_option linter.unusedVariables false
set_option linter.unusedSimpArgs false

/-- are all of this width? -/
def wideB (S : List ByteArray) (x : Int) : Bool := S.all (fun s => decide ((s.size : Int) = x)) && decide (1 ≤ x ∧ x ≤ 32)
theorem wideB_bad {S : List ByteArray} {x : Int} {m : Nat} (hm : m < S.length) (h : ¬ ((S[m].size : Int) = x)) : wideB S x = false := by
  unfold wideB
  rw [Bool.and_eq_false_iff]
  left
  rw [List.all_eq_false]
  exact ⟨S[m], List.getElem_mem _, by simpa using h⟩
theorem wideB_good {S : List ByteArray} {x : Int} (h : ∀ j (hj : j < S.length), (S[j].size : Int) = x) : wideB S x = decide (1 ≤ x ∧ x ≤ 32) := by
  unfold wideB
  have : S.all (fun s => decide ((s.size : Int) = x)) = true := by
    rw [List.all_eq_true]
    intro s hs
    obtain ⟨j, hj, rfl⟩ := List.getElem_of_mem hs
    simpa using h j hj
  rw [this, Bool.true_and]

def PwR (w : World) (S : List ByteArray) (x : Int) (i : Value) (wr : World) : Prop := ∃ m : Nat, m ≤ S.length ∧ i = .int .i64 m ∧ wr = w ∧ Hid (∀ j (h : j < S.length), j < m → (S[j].size : Int) = x)

set_option maxRecDepth 100000 in
set_option maxHeartbeats 1000000 in
theorem l11Wide_any (v : Value) (g o : Nat) (S : List ByteArray) (x : Int) (w : World) (hv : SS w v g o S) :
    Calls Tryz.prog 71 #[v, .int .i64 x] w fun e w' => e = .returned (.bool (wideB S x)) ∧ w' = w := by
  obtain ⟨R, hR⟩ : ∃ R, wideB S x = R := ⟨_, rfl⟩
  have HR : Hid (wideB S x = R) := hR
  rw [hR]
  obtain ⟨a, cap, rfl, hl, hA, hc⟩ := hv
  obtain ⟨n, hn⟩ : ∃ n, S.length = n := ⟨_, rfl⟩
  have HA : Hid (0 < n → a = some ⟨g, o, none⟩) := by rw [← hn]; exact hA
  have HCC : Hid (∀ j (h : j < S.length), w.cell? ⟨g, o + j, none⟩ = some (.string S[j])) := hc
  have HN : Hid (S.length = n) := hn
  have HST : Hid (PwR w S x (.int .i64 0) w) := ⟨0, by omega, rfl, rfl, fun j _ h => by omega⟩
  rw [hn] at hl ⊢
  clear hA hc hn hR
  go_enter Tryz.func71, Tryz.ntmps71
  go_wp2
  go_loopw [5] (fun i wr => PwR w S x i wr) (fun i _ => n - (intOf i).toNat)
  case atStart => exact HST.out
  case round =>
    obtain ⟨m, hm, rfl, rfl, HI⟩ := hrel
    clear HST
    rw [HN.out] at hm
    by_cases hlt : m < n
    · have ea := HA.out (by omega)
      subst ea
      have c0 := HCC.out m (by rw [HN.out]; exact hlt)
      have HB : Hid (¬ (((S[m]'(by rw [HN.out]; exact hlt)).size : Int) = x) → wideB S x = false) := fun h => wideB_bad _ h
      have HJ : Hid ((((S[m]'(by rw [HN.out]; exact hlt)).size : Int) = x) → ∀ j (h : j < S.length), j < m + 1 → (S[j].size : Int) = x) := fun h j hj hjm => by
        rcases Nat.lt_or_ge j m with h1 | h1
        · exact HI.out j hj h1
        · have : j = m := by omega
          subst this
          exact h
      generalize S[m]'(by rw [HN.out]; exact hlt) = X at *
      have i1 : (m : Int) < (n : Int) := by omega
      have i2 : (0 : Int) ≤ (m : Int) := by omega
      by_cases hk : (X.size : Int) = x
      · have HJ2 : Hid (∀ j (h : j < S.length), j < m + 1 → (S[j].size : Int) = x) := HJ.out hk
        have q : ((X.size : Int) != x) = false := by simpa using hk
        clear HJ HB hk HI HCC
        go_wp2
        go_roundw
        case rel => exact ⟨m + 1, by rw [HN.out]; omega, by go_num, rfl, HJ2⟩
        case measure => simp [intOf]; omega
      · have hRf := HB.out hk
        rw [HR.out] at hRf
        subst hRf
        have q : ((X.size : Int) != x) = true := by simpa using hk
        clear HJ HB hk HI HCC HR
        go_wp2
        go_ret
        exact ⟨rfl, rfl⟩
    · have hme : m = n := by omega
      have hG := wideB_good (S := S) (x := x) (fun j hj => HI.out j hj (by rw [HN.out] at hj; omega))
      rw [HR.out] at hG
      have HG : Hid (decide (1 ≤ x ∧ x ≤ 32) = R) := hG.symm
      clear hG
      have i1 : ¬ (m : Int) < (n : Int) := by omega
      clear HI HCC HR
      go_wp2_with fail
      refine (l01In_any _ _ _ _).mono ?_
      rintro e w2 ⟨rfl, rfl⟩
      rw [HG.out]
      go_wp2
      go_ret
      exact ⟨rfl, rfl⟩

theorem run_rangeP {w : World} {p : Nat} {v1 v2 : Value} (t : TypeId) : (w.alloc (.cells #[v1, v2] t)).cell? ⟨w.heap.size, 0, none⟩ = some v1 ∧ (w.alloc (.cells #[v1, v2] t)).cell? ⟨w.heap.size, 1, none⟩ = some v2 := by
  constructor
  · rw [World.cell?_alloc_at _ _ _ _ rfl]; rfl
  · rw [World.cell?_alloc_at _ _ _ _ rfl]; rfl

end Go.Proofs.YtmcejkfknbjjkaaGreatDoor
/-
  A proof in a box of its own: read, stored, answered.
-/
namespace Go.Proofs.YtmcejkfknbjjkaaGreatDoor
open Go.RowKit Go.BigFrame Go.Sort
set_option linter.unusedVariables false
set_option linter.unusedSimpArgs false

theorem cell_up {w w' : World} {p : Addr} {v : Value} (h : w.cell? p = some v) (hb : Below w.heap.size w w') : w'.cell? p = some v := by
  have hlt : p.block < w.heap.size := by
    rcases Nat.lt_or_ge p.block w.heap.size with h5 | h5
    · exact h5
    · simp [World.cell?, Array.getElem?_eq_none h5] at h
  exact (hb.cell hlt).trans h
/-- block g is a proof with these fields -/
def PfM (w : World) (g : Nat) (v1 v2 : Value) : Prop := w.heap[g]? = some (.cells #[v1, v2] 43 (0, 0))
theorem PfM.lt {w : World} {g : Nat} {v1 v2 : Value} (h : PfM w g v1 v2) : g < w.heap.size := (Array.getElem?_eq_some_iff.1 h).1
theorem PfM.keep {w w' : World} {g : Nat} {v1 v2 : Value} (h : PfM w g v1 v2) (he : w'.heap[g]? = w.heap[g]?) : PfM w' g v1 v2 := by
  unfold PfM at *
  rw [he, h]
theorem PfM.later {w w' : World} {g : Nat} {v1 v2 : Value} (h : PfM w g v1 v2) (hb : Below w.heap.size w w') : PfM w' g v1 v2 := h.keep (hb.block g h.lt)
theorem PfM.new (w : World) (v1 v2 : Value) : PfM (w.alloc (.cells #[v1, v2] 43)) w.heap.size v1 v2 := Go.heap_alloc_new w _
theorem sizeP : (Tryz.prog.info? 43).map (·.size) = some 2 := by kernel_rfl
theorem load_pf {w : World} {g : Nat} {v1 v2 : Value} (hA : PfM w g v1 v2) : (loadVar 43 ⟨g, 0, none⟩).run Tryz.prog w = .ok (.agg #[v1, v2]) w :=
  run_loadVar_row (P := Tryz.prog) w g 43 43 _ (0, 0) _ hA Tryz.underlying43 rfl sizeP
theorem ret_pf2 {fn : Func} {Rp : Ending → World → Prop} {a : Act} {w : World} (c s g : Nat) (v1 v2 b : Value) (hres : fn.results = #[.cell c 43, .tmp s]) (hd : a.defers = []) (hp : a.tmps.getD c undef = .pointer (some ⟨g, 0, none⟩)) (hb : a.tmps.getD s undef = b)
    (hA : PfM w g v1 v2) (h : Rp (.returned (.tuple #[.agg #[v1, v2], b])) w) : bodyPost Tryz.prog fn Rp .ret a w := by
  have hr := load_pf hA
  refine bodyPost_ret (v := .tuple #[.agg #[v1, v2], b]) ?_ hd h
  have hp' : a.tmps[c]?.getD undef = .pointer (some ⟨g, 0, none⟩) := by simpa using hp
  have hb' : a.tmps[s]?.getD undef = b := by simpa using hb
  simp [results, hres, asAddr, hr, hp', hb']
section
variable {w : World} {ops : Array Oper} {rest : List Oper} {o : Oper} {a : Act} {Q : Exit → Act → World → Prop}
theorem wp_storePf (hgd : o.guard = none) (p v : Operand) (ho : o.op = .store 43 p v) (g : Nat) (v1 v2 u1 u2 : Value) (hA : PfM w g v1 v2) (hp : a.eval p = .pointer (some ⟨g, 0, none⟩)) (hv : a.eval v = .agg #[u1, u2])
    (h1 : u1.oneCell' = true) (h2 : u2.oneCell' = true)
    (h : PfM (w.setRow g #[u1, u2]) g u1 u2 → wpList Tryz.prog ops Q rest (a.put o.dst (.tuple #[])) (w.setRow g #[u1, u2])) : wpList Tryz.prog ops Q (o :: rest) a w := by
  refine wpList_plain hgd fun K hK => ?_
  have hr : (Instr.storeAt 43 (.pointer (some ⟨g, 0, none⟩)) (.agg #[u1, u2])).run Tryz.prog w = .ok () (w.setRow g #[u1, u2]) := by
    simp only [Instr.storeAt, Instr.sureAddr, Sem.run_bind, Sem.run_pure, Result.andThen]
    refine run_storeVar_row w g 43 43 _ _ hA sizeP rfl ?_
    simp [h1, h2]
  unfold Oper.wp
  simp [execOp, ho, hp, hv, hr, Result.andThen]
  exact hK _ _ (h (setRow_heap w g _ _ _ _ hA))
end
theorem grown_setRowP (w : World) (g : Nat) (R : Array Value) : w.grownBy (w.setRow g R) (some g) :=
  ⟨rfl, rfl, rfl, by simp [World.setRow], fun k _ hk => setRow_other w g k R (fun e => hk (by simp [e]))⟩
theorem below_row {B g : Nat} {w0 w : World} {R : Array Value} (h : Below B w0 w) (hg : B ≤ g) : Below B w0 (w.setRow g R) :=
  h.trans ⟨rfl, rfl, rfl, by simp [World.setRow], fun k hk => setRow_other w g k R (by omega)⟩
theorem size_setRowP (w : World) (g : Nat) (R : Array Value) : (w.setRow g R).heap.size = w.heap.size := by simp [World.setRow]
theorem PfM.c0 {w : World} {g : Nat} {v1 v2 : Value} (h : PfM w g v1 v2) : w.cell? ⟨g, 0, none⟩ = some v1 := by rw [cell_of_row w g 0 _ _ _ h]; rfl
theorem PfM.c1 {w : World} {g : Nat} {v1 v2 : Value} (h : PfM w g v1 v2) : w.cell? ⟨g, 1, none⟩ = some v2 := by rw [cell_of_row w g 1 _ _ _ h]; rfl
theorem PfM.fr {w : World} {g : Nat} {v1 v2 : Value} (h : PfM w g v1 v2) (j : Nat) : w.frozen? ⟨g, j, none⟩ = false := by simp [World.frozen?, show w.heap[g]? = _ from h]
theorem PfM.set0 {w : World} {g : Nat} {v1 v2 : Value} (h : PfM w g v1 v2) (u : Value) : PfM (w.setCell ⟨g, 0, none⟩ u) g u v2 := heap_setCell_same w g 0 _ _ _ h
theorem PfM.set1 {w : World} {g : Nat} {v1 v2 : Value} (h : PfM w g v1 v2) (u : Value) : PfM (w.setCell ⟨g, 1, none⟩ u) g v1 u := heap_setCell_same w g 1 _ _ _ h
theorem ret_pf1 {fn : Func} {Rp : Ending → World → Prop} {a : Act} {w : World} (c g : Nat) (v1 v2 : Value) (hres : fn.results = #[.cell c 43]) (hd : a.defers = []) (hp : a.tmps.getD c undef = .pointer (some ⟨g, 0, none⟩))
    (hA : PfM w g v1 v2) (h : Rp (.returned (.agg #[v1, v2])) w) : bodyPost Tryz.prog fn Rp .ret a w := by
  have hr := load_pf hA
  refine bodyPost_ret (v := .agg #[v1, v2]) ?_ hd h
  have hp' : a.tmps[c]?.getD undef = .pointer (some ⟨g, 0, none⟩) := by simpa using hp
  simp [results, hres, asAddr, hr, hp']
theorem wp_loadPf {w : World} {ops : Array Oper} {rest : List Oper} {o : Oper} {a : Act} {Q : Exit → Act → World → Prop} (hgd : o.guard = none) (p : Operand) (ho : o.op = .load 43 p) (g : Nat) (v1 v2 : Value) (hp : a.eval p = .pointer (some ⟨g, 0, none⟩)) (hA : PfM w g v1 v2)
    (h : wpList Tryz.prog ops Q rest (a.put o.dst (.agg #[v1, v2])) w) : wpList Tryz.prog ops Q (o :: rest) a w := by
  refine wpList_plain hgd fun K hK => ?_
  have hr : (Instr.loadAt 43 (.pointer (some ⟨g, 0, none⟩))).run Tryz.prog w = .ok (.agg #[v1, v2]) w := by
    simp only [Instr.loadAt, Instr.sureAddr, Sem.run_bind, Sem.run_pure, Result.andThen]
    exact load_pf hA
  unfold Oper.wp
  simp [execOp, ho, hp, hr, Result.andThen]
  exact hK _ _ h

end Go.Proofs.YtmcejkfknbjjkaaGreatDoor
/-
  A proof that is answered, and a word beside it.
-/
namespace Go.Proofs.YtmcejkfknbjjkaaGreatDoor
open Go.RowKit Go.BigFrame Go.Sort
set_option linter.unusedVariables false
set_option linter.unusedSimpArgs false

/-- a proof answered, in new memory, and a word beside it -/
def PvP (B : List Le) (S : List ByteArray) (b : Bool) (w : World) (e : Ending) (w' : World) : Prop := ∃ ab cb aS cS gb gs, e = .returned (.tuple #[.agg #[.slice ab B.length cb, .slice aS S.length cS], .bool b]) ∧ RW 2 lcs w' (.slice ab B.length cb) gb B ∧ TS w' (.slice aS S.length cS) gs S ∧ w.heap.size ≤ gb ∧ w.heap.size ≤ gs ∧ ((0 < B.length → 0 < S.length → gb ≠ gs) ∧ S.length ≤ cS) ∧ Below w.heap.size w w'
theorem PvP.no {w w' : World} (hb : Below w.heap.size w w') : PvP [] [] false w (.returned (.tuple #[.agg #[.slice none 0 0, .slice none 0 0], .bool false])) w' :=
  ⟨none, 0, none, 0, w.heap.size, w.heap.size, rfl, RW.nil _ _, TS.nil _ _, Nat.le_refl _, Nat.le_refl _, ⟨fun h => absurd h (by simp), Nat.le_refl _⟩, hb⟩

end Go.Proofs.YtmcejkfknbjjkaaGreatDoor
/-
  A row of texts that was handed in, great or small, and what a law weighs of it.
-/
namespace Go.Proofs.YtmcejkfknbjjkaaGreatDoor
open Go.RowKit Go.BigFrame Go.Sort
set_option linter.unusedVariables false
set_option linter.unusedSimpArgs false

def IsRowT (w : World) (v : Value) (g o : Nat) (l : List ByteArray) : Prop := ∃ a n cap, v = .slice a n cap ∧ n ≤ 9223372036854775807 ∧ (n ≤ 1048576 → l.length = n ∧ SS w v g o l ∧ (0 < l.length → g < w.heap.size) ∧ ∀ t ∈ l, t.size ≤ 9223372036854775807)
theorem IsRowT.later {w w' : World} {v : Value} {g o : Nat} {l : List ByteArray} (h : IsRowT w v g o l) (hb : Below w.heap.size w w') : IsRowT w' v g o l := by
  obtain ⟨a, n, cap, hv, hn, hr⟩ := h
  exact ⟨a, n, cap, hv, hn, fun hl => ⟨(hr hl).1, (hr hl).2.1.below hb (hr hl).2.2.1, fun h => Nat.lt_of_lt_of_le ((hr hl).2.2.1 h) hb.size, (hr hl).2.2.2⟩⟩
theorem rowT_of {w : World} {a : Option Addr} {len cap : Nat} {z : List ByteArray} (h : IsRowS w a len cap z) : ∃ g o l, IsRowT w (.slice a len cap) g o l := by
  have hm := h.len
  unfold maxLen at hm
  by_cases hl : len ≤ 1048576
  · obtain ⟨g, o, l, h1, h2, h3⟩ := ss_of_row h hl
    exact ⟨g, o, l, a, len, cap, rfl, by omega, fun _ => ⟨h1, h2, h2.lt, fun t ht => by have := h3 t ht; unfold maxLen at this; omega⟩⟩
  · exact ⟨0, 0, [], a, len, cap, rfl, by omega, fun h => absurd h hl⟩

def SzT (l : List ByteArray) (x0 : Int) (w : World) (x i : Value) (wr : World) : Prop := ∃ (m : Nat) (y : Int), m ≤ l.length ∧ i = .int .i64 m ∧ x = .int .i64 y ∧ 0 ≤ y ∧ y ≤ x0 ∧ Hid (∀ j (h : j < l.length), j < m → l[j].size ≤ 1048576) ∧ wr = w

end Go.Proofs.YtmcejkfknbjjkaaGreatDoor
/-
  Proofs: how wide their sides are, and when these are right: the program's answers.
-/
namespace Go.Proofs.YtmcejkfknbjjkaaGreatDoor
open Go.RowKit Go.BigFrame Go.Sort
set_option linter.unusedVariables false
set_option linter.unusedSimpArgs false

def allW (S : List ByteArray) (x : Int) : Bool := S.all (fun s => decide ((s.size : Int) = x))
theorem allW_bad {S : List ByteArray} {x : Int} {m : Nat} (hm : m < S.length) (h : ¬ ((S[m].size : Int) = x)) : allW S x = false := by
  unfold allW
  rw [List.all_eq_false]
  exact ⟨S[m], List.getElem_mem _, by simpa using h⟩
theorem allW_good {S : List ByteArray} {x : Int} (h : ∀ j (hj : j < S.length), (S[j].size : Int) = x) : allW S x = true := by
  unfold allW
  rw [List.all_eq_true]
  intro s hs
  obtain ⟨j, hj, rfl⟩ := List.getElem_of_mem hs
  simpa using h j hj
theorem wideB_all (S : List ByteArray) (x : Int) : wideB S x = (allW S x && decide (1 ≤ x ∧ x ≤ 32)) := rfl

set_option maxRecDepth 100000 in
set_option maxHeartbeats 1000000 in
theorem allWide_any (v : Value) (g o : Nat) (S : List ByteArray) (x : Int) (w : World) (hv : SS w v g o S) :
    Calls Tryz.prog 94 #[v, .int .i64 x] w fun e w' => e = .returned (.bool (allW S x)) ∧ w' = w := by
  obtain ⟨R, hR⟩ : ∃ R, allW S x = R := ⟨_, rfl⟩
  have HR : Hid (allW S x = R) := hR
  rw [hR]
  obtain ⟨a, cap, rfl, hl, hA, hc⟩ := hv
  obtain ⟨n, hn⟩ : ∃ n, S.length = n := ⟨_, rfl⟩
  have HA : Hid (0 < n → a = some ⟨g, o, none⟩) := by rw [← hn]; exact hA
  have HCC : Hid (∀ j (h : j < S.length), w.cell? ⟨g, o + j, none⟩ = some (.string S[j])) := hc
  have HN : Hid (S.length = n) := hn
  have HST : Hid (PwR w S x (.int .i64 0) w) := ⟨0, by omega, rfl, rfl, fun j _ h => by omega⟩
  rw [hn] at hl ⊢
  clear hA hc hn hR
  go_enter Tryz.func94, Tryz.ntmps94
  go_wp2
  go_loopw [9] (fun i wr => PwR w S x i wr) (fun i _ => n - (intOf i).toNat)
  case atStart => exact HST.out
  case round =>
    obtain ⟨m, hm, rfl, rfl, HI⟩ := hrel
    clear HST
    rw [HN.out] at hm
    by_cases hlt : m < n
    · have ea := HA.out (by omega)
      subst ea
      have c0 := HCC.out m (by rw [HN.out]; exact hlt)
      have HB : Hid (¬ (((S[m]'(by rw [HN.out]; exact hlt)).size : Int) = x) → allW S x = false) := fun h => allW_bad _ h
      have HJ : Hid ((((S[m]'(by rw [HN.out]; exact hlt)).size : Int) = x) → ∀ j (h : j < S.length), j < m + 1 → (S[j].size : Int) = x) := fun h j hj hjm => by
        rcases Nat.lt_or_ge j m with h1 | h1
        · exact HI.out j hj h1
        · have : j = m := by omega
          subst this
          exact h
      generalize S[m]'(by rw [HN.out]; exact hlt) = X at *
      have i1 : (m : Int) < (n : Int) := by omega
      have i2 : (0 : Int) ≤ (m : Int) := by omega
      by_cases hk : (X.size : Int) = x
      · have HJ2 : Hid (∀ j (h : j < S.length), j < m + 1 → (S[j].size : Int) = x) := HJ.out hk
        have q : ((X.size : Int) != x) = false := by simpa using hk
        clear HJ HB hk HI HCC
        go_wp2
        go_roundw
        case rel => exact ⟨m + 1, by rw [HN.out]; omega, by go_num, rfl, HJ2⟩
        case measure => simp [intOf]; omega
      · have hRf := HB.out hk
        rw [HR.out] at hRf
        subst hRf
        have q : ((X.size : Int) != x) = true := by simpa using hk
        clear HJ HB hk HI HCC HR
        go_wp2
        try rw [Exit.noGoto_ret]
        go_ret
        exact ⟨rfl, rfl⟩
    · have hme : m = n := by omega
      have hG := allW_good (S := S) (x := x) (fun j hj => HI.out j hj (by rw [HN.out] at hj; omega))
      rw [HR.out] at hG
      subst hG
      have i1 : ¬ (m : Int) < (n : Int) := by omega
      clear HI HCC HR
      go_wp2
      go_ret
      exact ⟨rfl, rfl⟩

/-- are they right sides? -/
def sidB (S : List ByteArray) (x : Int) : Bool := decide (S.length ≤ 8) && wideB S x
set_option maxRecDepth 100000 in
set_option maxHeartbeats 1000000 in
theorem sidesOk_any (v : Value) (g o : Nat) (S : List ByteArray) (x : Int) (w : World) (hv : SS w v g o S) :
    Calls Tryz.prog 68 #[v, .int .i64 x] w fun e w' => e = .returned (.bool (sidB S x)) ∧ w' = w := by
  obtain ⟨R, hR⟩ : ∃ R, sidB S x = R := ⟨_, rfl⟩
  have haw := allWide_any v g o S x w hv
  have e0 : sidB S x = (decide (S.length ≤ 8) && (allW S x && decide (1 ≤ x ∧ x ≤ 32))) := rfl
  rw [hR] at e0 ⊢
  obtain ⟨a, cap, rfl, hl, hz1, hz2⟩ := hv
  clear hR hz1 hz2
  cases h1 : decide (1 ≤ x ∧ x ≤ 32) with
  | false =>
    have hRf : R = false := by rw [e0, h1]; simp
    subst hRf
    clear haw e0
    go_enter Tryz.func68, Tryz.ntmps68
    go_wp2_with fail
    refine (widthOk_any _ _).mono ?_
    rintro e w1 ⟨rfl, rfl⟩
    rw [h1]
    go_wp2
    go_ret
    exact ⟨rfl, rfl⟩
  | true =>
    by_cases h2 : S.length ≤ 8
    · have hRf : R = allW S x := by rw [e0, h1, decide_eq_true h2]; simp
      have i2 : (S.length : Int) ≤ 8 := by omega
      rw [← hRf] at haw
      clear hRf e0
      generalize S.length = n at *
      go_enter Tryz.func68, Tryz.ntmps68
      go_wp2_with fail
      refine (widthOk_any _ _).mono ?_
      rintro e w1 ⟨rfl, rfl⟩
      rw [h1]
      go_wp2_with fail
      refine haw.mono ?_
      rintro e w2 ⟨rfl, rfl⟩
      go_wp2
      go_ret
      exact ⟨rfl, rfl⟩
    · have hRf : R = false := by rw [e0, decide_eq_false h2]; simp
      subst hRf
      have i2 : ¬ (S.length : Int) ≤ 8 := by omega
      clear haw e0
      generalize S.length = n at *
      go_enter Tryz.func68, Tryz.ntmps68
      go_wp2_with fail
      refine (widthOk_any _ _).mono ?_
      rintro e w1 ⟨rfl, rfl⟩
      rw [h1]
      go_wp2
      go_ret
      exact ⟨rfl, rfl⟩

end Go.Proofs.YtmcejkfknbjjkaaGreatDoor
