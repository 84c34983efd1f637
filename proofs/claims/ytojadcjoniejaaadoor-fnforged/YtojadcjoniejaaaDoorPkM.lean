/-
  Texts laid together: Pwd, Pfm, Pvd, Tsz, Pa, Pz, Pbx, Pox, Pop.
-/
import Derived.Test.YtojadcjoniejaaaDoorPkD
import Derived.Test.YtojadcjoniejaaaDoorPkA
import Derived.Test.YtojadcjoniejaaaDoorPkG
import Derived.Test.YtojadcjoniejaaaDoorPkI
import Derived.Laws.Rows
import Derived.Laws.Tables
import Derived.Test.YtojadcjoniejaaaDoorPkJ
import Derived.Test.YtojadcjoniejaaaDoorPkC
import Derived.Lib.SmallJoins
import Derived.ProofKit
import Derived.Deep.RegionHeld3
/-
  Proofs: how wide their sides are: the specification's answer.
-/
namespace Go.Proofs.YtojadcjoniejaaaDoor
open Go.RowKit Go.BigFrame Go.Sort
set_option linter.unusedVariables false
set_option linter.unusedSimpArgs false

/-- are all of this width? -/
def wideB (S : List ByteArray) (x : Int) : Bool := S.all (fun s => decide ((s.size : Int) = x)) && decide (1 ≤ x ∧ x ≤ 32)
theorem wideB_bad {S : List ByteArray} {x : Int} {m : Nat} (hm : m < S.length) (h : ¬ ((S[m].size : Int) = x)) : wideB S x = false := by
  unfold wideB
  rw [Bool.and_eq_false_iff]
  left
  rw [List.all_eq_false]
  exact ⟨S[m], List.getElem_mem _, by simpa using h⟩
theorem wideB_good {S : List ByteArray} {x : Int} (h : ∀ j (hj : j < S.length), (S[j].size : Int) = x) : wideB S x = decide (1 ≤ x ∧ x ≤ 32) := by
  unfold wideB
  have : S.all (fun s => decide ((s.size : Int) = x)) = true := by
    rw [List.all_eq_true]
    intro s hs
    obtain ⟨j, hj, rfl⟩ := List.getElem_of_mem hs
    simpa using h j hj
  rw [this, Bool.true_and]

def PwR (w : World) (S : List ByteArray) (x : Int) (i : Value) (wr : World) : Prop := ∃ m : Nat, m ≤ S.length ∧ i = .int .i64 m ∧ wr = w ∧ Hid (∀ j (h : j < S.length), j < m → (S[j].size : Int) = x)

set_option maxRecDepth 100000 in
set_option maxHeartbeats 1000000 in
theorem l11Wide_any (v : Value) (g o : Nat) (S : List ByteArray) (x : Int) (w : World) (hv : SS w v g o S) :
    Calls Tryd.prog 88 #[v, .int .i64 x] w fun e w' => e = .returned (.bool (wideB S x)) ∧ w' = w := by
  obtain ⟨R, hR⟩ : ∃ R, wideB S x = R := ⟨_, rfl⟩
  have HR : Hid (wideB S x = R) := hR
  rw [hR]
  obtain ⟨a, cap, rfl, hl, hA, hc⟩ := hv
  obtain ⟨n, hn⟩ : ∃ n, S.length = n := ⟨_, rfl⟩
  have HA : Hid (0 < n → a = some ⟨g, o, none⟩) := by rw [← hn]; exact hA
  have HCC : Hid (∀ j (h : j < S.length), w.cell? ⟨g, o + j, none⟩ = some (.string S[j])) := hc
  have HN : Hid (S.length = n) := hn
  have HST : Hid (PwR w S x (.int .i64 0) w) := ⟨0, by omega, rfl, rfl, fun j _ h => by omega⟩
  rw [hn] at hl ⊢
  clear hA hc hn hR
  go_enter Tryd.func88, Tryd.ntmps88
  go_wp2
  go_loopw [5] (fun i wr => PwR w S x i wr) (fun i _ => n - (intOf i).toNat)
  case atStart => exact HST.out
  case round =>
    obtain ⟨m, hm, rfl, rfl, HI⟩ := hrel
    clear HST
    rw [HN.out] at hm
    by_cases hlt : m < n
    · have ea := HA.out (by omega)
      subst ea
      have c0 := HCC.out m (by rw [HN.out]; exact hlt)
      have HB : Hid (¬ (((S[m]'(by rw [HN.out]; exact hlt)).size : Int) = x) → wideB S x = false) := fun h => wideB_bad _ h
      have HJ : Hid ((((S[m]'(by rw [HN.out]; exact hlt)).size : Int) = x) → ∀ j (h : j < S.length), j < m + 1 → (S[j].size : Int) = x) := fun h j hj hjm => by
        rcases Nat.lt_or_ge j m with h1 | h1
        · exact HI.out j hj h1
        · have : j = m := by omega
          subst this
          exact h
      generalize S[m]'(by rw [HN.out]; exact hlt) = X at *
      have i1 : (m : Int) < (n : Int) := by omega
      have i2 : (0 : Int) ≤ (m : Int) := by omega
      by_cases hk : (X.size : Int) = x
      · have HJ2 : Hid (∀ j (h : j < S.length), j < m + 1 → (S[j].size : Int) = x) := HJ.out hk
        have q : ((X.size : Int) != x) = false := by simpa using hk
        clear HJ HB hk HI HCC
        go_wp2
        go_roundw
        case rel => exact ⟨m + 1, by rw [HN.out]; omega, by go_num, rfl, HJ2⟩
        case measure => simp [intOf]; omega
      · have hRf := HB.out hk
        rw [HR.out] at hRf
        subst hRf
        have q : ((X.size : Int) != x) = true := by simpa using hk
        clear HJ HB hk HI HCC HR
        go_wp2
        go_ret
        exact ⟨rfl, rfl⟩
    · have hme : m = n := by omega
      have hG := wideB_good (S := S) (x := x) (fun j hj => HI.out j hj (by rw [HN.out] at hj; omega))
      rw [HR.out] at hG
      have HG : Hid (decide (1 ≤ x ∧ x ≤ 32) = R) := hG.symm
      clear hG
      have i1 : ¬ (m : Int) < (n : Int) := by omega
      clear HI HCC HR
      go_wp2_with fail
      refine (l01In_any _ _ _ _).mono ?_
      rintro e w2 ⟨rfl, rfl⟩
      rw [HG.out]
      go_wp2
      go_ret
      exact ⟨rfl, rfl⟩

theorem run_rangeP {w : World} {p : Nat} {v1 v2 : Value} (t : TypeId) : (w.alloc (.cells #[v1, v2] t)).cell? ⟨w.heap.size, 0, none⟩ = some v1 ∧ (w.alloc (.cells #[v1, v2] t)).cell? ⟨w.heap.size, 1, none⟩ = some v2 := by
  constructor
  · rw [World.cell?_alloc_at _ _ _ _ rfl]; rfl
  · rw [World.cell?_alloc_at _ _ _ _ rfl]; rfl

end Go.Proofs.YtojadcjoniejaaaDoor
/-
  A proof in a box of its own: read, stored, answered.
-/
namespace Go.Proofs.YtojadcjoniejaaaDoor
open Go.RowKit Go.BigFrame Go.Sort
set_option linter.unusedVariables false
set_option linter.unusedSimpArgs false

theorem cell_up {w w' : World} {p : Addr} {v : Value} (h : w.cell? p = some v) (hb : Below w.heap.size w w') : w'.cell? p = some v := by
  have hlt : p.block < w.heap.size := by
    rcases Nat.lt_or_ge p.block w.heap.size with h5 | h5
    · exact h5
    · simp [World.cell?, Array.getElem?_eq_none h5] at h
  exact (hb.cell hlt).trans h
/-- block g is a proof with these fields -/
def PfM (w : World) (g : Nat) (v1 v2 : Value) : Prop := w.heap[g]? = some (.cells #[v1, v2] 36 (0, 0))
theorem PfM.lt {w : World} {g : Nat} {v1 v2 : Value} (h : PfM w g v1 v2) : g < w.heap.size := (Array.getElem?_eq_some_iff.1 h).1
theorem PfM.keep {w w' : World} {g : Nat} {v1 v2 : Value} (h : PfM w g v1 v2) (he : w'.heap[g]? = w.heap[g]?) : PfM w' g v1 v2 := by
  unfold PfM at *
  rw [he, h]
theorem PfM.later {w w' : World} {g : Nat} {v1 v2 : Value} (h : PfM w g v1 v2) (hb : Below w.heap.size w w') : PfM w' g v1 v2 := h.keep (hb.block g h.lt)
theorem PfM.new (w : World) (v1 v2 : Value) : PfM (w.alloc (.cells #[v1, v2] 36)) w.heap.size v1 v2 := Go.heap_alloc_new w _
theorem sizeP : (Tryd.prog.info? 36).map (·.size) = some 2 := by kernel_rfl
theorem load_pf {w : World} {g : Nat} {v1 v2 : Value} (hA : PfM w g v1 v2) : (loadVar 36 ⟨g, 0, none⟩).run Tryd.prog w = .ok (.agg #[v1, v2]) w :=
  run_loadVar_row (P := Tryd.prog) w g 36 36 _ (0, 0) _ hA Tryd.underlying36 rfl sizeP
theorem ret_pf2 {fn : Func} {Rp : Ending → World → Prop} {a : Act} {w : World} (c s g : Nat) (v1 v2 b : Value) (hres : fn.results = #[.cell c 36, .tmp s]) (hd : a.defers = []) (hp : a.tmps.getD c undef = .pointer (some ⟨g, 0, none⟩)) (hb : a.tmps.getD s undef = b)
    (hA : PfM w g v1 v2) (h : Rp (.returned (.tuple #[.agg #[v1, v2], b])) w) : bodyPost Tryd.prog fn Rp .ret a w := by
  have hr := load_pf hA
  refine bodyPost_ret (v := .tuple #[.agg #[v1, v2], b]) ?_ hd h
  have hp' : a.tmps[c]?.getD undef = .pointer (some ⟨g, 0, none⟩) := by simpa using hp
  have hb' : a.tmps[s]?.getD undef = b := by simpa using hb
  simp [results, hres, asAddr, hr, hp', hb']
section
variable {w : World} {ops : Array Oper} {rest : List Oper} {o : Oper} {a : Act} {Q : Exit → Act → World → Prop}
theorem wp_storePf (hgd : o.guard = none) (p v : Operand) (ho : o.op = .store 36 p v) (g : Nat) (v1 v2 u1 u2 : Value) (hA : PfM w g v1 v2) (hp : a.eval p = .pointer (some ⟨g, 0, none⟩)) (hv : a.eval v = .agg #[u1, u2])
    (h1 : u1.oneCell' = true) (h2 : u2.oneCell' = true)
    (h : PfM (w.setRow g #[u1, u2]) g u1 u2 → wpList Tryd.prog ops Q rest (a.put o.dst (.tuple #[])) (w.setRow g #[u1, u2])) : wpList Tryd.prog ops Q (o :: rest) a w := by
  refine wpList_plain hgd fun K hK => ?_
  have hr : (Instr.storeAt 36 (.pointer (some ⟨g, 0, none⟩)) (.agg #[u1, u2])).run Tryd.prog w = .ok () (w.setRow g #[u1, u2]) := by
    simp only [Instr.storeAt, Instr.sureAddr, Sem.run_bind, Sem.run_pure, Result.andThen]
    refine run_storeVar_row w g 36 36 _ _ hA sizeP rfl ?_
    simp [h1, h2]
  unfold Oper.wp
  simp [execOp, ho, hp, hv, hr, Result.andThen]
  exact hK _ _ (h (setRow_heap w g _ _ _ _ hA))
end
theorem grown_setRowP (w : World) (g : Nat) (R : Array Value) : w.grownBy (w.setRow g R) (some g) :=
  ⟨rfl, rfl, rfl, by simp [World.setRow], fun k _ hk => setRow_other w g k R (fun e => hk (by simp [e]))⟩
theorem below_row {B g : Nat} {w0 w : World} {R : Array Value} (h : Below B w0 w) (hg : B ≤ g) : Below B w0 (w.setRow g R) :=
  h.trans ⟨rfl, rfl, rfl, by simp [World.setRow], fun k hk => setRow_other w g k R (by omega)⟩
theorem size_setRowP (w : World) (g : Nat) (R : Array Value) : (w.setRow g R).heap.size = w.heap.size := by simp [World.setRow]
theorem PfM.c0 {w : World} {g : Nat} {v1 v2 : Value} (h : PfM w g v1 v2) : w.cell? ⟨g, 0, none⟩ = some v1 := by rw [cell_of_row w g 0 _ _ _ h]; rfl
theorem PfM.c1 {w : World} {g : Nat} {v1 v2 : Value} (h : PfM w g v1 v2) : w.cell? ⟨g, 1, none⟩ = some v2 := by rw [cell_of_row w g 1 _ _ _ h]; rfl
theorem PfM.fr {w : World} {g : Nat} {v1 v2 : Value} (h : PfM w g v1 v2) (j : Nat) : w.frozen? ⟨g, j, none⟩ = false := by simp [World.frozen?, show w.heap[g]? = _ from h]
theorem PfM.set0 {w : World} {g : Nat} {v1 v2 : Value} (h : PfM w g v1 v2) (u : Value) : PfM (w.setCell ⟨g, 0, none⟩ u) g u v2 := heap_setCell_same w g 0 _ _ _ h
theorem PfM.set1 {w : World} {g : Nat} {v1 v2 : Value} (h : PfM w g v1 v2) (u : Value) : PfM (w.setCell ⟨g, 1, none⟩ u) g v1 u := heap_setCell_same w g 1 _ _ _ h
theorem ret_pf1 {fn : Func} {Rp : Ending → World → Prop} {a : Act} {w : World} (c g : Nat) (v1 v2 : Value) (hres : fn.results = #[.cell c 36]) (hd : a.defers = []) (hp : a.tmps.getD c undef = .pointer (some ⟨g, 0, none⟩))
    (hA : PfM w g v1 v2) (h : Rp (.returned (.agg #[v1, v2])) w) : bodyPost Tryd.prog fn Rp .ret a w := by
  have hr := load_pf hA
  refine bodyPost_ret (v := .agg #[v1, v2]) ?_ hd h
  have hp' : a.tmps[c]?.getD undef = .pointer (some ⟨g, 0, none⟩) := by simpa using hp
  simp [results, hres, asAddr, hr, hp']
theorem wp_loadPf {w : World} {ops : Array Oper} {rest : List Oper} {o : Oper} {a : Act} {Q : Exit → Act → World → Prop} (hgd : o.guard = none) (p : Operand) (ho : o.op = .load 36 p) (g : Nat) (v1 v2 : Value) (hp : a.eval p = .pointer (some ⟨g, 0, none⟩)) (hA : PfM w g v1 v2)
    (h : wpList Tryd.prog ops Q rest (a.put o.dst (.agg #[v1, v2])) w) : wpList Tryd.prog ops Q (o :: rest) a w := by
  refine wpList_plain hgd fun K hK => ?_
  have hr : (Instr.loadAt 36 (.pointer (some ⟨g, 0, none⟩))).run Tryd.prog w = .ok (.agg #[v1, v2]) w := by
    simp only [Instr.loadAt, Instr.sureAddr, Sem.run_bind, Sem.run_pure, Result.andThen]
    exact load_pf hA
  unfold Oper.wp
  simp [execOp, ho, hp, hr, Result.andThen]
  exact hK _ _ h

end Go.Proofs.YtojadcjoniejaaaDoor
/-
  A proof that is answered, and a word beside it.
-/
namespace Go.Proofs.YtojadcjoniejaaaDoor
open Go.RowKit Go.BigFrame Go.Sort
set_option linter.unusedVariables false
set_option linter.unusedSimpArgs false

/-- a proof answered, in new memory, and a word beside it -/
def PvP (B : List Le) (S : List ByteArray) (b : Bool) (w : World) (e : Ending) (w' : World) : Prop := ∃ ab cb aS cS gb gs, e = .returned (.tuple #[.agg #[.slice ab B.length cb, .slice aS S.length cS], .bool b]) ∧ RW 2 lcs w' (.slice ab B.length cb) gb B ∧ TS w' (.slice aS S.length cS) gs S ∧ w.heap.size ≤ gb ∧ w.heap.size ≤ gs ∧ ((0 < B.length → 0 < S.length → gb ≠ gs) ∧ S.length ≤ cS) ∧ Below w.heap.size w w'
theorem PvP.no {w w' : World} (hb : Below w.heap.size w w') : PvP [] [] false w (.returned (.tuple #[.agg #[.slice none 0 0, .slice none 0 0], .bool false])) w' :=
  ⟨none, 0, none, 0, w.heap.size, w.heap.size, rfl, RW.nil _ _, TS.nil _ _, Nat.le_refl _, Nat.le_refl _, ⟨fun h => absurd h (by simp), Nat.le_refl _⟩, hb⟩

end Go.Proofs.YtojadcjoniejaaaDoor
/-
  A row of texts that was handed in, great or small, and what a law weighs of it.
-/
namespace Go.Proofs.YtojadcjoniejaaaDoor
open Go.RowKit Go.BigFrame Go.Sort
set_option linter.unusedVariables false
set_option linter.unusedSimpArgs false

def IsRowT (w : World) (v : Value) (g o : Nat) (l : List ByteArray) : Prop := ∃ a n cap, v = .slice a n cap ∧ n ≤ 9223372036854775807 ∧ (n ≤ 1048576 → l.length = n ∧ SS w v g o l ∧ (0 < l.length → g < w.heap.size) ∧ ∀ t ∈ l, t.size ≤ 9223372036854775807)
theorem IsRowT.later {w w' : World} {v : Value} {g o : Nat} {l : List ByteArray} (h : IsRowT w v g o l) (hb : Below w.heap.size w w') : IsRowT w' v g o l := by
  obtain ⟨a, n, cap, hv, hn, hr⟩ := h
  exact ⟨a, n, cap, hv, hn, fun hl => ⟨(hr hl).1, (hr hl).2.1.below hb (hr hl).2.2.1, fun h => Nat.lt_of_lt_of_le ((hr hl).2.2.1 h) hb.size, (hr hl).2.2.2⟩⟩
theorem rowT_of {w : World} {a : Option Addr} {len cap : Nat} {z : List ByteArray} (h : IsRowS w a len cap z) : ∃ g o l, IsRowT w (.slice a len cap) g o l := by
  have hm := h.len
  unfold maxLen at hm
  by_cases hl : len ≤ 1048576
  · obtain ⟨g, o, l, h1, h2, h3⟩ := ss_of_row h hl
    exact ⟨g, o, l, a, len, cap, rfl, by omega, fun _ => ⟨h1, h2, h2.lt, fun t ht => by have := h3 t ht; unfold maxLen at this; omega⟩⟩
  · exact ⟨0, 0, [], a, len, cap, rfl, by omega, fun h => absurd h hl⟩

def SzT (l : List ByteArray) (x0 : Int) (w : World) (x i : Value) (wr : World) : Prop := ∃ (m : Nat) (y : Int), m ≤ l.length ∧ i = .int .i64 m ∧ x = .int .i64 y ∧ 0 ≤ y ∧ y ≤ x0 ∧ Hid (∀ j (h : j < l.length), j < m → l[j].size ≤ 1048576) ∧ wr = w

set_option maxRecDepth 100000 in
set_option maxHeartbeats 400000 in
theorem szStringS_row (v : Value) (g o : Nat) (l : List ByteArray) (x : Int) (w : World) (hv : IsRowT w v g o l) (h0 : 0 ≤ x) (h1 : x ≤ 1048576) :
    Calls Tryd.prog 87 #[v, .int .i64 x] w fun e w' => ∃ A : Int, e = .returned (.int .i64 A) ∧ w' = w ∧ A ≤ x ∧ (0 ≤ A → SS w v g o l ∧ (0 < l.length → g < w.heap.size) ∧ (∀ t ∈ l, t.size ≤ 1048576) ∧ l.length ≤ 1048576) := by
  obtain ⟨a, n, cap, rfl, hn, hr⟩ := hv
  by_cases hbig : x < (n : Int)
  · have q : x - (n : Int) < 0 := by omega
    go_enter Tryd.func87, Tryd.ntmps87
    go_wp2
    go_ret
    exact ⟨_, rfl, rfl, by omega, fun h => by omega⟩
  obtain ⟨hln, hrs, hgl, hsz⟩ := hr (by omega)
  have HRS : Hid (SS w (.slice a n cap) g o l ∧ (0 < l.length → g < w.heap.size)) := ⟨hrs, hgl⟩
  have HSZ : Hid (∀ t ∈ l, t.size ≤ 9223372036854775807) := hsz
  have HLN : Hid (l.length = n) := hln
  obtain ⟨a', c', ev, _, hA, hc⟩ := hrs
  have HC : Hid (∀ j (h : j < l.length), w.cell? ⟨g, o + j, none⟩ = some (.string l[j])) := hc
  have HA : Hid (0 < n → a = some ⟨g, o, none⟩) := fun h => by
    have := hA (by omega)
    simp at ev
    rw [ev.1, this]
  clear hr hA hsz ev hc hgl
  have q : ¬ x - (n : Int) < 0 := by omega
  go_enter Tryd.func87, Tryd.ntmps87
  go_wp2
  go_loopw [1, 5] (fun y i wr => SzT l (x - (n : Int)) w y i wr) (fun _ i _ => n - (intOf i).toNat)
  case atStart => exact ⟨0, x - (n : Int), by omega, rfl, by go_num, by omega, by omega, fun j _ h => by omega, rfl⟩
  case round =>
    obtain ⟨m, y, hm, rfl, rfl, hy0, hy1, HJ, rfl⟩ := hrel
    by_cases hlt : m < n
    · have ea := HA.out (by omega)
      subst ea
      have c0 := HC.out m (by omega)
      obtain ⟨X, hX⟩ : ∃ X, l[m]'(by omega) = X := ⟨_, rfl⟩
      rw [hX] at c0
      have hxs := HSZ.out X (by rw [← hX]; exact List.getElem_mem _)
      have HX : Hid (l[m]'(by omega) = X) := hX
      have i1 : (m : Int) < (n : Int) := by omega
      have i2 : (0 : Int) ≤ (m : Int) := by omega
      clear hX HSZ HA HRS HC
      by_cases hneg : y - (X.size : Int) < 0
      · clear HJ HX
        go_wp2
        try rw [Exit.noGoto_ret]
        go_ret
        exact ⟨_, rfl, rfl, by omega, fun h => by omega⟩
      · have HX2 : Hid (X.size ≤ 1048576) := by show X.size ≤ 1048576; omega
        go_wp2
        go_roundw
        case rel =>
          refine ⟨m + 1, y - (X.size : Int), by omega, by go_num, by go_num, by omega, by omega, ?_, rfl⟩
          intro j hj hjl
          rcases Nat.lt_or_ge j m with h3 | h3
          · exact HJ.out j hj h3
          · have : j = m := by omega
            subst this
            rw [HX.out]
            exact HX2.out
        case measure => simp [intOf]; omega
    · have hme : m = n := by omega
      have HF : Hid (SS wr (.slice a n cap) g o l ∧ (0 < l.length → g < wr.heap.size) ∧ (∀ t ∈ l, t.size ≤ 1048576) ∧ l.length ≤ 1048576) := ⟨HRS.out.1, HRS.out.2, fun f hf => by
        obtain ⟨j, hj, rfl⟩ := List.getElem_of_mem hf
        exact HJ.out j hj (by omega), by omega⟩
      subst hme
      clear HJ HA HRS HSZ HC
      go_wp2
      go_ret
      exact ⟨_, rfl, rfl, by omega, fun _ => HF.out⟩

end Go.Proofs.YtojadcjoniejaaaDoor
/-
  Proofs: how wide their sides are, and when these are right: the program's answers.
-/
namespace Go.Proofs.YtojadcjoniejaaaDoor
open Go.RowKit Go.BigFrame Go.Sort
set_option linter.unusedVariables false
set_option linter.unusedSimpArgs false

def allW (S : List ByteArray) (x : Int) : Bool := S.all (fun s => decide ((s.size : Int) = x))
theorem allW_bad {S : List ByteArray} {x : Int} {m : Nat} (hm : m < S.length) (h : ¬ ((S[m].size : Int) = x)) : allW S x = false := by
  unfold allW
  rw [List.all_eq_false]
  exact ⟨S[m], List.getElem_mem _, by simpa using h⟩
theorem allW_good {S : List ByteArray} {x : Int} (h : ∀ j (hj : j < S.length), (S[j].size : Int) = x) : allW S x = true := by
  unfold allW
  rw [List.all_eq_true]
  intro s hs
  obtain ⟨j, hj, rfl⟩ := List.getElem_of_mem hs
  simpa using h j hj
theorem wideB_all (S : List ByteArray) (x : Int) : wideB S x = (allW S x && decide (1 ≤ x ∧ x ≤ 32)) := rfl

set_option maxRecDepth 100000 in
set_option maxHeartbeats 1000000 in
theorem allWide_any (v : Value) (g o : Nat) (S : List ByteArray) (x : Int) (w : World) (hv : SS w v g o S) :
    Calls Tryd.prog 113 #[v, .int .i64 x] w fun e w' => e = .returned (.bool (allW S x)) ∧ w' = w := by
  obtain ⟨R, hR⟩ : ∃ R, allW S x = R := ⟨_, rfl⟩
  have HR : Hid (allW S x = R) := hR
  rw [hR]
  obtain ⟨a, cap, rfl, hl, hA, hc⟩ := hv
  obtain ⟨n, hn⟩ : ∃ n, S.length = n := ⟨_, rfl⟩
  have HA : Hid (0 < n → a = some ⟨g, o, none⟩) := by rw [← hn]; exact hA
  have HCC : Hid (∀ j (h : j < S.length), w.cell? ⟨g, o + j, none⟩ = some (.string S[j])) := hc
  have HN : Hid (S.length = n) := hn
  have HST : Hid (PwR w S x (.int .i64 0) w) := ⟨0, by omega, rfl, rfl, fun j _ h => by omega⟩
  rw [hn] at hl ⊢
  clear hA hc hn hR
  go_enter Tryd.func113, Tryd.ntmps113
  go_wp2
  go_loopw [9] (fun i wr => PwR w S x i wr) (fun i _ => n - (intOf i).toNat)
  case atStart => exact HST.out
  case round =>
    obtain ⟨m, hm, rfl, rfl, HI⟩ := hrel
    clear HST
    rw [HN.out] at hm
    by_cases hlt : m < n
    · have ea := HA.out (by omega)
      subst ea
      have c0 := HCC.out m (by rw [HN.out]; exact hlt)
      have HB : Hid (¬ (((S[m]'(by rw [HN.out]; exact hlt)).size : Int) = x) → allW S x = false) := fun h => allW_bad _ h
      have HJ : Hid ((((S[m]'(by rw [HN.out]; exact hlt)).size : Int) = x) → ∀ j (h : j < S.length), j < m + 1 → (S[j].size : Int) = x) := fun h j hj hjm => by
        rcases Nat.lt_or_ge j m with h1 | h1
        · exact HI.out j hj h1
        · have : j = m := by omega
          subst this
          exact h
      generalize S[m]'(by rw [HN.out]; exact hlt) = X at *
      have i1 : (m : Int) < (n : Int) := by omega
      have i2 : (0 : Int) ≤ (m : Int) := by omega
      by_cases hk : (X.size : Int) = x
      · have HJ2 : Hid (∀ j (h : j < S.length), j < m + 1 → (S[j].size : Int) = x) := HJ.out hk
        have q : ((X.size : Int) != x) = false := by simpa using hk
        clear HJ HB hk HI HCC
        go_wp2
        go_roundw
        case rel => exact ⟨m + 1, by rw [HN.out]; omega, by go_num, rfl, HJ2⟩
        case measure => simp [intOf]; omega
      · have hRf := HB.out hk
        rw [HR.out] at hRf
        subst hRf
        have q : ((X.size : Int) != x) = true := by simpa using hk
        clear HJ HB hk HI HCC HR
        go_wp2
        try rw [Exit.noGoto_ret]
        go_ret
        exact ⟨rfl, rfl⟩
    · have hme : m = n := by omega
      have hG := allW_good (S := S) (x := x) (fun j hj => HI.out j hj (by rw [HN.out] at hj; omega))
      rw [HR.out] at hG
      subst hG
      have i1 : ¬ (m : Int) < (n : Int) := by omega
      clear HI HCC HR
      go_wp2
      go_ret
      exact ⟨rfl, rfl⟩

/-- are they right sides? -/
def sidB (S : List ByteArray) (x : Int) : Bool := decide (S.length ≤ 8) && wideB S x
set_option maxRecDepth 100000 in
set_option maxHeartbeats 1000000 in
theorem sidesOk_any (v : Value) (g o : Nat) (S : List ByteArray) (x : Int) (w : World) (hv : SS w v g o S) :
    Calls Tryd.prog 77 #[v, .int .i64 x] w fun e w' => e = .returned (.bool (sidB S x)) ∧ w' = w := by
  obtain ⟨R, hR⟩ : ∃ R, sidB S x = R := ⟨_, rfl⟩
  have haw := allWide_any v g o S x w hv
  have e0 : sidB S x = (decide (S.length ≤ 8) && (allW S x && decide (1 ≤ x ∧ x ≤ 32))) := rfl
  rw [hR] at e0 ⊢
  obtain ⟨a, cap, rfl, hl, hz1, hz2⟩ := hv
  clear hR hz1 hz2
  cases h1 : decide (1 ≤ x ∧ x ≤ 32) with
  | false =>
    have hRf : R = false := by rw [e0, h1]; simp
    subst hRf
    clear haw e0
    go_enter Tryd.func77, Tryd.ntmps77
    go_wp2_with fail
    refine (widthOk_any _ _).mono ?_
    rintro e w1 ⟨rfl, rfl⟩
    rw [h1]
    go_wp2
    go_ret
    exact ⟨rfl, rfl⟩
  | true =>
    by_cases h2 : S.length ≤ 8
    · have hRf : R = allW S x := by rw [e0, h1, decide_eq_true h2]; simp
      have i2 : (S.length : Int) ≤ 8 := by omega
      rw [← hRf] at haw
      clear hRf e0
      generalize S.length = n at *
      go_enter Tryd.func77, Tryd.ntmps77
      go_wp2_with fail
      refine (widthOk_any _ _).mono ?_
      rintro e w1 ⟨rfl, rfl⟩
      rw [h1]
      go_wp2_with fail
      refine haw.mono ?_
      rintro e w2 ⟨rfl, rfl⟩
      go_wp2
      go_ret
      exact ⟨rfl, rfl⟩
    · have hRf : R = false := by rw [e0, decide_eq_false h2]; simp
      subst hRf
      have i2 : ¬ (S.length : Int) ≤ 8 := by omega
      clear haw e0
      generalize S.length = n at *
      go_enter Tryd.func77, Tryd.ntmps77
      go_wp2_with fail
      refine (widthOk_any _ _).mono ?_
      rintro e w1 ⟨rfl, rfl⟩
      rw [h1]
      go_wp2
      go_ret
      exact ⟨rfl, rfl⟩

end Go.Proofs.YtojadcjoniejaaaDoor
/-
  What the laws' own helpers do with proofs: taken over, compared, weighed, marked.
-/
namespace Go.Proofs.YtojadcjoniejaaaDoor
open Go.RowKit Go.BigFrame Go.Sort
set_option linter.unusedVariables false
set_option linter.unusedSimpArgs false

theorem run_rangeQ {w : World} {v1 v2 : Value} (t : TypeId) : (w.alloc (.cells #[v1, v2] t)).cell? ⟨w.heap.size, 0, none⟩ = some v1 ∧ (w.alloc (.cells #[v1, v2] t)).cell? ⟨w.heap.size, 1, none⟩ = some v2 := run_rangeP (p := 0) t

/-- a proof in a law's hands: what it is made of lies in blocks from B on, apart -/
def PfI (w : World) (B : Nat) (v : Value) (L : List Le) (S : List ByteArray) (g1 g2 : Nat) : Prop := ∃ a1 c1 a2 c2, v = .agg #[.slice a1 L.length c1, .slice a2 S.length c2] ∧ RW 2 lcs w (.slice a1 L.length c1) g1 L ∧ TS w (.slice a2 S.length c2) g2 S ∧ B ≤ g1 ∧ B ≤ g2 ∧ (0 < L.length → 0 < S.length → g1 ≠ g2)
theorem PfI.later {w w' : World} {B : Nat} {v : Value} {L : List Le} {S : List ByteArray} {g1 g2 : Nat} (h : PfI w B v L S g1 g2) (hb : Below w.heap.size w w') : PfI w' B v L S g1 g2 := by
  obtain ⟨a1, c1, a2, c2, hv, h1, h2, h3⟩ := h
  exact ⟨a1, c1, a2, c2, hv, h1.later hb, h2.later hb, h3⟩

set_option maxRecDepth 100000 in
set_option maxHeartbeats 1000000 in
theorem eqProof_yes (v1 v2 u1 u2 : Value) (g1 o1 g2 o2 p1 q1 p2 q2 : Nat) (L : List Le) (S : List ByteArray) (w : World) (h1 : RS 2 lcs w v1 g1 o1 L) (h2 : SS w v2 g2 o2 S) (k1 : RS 2 lcs w u1 p1 q1 L) (k2 : SS w u2 p2 q2 S) :
    Calls Tryd.prog 34 #[.agg #[v1, v2], .agg #[u1, u2]] w fun e w' => e = .returned (.bool true) ∧ Below w.heap.size w w' := by
  have H1 : Hid (∀ W, Below w.heap.size w W → Calls Tryd.prog 35 #[v1, u1] W fun e w' => e = .returned (.bool true) ∧ Below W.heap.size W w') := fun W hW => eqLeafS_yes v1 u1 g1 o1 p1 q1 L W (h1.later hW) (k1.later hW)
  have H2 : Hid (∀ W, Below w.heap.size w W → Calls Tryd.prog 43 #[v2, u2] W fun e w' => e = .returned (.bool true) ∧ ∃ q, w' = W.drewN q) := fun W hW => eqStringS_yes v2 u2 g2 o2 p2 q2 S W (h2.below hW h2.lt) (k2.below hW k2.lt)
  have hba : Below w.heap.size w ((w.alloc (.cells #[v1, v2] 36)).alloc (.cells #[u1, u2] 36)) := ((Below.refl _ _).alloc (Nat.le_refl _) _).alloc (by simp) _
  have HP : Hid (∀ W, Below ((w.alloc (.cells #[v1, v2] 36)).alloc (.cells #[u1, u2] 36)).heap.size ((w.alloc (.cells #[v1, v2] 36)).alloc (.cells #[u1, u2] 36)) W → W.cell? ⟨w.heap.size, 0, none⟩ = some v1 ∧ W.cell? ⟨w.heap.size, 1, none⟩ = some v2 ∧ W.cell? ⟨w.heap.size + 1, 0, none⟩ = some u1 ∧ W.cell? ⟨w.heap.size + 1, 1, none⟩ = some u2 ∧ Below w.heap.size w W) := fun W hW => by
    obtain ⟨a0, a1⟩ := run_rangeQ (w := w) (v1 := v1) (v2 := v2) 36
    obtain ⟨b0, b1⟩ := run_rangeQ (w := w.alloc (.cells #[v1, v2] 36)) (v1 := u1) (v2 := u2) 36
    have hq : Below (w.alloc (.cells #[v1, v2] 36)).heap.size (w.alloc (.cells #[v1, v2] 36)) ((w.alloc (.cells #[v1, v2] 36)).alloc (.cells #[u1, u2] 36)) := (Below.refl _ _).alloc (Nat.le_refl _) _
    have e : (w.alloc (.cells #[v1, v2] 36)).heap.size = w.heap.size + 1 := by simp
    rw [e] at b0 b1
    exact ⟨cell_up (cell_up a0 hq) hW, cell_up (cell_up a1 hq) hW, cell_up b0 hW, cell_up b1 hW, hba.trans (hW.mono hba.size)⟩
  obtain ⟨p0, p1', p2', p3, _⟩ := HP.out _ (Below.refl _ _)
  clear h1 h2 k1 k2
  go_enter Tryd.func34, Tryd.ntmps34
  go_wp2_with fail
  refine (H1.out _ hba).mono ?_
  rintro e w1 ⟨rfl, hb1⟩
  obtain ⟨k0, k1, k2, k3, b1⟩ := HP.out _ hb1
  clear p0 p1' p2' p3 HP H1 hba hb1
  go_wp2_with fail
  refine (H2.out _ b1).mono ?_
  rintro e w2 ⟨rfl, q, rfl⟩
  clear k0 k1 k2 k3 H2
  go_wp2
  go_ret
  exact ⟨rfl, below_drn b1 q⟩

set_option maxRecDepth 100000 in
set_option maxHeartbeats 1000000 in
theorem szProof_row (v1 v2 : Value) (g1 o1 g2 o2 : Nat) (L : List Le) (S : List ByteArray) (x : Int) (w : World) (h1 : IsRowL w v1 g1 o1 L) (h2 : IsRowT w v2 g2 o2 S) (h0 : 0 ≤ x) (hx : x ≤ 1048576) :
    Calls Tryd.prog 39 #[.agg #[v1, v2], .int .i64 x] w fun e w' => ∃ A : Int, e = .returned (.int .i64 A) ∧ Below w.heap.size w w' ∧ A ≤ x ∧ (0 ≤ A → RS 2 lcs w v1 g1 o1 L ∧ SmallL L ∧ L.length ≤ 1048576 ∧ SS w v2 g2 o2 S ∧ (∀ t ∈ S, t.size ≤ 1048576) ∧ S.length ≤ 1048576) := by
  obtain ⟨p0, p1⟩ := run_rangeQ (w := w) (v1 := v1) (v2 := v2) 59
  have hba : Below w.heap.size w (w.alloc (.cells #[v1, v2] 59)) := (Below.refl _ _).alloc (Nat.le_refl _) _
  have hz1 := szLeafS_row v1 g1 o1 L x _ (h1.later hba) h0 hx
  have HZ2 : Hid (∀ W y, Below w.heap.size w W → 0 ≤ y → y ≤ x → Calls Tryd.prog 87 #[v2, .int .i64 y] W fun e w' => ∃ A : Int, e = .returned (.int .i64 A) ∧ w' = W ∧ A ≤ y ∧ (0 ≤ A → SS W v2 g2 o2 S ∧ (0 < S.length → g2 < W.heap.size) ∧ (∀ t ∈ S, t.size ≤ 1048576) ∧ S.length ≤ 1048576)) := fun W y hW hy hyx => szStringS_row v2 g2 o2 S y W (h2.later hW) hy (by omega)
  have HK : Hid (∀ W, Below (w.alloc (.cells #[v1, v2] 59)).heap.size (w.alloc (.cells #[v1, v2] 59)) W → W.cell? ⟨w.heap.size, 0, none⟩ = some v1 ∧ W.cell? ⟨w.heap.size, 1, none⟩ = some v2 ∧ Below w.heap.size w W) := fun W hW => ⟨cell_up p0 hW, cell_up p1 hW, hba.trans (hW.mono hba.size)⟩
  have HI1 : Hid (IsRowL w v1 g1 o1 L) := h1
  have HI2 : Hid (IsRowT w v2 g2 o2 S) := h2
  clear h1 h2
  go_enter Tryd.func39, Tryd.ntmps39
  go_wp2_with fail
  refine hz1.mono ?_
  rintro e w1 ⟨A, rfl, hb1, hAx, hA⟩
  obtain ⟨k0, k1, b1⟩ := HK.out _ hb1
  have HA1 : Hid (0 ≤ A → RS 2 lcs w v1 g1 o1 L ∧ SmallL L ∧ L.length ≤ 1048576) := fun h => by
    obtain ⟨_, h5, h6⟩ := hA h
    obtain ⟨a, n, cap, hv, hn, hr⟩ := HI1.out
    obtain ⟨_, c', hv', _⟩ := (hA h).1
    have hn2 : n = L.length := by rw [hv] at hv'; simp at hv'; exact hv'.2.1
    exact ⟨(hr (by omega)).2.1, h5, h6⟩
  clear hz1 p0 p1 HK hA hba
  by_cases hneg : A < 0
  · clear HZ2 HA1
    go_wp2
    go_ret
    exact ⟨_, rfl, b1, by omega, fun h => by omega⟩
  · have hz2 := HZ2.out w1 A b1 (by omega) hAx
    go_wp2_with fail
    refine hz2.mono ?_
    rintro e w2 ⟨A2, rfl, hw2, hA2x, hA2⟩
    subst hw2
    have HA2 : Hid (0 ≤ A2 → SS w v2 g2 o2 S ∧ (∀ t ∈ S, t.size ≤ 1048576) ∧ S.length ≤ 1048576) := fun h => by
      obtain ⟨_, _, h5, h6⟩ := hA2 h
      obtain ⟨a, n, cap, hv, hn, hr⟩ := HI2.out
      obtain ⟨_, c', hv', _⟩ := (hA2 h).1
      have hn2 : n = S.length := by rw [hv] at hv'; simp at hv'; exact hv'.2.1
      exact ⟨(hr (by omega)).2.1, h5, h6⟩
    have hA0 := HA1.out (by omega)
    clear hz2 HZ2 hA2 HA1
    by_cases hneg2 : A2 < 0
    · go_wp2
      go_ret
      exact ⟨_, rfl, b1, by omega, fun h => by omega⟩
    · go_wp2
      go_ret
      exact ⟨_, rfl, b1, by omega, fun h => ⟨hA0.1, hA0.2.1, hA0.2.2, HA2.out h⟩⟩

set_option maxRecDepth 100000 in
set_option maxHeartbeats 2000000 in
theorem toProof_any (v1 v2 : Value) (g1 o1 g2 o2 : Nat) (L : List Le) (S : List ByteArray) (w : World) (h1 : RS 2 lcs w v1 g1 o1 L) (h2 : SS w v2 g2 o2 S) :
    Calls Tryd.prog 41 #[.agg #[v1, v2]] w fun e w' => ∃ k1 k2, e = .returned (.agg #[.slice (some ⟨k1, 0, none⟩) L.length L.length, .slice (some ⟨k2, 0, none⟩) S.length S.length]) ∧ RW 2 lcs w' (.slice (some ⟨k1, 0, none⟩) L.length L.length) k1 L ∧ TS w' (.slice (some ⟨k2, 0, none⟩) S.length S.length) k2 S ∧ w.heap.size ≤ k1 ∧ w.heap.size ≤ k2 ∧ k1 ≠ k2 ∧ k1 < w'.heap.size ∧ k2 < w'.heap.size ∧ Below w.heap.size w w' := by
  have hlS : S.length ≤ 1100000 := by obtain ⟨_, _, _, h, _⟩ := h2; exact h
  have H1 : Hid (∀ W, Below w.heap.size w W → Calls Tryd.prog 32 #[v1] W fun e w' => ∃ g, e = .returned (.slice (some ⟨g, 0, none⟩) L.length L.length) ∧ W.heap.size ≤ g ∧ RW 2 lcs w' (.slice (some ⟨g, 0, none⟩) L.length L.length) g L ∧ g < w'.heap.size ∧ Below W.heap.size W w') := fun W hW => toLeafS_any v1 g1 o1 L W (h1.later hW)
  have H2 : Hid (∀ W, Below w.heap.size w W → Calls Tryd.prog 89 #[v2] W fun e w' => ∃ g, e = .returned (.slice (some ⟨g, 0, none⟩) S.length S.length) ∧ W.heap.size ≤ g ∧ TB w' g S ∧ Below W.heap.size W w') := fun W hW => by
    have h := h2.below hW h2.lt
    exact toStringS_any v2 g2 o2 S W h h.lt
  have HA0 : Hid (∀ W, W = ((w.alloc (.cells #[v1, v2] 59)).alloc (.cells #[.slice none 0 0, .slice none 0 0] 36)).alloc (.cells #[.slice none 0 0, .slice none 0 0] 36) → (W.cell? ⟨w.heap.size, 0, none⟩ = some v1 ∧ W.cell? ⟨w.heap.size, 1, none⟩ = some v2) ∧ PfM W (w.heap.size + 1) (.slice none 0 0) (.slice none 0 0) ∧ PfM W (w.heap.size + 2) (.slice none 0 0) (.slice none 0 0) ∧ Below w.heap.size w W ∧ W.heap.size = w.heap.size + 3) := fun W hW => by
    subst hW
    obtain ⟨a0, a1⟩ := run_rangeQ (w := w) (v1 := v1) (v2 := v2) 59
    have z1 : (w.alloc (.cells #[v1, v2] 59)).heap.size = w.heap.size + 1 := by simp
    have b1 : Below w.heap.size w (w.alloc (.cells #[v1, v2] 59)) := (Below.refl _ _).alloc (Nat.le_refl _) _
    generalize w.alloc (.cells #[v1, v2] 59) = W1 at *
    have n1 := PfM.new W1 (.slice none 0 0) (.slice none 0 0)
    have bb1 : Below W1.heap.size W1 (W1.alloc (.cells #[.slice none 0 0, .slice none 0 0] 36)) := (Below.refl _ _).alloc (Nat.le_refl _) _
    have z2 : (W1.alloc (.cells #[.slice none 0 0, .slice none 0 0] 36)).heap.size = w.heap.size + 2 := by simp [z1]
    have c0 := cell_up a0 bb1
    have c1 := cell_up a1 bb1
    generalize W1.alloc (.cells #[.slice none 0 0, .slice none 0 0] 36) = W2 at *
    have n2 := PfM.new W2 (.slice none 0 0) (.slice none 0 0)
    have bb2 : Below W2.heap.size W2 (W2.alloc (.cells #[.slice none 0 0, .slice none 0 0] 36)) := (Below.refl _ _).alloc (Nat.le_refl _) _
    rw [z1] at n1
    rw [z2] at n2
    exact ⟨⟨cell_up c0 bb2, cell_up c1 bb2⟩, n1.later bb2, n2, (b1.trans (bb1.mono b1.size)).trans (bb2.mono (by rw [z2]; omega)), by simp [z2]⟩
  obtain ⟨⟨x0, x1⟩, P1, P2, b0, zs⟩ := HA0.out _ rfl
  have HQ : Hid (∀ W, Below (((w.alloc (.cells #[v1, v2] 59)).alloc (.cells #[.slice none 0 0, .slice none 0 0] 36)).alloc (.cells #[.slice none 0 0, .slice none 0 0] 36)).heap.size (((w.alloc (.cells #[v1, v2] 59)).alloc (.cells #[.slice none 0 0, .slice none 0 0] 36)).alloc (.cells #[.slice none 0 0, .slice none 0 0] 36)) W → W.cell? ⟨w.heap.size, 1, none⟩ = some v2 ∧ PfM W (w.heap.size + 1) (.slice none 0 0) (.slice none 0 0) ∧ PfM W (w.heap.size + 2) (.slice none 0 0) (.slice none 0 0) ∧ Below w.heap.size w W) := fun W hW => ⟨cell_up x1 hW, P1.later hW, P2.later hW, b0.trans (hW.mono b0.size)⟩
  clear h1 h2 HA0 P1 P2
  go_enter Tryd.func41, Tryd.ntmps41
  go_wp2_with fail
  refine (H1.out _ b0).mono ?_
  rintro e w1 ⟨k1, rfl, hk1, hr1, hl1, hb1⟩
  rw [zs] at hk1
  obtain ⟨y1, P1, P2, b1⟩ := HQ.out _ hb1
  have c20 := P2.c0
  have f20 := P2.fr 0
  have hgr1 := grown_setC w1 (w.heap.size + 2) 0 (.slice (some ⟨k1, 0, none⟩) L.length L.length)
  have HA1 : Hid (PfM (w1.setCell ⟨w.heap.size + 2, 0, none⟩ (.slice (some ⟨k1, 0, none⟩) L.length L.length)) (w.heap.size + 1) (.slice none 0 0) (.slice none 0 0) ∧ PfM (w1.setCell ⟨w.heap.size + 2, 0, none⟩ (.slice (some ⟨k1, 0, none⟩) L.length L.length)) (w.heap.size + 2) (.slice (some ⟨k1, 0, none⟩) L.length L.length) (.slice none 0 0) ∧ RW 2 lcs (w1.setCell ⟨w.heap.size + 2, 0, none⟩ (.slice (some ⟨k1, 0, none⟩) L.length L.length)) (.slice (some ⟨k1, 0, none⟩) L.length L.length) k1 L ∧ Below w.heap.size w (w1.setCell ⟨w.heap.size + 2, 0, none⟩ (.slice (some ⟨k1, 0, none⟩) L.length L.length)) ∧ (w1.setCell ⟨w.heap.size + 2, 0, none⟩ (.slice (some ⟨k1, 0, none⟩) L.length L.length)).heap.size = w1.heap.size) :=
    ⟨P1.keep (hgr1.block _ P1.lt (by simp)), P2.set0 _, hr1.grown hgr1 (fun _ => by simp; omega), b1.setCell (p := ⟨w.heap.size + 2, 0, none⟩) (by simp) _, by simp⟩
  have d1 : w1.cell? ⟨w.heap.size, 1, none⟩ = some v2 := y1
  have hne0 : w.heap.size ≠ w.heap.size + 2 := by omega
  clear HQ x0 x1 H1 hr1 hb1 P1 P2 b1 hgr1 b0
  go_wp2_with fail
  refine (H2.out _ HA1.out.2.2.2.1).mono ?_
  rintro e w2 ⟨k2, rfl, hk2, ht2, hb2⟩
  rw [HA1.out.2.2.2.2] at hk2
  have P2 := HA1.out.2.1.later hb2
  have P1 := HA1.out.1.later hb2
  have c21 := P2.c1
  have f21 := P2.fr 1
  have hlt2 := ht2.lt
  have hgr2 := grown_setC w2 (w.heap.size + 2) 1 (.slice (some ⟨k2, 0, none⟩) S.length S.length)
  have hb02 := HA1.out.2.2.2.1.trans (hb2.mono HA1.out.2.2.2.1.size)
  have HA2 : Hid (PfM (w2.setCell ⟨w.heap.size + 2, 1, none⟩ (.slice (some ⟨k2, 0, none⟩) S.length S.length)) (w.heap.size + 1) (.slice none 0 0) (.slice none 0 0) ∧ PfM (w2.setCell ⟨w.heap.size + 2, 1, none⟩ (.slice (some ⟨k2, 0, none⟩) S.length S.length)) (w.heap.size + 2) (.slice (some ⟨k1, 0, none⟩) L.length L.length) (.slice (some ⟨k2, 0, none⟩) S.length S.length) ∧ RW 2 lcs (w2.setCell ⟨w.heap.size + 2, 1, none⟩ (.slice (some ⟨k2, 0, none⟩) S.length S.length)) (.slice (some ⟨k1, 0, none⟩) L.length L.length) k1 L ∧ TS (w2.setCell ⟨w.heap.size + 2, 1, none⟩ (.slice (some ⟨k2, 0, none⟩) S.length S.length)) (.slice (some ⟨k2, 0, none⟩) S.length S.length) k2 S ∧ Below w.heap.size w (w2.setCell ⟨w.heap.size + 2, 1, none⟩ (.slice (some ⟨k2, 0, none⟩) S.length S.length)) ∧ k1 < (w2.setCell ⟨w.heap.size + 2, 1, none⟩ (.slice (some ⟨k2, 0, none⟩) S.length S.length)).heap.size ∧ k2 < (w2.setCell ⟨w.heap.size + 2, 1, none⟩ (.slice (some ⟨k2, 0, none⟩) S.length S.length)).heap.size) :=
    ⟨P1.keep (hgr2.block _ P1.lt (by simp)), P2.set1 _, (HA1.out.2.2.1.later hb2).grown hgr2 (fun _ => by simp; omega), (ht2.ts S.length S.length rfl hlS).keptG hgr2 (fun _ => by simp; omega), hb02.setCell (p := ⟨w.heap.size + 2, 1, none⟩) (by simp) _, by have := hb2.size; rw [HA1.out.2.2.2.2] at this; simp; omega, by simp; omega⟩
  clear H2 ht2 hb2 P1 P2 hgr2 hb02 HA1 d1 y1 c20 f20
  go_wp2_with (first | (refine wp_loadPf rfl _ rfl (w.heap.size + 2) _ _ rfl HA2.out.2.1 ?_) | (refine wp_storePf rfl _ _ rfl (w.heap.size + 1) _ _ _ _ HA2.out.1 rfl rfl rfl rfl ?_; intro hfin))
  refine ret_pf1 2 (w.heap.size + 1) _ _ rfl rfl rfl hfin ?_
  obtain ⟨_, _, hr, ht, hb, l1, l2⟩ := HA2.out
  have hgr := grown_setRowP (w2.setCell ⟨w.heap.size + 2, 1, none⟩ (.slice (some ⟨k2, 0, none⟩) S.length S.length)) (w.heap.size + 1) #[.slice (some ⟨k1, 0, none⟩) L.length L.length, .slice (some ⟨k2, 0, none⟩) S.length S.length]
  exact ⟨k1, k2, rfl, hr.grown hgr (fun _ => by simp; omega), ht.keptG hgr (fun _ => by simp; omega), by omega, by omega, by omega, by rw [size_setRowP]; exact l1, by rw [size_setRowP]; exact l2, below_row hb (by omega)⟩

theorem rowF_apart {g1 g2 n : Nat} (h : 0 < n → g2 ≠ g1) : some g1 ≠ rowF g2 n := rowF_ne (fun hp => (h hp).symm)

set_option maxRecDepth 100000 in
set_option maxHeartbeats 1000000 in
theorem markProof_any (v1 v2 : Value) (g1 g2 : Nat) (L : List Le) (S : List ByteArray) (w : World) (h1 : RW 2 lcs w v1 g1 L) (h2 : TS w v2 g2 S) (hd : 0 < L.length → 0 < S.length → g1 ≠ g2) :
    Calls Tryd.prog 37 #[.agg #[v1, v2], .int .i64 1] w fun e w' => e = .returned (.int .i64 (1 + 2 * L.length + S.length : Nat)) ∧ RW 2 lcs w' v1 g1 (lmarks 1 L.length) ∧ TS w' v2 g2 (marks (1 + 2 * L.length) S.length) ∧ ∃ wm, w.grownBy wm (rowF g1 L.length) ∧ wm.grownBy w' (rowOf g2 S) := by
  have l1 := h1.1.len
  have l2 := h2.len
  have hB : Below w.heap.size w (w.alloc (.cells #[v1, v2] 36)) := (Below.refl _ _).alloc (Nat.le_refl _) _
  have HT : Hid (RW 2 lcs (w.alloc (.cells #[v1, v2] 36)) v1 g1 L ∧ TS (w.alloc (.cells #[v1, v2] 36)) v2 g2 S ∧ PfM (w.alloc (.cells #[v1, v2] 36)) w.heap.size v1 v2) := ⟨h1.later hB, h2.later hB, PfM.new w v1 v2⟩
  have HN : Hid (0 < L.length → w.heap.size ≠ g1) := fun h => by have := h1.lt h; omega
  have HB : Hid (Below w.heap.size w (w.alloc (.cells #[v1, v2] 36))) := hB
  have p0 := HT.out.2.2.c0
  have p1 := HT.out.2.2.c1
  clear hB
  go_enter Tryd.func37, Tryd.ntmps37
  go_wp2_with fail
  refine (markLeafS_any _ g1 L _ 1 _ rfl HT.out.1 (by omega) (by omega)).mono ?_
  rintro e wa ⟨rfl, ha1, hga⟩
  have ha2 := HT.out.2.1.keptG hga (fun hp => rowF_ne (fun hp2 => (hd hp2 hp).symm))
  have hsa := HT.out.2.2.keep (hga.block _ HT.out.2.2.lt (rowF_ne fun hp => HN.out hp))
  have e1 := hsa.c1
  have e0 := hsa.c0
  have HG1 : Hid (w.grownBy wa (rowF g1 L.length)) := (grown_below HB.out).trans hga
  have HA : Hid (RW 2 lcs wa v1 g1 (lmarks 1 L.length) ∧ TS wa v2 g2 S) := ⟨ha1, ha2⟩
  clear ha1 ha2 hsa hga HT HB p0 p1
  go_wp2_with fail
  refine (markStringS_any _ g2 S _ (1 + 2 * L.length) _ rfl HA.out.2 (by omega) (by omega)).mono ?_
  rintro e wb ⟨rfl, hb2, hgb⟩
  have hb1 := HA.out.1.grown hgb (fun hp => rowOf_ne (fun hp2 => hd (by rw [lmarks_len] at hp; exact hp) hp2))
  have HF : Hid (RW 2 lcs wb v1 g1 (lmarks 1 L.length) ∧ TS wb v2 g2 (marks (1 + 2 * L.length) S.length) ∧ ∃ wm, w.grownBy wm (rowF g1 L.length) ∧ wm.grownBy wb (rowOf g2 S)) := ⟨hb1, hb2, wa, HG1.out, hgb⟩
  clear hb1 hb2 hgb HA HG1 e0 e1
  go_wp2
  go_ret
  exact ⟨rfl, HF.out⟩

set_option maxRecDepth 100000 in
set_option maxHeartbeats 1000000 in
theorem heldProof_any (v1 v2 : Value) (g1 g2 n1 n2 : Nat) (w : World) (h1 : RW 2 lcs w v1 g1 (lmarks 1 n1)) (h2 : TS w v2 g2 (marks (1 + 2 * n1) n2)) :
    Calls Tryd.prog 38 #[.agg #[v1, v2], .int .i64 1] w fun e w' => e = .returned (.int .i64 (1 + 2 * n1 + n2 : Nat)) ∧ Below w.heap.size w w' := by
  have l1 := h1.1.len
  have l2 := h2.len
  rw [lmarks_len] at l1
  rw [marks_len] at l2
  have hB : Below w.heap.size w (w.alloc (.cells #[v1, v2] 36)) := (Below.refl _ _).alloc (Nat.le_refl _) _
  have HT : Hid (∀ W, Below w.heap.size w W → RS 2 lcs W v1 g1 0 (lmarks 1 n1) ∧ TS W v2 g2 (marks (1 + 2 * n1) n2)) := fun W hW => ⟨h1.1.later hW, h2.later hW⟩
  have HP : Hid (PfM (w.alloc (.cells #[v1, v2] 36)) w.heap.size v1 v2) := PfM.new w v1 v2
  have p0 := HP.out.c0
  have p1 := HP.out.c1
  clear h1 h2
  go_enter Tryd.func38, Tryd.ntmps38
  go_wp2_with fail
  refine (heldLeafS_any _ g1 _ 1 n1 _ rfl (HT.out _ hB).1 (by omega) (by omega)).mono ?_
  rintro e wa ⟨rfl, hba⟩
  have ba := hB.trans (hba.mono hB.size)
  have e0 := (HP.out.later hba).c0
  have e1 := (HP.out.later hba).c1
  have q1 : ¬ (((1 + 2 * n1 : Nat) : Int) < 0) := by omega
  clear hba hB HP p0 p1
  go_wp2_with fail
  refine (heldStringS_any _ g2 _ (1 + 2 * n1) n2 _ rfl (HT.out _ ba).2 (by omega) (by omega)).mono ?_
  rintro e wb ⟨rfl, hbb⟩
  have bb := ba.trans (hbb.mono ba.size)
  have q2 : ¬ (((1 + 2 * n1 + n2 : Nat) : Int) < 0) := by omega
  clear hbb ba e0 e1 HT
  go_wp2
  go_ret
  exact ⟨rfl, bb⟩

end Go.Proofs.YtojadcjoniejaaaDoor
/-
  A proof in a law's box, and what it is made of.
-/
namespace Go.Proofs.YtojadcjoniejaaaDoor
open Go.RowKit Go.BigFrame Go.Sort
set_option linter.unusedVariables false
set_option linter.unusedSimpArgs false

/-- a proof in its box, and what it is made of -/
def PbX (W : World) (p : Nat) (v1 v2 : Value) (g1 g2 : Nat) (B : List Le) (S : List ByteArray) : Prop := PfM W p v1 v2 ∧ RW 2 lcs W v1 g1 B ∧ TS W v2 g2 S
theorem PbX.later {W W' : World} {p : Nat} {v1 v2 : Value} {g1 g2 : Nat} {B : List Le} {S : List ByteArray} (h : PbX W p v1 v2 g1 g2 B S) (hb : Below W.heap.size W W') : PbX W' p v1 v2 g1 g2 B S := ⟨h.1.later hb, h.2.1.later hb, h.2.2.later hb⟩
theorem PbX.new {w : World} {a1 a2 : Option Addr} {c1 c2 n1 n2 g1 g2 : Nat} {B : List Le} {S : List ByteArray} (h1 : RW 2 lcs w (.slice a1 n1 c1) g1 B) (h2 : TS w (.slice a2 n2 c2) g2 S) : PbX (w.alloc (.cells #[.slice a1 n1 c1, .slice a2 n2 c2] 36)) w.heap.size (.slice a1 n1 c1) (.slice a2 n2 c2) g1 g2 B S := by
  have hb : Below w.heap.size w (w.alloc (.cells #[.slice a1 n1 c1, .slice a2 n2 c2] 36)) := (Below.refl _ _).alloc (Nat.le_refl _) _
  exact ⟨PfM.new w _ _, h1.later hb, h2.later hb⟩
theorem PbX.grown {W W' : World} {p : Nat} {v1 v2 : Value} {g1 g2 : Nat} {B : List Le} {S : List ByteArray} {row : Option Nat} (h : PbX W p v1 v2 g1 g2 B S) (hg : W.grownBy W' row) (hp : some p ≠ row) (h1 : 0 < B.length → some g1 ≠ row) (h2 : 0 < S.length → some g2 ≠ row) : PbX W' p v1 v2 g1 g2 B S :=
  ⟨h.1.keep (hg.block _ h.1.lt hp), h.2.1.grown hg h1, h.2.2.keptG hg h2⟩
theorem PbX.eq {W : World} {p q : Nat} {v1 v2 u1 u2 : Value} {g1 g2 k1 k2 : Nat} {B : List Le} {S : List ByteArray} (h : PbX W p v1 v2 g1 g2 B S) (k : PbX W q u1 u2 k1 k2 B S) : Calls Tryd.prog 34 #[.agg #[v1, v2], .agg #[u1, u2]] W fun e w' => e = .returned (.bool true) ∧ Below W.heap.size W w' :=
  eqProof_yes v1 v2 u1 u2 g1 0 g2 0 k1 0 k2 0 B S W h.2.1.1 h.2.2.ss k.2.1.1 k.2.2.ss

end Go.Proofs.YtojadcjoniejaaaDoor
/-
  A proof that a law is handed, in its box.
-/
namespace Go.Proofs.YtojadcjoniejaaaDoor
open Go.RowKit Go.BigFrame Go.Sort
set_option linter.unusedVariables false
set_option linter.unusedSimpArgs false

/-- a proof that a law was handed stays in its box, and can be taken over from there -/
def PoX (w W : World) (v1 v2 : Value) : Prop := Below w.heap.size w W ∧ w.heap.size < W.heap.size ∧ W.cell? ⟨w.heap.size, 0, none⟩ = some v1 ∧ W.cell? ⟨w.heap.size, 1, none⟩ = some v2
theorem PoX.start (w : World) (v1 v2 : Value) : PoX w (w.alloc (.cells #[v1, v2] 59)) v1 v2 := by
  obtain ⟨a0, a1⟩ := run_rangeQ (w := w) (v1 := v1) (v2 := v2) 59
  exact ⟨(Below.refl _ _).alloc (Nat.le_refl _) _, by simp, a0, a1⟩
theorem PoX.later {w W W' : World} {v1 v2 : Value} (h : PoX w W v1 v2) (hb : Below W.heap.size W W') : PoX w W' v1 v2 := ⟨h.1.trans (hb.mono h.1.size), Nat.lt_of_lt_of_le h.2.1 hb.size, cell_up h.2.2.1 hb, cell_up h.2.2.2 hb⟩

/-- what a law makes of a proof that it was handed -/
def ToP (L : List Le) (S : List ByteArray) (w : World) (e : Ending) (w' : World) : Prop := ∃ k1 k2, e = .returned (.agg #[.slice (some ⟨k1, 0, none⟩) L.length L.length, .slice (some ⟨k2, 0, none⟩) S.length S.length]) ∧ RW 2 lcs w' (.slice (some ⟨k1, 0, none⟩) L.length L.length) k1 L ∧ TS w' (.slice (some ⟨k2, 0, none⟩) S.length S.length) k2 S ∧ w.heap.size ≤ k1 ∧ w.heap.size ≤ k2 ∧ k1 ≠ k2 ∧ k1 < w'.heap.size ∧ k2 < w'.heap.size ∧ Below w.heap.size w w'

end Go.Proofs.YtojadcjoniejaaaDoor
/-
  A proof that a law is handed: a row of leaves and a row of texts that were there.
-/
namespace Go.Proofs.YtojadcjoniejaaaDoor
open Go.ChangeShapes Go.WideShapes Go.ChangeAt Go.RowKit
set_option linter.unusedVariables false
set_option linter.unusedSimpArgs false

theorem cellsPf : Tryd.prog.cellsOf 59 = 2 := by kernel_rfl
theorem cells9P : Tryd.prog.cellsOf 9 = 1 := by kernel_rfl

theorem rowT_of_trod {H : Type} {enc : TypeId × Value → H} {W : World} {fuel : Nat} {v : Value} {y : DataW H × List MemPlace} (h : DataW.trod enc Tryd.prog W 0 (fun _ => true) true fuel 34 [v] = some y) :
    ∃ g o l, IsRowT W v g o l := by
  rcases open_strings Tryd.underlying34 Tryd.underlying9 cells9P h with ⟨hcs, _⟩ | ⟨x, l, c, zs, hcs, _, hl, hm, hz, _, hcell, hwz⟩
  · simp at hcs
    subst hcs
    exact rowT_of (z := []) (.inl ⟨rfl, rfl, rfl, rfl⟩)
  · simp at hcs
    subst hcs
    exact rowT_of (z := zs) (.inr ⟨_, rfl, hl, hm, by simp at hz; omega, hcell, hwz⟩)

namespace LV
set_option maxRecDepth 100000 in
theorem rowL_of_trod {H : Type} {enc : TypeId × Value → H} {W : World} {fuel : Nat} {v : Value} {y : DataW H × List MemPlace} (hf : DataW.trod enc Tryd.prog W 0 (fun _ => true) true fuel 50 [v] = some y) :
    ∃ g o l, IsRowL W v g o l := by
  rcases Deep.open_slice Tryd.underlying50 hf with ⟨hcs, _⟩ | ⟨a, len, cap, m, n, D, Pl, hcs, _, hlc, hcm, hm, _, hx⟩
  · simp at hcs
    subst hcs
    exact ⟨0, 0, [], none, 0, 0, rfl, by omega, fun _ => ⟨rfl, RS.nil W 0 0, fun f hf => absurd hf (by simp)⟩⟩
  · simp at hcs
    subst hcs
    have hx' : ∀ i, i < len → ∃ f : Le, (∀ j u, (lcs f)[j]? = some u → W.cell? (a.add (i * 2 + j)) = some u) ∧ f.n.size ≤ maxLen ∧ f.v.size ≤ maxLen := fun i hi => by
      obtain ⟨cs', h1, h2⟩ := hx i (by rw [hm]; split <;> omega)
      obtain ⟨f, rfl, b0, b1⟩ := leaf_of_trod h2
      rw [cellsLLeaf] at h1
      obtain ⟨_, _, hc⟩ := World.cells?_some h1
      refine ⟨f, fun j u hu => ?_, b0, b1⟩
      have hj : j < 2 := by have := (List.getElem?_eq_some_iff.1 hu).1; simpa [lcs] using this
      have := hc j hj
      rw [addr_add] at this
      rw [this, hu]
    obtain ⟨l, hl, hp⟩ := list_of len hx'
    refine ⟨a.block, a.off, l, some a, len, cap, rfl, by unfold maxLen at hcm; omega, fun hsm => ⟨hl, row_at (fun x => ⟨_, _, rfl⟩) hl cap (fun i h => (hp i h).1) hsm, fun f hf => ?_⟩⟩
    obtain ⟨j, hj, rfl⟩ := List.getElem_of_mem hf
    have := (hp j hj).2
    unfold maxLen at this
    exact this
end LV

set_option maxRecDepth 100000 in
theorem open_proof {H : Type} {enc : TypeId × Value → H} {W : World} {base : Nat} {v : Value} {d : DataW H} {p : List MemPlace} (hv : Value.okWide Tryd.prog W .any base 59 v) (h : DataW.Trod enc Tryd.prog W 0 (fun _ => true) true 59 v d p) :
    ∃ (v1 v2 : Value) (g1 o1 g2 o2 : Nat) (L : List Le) (S : List ByteArray), v = .agg #[v1, v2] ∧ IsRowL W v1 g1 o1 L ∧ IsRowT W v2 g2 o2 S := by
  obtain ⟨v0, v1, y0, y1, n, rfl, _, _, h0, h1⟩ := Joins.open_agg2 Tryd.underlying59 (by kernel_rfl) cellsPf hv h
  obtain ⟨g1, o1, L, r1⟩ := LV.rowL_of_trod h0
  obtain ⟨g2, o2, S, r2⟩ := rowT_of_trod h1
  exact ⟨v0, v1, g1, o1, g2, o2, L, S, rfl, r1, r2⟩

end Go.Proofs.YtojadcjoniejaaaDoor
