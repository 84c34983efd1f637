/-
  Texts laid together: Ha, Hb, Hc, He, Hf, Hg.
-/
import Derived.Test.YtmfoliocibjdnaaDoorPkI
import Derived.Test.YtmfoliocibjdnaaDoorRshort
import Derived.Deep.RegionHeld3
import Derived.Test.YtmfoliocibjdnaaDoorPkG
/-
  Heads as plain words: when one is right, its text; rows of heads as they lie in memory.
-/
namespace Go.Proofs.YtmfoliocibjdnaaDoor
open Go.RowKit Go.BigFrame Go.Sort
set_option linter.unusedVariables false
set_option linter.unusedSimpArgs false

structure Hd where
  h : Int
  e : Int
  r : ByteArray
  p : ByteArray

def hcs (x : Hd) : List Value := [.int .i64 x.h, .int .i64 x.e, .string x.r, .string x.p]
theorem hcs_len (x : Hd) : (hcs x).length = 4 := rfl
theorem RS.head {w : World} {v : Value} {g o : Nat} {l : List Hd} (h : RS 4 hcs w v g o l) (j : Nat) (hj : j < l.length) :
    w.cell? ⟨g, o + j * 4, none⟩ = some (.int .i64 l[j].h) ∧ w.cell? ⟨g, o + j * 4 + 1, none⟩ = some (.int .i64 l[j].e) ∧ w.cell? ⟨g, o + j * 4 + 2, none⟩ = some (.string l[j].r) ∧ w.cell? ⟨g, o + j * 4 + 3, none⟩ = some (.string l[j].p) := by
  obtain ⟨a, c, _, _, _, hc⟩ := h
  exact ⟨hc j hj 0 _ rfl, hc j hj 1 _ rfl, hc j hj 2 _ rfl, hc j hj 3 _ rfl⟩
theorem there4h {w : World} {g o : Nat} (h : w.there g o 4) : (∃ u, w.cell? ⟨g, o, none⟩ = some u) ∧ (∃ u, w.cell? ⟨g, o + 1, none⟩ = some u) ∧ (∃ u, w.cell? ⟨g, o + 2, none⟩ = some u) ∧ (∃ u, w.cell? ⟨g, o + 3, none⟩ = some u) ∧ w.frozen? ⟨g, o, none⟩ = false ∧ w.frozen? ⟨g, o + 1, none⟩ = false ∧ w.frozen? ⟨g, o + 2, none⟩ = false ∧ w.frozen? ⟨g, o + 3, none⟩ = false :=
  ⟨Option.isSome_iff_exists.1 (h 0 (by omega)).1, Option.isSome_iff_exists.1 (h 1 (by omega)).1, Option.isSome_iff_exists.1 (h 2 (by omega)).1, Option.isSome_iff_exists.1 (h 3 (by omega)).1, (h 0 (by omega)).2, (h 1 (by omega)).2, (h 2 (by omega)).2, (h 3 (by omega)).2⟩

theorem below_drnH {B : Nat} {a w : World} (h : Below B a w) (n : Nat) : Below B a (w.drewN n) := h.trans ⟨rfl, rfl, rfl, Nat.le_refl _, fun _ _ => rfl⟩
/-- a head in its box -/
def BH (W : World) (p : Nat) (x : Hd) : Prop := W.heap[p]? = some (.cells #[.int .i64 x.h, .int .i64 x.e, .string x.r, .string x.p] 56 (0, 0))
theorem BH.new (w : World) (x : Hd) : BH (w.alloc (.cells #[.int .i64 x.h, .int .i64 x.e, .string x.r, .string x.p] 56)) w.heap.size x := Go.heap_alloc_new w _
theorem BH.lt {W : World} {p : Nat} {x : Hd} (h : BH W p x) : p < W.heap.size := (Array.getElem?_eq_some_iff.1 h).1
theorem BH.later {W W' : World} {p : Nat} {x : Hd} (h : BH W p x) (hb : Below W.heap.size W W') : BH W' p x := (hb.block p h.lt).trans h
theorem BH.grown {W W' : World} {p : Nat} {x : Hd} {row : Option Nat} (h : BH W p x) (hg : W.grownBy W' row) (hne : some p ≠ row) : BH W' p x := (hg.block p h.lt hne).trans h
theorem BH.range {W : World} {p : Nat} {x : Hd} (h : BH W p x) : W.rangeAt p 0 (hcs x) := fun j v hv => by
  rw [cell_of_row W p (0 + j) _ _ _ h, Nat.zero_add]
  simpa [hcs] using hv
theorem BH.c0 {W : World} {p : Nat} {x : Hd} (h : BH W p x) : W.cell? ⟨p, 0, none⟩ = some (.int .i64 x.h) := h.range 0 _ rfl
theorem BH.c1 {W : World} {p : Nat} {x : Hd} (h : BH W p x) : W.cell? ⟨p, 1, none⟩ = some (.int .i64 x.e) := h.range 1 _ rfl
theorem BH.c2 {W : World} {p : Nat} {x : Hd} (h : BH W p x) : W.cell? ⟨p, 2, none⟩ = some (.string x.r) := h.range 2 _ rfl
theorem BH.c3 {W : World} {p : Nat} {x : Hd} (h : BH W p x) : W.cell? ⟨p, 3, none⟩ = some (.string x.p) := h.range 3 _ rfl
theorem BH.fz {W : World} {p : Nat} {x : Hd} (h : BH W p x) (j : Nat) : W.frozen? ⟨p, j, none⟩ = false := by simp [World.frozen?, show W.heap[p]? = _ from h]
theorem BH.there {W : World} {p : Nat} {x : Hd} (h : BH W p x) : W.there p 0 4 := fun j hj => by
  match j, hj with
  | 0, _ => exact ⟨by rw [h.c0]; rfl, h.fz _⟩
  | 1, _ => exact ⟨by rw [h.c1]; rfl, h.fz _⟩
  | 2, _ => exact ⟨by rw [h.c2]; rfl, h.fz _⟩
  | 3, _ => exact ⟨by rw [h.c3]; rfl, h.fz _⟩
theorem BH.put {W : World} {p : Nat} {x : Hd} (h : BH W p x) (y : Hd) : BH (W.setCells p 0 (hcs y)) p y :=
  heap_setCell_same _ p 3 _ _ _ (heap_setCell_same _ p 2 _ _ _ (heap_setCell_same _ p 1 _ _ _ (heap_setCell_same W p 0 _ _ _ h)))
theorem BH.set0 {W : World} {p : Nat} {x : Hd} (h : BH W p x) (y : Int) : BH (W.setCell ⟨p, 0, none⟩ (.int .i64 y)) p ⟨y, x.e, x.r, x.p⟩ := heap_setCell_same W p 0 _ _ _ h
theorem BH.set1 {W : World} {p : Nat} {x : Hd} (h : BH W p x) (y : Int) : BH (W.setCell ⟨p, 1, none⟩ (.int .i64 y)) p ⟨x.h, y, x.r, x.p⟩ := heap_setCell_same W p 1 _ _ _ h
theorem BH.set2 {W : World} {p : Nat} {x : Hd} (h : BH W p x) (y : ByteArray) : BH (W.setCell ⟨p, 2, none⟩ (.string y)) p ⟨x.h, x.e, y, x.p⟩ := heap_setCell_same W p 2 _ _ _ h
theorem BH.set3 {W : World} {p : Nat} {x : Hd} (h : BH W p x) (y : ByteArray) : BH (W.setCell ⟨p, 3, none⟩ (.string y)) p ⟨x.h, x.e, x.r, y⟩ := heap_setCell_same W p 3 _ _ _ h

theorem sizeHead : (Tryd.prog.info? 56).map (·.size) = some 4 := by kernel_rfl
section
variable {fn : Func} {Rp : Ending → World → Prop} {a : Act} {w : World}
/-- a head answered out of its box -/
theorem ret_hd (c g : Nat) (x : Hd) (hres : fn.results = #[.cell c 56]) (hd : a.defers = []) (hp : a.tmps.getD c undef = .pointer (some ⟨g, 0, none⟩)) (hA : BH w g x) (h : Rp (.returned (.agg #[.int .i64 x.h, .int .i64 x.e, .string x.r, .string x.p])) w) : bodyPost Tryd.prog fn Rp .ret a w :=
  ret_rec c g 56 (hcs x) _ hres hd hp Tryd.underlying56 rfl sizeHead hA.range h
theorem ret_hd2 (c s g : Nat) (x : Hd) (b : Value) (hres : fn.results = #[.cell c 56, .tmp s]) (hd : a.defers = []) (hp : a.tmps.getD c undef = .pointer (some ⟨g, 0, none⟩)) (hb : a.tmps.getD s undef = b) (hA : BH w g x) (h : Rp (.returned (.tuple #[.agg #[.int .i64 x.h, .int .i64 x.e, .string x.r, .string x.p], b])) w) : bodyPost Tryd.prog fn Rp .ret a w :=
  ret_rec2 c s g 56 (hcs x) b _ hres hd hp hb Tryd.underlying56 rfl sizeHead hA.range h
end

namespace HV
def pw (e : Int) : Nat := if e = 1 then 0 else 16
def OkH (x : Hd) : Prop := (0 ≤ x.h ∧ x.h < 3) ∧ (1 ≤ x.e ∧ x.e ≤ 4) ∧ x.r.size = 16 ∧ x.p.size = pw x.e
def okH (x : Hd) : Bool := decide ((0 ≤ x.h ∧ x.h < 3) ∧ (1 ≤ x.e ∧ x.e ≤ 4) ∧ x.r.size = 16 ∧ x.p.size = pw x.e)
theorem okH_iff {x : Hd} : okH x = true ↔ OkH x := by
  unfold okH OkH
  exact decide_eq_true_iff
theorem okH_no {x : Hd} : okH x = false ↔ ¬ OkH x := by
  unfold okH OkH
  exact decide_eq_false_iff_not
/-- its text, when it is right -/
def txtH (x : Hd) : ByteArray := ⟨#[UInt8.ofNat x.h.toNat, UInt8.ofNat x.e.toNat]⟩ ++ x.r ++ x.p
/-- .. and else nothing -/
def textH (x : Hd) : ByteArray := if okH x = true then txtH x else ⟨#[]⟩
end HV

end Go.Proofs.YtmfoliocibjdnaaDoor
/-
  A head, and rows of heads, that a law is handed: counted, copied, compared.
-/
namespace Go.Proofs.YtmfoliocibjdnaaDoor
open Go.RowKit Go.BigFrame Go.Sort
set_option linter.unusedVariables false
set_option linter.unusedSimpArgs false


/-- a head in cells of any box -/
def RB (W : World) (g : Nat) (x : Hd) : Prop := W.rangeAt g 0 (hcs x) ∧ g < W.heap.size
theorem RB.new (w : World) (x : Hd) (T : Nat) : RB (w.alloc (.cells #[.int .i64 x.h, .int .i64 x.e, .string x.r, .string x.p] T)) w.heap.size x := ⟨range_new w (hcs x) T, by simp⟩
theorem RB.later {W W' : World} {g : Nat} {x : Hd} (h : RB W g x) (hb : Below W.heap.size W W') : RB W' g x := ⟨range_kept h.1 (hb.block g h.2), Nat.lt_of_lt_of_le h.2 hb.size⟩
theorem RB.grown {W W' : World} {g : Nat} {x : Hd} {row : Option Nat} (h : RB W g x) (hg : W.grownBy W' row) (hne : some g ≠ row) : RB W' g x := ⟨range_kept h.1 (hg.block g h.2 hne), Nat.lt_of_lt_of_le h.2 hg.size⟩
theorem RB.c0 {W : World} {g : Nat} {x : Hd} (h : RB W g x) : W.cell? ⟨g, 0, none⟩ = some (.int .i64 x.h) := h.1 0 _ rfl
theorem RB.c1 {W : World} {g : Nat} {x : Hd} (h : RB W g x) : W.cell? ⟨g, 1, none⟩ = some (.int .i64 x.e) := h.1 1 _ rfl
theorem RB.c2 {W : World} {g : Nat} {x : Hd} (h : RB W g x) : W.cell? ⟨g, 2, none⟩ = some (.string x.r) := h.1 2 _ rfl
theorem RB.c3 {W : World} {g : Nat} {x : Hd} (h : RB W g x) : W.cell? ⟨g, 3, none⟩ = some (.string x.p) := h.1 3 _ rfl

set_option maxRecDepth 100000 in
set_option maxHeartbeats 400000 in
theorem toHead_any (a : Hd) (w : World) : Calls Tryd.prog 68 #[.agg #[.int .i64 a.h, .int .i64 a.e, .string a.r, .string a.p]] w fun e w' => e = .returned (.agg #[.int .i64 a.h, .int .i64 a.e, .string a.r, .string a.p]) ∧ Below w.heap.size w w' := by
  obtain ⟨k, y, t, o⟩ := a
  go_enter Tryd.func68, Tryd.ntmps68
  go_wp2
  refine ret_rec 2 (w.heap.size + 1) 56 [.int .i64 k, .int .i64 y, .string t, .string o] _ rfl rfl rfl Tryd.underlying56 rfl sizeHead ?_ ?_
  · exact World.rangeAt_alloc (range_at (by simp) (range_new _ [.int .i64 k, .int .i64 y, .string t, .string o] _)) _
  · exact ⟨rfl, (((Below.refl _ _).alloc (Nat.le_refl _) _).alloc (by simp) _).alloc (by simp; omega) _⟩

set_option maxHeartbeats 400000 in
theorem szHead_any (a : Hd) (x : Int) (w : World) (h0 : 0 ≤ x) (h1 : x ≤ 1048576) (ht : a.r.size ≤ 9223372036854775807) (ho : a.p.size ≤ 9223372036854775807) :
    Calls Tryd.prog 65 #[.agg #[.int .i64 a.h, .int .i64 a.e, .string a.r, .string a.p], .int .i64 x] w fun e w' => ∃ A : Int, e = .returned (.int .i64 A) ∧ Below w.heap.size w w' ∧ A ≤ x ∧ (0 ≤ A → a.r.size ≤ 1048576 ∧ a.p.size ≤ 1048576) := by
  obtain ⟨k, y, t, o⟩ := a
  simp only at ht ho ⊢
  have HB : Hid (Below w.heap.size w (w.alloc (.cells #[.int .i64 k, .int .i64 y, .string t, .string o] 77))) := (Below.refl _ _).alloc (Nat.le_refl _) _
  by_cases h3 : x - (t.size : Int) < 0
  · go_enter Tryd.func65, Tryd.ntmps65
    go_wp2
    go_ret
    exact ⟨_, rfl, HB.out, by omega, fun h => by omega⟩
  · by_cases h4 : x - (t.size : Int) - (o.size : Int) < 0
    · go_enter Tryd.func65, Tryd.ntmps65
      go_wp2
      go_ret
      exact ⟨_, rfl, HB.out, by omega, fun h => by omega⟩
    · go_enter Tryd.func65, Tryd.ntmps65
      go_wp2
      go_ret
      exact ⟨_, rfl, HB.out, by omega, fun h => ⟨by omega, by omega⟩⟩

theorem Tryd.infoHead : (Tryd.prog.info? 56).map (fun i => (i.zero, i.size, i.bytes)) = some (some (.agg #[.int .i64 0, .int .i64 0, .string ByteArray.empty, .string ByteArray.empty]), 4, 48) := by kernel_rfl
theorem there_new4h {W : World} {cs : Array Value} {T n : Nat} (h : cs.size = n * 4) (j : Nat) (hj : j < n) : (W.alloc (.cells cs T)).there W.heap.size (j * 4) 4 := by
  intro i hi
  have hg := Go.heap_alloc_new W (.cells cs T)
  refine ⟨?_, by unfold World.frozen?; simp only [hg]; simp⟩
  rw [cell_of_row _ W.heap.size (j * 4 + i) cs T (0, 0) hg, Array.getElem?_eq_getElem (by omega)]
  rfl
theorem made_heads (n : Nat) (h : n ≤ 1100000) (W : World) : ∃ w', (Instr.makeSlice 157 (.int .i64 (n : Int)) (.int .i64 (n : Int))).run Tryd.prog W = .ok (.slice (some ⟨W.heap.size, 0, none⟩) n n) w' ∧ (∀ j, j < n → w'.there W.heap.size (j * 4) 4) ∧ Below W.heap.size W w' ∧ w'.heap.size = W.heap.size + 1 := by
  obtain ⟨i0, hi, hz0, hz1, hz2⟩ := info_parts Tryd.infoHead
  have h1 := run_make (P := Tryd.prog) W 157 56 i0 _ Tryd.underlying157 hi hz0 .i64 .i64 (n : Int) (n : Int) (by omega) (by omega) (by rw [hz2]; omega) (by omega)
  refine ⟨_, by simpa using h1, fun j hj => there_new4h ?_ j hj, (Below.refl _ _).alloc (Nat.le_refl _) _, by simp⟩
  rw [size_madeCells, hz1]

/-- the first m records of a new row are written -/
def ToH (w : World) (l : List Hd) (B g : Nat) (i : Value) (wr : World) : Prop := ∃ m : Nat, m ≤ l.length ∧ i = .int .i64 m ∧ (∀ j (h : j < l.length), j < m → wr.rangeAt g (j * 4) (hcs l[j])) ∧ (∀ j, j < l.length → wr.there g (j * 4) 4) ∧ Below B w wr
theorem ToH.set {w wr : World} {l : List Hd} {g m B : Nat} (hm : m < l.length) (hB : B ≤ g) (h1 : ∀ j (h : j < l.length), j < m → wr.rangeAt g (j * 4) (hcs l[j])) (h2 : ∀ j, j < l.length → wr.there g (j * 4) 4) (h3 : Below B w wr) :
    (∀ j (h : j < l.length), j < m + 1 → (wr.setCells g (m * 4) (hcs l[m])).rangeAt g (j * 4) (hcs l[j])) ∧ (∀ j, j < l.length → (wr.setCells g (m * 4) (hcs l[m])).there g (j * 4) 4) ∧ Below B w (wr.setCells g (m * 4) (hcs l[m])) := by
  refine ⟨fun j hj hlt => ?_, fun j hj => World.there_setCells (h2 j hj) _ _ _, ?_⟩
  · rcases Nat.lt_or_ge j m with h4 | h4
    · exact World.rangeAt_setCells_apart (h1 j hj h4) _ _ _ (.inr (.inl (by rw [hcs_len]; omega)))
    · have : j = m := by omega
      subst this
      exact World.rangeAt_setCells_same _ _ _ _ (h2 j hj)
  · exact below_setCells hB _ _ _ h3

theorem eqHead_yes (f : Hd) (w : World) : Calls Tryd.prog 135 #[.agg #[.int .i64 f.h, .int .i64 f.e, .string f.r, .string f.p], .agg #[.int .i64 f.h, .int .i64 f.e, .string f.r, .string f.p]] w fun e w' => e = .returned (.bool true) ∧ Below w.heap.size w w' := by
  obtain ⟨k, x, t, o⟩ := f
  have hb : Below w.heap.size w ((w.alloc (.cells #[.int .i64 k, .int .i64 x, .string t, .string o] 56)).alloc (.cells #[.int .i64 k, .int .i64 x, .string t, .string o] 56)) := ((Below.refl _ _).alloc (Nat.le_refl _) _).alloc (by simp) _
  go_enter Tryd.func135, Tryd.ntmps135
  go_wp2
  go_ret
  exact ⟨rfl, hb⟩

def EhR (n : Nat) (w : World) (i : Value) (wr : World) : Prop := ∃ m : Nat, m ≤ n ∧ i = .int .i64 m ∧ Below w.heap.size w wr

/-- a row of heads that was handed in, great or small: if it is small, it is l -/
def IsRowH (w : World) (v : Value) (g o : Nat) (l : List Hd) : Prop := ∃ a n cap, v = .slice a n cap ∧ n ≤ 9223372036854775807 ∧ (n ≤ 1100000 → l.length = n ∧ RS 4 hcs w v g o l ∧ ∀ f ∈ l, f.r.size ≤ 9223372036854775807 ∧ f.p.size ≤ 9223372036854775807)
theorem IsRowH.later {w w' : World} {v : Value} {g o : Nat} {l : List Hd} (h : IsRowH w v g o l) (hb : Below w.heap.size w w') : IsRowH w' v g o l := by
  obtain ⟨a, n, cap, hv, hn, hr⟩ := h
  exact ⟨a, n, cap, hv, hn, fun hl => ⟨(hr hl).1, (hr hl).2.1.later hb, (hr hl).2.2⟩⟩
def SmallH1 (a : Hd) : Prop := a.r.size ≤ 1048576 ∧ a.p.size ≤ 1048576
/-- no text of it is great -/
def SmallHs (l : List Hd) : Prop := ∀ f ∈ l, SmallH1 f

def SzH (l : List Hd) (x0 : Int) (w : World) (x i : Value) (wr : World) : Prop := ∃ (m : Nat) (y : Int), m ≤ l.length ∧ i = .int .i64 m ∧ x = .int .i64 y ∧ 0 ≤ y ∧ y ≤ x0 ∧ Hid (∀ j (h : j < l.length), j < m → SmallH1 l[j]) ∧ Below w.heap.size w wr

end Go.Proofs.YtmfoliocibjdnaaDoor
/-
  When a head is right: the program's and the specification's answers.
-/
namespace Go.Proofs.YtmfoliocibjdnaaDoor
open Go.RowKit Go.BigFrame Go.Sort
set_option linter.unusedVariables false
set_option linter.unusedSimpArgs false

theorem houseOk_any (x : Int) (w : World) : Calls Tryd.prog 125 #[.int .i64 x] w fun e w' => e = .returned (.bool (decide (0 ≤ x ∧ x < 3))) ∧ w' = w := by
  by_cases h1 : 0 ≤ x
  · by_cases h2 : x < 3
    · rw [decide_eq_true ⟨h1, h2⟩]
      go_enter Tryd.func125, Tryd.ntmps125
      go_wp2
      go_ret
      exact ⟨rfl, rfl⟩
    · rw [decide_eq_false (fun h => h2 h.2)]
      go_enter Tryd.func125, Tryd.ntmps125
      go_wp2
      go_ret
      exact ⟨rfl, rfl⟩
  · rw [decide_eq_false (fun h => h1 h.1)]
    go_enter Tryd.func125, Tryd.ntmps125
    go_wp2
    go_ret
    exact ⟨rfl, rfl⟩
theorem epochOk_any (x : Int) (w : World) : Calls Tryd.prog 123 #[.int .i64 x] w fun e w' => e = .returned (.bool (decide (1 ≤ x ∧ x ≤ 4))) ∧ w' = w := by
  by_cases h1 : 1 ≤ x
  · by_cases h2 : x ≤ 4
    · rw [decide_eq_true ⟨h1, h2⟩]
      go_enter Tryd.func123, Tryd.ntmps123
      go_wp2
      go_ret
      exact ⟨rfl, rfl⟩
    · rw [decide_eq_false (fun h => h2 h.2)]
      go_enter Tryd.func123, Tryd.ntmps123
      go_wp2
      go_ret
      exact ⟨rfl, rfl⟩
  · rw [decide_eq_false (fun h => h1 h.1)]
    go_enter Tryd.func123, Tryd.ntmps123
    go_wp2
    go_ret
    exact ⟨rfl, rfl⟩
theorem prevWide_any (x : Int) (w : World) : Calls Tryd.prog 155 #[.int .i64 x] w fun e w' => e = .returned (.int .i64 ((HV.pw x : Nat) : Int)) ∧ w' = w := by
  unfold HV.pw
  by_cases h1 : x = 1
  · rw [if_pos h1]
    have q : (x == 1) = true := by simp [h1]
    clear h1
    go_enter Tryd.func155, Tryd.ntmps155
    go_wp2
    go_ret
    exact ⟨rfl, rfl⟩
  · rw [if_neg h1]
    have q : (x == 1) = false := by simp [h1]
    clear h1
    go_enter Tryd.func155, Tryd.ntmps155
    go_wp2
    go_ret
    exact ⟨rfl, rfl⟩

set_option maxRecDepth 100000 in
set_option maxHeartbeats 1000000 in
theorem HeadOk_any (x : Hd) (w : World) : Calls Tryd.prog 121 #[.agg #[.int .i64 x.h, .int .i64 x.e, .string x.r, .string x.p]] w fun e w' => e = .returned (.bool (HV.okH x)) ∧ Below w.heap.size w w' := by
  obtain ⟨h, e, r, p⟩ := x
  have HB : Hid (Below w.heap.size w (w.alloc (.cells #[.int .i64 h, .int .i64 e, .string r, .string p] 56))) := (Below.refl _ _).alloc (Nat.le_refl _) _
  obtain ⟨b1, hb1⟩ : ∃ b, decide (0 ≤ h ∧ h < 3) = b := ⟨_, rfl⟩
  obtain ⟨b2, hb2⟩ : ∃ b, decide (1 ≤ e ∧ e ≤ 4) = b := ⟨_, rfl⟩
  obtain ⟨n, hn⟩ : ∃ n, HV.pw e = n := ⟨_, rfl⟩
  have H1 : Hid (∀ W, Calls Tryd.prog 125 #[.int .i64 h] W fun e w' => e = .returned (.bool b1) ∧ Below W.heap.size W w') := fun W => (houseOk_any h W).mono fun e w' ⟨he, hw⟩ => ⟨hb1 ▸ he, hw ▸ Below.refl _ _⟩
  have H2 : Hid (∀ W, Calls Tryd.prog 123 #[.int .i64 e] W fun e w' => e = .returned (.bool b2) ∧ Below W.heap.size W w') := fun W => (epochOk_any e W).mono fun e w' ⟨he, hw⟩ => ⟨hb2 ▸ he, hw ▸ Below.refl _ _⟩
  have H3 : Hid (∀ W, Calls Tryd.prog 155 #[.int .i64 e] W fun e w' => e = .returned (.int .i64 (n : Int)) ∧ Below W.heap.size W w') := fun W => (prevWide_any e W).mono fun e w' ⟨he, hw⟩ => ⟨hn ▸ he, hw ▸ Below.refl _ _⟩
  have HF : Hid (HV.okH ⟨h, e, r, p⟩ = (b1 && b2 && decide ((r.size : Int) = 16) && decide ((p.size : Int) = (n : Int)))) := by
    rw [← hb1, ← hb2, ← hn, HV.okH]
    simp only [← Bool.decide_and]
    congr 1
    exact propext ⟨fun ⟨a, b, c, d⟩ => ⟨⟨⟨a, b⟩, by omega⟩, by omega⟩, fun ⟨⟨⟨a, b⟩, c⟩, d⟩ => ⟨a, b, by omega, by omega⟩⟩
  rw [HF.out]
  clear HF hb1 hb2 hn
  obtain ⟨b3, hb3⟩ : ∃ b, decide ((r.size : Int) = 16) = b := ⟨_, rfl⟩
  obtain ⟨b4, hb4⟩ : ∃ b, decide ((p.size : Int) = (n : Int)) = b := ⟨_, rfl⟩
  have z0 : (w.alloc (.cells #[.int .i64 h, .int .i64 e, .string r, .string p] 56)).cell? ⟨w.heap.size, 0, none⟩ = some (.int .i64 h) := by simp
  have z1 : (w.alloc (.cells #[.int .i64 h, .int .i64 e, .string r, .string p] 56)).cell? ⟨w.heap.size, 1, none⟩ = some (.int .i64 e) := by simp
  have z2 : (w.alloc (.cells #[.int .i64 h, .int .i64 e, .string r, .string p] 56)).cell? ⟨w.heap.size, 2, none⟩ = some (.string r) := by simp
  have z3 : (w.alloc (.cells #[.int .i64 h, .int .i64 e, .string r, .string p] 56)).cell? ⟨w.heap.size, 3, none⟩ = some (.string p) := by simp
  have q3 : ((r.size : Int) == 16) = b3 := by rw [← hb3]; rfl
  have q4 : ((p.size : Int) == (n : Int)) = b4 := by rw [← hb4]; rfl
  rw [hb3, hb4]
  clear hb3 hb4
  have HW : Hid (∀ X, Below (w.alloc (.cells #[.int .i64 h, .int .i64 e, .string r, .string p] 56)).heap.size (w.alloc (.cells #[.int .i64 h, .int .i64 e, .string r, .string p] 56)) X → Below w.heap.size w X) := fun X hX => HB.out.trans (hX.mono HB.out.size)
  cases b1
  · go_enter Tryd.func121, Tryd.ntmps121
    go_wp2
    have kq0 := cell_regrown (w := (w.alloc (.cells #[.int .i64 h, .int .i64 e, .string r, .string p] 56))) z0
    have kq1 := cell_regrown (w := (w.alloc (.cells #[.int .i64 h, .int .i64 e, .string r, .string p] 56))) z1
    have kq2 := cell_regrown (w := (w.alloc (.cells #[.int .i64 h, .int .i64 e, .string r, .string p] 56))) z2
    have kq3 := cell_regrown (w := (w.alloc (.cells #[.int .i64 h, .int .i64 e, .string r, .string p] 56))) z3
    have cq0 := fun d os => Calls.regrown_of (w := (w.alloc (.cells #[.int .i64 h, .int .i64 e, .string r, .string p] 56))) (d := d) (os := os) (H1.out _)
    have cq1 := fun d os => Calls.regrown_of (w := (w.alloc (.cells #[.int .i64 h, .int .i64 e, .string r, .string p] 56))) (d := d) (os := os) (H2.out _)
    have cq2 := fun d os => Calls.regrown_of (w := (w.alloc (.cells #[.int .i64 h, .int .i64 e, .string r, .string p] 56))) (d := d) (os := os) (H3.out _)
    refine wp_region_quiet_below (by kernel_rfl) (by kernel_rfl) ?_
    repeat (go_big_quiet_step (first | (with_reducible exact cq0 _ _) | (with_reducible exact cq1 _ _) | (with_reducible exact cq2 _ _)))
    refine wpQuiet_nil ?_
    rintro _ ⟨⟨dq, osq⟩, rfl⟩
    have hb6 := HW.out _ (below_regrown (w.alloc (.cells #[.int .i64 h, .int .i64 e, .string r, .string p] 56)) dq osq)
    generalize grow (redrawn (w.alloc (.cells #[.int .i64 h, .int .i64 e, .string r, .string p] 56)) dq) osq = w6 at *
    clear kq0 kq1 kq2 kq3 cq0 cq1 cq2
    go_wp2
    go_ret
    exact ⟨rfl, hb6⟩
  · cases b2
    · go_enter Tryd.func121, Tryd.ntmps121
      go_wp2
      have kq0 := cell_regrown (w := (w.alloc (.cells #[.int .i64 h, .int .i64 e, .string r, .string p] 56))) z0
      have kq1 := cell_regrown (w := (w.alloc (.cells #[.int .i64 h, .int .i64 e, .string r, .string p] 56))) z1
      have kq2 := cell_regrown (w := (w.alloc (.cells #[.int .i64 h, .int .i64 e, .string r, .string p] 56))) z2
      have kq3 := cell_regrown (w := (w.alloc (.cells #[.int .i64 h, .int .i64 e, .string r, .string p] 56))) z3
      have cq0 := fun d os => Calls.regrown_of (w := (w.alloc (.cells #[.int .i64 h, .int .i64 e, .string r, .string p] 56))) (d := d) (os := os) (H1.out _)
      have cq1 := fun d os => Calls.regrown_of (w := (w.alloc (.cells #[.int .i64 h, .int .i64 e, .string r, .string p] 56))) (d := d) (os := os) (H2.out _)
      have cq2 := fun d os => Calls.regrown_of (w := (w.alloc (.cells #[.int .i64 h, .int .i64 e, .string r, .string p] 56))) (d := d) (os := os) (H3.out _)
      refine wp_region_quiet_below (by kernel_rfl) (by kernel_rfl) ?_
      repeat (go_big_quiet_step (first | (with_reducible exact cq0 _ _) | (with_reducible exact cq1 _ _) | (with_reducible exact cq2 _ _)))
      refine wpQuiet_nil ?_
      rintro _ ⟨⟨dq, osq⟩, rfl⟩
      have hb6 := HW.out _ (below_regrown (w.alloc (.cells #[.int .i64 h, .int .i64 e, .string r, .string p] 56)) dq osq)
      generalize grow (redrawn (w.alloc (.cells #[.int .i64 h, .int .i64 e, .string r, .string p] 56)) dq) osq = w6 at *
      clear kq0 kq1 kq2 kq3 cq0 cq1 cq2
      go_wp2
      go_ret
      exact ⟨rfl, hb6⟩
    · cases b3
      · go_enter Tryd.func121, Tryd.ntmps121
        go_wp2
        have kq0 := cell_regrown (w := (w.alloc (.cells #[.int .i64 h, .int .i64 e, .string r, .string p] 56))) z0
        have kq1 := cell_regrown (w := (w.alloc (.cells #[.int .i64 h, .int .i64 e, .string r, .string p] 56))) z1
        have kq2 := cell_regrown (w := (w.alloc (.cells #[.int .i64 h, .int .i64 e, .string r, .string p] 56))) z2
        have kq3 := cell_regrown (w := (w.alloc (.cells #[.int .i64 h, .int .i64 e, .string r, .string p] 56))) z3
        have cq0 := fun d os => Calls.regrown_of (w := (w.alloc (.cells #[.int .i64 h, .int .i64 e, .string r, .string p] 56))) (d := d) (os := os) (H1.out _)
        have cq1 := fun d os => Calls.regrown_of (w := (w.alloc (.cells #[.int .i64 h, .int .i64 e, .string r, .string p] 56))) (d := d) (os := os) (H2.out _)
        have cq2 := fun d os => Calls.regrown_of (w := (w.alloc (.cells #[.int .i64 h, .int .i64 e, .string r, .string p] 56))) (d := d) (os := os) (H3.out _)
        refine wp_region_quiet_below (by kernel_rfl) (by kernel_rfl) ?_
        repeat (go_big_quiet_step (first | (with_reducible exact cq0 _ _) | (with_reducible exact cq1 _ _) | (with_reducible exact cq2 _ _)))
        refine wpQuiet_nil ?_
        rintro _ ⟨⟨dq, osq⟩, rfl⟩
        have hb6 := HW.out _ (below_regrown (w.alloc (.cells #[.int .i64 h, .int .i64 e, .string r, .string p] 56)) dq osq)
        generalize grow (redrawn (w.alloc (.cells #[.int .i64 h, .int .i64 e, .string r, .string p] 56)) dq) osq = w6 at *
        clear kq0 kq1 kq2 kq3 cq0 cq1 cq2
        go_wp2
        go_ret
        exact ⟨rfl, hb6⟩
      · cases b4
        · go_enter Tryd.func121, Tryd.ntmps121
          go_wp2
          have kq0 := cell_regrown (w := (w.alloc (.cells #[.int .i64 h, .int .i64 e, .string r, .string p] 56))) z0
          have kq1 := cell_regrown (w := (w.alloc (.cells #[.int .i64 h, .int .i64 e, .string r, .string p] 56))) z1
          have kq2 := cell_regrown (w := (w.alloc (.cells #[.int .i64 h, .int .i64 e, .string r, .string p] 56))) z2
          have kq3 := cell_regrown (w := (w.alloc (.cells #[.int .i64 h, .int .i64 e, .string r, .string p] 56))) z3
          have cq0 := fun d os => Calls.regrown_of (w := (w.alloc (.cells #[.int .i64 h, .int .i64 e, .string r, .string p] 56))) (d := d) (os := os) (H1.out _)
          have cq1 := fun d os => Calls.regrown_of (w := (w.alloc (.cells #[.int .i64 h, .int .i64 e, .string r, .string p] 56))) (d := d) (os := os) (H2.out _)
          have cq2 := fun d os => Calls.regrown_of (w := (w.alloc (.cells #[.int .i64 h, .int .i64 e, .string r, .string p] 56))) (d := d) (os := os) (H3.out _)
          refine wp_region_quiet_below (by kernel_rfl) (by kernel_rfl) ?_
          repeat (go_big_quiet_step (first | (with_reducible exact cq0 _ _) | (with_reducible exact cq1 _ _) | (with_reducible exact cq2 _ _)))
          refine wpQuiet_nil ?_
          rintro _ ⟨⟨dq, osq⟩, rfl⟩
          have hb6 := HW.out _ (below_regrown (w.alloc (.cells #[.int .i64 h, .int .i64 e, .string r, .string p] 56)) dq osq)
          generalize grow (redrawn (w.alloc (.cells #[.int .i64 h, .int .i64 e, .string r, .string p] 56)) dq) osq = w6 at *
          clear kq0 kq1 kq2 kq3 cq0 cq1 cq2
          go_wp2
          go_ret
          exact ⟨rfl, hb6⟩
        · go_enter Tryd.func121, Tryd.ntmps121
          go_wp2
          have kq0 := cell_regrown (w := (w.alloc (.cells #[.int .i64 h, .int .i64 e, .string r, .string p] 56))) z0
          have kq1 := cell_regrown (w := (w.alloc (.cells #[.int .i64 h, .int .i64 e, .string r, .string p] 56))) z1
          have kq2 := cell_regrown (w := (w.alloc (.cells #[.int .i64 h, .int .i64 e, .string r, .string p] 56))) z2
          have kq3 := cell_regrown (w := (w.alloc (.cells #[.int .i64 h, .int .i64 e, .string r, .string p] 56))) z3
          have cq0 := fun d os => Calls.regrown_of (w := (w.alloc (.cells #[.int .i64 h, .int .i64 e, .string r, .string p] 56))) (d := d) (os := os) (H1.out _)
          have cq1 := fun d os => Calls.regrown_of (w := (w.alloc (.cells #[.int .i64 h, .int .i64 e, .string r, .string p] 56))) (d := d) (os := os) (H2.out _)
          have cq2 := fun d os => Calls.regrown_of (w := (w.alloc (.cells #[.int .i64 h, .int .i64 e, .string r, .string p] 56))) (d := d) (os := os) (H3.out _)
          refine wp_region_quiet_below (by kernel_rfl) (by kernel_rfl) ?_
          repeat (go_big_quiet_step (first | (with_reducible exact cq0 _ _) | (with_reducible exact cq1 _ _) | (with_reducible exact cq2 _ _)))
          refine wpQuiet_nil ?_
          rintro _ ⟨⟨dq, osq⟩, rfl⟩
          have hb6 := HW.out _ (below_regrown (w.alloc (.cells #[.int .i64 h, .int .i64 e, .string r, .string p] 56)) dq osq)
          generalize grow (redrawn (w.alloc (.cells #[.int .i64 h, .int .i64 e, .string r, .string p] 56)) dq) osq = w6 at *
          clear kq0 kq1 kq2 kq3 cq0 cq1 cq2
          go_wp2
          go_ret
          exact ⟨rfl, hb6⟩

set_option maxRecDepth 100000 in
set_option maxHeartbeats 1000000 in
theorem sHeadOk_any (x : Hd) (w : World) : Calls Tryd.prog 130 #[.agg #[.int .i64 x.h, .int .i64 x.e, .string x.r, .string x.p]] w fun e w' => e = .returned (.bool (HV.okH x)) ∧ Below w.heap.size w w' := by
  obtain ⟨h, e, r, p⟩ := x
  have HB : Hid (Below w.heap.size w (w.alloc (.cells #[.int .i64 h, .int .i64 e, .string r, .string p] 56))) := (Below.refl _ _).alloc (Nat.le_refl _) _
  obtain ⟨b1, hb1⟩ : ∃ b, decide (0 ≤ h ∧ h ≤ 2) = b := ⟨_, rfl⟩
  obtain ⟨b2, hb2⟩ : ∃ b, decide (1 ≤ e ∧ e ≤ 4) = b := ⟨_, rfl⟩
  obtain ⟨b3, hb3⟩ : ∃ b, decide ((r.size : Int) = 16) = b := ⟨_, rfl⟩
  have H1 : Hid (∀ W, Calls Tryd.prog 94 #[.int .i64 h, .int .i64 0, .int .i64 2] W fun e w' => e = .returned (.bool b1) ∧ w' = W) := fun W => hb1 ▸ l01In_any h 0 2 W
  have H2 : Hid (∀ W, Calls Tryd.prog 94 #[.int .i64 e, .int .i64 1, .int .i64 4] W fun e w' => e = .returned (.bool b2) ∧ w' = W) := fun W => hb2 ▸ l01In_any e 1 4 W
  have HF : Hid (HV.okH ⟨h, e, r, p⟩ = (b1 && b2 && b3 && decide (p.size = HV.pw e))) := by
    rw [← hb1, ← hb2, ← hb3, HV.okH]
    simp only [← Bool.decide_and]
    congr 1
    exact propext ⟨fun ⟨a, b, c, d⟩ => ⟨⟨⟨by omega, b⟩, by omega⟩, by omega⟩, fun ⟨⟨⟨a, b⟩, c⟩, d⟩ => ⟨by omega, b, by omega, by omega⟩⟩
  rw [HF.out]
  clear HF hb1 hb2
  have z0 : (w.alloc (.cells #[.int .i64 h, .int .i64 e, .string r, .string p] 56)).cell? ⟨w.heap.size, 0, none⟩ = some (.int .i64 h) := by simp
  have z1 : (w.alloc (.cells #[.int .i64 h, .int .i64 e, .string r, .string p] 56)).cell? ⟨w.heap.size, 1, none⟩ = some (.int .i64 e) := by simp
  have z2 : (w.alloc (.cells #[.int .i64 h, .int .i64 e, .string r, .string p] 56)).cell? ⟨w.heap.size, 2, none⟩ = some (.string r) := by simp
  have z3 : (w.alloc (.cells #[.int .i64 h, .int .i64 e, .string r, .string p] 56)).cell? ⟨w.heap.size, 3, none⟩ = some (.string p) := by simp
  have q3 : ((r.size : Int) != 16) = !b3 := by rw [← hb3]; rfl
  clear hb3
  have HW : Hid (∀ X, Below (w.alloc (.cells #[.int .i64 h, .int .i64 e, .string r, .string p] 56)).heap.size (w.alloc (.cells #[.int .i64 h, .int .i64 e, .string r, .string p] 56)) X → Below w.heap.size w X) := fun X hX => HB.out.trans (hX.mono HB.out.size)
  clear HW z0 z1 z2 z3
  cases b1
  · go_enter Tryd.func130, Tryd.ntmps130
    go_wp2_with fail
    refine (H1.out _).mono ?_
    rintro e1 w1 ⟨rfl, rfl⟩
    go_wp2
    go_ret
    exact ⟨by simp, HB.out⟩
  · cases b2
    · go_enter Tryd.func130, Tryd.ntmps130
      go_wp2_with fail
      refine (H1.out _).mono ?_
      rintro e1 w1 ⟨rfl, rfl⟩
      go_wp2_with fail
      refine (H2.out _).mono ?_
      rintro e1 w1 ⟨rfl, rfl⟩
      go_wp2
      go_ret
      exact ⟨by simp, HB.out⟩
    · cases b3
      · go_enter Tryd.func130, Tryd.ntmps130
        go_wp2_with fail
        refine (H1.out _).mono ?_
        rintro e1 w1 ⟨rfl, rfl⟩
        go_wp2_with fail
        refine (H2.out _).mono ?_
        rintro e1 w1 ⟨rfl, rfl⟩
        go_wp2
        go_ret
        exact ⟨by simp, HB.out⟩
      · by_cases he : e = 1
        · subst he
          cases hp : p.toList.isEmpty
          · have e1 : decide (p.size = HV.pw 1) = false := by
              refine decide_eq_false fun h => ?_
              have : p.data.toList.length = 0 := by rw [Array.length_toList]; exact h
              rw [ByteArray.toList_eq, List.length_eq_zero_iff.1 this] at hp
              cases hp
            rw [e1]
            clear e1
            go_enter Tryd.func130, Tryd.ntmps130
            go_wp2_with fail
            refine (H1.out _).mono ?_
            rintro e1 w1 ⟨rfl, rfl⟩
            go_wp2_with fail
            refine (H2.out _).mono ?_
            rintro e1 w1 ⟨rfl, rfl⟩
            go_wp2
            go_ret
            exact ⟨rfl, HB.out⟩
          · have e1 : decide (p.size = HV.pw 1) = true := by
              refine decide_eq_true ?_
              rw [ByteArray.toList_eq, List.isEmpty_iff] at hp
              show p.data.size = 0
              rw [← Array.length_toList, hp]
              rfl
            rw [e1]
            clear e1
            go_enter Tryd.func130, Tryd.ntmps130
            go_wp2_with fail
            refine (H1.out _).mono ?_
            rintro e1 w1 ⟨rfl, rfl⟩
            go_wp2_with fail
            refine (H2.out _).mono ?_
            rintro e1 w1 ⟨rfl, rfl⟩
            go_wp2
            go_ret
            exact ⟨rfl, HB.out⟩
        · have q : (e == 1) = false := by simp [he]
          have q5 : ((p.size : Int) == 16) = decide (p.size = HV.pw e) := by
            unfold HV.pw
            rw [if_neg he]
            show decide ((p.size : Int) = 16) = _
            congr 1
            exact propext (by omega)
          generalize decide (p.size = HV.pw e) = b5 at *
          clear he
          go_enter Tryd.func130, Tryd.ntmps130
          go_wp2_with fail
          refine (H1.out _).mono ?_
          rintro e1 w1 ⟨rfl, rfl⟩
          go_wp2_with fail
          refine (H2.out _).mono ?_
          rintro e1 w1 ⟨rfl, rfl⟩
          go_wp2
          go_ret
          exact ⟨by simp, HB.out⟩

end Go.Proofs.YtmfoliocibjdnaaDoor
/-
  The text of a head: the program's and the specification's answers.
-/
namespace Go.Proofs.YtmfoliocibjdnaaDoor
open Go.RowKit Go.BigFrame Go.Sort
set_option linter.unusedVariables false
set_option linter.unusedSimpArgs false

theorem two_str (w : World) (b c : UInt8) : (convert 22 9 (.slice (some ⟨w.heap.size, 0, none⟩) 2 2)).run Tryd.prog (w.alloc (.cells #[.int .u8 (b.toNat : Int), .int .u8 (c.toNat : Int)] 5)) = .ok (.string ⟨#[b, c]⟩) (w.alloc (.cells #[.int .u8 (b.toNat : Int), .int .u8 (c.toNat : Int)] 5)) := by
  refine run_convert_bytes_back (P := Tryd.prog) _ 22 9 5 ⟨w.heap.size, 0, none⟩ 2 [b, c] Tryd.underlying22 Tryd.underlying5 Tryd.underlying9 ?_
  intro j hj
  have h0 : j = 0 ∨ j = 1 := by simp at hj; omega
  rcases h0 with rfl | rfl <;> simp [Addr.add]
theorem byte_int (x : Int) (n : Nat) (hx : x = (n : Int)) (h : n ≤ 255) : x = ((UInt8.ofNat n).toNat : Int) := by
  rw [hx]
  simp
  omega
/-- what stands as a text: two bytes, and two texts behind them -/
def b2T (b c : UInt8) (r p : ByteArray) : ByteArray := ⟨#[b, c]⟩ ++ r ++ p
theorem b2T_size (b c : UInt8) (r p : ByteArray) : (b2T b c r p).size = 2 + r.size + p.size := by
  unfold b2T
  rw [ByteArray.size_append, ByteArray.size_append]
  rfl
theorem HV.txtH_b2 (x : Hd) : HV.txtH x = b2T (UInt8.ofNat x.h.toNat) (UInt8.ofNat x.e.toNat) x.r x.p := rfl

set_option maxRecDepth 100000 in
set_option maxHeartbeats 1000000 in
theorem HeadText_any (x : Hd) (w : World) : Calls Tryd.prog 115 #[.agg #[.int .i64 x.h, .int .i64 x.e, .string x.r, .string x.p]] w fun e w' => e = .returned (.tuple #[.string (HV.textH x), .bool (HV.okH x)]) ∧ Below w.heap.size w w' := by
  have HC : Hid (∀ W, Calls Tryd.prog 121 #[.agg #[.int .i64 x.h, .int .i64 x.e, .string x.r, .string x.p]] W fun e w' => e = .returned (.bool (HV.okH x)) ∧ Below W.heap.size W w') := fun W => HeadOk_any x W
  unfold HV.textH
  cases hk : HV.okH x
  · rw [hk] at HC
    obtain ⟨h, e, r, p⟩ := x
    clear hk
    have HB : Hid (Below w.heap.size w (w.alloc (.cells #[.int .i64 h, .int .i64 e, .string r, .string p] 56))) := (Below.refl _ _).alloc (Nat.le_refl _) _
    have HS : w.heap.size ≤ (w.alloc (.cells #[.int .i64 h, .int .i64 e, .string r, .string p] 56)).heap.size := HB.out.size
    rw [if_neg (by simp)]
    go_enter Tryd.func115, Tryd.ntmps115
    go_wp2_with fail
    refine (HC.out _).mono ?_
    rintro e1 w1 ⟨rfl, hb1⟩
    have HB1 := HB.out.trans (hb1.mono HS)
    clear hb1
    go_wp2
    go_ret2
    exact ⟨rfl, HB1⟩
  · rw [hk] at HC
    rw [if_pos rfl, HV.txtH_b2]
    obtain ⟨⟨h0, h1⟩, ⟨h2, h3⟩, h4, h5⟩ := HV.okH_iff.1 hk
    have h6 : x.p.size ≤ 16 := by rw [h5]; unfold HV.pw; split <;> omega
    clear hk h5
    obtain ⟨h, e, r, p⟩ := x
    simp only at *
    obtain ⟨b, hb⟩ : ∃ b, UInt8.ofNat h.toNat = b := ⟨_, rfl⟩
    obtain ⟨c, hc⟩ : ∃ c, UInt8.ofNat e.toNat = c := ⟨_, rfl⟩
    have kb : h = (b.toNat : Int) := by rw [← hb]; exact byte_int h _ (by omega) (by omega)
    have kc : e = (c.toNat : Int) := by rw [← hc]; exact byte_int e _ (by omega) (by omega)
    rw [hb, hc]
    clear hb hc
    subst kb
    subst kc
    have HB : Hid (Below w.heap.size w (w.alloc (.cells #[.int .i64 (b.toNat : Int), .int .i64 (c.toNat : Int), .string r, .string p] 56))) := (Below.refl _ _).alloc (Nat.le_refl _) _
    have HS : w.heap.size ≤ (w.alloc (.cells #[.int .i64 (b.toNat : Int), .int .i64 (c.toNat : Int), .string r, .string p] 56)).heap.size := HB.out.size
    have HZ : Hid ((w.alloc (.cells #[.int .i64 (b.toNat : Int), .int .i64 (c.toNat : Int), .string r, .string p] 56)).rangeAt w.heap.size 0 [.int .i64 (b.toNat : Int), .int .i64 (c.toNat : Int), .string r, .string p]) := range_new w [.int .i64 (b.toNat : Int), .int .i64 (c.toNat : Int), .string r, .string p] _
    have HL : w.heap.size < (w.alloc (.cells #[.int .i64 (b.toNat : Int), .int .i64 (c.toNat : Int), .string r, .string p] 56)).heap.size := by simp
    go_enter Tryd.func115, Tryd.ntmps115
    go_wp2_with fail
    refine (HC.out _).mono ?_
    rintro e1 w1 ⟨rfl, hb1⟩
    have HB1 := HB.out.trans (hb1.mono HS)
    have HR := range_kept HZ.out (hb1.block _ HL)
    have z0 : w1.cell? ⟨w.heap.size, 0, none⟩ = some (.int .i64 (b.toNat : Int)) := HR 0 _ rfl
    have z1 : w1.cell? ⟨w.heap.size, 1, none⟩ = some (.int .i64 (c.toNat : Int)) := HR 1 _ rfl
    have z2 : w1.cell? ⟨w.heap.size, 2, none⟩ = some (.string r) := HR 2 _ rfl
    have z3 : w1.cell? ⟨w.heap.size, 3, none⟩ = some (.string p) := HR 3 _ rfl
    have HLT : w.heap.size < w1.heap.size := lt_of_cell z0
    have z2' : (w1.alloc (.cells #[.int .u8 (b.toNat : Int), .int .u8 (c.toNat : Int)] 5)).cell? ⟨w.heap.size, 2, none⟩ = some (.string r) := (cell_kept (Below.heap_alloc _ _ _ HLT)).trans z2
    have z3' : (w1.alloc (.cells #[.int .u8 (b.toNat : Int), .int .u8 (c.toNat : Int)] 5)).cell? ⟨w.heap.size, 3, none⟩ = some (.string p) := (cell_kept (Below.heap_alloc _ _ _ HLT)).trans z3
    have t2 := two_str w1 b c
    have s2 : (⟨#[b, c]⟩ : ByteArray).size = 2 := rfl
    have HB2 : Hid (Below w.heap.size w (w1.alloc (.cells #[.int .u8 (b.toNat : Int), .int .u8 (c.toNat : Int)] 5))) := HB1.alloc HB1.size _
    have HT : Hid (b2T b c r p = ⟨#[b, c]⟩ ++ r ++ p) := rfl
    clear HR HZ hb1 HC HB
    generalize hS : (⟨#[b, c]⟩ : ByteArray) = S2 at *
    clear hS
    go_wp2
    go_ret2
    rw [HT.out]
    exact ⟨rfl, HB2.out⟩

set_option maxRecDepth 100000 in
set_option maxHeartbeats 1000000 in
theorem sHeadText_any (x : Hd) (w : World) : Calls Tryd.prog 119 #[.agg #[.int .i64 x.h, .int .i64 x.e, .string x.r, .string x.p]] w fun e w' => e = .returned (.tuple #[.string (HV.textH x), .bool (HV.okH x)]) ∧ Below w.heap.size w w' := by
  have HC : Hid (∀ W, Calls Tryd.prog 130 #[.agg #[.int .i64 x.h, .int .i64 x.e, .string x.r, .string x.p]] W fun e w' => e = .returned (.bool (HV.okH x)) ∧ Below W.heap.size W w') := fun W => sHeadOk_any x W
  unfold HV.textH
  cases hk : HV.okH x
  · rw [hk] at HC
    obtain ⟨h, e, r, p⟩ := x
    clear hk
    have HB : Hid (Below w.heap.size w (w.alloc (.cells #[.int .i64 h, .int .i64 e, .string r, .string p] 56))) := (Below.refl _ _).alloc (Nat.le_refl _) _
    have HS : w.heap.size ≤ (w.alloc (.cells #[.int .i64 h, .int .i64 e, .string r, .string p] 56)).heap.size := HB.out.size
    rw [if_neg (by simp)]
    go_enter Tryd.func119, Tryd.ntmps119
    go_wp2_with fail
    refine (HC.out _).mono ?_
    rintro e1 w1 ⟨rfl, hb1⟩
    have HB1 := HB.out.trans (hb1.mono HS)
    clear hb1
    go_wp2
    go_ret2
    exact ⟨rfl, HB1⟩
  · rw [hk] at HC
    rw [if_pos rfl, HV.txtH_b2]
    obtain ⟨⟨h0, h1⟩, ⟨h2, h3⟩, h4, h5⟩ := HV.okH_iff.1 hk
    have h6 : x.p.size ≤ 16 := by rw [h5]; unfold HV.pw; split <;> omega
    clear hk h5
    obtain ⟨h, e, r, p⟩ := x
    simp only at *
    obtain ⟨b, hb⟩ : ∃ b, UInt8.ofNat h.toNat = b := ⟨_, rfl⟩
    obtain ⟨c, hc⟩ : ∃ c, UInt8.ofNat e.toNat = c := ⟨_, rfl⟩
    have kb : h = (b.toNat : Int) := by rw [← hb]; exact byte_int h _ (by omega) (by omega)
    have kc : e = (c.toNat : Int) := by rw [← hc]; exact byte_int e _ (by omega) (by omega)
    rw [hb, hc]
    clear hb hc
    subst kb
    subst kc
    have HB : Hid (Below w.heap.size w (w.alloc (.cells #[.int .i64 (b.toNat : Int), .int .i64 (c.toNat : Int), .string r, .string p] 56))) := (Below.refl _ _).alloc (Nat.le_refl _) _
    have HS : w.heap.size ≤ (w.alloc (.cells #[.int .i64 (b.toNat : Int), .int .i64 (c.toNat : Int), .string r, .string p] 56)).heap.size := HB.out.size
    have HZ : Hid ((w.alloc (.cells #[.int .i64 (b.toNat : Int), .int .i64 (c.toNat : Int), .string r, .string p] 56)).rangeAt w.heap.size 0 [.int .i64 (b.toNat : Int), .int .i64 (c.toNat : Int), .string r, .string p]) := range_new w [.int .i64 (b.toNat : Int), .int .i64 (c.toNat : Int), .string r, .string p] _
    have HL : w.heap.size < (w.alloc (.cells #[.int .i64 (b.toNat : Int), .int .i64 (c.toNat : Int), .string r, .string p] 56)).heap.size := by simp
    go_enter Tryd.func119, Tryd.ntmps119
    go_wp2_with fail
    refine (HC.out _).mono ?_
    rintro e1 w1 ⟨rfl, hb1⟩
    have HB1 := HB.out.trans (hb1.mono HS)
    have HR := range_kept HZ.out (hb1.block _ HL)
    have z0 : w1.cell? ⟨w.heap.size, 0, none⟩ = some (.int .i64 (b.toNat : Int)) := HR 0 _ rfl
    have z1 : w1.cell? ⟨w.heap.size, 1, none⟩ = some (.int .i64 (c.toNat : Int)) := HR 1 _ rfl
    have z2 : w1.cell? ⟨w.heap.size, 2, none⟩ = some (.string r) := HR 2 _ rfl
    have z3 : w1.cell? ⟨w.heap.size, 3, none⟩ = some (.string p) := HR 3 _ rfl
    have HLT : w.heap.size < w1.heap.size := lt_of_cell z0
    have z2' : (w1.alloc (.cells #[.int .u8 (b.toNat : Int), .int .u8 (c.toNat : Int)] 5)).cell? ⟨w.heap.size, 2, none⟩ = some (.string r) := (cell_kept (Below.heap_alloc _ _ _ HLT)).trans z2
    have z3' : (w1.alloc (.cells #[.int .u8 (b.toNat : Int), .int .u8 (c.toNat : Int)] 5)).cell? ⟨w.heap.size, 3, none⟩ = some (.string p) := (cell_kept (Below.heap_alloc _ _ _ HLT)).trans z3
    have t2 := two_str w1 b c
    have s2 : (⟨#[b, c]⟩ : ByteArray).size = 2 := rfl
    have HB2 : Hid (Below w.heap.size w (w1.alloc (.cells #[.int .u8 (b.toNat : Int), .int .u8 (c.toNat : Int)] 5))) := HB1.alloc HB1.size _
    have HT : Hid (b2T b c r p = ⟨#[b, c]⟩ ++ r ++ p) := rfl
    clear HR HZ hb1 HC HB
    generalize hS : (⟨#[b, c]⟩ : ByteArray) = S2 at *
    clear hS
    go_wp2
    go_ret2
    rw [HT.out]
    exact ⟨rfl, HB2.out⟩

end Go.Proofs.YtmfoliocibjdnaaDoor
/-
  A head read from its text: the program's and the specification's answers.
-/
namespace Go.Proofs.YtmfoliocibjdnaaDoor
open Go.RowKit Go.BigFrame Go.Sort
set_option linter.unusedVariables false
set_option linter.unusedSimpArgs false

set_option maxRecDepth 100000 in
set_option maxHeartbeats 1000000 in
theorem copiedH_any (x : Hd) (w : World) (hr : x.r.size ≤ 1048576) (hp : x.p.size ≤ 1048576) : Calls Tryd.prog 134 #[.agg #[.int .i64 x.h, .int .i64 x.e, .string x.r, .string x.p]] w fun e w' => e = .returned (.agg #[.int .i64 x.h, .int .i64 x.e, .string x.r, .string x.p]) ∧ Below w.heap.size w w' := by
  obtain ⟨h, e, r, p⟩ := x
  simp only at hr hp ⊢
  have hb0 : Below w.heap.size w ((w.alloc (.cells #[.int .i64 h, .int .i64 e, .string r, .string p] 56)).alloc (.cells #[.int .i64 0, .int .i64 0, .string ⟨#[]⟩, .string ⟨#[]⟩] 56)) := ((Below.refl _ _).alloc (Nat.le_refl _) _).alloc (by simp) _
  have hG1 : BH ((w.alloc (.cells #[.int .i64 h, .int .i64 e, .string r, .string p] 56)).alloc (.cells #[.int .i64 0, .int .i64 0, .string ⟨#[]⟩, .string ⟨#[]⟩] 56)) w.heap.size ⟨h, e, r, p⟩ := alloc_snd _ _ _ rfl
  have hG2 : BH ((w.alloc (.cells #[.int .i64 h, .int .i64 e, .string r, .string p] 56)).alloc (.cells #[.int .i64 0, .int .i64 0, .string ⟨#[]⟩, .string ⟨#[]⟩] 56)) (w.heap.size + 1) ⟨0, 0, ⟨#[]⟩, ⟨#[]⟩⟩ := alloc_fst _ _ (by simp)
  have hs0 : ((w.alloc (.cells #[.int .i64 h, .int .i64 e, .string r, .string p] 56)).alloc (.cells #[.int .i64 0, .int .i64 0, .string ⟨#[]⟩, .string ⟨#[]⟩] 56)).heap.size = w.heap.size + 2 := by simp
  have HK : Hid (∀ W, Below ((w.alloc (.cells #[.int .i64 h, .int .i64 e, .string r, .string p] 56)).alloc (.cells #[.int .i64 0, .int .i64 0, .string ⟨#[]⟩, .string ⟨#[]⟩] 56)).heap.size ((w.alloc (.cells #[.int .i64 h, .int .i64 e, .string r, .string p] 56)).alloc (.cells #[.int .i64 0, .int .i64 0, .string ⟨#[]⟩, .string ⟨#[]⟩] 56)) W → W.cell? ⟨w.heap.size, 2, none⟩ = some (.string r) ∧ W.cell? ⟨w.heap.size, 3, none⟩ = some (.string p)) := fun W hW => ⟨(hG1.later hW).c2, (hG1.later hW).c3⟩
  have HK1 : Hid (∀ W, Below ((w.alloc (.cells #[.int .i64 h, .int .i64 e, .string r, .string p] 56)).alloc (.cells #[.int .i64 0, .int .i64 0, .string ⟨#[]⟩, .string ⟨#[]⟩] 56)).heap.size ((w.alloc (.cells #[.int .i64 h, .int .i64 e, .string r, .string p] 56)).alloc (.cells #[.int .i64 0, .int .i64 0, .string ⟨#[]⟩, .string ⟨#[]⟩] 56)) W → BH W w.heap.size ⟨h, e, r, p⟩ ∧ BH W (w.heap.size + 1) ⟨0, 0, ⟨#[]⟩, ⟨#[]⟩⟩) := fun W hW => ⟨hG1.later hW, hG2.later hW⟩
  have HB0 : Hid (Below w.heap.size w ((w.alloc (.cells #[.int .i64 h, .int .i64 e, .string r, .string p] 56)).alloc (.cells #[.int .i64 0, .int .i64 0, .string ⟨#[]⟩, .string ⟨#[]⟩] 56)) ∧ w.heap.size ≤ ((w.alloc (.cells #[.int .i64 h, .int .i64 e, .string r, .string p] 56)).alloc (.cells #[.int .i64 0, .int .i64 0, .string ⟨#[]⟩, .string ⟨#[]⟩] 56)).heap.size) := ⟨hb0, by rw [hs0]; omega⟩
  have HKS : Hid (∀ W, BH W w.heap.size ⟨h, e, r, p⟩ → (W.setCell ⟨w.heap.size, 2, none⟩ (.string r)).cell? ⟨w.heap.size, 2, none⟩ = some (.string r) ∧ (W.setCell ⟨w.heap.size, 2, none⟩ (.string r)).cell? ⟨w.heap.size, 3, none⟩ = some (.string p)) := fun W hW => ⟨(hW.set2 r).c2, (hW.set2 r).c3⟩
  have HKT : Hid (∀ W, BH W w.heap.size ⟨h, e, r, p⟩ → ((W.setCell ⟨w.heap.size, 2, none⟩ (.string r)).setCell ⟨w.heap.size, 3, none⟩ (.string p)).cell? ⟨w.heap.size, 2, none⟩ = some (.string r) ∧ ((W.setCell ⟨w.heap.size, 2, none⟩ (.string r)).setCell ⟨w.heap.size, 3, none⟩ (.string p)).cell? ⟨w.heap.size, 3, none⟩ = some (.string p)) := fun W hW => ⟨((hW.set2 r).set3 p).c2, ((hW.set2 r).set3 p).c3⟩
  have hb : Below ((w.alloc (.cells #[.int .i64 h, .int .i64 e, .string r, .string p] 56)).alloc (.cells #[.int .i64 0, .int .i64 0, .string ⟨#[]⟩, .string ⟨#[]⟩] 56)).heap.size ((w.alloc (.cells #[.int .i64 h, .int .i64 e, .string r, .string p] 56)).alloc (.cells #[.int .i64 0, .int .i64 0, .string ⟨#[]⟩, .string ⟨#[]⟩] 56)) ((w.alloc (.cells #[.int .i64 h, .int .i64 e, .string r, .string p] 56)).alloc (.cells #[.int .i64 0, .int .i64 0, .string ⟨#[]⟩, .string ⟨#[]⟩] 56)).drew := (Below.refl _ _).drew
  clear hb0 hG1 hG2 hs0
  go_enter Tryd.func134, Tryd.ntmps134
  go_wp2
  go_region_held3 (fun W => W.cell? ⟨w.heap.size, 2, none⟩ = some (.string r) ∧ W.cell? ⟨w.heap.size, 3, none⟩ = some (.string p)) (first | (go_keep; done) | exact HK.out _ hb | exact HKS.out _ (HK1.out _ hb).1 | exact HKT.out _ (HK1.out _ hb).1) ((go_at_call 141; refine (Clone_any _ _ (by first | exact hr | exact hp)).mono ?_; rintro e1 w1 ⟨rfl, hb1'⟩; have hb := hb.trans (hb1'.mono hb.size); have t2 := (HK1.out _ hb).1.c2; have t3 := (HK1.out _ hb).1.c3; have g2 := (HK1.out _ hb).1.fz 2; have g3 := (HK1.out _ hb).1.fz 3; have t4 := ((HK1.out _ hb).1.set2 r).c3; have g4 := ((HK1.out _ hb).1.set2 r).fz 3))
  have HF : Hid (BH ((w1.setCell ⟨w.heap.size, 2, none⟩ (.string r)).setCell ⟨w.heap.size, 3, none⟩ (.string p)) w.heap.size ⟨h, e, r, p⟩ ∧ BH ((w1.setCell ⟨w.heap.size, 2, none⟩ (.string r)).setCell ⟨w.heap.size, 3, none⟩ (.string p)) (w.heap.size + 1) ⟨0, 0, ⟨#[]⟩, ⟨#[]⟩⟩ ∧ Below w.heap.size w ((w1.setCell ⟨w.heap.size, 2, none⟩ (.string r)).setCell ⟨w.heap.size, 3, none⟩ (.string p))) :=
    ⟨((HK1.out _ hb).1.set2 r).set3 p, ((HK1.out _ hb).2.grown (grown_setC _ _ _ _) (by simp)).grown (grown_setC _ _ _ _) (by simp), ((HB0.out.1.trans (hb.mono HB0.out.2)).setCell (p := ⟨w.heap.size, 2, none⟩) (Nat.le_refl _) _).setCell (p := ⟨w.heap.size, 3, none⟩) (Nat.le_refl _) _⟩
  clear t2 t3 t4 g2 g3 g4 HK HK1 HB0 HKS HKT
  generalize (w1.setCell ⟨w.heap.size, 2, none⟩ (.string r)).setCell ⟨w.heap.size, 3, none⟩ (.string p) = W2 at *
  have z0 := HF.out.1.c0
  have z1 := HF.out.1.c1
  have z2 := HF.out.1.c2
  have z3 := HF.out.1.c3
  have y0 := HF.out.2.1.c0
  have y1 := HF.out.2.1.c1
  have y2 := HF.out.2.1.c2
  have y3 := HF.out.2.1.c3
  have f0 := HF.out.2.1.fz 0
  have f1 := HF.out.2.1.fz 1
  have f2 := HF.out.2.1.fz 2
  have f3 := HF.out.2.1.fz 3
  simp only at z0 z1 z2 z3 y0 y1 y2 y3
  have HE : Hid (BH (W2.setCells (w.heap.size + 1) 0 (hcs ⟨h, e, r, p⟩)) (w.heap.size + 1) ⟨h, e, r, p⟩ ∧ Below w.heap.size w (W2.setCells (w.heap.size + 1) 0 (hcs ⟨h, e, r, p⟩))) := ⟨HF.out.2.1.put _, below_setCells (by omega) _ _ _ HF.out.2.2⟩
  clear HF
  go_wp2
  exact ret_hd 2 (w.heap.size + 1) ⟨h, e, r, p⟩ rfl rfl rfl HE.out.1 ⟨rfl, HE.out.2⟩

namespace HV
def bt (d : ByteArray) (i : Nat) : UInt8 := d.data.toList.getD i 0
def rdH (t : ByteArray) : Hd := ⟨((bt t 0).toNat : Int), ((bt t 1).toNat : Int), t.extract 2 18, t.extract 18 t.size⟩
def rdOk (t : ByteArray) : Bool := decide (18 ≤ t.size) && okH (rdH t)
/-- what is read of a text: a head, or the zero one -/
def rdA (t : ByteArray) : Hd := if rdOk t = true then rdH t else ⟨0, 0, ⟨#[]⟩, ⟨#[]⟩⟩
end HV
theorem run_bt (d : ByteArray) (x : Int) (i : Nat) (hx : x = (i : Int)) (h : i < d.size) (w : World) : (Instr.index 9 (.string d) (.int .i64 x)).run Tryd.prog w = .ok (.int .u8 ((HV.bt d i).toNat : Int)) w := by
  subst hx
  rw [run_index_string (P := Tryd.prog) (w := w) 9 d .i64 _ Tryd.underlying9, dif_pos ⟨by omega, by omega⟩]
  have e : HV.bt d i = d[i] := by
    unfold HV.bt
    have : i < d.data.toList.length := by rw [Array.length_toList]; exact h
    rw [List.getD_eq_getElem?_getD, List.getElem?_eq_getElem this]
    simp
    rfl
  rw [e]
  simp
theorem run_cutH (b : ByteArray) (x y : Int) (i j : Nat) (hx : x = (i : Int)) (hy : y = (j : Int)) (hij : i ≤ j) (hj : j ≤ b.size) (W : World) : (Instr.slice 9 (.string b) (some (.int .i64 x)) (some (.int .i64 y)) none).run Tryd.prog W = .ok (.string (b.extract i j)) W := by
  subst hx
  subst hy
  rw [run_slice_string W 9 b .i64 .i64 _ _ Tryd.underlying9 (by omega) (by omega) (by omega)]
  simp
theorem run_endH (b : ByteArray) (x : Int) (i : Nat) (hx : x = (i : Int)) (hi : i ≤ b.size) (W : World) : (Instr.slice 9 (.string b) (some (.int .i64 x)) none none).run Tryd.prog W = .ok (.string (b.extract i b.size)) W := by
  rw [run_slice_string_from_if (P := Tryd.prog) (w := W) 9 b .i64 _ Tryd.underlying9, if_pos (by omega)]
  subst hx
  simp

set_option maxRecDepth 100000 in
set_option maxHeartbeats 1000000 in
theorem ReadHead_any (t : ByteArray) (w : World) (ht : t.size ≤ 1048576) : Calls Tryd.prog 118 #[.string t] w fun e w' => e = .returned (.tuple #[.agg #[.int .i64 (HV.rdA t).h, .int .i64 (HV.rdA t).e, .string (HV.rdA t).r, .string (HV.rdA t).p], .bool (HV.rdOk t)]) ∧ Below w.heap.size w w' := by
  have HB : Hid (Below w.heap.size w (w.alloc (.cells #[.int .i64 0, .int .i64 0, .string ⟨#[]⟩, .string ⟨#[]⟩] 56))) := (Below.refl _ _).alloc (Nat.le_refl _) _
  by_cases h18 : 18 ≤ t.size
  · have q : ¬ (t.size : Int) < 18 := by omega
    have HC : Hid (∀ W, Calls Tryd.prog 121 #[.agg #[.int .i64 (HV.rdH t).h, .int .i64 (HV.rdH t).e, .string (HV.rdH t).r, .string (HV.rdH t).p]] W fun e w' => e = .returned (.bool (HV.okH (HV.rdH t))) ∧ Below W.heap.size W w') := fun W => HeadOk_any _ W
    have hsz : (HV.rdH t).r.size ≤ 1048576 ∧ (HV.rdH t).p.size ≤ 1048576 := by
      unfold HV.rdH
      simp only [ByteArray.size_extract]
      omega
    have HCC : Hid (∀ W, Calls Tryd.prog 134 #[.agg #[.int .i64 (HV.rdH t).h, .int .i64 (HV.rdH t).e, .string (HV.rdH t).r, .string (HV.rdH t).p]] W fun e w' => e = .returned (.agg #[.int .i64 (HV.rdH t).h, .int .i64 (HV.rdH t).e, .string (HV.rdH t).r, .string (HV.rdH t).p]) ∧ Below W.heap.size W w') := fun W => copiedH_any _ W hsz.1 hsz.2
    clear hsz
    have k0 := run_bt t 0 0 rfl (by omega)
    have k1 := run_bt t 1 1 rfl (by omega)
    have k2 := run_cutH t 2 18 2 18 rfl rfl (by omega) (by omega)
    have k3 := run_endH t 18 18 rfl (by omega)
    unfold HV.rdA
    have HRD : Hid (HV.rdOk t = HV.okH (HV.rdH t)) := by
      show HV.rdOk t = _
      unfold HV.rdOk
      rw [decide_eq_true h18, Bool.true_and]
    rw [HRD.out]
    clear HRD h18
    generalize HV.okH (HV.rdH t) = b at *
    unfold HV.rdH at *
    simp only at *
    generalize HV.bt t 0 = B0 at *
    generalize HV.bt t 1 = B1 at *
    generalize t.extract 2 18 = R at *
    generalize t.extract 18 t.size = P at *
    have HW1 : Hid (∀ n, BH (((w.alloc (.cells #[.int .i64 0, .int .i64 0, .string ⟨#[]⟩, .string ⟨#[]⟩] 56)).drewN n).alloc (.cells #[.int .i64 (B0.toNat : Int), .int .i64 (B1.toNat : Int), .string R, .string P] 56)) w.heap.size ⟨0, 0, ⟨#[]⟩, ⟨#[]⟩⟩ ∧ BH (((w.alloc (.cells #[.int .i64 0, .int .i64 0, .string ⟨#[]⟩, .string ⟨#[]⟩] 56)).drewN n).alloc (.cells #[.int .i64 (B0.toNat : Int), .int .i64 (B1.toNat : Int), .string R, .string P] 56)) (w.heap.size + 1) ⟨(B0.toNat : Int), (B1.toNat : Int), R, P⟩ ∧ Below w.heap.size w (((w.alloc (.cells #[.int .i64 0, .int .i64 0, .string ⟨#[]⟩, .string ⟨#[]⟩] 56)).drewN n).alloc (.cells #[.int .i64 (B0.toNat : Int), .int .i64 (B1.toNat : Int), .string R, .string P] 56))) := fun n => ⟨((BH.new w ⟨0, 0, ⟨#[]⟩, ⟨#[]⟩⟩).later (below_drnH (Below.refl _ _) n)).later ((Below.refl _ _).alloc (Nat.le_refl _) _), alloc_fst _ _ (by simp), (below_drnH HB.out n).alloc (by simp) _⟩
    have e0 : wrap64 (B0.toNat : Int) = (B0.toNat : Int) := by have := B0.toNat_lt; unfold wrap64; omega
    have e1 : wrap64 (B1.toNat : Int) = (B1.toNat : Int) := by have := B1.toNat_lt; unfold wrap64; omega
    clear HB
    cases b
    · rw [if_neg (by simp)]
      go_enter Tryd.func118, Tryd.ntmps118
      go_wp2_with fail
      go_quiet (fail)
      go_wp2_with fail
      go_region
      simp only [e0, e1]
      have HX := HW1.out (nq + 1)
      generalize (((w.alloc (.cells #[.int .i64 0, .int .i64 0, .string ⟨#[]⟩, .string ⟨#[]⟩] 56)).drewN (nq + 1)).alloc (.cells #[.int .i64 (B0.toNat : Int), .int .i64 (B1.toNat : Int), .string R, .string P] 56)) = W1 at *
      clear HW1 e0 e1 k0 k1 k2 k3
      have HXX : Hid (BH W1 w.heap.size ⟨0, 0, ⟨#[]⟩, ⟨#[]⟩⟩ ∧ BH W1 (w.heap.size + 1) ⟨(B0.toNat : Int), (B1.toNat : Int), R, P⟩ ∧ Below w.heap.size w W1) := HX
      have z0 := HX.2.1.c0
      have z1 := HX.2.1.c1
      have z2 := HX.2.1.c2
      have z3 := HX.2.1.c3
      simp only at z0 z1 z2 z3
      clear HX
      go_wp2_with fail
      refine (HC.out _).mono ?_
      rintro e2 w2 ⟨rfl, hb2⟩
      have HY : Hid (BH w2 w.heap.size ⟨0, 0, ⟨#[]⟩, ⟨#[]⟩⟩ ∧ BH w2 (w.heap.size + 1) ⟨(B0.toNat : Int), (B1.toNat : Int), R, P⟩ ∧ Below w.heap.size w w2) := ⟨HXX.out.1.later hb2, HXX.out.2.1.later hb2, HXX.out.2.2.trans (hb2.mono HXX.out.2.2.size)⟩
      clear HC HXX hb2 z0 z1 z2 z3
      have y0 := HY.out.1.c0
      have y1 := HY.out.1.c1
      have y2 := HY.out.1.c2
      have y3 := HY.out.1.c3
      simp only at y0 y1 y2 y3
      have f0 := HY.out.1.fz 0
      have f1 := HY.out.1.fz 1
      have f2 := HY.out.1.fz 2
      have f3 := HY.out.1.fz 3
      have HE : Hid (BH (w2.setCells w.heap.size 0 (hcs ⟨0, 0, ⟨#[]⟩, ⟨#[]⟩⟩)) w.heap.size ⟨0, 0, ⟨#[]⟩, ⟨#[]⟩⟩ ∧ Below w.heap.size w (w2.setCells w.heap.size 0 (hcs ⟨0, 0, ⟨#[]⟩, ⟨#[]⟩⟩))) := ⟨HY.out.1.put _, below_setCells (Nat.le_refl _) _ _ _ HY.out.2.2⟩
      clear HY
      go_wp2
      exact ret_hd2 2 3 w.heap.size ⟨0, 0, ⟨#[]⟩, ⟨#[]⟩⟩ _ rfl rfl rfl rfl HE.out.1 ⟨rfl, HE.out.2⟩
    · rw [if_pos rfl]
      go_enter Tryd.func118, Tryd.ntmps118
      go_wp2_with fail
      go_quiet (fail)
      go_wp2_with fail
      go_region
      simp only [e0, e1]
      have HX := HW1.out (nq + 1)
      generalize (((w.alloc (.cells #[.int .i64 0, .int .i64 0, .string ⟨#[]⟩, .string ⟨#[]⟩] 56)).drewN (nq + 1)).alloc (.cells #[.int .i64 (B0.toNat : Int), .int .i64 (B1.toNat : Int), .string R, .string P] 56)) = W1 at *
      clear HW1 e0 e1 k0 k1 k2 k3
      have HXX : Hid (BH W1 w.heap.size ⟨0, 0, ⟨#[]⟩, ⟨#[]⟩⟩ ∧ BH W1 (w.heap.size + 1) ⟨(B0.toNat : Int), (B1.toNat : Int), R, P⟩ ∧ Below w.heap.size w W1) := HX
      have z0 := HX.2.1.c0
      have z1 := HX.2.1.c1
      have z2 := HX.2.1.c2
      have z3 := HX.2.1.c3
      simp only at z0 z1 z2 z3
      clear HX
      go_wp2_with fail
      refine (HC.out _).mono ?_
      rintro e2 w2 ⟨rfl, hb2⟩
      have HY : Hid (BH w2 w.heap.size ⟨0, 0, ⟨#[]⟩, ⟨#[]⟩⟩ ∧ BH w2 (w.heap.size + 1) ⟨(B0.toNat : Int), (B1.toNat : Int), R, P⟩ ∧ Below w.heap.size w w2) := ⟨HXX.out.1.later hb2, HXX.out.2.1.later hb2, HXX.out.2.2.trans (hb2.mono HXX.out.2.2.size)⟩
      clear HC HXX hb2 z0 z1 z2 z3
      have z0 := HY.out.2.1.c0
      have z1 := HY.out.2.1.c1
      have z2 := HY.out.2.1.c2
      have z3 := HY.out.2.1.c3
      simp only at z0 z1 z2 z3
      go_wp2_with fail
      refine (HCC.out _).mono ?_
      rintro e3 w3 ⟨rfl, hb3⟩
      have HY3 : Hid (BH w3 w.heap.size ⟨0, 0, ⟨#[]⟩, ⟨#[]⟩⟩ ∧ BH w3 (w.heap.size + 1) ⟨(B0.toNat : Int), (B1.toNat : Int), R, P⟩ ∧ Below w.heap.size w w3) := ⟨HY.out.1.later hb3, HY.out.2.1.later hb3, HY.out.2.2.trans (hb3.mono HY.out.2.2.size)⟩
      clear hb3 HCC z0 z1 z2 z3 HY
      have y0 := HY3.out.1.c0
      have y1 := HY3.out.1.c1
      have y2 := HY3.out.1.c2
      have y3 := HY3.out.1.c3
      simp only at y0 y1 y2 y3
      have f0 := HY3.out.1.fz 0
      have f1 := HY3.out.1.fz 1
      have f2 := HY3.out.1.fz 2
      have f3 := HY3.out.1.fz 3
      have HE : Hid (BH (w3.setCells w.heap.size 0 (hcs ⟨(B0.toNat : Int), (B1.toNat : Int), R, P⟩)) w.heap.size ⟨(B0.toNat : Int), (B1.toNat : Int), R, P⟩ ∧ Below w.heap.size w (w3.setCells w.heap.size 0 (hcs ⟨(B0.toNat : Int), (B1.toNat : Int), R, P⟩))) := ⟨HY3.out.1.put _, below_setCells (Nat.le_refl _) _ _ _ HY3.out.2.2⟩
      clear HY3
      go_wp2
      exact ret_hd2 2 3 w.heap.size ⟨(B0.toNat : Int), (B1.toNat : Int), R, P⟩ _ rfl rfl rfl rfl HE.out.1 ⟨rfl, HE.out.2⟩
  · have q : (t.size : Int) < 18 := by omega
    have HRD : Hid (HV.rdOk t = false) := by
      show HV.rdOk t = _
      unfold HV.rdOk
      rw [decide_eq_false h18, Bool.false_and]
    unfold HV.rdA
    rw [HRD.out, if_neg (by simp)]
    have HE : Hid (BH (w.alloc (.cells #[.int .i64 0, .int .i64 0, .string ⟨#[]⟩, .string ⟨#[]⟩] 56)) w.heap.size ⟨0, 0, ⟨#[]⟩, ⟨#[]⟩⟩) := BH.new w ⟨0, 0, ⟨#[]⟩, ⟨#[]⟩⟩
    clear HRD h18
    go_enter Tryd.func118, Tryd.ntmps118
    go_wp2
    exact ret_hd2 2 3 w.heap.size ⟨0, 0, ⟨#[]⟩, ⟨#[]⟩⟩ _ rfl rfl rfl rfl HE.out ⟨rfl, HB.out⟩

end Go.Proofs.YtmfoliocibjdnaaDoor
/-
  The hash of a head: the program's and the specification's answers.
-/
namespace Go.Proofs.YtmfoliocibjdnaaDoor
open Go.RowKit Go.BigFrame Go.Sort
set_option linter.unusedVariables false
set_option linter.unusedSimpArgs false

/-- the hash of a head, when it is right -/
def HV.hashH (x : Hd) : ByteArray := if HV.okH x = true then hashB 4 [HV.txtH x] 16 else ⟨#[]⟩

set_option maxRecDepth 100000 in
set_option maxHeartbeats 1000000 in
theorem HeadHash_any (x : Hd) (w : World) (hT : Tb w) : Calls Tryd.prog 154 #[.agg #[.int .i64 x.h, .int .i64 x.e, .string x.r, .string x.p]] w fun e w' => e = .returned (.string (HV.hashH x)) ∧ Below w.heap.size w w' := by
  have HC : Hid (∀ W, Calls Tryd.prog 115 #[.agg #[.int .i64 x.h, .int .i64 x.e, .string x.r, .string x.p]] W fun e w' => e = .returned (.tuple #[.string (HV.textH x), .bool (HV.okH x)]) ∧ Below W.heap.size W w') := fun W => HeadText_any x W
  have HTB : Hid (Tb w) := hT
  unfold HV.hashH
  unfold HV.textH at HC
  clear hT
  generalize HV.txtH x = t at *
  generalize HV.okH x = b at *
  obtain ⟨h, e, r, p⟩ := x
  have HB : Hid (Below w.heap.size w (w.alloc (.cells #[.int .i64 h, .int .i64 e, .string r, .string p] 56))) := (Below.refl _ _).alloc (Nat.le_refl _) _
  cases b
  · rw [if_neg (by simp)] at HC ⊢
    go_enter Tryd.func154, Tryd.ntmps154
    go_wp2_with fail
    refine (HC.out _).mono ?_
    rintro e1 w1 ⟨rfl, hb1⟩
    have HB1 : Hid (Below w.heap.size w w1) := HB.out.trans (hb1.mono HB.out.size)
    clear HC hb1 HB HTB
    go_wp2
    go_ret
    exact ⟨rfl, HB1.out⟩
  · rw [if_pos rfl] at HC ⊢
    go_enter Tryd.func154, Tryd.ntmps154
    go_wp2_with fail
    refine (HC.out _).mono ?_
    rintro e1 w1 ⟨rfl, hb1⟩
    have HB1 : Hid (Below w.heap.size w w1) := HB.out.trans (hb1.mono HB.out.size)
    have CT := taggedHash_w 16 4 [t] 1 #[.string t] w1 w1.heap.size rfl rfl (by omega) rfl (HTB.out.later HB1.out)
    clear HC hb1 HB HTB
    go_wp2_with fail
    refine CT.out.mono ?_
    rintro e2 w2 ⟨rfl, hb2⟩
    have HB2 : Hid (Below w.heap.size w w2) := HB1.out.trans (hb2.mono HB1.out.size)
    clear CT
    go_wp2
    go_ret
    exact ⟨rfl, HB2.out⟩

set_option maxRecDepth 100000 in
set_option maxHeartbeats 1000000 in
theorem sHeadHash_any (x : Hd) (w : World) : Calls Tryd.prog 50 #[.agg #[.int .i64 x.h, .int .i64 x.e, .string x.r, .string x.p]] w fun e w' => e = .returned (.string (HV.hashH x)) ∧ Below w.heap.size w w' := by
  have HC : Hid (∀ W, Calls Tryd.prog 119 #[.agg #[.int .i64 x.h, .int .i64 x.e, .string x.r, .string x.p]] W fun e w' => e = .returned (.tuple #[.string (HV.textH x), .bool (HV.okH x)]) ∧ Below W.heap.size W w') := fun W => sHeadText_any x W
  unfold HV.hashH
  unfold HV.textH at HC
  generalize HV.txtH x = t at *
  generalize HV.okH x = b at *
  obtain ⟨h, e, r, p⟩ := x
  have HB : Hid (Below w.heap.size w (w.alloc (.cells #[.int .i64 h, .int .i64 e, .string r, .string p] 56))) := (Below.refl _ _).alloc (Nat.le_refl _) _
  cases b
  · rw [if_neg (by simp)] at HC ⊢
    go_enter Tryd.func50, Tryd.ntmps50
    go_wp2_with fail
    refine (HC.out _).mono ?_
    rintro e1 w1 ⟨rfl, hb1⟩
    have HB1 : Hid (Below w.heap.size w w1) := HB.out.trans (hb1.mono HB.out.size)
    clear HC hb1 HB
    go_wp2
    go_ret
    exact ⟨rfl, HB1.out⟩
  · rw [if_pos rfl] at HC ⊢
    go_enter Tryd.func50, Tryd.ntmps50
    go_wp2_with fail
    refine (HC.out _).mono ?_
    rintro e1 w1 ⟨rfl, hb1⟩
    have HB1 : Hid (Below w.heap.size w w1) := HB.out.trans (hb1.mono HB.out.size)
    have CT := sTagHash_w 16 4 [t] 1 #[.string t] w1 w1.heap.size rfl rfl (by omega) rfl
    clear HC hb1 HB
    go_wp2_with fail
    refine CT.out.mono ?_
    rintro e2 w2 ⟨rfl, hb2⟩
    have HB2 : Hid (Below w.heap.size w w2) := HB1.out.trans (hb2.mono HB1.out.size)
    clear CT
    go_wp2
    go_ret
    exact ⟨rfl, HB2.out⟩

end Go.Proofs.YtmfoliocibjdnaaDoor
