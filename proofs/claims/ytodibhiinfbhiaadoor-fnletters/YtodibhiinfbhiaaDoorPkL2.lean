/-
  Texts laid together: Fw, Va, Mathb.
-/
import Derived.Test.YtodibhiinfbhiaaDoorPkL1
import Derived.Test.YtodibhiinfbhiaaDoorPkL0
/-
  What the laws' own helpers do with files and disks: taken over, compared, weighed.
-/
namespace Go.Proofs.YtodibhiinfbhiaaDoor
open Go.RowKit Go.BigFrame Go.Sort
set_option linter.unusedVariables false
set_option linter.unusedSimpArgs false

section
variable {fn : Func} {Rp : Ending → World → Prop} {a : Act} {w : World}
/-- a record answered out of its block -/
theorem ret_rec (c g T : Nat) (cs : List Value) (d : TypeDesc) (hres : fn.results = #[.cell c T]) (hd : a.defers = []) (hp : a.tmps.getD c undef = .pointer (some ⟨g, 0, none⟩))
    (hu : Tryd.prog.underlying T = some d) (hrow : d.isRow = true) (hi : (Tryd.prog.info? T).map (·.size) = some cs.length) (hA : w.rangeAt g 0 cs) (h : Rp (.returned (.agg cs.toArray)) w) : bodyPost Tryd.prog fn Rp .ret a w := by
  have hr := run_loadVar_mid (P := Tryd.prog) w g 0 T cs d hA hu hrow hi
  refine bodyPost_ret (v := .agg cs.toArray) ?_ hd h
  have hp' : a.tmps[c]?.getD undef = .pointer (some ⟨g, 0, none⟩) := by simpa using hp
  simp [results, hres, asAddr, hr, hp']
/-- .. and something beside it -/
theorem ret_rec2 (c s g T : Nat) (cs : List Value) (b : Value) (d : TypeDesc) (hres : fn.results = #[.cell c T, .tmp s]) (hd : a.defers = []) (hp : a.tmps.getD c undef = .pointer (some ⟨g, 0, none⟩)) (hb : a.tmps.getD s undef = b)
    (hu : Tryd.prog.underlying T = some d) (hrow : d.isRow = true) (hi : (Tryd.prog.info? T).map (·.size) = some cs.length) (hA : w.rangeAt g 0 cs) (h : Rp (.returned (.tuple #[.agg cs.toArray, b])) w) : bodyPost Tryd.prog fn Rp .ret a w := by
  have hr := run_loadVar_mid (P := Tryd.prog) w g 0 T cs d hA hu hrow hi
  refine bodyPost_ret (v := .tuple #[.agg cs.toArray, b]) ?_ hd h
  have hp' : a.tmps[c]?.getD undef = .pointer (some ⟨g, 0, none⟩) := by simpa using hp
  have hb' : a.tmps[s]?.getD undef = b := by simpa using hb
  simp [results, hres, asAddr, hr, hp', hb']
end

theorem range1 {w : World} {g o : Nat} {u : Value} (h : w.cell? ⟨g, o, none⟩ = some u) : w.rangeAt g o [u] := fun j v hv => by
  match j, hv with
  | 0, hv => simp at hv; subst hv; exact h
theorem range3 {w : World} {g o : Nat} {u1 u2 u3 : Value} (h1 : w.cell? ⟨g, o, none⟩ = some u1) (h2 : w.cell? ⟨g, o + 1, none⟩ = some u2) (h3 : w.cell? ⟨g, o + 2, none⟩ = some u3) : w.rangeAt g o [u1, u2, u3] := fun j v hv => by
  match j, hv with
  | 0, hv => simp at hv; subst hv; exact h1
  | 1, hv => simp at hv; subst hv; exact h2
  | 2, hv => simp at hv; subst hv; exact h3
theorem range_new (W : World) (cs : List Value) (T : Nat) : (W.alloc (.cells cs.toArray T)).rangeAt W.heap.size 0 cs := fun j v hv => by
  rw [cell_of_row _ W.heap.size (0 + j) cs.toArray T (0, 0) (Go.heap_alloc_new W _), Nat.zero_add]
  simpa using hv
theorem range_at {W : World} {g g' o : Nat} {cs : List Value} (e : g = g') (h : W.rangeAt g o cs) : W.rangeAt g' o cs := e ▸ h
theorem size_setCells (b : Nat) : ∀ (vs : List Value) (o : Nat) (w : World), (w.setCells b o vs).heap.size = w.heap.size
  | [], _, _ => rfl
  | v :: r, o, w => by
    rw [World.setCells, size_setCells b r]
    simp
theorem below_setCells {B b : Nat} {w0 : World} (hB : B ≤ b) : ∀ (vs : List Value) (o : Nat) (w : World), Below B w0 w → Below B w0 (w.setCells b o vs)
  | [], _, _, h => h
  | v :: r, o, w, h => below_setCells hB r (o + 1) _ (h.setCell (p := ⟨b, o, none⟩) hB v)
theorem there3 {w : World} {g o : Nat} (h : w.there g o 3) : (∃ u, w.cell? ⟨g, o, none⟩ = some u) ∧ (∃ u, w.cell? ⟨g, o + 1, none⟩ = some u) ∧ (∃ u, w.cell? ⟨g, o + 2, none⟩ = some u) ∧ w.frozen? ⟨g, o, none⟩ = false ∧ w.frozen? ⟨g, o + 1, none⟩ = false ∧ w.frozen? ⟨g, o + 2, none⟩ = false :=
  ⟨Option.isSome_iff_exists.1 (h 0 (by omega)).1, Option.isSome_iff_exists.1 (h 1 (by omega)).1, Option.isSome_iff_exists.1 (h 2 (by omega)).1, (h 0 (by omega)).2, (h 1 (by omega)).2, (h 2 (by omega)).2⟩
theorem grown_setC (w : World) (g j : Nat) (v : Value) : w.grownBy (w.setCell ⟨g, j, none⟩ v) (some g) :=
  ⟨rfl, rfl, rfl, by simp, fun i _ hi => RowKit.Below.heap_setCell _ _ _ _ (fun e => hi (by rw [e]))⟩
theorem alloc_fst (w : World) (o : Obj) {g : Nat} (h : g = w.heap.size) : (w.alloc o).heap[g]? = some o := h ▸ Go.heap_alloc_new w o
theorem alloc_snd (w : World) (o1 o2 : Obj) {g : Nat} (h : g = w.heap.size) : ((w.alloc o1).alloc o2).heap[g]? = some o1 := (Below.heap_alloc _ _ g (by simp; omega)).trans (alloc_fst w o1 h)
theorem cell_set_same {w : World} {g j : Nat} {cs : Array Value} {T : Nat} (h : w.heap[g]? = some (.cells cs T (0, 0))) (hj : j < cs.size) (v : Value) : (w.setCell ⟨g, j, none⟩ v).cell? ⟨g, j, none⟩ = some v := by
  rw [cell_of_row _ g j _ T (0, 0) (heap_setCell_same w g j _ _ _ h)]
  simp [hj]
theorem there_new {W : World} {cs : Array Value} {T n : Nat} (h : cs.size = n * 3) (j : Nat) (hj : j < n) : (W.alloc (.cells cs T)).there W.heap.size (j * 3) 3 := by
  intro i hi
  have hg := Go.heap_alloc_new W (.cells cs T)
  refine ⟨?_, by unfold World.frozen?; simp only [hg]; simp⟩
  rw [cell_of_row _ W.heap.size (j * 3 + i) cs T (0, 0) hg, Array.getElem?_eq_getElem (by omega)]
  rfl
/-- the first m records of a new row are written -/
def ToF (w : World) (l : List Fl) (B g : Nat) (i : Value) (wr : World) : Prop := ∃ m : Nat, m ≤ l.length ∧ i = .int .i64 m ∧ (∀ j (h : j < l.length), j < m → wr.rangeAt g (j * 3) (fcs l[j])) ∧ (∀ j, j < l.length → wr.there g (j * 3) 3) ∧ Below B w wr
theorem ToF.set {w wr : World} {l : List Fl} {g m B : Nat} (hm : m < l.length) (hB : B ≤ g) (h1 : ∀ j (h : j < l.length), j < m → wr.rangeAt g (j * 3) (fcs l[j])) (h2 : ∀ j, j < l.length → wr.there g (j * 3) 3) (h3 : Below B w wr) :
    (∀ j (h : j < l.length), j < m + 1 → (wr.setCells g (m * 3) (fcs l[m])).rangeAt g (j * 3) (fcs l[j])) ∧ (∀ j, j < l.length → (wr.setCells g (m * 3) (fcs l[m])).there g (j * 3) 3) ∧ Below B w (wr.setCells g (m * 3) (fcs l[m])) := by
  refine ⟨fun j hj hlt => ?_, fun j hj => World.there_setCells (h2 j hj) _ _ _, ?_⟩
  · rcases Nat.lt_or_ge j m with h4 | h4
    · exact World.rangeAt_setCells_apart (h1 j hj h4) _ _ _ (.inr (.inl (by rw [fcs_len]; omega)))
    · have : j = m := by omega
      subst this
      exact World.rangeAt_setCells_same _ _ _ _ (h2 j hj)
  · exact below_setCells hB _ _ _ h3

/-- a disk answered: its row may be written, and lies in blocks from B on -/
def DkIn (w : World) (B : Nat) (v : Value) (l : List Fl) : Prop := ∃ s g, v = .agg #[s] ∧ RW 3 fcs w s g l ∧ B ≤ g

def EfR (n : Nat) (w : World) (i : Value) (wr : World) : Prop := ∃ m : Nat, m ≤ n ∧ i = .int .i64 m ∧ Below w.heap.size w wr

/-- a row of files that was handed in, great or small: if it is small, it is l -/
def IsRowF (w : World) (v : Value) (g o : Nat) (l : List Fl) : Prop := ∃ a n cap, v = .slice a n cap ∧ n ≤ 9223372036854775807 ∧ (n ≤ 1100000 → l.length = n ∧ RS 3 fcs w v g o l ∧ ∀ f ∈ l, f.n.size ≤ 9223372036854775807 ∧ f.t.size ≤ 9223372036854775807)
theorem IsRowF.later {w w' : World} {v : Value} {g o : Nat} {l : List Fl} (h : IsRowF w v g o l) (hb : Below w.heap.size w w') : IsRowF w' v g o l := by
  obtain ⟨a, n, cap, hv, hn, hr⟩ := h
  exact ⟨a, n, cap, hv, hn, fun hl => ⟨(hr hl).1, (hr hl).2.1.later hb, (hr hl).2.2⟩⟩
/-- no text of it is great -/
def SmallF (l : List Fl) : Prop := ∀ f ∈ l, f.n.size ≤ 1048576 ∧ f.t.size ≤ 1048576

def SzF (l : List Fl) (x0 : Int) (w : World) (x i : Value) (wr : World) : Prop := ∃ (m : Nat) (y : Int), m ≤ l.length ∧ i = .int .i64 m ∧ x = .int .i64 y ∧ 0 ≤ y ∧ y ≤ x0 ∧ Hid (∀ j (h : j < l.length), j < m → l[j].n.size ≤ 1048576 ∧ l[j].t.size ≤ 1048576) ∧ Below w.heap.size w wr

/-- the box of a disk -/
def BD (W : World) (p T : Nat) (v : Value) : Prop := W.heap[p]? = some (.cells #[v] T (0, 0))
theorem BD.cell {W : World} {p T : Nat} {v : Value} (h : BD W p T v) : W.cell? ⟨p, 0, none⟩ = some v := by rw [cell_of_row W p 0 _ _ (0, 0) h]; rfl
theorem BD.lt {W : World} {p T : Nat} {v : Value} (h : BD W p T v) : p < W.heap.size := (Array.getElem?_eq_some_iff.1 h).1
theorem BD.later {W W' : World} {p T : Nat} {v : Value} (h : BD W p T v) (hb : Below W.heap.size W W') : BD W' p T v := by
  have hlt := h.lt
  unfold BD at *
  rw [hb.block p hlt, h]
theorem BD.grown {W W' : World} {p T : Nat} {v : Value} {row : Option Nat} (h : BD W p T v) (hg : W.grownBy W' row) (hne : some p ≠ row) : BD W' p T v := by
  have hlt := h.lt
  unfold BD at *
  rw [hg.block p hlt hne, h]
theorem BD.new (w : World) (T : Nat) (v : Value) : BD (w.alloc (.cells #[v] T)) w.heap.size T v := Go.heap_alloc_new w _
theorem BD.range {W : World} {p T : Nat} {v : Value} (h : BD W p T v) : W.rangeAt p 0 [v] := range1 h.cell
theorem RS.back {α : Type} {k : Nat} {enc : α → List Value} {w : World} {v : Value} {g o : Nat} {l : List α} (x : Obj) (h : RS k enc (w.alloc x) v g o l) (hg : 0 < l.length → g < w.heap.size) : RS k enc w v g o l := by
  obtain ⟨a, c, hv, hl, h0, hc⟩ := h
  exact ⟨a, c, hv, hl, fun hp => ⟨(h0 hp).1, hg hp⟩, fun j hj => range_kept (hc j hj) (Below.heap_alloc _ _ g (hg (by omega))).symm⟩

end Go.Proofs.YtodibhiinfbhiaaDoor
/-
  A letter as plain words, and in its box.
-/
namespace Go.Proofs.YtodibhiinfbhiaaDoor
open Go.RowKit Go.BigFrame Go.Sort
set_option linter.unusedVariables false
set_option linter.unusedSimpArgs false

structure Ltr where
  k : Int
  f : Int
  t : Int
  e : Int
  y : Int
  r : ByteArray

def kcs (x : Ltr) : List Value := [.int .i64 x.k, .int .i64 x.f, .int .i64 x.t, .int .i64 x.e, .int .i64 x.y, .string x.r]
theorem kcs_len (x : Ltr) : (kcs x).length = 6 := rfl
/-- it lies in its box -/
def BK (W : World) (p : Nat) (x : Ltr) : Prop := W.heap[p]? = some (.cells #[.int .i64 x.k, .int .i64 x.f, .int .i64 x.t, .int .i64 x.e, .int .i64 x.y, .string x.r] 25 (0, 0))
theorem BK.new (w : World) (x : Ltr) : BK (w.alloc (.cells #[.int .i64 x.k, .int .i64 x.f, .int .i64 x.t, .int .i64 x.e, .int .i64 x.y, .string x.r] 25)) w.heap.size x := Go.heap_alloc_new w _
theorem BK.lt {W : World} {p : Nat} {x : Ltr} (h : BK W p x) : p < W.heap.size := (Array.getElem?_eq_some_iff.1 h).1
theorem BK.later {W W' : World} {p : Nat} {x : Ltr} (h : BK W p x) (hb : Below W.heap.size W W') : BK W' p x := (hb.block p h.lt).trans h
theorem BK.grown {W W' : World} {p : Nat} {x : Ltr} {row : Option Nat} (h : BK W p x) (hg : W.grownBy W' row) (hne : some p ≠ row) : BK W' p x := (hg.block p h.lt hne).trans h
theorem BK.range {W : World} {p : Nat} {x : Ltr} (h : BK W p x) : W.rangeAt p 0 (kcs x) := fun j v hv => by
  rw [cell_of_row W p (0 + j) _ _ _ h, Nat.zero_add]
  simpa [kcs] using hv
theorem BK.c0 {W : World} {p : Nat} {x : Ltr} (h : BK W p x) : W.cell? ⟨p, 0, none⟩ = some (.int .i64 x.k) := h.range 0 _ rfl
theorem BK.c1 {W : World} {p : Nat} {x : Ltr} (h : BK W p x) : W.cell? ⟨p, 1, none⟩ = some (.int .i64 x.f) := h.range 1 _ rfl
theorem BK.c2 {W : World} {p : Nat} {x : Ltr} (h : BK W p x) : W.cell? ⟨p, 2, none⟩ = some (.int .i64 x.t) := h.range 2 _ rfl
theorem BK.c3 {W : World} {p : Nat} {x : Ltr} (h : BK W p x) : W.cell? ⟨p, 3, none⟩ = some (.int .i64 x.e) := h.range 3 _ rfl
theorem BK.c4 {W : World} {p : Nat} {x : Ltr} (h : BK W p x) : W.cell? ⟨p, 4, none⟩ = some (.int .i64 x.y) := h.range 4 _ rfl
theorem BK.c5 {W : World} {p : Nat} {x : Ltr} (h : BK W p x) : W.cell? ⟨p, 5, none⟩ = some (.string x.r) := h.range 5 _ rfl
theorem BK.fz {W : World} {p : Nat} {x : Ltr} (h : BK W p x) (j : Nat) : W.frozen? ⟨p, j, none⟩ = false := by simp [World.frozen?, show W.heap[p]? = _ from h]
theorem BK.put {W : World} {p : Nat} {x : Ltr} (h : BK W p x) (y : Ltr) : BK (W.setCells p 0 (kcs y)) p y :=
  heap_setCell_same _ p 5 _ _ _ (heap_setCell_same _ p 4 _ _ _ (heap_setCell_same _ p 3 _ _ _ (heap_setCell_same _ p 2 _ _ _ (heap_setCell_same _ p 1 _ _ _ (heap_setCell_same W p 0 _ _ _ h)))))
theorem BK.set0 {W : World} {p : Nat} {x : Ltr} (h : BK W p x) (y : Int) : BK (W.setCell ⟨p, 0, none⟩ (.int .i64 y)) p ⟨y, x.f, x.t, x.e, x.y, x.r⟩ := heap_setCell_same W p 0 _ _ _ h
theorem BK.set1 {W : World} {p : Nat} {x : Ltr} (h : BK W p x) (y : Int) : BK (W.setCell ⟨p, 1, none⟩ (.int .i64 y)) p ⟨x.k, y, x.t, x.e, x.y, x.r⟩ := heap_setCell_same W p 1 _ _ _ h
theorem BK.set2 {W : World} {p : Nat} {x : Ltr} (h : BK W p x) (y : Int) : BK (W.setCell ⟨p, 2, none⟩ (.int .i64 y)) p ⟨x.k, x.f, y, x.e, x.y, x.r⟩ := heap_setCell_same W p 2 _ _ _ h
theorem BK.set3 {W : World} {p : Nat} {x : Ltr} (h : BK W p x) (y : Int) : BK (W.setCell ⟨p, 3, none⟩ (.int .i64 y)) p ⟨x.k, x.f, x.t, y, x.y, x.r⟩ := heap_setCell_same W p 3 _ _ _ h
theorem BK.set4 {W : World} {p : Nat} {x : Ltr} (h : BK W p x) (y : Int) : BK (W.setCell ⟨p, 4, none⟩ (.int .i64 y)) p ⟨x.k, x.f, x.t, x.e, y, x.r⟩ := heap_setCell_same W p 4 _ _ _ h
theorem BK.set5 {W : World} {p : Nat} {x : Ltr} (h : BK W p x) (y : ByteArray) : BK (W.setCell ⟨p, 5, none⟩ (.string y)) p ⟨x.k, x.f, x.t, x.e, x.y, y⟩ := heap_setCell_same W p 5 _ _ _ h
theorem sizeLetter : (Tryd.prog.info? 25).map (·.size) = some 6 := by kernel_rfl
section
variable {fn : Func} {Rp : Ending → World → Prop} {a : Act} {w : World}
/-- answered out of its box -/
theorem ret_ltr (c g : Nat) (x : Ltr) (hres : fn.results = #[.cell c 25]) (hd : a.defers = []) (hp : a.tmps.getD c undef = .pointer (some ⟨g, 0, none⟩)) (hA : BK w g x) (h : Rp (.returned (.agg #[.int .i64 x.k, .int .i64 x.f, .int .i64 x.t, .int .i64 x.e, .int .i64 x.y, .string x.r])) w) : bodyPost Tryd.prog fn Rp .ret a w :=
  ret_rec c g 25 (kcs x) _ hres hd hp Tryd.underlying25 rfl sizeLetter hA.range h
theorem ret_ltr2 (c s g : Nat) (x : Ltr) (b : Value) (hres : fn.results = #[.cell c 25, .tmp s]) (hd : a.defers = []) (hp : a.tmps.getD c undef = .pointer (some ⟨g, 0, none⟩)) (hb : a.tmps.getD s undef = b) (hA : BK w g x) (h : Rp (.returned (.tuple #[.agg #[.int .i64 x.k, .int .i64 x.f, .int .i64 x.t, .int .i64 x.e, .int .i64 x.y, .string x.r], b])) w) : bodyPost Tryd.prog fn Rp .ret a w :=
  ret_rec2 c s g 25 (kcs x) b _ hres hd hp hb Tryd.underlying25 rfl sizeLetter hA.range h
end

end Go.Proofs.YtodibhiinfbhiaaDoor
/-
  Plain facts on reading a number that stands in bytes, step by step.
-/
namespace Go.Proofs.YtodibhiinfbhiaaDoor.M

theorem pow7 (k : Nat) : (2 : Nat) ^ (7 * k) = 128 ^ k := by rw [Nat.pow_mul]

theorem sh_eq (b k : Nat) : ((b : Int) % 128 * 2 ^ (7 * k)) = ((b % 128 * 128 ^ k : Nat) : Int) := by
  have h : ((2 ^ (7 * k) : Nat) : Int) = (2 : Int) ^ (7 * k) := by simp
  rw [← h, pow7]
  simp

theorem pow_le5 (k : Nat) (h : k ≤ 4) : 128 ^ k ≤ 268435456 := by
  have := Nat.pow_le_pow_right (show 0 < 128 by omega) h
  simpa using this

theorem sh_le (b k : Nat) (h : k ≤ 4) : b % 128 * 128 ^ k ≤ 127 * 268435456 :=
  Nat.mul_le_mul (by omega) (pow_le5 k h)

theorem acc_lt (N b k : Nat) (h : N < 128 ^ k) : N + b % 128 * 128 ^ k < 128 ^ (k + 1) := by
  have h1 : b % 128 * 128 ^ k ≤ 127 * 128 ^ k := Nat.mul_le_mul_right _ (by omega)
  have h2 : 128 ^ (k + 1) = 128 ^ k * 128 := Nat.pow_succ ..
  omega

theorem rv_more (s : List UInt8) (p k N : Nat) (b : UInt8) (hk : k < 5) (hb : s[p + k]? = some b) (h : 127 < b.toNat) :
    rv s p (5 - k) k N = rv s p (5 - (k + 1)) (k + 1) (N + b.toNat % 128 * 128 ^ k) := by
  have e : 5 - k = (5 - (k + 1)) + 1 := by omega
  rw [e]
  simp only [rv, hb]
  rw [if_pos (by omega)]

theorem rv_no (s : List UInt8) (p k N : Nat) (b : UInt8) (hk : k < 5) (hb : s[p + k]? = some b) (h : ¬ 127 < b.toNat) (hn : (b.toNat = 0 ∧ 0 < k) ∨ 1000000000 < N + b.toNat % 128 * 128 ^ k) :
    rv s p (5 - k) k N = none := by
  have e : 5 - k = (5 - (k + 1)) + 1 := by omega
  rw [e]
  simp only [rv, hb]
  rw [if_neg (by omega), if_pos hn]

theorem rv_yes (s : List UInt8) (p k N : Nat) (b : UInt8) (hk : k < 5) (hb : s[p + k]? = some b) (h : ¬ 127 < b.toNat) (hn : ¬ ((b.toNat = 0 ∧ 0 < k) ∨ 1000000000 < N + b.toNat % 128 * 128 ^ k)) :
    rv s p (5 - k) k N = some (N + b.toNat % 128 * 128 ^ k, p + k + 1) := by
  have e : 5 - k = (5 - (k + 1)) + 1 := by omega
  rw [e]
  simp only [rv, hb]
  rw [if_neg (by omega), if_neg hn]

theorem rv_end (s : List UInt8) (p k N : Nat) (h : ¬ (k < 5 ∧ p + k < s.length)) : rv s p (5 - k) k N = none := by
  by_cases hk : k < 5
  · have e : 5 - k = (5 - (k + 1)) + 1 := by omega
    rw [e]
    have hb : s[p + k]? = none := by simp; omega
    simp only [rv, hb]
  · have e : 5 - k = 0 := by omega
    rw [e]
    rfl

end Go.Proofs.YtodibhiinfbhiaaDoor.M
