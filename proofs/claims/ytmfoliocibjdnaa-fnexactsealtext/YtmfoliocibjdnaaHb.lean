/-
  A head, and rows of heads, that a law is handed: counted, copied, compared.
-/
import Derived.Test.YtmfoliocibjdnaaHa
namespace Go.Proofs.Ytmfoliocibjdnaa
open Go.RowKit Go.BigFrame Go.Sort
set_option linter.unusedVariables false
set_option linter.unusedSimpArgs false


/-- a head in cells of any box -/
def RB (W : World) (g : Nat) (x : Hd) : Prop := W.rangeAt g 0 (hcs x) ∧ g < W.heap.size
theorem RB.new (w : World) (x : Hd) (T : Nat) : RB (w.alloc (.cells #[.int .i64 x.h, .int .i64 x.e, .string x.r, .string x.p] T)) w.heap.size x := ⟨range_new w (hcs x) T, by simp⟩
theorem RB.later {W W' : World} {g : Nat} {x : Hd} (h : RB W g x) (hb : Below W.heap.size W W') : RB W' g x := ⟨range_kept h.1 (hb.block g h.2), Nat.lt_of_lt_of_le h.2 hb.size⟩
theorem RB.grown {W W' : World} {g : Nat} {x : Hd} {row : Option Nat} (h : RB W g x) (hg : W.grownBy W' row) (hne : some g ≠ row) : RB W' g x := ⟨range_kept h.1 (hg.block g h.2 hne), Nat.lt_of_lt_of_le h.2 hg.size⟩
theorem RB.c0 {W : World} {g : Nat} {x : Hd} (h : RB W g x) : W.cell? ⟨g, 0, none⟩ = some (.int .i64 x.h) := h.1 0 _ rfl
theorem RB.c1 {W : World} {g : Nat} {x : Hd} (h : RB W g x) : W.cell? ⟨g, 1, none⟩ = some (.int .i64 x.e) := h.1 1 _ rfl
theorem RB.c2 {W : World} {g : Nat} {x : Hd} (h : RB W g x) : W.cell? ⟨g, 2, none⟩ = some (.string x.r) := h.1 2 _ rfl
theorem RB.c3 {W : World} {g : Nat} {x : Hd} (h : RB W g x) : W.cell? ⟨g, 3, none⟩ = some (.string x.p) := h.1 3 _ rfl

set_option maxRecDepth 100000 in
set_option maxHeartbeats 400000 in
theorem toHead_any (a : Hd) (w : World) : Calls Try.prog 28 #[.agg #[.int .i64 a.h, .int .i64 a.e, .string a.r, .string a.p]] w fun e w' => e = .returned (.agg #[.int .i64 a.h, .int .i64 a.e, .string a.r, .string a.p]) ∧ Below w.heap.size w w' := by
  obtain ⟨k, y, t, o⟩ := a
  go_enter Try.func28, Try.ntmps28
  go_wp2
  refine ret_rec 2 (w.heap.size + 1) 36 [.int .i64 k, .int .i64 y, .string t, .string o] _ rfl rfl rfl Try.underlying36 rfl sizeHead ?_ ?_
  · exact World.rangeAt_alloc (range_at (by simp) (range_new _ [.int .i64 k, .int .i64 y, .string t, .string o] _)) _
  · exact ⟨rfl, (((Below.refl _ _).alloc (Nat.le_refl _) _).alloc (by simp) _).alloc (by simp; omega) _⟩

set_option maxHeartbeats 400000 in
theorem szHead_any (a : Hd) (x : Int) (w : World) (h0 : 0 ≤ x) (h1 : x ≤ 1048576) (ht : a.r.size ≤ 9223372036854775807) (ho : a.p.size ≤ 9223372036854775807) :
    Calls Try.prog 23 #[.agg #[.int .i64 a.h, .int .i64 a.e, .string a.r, .string a.p], .int .i64 x] w fun e w' => ∃ A : Int, e = .returned (.int .i64 A) ∧ Below w.heap.size w w' ∧ A ≤ x ∧ (0 ≤ A → a.r.size ≤ 1048576 ∧ a.p.size ≤ 1048576) := by
  obtain ⟨k, y, t, o⟩ := a
  simp only at ht ho ⊢
  have HB : Hid (Below w.heap.size w (w.alloc (.cells #[.int .i64 k, .int .i64 y, .string t, .string o] 27))) := (Below.refl _ _).alloc (Nat.le_refl _) _
  by_cases h3 : x - (t.size : Int) < 0
  · go_enter Try.func23, Try.ntmps23
    go_wp2
    go_ret
    exact ⟨_, rfl, HB.out, by omega, fun h => by omega⟩
  · by_cases h4 : x - (t.size : Int) - (o.size : Int) < 0
    · go_enter Try.func23, Try.ntmps23
      go_wp2
      go_ret
      exact ⟨_, rfl, HB.out, by omega, fun h => by omega⟩
    · go_enter Try.func23, Try.ntmps23
      go_wp2
      go_ret
      exact ⟨_, rfl, HB.out, by omega, fun h => ⟨by omega, by omega⟩⟩

theorem Try.infoHead : (Try.prog.info? 36).map (fun i => (i.zero, i.size, i.bytes)) = some (some (.agg #[.int .i64 0, .int .i64 0, .string ByteArray.empty, .string ByteArray.empty]), 4, 48) := by kernel_rfl
theorem there_new4h {W : World} {cs : Array Value} {T n : Nat} (h : cs.size = n * 4) (j : Nat) (hj : j < n) : (W.alloc (.cells cs T)).there W.heap.size (j * 4) 4 := by
  intro i hi
  have hg := Go.heap_alloc_new W (.cells cs T)
  refine ⟨?_, by unfold World.frozen?; simp only [hg]; simp⟩
  rw [cell_of_row _ W.heap.size (j * 4 + i) cs T (0, 0) hg, Array.getElem?_eq_getElem (by omega)]
  rfl
/-- the first m records of a new row are written -/
def ToH (w : World) (l : List Hd) (B g : Nat) (i : Value) (wr : World) : Prop := ∃ m : Nat, m ≤ l.length ∧ i = .int .i64 m ∧ (∀ j (h : j < l.length), j < m → wr.rangeAt g (j * 4) (hcs l[j])) ∧ (∀ j, j < l.length → wr.there g (j * 4) 4) ∧ Below B w wr
theorem ToH.set {w wr : World} {l : List Hd} {g m B : Nat} (hm : m < l.length) (hB : B ≤ g) (h1 : ∀ j (h : j < l.length), j < m → wr.rangeAt g (j * 4) (hcs l[j])) (h2 : ∀ j, j < l.length → wr.there g (j * 4) 4) (h3 : Below B w wr) :
    (∀ j (h : j < l.length), j < m + 1 → (wr.setCells g (m * 4) (hcs l[m])).rangeAt g (j * 4) (hcs l[j])) ∧ (∀ j, j < l.length → (wr.setCells g (m * 4) (hcs l[m])).there g (j * 4) 4) ∧ Below B w (wr.setCells g (m * 4) (hcs l[m])) := by
  refine ⟨fun j hj hlt => ?_, fun j hj => World.there_setCells (h2 j hj) _ _ _, ?_⟩
  · rcases Nat.lt_or_ge j m with h4 | h4
    · exact World.rangeAt_setCells_apart (h1 j hj h4) _ _ _ (.inr (.inl (by rw [hcs_len]; omega)))
    · have : j = m := by omega
      subst this
      exact World.rangeAt_setCells_same _ _ _ _ (h2 j hj)
  · exact below_setCells hB _ _ _ h3

theorem eqHead_yes (f : Hd) (w : World) : Calls Try.prog 33 #[.agg #[.int .i64 f.h, .int .i64 f.e, .string f.r, .string f.p], .agg #[.int .i64 f.h, .int .i64 f.e, .string f.r, .string f.p]] w fun e w' => e = .returned (.bool true) ∧ Below w.heap.size w w' := by
  obtain ⟨k, x, t, o⟩ := f
  have hb : Below w.heap.size w ((w.alloc (.cells #[.int .i64 k, .int .i64 x, .string t, .string o] 36)).alloc (.cells #[.int .i64 k, .int .i64 x, .string t, .string o] 36)) := ((Below.refl _ _).alloc (Nat.le_refl _) _).alloc (by simp) _
  go_enter Try.func33, Try.ntmps33
  go_wp2
  go_ret
  exact ⟨rfl, hb⟩

def EhR (n : Nat) (w : World) (i : Value) (wr : World) : Prop := ∃ m : Nat, m ≤ n ∧ i = .int .i64 m ∧ Below w.heap.size w wr

/-- a row of heads that was handed in, great or small: if it is small, it is l -/
def IsRowH (w : World) (v : Value) (g o : Nat) (l : List Hd) : Prop := ∃ a n cap, v = .slice a n cap ∧ n ≤ 9223372036854775807 ∧ (n ≤ 1100000 → l.length = n ∧ RS 4 hcs w v g o l ∧ ∀ f ∈ l, f.r.size ≤ 9223372036854775807 ∧ f.p.size ≤ 9223372036854775807)
theorem IsRowH.later {w w' : World} {v : Value} {g o : Nat} {l : List Hd} (h : IsRowH w v g o l) (hb : Below w.heap.size w w') : IsRowH w' v g o l := by
  obtain ⟨a, n, cap, hv, hn, hr⟩ := h
  exact ⟨a, n, cap, hv, hn, fun hl => ⟨(hr hl).1, (hr hl).2.1.later hb, (hr hl).2.2⟩⟩
def SmallH1 (a : Hd) : Prop := a.r.size ≤ 1048576 ∧ a.p.size ≤ 1048576
/-- no text of it is great -/
def SmallHs (l : List Hd) : Prop := ∀ f ∈ l, SmallH1 f

def SzH (l : List Hd) (x0 : Int) (w : World) (x i : Value) (wr : World) : Prop := ∃ (m : Nat) (y : Int), m ≤ l.length ∧ i = .int .i64 m ∧ x = .int .i64 y ∧ 0 ≤ y ∧ y ≤ x0 ∧ Hid (∀ j (h : j < l.length), j < m → SmallH1 l[j]) ∧ Below w.heap.size w wr

end Go.Proofs.Ytmfoliocibjdnaa
