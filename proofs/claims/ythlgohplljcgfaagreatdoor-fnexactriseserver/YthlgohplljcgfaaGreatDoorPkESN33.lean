/-
  Texts laid together: Aw, GAm, GLf, GLa.
-/
import Derived.Test.YthlgohplljcgfaaGreatDoorPkESN7
import Derived.Test.YthlgohplljcgfaaGreatDoorPkESN32
import Derived.Lib.QuietBelow
import Derived.Test.YthlgohplljcgfaaGreatDoorPkESN30
import Derived.Test.YthlgohplljcgfaaGreatDoorPkESN1
import Derived.Test.YthlgohplljcgfaaGreatDoorPkESN5
/-
  What the laws' own helpers do with rows of acts: taken over, compared, weighed, marked.
-/
namespace Go.Proofs.YthlgohplljcgfaaGreatDoor
open Go.RowKit Go.BigFrame Go.Sort
set_option linter.unusedVariables false
set_option linter.unusedSimpArgs false

theorem there4 {w : World} {g o : Nat} (h : w.there g o 4) : (∃ u, w.cell? ⟨g, o, none⟩ = some u) ∧ (∃ u, w.cell? ⟨g, o + 1, none⟩ = some u) ∧ (∃ u, w.cell? ⟨g, o + 2, none⟩ = some u) ∧ (∃ u, w.cell? ⟨g, o + 3, none⟩ = some u) ∧ w.frozen? ⟨g, o, none⟩ = false ∧ w.frozen? ⟨g, o + 1, none⟩ = false ∧ w.frozen? ⟨g, o + 2, none⟩ = false ∧ w.frozen? ⟨g, o + 3, none⟩ = false :=
  ⟨Option.isSome_iff_exists.1 (h 0 (by omega)).1, Option.isSome_iff_exists.1 (h 1 (by omega)).1, Option.isSome_iff_exists.1 (h 2 (by omega)).1, Option.isSome_iff_exists.1 (h 3 (by omega)).1, (h 0 (by omega)).2, (h 1 (by omega)).2, (h 2 (by omega)).2, (h 3 (by omega)).2⟩

theorem there_new4 {W : World} {cs : Array Value} {T n : Nat} (h : cs.size = n * 4) (j : Nat) (hj : j < n) : (W.alloc (.cells cs T)).there W.heap.size (j * 4) 4 := by
  intro i hi
  have hg := Go.heap_alloc_new W (.cells cs T)
  refine ⟨?_, by unfold World.frozen?; simp only [hg]; simp⟩
  rw [cell_of_row _ W.heap.size (j * 4 + i) cs T (0, 0) hg, Array.getElem?_eq_getElem (by omega)]
  rfl
/-- the first m records of a new row are written -/
def ToA (w : World) (l : List Ac) (B g : Nat) (i : Value) (wr : World) : Prop := ∃ m : Nat, m ≤ l.length ∧ i = .int .i64 m ∧ (∀ j (h : j < l.length), j < m → wr.rangeAt g (j * 4) (acs l[j])) ∧ (∀ j, j < l.length → wr.there g (j * 4) 4) ∧ Below B w wr
theorem ToA.set {w wr : World} {l : List Ac} {g m B : Nat} (hm : m < l.length) (hB : B ≤ g) (h1 : ∀ j (h : j < l.length), j < m → wr.rangeAt g (j * 4) (acs l[j])) (h2 : ∀ j, j < l.length → wr.there g (j * 4) 4) (h3 : Below B w wr) :
    (∀ j (h : j < l.length), j < m + 1 → (wr.setCells g (m * 4) (acs l[m])).rangeAt g (j * 4) (acs l[j])) ∧ (∀ j, j < l.length → (wr.setCells g (m * 4) (acs l[m])).there g (j * 4) 4) ∧ Below B w (wr.setCells g (m * 4) (acs l[m])) := by
  refine ⟨fun j hj hlt => ?_, fun j hj => World.there_setCells (h2 j hj) _ _ _, ?_⟩
  · rcases Nat.lt_or_ge j m with h4 | h4
    · exact World.rangeAt_setCells_apart (h1 j hj h4) _ _ _ (.inr (.inl (by rw [acs_len]; omega)))
    · have : j = m := by omega
      subst this
      exact World.rangeAt_setCells_same _ _ _ _ (h2 j hj)
  · exact below_setCells hB _ _ _ h3

def EaR (n : Nat) (w : World) (i : Value) (wr : World) : Prop := ∃ m : Nat, m ≤ n ∧ i = .int .i64 m ∧ Below w.heap.size w wr

/-- a row of acts that was handed in, great or small: if it is small, it is l -/
def IsRowA (w : World) (v : Value) (g o : Nat) (l : List Ac) : Prop := ∃ a n cap, v = .slice a n cap ∧ n ≤ 9223372036854775807 ∧ (n ≤ 1100000 → l.length = n ∧ RS 4 acs w v g o l ∧ ∀ f ∈ l, f.n.size ≤ 9223372036854775807 ∧ f.t.size ≤ 9223372036854775807 ∧ f.o.size ≤ 9223372036854775807)
theorem IsRowA.later {w w' : World} {v : Value} {g o : Nat} {l : List Ac} (h : IsRowA w v g o l) (hb : Below w.heap.size w w') : IsRowA w' v g o l := by
  obtain ⟨a, n, cap, hv, hn, hr⟩ := h
  exact ⟨a, n, cap, hv, hn, fun hl => ⟨(hr hl).1, (hr hl).2.1.later hb, (hr hl).2.2⟩⟩
def SmallA1 (a : Ac) : Prop := a.n.size ≤ 1048576 ∧ a.t.size ≤ 1048576 ∧ a.o.size ≤ 1048576
/-- no text of it is great -/
def SmallAs (l : List Ac) : Prop := ∀ f ∈ l, SmallA1 f

def SzA (l : List Ac) (x0 : Int) (w : World) (x i : Value) (wr : World) : Prop := ∃ (m : Nat) (y : Int), m ≤ l.length ∧ i = .int .i64 m ∧ x = .int .i64 y ∧ 0 ≤ y ∧ y ≤ x0 ∧ Hid (∀ j (h : j < l.length), j < m → SmallA1 l[j]) ∧ Below w.heap.size w wr

/-- all acts may be written, nothing else has turned -/
def MaI (w : World) (g : Nat) (l : List Ac) (wr : World) : Prop := (∀ j, j < l.length → wr.there g (j * 4) 4) ∧ w.grownBy wr (rowF g l.length)
theorem MaI.below {w wr wr' : World} {g : Nat} {l : List Ac} (h : MaI w g l wr) (hg : g < wr.heap.size) (hb : Below wr.heap.size wr wr') : MaI w g l wr' :=
  ⟨fun j hj => there_kept (h.1 j hj) (hb.block g hg), h.2.trans (grown_below hb)⟩
theorem MaI.set {w wr : World} {g : Nat} {l : List Ac} (h : MaI w g l wr) (hl : 0 < l.length) (o : Nat) (v : Value) : MaI w g l (wr.setCell ⟨g, o, none⟩ v) :=
  ⟨fun j hj => set_there o (h.1 j hj) v, by
    have h3 := h.2
    rw [rowF_some hl] at h3 ⊢
    exact h3.trans (grown_set wr g o v)⟩
def MaR (w : World) (g : Nat) (l : List Ac) (k0 : Nat) (x i : Value) (wr : World) : Prop := ∃ m : Nat, m ≤ l.length ∧ i = .int .i64 m ∧ x = .int .i64 (k0 + 4 * m : Nat) ∧ Hid (MaI w g l wr)

end Go.Proofs.YthlgohplljcgfaaGreatDoor
/-
  What the laws' own helpers write into a row of acts, and find there again.
-/
namespace Go.Proofs.YthlgohplljcgfaaGreatDoor
open Go.RowKit Go.BigFrame Go.Sort
set_option linter.unusedVariables false
set_option linter.unusedSimpArgs false

def amk (k0 j : Nat) : Ac := ⟨((k0 + 4 * j : Nat) : Int), markB (k0 + 4 * j + 1), markB (k0 + 4 * j + 2), markB (k0 + 4 * j + 3)⟩
def amarks (k0 n : Nat) : List Ac := (List.range n).map (amk k0)
theorem amarks_len (k0 n : Nat) : (amarks k0 n).length = n := by simp [amarks]
theorem amarks_at (k0 n j : Nat) (h : j < (amarks k0 n).length) : (amarks k0 n)[j] = amk k0 j := by simp [amarks]
theorem range4 {w : World} {g o : Nat} {a : Ac} (h0 : w.cell? ⟨g, o, none⟩ = some (.int .i64 a.k)) (h1 : w.cell? ⟨g, o + 1, none⟩ = some (.string a.n)) (h2 : w.cell? ⟨g, o + 2, none⟩ = some (.string a.t)) (h3 : w.cell? ⟨g, o + 3, none⟩ = some (.string a.o)) : w.rangeAt g o (acs a) := by
  intro j v hv
  match j, hv with
  | 0, hv => cases hv; exact h0
  | 1, hv => cases hv; exact h1
  | 2, hv => cases hv; exact h2
  | 3, hv => cases hv; exact h3

/-- the first m acts bear marks, and all may be written -/
def MbI (w : World) (g : Nat) (l : List Ac) (k0 m : Nat) (wr : World) : Prop := (∀ j, j < m → wr.rangeAt g (j * 4) (acs (amk k0 j))) ∧ (∀ j, j < l.length → wr.there g (j * 4) 4) ∧ w.grownBy wr (rowF g l.length)
theorem MbI.below {w wr wr' : World} {g : Nat} {l : List Ac} {k0 m : Nat} (h : MbI w g l k0 m wr) (hg : g < wr.heap.size) (hb : Below wr.heap.size wr wr') : MbI w g l k0 m wr' :=
  ⟨fun j hj => range_kept (h.1 j hj) (hb.block g hg), fun j hj => there_kept (h.2.1 j hj) (hb.block g hg), h.2.2.trans ((grown_below hb))⟩
theorem MbI.set {w wr : World} {g : Nat} {l : List Ac} {k0 m : Nat} (h : MbI w g l k0 m wr) (hm : m < l.length) (o : Nat) (ho : m * 4 ≤ o) (v : Value) : MbI w g l k0 m (wr.setCell ⟨g, o, none⟩ v) :=
  ⟨fun j hj => set_range (h.1 j hj) (by rw [acs_len]; omega) v, fun j hj => set_there o (h.2.1 j hj) v, by
    have h3 := h.2.2
    rw [rowF_some (by omega)] at h3 ⊢
    exact h3.trans (grown_set wr g o v)⟩

def MbR (w : World) (g : Nat) (l : List Ac) (k0 : Nat) (x i : Value) (wr : World) : Prop := ∃ m : Nat, m ≤ l.length ∧ i = .int .i64 m ∧ x = .int .i64 (k0 + 4 * m : Nat) ∧ Hid (MbI w g l k0 m wr)

/-- the first cells of the m-th act -/
def Mc0 (g m k : Nat) (w : World) : Prop := w.cell? ⟨g, m * 4, none⟩ = some (.int .i64 (k : Nat))
def Mc1 (g m : Nat) (K : ByteArray) (w : World) : Prop := w.cell? ⟨g, m * 4 + 1, none⟩ = some (.string K)
def Mc2 (g m : Nat) (K : ByteArray) (w : World) : Prop := w.cell? ⟨g, m * 4 + 2, none⟩ = some (.string K)
theorem Mc0.below {g m k : Nat} {w w' : World} (h : Mc0 g m k w) (hg : g < w.heap.size) (hb : Below w.heap.size w w') : Mc0 g m k w' := (hb.cell (p := ⟨g, m * 4, none⟩) hg).trans h
theorem Mc1.below {g m : Nat} {K : ByteArray} {w w' : World} (h : Mc1 g m K w) (hg : g < w.heap.size) (hb : Below w.heap.size w w') : Mc1 g m K w' := (hb.cell (p := ⟨g, m * 4 + 1, none⟩) hg).trans h
theorem Mc2.below {g m : Nat} {K : ByteArray} {w w' : World} (h : Mc2 g m K w) (hg : g < w.heap.size) (hb : Below w.heap.size w w') : Mc2 g m K w' := (hb.cell (p := ⟨g, m * 4 + 2, none⟩) hg).trans h
theorem Mc0.set {g m k o : Nat} {w : World} (h : Mc0 g m k w) (ho : m * 4 < o) (v : Value) : Mc0 g m k (w.setCell ⟨g, o, none⟩ v) := (set_else (by omega) v).trans h
theorem Mc1.set {g m o : Nat} {K : ByteArray} {w : World} (h : Mc1 g m K w) (ho : m * 4 + 1 < o) (v : Value) : Mc1 g m K (w.setCell ⟨g, o, none⟩ v) := (set_else (by omega) v).trans h
theorem Mc2.set {g m o : Nat} {K : ByteArray} {w : World} (h : Mc2 g m K w) (ho : m * 4 + 2 < o) (v : Value) : Mc2 g m K (w.setCell ⟨g, o, none⟩ v) := (set_else (by omega) v).trans h

def HaR (k0 n : Nat) (w : World) (x i : Value) (wr : World) : Prop := ∃ m : Nat, m ≤ n ∧ i = .int .i64 m ∧ x = .int .i64 (k0 + 4 * m : Nat) ∧ Below w.heap.size w wr

end Go.Proofs.YthlgohplljcgfaaGreatDoor
/-
  What is written down, in plain words: which names serve, frames one behind the other, acts; and what the program's own helpers make of them.
-/
namespace Go.Proofs.YthlgohplljcgfaaGreatDoor
open Go.RowKit
set_option linter.unusedVariables false
set_option linter.unusedSimpArgs false

def newB : ByteArray := ⟨#[110, 101, 119]⟩
def lnB (s : ByteArray) : Bool := F.nmB s && !decide (s = newB)
def okT (t : ByteArray) : Bool := decide (1 ≤ t.size ∧ t.size ≤ 9000)
def frsL (l : List ByteArray) : List UInt8 := l.flatMap fun t => (frB t).data.toList
def frsB (l : List ByteArray) : ByteArray := ⟨(frsL l).toArray⟩
def logAs (n f : ByteArray) : List Ac := [⟨1, n, f, ⟨#[]⟩⟩, ⟨2, n, ⟨#[]⟩, ⟨#[]⟩⟩]

theorem okT_iff {t : ByteArray} : okT t = true ↔ 1 ≤ t.size ∧ t.size ≤ 9000 := by simp [okT]
theorem frB_le {t : ByteArray} (h : okT t = true) : (frB t).size ≤ 9014 := by
  have h1 := okT_iff.1 h
  have h2 := varB_le t.size
  have h3 := fourB_size (sumN t)
  unfold frB
  rw [ByteArray.size_append, ByteArray.size_append]
  omega
theorem frsL_snoc (l : List ByteArray) (t : ByteArray) : frsL (l ++ [t]) = frsL l ++ (frB t).data.toList := by simp [frsL]
theorem frsL_len : ∀ (l : List ByteArray), (∀ t ∈ l, okT t = true) → (frsL l).length ≤ 9014 * l.length
  | [], _ => by simp [frsL]
  | t :: r, h => by
    have h1 := frB_le (h t (by simp))
    have h2 := frsL_len r (fun x hx => h x (by simp [hx]))
    have e : frsL (t :: r) = (frB t).data.toList ++ frsL r := by simp [frsL]
    have e2 : (frB t).data.toList.length = (frB t).size := Array.length_toList
    rw [e, List.length_append, List.length_cons]
    omega
theorem frsB_one (t : ByteArray) : frsB [t] = frB t := by
  have e : frsL [t] = (frB t).data.toList := by
    unfold frsL
    rw [List.flatMap_cons, List.flatMap_nil, List.append_nil]
  unfold frsB
  rw [e]

/-- what framesOf answers -/
def foOut (l : List ByteArray) : Array Value := if l.all okT then #[.string (frsB l), .nilIface] else #[.string ⟨#[]⟩, faultV 4]
theorem foOut_yes {l : List ByteArray} (h : ∀ t ∈ l, okT t = true) : foOut l = #[.string (frsB l), .nilIface] := by
  unfold foOut
  rw [if_pos (List.all_eq_true.2 h)]
theorem foOut_no {l : List ByteArray} {t : ByteArray} (hm : t ∈ l) (h : okT t = false) : foOut l = #[.string ⟨#[]⟩, faultV 4] := by
  unfold foOut
  rw [if_neg]
  intro hc
  have := List.all_eq_true.1 hc t hm
  rw [h] at this
  cases this

end Go.Proofs.YthlgohplljcgfaaGreatDoor
/-
  Acts that write a text down: the program's and the specification's answers.
-/
namespace Go.Proofs.YthlgohplljcgfaaGreatDoor
open Go.RowKit
set_option linter.unusedVariables false
set_option linter.unusedSimpArgs false

theorem lnB_yes {s : ByteArray} (h : lnB s = true) : F.nmB s = true ∧ ¬ s = newB := by simpa [lnB] using h
theorem newB_list : newB.toList = [110, 101, 119] := by rw [ByteArray.toList_eq]; rfl
theorem new_ne {s : ByteArray} (h : ¬ s = newB) : (s.toList == [110, 101, 119]) = false := by rw [← newB_list]; exact bytes_ne h
theorem new_eq : (newB.toList == [110, 101, 119]) = true := by rw [newB_list]; decide

/-- a row of acts of its own, and a flag -/
def AcP (w : World) (L : List Ac) (R : Bool) (e : Ending) (w' : World) : Prop := ∃ u g, e = .returned (.tuple #[u, .bool R]) ∧ RW 4 acs w' u g L ∧ w.heap.size ≤ g ∧ Below w.heap.size w w'
theorem OR.wide {T k B B' : Nat} {enc : Ac → List Value} {w0 w1 w : World} {v : Value} {l : List Ac} (h : OR T k enc B' w1 w v l) (hb : Below B w0 w1) (hB : B ≤ B') : OR T k enc B w0 w v l := by
  refine ⟨⟨h.1.1, ?_⟩, hb.trans (h.2.1.mono hB), Nat.le_trans hB h.2.2⟩
  rcases h.1.2 with hn | ⟨g, cap, cur, h1, h2, h3⟩
  · exact .inl hn
  · exact .inr ⟨g, cap, cur, h1, Nat.le_trans hB h2, h3⟩
end Go.Proofs.YthlgohplljcgfaaGreatDoor
