/-
  What DrawTagText draws: some kind, and some parts.
-/
import Derived.Test.YtodibhiinfbhiaaDoorDrawc
import Derived.Test.YtodibhiinfbhiaaDoorTxt
namespace Go.Proofs.YtodibhiinfbhiaaDoor
open Go.RowKit
set_option linter.unusedVariables false

def svs (l : List ByteArray) : List Value := l.map Value.string
theorem svs_append (l r : List ByteArray) : svs (l ++ r) = svs l ++ svs r := by simp [svs]

theorem own_neS {B Bw : Nat} {w0 w : World} {g n : Nat} {v u : Value} {xs : List Value} (hc : Cur B w0 w g v) (ho : w.ownsRow Bw 9 1 u n xs) : some g ≠ u.ownBlock := by
  intro he
  obtain ⟨_, _, _, i, x, hb, _⟩ := hc
  rcases ho.2 with ⟨rfl, _⟩ | ⟨g', cap, cur, rfl, _, hg, _⟩
  · simp [Value.ownBlock] at he
  · simp [Value.ownBlock] at he
    subst he
    rw [hb] at hg
    simp at hg

theorem one_text (w : World) (t : ByteArray) (y : TypeId) : (w.alloc (.cells #[.string t] y)).cell? ⟨w.heap.size, 0, none⟩ = some (.string t) := by simp

def kindsL : List Int := [1, 2, 3, 8, 0, 9, 5]
def kindsC : Array Value := #[.int .i64 1, .int .i64 2, .int .i64 3, .int .i64 8, .int .i64 0, .int .i64 9, .int .i64 5]
theorem kinds_at (w : World) : Hid (∀ j, (h : j < kindsL.length) → (w.alloc (.cells kindsC 3)).cell? ⟨w.heap.size, j, none⟩ = some (.int .i64 kindsL[j])) := by
  intro j hj
  rw [World.cell?_alloc_at _ _ _ _ rfl]
  have : j = 0 ∨ j = 1 ∨ j = 2 ∨ j = 3 ∨ j = 4 ∨ j = 5 ∨ j = 6 := by simp [kindsL] at hj; omega
  rcases this with rfl | rfl | rfl | rfl | rfl | rfl | rfl <;> rfl

/-- what the first loop holds: as many texts as rounds -/
def DtR (w : World) (g : Nat) (v u i : Value) (wr : World) : Prop :=
  ∃ (k : Nat) (l : List ByteArray), k ≤ 4 ∧ i = .int .i64 k ∧ l.length = k ∧ wr.ownsRow w.heap.size 9 1 u l.length (svs l) ∧ Cur w.heap.size w wr g v

/-- what the second loop holds -/
def DuR (w : World) (u : Value) (wr : World) : Prop :=
  ∃ l : List ByteArray, l.length ≤ 61 ∧ wr.ownsRow w.heap.size 9 1 u l.length (svs l) ∧ Below w.heap.size w wr ∧ w.heap.size ≤ wr.heap.size

theorem ss_own {B n : Nat} {w : World} {u : Value} {l : List ByteArray} (h : w.ownsRow B 9 1 u n (svs l)) (hn : n = l.length) (hl : l.length ≤ 1100000) : ∃ g, SS w u g 0 l := by
  subst hn
  rcases h.2 with ⟨hv, hn⟩ | ⟨g, cap, cur, hv, hbg, hg, rest⟩
  · have e : l = [] := List.length_eq_zero_iff.1 hn
    subst e
    exact ⟨0, none, 0, hv, by simp, fun h => absurd h (by simp), fun j hj => absurd hj (by simp)⟩
  · subst hv
    refine ⟨g, _, cap, rfl, hl, fun _ => rfl, fun j hj => ?_⟩
    rw [Nat.zero_add, World.ownsRow.cellAt h j (by omega)]
    simp [svs, List.getElem?_eq_getElem hj]

theorem own_later {B n e : Nat} {w w' : World} {v : Value} {xs : List Value} (h : w.ownsRow B e 1 v n xs) (hb : Below w.heap.size w w') : w'.ownsRow B e 1 v n xs := by
  refine ⟨h.1, ?_⟩
  rcases h.2 with hn | ⟨g, cap, cur, hv, hbg, hg, rest⟩
  · exact .inl hn
  · refine .inr ⟨g, cap, cur, hv, hbg, ?_, rest⟩
    rw [hb.block g (Array.getElem?_eq_some_iff.1 hg).1]
    exact hg

theorem own_slice {B n e : Nat} {w : World} {v : Value} {xs : List Value} (h : w.ownsRow B e 1 v n xs) : ∃ a c, v = .slice a n c := by
  rcases h.2 with ⟨hv, hn⟩ | ⟨g, cap, cur, hv, hbg, hg, rest⟩
  · exact ⟨none, 0, by rw [hv, hn]⟩
  · exact ⟨_, cap, hv⟩

def lenOf : Value → Nat
  | .slice _ n _ => n
  | _ => 0

/-- what DrawTagText gives -/
def DtAns (w : World) (e : Ending) (w' : World) : Prop := ∃ (k : Int) (u : Value) (g : Nat) (l : List ByteArray), e = .returned (.tuple #[.int .i64 k, u]) ∧ SS w' u g 0 l ∧ Below w.heap.size w w'

end Go.Proofs.YtodibhiinfbhiaaDoor
