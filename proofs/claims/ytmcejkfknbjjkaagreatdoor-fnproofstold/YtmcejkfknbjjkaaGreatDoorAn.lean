/-
  Drawn leaves, right or not.
-/
import Derived.Test.YtmcejkfknbjjkaaGreatDoorPkE
import Derived.Test.YtmcejkfknbjjkaaGreatDoorPkJ
import Derived.Test.YtmcejkfknbjjkaaGreatDoorSpl
import Derived.Test.YtmcejkfknbjjkaaGreatDoorPkD
namespace Go.Proofs.YtmcejkfknbjjkaaGreatDoor
open Go.RowKit Go.BigFrame Go.Sort
set_option linter.unusedVariables false
set_option linter.unusedSimpArgs false

theorem grown_bel {w w2 w' : World} {row : Option Nat} (h : w.grownBy w2 row) (hb : Below w.heap.size w2 w') : w.grownBy w' row :=
  ⟨hb.os.trans h.os, hb.tape.trans h.tape, hb.output.trans h.output, Nat.le_trans h.size hb.size, fun k hk hne => (hb.block k hk).trans (h.block k hk hne)⟩
theorem Cur.bel {B Bx : Nat} {w0 w w' : World} {g : Nat} {v : Value} (h : Cur B w0 w g v) (hb : Below Bx w w') (hg : g < Bx) (hB : B ≤ Bx) : Cur B w0 w' g v := by
  obtain ⟨h1, h2, h3, i, x, hbl, h4⟩ := h
  exact ⟨h1, h2.trans (hb.mono hB), h3, i, x, (hb.block g hg).trans hbl, h4⟩
theorem OL.drawn {B Bx : Nat} {w0 w w1 : World} {g : Nat} {v u : Value} {l : List Le} (h : OL Bx w w u l) (hc : Cur B w0 w g v) (hg : w.grownBy w1 (some g)) : OL Bx w1 w1 u l := by
  obtain ⟨_, _, _, i, x, hbl, _⟩ := hc
  exact ⟨World.ownsRow.kept h.1 hg (.inr (h.ne hbl (by decide))), Below.refl _ _, Nat.le_trans h.2.2 hg.size⟩
theorem OL.self {Bx : Nat} {w0 w : World} {u : Value} {l : List Le} (h : OL Bx w0 w u l) : OL Bx w w u l := ⟨h.1, Below.refl _ _, h.2.2⟩
theorem SmallL.add {L : List Le} {f : Le} (h : SmallL L) (h1 : f.n.size ≤ 12) (h2 : f.v.size ≤ 12) : SmallL (L ++ [f]) := fun x hx => by
  rcases List.mem_append.1 hx with h0 | h0
  · exact h x h0
  · obtain rfl : x = f := by simpa using h0
    omega

/-- a list under way beside a cursor -/
def AnI (B : Nat) (w0 w : World) (g : Nat) (v u : Value) (L : List Le) (wr : World) : Prop := Cur B w0 wr g v ∧ OL w.heap.size wr wr u L ∧ SmallL L ∧ w.grownBy wr (some g)
/-- what l09Any answers -/
def AnP (B : Nat) (w0 w : World) (g : Nat) (v : Value) (e : Ending) (w' : World) : Prop := ∃ (u : Value) (L : List Le), e = .returned u ∧ L.length ≤ 25 ∧ AnI B w0 w g v u L w'
def AnR (B : Nat) (w0 w : World) (g : Nat) (v : Value) (u i : Value) (wr : World) : Prop := ∃ (m : Nat) (L : List Le), m ≤ 25 ∧ i = .int .i64 m ∧ L.length = m ∧ Hid (AnI B w0 w g v u L wr)

def l9wL : List ByteArray := [⟨#[]⟩, ⟨#[97, 32, 98]⟩, ⟨#[111, 107]⟩]
def l9wC : Array Value := #[.string ⟨#[]⟩, .string ⟨#[97, 32, 98]⟩, .string ⟨#[111, 107]⟩]
theorem l9w_at (w : World) : Hid (∀ j, (h : j < l9wL.length) → (w.alloc (.cells l9wC 9)).cell? ⟨w.heap.size, j, none⟩ = some (.string l9wL[j])) := by
  intro j hj
  rw [World.cell?_alloc_at _ _ _ _ rfl]
  have : j = 0 ∨ j = 1 ∨ j = 2 := by simp [l9wL] at hj; omega
  rcases this with rfl | rfl | rfl <;> rfl
theorem l9w_ok : ∀ y ∈ l9wL, y.size ≤ 12 := by decide +kernel

theorem AnI.app {B : Nat} {w0 w w3 w5 : World} {g : Nat} {v u u5 : Value} {L : List Le} {f : Le} (h : AnI B w0 w g v u L w3) (hg : g < w.heap.size) (hB : B ≤ w.heap.size) (ho : OL w.heap.size w3 w5 u5 (L ++ [f])) (h1 : f.n.size ≤ 12) (h2 : f.v.size ≤ 12) : AnI B w0 w g v u5 (L ++ [f]) w5 :=
  ⟨h.1.bel ho.2.1 hg hB, ho.self, h.2.2.1.add h1 h2, grown_bel h.2.2.2 ho.2.1⟩
theorem AnI.drawn {B : Nat} {w0 w w3 w4 : World} {g : Nat} {v u : Value} {L : List Le} (h : AnI B w0 w g v u L w3) (hc : Cur B w0 w4 g v) (hg : w3.grownBy w4 (some g)) : AnI B w0 w g v u L w4 :=
  ⟨hc, h.2.1.drawn h.1 hg, h.2.2.1, h.2.2.2.trans hg⟩
theorem AnI.new {B : Nat} {w0 w w3 : World} {g : Nat} {v u : Value} {L : List Le} (h : AnI B w0 w g v u L w3) : AnI B w0 w g v (.slice (some ⟨w3.heap.size, 0, none⟩) 0 0) [] (w3.alloc (.cells #[] 34)) :=
  ⟨h.1.kept (World.grownBy_alloc w3 _ none) (by simp) h.1.size (fun k hk => by cases hk), (OL.made w.heap.size w3 w3 (Below.refl _ _) h.2.1.2.2).self, fun f hf => absurd hf (by simp), h.2.2.2.trans (World.grownBy_alloc w3 _ (some g))⟩
theorem AnI.of {B : Nat} {w0 w w1 w2 w3 : World} {g : Nat} {v u : Value} {L : List Le} {a : Option Addr} {cap q : Nat} (hg1 : w.grownBy w1 (some g)) (hg : g < w.heap.size) (hB : B ≤ w.heap.size) (h : DvI B w0 (w1.alloc (.cells #[] 34)) g v a cap q L w2) (ho : OL w.heap.size w2 w3 u L) : AnI B w0 w g v u L w3 :=
  ⟨h.1.bel ho.2.1 hg hB, ho.self, fun f hf => by have := LV.leB_sizes (h.2.2.2.2.1.2.1 f hf); omega, grown_bel ((hg1.trans (World.grownBy_alloc w1 _ (some g))).trans h.2.2.2.2.2.2) ho.2.1⟩
/-- a new leaf's own block -/
theorem OL.beside {Bx : Nat} {w : World} {u : Value} {l : List Le} (h : OL Bx w w u l) (f : Le) : OL Bx w (w.alloc (.cells #[.string f.n, .string f.v] 34)) u l := h.later ((Below.refl _ _).alloc (Nat.le_refl _) _)
theorem leaf_new (w : World) (f : Le) : Hid ((w.alloc (.cells #[.string f.n, .string f.v] 34)).rangeAt w.heap.size 0 (lcs f)) := range_new _ [.string f.n, .string f.v] 34

end Go.Proofs.YtmcejkfknbjjkaaGreatDoor
