/-
  A drawn list, level, place and width.
-/
import Derived.Test.YtmcejkfknbjjkaaGreatDoorAn
import Derived.Test.YtmcejkfknbjjkaaGreatDoorPkJ
namespace Go.Proofs.YtmcejkfknbjjkaaGreatDoor
open Go.RowKit Go.BigFrame Go.Sort
set_option linter.unusedVariables false
set_option linter.unusedSimpArgs false

/-- one of a list of numbers that is written out -/
theorem pickI_lit (B : Nat) (w0 w : World) (g : Nat) (v : Value) (n : Nat) (zs : List Int) (cs : Array Value) (hc1 : Cur B w0 w g v) (hn : zs.length = n) (h0 : 0 < n) (h1 : n ≤ 1000000)
    (hcell : Hid (∀ j, (h : j < zs.length) → (w.alloc (.cells cs 3)).cell? ⟨w.heap.size, j, none⟩ = some (.int .i64 zs[j]))) :
    Hid (Calls Tryz.prog 48 #[.pointer (some ⟨g, 0, none⟩), .slice (some ⟨w.heap.size, 0, none⟩) n n] (w.alloc (.cells cs 3)) fun e w' => ∃ y : Int, y ∈ zs ∧ e = .returned (.int .i64 y) ∧ Cur B w0 w' g v ∧ w.grownBy w' (some g)) := by
  have hca : Cur B w0 (w.alloc (.cells cs 3)) g v := hc1.kept (World.grownBy_alloc w _ none) (by simp) hc1.size (fun k hk => by cases hk)
  have hga : w.grownBy (w.alloc (.cells cs 3)) (some g) := World.grownBy_alloc w _ (some g)
  have hgl := hc1.lt
  have cP := l01PickInt_in B w0 (w.alloc (.cells cs 3)) g v w.heap.size n zs hca (by omega) (by omega) (by omega) (by simp) hcell
  rw [hn] at cP
  exact cP.mono fun e w' ⟨y, hy, he, hc, hg⟩ => ⟨y, hy, he, hc, hga.trans hg⟩
def wideL : List Int := [16, 16, 1, 32, 2, 0, 33]
def wideC : Array Value := #[.int .i64 16, .int .i64 16, .int .i64 1, .int .i64 32, .int .i64 2, .int .i64 0, .int .i64 33]
theorem wide_at (w : World) : Hid (∀ j, (h : j < wideL.length) → (w.alloc (.cells wideC 3)).cell? ⟨w.heap.size, j, none⟩ = some (.int .i64 wideL[j])) := by
  intro j hj
  rw [World.cell?_alloc_at _ _ _ _ rfl]
  have : j = 0 ∨ j = 1 ∨ j = 2 ∨ j = 3 ∨ j = 4 ∨ j = 5 ∨ j = 6 := by simp [wideL] at hj; omega
  rcases this with rfl | rfl | rfl | rfl | rfl | rfl | rfl <;> rfl
def lvlL : List Int := [0, 1, 2, 3, 8, 7, 9, -1]
def lvlC : Array Value := #[.int .i64 0, .int .i64 1, .int .i64 2, .int .i64 3, .int .i64 8, .int .i64 7, .int .i64 9, .int .i64 (-1)]
theorem lvl_at (w : World) : Hid (∀ j, (h : j < lvlL.length) → (w.alloc (.cells lvlC 3)).cell? ⟨w.heap.size, j, none⟩ = some (.int .i64 lvlL[j])) := by
  intro j hj
  rw [World.cell?_alloc_at _ _ _ _ rfl]
  have : j = 0 ∨ j = 1 ∨ j = 2 ∨ j = 3 ∨ j = 4 ∨ j = 5 ∨ j = 6 ∨ j = 7 := by simp [lvlL] at hj; omega
  rcases this with rfl | rfl | rfl | rfl | rfl | rfl | rfl | rfl <;> rfl
def plcL : List Int := [-1, 256, 1]
def plcC : Array Value := #[.int .i64 (-1), .int .i64 256, .int .i64 1]
theorem plc_at (w : World) : Hid (∀ j, (h : j < plcL.length) → (w.alloc (.cells plcC 3)).cell? ⟨w.heap.size, j, none⟩ = some (.int .i64 plcL[j])) := by
  intro j hj
  rw [World.cell?_alloc_at _ _ _ _ rfl]
  have : j = 0 ∨ j = 1 ∨ j = 2 := by simp [plcL] at hj; omega
  rcases this with rfl | rfl | rfl <;> rfl
/-- four values, answered -/
theorem ret_fourT {fn : Func} {Rp : Ending → World → Prop} {a : Act} {w : World} (i j k m : Nat) (v0 v1 v2 v3 : Value) (hres : fn.results = #[.tmp i, .tmp j, .tmp k, .tmp m]) (hd : a.defers = []) (h0 : a.tmps.getD i undef = v0) (h1 : a.tmps.getD j undef = v1) (h2 : a.tmps.getD k undef = v2) (h3 : a.tmps.getD m undef = v3)
    (h : Rp (.returned (.tuple #[v0, v1, v2, v3])) w) : bodyPost Tryz.prog fn Rp .ret a w := by
  refine bodyPost_ret (v := .tuple #[v0, v1, v2, v3]) ?_ hd h
  have h0' : a.tmps[i]?.getD undef = v0 := by simpa using h0
  have h1' : a.tmps[j]?.getD undef = v1 := by simpa using h1
  have h2' : a.tmps[k]?.getD undef = v2 := by simpa using h2
  have h3' : a.tmps[m]?.getD undef = v3 := by simpa using h3
  simp [results, hres, h0', h1', h2', h3']

/-- what DrawNodeHash gives -/
def DnA (w : World) (e : Ending) (w' : World) : Prop := ∃ (u : Value) (q : Nat) (L : List Le) (y z x : Int), e = .returned (.tuple #[u, .int .i64 y, .int .i64 z, .int .i64 x]) ∧ SmallL L ∧ L.length ≤ 25 ∧ RS 2 lcs w' u q 0 L ∧ Below w.heap.size w w'

end Go.Proofs.YtmcejkfknbjjkaaGreatDoor
