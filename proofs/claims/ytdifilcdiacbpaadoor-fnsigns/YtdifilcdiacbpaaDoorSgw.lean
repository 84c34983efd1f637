/-
  What 'with' and 'sidesOf' of a pool answer.
-/
import Derived.Test.YtdifilcdiacbpaaDoorRooti
import Derived.Test.YtdifilcdiacbpaaDoorLkt
import Derived.Test.YtdifilcdiacbpaaDoorRsg
namespace Go.Proofs.YtdifilcdiacbpaaDoor
open Go.RowKit Go.BigFrame
set_option linter.unusedVariables false
set_option linter.unusedSimpArgs false

/-- an array of texts, answered -/
theorem ret_arr1 {fn : Func} {Rp : Ending → World → Prop} {a : Act} {w : World} (c g t n : Nat) (ty e : TypeId) (l : List ByteArray) (hres : fn.results = #[.cell c ty]) (hd : a.defers = []) (hp : a.tmps.getD c undef = .pointer (some ⟨g, 0, none⟩))
    (hA : TA w g t l) (hl : l.length = n) (hu : Tryd.prog.underlying ty = some (.array n e)) (hi : (Tryd.prog.info? ty).map (·.size) = some n) (h : Rp (.returned (.agg (svs l).toArray)) w) : bodyPost Tryd.prog fn Rp .ret a w := by
  have hr := run_loadVar_row (P := Tryd.prog) w g t ty _ (0, 0) _ hA hu rfl (by rw [svs_size, hl]; exact hi)
  refine bodyPost_ret (v := .agg (svs l).toArray) ?_ hd h
  have hp' : a.tmps[c]?.getD undef = .pointer (some ⟨g, 0, none⟩) := by simpa using hp
  simp [results, hres, asAddr, hr, hp']

/-- the sides of a place -/
def sdN (l : List ByteArray) (a : Nat) : Nat → List ByteArray
  | 0 => []
  | m + 1 => sdN l a m ++ [gB (upN l m) ((a / 2 ^ m) ^^^ 1)]
theorem sdN_len (l : List ByteArray) (a m : Nat) : (sdN l a m).length = m := by
  induction m with
  | zero => rfl
  | succ m ih => simp [sdN, ih]
theorem SS.keptG {w w' : World} {v : Value} {g o : Nat} {row : Option Nat} {l : List ByteArray} (h : SS w v g o l) (hg : w.grownBy w' row) (hne : some g ≠ row) : SS w' v g o l := by
  obtain ⟨a, cap, hv, hl, hA, hc⟩ := h
  refine ⟨a, cap, hv, hl, hA, fun j hj => ?_⟩
  have h1 := hc j hj
  have hlt : g < w.heap.size := by
    by_cases hx : g < w.heap.size
    · exact hx
    · have : w.heap[g]? = none := Array.getElem?_eq_none (by omega)
      simp [World.cell?, this] at h1
  exact (World.cell?_of_block (w := w) (w' := w') (a := ⟨g, o + j, none⟩) (hg.block g hlt hne)).trans h1
theorem hashB_small (k : Int) (l : List ByteArray) : (hashB k l 16).size ≤ 1048576 := by
  by_cases h : tagOk k l = true
  · rw [hashB_size h]; omega
  · unfold hashB; rw [if_neg h]; simp [ByteArray.size]
theorem upN_small (l : List ByteArray) (hs : ∀ j, (gB l j).size ≤ 1048576) : ∀ m j, (gB (upN l m) j).size ≤ 1048576
  | 0, j => hs j
  | m + 1, j => by
    by_cases h : j < (upN l (m + 1)).length
    · have e : upN l (m + 1) = upL (upN l m) := rfl
      rw [e] at h ⊢
      rw [← gB_eq _ _ h, upL_at]
      exact hashB_small _ _
    · unfold gB
      rw [List.getD_eq_getElem?_getD, List.getElem?_eq_none (by omega)]
      simp
theorem xor_i (q : Nat) (h : q ≤ 15) : bits BinOp.xor IntKind.i64 (q : Int) 1 = ((q ^^^ 1 : Nat) : Int) := by
  have : ∀ q : Fin 16, bits BinOp.xor IntKind.i64 ((q.val : Nat) : Int) 1 = ((q.val ^^^ 1 : Nat) : Int) := by decide
  exact this ⟨q, by omega⟩
theorem xor1 (q : Nat) (h : q ≤ 15) : q ^^^ 1 ≤ 15 ∧ (∀ n, n % 2 = 0 → q < n → q ^^^ 1 < n) := by
  have e : q ^^^ 1 = if q % 2 = 0 then q + 1 else q - 1 := by
    have : ∀ q : Fin 16, q.val ^^^ 1 = if q.val % 2 = 0 then q.val + 1 else q.val - 1 := by decide
    exact this ⟨q, by omega⟩
  rw [e]
  constructor
  · split <;> omega
  · intro n hn hq
    split <;> omega

/-- what each round of sidesOf holds -/
def SdR (l : List ByteArray) (a : Nat) (w : World) (p v r i : Value) (wr : World) : Prop :=
  ∃ m : Nat, m ≤ 4 ∧ i = .int .i64 m ∧ p = .int .i64 (a / 2 ^ m : Nat) ∧ OS w.heap.size w wr v (sdN l a m) ∧ ∃ g, r = .slice (some ⟨g, 0, none⟩) (16 / 2 ^ m) (16 / 2 ^ m) ∧ SS wr r g 0 (upN l m) ∧ some g ≠ v.ownBlock

end Go.Proofs.YtdifilcdiacbpaaDoor
