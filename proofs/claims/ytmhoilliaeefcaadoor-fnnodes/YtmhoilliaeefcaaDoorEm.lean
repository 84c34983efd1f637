/-
  Places where nothing is: the chain of empty nodes, and the specification's row of their hashes.
-/
import Derived.Test.YtmhoilliaeefcaaDoorTbl
import Derived.Test.YtmhoilliaeefcaaDoorTm
import Derived.Deep.RegionHeld3
namespace Go.Proofs.YtmhoilliaeefcaaDoor
open Go.RowKit Go.BigFrame
set_option linter.unusedVariables false
set_option linter.unusedSimpArgs false

/-- the hash of a place of two -/
def hnB (x : Int) (a b : ByteArray) : ByteArray := hashB 3 [a, b] x
/-- the hash of nothing, k levels above the buckets -/
def empB (x : Int) (k : Nat) : ByteArray := TR.emp (hnB x) (hashB 1 [] x) k
theorem empB_zero (x : Int) : empB x 0 = hashB 1 [] x := rfl
theorem empB_up (x : Int) (k : Nat) : empB x (k + 1) = hashB 3 [empB x k, empB x k] x := rfl

/-- v points to an empty node of this height, those below it behind it -/
def EmN (x : Int) (w : World) : Nat → Value → Prop
  | 0, v => ∃ g, v = .pointer (some ⟨g, 0, none⟩) ∧ w.cell? ⟨g, 0, none⟩ = some (.pointer none) ∧ w.cell? ⟨g, 1, none⟩ = some (.string (empB x 0))
  | k + 1, v => ∃ g b, v = .pointer (some ⟨g, 0, none⟩) ∧ w.cell? ⟨g, 0, none⟩ = some b ∧ w.cell? ⟨g, 1, none⟩ = some (.string (empB x (k + 1))) ∧ EmN x w k b
theorem cell_later {w w' : World} {p : Addr} {v : Value} (h : w.cell? p = some v) (hb : Below w.heap.size w w') : w'.cell? p = some v := by
  have hp : p.block < w.heap.size := by
    rcases Nat.lt_or_ge p.block w.heap.size with hz | hz
    · exact hz
    · simp [World.cell?, Array.getElem?_eq_none hz] at h
  exact (hb.cell hp).trans h
theorem EmN.later {x : Int} {w w' : World} (hb : Below w.heap.size w w') : ∀ {k : Nat} {v : Value}, EmN x w k v → EmN x w' k v
  | 0, v, ⟨g, h1, h2, h3⟩ => ⟨g, h1, cell_later h2 hb, cell_later h3 hb⟩
  | k + 1, v, ⟨g, b, h1, h2, h3, h4⟩ => ⟨g, b, h1, cell_later h2 hb, cell_later h3 hb, EmN.later hb h4⟩
/-- its hash stands there -/
theorem EmN.made {x : Int} {w : World} : ∀ {k : Nat} {v : Value}, EmN x w k v → ∃ g, v = .pointer (some ⟨g, 0, none⟩) ∧ w.cell? ⟨g, 1, none⟩ = some (.string (empB x k))
  | 0, v, ⟨g, h1, _, h3⟩ => ⟨g, h1, h3⟩
  | k + 1, v, ⟨g, b, h1, _, h3, _⟩ => ⟨g, h1, h3⟩

theorem taggedHash_none (x : Int) (w : World) (hT : Tb w) :
    Calls Tryd.prog 64 #[.int .i64 x, .int .i64 1, .slice none 0 0] w fun e w' => e = .returned (.string (hashB 1 [] x)) ∧ Below w.heap.size w w' :=
  taggedHash_any x 1 _ 0 0 [] w ⟨none, 0, rfl, by simp, fun h => absurd h (by simp), fun j h => absurd h (by simp)⟩ hT.1 hT.2

set_option maxRecDepth 100000 in
set_option maxHeartbeats 1000000 in
theorem emptyAt_any (x : Int) : ∀ (k : Nat) (l : Int) (w : World), l + (k : Int) = 8 → k ≤ 8 → Tb w →
    Calls Tryd.prog 71 #[.int .i64 l, .int .i64 x] w fun e w' => ∃ v, e = .returned v ∧ EmN x w' k v ∧ Below w.heap.size w w'
  | 0, l, w, hl, hk, hT => by
    have e : l = 8 := by omega
    subst e
    have hc := taggedHash_none x w hT
    clear hT
    rw [← empB_zero] at hc
    have HE : Hid (∀ w1, Below w.heap.size w w1 → EmN x (w1.alloc (.cells #[.pointer none, .string (empB x 0)] 120)) 0 (.pointer (some ⟨w1.heap.size, 0, none⟩)) ∧ Below w.heap.size w (w1.alloc (.cells #[.pointer none, .string (empB x 0)] 120))) := fun w1 hb => by
      refine ⟨⟨w1.heap.size, rfl, ?_, ?_⟩, hb.alloc hb.size _⟩
      · rw [World.cell?_alloc_at _ _ _ _ rfl]; rfl
      · rw [World.cell?_alloc_at _ _ _ _ rfl]; rfl
    generalize empB x 0 = E at *
    go_enter Tryd.func71, Tryd.ntmps71
    go_wp2_with fail
    refine hc.mono ?_
    rintro e w1 ⟨rfl, hb1⟩
    clear hc
    go_wp2_with fail
    go_ret
    exact ⟨_, rfl, HE.out _ hb1⟩
  | k + 1, l, w, hl, hk, hT => by
    have hc := emptyAt_any x k (l + 1) w (by omega) (by omega) hT
    have HT : Hid (Tb w) := hT
    have q : (l == 8) = false := by simp; omega
    have l0 : 0 ≤ l := by omega
    have l1 : l < 8 := by omega
    have HE : Hid (∀ w1 w2 g, Below w.heap.size w w1 → Below w1.heap.size w1 w2 → EmN x w1 k (.pointer (some ⟨g, 0, none⟩)) → EmN x (w2.alloc (.cells #[.pointer (some ⟨g, 0, none⟩), .string (empB x (k + 1))] 120)) (k + 1) (.pointer (some ⟨w2.heap.size, 0, none⟩)) ∧ Below w.heap.size w (w2.alloc (.cells #[.pointer (some ⟨g, 0, none⟩), .string (empB x (k + 1))] 120))) := fun w1 w2 g hb1 hb2 he => by
      have h2 : Below w.heap.size w w2 := hb1.trans (hb2.mono hb1.size)
      refine ⟨⟨w2.heap.size, .pointer (some ⟨g, 0, none⟩), rfl, ?_, ?_, he.later (hb2.alloc hb2.size _)⟩, h2.alloc h2.size _⟩
      · rw [World.cell?_alloc_at _ _ _ _ rfl]; rfl
      · rw [World.cell?_alloc_at _ _ _ _ rfl]; rfl
    clear hT hl hk
    go_enter Tryd.func71, Tryd.ntmps71
    go_wp2_with fail
    refine hc.mono ?_
    rintro e w1 ⟨v, rfl, he, hb1⟩
    obtain ⟨g, rfl, c1⟩ := he.made
    have HX : Hid (EmN x w1 k (.pointer (some ⟨g, 0, none⟩))) := he
    have HCT := taggedHash_wd x 3 [empB x k, empB x k] 2 #[.string (empB x k), .string (empB x k)] w1 _ rfl rfl (by omega) rfl (HT.out.later hb1)
    rw [← empB_up] at HCT
    have hg1 : g < w1.heap.size := lt_of_cell c1
    generalize empB x (k + 1) = F at *
    generalize empB x k = E at *
    clear hc he
    go_wp2_with fail
    go_region_held3 (fun W => W.cell? ⟨g, 1, none⟩ = some (.string E)) (first | go_keep | exact (hb2.cell (p := ⟨g, 1, none⟩) hg1).trans c1) ((go_at_call 64; refine HCT.out.mono ?_; rintro e w2 ⟨rfl, hb2⟩))
    go_wp2_with fail
    go_ret
    exact ⟨_, rfl, HE.out w1 w2 g hb1 hb2 HX.out⟩

end Go.Proofs.YtmhoilliaeefcaaDoor
