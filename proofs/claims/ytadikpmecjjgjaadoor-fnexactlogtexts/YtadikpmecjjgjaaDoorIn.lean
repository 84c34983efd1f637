/-
  Rows of numbers that a law takes over, compares and marks; a disk marked, and held against its marks.
-/
import Derived.Test.YtadikpmecjjgjaaDoorLs
namespace Go.Proofs.YtadikpmecjjgjaaDoor
open Go.RowKit Go.BigFrame Go.Sort
set_option linter.unusedVariables false
set_option linter.unusedSimpArgs false

/-- a row of numbers that may be written, from the head of block g on -/
def IW (w : World) (v : Value) (g : Nat) (l : List Int) : Prop := ∃ a cap, v = .slice a l.length cap ∧ l.length ≤ 1100000 ∧ (0 < l.length → a = some ⟨g, 0, none⟩ ∧ g < w.heap.size) ∧ ∀ j (h : j < l.length), w.cell? ⟨g, j, none⟩ = some (.int .i64 l[j]) ∧ w.frozen? ⟨g, j, none⟩ = false
theorem IW.rs {w : World} {v : Value} {g : Nat} {l : List Int} (h : IW w v g l) : RS 1 ics w v g 0 l := by
  obtain ⟨a, c, hv, hl, h0, hc⟩ := h
  exact ⟨a, c, hv, hl, h0, fun j hj => range1 (by rw [Nat.zero_add, Nat.mul_one]; exact (hc j hj).1)⟩
theorem IW.later {w w' : World} {v : Value} {g : Nat} {l : List Int} (h : IW w v g l) (hb : Below w.heap.size w w') : IW w' v g l := by
  obtain ⟨a, c, hv, hl, h0, hc⟩ := h
  exact ⟨a, c, hv, hl, fun hp => ⟨(h0 hp).1, Nat.lt_of_lt_of_le (h0 hp).2 hb.size⟩, fun j hj => by
    have he := hb.block g (h0 (by omega)).2
    rw [cell_kept he, frozen_kept he]
    exact hc j hj⟩
theorem IW.grown {w w' : World} {v : Value} {g : Nat} {l : List Int} {row : Option Nat} (h : IW w v g l) (hg : w.grownBy w' row) (hne : 0 < l.length → some g ≠ row) : IW w' v g l := by
  obtain ⟨a, c, hv, hl, h0, hc⟩ := h
  exact ⟨a, c, hv, hl, fun hp => ⟨(h0 hp).1, Nat.lt_of_lt_of_le (h0 hp).2 hg.size⟩, fun j hj => by
    have he := hg.block g (h0 (by omega)).2 (hne (by omega))
    rw [cell_kept he, frozen_kept he]
    exact hc j hj⟩
theorem IW.lt {w : World} {v : Value} {g : Nat} {l : List Int} (h : IW w v g l) : 0 < l.length → g < w.heap.size := by
  obtain ⟨a, c, hv, hl, h0, hc⟩ := h
  exact fun hp => (h0 hp).2

def ToI (w : World) (l : List Int) (i : Value) (wr : World) : Prop := ∃ m : Nat, m ≤ l.length ∧ i = .int .i64 m ∧ Hid ((∀ j (h : j < l.length), j < m → wr.cell? ⟨w.heap.size, j, none⟩ = some (.int .i64 l[j])) ∧ (∀ j, j < l.length → (∃ u, wr.cell? ⟨w.heap.size, j, none⟩ = some u) ∧ wr.frozen? ⟨w.heap.size, j, none⟩ = false) ∧ Below w.heap.size w wr ∧ w.heap.size < wr.heap.size)

def MiR (w : World) (g n k0 : Nat) (x i : Value) (wr : World) : Prop := ∃ m : Nat, m ≤ n ∧ i = .int .i64 m ∧ x = .int .i64 (k0 + m : Nat) ∧ Hid ((∀ j, j < n → (∃ u, wr.cell? ⟨g, j, none⟩ = some u) ∧ wr.frozen? ⟨g, j, none⟩ = false) ∧ w.grownBy wr (rowF g n))

set_option maxRecDepth 100000 in
set_option maxHeartbeats 1000000 in
theorem markDisk_any (s : Value) (g : Nat) (l : List Fl) (x : Int) (k0 : Nat) (w : World) (hx : x = (k0 : Int)) (h : RW 3 fcs w s g l) (h0 : 0 < k0) (hk : k0 ≤ 10000000) :
    Calls Tryd.prog 17 #[.agg #[s], .int .i64 x] w fun e w' => e = .returned (.int .i64 (k0 + 3 * l.length : Nat)) ∧ RW 3 fcs w' s g (fmarks k0 l.length) ∧ w.grownBy w' (rowF g l.length) := by
  have hsh := h.1.shape
  obtain ⟨N, hN⟩ : ∃ N : Nat, k0 + 3 * l.length = N := ⟨_, rfl⟩
  obtain ⟨n, hn⟩ : ∃ n : Nat, l.length = n := ⟨_, rfl⟩
  have hb : Below w.heap.size w (w.alloc (.cells #[s] 36)) := (Below.refl _ _).alloc (Nat.le_refl _) _
  have HC := markFileS_any s g l x k0 _ hx (h.later hb) h0 hk
  rw [hN] at HC ⊢
  rw [hn] at HC hsh ⊢
  obtain ⟨a, cap, hs⟩ := hsh
  subst hs
  have HB : Hid (w.grownBy (w.alloc (.cells #[.slice a n cap] 36)) (rowF g n)) := grown_below hb
  generalize fmarks k0 n = F at *
  clear h hb hN hn h0 hk hx
  go_enter Tryd.func17, Tryd.ntmps17
  go_wp2_with fail
  refine HC.mono ?_
  rintro e w1 ⟨rfl, hrw, hg⟩
  have HR : Hid (RW 3 fcs w1 (.slice a n cap) g F ∧ w.grownBy w1 (rowF g n)) := ⟨hrw, HB.out.trans hg⟩
  clear hrw hg HC HB
  go_wp2
  go_ret
  exact ⟨rfl, HR.out.1, HR.out.2⟩

end Go.Proofs.YtadikpmecjjgjaaDoor
