/-
  What the specification's cursor over drawn bytes gives: some byte, some number below a bound, some text.
-/
import Derived.Test.YtjfdgidhgijheaaDoorOwn
import Derived.Deep.QuietTactic
import Derived.BigQuiet
import Derived.Maps.AppendAt
namespace Go.Proofs.YtjfdgidhgijheaaDoor
open Go.RowKit
set_option linter.unusedVariables false

/-- the bytes of a draw: a slice whose cells hold bytes, in blocks below B -/
def Code (B : Nat) (w : World) (v : Value) : Prop :=
  ∃ (ao : Option Addr) (b off len cap : Nat), v = .slice ao len cap ∧ len ≤ 1048576 ∧ (0 < len → ao = some ⟨b, off, none⟩ ∧ b < B) ∧ ∀ j, j < len → ∃ n : Nat, n ≤ 255 ∧ w.cell? ⟨b, off + j, none⟩ = some (.int .u8 (n : Int))

/-- a cursor in block g, from B on; below B all is as it was in w0, the drawn bytes among it -/
def Cur (B : Nat) (w0 w : World) (g : Nat) (v : Value) : Prop :=
  B ≤ g ∧ Below B w0 w ∧ Code B w0 v ∧ ∃ (i : Nat) (h : Int), w.heap[g]? = some (.cells #[v, .int .i64 (i : Int), .int .i64 h] 56 (0, 0)) ∧ i ≤ 1048576

theorem Cur.lt {B : Nat} {w0 w : World} {g : Nat} {v : Value} (h : Cur B w0 w g v) : g < w.heap.size := by
  obtain ⟨_, _, _, i, x, hb, _⟩ := h
  exact (Array.getElem?_eq_some_iff.1 hb).1

/-- a cursor stays one behind what does not touch its block -/
theorem Cur.kept {B : Nat} {w0 w w' : World} {g : Nat} {v : Value} {row : Option Nat} (h : Cur B w0 w g v) (hg : w.grownBy w' row) (hne : some g ≠ row) (hB : B ≤ w.heap.size) (hr : ∀ k, row = some k → B ≤ k) : Cur B w0 w' g v := by
  have hlt := h.lt
  obtain ⟨h1, h2, h3, i, x, hb, h4⟩ := h
  exact ⟨h1, h2.grown hg hB hr, h3, i, x, by rw [hg.block g hlt hne]; exact hb, h4⟩

theorem and255 (X : Int) : ∃ n : Nat, n ≤ 255 ∧ bits .and .i64 X 255 = (n : Int) := by
  have h255 : (BitVec.ofInt 64 255).toNat = 255 := by decide
  have hle : (BitVec.ofInt 64 X &&& BitVec.ofInt 64 255).toNat ≤ 255 := by
    rw [BitVec.toNat_and, h255]
    exact Nat.and_le_right
  refine ⟨(BitVec.ofInt 64 X &&& BitVec.ofInt 64 255).toNat, hle, ?_⟩
  have e : bits .and .i64 X 255 = IntKind.i64.wrap ((BitVec.ofInt 64 X &&& BitVec.ofInt 64 255).toNat : Int) := rfl
  rw [e, IntWalk.i64_in _ (by omega)]

theorem grown_set (w : World) (g j : Nat) (u : Value) : w.grownBy (w.setCell ⟨g, j, none⟩ u) (some g) :=
  ⟨rfl, rfl, rfl, by simp, fun k _ hk => heap_setCell_other w ⟨g, j, none⟩ k u (fun e => hk (by simp [e]))⟩
theorem grown_drn {a w : World} {row : Option Nat} (h : a.grownBy w row) (n : Nat) : a.grownBy (w.drewN n) row := ⟨h.os, h.tape, h.output, h.size, h.block⟩

theorem Cur.drn {B : Nat} {w0 w : World} {g : Nat} {v : Value} (h : Cur B w0 w g v) (n : Nat) : Cur B w0 (w.drewN n) g v :=
  ⟨h.1, h.2.1.trans ⟨rfl, rfl, rfl, Nat.le_refl _, fun _ _ => rfl⟩, h.2.2.1, h.2.2.2⟩

/-- what one store into a cursor leaves, and two -/
theorem cur_one {B : Nat} {w0 w : World} {g : Nat} {v : Value} {i : Nat} {h : Int} (hg : B ≤ g) (hbel : Below B w0 w) (hcode : Code B w0 v)
    (hblk : w.heap[g]? = some (.cells #[v, .int .i64 (i : Int), .int .i64 h] 56 (0, 0))) (h' : Int) (hi : i ≤ 1048576) :
    Cur B w0 (w.setCell ⟨g, 2, none⟩ (.int .i64 h')) g v := by
  have e1 := heap_setCell_same w g 2 _ 56 (.int .i64 h') hblk
  exact ⟨hg, Below.setCell hbel (p := ⟨g, 2, none⟩) hg _, hcode, i, h', by simpa using e1, hi⟩
theorem cur_two {B : Nat} {w0 w : World} {g : Nat} {v : Value} {i : Nat} {h : Int} (hg : B ≤ g) (hbel : Below B w0 w) (hcode : Code B w0 v)
    (hblk : w.heap[g]? = some (.cells #[v, .int .i64 (i : Int), .int .i64 h] 56 (0, 0))) (h' : Int) (i' : Nat) (hi : i' ≤ 1048576) :
    Cur B w0 ((w.setCell ⟨g, 2, none⟩ (.int .i64 h')).setCell ⟨g, 1, none⟩ (.int .i64 (i' : Int))) g v := by
  have e1 := heap_setCell_same w g 2 _ 56 (.int .i64 h') hblk
  have e2 := heap_setCell_same (w.setCell ⟨g, 2, none⟩ (.int .i64 h')) g 1 _ 56 (.int .i64 (i' : Int)) e1
  exact ⟨hg, Below.setCell (Below.setCell hbel (p := ⟨g, 2, none⟩) hg _) (p := ⟨g, 1, none⟩) hg _, hcode, i', h', by simpa using e2, hi⟩

set_option maxRecDepth 100000 in
set_option maxHeartbeats 1000000 in
theorem l01Byte_in (B : Nat) (w0 w : World) (g : Nat) (v : Value) (hc : Cur B w0 w g v) :
    Calls Tryd.prog 34 #[.pointer (some ⟨g, 0, none⟩)] w fun e w' => ∃ x : Nat, x ≤ 255 ∧ e = .returned (.int .i64 x) ∧ Cur B w0 w' g v ∧ w.grownBy w' (some g) := by
  obtain ⟨hg, hbel, hcode, i, h, hblk, hi1⟩ := hc
  have HC : Hid (Code B w0 v) := hcode
  obtain ⟨ao, b, off, len, cap, rfl, hl, hao, hcells⟩ := hcode
  have c0 : w.cell? ⟨g, 0, none⟩ = some (.slice ao len cap) := by simp [World.cell?, hblk]
  have c1 : w.cell? ⟨g, 1, none⟩ = some (.int .i64 (i : Int)) := by simp [World.cell?, hblk]
  have c2 : w.cell? ⟨g, 2, none⟩ = some (.int .i64 h) := by simp [World.cell?, hblk]
  have f2 : w.frozen? ⟨g, 2, none⟩ = false := by simp [World.frozen?, hblk]
  have f1 : w.frozen? ⟨g, 1, none⟩ = false := by simp [World.frozen?, hblk]
  have HB : Hid (w.heap[g]? = some (.cells #[.slice ao len cap, .int .i64 (i : Int), .int .i64 h] 56 (0, 0))) := hblk
  have HBel : Hid (Below B w0 w) := hbel
  by_cases hlt : i < len
  · obtain ⟨hao1, hbB⟩ := hao (by omega)
    subst hao1
    obtain ⟨z, hz, hcz⟩ := hcells i hlt
    have hczw : w.cell? ⟨b, off + i, none⟩ = some (.int .u8 (z : Int)) := (hbel.cell (p := ⟨b, off + i, none⟩) hbB).trans hcz
    have hbg : b ≠ g := by omega
    clear hcells hao hblk hbel hcz
    go_enter Tryd.func34, Tryd.ntmps34
    go_wp2
    generalize hH : wrap64 (wrap64 (h * 6364136223846793005) + 1442695040888963407) = h' at *
    clear hH
    go_quiet (fail)
    go_wp2
    obtain ⟨n, hn, hne⟩ := and255 (bits BinOp.xor IntKind.i64 (h' / 8589934592) (h' / 35184372088832))
    rw [hne]
    clear hne
    go_quiet (fail)
    go_wp2
    go_quiet (fail)
    go_wp2
    obtain ⟨m, hm, hme⟩ := and255 ((n : Int) + (z : Int))
    rw [hme]
    have e1 : ((i : Int) + 1) = ((i + 1 : Nat) : Int) := by omega
    rw [e1]
    go_ret
    exact ⟨m, hm, rfl, (cur_two hg HBel.out HC.out HB.out h' (i + 1) (by omega)).drn _, grown_drn ((grown_set w g 2 _).trans (grown_set _ g 1 _)) _⟩
  · clear hcells hao hblk hbel
    go_enter Tryd.func34, Tryd.ntmps34
    go_wp2
    generalize hH : wrap64 (wrap64 (h * 6364136223846793005) + 1442695040888963407) = h' at *
    clear hH
    go_quiet (fail)
    go_wp2
    obtain ⟨n, hn, hne⟩ := and255 (bits BinOp.xor IntKind.i64 (h' / 8589934592) (h' / 35184372088832))
    rw [hne]
    clear hne
    go_quiet (fail)
    go_wp2
    go_ret
    exact ⟨n, hn, rfl, ((cur_one hg HBel.out HC.out HB.out h' hi1).drn _).drn _, grown_drn (grown_drn (grown_set w g 2 _) _) _⟩

end Go.Proofs.YtjfdgidhgijheaaDoor
