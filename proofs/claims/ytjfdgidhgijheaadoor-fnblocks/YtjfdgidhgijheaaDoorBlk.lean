/-
  What the specification makes of a block.
-/
import Derived.Test.YtjfdgidhgijheaaDoorWhole
import Derived.BigFrame
import Derived.BigRegion
namespace Go.Proofs.YtjfdgidhgijheaaDoor
open Go.RowKit
set_option linter.unusedVariables false


/-- the blocks of the function's arrays, and what they hold -/
structure BS (w wr : World) (h k r W : Nat → UInt32) : Prop where
  hh : Arr wr w.heap.size 39 8 h
  kk : Arr wr (w.heap.size + 1) 50 64 k
  rr : Arr wr (w.heap.size + 1 + 1) 39 8 r
  ww : Arr wr (w.heap.size + 1 + 1 + 1) 50 64 W
  bel : Below w.heap.size w wr
  sz : wr.heap.size = w.heap.size + 1 + 1 + 1 + 1

theorem BS.start (w : World) (Hc Kc : Array Value) (h k : Nat → UInt32) (hH : AggIs Hc 8 h) (hK : AggIs Kc 64 k) :
    BS w ((((w.alloc (.cells Hc 39)).alloc (.cells Kc 50)).alloc (.cells (zeros 8) 39)).alloc (.cells (zeros 64) 50)) h k (fun _ => 0) (fun _ => 0) := by
  have a1 := Arr.new w Hc 39 8 h hH.1 hH.2
  have a2 := Arr.new (w.alloc (.cells Hc 39)) Kc 50 64 k hK.1 hK.2
  have a3 := Arr.new ((w.alloc (.cells Hc 39)).alloc (.cells Kc 50)) (zeros 8) 39 8 (fun _ => 0) (zeros_size 8) (zeros_at 8)
  have a4 := Arr.new (((w.alloc (.cells Hc 39)).alloc (.cells Kc 50)).alloc (.cells (zeros 8) 39)) (zeros 64) 50 64 (fun _ => 0) (zeros_size 64) (zeros_at 64)
  refine ⟨((a1.alloc _).alloc _).alloc _, ?_, ?_, ?_, ?_, ?_⟩
  · have := (a2.alloc (.cells (zeros 8) 39)).alloc (.cells (zeros 64) 50)
    simpa using this
  · have := a3.alloc (.cells (zeros 64) 50)
    simpa using this
  · simpa using a4
  · exact ((((Below.refl _ _).alloc (Nat.le_refl _) _).alloc (by simp) _).alloc (by simp; omega) _).alloc (by simp; omega) _
  · simp

theorem BS.setW {w wr : World} {h k r W : Nat → UInt32} (s : BS w wr h k r W) (i : Nat) (hi : i < 64) (x : UInt32) :
    BS w (wr.setCell ⟨w.heap.size + 1 + 1 + 1, i, none⟩ (.int .u32 (x.toNat : Int))) h k r (H.upd W i x) :=
  ⟨s.hh.other _ _ _ (by omega), s.kk.other _ _ _ (by omega), s.rr.other _ _ _ (by omega), s.ww.set i hi x, s.bel.setCell (p := ⟨w.heap.size + 1 + 1 + 1, i, none⟩) (by show w.heap.size ≤ w.heap.size + 1 + 1 + 1; omega) _, by simpa using s.sz⟩

theorem BS.drew {w wr : World} {h k r W : Nat → UInt32} (s : BS w wr h k r W) : BS w wr.drew h k r W := ⟨s.hh, s.kk, s.rr, s.ww, s.bel.drew, s.sz⟩
theorem BS.drewN {w wr : World} {h k r W : Nat → UInt32} (s : BS w wr h k r W) (n : Nat) : BS w (wr.drewN n) h k r W := ⟨s.hh, s.kk, s.rr, s.ww, s.bel.trans ⟨rfl, rfl, rfl, Nat.le_refl _, fun _ _ => rfl⟩, s.sz⟩

def bAt (b : ByteArray) (j : Nat) : Nat := (b.data.toList.getD j 0).toNat
theorem bAt_eq (b : ByteArray) (j : Nat) (h : j < b.size) : bAt b j = b[j].toNat := by
  have hg : b.data.toList[j]? = some b[j] := by simp [ByteArray.getElem_eq_getElem_data]
  simp [bAt, List.getD, hg]

theorem run_at (b : ByteArray) (x : Int) (j : Nat) (hx : x = (j : Int)) (hj : j < b.size) (W : World) : (Instr.index 9 (.string b) (.int .i64 x)).run Tryd.prog W = .ok (.int .u8 (b[j].toNat : Int)) W := by
  subst hx
  rw [run_index_string (P := Tryd.prog) (w := W) 9 b .i64 _ Tryd.underlying9, dif_pos ⟨by omega, by omega⟩]
  simp

def L1 (w : World) (h k : Nat → UInt32) (b : ByteArray) (i : Value) (wr : World) : Prop :=
  ∃ m : Nat, m ≤ 16 ∧ i = .int .i64 m ∧ BS w wr h k (fun _ => 0) (H.wHead (bAt b) m)

def L2 (w : World) (h k : Nat → UInt32) (b : ByteArray) (i : Value) (wr : World) : Prop :=
  ∃ n : Nat, 16 ≤ n ∧ n ≤ 64 ∧ i = .int .i64 n ∧ BS w wr h k (fun _ => 0) (H.wMore (H.wHead (bAt b) 16) (n - 16))


structure S3 (w wr : World) (h k W s : Nat → UInt32) : Prop where
  hh : Arr wr w.heap.size 39 8 h
  kk : Arr wr (w.heap.size + 1) 50 64 k
  rr : Arr wr (w.heap.size + 1 + 1) 39 8 (fun _ => 0)
  ww : Arr wr (w.heap.size + 1 + 1 + 1) 50 64 W
  ss : Arr wr (w.heap.size + 1 + 1 + 1 + 1) 39 8 s
  bel : Below w.heap.size w wr
theorem BS.copy {w wr : World} {h k W : Nat → UInt32} {R : Array Value} (s : BS w wr h k (fun _ => 0) W) (hR : AggIs R 8 h) : S3 w (wr.alloc (.cells R 39)) h k W h :=
  ⟨s.hh.alloc _, s.kk.alloc _, s.rr.alloc _, s.ww.alloc _, by have := Arr.agg (w := wr) (t := 39) hR; rw [s.sz] at this; exact this, s.bel.alloc (by rw [s.sz]; omega) _⟩
theorem S3.setS {w wr : World} {h k W s : Nat → UInt32} (q : S3 w wr h k W s) (i : Nat) (hi : i < 8) (x : UInt32) :
    S3 w (wr.setCell ⟨w.heap.size + 1 + 1 + 1 + 1, i, none⟩ (.int .u32 (x.toNat : Int))) h k W (H.upd s i x) :=
  ⟨q.hh.other _ _ _ (by omega), q.kk.other _ _ _ (by omega), q.rr.other _ _ _ (by omega), q.ww.other _ _ _ (by omega), q.ss.set i hi x, q.bel.setCell (p := ⟨w.heap.size + 1 + 1 + 1 + 1, i, none⟩) (by show w.heap.size ≤ w.heap.size + 1 + 1 + 1 + 1; omega) _⟩
theorem S3.setH {w wr : World} {h k W s : Nat → UInt32} (q : S3 w wr h k W s) (i : Nat) (hi : i < 8) (x : UInt32) :
    S3 w (wr.setCell ⟨w.heap.size, i, none⟩ (.int .u32 (x.toNat : Int))) (H.upd h i x) k W s :=
  ⟨q.hh.set i hi x, q.kk.other _ _ _ (by omega), q.rr.other _ _ _ (by omega), q.ww.other _ _ _ (by omega), q.ss.other _ _ _ (by omega), q.bel.setCell (p := ⟨w.heap.size, i, none⟩) (Nat.le_refl _) _⟩
theorem S3.drewN {w wr : World} {h k W s : Nat → UInt32} (q : S3 w wr h k W s) (n : Nat) : S3 w (wr.drewN n) h k W s := ⟨q.hh, q.kk, q.rr, q.ww, q.ss, q.bel.trans ⟨rfl, rfl, rfl, Nat.le_refl _, fun _ _ => rfl⟩⟩
theorem S3.congr {w wr : World} {h k W s s' : Nat → UInt32} (q : S3 w wr h k W s) (e : ∀ i, i < 8 → s i = s' i) : S3 w wr h k W s' := ⟨q.hh, q.kk, q.rr, q.ww, q.ss.congr e, q.bel⟩

/-- the eight stores of a round -/
theorem S3.round {w wr : World} {h k W s : Nat → UInt32} (q : S3 w wr h k W s) (kx wx n4 n0 : UInt32) (e4 : s 3 + H.one s kx wx = n4) (e0 : H.one s kx wx + H.two s = n0) :
    S3 w ((((((((wr.setCell ⟨w.heap.size + 1 + 1 + 1 + 1, 7, none⟩ (.int .u32 ((s 6).toNat : Int))).setCell ⟨w.heap.size + 1 + 1 + 1 + 1, 6, none⟩ (.int .u32 ((s 5).toNat : Int))).setCell ⟨w.heap.size + 1 + 1 + 1 + 1, 5, none⟩ (.int .u32 ((s 4).toNat : Int))).setCell ⟨w.heap.size + 1 + 1 + 1 + 1, 4, none⟩ (.int .u32 (n4.toNat : Int))).setCell ⟨w.heap.size + 1 + 1 + 1 + 1, 3, none⟩ (.int .u32 ((s 2).toNat : Int))).setCell ⟨w.heap.size + 1 + 1 + 1 + 1, 2, none⟩ (.int .u32 ((s 1).toNat : Int))).setCell ⟨w.heap.size + 1 + 1 + 1 + 1, 1, none⟩ (.int .u32 ((s 0).toNat : Int))).setCell ⟨w.heap.size + 1 + 1 + 1 + 1, 0, none⟩ (.int .u32 (n0.toNat : Int))) h k W (H.round s kx wx) := by
  have h1 := (((((((q.setS 7 (by omega) (s 6)).setS 6 (by omega) (s 5)).setS 5 (by omega) (s 4)).setS 4 (by omega) n4).setS 3 (by omega) (s 2)).setS 2 (by omega) (s 1)).setS 1 (by omega) (s 0)).setS 0 (by omega) n0
  refine h1.congr ?_
  intro i hi
  have h8 : i = 0 ∨ i = 1 ∨ i = 2 ∨ i = 3 ∨ i = 4 ∨ i = 5 ∨ i = 6 ∨ i = 7 := by omega
  rcases h8 with rfl | rfl | rfl | rfl | rfl | rfl | rfl | rfl
  · simp [H.upd, H.round, e0]
  · simp [H.upd, H.round]
  · simp [H.upd, H.round]
  · simp [H.upd, H.round]
  · simp [H.upd, H.round, e4]
  · simp [H.upd, H.round]
  · simp [H.upd, H.round]
  · simp [H.upd, H.round]

def L3 (w : World) (h k W : Nat → UInt32) (i : Value) (wr : World) : Prop :=
  ∃ n : Nat, n ≤ 64 ∧ i = .int .i64 n ∧ S3 w wr h k W (H.rounds h k W n)
/-- the sums that are made so far -/
def part (h s : Nat → UInt32) (n : Nat) : Nat → UInt32 := fun i => if i < n then h i + s i else h i
def L4 (w : World) (h k W s : Nat → UInt32) (i : Value) (wr : World) : Prop :=
  ∃ n : Nat, n ≤ 8 ∧ i = .int .i64 n ∧ S3 w wr (part h s n) k W s
theorem part_succ (h s : Nat → UInt32) (n i : Nat) : H.upd (part h s n) n (h n + s n) i = part h s (n + 1) i := by
  unfold H.upd part
  by_cases h1 : i = n
  · subst h1; simp
  · by_cases h2 : i < n
    · simp [h1, h2]; omega
    · have h3 : ¬ i < n + 1 := by omega
      simp [h1, h2, h3]
theorem part_at (h s : Nat → UInt32) (n : Nat) : part h s n n = h n := by simp [part]
theorem S3.congrH {w wr : World} {h h' k W s : Nat → UInt32} (q : S3 w wr h k W s) (e : ∀ i, i < 8 → h i = h' i) : S3 w wr h' k W s := ⟨q.hh.congr e, q.kk, q.rr, q.ww, q.ss, q.bel⟩

theorem bx' {a b c : UInt32} (h : a ^^^ b = c) : bits .xor .u32 (a.toNat : Int) (b.toNat : Int) = (c.toNat : Int) := by subst h; exact H.bx a b
theorem ba' {a b c : UInt32} (h : a &&& b = c) : bits .and .u32 (a.toNat : Int) (b.toNat : Int) = (c.toNat : Int) := by subst h; exact H.ba a b
theorem badd' {a b c : UInt32} (h : a + b = c) : ((a.toNat : Int) + (b.toNat : Int)) % 4294967296 = (c.toNat : Int) := by subst h; exact H.badd a b

theorem quiet_same2 {P : Program} {f : FuncId} {args : Array Value} {w : World} {q n : Nat} {v : Value}
    (h : Calls P f args (w.drewN (q + n)) fun e w' => e = .returned v ∧ w' = w.drewN (q + n)) : Calls P f args (w.drewN (q + n)) fun e w'' => e = .returned v ∧ ∃ m, w'' = w.drewN (q + m) :=
  h.mono fun _ _ ⟨he, hm⟩ => ⟨he, n, hm⟩
end Go.Proofs.YtjfdgidhgijheaaDoor
