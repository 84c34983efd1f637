/-
  Texts laid together: Blk, Words.
-/
import Derived.Test.YtkgibgadngeddabDoorPkEST4
import Derived.BigFrame
import Derived.BigRegion
/-
  What the specification makes of a block.
-/
namespace Go.Proofs.YtkgibgadngeddabDoor
open Go.RowKit
set_option linter.unusedVariables false


/-- the blocks of the function's arrays, and what they hold -/
structure BS (w wr : World) (h k r W : Nat → UInt32) : Prop where
  hh : Arr wr w.heap.size 60 8 h
  kk : Arr wr (w.heap.size + 1) 62 64 k
  rr : Arr wr (w.heap.size + 1 + 1) 60 8 r
  ww : Arr wr (w.heap.size + 1 + 1 + 1) 62 64 W
  bel : Below w.heap.size w wr
  sz : wr.heap.size = w.heap.size + 1 + 1 + 1 + 1

theorem BS.start (w : World) (Hc Kc : Array Value) (h k : Nat → UInt32) (hH : AggIs Hc 8 h) (hK : AggIs Kc 64 k) :
    BS w ((((w.alloc (.cells Hc 60)).alloc (.cells Kc 62)).alloc (.cells (zeros 8) 60)).alloc (.cells (zeros 64) 62)) h k (fun _ => 0) (fun _ => 0) := by
  have a1 := Arr.new w Hc 60 8 h hH.1 hH.2
  have a2 := Arr.new (w.alloc (.cells Hc 60)) Kc 62 64 k hK.1 hK.2
  have a3 := Arr.new ((w.alloc (.cells Hc 60)).alloc (.cells Kc 62)) (zeros 8) 60 8 (fun _ => 0) (zeros_size 8) (zeros_at 8)
  have a4 := Arr.new (((w.alloc (.cells Hc 60)).alloc (.cells Kc 62)).alloc (.cells (zeros 8) 60)) (zeros 64) 62 64 (fun _ => 0) (zeros_size 64) (zeros_at 64)
  refine ⟨((a1.alloc _).alloc _).alloc _, ?_, ?_, ?_, ?_, ?_⟩
  · have := (a2.alloc (.cells (zeros 8) 60)).alloc (.cells (zeros 64) 62)
    simpa using this
  · have := a3.alloc (.cells (zeros 64) 62)
    simpa using this
  · simpa using a4
  · exact ((((Below.refl _ _).alloc (Nat.le_refl _) _).alloc (by simp) _).alloc (by simp; omega) _).alloc (by simp; omega) _
  · simp

theorem BS.setW {w wr : World} {h k r W : Nat → UInt32} (s : BS w wr h k r W) (i : Nat) (hi : i < 64) (x : UInt32) :
    BS w (wr.setCell ⟨w.heap.size + 1 + 1 + 1, i, none⟩ (.int .u32 (x.toNat : Int))) h k r (H.upd W i x) :=
  ⟨s.hh.other _ _ _ (by omega), s.kk.other _ _ _ (by omega), s.rr.other _ _ _ (by omega), s.ww.set i hi x, s.bel.setCell (p := ⟨w.heap.size + 1 + 1 + 1, i, none⟩) (by show w.heap.size ≤ w.heap.size + 1 + 1 + 1; omega) _, by simpa using s.sz⟩

theorem BS.drew {w wr : World} {h k r W : Nat → UInt32} (s : BS w wr h k r W) : BS w wr.drew h k r W := ⟨s.hh, s.kk, s.rr, s.ww, s.bel.drew, s.sz⟩
theorem BS.drewN {w wr : World} {h k r W : Nat → UInt32} (s : BS w wr h k r W) (n : Nat) : BS w (wr.drewN n) h k r W := ⟨s.hh, s.kk, s.rr, s.ww, s.bel.trans ⟨rfl, rfl, rfl, Nat.le_refl _, fun _ _ => rfl⟩, s.sz⟩

def bAt (b : ByteArray) (j : Nat) : Nat := (b.data.toList.getD j 0).toNat
theorem bAt_eq (b : ByteArray) (j : Nat) (h : j < b.size) : bAt b j = b[j].toNat := by
  have hg : b.data.toList[j]? = some b[j] := by simp [ByteArray.getElem_eq_getElem_data]
  simp [bAt, List.getD, hg]

theorem run_at (b : ByteArray) (x : Int) (j : Nat) (hx : x = (j : Int)) (hj : j < b.size) (W : World) : (Instr.index 9 (.string b) (.int .i64 x)).run Tryd.prog W = .ok (.int .u8 (b[j].toNat : Int)) W := by
  subst hx
  rw [run_index_string (P := Tryd.prog) (w := W) 9 b .i64 _ Tryd.underlying9, dif_pos ⟨by omega, by omega⟩]
  simp

def L1 (w : World) (h k : Nat → UInt32) (b : ByteArray) (i : Value) (wr : World) : Prop :=
  ∃ m : Nat, m ≤ 16 ∧ i = .int .i64 m ∧ BS w wr h k (fun _ => 0) (H.wHead (bAt b) m)

def L2 (w : World) (h k : Nat → UInt32) (b : ByteArray) (i : Value) (wr : World) : Prop :=
  ∃ n : Nat, 16 ≤ n ∧ n ≤ 64 ∧ i = .int .i64 n ∧ BS w wr h k (fun _ => 0) (H.wMore (H.wHead (bAt b) 16) (n - 16))


structure S3 (w wr : World) (h k W s : Nat → UInt32) : Prop where
  hh : Arr wr w.heap.size 60 8 h
  kk : Arr wr (w.heap.size + 1) 62 64 k
  rr : Arr wr (w.heap.size + 1 + 1) 60 8 (fun _ => 0)
  ww : Arr wr (w.heap.size + 1 + 1 + 1) 62 64 W
  ss : Arr wr (w.heap.size + 1 + 1 + 1 + 1) 60 8 s
  bel : Below w.heap.size w wr
theorem BS.copy {w wr : World} {h k W : Nat → UInt32} {R : Array Value} (s : BS w wr h k (fun _ => 0) W) (hR : AggIs R 8 h) : S3 w (wr.alloc (.cells R 60)) h k W h :=
  ⟨s.hh.alloc _, s.kk.alloc _, s.rr.alloc _, s.ww.alloc _, by have := Arr.agg (w := wr) (t := 60) hR; rw [s.sz] at this; exact this, s.bel.alloc (by rw [s.sz]; omega) _⟩
theorem S3.setS {w wr : World} {h k W s : Nat → UInt32} (q : S3 w wr h k W s) (i : Nat) (hi : i < 8) (x : UInt32) :
    S3 w (wr.setCell ⟨w.heap.size + 1 + 1 + 1 + 1, i, none⟩ (.int .u32 (x.toNat : Int))) h k W (H.upd s i x) :=
  ⟨q.hh.other _ _ _ (by omega), q.kk.other _ _ _ (by omega), q.rr.other _ _ _ (by omega), q.ww.other _ _ _ (by omega), q.ss.set i hi x, q.bel.setCell (p := ⟨w.heap.size + 1 + 1 + 1 + 1, i, none⟩) (by show w.heap.size ≤ w.heap.size + 1 + 1 + 1 + 1; omega) _⟩
theorem S3.setH {w wr : World} {h k W s : Nat → UInt32} (q : S3 w wr h k W s) (i : Nat) (hi : i < 8) (x : UInt32) :
    S3 w (wr.setCell ⟨w.heap.size, i, none⟩ (.int .u32 (x.toNat : Int))) (H.upd h i x) k W s :=
  ⟨q.hh.set i hi x, q.kk.other _ _ _ (by omega), q.rr.other _ _ _ (by omega), q.ww.other _ _ _ (by omega), q.ss.other _ _ _ (by omega), q.bel.setCell (p := ⟨w.heap.size, i, none⟩) (Nat.le_refl _) _⟩
theorem S3.drewN {w wr : World} {h k W s : Nat → UInt32} (q : S3 w wr h k W s) (n : Nat) : S3 w (wr.drewN n) h k W s := ⟨q.hh, q.kk, q.rr, q.ww, q.ss, q.bel.trans ⟨rfl, rfl, rfl, Nat.le_refl _, fun _ _ => rfl⟩⟩
theorem S3.congr {w wr : World} {h k W s s' : Nat → UInt32} (q : S3 w wr h k W s) (e : ∀ i, i < 8 → s i = s' i) : S3 w wr h k W s' := ⟨q.hh, q.kk, q.rr, q.ww, q.ss.congr e, q.bel⟩

/-- the eight stores of a round -/
theorem S3.round {w wr : World} {h k W s : Nat → UInt32} (q : S3 w wr h k W s) (kx wx n4 n0 : UInt32) (e4 : s 3 + H.one s kx wx = n4) (e0 : H.one s kx wx + H.two s = n0) :
    S3 w ((((((((wr.setCell ⟨w.heap.size + 1 + 1 + 1 + 1, 7, none⟩ (.int .u32 ((s 6).toNat : Int))).setCell ⟨w.heap.size + 1 + 1 + 1 + 1, 6, none⟩ (.int .u32 ((s 5).toNat : Int))).setCell ⟨w.heap.size + 1 + 1 + 1 + 1, 5, none⟩ (.int .u32 ((s 4).toNat : Int))).setCell ⟨w.heap.size + 1 + 1 + 1 + 1, 4, none⟩ (.int .u32 (n4.toNat : Int))).setCell ⟨w.heap.size + 1 + 1 + 1 + 1, 3, none⟩ (.int .u32 ((s 2).toNat : Int))).setCell ⟨w.heap.size + 1 + 1 + 1 + 1, 2, none⟩ (.int .u32 ((s 1).toNat : Int))).setCell ⟨w.heap.size + 1 + 1 + 1 + 1, 1, none⟩ (.int .u32 ((s 0).toNat : Int))).setCell ⟨w.heap.size + 1 + 1 + 1 + 1, 0, none⟩ (.int .u32 (n0.toNat : Int))) h k W (H.round s kx wx) := by
  have h1 := (((((((q.setS 7 (by omega) (s 6)).setS 6 (by omega) (s 5)).setS 5 (by omega) (s 4)).setS 4 (by omega) n4).setS 3 (by omega) (s 2)).setS 2 (by omega) (s 1)).setS 1 (by omega) (s 0)).setS 0 (by omega) n0
  refine h1.congr ?_
  intro i hi
  have h8 : i = 0 ∨ i = 1 ∨ i = 2 ∨ i = 3 ∨ i = 4 ∨ i = 5 ∨ i = 6 ∨ i = 7 := by omega
  rcases h8 with rfl | rfl | rfl | rfl | rfl | rfl | rfl | rfl
  · simp [H.upd, H.round, e0]
  · simp [H.upd, H.round]
  · simp [H.upd, H.round]
  · simp [H.upd, H.round]
  · simp [H.upd, H.round, e4]
  · simp [H.upd, H.round]
  · simp [H.upd, H.round]
  · simp [H.upd, H.round]

def L3 (w : World) (h k W : Nat → UInt32) (i : Value) (wr : World) : Prop :=
  ∃ n : Nat, n ≤ 64 ∧ i = .int .i64 n ∧ S3 w wr h k W (H.rounds h k W n)
/-- the sums that are made so far -/
def part (h s : Nat → UInt32) (n : Nat) : Nat → UInt32 := fun i => if i < n then h i + s i else h i
def L4 (w : World) (h k W s : Nat → UInt32) (i : Value) (wr : World) : Prop :=
  ∃ n : Nat, n ≤ 8 ∧ i = .int .i64 n ∧ S3 w wr (part h s n) k W s
theorem part_succ (h s : Nat → UInt32) (n i : Nat) : H.upd (part h s n) n (h n + s n) i = part h s (n + 1) i := by
  unfold H.upd part
  by_cases h1 : i = n
  · subst h1; simp
  · by_cases h2 : i < n
    · simp [h1, h2]; omega
    · have h3 : ¬ i < n + 1 := by omega
      simp [h1, h2, h3]
theorem part_at (h s : Nat → UInt32) (n : Nat) : part h s n n = h n := by simp [part]
theorem S3.congrH {w wr : World} {h h' k W s : Nat → UInt32} (q : S3 w wr h k W s) (e : ∀ i, i < 8 → h i = h' i) : S3 w wr h' k W s := ⟨q.hh.congr e, q.kk, q.rr, q.ww, q.ss, q.bel⟩

theorem bx' {a b c : UInt32} (h : a ^^^ b = c) : bits .xor .u32 (a.toNat : Int) (b.toNat : Int) = (c.toNat : Int) := by subst h; exact H.bx a b
theorem ba' {a b c : UInt32} (h : a &&& b = c) : bits .and .u32 (a.toNat : Int) (b.toNat : Int) = (c.toNat : Int) := by subst h; exact H.ba a b
theorem badd' {a b c : UInt32} (h : a + b = c) : ((a.toNat : Int) + (b.toNat : Int)) % 4294967296 = (c.toNat : Int) := by subst h; exact H.badd a b

theorem quiet_same2 {P : Program} {f : FuncId} {args : Array Value} {w : World} {q n : Nat} {v : Value}
    (h : Calls P f args (w.drewN (q + n)) fun e w' => e = .returned v ∧ w' = w.drewN (q + n)) : Calls P f args (w.drewN (q + n)) fun e w'' => e = .returned v ∧ ∃ m, w'' = w.drewN (q + m) :=
  h.mono fun _ _ ⟨he, hm⟩ => ⟨he, n, hm⟩
end Go.Proofs.YtkgibgadngeddabDoor
/-
  The words of a block, as the program makes them; the rotation of the standard library.
-/
namespace Go.Proofs.YtkgibgadngeddabDoor
open Go.RowKit Go.BigFrame
set_option linter.unusedVariables false

theorem brot' (a : UInt32) (n : Nat) (h : n ≤ 32) : bits .or .u32 ((a.toNat : Int) * ((2 ^ (32 - n) : Nat) : Int) % 4294967296) ((a.toNat : Int) / ((2 ^ n : Nat) : Int)) = ((H.rotr a n).toNat : Int) := by
  have h1 : a.toNat / 2 ^ n < 4294967296 := Nat.lt_of_le_of_lt (Nat.div_le_self _ _) (H.u32_lt a)
  have h2 : a.toNat * 2 ^ (32 - n) % 4294967296 < 4294967296 := Nat.mod_lt _ (by omega)
  have e := u32_or_nat _ _ h2 h1
  unfold H.rotr
  rw [H.toNat_of _ (Nat.or_lt_two_pow (n := 32) h1 h2), Nat.or_comm, ← e]
  simp

theorem Rot2 (x : UInt32) (w : World) :
    Calls Tryd.prog 52 #[.int .u32 (x.toNat : Int), .int .i64 (-2)] w fun e w' => e = .returned (.int .u32 ((H.rotr x 2).toNat : Int)) ∧ w' = w := by
  have hr : bits .or .u32 ((x.toNat : Int) * 1073741824 % 4294967296) ((x.toNat : Int) / 4) = ((H.rotr x 2).toNat : Int) := brot' x 2 (by omega)
  have ha : bits .and .u64 (IntKind.u64.wrap (-2)) 31 = 30 := by rfl
  go_enter Tryd.func52, Tryd.ntmps52
  go_wp2
  go_ret
  exact ⟨rfl, rfl⟩
theorem Rot6 (x : UInt32) (w : World) :
    Calls Tryd.prog 52 #[.int .u32 (x.toNat : Int), .int .i64 (-6)] w fun e w' => e = .returned (.int .u32 ((H.rotr x 6).toNat : Int)) ∧ w' = w := by
  have hr : bits .or .u32 ((x.toNat : Int) * 67108864 % 4294967296) ((x.toNat : Int) / 64) = ((H.rotr x 6).toNat : Int) := brot' x 6 (by omega)
  have ha : bits .and .u64 (IntKind.u64.wrap (-6)) 31 = 26 := by rfl
  go_enter Tryd.func52, Tryd.ntmps52
  go_wp2
  go_ret
  exact ⟨rfl, rfl⟩
theorem Rot7 (x : UInt32) (w : World) :
    Calls Tryd.prog 52 #[.int .u32 (x.toNat : Int), .int .i64 (-7)] w fun e w' => e = .returned (.int .u32 ((H.rotr x 7).toNat : Int)) ∧ w' = w := by
  have hr : bits .or .u32 ((x.toNat : Int) * 33554432 % 4294967296) ((x.toNat : Int) / 128) = ((H.rotr x 7).toNat : Int) := brot' x 7 (by omega)
  have ha : bits .and .u64 (IntKind.u64.wrap (-7)) 31 = 25 := by rfl
  go_enter Tryd.func52, Tryd.ntmps52
  go_wp2
  go_ret
  exact ⟨rfl, rfl⟩
theorem Rot11 (x : UInt32) (w : World) :
    Calls Tryd.prog 52 #[.int .u32 (x.toNat : Int), .int .i64 (-11)] w fun e w' => e = .returned (.int .u32 ((H.rotr x 11).toNat : Int)) ∧ w' = w := by
  have hr : bits .or .u32 ((x.toNat : Int) * 2097152 % 4294967296) ((x.toNat : Int) / 2048) = ((H.rotr x 11).toNat : Int) := brot' x 11 (by omega)
  have ha : bits .and .u64 (IntKind.u64.wrap (-11)) 31 = 21 := by rfl
  go_enter Tryd.func52, Tryd.ntmps52
  go_wp2
  go_ret
  exact ⟨rfl, rfl⟩
theorem Rot13 (x : UInt32) (w : World) :
    Calls Tryd.prog 52 #[.int .u32 (x.toNat : Int), .int .i64 (-13)] w fun e w' => e = .returned (.int .u32 ((H.rotr x 13).toNat : Int)) ∧ w' = w := by
  have hr : bits .or .u32 ((x.toNat : Int) * 524288 % 4294967296) ((x.toNat : Int) / 8192) = ((H.rotr x 13).toNat : Int) := brot' x 13 (by omega)
  have ha : bits .and .u64 (IntKind.u64.wrap (-13)) 31 = 19 := by rfl
  go_enter Tryd.func52, Tryd.ntmps52
  go_wp2
  go_ret
  exact ⟨rfl, rfl⟩
theorem Rot17 (x : UInt32) (w : World) :
    Calls Tryd.prog 52 #[.int .u32 (x.toNat : Int), .int .i64 (-17)] w fun e w' => e = .returned (.int .u32 ((H.rotr x 17).toNat : Int)) ∧ w' = w := by
  have hr : bits .or .u32 ((x.toNat : Int) * 32768 % 4294967296) ((x.toNat : Int) / 131072) = ((H.rotr x 17).toNat : Int) := brot' x 17 (by omega)
  have ha : bits .and .u64 (IntKind.u64.wrap (-17)) 31 = 15 := by rfl
  go_enter Tryd.func52, Tryd.ntmps52
  go_wp2
  go_ret
  exact ⟨rfl, rfl⟩
theorem Rot18 (x : UInt32) (w : World) :
    Calls Tryd.prog 52 #[.int .u32 (x.toNat : Int), .int .i64 (-18)] w fun e w' => e = .returned (.int .u32 ((H.rotr x 18).toNat : Int)) ∧ w' = w := by
  have hr : bits .or .u32 ((x.toNat : Int) * 16384 % 4294967296) ((x.toNat : Int) / 262144) = ((H.rotr x 18).toNat : Int) := brot' x 18 (by omega)
  have ha : bits .and .u64 (IntKind.u64.wrap (-18)) 31 = 14 := by rfl
  go_enter Tryd.func52, Tryd.ntmps52
  go_wp2
  go_ret
  exact ⟨rfl, rfl⟩
theorem Rot19 (x : UInt32) (w : World) :
    Calls Tryd.prog 52 #[.int .u32 (x.toNat : Int), .int .i64 (-19)] w fun e w' => e = .returned (.int .u32 ((H.rotr x 19).toNat : Int)) ∧ w' = w := by
  have hr : bits .or .u32 ((x.toNat : Int) * 8192 % 4294967296) ((x.toNat : Int) / 524288) = ((H.rotr x 19).toNat : Int) := brot' x 19 (by omega)
  have ha : bits .and .u64 (IntKind.u64.wrap (-19)) 31 = 13 := by rfl
  go_enter Tryd.func52, Tryd.ntmps52
  go_wp2
  go_ret
  exact ⟨rfl, rfl⟩
theorem Rot22 (x : UInt32) (w : World) :
    Calls Tryd.prog 52 #[.int .u32 (x.toNat : Int), .int .i64 (-22)] w fun e w' => e = .returned (.int .u32 ((H.rotr x 22).toNat : Int)) ∧ w' = w := by
  have hr : bits .or .u32 ((x.toNat : Int) * 1024 % 4294967296) ((x.toNat : Int) / 4194304) = ((H.rotr x 22).toNat : Int) := brot' x 22 (by omega)
  have ha : bits .and .u64 (IntKind.u64.wrap (-22)) 31 = 10 := by rfl
  go_enter Tryd.func52, Tryd.ntmps52
  go_wp2
  go_ret
  exact ⟨rfl, rfl⟩
theorem Rot25 (x : UInt32) (w : World) :
    Calls Tryd.prog 52 #[.int .u32 (x.toNat : Int), .int .i64 (-25)] w fun e w' => e = .returned (.int .u32 ((H.rotr x 25).toNat : Int)) ∧ w' = w := by
  have hr : bits .or .u32 ((x.toNat : Int) * 128 % 4294967296) ((x.toNat : Int) / 33554432) = ((H.rotr x 25).toNat : Int) := brot' x 25 (by omega)
  have ha : bits .and .u64 (IntKind.u64.wrap (-25)) 31 = 7 := by rfl
  go_enter Tryd.func52, Tryd.ntmps52
  go_wp2
  go_ret
  exact ⟨rfl, rfl⟩


structure WS (w wr : World) (W : Nat → UInt32) : Prop where
  rr : Arr wr w.heap.size 62 64 (fun _ => 0)
  ww : Arr wr (w.heap.size + 1) 62 64 W
  bel : Below w.heap.size w wr
theorem WS.start (w : World) : WS w ((w.alloc (.cells (zeros 64) 62)).alloc (.cells (zeros 64) 62)) (fun _ => 0) := by
  refine ⟨(Arr.agg (AggIs.zeros 64)).alloc _, ?_, ((Below.refl _ _).alloc (Nat.le_refl _) _).alloc (by simp) _⟩
  have := Arr.agg (w := w.alloc (.cells (zeros 64) 62)) (t := 62) (AggIs.zeros 64)
  simpa using this
theorem WS.set {w wr : World} {W : Nat → UInt32} (s : WS w wr W) (i : Nat) (hi : i < 64) (x : UInt32) : WS w (wr.setCell ⟨w.heap.size + 1, i, none⟩ (.int .u32 (x.toNat : Int))) (H.upd W i x) :=
  ⟨s.rr.other _ _ _ (by omega), s.ww.set i hi x, s.bel.setCell (p := ⟨w.heap.size + 1, i, none⟩) (by show w.heap.size ≤ w.heap.size + 1; omega) _⟩
theorem WS.drewN {w wr : World} {W : Nat → UInt32} (s : WS w wr W) (n : Nat) : WS w (wr.drewN n) W := ⟨s.rr, s.ww, s.bel.trans ⟨rfl, rfl, rfl, Nat.le_refl _, fun _ _ => rfl⟩⟩

def Q1 (w : World) (b : ByteArray) (i : Value) (wr : World) : Prop := ∃ m : Nat, m ≤ 16 ∧ i = .int .i64 m ∧ WS w wr (H.wHead (bAt b) m)
def Q2 (w : World) (b : ByteArray) (i : Value) (wr : World) : Prop := ∃ m : Nat, m ≤ 48 ∧ i = .int .i64 m ∧ WS w wr (H.wMore (H.wHead (bAt b) 16) m)

theorem run_cut (b : ByteArray) (x y : Int) (i j : Nat) (hx : x = (i : Int)) (hy : y = (j : Int)) (hij : i ≤ j) (hj : j ≤ b.size) (W : World) : (Instr.slice 9 (.string b) (some (.int .i64 x)) (some (.int .i64 y)) none).run Tryd.prog W = .ok (.string (b.extract i j)) W := by
  subst hx
  subst hy
  rw [run_slice_string W 9 b .i64 .i64 _ _ Tryd.underlying9 (by omega) (by omega) (by omega)]
  simp
theorem bAt_lt (b : ByteArray) (j : Nat) : bAt b j < 256 := UInt8.toNat_lt _
/-- four bytes of a text, cut out, and each of them -/
theorem cut4 (b : ByteArray) (m : Nat) (h : 4 * m + 4 ≤ b.size) : ∃ c : ByteArray, (∀ W, (Instr.slice 9 (.string b) (some (.int .i64 (4 * (m : Int)))) (some (.int .i64 (4 * (m : Int) + 4))) none).run Tryd.prog W = .ok (.string c) W) ∧
    ∀ j : Nat, j < 4 → ∀ (x : Int), x = (j : Int) → ∀ W, (Instr.index 9 (.string c) (.int .i64 x)).run Tryd.prog W = .ok (.int .u8 ((bAt b (4 * m + j) : Nat) : Int)) W := by
  have h1 : (b.extract (4 * m) (4 * m + 4)).size = 4 := by rw [ByteArray.size_extract]; omega
  refine ⟨b.extract (4 * m) (4 * m + 4), run_cut b _ _ _ _ (by omega) (by omega) (by omega) h, fun j hj x hx W => ?_⟩
  rw [run_at _ x j hx (by omega) W, bAt_eq b (4 * m + j) (by omega), ByteArray.getElem_extract]

set_option maxHeartbeats 1000000 in
set_option maxRecDepth 100000 in
theorem shaWords_any (b : ByteArray) (hb : b.size = 64) (w : World) :
    Calls Tryd.prog 51 #[.string b] w fun e w' => ∃ R, e = .returned (.agg R) ∧ AggIs R 64 (H.wAll (bAt b)) ∧ Below w.heap.size w w' := by
  have HST : Hid (WS w ((w.alloc (.cells (zeros 64) 62)).alloc (.cells (zeros 64) 62)) (fun _ => 0)) := WS.start w
  go_enter Tryd.func51, Tryd.ntmps51
  go_wp2_with (first | (with_reducible refine wp_build rfl rfl ?_) | (with_reducible refine wp_alloc55 rfl rfl ?_) | (refine wp_store55 rfl _ _ rfl _ rfl rfl rfl ?_))
  generalize ((w.alloc (.cells (zeros 64) 62)).alloc (.cells (zeros 64) 62)) = w1 at *
  go_loopw [12] (fun i wr => Q1 w b i wr) (fun i _ => 16 - (intOf i).toNat)
  case atStart => exact ⟨0, by omega, rfl, HST.out⟩
  case round =>
    obtain ⟨m, hm, rfl, hs⟩ := hrel
    by_cases hlt : m < 16
    · obtain ⟨c, hcut, hcj⟩ := cut4 b m (by omega)
      have hst := fun q => (hs.drewN q).set m (by omega) (H.word (bAt b) m)
      have HS' : Hid (∀ q, WS w ((wr.drewN q).setCell ⟨w.heap.size + 1, m, none⟩ (.int .u32 ((H.word (bAt b) m).toNat : Int))) (H.wHead (bAt b) (m + 1))) := hst
      have c0 := hs.ww.cell m (by omega)
      have f0 := hs.ww.frozen m
      have x0 := hcj 0 (by omega) 0 rfl
      have x1 := hcj 1 (by omega) 1 rfl
      have x2 := hcj 2 (by omega) 2 rfl
      have x3 := hcj 3 (by omega) 3 rfl
      have l0 := bAt_lt b (4 * m + 0)
      have l1 := bAt_lt b (4 * m + 1)
      have l2 := bAt_lt b (4 * m + 2)
      have l3 := bAt_lt b (4 * m + 3)
      have hwd := H.word_eq _ _ _ _ l0 l1 l2 l3
      have hx : ((bAt b (4 * m + 0) * 16777216 + bAt b (4 * m + 1) * 65536 + bAt b (4 * m + 2) * 256 + bAt b (4 * m + 3) : Nat) : Int) = ((H.word (bAt b) m).toNat : Int) := by
        unfold H.word
        rw [H.toNat_of _ (by simp only [Nat.add_zero] at l0; omega)]
        rfl
      rw [hx] at hwd
      generalize bAt b (4 * m + 0) = n0 at *
      generalize bAt b (4 * m + 1) = n1 at *
      generalize bAt b (4 * m + 2) = n2 at *
      generalize bAt b (4 * m + 3) = n3 at *
      clear hs hst hcj hx
      have i2 : (0 : Int) ≤ (m : Int) := by omega
      have i3 : (m : Int) < 64 := by omega
      go_wp2
      go_region
      go_wp2
      go_roundw
      case rel => exact ⟨m + 1, by omega, by go_num, HS'.out 1⟩
      case measure => simp [intOf]; omega
    · have hme : m = 16 := by omega
      have hI : (m : Int) = 16 := by omega
      rw [hI]
      clear hI
      subst hme
      have HS : Hid (WS w wr (H.wHead (bAt b) 16)) := hs
      clear hs HST
      go_wp2
      go_loopw [43] (fun i wx => Q2 w b i wx) (fun i _ => 48 - (intOf i).toNat)
      case atStart => exact ⟨0, by omega, rfl, HS.out⟩
      case round =>
        obtain ⟨n, hn, rfl, hs⟩ := hrel
        by_cases hlt2 : n < 48
        · have HF : Hid (H.wMore (H.wHead (bAt b) 16) (n + 1) = H.upd (H.wMore (H.wHead (bAt b) 16) n) (16 + n) (H.wStep (H.wMore (H.wHead (bAt b) 16) n) (16 + n))) := rfl
          generalize H.wMore (H.wHead (bAt b) 16) n = F at *
          have hst := fun q => (hs.drewN q).set (16 + n) (by omega) (H.wStep F (16 + n))
          have HW : Hid (H.wStep F (16 + n) = ((F (16 + n - 16) + H.sig0 (F (16 + n - 15))) + F (16 + n - 7)) + H.sig1 (F (16 + n - 2))) := rfl
          have c15 := hs.ww.cell (16 + n - 15) (by omega)
          have c2 := hs.ww.cell (16 + n - 2) (by omega)
          have c16 := hs.ww.cell (16 + n - 16) (by omega)
          have c7 := hs.ww.cell (16 + n - 7) (by omega)
          have c0 := hs.ww.cell (16 + n) (by omega)
          have f0 := hs.ww.frozen (16 + n)
          generalize F (16 + n - 15) = X15 at *
          generalize F (16 + n - 2) = X2 at *
          generalize F (16 + n - 16) = X16 at *
          generalize F (16 + n - 7) = X7 at *
          generalize F (16 + n) = X0 at *
          obtain ⟨x1, e1⟩ : ∃ x, H.rotr X15 7 ^^^ H.rotr X15 18 = x := ⟨_, rfl⟩
          have s1 : (X15.toNat : Int) / 8 = ((H.shr X15 3).toNat : Int) := H.bshr X15 3
          obtain ⟨x2, e2⟩ : ∃ x, x1 ^^^ H.shr X15 3 = x := ⟨_, rfl⟩
          obtain ⟨x3, e3⟩ : ∃ x, H.rotr X2 17 ^^^ H.rotr X2 19 = x := ⟨_, rfl⟩
          have s2 : (X2.toNat : Int) / 1024 = ((H.shr X2 10).toNat : Int) := H.bshr X2 10
          obtain ⟨x4, e4⟩ : ∃ x, x3 ^^^ H.shr X2 10 = x := ⟨_, rfl⟩
          obtain ⟨x5, e5⟩ : ∃ x, X16 + x2 = x := ⟨_, rfl⟩
          obtain ⟨x6, e6⟩ : ∃ x, x5 + X7 = x := ⟨_, rfl⟩
          have e7 : x6 + x4 = H.wStep F (16 + n) := by rw [HW.out, ← e6, ← e5, ← e2, ← e1, ← e4, ← e3]; rfl
          generalize H.wStep F (16 + n) = WS' at *
          have HST2 : Hid (∀ q, WS w ((wr.drewN q).setCell ⟨w.heap.size + 1, 16 + n, none⟩ (.int .u32 (WS'.toNat : Int))) (H.upd F (16 + n) WS')) := hst
          have b1 := bx' e1
          have b2 := bx' e2
          have b3 := bx' e3
          have b4 := bx' e4
          have a1 := badd' e5
          have a2 := badd' e6
          have a3 := badd' e7
          clear e1 e2 e3 e4 e5 e6 e7 HW hst hs
          have t15 : ((n : Int) + 16 - 15).toNat = 16 + n - 15 := by omega
          have t2 : ((n : Int) + 16 - 2).toNat = 16 + n - 2 := by omega
          have en : 16 + n - 16 = n := by omega
          rw [en] at c16
          clear en
          have t7 : ((n : Int) + 16 - 7).toNat = 16 + n - 7 := by omega
          have t0 : ((n : Int) + 16).toNat = 16 + n := by omega
          have i0 : (0 : Int) ≤ (n : Int) + 16 - 15 := by omega
          have i1 : (n : Int) + 16 - 15 < 64 := by omega
          have i2 : (0 : Int) ≤ (n : Int) + 16 - 2 := by omega
          have i3 : (n : Int) + 16 - 2 < 64 := by omega
          have i4 : (0 : Int) ≤ (n : Int) := by omega
          have i5 : (n : Int) < 64 := by omega
          have i6 : (0 : Int) ≤ (n : Int) + 16 - 7 := by omega
          have i7 : (n : Int) + 16 - 7 < 64 := by omega
          have i8 : (n : Int) + 16 < 64 := by omega
          have i9 : (0 : Int) ≤ (n : Int) + 16 := by omega
          go_wp2
          refine wp_region_quiet_lit (by kernel_rfl) (by kernel_rfl) ?_
          go_big_quiet_step (fail)
          go_big_quiet_step (fail)
          go_big_quiet_step (fail)
          go_big_quiet_step (fail)
          go_big_quiet_step (fail)
          go_big_quiet_step (fail)
          go_big_quiet_step (fail)
          go_big_quiet_step (fail)
          go_big_quiet_step (fail)
          go_big_quiet_step (fail)
          refine wpQuiet_nil ?_
          rintro _ ⟨q1, rfl⟩
          go_wp2_with fail
          refine (Rot7 X15 _).mono ?_
          rintro e w7 ⟨rfl, rfl⟩
          go_wp2_with fail
          refine (Rot18 X15 _).mono ?_
          rintro e w18 ⟨rfl, rfl⟩
          go_wp2_with fail
          refine (Rot17 X2 _).mono ?_
          rintro e w17 ⟨rfl, rfl⟩
          go_wp2_with fail
          refine (Rot19 X2 _).mono ?_
          rintro e w19 ⟨rfl, rfl⟩
          go_wp2_with fail
          go_region
          go_wp2
          go_roundw
          case rel => exact ⟨n + 1, by omega, by go_num, by rw [HF.out]; exact HST2.out _⟩
          case measure => simp [intOf]; omega
        · have hne : n = 48 := by omega
          subst hne
          have HS2 : Hid (WS w wr (H.wAll (bAt b))) := hs
          clear hs HS
          go_wp2_with (first | (refine wp_loadArr rfl 62 _ rfl (w.heap.size + 1) 62 64 (H.wAll (bAt b)) 59 rfl HS2.out.ww Tryd.underlying62 size61 ?_; intro R hR) | (refine wp_storeArr rfl 62 _ _ rfl w.heap.size 62 64 _ (H.wAll (bAt b)) R HS2.out.rr hR rfl rfl size61 ?_; intro hfin))
          refine ret_arr 2 w.heap.size 62 64 62 59 (H.wAll (bAt b)) rfl rfl rfl hfin Tryd.underlying62 size61 ?_
          intro R2 hR2
          exact ⟨R2, rfl, hR2, below_setRow HS2.out.bel (Nat.le_refl _)⟩
end Go.Proofs.YtkgibgadngeddabDoor
