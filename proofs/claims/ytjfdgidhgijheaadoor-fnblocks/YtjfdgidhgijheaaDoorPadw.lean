/-
  The walks of PadText, the program's and the specification's.
-/
import Derived.Test.YtjfdgidhgijheaaDoorPad
namespace Go.Proofs.YtjfdgidhgijheaaDoor
open Go.RowKit
set_option linter.unusedVariables false

def vlen : Value → Nat
  | .slice _ n _ => n
  | _ => 0

theorem OG.open {B : Nat} {w0 w : World} {v : Value} {l : List UInt8} (h : OG B w0 w v l) (n : Nat) (hn : l.length = n) : ∃ a cap, v = .slice a n cap := by
  subst hn
  exact h.size
theorem one_cell (w : World) (x : Int) (b : UInt8) (t : TypeId) (h : x = (b.toNat : Int)) : (w.alloc (.cells #[.int .u8 x] t)).cell? ⟨w.heap.size, 0, none⟩ = some (.int .u8 (b.toNat : Int)) := by
  subst h
  simp

def padHead (l : List UInt8) (k : Nat) : List UInt8 := l ++ [128] ++ List.replicate k 0
theorem padHead_len (l : List UInt8) (k : Nat) : (padHead l k).length = l.length + 1 + k := by simp [padHead]; omega
theorem padHead_succ (l : List UInt8) (k : Nat) : padHead l k ++ [0] = padHead l (k + 1) := by
  unfold padHead
  rw [List.append_assoc, ← List.replicate_succ']

def PadRel (t : ByteArray) (w : World) (v : Value) (wr : World) : Prop :=
  ∃ k : Nat, k ≤ padZ t.size ∧ OG w.heap.size w wr v (padHead t.data.toList k)
def PadRel2 (t : ByteArray) (w : World) (v i : Value) (wr : World) : Prop :=
  ∃ j : Nat, j ≤ 8 ∧ i = .int .i64 (7 - (j : Int)) ∧ OG w.heap.size w wr v (padHead t.data.toList (padZ t.size) ++ lenL (8 * t.size) j)

theorem lenB_nat (n j : Nat) : (lenB n j).toNat = n / 256 ^ (7 - j) % 256 := by simp [lenB]

set_option maxRecDepth 100000 in
set_option maxHeartbeats 1000000 in
theorem sPadText_any (t : ByteArray) (w : World) (ht : t.size ≤ 1048576) :
    Calls Tryd.prog 28 #[.string t] w fun e w' => e = .returned (.string ⟨(padL t.data.toList).toArray⟩) ∧ Below w.heap.size w w' := by
  obtain ⟨w1, cap, hcv, hog⟩ := OG.conv t w (by unfold maxLen; omega)
  have hl : t.data.toList.length = t.size := Array.length_toList
  go_enter Tryd.func28, Tryd.ntmps28
  go_wp2_with (at_builtin; refine wp_appg rfl _ _ rfl w.heap.size w _ t.data.toList rfl (hog.alloc _) ⟨w1.heap.size, 0, none⟩ 1 128 rfl ?c1 ?c2 ?_)
  case c1 => exact one_cell _ _ _ _ rfl
  case c2 => omega
  intro v w2 hown
  have HL : Hid (t.data.toList.length = t.size) := hl
  clear hcv hog hl
  go_wp2
  go_loopw [3] (fun v wr => PadRel t w v wr) (fun v _ => t.size + 1 + padZ t.size - vlen v)
  case atStart => exact ⟨0, Nat.zero_le _, by simpa [padHead] using hown⟩
  case round =>
    obtain ⟨k, hk, hog⟩ := hrel
    obtain ⟨N, hN⟩ : ∃ N : Nat, t.size + 1 + k = N := ⟨_, rfl⟩
    obtain ⟨a, c, rfl⟩ := hog.open N (by rw [padHead_len, HL.out]; exact hN)
    by_cases hlt : k < padZ t.size
    · have h56 : (N : Int) % 64 ≠ 56 := by have := padZ_least t.size k hlt; omega
      have hp : padZ t.size ≤ 63 := by unfold padZ; omega
      have HLT : Hid (k < padZ t.size) := hlt
      have HP := padHead_len t.data.toList k
      rw [HL.out] at HP
      have HN : Hid (t.size + 1 + k = N) := hN
      clear hlt hk hN
      go_wp2_with (at_builtin; refine wp_appg rfl _ _ rfl w.heap.size w _ (padHead t.data.toList k) rfl (hog.alloc _) ⟨wr.heap.size, 0, none⟩ 1 0 rfl ?c3 ?c4 ?_)
      case c3 => exact one_cell _ _ _ _ rfl
      case c4 => have := HLT.out; omega
      intro v3 w3 hown3
      rw [padHead_succ] at hown3
      go_wp2
      go_roundw
      case rel => exact ⟨k + 1, HLT.out, hown3⟩
      case measure =>
        obtain ⟨a3, c3, rfl⟩ := hown3.open (N + 1) (by rw [padHead_len, HL.out]; have := HN.out; omega)
        have := HN.out
        have := HLT.out
        show t.size + 1 + padZ t.size - (N + 1) < t.size + 1 + padZ t.size - N
        omega
    · have hke : k = padZ t.size := by omega
      have h56 : (N : Int) % 64 = 56 := by have := padZ_mod t.size; omega
      subst hke
      clear hk hlt
      have HN : Hid (t.size + 1 + padZ t.size = N) := hN
      clear hN
      go_wp2
      go_loopw [3, 5] (fun v i wr => PadRel2 t w v i wr) (fun _ i _ => (intOf i + 1).toNat)
      case atStart => exact ⟨0, by omega, rfl, by simpa [lenL] using hog⟩
      case round =>
        obtain ⟨j, hj, rfl, hog2⟩ := hrel
        have HP : (padHead t.data.toList (padZ t.size) ++ lenL (8 * t.size) j).length ≤ 1048576 + 80 := by
          rw [List.length_append, lenL_len, padHead_len, HL.out]
          have : padZ t.size ≤ 63 := by unfold padZ; omega
          omega
        have hS := lenL_succ (8 * t.size) j
        have hB := lenB_nat (8 * t.size) j
        clear hog h56
        by_cases h8 : j = 8
        · subst h8
          have hcv := hog2.str
          have HF : Hid (padHead t.data.toList (padZ t.size) ++ lenL (8 * t.size) 8 = padL t.data.toList) := by
            show _ = _
            unfold padL padHead
            rw [HL.out]
          rw [HF.out] at hcv
          clear hS hB HP
          go_wp2
          go_ret
          exact ⟨rfl, hog2.2.1⟩
        · obtain ⟨I, hI⟩ : ∃ I : Int, 7 - (j : Int) = I := ⟨_, rfl⟩
          rw [hI]
          have H8 : (j = 0 ∧ I = 7) ∨ (j = 1 ∧ I = 6) ∨ (j = 2 ∧ I = 5) ∨ (j = 3 ∧ I = 4) ∨ (j = 4 ∧ I = 3) ∨ (j = 5 ∧ I = 2) ∨ (j = 6 ∧ I = 1) ∨ (j = 7 ∧ I = 0) := by omega
          have HB : Hid ((lenB (8 * t.size) j).toNat = 8 * t.size / 256 ^ (7 - j) % 256) := hB
          have HS : Hid (lenL (8 * t.size) (j + 1) = lenL (8 * t.size) j ++ [lenB (8 * t.size) j]) := hS
          have HPP : Hid ((padHead t.data.toList (padZ t.size) ++ lenL (8 * t.size) j).length ≤ 1048576 + 80) := HP
          clear hB hS h8 hj HP hI
          rcases H8 with ⟨rfl, rfl⟩ | ⟨rfl, rfl⟩ | ⟨rfl, rfl⟩ | ⟨rfl, rfl⟩ | ⟨rfl, rfl⟩ | ⟨rfl, rfl⟩ | ⟨rfl, rfl⟩ | ⟨rfl, rfl⟩
          · go_wp2_with (at_builtin; refine wp_appg rfl _ _ rfl w.heap.size w _ (padHead t.data.toList (padZ t.size) ++ lenL (8 * t.size) 0) rfl (hog2.alloc _) ⟨_, 0, none⟩ 1 (lenB (8 * t.size) 0) rfl ?c5 ?c6 ?_)
            case c5 => exact one_cell _ _ _ _ (by have := HB.out; omega)
            case c6 => have := HPP.out; omega
            intro v5 w5 hown5
            rw [← lenL_succ] at hown5
            go_wp2
            go_roundw
            case rel => exact ⟨1, by omega, rfl, hown5⟩
            case measure => simp [intOf]
          · go_wp2_with (at_builtin; refine wp_appg rfl _ _ rfl w.heap.size w _ (padHead t.data.toList (padZ t.size) ++ lenL (8 * t.size) 1) rfl (hog2.alloc _) ⟨_, 0, none⟩ 1 (lenB (8 * t.size) 1) rfl ?c5 ?c6 ?_)
            case c5 => exact one_cell _ _ _ _ (by have := HB.out; omega)
            case c6 => have := HPP.out; omega
            intro v5 w5 hown5
            rw [← lenL_succ] at hown5
            go_wp2
            go_roundw
            case rel => exact ⟨2, by omega, rfl, hown5⟩
            case measure => simp [intOf]
          · go_wp2_with (at_builtin; refine wp_appg rfl _ _ rfl w.heap.size w _ (padHead t.data.toList (padZ t.size) ++ lenL (8 * t.size) 2) rfl (hog2.alloc _) ⟨_, 0, none⟩ 1 (lenB (8 * t.size) 2) rfl ?c5 ?c6 ?_)
            case c5 => exact one_cell _ _ _ _ (by have := HB.out; omega)
            case c6 => have := HPP.out; omega
            intro v5 w5 hown5
            rw [← lenL_succ] at hown5
            go_wp2
            go_roundw
            case rel => exact ⟨3, by omega, rfl, hown5⟩
            case measure => simp [intOf]
          · go_wp2_with (at_builtin; refine wp_appg rfl _ _ rfl w.heap.size w _ (padHead t.data.toList (padZ t.size) ++ lenL (8 * t.size) 3) rfl (hog2.alloc _) ⟨_, 0, none⟩ 1 (lenB (8 * t.size) 3) rfl ?c5 ?c6 ?_)
            case c5 => exact one_cell _ _ _ _ (by have := HB.out; omega)
            case c6 => have := HPP.out; omega
            intro v5 w5 hown5
            rw [← lenL_succ] at hown5
            go_wp2
            go_roundw
            case rel => exact ⟨4, by omega, rfl, hown5⟩
            case measure => simp [intOf]
          · go_wp2_with (at_builtin; refine wp_appg rfl _ _ rfl w.heap.size w _ (padHead t.data.toList (padZ t.size) ++ lenL (8 * t.size) 4) rfl (hog2.alloc _) ⟨_, 0, none⟩ 1 (lenB (8 * t.size) 4) rfl ?c5 ?c6 ?_)
            case c5 => exact one_cell _ _ _ _ (by have := HB.out; omega)
            case c6 => have := HPP.out; omega
            intro v5 w5 hown5
            rw [← lenL_succ] at hown5
            go_wp2
            go_roundw
            case rel => exact ⟨5, by omega, rfl, hown5⟩
            case measure => simp [intOf]
          · go_wp2_with (at_builtin; refine wp_appg rfl _ _ rfl w.heap.size w _ (padHead t.data.toList (padZ t.size) ++ lenL (8 * t.size) 5) rfl (hog2.alloc _) ⟨_, 0, none⟩ 1 (lenB (8 * t.size) 5) rfl ?c5 ?c6 ?_)
            case c5 => exact one_cell _ _ _ _ (by have := HB.out; omega)
            case c6 => have := HPP.out; omega
            intro v5 w5 hown5
            rw [← lenL_succ] at hown5
            go_wp2
            go_roundw
            case rel => exact ⟨6, by omega, rfl, hown5⟩
            case measure => simp [intOf]
          · go_wp2_with (at_builtin; refine wp_appg rfl _ _ rfl w.heap.size w _ (padHead t.data.toList (padZ t.size) ++ lenL (8 * t.size) 6) rfl (hog2.alloc _) ⟨_, 0, none⟩ 1 (lenB (8 * t.size) 6) rfl ?c5 ?c6 ?_)
            case c5 => exact one_cell _ _ _ _ (by have := HB.out; omega)
            case c6 => have := HPP.out; omega
            intro v5 w5 hown5
            rw [← lenL_succ] at hown5
            go_wp2
            go_roundw
            case rel => exact ⟨7, by omega, rfl, hown5⟩
            case measure => simp [intOf]
          · go_wp2_with (at_builtin; refine wp_appg rfl _ _ rfl w.heap.size w _ (padHead t.data.toList (padZ t.size) ++ lenL (8 * t.size) 7) rfl (hog2.alloc _) ⟨_, 0, none⟩ 1 (lenB (8 * t.size) 7) rfl ?c5 ?c6 ?_)
            case c5 => exact one_cell _ _ _ _ (by have := HB.out; omega)
            case c6 => have := HPP.out; omega
            intro v5 w5 hown5
            rw [← lenL_succ] at hown5
            go_wp2
            go_roundw
            case rel => exact ⟨8, by omega, rfl, hown5⟩
            case measure => simp [intOf]


/-- block g holds just the bytes l -/
def Byt (w : World) (g : Nat) (l : List UInt8) : Prop := w.heap[g]? = some (.cells (bv l).toArray 5 (0, 0))

theorem Byt.cell {w : World} {g : Nat} {l : List UInt8} (h : Byt w g l) (i : Nat) (hi : i < l.length) : w.cell? ⟨g, i, none⟩ = some (.int .u8 (l[i].toNat : Int)) := by
  rw [cell_of_row w g i _ 5 (0, 0) h]
  simp [bv, hi]
theorem Byt.has {w : World} {g : Nat} {l : List UInt8} (h : Byt w g l) (i : Nat) (hi : i < l.length) : ∃ x, w.cell? ⟨g, i, none⟩ = some x := ⟨_, h.cell i hi⟩
theorem Byt.frozen {w : World} {g : Nat} {l : List UInt8} (h : Byt w g l) (i : Nat) : w.frozen? ⟨g, i, none⟩ = false := by
  simp [World.frozen?, show w.heap[g]? = some (.cells (bv l).toArray 5 (0, 0)) from h]
theorem Byt.set {w : World} {g : Nat} {l : List UInt8} (h : Byt w g l) (i : Nat) (b : UInt8) (l' : List UInt8) (hl : l.set i b = l') : Byt (w.setCell ⟨g, i, none⟩ (.int .u8 (b.toNat : Int))) g l' := by
  subst hl
  unfold Byt at *
  rw [heap_setCell_same w g i _ 5 _ h]
  congr 2
  simp [bv, List.map_set]
theorem Byt.setx {w : World} {g : Nat} {l : List UInt8} (h : Byt w g l) (i : Nat) (x : Int) (b : UInt8) (l' : List UInt8) (hx : x = (b.toNat : Int)) (hl : l.set i b = l') : Byt (w.setCell ⟨g, i, none⟩ (.int .u8 x)) g l' := by
  subst hx
  exact h.set i b l' hl
theorem Byt.str {w : World} {g : Nat} {l : List UInt8} (h : Byt w g l) (n cap : Nat) (hn : l.length = n) : (convert 22 9 (.slice (some ⟨g, 0, none⟩) n cap)).run Tryd.prog w = .ok (.string ⟨l.toArray⟩) w := by
  subst hn
  refine run_convert_bytes_back w 22 9 5 ⟨g, 0, none⟩ cap l Tryd.underlying22 Tryd.underlying5 Tryd.underlying9 ?_
  intro j hj
  have hadd : (⟨g, 0, none⟩ : Addr).add j = ⟨g, j, none⟩ := by unfold Addr.add; split <;> simp_all
  rw [hadd]
  exact h.cell j hj

/-- 'make([]byte, n)' -/
theorem Byt.made (n : Nat) (h : n ≤ 1000000000) (W : World) : ∃ w', (Instr.makeSlice 22 (.int .i64 (n : Int)) (.int .i64 (n : Int))).run Tryd.prog W = .ok (.slice (some ⟨W.heap.size, 0, none⟩) n n) w' ∧ Byt w' W.heap.size (List.replicate n 0) ∧ Below W.heap.size W w' ∧ w'.heap.size = W.heap.size + 1 := by
  obtain ⟨i0, hi, hz0, hz1, hz2⟩ := info_parts Tryd.info5
  have h1 := run_make (P := Tryd.prog) W 22 5 i0 (.int .u8 0) Tryd.underlying22 hi hz0 .i64 .i64 (n : Int) (n : Int) (by omega) (by omega) (by rw [hz2]; omega) (by omega)
  refine ⟨_, by simpa using h1, ?_, (Below.refl _ _).alloc (Nat.le_refl _) _, by simp⟩
  unfold Byt
  have e : madeCells (Value.int .u8 0).cells (n * i0.size) = (bv (List.replicate n 0)).toArray := by
    apply Array.toList_inj.1
    rw [hz1]
    simp [Value.cells, toList_madeCells_one, bv]
  rw [e, Go.heap_alloc_new]

set_option maxRecDepth 100000 in
/-- 'copy(b, t)' -/
theorem Byt.copy {w : World} {g n : Nat} (t : ByteArray) (ty : TypeId) (h : Byt w g (List.replicate n 0)) (hn : t.size ≤ n) : ∃ w', (Builtin.copy_ #[22, 9] ty #[.slice (some ⟨g, 0, none⟩) n n, .string t]).run Tryd.prog w = .ok (.int .i64 (t.size : Int)) w' ∧ Byt w' g (t.data.toList ++ List.replicate (n - t.size) 0) ∧ (∀ B, B ≤ g → Below B w w') ∧ w'.heap.size = w.heap.size := by
  have h1 := Lib.run_copy_row_string (P := Tryd.prog) w 22 9 ty 5 g 0 n n t _ 5 Tryd.underlying22 (by kernel_rfl) h hn (by simp [bv]; omega)
  have h2 : t.data.toList.length = t.size := Array.length_toList
  refine ⟨_, h1, ?_, ?_, ?_⟩
  · unfold Byt
    rw [setRow_heap w g _ _ 5 _ h]
    congr 2
    simp [bv, Lib.byteCells]
  · intro B hB
    exact ⟨rfl, rfl, rfl, by simp [World.setRow], fun k hk => setRow_other w g k _ (by omega)⟩
  · simp [World.setRow]

end Go.Proofs.YtjfdgidhgijheaaDoor
