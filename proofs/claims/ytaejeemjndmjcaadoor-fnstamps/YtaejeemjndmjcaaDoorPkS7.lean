/-
  Texts laid together: Pad, Padw, Padi, Begin.
-/
import Derived.Test.YtaejeemjndmjcaaDoorPkS0
import Derived.Lib.ConvBytes
import Derived.Lib.BufferWrite
import Derived.Test.YtaejeemjndmjcaaDoorPkS6
/-
  What PadText answers, in plain words; a row of bytes that the call owns, also one that was made of a string.
-/
namespace Go.Proofs.YtaejeemjndmjcaaDoor
open Go.RowKit
set_option linter.unusedVariables false

/-- the byte of place j of the length, the highest first -/
def lenB (n j : Nat) : UInt8 := UInt8.ofNat (n / 256 ^ (7 - j))
def lenL (n k : Nat) : List UInt8 := (List.range k).map (lenB n)
def padZ (n : Nat) : Nat := (119 - n % 64) % 64
def padL (l : List UInt8) : List UInt8 := (l ++ [128] ++ List.replicate (padZ l.length) 0) ++ lenL (8 * l.length) 8

theorem lenL_len (n k : Nat) : (lenL n k).length = k := by simp [lenL]
theorem lenL_succ (n k : Nat) : lenL n (k + 1) = lenL n k ++ [lenB n k] := by simp [lenL, List.range_succ]
theorem padZ_mod (n : Nat) : (n + 1 + padZ n) % 64 = 56 := by unfold padZ; omega
theorem padZ_least (n k : Nat) (h : k < padZ n) : (n + 1 + k) % 64 ≠ 56 := by unfold padZ at h; omega
theorem padL_len (l : List UInt8) : (padL l).length = l.length + 1 + padZ l.length + 8 := by
  unfold padL
  rw [List.length_append, lenL_len]
  simp
  omega
theorem padL_blocks (l : List UInt8) : (padL l).length = (l.length + 72) / 64 * 64 := by
  rw [padL_len]
  unfold padZ
  omega

/-- v owns the bytes l, in blocks from B on; what lies behind its row may bear a mark; below B all is as it was in w0 -/
def OG (B : Nat) (w0 w : World) (v : Value) (l : List UInt8) : Prop :=
  (∃ (g cap : Nat) (cur : Array Value) (fz : Nat × Nat), v = .slice (some ⟨g, 0, none⟩) l.length cap ∧ B ≤ g ∧ w.heap[g]? = some (.cells cur 5 fz) ∧ (fz = (0, 0) ∨ cap ≤ fz.1) ∧ l.length ≤ cap ∧ cap ≤ maxLen ∧ cur.size = cap ∧
    ∀ j (h : j < l.length), cur[j]? = some (.int .u8 (l[j].toNat : Int))) ∧ Below B w0 w ∧ B ≤ w.heap.size

theorem OG.alloc {B : Nat} {w0 w : World} {v : Value} {l : List UInt8} (h : OG B w0 w v l) (o : Obj) : OG B w0 (w.alloc o) v l := by
  obtain ⟨⟨g, cap, cur, fz, hv, hb, hg, hr⟩, h2, h3⟩ := h
  exact ⟨⟨g, cap, cur, fz, hv, hb, by rw [Go.heap_alloc_old w o (Array.getElem?_eq_some_iff.1 hg).1]; exact hg, hr⟩, h2.alloc h3 o, by simp; omega⟩

theorem OG.size {B : Nat} {w0 w : World} {v : Value} {l : List UInt8} (h : OG B w0 w v l) : ∃ a cap, v = .slice a l.length cap := by
  obtain ⟨⟨g, cap, cur, fz, hv, _⟩, _⟩ := h
  exact ⟨_, cap, hv⟩

theorem OG.conv (t : ByteArray) (w : World) (ht : t.size ≤ maxLen) : ∃ (w' : World) (cap : Nat), (convert 9 22 (.string t)).run Tryd.prog w = .ok (.slice (some ⟨w.heap.size, 0, none⟩) t.size cap) w' ∧ OG w.heap.size w w' (.slice (some ⟨w.heap.size, 0, none⟩) t.size cap) t.data.toList := by
  have h1 : t.data.toList.length = t.size := Array.length_toList
  have hge := grownCap_ge w t.size 0 5
  have hcm := grownCap_le_maxLen w t.size 0 5 ht
  refine ⟨Lib.bytesWorld w 5 t, grownCap w t.size 0 5, Lib.run_convert_string_bytes w 9 22 5 t Tryd.underlying9 Tryd.underlying22 Tryd.underlying5, ⟨_, _, _, _, by rw [h1], Nat.le_refl _, Lib.bytesWorld_at_new w 5 t, ?_, by omega, hcm, ?_, ?_⟩, ⟨?_, ?_, ?_, ?_, ?_⟩, ?_⟩
  · right
    simp [Lib.bytesCells]
    have : t.data.size = t.size := rfl
    omega
  · simp [Lib.bytesCells]
    have : t.data.size = t.size := rfl
    omega
  · intro j hj
    have hj' : j < t.data.size := by have : t.data.size = t.size := rfl; omega
    have hj2 : j < t.size := hj'
    simp [Lib.bytesCells, Array.getElem?_append, hj2]
  · simp [Lib.bytesWorld, World.freeze, World.alloc, World.drew, -World.alloc_eq, -World.drew_eq]
  · simp [Lib.bytesWorld, World.freeze, World.alloc, World.drew, -World.alloc_eq, -World.drew_eq]
  · simp [Lib.bytesWorld, World.freeze, World.alloc, World.drew, -World.alloc_eq, -World.drew_eq]
  · rw [Lib.bytesWorld_size]; omega
  · intro b hb
    exact Lib.bytesWorld_at_old w 5 t b hb
  · rw [Lib.bytesWorld_size]; omega

/-- one byte more -/
theorem OG.app {B : Nat} {w0 w : World} {v : Value} {l : List UInt8} (h : OG B w0 w v l) (ty : TypeId) (ad : Addr) (c : Nat) (b : UInt8) (hx : w.cell? ad = some (.int .u8 (b.toNat : Int))) (hlen : l.length + 1 ≤ 1000000000) :
    ∃ v' w', (Builtin.append_ #[22, 22] ty #[v, .slice (some ad) 1 c]).run Tryd.prog w = .ok v' w' ∧ OG B w0 w' v' (l ++ [b]) := by
  obtain ⟨i0, hi, hz0, hz1, hz2⟩ := info_parts Tryd.info5
  obtain ⟨⟨g, cap, cur, fz, rfl, hb, hg, hfz, hn, hm, hcs, hcell⟩, hbel, hB⟩ := h
  have hglt := (Array.getElem?_eq_some_iff.1 hg).1
  have hnews : ∀ j u, [Value.int .u8 (b.toNat : Int)][j]? = some u → w.cell? (ad.add j) = some u := by
    intro j u hj
    have h0 : j = 0 := by
      rcases Nat.eq_zero_or_pos j with h0 | h0
      · exact h0
      · simp [List.getElem?_eq_none (show [Value.int .u8 (b.toNat : Int)].length ≤ j by simp; omega)] at hj
    subst h0
    simp at hj
    subst hj
    have : ad.add 0 = ad := by unfold Addr.add; split <;> simp_all
    rw [this]; exact hx
  by_cases hroom : l.length + 1 ≤ cap
  · have hi' : l.length < cur.size := by omega
    have hadd : (⟨g, 0, none⟩ : Addr).add l.length = ⟨g, l.length, none⟩ := by unfold Addr.add; split <;> simp_all
    have hadd0 : (⟨g, l.length, none⟩ : Addr).add 0 = ⟨g, l.length, none⟩ := by unfold Addr.add; split <;> simp_all
    have hc : w.cell? ⟨g, l.length, none⟩ = some cur[l.length] := by simp [World.cell?, hg, hi']
    have hf : w.frozen? ⟨g, l.length, none⟩ = false := by
      obtain ⟨lo, hi2⟩ := fz
      simp only [World.frozen?, hg, Bool.and_eq_false_iff, decide_eq_false_iff_not]
      rcases hfz with h0 | h0
      · simp at h0; right; omega
      · left; simp only at h0; omega
    have hfc := run_firstCells_some (P := Tryd.prog) w 1 1 ad 1 c [Value.int .u8 (b.toNat : Int)] rfl hnews
    have hst := run_store Tryd.prog w ⟨g, l.length, none⟩ (.int .u8 (b.toNat : Int)) .plain rfl
    rw [hc] at hst
    simp [hf] at hst
    refine ⟨.slice (some ⟨g, 0, none⟩) (l.length + 1) cap, w.setCell ⟨g, l.length, none⟩ (.int .u8 (b.toNat : Int)), ?_, ⟨g, cap, cur.setIfInBounds l.length (.int .u8 (b.toNat : Int)), fz, by simp, hb, ?_, hfz, by simpa using hroom, hm, by simpa using hcs, ?_⟩, hbel.setCell (p := ⟨g, l.length, none⟩) hb _, by simpa using hB⟩
    · simp [Builtin.append_, run_underlying Tryd.underlying22, sizeOf, typeInfo, hi, hz1, Builtin.lenOf, hroom, hfc, storeCells, hadd, hadd0, hst]
    · have := setCell_eq_setRow w g l.length cur 5 fz (.int .u8 (b.toNat : Int)) hg
      rw [this]
      exact setRow_heap w g cur _ 5 _ hg
    · intro j hj
      rw [Array.getElem?_setIfInBounds]
      by_cases he : l.length = j
      · subst he
        simp [hi']
      · rw [if_neg he]
        have hj2 : j < l.length := by simp at hj; omega
        rw [hcell j hj2, List.getElem_append_left hj2]
  · have hxs : ∀ j u, (bv l)[j]? = some u → w.cell? ((⟨g, 0, none⟩ : Addr).add j) = some u := by
      intro j u hj
      obtain ⟨hj', rfl⟩ := bv_get _ _ _ hj
      have hadd : (⟨g, 0, none⟩ : Addr).add j = ⟨g, j, none⟩ := by unfold Addr.add; split <;> simp_all
      rw [hadd, cell_of_row w g j cur 5 fz hg]
      exact hcell j hj'
    have hr := run_append_grow (P := Tryd.prog) w 22 ty 5 i0 (.int .u8 0) Tryd.underlying22 hi hz0 ⟨g, 0, none⟩ l.length cap (bv l) (by rw [hz1]; simp [bv]) hxs ad 1 c [Value.int .u8 (b.toNat : Int)] (by rw [hz1]; rfl) hnews (by omega) (by omega) (growslice_fits (by omega) (by rw [hz2]; omega))
    have hge := grownCap_ge w (l.length + 1) cap 5
    have hcm := grownCap_le_maxLen w (l.length + 1) cap 5 (by unfold maxLen; omega)
    refine ⟨_, _, hr, ⟨w.heap.size, _, _, (0, 0), by simp, by omega, heap_alloc_new w.drew _, .inl rfl, by simpa using hge, hcm, ?_, ?_⟩, (hbel.drew).alloc hB _, by simp; omega⟩
    · have hz : (Value.int IntKind.u8 0).cells.size = 1 := rfl
      simp only [Array.size_append, List.size_toArray, size_zeroCells, hz, bv_length]
      simp
      omega
    · intro j hj
      have hj2 : j < l.length + 1 := by simpa using hj
      simp only [List.append_toArray]
      rw [Array.getElem?_append_left (by simp [bv]; omega)]
      by_cases he : j < l.length
      · simp [bv, List.getElem?_append_left, he, List.getElem_append_left]
      · have : j = l.length := by omega
        subst this
        simp [bv]

/-- 'string(b)' -/
theorem OG.str {B : Nat} {w0 w : World} {v : Value} {l : List UInt8} (h : OG B w0 w v l) : (convert 22 9 v).run Tryd.prog w = .ok (.string ⟨l.toArray⟩) w := by
  obtain ⟨⟨g, cap, cur, fz, rfl, hb, hg, hfz, hn, hm, hcs, hcell⟩, hbel, hB⟩ := h
  refine run_convert_bytes_back w 22 9 5 ⟨g, 0, none⟩ cap l Tryd.underlying22 Tryd.underlying5 Tryd.underlying9 ?_
  intro j hj
  have hadd : (⟨g, 0, none⟩ : Addr).add j = ⟨g, j, none⟩ := by unfold Addr.add; split <;> simp_all
  rw [hadd, cell_of_row w g j cur 5 fz hg]
  exact hcell j hj

theorem wp_appg {w : World} {ops : Array Oper} {rest : List Oper} {o : Oper} {a : Act} {Q : Exit → Act → World → Prop} (hgd : o.guard = none) (s x : Operand)
    (ho : o.op = .call { callee := .builtin .append, args := #[s, x], argTypes := #[22, 22] })
    (B : Nat) (w0 : World) (v : Value) (l : List UInt8) (hs : a.eval s = v) (hown : OG B w0 w v l)
    (ad : Addr) (c : Nat) (b : UInt8) (hx : a.eval x = .slice (some ad) 1 c)
    (hnews : w.cell? ad = some (.int .u8 (b.toNat : Int))) (hlen : l.length + 1 ≤ 1000000000)
    (h : ∀ v' w', OG B w0 w' v' (l ++ [b]) → wpList Tryd.prog ops Q rest (a.put o.dst v') w') : wpList Tryd.prog ops Q (o :: rest) a w := by
  refine wpList_plain hgd fun K hK => ?_
  obtain ⟨v', w', hr, h2⟩ := hown.app o.type ad c b hnews hlen
  unfold Oper.wp
  simp [execOp, ho, resolve, invoke, builtin, hs, hx, hr, Result.andThen]
  exact hK _ _ (h v' w' h2)

end Go.Proofs.YtaejeemjndmjcaaDoor
/-
  The walks of PadText, the program's and the specification's.
-/
namespace Go.Proofs.YtaejeemjndmjcaaDoor
open Go.RowKit
set_option linter.unusedVariables false

def vlen : Value → Nat
  | .slice _ n _ => n
  | _ => 0

theorem OG.open {B : Nat} {w0 w : World} {v : Value} {l : List UInt8} (h : OG B w0 w v l) (n : Nat) (hn : l.length = n) : ∃ a cap, v = .slice a n cap := by
  subst hn
  exact h.size
theorem one_cell (w : World) (x : Int) (b : UInt8) (t : TypeId) (h : x = (b.toNat : Int)) : (w.alloc (.cells #[.int .u8 x] t)).cell? ⟨w.heap.size, 0, none⟩ = some (.int .u8 (b.toNat : Int)) := by
  subst h
  simp

def padHead (l : List UInt8) (k : Nat) : List UInt8 := l ++ [128] ++ List.replicate k 0
theorem padHead_len (l : List UInt8) (k : Nat) : (padHead l k).length = l.length + 1 + k := by simp [padHead]; omega
theorem padHead_succ (l : List UInt8) (k : Nat) : padHead l k ++ [0] = padHead l (k + 1) := by
  unfold padHead
  rw [List.append_assoc, ← List.replicate_succ']

def PadRel (t : ByteArray) (w : World) (v : Value) (wr : World) : Prop :=
  ∃ k : Nat, k ≤ padZ t.size ∧ OG w.heap.size w wr v (padHead t.data.toList k)
def PadRel2 (t : ByteArray) (w : World) (v i : Value) (wr : World) : Prop :=
  ∃ j : Nat, j ≤ 8 ∧ i = .int .i64 (7 - (j : Int)) ∧ OG w.heap.size w wr v (padHead t.data.toList (padZ t.size) ++ lenL (8 * t.size) j)

theorem lenB_nat (n j : Nat) : (lenB n j).toNat = n / 256 ^ (7 - j) % 256 := by simp [lenB]

set_option maxRecDepth 100000 in
set_option maxHeartbeats 1000000 in
theorem sPadText_any (t : ByteArray) (w : World) (ht : t.size ≤ 1048576) :
    Calls Tryd.prog 100 #[.string t] w fun e w' => e = .returned (.string ⟨(padL t.data.toList).toArray⟩) ∧ Below w.heap.size w w' := by
  obtain ⟨w1, cap, hcv, hog⟩ := OG.conv t w (by unfold maxLen; omega)
  have hl : t.data.toList.length = t.size := Array.length_toList
  go_enter Tryd.func100, Tryd.ntmps100
  go_wp2_with (at_builtin; refine wp_appg rfl _ _ rfl w.heap.size w _ t.data.toList rfl (hog.alloc _) ⟨w1.heap.size, 0, none⟩ 1 128 rfl ?c1 ?c2 ?_)
  case c1 => exact one_cell _ _ _ _ rfl
  case c2 => omega
  intro v w2 hown
  have HL : Hid (t.data.toList.length = t.size) := hl
  clear hcv hog hl
  go_wp2
  go_loopw [3] (fun v wr => PadRel t w v wr) (fun v _ => t.size + 1 + padZ t.size - vlen v)
  case atStart => exact ⟨0, Nat.zero_le _, by simpa [padHead] using hown⟩
  case round =>
    obtain ⟨k, hk, hog⟩ := hrel
    obtain ⟨N, hN⟩ : ∃ N : Nat, t.size + 1 + k = N := ⟨_, rfl⟩
    obtain ⟨a, c, rfl⟩ := hog.open N (by rw [padHead_len, HL.out]; exact hN)
    by_cases hlt : k < padZ t.size
    · have h56 : (N : Int) % 64 ≠ 56 := by have := padZ_least t.size k hlt; omega
      have hp : padZ t.size ≤ 63 := by unfold padZ; omega
      have HLT : Hid (k < padZ t.size) := hlt
      have HP := padHead_len t.data.toList k
      rw [HL.out] at HP
      have HN : Hid (t.size + 1 + k = N) := hN
      clear hlt hk hN
      go_wp2_with (at_builtin; refine wp_appg rfl _ _ rfl w.heap.size w _ (padHead t.data.toList k) rfl (hog.alloc _) ⟨wr.heap.size, 0, none⟩ 1 0 rfl ?c3 ?c4 ?_)
      case c3 => exact one_cell _ _ _ _ rfl
      case c4 => have := HLT.out; omega
      intro v3 w3 hown3
      rw [padHead_succ] at hown3
      go_wp2
      go_roundw
      case rel => exact ⟨k + 1, HLT.out, hown3⟩
      case measure =>
        obtain ⟨a3, c3, rfl⟩ := hown3.open (N + 1) (by rw [padHead_len, HL.out]; have := HN.out; omega)
        have := HN.out
        have := HLT.out
        show t.size + 1 + padZ t.size - (N + 1) < t.size + 1 + padZ t.size - N
        omega
    · have hke : k = padZ t.size := by omega
      have h56 : (N : Int) % 64 = 56 := by have := padZ_mod t.size; omega
      subst hke
      clear hk hlt
      have HN : Hid (t.size + 1 + padZ t.size = N) := hN
      clear hN
      go_wp2
      go_loopw [3, 5] (fun v i wr => PadRel2 t w v i wr) (fun _ i _ => (intOf i + 1).toNat)
      case atStart => exact ⟨0, by omega, rfl, by simpa [lenL] using hog⟩
      case round =>
        obtain ⟨j, hj, rfl, hog2⟩ := hrel
        have HP : (padHead t.data.toList (padZ t.size) ++ lenL (8 * t.size) j).length ≤ 1048576 + 80 := by
          rw [List.length_append, lenL_len, padHead_len, HL.out]
          have : padZ t.size ≤ 63 := by unfold padZ; omega
          omega
        have hS := lenL_succ (8 * t.size) j
        have hB := lenB_nat (8 * t.size) j
        clear hog h56
        by_cases h8 : j = 8
        · subst h8
          have hcv := hog2.str
          have HF : Hid (padHead t.data.toList (padZ t.size) ++ lenL (8 * t.size) 8 = padL t.data.toList) := by
            show _ = _
            unfold padL padHead
            rw [HL.out]
          rw [HF.out] at hcv
          clear hS hB HP
          go_wp2
          go_ret
          exact ⟨rfl, hog2.2.1⟩
        · obtain ⟨I, hI⟩ : ∃ I : Int, 7 - (j : Int) = I := ⟨_, rfl⟩
          rw [hI]
          have H8 : (j = 0 ∧ I = 7) ∨ (j = 1 ∧ I = 6) ∨ (j = 2 ∧ I = 5) ∨ (j = 3 ∧ I = 4) ∨ (j = 4 ∧ I = 3) ∨ (j = 5 ∧ I = 2) ∨ (j = 6 ∧ I = 1) ∨ (j = 7 ∧ I = 0) := by omega
          have HB : Hid ((lenB (8 * t.size) j).toNat = 8 * t.size / 256 ^ (7 - j) % 256) := hB
          have HS : Hid (lenL (8 * t.size) (j + 1) = lenL (8 * t.size) j ++ [lenB (8 * t.size) j]) := hS
          have HPP : Hid ((padHead t.data.toList (padZ t.size) ++ lenL (8 * t.size) j).length ≤ 1048576 + 80) := HP
          clear hB hS h8 hj HP hI
          rcases H8 with ⟨rfl, rfl⟩ | ⟨rfl, rfl⟩ | ⟨rfl, rfl⟩ | ⟨rfl, rfl⟩ | ⟨rfl, rfl⟩ | ⟨rfl, rfl⟩ | ⟨rfl, rfl⟩ | ⟨rfl, rfl⟩
          · go_wp2_with (at_builtin; refine wp_appg rfl _ _ rfl w.heap.size w _ (padHead t.data.toList (padZ t.size) ++ lenL (8 * t.size) 0) rfl (hog2.alloc _) ⟨_, 0, none⟩ 1 (lenB (8 * t.size) 0) rfl ?c5 ?c6 ?_)
            case c5 => exact one_cell _ _ _ _ (by have := HB.out; omega)
            case c6 => have := HPP.out; omega
            intro v5 w5 hown5
            rw [← lenL_succ] at hown5
            go_wp2
            go_roundw
            case rel => exact ⟨1, by omega, rfl, hown5⟩
            case measure => simp [intOf]
          · go_wp2_with (at_builtin; refine wp_appg rfl _ _ rfl w.heap.size w _ (padHead t.data.toList (padZ t.size) ++ lenL (8 * t.size) 1) rfl (hog2.alloc _) ⟨_, 0, none⟩ 1 (lenB (8 * t.size) 1) rfl ?c5 ?c6 ?_)
            case c5 => exact one_cell _ _ _ _ (by have := HB.out; omega)
            case c6 => have := HPP.out; omega
            intro v5 w5 hown5
            rw [← lenL_succ] at hown5
            go_wp2
            go_roundw
            case rel => exact ⟨2, by omega, rfl, hown5⟩
            case measure => simp [intOf]
          · go_wp2_with (at_builtin; refine wp_appg rfl _ _ rfl w.heap.size w _ (padHead t.data.toList (padZ t.size) ++ lenL (8 * t.size) 2) rfl (hog2.alloc _) ⟨_, 0, none⟩ 1 (lenB (8 * t.size) 2) rfl ?c5 ?c6 ?_)
            case c5 => exact one_cell _ _ _ _ (by have := HB.out; omega)
            case c6 => have := HPP.out; omega
            intro v5 w5 hown5
            rw [← lenL_succ] at hown5
            go_wp2
            go_roundw
            case rel => exact ⟨3, by omega, rfl, hown5⟩
            case measure => simp [intOf]
          · go_wp2_with (at_builtin; refine wp_appg rfl _ _ rfl w.heap.size w _ (padHead t.data.toList (padZ t.size) ++ lenL (8 * t.size) 3) rfl (hog2.alloc _) ⟨_, 0, none⟩ 1 (lenB (8 * t.size) 3) rfl ?c5 ?c6 ?_)
            case c5 => exact one_cell _ _ _ _ (by have := HB.out; omega)
            case c6 => have := HPP.out; omega
            intro v5 w5 hown5
            rw [← lenL_succ] at hown5
            go_wp2
            go_roundw
            case rel => exact ⟨4, by omega, rfl, hown5⟩
            case measure => simp [intOf]
          · go_wp2_with (at_builtin; refine wp_appg rfl _ _ rfl w.heap.size w _ (padHead t.data.toList (padZ t.size) ++ lenL (8 * t.size) 4) rfl (hog2.alloc _) ⟨_, 0, none⟩ 1 (lenB (8 * t.size) 4) rfl ?c5 ?c6 ?_)
            case c5 => exact one_cell _ _ _ _ (by have := HB.out; omega)
            case c6 => have := HPP.out; omega
            intro v5 w5 hown5
            rw [← lenL_succ] at hown5
            go_wp2
            go_roundw
            case rel => exact ⟨5, by omega, rfl, hown5⟩
            case measure => simp [intOf]
          · go_wp2_with (at_builtin; refine wp_appg rfl _ _ rfl w.heap.size w _ (padHead t.data.toList (padZ t.size) ++ lenL (8 * t.size) 5) rfl (hog2.alloc _) ⟨_, 0, none⟩ 1 (lenB (8 * t.size) 5) rfl ?c5 ?c6 ?_)
            case c5 => exact one_cell _ _ _ _ (by have := HB.out; omega)
            case c6 => have := HPP.out; omega
            intro v5 w5 hown5
            rw [← lenL_succ] at hown5
            go_wp2
            go_roundw
            case rel => exact ⟨6, by omega, rfl, hown5⟩
            case measure => simp [intOf]
          · go_wp2_with (at_builtin; refine wp_appg rfl _ _ rfl w.heap.size w _ (padHead t.data.toList (padZ t.size) ++ lenL (8 * t.size) 6) rfl (hog2.alloc _) ⟨_, 0, none⟩ 1 (lenB (8 * t.size) 6) rfl ?c5 ?c6 ?_)
            case c5 => exact one_cell _ _ _ _ (by have := HB.out; omega)
            case c6 => have := HPP.out; omega
            intro v5 w5 hown5
            rw [← lenL_succ] at hown5
            go_wp2
            go_roundw
            case rel => exact ⟨7, by omega, rfl, hown5⟩
            case measure => simp [intOf]
          · go_wp2_with (at_builtin; refine wp_appg rfl _ _ rfl w.heap.size w _ (padHead t.data.toList (padZ t.size) ++ lenL (8 * t.size) 7) rfl (hog2.alloc _) ⟨_, 0, none⟩ 1 (lenB (8 * t.size) 7) rfl ?c5 ?c6 ?_)
            case c5 => exact one_cell _ _ _ _ (by have := HB.out; omega)
            case c6 => have := HPP.out; omega
            intro v5 w5 hown5
            rw [← lenL_succ] at hown5
            go_wp2
            go_roundw
            case rel => exact ⟨8, by omega, rfl, hown5⟩
            case measure => simp [intOf]


/-- block g holds just the bytes l -/
def Byt (w : World) (g : Nat) (l : List UInt8) : Prop := w.heap[g]? = some (.cells (bv l).toArray 5 (0, 0))

theorem Byt.cell {w : World} {g : Nat} {l : List UInt8} (h : Byt w g l) (i : Nat) (hi : i < l.length) : w.cell? ⟨g, i, none⟩ = some (.int .u8 (l[i].toNat : Int)) := by
  rw [cell_of_row w g i _ 5 (0, 0) h]
  simp [bv, hi]
theorem Byt.has {w : World} {g : Nat} {l : List UInt8} (h : Byt w g l) (i : Nat) (hi : i < l.length) : ∃ x, w.cell? ⟨g, i, none⟩ = some x := ⟨_, h.cell i hi⟩
theorem Byt.frozen {w : World} {g : Nat} {l : List UInt8} (h : Byt w g l) (i : Nat) : w.frozen? ⟨g, i, none⟩ = false := by
  simp [World.frozen?, show w.heap[g]? = some (.cells (bv l).toArray 5 (0, 0)) from h]
theorem Byt.set {w : World} {g : Nat} {l : List UInt8} (h : Byt w g l) (i : Nat) (b : UInt8) (l' : List UInt8) (hl : l.set i b = l') : Byt (w.setCell ⟨g, i, none⟩ (.int .u8 (b.toNat : Int))) g l' := by
  subst hl
  unfold Byt at *
  rw [heap_setCell_same w g i _ 5 _ h]
  congr 2
  simp [bv, List.map_set]
theorem Byt.setx {w : World} {g : Nat} {l : List UInt8} (h : Byt w g l) (i : Nat) (x : Int) (b : UInt8) (l' : List UInt8) (hx : x = (b.toNat : Int)) (hl : l.set i b = l') : Byt (w.setCell ⟨g, i, none⟩ (.int .u8 x)) g l' := by
  subst hx
  exact h.set i b l' hl
theorem Byt.str {w : World} {g : Nat} {l : List UInt8} (h : Byt w g l) (n cap : Nat) (hn : l.length = n) : (convert 22 9 (.slice (some ⟨g, 0, none⟩) n cap)).run Tryd.prog w = .ok (.string ⟨l.toArray⟩) w := by
  subst hn
  refine run_convert_bytes_back w 22 9 5 ⟨g, 0, none⟩ cap l Tryd.underlying22 Tryd.underlying5 Tryd.underlying9 ?_
  intro j hj
  have hadd : (⟨g, 0, none⟩ : Addr).add j = ⟨g, j, none⟩ := by unfold Addr.add; split <;> simp_all
  rw [hadd]
  exact h.cell j hj

/-- 'make([]byte, n)' -/
theorem Byt.made (n : Nat) (h : n ≤ 1000000000) (W : World) : ∃ w', (Instr.makeSlice 22 (.int .i64 (n : Int)) (.int .i64 (n : Int))).run Tryd.prog W = .ok (.slice (some ⟨W.heap.size, 0, none⟩) n n) w' ∧ Byt w' W.heap.size (List.replicate n 0) ∧ Below W.heap.size W w' ∧ w'.heap.size = W.heap.size + 1 := by
  obtain ⟨i0, hi, hz0, hz1, hz2⟩ := info_parts Tryd.info5
  have h1 := run_make (P := Tryd.prog) W 22 5 i0 (.int .u8 0) Tryd.underlying22 hi hz0 .i64 .i64 (n : Int) (n : Int) (by omega) (by omega) (by rw [hz2]; omega) (by omega)
  refine ⟨_, by simpa using h1, ?_, (Below.refl _ _).alloc (Nat.le_refl _) _, by simp⟩
  unfold Byt
  have e : madeCells (Value.int .u8 0).cells (n * i0.size) = (bv (List.replicate n 0)).toArray := by
    apply Array.toList_inj.1
    rw [hz1]
    simp [Value.cells, toList_madeCells_one, bv]
  rw [e, Go.heap_alloc_new]

set_option maxRecDepth 100000 in
/-- 'copy(b, t)' -/
theorem Byt.copy {w : World} {g n : Nat} (t : ByteArray) (ty : TypeId) (h : Byt w g (List.replicate n 0)) (hn : t.size ≤ n) : ∃ w', (Builtin.copy_ #[22, 9] ty #[.slice (some ⟨g, 0, none⟩) n n, .string t]).run Tryd.prog w = .ok (.int .i64 (t.size : Int)) w' ∧ Byt w' g (t.data.toList ++ List.replicate (n - t.size) 0) ∧ (∀ B, B ≤ g → Below B w w') ∧ w'.heap.size = w.heap.size := by
  have h1 := Lib.run_copy_row_string (P := Tryd.prog) w 22 9 ty 5 g 0 n n t _ 5 Tryd.underlying22 (by kernel_rfl) h hn (by simp [bv]; omega)
  have h2 : t.data.toList.length = t.size := Array.length_toList
  refine ⟨_, h1, ?_, ?_, ?_⟩
  · unfold Byt
    rw [setRow_heap w g _ _ 5 _ h]
    congr 2
    simp [bv, Lib.byteCells]
  · intro B hB
    exact ⟨rfl, rfl, rfl, by simp [World.setRow], fun k hk => setRow_other w g k _ (by omega)⟩
  · simp [World.setRow]

end Go.Proofs.YtaejeemjndmjcaaDoor
/-
  The walk of the program's PadText.
-/
namespace Go.Proofs.YtaejeemjndmjcaaDoor
open Go.RowKit
set_option linter.unusedVariables false

/-- the row when the last i bytes of the length stand -/
def padRow (l : List UInt8) (i : Nat) : List UInt8 := padHead l (padZ l.length + (8 - i)) ++ (lenL (8 * l.length) 8).drop (8 - i)
theorem padRow_len (l : List UInt8) (i : Nat) (h : i ≤ 8) : (padRow l i).length = (l.length + 72) / 64 * 64 := by
  unfold padRow
  rw [List.length_append, padHead_len, List.length_drop, lenL_len]
  unfold padZ
  omega
theorem padRow_start (l : List UInt8) : (l ++ List.replicate ((l.length + 72) / 64 * 64 - l.length) 0).set l.length 128 = padRow l 0 := by
  have e : (l.length + 72) / 64 * 64 - l.length = (padZ l.length + 8) + 1 := by unfold padZ; omega
  rw [e, List.replicate_succ, List.set_append_right _ _ (Nat.le_refl _)]
  simp [padRow, padHead, lenL_len]
theorem padRow_end (l : List UInt8) : padRow l 8 = padL l := by simp [padRow, padL, padHead]
theorem padRow_step (l : List UInt8) (i : Nat) (h : i < 8) : (padRow l i).set ((l.length + 72) / 64 * 64 - 1 - i) (lenB (8 * l.length) (7 - i)) = padRow l (i + 1) := by
  have e1 : 8 - i = (8 - (i + 1)) + 1 := by omega
  have e2 : (l.length + 72) / 64 * 64 - 1 - i = (padHead l (padZ l.length + (8 - (i + 1)))).length := by rw [padHead_len]; unfold padZ; omega
  unfold padRow
  rw [e1, ← Nat.add_assoc, ← padHead_succ, List.append_assoc, e2, List.set_append_right _ _ (Nat.le_refl _)]
  congr 1
  simp
  have e3 : 7 - i < (lenL (8 * l.length) 8).length := by rw [lenL_len]; omega
  rw [List.drop_eq_getElem_cons e3]
  congr 1
  simp [lenL]

def PadRel3 (t : ByteArray) (w : World) (i : Value) (wr : World) : Prop :=
  ∃ j : Nat, j ≤ 8 ∧ i = .int .i64 (j : Int) ∧ Byt wr w.heap.size (padRow t.data.toList j) ∧ Below w.heap.size w wr

set_option maxRecDepth 100000 in
set_option maxHeartbeats 1000000 in
theorem PadText_any (t : ByteArray) (w : World) (ht : t.size ≤ 1048576) :
    Calls Tryd.prog 112 #[.string t] w fun e w' => e = .returned (.string ⟨(padL t.data.toList).toArray⟩) ∧ Below w.heap.size w w' := by
  obtain ⟨M, hm⟩ : ∃ M : Nat, (t.size + 72) / 64 * 64 = M := ⟨_, rfl⟩
  obtain ⟨w1, hmk, hb1, hbel1, hsz1⟩ := Byt.made M (by omega) w
  obtain ⟨w2, hcp, hb2, hbel2, hsz2⟩ := hb1.copy t 3 (by omega)
  have eM : (M : Int) = ((t.size : Int) + 1 + 8 + 64 - 1) / 64 * 64 := by omega
  rw [eM] at hmk
  have hl : t.data.toList.length = t.size := Array.length_toList
  obtain ⟨x1, c1⟩ := hb2.has t.size (by simp [hl]; omega)
  have f1 := hb2.frozen t.size
  have hM : t.size + 9 ≤ M := by omega
  have hM2 : M ≤ 2000000 := by omega
  have hst := hb2.set t.size 128 (padRow t.data.toList 0) (by have := padRow_start t.data.toList; rw [hl, hm] at this; exact this)
  have hbel : Below w.heap.size w (w2.setCell ⟨w.heap.size, t.size, none⟩ (.int .u8 ((128 : UInt8).toNat : Int))) := (hbel1.trans (hbel2 _ (Nat.le_refl _))).setCell (p := ⟨w.heap.size, t.size, none⟩) (Nat.le_refl _) _
  have HST : Hid (Byt (w2.setCell ⟨w.heap.size, t.size, none⟩ (.int .u8 128)) w.heap.size (padRow t.data.toList 0) ∧ Below w.heap.size w (w2.setCell ⟨w.heap.size, t.size, none⟩ (.int .u8 128))) := ⟨hst, hbel⟩
  have HL : Hid (t.data.toList.length = t.size) := hl
  have HM : Hid ((t.size + 72) / 64 * 64 = M) := hm
  clear hst hbel hb1 hb2 hbel1 hbel2 hsz1 hsz2 hl hm eM
  go_enter Tryd.func112, Tryd.ntmps112
  go_wp2
  go_loopw [28] (fun i wr => PadRel3 t w i wr) (fun i _ => 8 - (intOf i).toNat)
  case atStart => exact ⟨0, by omega, rfl, HST.out.1, HST.out.2⟩
  case round =>
    obtain ⟨j, hj, rfl, hb, hbel⟩ := hrel
    have hlen := padRow_len t.data.toList j hj
    rw [HL.out, HM.out] at hlen
    clear HST c1 f1 hcp hmk
    by_cases h8 : j = 8
    · subst h8
      have hcv := hb.str M M hlen
      rw [padRow_end] at hcv
      clear hb hlen
      go_wp2
      go_ret
      exact ⟨rfl, hbel⟩
    · have hB := lenB_nat (8 * t.size) (7 - j)
      have hS := padRow_step t.data.toList j (by omega)
      rw [HL.out, HM.out] at hS
      obtain ⟨x1, c1⟩ := hb.has (M - 1 - j) (by omega)
      have f1 := hb.frozen (M - 1 - j)
      have HB : Hid ((lenB (8 * t.size) (7 - j)).toNat = 8 * t.size / 256 ^ (7 - (7 - j)) % 256) := hB
      have HS : Hid ((padRow t.data.toList j).set (M - 1 - j) (lenB (8 * t.size) (7 - j)) = padRow t.data.toList (j + 1)) := hS
      obtain ⟨I, hI⟩ : ∃ I : Int, (j : Int) = I := ⟨_, rfl⟩
      rw [hI]
      have H8 : (j = 0 ∧ I = 0) ∨ (j = 1 ∧ I = 1) ∨ (j = 2 ∧ I = 2) ∨ (j = 3 ∧ I = 3) ∨ (j = 4 ∧ I = 4) ∨ (j = 5 ∧ I = 5) ∨ (j = 6 ∧ I = 6) ∨ (j = 7 ∧ I = 7) := by omega
      clear hB hS h8 hj hlen hI
      rcases H8 with ⟨rfl, rfl⟩ | ⟨rfl, rfl⟩ | ⟨rfl, rfl⟩ | ⟨rfl, rfl⟩ | ⟨rfl, rfl⟩ | ⟨rfl, rfl⟩ | ⟨rfl, rfl⟩ | ⟨rfl, rfl⟩
      · have i0 : (0 : Int) ≤ (M : Int) - 1 := by omega
        have i1 : (M : Int) - 1 < (M : Int) := by omega
        have i2 : ((M : Int) - 1).toNat = M - 1 := by omega
        simp only [Nat.sub_zero] at c1 f1
        go_wp2
        go_roundw
        case rel => exact ⟨1, by omega, by go_num, hb.setx _ _ _ _ (by have := HB.out; omega) HS.out, hbel.setCell (p := ⟨w.heap.size, M - 1 - 0, none⟩) (Nat.le_refl _) _⟩
        case measure => simp [intOf]
      · have i0 : (0 : Int) ≤ (M : Int) - 1 - 1 := by omega
        have i1 : (M : Int) - 1 - 1 < (M : Int) := by omega
        have i2 : ((M : Int) - 1 - 1).toNat = M - 1 - 1 := by omega
        go_wp2
        go_roundw
        case rel => exact ⟨2, by omega, by go_num, hb.setx _ _ _ _ (by have := HB.out; omega) HS.out, hbel.setCell (p := ⟨w.heap.size, M - 1 - 1, none⟩) (Nat.le_refl _) _⟩
        case measure => simp [intOf]
      · have i0 : (0 : Int) ≤ (M : Int) - 1 - 2 := by omega
        have i1 : (M : Int) - 1 - 2 < (M : Int) := by omega
        have i2 : ((M : Int) - 1 - 2).toNat = M - 1 - 2 := by omega
        go_wp2
        go_roundw
        case rel => exact ⟨3, by omega, by go_num, hb.setx _ _ _ _ (by have := HB.out; omega) HS.out, hbel.setCell (p := ⟨w.heap.size, M - 1 - 2, none⟩) (Nat.le_refl _) _⟩
        case measure => simp [intOf]
      · have i0 : (0 : Int) ≤ (M : Int) - 1 - 3 := by omega
        have i1 : (M : Int) - 1 - 3 < (M : Int) := by omega
        have i2 : ((M : Int) - 1 - 3).toNat = M - 1 - 3 := by omega
        go_wp2
        go_roundw
        case rel => exact ⟨4, by omega, by go_num, hb.setx _ _ _ _ (by have := HB.out; omega) HS.out, hbel.setCell (p := ⟨w.heap.size, M - 1 - 3, none⟩) (Nat.le_refl _) _⟩
        case measure => simp [intOf]
      · have i0 : (0 : Int) ≤ (M : Int) - 1 - 4 := by omega
        have i1 : (M : Int) - 1 - 4 < (M : Int) := by omega
        have i2 : ((M : Int) - 1 - 4).toNat = M - 1 - 4 := by omega
        go_wp2
        go_roundw
        case rel => exact ⟨5, by omega, by go_num, hb.setx _ _ _ _ (by have := HB.out; omega) HS.out, hbel.setCell (p := ⟨w.heap.size, M - 1 - 4, none⟩) (Nat.le_refl _) _⟩
        case measure => simp [intOf]
      · have i0 : (0 : Int) ≤ (M : Int) - 1 - 5 := by omega
        have i1 : (M : Int) - 1 - 5 < (M : Int) := by omega
        have i2 : ((M : Int) - 1 - 5).toNat = M - 1 - 5 := by omega
        go_wp2
        go_roundw
        case rel => exact ⟨6, by omega, by go_num, hb.setx _ _ _ _ (by have := HB.out; omega) HS.out, hbel.setCell (p := ⟨w.heap.size, M - 1 - 5, none⟩) (Nat.le_refl _) _⟩
        case measure => simp [intOf]
      · have i0 : (0 : Int) ≤ (M : Int) - 1 - 6 := by omega
        have i1 : (M : Int) - 1 - 6 < (M : Int) := by omega
        have i2 : ((M : Int) - 1 - 6).toNat = M - 1 - 6 := by omega
        go_wp2
        go_roundw
        case rel => exact ⟨7, by omega, by go_num, hb.setx _ _ _ _ (by have := HB.out; omega) HS.out, hbel.setCell (p := ⟨w.heap.size, M - 1 - 6, none⟩) (Nat.le_refl _) _⟩
        case measure => simp [intOf]
      · have i0 : (0 : Int) ≤ (M : Int) - 1 - 7 := by omega
        have i1 : (M : Int) - 1 - 7 < (M : Int) := by omega
        have i2 : ((M : Int) - 1 - 7).toNat = M - 1 - 7 := by omega
        go_wp2
        go_roundw
        case rel => exact ⟨8, by omega, by go_num, hb.setx _ _ _ _ (by have := HB.out; omega) HS.out, hbel.setCell (p := ⟨w.heap.size, M - 1 - 7, none⟩) (Nat.le_refl _) _⟩
        case measure => simp [intOf]

end Go.Proofs.YtaejeemjndmjcaaDoor
/-
  The first numbers and the keys, the program's and the specification's; a state in bytes.
-/
namespace Go.Proofs.YtaejeemjndmjcaaDoor
open Go.RowKit Go.BigFrame
set_option linter.unusedVariables false

theorem toNat_lit (n : Nat) (h : n < 4294967296) : ((UInt32.ofNat n).toNat : Int) = (n : Int) := by rw [H.toNat_of n h]

set_option maxRecDepth 100000 in
set_option maxHeartbeats 400000 in
theorem l03First_any (w : World) : Calls Tryd.prog 98 #[] w fun e w' => ∃ R, e = .returned (.agg R) ∧ AggIs R 8 firstF ∧ Below w.heap.size w w' := by
  have HAG : Hid (AggIs #[.int .u32 1779033703, .int .u32 3144134277, .int .u32 1013904242, .int .u32 2773480762, .int .u32 1359893119, .int .u32 2600822924, .int .u32 528734635, .int .u32 1541459225] 8 firstF) := agg8 firstF
  go_enter Tryd.func98, Tryd.ntmps98
  go_wp2_with (first | (with_reducible refine wp_alloc50 rfl rfl ?_) | (refine wp_storeArr rfl 119 _ _ rfl w.heap.size 119 8 _ firstF _ (Arr.agg (AggIs.zeros 8)) HAG.out rfl rfl size51 ?_; intro hfin))
  refine ret_arr 0 w.heap.size 119 8 119 118 firstF rfl rfl rfl hfin Tryd.underlying119 size51 ?_
  intro R2 hR2
  exact ⟨R2, rfl, hR2, below_setRow ((Below.refl _ _).alloc (Nat.le_refl _) _) (Nat.le_refl _)⟩

def B1 (w : World) (i : Value) (wr : World) : Prop := ∃ (m : Nat) (f : Nat → UInt32), m ≤ 8 ∧ i = .int .i64 m ∧ Arr wr w.heap.size 132 8 (fun _ => 0) ∧ Arr wr (w.heap.size + 1) 132 8 f ∧ (∀ i, i < m → f i = firstF i) ∧ TabF wr ∧ Below w.heap.size w wr

set_option maxRecDepth 100000 in
set_option maxHeartbeats 400000 in
theorem shaBegin_any (w : World) (hT : TabF w) : Calls Tryd.prog 113 #[] w fun e w' => ∃ R, e = .returned (.agg R) ∧ AggIs R 8 firstF ∧ Below w.heap.size w w' := by
  have hp := hT.pos
  have hb0 : Below w.heap.size w ((w.alloc (.cells (zeros 8) 132)).alloc (.cells (zeros 8) 132)) := ((Below.refl _ _).alloc (Nat.le_refl _) _).alloc (by simp) _
  have a2 := Arr.agg (w := w.alloc (.cells (zeros 8) 132)) (t := 132) (AggIs.zeros 8)
  have HST : Hid (B1 w (.int .i64 0) ((w.alloc (.cells (zeros 8) 132)).alloc (.cells (zeros 8) 132))) := ⟨0, fun _ => 0, by omega, rfl, (Arr.agg (AggIs.zeros 8)).alloc _, by simpa using a2, fun i hi => absurd hi (by omega), hT.later hb0 hp, hb0⟩
  clear a2 hb0 hT
  go_enter Tryd.func113, Tryd.ntmps113
  go_wp2_with (refine wp_allocArr rfl 132 8 rfl zero52 ?_)
  generalize ((w.alloc (.cells (zeros 8) 132)).alloc (.cells (zeros 8) 132)) = w1 at *
  go_loopw [3] (fun i wr => B1 w i wr) (fun i _ => 8 - (intOf i).toNat)
  case atStart => exact HST.out
  case round =>
    obtain ⟨m, f, hm, rfl, ha, hf, he, ht, hbel⟩ := hrel
    by_cases hlt : m < 8
    · have c0 := hf.cell m hlt
      have f0 := hf.frozen m
      have c1 := ht m hlt
      have HN : Hid (B1 w (.int .i64 ((m + 1 : Nat) : Int)) (wr.setCell ⟨w.heap.size + 1, m, none⟩ (.int .u32 ((firstF m).toNat : Int)))) := by
        have hb2 : Below w.heap.size w (wr.setCell ⟨w.heap.size + 1, m, none⟩ (.int .u32 ((firstF m).toNat : Int))) := hbel.setCell (p := ⟨w.heap.size + 1, m, none⟩) (by show w.heap.size ≤ w.heap.size + 1; omega) _
        refine ⟨m + 1, H.upd f m (firstF m), by omega, rfl, ha.other _ _ _ (by omega), hf.set m hlt _, fun i hi => ?_, fun i hi => ?_, hb2⟩
        · unfold H.upd
          by_cases h1 : i = m
          · rw [if_pos h1, h1]
          · rw [if_neg h1]; exact he i (by omega)
        · rw [World.cell?_setCell_other _ _ _ _ (by simp)]
          exact ht i hi
      generalize firstF m = X at *
      clear HST ha hf he ht hbel
      have i8 : (m : Int) < 8 := by omega
      have i9 : (0 : Int) ≤ (m : Int) := by omega
      go_wp2
      go_roundw
      case rel =>
        have h1 := HN.out
        have e1 : (((m + 1 : Nat)) : Int) = (m : Int) + 1 := by omega
        rw [e1] at h1
        exact h1
      case measure => simp [intOf]; omega
    · have hme : m = 8 := by omega
      subst hme
      have HF : Hid (Arr wr (w.heap.size + 1) 132 8 firstF) := hf.congr he
      have HR : Hid (Arr wr w.heap.size 132 8 (fun _ => 0)) := ha
      clear ha hf he ht HST
      go_wp2_with (first | (refine wp_loadArr rfl 132 _ rfl (w.heap.size + 1) 132 8 firstF 118 rfl HF.out Tryd.underlying132 size52 ?_; intro R hR) | (refine wp_storeArr rfl 132 _ _ rfl w.heap.size 132 8 _ firstF R HR.out hR rfl rfl size52 ?_; intro hfin))
      refine ret_arr 0 w.heap.size 132 8 132 118 firstF rfl rfl rfl hfin Tryd.underlying132 size52 ?_
      intro R2 hR2
      exact ⟨R2, rfl, hR2, below_setRow hbel (Nat.le_refl _)⟩

theorem agg_of (l : List UInt32) (n : Nat) (hn : l.length = n) : AggIs (l.map fun x => Value.int .u32 (x.toNat : Int)).toArray n (fun i => l.getD i 0) := by
  subst hn
  refine ⟨by simp, fun i hi => ?_⟩
  simp [List.getD, hi]

def keyA : Array Value := #[.int .u32 1116352408, .int .u32 1899447441, .int .u32 3049323471, .int .u32 3921009573, .int .u32 961987163, .int .u32 1508970993, .int .u32 2453635748, .int .u32 2870763221, .int .u32 3624381080, .int .u32 310598401, .int .u32 607225278, .int .u32 1426881987, .int .u32 1925078388, .int .u32 2162078206, .int .u32 2614888103, .int .u32 3248222580, .int .u32 3835390401, .int .u32 4022224774, .int .u32 264347078, .int .u32 604807628, .int .u32 770255983, .int .u32 1249150122, .int .u32 1555081692, .int .u32 1996064986, .int .u32 2554220882, .int .u32 2821834349, .int .u32 2952996808, .int .u32 3210313671, .int .u32 3336571891, .int .u32 3584528711, .int .u32 113926993, .int .u32 338241895, .int .u32 666307205, .int .u32 773529912, .int .u32 1294757372, .int .u32 1396182291, .int .u32 1695183700, .int .u32 1986661051, .int .u32 2177026350, .int .u32 2456956037, .int .u32 2730485921, .int .u32 2820302411, .int .u32 3259730800, .int .u32 3345764771, .int .u32 3516065817, .int .u32 3600352804, .int .u32 4094571909, .int .u32 275423344, .int .u32 430227734, .int .u32 506948616, .int .u32 659060556, .int .u32 883997877, .int .u32 958139571, .int .u32 1322822218, .int .u32 1537002063, .int .u32 1747873779, .int .u32 1955562222, .int .u32 2024104815, .int .u32 2227730452, .int .u32 2361852424, .int .u32 2428436474, .int .u32 2756734187, .int .u32 3204031479, .int .u32 3329325298]
theorem keyA_is : AggIs keyA 64 keyF := agg_of keyL 64 rfl
theorem zero61 : (Tryd.prog.info? 121).map (fun i => (i.zero, i.size)) = some (some (.agg (zeros 64)), 64) := by kernel_rfl

set_option maxRecDepth 100000 in
set_option maxHeartbeats 1000000 in
theorem l03Keys_any (w : World) : Calls Tryd.prog 99 #[] w fun e w' => ∃ R, e = .returned (.agg R) ∧ AggIs R 64 keyF ∧ Below w.heap.size w w' := by
  go_enter Tryd.func99, Tryd.ntmps99
  go_wp2_with (first | (with_reducible refine wp_alloc55 rfl rfl ?_) | (refine wp_storeArr rfl 121 _ _ rfl w.heap.size 121 64 _ keyF keyA (Arr.agg (AggIs.zeros 64)) keyA_is rfl rfl size61 ?_; intro hfin))
  refine ret_arr 0 w.heap.size 121 64 121 118 keyF rfl rfl rfl hfin Tryd.underlying121 size61 ?_
  intro R2 hR2
  exact ⟨R2, rfl, hR2, below_setRow ((Below.refl _ _).alloc (Nat.le_refl _) _) (Nat.le_refl _)⟩
end Go.Proofs.YtaejeemjndmjcaaDoor
