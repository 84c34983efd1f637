/-
  Texts laid together: Pad, Padw, Padi, Begin, Inb, Block, Dig, Digs, Hexw, Hexs, Wid, Cut.
-/
import Derived.Test.YtmfoliocibjdnaaDoorPkA
import Derived.Lib.ConvBytes
import Derived.Lib.BufferWrite
import Derived.Test.YtmfoliocibjdnaaDoorPkB
import Derived.StillTailTactics
/-
  What PadText answers, in plain words; a row of bytes that the call owns, also one that was made of a string.
-/
namespace Go.Proofs.YtmfoliocibjdnaaDoor
open Go.RowKit
set_option linter.unusedVariables false

/-- the byte of place j of the length, the highest first -/
def lenB (n j : Nat) : UInt8 := UInt8.ofNat (n / 256 ^ (7 - j))
def lenL (n k : Nat) : List UInt8 := (List.range k).map (lenB n)
def padZ (n : Nat) : Nat := (119 - n % 64) % 64
def padL (l : List UInt8) : List UInt8 := (l ++ [128] ++ List.replicate (padZ l.length) 0) ++ lenL (8 * l.length) 8

theorem lenL_len (n k : Nat) : (lenL n k).length = k := by simp [lenL]
theorem lenL_succ (n k : Nat) : lenL n (k + 1) = lenL n k ++ [lenB n k] := by simp [lenL, List.range_succ]
theorem padZ_mod (n : Nat) : (n + 1 + padZ n) % 64 = 56 := by unfold padZ; omega
theorem padZ_least (n k : Nat) (h : k < padZ n) : (n + 1 + k) % 64 ≠ 56 := by unfold padZ at h; omega
theorem padL_len (l : List UInt8) : (padL l).length = l.length + 1 + padZ l.length + 8 := by
  unfold padL
  rw [List.length_append, lenL_len]
  simp
  omega
theorem padL_blocks (l : List UInt8) : (padL l).length = (l.length + 72) / 64 * 64 := by
  rw [padL_len]
  unfold padZ
  omega

/-- v owns the bytes l, in blocks from B on; what lies behind its row may bear a mark; below B all is as it was in w0 -/
def OG (B : Nat) (w0 w : World) (v : Value) (l : List UInt8) : Prop :=
  (∃ (g cap : Nat) (cur : Array Value) (fz : Nat × Nat), v = .slice (some ⟨g, 0, none⟩) l.length cap ∧ B ≤ g ∧ w.heap[g]? = some (.cells cur 5 fz) ∧ (fz = (0, 0) ∨ cap ≤ fz.1) ∧ l.length ≤ cap ∧ cap ≤ maxLen ∧ cur.size = cap ∧
    ∀ j (h : j < l.length), cur[j]? = some (.int .u8 (l[j].toNat : Int))) ∧ Below B w0 w ∧ B ≤ w.heap.size

theorem OG.alloc {B : Nat} {w0 w : World} {v : Value} {l : List UInt8} (h : OG B w0 w v l) (o : Obj) : OG B w0 (w.alloc o) v l := by
  obtain ⟨⟨g, cap, cur, fz, hv, hb, hg, hr⟩, h2, h3⟩ := h
  exact ⟨⟨g, cap, cur, fz, hv, hb, by rw [Go.heap_alloc_old w o (Array.getElem?_eq_some_iff.1 hg).1]; exact hg, hr⟩, h2.alloc h3 o, by simp; omega⟩

theorem OG.size {B : Nat} {w0 w : World} {v : Value} {l : List UInt8} (h : OG B w0 w v l) : ∃ a cap, v = .slice a l.length cap := by
  obtain ⟨⟨g, cap, cur, fz, hv, _⟩, _⟩ := h
  exact ⟨_, cap, hv⟩

theorem OG.conv (t : ByteArray) (w : World) (ht : t.size ≤ maxLen) : ∃ (w' : World) (cap : Nat), (convert 9 22 (.string t)).run Tryd.prog w = .ok (.slice (some ⟨w.heap.size, 0, none⟩) t.size cap) w' ∧ OG w.heap.size w w' (.slice (some ⟨w.heap.size, 0, none⟩) t.size cap) t.data.toList := by
  have h1 : t.data.toList.length = t.size := Array.length_toList
  have hge := grownCap_ge w t.size 0 5
  have hcm := grownCap_le_maxLen w t.size 0 5 ht
  refine ⟨Lib.bytesWorld w 5 t, grownCap w t.size 0 5, Lib.run_convert_string_bytes w 9 22 5 t Tryd.underlying9 Tryd.underlying22 Tryd.underlying5, ⟨_, _, _, _, by rw [h1], Nat.le_refl _, Lib.bytesWorld_at_new w 5 t, ?_, by omega, hcm, ?_, ?_⟩, ⟨?_, ?_, ?_, ?_, ?_⟩, ?_⟩
  · right
    simp [Lib.bytesCells]
    have : t.data.size = t.size := rfl
    omega
  · simp [Lib.bytesCells]
    have : t.data.size = t.size := rfl
    omega
  · intro j hj
    have hj' : j < t.data.size := by have : t.data.size = t.size := rfl; omega
    have hj2 : j < t.size := hj'
    simp [Lib.bytesCells, Array.getElem?_append, hj2]
  · simp [Lib.bytesWorld, World.freeze, World.alloc, World.drew, -World.alloc_eq, -World.drew_eq]
  · simp [Lib.bytesWorld, World.freeze, World.alloc, World.drew, -World.alloc_eq, -World.drew_eq]
  · simp [Lib.bytesWorld, World.freeze, World.alloc, World.drew, -World.alloc_eq, -World.drew_eq]
  · rw [Lib.bytesWorld_size]; omega
  · intro b hb
    exact Lib.bytesWorld_at_old w 5 t b hb
  · rw [Lib.bytesWorld_size]; omega

/-- one byte more -/
theorem OG.app {B : Nat} {w0 w : World} {v : Value} {l : List UInt8} (h : OG B w0 w v l) (ty : TypeId) (ad : Addr) (c : Nat) (b : UInt8) (hx : w.cell? ad = some (.int .u8 (b.toNat : Int))) (hlen : l.length + 1 ≤ 1000000000) :
    ∃ v' w', (Builtin.append_ #[22, 22] ty #[v, .slice (some ad) 1 c]).run Tryd.prog w = .ok v' w' ∧ OG B w0 w' v' (l ++ [b]) := by
  obtain ⟨i0, hi, hz0, hz1, hz2⟩ := info_parts Tryd.info5
  obtain ⟨⟨g, cap, cur, fz, rfl, hb, hg, hfz, hn, hm, hcs, hcell⟩, hbel, hB⟩ := h
  have hglt := (Array.getElem?_eq_some_iff.1 hg).1
  have hnews : ∀ j u, [Value.int .u8 (b.toNat : Int)][j]? = some u → w.cell? (ad.add j) = some u := by
    intro j u hj
    have h0 : j = 0 := by
      rcases Nat.eq_zero_or_pos j with h0 | h0
      · exact h0
      · simp [List.getElem?_eq_none (show [Value.int .u8 (b.toNat : Int)].length ≤ j by simp; omega)] at hj
    subst h0
    simp at hj
    subst hj
    have : ad.add 0 = ad := by unfold Addr.add; split <;> simp_all
    rw [this]; exact hx
  by_cases hroom : l.length + 1 ≤ cap
  · have hi' : l.length < cur.size := by omega
    have hadd : (⟨g, 0, none⟩ : Addr).add l.length = ⟨g, l.length, none⟩ := by unfold Addr.add; split <;> simp_all
    have hadd0 : (⟨g, l.length, none⟩ : Addr).add 0 = ⟨g, l.length, none⟩ := by unfold Addr.add; split <;> simp_all
    have hc : w.cell? ⟨g, l.length, none⟩ = some cur[l.length] := by simp [World.cell?, hg, hi']
    have hf : w.frozen? ⟨g, l.length, none⟩ = false := by
      obtain ⟨lo, hi2⟩ := fz
      simp only [World.frozen?, hg, Bool.and_eq_false_iff, decide_eq_false_iff_not]
      rcases hfz with h0 | h0
      · simp at h0; right; omega
      · left; simp only at h0; omega
    have hfc := run_firstCells_some (P := Tryd.prog) w 1 1 ad 1 c [Value.int .u8 (b.toNat : Int)] rfl hnews
    have hst := run_store Tryd.prog w ⟨g, l.length, none⟩ (.int .u8 (b.toNat : Int)) .plain rfl
    rw [hc] at hst
    simp [hf] at hst
    refine ⟨.slice (some ⟨g, 0, none⟩) (l.length + 1) cap, w.setCell ⟨g, l.length, none⟩ (.int .u8 (b.toNat : Int)), ?_, ⟨g, cap, cur.setIfInBounds l.length (.int .u8 (b.toNat : Int)), fz, by simp, hb, ?_, hfz, by simpa using hroom, hm, by simpa using hcs, ?_⟩, hbel.setCell (p := ⟨g, l.length, none⟩) hb _, by simpa using hB⟩
    · simp [Builtin.append_, run_underlying Tryd.underlying22, sizeOf, typeInfo, hi, hz1, Builtin.lenOf, hroom, hfc, storeCells, hadd, hadd0, hst]
    · have := setCell_eq_setRow w g l.length cur 5 fz (.int .u8 (b.toNat : Int)) hg
      rw [this]
      exact setRow_heap w g cur _ 5 _ hg
    · intro j hj
      rw [Array.getElem?_setIfInBounds]
      by_cases he : l.length = j
      · subst he
        simp [hi']
      · rw [if_neg he]
        have hj2 : j < l.length := by simp at hj; omega
        rw [hcell j hj2, List.getElem_append_left hj2]
  · have hxs : ∀ j u, (bv l)[j]? = some u → w.cell? ((⟨g, 0, none⟩ : Addr).add j) = some u := by
      intro j u hj
      obtain ⟨hj', rfl⟩ := bv_get _ _ _ hj
      have hadd : (⟨g, 0, none⟩ : Addr).add j = ⟨g, j, none⟩ := by unfold Addr.add; split <;> simp_all
      rw [hadd, cell_of_row w g j cur 5 fz hg]
      exact hcell j hj'
    have hr := run_append_grow (P := Tryd.prog) w 22 ty 5 i0 (.int .u8 0) Tryd.underlying22 hi hz0 ⟨g, 0, none⟩ l.length cap (bv l) (by rw [hz1]; simp [bv]) hxs ad 1 c [Value.int .u8 (b.toNat : Int)] (by rw [hz1]; rfl) hnews (by omega) (by omega) (growslice_fits (by omega) (by rw [hz2]; omega))
    have hge := grownCap_ge w (l.length + 1) cap 5
    have hcm := grownCap_le_maxLen w (l.length + 1) cap 5 (by unfold maxLen; omega)
    refine ⟨_, _, hr, ⟨w.heap.size, _, _, (0, 0), by simp, by omega, heap_alloc_new w.drew _, .inl rfl, by simpa using hge, hcm, ?_, ?_⟩, (hbel.drew).alloc hB _, by simp; omega⟩
    · have hz : (Value.int IntKind.u8 0).cells.size = 1 := rfl
      simp only [Array.size_append, List.size_toArray, size_zeroCells, hz, bv_length]
      simp
      omega
    · intro j hj
      have hj2 : j < l.length + 1 := by simpa using hj
      simp only [List.append_toArray]
      rw [Array.getElem?_append_left (by simp [bv]; omega)]
      by_cases he : j < l.length
      · simp [bv, List.getElem?_append_left, he, List.getElem_append_left]
      · have : j = l.length := by omega
        subst this
        simp [bv]

/-- 'string(b)' -/
theorem OG.str {B : Nat} {w0 w : World} {v : Value} {l : List UInt8} (h : OG B w0 w v l) : (convert 22 9 v).run Tryd.prog w = .ok (.string ⟨l.toArray⟩) w := by
  obtain ⟨⟨g, cap, cur, fz, rfl, hb, hg, hfz, hn, hm, hcs, hcell⟩, hbel, hB⟩ := h
  refine run_convert_bytes_back w 22 9 5 ⟨g, 0, none⟩ cap l Tryd.underlying22 Tryd.underlying5 Tryd.underlying9 ?_
  intro j hj
  have hadd : (⟨g, 0, none⟩ : Addr).add j = ⟨g, j, none⟩ := by unfold Addr.add; split <;> simp_all
  rw [hadd, cell_of_row w g j cur 5 fz hg]
  exact hcell j hj

theorem wp_appg {w : World} {ops : Array Oper} {rest : List Oper} {o : Oper} {a : Act} {Q : Exit → Act → World → Prop} (hgd : o.guard = none) (s x : Operand)
    (ho : o.op = .call { callee := .builtin .append, args := #[s, x], argTypes := #[22, 22] })
    (B : Nat) (w0 : World) (v : Value) (l : List UInt8) (hs : a.eval s = v) (hown : OG B w0 w v l)
    (ad : Addr) (c : Nat) (b : UInt8) (hx : a.eval x = .slice (some ad) 1 c)
    (hnews : w.cell? ad = some (.int .u8 (b.toNat : Int))) (hlen : l.length + 1 ≤ 1000000000)
    (h : ∀ v' w', OG B w0 w' v' (l ++ [b]) → wpList Tryd.prog ops Q rest (a.put o.dst v') w') : wpList Tryd.prog ops Q (o :: rest) a w := by
  refine wpList_plain hgd fun K hK => ?_
  obtain ⟨v', w', hr, h2⟩ := hown.app o.type ad c b hnews hlen
  unfold Oper.wp
  simp [execOp, ho, resolve, invoke, builtin, hs, hx, hr, Result.andThen]
  exact hK _ _ (h v' w' h2)

end Go.Proofs.YtmfoliocibjdnaaDoor
/-
  The walks of PadText, the program's and the specification's.
-/
namespace Go.Proofs.YtmfoliocibjdnaaDoor
open Go.RowKit
set_option linter.unusedVariables false

def vlen : Value → Nat
  | .slice _ n _ => n
  | _ => 0

theorem OG.open {B : Nat} {w0 w : World} {v : Value} {l : List UInt8} (h : OG B w0 w v l) (n : Nat) (hn : l.length = n) : ∃ a cap, v = .slice a n cap := by
  subst hn
  exact h.size
theorem one_cell (w : World) (x : Int) (b : UInt8) (t : TypeId) (h : x = (b.toNat : Int)) : (w.alloc (.cells #[.int .u8 x] t)).cell? ⟨w.heap.size, 0, none⟩ = some (.int .u8 (b.toNat : Int)) := by
  subst h
  simp

def padHead (l : List UInt8) (k : Nat) : List UInt8 := l ++ [128] ++ List.replicate k 0
theorem padHead_len (l : List UInt8) (k : Nat) : (padHead l k).length = l.length + 1 + k := by simp [padHead]; omega
theorem padHead_succ (l : List UInt8) (k : Nat) : padHead l k ++ [0] = padHead l (k + 1) := by
  unfold padHead
  rw [List.append_assoc, ← List.replicate_succ']

def PadRel (t : ByteArray) (w : World) (v : Value) (wr : World) : Prop :=
  ∃ k : Nat, k ≤ padZ t.size ∧ OG w.heap.size w wr v (padHead t.data.toList k)
def PadRel2 (t : ByteArray) (w : World) (v i : Value) (wr : World) : Prop :=
  ∃ j : Nat, j ≤ 8 ∧ i = .int .i64 (7 - (j : Int)) ∧ OG w.heap.size w wr v (padHead t.data.toList (padZ t.size) ++ lenL (8 * t.size) j)

theorem lenB_nat (n j : Nat) : (lenB n j).toNat = n / 256 ^ (7 - j) % 256 := by simp [lenB]

set_option maxRecDepth 100000 in
set_option maxHeartbeats 1000000 in
theorem sPadText_any (t : ByteArray) (w : World) (ht : t.size ≤ 1048576) :
    Calls Tryd.prog 147 #[.string t] w fun e w' => e = .returned (.string ⟨(padL t.data.toList).toArray⟩) ∧ Below w.heap.size w w' := by
  obtain ⟨w1, cap, hcv, hog⟩ := OG.conv t w (by unfold maxLen; omega)
  have hl : t.data.toList.length = t.size := Array.length_toList
  go_enter Tryd.func147, Tryd.ntmps147
  go_wp2_with (at_builtin; refine wp_appg rfl _ _ rfl w.heap.size w _ t.data.toList rfl (hog.alloc _) ⟨w1.heap.size, 0, none⟩ 1 128 rfl ?c1 ?c2 ?_)
  case c1 => exact one_cell _ _ _ _ rfl
  case c2 => omega
  intro v w2 hown
  have HL : Hid (t.data.toList.length = t.size) := hl
  clear hcv hog hl
  go_wp2
  go_loopw [3] (fun v wr => PadRel t w v wr) (fun v _ => t.size + 1 + padZ t.size - vlen v)
  case atStart => exact ⟨0, Nat.zero_le _, by simpa [padHead] using hown⟩
  case round =>
    obtain ⟨k, hk, hog⟩ := hrel
    obtain ⟨N, hN⟩ : ∃ N : Nat, t.size + 1 + k = N := ⟨_, rfl⟩
    obtain ⟨a, c, rfl⟩ := hog.open N (by rw [padHead_len, HL.out]; exact hN)
    by_cases hlt : k < padZ t.size
    · have h56 : (N : Int) % 64 ≠ 56 := by have := padZ_least t.size k hlt; omega
      have hp : padZ t.size ≤ 63 := by unfold padZ; omega
      have HLT : Hid (k < padZ t.size) := hlt
      have HP := padHead_len t.data.toList k
      rw [HL.out] at HP
      have HN : Hid (t.size + 1 + k = N) := hN
      clear hlt hk hN
      go_wp2_with (at_builtin; refine wp_appg rfl _ _ rfl w.heap.size w _ (padHead t.data.toList k) rfl (hog.alloc _) ⟨wr.heap.size, 0, none⟩ 1 0 rfl ?c3 ?c4 ?_)
      case c3 => exact one_cell _ _ _ _ rfl
      case c4 => have := HLT.out; omega
      intro v3 w3 hown3
      rw [padHead_succ] at hown3
      go_wp2
      go_roundw
      case rel => exact ⟨k + 1, HLT.out, hown3⟩
      case measure =>
        obtain ⟨a3, c3, rfl⟩ := hown3.open (N + 1) (by rw [padHead_len, HL.out]; have := HN.out; omega)
        have := HN.out
        have := HLT.out
        show t.size + 1 + padZ t.size - (N + 1) < t.size + 1 + padZ t.size - N
        omega
    · have hke : k = padZ t.size := by omega
      have h56 : (N : Int) % 64 = 56 := by have := padZ_mod t.size; omega
      subst hke
      clear hk hlt
      have HN : Hid (t.size + 1 + padZ t.size = N) := hN
      clear hN
      go_wp2
      go_loopw [3, 5] (fun v i wr => PadRel2 t w v i wr) (fun _ i _ => (intOf i + 1).toNat)
      case atStart => exact ⟨0, by omega, rfl, by simpa [lenL] using hog⟩
      case round =>
        obtain ⟨j, hj, rfl, hog2⟩ := hrel
        have HP : (padHead t.data.toList (padZ t.size) ++ lenL (8 * t.size) j).length ≤ 1048576 + 80 := by
          rw [List.length_append, lenL_len, padHead_len, HL.out]
          have : padZ t.size ≤ 63 := by unfold padZ; omega
          omega
        have hS := lenL_succ (8 * t.size) j
        have hB := lenB_nat (8 * t.size) j
        clear hog h56
        by_cases h8 : j = 8
        · subst h8
          have hcv := hog2.str
          have HF : Hid (padHead t.data.toList (padZ t.size) ++ lenL (8 * t.size) 8 = padL t.data.toList) := by
            show _ = _
            unfold padL padHead
            rw [HL.out]
          rw [HF.out] at hcv
          clear hS hB HP
          go_wp2
          go_ret
          exact ⟨rfl, hog2.2.1⟩
        · obtain ⟨I, hI⟩ : ∃ I : Int, 7 - (j : Int) = I := ⟨_, rfl⟩
          rw [hI]
          have H8 : (j = 0 ∧ I = 7) ∨ (j = 1 ∧ I = 6) ∨ (j = 2 ∧ I = 5) ∨ (j = 3 ∧ I = 4) ∨ (j = 4 ∧ I = 3) ∨ (j = 5 ∧ I = 2) ∨ (j = 6 ∧ I = 1) ∨ (j = 7 ∧ I = 0) := by omega
          have HB : Hid ((lenB (8 * t.size) j).toNat = 8 * t.size / 256 ^ (7 - j) % 256) := hB
          have HS : Hid (lenL (8 * t.size) (j + 1) = lenL (8 * t.size) j ++ [lenB (8 * t.size) j]) := hS
          have HPP : Hid ((padHead t.data.toList (padZ t.size) ++ lenL (8 * t.size) j).length ≤ 1048576 + 80) := HP
          clear hB hS h8 hj HP hI
          rcases H8 with ⟨rfl, rfl⟩ | ⟨rfl, rfl⟩ | ⟨rfl, rfl⟩ | ⟨rfl, rfl⟩ | ⟨rfl, rfl⟩ | ⟨rfl, rfl⟩ | ⟨rfl, rfl⟩ | ⟨rfl, rfl⟩
          · go_wp2_with (at_builtin; refine wp_appg rfl _ _ rfl w.heap.size w _ (padHead t.data.toList (padZ t.size) ++ lenL (8 * t.size) 0) rfl (hog2.alloc _) ⟨_, 0, none⟩ 1 (lenB (8 * t.size) 0) rfl ?c5 ?c6 ?_)
            case c5 => exact one_cell _ _ _ _ (by have := HB.out; omega)
            case c6 => have := HPP.out; omega
            intro v5 w5 hown5
            rw [← lenL_succ] at hown5
            go_wp2
            go_roundw
            case rel => exact ⟨1, by omega, rfl, hown5⟩
            case measure => simp [intOf]
          · go_wp2_with (at_builtin; refine wp_appg rfl _ _ rfl w.heap.size w _ (padHead t.data.toList (padZ t.size) ++ lenL (8 * t.size) 1) rfl (hog2.alloc _) ⟨_, 0, none⟩ 1 (lenB (8 * t.size) 1) rfl ?c5 ?c6 ?_)
            case c5 => exact one_cell _ _ _ _ (by have := HB.out; omega)
            case c6 => have := HPP.out; omega
            intro v5 w5 hown5
            rw [← lenL_succ] at hown5
            go_wp2
            go_roundw
            case rel => exact ⟨2, by omega, rfl, hown5⟩
            case measure => simp [intOf]
          · go_wp2_with (at_builtin; refine wp_appg rfl _ _ rfl w.heap.size w _ (padHead t.data.toList (padZ t.size) ++ lenL (8 * t.size) 2) rfl (hog2.alloc _) ⟨_, 0, none⟩ 1 (lenB (8 * t.size) 2) rfl ?c5 ?c6 ?_)
            case c5 => exact one_cell _ _ _ _ (by have := HB.out; omega)
            case c6 => have := HPP.out; omega
            intro v5 w5 hown5
            rw [← lenL_succ] at hown5
            go_wp2
            go_roundw
            case rel => exact ⟨3, by omega, rfl, hown5⟩
            case measure => simp [intOf]
          · go_wp2_with (at_builtin; refine wp_appg rfl _ _ rfl w.heap.size w _ (padHead t.data.toList (padZ t.size) ++ lenL (8 * t.size) 3) rfl (hog2.alloc _) ⟨_, 0, none⟩ 1 (lenB (8 * t.size) 3) rfl ?c5 ?c6 ?_)
            case c5 => exact one_cell _ _ _ _ (by have := HB.out; omega)
            case c6 => have := HPP.out; omega
            intro v5 w5 hown5
            rw [← lenL_succ] at hown5
            go_wp2
            go_roundw
            case rel => exact ⟨4, by omega, rfl, hown5⟩
            case measure => simp [intOf]
          · go_wp2_with (at_builtin; refine wp_appg rfl _ _ rfl w.heap.size w _ (padHead t.data.toList (padZ t.size) ++ lenL (8 * t.size) 4) rfl (hog2.alloc _) ⟨_, 0, none⟩ 1 (lenB (8 * t.size) 4) rfl ?c5 ?c6 ?_)
            case c5 => exact one_cell _ _ _ _ (by have := HB.out; omega)
            case c6 => have := HPP.out; omega
            intro v5 w5 hown5
            rw [← lenL_succ] at hown5
            go_wp2
            go_roundw
            case rel => exact ⟨5, by omega, rfl, hown5⟩
            case measure => simp [intOf]
          · go_wp2_with (at_builtin; refine wp_appg rfl _ _ rfl w.heap.size w _ (padHead t.data.toList (padZ t.size) ++ lenL (8 * t.size) 5) rfl (hog2.alloc _) ⟨_, 0, none⟩ 1 (lenB (8 * t.size) 5) rfl ?c5 ?c6 ?_)
            case c5 => exact one_cell _ _ _ _ (by have := HB.out; omega)
            case c6 => have := HPP.out; omega
            intro v5 w5 hown5
            rw [← lenL_succ] at hown5
            go_wp2
            go_roundw
            case rel => exact ⟨6, by omega, rfl, hown5⟩
            case measure => simp [intOf]
          · go_wp2_with (at_builtin; refine wp_appg rfl _ _ rfl w.heap.size w _ (padHead t.data.toList (padZ t.size) ++ lenL (8 * t.size) 6) rfl (hog2.alloc _) ⟨_, 0, none⟩ 1 (lenB (8 * t.size) 6) rfl ?c5 ?c6 ?_)
            case c5 => exact one_cell _ _ _ _ (by have := HB.out; omega)
            case c6 => have := HPP.out; omega
            intro v5 w5 hown5
            rw [← lenL_succ] at hown5
            go_wp2
            go_roundw
            case rel => exact ⟨7, by omega, rfl, hown5⟩
            case measure => simp [intOf]
          · go_wp2_with (at_builtin; refine wp_appg rfl _ _ rfl w.heap.size w _ (padHead t.data.toList (padZ t.size) ++ lenL (8 * t.size) 7) rfl (hog2.alloc _) ⟨_, 0, none⟩ 1 (lenB (8 * t.size) 7) rfl ?c5 ?c6 ?_)
            case c5 => exact one_cell _ _ _ _ (by have := HB.out; omega)
            case c6 => have := HPP.out; omega
            intro v5 w5 hown5
            rw [← lenL_succ] at hown5
            go_wp2
            go_roundw
            case rel => exact ⟨8, by omega, rfl, hown5⟩
            case measure => simp [intOf]


/-- block g holds just the bytes l -/
def Byt (w : World) (g : Nat) (l : List UInt8) : Prop := w.heap[g]? = some (.cells (bv l).toArray 5 (0, 0))

theorem Byt.cell {w : World} {g : Nat} {l : List UInt8} (h : Byt w g l) (i : Nat) (hi : i < l.length) : w.cell? ⟨g, i, none⟩ = some (.int .u8 (l[i].toNat : Int)) := by
  rw [cell_of_row w g i _ 5 (0, 0) h]
  simp [bv, hi]
theorem Byt.has {w : World} {g : Nat} {l : List UInt8} (h : Byt w g l) (i : Nat) (hi : i < l.length) : ∃ x, w.cell? ⟨g, i, none⟩ = some x := ⟨_, h.cell i hi⟩
theorem Byt.frozen {w : World} {g : Nat} {l : List UInt8} (h : Byt w g l) (i : Nat) : w.frozen? ⟨g, i, none⟩ = false := by
  simp [World.frozen?, show w.heap[g]? = some (.cells (bv l).toArray 5 (0, 0)) from h]
theorem Byt.set {w : World} {g : Nat} {l : List UInt8} (h : Byt w g l) (i : Nat) (b : UInt8) (l' : List UInt8) (hl : l.set i b = l') : Byt (w.setCell ⟨g, i, none⟩ (.int .u8 (b.toNat : Int))) g l' := by
  subst hl
  unfold Byt at *
  rw [heap_setCell_same w g i _ 5 _ h]
  congr 2
  simp [bv, List.map_set]
theorem Byt.setx {w : World} {g : Nat} {l : List UInt8} (h : Byt w g l) (i : Nat) (x : Int) (b : UInt8) (l' : List UInt8) (hx : x = (b.toNat : Int)) (hl : l.set i b = l') : Byt (w.setCell ⟨g, i, none⟩ (.int .u8 x)) g l' := by
  subst hx
  exact h.set i b l' hl
theorem Byt.str {w : World} {g : Nat} {l : List UInt8} (h : Byt w g l) (n cap : Nat) (hn : l.length = n) : (convert 22 9 (.slice (some ⟨g, 0, none⟩) n cap)).run Tryd.prog w = .ok (.string ⟨l.toArray⟩) w := by
  subst hn
  refine run_convert_bytes_back w 22 9 5 ⟨g, 0, none⟩ cap l Tryd.underlying22 Tryd.underlying5 Tryd.underlying9 ?_
  intro j hj
  have hadd : (⟨g, 0, none⟩ : Addr).add j = ⟨g, j, none⟩ := by unfold Addr.add; split <;> simp_all
  rw [hadd]
  exact h.cell j hj

/-- 'make([]byte, n)' -/
theorem Byt.made (n : Nat) (h : n ≤ 1000000000) (W : World) : ∃ w', (Instr.makeSlice 22 (.int .i64 (n : Int)) (.int .i64 (n : Int))).run Tryd.prog W = .ok (.slice (some ⟨W.heap.size, 0, none⟩) n n) w' ∧ Byt w' W.heap.size (List.replicate n 0) ∧ Below W.heap.size W w' ∧ w'.heap.size = W.heap.size + 1 := by
  obtain ⟨i0, hi, hz0, hz1, hz2⟩ := info_parts Tryd.info5
  have h1 := run_make (P := Tryd.prog) W 22 5 i0 (.int .u8 0) Tryd.underlying22 hi hz0 .i64 .i64 (n : Int) (n : Int) (by omega) (by omega) (by rw [hz2]; omega) (by omega)
  refine ⟨_, by simpa using h1, ?_, (Below.refl _ _).alloc (Nat.le_refl _) _, by simp⟩
  unfold Byt
  have e : madeCells (Value.int .u8 0).cells (n * i0.size) = (bv (List.replicate n 0)).toArray := by
    apply Array.toList_inj.1
    rw [hz1]
    simp [Value.cells, toList_madeCells_one, bv]
  rw [e, Go.heap_alloc_new]

set_option maxRecDepth 100000 in
/-- 'copy(b, t)' -/
theorem Byt.copy {w : World} {g n : Nat} (t : ByteArray) (ty : TypeId) (h : Byt w g (List.replicate n 0)) (hn : t.size ≤ n) : ∃ w', (Builtin.copy_ #[22, 9] ty #[.slice (some ⟨g, 0, none⟩) n n, .string t]).run Tryd.prog w = .ok (.int .i64 (t.size : Int)) w' ∧ Byt w' g (t.data.toList ++ List.replicate (n - t.size) 0) ∧ (∀ B, B ≤ g → Below B w w') ∧ w'.heap.size = w.heap.size := by
  have h1 := Lib.run_copy_row_string (P := Tryd.prog) w 22 9 ty 5 g 0 n n t _ 5 Tryd.underlying22 (by kernel_rfl) h hn (by simp [bv]; omega)
  have h2 : t.data.toList.length = t.size := Array.length_toList
  refine ⟨_, h1, ?_, ?_, ?_⟩
  · unfold Byt
    rw [setRow_heap w g _ _ 5 _ h]
    congr 2
    simp [bv, Lib.byteCells]
  · intro B hB
    exact ⟨rfl, rfl, rfl, by simp [World.setRow], fun k hk => setRow_other w g k _ (by omega)⟩
  · simp [World.setRow]

end Go.Proofs.YtmfoliocibjdnaaDoor
/-
  The walk of the program's PadText.
-/
namespace Go.Proofs.YtmfoliocibjdnaaDoor
open Go.RowKit
set_option linter.unusedVariables false

/-- the row when the last i bytes of the length stand -/
def padRow (l : List UInt8) (i : Nat) : List UInt8 := padHead l (padZ l.length + (8 - i)) ++ (lenL (8 * l.length) 8).drop (8 - i)
theorem padRow_len (l : List UInt8) (i : Nat) (h : i ≤ 8) : (padRow l i).length = (l.length + 72) / 64 * 64 := by
  unfold padRow
  rw [List.length_append, padHead_len, List.length_drop, lenL_len]
  unfold padZ
  omega
theorem padRow_start (l : List UInt8) : (l ++ List.replicate ((l.length + 72) / 64 * 64 - l.length) 0).set l.length 128 = padRow l 0 := by
  have e : (l.length + 72) / 64 * 64 - l.length = (padZ l.length + 8) + 1 := by unfold padZ; omega
  rw [e, List.replicate_succ, List.set_append_right _ _ (Nat.le_refl _)]
  simp [padRow, padHead, lenL_len]
theorem padRow_end (l : List UInt8) : padRow l 8 = padL l := by simp [padRow, padL, padHead]
theorem padRow_step (l : List UInt8) (i : Nat) (h : i < 8) : (padRow l i).set ((l.length + 72) / 64 * 64 - 1 - i) (lenB (8 * l.length) (7 - i)) = padRow l (i + 1) := by
  have e1 : 8 - i = (8 - (i + 1)) + 1 := by omega
  have e2 : (l.length + 72) / 64 * 64 - 1 - i = (padHead l (padZ l.length + (8 - (i + 1)))).length := by rw [padHead_len]; unfold padZ; omega
  unfold padRow
  rw [e1, ← Nat.add_assoc, ← padHead_succ, List.append_assoc, e2, List.set_append_right _ _ (Nat.le_refl _)]
  congr 1
  simp
  have e3 : 7 - i < (lenL (8 * l.length) 8).length := by rw [lenL_len]; omega
  rw [List.drop_eq_getElem_cons e3]
  congr 1
  simp [lenL]

def PadRel3 (t : ByteArray) (w : World) (i : Value) (wr : World) : Prop :=
  ∃ j : Nat, j ≤ 8 ∧ i = .int .i64 (j : Int) ∧ Byt wr w.heap.size (padRow t.data.toList j) ∧ Below w.heap.size w wr

set_option maxRecDepth 100000 in
set_option maxHeartbeats 1000000 in
theorem PadText_any (t : ByteArray) (w : World) (ht : t.size ≤ 1048576) :
    Calls Tryd.prog 157 #[.string t] w fun e w' => e = .returned (.string ⟨(padL t.data.toList).toArray⟩) ∧ Below w.heap.size w w' := by
  obtain ⟨M, hm⟩ : ∃ M : Nat, (t.size + 72) / 64 * 64 = M := ⟨_, rfl⟩
  obtain ⟨w1, hmk, hb1, hbel1, hsz1⟩ := Byt.made M (by omega) w
  obtain ⟨w2, hcp, hb2, hbel2, hsz2⟩ := hb1.copy t 3 (by omega)
  have eM : (M : Int) = ((t.size : Int) + 1 + 8 + 64 - 1) / 64 * 64 := by omega
  rw [eM] at hmk
  have hl : t.data.toList.length = t.size := Array.length_toList
  obtain ⟨x1, c1⟩ := hb2.has t.size (by simp [hl]; omega)
  have f1 := hb2.frozen t.size
  have hM : t.size + 9 ≤ M := by omega
  have hM2 : M ≤ 2000000 := by omega
  have hst := hb2.set t.size 128 (padRow t.data.toList 0) (by have := padRow_start t.data.toList; rw [hl, hm] at this; exact this)
  have hbel : Below w.heap.size w (w2.setCell ⟨w.heap.size, t.size, none⟩ (.int .u8 ((128 : UInt8).toNat : Int))) := (hbel1.trans (hbel2 _ (Nat.le_refl _))).setCell (p := ⟨w.heap.size, t.size, none⟩) (Nat.le_refl _) _
  have HST : Hid (Byt (w2.setCell ⟨w.heap.size, t.size, none⟩ (.int .u8 128)) w.heap.size (padRow t.data.toList 0) ∧ Below w.heap.size w (w2.setCell ⟨w.heap.size, t.size, none⟩ (.int .u8 128))) := ⟨hst, hbel⟩
  have HL : Hid (t.data.toList.length = t.size) := hl
  have HM : Hid ((t.size + 72) / 64 * 64 = M) := hm
  clear hst hbel hb1 hb2 hbel1 hbel2 hsz1 hsz2 hl hm eM
  go_enter Tryd.func157, Tryd.ntmps157
  go_wp2
  go_loopw [28] (fun i wr => PadRel3 t w i wr) (fun i _ => 8 - (intOf i).toNat)
  case atStart => exact ⟨0, by omega, rfl, HST.out.1, HST.out.2⟩
  case round =>
    obtain ⟨j, hj, rfl, hb, hbel⟩ := hrel
    have hlen := padRow_len t.data.toList j hj
    rw [HL.out, HM.out] at hlen
    clear HST c1 f1 hcp hmk
    by_cases h8 : j = 8
    · subst h8
      have hcv := hb.str M M hlen
      rw [padRow_end] at hcv
      clear hb hlen
      go_wp2
      go_ret
      exact ⟨rfl, hbel⟩
    · have hB := lenB_nat (8 * t.size) (7 - j)
      have hS := padRow_step t.data.toList j (by omega)
      rw [HL.out, HM.out] at hS
      obtain ⟨x1, c1⟩ := hb.has (M - 1 - j) (by omega)
      have f1 := hb.frozen (M - 1 - j)
      have HB : Hid ((lenB (8 * t.size) (7 - j)).toNat = 8 * t.size / 256 ^ (7 - (7 - j)) % 256) := hB
      have HS : Hid ((padRow t.data.toList j).set (M - 1 - j) (lenB (8 * t.size) (7 - j)) = padRow t.data.toList (j + 1)) := hS
      obtain ⟨I, hI⟩ : ∃ I : Int, (j : Int) = I := ⟨_, rfl⟩
      rw [hI]
      have H8 : (j = 0 ∧ I = 0) ∨ (j = 1 ∧ I = 1) ∨ (j = 2 ∧ I = 2) ∨ (j = 3 ∧ I = 3) ∨ (j = 4 ∧ I = 4) ∨ (j = 5 ∧ I = 5) ∨ (j = 6 ∧ I = 6) ∨ (j = 7 ∧ I = 7) := by omega
      clear hB hS h8 hj hlen hI
      rcases H8 with ⟨rfl, rfl⟩ | ⟨rfl, rfl⟩ | ⟨rfl, rfl⟩ | ⟨rfl, rfl⟩ | ⟨rfl, rfl⟩ | ⟨rfl, rfl⟩ | ⟨rfl, rfl⟩ | ⟨rfl, rfl⟩
      · have i0 : (0 : Int) ≤ (M : Int) - 1 := by omega
        have i1 : (M : Int) - 1 < (M : Int) := by omega
        have i2 : ((M : Int) - 1).toNat = M - 1 := by omega
        simp only [Nat.sub_zero] at c1 f1
        go_wp2
        go_roundw
        case rel => exact ⟨1, by omega, by go_num, hb.setx _ _ _ _ (by have := HB.out; omega) HS.out, hbel.setCell (p := ⟨w.heap.size, M - 1 - 0, none⟩) (Nat.le_refl _) _⟩
        case measure => simp [intOf]
      · have i0 : (0 : Int) ≤ (M : Int) - 1 - 1 := by omega
        have i1 : (M : Int) - 1 - 1 < (M : Int) := by omega
        have i2 : ((M : Int) - 1 - 1).toNat = M - 1 - 1 := by omega
        go_wp2
        go_roundw
        case rel => exact ⟨2, by omega, by go_num, hb.setx _ _ _ _ (by have := HB.out; omega) HS.out, hbel.setCell (p := ⟨w.heap.size, M - 1 - 1, none⟩) (Nat.le_refl _) _⟩
        case measure => simp [intOf]
      · have i0 : (0 : Int) ≤ (M : Int) - 1 - 2 := by omega
        have i1 : (M : Int) - 1 - 2 < (M : Int) := by omega
        have i2 : ((M : Int) - 1 - 2).toNat = M - 1 - 2 := by omega
        go_wp2
        go_roundw
        case rel => exact ⟨3, by omega, by go_num, hb.setx _ _ _ _ (by have := HB.out; omega) HS.out, hbel.setCell (p := ⟨w.heap.size, M - 1 - 2, none⟩) (Nat.le_refl _) _⟩
        case measure => simp [intOf]
      · have i0 : (0 : Int) ≤ (M : Int) - 1 - 3 := by omega
        have i1 : (M : Int) - 1 - 3 < (M : Int) := by omega
        have i2 : ((M : Int) - 1 - 3).toNat = M - 1 - 3 := by omega
        go_wp2
        go_roundw
        case rel => exact ⟨4, by omega, by go_num, hb.setx _ _ _ _ (by have := HB.out; omega) HS.out, hbel.setCell (p := ⟨w.heap.size, M - 1 - 3, none⟩) (Nat.le_refl _) _⟩
        case measure => simp [intOf]
      · have i0 : (0 : Int) ≤ (M : Int) - 1 - 4 := by omega
        have i1 : (M : Int) - 1 - 4 < (M : Int) := by omega
        have i2 : ((M : Int) - 1 - 4).toNat = M - 1 - 4 := by omega
        go_wp2
        go_roundw
        case rel => exact ⟨5, by omega, by go_num, hb.setx _ _ _ _ (by have := HB.out; omega) HS.out, hbel.setCell (p := ⟨w.heap.size, M - 1 - 4, none⟩) (Nat.le_refl _) _⟩
        case measure => simp [intOf]
      · have i0 : (0 : Int) ≤ (M : Int) - 1 - 5 := by omega
        have i1 : (M : Int) - 1 - 5 < (M : Int) := by omega
        have i2 : ((M : Int) - 1 - 5).toNat = M - 1 - 5 := by omega
        go_wp2
        go_roundw
        case rel => exact ⟨6, by omega, by go_num, hb.setx _ _ _ _ (by have := HB.out; omega) HS.out, hbel.setCell (p := ⟨w.heap.size, M - 1 - 5, none⟩) (Nat.le_refl _) _⟩
        case measure => simp [intOf]
      · have i0 : (0 : Int) ≤ (M : Int) - 1 - 6 := by omega
        have i1 : (M : Int) - 1 - 6 < (M : Int) := by omega
        have i2 : ((M : Int) - 1 - 6).toNat = M - 1 - 6 := by omega
        go_wp2
        go_roundw
        case rel => exact ⟨7, by omega, by go_num, hb.setx _ _ _ _ (by have := HB.out; omega) HS.out, hbel.setCell (p := ⟨w.heap.size, M - 1 - 6, none⟩) (Nat.le_refl _) _⟩
        case measure => simp [intOf]
      · have i0 : (0 : Int) ≤ (M : Int) - 1 - 7 := by omega
        have i1 : (M : Int) - 1 - 7 < (M : Int) := by omega
        have i2 : ((M : Int) - 1 - 7).toNat = M - 1 - 7 := by omega
        go_wp2
        go_roundw
        case rel => exact ⟨8, by omega, by go_num, hb.setx _ _ _ _ (by have := HB.out; omega) HS.out, hbel.setCell (p := ⟨w.heap.size, M - 1 - 7, none⟩) (Nat.le_refl _) _⟩
        case measure => simp [intOf]

end Go.Proofs.YtmfoliocibjdnaaDoor
/-
  The first numbers and the keys, the program's and the specification's; a state in bytes.
-/
namespace Go.Proofs.YtmfoliocibjdnaaDoor
open Go.RowKit Go.BigFrame
set_option linter.unusedVariables false

theorem toNat_lit (n : Nat) (h : n < 4294967296) : ((UInt32.ofNat n).toNat : Int) = (n : Int) := by rw [H.toNat_of n h]

set_option maxRecDepth 100000 in
set_option maxHeartbeats 400000 in
theorem l03First_any (w : World) : Calls Tryd.prog 145 #[] w fun e w' => ∃ R, e = .returned (.agg R) ∧ AggIs R 8 firstF ∧ Below w.heap.size w w' := by
  have HAG : Hid (AggIs #[.int .u32 1779033703, .int .u32 3144134277, .int .u32 1013904242, .int .u32 2773480762, .int .u32 1359893119, .int .u32 2600822924, .int .u32 528734635, .int .u32 1541459225] 8 firstF) := agg8 firstF
  go_enter Tryd.func145, Tryd.ntmps145
  go_wp2_with (first | (with_reducible refine wp_alloc50 rfl rfl ?_) | (refine wp_storeArr rfl 147 _ _ rfl w.heap.size 147 8 _ firstF _ (Arr.agg (AggIs.zeros 8)) HAG.out rfl rfl size51 ?_; intro hfin))
  refine ret_arr 0 w.heap.size 147 8 147 146 firstF rfl rfl rfl hfin Tryd.underlying147 size51 ?_
  intro R2 hR2
  exact ⟨R2, rfl, hR2, below_setRow ((Below.refl _ _).alloc (Nat.le_refl _) _) (Nat.le_refl _)⟩

def B1 (w : World) (i : Value) (wr : World) : Prop := ∃ (m : Nat) (f : Nat → UInt32), m ≤ 8 ∧ i = .int .i64 m ∧ Arr wr w.heap.size 160 8 (fun _ => 0) ∧ Arr wr (w.heap.size + 1) 160 8 f ∧ (∀ i, i < m → f i = firstF i) ∧ TabF wr ∧ Below w.heap.size w wr

set_option maxRecDepth 100000 in
set_option maxHeartbeats 400000 in
theorem shaBegin_any (w : World) (hT : TabF w) : Calls Tryd.prog 158 #[] w fun e w' => ∃ R, e = .returned (.agg R) ∧ AggIs R 8 firstF ∧ Below w.heap.size w w' := by
  have hp := hT.pos
  have hb0 : Below w.heap.size w ((w.alloc (.cells (zeros 8) 160)).alloc (.cells (zeros 8) 160)) := ((Below.refl _ _).alloc (Nat.le_refl _) _).alloc (by simp) _
  have a2 := Arr.agg (w := w.alloc (.cells (zeros 8) 160)) (t := 160) (AggIs.zeros 8)
  have HST : Hid (B1 w (.int .i64 0) ((w.alloc (.cells (zeros 8) 160)).alloc (.cells (zeros 8) 160))) := ⟨0, fun _ => 0, by omega, rfl, (Arr.agg (AggIs.zeros 8)).alloc _, by simpa using a2, fun i hi => absurd hi (by omega), hT.later hb0 hp, hb0⟩
  clear a2 hb0 hT
  go_enter Tryd.func158, Tryd.ntmps158
  go_wp2_with (refine wp_allocArr rfl 160 8 rfl zero52 ?_)
  generalize ((w.alloc (.cells (zeros 8) 160)).alloc (.cells (zeros 8) 160)) = w1 at *
  go_loopw [3] (fun i wr => B1 w i wr) (fun i _ => 8 - (intOf i).toNat)
  case atStart => exact HST.out
  case round =>
    obtain ⟨m, f, hm, rfl, ha, hf, he, ht, hbel⟩ := hrel
    by_cases hlt : m < 8
    · have c0 := hf.cell m hlt
      have f0 := hf.frozen m
      have c1 := ht m hlt
      have HN : Hid (B1 w (.int .i64 ((m + 1 : Nat) : Int)) (wr.setCell ⟨w.heap.size + 1, m, none⟩ (.int .u32 ((firstF m).toNat : Int)))) := by
        have hb2 : Below w.heap.size w (wr.setCell ⟨w.heap.size + 1, m, none⟩ (.int .u32 ((firstF m).toNat : Int))) := hbel.setCell (p := ⟨w.heap.size + 1, m, none⟩) (by show w.heap.size ≤ w.heap.size + 1; omega) _
        refine ⟨m + 1, H.upd f m (firstF m), by omega, rfl, ha.other _ _ _ (by omega), hf.set m hlt _, fun i hi => ?_, fun i hi => ?_, hb2⟩
        · unfold H.upd
          by_cases h1 : i = m
          · rw [if_pos h1, h1]
          · rw [if_neg h1]; exact he i (by omega)
        · rw [World.cell?_setCell_other _ _ _ _ (by simp)]
          exact ht i hi
      generalize firstF m = X at *
      clear HST ha hf he ht hbel
      have i8 : (m : Int) < 8 := by omega
      have i9 : (0 : Int) ≤ (m : Int) := by omega
      go_wp2
      go_roundw
      case rel =>
        have h1 := HN.out
        have e1 : (((m + 1 : Nat)) : Int) = (m : Int) + 1 := by omega
        rw [e1] at h1
        exact h1
      case measure => simp [intOf]; omega
    · have hme : m = 8 := by omega
      subst hme
      have HF : Hid (Arr wr (w.heap.size + 1) 160 8 firstF) := hf.congr he
      have HR : Hid (Arr wr w.heap.size 160 8 (fun _ => 0)) := ha
      clear ha hf he ht HST
      go_wp2_with (first | (refine wp_loadArr rfl 160 _ rfl (w.heap.size + 1) 160 8 firstF 146 rfl HF.out Tryd.underlying160 size52 ?_; intro R hR) | (refine wp_storeArr rfl 160 _ _ rfl w.heap.size 160 8 _ firstF R HR.out hR rfl rfl size52 ?_; intro hfin))
      refine ret_arr 0 w.heap.size 160 8 160 146 firstF rfl rfl rfl hfin Tryd.underlying160 size52 ?_
      intro R2 hR2
      exact ⟨R2, rfl, hR2, below_setRow hbel (Nat.le_refl _)⟩

theorem agg_of (l : List UInt32) (n : Nat) (hn : l.length = n) : AggIs (l.map fun x => Value.int .u32 (x.toNat : Int)).toArray n (fun i => l.getD i 0) := by
  subst hn
  refine ⟨by simp, fun i hi => ?_⟩
  simp [List.getD, hi]

def keyA : Array Value := #[.int .u32 1116352408, .int .u32 1899447441, .int .u32 3049323471, .int .u32 3921009573, .int .u32 961987163, .int .u32 1508970993, .int .u32 2453635748, .int .u32 2870763221, .int .u32 3624381080, .int .u32 310598401, .int .u32 607225278, .int .u32 1426881987, .int .u32 1925078388, .int .u32 2162078206, .int .u32 2614888103, .int .u32 3248222580, .int .u32 3835390401, .int .u32 4022224774, .int .u32 264347078, .int .u32 604807628, .int .u32 770255983, .int .u32 1249150122, .int .u32 1555081692, .int .u32 1996064986, .int .u32 2554220882, .int .u32 2821834349, .int .u32 2952996808, .int .u32 3210313671, .int .u32 3336571891, .int .u32 3584528711, .int .u32 113926993, .int .u32 338241895, .int .u32 666307205, .int .u32 773529912, .int .u32 1294757372, .int .u32 1396182291, .int .u32 1695183700, .int .u32 1986661051, .int .u32 2177026350, .int .u32 2456956037, .int .u32 2730485921, .int .u32 2820302411, .int .u32 3259730800, .int .u32 3345764771, .int .u32 3516065817, .int .u32 3600352804, .int .u32 4094571909, .int .u32 275423344, .int .u32 430227734, .int .u32 506948616, .int .u32 659060556, .int .u32 883997877, .int .u32 958139571, .int .u32 1322822218, .int .u32 1537002063, .int .u32 1747873779, .int .u32 1955562222, .int .u32 2024104815, .int .u32 2227730452, .int .u32 2361852424, .int .u32 2428436474, .int .u32 2756734187, .int .u32 3204031479, .int .u32 3329325298]
theorem keyA_is : AggIs keyA 64 keyF := agg_of keyL 64 rfl
theorem zero61 : (Tryd.prog.info? 149).map (fun i => (i.zero, i.size)) = some (some (.agg (zeros 64)), 64) := by kernel_rfl

set_option maxRecDepth 100000 in
set_option maxHeartbeats 1000000 in
theorem l03Keys_any (w : World) : Calls Tryd.prog 146 #[] w fun e w' => ∃ R, e = .returned (.agg R) ∧ AggIs R 64 keyF ∧ Below w.heap.size w w' := by
  go_enter Tryd.func146, Tryd.ntmps146
  go_wp2_with (first | (with_reducible refine wp_alloc55 rfl rfl ?_) | (refine wp_storeArr rfl 149 _ _ rfl w.heap.size 149 64 _ keyF keyA (Arr.agg (AggIs.zeros 64)) keyA_is rfl rfl size61 ?_; intro hfin))
  refine ret_arr 0 w.heap.size 149 64 149 146 keyF rfl rfl rfl hfin Tryd.underlying149 size61 ?_
  intro R2 hR2
  exact ⟨R2, rfl, hR2, below_setRow ((Below.refl _ _).alloc (Nat.le_refl _) _) (Nat.le_refl _)⟩
end Go.Proofs.YtmfoliocibjdnaaDoor
/-
  A state in bytes.
-/
namespace Go.Proofs.YtmfoliocibjdnaaDoor
open Go.RowKit Go.BigFrame
set_option linter.unusedVariables false

def be4 (x : UInt32) : List UInt8 := [UInt8.ofNat (x.toNat / 16777216), UInt8.ofNat (x.toNat / 65536), UInt8.ofNat (x.toNat / 256), UInt8.ofNat x.toNat]
def digL (s : Nat → UInt32) (k : Nat) : List UInt8 := (List.range k).flatMap (fun i => be4 (s i))
theorem digL_succ (s : Nat → UInt32) (k : Nat) : digL s (k + 1) = digL s k ++ be4 (s k) := by simp [digL, List.range_succ]
theorem digL_len (s : Nat → UInt32) (k : Nat) : (digL s k).length = 4 * k := by
  induction k with
  | zero => rfl
  | succ k ih => rw [digL_succ, List.length_append, ih]; rfl

theorem run_aggAt {R : Array Value} {s : Nat → UInt32} (hR : AggIs R 8 s) (m : Nat) (hm : m < 8) (W : World) : (Instr.index 160 (.agg R) (.int .i64 (m : Int))).run Tryd.prog W = .ok (.int .u32 ((s m).toNat : Int)) W := by
  have h1 := hR.2 m hm
  simp [Instr.index, run_underlying Tryd.underlying160, asIntOf, go_sem, hm, h1]
theorem four_cells (w : World) (x0 x1 x2 x3 : Int) (X : UInt32) (t : TypeId) (h0 : x0 = (X.toNat : Int) / 16777216 % 256) (h1 : x1 = (X.toNat : Int) / 65536 % 256) (h2 : x2 = (X.toNat : Int) / 256 % 256) (h3 : x3 = (X.toNat : Int) % 256) :
    ∀ j u, (bv (be4 X))[j]? = some u → (w.alloc (.cells #[.int .u8 x0, .int .u8 x1, .int .u8 x2, .int .u8 x3] t)).cell? ((⟨w.heap.size, 0, none⟩ : Addr).add j) = some u := by
  intro j u hj
  obtain ⟨hj', rfl⟩ := bv_get _ _ _ hj
  subst h0 h1 h2 h3
  have h4 : j = 0 ∨ j = 1 ∨ j = 2 ∨ j = 3 := by simp [be4] at hj'; omega
  rcases h4 with rfl | rfl | rfl | rfl <;> simp [Addr.add, be4]
def IR (w w1 : World) (s : Nat → UInt32) (v i : Value) (wr : World) : Prop := ∃ m : Nat, m ≤ 8 ∧ i = .int .i64 m ∧ OB (w.heap.size + 1) w1 wr v (digL s m)

set_option maxRecDepth 100000 in
set_option maxHeartbeats 400000 in
theorem inBytes_any (Sc : Array Value) (s : Nat → UInt32) (w : World) (hS : AggIs Sc 8 s) :
    Calls Tryd.prog 160 #[.agg Sc] w fun e w' => e = .returned (.string ⟨(digL s 8).toArray⟩) ∧ Below w.heap.size w w' := by
  obtain ⟨M, hmk, hob⟩ := run_mk 32 (by omega) (w.alloc (.cells Sc 160))
  have hmk' : (Instr.makeSlice 22 (.int .i64 0) (.int .i64 32)).run Tryd.prog (w.alloc (.cells Sc 160)) = _ := hmk
  clear hmk
  have ha := (Arr.agg (w := w) (t := 160) hS).alloc (.cells M 5)
  have HA : Hid (Arr ((w.alloc (.cells Sc 160)).alloc (.cells M 5)) w.heap.size 160 8 s) := ha
  clear ha
  go_enter Tryd.func160, Tryd.ntmps160
  go_wp2_with (refine wp_loadArr rfl 160 _ rfl w.heap.size 160 8 s 146 rfl HA.out Tryd.underlying160 size52 ?_; intro R hR)
  have hsz : (w.alloc (.cells Sc 160)).heap.size = w.heap.size + 1 := by simp
  rw [hsz] at hob
  have HOB : Hid (OB (w.heap.size + 1) (w.alloc (.cells Sc 160)) ((w.alloc (.cells Sc 160)).alloc (.cells M 5)) (.slice (some ⟨w.heap.size + 1, 0, none⟩) 0 32) []) := hob
  have HR : Hid (AggIs R 8 s) := hR
  have HB : Hid (Below w.heap.size w (w.alloc (.cells Sc 160))) := (Below.refl _ _).alloc (Nat.le_refl _) _
  clear hob hmk' HA hR hsz
  generalize (w.alloc (.cells Sc 160)).alloc (.cells M 5) = w2 at *
  generalize w.alloc (.cells Sc 160) = w1 at *
  go_loopw [3, 8] (fun v i wr => IR w w1 s v i wr) (fun _ i _ => 8 - (intOf i).toNat)
  case atStart => exact ⟨0, by omega, rfl, HOB.out⟩
  case round =>
    obtain ⟨m, hm, rfl, hown⟩ := hrel
    have hl := digL_len s m
    by_cases hlt : m < 8
    · have hix := run_aggAt HR.out m hlt
      have hD := digL_succ s m
      have hx := H.u32_lt (s m)
      have HD : Hid (digL s (m + 1) = digL s m ++ be4 (s m)) := hD
      clear hD
      generalize s m = X at *
      have i9 : (0 : Int) ≤ (m : Int) := by omega
      go_wp2_with (at_builtin; refine wp_app rfl _ _ rfl (w.heap.size + 1) w1 _ (digL s m) rfl (hown.alloc _) ⟨_, 0, none⟩ 4 4 (be4 X) rfl rfl ?c1 ?c2 ?_)
      case c1 => exact four_cells _ _ _ _ _ X _ (by omega) (by omega) (by omega) (by omega)
      case c2 => omega
      intro v5 w5 hown5
      rw [← HD.out] at hown5
      go_wp2
      go_roundw
      case rel => exact ⟨m + 1, by omega, by go_num, hown5⟩
      case measure => simp [intOf]; omega
    · have hme : m = 8 := by omega
      subst hme
      have hcv := run_str hown
      clear HOB
      go_wp2
      go_ret
      exact ⟨rfl, HB.out.trans (hown.2.1.mono (by omega))⟩
end Go.Proofs.YtmfoliocibjdnaaDoor
/-
  What the specification makes of a block.
-/
namespace Go.Proofs.YtmfoliocibjdnaaDoor
open Go.RowKit Go.BigFrame
set_option linter.unusedVariables false
set_option maxHeartbeats 4000000 in
set_option maxRecDepth 100000 in
theorem l03Block_any (Hc Kc : Array Value) (h k : Nat → UInt32) (b : ByteArray) (hb : b.size = 64) (w : World) (hH : AggIs Hc 8 h) (hK : AggIs Kc 64 k) :
    Calls Tryd.prog 148 #[.agg Hc, .string b, .agg Kc] w fun e w' => ∃ R, e = .returned (.agg R) ∧ AggIs R 8 (H.block h k (bAt b)) ∧ Below w.heap.size w w' := by
  have hst := BS.start w Hc Kc h k hH hK
  have HST : Hid (BS w ((((w.alloc (.cells Hc 147)).alloc (.cells Kc 149)).alloc (.cells (zeros 8) 147)).alloc (.cells (zeros 64) 149)) h k (fun _ => 0) (fun _ => 0)) := hst
  clear hst hH hK
  go_enter Tryd.func148, Tryd.ntmps148
  go_wp2_with (first | (with_reducible refine wp_build rfl rfl ?_) | (with_reducible refine wp_alloc55 rfl rfl ?_) | (with_reducible refine wp_alloc50 rfl rfl ?_) | (refine wp_store55 rfl _ _ rfl _ rfl rfl rfl ?_))
  generalize ((((w.alloc (.cells Hc 147)).alloc (.cells Kc 149)).alloc (.cells (zeros 8) 147)).alloc (.cells (zeros 64) 149)) = w1 at *
  go_loopw [8] (fun i wr => L1 w h k b i wr) (fun i _ => 16 - (intOf i).toNat)
  case atStart => exact ⟨0, by omega, rfl, HST.out⟩
  case round =>
    obtain ⟨m, hm, rfl, hs⟩ := hrel
    by_cases hlt : m < 16
    · have e0 := bAt_eq b (4 * m) (by omega)
      have e1 := bAt_eq b (4 * m + 1) (by omega)
      have e2 := bAt_eq b (4 * m + 2) (by omega)
      have e3 := bAt_eq b (4 * m + 3) (by omega)
      have l0 := b[4 * m].toNat_lt
      have l1 := b[4 * m + 1].toNat_lt
      have l2 := b[4 * m + 2].toNat_lt
      have l3 := b[4 * m + 3].toNat_lt
      have hwd := H.word_eq b[4 * m].toNat b[4 * m + 1].toNat b[4 * m + 2].toNat b[4 * m + 3].toNat l0 l1 l2 l3
      have hx : ((b[4 * m].toNat * 16777216 + b[4 * m + 1].toNat * 65536 + b[4 * m + 2].toNat * 256 + b[4 * m + 3].toNat : Nat) : Int) = ((H.word (bAt b) m).toNat : Int) := by
        unfold H.word
        rw [H.toNat_of _ (by rw [e0, e1, e2, e3]; omega), e0, e1, e2, e3]
      rw [hx] at hwd
      clear hx e0 e1 e2 e3
      have hs' := hs.setW m (by omega) (H.word (bAt b) m)
      have HS' : Hid (BS w (wr.setCell ⟨w.heap.size + 1 + 1 + 1, m, none⟩ (.int .u32 ((H.word (bAt b) m).toNat : Int))) h k (fun _ => 0) (H.wHead (bAt b) (m + 1))) := hs'
      have c0 := hs.ww.cell m (by omega)
      have f0 := hs.ww.frozen m
      clear hs hs'
      have i0 : (0 : Int) ≤ 4 * (m : Int) := by omega
      have i1 : 4 * (m : Int) + 3 < 64 := by omega
      have i2 : (0 : Int) ≤ (m : Int) := by omega
      have i3 : (m : Int) < 64 := by omega
      go_wp2
      have x0 := run_at b (4 * (m : Int)) (4 * m) (by omega) (by omega)
      have x1 := run_at b (4 * (m : Int) + 1) (4 * m + 1) (by omega) (by omega)
      have x2 := run_at b (4 * (m : Int) + 2) (4 * m + 2) (by omega) (by omega)
      have x3 := run_at b (4 * (m : Int) + 3) (4 * m + 3) (by omega) (by omega)
      go_region
      go_wp2
      go_roundw
      case rel => exact ⟨m + 1, by omega, by go_num, HS'.out.drew⟩
      case measure => simp [intOf]; omega
    · have hme : m = 16 := by omega
      subst hme
      have HS : Hid (BS w wr h k (fun _ => 0) (H.wHead (bAt b) 16)) := hs
      clear hs
      go_wp2
      go_loopw [9] (fun i wx => L2 w h k b i wx) (fun i _ => 64 - (intOf i).toNat)
      case atStart => exact ⟨16, by omega, by omega, rfl, HS.out⟩
      case round =>
        obtain ⟨n, hn, hn2, rfl, hs⟩ := hrel
        by_cases hlt2 : n < 64
        · have hF : H.wMore (H.wHead (bAt b) 16) (n + 1 - 16) = H.upd (H.wMore (H.wHead (bAt b) 16) (n - 16)) n (H.wStep (H.wMore (H.wHead (bAt b) 16) (n - 16)) n) := by
            have e1 : n + 1 - 16 = (n - 16) + 1 := by omega
            have e2 : 16 + (n - 16) = n := by omega
            rw [e1, H.wMore, e2]
          generalize H.wMore (H.wHead (bAt b) 16) (n - 16) = F at *
          have HF : Hid (H.wMore (H.wHead (bAt b) 16) (n + 1 - 16) = H.upd F n (H.wStep F n)) := hF
          have hs' := hs.setW n hlt2 (H.wStep F n)
          have HS' : Hid (BS w (wr.setCell ⟨w.heap.size + 1 + 1 + 1, n, none⟩ (.int .u32 ((H.wStep F n).toNat : Int))) h k (fun _ => 0) (H.upd F n (H.wStep F n))) := hs'
          have HW : Hid (H.wStep F n = ((F (n - 16) + H.sig0 (F (n - 15))) + F (n - 7)) + H.sig1 (F (n - 2))) := rfl
          have c15 := hs.ww.cell (n - 15) (by omega)
          have c2 := hs.ww.cell (n - 2) (by omega)
          have c16 := hs.ww.cell (n - 16) (by omega)
          have c7 := hs.ww.cell (n - 7) (by omega)
          have c0 := hs.ww.cell n (by omega)
          have f0 := hs.ww.frozen n
          clear hs hs' hF
          generalize F (n - 15) = X15 at *
          generalize F (n - 2) = X2 at *
          generalize F (n - 16) = X16 at *
          generalize F (n - 7) = X7 at *
          generalize F n = X0 at *
          obtain ⟨x1, e1⟩ : ∃ x, H.rotr X15 7 ^^^ H.rotr X15 18 = x := ⟨_, rfl⟩
          have s1 : (X15.toNat : Int) / 8 = ((H.shr X15 3).toNat : Int) := H.bshr X15 3
          obtain ⟨x2, e2⟩ : ∃ x, x1 ^^^ H.shr X15 3 = x := ⟨_, rfl⟩
          obtain ⟨x3, e3⟩ : ∃ x, H.rotr X2 17 ^^^ H.rotr X2 19 = x := ⟨_, rfl⟩
          have s2 : (X2.toNat : Int) / 1024 = ((H.shr X2 10).toNat : Int) := H.bshr X2 10
          obtain ⟨x4, e4⟩ : ∃ x, x3 ^^^ H.shr X2 10 = x := ⟨_, rfl⟩
          obtain ⟨x5, e5⟩ : ∃ x, X16 + x2 = x := ⟨_, rfl⟩
          obtain ⟨x6, e6⟩ : ∃ x, x5 + X7 = x := ⟨_, rfl⟩
          have e7 : x6 + x4 = H.wStep F n := by rw [HW.out, ← e6, ← e5, ← e2, ← e1, ← e4, ← e3]; rfl
          generalize H.wStep F n = WS at *
          have b1 := bx' e1
          have b2 := bx' e2
          have b3 := bx' e3
          have b4 := bx' e4
          have a1 := badd' e5
          have a2 := badd' e6
          have a3 := badd' e7
          clear e1 e2 e3 e4 e5 e6 e7 HW
          have t15 : ((n : Int) - 15).toNat = n - 15 := by omega
          have t2 : ((n : Int) - 2).toNat = n - 2 := by omega
          have t16 : ((n : Int) - 16).toNat = n - 16 := by omega
          have t7 : ((n : Int) - 7).toNat = n - 7 := by omega
          have i0 : (0 : Int) ≤ (n : Int) - 15 := by omega
          have i1 : (n : Int) - 15 < 64 := by omega
          have i2 : (0 : Int) ≤ (n : Int) - 2 := by omega
          have i3 : (n : Int) - 2 < 64 := by omega
          have i4 : (0 : Int) ≤ (n : Int) - 16 := by omega
          have i5 : (n : Int) - 16 < 64 := by omega
          have i6 : (0 : Int) ≤ (n : Int) - 7 := by omega
          have i7 : (n : Int) - 7 < 64 := by omega
          have i8 : (n : Int) < 64 := by omega
          have i9 : (0 : Int) ≤ (n : Int) := by omega
          go_wp2
          refine wp_region_quiet_lit (by kernel_rfl) (by kernel_rfl) ?_
          go_big_quiet_step (exact Calls.quiet_of_same (Turn7 _ _))
          go_big_quiet_step (exact Calls.quiet_of_same (Turn7 _ _))
          go_big_quiet_step (exact Calls.quiet_of_same (Turn7 _ _))
          go_big_quiet_step (exact Calls.quiet_of_same (Turn7 _ _))
          go_big_quiet_step (exact Calls.quiet_of_same (Turn7 _ _))
          go_big_quiet_step (exact Calls.quiet_of_same (Turn18 _ _))
          go_big_quiet_step (exact Calls.quiet_of_same (Turn18 _ _))
          go_big_quiet_step (exact Calls.quiet_of_same (Turn18 _ _))
          go_big_quiet_step (exact Calls.quiet_of_same (Turn18 _ _))
          go_big_quiet_step (exact Calls.quiet_of_same (Turn18 _ _))
          go_big_quiet_step (exact Calls.quiet_of_same (Turn7 _ _))
          go_big_quiet_step (exact Calls.quiet_of_same (Turn7 _ _))
          go_big_quiet_step (exact Calls.quiet_of_same (Turn7 _ _))
          go_big_quiet_step (exact Calls.quiet_of_same (Turn7 _ _))
          go_big_quiet_step (exact Calls.quiet_of_same (Turn7 _ _))
          go_big_quiet_step (exact Calls.quiet_of_same (Turn7 _ _))
          go_big_quiet_step (exact Calls.quiet_of_same (Turn7 _ _))
          go_big_quiet_step (exact Calls.quiet_of_same (Turn7 _ _))
          refine wpQuiet_nil ?_
          rintro _ ⟨q1, rfl⟩
          go_wp2
          refine wp_region_quiet_lit (by kernel_rfl) (by kernel_rfl) ?_
          go_big_quiet_step (exact quiet_same2 (Turn17 _ _))
          go_big_quiet_step (exact quiet_same2 (Turn17 _ _))
          go_big_quiet_step (exact quiet_same2 (Turn17 _ _))
          go_big_quiet_step (exact quiet_same2 (Turn17 _ _))
          go_big_quiet_step (exact quiet_same2 (Turn17 _ _))
          go_big_quiet_step (exact quiet_same2 (Turn19 _ _))
          go_big_quiet_step (exact quiet_same2 (Turn19 _ _))
          go_big_quiet_step (exact quiet_same2 (Turn19 _ _))
          go_big_quiet_step (exact quiet_same2 (Turn19 _ _))
          go_big_quiet_step (exact quiet_same2 (Turn19 _ _))
          go_big_quiet_step (exact quiet_same2 (Turn17 _ _))
          go_big_quiet_step (exact quiet_same2 (Turn17 _ _))
          go_big_quiet_step (exact quiet_same2 (Turn17 _ _))
          go_big_quiet_step (exact quiet_same2 (Turn17 _ _))
          go_big_quiet_step (exact quiet_same2 (Turn17 _ _))
          go_big_quiet_step (exact quiet_same2 (Turn17 _ _))
          go_big_quiet_step (exact quiet_same2 (Turn17 _ _))
          go_big_quiet_step (exact quiet_same2 (Turn17 _ _))
          refine wpQuiet_nil ?_
          rintro _ ⟨q2, rfl⟩
          go_wp2
          go_region
          go_wp2
          go_roundw
          case rel => exact ⟨n + 1, by omega, by omega, by go_num, by rw [HF.out]; exact HS'.out.drewN _⟩
          case measure => simp [intOf]; omega
        · have hne : n = 64 := by omega
          subst hne
          have hsz := hs.sz
          have HS2 : Hid (BS w wr h k (fun _ => 0) (H.wAll (bAt b))) := hs
          clear hs HS HST
          go_wp2_with (first | (refine wp_loadArr rfl 147 _ rfl w.heap.size 147 8 h 146 rfl HS2.out.hh Tryd.underlying147 size51 ?_; intro R hR) | (with_reducible refine wp_alloc50 rfl rfl ?_) | (refine wp_storeNew rfl 147 8 _ _ rfl wr _ R h rfl (zeros_size 8) hR rfl rfl size51 ?_))
          have HS3 : Hid (S3 w (wr.alloc (.cells R 147)) h k (H.wAll (bAt b)) h) := HS2.out.copy hR
          clear hR HS2 hsz
          generalize wr.alloc (.cells R 147) = w3 at *
          have HB : Hid ((fun i => h i + H.rounds h k (H.wAll (bAt b)) 64 i) = H.block h k (bAt b)) := rfl
          generalize H.wAll (bAt b) = W at *
          go_loopw [13] (fun i wx => L3 w h k W i wx) (fun i _ => 64 - (intOf i).toNat)
          case atStart => exact ⟨0, by omega, rfl, HS3.out⟩
          case round =>
            obtain ⟨m, hm, rfl, hs⟩ := hrel
            by_cases hlt3 : m < 64
            · have HR : Hid (H.rounds h k W (m + 1) = H.round (H.rounds h k W m) (k m) (W m)) := rfl
              generalize H.rounds h k W m = s at *
              have ck := hs.kk.cell m hlt3
              have cw := hs.ww.cell m hlt3
              have c0 := hs.ss.cell 0 (by omega)
              have c1 := hs.ss.cell 1 (by omega)
              have c2 := hs.ss.cell 2 (by omega)
              have c3 := hs.ss.cell 3 (by omega)
              have c4 := hs.ss.cell 4 (by omega)
              have c5 := hs.ss.cell 5 (by omega)
              have c6 := hs.ss.cell 6 (by omega)
              have c7 := hs.ss.cell 7 (by omega)
              have f0 := hs.ss.frozen 0
              have f1 := hs.ss.frozen 1
              have f2 := hs.ss.frozen 2
              have f3 := hs.ss.frozen 3
              have f4 := hs.ss.frozen 4
              have f5 := hs.ss.frozen 5
              have f6 := hs.ss.frozen 6
              have f7 := hs.ss.frozen 7
              obtain ⟨N4, hN4⟩ : ∃ x, s 3 + H.one s (k m) (W m) = x := ⟨_, rfl⟩
              obtain ⟨N0, hN0⟩ : ∃ x, H.one s (k m) (W m) + H.two s = x := ⟨_, rfl⟩
              have hrd := fun q => (hs.drewN q).round (k m) (W m) N4 N0 hN4 hN0
              have e1 : H.one s (k m) (W m) = (((s 7 + H.big1 (s 4)) + H.ch (s 4) (s 5) (s 6)) + k m) + W m := rfl
              have e2 : H.two s = H.big0 (s 0) + H.maj (s 0) (s 1) (s 2) := rfl
              generalize H.one s (k m) (W m) = ONE at *
              generalize H.two s = TWO at *
              generalize H.round s (k m) (W m) = s' at *
              generalize k m = KM at *
              generalize W m = WM at *
              generalize s 0 = S0 at *
              generalize s 1 = S1 at *
              generalize s 2 = S2 at *
              generalize s 3 = S3' at *
              generalize s 4 = S4 at *
              generalize s 5 = S5 at *
              generalize s 6 = S6 at *
              generalize s 7 = S7 at *
              have HRD : Hid (∀ q, _) := hrd
              clear hrd hs
              obtain ⟨y1, g1⟩ : ∃ x, H.rotr S4 6 ^^^ H.rotr S4 11 = x := ⟨_, rfl⟩
              obtain ⟨y2, g2⟩ : ∃ x, y1 ^^^ H.rotr S4 25 = x := ⟨_, rfl⟩
              have q2 : H.big1 S4 = y2 := by rw [← g2, ← g1]; rfl
              obtain ⟨y3, g3⟩ : ∃ x, S4 &&& S5 = x := ⟨_, rfl⟩
              obtain ⟨y4, g4⟩ : ∃ x, S4 ^^^ 4294967295 = x := ⟨_, rfl⟩
              obtain ⟨y5, g5⟩ : ∃ x, y4 &&& S6 = x := ⟨_, rfl⟩
              obtain ⟨y6, g6⟩ : ∃ x, y3 ^^^ y5 = x := ⟨_, rfl⟩
              have q6 : H.ch S4 S5 S6 = y6 := by rw [← g6, ← g5, ← g4, ← g3]; rfl
              obtain ⟨y7, g7⟩ : ∃ x, S7 + y2 = x := ⟨_, rfl⟩
              obtain ⟨y8, g8⟩ : ∃ x, y7 + y6 = x := ⟨_, rfl⟩
              obtain ⟨y9, g9⟩ : ∃ x, y8 + KM = x := ⟨_, rfl⟩
              have g10 : y9 + WM = ONE := by rw [e1, q2, q6, g7, g8, g9]
              obtain ⟨z1, k1⟩ : ∃ x, H.rotr S0 2 ^^^ H.rotr S0 13 = x := ⟨_, rfl⟩
              obtain ⟨z2, k2⟩ : ∃ x, z1 ^^^ H.rotr S0 22 = x := ⟨_, rfl⟩
              have q3 : H.big0 S0 = z2 := by rw [← k2, ← k1]; rfl
              obtain ⟨z3, k3⟩ : ∃ x, S0 &&& S1 = x := ⟨_, rfl⟩
              obtain ⟨z4, k4⟩ : ∃ x, S0 &&& S2 = x := ⟨_, rfl⟩
              obtain ⟨z5, k5⟩ : ∃ x, z3 ^^^ z4 = x := ⟨_, rfl⟩
              obtain ⟨z6, k6⟩ : ∃ x, S1 &&& S2 = x := ⟨_, rfl⟩
              obtain ⟨z7, k7⟩ : ∃ x, z5 ^^^ z6 = x := ⟨_, rfl⟩
              have q7 : H.maj S0 S1 S2 = z7 := by rw [← k7, ← k6, ← k5, ← k4, ← k3]; rfl
              have k8 : z2 + z7 = TWO := by rw [e2, q3, q7]
              have bg1 := bx' g1
              have bg2 := bx' g2
              have bg3 := ba' g3
              have bg4 : bits .xor .u32 (S4.toNat : Int) 4294967295 = (y4.toNat : Int) := by rw [← g4]; exact H.bn S4
              have bg5 := ba' g5
              have bg6 := bx' g6
              have bg7 := badd' g7
              have bg8 := badd' g8
              have bg9 := badd' g9
              have bg10 := badd' g10
              have bk1 := bx' k1
              have bk2 := bx' k2
              have bk3 := ba' k3
              have bk4 := ba' k4
              have bk5 := bx' k5
              have bk6 := ba' k6
              have bk7 := bx' k7
              have bk8 := badd' k8
              have bN4 := badd' hN4
              have bN0 := badd' hN0
              clear g1 g2 g3 g4 g5 g6 g7 g8 g9 g10 k1 k2 k3 k4 k5 k6 k7 k8 hN4 hN0 e1 e2 q2 q3 q6 q7
              have i8 : (m : Int) < 64 := by omega
              have i9 : (0 : Int) ≤ (m : Int) := by omega
              go_wp2
              refine wp_region_quiet_lit (by kernel_rfl) (by kernel_rfl) ?_
              go_big_quiet_step (exact Calls.quiet_of_same (Turn6 _ _))
              go_big_quiet_step (exact Calls.quiet_of_same (Turn6 _ _))
              go_big_quiet_step (exact Calls.quiet_of_same (Turn6 _ _))
              go_big_quiet_step (exact Calls.quiet_of_same (Turn11 _ _))
              go_big_quiet_step (exact Calls.quiet_of_same (Turn11 _ _))
              go_big_quiet_step (exact Calls.quiet_of_same (Turn11 _ _))
              go_big_quiet_step (exact Calls.quiet_of_same (Turn11 _ _))
              go_big_quiet_step (exact Calls.quiet_of_same (Turn25 _ _))
              go_big_quiet_step (exact Calls.quiet_of_same (Turn25 _ _))
              go_big_quiet_step (exact Calls.quiet_of_same (Turn25 _ _))
              go_big_quiet_step (exact Calls.quiet_of_same (Turn25 _ _))
              go_big_quiet_step (exact Calls.quiet_of_same (Turn25 _ _))
              refine wpQuiet_nil ?_
              rintro _ ⟨q1, rfl⟩
              go_wp2
              refine wp_region_quiet_lit (by kernel_rfl) (by kernel_rfl) ?_
              go_big_quiet_step (fail)
              go_big_quiet_step (fail)
              go_big_quiet_step (fail)
              go_big_quiet_step (fail)
              go_big_quiet_step (fail)
              go_big_quiet_step (fail)
              go_big_quiet_step (fail)
              go_big_quiet_step (fail)
              go_big_quiet_step (fail)
              go_big_quiet_step (fail)
              go_big_quiet_step (fail)
              go_big_quiet_step (fail)
              go_big_quiet_step (fail)
              go_big_quiet_step (fail)
              go_big_quiet_step (fail)
              refine wpQuiet_nil ?_
              rintro _ ⟨q2, rfl⟩
              go_wp2
              refine wp_region_quiet_lit (by kernel_rfl) (by kernel_rfl) ?_
              go_big_quiet_step (exact quiet_same2 (Turn2 _ _))
              go_big_quiet_step (exact quiet_same2 (Turn2 _ _))
              go_big_quiet_step (exact quiet_same2 (Turn2 _ _))
              go_big_quiet_step (exact quiet_same2 (Turn13 _ _))
              go_big_quiet_step (exact quiet_same2 (Turn13 _ _))
              go_big_quiet_step (exact quiet_same2 (Turn13 _ _))
              go_big_quiet_step (exact quiet_same2 (Turn13 _ _))
              go_big_quiet_step (exact quiet_same2 (Turn22 _ _))
              go_big_quiet_step (exact quiet_same2 (Turn22 _ _))
              go_big_quiet_step (exact quiet_same2 (Turn22 _ _))
              go_big_quiet_step (exact quiet_same2 (Turn22 _ _))
              go_big_quiet_step (exact quiet_same2 (Turn22 _ _))
              refine wpQuiet_nil ?_
              rintro _ ⟨q3, rfl⟩
              go_wp2
              go_roundw
              case rel => exact ⟨m + 1, by omega, by go_num, by rw [HR.out]; exact HRD.out _⟩
              case measure => simp [intOf]; omega
            · have hme : m = 64 := by omega
              subst hme
              have HS4 : Hid (S3 w wr h k W (H.rounds h k W 64)) := hs
              clear hs HS3
              generalize H.rounds h k W 64 = s at *
              go_wp2
              go_loopw [20] (fun i wx => L4 w h k W s i wx) (fun i _ => 8 - (intOf i).toNat)
              case atStart => exact ⟨0, by omega, rfl, HS4.out.congrH (fun i hi => by simp [part])⟩
              case round =>
                obtain ⟨p, hp, rfl, hs⟩ := hrel
                by_cases hlt4 : p < 8
                · have ch := hs.hh.cell p hlt4
                  rw [part_at] at ch
                  have cs := hs.ss.cell p hlt4
                  have fh := hs.hh.frozen p
                  have hst := fun q => ((hs.drewN q).setH p hlt4 (h p + s p)).congrH (fun i hi => part_succ h s p i)
                  obtain ⟨x, hx⟩ : ∃ x, h p + s p = x := ⟨_, rfl⟩
                  rw [hx] at hst
                  have HST4 : Hid (∀ q, _) := hst
                  have bx := badd' hx
                  clear hs hst hx HS4
                  have i8 : (p : Int) < 8 := by omega
                  have i9 : (0 : Int) ≤ (p : Int) := by omega
                  go_wp2
                  go_region
                  go_wp2
                  go_roundw
                  case rel => exact ⟨p + 1, by omega, by go_num, HST4.out 1⟩
                  case measure => simp [intOf]; omega
                · have hpe : p = 8 := by omega
                  subst hpe
                  have HS5 : Hid (S3 w wr (part h s 8) k W s) := hs
                  clear hs HS4
                  go_wp2_with (first | (refine wp_loadArr rfl 147 _ rfl w.heap.size 147 8 (part h s 8) 146 rfl HS5.out.hh Tryd.underlying147 size51 ?_; intro R hR) | (refine wp_storeArr rfl 147 _ _ rfl (w.heap.size + 1 + 1) 147 8 _ (part h s 8) R HS5.out.rr hR rfl rfl size51 ?_; intro hfin))
                  refine ret_arr 6 (w.heap.size + 1 + 1) 147 8 147 146 (part h s 8) rfl rfl rfl hfin Tryd.underlying147 size51 ?_
                  intro R2 hR2
                  exact ⟨R2, rfl, hR2.congr (fun i hi => by have := HB.out; rw [← this]; simp [part, hi]), below_setRow HS5.out.bel (by omega)⟩
end Go.Proofs.YtmfoliocibjdnaaDoor
/-
  What Digest answers, in plain words.
-/
namespace Go.Proofs.YtmfoliocibjdnaaDoor
open Go.RowKit Go.BigFrame
set_option linter.unusedVariables false

/-- the state behind the first so many blocks -/
def stN (p : ByteArray) : Nat → Nat → UInt32
  | 0 => firstF
  | k + 1 => H.block (stN p k) keyF (bAt (p.extract (64 * k) (64 * k + 64)))
def padB (t : ByteArray) : ByteArray := ⟨(padL t.data.toList).toArray⟩
def nbl (t : ByteArray) : Nat := (t.size + 72) / 64
def digB (t : ByteArray) : ByteArray := ⟨(digL (stN (padB t) (nbl t)) 8).toArray⟩
theorem padB_size (t : ByteArray) : (padB t).size = nbl t * 64 := by
  have h1 : (padB t).data.toList.length = (padB t).size := Array.length_toList
  have h2 : t.data.toList.length = t.size := Array.length_toList
  have h3 := padL_blocks t.data.toList
  rw [h2] at h3
  rw [← h1]
  simpa [padB, nbl] using h3
theorem digB_size (t : ByteArray) : (digB t).size = 32 := by
  have h1 : (digB t).data.toList.length = (digB t).size := Array.length_toList
  rw [← h1]
  simp [digB, digL_len]

section
variable {w : World} {ops : Array Oper} {rest : List Oper} {o : Oper} {a : Act} {Q : Act → Prop}
theorem still_loadArr (hgd : o.guard = none) (ty : TypeId) (p : Operand) (ho : o.op = .load ty p) (g t n : Nat) (f : Nat → UInt32) (e : TypeId) (hp : a.eval p = .pointer (some ⟨g, 0, none⟩)) (hA : Arr w g t n f)
    (hu : Tryd.prog.underlying ty = some (.array n e)) (hi : (Tryd.prog.info? ty).map (·.size) = some n)
    (h : ∀ R, AggIs R n f → wpStill Tryd.prog ops w Q rest (a.put o.dst (.agg R))) : wpStill Tryd.prog ops w Q (o :: rest) a := by
  refine wpStill_step fun K hK => ?_
  obtain ⟨R, hr, hR⟩ := run_loadArr ty e hu hi hA
  have hw : Region.wanted o (yielded ops a.tmps) = true := by simp [Region.wanted, hgd]
  rw [if_pos hw]
  unfold Oper.still
  simp [execOp, ho, hp, hr, Result.andThen, Oper.stillUpon]
  exact hK _ (h R hR)
end

def DR (w : World) (t : ByteArray) (g : Nat) (i : Value) (wr : World) : Prop := ∃ k : Nat, k ≤ nbl t ∧ i = .int .i64 k ∧ Arr wr g 160 8 (stN (padB t) k) ∧ TabK wr ∧ Below w.heap.size w wr

set_option maxRecDepth 100000 in
set_option maxHeartbeats 400000 in
theorem Digest_any (t : ByteArray) (w : World) (ht : t.size ≤ 1048576) (hK : TabK w) (hF : TabF w) :
    Calls Tryd.prog 139 #[.string t] w fun e w' => e = .returned (.string (digB t)) ∧ Below w.heap.size w w' := by
  have hpz := padB_size t
  have hkp := hK.pos
  have hfp := hF.pos
  have hnb : nbl t ≤ 20000 := by unfold nbl; omega
  have HK : Hid (TabK w) := hK
  have HF : Hid (TabF w) := hF
  have HD : Hid (digB t = ⟨(digL (stN (padB t) (nbl t)) 8).toArray⟩) := rfl
  have hPT : Calls Tryd.prog 157 #[.string t] w fun e w' => e = .returned (.string (padB t)) ∧ Below w.heap.size w w' := PadText_any t w ht
  clear hK hF
  generalize digB t = D at *
  go_enter Tryd.func139, Tryd.ntmps139
  go_wp2_with fail
  refine hPT.mono ?_
  rintro e w1 ⟨rfl, hb1⟩
  clear hPT
  go_wp2_with fail
  refine (shaBegin_any w1 (HF.out.later hb1 hfp)).mono ?_
  rintro e w2 ⟨R, rfl, hR, hb2⟩
  go_wp2_with (first | (refine wp_allocArr rfl 160 8 rfl zero52 ?_) | (refine wp_storeNew rfl 160 8 _ _ rfl w2 _ R firstF rfl (zeros_size 8) hR rfl rfl size52 ?_))
  have hs1 := hb1.size
  have hs2 := hb2.size
  have hb3 : Below w.heap.size w (w2.alloc (.cells R 160)) := (hb1.trans (hb2.mono hs1)).alloc (by omega) _
  have HST : Hid (DR w t w2.heap.size (.int .i64 0) (w2.alloc (.cells R 160))) := ⟨0, by omega, rfl, Arr.agg hR, HK.out.later hb3 hkp, hb3⟩
  have hg : w.heap.size ≤ w2.heap.size := by omega
  generalize w2.alloc (.cells R 160) = w3 at *
  generalize w2.heap.size = g at *
  clear hb1 hb2 hb3 hR hs1 hs2 HK HF
  go_loopw [12] (fun i wr => DR w t g i wr) (fun i _ => nbl t - (intOf i).toNat)
  case atStart => exact HST.out
  case round =>
    obtain ⟨k, hk, rfl, ha, hT, hbel⟩ := hrel
    clear HST
    by_cases hlt : k < nbl t
    · obtain ⟨c, hc⟩ : ∃ c, (padB t).extract (64 * k) (64 * k + 64) = c := ⟨_, rfl⟩
      have hcz : c.size = 64 := by rw [← hc, ByteArray.size_extract]; omega
      have hcut := run_cut (padB t) ((k : Int) * 64) (((k : Int) + 1) * 64) (64 * k) (64 * k + 64) (by omega) (by omega) (by omega) (by omega)
      rw [hc] at hcut
      have HN : Hid (stN (padB t) (k + 1) = H.block (stN (padB t) k) keyF (bAt c)) := by rw [← hc]; rfl
      clear hc
      have wr1 : IntKind.i64.wrap ((k : Int) * 64) = (k : Int) * 64 := IntWalk.i64_in _ (by omega)
      have wr2 : IntKind.i64.wrap ((k : Int) + 1) = (k : Int) + 1 := IntWalk.i64_in _ (by omega)
      have wr3 : IntKind.i64.wrap (((k : Int) + 1) * 64) = ((k : Int) + 1) * 64 := IntWalk.i64_in _ (by omega)
      generalize stN (padB t) k = S at *
      have HA : Hid (Arr wr g 160 8 S ∧ TabK wr) := ⟨ha, hT⟩
      have hgs := ha.lt
      clear ha hT
      go_wp2
      refine wp_region_still_tail 8 (by kernel_rfl) (by kernel_rfl) ?_
      simp only [List.take_succ_cons, List.take_zero, List.drop_succ_cons, List.drop_zero]
      refine still_loadArr rfl 160 _ rfl g 160 8 S 146 rfl (HA.out.1.drewN 1) Tryd.underlying160 size52 ?_
      intro R1 hR1
      iterate 7 still_step
      refine wpStill_nil ?_
      go_wp2_with fail
      refine (after_any R1 S c hcz wr.drew hR1 (fun i hi => HA.out.2 i hi)).mono ?_
      rintro e w5 ⟨R2, rfl, hR2, hb5⟩
      have ha5 : Arr w5 g 160 8 S := Arr.below (w := wr.drew) (HA.out.1.drewN 1) hb5 hgs
      go_wp2_with (refine wp_storeArr rfl 160 _ _ rfl g 160 8 S _ R2 ha5 hR2 rfl rfl size52 ?_; intro hfin)
      have hz0 : w.heap.size ≤ wr.heap.size := hbel.size
      have hb6 : Below w.heap.size wr.drew (w5.setRow g R2) := below_setRow (Below.mono (B := wr.drew.heap.size) hb5 hz0) hg
      have HT6 : Hid (TabK (w5.setRow g R2)) := TabK.later (w := wr.drew) (fun i hi => HA.out.2 i hi) hb6 hkp
      have HB6 : Hid (Below w.heap.size w (w5.setRow g R2)) := hbel.drew.trans hb6
      clear hb5 hb6 ha5
      generalize w5.setRow g R2 = w6 at *
      go_wp2
      go_roundw
      case rel => exact ⟨k + 1, hlt, by go_num, by rw [HN.out]; exact hfin, HT6.out, HB6.out⟩
      case measure => simp [intOf]; omega
    · have hke : k = nbl t := by omega
      subst hke
      have HA : Hid (Arr wr g 160 8 (stN (padB t) (nbl t))) := ha
      clear ha hT
      go_wp2_with (refine wp_loadArr rfl 160 _ rfl g 160 8 _ 146 rfl HA.out Tryd.underlying160 size52 ?_; intro R1 hR1)
      refine (inBytes_any R1 _ _ hR1).mono ?_
      rintro e w5 ⟨rfl, hb5⟩
      go_wp2
      go_ret
      exact ⟨by rw [HD.out]; rfl, hbel.trans (hb5.mono hbel.size)⟩

/-- the row of the digest when the first so many numbers stand -/
def digRow (s : Nat → UInt32) (k : Nat) : List UInt8 := digL s k ++ List.replicate (32 - 4 * k) 0
theorem digRow_len (s : Nat → UInt32) (k : Nat) (h : k ≤ 8) : (digRow s k).length = 32 := by
  unfold digRow
  rw [List.length_append, digL_len, List.length_replicate]
  omega
theorem digRow_step (s : Nat → UInt32) (k : Nat) (h : k < 8) (X : UInt32) (hX : s k = X) :
    ((((digRow s k).set (4 * k) (UInt8.ofNat (X.toNat / 16777216))).set (4 * k + 1) (UInt8.ofNat (X.toNat / 65536))).set (4 * k + 2) (UInt8.ofNat (X.toNat / 256))).set (4 * k + 3) (UInt8.ofNat X.toNat) = digRow s (k + 1) := by
  subst hX
  have e : 32 - 4 * k = (32 - 4 * (k + 1)) + 1 + 1 + 1 + 1 := by omega
  have hl := digL_len s k
  unfold digRow
  rw [e, digL_succ]
  simp only [List.replicate_succ]
  rw [List.set_append_right _ _ (by omega), List.set_append_right _ _ (by omega), List.set_append_right _ _ (by omega), List.set_append_right _ _ (by omega)]
  have e0 : 4 * k - (digL s k).length = 0 := by omega
  have e1 : 4 * k + 1 - (digL s k).length = 1 := by omega
  have e2 : 4 * k + 2 - (digL s k).length = 2 := by omega
  have e3 : 4 * k + 3 - (digL s k).length = 3 := by omega
  rw [e0, e1, e2, e3]
  simp [be4]
end Go.Proofs.YtmfoliocibjdnaaDoor
/-
  The walk of the specification's Digest.
-/
namespace Go.Proofs.YtmfoliocibjdnaaDoor
open Go.RowKit Go.BigFrame
set_option linter.unusedVariables false

def SR (w : World) (t : ByteArray) (g gk : Nat) (i : Value) (wr : World) : Prop := ∃ k : Nat, k ≤ nbl t ∧ i = .int .i64 ((64 * k : Nat) : Int) ∧ Arr wr g 147 8 (stN (padB t) k) ∧ Arr wr gk 149 64 keyF ∧ Below w.heap.size w wr
def SR2 (w : World) (s : Nat → UInt32) (g go : Nat) (i : Value) (wr : World) : Prop := ∃ k : Nat, k ≤ 8 ∧ i = .int .i64 (k : Int) ∧ Arr wr g 147 8 s ∧ Byt wr go (digRow s k) ∧ Below w.heap.size w wr

set_option maxRecDepth 100000 in
set_option maxHeartbeats 400000 in
theorem sDigest_any (t : ByteArray) (w : World) (ht : t.size ≤ 1048576) :
    Calls Tryd.prog 95 #[.string t] w fun e w' => e = .returned (.string (digB t)) ∧ Below w.heap.size w w' := by
  have hpz := padB_size t
  have hnb : nbl t ≤ 20000 := by unfold nbl; omega
  have HD : Hid (digB t = ⟨(digL (stN (padB t) (nbl t)) 8).toArray⟩) := rfl
  generalize digB t = D at *
  have hPT : ∀ w, Calls Tryd.prog 147 #[.string t] w fun e w' => e = .returned (.string (padB t)) ∧ Below w.heap.size w w' := fun w => sPadText_any t w ht
  go_enter Tryd.func95, Tryd.ntmps95
  go_wp2_with fail
  refine (l03First_any _).mono ?_
  rintro e w1 ⟨R, rfl, hR, hb1⟩
  go_wp2_with (first | (with_reducible refine wp_alloc50 rfl rfl ?_) | (refine wp_storeNew rfl 147 8 _ _ rfl w1 _ R firstF rfl (zeros_size 8) hR rfl rfl size51 ?_))
  have ha1 : Arr (w1.alloc (.cells R 147)) w1.heap.size 147 8 firstF := Arr.agg hR
  have hs1 := hb1.size
  have hb2 : Below w.heap.size w (w1.alloc (.cells R 147)) := hb1.alloc hs1 _
  have hz2 : (w1.alloc (.cells R 147)).heap.size = w1.heap.size + 1 := by simp
  refine (l03Keys_any _).mono ?_
  rintro e w3 ⟨R3, rfl, hR3, hb3⟩
  have hs3 := hb3.size
  have ha3 := (ha1.below hb3 (by omega)).alloc (.cells R3 149)
  have hk3 : Arr (w3.alloc (.cells R3 149)) w3.heap.size 149 64 keyF := Arr.agg hR3
  have hb4 : Below w.heap.size w (w3.alloc (.cells R3 149)) := (hb2.trans (hb3.mono (by omega))).alloc (by omega) _
  go_wp2_with (first | (with_reducible refine wp_alloc55 rfl rfl ?_) | (refine wp_storeNew rfl 149 64 _ _ rfl w3 _ R3 keyF rfl (zeros_size 64) hR3 rfl rfl size61 ?_))
  have hz4 : (w3.alloc (.cells R3 149)).heap.size = w3.heap.size + 1 := by simp
  refine (hPT _).mono ?_
  rintro e w5 ⟨rfl, hb5⟩
  have hs5 := hb5.size
  have HST : Hid (SR w t w1.heap.size w3.heap.size (.int .i64 0) w5) := ⟨0, by omega, rfl, ha3.below hb5 (by omega), hk3.below hb5 (by omega), hb4.trans (hb5.mono (by omega))⟩
  have hg1 : w.heap.size ≤ w1.heap.size := hs1
  have hg2 : w1.heap.size < w3.heap.size := by omega
  clear ha1 hb2 hb3 hb4 hb5 hs5 hz4 hk3 ha3 hs3 hR3 hz2 hs1 hR hb1 hPT
  generalize w1.heap.size = g at *
  generalize w3.heap.size = gk at *
  go_wp2
  go_loopw [6] (fun i wr => SR w t g gk i wr) (fun i _ => nbl t * 64 - (intOf i).toNat)
  case atStart => exact HST.out
  case round =>
    obtain ⟨k, hk, rfl, ha, hkk, hbel⟩ := hrel
    clear HST
    by_cases hlt : k < nbl t
    · obtain ⟨c, hc⟩ : ∃ c, (padB t).extract (64 * k) (64 * k + 64) = c := ⟨_, rfl⟩
      have hcz : c.size = 64 := by rw [← hc, ByteArray.size_extract]; omega
      have hcut := run_cut (padB t) ((64 * k : Nat) : Int) (((64 * k : Nat) : Int) + 64) (64 * k) (64 * k + 64) rfl (by omega) (by omega) (by omega)
      rw [hc] at hcut
      have HN : Hid (stN (padB t) (k + 1) = H.block (stN (padB t) k) keyF (bAt c)) := by rw [← hc]; rfl
      clear hc
      generalize stN (padB t) k = S at *
      have HA : Hid (Arr wr g 147 8 S ∧ Arr wr gk 149 64 keyF) := ⟨ha, hkk⟩
      have hgs := ha.lt
      have hgk := hkk.lt
      clear ha hkk
      obtain ⟨n, hn⟩ : ∃ n : Nat, 64 * k = n := ⟨_, rfl⟩
      rw [hn] at hcut
      rw [hn]
      have hnl : n + 64 ≤ nbl t * 64 := by omega
      have wr1 : IntKind.i64.wrap ((n : Int) + 64) = (n : Int) + 64 := IntWalk.i64_in _ (by omega)
      have HNN : Hid (64 * k = n) := hn
      clear hn
      go_wp2
      refine wp_region_still_tail 7 (by kernel_rfl) (by kernel_rfl) ?_
      simp only [List.take_succ_cons, List.take_zero, List.drop_succ_cons, List.drop_zero]
      refine still_loadArr rfl 147 _ rfl g 147 8 S 146 rfl (HA.out.1.drewN 1) Tryd.underlying147 size51 ?_
      intro R1 hR1
      iterate 5 still_step
      refine still_loadArr rfl 149 _ rfl gk 149 64 keyF 146 rfl (HA.out.2.drewN 1) Tryd.underlying149 size61 ?_
      intro R2 hR2
      refine wpStill_nil ?_
      go_wp2_with fail
      refine (l03Block_any R1 R2 S keyF c hcz wr.drew hR1 hR2).mono ?_
      rintro e w6 ⟨R6, rfl, hR6, hb6⟩
      have ha6 : Arr w6 g 147 8 S := Arr.below (w := wr.drew) (HA.out.1.drewN 1) hb6 hgs
      have hk6 : Arr w6 gk 149 64 keyF := Arr.below (w := wr.drew) (HA.out.2.drewN 1) hb6 hgk
      have hz0 : w.heap.size ≤ wr.heap.size := hbel.size
      have hb7 : Below w.heap.size w (w6.setRow g R6) := below_setRow (hbel.drew.trans (Below.mono (B := wr.drew.heap.size) hb6 hz0)) hg1
      have hk7 : Arr (w6.setRow g R6) gk 149 64 keyF := hk6.otherRow (by omega)
      go_wp2_with (refine wp_storeArr rfl 147 _ _ rfl g 147 8 S _ R6 ha6 hR6 rfl rfl size51 ?_; intro hfin)
      clear ha6 hk6 hb6
      generalize w6.setRow g R6 = w7 at *
      go_wp2
      go_roundw
      case rel => exact ⟨k + 1, hlt, by have := HNN.out; show Value.int .i64 _ = Value.int .i64 _; congr 1; omega, by rw [HN.out]; exact hfin, hk7, hb7⟩
      case measure => simp [intOf]; omega
    · have hke : k = nbl t := by omega
      subst hke
      obtain ⟨n, hn⟩ : ∃ n : Nat, 64 * nbl t = n := ⟨_, rfl⟩
      rw [hn]
      have hn2 : (n : Int) = (nbl t : Int) * 64 := by omega
      generalize stN (padB t) (nbl t) = S at *
      have hgs := ha.lt
      obtain ⟨w6, hmk, hby, hb6, hs6⟩ := Byt.made 32 (by omega) wr
      have hmk' : (Instr.makeSlice 22 (.int .i64 32) (.int .i64 32)).run Tryd.prog wr = _ := hmk
      have HST2 : Hid (SR2 w S g wr.heap.size (.int .i64 0) w6) := ⟨0, by omega, rfl, ha.below hb6 hgs, hby, hbel.trans (hb6.mono hbel.size)⟩
      have hgo : g < wr.heap.size := hgs
      have hw0 := hbel.size
      clear hmk hby hb6 hs6 ha hkk hbel hn
      generalize wr.heap.size = go at *
      go_wp2
      go_loopw [8] (fun i wr => SR2 w S g go i wr) (fun i _ => 8 - (intOf i).toNat)
      case atStart => exact HST2.out
      case round =>
        obtain ⟨m, hm, rfl, ha, hby, hbel⟩ := hrel
        clear HST2 hmk'
        have hrl := digRow_len S m hm
        by_cases hlt8 : m < 8
        · have hc := ha.cell m hlt8
          obtain ⟨x0, d0⟩ := hby.has (4 * m) (by omega)
          obtain ⟨x1, d1⟩ := hby.has (4 * m + 1) (by omega)
          obtain ⟨x2, d2⟩ := hby.has (4 * m + 2) (by omega)
          obtain ⟨x3, d3⟩ := hby.has (4 * m + 3) (by omega)
          have f0 := hby.frozen (4 * m)
          have f1 := hby.frozen (4 * m + 1)
          have f2 := hby.frozen (4 * m + 2)
          have f3 := hby.frozen (4 * m + 3)
          have hst := digRow_step S m hlt8 (S m) rfl
          have hX := H.u32_lt (S m)
          have HA : Hid (Arr wr g 147 8 S ∧ Byt wr go (digRow S m) ∧ Below w.heap.size w wr) := ⟨ha, hby, hbel⟩
          clear ha hby hbel
          generalize S m = X at *
          have HST3 : Hid (((((digRow S m).set (4 * m) (UInt8.ofNat (X.toNat / 16777216))).set (4 * m + 1) (UInt8.ofNat (X.toNat / 65536))).set (4 * m + 2) (UInt8.ofNat (X.toNat / 256))).set (4 * m + 3) (UInt8.ofNat X.toNat) = digRow S (m + 1)) := hst
          clear hst
          have n1 : ¬ g = go := by omega
          have n2 : ¬ go = g := by omega
          have t0 : (4 * (m : Int)).toNat = 4 * m := by omega
          have t1 : (4 * (m : Int) + 1).toNat = 4 * m + 1 := by omega
          have t2 : (4 * (m : Int) + 2).toNat = 4 * m + 2 := by omega
          have t3 : (4 * (m : Int) + 3).toNat = 4 * m + 3 := by omega
          have i0 : (0 : Int) ≤ 4 * (m : Int) := by omega
          have i1 : 4 * (m : Int) < 32 := by omega
          have i2 : 4 * (m : Int) + 1 < 32 := by omega
          have i3 : 4 * (m : Int) + 2 < 32 := by omega
          have i4 : 4 * (m : Int) + 3 < 32 := by omega
          have i8 : (m : Int) < 8 := by omega
          have i9 : (0 : Int) ≤ (m : Int) := by omega
          go_wp2
          refine ⟨⟨m + 1, by omega, by go_num, ?_, ?_, ?_⟩, ?_⟩
          · exact (((HA.out.1.other _ _ _ n1).other _ _ _ n1).other _ _ _ n1).other _ _ _ n1
          · have y0 := HA.out.2.1.setx (4 * m) ((X.toNat : Int) / 16777216) (UInt8.ofNat (X.toNat / 16777216)) _ (by simp; omega) rfl
            have y1 := y0.setx (4 * m + 1) ((X.toNat : Int) / 65536 % 256) (UInt8.ofNat (X.toNat / 65536)) _ (by simp) rfl
            have y2 := y1.setx (4 * m + 2) ((X.toNat : Int) / 256 % 256) (UInt8.ofNat (X.toNat / 256)) _ (by simp) rfl
            exact y2.setx (4 * m + 3) ((X.toNat : Int) % 256) (UInt8.ofNat X.toNat) _ (by simp) HST3.out
          · have hwg : w.heap.size ≤ go := by omega
            exact (((HA.out.2.2.setCell (p := ⟨go, 4 * m, none⟩) hwg _).setCell (p := ⟨go, 4 * m + 1, none⟩) hwg _).setCell (p := ⟨go, 4 * m + 2, none⟩) hwg _).setCell (p := ⟨go, 4 * m + 3, none⟩) hwg _
          · simp [intOf]; omega
        · have hme : m = 8 := by omega
          subst hme
          have hcv := hby.str 32 32 hrl
          have HDR : Hid (digRow S 8 = digL S 8) := by show _ = _; simp [digRow]
          rw [HDR.out] at hcv
          clear hby ha
          go_wp2
          go_ret
          exact ⟨by rw [HD.out]; rfl, hbel⟩
end Go.Proofs.YtmfoliocibjdnaaDoor
/-
  The walks of Hex, the program's and the specification's.
-/
namespace Go.Proofs.YtmfoliocibjdnaaDoor
open Go.RowKit
set_option linter.unusedVariables false

def hexK (s : ByteArray) (k : Nat) : List UInt8 := hexL (s.data.toList.take k)
theorem hexK_len (s : ByteArray) (k : Nat) (h : k ≤ s.size) : (hexK s k).length = 2 * k := by
  have h1 : s.data.toList.length = s.size := Array.length_toList
  have h2 : ∀ l : List UInt8, (hexL l).length = 2 * l.length := by
    intro l
    induction l with
    | nil => rfl
    | cons b l ih => rw [show hexL (b :: l) = [fig (b.toNat / 16), fig (b.toNat % 16)] ++ hexL l from rfl, List.length_append, ih]; simp; omega
  unfold hexK
  rw [h2, List.length_take]
  omega
theorem hexK_succ (s : ByteArray) (k : Nat) (h : k < s.size) : hexK s k ++ [fig (s[k].toNat / 16), fig (s[k].toNat % 16)] = hexK s (k + 1) := by
  have hg : s.data.toList[k]? = some s[k] := by simp [ByteArray.getElem_eq_getElem_data]
  unfold hexK
  rw [List.take_add_one, hg]
  simp [hexL]

theorem run_figw (y : Int) (x : Nat) (h : y = (x : Int)) (h1 : x < 16) (w : World) : (Instr.index 9 (.string ⟨#[48, 49, 50, 51, 52, 53, 54, 55, 56, 57, 97, 98, 99, 100, 101, 102]⟩) (.int .u8 (IntKind.u8.wrap y))).run Tryd.prog w = .ok (.int .u8 ((fig x).toNat : Int)) w := by
  subst h
  rw [IntWalk.u8_in _ (by omega), run_fig _ (by omega) (by omega)]
  simp

theorem run_fign (y : Int) (x : Nat) (h : y = (x : Int)) (h1 : x < 16) (w : World) : (Instr.index 9 (.string ⟨#[48, 49, 50, 51, 52, 53, 54, 55, 56, 57, 97, 98, 99, 100, 101, 102]⟩) (.int .u8 y)).run Tryd.prog w = .ok (.int .u8 ((fig x).toNat : Int)) w := by
  subst h
  rw [run_fig _ (by omega) (by omega)]
  simp

def HexRel (s : ByteArray) (w : World) (v i : Value) (wr : World) : Prop :=
  ∃ k : Nat, k ≤ s.size ∧ i = .int .i64 k ∧ OB w.heap.size w wr v (hexK s k)

theorem l01Figure_int (x : Int) (n : Nat) (w : World) (hx : x = (n : Int)) (h : n < 16) :
    Calls Tryd.prog 96 #[.int .i64 x] w fun e w' => e = .returned (.int .u8 (fig n).toNat) ∧ w' = w := by
  subst hx
  exact l01Figure_any n w h

end Go.Proofs.YtmfoliocibjdnaaDoor
/-
  The walk of the specification's Hex.
-/
namespace Go.Proofs.YtmfoliocibjdnaaDoor
open Go.RowKit
set_option linter.unusedVariables false

theorem q1 (b : Nat) (h : b < 256) : IntKind.i64.wrap ((IntKind.i64.wrap (b : Int)).tdiv 16) = ((b / 16 : Nat) : Int) := by
  rw [IntWalk.i64_in (b : Int) (by omega)]
  have e : (b : Int).tdiv 16 = ((b / 16 : Nat) : Int) := (Int.ofNat_tdiv b 16).symm
  rw [e, IntWalk.i64_in _ (by omega)]
theorem q2 (b : Nat) (h : b < 256) : (IntKind.i64.wrap (b : Int)).tmod 16 = ((b % 16 : Nat) : Int) := by
  rw [IntWalk.i64_in (b : Int) (by omega)]
  exact (Int.ofNat_tmod b 16).symm

theorem q1b (b : Nat) (h : b < 256) : 0 ≤ IntKind.i64.wrap ((IntKind.i64.wrap (b : Int)).tdiv 16) ∧ IntKind.i64.wrap ((IntKind.i64.wrap (b : Int)).tdiv 16) < 16 := by
  rw [q1 b h]
  omega
theorem q2b (b : Nat) (h : b < 256) : 0 ≤ (IntKind.i64.wrap (b : Int)).tmod 16 ∧ (IntKind.i64.wrap (b : Int)).tmod 16 < 16 := by
  rw [q2 b h]
  omega
theorem l01Figure_gen (x : Int) (w : World) (h : 0 ≤ x ∧ x < 16) :
    Calls Tryd.prog 96 #[.int .i64 x] w fun e w' => e = .returned (.int .u8 (fig x.toNat).toNat) ∧ w' = w := by
  obtain ⟨n, rfl⟩ := Int.eq_ofNat_of_zero_le h.1
  rw [Int.toNat_natCast]
  exact l01Figure_any n w (by omega)

end Go.Proofs.YtmfoliocibjdnaaDoor
/-
  Is a width right? The program's answer.
-/
namespace Go.Proofs.YtmfoliocibjdnaaDoor
open Go.RowKit Go.BigFrame
set_option linter.unusedVariables false

theorem widthOk_any (x : Int) (w : World) : Calls Tryd.prog 138 #[.int .i64 x] w fun e w' => e = .returned (.bool (decide (1 ≤ x ∧ x ≤ 32))) ∧ w' = w := by
  by_cases h1 : 1 ≤ x
  · by_cases h2 : x ≤ 32
    · go_enter Tryd.func138, Tryd.ntmps138
      go_wp2
      go_ret
      exact ⟨by simp [h1, h2], rfl⟩
    · go_enter Tryd.func138, Tryd.ntmps138
      go_wp2
      go_ret
      exact ⟨by simp [h2], rfl⟩
  · go_enter Tryd.func138, Tryd.ntmps138
    go_wp2
    go_ret
    exact ⟨by simp; omega, rfl⟩

end Go.Proofs.YtmfoliocibjdnaaDoor
/-
  What CutDigest and DigestHex answer, the program's and the specification's.
-/
namespace Go.Proofs.YtmfoliocibjdnaaDoor
open Go.RowKit Go.BigFrame
set_option linter.unusedVariables false

def cutB (d : ByteArray) (k : Nat) : ByteArray := d.extract 0 k
theorem run_head (d : ByteArray) (k : Nat) (h : k ≤ d.size) (w : World) :
    (Instr.slice 9 (.string d) none (some (.int .i64 (k : Int))) none).run Tryd.prog w = .ok (.string (cutB d k)) w := by
  rw [run_slice_string_to_if (P := Tryd.prog) (w := w) 9 d .i64 _ Tryd.underlying9, if_pos (by omega)]
  unfold cutB
  simp

theorem CutDigest_no (t : ByteArray) (x : Int) (w : World) (hx : x < 1 ∨ 32 < x) :
    Calls Tryd.prog 83 #[.string t, .int .i64 x] w fun e w' => e = .returned (.string ⟨#[]⟩) ∧ Below w.heap.size w w' := by
  have hd : decide ((1 : Int) ≤ x ∧ x ≤ 32) = false := by simp; omega
  go_enter Tryd.func83, Tryd.ntmps83
  go_wp2_with fail
  refine (widthOk_any _ _).mono ?_
  rintro e w' ⟨rfl, rfl⟩
  rw [hd]
  go_wp2
  go_ret
  exact ⟨rfl, Below.refl _ _⟩
theorem sCutDigest_no (t : ByteArray) (x : Int) (w : World) (hx : x < 1 ∨ 32 < x) :
    Calls Tryd.prog 24 #[.string t, .int .i64 x] w fun e w' => e = .returned (.string ⟨#[]⟩) ∧ Below w.heap.size w w' := by
  have hd : decide ((1 : Int) ≤ x ∧ x ≤ 32) = false := by simp; omega
  go_enter Tryd.func24, Tryd.ntmps24
  go_wp2_with fail
  refine (l01In_any _ _ _ _).mono ?_
  rintro e w' ⟨rfl, rfl⟩
  rw [hd]
  go_wp2
  go_ret
  exact ⟨rfl, Below.refl _ _⟩

theorem CutDigest_yes (t : ByteArray) (k : Nat) (w : World) (ht : t.size ≤ 1048576) (h1 : 1 ≤ k) (h2 : k ≤ 32) (hK : TabK w) (hF : TabF w) :
    Calls Tryd.prog 83 #[.string t, .int .i64 (k : Int)] w fun e w' => e = .returned (.string (cutB (digB t) k)) ∧ Below w.heap.size w w' := by
  have hz := digB_size t
  have hc := Digest_any t w ht hK hF
  clear hK hF
  generalize digB t = D at *
  have hh := run_head D k (by omega)
  have hd : decide ((1 : Int) ≤ (k : Int) ∧ (k : Int) ≤ 32) = true := by simp; omega
  go_enter Tryd.func83, Tryd.ntmps83
  go_wp2_with fail
  refine (widthOk_any _ _).mono ?_
  rintro e w0 ⟨rfl, rfl⟩
  rw [hd]
  go_wp2_with fail
  refine hc.mono ?_
  rintro e w1 ⟨rfl, hb1⟩
  clear hc
  go_wp2
  go_ret
  exact ⟨rfl, hb1⟩
theorem sCutDigest_yes (t : ByteArray) (k : Nat) (w : World) (ht : t.size ≤ 1048576) (h1 : 1 ≤ k) (h2 : k ≤ 32) :
    Calls Tryd.prog 24 #[.string t, .int .i64 (k : Int)] w fun e w' => e = .returned (.string (cutB (digB t) k)) ∧ Below w.heap.size w w' := by
  have hz := digB_size t
  have hc := sDigest_any t w ht
  generalize digB t = D at *
  have hh := run_head D k (by omega)
  have hd : decide ((1 : Int) ≤ (k : Int) ∧ (k : Int) ≤ 32) = true := by simp; omega
  go_enter Tryd.func24, Tryd.ntmps24
  go_wp2_with fail
  refine (l01In_any _ _ _ _).mono ?_
  rintro e w0 ⟨rfl, rfl⟩
  rw [hd]
  go_wp2_with fail
  refine hc.mono ?_
  rintro e w1 ⟨rfl, hb1⟩
  clear hc
  go_wp2
  go_ret
  exact ⟨rfl, hb1⟩

def hexB (d : ByteArray) : ByteArray := ⟨(hexK d d.size).toArray⟩
end Go.Proofs.YtmfoliocibjdnaaDoor
