/-
  The law FnTurned, walked.
-/
import Derived.Test.YtgiclknollgoaaaDoorPlaces
import Derived.Test.YtgiclknollgoaaaDoorBts
namespace Go.Proofs.YtgiclknollgoaaaDoor
open Go.RowKit
set_option linter.unusedVariables false

theorem code_later {w w' : World} {v : Value} (h : Code w.heap.size w v) (hb : Below w.heap.size w w') : Code w'.heap.size w' v := by
  obtain ⟨ao, b, off, len, cap, rfl, hl, h1, h2⟩ := h
  refine ⟨ao, b, off, len, cap, rfl, hl, fun h0 => ⟨(h1 h0).1, Nat.lt_of_lt_of_le (h1 h0).2 hb.size⟩, fun j hj => ?_⟩
  obtain ⟨n, hn, hc⟩ := h2 j hj
  exact ⟨n, hn, (hb.cell (p := ⟨b, off + j, none⟩) (h1 (by omega)).2).trans hc⟩

def xB : ByteArray := ⟨#[120]⟩
theorem moreX (s : ByteArray) (X : Nat) (w : World) (hX : Hid (sumN (s ++ xB) = X)) (hT : Tab w) :
    Calls Tryd.prog 13 #[.int .u32 ((sumN s : Nat) : Int), .string xB] w fun e w' => e = .returned (.int .u32 (X : Int)) ∧ w' = w := by
  have h1 : xB.size ≤ 1048576 := by show 1 ≤ 1048576; omega
  have e : S.crc (sumN s) xB.data.toList = X := by
    rw [← hX.out]
    unfold sumN
    rw [crc_on]
    congr 1
  have h := SumMore_any xB (sumN s) w h1 (sumN_lt s) hT
  rw [e] at h
  exact h
theorem ofX (s : ByteArray) (X : Nat) (w : World) (hs : s.size ≤ 1000) (hX : Hid (sumN (s ++ xB) = X)) (hT : Tab w) :
    Calls Tryd.prog 14 #[.string (s ++ xB)] w fun e w' => e = .returned (.int .u32 (X : Int)) ∧ w' = w := by
  have h1 : (s ++ xB).size ≤ 1048576 := by
    rw [ByteArray.size_append]
    have : xB.size = 1 := rfl
    omega
  have h := SumOf_any (s ++ xB) w h1 hT
  rw [hX.out] at h
  exact h

set_option maxRecDepth 100000 in
set_option maxHeartbeats 1000000 in
theorem law_any (ao : Option Addr) (len cap : Nat) (w : World) (hc : Code w.heap.size w (.slice ao len cap)) (hT : Tab w) :
    Calls Tryd.prog 3 #[.slice ao len cap] w fun e w' => e = .returned (.bool true) ∧ Below w.heap.size w w' := by
  have hlen : len ≤ 1048576 := by obtain ⟨_, _, _, _, _, he, hl, _⟩ := hc; cases he; exact hl
  have HC : Hid (Code w.heap.size w (.slice ao len cap)) := hc
  have HT : Hid (Tab w) := hT
  have hp := hT.pos
  clear hc hT
  go_enter Tryd.func3, Tryd.ntmps3
  go_wp2_with fail
  refine (big_no ao len cap _ hlen).mono ?_
  rintro e w1 ⟨rfl, rfl⟩
  go_wp2_with fail
  refine (DrawSumOf_any _ _ HC.out).mono ?_
  rintro e w2 ⟨l, hl, rfl, hb2⟩
  obtain ⟨s, hs⟩ : ∃ s : ByteArray, s = ⟨l.toArray⟩ := ⟨_, rfl⟩
  have hsz : s.size < 40 := by subst hs; exact hl
  rw [← hs]
  have hcode2 := code_later HC.out hb2
  have HC2 : Hid (Code w2.heap.size w2 (.slice ao len cap)) := hcode2
  clear hcode2 hs hl
  go_wp2_with fail
  refine (DrawPlaces_any _ _ HC2.out).mono ?_
  rintro e w3 ⟨u, rfl, hpl, hb3⟩
  obtain ⟨g, pc, xs, rfl, hxl, hxs, hg1, hg2, hcells⟩ := hpl
  have x0 := hcells 0 (by omega)
  have x1 := hcells 1 (by omega)
  have y0 : xs[0] < 10000 := hxs _ (List.getElem_mem _)
  have y1 : xs[1] < 10000 := hxs _ (List.getElem_mem _)
  generalize xs[0] = p0 at *
  generalize xs[1] = p1 at *
  have hT3 : Tab w3 := HT.out.later (hb2.trans (hb3.mono hb2.size)) hp
  have hp3 := hT3.pos
  clear hcells hxs
  go_wp2_with fail
  refine (Sealed_yes s _ (by omega) hT3).mono ?_
  rintro e w4 ⟨rfl, hb4⟩
  have hT4 : Tab w4 := hT3.later hb4 hp3
  have hp4 := hT4.pos
  have hz := sealedB_size s
  have HH := sealedB_head s
  have HE : Hid (fourB (sumN (headB (sealedB s))) = tailB (sealedB s)) := by
    show _ = _
    rw [sealedB_head, sealedB_tail]
  go_wp2_with fail
  refine (Unsealed_yes (sealedB s) _ (by omega) (by omega) hT4 HE.out).mono ?_
  rintro e w5 ⟨rfl, hb5⟩
  rw [HH]
  have hT5 : Tab w5 := hT4.later hb5 hp4
  have hp5 := hT5.pos
  have z0 : w5.cell? ⟨g, 0, none⟩ = some (.int .i64 (p0 : Int)) := (hb5.cell (p := ⟨g, 0, none⟩) (Nat.lt_of_lt_of_le hg2 hb4.size)).trans ((hb4.cell (p := ⟨g, 0, none⟩) hg2).trans x0)
  have z1 : w5.cell? ⟨g, 1, none⟩ = some (.int .i64 (p1 : Int)) := (hb5.cell (p := ⟨g, 1, none⟩) (Nat.lt_of_lt_of_le hg2 hb4.size)).trans ((hb4.cell (p := ⟨g, 1, none⟩) hg2).trans x1)
  clear x0 x1
  obtain ⟨w6, bc, hcv, hb6, hs6, hby⟩ := run_bytes (sealedB s) w5
  have hg5 : g < w5.heap.size := Nat.lt_of_lt_of_le hg2 (Nat.le_trans hb4.size hb5.size)
  have k0 : w6.cell? ⟨g, 0, none⟩ = some (.int .i64 (p0 : Int)) := (hb6.cell (p := ⟨g, 0, none⟩) hg5).trans z0
  have k1 : w6.cell? ⟨g, 1, none⟩ = some (.int .i64 (p1 : Int)) := (hb6.cell (p := ⟨g, 1, none⟩) hg5).trans z1
  have hll : (sealedB s).data.toList.length = s.size + 4 := by rw [Array.length_toList]; exact hz
  obtain ⟨i, hi⟩ : ∃ i, p0 % (s.size + 4) = i := ⟨_, rfl⟩
  have hilt : i < s.size + 4 := by rw [← hi]; exact Nat.mod_lt _ (by omega)
  have hiI : (p0 : Int) % ((s.size : Int) + 4) = (i : Int) := by rw [← hi]; simp
  have hbi := hby i (by omega)
  obtain ⟨cb, ff⟩ := hbi
  obtain ⟨c, hcx, hcn⟩ := turn_byte ((sealedB s).data.toList[i]'(by omega)) (1 + p1 % 255) (by omega) (by omega)
  generalize hB : (sealedB s).data.toList[i]'(by omega) = bi at *
  have hd : (((1 + p1 % 255 : Nat)) : Int) = 1 + (p1 : Int) % 255 := by simp
  rw [hd] at hcx
  have hbl : bi.toNat < 256 := bi.toNat_lt
  have hi0 : (0 : Int) ≤ (i : Int) := by omega
  have hi1 : (i : Int) < ((s.size + 4 : Nat) : Int) := by omega
  have hIL : i < (s.data.toList ++ four (sumN s)).length := by rw [← sealedB_list]; omega
  have hBI : (s.data.toList ++ four (sumN s))[i] = bi := by
    have e := sealedB_list s
    rw [← hB]
    congr 1
  have HNO : Hid (¬ fourB (sumN (headB (turnB s i c))) = tailB (turnB s i c)) := turnB_no s i c hIL (by rw [hBI]; exact hcn)
  have HY : Hid (∀ j (h : j < (turnB s i c).data.toList.length), (w6.setCell ⟨w5.heap.size, i, none⟩ (.int .u8 (c.toNat : Int))).drew.cell? ⟨w5.heap.size, j, none⟩ = some (.int .u8 ((turnB s i c).data.toList[j].toNat : Int))) := by
    have h1 := turned_cells (sealedB s).data.toList i c w6 w5.heap.size hby
    have e : (turnB s i c).data.toList = (sealedB s).data.toList.set i c := by rw [turnB_list, sealedB_list]
    intro j hj
    have h2 := h1 j (by rw [← e]; exact hj)
    refine Eq.trans h2 ?_
    congr 4
  have HB7 : Hid (Below w5.heap.size w5 (w6.setCell ⟨w5.heap.size, i, none⟩ (.int .u8 (c.toNat : Int))).drew) := (hb6.setCell (p := ⟨w5.heap.size, i, none⟩) (Nat.le_refl _) _).drew
  clear hby hBI hIL hB hcn hb6
  go_wp2
  rw [hiI]
  go_region
  have hc7 := HY.out
  have hb7 := HB7.out
  generalize (w6.setCell ⟨w5.heap.size, i, none⟩ (.int .u8 (c.toNat : Int))).drew = w7 at *
  have hT7 : Tab w7 := hT5.later hb7 hp5
  have hcv7 := run_back (turnB s i c).data.toList w7 w5.heap.size bc (s.size + 4) (by rw [Array.length_toList]; exact (turnB_size s i c).symm) hc7
  have hz7 := turnB_size s i c
  have HN : Hid (¬ fourB (sumN (headB (turnB s i c))) = tailB (turnB s i c)) := HNO.out
  clear hc7
  go_wp2_with fail
  refine (Unsealed_no (turnB s i c) _ (by omega) (by omega) hT7 HN.out).mono ?_
  rintro e w8 ⟨rfl, hb8⟩
  have hT8 : Tab w8 := hT7.later hb8 hT7.pos
  go_wp2_with fail
  refine (SumOf_any s _ (by omega) hT8).mono ?_
  rintro e w9 ⟨rfl, rfl⟩
  go_wp2_with fail
  obtain ⟨X, hX⟩ : ∃ X, sumN (s ++ xB) = X := ⟨_, rfl⟩
  have HX : Hid (sumN (s ++ xB) = X) := hX
  clear hX
  refine (moreX s X _ HX hT8).mono ?_
  rintro e w10 ⟨rfl, rfl⟩
  go_wp2_with fail
  refine (ofX s X _ (by omega) HX hT8).mono ?_
  rintro e w11 ⟨rfl, rfl⟩
  go_wp2
  go_ret
  have b3 := hb2.trans (hb3.mono hb2.size)
  have b4 := b3.trans (hb4.mono b3.size)
  have b5 := b4.trans (hb5.mono b4.size)
  have b7 := b5.trans (hb7.mono b5.size)
  exact ⟨rfl, b7.trans (hb8.mono b7.size)⟩

end Go.Proofs.YtgiclknollgoaaaDoor
