/-
  Texts laid together: Hash, Draw.
-/
import Derived.Test.YtkgibgadngeddabDoorPkEST2
import Derived.Test.YtkgibgadngeddabDoorPkEST12
import Derived.Test.YtkgibgadngeddabDoorPkEST0
import Derived.Deep.QuietTactic
import Derived.BigQuiet
import Derived.Maps.AppendAt
/-
  What TagHash and IndexOf answer, the program's and the specification's.
-/
namespace Go.Proofs.YtkgibgadngeddabDoor
open Go.RowKit Go.BigFrame
set_option linter.unusedVariables false

/-- CutDigest -/
def cutH (t : ByteArray) (x : Int) : ByteArray := if 1 ≤ x ∧ x ≤ 32 then cutB (digB t) x.toNat else ⟨#[]⟩
theorem CutDigest_any (t : ByteArray) (x : Int) (w : World) (ht : t.size ≤ 1048576) (hK : TabK w) (hF : TabF w) :
    Calls Tryd.prog 25 #[.string t, .int .i64 x] w fun e w' => e = .returned (.string (cutH t x)) ∧ Below w.heap.size w w' := by
  unfold cutH
  by_cases h : 1 ≤ x ∧ x ≤ 32
  · rw [if_pos h]
    obtain ⟨k, rfl⟩ := Int.eq_ofNat_of_zero_le (show 0 ≤ x by omega)
    exact CutDigest_yes t k w ht (by omega) (by omega) hK hF
  · rw [if_neg h]
    exact CutDigest_no t x w (by omega)
theorem sCutDigest_any (t : ByteArray) (x : Int) (w : World) (ht : t.size ≤ 1048576) :
    Calls Tryd.prog 19 #[.string t, .int .i64 x] w fun e w' => e = .returned (.string (cutH t x)) ∧ Below w.heap.size w w' := by
  unfold cutH
  by_cases h : 1 ≤ x ∧ x ≤ 32
  · rw [if_pos h]
    obtain ⟨k, rfl⟩ := Int.eq_ofNat_of_zero_le (show 0 ≤ x by omega)
    exact sCutDigest_yes t k w ht (by omega) (by omega)
  · rw [if_neg h]
    exact sCutDigest_no t x w (by omega)

theorem tagB_size (k : Int) (l : List ByteArray) : (tagB k l).size ≤ 12601 := by
  cases h : tagOk k l with
  | false =>
    rw [tagB_no h]
    show 0 ≤ 12601
    omega
  | true =>
    unfold tagB
    rw [h]
    unfold tagOk at h
    rw [Bool.and_eq_true, decide_eq_true_eq, List.all_eq_true] at h
    obtain ⟨⟨_, h2⟩, h3⟩ := h
    have h4 := tagL_len k.toNat l l.length (Nat.le_refl _) (fun j hj _ => by simpa using h3 l[j] (List.getElem_mem _))
    rw [List.take_length] at h4
    simp only [if_true, ByteArray.size, List.size_toArray]
    omega

/-- what TagHash is -/
def hashB (k : Int) (l : List ByteArray) (x : Int) : ByteArray := if tagOk k l then cutH (tagB k l) x else ⟨#[]⟩

theorem taggedHash_any (x k : Int) (v : Value) (g o : Nat) (l : List ByteArray) (w : World) (hv : SS w v g o l) (hK : TabK w) (hF : TabF w) :
    Calls Tryd.prog 35 #[.int .i64 x, .int .i64 k, v] w fun e w' => e = .returned (.string (hashB k l x)) ∧ Below w.heap.size w w' := by
  have hc := tagged_any k v g o l w hv
  have hz := tagB_size k l
  have hkp := hK.pos
  have hfp := hF.pos
  obtain ⟨a, cap, rfl, _⟩ := hv
  unfold hashB
  generalize tagB k l = T at *
  cases hR : tagOk k l with
  | false =>
    rw [hR] at hc
    simp only [Bool.false_eq_true, if_false]
    clear hK hF
    go_enter Tryd.func35, Tryd.ntmps35
    go_wp2_with fail
    refine hc.mono ?_
    rintro e w1 ⟨rfl, hb1⟩
    go_wp2
    go_ret
    exact ⟨rfl, hb1⟩
  | true =>
    rw [hR] at hc
    simp only [if_true]
    have HC : Hid (∀ w1, Below w.heap.size w w1 → Calls Tryd.prog 25 #[.string T, .int .i64 x] w1 fun e w' => e = .returned (.string (cutH T x)) ∧ Below w1.heap.size w1 w') := fun w1 hb => CutDigest_any T x w1 (by omega) (hK.later hb hkp) (hF.later hb hfp)
    generalize cutH T x = D at *
    clear hK hF
    go_enter Tryd.func35, Tryd.ntmps35
    go_wp2_with fail
    refine hc.mono ?_
    rintro e w1 ⟨rfl, hb1⟩
    clear hc
    go_wp2_with fail
    refine (HC.out _ hb1).mono ?_
    rintro e w2 ⟨rfl, hb2⟩
    go_wp2
    go_ret
    exact ⟨rfl, hb1.trans (hb2.mono hb1.size)⟩

theorem sTagHash_any (k : Int) (v : Value) (x : Int) (g o : Nat) (l : List ByteArray) (w : World) (hv : SS w v g o l) :
    Calls Tryd.prog 29 #[.int .i64 k, v, .int .i64 x] w fun e w' => e = .returned (.string (hashB k l x)) ∧ Below w.heap.size w w' := by
  have hc := sTagText_any k v g o l w hv
  have hz := tagB_size k l
  obtain ⟨a, cap, rfl, _⟩ := hv
  unfold hashB
  generalize tagB k l = T at *
  cases hR : tagOk k l with
  | false =>
    rw [hR] at hc
    simp only [Bool.false_eq_true, if_false]
    go_enter Tryd.func29, Tryd.ntmps29
    go_wp2_with fail
    refine hc.mono ?_
    rintro e w1 ⟨rfl, hb1⟩
    go_wp2
    go_ret
    exact ⟨rfl, hb1⟩
  | true =>
    rw [hR] at hc
    simp only [if_true]
    have HC : Hid (∀ w1, Calls Tryd.prog 19 #[.string T, .int .i64 x] w1 fun e w' => e = .returned (.string (cutH T x)) ∧ Below w1.heap.size w1 w') := fun w1 => sCutDigest_any T x w1 (by omega)
    generalize cutH T x = D at *
    go_enter Tryd.func29, Tryd.ntmps29
    go_wp2_with fail
    refine hc.mono ?_
    rintro e w1 ⟨rfl, hb1⟩
    clear hc
    go_wp2_with fail
    refine (HC.out _).mono ?_
    rintro e w2 ⟨rfl, hb2⟩
    go_wp2
    go_ret
    exact ⟨rfl, hb1.trans (hb2.mono hb1.size)⟩

/-- the first byte of a text -/
def byte0 (d : ByteArray) : UInt8 := d.data.toList.getD 0 0
theorem run_byte0 (d : ByteArray) (h : 0 < d.size) (w : World) : (Instr.index 9 (.string d) (.int .i64 0)).run Tryd.prog w = .ok (.int .u8 ((byte0 d).toNat : Int)) w := by
  rw [run_index_string (P := Tryd.prog) (w := w) 9 d .i64 _ Tryd.underlying9, dif_pos ⟨by omega, by omega⟩]
  have e : byte0 d = d[0] := by
    unfold byte0
    rw [ByteArray.getElem_eq_getElem_data, List.getD_eq_getElem?_getD, List.getElem?_eq_getElem (by simpa using h)]
    simp
  rw [e]
  rfl

end Go.Proofs.YtkgibgadngeddabDoor
/-
  What the specification's cursor over drawn bytes gives: some byte, some number below a bound, some text.
-/
namespace Go.Proofs.YtkgibgadngeddabDoor
open Go.RowKit
set_option linter.unusedVariables false

/-- the bytes of a draw: a slice whose cells hold bytes, in blocks below B -/
def Code (B : Nat) (w : World) (v : Value) : Prop :=
  ∃ (ao : Option Addr) (b off len cap : Nat), v = .slice ao len cap ∧ len ≤ 1048576 ∧ (0 < len → ao = some ⟨b, off, none⟩ ∧ b < B) ∧ ∀ j, j < len → ∃ n : Nat, n ≤ 255 ∧ w.cell? ⟨b, off + j, none⟩ = some (.int .u8 (n : Int))

theorem and255 (X : Int) : ∃ n : Nat, n ≤ 255 ∧ bits .and .i64 X 255 = (n : Int) := by
  have h255 : (BitVec.ofInt 64 255).toNat = 255 := by decide
  have hle : (BitVec.ofInt 64 X &&& BitVec.ofInt 64 255).toNat ≤ 255 := by
    rw [BitVec.toNat_and, h255]
    exact Nat.and_le_right
  refine ⟨(BitVec.ofInt 64 X &&& BitVec.ofInt 64 255).toNat, hle, ?_⟩
  have e : bits .and .i64 X 255 = IntKind.i64.wrap ((BitVec.ofInt 64 X &&& BitVec.ofInt 64 255).toNat : Int) := rfl
  rw [e, IntWalk.i64_in _ (by omega)]

theorem grown_set (w : World) (g j : Nat) (u : Value) : w.grownBy (w.setCell ⟨g, j, none⟩ u) (some g) :=
  ⟨rfl, rfl, rfl, by simp, fun k _ hk => heap_setCell_other w ⟨g, j, none⟩ k u (fun e => hk (by simp [e]))⟩
theorem grown_drn {a w : World} {row : Option Nat} (h : a.grownBy w row) (n : Nat) : a.grownBy (w.drewN n) row := ⟨h.os, h.tape, h.output, h.size, h.block⟩

end Go.Proofs.YtkgibgadngeddabDoor
