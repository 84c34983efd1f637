/-
  Texts laid together: Cln, Rsg.
-/
import Derived.Test.YtkgibgadngeddabDoorPkEST0
import Derived.Test.YtkgibgadngeddabDoorPkEST25
import Derived.Test.YtkgibgadngeddabDoorPkEST21
import Derived.Test.YtkgibgadngeddabDoorPkEST19
import Derived.Laws.DeepStrings4
/-
  A text is cloned.
-/
namespace Go.Proofs.YtkgibgadngeddabDoor
open Go.RowKit
set_option linter.unusedVariables false

end Go.Proofs.YtkgibgadngeddabDoor
/-
  What ReadSig answers, the program's and the specification's.
-/
namespace Go.Proofs.YtkgibgadngeddabDoor
open Go.RowKit Go.BigFrame
set_option linter.unusedVariables false

/-- n keys from place b on -/
def cutL (t : ByteArray) (b n : Nat) : List ByteArray := (List.range n).map fun i => t.extract (b + i * 16) (b + (i + 1) * 16)
theorem cutL_len (t : ByteArray) (b n : Nat) : (cutL t b n).length = n := by simp [cutL]
theorem cutL_at (t : ByteArray) (b n i : Nat) (h : i < (cutL t b n).length) : (cutL t b n)[i] = t.extract (b + i * 16) (b + (i + 1) * 16) := by simp [cutL]
theorem cutL_tail (t : ByteArray) (k b n : Nat) (h : k + b + n * 16 ≤ t.size) : cutL (t.extract k t.size) b n = cutL t (k + b) n := by
  unfold cutL
  apply List.map_congr_left
  intro i hi
  have hi' : i < n := by simpa using hi
  rw [ByteArray.extract_extract]
  have e1 : k + (b + i * 16) = k + b + i * 16 := by omega
  have e2 : min (k + (b + (i + 1) * 16)) t.size = k + b + (i + 1) * 16 := by
    have : (i + 1) * 16 ≤ n * 16 := Nat.mul_le_mul_right _ hi'
    omega
  rw [e1, e2]
theorem tail_tail (t : ByteArray) (k b : Nat) (h : k ≤ t.size) : (t.extract k t.size).extract b (t.extract k t.size).size = t.extract (k + b) t.size := by
  rw [ByteArray.extract_extract, ByteArray.size_extract]
  congr 1
  omega
theorem cutL_wide (t : ByteArray) (b n : Nat) (h : b + n * 16 ≤ t.size) : kwB (cutL t b n) = true := by
  refine kwB_yes _ fun j hj => ?_
  rw [cutL_at, ByteArray.size_extract]
  rw [cutL_len] at hj
  have : (j + 1) * 16 ≤ n * 16 := Nat.mul_le_mul_right _ hj
  omega

def CkR (t : ByteArray) (n : Nat) (w : World) (g : Nat) (i : Value) (wr : World) : Prop := ∃ m : Nat, m ≤ n ∧ i = .int .i64 m ∧ TB wr g (srow (cutL t 0 n) m) ∧ Below w.heap.size w wr

def LcR (t : ByteArray) (b n : Nat) (w : World) (v i : Value) (wr : World) : Prop := ∃ m : Nat, m ≤ n ∧ i = .int .i64 m ∧ OS w.heap.size w wr v ((cutL t b n).take m)

/-- the first byte of a text -/
def b0 (d : ByteArray) : UInt8 := d.data.toList.getD 0 0
theorem run_b0 (d : ByteArray) (h : 0 < d.size) (w : World) : (Instr.index 9 (.string d) (.int .i64 0)).run Tryd.prog w = .ok (.int .u8 ((b0 d).toNat : Int)) w := by
  rw [run_index_string (P := Tryd.prog) (w := w) 9 d .i64 _ Tryd.underlying9, dif_pos ⟨by omega, by omega⟩]
  have e : b0 d = d[0] := by
    unfold b0
    rw [ByteArray.getElem_eq_getElem_data, List.getD_eq_getElem?_getD, List.getElem?_eq_getElem (by simpa using h)]
    simp
  rw [e]
  rfl

/-- a signature whose lists are new, each with memory of its own -/
def SigIn (w : World) (B : Nat) (v : Value) (a : Int) (o s d : List ByteArray) : Prop :=
  ∃ v1 v2 v3 g1 g2 g3, v = .agg #[.int .i64 a, v1, v2, v3] ∧ (TS w v1 g1 o ∧ TS w v2 g2 s ∧ TS w v3 g3 d) ∧ (B ≤ g1 ∧ B ≤ g2 ∧ B ≤ g3) ∧ (g1 ≠ g2 ∧ g1 ≠ g3 ∧ g2 ≠ g3)
theorem SigIn.zero (w : World) (B : Nat) : SigIn w B (.agg #[.int .i64 0, .slice none 0 0, .slice none 0 0, .slice none 0 0]) 0 [] [] [] :=
  ⟨_, _, _, B, B + 1, B + 2, rfl, ⟨TS.nil w _, TS.nil w _, TS.nil w _⟩, ⟨by omega, by omega, by omega⟩, ⟨by omega, by omega, by omega⟩⟩

def rsOk (t : ByteArray) : Bool := decide (t.size = 321 ∧ (b0 t).toNat ≤ 15)
def rsA (t : ByteArray) : Int := if rsOk t then ((b0 t).toNat : Int) else 0
def rsO (t : ByteArray) : List ByteArray := if rsOk t then cutL t 1 8 else []
def rsS (t : ByteArray) : List ByteArray := if rsOk t then cutL t 129 8 else []
def rsD (t : ByteArray) : List ByteArray := if rsOk t then cutL t 257 4 else []

theorem grown_setRow (w : World) (g : Nat) (R : Array Value) : w.grownBy (w.setRow g R) (some g) :=
  ⟨rfl, rfl, rfl, by simp [World.setRow], fun k _ hk => setRow_other w g k R (fun e => hk (by simp [e]))⟩

def zSig : Array Value := #[.int .i64 0, .slice none 0 0, .slice none 0 0, .slice none 0 0]

end Go.Proofs.YtkgibgadngeddabDoor
