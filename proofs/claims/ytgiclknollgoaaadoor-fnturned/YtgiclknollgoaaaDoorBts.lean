/-
  '[]byte(t)', one byte of it turned, and a string of that again.
-/
import Derived.Test.YtgiclknollgoaaaDoorTurn
import Derived.Lib.ConvBytes
namespace Go.Proofs.YtgiclknollgoaaaDoor
open Go.RowKit
set_option linter.unusedVariables false

/-- what '[]byte(t)' leaves: the bytes in a new block, which may be written -/
theorem run_bytes (t : ByteArray) (w : World) : ∃ (w' : World) (cap : Nat), (convert 9 22 (.string t)).run Tryd.prog w = .ok (.slice (some ⟨w.heap.size, 0, none⟩) t.size cap) w' ∧ Below w.heap.size w w' ∧ w'.heap.size = w.heap.size + 1 ∧
    ∀ j (h : j < t.data.toList.length), w'.cell? ⟨w.heap.size, j, none⟩ = some (.int .u8 (t.data.toList[j].toNat : Int)) ∧ w'.frozen? ⟨w.heap.size, j, none⟩ = false := by
  refine ⟨Lib.bytesWorld w 5 t, _, Lib.run_convert_string_bytes w 9 22 5 t Tryd.underlying9 Tryd.underlying22 Tryd.underlying5, ⟨?_, ?_, ?_, ?_, ?_⟩, Lib.bytesWorld_size w 5 t, ?_⟩
  · simp [Lib.bytesWorld, World.freeze, World.alloc, World.drew, -World.alloc_eq, -World.drew_eq]
  · simp [Lib.bytesWorld, World.freeze, World.alloc, World.drew, -World.alloc_eq, -World.drew_eq]
  · simp [Lib.bytesWorld, World.freeze, World.alloc, World.drew, -World.alloc_eq, -World.drew_eq]
  · rw [Lib.bytesWorld_size]; omega
  · intro b hb
    exact Lib.bytesWorld_at_old w 5 t b hb
  · intro j hj
    have h1 : t.data.toList.length = t.size := Array.length_toList
    constructor
    · rw [Lib.bytesWorld_cell w 5 t j (by omega)]
      simp [List.getD, List.getElem?_eq_getElem hj]
    · have hc : j < (Lib.bytesCells w 5 t).size := by
        unfold Lib.bytesCells
        simp
        have : t.data.size = t.size := rfl
        omega
      simp [World.frozen?, Lib.bytesWorld_at_new]
      omega

/-- the bytes of a block, with another one at i -/
theorem turned_cells (l : List UInt8) (i : Nat) (c : UInt8) (w' : World) (g : Nat) (hc : ∀ j (h : j < l.length), w'.cell? ⟨g, j, none⟩ = some (.int .u8 (l[j].toNat : Int)) ∧ w'.frozen? ⟨g, j, none⟩ = false) :
    ∀ j (h : j < (l.set i c).length), (w'.setCell ⟨g, i, none⟩ (.int .u8 (c.toNat : Int))).cell? ⟨g, j, none⟩ = some (.int .u8 ((l.set i c)[j].toNat : Int)) := by
  intro j hj
  have hl : (l.set i c).length = l.length := by simp
  have hj' : j < l.length := by rw [hl] at hj; exact hj
  by_cases he : j = i
  · subst he
    rw [World.cell?_setCell_same _ _ _ (hc j hj').1]
    simp
  · rw [World.cell?_setCell_other _ _ _ _ (by simp), (hc j hj').1]
    simp [List.getElem_set_ne (Ne.symm he)]

/-- the string of bytes that lie in a block -/
theorem run_back (l : List UInt8) (w : World) (g cap n : Nat) (hn : n = l.length) (hc : ∀ j (h : j < l.length), w.cell? ⟨g, j, none⟩ = some (.int .u8 (l[j].toNat : Int))) :
    (convert 22 9 (.slice (some ⟨g, 0, none⟩) n cap)).run Tryd.prog w = .ok (.string ⟨l.toArray⟩) w := by
  subst hn
  refine run_convert_bytes_back (P := Tryd.prog) _ 22 9 5 ⟨g, 0, none⟩ cap l Tryd.underlying22 Tryd.underlying5 Tryd.underlying9 ?_
  intro j hj
  have ea : (⟨g, 0, none⟩ : Addr).add j = ⟨g, j, none⟩ := by
    unfold Addr.add
    split <;> simp_all
  rw [ea]
  exact hc j hj

theorem Tab.drewN {w : World} (h : Tab w) (n : Nat) : Tab (w.drewN n) := fun i hi => h i hi

theorem xor_other (b d : Nat) (hb : b < 256) (h0 : 0 < d) (hd : d < 256) : b ^^^ d ≠ b := by
  intro h
  have h1 : b ^^^ d = b ^^^ 0 := by rw [h, Nat.xor_zero]
  have := S.xor_cancel_l h1
  omega
theorem turn_byte (b : UInt8) (d : Nat) (h0 : 0 < d) (hd : d < 256) : ∃ c : UInt8, bits .xor .u8 (b.toNat : Int) (d : Int) = (c.toNat : Int) ∧ b ≠ c := by
  have hb := b.toNat_lt
  have hx : b.toNat ^^^ d < 256 := Nat.xor_lt_two_pow (n := 8) (by omega) (by omega)
  refine ⟨UInt8.ofNat (b.toNat ^^^ d), ?_, ?_⟩
  · rw [u8_xor_nat _ _ (by omega) hd]
    have : (UInt8.ofNat (b.toNat ^^^ d)).toNat = b.toNat ^^^ d := UInt8.toNat_ofNat_of_lt hx
    rw [this]
  · intro h
    have h1 := congrArg UInt8.toNat h
    have : (UInt8.ofNat (b.toNat ^^^ d)).toNat = b.toNat ^^^ d := UInt8.toNat_ofNat_of_lt hx
    rw [this] at h1
    exact xor_other b.toNat d (by omega) h0 hd h1.symm

end Go.Proofs.YtgiclknollgoaaaDoor
