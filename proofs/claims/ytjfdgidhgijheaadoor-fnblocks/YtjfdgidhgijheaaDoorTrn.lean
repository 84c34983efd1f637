/-
  A drawn text, and the same with one byte turned.
-/
import Derived.Test.YtjfdgidhgijheaaDoorPlaces
import Derived.Test.YtjfdgidhgijheaaDoorDrawc
import Derived.Test.YtjfdgidhgijheaaDoorPadi
import Derived.Lib.ConvBytes
namespace Go.Proofs.YtjfdgidhgijheaaDoor
open Go.RowKit
set_option linter.unusedVariables false

def someL : List Int := [0, 1, 3, 9, 54, 55, 56, 63, 64, 65, 119, 120, 200]
def someCells : Array Value := #[.int .i64 0, .int .i64 1, .int .i64 3, .int .i64 9, .int .i64 54, .int .i64 55, .int .i64 56, .int .i64 63, .int .i64 64, .int .i64 65, .int .i64 119, .int .i64 120, .int .i64 200]
theorem someL_in (y : Int) (h : y ∈ someL) : 0 ≤ y ∧ y ≤ 200 := by
  simp [someL] at h
  omega
theorem some_at (w : World) : Hid (∀ j, (h : j < someL.length) → (w.alloc (.cells someCells 3)).cell? ⟨w.heap.size, j, none⟩ = some (.int .i64 someL[j])) := by
  intro j hj
  rw [World.cell?_alloc_at _ _ _ _ rfl]
  have : j = 0 ∨ j = 1 ∨ j = 2 ∨ j = 3 ∨ j = 4 ∨ j = 5 ∨ j = 6 ∨ j = 7 ∨ j = 8 ∨ j = 9 ∨ j = 10 ∨ j = 11 ∨ j = 12 := by simp [someL] at hj; omega
  rcases this with rfl | rfl | rfl | rfl | rfl | rfl | rfl | rfl | rfl | rfl | rfl | rfl | rfl <;> rfl

set_option maxRecDepth 100000 in
set_option maxHeartbeats 1000000 in
theorem l03Some_in (B : Nat) (w0 w : World) (g : Nat) (v : Value) (hc1 : Cur B w0 w g v) :
    Calls Tryd.prog 15 #[.pointer (some ⟨g, 0, none⟩)] w fun e w' => ∃ l : List UInt8, l.length ≤ 200 ∧ e = .returned (.string ⟨l.toArray⟩) ∧ Cur B w0 w' g v ∧ w.grownBy w' (some g) := by
  have hca : Cur B w0 (w.alloc (.cells someCells 3)) g v := hc1.kept (World.grownBy_alloc w _ none) (by simp) hc1.size (fun k hk => by cases hk)
  have hga : w.grownBy (w.alloc (.cells someCells 3)) (some g) := World.grownBy_alloc w _ (some g)
  have hgl := hc1.lt
  have hcell := some_at w
  have cP := l01PickInt_in B w0 (w.alloc (.cells someCells 3)) g v w.heap.size 13 someL hca (by decide) (by decide) (by omega) (by simp) hcell
  have CP : Hid (Calls Tryd.prog 23 #[.pointer (some ⟨g, 0, none⟩), .slice (some ⟨w.heap.size, 0, none⟩) 13 13] (w.alloc (.cells someCells 3)) fun e w' => ∃ y : Int, y ∈ someL ∧ e = .returned (.int .i64 y) ∧ Cur B w0 w' g v ∧ (w.alloc (.cells someCells 3)).grownBy w' (some g)) := cP
  clear cP hcell
  go_enter Tryd.func15, Tryd.ntmps15
  go_wp2_with fail
  refine CP.out.mono ?_
  rintro e w2 ⟨y, hy, rfl, hc2, hg2⟩
  have hy2 := someL_in y hy
  obtain ⟨n, rfl⟩ := Int.eq_ofNat_of_zero_le hy2.1
  go_wp2_with fail
  refine (l01Text_in B w0 _ g v _ n rfl hc2 (by omega)).mono ?_
  rintro e w3 ⟨l, hl, rfl, hc3, hg3⟩
  go_wp2
  go_ret
  exact ⟨l, by omega, rfl, hc3, (hga.trans hg2).trans hg3⟩

theorem DrawTextOf_any (w : World) (v : Value) (hc : Code w.heap.size w v) :
    Calls Tryd.prog 5 #[v] w fun e w' => ∃ l : List UInt8, l.length ≤ 200 ∧ e = .returned (.string ⟨l.toArray⟩) ∧ Below w.heap.size w w' := by
  have HC : Hid (Code w.heap.size w v) := hc
  clear hc
  go_enter Tryd.func5, Tryd.ntmps5
  go_wp2_with fail
  refine (l01New_in w v HC.out).mono ?_
  rintro e w1 ⟨g, rfl, hc1, hb1⟩
  go_wp2_with fail
  refine (l03Some_in w.heap.size w _ g v hc1).mono ?_
  rintro e w2 ⟨l, hl, rfl, hc2, hg2⟩
  go_wp2
  go_ret
  exact ⟨l, hl, rfl, hc2.2.1⟩

theorem code_later {w w' : World} {v : Value} (h : Code w.heap.size w v) (hb : Below w.heap.size w w') : Code w'.heap.size w' v := by
  obtain ⟨ao, b, off, len, cap, rfl, hl, h1, h2⟩ := h
  refine ⟨ao, b, off, len, cap, rfl, hl, fun h0 => ⟨(h1 h0).1, Nat.lt_of_lt_of_le (h1 h0).2 hb.size⟩, fun j hj => ?_⟩
  obtain ⟨n, hn, hc⟩ := h2 j hj
  exact ⟨n, hn, (hb.cell (p := ⟨b, off + j, none⟩) (h1 (by omega)).2).trans hc⟩

/-- what '[]byte(t)' leaves: the bytes in a new block, which may be written -/
theorem run_bytes (t : ByteArray) (w : World) : ∃ (w' : World) (cap : Nat), (convert 9 22 (.string t)).run Tryd.prog w = .ok (.slice (some ⟨w.heap.size, 0, none⟩) t.size cap) w' ∧ Below w.heap.size w w' ∧ w'.heap.size = w.heap.size + 1 ∧
    ∀ j (h : j < t.data.toList.length), w'.cell? ⟨w.heap.size, j, none⟩ = some (.int .u8 (t.data.toList[j].toNat : Int)) ∧ w'.frozen? ⟨w.heap.size, j, none⟩ = false := by
  refine ⟨Lib.bytesWorld w 5 t, _, Lib.run_convert_string_bytes w 9 22 5 t Tryd.underlying9 Tryd.underlying22 Tryd.underlying5, ⟨?_, ?_, ?_, ?_, ?_⟩, Lib.bytesWorld_size w 5 t, ?_⟩
  · simp [Lib.bytesWorld, World.freeze, World.alloc, World.drew, -World.alloc_eq, -World.drew_eq]
  · simp [Lib.bytesWorld, World.freeze, World.alloc, World.drew, -World.alloc_eq, -World.drew_eq]
  · simp [Lib.bytesWorld, World.freeze, World.alloc, World.drew, -World.alloc_eq, -World.drew_eq]
  · rw [Lib.bytesWorld_size]; omega
  · intro b hb
    exact Lib.bytesWorld_at_old w 5 t b hb
  · intro j hj
    have h1 : t.data.toList.length = t.size := Array.length_toList
    constructor
    · rw [Lib.bytesWorld_cell w 5 t j (by omega)]
      simp [List.getD, List.getElem?_eq_getElem hj]
    · have hc : j < (Lib.bytesCells w 5 t).size := by
        unfold Lib.bytesCells
        simp
        have : t.data.size = t.size := rfl
        omega
      simp [World.frozen?, Lib.bytesWorld_at_new]
      omega
theorem turned_cells (l : List UInt8) (i : Nat) (c : UInt8) (w' : World) (g : Nat) (hc : ∀ j (h : j < l.length), w'.cell? ⟨g, j, none⟩ = some (.int .u8 (l[j].toNat : Int)) ∧ w'.frozen? ⟨g, j, none⟩ = false) :
    ∀ j (h : j < (l.set i c).length), (w'.setCell ⟨g, i, none⟩ (.int .u8 (c.toNat : Int))).cell? ⟨g, j, none⟩ = some (.int .u8 ((l.set i c)[j].toNat : Int)) := by
  intro j hj
  have hl : (l.set i c).length = l.length := by simp
  have hj' : j < l.length := by rw [hl] at hj; exact hj
  by_cases he : j = i
  · subst he
    rw [World.cell?_setCell_same _ _ _ (hc j hj').1]
    simp
  · rw [World.cell?_setCell_other _ _ _ _ (by simp), (hc j hj').1]
    simp [List.getElem_set_ne (Ne.symm he)]
theorem run_backT (l : List UInt8) (w : World) (g cap n : Nat) (hn : n = l.length) (hc : ∀ j (h : j < l.length), w.cell? ⟨g, j, none⟩ = some (.int .u8 (l[j].toNat : Int))) :
    (convert 22 9 (.slice (some ⟨g, 0, none⟩) n cap)).run Tryd.prog w = .ok (.string ⟨l.toArray⟩) w := by
  subst hn
  refine run_convert_bytes_back (P := Tryd.prog) _ 22 9 5 ⟨g, 0, none⟩ cap l Tryd.underlying22 Tryd.underlying5 Tryd.underlying9 ?_
  intro j hj
  have ea : (⟨g, 0, none⟩ : Addr).add j = ⟨g, j, none⟩ := by
    unfold Addr.add
    split <;> simp_all
  rw [ea]
  exact hc j hj
theorem xor_other (b d : Nat) (h0 : 0 < d) : b ^^^ d ≠ b := by
  intro h
  have h1 := congrArg (fun x => b ^^^ x) h
  simp only [← Nat.xor_assoc, Nat.xor_self, Nat.zero_xor] at h1
  omega
theorem turn_byte (b : UInt8) (d : Nat) (h0 : 0 < d) (hd : d < 256) : ∃ c : UInt8, bits .xor .u8 (b.toNat : Int) (d : Int) = (c.toNat : Int) ∧ b ≠ c := by
  have hb := b.toNat_lt
  have hx : b.toNat ^^^ d < 256 := Nat.xor_lt_two_pow (n := 8) (by omega) (by omega)
  refine ⟨UInt8.ofNat (b.toNat ^^^ d), ?_, ?_⟩
  · rw [u8_xor_nat _ _ (by omega) hd]
    have : (UInt8.ofNat (b.toNat ^^^ d)).toNat = b.toNat ^^^ d := UInt8.toNat_ofNat_of_lt hx
    rw [this]
  · intro h
    have h1 := congrArg UInt8.toNat h
    have : (UInt8.ofNat (b.toNat ^^^ d)).toNat = b.toNat ^^^ d := UInt8.toNat_ofNat_of_lt hx
    rw [this] at h1
    exact xor_other b.toNat d h0 h1.symm

/-- the text with another byte at i -/
def setB (t : ByteArray) (i : Nat) (c : UInt8) : ByteArray := ⟨(t.data.toList.set i c).toArray⟩
theorem setB_size (t : ByteArray) (i : Nat) (c : UInt8) : (setB t i c).size = t.size := by
  have h1 : (setB t i c).data.toList.length = (setB t i c).size := Array.length_toList
  have h2 : t.data.toList.length = t.size := Array.length_toList
  rw [← h1]
  simp [setB]
theorem setB_ne (t : ByteArray) (i : Nat) (c : UInt8) (h : i < t.data.toList.length) (hc : t.data.toList[i] ≠ c) : t ≠ setB t i c := by
  intro he
  have h1 : t.data.toList = t.data.toList.set i c := by
    have := congrArg (fun b : ByteArray => b.data.toList) he
    simpa [setB] using this
  have h2 : t.data.toList[i]? = (t.data.toList.set i c)[i]? := congrArg (fun l : List UInt8 => l[i]?) h1
  rw [List.getElem?_eq_getElem h, List.getElem?_set_self h] at h2
  exact hc (by injection h2)

end Go.Proofs.YtjfdgidhgijheaaDoor
