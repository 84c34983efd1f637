/-
  Texts laid together: Sha, Arr.
-/
import Derived.Test.YtkgibgadngeddabDoorRows
import Derived.WalkKit
import Derived.Below
import Derived.Laws.BitsAllLaws
import Derived.Laws.Rows
import Derived.Deep.QuietTactic
import Derived.BigQuiet
/-
  SHA-256 in plain words: rotations, the sixty-four words of a block, the rounds.
-/
namespace Go.Proofs.YtkgibgadngeddabDoor.H
set_option linter.unusedVariables false

def rotr (x : UInt32) (n : Nat) : UInt32 := UInt32.ofNat (x.toNat / 2 ^ n ||| x.toNat * 2 ^ (32 - n) % 4294967296)
def shr (x : UInt32) (n : Nat) : UInt32 := UInt32.ofNat (x.toNat / 2 ^ n)
def upd (f : Nat → UInt32) (i : Nat) (x : UInt32) : Nat → UInt32 := fun j => if j = i then x else f j

def sig0 (x : UInt32) : UInt32 := (rotr x 7 ^^^ rotr x 18) ^^^ shr x 3
def sig1 (x : UInt32) : UInt32 := (rotr x 17 ^^^ rotr x 19) ^^^ shr x 10
def wStep (f : Nat → UInt32) (i : Nat) : UInt32 := ((f (i - 16) + sig0 (f (i - 15))) + f (i - 7)) + sig1 (f (i - 2))
/-- so many words more than sixteen -/
def wMore (f : Nat → UInt32) : Nat → Nat → UInt32
  | 0 => f
  | k + 1 => upd (wMore f k) (16 + k) (wStep (wMore f k) (16 + k))
def word (b : Nat → Nat) (i : Nat) : UInt32 := UInt32.ofNat (b (4 * i) * 16777216 + b (4 * i + 1) * 65536 + b (4 * i + 2) * 256 + b (4 * i + 3))
/-- the first so many words of a block, zeros behind -/
def wHead (b : Nat → Nat) : Nat → Nat → UInt32
  | 0 => fun _ => 0
  | k + 1 => upd (wHead b k) k (word b k)
def wAll (b : Nat → Nat) : Nat → UInt32 := wMore (wHead b 16) 48

def big1 (e : UInt32) : UInt32 := (rotr e 6 ^^^ rotr e 11) ^^^ rotr e 25
def big0 (a : UInt32) : UInt32 := (rotr a 2 ^^^ rotr a 13) ^^^ rotr a 22
def ch (e f g : UInt32) : UInt32 := (e &&& f) ^^^ ((e ^^^ 4294967295) &&& g)
def maj (a b c : UInt32) : UInt32 := ((a &&& b) ^^^ (a &&& c)) ^^^ (b &&& c)
def one (s : Nat → UInt32) (k w : UInt32) : UInt32 := (((s 7 + big1 (s 4)) + ch (s 4) (s 5) (s 6)) + k) + w
def two (s : Nat → UInt32) : UInt32 := big0 (s 0) + maj (s 0) (s 1) (s 2)
def round (s : Nat → UInt32) (k w : UInt32) : Nat → UInt32
  | 0 => one s k w + two s
  | 4 => s 3 + one s k w
  | j + 1 => s j
def rounds (s : Nat → UInt32) (k w : Nat → UInt32) : Nat → Nat → UInt32
  | 0 => s
  | i + 1 => round (rounds s k w i) (k i) (w i)
def block (h : Nat → UInt32) (k : Nat → UInt32) (b : Nat → Nat) : Nat → UInt32 := fun j => h j + rounds h k (wAll b) 64 j

theorem u32_lt (x : UInt32) : x.toNat < 4294967296 := x.toNat_lt
theorem toNat_of (n : Nat) (h : n < 4294967296) : (UInt32.ofNat n).toNat = n := UInt32.toNat_ofNat_of_lt h
theorem bx (a b : UInt32) : bits .xor .u32 (a.toNat : Int) (b.toNat : Int) = ((a ^^^ b).toNat : Int) := by
  rw [u32_xor_nat _ _ (u32_lt a) (u32_lt b), UInt32.toNat_xor]
theorem ba (a b : UInt32) : bits .and .u32 (a.toNat : Int) (b.toNat : Int) = ((a &&& b).toNat : Int) := by
  rw [u32_and_nat _ _ (u32_lt a) (u32_lt b), UInt32.toNat_and]
theorem bo (a b : UInt32) : bits .or .u32 (a.toNat : Int) (b.toNat : Int) = ((a ||| b).toNat : Int) := by
  rw [u32_or_nat _ _ (u32_lt a) (u32_lt b), UInt32.toNat_or]
theorem bn (a : UInt32) : bits .xor .u32 (a.toNat : Int) 4294967295 = ((a ^^^ 4294967295).toNat : Int) := bx a 4294967295
theorem badd (a b : UInt32) : ((a.toNat : Int) + (b.toNat : Int)) % 4294967296 = ((a + b).toNat : Int) := by
  rw [UInt32.toNat_add]
  simp
theorem bshr (a : UInt32) (n : Nat) : (a.toNat : Int) / ((2 ^ n : Nat) : Int) = ((shr a n).toNat : Int) := by
  unfold shr
  rw [toNat_of]
  · simp
  · exact Nat.lt_of_le_of_lt (Nat.div_le_self _ _) (u32_lt a)
theorem brot (a : UInt32) (n : Nat) (h : n ≤ 32) : bits .or .u32 ((a.toNat : Int) / ((2 ^ n : Nat) : Int)) ((a.toNat : Int) * ((2 ^ (32 - n) : Nat) : Int) % 4294967296) = ((rotr a n).toNat : Int) := by
  have h1 : a.toNat / 2 ^ n < 4294967296 := Nat.lt_of_le_of_lt (Nat.div_le_self _ _) (u32_lt a)
  have h2 : a.toNat * 2 ^ (32 - n) % 4294967296 < 4294967296 := Nat.mod_lt _ (by omega)
  have e := u32_or_nat _ _ h1 h2
  unfold rotr
  rw [toNat_of _ (Nat.or_lt_two_pow (n := 32) h1 h2), ← e]
  simp

theorem word_eq (b0 b1 b2 b3 : Nat) (h0 : b0 < 256) (h1 : b1 < 256) (h2 : b2 < 256) (h3 : b3 < 256) :
    bits .or .u32 (bits .or .u32 (bits .or .u32 ((b0 : Int) * 16777216) ((b1 : Int) * 65536)) ((b2 : Int) * 256)) (b3 : Int) = ((b0 * 16777216 + b1 * 65536 + b2 * 256 + b3 : Nat) : Int) := by
  have e1 := u32_or_nat (b0 * 16777216) (b1 * 65536) (by omega) (by omega)
  have e2 := nat_join 24 (b0 * 16777216) (b1 * 65536) (by omega) (by omega)
  rw [e2] at e1
  have e3 := u32_or_nat (b0 * 16777216 + b1 * 65536) (b2 * 256) (by omega) (by omega)
  rw [nat_join 16 _ _ (by omega) (by omega)] at e3
  have e4 := u32_or_nat (b0 * 16777216 + b1 * 65536 + b2 * 256) b3 (by omega) (by omega)
  rw [nat_join 8 _ _ (by omega) (by omega)] at e4
  simp only [Int.natCast_add, Int.natCast_mul] at e1 e3 e4 ⊢
  simp only [Int.cast_ofNat_Int] at e1 e3 e4 ⊢
  rw [e1, e3, e4]

end Go.Proofs.YtkgibgadngeddabDoor.H
/-
  An array of 32-bit words in a block of its own; the rotation, the first numbers and the keys.
-/
namespace Go.Proofs.YtkgibgadngeddabDoor
open Go.RowKit
set_option linter.unusedVariables false

/-- block g holds the n words f -/
def Arr (w : World) (g t n : Nat) (f : Nat → UInt32) : Prop :=
  ∃ cs : Array Value, w.heap[g]? = some (.cells cs t (0, 0)) ∧ cs.size = n ∧ ∀ i, i < n → cs[i]? = some (.int .u32 ((f i).toNat : Int))

theorem Arr.cell {w : World} {g t n : Nat} {f : Nat → UInt32} (h : Arr w g t n f) (i : Nat) (hi : i < n) : w.cell? ⟨g, i, none⟩ = some (.int .u32 ((f i).toNat : Int)) := by
  obtain ⟨cs, h1, h2, h3⟩ := h
  simp [World.cell?, h1, h3 i hi]
theorem Arr.frozen {w : World} {g t n : Nat} {f : Nat → UInt32} (h : Arr w g t n f) (i : Nat) : w.frozen? ⟨g, i, none⟩ = false := by
  obtain ⟨cs, h1, h2, h3⟩ := h
  simp [World.frozen?, h1]
theorem Arr.lt {w : World} {g t n : Nat} {f : Nat → UInt32} (h : Arr w g t n f) : g < w.heap.size := by
  obtain ⟨cs, h1, _⟩ := h
  exact (Array.getElem?_eq_some_iff.1 h1).1
theorem Arr.set {w : World} {g t n : Nat} {f : Nat → UInt32} (h : Arr w g t n f) (i : Nat) (hi : i < n) (x : UInt32) : Arr (w.setCell ⟨g, i, none⟩ (.int .u32 (x.toNat : Int))) g t n (H.upd f i x) := by
  obtain ⟨cs, h1, h2, h3⟩ := h
  refine ⟨_, heap_setCell_same w g i cs t _ h1, by simpa using h2, fun j hj => ?_⟩
  rw [Array.getElem?_setIfInBounds]
  by_cases he : i = j
  · subst he
    simp [H.upd, h2, hi]
  · have : j ≠ i := fun e => he e.symm
    simp [H.upd, he, this, h3 j hj]
theorem Arr.keep {w w' : World} {g t n : Nat} {f : Nat → UInt32} (h : Arr w g t n f) (hh : w'.heap[g]? = w.heap[g]?) : Arr w' g t n f := by
  obtain ⟨cs, h1, h2⟩ := h
  exact ⟨cs, by rw [hh]; exact h1, h2⟩
theorem Arr.other {w : World} {g t n : Nat} {f : Nat → UInt32} (h : Arr w g t n f) (k i : Nat) (v : Value) (hk : g ≠ k) : Arr (w.setCell ⟨k, i, none⟩ v) g t n f :=
  h.keep (heap_setCell_other w ⟨k, i, none⟩ g v hk)
theorem Arr.alloc {w : World} {g t n : Nat} {f : Nat → UInt32} (h : Arr w g t n f) (o : Obj) : Arr (w.alloc o) g t n f := by
  have hl := h.lt
  refine h.keep ?_
  have hn : g ≠ w.heap.size := by omega
  simp [World.alloc, -World.alloc_eq, Array.getElem?_push, hn]
theorem Arr.new (w : World) (cs : Array Value) (t n : Nat) (f : Nat → UInt32) (h : cs.size = n) (hc : ∀ i, i < n → cs[i]? = some (.int .u32 ((f i).toNat : Int))) : Arr (w.alloc (.cells cs t)) w.heap.size t n f :=
  ⟨cs, heap_alloc_new w _, h, hc⟩
theorem Arr.drewN {w : World} {g t n : Nat} {f : Nat → UInt32} (h : Arr w g t n f) (k : Nat) : Arr (w.drewN k) g t n f := h

theorem Turn_any (x : UInt32) (n : Nat) (w : World) (hn : n = 2 ∨ n = 6 ∨ n = 7 ∨ n = 11 ∨ n = 13 ∨ n = 17 ∨ n = 18 ∨ n = 19 ∨ n = 22 ∨ n = 25) :
    Calls Tryd.prog 49 #[.int .u32 (x.toNat : Int), .int .u64 (n : Int)] w fun e w' => e = .returned (.int .u32 ((H.rotr x n).toNat : Int)) ∧ w' = w := by
  have hr := H.brot x n (by omega)
  rcases hn with rfl | rfl | rfl | rfl | rfl | rfl | rfl | rfl | rfl | rfl
  all_goals
    go_enter Tryd.func49, Tryd.ntmps49
    go_wp2
    go_ret
    refine ⟨?_, rfl⟩
    rw [← hr]
    rfl

theorem Turn2 (x : UInt32) (w : World) : Calls Tryd.prog 49 #[.int .u32 (x.toNat : Int), .int .u64 2] w fun e w' => e = .returned (.int .u32 ((H.rotr x 2).toNat : Int)) ∧ w' = w := Turn_any x 2 w (by omega)
theorem Turn6 (x : UInt32) (w : World) : Calls Tryd.prog 49 #[.int .u32 (x.toNat : Int), .int .u64 6] w fun e w' => e = .returned (.int .u32 ((H.rotr x 6).toNat : Int)) ∧ w' = w := Turn_any x 6 w (by omega)
theorem Turn7 (x : UInt32) (w : World) : Calls Tryd.prog 49 #[.int .u32 (x.toNat : Int), .int .u64 7] w fun e w' => e = .returned (.int .u32 ((H.rotr x 7).toNat : Int)) ∧ w' = w := Turn_any x 7 w (by omega)
theorem Turn11 (x : UInt32) (w : World) : Calls Tryd.prog 49 #[.int .u32 (x.toNat : Int), .int .u64 11] w fun e w' => e = .returned (.int .u32 ((H.rotr x 11).toNat : Int)) ∧ w' = w := Turn_any x 11 w (by omega)
theorem Turn13 (x : UInt32) (w : World) : Calls Tryd.prog 49 #[.int .u32 (x.toNat : Int), .int .u64 13] w fun e w' => e = .returned (.int .u32 ((H.rotr x 13).toNat : Int)) ∧ w' = w := Turn_any x 13 w (by omega)
theorem Turn17 (x : UInt32) (w : World) : Calls Tryd.prog 49 #[.int .u32 (x.toNat : Int), .int .u64 17] w fun e w' => e = .returned (.int .u32 ((H.rotr x 17).toNat : Int)) ∧ w' = w := Turn_any x 17 w (by omega)
theorem Turn18 (x : UInt32) (w : World) : Calls Tryd.prog 49 #[.int .u32 (x.toNat : Int), .int .u64 18] w fun e w' => e = .returned (.int .u32 ((H.rotr x 18).toNat : Int)) ∧ w' = w := Turn_any x 18 w (by omega)
theorem Turn19 (x : UInt32) (w : World) : Calls Tryd.prog 49 #[.int .u32 (x.toNat : Int), .int .u64 19] w fun e w' => e = .returned (.int .u32 ((H.rotr x 19).toNat : Int)) ∧ w' = w := Turn_any x 19 w (by omega)
theorem Turn22 (x : UInt32) (w : World) : Calls Tryd.prog 49 #[.int .u32 (x.toNat : Int), .int .u64 22] w fun e w' => e = .returned (.int .u32 ((H.rotr x 22).toNat : Int)) ∧ w' = w := Turn_any x 22 w (by omega)
theorem Turn25 (x : UInt32) (w : World) : Calls Tryd.prog 49 #[.int .u32 (x.toNat : Int), .int .u64 25] w fun e w' => e = .returned (.int .u32 ((H.rotr x 25).toNat : Int)) ∧ w' = w := Turn_any x 25 w (by omega)

end Go.Proofs.YtkgibgadngeddabDoor
