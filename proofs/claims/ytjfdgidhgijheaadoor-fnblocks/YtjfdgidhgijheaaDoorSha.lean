/-
  SHA-256 in plain words: rotations, the sixty-four words of a block, the rounds.
-/
import Derived.Test.YtjfdgidhgijheaaDoorRows
import Derived.WalkKit
import Derived.Below
import Derived.Laws.BitsAllLaws
namespace Go.Proofs.YtjfdgidhgijheaaDoor.H
set_option linter.unusedVariables false

def rotr (x : UInt32) (n : Nat) : UInt32 := UInt32.ofNat (x.toNat / 2 ^ n ||| x.toNat * 2 ^ (32 - n) % 4294967296)
def shr (x : UInt32) (n : Nat) : UInt32 := UInt32.ofNat (x.toNat / 2 ^ n)
def upd (f : Nat → UInt32) (i : Nat) (x : UInt32) : Nat → UInt32 := fun j => if j = i then x else f j

def sig0 (x : UInt32) : UInt32 := (rotr x 7 ^^^ rotr x 18) ^^^ shr x 3
def sig1 (x : UInt32) : UInt32 := (rotr x 17 ^^^ rotr x 19) ^^^ shr x 10
def wStep (f : Nat → UInt32) (i : Nat) : UInt32 := ((f (i - 16) + sig0 (f (i - 15))) + f (i - 7)) + sig1 (f (i - 2))
/-- so many words more than sixteen -/
def wMore (f : Nat → UInt32) : Nat → Nat → UInt32
  | 0 => f
  | k + 1 => upd (wMore f k) (16 + k) (wStep (wMore f k) (16 + k))
def word (b : Nat → Nat) (i : Nat) : UInt32 := UInt32.ofNat (b (4 * i) * 16777216 + b (4 * i + 1) * 65536 + b (4 * i + 2) * 256 + b (4 * i + 3))
/-- the first so many words of a block, zeros behind -/
def wHead (b : Nat → Nat) : Nat → Nat → UInt32
  | 0 => fun _ => 0
  | k + 1 => upd (wHead b k) k (word b k)
def wAll (b : Nat → Nat) : Nat → UInt32 := wMore (wHead b 16) 48

def big1 (e : UInt32) : UInt32 := (rotr e 6 ^^^ rotr e 11) ^^^ rotr e 25
def big0 (a : UInt32) : UInt32 := (rotr a 2 ^^^ rotr a 13) ^^^ rotr a 22
def ch (e f g : UInt32) : UInt32 := (e &&& f) ^^^ ((e ^^^ 4294967295) &&& g)
def maj (a b c : UInt32) : UInt32 := ((a &&& b) ^^^ (a &&& c)) ^^^ (b &&& c)
def one (s : Nat → UInt32) (k w : UInt32) : UInt32 := (((s 7 + big1 (s 4)) + ch (s 4) (s 5) (s 6)) + k) + w
def two (s : Nat → UInt32) : UInt32 := big0 (s 0) + maj (s 0) (s 1) (s 2)
def round (s : Nat → UInt32) (k w : UInt32) : Nat → UInt32
  | 0 => one s k w + two s
  | 4 => s 3 + one s k w
  | j + 1 => s j
def rounds (s : Nat → UInt32) (k w : Nat → UInt32) : Nat → Nat → UInt32
  | 0 => s
  | i + 1 => round (rounds s k w i) (k i) (w i)
def block (h : Nat → UInt32) (k : Nat → UInt32) (b : Nat → Nat) : Nat → UInt32 := fun j => h j + rounds h k (wAll b) 64 j

theorem u32_lt (x : UInt32) : x.toNat < 4294967296 := x.toNat_lt
theorem toNat_of (n : Nat) (h : n < 4294967296) : (UInt32.ofNat n).toNat = n := UInt32.toNat_ofNat_of_lt h
theorem bx (a b : UInt32) : bits .xor .u32 (a.toNat : Int) (b.toNat : Int) = ((a ^^^ b).toNat : Int) := by
  rw [u32_xor_nat _ _ (u32_lt a) (u32_lt b), UInt32.toNat_xor]
theorem ba (a b : UInt32) : bits .and .u32 (a.toNat : Int) (b.toNat : Int) = ((a &&& b).toNat : Int) := by
  rw [u32_and_nat _ _ (u32_lt a) (u32_lt b), UInt32.toNat_and]
theorem bo (a b : UInt32) : bits .or .u32 (a.toNat : Int) (b.toNat : Int) = ((a ||| b).toNat : Int) := by
  rw [u32_or_nat _ _ (u32_lt a) (u32_lt b), UInt32.toNat_or]
theorem bn (a : UInt32) : bits .xor .u32 (a.toNat : Int) 4294967295 = ((a ^^^ 4294967295).toNat : Int) := bx a 4294967295
theorem badd (a b : UInt32) : ((a.toNat : Int) + (b.toNat : Int)) % 4294967296 = ((a + b).toNat : Int) := by
  rw [UInt32.toNat_add]
  simp
theorem bshr (a : UInt32) (n : Nat) : (a.toNat : Int) / ((2 ^ n : Nat) : Int) = ((shr a n).toNat : Int) := by
  unfold shr
  rw [toNat_of]
  · simp
  · exact Nat.lt_of_le_of_lt (Nat.div_le_self _ _) (u32_lt a)
theorem brot (a : UInt32) (n : Nat) (h : n ≤ 32) : bits .or .u32 ((a.toNat : Int) / ((2 ^ n : Nat) : Int)) ((a.toNat : Int) * ((2 ^ (32 - n) : Nat) : Int) % 4294967296) = ((rotr a n).toNat : Int) := by
  have h1 : a.toNat / 2 ^ n < 4294967296 := Nat.lt_of_le_of_lt (Nat.div_le_self _ _) (u32_lt a)
  have h2 : a.toNat * 2 ^ (32 - n) % 4294967296 < 4294967296 := Nat.mod_lt _ (by omega)
  have e := u32_or_nat _ _ h1 h2
  unfold rotr
  rw [toNat_of _ (Nat.or_lt_two_pow (n := 32) h1 h2), ← e]
  simp

theorem word_eq (b0 b1 b2 b3 : Nat) (h0 : b0 < 256) (h1 : b1 < 256) (h2 : b2 < 256) (h3 : b3 < 256) :
    bits .or .u32 (bits .or .u32 (bits .or .u32 ((b0 : Int) * 16777216) ((b1 : Int) * 65536)) ((b2 : Int) * 256)) (b3 : Int) = ((b0 * 16777216 + b1 * 65536 + b2 * 256 + b3 : Nat) : Int) := by
  have e1 := u32_or_nat (b0 * 16777216) (b1 * 65536) (by omega) (by omega)
  have e2 := nat_join 24 (b0 * 16777216) (b1 * 65536) (by omega) (by omega)
  rw [e2] at e1
  have e3 := u32_or_nat (b0 * 16777216 + b1 * 65536) (b2 * 256) (by omega) (by omega)
  rw [nat_join 16 _ _ (by omega) (by omega)] at e3
  have e4 := u32_or_nat (b0 * 16777216 + b1 * 65536 + b2 * 256) b3 (by omega) (by omega)
  rw [nat_join 8 _ _ (by omega) (by omega)] at e4
  simp only [Int.natCast_add, Int.natCast_mul] at e1 e3 e4 ⊢
  simp only [Int.cast_ofNat_Int] at e1 e3 e4 ⊢
  rw [e1, e3, e4]

end Go.Proofs.YtjfdgidhgijheaaDoor.H
