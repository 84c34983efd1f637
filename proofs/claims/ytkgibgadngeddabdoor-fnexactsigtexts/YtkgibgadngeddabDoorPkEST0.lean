/-
  Texts laid together: Math, Own.
-/
import Derived.Test.YtkgibgadngeddabDoorRows
import Derived.WalkKit
/-
  Plain facts on numbers in bytes: how VarText writes a number, and how it is read again.
-/
namespace Go.Proofs.YtkgibgadngeddabDoor.M

def varF : Nat → Nat → List UInt8
  | 0, n => [UInt8.ofNat n]
  | f + 1, n => if n ≤ 127 then [UInt8.ofNat n] else UInt8.ofNat (n % 128 + 128) :: varF f (n / 128)

def varL (n : Nat) : List UInt8 := varF 9 n

theorem varF_small (f n : Nat) (h : n ≤ 127) : varF f n = [UInt8.ofNat n] := by
  cases f with
  | zero => rfl
  | succ f => simp [varF, h]

theorem varF_big (f n : Nat) (h : 127 < n) : varF (f + 1) n = UInt8.ofNat (n % 128 + 128) :: varF f (n / 128) := by
  simp [varF]; omega

theorem varF_len (f n : Nat) : (varF f n).length ≤ f + 1 := by
  induction f generalizing n with
  | zero => simp [varF]
  | succ f ih =>
    simp only [varF]
    split
    · simp
    · have := ih (n / 128); simp; omega

theorem varL_len (n : Nat) : (varL n).length ≤ 10 := varF_len 9 n

/-- the value of bytes, seven bits each, the lowest first -/
def val : List UInt8 → Nat
  | [] => 0
  | b :: r => b.toNat % 128 + 128 * val r

/-- all but the last have their highest bit, the last has it not -/
def shaped : List UInt8 → Prop
  | [] => False
  | [b] => b.toNat < 128
  | b :: c :: r => 128 ≤ b.toNat ∧ shaped (c :: r)

theorem ofNat_toNat (b : UInt8) (n : Nat) (h : n = b.toNat) : UInt8.ofNat n = b := by
  subst h; simp

theorem val_zero : ∀ (l : List UInt8), shaped l → val l = 0 → ∃ a : UInt8, l.getLast? = some a ∧ a = 0
  | [], h, _ => h.elim
  | [b], h, hv => by
    simp only [shaped] at h
    simp only [val] at hv
    exact ⟨b, rfl, by
      have : b.toNat = 0 := by omega
      exact UInt8.toNat_inj.1 (by simpa using this)⟩
  | b :: c :: r, h, hv => by
    simp only [shaped] at h
    have hv' : val (c :: r) = 0 := by
      rw [val] at hv
      omega
    obtain ⟨a, ha, h0⟩ := val_zero (c :: r) h.2 hv'
    exact ⟨a, by simpa using ha, h0⟩

theorem val_pos : ∀ (l : List UInt8), shaped l → l.getLast? ≠ some 0 → 1 ≤ val l := by
  intro l h hl
  rcases Nat.eq_zero_or_pos (val l) with h0 | h0
  · obtain ⟨a, ha, rfl⟩ := val_zero l h h0
    exact absurd ha hl
  · exact h0

theorem canon : ∀ (f : Nat) (l : List UInt8), shaped l → l.length ≤ f + 1 → (varF f (val l) = l ↔ (l.length = 1 ∨ l.getLast? ≠ some 0))
  | f, [], h, _ => h.elim
  | f, [b], h, _ => by
    simp only [shaped] at h
    have e : val [b] = b.toNat := by simp only [val]; omega
    rw [e, varF_small f _ (by omega)]
    simp
  | 0, b :: c :: r, h, hl => by simp at hl
  | f + 1, b :: c :: r, h, hl => by
    simp only [shaped] at h
    have hv : val (b :: c :: r) = b.toNat % 128 + 128 * val (c :: r) := rfl
    have hb : b.toNat < 256 := b.toNat_lt
    have ih := canon f (c :: r) h.2 (by simp at hl ⊢; omega)
    have hlast : (b :: c :: r).getLast? = (c :: r).getLast? := by simp
    rcases Nat.eq_zero_or_pos (val (c :: r)) with h0 | h0
    · obtain ⟨a, ha, rfl⟩ := val_zero _ h.2 h0
      rw [hv, h0, varF_small _ _ (by omega), hlast, ha]
      simp
    · rw [hv, varF_big _ _ (by omega)]
      have e1 : (b.toNat % 128 + 128 * val (c :: r)) / 128 = val (c :: r) := by omega
      have e2 : UInt8.ofNat ((b.toNat % 128 + 128 * val (c :: r)) % 128 + 128) = b := ofNat_toNat b _ (by omega)
      rw [e1, e2, hlast]
      constructor
      · intro he
        have he' : varF f (val (c :: r)) = c :: r := by simpa using he
        rcases ih.1 he' with h1 | h1
        · right
          have hr : r = [] := by simpa using h1
          subst hr
          intro hc
          simp at hc
          subst hc
          simp [val] at h0
        · exact .inr h1
      · intro he
        rcases he with h1 | h1
        · simp at h1
        · rw [ih.2 (.inr h1)]

/-- reading a number: fuel, how many bytes were read, what they made -/
def rv (s : List UInt8) (p : Nat) : Nat → Nat → Nat → Option (Nat × Nat)
  | 0, _, _ => none
  | f + 1, i, n =>
    match s[p + i]? with
    | none => none
    | some b =>
      if 128 ≤ b.toNat then rv s p f (i + 1) (n + b.toNat % 128 * 128 ^ i)
      else if (b.toNat = 0 ∧ 0 < i) ∨ 1000000000 < n + b.toNat % 128 * 128 ^ i then none
      else some (n + b.toNat % 128 * 128 ^ i, p + i + 1)

def readVar (s : List UInt8) (p : Nat) : Option (Nat × Nat) := rv s p 5 0 0

end Go.Proofs.YtkgibgadngeddabDoor.M
/-
  Laws on a slice of bytes that the call itself has made: appending to it, and making a string of it.
-/
namespace Go.Proofs.YtkgibgadngeddabDoor
open Go.RowKit

def bv (l : List UInt8) : List Value := l.map (fun b => Value.int .u8 (b.toNat : Int))

theorem bv_length (l : List UInt8) : (bv l).length = l.length := by simp [bv]
theorem bv_append (l r : List UInt8) : bv (l ++ r) = bv l ++ bv r := by simp [bv]
theorem bv_get (l : List UInt8) (j : Nat) (u : Value) (h : (bv l)[j]? = some u) : ∃ hj : j < l.length, u = .int .u8 (l[j].toNat : Int) := by
  unfold bv at h
  rw [List.getElem?_map] at h
  cases hl : l[j]? with
  | none => rw [hl] at h; simp at h
  | some b =>
    rw [hl] at h
    obtain ⟨hj, hb⟩ := List.getElem?_eq_some_iff.1 hl
    simp at h
    exact ⟨hj, by rw [hb]; exact h.symm⟩

theorem Tryd.info5 : (Tryd.prog.info? 5).map (fun i => (i.zero, i.size, i.bytes)) = some (some (.int .u8 0), 1, 1) := by kernel_rfl
theorem Tryd.info3 : (Tryd.prog.info? 3).map (fun i => (i.zero, i.size, i.bytes)) = some (some (.int .i64 0), 1, 8) := by kernel_rfl

/-- v owns the bytes l, in blocks from B on; below B all is as it was in w0 -/
def OB (B : Nat) (w0 w : World) (v : Value) (l : List UInt8) : Prop :=
  w.ownsRow B 5 1 v l.length (bv l) ∧ Below B w0 w ∧ B ≤ w.heap.size

theorem OB.alloc {B : Nat} {w0 w : World} {v : Value} {l : List UInt8} (h : OB B w0 w v l) (o : Obj) : OB B w0 (w.alloc o) v l :=
  ⟨h.1.alloc o, h.2.1.alloc h.2.2 o, by have := h.2.2; simp; omega⟩
theorem OB.drew {B : Nat} {w0 w : World} {v : Value} {l : List UInt8} (h : OB B w0 w v l) : OB B w0 w.drew v l :=
  ⟨h.1.drew, h.2.1.drew, h.2.2⟩

theorem OB.nil (w : World) : OB w.heap.size w w (.slice none 0 0) [] :=
  ⟨World.ownsRow_nil _ _ _ _, Below.refl _ _, Nat.le_refl _⟩

theorem OB.made (w : World) : OB w.heap.size w (w.alloc (.cells #[] 5)) (.slice (some ⟨w.heap.size, 0, none⟩) 0 0) [] :=
  ⟨World.ownsRow_made w #[] 0 (Nat.le_refl _) (by decide) (by simp), (Below.refl _ _).alloc (Nat.le_refl _) _, by simp⟩

theorem wp_app {w : World} {ops : Array Oper} {rest : List Oper} {o : Oper} {a : Act} {Q : Exit → Act → World → Prop} (hgd : o.guard = none) (s x : Operand)
    (ho : o.op = .call { callee := .builtin .append, args := #[s, x], argTypes := #[51, 51] })
    (B : Nat) (w0 : World) (v : Value) (l : List UInt8) (hs : a.eval s = v) (hown : OB B w0 w v l)
    (ad : Addr) (m c : Nat) (news : List UInt8) (hx : a.eval x = .slice (some ad) m c) (hm : news.length = m)
    (hnews : ∀ j u, (bv news)[j]? = some u → w.cell? (ad.add j) = some u) (hlen : l.length + m ≤ 1000000000)
    (h : ∀ v' w', OB B w0 w' v' (l ++ news) → wpList Tryd.prog ops Q rest (a.put o.dst v') w') : wpList Tryd.prog ops Q (o :: rest) a w := by
  obtain ⟨i0, hi, hz0, hz1, hz2⟩ := info_parts Tryd.info5
  refine wpList_append_own _ hgd s x 51 ho B 5 i0 (.int .u8 0) 1 1 Tryd.underlying51 hi hz0 hz1 hz2 rfl (by decide) v l.length (bv l) hs hown.1 ad m c (bv news) hx (by simp [bv, hm]) hnews
    (fun u hu => by simp [bv] at hu; obtain ⟨b, _, rfl⟩ := hu; rfl) (by unfold maxLen; omega) (by omega) hown.2.2 ?_
  intro v' w' h1 h2 _
  refine h v' w' ⟨by rw [List.length_append, bv_append, hm]; exact h1, hown.2.1.grown h2 hown.2.2 (fun k hk => (hown.1.lt k hk).1), ?_⟩
  exact Nat.le_trans hown.2.2 h2.size

/-- 'string(b)' of a slice that the call owns -/
theorem run_str {B : Nat} {w0 w : World} {v : Value} {l : List UInt8} (h : OB B w0 w v l) : (convert 51 9 v).run Tryd.prog w = .ok (.string ⟨l.toArray⟩) w := by
  rcases h.1.2 with ⟨rfl, hn⟩ | ⟨g, cap, cur, rfl, hb, hgg, hnc, hcm, hsz, htake⟩
  · have : l = [] := by simpa using hn
    subst this
    rw [run_convert_bytes_string w 51 9 5 none 0 0 Tryd.underlying51 Tryd.underlying5 Tryd.underlying9]
    unfold Conv.bytesToString
    rfl
  · refine run_convert_bytes_back w 51 9 5 ⟨g, 0, none⟩ cap l Tryd.underlying51 Tryd.underlying5 Tryd.underlying9 ?_
    intro j hj
    refine h.1.cells (g := g) rfl j _ ?_
    simp [bv, List.getElem?_eq_getElem hj]

end Go.Proofs.YtkgibgadngeddabDoor
