/-
  Texts laid together: Math, Mathb, Own, Var, Short, Hex, Read, Reads.
-/
import Derived.Test.YtmfoliocibjdnaaDoorRows
import Derived.WalkKit
import Derived.Deep.QuietTactic
import Derived.BigQuiet
import Derived.Deep.RegionHeld3
import Derived.Deep.RegionLaw
import Derived.Deep.RegionWith
/-
  Plain facts on numbers in bytes: how VarText writes a number, and how it is read again.
-/
namespace Go.Proofs.YtmfoliocibjdnaaDoor.M

def varF : Nat → Nat → List UInt8
  | 0, n => [UInt8.ofNat n]
  | f + 1, n => if n ≤ 127 then [UInt8.ofNat n] else UInt8.ofNat (n % 128 + 128) :: varF f (n / 128)

def varL (n : Nat) : List UInt8 := varF 9 n

theorem varF_small (f n : Nat) (h : n ≤ 127) : varF f n = [UInt8.ofNat n] := by
  cases f with
  | zero => rfl
  | succ f => simp [varF, h]

theorem varF_big (f n : Nat) (h : 127 < n) : varF (f + 1) n = UInt8.ofNat (n % 128 + 128) :: varF f (n / 128) := by
  simp [varF]; omega

theorem varF_len (f n : Nat) : (varF f n).length ≤ f + 1 := by
  induction f generalizing n with
  | zero => simp [varF]
  | succ f ih =>
    simp only [varF]
    split
    · simp
    · have := ih (n / 128); simp; omega

theorem varL_len (n : Nat) : (varL n).length ≤ 10 := varF_len 9 n

/-- the value of bytes, seven bits each, the lowest first -/
def val : List UInt8 → Nat
  | [] => 0
  | b :: r => b.toNat % 128 + 128 * val r

/-- all but the last have their highest bit, the last has it not -/
def shaped : List UInt8 → Prop
  | [] => False
  | [b] => b.toNat < 128
  | b :: c :: r => 128 ≤ b.toNat ∧ shaped (c :: r)

theorem ofNat_toNat (b : UInt8) (n : Nat) (h : n = b.toNat) : UInt8.ofNat n = b := by
  subst h; simp

theorem val_zero : ∀ (l : List UInt8), shaped l → val l = 0 → ∃ a : UInt8, l.getLast? = some a ∧ a = 0
  | [], h, _ => h.elim
  | [b], h, hv => by
    simp only [shaped] at h
    simp only [val] at hv
    exact ⟨b, rfl, by
      have : b.toNat = 0 := by omega
      exact UInt8.toNat_inj.1 (by simpa using this)⟩
  | b :: c :: r, h, hv => by
    simp only [shaped] at h
    have hv' : val (c :: r) = 0 := by
      rw [val] at hv
      omega
    obtain ⟨a, ha, h0⟩ := val_zero (c :: r) h.2 hv'
    exact ⟨a, by simpa using ha, h0⟩

theorem val_pos : ∀ (l : List UInt8), shaped l → l.getLast? ≠ some 0 → 1 ≤ val l := by
  intro l h hl
  rcases Nat.eq_zero_or_pos (val l) with h0 | h0
  · obtain ⟨a, ha, rfl⟩ := val_zero l h h0
    exact absurd ha hl
  · exact h0

theorem canon : ∀ (f : Nat) (l : List UInt8), shaped l → l.length ≤ f + 1 → (varF f (val l) = l ↔ (l.length = 1 ∨ l.getLast? ≠ some 0))
  | f, [], h, _ => h.elim
  | f, [b], h, _ => by
    simp only [shaped] at h
    have e : val [b] = b.toNat := by simp only [val]; omega
    rw [e, varF_small f _ (by omega)]
    simp
  | 0, b :: c :: r, h, hl => by simp at hl
  | f + 1, b :: c :: r, h, hl => by
    simp only [shaped] at h
    have hv : val (b :: c :: r) = b.toNat % 128 + 128 * val (c :: r) := rfl
    have hb : b.toNat < 256 := b.toNat_lt
    have ih := canon f (c :: r) h.2 (by simp at hl ⊢; omega)
    have hlast : (b :: c :: r).getLast? = (c :: r).getLast? := by simp
    rcases Nat.eq_zero_or_pos (val (c :: r)) with h0 | h0
    · obtain ⟨a, ha, rfl⟩ := val_zero _ h.2 h0
      rw [hv, h0, varF_small _ _ (by omega), hlast, ha]
      simp
    · rw [hv, varF_big _ _ (by omega)]
      have e1 : (b.toNat % 128 + 128 * val (c :: r)) / 128 = val (c :: r) := by omega
      have e2 : UInt8.ofNat ((b.toNat % 128 + 128 * val (c :: r)) % 128 + 128) = b := ofNat_toNat b _ (by omega)
      rw [e1, e2, hlast]
      constructor
      · intro he
        have he' : varF f (val (c :: r)) = c :: r := by simpa using he
        rcases ih.1 he' with h1 | h1
        · right
          have hr : r = [] := by simpa using h1
          subst hr
          intro hc
          simp at hc
          subst hc
          simp [val] at h0
        · exact .inr h1
      · intro he
        rcases he with h1 | h1
        · simp at h1
        · rw [ih.2 (.inr h1)]

/-- reading a number: fuel, how many bytes were read, what they made -/
def rv (s : List UInt8) (p : Nat) : Nat → Nat → Nat → Option (Nat × Nat)
  | 0, _, _ => none
  | f + 1, i, n =>
    match s[p + i]? with
    | none => none
    | some b =>
      if 128 ≤ b.toNat then rv s p f (i + 1) (n + b.toNat % 128 * 128 ^ i)
      else if (b.toNat = 0 ∧ 0 < i) ∨ 1000000000 < n + b.toNat % 128 * 128 ^ i then none
      else some (n + b.toNat % 128 * 128 ^ i, p + i + 1)

def readVar (s : List UInt8) (p : Nat) : Option (Nat × Nat) := rv s p 5 0 0

end Go.Proofs.YtmfoliocibjdnaaDoor.M
/-
  Plain facts on reading a number that stands in bytes, step by step.
-/
namespace Go.Proofs.YtmfoliocibjdnaaDoor.M

theorem pow7 (k : Nat) : (2 : Nat) ^ (7 * k) = 128 ^ k := by rw [Nat.pow_mul]

theorem sh_eq (b k : Nat) : ((b : Int) % 128 * 2 ^ (7 * k)) = ((b % 128 * 128 ^ k : Nat) : Int) := by
  have h : ((2 ^ (7 * k) : Nat) : Int) = (2 : Int) ^ (7 * k) := by simp
  rw [← h, pow7]
  simp

theorem pow_le5 (k : Nat) (h : k ≤ 4) : 128 ^ k ≤ 268435456 := by
  have := Nat.pow_le_pow_right (show 0 < 128 by omega) h
  simpa using this

theorem sh_le (b k : Nat) (h : k ≤ 4) : b % 128 * 128 ^ k ≤ 127 * 268435456 :=
  Nat.mul_le_mul (by omega) (pow_le5 k h)

theorem acc_lt (N b k : Nat) (h : N < 128 ^ k) : N + b % 128 * 128 ^ k < 128 ^ (k + 1) := by
  have h1 : b % 128 * 128 ^ k ≤ 127 * 128 ^ k := Nat.mul_le_mul_right _ (by omega)
  have h2 : 128 ^ (k + 1) = 128 ^ k * 128 := Nat.pow_succ ..
  omega

theorem rv_more (s : List UInt8) (p k N : Nat) (b : UInt8) (hk : k < 5) (hb : s[p + k]? = some b) (h : 127 < b.toNat) :
    rv s p (5 - k) k N = rv s p (5 - (k + 1)) (k + 1) (N + b.toNat % 128 * 128 ^ k) := by
  have e : 5 - k = (5 - (k + 1)) + 1 := by omega
  rw [e]
  simp only [rv, hb]
  rw [if_pos (by omega)]

theorem rv_no (s : List UInt8) (p k N : Nat) (b : UInt8) (hk : k < 5) (hb : s[p + k]? = some b) (h : ¬ 127 < b.toNat) (hn : (b.toNat = 0 ∧ 0 < k) ∨ 1000000000 < N + b.toNat % 128 * 128 ^ k) :
    rv s p (5 - k) k N = none := by
  have e : 5 - k = (5 - (k + 1)) + 1 := by omega
  rw [e]
  simp only [rv, hb]
  rw [if_neg (by omega), if_pos hn]

theorem rv_yes (s : List UInt8) (p k N : Nat) (b : UInt8) (hk : k < 5) (hb : s[p + k]? = some b) (h : ¬ 127 < b.toNat) (hn : ¬ ((b.toNat = 0 ∧ 0 < k) ∨ 1000000000 < N + b.toNat % 128 * 128 ^ k)) :
    rv s p (5 - k) k N = some (N + b.toNat % 128 * 128 ^ k, p + k + 1) := by
  have e : 5 - k = (5 - (k + 1)) + 1 := by omega
  rw [e]
  simp only [rv, hb]
  rw [if_neg (by omega), if_neg hn]

theorem rv_end (s : List UInt8) (p k N : Nat) (h : ¬ (k < 5 ∧ p + k < s.length)) : rv s p (5 - k) k N = none := by
  by_cases hk : k < 5
  · have e : 5 - k = (5 - (k + 1)) + 1 := by omega
    rw [e]
    have hb : s[p + k]? = none := by simp; omega
    simp only [rv, hb]
  · have e : 5 - k = 0 := by omega
    rw [e]
    rfl

end Go.Proofs.YtmfoliocibjdnaaDoor.M
/-
  Laws on a slice of bytes that the call itself has made: appending to it, and making a string of it.
-/
namespace Go.Proofs.YtmfoliocibjdnaaDoor
open Go.RowKit

def bv (l : List UInt8) : List Value := l.map (fun b => Value.int .u8 (b.toNat : Int))

theorem bv_length (l : List UInt8) : (bv l).length = l.length := by simp [bv]
theorem bv_append (l r : List UInt8) : bv (l ++ r) = bv l ++ bv r := by simp [bv]
theorem bv_get (l : List UInt8) (j : Nat) (u : Value) (h : (bv l)[j]? = some u) : ∃ hj : j < l.length, u = .int .u8 (l[j].toNat : Int) := by
  unfold bv at h
  rw [List.getElem?_map] at h
  cases hl : l[j]? with
  | none => rw [hl] at h; simp at h
  | some b =>
    rw [hl] at h
    obtain ⟨hj, hb⟩ := List.getElem?_eq_some_iff.1 hl
    simp at h
    exact ⟨hj, by rw [hb]; exact h.symm⟩

theorem Tryd.info5 : (Tryd.prog.info? 5).map (fun i => (i.zero, i.size, i.bytes)) = some (some (.int .u8 0), 1, 1) := by kernel_rfl
theorem Tryd.info3 : (Tryd.prog.info? 3).map (fun i => (i.zero, i.size, i.bytes)) = some (some (.int .i64 0), 1, 8) := by kernel_rfl

/-- v owns the bytes l, in blocks from B on; below B all is as it was in w0 -/
def OB (B : Nat) (w0 w : World) (v : Value) (l : List UInt8) : Prop :=
  w.ownsRow B 5 1 v l.length (bv l) ∧ Below B w0 w ∧ B ≤ w.heap.size

theorem OB.alloc {B : Nat} {w0 w : World} {v : Value} {l : List UInt8} (h : OB B w0 w v l) (o : Obj) : OB B w0 (w.alloc o) v l :=
  ⟨h.1.alloc o, h.2.1.alloc h.2.2 o, by have := h.2.2; simp; omega⟩
theorem OB.drew {B : Nat} {w0 w : World} {v : Value} {l : List UInt8} (h : OB B w0 w v l) : OB B w0 w.drew v l :=
  ⟨h.1.drew, h.2.1.drew, h.2.2⟩

theorem OB.nil (w : World) : OB w.heap.size w w (.slice none 0 0) [] :=
  ⟨World.ownsRow_nil _ _ _ _, Below.refl _ _, Nat.le_refl _⟩

theorem OB.made (w : World) : OB w.heap.size w (w.alloc (.cells #[] 5)) (.slice (some ⟨w.heap.size, 0, none⟩) 0 0) [] :=
  ⟨World.ownsRow_made w #[] 0 (Nat.le_refl _) (by decide) (by simp), (Below.refl _ _).alloc (Nat.le_refl _) _, by simp⟩

theorem wp_app {w : World} {ops : Array Oper} {rest : List Oper} {o : Oper} {a : Act} {Q : Exit → Act → World → Prop} (hgd : o.guard = none) (s x : Operand)
    (ho : o.op = .call { callee := .builtin .append, args := #[s, x], argTypes := #[22, 22] })
    (B : Nat) (w0 : World) (v : Value) (l : List UInt8) (hs : a.eval s = v) (hown : OB B w0 w v l)
    (ad : Addr) (m c : Nat) (news : List UInt8) (hx : a.eval x = .slice (some ad) m c) (hm : news.length = m)
    (hnews : ∀ j u, (bv news)[j]? = some u → w.cell? (ad.add j) = some u) (hlen : l.length + m ≤ 1000000000)
    (h : ∀ v' w', OB B w0 w' v' (l ++ news) → wpList Tryd.prog ops Q rest (a.put o.dst v') w') : wpList Tryd.prog ops Q (o :: rest) a w := by
  obtain ⟨i0, hi, hz0, hz1, hz2⟩ := info_parts Tryd.info5
  refine wpList_append_own _ hgd s x 22 ho B 5 i0 (.int .u8 0) 1 1 Tryd.underlying22 hi hz0 hz1 hz2 rfl (by decide) v l.length (bv l) hs hown.1 ad m c (bv news) hx (by simp [bv, hm]) hnews
    (fun u hu => by simp [bv] at hu; obtain ⟨b, _, rfl⟩ := hu; rfl) (by unfold maxLen; omega) (by omega) hown.2.2 ?_
  intro v' w' h1 h2 _
  refine h v' w' ⟨by rw [List.length_append, bv_append, hm]; exact h1, hown.2.1.grown h2 hown.2.2 (fun k hk => (hown.1.lt k hk).1), ?_⟩
  exact Nat.le_trans hown.2.2 h2.size

/-- 'string(b)' of a slice that the call owns -/
theorem run_str {B : Nat} {w0 w : World} {v : Value} {l : List UInt8} (h : OB B w0 w v l) : (convert 22 9 v).run Tryd.prog w = .ok (.string ⟨l.toArray⟩) w := by
  rcases h.1.2 with ⟨rfl, hn⟩ | ⟨g, cap, cur, rfl, hb, hgg, hnc, hcm, hsz, htake⟩
  · have : l = [] := by simpa using hn
    subst this
    rw [run_convert_bytes_string w 22 9 5 none 0 0 Tryd.underlying22 Tryd.underlying5 Tryd.underlying9]
    unfold Conv.bytesToString
    rfl
  · refine run_convert_bytes_back w 22 9 5 ⟨g, 0, none⟩ cap l Tryd.underlying22 Tryd.underlying5 Tryd.underlying9 ?_
    intro j hj
    refine h.1.cells (g := g) rfl j _ ?_
    simp [bv, List.getElem?_eq_getElem hj]

end Go.Proofs.YtmfoliocibjdnaaDoor
/-
  What VarText answers, the program's and the specification's: the bytes varL of the number.
-/
namespace Go.Proofs.YtmfoliocibjdnaaDoor
open Go.RowKit

theorem one_byte (w : World) (x : Int) (b : UInt8) (t : TypeId) (h : x = (b.toNat : Int)) : ∀ j u, (bv [b])[j]? = some u → (w.alloc (.cells #[.int .u8 x] t)).cell? ((⟨w.heap.size, 0, none⟩ : Addr).add j) = some u := by
  intro j u hj
  obtain ⟨hj', rfl⟩ := bv_get _ _ _ hj
  have h0 : j = 0 := by simp at hj'; exact hj'
  subst h0
  subst h
  simp [Addr.add]

def hiB (m : Nat) : UInt8 := UInt8.ofNat (m % 128 + 128)
def loB (m : Nat) : UInt8 := UInt8.ofNat m
theorem byte_hi (m : Nat) : ((m : Int) % 128 + 128) = ((hiB m).toNat : Int) := by
  unfold hiB; simp; omega
theorem byte_lo (m : Nat) (h : m ≤ 127) : (m : Int) = ((loB m).toNat : Int) := by
  unfold loB; simp; omega

/-- what the loop of VarText holds at each round's head: so many bytes are written, and those of the rest make the whole -/
def VarRel (n : Nat) (w : World) (x v : Value) (wr : World) : Prop :=
  ∃ (m f : Nat) (pre : List UInt8), m ≤ n ∧ m < 128 ^ (f + 1) ∧ x = .int .i64 m ∧ OB w.heap.size w wr v pre ∧ pre.length ≤ 10 ∧ pre ++ M.varF f m = M.varL n

theorem VarRel.step {n m f : Nat} {pre : List UInt8} (h : 127 < m) (hf : m < 128 ^ (f + 1)) (he : pre ++ M.varF f m = M.varL n) :
    ∃ f', m / 128 < 128 ^ (f' + 1) ∧ (pre ++ [hiB m]) ++ M.varF f' (m / 128) = M.varL n ∧ (pre ++ [hiB m]).length ≤ 10 := by
  cases f with
  | zero => simp at hf; omega
  | succ f =>
    rw [M.varF_big _ _ h] at he
    change pre ++ hiB m :: M.varF f (m / 128) = M.varL n at he
    refine ⟨f, ?_, by simpa using he, ?_⟩
    · have : m < 128 ^ (f + 1) * 128 := by rw [← Nat.pow_succ]; exact hf
      omega
    · have h1 := M.varL_len n
      rw [← he] at h1
      simp at h1 ⊢
      omega

set_option maxHeartbeats 400000 in
theorem l01Var_any (n : Nat) (w : World) (hn : n ≤ 1000000000) :
    Calls Tryd.prog 144 #[.int .i64 n] w fun e w' => e = .returned (.string ⟨(M.varL n).toArray⟩) ∧ Below w.heap.size w w' := by
  go_enter Tryd.func144, Tryd.ntmps144
  go_wp2
  go_loopw [0, 3] (fun x v wr => VarRel n w x v wr) (fun x _ _ => (intOf x).toNat)
  case atStart => exact ⟨n, 9, [], Nat.le_refl _, by omega, rfl, OB.made w, by simp, rfl⟩
  case round =>
    obtain ⟨m, f, pre, hmn, hmf, rfl, hown, hpl, he⟩ := hrel
    by_cases h : 127 < m
    · obtain ⟨f', h1, h2, h3⟩ := VarRel.step h hmf he
      have H2 : Hid ((pre ++ [hiB m]) ++ M.varF f' (m / 128) = M.varL n) := h2
      clear h2 he hmf
      go_wp2_with (at_builtin; refine wp_app rfl _ _ rfl w.heap.size w _ pre rfl (hown.alloc _) ⟨wr.heap.size, 0, none⟩ 1 1 [hiB m] rfl rfl ?c1 ?c2 ?_)
      case c1 => exact one_byte _ _ _ _ (byte_hi m)
      case c2 => omega
      intro v' w1 hown'
      go_wp2
      go_roundw
      case rel => exact ⟨m / 128, f', _, by omega, h1, by go_num, hown', h3, H2.out⟩
      case measure => simp [intOf]; omega
    · have he' : pre ++ [loB m] = M.varL n := by rw [M.varF_small f m (by omega)] at he; exact he
      have H2 : Hid (pre ++ [loB m] = M.varL n) := he'
      clear he' he hmf
      go_wp2_with (at_builtin; refine wp_app rfl _ _ rfl w.heap.size w _ pre rfl (hown.alloc _) ⟨wr.heap.size, 0, none⟩ 1 1 [loB m] rfl rfl ?c3 ?c4 ?_)
      case c3 => exact one_byte _ _ _ _ (byte_lo m (by omega))
      case c4 => omega
      intro v' w1 hown'
      have hcv := run_str hown'
      go_wp2
      go_ret
      exact ⟨by rw [H2.out]; rfl, hown'.2.1⟩


set_option maxHeartbeats 400000 in
theorem VarText_yes (n : Nat) (w : World) (hn : n ≤ 1000000000) :
    Calls Tryd.prog 152 #[.int .i64 n] w fun e w' => e = .returned (.tuple #[.string ⟨(M.varL n).toArray⟩, .bool true]) ∧ Below w.heap.size w w' := by
  go_enter Tryd.func152, Tryd.ntmps152
  go_wp2
  go_loopw [0, 4] (fun x v wr => VarRel n w x v wr) (fun x _ _ => (intOf x).toNat)
  case atStart => exact ⟨n, 9, [], Nat.le_refl _, by omega, rfl, OB.nil w, by simp, rfl⟩
  case round =>
    obtain ⟨m, f, pre, hmn, hmf, rfl, hown, hpl, he⟩ := hrel
    by_cases h : 127 < m
    · obtain ⟨f', h1, h2, h3⟩ := VarRel.step h hmf he
      have H2 : Hid ((pre ++ [hiB m]) ++ M.varF f' (m / 128) = M.varL n) := h2
      clear h2 he hmf
      go_wp2_with (at_builtin; refine wp_app rfl _ _ rfl w.heap.size w _ pre rfl (hown.alloc _) ⟨wr.heap.size, 0, none⟩ 1 1 [hiB m] rfl rfl ?c1 ?c2 ?_)
      case c1 => exact one_byte _ _ _ _ (byte_hi m)
      case c2 => omega
      intro v' w1 hown'
      go_wp2
      go_roundw
      case rel => exact ⟨m / 128, f', _, by omega, h1, by go_num, hown', h3, H2.out⟩
      case measure => simp [intOf]; omega
    · have he' : pre ++ [loB m] = M.varL n := by rw [M.varF_small f m (by omega)] at he; exact he
      have H2 : Hid (pre ++ [loB m] = M.varL n) := he'
      clear he' he hmf
      go_wp2_with (at_builtin; refine wp_app rfl _ _ rfl w.heap.size w _ pre rfl (hown.alloc _) ⟨wr.heap.size, 0, none⟩ 1 1 [loB m] rfl rfl ?c3 ?c4 ?_)
      case c3 => exact one_byte _ _ _ _ (byte_lo m (by omega))
      case c4 => omega
      intro v' w1 hown'
      have hcv := run_str hown'
      go_wp2
      go_ret2
      exact ⟨by rw [H2.out]; rfl, hown'.2.1⟩

theorem VarText_no (n : Int) (w : World) (hn : n < 0 ∨ 1000000000 < n) :
    Calls Tryd.prog 152 #[.int .i64 n] w fun e w' => e = .returned (.tuple #[.string ⟨#[]⟩, .bool false]) ∧ Below w.heap.size w w' := by
  rcases hn with h | h
  · go_enter Tryd.func152, Tryd.ntmps152
    go_wp2
    go_ret2
    exact ⟨rfl, Below.refl _ _⟩
  · have h' : ¬ n < 0 := by omega
    go_enter Tryd.func152, Tryd.ntmps152
    go_wp2
    go_ret2
    exact ⟨rfl, Below.refl _ _⟩

theorem l01In_any (x a b : Int) (w : World) : Calls Tryd.prog 94 #[.int .i64 x, .int .i64 a, .int .i64 b] w fun e w' => e = .returned (.bool (decide (a ≤ x ∧ x ≤ b))) ∧ w' = w := by
  by_cases h1 : a ≤ x
  · by_cases h2 : x ≤ b
    · go_enter Tryd.func94, Tryd.ntmps94
      go_wp2
      go_ret
      exact ⟨by simp [h1, h2], rfl⟩
    · go_enter Tryd.func94, Tryd.ntmps94
      go_wp2
      go_ret
      exact ⟨by simp [h2], rfl⟩
  · go_enter Tryd.func94, Tryd.ntmps94
    go_wp2
    go_ret
    exact ⟨by simp; omega, rfl⟩

end Go.Proofs.YtmfoliocibjdnaaDoor
/-
  What ShortText answers, the program's and the specification's: varL of the length, and the text.
-/
namespace Go.Proofs.YtmfoliocibjdnaaDoor
open Go.RowKit

theorem varA_size (n : Nat) : (⟨(M.varL n).toArray⟩ : ByteArray).size ≤ 10 := by
  have := M.varL_len n
  show (M.varL n).toArray.size ≤ 10
  simpa using this

theorem Short_yes (s : ByteArray) (w : World) (hs : s.size ≤ 20000) :
    Calls Tryd.prog 116 #[.string s] w fun e w' => e = .returned (.tuple #[.string (⟨(M.varL s.size).toArray⟩ ++ s), .bool true]) ∧ Below w.heap.size w w' := by
  have hz := varA_size s.size
  go_enter Tryd.func116, Tryd.ntmps116
  go_wp2_with fail
  refine (VarText_yes s.size _ (by omega)).mono ?_
  rintro e w' ⟨rfl, hb⟩
  go_wp2
  go_ret2
  exact ⟨rfl, hb⟩

theorem Short_no (s : ByteArray) (w : World) (hs : 20000 < s.size) (hm : s.size ≤ 1048576) :
    Calls Tryd.prog 116 #[.string s] w fun e w' => e = .returned (.tuple #[.string ⟨#[]⟩, .bool false]) ∧ Below w.heap.size w w' := by
  go_enter Tryd.func116, Tryd.ntmps116
  go_wp2
  go_ret2
  exact ⟨rfl, Below.refl _ _⟩

end Go.Proofs.YtmfoliocibjdnaaDoor
/-
  What Hex answers, the program's and the specification's: two figures for each byte.
-/
namespace Go.Proofs.YtmfoliocibjdnaaDoor
open Go.RowKit
set_option linter.unusedVariables false

/-- the figure of a number below 16 -/
def fig (x : Nat) : UInt8 := if x < 10 then UInt8.ofNat (48 + x) else UInt8.ofNat (87 + x)
def hexL (l : List UInt8) : List UInt8 := l.flatMap (fun b => [fig (b.toNat / 16), fig (b.toNat % 16)])

theorem fig_nat (x : Nat) (h : x < 16) : (fig x).toNat = if x < 10 then 48 + x else 87 + x := by
  unfold fig
  split <;> simp <;> omega

theorem l01Figure_any (x : Nat) (w : World) (h : x < 16) :
    Calls Tryd.prog 96 #[.int .i64 x] w fun e w' => e = .returned (.int .u8 (fig x).toNat) ∧ w' = w := by
  have hf := fig_nat x h
  by_cases hx : x < 10
  · rw [if_pos hx] at hf
    rw [hf]
    go_enter Tryd.func96, Tryd.ntmps96
    go_wp2
    go_ret
    exact ⟨by go_num, rfl⟩
  · rw [if_neg hx] at hf
    rw [hf]
    go_enter Tryd.func96, Tryd.ntmps96
    go_wp2
    go_ret
    exact ⟨by go_num, rfl⟩

theorem step_app {w : World} {ops : Array Oper} {o : Oper} {a : Act} {K : Act → World → Prop} {Q : Exit → Act → World → Prop} {E : Prop} (hg : o.guard = none) (s x : Operand)
    (hop : o.op = .call { callee := .builtin .append, args := #[s, x], argTypes := #[22, 22] })
    (B : Nat) (w0 : World) (v : Value) (l : List UInt8) (hs : a.eval s = v) (hown : OB B w0 w v l)
    (ad : Addr) (m c : Nat) (news : List UInt8) (hx : a.eval x = .slice (some ad) m c) (hm : news.length = m)
    (hnews : ∀ j u, (bv news)[j]? = some u → w.cell? (ad.add j) = some u) (hlen : l.length + m ≤ 1000000000)
    (hK : ∀ v' w', OB B w0 w' v' (l ++ news) → K (a.put o.dst v') w') : if Region.wanted o (yielded ops a.tmps) = true then Oper.wp Tryd.prog o a w K Q else E := by
  obtain ⟨i0, hi, hz0, hz1, hz2⟩ := info_parts Tryd.info5
  obtain ⟨v', w', hrun, h1, h2, _⟩ := run_append_own (P := Tryd.prog) w B 22 o.type 5 i0 (.int .u8 0) 1 1 Tryd.underlying22 hi hz0 hz1 hz2 rfl (by decide) v l.length (bv l) hown.1 ad m c (bv news) (by simp [bv, hm]) hnews
    (fun u hu => by simp [bv] at hu; obtain ⟨b, _, rfl⟩ := hu; rfl) (by unfold maxLen; omega) (by omega) hown.2.2
  have hOB : OB B w0 w' v' (l ++ news) := ⟨by rw [List.length_append, bv_append, hm]; exact h1, hown.2.1.grown h2 hown.2.2 (fun k hk => (hown.1.lt k hk).1), Nat.le_trans hown.2.2 h2.size⟩
  have hw : Region.wanted o (yielded ops a.tmps) = true := by simp [Region.wanted, hg]
  rw [if_pos hw]
  unfold Oper.wp
  simp [execOp, hop, resolve, invoke, builtin, hs, hx, hrun, Result.andThen]
  exact hK v' w' hOB

theorem two_bytes (w : World) (x y : Int) (b c : UInt8) (t : TypeId) (hx : x = (b.toNat : Int)) (hy : y = (c.toNat : Int)) : ∀ j u, (bv [b, c])[j]? = some u → (w.alloc (.cells #[.int .u8 x, .int .u8 y] t)).cell? ((⟨w.heap.size, 0, none⟩ : Addr).add j) = some u := by
  intro j u hj
  obtain ⟨hj', rfl⟩ := bv_get _ _ _ hj
  subst hx
  subst hy
  have h0 : j = 0 ∨ j = 1 := by simp at hj'; omega
  rcases h0 with rfl | rfl <;> simp [Addr.add]

/-- 'make([]byte, 0, n)' -/
theorem run_mk (n : Nat) (h : n ≤ 1000000000) (W : World) : ∃ M : Array Value, (Instr.makeSlice 22 (.int .i64 0) (.int .i64 (n : Int))).run Tryd.prog W = .ok (.slice (some ⟨W.heap.size, 0, none⟩) 0 n) (W.alloc (.cells M 5)) ∧ OB W.heap.size W (W.alloc (.cells M 5)) (.slice (some ⟨W.heap.size, 0, none⟩) 0 n) [] := by
  obtain ⟨i0, hi, hz0, hz1, hz2⟩ := info_parts Tryd.info5
  have h1 := run_make (P := Tryd.prog) W 22 5 i0 (.int .u8 0) Tryd.underlying22 hi hz0 .i64 .i64 0 (n : Int) (by omega) (by omega) (by rw [hz2]; omega) (by omega)
  refine ⟨madeCells (Value.int .u8 0).cells (((n : Nat) : Int).toNat * i0.size), by simpa using h1, ?_⟩
  refine ⟨World.ownsRow_made W _ n (Nat.le_refl _) (by unfold maxLen; omega) ?_, (Below.refl _ _).alloc (Nat.le_refl _) _, by simp⟩
  rw [size_madeCells, hz1]
  simp

def figs : ByteArray := ⟨#[48, 49, 50, 51, 52, 53, 54, 55, 56, 57, 97, 98, 99, 100, 101, 102]⟩
theorem figs_at : ∀ x : Fin 16, figs[x.val]? = some (fig x.val) := by decide
theorem run_fig (x : Int) (h0 : 0 ≤ x) (h1 : x < 16) (w : World) : (Instr.index 9 (.string ⟨#[48, 49, 50, 51, 52, 53, 54, 55, 56, 57, 97, 98, 99, 100, 101, 102]⟩) (.int .u8 x)).run Tryd.prog w = .ok (.int .u8 ((fig x.toNat).toNat : Int)) w := by
  obtain ⟨n, rfl⟩ := Int.eq_ofNat_of_zero_le h0
  have h2 := figs_at ⟨n, by omega⟩
  have h3 : figs.size = 16 := rfl
  show (Instr.index 9 (.string figs) (.int .u8 (n : Int))).run Tryd.prog w = _
  rw [run_index_string (P := Tryd.prog) (w := w) 9 figs .u8 _ Tryd.underlying9]
  rw [dif_pos ⟨by omega, by rw [h3]; omega⟩]
  simp only [Int.toNat_natCast] at h2 ⊢
  have h4 : figs[n]? = some (figs[n]'(by rw [h3]; omega)) := getElem?_pos ..
  rw [h4] at h2
  simp only [Option.some.injEq] at h2
  rw [h2]

end Go.Proofs.YtmfoliocibjdnaaDoor
/-
  What ReadVar answers, the program's and the specification's: M.readVar of the text and the place.
-/
namespace Go.Proofs.YtmfoliocibjdnaaDoor
open Go.RowKit
set_option linter.unusedVariables false

/-- the three results of ReadVar -/
def rvOut : Option (Nat × Nat) → Array Value
  | none => #[.int .i64 0, .int .i64 0, .bool false]
  | some (n, q) => #[.int .i64 n, .int .i64 q, .bool true]

theorem ReadVar_out (s : ByteArray) (p : Int) (w : World) (hs : s.size ≤ 1048576) (hp : p < 0 ∨ (s.size : Int) < p) :
    Calls Tryd.prog 153 #[.string s, .int .i64 p] w fun e w' => e = .returned (.tuple (rvOut none)) ∧ w' = w := by
  rcases hp with h | h
  · go_enter Tryd.func153, Tryd.ntmps153
    go_wp2
    go_ret3
    exact ⟨rfl, rfl⟩
  · have h' : ¬ p < 0 := by omega
    go_enter Tryd.func153, Tryd.ntmps153
    go_wp2
    go_ret3
    exact ⟨rfl, rfl⟩

theorem get_l (s : ByteArray) (j : Nat) (h : j < s.size) : s.data.toList[j]? = some s[j] := by
  simp [ByteArray.getElem_eq_getElem_data]

/-- what the loop of ReadVar holds at each round's head -/
def ReadRel (s : ByteArray) (p : Nat) (n i : Value) : Prop :=
  ∃ k N : Nat, k ≤ 5 ∧ p + k ≤ s.size ∧ i = .int .i64 k ∧ n = .int .i64 N ∧ N < 128 ^ k ∧ M.readVar s.data.toList p = M.rv s.data.toList p (5 - k) k N

theorem tuple_none {o : Option (Nat × Nat)} (h : o = none) : Ending.returned (.tuple #[.int .i64 0, .int .i64 0, .bool false]) = .returned (.tuple (rvOut o)) := by rw [h]; rfl
theorem tuple_some {o : Option (Nat × Nat)} {a b : Int} {n q : Nat} (h : o = some (n, q)) (ha : a = n) (hb : b = q) : Ending.returned (.tuple #[.int .i64 a, .int .i64 b, .bool true]) = .returned (.tuple (rvOut o)) := by rw [h, ha, hb]; rfl

set_option maxHeartbeats 1000000 in
theorem ReadVar_in (s : ByteArray) (p : Nat) (w : World) (hs : s.size ≤ 1048576) (hp : p ≤ s.size) :
    Calls Tryd.prog 153 #[.string s, .int .i64 p] w fun e w' => e = .returned (.tuple (rvOut (M.readVar s.data.toList p))) ∧ w' = w := by
  have hp0 : ¬ ((p : Int) < 0) := by omega
  have hp1 : ¬ (s.size : Int) < (p : Int) := by omega
  by_cases h5 : 5 < s.size - p
  all_goals
    go_enter Tryd.func153, Tryd.ntmps153
    go_wp2
    go_loop [7, 23] (fun n i => ReadRel s p n i) (fun _ i => 5 - (intOf i).toNat)
    case atStart => exact ⟨0, 0, by omega, by omega, rfl, rfl, by omega, rfl⟩
    case round =>
      obtain ⟨k, N, hk, hpk, rfl, rfl, hN, he⟩ := hrel
      have HE : Hid (M.readVar s.data.toList p = M.rv s.data.toList p (5 - k) k N) := he
      clear he
      by_cases hkk : k < 5 ∧ p + k < s.size
      · obtain ⟨hk5, hlt⟩ := hkk
        have hb : s[p + k].toNat < 256 := s[p + k].toNat_lt
        have hx : 0 ≤ (s[p + k].toNat : Int) % 128 * 2 ^ (7 * k) ∧ (s[p + k].toNat : Int) % 128 * 2 ^ (7 * k) ≤ 34359738368 := by
          rw [M.sh_eq]
          have := M.sh_le s[p + k].toNat k (by omega)
          omega
        obtain ⟨hx0, hx1⟩ := hx
        have hN5 : N ≤ 268435456 := Nat.le_trans (Nat.le_of_lt hN) (M.pow_le5 k (by omega))
        have hacc := M.acc_lt N s[p + k].toNat k hN
        have HX : Hid ((s[p + k].toNat : Int) % 128 * 2 ^ (7 * k) = ((s[p + k].toNat % 128 * 128 ^ k : Nat) : Int)) := M.sh_eq _ _
        have hget := get_l s (p + k) hlt
        have HG : Hid (s.data.toList[p + k]? = some s[p + k]) := hget
        clear hget
        by_cases hbb : 127 < s[p + k].toNat
        · go_wp2
          go_round
          case rel =>
            refine ⟨k + 1, N + s[p + k].toNat % 128 * 128 ^ k, by omega, by omega, by go_num, ?_, hacc, ?_⟩
            · have hxe := HX.out
              congr 1
              omega
            · rw [HE.out, M.rv_more _ _ _ _ _ hk5 HG.out hbb]
          case measure => simp [intOf]; omega
        · have HT : Hid (s[p + k].toNat = 0 → s[p + k].toNat % 128 * 128 ^ k = 0) := fun h => by rw [h]; simp
          go_wp2
          all_goals
            go_ret3
            refine ⟨?_, rfl⟩
            have hxe := HX.out
            have hT0 := HT.out
            by_cases hd : (s[p + k].toNat = 0 ∧ 0 < k) ∨ 1000000000 < N + s[p + k].toNat % 128 * 128 ^ k
            · have hv := HE.out.trans (M.rv_no _ _ _ _ _ hk5 HG.out hbb hd)
              first | exact tuple_none hv | (exfalso; omega)
            · have hv := HE.out.trans (M.rv_yes _ _ _ _ _ hk5 HG.out hbb hd)
              first | (exfalso; omega) | (refine tuple_some hv ?_ ?_ <;> omega)
      · go_wp2
        go_ret3
        exact ⟨tuple_none (by rw [HE.out, M.rv_end _ _ _ _ (by simpa using hkk)]), rfl⟩

end Go.Proofs.YtmfoliocibjdnaaDoor
/-
  What the specification's ReadVar answers: M.readVar of the text and the place.
-/
namespace Go.Proofs.YtmfoliocibjdnaaDoor
open Go.RowKit
set_option linter.unusedVariables false

theorem hide {p : Prop} (h : p) : Hid p := h
theorem unhide {p : Prop} (h : Hid p) : p := h

/-- the bytes that were read so far -/
def got (s : ByteArray) (p k : Nat) : List UInt8 := (s.data.toList.drop p).take k

def sReadRel (s : ByteArray) (p : Nat) (n sc i : Value) : Prop :=
  ∃ k N S : Nat, k ≤ 5 ∧ p + k ≤ s.size ∧ i = .int .i64 (p + k : Nat) ∧ n = .int .i64 N ∧ sc = .int .i64 S ∧ Hid (S = 128 ^ k) ∧ Hid (N < 128 ^ k) ∧ Hid (M.readVar s.data.toList p = M.rv s.data.toList p (5 - k) k N) ∧
    Hid (∀ b ∈ got s p k, 127 < b.toNat) ∧ Hid (N = M.val (got s p k))

/-- what the round of ReadVar needs of its product -/
theorem prod_le (b k S : Nat) (hS : S = 128 ^ k) (hk : k ≤ 4) : 0 ≤ (b : Int) % 128 * (S : Int) ∧ (b : Int) % 128 * (S : Int) ≤ 34359738368 ∧ (b : Int) % 128 * (S : Int) = ((b % 128 * 128 ^ k : Nat) : Int) := by
  have e : (b : Int) % 128 * (S : Int) = ((b % 128 * 128 ^ k : Nat) : Int) := by rw [hS]; simp
  have := M.sh_le b k hk
  rw [e]
  omega

/-- the bytes of a number, and the piece of the text that is held against them -/
def subB (s : ByteArray) (p k : Nat) : ByteArray := s.extract p (p + k + 1)
def varB (n : Nat) : ByteArray := ⟨(M.varL n).toArray⟩

theorem run_sub (s : ByteArray) (p k : Nat) (h : p + k < s.size) (hs : s.size ≤ 1048576) (w : World) :
    (Instr.slice 9 (.string s) (some (.int .i64 (p : Int))) (some (.int .i64 (IntKind.i64.wrap ((p : Int) + (k : Int) + 1)))) none).run Tryd.prog w = .ok (.string (subB s p k)) w := by
  rw [IntWalk.i64_in _ (by omega), run_slice_string w 9 s .i64 .i64 _ _ Tryd.underlying9 (by omega) (by omega) (by omega)]
  have e : ((p : Int) + (k : Int) + 1).toNat = p + k + 1 := by omega
  rw [e]
  rfl

theorem below_dn {B : Nat} {a w : World} (h : Below B a w) (n : Nat) : Below B a (w.drewN n) := h.trans ⟨rfl, rfl, rfl, Nat.le_refl _, fun _ _ => rfl⟩

theorem val_snoc : ∀ (l : List UInt8) (b : UInt8), M.val (l ++ [b]) = M.val l + b.toNat % 128 * 128 ^ l.length
  | [], b => by simp [M.val]
  | a :: l, b => by
    have ih := val_snoc l b
    have e : 128 * (b.toNat % 128 * 128 ^ l.length) = b.toNat % 128 * (128 ^ l.length * 128) := by rw [Nat.mul_left_comm, Nat.mul_comm 128 (128 ^ l.length)]
    simp only [List.cons_append, M.val, ih, List.length_cons, Nat.pow_succ]
    rw [Nat.mul_add, e, ← Nat.add_assoc]

theorem shaped_snoc : ∀ (l : List UInt8) (b : UInt8), (∀ x ∈ l, 127 < x.toNat) → ¬ 127 < b.toNat → M.shaped (l ++ [b])
  | [], b, _, hb => by simp only [List.nil_append, M.shaped]; omega
  | [a], b, h, hb => by
    have := h a (by simp)
    simp only [List.cons_append, List.nil_append, M.shaped]
    omega
  | a :: c :: l, b, h, hb => by
    have h1 := h a (by simp)
    have ih := shaped_snoc (c :: l) b (fun x hx => h x (by simp [hx])) hb
    simp only [List.cons_append, M.shaped] at ih ⊢
    exact ⟨by omega, ih⟩

theorem got_len (s : ByteArray) (p k : Nat) (h : p + k ≤ s.size) : (got s p k).length = k := by
  have : s.data.toList.length = s.size := Array.length_toList
  unfold got
  rw [List.length_take, List.length_drop, this]
  omega

theorem got_succ (s : ByteArray) (p k : Nat) (h : p + k < s.size) : got s p (k + 1) = got s p k ++ [s[p + k]] := by
  unfold got
  rw [List.take_add_one]
  congr 1
  rw [List.getElem?_drop, get_l s (p + k) h]
  rfl

theorem sub_list (s : ByteArray) (p k : Nat) : (subB s p k).data.toList = got s p (k + 1) := by
  unfold subB got
  simp [ByteArray.data_extract, List.extract_eq_take_drop, Nat.add_assoc]

theorem canon_sub (s : ByteArray) (p k N : Nat) (hk : k < 5) (hlt : p + k < s.size) (hall : ∀ b ∈ got s p k, 127 < b.toNat) (hval : N = M.val (got s p k)) (hb : ¬ 127 < s[p + k].toNat) :
    ((varB (N + s[p + k].toNat % 128 * 128 ^ k)).toList == (subB s p k).toList) = !decide (s[p + k].toNat = 0 ∧ 0 < k) := by
  have hl := got_len s p k (by omega)
  have hv : N + s[p + k].toNat % 128 * 128 ^ k = M.val (got s p k ++ [s[p + k]]) := by rw [val_snoc, hl, hval]
  have hc := M.canon 9 (got s p k ++ [s[p + k]]) (shaped_snoc _ _ hall hb) (by simp [hl]; omega)
  have e1 : (varB (N + s[p + k].toNat % 128 * 128 ^ k)).toList = M.varF 9 (M.val (got s p k ++ [s[p + k]])) := by
    rw [hv, ByteArray.toList_eq]
    rfl
  have e2 : (subB s p k).toList = got s p k ++ [s[p + k]] := by
    rw [ByteArray.toList_eq, sub_list, got_succ s p k hlt]
  rw [e1, e2]
  rw [Bool.eq_iff_iff]
  simp only [beq_iff_eq, Bool.not_eq_true', decide_eq_false_iff_not]
  rw [hc]
  have h3 : (got s p k ++ [s[p + k]]).getLast? = some s[p + k] := by simp
  have h4 : (got s p k ++ [s[p + k]]).length = k + 1 := by simp [hl]
  rw [h3, h4]
  have h5 : (s[p + k] = 0) ↔ s[p + k].toNat = 0 := by
    constructor
    · intro h; rw [h]; rfl
    · intro h; exact UInt8.toNat_inj.1 (by simpa using h)
  simp only [ne_eq, Option.some.injEq, h5]
  omega

theorem l01Var_int (x : Int) (w : World) (h0 : 0 ≤ x) (h1 : x ≤ 1000000000) :
    Calls Tryd.prog 144 #[.int .i64 x] w fun e w' => e = .returned (.string (varB x.toNat)) ∧ Below w.heap.size w w' := by
  obtain ⟨n, rfl⟩ := Int.eq_ofNat_of_zero_le h0
  exact l01Var_any n w (by omega)

theorem ReadVar_none (s : ByteArray) (p : Int) (w : World) (hs : s.size ≤ 1048576) (h : ¬ (0 ≤ p ∧ p ≤ (s.size : Int)) ∨ (0 ≤ p ∧ p ≤ (s.size : Int)) ∧ M.readVar s.data.toList p.toNat = none) :
    Calls Tryd.prog 153 #[.string s, .int .i64 p] w fun e w' => e = .returned (.tuple #[.int .i64 0, .int .i64 0, .bool false]) ∧ w' = w := by
  rcases h with h | ⟨h, ho⟩
  · exact ReadVar_out s p w hs (by omega)
  · obtain ⟨n, rfl⟩ := Int.eq_ofNat_of_zero_le h.1
    have hc := ReadVar_in s n w hs (by omega)
    rw [Int.toNat_natCast] at ho
    rw [ho] at hc
    exact hc

theorem ReadVar_some (s : ByteArray) (p : Int) (n q : Nat) (w : World) (hs : s.size ≤ 1048576) (h : 0 ≤ p ∧ p ≤ (s.size : Int)) (ho : M.readVar s.data.toList p.toNat = some (n, q)) :
    Calls Tryd.prog 153 #[.string s, .int .i64 p] w fun e w' => e = .returned (.tuple #[.int .i64 n, .int .i64 q, .bool true]) ∧ w' = w := by
  obtain ⟨m, rfl⟩ := Int.eq_ofNat_of_zero_le h.1
  have hc := ReadVar_in s m w hs (by omega)
  rw [Int.toNat_natCast] at ho
  rw [ho] at hc
  exact hc

theorem read_cases (s : ByteArray) (p : Int) : (¬ (0 ≤ p ∧ p ≤ (s.size : Int)) ∨ (0 ≤ p ∧ p ≤ (s.size : Int)) ∧ M.readVar s.data.toList p.toNat = none) ∨ ∃ n q, (0 ≤ p ∧ p ≤ (s.size : Int)) ∧ M.readVar s.data.toList p.toNat = some (n, q) := by
  by_cases h : 0 ≤ p ∧ p ≤ (s.size : Int)
  · cases ho : M.readVar s.data.toList p.toNat with
    | none => exact .inl (.inr ⟨h, rfl⟩)
    | some x => exact .inr ⟨x.1, x.2, h, rfl⟩
  · exact .inl (.inl h)

end Go.Proofs.YtmfoliocibjdnaaDoor
