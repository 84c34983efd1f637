/-
  Texts laid together: Math, Own, Draw, Var.
-/
import Derived.Test.YtaejeemjndmjcaaDoorRows
import Derived.WalkKit
import Derived.Deep.QuietTactic
import Derived.BigQuiet
import Derived.Maps.AppendAt
/-
  Plain facts on numbers in bytes: how VarText writes a number, and how it is read again.
-/
namespace Go.Proofs.YtaejeemjndmjcaaDoor.M

def varF : Nat → Nat → List UInt8
  | 0, n => [UInt8.ofNat n]
  | f + 1, n => if n ≤ 127 then [UInt8.ofNat n] else UInt8.ofNat (n % 128 + 128) :: varF f (n / 128)

def varL (n : Nat) : List UInt8 := varF 9 n

theorem varF_small (f n : Nat) (h : n ≤ 127) : varF f n = [UInt8.ofNat n] := by
  cases f with
  | zero => rfl
  | succ f => simp [varF, h]

theorem varF_big (f n : Nat) (h : 127 < n) : varF (f + 1) n = UInt8.ofNat (n % 128 + 128) :: varF f (n / 128) := by
  simp [varF]; omega

theorem varF_len (f n : Nat) : (varF f n).length ≤ f + 1 := by
  induction f generalizing n with
  | zero => simp [varF]
  | succ f ih =>
    simp only [varF]
    split
    · simp
    · have := ih (n / 128); simp; omega

theorem varL_len (n : Nat) : (varL n).length ≤ 10 := varF_len 9 n

/-- the value of bytes, seven bits each, the lowest first -/
def val : List UInt8 → Nat
  | [] => 0
  | b :: r => b.toNat % 128 + 128 * val r

/-- all but the last have their highest bit, the last has it not -/
def shaped : List UInt8 → Prop
  | [] => False
  | [b] => b.toNat < 128
  | b :: c :: r => 128 ≤ b.toNat ∧ shaped (c :: r)

theorem ofNat_toNat (b : UInt8) (n : Nat) (h : n = b.toNat) : UInt8.ofNat n = b := by
  subst h; simp

theorem val_zero : ∀ (l : List UInt8), shaped l → val l = 0 → ∃ a : UInt8, l.getLast? = some a ∧ a = 0
  | [], h, _ => h.elim
  | [b], h, hv => by
    simp only [shaped] at h
    simp only [val] at hv
    exact ⟨b, rfl, by
      have : b.toNat = 0 := by omega
      exact UInt8.toNat_inj.1 (by simpa using this)⟩
  | b :: c :: r, h, hv => by
    simp only [shaped] at h
    have hv' : val (c :: r) = 0 := by
      rw [val] at hv
      omega
    obtain ⟨a, ha, h0⟩ := val_zero (c :: r) h.2 hv'
    exact ⟨a, by simpa using ha, h0⟩

theorem val_pos : ∀ (l : List UInt8), shaped l → l.getLast? ≠ some 0 → 1 ≤ val l := by
  intro l h hl
  rcases Nat.eq_zero_or_pos (val l) with h0 | h0
  · obtain ⟨a, ha, rfl⟩ := val_zero l h h0
    exact absurd ha hl
  · exact h0

theorem canon : ∀ (f : Nat) (l : List UInt8), shaped l → l.length ≤ f + 1 → (varF f (val l) = l ↔ (l.length = 1 ∨ l.getLast? ≠ some 0))
  | f, [], h, _ => h.elim
  | f, [b], h, _ => by
    simp only [shaped] at h
    have e : val [b] = b.toNat := by simp only [val]; omega
    rw [e, varF_small f _ (by omega)]
    simp
  | 0, b :: c :: r, h, hl => by simp at hl
  | f + 1, b :: c :: r, h, hl => by
    simp only [shaped] at h
    have hv : val (b :: c :: r) = b.toNat % 128 + 128 * val (c :: r) := rfl
    have hb : b.toNat < 256 := b.toNat_lt
    have ih := canon f (c :: r) h.2 (by simp at hl ⊢; omega)
    have hlast : (b :: c :: r).getLast? = (c :: r).getLast? := by simp
    rcases Nat.eq_zero_or_pos (val (c :: r)) with h0 | h0
    · obtain ⟨a, ha, rfl⟩ := val_zero _ h.2 h0
      rw [hv, h0, varF_small _ _ (by omega), hlast, ha]
      simp
    · rw [hv, varF_big _ _ (by omega)]
      have e1 : (b.toNat % 128 + 128 * val (c :: r)) / 128 = val (c :: r) := by omega
      have e2 : UInt8.ofNat ((b.toNat % 128 + 128 * val (c :: r)) % 128 + 128) = b := ofNat_toNat b _ (by omega)
      rw [e1, e2, hlast]
      constructor
      · intro he
        have he' : varF f (val (c :: r)) = c :: r := by simpa using he
        rcases ih.1 he' with h1 | h1
        · right
          have hr : r = [] := by simpa using h1
          subst hr
          intro hc
          simp at hc
          subst hc
          simp [val] at h0
        · exact .inr h1
      · intro he
        rcases he with h1 | h1
        · simp at h1
        · rw [ih.2 (.inr h1)]

/-- reading a number: fuel, how many bytes were read, what they made -/
def rv (s : List UInt8) (p : Nat) : Nat → Nat → Nat → Option (Nat × Nat)
  | 0, _, _ => none
  | f + 1, i, n =>
    match s[p + i]? with
    | none => none
    | some b =>
      if 128 ≤ b.toNat then rv s p f (i + 1) (n + b.toNat % 128 * 128 ^ i)
      else if (b.toNat = 0 ∧ 0 < i) ∨ 1000000000 < n + b.toNat % 128 * 128 ^ i then none
      else some (n + b.toNat % 128 * 128 ^ i, p + i + 1)

def readVar (s : List UInt8) (p : Nat) : Option (Nat × Nat) := rv s p 5 0 0

end Go.Proofs.YtaejeemjndmjcaaDoor.M
/-
  Laws on a slice of bytes that the call itself has made: appending to it, and making a string of it.
-/
namespace Go.Proofs.YtaejeemjndmjcaaDoor
open Go.RowKit

def bv (l : List UInt8) : List Value := l.map (fun b => Value.int .u8 (b.toNat : Int))

theorem bv_length (l : List UInt8) : (bv l).length = l.length := by simp [bv]
theorem bv_append (l r : List UInt8) : bv (l ++ r) = bv l ++ bv r := by simp [bv]
theorem bv_get (l : List UInt8) (j : Nat) (u : Value) (h : (bv l)[j]? = some u) : ∃ hj : j < l.length, u = .int .u8 (l[j].toNat : Int) := by
  unfold bv at h
  rw [List.getElem?_map] at h
  cases hl : l[j]? with
  | none => rw [hl] at h; simp at h
  | some b =>
    rw [hl] at h
    obtain ⟨hj, hb⟩ := List.getElem?_eq_some_iff.1 hl
    simp at h
    exact ⟨hj, by rw [hb]; exact h.symm⟩

theorem Tryd.info5 : (Tryd.prog.info? 5).map (fun i => (i.zero, i.size, i.bytes)) = some (some (.int .u8 0), 1, 1) := by kernel_rfl
theorem Tryd.info3 : (Tryd.prog.info? 3).map (fun i => (i.zero, i.size, i.bytes)) = some (some (.int .i64 0), 1, 8) := by kernel_rfl

/-- v owns the bytes l, in blocks from B on; below B all is as it was in w0 -/
def OB (B : Nat) (w0 w : World) (v : Value) (l : List UInt8) : Prop :=
  w.ownsRow B 5 1 v l.length (bv l) ∧ Below B w0 w ∧ B ≤ w.heap.size

theorem OB.alloc {B : Nat} {w0 w : World} {v : Value} {l : List UInt8} (h : OB B w0 w v l) (o : Obj) : OB B w0 (w.alloc o) v l :=
  ⟨h.1.alloc o, h.2.1.alloc h.2.2 o, by have := h.2.2; simp; omega⟩
theorem OB.drew {B : Nat} {w0 w : World} {v : Value} {l : List UInt8} (h : OB B w0 w v l) : OB B w0 w.drew v l :=
  ⟨h.1.drew, h.2.1.drew, h.2.2⟩

theorem OB.nil (w : World) : OB w.heap.size w w (.slice none 0 0) [] :=
  ⟨World.ownsRow_nil _ _ _ _, Below.refl _ _, Nat.le_refl _⟩

theorem OB.made (w : World) : OB w.heap.size w (w.alloc (.cells #[] 5)) (.slice (some ⟨w.heap.size, 0, none⟩) 0 0) [] :=
  ⟨World.ownsRow_made w #[] 0 (Nat.le_refl _) (by decide) (by simp), (Below.refl _ _).alloc (Nat.le_refl _) _, by simp⟩

theorem wp_app {w : World} {ops : Array Oper} {rest : List Oper} {o : Oper} {a : Act} {Q : Exit → Act → World → Prop} (hgd : o.guard = none) (s x : Operand)
    (ho : o.op = .call { callee := .builtin .append, args := #[s, x], argTypes := #[22, 22] })
    (B : Nat) (w0 : World) (v : Value) (l : List UInt8) (hs : a.eval s = v) (hown : OB B w0 w v l)
    (ad : Addr) (m c : Nat) (news : List UInt8) (hx : a.eval x = .slice (some ad) m c) (hm : news.length = m)
    (hnews : ∀ j u, (bv news)[j]? = some u → w.cell? (ad.add j) = some u) (hlen : l.length + m ≤ 1000000000)
    (h : ∀ v' w', OB B w0 w' v' (l ++ news) → wpList Tryd.prog ops Q rest (a.put o.dst v') w') : wpList Tryd.prog ops Q (o :: rest) a w := by
  obtain ⟨i0, hi, hz0, hz1, hz2⟩ := info_parts Tryd.info5
  refine wpList_append_own _ hgd s x 22 ho B 5 i0 (.int .u8 0) 1 1 Tryd.underlying22 hi hz0 hz1 hz2 rfl (by decide) v l.length (bv l) hs hown.1 ad m c (bv news) hx (by simp [bv, hm]) hnews
    (fun u hu => by simp [bv] at hu; obtain ⟨b, _, rfl⟩ := hu; rfl) (by unfold maxLen; omega) (by omega) hown.2.2 ?_
  intro v' w' h1 h2 _
  refine h v' w' ⟨by rw [List.length_append, bv_append, hm]; exact h1, hown.2.1.grown h2 hown.2.2 (fun k hk => (hown.1.lt k hk).1), ?_⟩
  exact Nat.le_trans hown.2.2 h2.size

/-- 'string(b)' of a slice that the call owns -/
theorem run_str {B : Nat} {w0 w : World} {v : Value} {l : List UInt8} (h : OB B w0 w v l) : (convert 22 9 v).run Tryd.prog w = .ok (.string ⟨l.toArray⟩) w := by
  rcases h.1.2 with ⟨rfl, hn⟩ | ⟨g, cap, cur, rfl, hb, hgg, hnc, hcm, hsz, htake⟩
  · have : l = [] := by simpa using hn
    subst this
    rw [run_convert_bytes_string w 22 9 5 none 0 0 Tryd.underlying22 Tryd.underlying5 Tryd.underlying9]
    unfold Conv.bytesToString
    rfl
  · refine run_convert_bytes_back w 22 9 5 ⟨g, 0, none⟩ cap l Tryd.underlying22 Tryd.underlying5 Tryd.underlying9 ?_
    intro j hj
    refine h.1.cells (g := g) rfl j _ ?_
    simp [bv, List.getElem?_eq_getElem hj]

end Go.Proofs.YtaejeemjndmjcaaDoor
/-
  What the specification's cursor over drawn bytes gives: some byte, some number below a bound, some text.
-/
namespace Go.Proofs.YtaejeemjndmjcaaDoor
open Go.RowKit
set_option linter.unusedVariables false

/-- the bytes of a draw: a slice whose cells hold bytes, in blocks below B -/
def Code (B : Nat) (w : World) (v : Value) : Prop :=
  ∃ (ao : Option Addr) (b off len cap : Nat), v = .slice ao len cap ∧ len ≤ 1048576 ∧ (0 < len → ao = some ⟨b, off, none⟩ ∧ b < B) ∧ ∀ j, j < len → ∃ n : Nat, n ≤ 255 ∧ w.cell? ⟨b, off + j, none⟩ = some (.int .u8 (n : Int))

/-- a cursor in block g, from B on; below B all is as it was in w0, the drawn bytes among it -/
def Cur (B : Nat) (w0 w : World) (g : Nat) (v : Value) : Prop :=
  B ≤ g ∧ Below B w0 w ∧ Code B w0 v ∧ ∃ (i : Nat) (h : Int), w.heap[g]? = some (.cells #[v, .int .i64 (i : Int), .int .i64 h] 91 (0, 0)) ∧ i ≤ 1048576

theorem Cur.lt {B : Nat} {w0 w : World} {g : Nat} {v : Value} (h : Cur B w0 w g v) : g < w.heap.size := by
  obtain ⟨_, _, _, i, x, hb, _⟩ := h
  exact (Array.getElem?_eq_some_iff.1 hb).1

/-- a cursor stays one behind what does not touch its block -/
theorem Cur.kept {B : Nat} {w0 w w' : World} {g : Nat} {v : Value} {row : Option Nat} (h : Cur B w0 w g v) (hg : w.grownBy w' row) (hne : some g ≠ row) (hB : B ≤ w.heap.size) (hr : ∀ k, row = some k → B ≤ k) : Cur B w0 w' g v := by
  have hlt := h.lt
  obtain ⟨h1, h2, h3, i, x, hb, h4⟩ := h
  exact ⟨h1, h2.grown hg hB hr, h3, i, x, by rw [hg.block g hlt hne]; exact hb, h4⟩

theorem and255 (X : Int) : ∃ n : Nat, n ≤ 255 ∧ bits .and .i64 X 255 = (n : Int) := by
  have h255 : (BitVec.ofInt 64 255).toNat = 255 := by decide
  have hle : (BitVec.ofInt 64 X &&& BitVec.ofInt 64 255).toNat ≤ 255 := by
    rw [BitVec.toNat_and, h255]
    exact Nat.and_le_right
  refine ⟨(BitVec.ofInt 64 X &&& BitVec.ofInt 64 255).toNat, hle, ?_⟩
  have e : bits .and .i64 X 255 = IntKind.i64.wrap ((BitVec.ofInt 64 X &&& BitVec.ofInt 64 255).toNat : Int) := rfl
  rw [e, IntWalk.i64_in _ (by omega)]

theorem grown_set (w : World) (g j : Nat) (u : Value) : w.grownBy (w.setCell ⟨g, j, none⟩ u) (some g) :=
  ⟨rfl, rfl, rfl, by simp, fun k _ hk => heap_setCell_other w ⟨g, j, none⟩ k u (fun e => hk (by simp [e]))⟩
theorem grown_drn {a w : World} {row : Option Nat} (h : a.grownBy w row) (n : Nat) : a.grownBy (w.drewN n) row := ⟨h.os, h.tape, h.output, h.size, h.block⟩

theorem Cur.drn {B : Nat} {w0 w : World} {g : Nat} {v : Value} (h : Cur B w0 w g v) (n : Nat) : Cur B w0 (w.drewN n) g v :=
  ⟨h.1, h.2.1.trans ⟨rfl, rfl, rfl, Nat.le_refl _, fun _ _ => rfl⟩, h.2.2.1, h.2.2.2⟩

/-- what one store into a cursor leaves, and two -/
theorem cur_one {B : Nat} {w0 w : World} {g : Nat} {v : Value} {i : Nat} {h : Int} (hg : B ≤ g) (hbel : Below B w0 w) (hcode : Code B w0 v)
    (hblk : w.heap[g]? = some (.cells #[v, .int .i64 (i : Int), .int .i64 h] 91 (0, 0))) (h' : Int) (hi : i ≤ 1048576) :
    Cur B w0 (w.setCell ⟨g, 2, none⟩ (.int .i64 h')) g v := by
  have e1 := heap_setCell_same w g 2 _ 91 (.int .i64 h') hblk
  exact ⟨hg, Below.setCell hbel (p := ⟨g, 2, none⟩) hg _, hcode, i, h', by simpa using e1, hi⟩
theorem cur_two {B : Nat} {w0 w : World} {g : Nat} {v : Value} {i : Nat} {h : Int} (hg : B ≤ g) (hbel : Below B w0 w) (hcode : Code B w0 v)
    (hblk : w.heap[g]? = some (.cells #[v, .int .i64 (i : Int), .int .i64 h] 91 (0, 0))) (h' : Int) (i' : Nat) (hi : i' ≤ 1048576) :
    Cur B w0 ((w.setCell ⟨g, 2, none⟩ (.int .i64 h')).setCell ⟨g, 1, none⟩ (.int .i64 (i' : Int))) g v := by
  have e1 := heap_setCell_same w g 2 _ 91 (.int .i64 h') hblk
  have e2 := heap_setCell_same (w.setCell ⟨g, 2, none⟩ (.int .i64 h')) g 1 _ 91 (.int .i64 (i' : Int)) e1
  exact ⟨hg, Below.setCell (Below.setCell hbel (p := ⟨g, 2, none⟩) hg _) (p := ⟨g, 1, none⟩) hg _, hcode, i', h', by simpa using e2, hi⟩

set_option maxRecDepth 100000 in
set_option maxHeartbeats 1000000 in
theorem l01Byte_in (B : Nat) (w0 w : World) (g : Nat) (v : Value) (hc : Cur B w0 w g v) :
    Calls Tryd.prog 29 #[.pointer (some ⟨g, 0, none⟩)] w fun e w' => ∃ x : Nat, x ≤ 255 ∧ e = .returned (.int .i64 x) ∧ Cur B w0 w' g v ∧ w.grownBy w' (some g) := by
  obtain ⟨hg, hbel, hcode, i, h, hblk, hi1⟩ := hc
  have HC : Hid (Code B w0 v) := hcode
  obtain ⟨ao, b, off, len, cap, rfl, hl, hao, hcells⟩ := hcode
  have c0 : w.cell? ⟨g, 0, none⟩ = some (.slice ao len cap) := by simp [World.cell?, hblk]
  have c1 : w.cell? ⟨g, 1, none⟩ = some (.int .i64 (i : Int)) := by simp [World.cell?, hblk]
  have c2 : w.cell? ⟨g, 2, none⟩ = some (.int .i64 h) := by simp [World.cell?, hblk]
  have f2 : w.frozen? ⟨g, 2, none⟩ = false := by simp [World.frozen?, hblk]
  have f1 : w.frozen? ⟨g, 1, none⟩ = false := by simp [World.frozen?, hblk]
  have HB : Hid (w.heap[g]? = some (.cells #[.slice ao len cap, .int .i64 (i : Int), .int .i64 h] 91 (0, 0))) := hblk
  have HBel : Hid (Below B w0 w) := hbel
  by_cases hlt : i < len
  · obtain ⟨hao1, hbB⟩ := hao (by omega)
    subst hao1
    obtain ⟨z, hz, hcz⟩ := hcells i hlt
    have hczw : w.cell? ⟨b, off + i, none⟩ = some (.int .u8 (z : Int)) := (hbel.cell (p := ⟨b, off + i, none⟩) hbB).trans hcz
    have hbg : b ≠ g := by omega
    clear hcells hao hblk hbel hcz
    go_enter Tryd.func29, Tryd.ntmps29
    go_wp2
    generalize hH : wrap64 (wrap64 (h * 6364136223846793005) + 1442695040888963407) = h' at *
    clear hH
    go_quiet (fail)
    go_wp2
    obtain ⟨n, hn, hne⟩ := and255 (bits BinOp.xor IntKind.i64 (h' / 8589934592) (h' / 35184372088832))
    rw [hne]
    clear hne
    go_quiet (fail)
    go_wp2
    go_quiet (fail)
    go_wp2
    obtain ⟨m, hm, hme⟩ := and255 ((n : Int) + (z : Int))
    rw [hme]
    have e1 : ((i : Int) + 1) = ((i + 1 : Nat) : Int) := by omega
    rw [e1]
    go_ret
    exact ⟨m, hm, rfl, (cur_two hg HBel.out HC.out HB.out h' (i + 1) (by omega)).drn _, grown_drn ((grown_set w g 2 _).trans (grown_set _ g 1 _)) _⟩
  · clear hcells hao hblk hbel
    go_enter Tryd.func29, Tryd.ntmps29
    go_wp2
    generalize hH : wrap64 (wrap64 (h * 6364136223846793005) + 1442695040888963407) = h' at *
    clear hH
    go_quiet (fail)
    go_wp2
    obtain ⟨n, hn, hne⟩ := and255 (bits BinOp.xor IntKind.i64 (h' / 8589934592) (h' / 35184372088832))
    rw [hne]
    clear hne
    go_quiet (fail)
    go_wp2
    go_ret
    exact ⟨n, hn, rfl, ((cur_one hg HBel.out HC.out HB.out h' hi1).drn _).drn _, grown_drn (grown_drn (grown_set w g 2 _) _) _⟩

end Go.Proofs.YtaejeemjndmjcaaDoor
/-
  What VarText answers, the program's and the specification's: the bytes varL of the number.
-/
namespace Go.Proofs.YtaejeemjndmjcaaDoor
open Go.RowKit

theorem one_byte (w : World) (x : Int) (b : UInt8) (t : TypeId) (h : x = (b.toNat : Int)) : ∀ j u, (bv [b])[j]? = some u → (w.alloc (.cells #[.int .u8 x] t)).cell? ((⟨w.heap.size, 0, none⟩ : Addr).add j) = some u := by
  intro j u hj
  obtain ⟨hj', rfl⟩ := bv_get _ _ _ hj
  have h0 : j = 0 := by simp at hj'; exact hj'
  subst h0
  subst h
  simp [Addr.add]

def hiB (m : Nat) : UInt8 := UInt8.ofNat (m % 128 + 128)
def loB (m : Nat) : UInt8 := UInt8.ofNat m
theorem byte_hi (m : Nat) : ((m : Int) % 128 + 128) = ((hiB m).toNat : Int) := by
  unfold hiB; simp; omega
theorem byte_lo (m : Nat) (h : m ≤ 127) : (m : Int) = ((loB m).toNat : Int) := by
  unfold loB; simp; omega

/-- what the loop of VarText holds at each round's head: so many bytes are written, and those of the rest make the whole -/
def VarRel (n : Nat) (w : World) (x v : Value) (wr : World) : Prop :=
  ∃ (m f : Nat) (pre : List UInt8), m ≤ n ∧ m < 128 ^ (f + 1) ∧ x = .int .i64 m ∧ OB w.heap.size w wr v pre ∧ pre.length ≤ 10 ∧ pre ++ M.varF f m = M.varL n

theorem VarRel.step {n m f : Nat} {pre : List UInt8} (h : 127 < m) (hf : m < 128 ^ (f + 1)) (he : pre ++ M.varF f m = M.varL n) :
    ∃ f', m / 128 < 128 ^ (f' + 1) ∧ (pre ++ [hiB m]) ++ M.varF f' (m / 128) = M.varL n ∧ (pre ++ [hiB m]).length ≤ 10 := by
  cases f with
  | zero => simp at hf; omega
  | succ f =>
    rw [M.varF_big _ _ h] at he
    change pre ++ hiB m :: M.varF f (m / 128) = M.varL n at he
    refine ⟨f, ?_, by simpa using he, ?_⟩
    · have : m < 128 ^ (f + 1) * 128 := by rw [← Nat.pow_succ]; exact hf
      omega
    · have h1 := M.varL_len n
      rw [← he] at h1
      simp at h1 ⊢
      omega

set_option maxHeartbeats 400000 in
theorem l01Var_any (n : Nat) (w : World) (hn : n ≤ 1000000000) :
    Calls Tryd.prog 78 #[.int .i64 n] w fun e w' => e = .returned (.string ⟨(M.varL n).toArray⟩) ∧ Below w.heap.size w w' := by
  go_enter Tryd.func78, Tryd.ntmps78
  go_wp2
  go_loopw [0, 3] (fun x v wr => VarRel n w x v wr) (fun x _ _ => (intOf x).toNat)
  case atStart => exact ⟨n, 9, [], Nat.le_refl _, by omega, rfl, OB.made w, by simp, rfl⟩
  case round =>
    obtain ⟨m, f, pre, hmn, hmf, rfl, hown, hpl, he⟩ := hrel
    by_cases h : 127 < m
    · obtain ⟨f', h1, h2, h3⟩ := VarRel.step h hmf he
      have H2 : Hid ((pre ++ [hiB m]) ++ M.varF f' (m / 128) = M.varL n) := h2
      clear h2 he hmf
      go_wp2_with (at_builtin; refine wp_app rfl _ _ rfl w.heap.size w _ pre rfl (hown.alloc _) ⟨wr.heap.size, 0, none⟩ 1 1 [hiB m] rfl rfl ?c1 ?c2 ?_)
      case c1 => exact one_byte _ _ _ _ (byte_hi m)
      case c2 => omega
      intro v' w1 hown'
      go_wp2
      go_roundw
      case rel => exact ⟨m / 128, f', _, by omega, h1, by go_num, hown', h3, H2.out⟩
      case measure => simp [intOf]; omega
    · have he' : pre ++ [loB m] = M.varL n := by rw [M.varF_small f m (by omega)] at he; exact he
      have H2 : Hid (pre ++ [loB m] = M.varL n) := he'
      clear he' he hmf
      go_wp2_with (at_builtin; refine wp_app rfl _ _ rfl w.heap.size w _ pre rfl (hown.alloc _) ⟨wr.heap.size, 0, none⟩ 1 1 [loB m] rfl rfl ?c3 ?c4 ?_)
      case c3 => exact one_byte _ _ _ _ (byte_lo m (by omega))
      case c4 => omega
      intro v' w1 hown'
      have hcv := run_str hown'
      go_wp2
      go_ret
      exact ⟨by rw [H2.out]; rfl, hown'.2.1⟩


set_option maxHeartbeats 400000 in
theorem VarText_yes (n : Nat) (w : World) (hn : n ≤ 1000000000) :
    Calls Tryd.prog 66 #[.int .i64 n] w fun e w' => e = .returned (.tuple #[.string ⟨(M.varL n).toArray⟩, .bool true]) ∧ Below w.heap.size w w' := by
  go_enter Tryd.func66, Tryd.ntmps66
  go_wp2
  go_loopw [0, 4] (fun x v wr => VarRel n w x v wr) (fun x _ _ => (intOf x).toNat)
  case atStart => exact ⟨n, 9, [], Nat.le_refl _, by omega, rfl, OB.nil w, by simp, rfl⟩
  case round =>
    obtain ⟨m, f, pre, hmn, hmf, rfl, hown, hpl, he⟩ := hrel
    by_cases h : 127 < m
    · obtain ⟨f', h1, h2, h3⟩ := VarRel.step h hmf he
      have H2 : Hid ((pre ++ [hiB m]) ++ M.varF f' (m / 128) = M.varL n) := h2
      clear h2 he hmf
      go_wp2_with (at_builtin; refine wp_app rfl _ _ rfl w.heap.size w _ pre rfl (hown.alloc _) ⟨wr.heap.size, 0, none⟩ 1 1 [hiB m] rfl rfl ?c1 ?c2 ?_)
      case c1 => exact one_byte _ _ _ _ (byte_hi m)
      case c2 => omega
      intro v' w1 hown'
      go_wp2
      go_roundw
      case rel => exact ⟨m / 128, f', _, by omega, h1, by go_num, hown', h3, H2.out⟩
      case measure => simp [intOf]; omega
    · have he' : pre ++ [loB m] = M.varL n := by rw [M.varF_small f m (by omega)] at he; exact he
      have H2 : Hid (pre ++ [loB m] = M.varL n) := he'
      clear he' he hmf
      go_wp2_with (at_builtin; refine wp_app rfl _ _ rfl w.heap.size w _ pre rfl (hown.alloc _) ⟨wr.heap.size, 0, none⟩ 1 1 [loB m] rfl rfl ?c3 ?c4 ?_)
      case c3 => exact one_byte _ _ _ _ (byte_lo m (by omega))
      case c4 => omega
      intro v' w1 hown'
      have hcv := run_str hown'
      go_wp2
      go_ret2
      exact ⟨by rw [H2.out]; rfl, hown'.2.1⟩

theorem VarText_no (n : Int) (w : World) (hn : n < 0 ∨ 1000000000 < n) :
    Calls Tryd.prog 66 #[.int .i64 n] w fun e w' => e = .returned (.tuple #[.string ⟨#[]⟩, .bool false]) ∧ Below w.heap.size w w' := by
  rcases hn with h | h
  · go_enter Tryd.func66, Tryd.ntmps66
    go_wp2
    go_ret2
    exact ⟨rfl, Below.refl _ _⟩
  · have h' : ¬ n < 0 := by omega
    go_enter Tryd.func66, Tryd.ntmps66
    go_wp2
    go_ret2
    exact ⟨rfl, Below.refl _ _⟩

theorem l01In_any (x a b : Int) (w : World) : Calls Tryd.prog 75 #[.int .i64 x, .int .i64 a, .int .i64 b] w fun e w' => e = .returned (.bool (decide (a ≤ x ∧ x ≤ b))) ∧ w' = w := by
  by_cases h1 : a ≤ x
  · by_cases h2 : x ≤ b
    · go_enter Tryd.func75, Tryd.ntmps75
      go_wp2
      go_ret
      exact ⟨by simp [h1, h2], rfl⟩
    · go_enter Tryd.func75, Tryd.ntmps75
      go_wp2
      go_ret
      exact ⟨by simp [h2], rfl⟩
  · go_enter Tryd.func75, Tryd.ntmps75
    go_wp2
    go_ret
    exact ⟨by simp; omega, rfl⟩

end Go.Proofs.YtaejeemjndmjcaaDoor
