/-
  Texts laid together: Rv, Draw, Hex.
-/
import Derived.Test.YtklpanjedolkdaaGreatDoorPkELS0
import Derived.Test.YtklpanjedolkdaaGreatDoorPkELS2
import Derived.Deep.QuietTactic
import Derived.BigQuiet
import Derived.Maps.AppendAt
import Derived.Test.YtklpanjedolkdaaGreatDoorPkELS1
import Derived.Deep.RegionHeld3
import Derived.Deep.RegionLaw
/-
  A number that was written is read back from there on.
-/
namespace Go.Proofs.YtklpanjedolkdaaGreatDoor
set_option linter.unusedVariables false
namespace LV

theorem drop_at (s l : List UInt8) (k : Nat) (b : UInt8) (h : s.drop k = b :: l) : s[k]? = some b ∧ s.drop (k + 1) = l := by
  constructor
  · have : (s.drop k)[0]? = some b := by rw [h]; rfl
    simpa using this
  · have : (s.drop k).drop 1 = l := by rw [h]; rfl
    simpa [List.drop_drop] using this

/-- what varF wrote is read from there on -/
theorem rv_back (s : List UInt8) (p : Nat) : ∀ (fuel f i N m : Nat) (post : List UInt8), m < 128 ^ fuel → m < 128 ^ (f + 1) → 0 < fuel → (0 < m ∨ i = 0) → N + m * 128 ^ i ≤ 1000000000 → s.drop (p + i) = M.varF f m ++ post →
    M.rv s p fuel i N = some (N + m * 128 ^ i, p + i + (M.varF f m).length)
  | 0, _, _, _, _, _, _, _, h, _, _, _ => by omega
  | fuel + 1, f, i, N, m, post, h1, h2, _, h3, h4, h5 => by
    by_cases hm : m ≤ 127
    · rw [M.varF_small f m hm] at h5 ⊢
      obtain ⟨hb, _⟩ := drop_at _ _ _ _ h5
      have hn : (UInt8.ofNat m).toNat = m := by simp; omega
      rw [M.rv, hb]
      simp only [hn]
      rw [if_neg (by omega), if_neg]
      · have : m % 128 = m := by omega
        rw [this]
        rfl
      · have : m % 128 = m := by omega
        rw [this]
        omega
    · cases f with
      | zero => simp at h2; omega
      | succ f =>
        rw [M.varF_big f m (by omega)] at h5 ⊢
        obtain ⟨hb, hd⟩ := drop_at _ _ _ _ h5
        have hn : (UInt8.ofNat (m % 128 + 128)).toNat = m % 128 + 128 := by simp; omega
        have e1 : m % 128 * 128 ^ i + m / 128 * 128 ^ (i + 1) = m * 128 ^ i := by
          rw [Nat.pow_succ, Nat.mul_comm (128 ^ i) 128, ← Nat.mul_assoc, ← Nat.add_mul]
          congr 1
          omega
        have hfp : 0 < fuel := by
          rcases Nat.eq_zero_or_pos fuel with h0 | h0
          · subst h0; simp at h1; omega
          · exact h0
        rw [M.rv, hb]
        simp only [hn]
        have e2 : (m % 128 + 128) % 128 = m % 128 := by omega
        rw [if_pos (by omega), e2]
        have ih := rv_back s p fuel f (i + 1) (N + m % 128 * 128 ^ i) (m / 128) post (by rw [Nat.pow_succ] at h1; omega) (by rw [Nat.pow_succ] at h2; omega) hfp (.inl (by omega)) (by omega) (by rw [show p + (i + 1) = p + i + 1 by omega]; exact hd)
        rw [ih, Nat.add_assoc N, e1, List.length_cons]
        congr 2
        omega

theorem readVar_back (pre post : List UInt8) (n : Nat) (hn : n ≤ 1000000000) : M.readVar (pre ++ (M.varL n ++ post)) pre.length = some (n, pre.length + (M.varL n).length) := by
  have h := rv_back (pre ++ (M.varL n ++ post)) pre.length 5 9 0 0 n post (by omega) (by omega) (by omega) (.inr rfl) (by simpa using hn) (by simp [M.varL])
  unfold M.readVar
  rw [h]
  simp [M.varL]

end LV
end Go.Proofs.YtklpanjedolkdaaGreatDoor
/-
  What the specification's cursor over drawn bytes gives: some byte, some number below a bound, some text.
-/
namespace Go.Proofs.YtklpanjedolkdaaGreatDoor
open Go.RowKit
set_option linter.unusedVariables false

/-- the bytes of a draw: a slice whose cells hold bytes, in blocks below B -/
def Code (B : Nat) (w : World) (v : Value) : Prop :=
  ∃ (ao : Option Addr) (b off len cap : Nat), v = .slice ao len cap ∧ len ≤ 1048576 ∧ (0 < len → ao = some ⟨b, off, none⟩ ∧ b < B) ∧ ∀ j, j < len → ∃ n : Nat, n ≤ 255 ∧ w.cell? ⟨b, off + j, none⟩ = some (.int .u8 (n : Int))

theorem and255 (X : Int) : ∃ n : Nat, n ≤ 255 ∧ bits .and .i64 X 255 = (n : Int) := by
  have h255 : (BitVec.ofInt 64 255).toNat = 255 := by decide
  have hle : (BitVec.ofInt 64 X &&& BitVec.ofInt 64 255).toNat ≤ 255 := by
    rw [BitVec.toNat_and, h255]
    exact Nat.and_le_right
  refine ⟨(BitVec.ofInt 64 X &&& BitVec.ofInt 64 255).toNat, hle, ?_⟩
  have e : bits .and .i64 X 255 = IntKind.i64.wrap ((BitVec.ofInt 64 X &&& BitVec.ofInt 64 255).toNat : Int) := rfl
  rw [e, IntWalk.i64_in _ (by omega)]

theorem grown_set (w : World) (g j : Nat) (u : Value) : w.grownBy (w.setCell ⟨g, j, none⟩ u) (some g) :=
  ⟨rfl, rfl, rfl, by simp, fun k _ hk => heap_setCell_other w ⟨g, j, none⟩ k u (fun e => hk (by simp [e]))⟩
theorem grown_drn {a w : World} {row : Option Nat} (h : a.grownBy w row) (n : Nat) : a.grownBy (w.drewN n) row := ⟨h.os, h.tape, h.output, h.size, h.block⟩

end Go.Proofs.YtklpanjedolkdaaGreatDoor
/-
  What Hex answers, the program's and the specification's: two figures for each byte.
-/
namespace Go.Proofs.YtklpanjedolkdaaGreatDoor
open Go.RowKit
set_option linter.unusedVariables false

/-- the figure of a number below 16 -/
def fig (x : Nat) : UInt8 := if x < 10 then UInt8.ofNat (48 + x) else UInt8.ofNat (87 + x)
def hexL (l : List UInt8) : List UInt8 := l.flatMap (fun b => [fig (b.toNat / 16), fig (b.toNat % 16)])

theorem fig_nat (x : Nat) (h : x < 16) : (fig x).toNat = if x < 10 then 48 + x else 87 + x := by
  unfold fig
  split <;> simp <;> omega

theorem step_app {w : World} {ops : Array Oper} {o : Oper} {a : Act} {K : Act → World → Prop} {Q : Exit → Act → World → Prop} {E : Prop} (hg : o.guard = none) (s x : Operand)
    (hop : o.op = .call { callee := .builtin .append, args := #[s, x], argTypes := #[175, 175] })
    (B : Nat) (w0 : World) (v : Value) (l : List UInt8) (hs : a.eval s = v) (hown : OB B w0 w v l)
    (ad : Addr) (m c : Nat) (news : List UInt8) (hx : a.eval x = .slice (some ad) m c) (hm : news.length = m)
    (hnews : ∀ j u, (bv news)[j]? = some u → w.cell? (ad.add j) = some u) (hlen : l.length + m ≤ 1000000000)
    (hK : ∀ v' w', OB B w0 w' v' (l ++ news) → K (a.put o.dst v') w') : if Region.wanted o (yielded ops a.tmps) = true then Oper.wp Tryz.prog o a w K Q else E := by
  obtain ⟨i0, hi, hz0, hz1, hz2⟩ := info_parts Tryz.info5
  obtain ⟨v', w', hrun, h1, h2, _⟩ := run_append_own (P := Tryz.prog) w B 175 o.type 5 i0 (.int .u8 0) 1 1 Tryz.underlying175 hi hz0 hz1 hz2 rfl (by decide) v l.length (bv l) hown.1 ad m c (bv news) (by simp [bv, hm]) hnews
    (fun u hu => by simp [bv] at hu; obtain ⟨b, _, rfl⟩ := hu; rfl) (by unfold maxLen; omega) (by omega) hown.2.2
  have hOB : OB B w0 w' v' (l ++ news) := ⟨by rw [List.length_append, bv_append, hm]; exact h1, hown.2.1.grown h2 hown.2.2 (fun k hk => (hown.1.lt k hk).1), Nat.le_trans hown.2.2 h2.size⟩
  have hw : Region.wanted o (yielded ops a.tmps) = true := by simp [Region.wanted, hg]
  rw [if_pos hw]
  unfold Oper.wp
  simp [execOp, hop, resolve, invoke, builtin, hs, hx, hrun, Result.andThen]
  exact hK v' w' hOB

theorem two_bytes (w : World) (x y : Int) (b c : UInt8) (t : TypeId) (hx : x = (b.toNat : Int)) (hy : y = (c.toNat : Int)) : ∀ j u, (bv [b, c])[j]? = some u → (w.alloc (.cells #[.int .u8 x, .int .u8 y] t)).cell? ((⟨w.heap.size, 0, none⟩ : Addr).add j) = some u := by
  intro j u hj
  obtain ⟨hj', rfl⟩ := bv_get _ _ _ hj
  subst hx
  subst hy
  have h0 : j = 0 ∨ j = 1 := by simp at hj'; omega
  rcases h0 with rfl | rfl <;> simp [Addr.add]

/-- 'make([]byte, 0, n)' -/
theorem run_mk (n : Nat) (h : n ≤ 1000000000) (W : World) : ∃ M : Array Value, (Instr.makeSlice 175 (.int .i64 0) (.int .i64 (n : Int))).run Tryz.prog W = .ok (.slice (some ⟨W.heap.size, 0, none⟩) 0 n) (W.alloc (.cells M 5)) ∧ OB W.heap.size W (W.alloc (.cells M 5)) (.slice (some ⟨W.heap.size, 0, none⟩) 0 n) [] := by
  obtain ⟨i0, hi, hz0, hz1, hz2⟩ := info_parts Tryz.info5
  have h1 := run_make (P := Tryz.prog) W 175 5 i0 (.int .u8 0) Tryz.underlying175 hi hz0 .i64 .i64 0 (n : Int) (by omega) (by omega) (by rw [hz2]; omega) (by omega)
  refine ⟨madeCells (Value.int .u8 0).cells (((n : Nat) : Int).toNat * i0.size), by simpa using h1, ?_⟩
  refine ⟨World.ownsRow_made W _ n (Nat.le_refl _) (by unfold maxLen; omega) ?_, (Below.refl _ _).alloc (Nat.le_refl _) _, by simp⟩
  rw [size_madeCells, hz1]
  simp

def figs : ByteArray := ⟨#[48, 49, 50, 51, 52, 53, 54, 55, 56, 57, 97, 98, 99, 100, 101, 102]⟩
theorem figs_at : ∀ x : Fin 16, figs[x.val]? = some (fig x.val) := by decide
theorem run_fig (x : Int) (h0 : 0 ≤ x) (h1 : x < 16) (w : World) : (Instr.index 9 (.string ⟨#[48, 49, 50, 51, 52, 53, 54, 55, 56, 57, 97, 98, 99, 100, 101, 102]⟩) (.int .u8 x)).run Tryz.prog w = .ok (.int .u8 ((fig x.toNat).toNat : Int)) w := by
  obtain ⟨n, rfl⟩ := Int.eq_ofNat_of_zero_le h0
  have h2 := figs_at ⟨n, by omega⟩
  have h3 : figs.size = 16 := rfl
  show (Instr.index 9 (.string figs) (.int .u8 (n : Int))).run Tryz.prog w = _
  rw [run_index_string (P := Tryz.prog) (w := w) 9 figs .u8 _ Tryz.underlying9]
  rw [dif_pos ⟨by omega, by rw [h3]; omega⟩]
  simp only [Int.toNat_natCast] at h2 ⊢
  have h4 : figs[n]? = some (figs[n]'(by rw [h3]; omega)) := getElem?_pos ..
  rw [h4] at h2
  simp only [Option.some.injEq] at h2
  rw [h2]

end Go.Proofs.YtklpanjedolkdaaGreatDoor
