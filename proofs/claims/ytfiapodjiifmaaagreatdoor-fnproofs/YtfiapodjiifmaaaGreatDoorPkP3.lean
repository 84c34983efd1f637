/-
  Texts laid together: Rv, Draw, Hex, Drawb, Drawc.
-/
import Derived.Test.YtfiapodjiifmaaaGreatDoorPkP0
import Derived.Test.YtfiapodjiifmaaaGreatDoorPkP1
import Derived.Deep.QuietTactic
import Derived.BigQuiet
import Derived.Maps.AppendAt
import Derived.Deep.RegionHeld3
import Derived.Deep.RegionLaw
/-
  A number that was written is read back from there on.
-/
namespace Go.Proofs.YtfiapodjiifmaaaGreatDoor
set_option linter.unusedVariables false
namespace LV

theorem drop_at (s l : List UInt8) (k : Nat) (b : UInt8) (h : s.drop k = b :: l) : s[k]? = some b ∧ s.drop (k + 1) = l := by
  constructor
  · have : (s.drop k)[0]? = some b := by rw [h]; rfl
    simpa using this
  · have : (s.drop k).drop 1 = l := by rw [h]; rfl
    simpa [List.drop_drop] using this

/-- what varF wrote is read from there on -/
theorem rv_back (s : List UInt8) (p : Nat) : ∀ (fuel f i N m : Nat) (post : List UInt8), m < 128 ^ fuel → m < 128 ^ (f + 1) → 0 < fuel → (0 < m ∨ i = 0) → N + m * 128 ^ i ≤ 1000000000 → s.drop (p + i) = M.varF f m ++ post →
    M.rv s p fuel i N = some (N + m * 128 ^ i, p + i + (M.varF f m).length)
  | 0, _, _, _, _, _, _, _, h, _, _, _ => by omega
  | fuel + 1, f, i, N, m, post, h1, h2, _, h3, h4, h5 => by
    by_cases hm : m ≤ 127
    · rw [M.varF_small f m hm] at h5 ⊢
      obtain ⟨hb, _⟩ := drop_at _ _ _ _ h5
      have hn : (UInt8.ofNat m).toNat = m := by simp; omega
      rw [M.rv, hb]
      simp only [hn]
      rw [if_neg (by omega), if_neg]
      · have : m % 128 = m := by omega
        rw [this]
        rfl
      · have : m % 128 = m := by omega
        rw [this]
        omega
    · cases f with
      | zero => simp at h2; omega
      | succ f =>
        rw [M.varF_big f m (by omega)] at h5 ⊢
        obtain ⟨hb, hd⟩ := drop_at _ _ _ _ h5
        have hn : (UInt8.ofNat (m % 128 + 128)).toNat = m % 128 + 128 := by simp; omega
        have e1 : m % 128 * 128 ^ i + m / 128 * 128 ^ (i + 1) = m * 128 ^ i := by
          rw [Nat.pow_succ, Nat.mul_comm (128 ^ i) 128, ← Nat.mul_assoc, ← Nat.add_mul]
          congr 1
          omega
        have hfp : 0 < fuel := by
          rcases Nat.eq_zero_or_pos fuel with h0 | h0
          · subst h0; simp at h1; omega
          · exact h0
        rw [M.rv, hb]
        simp only [hn]
        have e2 : (m % 128 + 128) % 128 = m % 128 := by omega
        rw [if_pos (by omega), e2]
        have ih := rv_back s p fuel f (i + 1) (N + m % 128 * 128 ^ i) (m / 128) post (by rw [Nat.pow_succ] at h1; omega) (by rw [Nat.pow_succ] at h2; omega) hfp (.inl (by omega)) (by omega) (by rw [show p + (i + 1) = p + i + 1 by omega]; exact hd)
        rw [ih, Nat.add_assoc N, e1, List.length_cons]
        congr 2
        omega

theorem readVar_back (pre post : List UInt8) (n : Nat) (hn : n ≤ 1000000000) : M.readVar (pre ++ (M.varL n ++ post)) pre.length = some (n, pre.length + (M.varL n).length) := by
  have h := rv_back (pre ++ (M.varL n ++ post)) pre.length 5 9 0 0 n post (by omega) (by omega) (by omega) (.inr rfl) (by simpa using hn) (by simp [M.varL])
  unfold M.readVar
  rw [h]
  simp [M.varL]

end LV
end Go.Proofs.YtfiapodjiifmaaaGreatDoor
/-
  What the specification's cursor over drawn bytes gives: some byte, some number below a bound, some text.
-/
namespace Go.Proofs.YtfiapodjiifmaaaGreatDoor
open Go.RowKit
set_option linter.unusedVariables false

/-- the bytes of a draw: a slice whose cells hold bytes, in blocks below B -/
def Code (B : Nat) (w : World) (v : Value) : Prop :=
  ∃ (ao : Option Addr) (b off len cap : Nat), v = .slice ao len cap ∧ len ≤ 1048576 ∧ (0 < len → ao = some ⟨b, off, none⟩ ∧ b < B) ∧ ∀ j, j < len → ∃ n : Nat, n ≤ 255 ∧ w.cell? ⟨b, off + j, none⟩ = some (.int .u8 (n : Int))

/-- a cursor in block g, from B on; below B all is as it was in w0, the drawn bytes among it -/
def Cur (B : Nat) (w0 w : World) (g : Nat) (v : Value) : Prop :=
  B ≤ g ∧ Below B w0 w ∧ Code B w0 v ∧ ∃ (i : Nat) (h : Int), w.heap[g]? = some (.cells #[v, .int .i64 (i : Int), .int .i64 h] 75 (0, 0)) ∧ i ≤ 1048576

theorem Cur.lt {B : Nat} {w0 w : World} {g : Nat} {v : Value} (h : Cur B w0 w g v) : g < w.heap.size := by
  obtain ⟨_, _, _, i, x, hb, _⟩ := h
  exact (Array.getElem?_eq_some_iff.1 hb).1

/-- a cursor stays one behind what does not touch its block -/
theorem Cur.kept {B : Nat} {w0 w w' : World} {g : Nat} {v : Value} {row : Option Nat} (h : Cur B w0 w g v) (hg : w.grownBy w' row) (hne : some g ≠ row) (hB : B ≤ w.heap.size) (hr : ∀ k, row = some k → B ≤ k) : Cur B w0 w' g v := by
  have hlt := h.lt
  obtain ⟨h1, h2, h3, i, x, hb, h4⟩ := h
  exact ⟨h1, h2.grown hg hB hr, h3, i, x, by rw [hg.block g hlt hne]; exact hb, h4⟩

theorem and255 (X : Int) : ∃ n : Nat, n ≤ 255 ∧ bits .and .i64 X 255 = (n : Int) := by
  have h255 : (BitVec.ofInt 64 255).toNat = 255 := by decide
  have hle : (BitVec.ofInt 64 X &&& BitVec.ofInt 64 255).toNat ≤ 255 := by
    rw [BitVec.toNat_and, h255]
    exact Nat.and_le_right
  refine ⟨(BitVec.ofInt 64 X &&& BitVec.ofInt 64 255).toNat, hle, ?_⟩
  have e : bits .and .i64 X 255 = IntKind.i64.wrap ((BitVec.ofInt 64 X &&& BitVec.ofInt 64 255).toNat : Int) := rfl
  rw [e, IntWalk.i64_in _ (by omega)]

theorem grown_set (w : World) (g j : Nat) (u : Value) : w.grownBy (w.setCell ⟨g, j, none⟩ u) (some g) :=
  ⟨rfl, rfl, rfl, by simp, fun k _ hk => heap_setCell_other w ⟨g, j, none⟩ k u (fun e => hk (by simp [e]))⟩
theorem grown_drn {a w : World} {row : Option Nat} (h : a.grownBy w row) (n : Nat) : a.grownBy (w.drewN n) row := ⟨h.os, h.tape, h.output, h.size, h.block⟩

theorem Cur.drn {B : Nat} {w0 w : World} {g : Nat} {v : Value} (h : Cur B w0 w g v) (n : Nat) : Cur B w0 (w.drewN n) g v :=
  ⟨h.1, h.2.1.trans ⟨rfl, rfl, rfl, Nat.le_refl _, fun _ _ => rfl⟩, h.2.2.1, h.2.2.2⟩

/-- what one store into a cursor leaves, and two -/
theorem cur_one {B : Nat} {w0 w : World} {g : Nat} {v : Value} {i : Nat} {h : Int} (hg : B ≤ g) (hbel : Below B w0 w) (hcode : Code B w0 v)
    (hblk : w.heap[g]? = some (.cells #[v, .int .i64 (i : Int), .int .i64 h] 75 (0, 0))) (h' : Int) (hi : i ≤ 1048576) :
    Cur B w0 (w.setCell ⟨g, 2, none⟩ (.int .i64 h')) g v := by
  have e1 := heap_setCell_same w g 2 _ 75 (.int .i64 h') hblk
  exact ⟨hg, Below.setCell hbel (p := ⟨g, 2, none⟩) hg _, hcode, i, h', by simpa using e1, hi⟩
theorem cur_two {B : Nat} {w0 w : World} {g : Nat} {v : Value} {i : Nat} {h : Int} (hg : B ≤ g) (hbel : Below B w0 w) (hcode : Code B w0 v)
    (hblk : w.heap[g]? = some (.cells #[v, .int .i64 (i : Int), .int .i64 h] 75 (0, 0))) (h' : Int) (i' : Nat) (hi : i' ≤ 1048576) :
    Cur B w0 ((w.setCell ⟨g, 2, none⟩ (.int .i64 h')).setCell ⟨g, 1, none⟩ (.int .i64 (i' : Int))) g v := by
  have e1 := heap_setCell_same w g 2 _ 75 (.int .i64 h') hblk
  have e2 := heap_setCell_same (w.setCell ⟨g, 2, none⟩ (.int .i64 h')) g 1 _ 75 (.int .i64 (i' : Int)) e1
  exact ⟨hg, Below.setCell (Below.setCell hbel (p := ⟨g, 2, none⟩) hg _) (p := ⟨g, 1, none⟩) hg _, hcode, i', h', by simpa using e2, hi⟩

set_option maxRecDepth 100000 in
set_option maxHeartbeats 1000000 in
theorem l01Byte_in (B : Nat) (w0 w : World) (g : Nat) (v : Value) (hc : Cur B w0 w g v) :
    Calls Tryz.prog 70 #[.pointer (some ⟨g, 0, none⟩)] w fun e w' => ∃ x : Nat, x ≤ 255 ∧ e = .returned (.int .i64 x) ∧ Cur B w0 w' g v ∧ w.grownBy w' (some g) := by
  obtain ⟨hg, hbel, hcode, i, h, hblk, hi1⟩ := hc
  have HC : Hid (Code B w0 v) := hcode
  obtain ⟨ao, b, off, len, cap, rfl, hl, hao, hcells⟩ := hcode
  have c0 : w.cell? ⟨g, 0, none⟩ = some (.slice ao len cap) := by simp [World.cell?, hblk]
  have c1 : w.cell? ⟨g, 1, none⟩ = some (.int .i64 (i : Int)) := by simp [World.cell?, hblk]
  have c2 : w.cell? ⟨g, 2, none⟩ = some (.int .i64 h) := by simp [World.cell?, hblk]
  have f2 : w.frozen? ⟨g, 2, none⟩ = false := by simp [World.frozen?, hblk]
  have f1 : w.frozen? ⟨g, 1, none⟩ = false := by simp [World.frozen?, hblk]
  have HB : Hid (w.heap[g]? = some (.cells #[.slice ao len cap, .int .i64 (i : Int), .int .i64 h] 75 (0, 0))) := hblk
  have HBel : Hid (Below B w0 w) := hbel
  by_cases hlt : i < len
  · obtain ⟨hao1, hbB⟩ := hao (by omega)
    subst hao1
    obtain ⟨z, hz, hcz⟩ := hcells i hlt
    have hczw : w.cell? ⟨b, off + i, none⟩ = some (.int .u8 (z : Int)) := (hbel.cell (p := ⟨b, off + i, none⟩) hbB).trans hcz
    have hbg : b ≠ g := by omega
    clear hcells hao hblk hbel hcz
    go_enter Tryz.func70, Tryz.ntmps70
    go_wp2
    generalize hH : wrap64 (wrap64 (h * 6364136223846793005) + 1442695040888963407) = h' at *
    clear hH
    go_quiet (fail)
    go_wp2
    obtain ⟨n, hn, hne⟩ := and255 (bits BinOp.xor IntKind.i64 (h' / 8589934592) (h' / 35184372088832))
    rw [hne]
    clear hne
    go_quiet (fail)
    go_wp2
    go_quiet (fail)
    go_wp2
    obtain ⟨m, hm, hme⟩ := and255 ((n : Int) + (z : Int))
    rw [hme]
    have e1 : ((i : Int) + 1) = ((i + 1 : Nat) : Int) := by omega
    rw [e1]
    go_ret
    exact ⟨m, hm, rfl, (cur_two hg HBel.out HC.out HB.out h' (i + 1) (by omega)).drn _, grown_drn ((grown_set w g 2 _).trans (grown_set _ g 1 _)) _⟩
  · clear hcells hao hblk hbel
    go_enter Tryz.func70, Tryz.ntmps70
    go_wp2
    generalize hH : wrap64 (wrap64 (h * 6364136223846793005) + 1442695040888963407) = h' at *
    clear hH
    go_quiet (fail)
    go_wp2
    obtain ⟨n, hn, hne⟩ := and255 (bits BinOp.xor IntKind.i64 (h' / 8589934592) (h' / 35184372088832))
    rw [hne]
    clear hne
    go_quiet (fail)
    go_wp2
    go_ret
    exact ⟨n, hn, rfl, ((cur_one hg HBel.out HC.out HB.out h' hi1).drn _).drn _, grown_drn (grown_drn (grown_set w g 2 _) _) _⟩

end Go.Proofs.YtfiapodjiifmaaaGreatDoor
/-
  What Hex answers, the program's and the specification's: two figures for each byte.
-/
namespace Go.Proofs.YtfiapodjiifmaaaGreatDoor
open Go.RowKit
set_option linter.unusedVariables false

/-- the figure of a number below 16 -/
def fig (x : Nat) : UInt8 := if x < 10 then UInt8.ofNat (48 + x) else UInt8.ofNat (87 + x)
def hexL (l : List UInt8) : List UInt8 := l.flatMap (fun b => [fig (b.toNat / 16), fig (b.toNat % 16)])

theorem fig_nat (x : Nat) (h : x < 16) : (fig x).toNat = if x < 10 then 48 + x else 87 + x := by
  unfold fig
  split <;> simp <;> omega

theorem step_app {w : World} {ops : Array Oper} {o : Oper} {a : Act} {K : Act → World → Prop} {Q : Exit → Act → World → Prop} {E : Prop} (hg : o.guard = none) (s x : Operand)
    (hop : o.op = .call { callee := .builtin .append, args := #[s, x], argTypes := #[22, 22] })
    (B : Nat) (w0 : World) (v : Value) (l : List UInt8) (hs : a.eval s = v) (hown : OB B w0 w v l)
    (ad : Addr) (m c : Nat) (news : List UInt8) (hx : a.eval x = .slice (some ad) m c) (hm : news.length = m)
    (hnews : ∀ j u, (bv news)[j]? = some u → w.cell? (ad.add j) = some u) (hlen : l.length + m ≤ 1000000000)
    (hK : ∀ v' w', OB B w0 w' v' (l ++ news) → K (a.put o.dst v') w') : if Region.wanted o (yielded ops a.tmps) = true then Oper.wp Tryz.prog o a w K Q else E := by
  obtain ⟨i0, hi, hz0, hz1, hz2⟩ := info_parts Tryz.info5
  obtain ⟨v', w', hrun, h1, h2, _⟩ := run_append_own (P := Tryz.prog) w B 22 o.type 5 i0 (.int .u8 0) 1 1 Tryz.underlying22 hi hz0 hz1 hz2 rfl (by decide) v l.length (bv l) hown.1 ad m c (bv news) (by simp [bv, hm]) hnews
    (fun u hu => by simp [bv] at hu; obtain ⟨b, _, rfl⟩ := hu; rfl) (by unfold maxLen; omega) (by omega) hown.2.2
  have hOB : OB B w0 w' v' (l ++ news) := ⟨by rw [List.length_append, bv_append, hm]; exact h1, hown.2.1.grown h2 hown.2.2 (fun k hk => (hown.1.lt k hk).1), Nat.le_trans hown.2.2 h2.size⟩
  have hw : Region.wanted o (yielded ops a.tmps) = true := by simp [Region.wanted, hg]
  rw [if_pos hw]
  unfold Oper.wp
  simp [execOp, hop, resolve, invoke, builtin, hs, hx, hrun, Result.andThen]
  exact hK v' w' hOB

theorem two_bytes (w : World) (x y : Int) (b c : UInt8) (t : TypeId) (hx : x = (b.toNat : Int)) (hy : y = (c.toNat : Int)) : ∀ j u, (bv [b, c])[j]? = some u → (w.alloc (.cells #[.int .u8 x, .int .u8 y] t)).cell? ((⟨w.heap.size, 0, none⟩ : Addr).add j) = some u := by
  intro j u hj
  obtain ⟨hj', rfl⟩ := bv_get _ _ _ hj
  subst hx
  subst hy
  have h0 : j = 0 ∨ j = 1 := by simp at hj'; omega
  rcases h0 with rfl | rfl <;> simp [Addr.add]

/-- 'make([]byte, 0, n)' -/
theorem run_mk (n : Nat) (h : n ≤ 1000000000) (W : World) : ∃ M : Array Value, (Instr.makeSlice 22 (.int .i64 0) (.int .i64 (n : Int))).run Tryz.prog W = .ok (.slice (some ⟨W.heap.size, 0, none⟩) 0 n) (W.alloc (.cells M 5)) ∧ OB W.heap.size W (W.alloc (.cells M 5)) (.slice (some ⟨W.heap.size, 0, none⟩) 0 n) [] := by
  obtain ⟨i0, hi, hz0, hz1, hz2⟩ := info_parts Tryz.info5
  have h1 := run_make (P := Tryz.prog) W 22 5 i0 (.int .u8 0) Tryz.underlying22 hi hz0 .i64 .i64 0 (n : Int) (by omega) (by omega) (by rw [hz2]; omega) (by omega)
  refine ⟨madeCells (Value.int .u8 0).cells (((n : Nat) : Int).toNat * i0.size), by simpa using h1, ?_⟩
  refine ⟨World.ownsRow_made W _ n (Nat.le_refl _) (by unfold maxLen; omega) ?_, (Below.refl _ _).alloc (Nat.le_refl _) _, by simp⟩
  rw [size_madeCells, hz1]
  simp

def figs : ByteArray := ⟨#[48, 49, 50, 51, 52, 53, 54, 55, 56, 57, 97, 98, 99, 100, 101, 102]⟩
theorem figs_at : ∀ x : Fin 16, figs[x.val]? = some (fig x.val) := by decide
theorem run_fig (x : Int) (h0 : 0 ≤ x) (h1 : x < 16) (w : World) : (Instr.index 9 (.string ⟨#[48, 49, 50, 51, 52, 53, 54, 55, 56, 57, 97, 98, 99, 100, 101, 102]⟩) (.int .u8 x)).run Tryz.prog w = .ok (.int .u8 ((fig x.toNat).toNat : Int)) w := by
  obtain ⟨n, rfl⟩ := Int.eq_ofNat_of_zero_le h0
  have h2 := figs_at ⟨n, by omega⟩
  have h3 : figs.size = 16 := rfl
  show (Instr.index 9 (.string figs) (.int .u8 (n : Int))).run Tryz.prog w = _
  rw [run_index_string (P := Tryz.prog) (w := w) 9 figs .u8 _ Tryz.underlying9]
  rw [dif_pos ⟨by omega, by rw [h3]; omega⟩]
  simp only [Int.toNat_natCast] at h2 ⊢
  have h4 : figs[n]? = some (figs[n]'(by rw [h3]; omega)) := getElem?_pos ..
  rw [h4] at h2
  simp only [Option.some.injEq] at h2
  rw [h2]

end Go.Proofs.YtfiapodjiifmaaaGreatDoor
/-
  What else is drawn with the cursor: a number below a bound, a choice, a text; and how a cursor is made.
-/
namespace Go.Proofs.YtfiapodjiifmaaaGreatDoor
open Go.RowKit
set_option linter.unusedVariables false

/-- the frame of a call that moves the cursor in block g -/
theorem Cur.size {B : Nat} {w0 w : World} {g : Nat} {v : Value} (h : Cur B w0 w g v) : B ≤ w.heap.size := by
  have := h.lt
  have := h.1
  omega

theorem l01Below_small (B : Nat) (w0 w : World) (g : Nat) (v : Value) (n : Nat) (hc : Cur B w0 w g v) (h0 : 0 < n) (h1 : n ≤ 256) :
    Calls Tryz.prog 45 #[.pointer (some ⟨g, 0, none⟩), .int .i64 n] w fun e w' => ∃ x : Nat, x < n ∧ e = .returned (.int .i64 x) ∧ Cur B w0 w' g v ∧ w.grownBy w' (some g) := by
  have hn0 : ¬ ((n : Int) ≤ 0) := by omega
  have hn1 : (n : Int) ≤ 256 := by omega
  go_enter Tryz.func45, Tryz.ntmps45
  go_wp2_with fail
  refine (l01Byte_in B w0 _ g v hc).mono ?_
  rintro e w1 ⟨x, hx, rfl, hc1, hg1⟩
  go_wp2
  go_ret
  exact ⟨x % n, Nat.mod_lt _ h0, by simp, hc1, hg1⟩

theorem l01Below_big (B : Nat) (w0 w : World) (g : Nat) (v : Value) (n : Nat) (hc : Cur B w0 w g v) (h1 : 256 < n) (h2 : n ≤ 4294967296) :
    Calls Tryz.prog 45 #[.pointer (some ⟨g, 0, none⟩), .int .i64 n] w fun e w' => ∃ x : Nat, x < n ∧ e = .returned (.int .i64 x) ∧ Cur B w0 w' g v ∧ w.grownBy w' (some g) := by
  have hn0 : ¬ ((n : Int) ≤ 0) := by omega
  have hn1 : ¬ ((n : Int) ≤ 256) := by omega
  go_enter Tryz.func45, Tryz.ntmps45
  go_wp2_with fail
  refine (l01Byte_in B w0 _ g v hc).mono ?_
  rintro e w1 ⟨x, hx, rfl, hc1, hg1⟩
  go_wp2_with fail
  refine (l01Byte_in B w0 _ g v hc1).mono ?_
  rintro e w2 ⟨y, hy, rfl, hc2, hg2⟩
  go_wp2_with fail
  refine (l01Byte_in B w0 _ g v hc2).mono ?_
  rintro e w3 ⟨z, hz, rfl, hc3, hg3⟩
  go_wp2_with fail
  refine (l01Byte_in B w0 _ g v hc3).mono ?_
  rintro e w4 ⟨t, ht, rfl, hc4, hg4⟩
  go_wp2
  go_ret
  exact ⟨(x * 16777216 + y * 65536 + z * 256 + t) % n, Nat.mod_lt _ (by omega), by simp, hc4, ((hg1.trans hg2).trans hg3).trans hg4⟩

theorem l01Below_nat (B : Nat) (w0 w : World) (g : Nat) (v : Value) (n : Nat) (hc : Cur B w0 w g v) (h1 : 0 < n) (h2 : n ≤ 4294967296) :
    Calls Tryz.prog 45 #[.pointer (some ⟨g, 0, none⟩), .int .i64 n] w fun e w' => ∃ x : Nat, x < n ∧ e = .returned (.int .i64 x) ∧ Cur B w0 w' g v ∧ w.grownBy w' (some g) := by
  by_cases h : n ≤ 256
  · exact l01Below_small B w0 w g v n hc h1 h
  · exact l01Below_big B w0 w g v n hc (by omega) h2

theorem l01Below_in (B : Nat) (w0 w : World) (g : Nat) (v : Value) (x : Int) (n : Nat) (hx : x = (n : Int)) (hc : Cur B w0 w g v) (h1 : 0 < n) (h2 : n ≤ 4294967296) :
    Calls Tryz.prog 45 #[.pointer (some ⟨g, 0, none⟩), .int .i64 x] w fun e w' => ∃ x : Nat, x < n ∧ e = .returned (.int .i64 x) ∧ Cur B w0 w' g v ∧ w.grownBy w' (some g) := by
  subst hx
  exact l01Below_nat B w0 w g v n hc h1 h2

theorem big_no (ao : Option Addr) (len cap : Nat) (w : World) (h : len ≤ 1048576) :
    Calls Tryz.prog 4 #[.slice ao len cap] w fun e w' => e = .returned (.bool false) ∧ w' = w := by
  have h' : ¬ ((1048576 : Int) < (len : Int)) := by omega
  go_enter Tryz.func4, Tryz.ntmps4
  go_wp2
  go_ret
  exact ⟨by simp <;> omega, rfl⟩

theorem big_yes (ao : Option Addr) (len cap : Nat) (w : World) (h : 1048576 < len) (hm : len ≤ 9223372036854775807) :
    Calls Tryz.prog 4 #[.slice ao len cap] w fun e w' => e = .returned (.bool true) ∧ w' = w := by
  have h' : (1048576 : Int) < (len : Int) := by omega
  go_enter Tryz.func4, Tryz.ntmps4
  go_wp2
  go_ret
  exact ⟨by simp <;> omega, rfl⟩

def NewRel (len : Nat) (h i : Value) : Prop := ∃ (k : Nat) (x : Int), k ≤ len ∧ i = .int .i64 k ∧ h = .int .i64 x

set_option maxRecDepth 100000 in
set_option maxHeartbeats 1000000 in
theorem l01New_in (w : World) (v : Value) (hc : Code w.heap.size w v) :
    Calls Tryz.prog 18 #[v] w fun e w' => ∃ g, e = .returned (.pointer (some ⟨g, 0, none⟩)) ∧ Cur w.heap.size w w' g v ∧ Below w.heap.size w w' := by
  have HC : Hid (Code w.heap.size w v) := hc
  obtain ⟨ao, b, off, len, cap, rfl, hl, hao, hcells⟩ := hc
  have HA : Hid (0 < len → ao = some ⟨b, off, none⟩ ∧ b < w.heap.size) := hao
  have HL : Hid (∀ j, j < len → ∃ n : Nat, n ≤ 255 ∧ w.cell? ⟨b, off + j, none⟩ = some (.int .u8 (n : Int))) := hcells
  clear hao hcells
  go_enter Tryz.func18, Tryz.ntmps18
  go_wp2
  go_loop [3, 4] (fun h i => NewRel len h i) (fun _ i => len - (intOf i).toNat)
  case atStart => exact ⟨0, _, by omega, rfl, rfl⟩
  case round =>
    obtain ⟨k, x, hk, rfl, rfl⟩ := hrel
    by_cases hlt : k < len ∧ k < 4000
    · obtain ⟨hlt1, hlt2⟩ := hlt
      obtain ⟨rfl, hb⟩ := HA.out (by omega)
      obtain ⟨z, hz, hcz⟩ := HL.out k hlt1
      go_wp2
      go_round
      case rel => exact ⟨k + 1, _, by omega, by go_num, rfl⟩
      case measure => simp [intOf] <;> omega
    · go_wp2
      all_goals
        go_ret
        refine ⟨w.heap.size, rfl, ⟨Nat.le_refl _, (Below.refl _ _).alloc (Nat.le_refl _) _, HC.out, 0, x, ?_, by omega⟩, (Below.refl _ _).alloc (Nat.le_refl _) _⟩
        exact heap_alloc_new w _

theorem grow_then {a b c : World} {row row' : Option Nat} (h : a.grownBy b row) (k : b.grownBy c row') (hr : ∀ j, row' = some j → a.heap.size ≤ j ∨ row = some j) : a.grownBy c row := by
  refine ⟨k.os.trans h.os, k.tape.trans h.tape, k.output.trans h.output, Nat.le_trans h.size k.size, fun j hj hne => ?_⟩
  rw [k.block j (Nat.lt_of_lt_of_le hj h.size) ?_, h.block j hj hne]
  intro he
  rcases hr j he.symm with h1 | h1
  · omega
  · exact hne h1.symm

/-- a row of bytes that the call owns is not the cursor's block -/
theorem own_ne {B Bw : Nat} {w0 w : World} {g n : Nat} {v u : Value} {xs : List Value} (hc : Cur B w0 w g v) (ho : w.ownsRow Bw 5 1 u n xs) : some g ≠ u.ownBlock := by
  intro he
  obtain ⟨_, _, _, i, x, hb, _⟩ := hc
  rcases ho.2 with ⟨rfl, _⟩ | ⟨g', cap, cur, rfl, _, hg, _⟩
  · simp [Value.ownBlock] at he
  · simp [Value.ownBlock] at he
    subst he
    rw [hb] at hg
    simp at hg

/-- a row of bytes, owned, in blocks that are new since w -/
def Row (w wr : World) (u : Value) (l : List UInt8) : Prop := wr.ownsRow w.heap.size 5 1 u l.length (bv l)

theorem wp_appG {w : World} {ops : Array Oper} {rest : List Oper} {o : Oper} {a : Act} {Q : Exit → Act → World → Prop} (hgd : o.guard = none) (s x : Operand)
    (ho : o.op = .call { callee := .builtin .append, args := #[s, x], argTypes := #[22, 22] })
    (ws : World) (v : Value) (l : List UInt8) (hs : a.eval s = v) (hown : Row ws w v l) (hsz : ws.heap.size ≤ w.heap.size)
    (ad : Addr) (c : UInt8) (hx : a.eval x = .slice (some ad) 1 1) (hnews : ∀ j u, (bv [c])[j]? = some u → w.cell? (ad.add j) = some u) (hlen : l.length ≤ 1000000)
    (h : ∀ v' w', Row ws w' v' (l ++ [c]) → w.grownBy w' v.ownBlock → wpList Tryz.prog ops Q rest (a.put o.dst v') w') : wpList Tryz.prog ops Q (o :: rest) a w := by
  obtain ⟨i0, hi, hz0, hz1, hz2⟩ := info_parts Tryz.info5
  refine wpList_append_own _ hgd s x 22 ho ws.heap.size 5 i0 (.int .u8 0) 1 1 Tryz.underlying22 hi hz0 hz1 hz2 rfl (by decide) v l.length (bv l) hs hown ad 1 1 (bv [c]) hx (by simp [bv]) hnews
    (fun u hu => by simp [bv] at hu; subst hu; rfl) (by unfold maxLen; omega) (by omega) hsz ?_
  intro v' w' h1 h2 _
  exact h v' w' (by unfold Row; rw [List.length_append, bv_append]; exact h1) h2

theorem run_strR {ws w : World} {v : Value} {l : List UInt8} (h : Row ws w v l) (hs : ws.heap.size ≤ w.heap.size) : (convert 22 9 v).run Tryz.prog w = .ok (.string ⟨l.toArray⟩) w :=
  run_str (B := 0) (w0 := w) ⟨⟨h.1, by
    rcases h.2 with hn | ⟨g, cap, cur, hv, hbg, rest⟩
    · exact .inl hn
    · exact .inr ⟨g, cap, cur, hv, Nat.zero_le _, rest⟩⟩, ⟨rfl, rfl, rfl, Nat.le_refl _, fun _ _ => rfl⟩, Nat.zero_le _⟩

def TxRel (B : Nat) (w0 w : World) (g : Nat) (v : Value) (n : Nat) (u i : Value) (wr : World) : Prop :=
  ∃ (k : Nat) (l : List UInt8), k ≤ n ∧ i = .int .i64 k ∧ l.length = k ∧ Row w wr u l ∧ Cur B w0 wr g v ∧ w.grownBy wr (some g)

theorem byteI (x : Nat) (h : x ≤ 255) : (x : Int) = ((UInt8.ofNat x).toNat : Int) := by
  simp
  omega

end Go.Proofs.YtfiapodjiifmaaaGreatDoor
/-
  What is drawn for numbers and texts: DrawVarText, DrawHex.
-/
namespace Go.Proofs.YtfiapodjiifmaaaGreatDoor
open Go.RowKit
set_option linter.unusedVariables false

def LgRel (w : World) (n : Nat) (x : UInt8) (i : Value) (wr : World) : Prop :=
  ∃ k : Nat, k ≤ n ∧ i = .int .i64 k ∧ wr.ownsRow w.heap.size 5 1 (.slice (some ⟨w.heap.size, 0, none⟩) n n) n (bv (List.replicate k x ++ List.replicate (n - k) 0)) ∧ Below w.heap.size w wr

theorem lg_set (x : UInt8) (n k : Nat) (h : k < n) : (bv (List.replicate k x ++ List.replicate (n - k) 0)).set k (.int .u8 (x.toNat : Int)) = bv (List.replicate (k + 1) x ++ List.replicate (n - (k + 1)) 0) := by
  have e : n - k = (n - (k + 1)) + 1 := by omega
  have e2 : List.replicate k x ++ List.replicate (n - k) 0 = List.replicate k x ++ 0 :: List.replicate (n - (k + 1)) 0 := by rw [e, List.replicate_succ]
  have e3 : List.replicate (k + 1) x = List.replicate k x ++ [x] := List.replicate_succ'
  rw [e2, e3]
  unfold bv
  rw [List.map_append, List.map_cons, List.set_append_right _ _ (by simp), List.length_map, List.length_replicate, Nat.sub_self, List.set_cons_zero]
  simp

def numList : List Int := [-1, 0, 127, 128, 16383, 16384, 1000000000, 1000000001, 9223372036854775807, -9223372036854775808]
theorem numList_in (y : Int) (h : y ∈ numList) : -9223372036854775808 ≤ y ∧ y ≤ 9223372036854775807 := by
  simp [numList] at h
  omega

def numCells : Array Value := #[.int .i64 (-1), .int .i64 0, .int .i64 127, .int .i64 128, .int .i64 16383, .int .i64 16384, .int .i64 1000000000, .int .i64 1000000001, .int .i64 9223372036854775807, .int .i64 (-9223372036854775808)]
theorem numCells_at (w : World) : Hid (∀ j, (h : j < numList.length) → (w.alloc (.cells numCells 3)).cell? ⟨w.heap.size, j, none⟩ = some (.int .i64 numList[j])) := by
  intro j hj
  rw [World.cell?_alloc_at _ _ _ _ rfl]
  have : j = 0 ∨ j = 1 ∨ j = 2 ∨ j = 3 ∨ j = 4 ∨ j = 5 ∨ j = 6 ∨ j = 7 ∨ j = 8 ∨ j = 9 := by simp [numList] at hj; omega
  rcases this with rfl | rfl | rfl | rfl | rfl | rfl | rfl | rfl | rfl | rfl <;> rfl

end Go.Proofs.YtfiapodjiifmaaaGreatDoor
