/-
  Texts laid together: Draw, Hex, Drawb.
-/
import Derived.Test.YtiabodhgjeoejaaPkC0
import Derived.Deep.QuietTactic
import Derived.BigQuiet
import Derived.Maps.AppendAt
import Derived.Test.YtiabodhgjeoejaaPkC1
import Derived.Deep.RegionHeld3
import Derived.Deep.RegionLaw
/-
  What the specification's cursor over drawn bytes gives: some byte, some number below a bound, some text.
-/
namespace Go.Proofs.Ytiabodhgjeoejaa
open Go.RowKit
set_option linter.unusedVariables false

/-- the bytes of a draw: a slice whose cells hold bytes, in blocks below B -/
def Code (B : Nat) (w : World) (v : Value) : Prop :=
  ∃ (ao : Option Addr) (b off len cap : Nat), v = .slice ao len cap ∧ len ≤ 1048576 ∧ (0 < len → ao = some ⟨b, off, none⟩ ∧ b < B) ∧ ∀ j, j < len → ∃ n : Nat, n ≤ 255 ∧ w.cell? ⟨b, off + j, none⟩ = some (.int .u8 (n : Int))

/-- a cursor in block g, from B on; below B all is as it was in w0, the drawn bytes among it -/
def Cur (B : Nat) (w0 w : World) (g : Nat) (v : Value) : Prop :=
  B ≤ g ∧ Below B w0 w ∧ Code B w0 v ∧ ∃ (i : Nat) (h : Int), w.heap[g]? = some (.cells #[v, .int .i64 (i : Int), .int .i64 h] 97 (0, 0)) ∧ i ≤ 1048576

theorem Cur.lt {B : Nat} {w0 w : World} {g : Nat} {v : Value} (h : Cur B w0 w g v) : g < w.heap.size := by
  obtain ⟨_, _, _, i, x, hb, _⟩ := h
  exact (Array.getElem?_eq_some_iff.1 hb).1

/-- a cursor stays one behind what does not touch its block -/
theorem Cur.kept {B : Nat} {w0 w w' : World} {g : Nat} {v : Value} {row : Option Nat} (h : Cur B w0 w g v) (hg : w.grownBy w' row) (hne : some g ≠ row) (hB : B ≤ w.heap.size) (hr : ∀ k, row = some k → B ≤ k) : Cur B w0 w' g v := by
  have hlt := h.lt
  obtain ⟨h1, h2, h3, i, x, hb, h4⟩ := h
  exact ⟨h1, h2.grown hg hB hr, h3, i, x, by rw [hg.block g hlt hne]; exact hb, h4⟩

theorem and255 (X : Int) : ∃ n : Nat, n ≤ 255 ∧ bits .and .i64 X 255 = (n : Int) := by
  have h255 : (BitVec.ofInt 64 255).toNat = 255 := by decide
  have hle : (BitVec.ofInt 64 X &&& BitVec.ofInt 64 255).toNat ≤ 255 := by
    rw [BitVec.toNat_and, h255]
    exact Nat.and_le_right
  refine ⟨(BitVec.ofInt 64 X &&& BitVec.ofInt 64 255).toNat, hle, ?_⟩
  have e : bits .and .i64 X 255 = IntKind.i64.wrap ((BitVec.ofInt 64 X &&& BitVec.ofInt 64 255).toNat : Int) := rfl
  rw [e, IntWalk.i64_in _ (by omega)]

theorem grown_set (w : World) (g j : Nat) (u : Value) : w.grownBy (w.setCell ⟨g, j, none⟩ u) (some g) :=
  ⟨rfl, rfl, rfl, by simp, fun k _ hk => heap_setCell_other w ⟨g, j, none⟩ k u (fun e => hk (by simp [e]))⟩
theorem grown_drn {a w : World} {row : Option Nat} (h : a.grownBy w row) (n : Nat) : a.grownBy (w.drewN n) row := ⟨h.os, h.tape, h.output, h.size, h.block⟩

theorem Cur.drn {B : Nat} {w0 w : World} {g : Nat} {v : Value} (h : Cur B w0 w g v) (n : Nat) : Cur B w0 (w.drewN n) g v :=
  ⟨h.1, h.2.1.trans ⟨rfl, rfl, rfl, Nat.le_refl _, fun _ _ => rfl⟩, h.2.2.1, h.2.2.2⟩

/-- what one store into a cursor leaves, and two -/
theorem cur_one {B : Nat} {w0 w : World} {g : Nat} {v : Value} {i : Nat} {h : Int} (hg : B ≤ g) (hbel : Below B w0 w) (hcode : Code B w0 v)
    (hblk : w.heap[g]? = some (.cells #[v, .int .i64 (i : Int), .int .i64 h] 97 (0, 0))) (h' : Int) (hi : i ≤ 1048576) :
    Cur B w0 (w.setCell ⟨g, 2, none⟩ (.int .i64 h')) g v := by
  have e1 := heap_setCell_same w g 2 _ 97 (.int .i64 h') hblk
  exact ⟨hg, Below.setCell hbel (p := ⟨g, 2, none⟩) hg _, hcode, i, h', by simpa using e1, hi⟩
theorem cur_two {B : Nat} {w0 w : World} {g : Nat} {v : Value} {i : Nat} {h : Int} (hg : B ≤ g) (hbel : Below B w0 w) (hcode : Code B w0 v)
    (hblk : w.heap[g]? = some (.cells #[v, .int .i64 (i : Int), .int .i64 h] 97 (0, 0))) (h' : Int) (i' : Nat) (hi : i' ≤ 1048576) :
    Cur B w0 ((w.setCell ⟨g, 2, none⟩ (.int .i64 h')).setCell ⟨g, 1, none⟩ (.int .i64 (i' : Int))) g v := by
  have e1 := heap_setCell_same w g 2 _ 97 (.int .i64 h') hblk
  have e2 := heap_setCell_same (w.setCell ⟨g, 2, none⟩ (.int .i64 h')) g 1 _ 97 (.int .i64 (i' : Int)) e1
  exact ⟨hg, Below.setCell (Below.setCell hbel (p := ⟨g, 2, none⟩) hg _) (p := ⟨g, 1, none⟩) hg _, hcode, i', h', by simpa using e2, hi⟩

set_option maxRecDepth 100000 in
set_option maxHeartbeats 1000000 in
theorem l01Byte_in (B : Nat) (w0 w : World) (g : Nat) (v : Value) (hc : Cur B w0 w g v) :
    Calls Try.prog 81 #[.pointer (some ⟨g, 0, none⟩)] w fun e w' => ∃ x : Nat, x ≤ 255 ∧ e = .returned (.int .i64 x) ∧ Cur B w0 w' g v ∧ w.grownBy w' (some g) := by
  obtain ⟨hg, hbel, hcode, i, h, hblk, hi1⟩ := hc
  have HC : Hid (Code B w0 v) := hcode
  obtain ⟨ao, b, off, len, cap, rfl, hl, hao, hcells⟩ := hcode
  have c0 : w.cell? ⟨g, 0, none⟩ = some (.slice ao len cap) := by simp [World.cell?, hblk]
  have c1 : w.cell? ⟨g, 1, none⟩ = some (.int .i64 (i : Int)) := by simp [World.cell?, hblk]
  have c2 : w.cell? ⟨g, 2, none⟩ = some (.int .i64 h) := by simp [World.cell?, hblk]
  have f2 : w.frozen? ⟨g, 2, none⟩ = false := by simp [World.frozen?, hblk]
  have f1 : w.frozen? ⟨g, 1, none⟩ = false := by simp [World.frozen?, hblk]
  have HB : Hid (w.heap[g]? = some (.cells #[.slice ao len cap, .int .i64 (i : Int), .int .i64 h] 97 (0, 0))) := hblk
  have HBel : Hid (Below B w0 w) := hbel
  by_cases hlt : i < len
  · obtain ⟨hao1, hbB⟩ := hao (by omega)
    subst hao1
    obtain ⟨z, hz, hcz⟩ := hcells i hlt
    have hczw : w.cell? ⟨b, off + i, none⟩ = some (.int .u8 (z : Int)) := (hbel.cell (p := ⟨b, off + i, none⟩) hbB).trans hcz
    have hbg : b ≠ g := by omega
    clear hcells hao hblk hbel hcz
    go_enter Try.func81, Try.ntmps81
    go_wp2
    generalize hH : wrap64 (wrap64 (h * 6364136223846793005) + 1442695040888963407) = h' at *
    clear hH
    go_quiet (fail)
    go_wp2
    obtain ⟨n, hn, hne⟩ := and255 (bits BinOp.xor IntKind.i64 (h' / 8589934592) (h' / 35184372088832))
    rw [hne]
    clear hne
    go_quiet (fail)
    go_wp2
    go_quiet (fail)
    go_wp2
    obtain ⟨m, hm, hme⟩ := and255 ((n : Int) + (z : Int))
    rw [hme]
    have e1 : ((i : Int) + 1) = ((i + 1 : Nat) : Int) := by omega
    rw [e1]
    go_ret
    exact ⟨m, hm, rfl, (cur_two hg HBel.out HC.out HB.out h' (i + 1) (by omega)).drn _, grown_drn ((grown_set w g 2 _).trans (grown_set _ g 1 _)) _⟩
  · clear hcells hao hblk hbel
    go_enter Try.func81, Try.ntmps81
    go_wp2
    generalize hH : wrap64 (wrap64 (h * 6364136223846793005) + 1442695040888963407) = h' at *
    clear hH
    go_quiet (fail)
    go_wp2
    obtain ⟨n, hn, hne⟩ := and255 (bits BinOp.xor IntKind.i64 (h' / 8589934592) (h' / 35184372088832))
    rw [hne]
    clear hne
    go_quiet (fail)
    go_wp2
    go_ret
    exact ⟨n, hn, rfl, ((cur_one hg HBel.out HC.out HB.out h' hi1).drn _).drn _, grown_drn (grown_drn (grown_set w g 2 _) _) _⟩

end Go.Proofs.Ytiabodhgjeoejaa
/-
  What Hex answers, the program's and the specification's: two figures for each byte.
-/
namespace Go.Proofs.Ytiabodhgjeoejaa
open Go.RowKit
set_option linter.unusedVariables false

/-- the figure of a number below 16 -/
def fig (x : Nat) : UInt8 := if x < 10 then UInt8.ofNat (48 + x) else UInt8.ofNat (87 + x)
def hexL (l : List UInt8) : List UInt8 := l.flatMap (fun b => [fig (b.toNat / 16), fig (b.toNat % 16)])

theorem fig_nat (x : Nat) (h : x < 16) : (fig x).toNat = if x < 10 then 48 + x else 87 + x := by
  unfold fig
  split <;> simp <;> omega

theorem step_app {w : World} {ops : Array Oper} {o : Oper} {a : Act} {K : Act → World → Prop} {Q : Exit → Act → World → Prop} {E : Prop} (hg : o.guard = none) (s x : Operand)
    (hop : o.op = .call { callee := .builtin .append, args := #[s, x], argTypes := #[22, 22] })
    (B : Nat) (w0 : World) (v : Value) (l : List UInt8) (hs : a.eval s = v) (hown : OB B w0 w v l)
    (ad : Addr) (m c : Nat) (news : List UInt8) (hx : a.eval x = .slice (some ad) m c) (hm : news.length = m)
    (hnews : ∀ j u, (bv news)[j]? = some u → w.cell? (ad.add j) = some u) (hlen : l.length + m ≤ 1000000000)
    (hK : ∀ v' w', OB B w0 w' v' (l ++ news) → K (a.put o.dst v') w') : if Region.wanted o (yielded ops a.tmps) = true then Oper.wp Try.prog o a w K Q else E := by
  obtain ⟨i0, hi, hz0, hz1, hz2⟩ := info_parts Try.info5
  obtain ⟨v', w', hrun, h1, h2, _⟩ := run_append_own (P := Try.prog) w B 22 o.type 5 i0 (.int .u8 0) 1 1 Try.underlying22 hi hz0 hz1 hz2 rfl (by decide) v l.length (bv l) hown.1 ad m c (bv news) (by simp [bv, hm]) hnews
    (fun u hu => by simp [bv] at hu; obtain ⟨b, _, rfl⟩ := hu; rfl) (by unfold maxLen; omega) (by omega) hown.2.2
  have hOB : OB B w0 w' v' (l ++ news) := ⟨by rw [List.length_append, bv_append, hm]; exact h1, hown.2.1.grown h2 hown.2.2 (fun k hk => (hown.1.lt k hk).1), Nat.le_trans hown.2.2 h2.size⟩
  have hw : Region.wanted o (yielded ops a.tmps) = true := by simp [Region.wanted, hg]
  rw [if_pos hw]
  unfold Oper.wp
  simp [execOp, hop, resolve, invoke, builtin, hs, hx, hrun, Result.andThen]
  exact hK v' w' hOB

theorem two_bytes (w : World) (x y : Int) (b c : UInt8) (t : TypeId) (hx : x = (b.toNat : Int)) (hy : y = (c.toNat : Int)) : ∀ j u, (bv [b, c])[j]? = some u → (w.alloc (.cells #[.int .u8 x, .int .u8 y] t)).cell? ((⟨w.heap.size, 0, none⟩ : Addr).add j) = some u := by
  intro j u hj
  obtain ⟨hj', rfl⟩ := bv_get _ _ _ hj
  subst hx
  subst hy
  have h0 : j = 0 ∨ j = 1 := by simp at hj'; omega
  rcases h0 with rfl | rfl <;> simp [Addr.add]

/-- 'make([]byte, 0, n)' -/
theorem run_mk (n : Nat) (h : n ≤ 1000000000) (W : World) : ∃ M : Array Value, (Instr.makeSlice 22 (.int .i64 0) (.int .i64 (n : Int))).run Try.prog W = .ok (.slice (some ⟨W.heap.size, 0, none⟩) 0 n) (W.alloc (.cells M 5)) ∧ OB W.heap.size W (W.alloc (.cells M 5)) (.slice (some ⟨W.heap.size, 0, none⟩) 0 n) [] := by
  obtain ⟨i0, hi, hz0, hz1, hz2⟩ := info_parts Try.info5
  have h1 := run_make (P := Try.prog) W 22 5 i0 (.int .u8 0) Try.underlying22 hi hz0 .i64 .i64 0 (n : Int) (by omega) (by omega) (by rw [hz2]; omega) (by omega)
  refine ⟨madeCells (Value.int .u8 0).cells (((n : Nat) : Int).toNat * i0.size), by simpa using h1, ?_⟩
  refine ⟨World.ownsRow_made W _ n (Nat.le_refl _) (by unfold maxLen; omega) ?_, (Below.refl _ _).alloc (Nat.le_refl _) _, by simp⟩
  rw [size_madeCells, hz1]
  simp

def figs : ByteArray := ⟨#[48, 49, 50, 51, 52, 53, 54, 55, 56, 57, 97, 98, 99, 100, 101, 102]⟩
theorem figs_at : ∀ x : Fin 16, figs[x.val]? = some (fig x.val) := by decide
theorem run_fig (x : Int) (h0 : 0 ≤ x) (h1 : x < 16) (w : World) : (Instr.index 9 (.string ⟨#[48, 49, 50, 51, 52, 53, 54, 55, 56, 57, 97, 98, 99, 100, 101, 102]⟩) (.int .u8 x)).run Try.prog w = .ok (.int .u8 ((fig x.toNat).toNat : Int)) w := by
  obtain ⟨n, rfl⟩ := Int.eq_ofNat_of_zero_le h0
  have h2 := figs_at ⟨n, by omega⟩
  have h3 : figs.size = 16 := rfl
  show (Instr.index 9 (.string figs) (.int .u8 (n : Int))).run Try.prog w = _
  rw [run_index_string (P := Try.prog) (w := w) 9 figs .u8 _ Try.underlying9]
  rw [dif_pos ⟨by omega, by rw [h3]; omega⟩]
  simp only [Int.toNat_natCast] at h2 ⊢
  have h4 : figs[n]? = some (figs[n]'(by rw [h3]; omega)) := getElem?_pos ..
  rw [h4] at h2
  simp only [Option.some.injEq] at h2
  rw [h2]

end Go.Proofs.Ytiabodhgjeoejaa
/-
  What else is drawn with the cursor: a number below a bound, a choice, a text; and how a cursor is made.
-/
namespace Go.Proofs.Ytiabodhgjeoejaa
open Go.RowKit
set_option linter.unusedVariables false

/-- the frame of a call that moves the cursor in block g -/
theorem Cur.size {B : Nat} {w0 w : World} {g : Nat} {v : Value} (h : Cur B w0 w g v) : B ≤ w.heap.size := by
  have := h.lt
  have := h.1
  omega

theorem l01Below_small (B : Nat) (w0 w : World) (g : Nat) (v : Value) (n : Nat) (hc : Cur B w0 w g v) (h0 : 0 < n) (h1 : n ≤ 256) :
    Calls Try.prog 51 #[.pointer (some ⟨g, 0, none⟩), .int .i64 n] w fun e w' => ∃ x : Nat, x < n ∧ e = .returned (.int .i64 x) ∧ Cur B w0 w' g v ∧ w.grownBy w' (some g) := by
  have hn0 : ¬ ((n : Int) ≤ 0) := by omega
  have hn1 : (n : Int) ≤ 256 := by omega
  go_enter Try.func51, Try.ntmps51
  go_wp2_with fail
  refine (l01Byte_in B w0 _ g v hc).mono ?_
  rintro e w1 ⟨x, hx, rfl, hc1, hg1⟩
  go_wp2
  go_ret
  exact ⟨x % n, Nat.mod_lt _ h0, by simp, hc1, hg1⟩

theorem l01Below_big (B : Nat) (w0 w : World) (g : Nat) (v : Value) (n : Nat) (hc : Cur B w0 w g v) (h1 : 256 < n) (h2 : n ≤ 4294967296) :
    Calls Try.prog 51 #[.pointer (some ⟨g, 0, none⟩), .int .i64 n] w fun e w' => ∃ x : Nat, x < n ∧ e = .returned (.int .i64 x) ∧ Cur B w0 w' g v ∧ w.grownBy w' (some g) := by
  have hn0 : ¬ ((n : Int) ≤ 0) := by omega
  have hn1 : ¬ ((n : Int) ≤ 256) := by omega
  go_enter Try.func51, Try.ntmps51
  go_wp2_with fail
  refine (l01Byte_in B w0 _ g v hc).mono ?_
  rintro e w1 ⟨x, hx, rfl, hc1, hg1⟩
  go_wp2_with fail
  refine (l01Byte_in B w0 _ g v hc1).mono ?_
  rintro e w2 ⟨y, hy, rfl, hc2, hg2⟩
  go_wp2_with fail
  refine (l01Byte_in B w0 _ g v hc2).mono ?_
  rintro e w3 ⟨z, hz, rfl, hc3, hg3⟩
  go_wp2_with fail
  refine (l01Byte_in B w0 _ g v hc3).mono ?_
  rintro e w4 ⟨t, ht, rfl, hc4, hg4⟩
  go_wp2
  go_ret
  exact ⟨(x * 16777216 + y * 65536 + z * 256 + t) % n, Nat.mod_lt _ (by omega), by simp, hc4, ((hg1.trans hg2).trans hg3).trans hg4⟩

theorem l01Below_nat (B : Nat) (w0 w : World) (g : Nat) (v : Value) (n : Nat) (hc : Cur B w0 w g v) (h1 : 0 < n) (h2 : n ≤ 4294967296) :
    Calls Try.prog 51 #[.pointer (some ⟨g, 0, none⟩), .int .i64 n] w fun e w' => ∃ x : Nat, x < n ∧ e = .returned (.int .i64 x) ∧ Cur B w0 w' g v ∧ w.grownBy w' (some g) := by
  by_cases h : n ≤ 256
  · exact l01Below_small B w0 w g v n hc h1 h
  · exact l01Below_big B w0 w g v n hc (by omega) h2

theorem l01Below_in (B : Nat) (w0 w : World) (g : Nat) (v : Value) (x : Int) (n : Nat) (hx : x = (n : Int)) (hc : Cur B w0 w g v) (h1 : 0 < n) (h2 : n ≤ 4294967296) :
    Calls Try.prog 51 #[.pointer (some ⟨g, 0, none⟩), .int .i64 x] w fun e w' => ∃ x : Nat, x < n ∧ e = .returned (.int .i64 x) ∧ Cur B w0 w' g v ∧ w.grownBy w' (some g) := by
  subst hx
  exact l01Below_nat B w0 w g v n hc h1 h2

theorem l01Once_in (B : Nat) (w0 w : World) (g : Nat) (v : Value) (x : Int) (n : Nat) (hx : x = (n : Int)) (hc : Cur B w0 w g v) (h1 : 0 < n) (h2 : n ≤ 4294967296) :
    Calls Try.prog 93 #[.pointer (some ⟨g, 0, none⟩), .int .i64 x] w fun e w' => ∃ b : Bool, e = .returned (.bool b) ∧ Cur B w0 w' g v ∧ w.grownBy w' (some g) := by
  subst hx
  go_enter Try.func93, Try.ntmps93
  go_wp2_with fail
  refine (l01Below_nat B w0 _ g v n hc h1 h2).mono ?_
  rintro e w1 ⟨y, hy, rfl, hc1, hg1⟩
  go_wp2
  go_ret
  exact ⟨_, rfl, hc1, hg1⟩

theorem big_no (ao : Option Addr) (len cap : Nat) (w : World) (h : len ≤ 1048576) :
    Calls Try.prog 9 #[.slice ao len cap] w fun e w' => e = .returned (.bool false) ∧ w' = w := by
  have h' : ¬ ((1048576 : Int) < (len : Int)) := by omega
  go_enter Try.func9, Try.ntmps9
  go_wp2
  go_ret
  exact ⟨by simp <;> omega, rfl⟩

theorem big_yes (ao : Option Addr) (len cap : Nat) (w : World) (h : 1048576 < len) (hm : len ≤ 9223372036854775807) :
    Calls Try.prog 9 #[.slice ao len cap] w fun e w' => e = .returned (.bool true) ∧ w' = w := by
  have h' : (1048576 : Int) < (len : Int) := by omega
  go_enter Try.func9, Try.ntmps9
  go_wp2
  go_ret
  exact ⟨by simp <;> omega, rfl⟩

def NewRel (len : Nat) (h i : Value) : Prop := ∃ (k : Nat) (x : Int), k ≤ len ∧ i = .int .i64 k ∧ h = .int .i64 x

set_option maxRecDepth 100000 in
set_option maxHeartbeats 1000000 in
theorem l01New_in (w : World) (v : Value) (hc : Code w.heap.size w v) :
    Calls Try.prog 40 #[v] w fun e w' => ∃ g, e = .returned (.pointer (some ⟨g, 0, none⟩)) ∧ Cur w.heap.size w w' g v ∧ Below w.heap.size w w' := by
  have HC : Hid (Code w.heap.size w v) := hc
  obtain ⟨ao, b, off, len, cap, rfl, hl, hao, hcells⟩ := hc
  have HA : Hid (0 < len → ao = some ⟨b, off, none⟩ ∧ b < w.heap.size) := hao
  have HL : Hid (∀ j, j < len → ∃ n : Nat, n ≤ 255 ∧ w.cell? ⟨b, off + j, none⟩ = some (.int .u8 (n : Int))) := hcells
  clear hao hcells
  go_enter Try.func40, Try.ntmps40
  go_wp2
  go_loop [3, 4] (fun h i => NewRel len h i) (fun _ i => len - (intOf i).toNat)
  case atStart => exact ⟨0, _, by omega, rfl, rfl⟩
  case round =>
    obtain ⟨k, x, hk, rfl, rfl⟩ := hrel
    by_cases hlt : k < len ∧ k < 4000
    · obtain ⟨hlt1, hlt2⟩ := hlt
      obtain ⟨rfl, hb⟩ := HA.out (by omega)
      obtain ⟨z, hz, hcz⟩ := HL.out k hlt1
      go_wp2
      go_round
      case rel => exact ⟨k + 1, _, by omega, by go_num, rfl⟩
      case measure => simp [intOf] <;> omega
    · go_wp2
      all_goals
        go_ret
        refine ⟨w.heap.size, rfl, ⟨Nat.le_refl _, (Below.refl _ _).alloc (Nat.le_refl _) _, HC.out, 0, x, ?_, by omega⟩, (Below.refl _ _).alloc (Nat.le_refl _) _⟩
        exact heap_alloc_new w _

theorem grow_then {a b c : World} {row row' : Option Nat} (h : a.grownBy b row) (k : b.grownBy c row') (hr : ∀ j, row' = some j → a.heap.size ≤ j ∨ row = some j) : a.grownBy c row := by
  refine ⟨k.os.trans h.os, k.tape.trans h.tape, k.output.trans h.output, Nat.le_trans h.size k.size, fun j hj hne => ?_⟩
  rw [k.block j (Nat.lt_of_lt_of_le hj h.size) ?_, h.block j hj hne]
  intro he
  rcases hr j he.symm with h1 | h1
  · omega
  · exact hne h1.symm

/-- a row of bytes that the call owns is not the cursor's block -/
theorem own_ne {B Bw : Nat} {w0 w : World} {g n : Nat} {v u : Value} {xs : List Value} (hc : Cur B w0 w g v) (ho : w.ownsRow Bw 5 1 u n xs) : some g ≠ u.ownBlock := by
  intro he
  obtain ⟨_, _, _, i, x, hb, _⟩ := hc
  rcases ho.2 with ⟨rfl, _⟩ | ⟨g', cap, cur, rfl, _, hg, _⟩
  · simp [Value.ownBlock] at he
  · simp [Value.ownBlock] at he
    subst he
    rw [hb] at hg
    simp at hg

/-- a row of bytes, owned, in blocks that are new since w -/
def Row (w wr : World) (u : Value) (l : List UInt8) : Prop := wr.ownsRow w.heap.size 5 1 u l.length (bv l)

theorem wp_appG {w : World} {ops : Array Oper} {rest : List Oper} {o : Oper} {a : Act} {Q : Exit → Act → World → Prop} (hgd : o.guard = none) (s x : Operand)
    (ho : o.op = .call { callee := .builtin .append, args := #[s, x], argTypes := #[22, 22] })
    (ws : World) (v : Value) (l : List UInt8) (hs : a.eval s = v) (hown : Row ws w v l) (hsz : ws.heap.size ≤ w.heap.size)
    (ad : Addr) (c : UInt8) (hx : a.eval x = .slice (some ad) 1 1) (hnews : ∀ j u, (bv [c])[j]? = some u → w.cell? (ad.add j) = some u) (hlen : l.length ≤ 1000000)
    (h : ∀ v' w', Row ws w' v' (l ++ [c]) → w.grownBy w' v.ownBlock → wpList Try.prog ops Q rest (a.put o.dst v') w') : wpList Try.prog ops Q (o :: rest) a w := by
  obtain ⟨i0, hi, hz0, hz1, hz2⟩ := info_parts Try.info5
  refine wpList_append_own _ hgd s x 22 ho ws.heap.size 5 i0 (.int .u8 0) 1 1 Try.underlying22 hi hz0 hz1 hz2 rfl (by decide) v l.length (bv l) hs hown ad 1 1 (bv [c]) hx (by simp [bv]) hnews
    (fun u hu => by simp [bv] at hu; subst hu; rfl) (by unfold maxLen; omega) (by omega) hsz ?_
  intro v' w' h1 h2 _
  exact h v' w' (by unfold Row; rw [List.length_append, bv_append]; exact h1) h2

theorem run_strR {ws w : World} {v : Value} {l : List UInt8} (h : Row ws w v l) (hs : ws.heap.size ≤ w.heap.size) : (convert 22 9 v).run Try.prog w = .ok (.string ⟨l.toArray⟩) w :=
  run_str (B := 0) (w0 := w) ⟨⟨h.1, by
    rcases h.2 with hn | ⟨g, cap, cur, hv, hbg, rest⟩
    · exact .inl hn
    · exact .inr ⟨g, cap, cur, hv, Nat.zero_le _, rest⟩⟩, ⟨rfl, rfl, rfl, Nat.le_refl _, fun _ _ => rfl⟩, Nat.zero_le _⟩

def TxRel (B : Nat) (w0 w : World) (g : Nat) (v : Value) (n : Nat) (u i : Value) (wr : World) : Prop :=
  ∃ (k : Nat) (l : List UInt8), k ≤ n ∧ i = .int .i64 k ∧ l.length = k ∧ Row w wr u l ∧ Cur B w0 wr g v ∧ w.grownBy wr (some g)

theorem byteI (x : Nat) (h : x ≤ 255) : (x : Int) = ((UInt8.ofNat x).toNat : Int) := by
  simp
  omega

set_option maxRecDepth 100000 in
set_option maxHeartbeats 1000000 in
theorem l01Text_nat (B : Nat) (w0 w : World) (g : Nat) (v : Value) (n : Nat) (hc : Cur B w0 w g v) (hn : n ≤ 5000) :
    Calls Try.prog 84 #[.pointer (some ⟨g, 0, none⟩), .int .i64 n] w fun e w' => ∃ l : List UInt8, l.length = n ∧ e = .returned (.string ⟨l.toArray⟩) ∧ Cur B w0 w' g v ∧ w.grownBy w' (some g) := by
  have hn1 : ¬ ((5000 : Int) < (n : Int)) := by omega
  go_enter Try.func84, Try.ntmps84
  go_wp2
  go_loopw [5, 6] (fun u i wr => TxRel B w0 w g v n u i wr) (fun _ i _ => n - (intOf i).toNat)
  case atStart =>
    refine ⟨0, [], by omega, rfl, rfl, World.ownsRow_made w #[] 0 (Nat.le_refl _) (by decide) (by simp), ?_, World.grownBy_alloc w _ _⟩
    exact hc.kept (World.grownBy_alloc w _ none) (by simp) hc.size (fun k hk => by cases hk)
  case round =>
    obtain ⟨k, l, hk, rfl, hll, hrow, hcr, hgr⟩ := hrel
    by_cases hlt : k < n
    · go_wp2_with fail
      refine (l01Byte_in B w0 _ g v hcr).mono ?_
      rintro e w1 ⟨x, hx, rfl, hc1, hg1⟩
      have hrow1 : Row w w1 u5 l := World.ownsRow.kept hrow hg1 (.inr (own_ne hcr hrow).symm)
      have hgr1 := hgr.trans hg1
      go_wp2_with (at_builtin; refine wp_appG rfl _ _ rfl w _ l rfl (World.ownsRow.alloc hrow1 _) ?c0 ⟨w1.heap.size, 0, none⟩ (UInt8.ofNat x) rfl ?c1 ?c2 ?_)
      case c0 => have := hgr1.size; simp; omega
      case c1 => exact one_byte _ _ _ _ (byteI x hx)
      case c2 => omega
      intro v' w2 hrow2 hg2
      have hne := own_ne hc1 hrow1
      have hge : ∀ j, u5.ownBlock = some j → w.heap.size ≤ j := fun j hj => (World.ownsRow.lt hrow1 j hj).1
      have hB := hc.size
      have hca : Cur B w0 (w1.alloc (.cells #[.int .u8 (x : Int)] 5)) g v := hc1.kept (World.grownBy_alloc w1 _ none) (by simp) hc1.size (fun k hk => by cases hk)
      have hc2 : Cur B w0 w2 g v := hca.kept hg2 hne hca.size (fun j hj => Nat.le_trans hB (hge j hj))
      have hgr2 : w.grownBy w2 (some g) := grow_then (hgr1.trans (World.grownBy_alloc w1 _ (some g))) hg2 (fun j hj => .inl (hge j hj))
      clear hca hne hge hg2 hgr1 hrow1 hc1 hg1
      go_wp2
      go_roundw
      case rel => exact ⟨k + 1, l ++ [UInt8.ofNat x], by omega, by go_num, by simp; omega, hrow2, hc2, hgr2⟩
      case measure => simp [intOf] <;> omega
    · have hke : k = n := by omega
      subst hke
      have hcv := run_strR hrow hgr.size
      go_wp2
      go_ret
      exact ⟨l, hll, rfl, hcr, hgr⟩

theorem l01Text_in (B : Nat) (w0 w : World) (g : Nat) (v : Value) (x : Int) (n : Nat) (hx : x = (n : Int)) (hc : Cur B w0 w g v) (hn : n ≤ 5000) :
    Calls Try.prog 84 #[.pointer (some ⟨g, 0, none⟩), .int .i64 x] w fun e w' => ∃ l : List UInt8, l.length = n ∧ e = .returned (.string ⟨l.toArray⟩) ∧ Cur B w0 w' g v ∧ w.grownBy w' (some g) := by
  subst hx
  exact l01Text_nat B w0 w g v n hc hn

end Go.Proofs.Ytiabodhgjeoejaa
