/-
  Texts laid together: Draw, Hex, Drawb, Drawc.
-/
import Derived.Test.YthlgohplljcgfaaGreatDoorPkESN0
import Derived.Deep.QuietTactic
import Derived.BigQuiet
import Derived.Maps.AppendAt
import Derived.Test.YthlgohplljcgfaaGreatDoorPkESN1
import Derived.Deep.RegionHeld3
import Derived.Deep.RegionLaw
/-
  What the specification's cursor over drawn bytes gives: some byte, some number below a bound, some text.
-/
namespace Go.Proofs.YthlgohplljcgfaaGreatDoor
open Go.RowKit
set_option linter.unusedVariables false

/-- the bytes of a draw: a slice whose cells hold bytes, in blocks below B -/
def Code (B : Nat) (w : World) (v : Value) : Prop :=
  ∃ (ao : Option Addr) (b off len cap : Nat), v = .slice ao len cap ∧ len ≤ 1048576 ∧ (0 < len → ao = some ⟨b, off, none⟩ ∧ b < B) ∧ ∀ j, j < len → ∃ n : Nat, n ≤ 255 ∧ w.cell? ⟨b, off + j, none⟩ = some (.int .u8 (n : Int))

theorem and255 (X : Int) : ∃ n : Nat, n ≤ 255 ∧ bits .and .i64 X 255 = (n : Int) := by
  have h255 : (BitVec.ofInt 64 255).toNat = 255 := by decide
  have hle : (BitVec.ofInt 64 X &&& BitVec.ofInt 64 255).toNat ≤ 255 := by
    rw [BitVec.toNat_and, h255]
    exact Nat.and_le_right
  refine ⟨(BitVec.ofInt 64 X &&& BitVec.ofInt 64 255).toNat, hle, ?_⟩
  have e : bits .and .i64 X 255 = IntKind.i64.wrap ((BitVec.ofInt 64 X &&& BitVec.ofInt 64 255).toNat : Int) := rfl
  rw [e, IntWalk.i64_in _ (by omega)]

theorem grown_set (w : World) (g j : Nat) (u : Value) : w.grownBy (w.setCell ⟨g, j, none⟩ u) (some g) :=
  ⟨rfl, rfl, rfl, by simp, fun k _ hk => heap_setCell_other w ⟨g, j, none⟩ k u (fun e => hk (by simp [e]))⟩
theorem grown_drn {a w : World} {row : Option Nat} (h : a.grownBy w row) (n : Nat) : a.grownBy (w.drewN n) row := ⟨h.os, h.tape, h.output, h.size, h.block⟩

end Go.Proofs.YthlgohplljcgfaaGreatDoor
/-
  What Hex answers, the program's and the specification's: two figures for each byte.
-/
namespace Go.Proofs.YthlgohplljcgfaaGreatDoor
open Go.RowKit
set_option linter.unusedVariables false

/-- the figure of a number below 16 -/
def fig (x : Nat) : UInt8 := if x < 10 then UInt8.ofNat (48 + x) else UInt8.ofNat (87 + x)
def hexL (l : List UInt8) : List UInt8 := l.flatMap (fun b => [fig (b.toNat / 16), fig (b.toNat % 16)])

theorem fig_nat (x : Nat) (h : x < 16) : (fig x).toNat = if x < 10 then 48 + x else 87 + x := by
  unfold fig
  split <;> simp <;> omega

theorem step_app {w : World} {ops : Array Oper} {o : Oper} {a : Act} {K : Act → World → Prop} {Q : Exit → Act → World → Prop} {E : Prop} (hg : o.guard = none) (s x : Operand)
    (hop : o.op = .call { callee := .builtin .append, args := #[s, x], argTypes := #[159, 159] })
    (B : Nat) (w0 : World) (v : Value) (l : List UInt8) (hs : a.eval s = v) (hown : OB B w0 w v l)
    (ad : Addr) (m c : Nat) (news : List UInt8) (hx : a.eval x = .slice (some ad) m c) (hm : news.length = m)
    (hnews : ∀ j u, (bv news)[j]? = some u → w.cell? (ad.add j) = some u) (hlen : l.length + m ≤ 1000000000)
    (hK : ∀ v' w', OB B w0 w' v' (l ++ news) → K (a.put o.dst v') w') : if Region.wanted o (yielded ops a.tmps) = true then Oper.wp Tryz.prog o a w K Q else E := by
  obtain ⟨i0, hi, hz0, hz1, hz2⟩ := info_parts Tryz.info5
  obtain ⟨v', w', hrun, h1, h2, _⟩ := run_append_own (P := Tryz.prog) w B 159 o.type 5 i0 (.int .u8 0) 1 1 Tryz.underlying159 hi hz0 hz1 hz2 rfl (by decide) v l.length (bv l) hown.1 ad m c (bv news) (by simp [bv, hm]) hnews
    (fun u hu => by simp [bv] at hu; obtain ⟨b, _, rfl⟩ := hu; rfl) (by unfold maxLen; omega) (by omega) hown.2.2
  have hOB : OB B w0 w' v' (l ++ news) := ⟨by rw [List.length_append, bv_append, hm]; exact h1, hown.2.1.grown h2 hown.2.2 (fun k hk => (hown.1.lt k hk).1), Nat.le_trans hown.2.2 h2.size⟩
  have hw : Region.wanted o (yielded ops a.tmps) = true := by simp [Region.wanted, hg]
  rw [if_pos hw]
  unfold Oper.wp
  simp [execOp, hop, resolve, invoke, builtin, hs, hx, hrun, Result.andThen]
  exact hK v' w' hOB

theorem two_bytes (w : World) (x y : Int) (b c : UInt8) (t : TypeId) (hx : x = (b.toNat : Int)) (hy : y = (c.toNat : Int)) : ∀ j u, (bv [b, c])[j]? = some u → (w.alloc (.cells #[.int .u8 x, .int .u8 y] t)).cell? ((⟨w.heap.size, 0, none⟩ : Addr).add j) = some u := by
  intro j u hj
  obtain ⟨hj', rfl⟩ := bv_get _ _ _ hj
  subst hx
  subst hy
  have h0 : j = 0 ∨ j = 1 := by simp at hj'; omega
  rcases h0 with rfl | rfl <;> simp [Addr.add]

/-- 'make([]byte, 0, n)' -/
theorem run_mk (n : Nat) (h : n ≤ 1000000000) (W : World) : ∃ M : Array Value, (Instr.makeSlice 159 (.int .i64 0) (.int .i64 (n : Int))).run Tryz.prog W = .ok (.slice (some ⟨W.heap.size, 0, none⟩) 0 n) (W.alloc (.cells M 5)) ∧ OB W.heap.size W (W.alloc (.cells M 5)) (.slice (some ⟨W.heap.size, 0, none⟩) 0 n) [] := by
  obtain ⟨i0, hi, hz0, hz1, hz2⟩ := info_parts Tryz.info5
  have h1 := run_make (P := Tryz.prog) W 159 5 i0 (.int .u8 0) Tryz.underlying159 hi hz0 .i64 .i64 0 (n : Int) (by omega) (by omega) (by rw [hz2]; omega) (by omega)
  refine ⟨madeCells (Value.int .u8 0).cells (((n : Nat) : Int).toNat * i0.size), by simpa using h1, ?_⟩
  refine ⟨World.ownsRow_made W _ n (Nat.le_refl _) (by unfold maxLen; omega) ?_, (Below.refl _ _).alloc (Nat.le_refl _) _, by simp⟩
  rw [size_madeCells, hz1]
  simp

def figs : ByteArray := ⟨#[48, 49, 50, 51, 52, 53, 54, 55, 56, 57, 97, 98, 99, 100, 101, 102]⟩
theorem figs_at : ∀ x : Fin 16, figs[x.val]? = some (fig x.val) := by decide
theorem run_fig (x : Int) (h0 : 0 ≤ x) (h1 : x < 16) (w : World) : (Instr.index 9 (.string ⟨#[48, 49, 50, 51, 52, 53, 54, 55, 56, 57, 97, 98, 99, 100, 101, 102]⟩) (.int .u8 x)).run Tryz.prog w = .ok (.int .u8 ((fig x.toNat).toNat : Int)) w := by
  obtain ⟨n, rfl⟩ := Int.eq_ofNat_of_zero_le h0
  have h2 := figs_at ⟨n, by omega⟩
  have h3 : figs.size = 16 := rfl
  show (Instr.index 9 (.string figs) (.int .u8 (n : Int))).run Tryz.prog w = _
  rw [run_index_string (P := Tryz.prog) (w := w) 9 figs .u8 _ Tryz.underlying9]
  rw [dif_pos ⟨by omega, by rw [h3]; omega⟩]
  simp only [Int.toNat_natCast] at h2 ⊢
  have h4 : figs[n]? = some (figs[n]'(by rw [h3]; omega)) := getElem?_pos ..
  rw [h4] at h2
  simp only [Option.some.injEq] at h2
  rw [h2]

end Go.Proofs.YthlgohplljcgfaaGreatDoor
/-
  What else is drawn with the cursor: a number below a bound, a choice, a text; and how a cursor is made.
-/
namespace Go.Proofs.YthlgohplljcgfaaGreatDoor
open Go.RowKit
set_option linter.unusedVariables false

def NewRel (len : Nat) (h i : Value) : Prop := ∃ (k : Nat) (x : Int), k ≤ len ∧ i = .int .i64 k ∧ h = .int .i64 x

theorem grow_then {a b c : World} {row row' : Option Nat} (h : a.grownBy b row) (k : b.grownBy c row') (hr : ∀ j, row' = some j → a.heap.size ≤ j ∨ row = some j) : a.grownBy c row := by
  refine ⟨k.os.trans h.os, k.tape.trans h.tape, k.output.trans h.output, Nat.le_trans h.size k.size, fun j hj hne => ?_⟩
  rw [k.block j (Nat.lt_of_lt_of_le hj h.size) ?_, h.block j hj hne]
  intro he
  rcases hr j he.symm with h1 | h1
  · omega
  · exact hne h1.symm

/-- a row of bytes, owned, in blocks that are new since w -/
def Row (w wr : World) (u : Value) (l : List UInt8) : Prop := wr.ownsRow w.heap.size 5 1 u l.length (bv l)

theorem wp_appG {w : World} {ops : Array Oper} {rest : List Oper} {o : Oper} {a : Act} {Q : Exit → Act → World → Prop} (hgd : o.guard = none) (s x : Operand)
    (ho : o.op = .call { callee := .builtin .append, args := #[s, x], argTypes := #[159, 159] })
    (ws : World) (v : Value) (l : List UInt8) (hs : a.eval s = v) (hown : Row ws w v l) (hsz : ws.heap.size ≤ w.heap.size)
    (ad : Addr) (c : UInt8) (hx : a.eval x = .slice (some ad) 1 1) (hnews : ∀ j u, (bv [c])[j]? = some u → w.cell? (ad.add j) = some u) (hlen : l.length ≤ 1000000)
    (h : ∀ v' w', Row ws w' v' (l ++ [c]) → w.grownBy w' v.ownBlock → wpList Tryz.prog ops Q rest (a.put o.dst v') w') : wpList Tryz.prog ops Q (o :: rest) a w := by
  obtain ⟨i0, hi, hz0, hz1, hz2⟩ := info_parts Tryz.info5
  refine wpList_append_own _ hgd s x 159 ho ws.heap.size 5 i0 (.int .u8 0) 1 1 Tryz.underlying159 hi hz0 hz1 hz2 rfl (by decide) v l.length (bv l) hs hown ad 1 1 (bv [c]) hx (by simp [bv]) hnews
    (fun u hu => by simp [bv] at hu; subst hu; rfl) (by unfold maxLen; omega) (by omega) hsz ?_
  intro v' w' h1 h2 _
  exact h v' w' (by unfold Row; rw [List.length_append, bv_append]; exact h1) h2

theorem run_strR {ws w : World} {v : Value} {l : List UInt8} (h : Row ws w v l) (hs : ws.heap.size ≤ w.heap.size) : (convert 159 9 v).run Tryz.prog w = .ok (.string ⟨l.toArray⟩) w :=
  run_str (B := 0) (w0 := w) ⟨⟨h.1, by
    rcases h.2 with hn | ⟨g, cap, cur, hv, hbg, rest⟩
    · exact .inl hn
    · exact .inr ⟨g, cap, cur, hv, Nat.zero_le _, rest⟩⟩, ⟨rfl, rfl, rfl, Nat.le_refl _, fun _ _ => rfl⟩, Nat.zero_le _⟩

theorem byteI (x : Nat) (h : x ≤ 255) : (x : Int) = ((UInt8.ofNat x).toNat : Int) := by
  simp
  omega

end Go.Proofs.YthlgohplljcgfaaGreatDoor
/-
  What is drawn for numbers and texts: DrawVarText, DrawHex.
-/
namespace Go.Proofs.YthlgohplljcgfaaGreatDoor
open Go.RowKit
set_option linter.unusedVariables false

def LgRel (w : World) (n : Nat) (x : UInt8) (i : Value) (wr : World) : Prop :=
  ∃ k : Nat, k ≤ n ∧ i = .int .i64 k ∧ wr.ownsRow w.heap.size 5 1 (.slice (some ⟨w.heap.size, 0, none⟩) n n) n (bv (List.replicate k x ++ List.replicate (n - k) 0)) ∧ Below w.heap.size w wr

theorem lg_set (x : UInt8) (n k : Nat) (h : k < n) : (bv (List.replicate k x ++ List.replicate (n - k) 0)).set k (.int .u8 (x.toNat : Int)) = bv (List.replicate (k + 1) x ++ List.replicate (n - (k + 1)) 0) := by
  have e : n - k = (n - (k + 1)) + 1 := by omega
  have e2 : List.replicate k x ++ List.replicate (n - k) 0 = List.replicate k x ++ 0 :: List.replicate (n - (k + 1)) 0 := by rw [e, List.replicate_succ]
  have e3 : List.replicate (k + 1) x = List.replicate k x ++ [x] := List.replicate_succ'
  rw [e2, e3]
  unfold bv
  rw [List.map_append, List.map_cons, List.set_append_right _ _ (by simp), List.length_map, List.length_replicate, Nat.sub_self, List.set_cons_zero]
  simp

def numList : List Int := [-1, 0, 127, 128, 16383, 16384, 1000000000, 1000000001, 9223372036854775807, -9223372036854775808]
theorem numList_in (y : Int) (h : y ∈ numList) : -9223372036854775808 ≤ y ∧ y ≤ 9223372036854775807 := by
  simp [numList] at h
  omega

def numCells : Array Value := #[.int .i64 (-1), .int .i64 0, .int .i64 127, .int .i64 128, .int .i64 16383, .int .i64 16384, .int .i64 1000000000, .int .i64 1000000001, .int .i64 9223372036854775807, .int .i64 (-9223372036854775808)]
theorem numCells_at (w : World) : Hid (∀ j, (h : j < numList.length) → (w.alloc (.cells numCells 3)).cell? ⟨w.heap.size, j, none⟩ = some (.int .i64 numList[j])) := by
  intro j hj
  rw [World.cell?_alloc_at _ _ _ _ rfl]
  have : j = 0 ∨ j = 1 ∨ j = 2 ∨ j = 3 ∨ j = 4 ∨ j = 5 ∨ j = 6 ∨ j = 7 ∨ j = 8 ∨ j = 9 := by simp [numList] at hj; omega
  rcases this with rfl | rfl | rfl | rfl | rfl | rfl | rfl | rfl | rfl | rfl <;> rfl

end Go.Proofs.YthlgohplljcgfaaGreatDoor
