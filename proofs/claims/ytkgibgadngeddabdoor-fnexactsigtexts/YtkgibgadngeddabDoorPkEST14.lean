/-
  Texts laid together: Drawb, Drawc.
-/
import Derived.Test.YtkgibgadngeddabDoorPkEST13
import Derived.Test.YtkgibgadngeddabDoorPkEST1
import Derived.Test.YtkgibgadngeddabDoorPkEST8
/-
  What else is drawn with the cursor: a number below a bound, a choice, a text; and how a cursor is made.
-/
namespace Go.Proofs.YtkgibgadngeddabDoor
open Go.RowKit
set_option linter.unusedVariables false

def NewRel (len : Nat) (h i : Value) : Prop := ∃ (k : Nat) (x : Int), k ≤ len ∧ i = .int .i64 k ∧ h = .int .i64 x

theorem grow_then {a b c : World} {row row' : Option Nat} (h : a.grownBy b row) (k : b.grownBy c row') (hr : ∀ j, row' = some j → a.heap.size ≤ j ∨ row = some j) : a.grownBy c row := by
  refine ⟨k.os.trans h.os, k.tape.trans h.tape, k.output.trans h.output, Nat.le_trans h.size k.size, fun j hj hne => ?_⟩
  rw [k.block j (Nat.lt_of_lt_of_le hj h.size) ?_, h.block j hj hne]
  intro he
  rcases hr j he.symm with h1 | h1
  · omega
  · exact hne h1.symm

/-- a row of bytes, owned, in blocks that are new since w -/
def Row (w wr : World) (u : Value) (l : List UInt8) : Prop := wr.ownsRow w.heap.size 5 1 u l.length (bv l)

theorem wp_appG {w : World} {ops : Array Oper} {rest : List Oper} {o : Oper} {a : Act} {Q : Exit → Act → World → Prop} (hgd : o.guard = none) (s x : Operand)
    (ho : o.op = .call { callee := .builtin .append, args := #[s, x], argTypes := #[51, 51] })
    (ws : World) (v : Value) (l : List UInt8) (hs : a.eval s = v) (hown : Row ws w v l) (hsz : ws.heap.size ≤ w.heap.size)
    (ad : Addr) (c : UInt8) (hx : a.eval x = .slice (some ad) 1 1) (hnews : ∀ j u, (bv [c])[j]? = some u → w.cell? (ad.add j) = some u) (hlen : l.length ≤ 1000000)
    (h : ∀ v' w', Row ws w' v' (l ++ [c]) → w.grownBy w' v.ownBlock → wpList Tryd.prog ops Q rest (a.put o.dst v') w') : wpList Tryd.prog ops Q (o :: rest) a w := by
  obtain ⟨i0, hi, hz0, hz1, hz2⟩ := info_parts Tryd.info5
  refine wpList_append_own _ hgd s x 51 ho ws.heap.size 5 i0 (.int .u8 0) 1 1 Tryd.underlying51 hi hz0 hz1 hz2 rfl (by decide) v l.length (bv l) hs hown ad 1 1 (bv [c]) hx (by simp [bv]) hnews
    (fun u hu => by simp [bv] at hu; subst hu; rfl) (by unfold maxLen; omega) (by omega) hsz ?_
  intro v' w' h1 h2 _
  exact h v' w' (by unfold Row; rw [List.length_append, bv_append]; exact h1) h2

theorem run_strR {ws w : World} {v : Value} {l : List UInt8} (h : Row ws w v l) (hs : ws.heap.size ≤ w.heap.size) : (convert 51 9 v).run Tryd.prog w = .ok (.string ⟨l.toArray⟩) w :=
  run_str (B := 0) (w0 := w) ⟨⟨h.1, by
    rcases h.2 with hn | ⟨g, cap, cur, hv, hbg, rest⟩
    · exact .inl hn
    · exact .inr ⟨g, cap, cur, hv, Nat.zero_le _, rest⟩⟩, ⟨rfl, rfl, rfl, Nat.le_refl _, fun _ _ => rfl⟩, Nat.zero_le _⟩

theorem byteI (x : Nat) (h : x ≤ 255) : (x : Int) = ((UInt8.ofNat x).toNat : Int) := by
  simp
  omega

end Go.Proofs.YtkgibgadngeddabDoor
/-
  What is drawn for numbers and texts: DrawVarText, DrawHex.
-/
namespace Go.Proofs.YtkgibgadngeddabDoor
open Go.RowKit
set_option linter.unusedVariables false

def LgRel (w : World) (n : Nat) (x : UInt8) (i : Value) (wr : World) : Prop :=
  ∃ k : Nat, k ≤ n ∧ i = .int .i64 k ∧ wr.ownsRow w.heap.size 5 1 (.slice (some ⟨w.heap.size, 0, none⟩) n n) n (bv (List.replicate k x ++ List.replicate (n - k) 0)) ∧ Below w.heap.size w wr

theorem lg_set (x : UInt8) (n k : Nat) (h : k < n) : (bv (List.replicate k x ++ List.replicate (n - k) 0)).set k (.int .u8 (x.toNat : Int)) = bv (List.replicate (k + 1) x ++ List.replicate (n - (k + 1)) 0) := by
  have e : n - k = (n - (k + 1)) + 1 := by omega
  have e2 : List.replicate k x ++ List.replicate (n - k) 0 = List.replicate k x ++ 0 :: List.replicate (n - (k + 1)) 0 := by rw [e, List.replicate_succ]
  have e3 : List.replicate (k + 1) x = List.replicate k x ++ [x] := List.replicate_succ'
  rw [e2, e3]
  unfold bv
  rw [List.map_append, List.map_cons, List.set_append_right _ _ (by simp), List.length_map, List.length_replicate, Nat.sub_self, List.set_cons_zero]
  simp

def numList : List Int := [-1, 0, 127, 128, 16383, 16384, 1000000000, 1000000001, 9223372036854775807, -9223372036854775808]
theorem numList_in (y : Int) (h : y ∈ numList) : -9223372036854775808 ≤ y ∧ y ≤ 9223372036854775807 := by
  simp [numList] at h
  omega

def numCells : Array Value := #[.int .i64 (-1), .int .i64 0, .int .i64 127, .int .i64 128, .int .i64 16383, .int .i64 16384, .int .i64 1000000000, .int .i64 1000000001, .int .i64 9223372036854775807, .int .i64 (-9223372036854775808)]
theorem numCells_at (w : World) : Hid (∀ j, (h : j < numList.length) → (w.alloc (.cells numCells 3)).cell? ⟨w.heap.size, j, none⟩ = some (.int .i64 numList[j])) := by
  intro j hj
  rw [World.cell?_alloc_at _ _ _ _ rfl]
  have : j = 0 ∨ j = 1 ∨ j = 2 ∨ j = 3 ∨ j = 4 ∨ j = 5 ∨ j = 6 ∨ j = 7 ∨ j = 8 ∨ j = 9 := by simp [numList] at hj; omega
  rcases this with rfl | rfl | rfl | rfl | rfl | rfl | rfl | rfl | rfl | rfl <;> rfl

end Go.Proofs.YtkgibgadngeddabDoor
