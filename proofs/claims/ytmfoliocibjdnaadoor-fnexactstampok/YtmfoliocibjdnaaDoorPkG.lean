/-
  Texts laid together: Draw, Drawb, Drawc, Dtag, Lit, Tbl, Places.
-/
import Derived.Test.YtmfoliocibjdnaaDoorPkA
import Derived.Deep.QuietTactic
import Derived.BigQuiet
import Derived.Maps.AppendAt
import Derived.Test.YtmfoliocibjdnaaDoorPkD
import Derived.Deep.AppendLies
/-
  What the specification's cursor over drawn bytes gives: some byte, some number below a bound, some text.
-/
namespace Go.Proofs.YtmfoliocibjdnaaDoor
open Go.RowKit
set_option linter.unusedVariables false

/-- the bytes of a draw: a slice whose cells hold bytes, in blocks below B -/
def Code (B : Nat) (w : World) (v : Value) : Prop :=
  ∃ (ao : Option Addr) (b off len cap : Nat), v = .slice ao len cap ∧ len ≤ 1048576 ∧ (0 < len → ao = some ⟨b, off, none⟩ ∧ b < B) ∧ ∀ j, j < len → ∃ n : Nat, n ≤ 255 ∧ w.cell? ⟨b, off + j, none⟩ = some (.int .u8 (n : Int))

/-- a cursor in block g, from B on; below B all is as it was in w0, the drawn bytes among it -/
def Cur (B : Nat) (w0 w : World) (g : Nat) (v : Value) : Prop :=
  B ≤ g ∧ Below B w0 w ∧ Code B w0 v ∧ ∃ (i : Nat) (h : Int), w.heap[g]? = some (.cells #[v, .int .i64 (i : Int), .int .i64 h] 141 (0, 0)) ∧ i ≤ 1048576

theorem Cur.lt {B : Nat} {w0 w : World} {g : Nat} {v : Value} (h : Cur B w0 w g v) : g < w.heap.size := by
  obtain ⟨_, _, _, i, x, hb, _⟩ := h
  exact (Array.getElem?_eq_some_iff.1 hb).1

/-- a cursor stays one behind what does not touch its block -/
theorem Cur.kept {B : Nat} {w0 w w' : World} {g : Nat} {v : Value} {row : Option Nat} (h : Cur B w0 w g v) (hg : w.grownBy w' row) (hne : some g ≠ row) (hB : B ≤ w.heap.size) (hr : ∀ k, row = some k → B ≤ k) : Cur B w0 w' g v := by
  have hlt := h.lt
  obtain ⟨h1, h2, h3, i, x, hb, h4⟩ := h
  exact ⟨h1, h2.grown hg hB hr, h3, i, x, by rw [hg.block g hlt hne]; exact hb, h4⟩

theorem and255 (X : Int) : ∃ n : Nat, n ≤ 255 ∧ bits .and .i64 X 255 = (n : Int) := by
  have h255 : (BitVec.ofInt 64 255).toNat = 255 := by decide
  have hle : (BitVec.ofInt 64 X &&& BitVec.ofInt 64 255).toNat ≤ 255 := by
    rw [BitVec.toNat_and, h255]
    exact Nat.and_le_right
  refine ⟨(BitVec.ofInt 64 X &&& BitVec.ofInt 64 255).toNat, hle, ?_⟩
  have e : bits .and .i64 X 255 = IntKind.i64.wrap ((BitVec.ofInt 64 X &&& BitVec.ofInt 64 255).toNat : Int) := rfl
  rw [e, IntWalk.i64_in _ (by omega)]

theorem grown_set (w : World) (g j : Nat) (u : Value) : w.grownBy (w.setCell ⟨g, j, none⟩ u) (some g) :=
  ⟨rfl, rfl, rfl, by simp, fun k _ hk => heap_setCell_other w ⟨g, j, none⟩ k u (fun e => hk (by simp [e]))⟩
theorem grown_drn {a w : World} {row : Option Nat} (h : a.grownBy w row) (n : Nat) : a.grownBy (w.drewN n) row := ⟨h.os, h.tape, h.output, h.size, h.block⟩

theorem Cur.drn {B : Nat} {w0 w : World} {g : Nat} {v : Value} (h : Cur B w0 w g v) (n : Nat) : Cur B w0 (w.drewN n) g v :=
  ⟨h.1, h.2.1.trans ⟨rfl, rfl, rfl, Nat.le_refl _, fun _ _ => rfl⟩, h.2.2.1, h.2.2.2⟩

/-- what one store into a cursor leaves, and two -/
theorem cur_one {B : Nat} {w0 w : World} {g : Nat} {v : Value} {i : Nat} {h : Int} (hg : B ≤ g) (hbel : Below B w0 w) (hcode : Code B w0 v)
    (hblk : w.heap[g]? = some (.cells #[v, .int .i64 (i : Int), .int .i64 h] 141 (0, 0))) (h' : Int) (hi : i ≤ 1048576) :
    Cur B w0 (w.setCell ⟨g, 2, none⟩ (.int .i64 h')) g v := by
  have e1 := heap_setCell_same w g 2 _ 141 (.int .i64 h') hblk
  exact ⟨hg, Below.setCell hbel (p := ⟨g, 2, none⟩) hg _, hcode, i, h', by simpa using e1, hi⟩
theorem cur_two {B : Nat} {w0 w : World} {g : Nat} {v : Value} {i : Nat} {h : Int} (hg : B ≤ g) (hbel : Below B w0 w) (hcode : Code B w0 v)
    (hblk : w.heap[g]? = some (.cells #[v, .int .i64 (i : Int), .int .i64 h] 141 (0, 0))) (h' : Int) (i' : Nat) (hi : i' ≤ 1048576) :
    Cur B w0 ((w.setCell ⟨g, 2, none⟩ (.int .i64 h')).setCell ⟨g, 1, none⟩ (.int .i64 (i' : Int))) g v := by
  have e1 := heap_setCell_same w g 2 _ 141 (.int .i64 h') hblk
  have e2 := heap_setCell_same (w.setCell ⟨g, 2, none⟩ (.int .i64 h')) g 1 _ 141 (.int .i64 (i' : Int)) e1
  exact ⟨hg, Below.setCell (Below.setCell hbel (p := ⟨g, 2, none⟩) hg _) (p := ⟨g, 1, none⟩) hg _, hcode, i', h', by simpa using e2, hi⟩

set_option maxRecDepth 100000 in
set_option maxHeartbeats 1000000 in
theorem l01Byte_in (B : Nat) (w0 w : World) (g : Nat) (v : Value) (hc : Cur B w0 w g v) :
    Calls Tryd.prog 84 #[.pointer (some ⟨g, 0, none⟩)] w fun e w' => ∃ x : Nat, x ≤ 255 ∧ e = .returned (.int .i64 x) ∧ Cur B w0 w' g v ∧ w.grownBy w' (some g) := by
  obtain ⟨hg, hbel, hcode, i, h, hblk, hi1⟩ := hc
  have HC : Hid (Code B w0 v) := hcode
  obtain ⟨ao, b, off, len, cap, rfl, hl, hao, hcells⟩ := hcode
  have c0 : w.cell? ⟨g, 0, none⟩ = some (.slice ao len cap) := by simp [World.cell?, hblk]
  have c1 : w.cell? ⟨g, 1, none⟩ = some (.int .i64 (i : Int)) := by simp [World.cell?, hblk]
  have c2 : w.cell? ⟨g, 2, none⟩ = some (.int .i64 h) := by simp [World.cell?, hblk]
  have f2 : w.frozen? ⟨g, 2, none⟩ = false := by simp [World.frozen?, hblk]
  have f1 : w.frozen? ⟨g, 1, none⟩ = false := by simp [World.frozen?, hblk]
  have HB : Hid (w.heap[g]? = some (.cells #[.slice ao len cap, .int .i64 (i : Int), .int .i64 h] 141 (0, 0))) := hblk
  have HBel : Hid (Below B w0 w) := hbel
  by_cases hlt : i < len
  · obtain ⟨hao1, hbB⟩ := hao (by omega)
    subst hao1
    obtain ⟨z, hz, hcz⟩ := hcells i hlt
    have hczw : w.cell? ⟨b, off + i, none⟩ = some (.int .u8 (z : Int)) := (hbel.cell (p := ⟨b, off + i, none⟩) hbB).trans hcz
    have hbg : b ≠ g := by omega
    clear hcells hao hblk hbel hcz
    go_enter Tryd.func84, Tryd.ntmps84
    go_wp2
    generalize hH : wrap64 (wrap64 (h * 6364136223846793005) + 1442695040888963407) = h' at *
    clear hH
    go_quiet (fail)
    go_wp2
    obtain ⟨n, hn, hne⟩ := and255 (bits BinOp.xor IntKind.i64 (h' / 8589934592) (h' / 35184372088832))
    rw [hne]
    clear hne
    go_quiet (fail)
    go_wp2
    go_quiet (fail)
    go_wp2
    obtain ⟨m, hm, hme⟩ := and255 ((n : Int) + (z : Int))
    rw [hme]
    have e1 : ((i : Int) + 1) = ((i + 1 : Nat) : Int) := by omega
    rw [e1]
    go_ret
    exact ⟨m, hm, rfl, (cur_two hg HBel.out HC.out HB.out h' (i + 1) (by omega)).drn _, grown_drn ((grown_set w g 2 _).trans (grown_set _ g 1 _)) _⟩
  · clear hcells hao hblk hbel
    go_enter Tryd.func84, Tryd.ntmps84
    go_wp2
    generalize hH : wrap64 (wrap64 (h * 6364136223846793005) + 1442695040888963407) = h' at *
    clear hH
    go_quiet (fail)
    go_wp2
    obtain ⟨n, hn, hne⟩ := and255 (bits BinOp.xor IntKind.i64 (h' / 8589934592) (h' / 35184372088832))
    rw [hne]
    clear hne
    go_quiet (fail)
    go_wp2
    go_ret
    exact ⟨n, hn, rfl, ((cur_one hg HBel.out HC.out HB.out h' hi1).drn _).drn _, grown_drn (grown_drn (grown_set w g 2 _) _) _⟩

end Go.Proofs.YtmfoliocibjdnaaDoor
/-
  What else is drawn with the cursor: a number below a bound, a choice, a text; and how a cursor is made.
-/
namespace Go.Proofs.YtmfoliocibjdnaaDoor
open Go.RowKit
set_option linter.unusedVariables false

/-- the frame of a call that moves the cursor in block g -/
theorem Cur.size {B : Nat} {w0 w : World} {g : Nat} {v : Value} (h : Cur B w0 w g v) : B ≤ w.heap.size := by
  have := h.lt
  have := h.1
  omega

theorem l01Below_small (B : Nat) (w0 w : World) (g : Nat) (v : Value) (n : Nat) (hc : Cur B w0 w g v) (h0 : 0 < n) (h1 : n ≤ 256) :
    Calls Tryd.prog 85 #[.pointer (some ⟨g, 0, none⟩), .int .i64 n] w fun e w' => ∃ x : Nat, x < n ∧ e = .returned (.int .i64 x) ∧ Cur B w0 w' g v ∧ w.grownBy w' (some g) := by
  have hn0 : ¬ ((n : Int) ≤ 0) := by omega
  have hn1 : (n : Int) ≤ 256 := by omega
  go_enter Tryd.func85, Tryd.ntmps85
  go_wp2_with fail
  refine (l01Byte_in B w0 _ g v hc).mono ?_
  rintro e w1 ⟨x, hx, rfl, hc1, hg1⟩
  go_wp2
  go_ret
  exact ⟨x % n, Nat.mod_lt _ h0, by simp, hc1, hg1⟩

theorem l01Below_big (B : Nat) (w0 w : World) (g : Nat) (v : Value) (n : Nat) (hc : Cur B w0 w g v) (h1 : 256 < n) (h2 : n ≤ 4294967296) :
    Calls Tryd.prog 85 #[.pointer (some ⟨g, 0, none⟩), .int .i64 n] w fun e w' => ∃ x : Nat, x < n ∧ e = .returned (.int .i64 x) ∧ Cur B w0 w' g v ∧ w.grownBy w' (some g) := by
  have hn0 : ¬ ((n : Int) ≤ 0) := by omega
  have hn1 : ¬ ((n : Int) ≤ 256) := by omega
  go_enter Tryd.func85, Tryd.ntmps85
  go_wp2_with fail
  refine (l01Byte_in B w0 _ g v hc).mono ?_
  rintro e w1 ⟨x, hx, rfl, hc1, hg1⟩
  go_wp2_with fail
  refine (l01Byte_in B w0 _ g v hc1).mono ?_
  rintro e w2 ⟨y, hy, rfl, hc2, hg2⟩
  go_wp2_with fail
  refine (l01Byte_in B w0 _ g v hc2).mono ?_
  rintro e w3 ⟨z, hz, rfl, hc3, hg3⟩
  go_wp2_with fail
  refine (l01Byte_in B w0 _ g v hc3).mono ?_
  rintro e w4 ⟨t, ht, rfl, hc4, hg4⟩
  go_wp2
  go_ret
  exact ⟨(x * 16777216 + y * 65536 + z * 256 + t) % n, Nat.mod_lt _ (by omega), by simp, hc4, ((hg1.trans hg2).trans hg3).trans hg4⟩

theorem l01Below_nat (B : Nat) (w0 w : World) (g : Nat) (v : Value) (n : Nat) (hc : Cur B w0 w g v) (h1 : 0 < n) (h2 : n ≤ 4294967296) :
    Calls Tryd.prog 85 #[.pointer (some ⟨g, 0, none⟩), .int .i64 n] w fun e w' => ∃ x : Nat, x < n ∧ e = .returned (.int .i64 x) ∧ Cur B w0 w' g v ∧ w.grownBy w' (some g) := by
  by_cases h : n ≤ 256
  · exact l01Below_small B w0 w g v n hc h1 h
  · exact l01Below_big B w0 w g v n hc (by omega) h2

theorem l01Below_in (B : Nat) (w0 w : World) (g : Nat) (v : Value) (x : Int) (n : Nat) (hx : x = (n : Int)) (hc : Cur B w0 w g v) (h1 : 0 < n) (h2 : n ≤ 4294967296) :
    Calls Tryd.prog 85 #[.pointer (some ⟨g, 0, none⟩), .int .i64 x] w fun e w' => ∃ x : Nat, x < n ∧ e = .returned (.int .i64 x) ∧ Cur B w0 w' g v ∧ w.grownBy w' (some g) := by
  subst hx
  exact l01Below_nat B w0 w g v n hc h1 h2

theorem big_no (ao : Option Addr) (len cap : Nat) (w : World) (h : len ≤ 1048576) :
    Calls Tryd.prog 14 #[.slice ao len cap] w fun e w' => e = .returned (.bool false) ∧ w' = w := by
  have h' : ¬ ((1048576 : Int) < (len : Int)) := by omega
  go_enter Tryd.func14, Tryd.ntmps14
  go_wp2
  go_ret
  exact ⟨by simp <;> omega, rfl⟩

theorem big_yes (ao : Option Addr) (len cap : Nat) (w : World) (h : 1048576 < len) (hm : len ≤ 9223372036854775807) :
    Calls Tryd.prog 14 #[.slice ao len cap] w fun e w' => e = .returned (.bool true) ∧ w' = w := by
  have h' : (1048576 : Int) < (len : Int) := by omega
  go_enter Tryd.func14, Tryd.ntmps14
  go_wp2
  go_ret
  exact ⟨by simp <;> omega, rfl⟩

def NewRel (len : Nat) (h i : Value) : Prop := ∃ (k : Nat) (x : Int), k ≤ len ∧ i = .int .i64 k ∧ h = .int .i64 x

set_option maxRecDepth 100000 in
set_option maxHeartbeats 1000000 in
theorem l01New_in (w : World) (v : Value) (hc : Code w.heap.size w v) :
    Calls Tryd.prog 82 #[v] w fun e w' => ∃ g, e = .returned (.pointer (some ⟨g, 0, none⟩)) ∧ Cur w.heap.size w w' g v ∧ Below w.heap.size w w' := by
  have HC : Hid (Code w.heap.size w v) := hc
  obtain ⟨ao, b, off, len, cap, rfl, hl, hao, hcells⟩ := hc
  have HA : Hid (0 < len → ao = some ⟨b, off, none⟩ ∧ b < w.heap.size) := hao
  have HL : Hid (∀ j, j < len → ∃ n : Nat, n ≤ 255 ∧ w.cell? ⟨b, off + j, none⟩ = some (.int .u8 (n : Int))) := hcells
  clear hao hcells
  go_enter Tryd.func82, Tryd.ntmps82
  go_wp2
  go_loop [3, 4] (fun h i => NewRel len h i) (fun _ i => len - (intOf i).toNat)
  case atStart => exact ⟨0, _, by omega, rfl, rfl⟩
  case round =>
    obtain ⟨k, x, hk, rfl, rfl⟩ := hrel
    by_cases hlt : k < len ∧ k < 4000
    · obtain ⟨hlt1, hlt2⟩ := hlt
      obtain ⟨rfl, hb⟩ := HA.out (by omega)
      obtain ⟨z, hz, hcz⟩ := HL.out k hlt1
      go_wp2
      go_round
      case rel => exact ⟨k + 1, _, by omega, by go_num, rfl⟩
      case measure => simp [intOf] <;> omega
    · go_wp2
      all_goals
        go_ret
        refine ⟨w.heap.size, rfl, ⟨Nat.le_refl _, (Below.refl _ _).alloc (Nat.le_refl _) _, HC.out, 0, x, ?_, by omega⟩, (Below.refl _ _).alloc (Nat.le_refl _) _⟩
        exact heap_alloc_new w _

theorem grow_then {a b c : World} {row row' : Option Nat} (h : a.grownBy b row) (k : b.grownBy c row') (hr : ∀ j, row' = some j → a.heap.size ≤ j ∨ row = some j) : a.grownBy c row := by
  refine ⟨k.os.trans h.os, k.tape.trans h.tape, k.output.trans h.output, Nat.le_trans h.size k.size, fun j hj hne => ?_⟩
  rw [k.block j (Nat.lt_of_lt_of_le hj h.size) ?_, h.block j hj hne]
  intro he
  rcases hr j he.symm with h1 | h1
  · omega
  · exact hne h1.symm

/-- a row of bytes that the call owns is not the cursor's block -/
theorem own_ne {B Bw : Nat} {w0 w : World} {g n : Nat} {v u : Value} {xs : List Value} (hc : Cur B w0 w g v) (ho : w.ownsRow Bw 5 1 u n xs) : some g ≠ u.ownBlock := by
  intro he
  obtain ⟨_, _, _, i, x, hb, _⟩ := hc
  rcases ho.2 with ⟨rfl, _⟩ | ⟨g', cap, cur, rfl, _, hg, _⟩
  · simp [Value.ownBlock] at he
  · simp [Value.ownBlock] at he
    subst he
    rw [hb] at hg
    simp at hg

/-- a row of bytes, owned, in blocks that are new since w -/
def Row (w wr : World) (u : Value) (l : List UInt8) : Prop := wr.ownsRow w.heap.size 5 1 u l.length (bv l)

theorem wp_appG {w : World} {ops : Array Oper} {rest : List Oper} {o : Oper} {a : Act} {Q : Exit → Act → World → Prop} (hgd : o.guard = none) (s x : Operand)
    (ho : o.op = .call { callee := .builtin .append, args := #[s, x], argTypes := #[22, 22] })
    (ws : World) (v : Value) (l : List UInt8) (hs : a.eval s = v) (hown : Row ws w v l) (hsz : ws.heap.size ≤ w.heap.size)
    (ad : Addr) (c : UInt8) (hx : a.eval x = .slice (some ad) 1 1) (hnews : ∀ j u, (bv [c])[j]? = some u → w.cell? (ad.add j) = some u) (hlen : l.length ≤ 1000000)
    (h : ∀ v' w', Row ws w' v' (l ++ [c]) → w.grownBy w' v.ownBlock → wpList Tryd.prog ops Q rest (a.put o.dst v') w') : wpList Tryd.prog ops Q (o :: rest) a w := by
  obtain ⟨i0, hi, hz0, hz1, hz2⟩ := info_parts Tryd.info5
  refine wpList_append_own _ hgd s x 22 ho ws.heap.size 5 i0 (.int .u8 0) 1 1 Tryd.underlying22 hi hz0 hz1 hz2 rfl (by decide) v l.length (bv l) hs hown ad 1 1 (bv [c]) hx (by simp [bv]) hnews
    (fun u hu => by simp [bv] at hu; subst hu; rfl) (by unfold maxLen; omega) (by omega) hsz ?_
  intro v' w' h1 h2 _
  exact h v' w' (by unfold Row; rw [List.length_append, bv_append]; exact h1) h2

theorem run_strR {ws w : World} {v : Value} {l : List UInt8} (h : Row ws w v l) (hs : ws.heap.size ≤ w.heap.size) : (convert 22 9 v).run Tryd.prog w = .ok (.string ⟨l.toArray⟩) w :=
  run_str (B := 0) (w0 := w) ⟨⟨h.1, by
    rcases h.2 with hn | ⟨g, cap, cur, hv, hbg, rest⟩
    · exact .inl hn
    · exact .inr ⟨g, cap, cur, hv, Nat.zero_le _, rest⟩⟩, ⟨rfl, rfl, rfl, Nat.le_refl _, fun _ _ => rfl⟩, Nat.zero_le _⟩

def TxRel (B : Nat) (w0 w : World) (g : Nat) (v : Value) (n : Nat) (u i : Value) (wr : World) : Prop :=
  ∃ (k : Nat) (l : List UInt8), k ≤ n ∧ i = .int .i64 k ∧ l.length = k ∧ Row w wr u l ∧ Cur B w0 wr g v ∧ w.grownBy wr (some g)

theorem byteI (x : Nat) (h : x ≤ 255) : (x : Int) = ((UInt8.ofNat x).toNat : Int) := by
  simp
  omega

set_option maxRecDepth 100000 in
set_option maxHeartbeats 1000000 in
theorem l01Text_nat (B : Nat) (w0 w : World) (g : Nat) (v : Value) (n : Nat) (hc : Cur B w0 w g v) (hn : n ≤ 5000) :
    Calls Tryd.prog 105 #[.pointer (some ⟨g, 0, none⟩), .int .i64 n] w fun e w' => ∃ l : List UInt8, l.length = n ∧ e = .returned (.string ⟨l.toArray⟩) ∧ Cur B w0 w' g v ∧ w.grownBy w' (some g) := by
  have hn1 : ¬ ((5000 : Int) < (n : Int)) := by omega
  go_enter Tryd.func105, Tryd.ntmps105
  go_wp2
  go_loopw [5, 6] (fun u i wr => TxRel B w0 w g v n u i wr) (fun _ i _ => n - (intOf i).toNat)
  case atStart =>
    refine ⟨0, [], by omega, rfl, rfl, World.ownsRow_made w #[] 0 (Nat.le_refl _) (by decide) (by simp), ?_, World.grownBy_alloc w _ _⟩
    exact hc.kept (World.grownBy_alloc w _ none) (by simp) hc.size (fun k hk => by cases hk)
  case round =>
    obtain ⟨k, l, hk, rfl, hll, hrow, hcr, hgr⟩ := hrel
    by_cases hlt : k < n
    · go_wp2_with fail
      refine (l01Byte_in B w0 _ g v hcr).mono ?_
      rintro e w1 ⟨x, hx, rfl, hc1, hg1⟩
      have hrow1 : Row w w1 u5 l := World.ownsRow.kept hrow hg1 (.inr (own_ne hcr hrow).symm)
      have hgr1 := hgr.trans hg1
      go_wp2_with (at_builtin; refine wp_appG rfl _ _ rfl w _ l rfl (World.ownsRow.alloc hrow1 _) ?c0 ⟨w1.heap.size, 0, none⟩ (UInt8.ofNat x) rfl ?c1 ?c2 ?_)
      case c0 => have := hgr1.size; simp; omega
      case c1 => exact one_byte _ _ _ _ (byteI x hx)
      case c2 => omega
      intro v' w2 hrow2 hg2
      have hne := own_ne hc1 hrow1
      have hge : ∀ j, u5.ownBlock = some j → w.heap.size ≤ j := fun j hj => (World.ownsRow.lt hrow1 j hj).1
      have hB := hc.size
      have hca : Cur B w0 (w1.alloc (.cells #[.int .u8 (x : Int)] 5)) g v := hc1.kept (World.grownBy_alloc w1 _ none) (by simp) hc1.size (fun k hk => by cases hk)
      have hc2 : Cur B w0 w2 g v := hca.kept hg2 hne hca.size (fun j hj => Nat.le_trans hB (hge j hj))
      have hgr2 : w.grownBy w2 (some g) := grow_then (hgr1.trans (World.grownBy_alloc w1 _ (some g))) hg2 (fun j hj => .inl (hge j hj))
      clear hca hne hge hg2 hgr1 hrow1 hc1 hg1
      go_wp2
      go_roundw
      case rel => exact ⟨k + 1, l ++ [UInt8.ofNat x], by omega, by go_num, by simp; omega, hrow2, hc2, hgr2⟩
      case measure => simp [intOf] <;> omega
    · have hke : k = n := by omega
      subst hke
      have hcv := run_strR hrow hgr.size
      go_wp2
      go_ret
      exact ⟨l, hll, rfl, hcr, hgr⟩

theorem l01Text_in (B : Nat) (w0 w : World) (g : Nat) (v : Value) (x : Int) (n : Nat) (hx : x = (n : Int)) (hc : Cur B w0 w g v) (hn : n ≤ 5000) :
    Calls Tryd.prog 105 #[.pointer (some ⟨g, 0, none⟩), .int .i64 x] w fun e w' => ∃ l : List UInt8, l.length = n ∧ e = .returned (.string ⟨l.toArray⟩) ∧ Cur B w0 w' g v ∧ w.grownBy w' (some g) := by
  subst hx
  exact l01Text_nat B w0 w g v n hc hn

end Go.Proofs.YtmfoliocibjdnaaDoor
/-
  What is drawn for numbers and texts: DrawVarText, DrawHex.
-/
namespace Go.Proofs.YtmfoliocibjdnaaDoor
open Go.RowKit
set_option linter.unusedVariables false

def LgRel (w : World) (n : Nat) (x : UInt8) (i : Value) (wr : World) : Prop :=
  ∃ k : Nat, k ≤ n ∧ i = .int .i64 k ∧ wr.ownsRow w.heap.size 5 1 (.slice (some ⟨w.heap.size, 0, none⟩) n n) n (bv (List.replicate k x ++ List.replicate (n - k) 0)) ∧ Below w.heap.size w wr

theorem lg_set (x : UInt8) (n k : Nat) (h : k < n) : (bv (List.replicate k x ++ List.replicate (n - k) 0)).set k (.int .u8 (x.toNat : Int)) = bv (List.replicate (k + 1) x ++ List.replicate (n - (k + 1)) 0) := by
  have e : n - k = (n - (k + 1)) + 1 := by omega
  have e2 : List.replicate k x ++ List.replicate (n - k) 0 = List.replicate k x ++ 0 :: List.replicate (n - (k + 1)) 0 := by rw [e, List.replicate_succ]
  have e3 : List.replicate (k + 1) x = List.replicate k x ++ [x] := List.replicate_succ'
  rw [e2, e3]
  unfold bv
  rw [List.map_append, List.map_cons, List.set_append_right _ _ (by simp), List.length_map, List.length_replicate, Nat.sub_self, List.set_cons_zero]
  simp

set_option maxRecDepth 100000 in
set_option maxHeartbeats 1000000 in
theorem l01Long_nat (n : Nat) (x : UInt8) (w : World) (hn : n ≤ 1000000) :
    Calls Tryd.prog 106 #[.int .i64 n, .int .u8 x.toNat] w fun e w' => e = .returned (.string ⟨(List.replicate n x).toArray⟩) ∧ Below w.heap.size w w' := by
  obtain ⟨i0, hi, hz0, hz1, hz2⟩ := info_parts Tryd.info5
  obtain ⟨w1, hmk, hown, hgr⟩ := run_make_full (P := Tryd.prog) w w.heap.size 22 5 i0 (.int .u8 0) 1 Tryd.underlying22 hi hz0 hz1 .i64 .i64 n (by rw [hz2]; omega) (by unfold maxLen; omega) (Nat.le_refl _)
  have hown0 : w1.ownsRow w.heap.size 5 1 (.slice (some ⟨w.heap.size, 0, none⟩) n n) n (bv (List.replicate 0 x ++ List.replicate (n - 0) 0)) := by
    have e : (madeCells (Value.int .u8 0).cells (n * 1)).toList = bv (List.replicate 0 x ++ List.replicate (n - 0) 0) := by
      have h := toList_madeCells_one (Value.int .u8 0) n
      rw [Nat.mul_one]
      refine Eq.trans h ?_
      simp [bv]
    rw [e] at hown
    exact hown
  have hb1 : Below w.heap.size w w1 := (Below.refl _ _).grown hgr (Nat.le_refl _) (fun k hk => by cases hk)
  clear hown hgr
  go_enter Tryd.func106, Tryd.ntmps106
  go_wp2
  clear hmk
  go_loopw [6] (fun i wr => LgRel w n x i wr) (fun i _ => n - (intOf i).toNat)
  case atStart => exact ⟨0, by omega, rfl, hown0, hb1⟩
  case round =>
    obtain ⟨k, hk, rfl, ho, hbel⟩ := hrel
    by_cases hlt : k < n
    · obtain ⟨old, hold⟩ : ∃ old, wr.cell? ⟨w.heap.size, k, none⟩ = some old := by
        rw [ho.cellAt k (by omega)]
        have hl : k < (bv (List.replicate k x ++ List.replicate (n - k) 0)).length := by rw [bv_length]; simp; omega
        exact ⟨_, List.getElem?_eq_getElem hl⟩
      have f0 := ho.frozenAt k
      have h1 := (ho.stored k (.int .u8 (x.toNat : Int))).1
      rw [lg_set x n k hlt] at h1
      have HO : Hid ((wr.setCell ⟨w.heap.size, k, none⟩ (.int .u8 (x.toNat : Int))).ownsRow w.heap.size 5 1 (.slice (some ⟨w.heap.size, 0, none⟩) n n) n (bv (List.replicate (k + 1) x ++ List.replicate (n - (k + 1)) 0))) := h1
      have hbel2 := hbel.setCell (p := ⟨w.heap.size, k, none⟩) (Nat.le_refl _) (.int .u8 (x.toNat : Int))
      have HB2 : Hid (Below w.heap.size w (wr.setCell ⟨w.heap.size, k, none⟩ (.int .u8 (x.toNat : Int)))) := hbel2
      clear h1 hbel2
      go_wp2
      go_roundw
      case rel => exact ⟨k + 1, by omega, by go_num, HO.out, HB2.out⟩
      case measure => simp [intOf] <;> omega
    · have hke : k = n := by omega
      subst hke
      rw [Nat.sub_self, List.replicate_zero, List.append_nil] at ho
      have hrow : Row w wr (.slice (some ⟨w.heap.size, 0, none⟩) k k) (List.replicate k x) := by
        unfold Row
        rw [List.length_replicate]
        exact ho
      have hcv := run_strR hrow hbel.size
      go_wp2
      go_ret
      exact ⟨rfl, hbel⟩

theorem l01Long_in (y : Int) (n : Nat) (x : UInt8) (z : Int) (w : World) (hy : y = (n : Int)) (hz : z = (x.toNat : Int)) (hn : n ≤ 1000000) :
    Calls Tryd.prog 106 #[.int .i64 y, .int .u8 z] w fun e w' => e = .returned (.string ⟨(List.replicate n x).toArray⟩) ∧ Below w.heap.size w w' := by
  subst hy
  subst hz
  exact l01Long_nat n x w hn

theorem l01PickInt_in (B : Nat) (w0 w : World) (g : Nat) (v : Value) (gl cap : Nat) (zs : List Int) (hc : Cur B w0 w g v) (h0 : 0 < zs.length) (h1 : zs.length ≤ 1000000) (hne : gl ≠ g) (hgl : gl < w.heap.size)
    (hcell : Hid (∀ j, (h : j < zs.length) → w.cell? ⟨gl, j, none⟩ = some (.int .i64 zs[j]))) :
    Calls Tryd.prog 104 #[.pointer (some ⟨g, 0, none⟩), .slice (some ⟨gl, 0, none⟩) zs.length cap] w fun e w' => ∃ y : Int, y ∈ zs ∧ e = .returned (.int .i64 y) ∧ Cur B w0 w' g v ∧ w.grownBy w' (some g) := by
  go_enter Tryd.func104, Tryd.ntmps104
  go_wp2_with fail
  refine (l01Below_nat B w0 _ g v zs.length hc h0 (by omega)).mono ?_
  rintro e w1 ⟨j, hj, rfl, hc1, hg1⟩
  have hcl : w1.cell? ⟨gl, j, none⟩ = some (.int .i64 zs[j]) := hg1.cell (hcell.out j hj) (by simpa using hne)
  go_wp2
  go_ret
  exact ⟨zs[j], List.getElem_mem _, rfl, hc1, hg1⟩

def numList : List Int := [-1, 0, 127, 128, 16383, 16384, 1000000000, 1000000001, 9223372036854775807, -9223372036854775808]
theorem numList_in (y : Int) (h : y ∈ numList) : -9223372036854775808 ≤ y ∧ y ≤ 9223372036854775807 := by
  simp [numList] at h
  omega

def numCells : Array Value := #[.int .i64 (-1), .int .i64 0, .int .i64 127, .int .i64 128, .int .i64 16383, .int .i64 16384, .int .i64 1000000000, .int .i64 1000000001, .int .i64 9223372036854775807, .int .i64 (-9223372036854775808)]
theorem numCells_at (w : World) : Hid (∀ j, (h : j < numList.length) → (w.alloc (.cells numCells 3)).cell? ⟨w.heap.size, j, none⟩ = some (.int .i64 numList[j])) := by
  intro j hj
  rw [World.cell?_alloc_at _ _ _ _ rfl]
  have : j = 0 ∨ j = 1 ∨ j = 2 ∨ j = 3 ∨ j = 4 ∨ j = 5 ∨ j = 6 ∨ j = 7 ∨ j = 8 ∨ j = 9 := by simp [numList] at hj; omega
  rcases this with rfl | rfl | rfl | rfl | rfl | rfl | rfl | rfl | rfl | rfl <;> rfl

end Go.Proofs.YtmfoliocibjdnaaDoor
/-
  What DrawTagText draws: some kind, and some parts.
-/
namespace Go.Proofs.YtmfoliocibjdnaaDoor
open Go.RowKit
set_option linter.unusedVariables false

def svs (l : List ByteArray) : List Value := l.map Value.string
theorem svs_append (l r : List ByteArray) : svs (l ++ r) = svs l ++ svs r := by simp [svs]

theorem own_neS {B Bw : Nat} {w0 w : World} {g n : Nat} {v u : Value} {xs : List Value} (hc : Cur B w0 w g v) (ho : w.ownsRow Bw 9 1 u n xs) : some g ≠ u.ownBlock := by
  intro he
  obtain ⟨_, _, _, i, x, hb, _⟩ := hc
  rcases ho.2 with ⟨rfl, _⟩ | ⟨g', cap, cur, rfl, _, hg, _⟩
  · simp [Value.ownBlock] at he
  · simp [Value.ownBlock] at he
    subst he
    rw [hb] at hg
    simp at hg

theorem wp_appT {w : World} {ops : Array Oper} {rest : List Oper} {o : Oper} {a : Act} {Q : Exit → Act → World → Prop} (hgd : o.guard = none) (s x : Operand)
    (ho : o.op = .call { callee := .builtin .append, args := #[s, x], argTypes := #[24, 24] })
    (B : Nat) (v : Value) (l : List ByteArray) (hs : a.eval s = v) (hown : w.ownsRow B 9 1 v l.length (svs l)) (hsz : B ≤ w.heap.size)
    (ad : Addr) (t : ByteArray) (hx : a.eval x = .slice (some ad) 1 1) (hnews : w.cell? ad = some (.string t)) (hlen : l.length ≤ 1000000)
    (h : ∀ v' w', w'.ownsRow B 9 1 v' (l ++ [t]).length (svs (l ++ [t])) → w.grownBy w' v.ownBlock → wpList Tryd.prog ops Q rest (a.put o.dst v') w') : wpList Tryd.prog ops Q (o :: rest) a w := by
  obtain ⟨i0, hi, hz0, hz1, hz2⟩ := info_parts Tryd.info9
  refine wpList_append_own _ hgd s x 24 ho B 9 i0 (.string ByteArray.empty) 1 16 Tryd.underlying24 hi hz0 hz1 hz2 rfl (by decide) v l.length (svs l) hs hown ad 1 1 (svs [t]) hx (by simp [svs]) ?_
    (fun u hu => by simp [svs] at hu; subst hu; rfl) (by unfold maxLen; omega) (by omega) hsz ?_
  · intro j u hj
    match j, hj with
    | 0, hj =>
      simp [svs] at hj
      subst hj
      have : ad.add 0 = ad := by unfold Addr.add; split <;> simp_all
      rw [this]
      exact hnews
  · intro v' w' h1 h2 _
    exact h v' w' (by rw [List.length_append, svs_append]; exact h1) h2

theorem one_text (w : World) (t : ByteArray) (y : TypeId) : (w.alloc (.cells #[.string t] y)).cell? ⟨w.heap.size, 0, none⟩ = some (.string t) := by simp

def kindsL : List Int := [1, 2, 3, 8, 0, 9, 5]
def kindsC : Array Value := #[.int .i64 1, .int .i64 2, .int .i64 3, .int .i64 8, .int .i64 0, .int .i64 9, .int .i64 5]
theorem kinds_at (w : World) : Hid (∀ j, (h : j < kindsL.length) → (w.alloc (.cells kindsC 3)).cell? ⟨w.heap.size, j, none⟩ = some (.int .i64 kindsL[j])) := by
  intro j hj
  rw [World.cell?_alloc_at _ _ _ _ rfl]
  have : j = 0 ∨ j = 1 ∨ j = 2 ∨ j = 3 ∨ j = 4 ∨ j = 5 ∨ j = 6 := by simp [kindsL] at hj; omega
  rcases this with rfl | rfl | rfl | rfl | rfl | rfl | rfl <;> rfl

/-- what the first loop holds: as many texts as rounds -/
def DtR (w : World) (g : Nat) (v u i : Value) (wr : World) : Prop :=
  ∃ (k : Nat) (l : List ByteArray), k ≤ 4 ∧ i = .int .i64 k ∧ l.length = k ∧ wr.ownsRow w.heap.size 9 1 u l.length (svs l) ∧ Cur w.heap.size w wr g v

/-- what the second loop holds -/
def DuR (w : World) (u : Value) (wr : World) : Prop :=
  ∃ l : List ByteArray, l.length ≤ 61 ∧ wr.ownsRow w.heap.size 9 1 u l.length (svs l) ∧ Below w.heap.size w wr ∧ w.heap.size ≤ wr.heap.size

theorem ss_own {B n : Nat} {w : World} {u : Value} {l : List ByteArray} (h : w.ownsRow B 9 1 u n (svs l)) (hn : n = l.length) (hl : l.length ≤ 1100000) : ∃ g, SS w u g 0 l := by
  subst hn
  rcases h.2 with ⟨hv, hn⟩ | ⟨g, cap, cur, hv, hbg, hg, rest⟩
  · have e : l = [] := List.length_eq_zero_iff.1 hn
    subst e
    exact ⟨0, none, 0, hv, by simp, fun h => absurd h (by simp), fun j hj => absurd hj (by simp)⟩
  · subst hv
    refine ⟨g, _, cap, rfl, hl, fun _ => rfl, fun j hj => ?_⟩
    rw [Nat.zero_add, World.ownsRow.cellAt h j (by omega)]
    simp [svs, List.getElem?_eq_getElem hj]

theorem own_later {B n e : Nat} {w w' : World} {v : Value} {xs : List Value} (h : w.ownsRow B e 1 v n xs) (hb : Below w.heap.size w w') : w'.ownsRow B e 1 v n xs := by
  refine ⟨h.1, ?_⟩
  rcases h.2 with hn | ⟨g, cap, cur, hv, hbg, hg, rest⟩
  · exact .inl hn
  · refine .inr ⟨g, cap, cur, hv, hbg, ?_, rest⟩
    rw [hb.block g (Array.getElem?_eq_some_iff.1 hg).1]
    exact hg

theorem own_slice {B n e : Nat} {w : World} {v : Value} {xs : List Value} (h : w.ownsRow B e 1 v n xs) : ∃ a c, v = .slice a n c := by
  rcases h.2 with ⟨hv, hn⟩ | ⟨g, cap, cur, hv, hbg, hg, rest⟩
  · exact ⟨none, 0, by rw [hv, hn]⟩
  · exact ⟨_, cap, hv⟩

def lenOf : Value → Nat
  | .slice _ n _ => n
  | _ => 0

/-- what DrawTagText gives -/
def DtAns (w : World) (e : Ending) (w' : World) : Prop := ∃ (k : Int) (u : Value) (g : Nat) (l : List ByteArray), e = .returned (.tuple #[.int .i64 k, u]) ∧ SS w' u g 0 l ∧ Below w.heap.size w w'

end Go.Proofs.YtmfoliocibjdnaaDoor
/-
  Rows of texts that are written out.
-/
namespace Go.Proofs.YtmfoliocibjdnaaDoor
open Go.RowKit
set_option linter.unusedVariables false

/-- texts that are written out -/
theorem ss_lits (w : World) (l : List ByteArray) (cs : Array Value) (n : Nat) (hn : l.length = n) (hl : n ≤ 1100000) (hc : cs = (svs l).toArray) : SS (w.alloc (.cells cs 9)) (.slice (some ⟨w.heap.size, 0, none⟩) n n) w.heap.size 0 l := by
  subst hc
  subst hn
  refine ⟨_, _, rfl, hl, fun _ => rfl, fun j hj => ?_⟩
  rw [Nat.zero_add, World.cell?_alloc_at _ _ _ _ rfl]
  simp [svs, List.getElem?_eq_getElem hj]

end Go.Proofs.YtmfoliocibjdnaaDoor
/-
  Tagged hashes of texts that are written out, at any width.
-/
namespace Go.Proofs.YtmfoliocibjdnaaDoor
open Go.RowKit Go.BigFrame
set_option linter.unusedVariables false

/-- the two tables lie as the program's text lays them -/
def Tb (w : World) : Prop := TabK w ∧ TabF w
theorem Tb.later {w w' : World} (h : Tb w) (hb : Below w.heap.size w w') : Tb w' := ⟨h.1.later hb h.1.pos, h.2.later hb h.2.pos⟩
theorem Tb.alloc {w : World} (h : Tb w) (o : Obj) : Tb (w.alloc o) := h.later ((Below.refl _ _).alloc (Nat.le_refl _) _)

theorem taggedHash_w (x k : Int) (l : List ByteArray) (n : Nat) (cs : Array Value) (w : World) (g : Nat) (hg : w.heap.size = g) (hn : l.length = n) (hl : n ≤ 60) (hc : cs = (svs l).toArray) (hT : Tb w) :
    Hid (Calls Tryd.prog 97 #[.int .i64 x, .int .i64 k, .slice (some ⟨g, 0, none⟩) n n] (w.alloc (.cells cs 9)) fun e w' => e = .returned (.string (hashB k l x)) ∧ Below w.heap.size w w') := by
  subst hg
  have hT' := hT.alloc (.cells cs 9)
  exact (taggedHash_any x k _ w.heap.size 0 l (w.alloc (.cells cs 9)) (ss_lits w l cs n hn (by omega) hc) hT'.1 hT'.2).mono fun e w' ⟨he, hb⟩ => ⟨he, ((Below.refl _ _).alloc (Nat.le_refl _) _).trans (hb.mono (by simp))⟩
theorem taggedHash_wd (x k : Int) (l : List ByteArray) (n : Nat) (cs : Array Value) (w : World) (g : Nat) (hg : w.heap.size = g) (hn : l.length = n) (hl : n ≤ 60) (hc : cs = (svs l).toArray) (hT : Tb w) :
    Hid (Calls Tryd.prog 97 #[.int .i64 x, .int .i64 k, .slice (some ⟨g, 0, none⟩) n n] (w.alloc (.cells cs 9)).drew fun e w' => e = .returned (.string (hashB k l x)) ∧ Below w.heap.size w w') := by
  have h := taggedHash_w x k l n cs w.drew g hg hn hl hc hT
  exact h.out.mono fun e w' ⟨he, hb⟩ => ⟨he, (Below.refl _ _).drew.trans hb⟩
theorem sTagHash_w (x k : Int) (l : List ByteArray) (n : Nat) (cs : Array Value) (w : World) (g : Nat) (hg : w.heap.size = g) (hn : l.length = n) (hl : n ≤ 60) (hc : cs = (svs l).toArray) :
    Hid (Calls Tryd.prog 98 #[.int .i64 k, .slice (some ⟨g, 0, none⟩) n n, .int .i64 x] (w.alloc (.cells cs 9)) fun e w' => e = .returned (.string (hashB k l x)) ∧ Below w.heap.size w w') := by
  subst hg
  exact (sTagHash_any k _ x w.heap.size 0 l (w.alloc (.cells cs 9)) (ss_lits w l cs n hn (by omega) hc)).mono fun e w' ⟨he, hb⟩ => ⟨he, ((Below.refl _ _).alloc (Nat.le_refl _) _).trans (hb.mono (by simp))⟩
theorem sTagHash_wd (x k : Int) (l : List ByteArray) (n : Nat) (cs : Array Value) (w : World) (g : Nat) (hg : w.heap.size = g) (hn : l.length = n) (hl : n ≤ 60) (hc : cs = (svs l).toArray) :
    Hid (Calls Tryd.prog 98 #[.int .i64 k, .slice (some ⟨g, 0, none⟩) n n, .int .i64 x] (w.alloc (.cells cs 9)).drew fun e w' => e = .returned (.string (hashB k l x)) ∧ Below w.heap.size w w') := by
  have h := sTagHash_w x k l n cs w.drew g hg hn hl hc
  exact h.out.mono fun e w' ⟨he, hb⟩ => ⟨he, (Below.refl _ _).drew.trans hb⟩

end Go.Proofs.YtmfoliocibjdnaaDoor
/-
  What DrawPlaces and DrawSumOf draw: twelve numbers below 10000; a text of less than forty bytes.
-/
namespace Go.Proofs.YtmfoliocibjdnaaDoor
open Go.RowKit
set_option linter.unusedVariables false

def iv (l : List Nat) : List Value := l.map (fun n : Nat => Value.int .i64 (n : Int))
theorem iv_append (l r : List Nat) : iv (l ++ r) = iv l ++ iv r := by simp [iv]

theorem own_neI {B Bw : Nat} {w0 w : World} {g n : Nat} {v u : Value} {xs : List Value} (hc : Cur B w0 w g v) (ho : w.ownsRow Bw 3 1 u n xs) : some g ≠ u.ownBlock := by
  intro he
  obtain ⟨_, _, _, i, x, hb, _⟩ := hc
  rcases ho.2 with ⟨rfl, _⟩ | ⟨g', cap, cur, rfl, _, hg, _⟩
  · simp [Value.ownBlock] at he
  · simp [Value.ownBlock] at he
    subst he
    rw [hb] at hg
    simp at hg

theorem wp_appJ {w : World} {ops : Array Oper} {rest : List Oper} {o : Oper} {a : Act} {Q : Exit → Act → World → Prop} (hgd : o.guard = none) (s x : Operand)
    (ho : o.op = .call { callee := .builtin .append, args := #[s, x], argTypes := #[31, 31] })
    (B : Nat) (v : Value) (l : List Nat) (hs : a.eval s = v) (hown : w.ownsRow B 3 1 v l.length (iv l)) (hsz : B ≤ w.heap.size)
    (ad : Addr) (n : Nat) (hx : a.eval x = .slice (some ad) 1 1) (hnews : w.cell? ad = some (.int .i64 (n : Int))) (hlen : l.length ≤ 1000000)
    (h : ∀ v' w', w'.ownsRow B 3 1 v' (l ++ [n]).length (iv (l ++ [n])) → w.grownBy w' v.ownBlock → wpList Tryd.prog ops Q rest (a.put o.dst v') w') : wpList Tryd.prog ops Q (o :: rest) a w := by
  obtain ⟨i0, hi, hz0, hz1, hz2⟩ := info_parts Tryd.info3
  refine wpList_append_own _ hgd s x 31 ho B 3 i0 (.int .i64 0) 1 8 Tryd.underlying31 hi hz0 hz1 hz2 rfl (by decide) v l.length (iv l) hs hown ad 1 1 (iv [n]) hx (by simp [iv]) ?_
    (fun u hu => by simp [iv] at hu; subst hu; rfl) (by unfold maxLen; omega) (by omega) hsz ?_
  · intro j u hj
    match j, hj with
    | 0, hj =>
      simp [iv] at hj
      subst hj
      have : ad.add 0 = ad := by unfold Addr.add; split <;> simp_all
      rw [this]
      exact hnews
  · intro v' w' h1 h2 _
    exact h v' w' (by rw [List.length_append, iv_append]; exact h1) h2

theorem one_int (w : World) (y : Nat) (t : TypeId) : (w.alloc (.cells #[.int .i64 (y : Int)] t)).cell? ⟨w.heap.size, 0, none⟩ = some (.int .i64 (y : Int)) := by simp

def PlRel (w : World) (g : Nat) (v u i : Value) (wr : World) : Prop :=
  ∃ (k : Nat) (l : List Nat), k ≤ 12 ∧ i = .int .i64 k ∧ l.length = k ∧ (∀ x ∈ l, x < 10000) ∧ wr.ownsRow w.heap.size 3 1 u l.length (iv l) ∧ Cur w.heap.size w wr g v

/-- what DrawPlaces gives: a row of twelve numbers -/
def Places (w w' : World) (v : Value) : Prop :=
  ∃ (g cap : Nat) (xs : List Nat), v = .slice (some ⟨g, 0, none⟩) 12 cap ∧ xs.length = 12 ∧ (∀ x ∈ xs, x < 10000) ∧ w.heap.size ≤ g ∧ g < w'.heap.size ∧ ∀ j, (h : j < xs.length) → w'.cell? ⟨g, j, none⟩ = some (.int .i64 (xs[j] : Int))

set_option maxRecDepth 100000 in
set_option maxHeartbeats 1000000 in
theorem DrawPlaces_any (w : World) (v : Value) (hc : Code w.heap.size w v) :
    Calls Tryd.prog 18 #[v] w fun e w' => ∃ u, e = .returned u ∧ Places w w' u ∧ Below w.heap.size w w' := by
  have HC : Hid (Code w.heap.size w v) := hc
  clear hc
  go_enter Tryd.func18, Tryd.ntmps18
  go_wp2_with fail
  refine (l01New_in w v HC.out).mono ?_
  rintro e w1 ⟨g, rfl, hc1, hb1⟩
  go_wp2_with fail
  refine (l01Byte_in w.heap.size w _ g v hc1).mono ?_
  rintro e w2 ⟨x, hx, rfl, hc2, hg2⟩
  go_wp2
  go_loopw [4, 5] (fun u i wr => PlRel w g v u i wr) (fun _ i _ => 12 - (intOf i).toNat)
  case atStart =>
    have hB := hc2.size
    refine ⟨0, [], by omega, rfl, rfl, by simp, World.ownsRow_made w2 #[] 0 hB (by decide) (by simp), ?_⟩
    exact hc2.kept (World.grownBy_alloc w2 _ none) (by simp) hc2.size (fun k hk => by cases hk)
  case round =>
    obtain ⟨k, l, hk, rfl, hll, hall, hrow, hcr⟩ := hrel
    by_cases hlt : k < 12
    · go_wp2_with fail
      refine (l01Below_in w.heap.size w _ g v 10000 10000 rfl hcr (by omega) (by omega)).mono ?_
      rintro e w3 ⟨y, hy, rfl, hc3, hg3⟩
      have hrow3 : w3.ownsRow w.heap.size 3 1 u4 l.length (iv l) := World.ownsRow.kept hrow hg3 (.inr (own_neI hcr hrow).symm)
      have hB := hc3.size
      go_wp2_with (at_builtin; refine wp_appJ rfl _ _ rfl w.heap.size _ l rfl (World.ownsRow.alloc hrow3 _) ?c0 ⟨w3.heap.size, 0, none⟩ y rfl ?c1 ?c2 ?_)
      case c0 => simp; omega
      case c1 => exact one_int _ _ _
      case c2 => omega
      intro v' w4 hrow4 hg4
      have hne := own_neI hc3 hrow3
      have hge : ∀ j, u4.ownBlock = some j → w.heap.size ≤ j := fun j hj => (World.ownsRow.lt hrow3 j hj).1
      have hca : Cur w.heap.size w (w3.alloc (.cells #[.int .i64 (y : Int)] 3)) g v := hc3.kept (World.grownBy_alloc w3 _ none) (by simp) hc3.size (fun k hk => by cases hk)
      have hc4 : Cur w.heap.size w w4 g v := hca.kept hg4 hne hca.size hge
      have hall4 : ∀ x ∈ l ++ [y], x < 10000 := by
        intro x hx
        rcases List.mem_append.1 hx with h | h
        · exact hall x h
        · simp at h; omega
      have HR4 : Hid (w4.ownsRow w.heap.size 3 1 v' (l ++ [y]).length (iv (l ++ [y]))) := by
        show w4.ownsRow w.heap.size 3 1 v' (l ++ [y]).length (iv (l ++ [y]))
        have e : (l ++ [y]).length = k + 1 := by simp; omega
        rw [e]
        exact hrow4
      have HA4 : Hid (∀ x ∈ l ++ [y], x < 10000) := hall4
      clear hca hne hge hg4 hrow3 hrow4 hc3 hg3 hall hall4
      go_wp2
      go_roundw
      case rel => exact ⟨k + 1, l ++ [y], by omega, by go_num, by simp; omega, HA4.out, HR4.out, hc4⟩
      case measure => simp [intOf] <;> omega
    · have hke : k = 12 := by omega
      subst hke
      rw [hll] at hrow
      obtain ⟨gr, cap, rfl, hlt2⟩ := World.ownsRow.form hrow (by omega)
      have HP : Hid (Places w wr (.slice (some ⟨gr, 0, none⟩) 12 cap)) := by
        refine ⟨gr, cap, l, rfl, hll, hall, hlt2.1, hlt2.2, ?_⟩
        intro j hj
        rw [hrow.cellAt j (by omega)]
        simp [iv, List.getElem?_eq_getElem hj]
      have hbel := hcr.2.1
      clear hrow hall hlt2 hcr
      go_wp2
      go_ret
      exact ⟨_, rfl, HP.out, hbel⟩

end Go.Proofs.YtmfoliocibjdnaaDoor
