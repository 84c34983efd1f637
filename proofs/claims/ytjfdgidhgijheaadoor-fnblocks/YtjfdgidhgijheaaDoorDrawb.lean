/-
  What else is drawn with the cursor: a number below a bound, a choice, a text; and how a cursor is made.
-/
import Derived.Test.YtjfdgidhgijheaaDoorDraw
import Derived.Test.YtjfdgidhgijheaaDoorVar
import Derived.Test.YtjfdgidhgijheaaDoorHex
namespace Go.Proofs.YtjfdgidhgijheaaDoor
open Go.RowKit
set_option linter.unusedVariables false

/-- the frame of a call that moves the cursor in block g -/
theorem Cur.size {B : Nat} {w0 w : World} {g : Nat} {v : Value} (h : Cur B w0 w g v) : B ≤ w.heap.size := by
  have := h.lt
  have := h.1
  omega

theorem l01Below_small (B : Nat) (w0 w : World) (g : Nat) (v : Value) (n : Nat) (hc : Cur B w0 w g v) (h0 : 0 < n) (h1 : n ≤ 256) :
    Calls Tryd.prog 21 #[.pointer (some ⟨g, 0, none⟩), .int .i64 n] w fun e w' => ∃ x : Nat, x < n ∧ e = .returned (.int .i64 x) ∧ Cur B w0 w' g v ∧ w.grownBy w' (some g) := by
  have hn0 : ¬ ((n : Int) ≤ 0) := by omega
  have hn1 : (n : Int) ≤ 256 := by omega
  go_enter Tryd.func21, Tryd.ntmps21
  go_wp2_with fail
  refine (l01Byte_in B w0 _ g v hc).mono ?_
  rintro e w1 ⟨x, hx, rfl, hc1, hg1⟩
  go_wp2
  go_ret
  exact ⟨x % n, Nat.mod_lt _ h0, by simp, hc1, hg1⟩

theorem l01Below_big (B : Nat) (w0 w : World) (g : Nat) (v : Value) (n : Nat) (hc : Cur B w0 w g v) (h1 : 256 < n) (h2 : n ≤ 4294967296) :
    Calls Tryd.prog 21 #[.pointer (some ⟨g, 0, none⟩), .int .i64 n] w fun e w' => ∃ x : Nat, x < n ∧ e = .returned (.int .i64 x) ∧ Cur B w0 w' g v ∧ w.grownBy w' (some g) := by
  have hn0 : ¬ ((n : Int) ≤ 0) := by omega
  have hn1 : ¬ ((n : Int) ≤ 256) := by omega
  go_enter Tryd.func21, Tryd.ntmps21
  go_wp2_with fail
  refine (l01Byte_in B w0 _ g v hc).mono ?_
  rintro e w1 ⟨x, hx, rfl, hc1, hg1⟩
  go_wp2_with fail
  refine (l01Byte_in B w0 _ g v hc1).mono ?_
  rintro e w2 ⟨y, hy, rfl, hc2, hg2⟩
  go_wp2_with fail
  refine (l01Byte_in B w0 _ g v hc2).mono ?_
  rintro e w3 ⟨z, hz, rfl, hc3, hg3⟩
  go_wp2_with fail
  refine (l01Byte_in B w0 _ g v hc3).mono ?_
  rintro e w4 ⟨t, ht, rfl, hc4, hg4⟩
  go_wp2
  go_ret
  exact ⟨(x * 16777216 + y * 65536 + z * 256 + t) % n, Nat.mod_lt _ (by omega), by simp, hc4, ((hg1.trans hg2).trans hg3).trans hg4⟩

theorem l01Below_nat (B : Nat) (w0 w : World) (g : Nat) (v : Value) (n : Nat) (hc : Cur B w0 w g v) (h1 : 0 < n) (h2 : n ≤ 4294967296) :
    Calls Tryd.prog 21 #[.pointer (some ⟨g, 0, none⟩), .int .i64 n] w fun e w' => ∃ x : Nat, x < n ∧ e = .returned (.int .i64 x) ∧ Cur B w0 w' g v ∧ w.grownBy w' (some g) := by
  by_cases h : n ≤ 256
  · exact l01Below_small B w0 w g v n hc h1 h
  · exact l01Below_big B w0 w g v n hc (by omega) h2

theorem l01Below_in (B : Nat) (w0 w : World) (g : Nat) (v : Value) (x : Int) (n : Nat) (hx : x = (n : Int)) (hc : Cur B w0 w g v) (h1 : 0 < n) (h2 : n ≤ 4294967296) :
    Calls Tryd.prog 21 #[.pointer (some ⟨g, 0, none⟩), .int .i64 x] w fun e w' => ∃ x : Nat, x < n ∧ e = .returned (.int .i64 x) ∧ Cur B w0 w' g v ∧ w.grownBy w' (some g) := by
  subst hx
  exact l01Below_nat B w0 w g v n hc h1 h2

theorem big_no (ao : Option Addr) (len cap : Nat) (w : World) (h : len ≤ 1048576) :
    Calls Tryd.prog 4 #[.slice ao len cap] w fun e w' => e = .returned (.bool false) ∧ w' = w := by
  have h' : ¬ ((1048576 : Int) < (len : Int)) := by omega
  go_enter Tryd.func4, Tryd.ntmps4
  go_wp2
  go_ret
  exact ⟨by simp <;> omega, rfl⟩

theorem big_yes (ao : Option Addr) (len cap : Nat) (w : World) (h : 1048576 < len) (hm : len ≤ 9223372036854775807) :
    Calls Tryd.prog 4 #[.slice ao len cap] w fun e w' => e = .returned (.bool true) ∧ w' = w := by
  have h' : (1048576 : Int) < (len : Int) := by omega
  go_enter Tryd.func4, Tryd.ntmps4
  go_wp2
  go_ret
  exact ⟨by simp <;> omega, rfl⟩

def NewRel (len : Nat) (h i : Value) : Prop := ∃ (k : Nat) (x : Int), k ≤ len ∧ i = .int .i64 k ∧ h = .int .i64 x

set_option maxRecDepth 100000 in
set_option maxHeartbeats 1000000 in
theorem l01New_in (w : World) (v : Value) (hc : Code w.heap.size w v) :
    Calls Tryd.prog 16 #[v] w fun e w' => ∃ g, e = .returned (.pointer (some ⟨g, 0, none⟩)) ∧ Cur w.heap.size w w' g v ∧ Below w.heap.size w w' := by
  have HC : Hid (Code w.heap.size w v) := hc
  obtain ⟨ao, b, off, len, cap, rfl, hl, hao, hcells⟩ := hc
  have HA : Hid (0 < len → ao = some ⟨b, off, none⟩ ∧ b < w.heap.size) := hao
  have HL : Hid (∀ j, j < len → ∃ n : Nat, n ≤ 255 ∧ w.cell? ⟨b, off + j, none⟩ = some (.int .u8 (n : Int))) := hcells
  clear hao hcells
  go_enter Tryd.func16, Tryd.ntmps16
  go_wp2
  go_loop [3, 4] (fun h i => NewRel len h i) (fun _ i => len - (intOf i).toNat)
  case atStart => exact ⟨0, _, by omega, rfl, rfl⟩
  case round =>
    obtain ⟨k, x, hk, rfl, rfl⟩ := hrel
    by_cases hlt : k < len ∧ k < 4000
    · obtain ⟨hlt1, hlt2⟩ := hlt
      obtain ⟨rfl, hb⟩ := HA.out (by omega)
      obtain ⟨z, hz, hcz⟩ := HL.out k hlt1
      go_wp2
      go_round
      case rel => exact ⟨k + 1, _, by omega, by go_num, rfl⟩
      case measure => simp [intOf] <;> omega
    · go_wp2
      all_goals
        go_ret
        refine ⟨w.heap.size, rfl, ⟨Nat.le_refl _, (Below.refl _ _).alloc (Nat.le_refl _) _, HC.out, 0, x, ?_, by omega⟩, (Below.refl _ _).alloc (Nat.le_refl _) _⟩
        exact heap_alloc_new w _

theorem grow_then {a b c : World} {row row' : Option Nat} (h : a.grownBy b row) (k : b.grownBy c row') (hr : ∀ j, row' = some j → a.heap.size ≤ j ∨ row = some j) : a.grownBy c row := by
  refine ⟨k.os.trans h.os, k.tape.trans h.tape, k.output.trans h.output, Nat.le_trans h.size k.size, fun j hj hne => ?_⟩
  rw [k.block j (Nat.lt_of_lt_of_le hj h.size) ?_, h.block j hj hne]
  intro he
  rcases hr j he.symm with h1 | h1
  · omega
  · exact hne h1.symm

/-- a row of bytes that the call owns is not the cursor's block -/
theorem own_ne {B Bw : Nat} {w0 w : World} {g n : Nat} {v u : Value} {xs : List Value} (hc : Cur B w0 w g v) (ho : w.ownsRow Bw 5 1 u n xs) : some g ≠ u.ownBlock := by
  intro he
  obtain ⟨_, _, _, i, x, hb, _⟩ := hc
  rcases ho.2 with ⟨rfl, _⟩ | ⟨g', cap, cur, rfl, _, hg, _⟩
  · simp [Value.ownBlock] at he
  · simp [Value.ownBlock] at he
    subst he
    rw [hb] at hg
    simp at hg

/-- a row of bytes, owned, in blocks that are new since w -/
def Row (w wr : World) (u : Value) (l : List UInt8) : Prop := wr.ownsRow w.heap.size 5 1 u l.length (bv l)

theorem wp_appG {w : World} {ops : Array Oper} {rest : List Oper} {o : Oper} {a : Act} {Q : Exit → Act → World → Prop} (hgd : o.guard = none) (s x : Operand)
    (ho : o.op = .call { callee := .builtin .append, args := #[s, x], argTypes := #[22, 22] })
    (ws : World) (v : Value) (l : List UInt8) (hs : a.eval s = v) (hown : Row ws w v l) (hsz : ws.heap.size ≤ w.heap.size)
    (ad : Addr) (c : UInt8) (hx : a.eval x = .slice (some ad) 1 1) (hnews : ∀ j u, (bv [c])[j]? = some u → w.cell? (ad.add j) = some u) (hlen : l.length ≤ 1000000)
    (h : ∀ v' w', Row ws w' v' (l ++ [c]) → w.grownBy w' v.ownBlock → wpList Tryd.prog ops Q rest (a.put o.dst v') w') : wpList Tryd.prog ops Q (o :: rest) a w := by
  obtain ⟨i0, hi, hz0, hz1, hz2⟩ := info_parts Tryd.info5
  refine wpList_append_own _ hgd s x 22 ho ws.heap.size 5 i0 (.int .u8 0) 1 1 Tryd.underlying22 hi hz0 hz1 hz2 rfl (by decide) v l.length (bv l) hs hown ad 1 1 (bv [c]) hx (by simp [bv]) hnews
    (fun u hu => by simp [bv] at hu; subst hu; rfl) (by unfold maxLen; omega) (by omega) hsz ?_
  intro v' w' h1 h2 _
  exact h v' w' (by unfold Row; rw [List.length_append, bv_append]; exact h1) h2

theorem run_strR {ws w : World} {v : Value} {l : List UInt8} (h : Row ws w v l) (hs : ws.heap.size ≤ w.heap.size) : (convert 22 9 v).run Tryd.prog w = .ok (.string ⟨l.toArray⟩) w :=
  run_str (B := 0) (w0 := w) ⟨⟨h.1, by
    rcases h.2 with hn | ⟨g, cap, cur, hv, hbg, rest⟩
    · exact .inl hn
    · exact .inr ⟨g, cap, cur, hv, Nat.zero_le _, rest⟩⟩, ⟨rfl, rfl, rfl, Nat.le_refl _, fun _ _ => rfl⟩, Nat.zero_le _⟩

def TxRel (B : Nat) (w0 w : World) (g : Nat) (v : Value) (n : Nat) (u i : Value) (wr : World) : Prop :=
  ∃ (k : Nat) (l : List UInt8), k ≤ n ∧ i = .int .i64 k ∧ l.length = k ∧ Row w wr u l ∧ Cur B w0 wr g v ∧ w.grownBy wr (some g)

theorem byteI (x : Nat) (h : x ≤ 255) : (x : Int) = ((UInt8.ofNat x).toNat : Int) := by
  simp
  omega

set_option maxRecDepth 100000 in
set_option maxHeartbeats 1000000 in
theorem l01Text_nat (B : Nat) (w0 w : World) (g : Nat) (v : Value) (n : Nat) (hc : Cur B w0 w g v) (hn : n ≤ 5000) :
    Calls Tryd.prog 22 #[.pointer (some ⟨g, 0, none⟩), .int .i64 n] w fun e w' => ∃ l : List UInt8, l.length = n ∧ e = .returned (.string ⟨l.toArray⟩) ∧ Cur B w0 w' g v ∧ w.grownBy w' (some g) := by
  have hn1 : ¬ ((5000 : Int) < (n : Int)) := by omega
  go_enter Tryd.func22, Tryd.ntmps22
  go_wp2
  go_loopw [5, 6] (fun u i wr => TxRel B w0 w g v n u i wr) (fun _ i _ => n - (intOf i).toNat)
  case atStart =>
    refine ⟨0, [], by omega, rfl, rfl, World.ownsRow_made w #[] 0 (Nat.le_refl _) (by decide) (by simp), ?_, World.grownBy_alloc w _ _⟩
    exact hc.kept (World.grownBy_alloc w _ none) (by simp) hc.size (fun k hk => by cases hk)
  case round =>
    obtain ⟨k, l, hk, rfl, hll, hrow, hcr, hgr⟩ := hrel
    by_cases hlt : k < n
    · go_wp2_with fail
      refine (l01Byte_in B w0 _ g v hcr).mono ?_
      rintro e w1 ⟨x, hx, rfl, hc1, hg1⟩
      have hrow1 : Row w w1 u5 l := World.ownsRow.kept hrow hg1 (.inr (own_ne hcr hrow).symm)
      have hgr1 := hgr.trans hg1
      go_wp2_with (at_builtin; refine wp_appG rfl _ _ rfl w _ l rfl (World.ownsRow.alloc hrow1 _) ?c0 ⟨w1.heap.size, 0, none⟩ (UInt8.ofNat x) rfl ?c1 ?c2 ?_)
      case c0 => have := hgr1.size; simp; omega
      case c1 => exact one_byte _ _ _ _ (byteI x hx)
      case c2 => omega
      intro v' w2 hrow2 hg2
      have hne := own_ne hc1 hrow1
      have hge : ∀ j, u5.ownBlock = some j → w.heap.size ≤ j := fun j hj => (World.ownsRow.lt hrow1 j hj).1
      have hB := hc.size
      have hca : Cur B w0 (w1.alloc (.cells #[.int .u8 (x : Int)] 5)) g v := hc1.kept (World.grownBy_alloc w1 _ none) (by simp) hc1.size (fun k hk => by cases hk)
      have hc2 : Cur B w0 w2 g v := hca.kept hg2 hne hca.size (fun j hj => Nat.le_trans hB (hge j hj))
      have hgr2 : w.grownBy w2 (some g) := grow_then (hgr1.trans (World.grownBy_alloc w1 _ (some g))) hg2 (fun j hj => .inl (hge j hj))
      clear hca hne hge hg2 hgr1 hrow1 hc1 hg1
      go_wp2
      go_roundw
      case rel => exact ⟨k + 1, l ++ [UInt8.ofNat x], by omega, by go_num, by simp; omega, hrow2, hc2, hgr2⟩
      case measure => simp [intOf] <;> omega
    · have hke : k = n := by omega
      subst hke
      have hcv := run_strR hrow hgr.size
      go_wp2
      go_ret
      exact ⟨l, hll, rfl, hcr, hgr⟩

theorem l01Text_in (B : Nat) (w0 w : World) (g : Nat) (v : Value) (x : Int) (n : Nat) (hx : x = (n : Int)) (hc : Cur B w0 w g v) (hn : n ≤ 5000) :
    Calls Tryd.prog 22 #[.pointer (some ⟨g, 0, none⟩), .int .i64 x] w fun e w' => ∃ l : List UInt8, l.length = n ∧ e = .returned (.string ⟨l.toArray⟩) ∧ Cur B w0 w' g v ∧ w.grownBy w' (some g) := by
  subst hx
  exact l01Text_nat B w0 w g v n hc hn

end Go.Proofs.YtjfdgidhgijheaaDoor
