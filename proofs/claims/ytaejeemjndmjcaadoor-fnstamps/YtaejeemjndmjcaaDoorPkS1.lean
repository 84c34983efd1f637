/-
  Texts laid together: Hex, Drawb, Drawc, Txt.
-/
import Derived.Test.YtaejeemjndmjcaaDoorPkS0
import Derived.Deep.QuietTactic
import Derived.BigQuiet
import Derived.Deep.RegionHeld3
import Derived.Deep.RegionLaw
import Derived.SliceStrings
/-
  What Hex answers, the program's and the specification's: two figures for each byte.
-/
namespace Go.Proofs.YtaejeemjndmjcaaDoor
open Go.RowKit
set_option linter.unusedVariables false

/-- the figure of a number below 16 -/
def fig (x : Nat) : UInt8 := if x < 10 then UInt8.ofNat (48 + x) else UInt8.ofNat (87 + x)
def hexL (l : List UInt8) : List UInt8 := l.flatMap (fun b => [fig (b.toNat / 16), fig (b.toNat % 16)])

theorem fig_nat (x : Nat) (h : x < 16) : (fig x).toNat = if x < 10 then 48 + x else 87 + x := by
  unfold fig
  split <;> simp <;> omega

theorem step_app {w : World} {ops : Array Oper} {o : Oper} {a : Act} {K : Act → World → Prop} {Q : Exit → Act → World → Prop} {E : Prop} (hg : o.guard = none) (s x : Operand)
    (hop : o.op = .call { callee := .builtin .append, args := #[s, x], argTypes := #[22, 22] })
    (B : Nat) (w0 : World) (v : Value) (l : List UInt8) (hs : a.eval s = v) (hown : OB B w0 w v l)
    (ad : Addr) (m c : Nat) (news : List UInt8) (hx : a.eval x = .slice (some ad) m c) (hm : news.length = m)
    (hnews : ∀ j u, (bv news)[j]? = some u → w.cell? (ad.add j) = some u) (hlen : l.length + m ≤ 1000000000)
    (hK : ∀ v' w', OB B w0 w' v' (l ++ news) → K (a.put o.dst v') w') : if Region.wanted o (yielded ops a.tmps) = true then Oper.wp Tryd.prog o a w K Q else E := by
  obtain ⟨i0, hi, hz0, hz1, hz2⟩ := info_parts Tryd.info5
  obtain ⟨v', w', hrun, h1, h2, _⟩ := run_append_own (P := Tryd.prog) w B 22 o.type 5 i0 (.int .u8 0) 1 1 Tryd.underlying22 hi hz0 hz1 hz2 rfl (by decide) v l.length (bv l) hown.1 ad m c (bv news) (by simp [bv, hm]) hnews
    (fun u hu => by simp [bv] at hu; obtain ⟨b, _, rfl⟩ := hu; rfl) (by unfold maxLen; omega) (by omega) hown.2.2
  have hOB : OB B w0 w' v' (l ++ news) := ⟨by rw [List.length_append, bv_append, hm]; exact h1, hown.2.1.grown h2 hown.2.2 (fun k hk => (hown.1.lt k hk).1), Nat.le_trans hown.2.2 h2.size⟩
  have hw : Region.wanted o (yielded ops a.tmps) = true := by simp [Region.wanted, hg]
  rw [if_pos hw]
  unfold Oper.wp
  simp [execOp, hop, resolve, invoke, builtin, hs, hx, hrun, Result.andThen]
  exact hK v' w' hOB

theorem two_bytes (w : World) (x y : Int) (b c : UInt8) (t : TypeId) (hx : x = (b.toNat : Int)) (hy : y = (c.toNat : Int)) : ∀ j u, (bv [b, c])[j]? = some u → (w.alloc (.cells #[.int .u8 x, .int .u8 y] t)).cell? ((⟨w.heap.size, 0, none⟩ : Addr).add j) = some u := by
  intro j u hj
  obtain ⟨hj', rfl⟩ := bv_get _ _ _ hj
  subst hx
  subst hy
  have h0 : j = 0 ∨ j = 1 := by simp at hj'; omega
  rcases h0 with rfl | rfl <;> simp [Addr.add]

/-- 'make([]byte, 0, n)' -/
theorem run_mk (n : Nat) (h : n ≤ 1000000000) (W : World) : ∃ M : Array Value, (Instr.makeSlice 22 (.int .i64 0) (.int .i64 (n : Int))).run Tryd.prog W = .ok (.slice (some ⟨W.heap.size, 0, none⟩) 0 n) (W.alloc (.cells M 5)) ∧ OB W.heap.size W (W.alloc (.cells M 5)) (.slice (some ⟨W.heap.size, 0, none⟩) 0 n) [] := by
  obtain ⟨i0, hi, hz0, hz1, hz2⟩ := info_parts Tryd.info5
  have h1 := run_make (P := Tryd.prog) W 22 5 i0 (.int .u8 0) Tryd.underlying22 hi hz0 .i64 .i64 0 (n : Int) (by omega) (by omega) (by rw [hz2]; omega) (by omega)
  refine ⟨madeCells (Value.int .u8 0).cells (((n : Nat) : Int).toNat * i0.size), by simpa using h1, ?_⟩
  refine ⟨World.ownsRow_made W _ n (Nat.le_refl _) (by unfold maxLen; omega) ?_, (Below.refl _ _).alloc (Nat.le_refl _) _, by simp⟩
  rw [size_madeCells, hz1]
  simp

def figs : ByteArray := ⟨#[48, 49, 50, 51, 52, 53, 54, 55, 56, 57, 97, 98, 99, 100, 101, 102]⟩
theorem figs_at : ∀ x : Fin 16, figs[x.val]? = some (fig x.val) := by decide
theorem run_fig (x : Int) (h0 : 0 ≤ x) (h1 : x < 16) (w : World) : (Instr.index 9 (.string ⟨#[48, 49, 50, 51, 52, 53, 54, 55, 56, 57, 97, 98, 99, 100, 101, 102]⟩) (.int .u8 x)).run Tryd.prog w = .ok (.int .u8 ((fig x.toNat).toNat : Int)) w := by
  obtain ⟨n, rfl⟩ := Int.eq_ofNat_of_zero_le h0
  have h2 := figs_at ⟨n, by omega⟩
  have h3 : figs.size = 16 := rfl
  show (Instr.index 9 (.string figs) (.int .u8 (n : Int))).run Tryd.prog w = _
  rw [run_index_string (P := Tryd.prog) (w := w) 9 figs .u8 _ Tryd.underlying9]
  rw [dif_pos ⟨by omega, by rw [h3]; omega⟩]
  simp only [Int.toNat_natCast] at h2 ⊢
  have h4 : figs[n]? = some (figs[n]'(by rw [h3]; omega)) := getElem?_pos ..
  rw [h4] at h2
  simp only [Option.some.injEq] at h2
  rw [h2]

end Go.Proofs.YtaejeemjndmjcaaDoor
/-
  What else is drawn with the cursor: a number below a bound, a choice, a text; and how a cursor is made.
-/
namespace Go.Proofs.YtaejeemjndmjcaaDoor
open Go.RowKit
set_option linter.unusedVariables false

/-- the frame of a call that moves the cursor in block g -/
theorem Cur.size {B : Nat} {w0 w : World} {g : Nat} {v : Value} (h : Cur B w0 w g v) : B ≤ w.heap.size := by
  have := h.lt
  have := h.1
  omega

theorem l01Below_small (B : Nat) (w0 w : World) (g : Nat) (v : Value) (n : Nat) (hc : Cur B w0 w g v) (h0 : 0 < n) (h1 : n ≤ 256) :
    Calls Tryd.prog 30 #[.pointer (some ⟨g, 0, none⟩), .int .i64 n] w fun e w' => ∃ x : Nat, x < n ∧ e = .returned (.int .i64 x) ∧ Cur B w0 w' g v ∧ w.grownBy w' (some g) := by
  have hn0 : ¬ ((n : Int) ≤ 0) := by omega
  have hn1 : (n : Int) ≤ 256 := by omega
  go_enter Tryd.func30, Tryd.ntmps30
  go_wp2_with fail
  refine (l01Byte_in B w0 _ g v hc).mono ?_
  rintro e w1 ⟨x, hx, rfl, hc1, hg1⟩
  go_wp2
  go_ret
  exact ⟨x % n, Nat.mod_lt _ h0, by simp, hc1, hg1⟩

theorem l01Below_big (B : Nat) (w0 w : World) (g : Nat) (v : Value) (n : Nat) (hc : Cur B w0 w g v) (h1 : 256 < n) (h2 : n ≤ 4294967296) :
    Calls Tryd.prog 30 #[.pointer (some ⟨g, 0, none⟩), .int .i64 n] w fun e w' => ∃ x : Nat, x < n ∧ e = .returned (.int .i64 x) ∧ Cur B w0 w' g v ∧ w.grownBy w' (some g) := by
  have hn0 : ¬ ((n : Int) ≤ 0) := by omega
  have hn1 : ¬ ((n : Int) ≤ 256) := by omega
  go_enter Tryd.func30, Tryd.ntmps30
  go_wp2_with fail
  refine (l01Byte_in B w0 _ g v hc).mono ?_
  rintro e w1 ⟨x, hx, rfl, hc1, hg1⟩
  go_wp2_with fail
  refine (l01Byte_in B w0 _ g v hc1).mono ?_
  rintro e w2 ⟨y, hy, rfl, hc2, hg2⟩
  go_wp2_with fail
  refine (l01Byte_in B w0 _ g v hc2).mono ?_
  rintro e w3 ⟨z, hz, rfl, hc3, hg3⟩
  go_wp2_with fail
  refine (l01Byte_in B w0 _ g v hc3).mono ?_
  rintro e w4 ⟨t, ht, rfl, hc4, hg4⟩
  go_wp2
  go_ret
  exact ⟨(x * 16777216 + y * 65536 + z * 256 + t) % n, Nat.mod_lt _ (by omega), by simp, hc4, ((hg1.trans hg2).trans hg3).trans hg4⟩

theorem l01Below_nat (B : Nat) (w0 w : World) (g : Nat) (v : Value) (n : Nat) (hc : Cur B w0 w g v) (h1 : 0 < n) (h2 : n ≤ 4294967296) :
    Calls Tryd.prog 30 #[.pointer (some ⟨g, 0, none⟩), .int .i64 n] w fun e w' => ∃ x : Nat, x < n ∧ e = .returned (.int .i64 x) ∧ Cur B w0 w' g v ∧ w.grownBy w' (some g) := by
  by_cases h : n ≤ 256
  · exact l01Below_small B w0 w g v n hc h1 h
  · exact l01Below_big B w0 w g v n hc (by omega) h2

theorem l01Below_in (B : Nat) (w0 w : World) (g : Nat) (v : Value) (x : Int) (n : Nat) (hx : x = (n : Int)) (hc : Cur B w0 w g v) (h1 : 0 < n) (h2 : n ≤ 4294967296) :
    Calls Tryd.prog 30 #[.pointer (some ⟨g, 0, none⟩), .int .i64 x] w fun e w' => ∃ x : Nat, x < n ∧ e = .returned (.int .i64 x) ∧ Cur B w0 w' g v ∧ w.grownBy w' (some g) := by
  subst hx
  exact l01Below_nat B w0 w g v n hc h1 h2

theorem big_no (ao : Option Addr) (len cap : Nat) (w : World) (h : len ≤ 1048576) :
    Calls Tryd.prog 5 #[.slice ao len cap] w fun e w' => e = .returned (.bool false) ∧ w' = w := by
  have h' : ¬ ((1048576 : Int) < (len : Int)) := by omega
  go_enter Tryd.func5, Tryd.ntmps5
  go_wp2
  go_ret
  exact ⟨by simp <;> omega, rfl⟩

theorem big_yes (ao : Option Addr) (len cap : Nat) (w : World) (h : 1048576 < len) (hm : len ≤ 9223372036854775807) :
    Calls Tryd.prog 5 #[.slice ao len cap] w fun e w' => e = .returned (.bool true) ∧ w' = w := by
  have h' : (1048576 : Int) < (len : Int) := by omega
  go_enter Tryd.func5, Tryd.ntmps5
  go_wp2
  go_ret
  exact ⟨by simp <;> omega, rfl⟩

def NewRel (len : Nat) (h i : Value) : Prop := ∃ (k : Nat) (x : Int), k ≤ len ∧ i = .int .i64 k ∧ h = .int .i64 x

set_option maxRecDepth 100000 in
set_option maxHeartbeats 1000000 in
theorem l01New_in (w : World) (v : Value) (hc : Code w.heap.size w v) :
    Calls Tryd.prog 28 #[v] w fun e w' => ∃ g, e = .returned (.pointer (some ⟨g, 0, none⟩)) ∧ Cur w.heap.size w w' g v ∧ Below w.heap.size w w' := by
  have HC : Hid (Code w.heap.size w v) := hc
  obtain ⟨ao, b, off, len, cap, rfl, hl, hao, hcells⟩ := hc
  have HA : Hid (0 < len → ao = some ⟨b, off, none⟩ ∧ b < w.heap.size) := hao
  have HL : Hid (∀ j, j < len → ∃ n : Nat, n ≤ 255 ∧ w.cell? ⟨b, off + j, none⟩ = some (.int .u8 (n : Int))) := hcells
  clear hao hcells
  go_enter Tryd.func28, Tryd.ntmps28
  go_wp2
  go_loop [3, 4] (fun h i => NewRel len h i) (fun _ i => len - (intOf i).toNat)
  case atStart => exact ⟨0, _, by omega, rfl, rfl⟩
  case round =>
    obtain ⟨k, x, hk, rfl, rfl⟩ := hrel
    by_cases hlt : k < len ∧ k < 4000
    · obtain ⟨hlt1, hlt2⟩ := hlt
      obtain ⟨rfl, hb⟩ := HA.out (by omega)
      obtain ⟨z, hz, hcz⟩ := HL.out k hlt1
      go_wp2
      go_round
      case rel => exact ⟨k + 1, _, by omega, by go_num, rfl⟩
      case measure => simp [intOf] <;> omega
    · go_wp2
      all_goals
        go_ret
        refine ⟨w.heap.size, rfl, ⟨Nat.le_refl _, (Below.refl _ _).alloc (Nat.le_refl _) _, HC.out, 0, x, ?_, by omega⟩, (Below.refl _ _).alloc (Nat.le_refl _) _⟩
        exact heap_alloc_new w _

theorem grow_then {a b c : World} {row row' : Option Nat} (h : a.grownBy b row) (k : b.grownBy c row') (hr : ∀ j, row' = some j → a.heap.size ≤ j ∨ row = some j) : a.grownBy c row := by
  refine ⟨k.os.trans h.os, k.tape.trans h.tape, k.output.trans h.output, Nat.le_trans h.size k.size, fun j hj hne => ?_⟩
  rw [k.block j (Nat.lt_of_lt_of_le hj h.size) ?_, h.block j hj hne]
  intro he
  rcases hr j he.symm with h1 | h1
  · omega
  · exact hne h1.symm

/-- a row of bytes that the call owns is not the cursor's block -/
theorem own_ne {B Bw : Nat} {w0 w : World} {g n : Nat} {v u : Value} {xs : List Value} (hc : Cur B w0 w g v) (ho : w.ownsRow Bw 5 1 u n xs) : some g ≠ u.ownBlock := by
  intro he
  obtain ⟨_, _, _, i, x, hb, _⟩ := hc
  rcases ho.2 with ⟨rfl, _⟩ | ⟨g', cap, cur, rfl, _, hg, _⟩
  · simp [Value.ownBlock] at he
  · simp [Value.ownBlock] at he
    subst he
    rw [hb] at hg
    simp at hg

/-- a row of bytes, owned, in blocks that are new since w -/
def Row (w wr : World) (u : Value) (l : List UInt8) : Prop := wr.ownsRow w.heap.size 5 1 u l.length (bv l)

theorem wp_appG {w : World} {ops : Array Oper} {rest : List Oper} {o : Oper} {a : Act} {Q : Exit → Act → World → Prop} (hgd : o.guard = none) (s x : Operand)
    (ho : o.op = .call { callee := .builtin .append, args := #[s, x], argTypes := #[22, 22] })
    (ws : World) (v : Value) (l : List UInt8) (hs : a.eval s = v) (hown : Row ws w v l) (hsz : ws.heap.size ≤ w.heap.size)
    (ad : Addr) (c : UInt8) (hx : a.eval x = .slice (some ad) 1 1) (hnews : ∀ j u, (bv [c])[j]? = some u → w.cell? (ad.add j) = some u) (hlen : l.length ≤ 1000000)
    (h : ∀ v' w', Row ws w' v' (l ++ [c]) → w.grownBy w' v.ownBlock → wpList Tryd.prog ops Q rest (a.put o.dst v') w') : wpList Tryd.prog ops Q (o :: rest) a w := by
  obtain ⟨i0, hi, hz0, hz1, hz2⟩ := info_parts Tryd.info5
  refine wpList_append_own _ hgd s x 22 ho ws.heap.size 5 i0 (.int .u8 0) 1 1 Tryd.underlying22 hi hz0 hz1 hz2 rfl (by decide) v l.length (bv l) hs hown ad 1 1 (bv [c]) hx (by simp [bv]) hnews
    (fun u hu => by simp [bv] at hu; subst hu; rfl) (by unfold maxLen; omega) (by omega) hsz ?_
  intro v' w' h1 h2 _
  exact h v' w' (by unfold Row; rw [List.length_append, bv_append]; exact h1) h2

theorem run_strR {ws w : World} {v : Value} {l : List UInt8} (h : Row ws w v l) (hs : ws.heap.size ≤ w.heap.size) : (convert 22 9 v).run Tryd.prog w = .ok (.string ⟨l.toArray⟩) w :=
  run_str (B := 0) (w0 := w) ⟨⟨h.1, by
    rcases h.2 with hn | ⟨g, cap, cur, hv, hbg, rest⟩
    · exact .inl hn
    · exact .inr ⟨g, cap, cur, hv, Nat.zero_le _, rest⟩⟩, ⟨rfl, rfl, rfl, Nat.le_refl _, fun _ _ => rfl⟩, Nat.zero_le _⟩

def TxRel (B : Nat) (w0 w : World) (g : Nat) (v : Value) (n : Nat) (u i : Value) (wr : World) : Prop :=
  ∃ (k : Nat) (l : List UInt8), k ≤ n ∧ i = .int .i64 k ∧ l.length = k ∧ Row w wr u l ∧ Cur B w0 wr g v ∧ w.grownBy wr (some g)

theorem byteI (x : Nat) (h : x ≤ 255) : (x : Int) = ((UInt8.ofNat x).toNat : Int) := by
  simp
  omega

set_option maxRecDepth 100000 in
set_option maxHeartbeats 1000000 in
theorem l01Text_nat (B : Nat) (w0 w : World) (g : Nat) (v : Value) (n : Nat) (hc : Cur B w0 w g v) (hn : n ≤ 5000) :
    Calls Tryd.prog 92 #[.pointer (some ⟨g, 0, none⟩), .int .i64 n] w fun e w' => ∃ l : List UInt8, l.length = n ∧ e = .returned (.string ⟨l.toArray⟩) ∧ Cur B w0 w' g v ∧ w.grownBy w' (some g) := by
  have hn1 : ¬ ((5000 : Int) < (n : Int)) := by omega
  go_enter Tryd.func92, Tryd.ntmps92
  go_wp2
  go_loopw [5, 6] (fun u i wr => TxRel B w0 w g v n u i wr) (fun _ i _ => n - (intOf i).toNat)
  case atStart =>
    refine ⟨0, [], by omega, rfl, rfl, World.ownsRow_made w #[] 0 (Nat.le_refl _) (by decide) (by simp), ?_, World.grownBy_alloc w _ _⟩
    exact hc.kept (World.grownBy_alloc w _ none) (by simp) hc.size (fun k hk => by cases hk)
  case round =>
    obtain ⟨k, l, hk, rfl, hll, hrow, hcr, hgr⟩ := hrel
    by_cases hlt : k < n
    · go_wp2_with fail
      refine (l01Byte_in B w0 _ g v hcr).mono ?_
      rintro e w1 ⟨x, hx, rfl, hc1, hg1⟩
      have hrow1 : Row w w1 u5 l := World.ownsRow.kept hrow hg1 (.inr (own_ne hcr hrow).symm)
      have hgr1 := hgr.trans hg1
      go_wp2_with (at_builtin; refine wp_appG rfl _ _ rfl w _ l rfl (World.ownsRow.alloc hrow1 _) ?c0 ⟨w1.heap.size, 0, none⟩ (UInt8.ofNat x) rfl ?c1 ?c2 ?_)
      case c0 => have := hgr1.size; simp; omega
      case c1 => exact one_byte _ _ _ _ (byteI x hx)
      case c2 => omega
      intro v' w2 hrow2 hg2
      have hne := own_ne hc1 hrow1
      have hge : ∀ j, u5.ownBlock = some j → w.heap.size ≤ j := fun j hj => (World.ownsRow.lt hrow1 j hj).1
      have hB := hc.size
      have hca : Cur B w0 (w1.alloc (.cells #[.int .u8 (x : Int)] 5)) g v := hc1.kept (World.grownBy_alloc w1 _ none) (by simp) hc1.size (fun k hk => by cases hk)
      have hc2 : Cur B w0 w2 g v := hca.kept hg2 hne hca.size (fun j hj => Nat.le_trans hB (hge j hj))
      have hgr2 : w.grownBy w2 (some g) := grow_then (hgr1.trans (World.grownBy_alloc w1 _ (some g))) hg2 (fun j hj => .inl (hge j hj))
      clear hca hne hge hg2 hgr1 hrow1 hc1 hg1
      go_wp2
      go_roundw
      case rel => exact ⟨k + 1, l ++ [UInt8.ofNat x], by omega, by go_num, by simp; omega, hrow2, hc2, hgr2⟩
      case measure => simp [intOf] <;> omega
    · have hke : k = n := by omega
      subst hke
      have hcv := run_strR hrow hgr.size
      go_wp2
      go_ret
      exact ⟨l, hll, rfl, hcr, hgr⟩

theorem l01Text_in (B : Nat) (w0 w : World) (g : Nat) (v : Value) (x : Int) (n : Nat) (hx : x = (n : Int)) (hc : Cur B w0 w g v) (hn : n ≤ 5000) :
    Calls Tryd.prog 92 #[.pointer (some ⟨g, 0, none⟩), .int .i64 x] w fun e w' => ∃ l : List UInt8, l.length = n ∧ e = .returned (.string ⟨l.toArray⟩) ∧ Cur B w0 w' g v ∧ w.grownBy w' (some g) := by
  subst hx
  exact l01Text_nat B w0 w g v n hc hn

end Go.Proofs.YtaejeemjndmjcaaDoor
/-
  What is drawn for numbers and texts: DrawVarText, DrawHex.
-/
namespace Go.Proofs.YtaejeemjndmjcaaDoor
open Go.RowKit
set_option linter.unusedVariables false

def LgRel (w : World) (n : Nat) (x : UInt8) (i : Value) (wr : World) : Prop :=
  ∃ k : Nat, k ≤ n ∧ i = .int .i64 k ∧ wr.ownsRow w.heap.size 5 1 (.slice (some ⟨w.heap.size, 0, none⟩) n n) n (bv (List.replicate k x ++ List.replicate (n - k) 0)) ∧ Below w.heap.size w wr

theorem lg_set (x : UInt8) (n k : Nat) (h : k < n) : (bv (List.replicate k x ++ List.replicate (n - k) 0)).set k (.int .u8 (x.toNat : Int)) = bv (List.replicate (k + 1) x ++ List.replicate (n - (k + 1)) 0) := by
  have e : n - k = (n - (k + 1)) + 1 := by omega
  have e2 : List.replicate k x ++ List.replicate (n - k) 0 = List.replicate k x ++ 0 :: List.replicate (n - (k + 1)) 0 := by rw [e, List.replicate_succ]
  have e3 : List.replicate (k + 1) x = List.replicate k x ++ [x] := List.replicate_succ'
  rw [e2, e3]
  unfold bv
  rw [List.map_append, List.map_cons, List.set_append_right _ _ (by simp), List.length_map, List.length_replicate, Nat.sub_self, List.set_cons_zero]
  simp

set_option maxRecDepth 100000 in
set_option maxHeartbeats 1000000 in
theorem l01Long_nat (n : Nat) (x : UInt8) (w : World) (hn : n ≤ 1000000) :
    Calls Tryd.prog 58 #[.int .i64 n, .int .u8 x.toNat] w fun e w' => e = .returned (.string ⟨(List.replicate n x).toArray⟩) ∧ Below w.heap.size w w' := by
  obtain ⟨i0, hi, hz0, hz1, hz2⟩ := info_parts Tryd.info5
  obtain ⟨w1, hmk, hown, hgr⟩ := run_make_full (P := Tryd.prog) w w.heap.size 22 5 i0 (.int .u8 0) 1 Tryd.underlying22 hi hz0 hz1 .i64 .i64 n (by rw [hz2]; omega) (by unfold maxLen; omega) (Nat.le_refl _)
  have hown0 : w1.ownsRow w.heap.size 5 1 (.slice (some ⟨w.heap.size, 0, none⟩) n n) n (bv (List.replicate 0 x ++ List.replicate (n - 0) 0)) := by
    have e : (madeCells (Value.int .u8 0).cells (n * 1)).toList = bv (List.replicate 0 x ++ List.replicate (n - 0) 0) := by
      have h := toList_madeCells_one (Value.int .u8 0) n
      rw [Nat.mul_one]
      refine Eq.trans h ?_
      simp [bv]
    rw [e] at hown
    exact hown
  have hb1 : Below w.heap.size w w1 := (Below.refl _ _).grown hgr (Nat.le_refl _) (fun k hk => by cases hk)
  clear hown hgr
  go_enter Tryd.func58, Tryd.ntmps58
  go_wp2
  clear hmk
  go_loopw [6] (fun i wr => LgRel w n x i wr) (fun i _ => n - (intOf i).toNat)
  case atStart => exact ⟨0, by omega, rfl, hown0, hb1⟩
  case round =>
    obtain ⟨k, hk, rfl, ho, hbel⟩ := hrel
    by_cases hlt : k < n
    · obtain ⟨old, hold⟩ : ∃ old, wr.cell? ⟨w.heap.size, k, none⟩ = some old := by
        rw [ho.cellAt k (by omega)]
        have hl : k < (bv (List.replicate k x ++ List.replicate (n - k) 0)).length := by rw [bv_length]; simp; omega
        exact ⟨_, List.getElem?_eq_getElem hl⟩
      have f0 := ho.frozenAt k
      have h1 := (ho.stored k (.int .u8 (x.toNat : Int))).1
      rw [lg_set x n k hlt] at h1
      have HO : Hid ((wr.setCell ⟨w.heap.size, k, none⟩ (.int .u8 (x.toNat : Int))).ownsRow w.heap.size 5 1 (.slice (some ⟨w.heap.size, 0, none⟩) n n) n (bv (List.replicate (k + 1) x ++ List.replicate (n - (k + 1)) 0))) := h1
      have hbel2 := hbel.setCell (p := ⟨w.heap.size, k, none⟩) (Nat.le_refl _) (.int .u8 (x.toNat : Int))
      have HB2 : Hid (Below w.heap.size w (wr.setCell ⟨w.heap.size, k, none⟩ (.int .u8 (x.toNat : Int)))) := hbel2
      clear h1 hbel2
      go_wp2
      go_roundw
      case rel => exact ⟨k + 1, by omega, by go_num, HO.out, HB2.out⟩
      case measure => simp [intOf] <;> omega
    · have hke : k = n := by omega
      subst hke
      rw [Nat.sub_self, List.replicate_zero, List.append_nil] at ho
      have hrow : Row w wr (.slice (some ⟨w.heap.size, 0, none⟩) k k) (List.replicate k x) := by
        unfold Row
        rw [List.length_replicate]
        exact ho
      have hcv := run_strR hrow hbel.size
      go_wp2
      go_ret
      exact ⟨rfl, hbel⟩

theorem l01Long_in (y : Int) (n : Nat) (x : UInt8) (z : Int) (w : World) (hy : y = (n : Int)) (hz : z = (x.toNat : Int)) (hn : n ≤ 1000000) :
    Calls Tryd.prog 58 #[.int .i64 y, .int .u8 z] w fun e w' => e = .returned (.string ⟨(List.replicate n x).toArray⟩) ∧ Below w.heap.size w w' := by
  subst hy
  subst hz
  exact l01Long_nat n x w hn

def numList : List Int := [-1, 0, 127, 128, 16383, 16384, 1000000000, 1000000001, 9223372036854775807, -9223372036854775808]
theorem numList_in (y : Int) (h : y ∈ numList) : -9223372036854775808 ≤ y ∧ y ≤ 9223372036854775807 := by
  simp [numList] at h
  omega

def numCells : Array Value := #[.int .i64 (-1), .int .i64 0, .int .i64 127, .int .i64 128, .int .i64 16383, .int .i64 16384, .int .i64 1000000000, .int .i64 1000000001, .int .i64 9223372036854775807, .int .i64 (-9223372036854775808)]
theorem numCells_at (w : World) : Hid (∀ j, (h : j < numList.length) → (w.alloc (.cells numCells 3)).cell? ⟨w.heap.size, j, none⟩ = some (.int .i64 numList[j])) := by
  intro j hj
  rw [World.cell?_alloc_at _ _ _ _ rfl]
  have : j = 0 ∨ j = 1 ∨ j = 2 ∨ j = 3 ∨ j = 4 ∨ j = 5 ∨ j = 6 ∨ j = 7 ∨ j = 8 ∨ j = 9 := by simp [numList] at hj; omega
  rcases this with rfl | rfl | rfl | rfl | rfl | rfl | rfl | rfl | rfl | rfl <;> rfl

end Go.Proofs.YtaejeemjndmjcaaDoor
/-
  Rows of texts: one measured, one taken over into a new one, two compared.
-/
namespace Go.Proofs.YtaejeemjndmjcaaDoor
open Go.RowKit Go.BigFrame
set_option linter.unusedVariables false

theorem Tryd.info9 : (Tryd.prog.info? 9).map (fun i => (i.zero, i.size, i.bytes)) = some (some (.string ByteArray.empty), 1, 16) := by kernel_rfl

/-- v reads as the texts l, which lie in block g from place o on -/
def SS (w : World) (v : Value) (g o : Nat) (l : List ByteArray) : Prop :=
  ∃ a cap, v = .slice a l.length cap ∧ l.length ≤ 1100000 ∧ (0 < l.length → a = some ⟨g, o, none⟩) ∧ ∀ j (h : j < l.length), w.cell? ⟨g, o + j, none⟩ = some (.string l[j])

theorem SS.below {w w' : World} {v : Value} {g o B : Nat} {l : List ByteArray} (h : SS w v g o l) (hb : Below B w w') (hg : 0 < l.length → g < B) : SS w' v g o l := by
  obtain ⟨a, cap, h1, h2, h3, h4⟩ := h
  exact ⟨a, cap, h1, h2, h3, fun j hj => (hb.cell (p := ⟨g, o + j, none⟩) (hg (by omega))).trans (h4 j hj)⟩
theorem SS.drewN {w : World} {v : Value} {g o : Nat} {l : List ByteArray} (h : SS w v g o l) (n : Nat) : SS (w.drewN n) v g o l := h

def EqS (n : Nat) (w : World) (i : Value) (wr : World) : Prop := ∃ m q : Nat, m ≤ n ∧ i = .int .i64 m ∧ wr = w.drewN q

/-- block g begins with the texts l, and may be written -/
def TB (w : World) (g : Nat) (l : List ByteArray) : Prop := ∃ cur, w.heap[g]? = some (.cells cur 9 (0, 0)) ∧ ∀ j (h : j < l.length), cur[j]? = some (.string l[j])
theorem TB.cell {w : World} {g : Nat} {l : List ByteArray} (h : TB w g l) (j : Nat) (hj : j < l.length) : w.cell? ⟨g, j, none⟩ = some (.string l[j]) := by
  obtain ⟨cur, h1, h2⟩ := h
  rw [cell_of_row w g j cur 9 (0, 0) h1]
  exact h2 j hj
theorem TB.frozen {w : World} {g : Nat} {l : List ByteArray} (h : TB w g l) (j : Nat) : w.frozen? ⟨g, j, none⟩ = false := by
  obtain ⟨cur, h1, h2⟩ := h
  simp [World.frozen?, h1]
theorem TB.lt {w : World} {g : Nat} {l : List ByteArray} (h : TB w g l) : g < w.heap.size := by
  obtain ⟨cur, h1, h2⟩ := h
  exact (Array.getElem?_eq_some_iff.1 h1).1
theorem TB.set {w : World} {g : Nat} {l : List ByteArray} (h : TB w g l) (i : Nat) (hi : i < l.length) (x : ByteArray) : TB (w.setCell ⟨g, i, none⟩ (.string x)) g (l.set i x) := by
  obtain ⟨cur, h1, h2⟩ := h
  have hc := h2 i hi
  have his : i < cur.size := (Array.getElem?_eq_some_iff.1 hc).1
  refine ⟨_, heap_setCell_same w g i cur 9 _ h1, fun j hj => ?_⟩
  have hj' : j < l.length := by simpa using hj
  rw [Array.getElem?_setIfInBounds]
  by_cases he : i = j
  · subst he
    simp [his]
  · rw [if_neg he, h2 j hj']
    simp [List.getElem_set_ne he]
theorem TB.below {w w' : World} {g B : Nat} {l : List ByteArray} (h : TB w g l) (hb : Below B w w') (hg : g < B) : TB w' g l := by
  obtain ⟨cur, h1, h2⟩ := h
  exact ⟨cur, by rw [hb.block g hg]; exact h1, h2⟩
theorem TB.ss {w : World} {g : Nat} {l : List ByteArray} (h : TB w g l) (cap n : Nat) (hn : l.length = n) (hl : n ≤ 1100000) : SS w (.slice (some ⟨g, 0, none⟩) n cap) g 0 l := by
  subst hn
  exact ⟨_, cap, rfl, hl, fun _ => rfl, fun j hj => by rw [Nat.zero_add]; exact h.cell j hj⟩

/-- 'make([]string, n)' -/
theorem TB.made (n : Nat) (h : n ≤ 1000000000) (W : World) : ∃ w', (Instr.makeSlice 26 (.int .i64 (n : Int)) (.int .i64 (n : Int))).run Tryd.prog W = .ok (.slice (some ⟨W.heap.size, 0, none⟩) n n) w' ∧ TB w' W.heap.size (List.replicate n ByteArray.empty) ∧ Below W.heap.size W w' ∧ w'.heap.size = W.heap.size + 1 := by
  obtain ⟨i0, hi, hz0, hz1, hz2⟩ := info_parts Tryd.info9
  have h1 := run_make (P := Tryd.prog) W 26 9 i0 (.string ByteArray.empty) Tryd.underlying26 hi hz0 .i64 .i64 (n : Int) (n : Int) (by omega) (by omega) (by rw [hz2]; omega) (by omega)
  refine ⟨_, by simpa using h1, ⟨_, Go.heap_alloc_new W _, fun j hj => ?_⟩, (Below.refl _ _).alloc (Nat.le_refl _) _, by simp⟩
  have hj' : j < n := by simpa using hj
  have e : (madeCells (Value.string ByteArray.empty).cells (n * i0.size)).toList = List.replicate n (.string ByteArray.empty) := by
    rw [hz1]
    simp [Value.cells, toList_madeCells_one]
  rw [← Array.getElem?_toList, e]
  simp [hj']

def srow (l : List ByteArray) (m : Nat) : List ByteArray := l.take m ++ List.replicate (l.length - m) ByteArray.empty
theorem srow_len (l : List ByteArray) (m : Nat) (h : m ≤ l.length) : (srow l m).length = l.length := by simp [srow]; omega
theorem srow_step (l : List ByteArray) (m : Nat) (h : m < l.length) : (srow l m).set m l[m] = srow l (m + 1) := by
  unfold srow
  have e : l.length - m = (l.length - (m + 1)) + 1 := by omega
  have e2 : (l.take m).length = m := by simp; omega
  rw [e, List.replicate_succ, List.set_append_right _ _ (by omega), e2, Nat.sub_self, List.set_cons_zero, ← List.take_append_getElem h, List.append_assoc]
  rfl
theorem srow_all (l : List ByteArray) : srow l l.length = l := by simp [srow]
def ToS (w : World) (l : List ByteArray) (g : Nat) (i : Value) (wr : World) : Prop := ∃ m : Nat, m ≤ l.length ∧ i = .int .i64 m ∧ TB wr g (srow l m) ∧ Below w.heap.size w wr

/-- so many bytes in all, and one for each text -/
def szL (l : List ByteArray) : Nat := l.length + (l.map ByteArray.size).sum
theorem sz_le (l : List ByteArray) (x : ByteArray) (h : x ∈ l) : x.size ≤ szL l := by
  unfold szL
  induction l with
  | nil => simp at h
  | cons y r ih =>
    rcases List.mem_cons.1 h with rfl | h
    · simp; omega
    · have := ih h
      simp at this ⊢
      omega
def preS (l : List ByteArray) (m : Nat) : Nat := ((l.take m).map ByteArray.size).sum
theorem preS_step (l : List ByteArray) (m : Nat) (h : m < l.length) : preS l (m + 1) = preS l m + l[m].size := by
  unfold preS
  rw [← List.take_append_getElem h, List.map_append, List.sum_append]
  simp
theorem preS_le (l : List ByteArray) (m : Nat) : preS l m ≤ (l.map ByteArray.size).sum := by
  have e : (l.map ByteArray.size).sum = preS l m + ((l.drop m).map ByteArray.size).sum := by
    unfold preS
    rw [← List.sum_append, ← List.map_append, List.take_append_drop]
  omega
theorem preS_all (l : List ByteArray) : preS l l.length = (l.map ByteArray.size).sum := by simp [preS]

def SzR (l : List ByteArray) (w : World) (x i : Value) (wr : World) : Prop := ∃ m : Nat, m ≤ l.length ∧ i = .int .i64 m ∧ x = .int .i64 (1048576 - (l.length : Int) - (preS l m : Int)) ∧ l.length + preS l m ≤ 1048576 ∧ wr = w

def wr_cell (w : World) (g o m : Nat) (x : ByteArray) : Prop := w.cell? ⟨g, o + m, none⟩ = some (.string x)

/-- what the law measures: what is left of 1 << 20, or less than nothing -/
def szA (l : List ByteArray) : Int := if szL l ≤ 1048576 then 1048576 - (szL l : Int) else -1

/-- what is put into the hands of a law: texts that were there, all up to the capacity -/
def IsRowS (w : World) (a : Option Addr) (len cap : Nat) (ss : List ByteArray) : Prop :=
  (a = none ∧ len = 0 ∧ cap = 0 ∧ ss = []) ∨ ∃ x : Addr, a = some x ∧ len ≤ cap ∧ cap ≤ maxLen ∧ len ≤ ss.length ∧ (∀ i, i < ss.length → w.cell? (x.add i) = some (.string (ss.getD i ByteArray.empty))) ∧ ∀ s ∈ ss, s.size ≤ maxLen
theorem IsRowS.len {w : World} {a : Option Addr} {len cap : Nat} {ss : List ByteArray} (h : IsRowS w a len cap ss) : len ≤ maxLen := by
  rcases h with ⟨_, rfl, _⟩ | ⟨x, _, h1, h2, _⟩
  · omega
  · omega
theorem SS.lt {w : World} {v : Value} {g o : Nat} {l : List ByteArray} (h : SS w v g o l) : 0 < l.length → g < w.heap.size := by
  intro h0
  obtain ⟨_, _, _, _, _, hc⟩ := h
  have h4 := hc 0 h0
  rcases Nat.lt_or_ge g w.heap.size with hlt | hge
  · exact hlt
  · simp [World.cell?, Array.getElem?_eq_none hge] at h4
theorem ss_of_row {w : World} {a : Option Addr} {len cap : Nat} {ss : List ByteArray} (h : IsRowS w a len cap ss) (hl : len ≤ 1048576) : ∃ (g o : Nat) (l : List ByteArray), l.length = len ∧ SS w (.slice a len cap) g o l ∧ ∀ x ∈ l, x.size ≤ maxLen := by
  rcases h with ⟨rfl, rfl, rfl, rfl⟩ | ⟨x, rfl, h1, h2, h3, hc, hz⟩
  · exact ⟨0, 0, [], rfl, ⟨none, 0, rfl, by simp, fun h => absurd h (by simp), fun j hj => absurd hj (by simp)⟩, fun x hx => absurd hx (by simp)⟩
  · have hlen : (ss.take len).length = len := by simp; omega
    have hadd : ∀ j, 0 < len → x.add j = ⟨x.block, x.off + j, none⟩ := fun j h0 => by
      have h4 := hc 0 (by omega)
      have e : x.add 0 = x := by unfold Addr.add; simp
      rw [e] at h4
      have hs := World.cell?_spot h4
      cases x
      simp at hs
      subst hs
      unfold Addr.add
      split <;> simp_all
    refine ⟨x.block, x.off, ss.take len, hlen, ⟨some x, cap, by rw [hlen], by omega, fun h0 => ?_, fun j hj => ?_⟩, fun y hy => hz y (List.mem_of_mem_take hy)⟩
    · have := hadd 0 (by omega)
      have e : x.add 0 = x := by unfold Addr.add; simp
      rw [e] at this
      rw [this]
    · have h4 := hc j (by omega)
      rw [hadd j (by omega)] at h4
      rw [h4]
      simp [List.getD, List.getElem?_eq_getElem (show j < ss.length by omega)]

end Go.Proofs.YtaejeemjndmjcaaDoor
