/-
  Texts laid together: Sb, Si, Lsd, Rf, Lrt.
-/
import Derived.Test.YtmhoilliaeefcaaDoorIh
import Derived.Test.YtmhoilliaeefcaaDoorFu
import Derived.Test.YtmhoilliaeefcaaDoorLl
import Derived.Test.YtmhoilliaeefcaaDoorLk
import Derived.Test.YtmhoilliaeefcaaDoorPkE
import Derived.Lib.QuietBelow
/-
  The sides that the program finds on the way down.
-/
namespace Go.Proofs.YtmhoilliaeefcaaDoor
open Go.RowKit Go.BigFrame Go.Sort
set_option linter.unusedVariables false
set_option linter.unusedSimpArgs false

theorem one_new (w : World) (t : ByteArray) : (w.alloc (.cells #[.string t] 9)).cell? ⟨w.heap.size, 0, none⟩ = some (.string t) := by
  rw [World.cell?_alloc_at _ _ _ _ rfl]; rfl
theorem asFF (v : Value) (w : World) : (Instr.typeAssert (.iface 115 v) 75 115 true).run Tryd.prog w = .ok (.tuple #[v, .bool true]) w := by kernel_rfl
theorem asEF (v : Value) (w : World) : (Instr.typeAssert (.iface 88 v) 75 115 true).run Tryd.prog w = .ok (.tuple #[.pointer none, .bool false]) w := by kernel_rfl
theorem asEE (v : Value) (w : World) : (Instr.typeAssert (.iface 88 v) 75 88 true).run Tryd.prog w = .ok (.tuple #[v, .bool true]) w := by kernel_rfl
theorem asKF (v : Value) (w : World) : (Instr.typeAssert (.iface 131 v) 75 115 true).run Tryd.prog w = .ok (.tuple #[.pointer none, .bool false]) w := by kernel_rfl
theorem asKE (v : Value) (w : World) : (Instr.typeAssert (.iface 131 v) 75 88 true).run Tryd.prog w = .ok (.tuple #[.pointer none, .bool false]) w := by kernel_rfl

section
variable {w : World} {ops : Array Oper} {o : Oper} {a : Act} {K : Act → World → Prop} {Q : Exit → Act → World → Prop}
/-- hash of a node, as one step of a region that draws its order -/
theorem step_hash {E : Prop} (hgd : o.guard = none) (r : Operand) (ho : o.op = .call { callee := .invoke r "loop.example/g00284/impl.hash", args := #[], argTypes := #[] })
    (v : Value) (t : ByteArray) (hv : a.eval r = v) (hN : HsN w v t) (hk : K (a.put o.dst (.string t)) w) : if Region.wanted o (yielded ops a.tmps) = true then Oper.wp Tryd.prog o a w K Q else E := by
  have hw : Region.wanted o (yielded ops a.tmps) = true := by simp [Region.wanted, hgd]
  rw [if_pos hw]
  exact oper_hash r ho v t hv hN hk
end

theorem and_b (q : Nat) (h : q ≤ 255) : bits BinOp.and IntKind.i64 (q : Int) 1 = ((q % 2 : Nat) : Int) := by
  have : ∀ q : Fin 256, bits BinOp.and IntKind.i64 ((q.val : Nat) : Int) 1 = ((q.val % 2 : Nat) : Int) := by decide +kernel
  exact this ⟨q, by omega⟩
theorem bit_of (ix k : Nat) (hk : k ≤ 7) (hx : ix ≤ 255) : bitI (ix : Int) (7 - k) = ((ix / 2 ^ k % 2 : Nat) : Int) := by
  unfold bitI
  have e1 : 7 - (7 - k) = k := by omega
  have e2 : (ix : Int) / 2 ^ k = ((ix / 2 ^ k : Nat) : Int) := by simp
  rw [e1, e2]
  exact and_b _ (Nat.le_trans (Nat.div_le_self _ _) hx)
theorem oth_half (q : Nat) : TR.oth q / 2 = q / 2 := by unfold TR.oth; split <;> omega

/-- what sidesBelow answers at this height -/
def SbC (x : Int) (L : List Le) (ix k : Nat) : Prop := ∀ (v : Value) (l : Int) (w : World), l + (k : Int) = 8 → NT x L w k (ix / 2 ^ k) v →
    Calls Tryd.prog 58 #[v, .int .i64 (ix : Int), .int .i64 l] w fun e w' => ∃ u, e = .returned u ∧ OS w.heap.size w w' u (sdL x ix L k)

theorem sdL_zero (x : Int) (ix : Nat) (L : List Le) : sdL x ix L 0 = [] := rfl

set_option maxRecDepth 100000 in
set_option maxHeartbeats 1000000 in
theorem sidesBelow_zero (x : Int) (L : List Le) (ix : Nat) : SbC x L ix 0 := by
  intro v l w hl hN
  have HF : Hid (∃ u, Ending.returned (.slice (some ⟨w.heap.size, 0, none⟩) 0 0) = .returned u ∧ OS w.heap.size w (w.alloc (.cells #[] 9)) u (sdL x ix L 0)) := ⟨_, rfl, OS.made w⟩
  rcases hN with ⟨q, rfl, ⟨g, rfl, c0, c1⟩, _⟩ | ⟨g, rfl, c0⟩
  · have hA1 := asEF
    have hA2 := asEE
    generalize empB x 0 = T at *
    go_enter Tryd.func58, Tryd.ntmps58
    go_wp2_with fail
    go_ret
    exact HF.out
  · have hA1 := asKF
    have hA2 := asKE
    generalize trB x 0 (ix / 2 ^ 0) L = T at *
    go_enter Tryd.func58, Tryd.ntmps58
    go_wp2_with fail
    go_ret
    exact HF.out

set_option maxRecDepth 100000 in
set_option maxHeartbeats 2000000 in
theorem sidesBelow_up (x : Int) (L : List Le) (ix k : Nat) (hk : k ≤ 7) (hx : ix ≤ 255) (ih : SbC x L ix k) : SbC x L ix (k + 1) := by
  intro v l w hl hN
  have hst := sdL_up x ix L k
  have hll : (sdL x ix L k).length = k := sdL_len x ix L k
  have HLN : Hid ((sdL x ix L k).length + 1 ≤ 1000000) := by show (sdL x ix L k).length + 1 ≤ 1000000; omega
  have HF : Hid (∀ g cap W, OS w.heap.size w W (.slice (some ⟨g, 0, none⟩) ((sdL x ix L k).length + 1) cap) (sdL x ix L k ++ [trB x k (TR.oth (ix / 2 ^ k)) L]) → ∃ u, Ending.returned (.slice (some ⟨g, 0, none⟩) ((sdL x ix L k).length + 1) cap) = .returned u ∧ OS w.heap.size w W u (sdL x ix L (k + 1))) := fun g cap W hW => ⟨_, rfl, by rw [hst]; exact hW⟩
  have hq2 : ix / 2 ^ (k + 1) = ix / 2 ^ k / 2 := by rw [Nat.pow_succ, Nat.div_div_eq_div_mul]
  have HC : Hid (∀ v, NT x L w k (ix / 2 ^ k) v → Calls Tryd.prog 58 #[v, .int .i64 (ix : Int), .int .i64 (l + 1)] w.drew fun e w' => ∃ u, e = .returned u ∧ OS w.heap.size w w' u (sdL x ix L k)) := fun v hv =>
    (ih v (l + 1) w.drew (by omega) (NT.later (w := w) (Below.refl _ _).drew hv)).mono fun e w' ⟨u, h1, h2⟩ => ⟨u, h1, OS.from h2 (Below.refl _ _).drew⟩
  have l0 : 0 ≤ l := by omega
  have l8 : l < 8 := by omega
  have a1 : IntKind.i64.wrap (l + 1) = l + 1 := IntWalk.i64_in _ (by omega)
  clear hst hll
  rcases hN with ⟨q, rfl, ⟨g, b, rfl, c0, c1, hb⟩, hu⟩ | ⟨g, a, b, rfl, c0, c1, c2, hNa, hNb⟩
  · rw [hq2] at hu
    have hu1 : TR.und idxL k (ix / 2 ^ k) L = [] := TR.und_down (k := k) (j := 1) (by simp) hu
    have hu2 : TR.und idxL k (TR.oth (ix / 2 ^ k)) L = [] := TR.und_down (k := k) (j := 1) (by rw [Nat.pow_one]; exact oth_half _) hu
    have hC1 := HC.out _ (NT.empty hb hu1)
    have HH : Hid (∀ W, Below w.heap.size w W → ∃ gb, b = .pointer (some ⟨gb, 0, none⟩) ∧ W.cell? ⟨gb, 1, none⟩ = some (.string (trB x k (TR.oth (ix / 2 ^ k)) L))) := fun W hW => by
      obtain ⟨gb, h1, h2⟩ := (hb.later hW).made
      exact ⟨gb, h1, by rw [tr_emp hu2]; exact h2⟩
    obtain ⟨gb, rfl, _⟩ := hb.made
    have hA1 := asEF
    have hA2 := asEE
    have hg : g < w.heap.size := lt_of_cell c0
    clear hu hu1 hu2 HC hq2 c1 hb ih
    generalize sdL x ix L k = l0 at *
    generalize trB x k (TR.oth (ix / 2 ^ k)) L = T at *
    have HHH : Hid (∀ W, Below w.heap.size w W → Calls Tryd.prog 72 #[.pointer (some ⟨gb, 0, none⟩)] W fun e w' => e = .returned (.string T) ∧ w' = W) := fun W hW => by
      obtain ⟨gb', h1, h2⟩ := HH.out W hW
      obtain rfl : gb = gb' := by simpa using h1
      exact hashE_any gb T W h2
    go_enter Tryd.func58, Tryd.ntmps58
    go_wp2_with fail
    go_region_held3 (fun W => W.cell? ⟨g, 0, none⟩ = some (.pointer (some ⟨gb, 0, none⟩))) (first | go_keep | exact (hos1.2.1.cell (p := ⟨g, 0, none⟩) hg).trans c0 | exact (ho5.2.1.cell (p := ⟨g, 0, none⟩) hg).trans c0) ((first | (go_at_call 58; refine hC1.mono ?_; rintro e w1 ⟨u1, rfl, hos1⟩; have hbw1 := hos1.2.1; have hosa := fun o => hos1.alloc o) | (go_at_call 72; with_reducible refine (HHH.out _ hbw1).mono ?_; rintro e w2 ⟨rfl, rfl⟩) | (refine step_txtL rfl _ _ rfl w.heap.size w _ l0 T rfl (hosa _) _ rfl (one_new _ _) HLN.out ?_; intro g5 cap5 w5 ho5 hg5 hl5) | fail))
    have HF5 := HF.out _ _ _ ho5
    have HFF : Hid (∃ u, Ending.returned (.slice (some ⟨g5, 0, none⟩) (l0.length + 1) cap5) = .returned u ∧ OS w.heap.size w w5 u (sdL x ix L (k + 1))) := HF5
    clear HF5 HF ho5 hg5 hl5 HHH HH hC1
    go_wp2
    go_ret
    exact HFF.out
  · have hg : g < w.heap.size := lt_of_cell c0
    have hA1 := asFF
    have w1 : IntKind.i64.wrap 1 = 1 := rfl
    have w0 : IntKind.i64.wrap 0 = 0 := rfl
    have w2 : IntKind.i64.wrap (1 - 0) = 1 := rfl
    have w3 : IntKind.i64.wrap (1 - 1) = 0 := rfl
    have hbo := BitOf_at (ix : Int) l w ⟨l0, by omega⟩
    rw [show l.toNat = 7 - k by omega, bit_of ix k hk hx] at hbo
    by_cases hb0 : ix / 2 ^ k % 2 = 0
    · have hq : ix / 2 ^ k = 2 * (ix / 2 ^ (k + 1)) := by omega
      have ho : TR.oth (ix / 2 ^ k) = 2 * (ix / 2 ^ (k + 1)) + 1 := by unfold TR.oth; rw [if_pos hb0]; omega
      have hb : ((ix / 2 ^ k % 2 : Nat) : Int) = 0 := by omega
      rw [hb] at hbo
      have hC1 := HC.out a (by rw [hq]; exact hNa)
      have HH : Hid (∀ W, Below w.heap.size w W → HsN W b (trB x k (TR.oth (ix / 2 ^ k)) L)) := fun W hW => by
        rw [ho]
        exact (NT.later hW hNb).hash
      clear hq ho hNa hNb HC hq2 c2 ih hb
      generalize sdL x ix L k = l0 at *
      generalize trB x k (TR.oth (ix / 2 ^ k)) L = T at *
      go_enter Tryd.func58, Tryd.ntmps58
      go_wp2_with fail
      refine hbo.mono ?_
      rintro e w0 ⟨rfl, rfl⟩
      clear hbo
      go_wp2_with fail
      go_region_held3 (fun W => W.cell? ⟨g, 0, none⟩ = some a ∧ W.cell? ⟨g, 1, none⟩ = some b) (first | go_keep | exact ⟨(hos1.2.1.cell (p := ⟨g, 0, none⟩) hg).trans c0, (hos1.2.1.cell (p := ⟨g, 1, none⟩) hg).trans c1⟩ | exact ⟨(ho5.2.1.cell (p := ⟨g, 0, none⟩) hg).trans c0, (ho5.2.1.cell (p := ⟨g, 1, none⟩) hg).trans c1⟩) ((first | (go_at_call 58; refine hC1.mono ?_; rintro e w1 ⟨u1, rfl, hos1⟩; have hbw1 := hos1.2.1; have hosa := fun o => hos1.alloc o) | (refine step_hash rfl _ rfl _ T rfl (HH.out _ hbw1) ?_) | (refine step_txtL rfl _ _ rfl w0.heap.size w0 _ l0 T rfl (hosa _) _ rfl (one_new _ _) HLN.out ?_; intro g5 cap5 w5 ho5 hg5 hl5) | fail))
      have HF5 := HF.out _ _ _ ho5
      have HFF : Hid (∃ u, Ending.returned (.slice (some ⟨g5, 0, none⟩) (l0.length + 1) cap5) = .returned u ∧ OS w0.heap.size w0 w5 u (sdL x ix L (k + 1))) := HF5
      clear HF5 HF ho5 hg5 hl5 HH hC1
      go_wp2
      go_ret
      exact HFF.out
    · have hq : ix / 2 ^ k = 2 * (ix / 2 ^ (k + 1)) + 1 := by omega
      have ho : TR.oth (ix / 2 ^ k) = 2 * (ix / 2 ^ (k + 1)) := by unfold TR.oth; rw [if_neg (by omega)]; omega
      have hb : ((ix / 2 ^ k % 2 : Nat) : Int) = 1 := by omega
      rw [hb] at hbo
      have hC1 := HC.out b (by rw [hq]; exact hNb)
      have HH : Hid (∀ W, Below w.heap.size w W → HsN W a (trB x k (TR.oth (ix / 2 ^ k)) L)) := fun W hW => by
        rw [ho]
        exact (NT.later hW hNa).hash
      clear hq ho hNa hNb HC hq2 c2 ih hb
      generalize sdL x ix L k = l0 at *
      generalize trB x k (TR.oth (ix / 2 ^ k)) L = T at *
      go_enter Tryd.func58, Tryd.ntmps58
      go_wp2_with fail
      refine hbo.mono ?_
      rintro e w0 ⟨rfl, rfl⟩
      clear hbo
      go_wp2_with fail
      go_region_held3 (fun W => W.cell? ⟨g, 0, none⟩ = some a ∧ W.cell? ⟨g, 1, none⟩ = some b) (first | go_keep | exact ⟨(hos1.2.1.cell (p := ⟨g, 0, none⟩) hg).trans c0, (hos1.2.1.cell (p := ⟨g, 1, none⟩) hg).trans c1⟩ | exact ⟨(ho5.2.1.cell (p := ⟨g, 0, none⟩) hg).trans c0, (ho5.2.1.cell (p := ⟨g, 1, none⟩) hg).trans c1⟩) ((first | (go_at_call 58; refine hC1.mono ?_; rintro e w1 ⟨u1, rfl, hos1⟩; have hbw1 := hos1.2.1; have hosa := fun o => hos1.alloc o) | (refine step_hash rfl _ rfl _ T rfl (HH.out _ hbw1) ?_) | (refine step_txtL rfl _ _ rfl w0.heap.size w0 _ l0 T rfl (hosa _) _ rfl (one_new _ _) HLN.out ?_; intro g5 cap5 w5 ho5 hg5 hl5) | fail))
      have HF5 := HF.out _ _ _ ho5
      have HFF : Hid (∃ u, Ending.returned (.slice (some ⟨g5, 0, none⟩) (l0.length + 1) cap5) = .returned u ∧ OS w0.heap.size w0 w5 u (sdL x ix L (k + 1))) := HF5
      clear HF5 HF ho5 hg5 hl5 HH hC1
      go_wp2
      go_ret
      exact HFF.out

theorem sidesBelow_any (x : Int) (L : List Le) (ix : Nat) (hx : ix ≤ 255) : ∀ k, k ≤ 8 → SbC x L ix k
  | 0, _ => sidesBelow_zero x L ix
  | k + 1, h => sidesBelow_up x L ix k (by omega) hx (sidesBelow_any x L ix hx k (by omega))

end Go.Proofs.YtmhoilliaeefcaaDoor
/-
  What SidesOf answers: the program's.
-/
namespace Go.Proofs.YtmhoilliaeefcaaDoor
open Go.RowKit Go.BigFrame Go.Sort
set_option linter.unusedVariables false
set_option linter.unusedSimpArgs false

theorem OS.upT {B : Nat} {w0 w w' : World} {u : Value} {l : List ByteArray} (hb : Below B w0 w) (hB : B ≤ w.heap.size) (h : OS w.heap.size w w' u l) : OS B w0 w' u l := by
  refine ⟨⟨h.1.1, ?_⟩, hb.trans (h.2.1.mono hB), Nat.le_trans hB h.2.2⟩
  rcases h.1.2 with hn | ⟨g, cap, cur, hv, hbg, rest⟩
  · exact .inl hn
  · exact .inr ⟨g, cap, cur, hv, Nat.le_trans hB hbg, rest⟩

set_option maxRecDepth 100000 in
set_option maxHeartbeats 1000000 in
theorem SidesOf_yes (v : Value) (ga oa : Nat) (L : List Le) (ix l : Nat) (x : Int) (w : World) (hv : RS 2 lcs w v ga oa L) (hsm : SmallL L) (h1 : LV.leavesB L = true) (h2 : ix ≤ 255) (h3 : l ≤ 8) (h4 : 1 ≤ x ∧ x ≤ 32) (hT : Tb w) :
    Calls Tryd.prog 17 #[v, .int .i64 (ix : Int), .int .i64 (l : Int), .int .i64 x] w fun e w' => ∃ u, e = .returned u ∧ OS w.heap.size w w' u (sdL x ix L (8 - l)) := by
  have hc := LeavesOk_any v ga oa L w hv hsm
  rw [h1] at hc
  have hpl : ix / 2 ^ (8 - l) < 2 ^ l := by
    rw [Nat.div_lt_iff_lt_mul (Nat.two_pow_pos _), ← Nat.pow_add, show l + (8 - l) = 8 by omega]
    omega
  have HN : Hid (∀ W, Below w.heap.size w W → Calls Tryd.prog 59 #[v, .int .i64 (l : Int), .int .i64 ((ix : Int) / 2 ^ (8 - l)), .int .i64 x] W fun e w' => ∃ u, e = .returned u ∧ NT x L w' (8 - l) (ix / 2 ^ (8 - l)) u ∧ Below w.heap.size w w') := fun W hW => by
    have hsh : (ix : Int) / 2 ^ (8 - l) = ((ix / 2 ^ (8 - l) : Nat) : Int) := by simp
    rw [hsh]
    have h := nodeAt_any v ga oa L l (ix / 2 ^ (8 - l)) x W (hv.later hW) hsm (LV.leavesB_iff.1 h1) h3 hpl (hT.later hW)
    exact h.mono fun e w' ⟨u, h6, h7, h8⟩ => ⟨u, h6, h7, hW.trans (h8.mono hW.size)⟩
  have HS : Hid (∀ W u, Below w.heap.size w W → NT x L W (8 - l) (ix / 2 ^ (8 - l)) u → Calls Tryd.prog 58 #[u, .int .i64 (ix : Int), .int .i64 (l : Int)] W fun e w' => ∃ r, e = .returned r ∧ OS w.heap.size w w' r (sdL x ix L (8 - l))) := fun W u hW hNT => by
    have h := sidesBelow_any x L ix h2 (8 - l) (by omega) u (l : Int) W (by omega) hNT
    exact h.mono fun e w' ⟨r, h6, h7⟩ => ⟨r, h6, OS.upT hW hW.size h7⟩
  obtain ⟨a, cap, rfl, hl, _⟩ := hv
  have d1 : decide (0 ≤ (l : Int) ∧ (l : Int) ≤ 8) = true := by simp; omega
  have d2 : decide (1 ≤ x ∧ x ≤ 32) = true := by simpa using h4
  have q1 : decide ((ix : Int) < 0) = false := by simp
  have q3 : (0 : Int) ≤ 8 - (l : Int) := by omega
  have q2 : decide ((256 : Int) ≤ (ix : Int)) = false := by simp; omega
  clear hsm h1 hT
  go_enter Tryd.func17, Tryd.ntmps17
  go_wp2_with fail
  refine hc.mono ?_
  rintro e w1 ⟨rfl, hb1⟩
  clear hc
  go_wp2_with fail
  refine (levelOk_any _ _).mono ?_
  rintro e w2 ⟨rfl, rfl⟩
  rw [d1]
  go_wp2_with fail
  refine (widthOk_any _ _).mono ?_
  rintro e w2 ⟨rfl, rfl⟩
  rw [d2]
  go_wp2_with fail
  refine (HN.out _ hb1).mono ?_
  rintro e w3 ⟨u, rfl, hNT, hb3⟩
  have hS := HS.out _ _ hb3 hNT
  clear HN HS hNT
  go_wp2_with fail
  refine hS.mono ?_
  rintro e w4 ⟨r, rfl, ho⟩
  have HF : Hid (∃ u, Ending.returned r = .returned u ∧ OS w.heap.size w w4 u (sdL x ix L (8 - l))) := ⟨_, rfl, ho⟩
  clear hS ho hb3 hb1
  go_wp2
  go_ret
  exact HF.out

theorem SidesOf_any (v : Value) (ga oa : Nat) (L : List Le) (ix l x : Int) (w : World) (hv : RS 2 lcs w v ga oa L) (hsm : SmallL L) (hT : Tb w) :
    Calls Tryd.prog 17 #[v, .int .i64 ix, .int .i64 l, .int .i64 x] w fun e w' => ∃ u, e = .returned u ∧ OS w.heap.size w w' u (sdA L ix l x) := by
  unfold sdA
  have hc := LeavesOk_any v ga oa L w hv hsm
  have HF : Hid (∀ W, Below w.heap.size w W → ∃ u, Ending.returned (.slice (some ⟨W.heap.size, 0, none⟩) 0 0) = .returned u ∧ OS w.heap.size w (W.alloc (.cells #[] 9)) u []) := fun W hW => ⟨_, rfl, OS.upT hW hW.size (OS.made W)⟩
  cases h1 : LV.leavesB L with
  | false =>
    rw [if_neg (fun h => by simp at h)]
    rw [h1] at hc
    obtain ⟨a, cap, rfl, hl, _⟩ := hv
    clear hsm h1 hT
    go_enter Tryd.func17, Tryd.ntmps17
    go_wp2_with fail
    refine hc.mono ?_
    rintro e w1 ⟨rfl, hb1⟩
    clear hc
    go_wp2
    go_ret
    exact HF.out _ hb1
  | true =>
    by_cases h2 : 0 ≤ ix ∧ ix ≤ 255
    · have q1 : decide (ix < 0) = false := by simp; omega
      have q2 : decide (256 ≤ ix) = false := by simp; omega
      by_cases h3 : 0 ≤ l ∧ l ≤ 8
      · by_cases h4 : 1 ≤ x ∧ x ≤ 32
        · rw [if_pos ⟨rfl, h2, h3, h4⟩]
          obtain ⟨i, rfl⟩ := Int.eq_ofNat_of_zero_le h2.1
          obtain ⟨k, rfl⟩ := Int.eq_ofNat_of_zero_le h3.1
          exact SidesOf_yes v ga oa L i k x w hv hsm h1 (by omega) (by omega) h4 hT
        · rw [if_neg (fun h => h4 h.2.2.2)]
          rw [h1] at hc
          obtain ⟨a, cap, rfl, hl, _⟩ := hv
          have d1 : decide (0 ≤ l ∧ l ≤ 8) = true := by simpa using h3
          have d2 : decide (1 ≤ x ∧ x ≤ 32) = false := by simpa using h4
          clear hsm h1 hT
          go_enter Tryd.func17, Tryd.ntmps17
          go_wp2_with fail
          refine hc.mono ?_
          rintro e w1 ⟨rfl, hb1⟩
          clear hc
          go_wp2_with fail
          refine (levelOk_any _ _).mono ?_
          rintro e w2 ⟨rfl, rfl⟩
          rw [d1]
          go_wp2_with fail
          refine (widthOk_any _ _).mono ?_
          rintro e w2 ⟨rfl, rfl⟩
          rw [d2]
          go_wp2
          go_ret
          exact HF.out _ hb1
      · rw [if_neg (fun h => h3 h.2.2.1)]
        rw [h1] at hc
        obtain ⟨a, cap, rfl, hl, _⟩ := hv
        have d1 : decide (0 ≤ l ∧ l ≤ 8) = false := by simpa using h3
        clear hsm h1 hT h3
        go_enter Tryd.func17, Tryd.ntmps17
        go_wp2_with fail
        refine hc.mono ?_
        rintro e w1 ⟨rfl, hb1⟩
        clear hc
        go_wp2_with fail
        refine (levelOk_any _ _).mono ?_
        rintro e w2 ⟨rfl, rfl⟩
        rw [d1]
        go_wp2
        go_ret
        exact HF.out _ hb1
    · rw [if_neg (fun h => h2 h.2.1)]
      rw [h1] at hc
      obtain ⟨a, cap, rfl, hl, _⟩ := hv
      by_cases h0 : ix < 0
      · have q1 : decide (ix < 0) = true := by simpa using h0
        clear hsm h1 hT h2
        go_enter Tryd.func17, Tryd.ntmps17
        go_wp2_with fail
        refine hc.mono ?_
        rintro e w1 ⟨rfl, hb1⟩
        clear hc
        go_wp2
        go_ret
        exact HF.out _ hb1
      · have q1 : decide (ix < 0) = false := by simpa using h0
        have q2 : (256 : Int) ≤ ix := by omega
        clear hsm h1 hT h2
        go_enter Tryd.func17, Tryd.ntmps17
        go_wp2_with fail
        refine hc.mono ?_
        rintro e w1 ⟨rfl, hb1⟩
        clear hc
        go_wp2
        go_ret
        exact HF.out _ hb1

end Go.Proofs.YtmhoilliaeefcaaDoor
/-
  The walk of the law FnExactSidesOf: it answers true of every row of leaves, every index, level and width.
-/
namespace Go.Proofs.YtmhoilliaeefcaaDoor
open Go.RowKit Go.BigFrame Go.Sort
set_option linter.unusedVariables false
set_option linter.unusedSimpArgs false

/-- texts answered, k of them -/
def TdP (k : Nat) (M : List ByteArray) (w : World) (e : Ending) (w' : World) : Prop := ∃ a cap g, e = .returned (.slice a k cap) ∧ TS w' (.slice a k cap) g M ∧ w.heap.size ≤ g ∧ Below w.heap.size w w'
theorem TdP.of {f : FuncId} {args : Array Value} {M : List ByteArray} {k : Nat} {w : World} (h : Calls Tryd.prog f args w fun e w' => ∃ u, e = .returned u ∧ OS w.heap.size w w' u M) (hk : M.length = k) (hl : k ≤ 1100000) : Calls Tryd.prog f args w (TdP k M w) :=
  h.mono fun e w' ⟨u, he, ho⟩ => by
    obtain ⟨gz, hts, hgz⟩ := ho.ts (by omega)
    obtain ⟨az, cz, rfl⟩ := ho.slice
    rw [hk] at he hts
    exact ⟨az, cz, gz, he, hts, hgz, ho.2.1⟩
theorem sdA_len (L : List Le) (ix l x : Int) : (sdA L ix l x).length ≤ 8 := by
  unfold sdA
  split
  · rw [sdL_len]; omega
  · simp
theorem markT_one (v : Value) (g : Nat) (l : List ByteArray) (w : World) (h : TS w v g l) :
    Calls Tryd.prog 44 #[v, .int .i64 1] w fun e w' => e = .returned (.int .i64 (1 + l.length : Nat)) ∧ TS w' v g (marks 1 l.length) ∧ w.grownBy w' (rowOf g l) := markStringS_any v g l 1 1 w rfl h (by omega) (by omega)
theorem heldT_one (v : Value) (g n : Nat) (w : World) (h : TS w v g (marks 1 n)) :
    Calls Tryd.prog 45 #[v, .int .i64 1] w fun e w' => e = .returned (.int .i64 (1 + n : Nat)) ∧ Below w.heap.size w w' := heldStringS_any v g 1 1 n w rfl h (by omega) (by omega)
theorem markS_one (v : Value) (g : Nat) (l : List Le) (w : World) (h : RW 2 lcs w v g l) :
    Calls Tryd.prog 43 #[v, .int .i64 1] w fun e w' => e = .returned (.int .i64 (1 + 2 * l.length : Nat)) ∧ RW 2 lcs w' v g (lmarks 1 l.length) ∧ w.grownBy w' (rowF g l.length) := markLeafS_any v g l 1 1 w rfl h (by omega) (by omega)
theorem rowOf_leT {g B : Nat} {l : List ByteArray} (h : B ≤ g) (q : Nat) (hq : rowOf g l = some q) : B ≤ q := by
  unfold rowOf at hq
  split at hq
  · cases hq
  · have : g = q := by simpa using hq
    omega
/-- two rows of texts compared: below, in plain words -/
theorem eqT_yes (va vb : Value) (ga gb : Nat) (l : List ByteArray) (w : World) (ha : TS w va ga l) (hb : TS w vb gb l) :
    Calls Tryd.prog 42 #[va, vb] w fun e w' => e = .returned (.bool true) ∧ Below w.heap.size w w' :=
  (eqStringS_yes va vb ga 0 gb 0 l w ha.ss hb.ss).mono fun e w' ⟨he, q, hw⟩ => ⟨he, by rw [hw]; exact below_drn (Below.refl _ _) q⟩

set_option maxRecDepth 100000 in
set_option maxHeartbeats 4000000 in
theorem exactSidesOf_any (v : Value) (g o : Nat) (L : List Le) (ix l x : Int) (w : World) (hT : Tb w) (hv : IsRowL w v g o L) :
    Calls Tryd.prog 10 #[v, .int .i64 ix, .int .i64 l, .int .i64 x] w fun e w' => e = .returned (.bool true) ∧ Below w.heap.size w w' := by
  have HSZ := szLeafS_row v g o L 1048576 _ hv (by omega) (by omega)
  have hsv : ∃ a n cap, v = .slice a n cap := by obtain ⟨a, n, cap, h, _⟩ := hv; exact ⟨a, n, cap, h⟩
  obtain ⟨a, n, cap, rfl⟩ := hsv
  clear hv
  go_enter Tryd.func10, Tryd.ntmps10
  go_wp2_with fail
  refine HSZ.mono ?_
  rintro e w1 ⟨A, rfl, hb1, _, hA⟩
  clear HSZ
  by_cases hneg : A < 0
  · clear hA hT
    go_wp2
    go_ret
    exact ⟨rfl, hb1⟩
  · obtain ⟨hrs, hsm, hlen⟩ := hA (by omega)
    clear hA
    obtain ⟨k, hk⟩ : ∃ k, (sdA L ix l x).length = k := ⟨_, rfl⟩
    have hk8 := sdA_len L ix l x
    have HTO : Hid (∀ W, Below w.heap.size w W → Calls Tryd.prog 39 #[.slice a n cap] W fun e w' => ∃ g, e = .returned (.slice (some ⟨g, 0, none⟩) L.length L.length) ∧ RW 2 lcs w' (.slice (some ⟨g, 0, none⟩) L.length L.length) g L ∧ W.heap.size ≤ g ∧ Below W.heap.size W w') := fun W hW => toLeafS_in _ g o L W (hrs.later hW)
    have HCS : Hid (∀ W q, RS 2 lcs W (.slice (some ⟨q, 0, none⟩) L.length L.length) q 0 L → Calls Tryd.prog 41 #[.slice (some ⟨q, 0, none⟩) L.length L.length, .int .i64 ix, .int .i64 l, .int .i64 x] W (TdP k (sdA L ix l x) W)) := fun W q h => TdP.of (sSidesOf_any _ q 0 L ix l x W h hsm) hk (by omega)
    have HCI : Hid (∀ W q, Below w.heap.size w W → RS 2 lcs W (.slice (some ⟨q, 0, none⟩) L.length L.length) q 0 L → Calls Tryd.prog 17 #[.slice (some ⟨q, 0, none⟩) L.length L.length, .int .i64 ix, .int .i64 l, .int .i64 x] W (TdP k (sdA L ix l x) W)) := fun W q hW h => TdP.of (SidesOf_any _ q 0 L ix l x W h hsm (hT.later hW)) hk (by omega)
    have HK : Hid ((sdA L ix l x).length = k) := hk
    unfold TdP at HCS HCI
    generalize sdA L ix l x = M at *
    clear hrs hsm hT hk
    go_wp2_with fail
    refine (HTO.out _ hb1).mono ?_
    rintro e w2 ⟨g2, rfl, hr2, _, hb2⟩
    have b2 := hb1.trans (hb2.mono hb1.size)
    go_wp2_with fail
    refine (HCS.out _ g2 hr2.1).mono ?_
    rintro e w3 ⟨a3, c3, g3, rfl, hr3, hg3, hb3⟩
    have HW3 : Hid (TS w3 (.slice a3 k c3) g3 M ∧ Below w.heap.size w w3) := ⟨hr3, b2.trans (hb3.mono b2.size)⟩
    clear hr2 hb2 b2 hr3 hg3 hb3 hb1 HCS
    go_wp2_with fail
    refine (HTO.out _ HW3.out.2).mono ?_
    rintro e w4 ⟨g4, rfl, hr4, hg4, hb4⟩
    have b4 := HW3.out.2.trans (hb4.mono HW3.out.2.size)
    have HW4 : Hid (TS w4 (.slice a3 k c3) g3 M ∧ RW 2 lcs w4 (.slice (some ⟨g4, 0, none⟩) L.length L.length) g4 L ∧ Below w.heap.size w w4 ∧ (0 < k → g3 < g4) ∧ w.heap.size ≤ g4) := ⟨HW3.out.1.later hb4, hr4, b4, fun hp => by have := HW3.out.1.lt (by rw [HK.out]; exact hp); omega, by have := HW3.out.2.size; omega⟩
    clear hr4 hg4 hb4 b4 HW3
    go_wp2_with fail
    refine (HCI.out _ g4 HW4.out.2.2.1 HW4.out.2.1.1).mono ?_
    rintro e w5 ⟨a5, c5, g5, rfl, hr5, hg5, hb5⟩
    have HW5 : Hid (TS w5 (.slice a3 k c3) g3 M ∧ RW 2 lcs w5 (.slice (some ⟨g4, 0, none⟩) L.length L.length) g4 L ∧ TS w5 (.slice a5 k c5) g5 M ∧ Below w.heap.size w w5 ∧ (0 < k → g3 < g4) ∧ (0 < L.length → g4 < g5) ∧ (0 < k → g3 < g5) ∧ w.heap.size ≤ g4 ∧ w.heap.size ≤ g5) :=
      ⟨HW4.out.1.later hb5, HW4.out.2.1.later hb5, hr5, HW4.out.2.2.1.trans (hb5.mono HW4.out.2.2.1.size), HW4.out.2.2.2.1, fun hp => by have := HW4.out.2.1.lt hp; omega, fun hp => by have := HW4.out.1.lt (by rw [HK.out]; exact hp); omega, HW4.out.2.2.2.2, by have := HW4.out.2.2.1.size; omega⟩
    clear hr5 hg5 hb5 HW4
    go_wp2_with fail
    refine (eqT_yes _ _ g5 g3 M _ HW5.out.2.2.1 HW5.out.1).mono ?_
    rintro e w6 ⟨rfl, hb6⟩
    have HW6 : Hid (TS w6 (.slice a3 k c3) g3 M ∧ RW 2 lcs w6 (.slice (some ⟨g4, 0, none⟩) L.length L.length) g4 L ∧ TS w6 (.slice a5 k c5) g5 M ∧ Below w.heap.size w w6 ∧ (0 < k → g3 < g4) ∧ (0 < L.length → g4 < g5) ∧ (0 < k → g3 < g5) ∧ w.heap.size ≤ g4 ∧ w.heap.size ≤ g5) := by
      obtain ⟨h1, h2, h3, h4, h5⟩ := HW5.out
      exact ⟨h1.later hb6, h2.later hb6, h3.later hb6, h4.trans (hb6.mono h4.size), h5⟩
    clear hb6 HW5
    go_wp2_with fail
    refine (HTO.out _ HW6.out.2.2.2.1).mono ?_
    rintro e w7 ⟨g7, rfl, hr7, hg7, hb7⟩
    have HW7 : Hid (TS w7 (.slice a3 k c3) g3 M ∧ RW 2 lcs w7 (.slice (some ⟨g4, 0, none⟩) L.length L.length) g4 L ∧ TS w7 (.slice a5 k c5) g5 M ∧ Below w.heap.size w w7 ∧ (0 < k → g3 < g4) ∧ (0 < L.length → g4 < g5) ∧ (0 < k → g3 < g5) ∧ w.heap.size ≤ g4 ∧ w.heap.size ≤ g5) := by
      obtain ⟨h1, h2, h3, h4, h5⟩ := HW6.out
      exact ⟨h1.later hb7, h2.later hb7, h3.later hb7, h4.trans (hb7.mono h4.size), h5⟩
    clear hb7 HW6 hg7
    go_wp2_with fail
    refine (eqLeafS_yes _ _ g4 0 g7 0 L _ HW7.out.2.1.1 hr7.1).mono ?_
    rintro e w8 ⟨rfl, hb8⟩
    have HW8 : Hid (TS w8 (.slice a3 k c3) g3 M ∧ RW 2 lcs w8 (.slice (some ⟨g4, 0, none⟩) L.length L.length) g4 L ∧ TS w8 (.slice a5 k c5) g5 M ∧ Below w.heap.size w w8 ∧ (0 < k → g3 < g4) ∧ (0 < L.length → g4 < g5) ∧ (0 < k → g3 < g5) ∧ w.heap.size ≤ g4 ∧ w.heap.size ≤ g5) := by
      obtain ⟨h1, h2, h3, h4, h5⟩ := HW7.out
      exact ⟨h1.later hb8, h2.later hb8, h3.later hb8, h4.trans (hb8.mono h4.size), h5⟩
    clear hb8 HW7 hr7
    have hm8 := markS_one _ g4 L w8 HW8.out.2.1
    obtain ⟨A8, hA8⟩ : ∃ A8 : Int, ((1 + 2 * L.length : Nat) : Int) = A8 := ⟨_, rfl⟩
    have hA80 : ¬ A8 < 0 := by omega
    rw [hA8] at hm8
    clear hA8
    go_wp2_with fail
    refine hm8.mono ?_
    rintro e w9 ⟨rfl, hr9, hg9⟩
    have HW9 : Hid (TS w9 (.slice a3 k c3) g3 M ∧ TS w9 (.slice a5 k c5) g5 M ∧ Below w.heap.size w w9 ∧ (0 < k → g3 < g5) ∧ w.heap.size ≤ g5) := by
      obtain ⟨h1, h2, h3, h4, h5, h6, h7, h8, h10⟩ := HW8.out
      exact ⟨h1.keptG hg9 (fun hp => rowF_ne fun _ => by have := h5 (by rw [← HK.out]; exact hp); omega), h3.keptG hg9 (fun _ => rowF_ne fun hp => by have := h6 hp; omega), h4.grown hg9 h4.size (rowF_le h8), h7, h10⟩
    clear hm8 hr9 hg9 HW8
    go_wp2_with fail
    refine (eqT_yes _ _ g5 g3 M _ HW9.out.2.1 HW9.out.1).mono ?_
    rintro e w10 ⟨rfl, hb10⟩
    have HW10 : Hid (TS w10 (.slice a3 k c3) g3 M ∧ TS w10 (.slice a5 k c5) g5 M ∧ Below w.heap.size w w10 ∧ (0 < k → g3 < g5) ∧ w.heap.size ≤ g5) := by
      obtain ⟨h1, h3, h4, h5⟩ := HW9.out
      exact ⟨h1.later hb10, h3.later hb10, h4.trans (hb10.mono h4.size), h5⟩
    clear hb10 HW9
    have hm10 := markT_one _ g5 M w10 HW10.out.2.1
    rw [HK.out] at hm10
    obtain ⟨A9, hA9⟩ : ∃ A9 : Int, ((1 + k : Nat) : Int) = A9 := ⟨_, rfl⟩
    have hA90 : ¬ A9 < 0 := by omega
    rw [hA9] at hm10
    have HHD : Hid (∀ W, TS W (.slice a5 k c5) g5 (marks 1 k) → Calls Tryd.prog 45 #[.slice a5 k c5, .int .i64 1] W fun e w' => e = .returned (.int .i64 A9) ∧ Below W.heap.size W w') := fun W h => by rw [← hA9]; exact heldT_one _ g5 k W h
    clear hA9
    go_wp2_with fail
    refine hm10.mono ?_
    rintro e w11 ⟨rfl, hr11, hg11⟩
    have HW11 : Hid (TS w11 (.slice a3 k c3) g3 M ∧ TS w11 (.slice a5 k c5) g5 (marks 1 k) ∧ Below w.heap.size w w11) := by
      obtain ⟨h1, h3, h4, h5, h6⟩ := HW10.out
      exact ⟨h1.keptG hg11 (fun _ => rowOf_ne fun hp => by have := h5 (by rw [← HK.out]; exact hp); omega), hr11, h4.grown hg11 h4.size (rowOf_leT h6)⟩
    clear hm10 hr11 hg11 HW10
    go_wp2_with fail
    refine (HHD.out _ HW11.out.2.1).mono ?_
    rintro e w12 ⟨rfl, hb12⟩
    have HW12 : Hid (TS w12 (.slice a3 k c3) g3 M ∧ TS w12 (.slice a5 k c5) g5 (marks 1 k) ∧ Below w.heap.size w w12) := by
      obtain ⟨h1, h3, h4⟩ := HW11.out
      exact ⟨h1.later hb12, h3.later hb12, h4.trans (hb12.mono h4.size)⟩
    clear hb12 HW11
    go_wp2_with fail
    refine (HTO.out _ HW12.out.2.2).mono ?_
    rintro e w13 ⟨g13, rfl, hr13, hg13, hb13⟩
    have HW13 : Hid (TS w13 (.slice a3 k c3) g3 M ∧ TS w13 (.slice a5 k c5) g5 (marks 1 k) ∧ Below w.heap.size w w13) := by
      obtain ⟨h1, h3, h4⟩ := HW12.out
      exact ⟨h1.later hb13, h3.later hb13, h4.trans (hb13.mono h4.size)⟩
    clear hb13 HW12 hg13 HTO
    go_wp2_with fail
    refine (HCI.out _ g13 HW13.out.2.2 hr13.1).mono ?_
    rintro e w14 ⟨a14, c14, g14, rfl, hr14, hg14, hb14⟩
    have HW14 : Hid (TS w14 (.slice a3 k c3) g3 M ∧ TS w14 (.slice a5 k c5) g5 (marks 1 k) ∧ Below w.heap.size w w14 ∧ TS w14 (.slice a14 k c14) g14 M) := by
      obtain ⟨h1, h3, h4⟩ := HW13.out
      exact ⟨h1.later hb14, h3.later hb14, h4.trans (hb14.mono h4.size), hr14⟩
    clear hb14 HW13 hr13 hr14 hg14 HCI
    go_wp2_with fail
    refine (eqT_yes _ _ g14 g3 M _ HW14.out.2.2.2 HW14.out.1).mono ?_
    rintro e w15 ⟨rfl, hb15⟩
    have HW15 : Hid (TS w15 (.slice a5 k c5) g5 (marks 1 k) ∧ Below w.heap.size w w15) := ⟨HW14.out.2.1.later hb15, HW14.out.2.2.1.trans (hb15.mono HW14.out.2.2.1.size)⟩
    clear hb15 HW14
    go_wp2_with fail
    refine (HHD.out _ HW15.out.1).mono ?_
    rintro e w16 ⟨rfl, hb16⟩
    have b16 := HW15.out.2.trans (hb16.mono HW15.out.2.size)
    clear hb16 HW15 HHD
    go_wp2
    go_ret
    exact ⟨rfl, b16⟩

end Go.Proofs.YtmhoilliaeefcaaDoor
/-
  Plain facts of roots: a bucket's hash folds up to the root; how wide hashes are.
-/
namespace Go.Proofs.YtmhoilliaeefcaaDoor
open Go.RowKit
set_option linter.unusedVariables false
set_option linter.unusedSimpArgs false

namespace TR
variable {β : Type} {hN : β → β → β}
theorem fold_congr {b b' : Nat → Bool} : ∀ (s : List β) (i : Nat) (h : β), (∀ j, i ≤ j → j < i + s.length → b j = b' j) → fold hN b i h s = fold hN b' i h s
  | [], i, h, _ => rfl
  | a :: t, i, h, hb => by
    have e := hb i (Nat.le_refl _) (by simp)
    show fold hN b (i + 1) (if b i then hN a h else hN h a) t = fold hN b' (i + 1) (if b' i then hN a h else hN h a) t
    rw [e]
    exact fold_congr t (i + 1) _ (fun j h1 h2 => hb j (by omega) (by simp; omega))
end TR

theorem bkL_und (L : List Le) (ix : Nat) : bkL L (ix : Int) = TR.und idxL 0 ix L := by
  unfold bkL TR.und
  refine List.filter_congr fun f _ => ?_
  unfold bkP idxL
  rw [Nat.pow_zero, Nat.div_one]
  by_cases h : idxN f.n = ix
  · rw [decide_eq_true h, decide_eq_true (by omega)]
  · rw [decide_eq_false h, decide_eq_false (by omega)]
/-- **a bucket's hash folds up to the root** -/
theorem fold_root (x : Int) (ix : Nat) (hx : ix ≤ 255) (L : List Le) : fuF x (ix : Int) 8 (trB x 0 ix L) (sdL x ix L 8) = trB x 8 0 L := by
  unfold fuF trB
  rw [TR.fold_congr (b' := fun i => decide (ix / 2 ^ i % 2 = 1)) (sdL x ix L 8) 0 _ (fun j _ hj => ?_)]
  · have h := TR.fold_up (idx := idxL) (hN := hnB x) (hB := bhB x) (fun i => decide (ix / 2 ^ i % 2 = 1)) ix (fun i => rfl) L 8 0
    rw [Nat.pow_zero, Nat.div_one, Nat.zero_add, Nat.div_eq_of_lt (show ix < 2 ^ 8 by omega)] at h
    exact h
  · rw [sdL_len] at hj
    unfold fbB
    rw [show 8 - 1 - j = 7 - j by omega, bit_of ix j (by omega) hx]
    have h2 : ix / 2 ^ j % 2 < 2 := Nat.mod_lt _ (by omega)
    generalize ix / 2 ^ j % 2 = q at *
    have : q = 0 ∨ q = 1 := by omega
    rcases this with rfl | rfl <;> rfl
theorem cutH_size {t : ByteArray} {x : Int} (h : 1 ≤ x ∧ x ≤ 32) : (cutH t x).size = x.toNat := by
  unfold cutH
  rw [if_pos h]
  unfold cutB
  have := digB_size t
  rw [ByteArray.size_extract]
  omega
theorem hash3_size {a b : ByteArray} {x : Int} (h : 1 ≤ x ∧ x ≤ 32) (ha : a.size ≤ 200) (hb : b.size ≤ 200) : (hashB 3 [a, b] x).size = x.toNat := by
  have ht : tagOk 3 [a, b] = true := by
    unfold tagOk
    simp [ha, hb]
  unfold hashB
  rw [if_pos ht]
  exact cutH_size h
theorem trB_size {x : Int} {L : List Le} (h : 1 ≤ x ∧ x ≤ 32) (hL : LV.LOk L) : ∀ k p, (trB x k p L).size = x.toNat
  | 0, p => by
    show (bhB x (TR.und idxL 0 p L)).size = x.toNat
    rw [bhB_yes (leaves_und hL 0 p)]
    exact cutH_size h
  | k + 1, p => by
    show (hashB 3 [trB x k (2 * p) L, trB x k (2 * p + 1) L] x).size = x.toNat
    exact hash3_size h (by rw [trB_size h hL k]; omega) (by rw [trB_size h hL k]; omega)
theorem nh_root {L : List Le} {x : Int} (h : 1 ≤ x ∧ x ≤ 32) (hL : LV.LOk L) : nhB L 0 0 x = trB x 8 0 L := by
  unfold nhB
  rw [if_pos ⟨LV.leavesB_iff.2 hL, by omega, by decide, h⟩]
  rfl
theorem nh_leaf {L : List Le} {x : Int} (h : 1 ≤ x ∧ x ≤ 32) (hL : LV.LOk L) (ix : Nat) (hx : ix ≤ 255) : nhB L 8 (ix : Int) x = trB x 0 ix L := by
  unfold nhB
  have e : (2 : Int) ^ (8 : Int).toNat = 256 := by decide
  rw [if_pos ⟨LV.leavesB_iff.2 hL, by omega, by rw [e]; omega, h⟩]
  rfl
theorem sd_all {L : List Le} {x : Int} (h : 1 ≤ x ∧ x ≤ 32) (hL : LV.LOk L) (ix : Nat) (hx : ix ≤ 255) : sdA L (ix : Int) 0 x = sdL x ix L 8 := by
  unfold sdA
  rw [if_pos ⟨LV.leavesB_iff.2 hL, by omega, by omega, h⟩]
  rfl
theorem fu_root {L : List Le} {x : Int} (ix : Nat) (hx : ix ≤ 255) : fuB (trB x 0 ix L) (ix : Int) 8 (sdL x ix L 8) x = trB x 8 0 L := by
  unfold fuB
  rw [if_pos ⟨by omega, by rw [sdL_len]; omega⟩]
  exact fold_root x ix hx L

end Go.Proofs.YtmhoilliaeefcaaDoor
/-
  The walk of the law FnRoots: it answers true of every code.
-/
namespace Go.Proofs.YtmhoilliaeefcaaDoor
open Go.RowKit Go.BigFrame Go.Sort
set_option linter.unusedVariables false
set_option linter.unusedSimpArgs false

theorem code_laterR {w w' : World} {v : Value} (h : Code w.heap.size w v) (hb : Below w.heap.size w w') : Code w'.heap.size w' v := by
  obtain ⟨ao, b, off, len, cap, rfl, hl, h1, h2⟩ := h
  refine ⟨ao, b, off, len, cap, rfl, hl, fun h0 => ⟨(h1 h0).1, Nat.lt_of_lt_of_le (h1 h0).2 hb.size⟩, fun j hj => ?_⟩
  obtain ⟨n, hn, hc⟩ := h2 j hj
  exact ⟨n, hn, (hb.cell (p := ⟨b, off + j, none⟩) (h1 (by omega)).2).trans hc⟩
theorem small_okR {L : List Le} (h : LV.LOk L) : SmallL L := fun f hf => by have := leB_size (h.2.1 f hf); omega

set_option maxRecDepth 100000 in
set_option maxHeartbeats 4000000 in
theorem rootsLaw_any (a0 : Option Addr) (len0 cap0 : Nat) (w : World) (hl0 : len0 ≤ 1048576) (hc : Code w.heap.size w (.slice a0 len0 cap0)) (hK : TabK w) (hF : TabF w) :
    Calls Tryd.prog 3 #[.slice a0 len0 cap0] w fun e w' => e = .returned (.bool true) ∧ Below w.heap.size w w' := by
  have HC : Hid (∀ W, Below w.heap.size w W → Code W.heap.size W (.slice a0 len0 cap0)) := fun W hW => code_laterR hc hW
  have HT : Hid (∀ W, Below w.heap.size w W → Tb W) := fun W hW => Tb.later ⟨hK, hF⟩ hW
  clear hc hK hF
  go_enter Tryd.func3, Tryd.ntmps3
  go_wp2_with fail
  refine (big_no a0 len0 cap0 _ hl0).mono ?_
  rintro e w0 ⟨rfl, rfl⟩
  go_wp2_with fail
  refine (DrawLeaves_any _ _ (HC.out _ (Below.refl _ _))).mono ?_
  rintro e w1 ⟨a1, c1, g1, L, rfl, ⟨hl8, hLk, _⟩, hr1, hg1, hb1⟩
  go_wp2_with fail
  refine (DrawName_any _ _ (HC.out _ hb1)).mono ?_
  rintro e w2 ⟨nm, ⟨hx, hx12⟩, rfl, hb2⟩
  have b2 := hb1.trans (hb2.mono hb1.size)
  go_wp2_with fail
  refine (DrawPlaces_any _ _ (HC.out _ b2)).mono ?_
  rintro e w3 ⟨pv, rfl, ⟨pg, pc, xs, rfl, hx12', hxs, hpg, hpl, hcells⟩, hb3⟩
  have b3 := b2.trans (hb3.mono b2.size)
  have z0 := hcells 0 (by omega)
  have hp0 := hxs (xs[0]'(by omega)) (List.getElem_mem _)
  generalize xs[0]'(by omega) = p0 at *
  clear hcells hxs hx12'
  have em : (p0 : Int).tmod 32 = ((p0 % 32 : Nat) : Int) := by rw [Int.tmod_eq_emod_of_nonneg (by omega)]; omega
  have hm32 : p0 % 32 < 32 := Nat.mod_lt _ (by omega)
  obtain ⟨q, hq⟩ : ∃ q, p0 % 32 = q := ⟨_, rfl⟩
  rw [hq] at em hm32
  have HR3 : Hid (RW 2 lcs w3 (.slice a1 L.length c1) g1 L ∧ Below w0.heap.size w0 w3 ∧ LV.LOk L ∧ L.length ≤ 8) := ⟨(hr1.later hb2).later hb3, b3, hLk, hl8⟩
  clear hr1 hb1 hb2 hb3 b2 b3 hLk hq hg1 hpg hpl
  have hix := sIndexOf_any nm w3 (by omega)
  obtain ⟨N, hN⟩ : ∃ N, (byte0 (digB nm)).toNat = N := ⟨_, rfl⟩
  have hN256 : N ≤ 255 := by have := UInt8.toNat_lt (byte0 (digB nm)); omega
  rw [hN] at hix
  have h32 : 1 ≤ (1 + (q : Int)) ∧ (1 + (q : Int)) ≤ 32 := by omega
  have HSD : Hid (∀ W, Below w0.heap.size w0 W → RS 2 lcs W (.slice a1 L.length c1) g1 0 L → Calls Tryd.prog 17 #[.slice a1 L.length c1, .int .i64 (N : Int), .int .i64 0, .int .i64 (1 + (q : Int))] W (TdP 8 (sdL (1 + (q : Int)) N L 8) W)) := fun W hW hr => by
    have h := SidesOf_any _ g1 0 L (N : Int) 0 (1 + (q : Int)) W hr (small_okR HR3.out.2.2.1) (HT.out _ hW)
    rw [sd_all h32 HR3.out.2.2.1 N hN256] at h
    exact TdP.of h (sdL_len _ _ _ _) (by omega)
  have HBO : Hid (∀ W, RS 2 lcs W (.slice a1 L.length c1) g1 0 L → Calls Tryd.prog 19 #[.slice a1 L.length c1, .int .i64 (N : Int)] W fun e w' => ∃ a c g, e = .returned (.slice a (TR.und idxL 0 N L).length c) ∧ RS 2 lcs w' (.slice a (TR.und idxL 0 N L).length c) g 0 (TR.und idxL 0 N L) ∧ Below W.heap.size W w') := fun W hr => (sBucketOf_any _ g1 0 L (N : Int) W hr (small_okR HR3.out.2.2.1)).mono fun e w' ⟨u, he, ho⟩ => by
    rw [bkL_und] at ho
    obtain ⟨g, hrw, _, _⟩ := ho.rw (Nat.le_trans (und_len 0 N L) (by have := HR3.out.2.2.2; omega))
    obtain ⟨a, c, rfl⟩ := ho.shape
    exact ⟨a, c, g, he, hrw.1, ho.2.1⟩
  have HBH : Hid (∀ W a c g, Below w0.heap.size w0 W → RS 2 lcs W (.slice a (TR.und idxL 0 N L).length c) g 0 (TR.und idxL 0 N L) → Calls Tryd.prog 18 #[.slice a (TR.und idxL 0 N L).length c, .int .i64 (1 + (q : Int))] W fun e w' => e = .returned (.string (trB (1 + (q : Int)) 0 N L)) ∧ Below W.heap.size W w') := fun W a c g hW hr => BucketHash_any _ g 0 _ (1 + (q : Int)) W hr (und_small (small_okR HR3.out.2.2.1)) (HT.out _ hW)
  have HRO : Hid (∀ W, Below w0.heap.size w0 W → RS 2 lcs W (.slice a1 L.length c1) g1 0 L → Calls Tryd.prog 20 #[.slice a1 L.length c1, .int .i64 (1 + (q : Int))] W fun e w' => e = .returned (.string (trB (1 + (q : Int)) 8 0 L)) ∧ Below W.heap.size W w') := fun W hW hr => by
    have h := RootOf_any _ g1 0 L (1 + (q : Int)) W hr (small_okR HR3.out.2.2.1) (HT.out _ hW)
    rw [nh_root h32 HR3.out.2.2.1] at h
    exact h
  have HSR : Hid (∀ W, RS 2 lcs W (.slice a1 L.length c1) g1 0 L → Calls Tryd.prog 22 #[.slice a1 L.length c1, .int .i64 (1 + (q : Int))] W fun e w' => e = .returned (.string (trB (1 + (q : Int)) 8 0 L)) ∧ Below W.heap.size W w') := fun W hr => by
    have h := sRootOf_any _ g1 0 L (1 + (q : Int)) W hr (small_okR HR3.out.2.2.1)
    rw [nh_root h32 HR3.out.2.2.1] at h
    exact h
  have HNH : Hid (∀ W, Below w0.heap.size w0 W → RS 2 lcs W (.slice a1 L.length c1) g1 0 L → Calls Tryd.prog 23 #[.slice a1 L.length c1, .int .i64 8, .int .i64 (N : Int), .int .i64 (1 + (q : Int))] W fun e w' => e = .returned (.string (trB (1 + (q : Int)) 0 N L)) ∧ Below W.heap.size W w') := fun W hW hr => by
    have h := NodeHash_any _ g1 0 L 8 (N : Int) (1 + (q : Int)) W hr (small_okR HR3.out.2.2.1) (HT.out _ hW)
    rw [nh_leaf h32 HR3.out.2.2.1 N hN256] at h
    exact h
  have hz0 : (trB (1 + (q : Int)) 0 N L).size = q + 1 := by rw [trB_size h32 HR3.out.2.2.1]; omega
  have hz8 : (trB (1 + (q : Int)) 8 0 L).size = q + 1 := by rw [trB_size h32 HR3.out.2.2.1]; omega
  have HFU : Hid (∀ W a c g, Below w0.heap.size w0 W → TS W (.slice a 8 c) g (sdL (1 + (q : Int)) N L 8) → Calls Tryd.prog 21 #[.string (trB (1 + (q : Int)) 0 N L), .int .i64 (N : Int), .int .i64 8, .slice a 8 c, .int .i64 (1 + (q : Int))] W fun e w' => e = .returned (.string (trB (1 + (q : Int)) 8 0 L)) ∧ Below W.heap.size W w') := fun W a c g hW ht => by
    have h := FoldUp_any (trB (1 + (q : Int)) 0 N L) (N : Int) 8 _ g 0 _ (1 + (q : Int)) W ht.ss (by omega) (HT.out _ hW)
    rw [fu_root N hN256] at h
    exact h
  unfold TdP at HSD
  have HR : Hid (RS 2 lcs w3 (.slice a1 L.length c1) g1 0 L ∧ Below w0.heap.size w0 w3) := ⟨HR3.out.1.1, HR3.out.2.1⟩
  have HZ : Hid ((trB (1 + (q : Int)) 8 0 L).size = q + 1) := hz8
  clear hN HR3 h32 hz0 hz8 HT HC hx hl8
  generalize trB (1 + (q : Int)) 8 0 L = R8 at *
  generalize trB (1 + (q : Int)) 0 N L = R0 at *
  generalize sdL (1 + (q : Int)) N L 8 = SD at *
  generalize TR.und idxL 0 N L = U at *
  go_wp2_with fail
  refine hix.mono ?_
  rintro e w4 ⟨rfl, hb4⟩
  have H4 : Hid (RS 2 lcs w4 (.slice a1 L.length c1) g1 0 L ∧ Below w0.heap.size w0 w4) := ⟨HR.out.1.later hb4, HR.out.2.trans (hb4.mono HR.out.2.size)⟩
  clear hix hb4 HR z0 em hp0
  go_wp2_with fail
  refine (HSD.out _ H4.out.2 H4.out.1).mono ?_
  rintro e w5 ⟨a5, c5, g5, rfl, ht5, _, hb5⟩
  have H5 : Hid (RS 2 lcs w5 (.slice a1 L.length c1) g1 0 L ∧ Below w0.heap.size w0 w5 ∧ TS w5 (.slice a5 8 c5) g5 SD) := ⟨H4.out.1.later hb5, H4.out.2.trans (hb5.mono H4.out.2.size), ht5⟩
  clear H4 hb5 ht5 HSD
  go_wp2_with fail
  refine (HBO.out _ H5.out.1).mono ?_
  rintro e w6 ⟨a6, c6, g6, rfl, hr6, hb6⟩
  have b6 := H5.out.2.1.trans (hb6.mono H5.out.2.1.size)
  have H6 : Hid (RS 2 lcs w6 (.slice a1 L.length c1) g1 0 L ∧ Below w0.heap.size w0 w6 ∧ TS w6 (.slice a5 8 c5) g5 SD) := ⟨H5.out.1.later hb6, b6, H5.out.2.2.later hb6⟩
  clear H5 hb6 HBO
  go_wp2_with fail
  refine (HBH.out _ _ _ g6 b6 hr6).mono ?_
  rintro e w7 ⟨rfl, hb7⟩
  have H7 : Hid (RS 2 lcs w7 (.slice a1 L.length c1) g1 0 L ∧ Below w0.heap.size w0 w7 ∧ TS w7 (.slice a5 8 c5) g5 SD) := ⟨H6.out.1.later hb7, H6.out.2.1.trans (hb7.mono H6.out.2.1.size), H6.out.2.2.later hb7⟩
  clear H6 hb7 HBH hr6 b6
  go_wp2_with fail
  refine (HRO.out _ H7.out.2.1 H7.out.1).mono ?_
  rintro e w8 ⟨rfl, hb8⟩
  have H8 : Hid (RS 2 lcs w8 (.slice a1 L.length c1) g1 0 L ∧ Below w0.heap.size w0 w8 ∧ TS w8 (.slice a5 8 c5) g5 SD) := ⟨H7.out.1.later hb8, H7.out.2.1.trans (hb8.mono H7.out.2.1.size), H7.out.2.2.later hb8⟩
  clear H7 hb8 HRO
  go_wp2_with fail
  refine (HFU.out _ _ _ g5 H8.out.2.1 H8.out.2.2).mono ?_
  rintro e w9 ⟨rfl, hb9⟩
  have H9 : Hid (RS 2 lcs w9 (.slice a1 L.length c1) g1 0 L ∧ Below w0.heap.size w0 w9) := ⟨H8.out.1.later hb9, H8.out.2.1.trans (hb9.mono H8.out.2.1.size)⟩
  have hzq : ((R8.size : Int) == 1 + (q : Int)) = true := by have := HZ.out; simp; omega
  clear H8 hb9 HFU
  go_wp2_with fail
  refine (HSR.out _ H9.out.1).mono ?_
  rintro e w10 ⟨rfl, hb10⟩
  have H10 : Hid (RS 2 lcs w10 (.slice a1 L.length c1) g1 0 L ∧ Below w0.heap.size w0 w10) := ⟨H9.out.1.later hb10, H9.out.2.trans (hb10.mono H9.out.2.size)⟩
  clear H9 hb10 HSR
  go_wp2_with fail
  refine (HNH.out _ H10.out.2 H10.out.1).mono ?_
  rintro e w11 ⟨rfl, hb11⟩
  have b11 := H10.out.2.trans (hb11.mono H10.out.2.size)
  clear H10 hb11 HNH
  go_wp2
  go_ret
  exact ⟨rfl, b11⟩

end Go.Proofs.YtmhoilliaeefcaaDoor
