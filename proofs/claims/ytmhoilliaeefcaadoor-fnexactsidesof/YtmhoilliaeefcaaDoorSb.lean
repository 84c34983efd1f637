/-
  The sides that the program finds on the way down.
-/
import Derived.Test.YtmhoilliaeefcaaDoorIh
import Derived.Test.YtmhoilliaeefcaaDoorFu
namespace Go.Proofs.YtmhoilliaeefcaaDoor
open Go.RowKit Go.BigFrame Go.Sort
set_option linter.unusedVariables false
set_option linter.unusedSimpArgs false

theorem one_new (w : World) (t : ByteArray) : (w.alloc (.cells #[.string t] 9)).cell? ⟨w.heap.size, 0, none⟩ = some (.string t) := by
  rw [World.cell?_alloc_at _ _ _ _ rfl]; rfl
theorem asFF (v : Value) (w : World) : (Instr.typeAssert (.iface 115 v) 75 115 true).run Tryd.prog w = .ok (.tuple #[v, .bool true]) w := by kernel_rfl
theorem asEF (v : Value) (w : World) : (Instr.typeAssert (.iface 88 v) 75 115 true).run Tryd.prog w = .ok (.tuple #[.pointer none, .bool false]) w := by kernel_rfl
theorem asEE (v : Value) (w : World) : (Instr.typeAssert (.iface 88 v) 75 88 true).run Tryd.prog w = .ok (.tuple #[v, .bool true]) w := by kernel_rfl
theorem asKF (v : Value) (w : World) : (Instr.typeAssert (.iface 131 v) 75 115 true).run Tryd.prog w = .ok (.tuple #[.pointer none, .bool false]) w := by kernel_rfl
theorem asKE (v : Value) (w : World) : (Instr.typeAssert (.iface 131 v) 75 88 true).run Tryd.prog w = .ok (.tuple #[.pointer none, .bool false]) w := by kernel_rfl

section
variable {w : World} {ops : Array Oper} {o : Oper} {a : Act} {K : Act → World → Prop} {Q : Exit → Act → World → Prop}
/-- hash of a node, as one step of a region that draws its order -/
theorem step_hash {E : Prop} (hgd : o.guard = none) (r : Operand) (ho : o.op = .call { callee := .invoke r "loop.example/g00284/impl.hash", args := #[], argTypes := #[] })
    (v : Value) (t : ByteArray) (hv : a.eval r = v) (hN : HsN w v t) (hk : K (a.put o.dst (.string t)) w) : if Region.wanted o (yielded ops a.tmps) = true then Oper.wp Tryd.prog o a w K Q else E := by
  have hw : Region.wanted o (yielded ops a.tmps) = true := by simp [Region.wanted, hgd]
  rw [if_pos hw]
  exact oper_hash r ho v t hv hN hk
end

theorem and_b (q : Nat) (h : q ≤ 255) : bits BinOp.and IntKind.i64 (q : Int) 1 = ((q % 2 : Nat) : Int) := by
  have : ∀ q : Fin 256, bits BinOp.and IntKind.i64 ((q.val : Nat) : Int) 1 = ((q.val % 2 : Nat) : Int) := by decide +kernel
  exact this ⟨q, by omega⟩
theorem bit_of (ix k : Nat) (hk : k ≤ 7) (hx : ix ≤ 255) : bitI (ix : Int) (7 - k) = ((ix / 2 ^ k % 2 : Nat) : Int) := by
  unfold bitI
  have e1 : 7 - (7 - k) = k := by omega
  have e2 : (ix : Int) / 2 ^ k = ((ix / 2 ^ k : Nat) : Int) := by simp
  rw [e1, e2]
  exact and_b _ (Nat.le_trans (Nat.div_le_self _ _) hx)
theorem oth_half (q : Nat) : TR.oth q / 2 = q / 2 := by unfold TR.oth; split <;> omega

/-- what sidesBelow answers at this height -/
def SbC (x : Int) (L : List Le) (ix k : Nat) : Prop := ∀ (v : Value) (l : Int) (w : World), l + (k : Int) = 8 → NT x L w k (ix / 2 ^ k) v →
    Calls Tryd.prog 58 #[v, .int .i64 (ix : Int), .int .i64 l] w fun e w' => ∃ u, e = .returned u ∧ OS w.heap.size w w' u (sdL x ix L k)

theorem sdL_zero (x : Int) (ix : Nat) (L : List Le) : sdL x ix L 0 = [] := rfl

set_option maxRecDepth 100000 in
set_option maxHeartbeats 1000000 in
theorem sidesBelow_zero (x : Int) (L : List Le) (ix : Nat) : SbC x L ix 0 := by
  intro v l w hl hN
  have HF : Hid (∃ u, Ending.returned (.slice (some ⟨w.heap.size, 0, none⟩) 0 0) = .returned u ∧ OS w.heap.size w (w.alloc (.cells #[] 9)) u (sdL x ix L 0)) := ⟨_, rfl, OS.made w⟩
  rcases hN with ⟨q, rfl, ⟨g, rfl, c0, c1⟩, _⟩ | ⟨g, rfl, c0⟩
  · have hA1 := asEF
    have hA2 := asEE
    generalize empB x 0 = T at *
    go_enter Tryd.func58, Tryd.ntmps58
    go_wp2_with fail
    go_ret
    exact HF.out
  · have hA1 := asKF
    have hA2 := asKE
    generalize trB x 0 (ix / 2 ^ 0) L = T at *
    go_enter Tryd.func58, Tryd.ntmps58
    go_wp2_with fail
    go_ret
    exact HF.out

set_option maxRecDepth 100000 in
set_option maxHeartbeats 2000000 in
theorem sidesBelow_up (x : Int) (L : List Le) (ix k : Nat) (hk : k ≤ 7) (hx : ix ≤ 255) (ih : SbC x L ix k) : SbC x L ix (k + 1) := by
  intro v l w hl hN
  have hst := sdL_up x ix L k
  have hll : (sdL x ix L k).length = k := sdL_len x ix L k
  have HLN : Hid ((sdL x ix L k).length + 1 ≤ 1000000) := by show (sdL x ix L k).length + 1 ≤ 1000000; omega
  have HF : Hid (∀ g cap W, OS w.heap.size w W (.slice (some ⟨g, 0, none⟩) ((sdL x ix L k).length + 1) cap) (sdL x ix L k ++ [trB x k (TR.oth (ix / 2 ^ k)) L]) → ∃ u, Ending.returned (.slice (some ⟨g, 0, none⟩) ((sdL x ix L k).length + 1) cap) = .returned u ∧ OS w.heap.size w W u (sdL x ix L (k + 1))) := fun g cap W hW => ⟨_, rfl, by rw [hst]; exact hW⟩
  have hq2 : ix / 2 ^ (k + 1) = ix / 2 ^ k / 2 := by rw [Nat.pow_succ, Nat.div_div_eq_div_mul]
  have HC : Hid (∀ v, NT x L w k (ix / 2 ^ k) v → Calls Tryd.prog 58 #[v, .int .i64 (ix : Int), .int .i64 (l + 1)] w.drew fun e w' => ∃ u, e = .returned u ∧ OS w.heap.size w w' u (sdL x ix L k)) := fun v hv =>
    (ih v (l + 1) w.drew (by omega) (NT.later (w := w) (Below.refl _ _).drew hv)).mono fun e w' ⟨u, h1, h2⟩ => ⟨u, h1, OS.from h2 (Below.refl _ _).drew⟩
  have l0 : 0 ≤ l := by omega
  have l8 : l < 8 := by omega
  have a1 : IntKind.i64.wrap (l + 1) = l + 1 := IntWalk.i64_in _ (by omega)
  clear hst hll
  rcases hN with ⟨q, rfl, ⟨g, b, rfl, c0, c1, hb⟩, hu⟩ | ⟨g, a, b, rfl, c0, c1, c2, hNa, hNb⟩
  · rw [hq2] at hu
    have hu1 : TR.und idxL k (ix / 2 ^ k) L = [] := TR.und_down (k := k) (j := 1) (by simp) hu
    have hu2 : TR.und idxL k (TR.oth (ix / 2 ^ k)) L = [] := TR.und_down (k := k) (j := 1) (by rw [Nat.pow_one]; exact oth_half _) hu
    have hC1 := HC.out _ (NT.empty hb hu1)
    have HH : Hid (∀ W, Below w.heap.size w W → ∃ gb, b = .pointer (some ⟨gb, 0, none⟩) ∧ W.cell? ⟨gb, 1, none⟩ = some (.string (trB x k (TR.oth (ix / 2 ^ k)) L))) := fun W hW => by
      obtain ⟨gb, h1, h2⟩ := (hb.later hW).made
      exact ⟨gb, h1, by rw [tr_emp hu2]; exact h2⟩
    obtain ⟨gb, rfl, _⟩ := hb.made
    have hA1 := asEF
    have hA2 := asEE
    have hg : g < w.heap.size := lt_of_cell c0
    clear hu hu1 hu2 HC hq2 c1 hb ih
    generalize sdL x ix L k = l0 at *
    generalize trB x k (TR.oth (ix / 2 ^ k)) L = T at *
    have HHH : Hid (∀ W, Below w.heap.size w W → Calls Tryd.prog 72 #[.pointer (some ⟨gb, 0, none⟩)] W fun e w' => e = .returned (.string T) ∧ w' = W) := fun W hW => by
      obtain ⟨gb', h1, h2⟩ := HH.out W hW
      obtain rfl : gb = gb' := by simpa using h1
      exact hashE_any gb T W h2
    go_enter Tryd.func58, Tryd.ntmps58
    go_wp2_with fail
    go_region_held3 (fun W => W.cell? ⟨g, 0, none⟩ = some (.pointer (some ⟨gb, 0, none⟩))) (first | go_keep | exact (hos1.2.1.cell (p := ⟨g, 0, none⟩) hg).trans c0 | exact (ho5.2.1.cell (p := ⟨g, 0, none⟩) hg).trans c0) ((first | (go_at_call 58; refine hC1.mono ?_; rintro e w1 ⟨u1, rfl, hos1⟩; have hbw1 := hos1.2.1; have hosa := fun o => hos1.alloc o) | (go_at_call 72; with_reducible refine (HHH.out _ hbw1).mono ?_; rintro e w2 ⟨rfl, rfl⟩) | (refine step_txtL rfl _ _ rfl w.heap.size w _ l0 T rfl (hosa _) _ rfl (one_new _ _) HLN.out ?_; intro g5 cap5 w5 ho5 hg5 hl5) | fail))
    have HF5 := HF.out _ _ _ ho5
    have HFF : Hid (∃ u, Ending.returned (.slice (some ⟨g5, 0, none⟩) (l0.length + 1) cap5) = .returned u ∧ OS w.heap.size w w5 u (sdL x ix L (k + 1))) := HF5
    clear HF5 HF ho5 hg5 hl5 HHH HH hC1
    go_wp2
    go_ret
    exact HFF.out
  · have hg : g < w.heap.size := lt_of_cell c0
    have hA1 := asFF
    have w1 : IntKind.i64.wrap 1 = 1 := rfl
    have w0 : IntKind.i64.wrap 0 = 0 := rfl
    have w2 : IntKind.i64.wrap (1 - 0) = 1 := rfl
    have w3 : IntKind.i64.wrap (1 - 1) = 0 := rfl
    have hbo := BitOf_at (ix : Int) l w ⟨l0, by omega⟩
    rw [show l.toNat = 7 - k by omega, bit_of ix k hk hx] at hbo
    by_cases hb0 : ix / 2 ^ k % 2 = 0
    · have hq : ix / 2 ^ k = 2 * (ix / 2 ^ (k + 1)) := by omega
      have ho : TR.oth (ix / 2 ^ k) = 2 * (ix / 2 ^ (k + 1)) + 1 := by unfold TR.oth; rw [if_pos hb0]; omega
      have hb : ((ix / 2 ^ k % 2 : Nat) : Int) = 0 := by omega
      rw [hb] at hbo
      have hC1 := HC.out a (by rw [hq]; exact hNa)
      have HH : Hid (∀ W, Below w.heap.size w W → HsN W b (trB x k (TR.oth (ix / 2 ^ k)) L)) := fun W hW => by
        rw [ho]
        exact (NT.later hW hNb).hash
      clear hq ho hNa hNb HC hq2 c2 ih hb
      generalize sdL x ix L k = l0 at *
      generalize trB x k (TR.oth (ix / 2 ^ k)) L = T at *
      go_enter Tryd.func58, Tryd.ntmps58
      go_wp2_with fail
      refine hbo.mono ?_
      rintro e w0 ⟨rfl, rfl⟩
      clear hbo
      go_wp2_with fail
      go_region_held3 (fun W => W.cell? ⟨g, 0, none⟩ = some a ∧ W.cell? ⟨g, 1, none⟩ = some b) (first | go_keep | exact ⟨(hos1.2.1.cell (p := ⟨g, 0, none⟩) hg).trans c0, (hos1.2.1.cell (p := ⟨g, 1, none⟩) hg).trans c1⟩ | exact ⟨(ho5.2.1.cell (p := ⟨g, 0, none⟩) hg).trans c0, (ho5.2.1.cell (p := ⟨g, 1, none⟩) hg).trans c1⟩) ((first | (go_at_call 58; refine hC1.mono ?_; rintro e w1 ⟨u1, rfl, hos1⟩; have hbw1 := hos1.2.1; have hosa := fun o => hos1.alloc o) | (refine step_hash rfl _ rfl _ T rfl (HH.out _ hbw1) ?_) | (refine step_txtL rfl _ _ rfl w0.heap.size w0 _ l0 T rfl (hosa _) _ rfl (one_new _ _) HLN.out ?_; intro g5 cap5 w5 ho5 hg5 hl5) | fail))
      have HF5 := HF.out _ _ _ ho5
      have HFF : Hid (∃ u, Ending.returned (.slice (some ⟨g5, 0, none⟩) (l0.length + 1) cap5) = .returned u ∧ OS w0.heap.size w0 w5 u (sdL x ix L (k + 1))) := HF5
      clear HF5 HF ho5 hg5 hl5 HH hC1
      go_wp2
      go_ret
      exact HFF.out
    · have hq : ix / 2 ^ k = 2 * (ix / 2 ^ (k + 1)) + 1 := by omega
      have ho : TR.oth (ix / 2 ^ k) = 2 * (ix / 2 ^ (k + 1)) := by unfold TR.oth; rw [if_neg (by omega)]; omega
      have hb : ((ix / 2 ^ k % 2 : Nat) : Int) = 1 := by omega
      rw [hb] at hbo
      have hC1 := HC.out b (by rw [hq]; exact hNb)
      have HH : Hid (∀ W, Below w.heap.size w W → HsN W a (trB x k (TR.oth (ix / 2 ^ k)) L)) := fun W hW => by
        rw [ho]
        exact (NT.later hW hNa).hash
      clear hq ho hNa hNb HC hq2 c2 ih hb
      generalize sdL x ix L k = l0 at *
      generalize trB x k (TR.oth (ix / 2 ^ k)) L = T at *
      go_enter Tryd.func58, Tryd.ntmps58
      go_wp2_with fail
      refine hbo.mono ?_
      rintro e w0 ⟨rfl, rfl⟩
      clear hbo
      go_wp2_with fail
      go_region_held3 (fun W => W.cell? ⟨g, 0, none⟩ = some a ∧ W.cell? ⟨g, 1, none⟩ = some b) (first | go_keep | exact ⟨(hos1.2.1.cell (p := ⟨g, 0, none⟩) hg).trans c0, (hos1.2.1.cell (p := ⟨g, 1, none⟩) hg).trans c1⟩ | exact ⟨(ho5.2.1.cell (p := ⟨g, 0, none⟩) hg).trans c0, (ho5.2.1.cell (p := ⟨g, 1, none⟩) hg).trans c1⟩) ((first | (go_at_call 58; refine hC1.mono ?_; rintro e w1 ⟨u1, rfl, hos1⟩; have hbw1 := hos1.2.1; have hosa := fun o => hos1.alloc o) | (refine step_hash rfl _ rfl _ T rfl (HH.out _ hbw1) ?_) | (refine step_txtL rfl _ _ rfl w0.heap.size w0 _ l0 T rfl (hosa _) _ rfl (one_new _ _) HLN.out ?_; intro g5 cap5 w5 ho5 hg5 hl5) | fail))
      have HF5 := HF.out _ _ _ ho5
      have HFF : Hid (∃ u, Ending.returned (.slice (some ⟨g5, 0, none⟩) (l0.length + 1) cap5) = .returned u ∧ OS w0.heap.size w0 w5 u (sdL x ix L (k + 1))) := HF5
      clear HF5 HF ho5 hg5 hl5 HH hC1
      go_wp2
      go_ret
      exact HFF.out

theorem sidesBelow_any (x : Int) (L : List Le) (ix : Nat) (hx : ix ≤ 255) : ∀ k, k ≤ 8 → SbC x L ix k
  | 0, _ => sidesBelow_zero x L ix
  | k + 1, h => sidesBelow_up x L ix k (by omega) hx (sidesBelow_any x L ix hx k (by omega))

end Go.Proofs.YtmhoilliaeefcaaDoor
