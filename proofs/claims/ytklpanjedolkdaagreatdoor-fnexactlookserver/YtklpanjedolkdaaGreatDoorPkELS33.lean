/-
  Texts laid together: Sb, Si, Rf.
-/
import Derived.Test.YtklpanjedolkdaaGreatDoorPkELS32
/-
  The sides that the program finds on the way down.
-/
namespace Go.Proofs.YtklpanjedolkdaaGreatDoor
open Go.RowKit Go.BigFrame Go.Sort
set_option linter.unusedVariables false
set_option linter.unusedSimpArgs false

theorem one_new (w : World) (t : ByteArray) : (w.alloc (.cells #[.string t] 9)).cell? ⟨w.heap.size, 0, none⟩ = some (.string t) := by
  rw [World.cell?_alloc_at _ _ _ _ rfl]; rfl
theorem asFF (v : Value) (w : World) : (Instr.typeAssert (.iface 227 v) 186 227 true).run Tryz.prog w = .ok (.tuple #[v, .bool true]) w := by kernel_rfl
theorem asEF (v : Value) (w : World) : (Instr.typeAssert (.iface 232 v) 186 227 true).run Tryz.prog w = .ok (.tuple #[.pointer none, .bool false]) w := by kernel_rfl
theorem asEE (v : Value) (w : World) : (Instr.typeAssert (.iface 232 v) 186 232 true).run Tryz.prog w = .ok (.tuple #[v, .bool true]) w := by kernel_rfl
theorem asKF (v : Value) (w : World) : (Instr.typeAssert (.iface 267 v) 186 227 true).run Tryz.prog w = .ok (.tuple #[.pointer none, .bool false]) w := by kernel_rfl
theorem asKE (v : Value) (w : World) : (Instr.typeAssert (.iface 267 v) 186 232 true).run Tryz.prog w = .ok (.tuple #[.pointer none, .bool false]) w := by kernel_rfl

section
variable {w : World} {ops : Array Oper} {o : Oper} {a : Act} {K : Act → World → Prop} {Q : Exit → Act → World → Prop}
/-- hash of a node, as one step of a region that draws its order -/
theorem step_hash {E : Prop} (hgd : o.guard = none) (r : Operand) (ho : o.op = .call { callee := .invoke r "loop.example/g00284/impl.hash", args := #[], argTypes := #[] })
    (v : Value) (t : ByteArray) (hv : a.eval r = v) (hN : HsN w v t) (hk : K (a.put o.dst (.string t)) w) : if Region.wanted o (yielded ops a.tmps) = true then Oper.wp Tryz.prog o a w K Q else E := by
  have hw : Region.wanted o (yielded ops a.tmps) = true := by simp [Region.wanted, hgd]
  rw [if_pos hw]
  exact oper_hash r ho v t hv hN hk
end

theorem and_b (q : Nat) (h : q ≤ 255) : bits BinOp.and IntKind.i64 (q : Int) 1 = ((q % 2 : Nat) : Int) := by
  have : ∀ q : Fin 256, bits BinOp.and IntKind.i64 ((q.val : Nat) : Int) 1 = ((q.val % 2 : Nat) : Int) := by decide +kernel
  exact this ⟨q, by omega⟩
theorem bit_of (ix k : Nat) (hk : k ≤ 7) (hx : ix ≤ 255) : bitI (ix : Int) (7 - k) = ((ix / 2 ^ k % 2 : Nat) : Int) := by
  unfold bitI
  have e1 : 7 - (7 - k) = k := by omega
  have e2 : (ix : Int) / 2 ^ k = ((ix / 2 ^ k : Nat) : Int) := by simp
  rw [e1, e2]
  exact and_b _ (Nat.le_trans (Nat.div_le_self _ _) hx)
theorem oth_half (q : Nat) : TR.oth q / 2 = q / 2 := by unfold TR.oth; split <;> omega

/-- what sidesBelow answers at this height -/
def SbC (x : Int) (L : List Le) (ix k : Nat) : Prop := ∀ (v : Value) (l : Int) (w : World), l + (k : Int) = 8 → NT x L w k (ix / 2 ^ k) v →
    Calls Tryz.prog 159 #[v, .int .i64 (ix : Int), .int .i64 l] w fun e w' => ∃ u, e = .returned u ∧ OS w.heap.size w w' u (sdL x ix L k)

theorem sdL_zero (x : Int) (ix : Nat) (L : List Le) : sdL x ix L 0 = [] := rfl

set_option maxRecDepth 100000 in
set_option maxHeartbeats 1000000 in
theorem sidesBelow_zero (x : Int) (L : List Le) (ix : Nat) : SbC x L ix 0 := by
  intro v l w hl hN
  have HF : Hid (∃ u, Ending.returned (.slice (some ⟨w.heap.size, 0, none⟩) 0 0) = .returned u ∧ OS w.heap.size w (w.alloc (.cells #[] 9)) u (sdL x ix L 0)) := ⟨_, rfl, OS.made w⟩
  rcases hN with ⟨q, rfl, ⟨g, rfl, c0, c1⟩, _⟩ | ⟨g, rfl, c0⟩
  · have hA1 := asEF
    have hA2 := asEE
    generalize empB x 0 = T at *
    go_enter Tryz.func159, Tryz.ntmps159
    go_wp2_with fail
    go_ret
    exact HF.out
  · have hA1 := asKF
    have hA2 := asKE
    generalize trB x 0 (ix / 2 ^ 0) L = T at *
    go_enter Tryz.func159, Tryz.ntmps159
    go_wp2_with fail
    go_ret
    exact HF.out

set_option maxRecDepth 100000 in
set_option maxHeartbeats 2000000 in
theorem sidesBelow_up (x : Int) (L : List Le) (ix k : Nat) (hk : k ≤ 7) (hx : ix ≤ 255) (ih : SbC x L ix k) : SbC x L ix (k + 1) := by
  intro v l w hl hN
  have hst := sdL_up x ix L k
  have hll : (sdL x ix L k).length = k := sdL_len x ix L k
  have HLN : Hid ((sdL x ix L k).length + 1 ≤ 1000000) := by show (sdL x ix L k).length + 1 ≤ 1000000; omega
  have HF : Hid (∀ g cap W, OS w.heap.size w W (.slice (some ⟨g, 0, none⟩) ((sdL x ix L k).length + 1) cap) (sdL x ix L k ++ [trB x k (TR.oth (ix / 2 ^ k)) L]) → ∃ u, Ending.returned (.slice (some ⟨g, 0, none⟩) ((sdL x ix L k).length + 1) cap) = .returned u ∧ OS w.heap.size w W u (sdL x ix L (k + 1))) := fun g cap W hW => ⟨_, rfl, by rw [hst]; exact hW⟩
  have hq2 : ix / 2 ^ (k + 1) = ix / 2 ^ k / 2 := by rw [Nat.pow_succ, Nat.div_div_eq_div_mul]
  have HC : Hid (∀ v, NT x L w k (ix / 2 ^ k) v → Calls Tryz.prog 159 #[v, .int .i64 (ix : Int), .int .i64 (l + 1)] w.drew fun e w' => ∃ u, e = .returned u ∧ OS w.heap.size w w' u (sdL x ix L k)) := fun v hv =>
    (ih v (l + 1) w.drew (by omega) (NT.later (w := w) (Below.refl _ _).drew hv)).mono fun e w' ⟨u, h1, h2⟩ => ⟨u, h1, OS.from h2 (Below.refl _ _).drew⟩
  have l0 : 0 ≤ l := by omega
  have l8 : l < 8 := by omega
  have a1 : IntKind.i64.wrap (l + 1) = l + 1 := IntWalk.i64_in _ (by omega)
  clear hst hll
  rcases hN with ⟨q, rfl, ⟨g, b, rfl, c0, c1, hb⟩, hu⟩ | ⟨g, a, b, rfl, c0, c1, c2, hNa, hNb⟩
  · rw [hq2] at hu
    have hu1 : TR.und idxL k (ix / 2 ^ k) L = [] := TR.und_down (k := k) (j := 1) (by simp) hu
    have hu2 : TR.und idxL k (TR.oth (ix / 2 ^ k)) L = [] := TR.und_down (k := k) (j := 1) (by rw [Nat.pow_one]; exact oth_half _) hu
    have hC1 := HC.out _ (NT.empty hb hu1)
    have HH : Hid (∀ W, Below w.heap.size w W → ∃ gb, b = .pointer (some ⟨gb, 0, none⟩) ∧ W.cell? ⟨gb, 1, none⟩ = some (.string (trB x k (TR.oth (ix / 2 ^ k)) L))) := fun W hW => by
      obtain ⟨gb, h1, h2⟩ := (hb.later hW).made
      exact ⟨gb, h1, by rw [tr_emp hu2]; exact h2⟩
    obtain ⟨gb, rfl, _⟩ := hb.made
    have hA1 := asEF
    have hA2 := asEE
    have hg : g < w.heap.size := lt_of_cell c0
    clear hu hu1 hu2 HC hq2 c1 hb ih
    generalize sdL x ix L k = l0 at *
    generalize trB x k (TR.oth (ix / 2 ^ k)) L = T at *
    have HHH : Hid (∀ W, Below w.heap.size w W → Calls Tryz.prog 196 #[.pointer (some ⟨gb, 0, none⟩)] W fun e w' => e = .returned (.string T) ∧ w' = W) := fun W hW => by
      obtain ⟨gb', h1, h2⟩ := HH.out W hW
      obtain rfl : gb = gb' := by simpa using h1
      exact hashE_any gb T W h2
    go_enter Tryz.func159, Tryz.ntmps159
    go_wp2_with fail
    go_region_held3 (fun W => W.cell? ⟨g, 0, none⟩ = some (.pointer (some ⟨gb, 0, none⟩))) (first | go_keep | exact (hos1.2.1.cell (p := ⟨g, 0, none⟩) hg).trans c0 | exact (ho5.2.1.cell (p := ⟨g, 0, none⟩) hg).trans c0) ((first | (go_at_call 159; refine hC1.mono ?_; rintro e w1 ⟨u1, rfl, hos1⟩; have hbw1 := hos1.2.1; have hosa := fun o => hos1.alloc o) | (go_at_call 196; with_reducible refine (HHH.out _ hbw1).mono ?_; rintro e w2 ⟨rfl, rfl⟩) | (refine step_txtL rfl _ _ rfl w.heap.size w _ l0 T rfl (hosa _) _ rfl (one_new _ _) HLN.out ?_; intro g5 cap5 w5 ho5 hg5 hl5) | fail))
    have HF5 := HF.out _ _ _ ho5
    have HFF : Hid (∃ u, Ending.returned (.slice (some ⟨g5, 0, none⟩) (l0.length + 1) cap5) = .returned u ∧ OS w.heap.size w w5 u (sdL x ix L (k + 1))) := HF5
    clear HF5 HF ho5 hg5 hl5 HHH HH hC1
    go_wp2
    go_ret
    exact HFF.out
  · have hg : g < w.heap.size := lt_of_cell c0
    have hA1 := asFF
    have w1 : IntKind.i64.wrap 1 = 1 := rfl
    have w0 : IntKind.i64.wrap 0 = 0 := rfl
    have w2 : IntKind.i64.wrap (1 - 0) = 1 := rfl
    have w3 : IntKind.i64.wrap (1 - 1) = 0 := rfl
    have hbo := BitOf_at (ix : Int) l w ⟨l0, by omega⟩
    rw [show l.toNat = 7 - k by omega, bit_of ix k hk hx] at hbo
    by_cases hb0 : ix / 2 ^ k % 2 = 0
    · have hq : ix / 2 ^ k = 2 * (ix / 2 ^ (k + 1)) := by omega
      have ho : TR.oth (ix / 2 ^ k) = 2 * (ix / 2 ^ (k + 1)) + 1 := by unfold TR.oth; rw [if_pos hb0]; omega
      have hb : ((ix / 2 ^ k % 2 : Nat) : Int) = 0 := by omega
      rw [hb] at hbo
      have hC1 := HC.out a (by rw [hq]; exact hNa)
      have HH : Hid (∀ W, Below w.heap.size w W → HsN W b (trB x k (TR.oth (ix / 2 ^ k)) L)) := fun W hW => by
        rw [ho]
        exact (NT.later hW hNb).hash
      clear hq ho hNa hNb HC hq2 c2 ih hb
      generalize sdL x ix L k = l0 at *
      generalize trB x k (TR.oth (ix / 2 ^ k)) L = T at *
      go_enter Tryz.func159, Tryz.ntmps159
      go_wp2_with fail
      refine hbo.mono ?_
      rintro e w0 ⟨rfl, rfl⟩
      clear hbo
      go_wp2_with fail
      go_region_held3 (fun W => W.cell? ⟨g, 0, none⟩ = some a ∧ W.cell? ⟨g, 1, none⟩ = some b) (first | go_keep | exact ⟨(hos1.2.1.cell (p := ⟨g, 0, none⟩) hg).trans c0, (hos1.2.1.cell (p := ⟨g, 1, none⟩) hg).trans c1⟩ | exact ⟨(ho5.2.1.cell (p := ⟨g, 0, none⟩) hg).trans c0, (ho5.2.1.cell (p := ⟨g, 1, none⟩) hg).trans c1⟩) ((first | (go_at_call 159; refine hC1.mono ?_; rintro e w1 ⟨u1, rfl, hos1⟩; have hbw1 := hos1.2.1; have hosa := fun o => hos1.alloc o) | (refine step_hash rfl _ rfl _ T rfl (HH.out _ hbw1) ?_) | (refine step_txtL rfl _ _ rfl w0.heap.size w0 _ l0 T rfl (hosa _) _ rfl (one_new _ _) HLN.out ?_; intro g5 cap5 w5 ho5 hg5 hl5) | fail))
      have HF5 := HF.out _ _ _ ho5
      have HFF : Hid (∃ u, Ending.returned (.slice (some ⟨g5, 0, none⟩) (l0.length + 1) cap5) = .returned u ∧ OS w0.heap.size w0 w5 u (sdL x ix L (k + 1))) := HF5
      clear HF5 HF ho5 hg5 hl5 HH hC1
      go_wp2
      go_ret
      exact HFF.out
    · have hq : ix / 2 ^ k = 2 * (ix / 2 ^ (k + 1)) + 1 := by omega
      have ho : TR.oth (ix / 2 ^ k) = 2 * (ix / 2 ^ (k + 1)) := by unfold TR.oth; rw [if_neg (by omega)]; omega
      have hb : ((ix / 2 ^ k % 2 : Nat) : Int) = 1 := by omega
      rw [hb] at hbo
      have hC1 := HC.out b (by rw [hq]; exact hNb)
      have HH : Hid (∀ W, Below w.heap.size w W → HsN W a (trB x k (TR.oth (ix / 2 ^ k)) L)) := fun W hW => by
        rw [ho]
        exact (NT.later hW hNa).hash
      clear hq ho hNa hNb HC hq2 c2 ih hb
      generalize sdL x ix L k = l0 at *
      generalize trB x k (TR.oth (ix / 2 ^ k)) L = T at *
      go_enter Tryz.func159, Tryz.ntmps159
      go_wp2_with fail
      refine hbo.mono ?_
      rintro e w0 ⟨rfl, rfl⟩
      clear hbo
      go_wp2_with fail
      go_region_held3 (fun W => W.cell? ⟨g, 0, none⟩ = some a ∧ W.cell? ⟨g, 1, none⟩ = some b) (first | go_keep | exact ⟨(hos1.2.1.cell (p := ⟨g, 0, none⟩) hg).trans c0, (hos1.2.1.cell (p := ⟨g, 1, none⟩) hg).trans c1⟩ | exact ⟨(ho5.2.1.cell (p := ⟨g, 0, none⟩) hg).trans c0, (ho5.2.1.cell (p := ⟨g, 1, none⟩) hg).trans c1⟩) ((first | (go_at_call 159; refine hC1.mono ?_; rintro e w1 ⟨u1, rfl, hos1⟩; have hbw1 := hos1.2.1; have hosa := fun o => hos1.alloc o) | (refine step_hash rfl _ rfl _ T rfl (HH.out _ hbw1) ?_) | (refine step_txtL rfl _ _ rfl w0.heap.size w0 _ l0 T rfl (hosa _) _ rfl (one_new _ _) HLN.out ?_; intro g5 cap5 w5 ho5 hg5 hl5) | fail))
      have HF5 := HF.out _ _ _ ho5
      have HFF : Hid (∃ u, Ending.returned (.slice (some ⟨g5, 0, none⟩) (l0.length + 1) cap5) = .returned u ∧ OS w0.heap.size w0 w5 u (sdL x ix L (k + 1))) := HF5
      clear HF5 HF ho5 hg5 hl5 HH hC1
      go_wp2
      go_ret
      exact HFF.out

theorem sidesBelow_any (x : Int) (L : List Le) (ix : Nat) (hx : ix ≤ 255) : ∀ k, k ≤ 8 → SbC x L ix k
  | 0, _ => sidesBelow_zero x L ix
  | k + 1, h => sidesBelow_up x L ix k (by omega) hx (sidesBelow_any x L ix hx k (by omega))

end Go.Proofs.YtklpanjedolkdaaGreatDoor
/-
  What SidesOf answers: the program's.
-/
namespace Go.Proofs.YtklpanjedolkdaaGreatDoor
open Go.RowKit Go.BigFrame Go.Sort
set_option linter.unusedVariables false
set_option linter.unusedSimpArgs false

theorem OS.upT {B : Nat} {w0 w w' : World} {u : Value} {l : List ByteArray} (hb : Below B w0 w) (hB : B ≤ w.heap.size) (h : OS w.heap.size w w' u l) : OS B w0 w' u l := by
  refine ⟨⟨h.1.1, ?_⟩, hb.trans (h.2.1.mono hB), Nat.le_trans hB h.2.2⟩
  rcases h.1.2 with hn | ⟨g, cap, cur, hv, hbg, rest⟩
  · exact .inl hn
  · exact .inr ⟨g, cap, cur, hv, Nat.le_trans hB hbg, rest⟩

set_option maxRecDepth 100000 in
set_option maxHeartbeats 1000000 in
theorem SidesOf_yes (v : Value) (ga oa : Nat) (L : List Le) (ix l : Nat) (x : Int) (w : World) (hv : RS 2 lcs w v ga oa L) (hsm : SmallL L) (h1 : LV.leavesB L = true) (h2 : ix ≤ 255) (h3 : l ≤ 8) (h4 : 1 ≤ x ∧ x ≤ 32) (hT : Tb w) :
    Calls Tryz.prog 121 #[v, .int .i64 (ix : Int), .int .i64 (l : Int), .int .i64 x] w fun e w' => ∃ u, e = .returned u ∧ OS w.heap.size w w' u (sdL x ix L (8 - l)) := by
  have hc := LeavesOk_any v ga oa L w hv hsm
  rw [h1] at hc
  have hpl : ix / 2 ^ (8 - l) < 2 ^ l := by
    rw [Nat.div_lt_iff_lt_mul (Nat.two_pow_pos _), ← Nat.pow_add, show l + (8 - l) = 8 by omega]
    omega
  have HN : Hid (∀ W, Below w.heap.size w W → Calls Tryz.prog 160 #[v, .int .i64 (l : Int), .int .i64 ((ix : Int) / 2 ^ (8 - l)), .int .i64 x] W fun e w' => ∃ u, e = .returned u ∧ NT x L w' (8 - l) (ix / 2 ^ (8 - l)) u ∧ Below w.heap.size w w') := fun W hW => by
    have hsh : (ix : Int) / 2 ^ (8 - l) = ((ix / 2 ^ (8 - l) : Nat) : Int) := by simp
    rw [hsh]
    have h := nodeAt_any v ga oa L l (ix / 2 ^ (8 - l)) x W (hv.later hW) hsm (LV.leavesB_iff.1 h1) h3 hpl (hT.later hW)
    exact h.mono fun e w' ⟨u, h6, h7, h8⟩ => ⟨u, h6, h7, hW.trans (h8.mono hW.size)⟩
  have HS : Hid (∀ W u, Below w.heap.size w W → NT x L W (8 - l) (ix / 2 ^ (8 - l)) u → Calls Tryz.prog 159 #[u, .int .i64 (ix : Int), .int .i64 (l : Int)] W fun e w' => ∃ r, e = .returned r ∧ OS w.heap.size w w' r (sdL x ix L (8 - l))) := fun W u hW hNT => by
    have h := sidesBelow_any x L ix h2 (8 - l) (by omega) u (l : Int) W (by omega) hNT
    exact h.mono fun e w' ⟨r, h6, h7⟩ => ⟨r, h6, OS.upT hW hW.size h7⟩
  obtain ⟨a, cap, rfl, hl, _⟩ := hv
  have d1 : decide (0 ≤ (l : Int) ∧ (l : Int) ≤ 8) = true := by simp; omega
  have d2 : decide (1 ≤ x ∧ x ≤ 32) = true := by simpa using h4
  have q1 : decide ((ix : Int) < 0) = false := by simp
  have q3 : (0 : Int) ≤ 8 - (l : Int) := by omega
  have q2 : decide ((256 : Int) ≤ (ix : Int)) = false := by simp; omega
  clear hsm h1 hT
  go_enter Tryz.func121, Tryz.ntmps121
  go_wp2_with fail
  refine hc.mono ?_
  rintro e w1 ⟨rfl, hb1⟩
  clear hc
  go_wp2_with fail
  refine (levelOk_any _ _).mono ?_
  rintro e w2 ⟨rfl, rfl⟩
  rw [d1]
  go_wp2_with fail
  refine (widthOk_any _ _).mono ?_
  rintro e w2 ⟨rfl, rfl⟩
  rw [d2]
  go_wp2_with fail
  refine (HN.out _ hb1).mono ?_
  rintro e w3 ⟨u, rfl, hNT, hb3⟩
  have hS := HS.out _ _ hb3 hNT
  clear HN HS hNT
  go_wp2_with fail
  refine hS.mono ?_
  rintro e w4 ⟨r, rfl, ho⟩
  have HF : Hid (∃ u, Ending.returned r = .returned u ∧ OS w.heap.size w w4 u (sdL x ix L (8 - l))) := ⟨_, rfl, ho⟩
  clear hS ho hb3 hb1
  go_wp2
  go_ret
  exact HF.out

theorem SidesOf_any (v : Value) (ga oa : Nat) (L : List Le) (ix l x : Int) (w : World) (hv : RS 2 lcs w v ga oa L) (hsm : SmallL L) (hT : Tb w) :
    Calls Tryz.prog 121 #[v, .int .i64 ix, .int .i64 l, .int .i64 x] w fun e w' => ∃ u, e = .returned u ∧ OS w.heap.size w w' u (sdA L ix l x) := by
  unfold sdA
  have hc := LeavesOk_any v ga oa L w hv hsm
  have HF : Hid (∀ W, Below w.heap.size w W → ∃ u, Ending.returned (.slice (some ⟨W.heap.size, 0, none⟩) 0 0) = .returned u ∧ OS w.heap.size w (W.alloc (.cells #[] 9)) u []) := fun W hW => ⟨_, rfl, OS.upT hW hW.size (OS.made W)⟩
  cases h1 : LV.leavesB L with
  | false =>
    rw [if_neg (fun h => by simp at h)]
    rw [h1] at hc
    obtain ⟨a, cap, rfl, hl, _⟩ := hv
    clear hsm h1 hT
    go_enter Tryz.func121, Tryz.ntmps121
    go_wp2_with fail
    refine hc.mono ?_
    rintro e w1 ⟨rfl, hb1⟩
    clear hc
    go_wp2
    go_ret
    exact HF.out _ hb1
  | true =>
    by_cases h2 : 0 ≤ ix ∧ ix ≤ 255
    · have q1 : decide (ix < 0) = false := by simp; omega
      have q2 : decide (256 ≤ ix) = false := by simp; omega
      by_cases h3 : 0 ≤ l ∧ l ≤ 8
      · by_cases h4 : 1 ≤ x ∧ x ≤ 32
        · rw [if_pos ⟨rfl, h2, h3, h4⟩]
          obtain ⟨i, rfl⟩ := Int.eq_ofNat_of_zero_le h2.1
          obtain ⟨k, rfl⟩ := Int.eq_ofNat_of_zero_le h3.1
          exact SidesOf_yes v ga oa L i k x w hv hsm h1 (by omega) (by omega) h4 hT
        · rw [if_neg (fun h => h4 h.2.2.2)]
          rw [h1] at hc
          obtain ⟨a, cap, rfl, hl, _⟩ := hv
          have d1 : decide (0 ≤ l ∧ l ≤ 8) = true := by simpa using h3
          have d2 : decide (1 ≤ x ∧ x ≤ 32) = false := by simpa using h4
          clear hsm h1 hT
          go_enter Tryz.func121, Tryz.ntmps121
          go_wp2_with fail
          refine hc.mono ?_
          rintro e w1 ⟨rfl, hb1⟩
          clear hc
          go_wp2_with fail
          refine (levelOk_any _ _).mono ?_
          rintro e w2 ⟨rfl, rfl⟩
          rw [d1]
          go_wp2_with fail
          refine (widthOk_any _ _).mono ?_
          rintro e w2 ⟨rfl, rfl⟩
          rw [d2]
          go_wp2
          go_ret
          exact HF.out _ hb1
      · rw [if_neg (fun h => h3 h.2.2.1)]
        rw [h1] at hc
        obtain ⟨a, cap, rfl, hl, _⟩ := hv
        have d1 : decide (0 ≤ l ∧ l ≤ 8) = false := by simpa using h3
        clear hsm h1 hT h3
        go_enter Tryz.func121, Tryz.ntmps121
        go_wp2_with fail
        refine hc.mono ?_
        rintro e w1 ⟨rfl, hb1⟩
        clear hc
        go_wp2_with fail
        refine (levelOk_any _ _).mono ?_
        rintro e w2 ⟨rfl, rfl⟩
        rw [d1]
        go_wp2
        go_ret
        exact HF.out _ hb1
    · rw [if_neg (fun h => h2 h.2.1)]
      rw [h1] at hc
      obtain ⟨a, cap, rfl, hl, _⟩ := hv
      by_cases h0 : ix < 0
      · have q1 : decide (ix < 0) = true := by simpa using h0
        clear hsm h1 hT h2
        go_enter Tryz.func121, Tryz.ntmps121
        go_wp2_with fail
        refine hc.mono ?_
        rintro e w1 ⟨rfl, hb1⟩
        clear hc
        go_wp2
        go_ret
        exact HF.out _ hb1
      · have q1 : decide (ix < 0) = false := by simpa using h0
        have q2 : (256 : Int) ≤ ix := by omega
        clear hsm h1 hT h2
        go_enter Tryz.func121, Tryz.ntmps121
        go_wp2_with fail
        refine hc.mono ?_
        rintro e w1 ⟨rfl, hb1⟩
        clear hc
        go_wp2
        go_ret
        exact HF.out _ hb1

end Go.Proofs.YtklpanjedolkdaaGreatDoor
/-
  Plain facts of roots: a bucket's hash folds up to the root; how wide hashes are.
-/
namespace Go.Proofs.YtklpanjedolkdaaGreatDoor
open Go.RowKit
set_option linter.unusedVariables false
set_option linter.unusedSimpArgs false

namespace TR
variable {β : Type} {hN : β → β → β}
theorem fold_congr {b b' : Nat → Bool} : ∀ (s : List β) (i : Nat) (h : β), (∀ j, i ≤ j → j < i + s.length → b j = b' j) → fold hN b i h s = fold hN b' i h s
  | [], i, h, _ => rfl
  | a :: t, i, h, hb => by
    have e := hb i (Nat.le_refl _) (by simp)
    show fold hN b (i + 1) (if b i then hN a h else hN h a) t = fold hN b' (i + 1) (if b' i then hN a h else hN h a) t
    rw [e]
    exact fold_congr t (i + 1) _ (fun j h1 h2 => hb j (by omega) (by simp; omega))
end TR

theorem bkL_und (L : List Le) (ix : Nat) : bkL L (ix : Int) = TR.und idxL 0 ix L := by
  unfold bkL TR.und
  refine List.filter_congr fun f _ => ?_
  unfold bkP idxL
  rw [Nat.pow_zero, Nat.div_one]
  by_cases h : idxN f.n = ix
  · rw [decide_eq_true h, decide_eq_true (by omega)]
  · rw [decide_eq_false h, decide_eq_false (by omega)]
/-- **a bucket's hash folds up to the root** -/
theorem fold_root (x : Int) (ix : Nat) (hx : ix ≤ 255) (L : List Le) : fuF x (ix : Int) 8 (trB x 0 ix L) (sdL x ix L 8) = trB x 8 0 L := by
  unfold fuF trB
  rw [TR.fold_congr (b' := fun i => decide (ix / 2 ^ i % 2 = 1)) (sdL x ix L 8) 0 _ (fun j _ hj => ?_)]
  · have h := TR.fold_up (idx := idxL) (hN := hnB x) (hB := bhB x) (fun i => decide (ix / 2 ^ i % 2 = 1)) ix (fun i => rfl) L 8 0
    rw [Nat.pow_zero, Nat.div_one, Nat.zero_add, Nat.div_eq_of_lt (show ix < 2 ^ 8 by omega)] at h
    exact h
  · rw [sdL_len] at hj
    unfold fbB
    rw [show 8 - 1 - j = 7 - j by omega, bit_of ix j (by omega) hx]
    have h2 : ix / 2 ^ j % 2 < 2 := Nat.mod_lt _ (by omega)
    generalize ix / 2 ^ j % 2 = q at *
    have : q = 0 ∨ q = 1 := by omega
    rcases this with rfl | rfl <;> rfl
theorem cutH_size {t : ByteArray} {x : Int} (h : 1 ≤ x ∧ x ≤ 32) : (cutH t x).size = x.toNat := by
  unfold cutH
  rw [if_pos h]
  unfold cutB
  have := digB_size t
  rw [ByteArray.size_extract]
  omega
theorem hash3_size {a b : ByteArray} {x : Int} (h : 1 ≤ x ∧ x ≤ 32) (ha : a.size ≤ 200) (hb : b.size ≤ 200) : (hashB 3 [a, b] x).size = x.toNat := by
  have ht : tagOk 3 [a, b] = true := by
    unfold tagOk
    simp [ha, hb]
  unfold hashB
  rw [if_pos ht]
  exact cutH_size h
theorem trB_size {x : Int} {L : List Le} (h : 1 ≤ x ∧ x ≤ 32) (hL : LV.LOk L) : ∀ k p, (trB x k p L).size = x.toNat
  | 0, p => by
    show (bhB x (TR.und idxL 0 p L)).size = x.toNat
    rw [bhB_yes (leaves_und hL 0 p)]
    exact cutH_size h
  | k + 1, p => by
    show (hashB 3 [trB x k (2 * p) L, trB x k (2 * p + 1) L] x).size = x.toNat
    exact hash3_size h (by rw [trB_size h hL k]; omega) (by rw [trB_size h hL k]; omega)
theorem nh_root {L : List Le} {x : Int} (h : 1 ≤ x ∧ x ≤ 32) (hL : LV.LOk L) : nhB L 0 0 x = trB x 8 0 L := by
  unfold nhB
  rw [if_pos ⟨LV.leavesB_iff.2 hL, by omega, by decide, h⟩]
  rfl
theorem nh_leaf {L : List Le} {x : Int} (h : 1 ≤ x ∧ x ≤ 32) (hL : LV.LOk L) (ix : Nat) (hx : ix ≤ 255) : nhB L 8 (ix : Int) x = trB x 0 ix L := by
  unfold nhB
  have e : (2 : Int) ^ (8 : Int).toNat = 256 := by decide
  rw [if_pos ⟨LV.leavesB_iff.2 hL, by omega, by rw [e]; omega, h⟩]
  rfl
theorem sd_all {L : List Le} {x : Int} (h : 1 ≤ x ∧ x ≤ 32) (hL : LV.LOk L) (ix : Nat) (hx : ix ≤ 255) : sdA L (ix : Int) 0 x = sdL x ix L 8 := by
  unfold sdA
  rw [if_pos ⟨LV.leavesB_iff.2 hL, by omega, by omega, h⟩]
  rfl
theorem fu_root {L : List Le} {x : Int} (ix : Nat) (hx : ix ≤ 255) : fuB (trB x 0 ix L) (ix : Int) 8 (sdL x ix L 8) x = trB x 8 0 L := by
  unfold fuB
  rw [if_pos ⟨by omega, by rw [sdL_len]; omega⟩]
  exact fold_root x ix hx L

end Go.Proofs.YtklpanjedolkdaaGreatDoor
