/-
  Texts laid together: Wz, Op, Pop, Wzo.
-/
import Derived.Test.YtfojmagcoipbnaaQ09
import Derived.Lib.SmallJoins
import Derived.ProofKit
import Derived.Deep.RegionHeld3
import Derived.Deep.CutRange
import Derived.Test.YtfojmagcoipbnaaQ08
import Derived.Deep.Strs
import Derived.Deep.Slices
import Derived.ChangeSame
/-
  What the laws' own helpers do with trusts: measured, taken over, compared; the walk of the law FnExactTrustOk.
-/
namespace Go.Proofs.Ytfojmagcoipbnaa
open Go.RowKit Go.BigFrame Go.Sort
set_option linter.unusedVariables false
set_option linter.unusedSimpArgs false

theorem sizeTr : (Try.prog.info? 43).map (·.size) = some 3 := by kernel_rfl
theorem load_tr {w : World} {g : Nat} {v1 v2 v3 : Value} (hA : Box 43 w g [v1, v2, v3]) : (loadVar 43 ⟨g, 0, none⟩).run Try.prog w = .ok (.agg #[v1, v2, v3]) w :=
  run_loadVar_row (P := Try.prog) w g 43 43 _ (0, 0) _ hA Try.underlying43 rfl sizeTr
section
variable {w : World} {ops : Array Oper} {rest : List Oper} {o : Oper} {a : Act} {Q : Exit → Act → World → Prop}
theorem wp_loadTr (hgd : o.guard = none) (p : Operand) (ho : o.op = .load 43 p) (g : Nat) (v1 v2 v3 : Value) (hp : a.eval p = .pointer (some ⟨g, 0, none⟩)) (hA : Box 43 w g [v1, v2, v3])
    (h : wpList Try.prog ops Q rest (a.put o.dst (.agg #[v1, v2, v3])) w) : wpList Try.prog ops Q (o :: rest) a w := by
  refine wpList_plain hgd fun K hK => ?_
  have hr : (Instr.loadAt 43 (.pointer (some ⟨g, 0, none⟩))).run Try.prog w = .ok (.agg #[v1, v2, v3]) w := by
    simp only [Instr.loadAt, Instr.sureAddr, Sem.run_bind, Sem.run_pure, Result.andThen]
    exact load_tr hA
  unfold Oper.wp
  simp [execOp, ho, hp, hr, Result.andThen]
  exact hK _ _ h
theorem wp_storeTr (hgd : o.guard = none) (p v : Operand) (ho : o.op = .store 43 p v) (g : Nat) (v1 v2 v3 u1 u2 u3 : Value) (hA : Box 43 w g [v1, v2, v3]) (hp : a.eval p = .pointer (some ⟨g, 0, none⟩)) (hv : a.eval v = .agg #[u1, u2, u3])
    (h1 : u1.oneCell' = true) (h2 : u2.oneCell' = true) (h3 : u3.oneCell' = true)
    (h : Box 43 (w.setRow g #[u1, u2, u3]) g [u1, u2, u3] → wpList Try.prog ops Q rest (a.put o.dst (.tuple #[])) (w.setRow g #[u1, u2, u3])) : wpList Try.prog ops Q (o :: rest) a w := by
  refine wpList_plain hgd fun K hK => ?_
  have hr : (Instr.storeAt 43 (.pointer (some ⟨g, 0, none⟩)) (.agg #[u1, u2, u3])).run Try.prog w = .ok () (w.setRow g #[u1, u2, u3]) := by
    simp only [Instr.storeAt, Instr.sureAddr, Sem.run_bind, Sem.run_pure, Result.andThen]
    refine run_storeVar_row w g 43 43 _ _ hA sizeTr rfl ?_
    simp [h1, h2, h3]
  unfold Oper.wp
  simp [execOp, ho, hp, hv, hr, Result.andThen]
  exact hK _ _ (h (setRow_heap w g _ _ _ _ hA))
end
theorem ret_tr {fn : Func} {Rp : Ending → World → Prop} {a : Act} {w : World} (c g : Nat) (v1 v2 v3 : Value) (hres : fn.results = #[.cell c 43]) (hd : a.defers = []) (hp : a.tmps.getD c undef = .pointer (some ⟨g, 0, none⟩)) (hA : Box 43 w g [v1, v2, v3]) (h : Rp (.returned (.agg #[v1, v2, v3])) w) : bodyPost Try.prog fn Rp .ret a w :=
  ret_rec c g 43 [v1, v2, v3] _ hres hd hp Try.underlying43 rfl sizeTr hA.range h

set_option maxRecDepth 100000 in
set_option maxHeartbeats 1000000 in
theorem eqTrust_yes (v1 u1 : Value) (g1 o1 p1 q1 : Nat) (R : List ByteArray) (K N : Int) (w : World) (h1 : SS w v1 g1 o1 R) (k1 : SS w u1 p1 q1 R) :
    Calls Try.prog 21 #[.agg #[v1, .int .i64 K, .int .i64 N], .agg #[u1, .int .i64 K, .int .i64 N]] w fun e w' => e = .returned (.bool true) ∧ Below w.heap.size w w' := by
  have H2 : Hid (∀ W, Below w.heap.size w W → Calls Try.prog 42 #[v1, u1] W fun e w' => e = .returned (.bool true) ∧ ∃ q, w' = W.drewN q) := fun W hW => eqStringS_yes v1 u1 g1 o1 p1 q1 R W (h1.below hW h1.lt) (k1.below hW k1.lt)
  have hA : Box 43 ((w.alloc (.cells #[v1, .int .i64 K, .int .i64 N] 43)).alloc (.cells #[u1, .int .i64 K, .int .i64 N] 43)) w.heap.size [v1, .int .i64 K, .int .i64 N] := (Box.new _ w _).later (below_alloc _ _)
  have hB : Box 43 ((w.alloc (.cells #[v1, .int .i64 K, .int .i64 N] 43)).alloc (.cells #[u1, .int .i64 K, .int .i64 N] 43)) (w.heap.size + 1) [u1, .int .i64 K, .int .i64 N] := alloc_fst _ _ (by simp)
  have hba : Below w.heap.size w ((w.alloc (.cells #[v1, .int .i64 K, .int .i64 N] 43)).alloc (.cells #[u1, .int .i64 K, .int .i64 N] 43)) := (below_alloc _ _).alloc (by simp) _
  have HB : Hid (∀ q, Below w.heap.size w (((w.alloc (.cells #[v1, .int .i64 K, .int .i64 N] 43)).alloc (.cells #[u1, .int .i64 K, .int .i64 N] 43)).drewN q)) := fun q => below_drn hba q
  have z0 := hA.at 0 _ rfl
  have z1 := hA.at 1 _ rfl
  have z2 := hA.at 2 _ rfl
  have y0 := hB.at 0 _ rfl
  have y1 := hB.at 1 _ rfl
  have y2 := hB.at 2 _ rfl
  clear h1 k1 hA hB
  go_enter Try.func21, Try.ntmps21
  go_wp2_with fail
  refine (H2.out _ hba).mono ?_
  rintro e w2 ⟨rfl, q, rfl⟩
  have a1 : (((w.alloc (.cells #[v1, .int .i64 K, .int .i64 N] 43)).alloc (.cells #[u1, .int .i64 K, .int .i64 N] 43)).drewN q).cell? ⟨w.heap.size, 1, none⟩ = some (.int .i64 K) := z1
  have a2 : (((w.alloc (.cells #[v1, .int .i64 K, .int .i64 N] 43)).alloc (.cells #[u1, .int .i64 K, .int .i64 N] 43)).drewN q).cell? ⟨w.heap.size, 2, none⟩ = some (.int .i64 N) := z2
  have a3 : (((w.alloc (.cells #[v1, .int .i64 K, .int .i64 N] 43)).alloc (.cells #[u1, .int .i64 K, .int .i64 N] 43)).drewN q).cell? ⟨w.heap.size + 1, 1, none⟩ = some (.int .i64 K) := y1
  have a4 : (((w.alloc (.cells #[v1, .int .i64 K, .int .i64 N] 43)).alloc (.cells #[u1, .int .i64 K, .int .i64 N] 43)).drewN q).cell? ⟨w.heap.size + 1, 2, none⟩ = some (.int .i64 N) := y2
  have HF := HB.out q
  have HF2 : Hid (Below w.heap.size w (((w.alloc (.cells #[v1, .int .i64 K, .int .i64 N] 43)).alloc (.cells #[u1, .int .i64 K, .int .i64 N] 43)).drewN q)) := HF
  have qK : (K != K) = false := by simp
  have qN : (N != N) = false := by simp
  clear z0 z1 z2 y0 y1 y2 H2 HB HF hba
  generalize ((w.alloc (.cells #[v1, .int .i64 K, .int .i64 N] 43)).alloc (.cells #[u1, .int .i64 K, .int .i64 N] 43)).drewN q = W at *
  go_wp2
  go_ret
  exact ⟨rfl, HF2.out⟩

set_option maxRecDepth 100000 in
set_option maxHeartbeats 1000000 in
theorem szTrust_row (v1 : Value) (g1 o1 : Nat) (R : List ByteArray) (K N : Int) (x : Int) (w : World) (h1 : IsRowT w v1 g1 o1 R) (h0 : 0 ≤ x) (hx : x ≤ 1048576) :
    Calls Try.prog 17 #[.agg #[v1, .int .i64 K, .int .i64 N], .int .i64 x] w fun e w' => ∃ A : Int, e = .returned (.int .i64 A) ∧ Below w.heap.size w w' ∧ A ≤ x ∧ (0 ≤ A → SS w v1 g1 o1 R ∧ (∀ t ∈ R, t.size ≤ 1048576) ∧ R.length ≤ 1048576) := by
  have hba : Below w.heap.size w (w.alloc (.cells #[v1, .int .i64 K, .int .i64 N] 40)) := below_alloc _ _
  have hz := szStringS_row v1 g1 o1 R x _ (h1.later hba) h0 hx
  have HI : Hid (IsRowT w v1 g1 o1 R) := h1
  clear h1
  go_enter Try.func17, Try.ntmps17
  go_wp2_with fail
  refine hz.mono ?_
  rintro e w2 ⟨A2, rfl, hw2, hA2x, hA2⟩
  subst hw2
  have HA2 : Hid (0 ≤ A2 → SS w v1 g1 o1 R ∧ (∀ t ∈ R, t.size ≤ 1048576) ∧ R.length ≤ 1048576) := fun h => by
    obtain ⟨_, _, h5, h6⟩ := hA2 h
    obtain ⟨a, n, cap, hv, hn, hr⟩ := HI.out
    obtain ⟨_, c', hv', _⟩ := (hA2 h).1
    have hn2 : n = R.length := by rw [hv] at hv'; simp at hv'; exact hv'.2.1
    exact ⟨(hr (by omega)).2.1, h5, h6⟩
  clear hz hA2 HI
  by_cases hneg2 : A2 < 0
  · go_wp2
    go_ret
    exact ⟨_, rfl, hba, by omega, fun h => by omega⟩
  · go_wp2
    go_ret
    exact ⟨_, rfl, hba, by omega, fun h => HA2.out h⟩

/-- what a law makes of a trust that it was handed -/
def ToT (R : List ByteArray) (K N : Int) (w : World) (e : Ending) (w' : World) : Prop := ∃ k1, e = .returned (.agg #[.slice (some ⟨k1, 0, none⟩) R.length R.length, .int .i64 K, .int .i64 N]) ∧ TS w' (.slice (some ⟨k1, 0, none⟩) R.length R.length) k1 R ∧ w.heap.size ≤ k1 ∧ Below w.heap.size w w'

set_option maxRecDepth 100000 in
set_option maxHeartbeats 2000000 in
theorem toTrust_any (v1 : Value) (g1 o1 : Nat) (R : List ByteArray) (K N : Int) (w : World) (h1 : SS w v1 g1 o1 R) :
    Calls Try.prog 19 #[.agg #[v1, .int .i64 K, .int .i64 N]] w (ToT R K N w) := by
  have hlR : R.length ≤ 1100000 := by obtain ⟨_, _, _, h, _⟩ := h1; exact h
  have H2 : Hid (∀ W, Below w.heap.size w W → Calls Try.prog 37 #[v1] W fun e w' => ∃ g, e = .returned (.slice (some ⟨g, 0, none⟩) R.length R.length) ∧ W.heap.size ≤ g ∧ TB w' g R ∧ Below W.heap.size W w') := fun W hW => by
    have h := h1.below hW h1.lt
    exact toStringS_any v1 g1 o1 R W h h.lt
  have HA0 : Hid (∀ W, W = ((w.alloc (.cells #[v1, .int .i64 K, .int .i64 N] 40)).alloc (.cells #[.slice none 0 0, .int .i64 0, .int .i64 0] 43)).alloc (.cells #[.slice none 0 0, .int .i64 0, .int .i64 0] 43) → Box 40 W w.heap.size [v1, .int .i64 K, .int .i64 N] ∧ Box 43 W (w.heap.size + 1) [.slice none 0 0, .int .i64 0, .int .i64 0] ∧ Box 43 W (w.heap.size + 2) [.slice none 0 0, .int .i64 0, .int .i64 0] ∧ Below w.heap.size w W ∧ W.heap.size = w.heap.size + 3) := fun W hW => by
    subst hW
    refine ⟨((Box.new _ w _).later (below_alloc _ _)).later (below_alloc _ _), ?_, ?_, ((below_alloc _ _).alloc (by simp) _).alloc (by simp; omega) _, by simp⟩
    · have h2 : Box 43 ((w.alloc (.cells #[v1, .int .i64 K, .int .i64 N] 40)).alloc (.cells #[.slice none 0 0, .int .i64 0, .int .i64 0] 43)) (w.heap.size + 1) [.slice none 0 0, .int .i64 0, .int .i64 0] := alloc_fst _ _ (by simp)
      exact h2.later (below_alloc _ _)
    · exact alloc_fst _ _ (by simp)
  obtain ⟨X0, P1, P2, b0, zs⟩ := HA0.out _ rfl
  have x0 := X0.at 0 _ rfl
  have x1 := X0.at 1 _ rfl
  have x2 := X0.at 2 _ rfl
  have HQ : Hid (∀ W, Below (((w.alloc (.cells #[v1, .int .i64 K, .int .i64 N] 40)).alloc (.cells #[.slice none 0 0, .int .i64 0, .int .i64 0] 43)).alloc (.cells #[.slice none 0 0, .int .i64 0, .int .i64 0] 43)).heap.size (((w.alloc (.cells #[v1, .int .i64 K, .int .i64 N] 40)).alloc (.cells #[.slice none 0 0, .int .i64 0, .int .i64 0] 43)).alloc (.cells #[.slice none 0 0, .int .i64 0, .int .i64 0] 43)) W → Box 40 W w.heap.size [v1, .int .i64 K, .int .i64 N] ∧ Box 43 W (w.heap.size + 1) [.slice none 0 0, .int .i64 0, .int .i64 0] ∧ Box 43 W (w.heap.size + 2) [.slice none 0 0, .int .i64 0, .int .i64 0] ∧ Below w.heap.size w W) := fun W hW => ⟨X0.later hW, P1.later hW, P2.later hW, b0.trans (hW.mono b0.size)⟩
  obtain ⟨Post, hPost⟩ : ∃ P, ToT R K N w = P := ⟨_, rfl⟩
  have HP : Hid (ToT R K N w = Post) := hPost
  rw [hPost]
  clear h1 HA0 P1 P2 X0 hPost
  go_enter Try.func19, Try.ntmps19
  go_wp2_with fail
  refine (H2.out _ b0).mono ?_
  rintro e w1 ⟨k1, rfl, hk1, ht1, hb1⟩
  rw [zs] at hk1
  obtain ⟨X1, P1, P2, b1⟩ := HQ.out _ hb1
  have y1 := X1.at 1 _ rfl
  have y2 := X1.at 2 _ rfl
  have c0 := P2.at 0 _ rfl
  have c1 := P2.at 1 _ rfl
  have c2 := P2.at 2 _ rfl
  have f0 := P2.fz 0
  have f1 := P2.fz 1
  have f2 := P2.fz 2
  have hg0 := grown_setC w1 (w.heap.size + 2) 0 (.slice (some ⟨k1, 0, none⟩) R.length R.length)
  have hg1 := grown_setC (w1.setCell ⟨w.heap.size + 2, 0, none⟩ (.slice (some ⟨k1, 0, none⟩) R.length R.length)) (w.heap.size + 2) 1 (.int .i64 K)
  have hg2 := grown_setC ((w1.setCell ⟨w.heap.size + 2, 0, none⟩ (.slice (some ⟨k1, 0, none⟩) R.length R.length)).setCell ⟨w.heap.size + 2, 1, none⟩ (.int .i64 K)) (w.heap.size + 2) 2 (.int .i64 N)
  have hg := (hg0.trans hg1).trans hg2
  have HA2 : Hid (Box 43 (((w1.setCell ⟨w.heap.size + 2, 0, none⟩ (.slice (some ⟨k1, 0, none⟩) R.length R.length)).setCell ⟨w.heap.size + 2, 1, none⟩ (.int .i64 K)).setCell ⟨w.heap.size + 2, 2, none⟩ (.int .i64 N)) (w.heap.size + 1) [.slice none 0 0, .int .i64 0, .int .i64 0] ∧ Box 43 (((w1.setCell ⟨w.heap.size + 2, 0, none⟩ (.slice (some ⟨k1, 0, none⟩) R.length R.length)).setCell ⟨w.heap.size + 2, 1, none⟩ (.int .i64 K)).setCell ⟨w.heap.size + 2, 2, none⟩ (.int .i64 N)) (w.heap.size + 2) [.slice (some ⟨k1, 0, none⟩) R.length R.length, .int .i64 K, .int .i64 N] ∧ TS (((w1.setCell ⟨w.heap.size + 2, 0, none⟩ (.slice (some ⟨k1, 0, none⟩) R.length R.length)).setCell ⟨w.heap.size + 2, 1, none⟩ (.int .i64 K)).setCell ⟨w.heap.size + 2, 2, none⟩ (.int .i64 N)) (.slice (some ⟨k1, 0, none⟩) R.length R.length) k1 R ∧ Below w.heap.size w (((w1.setCell ⟨w.heap.size + 2, 0, none⟩ (.slice (some ⟨k1, 0, none⟩) R.length R.length)).setCell ⟨w.heap.size + 2, 1, none⟩ (.int .i64 K)).setCell ⟨w.heap.size + 2, 2, none⟩ (.int .i64 N))) :=
    ⟨P1.grown hg (by simp), ((P2.set 0 _).set 1 _).set 2 _, (ht1.ts R.length R.length rfl hlR).keptG hg (fun _ => by simp; omega), b1.grown hg b1.size (fun k hk => by simp at hk; omega)⟩
  have hne0 : w.heap.size ≠ w.heap.size + 2 := by omega
  clear HQ x0 x1 x2 H2 ht1 hb1 P1 P2 X1 b1 hg hg0 hg1 hg2 b0
  go_upto_region 5 with fail
  generalize (((w1.setCell ⟨w.heap.size + 2, 0, none⟩ (.slice (some ⟨k1, 0, none⟩) R.length R.length)).setCell ⟨w.heap.size + 2, 1, none⟩ (.int .i64 K)).setCell ⟨w.heap.size + 2, 2, none⟩ (.int .i64 N)) = W4 at *
  clear c0 c1 c2 f0 f1 f2 y1 y2
  go_wp2_with (first | (refine wp_loadTr rfl _ rfl (w.heap.size + 2) _ _ _ rfl HA2.out.2.1 ?_) | (refine wp_storeTr rfl _ _ rfl (w.heap.size + 1) _ _ _ _ _ _ HA2.out.1 rfl rfl rfl rfl rfl ?_; intro hfin) | fail)
  refine ret_tr 2 (w.heap.size + 1) _ _ _ rfl rfl rfl hfin ?_
  rw [← HP.out]
  obtain ⟨_, _, ht, hb⟩ := HA2.out
  have hgr := grown_setRowP W4 (w.heap.size + 1) #[.slice (some ⟨k1, 0, none⟩) R.length R.length, .int .i64 K, .int .i64 N]
  exact ⟨k1, rfl, ht.keptG hgr (fun _ => by simp; omega), by omega, below_row hb (by omega)⟩

set_option maxRecDepth 100000 in
set_option maxHeartbeats 2000000 in
theorem trustOkLaw_any (v1 : Value) (g1 o1 : Nat) (R : List ByteArray) (K N : Int) (w : World) (h1 : IsRowT w v1 g1 o1 R) :
    Calls Try.prog 5 #[.agg #[v1, .int .i64 K, .int .i64 N]] w fun e w' => e = .returned (.bool true) ∧ Below w.heap.size w w' := by
  have HX : Hid (Below w.heap.size w (w.alloc (.cells #[v1, .int .i64 K, .int .i64 N] 40)) ∧ Box 40 (w.alloc (.cells #[v1, .int .i64 K, .int .i64 N] 40)) w.heap.size [v1, .int .i64 K, .int .i64 N]) := ⟨below_alloc _ _, Box.new _ _ _⟩
  have hsz := szTrust_row v1 g1 o1 R K N 1048576 _ (h1.later HX.out.1) (by omega) (by omega)
  clear h1
  go_enter Try.func5, Try.ntmps5
  go_wp2_with fail
  refine hsz.mono ?_
  rintro e w1 ⟨A, rfl, hb1, _, hA⟩
  have HX1 : Hid (Below w.heap.size w w1 ∧ Box 40 w1 w.heap.size [v1, .int .i64 K, .int .i64 N]) := ⟨HX.out.1.trans (hb1.mono HX.out.1.size), HX.out.2.later hb1⟩
  clear hsz
  by_cases hneg : A < 0
  · clear hA HX
    go_wp2
    go_ret
    exact ⟨rfl, HX1.out.1⟩
  obtain ⟨hss, hst, hsl⟩ := hA (by omega)
  clear hA
  have hss1 := hss.below hb1 hss.lt
  have HTO : Hid (∀ W, Below w1.heap.size w1 W → Calls Try.prog 19 #[.agg #[v1, .int .i64 K, .int .i64 N]] W (ToT R K N W)) := fun W hW => toTrust_any v1 g1 o1 R K N W (hss1.below hW hss1.lt)
  have HCS : Hid (∀ W k1, TS W (.slice (some ⟨k1, 0, none⟩) R.length R.length) k1 R → Calls Try.prog 18 #[.agg #[.slice (some ⟨k1, 0, none⟩) R.length R.length, .int .i64 K, .int .i64 N]] W fun e w' => e = .returned (.bool (tkB R K N)) ∧ Below W.heap.size W w') := fun W k1 h => sTrustOk_any _ k1 0 R K N W h.ss
  have HCI : Hid (∀ W k1, TS W (.slice (some ⟨k1, 0, none⟩) R.length R.length) k1 R → Calls Try.prog 20 #[.agg #[.slice (some ⟨k1, 0, none⟩) R.length R.length, .int .i64 K, .int .i64 N]] W fun e w' => e = .returned (.bool (tkB R K N)) ∧ Below W.heap.size W w') := fun W k1 h => TrustOk_any _ k1 0 R K N W h.ss
  have HEQ : Hid (∀ W j i, TS W (.slice (some ⟨j, 0, none⟩) R.length R.length) j R → TS W (.slice (some ⟨i, 0, none⟩) R.length R.length) i R → Calls Try.prog 21 #[.agg #[.slice (some ⟨j, 0, none⟩) R.length R.length, .int .i64 K, .int .i64 N], .agg #[.slice (some ⟨i, 0, none⟩) R.length R.length, .int .i64 K, .int .i64 N]] W fun e w' => e = .returned (.bool true) ∧ Below W.heap.size W w') := fun W j i h h' => eqTrust_yes _ _ j 0 i 0 R K N W h.ss h'.ss
  unfold ToT at HTO
  generalize tkB R K N = B at *
  have p0 := HX1.out.2.at 0 _ rfl
  have p1 := HX1.out.2.at 1 _ rfl
  have p2 := HX1.out.2.at 2 _ rfl
  clear hss hss1 hst hb1 HX
  go_wp2_with fail
  refine (HTO.out _ (Below.refl _ _)).mono ?_
  rintro e w2 ⟨k1, rfl, ht2, _, hb2⟩
  go_wp2_with fail
  refine (HCS.out _ _ ht2).mono ?_
  rintro e w3 ⟨rfl, hb3⟩
  have hb13 := hb2.trans (hb3.mono hb2.size)
  have X3 := HX1.out.2.later hb13
  clear ht2 hb2 hb3 HCS p0 p1 p2
  have p0 := X3.at 0 _ rfl
  have p1 := X3.at 1 _ rfl
  have p2 := X3.at 2 _ rfl
  go_wp2_with fail
  refine (HTO.out _ hb13).mono ?_
  rintro e w4 ⟨j1, rfl, ht4, _, hb4⟩
  have hb14 := hb13.trans (hb4.mono hb13.size)
  have hba : Below w4.heap.size w4 (w4.alloc (.cells #[.slice (some ⟨j1, 0, none⟩) R.length R.length, .int .i64 K, .int .i64 N] 43)) := below_alloc _ _
  have hpn := Box.new 43 w4 [.slice (some ⟨j1, 0, none⟩) R.length R.length, .int .i64 K, .int .i64 N]
  have ht5 := ht4.later hba
  have hb15 := hb14.trans (hba.mono hb14.size)
  clear ht4 hb4 hb13 hb14 X3 p0 p1 p2
  go_wp2_with fail
  refine (HCI.out _ _ ht5).mono ?_
  rintro e w6 ⟨rfl, hb6⟩
  have hb16 := hb15.trans (hb6.mono hb15.size)
  have HP6 : Hid (Box 43 w6 w4.heap.size [.slice (some ⟨j1, 0, none⟩) R.length R.length, .int .i64 K, .int .i64 N] ∧ Box 40 w6 w.heap.size [v1, .int .i64 K, .int .i64 N] ∧ TS w6 (.slice (some ⟨j1, 0, none⟩) R.length R.length) j1 R) := ⟨hpn.later hb6, HX1.out.2.later hb16, ht5.later hb6⟩
  have HX7 := HX1.out.1.trans (hb16.mono HX1.out.1.size)
  clear ht5 hpn hb6 HCI hb15 hba
  have HK : Hid (∀ W, Below w6.heap.size w6 W → (W.cell? ⟨w4.heap.size, 0, none⟩ = some (.slice (some ⟨j1, 0, none⟩) R.length R.length) ∧ W.cell? ⟨w4.heap.size, 1, none⟩ = some (.int .i64 K) ∧ W.cell? ⟨w4.heap.size, 2, none⟩ = some (.int .i64 N) ∧ W.cell? ⟨w.heap.size, 0, none⟩ = some v1 ∧ W.cell? ⟨w.heap.size, 1, none⟩ = some (.int .i64 K) ∧ W.cell? ⟨w.heap.size, 2, none⟩ = some (.int .i64 N))) := fun W hW => ⟨(HP6.out.1.later hW).at 0 _ rfl, (HP6.out.1.later hW).at 1 _ rfl, (HP6.out.1.later hW).at 2 _ rfl, (HP6.out.2.1.later hW).at 0 _ rfl, (HP6.out.2.1.later hW).at 1 _ rfl, (HP6.out.2.1.later hW).at 2 _ rfl⟩
  have HTO6 : Hid (∀ W, Below w6.heap.size w6 W → Calls Try.prog 19 #[.agg #[v1, .int .i64 K, .int .i64 N]] W (fun e w' => ∃ k1, e = .returned (.agg #[.slice (some ⟨k1, 0, none⟩) R.length R.length, .int .i64 K, .int .i64 N]) ∧ TS w' (.slice (some ⟨k1, 0, none⟩) R.length R.length) k1 R ∧ W.heap.size ≤ k1 ∧ Below W.heap.size W w')) := fun W hW => HTO.out W (hb16.trans (hW.mono hb16.size))
  have HEQ6 : Hid (∀ W i, Below w6.heap.size w6 W → TS W (.slice (some ⟨i, 0, none⟩) R.length R.length) i R → Calls Try.prog 21 #[.agg #[.slice (some ⟨j1, 0, none⟩) R.length R.length, .int .i64 K, .int .i64 N], .agg #[.slice (some ⟨i, 0, none⟩) R.length R.length, .int .i64 K, .int .i64 N]] W fun e w' => e = .returned (.bool true) ∧ Below W.heap.size W w') := fun W i hW h => HEQ.out W j1 i (HP6.out.2.2.later hW) h
  have hb0 : Below w6.heap.size w6 w6.drew := (Below.refl _ _).drew
  have hqB : (B != B) = false := by simp
  clear HTO HX1 hb16 HEQ
  go_wp2
  go_region_held3 (fun W => W.cell? ⟨w4.heap.size, 0, none⟩ = some (.slice (some ⟨j1, 0, none⟩) R.length R.length) ∧ W.cell? ⟨w4.heap.size, 1, none⟩ = some (.int .i64 K) ∧ W.cell? ⟨w4.heap.size, 2, none⟩ = some (.int .i64 N) ∧ W.cell? ⟨w.heap.size, 0, none⟩ = some v1 ∧ W.cell? ⟨w.heap.size, 1, none⟩ = some (.int .i64 K) ∧ W.cell? ⟨w.heap.size, 2, none⟩ = some (.int .i64 N)) (first | (go_keep; done) | exact HK.out _ hb0) (first | (go_at_call 19; refine (HTO6.out _ hb0).mono ?_; rintro e w7 ⟨i1, rfl, ht7, _, hc7⟩; have hb0 := hb0.trans (hc7.mono hb0.size)) | (go_at_call 21; refine (HEQ6.out _ i1 hb0 ht7).mono ?_; rintro e w8 ⟨rfl, hc8⟩; have hb0 := hb0.trans (hc8.mono hb0.size)) | fail)
  go_wp2
  go_ret
  exact ⟨rfl, HX7.trans (hb0.mono HX7.size)⟩

end Go.Proofs.Ytfojmagcoipbnaa
/-
  A row of leaves that a law is handed.
-/
namespace Go.Proofs.Ytfojmagcoipbnaa
open Go.ChangeShapes Go.WideShapes Go.ChangeAt Go.RowKit
set_option linter.unusedVariables false
set_option linter.unusedSimpArgs false
namespace LV

theorem addr_flat {w : World} {x : Addr} {u : Value} (h : w.cell? x = some u) (j : Nat) : x.add j = ⟨x.block, x.off + j, none⟩ := by
  have hs := World.cell?_spot h
  cases x
  simp at hs
  subst hs
  unfold Addr.add
  split <;> simp_all
theorem addr_zero (x : Addr) : x.add 0 = x := by unfold Addr.add; simp
theorem addr_add (x : Addr) (i j : Nat) : (x.add i).add j = x.add (i + j) := by
  unfold Addr.add
  split <;> split <;> simp_all <;> omega

/-- n records, each read -/
theorem list_of {α : Type} {p : Nat → α → Prop} : ∀ n : Nat, (∀ i, i < n → ∃ f, p i f) → ∃ l : List α, l.length = n ∧ ∀ i (h : i < l.length), p i l[i]
  | 0, _ => ⟨[], rfl, fun i h => absurd h (by simp)⟩
  | n + 1, h => by
    obtain ⟨l, hl, hp⟩ := list_of n (fun i hi => h i (by omega))
    obtain ⟨f, hf⟩ := h n (by omega)
    refine ⟨l ++ [f], by simp [hl], fun i hi => ?_⟩
    rcases Nat.lt_or_ge i l.length with h1 | h1
    · rw [List.getElem_append_left h1]; exact hp i h1
    · have : i = n := by simp at hi; omega
      subst this
      rw [List.getElem_append_right h1]
      simpa using hf

theorem row_at {α : Type} {k : Nat} {enc : α → List Value} {W : World} {a : Addr} {len : Nat} {l : List α} (hk0 : ∀ x, ∃ u r, enc x = u :: r) (hl : l.length = len) (cap : Nat)
    (hp : ∀ i (h : i < l.length), ∀ j u, (enc l[i])[j]? = some u → W.cell? (a.add (i * k + j)) = some u) (hsm : len ≤ 1100000) : RS k enc W (.slice (some a) len cap) a.block a.off l := by
  have hc0 : ∀ h0 : 0 < l.length, ∃ u, W.cell? a = some u := fun h0 => by
    obtain ⟨u, r, e⟩ := hk0 l[0]
    have c0 := hp 0 h0 0 u (by rw [e]; rfl)
    simp only [Nat.zero_mul, Nat.zero_add] at c0
    rw [addr_zero] at c0
    exact ⟨u, c0⟩
  refine ⟨some a, cap, by rw [hl], by omega, fun h0 => ?_, fun j hj i u hu => ?_⟩
  · obtain ⟨u, c0⟩ := hc0 h0
    have e := addr_flat c0 0
    rw [addr_zero] at e
    refine ⟨congrArg some e, ?_⟩
    rw [e] at c0
    exact lt_of_cell c0
  · obtain ⟨u0, c0⟩ := hc0 (by omega)
    have c := hp j hj i u hu
    rw [addr_flat c0] at c
    rw [Nat.add_assoc]
    exact c


theorem cellsLLeaf : Try.prog.cellsOf 120 = 2 := by kernel_rfl
theorem cells9L : Try.prog.cellsOf 9 = 1 := by kernel_rfl

set_option maxRecDepth 100000 in
theorem leaf_of_trod {H : Type} {enc : TypeId × Value → H} {W : World} {fuel : Nat} {cs : List Value} {y : DataW H × List MemPlace} (h : DataW.trod enc Try.prog W 0 (fun _ => true) true fuel 120 cs = some y) :
    ∃ f : Le, cs = lcs f ∧ f.n.size ≤ maxLen ∧ f.v.size ≤ maxLen := by
  obtain ⟨y0, y1, n, _, hl, h0, h1⟩ := trod_struct2 Try.underlying120 h
  rw [cellsLLeaf] at hl
  match cs, hl with
  | [c0, c1], _ =>
    simp [cells9L] at h0 h1
    obtain ⟨s0, e0, _, b0⟩ := DataW.trod_string Try.underlying9 h0
    obtain ⟨s1, e1, _, b1⟩ := DataW.trod_string Try.underlying9 h1
    simp at e0 e1
    exact ⟨⟨s0, s1⟩, by rw [e0, e1]; rfl, b0, b1⟩

set_option maxRecDepth 100000 in
theorem open_leaves {H : Type} {enc : TypeId × Value → H} {W : World} {base : Nat} {v : Value} {d : DataW H} {p : List MemPlace} (hv : Value.okWide Try.prog W .any base 22 v) (h : DataW.Trod enc Try.prog W 0 (fun _ => true) true 22 v d p) :
    ∃ g o l, IsRowL W v g o l := by
  obtain ⟨a, len, cap, rfl⟩ := okWide_slice Try.underlying22 hv
  obtain ⟨fuel, hf⟩ := h
  rcases Deep.open_slice Try.underlying22 hf with ⟨hcs, _⟩ | ⟨a, len, cap, m, n, D, Pl, hcs, _, hlc, hcm, hm, _, hx⟩
  · simp [Value.cells] at hcs
    obtain ⟨rfl, rfl, rfl⟩ := hcs
    exact ⟨0, 0, [], none, 0, 0, rfl, by omega, fun _ => ⟨rfl, RS.nil W 0 0, fun f hf => absurd hf (by simp)⟩⟩
  · simp [Value.cells] at hcs
    obtain ⟨rfl, rfl, rfl⟩ := hcs
    have hx' : ∀ i, i < len → ∃ f : Le, (∀ j u, (lcs f)[j]? = some u → W.cell? (a.add (i * 2 + j)) = some u) ∧ f.n.size ≤ maxLen ∧ f.v.size ≤ maxLen := fun i hi => by
      obtain ⟨cs', h1, h2⟩ := hx i (by rw [hm]; split <;> omega)
      obtain ⟨f, rfl, b0, b1⟩ := leaf_of_trod h2
      rw [cellsLLeaf] at h1
      obtain ⟨_, _, hc⟩ := World.cells?_some h1
      refine ⟨f, fun j u hu => ?_, b0, b1⟩
      have hj : j < 2 := by have := (List.getElem?_eq_some_iff.1 hu).1; simpa [lcs] using this
      have := hc j hj
      rw [addr_add] at this
      rw [this, hu]
    obtain ⟨l, hl, hp⟩ := list_of len hx'
    refine ⟨a.block, a.off, l, some a, len, cap, rfl, by unfold maxLen at hcm; omega, fun hsm => ⟨hl, row_at (fun x => ⟨_, _, rfl⟩) hl cap (fun i h => (hp i h).1) hsm, fun f hf => ?_⟩⟩
    obtain ⟨j, hj, rfl⟩ := List.getElem_of_mem hf
    have := (hp j hj).2
    unfold maxLen at this
    exact this

end LV
end Go.Proofs.Ytfojmagcoipbnaa
/-
  A proof that a law is handed: a row of leaves and a row of texts that were there.
-/
namespace Go.Proofs.Ytfojmagcoipbnaa
open Go.ChangeShapes Go.WideShapes Go.ChangeAt Go.RowKit
set_option linter.unusedVariables false
set_option linter.unusedSimpArgs false

theorem cellsPf : Try.prog.cellsOf 25 = 2 := by kernel_rfl
theorem cells9P : Try.prog.cellsOf 9 = 1 := by kernel_rfl

theorem rowT_of_trod {H : Type} {enc : TypeId × Value → H} {W : World} {fuel : Nat} {v : Value} {y : DataW H × List MemPlace} (h : DataW.trod enc Try.prog W 0 (fun _ => true) true fuel 23 [v] = some y) :
    ∃ g o l, IsRowT W v g o l := by
  rcases open_strings Try.underlying23 Try.underlying9 cells9P h with ⟨hcs, _⟩ | ⟨x, l, c, zs, hcs, _, hl, hm, hz, _, hcell, hwz⟩
  · simp at hcs
    subst hcs
    exact rowT_of (z := []) (.inl ⟨rfl, rfl, rfl, rfl⟩)
  · simp at hcs
    subst hcs
    exact rowT_of (z := zs) (.inr ⟨_, rfl, hl, hm, by simp at hz; omega, hcell, hwz⟩)

namespace LV
set_option maxRecDepth 100000 in
theorem rowL_of_trod {H : Type} {enc : TypeId × Value → H} {W : World} {fuel : Nat} {v : Value} {y : DataW H × List MemPlace} (hf : DataW.trod enc Try.prog W 0 (fun _ => true) true fuel 22 [v] = some y) :
    ∃ g o l, IsRowL W v g o l := by
  rcases Deep.open_slice Try.underlying22 hf with ⟨hcs, _⟩ | ⟨a, len, cap, m, n, D, Pl, hcs, _, hlc, hcm, hm, _, hx⟩
  · simp at hcs
    subst hcs
    exact ⟨0, 0, [], none, 0, 0, rfl, by omega, fun _ => ⟨rfl, RS.nil W 0 0, fun f hf => absurd hf (by simp)⟩⟩
  · simp at hcs
    subst hcs
    have hx' : ∀ i, i < len → ∃ f : Le, (∀ j u, (lcs f)[j]? = some u → W.cell? (a.add (i * 2 + j)) = some u) ∧ f.n.size ≤ maxLen ∧ f.v.size ≤ maxLen := fun i hi => by
      obtain ⟨cs', h1, h2⟩ := hx i (by rw [hm]; split <;> omega)
      obtain ⟨f, rfl, b0, b1⟩ := leaf_of_trod h2
      rw [cellsLLeaf] at h1
      obtain ⟨_, _, hc⟩ := World.cells?_some h1
      refine ⟨f, fun j u hu => ?_, b0, b1⟩
      have hj : j < 2 := by have := (List.getElem?_eq_some_iff.1 hu).1; simpa [lcs] using this
      have := hc j hj
      rw [addr_add] at this
      rw [this, hu]
    obtain ⟨l, hl, hp⟩ := list_of len hx'
    refine ⟨a.block, a.off, l, some a, len, cap, rfl, by unfold maxLen at hcm; omega, fun hsm => ⟨hl, row_at (fun x => ⟨_, _, rfl⟩) hl cap (fun i h => (hp i h).1) hsm, fun f hf => ?_⟩⟩
    obtain ⟨j, hj, rfl⟩ := List.getElem_of_mem hf
    have := (hp j hj).2
    unfold maxLen at this
    exact this
end LV

set_option maxRecDepth 100000 in
theorem open_proof {H : Type} {enc : TypeId × Value → H} {W : World} {base : Nat} {v : Value} {d : DataW H} {p : List MemPlace} (hv : Value.okWide Try.prog W .any base 25 v) (h : DataW.Trod enc Try.prog W 0 (fun _ => true) true 25 v d p) :
    ∃ (v1 v2 : Value) (g1 o1 g2 o2 : Nat) (L : List Le) (S : List ByteArray), v = .agg #[v1, v2] ∧ IsRowL W v1 g1 o1 L ∧ IsRowT W v2 g2 o2 S := by
  obtain ⟨v0, v1, y0, y1, n, rfl, _, _, h0, h1⟩ := Joins.open_agg2 Try.underlying25 (by kernel_rfl) cellsPf hv h
  obtain ⟨g1, o1, L, r1⟩ := LV.rowL_of_trod h0
  obtain ⟨g2, o2, S, r2⟩ := rowT_of_trod h1
  exact ⟨v0, v1, g1, o1, g2, o2, L, S, rfl, r1, r2⟩

end Go.Proofs.Ytfojmagcoipbnaa
/-
  A trust that a law is handed: a row of texts that was there, and two numbers.
-/
namespace Go.Proofs.Ytfojmagcoipbnaa
open Go.ChangeShapes Go.WideShapes Go.ChangeAt Go.RowKit
set_option linter.unusedVariables false
set_option linter.unusedSimpArgs false

theorem cellsTrL : Try.prog.cellsOf 40 = 3 := by kernel_rfl
theorem cells3T : Try.prog.cellsOf 3 = 1 := by kernel_rfl
theorem cellsTST : Try.prog.cellsOf 23 = 1 := by kernel_rfl

set_option maxRecDepth 100000 in
theorem open_trust {H : Type} {enc : TypeId × Value → H} {W : World} {base : Nat} {v : Value} {d : DataW H} {p : List MemPlace} (hv : Value.okWide Try.prog W .any base 40 v) (h : DataW.Trod enc Try.prog W 0 (fun _ => true) true 40 v d p) :
    ∃ (v1 : Value) (g1 o1 : Nat) (R : List ByteArray) (K N : Int), v = .agg #[v1, .int .i64 K, .int .i64 N] ∧ IsRowT W v1 g1 o1 R := by
  obtain ⟨cs, rfl, hsz⟩ := okWide_struct Try.underlying40 hv
  obtain ⟨fuel, hf⟩ := h
  obtain ⟨y0, y1, y2, n, _, hl, h0, h1, h2⟩ := Deep.trod_struct3 Try.underlying40 hf
  rw [cellsTrL] at hl
  obtain ⟨l⟩ := cs
  have hl' : l.length = 3 := by simpa [Value.cells] using hl
  match l, hl' with
  | [c0, c1, c2], _ =>
    simp [Value.cells, cells3T, cellsTST] at h0 h1 h2
    obtain ⟨g1, o1, R, r1⟩ := rowT_of_trod h0
    obtain ⟨i1, e1, _, _⟩ := DataW.trod_int Try.underlying3 h1
    obtain ⟨i2, e2, _, _⟩ := DataW.trod_int Try.underlying3 h2
    simp at e1 e2
    subst e1
    subst e2
    exact ⟨c0, g1, o1, R, i1, i2, rfl, r1⟩

end Go.Proofs.Ytfojmagcoipbnaa
