/-
  Texts laid together: Wz, Sgm, Form, Rsg.
-/
import Derived.Test.YtgkfelhjbeegaaaGreatDoorV09
import Derived.Lib.SmallJoins
import Derived.ProofKit
import Derived.Deep.RegionHeld3
import Derived.Deep.CutRange
import Derived.Test.YtgkfelhjbeegaaaGreatDoorV03
import Derived.Laws.Rows
import Derived.Laws.Tables
import Derived.Test.YtgkfelhjbeegaaaGreatDoorV01
import Derived.Test.YtgkfelhjbeegaaaGreatDoorV02
import Derived.Test.YtgkfelhjbeegaaaGreatDoorV06
import Derived.Laws.DeepStrings4
/-
  What the laws' own helpers do with trusts: measured, taken over, compared; the walk of the law FnExactTrustOk.
-/
namespace Go.Proofs.YtgkfelhjbeegaaaGreatDoor
open Go.RowKit Go.BigFrame Go.Sort
set_option linter.unusedVariables false
set_option linter.unusedSimpArgs false

theorem sizeTr : (Tryz.prog.info? 41).map (·.size) = some 3 := by kernel_rfl
theorem load_tr {w : World} {g : Nat} {v1 v2 v3 : Value} (hA : Box 41 w g [v1, v2, v3]) : (loadVar 41 ⟨g, 0, none⟩).run Tryz.prog w = .ok (.agg #[v1, v2, v3]) w :=
  run_loadVar_row (P := Tryz.prog) w g 41 41 _ (0, 0) _ hA Tryz.underlying41 rfl sizeTr
section
variable {w : World} {ops : Array Oper} {rest : List Oper} {o : Oper} {a : Act} {Q : Exit → Act → World → Prop}
theorem wp_loadTr (hgd : o.guard = none) (p : Operand) (ho : o.op = .load 41 p) (g : Nat) (v1 v2 v3 : Value) (hp : a.eval p = .pointer (some ⟨g, 0, none⟩)) (hA : Box 41 w g [v1, v2, v3])
    (h : wpList Tryz.prog ops Q rest (a.put o.dst (.agg #[v1, v2, v3])) w) : wpList Tryz.prog ops Q (o :: rest) a w := by
  refine wpList_plain hgd fun K hK => ?_
  have hr : (Instr.loadAt 41 (.pointer (some ⟨g, 0, none⟩))).run Tryz.prog w = .ok (.agg #[v1, v2, v3]) w := by
    simp only [Instr.loadAt, Instr.sureAddr, Sem.run_bind, Sem.run_pure, Result.andThen]
    exact load_tr hA
  unfold Oper.wp
  simp [execOp, ho, hp, hr, Result.andThen]
  exact hK _ _ h
theorem wp_storeTr (hgd : o.guard = none) (p v : Operand) (ho : o.op = .store 41 p v) (g : Nat) (v1 v2 v3 u1 u2 u3 : Value) (hA : Box 41 w g [v1, v2, v3]) (hp : a.eval p = .pointer (some ⟨g, 0, none⟩)) (hv : a.eval v = .agg #[u1, u2, u3])
    (h1 : u1.oneCell' = true) (h2 : u2.oneCell' = true) (h3 : u3.oneCell' = true)
    (h : Box 41 (w.setRow g #[u1, u2, u3]) g [u1, u2, u3] → wpList Tryz.prog ops Q rest (a.put o.dst (.tuple #[])) (w.setRow g #[u1, u2, u3])) : wpList Tryz.prog ops Q (o :: rest) a w := by
  refine wpList_plain hgd fun K hK => ?_
  have hr : (Instr.storeAt 41 (.pointer (some ⟨g, 0, none⟩)) (.agg #[u1, u2, u3])).run Tryz.prog w = .ok () (w.setRow g #[u1, u2, u3]) := by
    simp only [Instr.storeAt, Instr.sureAddr, Sem.run_bind, Sem.run_pure, Result.andThen]
    refine run_storeVar_row w g 41 41 _ _ hA sizeTr rfl ?_
    simp [h1, h2, h3]
  unfold Oper.wp
  simp [execOp, ho, hp, hv, hr, Result.andThen]
  exact hK _ _ (h (setRow_heap w g _ _ _ _ hA))
end
theorem ret_tr {fn : Func} {Rp : Ending → World → Prop} {a : Act} {w : World} (c g : Nat) (v1 v2 v3 : Value) (hres : fn.results = #[.cell c 41]) (hd : a.defers = []) (hp : a.tmps.getD c undef = .pointer (some ⟨g, 0, none⟩)) (hA : Box 41 w g [v1, v2, v3]) (h : Rp (.returned (.agg #[v1, v2, v3])) w) : bodyPost Tryz.prog fn Rp .ret a w :=
  ret_rec c g 41 [v1, v2, v3] _ hres hd hp Tryz.underlying41 rfl sizeTr hA.range h

set_option maxRecDepth 100000 in
set_option maxHeartbeats 1000000 in
theorem eqTrust_yes (v1 u1 : Value) (g1 o1 p1 q1 : Nat) (R : List ByteArray) (K N : Int) (w : World) (h1 : SS w v1 g1 o1 R) (k1 : SS w u1 p1 q1 R) :
    Calls Tryz.prog 10 #[.agg #[v1, .int .i64 K, .int .i64 N], .agg #[u1, .int .i64 K, .int .i64 N]] w fun e w' => e = .returned (.bool true) ∧ Below w.heap.size w w' := by
  have H2 : Hid (∀ W, Below w.heap.size w W → Calls Tryz.prog 30 #[v1, u1] W fun e w' => e = .returned (.bool true) ∧ ∃ q, w' = W.drewN q) := fun W hW => eqStringS_yes v1 u1 g1 o1 p1 q1 R W (h1.below hW h1.lt) (k1.below hW k1.lt)
  have hA : Box 41 ((w.alloc (.cells #[v1, .int .i64 K, .int .i64 N] 41)).alloc (.cells #[u1, .int .i64 K, .int .i64 N] 41)) w.heap.size [v1, .int .i64 K, .int .i64 N] := (Box.new _ w _).later (below_alloc _ _)
  have hB : Box 41 ((w.alloc (.cells #[v1, .int .i64 K, .int .i64 N] 41)).alloc (.cells #[u1, .int .i64 K, .int .i64 N] 41)) (w.heap.size + 1) [u1, .int .i64 K, .int .i64 N] := alloc_fst _ _ (by simp)
  have hba : Below w.heap.size w ((w.alloc (.cells #[v1, .int .i64 K, .int .i64 N] 41)).alloc (.cells #[u1, .int .i64 K, .int .i64 N] 41)) := (below_alloc _ _).alloc (by simp) _
  have HB : Hid (∀ q, Below w.heap.size w (((w.alloc (.cells #[v1, .int .i64 K, .int .i64 N] 41)).alloc (.cells #[u1, .int .i64 K, .int .i64 N] 41)).drewN q)) := fun q => below_drn hba q
  have z0 := hA.at 0 _ rfl
  have z1 := hA.at 1 _ rfl
  have z2 := hA.at 2 _ rfl
  have y0 := hB.at 0 _ rfl
  have y1 := hB.at 1 _ rfl
  have y2 := hB.at 2 _ rfl
  clear h1 k1 hA hB
  go_enter Tryz.func10, Tryz.ntmps10
  go_wp2_with fail
  refine (H2.out _ hba).mono ?_
  rintro e w2 ⟨rfl, q, rfl⟩
  have a1 : (((w.alloc (.cells #[v1, .int .i64 K, .int .i64 N] 41)).alloc (.cells #[u1, .int .i64 K, .int .i64 N] 41)).drewN q).cell? ⟨w.heap.size, 1, none⟩ = some (.int .i64 K) := z1
  have a2 : (((w.alloc (.cells #[v1, .int .i64 K, .int .i64 N] 41)).alloc (.cells #[u1, .int .i64 K, .int .i64 N] 41)).drewN q).cell? ⟨w.heap.size, 2, none⟩ = some (.int .i64 N) := z2
  have a3 : (((w.alloc (.cells #[v1, .int .i64 K, .int .i64 N] 41)).alloc (.cells #[u1, .int .i64 K, .int .i64 N] 41)).drewN q).cell? ⟨w.heap.size + 1, 1, none⟩ = some (.int .i64 K) := y1
  have a4 : (((w.alloc (.cells #[v1, .int .i64 K, .int .i64 N] 41)).alloc (.cells #[u1, .int .i64 K, .int .i64 N] 41)).drewN q).cell? ⟨w.heap.size + 1, 2, none⟩ = some (.int .i64 N) := y2
  have HF := HB.out q
  have HF2 : Hid (Below w.heap.size w (((w.alloc (.cells #[v1, .int .i64 K, .int .i64 N] 41)).alloc (.cells #[u1, .int .i64 K, .int .i64 N] 41)).drewN q)) := HF
  have qK : (K != K) = false := by simp
  have qN : (N != N) = false := by simp
  clear z0 z1 z2 y0 y1 y2 H2 HB HF hba
  generalize ((w.alloc (.cells #[v1, .int .i64 K, .int .i64 N] 41)).alloc (.cells #[u1, .int .i64 K, .int .i64 N] 41)).drewN q = W at *
  go_wp2
  go_ret
  exact ⟨rfl, HF2.out⟩

set_option maxRecDepth 100000 in
set_option maxHeartbeats 1000000 in
theorem szTrust_row (v1 : Value) (g1 o1 : Nat) (R : List ByteArray) (K N : Int) (x : Int) (w : World) (h1 : IsRowT w v1 g1 o1 R) (h0 : 0 ≤ x) (hx : x ≤ 1048576) :
    Calls Tryz.prog 4 #[.agg #[v1, .int .i64 K, .int .i64 N], .int .i64 x] w fun e w' => ∃ A : Int, e = .returned (.int .i64 A) ∧ Below w.heap.size w w' ∧ A ≤ x ∧ (0 ≤ A → SS w v1 g1 o1 R ∧ (∀ t ∈ R, t.size ≤ 1048576) ∧ R.length ≤ 1048576) := by
  have hba : Below w.heap.size w (w.alloc (.cells #[v1, .int .i64 K, .int .i64 N] 24)) := below_alloc _ _
  have hz := szStringS_row v1 g1 o1 R x _ (h1.later hba) h0 hx
  have HI : Hid (IsRowT w v1 g1 o1 R) := h1
  clear h1
  go_enter Tryz.func4, Tryz.ntmps4
  go_wp2_with fail
  refine hz.mono ?_
  rintro e w2 ⟨A2, rfl, hw2, hA2x, hA2⟩
  subst hw2
  have HA2 : Hid (0 ≤ A2 → SS w v1 g1 o1 R ∧ (∀ t ∈ R, t.size ≤ 1048576) ∧ R.length ≤ 1048576) := fun h => by
    obtain ⟨_, _, h5, h6⟩ := hA2 h
    obtain ⟨a, n, cap, hv, hn, hr⟩ := HI.out
    obtain ⟨_, c', hv', _⟩ := (hA2 h).1
    have hn2 : n = R.length := by rw [hv] at hv'; simp at hv'; exact hv'.2.1
    exact ⟨(hr (by omega)).2.1, h5, h6⟩
  clear hz hA2 HI
  by_cases hneg2 : A2 < 0
  · go_wp2
    go_ret
    exact ⟨_, rfl, hba, by omega, fun h => by omega⟩
  · go_wp2
    go_ret
    exact ⟨_, rfl, hba, by omega, fun h => HA2.out h⟩

/-- what a law makes of a trust that it was handed -/
def ToT (R : List ByteArray) (K N : Int) (w : World) (e : Ending) (w' : World) : Prop := ∃ k1, e = .returned (.agg #[.slice (some ⟨k1, 0, none⟩) R.length R.length, .int .i64 K, .int .i64 N]) ∧ TS w' (.slice (some ⟨k1, 0, none⟩) R.length R.length) k1 R ∧ w.heap.size ≤ k1 ∧ Below w.heap.size w w'

set_option maxRecDepth 100000 in
set_option maxHeartbeats 2000000 in
theorem toTrust_any (v1 : Value) (g1 o1 : Nat) (R : List ByteArray) (K N : Int) (w : World) (h1 : SS w v1 g1 o1 R) :
    Calls Tryz.prog 7 #[.agg #[v1, .int .i64 K, .int .i64 N]] w (ToT R K N w) := by
  have hlR : R.length ≤ 1100000 := by obtain ⟨_, _, _, h, _⟩ := h1; exact h
  have H2 : Hid (∀ W, Below w.heap.size w W → Calls Tryz.prog 24 #[v1] W fun e w' => ∃ g, e = .returned (.slice (some ⟨g, 0, none⟩) R.length R.length) ∧ W.heap.size ≤ g ∧ TB w' g R ∧ Below W.heap.size W w') := fun W hW => by
    have h := h1.below hW h1.lt
    exact toStringS_any v1 g1 o1 R W h h.lt
  have HA0 : Hid (∀ W, W = ((w.alloc (.cells #[v1, .int .i64 K, .int .i64 N] 24)).alloc (.cells #[.slice none 0 0, .int .i64 0, .int .i64 0] 41)).alloc (.cells #[.slice none 0 0, .int .i64 0, .int .i64 0] 41) → Box 24 W w.heap.size [v1, .int .i64 K, .int .i64 N] ∧ Box 41 W (w.heap.size + 1) [.slice none 0 0, .int .i64 0, .int .i64 0] ∧ Box 41 W (w.heap.size + 2) [.slice none 0 0, .int .i64 0, .int .i64 0] ∧ Below w.heap.size w W ∧ W.heap.size = w.heap.size + 3) := fun W hW => by
    subst hW
    refine ⟨((Box.new _ w _).later (below_alloc _ _)).later (below_alloc _ _), ?_, ?_, ((below_alloc _ _).alloc (by simp) _).alloc (by simp; omega) _, by simp⟩
    · have h2 : Box 41 ((w.alloc (.cells #[v1, .int .i64 K, .int .i64 N] 24)).alloc (.cells #[.slice none 0 0, .int .i64 0, .int .i64 0] 41)) (w.heap.size + 1) [.slice none 0 0, .int .i64 0, .int .i64 0] := alloc_fst _ _ (by simp)
      exact h2.later (below_alloc _ _)
    · exact alloc_fst _ _ (by simp)
  obtain ⟨X0, P1, P2, b0, zs⟩ := HA0.out _ rfl
  have x0 := X0.at 0 _ rfl
  have x1 := X0.at 1 _ rfl
  have x2 := X0.at 2 _ rfl
  have HQ : Hid (∀ W, Below (((w.alloc (.cells #[v1, .int .i64 K, .int .i64 N] 24)).alloc (.cells #[.slice none 0 0, .int .i64 0, .int .i64 0] 41)).alloc (.cells #[.slice none 0 0, .int .i64 0, .int .i64 0] 41)).heap.size (((w.alloc (.cells #[v1, .int .i64 K, .int .i64 N] 24)).alloc (.cells #[.slice none 0 0, .int .i64 0, .int .i64 0] 41)).alloc (.cells #[.slice none 0 0, .int .i64 0, .int .i64 0] 41)) W → Box 24 W w.heap.size [v1, .int .i64 K, .int .i64 N] ∧ Box 41 W (w.heap.size + 1) [.slice none 0 0, .int .i64 0, .int .i64 0] ∧ Box 41 W (w.heap.size + 2) [.slice none 0 0, .int .i64 0, .int .i64 0] ∧ Below w.heap.size w W) := fun W hW => ⟨X0.later hW, P1.later hW, P2.later hW, b0.trans (hW.mono b0.size)⟩
  obtain ⟨Post, hPost⟩ : ∃ P, ToT R K N w = P := ⟨_, rfl⟩
  have HP : Hid (ToT R K N w = Post) := hPost
  rw [hPost]
  clear h1 HA0 P1 P2 X0 hPost
  go_enter Tryz.func7, Tryz.ntmps7
  go_wp2_with fail
  refine (H2.out _ b0).mono ?_
  rintro e w1 ⟨k1, rfl, hk1, ht1, hb1⟩
  rw [zs] at hk1
  obtain ⟨X1, P1, P2, b1⟩ := HQ.out _ hb1
  have y1 := X1.at 1 _ rfl
  have y2 := X1.at 2 _ rfl
  have c0 := P2.at 0 _ rfl
  have c1 := P2.at 1 _ rfl
  have c2 := P2.at 2 _ rfl
  have f0 := P2.fz 0
  have f1 := P2.fz 1
  have f2 := P2.fz 2
  have hg0 := grown_setC w1 (w.heap.size + 2) 0 (.slice (some ⟨k1, 0, none⟩) R.length R.length)
  have hg1 := grown_setC (w1.setCell ⟨w.heap.size + 2, 0, none⟩ (.slice (some ⟨k1, 0, none⟩) R.length R.length)) (w.heap.size + 2) 1 (.int .i64 K)
  have hg2 := grown_setC ((w1.setCell ⟨w.heap.size + 2, 0, none⟩ (.slice (some ⟨k1, 0, none⟩) R.length R.length)).setCell ⟨w.heap.size + 2, 1, none⟩ (.int .i64 K)) (w.heap.size + 2) 2 (.int .i64 N)
  have hg := (hg0.trans hg1).trans hg2
  have HA2 : Hid (Box 41 (((w1.setCell ⟨w.heap.size + 2, 0, none⟩ (.slice (some ⟨k1, 0, none⟩) R.length R.length)).setCell ⟨w.heap.size + 2, 1, none⟩ (.int .i64 K)).setCell ⟨w.heap.size + 2, 2, none⟩ (.int .i64 N)) (w.heap.size + 1) [.slice none 0 0, .int .i64 0, .int .i64 0] ∧ Box 41 (((w1.setCell ⟨w.heap.size + 2, 0, none⟩ (.slice (some ⟨k1, 0, none⟩) R.length R.length)).setCell ⟨w.heap.size + 2, 1, none⟩ (.int .i64 K)).setCell ⟨w.heap.size + 2, 2, none⟩ (.int .i64 N)) (w.heap.size + 2) [.slice (some ⟨k1, 0, none⟩) R.length R.length, .int .i64 K, .int .i64 N] ∧ TS (((w1.setCell ⟨w.heap.size + 2, 0, none⟩ (.slice (some ⟨k1, 0, none⟩) R.length R.length)).setCell ⟨w.heap.size + 2, 1, none⟩ (.int .i64 K)).setCell ⟨w.heap.size + 2, 2, none⟩ (.int .i64 N)) (.slice (some ⟨k1, 0, none⟩) R.length R.length) k1 R ∧ Below w.heap.size w (((w1.setCell ⟨w.heap.size + 2, 0, none⟩ (.slice (some ⟨k1, 0, none⟩) R.length R.length)).setCell ⟨w.heap.size + 2, 1, none⟩ (.int .i64 K)).setCell ⟨w.heap.size + 2, 2, none⟩ (.int .i64 N))) :=
    ⟨P1.grown hg (by simp), ((P2.set 0 _).set 1 _).set 2 _, (ht1.ts R.length R.length rfl hlR).keptG hg (fun _ => by simp; omega), b1.grown hg b1.size (fun k hk => by simp at hk; omega)⟩
  have hne0 : w.heap.size ≠ w.heap.size + 2 := by omega
  clear HQ x0 x1 x2 H2 ht1 hb1 P1 P2 X1 b1 hg hg0 hg1 hg2 b0
  go_upto_region 5 with fail
  generalize (((w1.setCell ⟨w.heap.size + 2, 0, none⟩ (.slice (some ⟨k1, 0, none⟩) R.length R.length)).setCell ⟨w.heap.size + 2, 1, none⟩ (.int .i64 K)).setCell ⟨w.heap.size + 2, 2, none⟩ (.int .i64 N)) = W4 at *
  clear c0 c1 c2 f0 f1 f2 y1 y2
  go_wp2_with (first | (refine wp_loadTr rfl _ rfl (w.heap.size + 2) _ _ _ rfl HA2.out.2.1 ?_) | (refine wp_storeTr rfl _ _ rfl (w.heap.size + 1) _ _ _ _ _ _ HA2.out.1 rfl rfl rfl rfl rfl ?_; intro hfin) | fail)
  refine ret_tr 2 (w.heap.size + 1) _ _ _ rfl rfl rfl hfin ?_
  rw [← HP.out]
  obtain ⟨_, _, ht, hb⟩ := HA2.out
  have hgr := grown_setRowP W4 (w.heap.size + 1) #[.slice (some ⟨k1, 0, none⟩) R.length R.length, .int .i64 K, .int .i64 N]
  exact ⟨k1, rfl, ht.keptG hgr (fun _ => by simp; omega), by omega, below_row hb (by omega)⟩

end Go.Proofs.YtgkfelhjbeegaaaGreatDoor
/-
  A signature as a struct: in a block of its own, its fields stored one by one, answered beside a flag.
-/
namespace Go.Proofs.YtgkfelhjbeegaaaGreatDoor
open Go.RowKit
set_option linter.unusedVariables false

/-- block g is a signature with these fields -/
def SgM (w : World) (g : Nat) (a : Int) (v1 v2 v3 : Value) : Prop := w.heap[g]? = some (.cells #[.int .i64 a, v1, v2, v3] 47 (0, 0))
theorem SgM.c0 {w : World} {g : Nat} {a : Int} {v1 v2 v3 : Value} (h : SgM w g a v1 v2 v3) : w.cell? ⟨g, 0, none⟩ = some (.int .i64 a) := by rw [cell_of_row w g 0 _ _ (0, 0) h]; rfl
theorem SgM.c1 {w : World} {g : Nat} {a : Int} {v1 v2 v3 : Value} (h : SgM w g a v1 v2 v3) : w.cell? ⟨g, 1, none⟩ = some v1 := by rw [cell_of_row w g 1 _ _ (0, 0) h]; rfl
theorem SgM.c2 {w : World} {g : Nat} {a : Int} {v1 v2 v3 : Value} (h : SgM w g a v1 v2 v3) : w.cell? ⟨g, 2, none⟩ = some v2 := by rw [cell_of_row w g 2 _ _ (0, 0) h]; rfl
theorem SgM.c3 {w : World} {g : Nat} {a : Int} {v1 v2 v3 : Value} (h : SgM w g a v1 v2 v3) : w.cell? ⟨g, 3, none⟩ = some v3 := by rw [cell_of_row w g 3 _ _ (0, 0) h]; rfl
theorem SgM.fr {w : World} {g : Nat} {a : Int} {v1 v2 v3 : Value} (h : SgM w g a v1 v2 v3) (j : Nat) : w.frozen? ⟨g, j, none⟩ = false := by
  simp [World.frozen?, show w.heap[g]? = some (.cells #[.int .i64 a, v1, v2, v3] 47 (0, 0)) from h]
theorem SgM.lt {w : World} {g : Nat} {a : Int} {v1 v2 v3 : Value} (h : SgM w g a v1 v2 v3) : g < w.heap.size := (Array.getElem?_eq_some_iff.1 h).1
theorem SgM.set1 {w : World} {g : Nat} {a : Int} {v1 v2 v3 : Value} (h : SgM w g a v1 v2 v3) (v : Value) : SgM (w.setCell ⟨g, 1, none⟩ v) g a v v2 v3 := by
  unfold SgM at *
  rw [heap_setCell_same w g 1 _ _ _ h]
  rfl
theorem SgM.set2 {w : World} {g : Nat} {a : Int} {v1 v2 v3 : Value} (h : SgM w g a v1 v2 v3) (v : Value) : SgM (w.setCell ⟨g, 2, none⟩ v) g a v1 v v3 := by
  unfold SgM at *
  rw [heap_setCell_same w g 2 _ _ _ h]
  rfl
theorem SgM.set3 {w : World} {g : Nat} {a : Int} {v1 v2 v3 : Value} (h : SgM w g a v1 v2 v3) (v : Value) : SgM (w.setCell ⟨g, 3, none⟩ v) g a v1 v2 v := by
  unfold SgM at *
  rw [heap_setCell_same w g 3 _ _ _ h]
  rfl
theorem SgM.keep {w w' : World} {g : Nat} {a : Int} {v1 v2 v3 : Value} (h : SgM w g a v1 v2 v3) (he : w'.heap[g]? = w.heap[g]?) : SgM w' g a v1 v2 v3 := by
  unfold SgM at *
  rw [he, h]
theorem SgM.later {w w' : World} {g : Nat} {a : Int} {v1 v2 v3 : Value} (h : SgM w g a v1 v2 v3) (hb : Below w.heap.size w w') : SgM w' g a v1 v2 v3 := h.keep (hb.block g h.lt)
theorem SgM.keptG {w w' : World} {g : Nat} {row : Option Nat} {a : Int} {v1 v2 v3 : Value} (h : SgM w g a v1 v2 v3) (hg : w.grownBy w' row) (hne : some g ≠ row) : SgM w' g a v1 v2 v3 := h.keep (hg.block g h.lt hne)
theorem SgM.new (w : World) (a : Int) (v1 v2 v3 : Value) : SgM (w.alloc (.cells #[.int .i64 a, v1, v2, v3] 47)) w.heap.size a v1 v2 v3 := Go.heap_alloc_new w _

theorem sizeS : (Tryz.prog.info? 47).map (·.size) = some 4 := by kernel_rfl
theorem load_sig {w : World} {g : Nat} {x : Int} {v1 v2 v3 : Value} (hA : SgM w g x v1 v2 v3) : (loadVar 47 ⟨g, 0, none⟩).run Tryz.prog w = .ok (.agg #[.int .i64 x, v1, v2, v3]) w :=
  run_loadVar_row (P := Tryz.prog) w g 47 47 _ (0, 0) _ hA Tryz.underlying47 rfl sizeS

/-- a signature and a flag, answered -/
theorem ret_sig2 {fn : Func} {Rp : Ending → World → Prop} {a : Act} {w : World} (c s g : Nat) (x : Int) (v1 v2 v3 b : Value) (hres : fn.results = #[.cell c 47, .tmp s]) (hd : a.defers = []) (hp : a.tmps.getD c undef = .pointer (some ⟨g, 0, none⟩)) (hb : a.tmps.getD s undef = b)
    (hA : SgM w g x v1 v2 v3) (h : Rp (.returned (.tuple #[.agg #[.int .i64 x, v1, v2, v3], b])) w) : bodyPost Tryz.prog fn Rp .ret a w := by
  have hr := load_sig hA
  refine bodyPost_ret (v := .tuple #[.agg #[.int .i64 x, v1, v2, v3], b]) ?_ hd h
  have hp' : a.tmps[c]?.getD undef = .pointer (some ⟨g, 0, none⟩) := by simpa using hp
  have hb' : a.tmps[s]?.getD undef = b := by simpa using hb
  simp [results, hres, asAddr, hr, hp', hb']

section
variable {w : World} {ops : Array Oper} {rest : List Oper} {o : Oper} {a : Act} {Q : Exit → Act → World → Prop}
/-- a signature loaded whole -/
theorem wp_loadSig (hgd : o.guard = none) (p : Operand) (ho : o.op = .load 47 p) (g : Nat) (x : Int) (v1 v2 v3 : Value) (hp : a.eval p = .pointer (some ⟨g, 0, none⟩)) (hA : SgM w g x v1 v2 v3)
    (h : wpList Tryz.prog ops Q rest (a.put o.dst (.agg #[.int .i64 x, v1, v2, v3])) w) : wpList Tryz.prog ops Q (o :: rest) a w := by
  refine wpList_plain hgd fun K hK => ?_
  have hr : (Instr.loadAt 47 (.pointer (some ⟨g, 0, none⟩))).run Tryz.prog w = .ok (.agg #[.int .i64 x, v1, v2, v3]) w := by
    simp only [Instr.loadAt, Instr.sureAddr, Sem.run_bind, Sem.run_pure, Result.andThen]
    exact load_sig hA
  unfold Oper.wp
  simp [execOp, ho, hp, hr, Result.andThen]
  exact hK _ _ h
/-- a signature stored whole -/
theorem wp_storeSig (hgd : o.guard = none) (p v : Operand) (ho : o.op = .store 47 p v) (g : Nat) (x y : Int) (v1 v2 v3 u1 u2 u3 : Value) (hA : SgM w g x v1 v2 v3) (hp : a.eval p = .pointer (some ⟨g, 0, none⟩)) (hv : a.eval v = .agg #[.int .i64 y, u1, u2, u3])
    (h1 : u1.oneCell' = true) (h2 : u2.oneCell' = true) (h3 : u3.oneCell' = true)
    (h : SgM (w.setRow g #[.int .i64 y, u1, u2, u3]) g y u1 u2 u3 → wpList Tryz.prog ops Q rest (a.put o.dst (.tuple #[])) (w.setRow g #[.int .i64 y, u1, u2, u3])) : wpList Tryz.prog ops Q (o :: rest) a w := by
  refine wpList_plain hgd fun K hK => ?_
  have hr : (Instr.storeAt 47 (.pointer (some ⟨g, 0, none⟩)) (.agg #[.int .i64 y, u1, u2, u3])).run Tryz.prog w = .ok () (w.setRow g #[.int .i64 y, u1, u2, u3]) := by
    simp only [Instr.storeAt, Instr.sureAddr, Sem.run_bind, Sem.run_pure, Result.andThen]
    refine run_storeVar_row w g 47 47 _ _ hA sizeS rfl ?_
    simp [h1, h2, h3]
    rfl
  unfold Oper.wp
  simp [execOp, ho, hp, hv, hr, Result.andThen]
  exact hK _ _ (h (setRow_heap w g _ _ _ _ hA))
end

end Go.Proofs.YtgkfelhjbeegaaaGreatDoor
/-
  What the forms of a signature are held against: how many texts, how wide, the program's and the specification's.
-/
namespace Go.Proofs.YtgkfelhjbeegaaaGreatDoor
open Go.RowKit Go.BigFrame
set_option linter.unusedVariables false

/-- each text is sixteen bytes wide -/
def kwB (l : List ByteArray) : Bool := l.all (fun p => decide (p.size = 16))
theorem kwB_no (l : List ByteArray) (m : Nat) (h : m < l.length) (hb : l[m].size ≠ 16) : kwB l = false := by
  unfold kwB
  rw [List.all_eq_false]
  exact ⟨l[m], List.getElem_mem _, by simpa using hb⟩
theorem kwB_yes (l : List ByteArray) (h : ∀ j (h : j < l.length), l[j].size = 16) : kwB l = true := by
  unfold kwB
  rw [List.all_eq_true]
  intro x hx
  obtain ⟨j, hj, rfl⟩ := List.getElem_of_mem hx
  simpa using h j hj
theorem kwB_at {l : List ByteArray} (h : kwB l = true) (j : Nat) (hj : j < l.length) : l[j].size = 16 := by
  unfold kwB at h
  rw [List.all_eq_true] at h
  simpa using h l[j] (List.getElem_mem _)

def KwR (l : List ByteArray) (w : World) (i : Value) (wr : World) : Prop :=
  ∃ m : Nat, m ≤ l.length ∧ i = .int .i64 m ∧ Hid (∀ j (h : j < l.length), j < m → l[j].size = 16) ∧ wr = w
theorem kw_step {l : List ByteArray} {m : Nat} (hm : m < l.length) (hp : l[m].size = 16) (h : ∀ j (h : j < l.length), j < m → l[j].size = 16) : Hid (∀ j (h : j < l.length), j < m + 1 → l[j].size = 16) := by
  intro j hj hlt
  rcases Nat.lt_or_ge j m with h1 | h1
  · exact h j hj h1
  · have : j = m := by omega
    subst this
    exact hp

set_option maxRecDepth 100000 in
set_option maxHeartbeats 400000 in
theorem allWide_16 (v : Value) (ga oa : Nat) (l : List ByteArray) (w : World) (hv : SS w v ga oa l) :
    Calls Tryz.prog 97 #[v, .int .i64 16] w fun e w' => e = .returned (.bool (kwB l)) ∧ w' = w := by
  obtain ⟨a, cap, rfl, hl, hA, hc⟩ := hv
  obtain ⟨n, hn⟩ : ∃ n, l.length = n := ⟨_, rfl⟩
  have HA : Hid (0 < n → a = some ⟨ga, oa, none⟩) := by rw [← hn]; exact hA
  have HC : Hid (∀ j (h : j < l.length), w.cell? ⟨ga, oa + j, none⟩ = some (.string l[j])) := hc
  have HST : Hid (KwR l w (.int .i64 0) w) := ⟨0, by omega, rfl, by intro j _ h; omega, rfl⟩
  obtain ⟨R, hR⟩ : ∃ R, kwB l = R := ⟨_, rfl⟩
  have HR : Hid (kwB l = R) := hR
  rw [hn] at hl ⊢
  rw [hR]
  clear hA hc hR
  go_enter Tryz.func97, Tryz.ntmps97
  go_wp2
  go_loopw [9] (fun i wr => KwR l w i wr) (fun i _ => n - (intOf i).toNat)
  case atStart => exact HST.out
  case round =>
    obtain ⟨m, hm, rfl, HI, rfl⟩ := hrel
    rw [hn] at hm
    clear HST
    by_cases hlt : m < n
    · have ea := HA.out (by omega)
      subst ea
      have c0 := HC.out m (by omega)
      have i1 : (m : Int) < (n : Int) := by omega
      have i2 : (0 : Int) ≤ (m : Int) := by omega
      by_cases hx : (l[m]'(by omega)).size = 16
      · have HI2 := kw_step (show m < l.length by omega) hx HI.out
        have q : (((l[m]'(by omega)).size : Int) != 16) = false := by simp; omega
        clear HI HR HC HA hx
        generalize l[m]'(by omega) = X at *
        go_wp2
        go_roundw
        case rel => exact ⟨m + 1, by omega, by go_num, HI2, rfl⟩
        case measure => simp [intOf]; omega
      · have hF := kwB_no l m (by omega) hx
        rw [HR.out] at hF
        subst hF
        have q : (((l[m]'(by omega)).size : Int) != 16) = true := by simp; omega
        clear HI HR HC HA hx
        generalize l[m]'(by omega) = X at *
        go_wp2
        try rw [Exit.noGoto_ret]
        go_ret
        exact ⟨rfl, rfl⟩
    · have hme : m = n := by omega
      have hF := kwB_yes l (fun j hj => HI.out j hj (by omega))
      rw [HR.out] at hF
      subst hF
      subst hme
      clear HI HR HC HA
      go_wp2
      go_ret
      exact ⟨rfl, rfl⟩

set_option maxRecDepth 100000 in
set_option maxHeartbeats 400000 in
theorem l05Wide_any (v : Value) (x : Int) (k : Nat) (ga oa : Nat) (l : List ByteArray) (w : World) (hx : x = (k : Int)) (hv : SS w v ga oa l) :
    Calls Tryz.prog 94 #[v, .int .i64 x] w fun e w' => e = .returned (.bool (kwB l && decide (l.length = k))) ∧ w' = w := by
  subst hx
  obtain ⟨a, cap, rfl, hl, hA, hc⟩ := hv
  obtain ⟨n, hn⟩ : ∃ n, l.length = n := ⟨_, rfl⟩
  have HA : Hid (0 < n → a = some ⟨ga, oa, none⟩) := by rw [← hn]; exact hA
  have HC : Hid (∀ j (h : j < l.length), w.cell? ⟨ga, oa + j, none⟩ = some (.string l[j])) := hc
  have HST : Hid (KwR l w (.int .i64 0) w) := ⟨0, by omega, rfl, by intro j _ h; omega, rfl⟩
  obtain ⟨R, hR⟩ : ∃ R, kwB l = R := ⟨_, rfl⟩
  have HR : Hid (kwB l = R) := hR
  rw [hn] at hl ⊢
  rw [hR]
  clear hA hc hR
  go_enter Tryz.func94, Tryz.ntmps94
  go_wp2
  go_loopw [5] (fun i wr => KwR l w i wr) (fun i _ => n - (intOf i).toNat)
  case atStart => exact HST.out
  case round =>
    obtain ⟨m, hm, rfl, HI, rfl⟩ := hrel
    rw [hn] at hm
    clear HST
    by_cases hlt : m < n
    · have ea := HA.out (by omega)
      subst ea
      have c0 := HC.out m (by omega)
      have i1 : (m : Int) < (n : Int) := by omega
      have i2 : (0 : Int) ≤ (m : Int) := by omega
      by_cases hx : (l[m]'(by omega)).size = 16
      · have HI2 := kw_step (show m < l.length by omega) hx HI.out
        have q : (((l[m]'(by omega)).size : Int) != 16) = false := by simp; omega
        clear HI HR HC HA hx
        generalize l[m]'(by omega) = X at *
        go_wp2
        go_roundw
        case rel => exact ⟨m + 1, by omega, by go_num, HI2, rfl⟩
        case measure => simp [intOf]; omega
      · have hF := kwB_no l m (by omega) hx
        rw [HR.out] at hF
        subst hF
        have q : (((l[m]'(by omega)).size : Int) != 16) = true := by simp; omega
        clear HI HR HC HA hx
        generalize l[m]'(by omega) = X at *
        go_wp2
        try rw [Exit.noGoto_ret]
        go_ret
        exact ⟨rfl, rfl⟩
    · have hme : m = n := by omega
      have hF := kwB_yes l (fun j hj => HI.out j hj (by omega))
      rw [HR.out] at hF
      subst hF
      subst hme
      clear HI HR HC HA hn
      by_cases hk : m = k
      · have q : ((m : Int) == (k : Int)) = true := by simp; omega
        go_wp2
        go_ret
        exact ⟨by simp [hk], rfl⟩
      · have q : ((m : Int) == (k : Int)) = false := by simp; omega
        go_wp2
        go_ret
        exact ⟨by simp [hk], rfl⟩

/-- the form that a signature must have -/
def formB (a : Int) (o s d : List ByteArray) : Bool := decide (0 ≤ a ∧ a ≤ 15) && ((kwB o && decide (o.length = 8)) && ((kwB s && decide (s.length = 8)) && (kwB d && decide (d.length = 4))))
theorem formB_parts {a : Int} {o s d : List ByteArray} (h : formB a o s d = true) : (0 ≤ a ∧ a ≤ 15) ∧ (kwB o = true ∧ o.length = 8) ∧ (kwB s = true ∧ s.length = 8) ∧ (kwB d = true ∧ d.length = 4) := by
  unfold formB at h
  simpa only [Bool.and_eq_true, decide_eq_true_eq] using h
theorem formB_mk {a : Int} {o s d : List ByteArray} (h : (0 ≤ a ∧ a ≤ 15) ∧ (kwB o = true ∧ o.length = 8) ∧ (kwB s = true ∧ s.length = 8) ∧ (kwB d = true ∧ d.length = 4)) : formB a o s d = true := by
  unfold formB
  simpa only [Bool.and_eq_true, decide_eq_true_eq] using h

set_option maxRecDepth 100000 in
set_option maxHeartbeats 1000000 in
theorem l05Form_any (a : Int) (vo vs vd : Value) (g1 o1 g2 o2 g3 o3 : Nat) (o s d : List ByteArray) (w : World) (ho : SS w vo g1 o1 o) (hs : SS w vs g2 o2 s) (hd : SS w vd g3 o3 d) :
    Calls Tryz.prog 70 #[.agg #[.int .i64 a, vo, vs, vd]] w fun e w' => e = .returned (.bool (formB a o s d)) ∧ Below w.heap.size w w' := by
  have hb : Below w.heap.size w (w.alloc (.cells #[.int .i64 a, vo, vs, vd] 47)) := (Below.refl _ _).alloc (Nat.le_refl _) _
  have H1 : Hid (Calls Tryz.prog 94 #[vo, .int .i64 8] (w.alloc (.cells #[.int .i64 a, vo, vs, vd] 47)) fun e w' => e = .returned (.bool (kwB o && decide (o.length = 8))) ∧ w' = (w.alloc (.cells #[.int .i64 a, vo, vs, vd] 47))) := l05Wide_any vo 8 8 g1 o1 o _ rfl (ho.below hb ho.lt)
  have H2 : Hid (Calls Tryz.prog 94 #[vs, .int .i64 8] (w.alloc (.cells #[.int .i64 a, vo, vs, vd] 47)) fun e w' => e = .returned (.bool (kwB s && decide (s.length = 8))) ∧ w' = (w.alloc (.cells #[.int .i64 a, vo, vs, vd] 47))) := l05Wide_any vs 8 8 g2 o2 s _ rfl (hs.below hb hs.lt)
  have H3 : Hid (Calls Tryz.prog 94 #[vd, .int .i64 4] (w.alloc (.cells #[.int .i64 a, vo, vs, vd] 47)) fun e w' => e = .returned (.bool (kwB d && decide (d.length = 4))) ∧ w' = (w.alloc (.cells #[.int .i64 a, vo, vs, vd] 47))) := l05Wide_any vd 4 4 g3 o3 d _ rfl (hd.below hb hd.lt)
  have HB : Hid (Below w.heap.size w (w.alloc (.cells #[.int .i64 a, vo, vs, vd] 47))) := hb
  unfold formB
  generalize (kwB o && decide (o.length = 8)) = A1 at *
  generalize (kwB s && decide (s.length = 8)) = A2 at *
  generalize (kwB d && decide (d.length = 4)) = A3 at *
  generalize hA0 : decide (0 ≤ a ∧ a ≤ 15) = A0
  obtain ⟨ao, co, rfl, _⟩ := ho
  obtain ⟨as2, cs2, rfl, _⟩ := hs
  obtain ⟨ad, cd, rfl, _⟩ := hd
  clear hb
  go_enter Tryz.func70, Tryz.ntmps70
  go_wp2_with fail
  refine (l01In_any _ _ _ _).mono ?_
  rintro e w' ⟨rfl, rfl⟩
  rw [hA0]
  clear hA0
  cases A0 with
  | false =>
    go_wp2
    go_ret
    exact ⟨by simp, HB.out⟩
  | true =>
    go_wp2_with fail
    refine H1.out.mono ?_
    rintro e w' ⟨rfl, rfl⟩
    cases A1 with
    | false =>
      go_wp2
      go_ret
      exact ⟨by simp, HB.out⟩
    | true =>
      go_wp2_with fail
      refine H2.out.mono ?_
      rintro e w' ⟨rfl, rfl⟩
      cases A2 with
      | false =>
        go_wp2
        go_ret
        exact ⟨by simp, HB.out⟩
      | true =>
        go_wp2_with fail
        refine H3.out.mono ?_
        rintro e w' ⟨rfl, rfl⟩
        cases A3 with
        | false =>
          go_wp2
          go_ret
          exact ⟨by simp, HB.out⟩
        | true =>
          go_wp2
          go_ret
          exact ⟨by simp, HB.out⟩

theorem inPool_f (x : Int) (w : World) : Calls Tryz.prog 150 #[.int .i64 x] w fun e w' => e = .returned (.bool (decide (0 ≤ x ∧ x ≤ 15))) ∧ w' = w := by
  by_cases h1 : x < 0
  · have hd : decide (0 ≤ x ∧ x ≤ 15) = false := by simp; omega
    rw [hd]
    go_enter Tryz.func150, Tryz.ntmps150
    go_wp2
    go_ret
    exact ⟨rfl, rfl⟩
  · by_cases h2 : x < 16
    · have hd : decide (0 ≤ x ∧ x ≤ 15) = true := by simp; omega
      rw [hd]
      go_enter Tryz.func150, Tryz.ntmps150
      go_wp2
      go_ret
      exact ⟨rfl, rfl⟩
    · have hd : decide (0 ≤ x ∧ x ≤ 15) = false := by simp; omega
      rw [hd]
      go_enter Tryz.func150, Tryz.ntmps150
      go_wp2
      go_ret
      exact ⟨rfl, rfl⟩

set_option maxRecDepth 100000 in
set_option maxHeartbeats 1000000 in
theorem sigFormOk_any (a : Int) (vo vs vd : Value) (g1 o1 g2 o2 g3 o3 : Nat) (o s d : List ByteArray) (w : World) (ho : SS w vo g1 o1 o) (hs : SS w vs g2 o2 s) (hd : SS w vd g3 o3 d) :
    Calls Tryz.prog 144 #[.agg #[.int .i64 a, vo, vs, vd]] w fun e w' => e = .returned (.bool (formB a o s d)) ∧ Below w.heap.size w w' := by
  have H1 : Hid (∀ W, Below w.heap.size w W → Calls Tryz.prog 97 #[vo, .int .i64 16] W fun e w' => e = .returned (.bool (kwB o)) ∧ w' = W) := fun W hW => allWide_16 vo g1 o1 o _ (ho.below hW ho.lt)
  have H2 : Hid (∀ W, Below w.heap.size w W → Calls Tryz.prog 97 #[vs, .int .i64 16] W fun e w' => e = .returned (.bool (kwB s)) ∧ w' = W) := fun W hW => allWide_16 vs g2 o2 s _ (hs.below hW hs.lt)
  have H3 : Hid (∀ W, Below w.heap.size w W → Calls Tryz.prog 97 #[vd, .int .i64 16] W fun e w' => e = .returned (.bool (kwB d)) ∧ w' = W) := fun W hW => allWide_16 vd g3 o3 d _ (hd.below hW hd.lt)
  unfold formB
  generalize kwB o = A1 at *
  generalize kwB s = A2 at *
  generalize kwB d = A3 at *
  generalize hA0 : decide (0 ≤ a ∧ a ≤ 15) = A0
  obtain ⟨ao, co, rfl, hlo, hx1⟩ := ho
  obtain ⟨as2, cs2, rfl, hls, hx2⟩ := hs
  obtain ⟨ad, cd, rfl, hld, hx3⟩ := hd
  clear hx1 hx2 hx3
  generalize o.length = n1 at *
  generalize s.length = n2 at *
  generalize d.length = n3 at *
  have HB : Hid (∀ x y z : Obj, Below w.heap.size w (((w.alloc x).alloc y).alloc z)) := fun x y z => (((Below.refl _ _).alloc (Nat.le_refl _) _).alloc (by simp) _).alloc (by simp; omega) _
  by_cases h1 : (n1 : Int) = 8
  · by_cases h2 : (n2 : Int) = 8
    · by_cases h3 : (n3 : Int) = 4
      · obtain rfl : n1 = 8 := by omega
        obtain rfl : n2 = 8 := by omega
        obtain rfl : n3 = 4 := by omega
        clear h1 h2 h3 hlo hls hld
        go_enter Tryz.func144, Tryz.ntmps144
        go_wp2_with fail
        refine (inPool_f _ _).mono ?_
        rintro e w1 ⟨rfl, rfl⟩
        rw [hA0]
        clear hA0
        cases A0 with
        | false =>
          go_wp2
          go_ret
          exact ⟨by simp, HB.out _ _ _⟩
        | true =>
          go_wp2_with fail
          refine (H1.out _ (HB.out _ _ _)).mono ?_
          rintro e w1 ⟨rfl, rfl⟩
          cases A1 with
          | false =>
            go_wp2
            go_ret
            exact ⟨by simp, HB.out _ _ _⟩
          | true =>
            go_wp2_with fail
            refine (H2.out _ (HB.out _ _ _)).mono ?_
            rintro e w1 ⟨rfl, rfl⟩
            cases A2 with
            | false =>
              go_wp2
              go_ret
              exact ⟨by simp, HB.out _ _ _⟩
            | true =>
              go_wp2_with fail
              refine (H3.out _ (HB.out _ _ _)).mono ?_
              rintro e w1 ⟨rfl, rfl⟩
              go_wp2
              go_ret
              exact ⟨by simp, HB.out _ _ _⟩
      · obtain rfl : n1 = 8 := by omega
        obtain rfl : n2 = 8 := by omega
        have hF : (A0 && ((A1 && decide ((8 : Nat) = 8)) && ((A2 && decide ((8 : Nat) = 8)) && (A3 && decide (n3 = 4))))) = false := by
          rw [decide_eq_false (show ¬ n3 = 4 by omega)]; simp
        rw [hF]
        clear h1 h2 hlo hls hF
        go_enter Tryz.func144, Tryz.ntmps144
        go_wp2_with fail
        refine (inPool_f _ _).mono ?_
        rintro e w1 ⟨rfl, rfl⟩
        rw [hA0]
        clear hA0
        cases A0 with
        | false =>
          go_wp2
          go_ret
          exact ⟨by simp, HB.out _ _ _⟩
        | true =>
          go_wp2
          go_ret
          exact ⟨by simp, HB.out _ _ _⟩
    · obtain rfl : n1 = 8 := by omega
      have hF : (A0 && ((A1 && decide ((8 : Nat) = 8)) && ((A2 && decide (n2 = 8)) && (A3 && decide (n3 = 4))))) = false := by
        rw [decide_eq_false (show ¬ n2 = 8 by omega)]; simp
      rw [hF]
      clear h1 hlo hF
      go_enter Tryz.func144, Tryz.ntmps144
      go_wp2_with fail
      refine (inPool_f _ _).mono ?_
      rintro e w1 ⟨rfl, rfl⟩
      rw [hA0]
      clear hA0
      cases A0 with
      | false =>
        go_wp2
        go_ret
        exact ⟨by simp, HB.out _ _ _⟩
      | true =>
        go_wp2
        go_ret
        exact ⟨by simp, HB.out _ _ _⟩
  · have hF : (A0 && ((A1 && decide (n1 = 8)) && ((A2 && decide (n2 = 8)) && (A3 && decide (n3 = 4))))) = false := by
      rw [decide_eq_false (show ¬ n1 = 8 by omega)]; simp
    rw [hF]
    clear hF
    go_enter Tryz.func144, Tryz.ntmps144
    go_wp2_with fail
    refine (inPool_f _ _).mono ?_
    rintro e w1 ⟨rfl, rfl⟩
    rw [hA0]
    clear hA0
    cases A0 with
    | false =>
      go_wp2
      go_ret
      exact ⟨by simp, HB.out _ _ _⟩
    | true =>
      go_wp2
      go_ret
      exact ⟨by simp, HB.out _ _ _⟩

end Go.Proofs.YtgkfelhjbeegaaaGreatDoor
/-
  What ReadSig answers, the program's and the specification's.
-/
namespace Go.Proofs.YtgkfelhjbeegaaaGreatDoor
open Go.RowKit Go.BigFrame
set_option linter.unusedVariables false

/-- n keys from place b on -/
def cutL (t : ByteArray) (b n : Nat) : List ByteArray := (List.range n).map fun i => t.extract (b + i * 16) (b + (i + 1) * 16)
theorem cutL_len (t : ByteArray) (b n : Nat) : (cutL t b n).length = n := by simp [cutL]
theorem cutL_at (t : ByteArray) (b n i : Nat) (h : i < (cutL t b n).length) : (cutL t b n)[i] = t.extract (b + i * 16) (b + (i + 1) * 16) := by simp [cutL]
theorem cutL_tail (t : ByteArray) (k b n : Nat) (h : k + b + n * 16 ≤ t.size) : cutL (t.extract k t.size) b n = cutL t (k + b) n := by
  unfold cutL
  apply List.map_congr_left
  intro i hi
  have hi' : i < n := by simpa using hi
  rw [ByteArray.extract_extract]
  have e1 : k + (b + i * 16) = k + b + i * 16 := by omega
  have e2 : min (k + (b + (i + 1) * 16)) t.size = k + b + (i + 1) * 16 := by
    have : (i + 1) * 16 ≤ n * 16 := Nat.mul_le_mul_right _ hi'
    omega
  rw [e1, e2]
theorem tail_tail (t : ByteArray) (k b : Nat) (h : k ≤ t.size) : (t.extract k t.size).extract b (t.extract k t.size).size = t.extract (k + b) t.size := by
  rw [ByteArray.extract_extract, ByteArray.size_extract]
  congr 1
  omega
theorem cutL_wide (t : ByteArray) (b n : Nat) (h : b + n * 16 ≤ t.size) : kwB (cutL t b n) = true := by
  refine kwB_yes _ fun j hj => ?_
  rw [cutL_at, ByteArray.size_extract]
  rw [cutL_len] at hj
  have : (j + 1) * 16 ≤ n * 16 := Nat.mul_le_mul_right _ hj
  omega

def CkR (t : ByteArray) (n : Nat) (w : World) (g : Nat) (i : Value) (wr : World) : Prop := ∃ m : Nat, m ≤ n ∧ i = .int .i64 m ∧ TB wr g (srow (cutL t 0 n) m) ∧ Below w.heap.size w wr

def LcR (t : ByteArray) (b n : Nat) (w : World) (v i : Value) (wr : World) : Prop := ∃ m : Nat, m ≤ n ∧ i = .int .i64 m ∧ OS w.heap.size w wr v ((cutL t b n).take m)

/-- the first byte of a text -/
def b0 (d : ByteArray) : UInt8 := d.data.toList.getD 0 0
theorem run_b0 (d : ByteArray) (h : 0 < d.size) (w : World) : (Instr.index 9 (.string d) (.int .i64 0)).run Tryz.prog w = .ok (.int .u8 ((b0 d).toNat : Int)) w := by
  rw [run_index_string (P := Tryz.prog) (w := w) 9 d .i64 _ Tryz.underlying9, dif_pos ⟨by omega, by omega⟩]
  have e : b0 d = d[0] := by
    unfold b0
    rw [ByteArray.getElem_eq_getElem_data, List.getD_eq_getElem?_getD, List.getElem?_eq_getElem (by simpa using h)]
    simp
  rw [e]
  rfl

/-- a signature whose lists are new, each with memory of its own -/
def SigIn (w : World) (B : Nat) (v : Value) (a : Int) (o s d : List ByteArray) : Prop :=
  ∃ v1 v2 v3 g1 g2 g3, v = .agg #[.int .i64 a, v1, v2, v3] ∧ (TS w v1 g1 o ∧ TS w v2 g2 s ∧ TS w v3 g3 d) ∧ (B ≤ g1 ∧ B ≤ g2 ∧ B ≤ g3) ∧ (g1 ≠ g2 ∧ g1 ≠ g3 ∧ g2 ≠ g3)
theorem SigIn.zero (w : World) (B : Nat) : SigIn w B (.agg #[.int .i64 0, .slice none 0 0, .slice none 0 0, .slice none 0 0]) 0 [] [] [] :=
  ⟨_, _, _, B, B + 1, B + 2, rfl, ⟨TS.nil w _, TS.nil w _, TS.nil w _⟩, ⟨by omega, by omega, by omega⟩, ⟨by omega, by omega, by omega⟩⟩

def rsOk (t : ByteArray) : Bool := decide (t.size = 321 ∧ (b0 t).toNat ≤ 15)
def rsA (t : ByteArray) : Int := if rsOk t then ((b0 t).toNat : Int) else 0
def rsO (t : ByteArray) : List ByteArray := if rsOk t then cutL t 1 8 else []
def rsS (t : ByteArray) : List ByteArray := if rsOk t then cutL t 129 8 else []
def rsD (t : ByteArray) : List ByteArray := if rsOk t then cutL t 257 4 else []

theorem grown_setRow (w : World) (g : Nat) (R : Array Value) : w.grownBy (w.setRow g R) (some g) :=
  ⟨rfl, rfl, rfl, by simp [World.setRow], fun k _ hk => setRow_other w g k R (fun e => hk (by simp [e]))⟩

def zSig : Array Value := #[.int .i64 0, .slice none 0 0, .slice none 0 0, .slice none 0 0]

end Go.Proofs.YtgkfelhjbeegaaaGreatDoor
