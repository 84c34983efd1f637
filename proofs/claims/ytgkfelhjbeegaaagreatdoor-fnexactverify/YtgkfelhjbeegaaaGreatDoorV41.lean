/-
  Texts laid together: Wf.
-/
import Derived.Test.YtgkfelhjbeegaaaGreatDoorV39
import Derived.Test.YtgkfelhjbeegaaaGreatDoorV40
/-
  Verify: the program's answer.
-/
namespace Go.Proofs.YtgkfelhjbeegaaaGreatDoor
open Go.RowKit Go.BigFrame Go.Sort
set_option linter.unusedVariables false
set_option linter.unusedSimpArgs false

theorem wholeChecks_any (w : World) :
    Calls Tryz.prog 28 #[] w fun e w' => e = .returned (.slice (some ⟨w.heap.size, 0, none⟩) 5 5) ∧ w' = w.alloc (.cells #[.int .i64 1, .func (Fn.func 57) #[] #[], .int .i64 2, .func (Fn.func 58) #[] #[], .int .i64 3, .func (Fn.func 59) #[] #[], .int .i64 4, .func (Fn.func 60) #[] #[], .int .i64 5, .func (Fn.func 61) #[] #[]] 82) := by
  go_enter Tryz.func28, Tryz.ntmps28
  go_wp2
  go_ret
  exact ⟨rfl, rfl⟩

/-- the code that is answered, by what five checks say -/
def vfC (b0 b1 b2 b3 b4 : Bool) : Int := if b0 = false then 1 else if b1 = false then 2 else if b2 = false then 3 else if b3 = false then 4 else if b4 = false then 5 else 0
def vfV (b0 b1 b2 b3 b4 : Bool) (v : ByteArray) : ByteArray := if b0 = true ∧ b1 = true ∧ b2 = true ∧ b3 = true ∧ b4 = true then v else ⟨#[]⟩
def vfB (b0 b1 b2 b3 b4 : Bool) (b : Bool) : Bool := b0 && (b1 && (b2 && (b3 && (b4 && b))))

/-- a box that holds this row -/
def BxA (T : Nat) (W : World) (g : Nat) (A : Array Value) : Prop := W.heap[g]? = some (.cells A T (0, 0))
theorem BxA.later {T : Nat} {W W' : World} {g : Nat} {A : Array Value} (h : BxA T W g A) (hb : Below W.heap.size W W') : BxA T W' g A := (hb.block g (Array.getElem?_eq_some_iff.1 h).1).trans h
theorem sizeAs : (Tryz.prog.info? 77).map (·.size) = some 18 := by kernel_rfl
theorem wp_loadAs {w : World} {ops : Array Oper} {rest : List Oper} {o : Oper} {a : Act} {Q : Exit → Act → World → Prop} (hgd : o.guard = none) (p : Operand) (ho : o.op = .load 77 p) (g : Nat) (A : Array Value) (hp : a.eval p = .pointer (some ⟨g, 0, none⟩)) (hA : BxA 77 w g A) (hs : A.size = 18)
    (h : wpList Tryz.prog ops Q rest (a.put o.dst (.agg A)) w) : wpList Tryz.prog ops Q (o :: rest) a w := by
  refine wpList_plain hgd fun K hK => ?_
  have hr : (Instr.loadAt 77 (.pointer (some ⟨g, 0, none⟩))).run Tryz.prog w = .ok (.agg A) w := by
    simp only [Instr.loadAt, Instr.sureAddr, Sem.run_bind, Sem.run_pure, Result.andThen]
    exact run_loadVar_row (P := Tryz.prog) w g 77 77 _ (0, 0) _ hA Tryz.underlying77 rfl (by rw [hs]; exact sizeAs)
  unfold Oper.wp
  simp [execOp, ho, hp, hr, Result.andThen]
  exact hK _ _ h

/-- the first m checks have passed -/
def WfR (w2 : World) (B : List Bool) (i : Value) (wr : World) : Prop := ∃ m : Nat, m ≤ 5 ∧ i = .int .i64 m ∧ Hid (Below w2.heap.size w2 wr ∧ ∀ j, j < m → B.getD j false = true)

set_option maxRecDepth 100000 in
set_option maxHeartbeats 4000000 in
theorem Verify_any (vr vb vs vt v1 v2 v3 vst : Value) (K N hs ep : Int) (nm : ByteArray) (x : Hd) (xa : Int) (R : List ByteArray) (L : List Le) (S T o s d : List ByteArray) (G : List Stm) (w : World) (hM : AkS w vr vb vs vt v1 v2 v3 vst R L S T o s d G) (hnm : nm.size ≤ 1048576) (hT : Tb w) :
    Calls Tryz.prog 9 #[.agg #[vr, .int .i64 K, .int .i64 N], .int .i64 hs, .string nm, .int .i64 ep, .agg #[vb, vs, vt, .int .i64 x.h, .int .i64 x.e, .string x.r, .string x.p, .int .i64 xa, v1, v2, v3, vst]] w fun e w' => e = .returned (.tuple #[.string (vfV (fmB R K N hs nm L S T G) (decide (x.h = hs ∧ x.e = ep)) (slR (R.getD hs.toNat ⟨#[]⟩) x xa o s d) (decide (wrT nm L S T K = x.r)) (decide (N ≤ (cnN R hs x G : Int))) (LV.getV L nm)), .bool (vfB (fmB R K N hs nm L S T G) (decide (x.h = hs ∧ x.e = ep)) (slR (R.getD hs.toNat ⟨#[]⟩) x xa o s d) (decide (wrT nm L S T K = x.r)) (decide (N ≤ (cnN R hs x G : Int))) (LV.getB L nm)), .int .i64 (vfC (fmB R K N hs nm L S T G) (decide (x.h = hs ∧ x.e = ep)) (slR (R.getD hs.toNat ⟨#[]⟩) x xa o s d) (decide (wrT nm L S T K = x.r)) (decide (N ≤ (cnN R hs x G : Int))))]) ∧ Below w.heap.size w w' := by
  have H0 : Hid (∀ W, Below w.heap.size w W → Calls Tryz.prog 57 #[.agg #[vr, .int .i64 K, .int .i64 N, .int .i64 hs, .string nm, .int .i64 ep, vb, vs, vt, .int .i64 x.h, .int .i64 x.e, .string x.r, .string x.p, .int .i64 xa, v1, v2, v3, vst]] W fun e w' => e = .returned (.bool (fmB R K N hs nm L S T G)) ∧ Below W.heap.size W w') := fun W hW => formPasses_any vr vb vs vt v1 v2 v3 vst K N hs ep nm x xa R L S T o s d G W (hM.later hW) hnm (hT.later hW)
  have H1 : Hid (∀ W, Below w.heap.size w W → Calls Tryz.prog 58 #[.agg #[vr, .int .i64 K, .int .i64 N, .int .i64 hs, .string nm, .int .i64 ep, vb, vs, vt, .int .i64 x.h, .int .i64 x.e, .string x.r, .string x.p, .int .i64 xa, v1, v2, v3, vst]] W fun e w' => e = .returned (.bool (decide (x.h = hs ∧ x.e = ep))) ∧ Below W.heap.size W w') := fun W hW => headPasses_any vr vb vs vt v1 v2 v3 vst K N hs ep nm x xa R L S T o s d G W (hM.later hW)
  have H2 : Hid (fmB R K N hs nm L S T G = true → ∀ W, Below w.heap.size w W → Calls Tryz.prog 59 #[.agg #[vr, .int .i64 K, .int .i64 N, .int .i64 hs, .string nm, .int .i64 ep, vb, vs, vt, .int .i64 x.h, .int .i64 x.e, .string x.r, .string x.p, .int .i64 xa, v1, v2, v3, vst]] W fun e w' => e = .returned (.bool (slR (R.getD hs.toNat ⟨#[]⟩) x xa o s d)) ∧ Below W.heap.size W w') := fun hf W hW => by
    unfold fmB at hf
    simp only [Bool.and_eq_true, decide_eq_true_eq] at hf
    obtain ⟨_, ⟨h0, h1⟩, _⟩ := hf
    have hm : hs.toNat < R.length := by omega
    have e1 : R.getD hs.toNat ⟨#[]⟩ = R[hs.toNat] := by simp [List.getD, List.getElem?_eq_getElem hm]
    rw [e1]
    exact sealPasses_any vr vb vs vt v1 v2 v3 vst K N hs ep nm x xa R L S T o s d G W (hM.later hW) (hT.later hW) hs.toNat hm (by omega)
  have H3 : Hid (∀ W, Below w.heap.size w W → Calls Tryz.prog 60 #[.agg #[vr, .int .i64 K, .int .i64 N, .int .i64 hs, .string nm, .int .i64 ep, vb, vs, vt, .int .i64 x.h, .int .i64 x.e, .string x.r, .string x.p, .int .i64 xa, v1, v2, v3, vst]] W fun e w' => e = .returned (.bool (decide (wrT nm L S T K = x.r))) ∧ Below W.heap.size W w') := fun W hW => rootPasses_any vr vb vs vt v1 v2 v3 vst K N hs ep nm x xa R L S T o s d G W (hM.later hW) hnm (hT.later hW)
  have H4 : Hid (∀ W, Below w.heap.size w W → Calls Tryz.prog 61 #[.agg #[vr, .int .i64 K, .int .i64 N, .int .i64 hs, .string nm, .int .i64 ep, vb, vs, vt, .int .i64 x.h, .int .i64 x.e, .string x.r, .string x.p, .int .i64 xa, v1, v2, v3, vst]] W fun e w' => e = .returned (.bool (decide (N ≤ (cnN R hs x G : Int)))) ∧ Below W.heap.size W w') := fun W hW => stampsPass_any vr vb vs vt v1 v2 v3 vst K N hs ep nm x xa R L S T o s d G W (hM.later hW) (hT.later hW)
  have HPS : Hid (∀ W, Below w.heap.size w W → Calls Tryz.prog 29 #[.string nm, .agg #[vb, vs]] W fun e w' => e = .returned (.tuple #[.string (LV.getV L nm), .bool (LV.getB L nm)]) ∧ Below W.heap.size W w') := fun W hW => by
    obtain ⟨_, ⟨g, k, h2⟩, h3, _⟩ := hM.later hW
    exact ProofSays_any nm vb vs g k L W h2 h3
  obtain ⟨xh, xe, xr, xp⟩ := x
  simp only at H0 H1 H2 H3 H4 ⊢
  obtain ⟨⟨ar, cr, rfl⟩, ⟨ab, cb, rfl⟩, ⟨as2, cs, rfl⟩, ⟨at2, ct, rfl⟩, ⟨a1, c1, rfl⟩, ⟨a2, c2, rfl⟩, ⟨a3, c3, rfl⟩, ⟨ag, cg, rfl⟩, lR, lS, lT, lG⟩ := hM.shapes
  clear hM hT
  generalize fmB R K N hs nm L S T G = B0 at *
  generalize decide (xh = hs ∧ xe = ep) = B1 at *
  generalize slR (R.getD hs.toNat ⟨#[]⟩) ⟨xh, xe, xr, xp⟩ xa o s d = B2 at *
  generalize decide (wrT nm L S T K = xr) = B3 at *
  generalize decide (N ≤ (cnN R hs ⟨xh, xe, xr, xp⟩ G : Int)) = B4 at *
  generalize LV.getV L nm = GV at *
  generalize LV.getB L nm = GotB at *
  generalize R.length = nr at *
  generalize L.length = nb at *
  generalize S.length = ns at *
  generalize T.length = nt at *
  generalize o.length = n1 at *
  generalize s.length = n2 at *
  generalize d.length = n3 at *
  generalize G.length = ng at *
  have HX : Hid (∀ W, W = (((w.alloc (.cells #[.slice ar nr cr, .int .i64 K, .int .i64 N] 41)).alloc (.cells #[.slice ab nb cb, .slice as2 ns cs, .slice at2 nt ct, .int .i64 xh, .int .i64 xe, .string xr, .string xp, .int .i64 xa, .slice a1 n1 c1, .slice a2 n2 c2, .slice a3 n3 c3, .slice ag ng cg] 52)).alloc (.cells #[.slice ar nr cr, .int .i64 K, .int .i64 N, .int .i64 hs, .string nm, .int .i64 ep, .slice ab nb cb, .slice as2 ns cs, .slice at2 nt ct, .int .i64 xh, .int .i64 xe, .string xr, .string xp, .int .i64 xa, .slice a1 n1 c1, .slice a2 n2 c2, .slice a3 n3 c3, .slice ag ng cg] 77)) → Below w.heap.size w W ∧ Box 77 W (w.heap.size + 1 + 1) [.slice ar nr cr, .int .i64 K, .int .i64 N, .int .i64 hs, .string nm, .int .i64 ep, .slice ab nb cb, .slice as2 ns cs, .slice at2 nt ct, .int .i64 xh, .int .i64 xe, .string xr, .string xp, .int .i64 xa, .slice a1 n1 c1, .slice a2 n2 c2, .slice a3 n3 c3, .slice ag ng cg] ∧ Box 52 W (w.heap.size + 1) [.slice ab nb cb, .slice as2 ns cs, .slice at2 nt ct, .int .i64 xh, .int .i64 xe, .string xr, .string xp, .int .i64 xa, .slice a1 n1 c1, .slice a2 n2 c2, .slice a3 n3 c3, .slice ag ng cg] ∧ W.heap.size = w.heap.size + 1 + 1 + 1) := fun W hW => by
    subst hW
    refine ⟨((below_alloc _ _).alloc (by simp) _).alloc (by simp; omega) _, alloc_fst _ _ (by simp), ?_, by simp⟩
    have h2 : Box 52 ((w.alloc (.cells #[.slice ar nr cr, .int .i64 K, .int .i64 N] 41)).alloc (.cells #[.slice ab nb cb, .slice as2 ns cs, .slice at2 nt ct, .int .i64 xh, .int .i64 xe, .string xr, .string xp, .int .i64 xa, .slice a1 n1 c1, .slice a2 n2 c2, .slice a3 n3 c3, .slice ag ng cg] 52)) (w.heap.size + 1) [.slice ab nb cb, .slice as2 ns cs, .slice at2 nt ct, .int .i64 xh, .int .i64 xe, .string xr, .string xp, .int .i64 xa, .slice a1 n1 c1, .slice a2 n2 c2, .slice a3 n3 c3, .slice ag ng cg] := alloc_fst _ _ (by simp)
    exact h2.later (below_alloc _ _)
  have HANS : Hid True := trivial
  go_enter Tryz.func9, Tryz.ntmps9
  go_wp2_with fail
  generalize hW0 : (((w.alloc (.cells #[.slice ar nr cr, .int .i64 K, .int .i64 N] 41)).alloc (.cells #[.slice ab nb cb, .slice as2 ns cs, .slice at2 nt ct, .int .i64 xh, .int .i64 xe, .string xr, .string xp, .int .i64 xa, .slice a1 n1 c1, .slice a2 n2 c2, .slice a3 n3 c3, .slice ag ng cg] 52)).alloc (.cells #[.slice ar nr cr, .int .i64 K, .int .i64 N, .int .i64 hs, .string nm, .int .i64 ep, .slice ab nb cb, .slice as2 ns cs, .slice at2 nt ct, .int .i64 xh, .int .i64 xe, .string xr, .string xp, .int .i64 xa, .slice a1 n1 c1, .slice a2 n2 c2, .slice a3 n3 c3, .slice ag ng cg] 77)) = W0
  have HX0 : Hid (Below w.heap.size w W0 ∧ Box 77 W0 (w.heap.size + 1 + 1) [.slice ar nr cr, .int .i64 K, .int .i64 N, .int .i64 hs, .string nm, .int .i64 ep, .slice ab nb cb, .slice as2 ns cs, .slice at2 nt ct, .int .i64 xh, .int .i64 xe, .string xr, .string xp, .int .i64 xa, .slice a1 n1 c1, .slice a2 n2 c2, .slice a3 n3 c3, .slice ag ng cg] ∧ Box 52 W0 (w.heap.size + 1) [.slice ab nb cb, .slice as2 ns cs, .slice at2 nt ct, .int .i64 xh, .int .i64 xe, .string xr, .string xp, .int .i64 xa, .slice a1 n1 c1, .slice a2 n2 c2, .slice a3 n3 c3, .slice ag ng cg] ∧ W0.heap.size = w.heap.size + 1 + 1 + 1) := HX.out W0 hW0.symm
  clear HX hW0
  refine (wholeChecks_any _).mono ?_
  rintro e w2 ⟨rfl, hw2⟩
  have hz := HX0.out.2.2.2
  rw [hz]
  have HX2 : Hid (Below w.heap.size w w2 ∧ Box 77 w2 (w.heap.size + 1 + 1) [.slice ar nr cr, .int .i64 K, .int .i64 N, .int .i64 hs, .string nm, .int .i64 ep, .slice ab nb cb, .slice as2 ns cs, .slice at2 nt ct, .int .i64 xh, .int .i64 xe, .string xr, .string xp, .int .i64 xa, .slice a1 n1 c1, .slice a2 n2 c2, .slice a3 n3 c3, .slice ag ng cg] ∧ Box 82 w2 (w.heap.size + 1 + 1 + 1) [.int .i64 1, .func (Fn.func 57) #[] #[], .int .i64 2, .func (Fn.func 58) #[] #[], .int .i64 3, .func (Fn.func 59) #[] #[], .int .i64 4, .func (Fn.func 60) #[] #[], .int .i64 5, .func (Fn.func 61) #[] #[]] ∧ Box 52 w2 (w.heap.size + 1) [.slice ab nb cb, .slice as2 ns cs, .slice at2 nt ct, .int .i64 xh, .int .i64 xe, .string xr, .string xp, .int .i64 xa, .slice a1 n1 c1, .slice a2 n2 c2, .slice a3 n3 c3, .slice ag ng cg]) := by
    subst hw2
    have hb := below_alloc W0 (.cells #[.int .i64 1, .func (Fn.func 57) #[] #[], .int .i64 2, .func (Fn.func 58) #[] #[], .int .i64 3, .func (Fn.func 59) #[] #[], .int .i64 4, .func (Fn.func 60) #[] #[], .int .i64 5, .func (Fn.func 61) #[] #[]] 82)
    exact ⟨HX0.out.1.trans (hb.mono HX0.out.1.size), HX0.out.2.1.later hb, by rw [← hz]; exact Box.new _ _ _, HX0.out.2.2.1.later hb⟩
  clear hw2 hz HX0
  have HST : Hid (WfR w2 [B0, B1, B2, B3, B4] (.int .i64 0) w2) := ⟨0, by omega, rfl, Below.refl _ _, fun j hj => by omega⟩
  have hAA : BxA 77 w2 (w.heap.size + 1 + 1) #[.slice ar nr cr, .int .i64 K, .int .i64 N, .int .i64 hs, .string nm, .int .i64 ep, .slice ab nb cb, .slice as2 ns cs, .slice at2 nt ct, .int .i64 xh, .int .i64 xe, .string xr, .string xp, .int .i64 xa, .slice a1 n1 c1, .slice a2 n2 c2, .slice a3 n3 c3, .slice ag ng cg] := HX2.out.2.1
  have hAS : (#[.slice ar nr cr, .int .i64 K, .int .i64 N, .int .i64 hs, .string nm, .int .i64 ep, .slice ab nb cb, .slice as2 ns cs, .slice at2 nt ct, .int .i64 xh, .int .i64 xe, .string xr, .string xp, .int .i64 xa, .slice a1 n1 c1, .slice a2 n2 c2, .slice a3 n3 c3, .slice ag ng cg] : Array Value).size = 18 := rfl
  have HCC : Hid (∀ W, Below w2.heap.size w2 W → Below w.heap.size w W ∧ Box 82 W (w.heap.size + 1 + 1 + 1) [.int .i64 1, .func (Fn.func 57) #[] #[], .int .i64 2, .func (Fn.func 58) #[] #[], .int .i64 3, .func (Fn.func 59) #[] #[], .int .i64 4, .func (Fn.func 60) #[] #[], .int .i64 5, .func (Fn.func 61) #[] #[]]) := fun W hW => ⟨HX2.out.1.trans (hW.mono HX2.out.1.size), HX2.out.2.2.1.later hW⟩
  have HWC : Hid (∀ W, Below w2.heap.size w2 W → W.cell? ⟨w.heap.size + 1, 0, none⟩ = some (.slice ab nb cb) ∧ W.cell? ⟨w.heap.size + 1, 1, none⟩ = some (.slice as2 ns cs)) := fun W hW => ⟨(HX2.out.2.2.2.later hW).at 0 _ rfl, (HX2.out.2.2.2.later hW).at 1 _ rfl⟩
  clear HX2 HANS
  generalize (#[.slice ar nr cr, .int .i64 K, .int .i64 N, .int .i64 hs, .string nm, .int .i64 ep, .slice ab nb cb, .slice as2 ns cs, .slice at2 nt ct, .int .i64 xh, .int .i64 xe, .string xr, .string xp, .int .i64 xa, .slice a1 n1 c1, .slice a2 n2 c2, .slice a3 n3 c3, .slice ag ng cg] : Array Value) = AA at *
  generalize (#[.slice ab nb cb, .slice as2 ns cs, .slice at2 nt ct, .int .i64 xh, .int .i64 xe, .string xr, .string xp, .int .i64 xa, .slice a1 n1 c1, .slice a2 n2 c2, .slice a3 n3 c3, .slice ag ng cg] : Array Value) = WW at *
  generalize (#[.slice ar nr cr, .int .i64 K, .int .i64 N] : Array Value) = TT at *
  have HBX : Hid (∀ W, Below w2.heap.size w2 W → Below w.heap.size w W ∧ Box 82 W (w.heap.size + 1 + 1 + 1) [.int .i64 1, .func (Fn.func 57) #[] #[], .int .i64 2, .func (Fn.func 58) #[] #[], .int .i64 3, .func (Fn.func 59) #[] #[], .int .i64 4, .func (Fn.func 60) #[] #[], .int .i64 5, .func (Fn.func 61) #[] #[]] ∧ BxA 77 W (w.heap.size + 1 + 1) AA) := fun W hW => ⟨(HCC.out W hW).1, (HCC.out W hW).2, hAA.later hW⟩
  have HAS : Hid (AA.size = 18) := hAS
  clear HCC hAA hAS
  go_wp2
  go_loopw [26] (fun i wr => WfR w2 [B0, B1, B2, B3, B4] i wr) (fun i _ => 5 - (intOf i).toNat)
  case atStart => exact HST.out
  case round =>
    obtain ⟨m, hm, rfl, HI⟩ := hrel
    clear HST
    rcases (by omega : m = 0 ∨ m = 1 ∨ m = 2 ∨ m = 3 ∨ m = 4 ∨ m = 5) with rfl | rfl | rfl | rfl | rfl | rfl
    · have HP : Hid (∀ j, j < 0 → [B0, B1, B2, B3, B4].getD j false = true) := HI.out.2
      have cc0 := (HBX.out _ HI.out.1).2.1.at 0 _ rfl
      have cc1 := (HBX.out _ HI.out.1).2.1.at 1 _ rfl
      have hbn : Below wr.heap.size wr (wr.alloc (.cells #[.int .i64 1, .func (Fn.func 57) #[] #[]] 82)) := below_alloc _ _
      have hb2 : Below w2.heap.size w2 (wr.alloc (.cells #[.int .i64 1, .func (Fn.func 57) #[] #[]] 82)) := HI.out.1.trans (hbn.mono HI.out.1.size)
      have hY := (HBX.out _ hb2).1
      have HA : Hid (BxA 77 (wr.alloc (.cells #[.int .i64 1, .func (Fn.func 57) #[] #[]] 82)) (w.heap.size + 1 + 1) AA) := (HBX.out _ hb2).2.2
      have hcall := H0.out _ hY
      have hbx : Box 82 (wr.alloc (.cells #[.int .i64 1, .func (Fn.func 57) #[] #[]] 82)) wr.heap.size [.int .i64 1, .func (Fn.func 57) #[] #[]] := Box.new _ _ _
      have HNX : Hid (∀ W, Below (wr.alloc (.cells #[.int .i64 1, .func (Fn.func 57) #[] #[]] 82)).heap.size (wr.alloc (.cells #[.int .i64 1, .func (Fn.func 57) #[] #[]] 82)) W → (B0 = true → WfR w2 [B0, B1, B2, B3, B4] (.int .i64 1) W) ∧ Below w.heap.size w W ∧ W.cell? ⟨wr.heap.size, 0, none⟩ = some (.int .i64 1)) := fun W hW => ⟨fun hb => ⟨1, by omega, rfl, hb2.trans (hW.mono hb2.size), fun j hj => by
        match j, hj with
        | 0, _ => exact hb⟩, hY.trans (hW.mono hY.size), (hbx.later hW).at 0 _ rfl⟩
      have HSF : ∀ (W : World) (f : Fn), (store ⟨wr.heap.size, 1, none⟩ (.func f #[] #[])).run Tryz.prog W = stored Tryz.prog W ⟨wr.heap.size, 1, none⟩ (.func f #[] #[]) .plain := fun W f => run_store Tryz.prog W _ _ _ rfl
      clear HP HI hY hb2 hbn hbx
      go_wp2_with (first | (refine wp_loadAs rfl _ rfl (w.heap.size + 1 + 1) AA rfl HA.out HAS.out ?_) | fail)
      refine hcall.mono ?_
      rintro e w3 ⟨rfl, hb3⟩
      obtain ⟨hn2, hbf, hcf⟩ := HNX.out _ hb3
      have HBF2 : Hid (Below w.heap.size w w3) := hbf
      have HN2 : Hid (B0 = true → WfR w2 [B0, B1, B2, B3, B4] (.int .i64 1) w3) := hn2
      clear hbf hb3 HNX hcall cc0 cc1 HA HSF hn2
      by_cases hbi : B0 = true
      · have HN4 : Hid (WfR w2 [B0, B1, B2, B3, B4] (.int .i64 1) w3) := HN2.out hbi
        clear HN2 hcf
        go_wp2
        go_roundw
        case rel => exact HN4.out
        case measure => simp [intOf]
      · have hbi' : B0 = false := by simpa using hbi
        clear HN2 hbi
        go_wp2
        go_quiet (fail)
        go_wp2
        try rw [Exit.noGoto_ret]
        go_ret3
        exact ⟨by simp [vfC, vfV, vfB, hbi'], below_drn HBF2.out _⟩
    · have HP : Hid (∀ j, j < 1 → [B0, B1, B2, B3, B4].getD j false = true) := HI.out.2
      have hB0 : B0 = true := HP.out 0 (by omega)
      have cc0 := (HBX.out _ HI.out.1).2.1.at 2 _ rfl
      have cc1 := (HBX.out _ HI.out.1).2.1.at 3 _ rfl
      have hbn : Below wr.heap.size wr (wr.alloc (.cells #[.int .i64 2, .func (Fn.func 58) #[] #[]] 82)) := below_alloc _ _
      have hb2 : Below w2.heap.size w2 (wr.alloc (.cells #[.int .i64 2, .func (Fn.func 58) #[] #[]] 82)) := HI.out.1.trans (hbn.mono HI.out.1.size)
      have hY := (HBX.out _ hb2).1
      have HA : Hid (BxA 77 (wr.alloc (.cells #[.int .i64 2, .func (Fn.func 58) #[] #[]] 82)) (w.heap.size + 1 + 1) AA) := (HBX.out _ hb2).2.2
      have hcall := H1.out _ hY
      have hbx : Box 82 (wr.alloc (.cells #[.int .i64 2, .func (Fn.func 58) #[] #[]] 82)) wr.heap.size [.int .i64 2, .func (Fn.func 58) #[] #[]] := Box.new _ _ _
      have HNX : Hid (∀ W, Below (wr.alloc (.cells #[.int .i64 2, .func (Fn.func 58) #[] #[]] 82)).heap.size (wr.alloc (.cells #[.int .i64 2, .func (Fn.func 58) #[] #[]] 82)) W → (B1 = true → WfR w2 [B0, B1, B2, B3, B4] (.int .i64 2) W) ∧ Below w.heap.size w W ∧ W.cell? ⟨wr.heap.size, 0, none⟩ = some (.int .i64 2)) := fun W hW => ⟨fun hb => ⟨2, by omega, rfl, hb2.trans (hW.mono hb2.size), fun j hj => by
        match j, hj with
        | 0, _ => exact hB0
        | 1, _ => exact hb⟩, hY.trans (hW.mono hY.size), (hbx.later hW).at 0 _ rfl⟩
      have HSF : ∀ (W : World) (f : Fn), (store ⟨wr.heap.size, 1, none⟩ (.func f #[] #[])).run Tryz.prog W = stored Tryz.prog W ⟨wr.heap.size, 1, none⟩ (.func f #[] #[]) .plain := fun W f => run_store Tryz.prog W _ _ _ rfl
      clear HP HI hY hb2 hbn hbx
      go_wp2_with (first | (refine wp_loadAs rfl _ rfl (w.heap.size + 1 + 1) AA rfl HA.out HAS.out ?_) | fail)
      refine hcall.mono ?_
      rintro e w3 ⟨rfl, hb3⟩
      obtain ⟨hn2, hbf, hcf⟩ := HNX.out _ hb3
      have HBF2 : Hid (Below w.heap.size w w3) := hbf
      have HN2 : Hid (B1 = true → WfR w2 [B0, B1, B2, B3, B4] (.int .i64 2) w3) := hn2
      clear hbf hb3 HNX hcall cc0 cc1 HA HSF hn2
      by_cases hbi : B1 = true
      · have HN4 : Hid (WfR w2 [B0, B1, B2, B3, B4] (.int .i64 2) w3) := HN2.out hbi
        clear HN2 hcf
        go_wp2
        go_roundw
        case rel => exact HN4.out
        case measure => simp [intOf]
      · have hbi' : B1 = false := by simpa using hbi
        clear HN2 hbi
        go_wp2
        go_quiet (fail)
        go_wp2
        try rw [Exit.noGoto_ret]
        go_ret3
        exact ⟨by simp [vfC, vfV, vfB, hbi', hB0], below_drn HBF2.out _⟩
    · have HP : Hid (∀ j, j < 2 → [B0, B1, B2, B3, B4].getD j false = true) := HI.out.2
      have hB0 : B0 = true := HP.out 0 (by omega)
      have hB1 : B1 = true := HP.out 1 (by omega)
      have cc0 := (HBX.out _ HI.out.1).2.1.at 4 _ rfl
      have cc1 := (HBX.out _ HI.out.1).2.1.at 5 _ rfl
      have hbn : Below wr.heap.size wr (wr.alloc (.cells #[.int .i64 3, .func (Fn.func 59) #[] #[]] 82)) := below_alloc _ _
      have hb2 : Below w2.heap.size w2 (wr.alloc (.cells #[.int .i64 3, .func (Fn.func 59) #[] #[]] 82)) := HI.out.1.trans (hbn.mono HI.out.1.size)
      have hY := (HBX.out _ hb2).1
      have HA : Hid (BxA 77 (wr.alloc (.cells #[.int .i64 3, .func (Fn.func 59) #[] #[]] 82)) (w.heap.size + 1 + 1) AA) := (HBX.out _ hb2).2.2
      have hcall := H2.out hB0 _ hY
      have hbx : Box 82 (wr.alloc (.cells #[.int .i64 3, .func (Fn.func 59) #[] #[]] 82)) wr.heap.size [.int .i64 3, .func (Fn.func 59) #[] #[]] := Box.new _ _ _
      have HNX : Hid (∀ W, Below (wr.alloc (.cells #[.int .i64 3, .func (Fn.func 59) #[] #[]] 82)).heap.size (wr.alloc (.cells #[.int .i64 3, .func (Fn.func 59) #[] #[]] 82)) W → (B2 = true → WfR w2 [B0, B1, B2, B3, B4] (.int .i64 3) W) ∧ Below w.heap.size w W ∧ W.cell? ⟨wr.heap.size, 0, none⟩ = some (.int .i64 3)) := fun W hW => ⟨fun hb => ⟨3, by omega, rfl, hb2.trans (hW.mono hb2.size), fun j hj => by
        match j, hj with
        | 0, _ => exact hB0
        | 1, _ => exact hB1
        | 2, _ => exact hb⟩, hY.trans (hW.mono hY.size), (hbx.later hW).at 0 _ rfl⟩
      have HSF : ∀ (W : World) (f : Fn), (store ⟨wr.heap.size, 1, none⟩ (.func f #[] #[])).run Tryz.prog W = stored Tryz.prog W ⟨wr.heap.size, 1, none⟩ (.func f #[] #[]) .plain := fun W f => run_store Tryz.prog W _ _ _ rfl
      clear HP HI hY hb2 hbn hbx
      go_wp2_with (first | (refine wp_loadAs rfl _ rfl (w.heap.size + 1 + 1) AA rfl HA.out HAS.out ?_) | fail)
      refine hcall.mono ?_
      rintro e w3 ⟨rfl, hb3⟩
      obtain ⟨hn2, hbf, hcf⟩ := HNX.out _ hb3
      have HBF2 : Hid (Below w.heap.size w w3) := hbf
      have HN2 : Hid (B2 = true → WfR w2 [B0, B1, B2, B3, B4] (.int .i64 3) w3) := hn2
      clear hbf hb3 HNX hcall cc0 cc1 HA HSF hn2
      by_cases hbi : B2 = true
      · have HN4 : Hid (WfR w2 [B0, B1, B2, B3, B4] (.int .i64 3) w3) := HN2.out hbi
        clear HN2 hcf
        go_wp2
        go_roundw
        case rel => exact HN4.out
        case measure => simp [intOf]
      · have hbi' : B2 = false := by simpa using hbi
        clear HN2 hbi
        go_wp2
        go_quiet (fail)
        go_wp2
        try rw [Exit.noGoto_ret]
        go_ret3
        exact ⟨by simp [vfC, vfV, vfB, hbi', hB0, hB1], below_drn HBF2.out _⟩
    · have HP : Hid (∀ j, j < 3 → [B0, B1, B2, B3, B4].getD j false = true) := HI.out.2
      have hB0 : B0 = true := HP.out 0 (by omega)
      have hB1 : B1 = true := HP.out 1 (by omega)
      have hB2 : B2 = true := HP.out 2 (by omega)
      have cc0 := (HBX.out _ HI.out.1).2.1.at 6 _ rfl
      have cc1 := (HBX.out _ HI.out.1).2.1.at 7 _ rfl
      have hbn : Below wr.heap.size wr (wr.alloc (.cells #[.int .i64 4, .func (Fn.func 60) #[] #[]] 82)) := below_alloc _ _
      have hb2 : Below w2.heap.size w2 (wr.alloc (.cells #[.int .i64 4, .func (Fn.func 60) #[] #[]] 82)) := HI.out.1.trans (hbn.mono HI.out.1.size)
      have hY := (HBX.out _ hb2).1
      have HA : Hid (BxA 77 (wr.alloc (.cells #[.int .i64 4, .func (Fn.func 60) #[] #[]] 82)) (w.heap.size + 1 + 1) AA) := (HBX.out _ hb2).2.2
      have hcall := H3.out _ hY
      have hbx : Box 82 (wr.alloc (.cells #[.int .i64 4, .func (Fn.func 60) #[] #[]] 82)) wr.heap.size [.int .i64 4, .func (Fn.func 60) #[] #[]] := Box.new _ _ _
      have HNX : Hid (∀ W, Below (wr.alloc (.cells #[.int .i64 4, .func (Fn.func 60) #[] #[]] 82)).heap.size (wr.alloc (.cells #[.int .i64 4, .func (Fn.func 60) #[] #[]] 82)) W → (B3 = true → WfR w2 [B0, B1, B2, B3, B4] (.int .i64 4) W) ∧ Below w.heap.size w W ∧ W.cell? ⟨wr.heap.size, 0, none⟩ = some (.int .i64 4)) := fun W hW => ⟨fun hb => ⟨4, by omega, rfl, hb2.trans (hW.mono hb2.size), fun j hj => by
        match j, hj with
        | 0, _ => exact hB0
        | 1, _ => exact hB1
        | 2, _ => exact hB2
        | 3, _ => exact hb⟩, hY.trans (hW.mono hY.size), (hbx.later hW).at 0 _ rfl⟩
      have HSF : ∀ (W : World) (f : Fn), (store ⟨wr.heap.size, 1, none⟩ (.func f #[] #[])).run Tryz.prog W = stored Tryz.prog W ⟨wr.heap.size, 1, none⟩ (.func f #[] #[]) .plain := fun W f => run_store Tryz.prog W _ _ _ rfl
      clear HP HI hY hb2 hbn hbx
      go_wp2_with (first | (refine wp_loadAs rfl _ rfl (w.heap.size + 1 + 1) AA rfl HA.out HAS.out ?_) | fail)
      refine hcall.mono ?_
      rintro e w3 ⟨rfl, hb3⟩
      obtain ⟨hn2, hbf, hcf⟩ := HNX.out _ hb3
      have HBF2 : Hid (Below w.heap.size w w3) := hbf
      have HN2 : Hid (B3 = true → WfR w2 [B0, B1, B2, B3, B4] (.int .i64 4) w3) := hn2
      clear hbf hb3 HNX hcall cc0 cc1 HA HSF hn2
      by_cases hbi : B3 = true
      · have HN4 : Hid (WfR w2 [B0, B1, B2, B3, B4] (.int .i64 4) w3) := HN2.out hbi
        clear HN2 hcf
        go_wp2
        go_roundw
        case rel => exact HN4.out
        case measure => simp [intOf]
      · have hbi' : B3 = false := by simpa using hbi
        clear HN2 hbi
        go_wp2
        go_quiet (fail)
        go_wp2
        try rw [Exit.noGoto_ret]
        go_ret3
        exact ⟨by simp [vfC, vfV, vfB, hbi', hB0, hB1, hB2], below_drn HBF2.out _⟩
    · have HP : Hid (∀ j, j < 4 → [B0, B1, B2, B3, B4].getD j false = true) := HI.out.2
      have hB0 : B0 = true := HP.out 0 (by omega)
      have hB1 : B1 = true := HP.out 1 (by omega)
      have hB2 : B2 = true := HP.out 2 (by omega)
      have hB3 : B3 = true := HP.out 3 (by omega)
      have cc0 := (HBX.out _ HI.out.1).2.1.at 8 _ rfl
      have cc1 := (HBX.out _ HI.out.1).2.1.at 9 _ rfl
      have hbn : Below wr.heap.size wr (wr.alloc (.cells #[.int .i64 5, .func (Fn.func 61) #[] #[]] 82)) := below_alloc _ _
      have hb2 : Below w2.heap.size w2 (wr.alloc (.cells #[.int .i64 5, .func (Fn.func 61) #[] #[]] 82)) := HI.out.1.trans (hbn.mono HI.out.1.size)
      have hY := (HBX.out _ hb2).1
      have HA : Hid (BxA 77 (wr.alloc (.cells #[.int .i64 5, .func (Fn.func 61) #[] #[]] 82)) (w.heap.size + 1 + 1) AA) := (HBX.out _ hb2).2.2
      have hcall := H4.out _ hY
      have hbx : Box 82 (wr.alloc (.cells #[.int .i64 5, .func (Fn.func 61) #[] #[]] 82)) wr.heap.size [.int .i64 5, .func (Fn.func 61) #[] #[]] := Box.new _ _ _
      have HNX : Hid (∀ W, Below (wr.alloc (.cells #[.int .i64 5, .func (Fn.func 61) #[] #[]] 82)).heap.size (wr.alloc (.cells #[.int .i64 5, .func (Fn.func 61) #[] #[]] 82)) W → (B4 = true → WfR w2 [B0, B1, B2, B3, B4] (.int .i64 5) W) ∧ Below w.heap.size w W ∧ W.cell? ⟨wr.heap.size, 0, none⟩ = some (.int .i64 5)) := fun W hW => ⟨fun hb => ⟨5, by omega, rfl, hb2.trans (hW.mono hb2.size), fun j hj => by
        match j, hj with
        | 0, _ => exact hB0
        | 1, _ => exact hB1
        | 2, _ => exact hB2
        | 3, _ => exact hB3
        | 4, _ => exact hb⟩, hY.trans (hW.mono hY.size), (hbx.later hW).at 0 _ rfl⟩
      have HSF : ∀ (W : World) (f : Fn), (store ⟨wr.heap.size, 1, none⟩ (.func f #[] #[])).run Tryz.prog W = stored Tryz.prog W ⟨wr.heap.size, 1, none⟩ (.func f #[] #[]) .plain := fun W f => run_store Tryz.prog W _ _ _ rfl
      clear HP HI hY hb2 hbn hbx
      go_wp2_with (first | (refine wp_loadAs rfl _ rfl (w.heap.size + 1 + 1) AA rfl HA.out HAS.out ?_) | fail)
      refine hcall.mono ?_
      rintro e w3 ⟨rfl, hb3⟩
      obtain ⟨hn2, hbf, hcf⟩ := HNX.out _ hb3
      have HBF2 : Hid (Below w.heap.size w w3) := hbf
      have HN2 : Hid (B4 = true → WfR w2 [B0, B1, B2, B3, B4] (.int .i64 5) w3) := hn2
      clear hbf hb3 HNX hcall cc0 cc1 HA HSF hn2
      by_cases hbi : B4 = true
      · have HN4 : Hid (WfR w2 [B0, B1, B2, B3, B4] (.int .i64 5) w3) := HN2.out hbi
        clear HN2 hcf
        go_wp2
        go_roundw
        case rel => exact HN4.out
        case measure => simp [intOf]
      · have hbi' : B4 = false := by simpa using hbi
        clear HN2 hbi
        go_wp2
        go_quiet (fail)
        go_wp2
        try rw [Exit.noGoto_ret]
        go_ret3
        exact ⟨by simp [vfC, vfV, vfB, hbi', hB0, hB1, hB2, hB3], below_drn HBF2.out _⟩
    · have hB0 : B0 = true := HI.out.2 0 (by omega)
      have hB1 : B1 = true := HI.out.2 1 (by omega)
      have hB2 : B2 = true := HI.out.2 2 (by omega)
      have hB3 : B3 = true := HI.out.2 3 (by omega)
      have hB4 : B4 = true := HI.out.2 4 (by omega)
      have HBI : Hid (Below w.heap.size w wr) := (HBX.out _ HI.out.1).1
      obtain ⟨z0, z1⟩ := HWC.out _ HI.out.1
      clear HI H0 H1 H2 H3 H4 HBX HWC
      go_wp2_with fail
      refine (HPS.out _ HBI.out).mono ?_
      rintro e w3 ⟨rfl, hb3⟩
      have HB3 : Hid (Below w.heap.size w w3) := HBI.out.trans (hb3.mono HBI.out.size)
      clear hb3 HBI HPS z0 z1
      go_wp2
      go_ret3
      exact ⟨by simp [vfC, vfV, vfB, hB0, hB1, hB2, hB3, hB4], HB3.out⟩

end Go.Proofs.YtgkfelhjbeegaaaGreatDoor
