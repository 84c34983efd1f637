/-
  Texts laid together: Jg, Lmk, Jl, Opn.
-/
import Derived.Test.YthmfbnnfdhoieaaPkERL13
import Derived.Test.YthmfbnnfdhoieaaPkERL17
import Derived.Test.YthmfbnnfdhoieaaPkERL9
import Derived.Test.YthmfbnnfdhoieaaPkERL10
import Derived.Test.YthmfbnnfdhoieaaPkERL7
import Derived.Test.YthmfbnnfdhoieaaPkERL1
import Derived.Lib.SmallJoins
import Derived.Deep.Strs
import Derived.Deep.Slices
import Derived.ProofKit
/-
  What a server is ready with: the program's and the specification's answers.
-/
namespace Go.Proofs.Ythmfbnnfdhoieaa
open Go.RowKit Go.BigFrame Go.Sort
set_option linter.unusedVariables false
set_option linter.unusedSimpArgs false

/-- how many are the first x of n -/
def tkN (x : Int) (n : Nat) : Nat := (min (max x 0) (n : Int)).toNat
theorem tkN_le (x : Int) (n : Nat) : tkN x n ≤ n := by unfold tkN; omega
theorem tkN_int (x : Int) (n : Nat) : ((tkN x n : Nat) : Int) = min (max x 0) (n : Int) := by unfold tkN; omega
theorem RS.takeU {w : World} {a : Option Addr} {c g o : Nat} {l : List Ug} (h : RS 3 ucs w (.slice a l.length c) g o l) (k : Nat) (hk : k ≤ l.length) : RS 3 ucs w (.slice a k c) g o (l.take k) := by
  have e1 : (l.take k).length = k := by simp; omega
  obtain ⟨a', c', hv, h2, h3, h4⟩ := h
  simp only [Value.slice.injEq] at hv
  obtain ⟨rfl, _, rfl⟩ := hv
  refine ⟨a, c, by rw [e1], by omega, fun h0 => h3 (by omega), fun j hj => ?_⟩
  have := h4 j (by omega)
  rw [List.getElem_take]
  exact this

theorem firstOfAll_any (x : Int) (p : Nat) (x0 x1 x2 x3 x4 x5 x6 x8 x9 x10 : Value) (aa : Option Addr) (na ca : Nat) (w : World) (h : Box 42 w p [x0, x1, x2, x3, x4, x5, x6, .slice aa na ca, x8, x9, x10]) :
    Calls Try.prog 24 #[.pointer (some ⟨p, 0, none⟩), .int .i64 x] w fun e w' => e = .returned (.int .i64 (tkN x na : Nat)) ∧ w' = w := by
  have z7 := h.at 7 _ rfl
  have hx := tkN_int x na
  go_enter Try.func24, Try.ntmps24
  go_wp2
  go_ret
  exact ⟨by rw [hx]; rfl, rfl⟩

/-- what is ready of these changes -/
noncomputable def rlA (x : Int) (U : List Ug) : List Le := UV.apA [] (U.take (tkN x U.length))

set_option maxRecDepth 100000 in
set_option maxHeartbeats 2000000 in
theorem ReadyLeaves_any (n : Sn) (vd vv vt : Value) (aa : Option Addr) (ca gu ou : Nat) (U : List Ug) (w : World) (hs : vd.oneCell' = true ∧ vv.oneCell' = true ∧ vt.oneCell' = true) (hU : RS 3 ucs w (.slice aa U.length ca) gu ou U) (hc : U.length ≤ ca) (hsm : SmallUs U) :
    Calls Try.prog 7 #[.agg #[.int .i64 n.a, .int .i64 n.k, .bool n.u, vd, .int .i64 n.e, vv, vt, .slice aa U.length ca, .int .i64 n.r0, .int .i64 n.r1, .int .i64 n.r2]] w (ApP (rlA n.r2 U) w) := by
  obtain ⟨a, k, u, e, r0, r1, r2⟩ := n
  simp only
  have hle := tkN_le r2 U.length
  have HAA : Hid (∀ W, Below w.heap.size w W → Calls Try.prog 23 #[.slice none 0 0, .slice aa (tkN r2 U.length) ca] W (ApP (rlA r2 U) W)) := fun W hW => ApplyAll_any (.slice none 0 0) 0 0 [] _ gu ou _ W (RS.nil W 0 0) (fun f hf => by simp at hf) ((hU.later hW).takeU _ hle) (fun x hx => hsm x (List.mem_of_mem_take hx))
  unfold ApP at HAA ⊢
  have HFO : Hid (∀ W p x0 x1 x2 x3 x4 x5 x6 x8 x9 x10, Box 42 W p [x0, x1, x2, x3, x4, x5, x6, .slice aa U.length ca, x8, x9, x10] → Calls Try.prog 24 #[.pointer (some ⟨p, 0, none⟩), .int .i64 r2] W fun e w' => e = .returned (.int .i64 (tkN r2 U.length : Nat)) ∧ Below W.heap.size W w') := fun W p x0 x1 x2 x3 x4 x5 x6 x8 x9 x10 h => (firstOfAll_any r2 p x0 x1 x2 x3 x4 x5 x6 x8 x9 x10 aa U.length ca W h).mono fun e w' ⟨h1, h2⟩ => ⟨h1, by rw [h2]; exact Below.refl _ _⟩
  generalize rlA r2 U = M at *
  generalize tkN r2 U.length = m at *
  generalize U.length = nu at *
  have hm : (m : Int) ≤ (ca : Int) := by omega
  clear hU hsm
  have HB : Hid (Below w.heap.size w (w.alloc (.cells #[.int .i64 a, .int .i64 k, .bool u, vd, .int .i64 e, vv, vt, .slice aa nu ca, .int .i64 r0, .int .i64 r1, .int .i64 r2] 42)) ∧ Box 42 (w.alloc (.cells #[.int .i64 a, .int .i64 k, .bool u, vd, .int .i64 e, vv, vt, .slice aa nu ca, .int .i64 r0, .int .i64 r1, .int .i64 r2] 42)) w.heap.size [.int .i64 a, .int .i64 k, .bool u, vd, .int .i64 e, vv, vt, .slice aa nu ca, .int .i64 r0, .int .i64 r1, .int .i64 r2]) := ⟨below_alloc _ _, Box.new _ _ _⟩
  go_enter Try.func7, Try.ntmps7
  go_wp2
  generalize hW1 : (w.alloc (.cells #[.int .i64 a, .int .i64 k, .bool u, vd, .int .i64 e, vv, vt, .slice aa nu ca, .int .i64 r0, .int .i64 r1, .int .i64 r2] 42)) = W1 at *
  have HK : Hid (∀ W, Below W1.heap.size W1 W → (W.cell? ⟨w.heap.size, 7, none⟩ = some (.slice aa nu ca) ∧ W.cell? ⟨w.heap.size, 10, none⟩ = some (.int .i64 r2))) := fun W hW => ⟨(HB.out.2.later hW).at 7 _ rfl, (HB.out.2.later hW).at 10 _ rfl⟩
  have HFB : Hid (∀ W, Below W1.heap.size W1 W → Calls Try.prog 24 #[.pointer (some ⟨w.heap.size, 0, none⟩), .int .i64 r2] W fun e w' => e = .returned (.int .i64 (m : Nat)) ∧ Below W.heap.size W w') := fun W hW => HFO.out W w.heap.size _ _ _ _ _ _ _ _ _ _ (HB.out.2.later hW)
  have HAB : Hid (∀ W, Below W1.heap.size W1 W → Calls Try.prog 23 #[.slice none 0 0, .slice aa m ca] W fun e w' => ∃ a cap g, e = .returned (.slice a M.length cap) ∧ RW 2 lcs w' (.slice a M.length cap) g M ∧ W.heap.size ≤ g ∧ Below W.heap.size W w') := fun W hW => HAA.out W (HB.out.1.trans (hW.mono HB.out.1.size))
  have HB1 : Hid (Below w.heap.size w W1) := HB.out.1
  have hb0 : Below W1.heap.size W1 W1.drew := (Below.refl _ _).drew
  clear HB HFO HAA hW1
  generalize hp0 : w.heap.size = p0 at *
  go_region_held3 (fun W => (W.cell? ⟨p0, 7, none⟩ = some (.slice aa nu ca) ∧ W.cell? ⟨p0, 10, none⟩ = some (.int .i64 r2))) (first | (go_keep; done) | exact HK.out _ hb0) (first | (go_at_call 24; refine (HFB.out _ hb0).mono ?_; rintro e w2 ⟨rfl, hb2⟩; have hb0 := hb0.trans (hb2.mono hb0.size)) | (go_at_call 23; refine (HAB.out _ hb0).mono ?_; rintro e w3 ⟨a3, c3, g3, rfl, hr3, hg3, hb3⟩; have hq3 := Nat.le_trans hb0.size hg3; have hb0 := hb0.trans (hb3.mono hb0.size)) | fail)
  try rename_i hHeld
  try clear hHeld
  subst hp0
  have HF : Hid (w.heap.size ≤ g3 ∧ Below w.heap.size w w3) := ⟨by have := HB1.out.size; omega, HB1.out.trans (hb0.mono HB1.out.size)⟩
  clear hb0 HK HFB HAB
  go_wp2
  go_ret
  exact ⟨a3, c3, g3, rfl, hr3, HF.out.1, HF.out.2⟩

set_option maxRecDepth 100000 in
set_option maxHeartbeats 2000000 in
theorem sReadyLeaves_any (n : Sn) (vd vv vt : Value) (aa : Option Addr) (ca gu ou : Nat) (U : List Ug) (w : World) (hU : RS 3 ucs w (.slice aa U.length ca) gu ou U) (hc : U.length ≤ ca) (hsm : SmallUs U) :
    Calls Try.prog 5 #[.agg #[.int .i64 n.a, .int .i64 n.k, .bool n.u, vd, .int .i64 n.e, vv, vt, .slice aa U.length ca, .int .i64 n.r0, .int .i64 n.r1, .int .i64 n.r2]] w (ApP (rlA n.r2 U) w) := by
  obtain ⟨a, k, u, e, r0, r1, r2⟩ := n
  simp only
  have hle := tkN_le r2 U.length
  have hti := tkN_int r2 U.length
  have HAA : Hid (∀ W g, Below w.heap.size w W → Calls Try.prog 17 #[.slice (some ⟨g, 0, none⟩) 0 0, .slice aa (tkN r2 U.length) ca] W (ApP (rlA r2 U) W)) := fun W g hW => (sApplyAll_any (some ⟨g, 0, none⟩) 0 g 0 [] _ gu ou _ W ⟨_, _, rfl, by simp, fun h => by simp at h, fun j h => by simp at h⟩ (fun h => by cases h) (fun f hf => by simp at hf) (by simp) ((hU.later hW).takeU _ hle) (fun x hx => hsm x (List.mem_of_mem_take hx))).mono fun _ _ h => h.plain
  unfold ApP at HAA ⊢
  generalize rlA r2 U = M at *
  generalize htk : tkN r2 U.length = m at *
  generalize U.length = nu at *
  have hm : (m : Int) ≤ (ca : Int) := by omega
  have hm0 : (0 : Int) ≤ (m : Int) := by omega
  clear hU hsm htk
  have HB : Hid (Below w.heap.size w ((w.alloc (.cells #[.int .i64 a, .int .i64 k, .bool u, vd, .int .i64 e, vv, vt, .slice aa nu ca, .int .i64 r0, .int .i64 r1, .int .i64 r2] 42)).alloc (.cells #[] 62)) ∧ Box 42 ((w.alloc (.cells #[.int .i64 a, .int .i64 k, .bool u, vd, .int .i64 e, vv, vt, .slice aa nu ca, .int .i64 r0, .int .i64 r1, .int .i64 r2] 42)).alloc (.cells #[] 62)) w.heap.size [.int .i64 a, .int .i64 k, .bool u, vd, .int .i64 e, vv, vt, .slice aa nu ca, .int .i64 r0, .int .i64 r1, .int .i64 r2]) := ⟨(below_alloc _ _).alloc (by simp) _, (Box.new _ _ _).later (below_alloc _ _)⟩
  by_cases hbig : (nu : Int) < r2
  · obtain rfl : m = nu := by omega
    have hn0 : ¬ (m : Int) < 0 := by omega
    clear hti hle
    go_enter Try.func5, Try.ntmps5
    go_wp2_with fail
    refine (HAA.out _ _ HB.out.1).mono ?_
    rintro e w3 ⟨a3, c3, g3, rfl, hr3, hg3, hb3⟩
    have HF : Hid (w.heap.size ≤ g3 ∧ Below w.heap.size w w3) := ⟨by have := HB.out.1.size; omega, HB.out.1.trans (hb3.mono HB.out.1.size)⟩
    clear HAA HB hb3 hg3
    go_wp2
    go_ret
    exact ⟨a3, c3, g3, rfl, hr3, HF.out.1, HF.out.2⟩
  by_cases hneg : r2 < 0
  · obtain rfl : m = 0 := by omega
    clear hti hle
    go_enter Try.func5, Try.ntmps5
    go_wp2_with fail
    refine (HAA.out _ _ HB.out.1).mono ?_
    rintro e w3 ⟨a3, c3, g3, rfl, hr3, hg3, hb3⟩
    have HF : Hid (w.heap.size ≤ g3 ∧ Below w.heap.size w w3) := ⟨by have := HB.out.1.size; omega, HB.out.1.trans (hb3.mono HB.out.1.size)⟩
    clear HAA HB hb3 hg3
    go_wp2
    go_ret
    exact ⟨a3, c3, g3, rfl, hr3, HF.out.1, HF.out.2⟩
  · obtain rfl : r2 = (m : Int) := by omega
    clear hti hle
    go_enter Try.func5, Try.ntmps5
    go_wp2_with fail
    refine (HAA.out _ _ HB.out.1).mono ?_
    rintro e w3 ⟨a3, c3, g3, rfl, hr3, hg3, hb3⟩
    have HF : Hid (w.heap.size ≤ g3 ∧ Below w.heap.size w w3) := ⟨by have := HB.out.1.size; omega, HB.out.1.trans (hb3.mono HB.out.1.size)⟩
    clear HAA HB hb3 hg3
    go_wp2
    go_ret
    exact ⟨a3, c3, g3, rfl, hr3, HF.out.1, HF.out.2⟩

end Go.Proofs.Ythmfbnnfdhoieaa
/-
  Rows of leaves that a law marks, and looks at again.
-/
namespace Go.Proofs.Ythmfbnnfdhoieaa
open Go.RowKit Go.BigFrame Go.Sort
set_option linter.unusedVariables false
set_option linter.unusedSimpArgs false

theorem markL_one (v : Value) (g : Nat) (l : List Le) (w : World) (h : RW 2 lcs w v g l) :
    Calls Try.prog 11 #[v, .int .i64 1] w fun e w' => e = .returned (.int .i64 (1 + 2 * l.length : Nat)) ∧ RW 2 lcs w' v g (lmarks 1 l.length) ∧ w.grownBy w' (rowF g l.length) := markLeafS_any v g l 1 1 w rfl h (by omega) (by omega)
theorem heldL_one (v : Value) (g n : Nat) (w : World) (h : RW 2 lcs w v g (lmarks 1 n)) :
    Calls Try.prog 12 #[v, .int .i64 1] w fun e w' => e = .returned (.int .i64 (1 + 2 * n : Nat)) ∧ Below w.heap.size w w' := heldLeafS_any v g 1 1 n w rfl h.1 (by omega) (by omega)
/-- a row kept while another is marked -/
theorem RW.marks {w w' : World} {v : Value} {g g2 n : Nat} {l : List Le} (h : RW 2 lcs w v g l) (hlt : 0 < l.length → 0 < n → g ≠ g2) (hg : w.grownBy w' (rowF g2 n)) : RW 2 lcs w' v g l := h.grown hg (fun hp => rowF_ne (fun hp2 => hlt hp hp2))
/-- what a list answered leaves: where its row lies -/
theorem LqP.open {M : List Le} {R : Bool} {w w' : World} {e : Ending} (h : LqP M R w e w') : ∃ a cap g, e = .returned (.tuple #[.slice a M.length cap, .bool R]) ∧ RW 2 lcs w' (.slice a M.length cap) g M ∧ w.heap.size ≤ g ∧ Below w.heap.size w w' := h

end Go.Proofs.Ythmfbnnfdhoieaa
/-
  The walk of the law FnExactReadyLeaves: it answers true of every server.
-/
namespace Go.Proofs.Ythmfbnnfdhoieaa
open Go.RowKit Go.BigFrame Go.Sort
set_option linter.unusedVariables false
set_option linter.unusedSimpArgs false

theorem RW.below_of {k : Nat} {α : Type} {enc : α → List Value} {w w' : World} {v : Value} {g : Nat} {l : List α} (h : RW k enc w v g l) (hb : Below w.heap.size w w') : RW k enc w' v g l := h.later hb
theorem Box.inG {T lo hi : Nat} {W W' : World} {g : Nat} {cs : List Value} (h : Box T W g cs) (hb : InG lo hi W W') (hne : g < lo ∨ hi ≤ g) : Box T W' g cs := h.keep (hb.2.2.2.2 g h.lt hne)
/-- what the law has in hand: the argument's box, its copy's box and rows, both answers -/
def RdS (w w1 W : World) (x : Nat) (src xs : List Value) (lo hi : Nat) (vd vv vt va : Value) (L : Sr) (v3 v5 : Value) (g3 g5 : Nat) (M : List Le) : Prop :=
  Below w.heap.size w W ∧ Below w1.heap.size w1 W ∧ Box 31 W w.heap.size src ∧ Box 42 W x xs ∧ SvD lo hi W vd vv vt va L ∧ RW 2 lcs W v3 g3 M ∧ RW 2 lcs W v5 g5 M
theorem RdS.later {w w1 W W' : World} {x : Nat} {src xs : List Value} {lo hi : Nat} {vd vv vt va : Value} {L : Sr} {v3 v5 : Value} {g3 g5 : Nat} {M : List Le} (h : RdS w w1 W x src xs lo hi vd vv vt va L v3 v5 g3 g5 M) (hb : Below W.heap.size W W') : RdS w w1 W' x src xs lo hi vd vv vt va L v3 v5 g3 g5 M :=
  ⟨h.1.trans (hb.mono h.1.size), h.2.1.trans (hb.mono h.2.1.size), h.2.2.1.later hb, h.2.2.2.1.later hb, h.2.2.2.2.1.later hb, h.2.2.2.2.2.1.later hb, h.2.2.2.2.2.2.later hb⟩
/-- .. when its copy is marked -/
def RdM (w w1 W : World) (src : List Value) (v3 v5 : Value) (g3 g5 : Nat) (M N : List Le) : Prop :=
  Below w.heap.size w W ∧ Below w1.heap.size w1 W ∧ Box 31 W w.heap.size src ∧ RW 2 lcs W v3 g3 M ∧ RW 2 lcs W v5 g5 N
theorem RdM.later {w w1 W W' : World} {src : List Value} {v3 v5 : Value} {g3 g5 : Nat} {M N : List Le} (h : RdM w w1 W src v3 v5 g3 g5 M N) (hb : Below W.heap.size W W') : RdM w w1 W' src v3 v5 g3 g5 M N :=
  ⟨h.1.trans (hb.mono h.1.size), h.2.1.trans (hb.mono h.2.1.size), h.2.2.1.later hb, h.2.2.2.1.later hb, h.2.2.2.2.later hb⟩

set_option maxRecDepth 100000 in
set_option maxHeartbeats 4000000 in
theorem readyLaw_any (n : Sn) (vd vv vt va : Value) (L : Sr) (w : World) (hZ : IsSv w vd vv vt va L) :
    Calls Try.prog 3 #[.agg #[.int .i64 n.a, .int .i64 n.k, .bool n.u, vd, .int .i64 n.e, vv, vt, va, .int .i64 n.r0, .int .i64 n.r1, .int .i64 n.r2]] w fun e w' => e = .returned (.bool true) ∧ Below w.heap.size w w' := by
  have hsz := szServer_row n vd vv vt va L 1048576 (w.alloc (.cells #[.int .i64 n.a, .int .i64 n.k, .bool n.u, vd, .int .i64 n.e, vv, vt, va, .int .i64 n.r0, .int .i64 n.r1, .int .i64 n.r2] 31)) (hZ.later (below_alloc _ _)) (by omega) (by omega)
  have HTO : Hid (∀ w1, SvS w1 vd vv vt va L → ∀ W, Below w1.heap.size w1 W → Calls Try.prog 6 #[.agg #[.int .i64 n.a, .int .i64 n.k, .bool n.u, vd, .int .i64 n.e, vv, vt, va, .int .i64 n.r0, .int .i64 n.r1, .int .i64 n.r2]] W (ToSv n L W)) := fun w1 h W hW => toServer_any n vd vv vt va L W (h.later hW)
  have HCS : Hid (L.sm → ∀ W gd gv b3 e3 ga, SvS W (.slice (some ⟨gd, 0, none⟩) L.F.length L.F.length) (.slice (some ⟨gv, 0, none⟩) L.P.length L.P.length) (.slice b3 L.I.length e3) (.slice (some ⟨ga, 0, none⟩) L.U.length L.U.length) L → Calls Try.prog 5 #[.agg #[.int .i64 n.a, .int .i64 n.k, .bool n.u, .slice (some ⟨gd, 0, none⟩) L.F.length L.F.length, .int .i64 n.e, .slice (some ⟨gv, 0, none⟩) L.P.length L.P.length, .slice b3 L.I.length e3, .slice (some ⟨ga, 0, none⟩) L.U.length L.U.length, .int .i64 n.r0, .int .i64 n.r1, .int .i64 n.r2]] W (ApP (rlA n.r2 L.U) W)) := fun hs W gd gv b3 e3 ga h => by
    obtain ⟨_, _, _, g, o, hu⟩ := h
    exact sReadyLeaves_any n _ _ _ _ _ g o L.U W hu (Nat.le_refl _) hs.2.2.2.1
  have HCI : Hid (L.sm → ∀ W gd gv b3 e3 ga, SvS W (.slice (some ⟨gd, 0, none⟩) L.F.length L.F.length) (.slice (some ⟨gv, 0, none⟩) L.P.length L.P.length) (.slice b3 L.I.length e3) (.slice (some ⟨ga, 0, none⟩) L.U.length L.U.length) L → Calls Try.prog 7 #[.agg #[.int .i64 n.a, .int .i64 n.k, .bool n.u, .slice (some ⟨gd, 0, none⟩) L.F.length L.F.length, .int .i64 n.e, .slice (some ⟨gv, 0, none⟩) L.P.length L.P.length, .slice b3 L.I.length e3, .slice (some ⟨ga, 0, none⟩) L.U.length L.U.length, .int .i64 n.r0, .int .i64 n.r1, .int .i64 n.r2]] W (ApP (rlA n.r2 L.U) W)) := fun hs W gd gv b3 e3 ga h => by
    obtain ⟨_, _, _, g, o, hu⟩ := h
    exact ReadyLeaves_any n _ _ _ _ _ g o L.U W ⟨rfl, rfl, rfl⟩ hu (Nat.le_refl _) hs.2.2.2.1
  have HEQ : Hid (∀ W gd gv b3 e3 ga ud uv ut ua, SvS W (.slice (some ⟨gd, 0, none⟩) L.F.length L.F.length) (.slice (some ⟨gv, 0, none⟩) L.P.length L.P.length) (.slice b3 L.I.length e3) (.slice (some ⟨ga, 0, none⟩) L.U.length L.U.length) L → SvS W ud uv ut ua L → Calls Try.prog 9 #[.agg #[.int .i64 n.a, .int .i64 n.k, .bool n.u, .slice (some ⟨gd, 0, none⟩) L.F.length L.F.length, .int .i64 n.e, .slice (some ⟨gv, 0, none⟩) L.P.length L.P.length, .slice b3 L.I.length e3, .slice (some ⟨ga, 0, none⟩) L.U.length L.U.length, .int .i64 n.r0, .int .i64 n.r1, .int .i64 n.r2], .agg #[.int .i64 n.a, .int .i64 n.k, .bool n.u, ud, .int .i64 n.e, uv, ut, ua, .int .i64 n.r0, .int .i64 n.r1, .int .i64 n.r2]] W fun e w' => e = .returned (.bool true) ∧ Below W.heap.size W w') := fun W gd gv b3 e3 ga ud uv ut ua h k => eqServer_yes n _ _ _ _ ud uv ut ua L W h k
  have HMK : Hid (L.sm → ∀ lo hi W gd gv b3 e3 ga, SvD lo hi W (.slice (some ⟨gd, 0, none⟩) L.F.length L.F.length) (.slice (some ⟨gv, 0, none⟩) L.P.length L.P.length) (.slice b3 L.I.length e3) (.slice (some ⟨ga, 0, none⟩) L.U.length L.U.length) L → hi ≤ W.heap.size → Calls Try.prog 10 #[.agg #[.int .i64 n.a, .int .i64 n.k, .bool n.u, .slice (some ⟨gd, 0, none⟩) L.F.length L.F.length, .int .i64 n.e, .slice (some ⟨gv, 0, none⟩) L.P.length L.P.length, .slice b3 L.I.length e3, .slice (some ⟨ga, 0, none⟩) L.U.length L.U.length, .int .i64 n.r0, .int .i64 n.r1, .int .i64 n.r2], .int .i64 1] W fun e w' => ∃ K : Int, e = .returned (.int .i64 K) ∧ 0 ≤ K ∧ InG lo hi W w') := fun hs lo hi W gd gv b3 e3 ga h hh => markServer_arg n _ _ _ _ L lo hi W h hs hh
  obtain ⟨⟨_, _, ad, nd, cd, e1, _⟩, ⟨_, _, _, ⟨av, nv, cv, e2, _⟩, _⟩, ⟨_, _, at2, nt, ct, e3, _⟩, ⟨_, _, aa, na, ca, e4, _⟩⟩ := hZ
  subst e1
  subst e2
  subst e3
  subst e4
  unfold ToSv at HTO
  unfold ApP at HCS HCI
  generalize hM : rlA n.r2 L.U = M at *
  have hMl : L.sm → M.length ≤ 1048576 := fun hs => by rw [← hM]; exact UV.apA_len (L := []) (A := L.U) (by simp) _
  clear hM
  obtain ⟨a, k, u, e, r0, r1, r2⟩ := n
  simp only at hsz HTO HCS HCI HEQ HMK ⊢
  generalize L.F.length = md at *
  generalize L.P.length = mv at *
  generalize L.I.length = mt at *
  generalize L.U.length = ma at *
  obtain ⟨km, hkm⟩ : ∃ km, M.length = km := ⟨_, rfl⟩
  have HK : Hid (M.length = km) := hkm
  rw [hkm] at HCS HCI hMl
  clear hkm
  have HX : Hid (Below w.heap.size w (w.alloc (.cells #[.int .i64 a, .int .i64 k, .bool u, .slice ad nd cd, .int .i64 e, .slice av nv cv, .slice at2 nt ct, .slice aa na ca, .int .i64 r0, .int .i64 r1, .int .i64 r2] 31)) ∧ Box 31 (w.alloc (.cells #[.int .i64 a, .int .i64 k, .bool u, .slice ad nd cd, .int .i64 e, .slice av nv cv, .slice at2 nt ct, .slice aa na ca, .int .i64 r0, .int .i64 r1, .int .i64 r2] 31)) w.heap.size [.int .i64 a, .int .i64 k, .bool u, .slice ad nd cd, .int .i64 e, .slice av nv cv, .slice at2 nt ct, .slice aa na ca, .int .i64 r0, .int .i64 r1, .int .i64 r2]) := ⟨below_alloc _ _, Box.new _ _ _⟩
  go_enter Try.func3, Try.ntmps3
  go_wp2_with fail
  refine hsz.mono ?_
  rintro e_ w1 ⟨B, rfl, hb1, _, hB⟩
  have HX1 : Hid (Below w.heap.size w w1 ∧ Box 31 w1 w.heap.size [.int .i64 a, .int .i64 k, .bool u, .slice ad nd cd, .int .i64 e, .slice av nv cv, .slice at2 nt ct, .slice aa na ca, .int .i64 r0, .int .i64 r1, .int .i64 r2]) := ⟨HX.out.1.trans (hb1.mono HX.out.1.size), HX.out.2.later hb1⟩
  clear hsz HX hb1
  by_cases hneg : B < 0
  · clear hB HCS HCI HEQ HMK HTO hMl
    go_wp2
    go_ret
    exact ⟨rfl, HX1.out.1⟩
  obtain ⟨hS, hsm⟩ := hB (by omega)
  have hkl := hMl hsm
  have HT : Hid (∀ W, Below w1.heap.size w1 W → Calls Try.prog 6 #[.agg #[.int .i64 a, .int .i64 k, .bool u, .slice ad nd cd, .int .i64 e, .slice av nv cv, .slice at2 nt ct, .slice aa na ca, .int .i64 r0, .int .i64 r1, .int .i64 r2]] W fun e_ w' => ∃ gd gv b3 e3 ga, e_ = .returned (.agg #[.int .i64 a, .int .i64 k, .bool u, .slice (some ⟨gd, 0, none⟩) md md, .int .i64 e, .slice (some ⟨gv, 0, none⟩) mv mv, .slice b3 mt e3, .slice (some ⟨ga, 0, none⟩) ma ma, .int .i64 r0, .int .i64 r1, .int .i64 r2]) ∧ SvD W.heap.size w'.heap.size w' (.slice (some ⟨gd, 0, none⟩) md md) (.slice (some ⟨gv, 0, none⟩) mv mv) (.slice b3 mt e3) (.slice (some ⟨ga, 0, none⟩) ma ma) L ∧ Below W.heap.size W w') := HTO.out w1 hS
  have HS' := hide (HCS.out hsm)
  have HI' := hide (HCI.out hsm)
  have HM' := hide (HMK.out hsm)
  clear hB hS hsm hMl HTO HCS HCI HMK
  obtain ⟨z0, z1, z2, z3, z4, z5, z6, z7, z8, z9, z10⟩ := HX1.out.2.all11
  go_wp2_with fail
  refine (HT.out _ (Below.refl _ _)).mono ?_
  rintro e_ w2 ⟨gd2, gv2, b32, e32, ga2, rfl, hm2, hb2⟩
  go_wp2_with fail
  refine (HS'.out _ _ _ _ _ _ hm2.svs).mono ?_
  rintro e_ w3 ⟨a3, c3, g3, rfl, hr3, hg3, hb3⟩
  have HX3 : Hid (Below w.heap.size w w3 ∧ Box 31 w3 w.heap.size [.int .i64 a, .int .i64 k, .bool u, .slice ad nd cd, .int .i64 e, .slice av nv cv, .slice at2 nt ct, .slice aa na ca, .int .i64 r0, .int .i64 r1, .int .i64 r2] ∧ Below w1.heap.size w1 w3 ∧ RW 2 lcs w3 (.slice a3 km c3) g3 M ∧ (0 < km → g3 < w3.heap.size)) := by
    have hb13 := hb2.trans (hb3.mono hb2.size)
    exact ⟨HX1.out.1.trans (hb13.mono HX1.out.1.size), HX1.out.2.later hb13, hb13, hr3, fun h => hr3.lt (by rw [HK.out]; exact h)⟩
  clear hm2 hb2 hr3 hg3 hb3 HS' HX1 z0 z1 z2 z3 z4 z5 z6 z7 z8 z9 z10
  obtain ⟨z0, z1, z2, z3, z4, z5, z6, z7, z8, z9, z10⟩ := HX3.out.2.1.all11
  go_wp2_with fail
  refine (HT.out _ HX3.out.2.2.1).mono ?_
  rintro e_ w4 ⟨gd4, gv4, b34, e34, ga4, rfl, hm4, hb4⟩
  have HX4 : Hid (Below w.heap.size w (w4.alloc (.cells #[.int .i64 a, .int .i64 k, .bool u, .slice (some ⟨gd4, 0, none⟩) md md, .int .i64 e, .slice (some ⟨gv4, 0, none⟩) mv mv, .slice b34 mt e34, .slice (some ⟨ga4, 0, none⟩) ma ma, .int .i64 r0, .int .i64 r1, .int .i64 r2] 42)) ∧ Below w1.heap.size w1 (w4.alloc (.cells #[.int .i64 a, .int .i64 k, .bool u, .slice (some ⟨gd4, 0, none⟩) md md, .int .i64 e, .slice (some ⟨gv4, 0, none⟩) mv mv, .slice b34 mt e34, .slice (some ⟨ga4, 0, none⟩) ma ma, .int .i64 r0, .int .i64 r1, .int .i64 r2] 42)) ∧ Box 31 (w4.alloc (.cells #[.int .i64 a, .int .i64 k, .bool u, .slice (some ⟨gd4, 0, none⟩) md md, .int .i64 e, .slice (some ⟨gv4, 0, none⟩) mv mv, .slice b34 mt e34, .slice (some ⟨ga4, 0, none⟩) ma ma, .int .i64 r0, .int .i64 r1, .int .i64 r2] 42)) w.heap.size [.int .i64 a, .int .i64 k, .bool u, .slice ad nd cd, .int .i64 e, .slice av nv cv, .slice at2 nt ct, .slice aa na ca, .int .i64 r0, .int .i64 r1, .int .i64 r2] ∧ Box 42 (w4.alloc (.cells #[.int .i64 a, .int .i64 k, .bool u, .slice (some ⟨gd4, 0, none⟩) md md, .int .i64 e, .slice (some ⟨gv4, 0, none⟩) mv mv, .slice b34 mt e34, .slice (some ⟨ga4, 0, none⟩) ma ma, .int .i64 r0, .int .i64 r1, .int .i64 r2] 42)) w4.heap.size [.int .i64 a, .int .i64 k, .bool u, .slice (some ⟨gd4, 0, none⟩) md md, .int .i64 e, .slice (some ⟨gv4, 0, none⟩) mv mv, .slice b34 mt e34, .slice (some ⟨ga4, 0, none⟩) ma ma, .int .i64 r0, .int .i64 r1, .int .i64 r2] ∧ SvD w3.heap.size w4.heap.size (w4.alloc (.cells #[.int .i64 a, .int .i64 k, .bool u, .slice (some ⟨gd4, 0, none⟩) md md, .int .i64 e, .slice (some ⟨gv4, 0, none⟩) mv mv, .slice b34 mt e34, .slice (some ⟨ga4, 0, none⟩) ma ma, .int .i64 r0, .int .i64 r1, .int .i64 r2] 42)) (.slice (some ⟨gd4, 0, none⟩) md md) (.slice (some ⟨gv4, 0, none⟩) mv mv) (.slice b34 mt e34) (.slice (some ⟨ga4, 0, none⟩) ma ma) L ∧ RW 2 lcs (w4.alloc (.cells #[.int .i64 a, .int .i64 k, .bool u, .slice (some ⟨gd4, 0, none⟩) md md, .int .i64 e, .slice (some ⟨gv4, 0, none⟩) mv mv, .slice b34 mt e34, .slice (some ⟨ga4, 0, none⟩) ma ma, .int .i64 r0, .int .i64 r1, .int .i64 r2] 42)) (.slice a3 km c3) g3 M ∧ (0 < km → g3 < w3.heap.size) ∧ w.heap.size < w3.heap.size ∧ w1.heap.size ≤ w3.heap.size) := by
    obtain ⟨k1, k2, k3, k4, k5⟩ := HX3.out
    have j1 := k1.trans (hb4.mono k1.size)
    have j3 := k3.trans (hb4.mono k3.size)
    exact ⟨j1.alloc j1.size _, j3.alloc j3.size _, (k2.later hb4).later (below_alloc _ _), Box.new _ _ _, hm4.later (below_alloc _ _), (k4.later hb4).later (below_alloc _ _), k5, k2.lt, k3.size⟩
  have HZ4 : Hid (w3.heap.size ≤ w4.heap.size) := hb4.size
  clear hm4 hb4 HX3 z0 z1 z2 z3 z4 z5 z6 z7 z8 z9 z10
  obtain ⟨y0, y1, y2, y3, y4, y5, y6, y7, y8, y9, y10⟩ := HX4.out.2.2.2.1.all11
  go_wp2_with fail
  refine (HI'.out _ _ _ _ _ _ HX4.out.2.2.2.2.1.svs).mono ?_
  rintro e_ w5 ⟨a5, c5, g5, rfl, hr5, hg5, hb5⟩
  have HX5 : Hid (RdS w w1 w5 w4.heap.size [.int .i64 a, .int .i64 k, .bool u, .slice ad nd cd, .int .i64 e, .slice av nv cv, .slice at2 nt ct, .slice aa na ca, .int .i64 r0, .int .i64 r1, .int .i64 r2] [.int .i64 a, .int .i64 k, .bool u, .slice (some ⟨gd4, 0, none⟩) md md, .int .i64 e, .slice (some ⟨gv4, 0, none⟩) mv mv, .slice b34 mt e34, .slice (some ⟨ga4, 0, none⟩) ma ma, .int .i64 r0, .int .i64 r1, .int .i64 r2] w3.heap.size w4.heap.size (.slice (some ⟨gd4, 0, none⟩) md md) (.slice (some ⟨gv4, 0, none⟩) mv mv) (.slice b34 mt e34) (.slice (some ⟨ga4, 0, none⟩) ma ma) L (.slice a3 km c3) (.slice a5 km c5) g3 g5 M ∧ (0 < km → g3 < w3.heap.size) ∧ w.heap.size < w3.heap.size ∧ w1.heap.size ≤ w3.heap.size ∧ w4.heap.size < g5 ∧ w4.heap.size < w5.heap.size ∧ w3.heap.size ≤ w4.heap.size) := by
    obtain ⟨k1, k2, k3, k4, k5, k6, k7, k8, k9⟩ := HX4.out
    have h1 : (w4.alloc (.cells #[.int .i64 a, .int .i64 k, .bool u, .slice (some ⟨gd4, 0, none⟩) md md, .int .i64 e, .slice (some ⟨gv4, 0, none⟩) mv mv, .slice b34 mt e34, .slice (some ⟨ga4, 0, none⟩) ma ma, .int .i64 r0, .int .i64 r1, .int .i64 r2] 42)).heap.size = w4.heap.size + 1 := by simp
    have h2 := hb5.size
    have h3 : w3.heap.size ≤ w4.heap.size := HZ4.out
    exact ⟨⟨k1.trans (hb5.mono k1.size), k2.trans (hb5.mono k2.size), k3.later hb5, k4.later hb5, k5.later hb5, k6.later hb5, hr5⟩, k7, k8, k9, by omega, by omega, h3⟩
  clear hr5 hg5 hb5 HX4 y0 y1 y2 y3 y4 y5 y6 y7 y8 y9 y10
  go_wp2_with fail
  refine (eqLeafS_yes _ _ g5 0 g3 0 M _ (by have := HX5.out.1.2.2.2.2.2.2.1; exact this) (by have := HX5.out.1.2.2.2.2.2.1.1; exact this)).mono ?_
  rintro e_ w6 ⟨rfl, hb6⟩
  have HX6 : Hid (RdS w w1 w6 w4.heap.size [.int .i64 a, .int .i64 k, .bool u, .slice ad nd cd, .int .i64 e, .slice av nv cv, .slice at2 nt ct, .slice aa na ca, .int .i64 r0, .int .i64 r1, .int .i64 r2] [.int .i64 a, .int .i64 k, .bool u, .slice (some ⟨gd4, 0, none⟩) md md, .int .i64 e, .slice (some ⟨gv4, 0, none⟩) mv mv, .slice b34 mt e34, .slice (some ⟨ga4, 0, none⟩) ma ma, .int .i64 r0, .int .i64 r1, .int .i64 r2] w3.heap.size w4.heap.size (.slice (some ⟨gd4, 0, none⟩) md md) (.slice (some ⟨gv4, 0, none⟩) mv mv) (.slice b34 mt e34) (.slice (some ⟨ga4, 0, none⟩) ma ma) L (.slice a3 km c3) (.slice a5 km c5) g3 g5 M ∧ (0 < km → g3 < w3.heap.size) ∧ w.heap.size < w3.heap.size ∧ w1.heap.size ≤ w3.heap.size ∧ w4.heap.size < g5 ∧ w4.heap.size < w6.heap.size ∧ w3.heap.size ≤ w4.heap.size) := by
    obtain ⟨k1, k2, k3, k4, k5, k6, k7⟩ := HX5.out
    exact ⟨k1.later hb6, k2, k3, k4, k5, by have := hb6.size; omega, k7⟩
  clear hb6 HX5
  have HC : Hid (∀ W, Below w6.heap.size w6 W → (W.cell? ⟨w4.heap.size, 0, none⟩ = some (.int .i64 a) ∧ W.cell? ⟨w4.heap.size, 1, none⟩ = some (.int .i64 k) ∧ W.cell? ⟨w4.heap.size, 2, none⟩ = some (.bool u) ∧ W.cell? ⟨w4.heap.size, 3, none⟩ = some (.slice (some ⟨gd4, 0, none⟩) md md) ∧ W.cell? ⟨w4.heap.size, 4, none⟩ = some (.int .i64 e) ∧ W.cell? ⟨w4.heap.size, 5, none⟩ = some (.slice (some ⟨gv4, 0, none⟩) mv mv) ∧ W.cell? ⟨w4.heap.size, 6, none⟩ = some (.slice b34 mt e34) ∧ W.cell? ⟨w4.heap.size, 7, none⟩ = some (.slice (some ⟨ga4, 0, none⟩) ma ma) ∧ W.cell? ⟨w4.heap.size, 8, none⟩ = some (.int .i64 r0) ∧ W.cell? ⟨w4.heap.size, 9, none⟩ = some (.int .i64 r1) ∧ W.cell? ⟨w4.heap.size, 10, none⟩ = some (.int .i64 r2)) ∧ W.cell? ⟨w.heap.size, 0, none⟩ = some (.int .i64 a) ∧ W.cell? ⟨w.heap.size, 1, none⟩ = some (.int .i64 k) ∧ W.cell? ⟨w.heap.size, 2, none⟩ = some (.bool u) ∧ W.cell? ⟨w.heap.size, 3, none⟩ = some (.slice ad nd cd) ∧ W.cell? ⟨w.heap.size, 4, none⟩ = some (.int .i64 e) ∧ W.cell? ⟨w.heap.size, 5, none⟩ = some (.slice av nv cv) ∧ W.cell? ⟨w.heap.size, 6, none⟩ = some (.slice at2 nt ct) ∧ W.cell? ⟨w.heap.size, 7, none⟩ = some (.slice aa na ca) ∧ W.cell? ⟨w.heap.size, 8, none⟩ = some (.int .i64 r0) ∧ W.cell? ⟨w.heap.size, 9, none⟩ = some (.int .i64 r1) ∧ W.cell? ⟨w.heap.size, 10, none⟩ = some (.int .i64 r2)) := fun W hW => ⟨(HX6.out.1.2.2.2.1.later hW).all11, (HX6.out.1.2.2.1.later hW).all11⟩
  have HT6 : Hid (∀ W, Below w6.heap.size w6 W → Calls Try.prog 6 #[.agg #[.int .i64 a, .int .i64 k, .bool u, .slice ad nd cd, .int .i64 e, .slice av nv cv, .slice at2 nt ct, .slice aa na ca, .int .i64 r0, .int .i64 r1, .int .i64 r2]] W fun e_ w' => ∃ gd gv b3 e3 ga, e_ = .returned (.agg #[.int .i64 a, .int .i64 k, .bool u, .slice (some ⟨gd, 0, none⟩) md md, .int .i64 e, .slice (some ⟨gv, 0, none⟩) mv mv, .slice b3 mt e3, .slice (some ⟨ga, 0, none⟩) ma ma, .int .i64 r0, .int .i64 r1, .int .i64 r2]) ∧ SvD W.heap.size w'.heap.size w' (.slice (some ⟨gd, 0, none⟩) md md) (.slice (some ⟨gv, 0, none⟩) mv mv) (.slice b3 mt e3) (.slice (some ⟨ga, 0, none⟩) ma ma) L ∧ Below W.heap.size W w') := fun W hW => HT.out W (HX6.out.1.2.1.trans (hW.mono HX6.out.1.2.1.size))
  have HE6 : Hid (∀ W ud uv ut ua, Below w6.heap.size w6 W → SvS W ud uv ut ua L → Calls Try.prog 9 #[.agg #[.int .i64 a, .int .i64 k, .bool u, .slice (some ⟨gd4, 0, none⟩) md md, .int .i64 e, .slice (some ⟨gv4, 0, none⟩) mv mv, .slice b34 mt e34, .slice (some ⟨ga4, 0, none⟩) ma ma, .int .i64 r0, .int .i64 r1, .int .i64 r2], .agg #[.int .i64 a, .int .i64 k, .bool u, ud, .int .i64 e, uv, ut, ua, .int .i64 r0, .int .i64 r1, .int .i64 r2]] W fun e w' => e = .returned (.bool true) ∧ Below W.heap.size W w') := fun W ud uv ut ua hW hu => HEQ.out W _ _ _ _ _ ud uv ut ua (HX6.out.1.2.2.2.2.1.later hW).svs hu
  have hb0 : Below w6.heap.size w6 w6.drew := (Below.refl _ _).drew
  clear HEQ
  go_wp2
  go_region_held3 (fun W => (W.cell? ⟨w4.heap.size, 0, none⟩ = some (.int .i64 a) ∧ W.cell? ⟨w4.heap.size, 1, none⟩ = some (.int .i64 k) ∧ W.cell? ⟨w4.heap.size, 2, none⟩ = some (.bool u) ∧ W.cell? ⟨w4.heap.size, 3, none⟩ = some (.slice (some ⟨gd4, 0, none⟩) md md) ∧ W.cell? ⟨w4.heap.size, 4, none⟩ = some (.int .i64 e) ∧ W.cell? ⟨w4.heap.size, 5, none⟩ = some (.slice (some ⟨gv4, 0, none⟩) mv mv) ∧ W.cell? ⟨w4.heap.size, 6, none⟩ = some (.slice b34 mt e34) ∧ W.cell? ⟨w4.heap.size, 7, none⟩ = some (.slice (some ⟨ga4, 0, none⟩) ma ma) ∧ W.cell? ⟨w4.heap.size, 8, none⟩ = some (.int .i64 r0) ∧ W.cell? ⟨w4.heap.size, 9, none⟩ = some (.int .i64 r1) ∧ W.cell? ⟨w4.heap.size, 10, none⟩ = some (.int .i64 r2)) ∧ W.cell? ⟨w.heap.size, 0, none⟩ = some (.int .i64 a) ∧ W.cell? ⟨w.heap.size, 1, none⟩ = some (.int .i64 k) ∧ W.cell? ⟨w.heap.size, 2, none⟩ = some (.bool u) ∧ W.cell? ⟨w.heap.size, 3, none⟩ = some (.slice ad nd cd) ∧ W.cell? ⟨w.heap.size, 4, none⟩ = some (.int .i64 e) ∧ W.cell? ⟨w.heap.size, 5, none⟩ = some (.slice av nv cv) ∧ W.cell? ⟨w.heap.size, 6, none⟩ = some (.slice at2 nt ct) ∧ W.cell? ⟨w.heap.size, 7, none⟩ = some (.slice aa na ca) ∧ W.cell? ⟨w.heap.size, 8, none⟩ = some (.int .i64 r0) ∧ W.cell? ⟨w.heap.size, 9, none⟩ = some (.int .i64 r1) ∧ W.cell? ⟨w.heap.size, 10, none⟩ = some (.int .i64 r2)) (first | (go_keep; done) | exact HC.out _ hb0) (first | (go_at_call 6; refine (HT6.out _ hb0).mono ?_; rintro e_ w7 ⟨gd7, gv7, b37, e37, ga7, rfl, hm7, hb7⟩; have hb0 := hb0.trans (hb7.mono hb0.size)) | (go_at_call 9; refine (HE6.out _ _ _ _ _ hb0 hm7.svs).mono ?_; rintro e_ w8 ⟨rfl, hb8⟩; have hb0 := hb0.trans (hb8.mono hb0.size)) | fail)
  try rename_i hHeld
  try clear hHeld
  have HX8 : Hid (RdS w w1 w8 w4.heap.size [.int .i64 a, .int .i64 k, .bool u, .slice ad nd cd, .int .i64 e, .slice av nv cv, .slice at2 nt ct, .slice aa na ca, .int .i64 r0, .int .i64 r1, .int .i64 r2] [.int .i64 a, .int .i64 k, .bool u, .slice (some ⟨gd4, 0, none⟩) md md, .int .i64 e, .slice (some ⟨gv4, 0, none⟩) mv mv, .slice b34 mt e34, .slice (some ⟨ga4, 0, none⟩) ma ma, .int .i64 r0, .int .i64 r1, .int .i64 r2] w3.heap.size w4.heap.size (.slice (some ⟨gd4, 0, none⟩) md md) (.slice (some ⟨gv4, 0, none⟩) mv mv) (.slice b34 mt e34) (.slice (some ⟨ga4, 0, none⟩) ma ma) L (.slice a3 km c3) (.slice a5 km c5) g3 g5 M ∧ (0 < km → g3 < w3.heap.size) ∧ w.heap.size < w3.heap.size ∧ w1.heap.size ≤ w3.heap.size ∧ w4.heap.size < g5 ∧ w4.heap.size < w8.heap.size ∧ w3.heap.size ≤ w4.heap.size) := by
    obtain ⟨k1, k2, k3, k4, k5, k6, k7⟩ := HX6.out
    exact ⟨k1.later hb0, k2, k3, k4, k5, by have := hb0.size; omega, k7⟩
  clear hm7 hb7 hb8 hb0 HX6 HC HT6 HE6
  obtain ⟨y0, y1, y2, y3, y4, y5, y6, y7, y8, y9, y10⟩ := HX8.out.1.2.2.2.1.all11
  go_wp2_with fail
  refine (HM'.out _ _ _ _ _ _ _ _ HX8.out.1.2.2.2.2.1 (by have := HX8.out.2.2.2.2.2.1; omega)).mono ?_
  rintro e_ w9 ⟨KK, rfl, hK0, hi9⟩
  have hK1 : ¬ KK < 0 := by omega
  have HX9 : Hid (RdM w w1 w9 [.int .i64 a, .int .i64 k, .bool u, .slice ad nd cd, .int .i64 e, .slice av nv cv, .slice at2 nt ct, .slice aa na ca, .int .i64 r0, .int .i64 r1, .int .i64 r2] (.slice a3 km c3) (.slice a5 km c5) g3 g5 M M ∧ (0 < km → g3 < w3.heap.size) ∧ w.heap.size < w3.heap.size ∧ w1.heap.size ≤ w3.heap.size ∧ w4.heap.size < g5 ∧ w3.heap.size ≤ w4.heap.size) := by
    obtain ⟨⟨k1, k2, k3, k4, k5, k6, k7⟩, j2, j3, j4, j5, j6, j7⟩ := HX8.out
    exact ⟨⟨hi9.below k1 k1.size (by omega), hi9.below k2 k2.size (by omega), k3.inG hi9 (.inl (by omega)), k6.inG hi9 (fun h => .inl (j2 (by rw [← HK.out]; exact h))), k7.inG hi9 (fun _ => .inr (by omega))⟩, j2, j3, j4, j5, j7⟩
  clear hi9 HX8 HM' y0 y1 y2 y3 y4 y5 y6 y7 y8 y9 y10
  go_wp2_with fail
  refine (eqLeafS_yes _ _ g5 0 g3 0 M _ (by have := HX9.out.1.2.2.2.2.1; exact this) (by have := HX9.out.1.2.2.2.1.1; exact this)).mono ?_
  rintro e_ w10 ⟨rfl, hb10⟩
  have HX10 : Hid (RdM w w1 w10 [.int .i64 a, .int .i64 k, .bool u, .slice ad nd cd, .int .i64 e, .slice av nv cv, .slice at2 nt ct, .slice aa na ca, .int .i64 r0, .int .i64 r1, .int .i64 r2] (.slice a3 km c3) (.slice a5 km c5) g3 g5 M M ∧ (0 < km → g3 < w3.heap.size) ∧ w.heap.size < w3.heap.size ∧ w1.heap.size ≤ w3.heap.size ∧ w4.heap.size < g5 ∧ w3.heap.size ≤ w4.heap.size) := ⟨HX9.out.1.later hb10, HX9.out.2⟩
  clear hb10 HX9
  have hm10 := markL_one _ g5 M w10 HX10.out.1.2.2.2.2
  rw [HK.out] at hm10
  obtain ⟨A9, hA9⟩ : ∃ A9 : Int, ((1 + 2 * km : Nat) : Int) = A9 := ⟨_, rfl⟩
  have hA90 : ¬ A9 < 0 := by omega
  rw [hA9] at hm10
  have HHD : Hid (∀ W, RW 2 lcs W (.slice a5 km c5) g5 (lmarks 1 km) → Calls Try.prog 12 #[.slice a5 km c5, .int .i64 1] W fun e w' => e = .returned (.int .i64 A9) ∧ Below W.heap.size W w') := fun W h => by rw [← hA9]; exact heldL_one _ g5 km W h
  clear hA9
  go_wp2_with fail
  refine hm10.mono ?_
  rintro e_ w11 ⟨rfl, hr11, hg11⟩
  have HX11 : Hid (RdM w w1 w11 [.int .i64 a, .int .i64 k, .bool u, .slice ad nd cd, .int .i64 e, .slice av nv cv, .slice at2 nt ct, .slice aa na ca, .int .i64 r0, .int .i64 r1, .int .i64 r2] (.slice a3 km c3) (.slice a5 km c5) g3 g5 M (lmarks 1 km)) := by
    obtain ⟨⟨k1, k2, k3, k4, k5⟩, j2, j3, j4, j5, j7⟩ := HX10.out
    exact ⟨k1.grown hg11 k1.size (rowF_le (by omega)), k2.grown hg11 k2.size (rowF_le (by omega)), k3.grown hg11 (rowF_ne fun _ => by omega), k4.grown hg11 (fun h => rowF_ne fun _ => by have := j2 (by rw [← HK.out]; exact h); omega), hr11⟩
  clear hm10 hr11 hg11 HX10
  go_wp2_with fail
  refine (HHD.out _ HX11.out.2.2.2.2).mono ?_
  rintro e_ w12 ⟨rfl, hb12⟩
  have HX12 : Hid (RdM w w1 w12 [.int .i64 a, .int .i64 k, .bool u, .slice ad nd cd, .int .i64 e, .slice av nv cv, .slice at2 nt ct, .slice aa na ca, .int .i64 r0, .int .i64 r1, .int .i64 r2] (.slice a3 km c3) (.slice a5 km c5) g3 g5 M (lmarks 1 km)) := HX11.out.later hb12
  clear hb12 HX11
  obtain ⟨z0, z1, z2, z3, z4, z5, z6, z7, z8, z9, z10⟩ := HX12.out.2.2.1.all11
  go_wp2_with fail
  refine (HT.out _ HX12.out.2.1).mono ?_
  rintro e_ w13 ⟨gd13, gv13, b313, e313, ga13, rfl, hm13, hb13⟩
  have HX13 : Hid (RdM w w1 w13 [.int .i64 a, .int .i64 k, .bool u, .slice ad nd cd, .int .i64 e, .slice av nv cv, .slice at2 nt ct, .slice aa na ca, .int .i64 r0, .int .i64 r1, .int .i64 r2] (.slice a3 km c3) (.slice a5 km c5) g3 g5 M (lmarks 1 km)) := HX12.out.later hb13
  clear hb13 HX12 z0 z1 z2 z3 z4 z5 z6 z7 z8 z9 z10
  go_wp2_with fail
  refine (HI'.out _ _ _ _ _ _ hm13.svs).mono ?_
  rintro e_ w14 ⟨a14, c14, g14, rfl, hr14, hg14, hb14⟩
  have HX14 : Hid (RdM w w1 w14 [.int .i64 a, .int .i64 k, .bool u, .slice ad nd cd, .int .i64 e, .slice av nv cv, .slice at2 nt ct, .slice aa na ca, .int .i64 r0, .int .i64 r1, .int .i64 r2] (.slice a3 km c3) (.slice a5 km c5) g3 g5 M (lmarks 1 km) ∧ RW 2 lcs w14 (.slice a14 km c14) g14 M) := ⟨HX13.out.later hb14, hr14⟩
  clear hm13 hb14 hr14 hg14 HX13 HI' HT
  go_wp2_with fail
  refine (eqLeafS_yes _ _ g14 0 g3 0 M _ (by have := HX14.out.2.1; exact this) (by have := HX14.out.1.2.2.2.1.1; exact this)).mono ?_
  rintro e_ w15 ⟨rfl, hb15⟩
  have HX15 : Hid (Below w.heap.size w w15 ∧ RW 2 lcs w15 (.slice a5 km c5) g5 (lmarks 1 km)) := ⟨(HX14.out.1.later hb15).1, (HX14.out.1.later hb15).2.2.2.2⟩
  clear hb15 HX14
  go_wp2_with fail
  refine (HHD.out _ HX15.out.2).mono ?_
  rintro e_ w16 ⟨rfl, hb16⟩
  have b16 := HX15.out.1.trans (hb16.mono HX15.out.1.size)
  clear hb16 HX15 HHD
  go_wp2
  go_ret
  exact ⟨rfl, b16⟩

end Go.Proofs.Ythmfbnnfdhoieaa
/-
  A disk, and a row of files, that a law is handed.
-/
namespace Go.Proofs.Ythmfbnnfdhoieaa
open Go.ChangeShapes Go.WideShapes Go.ChangeAt Go.RowKit
set_option linter.unusedVariables false
set_option linter.unusedSimpArgs false

theorem addr_flat {w : World} {x : Addr} {u : Value} (h : w.cell? x = some u) (j : Nat) : x.add j = ⟨x.block, x.off + j, none⟩ := by
  have hs := World.cell?_spot h
  cases x
  simp at hs
  subst hs
  unfold Addr.add
  split <;> simp_all
theorem addr_zero (x : Addr) : x.add 0 = x := by unfold Addr.add; simp
theorem addr_add (x : Addr) (i j : Nat) : (x.add i).add j = x.add (i + j) := by
  unfold Addr.add
  split <;> split <;> simp_all <;> omega

theorem cellsLFile : Try.prog.cellsOf 91 = 3 := by kernel_rfl
theorem cellsLDisk : Try.prog.cellsOf 24 = 1 := by kernel_rfl
theorem cells9' : Try.prog.cellsOf 9 = 1 := by kernel_rfl
theorem cells3' : Try.prog.cellsOf 3 = 1 := by kernel_rfl

set_option maxRecDepth 100000 in
theorem file_of_trod {H : Type} {enc : TypeId × Value → H} {W : World} {fuel : Nat} {cs : List Value} {y : DataW H × List MemPlace} (h : DataW.trod enc Try.prog W 0 (fun _ => true) true fuel 91 cs = some y) :
    ∃ f : Fl, cs = fcs f ∧ f.n.size ≤ maxLen ∧ f.t.size ≤ maxLen := by
  obtain ⟨y0, y1, y2, n, _, hl, h0, h1, h2⟩ := Deep.trod_struct3 Try.underlying91 h
  rw [cellsLFile] at hl
  match cs, hl with
  | [c0, c1, c2], _ =>
    simp [cells9', cells3'] at h0 h1 h2
    obtain ⟨s0, e0, _, b0⟩ := DataW.trod_string Try.underlying9 h0
    obtain ⟨s1, e1, _, b1⟩ := DataW.trod_string Try.underlying9 h1
    obtain ⟨i2, e2, _, _⟩ := DataW.trod_int Try.underlying3 h2
    simp at e0 e1 e2
    exact ⟨⟨s0, s1, i2⟩, by rw [e0, e1, e2]; rfl, b0, b1⟩

/-- n records, each read -/
theorem list_of {α : Type} {p : Nat → α → Prop} : ∀ n : Nat, (∀ i, i < n → ∃ f, p i f) → ∃ l : List α, l.length = n ∧ ∀ i (h : i < l.length), p i l[i]
  | 0, _ => ⟨[], rfl, fun i h => absurd h (by simp)⟩
  | n + 1, h => by
    obtain ⟨l, hl, hp⟩ := list_of n (fun i hi => h i (by omega))
    obtain ⟨f, hf⟩ := h n (by omega)
    refine ⟨l ++ [f], by simp [hl], fun i hi => ?_⟩
    rcases Nat.lt_or_ge i l.length with h1 | h1
    · rw [List.getElem_append_left h1]; exact hp i h1
    · have : i = n := by simp at hi; omega
      subst this
      rw [List.getElem_append_right h1]
      simpa using hf

theorem row_of_files {H : Type} {enc : TypeId × Value → H} {W : World} {fuel : Nat} {v : Value} {y : DataW H × List MemPlace} (h : DataW.trod enc Try.prog W 0 (fun _ => true) true fuel 22 [v] = some y) :
    ∃ g o l, IsRowF W v g o l := by
  rcases Deep.open_slice Try.underlying22 h with ⟨hcs, _⟩ | ⟨a, len, cap, m, n, D, Pl, hcs, _, hlc, hcm, hm, _, hx⟩
  · simp at hcs
    subst hcs
    exact ⟨0, 0, [], none, 0, 0, rfl, by omega, fun _ => ⟨rfl, RS.nil W 0 0, fun f hf => absurd hf (by simp)⟩⟩
  · simp at hcs
    subst hcs
    obtain rfl : m = cap := by simpa using hm
    have hx' : ∀ i, i < len → ∃ f : Fl, (∀ j u, (fcs f)[j]? = some u → W.cell? (a.add (i * 3 + j)) = some u) ∧ f.n.size ≤ maxLen ∧ f.t.size ≤ maxLen := fun i hi => by
      obtain ⟨cs', h1, h2⟩ := hx i (by omega)
      obtain ⟨f, rfl, b0, b1⟩ := file_of_trod h2
      rw [cellsLFile] at h1
      obtain ⟨_, _, hc⟩ := World.cells?_some h1
      refine ⟨f, fun j u hu => ?_, b0, b1⟩
      have hj : j < 3 := by have := (List.getElem?_eq_some_iff.1 hu).1; simpa [fcs] using this
      have := hc j hj
      rw [addr_add] at this
      rw [this, hu]
    obtain ⟨l, hl, hp⟩ := list_of len hx'
    refine ⟨a.block, a.off, l, some a, len, m, rfl, by unfold maxLen at hcm; omega, fun hsm => ⟨hl, ⟨some a, m, by rw [hl], by omega, fun h0 => ?_, fun j hj i u hu => ?_⟩, fun f hf => ?_⟩⟩
    · have c0 := (hp 0 h0).1 0 _ rfl
      simp only [Nat.zero_mul, Nat.zero_add] at c0
      rw [addr_zero] at c0
      have e := addr_flat c0 0
      rw [addr_zero] at e
      refine ⟨congrArg some e, ?_⟩
      rw [e] at c0
      exact lt_of_cell c0
    · have c0 := (hp 0 (by omega)).1 0 _ rfl
      simp only [Nat.zero_mul, Nat.zero_add] at c0
      rw [addr_zero] at c0
      have c := (hp j hj).1 i u hu
      rw [addr_flat c0] at c
      rw [Nat.add_assoc]
      exact c
    · obtain ⟨j, hj, rfl⟩ := List.getElem_of_mem hf
      have := (hp j hj).2
      unfold maxLen at this
      exact this

set_option maxRecDepth 100000 in
theorem open_disk {H : Type} {enc : TypeId × Value → H} {W : World} {base : Nat} {v : Value} {d : DataW H} {p : List MemPlace} (hv : Value.okWide Try.prog W .any base 24 v) (h : DataW.Trod enc Try.prog W 0 (fun _ => true) true 24 v d p) :
    ∃ s g o l, v = .agg #[s] ∧ IsRowF W s g o l := by
  obtain ⟨cs, rfl, hsz⟩ := okWide_struct Try.underlying24 hv
  rw [cellsLDisk] at hsz
  obtain ⟨s, rfl⟩ : ∃ s, cs = #[s] := by
    obtain ⟨l⟩ := cs
    match l, hsz with
    | [s], _ => exact ⟨s, rfl⟩
  obtain ⟨fuel, hf⟩ := h
  obtain ⟨y0, n, _, _, h0⟩ := trod_struct1 Try.underlying24 hf
  have h0' : DataW.trod enc Try.prog W 0 (fun _ => true) true n 22 [s] = some y0 := by
    have e : Try.prog.cellsOf 22 = 1 := by kernel_rfl
    simpa [Value.cells, e] using h0
  obtain ⟨g, o, l, hr⟩ := row_of_files h0'
  exact ⟨s, g, o, l, rfl, hr⟩

end Go.Proofs.Ythmfbnnfdhoieaa
