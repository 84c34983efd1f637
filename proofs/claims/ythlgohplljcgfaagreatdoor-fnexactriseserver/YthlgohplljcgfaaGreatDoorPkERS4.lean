/-
  Texts laid together: Jrs, Jrt.
-/
import Derived.Test.YthlgohplljcgfaaGreatDoorPkERS1
import Derived.Test.YthlgohplljcgfaaGreatDoorPkEFS0
import Derived.Test.YthlgohplljcgfaaGreatDoorPkERS2
import Derived.Test.YthlgohplljcgfaaGreatDoorPkERS3
/-
  A server that rises: the program's answer.
-/
namespace Go.Proofs.YthlgohplljcgfaaGreatDoor
open Go.RowKit Go.BigFrame Go.Sort
set_option linter.unusedVariables false
set_option linter.unusedSimpArgs false

set_option maxRecDepth 100000 in
set_option maxHeartbeats 2000000 in
theorem RiseServer_up (n : Sn) (hu : n.u = true) (vd vv vt va : Value) (L : Sr) (w : World) (hM : SvS w vd vv vt va L) (hsm : L.sm) :
    Calls Tryz.prog 24 #[.agg #[.int .i64 n.a, .int .i64 n.k, .bool n.u, vd, .int .i64 n.e, vv, vt, va, .int .i64 n.r0, .int .i64 n.r1, .int .i64 n.r2]] w (SvA n L w) := by
  obtain ⟨⟨xd, xe, rfl⟩, ⟨xv, xw, rfl⟩, ⟨xt, xu, rfl⟩, ⟨xa, xb, rfl⟩⟩ := hM.shapes
  have HC : Hid (∀ W, Below w.heap.size w W → Calls Tryz.prog 55 #[.agg #[.int .i64 n.a, .int .i64 n.k, .bool n.u, .slice xd L.F.length xe, .int .i64 n.e, .slice xv L.P.length xw, .slice xt L.I.length xu, .slice xa L.U.length xb, .int .i64 n.r0, .int .i64 n.r1, .int .i64 n.r2]] W (SvA n L W)) := fun W hW => Copied_any n _ _ _ _ L W (hM.later hW) hsm
  clear hM hsm
  have HX0 : Hid (Below w.heap.size w ((w.alloc (.cells #[.int .i64 n.a, .int .i64 n.k, .bool true, .slice xd L.F.length xe, .int .i64 n.e, .slice xv L.P.length xw, .slice xt L.I.length xu, .slice xa L.U.length xb, .int .i64 n.r0, .int .i64 n.r1, .int .i64 n.r2] 35)).alloc (.cells #[.int .i64 0, .int .i64 0, .bool false, .slice none 0 0, .int .i64 0, .slice none 0 0, .slice none 0 0, .slice none 0 0, .int .i64 0, .int .i64 0, .int .i64 0] 35)) ∧ Box 35 ((w.alloc (.cells #[.int .i64 n.a, .int .i64 n.k, .bool true, .slice xd L.F.length xe, .int .i64 n.e, .slice xv L.P.length xw, .slice xt L.I.length xu, .slice xa L.U.length xb, .int .i64 n.r0, .int .i64 n.r1, .int .i64 n.r2] 35)).alloc (.cells #[.int .i64 0, .int .i64 0, .bool false, .slice none 0 0, .int .i64 0, .slice none 0 0, .slice none 0 0, .slice none 0 0, .int .i64 0, .int .i64 0, .int .i64 0] 35)) (w.heap.size + 1) [.int .i64 0, .int .i64 0, .bool false, .slice none 0 0, .int .i64 0, .slice none 0 0, .slice none 0 0, .slice none 0 0, .int .i64 0, .int .i64 0, .int .i64 0] ∧ ((w.alloc (.cells #[.int .i64 n.a, .int .i64 n.k, .bool true, .slice xd L.F.length xe, .int .i64 n.e, .slice xv L.P.length xw, .slice xt L.I.length xu, .slice xa L.U.length xb, .int .i64 n.r0, .int .i64 n.r1, .int .i64 n.r2] 35)).alloc (.cells #[.int .i64 0, .int .i64 0, .bool false, .slice none 0 0, .int .i64 0, .slice none 0 0, .slice none 0 0, .slice none 0 0, .int .i64 0, .int .i64 0, .int .i64 0] 35)).heap.size = w.heap.size + 1 + 1) := ⟨below_two _ _ _, alloc_fst _ _ (by simp), by simp⟩
  unfold SvA at HC ⊢
  rw [hu] at HC ⊢
  go_enter Tryz.func24, Tryz.ntmps24
  go_wp2_with fail
  refine (HC.out _ HX0.out.1).mono ?_
  rintro e_ w1 ⟨ad, cd, av, cv, at2, ct, aa, ca, rfl, hd, hb⟩
  have HR : Hid (Box 35 w1 (w.heap.size + 1) [.int .i64 0, .int .i64 0, .bool false, .slice none 0 0, .int .i64 0, .slice none 0 0, .slice none 0 0, .slice none 0 0, .int .i64 0, .int .i64 0, .int .i64 0]) := HX0.out.2.1.later hb
  have HF : Hid (∀ W, w1.grownBy W (some (w.heap.size + 1)) → SvD w.heap.size W.heap.size W (.slice ad L.F.length cd) (.slice av L.P.length cv) (.slice at2 L.I.length ct) (.slice aa L.U.length ca) L ∧ Below w.heap.size w W) := fun W hg => by
    have s2 := hg.size
    have e := HX0.out.2.2
    have hd' := hd
    rw [e] at hd'
    have b1 := HX0.out.1.trans (hb.mono HX0.out.1.size)
    exact ⟨(hd'.kept hg (by omega)).wide (by omega) s2, b1.grown hg b1.size (fun k hk => by simp at hk; omega)⟩
  clear hd hb HX0 HC
  go_wp2_with (first | (refine wp_storeSrv rfl _ _ rfl (w.heap.size + 1) _ _ _ _ _ _ _ _ _ _ _ HR.out rfl rfl ⟨rfl, rfl, rfl, rfl, rfl, rfl, rfl, rfl, rfl, rfl, rfl⟩ ?_; intro hfin))
  exact ret_srv 2 (w.heap.size + 1) rfl rfl rfl hfin ⟨ad, cd, av, cv, at2, ct, aa, ca, rfl, HF.out _ (grown_setRowP _ _ _)⟩

set_option maxRecDepth 100000 in
set_option maxHeartbeats 2000000 in
theorem RiseServer_down (n : Sn) (hu : n.u = false) (vd vv vt va : Value) (L : Sr) (w : World) (hM : SvS w vd vv vt va L) (hsm : SmallF L.F) (hT : Tab w) (hE : Eh w) (hTb : Tb w) :
    Calls Tryz.prog 24 #[.agg #[.int .i64 n.a, .int .i64 n.k, .bool n.u, vd, .int .i64 n.e, vv, vt, va, .int .i64 n.r0, .int .i64 n.r1, .int .i64 n.r2]] w (SnA n.a n.k true L.F (SR.runS n.a n.k (ltT L.F ⟨#[115, 104, 97, 114, 100]⟩)) w) := by
  have HC : Hid (∀ W, Below w.heap.size w W → Calls Tryz.prog 10 #[.int .i64 n.a, .int .i64 n.k, .agg #[vd]] W (SnA n.a n.k true L.F (SR.runS n.a n.k (ltT L.F ⟨#[115, 104, 97, 114, 100]⟩)) W)) := fun W hW => by
    obtain ⟨⟨g1, o1, h1⟩, _⟩ := hM.later hW
    exact ServerNew_at n.a n.k vd L.F g1 o1 W h1 hsm (hT.later hW hT.pos) (hE.later hW) (hTb.later hW)
  obtain ⟨⟨xd, xe, rfl⟩, ⟨xv, xw, rfl⟩, ⟨xt, xu, rfl⟩, ⟨xa, xb, rfl⟩⟩ := hM.shapes
  clear hM hsm hT hE hTb
  have HX0 : Hid (Below w.heap.size w ((w.alloc (.cells #[.int .i64 n.a, .int .i64 n.k, .bool false, .slice xd L.F.length xe, .int .i64 n.e, .slice xv L.P.length xw, .slice xt L.I.length xu, .slice xa L.U.length xb, .int .i64 n.r0, .int .i64 n.r1, .int .i64 n.r2] 35)).alloc (.cells #[.int .i64 0, .int .i64 0, .bool false, .slice none 0 0, .int .i64 0, .slice none 0 0, .slice none 0 0, .slice none 0 0, .int .i64 0, .int .i64 0, .int .i64 0] 35)) ∧ Box 35 ((w.alloc (.cells #[.int .i64 n.a, .int .i64 n.k, .bool false, .slice xd L.F.length xe, .int .i64 n.e, .slice xv L.P.length xw, .slice xt L.I.length xu, .slice xa L.U.length xb, .int .i64 n.r0, .int .i64 n.r1, .int .i64 n.r2] 35)).alloc (.cells #[.int .i64 0, .int .i64 0, .bool false, .slice none 0 0, .int .i64 0, .slice none 0 0, .slice none 0 0, .slice none 0 0, .int .i64 0, .int .i64 0, .int .i64 0] 35)) (w.heap.size + 1) [.int .i64 0, .int .i64 0, .bool false, .slice none 0 0, .int .i64 0, .slice none 0 0, .slice none 0 0, .slice none 0 0, .int .i64 0, .int .i64 0, .int .i64 0] ∧ ((w.alloc (.cells #[.int .i64 n.a, .int .i64 n.k, .bool false, .slice xd L.F.length xe, .int .i64 n.e, .slice xv L.P.length xw, .slice xt L.I.length xu, .slice xa L.U.length xb, .int .i64 n.r0, .int .i64 n.r1, .int .i64 n.r2] 35)).alloc (.cells #[.int .i64 0, .int .i64 0, .bool false, .slice none 0 0, .int .i64 0, .slice none 0 0, .slice none 0 0, .slice none 0 0, .int .i64 0, .int .i64 0, .int .i64 0] 35)).heap.size = w.heap.size + 1 + 1) := ⟨below_two _ _ _, alloc_fst _ _ (by simp), by simp⟩
  unfold SnA at HC ⊢
  rw [hu]
  generalize SR.runS n.a n.k (ltT L.F ⟨#[115, 104, 97, 114, 100]⟩) = S at *
  go_enter Tryz.func24, Tryz.ntmps24
  go_wp2_with fail
  refine (HC.out _ HX0.out.1).mono ?_
  rintro e_ w1 ⟨ad, cd, av, cv, at2, ct, aa, ca, rfl, hd, hb⟩
  have HR : Hid (Box 35 w1 (w.heap.size + 1) [.int .i64 0, .int .i64 0, .bool false, .slice none 0 0, .int .i64 0, .slice none 0 0, .slice none 0 0, .slice none 0 0, .int .i64 0, .int .i64 0, .int .i64 0]) := HX0.out.2.1.later hb
  have HF : Hid (∀ W, w1.grownBy W (some (w.heap.size + 1)) → SvD w.heap.size W.heap.size W (.slice ad L.F.length cd) (.slice av S.P.length cv) (.slice at2 S.I.length ct) (.slice aa S.U.length ca) (Sr.ofS L.F S) ∧ Below w.heap.size w W) := fun W hg => by
    have s2 := hg.size
    have e := HX0.out.2.2
    have hd' := hd
    rw [e] at hd'
    have b1 := HX0.out.1.trans (hb.mono HX0.out.1.size)
    exact ⟨(hd'.kept hg (by omega)).wide (by omega) s2, b1.grown hg b1.size (fun k hk => by simp at hk; omega)⟩
  clear hd hb HX0 HC
  go_wp2_with (first | (refine wp_storeSrv rfl _ _ rfl (w.heap.size + 1) _ _ _ _ _ _ _ _ _ _ _ HR.out rfl rfl ⟨rfl, rfl, rfl, rfl, rfl, rfl, rfl, rfl, rfl, rfl, rfl⟩ ?_; intro hfin))
  exact ret_srv 2 (w.heap.size + 1) rfl rfl rfl hfin ⟨ad, cd, av, cv, at2, ct, aa, ca, rfl, HF.out _ (grown_setRowP _ _ _)⟩

set_option maxRecDepth 100000 in
set_option maxHeartbeats 2000000 in
theorem sRiseServer_down (n : Sn) (hu : n.u = false) (vd vv vt va : Value) (L : Sr) (w : World) (hM : SvS w vd vv vt va L) (hsm : SmallF L.F) (hnn : ∀ c, vd ≠ .slice none 0 c) :
    Calls Tryz.prog 23 #[.agg #[.int .i64 n.a, .int .i64 n.k, .bool n.u, vd, .int .i64 n.e, vv, vt, va, .int .i64 n.r0, .int .i64 n.r1, .int .i64 n.r2]] w (SnA n.a n.k true L.F (SR.runS n.a n.k (ltT L.F ⟨#[115, 104, 97, 114, 100]⟩)) w) := by
  have HC : Hid (∀ W, Below w.heap.size w W → Calls Tryz.prog 8 #[.int .i64 n.a, .int .i64 n.k, .agg #[vd]] W (SnA n.a n.k true L.F (SR.runS n.a n.k (ltT L.F ⟨#[115, 104, 97, 114, 100]⟩)) W)) := fun W hW => by
    obtain ⟨⟨g1, o1, h1⟩, _⟩ := hM.later hW
    obtain ⟨a1, c1, rfl⟩ := h1.shape
    refine sServerNew_nn n.a n.k L.F a1 g1 o1 c1 W h1 (fun ha => ?_) hsm
    subst ha
    obtain ⟨_, _, e2, _, h0, _⟩ := h1
    rcases Nat.eq_zero_or_pos L.F.length with hz | hz
    · exact absurd (by rw [hz]) (hnn c1)
    · obtain ⟨e3, _⟩ := h0 hz
      simp at e2
      rw [← e2.1] at e3
      cases e3
  obtain ⟨⟨xd, xe, rfl⟩, ⟨xv, xw, rfl⟩, ⟨xt, xu, rfl⟩, ⟨xa, xb, rfl⟩⟩ := hM.shapes
  clear hM hsm hnn
  have HX0 : Hid (Below w.heap.size w ((w.alloc (.cells #[.int .i64 n.a, .int .i64 n.k, .bool false, .slice xd L.F.length xe, .int .i64 n.e, .slice xv L.P.length xw, .slice xt L.I.length xu, .slice xa L.U.length xb, .int .i64 n.r0, .int .i64 n.r1, .int .i64 n.r2] 35)).alloc (.cells #[.int .i64 0, .int .i64 0, .bool false, .slice none 0 0, .int .i64 0, .slice none 0 0, .slice none 0 0, .slice none 0 0, .int .i64 0, .int .i64 0, .int .i64 0] 35)) ∧ Box 35 ((w.alloc (.cells #[.int .i64 n.a, .int .i64 n.k, .bool false, .slice xd L.F.length xe, .int .i64 n.e, .slice xv L.P.length xw, .slice xt L.I.length xu, .slice xa L.U.length xb, .int .i64 n.r0, .int .i64 n.r1, .int .i64 n.r2] 35)).alloc (.cells #[.int .i64 0, .int .i64 0, .bool false, .slice none 0 0, .int .i64 0, .slice none 0 0, .slice none 0 0, .slice none 0 0, .int .i64 0, .int .i64 0, .int .i64 0] 35)) (w.heap.size + 1) [.int .i64 0, .int .i64 0, .bool false, .slice none 0 0, .int .i64 0, .slice none 0 0, .slice none 0 0, .slice none 0 0, .int .i64 0, .int .i64 0, .int .i64 0] ∧ ((w.alloc (.cells #[.int .i64 n.a, .int .i64 n.k, .bool false, .slice xd L.F.length xe, .int .i64 n.e, .slice xv L.P.length xw, .slice xt L.I.length xu, .slice xa L.U.length xb, .int .i64 n.r0, .int .i64 n.r1, .int .i64 n.r2] 35)).alloc (.cells #[.int .i64 0, .int .i64 0, .bool false, .slice none 0 0, .int .i64 0, .slice none 0 0, .slice none 0 0, .slice none 0 0, .int .i64 0, .int .i64 0, .int .i64 0] 35)).heap.size = w.heap.size + 1 + 1) := ⟨below_two _ _ _, alloc_fst _ _ (by simp), by simp⟩
  unfold SnA at HC ⊢
  rw [hu]
  generalize SR.runS n.a n.k (ltT L.F ⟨#[115, 104, 97, 114, 100]⟩) = S at *
  go_enter Tryz.func23, Tryz.ntmps23
  go_wp2_with fail
  refine (HC.out _ HX0.out.1).mono ?_
  rintro e_ w1 ⟨ad, cd, av, cv, at2, ct, aa, ca, rfl, hd, hb⟩
  have HR : Hid (Box 35 w1 (w.heap.size + 1) [.int .i64 0, .int .i64 0, .bool false, .slice none 0 0, .int .i64 0, .slice none 0 0, .slice none 0 0, .slice none 0 0, .int .i64 0, .int .i64 0, .int .i64 0]) := HX0.out.2.1.later hb
  have HF : Hid (∀ W, w1.grownBy W (some (w.heap.size + 1)) → SvD w.heap.size W.heap.size W (.slice ad L.F.length cd) (.slice av S.P.length cv) (.slice at2 S.I.length ct) (.slice aa S.U.length ca) (Sr.ofS L.F S) ∧ Below w.heap.size w W) := fun W hg => by
    have s2 := hg.size
    have e := HX0.out.2.2
    have hd' := hd
    rw [e] at hd'
    have b1 := HX0.out.1.trans (hb.mono HX0.out.1.size)
    exact ⟨(hd'.kept hg (by omega)).wide (by omega) s2, b1.grown hg b1.size (fun k hk => by simp at hk; omega)⟩
  clear hd hb HX0 HC
  go_wp2_with (first | (refine wp_storeSrv rfl _ _ rfl (w.heap.size + 1) _ _ _ _ _ _ _ _ _ _ _ HR.out rfl rfl ⟨rfl, rfl, rfl, rfl, rfl, rfl, rfl, rfl, rfl, rfl, rfl⟩ ?_; intro hfin))
  exact ret_srv 2 (w.heap.size + 1) rfl rfl rfl hfin ⟨ad, cd, av, cv, at2, ct, aa, ca, rfl, HF.out _ (grown_setRowP _ _ _)⟩


end Go.Proofs.YthlgohplljcgfaaGreatDoor
/-
  A server that rises: the specification's answer where it is up; the law.
-/
namespace Go.Proofs.YthlgohplljcgfaaGreatDoor
open Go.RowKit Go.BigFrame Go.Sort
set_option linter.unusedVariables false
set_option linter.unusedSimpArgs false

set_option maxRecDepth 100000 in
set_option maxHeartbeats 2000000 in
theorem sRiseServer_up (n : Sn) (hu : n.u = true) (gd gv ga : Nat) (b3 : Option Addr) (e3 : Nat) (G : List Nat) (L : Sr) (B : Nat) (w : World) (hM : SvS w (.slice (some ⟨gd, 0, none⟩) L.F.length L.F.length) (.slice (some ⟨gv, 0, none⟩) L.P.length L.P.length) (.slice b3 L.I.length e3) (.slice (some ⟨ga, 0, none⟩) L.U.length L.U.length) L) (hX : XW B w gv G L.P) (hn3 : b3 ≠ none) (hsm : L.sm) :
    Calls Tryz.prog 23 #[.agg #[.int .i64 n.a, .int .i64 n.k, .bool n.u, .slice (some ⟨gd, 0, none⟩) L.F.length L.F.length, .int .i64 n.e, .slice (some ⟨gv, 0, none⟩) L.P.length L.P.length, .slice b3 L.I.length e3, .slice (some ⟨ga, 0, none⟩) L.U.length L.U.length, .int .i64 n.r0, .int .i64 n.r1, .int .i64 n.r2]] w (SvA n L w) := by
  have HC : Hid (∀ W, Below w.heap.size w W → Calls Tryz.prog 54 #[.agg #[.int .i64 n.a, .int .i64 n.k, .bool n.u, .slice (some ⟨gd, 0, none⟩) L.F.length L.F.length, .int .i64 n.e, .slice (some ⟨gv, 0, none⟩) L.P.length L.P.length, .slice b3 L.I.length e3, .slice (some ⟨ga, 0, none⟩) L.U.length L.U.length, .int .i64 n.r0, .int .i64 n.r1, .int .i64 n.r2]] W (SvA n L W)) := fun W hW => sCopy_any n gd gv ga b3 e3 G L B W (hM.later hW) (hX.later hW) hn3 hsm
  clear hM hX hsm
  have HX0 : Hid (Below w.heap.size w ((w.alloc (.cells #[.int .i64 n.a, .int .i64 n.k, .bool true, .slice (some ⟨gd, 0, none⟩) L.F.length L.F.length, .int .i64 n.e, .slice (some ⟨gv, 0, none⟩) L.P.length L.P.length, .slice b3 L.I.length e3, .slice (some ⟨ga, 0, none⟩) L.U.length L.U.length, .int .i64 n.r0, .int .i64 n.r1, .int .i64 n.r2] 35)).alloc (.cells #[.int .i64 0, .int .i64 0, .bool false, .slice none 0 0, .int .i64 0, .slice none 0 0, .slice none 0 0, .slice none 0 0, .int .i64 0, .int .i64 0, .int .i64 0] 35)) ∧ Box 35 ((w.alloc (.cells #[.int .i64 n.a, .int .i64 n.k, .bool true, .slice (some ⟨gd, 0, none⟩) L.F.length L.F.length, .int .i64 n.e, .slice (some ⟨gv, 0, none⟩) L.P.length L.P.length, .slice b3 L.I.length e3, .slice (some ⟨ga, 0, none⟩) L.U.length L.U.length, .int .i64 n.r0, .int .i64 n.r1, .int .i64 n.r2] 35)).alloc (.cells #[.int .i64 0, .int .i64 0, .bool false, .slice none 0 0, .int .i64 0, .slice none 0 0, .slice none 0 0, .slice none 0 0, .int .i64 0, .int .i64 0, .int .i64 0] 35)) (w.heap.size + 1) [.int .i64 0, .int .i64 0, .bool false, .slice none 0 0, .int .i64 0, .slice none 0 0, .slice none 0 0, .slice none 0 0, .int .i64 0, .int .i64 0, .int .i64 0] ∧ ((w.alloc (.cells #[.int .i64 n.a, .int .i64 n.k, .bool true, .slice (some ⟨gd, 0, none⟩) L.F.length L.F.length, .int .i64 n.e, .slice (some ⟨gv, 0, none⟩) L.P.length L.P.length, .slice b3 L.I.length e3, .slice (some ⟨ga, 0, none⟩) L.U.length L.U.length, .int .i64 n.r0, .int .i64 n.r1, .int .i64 n.r2] 35)).alloc (.cells #[.int .i64 0, .int .i64 0, .bool false, .slice none 0 0, .int .i64 0, .slice none 0 0, .slice none 0 0, .slice none 0 0, .int .i64 0, .int .i64 0, .int .i64 0] 35)).heap.size = w.heap.size + 1 + 1) := ⟨below_two _ _ _, alloc_fst _ _ (by simp), by simp⟩
  unfold SvA at HC ⊢
  rw [hu] at HC ⊢
  go_enter Tryz.func23, Tryz.ntmps23
  go_wp2_with fail
  refine (HC.out _ HX0.out.1).mono ?_
  rintro e_ w1 ⟨ad, cd, av, cv, at2, ct, aa, ca, rfl, hd, hb⟩
  have HR : Hid (Box 35 w1 (w.heap.size + 1) [.int .i64 0, .int .i64 0, .bool false, .slice none 0 0, .int .i64 0, .slice none 0 0, .slice none 0 0, .slice none 0 0, .int .i64 0, .int .i64 0, .int .i64 0]) := HX0.out.2.1.later hb
  have HF : Hid (∀ W, w1.grownBy W (some (w.heap.size + 1)) → SvD w.heap.size W.heap.size W (.slice ad L.F.length cd) (.slice av L.P.length cv) (.slice at2 L.I.length ct) (.slice aa L.U.length ca) L ∧ Below w.heap.size w W) := fun W hg => by
    have s2 := hg.size
    have e := HX0.out.2.2
    have hd' := hd
    rw [e] at hd'
    have b1 := HX0.out.1.trans (hb.mono HX0.out.1.size)
    exact ⟨(hd'.kept hg (by omega)).wide (by omega) s2, b1.grown hg b1.size (fun k hk => by simp at hk; omega)⟩
  clear hd hb HX0 HC
  go_wp2_with (first | (refine wp_storeSrv rfl _ _ rfl (w.heap.size + 1) _ _ _ _ _ _ _ _ _ _ _ HR.out rfl rfl ⟨rfl, rfl, rfl, rfl, rfl, rfl, rfl, rfl, rfl, rfl, rfl⟩ ?_; intro hfin))
  exact ret_srv 2 (w.heap.size + 1) rfl rfl rfl hfin ⟨ad, cd, av, cv, at2, ct, aa, ca, rfl, HF.out _ (grown_setRowP _ _ _)⟩

theorem riseLaw_any (n : Sn) (vd vv vt va : Value) (L : Sr) (w : World) (hZ : IsSv w vd vv vt va L) (hT : Tab w) (hE : Eh w) (hTb : Tb w) :
    Calls Tryz.prog 5 #[.agg #[.int .i64 n.a, .int .i64 n.k, .bool n.u, vd, .int .i64 n.e, vv, vt, va, .int .i64 n.r0, .int .i64 n.r1, .int .i64 n.r2]] w fun e w' => e = .returned (.bool true) ∧ Below w.heap.size w w' := by
  cases hu : n.u with
  | true =>
    have h := riseLaw_at n vd vv vt va L n L w hZ hT hE hTb
      (fun hs W gd gv b3 e3 ga h hn hx => by
        obtain ⟨B, G, hx⟩ := hx
        exact sRiseServer_up n hu gd gv ga b3 e3 G L B W h hx hn hs)
      (fun hs W gd gv b3 e3 ga t1 t2 t3 h => RiseServer_up n hu _ _ _ _ L W h hs)
      (fun hs => hs)
    rw [hu] at h
    exact h
  | false =>
    have h := riseLaw_at n vd vv vt va L (Sn.ofS n.a n.k true (SR.runS n.a n.k (ltT L.F ⟨#[115, 104, 97, 114, 100]⟩))) (Sr.ofS L.F (SR.runS n.a n.k (ltT L.F ⟨#[115, 104, 97, 114, 100]⟩))) w hZ hT hE hTb
      (fun hs W gd gv b3 e3 ga h hn hx => (sRiseServer_down n hu _ _ _ _ L W h hs.1.1 (fun c e => by cases e)).mono fun e w' h => h.sva)
      (fun hs W gd gv b3 e3 ga t1 t2 t3 h => (RiseServer_down n hu _ _ _ _ L W h hs.1.1 t1 t2 t3).mono fun e w' h => h.sva)
      (fun hs => sm_all n.a n.k _ hs.1.1 hs.1.2)
    rw [hu] at h
    exact h

end Go.Proofs.YthlgohplljcgfaaGreatDoor
