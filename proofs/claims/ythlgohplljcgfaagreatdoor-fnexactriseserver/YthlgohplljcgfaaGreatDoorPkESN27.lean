/-
  Texts laid together: Ju, Jq, Jhk, Jv.
-/
import Derived.Test.YthlgohplljcgfaaGreatDoorPkESN26
import Derived.Test.YthlgohplljcgfaaGreatDoorPkESN25
import Derived.Test.YthlgohplljcgfaaGreatDoorPkESN11
import Derived.Test.YthlgohplljcgfaaGreatDoorPkESN12
import Derived.Test.YthlgohplljcgfaaGreatDoorPkESN24
import Derived.Deep.RegionHeld3
/-
  A server under way: a change taken in, an epoch committed: the program's answers.
-/
namespace Go.Proofs.YthlgohplljcgfaaGreatDoor
open Go.RowKit Go.BigFrame Go.Sort
set_option linter.unusedVariables false
set_option linter.unusedSimpArgs false

theorem take_sv {B : Nat} {w0 w : World} {p : Nat} {n : Sn} {vd vv vt va : Value} {L : Sr} {V : List Value} {G : Nat → Nat} {gd : Nat} (h : SvO B w0 w p n vd vv vt va L V G gd) (y : Ug) (hl : L.U.length < 1000000) (hn : y.n.size ≤ 1048576) (hv : y.v.size ≤ 1048576) :
    Calls Tryz.prog 114 #[.pointer (some ⟨p, 0, none⟩), .agg #[.int .i64 y.i, .string y.n, .string y.v]] w fun e w' => e = .returned (.tuple #[]) ∧ ∃ va', SvO B w0 w' p n vd vv vt va' { L with U := L.U ++ [y] } V G gd := by
  refine (take_any y L.U B p _ _ _ _ _ _ _ va _ _ _ w h.box w0 h.ou hl hn hv).mono ?_
  rintro e w' ⟨rfl, w1, w2, g, c, hb1, hg, hl5, ho, rfl⟩
  exact ⟨rfl, _, (h.later hb1).chg ho hg hl5⟩

theorem SvO.fresh {B : Nat} {w0 W : World} {p : Nat} {n : Sn} {vd vv vt va : Value} {L : Sr} {V : List Value} {G : Nat → Nat} {gd : Nat} (h : SvO B w0 W p n vd vv vt va L V G gd) {g : Nat} (hg : W.heap.size ≤ g) : FreeS p vv vt va g ∧ ∀ q, q = g → (∃ j, ∃ (h : j < L.P.length), 0 < L.P[j].length ∧ q = G j) ∨ (0 < L.F.length ∧ q = gd) → False := by
  have hp := h.box.lt
  refine ⟨⟨by omega, fun e => ?_, fun e => ?_, fun e => ?_⟩, fun q hq hx => ?_⟩
  · have := (h.ov.1.lt g e).2
    omega
  · have := (h.oi.1.lt g e).2
    omega
  · have := (h.ou.1.lt g e).2
    omega
  · rcases hx with ⟨j, hj, hp, e⟩ | ⟨hp, e⟩
    · have := (h.fz.rows j hj (by rw [h.fz.len]; exact hj)).2.1.lt hp
      omega
    · have := h.fz.disk.lt hp
      omega

theorem OR.shapeJ {α : Type} {T k : Nat} {enc : α → List Value} {B : Nat} {w0 w : World} {v : Value} {l : List α} (h : OR T k enc B w0 w v l) : ∃ a c, v = .slice a l.length c := by
  rcases h.1.2 with ⟨hv, hn⟩ | ⟨g, cap, cur, hv, _⟩
  · exact ⟨none, 0, by rw [hv, hn]⟩
  · exact ⟨_, _, hv⟩

set_option maxRecDepth 100000 in
set_option maxHeartbeats 4000000 in
theorem commit_sv {B : Nat} {w0 w : World} {p : Nat} {n : Sn} {vd vv vt va : Value} {L : Sr} {V : List Value} {G : Nat → Nat} {gd : Nat} (h : SvO B w0 w p n vd vv vt va L V G gd) (hP : L.P.length < 1000000) (hI : L.I.length < 1000000) (hUl : L.U.length ≤ 1000000) (hsm : SmallUs L.U) (he0 : 0 ≤ n.e) (he1 : n.e ≤ 1000000) :
    Calls Tryz.prog 117 #[.pointer (some ⟨p, 0, none⟩)] w fun e w' => e = .returned (.tuple #[]) ∧ ∃ vv' vt' V' G', SvO B w0 w' p ⟨n.a, n.k, n.u, n.e + 1, 0, 0, 0⟩ vd vv' vt' va { L with P := L.P ++ [rlA n.r2 L.U], I := L.I ++ [n.r2] } V' G' gd := by
  obtain ⟨av, cv, rfl⟩ := OR.shapeJ h.ov
  obtain ⟨at2, ct, rfl⟩ := OR.shapeJ h.oi
  obtain ⟨aa, ca, rfl⟩ := h.ou.shape
  obtain ⟨ad, cd, rfl⟩ := h.fz.disk.1.shape
  have hcap := h.ou.cap _ _ _ rfl
  have HS : Hid (SvO B w0 w p n (.slice ad L.F.length cd) (.slice av V.length cv) (.slice at2 L.I.length ct) (.slice aa L.U.length ca) L V G gd) := h
  have HRL : Hid (∀ W, SvO B w0 W p n (.slice ad L.F.length cd) (.slice av V.length cv) (.slice at2 L.I.length ct) (.slice aa L.U.length ca) L V G gd → Calls Tryz.prog 144 #[.agg #[.int .i64 n.a, .int .i64 n.k, .bool n.u, .slice ad L.F.length cd, .int .i64 n.e, .slice av V.length cv, .slice at2 L.I.length ct, .slice aa L.U.length ca, .int .i64 n.r0, .int .i64 n.r1, .int .i64 n.r2]] W fun e w' => ∃ a cap g, e = .returned (.slice a (rlA n.r2 L.U).length cap) ∧ RW 2 lcs w' (.slice a (rlA n.r2 L.U).length cap) g (rlA n.r2 L.U) ∧ W.heap.size ≤ g ∧ Below W.heap.size W w') := fun W hW => by
    obtain ⟨g, hr, _⟩ := hW.ou.rw (by omega)
    exact ReadyLeaves_any n _ _ _ aa ca g 0 L.U W ⟨rfl, rfl, rfl⟩ hr.1 hcap hsm
  have HV : Hid (V.length + 1 ≤ 1000000 ∧ L.I.length + 1 ≤ 1000000) := ⟨by have := h.fz.len; omega, hI⟩
  have wr : IntKind.i64.wrap (n.e + 1) = n.e + 1 := IntWalk.i64_in _ (by omega)
  have HB0 : Hid (SvO B w0 w.drew p n (.slice ad L.F.length cd) (.slice av V.length cv) (.slice at2 L.I.length ct) (.slice aa L.U.length ca) L V G gd) := h.later (Below.refl _ _).drew
  obtain ⟨z0, z1, z2, z3, z4, z5, z6, z7, z8, z9, z10⟩ := HB0.out.box.all11
  obtain ⟨M, hM⟩ : ∃ M, rlA n.r2 L.U = M := ⟨_, rfl⟩
  rw [hM] at HRL ⊢
  obtain ⟨a, k, u, e, r0, r1, r2⟩ := n
  simp only at *
  clear h hM hcap hP hI hUl hsm he0 he1
  go_enter Tryz.func117, Tryz.ntmps117
  go_wp2
  go_region_law ((first
    | (refine step_view rfl _ _ rfl B w0 (.slice av V.length cv) V (.slice a5 M.length c5) (by rfl) HS4.out.ov _ (by rfl) HRG.out rfl HV.out.1 ?_; intro g6 cap6 w6 ho6 hg6 hl6; have HB6 : Hid (Box 35 w6 p _) := (HS4.out.box.grown hg6 (own_box HS4.out.ov.1 HS4.out.box (by decide))); have e1 := HB6.out.at 5 _ rfl; have f1 := HB6.out.fz 5)
    | (go_simp; go_at_call 144; refine (HRL.out _ HB0.out).mono ?_; rintro e w3 ⟨a5, c5, g5, rfl, hr5, hg5, hb3⟩; have HS3 : Hid (SvO B w0 w3 p _ _ _ _ _ L V G gd) := (HB0.out.later hb3); have HS4 : Hid (SvO B w0 (w3.alloc (.cells #[.slice a5 M.length c5] 59)) p _ _ _ _ _ L V G gd) := (HS3.out.later (below_alloc _ _)); have k3 := HS3.out.box.at 5 _ rfl; have k4 := HS4.out.box.at 5 _ rfl; have HR5 : Hid (RW 2 lcs (w3.alloc (.cells #[.slice a5 M.length c5] 59)) (.slice a5 M.length c5) g5 M) := (hr5.later (below_alloc _ _)); have HRG : Hid ((w3.alloc (.cells #[.slice a5 M.length c5] 59)).cell? ⟨w3.heap.size, 0, none⟩ = some (.slice a5 M.length c5)) := (by show _ = _; rw [World.cell?_alloc_at _ _ _ _ rfl]; rfl))))
  all_goals
    have HN : Hid (∃ G', SvO B w0 (w6.setCell ⟨p, 5, none⟩ (.slice (some ⟨g6, 0, none⟩) (V.length + 1) cap6)) p ⟨a, k, u, e, r0, r1, r2⟩ (.slice ad L.F.length cd) (.slice (some ⟨g6, 0, none⟩) (V.length + 1) cap6) (.slice at2 L.I.length ct) (.slice aa L.U.length ca) { L with P := L.P ++ [M] } (V ++ [.slice a5 M.length c5]) G' gd) := ⟨_, HS4.out.view HR5.out (fun _ => (HB0.out.fresh hg5).1) (HB0.out.fresh hg5).2 (fun _ => Nat.le_trans HB0.out.ou.2.2 hg5) ho6 hg6 hl6⟩
    obtain ⟨G', hN⟩ := HN.out
    have HM : Hid _ := hN
    have HMI : Hid _ := hN.oi
    clear hN HN HS HRL HB0 HS3 HS4 HR5 HRG hr5 hg5 hb3 ho6 hg6 hl6 e1 f1 k3 k4 z0 z1 z2 z3 z4 z5 z6 z7 z8 z9 z10 HB6
    generalize (w6.setCell ⟨p, 5, none⟩ (.slice (some ⟨g6, 0, none⟩) (V.length + 1) cap6)) = W1 at *
    have HM0 : Hid (SvO B w0 W1.drew p _ _ _ _ _ _ _ G' gd) := HM.out.later (Below.refl _ _).drew
    have z6 := HM0.out.box.at 6 _ rfl
    have z10 := HM0.out.box.at 10 _ rfl
    have HM1 : Hid (SvO B w0 (W1.alloc (.cells #[.int .i64 r2] 3)).drew p _ _ _ _ _ _ _ G' gd) := HM.out.later (((Below.refl _ _).alloc (Nat.le_refl _) _).drew)
    have y6 : (W1.alloc (.cells #[.int .i64 r2] 3)).cell? ⟨p, 6, none⟩ = some (.slice at2 L.I.length ct) := HM1.out.box.at 6 _ rfl
    have HRG : Hid ((W1.alloc (.cells #[.int .i64 r2] 3)).drew.cell? ⟨W1.heap.size, 0, none⟩ = some (.int .i64 r2)) := (by show (W1.alloc (.cells #[.int .i64 r2] 3)).cell? ⟨W1.heap.size, 0, none⟩ = some (.int .i64 r2); rw [World.cell?_alloc_at _ _ _ _ rfl]; rfl)
    go_wp2
    go_region_law ((refine step_num rfl _ _ rfl B w0 (.slice at2 L.I.length ct) L.I r2 (by rfl) HM1.out.oi _ (by rfl) HRG.out HV.out.2 ?_; intro g7 cap7 w7 ho7 hg7 hl7; have HB7 : Hid (Box 35 w7 p _) := (HM1.out.box.grown hg7 (own_box HM1.out.oi.1 HM1.out.box (by decide))); have e1 := HB7.out.at 6 _ rfl; have f1 := HB7.out.fz 6))
    all_goals
      have HN2 : Hid (SvO B w0 (w7.setCell ⟨p, 6, none⟩ (.slice (some ⟨g7, 0, none⟩) (L.I.length + 1) cap7)) p _ _ _ _ _ { L with P := L.P ++ [M], I := L.I ++ [r2] } _ G' gd) := HM1.out.num ho7 hg7 hl7
      clear HM0 HM1 HM HMI HRG z6 z10 y6 ho7 hg7 hl7 HB7 e1 f1
      generalize (w7.setCell ⟨p, 6, none⟩ (.slice (some ⟨g7, 0, none⟩) (L.I.length + 1) cap7)) = W2 at *
      have z4 := HN2.out.box.at 4 _ rfl
      have f4 := HN2.out.box.fz 4
      have z8 := HN2.out.box.at 8 _ rfl
      have z9 := HN2.out.box.at 9 _ rfl
      have z10 := HN2.out.box.at 10 _ rfl
      have f8 := HN2.out.box.fz 8
      have f9 := HN2.out.box.fz 9
      have f10 := HN2.out.box.fz 10
      have HF : Hid (SvO B w0 ((((W2.setCell ⟨p, 4, none⟩ (.int .i64 (e + 1))).setCell ⟨p, 8, none⟩ (.int .i64 0)).setCell ⟨p, 9, none⟩ (.int .i64 0)).setCell ⟨p, 10, none⟩ (.int .i64 0)) p ⟨a, k, u, e + 1, 0, 0, 0⟩ _ _ _ _ { L with P := L.P ++ [M], I := L.I ++ [r2] } _ G' gd) := HN2.out.keepR ((grown_setC W2 p 4 _).trans (grown_put3 _ p 8 9 10 _ _ _)) ((HN2.out.box.set 4 (.int .i64 (e + 1))).put3 _ _ _)
      clear HN2
      go_wp2
      refine bodyPost_end (results_none rfl _ _ _) rfl ?_
      exact ⟨rfl, _, _, _, _, HF.out⟩

end Go.Proofs.YthlgohplljcgfaaGreatDoor
/-
  Is a change of this number there? The program's answer.
-/
namespace Go.Proofs.YthlgohplljcgfaaGreatDoor
open Go.RowKit Go.BigFrame Go.Sort
set_option linter.unusedVariables false
set_option linter.unusedSimpArgs false

theorem cell_laterS {w w' : World} {g o : Nat} {v : Value} (h : w.cell? ⟨g, o, none⟩ = some v) (hb : Below w.heap.size w w') : w'.cell? ⟨g, o, none⟩ = some v := (hb.cell (p := ⟨g, o, none⟩) (lt_of_cell h)).trans h
theorem hasIdF_any (q : Nat) (y : Ug) (x : Int) (w : World) (h : w.cell? ⟨q, 0, none⟩ = some (.int .i64 x)) :
    Calls Tryz.prog 142 #[.agg #[.int .i64 y.i, .string y.n, .string y.v], .pointer (some ⟨q, 0, none⟩)] w fun e w' => e = .returned (.bool (y.i == x)) ∧ Below w.heap.size w w' := by
  obtain ⟨i, n, v⟩ := y
  simp only
  have h2 := cell_laterS h (below_alloc w (.cells #[.int .i64 i, .string n, .string v] 102))
  have HB : Hid (Below w.heap.size w (w.alloc (.cells #[.int .i64 i, .string n, .string v] 102))) := below_alloc _ _
  go_enter Tryz.func142, Tryz.ntmps142
  go_wp2
  go_ret
  exact ⟨rfl, HB.out⟩

def IxuR (U : List Ug) (x : Int) (w : World) (i : Value) (wr : World) : Prop := ∃ m : Nat, m ≤ U.length ∧ i = .int .i64 m ∧ Below w.heap.size w wr ∧ SR.hasU (U.take m) x = false
theorem hasU_step (U : List Ug) (x : Int) {m : Nat} (h : m < U.length) : SR.hasU (U.take (m + 1)) x = (SR.hasU (U.take m) x || (U[m].i == x)) := by
  unfold SR.hasU
  rw [List.take_succ_eq_append_getElem h, List.any_append]
  simp only [List.any_cons, List.any_nil, Bool.or_false]
  congr 1
theorem hasU_more {U : List Ug} {x : Int} {m : Nat} (h : SR.hasU (U.take m) x = true) : SR.hasU U x = true := by
  unfold SR.hasU at *
  rw [List.any_eq_true] at *
  obtain ⟨y, hy, hp⟩ := h
  exact ⟨y, List.mem_of_mem_take hy, hp⟩

set_option maxRecDepth 100000 in
set_option maxHeartbeats 1000000 in
theorem IndexFuncU_any (v : Value) (g o q : Nat) (x : Int) (U : List Ug) (w : World) (hU : RS 3 ucs w v g o U) (hq : w.cell? ⟨q, 0, none⟩ = some (.int .i64 x)) :
    Calls Tryz.prog 166 #[v, .func (Fn.func 142) #[] #[.pointer (some ⟨q, 0, none⟩)]] w fun e w' => (∃ r : Int, e = .returned (.int .i64 r) ∧ decide (0 ≤ r) = SR.hasU U x ∧ -1 ≤ r ∧ r ≤ 1100000) ∧ Below w.heap.size w w' := by
  have HU : Hid (RS 3 ucs w v g o U) := hU
  have HQ : Hid (w.cell? ⟨q, 0, none⟩ = some (.int .i64 x)) := hq
  obtain ⟨aa, ca, rfl, hl, hA, _⟩ := hU
  obtain ⟨n, hn⟩ : ∃ n, U.length = n := ⟨_, rfl⟩
  have HN : Hid (U.length = n) := hn
  have HA : Hid (0 < n → aa = some ⟨g, o, none⟩) := by rw [← hn]; exact fun h => (hA h).1
  have HST : Hid (IxuR U x w (.int .i64 0) w) := ⟨0, by omega, rfl, Below.refl _ _, rfl⟩
  rw [hn] at hl HU ⊢
  clear hA hn hq
  go_enter Tryz.func166, Tryz.ntmps166
  go_wp2
  go_loopw [8] (fun i wr => IxuR U x w i wr) (fun i _ => n - (intOf i).toNat)
  case atStart => exact HST.out
  case round =>
    obtain ⟨m, hm, rfl, hbel, hna⟩ := hrel
    clear HST
    rw [HN.out] at hm
    by_cases hlt : m < n
    · have ea := HA.out (by omega)
      subst ea
      have hmU : m < U.length := by rw [HN.out]; exact hlt
      obtain ⟨c0, c1, c2⟩ := (HU.out.later hbel).chg m hmU
      have hst := hasU_step U x hmU
      rw [hna, Bool.false_or] at hst
      have HMO : Hid (SR.hasU (U.take (m + 1)) x = true → SR.hasU U x = true) := hasU_more
      obtain ⟨X, hX⟩ : ∃ X, U[m] = X := ⟨_, rfl⟩
      rw [hX] at c0 c1 c2 hst
      have HF0 : Hid (∀ W, Below wr.heap.size wr W → Calls Tryz.prog 142 #[.agg #[.int .i64 X.i, .string X.n, .string X.v], .pointer (some ⟨q, 0, none⟩)] W fun e w' => e = .returned (.bool (X.i == x)) ∧ Below W.heap.size W w') := fun W hW => hasIdF_any q X x W (cell_laterS (cell_laterS HQ.out hbel) hW)
      have HST2 : Hid (SR.hasU (U.take (m + 1)) x = (X.i == x)) := hst
      have i1 : (m : Int) < (n : Int) := by omega
      have i2 : (0 : Int) ≤ (m : Int) := by omega
      obtain ⟨b, hb⟩ : ∃ b, (X.i == x) = b := ⟨_, rfl⟩
      rw [hb] at HF0 HST2
      obtain ⟨x0, x1, x2⟩ := X
      simp only at c0 c1 c2 HF0
      clear hX hst hb hna
      cases b with
      | true =>
        have HR : Hid (decide ((0 : Int) ≤ (m : Int)) = SR.hasU U x ∧ -1 ≤ (m : Int) ∧ (m : Int) ≤ 1100000) := ⟨by rw [HMO.out HST2.out]; simp, by omega, by omega⟩
        have HBW : Hid (Below w.heap.size w wr) := hbel
        clear HMO HST2 HU
        go_wp2_with fail
        refine (HF0.out _ (Below.refl _ _)).mono ?_
        rintro e w1 ⟨rfl, hb1⟩
        go_wp2
        try rw [Exit.noGoto_ret]
        go_ret
        exact ⟨⟨_, rfl, HR.out⟩, HBW.out.trans (hb1.mono HBW.out.size)⟩
      | false =>
        have HBW : Hid (Below w.heap.size w wr) := hbel
        clear HMO HU
        go_wp2_with fail
        refine (HF0.out _ (Below.refl _ _)).mono ?_
        rintro e w1 ⟨rfl, hb1⟩
        have HJ : Hid (IxuR U x w (.int .i64 ((m : Int) + 1)) w1) := ⟨m + 1, by rw [HN.out]; omega, by simp, HBW.out.trans (hb1.mono HBW.out.size), HST2.out⟩
        clear hb1 HBW HST2 HF0 c0 c1 c2 hbel
        go_wp2
        go_roundw
        case rel => exact HJ.out
        case measure => simp [intOf]; omega
    · have hme : m = n := by omega
      have HF : Hid (∃ r : Int, Ending.returned (.int .i64 (-1)) = .returned (.int .i64 r) ∧ decide (0 ≤ r) = SR.hasU U x ∧ -1 ≤ r ∧ r ≤ 1100000) := ⟨_, rfl, by
        rw [hme, ← HN.out, List.take_length] at hna
        rw [hna]
        rfl, by omega, by omega⟩
      have HBW : Hid (Below w.heap.size w wr) := hbel
      subst hme
      clear HU hna hbel
      go_wp2
      go_ret
      exact ⟨HF.out, HBW.out⟩

theorem hasId_any (p g o : Nat) (x : Int) (U : List Ug) (x0 x1 x2 x3 x4 x5 x6 x8 x9 x10 va : Value) (w : World) (h : Box 35 w p [x0, x1, x2, x3, x4, x5, x6, va, x8, x9, x10]) (hU : RS 3 ucs w va g o U) :
    Calls Tryz.prog 113 #[.pointer (some ⟨p, 0, none⟩), .int .i64 x] w fun e w' => e = .returned (.bool (SR.hasU U x)) ∧ Below w.heap.size w w' := by
  have hb1 := below_alloc w (.cells #[.int .i64 x] 3)
  have z7 := (h.later hb1).at 7 _ rfl
  have hc : (w.alloc (.cells #[.int .i64 x] 3)).cell? ⟨w.heap.size, 0, none⟩ = some (.int .i64 x) := by rw [cell_of_row _ _ 0 _ _ (0, 0) (Go.heap_alloc_new w _)]; rfl
  have HIX : Hid (∀ W, Below (w.alloc (.cells #[.int .i64 x] 3)).heap.size (w.alloc (.cells #[.int .i64 x] 3)) W → Calls Tryz.prog 166 #[va, .func (Fn.func 142) #[] #[.pointer (some ⟨w.heap.size, 0, none⟩)]] W fun e w' => (∃ r : Int, e = .returned (.int .i64 r) ∧ decide (0 ≤ r) = SR.hasU U x ∧ -1 ≤ r ∧ r ≤ 1100000) ∧ Below W.heap.size W w') := fun W hW => IndexFuncU_any va g o w.heap.size x U W ((hU.later hb1).later hW) (cell_laterS hc hW)
  have HCO : Hid (∀ W, Below (w.alloc (.cells #[.int .i64 x] 3)).heap.size (w.alloc (.cells #[.int .i64 x] 3)) W → Calls Tryz.prog 141 #[va, .func (Fn.func 142) #[] #[.pointer (some ⟨w.heap.size, 0, none⟩)]] W fun e w' => e = .returned (.bool (SR.hasU U x)) ∧ Below W.heap.size W w') := fun W hW => by
    have hix := HIX.out W hW
    clear h hU hb1 z7 hc HIX hW
    go_enter Tryz.func141, Tryz.ntmps141
    go_wp2_with fail
    refine hix.mono ?_
    rintro e w1 ⟨⟨r, rfl, hr, h1, h2⟩, hb⟩
    have HB := hide hb
    clear hix hb
    go_wp2
    go_ret
    exact ⟨by rw [← hr]; rfl, HB.out⟩
  obtain ⟨aa, ca, rfl, _⟩ := hU
  have HB1 : Hid (Below w.heap.size w (w.alloc (.cells #[.int .i64 x] 3))) := hb1
  clear h HIX hc hb1
  go_enter Tryz.func113, Tryz.ntmps113
  go_wp2_with fail
  refine (HCO.out _ (Below.refl _ _)).mono ?_
  rintro e w1 ⟨rfl, hb⟩
  have HB := hide (HB1.out.trans (hb.mono HB1.out.size))
  clear HCO hb
  go_wp2
  go_ret
  exact ⟨rfl, HB.out⟩

end Go.Proofs.YthlgohplljcgfaaGreatDoor
/-
  Is a name of this shard? The program's answer.
-/
namespace Go.Proofs.YthlgohplljcgfaaGreatDoor
open Go.RowKit Go.BigFrame Go.Sort
set_option linter.unusedVariables false
set_option linter.unusedSimpArgs false

set_option maxRecDepth 100000 in
set_option maxHeartbeats 1000000 in
theorem keeps_any (a k : Int) (x2 x3 x4 x5 x6 x7 x8 x9 x10 : Value) (p : Nat) (nm : ByteArray) (w : World) (h : Box 35 w p [.int .i64 a, .int .i64 k, x2, x3, x4, x5, x6, x7, x8, x9, x10]) (ht : nm.size ≤ 1048576) (hT : Tb w) :
    Calls Tryz.prog 112 #[.pointer (some ⟨p, 0, none⟩), .string nm] w fun e w' => e = .returned (.bool (decide ((shN nm k : Int) = a))) ∧ Below w.heap.size w w' := by
  have HK : Hid (∀ W, Below w.heap.size w W → W.cell? ⟨p, 0, none⟩ = some (.int .i64 a) ∧ W.cell? ⟨p, 1, none⟩ = some (.int .i64 k)) := fun W hW => ⟨(h.later hW).at 0 _ rfl, (h.later hW).at 1 _ rfl⟩
  have HC : Hid (∀ W, Below w.heap.size w W → Calls Tryz.prog 140 #[.string nm, .int .i64 k] W fun e w' => e = .returned (.int .i64 (shN nm k : Int)) ∧ Below W.heap.size W w') := fun W hW => ShardOf_any nm k W ht (hT.later hW)
  have hb0 : Below w.heap.size w w.drew := (Below.refl _ _).drew
  generalize (shN nm k : Int) = z at *
  clear h hT
  go_enter Tryz.func112, Tryz.ntmps112
  go_wp2
  go_region_held3 (fun W => W.cell? ⟨p, 0, none⟩ = some (.int .i64 a) ∧ W.cell? ⟨p, 1, none⟩ = some (.int .i64 k)) (first | (go_keep; done) | exact HK.out _ hb0) (first | (go_at_call 140; refine (HC.out _ hb0).mono ?_; rintro e w2 ⟨rfl, hb2⟩; have hb0 := hb0.trans (hb2.mono hb0.size)) | fail)
  try rename_i hHeld
  try clear hHeld
  go_wp2
  go_ret
  exact ⟨rfl, hb0⟩

end Go.Proofs.YthlgohplljcgfaaGreatDoor
/-
  A record of a change read once more: the program's answer.
-/
namespace Go.Proofs.YthlgohplljcgfaaGreatDoor
open Go.RowKit Go.BigFrame Go.Sort
set_option linter.unusedVariables false
set_option linter.unusedSimpArgs false

namespace UV
theorem rd_sizeJ (t : ByteArray) {k : Nat} (h : t.size ≤ k) : (rdA t).n.size ≤ k ∧ (rdA t).v.size ≤ k := by
  have hz : zU.n.size ≤ k ∧ zU.v.size ≤ k := ⟨Nat.zero_le _, Nat.zero_le _⟩
  cases hr : M.readVar t.data.toList 0 with
  | none => rw [(rd_none (raw_none1 hr)).2]; exact hz
  | some y =>
    obtain ⟨n, q⟩ := y
    cases hl : LV.leafAt t q with
    | none => rw [(rd_none (raw_none2 hr hl)).2]; exact hz
    | some z =>
      obtain ⟨f, r⟩ := z
      rw [(rd_some (raw_some hr hl)).2]
      have := LV.leafAt_size hl
      split
      · exact ⟨by simp only; omega, by simp only; omega⟩
      · exact hz
end UV
/-- what a server under way knows -/
def Ss.of (n : Sn) (L : Sr) : SR.Ss := ⟨n.e, L.P, L.I, L.U, n.r0, n.r1, n.r2⟩

set_option maxRecDepth 100000 in
set_option maxHeartbeats 4000000 in
theorem redoTaken_sv {B : Nat} {w0 w : World} {p : Nat} {n : Sn} {vd vv vt va : Value} {L : Sr} {V : List Value} {G : Nat → Nat} {gd : Nat} (h : SvO B w0 w p n vd vv vt va L V G gd) (t : ByteArray) (ht : t.size ≤ 1048576) (hl : L.U.length < 1000000) (hT : Tb w) :
    Calls Tryz.prog 75 #[.pointer (some ⟨p, 0, none⟩), .string t] w fun e w' => e = .returned (.tuple #[]) ∧ ∃ va' L', SvO B w0 w' p n vd vv vt va' L' V G gd ∧ Ss.of n L' = SR.tkS n.a n.k (Ss.of n L) t ∧ L'.F = L.F := by
  have HS : Hid (SvO B w0 w p n vd vv vt va L V G gd) := h
  have HT : Hid (Tb w) := hT
  have hrz := UV.rd_sizeJ t ht
  have HRC : Hid (∀ W, Calls Tryz.prog 111 #[.string t] W fun e w' => e = .returned (.tuple #[.agg #[.int .i64 (UV.rdA t).i, .string (UV.rdA t).n, .string (UV.rdA t).v], .bool (UV.rdOk t)]) ∧ Below W.heap.size W w') := fun W => ReadChange_any t W ht
  obtain ⟨Y, hY⟩ : ∃ Y, UV.rdA t = Y := ⟨_, rfl⟩
  obtain ⟨ok, hok⟩ : ∃ ok, UV.rdOk t = ok := ⟨_, rfl⟩
  rw [hY] at hrz HRC
  rw [hok] at HRC
  obtain ⟨i, nm, v⟩ := Y
  simp only at hrz HRC
  have HTK : Hid (SR.tkS n.a n.k (Ss.of n L) t = if ok && (decide ((shN nm n.k : Int) = n.a) && !SR.hasU L.U i) then Ss.of n { L with U := L.U ++ [⟨i, nm, v⟩] } else Ss.of n L) := by
    show SR.tkS n.a n.k (Ss.of n L) t = _
    unfold SR.tkS SR.tkB
    rw [hok, hY]
    rfl
  have HKP : Hid (∀ W, Below w.heap.size w W → Calls Tryz.prog 112 #[.pointer (some ⟨p, 0, none⟩), .string nm] W fun e w' => e = .returned (.bool (decide ((shN nm n.k : Int) = n.a))) ∧ Below W.heap.size W w') := fun W hW => keeps_any n.a n.k _ _ _ _ _ _ _ _ _ p nm W (HS.out.later hW).box hrz.1 (HT.out.later hW)
  have HID : Hid (∀ W, Below w.heap.size w W → Calls Tryz.prog 113 #[.pointer (some ⟨p, 0, none⟩), .int .i64 i] W fun e w' => e = .returned (.bool (SR.hasU L.U i)) ∧ Below W.heap.size W w') := fun W hW => by
    obtain ⟨g, hr, _⟩ := (HS.out.later hW).ou.rw (by omega)
    exact hasId_any p g 0 i L.U _ _ _ _ _ _ _ _ _ _ va W (HS.out.later hW).box hr.1
  have HTA : Hid (∀ W, Below w.heap.size w W → Calls Tryz.prog 114 #[.pointer (some ⟨p, 0, none⟩), .agg #[.int .i64 i, .string nm, .string v]] W fun e w' => e = .returned (.tuple #[]) ∧ ∃ va', SvO B w0 w' p n vd vv vt va' { L with U := L.U ++ [⟨i, nm, v⟩] } V G gd) := fun W hW => take_sv (HS.out.later hW) ⟨i, nm, v⟩ hl hrz.1 hrz.2
  obtain ⟨kp, hkp⟩ : ∃ kp, decide ((shN nm n.k : Int) = n.a) = kp := ⟨_, rfl⟩
  obtain ⟨hi, hhi⟩ : ∃ hi, SR.hasU L.U i = hi := ⟨_, rfl⟩
  rw [hkp, hhi] at HTK
  rw [hkp] at HKP
  rw [hhi] at HID
  clear h hT hkp hhi hok hY hrz hl
  go_enter Tryz.func75, Tryz.ntmps75
  go_wp2_with fail
  refine (HRC.out _).mono ?_
  rintro e w1 ⟨rfl, hb1⟩
  have HB1 : Hid (Below w.heap.size w (w1.alloc (.cells #[.int .i64 i, .string nm, .string v] 102))) := hb1.trans ((below_alloc w1 _).mono hb1.size)
  have HU : Hid (BU (w1.alloc (.cells #[.int .i64 i, .string nm, .string v] 102)) w1.heap.size ⟨i, nm, v⟩) := BU.new w1 ⟨i, nm, v⟩
  cases ok
  · have HF : Hid (SvO B w0 (w1.alloc (.cells #[.int .i64 i, .string nm, .string v] 102)) p n vd vv vt va L V G gd ∧ Ss.of n L = SR.tkS n.a n.k (Ss.of n L) t) := ⟨HS.out.later HB1.out, by rw [HTK.out]; rfl⟩
    clear HKP HID HTA HTK HU HB1 hb1 HRC
    go_wp2
    refine bodyPost_end (results_none rfl _ _ _) rfl ?_
    exact ⟨rfl, va, L, HF.out.1, HF.out.2, rfl⟩
  · clear hb1 HRC
    go_wp2_with fail
    refine (HKP.out _ HB1.out).mono ?_
    rintro e w2 ⟨rfl, hb2⟩
    have HB2 : Hid (Below w.heap.size w w2) := HB1.out.trans (hb2.mono HB1.out.size)
    have HU2 : Hid (BU w2 w1.heap.size ⟨i, nm, v⟩) := HU.out.later hb2
    clear HB1 HU hb2
    generalize w1.heap.size = q at *
    cases kp
    · have HF : Hid (SvO B w0 w2 p n vd vv vt va L V G gd ∧ Ss.of n L = SR.tkS n.a n.k (Ss.of n L) t) := ⟨HS.out.later HB2.out, by rw [HTK.out]; rfl⟩
      clear HKP HID HTA HTK HU2 HB2
      go_wp2
      refine bodyPost_end (results_none rfl _ _ _) rfl ?_
      exact ⟨rfl, va, L, HF.out.1, HF.out.2, rfl⟩
    · have c0 := HU2.out.c0
      go_wp2_with fail
      refine (HID.out _ HB2.out).mono ?_
      rintro e w3 ⟨rfl, hb3⟩
      have HB3 : Hid (Below w.heap.size w w3) := HB2.out.trans (hb3.mono HB2.out.size)
      have HU3 : Hid (BU w3 q ⟨i, nm, v⟩) := HU2.out.later hb3
      clear HB2 HU2 hb3 c0
      cases hi
      · have c0 := HU3.out.c0
        have c1 := HU3.out.c1
        have c2 := HU3.out.c2
        go_wp2_with fail
        refine (HTA.out _ HB3.out).mono ?_
        rintro e w4 ⟨rfl, va', h4⟩
        have HF : Hid (SvO B w0 w4 p n vd vv vt va' { L with U := L.U ++ [⟨i, nm, v⟩] } V G gd ∧ Ss.of n { L with U := L.U ++ [⟨i, nm, v⟩] } = SR.tkS n.a n.k (Ss.of n L) t) := ⟨h4, by rw [HTK.out]; rfl⟩
        clear HKP HID HTA HTK HU3 HB3 h4 c0 c1 c2
        go_wp2
        refine bodyPost_end (results_none rfl _ _ _) rfl ?_
        exact ⟨rfl, va', _, HF.out.1, HF.out.2, rfl⟩
      · have HF : Hid (SvO B w0 w3 p n vd vv vt va L V G gd ∧ Ss.of n L = SR.tkS n.a n.k (Ss.of n L) t) := ⟨HS.out.later HB3.out, by rw [HTK.out]; rfl⟩
        clear HKP HID HTA HTK HU3 HB3
        go_wp2
        refine bodyPost_end (results_none rfl _ _ _) rfl ?_
        exact ⟨rfl, va, L, HF.out.1, HF.out.2, rfl⟩

end Go.Proofs.YthlgohplljcgfaaGreatDoor
