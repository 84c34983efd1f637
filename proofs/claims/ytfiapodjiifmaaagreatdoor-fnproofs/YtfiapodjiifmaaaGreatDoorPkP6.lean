/-
  Texts laid together: Lo, Lg, Pwd, Ps, Wid.
-/
import Derived.Test.YtfiapodjiifmaaaGreatDoorPkP5
import Derived.Lib.QuietBelow
import Derived.BigQuiet
import Derived.Laws.Cover1
import Derived.Test.YtfiapodjiifmaaaGreatDoorPkP4
import Derived.Test.YtfiapodjiifmaaaGreatDoorPkP0
/-
  When leaves are right: the program's and the specification's answers.
-/
namespace Go.Proofs.YtfiapodjiifmaaaGreatDoor
open Go.RowKit Go.BigFrame Go.Sort
set_option linter.unusedVariables false
set_option linter.unusedSimpArgs false

def LoR (L : List Le) (w : World) (i : Value) (wr : World) : Prop := ∃ m : Nat, m ≤ L.length ∧ i = .int .i64 m ∧ Hid (LV.Upto L m) ∧ Below w.heap.size w wr

set_option maxRecDepth 100000 in
set_option maxHeartbeats 1000000 in
theorem LeavesOk_any (v : Value) (ga oa : Nat) (L : List Le) (w : World) (hv : RS 2 lcs w v ga oa L) (hsm : SmallL L) :
    Calls Tryz.prog 20 #[v] w fun e w' => e = .returned (.bool (LV.leavesB L)) ∧ Below w.heap.size w w' := by
  obtain ⟨R, hR⟩ : ∃ R, LV.leavesB L = R := ⟨_, rfl⟩
  have HVV : Hid (RS 2 lcs w v ga oa L) := hv
  obtain ⟨a, cap, rfl, hl, hA, hc⟩ := hv
  obtain ⟨n, hn⟩ : ∃ n, L.length = n := ⟨_, rfl⟩
  have HA : Hid (0 < n → a = some ⟨ga, oa, none⟩) := by rw [← hn]; exact fun h => (hA h).1
  have HSM : Hid (SmallL L) := hsm
  have HR : Hid (LV.leavesB L = R) := hR
  have HST : Hid (LoR L w (.int .i64 0) w) := ⟨0, by omega, rfl, LV.Upto.zero L, Below.refl _ _⟩
  rw [hR]
  rw [hn] at hl ⊢
  clear hc hA hR hsm
  by_cases h24 : 24 < n
  · have q : (24 : Int) < (n : Int) := by omega
    have hF : R = false := by rw [← HR.out, LV.leavesB_no]; exact fun h => by have := h.1; omega
    subst hF
    go_enter Tryz.func20, Tryz.ntmps20
    go_wp2
    go_ret
    exact ⟨rfl, Below.refl _ _⟩
  have q : ¬ (24 : Int) < (n : Int) := by omega
  go_enter Tryz.func20, Tryz.ntmps20
  go_wp2
  go_loopw [10] (fun i wr => LoR L w i wr) (fun i _ => n - (intOf i).toNat)
  case atStart => exact HST.out
  case round =>
    obtain ⟨m, hm, rfl, HU, hbel⟩ := hrel
    rw [hn] at hm
    clear HST
    by_cases hlt : m < n
    · have ea := HA.out (by omega)
      subst ea
      have hrs := HVV.out.later hbel
      obtain ⟨c0, c1⟩ := hrs.leaf m (by omega)
      have i1 : (m : Int) < (n : Int) := by omega
      have i2 : (0 : Int) ≤ (m : Int) := by omega
      have hgs : ga < wr.heap.size := lt_of_cell c0
      obtain ⟨X, hX⟩ : ∃ X, L[m]'(by omega) = X := ⟨_, rfl⟩
      rw [hX] at c0 c1
      have hxs := HSM.out X (by rw [← hX]; exact List.getElem_mem _)
      obtain ⟨b, hb⟩ : ∃ b, LV.leB X = b := ⟨_, rfl⟩
      have HOK : Hid (∀ W, Calls Tryz.prog 49 #[.agg #[.string X.n, .string X.v]] W fun e w' => e = .returned (.bool b) ∧ Below W.heap.size W w') := fun W => hb ▸ leafOk_any X W hxs.1 hxs.2
      have HX : Hid (L[m]'(by omega) = X ∧ LV.leB X = b) := ⟨hX, hb⟩
      have HBW : Hid (Below w.heap.size w (wr.alloc (.cells #[.string X.n, .string X.v] 53))) := hbel.alloc hbel.size _
      have HBS : w.heap.size ≤ (wr.alloc (.cells #[.string X.n, .string X.v] 53)).heap.size := HBW.out.size
      clear hX hb hbel hxs
      have z0 : (wr.alloc (.cells #[.string X.n, .string X.v] 53)).cell? ⟨wr.heap.size, 0, none⟩ = some (.string X.n) := by simp
      have z1 : (wr.alloc (.cells #[.string X.n, .string X.v] 53)).cell? ⟨wr.heap.size, 1, none⟩ = some (.string X.v) := by simp
      cases b
      · have hF : R = false := by rw [← HR.out, LV.leavesB_no]; exact LV.not_ok_le (m := m) (by omega) (by rw [HX.out.1]; exact HX.out.2)
        subst hF
        clear hrs HVV HX HU HA HR HSM
        go_wp2
        have kq0 := cell_regrown (w := (wr.alloc (.cells #[.string X.n, .string X.v] 53))) z0
        have kq1 := cell_regrown (w := (wr.alloc (.cells #[.string X.n, .string X.v] 53))) z1
        have cq0 := fun d os => Calls.regrown_of (w := (wr.alloc (.cells #[.string X.n, .string X.v] 53))) (d := d) (os := os) (HOK.out _)
        refine wp_region_quiet_below (by kernel_rfl) (by kernel_rfl) ?_
        repeat (go_big_quiet_step (first | exact cq0 _ _))
        refine wpQuiet_nil ?_
        rintro _ ⟨⟨dq, osq⟩, rfl⟩
        have hb6 := below_regrown ((wr.alloc (.cells #[.string X.n, .string X.v] 53))) dq osq
        generalize grow (redrawn ((wr.alloc (.cells #[.string X.n, .string X.v] 53))) dq) osq = w6 at *
        clear kq0 kq1 cq0
        have hb7 := HBW.out.trans (hb6.mono HBS)
        go_wp2
        try rw [Exit.noGoto_ret]
        go_ret
        exact ⟨rfl, hb7⟩
      · by_cases h0 : m = 0
        · have HU2 : Hid (LV.Upto L (m + 1)) := HU.out.step (by omega) (by rw [HX.out.1]; exact HX.out.2) (fun h => by omega)
          have q0 : ¬ (0 : Int) < (m : Int) := by omega
          have q0' : decide (0 < m) = false := decide_eq_false (by omega)
          clear hrs HVV HX HU HA HR h0 HSM
          go_wp2
          have kq0 := cell_regrown (w := (wr.alloc (.cells #[.string X.n, .string X.v] 53))) z0
          have kq1 := cell_regrown (w := (wr.alloc (.cells #[.string X.n, .string X.v] 53))) z1
          have cq0 := fun d os => Calls.regrown_of (w := (wr.alloc (.cells #[.string X.n, .string X.v] 53))) (d := d) (os := os) (HOK.out _)
          refine wp_region_quiet_below (by kernel_rfl) (by kernel_rfl) ?_
          repeat (go_big_quiet_step (first | exact cq0 _ _))
          refine wpQuiet_nil ?_
          rintro _ ⟨⟨dq, osq⟩, rfl⟩
          have hb6 := below_regrown ((wr.alloc (.cells #[.string X.n, .string X.v] 53))) dq osq
          generalize grow (redrawn ((wr.alloc (.cells #[.string X.n, .string X.v] 53))) dq) osq = w6 at *
          clear kq0 kq1 cq0
          have hb7 := HBW.out.trans (hb6.mono HBS)
          go_wp2
          go_roundw
          case rel => exact ⟨m + 1, by omega, by go_num, HU2, hb7⟩
          case measure => simp [intOf]; omega
        · obtain ⟨p, rfl⟩ : ∃ p, m = p + 1 := ⟨m - 1, by omega⟩
          obtain ⟨e0, e1⟩ := hrs.leaf p (by omega)
          obtain ⟨Y, hY⟩ : ∃ Y, (L[p]'(by omega)) = Y := ⟨_, rfl⟩
          rw [hY] at e0 e1
          have HY : Hid ((L[p]'(by omega)) = Y) := hY
          clear hY
          have z4 : (wr.alloc (.cells #[.string X.n, .string X.v] 53)).cell? ⟨ga, oa + p * 2, none⟩ = some (.string Y.n) := (cell_kept (Below.heap_alloc _ _ ga hgs)).trans e0
          have z5 : (wr.alloc (.cells #[.string X.n, .string X.v] 53)).cell? ⟨ga, oa + p * 2 + 1, none⟩ = some (.string Y.v) := (cell_kept (Below.heap_alloc _ _ ga hgs)).trans e1
          have q0 : (0 : Int) < ((p + 1 : Nat) : Int) := by omega
          have q0' : decide ((0 : Int) < ((p + 1 : Nat) : Int)) = true := decide_eq_true q0
          have q0'' : decide ((0 : Int) < (p : Int) + 1) = true := decide_eq_true (by omega)
          have j1' : IntKind.i64.wrap (p : Int) = (p : Int) := IntWalk.i64_in _ (by omega)
          have j2 : (0 : Int) ≤ (p : Int) := by omega
          have j3 : (p : Int) < (n : Int) := by omega
          obtain ⟨C, hC⟩ : ∃ C, LV.cmpN Y.n X.n = C := ⟨_, rfl⟩
          have HCM : Hid (∀ W, Calls Tryz.prog 50 #[.agg #[.string Y.n, .string Y.v], .agg #[.string X.n, .string X.v]] W fun e w' => e = .returned (.int .i64 C) ∧ Below W.heap.size W w') := fun W => hC ▸ compareNames_any Y X W
          have hge := LV.cmpN_ge Y.n X.n
          rw [hC] at hge
          clear hC
          cases hlt2 : F.ltN Y.n X.n
          · have hF : R = false := by rw [← HR.out, LV.leavesB_no]; exact LV.not_ok_adj (m := p + 1) (by omega) (by omega) (by rw [HX.out.1]; show F.ltN (L[p]'(by omega)).n X.n = false; rw [HY.out]; exact hlt2)
            subst hF
            have q4 : 0 ≤ C := hge.2 hlt2
            have q5 : decide (0 ≤ C) = true := decide_eq_true q4
            clear hrs HVV HX HU HA HR hge hlt2 HSM
            go_wp2
            have kq0 := cell_regrown (w := (wr.alloc (.cells #[.string X.n, .string X.v] 53))) z0
            have kq1 := cell_regrown (w := (wr.alloc (.cells #[.string X.n, .string X.v] 53))) z1
            have kq2 := cell_regrown (w := (wr.alloc (.cells #[.string X.n, .string X.v] 53))) z4
            have kq3 := cell_regrown (w := (wr.alloc (.cells #[.string X.n, .string X.v] 53))) z5
            have cq0 := fun d os => Calls.regrown_of (w := (wr.alloc (.cells #[.string X.n, .string X.v] 53))) (d := d) (os := os) (HOK.out _)
            have cq1 := fun d os => Calls.regrown_of (w := (wr.alloc (.cells #[.string X.n, .string X.v] 53))) (d := d) (os := os) (HCM.out _)
            refine wp_region_quiet_below (by kernel_rfl) (by kernel_rfl) ?_
            repeat (go_big_quiet_step (first | exact cq0 _ _ | exact cq1 _ _))
            refine wpQuiet_nil ?_
            rintro _ ⟨⟨dq, osq⟩, rfl⟩
            have hb6 := below_regrown ((wr.alloc (.cells #[.string X.n, .string X.v] 53))) dq osq
            generalize grow (redrawn ((wr.alloc (.cells #[.string X.n, .string X.v] 53))) dq) osq = w6 at *
            clear kq0 kq1 kq2 kq3 cq0 cq1
            have hb7 := HBW.out.trans (hb6.mono HBS)
            go_wp2
            try rw [Exit.noGoto_ret]
            go_ret
            exact ⟨rfl, hb7⟩
          · have HU2 : Hid (LV.Upto L (p + 1 + 1)) := HU.out.step (by omega) (by rw [HX.out.1]; exact HX.out.2) (fun h => by rw [HX.out.1]; show F.ltN (L[p]'(by omega)).n X.n = true; rw [HY.out]; exact hlt2)
            have q4 : ¬ 0 ≤ C := fun h => by rw [hge.1 h] at hlt2; cases hlt2
            have q5 : decide (0 ≤ C) = false := decide_eq_false q4
            clear hrs HVV HX HU HA HR hge hlt2 HSM
            go_wp2
            have kq0 := cell_regrown (w := (wr.alloc (.cells #[.string X.n, .string X.v] 53))) z0
            have kq1 := cell_regrown (w := (wr.alloc (.cells #[.string X.n, .string X.v] 53))) z1
            have kq2 := cell_regrown (w := (wr.alloc (.cells #[.string X.n, .string X.v] 53))) z4
            have kq3 := cell_regrown (w := (wr.alloc (.cells #[.string X.n, .string X.v] 53))) z5
            have cq0 := fun d os => Calls.regrown_of (w := (wr.alloc (.cells #[.string X.n, .string X.v] 53))) (d := d) (os := os) (HOK.out _)
            have cq1 := fun d os => Calls.regrown_of (w := (wr.alloc (.cells #[.string X.n, .string X.v] 53))) (d := d) (os := os) (HCM.out _)
            refine wp_region_quiet_below (by kernel_rfl) (by kernel_rfl) ?_
            repeat (go_big_quiet_step (first | exact cq0 _ _ | exact cq1 _ _))
            refine wpQuiet_nil ?_
            rintro _ ⟨⟨dq, osq⟩, rfl⟩
            have hb6 := below_regrown ((wr.alloc (.cells #[.string X.n, .string X.v] 53))) dq osq
            generalize grow (redrawn ((wr.alloc (.cells #[.string X.n, .string X.v] 53))) dq) osq = w6 at *
            clear kq0 kq1 kq2 kq3 cq0 cq1
            have hb7 := HBW.out.trans (hb6.mono HBS)
            go_wp2
            go_roundw
            case rel => exact ⟨p + 1 + 1, by omega, by go_num, HU2, hb7⟩
            case measure => simp [intOf]; omega
    · have hme : m = n := by omega
      have hF : R = true := by rw [← HR.out, LV.leavesB_iff]; exact LV.Upto.ok (by rw [hn, ← hme]; exact HU.out) (by omega)
      subst hF
      subst hme
      clear HU HR HVV HA HSM
      go_wp2
      go_ret
      exact ⟨rfl, hbel⟩

set_option maxRecDepth 100000 in
set_option maxHeartbeats 1000000 in
theorem sLeavesOk_any (v : Value) (ga oa : Nat) (L : List Le) (w : World) (hv : RS 2 lcs w v ga oa L) (hsm : SmallL L) :
    Calls Tryz.prog 65 #[v] w fun e w' => e = .returned (.bool (LV.leavesB L)) ∧ Below w.heap.size w w' := by
  obtain ⟨R, hR⟩ : ∃ R, LV.leavesB L = R := ⟨_, rfl⟩
  have HVV : Hid (RS 2 lcs w v ga oa L) := hv
  obtain ⟨a, cap, rfl, hl, hA, hc⟩ := hv
  obtain ⟨n, hn⟩ : ∃ n, L.length = n := ⟨_, rfl⟩
  have HA : Hid (0 < n → a = some ⟨ga, oa, none⟩) := by rw [← hn]; exact fun h => (hA h).1
  have HSM : Hid (SmallL L) := hsm
  have HR : Hid (LV.leavesB L = R) := hR
  have HST : Hid (LoR L w (.int .i64 0) w) := ⟨0, by omega, rfl, LV.Upto.zero L, Below.refl _ _⟩
  rw [hR]
  rw [hn] at hl ⊢
  clear hc hA hR hsm
  go_enter Tryz.func65, Tryz.ntmps65
  go_wp2
  go_loopw [3] (fun i wr => LoR L w i wr) (fun i _ => n - (intOf i).toNat)
  case atStart => exact HST.out
  case round =>
    obtain ⟨m, hm, rfl, HU, hbel⟩ := hrel
    rw [hn] at hm
    clear HST
    by_cases hlt : m < n
    · have ea := HA.out (by omega)
      subst ea
      have hrs := HVV.out.later hbel
      obtain ⟨c0, c1⟩ := hrs.leaf m (by omega)
      have i1 : (m : Int) < (n : Int) := by omega
      have i2 : (0 : Int) ≤ (m : Int) := by omega
      obtain ⟨X, hX⟩ : ∃ X, L[m]'(by omega) = X := ⟨_, rfl⟩
      rw [hX] at c0 c1
      have hxs := HSM.out X (by rw [← hX]; exact List.getElem_mem _)
      obtain ⟨b, hb⟩ : ∃ b, okB nameB X.n = b := ⟨_, rfl⟩
      obtain ⟨b2, hb2⟩ : ∃ b2, okB valB X.v = b2 := ⟨_, rfl⟩
      have HNM : Hid (∀ W, Calls Tryz.prog 87 #[.string X.n] W fun e w' => e = .returned (.bool b) ∧ Below W.heap.size W w') := fun W => hb ▸ (sNameOk_any X.n W hxs.1).mono fun e w' ⟨he, hw⟩ => ⟨he, hw ▸ Below.refl _ _⟩
      have HVL : Hid (∀ W, Calls Tryz.prog 88 #[.string X.v] W fun e w' => e = .returned (.bool b2) ∧ Below W.heap.size W w') := fun W => hb2 ▸ (sValueOk_any X.v W hxs.2).mono fun e w' ⟨he, hw⟩ => ⟨he, hw ▸ Below.refl _ _⟩
      have HX : Hid (L[m]'(by omega) = X ∧ LV.leB X = (b && b2)) := ⟨hX, by rw [← hb, ← hb2]; rfl⟩
      clear hX hb hb2 hxs
      have HBW : Hid (Below w.heap.size w wr) := hbel
      have HBS : w.heap.size ≤ wr.heap.size := hbel.size
      clear hbel
      cases hfl : LV.leB X
      · have hF : R = false := by rw [← HR.out, LV.leavesB_no]; exact LV.not_ok_le (m := m) (by omega) (by rw [HX.out.1]; exact hfl)
        subst hF
        rw [HX.out.2] at hfl
        clear hrs HVV HX HU HA HR HSM
        cases b
        · clear hfl
          go_wp2
          have kq0 := cell_regrown (w := wr) c0
          have kq1 := cell_regrown (w := wr) c1
          have cq0 := fun d os => Calls.regrown_of (w := wr) (d := d) (os := os) (HNM.out _)
          have cq1 := fun d os => Calls.regrown_of (w := wr) (d := d) (os := os) (HVL.out _)
          refine wp_region_quiet_below (by kernel_rfl) (by kernel_rfl) ?_
          repeat (go_big_quiet_step (first | exact cq0 _ _ | exact cq1 _ _))
          refine wpQuiet_nil ?_
          rintro _ ⟨⟨dq, osq⟩, rfl⟩
          have hb6 := below_regrown (wr) dq osq
          generalize grow (redrawn (wr) dq) osq = w6 at *
          clear kq0 kq1 cq0 cq1
          have hb7 := HBW.out.trans (hb6.mono HBS)
          go_wp2
          try rw [Exit.noGoto_ret]
          go_ret
          exact ⟨rfl, hb7⟩
        · obtain rfl : b2 = false := by simpa using hfl
          clear hfl
          go_wp2
          have kq0 := cell_regrown (w := wr) c0
          have kq1 := cell_regrown (w := wr) c1
          have cq0 := fun d os => Calls.regrown_of (w := wr) (d := d) (os := os) (HNM.out _)
          have cq1 := fun d os => Calls.regrown_of (w := wr) (d := d) (os := os) (HVL.out _)
          refine wp_region_quiet_below (by kernel_rfl) (by kernel_rfl) ?_
          repeat (go_big_quiet_step (first | exact cq0 _ _ | exact cq1 _ _))
          refine wpQuiet_nil ?_
          rintro _ ⟨⟨dq, osq⟩, rfl⟩
          have hb6 := below_regrown (wr) dq osq
          generalize grow (redrawn (wr) dq) osq = w6 at *
          clear kq0 kq1 cq0 cq1
          have hb7 := HBW.out.trans (hb6.mono HBS)
          go_wp2
          try rw [Exit.noGoto_ret]
          go_ret
          exact ⟨rfl, hb7⟩
      · have hfl2 := hfl
        rw [HX.out.2, Bool.and_eq_true] at hfl2
        obtain ⟨rfl, rfl⟩ := hfl2
        by_cases h0 : m = 0
        · have HU2 : Hid (LV.Upto L (m + 1)) := HU.out.step (by omega) (by rw [HX.out.1]; exact hfl) (fun h => by omega)
          have q0 : ¬ (0 : Int) < (m : Int) := by omega
          have q0' : decide (0 < m) = false := decide_eq_false (by omega)
          clear hrs HVV HX HU HA HR h0 HSM hfl
          go_wp2
          have kq0 := cell_regrown (w := wr) c0
          have kq1 := cell_regrown (w := wr) c1
          have cq0 := fun d os => Calls.regrown_of (w := wr) (d := d) (os := os) (HNM.out _)
          have cq1 := fun d os => Calls.regrown_of (w := wr) (d := d) (os := os) (HVL.out _)
          refine wp_region_quiet_below (by kernel_rfl) (by kernel_rfl) ?_
          repeat (go_big_quiet_step (first | exact cq0 _ _ | exact cq1 _ _))
          refine wpQuiet_nil ?_
          rintro _ ⟨⟨dq, osq⟩, rfl⟩
          have hb6 := below_regrown (wr) dq osq
          generalize grow (redrawn (wr) dq) osq = w6 at *
          clear kq0 kq1 cq0 cq1
          have hb7 := HBW.out.trans (hb6.mono HBS)
          go_wp2
          go_roundw
          case rel => exact ⟨m + 1, by omega, by go_num, HU2, hb7⟩
          case measure => simp [intOf]; omega
        · obtain ⟨p, rfl⟩ : ∃ p, m = p + 1 := ⟨m - 1, by omega⟩
          obtain ⟨e0, _⟩ := hrs.leaf p (by omega)
          obtain ⟨Y, hY⟩ : ∃ Y, (L[p]'(by omega)).n = Y := ⟨_, rfl⟩
          rw [hY] at e0
          have HY : Hid ((L[p]'(by omega)).n = Y) := hY
          clear hY
          have q0 : (0 : Int) < ((p + 1 : Nat) : Int) := by omega
          have q0' : decide ((0 : Int) < ((p + 1 : Nat) : Int)) = true := decide_eq_true q0
          have q0'' : decide ((0 : Int) < (p : Int) + 1) = true := decide_eq_true (by omega)
          have j1' : IntKind.i64.wrap (p : Int) = (p : Int) := IntWalk.i64_in _ (by omega)
          have j2 : (0 : Int) ≤ (p : Int) := by omega
          have j3 : (p : Int) < (n : Int) := by omega
          cases hlt2 : F.ltN Y X.n
          · have hF : R = false := by rw [← HR.out, LV.leavesB_no]; exact LV.not_ok_adj (m := p + 1) (by omega) (by omega) (by rw [HX.out.1]; show F.ltN (L[p]'(by omega)).n X.n = false; rw [HY.out]; exact hlt2)
            subst hF
            have q4 : Op.bytesLess Y.toList X.n.toList = false := hlt2
            clear hrs HVV HX HU HA HR HSM hfl
            go_wp2
            have kq0 := cell_regrown (w := wr) c0
            have kq1 := cell_regrown (w := wr) c1
            have kq2 := cell_regrown (w := wr) e0
            have cq0 := fun d os => Calls.regrown_of (w := wr) (d := d) (os := os) (HNM.out _)
            have cq1 := fun d os => Calls.regrown_of (w := wr) (d := d) (os := os) (HVL.out _)
            refine wp_region_quiet_below (by kernel_rfl) (by kernel_rfl) ?_
            repeat (go_big_quiet_step (first | exact cq0 _ _ | exact cq1 _ _))
            refine wpQuiet_nil ?_
            rintro _ ⟨⟨dq, osq⟩, rfl⟩
            have hb6 := below_regrown (wr) dq osq
            generalize grow (redrawn (wr) dq) osq = w6 at *
            clear kq0 kq1 kq2 cq0 cq1
            have hb7 := HBW.out.trans (hb6.mono HBS)
            go_wp2
            try rw [Exit.noGoto_ret]
            go_ret
            exact ⟨rfl, hb7⟩
          · have HU2 : Hid (LV.Upto L (p + 1 + 1)) := HU.out.step (by omega) (by rw [HX.out.1]; exact hfl) (fun h => by rw [HX.out.1]; show F.ltN (L[p]'(by omega)).n X.n = true; rw [HY.out]; exact hlt2)
            have q4 : Op.bytesLess Y.toList X.n.toList = true := hlt2
            clear hrs HVV HX HU HA HR HSM hfl
            go_wp2
            have kq0 := cell_regrown (w := wr) c0
            have kq1 := cell_regrown (w := wr) c1
            have kq2 := cell_regrown (w := wr) e0
            have cq0 := fun d os => Calls.regrown_of (w := wr) (d := d) (os := os) (HNM.out _)
            have cq1 := fun d os => Calls.regrown_of (w := wr) (d := d) (os := os) (HVL.out _)
            refine wp_region_quiet_below (by kernel_rfl) (by kernel_rfl) ?_
            repeat (go_big_quiet_step (first | exact cq0 _ _ | exact cq1 _ _))
            refine wpQuiet_nil ?_
            rintro _ ⟨⟨dq, osq⟩, rfl⟩
            have hb6 := below_regrown (wr) dq osq
            generalize grow (redrawn (wr) dq) osq = w6 at *
            clear kq0 kq1 kq2 cq0 cq1
            have hb7 := HBW.out.trans (hb6.mono HBS)
            go_wp2
            go_roundw
            case rel => exact ⟨p + 1 + 1, by omega, by go_num, HU2, hb7⟩
            case measure => simp [intOf]; omega
    · have hme : m = n := by omega
      by_cases h24 : n ≤ 24
      · have hF : R = true := by rw [← HR.out, LV.leavesB_iff]; exact LV.Upto.ok (by rw [hn, ← hme]; exact HU.out) (by omega)
        subst hF
        subst hme
        have q : (m : Int) ≤ 24 := by omega
        clear HU HR HVV HA HSM
        go_wp2
        go_ret
        exact ⟨rfl, hbel⟩
      · have hF : R = false := by rw [← HR.out, LV.leavesB_no]; exact fun h => by have := h.1; omega
        subst hF
        subst hme
        have q : ¬ (m : Int) ≤ 24 := by omega
        clear HU HR HVV HA HSM
        go_wp2
        go_ret
        exact ⟨rfl, hbel⟩

end Go.Proofs.YtfiapodjiifmaaaGreatDoor
/-
  A leaf looked for, a leaf and a row of leaves copied: the program's and the specification's answers.
-/
namespace Go.Proofs.YtfiapodjiifmaaaGreatDoor
open Go.RowKit Go.BigFrame Go.Sort
set_option linter.unusedVariables false
set_option linter.unusedSimpArgs false

namespace LV
/-- none of the first m has this name -/
def NotIn (L : List Le) (x : ByteArray) (m : Nat) : Prop := ∀ j (h : j < L.length), j < m → L[j].n ≠ x
theorem NotIn.zero (L : List Le) (x : ByteArray) : NotIn L x 0 := fun j _ h => by omega
theorem NotIn.step {L : List Le} {x : ByteArray} {m : Nat} (h : NotIn L x m) (hm : m < L.length) (hne : L[m].n ≠ x) : NotIn L x (m + 1) := by
  intro j hj hlt
  rcases Nat.lt_or_ge j m with h1 | h1
  · exact h j hj h1
  · have : j = m := by omega
    subst this
    exact hne
theorem NotIn.here {L : List Le} {x : ByteArray} {m : Nat} (h : NotIn L x m) (hm : m < L.length) (he : L[m].n = x) : find L x = some L[m] := by
  have h1 : L = L.take m ++ L[m] :: L.drop (m + 1) := by simp
  unfold find
  rw [List.find?_eq_some_iff_append]
  refine ⟨by simpa using he, L.take m, L.drop (m + 1), by simp, fun a ha => ?_⟩
  obtain ⟨j, hj, rfl⟩ := List.getElem_of_mem ha
  rw [List.length_take] at hj
  rw [List.getElem_take]
  simpa using h j (by omega) (by omega)
theorem NotIn.none {L : List Le} {x : ByteArray} (h : NotIn L x L.length) : find L x = none := by
  unfold find
  rw [List.find?_eq_none]
  intro a ha
  obtain ⟨j, hj, rfl⟩ := List.getElem_of_mem ha
  simpa using h j hj hj
theorem get_some {L : List Le} {x : ByteArray} {f : Le} (h : find L x = some f) : getV L x = f.v ∧ getB L x = true := by
  unfold getV getB
  rw [h]
  exact ⟨rfl, rfl⟩
theorem get_none {L : List Le} {x : ByteArray} (h : find L x = none) : getV L x = ⟨#[]⟩ ∧ getB L x = false := by
  unfold getV getB
  rw [h]
  exact ⟨rfl, rfl⟩
theorem bytes_ne {a b : ByteArray} (h : a ≠ b) : (a.toList == b.toList) = false := by
  rw [beq_eq_false_iff_ne]
  exact fun e => h (F.toList_inj e)
end LV

def LgR (L : List Le) (x : ByteArray) (w : World) (i : Value) (wr : World) : Prop := ∃ m : Nat, m ≤ L.length ∧ i = .int .i64 m ∧ Hid (LV.NotIn L x m) ∧ Below w.heap.size w wr

set_option maxRecDepth 100000 in
set_option maxHeartbeats 1000000 in
theorem LeafGet_any (v : Value) (ga oa : Nat) (L : List Le) (x : ByteArray) (w : World) (hv : RS 2 lcs w v ga oa L) (hsm : SmallL L) :
    Calls Tryz.prog 27 #[v, .string x] w fun e w' => e = .returned (.tuple #[.string (LV.getV L x), .bool (LV.getB L x)]) ∧ Below w.heap.size w w' := by
  obtain ⟨R, hR⟩ : ∃ R, LV.getV L x = R := ⟨_, rfl⟩
  obtain ⟨b, hb⟩ : ∃ b, LV.getB L x = b := ⟨_, rfl⟩
  have HVV : Hid (RS 2 lcs w v ga oa L) := hv
  obtain ⟨a, cap, rfl, hl, hA, hc⟩ := hv
  obtain ⟨n, hn⟩ : ∃ n, L.length = n := ⟨_, rfl⟩
  have HA : Hid (0 < n → a = some ⟨ga, oa, none⟩) := by rw [← hn]; exact fun h => (hA h).1
  have HSM : Hid (SmallL L) := hsm
  have HR : Hid (LV.getV L x = R ∧ LV.getB L x = b) := ⟨hR, hb⟩
  have HST : Hid (LgR L x w (.int .i64 0) w) := ⟨0, by omega, rfl, LV.NotIn.zero L x, Below.refl _ _⟩
  rw [hR, hb]
  rw [hn] at hl ⊢
  clear hc hA hR hb hsm
  go_enter Tryz.func27, Tryz.ntmps27
  go_wp2
  go_loopw [10] (fun i wr => LgR L x w i wr) (fun i _ => n - (intOf i).toNat)
  case atStart => exact HST.out
  case round =>
    obtain ⟨m, hm, rfl, HU, hbel⟩ := hrel
    rw [hn] at hm
    clear HST
    by_cases hlt : m < n
    · have ea := HA.out (by omega)
      subst ea
      have hrs := HVV.out.later hbel
      obtain ⟨c0, c1⟩ := hrs.leaf m (by omega)
      have i1 : (m : Int) < (n : Int) := by omega
      have i2 : (0 : Int) ≤ (m : Int) := by omega
      obtain ⟨X, hX⟩ : ∃ X, L[m]'(by omega) = X := ⟨_, rfl⟩
      rw [hX] at c0 c1
      have hxs := HSM.out X (by rw [← hX]; exact List.getElem_mem _)
      have hbw : Below w.heap.size w (wr.alloc (.cells #[.string X.n, .string X.v] 53)) := hbel.alloc hbel.size _
      clear HSM HVV hrs HA
      by_cases he : X.n = x
      · have hF := LV.get_some (HU.out.here (by omega) (by rw [hX]; exact he))
        rw [hX, HR.out.1, HR.out.2] at hF
        obtain ⟨rfl, rfl⟩ := hF
        have q : (X.n.toList == x.toList) = true := by rw [he]; simp
        clear HU HR hX he
        go_wp2_with fail
        refine (Clone_any X.v _ hxs.2).mono ?_
        rintro e w1 ⟨rfl, hb1⟩
        have hb2 := hbw.trans (hb1.mono hbw.size)
        go_wp2
        try rw [Exit.noGoto_ret]
        go_ret2
        exact ⟨rfl, hb2⟩
      · have HU2 : Hid (LV.NotIn L x (m + 1)) := HU.out.step (by omega) (by rw [hX]; exact he)
        have q : (X.n.toList == x.toList) = false := LV.bytes_ne he
        clear HU HR hX he
        go_wp2
        go_roundw
        case rel => exact ⟨m + 1, by omega, by go_num, HU2, hbw⟩
        case measure => simp [intOf]; omega
    · have hme : m = n := by omega
      have hF := LV.get_none (L := L) (x := x) (LV.NotIn.none (by rw [hn, ← hme]; exact HU.out))
      rw [HR.out.1, HR.out.2] at hF
      obtain ⟨rfl, rfl⟩ := hF
      subst hme
      clear HU HR HVV HA HSM
      go_wp2
      go_ret2
      exact ⟨rfl, hbel⟩

set_option maxRecDepth 100000 in
set_option maxHeartbeats 1000000 in
theorem sLeafGet_any (v : Value) (ga oa : Nat) (L : List Le) (x : ByteArray) (w : World) (hv : RS 2 lcs w v ga oa L) :
    Calls Tryz.prog 9 #[v, .string x] w fun e w' => e = .returned (.tuple #[.string (LV.getV L x), .bool (LV.getB L x)]) ∧ Below w.heap.size w w' := by
  obtain ⟨R, hR⟩ : ∃ R, LV.getV L x = R := ⟨_, rfl⟩
  obtain ⟨b, hb⟩ : ∃ b, LV.getB L x = b := ⟨_, rfl⟩
  have HVV : Hid (RS 2 lcs w v ga oa L) := hv
  obtain ⟨a, cap, rfl, hl, hA, hc⟩ := hv
  obtain ⟨n, hn⟩ : ∃ n, L.length = n := ⟨_, rfl⟩
  have HA : Hid (0 < n → a = some ⟨ga, oa, none⟩) := by rw [← hn]; exact fun h => (hA h).1
  have HR : Hid (LV.getV L x = R ∧ LV.getB L x = b) := ⟨hR, hb⟩
  have HST : Hid (LgR L x w (.int .i64 0) w) := ⟨0, by omega, rfl, LV.NotIn.zero L x, Below.refl _ _⟩
  rw [hR, hb]
  rw [hn] at hl ⊢
  clear hc hA hR hb
  go_enter Tryz.func9, Tryz.ntmps9
  go_wp2
  go_loopw [6] (fun i wr => LgR L x w i wr) (fun i _ => n - (intOf i).toNat)
  case atStart => exact HST.out
  case round =>
    obtain ⟨m, hm, rfl, HU, hbel⟩ := hrel
    rw [hn] at hm
    clear HST
    by_cases hlt : m < n
    · have ea := HA.out (by omega)
      subst ea
      have hrs := HVV.out.later hbel
      obtain ⟨c0, c1⟩ := hrs.leaf m (by omega)
      have i1 : (m : Int) < (n : Int) := by omega
      have i2 : (0 : Int) ≤ (m : Int) := by omega
      obtain ⟨X, hX⟩ : ∃ X, L[m]'(by omega) = X := ⟨_, rfl⟩
      rw [hX] at c0 c1
      clear HVV hrs HA
      by_cases he : X.n = x
      · have hF := LV.get_some (HU.out.here (by omega) (by rw [hX]; exact he))
        rw [hX, HR.out.1, HR.out.2] at hF
        obtain ⟨rfl, rfl⟩ := hF
        have q : (X.n.toList == x.toList) = true := by rw [he]; simp
        clear HU HR hX he
        go_wp2
        try rw [Exit.noGoto_ret]
        go_ret2
        exact ⟨rfl, hbel⟩
      · have HU2 : Hid (LV.NotIn L x (m + 1)) := HU.out.step (by omega) (by rw [hX]; exact he)
        have q : (X.n.toList == x.toList) = false := LV.bytes_ne he
        clear HU HR hX he
        go_wp2
        go_roundw
        case rel => exact ⟨m + 1, by omega, by go_num, HU2, hbel⟩
        case measure => simp [intOf]; omega
    · have hme : m = n := by omega
      have hF := LV.get_none (L := L) (x := x) (LV.NotIn.none (by rw [hn, ← hme]; exact HU.out))
      rw [HR.out.1, HR.out.2] at hF
      obtain ⟨rfl, rfl⟩ := hF
      subst hme
      clear HU HR HVV HA
      go_wp2
      go_ret2
      exact ⟨rfl, hbel⟩

end Go.Proofs.YtfiapodjiifmaaaGreatDoor
/-
  Proofs: how wide their sides are: the specification's answer.
-/
namespace Go.Proofs.YtfiapodjiifmaaaGreatDoor
open Go.RowKit Go.BigFrame Go.Sort
set_option linter.unusedVariables false
set_option linter.unusedSimpArgs false

/-- are all of this width? -/
def wideB (S : List ByteArray) (x : Int) : Bool := S.all (fun s => decide ((s.size : Int) = x)) && decide (1 ≤ x ∧ x ≤ 32)
theorem wideB_bad {S : List ByteArray} {x : Int} {m : Nat} (hm : m < S.length) (h : ¬ ((S[m].size : Int) = x)) : wideB S x = false := by
  unfold wideB
  rw [Bool.and_eq_false_iff]
  left
  rw [List.all_eq_false]
  exact ⟨S[m], List.getElem_mem _, by simpa using h⟩
theorem wideB_good {S : List ByteArray} {x : Int} (h : ∀ j (hj : j < S.length), (S[j].size : Int) = x) : wideB S x = decide (1 ≤ x ∧ x ≤ 32) := by
  unfold wideB
  have : S.all (fun s => decide ((s.size : Int) = x)) = true := by
    rw [List.all_eq_true]
    intro s hs
    obtain ⟨j, hj, rfl⟩ := List.getElem_of_mem hs
    simpa using h j hj
  rw [this, Bool.true_and]

def PwR (w : World) (S : List ByteArray) (x : Int) (i : Value) (wr : World) : Prop := ∃ m : Nat, m ≤ S.length ∧ i = .int .i64 m ∧ wr = w ∧ Hid (∀ j (h : j < S.length), j < m → (S[j].size : Int) = x)

theorem run_rangeP {w : World} {p : Nat} {v1 v2 : Value} (t : TypeId) : (w.alloc (.cells #[v1, v2] t)).cell? ⟨w.heap.size, 0, none⟩ = some v1 ∧ (w.alloc (.cells #[v1, v2] t)).cell? ⟨w.heap.size, 1, none⟩ = some v2 := by
  constructor
  · rw [World.cell?_alloc_at _ _ _ _ rfl]; rfl
  · rw [World.cell?_alloc_at _ _ _ _ rfl]; rfl

end Go.Proofs.YtfiapodjiifmaaaGreatDoor
/-
  What a proof says: the program's and the specification's answers.
-/
namespace Go.Proofs.YtfiapodjiifmaaaGreatDoor
open Go.RowKit Go.BigFrame Go.Sort
set_option linter.unusedVariables false
set_option linter.unusedSimpArgs false

set_option maxRecDepth 100000 in
set_option maxHeartbeats 1000000 in
theorem ProofSays_any (nm : ByteArray) (vb vs : Value) (gb ob : Nat) (B : List Le) (w : World) (hb : RS 2 lcs w vb gb ob B) (hsm : SmallL B) :
    Calls Tryz.prog 8 #[.string nm, .agg #[vb, vs]] w fun e w' => e = .returned (.tuple #[.string (LV.getV B nm), .bool (LV.getB B nm)]) ∧ Below w.heap.size w w' := by
  obtain ⟨p0, p1⟩ := run_rangeP (w := w) (p := 0) (v1 := vb) (v2 := vs) 29
  have hba : Below w.heap.size w (w.alloc (.cells #[vb, vs] 29)) := (Below.refl _ _).alloc (Nat.le_refl _) _
  have h1 := LeafGet_any vb gb ob B nm _ (hb.later hba) hsm
  clear hb hsm
  go_enter Tryz.func8, Tryz.ntmps8
  go_wp2_with fail
  refine h1.mono ?_
  rintro e w1 ⟨rfl, hb1⟩
  go_wp2
  go_ret2
  exact ⟨rfl, hba.trans (hb1.mono hba.size)⟩
end Go.Proofs.YtfiapodjiifmaaaGreatDoor
/-
  Is a width right? The program's answer.
-/
namespace Go.Proofs.YtfiapodjiifmaaaGreatDoor
open Go.RowKit Go.BigFrame
set_option linter.unusedVariables false

theorem widthOk_any (x : Int) (w : World) : Calls Tryz.prog 23 #[.int .i64 x] w fun e w' => e = .returned (.bool (decide (1 ≤ x ∧ x ≤ 32))) ∧ w' = w := by
  by_cases h1 : 1 ≤ x
  · by_cases h2 : x ≤ 32
    · go_enter Tryz.func23, Tryz.ntmps23
      go_wp2
      go_ret
      exact ⟨by simp [h1, h2], rfl⟩
    · go_enter Tryz.func23, Tryz.ntmps23
      go_wp2
      go_ret
      exact ⟨by simp [h2], rfl⟩
  · go_enter Tryz.func23, Tryz.ntmps23
    go_wp2
    go_ret
    exact ⟨by simp; omega, rfl⟩

end Go.Proofs.YtfiapodjiifmaaaGreatDoor
