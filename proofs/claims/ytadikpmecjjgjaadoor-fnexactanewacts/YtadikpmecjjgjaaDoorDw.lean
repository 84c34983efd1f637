/-
  When a disk is right: the program's and the specification's answers.
-/
import Derived.Test.YtadikpmecjjgjaaDoorFs
import Derived.Test.YtadikpmecjjgjaaDoorVar
import Derived.Lib.QuietBelow
import Derived.BigQuiet
import Derived.Laws.Cover1
namespace Go.Proofs.YtadikpmecjjgjaaDoor
open Go.RowKit Go.BigFrame Go.Sort
set_option linter.unusedVariables false
set_option linter.unusedSimpArgs false

theorem fileNameOk_any (s : ByteArray) (w : World) : Calls Tryd.prog 59 #[.string s] w fun e w' => e = .returned (.bool (F.nmB s)) ∧ w' = w := by
  unfold F.nmB
  by_cases h1 : 1 ≤ s.size
  · by_cases h2 : s.size ≤ 8
    · have q1 : (1 : Int) ≤ (s.size : Int) := by omega
      have q2 : (s.size : Int) ≤ 8 := by omega
      rw [decide_eq_true ⟨h1, h2⟩]
      go_enter Tryd.func59, Tryd.ntmps59
      go_wp2
      go_ret
      exact ⟨rfl, rfl⟩
    · have q1 : (1 : Int) ≤ (s.size : Int) := by omega
      have q2 : ¬ (s.size : Int) ≤ 8 := by omega
      rw [decide_eq_false (fun h => h2 h.2)]
      go_enter Tryd.func59, Tryd.ntmps59
      go_wp2
      go_ret
      exact ⟨rfl, rfl⟩
  · have q1 : ¬ (1 : Int) ≤ (s.size : Int) := by omega
    rw [decide_eq_false (fun h => h1 h.1)]
    go_enter Tryd.func59, Tryd.ntmps59
    go_wp2
    go_ret
    exact ⟨rfl, rfl⟩

theorem l06Name_any (s : ByteArray) (w : World) : Calls Tryd.prog 49 #[.string s] w fun e w' => e = .returned (.bool (F.nmB s)) ∧ w' = w := by
  go_enter Tryd.func49, Tryd.ntmps49
  go_wp2_with fail
  refine (l01In_any _ _ _ _).mono ?_
  rintro e w1 ⟨rfl, rfl⟩
  have e1 : decide ((1 : Int) ≤ (s.size : Int) ∧ (s.size : Int) ≤ 8) = F.nmB s := by unfold F.nmB; congr 1; exact propext (by omega)
  rw [e1]
  go_wp2
  go_ret
  exact ⟨rfl, rfl⟩

set_option maxRecDepth 100000 in
set_option maxHeartbeats 400000 in
theorem fileOk_any (f : Fl) (w : World) : Calls Tryd.prog 66 #[.agg #[.string f.n, .string f.t, .int .i64 f.k]] w fun e w' => e = .returned (.bool (F.flB f)) ∧ Below w.heap.size w w' := by
  obtain ⟨x, t, k⟩ := f
  have HB : Hid (Below w.heap.size w (w.alloc (.cells #[.string x, .string t, .int .i64 k] 85))) := (Below.refl _ _).alloc (Nat.le_refl _) _
  obtain ⟨b, hb⟩ : ∃ b, F.nmB x = b := ⟨_, rfl⟩
  have HN : Hid (∀ W, Calls Tryd.prog 59 #[.string x] W fun e w' => e = .returned (.bool b) ∧ w' = W) := fun W => hb ▸ fileNameOk_any x W
  have HF : Hid (F.flB ⟨x, t, k⟩ = (b && decide (t.size ≤ 20000 ∧ 0 ≤ k ∧ k ≤ t.size))) := by rw [← hb]; rfl
  rw [HF.out]
  clear HF hb
  go_enter Tryd.func66, Tryd.ntmps66
  go_wp2_with fail
  refine (HN.out _).mono ?_
  rintro e w1 ⟨rfl, rfl⟩
  clear HN
  cases b
  · go_wp2
    go_ret
    exact ⟨rfl, HB.out⟩
  · by_cases h1 : t.size ≤ 20000
    · have q1 : (t.size : Int) ≤ 20000 := by omega
      by_cases h2 : 0 ≤ k
      · by_cases h3 : k ≤ t.size
        · go_wp2
          go_ret
          exact ⟨by simp [h1, h2, h3], HB.out⟩
        · go_wp2
          go_ret
          exact ⟨by rw [decide_eq_false (p := k ≤ (t.size : Int)) (by omega), decide_eq_false (p := t.size ≤ 20000 ∧ 0 ≤ k ∧ k ≤ (t.size : Int)) (by omega)]; rfl, HB.out⟩
      · go_wp2
        go_ret
        exact ⟨by rw [decide_eq_false (p := (0 : Int) ≤ k) (by omega)]; simp, HB.out⟩
    · have q1 : ¬ (t.size : Int) ≤ 20000 := by omega
      go_wp2
      go_ret
      exact ⟨by simp [h1], HB.out⟩

def DkR (L : List Fl) (B : Nat) (w : World) (i : Value) (wr : World) : Prop := ∃ m : Nat, m ≤ L.length ∧ i = .int .i64 m ∧ Hid (F.Upto L m) ∧ Below B w wr

set_option maxRecDepth 100000 in
set_option maxHeartbeats 1000000 in
theorem DiskOk_any (v : Value) (ga oa : Nat) (L : List Fl) (w : World) (hv : RS 3 fcs w v ga oa L) :
    Calls Tryd.prog 53 #[.agg #[v]] w fun e w' => e = .returned (.bool (F.diskB L)) ∧ Below w.heap.size w w' := by
  obtain ⟨R, hR⟩ : ∃ R, F.diskB L = R := ⟨_, rfl⟩
  have HV := hv.alloc (.cells #[v] 36)
  obtain ⟨a, cap, rfl, hl, hA, hc⟩ := hv
  obtain ⟨n, hn⟩ : ∃ n, L.length = n := ⟨_, rfl⟩
  have HB : Hid (Below w.heap.size w (w.alloc (.cells #[.slice a n cap] 36))) := (Below.refl _ _).alloc (Nat.le_refl _) _
  rw [hn] at hl hA HV ⊢
  rw [hR]
  have HVV : Hid (RS 3 fcs (w.alloc (.cells #[.slice a n cap] 36)) (.slice a n cap) ga oa L) := HV
  have HA : Hid (0 < n → a = some ⟨ga, oa, none⟩) := fun h => (hA h).1
  have HR : Hid (F.diskB L = R) := hR
  have HST : Hid (DkR L (w.heap.size + 1) (w.alloc (.cells #[.slice a n cap] 36)) (.int .i64 0) (w.alloc (.cells #[.slice a n cap] 36))) := ⟨0, by omega, rfl, F.Upto.zero L, Below.refl _ _⟩
  clear hc hA hR HV
  by_cases h30 : 30 < n
  · have q : (30 : Int) < (n : Int) := by omega
    have hF : R = false := by rw [← HR.out, F.diskB_no]; exact fun h => by have := h.1; omega
    subst hF
    go_enter Tryd.func53, Tryd.ntmps53
    go_wp2
    go_ret
    exact ⟨rfl, HB.out⟩
  have q : ¬ (30 : Int) < (n : Int) := by omega
  go_enter Tryd.func53, Tryd.ntmps53
  go_wp2
  go_loopw [12] (fun i wr => DkR L (w.heap.size + 1) (w.alloc (.cells #[.slice a n cap] 36)) i wr) (fun i _ => n - (intOf i).toNat)
  case atStart => exact HST.out
  case round =>
    obtain ⟨m, hm, rfl, HU, hbel⟩ := hrel
    rw [hn] at hm
    clear HST
    by_cases hlt : m < n
    · have ea := HA.out (by omega)
      subst ea
      have hrs := HVV.out.later (by simpa using hbel)
      obtain ⟨c0, c1, c2⟩ := hrs.file m (by omega)
      have i1 : (m : Int) < (n : Int) := by omega
      have i2 : (0 : Int) ≤ (m : Int) := by omega
      have d0 : wr.cell? ⟨w.heap.size, 0, none⟩ = some (.slice (some ⟨ga, oa, none⟩) n cap) := by
        rw [hbel.cell (p := ⟨w.heap.size, 0, none⟩) (by simp)]
        simp
      have hws : w.heap.size < wr.heap.size := by have := hbel.size; simp at this; omega
      have hgs : ga < wr.heap.size := lt_of_cell c0
      obtain ⟨X, hX⟩ : ∃ X, L[m]'(by omega) = X := ⟨_, rfl⟩
      rw [hX] at c0 c1 c2
      obtain ⟨b, hb⟩ : ∃ b, F.flB X = b := ⟨_, rfl⟩
      have HOK : Hid (∀ W, Calls Tryd.prog 66 #[.agg #[.string X.n, .string X.t, .int .i64 X.k]] W fun e w' => e = .returned (.bool b) ∧ Below W.heap.size W w') := fun W => hb ▸ fileOk_any X W
      have HX : Hid (L[m]'(by omega) = X ∧ F.flB X = b) := ⟨hX, hb⟩
      have HBW : Hid (Below (w.heap.size + 1) (w.alloc (.cells #[.slice (some ⟨ga, oa, none⟩) n cap] 36)) (wr.alloc (.cells #[.string X.n, .string X.t, .int .i64 X.k] 85))) := hbel.alloc (by omega) _
      have HBS : w.heap.size + 1 ≤ (wr.alloc (.cells #[.string X.n, .string X.t, .int .i64 X.k] 85)).heap.size := by simp; omega
      clear hX hb hbel
      have z0 : (wr.alloc (.cells #[.string X.n, .string X.t, .int .i64 X.k] 85)).cell? ⟨wr.heap.size, 0, none⟩ = some (.string X.n) := by simp
      have z1 : (wr.alloc (.cells #[.string X.n, .string X.t, .int .i64 X.k] 85)).cell? ⟨wr.heap.size, 1, none⟩ = some (.string X.t) := by simp
      have z2 : (wr.alloc (.cells #[.string X.n, .string X.t, .int .i64 X.k] 85)).cell? ⟨wr.heap.size, 2, none⟩ = some (.int .i64 X.k) := by simp
      have z3 : (wr.alloc (.cells #[.string X.n, .string X.t, .int .i64 X.k] 85)).cell? ⟨w.heap.size, 0, none⟩ = some (.slice (some ⟨ga, oa, none⟩) n cap) := (cell_kept (Below.heap_alloc _ _ w.heap.size hws)).trans d0
      cases b
      · have hF : R = false := by rw [← HR.out, F.diskB_no]; exact F.not_ok_fl (m := m) (by omega) (by rw [HX.out.1]; exact HX.out.2)
        subst hF
        clear hrs HVV HX HU HA HR
        go_wp2
        have kq0 := cell_regrown (w := (wr.alloc (.cells #[.string X.n, .string X.t, .int .i64 X.k] 85))) z0
        have kq1 := cell_regrown (w := (wr.alloc (.cells #[.string X.n, .string X.t, .int .i64 X.k] 85))) z1
        have kq2 := cell_regrown (w := (wr.alloc (.cells #[.string X.n, .string X.t, .int .i64 X.k] 85))) z2
        have kq3 := cell_regrown (w := (wr.alloc (.cells #[.string X.n, .string X.t, .int .i64 X.k] 85))) z3
        have cq0 := fun d os => Calls.regrown_of (w := (wr.alloc (.cells #[.string X.n, .string X.t, .int .i64 X.k] 85))) (d := d) (os := os) (HOK.out _)
        refine wp_region_quiet_below (by kernel_rfl) (by kernel_rfl) ?_
        repeat (go_big_quiet_step (first | exact cq0 _ _))
        refine wpQuiet_nil ?_
        rintro _ ⟨⟨dq, osq⟩, rfl⟩
        have hb6 := below_regrown ((wr.alloc (.cells #[.string X.n, .string X.t, .int .i64 X.k] 85))) dq osq
        generalize grow (redrawn ((wr.alloc (.cells #[.string X.n, .string X.t, .int .i64 X.k] 85))) dq) osq = w6 at *
        clear kq0 kq1 kq2 kq3 cq0
        have hb7 := HB.out.trans ((HBW.out.trans (hb6.mono HBS)).mono (by omega))
        go_wp2
        try rw [Exit.noGoto_ret]
        go_ret
        exact ⟨rfl, hb7⟩
      · by_cases h0 : m = 0
        · have HU2 : Hid (F.Upto L (m + 1)) := HU.out.step (by omega) (by rw [HX.out.1]; exact HX.out.2) (fun h => by omega)
          have q0 : ¬ (0 : Int) < (m : Int) := by omega
          have q0' : decide (0 < m) = false := decide_eq_false (by omega)
          clear hrs HVV HX HU HA HR h0
          go_wp2
          have kq0 := cell_regrown (w := (wr.alloc (.cells #[.string X.n, .string X.t, .int .i64 X.k] 85))) z0
          have kq1 := cell_regrown (w := (wr.alloc (.cells #[.string X.n, .string X.t, .int .i64 X.k] 85))) z1
          have kq2 := cell_regrown (w := (wr.alloc (.cells #[.string X.n, .string X.t, .int .i64 X.k] 85))) z2
          have kq3 := cell_regrown (w := (wr.alloc (.cells #[.string X.n, .string X.t, .int .i64 X.k] 85))) z3
          have cq0 := fun d os => Calls.regrown_of (w := (wr.alloc (.cells #[.string X.n, .string X.t, .int .i64 X.k] 85))) (d := d) (os := os) (HOK.out _)
          refine wp_region_quiet_below (by kernel_rfl) (by kernel_rfl) ?_
          repeat (go_big_quiet_step (first | exact cq0 _ _))
          refine wpQuiet_nil ?_
          rintro _ ⟨⟨dq, osq⟩, rfl⟩
          have hb6 := below_regrown ((wr.alloc (.cells #[.string X.n, .string X.t, .int .i64 X.k] 85))) dq osq
          generalize grow (redrawn ((wr.alloc (.cells #[.string X.n, .string X.t, .int .i64 X.k] 85))) dq) osq = w6 at *
          clear kq0 kq1 kq2 kq3 cq0
          have hb7 := HBW.out.trans (hb6.mono HBS)
          go_wp2
          go_roundw
          case rel => exact ⟨m + 1, by omega, by go_num, HU2, hb7⟩
          case measure => simp [intOf]; omega
        · obtain ⟨p, rfl⟩ : ∃ p, m = p + 1 := ⟨m - 1, by omega⟩
          obtain ⟨e0, _, _⟩ := hrs.file p (by omega)
          obtain ⟨Y, hY⟩ : ∃ Y, (L[p]'(by omega)).n = Y := ⟨_, rfl⟩
          rw [hY] at e0
          have HY : Hid ((L[p]'(by omega)).n = Y) := hY
          clear hY
          have z4 : (wr.alloc (.cells #[.string X.n, .string X.t, .int .i64 X.k] 85)).cell? ⟨ga, oa + p * 3, none⟩ = some (.string Y) := (cell_kept (Below.heap_alloc _ _ ga hgs)).trans e0
          have q0 : (0 : Int) < ((p + 1 : Nat) : Int) := by omega
          have q0' : decide ((0 : Int) < ((p + 1 : Nat) : Int)) = true := decide_eq_true q0
          have q0'' : decide ((0 : Int) < (p : Int) + 1) = true := decide_eq_true (by omega)
          have j1' : IntKind.i64.wrap (p : Int) = (p : Int) := IntWalk.i64_in _ (by omega)
          have j2 : (0 : Int) ≤ (p : Int) := by omega
          have j3 : (p : Int) < (n : Int) := by omega
          cases hlt2 : F.ltN Y X.n
          · have hF : R = false := by rw [← HR.out, F.diskB_no]; exact F.not_ok_adj (m := p + 1) (by omega) (by omega) (by rw [HX.out.1]; show F.ltN (L[p]'(by omega)).n X.n = false; rw [HY.out]; exact hlt2)
            subst hF
            have q4 : Op.bytesLess Y.toList X.n.toList = false := hlt2
            clear hrs HVV HX HU HA HR
            go_wp2
            have kq0 := cell_regrown (w := (wr.alloc (.cells #[.string X.n, .string X.t, .int .i64 X.k] 85))) z0
            have kq1 := cell_regrown (w := (wr.alloc (.cells #[.string X.n, .string X.t, .int .i64 X.k] 85))) z1
            have kq2 := cell_regrown (w := (wr.alloc (.cells #[.string X.n, .string X.t, .int .i64 X.k] 85))) z2
            have kq3 := cell_regrown (w := (wr.alloc (.cells #[.string X.n, .string X.t, .int .i64 X.k] 85))) z3
            have kq4 := cell_regrown (w := (wr.alloc (.cells #[.string X.n, .string X.t, .int .i64 X.k] 85))) z4
            have cq0 := fun d os => Calls.regrown_of (w := (wr.alloc (.cells #[.string X.n, .string X.t, .int .i64 X.k] 85))) (d := d) (os := os) (HOK.out _)
            refine wp_region_quiet_below (by kernel_rfl) (by kernel_rfl) ?_
            repeat (go_big_quiet_step (first | exact cq0 _ _))
            refine wpQuiet_nil ?_
            rintro _ ⟨⟨dq, osq⟩, rfl⟩
            have hb6 := below_regrown ((wr.alloc (.cells #[.string X.n, .string X.t, .int .i64 X.k] 85))) dq osq
            generalize grow (redrawn ((wr.alloc (.cells #[.string X.n, .string X.t, .int .i64 X.k] 85))) dq) osq = w6 at *
            clear kq0 kq1 kq2 kq3 kq4 cq0
            have hb7 := HB.out.trans ((HBW.out.trans (hb6.mono HBS)).mono (by omega))
            go_wp2
            try rw [Exit.noGoto_ret]
            go_ret
            exact ⟨rfl, hb7⟩
          · have HU2 : Hid (F.Upto L (p + 1 + 1)) := HU.out.step (by omega) (by rw [HX.out.1]; exact HX.out.2) (fun h => by rw [HX.out.1]; show F.ltN (L[p]'(by omega)).n X.n = true; rw [HY.out]; exact hlt2)
            have q4 : Op.bytesLess Y.toList X.n.toList = true := hlt2
            clear hrs HVV HX HU HA HR
            go_wp2
            have kq0 := cell_regrown (w := (wr.alloc (.cells #[.string X.n, .string X.t, .int .i64 X.k] 85))) z0
            have kq1 := cell_regrown (w := (wr.alloc (.cells #[.string X.n, .string X.t, .int .i64 X.k] 85))) z1
            have kq2 := cell_regrown (w := (wr.alloc (.cells #[.string X.n, .string X.t, .int .i64 X.k] 85))) z2
            have kq3 := cell_regrown (w := (wr.alloc (.cells #[.string X.n, .string X.t, .int .i64 X.k] 85))) z3
            have kq4 := cell_regrown (w := (wr.alloc (.cells #[.string X.n, .string X.t, .int .i64 X.k] 85))) z4
            have cq0 := fun d os => Calls.regrown_of (w := (wr.alloc (.cells #[.string X.n, .string X.t, .int .i64 X.k] 85))) (d := d) (os := os) (HOK.out _)
            refine wp_region_quiet_below (by kernel_rfl) (by kernel_rfl) ?_
            repeat (go_big_quiet_step (first | exact cq0 _ _))
            refine wpQuiet_nil ?_
            rintro _ ⟨⟨dq, osq⟩, rfl⟩
            have hb6 := below_regrown ((wr.alloc (.cells #[.string X.n, .string X.t, .int .i64 X.k] 85))) dq osq
            generalize grow (redrawn ((wr.alloc (.cells #[.string X.n, .string X.t, .int .i64 X.k] 85))) dq) osq = w6 at *
            clear kq0 kq1 kq2 kq3 kq4 cq0
            have hb7 := HBW.out.trans (hb6.mono HBS)
            go_wp2
            go_roundw
            case rel => exact ⟨p + 1 + 1, by omega, by go_num, HU2, hb7⟩
            case measure => simp [intOf]; omega
    · have hme : m = n := by omega
      have hF : R = true := by rw [← HR.out, F.diskB_iff]; exact F.Upto.ok (by rw [hn, ← hme]; exact HU.out) (by omega)
      subst hF
      subst hme
      clear HU HR HVV HA
      go_wp2
      go_ret
      exact ⟨rfl, HB.out.trans (hbel.mono (by omega))⟩

set_option maxRecDepth 100000 in
set_option maxHeartbeats 1000000 in
theorem sDiskOk_any (v : Value) (ga oa : Nat) (L : List Fl) (w : World) (hv : RS 3 fcs w v ga oa L) :
    Calls Tryd.prog 31 #[.agg #[v]] w fun e w' => e = .returned (.bool (F.diskB L)) ∧ Below w.heap.size w w' := by
  obtain ⟨R, hR⟩ : ∃ R, F.diskB L = R := ⟨_, rfl⟩
  have HV := hv.alloc (.cells #[v] 36)
  obtain ⟨a, cap, rfl, hl, hA, hc⟩ := hv
  obtain ⟨n, hn⟩ : ∃ n, L.length = n := ⟨_, rfl⟩
  have HB : Hid (Below w.heap.size w (w.alloc (.cells #[.slice a n cap] 36))) := (Below.refl _ _).alloc (Nat.le_refl _) _
  rw [hn] at hl hA HV ⊢
  rw [hR]
  have HVV : Hid (RS 3 fcs (w.alloc (.cells #[.slice a n cap] 36)) (.slice a n cap) ga oa L) := HV
  have HA : Hid (0 < n → a = some ⟨ga, oa, none⟩) := fun h => (hA h).1
  have HR : Hid (F.diskB L = R) := hR
  have HST : Hid (DkR L (w.heap.size + 1) (w.alloc (.cells #[.slice a n cap] 36)) (.int .i64 0) (w.alloc (.cells #[.slice a n cap] 36))) := ⟨0, by omega, rfl, F.Upto.zero L, Below.refl _ _⟩
  clear hc hA hR HV
  by_cases h30 : 30 < n
  · have q : (30 : Int) < (n : Int) := by omega
    have hF : R = false := by rw [← HR.out, F.diskB_no]; exact fun h => by have := h.1; omega
    subst hF
    go_enter Tryd.func31, Tryd.ntmps31
    go_wp2
    go_ret
    exact ⟨rfl, HB.out⟩
  have q : ¬ (30 : Int) < (n : Int) := by omega
  go_enter Tryd.func31, Tryd.ntmps31
  go_wp2
  go_loopw [3] (fun i wr => DkR L (w.heap.size + 1) (w.alloc (.cells #[.slice a n cap] 36)) i wr) (fun i _ => n - (intOf i).toNat)
  case atStart => exact HST.out
  case round =>
    obtain ⟨m, hm, rfl, HU, hbel⟩ := hrel
    rw [hn] at hm
    clear HST
    have d0 : wr.cell? ⟨w.heap.size, 0, none⟩ = some (.slice a n cap) := by
      rw [hbel.cell (p := ⟨w.heap.size, 0, none⟩) (by simp)]
      simp
    by_cases hlt : m < n
    · have ea := HA.out (by omega)
      subst ea
      have hrs := HVV.out.later (by simpa using hbel)
      obtain ⟨c0, c1, c2⟩ := hrs.file m (by omega)
      have i1 : (m : Int) < (n : Int) := by omega
      have i2 : (0 : Int) ≤ (m : Int) := by omega
      have hws : w.heap.size < wr.heap.size := by have := hbel.size; simp at this; omega
      have hgs : ga < wr.heap.size := lt_of_cell c0
      obtain ⟨X, hX⟩ : ∃ X, L[m]'(by omega) = X := ⟨_, rfl⟩
      rw [hX] at c0 c1 c2
      obtain ⟨b, hb⟩ : ∃ b, F.nmB X.n = b := ⟨_, rfl⟩
      obtain ⟨b2, hb2⟩ : ∃ b2, decide (0 ≤ X.k ∧ X.k ≤ (X.t.size : Int)) = b2 := ⟨_, rfl⟩
      have HNM : Hid (∀ W, Calls Tryd.prog 49 #[.string X.n] W fun e w' => e = .returned (.bool b) ∧ Below W.heap.size W w') := fun W => hb ▸ (l06Name_any X.n W).mono fun e w' ⟨he, hw⟩ => ⟨he, hw ▸ Below.refl _ _⟩
      have HIN : Hid (∀ W, Calls Tryd.prog 40 #[.int .i64 X.k, .int .i64 0, .int .i64 (X.t.size : Int)] W fun e w' => e = .returned (.bool b2) ∧ Below W.heap.size W w') := fun W => hb2 ▸ (l01In_any X.k 0 (X.t.size : Int) W).mono fun e w' ⟨he, hw⟩ => ⟨he, hw ▸ Below.refl _ _⟩
      have HX : Hid (L[m]'(by omega) = X ∧ F.flB X = (b && (decide (X.t.size ≤ 20000) && b2))) := ⟨hX, by rw [← hb, ← hb2]; simp [F.flB]⟩
      have HBW : Hid (Below (w.heap.size + 1) (w.alloc (.cells #[.slice (some ⟨ga, oa, none⟩) n cap] 36)) (wr.alloc (.cells #[.string X.n, .string X.t, .int .i64 X.k] 85))) := hbel.alloc (by omega) _
      have HBS : w.heap.size + 1 ≤ (wr.alloc (.cells #[.string X.n, .string X.t, .int .i64 X.k] 85)).heap.size := by simp; omega
      clear hX hb hb2 hbel
      have z0 : (wr.alloc (.cells #[.string X.n, .string X.t, .int .i64 X.k] 85)).cell? ⟨wr.heap.size, 0, none⟩ = some (.string X.n) := by simp
      have z1 : (wr.alloc (.cells #[.string X.n, .string X.t, .int .i64 X.k] 85)).cell? ⟨wr.heap.size, 1, none⟩ = some (.string X.t) := by simp
      have z2 : (wr.alloc (.cells #[.string X.n, .string X.t, .int .i64 X.k] 85)).cell? ⟨wr.heap.size, 2, none⟩ = some (.int .i64 X.k) := by simp
      have z3 : (wr.alloc (.cells #[.string X.n, .string X.t, .int .i64 X.k] 85)).cell? ⟨w.heap.size, 0, none⟩ = some (.slice (some ⟨ga, oa, none⟩) n cap) := (cell_kept (Below.heap_alloc _ _ w.heap.size hws)).trans d0
      cases hfl : F.flB X
      · have hF : R = false := by rw [← HR.out, F.diskB_no]; exact F.not_ok_fl (m := m) (by omega) (by rw [HX.out.1]; exact hfl)
        subst hF
        rw [HX.out.2] at hfl
        clear hrs HVV HX HU HA HR
        cases b
        · clear hfl
          go_wp2
          have kq0 := cell_regrown (w := (wr.alloc (.cells #[.string X.n, .string X.t, .int .i64 X.k] 85))) z0
          have kq1 := cell_regrown (w := (wr.alloc (.cells #[.string X.n, .string X.t, .int .i64 X.k] 85))) z1
          have kq2 := cell_regrown (w := (wr.alloc (.cells #[.string X.n, .string X.t, .int .i64 X.k] 85))) z2
          have kq3 := cell_regrown (w := (wr.alloc (.cells #[.string X.n, .string X.t, .int .i64 X.k] 85))) z3
          have cq0 := fun d os => Calls.regrown_of (w := (wr.alloc (.cells #[.string X.n, .string X.t, .int .i64 X.k] 85))) (d := d) (os := os) (HNM.out _)
          have cq1 := fun d os => Calls.regrown_of (w := (wr.alloc (.cells #[.string X.n, .string X.t, .int .i64 X.k] 85))) (d := d) (os := os) (HIN.out _)
          refine wp_region_quiet_below (by kernel_rfl) (by kernel_rfl) ?_
          repeat (go_big_quiet_step (first | exact cq0 _ _ | exact cq1 _ _))
          refine wpQuiet_nil ?_
          rintro _ ⟨⟨dq, osq⟩, rfl⟩
          have hb6 := below_regrown ((wr.alloc (.cells #[.string X.n, .string X.t, .int .i64 X.k] 85))) dq osq
          generalize grow (redrawn ((wr.alloc (.cells #[.string X.n, .string X.t, .int .i64 X.k] 85))) dq) osq = w6 at *
          clear kq0 kq1 kq2 kq3 cq0 cq1
          have hb7 := HB.out.trans ((HBW.out.trans (hb6.mono HBS)).mono (by omega))
          go_wp2
          try rw [Exit.noGoto_ret]
          go_ret
          exact ⟨rfl, hb7⟩
        · by_cases h2 : X.t.size ≤ 20000
          · obtain rfl : b2 = false := by simpa [h2] using hfl
            have q2 : ¬ (20000 : Int) < (X.t.size : Int) := by omega
            have q2' : decide ((20000 : Int) < (X.t.size : Int)) = false := decide_eq_false (by omega)
            clear hfl
            go_wp2
            have kq0 := cell_regrown (w := (wr.alloc (.cells #[.string X.n, .string X.t, .int .i64 X.k] 85))) z0
            have kq1 := cell_regrown (w := (wr.alloc (.cells #[.string X.n, .string X.t, .int .i64 X.k] 85))) z1
            have kq2 := cell_regrown (w := (wr.alloc (.cells #[.string X.n, .string X.t, .int .i64 X.k] 85))) z2
            have kq3 := cell_regrown (w := (wr.alloc (.cells #[.string X.n, .string X.t, .int .i64 X.k] 85))) z3
            have cq0 := fun d os => Calls.regrown_of (w := (wr.alloc (.cells #[.string X.n, .string X.t, .int .i64 X.k] 85))) (d := d) (os := os) (HNM.out _)
            have cq1 := fun d os => Calls.regrown_of (w := (wr.alloc (.cells #[.string X.n, .string X.t, .int .i64 X.k] 85))) (d := d) (os := os) (HIN.out _)
            refine wp_region_quiet_below (by kernel_rfl) (by kernel_rfl) ?_
            repeat (go_big_quiet_step (first | exact cq0 _ _ | exact cq1 _ _))
            refine wpQuiet_nil ?_
            rintro _ ⟨⟨dq, osq⟩, rfl⟩
            have hb6 := below_regrown ((wr.alloc (.cells #[.string X.n, .string X.t, .int .i64 X.k] 85))) dq osq
            generalize grow (redrawn ((wr.alloc (.cells #[.string X.n, .string X.t, .int .i64 X.k] 85))) dq) osq = w6 at *
            clear kq0 kq1 kq2 kq3 cq0 cq1
            have hb7 := HB.out.trans ((HBW.out.trans (hb6.mono HBS)).mono (by omega))
            go_wp2
            try rw [Exit.noGoto_ret]
            go_ret
            exact ⟨rfl, hb7⟩
          · have q2 : (20000 : Int) < (X.t.size : Int) := by omega
            have q2' : decide ((20000 : Int) < (X.t.size : Int)) = true := decide_eq_true (by omega)
            clear hfl
            go_wp2
            have kq0 := cell_regrown (w := (wr.alloc (.cells #[.string X.n, .string X.t, .int .i64 X.k] 85))) z0
            have kq1 := cell_regrown (w := (wr.alloc (.cells #[.string X.n, .string X.t, .int .i64 X.k] 85))) z1
            have kq2 := cell_regrown (w := (wr.alloc (.cells #[.string X.n, .string X.t, .int .i64 X.k] 85))) z2
            have kq3 := cell_regrown (w := (wr.alloc (.cells #[.string X.n, .string X.t, .int .i64 X.k] 85))) z3
            have cq0 := fun d os => Calls.regrown_of (w := (wr.alloc (.cells #[.string X.n, .string X.t, .int .i64 X.k] 85))) (d := d) (os := os) (HNM.out _)
            have cq1 := fun d os => Calls.regrown_of (w := (wr.alloc (.cells #[.string X.n, .string X.t, .int .i64 X.k] 85))) (d := d) (os := os) (HIN.out _)
            refine wp_region_quiet_below (by kernel_rfl) (by kernel_rfl) ?_
            repeat (go_big_quiet_step (first | exact cq0 _ _ | exact cq1 _ _))
            refine wpQuiet_nil ?_
            rintro _ ⟨⟨dq, osq⟩, rfl⟩
            have hb6 := below_regrown ((wr.alloc (.cells #[.string X.n, .string X.t, .int .i64 X.k] 85))) dq osq
            generalize grow (redrawn ((wr.alloc (.cells #[.string X.n, .string X.t, .int .i64 X.k] 85))) dq) osq = w6 at *
            clear kq0 kq1 kq2 kq3 cq0 cq1
            have hb7 := HB.out.trans ((HBW.out.trans (hb6.mono HBS)).mono (by omega))
            go_wp2
            try rw [Exit.noGoto_ret]
            go_ret
            exact ⟨rfl, hb7⟩
      · have hfl2 := hfl
        rw [HX.out.2] at hfl2
        simp only [Bool.and_eq_true, decide_eq_true_eq] at hfl2
        obtain ⟨rfl, h2, rfl⟩ := hfl2
        have q2 : ¬ (20000 : Int) < (X.t.size : Int) := by omega
        have q2' : decide ((20000 : Int) < (X.t.size : Int)) = false := decide_eq_false (by omega)
        by_cases h0 : m = 0
        · have HU2 : Hid (F.Upto L (m + 1)) := HU.out.step (by omega) (by rw [HX.out.1]; exact hfl) (fun h => by omega)
          have q0 : ¬ (0 : Int) < (m : Int) := by omega
          have q0' : decide (0 < m) = false := decide_eq_false (by omega)
          clear hrs HVV HX HU HA HR h0 hfl
          go_wp2
          have kq0 := cell_regrown (w := (wr.alloc (.cells #[.string X.n, .string X.t, .int .i64 X.k] 85))) z0
          have kq1 := cell_regrown (w := (wr.alloc (.cells #[.string X.n, .string X.t, .int .i64 X.k] 85))) z1
          have kq2 := cell_regrown (w := (wr.alloc (.cells #[.string X.n, .string X.t, .int .i64 X.k] 85))) z2
          have kq3 := cell_regrown (w := (wr.alloc (.cells #[.string X.n, .string X.t, .int .i64 X.k] 85))) z3
          have cq0 := fun d os => Calls.regrown_of (w := (wr.alloc (.cells #[.string X.n, .string X.t, .int .i64 X.k] 85))) (d := d) (os := os) (HNM.out _)
          have cq1 := fun d os => Calls.regrown_of (w := (wr.alloc (.cells #[.string X.n, .string X.t, .int .i64 X.k] 85))) (d := d) (os := os) (HIN.out _)
          refine wp_region_quiet_below (by kernel_rfl) (by kernel_rfl) ?_
          repeat (go_big_quiet_step (first | exact cq0 _ _ | exact cq1 _ _))
          refine wpQuiet_nil ?_
          rintro _ ⟨⟨dq, osq⟩, rfl⟩
          have hb6 := below_regrown ((wr.alloc (.cells #[.string X.n, .string X.t, .int .i64 X.k] 85))) dq osq
          generalize grow (redrawn ((wr.alloc (.cells #[.string X.n, .string X.t, .int .i64 X.k] 85))) dq) osq = w6 at *
          clear kq0 kq1 kq2 kq3 cq0 cq1
          have hb7 := HBW.out.trans (hb6.mono HBS)
          go_wp2
          go_roundw
          case rel => exact ⟨m + 1, by omega, by go_num, HU2, hb7⟩
          case measure => simp [intOf]; omega
        · obtain ⟨p, rfl⟩ : ∃ p, m = p + 1 := ⟨m - 1, by omega⟩
          obtain ⟨e0, _, _⟩ := hrs.file p (by omega)
          obtain ⟨Y, hY⟩ : ∃ Y, (L[p]'(by omega)).n = Y := ⟨_, rfl⟩
          rw [hY] at e0
          have HY : Hid ((L[p]'(by omega)).n = Y) := hY
          clear hY
          have z4 : (wr.alloc (.cells #[.string X.n, .string X.t, .int .i64 X.k] 85)).cell? ⟨ga, oa + p * 3, none⟩ = some (.string Y) := (cell_kept (Below.heap_alloc _ _ ga hgs)).trans e0
          have q0 : (0 : Int) < ((p + 1 : Nat) : Int) := by omega
          have q0' : decide ((0 : Int) < ((p + 1 : Nat) : Int)) = true := decide_eq_true q0
          have q0'' : decide ((0 : Int) < (p : Int) + 1) = true := decide_eq_true (by omega)
          have j1' : IntKind.i64.wrap (p : Int) = (p : Int) := IntWalk.i64_in _ (by omega)
          have j2 : (0 : Int) ≤ (p : Int) := by omega
          have j3 : (p : Int) < (n : Int) := by omega
          cases hlt2 : F.ltN Y X.n
          · have hF : R = false := by rw [← HR.out, F.diskB_no]; exact F.not_ok_adj (m := p + 1) (by omega) (by omega) (by rw [HX.out.1]; show F.ltN (L[p]'(by omega)).n X.n = false; rw [HY.out]; exact hlt2)
            subst hF
            have q4 : Op.bytesLess Y.toList X.n.toList = false := hlt2
            clear hrs HVV HX HU HA HR hfl
            go_wp2
            have kq0 := cell_regrown (w := (wr.alloc (.cells #[.string X.n, .string X.t, .int .i64 X.k] 85))) z0
            have kq1 := cell_regrown (w := (wr.alloc (.cells #[.string X.n, .string X.t, .int .i64 X.k] 85))) z1
            have kq2 := cell_regrown (w := (wr.alloc (.cells #[.string X.n, .string X.t, .int .i64 X.k] 85))) z2
            have kq3 := cell_regrown (w := (wr.alloc (.cells #[.string X.n, .string X.t, .int .i64 X.k] 85))) z3
            have kq4 := cell_regrown (w := (wr.alloc (.cells #[.string X.n, .string X.t, .int .i64 X.k] 85))) z4
            have cq0 := fun d os => Calls.regrown_of (w := (wr.alloc (.cells #[.string X.n, .string X.t, .int .i64 X.k] 85))) (d := d) (os := os) (HNM.out _)
            have cq1 := fun d os => Calls.regrown_of (w := (wr.alloc (.cells #[.string X.n, .string X.t, .int .i64 X.k] 85))) (d := d) (os := os) (HIN.out _)
            refine wp_region_quiet_below (by kernel_rfl) (by kernel_rfl) ?_
            repeat (go_big_quiet_step (first | exact cq0 _ _ | exact cq1 _ _))
            refine wpQuiet_nil ?_
            rintro _ ⟨⟨dq, osq⟩, rfl⟩
            have hb6 := below_regrown ((wr.alloc (.cells #[.string X.n, .string X.t, .int .i64 X.k] 85))) dq osq
            generalize grow (redrawn ((wr.alloc (.cells #[.string X.n, .string X.t, .int .i64 X.k] 85))) dq) osq = w6 at *
            clear kq0 kq1 kq2 kq3 kq4 cq0 cq1
            have hb7 := HB.out.trans ((HBW.out.trans (hb6.mono HBS)).mono (by omega))
            go_wp2
            try rw [Exit.noGoto_ret]
            go_ret
            exact ⟨rfl, hb7⟩
          · have HU2 : Hid (F.Upto L (p + 1 + 1)) := HU.out.step (by omega) (by rw [HX.out.1]; exact hfl) (fun h => by rw [HX.out.1]; show F.ltN (L[p]'(by omega)).n X.n = true; rw [HY.out]; exact hlt2)
            have q4 : Op.bytesLess Y.toList X.n.toList = true := hlt2
            clear hrs HVV HX HU HA HR hfl
            go_wp2
            have kq0 := cell_regrown (w := (wr.alloc (.cells #[.string X.n, .string X.t, .int .i64 X.k] 85))) z0
            have kq1 := cell_regrown (w := (wr.alloc (.cells #[.string X.n, .string X.t, .int .i64 X.k] 85))) z1
            have kq2 := cell_regrown (w := (wr.alloc (.cells #[.string X.n, .string X.t, .int .i64 X.k] 85))) z2
            have kq3 := cell_regrown (w := (wr.alloc (.cells #[.string X.n, .string X.t, .int .i64 X.k] 85))) z3
            have kq4 := cell_regrown (w := (wr.alloc (.cells #[.string X.n, .string X.t, .int .i64 X.k] 85))) z4
            have cq0 := fun d os => Calls.regrown_of (w := (wr.alloc (.cells #[.string X.n, .string X.t, .int .i64 X.k] 85))) (d := d) (os := os) (HNM.out _)
            have cq1 := fun d os => Calls.regrown_of (w := (wr.alloc (.cells #[.string X.n, .string X.t, .int .i64 X.k] 85))) (d := d) (os := os) (HIN.out _)
            refine wp_region_quiet_below (by kernel_rfl) (by kernel_rfl) ?_
            repeat (go_big_quiet_step (first | exact cq0 _ _ | exact cq1 _ _))
            refine wpQuiet_nil ?_
            rintro _ ⟨⟨dq, osq⟩, rfl⟩
            have hb6 := below_regrown ((wr.alloc (.cells #[.string X.n, .string X.t, .int .i64 X.k] 85))) dq osq
            generalize grow (redrawn ((wr.alloc (.cells #[.string X.n, .string X.t, .int .i64 X.k] 85))) dq) osq = w6 at *
            clear kq0 kq1 kq2 kq3 kq4 cq0 cq1
            have hb7 := HBW.out.trans (hb6.mono HBS)
            go_wp2
            go_roundw
            case rel => exact ⟨p + 1 + 1, by omega, by go_num, HU2, hb7⟩
            case measure => simp [intOf]; omega
    · have hme : m = n := by omega
      have hF : R = true := by rw [← HR.out, F.diskB_iff]; exact F.Upto.ok (by rw [hn, ← hme]; exact HU.out) (by omega)
      subst hF
      subst hme
      clear HU HR HVV HA
      go_wp2
      go_ret
      exact ⟨rfl, HB.out.trans (hbel.mono (by omega))⟩

end Go.Proofs.YtadikpmecjjgjaaDoor
