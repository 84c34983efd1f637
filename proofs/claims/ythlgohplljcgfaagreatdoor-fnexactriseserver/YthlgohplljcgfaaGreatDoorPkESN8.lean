/-
  Texts laid together: Lc, Lo, Lg, Na.
-/
import Derived.Test.YthlgohplljcgfaaGreatDoorPkESN6
import Derived.Test.YthlgohplljcgfaaGreatDoorPkESN7
import Derived.Test.YthlgohplljcgfaaGreatDoorPkESN3
import Derived.Lib.QuietBelow
import Derived.BigQuiet
import Derived.Laws.Cover1
import Derived.OwnWalk
/-
  Two names compared; one leaf looked at, and copied.
-/
namespace Go.Proofs.YthlgohplljcgfaaGreatDoor
open Go.RowKit Go.BigFrame Go.Sort Go.Shelf
set_option linter.unusedVariables false
set_option linter.unusedSimpArgs false

namespace LV
theorem cmp_lt : ∀ (x y : List UInt8), Lib.compareBytes x y < 0 ↔ x < y
  | [], [] => by simp [Lib.compareBytes]
  | [], b :: y => by simp [Lib.compareBytes]
  | a :: x, [] => by simp [Lib.compareBytes]
  | a :: x, b :: y => by
    rw [Lib.compareBytes, List.cons_lt_cons_iff]
    by_cases h1 : a < b
    · simp [h1]
    · by_cases h2 : b < a
      · have h3 : a ≠ b := fun e => by subst e; exact h1 h2
        simp [h1, h2, h3]
      · have h3 : a = b := by
          have : a.toNat = b.toNat := by
            rw [UInt8.lt_iff_toNat_lt] at h1 h2
            omega
          exact UInt8.toNat_inj.1 this
        subst h3
        simp [h1, cmp_lt x y]
/-- how two names compare -/
def cmpN (a b : ByteArray) : Int := Lib.compareBytes a.data.toList b.data.toList
theorem cmpN_lt (a b : ByteArray) : cmpN a b < 0 ↔ F.ltN a b = true := by
  rw [F.ltN_eq, decide_eq_true_eq, F.toList_data, F.toList_data]
  exact cmp_lt _ _
theorem cmpN_ge (a b : ByteArray) : 0 ≤ cmpN a b ↔ F.ltN a b = false := by
  have := cmpN_lt a b
  cases h : F.ltN a b
  · rw [h] at this
    constructor
    · intro _; rfl
    · intro _
      rcases Int.lt_or_le (cmpN a b) 0 with h1 | h1
      · exact absurd (this.1 h1) (by simp)
      · exact h1
  · rw [h] at this
    have := this.2 rfl
    constructor
    · intro h1; omega
    · intro h1; cases h1
end LV

theorem Compare_any (a b : ByteArray) (w : World) : Calls Tryz.prog 206 #[.string a, .string b] w fun e w' => e = .returned (.int .i64 (LV.cmpN a b)) ∧ w' = w := by
  have h := Any.strings_Compare Tryz.cmpStr a b w
  exact h

set_option maxHeartbeats 400000 in
/-- two blocks are laid: the leaves' boxes -/
theorem compareNames_grow (a b : Le) (W : World) : Calls Tryz.prog 202 #[.agg #[.string a.n, .string a.v], .agg #[.string b.n, .string b.v]] W fun e w' => e = .returned (.int .i64 (LV.cmpN a.n b.n)) ∧ ∃ q os', w' = grow (W.drewN q) os' := by
  obtain ⟨an, av⟩ := a
  obtain ⟨bn, bv⟩ := b
  have hcon := fun W' => Compare_any an bn W'
  simp only
  generalize LV.cmpN an bn = r at hcon ⊢
  go_enter Tryz.func202, Tryz.ntmps202
  go_wp2_with (go_at_call 206; refine (hcon _).mono ?_; rintro e w' ⟨rfl, rfl⟩)
  go_ret
  exact ⟨rfl, 0, _, by rw [alloc_eq_grow, alloc_eq_grow, grow_grow]; rfl⟩
theorem below_grow (W : World) (q : Nat) (os : Array Obj) : RowKit.Below W.heap.size W (grow (W.drewN q) os) := by
  have h : RowKit.Below W.heap.size W (W.drewN q) := ⟨rfl, rfl, rfl, Nat.le_refl _, fun _ _ => rfl⟩
  exact h.trans (below_regrown (W.drewN q) _ os)
theorem compareNames_any (a b : Le) (W : World) : Calls Tryz.prog 202 #[.agg #[.string a.n, .string a.v], .agg #[.string b.n, .string b.v]] W fun e w' => e = .returned (.int .i64 (LV.cmpN a.n b.n)) ∧ Below W.heap.size W w' :=
  (compareNames_grow a b W).mono fun e w' ⟨he, q, os, hw⟩ => ⟨he, hw ▸ below_grow W q os⟩

set_option maxHeartbeats 400000 in
theorem leafOk_any (f : Le) (w : World) (hn : f.n.size ≤ 1048576) (hv : f.v.size ≤ 1048576) : Calls Tryz.prog 203 #[.agg #[.string f.n, .string f.v]] w fun e w' => e = .returned (.bool (LV.leB f)) ∧ Below w.heap.size w w' := by
  obtain ⟨x, t⟩ := f
  have HB : Hid (Below w.heap.size w (w.alloc (.cells #[.string x, .string t] 134))) := (Below.refl _ _).alloc (Nat.le_refl _) _
  obtain ⟨b, hb⟩ : ∃ b, okB nameB x = b := ⟨_, rfl⟩
  obtain ⟨b2, hb2⟩ : ∃ b2, okB valB t = b2 := ⟨_, rfl⟩
  have HN : Hid (∀ W, Calls Tryz.prog 207 #[.string x] W fun e w' => e = .returned (.bool b) ∧ w' = W) := fun W => hb ▸ NameOk_any x W hn
  have HV : Hid (∀ W, Calls Tryz.prog 164 #[.string t] W fun e w' => e = .returned (.bool b2) ∧ w' = W) := fun W => hb2 ▸ ValueOk_any t W hv
  have HF : Hid (LV.leB ⟨x, t⟩ = (b && b2)) := by rw [← hb, ← hb2]; rfl
  rw [HF.out]
  clear HF hb hb2 hn hv
  go_enter Tryz.func203, Tryz.ntmps203
  go_wp2_with fail
  refine (HN.out _).mono ?_
  rintro e w1 ⟨rfl, rfl⟩
  clear HN
  cases b
  · go_wp2
    go_ret
    exact ⟨rfl, HB.out⟩
  · go_wp2_with fail
    refine (HV.out _).mono ?_
    rintro e w1 ⟨rfl, rfl⟩
    go_wp2
    go_ret
    exact ⟨rfl, HB.out⟩

end Go.Proofs.YthlgohplljcgfaaGreatDoor
/-
  When leaves are right: the program's and the specification's answers.
-/
namespace Go.Proofs.YthlgohplljcgfaaGreatDoor
open Go.RowKit Go.BigFrame Go.Sort
set_option linter.unusedVariables false
set_option linter.unusedSimpArgs false

def LoR (L : List Le) (w : World) (i : Value) (wr : World) : Prop := ∃ m : Nat, m ≤ L.length ∧ i = .int .i64 m ∧ Hid (LV.Upto L m) ∧ Below w.heap.size w wr

set_option maxRecDepth 100000 in
set_option maxHeartbeats 1000000 in
theorem LeavesOk_any (v : Value) (ga oa : Nat) (L : List Le) (w : World) (hv : RS 2 lcs w v ga oa L) (hsm : SmallL L) :
    Calls Tryz.prog 200 #[v] w fun e w' => e = .returned (.bool (LV.leavesB L)) ∧ Below w.heap.size w w' := by
  obtain ⟨R, hR⟩ : ∃ R, LV.leavesB L = R := ⟨_, rfl⟩
  have HVV : Hid (RS 2 lcs w v ga oa L) := hv
  obtain ⟨a, cap, rfl, hl, hA, hc⟩ := hv
  obtain ⟨n, hn⟩ : ∃ n, L.length = n := ⟨_, rfl⟩
  have HA : Hid (0 < n → a = some ⟨ga, oa, none⟩) := by rw [← hn]; exact fun h => (hA h).1
  have HSM : Hid (SmallL L) := hsm
  have HR : Hid (LV.leavesB L = R) := hR
  have HST : Hid (LoR L w (.int .i64 0) w) := ⟨0, by omega, rfl, LV.Upto.zero L, Below.refl _ _⟩
  rw [hR]
  rw [hn] at hl ⊢
  clear hc hA hR hsm
  by_cases h24 : 24 < n
  · have q : (24 : Int) < (n : Int) := by omega
    have hF : R = false := by rw [← HR.out, LV.leavesB_no]; exact fun h => by have := h.1; omega
    subst hF
    go_enter Tryz.func200, Tryz.ntmps200
    go_wp2
    go_ret
    exact ⟨rfl, Below.refl _ _⟩
  have q : ¬ (24 : Int) < (n : Int) := by omega
  go_enter Tryz.func200, Tryz.ntmps200
  go_wp2
  go_loopw [10] (fun i wr => LoR L w i wr) (fun i _ => n - (intOf i).toNat)
  case atStart => exact HST.out
  case round =>
    obtain ⟨m, hm, rfl, HU, hbel⟩ := hrel
    rw [hn] at hm
    clear HST
    by_cases hlt : m < n
    · have ea := HA.out (by omega)
      subst ea
      have hrs := HVV.out.later hbel
      obtain ⟨c0, c1⟩ := hrs.leaf m (by omega)
      have i1 : (m : Int) < (n : Int) := by omega
      have i2 : (0 : Int) ≤ (m : Int) := by omega
      have hgs : ga < wr.heap.size := lt_of_cell c0
      obtain ⟨X, hX⟩ : ∃ X, L[m]'(by omega) = X := ⟨_, rfl⟩
      rw [hX] at c0 c1
      have hxs := HSM.out X (by rw [← hX]; exact List.getElem_mem _)
      obtain ⟨b, hb⟩ : ∃ b, LV.leB X = b := ⟨_, rfl⟩
      have HOK : Hid (∀ W, Calls Tryz.prog 203 #[.agg #[.string X.n, .string X.v]] W fun e w' => e = .returned (.bool b) ∧ Below W.heap.size W w') := fun W => hb ▸ leafOk_any X W hxs.1 hxs.2
      have HX : Hid (L[m]'(by omega) = X ∧ LV.leB X = b) := ⟨hX, hb⟩
      have HBW : Hid (Below w.heap.size w (wr.alloc (.cells #[.string X.n, .string X.v] 134))) := hbel.alloc hbel.size _
      have HBS : w.heap.size ≤ (wr.alloc (.cells #[.string X.n, .string X.v] 134)).heap.size := HBW.out.size
      clear hX hb hbel hxs
      have z0 : (wr.alloc (.cells #[.string X.n, .string X.v] 134)).cell? ⟨wr.heap.size, 0, none⟩ = some (.string X.n) := by simp
      have z1 : (wr.alloc (.cells #[.string X.n, .string X.v] 134)).cell? ⟨wr.heap.size, 1, none⟩ = some (.string X.v) := by simp
      cases b
      · have hF : R = false := by rw [← HR.out, LV.leavesB_no]; exact LV.not_ok_le (m := m) (by omega) (by rw [HX.out.1]; exact HX.out.2)
        subst hF
        clear hrs HVV HX HU HA HR HSM
        go_wp2
        have kq0 := cell_regrown (w := (wr.alloc (.cells #[.string X.n, .string X.v] 134))) z0
        have kq1 := cell_regrown (w := (wr.alloc (.cells #[.string X.n, .string X.v] 134))) z1
        have cq0 := fun d os => Calls.regrown_of (w := (wr.alloc (.cells #[.string X.n, .string X.v] 134))) (d := d) (os := os) (HOK.out _)
        refine wp_region_quiet_below (by kernel_rfl) (by kernel_rfl) ?_
        repeat (go_big_quiet_step (first | exact cq0 _ _))
        refine wpQuiet_nil ?_
        rintro _ ⟨⟨dq, osq⟩, rfl⟩
        have hb6 := below_regrown ((wr.alloc (.cells #[.string X.n, .string X.v] 134))) dq osq
        generalize grow (redrawn ((wr.alloc (.cells #[.string X.n, .string X.v] 134))) dq) osq = w6 at *
        clear kq0 kq1 cq0
        have hb7 := HBW.out.trans (hb6.mono HBS)
        go_wp2
        try rw [Exit.noGoto_ret]
        go_ret
        exact ⟨rfl, hb7⟩
      · by_cases h0 : m = 0
        · have HU2 : Hid (LV.Upto L (m + 1)) := HU.out.step (by omega) (by rw [HX.out.1]; exact HX.out.2) (fun h => by omega)
          have q0 : ¬ (0 : Int) < (m : Int) := by omega
          have q0' : decide (0 < m) = false := decide_eq_false (by omega)
          clear hrs HVV HX HU HA HR h0 HSM
          go_wp2
          have kq0 := cell_regrown (w := (wr.alloc (.cells #[.string X.n, .string X.v] 134))) z0
          have kq1 := cell_regrown (w := (wr.alloc (.cells #[.string X.n, .string X.v] 134))) z1
          have cq0 := fun d os => Calls.regrown_of (w := (wr.alloc (.cells #[.string X.n, .string X.v] 134))) (d := d) (os := os) (HOK.out _)
          refine wp_region_quiet_below (by kernel_rfl) (by kernel_rfl) ?_
          repeat (go_big_quiet_step (first | exact cq0 _ _))
          refine wpQuiet_nil ?_
          rintro _ ⟨⟨dq, osq⟩, rfl⟩
          have hb6 := below_regrown ((wr.alloc (.cells #[.string X.n, .string X.v] 134))) dq osq
          generalize grow (redrawn ((wr.alloc (.cells #[.string X.n, .string X.v] 134))) dq) osq = w6 at *
          clear kq0 kq1 cq0
          have hb7 := HBW.out.trans (hb6.mono HBS)
          go_wp2
          go_roundw
          case rel => exact ⟨m + 1, by omega, by go_num, HU2, hb7⟩
          case measure => simp [intOf]; omega
        · obtain ⟨p, rfl⟩ : ∃ p, m = p + 1 := ⟨m - 1, by omega⟩
          obtain ⟨e0, e1⟩ := hrs.leaf p (by omega)
          obtain ⟨Y, hY⟩ : ∃ Y, (L[p]'(by omega)) = Y := ⟨_, rfl⟩
          rw [hY] at e0 e1
          have HY : Hid ((L[p]'(by omega)) = Y) := hY
          clear hY
          have z4 : (wr.alloc (.cells #[.string X.n, .string X.v] 134)).cell? ⟨ga, oa + p * 2, none⟩ = some (.string Y.n) := (cell_kept (Below.heap_alloc _ _ ga hgs)).trans e0
          have z5 : (wr.alloc (.cells #[.string X.n, .string X.v] 134)).cell? ⟨ga, oa + p * 2 + 1, none⟩ = some (.string Y.v) := (cell_kept (Below.heap_alloc _ _ ga hgs)).trans e1
          have q0 : (0 : Int) < ((p + 1 : Nat) : Int) := by omega
          have q0' : decide ((0 : Int) < ((p + 1 : Nat) : Int)) = true := decide_eq_true q0
          have q0'' : decide ((0 : Int) < (p : Int) + 1) = true := decide_eq_true (by omega)
          have j1' : IntKind.i64.wrap (p : Int) = (p : Int) := IntWalk.i64_in _ (by omega)
          have j2 : (0 : Int) ≤ (p : Int) := by omega
          have j3 : (p : Int) < (n : Int) := by omega
          obtain ⟨C, hC⟩ : ∃ C, LV.cmpN Y.n X.n = C := ⟨_, rfl⟩
          have HCM : Hid (∀ W, Calls Tryz.prog 202 #[.agg #[.string Y.n, .string Y.v], .agg #[.string X.n, .string X.v]] W fun e w' => e = .returned (.int .i64 C) ∧ Below W.heap.size W w') := fun W => hC ▸ compareNames_any Y X W
          have hge := LV.cmpN_ge Y.n X.n
          rw [hC] at hge
          clear hC
          cases hlt2 : F.ltN Y.n X.n
          · have hF : R = false := by rw [← HR.out, LV.leavesB_no]; exact LV.not_ok_adj (m := p + 1) (by omega) (by omega) (by rw [HX.out.1]; show F.ltN (L[p]'(by omega)).n X.n = false; rw [HY.out]; exact hlt2)
            subst hF
            have q4 : 0 ≤ C := hge.2 hlt2
            have q5 : decide (0 ≤ C) = true := decide_eq_true q4
            clear hrs HVV HX HU HA HR hge hlt2 HSM
            go_wp2
            have kq0 := cell_regrown (w := (wr.alloc (.cells #[.string X.n, .string X.v] 134))) z0
            have kq1 := cell_regrown (w := (wr.alloc (.cells #[.string X.n, .string X.v] 134))) z1
            have kq2 := cell_regrown (w := (wr.alloc (.cells #[.string X.n, .string X.v] 134))) z4
            have kq3 := cell_regrown (w := (wr.alloc (.cells #[.string X.n, .string X.v] 134))) z5
            have cq0 := fun d os => Calls.regrown_of (w := (wr.alloc (.cells #[.string X.n, .string X.v] 134))) (d := d) (os := os) (HOK.out _)
            have cq1 := fun d os => Calls.regrown_of (w := (wr.alloc (.cells #[.string X.n, .string X.v] 134))) (d := d) (os := os) (HCM.out _)
            refine wp_region_quiet_below (by kernel_rfl) (by kernel_rfl) ?_
            repeat (go_big_quiet_step (first | exact cq0 _ _ | exact cq1 _ _))
            refine wpQuiet_nil ?_
            rintro _ ⟨⟨dq, osq⟩, rfl⟩
            have hb6 := below_regrown ((wr.alloc (.cells #[.string X.n, .string X.v] 134))) dq osq
            generalize grow (redrawn ((wr.alloc (.cells #[.string X.n, .string X.v] 134))) dq) osq = w6 at *
            clear kq0 kq1 kq2 kq3 cq0 cq1
            have hb7 := HBW.out.trans (hb6.mono HBS)
            go_wp2
            try rw [Exit.noGoto_ret]
            go_ret
            exact ⟨rfl, hb7⟩
          · have HU2 : Hid (LV.Upto L (p + 1 + 1)) := HU.out.step (by omega) (by rw [HX.out.1]; exact HX.out.2) (fun h => by rw [HX.out.1]; show F.ltN (L[p]'(by omega)).n X.n = true; rw [HY.out]; exact hlt2)
            have q4 : ¬ 0 ≤ C := fun h => by rw [hge.1 h] at hlt2; cases hlt2
            have q5 : decide (0 ≤ C) = false := decide_eq_false q4
            clear hrs HVV HX HU HA HR hge hlt2 HSM
            go_wp2
            have kq0 := cell_regrown (w := (wr.alloc (.cells #[.string X.n, .string X.v] 134))) z0
            have kq1 := cell_regrown (w := (wr.alloc (.cells #[.string X.n, .string X.v] 134))) z1
            have kq2 := cell_regrown (w := (wr.alloc (.cells #[.string X.n, .string X.v] 134))) z4
            have kq3 := cell_regrown (w := (wr.alloc (.cells #[.string X.n, .string X.v] 134))) z5
            have cq0 := fun d os => Calls.regrown_of (w := (wr.alloc (.cells #[.string X.n, .string X.v] 134))) (d := d) (os := os) (HOK.out _)
            have cq1 := fun d os => Calls.regrown_of (w := (wr.alloc (.cells #[.string X.n, .string X.v] 134))) (d := d) (os := os) (HCM.out _)
            refine wp_region_quiet_below (by kernel_rfl) (by kernel_rfl) ?_
            repeat (go_big_quiet_step (first | exact cq0 _ _ | exact cq1 _ _))
            refine wpQuiet_nil ?_
            rintro _ ⟨⟨dq, osq⟩, rfl⟩
            have hb6 := below_regrown ((wr.alloc (.cells #[.string X.n, .string X.v] 134))) dq osq
            generalize grow (redrawn ((wr.alloc (.cells #[.string X.n, .string X.v] 134))) dq) osq = w6 at *
            clear kq0 kq1 kq2 kq3 cq0 cq1
            have hb7 := HBW.out.trans (hb6.mono HBS)
            go_wp2
            go_roundw
            case rel => exact ⟨p + 1 + 1, by omega, by go_num, HU2, hb7⟩
            case measure => simp [intOf]; omega
    · have hme : m = n := by omega
      have hF : R = true := by rw [← HR.out, LV.leavesB_iff]; exact LV.Upto.ok (by rw [hn, ← hme]; exact HU.out) (by omega)
      subst hF
      subst hme
      clear HU HR HVV HA HSM
      go_wp2
      go_ret
      exact ⟨rfl, hbel⟩

set_option maxRecDepth 100000 in
set_option maxHeartbeats 1000000 in
theorem sLeavesOk_any (v : Value) (ga oa : Nat) (L : List Le) (w : World) (hv : RS 2 lcs w v ga oa L) (hsm : SmallL L) :
    Calls Tryz.prog 183 #[v] w fun e w' => e = .returned (.bool (LV.leavesB L)) ∧ Below w.heap.size w w' := by
  obtain ⟨R, hR⟩ : ∃ R, LV.leavesB L = R := ⟨_, rfl⟩
  have HVV : Hid (RS 2 lcs w v ga oa L) := hv
  obtain ⟨a, cap, rfl, hl, hA, hc⟩ := hv
  obtain ⟨n, hn⟩ : ∃ n, L.length = n := ⟨_, rfl⟩
  have HA : Hid (0 < n → a = some ⟨ga, oa, none⟩) := by rw [← hn]; exact fun h => (hA h).1
  have HSM : Hid (SmallL L) := hsm
  have HR : Hid (LV.leavesB L = R) := hR
  have HST : Hid (LoR L w (.int .i64 0) w) := ⟨0, by omega, rfl, LV.Upto.zero L, Below.refl _ _⟩
  rw [hR]
  rw [hn] at hl ⊢
  clear hc hA hR hsm
  go_enter Tryz.func183, Tryz.ntmps183
  go_wp2
  go_loopw [3] (fun i wr => LoR L w i wr) (fun i _ => n - (intOf i).toNat)
  case atStart => exact HST.out
  case round =>
    obtain ⟨m, hm, rfl, HU, hbel⟩ := hrel
    rw [hn] at hm
    clear HST
    by_cases hlt : m < n
    · have ea := HA.out (by omega)
      subst ea
      have hrs := HVV.out.later hbel
      obtain ⟨c0, c1⟩ := hrs.leaf m (by omega)
      have i1 : (m : Int) < (n : Int) := by omega
      have i2 : (0 : Int) ≤ (m : Int) := by omega
      obtain ⟨X, hX⟩ : ∃ X, L[m]'(by omega) = X := ⟨_, rfl⟩
      rw [hX] at c0 c1
      have hxs := HSM.out X (by rw [← hX]; exact List.getElem_mem _)
      obtain ⟨b, hb⟩ : ∃ b, okB nameB X.n = b := ⟨_, rfl⟩
      obtain ⟨b2, hb2⟩ : ∃ b2, okB valB X.v = b2 := ⟨_, rfl⟩
      have HNM : Hid (∀ W, Calls Tryz.prog 153 #[.string X.n] W fun e w' => e = .returned (.bool b) ∧ Below W.heap.size W w') := fun W => hb ▸ (sNameOk_any X.n W hxs.1).mono fun e w' ⟨he, hw⟩ => ⟨he, hw ▸ Below.refl _ _⟩
      have HVL : Hid (∀ W, Calls Tryz.prog 154 #[.string X.v] W fun e w' => e = .returned (.bool b2) ∧ Below W.heap.size W w') := fun W => hb2 ▸ (sValueOk_any X.v W hxs.2).mono fun e w' ⟨he, hw⟩ => ⟨he, hw ▸ Below.refl _ _⟩
      have HX : Hid (L[m]'(by omega) = X ∧ LV.leB X = (b && b2)) := ⟨hX, by rw [← hb, ← hb2]; rfl⟩
      clear hX hb hb2 hxs
      have HBW : Hid (Below w.heap.size w wr) := hbel
      have HBS : w.heap.size ≤ wr.heap.size := hbel.size
      clear hbel
      cases hfl : LV.leB X
      · have hF : R = false := by rw [← HR.out, LV.leavesB_no]; exact LV.not_ok_le (m := m) (by omega) (by rw [HX.out.1]; exact hfl)
        subst hF
        rw [HX.out.2] at hfl
        clear hrs HVV HX HU HA HR HSM
        cases b
        · clear hfl
          go_wp2
          have kq0 := cell_regrown (w := wr) c0
          have kq1 := cell_regrown (w := wr) c1
          have cq0 := fun d os => Calls.regrown_of (w := wr) (d := d) (os := os) (HNM.out _)
          have cq1 := fun d os => Calls.regrown_of (w := wr) (d := d) (os := os) (HVL.out _)
          refine wp_region_quiet_below (by kernel_rfl) (by kernel_rfl) ?_
          repeat (go_big_quiet_step (first | exact cq0 _ _ | exact cq1 _ _))
          refine wpQuiet_nil ?_
          rintro _ ⟨⟨dq, osq⟩, rfl⟩
          have hb6 := below_regrown (wr) dq osq
          generalize grow (redrawn (wr) dq) osq = w6 at *
          clear kq0 kq1 cq0 cq1
          have hb7 := HBW.out.trans (hb6.mono HBS)
          go_wp2
          try rw [Exit.noGoto_ret]
          go_ret
          exact ⟨rfl, hb7⟩
        · obtain rfl : b2 = false := by simpa using hfl
          clear hfl
          go_wp2
          have kq0 := cell_regrown (w := wr) c0
          have kq1 := cell_regrown (w := wr) c1
          have cq0 := fun d os => Calls.regrown_of (w := wr) (d := d) (os := os) (HNM.out _)
          have cq1 := fun d os => Calls.regrown_of (w := wr) (d := d) (os := os) (HVL.out _)
          refine wp_region_quiet_below (by kernel_rfl) (by kernel_rfl) ?_
          repeat (go_big_quiet_step (first | exact cq0 _ _ | exact cq1 _ _))
          refine wpQuiet_nil ?_
          rintro _ ⟨⟨dq, osq⟩, rfl⟩
          have hb6 := below_regrown (wr) dq osq
          generalize grow (redrawn (wr) dq) osq = w6 at *
          clear kq0 kq1 cq0 cq1
          have hb7 := HBW.out.trans (hb6.mono HBS)
          go_wp2
          try rw [Exit.noGoto_ret]
          go_ret
          exact ⟨rfl, hb7⟩
      · have hfl2 := hfl
        rw [HX.out.2, Bool.and_eq_true] at hfl2
        obtain ⟨rfl, rfl⟩ := hfl2
        by_cases h0 : m = 0
        · have HU2 : Hid (LV.Upto L (m + 1)) := HU.out.step (by omega) (by rw [HX.out.1]; exact hfl) (fun h => by omega)
          have q0 : ¬ (0 : Int) < (m : Int) := by omega
          have q0' : decide (0 < m) = false := decide_eq_false (by omega)
          clear hrs HVV HX HU HA HR h0 HSM hfl
          go_wp2
          have kq0 := cell_regrown (w := wr) c0
          have kq1 := cell_regrown (w := wr) c1
          have cq0 := fun d os => Calls.regrown_of (w := wr) (d := d) (os := os) (HNM.out _)
          have cq1 := fun d os => Calls.regrown_of (w := wr) (d := d) (os := os) (HVL.out _)
          refine wp_region_quiet_below (by kernel_rfl) (by kernel_rfl) ?_
          repeat (go_big_quiet_step (first | exact cq0 _ _ | exact cq1 _ _))
          refine wpQuiet_nil ?_
          rintro _ ⟨⟨dq, osq⟩, rfl⟩
          have hb6 := below_regrown (wr) dq osq
          generalize grow (redrawn (wr) dq) osq = w6 at *
          clear kq0 kq1 cq0 cq1
          have hb7 := HBW.out.trans (hb6.mono HBS)
          go_wp2
          go_roundw
          case rel => exact ⟨m + 1, by omega, by go_num, HU2, hb7⟩
          case measure => simp [intOf]; omega
        · obtain ⟨p, rfl⟩ : ∃ p, m = p + 1 := ⟨m - 1, by omega⟩
          obtain ⟨e0, _⟩ := hrs.leaf p (by omega)
          obtain ⟨Y, hY⟩ : ∃ Y, (L[p]'(by omega)).n = Y := ⟨_, rfl⟩
          rw [hY] at e0
          have HY : Hid ((L[p]'(by omega)).n = Y) := hY
          clear hY
          have q0 : (0 : Int) < ((p + 1 : Nat) : Int) := by omega
          have q0' : decide ((0 : Int) < ((p + 1 : Nat) : Int)) = true := decide_eq_true q0
          have q0'' : decide ((0 : Int) < (p : Int) + 1) = true := decide_eq_true (by omega)
          have j1' : IntKind.i64.wrap (p : Int) = (p : Int) := IntWalk.i64_in _ (by omega)
          have j2 : (0 : Int) ≤ (p : Int) := by omega
          have j3 : (p : Int) < (n : Int) := by omega
          cases hlt2 : F.ltN Y X.n
          · have hF : R = false := by rw [← HR.out, LV.leavesB_no]; exact LV.not_ok_adj (m := p + 1) (by omega) (by omega) (by rw [HX.out.1]; show F.ltN (L[p]'(by omega)).n X.n = false; rw [HY.out]; exact hlt2)
            subst hF
            have q4 : Op.bytesLess Y.toList X.n.toList = false := hlt2
            clear hrs HVV HX HU HA HR HSM hfl
            go_wp2
            have kq0 := cell_regrown (w := wr) c0
            have kq1 := cell_regrown (w := wr) c1
            have kq2 := cell_regrown (w := wr) e0
            have cq0 := fun d os => Calls.regrown_of (w := wr) (d := d) (os := os) (HNM.out _)
            have cq1 := fun d os => Calls.regrown_of (w := wr) (d := d) (os := os) (HVL.out _)
            refine wp_region_quiet_below (by kernel_rfl) (by kernel_rfl) ?_
            repeat (go_big_quiet_step (first | exact cq0 _ _ | exact cq1 _ _))
            refine wpQuiet_nil ?_
            rintro _ ⟨⟨dq, osq⟩, rfl⟩
            have hb6 := below_regrown (wr) dq osq
            generalize grow (redrawn (wr) dq) osq = w6 at *
            clear kq0 kq1 kq2 cq0 cq1
            have hb7 := HBW.out.trans (hb6.mono HBS)
            go_wp2
            try rw [Exit.noGoto_ret]
            go_ret
            exact ⟨rfl, hb7⟩
          · have HU2 : Hid (LV.Upto L (p + 1 + 1)) := HU.out.step (by omega) (by rw [HX.out.1]; exact hfl) (fun h => by rw [HX.out.1]; show F.ltN (L[p]'(by omega)).n X.n = true; rw [HY.out]; exact hlt2)
            have q4 : Op.bytesLess Y.toList X.n.toList = true := hlt2
            clear hrs HVV HX HU HA HR HSM hfl
            go_wp2
            have kq0 := cell_regrown (w := wr) c0
            have kq1 := cell_regrown (w := wr) c1
            have kq2 := cell_regrown (w := wr) e0
            have cq0 := fun d os => Calls.regrown_of (w := wr) (d := d) (os := os) (HNM.out _)
            have cq1 := fun d os => Calls.regrown_of (w := wr) (d := d) (os := os) (HVL.out _)
            refine wp_region_quiet_below (by kernel_rfl) (by kernel_rfl) ?_
            repeat (go_big_quiet_step (first | exact cq0 _ _ | exact cq1 _ _))
            refine wpQuiet_nil ?_
            rintro _ ⟨⟨dq, osq⟩, rfl⟩
            have hb6 := below_regrown (wr) dq osq
            generalize grow (redrawn (wr) dq) osq = w6 at *
            clear kq0 kq1 kq2 cq0 cq1
            have hb7 := HBW.out.trans (hb6.mono HBS)
            go_wp2
            go_roundw
            case rel => exact ⟨p + 1 + 1, by omega, by go_num, HU2, hb7⟩
            case measure => simp [intOf]; omega
    · have hme : m = n := by omega
      by_cases h24 : n ≤ 24
      · have hF : R = true := by rw [← HR.out, LV.leavesB_iff]; exact LV.Upto.ok (by rw [hn, ← hme]; exact HU.out) (by omega)
        subst hF
        subst hme
        have q : (m : Int) ≤ 24 := by omega
        clear HU HR HVV HA HSM
        go_wp2
        go_ret
        exact ⟨rfl, hbel⟩
      · have hF : R = false := by rw [← HR.out, LV.leavesB_no]; exact fun h => by have := h.1; omega
        subst hF
        subst hme
        have q : ¬ (m : Int) ≤ 24 := by omega
        clear HU HR HVV HA HSM
        go_wp2
        go_ret
        exact ⟨rfl, hbel⟩

end Go.Proofs.YthlgohplljcgfaaGreatDoor
/-
  A leaf looked for, a leaf and a row of leaves copied: the program's and the specification's answers.
-/
namespace Go.Proofs.YthlgohplljcgfaaGreatDoor
open Go.RowKit Go.BigFrame Go.Sort
set_option linter.unusedVariables false
set_option linter.unusedSimpArgs false

namespace LV
/-- none of the first m has this name -/
def NotIn (L : List Le) (x : ByteArray) (m : Nat) : Prop := ∀ j (h : j < L.length), j < m → L[j].n ≠ x
theorem NotIn.zero (L : List Le) (x : ByteArray) : NotIn L x 0 := fun j _ h => by omega
theorem NotIn.step {L : List Le} {x : ByteArray} {m : Nat} (h : NotIn L x m) (hm : m < L.length) (hne : L[m].n ≠ x) : NotIn L x (m + 1) := by
  intro j hj hlt
  rcases Nat.lt_or_ge j m with h1 | h1
  · exact h j hj h1
  · have : j = m := by omega
    subst this
    exact hne
theorem NotIn.here {L : List Le} {x : ByteArray} {m : Nat} (h : NotIn L x m) (hm : m < L.length) (he : L[m].n = x) : find L x = some L[m] := by
  have h1 : L = L.take m ++ L[m] :: L.drop (m + 1) := by simp
  unfold find
  rw [List.find?_eq_some_iff_append]
  refine ⟨by simpa using he, L.take m, L.drop (m + 1), by simp, fun a ha => ?_⟩
  obtain ⟨j, hj, rfl⟩ := List.getElem_of_mem ha
  rw [List.length_take] at hj
  rw [List.getElem_take]
  simpa using h j (by omega) (by omega)
theorem NotIn.none {L : List Le} {x : ByteArray} (h : NotIn L x L.length) : find L x = none := by
  unfold find
  rw [List.find?_eq_none]
  intro a ha
  obtain ⟨j, hj, rfl⟩ := List.getElem_of_mem ha
  simpa using h j hj hj
theorem get_some {L : List Le} {x : ByteArray} {f : Le} (h : find L x = some f) : getV L x = f.v ∧ getB L x = true := by
  unfold getV getB
  rw [h]
  exact ⟨rfl, rfl⟩
theorem get_none {L : List Le} {x : ByteArray} (h : find L x = none) : getV L x = ⟨#[]⟩ ∧ getB L x = false := by
  unfold getV getB
  rw [h]
  exact ⟨rfl, rfl⟩
theorem bytes_ne {a b : ByteArray} (h : a ≠ b) : (a.toList == b.toList) = false := by
  rw [beq_eq_false_iff_ne]
  exact fun e => h (F.toList_inj e)
end LV

def LgR (L : List Le) (x : ByteArray) (w : World) (i : Value) (wr : World) : Prop := ∃ m : Nat, m ≤ L.length ∧ i = .int .i64 m ∧ Hid (LV.NotIn L x m) ∧ Below w.heap.size w wr

set_option maxRecDepth 100000 in
set_option maxHeartbeats 1000000 in
theorem sLeafGet_any (v : Value) (ga oa : Nat) (L : List Le) (x : ByteArray) (w : World) (hv : RS 2 lcs w v ga oa L) :
    Calls Tryz.prog 182 #[v, .string x] w fun e w' => e = .returned (.tuple #[.string (LV.getV L x), .bool (LV.getB L x)]) ∧ Below w.heap.size w w' := by
  obtain ⟨R, hR⟩ : ∃ R, LV.getV L x = R := ⟨_, rfl⟩
  obtain ⟨b, hb⟩ : ∃ b, LV.getB L x = b := ⟨_, rfl⟩
  have HVV : Hid (RS 2 lcs w v ga oa L) := hv
  obtain ⟨a, cap, rfl, hl, hA, hc⟩ := hv
  obtain ⟨n, hn⟩ : ∃ n, L.length = n := ⟨_, rfl⟩
  have HA : Hid (0 < n → a = some ⟨ga, oa, none⟩) := by rw [← hn]; exact fun h => (hA h).1
  have HR : Hid (LV.getV L x = R ∧ LV.getB L x = b) := ⟨hR, hb⟩
  have HST : Hid (LgR L x w (.int .i64 0) w) := ⟨0, by omega, rfl, LV.NotIn.zero L x, Below.refl _ _⟩
  rw [hR, hb]
  rw [hn] at hl ⊢
  clear hc hA hR hb
  go_enter Tryz.func182, Tryz.ntmps182
  go_wp2
  go_loopw [6] (fun i wr => LgR L x w i wr) (fun i _ => n - (intOf i).toNat)
  case atStart => exact HST.out
  case round =>
    obtain ⟨m, hm, rfl, HU, hbel⟩ := hrel
    rw [hn] at hm
    clear HST
    by_cases hlt : m < n
    · have ea := HA.out (by omega)
      subst ea
      have hrs := HVV.out.later hbel
      obtain ⟨c0, c1⟩ := hrs.leaf m (by omega)
      have i1 : (m : Int) < (n : Int) := by omega
      have i2 : (0 : Int) ≤ (m : Int) := by omega
      obtain ⟨X, hX⟩ : ∃ X, L[m]'(by omega) = X := ⟨_, rfl⟩
      rw [hX] at c0 c1
      clear HVV hrs HA
      by_cases he : X.n = x
      · have hF := LV.get_some (HU.out.here (by omega) (by rw [hX]; exact he))
        rw [hX, HR.out.1, HR.out.2] at hF
        obtain ⟨rfl, rfl⟩ := hF
        have q : (X.n.toList == x.toList) = true := by rw [he]; simp
        clear HU HR hX he
        go_wp2
        try rw [Exit.noGoto_ret]
        go_ret2
        exact ⟨rfl, hbel⟩
      · have HU2 : Hid (LV.NotIn L x (m + 1)) := HU.out.step (by omega) (by rw [hX]; exact he)
        have q : (X.n.toList == x.toList) = false := LV.bytes_ne he
        clear HU HR hX he
        go_wp2
        go_roundw
        case rel => exact ⟨m + 1, by omega, by go_num, HU2, hbel⟩
        case measure => simp [intOf]; omega
    · have hme : m = n := by omega
      have hF := LV.get_none (L := L) (x := x) (LV.NotIn.none (by rw [hn, ← hme]; exact HU.out))
      rw [HR.out.1, HR.out.2] at hF
      obtain ⟨rfl, rfl⟩ := hF
      subst hme
      clear HU HR HVV HA
      go_wp2
      go_ret2
      exact ⟨rfl, hbel⟩

end Go.Proofs.YthlgohplljcgfaaGreatDoor
/-
  A leaf put into a list, and dropped from it: the specification's answers.
-/
namespace Go.Proofs.YthlgohplljcgfaaGreatDoor
open Go.RowKit Go.BigFrame Go.Sort
set_option linter.unusedVariables false
set_option linter.unusedSimpArgs false

section
variable {w : World} {ops : Array Oper} {o : Oper} {a : Act} {Q : Exit → Act → World → Prop}
/-- a leaf appended, and where the row lies then -/
theorem wp_leafL {rest : List Oper} (hgd : o.guard = none) (s x : Operand)
    (ho : o.op = .call { callee := .builtin .append, args := #[s, x], argTypes := #[59, 59] })
    (B : Nat) (w0 : World) (u : Value) (l : List Le) (f : Le) (hs : a.eval s = u) (h : OL B w0 w u l) (p : Nat) (hx : a.eval x = .slice (some ⟨p, 0, none⟩) 1 1)
    (hnews : w.rangeAt p 0 (lcs f)) (hlen : l.length + 1 ≤ 4000000)
    (hk : ∀ g cap w', OL B w0 w' (.slice (some ⟨g, 0, none⟩) (l.length + 1) cap) (l ++ [f]) → w.grownBy w' u.ownBlock → (u.ownBlock = some g ∨ g = w.heap.size) → wpList Tryz.prog ops Q rest (a.put o.dst (.slice (some ⟨g, 0, none⟩) (l.length + 1) cap)) w') : wpList Tryz.prog ops Q (o :: rest) a w := by
  obtain ⟨i0, hi, hz0, hz1, hz2⟩ := info_parts Tryz.infoLeaf
  refine wpList_append_lies w hgd s x 59 ho B 134 i0 _ 2 32 Tryz.underlying59 hi hz0 hz1 hz2 rfl (by decide) u l.length (l.flatMap lcs) hs h.1 ⟨p, 0, none⟩ 1 1 (lcs f) hx rfl ?_
    (fun u hu => by simp [lcs] at hu; rcases hu with rfl | rfl <;> rfl) (by omega) (by unfold maxLen; omega) (by omega) h.2.2 w.heap.size rfl ?_
  · intro j u hj
    have := hnews j u hj
    rw [Addr.add_mid]
    exact this
  · intro g cap w' h1 h2 h3 _
    exact hk _ _ _ ⟨by rw [List.flatMap_append, List.flatMap_singleton, List.length_append]; exact h1, h.2.1.grown h2 h.2.2 (fun k hk => (h.1.lt k hk).1), Nat.le_trans h.2.2 h2.size⟩ h2 h3

theorem flat_cellsL {w : World} {g o : Nat} {l : List Le} (h : ∀ j (h : j < l.length), w.rangeAt g (o + j * 2) (lcs l[j])) : ∀ j u, (l.flatMap lcs)[j]? = some u → w.cell? ⟨g, o + j, none⟩ = some u := by
  intro j u hu
  have hl := flat_len (k := 2) (enc := lcs) (fun x => lcs_len x) l
  have hj : j < l.length * 2 := by rw [← hl]; exact (List.getElem?_eq_some_iff.1 hu).1
  have e : j = j / 2 * 2 + j % 2 := by omega
  have hq : j / 2 < l.length := by omega
  rw [e, flat_at (k := 2) (enc := lcs) (fun x => lcs_len x) l (j / 2) hq (j % 2) (by omega)] at hu
  have := h (j / 2) hq (j % 2) u hu
  rw [e, ← Nat.add_assoc]
  exact this
theorem oneL {l : List Le} : ∀ u ∈ l.flatMap lcs, u.oneCell' = true := fun u hu => by
  obtain ⟨f, _, hf⟩ := List.mem_flatMap.1 hu
  simp [lcs] at hf
  rcases hf with rfl | rfl <;> rfl
/-- a whole row of leaves appended to an empty one -/
theorem wp_rowL {rest : List Oper} (hgd : o.guard = none) (s x : Operand)
    (ho : o.op = .call { callee := .builtin .append, args := #[s, x], argTypes := #[59, 59] })
    (B : Nat) (w0 : World) (g : Nat) (hs : a.eval s = .slice (some ⟨g, 0, none⟩) 0 0) (h : OL B w0 w (.slice (some ⟨g, 0, none⟩) 0 0) []) (p : Option Addr) (ga oa cap : Nat) (l : List Le) (hx : a.eval x = .slice p l.length cap) (hv : RS 2 lcs w (.slice p l.length cap) ga oa l) (hnil : p = none → cap = 0)
    (hk : ∀ v' w', OL B w0 w' v' l → wpList Tryz.prog ops Q rest (a.put o.dst v') w') : wpList Tryz.prog ops Q (o :: rest) a w := by
  obtain ⟨i0, hi, hz0, hz1, hz2⟩ := info_parts Tryz.infoLeaf
  obtain ⟨p', cap', ev, hlen, hA, hc⟩ := hv
  obtain ⟨rfl, rfl⟩ : p = p' ∧ cap = cap' := by simpa using ev
  by_cases h0 : l.length = 0
  · have : l = [] := List.length_eq_zero_iff.1 h0
    subst this
    refine wpList_append_fits_any w hgd s x 59 ho B 134 i0 2 Tryz.underlying59 hi hz1 g 0 0 [] hs h.1 p 0 cap [] hx rfl (fun e => ⟨rfl, hnil e⟩) (fun ad _ j u hu => by simp at hu) (fun u hu => by cases hu) (by omega) ?_
    intro w' h1 h2
    exact hk _ _ ⟨by simpa using h1, h.2.1.grown h2 h.2.2 (fun k hk => (h.1.lt k hk).1), Nat.le_trans h.2.2 h2.size⟩
  · obtain ⟨rfl, hg⟩ := hA (by omega)
    refine wpList_append_own _ hgd s x 59 ho B 134 i0 _ 2 32 Tryz.underlying59 hi hz0 hz1 hz2 rfl (by decide) _ 0 [] hs h.1 ⟨ga, oa, none⟩ l.length cap (l.flatMap lcs) hx (flat_len (k := 2) (enc := lcs) (fun x => lcs_len x) l) ?_ oneL (by unfold maxLen; omega) (by omega) h.2.2 ?_
    · intro j u hj
      have := flat_cellsL hc j u hj
      rw [Addr.add_mid]
      exact this
    · intro v' w' h1 h2 _
      exact hk _ _ ⟨by simpa using h1, h.2.1.grown h2 h.2.2 (fun k hk => (h.1.lt k hk).1), Nat.le_trans h.2.2 h2.size⟩
end

namespace LV
theorem filt_step {L : List Le} {m : Nat} (P : Le → Bool) (hm : m < L.length) : (L.take (m + 1)).filter P = if P L[m] = true then (L.take m).filter P ++ [L[m]] else (L.take m).filter P := by
  rw [List.take_succ_eq_append_getElem hm, List.filter_append]
  by_cases h : P L[m] = true
  · simp [h]
  · simp [h]
theorem filt_len (L : List Le) (m : Nat) (P : Le → Bool) : ((L.take m).filter P).length ≤ L.length := Nat.le_trans (List.length_filter_le _ _) (by simp; omega)
end LV

/-- the leaves of a row that P wants, behind those of l0 -/
def NaR (B : Nat) (w0 : World) (ga : Nat) (l0 : List Le) (P : Le → Bool) (L : List Le) (V : World) (u i : Value) (wr : World) : Prop := ∃ m : Nat, m ≤ L.length ∧ i = .int .i64 m ∧ Hid (OL B w0 wr u (l0 ++ (L.take m).filter P) ∧ (0 < L.length → wr.heap[ga]? = V.heap[ga]? ∧ u.ownBlock ≠ some ga ∧ ga < wr.heap.size))

set_option maxRecDepth 100000 in
set_option maxHeartbeats 1000000 in
theorem l09Without_any (v : Value) (ga oa : Nat) (L : List Le) (x : ByteArray) (w : World) (hv : RS 2 lcs w v ga oa L) :
    Calls Tryz.prog 184 #[v, .string x] w fun e w' => ∃ u, e = .returned u ∧ OL w.heap.size w w' u (LV.wout L x) := by
  have HV : Hid (RS 2 lcs w v ga oa L) := hv
  obtain ⟨a, cap, rfl, hl, hA, _⟩ := hv
  obtain ⟨n, hn⟩ : ∃ n, L.length = n := ⟨_, rfl⟩
  have HA : Hid (0 < n → a = some ⟨ga, oa, none⟩ ∧ ga < w.heap.size) := by rw [← hn]; exact hA
  rw [hn] at hl HV ⊢
  clear hA
  have HST : Hid (∃ m : Nat, m ≤ L.length ∧ Value.int .i64 0 = .int .i64 m ∧ Hid (OL w.heap.size w (w.alloc (.cells #[] 134)) (.slice (some ⟨w.heap.size, 0, none⟩) 0 0) (LV.wout (L.take m) x))) := ⟨0, by omega, rfl, OL.made _ w w (Below.refl _ _) (Nat.le_refl _)⟩
  go_enter Tryz.func184, Tryz.ntmps184
  go_wp2
  go_loopw [5, 6] (fun u i wr => ∃ m : Nat, m ≤ L.length ∧ i = .int .i64 m ∧ Hid (OL w.heap.size w wr u (LV.wout (L.take m) x))) (fun _ i _ => n - (intOf i).toNat)
  case atStart => exact HST.out
  case round =>
    obtain ⟨m, hm, rfl, HI⟩ := hrel
    clear HST
    rw [hn] at hm
    obtain ⟨au, cu, rfl⟩ := HI.out.shape
    by_cases hlt : m < n
    · have ea := (HA.out (by omega)).1
      subst ea
      obtain ⟨c0, c1⟩ := (HV.out.later HI.out.2.1).leaf m (by omega)
      obtain ⟨X, hX⟩ : ∃ X, L[m]'(by omega) = X := ⟨_, rfl⟩
      rw [hX] at c0 c1
      have hst : LV.wout (L.take (m + 1)) x = if X.n = x then LV.wout (L.take m) x else LV.wout (L.take m) x ++ [X] := by
        have := LV.filt_step (L := L) (m := m) (fun g => !decide (g.n = x)) (by omega)
        rw [hX] at this
        unfold LV.wout
        rw [this]
        by_cases h : X.n = x <;> simp [h]
      have hle : (LV.wout (L.take m) x).length ≤ L.length := Nat.le_trans (LV.len_wout_le _ _) (by simp; omega)
      have i1 : (m : Int) < (n : Int) := by omega
      have i2 : (0 : Int) ≤ (m : Int) := by omega
      clear HV HA
      by_cases hk : X.n = x
      · rw [if_pos hk] at hst
        have HJ : Hid (OL w.heap.size w wr (.slice au (LV.wout (L.take m) x).length cu) (LV.wout (L.take (m + 1)) x)) := by rw [hst]; exact HI.out
        have q : (X.n.toList == x.toList) = true := by rw [hk]; simp
        clear HI hX hk hst
        generalize LV.wout (L.take m) x = l at *
        go_wp2
        go_roundw
        case rel => exact ⟨m + 1, by omega, by go_num, HJ⟩
        case measure => simp [intOf]; omega
      · rw [if_neg hk] at hst
        have HJ : Hid (LV.wout (L.take (m + 1)) x = LV.wout (L.take m) x ++ [X]) := hst
        have q : (X.n.toList == x.toList) = false := LV.bytes_ne hk
        clear hX hk hst
        generalize LV.wout (L.take m) x = l at *
        have hba : Below wr.heap.size wr (wr.alloc (.cells #[.string X.n, .string X.v] 134)) := (Below.refl _ _).alloc (Nat.le_refl _) _
        have hoa := HI.out.later hba
        have HRN : Hid ((wr.alloc (.cells #[.string X.n, .string X.v] 134)).rangeAt wr.heap.size 0 (lcs X)) := range_new _ [.string X.n, .string X.v] 134
        clear hba HI
        go_wp2_with (at_builtin; refine wp_leafL rfl _ _ rfl w.heap.size w (.slice au l.length cu) l X rfl hoa _ rfl HRN.out (by omega) ?_)
        intro g5 cap5 w5 ho5 hg5 hl5
        have HK : Hid (OL w.heap.size w w5 (.slice (some ⟨g5, 0, none⟩) (l.length + 1) cap5) (LV.wout (L.take (m + 1)) x)) := by rw [HJ.out]; exact ho5
        clear ho5 hg5 hl5 hoa HRN HJ c0 c1
        go_wp2
        go_roundw
        case rel => exact ⟨m + 1, by omega, by go_num, HK⟩
        case measure => simp [intOf]; omega
    · have hme : m = n := by omega
      have e : LV.wout (L.take m) x = LV.wout L x := by rw [List.take_of_length_le (by omega)]
      have HF : Hid (∃ u, Ending.returned (.slice au (LV.wout (L.take m) x).length cu) = .returned u ∧ OL w.heap.size w wr u (LV.wout L x)) := ⟨_, rfl, by rw [← e]; exact HI.out⟩
      generalize LV.wout (L.take m) x = l at *
      subst hme
      clear HI HA HV e
      go_wp2
      go_ret
      exact HF.out

end Go.Proofs.YthlgohplljcgfaaGreatDoor
