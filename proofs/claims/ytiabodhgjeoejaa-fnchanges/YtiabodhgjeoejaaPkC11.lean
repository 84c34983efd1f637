/-
  Texts laid together: Cs, Lc, Lo.
-/
import Derived.Shelf.Small.Strs
import Derived.Test.YtiabodhgjeoejaaProg
import Derived.Test.YtiabodhgjeoejaaPkC9
import Derived.Test.YtiabodhgjeoejaaPkC5
import Derived.Lib.QuietBelow
import Derived.BigQuiet
import Derived.Laws.Cover1
/-
  The library's own contract on strings.Compare, laid at this program: a table of numbers and one theorem.
-/
namespace Go.Proofs
open Go.Shelf
def Try.cmpStr_ren : Go.Shelf.Ren := ⟨fun | 106 => 88 | 213 => 96 | 265 => 100 | n => n, fun | 9 => 9 | 3 => 3 | n => n, fun | n => n⟩
theorem Try.cmpStr : Go.Proofs.Lays.n106 Try.prog Try.cmpStr_ren := {
  mixed := by kernel_rfl
  f106 := Try.func88.trans (congrArg some (by kernel_rfl))
  f213 := Try.func96.trans (congrArg some (by kernel_rfl))
  f265 := Try.func100.trans (congrArg some (by kernel_rfl))
  t3 := Try.underlying3
  a3 := Try.isAgg3
  z3 := Try.sizeOf3
  v3 := Try.zeroValue3
  t9 := Try.underlying9
  a9 := Try.isAgg9
  z9 := Try.sizeOf9
  v9 := Try.zeroValue9 }
end Go.Proofs
/-
  Two names compared; one leaf looked at, and copied.
-/
namespace Go.Proofs.Ytiabodhgjeoejaa
open Go.RowKit Go.BigFrame Go.Sort Go.Shelf
set_option linter.unusedVariables false
set_option linter.unusedSimpArgs false

namespace LV
theorem cmp_lt : ∀ (x y : List UInt8), Lib.compareBytes x y < 0 ↔ x < y
  | [], [] => by simp [Lib.compareBytes]
  | [], b :: y => by simp [Lib.compareBytes]
  | a :: x, [] => by simp [Lib.compareBytes]
  | a :: x, b :: y => by
    rw [Lib.compareBytes, List.cons_lt_cons_iff]
    by_cases h1 : a < b
    · simp [h1]
    · by_cases h2 : b < a
      · have h3 : a ≠ b := fun e => by subst e; exact h1 h2
        simp [h1, h2, h3]
      · have h3 : a = b := by
          have : a.toNat = b.toNat := by
            rw [UInt8.lt_iff_toNat_lt] at h1 h2
            omega
          exact UInt8.toNat_inj.1 this
        subst h3
        simp [h1, cmp_lt x y]
/-- how two names compare -/
def cmpN (a b : ByteArray) : Int := Lib.compareBytes a.data.toList b.data.toList
theorem cmpN_lt (a b : ByteArray) : cmpN a b < 0 ↔ F.ltN a b = true := by
  rw [F.ltN_eq, decide_eq_true_eq, F.toList_data, F.toList_data]
  exact cmp_lt _ _
theorem cmpN_ge (a b : ByteArray) : 0 ≤ cmpN a b ↔ F.ltN a b = false := by
  have := cmpN_lt a b
  cases h : F.ltN a b
  · rw [h] at this
    constructor
    · intro _; rfl
    · intro _
      rcases Int.lt_or_le (cmpN a b) 0 with h1 | h1
      · exact absurd (this.1 h1) (by simp)
      · exact h1
  · rw [h] at this
    have := this.2 rfl
    constructor
    · intro h1; omega
    · intro h1; cases h1
end LV

theorem Compare_any (a b : ByteArray) (w : World) : Calls Try.prog 88 #[.string a, .string b] w fun e w' => e = .returned (.int .i64 (LV.cmpN a b)) ∧ w' = w := by
  have h := Any.strings_Compare Try.cmpStr a b w
  exact h

set_option maxHeartbeats 400000 in
/-- two blocks are laid: the leaves' boxes -/
theorem compareNames_grow (a b : Le) (W : World) : Calls Try.prog 57 #[.agg #[.string a.n, .string a.v], .agg #[.string b.n, .string b.v]] W fun e w' => e = .returned (.int .i64 (LV.cmpN a.n b.n)) ∧ ∃ q os', w' = grow (W.drewN q) os' := by
  obtain ⟨an, av⟩ := a
  obtain ⟨bn, bv⟩ := b
  have hcon := fun W' => Compare_any an bn W'
  simp only
  generalize LV.cmpN an bn = r at hcon ⊢
  go_enter Try.func57, Try.ntmps57
  go_wp2_with (go_at_call 88; refine (hcon _).mono ?_; rintro e w' ⟨rfl, rfl⟩)
  go_ret
  exact ⟨rfl, 0, _, by rw [alloc_eq_grow, alloc_eq_grow, grow_grow]; rfl⟩
theorem below_grow (W : World) (q : Nat) (os : Array Obj) : RowKit.Below W.heap.size W (grow (W.drewN q) os) := by
  have h : RowKit.Below W.heap.size W (W.drewN q) := ⟨rfl, rfl, rfl, Nat.le_refl _, fun _ _ => rfl⟩
  exact h.trans (below_regrown (W.drewN q) _ os)
theorem compareNames_any (a b : Le) (W : World) : Calls Try.prog 57 #[.agg #[.string a.n, .string a.v], .agg #[.string b.n, .string b.v]] W fun e w' => e = .returned (.int .i64 (LV.cmpN a.n b.n)) ∧ Below W.heap.size W w' :=
  (compareNames_grow a b W).mono fun e w' ⟨he, q, os, hw⟩ => ⟨he, hw ▸ below_grow W q os⟩

set_option maxHeartbeats 400000 in
theorem leafOk_any (f : Le) (w : World) (hn : f.n.size ≤ 1048576) (hv : f.v.size ≤ 1048576) : Calls Try.prog 56 #[.agg #[.string f.n, .string f.v]] w fun e w' => e = .returned (.bool (LV.leB f)) ∧ Below w.heap.size w w' := by
  obtain ⟨x, t⟩ := f
  have HB : Hid (Below w.heap.size w (w.alloc (.cells #[.string x, .string t] 73))) := (Below.refl _ _).alloc (Nat.le_refl _) _
  obtain ⟨b, hb⟩ : ∃ b, okB nameB x = b := ⟨_, rfl⟩
  obtain ⟨b2, hb2⟩ : ∃ b2, okB valB t = b2 := ⟨_, rfl⟩
  have HN : Hid (∀ W, Calls Try.prog 87 #[.string x] W fun e w' => e = .returned (.bool b) ∧ w' = W) := fun W => hb ▸ NameOk_any x W hn
  have HV : Hid (∀ W, Calls Try.prog 60 #[.string t] W fun e w' => e = .returned (.bool b2) ∧ w' = W) := fun W => hb2 ▸ ValueOk_any t W hv
  have HF : Hid (LV.leB ⟨x, t⟩ = (b && b2)) := by rw [← hb, ← hb2]; rfl
  rw [HF.out]
  clear HF hb hb2 hn hv
  go_enter Try.func56, Try.ntmps56
  go_wp2_with fail
  refine (HN.out _).mono ?_
  rintro e w1 ⟨rfl, rfl⟩
  clear HN
  cases b
  · go_wp2
    go_ret
    exact ⟨rfl, HB.out⟩
  · go_wp2_with fail
    refine (HV.out _).mono ?_
    rintro e w1 ⟨rfl, rfl⟩
    go_wp2
    go_ret
    exact ⟨rfl, HB.out⟩

end Go.Proofs.Ytiabodhgjeoejaa
/-
  When leaves are right: the program's and the specification's answers.
-/
namespace Go.Proofs.Ytiabodhgjeoejaa
open Go.RowKit Go.BigFrame Go.Sort
set_option linter.unusedVariables false
set_option linter.unusedSimpArgs false

def LoR (L : List Le) (w : World) (i : Value) (wr : World) : Prop := ∃ m : Nat, m ≤ L.length ∧ i = .int .i64 m ∧ Hid (LV.Upto L m) ∧ Below w.heap.size w wr

set_option maxRecDepth 100000 in
set_option maxHeartbeats 1000000 in
theorem LeavesOk_any (v : Value) (ga oa : Nat) (L : List Le) (w : World) (hv : RS 2 lcs w v ga oa L) (hsm : SmallL L) :
    Calls Try.prog 21 #[v] w fun e w' => e = .returned (.bool (LV.leavesB L)) ∧ Below w.heap.size w w' := by
  obtain ⟨R, hR⟩ : ∃ R, LV.leavesB L = R := ⟨_, rfl⟩
  have HVV : Hid (RS 2 lcs w v ga oa L) := hv
  obtain ⟨a, cap, rfl, hl, hA, hc⟩ := hv
  obtain ⟨n, hn⟩ : ∃ n, L.length = n := ⟨_, rfl⟩
  have HA : Hid (0 < n → a = some ⟨ga, oa, none⟩) := by rw [← hn]; exact fun h => (hA h).1
  have HSM : Hid (SmallL L) := hsm
  have HR : Hid (LV.leavesB L = R) := hR
  have HST : Hid (LoR L w (.int .i64 0) w) := ⟨0, by omega, rfl, LV.Upto.zero L, Below.refl _ _⟩
  rw [hR]
  rw [hn] at hl ⊢
  clear hc hA hR hsm
  by_cases h24 : 24 < n
  · have q : (24 : Int) < (n : Int) := by omega
    have hF : R = false := by rw [← HR.out, LV.leavesB_no]; exact fun h => by have := h.1; omega
    subst hF
    go_enter Try.func21, Try.ntmps21
    go_wp2
    go_ret
    exact ⟨rfl, Below.refl _ _⟩
  have q : ¬ (24 : Int) < (n : Int) := by omega
  go_enter Try.func21, Try.ntmps21
  go_wp2
  go_loopw [10] (fun i wr => LoR L w i wr) (fun i _ => n - (intOf i).toNat)
  case atStart => exact HST.out
  case round =>
    obtain ⟨m, hm, rfl, HU, hbel⟩ := hrel
    rw [hn] at hm
    clear HST
    by_cases hlt : m < n
    · have ea := HA.out (by omega)
      subst ea
      have hrs := HVV.out.later hbel
      obtain ⟨c0, c1⟩ := hrs.leaf m (by omega)
      have i1 : (m : Int) < (n : Int) := by omega
      have i2 : (0 : Int) ≤ (m : Int) := by omega
      have hgs : ga < wr.heap.size := lt_of_cell c0
      obtain ⟨X, hX⟩ : ∃ X, L[m]'(by omega) = X := ⟨_, rfl⟩
      rw [hX] at c0 c1
      have hxs := HSM.out X (by rw [← hX]; exact List.getElem_mem _)
      obtain ⟨b, hb⟩ : ∃ b, LV.leB X = b := ⟨_, rfl⟩
      have HOK : Hid (∀ W, Calls Try.prog 56 #[.agg #[.string X.n, .string X.v]] W fun e w' => e = .returned (.bool b) ∧ Below W.heap.size W w') := fun W => hb ▸ leafOk_any X W hxs.1 hxs.2
      have HX : Hid (L[m]'(by omega) = X ∧ LV.leB X = b) := ⟨hX, hb⟩
      have HBW : Hid (Below w.heap.size w (wr.alloc (.cells #[.string X.n, .string X.v] 73))) := hbel.alloc hbel.size _
      have HBS : w.heap.size ≤ (wr.alloc (.cells #[.string X.n, .string X.v] 73)).heap.size := HBW.out.size
      clear hX hb hbel hxs
      have z0 : (wr.alloc (.cells #[.string X.n, .string X.v] 73)).cell? ⟨wr.heap.size, 0, none⟩ = some (.string X.n) := by simp
      have z1 : (wr.alloc (.cells #[.string X.n, .string X.v] 73)).cell? ⟨wr.heap.size, 1, none⟩ = some (.string X.v) := by simp
      cases b
      · have hF : R = false := by rw [← HR.out, LV.leavesB_no]; exact LV.not_ok_le (m := m) (by omega) (by rw [HX.out.1]; exact HX.out.2)
        subst hF
        clear hrs HVV HX HU HA HR HSM
        go_wp2
        have kq0 := cell_regrown (w := (wr.alloc (.cells #[.string X.n, .string X.v] 73))) z0
        have kq1 := cell_regrown (w := (wr.alloc (.cells #[.string X.n, .string X.v] 73))) z1
        have cq0 := fun d os => Calls.regrown_of (w := (wr.alloc (.cells #[.string X.n, .string X.v] 73))) (d := d) (os := os) (HOK.out _)
        refine wp_region_quiet_below (by kernel_rfl) (by kernel_rfl) ?_
        repeat (go_big_quiet_step (first | exact cq0 _ _))
        refine wpQuiet_nil ?_
        rintro _ ⟨⟨dq, osq⟩, rfl⟩
        have hb6 := below_regrown ((wr.alloc (.cells #[.string X.n, .string X.v] 73))) dq osq
        generalize grow (redrawn ((wr.alloc (.cells #[.string X.n, .string X.v] 73))) dq) osq = w6 at *
        clear kq0 kq1 cq0
        have hb7 := HBW.out.trans (hb6.mono HBS)
        go_wp2
        try rw [Exit.noGoto_ret]
        go_ret
        exact ⟨rfl, hb7⟩
      · by_cases h0 : m = 0
        · have HU2 : Hid (LV.Upto L (m + 1)) := HU.out.step (by omega) (by rw [HX.out.1]; exact HX.out.2) (fun h => by omega)
          have q0 : ¬ (0 : Int) < (m : Int) := by omega
          have q0' : decide (0 < m) = false := decide_eq_false (by omega)
          clear hrs HVV HX HU HA HR h0 HSM
          go_wp2
          have kq0 := cell_regrown (w := (wr.alloc (.cells #[.string X.n, .string X.v] 73))) z0
          have kq1 := cell_regrown (w := (wr.alloc (.cells #[.string X.n, .string X.v] 73))) z1
          have cq0 := fun d os => Calls.regrown_of (w := (wr.alloc (.cells #[.string X.n, .string X.v] 73))) (d := d) (os := os) (HOK.out _)
          refine wp_region_quiet_below (by kernel_rfl) (by kernel_rfl) ?_
          repeat (go_big_quiet_step (first | exact cq0 _ _))
          refine wpQuiet_nil ?_
          rintro _ ⟨⟨dq, osq⟩, rfl⟩
          have hb6 := below_regrown ((wr.alloc (.cells #[.string X.n, .string X.v] 73))) dq osq
          generalize grow (redrawn ((wr.alloc (.cells #[.string X.n, .string X.v] 73))) dq) osq = w6 at *
          clear kq0 kq1 cq0
          have hb7 := HBW.out.trans (hb6.mono HBS)
          go_wp2
          go_roundw
          case rel => exact ⟨m + 1, by omega, by go_num, HU2, hb7⟩
          case measure => simp [intOf]; omega
        · obtain ⟨p, rfl⟩ : ∃ p, m = p + 1 := ⟨m - 1, by omega⟩
          obtain ⟨e0, e1⟩ := hrs.leaf p (by omega)
          obtain ⟨Y, hY⟩ : ∃ Y, (L[p]'(by omega)) = Y := ⟨_, rfl⟩
          rw [hY] at e0 e1
          have HY : Hid ((L[p]'(by omega)) = Y) := hY
          clear hY
          have z4 : (wr.alloc (.cells #[.string X.n, .string X.v] 73)).cell? ⟨ga, oa + p * 2, none⟩ = some (.string Y.n) := (cell_kept (Below.heap_alloc _ _ ga hgs)).trans e0
          have z5 : (wr.alloc (.cells #[.string X.n, .string X.v] 73)).cell? ⟨ga, oa + p * 2 + 1, none⟩ = some (.string Y.v) := (cell_kept (Below.heap_alloc _ _ ga hgs)).trans e1
          have q0 : (0 : Int) < ((p + 1 : Nat) : Int) := by omega
          have q0' : decide ((0 : Int) < ((p + 1 : Nat) : Int)) = true := decide_eq_true q0
          have q0'' : decide ((0 : Int) < (p : Int) + 1) = true := decide_eq_true (by omega)
          have j1' : IntKind.i64.wrap (p : Int) = (p : Int) := IntWalk.i64_in _ (by omega)
          have j2 : (0 : Int) ≤ (p : Int) := by omega
          have j3 : (p : Int) < (n : Int) := by omega
          obtain ⟨C, hC⟩ : ∃ C, LV.cmpN Y.n X.n = C := ⟨_, rfl⟩
          have HCM : Hid (∀ W, Calls Try.prog 57 #[.agg #[.string Y.n, .string Y.v], .agg #[.string X.n, .string X.v]] W fun e w' => e = .returned (.int .i64 C) ∧ Below W.heap.size W w') := fun W => hC ▸ compareNames_any Y X W
          have hge := LV.cmpN_ge Y.n X.n
          rw [hC] at hge
          clear hC
          cases hlt2 : F.ltN Y.n X.n
          · have hF : R = false := by rw [← HR.out, LV.leavesB_no]; exact LV.not_ok_adj (m := p + 1) (by omega) (by omega) (by rw [HX.out.1]; show F.ltN (L[p]'(by omega)).n X.n = false; rw [HY.out]; exact hlt2)
            subst hF
            have q4 : 0 ≤ C := hge.2 hlt2
            have q5 : decide (0 ≤ C) = true := decide_eq_true q4
            clear hrs HVV HX HU HA HR hge hlt2 HSM
            go_wp2
            have kq0 := cell_regrown (w := (wr.alloc (.cells #[.string X.n, .string X.v] 73))) z0
            have kq1 := cell_regrown (w := (wr.alloc (.cells #[.string X.n, .string X.v] 73))) z1
            have kq2 := cell_regrown (w := (wr.alloc (.cells #[.string X.n, .string X.v] 73))) z4
            have kq3 := cell_regrown (w := (wr.alloc (.cells #[.string X.n, .string X.v] 73))) z5
            have cq0 := fun d os => Calls.regrown_of (w := (wr.alloc (.cells #[.string X.n, .string X.v] 73))) (d := d) (os := os) (HOK.out _)
            have cq1 := fun d os => Calls.regrown_of (w := (wr.alloc (.cells #[.string X.n, .string X.v] 73))) (d := d) (os := os) (HCM.out _)
            refine wp_region_quiet_below (by kernel_rfl) (by kernel_rfl) ?_
            repeat (go_big_quiet_step (first | exact cq0 _ _ | exact cq1 _ _))
            refine wpQuiet_nil ?_
            rintro _ ⟨⟨dq, osq⟩, rfl⟩
            have hb6 := below_regrown ((wr.alloc (.cells #[.string X.n, .string X.v] 73))) dq osq
            generalize grow (redrawn ((wr.alloc (.cells #[.string X.n, .string X.v] 73))) dq) osq = w6 at *
            clear kq0 kq1 kq2 kq3 cq0 cq1
            have hb7 := HBW.out.trans (hb6.mono HBS)
            go_wp2
            try rw [Exit.noGoto_ret]
            go_ret
            exact ⟨rfl, hb7⟩
          · have HU2 : Hid (LV.Upto L (p + 1 + 1)) := HU.out.step (by omega) (by rw [HX.out.1]; exact HX.out.2) (fun h => by rw [HX.out.1]; show F.ltN (L[p]'(by omega)).n X.n = true; rw [HY.out]; exact hlt2)
            have q4 : ¬ 0 ≤ C := fun h => by rw [hge.1 h] at hlt2; cases hlt2
            have q5 : decide (0 ≤ C) = false := decide_eq_false q4
            clear hrs HVV HX HU HA HR hge hlt2 HSM
            go_wp2
            have kq0 := cell_regrown (w := (wr.alloc (.cells #[.string X.n, .string X.v] 73))) z0
            have kq1 := cell_regrown (w := (wr.alloc (.cells #[.string X.n, .string X.v] 73))) z1
            have kq2 := cell_regrown (w := (wr.alloc (.cells #[.string X.n, .string X.v] 73))) z4
            have kq3 := cell_regrown (w := (wr.alloc (.cells #[.string X.n, .string X.v] 73))) z5
            have cq0 := fun d os => Calls.regrown_of (w := (wr.alloc (.cells #[.string X.n, .string X.v] 73))) (d := d) (os := os) (HOK.out _)
            have cq1 := fun d os => Calls.regrown_of (w := (wr.alloc (.cells #[.string X.n, .string X.v] 73))) (d := d) (os := os) (HCM.out _)
            refine wp_region_quiet_below (by kernel_rfl) (by kernel_rfl) ?_
            repeat (go_big_quiet_step (first | exact cq0 _ _ | exact cq1 _ _))
            refine wpQuiet_nil ?_
            rintro _ ⟨⟨dq, osq⟩, rfl⟩
            have hb6 := below_regrown ((wr.alloc (.cells #[.string X.n, .string X.v] 73))) dq osq
            generalize grow (redrawn ((wr.alloc (.cells #[.string X.n, .string X.v] 73))) dq) osq = w6 at *
            clear kq0 kq1 kq2 kq3 cq0 cq1
            have hb7 := HBW.out.trans (hb6.mono HBS)
            go_wp2
            go_roundw
            case rel => exact ⟨p + 1 + 1, by omega, by go_num, HU2, hb7⟩
            case measure => simp [intOf]; omega
    · have hme : m = n := by omega
      have hF : R = true := by rw [← HR.out, LV.leavesB_iff]; exact LV.Upto.ok (by rw [hn, ← hme]; exact HU.out) (by omega)
      subst hF
      subst hme
      clear HU HR HVV HA HSM
      go_wp2
      go_ret
      exact ⟨rfl, hbel⟩

set_option maxRecDepth 100000 in
set_option maxHeartbeats 1000000 in
theorem sLeavesOk_any (v : Value) (ga oa : Nat) (L : List Le) (w : World) (hv : RS 2 lcs w v ga oa L) (hsm : SmallL L) :
    Calls Try.prog 91 #[v] w fun e w' => e = .returned (.bool (LV.leavesB L)) ∧ Below w.heap.size w w' := by
  obtain ⟨R, hR⟩ : ∃ R, LV.leavesB L = R := ⟨_, rfl⟩
  have HVV : Hid (RS 2 lcs w v ga oa L) := hv
  obtain ⟨a, cap, rfl, hl, hA, hc⟩ := hv
  obtain ⟨n, hn⟩ : ∃ n, L.length = n := ⟨_, rfl⟩
  have HA : Hid (0 < n → a = some ⟨ga, oa, none⟩) := by rw [← hn]; exact fun h => (hA h).1
  have HSM : Hid (SmallL L) := hsm
  have HR : Hid (LV.leavesB L = R) := hR
  have HST : Hid (LoR L w (.int .i64 0) w) := ⟨0, by omega, rfl, LV.Upto.zero L, Below.refl _ _⟩
  rw [hR]
  rw [hn] at hl ⊢
  clear hc hA hR hsm
  go_enter Try.func91, Try.ntmps91
  go_wp2
  go_loopw [3] (fun i wr => LoR L w i wr) (fun i _ => n - (intOf i).toNat)
  case atStart => exact HST.out
  case round =>
    obtain ⟨m, hm, rfl, HU, hbel⟩ := hrel
    rw [hn] at hm
    clear HST
    by_cases hlt : m < n
    · have ea := HA.out (by omega)
      subst ea
      have hrs := HVV.out.later hbel
      obtain ⟨c0, c1⟩ := hrs.leaf m (by omega)
      have i1 : (m : Int) < (n : Int) := by omega
      have i2 : (0 : Int) ≤ (m : Int) := by omega
      obtain ⟨X, hX⟩ : ∃ X, L[m]'(by omega) = X := ⟨_, rfl⟩
      rw [hX] at c0 c1
      have hxs := HSM.out X (by rw [← hX]; exact List.getElem_mem _)
      obtain ⟨b, hb⟩ : ∃ b, okB nameB X.n = b := ⟨_, rfl⟩
      obtain ⟨b2, hb2⟩ : ∃ b2, okB valB X.v = b2 := ⟨_, rfl⟩
      have HNM : Hid (∀ W, Calls Try.prog 62 #[.string X.n] W fun e w' => e = .returned (.bool b) ∧ Below W.heap.size W w') := fun W => hb ▸ (sNameOk_any X.n W hxs.1).mono fun e w' ⟨he, hw⟩ => ⟨he, hw ▸ Below.refl _ _⟩
      have HVL : Hid (∀ W, Calls Try.prog 63 #[.string X.v] W fun e w' => e = .returned (.bool b2) ∧ Below W.heap.size W w') := fun W => hb2 ▸ (sValueOk_any X.v W hxs.2).mono fun e w' ⟨he, hw⟩ => ⟨he, hw ▸ Below.refl _ _⟩
      have HX : Hid (L[m]'(by omega) = X ∧ LV.leB X = (b && b2)) := ⟨hX, by rw [← hb, ← hb2]; rfl⟩
      clear hX hb hb2 hxs
      have HBW : Hid (Below w.heap.size w wr) := hbel
      have HBS : w.heap.size ≤ wr.heap.size := hbel.size
      clear hbel
      cases hfl : LV.leB X
      · have hF : R = false := by rw [← HR.out, LV.leavesB_no]; exact LV.not_ok_le (m := m) (by omega) (by rw [HX.out.1]; exact hfl)
        subst hF
        rw [HX.out.2] at hfl
        clear hrs HVV HX HU HA HR HSM
        cases b
        · clear hfl
          go_wp2
          have kq0 := cell_regrown (w := wr) c0
          have kq1 := cell_regrown (w := wr) c1
          have cq0 := fun d os => Calls.regrown_of (w := wr) (d := d) (os := os) (HNM.out _)
          have cq1 := fun d os => Calls.regrown_of (w := wr) (d := d) (os := os) (HVL.out _)
          refine wp_region_quiet_below (by kernel_rfl) (by kernel_rfl) ?_
          repeat (go_big_quiet_step (first | exact cq0 _ _ | exact cq1 _ _))
          refine wpQuiet_nil ?_
          rintro _ ⟨⟨dq, osq⟩, rfl⟩
          have hb6 := below_regrown (wr) dq osq
          generalize grow (redrawn (wr) dq) osq = w6 at *
          clear kq0 kq1 cq0 cq1
          have hb7 := HBW.out.trans (hb6.mono HBS)
          go_wp2
          try rw [Exit.noGoto_ret]
          go_ret
          exact ⟨rfl, hb7⟩
        · obtain rfl : b2 = false := by simpa using hfl
          clear hfl
          go_wp2
          have kq0 := cell_regrown (w := wr) c0
          have kq1 := cell_regrown (w := wr) c1
          have cq0 := fun d os => Calls.regrown_of (w := wr) (d := d) (os := os) (HNM.out _)
          have cq1 := fun d os => Calls.regrown_of (w := wr) (d := d) (os := os) (HVL.out _)
          refine wp_region_quiet_below (by kernel_rfl) (by kernel_rfl) ?_
          repeat (go_big_quiet_step (first | exact cq0 _ _ | exact cq1 _ _))
          refine wpQuiet_nil ?_
          rintro _ ⟨⟨dq, osq⟩, rfl⟩
          have hb6 := below_regrown (wr) dq osq
          generalize grow (redrawn (wr) dq) osq = w6 at *
          clear kq0 kq1 cq0 cq1
          have hb7 := HBW.out.trans (hb6.mono HBS)
          go_wp2
          try rw [Exit.noGoto_ret]
          go_ret
          exact ⟨rfl, hb7⟩
      · have hfl2 := hfl
        rw [HX.out.2, Bool.and_eq_true] at hfl2
        obtain ⟨rfl, rfl⟩ := hfl2
        by_cases h0 : m = 0
        · have HU2 : Hid (LV.Upto L (m + 1)) := HU.out.step (by omega) (by rw [HX.out.1]; exact hfl) (fun h => by omega)
          have q0 : ¬ (0 : Int) < (m : Int) := by omega
          have q0' : decide (0 < m) = false := decide_eq_false (by omega)
          clear hrs HVV HX HU HA HR h0 HSM hfl
          go_wp2
          have kq0 := cell_regrown (w := wr) c0
          have kq1 := cell_regrown (w := wr) c1
          have cq0 := fun d os => Calls.regrown_of (w := wr) (d := d) (os := os) (HNM.out _)
          have cq1 := fun d os => Calls.regrown_of (w := wr) (d := d) (os := os) (HVL.out _)
          refine wp_region_quiet_below (by kernel_rfl) (by kernel_rfl) ?_
          repeat (go_big_quiet_step (first | exact cq0 _ _ | exact cq1 _ _))
          refine wpQuiet_nil ?_
          rintro _ ⟨⟨dq, osq⟩, rfl⟩
          have hb6 := below_regrown (wr) dq osq
          generalize grow (redrawn (wr) dq) osq = w6 at *
          clear kq0 kq1 cq0 cq1
          have hb7 := HBW.out.trans (hb6.mono HBS)
          go_wp2
          go_roundw
          case rel => exact ⟨m + 1, by omega, by go_num, HU2, hb7⟩
          case measure => simp [intOf]; omega
        · obtain ⟨p, rfl⟩ : ∃ p, m = p + 1 := ⟨m - 1, by omega⟩
          obtain ⟨e0, _⟩ := hrs.leaf p (by omega)
          obtain ⟨Y, hY⟩ : ∃ Y, (L[p]'(by omega)).n = Y := ⟨_, rfl⟩
          rw [hY] at e0
          have HY : Hid ((L[p]'(by omega)).n = Y) := hY
          clear hY
          have q0 : (0 : Int) < ((p + 1 : Nat) : Int) := by omega
          have q0' : decide ((0 : Int) < ((p + 1 : Nat) : Int)) = true := decide_eq_true q0
          have q0'' : decide ((0 : Int) < (p : Int) + 1) = true := decide_eq_true (by omega)
          have j1' : IntKind.i64.wrap (p : Int) = (p : Int) := IntWalk.i64_in _ (by omega)
          have j2 : (0 : Int) ≤ (p : Int) := by omega
          have j3 : (p : Int) < (n : Int) := by omega
          cases hlt2 : F.ltN Y X.n
          · have hF : R = false := by rw [← HR.out, LV.leavesB_no]; exact LV.not_ok_adj (m := p + 1) (by omega) (by omega) (by rw [HX.out.1]; show F.ltN (L[p]'(by omega)).n X.n = false; rw [HY.out]; exact hlt2)
            subst hF
            have q4 : Op.bytesLess Y.toList X.n.toList = false := hlt2
            clear hrs HVV HX HU HA HR HSM hfl
            go_wp2
            have kq0 := cell_regrown (w := wr) c0
            have kq1 := cell_regrown (w := wr) c1
            have kq2 := cell_regrown (w := wr) e0
            have cq0 := fun d os => Calls.regrown_of (w := wr) (d := d) (os := os) (HNM.out _)
            have cq1 := fun d os => Calls.regrown_of (w := wr) (d := d) (os := os) (HVL.out _)
            refine wp_region_quiet_below (by kernel_rfl) (by kernel_rfl) ?_
            repeat (go_big_quiet_step (first | exact cq0 _ _ | exact cq1 _ _))
            refine wpQuiet_nil ?_
            rintro _ ⟨⟨dq, osq⟩, rfl⟩
            have hb6 := below_regrown (wr) dq osq
            generalize grow (redrawn (wr) dq) osq = w6 at *
            clear kq0 kq1 kq2 cq0 cq1
            have hb7 := HBW.out.trans (hb6.mono HBS)
            go_wp2
            try rw [Exit.noGoto_ret]
            go_ret
            exact ⟨rfl, hb7⟩
          · have HU2 : Hid (LV.Upto L (p + 1 + 1)) := HU.out.step (by omega) (by rw [HX.out.1]; exact hfl) (fun h => by rw [HX.out.1]; show F.ltN (L[p]'(by omega)).n X.n = true; rw [HY.out]; exact hlt2)
            have q4 : Op.bytesLess Y.toList X.n.toList = true := hlt2
            clear hrs HVV HX HU HA HR HSM hfl
            go_wp2
            have kq0 := cell_regrown (w := wr) c0
            have kq1 := cell_regrown (w := wr) c1
            have kq2 := cell_regrown (w := wr) e0
            have cq0 := fun d os => Calls.regrown_of (w := wr) (d := d) (os := os) (HNM.out _)
            have cq1 := fun d os => Calls.regrown_of (w := wr) (d := d) (os := os) (HVL.out _)
            refine wp_region_quiet_below (by kernel_rfl) (by kernel_rfl) ?_
            repeat (go_big_quiet_step (first | exact cq0 _ _ | exact cq1 _ _))
            refine wpQuiet_nil ?_
            rintro _ ⟨⟨dq, osq⟩, rfl⟩
            have hb6 := below_regrown (wr) dq osq
            generalize grow (redrawn (wr) dq) osq = w6 at *
            clear kq0 kq1 kq2 cq0 cq1
            have hb7 := HBW.out.trans (hb6.mono HBS)
            go_wp2
            go_roundw
            case rel => exact ⟨p + 1 + 1, by omega, by go_num, HU2, hb7⟩
            case measure => simp [intOf]; omega
    · have hme : m = n := by omega
      by_cases h24 : n ≤ 24
      · have hF : R = true := by rw [← HR.out, LV.leavesB_iff]; exact LV.Upto.ok (by rw [hn, ← hme]; exact HU.out) (by omega)
        subst hF
        subst hme
        have q : (m : Int) ≤ 24 := by omega
        clear HU HR HVV HA HSM
        go_wp2
        go_ret
        exact ⟨rfl, hbel⟩
      · have hF : R = false := by rw [← HR.out, LV.leavesB_no]; exact fun h => by have := h.1; omega
        subst hF
        subst hme
        have q : ¬ (m : Int) ≤ 24 := by omega
        clear HU HR HVV HA HSM
        go_wp2
        go_ret
        exact ⟨rfl, hbel⟩

end Go.Proofs.Ytiabodhgjeoejaa
