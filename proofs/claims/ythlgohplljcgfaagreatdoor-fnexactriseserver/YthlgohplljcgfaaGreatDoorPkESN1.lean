/-
  Texts laid together: Var, Dw, Fw, Nam.
-/
import Derived.Test.YthlgohplljcgfaaGreatDoorPkESN0
import Derived.Lib.QuietBelow
import Derived.BigQuiet
import Derived.Laws.Cover1
import Derived.Deep.QuietTactic
/-
  What VarText answers, the program's and the specification's: the bytes varL of the number.
-/
namespace Go.Proofs.YthlgohplljcgfaaGreatDoor
open Go.RowKit

theorem one_byte (w : World) (x : Int) (b : UInt8) (t : TypeId) (h : x = (b.toNat : Int)) : ∀ j u, (bv [b])[j]? = some u → (w.alloc (.cells #[.int .u8 x] t)).cell? ((⟨w.heap.size, 0, none⟩ : Addr).add j) = some u := by
  intro j u hj
  obtain ⟨hj', rfl⟩ := bv_get _ _ _ hj
  have h0 : j = 0 := by simp at hj'; exact hj'
  subst h0
  subst h
  simp [Addr.add]

def hiB (m : Nat) : UInt8 := UInt8.ofNat (m % 128 + 128)
def loB (m : Nat) : UInt8 := UInt8.ofNat m
theorem byte_hi (m : Nat) : ((m : Int) % 128 + 128) = ((hiB m).toNat : Int) := by
  unfold hiB; simp; omega
theorem byte_lo (m : Nat) (h : m ≤ 127) : (m : Int) = ((loB m).toNat : Int) := by
  unfold loB; simp; omega

/-- what the loop of VarText holds at each round's head: so many bytes are written, and those of the rest make the whole -/
def VarRel (n : Nat) (w : World) (x v : Value) (wr : World) : Prop :=
  ∃ (m f : Nat) (pre : List UInt8), m ≤ n ∧ m < 128 ^ (f + 1) ∧ x = .int .i64 m ∧ OB w.heap.size w wr v pre ∧ pre.length ≤ 10 ∧ pre ++ M.varF f m = M.varL n

theorem VarRel.step {n m f : Nat} {pre : List UInt8} (h : 127 < m) (hf : m < 128 ^ (f + 1)) (he : pre ++ M.varF f m = M.varL n) :
    ∃ f', m / 128 < 128 ^ (f' + 1) ∧ (pre ++ [hiB m]) ++ M.varF f' (m / 128) = M.varL n ∧ (pre ++ [hiB m]).length ≤ 10 := by
  cases f with
  | zero => simp at hf; omega
  | succ f =>
    rw [M.varF_big _ _ h] at he
    change pre ++ hiB m :: M.varF f (m / 128) = M.varL n at he
    refine ⟨f, ?_, by simpa using he, ?_⟩
    · have : m < 128 ^ (f + 1) * 128 := by rw [← Nat.pow_succ]; exact hf
      omega
    · have h1 := M.varL_len n
      rw [← he] at h1
      simp at h1 ⊢
      omega

set_option maxHeartbeats 400000 in
theorem l01Var_any (n : Nat) (w : World) (hn : n ≤ 1000000000) :
    Calls Tryz.prog 129 #[.int .i64 n] w fun e w' => e = .returned (.string ⟨(M.varL n).toArray⟩) ∧ Below w.heap.size w w' := by
  go_enter Tryz.func129, Tryz.ntmps129
  go_wp2
  go_loopw [0, 3] (fun x v wr => VarRel n w x v wr) (fun x _ _ => (intOf x).toNat)
  case atStart => exact ⟨n, 9, [], Nat.le_refl _, by omega, rfl, OB.made w, by simp, rfl⟩
  case round =>
    obtain ⟨m, f, pre, hmn, hmf, rfl, hown, hpl, he⟩ := hrel
    by_cases h : 127 < m
    · obtain ⟨f', h1, h2, h3⟩ := VarRel.step h hmf he
      have H2 : Hid ((pre ++ [hiB m]) ++ M.varF f' (m / 128) = M.varL n) := h2
      clear h2 he hmf
      go_wp2_with (at_builtin; refine wp_app rfl _ _ rfl w.heap.size w _ pre rfl (hown.alloc _) ⟨wr.heap.size, 0, none⟩ 1 1 [hiB m] rfl rfl ?c1 ?c2 ?_)
      case c1 => exact one_byte _ _ _ _ (byte_hi m)
      case c2 => omega
      intro v' w1 hown'
      go_wp2
      go_roundw
      case rel => exact ⟨m / 128, f', _, by omega, h1, by go_num, hown', h3, H2.out⟩
      case measure => simp [intOf]; omega
    · have he' : pre ++ [loB m] = M.varL n := by rw [M.varF_small f m (by omega)] at he; exact he
      have H2 : Hid (pre ++ [loB m] = M.varL n) := he'
      clear he' he hmf
      go_wp2_with (at_builtin; refine wp_app rfl _ _ rfl w.heap.size w _ pre rfl (hown.alloc _) ⟨wr.heap.size, 0, none⟩ 1 1 [loB m] rfl rfl ?c3 ?c4 ?_)
      case c3 => exact one_byte _ _ _ _ (byte_lo m (by omega))
      case c4 => omega
      intro v' w1 hown'
      have hcv := run_str hown'
      go_wp2
      go_ret
      exact ⟨by rw [H2.out]; rfl, hown'.2.1⟩


theorem l01In_any (x a b : Int) (w : World) : Calls Tryz.prog 56 #[.int .i64 x, .int .i64 a, .int .i64 b] w fun e w' => e = .returned (.bool (decide (a ≤ x ∧ x ≤ b))) ∧ w' = w := by
  by_cases h1 : a ≤ x
  · by_cases h2 : x ≤ b
    · go_enter Tryz.func56, Tryz.ntmps56
      go_wp2
      go_ret
      exact ⟨by simp [h1, h2], rfl⟩
    · go_enter Tryz.func56, Tryz.ntmps56
      go_wp2
      go_ret
      exact ⟨by simp [h2], rfl⟩
  · go_enter Tryz.func56, Tryz.ntmps56
    go_wp2
    go_ret
    exact ⟨by simp; omega, rfl⟩

end Go.Proofs.YthlgohplljcgfaaGreatDoor
/-
  When a disk is right: the program's and the specification's answers.
-/
namespace Go.Proofs.YthlgohplljcgfaaGreatDoor
open Go.RowKit Go.BigFrame Go.Sort
set_option linter.unusedVariables false
set_option linter.unusedSimpArgs false

theorem fileNameOk_any (s : ByteArray) (w : World) : Calls Tryz.prog 151 #[.string s] w fun e w' => e = .returned (.bool (F.nmB s)) ∧ w' = w := by
  unfold F.nmB
  by_cases h1 : 1 ≤ s.size
  · by_cases h2 : s.size ≤ 8
    · have q1 : (1 : Int) ≤ (s.size : Int) := by omega
      have q2 : (s.size : Int) ≤ 8 := by omega
      rw [decide_eq_true ⟨h1, h2⟩]
      go_enter Tryz.func151, Tryz.ntmps151
      go_wp2
      go_ret
      exact ⟨rfl, rfl⟩
    · have q1 : (1 : Int) ≤ (s.size : Int) := by omega
      have q2 : ¬ (s.size : Int) ≤ 8 := by omega
      rw [decide_eq_false (fun h => h2 h.2)]
      go_enter Tryz.func151, Tryz.ntmps151
      go_wp2
      go_ret
      exact ⟨rfl, rfl⟩
  · have q1 : ¬ (1 : Int) ≤ (s.size : Int) := by omega
    rw [decide_eq_false (fun h => h1 h.1)]
    go_enter Tryz.func151, Tryz.ntmps151
    go_wp2
    go_ret
    exact ⟨rfl, rfl⟩

theorem l06Name_any (s : ByteArray) (w : World) : Calls Tryz.prog 102 #[.string s] w fun e w' => e = .returned (.bool (F.nmB s)) ∧ w' = w := by
  go_enter Tryz.func102, Tryz.ntmps102
  go_wp2_with fail
  refine (l01In_any _ _ _ _).mono ?_
  rintro e w1 ⟨rfl, rfl⟩
  have e1 : decide ((1 : Int) ≤ (s.size : Int) ∧ (s.size : Int) ≤ 8) = F.nmB s := by unfold F.nmB; congr 1; exact propext (by omega)
  rw [e1]
  go_wp2
  go_ret
  exact ⟨rfl, rfl⟩

set_option maxRecDepth 100000 in
set_option maxHeartbeats 400000 in
theorem fileOk_any (f : Fl) (w : World) : Calls Tryz.prog 126 #[.agg #[.string f.n, .string f.t, .int .i64 f.k]] w fun e w' => e = .returned (.bool (F.flB f)) ∧ Below w.heap.size w w' := by
  obtain ⟨x, t, k⟩ := f
  have HB : Hid (Below w.heap.size w (w.alloc (.cells #[.string x, .string t, .int .i64 k] 108))) := (Below.refl _ _).alloc (Nat.le_refl _) _
  obtain ⟨b, hb⟩ : ∃ b, F.nmB x = b := ⟨_, rfl⟩
  have HN : Hid (∀ W, Calls Tryz.prog 151 #[.string x] W fun e w' => e = .returned (.bool b) ∧ w' = W) := fun W => hb ▸ fileNameOk_any x W
  have HF : Hid (F.flB ⟨x, t, k⟩ = (b && decide (t.size ≤ 20000 ∧ 0 ≤ k ∧ k ≤ t.size))) := by rw [← hb]; rfl
  rw [HF.out]
  clear HF hb
  go_enter Tryz.func126, Tryz.ntmps126
  go_wp2_with fail
  refine (HN.out _).mono ?_
  rintro e w1 ⟨rfl, rfl⟩
  clear HN
  cases b
  · go_wp2
    go_ret
    exact ⟨rfl, HB.out⟩
  · by_cases h1 : t.size ≤ 20000
    · have q1 : (t.size : Int) ≤ 20000 := by omega
      by_cases h2 : 0 ≤ k
      · by_cases h3 : k ≤ t.size
        · go_wp2
          go_ret
          exact ⟨by simp [h1, h2, h3], HB.out⟩
        · go_wp2
          go_ret
          exact ⟨by rw [decide_eq_false (p := k ≤ (t.size : Int)) (by omega), decide_eq_false (p := t.size ≤ 20000 ∧ 0 ≤ k ∧ k ≤ (t.size : Int)) (by omega)]; rfl, HB.out⟩
      · go_wp2
        go_ret
        exact ⟨by rw [decide_eq_false (p := (0 : Int) ≤ k) (by omega)]; simp, HB.out⟩
    · have q1 : ¬ (t.size : Int) ≤ 20000 := by omega
      go_wp2
      go_ret
      exact ⟨by simp [h1], HB.out⟩

def DkR (L : List Fl) (B : Nat) (w : World) (i : Value) (wr : World) : Prop := ∃ m : Nat, m ≤ L.length ∧ i = .int .i64 m ∧ Hid (F.Upto L m) ∧ Below B w wr

set_option maxRecDepth 100000 in
set_option maxHeartbeats 1000000 in
theorem DiskOk_any (v : Value) (ga oa : Nat) (L : List Fl) (w : World) (hv : RS 3 fcs w v ga oa L) :
    Calls Tryz.prog 93 #[.agg #[v]] w fun e w' => e = .returned (.bool (F.diskB L)) ∧ Below w.heap.size w w' := by
  obtain ⟨R, hR⟩ : ∃ R, F.diskB L = R := ⟨_, rfl⟩
  have HV := hv.alloc (.cells #[v] 28)
  obtain ⟨a, cap, rfl, hl, hA, hc⟩ := hv
  obtain ⟨n, hn⟩ : ∃ n, L.length = n := ⟨_, rfl⟩
  have HB : Hid (Below w.heap.size w (w.alloc (.cells #[.slice a n cap] 28))) := (Below.refl _ _).alloc (Nat.le_refl _) _
  rw [hn] at hl hA HV ⊢
  rw [hR]
  have HVV : Hid (RS 3 fcs (w.alloc (.cells #[.slice a n cap] 28)) (.slice a n cap) ga oa L) := HV
  have HA : Hid (0 < n → a = some ⟨ga, oa, none⟩) := fun h => (hA h).1
  have HR : Hid (F.diskB L = R) := hR
  have HST : Hid (DkR L (w.heap.size + 1) (w.alloc (.cells #[.slice a n cap] 28)) (.int .i64 0) (w.alloc (.cells #[.slice a n cap] 28))) := ⟨0, by omega, rfl, F.Upto.zero L, Below.refl _ _⟩
  clear hc hA hR HV
  by_cases h30 : 30 < n
  · have q : (30 : Int) < (n : Int) := by omega
    have hF : R = false := by rw [← HR.out, F.diskB_no]; exact fun h => by have := h.1; omega
    subst hF
    go_enter Tryz.func93, Tryz.ntmps93
    go_wp2
    go_ret
    exact ⟨rfl, HB.out⟩
  have q : ¬ (30 : Int) < (n : Int) := by omega
  go_enter Tryz.func93, Tryz.ntmps93
  go_wp2
  go_loopw [12] (fun i wr => DkR L (w.heap.size + 1) (w.alloc (.cells #[.slice a n cap] 28)) i wr) (fun i _ => n - (intOf i).toNat)
  case atStart => exact HST.out
  case round =>
    obtain ⟨m, hm, rfl, HU, hbel⟩ := hrel
    rw [hn] at hm
    clear HST
    by_cases hlt : m < n
    · have ea := HA.out (by omega)
      subst ea
      have hrs := HVV.out.later (by simpa using hbel)
      obtain ⟨c0, c1, c2⟩ := hrs.file m (by omega)
      have i1 : (m : Int) < (n : Int) := by omega
      have i2 : (0 : Int) ≤ (m : Int) := by omega
      have d0 : wr.cell? ⟨w.heap.size, 0, none⟩ = some (.slice (some ⟨ga, oa, none⟩) n cap) := by
        rw [hbel.cell (p := ⟨w.heap.size, 0, none⟩) (by simp)]
        simp
      have hws : w.heap.size < wr.heap.size := by have := hbel.size; simp at this; omega
      have hgs : ga < wr.heap.size := lt_of_cell c0
      obtain ⟨X, hX⟩ : ∃ X, L[m]'(by omega) = X := ⟨_, rfl⟩
      rw [hX] at c0 c1 c2
      obtain ⟨b, hb⟩ : ∃ b, F.flB X = b := ⟨_, rfl⟩
      have HOK : Hid (∀ W, Calls Tryz.prog 126 #[.agg #[.string X.n, .string X.t, .int .i64 X.k]] W fun e w' => e = .returned (.bool b) ∧ Below W.heap.size W w') := fun W => hb ▸ fileOk_any X W
      have HX : Hid (L[m]'(by omega) = X ∧ F.flB X = b) := ⟨hX, hb⟩
      have HBW : Hid (Below (w.heap.size + 1) (w.alloc (.cells #[.slice (some ⟨ga, oa, none⟩) n cap] 28)) (wr.alloc (.cells #[.string X.n, .string X.t, .int .i64 X.k] 108))) := hbel.alloc (by omega) _
      have HBS : w.heap.size + 1 ≤ (wr.alloc (.cells #[.string X.n, .string X.t, .int .i64 X.k] 108)).heap.size := by simp; omega
      clear hX hb hbel
      have z0 : (wr.alloc (.cells #[.string X.n, .string X.t, .int .i64 X.k] 108)).cell? ⟨wr.heap.size, 0, none⟩ = some (.string X.n) := by simp
      have z1 : (wr.alloc (.cells #[.string X.n, .string X.t, .int .i64 X.k] 108)).cell? ⟨wr.heap.size, 1, none⟩ = some (.string X.t) := by simp
      have z2 : (wr.alloc (.cells #[.string X.n, .string X.t, .int .i64 X.k] 108)).cell? ⟨wr.heap.size, 2, none⟩ = some (.int .i64 X.k) := by simp
      have z3 : (wr.alloc (.cells #[.string X.n, .string X.t, .int .i64 X.k] 108)).cell? ⟨w.heap.size, 0, none⟩ = some (.slice (some ⟨ga, oa, none⟩) n cap) := (cell_kept (Below.heap_alloc _ _ w.heap.size hws)).trans d0
      cases b
      · have hF : R = false := by rw [← HR.out, F.diskB_no]; exact F.not_ok_fl (m := m) (by omega) (by rw [HX.out.1]; exact HX.out.2)
        subst hF
        clear hrs HVV HX HU HA HR
        go_wp2
        have kq0 := cell_regrown (w := (wr.alloc (.cells #[.string X.n, .string X.t, .int .i64 X.k] 108))) z0
        have kq1 := cell_regrown (w := (wr.alloc (.cells #[.string X.n, .string X.t, .int .i64 X.k] 108))) z1
        have kq2 := cell_regrown (w := (wr.alloc (.cells #[.string X.n, .string X.t, .int .i64 X.k] 108))) z2
        have kq3 := cell_regrown (w := (wr.alloc (.cells #[.string X.n, .string X.t, .int .i64 X.k] 108))) z3
        have cq0 := fun d os => Calls.regrown_of (w := (wr.alloc (.cells #[.string X.n, .string X.t, .int .i64 X.k] 108))) (d := d) (os := os) (HOK.out _)
        refine wp_region_quiet_below (by kernel_rfl) (by kernel_rfl) ?_
        repeat (go_big_quiet_step (first | exact cq0 _ _))
        refine wpQuiet_nil ?_
        rintro _ ⟨⟨dq, osq⟩, rfl⟩
        have hb6 := below_regrown ((wr.alloc (.cells #[.string X.n, .string X.t, .int .i64 X.k] 108))) dq osq
        generalize grow (redrawn ((wr.alloc (.cells #[.string X.n, .string X.t, .int .i64 X.k] 108))) dq) osq = w6 at *
        clear kq0 kq1 kq2 kq3 cq0
        have hb7 := HB.out.trans ((HBW.out.trans (hb6.mono HBS)).mono (by omega))
        go_wp2
        try rw [Exit.noGoto_ret]
        go_ret
        exact ⟨rfl, hb7⟩
      · by_cases h0 : m = 0
        · have HU2 : Hid (F.Upto L (m + 1)) := HU.out.step (by omega) (by rw [HX.out.1]; exact HX.out.2) (fun h => by omega)
          have q0 : ¬ (0 : Int) < (m : Int) := by omega
          have q0' : decide (0 < m) = false := decide_eq_false (by omega)
          clear hrs HVV HX HU HA HR h0
          go_wp2
          have kq0 := cell_regrown (w := (wr.alloc (.cells #[.string X.n, .string X.t, .int .i64 X.k] 108))) z0
          have kq1 := cell_regrown (w := (wr.alloc (.cells #[.string X.n, .string X.t, .int .i64 X.k] 108))) z1
          have kq2 := cell_regrown (w := (wr.alloc (.cells #[.string X.n, .string X.t, .int .i64 X.k] 108))) z2
          have kq3 := cell_regrown (w := (wr.alloc (.cells #[.string X.n, .string X.t, .int .i64 X.k] 108))) z3
          have cq0 := fun d os => Calls.regrown_of (w := (wr.alloc (.cells #[.string X.n, .string X.t, .int .i64 X.k] 108))) (d := d) (os := os) (HOK.out _)
          refine wp_region_quiet_below (by kernel_rfl) (by kernel_rfl) ?_
          repeat (go_big_quiet_step (first | exact cq0 _ _))
          refine wpQuiet_nil ?_
          rintro _ ⟨⟨dq, osq⟩, rfl⟩
          have hb6 := below_regrown ((wr.alloc (.cells #[.string X.n, .string X.t, .int .i64 X.k] 108))) dq osq
          generalize grow (redrawn ((wr.alloc (.cells #[.string X.n, .string X.t, .int .i64 X.k] 108))) dq) osq = w6 at *
          clear kq0 kq1 kq2 kq3 cq0
          have hb7 := HBW.out.trans (hb6.mono HBS)
          go_wp2
          go_roundw
          case rel => exact ⟨m + 1, by omega, by go_num, HU2, hb7⟩
          case measure => simp [intOf]; omega
        · obtain ⟨p, rfl⟩ : ∃ p, m = p + 1 := ⟨m - 1, by omega⟩
          obtain ⟨e0, _, _⟩ := hrs.file p (by omega)
          obtain ⟨Y, hY⟩ : ∃ Y, (L[p]'(by omega)).n = Y := ⟨_, rfl⟩
          rw [hY] at e0
          have HY : Hid ((L[p]'(by omega)).n = Y) := hY
          clear hY
          have z4 : (wr.alloc (.cells #[.string X.n, .string X.t, .int .i64 X.k] 108)).cell? ⟨ga, oa + p * 3, none⟩ = some (.string Y) := (cell_kept (Below.heap_alloc _ _ ga hgs)).trans e0
          have q0 : (0 : Int) < ((p + 1 : Nat) : Int) := by omega
          have q0' : decide ((0 : Int) < ((p + 1 : Nat) : Int)) = true := decide_eq_true q0
          have q0'' : decide ((0 : Int) < (p : Int) + 1) = true := decide_eq_true (by omega)
          have j1' : IntKind.i64.wrap (p : Int) = (p : Int) := IntWalk.i64_in _ (by omega)
          have j2 : (0 : Int) ≤ (p : Int) := by omega
          have j3 : (p : Int) < (n : Int) := by omega
          cases hlt2 : F.ltN Y X.n
          · have hF : R = false := by rw [← HR.out, F.diskB_no]; exact F.not_ok_adj (m := p + 1) (by omega) (by omega) (by rw [HX.out.1]; show F.ltN (L[p]'(by omega)).n X.n = false; rw [HY.out]; exact hlt2)
            subst hF
            have q4 : Op.bytesLess Y.toList X.n.toList = false := hlt2
            clear hrs HVV HX HU HA HR
            go_wp2
            have kq0 := cell_regrown (w := (wr.alloc (.cells #[.string X.n, .string X.t, .int .i64 X.k] 108))) z0
            have kq1 := cell_regrown (w := (wr.alloc (.cells #[.string X.n, .string X.t, .int .i64 X.k] 108))) z1
            have kq2 := cell_regrown (w := (wr.alloc (.cells #[.string X.n, .string X.t, .int .i64 X.k] 108))) z2
            have kq3 := cell_regrown (w := (wr.alloc (.cells #[.string X.n, .string X.t, .int .i64 X.k] 108))) z3
            have kq4 := cell_regrown (w := (wr.alloc (.cells #[.string X.n, .string X.t, .int .i64 X.k] 108))) z4
            have cq0 := fun d os => Calls.regrown_of (w := (wr.alloc (.cells #[.string X.n, .string X.t, .int .i64 X.k] 108))) (d := d) (os := os) (HOK.out _)
            refine wp_region_quiet_below (by kernel_rfl) (by kernel_rfl) ?_
            repeat (go_big_quiet_step (first | exact cq0 _ _))
            refine wpQuiet_nil ?_
            rintro _ ⟨⟨dq, osq⟩, rfl⟩
            have hb6 := below_regrown ((wr.alloc (.cells #[.string X.n, .string X.t, .int .i64 X.k] 108))) dq osq
            generalize grow (redrawn ((wr.alloc (.cells #[.string X.n, .string X.t, .int .i64 X.k] 108))) dq) osq = w6 at *
            clear kq0 kq1 kq2 kq3 kq4 cq0
            have hb7 := HB.out.trans ((HBW.out.trans (hb6.mono HBS)).mono (by omega))
            go_wp2
            try rw [Exit.noGoto_ret]
            go_ret
            exact ⟨rfl, hb7⟩
          · have HU2 : Hid (F.Upto L (p + 1 + 1)) := HU.out.step (by omega) (by rw [HX.out.1]; exact HX.out.2) (fun h => by rw [HX.out.1]; show F.ltN (L[p]'(by omega)).n X.n = true; rw [HY.out]; exact hlt2)
            have q4 : Op.bytesLess Y.toList X.n.toList = true := hlt2
            clear hrs HVV HX HU HA HR
            go_wp2
            have kq0 := cell_regrown (w := (wr.alloc (.cells #[.string X.n, .string X.t, .int .i64 X.k] 108))) z0
            have kq1 := cell_regrown (w := (wr.alloc (.cells #[.string X.n, .string X.t, .int .i64 X.k] 108))) z1
            have kq2 := cell_regrown (w := (wr.alloc (.cells #[.string X.n, .string X.t, .int .i64 X.k] 108))) z2
            have kq3 := cell_regrown (w := (wr.alloc (.cells #[.string X.n, .string X.t, .int .i64 X.k] 108))) z3
            have kq4 := cell_regrown (w := (wr.alloc (.cells #[.string X.n, .string X.t, .int .i64 X.k] 108))) z4
            have cq0 := fun d os => Calls.regrown_of (w := (wr.alloc (.cells #[.string X.n, .string X.t, .int .i64 X.k] 108))) (d := d) (os := os) (HOK.out _)
            refine wp_region_quiet_below (by kernel_rfl) (by kernel_rfl) ?_
            repeat (go_big_quiet_step (first | exact cq0 _ _))
            refine wpQuiet_nil ?_
            rintro _ ⟨⟨dq, osq⟩, rfl⟩
            have hb6 := below_regrown ((wr.alloc (.cells #[.string X.n, .string X.t, .int .i64 X.k] 108))) dq osq
            generalize grow (redrawn ((wr.alloc (.cells #[.string X.n, .string X.t, .int .i64 X.k] 108))) dq) osq = w6 at *
            clear kq0 kq1 kq2 kq3 kq4 cq0
            have hb7 := HBW.out.trans (hb6.mono HBS)
            go_wp2
            go_roundw
            case rel => exact ⟨p + 1 + 1, by omega, by go_num, HU2, hb7⟩
            case measure => simp [intOf]; omega
    · have hme : m = n := by omega
      have hF : R = true := by rw [← HR.out, F.diskB_iff]; exact F.Upto.ok (by rw [hn, ← hme]; exact HU.out) (by omega)
      subst hF
      subst hme
      clear HU HR HVV HA
      go_wp2
      go_ret
      exact ⟨rfl, HB.out.trans (hbel.mono (by omega))⟩

set_option maxRecDepth 100000 in
set_option maxHeartbeats 1000000 in
theorem sDiskOk_any (v : Value) (ga oa : Nat) (L : List Fl) (w : World) (hv : RS 3 fcs w v ga oa L) :
    Calls Tryz.prog 63 #[.agg #[v]] w fun e w' => e = .returned (.bool (F.diskB L)) ∧ Below w.heap.size w w' := by
  obtain ⟨R, hR⟩ : ∃ R, F.diskB L = R := ⟨_, rfl⟩
  have HV := hv.alloc (.cells #[v] 28)
  obtain ⟨a, cap, rfl, hl, hA, hc⟩ := hv
  obtain ⟨n, hn⟩ : ∃ n, L.length = n := ⟨_, rfl⟩
  have HB : Hid (Below w.heap.size w (w.alloc (.cells #[.slice a n cap] 28))) := (Below.refl _ _).alloc (Nat.le_refl _) _
  rw [hn] at hl hA HV ⊢
  rw [hR]
  have HVV : Hid (RS 3 fcs (w.alloc (.cells #[.slice a n cap] 28)) (.slice a n cap) ga oa L) := HV
  have HA : Hid (0 < n → a = some ⟨ga, oa, none⟩) := fun h => (hA h).1
  have HR : Hid (F.diskB L = R) := hR
  have HST : Hid (DkR L (w.heap.size + 1) (w.alloc (.cells #[.slice a n cap] 28)) (.int .i64 0) (w.alloc (.cells #[.slice a n cap] 28))) := ⟨0, by omega, rfl, F.Upto.zero L, Below.refl _ _⟩
  clear hc hA hR HV
  by_cases h30 : 30 < n
  · have q : (30 : Int) < (n : Int) := by omega
    have hF : R = false := by rw [← HR.out, F.diskB_no]; exact fun h => by have := h.1; omega
    subst hF
    go_enter Tryz.func63, Tryz.ntmps63
    go_wp2
    go_ret
    exact ⟨rfl, HB.out⟩
  have q : ¬ (30 : Int) < (n : Int) := by omega
  go_enter Tryz.func63, Tryz.ntmps63
  go_wp2
  go_loopw [3] (fun i wr => DkR L (w.heap.size + 1) (w.alloc (.cells #[.slice a n cap] 28)) i wr) (fun i _ => n - (intOf i).toNat)
  case atStart => exact HST.out
  case round =>
    obtain ⟨m, hm, rfl, HU, hbel⟩ := hrel
    rw [hn] at hm
    clear HST
    have d0 : wr.cell? ⟨w.heap.size, 0, none⟩ = some (.slice a n cap) := by
      rw [hbel.cell (p := ⟨w.heap.size, 0, none⟩) (by simp)]
      simp
    by_cases hlt : m < n
    · have ea := HA.out (by omega)
      subst ea
      have hrs := HVV.out.later (by simpa using hbel)
      obtain ⟨c0, c1, c2⟩ := hrs.file m (by omega)
      have i1 : (m : Int) < (n : Int) := by omega
      have i2 : (0 : Int) ≤ (m : Int) := by omega
      have hws : w.heap.size < wr.heap.size := by have := hbel.size; simp at this; omega
      have hgs : ga < wr.heap.size := lt_of_cell c0
      obtain ⟨X, hX⟩ : ∃ X, L[m]'(by omega) = X := ⟨_, rfl⟩
      rw [hX] at c0 c1 c2
      obtain ⟨b, hb⟩ : ∃ b, F.nmB X.n = b := ⟨_, rfl⟩
      obtain ⟨b2, hb2⟩ : ∃ b2, decide (0 ≤ X.k ∧ X.k ≤ (X.t.size : Int)) = b2 := ⟨_, rfl⟩
      have HNM : Hid (∀ W, Calls Tryz.prog 102 #[.string X.n] W fun e w' => e = .returned (.bool b) ∧ Below W.heap.size W w') := fun W => hb ▸ (l06Name_any X.n W).mono fun e w' ⟨he, hw⟩ => ⟨he, hw ▸ Below.refl _ _⟩
      have HIN : Hid (∀ W, Calls Tryz.prog 56 #[.int .i64 X.k, .int .i64 0, .int .i64 (X.t.size : Int)] W fun e w' => e = .returned (.bool b2) ∧ Below W.heap.size W w') := fun W => hb2 ▸ (l01In_any X.k 0 (X.t.size : Int) W).mono fun e w' ⟨he, hw⟩ => ⟨he, hw ▸ Below.refl _ _⟩
      have HX : Hid (L[m]'(by omega) = X ∧ F.flB X = (b && (decide (X.t.size ≤ 20000) && b2))) := ⟨hX, by rw [← hb, ← hb2]; simp [F.flB]⟩
      have HBW : Hid (Below (w.heap.size + 1) (w.alloc (.cells #[.slice (some ⟨ga, oa, none⟩) n cap] 28)) (wr.alloc (.cells #[.string X.n, .string X.t, .int .i64 X.k] 108))) := hbel.alloc (by omega) _
      have HBS : w.heap.size + 1 ≤ (wr.alloc (.cells #[.string X.n, .string X.t, .int .i64 X.k] 108)).heap.size := by simp; omega
      clear hX hb hb2 hbel
      have z0 : (wr.alloc (.cells #[.string X.n, .string X.t, .int .i64 X.k] 108)).cell? ⟨wr.heap.size, 0, none⟩ = some (.string X.n) := by simp
      have z1 : (wr.alloc (.cells #[.string X.n, .string X.t, .int .i64 X.k] 108)).cell? ⟨wr.heap.size, 1, none⟩ = some (.string X.t) := by simp
      have z2 : (wr.alloc (.cells #[.string X.n, .string X.t, .int .i64 X.k] 108)).cell? ⟨wr.heap.size, 2, none⟩ = some (.int .i64 X.k) := by simp
      have z3 : (wr.alloc (.cells #[.string X.n, .string X.t, .int .i64 X.k] 108)).cell? ⟨w.heap.size, 0, none⟩ = some (.slice (some ⟨ga, oa, none⟩) n cap) := (cell_kept (Below.heap_alloc _ _ w.heap.size hws)).trans d0
      cases hfl : F.flB X
      · have hF : R = false := by rw [← HR.out, F.diskB_no]; exact F.not_ok_fl (m := m) (by omega) (by rw [HX.out.1]; exact hfl)
        subst hF
        rw [HX.out.2] at hfl
        clear hrs HVV HX HU HA HR
        cases b
        · clear hfl
          go_wp2
          have kq0 := cell_regrown (w := (wr.alloc (.cells #[.string X.n, .string X.t, .int .i64 X.k] 108))) z0
          have kq1 := cell_regrown (w := (wr.alloc (.cells #[.string X.n, .string X.t, .int .i64 X.k] 108))) z1
          have kq2 := cell_regrown (w := (wr.alloc (.cells #[.string X.n, .string X.t, .int .i64 X.k] 108))) z2
          have kq3 := cell_regrown (w := (wr.alloc (.cells #[.string X.n, .string X.t, .int .i64 X.k] 108))) z3
          have cq0 := fun d os => Calls.regrown_of (w := (wr.alloc (.cells #[.string X.n, .string X.t, .int .i64 X.k] 108))) (d := d) (os := os) (HNM.out _)
          have cq1 := fun d os => Calls.regrown_of (w := (wr.alloc (.cells #[.string X.n, .string X.t, .int .i64 X.k] 108))) (d := d) (os := os) (HIN.out _)
          refine wp_region_quiet_below (by kernel_rfl) (by kernel_rfl) ?_
          repeat (go_big_quiet_step (first | exact cq0 _ _ | exact cq1 _ _))
          refine wpQuiet_nil ?_
          rintro _ ⟨⟨dq, osq⟩, rfl⟩
          have hb6 := below_regrown ((wr.alloc (.cells #[.string X.n, .string X.t, .int .i64 X.k] 108))) dq osq
          generalize grow (redrawn ((wr.alloc (.cells #[.string X.n, .string X.t, .int .i64 X.k] 108))) dq) osq = w6 at *
          clear kq0 kq1 kq2 kq3 cq0 cq1
          have hb7 := HB.out.trans ((HBW.out.trans (hb6.mono HBS)).mono (by omega))
          go_wp2
          try rw [Exit.noGoto_ret]
          go_ret
          exact ⟨rfl, hb7⟩
        · by_cases h2 : X.t.size ≤ 20000
          · obtain rfl : b2 = false := by simpa [h2] using hfl
            have q2 : ¬ (20000 : Int) < (X.t.size : Int) := by omega
            have q2' : decide ((20000 : Int) < (X.t.size : Int)) = false := decide_eq_false (by omega)
            clear hfl
            go_wp2
            have kq0 := cell_regrown (w := (wr.alloc (.cells #[.string X.n, .string X.t, .int .i64 X.k] 108))) z0
            have kq1 := cell_regrown (w := (wr.alloc (.cells #[.string X.n, .string X.t, .int .i64 X.k] 108))) z1
            have kq2 := cell_regrown (w := (wr.alloc (.cells #[.string X.n, .string X.t, .int .i64 X.k] 108))) z2
            have kq3 := cell_regrown (w := (wr.alloc (.cells #[.string X.n, .string X.t, .int .i64 X.k] 108))) z3
            have cq0 := fun d os => Calls.regrown_of (w := (wr.alloc (.cells #[.string X.n, .string X.t, .int .i64 X.k] 108))) (d := d) (os := os) (HNM.out _)
            have cq1 := fun d os => Calls.regrown_of (w := (wr.alloc (.cells #[.string X.n, .string X.t, .int .i64 X.k] 108))) (d := d) (os := os) (HIN.out _)
            refine wp_region_quiet_below (by kernel_rfl) (by kernel_rfl) ?_
            repeat (go_big_quiet_step (first | exact cq0 _ _ | exact cq1 _ _))
            refine wpQuiet_nil ?_
            rintro _ ⟨⟨dq, osq⟩, rfl⟩
            have hb6 := below_regrown ((wr.alloc (.cells #[.string X.n, .string X.t, .int .i64 X.k] 108))) dq osq
            generalize grow (redrawn ((wr.alloc (.cells #[.string X.n, .string X.t, .int .i64 X.k] 108))) dq) osq = w6 at *
            clear kq0 kq1 kq2 kq3 cq0 cq1
            have hb7 := HB.out.trans ((HBW.out.trans (hb6.mono HBS)).mono (by omega))
            go_wp2
            try rw [Exit.noGoto_ret]
            go_ret
            exact ⟨rfl, hb7⟩
          · have q2 : (20000 : Int) < (X.t.size : Int) := by omega
            have q2' : decide ((20000 : Int) < (X.t.size : Int)) = true := decide_eq_true (by omega)
            clear hfl
            go_wp2
            have kq0 := cell_regrown (w := (wr.alloc (.cells #[.string X.n, .string X.t, .int .i64 X.k] 108))) z0
            have kq1 := cell_regrown (w := (wr.alloc (.cells #[.string X.n, .string X.t, .int .i64 X.k] 108))) z1
            have kq2 := cell_regrown (w := (wr.alloc (.cells #[.string X.n, .string X.t, .int .i64 X.k] 108))) z2
            have kq3 := cell_regrown (w := (wr.alloc (.cells #[.string X.n, .string X.t, .int .i64 X.k] 108))) z3
            have cq0 := fun d os => Calls.regrown_of (w := (wr.alloc (.cells #[.string X.n, .string X.t, .int .i64 X.k] 108))) (d := d) (os := os) (HNM.out _)
            have cq1 := fun d os => Calls.regrown_of (w := (wr.alloc (.cells #[.string X.n, .string X.t, .int .i64 X.k] 108))) (d := d) (os := os) (HIN.out _)
            refine wp_region_quiet_below (by kernel_rfl) (by kernel_rfl) ?_
            repeat (go_big_quiet_step (first | exact cq0 _ _ | exact cq1 _ _))
            refine wpQuiet_nil ?_
            rintro _ ⟨⟨dq, osq⟩, rfl⟩
            have hb6 := below_regrown ((wr.alloc (.cells #[.string X.n, .string X.t, .int .i64 X.k] 108))) dq osq
            generalize grow (redrawn ((wr.alloc (.cells #[.string X.n, .string X.t, .int .i64 X.k] 108))) dq) osq = w6 at *
            clear kq0 kq1 kq2 kq3 cq0 cq1
            have hb7 := HB.out.trans ((HBW.out.trans (hb6.mono HBS)).mono (by omega))
            go_wp2
            try rw [Exit.noGoto_ret]
            go_ret
            exact ⟨rfl, hb7⟩
      · have hfl2 := hfl
        rw [HX.out.2] at hfl2
        simp only [Bool.and_eq_true, decide_eq_true_eq] at hfl2
        obtain ⟨rfl, h2, rfl⟩ := hfl2
        have q2 : ¬ (20000 : Int) < (X.t.size : Int) := by omega
        have q2' : decide ((20000 : Int) < (X.t.size : Int)) = false := decide_eq_false (by omega)
        by_cases h0 : m = 0
        · have HU2 : Hid (F.Upto L (m + 1)) := HU.out.step (by omega) (by rw [HX.out.1]; exact hfl) (fun h => by omega)
          have q0 : ¬ (0 : Int) < (m : Int) := by omega
          have q0' : decide (0 < m) = false := decide_eq_false (by omega)
          clear hrs HVV HX HU HA HR h0 hfl
          go_wp2
          have kq0 := cell_regrown (w := (wr.alloc (.cells #[.string X.n, .string X.t, .int .i64 X.k] 108))) z0
          have kq1 := cell_regrown (w := (wr.alloc (.cells #[.string X.n, .string X.t, .int .i64 X.k] 108))) z1
          have kq2 := cell_regrown (w := (wr.alloc (.cells #[.string X.n, .string X.t, .int .i64 X.k] 108))) z2
          have kq3 := cell_regrown (w := (wr.alloc (.cells #[.string X.n, .string X.t, .int .i64 X.k] 108))) z3
          have cq0 := fun d os => Calls.regrown_of (w := (wr.alloc (.cells #[.string X.n, .string X.t, .int .i64 X.k] 108))) (d := d) (os := os) (HNM.out _)
          have cq1 := fun d os => Calls.regrown_of (w := (wr.alloc (.cells #[.string X.n, .string X.t, .int .i64 X.k] 108))) (d := d) (os := os) (HIN.out _)
          refine wp_region_quiet_below (by kernel_rfl) (by kernel_rfl) ?_
          repeat (go_big_quiet_step (first | exact cq0 _ _ | exact cq1 _ _))
          refine wpQuiet_nil ?_
          rintro _ ⟨⟨dq, osq⟩, rfl⟩
          have hb6 := below_regrown ((wr.alloc (.cells #[.string X.n, .string X.t, .int .i64 X.k] 108))) dq osq
          generalize grow (redrawn ((wr.alloc (.cells #[.string X.n, .string X.t, .int .i64 X.k] 108))) dq) osq = w6 at *
          clear kq0 kq1 kq2 kq3 cq0 cq1
          have hb7 := HBW.out.trans (hb6.mono HBS)
          go_wp2
          go_roundw
          case rel => exact ⟨m + 1, by omega, by go_num, HU2, hb7⟩
          case measure => simp [intOf]; omega
        · obtain ⟨p, rfl⟩ : ∃ p, m = p + 1 := ⟨m - 1, by omega⟩
          obtain ⟨e0, _, _⟩ := hrs.file p (by omega)
          obtain ⟨Y, hY⟩ : ∃ Y, (L[p]'(by omega)).n = Y := ⟨_, rfl⟩
          rw [hY] at e0
          have HY : Hid ((L[p]'(by omega)).n = Y) := hY
          clear hY
          have z4 : (wr.alloc (.cells #[.string X.n, .string X.t, .int .i64 X.k] 108)).cell? ⟨ga, oa + p * 3, none⟩ = some (.string Y) := (cell_kept (Below.heap_alloc _ _ ga hgs)).trans e0
          have q0 : (0 : Int) < ((p + 1 : Nat) : Int) := by omega
          have q0' : decide ((0 : Int) < ((p + 1 : Nat) : Int)) = true := decide_eq_true q0
          have q0'' : decide ((0 : Int) < (p : Int) + 1) = true := decide_eq_true (by omega)
          have j1' : IntKind.i64.wrap (p : Int) = (p : Int) := IntWalk.i64_in _ (by omega)
          have j2 : (0 : Int) ≤ (p : Int) := by omega
          have j3 : (p : Int) < (n : Int) := by omega
          cases hlt2 : F.ltN Y X.n
          · have hF : R = false := by rw [← HR.out, F.diskB_no]; exact F.not_ok_adj (m := p + 1) (by omega) (by omega) (by rw [HX.out.1]; show F.ltN (L[p]'(by omega)).n X.n = false; rw [HY.out]; exact hlt2)
            subst hF
            have q4 : Op.bytesLess Y.toList X.n.toList = false := hlt2
            clear hrs HVV HX HU HA HR hfl
            go_wp2
            have kq0 := cell_regrown (w := (wr.alloc (.cells #[.string X.n, .string X.t, .int .i64 X.k] 108))) z0
            have kq1 := cell_regrown (w := (wr.alloc (.cells #[.string X.n, .string X.t, .int .i64 X.k] 108))) z1
            have kq2 := cell_regrown (w := (wr.alloc (.cells #[.string X.n, .string X.t, .int .i64 X.k] 108))) z2
            have kq3 := cell_regrown (w := (wr.alloc (.cells #[.string X.n, .string X.t, .int .i64 X.k] 108))) z3
            have kq4 := cell_regrown (w := (wr.alloc (.cells #[.string X.n, .string X.t, .int .i64 X.k] 108))) z4
            have cq0 := fun d os => Calls.regrown_of (w := (wr.alloc (.cells #[.string X.n, .string X.t, .int .i64 X.k] 108))) (d := d) (os := os) (HNM.out _)
            have cq1 := fun d os => Calls.regrown_of (w := (wr.alloc (.cells #[.string X.n, .string X.t, .int .i64 X.k] 108))) (d := d) (os := os) (HIN.out _)
            refine wp_region_quiet_below (by kernel_rfl) (by kernel_rfl) ?_
            repeat (go_big_quiet_step (first | exact cq0 _ _ | exact cq1 _ _))
            refine wpQuiet_nil ?_
            rintro _ ⟨⟨dq, osq⟩, rfl⟩
            have hb6 := below_regrown ((wr.alloc (.cells #[.string X.n, .string X.t, .int .i64 X.k] 108))) dq osq
            generalize grow (redrawn ((wr.alloc (.cells #[.string X.n, .string X.t, .int .i64 X.k] 108))) dq) osq = w6 at *
            clear kq0 kq1 kq2 kq3 kq4 cq0 cq1
            have hb7 := HB.out.trans ((HBW.out.trans (hb6.mono HBS)).mono (by omega))
            go_wp2
            try rw [Exit.noGoto_ret]
            go_ret
            exact ⟨rfl, hb7⟩
          · have HU2 : Hid (F.Upto L (p + 1 + 1)) := HU.out.step (by omega) (by rw [HX.out.1]; exact hfl) (fun h => by rw [HX.out.1]; show F.ltN (L[p]'(by omega)).n X.n = true; rw [HY.out]; exact hlt2)
            have q4 : Op.bytesLess Y.toList X.n.toList = true := hlt2
            clear hrs HVV HX HU HA HR hfl
            go_wp2
            have kq0 := cell_regrown (w := (wr.alloc (.cells #[.string X.n, .string X.t, .int .i64 X.k] 108))) z0
            have kq1 := cell_regrown (w := (wr.alloc (.cells #[.string X.n, .string X.t, .int .i64 X.k] 108))) z1
            have kq2 := cell_regrown (w := (wr.alloc (.cells #[.string X.n, .string X.t, .int .i64 X.k] 108))) z2
            have kq3 := cell_regrown (w := (wr.alloc (.cells #[.string X.n, .string X.t, .int .i64 X.k] 108))) z3
            have kq4 := cell_regrown (w := (wr.alloc (.cells #[.string X.n, .string X.t, .int .i64 X.k] 108))) z4
            have cq0 := fun d os => Calls.regrown_of (w := (wr.alloc (.cells #[.string X.n, .string X.t, .int .i64 X.k] 108))) (d := d) (os := os) (HNM.out _)
            have cq1 := fun d os => Calls.regrown_of (w := (wr.alloc (.cells #[.string X.n, .string X.t, .int .i64 X.k] 108))) (d := d) (os := os) (HIN.out _)
            refine wp_region_quiet_below (by kernel_rfl) (by kernel_rfl) ?_
            repeat (go_big_quiet_step (first | exact cq0 _ _ | exact cq1 _ _))
            refine wpQuiet_nil ?_
            rintro _ ⟨⟨dq, osq⟩, rfl⟩
            have hb6 := below_regrown ((wr.alloc (.cells #[.string X.n, .string X.t, .int .i64 X.k] 108))) dq osq
            generalize grow (redrawn ((wr.alloc (.cells #[.string X.n, .string X.t, .int .i64 X.k] 108))) dq) osq = w6 at *
            clear kq0 kq1 kq2 kq3 kq4 cq0 cq1
            have hb7 := HBW.out.trans (hb6.mono HBS)
            go_wp2
            go_roundw
            case rel => exact ⟨p + 1 + 1, by omega, by go_num, HU2, hb7⟩
            case measure => simp [intOf]; omega
    · have hme : m = n := by omega
      have hF : R = true := by rw [← HR.out, F.diskB_iff]; exact F.Upto.ok (by rw [hn, ← hme]; exact HU.out) (by omega)
      subst hF
      subst hme
      clear HU HR HVV HA
      go_wp2
      go_ret
      exact ⟨rfl, HB.out.trans (hbel.mono (by omega))⟩

end Go.Proofs.YthlgohplljcgfaaGreatDoor
/-
  What the laws' own helpers do with files and disks: taken over, compared, weighed.
-/
namespace Go.Proofs.YthlgohplljcgfaaGreatDoor
open Go.RowKit Go.BigFrame Go.Sort
set_option linter.unusedVariables false
set_option linter.unusedSimpArgs false

section
variable {fn : Func} {Rp : Ending → World → Prop} {a : Act} {w : World}
/-- a record answered out of its block -/
theorem ret_rec (c g T : Nat) (cs : List Value) (d : TypeDesc) (hres : fn.results = #[.cell c T]) (hd : a.defers = []) (hp : a.tmps.getD c undef = .pointer (some ⟨g, 0, none⟩))
    (hu : Tryz.prog.underlying T = some d) (hrow : d.isRow = true) (hi : (Tryz.prog.info? T).map (·.size) = some cs.length) (hA : w.rangeAt g 0 cs) (h : Rp (.returned (.agg cs.toArray)) w) : bodyPost Tryz.prog fn Rp .ret a w := by
  have hr := run_loadVar_mid (P := Tryz.prog) w g 0 T cs d hA hu hrow hi
  refine bodyPost_ret (v := .agg cs.toArray) ?_ hd h
  have hp' : a.tmps[c]?.getD undef = .pointer (some ⟨g, 0, none⟩) := by simpa using hp
  simp [results, hres, asAddr, hr, hp']
/-- .. and something beside it -/
theorem ret_rec2 (c s g T : Nat) (cs : List Value) (b : Value) (d : TypeDesc) (hres : fn.results = #[.cell c T, .tmp s]) (hd : a.defers = []) (hp : a.tmps.getD c undef = .pointer (some ⟨g, 0, none⟩)) (hb : a.tmps.getD s undef = b)
    (hu : Tryz.prog.underlying T = some d) (hrow : d.isRow = true) (hi : (Tryz.prog.info? T).map (·.size) = some cs.length) (hA : w.rangeAt g 0 cs) (h : Rp (.returned (.tuple #[.agg cs.toArray, b])) w) : bodyPost Tryz.prog fn Rp .ret a w := by
  have hr := run_loadVar_mid (P := Tryz.prog) w g 0 T cs d hA hu hrow hi
  refine bodyPost_ret (v := .tuple #[.agg cs.toArray, b]) ?_ hd h
  have hp' : a.tmps[c]?.getD undef = .pointer (some ⟨g, 0, none⟩) := by simpa using hp
  have hb' : a.tmps[s]?.getD undef = b := by simpa using hb
  simp [results, hres, asAddr, hr, hp', hb']
end

theorem range1 {w : World} {g o : Nat} {u : Value} (h : w.cell? ⟨g, o, none⟩ = some u) : w.rangeAt g o [u] := fun j v hv => by
  match j, hv with
  | 0, hv => simp at hv; subst hv; exact h
theorem range3 {w : World} {g o : Nat} {u1 u2 u3 : Value} (h1 : w.cell? ⟨g, o, none⟩ = some u1) (h2 : w.cell? ⟨g, o + 1, none⟩ = some u2) (h3 : w.cell? ⟨g, o + 2, none⟩ = some u3) : w.rangeAt g o [u1, u2, u3] := fun j v hv => by
  match j, hv with
  | 0, hv => simp at hv; subst hv; exact h1
  | 1, hv => simp at hv; subst hv; exact h2
  | 2, hv => simp at hv; subst hv; exact h3
theorem range_new (W : World) (cs : List Value) (T : Nat) : (W.alloc (.cells cs.toArray T)).rangeAt W.heap.size 0 cs := fun j v hv => by
  rw [cell_of_row _ W.heap.size (0 + j) cs.toArray T (0, 0) (Go.heap_alloc_new W _), Nat.zero_add]
  simpa using hv
theorem range_at {W : World} {g g' o : Nat} {cs : List Value} (e : g = g') (h : W.rangeAt g o cs) : W.rangeAt g' o cs := e ▸ h
theorem size_setCells (b : Nat) : ∀ (vs : List Value) (o : Nat) (w : World), (w.setCells b o vs).heap.size = w.heap.size
  | [], _, _ => rfl
  | v :: r, o, w => by
    rw [World.setCells, size_setCells b r]
    simp
theorem below_setCells {B b : Nat} {w0 : World} (hB : B ≤ b) : ∀ (vs : List Value) (o : Nat) (w : World), Below B w0 w → Below B w0 (w.setCells b o vs)
  | [], _, _, h => h
  | v :: r, o, w, h => below_setCells hB r (o + 1) _ (h.setCell (p := ⟨b, o, none⟩) hB v)
theorem there3 {w : World} {g o : Nat} (h : w.there g o 3) : (∃ u, w.cell? ⟨g, o, none⟩ = some u) ∧ (∃ u, w.cell? ⟨g, o + 1, none⟩ = some u) ∧ (∃ u, w.cell? ⟨g, o + 2, none⟩ = some u) ∧ w.frozen? ⟨g, o, none⟩ = false ∧ w.frozen? ⟨g, o + 1, none⟩ = false ∧ w.frozen? ⟨g, o + 2, none⟩ = false :=
  ⟨Option.isSome_iff_exists.1 (h 0 (by omega)).1, Option.isSome_iff_exists.1 (h 1 (by omega)).1, Option.isSome_iff_exists.1 (h 2 (by omega)).1, (h 0 (by omega)).2, (h 1 (by omega)).2, (h 2 (by omega)).2⟩
theorem grown_setC (w : World) (g j : Nat) (v : Value) : w.grownBy (w.setCell ⟨g, j, none⟩ v) (some g) :=
  ⟨rfl, rfl, rfl, by simp, fun i _ hi => RowKit.Below.heap_setCell _ _ _ _ (fun e => hi (by rw [e]))⟩
theorem alloc_fst (w : World) (o : Obj) {g : Nat} (h : g = w.heap.size) : (w.alloc o).heap[g]? = some o := h ▸ Go.heap_alloc_new w o
theorem alloc_snd (w : World) (o1 o2 : Obj) {g : Nat} (h : g = w.heap.size) : ((w.alloc o1).alloc o2).heap[g]? = some o1 := (Below.heap_alloc _ _ g (by simp; omega)).trans (alloc_fst w o1 h)
theorem cell_set_same {w : World} {g j : Nat} {cs : Array Value} {T : Nat} (h : w.heap[g]? = some (.cells cs T (0, 0))) (hj : j < cs.size) (v : Value) : (w.setCell ⟨g, j, none⟩ v).cell? ⟨g, j, none⟩ = some v := by
  rw [cell_of_row _ g j _ T (0, 0) (heap_setCell_same w g j _ _ _ h)]
  simp [hj]
theorem sizeFile : (Tryz.prog.info? 108).map (·.size) = some 3 := by kernel_rfl
theorem sizeDisk : (Tryz.prog.info? 28).map (·.size) = some 1 := by kernel_rfl

set_option maxRecDepth 100000 in
set_option maxHeartbeats 400000 in
theorem toFile_any (f : Fl) (w : World) : Calls Tryz.prog 73 #[.agg #[.string f.n, .string f.t, .int .i64 f.k]] w fun e w' => e = .returned (.agg #[.string f.n, .string f.t, .int .i64 f.k]) ∧ Below w.heap.size w w' := by
  obtain ⟨x, t, k⟩ := f
  go_enter Tryz.func73, Tryz.ntmps73
  go_wp2
  refine ret_rec 2 (w.heap.size + 1) 108 [.string x, .string t, .int .i64 k] _ rfl rfl rfl Tryz.underlying108 rfl sizeFile ?_ ?_
  · exact World.rangeAt_alloc (range_at (by simp) (range_new _ [.string x, .string t, .int .i64 k] _)) _
  · exact ⟨rfl, (((Below.refl _ _).alloc (Nat.le_refl _) _).alloc (by simp) _).alloc (by simp; omega) _⟩


theorem Tryz.infoFile : (Tryz.prog.info? 108).map (fun i => (i.zero, i.size, i.bytes)) = some (some (.agg #[.string ByteArray.empty, .string ByteArray.empty, .int .i64 0]), 3, 40) := by kernel_rfl
theorem there_new {W : World} {cs : Array Value} {T n : Nat} (h : cs.size = n * 3) (j : Nat) (hj : j < n) : (W.alloc (.cells cs T)).there W.heap.size (j * 3) 3 := by
  intro i hi
  have hg := Go.heap_alloc_new W (.cells cs T)
  refine ⟨?_, by unfold World.frozen?; simp only [hg]; simp⟩
  rw [cell_of_row _ W.heap.size (j * 3 + i) cs T (0, 0) hg, Array.getElem?_eq_getElem (by omega)]
  rfl
theorem made_files (n : Nat) (h : n ≤ 1100000) (W : World) : ∃ w', (Instr.makeSlice 26 (.int .i64 (n : Int)) (.int .i64 (n : Int))).run Tryz.prog W = .ok (.slice (some ⟨W.heap.size, 0, none⟩) n n) w' ∧ (∀ j, j < n → w'.there W.heap.size (j * 3) 3) ∧ Below W.heap.size W w' ∧ w'.heap.size = W.heap.size + 1 := by
  obtain ⟨i0, hi, hz0, hz1, hz2⟩ := info_parts Tryz.infoFile
  have h1 := run_make (P := Tryz.prog) W 26 108 i0 _ Tryz.underlying26 hi hz0 .i64 .i64 (n : Int) (n : Int) (by omega) (by omega) (by rw [hz2]; omega) (by omega)
  refine ⟨_, by simpa using h1, fun j hj => there_new ?_ j hj, (Below.refl _ _).alloc (Nat.le_refl _) _, by simp⟩
  rw [size_madeCells, hz1]

/-- the first m records of a new row are written -/
def ToF (w : World) (l : List Fl) (B g : Nat) (i : Value) (wr : World) : Prop := ∃ m : Nat, m ≤ l.length ∧ i = .int .i64 m ∧ (∀ j (h : j < l.length), j < m → wr.rangeAt g (j * 3) (fcs l[j])) ∧ (∀ j, j < l.length → wr.there g (j * 3) 3) ∧ Below B w wr
theorem ToF.set {w wr : World} {l : List Fl} {g m B : Nat} (hm : m < l.length) (hB : B ≤ g) (h1 : ∀ j (h : j < l.length), j < m → wr.rangeAt g (j * 3) (fcs l[j])) (h2 : ∀ j, j < l.length → wr.there g (j * 3) 3) (h3 : Below B w wr) :
    (∀ j (h : j < l.length), j < m + 1 → (wr.setCells g (m * 3) (fcs l[m])).rangeAt g (j * 3) (fcs l[j])) ∧ (∀ j, j < l.length → (wr.setCells g (m * 3) (fcs l[m])).there g (j * 3) 3) ∧ Below B w (wr.setCells g (m * 3) (fcs l[m])) := by
  refine ⟨fun j hj hlt => ?_, fun j hj => World.there_setCells (h2 j hj) _ _ _, ?_⟩
  · rcases Nat.lt_or_ge j m with h4 | h4
    · exact World.rangeAt_setCells_apart (h1 j hj h4) _ _ _ (.inr (.inl (by rw [fcs_len]; omega)))
    · have : j = m := by omega
      subst this
      exact World.rangeAt_setCells_same _ _ _ _ (h2 j hj)
  · exact below_setCells hB _ _ _ h3

set_option maxRecDepth 100000 in
set_option maxHeartbeats 400000 in
theorem toFileS_any (v : Value) (ga oa : Nat) (l : List Fl) (w : World) (hv : RS 3 fcs w v ga oa l) :
    Calls Tryz.prog 30 #[v] w fun e w' => ∃ g, e = .returned (.slice (some ⟨g, 0, none⟩) l.length l.length) ∧ w.heap.size ≤ g ∧ RW 3 fcs w' (.slice (some ⟨g, 0, none⟩) l.length l.length) g l ∧ g < w'.heap.size ∧ Below w.heap.size w w' := by
  have HV : Hid (RS 3 fcs w v ga oa l) := hv
  obtain ⟨a, cap, rfl, hl, hA, hc⟩ := hv
  obtain ⟨n, hn⟩ : ∃ n, l.length = n := ⟨_, rfl⟩
  obtain ⟨w2, hmk, hib, hb2, hs2⟩ := made_files n (by omega) w
  have HST : Hid (ToF w l w.heap.size w.heap.size (.int .i64 0) w2 ∧ w.heap.size < w2.heap.size) := ⟨⟨0, by omega, rfl, fun j _ h => by omega, by rw [hn]; exact hib, hb2⟩, by omega⟩
  have HA : Hid (0 < n → a = some ⟨ga, oa, none⟩) := by rw [← hn]; exact fun h => (hA h).1
  rw [hn] at hl ⊢
  clear hib hb2 hs2 hA hc
  go_enter Tryz.func30, Tryz.ntmps30
  go_wp2
  clear hmk
  go_loopw [4] (fun i wr => ToF w l w.heap.size w.heap.size i wr ∧ w.heap.size < wr.heap.size) (fun i _ => n - (intOf i).toNat)
  case atStart => exact HST.out
  case round =>
    obtain ⟨⟨m, hm, rfl, h1, h2, hbel⟩, hws⟩ := hrel
    have HI : Hid ((∀ j (h : j < l.length), j < m → wr.rangeAt w.heap.size (j * 3) (fcs l[j])) ∧ (∀ j, j < l.length → wr.there w.heap.size (j * 3) 3) ∧ Below w.heap.size w wr) := ⟨h1, h2, hbel⟩
    clear HST h1 h2 hbel
    rw [hn] at hm
    by_cases hlt : m < n
    · have ea := HA.out (by omega)
      subst ea
      obtain ⟨c0, c1, c2⟩ := (HV.out.later HI.out.2.2).file m (by omega)
      obtain ⟨X, hX⟩ : ∃ X, l[m]'(by omega) = X := ⟨_, rfl⟩
      rw [hX] at c0 c1 c2
      have HX : Hid (l[m]'(by omega) = X) := hX
      have i1 : (m : Int) < (n : Int) := by omega
      have i2 : (0 : Int) ≤ (m : Int) := by omega
      clear hX HV HA
      go_wp2_with fail
      refine (toFile_any X _).mono ?_
      rintro e w1 ⟨rfl, hb1⟩
      have HJ : Hid ((∀ j (h : j < l.length), j < m + 1 → (w1.setCells w.heap.size (m * 3) (fcs X)).rangeAt w.heap.size (j * 3) (fcs l[j])) ∧ (∀ j, j < l.length → (w1.setCells w.heap.size (m * 3) (fcs X)).there w.heap.size (j * 3) 3) ∧ Below w.heap.size w (w1.setCells w.heap.size (m * 3) (fcs X))) := by
        have h := ToF.set (w := w) (wr := w1) (l := l) (g := w.heap.size) (m := m) (B := w.heap.size) (by omega) (Nat.le_refl _) (fun j hj h => range_kept (HI.out.1 j hj h) (hb1.block _ hws)) (fun j hj => there_kept (HI.out.2.1 j hj) (hb1.block _ hws)) (HI.out.2.2.trans (hb1.mono HI.out.2.2.size))
        rw [HX.out] at h
        exact h
      have HT : Hid (w1.there w.heap.size (m * 3) 3) := there_kept (HI.out.2.1 m (by omega)) (hb1.block _ hws)
      have hws1 : w.heap.size < (w1.setCells w.heap.size (m * 3) (fcs X)).heap.size := by rw [size_setCells]; exact Nat.lt_of_lt_of_le hws hb1.size
      clear hb1 HI c0 c1 c2
      obtain ⟨⟨o0, x0⟩, ⟨o1, x1⟩, ⟨o2, x2⟩, f0, f1, f2⟩ := there3 HT.out
      go_wp2
      go_roundw
      case rel => exact ⟨⟨m + 1, by omega, by go_num, HJ.out⟩, hws1⟩
      case measure => simp [intOf]; omega
    · have hme : m = n := by omega
      subst hme
      clear HV HA
      go_wp2
      go_ret
      refine ⟨w.heap.size, rfl, Nat.le_refl _, ⟨⟨_, _, by rw [hn], by omega, fun _ => ⟨rfl, hws⟩, fun j hj => ?_⟩, HI.out.2.1⟩, hws, HI.out.2.2⟩
      rw [Nat.zero_add]
      exact HI.out.1 j hj (by omega)

theorem eqFile_yes (f : Fl) (w : World) : Calls Tryz.prog 84 #[.agg #[.string f.n, .string f.t, .int .i64 f.k], .agg #[.string f.n, .string f.t, .int .i64 f.k]] w fun e w' => e = .returned (.bool true) ∧ Below w.heap.size w w' := by
  obtain ⟨x, t, k⟩ := f
  have hb : Below w.heap.size w ((w.alloc (.cells #[.string x, .string t, .int .i64 k] 108)).alloc (.cells #[.string x, .string t, .int .i64 k] 108)) := ((Below.refl _ _).alloc (Nat.le_refl _) _).alloc (by simp) _
  go_enter Tryz.func84, Tryz.ntmps84
  go_wp2
  go_ret
  exact ⟨rfl, hb⟩


/-- a disk answered: its row may be written, and lies in blocks from B on -/
def DkIn (w : World) (B : Nat) (v : Value) (l : List Fl) : Prop := ∃ s g, v = .agg #[s] ∧ RW 3 fcs w s g l ∧ B ≤ g

set_option maxRecDepth 100000 in
set_option maxHeartbeats 400000 in
theorem toDisk_any (v : Value) (ga oa : Nat) (l : List Fl) (w : World) (hv : RS 3 fcs w v ga oa l) :
    Calls Tryz.prog 9 #[.agg #[v]] w fun e w' => ∃ u, e = .returned u ∧ DkIn w' w.heap.size u l ∧ Below w.heap.size w w' := by
  have hb0 : Below w.heap.size w (((w.alloc (.cells #[v] 24)).alloc (.cells #[.slice none 0 0] 28)).alloc (.cells #[.slice none 0 0] 28)) := (((Below.refl _ _).alloc (Nat.le_refl _) _).alloc (by simp) _).alloc (by simp; omega) _
  have HC := toFileS_any v ga oa l _ (hv.later hb0)
  obtain ⟨a, cap, rfl⟩ := hv.shape
  have hg1 : (((w.alloc (.cells #[.slice a l.length cap] 24)).alloc (.cells #[.slice none 0 0] 28)).alloc (.cells #[.slice none 0 0] 28)).heap[w.heap.size + 1]? = some (.cells #[.slice none 0 0] 28 (0, 0)) := alloc_snd _ _ _ (by simp)
  have hg2 : (((w.alloc (.cells #[.slice a l.length cap] 24)).alloc (.cells #[.slice none 0 0] 28)).alloc (.cells #[.slice none 0 0] 28)).heap[w.heap.size + 2]? = some (.cells #[.slice none 0 0] 28 (0, 0)) := alloc_fst _ _ (by simp)
  have HG : Hid (Below w.heap.size w (((w.alloc (.cells #[.slice a l.length cap] 24)).alloc (.cells #[.slice none 0 0] 28)).alloc (.cells #[.slice none 0 0] 28)) ∧ (((w.alloc (.cells #[.slice a l.length cap] 24)).alloc (.cells #[.slice none 0 0] 28)).alloc (.cells #[.slice none 0 0] 28)).heap[w.heap.size + 1]? = some (.cells #[.slice none 0 0] 28 (0, 0)) ∧ (((w.alloc (.cells #[.slice a l.length cap] 24)).alloc (.cells #[.slice none 0 0] 28)).alloc (.cells #[.slice none 0 0] 28)).heap[w.heap.size + 2]? = some (.cells #[.slice none 0 0] 28 (0, 0))) := ⟨hb0, hg1, hg2⟩
  clear hb0 hg1 hg2 hv
  go_enter Tryz.func9, Tryz.ntmps9
  go_wp2_with fail
  refine HC.mono ?_
  rintro e w1 ⟨g, rfl, hg, hrw, hgl, hb⟩
  have hsz : (((w.alloc (.cells #[.slice a l.length cap] 24)).alloc (.cells #[.slice none 0 0] 28)).alloc (.cells #[.slice none 0 0] 28)).heap.size = w.heap.size + 3 := by simp
  rw [hsz] at hg
  have h1 : w1.heap[w.heap.size + 1]? = some (.cells #[.slice none 0 0] 28 (0, 0)) := (hb.block _ (by rw [hsz]; omega)).trans HG.out.2.1
  have h2 : w1.heap[w.heap.size + 2]? = some (.cells #[.slice none 0 0] 28 (0, 0)) := (hb.block _ (by rw [hsz]; omega)).trans HG.out.2.2
  have c1 : w1.cell? ⟨w.heap.size + 1, 0, none⟩ = some (.slice none 0 0) := by rw [cell_of_row _ _ 0 _ _ _ h1]; rfl
  have c2 : w1.cell? ⟨w.heap.size + 2, 0, none⟩ = some (.slice none 0 0) := by rw [cell_of_row _ _ 0 _ _ _ h2]; rfl
  have f1 : w1.frozen? ⟨w.heap.size + 1, 0, none⟩ = false := by simp [World.frozen?, h1]
  have f2 : w1.frozen? ⟨w.heap.size + 2, 0, none⟩ = false := by simp [World.frozen?, h2]
  have hb1 := HG.out.1.trans (hb.mono (by rw [hsz]; omega))
  have hr2 := (hrw.grown (grown_setC w1 (w.heap.size + 2) 0 (.slice (some ⟨g, 0, none⟩) l.length l.length)) (fun _ => by simp; omega)).grown (grown_setC _ (w.heap.size + 1) 0 (.slice (some ⟨g, 0, none⟩) l.length l.length)) (fun _ => by simp; omega)
  have HR : Hid (RW 3 fcs ((w1.setCell ⟨w.heap.size + 2, 0, none⟩ (.slice (some ⟨g, 0, none⟩) l.length l.length)).setCell ⟨w.heap.size + 1, 0, none⟩ (.slice (some ⟨g, 0, none⟩) l.length l.length)) (.slice (some ⟨g, 0, none⟩) l.length l.length) g l ∧ Below w.heap.size w ((w1.setCell ⟨w.heap.size + 2, 0, none⟩ (.slice (some ⟨g, 0, none⟩) l.length l.length)).setCell ⟨w.heap.size + 1, 0, none⟩ (.slice (some ⟨g, 0, none⟩) l.length l.length))) := ⟨hr2, (hb1.setCell (p := ⟨w.heap.size + 2, 0, none⟩) (by simp) _).setCell (p := ⟨w.heap.size + 1, 0, none⟩) (by simp) _⟩
  have HCS : Hid (((w1.setCell ⟨w.heap.size + 2, 0, none⟩ (.slice (some ⟨g, 0, none⟩) l.length l.length)).setCell ⟨w.heap.size + 1, 0, none⟩ (.slice (some ⟨g, 0, none⟩) l.length l.length)).cell? ⟨w.heap.size + 1, 0, none⟩ = some (.slice (some ⟨g, 0, none⟩) l.length l.length)) := cell_set_same (((grown_setC w1 (w.heap.size + 2) 0 _).block _ (Array.getElem?_eq_some_iff.1 h1).1 (by simp)).trans h1) (by simp) _
  clear hr2 hrw hb HC HG hb1 hsz
  go_wp2
  refine ret_rec 2 (w.heap.size + 1) 28 [.slice (some ⟨g, 0, none⟩) l.length l.length] _ rfl rfl rfl Tryz.underlying28 rfl sizeDisk (range1 HCS.out) ?_
  exact ⟨_, rfl, ⟨_, g, rfl, HR.out.1, by omega⟩, HR.out.2⟩

def EfR (n : Nat) (w : World) (i : Value) (wr : World) : Prop := ∃ m : Nat, m ≤ n ∧ i = .int .i64 m ∧ Below w.heap.size w wr

set_option maxRecDepth 100000 in
set_option maxHeartbeats 400000 in
theorem eqFileS_yes (u v : Value) (ga oa gb ob : Nat) (l : List Fl) (w : World) (hu : RS 3 fcs w u ga oa l) (hv : RS 3 fcs w v gb ob l) :
    Calls Tryz.prog 38 #[u, v] w fun e w' => e = .returned (.bool true) ∧ Below w.heap.size w w' := by
  have HU : Hid (RS 3 fcs w u ga oa l) := hu
  have HV : Hid (RS 3 fcs w v gb ob l) := hv
  obtain ⟨a, cap, rfl, hl, hA, _⟩ := hu
  obtain ⟨b, cap2, rfl, _, hB, _⟩ := hv
  obtain ⟨n, hn⟩ : ∃ n, l.length = n := ⟨_, rfl⟩
  have HA : Hid (0 < n → a = some ⟨ga, oa, none⟩ ∧ b = some ⟨gb, ob, none⟩) := by rw [← hn]; exact fun h => ⟨(hA h).1, (hB h).1⟩
  rw [hn] at hl ⊢
  clear hA hB
  go_enter Tryz.func38, Tryz.ntmps38
  go_wp2
  go_loopw [5] (fun i wr => EfR n w i wr) (fun i _ => n - (intOf i).toNat)
  case atStart => exact ⟨0, by omega, rfl, Below.refl _ _⟩
  case round =>
    obtain ⟨m, hm, rfl, hbel⟩ := hrel
    by_cases hlt : m < n
    · obtain ⟨ea, eb⟩ := HA.out (by omega)
      subst ea
      subst eb
      obtain ⟨c0, c1, c2⟩ := (HU.out.later hbel).file m (by omega)
      obtain ⟨e0, e1, e2⟩ := (HV.out.later hbel).file m (by omega)
      generalize l[m]'(by omega) = X at *
      have i1 : (m : Int) < (n : Int) := by omega
      have i2 : (0 : Int) ≤ (m : Int) := by omega
      clear HU HV HA
      go_wp2
      have kq0 := cell_regrown (w := wr) c0
      have kq1 := cell_regrown (w := wr) c1
      have kq2 := cell_regrown (w := wr) c2
      have kq3 := cell_regrown (w := wr) e0
      have kq4 := cell_regrown (w := wr) e1
      have kq5 := cell_regrown (w := wr) e2
      have cq0 := fun d os => Calls.regrown_of (w := wr) (d := d) (os := os) (eqFile_yes X _)
      refine wp_region_quiet_below (by kernel_rfl) (by kernel_rfl) ?_
      repeat (go_big_quiet_step (first | exact cq0 _ _))
      refine wpQuiet_nil ?_
      rintro _ ⟨⟨dq, osq⟩, rfl⟩
      have hb6 := below_regrown (wr) dq osq
      generalize grow (redrawn (wr) dq) osq = w6 at *
      clear kq0 kq1 kq2 kq3 kq4 kq5 cq0
      go_wp2
      go_roundw
      case rel => exact ⟨m + 1, by omega, by go_num, hbel.trans (hb6.mono hbel.size)⟩
      case measure => simp [intOf]; omega
    · have hme : m = n := by omega
      subst hme
      clear HU HV HA
      go_wp2
      go_ret
      exact ⟨rfl, hbel⟩

theorem eqDisk_yes (u v : Value) (ga oa gb ob : Nat) (l : List Fl) (w : World) (hu : RS 3 fcs w u ga oa l) (hv : RS 3 fcs w v gb ob l) :
    Calls Tryz.prog 12 #[.agg #[u], .agg #[v]] w fun e w' => e = .returned (.bool true) ∧ Below w.heap.size w w' := by
  have hb0 : Below w.heap.size w ((w.alloc (.cells #[u] 28)).alloc (.cells #[v] 28)) := ((Below.refl _ _).alloc (Nat.le_refl _) _).alloc (by simp) _
  have HC := eqFileS_yes u v ga oa gb ob l _ (hu.later hb0) (hv.later hb0)
  obtain ⟨a, cap, rfl⟩ := hu.shape
  obtain ⟨b, cap2, rfl⟩ := hv.shape
  clear hu hv
  go_enter Tryz.func12, Tryz.ntmps12
  go_wp2_with fail
  refine HC.mono ?_
  rintro e w1 ⟨rfl, hb⟩
  have hb1 := hb0.trans (hb.mono hb0.size)
  go_wp2
  go_ret
  exact ⟨rfl, hb1⟩

set_option maxHeartbeats 400000 in
theorem szFile_any (f : Fl) (x : Int) (w : World) (h0 : 0 ≤ x) (h1 : x ≤ 1048576) (hn : f.n.size ≤ 9223372036854775807) (ht : f.t.size ≤ 9223372036854775807) :
    Calls Tryz.prog 62 #[.agg #[.string f.n, .string f.t, .int .i64 f.k], .int .i64 x] w fun e w' => ∃ A : Int, e = .returned (.int .i64 A) ∧ Below w.heap.size w w' ∧ A ≤ x ∧ (0 ≤ A → f.n.size ≤ 1048576 ∧ f.t.size ≤ 1048576) := by
  obtain ⟨y, t, k⟩ := f
  simp only at hn ht ⊢
  have HB : Hid (Below w.heap.size w (w.alloc (.cells #[.string y, .string t, .int .i64 k] 91))) := (Below.refl _ _).alloc (Nat.le_refl _) _
  by_cases h2 : x - (y.size : Int) < 0
  · go_enter Tryz.func62, Tryz.ntmps62
    go_wp2
    go_ret
    exact ⟨_, rfl, HB.out, by omega, fun h => by omega⟩
  · by_cases h3 : x - (y.size : Int) - (t.size : Int) < 0
    · go_enter Tryz.func62, Tryz.ntmps62
      go_wp2
      go_ret
      exact ⟨_, rfl, HB.out, by omega, fun h => by omega⟩
    · go_enter Tryz.func62, Tryz.ntmps62
      go_wp2
      go_ret
      exact ⟨_, rfl, HB.out, by omega, fun h => ⟨by omega, by omega⟩⟩

/-- a row of files that was handed in, great or small: if it is small, it is l -/
def IsRowF (w : World) (v : Value) (g o : Nat) (l : List Fl) : Prop := ∃ a n cap, v = .slice a n cap ∧ n ≤ 9223372036854775807 ∧ (n ≤ 1100000 → l.length = n ∧ RS 3 fcs w v g o l ∧ ∀ f ∈ l, f.n.size ≤ 9223372036854775807 ∧ f.t.size ≤ 9223372036854775807)
theorem IsRowF.later {w w' : World} {v : Value} {g o : Nat} {l : List Fl} (h : IsRowF w v g o l) (hb : Below w.heap.size w w') : IsRowF w' v g o l := by
  obtain ⟨a, n, cap, hv, hn, hr⟩ := h
  exact ⟨a, n, cap, hv, hn, fun hl => ⟨(hr hl).1, (hr hl).2.1.later hb, (hr hl).2.2⟩⟩
/-- no text of it is great -/
def SmallF (l : List Fl) : Prop := ∀ f ∈ l, f.n.size ≤ 1048576 ∧ f.t.size ≤ 1048576

def SzF (l : List Fl) (x0 : Int) (w : World) (x i : Value) (wr : World) : Prop := ∃ (m : Nat) (y : Int), m ≤ l.length ∧ i = .int .i64 m ∧ x = .int .i64 y ∧ 0 ≤ y ∧ y ≤ x0 ∧ Hid (∀ j (h : j < l.length), j < m → l[j].n.size ≤ 1048576 ∧ l[j].t.size ≤ 1048576) ∧ Below w.heap.size w wr

set_option maxRecDepth 100000 in
set_option maxHeartbeats 400000 in
theorem szFileS_row (v : Value) (g o : Nat) (l : List Fl) (x : Int) (w : World) (hv : IsRowF w v g o l) (h0 : 0 ≤ x) (h1 : x ≤ 1048576) :
    Calls Tryz.prog 27 #[v, .int .i64 x] w fun e w' => ∃ A : Int, e = .returned (.int .i64 A) ∧ Below w.heap.size w w' ∧ A ≤ x ∧ (0 ≤ A → RS 3 fcs w v g o l ∧ SmallF l ∧ l.length ≤ 1048576) := by
  obtain ⟨a, n, cap, rfl, hn, hr⟩ := hv
  by_cases hbig : x < (n : Int)
  · have q : x - (n : Int) < 0 := by omega
    go_enter Tryz.func27, Tryz.ntmps27
    go_wp2
    go_ret
    exact ⟨_, rfl, Below.refl _ _, by omega, fun h => by omega⟩
  obtain ⟨hln, hrs, hsz⟩ := hr (by omega)
  have HRS : Hid (RS 3 fcs w (.slice a n cap) g o l) := hrs
  have HSZ : Hid (∀ f ∈ l, f.n.size ≤ 9223372036854775807 ∧ f.t.size ≤ 9223372036854775807) := hsz
  have HLN : Hid (l.length = n) := hln
  obtain ⟨a', c', ev, _, hA, _⟩ := hrs
  have HA : Hid (0 < n → a = some ⟨g, o, none⟩) := fun h => by
    have := (hA (by omega)).1
    simp at ev
    rw [ev.1, this]
  clear hr hA hsz ev
  have q : ¬ x - (n : Int) < 0 := by omega
  go_enter Tryz.func27, Tryz.ntmps27
  go_wp2
  go_loopw [1, 5] (fun y i wr => SzF l (x - (n : Int)) w y i wr) (fun _ i _ => n - (intOf i).toNat)
  case atStart => exact ⟨0, x - (n : Int), by omega, rfl, by go_num, by omega, by omega, fun j _ h => by omega, Below.refl _ _⟩
  case round =>
    obtain ⟨m, y, hm, rfl, rfl, hy0, hy1, HJ, hbel⟩ := hrel
    by_cases hlt : m < n
    · have ea := HA.out (by omega)
      subst ea
      obtain ⟨c0, c1, c2⟩ := (HRS.out.later hbel).file m (by omega)
      obtain ⟨X, hX⟩ : ∃ X, l[m]'(by omega) = X := ⟨_, rfl⟩
      rw [hX] at c0 c1 c2
      have hxs := HSZ.out X (by rw [← hX]; exact List.getElem_mem _)
      have HX : Hid (l[m]'(by omega) = X) := hX
      have i1 : (m : Int) < (n : Int) := by omega
      have i2 : (0 : Int) ≤ (m : Int) := by omega
      clear hX HSZ HA HRS
      go_wp2_with fail
      refine (szFile_any X y _ hy0 (by omega) hxs.1 hxs.2).mono ?_
      rintro e w1 ⟨A, rfl, hb1, hA1, hA2⟩
      have hbel1 := hbel.trans (hb1.mono hbel.size)
      have HA2 : Hid (0 ≤ A → X.n.size ≤ 1048576 ∧ X.t.size ≤ 1048576) := hA2
      clear hb1 hA2 c0 c1 c2 hbel hxs
      by_cases hneg : A < 0
      · clear HJ HX HA2
        go_wp2
        try rw [Exit.noGoto_ret]
        go_ret
        exact ⟨_, rfl, hbel1, by omega, fun h => by omega⟩
      · go_wp2
        go_roundw
        case rel =>
          refine ⟨m + 1, A, by omega, by go_num, rfl, by omega, by omega, ?_, hbel1⟩
          intro j hj hjl
          rcases Nat.lt_or_ge j m with h3 | h3
          · exact HJ.out j hj h3
          · have : j = m := by omega
            subst this
            rw [HX.out]
            exact HA2.out (by omega)
        case measure => simp [intOf]; omega
    · have hme : m = n := by omega
      have HF : Hid (RS 3 fcs w (.slice a n cap) g o l ∧ SmallF l ∧ l.length ≤ 1048576) := ⟨HRS.out, fun f hf => by
        obtain ⟨j, hj, rfl⟩ := List.getElem_of_mem hf
        exact HJ.out j hj (by omega), by omega⟩
      subst hme
      clear HJ HA HRS HSZ
      go_wp2
      go_ret
      exact ⟨_, rfl, hbel, by omega, fun _ => HF.out⟩

theorem szDisk_row (v : Value) (g o : Nat) (l : List Fl) (x : Int) (w : World) (hv : IsRowF w v g o l) (h0 : 0 ≤ x) (h1 : x ≤ 1048576) :
    Calls Tryz.prog 7 #[.agg #[v], .int .i64 x] w fun e w' => ∃ A : Int, e = .returned (.int .i64 A) ∧ Below w.heap.size w w' ∧ A ≤ x ∧ (0 ≤ A → RS 3 fcs w v g o l ∧ SmallF l ∧ l.length ≤ 1048576) := by
  have hb0 : Below w.heap.size w (w.alloc (.cells #[v] 24)) := (Below.refl _ _).alloc (Nat.le_refl _) _
  have HC := szFileS_row v g o l x _ (hv.later hb0) h0 h1
  obtain ⟨a, n, cap, rfl, _, hr⟩ := hv
  have HRR : Hid (n ≤ 1100000 → RS 3 fcs w (.slice a n cap) g o l) := fun h => (hr h).2.1
  clear hr
  go_enter Tryz.func7, Tryz.ntmps7
  go_wp2_with fail
  refine HC.mono ?_
  rintro e w1 ⟨A, rfl, hb1, hA1, hA2⟩
  have hb2 := hb0.trans (hb1.mono hb0.size)
  have HA2 : Hid (0 ≤ A → RS 3 fcs w (.slice a n cap) g o l ∧ SmallF l ∧ l.length ≤ 1048576) := fun h => by
    obtain ⟨h1, h2, h3⟩ := hA2 h
    obtain ⟨a', c', ev, _⟩ := h1
    simp at ev
    exact ⟨HRR.out (by omega), h2, h3⟩
  clear hA2 HC hb1
  by_cases hneg : A < 0
  · go_wp2
    go_ret
    exact ⟨_, rfl, hb2, by omega, fun h => by omega⟩
  · go_wp2
    go_ret
    exact ⟨_, rfl, hb2, by omega, HA2.out⟩

/-- the box of a disk -/
def BD (W : World) (p T : Nat) (v : Value) : Prop := W.heap[p]? = some (.cells #[v] T (0, 0))
theorem BD.cell {W : World} {p T : Nat} {v : Value} (h : BD W p T v) : W.cell? ⟨p, 0, none⟩ = some v := by rw [cell_of_row W p 0 _ _ (0, 0) h]; rfl
theorem BD.lt {W : World} {p T : Nat} {v : Value} (h : BD W p T v) : p < W.heap.size := (Array.getElem?_eq_some_iff.1 h).1
theorem BD.later {W W' : World} {p T : Nat} {v : Value} (h : BD W p T v) (hb : Below W.heap.size W W') : BD W' p T v := by
  have hlt := h.lt
  unfold BD at *
  rw [hb.block p hlt, h]
theorem BD.grown {W W' : World} {p T : Nat} {v : Value} {row : Option Nat} (h : BD W p T v) (hg : W.grownBy W' row) (hne : some p ≠ row) : BD W' p T v := by
  have hlt := h.lt
  unfold BD at *
  rw [hg.block p hlt hne, h]
theorem BD.new (w : World) (T : Nat) (v : Value) : BD (w.alloc (.cells #[v] T)) w.heap.size T v := Go.heap_alloc_new w _
theorem BD.range {W : World} {p T : Nat} {v : Value} (h : BD W p T v) : W.rangeAt p 0 [v] := range1 h.cell
theorem RS.back {α : Type} {k : Nat} {enc : α → List Value} {w : World} {v : Value} {g o : Nat} {l : List α} (x : Obj) (h : RS k enc (w.alloc x) v g o l) (hg : 0 < l.length → g < w.heap.size) : RS k enc w v g o l := by
  obtain ⟨a, c, hv, hl, h0, hc⟩ := h
  exact ⟨a, c, hv, hl, fun hp => ⟨(h0 hp).1, hg hp⟩, fun j hj => range_kept (hc j hj) (Below.heap_alloc _ _ g (hg (by omega))).symm⟩

end Go.Proofs.YthlgohplljcgfaaGreatDoor
/-
  What NameOk, ValueOk and BitOf answer, the program's and the specification's.
-/
namespace Go.Proofs.YthlgohplljcgfaaGreatDoor
open Go.RowKit
set_option linter.unusedVariables false

def nameB (b : UInt8) : Bool := decide ((97 ≤ b.toNat ∧ b.toNat ≤ 122) ∨ (48 ≤ b.toNat ∧ b.toNat ≤ 57) ∨ b.toNat = 64 ∨ b.toNat = 46)
def valB (b : UInt8) : Bool := decide (33 ≤ b.toNat ∧ b.toNat ≤ 126)
/-- one to twelve bytes, each as p wants it -/
def okB (p : UInt8 → Bool) (s : ByteArray) : Bool := decide (1 ≤ s.size ∧ s.size ≤ 12) && s.data.toList.all p

theorem okB_bad (p : UInt8 → Bool) (s : ByteArray) (k : Nat) (h : k < s.size) (hb : p s[k] = false) : okB p s = false := by
  unfold okB
  have : s.data.toList.all p = false := by
    rw [List.all_eq_false]
    exact ⟨s[k], by rw [ByteArray.getElem_eq_getElem_data]; exact Array.getElem_mem_toList .., by simp [hb]⟩
  rw [this, Bool.and_false]
theorem okB_good (p : UInt8 → Bool) (s : ByteArray) (h : ∀ k (h : k < s.size), p s[k] = true) : okB p s = decide (1 ≤ s.size ∧ s.size ≤ 12) := by
  unfold okB
  have : s.data.toList.all p = true := by
    rw [List.all_eq_true]
    intro x hx
    obtain ⟨k, hk, rfl⟩ := List.getElem_of_mem hx
    have hk' : k < s.size := by simpa using hk
    have := h k hk'
    rw [ByteArray.getElem_eq_getElem_data] at this
    simpa using this
  rw [this, Bool.and_true]
theorem okB_len (p : UInt8 → Bool) (s : ByteArray) (h : ¬ (1 ≤ s.size ∧ s.size ≤ 12)) : okB p s = false := by
  unfold okB
  rw [decide_eq_false h, Bool.false_and]

theorem byte_of (b : UInt8) : b.toNat < 46 ∨ b.toNat = 46 ∨ b.toNat = 47 ∨ (48 ≤ b.toNat ∧ b.toNat ≤ 57) ∨ (58 ≤ b.toNat ∧ b.toNat ≤ 63) ∨ b.toNat = 64 ∨ (65 ≤ b.toNat ∧ b.toNat ≤ 96) ∨ (97 ≤ b.toNat ∧ b.toNat ≤ 122) ∨ 123 ≤ b.toNat := by omega

theorem ret_b {a b : Bool} (h : a = b) : Ending.returned (.bool a) = .returned (.bool b) := by rw [h]

set_option maxHeartbeats 400000 in
theorem inNames_any (b : UInt8) (w : World) : Calls Tryz.prog 186 #[.int .u8 b.toNat] w fun e w' => e = .returned (.bool (nameB b)) ∧ w' = w := by
  have hb : b.toNat < 256 := b.toNat_lt
  obtain ⟨R, hR⟩ : ∃ R, nameB b = R := ⟨_, rfl⟩
  rw [hR]
  have HR : Hid (nameB b = R) := hR
  clear hR
  rcases byte_of b with h | h | h | ⟨h, h'⟩ | ⟨h, h'⟩ | h | ⟨h, h'⟩ | ⟨h, h'⟩ | h
  all_goals
    go_enter Tryz.func186, Tryz.ntmps186
    go_wp2
  all_goals
    go_ret
    refine ⟨ret_b ?_, rfl⟩
    have hR := HR.out
    unfold nameB at hR
    rw [← hR, Bool.eq_iff_iff]
    clear hR HR
    simp
    omega

def NmRel (p : UInt8 → Bool) (s : ByteArray) (w : World) (i : Value) (wr : World) : Prop := ∃ k : Nat, k ≤ s.size ∧ i = .int .i64 k ∧ Hid (∀ j (h : j < s.size), j < k → p s[j] = true) ∧ wr = w
theorem NmRel.step {p : UInt8 → Bool} {s : ByteArray} {k : Nat} (hk : k < s.size) (hp : p s[k] = true) (h : ∀ j (h : j < s.size), j < k → p s[j] = true) : Hid (∀ j (h : j < s.size), j < k + 1 → p s[j] = true) := by
  intro j hj hlt
  rcases Nat.lt_or_ge j k with h1 | h1
  · exact h j hj h1
  · have : j = k := by omega
    subst this
    exact hp

theorem not_empty (s : ByteArray) (h : 1 ≤ s.size) : s.toList.isEmpty = false := by
  rw [ByteArray.toList_eq, List.isEmpty_eq_false_iff]
  intro h0
  have : s.data.toList.length = 0 := by rw [h0]; rfl
  have h1 : s.data.toList.length = s.size := Array.length_toList
  omega
theorem is_empty (s : ByteArray) (h : s.size = 0) : s.toList.isEmpty = true := by
  rw [ByteArray.toList_eq, List.isEmpty_iff]
  have h1 : s.data.toList.length = s.size := Array.length_toList
  exact List.length_eq_zero_iff.1 (by omega)

set_option maxRecDepth 100000 in
set_option maxHeartbeats 1000000 in
theorem NameOk_any (s : ByteArray) (w : World) (hs : s.size ≤ 1048576) : Calls Tryz.prog 207 #[.string s] w fun e w' => e = .returned (.bool (okB nameB s)) ∧ w' = w := by
  by_cases h1 : s.size = 0
  · rw [okB_len _ _ (by omega)]
    have hne := is_empty s h1
    go_enter Tryz.func207, Tryz.ntmps207
    go_wp2
    go_ret
    exact ⟨rfl, rfl⟩
  · by_cases h2 : 12 < s.size
    · rw [okB_len _ _ (by omega)]
      have hne := not_empty s (by omega)
      go_enter Tryz.func207, Tryz.ntmps207
      go_wp2
      go_ret
      exact ⟨rfl, rfl⟩
    · have hne := not_empty s (by omega)
      obtain ⟨R, hR⟩ : ∃ R, okB nameB s = R := ⟨_, rfl⟩
      rw [hR]
      have HR : Hid (okB nameB s = R) := hR
      clear hR
      go_enter Tryz.func207, Tryz.ntmps207
      go_wp2
      go_loopw [13] (fun i wr => NmRel nameB s w i wr) (fun i _ => s.size - (intOf i).toNat)
      case atStart => exact ⟨0, by omega, rfl, by intro j _ h; omega, rfl⟩
      case round =>
        obtain ⟨k, hk, rfl, HI, rfl⟩ := hrel
        by_cases hlt : k < s.size
        · have i1 : (k : Int) < (s.size : Int) := by omega
          go_wp2_with fail
          refine (inNames_any s[k] _).mono ?_
          rintro e w1 ⟨rfl, rfl⟩
          cases hp : nameB s[k] with
          | true =>
            have HI2 := NmRel.step hlt hp HI.out
            clear HI
            go_wp2
            go_roundw
            case rel => exact ⟨k + 1, by omega, by go_num, HI2, rfl⟩
            case measure => simp [intOf]; omega
          | false =>
            have hF := okB_bad nameB s k hlt hp
            rw [HR.out] at hF
            subst hF
            go_wp2
            try rw [Exit.noGoto_ret]
            go_ret
            exact ⟨rfl, rfl⟩
        · have hF := okB_good nameB s (fun j hj => HI.out j hj (by omega))
          rw [HR.out, decide_eq_true (by omega)] at hF
          subst hF
          have i1 : ¬ ((k : Int) < (s.size : Int)) := by omega
          clear HI
          go_wp2
          go_ret
          exact ⟨rfl, rfl⟩

set_option maxRecDepth 100000 in
set_option maxHeartbeats 1000000 in
theorem sNameOk_any (s : ByteArray) (w : World) (hs : s.size ≤ 1048576) : Calls Tryz.prog 153 #[.string s] w fun e w' => e = .returned (.bool (okB nameB s)) ∧ w' = w := by
  obtain ⟨R, hR⟩ : ∃ R, okB nameB s = R := ⟨_, rfl⟩
  rw [hR]
  have HR : Hid (okB nameB s = R) := hR
  clear hR
  go_enter Tryz.func153, Tryz.ntmps153
  go_wp2
  go_loopw [3] (fun i wr => NmRel nameB s w i wr) (fun i _ => s.size - (intOf i).toNat)
  case atStart => exact ⟨0, by omega, rfl, by intro j _ h; omega, rfl⟩
  case round =>
    obtain ⟨k, hk, rfl, HI, rfl⟩ := hrel
    by_cases hlt : k < s.size
    · have i1 : (k : Int) < (s.size : Int) := by omega
      have hb : (s[k]).toNat < 256 := (s[k]).toNat_lt
      cases hp : nameB s[k] with
      | true =>
        have HI2 := NmRel.step hlt hp HI.out
        clear HI
        unfold nameB at hp
        rw [decide_eq_true_eq] at hp
        rcases hp with ⟨h1, h2⟩ | ⟨h1, h2⟩ | h1 | h1
        · go_wp2
          go_roundw
          case rel => exact ⟨k + 1, by omega, by go_num, HI2, rfl⟩
          case measure => simp [intOf]; omega
        · go_wp2
          go_roundw
          case rel => exact ⟨k + 1, by omega, by go_num, HI2, rfl⟩
          case measure => simp [intOf]; omega
        · go_wp2
          go_roundw
          case rel => exact ⟨k + 1, by omega, by go_num, HI2, rfl⟩
          case measure => simp [intOf]; omega
        · go_wp2
          go_roundw
          case rel => exact ⟨k + 1, by omega, by go_num, HI2, rfl⟩
          case measure => simp [intOf]; omega
      | false =>
        have hF := okB_bad nameB s k hlt hp
        rw [HR.out] at hF
        subst hF
        unfold nameB at hp
        rw [decide_eq_false_iff_not] at hp
        have n1 : ((s[k].toNat : Int) != 64) = true := by simp; omega
        have n2 : ((s[k].toNat : Int) != 46) = true := by simp; omega
        rcases (show s[k].toNat < 48 ∨ (57 < s[k].toNat ∧ s[k].toNat < 97) ∨ 122 < s[k].toNat from by omega) with h | ⟨h, h'⟩ | h
        · clear hp
          go_wp2
          go_ret
          exact ⟨rfl, rfl⟩
        · clear hp
          go_wp2
          go_ret
          exact ⟨rfl, rfl⟩
        · clear hp
          go_wp2
          go_ret
          exact ⟨rfl, rfl⟩
    · have hF := okB_good nameB s (fun j hj => HI.out j hj (by omega))
      rw [HR.out] at hF
      subst hF
      have i1 : ¬ ((k : Int) < (s.size : Int)) := by omega
      clear HI
      go_wp2_with fail
      refine (l01In_any _ _ _ _).mono ?_
      rintro e w' ⟨rfl, rfl⟩
      go_wp2
      go_ret
      exact ⟨ret_b (by rw [Bool.eq_iff_iff]; simp; omega), rfl⟩

set_option maxRecDepth 100000 in
set_option maxHeartbeats 1000000 in
theorem ValueOk_any (s : ByteArray) (w : World) (hs : s.size ≤ 1048576) : Calls Tryz.prog 164 #[.string s] w fun e w' => e = .returned (.bool (okB valB s)) ∧ w' = w := by
  by_cases h1 : s.size = 0
  · rw [okB_len _ _ (by omega)]
    have hne := is_empty s h1
    go_enter Tryz.func164, Tryz.ntmps164
    go_wp2
    go_ret
    exact ⟨rfl, rfl⟩
  · by_cases h2 : 12 < s.size
    · rw [okB_len _ _ (by omega)]
      have hne := not_empty s (by omega)
      go_enter Tryz.func164, Tryz.ntmps164
      go_wp2
      go_ret
      exact ⟨rfl, rfl⟩
    · have hne := not_empty s (by omega)
      obtain ⟨R, hR⟩ : ∃ R, okB valB s = R := ⟨_, rfl⟩
      rw [hR]
      have HR : Hid (okB valB s = R) := hR
      clear hR
      go_enter Tryz.func164, Tryz.ntmps164
      go_wp2
      go_loopw [13] (fun i wr => NmRel valB s w i wr) (fun i _ => s.size - (intOf i).toNat)
      case atStart => exact ⟨0, by omega, rfl, by intro j _ h; omega, rfl⟩
      case round =>
        obtain ⟨k, hk, rfl, HI, rfl⟩ := hrel
        by_cases hlt : k < s.size
        · have i1 : (k : Int) < (s.size : Int) := by omega
          have hb : (s[k]).toNat < 256 := (s[k]).toNat_lt
          cases hp : valB s[k] with
          | true =>
            have HI2 := NmRel.step hlt hp HI.out
            clear HI
            unfold valB at hp
            rw [decide_eq_true_eq] at hp
            obtain ⟨h1, h2⟩ := hp
            go_wp2
            go_roundw
            case rel => exact ⟨k + 1, by omega, by go_num, HI2, rfl⟩
            case measure => simp [intOf]; omega
          | false =>
            have hF := okB_bad valB s k hlt hp
            rw [HR.out] at hF
            subst hF
            unfold valB at hp
            rw [decide_eq_false_iff_not] at hp
            rcases (show s[k].toNat < 33 ∨ 126 < s[k].toNat from by omega) with h | h
            · clear hp HI
              go_wp2
              try rw [Exit.noGoto_ret]
              go_ret
              exact ⟨rfl, rfl⟩
            · clear hp HI
              go_wp2
              try rw [Exit.noGoto_ret]
              go_ret
              exact ⟨rfl, rfl⟩
        · have hF := okB_good valB s (fun j hj => HI.out j hj (by omega))
          rw [HR.out, decide_eq_true (by omega)] at hF
          subst hF
          have i1 : ¬ ((k : Int) < (s.size : Int)) := by omega
          clear HI
          go_wp2
          go_ret
          exact ⟨rfl, rfl⟩

set_option maxRecDepth 100000 in
set_option maxHeartbeats 1000000 in
theorem sValueOk_any (s : ByteArray) (w : World) (hs : s.size ≤ 1048576) : Calls Tryz.prog 154 #[.string s] w fun e w' => e = .returned (.bool (okB valB s)) ∧ w' = w := by
  obtain ⟨R, hR⟩ : ∃ R, okB valB s = R := ⟨_, rfl⟩
  rw [hR]
  have HR : Hid (okB valB s = R) := hR
  clear hR
  go_enter Tryz.func154, Tryz.ntmps154
  go_wp2
  go_loopw [3] (fun i wr => NmRel valB s w i wr) (fun i _ => s.size - (intOf i).toNat)
  case atStart => exact ⟨0, by omega, rfl, by intro j _ h; omega, rfl⟩
  case round =>
    obtain ⟨k, hk, rfl, HI, rfl⟩ := hrel
    by_cases hlt : k < s.size
    · have i1 : (k : Int) < (s.size : Int) := by omega
      have hb : (s[k]).toNat < 256 := (s[k]).toNat_lt
      cases hp : valB s[k] with
      | true =>
        have HI2 := NmRel.step hlt hp HI.out
        clear HI
        unfold valB at hp
        rw [decide_eq_true_eq] at hp
        obtain ⟨h1, h2⟩ := hp
        go_wp2
        go_roundw
        case rel => exact ⟨k + 1, by omega, by go_num, HI2, rfl⟩
        case measure => simp [intOf]; omega
      | false =>
        have hF := okB_bad valB s k hlt hp
        rw [HR.out] at hF
        subst hF
        unfold valB at hp
        rw [decide_eq_false_iff_not] at hp
        rcases (show s[k].toNat < 33 ∨ 126 < s[k].toNat from by omega) with h | h
        · clear hp HI
          go_wp2
          try rw [Exit.noGoto_ret]
          go_ret
          exact ⟨rfl, rfl⟩
        · clear hp HI
          go_wp2
          try rw [Exit.noGoto_ret]
          go_ret
          exact ⟨rfl, rfl⟩
    · have hF := okB_good valB s (fun j hj => HI.out j hj (by omega))
      rw [HR.out] at hF
      subst hF
      have i1 : ¬ ((k : Int) < (s.size : Int)) := by omega
      clear HI
      go_wp2_with fail
      refine (l01In_any _ _ _ _).mono ?_
      rintro e w' ⟨rfl, rfl⟩
      go_wp2
      go_ret
      exact ⟨ret_b (by rw [Bool.eq_iff_iff]; simp; omega), rfl⟩

/-- the bit of a number at a level -/
def bitI (x : Int) (y : Nat) : Int := bits .and .i64 (x / 2 ^ (7 - y)) 1
end Go.Proofs.YthlgohplljcgfaaGreatDoor
