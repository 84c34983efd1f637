/-
  Texts laid together: Hi.
-/
import Derived.Test.YtaejeemjndmjcaaDoorPkS41
/-
  A chain, and the next head: the specification's answers.
-/
namespace Go.Proofs.YtaejeemjndmjcaaDoor
open Go.RowKit Go.BigFrame Go.Sort
set_option linter.unusedVariables false
set_option linter.unusedSimpArgs false

namespace HV
theorem behind_iff {L : List Hd} {h : Int} {X : Hd} : X = behind L h X.r ↔ X.h = h ∧ X.e = (L.length : Int) + 1 ∧ X.p = lastP L := by
  obtain ⟨a, b, c, d⟩ := X
  unfold behind
  simp
theorem empty_of {p : ByteArray} (h : p.size = 0) : p = ⟨#[]⟩ := by
  have h0 : p.data.toList = [] := List.length_eq_zero_iff.1 (by rw [Array.length_toList]; exact h)
  exact ByteArray.ext (Array.toList_inj.1 h0)
theorem first_prev {X : Hd} (h : okH X = true) (he : X.e = 1) : X.p = ⟨#[]⟩ := by
  obtain ⟨_, _, _, h4⟩ := okH_iff.1 h
  rw [he] at h4
  exact empty_of h4
end HV

set_option maxRecDepth 100000 in
set_option maxHeartbeats 1000000 in
theorem sChainOk_any (v : Value) (ga oa : Nat) (L : List Hd) (h : Int) (w : World) (hv : RS 4 hcs w v ga oa L) :
    Calls Tryd.prog 116 #[v, .int .i64 h] w fun e w' => e = .returned (.bool (HV.chB L h)) ∧ Below w.heap.size w w' := by
  have HV0 : Hid (RS 4 hcs w v ga oa L) := hv
  obtain ⟨a, cap, rfl, hl, hA, _⟩ := hv
  obtain ⟨n, hn⟩ : ∃ n, L.length = n := ⟨_, rfl⟩
  have HA : Hid (0 < n → a = some ⟨ga, oa, none⟩ ∧ ga < w.heap.size) := by rw [← hn]; exact hA
  obtain ⟨R, hR⟩ : ∃ R, HV.chB L h = R := ⟨_, rfl⟩
  have HR : Hid (HV.chB L h = R) := hR
  rw [hR]
  rw [hn] at hl ⊢
  clear hA hR
  have HST : Hid (ChR L h w (.int .i64 0) w) := ⟨0, by omega, rfl, HV.Upto.zero L h, Below.refl _ _⟩
  go_enter Tryd.func116, Tryd.ntmps116
  go_wp2
  go_loopw [5] (fun i wr => ChR L h w i wr) (fun i _ => n - (intOf i).toNat)
  case atStart => exact HST.out
  case round =>
    obtain ⟨m, hm, rfl, HU, hbel⟩ := hrel
    rw [hn] at hm
    clear HST
    by_cases hlt : m < n
    · obtain ⟨ea, hga⟩ := HA.out (by omega)
      subst ea
      have hrs := HV0.out.later hbel
      obtain ⟨c0, c1, c2, c3⟩ := hrs.head m (by omega)
      obtain ⟨X, hX⟩ : ∃ X, L[m]'(by omega) = X := ⟨_, rfl⟩
      rw [hX] at c0 c1 c2 c3
      have i1 : (m : Int) < (n : Int) := by omega
      have i2 : (0 : Int) ≤ (m : Int) := by omega
      have i3 : IntKind.i64.wrap ((m : Int) + 1) = (m : Int) + 1 := IntWalk.i64_in _ (by omega)
      have HOK : Hid (∀ W, Calls Tryd.prog 60 #[.agg #[.int .i64 X.h, .int .i64 X.e, .string X.r, .string X.p]] W fun e w' => e = .returned (.bool (HV.okH X)) ∧ Below W.heap.size W w') := fun W => sHeadOk_any X W
      have HX : Hid (L[m]'(by omega) = X) := hX
      have HLT : Hid ((L.take m).length = m) := by
        show (L.take m).length = m
        rw [List.length_take]
        omega
      clear hX
      cases hk : HV.okH X
      · rw [hk] at HOK
        have hF : R = false := by rw [← HR.out]; exact HV.not_ok (m := m) (by omega) (by rw [HX.out]; exact hk)
        subst hF
        clear hrs HV0 HX HU HA HR hk HLT
        go_wp2
        have kq0 := cell_regrown (w := wr) c0
        have kq1 := cell_regrown (w := wr) c1
        have kq2 := cell_regrown (w := wr) c2
        have kq3 := cell_regrown (w := wr) c3
        have cq0 := fun d os => Calls.regrown_of (w := wr) (d := d) (os := os) (HOK.out _)
        refine wp_region_quiet_below (by kernel_rfl) (by kernel_rfl) ?_
        repeat (go_big_quiet_step (first | (with_reducible exact cq0 _ _)))
        refine wpQuiet_nil ?_
        rintro _ ⟨⟨dq, osq⟩, rfl⟩
        have hb6 := hbel.trans ((below_regrown wr dq osq).mono hbel.size)
        generalize grow (redrawn wr dq) osq = w6 at *
        clear kq0 kq1 kq2 kq3 cq0
        go_wp2
        try rw [Exit.noGoto_ret]
        go_ret
        exact ⟨rfl, hb6⟩
      · rw [hk] at HOK
        have HNB : Hid (¬ (X.h = h ∧ X.e = (m : Int) + 1 ∧ X.p = HV.lastP (L.take m)) → R = false) := fun hh => by
          rw [← HR.out]
          refine HV.not_behind (m := m) (by omega) ?_
          rw [HX.out]
          intro he
          have := HV.behind_iff.1 he
          rw [HLT.out] at this
          exact hh this
        have HNX : Hid (X.h = h ∧ X.e = (m : Int) + 1 ∧ X.p = HV.lastP (L.take m) → HV.Upto L h (m + 1)) := fun hh => by
          refine HU.out.step (by omega) (by rw [HX.out]; exact hk) ?_
          rw [HX.out]
          refine HV.behind_iff.2 ?_
          rw [HLT.out]
          exact hh
        have HK : Hid (HV.okH X = true) := hk
        clear hk HR HU HLT
        by_cases h1 : X.h = h
        · by_cases h2 : X.e = (m : Int) + 1
          · have h1' : (X.h != h) = false := by simp [h1]
            have h2' : (X.e != (m : Int) + 1) = false := by simp [h2]
            by_cases h0 : m = 0
            · have HU2 : Hid (HV.Upto L h (m + 1)) := HNX.out ⟨h1, h2, by subst h0; rw [List.take_zero, HV.lastP_nil]; exact HV.first_prev HK.out (by rw [h2]; rfl)⟩
              have q0 : decide ((0 : Int) < (m : Int)) = false := decide_eq_false (by omega)
              have q0' : decide (0 < m) = false := decide_eq_false (by omega)
              clear hrs HV0 HX HA HNB HNX HK h1 h2 h0
              go_wp2
              have kq0 := cell_regrown (w := wr) c0
              have kq1 := cell_regrown (w := wr) c1
              have kq2 := cell_regrown (w := wr) c2
              have kq3 := cell_regrown (w := wr) c3
              have cq0 := fun d os => Calls.regrown_of (w := wr) (d := d) (os := os) (HOK.out _)
              refine wp_region_quiet_below (by kernel_rfl) (by kernel_rfl) ?_
              repeat (go_big_quiet_step (first | (with_reducible exact cq0 _ _)))
              refine wpQuiet_nil ?_
              rintro _ ⟨⟨dq, osq⟩, rfl⟩
              have hb6 := hbel.trans ((below_regrown wr dq osq).mono hbel.size)
              generalize grow (redrawn wr dq) osq = w6 at *
              clear kq0 kq1 kq2 kq3 cq0
              go_wp2
              go_roundw
              case rel => exact ⟨m + 1, by omega, by go_num, HU2, hb6⟩
              case measure => simp [intOf]; omega
            · obtain ⟨p, rfl⟩ : ∃ p, m = p + 1 := ⟨m - 1, by omega⟩
              obtain ⟨b0, b1, b2, b3⟩ := hrs.head p (by omega)
              have HLP : Hid (HV.lastP (L.take (p + 1)) = HV.hashH (L[p]'(by omega))) := by
                show _ = _
                rw [HV.lastP_at (m := p) (by rw [List.length_take]; omega), List.getElem_take]
              have HHH : Hid (∀ W, Calls Tryd.prog 11 #[.agg #[.int .i64 (L[p]'(by omega)).h, .int .i64 (L[p]'(by omega)).e, .string (L[p]'(by omega)).r, .string (L[p]'(by omega)).p]] W fun e w' => e = .returned (.string (HV.hashH (L[p]'(by omega)))) ∧ Below W.heap.size W w') := fun W => sHeadHash_any _ W
              rw [HLP.out] at HNB HNX
              clear HLP
              generalize HV.hashH (L[p]'(by omega)) = H at *
              generalize (L[p]'(by omega)) = Y at *
              have q0 : (0 : Int) < ((p + 1 : Nat) : Int) := by omega
              have q0' : decide ((0 : Int) < ((p + 1 : Nat) : Int)) = true := decide_eq_true q0
              have q0'' : decide ((0 : Int) < (p : Int) + 1) = true := decide_eq_true (by omega)
              have j1' : IntKind.i64.wrap (p : Int) = (p : Int) := IntWalk.i64_in _ (by omega)
              have h2'' : (X.e != (p : Int) + 1 + 1) = false := by simp [h2]
              have j0 : (p : Int) + 1 < (n : Int) := by omega
              have j2 : (0 : Int) ≤ (p : Int) := by omega
              have j3 : (p : Int) < (n : Int) := by omega
              by_cases h3 : X.p = H
              · have HU2 : Hid (HV.Upto L h (p + 1 + 1)) := HNX.out ⟨h1, h2, h3⟩
                have h3' : (X.p.toList == H.toList) = true := by simp [h3]
                clear hrs HV0 HX HA HNB HNX HK h1 h2 h0 h3
                go_wp2
                have kq0 := cell_regrown (w := wr) c0
                have kq1 := cell_regrown (w := wr) c1
                have kq2 := cell_regrown (w := wr) c2
                have kq3 := cell_regrown (w := wr) c3
                have kp0 := cell_regrown (w := wr) b0
                have kp1 := cell_regrown (w := wr) b1
                have kp2 := cell_regrown (w := wr) b2
                have kp3 := cell_regrown (w := wr) b3
                have cq0 := fun d os => Calls.regrown_of (w := wr) (d := d) (os := os) (HOK.out _)
                have cq1 := fun d os => Calls.regrown_of (w := wr) (d := d) (os := os) (HHH.out _)
                refine wp_region_quiet_below (by kernel_rfl) (by kernel_rfl) ?_
                repeat (go_big_quiet_step (first | (with_reducible exact cq0 _ _) | (with_reducible exact cq1 _ _)))
                refine wpQuiet_nil ?_
                rintro _ ⟨⟨dq, osq⟩, rfl⟩
                have hb6 := hbel.trans ((below_regrown wr dq osq).mono hbel.size)
                generalize grow (redrawn wr dq) osq = w6 at *
                clear kq0 kq1 kq2 kq3 cq0 cq1 kp0 kp1 kp2 kp3
                go_wp2
                go_roundw
                case rel => exact ⟨p + 1 + 1, by omega, by go_num, HU2, hb6⟩
                case measure => simp [intOf]; omega
              · have hF : R = false := HNB.out (fun hh => h3 hh.2.2)
                subst hF
                have h3' : (X.p.toList == H.toList) = false := by
                  rw [Bool.eq_false_iff]
                  intro hh
                  exact h3 (F.toList_inj (by simpa using hh))
                clear hrs HV0 HX HA HNB HNX HK h1 h2 h0 h3
                go_wp2
                have kq0 := cell_regrown (w := wr) c0
                have kq1 := cell_regrown (w := wr) c1
                have kq2 := cell_regrown (w := wr) c2
                have kq3 := cell_regrown (w := wr) c3
                have kp0 := cell_regrown (w := wr) b0
                have kp1 := cell_regrown (w := wr) b1
                have kp2 := cell_regrown (w := wr) b2
                have kp3 := cell_regrown (w := wr) b3
                have cq0 := fun d os => Calls.regrown_of (w := wr) (d := d) (os := os) (HOK.out _)
                have cq1 := fun d os => Calls.regrown_of (w := wr) (d := d) (os := os) (HHH.out _)
                refine wp_region_quiet_below (by kernel_rfl) (by kernel_rfl) ?_
                repeat (go_big_quiet_step (first | (with_reducible exact cq0 _ _) | (with_reducible exact cq1 _ _)))
                refine wpQuiet_nil ?_
                rintro _ ⟨⟨dq, osq⟩, rfl⟩
                have hb6 := hbel.trans ((below_regrown wr dq osq).mono hbel.size)
                generalize grow (redrawn wr dq) osq = w6 at *
                clear kq0 kq1 kq2 kq3 cq0 cq1 kp0 kp1 kp2 kp3
                go_wp2
                try rw [Exit.noGoto_ret]
                go_ret
                exact ⟨rfl, hb6⟩
          · have hF : R = false := HNB.out (fun hh => h2 hh.2.1)
            subst hF
            have h1' : (X.h != h) = false := by simp [h1]
            have h2' : (X.e != (m : Int) + 1) = true := by simp [h2]
            clear hrs HV0 HX HA HNB HNX HK h1 h2
            go_wp2
            have kq0 := cell_regrown (w := wr) c0
            have kq1 := cell_regrown (w := wr) c1
            have kq2 := cell_regrown (w := wr) c2
            have kq3 := cell_regrown (w := wr) c3
            have cq0 := fun d os => Calls.regrown_of (w := wr) (d := d) (os := os) (HOK.out _)
            refine wp_region_quiet_below (by kernel_rfl) (by kernel_rfl) ?_
            repeat (go_big_quiet_step (first | (with_reducible exact cq0 _ _)))
            refine wpQuiet_nil ?_
            rintro _ ⟨⟨dq, osq⟩, rfl⟩
            have hb6 := hbel.trans ((below_regrown wr dq osq).mono hbel.size)
            generalize grow (redrawn wr dq) osq = w6 at *
            clear kq0 kq1 kq2 kq3 cq0
            go_wp2
            try rw [Exit.noGoto_ret]
            go_ret
            exact ⟨rfl, hb6⟩
        · have hF : R = false := HNB.out (fun hh => h1 hh.1)
          subst hF
          have h1' : (X.h != h) = true := by simp [h1]
          clear hrs HV0 HX HA HNB HNX HK h1
          go_wp2
          have kq0 := cell_regrown (w := wr) c0
          have kq1 := cell_regrown (w := wr) c1
          have kq2 := cell_regrown (w := wr) c2
          have kq3 := cell_regrown (w := wr) c3
          have cq0 := fun d os => Calls.regrown_of (w := wr) (d := d) (os := os) (HOK.out _)
          refine wp_region_quiet_below (by kernel_rfl) (by kernel_rfl) ?_
          repeat (go_big_quiet_step (first | (with_reducible exact cq0 _ _)))
          refine wpQuiet_nil ?_
          rintro _ ⟨⟨dq, osq⟩, rfl⟩
          have hb6 := hbel.trans ((below_regrown wr dq osq).mono hbel.size)
          generalize grow (redrawn wr dq) osq = w6 at *
          clear kq0 kq1 kq2 kq3 cq0
          go_wp2
          try rw [Exit.noGoto_ret]
          go_ret
          exact ⟨rfl, hb6⟩
    · have hme : m = n := by omega
      have hF : R = true := by rw [← HR.out]; exact HV.all_ok (by rw [hn, ← hme]; exact HU.out)
      subst hme
      clear HU HV0 HR
      subst hF
      go_wp2
      go_ret
      exact ⟨rfl, hbel⟩

end Go.Proofs.YtaejeemjndmjcaaDoor
