/-
  Two texts out of two proofs: the specification's answer.
-/
import Derived.Test.YtojadcjoniejaaaDoorPx
namespace Go.Proofs.YtojadcjoniejaaaDoor
open Go.RowKit Go.BigFrame Go.Sort
set_option linter.unusedVariables false
set_option linter.unusedSimpArgs false

set_option maxRecDepth 100000 in
set_option maxHeartbeats 2000000 in
theorem sExtractTwo_any (nm : ByteArray) (vb vs ub us : Value) (gb ob gs os hb ob' hs os' : Nat) (B : List Le) (S : List ByteArray) (C : List Le) (T : List ByteArray) (x : Int) (w : World) (hnm : nm.size ≤ 1048576) (h1 : RS 2 lcs w vb gb ob B) (s1 : SmallL B) (h2 : SS w vs gs os S) (h3 : RS 2 lcs w ub hb ob' C) (s2 : SmallL C) (h4 : SS w us hs os' T) :
    Calls Tryd.prog 46 #[.string nm, .agg #[vb, vs], .agg #[ub, us], .int .i64 x] w fun e w' => e = .returned (trip (xtR nm B S C T x)) ∧ Below w.heap.size w w' := by
  have hba : Below w.heap.size w ((w.alloc (.cells #[vb, vs] 36)).alloc (.cells #[ub, us] 36)) := ((Below.refl _ _).alloc (Nat.le_refl _) _).alloc (by simp) _
  have HP : Hid (∀ W, Below ((w.alloc (.cells #[vb, vs] 36)).alloc (.cells #[ub, us] 36)).heap.size ((w.alloc (.cells #[vb, vs] 36)).alloc (.cells #[ub, us] 36)) W → W.cell? ⟨w.heap.size, 0, none⟩ = some vb ∧ W.cell? ⟨w.heap.size, 1, none⟩ = some vs ∧ W.cell? ⟨w.heap.size + 1, 0, none⟩ = some ub ∧ W.cell? ⟨w.heap.size + 1, 1, none⟩ = some us ∧ Below w.heap.size w W) := two_boxes
  have HU : Hid (∀ W, Below w.heap.size w W → RS 2 lcs W vb gb ob B ∧ SS W vs gs os S ∧ RS 2 lcs W ub hb ob' C ∧ SS W us hs os' T) := fun W hW => ⟨h1.later hW, h2.below hW h2.lt, h3.later hW, h4.below hW h4.lt⟩
  have HPT : Hid (∀ W, Below w.heap.size w W → Calls Tryd.prog 22 #[.string nm, .agg #[vb, vs], .int .i64 x] W fun e w' => ∃ v, e = .returned v ∧ OS W.heap.size W w' v (ptA nm B S x)) := fun W hW => sProofTexts_any nm vb vs gb ob gs os B S x W hnm (HU.out W hW).1 s1 (HU.out W hW).2.1
  have HQT : Hid (∀ W, Below w.heap.size w W → Calls Tryd.prog 22 #[.string nm, .agg #[ub, us], .int .i64 x] W fun e w' => ∃ v, e = .returned v ∧ OS W.heap.size W w' v (ptA nm C T x)) := fun W hW => sProofTexts_any nm ub us hb ob' hs os' C T x W hnm (HU.out W hW).2.2.1 s2 (HU.out W hW).2.2.2
  have HPH : Hid (∀ W, Below w.heap.size w W → Calls Tryd.prog 27 #[.string nm, .agg #[vb, vs], .int .i64 x] W fun e w' => e = .returned (.string (phA nm B S x)) ∧ Below W.heap.size W w') := fun W hW => sProofHash_any nm vb vs gb ob gs os B S x W hnm (HU.out W hW).1 s1 (HU.out W hW).2.1
  have HQH : Hid (∀ W, Below w.heap.size w W → Calls Tryd.prog 27 #[.string nm, .agg #[ub, us], .int .i64 x] W fun e w' => e = .returned (.string (phA nm C T x)) ∧ Below W.heap.size W w') := fun W hW => sProofHash_any nm ub us hb ob' hs os' C T x W hnm (HU.out W hW).2.2.1 s2 (HU.out W hW).2.2.2
  have HL1 : Hid (∀ W, Below w.heap.size w W → Calls Tryd.prog 26 #[.string nm, .agg #[vb, vs]] W fun e w' => e = .returned (.tuple #[.string (LV.getV B nm), .bool (LV.getB B nm)]) ∧ Below W.heap.size W w') := fun W hW => sProofSays_any nm vb vs gb ob B W (HU.out W hW).1
  have HL2 : Hid (∀ W, Below w.heap.size w W → Calls Tryd.prog 26 #[.string nm, .agg #[ub, us]] W fun e w' => e = .returned (.tuple #[.string (LV.getV C nm), .bool (LV.getB C nm)]) ∧ Below W.heap.size W w') := fun W hW => sProofSays_any nm ub us hb ob' C W (HU.out W hW).2.2.1
  have HR : Hid (xtR nm B S C T x = if (ptA nm B S x).length = 0 ∨ (ptA nm B S x).length ≠ (ptA nm C T x).length ∨ phA nm B S x ≠ phA nm C T x ∨ (decide (LV.getV B nm = LV.getV C nm) && (LV.getB B nm == LV.getB C nm)) = true then (⟨#[]⟩, ⟨#[]⟩, false) else lu (ptA nm B S x) (ptA nm C T x) (ptA nm B S x).length) := rfl
  have HZ1 : Hid ((ptA nm B S x).length ≤ 9) := ptA_len _ _ _ _
  have HZ2 : Hid ((ptA nm C T x).length ≤ 9) := ptA_len _ _ _ _
  generalize xtR nm B S C T x = R at *
  generalize phA nm B S x = H1 at *
  generalize phA nm C T x = H2 at *
  generalize ptA nm B S x = L1 at *
  generalize ptA nm C T x = L2 at *
  generalize LV.getV B nm = V1 at *
  generalize LV.getV C nm = V2 at *
  generalize LV.getB B nm = R1 at *
  generalize LV.getB C nm = R2 at *
  obtain ⟨p0, p1, p2, p3, _⟩ := HP.out _ (Below.refl _ _)
  clear h1 h2 h3 h4 s1 s2 HU
  go_enter Tryd.func46, Tryd.ntmps46
  go_wp2_with fail
  refine (HPT.out _ hba).mono ?_
  rintro e w1 ⟨v1, rfl, ho1⟩
  obtain ⟨k0, k1, k2, k3, b1⟩ := HP.out _ ho1.2.1
  clear p0 p1 p2 p3
  have hc1 := ho1.2.1
  go_wp2_with fail
  refine (HQT.out _ b1).mono ?_
  rintro e w2 ⟨v2, rfl, ho2⟩
  have hc2 := hc1.trans (ho2.2.1.mono hc1.size)
  clear k0 k1 k2 k3
  obtain ⟨g1, hs1⟩ := ho1.ss (by have := HZ1.out; omega)
  obtain ⟨g2, hs2⟩ := ho2.ss (by have := HZ2.out; omega)
  obtain ⟨a1, c1, rfl⟩ := ho1.slice
  obtain ⟨a2, c2, rfl⟩ := ho2.slice
  have HS : Hid (∀ W, Below w2.heap.size w2 W → SS W (.slice a1 L1.length c1) g1 0 L1 ∧ SS W (.slice a2 L2.length c2) g2 0 L2) := fun W hW => ⟨(hs1.below ho2.2.1 hs1.lt).below hW (hs1.below ho2.2.1 hs1.lt).lt, hs2.below hW hs2.lt⟩
  have HS2 : Hid (∀ W, Below w2.heap.size w2 W → W.cell? ⟨w.heap.size, 0, none⟩ = some vb ∧ W.cell? ⟨w.heap.size, 1, none⟩ = some vs ∧ W.cell? ⟨w.heap.size + 1, 0, none⟩ = some ub ∧ W.cell? ⟨w.heap.size + 1, 1, none⟩ = some us ∧ Below w.heap.size w W) := fun W hW => HP.out W (hc2.trans (hW.mono hc2.size))
  have b2 := (HS2.out _ (Below.refl _ _)).2.2.2.2
  have hz1 := HZ1.out
  have hz2 := HZ2.out
  clear HPT HQT hs1 hs2 ho1 ho2 HP hc1 hc2 HZ1 HZ2 b1 hba
  obtain ⟨n1, hn1⟩ : ∃ n1, L1.length = n1 := ⟨_, rfl⟩
  obtain ⟨n2, hn2⟩ : ∃ n2, L2.length = n2 := ⟨_, rfl⟩
  have HN : Hid (L1.length = n1 ∧ L2.length = n2) := ⟨hn1, hn2⟩
  rw [hn1] at hz1 HR HS ⊢
  rw [hn2] at hz2 HR HS ⊢
  clear hn1 hn2
  obtain ⟨k0, k1, k2, k3, _⟩ := HS2.out _ (Below.refl _ _)
  have kq0 := cell_regrown (w := w2) k0
  have kq1 := cell_regrown (w := w2) k1
  have kq2 := cell_regrown (w := w2) k2
  have kq3 := cell_regrown (w := w2) k3
  have cq0 := fun d os => Calls.regrown_of (w := w2) (d := d) (os := os) (HPH.out _ (b2.trans ((below_regrown w2 d os).mono b2.size)))
  have cq1 := fun d os => Calls.regrown_of (w := w2) (d := d) (os := os) (HQH.out _ (b2.trans ((below_regrown w2 d os).mono b2.size)))
  clear HPH HQH k0 k1 k2 k3
  by_cases e1 : n1 = 0
  · have hR : R = (⟨#[]⟩, ⟨#[]⟩, false) := by rw [HR.out, if_pos (.inl e1)]
    subst hR
    subst e1
    clear HR HL1 HL2 HS HS2
    go_wp2
    refine wp_region_quiet_below (by kernel_rfl) (by kernel_rfl) ?_
    repeat (go_big_quiet_step (first | with_reducible exact cq0 _ _ | with_reducible exact cq1 _ _))
    refine wpQuiet_nil ?_
    rintro _ ⟨⟨dq, osq⟩, rfl⟩
    have hb6 := below_regrown w2 dq osq
    generalize grow (redrawn w2 dq) osq = w6 at *
    clear kq0 kq1 kq2 kq3 cq0 cq1
    have b6 := b2.trans (hb6.mono b2.size)
    go_wp2
    go_ret3
    exact ⟨rfl, b6⟩
  have q1 : ((n1 : Int) == 0) = false := by simp; omega
  by_cases e2 : n1 = n2
  · subst e2
    by_cases e3 : H1 = H2
    · have q3 : (H1.toList == H2.toList) = true := by rw [e3]; simp
      go_wp2
      refine wp_region_quiet_below (by kernel_rfl) (by kernel_rfl) ?_
      repeat (go_big_quiet_step (first | with_reducible exact cq0 _ _ | with_reducible exact cq1 _ _))
      refine wpQuiet_nil ?_
      rintro _ ⟨⟨dq, osq⟩, rfl⟩
      have hb6 := below_regrown w2 dq osq
      generalize grow (redrawn w2 dq) osq = w6 at *
      clear kq0 kq1 kq2 kq3 cq0 cq1
      have b6 := b2.trans (hb6.mono b2.size)
      obtain ⟨k0, k1, k2, k3, _⟩ := HS2.out _ hb6
      go_wp2_with fail
      refine (HL1.out _ b6).mono ?_
      rintro e w7 ⟨rfl, hb7⟩
      have hb7' := hb6.trans (hb7.mono hb6.size)
      clear k0 k1 k2 k3 HL1
      obtain ⟨k0, k1, k2, k3, b7⟩ := HS2.out _ hb7'
      go_wp2_with fail
      refine (HL2.out _ b7).mono ?_
      rintro e w8 ⟨rfl, hb8⟩
      have hb8' := hb7'.trans (hb8.mono hb7'.size)
      obtain ⟨_, _, _, _, b8⟩ := HS2.out _ hb8'
      clear k0 k1 k2 k3 HL2 hb7 hb8 hb7' b7 HS2 hb6 b6
      cases hsy : (decide (V1 = V2) && (R1 == R2)) with
      | true =>
        have hR : R = (⟨#[]⟩, ⟨#[]⟩, false) := by rw [HR.out, if_pos (.inr (.inr (.inr hsy)))]
        subst hR
        rw [Bool.and_eq_true, decide_eq_true_eq, beq_iff_eq] at hsy
        obtain ⟨rfl, rfl⟩ := hsy
        clear HR e3 q3 HS
        go_wp2
        go_ret3
        exact ⟨rfl, b8⟩
      | false =>
        have hR : R = lu L1 L2 n1 := by rw [HR.out, if_neg (by rintro (h | h | h | h); exact e1 h; exact h rfl; exact h e3; rw [hsy] at h; cases h)]
        have HRL : Hid (lu L1 L2 n1 = R) := hR.symm
        have HST : Hid (PxR w2 (lu L1 L2) n1 (.int .i64 ((n1 : Int) - 1)) w8) := ⟨n1, Nat.le_refl _, rfl, hb8', rfl⟩
        have HSB : Hid (∀ W, Below w2.heap.size w2 W → Below w.heap.size w W) := fun W hW => b2.trans (hW.mono b2.size)
        clear HR e3 q3 hR hb8' b8
        by_cases hV : V1 = V2
        · rw [decide_eq_true hV, Bool.true_and] at hsy
          have q5 : (V1.toList == V2.toList) = true := by rw [hV]; simp
          clear hV
          go_wp2
          go_loopw [17] (fun i wr => PxR w2 (lu L1 L2) n1 i wr) (fun i _ => (intOf i + 1).toNat)
          case atStart => exact HST.out
          case round =>
            obtain ⟨m, hm, rfl, HI⟩ := hrel
            clear HST
            cases m with
            | zero =>
              have hRf : R = (⟨#[]⟩, ⟨#[]⟩, false) := by rw [← HRL.out, HI.out.2]; rfl
              subst hRf
              have HF : Hid (Below w.heap.size w wr) := HSB.out _ HI.out.1
              clear HI HRL HS HN HSB
              go_wp2
              go_ret3
              exact ⟨rfl, HF.out⟩
            | succ k =>
              have hka : k < L1.length := by rw [HN.out.1]; omega
              have hkb : k < L2.length := by rw [HN.out.2]; omega
              have ea : a1 = some ⟨g1, 0, none⟩ := by
                obtain ⟨_, _, ev, _, h3, _⟩ := (HS.out w2 (Below.refl _ _)).1
                simp only [Value.slice.injEq] at ev
                rw [ev.1]
                exact h3 (by omega)
              have eb : a2 = some ⟨g2, 0, none⟩ := by
                obtain ⟨_, _, ev, _, h3, _⟩ := (HS.out w2 (Below.refl _ _)).2
                simp only [Value.slice.injEq] at ev
                rw [ev.1]
                exact h3 (by omega)
              subst ea
              subst eb
              have e1' : (((k + 1 : Nat) : Int) - 1) = (k : Int) := by omega
              rw [e1']
              obtain ⟨X, hX⟩ : ∃ X, L1[k] = X := ⟨_, rfl⟩
              obtain ⟨Y, hY⟩ : ∃ Y, L2[k] = Y := ⟨_, rfl⟩
              have HCC : Hid (∀ W, Below w2.heap.size w2 W → W.cell? ⟨g1, k, none⟩ = some (.string X) ∧ W.cell? ⟨g2, k, none⟩ = some (.string Y)) := fun W hW => by
                obtain ⟨⟨a1, b1, e2, _, h2, h3⟩, ⟨a4, b4, e5, _, h5, h6⟩⟩ := HS.out W hW
                have z1 := h3 k hka
                have z2 := h6 k hkb
                rw [Nat.zero_add] at z1 z2
                exact ⟨by rw [← hX]; exact z1, by rw [← hY]; exact z2⟩
              obtain ⟨c0, d0⟩ := HCC.out _ HI.out.1
              have HUU : Hid (lu L1 L2 (k + 1) = if X = Y then lu L1 L2 k else (X, Y, true)) := by
                show lu L1 L2 (k + 1) = _
                rw [lu]
                simp only [List.getD_eq_getElem?_getD, List.getElem?_eq_getElem hka, List.getElem?_eq_getElem hkb, Option.getD_some, hX, hY]
              have i1 : (k : Int) < (n1 : Int) := by omega
              have i2 : (0 : Int) ≤ (k : Int) := by omega
              clear hX hY hka hkb
              by_cases hk : X = Y
              · have q : (X.toList == Y.toList) = true := by rw [hk]; simp
                have hH : Below w2.heap.size w2 wr ∧ lu L1 L2 n1 = lu L1 L2 k := ⟨HI.out.1, by rw [HI.out.2, HUU.out, if_pos hk]⟩
                have HJ : Hid (Below w2.heap.size w2 wr ∧ lu L1 L2 n1 = lu L1 L2 k) := hH
                clear HUU HI hH hk HCC HS
                go_wp2
                go_quiet (fail)
                go_wp2
                refine ⟨⟨k, by omega, rfl, HJ.out.1.trans (⟨rfl, rfl, rfl, Nat.le_refl _, fun _ _ => rfl⟩), HJ.out.2⟩, ?_⟩
                simp [intOf]
              · have q : (X.toList == Y.toList) = false := LV.bytes_ne hk
                have hRR : R = (X, Y, true) := by rw [← HRL.out, HI.out.2, HUU.out, if_neg hk]
                subst hRR
                have HF : Hid (Below w2.heap.size w2 wr) := HI.out.1
                clear HUU HI hk HS HRL
                go_wp2
                go_quiet (fail)
                go_wp2
                have hbd : Below w2.heap.size w2 (wr.drewN nq) := HF.out.trans (⟨rfl, rfl, rfl, Nat.le_refl _, fun _ _ => rfl⟩)
                obtain ⟨c1, d1⟩ := HCC.out _ hbd
                clear HCC c0 d0 HF
                generalize wr.drewN nq = wd at *
                go_quiet (fail)
                go_wp2
                try rw [Exit.noGoto_ret]
                go_ret3
                exact ⟨rfl, HSB.out _ (hbd.trans ⟨rfl, rfl, rfl, Nat.le_refl _, fun _ _ => rfl⟩)⟩
        · have q5 : (V1.toList == V2.toList) = false := LV.bytes_ne hV
          clear hV hsy
          go_wp2
          go_loopw [17] (fun i wr => PxR w2 (lu L1 L2) n1 i wr) (fun i _ => (intOf i + 1).toNat)
          case atStart => exact HST.out
          case round =>
            obtain ⟨m, hm, rfl, HI⟩ := hrel
            clear HST
            cases m with
            | zero =>
              have hRf : R = (⟨#[]⟩, ⟨#[]⟩, false) := by rw [← HRL.out, HI.out.2]; rfl
              subst hRf
              have HF : Hid (Below w.heap.size w wr) := HSB.out _ HI.out.1
              clear HI HRL HS HN HSB
              go_wp2
              go_ret3
              exact ⟨rfl, HF.out⟩
            | succ k =>
              have hka : k < L1.length := by rw [HN.out.1]; omega
              have hkb : k < L2.length := by rw [HN.out.2]; omega
              have ea : a1 = some ⟨g1, 0, none⟩ := by
                obtain ⟨_, _, ev, _, h3, _⟩ := (HS.out w2 (Below.refl _ _)).1
                simp only [Value.slice.injEq] at ev
                rw [ev.1]
                exact h3 (by omega)
              have eb : a2 = some ⟨g2, 0, none⟩ := by
                obtain ⟨_, _, ev, _, h3, _⟩ := (HS.out w2 (Below.refl _ _)).2
                simp only [Value.slice.injEq] at ev
                rw [ev.1]
                exact h3 (by omega)
              subst ea
              subst eb
              have e1' : (((k + 1 : Nat) : Int) - 1) = (k : Int) := by omega
              rw [e1']
              obtain ⟨X, hX⟩ : ∃ X, L1[k] = X := ⟨_, rfl⟩
              obtain ⟨Y, hY⟩ : ∃ Y, L2[k] = Y := ⟨_, rfl⟩
              have HCC : Hid (∀ W, Below w2.heap.size w2 W → W.cell? ⟨g1, k, none⟩ = some (.string X) ∧ W.cell? ⟨g2, k, none⟩ = some (.string Y)) := fun W hW => by
                obtain ⟨⟨a1, b1, e2, _, h2, h3⟩, ⟨a4, b4, e5, _, h5, h6⟩⟩ := HS.out W hW
                have z1 := h3 k hka
                have z2 := h6 k hkb
                rw [Nat.zero_add] at z1 z2
                exact ⟨by rw [← hX]; exact z1, by rw [← hY]; exact z2⟩
              obtain ⟨c0, d0⟩ := HCC.out _ HI.out.1
              have HUU : Hid (lu L1 L2 (k + 1) = if X = Y then lu L1 L2 k else (X, Y, true)) := by
                show lu L1 L2 (k + 1) = _
                rw [lu]
                simp only [List.getD_eq_getElem?_getD, List.getElem?_eq_getElem hka, List.getElem?_eq_getElem hkb, Option.getD_some, hX, hY]
              have i1 : (k : Int) < (n1 : Int) := by omega
              have i2 : (0 : Int) ≤ (k : Int) := by omega
              clear hX hY hka hkb
              by_cases hk : X = Y
              · have q : (X.toList == Y.toList) = true := by rw [hk]; simp
                have hH : Below w2.heap.size w2 wr ∧ lu L1 L2 n1 = lu L1 L2 k := ⟨HI.out.1, by rw [HI.out.2, HUU.out, if_pos hk]⟩
                have HJ : Hid (Below w2.heap.size w2 wr ∧ lu L1 L2 n1 = lu L1 L2 k) := hH
                clear HUU HI hH hk HCC HS
                go_wp2
                go_quiet (fail)
                go_wp2
                refine ⟨⟨k, by omega, rfl, HJ.out.1.trans (⟨rfl, rfl, rfl, Nat.le_refl _, fun _ _ => rfl⟩), HJ.out.2⟩, ?_⟩
                simp [intOf]
              · have q : (X.toList == Y.toList) = false := LV.bytes_ne hk
                have hRR : R = (X, Y, true) := by rw [← HRL.out, HI.out.2, HUU.out, if_neg hk]
                subst hRR
                have HF : Hid (Below w2.heap.size w2 wr) := HI.out.1
                clear HUU HI hk HS HRL
                go_wp2
                go_quiet (fail)
                go_wp2
                have hbd : Below w2.heap.size w2 (wr.drewN nq) := HF.out.trans (⟨rfl, rfl, rfl, Nat.le_refl _, fun _ _ => rfl⟩)
                obtain ⟨c1, d1⟩ := HCC.out _ hbd
                clear HCC c0 d0 HF
                generalize wr.drewN nq = wd at *
                go_quiet (fail)
                go_wp2
                try rw [Exit.noGoto_ret]
                go_ret3
                exact ⟨rfl, HSB.out _ (hbd.trans ⟨rfl, rfl, rfl, Nat.le_refl _, fun _ _ => rfl⟩)⟩
    · have q3 : (H1.toList == H2.toList) = false := LV.bytes_ne e3
      have hR : R = (⟨#[]⟩, ⟨#[]⟩, false) := by rw [HR.out, if_pos (.inr (.inr (.inl e3)))]
      subst hR
      clear HR HL1 HL2 HS HS2
      go_wp2
      refine wp_region_quiet_below (by kernel_rfl) (by kernel_rfl) ?_
      repeat (go_big_quiet_step (first | with_reducible exact cq0 _ _ | with_reducible exact cq1 _ _))
      refine wpQuiet_nil ?_
      rintro _ ⟨⟨dq, osq⟩, rfl⟩
      have hb6 := below_regrown w2 dq osq
      generalize grow (redrawn w2 dq) osq = w6 at *
      clear kq0 kq1 kq2 kq3 cq0 cq1
      have b6 := b2.trans (hb6.mono b2.size)
      go_wp2
      go_ret3
      exact ⟨rfl, b6⟩
  · have hR : R = (⟨#[]⟩, ⟨#[]⟩, false) := by rw [HR.out, if_pos (.inr (.inl e2))]
    subst hR
    have q2 : ((n1 : Int) != (n2 : Int)) = true := by simp; omega
    clear HR HL1 HL2 HS HS2
    go_wp2
    refine wp_region_quiet_below (by kernel_rfl) (by kernel_rfl) ?_
    repeat (go_big_quiet_step (first | with_reducible exact cq0 _ _ | with_reducible exact cq1 _ _))
    refine wpQuiet_nil ?_
    rintro _ ⟨⟨dq, osq⟩, rfl⟩
    have hb6 := below_regrown w2 dq osq
    generalize grow (redrawn w2 dq) osq = w6 at *
    clear kq0 kq1 kq2 kq3 cq0 cq1
    have b6 := b2.trans (hb6.mono b2.size)
    go_wp2
    go_ret3
    exact ⟨rfl, b6⟩

end Go.Proofs.YtojadcjoniejaaaDoor
