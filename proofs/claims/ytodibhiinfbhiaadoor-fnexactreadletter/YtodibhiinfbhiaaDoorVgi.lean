/-
  A letter read from its text: the program's answer.
-/
import Derived.Test.YtodibhiinfbhiaaDoorVg
import Derived.Deep.RegionHeld3
namespace Go.Proofs.YtodibhiinfbhiaaDoor
open Go.RowKit Go.BigFrame Go.Sort
set_option linter.unusedVariables false
set_option linter.unusedSimpArgs false

set_option maxRecDepth 100000 in
set_option maxHeartbeats 1000000 in
theorem ReadLetter_any (t : ByteArray) (w : World) (ht : t.size ≤ 1048576) (hT : Tab w) :
    Calls Tryd.prog 9 #[.string t] w fun e w' => e = .returned (.tuple #[.agg #[.int .i64 (VV.rdA t).k, .int .i64 (VV.rdA t).f, .int .i64 (VV.rdA t).t, .int .i64 (VV.rdA t).e, .int .i64 (VV.rdA t).y, .string (VV.rdA t).r], .bool (VV.rdOk t)]) ∧ Below w.heap.size w w' := by
  have HZ : Hid (BK (w.alloc (.cells #[.int .i64 0, .int .i64 0, .int .i64 0, .int .i64 0, .int .i64 0, .string ⟨#[]⟩] 25)) w.heap.size VV.zL ∧ Below w.heap.size w (w.alloc (.cells #[.int .i64 0, .int .i64 0, .int .i64 0, .int .i64 0, .int .i64 0, .string ⟨#[]⟩] 25))) := ⟨BK.new w VV.zL, (Below.refl _ _).alloc (Nat.le_refl _) _⟩
  have hU := Unsealed_at t (w.alloc (.cells #[.int .i64 0, .int .i64 0, .int .i64 0, .int .i64 0, .int .i64 0, .string ⟨#[]⟩] 25)) ht (hT.lat HZ.out.2)
  cases hu : VV.uns t with
  | none =>
    obtain ⟨e1, e2⟩ := VV.rd_none (VV.rd_no1 hu)
    rw [e1, e2]
    rw [hu] at hU
    simp only at hU
    clear e1 e2 hu hT ht
    go_enter Tryd.func9, Tryd.ntmps9
    go_wp2_with fail
    refine hU.mono ?_
    rintro e w1 ⟨rfl, hb1⟩
    have HZ1 : Hid (BK w1 w.heap.size VV.zL ∧ Below w.heap.size w w1) := ⟨HZ.out.1.later hb1, HZ.out.2.trans (hb1.mono HZ.out.2.size)⟩
    clear hU HZ hb1
    have z0 := HZ1.out.1.c0
    have z1 := HZ1.out.1.c1
    have z2 := HZ1.out.1.c2
    have z3 := HZ1.out.1.c3
    have z4 := HZ1.out.1.c4
    have z5 := HZ1.out.1.c5
    have f0 := HZ1.out.1.fz 0
    have f1 := HZ1.out.1.fz 1
    have f2 := HZ1.out.1.fz 2
    have f3 := HZ1.out.1.fz 3
    have f4 := HZ1.out.1.fz 4
    have f5 := HZ1.out.1.fz 5
    have HE : Hid (BK (w1.setCells w.heap.size 0 (kcs VV.zL)) w.heap.size VV.zL ∧ Below w.heap.size w (w1.setCells w.heap.size 0 (kcs VV.zL))) := ⟨HZ1.out.1.put _, below_setCells (Nat.le_refl _) _ _ _ HZ1.out.2⟩
    clear HZ1
    go_wp2
    exact ret_ltr2 2 3 w.heap.size VV.zL _ rfl rfl rfl rfl HE.out.1 ⟨rfl, HE.out.2⟩
  | some u =>
    rw [hu] at hU
    simp only at hU
    have hus := (VV.uns_sealed hu).2.2
    by_cases hr : 4 ≤ u.size ∧ (M.readVar u.data.toList 4).isSome = true
    · obtain ⟨h4, hs⟩ := hr
      obtain ⟨⟨n, q⟩, hv⟩ := Option.isSome_iff_exists.1 hs
      have hq := (read_bound u 4 n q hv).1
      have hN := (read_bound u 4 n q hv).2
      have HR : Hid (∀ W, Calls Tryd.prog 25 #[.string u, .int .i64 4] W fun e w' => e = .returned (.tuple #[.int .i64 (n : Int), .int .i64 (q : Int), .bool true]) ∧ Below W.heap.size W w') := fun W => (ReadVar_some u 4 n q W (by omega) (by omega) (by simpa using hv)).mono fun e w' ⟨he, hw⟩ => ⟨he, hw ▸ Below.refl _ _⟩
      have hraw := VV.raw_yes h4 hv
      obtain ⟨x, hx⟩ : ∃ x : Ltr, (⟨((byB u 0).toNat : Int), ((byB u 1).toNat : Int), ((byB u 2).toNat : Int), ((byB u 3).toNat : Int), (n : Int), u.extract q u.size⟩ : Ltr) = x := ⟨_, rfl⟩
      have hxs : (u.extract q u.size).size ≤ 1048576 := by rw [ByteArray.size_extract]; omega
      have HC : Hid (∀ W, Calls Tryd.prog 11 #[.agg #[.int .i64 ((byB u 0).toNat : Int), .int .i64 ((byB u 1).toNat : Int), .int .i64 ((byB u 2).toNat : Int), .int .i64 ((byB u 3).toNat : Int), .int .i64 (n : Int), .string (u.extract q u.size)]] W fun e w' => e = .returned (.bool (VV.ok ⟨((byB u 0).toNat : Int), ((byB u 1).toNat : Int), ((byB u 2).toNat : Int), ((byB u 3).toNat : Int), (n : Int), u.extract q u.size⟩)) ∧ Below W.heap.size W w') := fun W => LetterOk_any ⟨((byB u 0).toNat : Int), ((byB u 1).toNat : Int), ((byB u 2).toNat : Int), ((byB u 3).toNat : Int), (n : Int), u.extract q u.size⟩ W hxs
      have HA : Hid ((VV.ok ⟨((byB u 0).toNat : Int), ((byB u 1).toNat : Int), ((byB u 2).toNat : Int), ((byB u 3).toNat : Int), (n : Int), u.extract q u.size⟩ = true → VV.rdOk t = true ∧ VV.rdA t = ⟨((byB u 0).toNat : Int), ((byB u 1).toNat : Int), ((byB u 2).toNat : Int), ((byB u 3).toNat : Int), (n : Int), u.extract q u.size⟩) ∧ (VV.ok ⟨((byB u 0).toNat : Int), ((byB u 1).toNat : Int), ((byB u 2).toNat : Int), ((byB u 3).toNat : Int), (n : Int), u.extract q u.size⟩ = false → VV.rdOk t = false ∧ VV.rdA t = VV.zL)) := ⟨fun h => VV.rd_some (VV.rd_yes hu hraw h), fun h => VV.rd_none (VV.rd_no3 hu hraw h)⟩
      generalize VV.ok ⟨((byB u 0).toNat : Int), ((byB u 1).toNat : Int), ((byB u 2).toNat : Int), ((byB u 3).toNat : Int), (n : Int), u.extract q u.size⟩ = B at *
      have k0 := run_by u 0 0 rfl (by omega)
      have k1 := run_by u 1 1 rfl (by omega)
      have k2 := run_by u 2 2 rfl (by omega)
      have k3 := run_by u 3 3 rfl (by omega)
      have k4 := run_fromV u (q : Int) q rfl hq
      have wb : ∀ b : UInt8, wrap64 (b.toNat : Int) = (b.toNat : Int) := fun b => by have := b.toNat_lt; unfold wrap64; omega
      have w0 := wb (byB u 0)
      have w1' := wb (byB u 1)
      have w2' := wb (byB u 2)
      have w3' := wb (byB u 3)
      clear hraw hx hv hs hxs hu hT ht wb
      generalize byB u 0 = c0 at *
      generalize byB u 1 = c1 at *
      generalize byB u 2 = c2 at *
      generalize byB u 3 = c3 at *
      generalize u.extract q u.size = Rt at *
      go_enter Tryd.func9, Tryd.ntmps9
      go_wp2_with fail
      refine hU.mono ?_
      rintro e w1 ⟨rfl, hb1⟩
      have HZ1 : Hid (BK w1 w.heap.size VV.zL ∧ Below w.heap.size w w1) := ⟨HZ.out.1.later hb1, HZ.out.2.trans (hb1.mono HZ.out.2.size)⟩
      clear hU HZ hb1
      go_wp2_with fail
      refine (HR.out _).mono ?_
      rintro e w2 ⟨rfl, hb2⟩
      have HZ2 : Hid (BK w2 w.heap.size VV.zL ∧ Below w.heap.size w w2) := ⟨HZ1.out.1.later hb2, HZ1.out.2.trans (hb2.mono HZ1.out.2.size)⟩
      clear HR HZ1 hb2
      go_wp2_with fail
      have HW3 : Hid (BK ((w2.alloc (.cells #[.int .i64 (c0.toNat : Int), .int .i64 (c1.toNat : Int), .int .i64 (c2.toNat : Int), .int .i64 (c3.toNat : Int), .int .i64 (n : Int), .string Rt] 25)).drew) w.heap.size VV.zL ∧ Below w.heap.size w ((w2.alloc (.cells #[.int .i64 (c0.toNat : Int), .int .i64 (c1.toNat : Int), .int .i64 (c2.toNat : Int), .int .i64 (c3.toNat : Int), .int .i64 (n : Int), .string Rt] 25)).drew) ∧ BK ((w2.alloc (.cells #[.int .i64 (c0.toNat : Int), .int .i64 (c1.toNat : Int), .int .i64 (c2.toNat : Int), .int .i64 (c3.toNat : Int), .int .i64 (n : Int), .string Rt] 25)).drew) w2.heap.size ⟨(c0.toNat : Int), (c1.toNat : Int), (c2.toNat : Int), (c3.toNat : Int), (n : Int), Rt⟩) := by
        have ha : Below w2.heap.size w2 ((w2.alloc (.cells #[.int .i64 (c0.toNat : Int), .int .i64 (c1.toNat : Int), .int .i64 (c2.toNat : Int), .int .i64 (c3.toNat : Int), .int .i64 (n : Int), .string Rt] 25)).drew) := ((Below.refl _ _).alloc (Nat.le_refl _) _).drew
        exact ⟨HZ2.out.1.later ha, HZ2.out.2.trans (ha.mono HZ2.out.2.size), BK.new w2 ⟨(c0.toNat : Int), (c1.toNat : Int), (c2.toNat : Int), (c3.toNat : Int), (n : Int), Rt⟩⟩
      go_region
      simp only [w0, w1', w2', w3']
      clear HZ2 w0 w1' w2' w3' k0 k1 k2 k3 k4
      generalize (w2.alloc (.cells #[.int .i64 (c0.toNat : Int), .int .i64 (c1.toNat : Int), .int .i64 (c2.toNat : Int), .int .i64 (c3.toNat : Int), .int .i64 (n : Int), .string Rt] 25)).drew = W3 at *
      have y0 := HW3.out.2.2.c0
      have y1 := HW3.out.2.2.c1
      have y2 := HW3.out.2.2.c2
      have y3 := HW3.out.2.2.c3
      have y4 := HW3.out.2.2.c4
      have y5 := HW3.out.2.2.c5
      simp only at y0 y1 y2 y3 y4 y5
      go_wp2_with fail
      refine (HC.out _).mono ?_
      rintro e w4 ⟨rfl, hb4⟩
      have HY : Hid (BK w4 w.heap.size VV.zL ∧ Below w.heap.size w w4 ∧ BK w4 w2.heap.size ⟨(c0.toNat : Int), (c1.toNat : Int), (c2.toNat : Int), (c3.toNat : Int), (n : Int), Rt⟩) := ⟨HW3.out.1.later hb4, HW3.out.2.1.trans (hb4.mono HW3.out.2.1.size), HW3.out.2.2.later hb4⟩
      clear HW3 hb4 HC y0 y1 y2 y3 y4 y5
      cases B
      · have HD := hide (HA.out.2 rfl)
        clear HA
        have z0 := HY.out.1.c0
        have f0 := HY.out.1.fz 0
        have z1 := HY.out.1.c1
        have f1 := HY.out.1.fz 1
        have z2 := HY.out.1.c2
        have f2 := HY.out.1.fz 2
        have z3 := HY.out.1.c3
        have f3 := HY.out.1.fz 3
        have z4 := HY.out.1.c4
        have f4 := HY.out.1.fz 4
        have z5 := HY.out.1.c5
        have f5 := HY.out.1.fz 5
        have HE : Hid (BK (w4.setCells w.heap.size 0 (kcs VV.zL)) w.heap.size VV.zL ∧ Below w.heap.size w (w4.setCells w.heap.size 0 (kcs VV.zL))) := ⟨HY.out.1.put _, below_setCells (Nat.le_refl _) _ _ _ HY.out.2.1⟩
        clear HY
        go_wp2
        exact ret_ltr2 2 3 w.heap.size VV.zL _ rfl rfl rfl rfl HE.out.1 ⟨by rw [HD.out.1, HD.out.2]; try rfl, HE.out.2⟩
      · have HD := hide (HA.out.1 rfl)
        clear HA
        have z0 := HY.out.1.c0
        have f0 := HY.out.1.fz 0
        have z1 := HY.out.1.c1
        have f1 := HY.out.1.fz 1
        have z2 := HY.out.1.c2
        have f2 := HY.out.1.fz 2
        have z3 := HY.out.1.c3
        have f3 := HY.out.1.fz 3
        have z4 := HY.out.1.c4
        have f4 := HY.out.1.fz 4
        have z5 := HY.out.1.c5
        have f5 := HY.out.1.fz 5
        have y0 := HY.out.2.2.c0
        have y1 := HY.out.2.2.c1
        have y2 := HY.out.2.2.c2
        have y3 := HY.out.2.2.c3
        have y4 := HY.out.2.2.c4
        have y5 := HY.out.2.2.c5
        simp only at y0 y1 y2 y3 y4 y5
        have HE : Hid (BK (w4.setCells w.heap.size 0 (kcs ⟨(c0.toNat : Int), (c1.toNat : Int), (c2.toNat : Int), (c3.toNat : Int), (n : Int), Rt⟩)) w.heap.size ⟨(c0.toNat : Int), (c1.toNat : Int), (c2.toNat : Int), (c3.toNat : Int), (n : Int), Rt⟩ ∧ Below w.heap.size w (w4.setCells w.heap.size 0 (kcs ⟨(c0.toNat : Int), (c1.toNat : Int), (c2.toNat : Int), (c3.toNat : Int), (n : Int), Rt⟩))) := ⟨HY.out.1.put _, below_setCells (Nat.le_refl _) _ _ _ HY.out.2.1⟩
        clear HY
        go_wp2
        exact ret_ltr2 2 3 w.heap.size ⟨(c0.toNat : Int), (c1.toNat : Int), (c2.toNat : Int), (c3.toNat : Int), (n : Int), Rt⟩ _ rfl rfl rfl rfl HE.out.1 ⟨by rw [HD.out.1, HD.out.2]; try rfl, HE.out.2⟩
    · have hraw : VV.raw u = none := by
        by_cases h4 : 4 ≤ u.size
        · refine VV.raw_no2 ?_
          cases hv : M.readVar u.data.toList 4 with
          | none => rfl
          | some y => exact absurd ⟨h4, by rw [hv]; rfl⟩ hr
        · exact VV.raw_no1 h4
      obtain ⟨e1, e2⟩ := VV.rd_none (VV.rd_no2 hu hraw)
      rw [e1, e2]
      have HR : Hid (∀ W, Calls Tryd.prog 25 #[.string u, .int .i64 4] W fun e w' => e = .returned (.tuple #[.int .i64 0, .int .i64 0, .bool false]) ∧ Below W.heap.size W w') := fun W => (ReadVar_none u 4 W (by omega) (by
        by_cases h4 : 4 ≤ u.size
        · refine .inr ⟨by omega, ?_⟩
          cases hv : M.readVar u.data.toList 4 with
          | none => simpa using hv
          | some y => exact absurd ⟨h4, by rw [hv]; rfl⟩ hr
        · exact .inl (by omega))).mono fun e w' ⟨he, hw⟩ => ⟨he, hw ▸ Below.refl _ _⟩
      clear e1 e2 hu hT ht hr hraw
      go_enter Tryd.func9, Tryd.ntmps9
      go_wp2_with fail
      refine hU.mono ?_
      rintro e w0 ⟨rfl, hb0⟩
      have HZ0 : Hid (BK w0 w.heap.size VV.zL ∧ Below w.heap.size w w0) := ⟨HZ.out.1.later hb0, HZ.out.2.trans (hb0.mono HZ.out.2.size)⟩
      clear hU HZ hb0
      go_wp2_with fail
      refine (HR.out _).mono ?_
      rintro e w1 ⟨rfl, hb1⟩
      have HZ1 : Hid (BK w1 w.heap.size VV.zL ∧ Below w.heap.size w w1) := ⟨HZ0.out.1.later hb1, HZ0.out.2.trans (hb1.mono HZ0.out.2.size)⟩
      clear HR HZ0 hb1
      have z0 := HZ1.out.1.c0
      have z1 := HZ1.out.1.c1
      have z2 := HZ1.out.1.c2
      have z3 := HZ1.out.1.c3
      have z4 := HZ1.out.1.c4
      have z5 := HZ1.out.1.c5
      have f0 := HZ1.out.1.fz 0
      have f1 := HZ1.out.1.fz 1
      have f2 := HZ1.out.1.fz 2
      have f3 := HZ1.out.1.fz 3
      have f4 := HZ1.out.1.fz 4
      have f5 := HZ1.out.1.fz 5
      have HE : Hid (BK (w1.setCells w.heap.size 0 (kcs VV.zL)) w.heap.size VV.zL ∧ Below w.heap.size w (w1.setCells w.heap.size 0 (kcs VV.zL))) := ⟨HZ1.out.1.put _, below_setCells (Nat.le_refl _) _ _ _ HZ1.out.2⟩
      clear HZ1
      go_wp2
      exact ret_ltr2 2 3 w.heap.size VV.zL _ rfl rfl rfl rfl HE.out.1 ⟨rfl, HE.out.2⟩

end Go.Proofs.YtodibhiinfbhiaaDoor
