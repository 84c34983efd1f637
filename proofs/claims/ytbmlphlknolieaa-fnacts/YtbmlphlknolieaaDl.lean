/-
  The walk of the law FnExactDiskOk: it answers true of every disk.
-/
import Derived.Test.YtbmlphlknolieaaPkI
import Derived.Deep.RegionHeld3
namespace Go.Proofs.Ytbmlphlknolieaa
open Go.RowKit Go.BigFrame Go.Sort
set_option linter.unusedVariables false
set_option linter.unusedSimpArgs false

theorem DkIn.shape {w : World} {B : Nat} {v : Value} {l : List Fl} (h : DkIn w B v l) : ∃ a c g, v = .agg #[.slice a l.length c] ∧ RW 3 fcs w (.slice a l.length c) g l ∧ B ≤ g := by
  obtain ⟨s, g, rfl, hr, hb⟩ := h
  obtain ⟨a, c, rfl⟩ := hr.1.shape
  exact ⟨a, c, g, rfl, hr, hb⟩

set_option maxRecDepth 100000 in
set_option maxHeartbeats 2000000 in
theorem diskOkLaw_any (v : Value) (g o : Nat) (L : List Fl) (w : World) (hv : IsRowF w v g o L) :
    Calls Try.prog 5 #[.agg #[v]] w fun e w' => e = .returned (.bool true) ∧ Below w.heap.size w w' := by
  have hB : Below w.heap.size w (w.alloc (.cells #[v] 51)) := (Below.refl _ _).alloc (Nat.le_refl _) _
  have HSZ := szDisk_row v g o L 1048576 _ (hv.later hB) (by omega) (by omega)
  have HB : Hid (Below w.heap.size w (w.alloc (.cells #[v] 51)) ∧ BD (w.alloc (.cells #[v] 51)) w.heap.size 51 v) := ⟨hB, BD.new w _ _⟩
  have hsv : ∃ a n cap, v = .slice a n cap := by obtain ⟨a, n, cap, h, _⟩ := hv; exact ⟨a, n, cap, h⟩
  have HR : Hid (IsRowF w v g o L) := hv
  obtain ⟨a, n, cap, rfl⟩ := hsv
  clear hv hB
  go_enter Try.func5, Try.ntmps5
  go_wp2_with fail
  refine HSZ.mono ?_
  rintro e w1 ⟨A, rfl, hb1, _, hA⟩
  have b1 := HB.out.1.trans (hb1.mono HB.out.1.size)
  by_cases hneg : A < 0
  · clear hA HSZ HR HB
    go_wp2
    go_ret
    exact ⟨rfl, b1⟩
  · obtain ⟨hrs, _, hlen⟩ := hA (by omega)
    have HTO : Hid (∀ W, Below w.heap.size w W → Calls Try.prog 30 #[.agg #[.slice a n cap]] W fun e w' => ∃ u, e = .returned u ∧ DkIn w' W.heap.size u L ∧ Below W.heap.size W w') := fun W hW => by
      obtain ⟨a', n', c', ev, _, hr⟩ := HR.out
      obtain ⟨a2, c2, ev2⟩ := hrs.shape
      have hn : n' = L.length := by rw [ev] at ev2; simp at ev2; exact ev2.2.1
      exact toDisk_any _ g o L W ((hr (by omega)).2.1.later (hW.mono (Nat.le_refl _)))
    have HX1 : Hid (BD w1 w.heap.size 51 (.slice a n cap) ∧ Below w.heap.size w w1) := ⟨HB.out.2.later hb1, b1⟩
    clear hrs hA HSZ HR HB hb1 b1
    have c1 := HX1.out.1.cell
    go_wp2_with fail
    refine (HTO.out _ HX1.out.2).mono ?_
    rintro e w2 ⟨u, rfl, hu, hb2⟩
    obtain ⟨a2, c2, p2, rfl, hr2, _⟩ := hu.shape
    have hcS := sDiskOk_any _ p2 0 L w2 hr2.1
    have HX2 : Hid (BD w2 w.heap.size 51 (.slice a n cap) ∧ Below w.heap.size w w2) := ⟨HX1.out.1.later hb2, HX1.out.2.trans (hb2.mono HX1.out.2.size)⟩
    have HCI : Hid (∀ W s q, RS 3 fcs W s q 0 L → Calls Try.prog 19 #[.agg #[s]] W fun e w' => e = .returned (.bool (F.diskB L)) ∧ Below W.heap.size W w') := fun W s q h => DiskOk_any s q 0 L W h
    generalize F.diskB L = R at *
    clear hb2 hr2 hu c1 HX1
    go_wp2_with fail
    refine hcS.mono ?_
    rintro e w3 ⟨rfl, hb3⟩
    have HX3 : Hid (BD w3 w.heap.size 51 (.slice a n cap) ∧ Below w.heap.size w w3) := ⟨HX2.out.1.later hb3, HX2.out.2.trans (hb3.mono HX2.out.2.size)⟩
    have c3 := HX3.out.1.cell
    clear hb3 HX2 hcS
    go_wp2_with fail
    refine (HTO.out _ HX3.out.2).mono ?_
    rintro e w4 ⟨u, rfl, hu, hb4⟩
    obtain ⟨a4, c4, p4, rfl, hr4, hp4⟩ := hu.shape
    have hb4' : Below w4.heap.size w4 (w4.alloc (.cells #[.slice a4 L.length c4] 26)) := (Below.refl _ _).alloc (Nat.le_refl _) _
    have b4 := HX3.out.2.trans (hb4.mono HX3.out.2.size)
    have HX4 : Hid (BD (w4.alloc (.cells #[.slice a4 L.length c4] 26)) w.heap.size 51 (.slice a n cap) ∧ Below w.heap.size w (w4.alloc (.cells #[.slice a4 L.length c4] 26)) ∧ BD (w4.alloc (.cells #[.slice a4 L.length c4] 26)) w4.heap.size 26 (.slice a4 L.length c4) ∧ RW 3 fcs (w4.alloc (.cells #[.slice a4 L.length c4] 26)) (.slice a4 L.length c4) p4 L) :=
      ⟨(HX3.out.1.later hb4).later hb4', b4.trans (hb4'.mono b4.size), BD.new w4 _ _, hr4.later hb4'⟩
    clear hu hb4 hb4' b4 hr4 HX3 c3
    go_wp2_with fail
    refine (HCI.out _ _ p4 HX4.out.2.2.2.1).mono ?_
    rintro e w5 ⟨rfl, hb5⟩
    have HX5 : Hid (BD w5 w.heap.size 51 (.slice a n cap) ∧ Below w.heap.size w w5 ∧ BD w5 w4.heap.size 26 (.slice a4 L.length c4) ∧ RW 3 fcs w5 (.slice a4 L.length c4) p4 L) := ⟨HX4.out.1.later hb5, HX4.out.2.1.trans (hb5.mono HX4.out.2.1.size), HX4.out.2.2.1.later hb5, HX4.out.2.2.2.later hb5⟩
    have d0 := HX5.out.1.cell
    have d1 := HX5.out.2.2.1.cell
    have HK : Hid (∀ W, Below w5.heap.size w5 W → W.cell? ⟨w.heap.size, 0, none⟩ = some (.slice a n cap) ∧ W.cell? ⟨w4.heap.size, 0, none⟩ = some (.slice a4 L.length c4)) := fun W hW => ⟨(HX5.out.1.later hW).cell, (HX5.out.2.2.1.later hW).cell⟩
    clear hb5 HX4 HCI
    go_wp2
    go_region_held3 (fun W => W.cell? ⟨w.heap.size, 0, none⟩ = some (.slice a n cap) ∧ W.cell? ⟨w4.heap.size, 0, none⟩ = some (.slice a4 L.length c4)) (first | go_keep | exact HK.out _ hb7 | exact HK.out _ hb6) ((first | (go_at_call 30; refine (HTO.out _ HX5.out.2.1.drew).mono ?_; rintro e w6 ⟨u6, rfl, hu6, hb6'⟩; obtain ⟨a6, c6, p6, rfl, hr6, hp6⟩ := hu6.shape; have hb6 : Below w5.heap.size w5 w6 := (Below.refl w5.heap.size w5).drew.trans hb6') | (go_at_call 31; refine (eqDisk_yes _ _ p4 0 p6 0 L _ (HX5.out.2.2.2.later hb6).1 hr6.1).mono ?_; rintro e w7 ⟨rfl, hb7'⟩; have hb7 : Below w5.heap.size w5 w7 := hb6.trans (hb7'.mono hb6.size))))
    go_wp2
    go_ret
    exact ⟨rfl, HX5.out.2.1.trans (hb7.mono HX5.out.2.1.size)⟩

end Go.Proofs.Ytbmlphlknolieaa
