/-
  The walk of the law FnExactProofText: it answers true of every argument.
-/
import Derived.Test.YtfojmagcoipbnaaPox
import Derived.Test.YtfojmagcoipbnaaPj
import Derived.Deep.RegionHeld3
namespace Go.Proofs.Ytfojmagcoipbnaa
open Go.RowKit Go.BigFrame Go.Sort
set_option linter.unusedVariables false
set_option linter.unusedSimpArgs false

set_option maxRecDepth 100000 in
set_option maxHeartbeats 2000000 in
theorem proofTextLaw_any (v1 v2 : Value) (g1 o1 g2 o2 : Nat) (L : List Le) (S : List ByteArray) (x : Int) (w : World) (h1 : IsRowL w v1 g1 o1 L) (h2 : IsRowT w v2 g2 o2 S) :
    Calls Try.prog 3 #[.agg #[v1, v2], .int .i64 x] w fun e w' => e = .returned (.bool true) ∧ Below w.heap.size w w' := by
  have HX := PoX.start w v1 v2
  have p0 := HX.2.2.1
  have p1 := HX.2.2.2
  have hsz := szProof_row v1 v2 g1 o1 g2 o2 L S 1048576 _ (h1.later HX.1) (h2.later HX.1) (by omega) (by omega)
  clear h1 h2
  go_enter Try.func3, Try.ntmps3
  go_wp2_with fail
  refine hsz.mono ?_
  rintro e w1 ⟨A, rfl, hb1, _, hA⟩
  have HX1 : Hid (PoX w w1 v1 v2) := HX.later hb1
  clear hsz HX p0 p1
  by_cases hneg : A < 0
  · clear hA
    go_wp2
    go_ret
    exact ⟨rfl, HX1.out.1⟩
  obtain ⟨hrs, hsm, hll, hss, hst, hsl⟩ := hA (by omega)
  clear hA
  have hrs1 := hrs.later hb1
  have hss1 := hss.below hb1 hss.lt
  clear hrs hss hb1
  have HTO : Hid (∀ W, Below w1.heap.size w1 W → Calls Try.prog 10 #[.agg #[v1, v2]] W (ToP L S W)) := fun W hW => toProof_any v1 v2 g1 o1 g2 o2 L S W (hrs1.later hW) (hss1.below hW hss1.lt)
  have HCS : Hid (∀ W k1 k2, RW 2 lcs W (.slice (some ⟨k1, 0, none⟩) L.length L.length) k1 L → TS W (.slice (some ⟨k2, 0, none⟩) S.length S.length) k2 S → Calls Try.prog 9 #[.agg #[.slice (some ⟨k1, 0, none⟩) L.length L.length, .slice (some ⟨k2, 0, none⟩) S.length S.length], .int .i64 x] W fun e w' => e = .returned (.tuple #[.string (pxT L S x), .bool (pxB L S x)]) ∧ Below W.heap.size W w') := fun W k1 k2 h3 h4 => sProofText_any _ _ k1 0 k2 0 L S x W h3.1 hsm h4.ss
  have HCI : Hid (∀ W k1 k2, Below w.heap.size w W → RW 2 lcs W (.slice (some ⟨k1, 0, none⟩) L.length L.length) k1 L → TS W (.slice (some ⟨k2, 0, none⟩) S.length S.length) k2 S → Calls Try.prog 11 #[.agg #[.slice (some ⟨k1, 0, none⟩) L.length L.length, .slice (some ⟨k2, 0, none⟩) S.length S.length], .int .i64 x] W fun e w' => e = .returned (.tuple #[.string (pxT L S x), .bool (pxB L S x)]) ∧ Below W.heap.size W w') := fun W k1 k2 hW h3 h4 => ProofText_any _ _ k1 0 k2 0 L S x W h3.1 hsm h4.ss (fun _ _ _ he => by simp only [Value.slice.injEq] at he; omega)
  unfold ToP at HTO
  generalize pxT L S x = R at *
  generalize pxB L S x = R2 at *
  have p0 := HX1.out.2.2.1
  have p1 := HX1.out.2.2.2
  clear hrs1 hss1 hsm hst
  go_wp2_with fail
  refine (HTO.out _ (Below.refl _ _)).mono ?_
  rintro e w2 ⟨k1, k2, rfl, hr2, ht2, _, _, _, _, _, hb2⟩
  go_wp2_with fail
  refine (HCS.out _ _ _ hr2 ht2).mono ?_
  rintro e w3 ⟨rfl, hb3⟩
  have hb13 := hb2.trans (hb3.mono hb2.size)
  have HX3 := HX1.out.later hb13
  clear hr2 ht2 hb2 hb3 HCS p0 p1
  have p0 := HX3.2.2.1
  have p1 := HX3.2.2.2
  go_wp2_with fail
  refine (HTO.out _ hb13).mono ?_
  rintro e w4 ⟨j1, j2, rfl, hr4, ht4, _, _, _, _, _, hb4⟩
  have hb14 := hb13.trans (hb4.mono hb13.size)
  have hba : Below w4.heap.size w4 (w4.alloc (.cells #[.slice (some ⟨j1, 0, none⟩) L.length L.length, .slice (some ⟨j2, 0, none⟩) S.length S.length] 31)) := (Below.refl _ _).alloc (Nat.le_refl _) _
  have hpn := PfM.new w4 (.slice (some ⟨j1, 0, none⟩) L.length L.length) (.slice (some ⟨j2, 0, none⟩) S.length S.length)
  have hr5 := hr4.later hba
  have ht5 := ht4.later hba
  have hb15 := hb14.trans (hba.mono hb14.size)
  have HX5 := HX1.out.later hb15
  clear hr4 ht4 hb4 hb13 hb14 HX3 p0 p1
  go_wp2_with fail
  refine (HCI.out _ _ _ HX5.1 hr5 ht5).mono ?_
  rintro e w6 ⟨rfl, hb6⟩
  have hb16 := hb15.trans (hb6.mono hb15.size)
  have HX6 := HX1.out.later hb16
  have HP6 := hpn.later hb6
  have HR6 : Hid (RW 2 lcs w6 (.slice (some ⟨j1, 0, none⟩) L.length L.length) j1 L ∧ TS w6 (.slice (some ⟨j2, 0, none⟩) S.length S.length) j2 S) := ⟨hr5.later hb6, ht5.later hb6⟩
  clear hr5 ht5 hpn hb6 HX5 HCI hb15 hba
  have HK : Hid (∀ W, Below w6.heap.size w6 W → (W.cell? ⟨w4.heap.size, 0, none⟩ = some (.slice (some ⟨j1, 0, none⟩) L.length L.length) ∧ W.cell? ⟨w4.heap.size, 1, none⟩ = some (.slice (some ⟨j2, 0, none⟩) S.length S.length) ∧ W.cell? ⟨w.heap.size, 0, none⟩ = some v1 ∧ W.cell? ⟨w.heap.size, 1, none⟩ = some v2)) := fun W hW => ⟨cell_up HP6.c0 hW, cell_up HP6.c1 hW, cell_up HX6.2.2.1 hW, cell_up HX6.2.2.2 hW⟩
  have HTO6 : Hid (∀ W, Below w6.heap.size w6 W → Calls Try.prog 10 #[.agg #[v1, v2]] W (ToP L S W)) := fun W hW => HTO.out W (hb16.trans (hW.mono hb16.size))
  have HEQ : Hid (∀ W i1 i2, Below w6.heap.size w6 W → RW 2 lcs W (.slice (some ⟨i1, 0, none⟩) L.length L.length) i1 L → TS W (.slice (some ⟨i2, 0, none⟩) S.length S.length) i2 S → Calls Try.prog 12 #[.agg #[.slice (some ⟨j1, 0, none⟩) L.length L.length, .slice (some ⟨j2, 0, none⟩) S.length S.length], .agg #[.slice (some ⟨i1, 0, none⟩) L.length L.length, .slice (some ⟨i2, 0, none⟩) S.length S.length]] W fun e w' => e = .returned (.bool true) ∧ Below W.heap.size W w') := fun W i1 i2 hW h3 h4 => eqProof_yes _ _ _ _ j1 0 j2 0 i1 0 i2 0 L S W (HR6.out.1.later hW).1 (HR6.out.2.later hW).ss h3.1 h4.ss
  unfold ToP at HTO6
  have hb0 : Below w6.heap.size w6 w6.drew := (Below.refl _ _).drew
  have HX7 := HX6.1
  clear HX6 HP6 HR6 HTO HX1 hb16
  go_wp2
  go_region_held3 (fun W => W.cell? ⟨w4.heap.size, 0, none⟩ = some (.slice (some ⟨j1, 0, none⟩) L.length L.length) ∧ W.cell? ⟨w4.heap.size, 1, none⟩ = some (.slice (some ⟨j2, 0, none⟩) S.length S.length) ∧ W.cell? ⟨w.heap.size, 0, none⟩ = some v1 ∧ W.cell? ⟨w.heap.size, 1, none⟩ = some v2) (first | (go_keep; done) | exact HK.out _ hb0) (first | (go_at_call 10; refine (HTO6.out _ hb0).mono ?_; rintro e w7 ⟨i1, i2, rfl, hr7, ht7, _, _, _, _, _, hc7⟩; have hb0 := hb0.trans (hc7.mono hb0.size)) | (go_at_call 12; refine (HEQ.out _ i1 i2 hb0 hr7 ht7).mono ?_; rintro e w8 ⟨rfl, hc8⟩; have hb0 := hb0.trans (hc8.mono hb0.size)) | fail)
  go_wp2
  go_ret
  exact ⟨rfl, HX7.trans (hb0.mono HX7.size)⟩

end Go.Proofs.Ytfojmagcoipbnaa
