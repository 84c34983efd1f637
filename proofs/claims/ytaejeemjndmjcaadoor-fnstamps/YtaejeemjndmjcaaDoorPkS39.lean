/-
  Texts laid together: Xo.
-/
import Derived.Test.YtaejeemjndmjcaaDoorPkS37
import Derived.Test.YtaejeemjndmjcaaDoorPkS38
import Derived.Deep.RegionHeld3
/-
  Heads stamped: the specification's answer.
-/
namespace Go.Proofs.YtaejeemjndmjcaaDoor
open Go.RowKit Go.BigFrame Go.Sort
set_option linter.unusedVariables false
set_option linter.unusedSimpArgs false

set_option maxRecDepth 100000 in
set_option maxHeartbeats 2000000 in
theorem sStampHead_any (s : ByteArray) (xa : Option Addr) (n c g o : Nat) (l : List ByteArray) (x : Hd) (w : World) (hs : s.size ≤ 100) (hln : l.length = n) (hn : n ≤ 16) (hv : SS w (.slice xa n c) g o l) :
    Calls Tryd.prog 56 #[.string s, .slice xa n c, .agg #[.int .i64 x.h, .int .i64 x.e, .string x.r, .string x.p]] w (ThP s l x w) := by
  have HH : Hid (∀ W, Calls Tryd.prog 60 #[.agg #[.int .i64 x.h, .int .i64 x.e, .string x.r, .string x.p]] W fun e w' => e = .returned (.bool (HV.okH x)) ∧ Below W.heap.size W w') := fun W => sHeadOk_any x W
  have HG : Hid (∀ W, Calls Tryd.prog 63 #[.agg #[.int .i64 x.h, .int .i64 x.e, .string x.r, .string x.p]] W fun e w' => e = .returned (.string (stampT x)) ∧ Below W.heap.size W w') := fun W => l14Stamp_any x W
  have HA : Hid (∀ W, Calls Tryd.prog 61 #[.int .i64 x.h, .int .i64 x.e] W fun e w' => e = .returned (.int .i64 (stampP x.h x.e)) ∧ w' = W) := fun W => sStampAt_any x.h x.e W
  have hz := stampT_le x
  have HS : Hid (∀ W, Below w.heap.size w W → Calls Tryd.prog 91 #[.string s, .slice xa n c, .int .i64 (stampP x.h x.e), .string (stampT x)] W fun e w' => ∃ a1 n1 c1 a2 n2 c2 a3 n3 c3, e = .returned (.tuple #[.agg #[.int .i64 (sgAt s (stampT x) l (stampP x.h x.e)), .slice a1 n1 c1, .slice a2 n2 c2, .slice a3 n3 c3], .bool (okG s (stampT x) l (stampP x.h x.e))]) ∧ SigIn w' W.heap.size (.agg #[.int .i64 (sgAt s (stampT x) l (stampP x.h x.e)), .slice a1 n1 c1, .slice a2 n2 c2, .slice a3 n3 c3]) (sgAt s (stampT x) l (stampP x.h x.e)) (sgO s (stampT x) l (stampP x.h x.e)) (sgS s (stampT x) l (stampP x.h x.e)) (sgD s (stampT x) l (stampP x.h x.e)) ∧ Below W.heap.size W w') := fun W hW => (sSignText_any s _ xa n c g o l _ W hs (by omega) hln hn (hv.below hW hv.lt)).mono fun e w' h => h.slices
  have HFN : Hid (∀ W, HV.okH x = false → Below w.heap.size w W → ThP s l x w (.returned (.tuple #[.agg #[.int .i64 0, .slice none 0 0, .slice none 0 0, .slice none 0 0], .bool false])) W) := fun W h hb => ThP.no h hb
  have HFY : Hid (∀ W v, HV.okH x = true → SigIn W w.heap.size v (sgAt s (stampT x) l (stampP x.h x.e)) (sgO s (stampT x) l (stampP x.h x.e)) (sgS s (stampT x) l (stampP x.h x.e)) (sgD s (stampT x) l (stampP x.h x.e)) → Below w.heap.size w W → ThP s l x w (.returned (.tuple #[v, .bool (okG s (stampT x) l (stampP x.h x.e))])) W) := fun W v h hv hb => ThP.yes h hv hb
  generalize ThP s l x w = Post at *
  generalize sgAt s (stampT x) l (stampP x.h x.e) = A at *
  generalize sgO s (stampT x) l (stampP x.h x.e) = O at *
  generalize sgS s (stampT x) l (stampP x.h x.e) = S at *
  generalize sgD s (stampT x) l (stampP x.h x.e) = D at *
  generalize okG s (stampT x) l (stampP x.h x.e) = b2 at *
  generalize stampT x = K at *
  generalize stampP x.h x.e = P at *
  generalize HV.okH x = b1 at *
  obtain ⟨h, e, r, p⟩ := x
  simp only at HH HG HA ⊢
  clear hv hz
  have HX : Hid (Below w.heap.size w ((w.alloc (.cells #[.int .i64 h, .int .i64 e, .string r, .string p] 25)).alloc (.cells zSig 28)) ∧ BH ((w.alloc (.cells #[.int .i64 h, .int .i64 e, .string r, .string p] 25)).alloc (.cells zSig 28)) w.heap.size ⟨h, e, r, p⟩ ∧ SgM ((w.alloc (.cells #[.int .i64 h, .int .i64 e, .string r, .string p] 25)).alloc (.cells zSig 28)) (w.heap.size + 1) 0 (.slice none 0 0) (.slice none 0 0) (.slice none 0 0)) :=
    ⟨((Below.refl _ _).alloc (Nat.le_refl _) _).alloc (by simp) _, (BH.new w ⟨h, e, r, p⟩).later ((Below.refl _ _).alloc (Nat.le_refl _) _), alloc_fst _ _ (by simp)⟩
  go_enter Tryd.func56, Tryd.ntmps56
  go_wp2_with fail
  refine (HH.out _).mono ?_
  rintro e1 w1 ⟨rfl, hb1⟩
  have HX1 : Hid (Below w.heap.size w w1 ∧ BH w1 w.heap.size ⟨h, e, r, p⟩ ∧ SgM w1 (w.heap.size + 1) 0 (.slice none 0 0) (.slice none 0 0) (.slice none 0 0)) := ⟨HX.out.1.trans (hb1.mono HX.out.1.size), HX.out.2.1.later hb1, HX.out.2.2.later hb1⟩
  clear hb1 HX HH
  cases b1
  · go_wp2_with (first | (refine wp_storeSig rfl _ _ rfl (w.heap.size + 1) 0 0 _ _ _ _ _ _ HX1.out.2.2 rfl rfl rfl rfl rfl ?_; intro hst) | fail)
    exact ret_sig2 6 7 (w.heap.size + 1) 0 _ _ _ _ rfl rfl rfl rfl hst (HFN.out _ (by simp) (below_setRL HX1.out.1 (by omega) HX1.out.1.size _))
  have HK : Hid (∀ W, Below w1.heap.size w1 W → W.cell? ⟨w.heap.size, 0, none⟩ = some (.int .i64 h) ∧ W.cell? ⟨w.heap.size, 1, none⟩ = some (.int .i64 e) ∧ W.cell? ⟨w.heap.size, 2, none⟩ = some (.string r) ∧ W.cell? ⟨w.heap.size, 3, none⟩ = some (.string p)) := fun W hW => ⟨(HX1.out.2.1.later hW).c0, (HX1.out.2.1.later hW).c1, (HX1.out.2.1.later hW).c2, (HX1.out.2.1.later hW).c3⟩
  have HKS : Hid (∀ W a1 n1 c1 a2 n2 c2 a3 n3 c3, Below w1.heap.size w1 W → ((((W.setCell ⟨w.heap.size + 1, 0, none⟩ (.int .i64 A)).setCell ⟨w.heap.size + 1, 1, none⟩ (.slice a1 n1 c1)).setCell ⟨w.heap.size + 1, 2, none⟩ (.slice a2 n2 c2)).setCell ⟨w.heap.size + 1, 3, none⟩ (.slice a3 n3 c3)).cell? ⟨w.heap.size, 0, none⟩ = some (.int .i64 h) ∧ ((((W.setCell ⟨w.heap.size + 1, 0, none⟩ (.int .i64 A)).setCell ⟨w.heap.size + 1, 1, none⟩ (.slice a1 n1 c1)).setCell ⟨w.heap.size + 1, 2, none⟩ (.slice a2 n2 c2)).setCell ⟨w.heap.size + 1, 3, none⟩ (.slice a3 n3 c3)).cell? ⟨w.heap.size, 1, none⟩ = some (.int .i64 e) ∧ ((((W.setCell ⟨w.heap.size + 1, 0, none⟩ (.int .i64 A)).setCell ⟨w.heap.size + 1, 1, none⟩ (.slice a1 n1 c1)).setCell ⟨w.heap.size + 1, 2, none⟩ (.slice a2 n2 c2)).setCell ⟨w.heap.size + 1, 3, none⟩ (.slice a3 n3 c3)).cell? ⟨w.heap.size, 2, none⟩ = some (.string r) ∧ ((((W.setCell ⟨w.heap.size + 1, 0, none⟩ (.int .i64 A)).setCell ⟨w.heap.size + 1, 1, none⟩ (.slice a1 n1 c1)).setCell ⟨w.heap.size + 1, 2, none⟩ (.slice a2 n2 c2)).setCell ⟨w.heap.size + 1, 3, none⟩ (.slice a3 n3 c3)).cell? ⟨w.heap.size, 3, none⟩ = some (.string p)) := fun W a1 n1 c1 a2 n2 c2 a3 n3 c3 hW => by
    have hk := (HX1.out.2.1.later hW).grown (grown4 W (w.heap.size + 1) 0 1 2 3 (.int .i64 A) (.slice a1 n1 c1) (.slice a2 n2 c2) (.slice a3 n3 c3)) (by simp)
    exact ⟨hk.c0, hk.c1, hk.c2, hk.c3⟩
  have HR1 : Hid (∀ W, Below w1.heap.size w1 W → Below w.heap.size w W ∧ SgM W (w.heap.size + 1) 0 (.slice none 0 0) (.slice none 0 0) (.slice none 0 0)) := fun W hW => ⟨HX1.out.1.trans (hW.mono HX1.out.1.size), HX1.out.2.2.later hW⟩
  have hlt1 : w.heap.size + 1 < w1.heap.size := HX1.out.2.2.lt
  have hb : Below w1.heap.size w1 w1.drew := (Below.refl _ _).drew
  clear HX1
  go_wp2
  go_region_held3 (fun W => W.cell? ⟨w.heap.size, 0, none⟩ = some (.int .i64 h) ∧ W.cell? ⟨w.heap.size, 1, none⟩ = some (.int .i64 e) ∧ W.cell? ⟨w.heap.size, 2, none⟩ = some (.string r) ∧ W.cell? ⟨w.heap.size, 3, none⟩ = some (.string p)) (first | (go_keep; done) | exact HK.out _ hb | exact HKS.out _ _ _ _ _ _ _ _ _ _ hb) ((first | (go_at_call 61; refine (HA.out _).mono ?_; rintro e2 w2 ⟨rfl, rfl⟩) | (go_at_call 63; refine (HG.out _).mono ?_; rintro e3 w3 ⟨rfl, hb3⟩; have hb := hb.trans (hb3.mono hb.size)) | (go_at_call 91; refine (HS.out _ (HR1.out _ hb).1).mono ?_; rintro e4 w4 ⟨a1, n1, c1, a2, n2, c2, a3, n3, c3, rfl, hsi, hb4⟩; have hbx := hb; have hb := hb.trans (hb4.mono hb.size); have y0 := (HR1.out _ hb).2.c0; have y1 := (HR1.out _ hb).2.c1; have y2 := (HR1.out _ hb).2.c2; have y3 := (HR1.out _ hb).2.c3; have f0 := (HR1.out _ hb).2.fr 0; have f1 := (HR1.out _ hb).2.fr 1; have f2 := (HR1.out _ hb).2.fr 2; have f3 := (HR1.out _ hb).2.fr 3) | fail))
  have hg := grown4 w4 (w.heap.size + 1) 0 1 2 3 (.int .i64 A) (.slice a1 n1 c1) (.slice a2 n2 c2) (.slice a3 n3 c3)
  have HST : Hid (SgM ((((w4.setCell ⟨w.heap.size + 1, 0, none⟩ (.int .i64 A)).setCell ⟨w.heap.size + 1, 1, none⟩ (.slice a1 n1 c1)).setCell ⟨w.heap.size + 1, 2, none⟩ (.slice a2 n2 c2)).setCell ⟨w.heap.size + 1, 3, none⟩ (.slice a3 n3 c3)) (w.heap.size + 1) A (.slice a1 n1 c1) (.slice a2 n2 c2) (.slice a3 n3 c3)) := heap_setCell_same _ _ 3 _ _ _ (heap_setCell_same _ _ 2 _ _ _ (heap_setCell_same _ _ 1 _ _ _ (heap_setCell_same w4 _ 0 _ _ _ (HR1.out _ hb).2)))
  have HSI : Hid (SigIn ((((w4.setCell ⟨w.heap.size + 1, 0, none⟩ (.int .i64 A)).setCell ⟨w.heap.size + 1, 1, none⟩ (.slice a1 n1 c1)).setCell ⟨w.heap.size + 1, 2, none⟩ (.slice a2 n2 c2)).setCell ⟨w.heap.size + 1, 3, none⟩ (.slice a3 n3 c3)) w.heap.size (.agg #[.int .i64 A, .slice a1 n1 c1, .slice a2 n2 c2, .slice a3 n3 c3]) A O S D) := by
    have hlt3 := Nat.lt_of_lt_of_le hlt1 hbx.size
    obtain ⟨v1, v2, v3, g1, g2, g3, hv, ⟨t1, t2, t3⟩, ⟨l1, l2, l3⟩, hne⟩ := hsi
    simp at hv
    obtain ⟨rfl, rfl, rfl⟩ := hv
    exact ⟨_, _, _, g1, g2, g3, rfl, ⟨t1.keptG hg (fun _ => by simp; omega), t2.keptG hg (fun _ => by simp; omega), t3.keptG hg (fun _ => by simp; omega)⟩, ⟨by omega, by omega, by omega⟩, hne⟩
  have HBF : Hid (Below w.heap.size w ((((w4.setCell ⟨w.heap.size + 1, 0, none⟩ (.int .i64 A)).setCell ⟨w.heap.size + 1, 1, none⟩ (.slice a1 n1 c1)).setCell ⟨w.heap.size + 1, 2, none⟩ (.slice a2 n2 c2)).setCell ⟨w.heap.size + 1, 3, none⟩ (.slice a3 n3 c3))) := (HR1.out _ hb).1.grown hg (HR1.out _ hb).1.size (fun k hk => by simp at hk; omega)
  clear y0 y1 y2 y3 f0 f1 f2 f3 hsi hg HK HKS HR1 HS HG HA
  go_wp2
  exact ret_sig2 6 7 (w.heap.size + 1) A _ _ _ (.bool b2) rfl rfl rfl rfl HST.out (HFY.out _ _ (by simp) HSI.out HBF.out)

end Go.Proofs.YtaejeemjndmjcaaDoor
