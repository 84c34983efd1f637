/-
  Texts laid together: Dst.
-/
import Derived.Test.YtaejeemjndmjcaaDoorPkS13
import Derived.Test.YtaejeemjndmjcaaDoorPkS39
import Derived.Test.YtaejeemjndmjcaaDoorPkS45
import Derived.Test.YtaejeemjndmjcaaDoorPkS47
/-
  Drawn stamps, right or not.
-/
namespace Go.Proofs.YtaejeemjndmjcaaDoor
open Go.RowKit Go.BigFrame Go.Sort
set_option linter.unusedVariables false
set_option linter.unusedSimpArgs false

set_option maxRecDepth 100000 in
set_option maxHeartbeats 1000000 in
theorem sStampHead_no (u1 u2 : Value) (x : Hd) (w : World) (hk : HV.okH x = false) :
    Calls Tryd.prog 56 #[u1, u2, .agg #[.int .i64 x.h, .int .i64 x.e, .string x.r, .string x.p]] w fun e w' => e = .returned (.tuple #[.agg #[.int .i64 0, .slice none 0 0, .slice none 0 0, .slice none 0 0], .bool false]) ∧ Below w.heap.size w w' := by
  have HH : Hid (∀ W, Calls Tryd.prog 60 #[.agg #[.int .i64 x.h, .int .i64 x.e, .string x.r, .string x.p]] W fun e w' => e = .returned (.bool false) ∧ Below W.heap.size W w') := fun W => by
    have h := sHeadOk_any x W
    rw [hk] at h
    exact h
  clear hk
  obtain ⟨h, e, r, p⟩ := x
  simp only at HH ⊢
  have HX : Hid (Below w.heap.size w ((w.alloc (.cells #[.int .i64 h, .int .i64 e, .string r, .string p] 25)).alloc (.cells zSig 28)) ∧ SgM ((w.alloc (.cells #[.int .i64 h, .int .i64 e, .string r, .string p] 25)).alloc (.cells zSig 28)) (w.heap.size + 1) 0 (.slice none 0 0) (.slice none 0 0) (.slice none 0 0)) :=
    ⟨((Below.refl _ _).alloc (Nat.le_refl _) _).alloc (by simp) _, alloc_fst _ _ (by simp)⟩
  go_enter Tryd.func56, Tryd.ntmps56
  go_wp2_with fail
  refine (HH.out _).mono ?_
  rintro e1 w1 ⟨rfl, hb1⟩
  have HX1 : Hid (Below w.heap.size w w1 ∧ SgM w1 (w.heap.size + 1) 0 (.slice none 0 0) (.slice none 0 0) (.slice none 0 0)) := ⟨HX.out.1.trans (hb1.mono HX.out.1.size), HX.out.2.later hb1⟩
  clear hb1 HX HH
  go_wp2_with (first | (refine wp_storeSig rfl _ _ rfl (w.heap.size + 1) 0 0 _ _ _ _ _ _ HX1.out.2 rfl rfl rfl rfl rfl ?_; intro hst) | fail)
  exact ret_sig2 6 7 (w.heap.size + 1) 0 _ _ _ _ rfl rfl rfl rfl hst ⟨rfl, below_setRL HX1.out.1 (by omega) HX1.out.1.size _⟩

/-- a text, a head and a signature, answered -/
theorem ret_shs {fn : Func} {Rp : Ending → World → Prop} {a : Act} {w : World} (i c1 c2 g1 g2 : Nat) (u0 : Value) (x : Hd) (y : Int) (v1 v2 v3 : Value) (hres : fn.results = #[.tmp i, .cell c1 25, .cell c2 28]) (hd : a.defers = []) (h0 : a.tmps.getD i undef = u0) (h1 : a.tmps.getD c1 undef = .pointer (some ⟨g1, 0, none⟩)) (h2 : a.tmps.getD c2 undef = .pointer (some ⟨g2, 0, none⟩))
    (hA : BH w g1 x) (hB : SgM w g2 y v1 v2 v3) (h : Rp (.returned (.tuple #[u0, .agg #[.int .i64 x.h, .int .i64 x.e, .string x.r, .string x.p], .agg #[.int .i64 y, v1, v2, v3]])) w) : bodyPost Tryd.prog fn Rp .ret a w := by
  have hr := load_sig hB
  have hq : (loadVar 25 ⟨g1, 0, none⟩).run Tryd.prog w = .ok (.agg #[.int .i64 x.h, .int .i64 x.e, .string x.r, .string x.p]) w := run_loadVar_row (P := Tryd.prog) w g1 25 25 _ (0, 0) _ hA Tryd.underlying25 rfl sizeHead
  refine bodyPost_ret (v := .tuple #[u0, .agg #[.int .i64 x.h, .int .i64 x.e, .string x.r, .string x.p], .agg #[.int .i64 y, v1, v2, v3]]) ?_ hd h
  have h0' : a.tmps[i]?.getD undef = u0 := by simpa using h0
  have h1' : a.tmps[c1]?.getD undef = .pointer (some ⟨g1, 0, none⟩) := by simpa using h1
  have h2' : a.tmps[c2]?.getD undef = .pointer (some ⟨g2, 0, none⟩) := by simpa using h2
  simp [results, hres, asAddr, hr, hq, h0', h1', h2']
theorem dst_end {w W : World} {X Z : Hd} {a : Int} {v1 v2 v3 y1 y2 y3 : Value} {y : Int} (hb : Below w.heap.size w W) (hB : BH W w.heap.size Z) (hS : SgM W (w.heap.size + 1) y y1 y2 y3) :
    BH ((W.setCells w.heap.size 0 (hcs X)).setCells (w.heap.size + 1) 0 [.int .i64 a, v1, v2, v3]).drew w.heap.size X ∧ SgM ((W.setCells w.heap.size 0 (hcs X)).setCells (w.heap.size + 1) 0 [.int .i64 a, v1, v2, v3]).drew (w.heap.size + 1) a v1 v2 v3 ∧ (∀ v g l, TS W v g l → w.heap.size + 1 < g → TS ((W.setCells w.heap.size 0 (hcs X)).setCells (w.heap.size + 1) 0 [.int .i64 a, v1, v2, v3]).drew v g l) ∧ Below w.heap.size w ((W.setCells w.heap.size 0 (hcs X)).setCells (w.heap.size + 1) 0 [.int .i64 a, v1, v2, v3]).drew := by
  have hp : BH (W.setCells w.heap.size 0 (hcs X)) w.heap.size X := hB.put X
  have g1 : W.grownBy (W.setCells w.heap.size 0 (hcs X)) (some w.heap.size) := grown4 W w.heap.size 0 1 2 3 _ _ _ _
  have hs : SgM (W.setCells w.heap.size 0 (hcs X)) (w.heap.size + 1) y y1 y2 y3 := hS.keptG g1 (by simp)
  have hb1 : Below w.heap.size w (W.setCells w.heap.size 0 (hcs X)) := below_setCells (Nat.le_refl _) _ _ _ hb
  generalize W.setCells w.heap.size 0 (hcs X) = W1 at *
  have g2 : W1.grownBy (W1.setCells (w.heap.size + 1) 0 [.int .i64 a, v1, v2, v3]) (some (w.heap.size + 1)) := grown4 W1 (w.heap.size + 1) 0 1 2 3 _ _ _ _
  have hp2 : BH (W1.setCells (w.heap.size + 1) 0 [.int .i64 a, v1, v2, v3]) w.heap.size X := hp.grown g2 (by simp)
  have hs2 : SgM (W1.setCells (w.heap.size + 1) 0 [.int .i64 a, v1, v2, v3]) (w.heap.size + 1) a v1 v2 v3 := heap_setCell_same _ (w.heap.size + 1) 3 _ _ _ (heap_setCell_same _ (w.heap.size + 1) 2 _ _ _ (heap_setCell_same _ (w.heap.size + 1) 1 _ _ _ (heap_setCell_same W1 (w.heap.size + 1) 0 _ _ _ hs)))
  have hb2 : Below w.heap.size w (W1.setCells (w.heap.size + 1) 0 [.int .i64 a, v1, v2, v3]) := below_setCells (by omega) _ _ _ hb1
  have ht : ∀ v g l, TS W v g l → w.heap.size + 1 < g → TS (W1.setCells (w.heap.size + 1) 0 [.int .i64 a, v1, v2, v3]) v g l := fun v g l h hg => (h.keptG g1 (fun _ => by simp; omega)).keptG g2 (fun _ => by simp; omega)
  generalize W1.setCells (w.heap.size + 1) 0 [.int .i64 a, v1, v2, v3] = W2 at *
  have hd : Below W2.heap.size W2 W2.drew := (Below.refl _ _).drew
  exact ⟨hp2.later hd, hs2.later hd, fun v g l h hg => (ht v g l h hg).later hd, hb2.drew⟩

theorem sStampHead_w (s : ByteArray) (xa : Option Addr) (c g : Nat) (x : Hd) (w : World) (hs : s.size ≤ 100) (hv : SS w (.slice xa 16 c) g 0 (poolL s)) :
    Calls Tryd.prog 56 #[.string s, .slice xa 16 c, .agg #[.int .i64 x.h, .int .i64 x.e, .string x.r, .string x.p]] w fun e w' => ∃ (a : Int) (a1 a2 a3 : Option Addr) (c1 c2 c3 g1 g2 g3 : Nat) (o q d : List ByteArray) (b : Bool), e = .returned (.tuple #[.agg #[.int .i64 a, .slice a1 o.length c1, .slice a2 q.length c2, .slice a3 d.length c3], .bool b]) ∧ (SS w' (.slice a1 o.length c1) g1 0 o ∧ SS w' (.slice a2 q.length c2) g2 0 q ∧ SS w' (.slice a3 d.length c3) g3 0 d) ∧ ((a1 = none → c1 = 0) ∧ (a2 = none → c2 = 0) ∧ (a3 = none → c3 = 0)) ∧ (o.length ≤ 1000 ∧ q.length ≤ 1000 ∧ d.length ≤ 1000) ∧ Below w.heap.size w w' := by
  cases hk : HV.okH x
  · refine (sStampHead_no _ _ x w hk).mono ?_
    rintro e w' ⟨rfl, hb⟩
    have h0 : SS w' (.slice none 0 0) 0 0 [] := (TS.nil w' 0).ss
    exact ⟨0, none, none, none, 0, 0, 0, 0, 0, 0, [], [], [], false, rfl, ⟨h0, h0, h0⟩, ⟨fun _ => rfl, fun _ => rfl, fun _ => rfl⟩, ⟨by simp, by simp, by simp⟩, hb⟩
  · refine (sStampHead_any s xa 16 c g 0 (poolL s) x w hs (poolL_len s) (by omega) hv).mono ?_
    rintro e w' ⟨vS, rfl, hsi, hb⟩
    obtain ⟨⟨h1, h2⟩, ⟨h3, h4⟩, _⟩ := HV.okH_iff.1 hk
    obtain ⟨ep, hep⟩ : ∃ ep : Nat, stampP x.h x.e = (ep : Int) ∧ ep ≤ 15 := ⟨(4 * (x.h + 1) + x.e - 1).toNat, by unfold stampP; split <;> omega, by omega⟩
    have hf := (signed_facts s (stampT x) ep hs (by have := stampT_le x; omega) hep.2).1
    unfold thA thO thS thD sgAt sgO sgS sgD at hsi
    rw [hk] at hsi
    simp only [if_true, hep.1, hf] at hsi
    obtain ⟨v1, v2, v3, g1, g2, g3, rfl, ⟨t1, t2, t3⟩, _, _⟩ := hsi
    have s1 := t1.ss
    have s2 := t2.ss
    have s3 := t3.ss
    obtain ⟨a1, c1, rfl, _, q1⟩ := t1
    obtain ⟨a2, c2, rfl, _, q2⟩ := t2
    obtain ⟨a3, c3, rfl, _, q3⟩ := t3
    refine ⟨_, a1, a2, a3, c1, c2, c3, g1, g2, g3, _, _, _, _, rfl, ⟨s1, s2, s3⟩, ⟨fun h => ?_, fun h => ?_, fun h => ?_⟩, ?_, hb⟩
    · exact absurd (q1 (by rw [opN_len]; omega)).1 (by rw [h]; simp)
    · exact absurd (q2 (by rw [shN_len]; omega)).1 (by rw [h]; simp)
    · exact absurd (q3 (by rw [sdN_len]; omega)).1 (by rw [h]; simp)
    · rw [opN_len, shN_len, sdN_len]; omega

set_option maxRecDepth 100000 in
set_option maxHeartbeats 2000000 in
theorem DrawStampOk_any (w : World) (v : Value) (hc : Code w.heap.size w v) :
    Calls Tryd.prog 24 #[v] w fun e w' => ∃ (R : ByteArray) (x : Hd) (a : Int) (v1 v2 v3 : Value) (g1 g2 g3 : Nat) (o s d : List ByteArray), e = .returned (.tuple #[.string R, .agg #[.int .i64 x.h, .int .i64 x.e, .string x.r, .string x.p], .agg #[.int .i64 a, v1, v2, v3]]) ∧ (SS w' v1 g1 0 o ∧ SS w' v2 g2 0 s ∧ SS w' v3 g3 0 d) ∧ Below w.heap.size w w' := by
  have HBZ : Hid (Below w.heap.size w ((w.alloc (.cells #[.int .i64 0, .int .i64 0, .string ⟨#[]⟩, .string ⟨#[]⟩] 25)).alloc (.cells zSig 28)) ∧ BH ((w.alloc (.cells #[.int .i64 0, .int .i64 0, .string ⟨#[]⟩, .string ⟨#[]⟩] 25)).alloc (.cells zSig 28)) w.heap.size ⟨0, 0, ⟨#[]⟩, ⟨#[]⟩⟩ ∧ SgM ((w.alloc (.cells #[.int .i64 0, .int .i64 0, .string ⟨#[]⟩, .string ⟨#[]⟩] 25)).alloc (.cells zSig 28)) (w.heap.size + 1) 0 (.slice none 0 0) (.slice none 0 0) (.slice none 0 0)) :=
    ⟨((Below.refl _ _).alloc (Nat.le_refl _) _).alloc (by simp) _, (BH.new w ⟨0, 0, ⟨#[]⟩, ⟨#[]⟩⟩).later ((Below.refl _ _).alloc (Nat.le_refl _) _), alloc_fst _ _ (by simp)⟩
  have hcz : Code ((w.alloc (.cells #[.int .i64 0, .int .i64 0, .string ⟨#[]⟩, .string ⟨#[]⟩] 25)).alloc (.cells zSig 28)).heap.size ((w.alloc (.cells #[.int .i64 0, .int .i64 0, .string ⟨#[]⟩, .string ⟨#[]⟩] 25)).alloc (.cells zSig 28)) v := code_later hc HBZ.out.1
  clear hc
  have HZ : Hid (∀ W, Below ((w.alloc (.cells #[.int .i64 0, .int .i64 0, .string ⟨#[]⟩, .string ⟨#[]⟩] 25)).alloc (.cells zSig 28)).heap.size ((w.alloc (.cells #[.int .i64 0, .int .i64 0, .string ⟨#[]⟩, .string ⟨#[]⟩] 25)).alloc (.cells zSig 28)) W → Below w.heap.size w W ∧ BH W w.heap.size ⟨0, 0, ⟨#[]⟩, ⟨#[]⟩⟩ ∧ SgM W (w.heap.size + 1) 0 (.slice none 0 0) (.slice none 0 0) (.slice none 0 0)) := fun W hW => ⟨HBZ.out.1.trans (hW.mono HBZ.out.1.size), HBZ.out.2.1.later hW, HBZ.out.2.2.later hW⟩
  have hw0 : ((w.alloc (.cells #[.int .i64 0, .int .i64 0, .string ⟨#[]⟩, .string ⟨#[]⟩] 25)).alloc (.cells zSig 28)).heap.size = w.heap.size + 2 := by simp
  clear HBZ
  go_enter Tryd.func24, Tryd.ntmps24
  go_wp2_with fail
  refine (l01New_in _ v hcz).mono ?_
  clear hcz
  generalize ((w.alloc (.cells #[.int .i64 0, .int .i64 0, .string ⟨#[]⟩, .string ⟨#[]⟩] 25)).alloc (.cells zSig 28)) = wa at *
  rintro e w1 ⟨g, rfl, hc1, hb1⟩
  go_wp2_with fail
  refine (l01Below_in _ _ _ g v 8 8 rfl hc1 (by omega) (by omega)).mono ?_
  rintro e w2 ⟨k, hk, rfl, hc2, hg2⟩
  clear hc1 hb1 hg2
  go_wp2_with fail
  refine (l13Head_in _ _ _ g v hc2).mono ?_
  rintro e w3 ⟨X, rfl, hxr, hxp, hc3, hg3⟩
  clear hc2 hg3
  have hc3a : Cur wa.heap.size wa (w3.alloc (.cells #[.int .i64 X.h, .int .i64 X.e, .string X.r, .string X.p] 25)) g v := hc3.kept (World.grownBy_alloc w3 _ none) (by simp) hc3.size (fun k hk => by cases hk)
  have HH3 : Hid (BH (w3.alloc (.cells #[.int .i64 X.h, .int .i64 X.e, .string X.r, .string X.p] 25)) w3.heap.size X ∧ wa.heap.size ≤ w3.heap.size ∧ g < w3.heap.size) := ⟨BH.new w3 X, hc3.size, hc3.lt⟩
  clear hc3
  go_wp2_with fail
  refine (l01Below_in _ _ _ g v 3 3 rfl hc3a (by omega) (by omega)).mono ?_
  rintro e w4 ⟨kk, hkk, rfl, hc4, hg4⟩
  have HH4 : Hid (BH w4 w3.heap.size X ∧ wa.heap.size ≤ w3.heap.size ∧ g < w3.heap.size) := ⟨HH3.out.1.grown hg4 (by have := HH3.out.2.2; simp; omega), HH3.out.2⟩
  clear hc3a HH3 hg4
  go_wp2_with fail
  refine (l14Seed_any kk _ hkk).mono ?_
  rintro e w5 ⟨rfl, hb5⟩
  have hc5 : Cur wa.heap.size wa w5 g v := hc4.kept (grown_belowH (row := none) hb5) (by simp) hc4.size (fun k hk => by cases hk)
  have HH5 : Hid (BH w5 w3.heap.size X ∧ wa.heap.size ≤ w3.heap.size ∧ g < w3.heap.size) := ⟨HH4.out.1.later hb5, HH4.out.2⟩
  have hsz := seedB_size kk
  clear hc4 HH4 hb5
  go_wp2_with fail
  refine (sPoolOf_any (seedB kk) _ (by omega)).mono ?_
  rintro e w6 ⟨vp, rfl, hos⟩
  obtain ⟨qp, hq⟩ := hos.ss (by rw [poolL_len]; omega)
  have hc6 : Cur wa.heap.size wa w6 g v := hc5.kept (grown_belowH (row := none) hos.2.1) (by simp) hc5.size (fun k hk => by cases hk)
  have HH6 : Hid (BH w6 w3.heap.size X ∧ wa.heap.size ≤ w3.heap.size ∧ g < w3.heap.size) := ⟨HH5.out.1.later hos.2.1, HH5.out.2⟩
  obtain ⟨xp, cp, rfl⟩ : ∃ xp cp, vp = .slice xp 16 cp := by
    obtain ⟨x', c', hv, _⟩ := id hq
    exact ⟨x', c', by rw [hv, poolL_len]⟩
  have HQ : Hid (SS w6 (.slice xp 16 cp) qp 0 (poolL (seedB kk))) := hq
  have hSH := sStampHead_w (seedB kk) xp cp qp X w6 (by omega) hq
  clear hc5 HH5 hos hq
  have y0 := HH6.out.1.c0
  have y1 := HH6.out.1.c1
  have y2 := HH6.out.1.c2
  have y3 := HH6.out.1.c3
  go_wp2_with fail
  refine hSH.mono ?_
  rintro e w7 ⟨a, a1, a2, a3, c1, c2, c3, g1, g2, g3, o, q, d, b, rfl, ⟨s1, s2, s3⟩, ⟨n1, n2, n3⟩, ⟨l1, l2, l3⟩, hb7⟩
  have hba : Below w7.heap.size w7 (w7.alloc (.cells #[.int .i64 a, .slice a1 o.length c1, .slice a2 q.length c2, .slice a3 d.length c3] 28)) := (Below.refl _ _).alloc (Nat.le_refl _) _
  have hLC := l05Copy_any a a1 a2 a3 c1 c2 c3 g1 g2 g3 o q d (w7.alloc (.cells #[.int .i64 a, .slice a1 o.length c1, .slice a2 q.length c2, .slice a3 d.length c3] 28)) (s1.below hba s1.lt) (s2.below hba s2.lt) (s3.below hba s3.lt) n1 n2 n3 l1 l2 l3
  have HS7 : Hid (SgM (w7.alloc (.cells #[.int .i64 a, .slice a1 o.length c1, .slice a2 q.length c2, .slice a3 d.length c3] 28)) w7.heap.size a (.slice a1 o.length c1) (.slice a2 q.length c2) (.slice a3 d.length c3)) := SgM.new w7 a _ _ _
  have hz7 : (w7.alloc (.cells #[.int .i64 a, .slice a1 o.length c1, .slice a2 q.length c2, .slice a3 d.length c3] 28)).heap.size = w7.heap.size + 1 := by simp
  have hb67 : Below w6.heap.size w6 (w7.alloc (.cells #[.int .i64 a, .slice a1 o.length c1, .slice a2 q.length c2, .slice a3 d.length c3] 28)) := hb7.trans (hba.mono hb7.size)
  have HB67 : Hid (Below w6.heap.size w6 (w7.alloc (.cells #[.int .i64 a, .slice a1 o.length c1, .slice a2 q.length c2, .slice a3 d.length c3] 28)) ∧ w6.heap.size ≤ w7.heap.size) := ⟨hb67, hb7.size⟩
  clear s1 s2 s3 n1 n2 n3 hba hb67 hb7 hSH y0 y1 y2 y3
  have y0 := HS7.out.c0
  have y1 := HS7.out.c1
  have y2 := HS7.out.c2
  have y3 := HS7.out.c3
  go_wp2_with fail
  refine hLC.mono ?_
  rintro e w8 ⟨f, k1, k2, k3, q1, q2, q3, rfl, hR, e1, e2, e3⟩
  clear hLC y0 y1 y2 y3
  have HS8 : Hid (SgM w8 w7.heap.size a (.slice a1 o.length c1) (.slice a2 q.length c2) (.slice a3 d.length c3)) := HS7.out.later hR.1
  obtain ⟨m1, t1, b1⟩ := (hR.os 1 e1).ts (by omega)
  obtain ⟨m2, t2, b2⟩ := (hR.os 2 e2).ts (by omega)
  obtain ⟨m3, t3, b3⟩ := (hR.os 3 e3).ts (by omega)
  have HT8 : Hid ((TS w8 (.slice (some ⟨k1, 0, none⟩) o.length q1) m1 o ∧ TS w8 (.slice (some ⟨k2, 0, none⟩) q.length q2) m2 q ∧ TS w8 (.slice (some ⟨k3, 0, none⟩) d.length q3) m3 d) ∧ w7.heap.size < m1 ∧ w7.heap.size < m2 ∧ w7.heap.size < m3) := ⟨⟨t1, t2, t3⟩, by omega, by omega, by omega⟩
  have HB68 : Hid (Below w6.heap.size w6 w8) := HB67.out.1.trans (hR.1.mono HB67.out.1.size)
  clear hR e1 e2 e3 t1 t2 t3 b1 b2 b3 HS7 hz7
  go_wp2_with (first | (refine wp_storeSig rfl _ _ rfl w7.heap.size a a _ _ _ _ _ _ HS8.out rfl rfl rfl rfl rfl ?_; intro hst) | fail)
  have hg9 := grown_setRS w8 w7.heap.size #[.int .i64 a, .slice (some ⟨k1, 0, none⟩) o.length q1, .slice (some ⟨k2, 0, none⟩) q.length q2, .slice (some ⟨k3, 0, none⟩) d.length q3]
  have HT9 : Hid ((TS (w8.setRow w7.heap.size #[.int .i64 a, .slice (some ⟨k1, 0, none⟩) o.length q1, .slice (some ⟨k2, 0, none⟩) q.length q2, .slice (some ⟨k3, 0, none⟩) d.length q3]) (.slice (some ⟨k1, 0, none⟩) o.length q1) m1 o ∧ TS (w8.setRow w7.heap.size #[.int .i64 a, .slice (some ⟨k1, 0, none⟩) o.length q1, .slice (some ⟨k2, 0, none⟩) q.length q2, .slice (some ⟨k3, 0, none⟩) d.length q3]) (.slice (some ⟨k2, 0, none⟩) q.length q2) m2 q ∧ TS (w8.setRow w7.heap.size #[.int .i64 a, .slice (some ⟨k1, 0, none⟩) o.length q1, .slice (some ⟨k2, 0, none⟩) q.length q2, .slice (some ⟨k3, 0, none⟩) d.length q3]) (.slice (some ⟨k3, 0, none⟩) d.length q3) m3 d) ∧ w7.heap.size < m1 ∧ w7.heap.size < m2 ∧ w7.heap.size < m3) := by
    obtain ⟨⟨t1, t2, t3⟩, b1, b2, b3⟩ := HT8.out
    exact ⟨⟨t1.keptG hg9 (fun _ => by simp; omega), t2.keptG hg9 (fun _ => by simp; omega), t3.keptG hg9 (fun _ => by simp; omega)⟩, b1, b2, b3⟩
  have HB69 : Hid (Below w6.heap.size w6 (w8.setRow w7.heap.size #[.int .i64 a, .slice (some ⟨k1, 0, none⟩) o.length q1, .slice (some ⟨k2, 0, none⟩) q.length q2, .slice (some ⟨k3, 0, none⟩) d.length q3])) := below_setRL HB68.out HB67.out.2 HB68.out.size _
  have HR9 := hide hst
  clear hst hg9 HT8 HB68 HS8
  generalize w8.setRow w7.heap.size #[.int .i64 a, .slice (some ⟨k1, 0, none⟩) o.length q1, .slice (some ⟨k2, 0, none⟩) q.length q2, .slice (some ⟨k3, 0, none⟩) d.length q3] = w9 at *
  have hc9 : Cur wa.heap.size wa w9 g v := hc6.kept (grown_belowH (row := none) HB69.out) (by simp) hc6.size (fun k hk => by cases hk)
  have hPR := sPoolRoot_any (.slice xp 16 cp) qp 0 (poolL (seedB kk)) w9 (HQ.out.below HB69.out HQ.out.lt)
  have HH9 : Hid (BH w9 w3.heap.size X ∧ wa.heap.size ≤ w3.heap.size ∧ w3.heap.size < w7.heap.size) := ⟨HH6.out.1.later HB69.out, HH6.out.2.1, Nat.lt_of_lt_of_le HH6.out.1.lt HB67.out.2⟩
  generalize rootA (poolL (seedB kk)) = R at *
  have HHG : Hid (g < w3.heap.size) := HH6.out.2.2
  clear hc6 HH6 HQ HB67 HB69
  refine hPR.mono ?_
  rintro e w10 ⟨rfl, hb10⟩
  have hc10 : Cur wa.heap.size wa w10 g v := hc9.kept (grown_belowH (row := none) hb10) (by simp) hc9.size (fun k hk => by cases hk)
  have HX : Hid (Below wa.heap.size wa w10 ∧ BH w10 w3.heap.size X ∧ SgM w10 w7.heap.size a (.slice (some ⟨k1, 0, none⟩) o.length q1) (.slice (some ⟨k2, 0, none⟩) q.length q2) (.slice (some ⟨k3, 0, none⟩) d.length q3) ∧ (TS w10 (.slice (some ⟨k1, 0, none⟩) o.length q1) m1 o ∧ TS w10 (.slice (some ⟨k2, 0, none⟩) q.length q2) m2 q ∧ TS w10 (.slice (some ⟨k3, 0, none⟩) d.length q3) m3 d) ∧ w7.heap.size < m1 ∧ w7.heap.size < m2 ∧ w7.heap.size < m3) := by
    obtain ⟨⟨t1, t2, t3⟩, b1, b2, b3⟩ := HT9.out
    exact ⟨hc10.2.1, HH9.out.1.later hb10, HR9.out.later hb10, ⟨t1.later hb10, t2.later hb10, t3.later hb10⟩, b1, b2, b3⟩
  have HN : Hid (wa.heap.size ≤ w3.heap.size ∧ w3.heap.size < w7.heap.size) := HH9.out.2
  have HG : Hid (g < w3.heap.size) := HHG.out
  clear hc9 HH9 HR9 HT9 hPR hb10
  have hkk : k = 0 ∨ k = 1 ∨ k = 2 ∨ (¬ (k : Int) = 0 ∧ ¬ (k : Int) = 1 ∧ ¬ (k : Int) = 2) := by omega
  rcases hkk with rfl | rfl | rfl | ⟨p0, p1, p2⟩
  · have hLG := l01Long_in 16 16 97 97 w10 rfl rfl (by omega)
    clear hc10
    go_wp2_with fail
    refine hLG.mono ?_
    rintro e w11 ⟨rfl, hb11⟩
    have HX2 : Hid (Below wa.heap.size wa w11 ∧ BH w11 w3.heap.size X ∧ SgM w11 w7.heap.size a (.slice (some ⟨k1, 0, none⟩) o.length q1) (.slice (some ⟨k2, 0, none⟩) q.length q2) (.slice (some ⟨k3, 0, none⟩) d.length q3) ∧ (TS w11 (.slice (some ⟨k1, 0, none⟩) o.length q1) m1 o ∧ TS w11 (.slice (some ⟨k2, 0, none⟩) q.length q2) m2 q ∧ TS w11 (.slice (some ⟨k3, 0, none⟩) d.length q3) m3 d) ∧ w7.heap.size < m1 ∧ w7.heap.size < m2 ∧ w7.heap.size < m3) := by
      obtain ⟨b0, b1, b2, ⟨t1, t2, t3⟩, b3⟩ := HX.out
      exact ⟨b0.trans (hb11.mono b0.size), b1.later hb11, b2.later hb11, ⟨t1.later hb11, t2.later hb11, t3.later hb11⟩, b3⟩
    clear HX hLG hb11
    have HX := HX2
    clear HX2
    have z0 := (HZ.out _ HX.out.1).2.1.c0
    have z1 := (HZ.out _ HX.out.1).2.1.c1
    have z2 := (HZ.out _ HX.out.1).2.1.c2
    have z3 := (HZ.out _ HX.out.1).2.1.c3
    have f0 := (HZ.out _ HX.out.1).2.1.fz 0
    have f1 := (HZ.out _ HX.out.1).2.1.fz 1
    have f2 := (HZ.out _ HX.out.1).2.1.fz 2
    have f3 := (HZ.out _ HX.out.1).2.1.fz 3
    have u0 := (HZ.out _ HX.out.1).2.2.c0
    have u1 := (HZ.out _ HX.out.1).2.2.c1
    have u2 := (HZ.out _ HX.out.1).2.2.c2
    have u3 := (HZ.out _ HX.out.1).2.2.c3
    have r0 := (HZ.out _ HX.out.1).2.2.fr 0
    have r1 := (HZ.out _ HX.out.1).2.2.fr 1
    have r2 := (HZ.out _ HX.out.1).2.2.fr 2
    have r3 := (HZ.out _ HX.out.1).2.2.fr 3
    have y0 := HX.out.2.1.c0
    have y1 := HX.out.2.1.c1
    have y2 := HX.out.2.1.c2
    have y3 := HX.out.2.1.c3
    have x0 := HX.out.2.2.1.c0
    have x1 := HX.out.2.2.1.c1
    have x2 := HX.out.2.2.1.c2
    have x3 := HX.out.2.2.1.c3
    simp only at z0 z1 z2 z3 u0 u1 u2 u3 y0 y1 y2 y3 x0 x1 x2 x3
    have ne1 : w3.heap.size ≠ w.heap.size := by have := HN.out; omega
    have ne2 : w3.heap.size ≠ w.heap.size + 1 := by have := HN.out; omega
    have ne3 : w7.heap.size ≠ w.heap.size := by have := HN.out; omega
    have ne4 : w7.heap.size ≠ w.heap.size + 1 := by have := HN.out; omega
    go_wp2_with fail
    have HE := hide (dst_end (X := X) (a := a) (v1 := .slice (some ⟨k1, 0, none⟩) o.length q1) (v2 := .slice (some ⟨k2, 0, none⟩) q.length q2) (v3 := .slice (some ⟨k3, 0, none⟩) d.length q3) (HZ.out _ HX.out.1).1 (HZ.out _ HX.out.1).2.1 (HZ.out _ HX.out.1).2.2)
    have HM : Hid (w.heap.size + 1 < m1 ∧ w.heap.size + 1 < m2 ∧ w.heap.size + 1 < m3) := by
      obtain ⟨_, _, _, _, b1, b2, b3⟩ := HX.out
      have := HN.out
      exact ⟨by omega, by omega, by omega⟩
    have HTT := hide HX.out.2.2.2.1
    clear HX HN HZ
    go_region
    go_wp2
    exact ret_shs 2 3 4 w.heap.size (w.heap.size + 1) _ X a _ _ _ rfl rfl rfl rfl rfl HE.out.1 HE.out.2.1 ⟨_, X, _, _, _, _, m1, m2, m3, o, q, d, rfl, ⟨(HE.out.2.2.1 _ _ _ HTT.out.1 HM.out.1).ss, (HE.out.2.2.1 _ _ _ HTT.out.2.1 HM.out.2.1).ss, (HE.out.2.2.1 _ _ _ HTT.out.2.2 HM.out.2.2).ss⟩, HE.out.2.2.2⟩
  · have s0 := HX.out.2.2.1.c0
    have sf := HX.out.2.2.1.fr 0
    have HX2 : Hid (Below wa.heap.size wa (w10.setCell ⟨w7.heap.size, 0, none⟩ (.int .i64 (wrap64 (a + 1)))) ∧ BH (w10.setCell ⟨w7.heap.size, 0, none⟩ (.int .i64 (wrap64 (a + 1)))) w3.heap.size X ∧ SgM (w10.setCell ⟨w7.heap.size, 0, none⟩ (.int .i64 (wrap64 (a + 1)))) w7.heap.size (wrap64 (a + 1)) (.slice (some ⟨k1, 0, none⟩) o.length q1) (.slice (some ⟨k2, 0, none⟩) q.length q2) (.slice (some ⟨k3, 0, none⟩) d.length q3) ∧ (TS (w10.setCell ⟨w7.heap.size, 0, none⟩ (.int .i64 (wrap64 (a + 1)))) (.slice (some ⟨k1, 0, none⟩) o.length q1) m1 o ∧ TS (w10.setCell ⟨w7.heap.size, 0, none⟩ (.int .i64 (wrap64 (a + 1)))) (.slice (some ⟨k2, 0, none⟩) q.length q2) m2 q ∧ TS (w10.setCell ⟨w7.heap.size, 0, none⟩ (.int .i64 (wrap64 (a + 1)))) (.slice (some ⟨k3, 0, none⟩) d.length q3) m3 d) ∧ w7.heap.size < m1 ∧ w7.heap.size < m2 ∧ w7.heap.size < m3) := by
      obtain ⟨b0, b1, b2, ⟨t1, t2, t3⟩, b3⟩ := HX.out
      have hn := HN.out
      have hg := grown_setC w10 w7.heap.size 0 (.int .i64 (wrap64 (a + 1)))
      exact ⟨b0.setCell (p := ⟨w7.heap.size, 0, none⟩) (by show wa.heap.size ≤ w7.heap.size; omega) _, b1.grown hg (by simp; omega), heap_setCell_same w10 w7.heap.size 0 _ _ _ b2, ⟨t1.keptG hg (fun _ => by simp; omega), t2.keptG hg (fun _ => by simp; omega), t3.keptG hg (fun _ => by simp; omega)⟩, b3⟩
    clear hc10
    have HXo := HX
    clear HX
    have HX := HX2
    clear HX2
    have z0 := (HZ.out _ HX.out.1).2.1.c0
    have z1 := (HZ.out _ HX.out.1).2.1.c1
    have z2 := (HZ.out _ HX.out.1).2.1.c2
    have z3 := (HZ.out _ HX.out.1).2.1.c3
    have f0 := (HZ.out _ HX.out.1).2.1.fz 0
    have f1 := (HZ.out _ HX.out.1).2.1.fz 1
    have f2 := (HZ.out _ HX.out.1).2.1.fz 2
    have f3 := (HZ.out _ HX.out.1).2.1.fz 3
    have u0 := (HZ.out _ HX.out.1).2.2.c0
    have u1 := (HZ.out _ HX.out.1).2.2.c1
    have u2 := (HZ.out _ HX.out.1).2.2.c2
    have u3 := (HZ.out _ HX.out.1).2.2.c3
    have r0 := (HZ.out _ HX.out.1).2.2.fr 0
    have r1 := (HZ.out _ HX.out.1).2.2.fr 1
    have r2 := (HZ.out _ HX.out.1).2.2.fr 2
    have r3 := (HZ.out _ HX.out.1).2.2.fr 3
    have y0 := HX.out.2.1.c0
    have y1 := HX.out.2.1.c1
    have y2 := HX.out.2.1.c2
    have y3 := HX.out.2.1.c3
    have x0 := HX.out.2.2.1.c0
    have x1 := HX.out.2.2.1.c1
    have x2 := HX.out.2.2.1.c2
    have x3 := HX.out.2.2.1.c3
    simp only at z0 z1 z2 z3 u0 u1 u2 u3 y0 y1 y2 y3 x0 x1 x2 x3
    have ne1 : w3.heap.size ≠ w.heap.size := by have := HN.out; omega
    have ne2 : w3.heap.size ≠ w.heap.size + 1 := by have := HN.out; omega
    have ne3 : w7.heap.size ≠ w.heap.size := by have := HN.out; omega
    have ne4 : w7.heap.size ≠ w.heap.size + 1 := by have := HN.out; omega
    go_wp2_with fail
    have HE := hide (dst_end (X := X) (a := (wrap64 (a + 1))) (v1 := .slice (some ⟨k1, 0, none⟩) o.length q1) (v2 := .slice (some ⟨k2, 0, none⟩) q.length q2) (v3 := .slice (some ⟨k3, 0, none⟩) d.length q3) (HZ.out _ HX.out.1).1 (HZ.out _ HX.out.1).2.1 (HZ.out _ HX.out.1).2.2)
    have HM : Hid (w.heap.size + 1 < m1 ∧ w.heap.size + 1 < m2 ∧ w.heap.size + 1 < m3) := by
      obtain ⟨_, _, _, _, b1, b2, b3⟩ := HX.out
      have := HN.out
      exact ⟨by omega, by omega, by omega⟩
    have HTT := hide HX.out.2.2.2.1
    clear HX HN HZ
    go_region
    go_wp2
    exact ret_shs 2 3 4 w.heap.size (w.heap.size + 1) _ X (wrap64 (a + 1)) _ _ _ rfl rfl rfl rfl rfl HE.out.1 HE.out.2.1 ⟨_, X, _, _, _, _, m1, m2, m3, o, q, d, rfl, ⟨(HE.out.2.2.1 _ _ _ HTT.out.1 HM.out.1).ss, (HE.out.2.2.1 _ _ _ HTT.out.2.1 HM.out.2.1).ss, (HE.out.2.2.1 _ _ _ HTT.out.2.2 HM.out.2.2).ss⟩, HE.out.2.2.2⟩
  · have HC10 : Hid (Cur wa.heap.size wa w10 g v) := hc10
    clear hc10
    go_wp2_with fail
    refine (l13Root_in _ _ _ g v HC10.out).mono ?_
    rintro e w11 ⟨r, hr, rfl, hc11, hg11⟩
    have hgl := HC10.out.lt
    have HX2 : Hid (Below wa.heap.size wa w11 ∧ BH w11 w3.heap.size X ∧ SgM w11 w7.heap.size a (.slice (some ⟨k1, 0, none⟩) o.length q1) (.slice (some ⟨k2, 0, none⟩) q.length q2) (.slice (some ⟨k3, 0, none⟩) d.length q3) ∧ (TS w11 (.slice (some ⟨k1, 0, none⟩) o.length q1) m1 o ∧ TS w11 (.slice (some ⟨k2, 0, none⟩) q.length q2) m2 q ∧ TS w11 (.slice (some ⟨k3, 0, none⟩) d.length q3) m3 d) ∧ w7.heap.size < m1 ∧ w7.heap.size < m2 ∧ w7.heap.size < m3) := by
      obtain ⟨b0, b1, b2, ⟨t1, t2, t3⟩, b3⟩ := HX.out
      have hn := HG.out
      have hn2 := HN.out
      exact ⟨hc11.2.1, b1.grown hg11 (by simp; omega), b2.keptG hg11 (by simp; omega), ⟨t1.keptG hg11 (fun _ => by simp; omega), t2.keptG hg11 (fun _ => by simp; omega), t3.keptG hg11 (fun _ => by simp; omega)⟩, b3⟩
    clear HX HC10 hc11 hg11
    have h2 := HX2.out.2.1.c2
    have hf := HX2.out.2.1.fz 2
    have HX3 : Hid (Below wa.heap.size wa (w11.setCell ⟨w3.heap.size, 2, none⟩ (.string r)) ∧ BH (w11.setCell ⟨w3.heap.size, 2, none⟩ (.string r)) w3.heap.size ⟨X.h, X.e, r, X.p⟩ ∧ SgM (w11.setCell ⟨w3.heap.size, 2, none⟩ (.string r)) w7.heap.size a (.slice (some ⟨k1, 0, none⟩) o.length q1) (.slice (some ⟨k2, 0, none⟩) q.length q2) (.slice (some ⟨k3, 0, none⟩) d.length q3) ∧ (TS (w11.setCell ⟨w3.heap.size, 2, none⟩ (.string r)) (.slice (some ⟨k1, 0, none⟩) o.length q1) m1 o ∧ TS (w11.setCell ⟨w3.heap.size, 2, none⟩ (.string r)) (.slice (some ⟨k2, 0, none⟩) q.length q2) m2 q ∧ TS (w11.setCell ⟨w3.heap.size, 2, none⟩ (.string r)) (.slice (some ⟨k3, 0, none⟩) d.length q3) m3 d) ∧ w7.heap.size < m1 ∧ w7.heap.size < m2 ∧ w7.heap.size < m3) := by
      obtain ⟨b0, b1, b2, ⟨t1, t2, t3⟩, b3⟩ := HX2.out
      have hn := HN.out
      have hg := grown_setC w11 w3.heap.size 2 (.string r)
      exact ⟨b0.setCell (p := ⟨w3.heap.size, 2, none⟩) hn.1 _, b1.set2 r, b2.keptG hg (by simp; omega), ⟨t1.keptG hg (fun _ => by simp; omega), t2.keptG hg (fun _ => by simp; omega), t3.keptG hg (fun _ => by simp; omega)⟩, b3⟩
    have HXo := HX2
    clear HX2
    have HX := HX3
    clear HX3
    have z0 := (HZ.out _ HX.out.1).2.1.c0
    have z1 := (HZ.out _ HX.out.1).2.1.c1
    have z2 := (HZ.out _ HX.out.1).2.1.c2
    have z3 := (HZ.out _ HX.out.1).2.1.c3
    have f0 := (HZ.out _ HX.out.1).2.1.fz 0
    have f1 := (HZ.out _ HX.out.1).2.1.fz 1
    have f2 := (HZ.out _ HX.out.1).2.1.fz 2
    have f3 := (HZ.out _ HX.out.1).2.1.fz 3
    have u0 := (HZ.out _ HX.out.1).2.2.c0
    have u1 := (HZ.out _ HX.out.1).2.2.c1
    have u2 := (HZ.out _ HX.out.1).2.2.c2
    have u3 := (HZ.out _ HX.out.1).2.2.c3
    have r0 := (HZ.out _ HX.out.1).2.2.fr 0
    have r1 := (HZ.out _ HX.out.1).2.2.fr 1
    have r2 := (HZ.out _ HX.out.1).2.2.fr 2
    have r3 := (HZ.out _ HX.out.1).2.2.fr 3
    have y0 := HX.out.2.1.c0
    have y1 := HX.out.2.1.c1
    have y2 := HX.out.2.1.c2
    have y3 := HX.out.2.1.c3
    have x0 := HX.out.2.2.1.c0
    have x1 := HX.out.2.2.1.c1
    have x2 := HX.out.2.2.1.c2
    have x3 := HX.out.2.2.1.c3
    simp only at z0 z1 z2 z3 u0 u1 u2 u3 y0 y1 y2 y3 x0 x1 x2 x3
    have ne1 : w3.heap.size ≠ w.heap.size := by have := HN.out; omega
    have ne2 : w3.heap.size ≠ w.heap.size + 1 := by have := HN.out; omega
    have ne3 : w7.heap.size ≠ w.heap.size := by have := HN.out; omega
    have ne4 : w7.heap.size ≠ w.heap.size + 1 := by have := HN.out; omega
    go_wp2_with fail
    have HE := hide (dst_end (X := ⟨X.h, X.e, r, X.p⟩) (a := a) (v1 := .slice (some ⟨k1, 0, none⟩) o.length q1) (v2 := .slice (some ⟨k2, 0, none⟩) q.length q2) (v3 := .slice (some ⟨k3, 0, none⟩) d.length q3) (HZ.out _ HX.out.1).1 (HZ.out _ HX.out.1).2.1 (HZ.out _ HX.out.1).2.2)
    have HM : Hid (w.heap.size + 1 < m1 ∧ w.heap.size + 1 < m2 ∧ w.heap.size + 1 < m3) := by
      obtain ⟨_, _, _, _, b1, b2, b3⟩ := HX.out
      have := HN.out
      exact ⟨by omega, by omega, by omega⟩
    have HTT := hide HX.out.2.2.2.1
    clear HX HN HZ
    go_region
    go_wp2
    exact ret_shs 2 3 4 w.heap.size (w.heap.size + 1) _ ⟨X.h, X.e, r, X.p⟩ a _ _ _ rfl rfl rfl rfl rfl HE.out.1 HE.out.2.1 ⟨_, ⟨X.h, X.e, r, X.p⟩, _, _, _, _, m1, m2, m3, o, q, d, rfl, ⟨(HE.out.2.2.1 _ _ _ HTT.out.1 HM.out.1).ss, (HE.out.2.2.1 _ _ _ HTT.out.2.1 HM.out.2.1).ss, (HE.out.2.2.1 _ _ _ HTT.out.2.2 HM.out.2.2).ss⟩, HE.out.2.2.2⟩
  · clear hc10
    have z0 := (HZ.out _ HX.out.1).2.1.c0
    have z1 := (HZ.out _ HX.out.1).2.1.c1
    have z2 := (HZ.out _ HX.out.1).2.1.c2
    have z3 := (HZ.out _ HX.out.1).2.1.c3
    have f0 := (HZ.out _ HX.out.1).2.1.fz 0
    have f1 := (HZ.out _ HX.out.1).2.1.fz 1
    have f2 := (HZ.out _ HX.out.1).2.1.fz 2
    have f3 := (HZ.out _ HX.out.1).2.1.fz 3
    have u0 := (HZ.out _ HX.out.1).2.2.c0
    have u1 := (HZ.out _ HX.out.1).2.2.c1
    have u2 := (HZ.out _ HX.out.1).2.2.c2
    have u3 := (HZ.out _ HX.out.1).2.2.c3
    have r0 := (HZ.out _ HX.out.1).2.2.fr 0
    have r1 := (HZ.out _ HX.out.1).2.2.fr 1
    have r2 := (HZ.out _ HX.out.1).2.2.fr 2
    have r3 := (HZ.out _ HX.out.1).2.2.fr 3
    have y0 := HX.out.2.1.c0
    have y1 := HX.out.2.1.c1
    have y2 := HX.out.2.1.c2
    have y3 := HX.out.2.1.c3
    have x0 := HX.out.2.2.1.c0
    have x1 := HX.out.2.2.1.c1
    have x2 := HX.out.2.2.1.c2
    have x3 := HX.out.2.2.1.c3
    simp only at z0 z1 z2 z3 u0 u1 u2 u3 y0 y1 y2 y3 x0 x1 x2 x3
    have ne1 : w3.heap.size ≠ w.heap.size := by have := HN.out; omega
    have ne2 : w3.heap.size ≠ w.heap.size + 1 := by have := HN.out; omega
    have ne3 : w7.heap.size ≠ w.heap.size := by have := HN.out; omega
    have ne4 : w7.heap.size ≠ w.heap.size + 1 := by have := HN.out; omega
    go_wp2_with fail
    have HE := hide (dst_end (X := X) (a := a) (v1 := .slice (some ⟨k1, 0, none⟩) o.length q1) (v2 := .slice (some ⟨k2, 0, none⟩) q.length q2) (v3 := .slice (some ⟨k3, 0, none⟩) d.length q3) (HZ.out _ HX.out.1).1 (HZ.out _ HX.out.1).2.1 (HZ.out _ HX.out.1).2.2)
    have HM : Hid (w.heap.size + 1 < m1 ∧ w.heap.size + 1 < m2 ∧ w.heap.size + 1 < m3) := by
      obtain ⟨_, _, _, _, b1, b2, b3⟩ := HX.out
      have := HN.out
      exact ⟨by omega, by omega, by omega⟩
    have HTT := hide HX.out.2.2.2.1
    clear HX HN HZ
    go_region
    go_wp2
    exact ret_shs 2 3 4 w.heap.size (w.heap.size + 1) _ X a _ _ _ rfl rfl rfl rfl rfl HE.out.1 HE.out.2.1 ⟨_, X, _, _, _, _, m1, m2, m3, o, q, d, rfl, ⟨(HE.out.2.2.1 _ _ _ HTT.out.1 HM.out.1).ss, (HE.out.2.2.1 _ _ _ HTT.out.2.1 HM.out.2.1).ss, (HE.out.2.2.1 _ _ _ HTT.out.2.2 HM.out.2.2).ss⟩, HE.out.2.2.2⟩

end Go.Proofs.YtaejeemjndmjcaaDoor
