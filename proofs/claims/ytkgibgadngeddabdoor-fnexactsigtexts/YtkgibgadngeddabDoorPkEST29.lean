/-
  Texts laid together: Sol, Stxl.
-/
import Derived.Test.YtkgibgadngeddabDoorPkEST24
import Derived.Test.YtkgibgadngeddabDoorPkEST28
/-
  The walk of the law FnExactSigOk: it answers true of every root, text and signature.
-/
namespace Go.Proofs.YtkgibgadngeddabDoor
open Go.RowKit Go.BigFrame
set_option linter.unusedVariables false

end Go.Proofs.YtkgibgadngeddabDoor
/-
  The walk of the law FnExactSigTexts: it answers true of every text and signature.
-/
namespace Go.Proofs.YtkgibgadngeddabDoor
open Go.RowKit Go.BigFrame
set_option linter.unusedVariables false

theorem BX.keptG3 {w w' : World} {p : Nat} {r1 r2 r3 : Option Nat} {i : Int} {v1 v2 v3 : Value} (h : BX w p i v1 v2 v3) (hg : Grown3 w w' r1 r2 r3) (h1 : some p ≠ r1) (h2 : some p ≠ r2) (h3 : some p ≠ r3) : BX w' p i v1 v2 v3 := by
  obtain ⟨wa, wb, ha, hb, hc⟩ := hg
  have l0 := h.lt
  have l1 := Nat.lt_of_lt_of_le l0 ha.size
  have l2 := Nat.lt_of_lt_of_le l1 hb.size
  unfold BX at *
  rw [hc.block p l2 h3, hb.block p l1 h2, ha.block p l0 h1, h]
theorem BX.keptG {w w' : World} {p : Nat} {r : Option Nat} {i : Int} {v1 v2 v3 : Value} (h : BX w p i v1 v2 v3) (hg : w.grownBy w' r) (h1 : some p ≠ r) : BX w' p i v1 v2 v3 := by
  have l0 := h.lt
  unfold BX at *
  rw [hg.block p l0 h1, h]

set_option maxRecDepth 100000 in
set_option maxHeartbeats 4000000 in
theorem sigTextsLaw_in (t : ByteArray) (ht : t.size ≤ 1048576) (i : Int) (a1 : Option Addr) (n1 k1 : Nat) (z1 : List ByteArray) (a2 : Option Addr) (n2 k2 : Nat) (z2 : List ByteArray) (a3 : Option Addr) (n3 k3 : Nat) (z3 : List ByteArray) (w : World) (h1 : IsRowS w a1 n1 k1 z1) (h2 : IsRowS w a2 n2 k2 z2) (h3 : IsRowS w a3 n3 k3 z3) (hT : Tb w) :
    Calls Tryd.prog 3 #[.string t, .agg #[.int .i64 i, .slice a1 n1 k1, .slice a2 n2 k2, .slice a3 n3 k3]] w fun e w' => e = .returned (.bool true) ∧ Below w.heap.size w w' := by
  have hB : Below w.heap.size w (w.alloc (.cells #[.int .i64 i, .slice a1 n1 k1, .slice a2 n2 k2, .slice a3 n3 k3] 24)) := (Below.refl _ _).alloc (Nat.le_refl _) _
  have HSZ := szSig_row i a1 a2 a3 n1 n2 n3 k1 k2 k3 z1 z2 z3 _ (h1.later hB) (h2.later hB) (h3.later hB)
  have HB : Hid (Below w.heap.size w (w.alloc (.cells #[.int .i64 i, .slice a1 n1 k1, .slice a2 n2 k2, .slice a3 n3 k3] 24)) ∧ BX (w.alloc (.cells #[.int .i64 i, .slice a1 n1 k1, .slice a2 n2 k2, .slice a3 n3 k3] 24)) w.heap.size i (.slice a1 n1 k1) (.slice a2 n2 k2) (.slice a3 n3 k3)) := ⟨hB, BX.new w _ _ _ _⟩
  have HR : Hid (IsRowS w a1 n1 k1 z1 ∧ IsRowS w a2 n2 k2 z2 ∧ IsRowS w a3 n3 k3 z3) := ⟨h1, h2, h3⟩
  have HT : Hid (Tb w) := hT
  clear h1 h2 h3 hB hT
  go_enter Tryd.func3, Tryd.ntmps3
  go_wp2_with fail
  refine HSZ.mono ?_
  rintro e w1 ⟨A, rfl, hb1, hA⟩
  have b1 := HB.out.1.trans (hb1.mono HB.out.1.size)
  by_cases hneg : A < 0
  · clear hA HSZ HR HB HT
    go_wp2
    go_ret
    exact ⟨rfl, b1⟩
  · obtain ⟨m1, m2, m3⟩ := hA (by omega)
    obtain ⟨g1, o1, O, lO, sO, _⟩ := ss_of_row HR.out.1 m1
    obtain ⟨g2, o2, S, lS, sS, _⟩ := ss_of_row HR.out.2.1 m2
    obtain ⟨g3, o3, D, lD, sD, _⟩ := ss_of_row HR.out.2.2 m3
    have HTO : Hid (∀ W, Below w.heap.size w W → Calls Tryd.prog 6 #[.agg #[.int .i64 i, .slice a1 n1 k1, .slice a2 n2 k2, .slice a3 n3 k3]] W fun e w' => ∃ v, e = .returned v ∧ SigIn w' W.heap.size v i O S D ∧ Below W.heap.size W w') := fun W hW =>
      toSig_any i _ _ _ g1 o1 g2 o2 g3 o3 O S D W (sO.below hW sO.lt) (sS.below hW sS.lt) (sD.below hW sD.lt)
    have HCI : Hid (∀ W u1 u2 u3 q1 q2 q3, Below w.heap.size w W → TS W u1 q1 O → TS W u2 q2 S → TS W u3 q3 D → Calls Tryd.prog 7 #[.string t, .agg #[.int .i64 i, u1, u2, u3]] W fun e w' => ∃ v g, e = .returned v ∧ TS w' v g (sigT t i O S D) ∧ W.heap.size ≤ g ∧ Below W.heap.size W w') := fun W u1 u2 u3 q1 q2 q3 hW x1 x2 x3 =>
      (SigTexts_any t i u1 u2 u3 q1 0 q2 0 q3 0 O S D W x1.ss x2.ss x3.ss (by omega) (HT.out.later hW)).mono fun e w' ⟨v, he, hos⟩ => by
        have := sigT_len t i O S D
        obtain ⟨g, hts, hg⟩ := hos.ts (by omega)
        exact ⟨v, g, he, hts, hg, hos.2.1⟩
    have HCS : Hid (∀ W u1 u2 u3 q1 q2 q3, TS W u1 q1 O → TS W u2 q2 S → TS W u3 q3 D → Calls Tryd.prog 5 #[.string t, .agg #[.int .i64 i, u1, u2, u3]] W fun e w' => ∃ v g, e = .returned v ∧ TS w' v g (sigT t i O S D) ∧ W.heap.size ≤ g ∧ Below W.heap.size W w') := fun W u1 u2 u3 q1 q2 q3 x1 x2 x3 =>
      (sSigTexts_any t i u1 u2 u3 q1 0 q2 0 q3 0 O S D W x1.ss x2.ss x3.ss (by omega)).mono fun e w' ⟨v, he, hos⟩ => by
        have := sigT_len t i O S D
        obtain ⟨g, hts, hg⟩ := hos.ts (by omega)
        exact ⟨v, g, he, hts, hg, hos.2.1⟩
    have hLL := sigT_len t i O S D
    generalize sigT t i O S D = L at *
    obtain ⟨n, hn⟩ : ∃ n, L.length = n := ⟨_, rfl⟩
    have HL : Hid (L.length = n) := hn
    rw [hn] at hLL
    have HX1 : Hid (BX w1 w.heap.size i (.slice a1 n1 k1) (.slice a2 n2 k2) (.slice a3 n3 k3) ∧ Below w.heap.size w w1) := ⟨HB.out.2.later hb1, b1⟩
    clear sO sS sD lO lS lD m1 m2 m3 hA HSZ HR HB hb1 b1 HT hn
    have hneg' : ¬ A < 0 := hneg
    go_wp2_with (refine wp_loadBox rfl _ rfl w.heap.size _ _ _ _ rfl HX1.out.1 ?_)
    refine (HTO.out _ HX1.out.2).mono ?_
    rintro e w2 ⟨v, rfl, ⟨v1, v2, v3, p1, p2, p3, rfl, ⟨t1, t2, t3⟩, _, _⟩, hb2⟩
    have hcS := HCS.out _ _ _ _ p1 p2 p3 t1 t2 t3
    have HX2 : Hid (BX w2 w.heap.size i (.slice a1 n1 k1) (.slice a2 n2 k2) (.slice a3 n3 k3) ∧ Below w.heap.size w w2) := ⟨HX1.out.1.later hb2, HX1.out.2.trans (hb2.mono HX1.out.2.size)⟩
    obtain ⟨y1, c1, rfl⟩ := t1.shape
    obtain ⟨y2, c2, rfl⟩ := t2.shape
    obtain ⟨y3, c3, rfl⟩ := t3.shape
    clear t1 t2 t3 hb2 HX1 HCS
    go_wp2_with fail
    refine hcS.mono ?_
    rintro e w3 ⟨vW, gW, rfl, tW, hgW, hb3⟩
    obtain ⟨yW, cW, hvW⟩ := tW.shape
    rw [HL.out] at hvW
    subst hvW
    have ltW := tW.lt
    have hbw3 := HX2.out.2.trans (hb3.mono HX2.out.2.size)
    have hwW : w.heap.size < w2.heap.size := HX2.out.1.lt
    have HX3 : Hid (BX w3 w.heap.size i (.slice a1 n1 k1) (.slice a2 n2 k2) (.slice a3 n3 k3) ∧ Below w.heap.size w w3 ∧ TS w3 (.slice yW n cW) gW L ∧ w.heap.size < gW ∧ (0 < n → gW < w3.heap.size) ∧ w.heap.size < w3.heap.size) := ⟨HX2.out.1.later hb3, hbw3, tW, by omega, fun h => ltW (by rw [HL.out]; exact h), by have := hb3.size; omega⟩
    clear hb3 HX2 hcS hbw3 tW ltW hgW hwW
    go_wp2_with (refine wp_loadBox rfl _ rfl w.heap.size _ _ _ _ rfl HX3.out.1 ?_)
    refine (HTO.out _ HX3.out.2.1).mono ?_
    rintro e w4 ⟨v, rfl, ⟨v1, v2, v3, p1, p2, p3, rfl, ⟨t1, t2, t3⟩, ⟨r1, r2, r3⟩, ⟨e12, e13, e23⟩⟩, hb4⟩
    have l1 := t1.lt
    have l2 := t2.lt
    have l3 := t3.lt
    obtain ⟨y1, c1, rfl⟩ := t1.shape
    obtain ⟨y2, c2, rfl⟩ := t2.shape
    obtain ⟨y3, c3, rfl⟩ := t3.shape
    have hb4' : Below w4.heap.size w4 (w4.alloc (.cells #[.int .i64 i, .slice y1 O.length c1, .slice y2 S.length c2, .slice y3 D.length c3] 27)) := (Below.refl _ _).alloc (Nat.le_refl _) _
    have b4 := HX3.out.2.1.trans (hb4.mono HX3.out.2.1.size)
    have HX4 : Hid (BX (w4.alloc (.cells #[.int .i64 i, .slice y1 O.length c1, .slice y2 S.length c2, .slice y3 D.length c3] 27)) w.heap.size i (.slice a1 n1 k1) (.slice a2 n2 k2) (.slice a3 n3 k3) ∧ Below w.heap.size w (w4.alloc (.cells #[.int .i64 i, .slice y1 O.length c1, .slice y2 S.length c2, .slice y3 D.length c3] 27)) ∧ WSg (w4.alloc (.cells #[.int .i64 i, .slice y1 O.length c1, .slice y2 S.length c2, .slice y3 D.length c3] 27)) w4.heap.size i (.slice y1 O.length c1) (.slice y2 S.length c2) (.slice y3 D.length c3) p1 p2 p3 O S D ∧ TS (w4.alloc (.cells #[.int .i64 i, .slice y1 O.length c1, .slice y2 S.length c2, .slice y3 D.length c3] 27)) (.slice yW n cW) gW L) :=
      ⟨(HX3.out.1.later hb4).later hb4', b4.trans (hb4'.mono b4.size), WSg.new w4 i _ _ _ p1 p2 p3 O S D t1 t2 t3, (HX3.out.2.2.1.later hb4).later hb4'⟩
    have hw4 := hb4.size
    obtain ⟨_, _, _, s1, s2, s3⟩ := HX3.out
    clear t1 t2 t3 hb4 hb4' b4 HX3
    go_wp2_with (refine wp_loadSig rfl _ rfl w4.heap.size _ _ _ _ rfl HX4.out.2.2.1.1 ?_)
    refine (HCI.out _ _ _ _ p1 p2 p3 HX4.out.2.1 HX4.out.2.2.1.2.1 HX4.out.2.2.1.2.2.1 HX4.out.2.2.1.2.2.2).mono ?_
    rintro e w5 ⟨vG, gG, rfl, tG, hgG, hb5⟩
    obtain ⟨yG, cG, hvG⟩ := tG.shape
    rw [HL.out] at hvG
    subst hvG
    have hgG' : w4.heap.size + 1 ≤ gG := by simpa using hgG
    have HQ : Hid ((gW ≠ gG ∨ n = 0) ∧ (w.heap.size ≠ gG ∧ w.heap.size < p1 ∧ w.heap.size < p2 ∧ w.heap.size < p3) ∧ (0 < n → gW ≠ p1 ∧ gW ≠ p2 ∧ gW ≠ p3) ∧ ((0 < O.length → gG ≠ p1) ∧ (0 < S.length → gG ≠ p2) ∧ (0 < D.length → gG ≠ p3)) ∧ (p1 ≠ p2 ∧ p1 ≠ p3 ∧ p2 ≠ p3) ∧ w.heap.size ≤ gG) := by
      refine ⟨?_, ⟨by omega, by omega, by omega, by omega⟩, fun h => ?_, ⟨fun h => ?_, fun h => ?_, fun h => ?_⟩, ⟨e12, e13, e23⟩, by omega⟩
      · rcases Nat.eq_zero_or_pos n with h | h
        · exact .inr h
        · have := s2 h
          exact .inl (by omega)
      · have := s2 h
        exact ⟨by omega, by omega, by omega⟩
      · have := l1 h
        omega
      · have := l2 h
        omega
      · have := l3 h
        omega
    have HX5 : Hid (BX w5 w.heap.size i (.slice a1 n1 k1) (.slice a2 n2 k2) (.slice a3 n3 k3) ∧ Below w.heap.size w w5 ∧ WSg w5 w4.heap.size i (.slice y1 O.length c1) (.slice y2 S.length c2) (.slice y3 D.length c3) p1 p2 p3 O S D ∧ TS w5 (.slice yW n cW) gW L ∧ TS w5 (.slice yG n cG) gG L) := ⟨HX4.out.1.later hb5, HX4.out.2.1.trans (hb5.mono HX4.out.2.1.size), HX4.out.2.2.1.later hb5, HX4.out.2.2.2.later hb5, tG⟩
    clear hb5 HX4 tG hgG hgG' l1 l2 l3 r1 r2 r3 s1 s2 s3 e12 e13 e23 hw4
    go_wp2_with fail
    refine (eqStringS_yes _ _ gG 0 gW 0 L _ HX5.out.2.2.2.2.ss HX5.out.2.2.2.1.ss).mono ?_
    rintro e w6 ⟨rfl, q6, rfl⟩
    have hbq : Below w5.heap.size w5 (w5.drewN q6) := ⟨rfl, rfl, rfl, Nat.le_refl _, fun _ _ => rfl⟩
    have hX6 : BX (w5.drewN q6) w.heap.size i (.slice a1 n1 k1) (.slice a2 n2 k2) (.slice a3 n3 k3) ∧ Below w.heap.size w (w5.drewN q6) ∧ WSg (w5.drewN q6) w4.heap.size i (.slice y1 O.length c1) (.slice y2 S.length c2) (.slice y3 D.length c3) p1 p2 p3 O S D ∧ TS (w5.drewN q6) (.slice yW n cW) gW L ∧ TS (w5.drewN q6) (.slice yG n cG) gG L := ⟨HX5.out.1.later hbq, HX5.out.2.1.trans (hbq.mono HX5.out.2.1.size), HX5.out.2.2.1.later hbq, HX5.out.2.2.2.1.later hbq, HX5.out.2.2.2.2.later hbq⟩
    clear hbq HX5
    generalize w5.drewN q6 = w6 at *
    have HX6 : Hid (BX w6 w.heap.size i (.slice a1 n1 k1) (.slice a2 n2 k2) (.slice a3 n3 k3) ∧ Below w.heap.size w w6 ∧ WSg w6 w4.heap.size i (.slice y1 O.length c1) (.slice y2 S.length c2) (.slice y3 D.length c3) p1 p2 p3 O S D ∧ TS w6 (.slice yW n cW) gW L ∧ TS w6 (.slice yG n cG) gG L) := hX6
    obtain ⟨d0, d1, d2, d3⟩ := hX6.1.cells
    have f0 := hX6.2.2.1.1.c0
    have f1 := hX6.2.2.1.1.c1
    have f2 := hX6.2.2.1.1.c2
    have f3 := hX6.2.2.1.1.c3
    have HK : Hid (∀ W, Below w6.heap.size w6 W → (W.cell? ⟨w.heap.size, 0, none⟩ = some (.int .i64 i) ∧ W.cell? ⟨w.heap.size, 1, none⟩ = some (.slice a1 n1 k1) ∧ W.cell? ⟨w.heap.size, 2, none⟩ = some (.slice a2 n2 k2) ∧ W.cell? ⟨w.heap.size, 3, none⟩ = some (.slice a3 n3 k3)) ∧ W.cell? ⟨w4.heap.size, 0, none⟩ = some (.int .i64 i) ∧ W.cell? ⟨w4.heap.size, 1, none⟩ = some (.slice y1 O.length c1) ∧ W.cell? ⟨w4.heap.size, 2, none⟩ = some (.slice y2 S.length c2) ∧ W.cell? ⟨w4.heap.size, 3, none⟩ = some (.slice y3 D.length c3)) := fun W hW =>
      ⟨(hX6.1.later hW).cells, (hX6.2.2.1.1.later hW).c0, (hX6.2.2.1.1.later hW).c1, (hX6.2.2.1.1.later hW).c2, (hX6.2.2.1.1.later hW).c3⟩
    clear hX6
    go_wp2
    go_region_held3 (fun W => (W.cell? ⟨w.heap.size, 0, none⟩ = some (.int .i64 i) ∧ W.cell? ⟨w.heap.size, 1, none⟩ = some (.slice a1 n1 k1) ∧ W.cell? ⟨w.heap.size, 2, none⟩ = some (.slice a2 n2 k2) ∧ W.cell? ⟨w.heap.size, 3, none⟩ = some (.slice a3 n3 k3)) ∧ W.cell? ⟨w4.heap.size, 0, none⟩ = some (.int .i64 i) ∧ W.cell? ⟨w4.heap.size, 1, none⟩ = some (.slice y1 O.length c1) ∧ W.cell? ⟨w4.heap.size, 2, none⟩ = some (.slice y2 S.length c2) ∧ W.cell? ⟨w4.heap.size, 3, none⟩ = some (.slice y3 D.length c3)) (first | go_keep | exact HK.out _ hb8 | exact HK.out _ hb7) ((first | (go_at_call 6; refine (HTO.out _ HX6.out.2.1.drew).mono ?_; rintro e w7 ⟨v, rfl, ⟨u1, u2, u3, q1, q2, q3, rfl, ⟨t1, t2, t3⟩, _, _⟩, hb7'⟩; have hb7 : Below w6.heap.size w6 w7 := (Below.refl w6.heap.size w6).drew.trans hb7') | (go_at_call 9; refine (eqSig_yes i _ _ _ _ _ _ p1 0 p2 0 p3 0 q1 0 q2 0 q3 0 O S D _ (HX6.out.2.2.1.2.1.later hb7).ss (HX6.out.2.2.1.2.2.1.later hb7).ss (HX6.out.2.2.1.2.2.2.later hb7).ss t1.ss t2.ss t3.ss).mono ?_; rintro e w8 ⟨rfl, hb8'⟩; have hb8 : Below w6.heap.size w6 w8 := hb7.trans (hb8'.mono hb7.size))))
    have HX8 : Hid (BX w8 w.heap.size i (.slice a1 n1 k1) (.slice a2 n2 k2) (.slice a3 n3 k3) ∧ Below w.heap.size w w8 ∧ WSg w8 w4.heap.size i (.slice y1 O.length c1) (.slice y2 S.length c2) (.slice y3 D.length c3) p1 p2 p3 O S D ∧ TS w8 (.slice yW n cW) gW L ∧ TS w8 (.slice yG n cG) gG L) := ⟨HX6.out.1.later hb8, HX6.out.2.1.trans (hb8.mono HX6.out.2.1.size), HX6.out.2.2.1.later hb8, HX6.out.2.2.2.1.later hb8, HX6.out.2.2.2.2.later hb8⟩
    clear hb7 hb8 hb7' hb8' HX6 HK t1 t2 t3 d0 d1 d2 d3 f0 f1 f2 f3
    go_wp2_with (refine wp_loadSig rfl _ rfl w4.heap.size _ _ _ _ rfl HX8.out.2.2.1.1 ?_)
    refine (markSig_any i _ _ _ p1 p2 p3 O S D _ HX8.out.2.2.1.2.1 HX8.out.2.2.1.2.2.1 HX8.out.2.2.1.2.2.2 HQ.out.2.2.2.2.1.1 HQ.out.2.2.2.2.1.2.1 HQ.out.2.2.2.2.1.2.2).mono ?_
    rintro e w9 ⟨rfl, _, _, _, hg9⟩
    have HX9 : Hid (BX w9 w.heap.size i (.slice a1 n1 k1) (.slice a2 n2 k2) (.slice a3 n3 k3) ∧ Below w.heap.size w w9 ∧ TS w9 (.slice yW n cW) gW L ∧ TS w9 (.slice yG n cG) gG L) := by
      obtain ⟨_, ⟨x0, x1, x2, x3⟩, y, ⟨x4, x5, x6⟩, _, _⟩ := HQ.out
      obtain ⟨hbx, hbb, _, hW, hG⟩ := HX8.out
      refine ⟨hbx.keptG3 hg9 (rowOf_ne fun _ => by omega) (rowOf_ne fun _ => by omega) (rowOf_ne fun _ => by omega), hg9.below hbb hbb.size (rowOf_le (by omega)) (rowOf_le (by omega)) (rowOf_le (by omega)), hg9.ts hW fun h => ?_, hg9.ts hG fun h => ⟨rowOf_ne x4, rowOf_ne x5, rowOf_ne x6⟩⟩
      have := y (by rw [← HL.out]; exact h)
      exact ⟨rowOf_ne fun _ => this.1, rowOf_ne fun _ => this.2.1, rowOf_ne fun _ => this.2.2⟩
    have qm : ¬ (((1 + O.length + S.length + D.length : Nat) : Int) < 0) := by omega
    generalize 1 + O.length + S.length + D.length = M at *
    clear hg9 HX8
    go_wp2_with fail
    refine (eqStringS_yes _ _ gG 0 gW 0 L _ HX9.out.2.2.2.ss HX9.out.2.2.1.ss).mono ?_
    rintro e wx ⟨rfl, q9, rfl⟩
    have hbq : Below w9.heap.size w9 (w9.drewN q9) := ⟨rfl, rfl, rfl, Nat.le_refl _, fun _ _ => rfl⟩
    have HX10 : Hid (BX (w9.drewN q9) w.heap.size i (.slice a1 n1 k1) (.slice a2 n2 k2) (.slice a3 n3 k3) ∧ Below w.heap.size w (w9.drewN q9) ∧ TS (w9.drewN q9) (.slice yW n cW) gW L ∧ TS (w9.drewN q9) (.slice yG n cG) gG L) := ⟨HX9.out.1.later hbq, HX9.out.2.1.trans (hbq.mono HX9.out.2.1.size), HX9.out.2.2.1.later hbq, HX9.out.2.2.2.later hbq⟩
    clear hbq HX9
    generalize w9.drewN q9 = w10 at *
    go_wp2_with fail
    refine (markStringS_any _ gG L _ 1 _ rfl HX10.out.2.2.2 (by omega) (by omega)).mono ?_
    rintro e w11 ⟨rfl, tm, hg11⟩
    have HX11 : Hid (BX w11 w.heap.size i (.slice a1 n1 k1) (.slice a2 n2 k2) (.slice a3 n3 k3) ∧ Below w.heap.size w w11 ∧ TS w11 (.slice yW n cW) gW L ∧ TS w11 (.slice yG n cG) gG (marks 1 n)) := by
      obtain ⟨h0, ⟨x0, _⟩, _, _, _, hle⟩ := HQ.out
      obtain ⟨hbx, hbb, hW, _⟩ := HX10.out
      have tm2 := tm
      rw [HL.out] at tm2
      refine ⟨hbx.keptG hg11 (rowOf_ne fun _ => x0), hbb.grown hg11 hbb.size (rowOf_le hle), hW.keptG hg11 (fun h => rowOf_ne fun _ => ?_), tm2⟩
      rw [HL.out] at h
      rcases h0 with h0 | h0
      · exact h0
      · omega
    rw [HL.out]
    clear tm hg11 HX10 HQ
    go_wp2_with fail
    refine (heldStringS_any _ gG _ 1 n _ rfl HX11.out.2.2.2 (by omega) (by omega)).mono ?_
    rintro e w12 ⟨rfl, hb12⟩
    have HX12 : Hid (BX w12 w.heap.size i (.slice a1 n1 k1) (.slice a2 n2 k2) (.slice a3 n3 k3) ∧ Below w.heap.size w w12 ∧ TS w12 (.slice yW n cW) gW L ∧ TS w12 (.slice yG n cG) gG (marks 1 n)) := ⟨HX11.out.1.later hb12, HX11.out.2.1.trans (hb12.mono HX11.out.2.1.size), HX11.out.2.2.1.later hb12, HX11.out.2.2.2.later hb12⟩
    clear hb12 HX11
    go_wp2_with (refine wp_loadBox rfl _ rfl w.heap.size _ _ _ _ rfl HX12.out.1 ?_)
    refine (HTO.out _ HX12.out.2.1).mono ?_
    rintro e w13 ⟨v, rfl, ⟨v1, v2, v3, q1, q2, q3, rfl, ⟨t1, t2, t3⟩, _, _⟩, hb13⟩
    have b13 := HX12.out.2.1.trans (hb13.mono HX12.out.2.1.size)
    have hcI := HCI.out _ _ _ _ q1 q2 q3 b13 t1 t2 t3
    have HX13 : Hid (Below w.heap.size w w13 ∧ TS w13 (.slice yW n cW) gW L ∧ TS w13 (.slice yG n cG) gG (marks 1 n)) := ⟨b13, HX12.out.2.2.1.later hb13, HX12.out.2.2.2.later hb13⟩
    obtain ⟨y4, c4, rfl⟩ := t1.shape
    obtain ⟨y5, c5, rfl⟩ := t2.shape
    obtain ⟨y6, c6, rfl⟩ := t3.shape
    clear t1 t2 t3 hb13 HX12 b13
    go_wp2_with fail
    refine hcI.mono ?_
    rintro e w14 ⟨vH, gH, rfl, tH, _, hb14⟩
    obtain ⟨yH, cH, hvH⟩ := tH.shape
    rw [HL.out] at hvH
    subst hvH
    have HX14 : Hid (Below w.heap.size w w14 ∧ TS w14 (.slice yW n cW) gW L ∧ TS w14 (.slice yG n cG) gG (marks 1 n) ∧ TS w14 (.slice yH n cH) gH L) := ⟨HX13.out.1.trans (hb14.mono HX13.out.1.size), HX13.out.2.1.later hb14, HX13.out.2.2.later hb14, tH⟩
    clear hb14 HX13 tH hcI
    go_wp2_with fail
    refine (eqStringS_yes _ _ gH 0 gW 0 L _ HX14.out.2.2.2.ss HX14.out.2.1.ss).mono ?_
    rintro e wz ⟨rfl, q15, rfl⟩
    have hbq : Below w14.heap.size w14 (w14.drewN q15) := ⟨rfl, rfl, rfl, Nat.le_refl _, fun _ _ => rfl⟩
    have HX15 : Hid (Below w.heap.size w (w14.drewN q15) ∧ TS (w14.drewN q15) (.slice yG n cG) gG (marks 1 n)) := ⟨HX14.out.1.trans (hbq.mono HX14.out.1.size), HX14.out.2.2.1.later hbq⟩
    clear hbq HX14
    generalize w14.drewN q15 = w15 at *
    go_wp2_with fail
    refine (heldStringS_any _ gG _ 1 n _ rfl HX15.out.2 (by omega) (by omega)).mono ?_
    rintro e w16 ⟨rfl, hb16⟩
    go_wp2
    go_ret
    exact ⟨rfl, HX15.out.1.trans (hb16.mono HX15.out.1.size)⟩

theorem sigTextsLaw_any (t : ByteArray) (ht : t.size ≤ maxLen) (i : Int) (a1 : Option Addr) (n1 k1 : Nat) (z1 : List ByteArray) (a2 : Option Addr) (n2 k2 : Nat) (z2 : List ByteArray) (a3 : Option Addr) (n3 k3 : Nat) (z3 : List ByteArray) (w : World) (h1 : IsRowS w a1 n1 k1 z1) (h2 : IsRowS w a2 n2 k2 z2) (h3 : IsRowS w a3 n3 k3 z3) (hT : Tb w) :
    Calls Tryd.prog 3 #[.string t, .agg #[.int .i64 i, .slice a1 n1 k1, .slice a2 n2 k2, .slice a3 n3 k3]] w fun e w' => e = .returned (.bool true) ∧ Below w.heap.size w w' := by
  unfold maxLen at ht
  by_cases ht2 : 1048576 < t.size
  · clear hT h1 h2 h3
    go_enter Tryd.func3, Tryd.ntmps3
    go_wp2
    go_ret
    exact ⟨rfl, (Below.refl _ _).alloc (Nat.le_refl _) _⟩
  · exact sigTextsLaw_in t (by omega) i a1 n1 k1 z1 a2 n2 k2 z2 a3 n3 k3 z3 w h1 h2 h3 hT

end Go.Proofs.YtkgibgadngeddabDoor
