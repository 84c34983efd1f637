/-
  Texts laid together: Xs.
-/
import Derived.Test.YtaejeemjndmjcaaDoorPkS40
import Derived.Test.YtaejeemjndmjcaaDoorPkS44
import Derived.Test.YtaejeemjndmjcaaDoorPkS35
/-
  A drawn seal of a right head, and its house's root.
-/
namespace Go.Proofs.YtaejeemjndmjcaaDoor
open Go.RowKit Go.BigFrame Go.Sort
set_option linter.unusedVariables false
set_option linter.unusedSimpArgs false

/-- the seed of a house -/
def seedB (k : Nat) : ByteArray := ⟨#[104, 111, 117, 115, 101]⟩ ++ ⟨[UInt8.ofNat (48 + k)].toArray⟩
theorem seedB_size (k : Nat) : (seedB k).size = 6 := by unfold seedB; rw [ByteArray.size_append]; rfl
set_option maxRecDepth 100000 in
theorem l14Seed_any (k : Nat) (w : World) (hk : k < 3) : Calls Tryd.prog 55 #[.int .i64 (k : Int)] w fun e w' => e = .returned (.string (seedB k)) ∧ Below w.heap.size w w' := by
  unfold seedB
  obtain ⟨b, hb⟩ : ∃ b, UInt8.ofNat (48 + k) = b := ⟨_, rfl⟩
  have kb : 48 + (k : Int) = (b.toNat : Int) := by
    rw [← hb]
    have : (UInt8.ofNat (48 + k)).toNat = 48 + k := by simp; omega
    omega
  rw [hb]
  clear hb
  have HB : Hid (Below w.heap.size w (w.alloc (.cells #[.int .u8 (b.toNat : Int)] 5))) := (Below.refl _ _).alloc (Nat.le_refl _) _
  have t1 := D.one_str w b
  go_enter Tryd.func55, Tryd.ntmps55
  go_wp2
  go_ret
  exact ⟨rfl, HB.out⟩

/-- what l14Seal answers: a right seal of a right head of a house, and its root -/
def LsP (B : Nat) (w0 w : World) (g : Nat) (v : Value) (e : Ending) (w' : World) : Prop := ∃ (k : Nat) (x : Hd) (vS : Value), e = .returned (.tuple #[vS, .string (rootA (poolL (seedB k)))]) ∧ (k < 3 ∧ HV.okH x = true ∧ x.h = (k : Int)) ∧ SealIn w' w.heap.size vS x (sgAt (seedB k) (HV.hashH x) (poolL (seedB k)) (sealP x.e)) (sgO (seedB k) (HV.hashH x) (poolL (seedB k)) (sealP x.e)) (sgS (seedB k) (HV.hashH x) (poolL (seedB k)) (sealP x.e)) (sgD (seedB k) (HV.hashH x) (poolL (seedB k)) (sealP x.e)) ∧ Cur B w0 w' g v ∧ w.grownBy w' (some g)

/- steps -/
theorem step_spec_PoolRoot {w : World} {ops : Array Oper} {o : Oper} {a : Act} {K : Act → World → Prop} {Q : Exit → Act → World → Prop} {E : Prop} (hw : Region.wanted o (yielded ops a.tmps) = true) (i0 : Nat) (ts : Array TypeId) (ho : o.op = .call { callee := .value (.func 21), args := #[.tmp i0], argTypes := ts }) (v0 : Value) (P : Value → World → Prop) (h0 : a.tmps[i0]?.getD undef = v0)
    (hC : Calls Tryd.prog 21 #[v0] w fun e w' => ∃ r, e = .returned r ∧ P r w') (hk : ∀ r w', P r w' → K (a.put o.dst r) w') : if Region.wanted o (yielded ops a.tmps) = true then Oper.wp Tryd.prog o a w K Q else E := by
  rw [if_pos hw]
  unfold Oper.wp
  unfold execOp
  rw [ho]
  go_simp
  refine hC.mono ?_
  rintro e w' ⟨r, rfl, hp⟩
  exact hk r w' hp
theorem step_store_Sl {w : World} {ops : Array Oper} {o : Oper} {a : Act} {K : Act → World → Prop} {Q : Exit → Act → World → Prop} {E : Prop} (hw : Region.wanted o (yielded ops a.tmps) = true) (p v : Nat) (ho : o.op = .store 30 (.tmp p) (.tmp v)) (hd : o.dst = none) (g : Nat) (x x' : Hd) (y y' : Int) (v1 v2 v3 u1 u2 u3 : Value) (hA : SlB 30 w g x y v1 v2 v3) (hp : a.tmps[p]?.getD undef = .pointer (some ⟨g, 0, none⟩)) (hv : a.tmps[v]?.getD undef = .agg #[.int .i64 x'.h, .int .i64 x'.e, .string x'.r, .string x'.p, .int .i64 y', u1, u2, u3])
    (h1 : u1.oneCell' = true) (h2 : u2.oneCell' = true) (h3 : u3.oneCell' = true)
    (h : SlB 30 (w.setRow g #[.int .i64 x'.h, .int .i64 x'.e, .string x'.r, .string x'.p, .int .i64 y', u1, u2, u3]) g x' y' u1 u2 u3 → K a (w.setRow g #[.int .i64 x'.h, .int .i64 x'.e, .string x'.r, .string x'.p, .int .i64 y', u1, u2, u3])) : if Region.wanted o (yielded ops a.tmps) = true then Oper.wp Tryd.prog o a w K Q else E := by
  rw [if_pos hw]
  have hr := store_seal hA x' y' u1 u2 u3 h1 h2 h3
  have hp' : a.eval (.tmp p) = .pointer (some ⟨g, 0, none⟩) := by
    show a.tmps.getD p undef = _
    rw [Array.getD_eq_getD_getElem?]
    exact hp
  have hv' : a.eval (.tmp v) = .agg #[.int .i64 x'.h, .int .i64 x'.e, .string x'.r, .string x'.p, .int .i64 y', u1, u2, u3] := by
    show a.tmps.getD v undef = _
    rw [Array.getD_eq_getD_getElem?]
    exact hv
  have hk := h (hA.setR x' y' u1 u2 u3)
  have hk' : K (a.put o.dst (.tuple #[])) (w.setRow g #[.int .i64 x'.h, .int .i64 x'.e, .string x'.r, .string x'.p, .int .i64 y', u1, u2, u3]) := by rw [hd]; exact hk
  unfold Oper.wp
  simp [execOp, ho, hp', hv', hr, Result.andThen]
  exact hk'
/-- a head under way in its box, beside a cursor and the box of what is answered -/
def LsS (B : Nat) (w0 w : World) (g : Nat) (v : Value) (p : Nat) (x : Hd) (W : World) : Prop := Cur B w0 W g v ∧ w.grownBy W (some g) ∧ SlB 30 W w.heap.size zHd 0 (.slice none 0 0) (.slice none 0 0) (.slice none 0 0) ∧ BH W p x ∧ g < w.heap.size ∧ w.heap.size < p ∧ B ≤ w.heap.size
section
variable {B g p : Nat} {w0 w W W' : World} {v : Value} {x : Hd}
theorem LsS.call (h : LsS B w0 w g v p x W) (hc : Cur B w0 W' g v) (hg : W.grownBy W' (some g)) : LsS B w0 w g v p x W' := by
  obtain ⟨h1, h2, h3, h4, h5, h6, h7⟩ := h
  exact ⟨hc, h2.trans hg, h3.grown hg (by simp; omega), h4.grown hg (by simp; omega), h5, h6, h7⟩
theorem LsS.below (h : LsS B w0 w g v p x W) (hb : Below W.heap.size W W') : LsS B w0 w g v p x W' := by
  obtain ⟨h1, h2, h3, h4, h5, h6, h7⟩ := h
  exact ⟨h1.kept (grown_belowH (row := none) hb) (by simp) h1.size (fun k hk => by cases hk), h2.trans (grown_belowH hb), h3.later hb, h4.later hb, h5, h6, h7⟩
theorem LsS.set3 (h : LsS B w0 w g v p x W) (y : ByteArray) : LsS B w0 w g v p ⟨x.h, x.e, x.r, y⟩ (W.setCell ⟨p, 3, none⟩ (.string y)) := by
  obtain ⟨h1, h2, h3, h4, h5, h6, h7⟩ := h
  have hg := grown_setC W p 3 (.string y)
  have hbl : Below w.heap.size W (W.setCell ⟨p, 3, none⟩ (.string y)) := (Below.refl _ _).setCell (by show w.heap.size ≤ p; omega) _
  exact ⟨h1.bel hbl h5 h7, grown_bel h2 hbl, h3.grown hg (by simp; omega), h4.set3 y, h5, h6, h7⟩
end

set_option maxRecDepth 100000 in
set_option maxHeartbeats 2000000 in
theorem l14Seal_in (B : Nat) (w0 w : World) (g : Nat) (v : Value) (hc : Cur B w0 w g v) :
    Calls Tryd.prog 27 #[.pointer (some ⟨g, 0, none⟩)] w (LsP B w0 w g v) := by
  have hB := hc.size
  have hgl := hc.lt
  have hcz : Cur B w0 (w.alloc (.cells zSl 30)) g v := hc.kept (World.grownBy_alloc w _ none) (by simp) hc.size (fun k hk => by cases hk)
  have HBZ : Hid (SlB 30 (w.alloc (.cells zSl 30)) w.heap.size zHd 0 (.slice none 0 0) (.slice none 0 0) (.slice none 0 0) ∧ w.grownBy (w.alloc (.cells zSl 30)) (some g)) := ⟨SlB.new _ _ zHd _ _ _ _, World.grownBy_alloc w _ (some g)⟩
  clear hc
  go_enter Tryd.func27, Tryd.ntmps27
  go_wp2_with fail
  refine (l01Below_in B w0 _ g v 3 3 rfl hcz (by omega) (by omega)).mono ?_
  rintro e w1 ⟨k, hk, rfl, hc1, hg1⟩
  clear hcz
  go_wp2_with fail
  refine (l01Below_in B w0 _ g v 4 4 rfl hc1 (by omega) (by omega)).mono ?_
  rintro e w2 ⟨j, hj, rfl, hc2, hg2⟩
  clear hc1
  go_wp2_with fail
  refine (l13Root_in B w0 _ g v hc2).mono ?_
  rintro e w3 ⟨r, hr, rfl, hc3, hg3⟩
  clear hc2
  have HS : Hid (LsS B w0 w g v w3.heap.size ⟨(k : Int), 1 + (j : Int), r, ⟨#[]⟩⟩ (w3.alloc (.cells #[.int .i64 (k : Int), .int .i64 (1 + (j : Int)), .string r, .string ⟨#[]⟩] 25))) := by
    have hg : w.grownBy w3 (some g) := HBZ.out.2.trans (hg1.trans (hg2.trans hg3))
    have hz := ((HBZ.out.1.grown hg1 (by simp; omega)).grown hg2 (by simp; omega)).grown hg3 (by simp; omega)
    exact ⟨hc3.kept (World.grownBy_alloc w3 _ none) (by simp) hc3.size (fun k hk => by cases hk), hg.trans (World.grownBy_alloc w3 _ (some g)), hz.later ((Below.refl _ _).alloc (Nat.le_refl _) _), BH.new w3 ⟨(k : Int), 1 + (j : Int), r, ⟨#[]⟩⟩, hgl, hz.lt, hB⟩
  have hE : 1 ≤ 1 + (j : Int) ∧ 1 + (j : Int) ≤ 4 := by omega
  clear HBZ hg1 hg2 hg3 hc3 hj
  generalize 1 + (j : Int) = E at *
  have z1 := HS.out.2.2.2.1.c1
  simp only at z1
  by_cases hE1 : 1 < E
  · go_wp2_with fail
    refine (l13Root_in B w0 _ g v HS.out.1).mono ?_
    rintro e w4 ⟨q, hq, rfl, hc4, hg4⟩
    have HS4 : Hid (LsS B w0 w g v w3.heap.size ⟨(k : Int), E, r, ⟨#[]⟩⟩ w4) := HS.out.call hc4 hg4
    have y3 := HS4.out.2.2.2.1.c3
    have f3 := HS4.out.2.2.2.1.fz 3
    simp only at y3
    have HS5 : Hid (LsS B w0 w g v w3.heap.size ⟨(k : Int), E, r, q⟩ (w4.setCell ⟨w3.heap.size, 3, none⟩ (.string q))) := HS4.out.set3 q
    have HOK : Hid (HV.okH ⟨(k : Int), E, r, q⟩ = true) := HV.okH_iff.2 ⟨by show 0 ≤ (k : Int) ∧ (k : Int) < 3; omega, by show 1 ≤ E ∧ E ≤ 4; omega, hr, by rw [hq]; unfold HV.pw; simp only; split <;> omega⟩
    clear HS HS4 hc4 hg4 z1 hq
    have hcs := HS5.out.2.2.2.1
    go_wp2_with fail
    refine (l14Seed_any k _ hk).mono ?_
    rintro e w6 ⟨rfl, hb6⟩
    have HS6 : Hid (LsS B w0 w g v w3.heap.size ⟨(k : Int), E, r, q⟩ w6) := HS5.out.below hb6
    clear HS5 hb6 hcs
    have hsz := seedB_size k
    obtain ⟨sd, hsd⟩ : ∃ sd, seedB k = sd := ⟨_, rfl⟩
    have HSD : Hid (seedB k = sd) := hsd
    rw [hsd] at hsz
    simp only [hsd]
    clear hsd
    go_wp2_with fail
    refine (sPoolOf_any sd _ (by omega)).mono ?_
    rintro e w7 ⟨vp, rfl, hos⟩
    obtain ⟨qp, hq⟩ := hos.ss (by rw [poolL_len]; omega)
    have HQ : Hid (SS w7 vp qp 0 (poolL sd)) := hq
    have HS7 : Hid (LsS B w0 w g v w3.heap.size ⟨(k : Int), E, r, q⟩ w7) := HS6.out.below hos.2.1
    obtain ⟨xp, cp, rfl⟩ : ∃ xp cp, vp = .slice xp 16 cp := by
      obtain ⟨x', c', hv, _⟩ := hq
      exact ⟨x', c', by rw [hv, poolL_len]⟩
    clear hos hq HS6
    have hsg := sSealHead_any sd xp 16 cp qp 0 (poolL sd) ⟨(k : Int), E, r, q⟩ w7 (by omega) (poolL_len sd) (by omega) HQ.out
    have hsh : shOk sd (poolL sd) ⟨(k : Int), E, r, q⟩ = true := by
      obtain ⟨ep, hep⟩ : ∃ ep : Nat, E = (ep : Int) + 1 := ⟨(E - 1).toNat, by omega⟩
      have h1 : sealP E = (ep : Int) := by unfold sealP; rw [if_pos ⟨by omega, by omega⟩]; omega
      unfold shOk
      rw [HOK.out]
      simp only [h1]
      rw [(signed_facts sd (HV.hashH ⟨(k : Int), E, r, q⟩) ep (by omega) (by have := hashH_le ⟨(k : Int), E, r, q⟩; omega) (by omega)).1]
      rfl
    unfold ShP shH shA shO shS shD at hsg
    rw [hsh] at hsg
    simp only [if_true] at hsg
    clear hsh
    have HPOST : Hid (∀ e w', (∃ (x : Hd) (vS : Value), e = .returned (.tuple #[vS, .string (rootA (poolL sd))]) ∧ (HV.okH x = true ∧ x.h = (k : Int)) ∧ SealIn w' w.heap.size vS x (sgAt sd (HV.hashH x) (poolL sd) (sealP x.e)) (sgO sd (HV.hashH x) (poolL sd) (sealP x.e)) (sgS sd (HV.hashH x) (poolL sd) (sealP x.e)) (sgD sd (HV.hashH x) (poolL sd) (sealP x.e)) ∧ Cur B w0 w' g v ∧ w.grownBy w' (some g)) → LsP B w0 w g v e w') := fun e w' ⟨x, vS, h1, h2, h3, h4⟩ => ⟨k, x, vS, by rw [HSD.out]; exact h1, ⟨hk, h2.1, h2.2⟩, by rw [HSD.out]; exact h3, h4⟩
    obtain ⟨XX, hXX⟩ : ∃ X : Hd, (⟨(k : Int), E, r, q⟩ : Hd) = X := ⟨_, rfl⟩
    have HXX : Hid ((⟨(k : Int), E, r, q⟩ : Hd) = XX) := hXX
    simp only [hXX] at hsg
    clear hXX
    obtain ⟨a0, ha0⟩ : ∃ a0, sgAt sd (HV.hashH XX) (poolL sd) (sealP E) = a0 := ⟨_, rfl⟩
    obtain ⟨o0, ho0⟩ : ∃ o0, sgO sd (HV.hashH XX) (poolL sd) (sealP E) = o0 := ⟨_, rfl⟩
    obtain ⟨s0, hs0⟩ : ∃ s0, sgS sd (HV.hashH XX) (poolL sd) (sealP E) = s0 := ⟨_, rfl⟩
    obtain ⟨d0, hd0⟩ : ∃ d0, sgD sd (HV.hashH XX) (poolL sd) (sealP E) = d0 := ⟨_, rfl⟩
    have HEQ : Hid (sgAt sd (HV.hashH XX) (poolL sd) (sealP E) = a0 ∧ sgO sd (HV.hashH XX) (poolL sd) (sealP E) = o0 ∧ sgS sd (HV.hashH XX) (poolL sd) (sealP E) = s0 ∧ sgD sd (HV.hashH XX) (poolL sd) (sealP E) = d0) := ⟨ha0, ho0, hs0, hd0⟩
    rw [ha0, ho0, hs0, hd0] at hsg
    obtain ⟨hx0, hx1, hx2, hx3⟩ : XX.h = (k : Int) ∧ XX.e = E ∧ XX.r = r ∧ XX.p = q := by rw [← HXX.out]; exact ⟨rfl, rfl, rfl, rfl⟩
    have HX : Hid (XX.h = (k : Int) ∧ XX.e = E ∧ XX.r = r ∧ XX.p = q) := ⟨hx0, hx1, hx2, hx3⟩
    try simp only [hx0, hx1, hx2, hx3] at hsg
    clear hx0 hx1 hx2 hx3
    clear ha0 ho0 hs0 hd0
    obtain ⟨R, hR⟩ : ∃ R, rootA (poolL sd) = R := ⟨_, rfl⟩
    have HRT : Hid (∀ W, Below w7.heap.size w7 W → Calls Tryd.prog 21 #[.slice xp 16 cp] W fun e w' => e = .returned (.string R) ∧ Below W.heap.size W w') := fun W hW => by
      have h := sPoolRoot_any (.slice xp 16 cp) qp 0 (poolL sd) W (HQ.out.below hW HQ.out.lt)
      rw [hR] at h
      exact h
    have HR : Hid (rootA (poolL sd) = R) := hR
    clear hR
    have y0 := HS7.out.2.2.2.1.c0
    have y1 := HS7.out.2.2.2.1.c1
    have y2 := HS7.out.2.2.2.1.c2
    have y3 := HS7.out.2.2.2.1.c3
    simp only at y0 y1 y2 y3
    go_wp2_with fail
    refine hsg.mono ?_
    rintro e w8 ⟨vS, rfl, hsi, hb8⟩
    obtain ⟨v1, v2, v3, g1, g2, g3, rfl, ⟨t1, t2, t3⟩, ⟨l1, l2, l3⟩, hne⟩ := hsi.out
    rw [HX.out.1, HX.out.2.1, HX.out.2.2.1, HX.out.2.2.2] at hsi ⊢
    obtain ⟨z1, c1, rfl, _⟩ := id t1
    obtain ⟨z2, c2, rfl, _⟩ := id t2
    obtain ⟨z3, c3, rfl, _⟩ := id t3
    have HS8 : Hid (LsS B w0 w g v w3.heap.size ⟨(k : Int), E, r, q⟩ w8) := HS7.out.below hb8
    go_wp2_with fail
    have hba : Below w8.heap.size w8 (w8.alloc (.cells #[.int .i64 (k : Int), .int .i64 E, .string r, .string q, .int .i64 a0, .slice z1 o0.length c1, .slice z2 s0.length c2, .slice z3 d0.length c3] 30)) := (Below.refl _ _).alloc (Nat.le_refl _) _
    have HS9 := hide (HS8.out.below hba)
    have HX9 : Hid (SlB 30 (w8.alloc (.cells #[.int .i64 (k : Int), .int .i64 E, .string r, .string q, .int .i64 a0, .slice z1 o0.length c1, .slice z2 s0.length c2, .slice z3 d0.length c3] 30)) w8.heap.size ⟨(k : Int), E, r, q⟩ a0 (.slice z1 o0.length c1) (.slice z2 s0.length c2) (.slice z3 d0.length c3)) := SlB.new _ w8 ⟨(k : Int), E, r, q⟩ a0 _ _ _
    have HT9 := hide (show _ ∧ _ ∧ _ from ⟨t1.later hba, t2.later hba, t3.later hba⟩)
    have hb79 : Below w7.heap.size w7 (w8.alloc (.cells #[.int .i64 (k : Int), .int .i64 E, .string r, .string q, .int .i64 a0, .slice z1 o0.length c1, .slice z2 s0.length c2, .slice z3 d0.length c3] 30)) := hb8.trans (hba.mono hb8.size)
    have hlt : w.heap.size < w7.heap.size := Nat.lt_trans HS7.out.2.2.2.2.2.1 HS7.out.2.2.2.1.lt
    have hw8 := HS8.out.2.2.1.lt
    clear hsi hba t1 t2 t3 hb8 y0 y1 y2 y3 HS8 HS7
    generalize hwS : w8.alloc (.cells #[.int .i64 (k : Int), .int .i64 E, .string r, .string q, .int .i64 a0, .slice z1 o0.length c1, .slice z2 s0.length c2, .slice z3 d0.length c3] 30) = wS at *
    clear hwS
    generalize w8.heap.size = p8 at *
    have HRR : Hid (∀ W, Below wS.heap.size wS W → Calls Tryd.prog 21 #[.slice xp 16 cp] W fun e w' => ∃ v, e = .returned v ∧ (v = .string R ∧ Below W.heap.size W w')) := fun W hW => Calls.ret1 (HRT.out W (hb79.trans (hW.mono hb79.size)))
    have HSS : Hid (∀ W, Below wS.heap.size wS W → W.rangeAt p8 0 (slcs ⟨(k : Int), E, r, q⟩ a0 (.slice z1 o0.length c1) (.slice z2 s0.length c2) (.slice z3 d0.length c3))) := fun W hW => (HX9.out.later hW).range
    have HS2 : Hid (∀ W R', Below wS.heap.size wS W → (W.setRow w.heap.size R').rangeAt p8 0 (slcs ⟨(k : Int), E, r, q⟩ a0 (.slice z1 o0.length c1) (.slice z2 s0.length c2) (.slice z3 d0.length c3))) := fun W R' hW => ((HX9.out.later hW).grown (grown_setRow W w.heap.size R') (by simp; omega)).range
    have HZR : Hid (∀ W, Below wS.heap.size wS W → SlB 30 W w.heap.size zHd 0 (.slice none 0 0) (.slice none 0 0) (.slice none 0 0)) := fun W hW => HS9.out.2.2.1.later hW
    have HEND : Hid (∀ W, Below wS.heap.size wS W → LsP B w0 w g v (.returned (.tuple #[.agg #[.int .i64 (k : Int), .int .i64 E, .string r, .string q, .int .i64 a0, .slice z1 o0.length c1, .slice z2 s0.length c2, .slice z3 d0.length c3], .string R])) (W.setRow w.heap.size #[.int .i64 (k : Int), .int .i64 E, .string r, .string q, .int .i64 a0, .slice z1 o0.length c1, .slice z2 s0.length c2, .slice z3 d0.length c3])) := fun W hW => by
      refine HPOST.out _ _ ⟨XX, _, by rw [HR.out], ⟨by rw [← HXX.out]; exact HOK.out, HX.out.1⟩, ?_, ?_⟩
      · have hgr := grown_setRow W w.heap.size #[.int .i64 (k : Int), .int .i64 E, .string r, .string q, .int .i64 a0, .slice z1 o0.length c1, .slice z2 s0.length c2, .slice z3 d0.length c3]
        rw [HX.out.2.1, HEQ.out.1, HEQ.out.2.1, HEQ.out.2.2.1, HEQ.out.2.2.2]
        refine ⟨_, _, _, by rw [HX.out.1, HX.out.2.1, HX.out.2.2.1, HX.out.2.2.2], _, _, _, g1, g2, g3, rfl, ⟨(HT9.out.1.later hW).keptG hgr (fun _ => by simp; omega), (HT9.out.2.1.later hW).keptG hgr (fun _ => by simp; omega), (HT9.out.2.2.later hW).keptG hgr (fun _ => by simp; omega)⟩, ⟨by omega, by omega, by omega⟩, hne⟩
      · obtain ⟨k1, k2, _, _, k5, _, k7⟩ := HS9.out.below hW
        have hbs : Below w.heap.size W (W.setRow w.heap.size #[.int .i64 (k : Int), .int .i64 E, .string r, .string q, .int .i64 a0, .slice z1 o0.length c1, .slice z2 s0.length c2, .slice z3 d0.length c3]) := below_setRL (Below.refl _ _) (Nat.le_refl _) k2.size _
        exact ⟨k1.bel hbs k5 k7, grown_bel k2 hbs⟩
    have hb0 : Below wS.heap.size wS wS.drew := (Below.refl _ _).drew
    clear HS9 HX9 HT9 HRT HPOST HXX HX HEQ HR HOK HQ HSD
    refine wp_abs (fun a => FR 39 a [(2, .pointer (some ⟨w.heap.size, 0, none⟩)), (7, .slice xp 16 cp), (8, .pointer (some ⟨p8, 0, none⟩))]) ⟨rfl, rfl, fun p hp => by simp only [List.mem_cons, List.not_mem_nil, or_false] at hp; rcases hp with rfl | rfl | rfl <;> rfl⟩ (fun a F => ?_)
    refine wp_region_held_drew (S := fun W => W.rangeAt p8 0 (slcs ⟨(k : Int), E, r, q⟩ a0 (.slice z1 o0.length c1) (.slice z2 s0.length c2) (.slice z3 d0.length c3))) (by kernel_rfl) (HSS.out _ hb0) (fun hH => ?_)
    refine takeF (i := 0) (v := .agg #[.int .i64 (k : Int), .int .i64 E, .string r, .string q, .int .i64 a0, .slice z1 o0.length c1, .slice z2 s0.length c2, .slice z3 d0.length c3]) rfl (by kernel_rfl) (by kernel_rfl) (by kernel_rfl) (fun _ _ _ h => h) (yieldsIf_load_mid (by rfl) _ _ rfl p8 0 (F.eval 8 _ (by simp)) (slcs ⟨(k : Int), E, r, q⟩ a0 (.slice z1 o0.length c1) (.slice z2 s0.length c2) (.slice z3 d0.length c3)) _ (fun w h => h) Tryd.underlying30 rfl sizeSeal) hH 36 rfl F (by decide) (by simp) (fun a F => ?_)
    have r7 := F.get 7 (.slice xp 16 cp) (by simp)
    refine takeF (i := 1) (v := .slice xp 16 cp) rfl (by kernel_rfl) (by kernel_rfl) (by kernel_rfl) (fun _ _ _ h => h) (Or.inl ⟨by rfl, fun w hw => by go_simp⟩) hH 37 rfl F (by decide) (by simp) (fun a F => ?_)
    clear r7
    refine wpAnyH_ready (rs := [2]) (by kernel_rfl) (by simp) ?_
    refine AllReadyH.cons rfl (fun K' hK' => ?_) AllReadyH.nil
    refine step_spec_PoolRoot (by rfl) 37 _ rfl _ _ (F.get 37 _ (by simp)) (HRR.out _ hb0) ?_
    rintro rv1 xw1 ⟨rfl, kb1⟩
    have hb1 := hb0.trans (kb1.mono hb0.size)
    refine openK (v := .string R) 38 rfl F (by decide) (by simp) (fun a F => ?_)
    refine hK'.out _ _ (HSS.out _ hb1) (fun hH => ?_)
    refine wpAnyH_ready (rs := [3]) (by kernel_rfl) (by simp) ?_
    refine AllReadyH.cons rfl (fun K' hK' => ?_) AllReadyH.nil
    refine step_store_Sl (by rfl) 2 36 rfl rfl w.heap.size _ ⟨(k : Int), E, r, q⟩ _ a0 _ _ _ (.slice z1 o0.length c1) (.slice z2 s0.length c2) (.slice z3 d0.length c3) (HZR.out _ hb1) (F.get 2 _ (by simp)) (F.get 36 _ (by simp)) rfl rfl rfl ?_
    intro hst
    have hend := HEND.out _ hb1
    refine hK'.out _ _ (HS2.out _ _ hb1) (fun hH => ?_)
    have r38 := F.get 38 (.string R) (by simp)
    refine takeF (i := 4) (v := .string R) rfl (by kernel_rfl) (by kernel_rfl) (by kernel_rfl) (fun _ _ _ h => h) (Or.inl ⟨by rfl, fun w hw => by go_simp⟩) hH 3 rfl F (by decide) (by simp) (fun a F => ?_)
    clear r38
    refine wpAnyH_done (by kernel_rfl) ?_ _
    have hd := F.2.1
    have e2 : a.tmps.getD 2 undef = .pointer (some ⟨w.heap.size, 0, none⟩) := F.eval 2 _ (by simp)
    have e3 : a.tmps.getD 3 undef = .string R := F.eval 3 _ (by simp)
    clear HRR HSS HS2 HZR HEND hH F
    go_wp2
    exact ret_sl2 2 3 w.heap.size ⟨(k : Int), E, r, q⟩ a0 _ _ _ _ rfl hd e2 e3 hst hend
  · have HOK : Hid (HV.okH ⟨(k : Int), E, r, ⟨#[]⟩⟩ = true) := HV.okH_iff.2 ⟨by show 0 ≤ (k : Int) ∧ (k : Int) < 3; omega, by show 1 ≤ E ∧ E ≤ 4; omega, hr, by show 0 = _; unfold HV.pw; simp only; split <;> omega⟩
    have HS5 := HS
    clear HS
    have hcs := HS5.out.2.2.2.1
    go_wp2_with fail
    refine (l14Seed_any k _ hk).mono ?_
    rintro e w6 ⟨rfl, hb6⟩
    have HS6 : Hid (LsS B w0 w g v w3.heap.size ⟨(k : Int), E, r, ⟨#[]⟩⟩ w6) := HS5.out.below hb6
    clear HS5 hb6 hcs
    have hsz := seedB_size k
    obtain ⟨sd, hsd⟩ : ∃ sd, seedB k = sd := ⟨_, rfl⟩
    have HSD : Hid (seedB k = sd) := hsd
    rw [hsd] at hsz
    simp only [hsd]
    clear hsd
    go_wp2_with fail
    refine (sPoolOf_any sd _ (by omega)).mono ?_
    rintro e w7 ⟨vp, rfl, hos⟩
    obtain ⟨qp, hq⟩ := hos.ss (by rw [poolL_len]; omega)
    have HQ : Hid (SS w7 vp qp 0 (poolL sd)) := hq
    have HS7 : Hid (LsS B w0 w g v w3.heap.size ⟨(k : Int), E, r, ⟨#[]⟩⟩ w7) := HS6.out.below hos.2.1
    obtain ⟨xp, cp, rfl⟩ : ∃ xp cp, vp = .slice xp 16 cp := by
      obtain ⟨x', c', hv, _⟩ := hq
      exact ⟨x', c', by rw [hv, poolL_len]⟩
    clear hos hq HS6
    have hsg := sSealHead_any sd xp 16 cp qp 0 (poolL sd) ⟨(k : Int), E, r, ⟨#[]⟩⟩ w7 (by omega) (poolL_len sd) (by omega) HQ.out
    have hsh : shOk sd (poolL sd) ⟨(k : Int), E, r, ⟨#[]⟩⟩ = true := by
      obtain ⟨ep, hep⟩ : ∃ ep : Nat, E = (ep : Int) + 1 := ⟨(E - 1).toNat, by omega⟩
      have h1 : sealP E = (ep : Int) := by unfold sealP; rw [if_pos ⟨by omega, by omega⟩]; omega
      unfold shOk
      rw [HOK.out]
      simp only [h1]
      rw [(signed_facts sd (HV.hashH ⟨(k : Int), E, r, ⟨#[]⟩⟩) ep (by omega) (by have := hashH_le ⟨(k : Int), E, r, ⟨#[]⟩⟩; omega) (by omega)).1]
      rfl
    unfold ShP shH shA shO shS shD at hsg
    rw [hsh] at hsg
    simp only [if_true] at hsg
    clear hsh
    have HPOST : Hid (∀ e w', (∃ (x : Hd) (vS : Value), e = .returned (.tuple #[vS, .string (rootA (poolL sd))]) ∧ (HV.okH x = true ∧ x.h = (k : Int)) ∧ SealIn w' w.heap.size vS x (sgAt sd (HV.hashH x) (poolL sd) (sealP x.e)) (sgO sd (HV.hashH x) (poolL sd) (sealP x.e)) (sgS sd (HV.hashH x) (poolL sd) (sealP x.e)) (sgD sd (HV.hashH x) (poolL sd) (sealP x.e)) ∧ Cur B w0 w' g v ∧ w.grownBy w' (some g)) → LsP B w0 w g v e w') := fun e w' ⟨x, vS, h1, h2, h3, h4⟩ => ⟨k, x, vS, by rw [HSD.out]; exact h1, ⟨hk, h2.1, h2.2⟩, by rw [HSD.out]; exact h3, h4⟩
    obtain ⟨XX, hXX⟩ : ∃ X : Hd, (⟨(k : Int), E, r, ⟨#[]⟩⟩ : Hd) = X := ⟨_, rfl⟩
    have HXX : Hid ((⟨(k : Int), E, r, ⟨#[]⟩⟩ : Hd) = XX) := hXX
    simp only [hXX] at hsg
    clear hXX
    obtain ⟨a0, ha0⟩ : ∃ a0, sgAt sd (HV.hashH XX) (poolL sd) (sealP E) = a0 := ⟨_, rfl⟩
    obtain ⟨o0, ho0⟩ : ∃ o0, sgO sd (HV.hashH XX) (poolL sd) (sealP E) = o0 := ⟨_, rfl⟩
    obtain ⟨s0, hs0⟩ : ∃ s0, sgS sd (HV.hashH XX) (poolL sd) (sealP E) = s0 := ⟨_, rfl⟩
    obtain ⟨d0, hd0⟩ : ∃ d0, sgD sd (HV.hashH XX) (poolL sd) (sealP E) = d0 := ⟨_, rfl⟩
    have HEQ : Hid (sgAt sd (HV.hashH XX) (poolL sd) (sealP E) = a0 ∧ sgO sd (HV.hashH XX) (poolL sd) (sealP E) = o0 ∧ sgS sd (HV.hashH XX) (poolL sd) (sealP E) = s0 ∧ sgD sd (HV.hashH XX) (poolL sd) (sealP E) = d0) := ⟨ha0, ho0, hs0, hd0⟩
    rw [ha0, ho0, hs0, hd0] at hsg
    obtain ⟨hx0, hx1, hx2, hx3⟩ : XX.h = (k : Int) ∧ XX.e = E ∧ XX.r = r ∧ XX.p = ⟨#[]⟩ := by rw [← HXX.out]; exact ⟨rfl, rfl, rfl, rfl⟩
    have HX : Hid (XX.h = (k : Int) ∧ XX.e = E ∧ XX.r = r ∧ XX.p = ⟨#[]⟩) := ⟨hx0, hx1, hx2, hx3⟩
    try simp only [hx0, hx1, hx2, hx3] at hsg
    clear hx0 hx1 hx2 hx3
    clear ha0 ho0 hs0 hd0
    obtain ⟨R, hR⟩ : ∃ R, rootA (poolL sd) = R := ⟨_, rfl⟩
    have HRT : Hid (∀ W, Below w7.heap.size w7 W → Calls Tryd.prog 21 #[.slice xp 16 cp] W fun e w' => e = .returned (.string R) ∧ Below W.heap.size W w') := fun W hW => by
      have h := sPoolRoot_any (.slice xp 16 cp) qp 0 (poolL sd) W (HQ.out.below hW HQ.out.lt)
      rw [hR] at h
      exact h
    have HR : Hid (rootA (poolL sd) = R) := hR
    clear hR
    have y0 := HS7.out.2.2.2.1.c0
    have y1 := HS7.out.2.2.2.1.c1
    have y2 := HS7.out.2.2.2.1.c2
    have y3 := HS7.out.2.2.2.1.c3
    simp only at y0 y1 y2 y3
    go_wp2_with fail
    refine hsg.mono ?_
    rintro e w8 ⟨vS, rfl, hsi, hb8⟩
    obtain ⟨v1, v2, v3, g1, g2, g3, rfl, ⟨t1, t2, t3⟩, ⟨l1, l2, l3⟩, hne⟩ := hsi.out
    rw [HX.out.1, HX.out.2.1, HX.out.2.2.1, HX.out.2.2.2] at hsi ⊢
    obtain ⟨z1, c1, rfl, _⟩ := id t1
    obtain ⟨z2, c2, rfl, _⟩ := id t2
    obtain ⟨z3, c3, rfl, _⟩ := id t3
    have HS8 : Hid (LsS B w0 w g v w3.heap.size ⟨(k : Int), E, r, ⟨#[]⟩⟩ w8) := HS7.out.below hb8
    go_wp2_with fail
    have hba : Below w8.heap.size w8 (w8.alloc (.cells #[.int .i64 (k : Int), .int .i64 E, .string r, .string ⟨#[]⟩, .int .i64 a0, .slice z1 o0.length c1, .slice z2 s0.length c2, .slice z3 d0.length c3] 30)) := (Below.refl _ _).alloc (Nat.le_refl _) _
    have HS9 := hide (HS8.out.below hba)
    have HX9 : Hid (SlB 30 (w8.alloc (.cells #[.int .i64 (k : Int), .int .i64 E, .string r, .string ⟨#[]⟩, .int .i64 a0, .slice z1 o0.length c1, .slice z2 s0.length c2, .slice z3 d0.length c3] 30)) w8.heap.size ⟨(k : Int), E, r, ⟨#[]⟩⟩ a0 (.slice z1 o0.length c1) (.slice z2 s0.length c2) (.slice z3 d0.length c3)) := SlB.new _ w8 ⟨(k : Int), E, r, ⟨#[]⟩⟩ a0 _ _ _
    have HT9 := hide (show _ ∧ _ ∧ _ from ⟨t1.later hba, t2.later hba, t3.later hba⟩)
    have hb79 : Below w7.heap.size w7 (w8.alloc (.cells #[.int .i64 (k : Int), .int .i64 E, .string r, .string ⟨#[]⟩, .int .i64 a0, .slice z1 o0.length c1, .slice z2 s0.length c2, .slice z3 d0.length c3] 30)) := hb8.trans (hba.mono hb8.size)
    have hlt : w.heap.size < w7.heap.size := Nat.lt_trans HS7.out.2.2.2.2.2.1 HS7.out.2.2.2.1.lt
    have hw8 := HS8.out.2.2.1.lt
    clear hsi hba t1 t2 t3 hb8 y0 y1 y2 y3 HS8 HS7
    generalize hwS : w8.alloc (.cells #[.int .i64 (k : Int), .int .i64 E, .string r, .string ⟨#[]⟩, .int .i64 a0, .slice z1 o0.length c1, .slice z2 s0.length c2, .slice z3 d0.length c3] 30) = wS at *
    clear hwS
    generalize w8.heap.size = p8 at *
    have HRR : Hid (∀ W, Below wS.heap.size wS W → Calls Tryd.prog 21 #[.slice xp 16 cp] W fun e w' => ∃ v, e = .returned v ∧ (v = .string R ∧ Below W.heap.size W w')) := fun W hW => Calls.ret1 (HRT.out W (hb79.trans (hW.mono hb79.size)))
    have HSS : Hid (∀ W, Below wS.heap.size wS W → W.rangeAt p8 0 (slcs ⟨(k : Int), E, r, ⟨#[]⟩⟩ a0 (.slice z1 o0.length c1) (.slice z2 s0.length c2) (.slice z3 d0.length c3))) := fun W hW => (HX9.out.later hW).range
    have HS2 : Hid (∀ W R', Below wS.heap.size wS W → (W.setRow w.heap.size R').rangeAt p8 0 (slcs ⟨(k : Int), E, r, ⟨#[]⟩⟩ a0 (.slice z1 o0.length c1) (.slice z2 s0.length c2) (.slice z3 d0.length c3))) := fun W R' hW => ((HX9.out.later hW).grown (grown_setRow W w.heap.size R') (by simp; omega)).range
    have HZR : Hid (∀ W, Below wS.heap.size wS W → SlB 30 W w.heap.size zHd 0 (.slice none 0 0) (.slice none 0 0) (.slice none 0 0)) := fun W hW => HS9.out.2.2.1.later hW
    have HEND : Hid (∀ W, Below wS.heap.size wS W → LsP B w0 w g v (.returned (.tuple #[.agg #[.int .i64 (k : Int), .int .i64 E, .string r, .string ⟨#[]⟩, .int .i64 a0, .slice z1 o0.length c1, .slice z2 s0.length c2, .slice z3 d0.length c3], .string R])) (W.setRow w.heap.size #[.int .i64 (k : Int), .int .i64 E, .string r, .string ⟨#[]⟩, .int .i64 a0, .slice z1 o0.length c1, .slice z2 s0.length c2, .slice z3 d0.length c3])) := fun W hW => by
      refine HPOST.out _ _ ⟨XX, _, by rw [HR.out], ⟨by rw [← HXX.out]; exact HOK.out, HX.out.1⟩, ?_, ?_⟩
      · have hgr := grown_setRow W w.heap.size #[.int .i64 (k : Int), .int .i64 E, .string r, .string ⟨#[]⟩, .int .i64 a0, .slice z1 o0.length c1, .slice z2 s0.length c2, .slice z3 d0.length c3]
        rw [HX.out.2.1, HEQ.out.1, HEQ.out.2.1, HEQ.out.2.2.1, HEQ.out.2.2.2]
        refine ⟨_, _, _, by rw [HX.out.1, HX.out.2.1, HX.out.2.2.1, HX.out.2.2.2], _, _, _, g1, g2, g3, rfl, ⟨(HT9.out.1.later hW).keptG hgr (fun _ => by simp; omega), (HT9.out.2.1.later hW).keptG hgr (fun _ => by simp; omega), (HT9.out.2.2.later hW).keptG hgr (fun _ => by simp; omega)⟩, ⟨by omega, by omega, by omega⟩, hne⟩
      · obtain ⟨k1, k2, _, _, k5, _, k7⟩ := HS9.out.below hW
        have hbs : Below w.heap.size W (W.setRow w.heap.size #[.int .i64 (k : Int), .int .i64 E, .string r, .string ⟨#[]⟩, .int .i64 a0, .slice z1 o0.length c1, .slice z2 s0.length c2, .slice z3 d0.length c3]) := below_setRL (Below.refl _ _) (Nat.le_refl _) k2.size _
        exact ⟨k1.bel hbs k5 k7, grown_bel k2 hbs⟩
    have hb0 : Below wS.heap.size wS wS.drew := (Below.refl _ _).drew
    clear HS9 HX9 HT9 HRT HPOST HXX HX HEQ HR HOK HQ HSD
    refine wp_abs (fun a => FR 39 a [(2, .pointer (some ⟨w.heap.size, 0, none⟩)), (7, .slice xp 16 cp), (8, .pointer (some ⟨p8, 0, none⟩))]) ⟨rfl, rfl, fun p hp => by simp only [List.mem_cons, List.not_mem_nil, or_false] at hp; rcases hp with rfl | rfl | rfl <;> rfl⟩ (fun a F => ?_)
    refine wp_region_held_drew (S := fun W => W.rangeAt p8 0 (slcs ⟨(k : Int), E, r, ⟨#[]⟩⟩ a0 (.slice z1 o0.length c1) (.slice z2 s0.length c2) (.slice z3 d0.length c3))) (by kernel_rfl) (HSS.out _ hb0) (fun hH => ?_)
    refine takeF (i := 0) (v := .agg #[.int .i64 (k : Int), .int .i64 E, .string r, .string ⟨#[]⟩, .int .i64 a0, .slice z1 o0.length c1, .slice z2 s0.length c2, .slice z3 d0.length c3]) rfl (by kernel_rfl) (by kernel_rfl) (by kernel_rfl) (fun _ _ _ h => h) (yieldsIf_load_mid (by rfl) _ _ rfl p8 0 (F.eval 8 _ (by simp)) (slcs ⟨(k : Int), E, r, ⟨#[]⟩⟩ a0 (.slice z1 o0.length c1) (.slice z2 s0.length c2) (.slice z3 d0.length c3)) _ (fun w h => h) Tryd.underlying30 rfl sizeSeal) hH 36 rfl F (by decide) (by simp) (fun a F => ?_)
    have r7 := F.get 7 (.slice xp 16 cp) (by simp)
    refine takeF (i := 1) (v := .slice xp 16 cp) rfl (by kernel_rfl) (by kernel_rfl) (by kernel_rfl) (fun _ _ _ h => h) (Or.inl ⟨by rfl, fun w hw => by go_simp⟩) hH 37 rfl F (by decide) (by simp) (fun a F => ?_)
    clear r7
    refine wpAnyH_ready (rs := [2]) (by kernel_rfl) (by simp) ?_
    refine AllReadyH.cons rfl (fun K' hK' => ?_) AllReadyH.nil
    refine step_spec_PoolRoot (by rfl) 37 _ rfl _ _ (F.get 37 _ (by simp)) (HRR.out _ hb0) ?_
    rintro rv1 xw1 ⟨rfl, kb1⟩
    have hb1 := hb0.trans (kb1.mono hb0.size)
    refine openK (v := .string R) 38 rfl F (by decide) (by simp) (fun a F => ?_)
    refine hK'.out _ _ (HSS.out _ hb1) (fun hH => ?_)
    refine wpAnyH_ready (rs := [3]) (by kernel_rfl) (by simp) ?_
    refine AllReadyH.cons rfl (fun K' hK' => ?_) AllReadyH.nil
    refine step_store_Sl (by rfl) 2 36 rfl rfl w.heap.size _ ⟨(k : Int), E, r, ⟨#[]⟩⟩ _ a0 _ _ _ (.slice z1 o0.length c1) (.slice z2 s0.length c2) (.slice z3 d0.length c3) (HZR.out _ hb1) (F.get 2 _ (by simp)) (F.get 36 _ (by simp)) rfl rfl rfl ?_
    intro hst
    have hend := HEND.out _ hb1
    refine hK'.out _ _ (HS2.out _ _ hb1) (fun hH => ?_)
    have r38 := F.get 38 (.string R) (by simp)
    refine takeF (i := 4) (v := .string R) rfl (by kernel_rfl) (by kernel_rfl) (by kernel_rfl) (fun _ _ _ h => h) (Or.inl ⟨by rfl, fun w hw => by go_simp⟩) hH 3 rfl F (by decide) (by simp) (fun a F => ?_)
    clear r38
    refine wpAnyH_done (by kernel_rfl) ?_ _
    have hd := F.2.1
    have e2 : a.tmps.getD 2 undef = .pointer (some ⟨w.heap.size, 0, none⟩) := F.eval 2 _ (by simp)
    have e3 : a.tmps.getD 3 undef = .string R := F.eval 3 _ (by simp)
    clear HRR HSS HS2 HZR HEND hH F
    go_wp2
    exact ret_sl2 2 3 w.heap.size ⟨(k : Int), E, r, ⟨#[]⟩⟩ a0 _ _ _ _ rfl hd e2 e3 hst hend

/-- a drawn seal, and its house's root -/
theorem DrawSeal_any (w : World) (v : Value) (hc : Code w.heap.size w v) :
    Calls Tryd.prog 6 #[v] w fun e w' => ∃ (k : Nat) (x : Hd) (vS : Value), e = .returned (.tuple #[vS, .string (rootA (poolL (seedB k)))]) ∧ (k < 3 ∧ HV.okH x = true ∧ x.h = (k : Int)) ∧ SealIn w' w.heap.size vS x (sgAt (seedB k) (HV.hashH x) (poolL (seedB k)) (sealP x.e)) (sgO (seedB k) (HV.hashH x) (poolL (seedB k)) (sealP x.e)) (sgS (seedB k) (HV.hashH x) (poolL (seedB k)) (sealP x.e)) (sgD (seedB k) (HV.hashH x) (poolL (seedB k)) (sealP x.e)) ∧ Below w.heap.size w w' := by
  have HC : Hid (Code w.heap.size w v) := hc
  clear hc
  have HBZ : Hid (SlB 30 (w.alloc (.cells zSl 30)) w.heap.size zHd 0 (.slice none 0 0) (.slice none 0 0) (.slice none 0 0) ∧ Below w.heap.size w (w.alloc (.cells zSl 30))) := ⟨SlB.new _ _ zHd _ _ _ _, (Below.refl _ _).alloc (Nat.le_refl _) _⟩
  have hcz := l01New_in (w.alloc (.cells zSl 30)) v (by
    obtain ⟨ao, b, off, len, cap, rfl, hl, h1, h2⟩ := HC.out
    refine ⟨ao, b, off, len, cap, rfl, hl, fun h0 => ⟨(h1 h0).1, Nat.lt_of_lt_of_le (h1 h0).2 HBZ.out.2.size⟩, fun j hj => ?_⟩
    obtain ⟨n, hn, hc⟩ := h2 j hj
    exact ⟨n, hn, (HBZ.out.2.cell (p := ⟨b, off + j, none⟩) (h1 (by omega)).2).trans hc⟩)
  clear HC
  go_enter Tryd.func6, Tryd.ntmps6
  go_wp2_with fail
  refine hcz.mono ?_
  rintro e w1 ⟨g, rfl, hc1, hb1⟩
  clear hcz
  go_wp2_with fail
  refine (l14Seal_in _ _ _ g v hc1).mono ?_
  rintro e w2 ⟨k, x, vS, rfl, hk, hsi, hc2, hg2⟩
  obtain ⟨v1, v2, v3, g1, g2, g3, rfl, ⟨t1, t2, t3⟩, ⟨l1, l2, l3⟩, hne⟩ := hsi.out
  obtain ⟨z1, c1, rfl, _⟩ := id t1
  obtain ⟨z2, c2, rfl, _⟩ := id t2
  obtain ⟨z3, c3, rfl, _⟩ := id t3
  have hlt := HBZ.out.1.lt
  have HB2 : Hid (SlB 30 w2 w.heap.size zHd 0 (.slice none 0 0) (.slice none 0 0) (.slice none 0 0) ∧ Below w.heap.size w w2 ∧ w.heap.size < w1.heap.size) := ⟨HBZ.out.1.later hc2.2.1, HBZ.out.2.trans (hc2.2.1.mono HBZ.out.2.size), Nat.lt_of_lt_of_le hlt hb1.size⟩
  clear HBZ hc1 hb1 hc2 hg2
  obtain ⟨a0, ha0⟩ : ∃ a0, sgAt (seedB k) (HV.hashH x) (poolL (seedB k)) (sealP x.e) = a0 := ⟨_, rfl⟩
  obtain ⟨o0, ho0⟩ : ∃ o0, sgO (seedB k) (HV.hashH x) (poolL (seedB k)) (sealP x.e) = o0 := ⟨_, rfl⟩
  obtain ⟨s0, hs0⟩ : ∃ s0, sgS (seedB k) (HV.hashH x) (poolL (seedB k)) (sealP x.e) = s0 := ⟨_, rfl⟩
  obtain ⟨d0, hd0⟩ : ∃ d0, sgD (seedB k) (HV.hashH x) (poolL (seedB k)) (sealP x.e) = d0 := ⟨_, rfl⟩
  obtain ⟨R, hR⟩ : ∃ R, rootA (poolL (seedB k)) = R := ⟨_, rfl⟩
  have HF : Hid (∀ W, Below w2.heap.size w2 W → ∃ (k' : Nat) (x' : Hd) (vS : Value), Ending.returned (.tuple #[.agg #[.int .i64 x.h, .int .i64 x.e, .string x.r, .string x.p, .int .i64 a0, .slice z1 o0.length c1, .slice z2 s0.length c2, .slice z3 d0.length c3], .string R]) = .returned (.tuple #[vS, .string (rootA (poolL (seedB k')))]) ∧ (k' < 3 ∧ HV.okH x' = true ∧ x'.h = (k' : Int)) ∧ SealIn (W.setRow w.heap.size #[.int .i64 x.h, .int .i64 x.e, .string x.r, .string x.p, .int .i64 a0, .slice z1 o0.length c1, .slice z2 s0.length c2, .slice z3 d0.length c3]) w.heap.size vS x' (sgAt (seedB k') (HV.hashH x') (poolL (seedB k')) (sealP x'.e)) (sgO (seedB k') (HV.hashH x') (poolL (seedB k')) (sealP x'.e)) (sgS (seedB k') (HV.hashH x') (poolL (seedB k')) (sealP x'.e)) (sgD (seedB k') (HV.hashH x') (poolL (seedB k')) (sealP x'.e)) ∧ Below w.heap.size w (W.setRow w.heap.size #[.int .i64 x.h, .int .i64 x.e, .string x.r, .string x.p, .int .i64 a0, .slice z1 o0.length c1, .slice z2 s0.length c2, .slice z3 d0.length c3])) := fun W hW => by
    have hgr := grown_setRow W w.heap.size #[.int .i64 x.h, .int .i64 x.e, .string x.r, .string x.p, .int .i64 a0, .slice z1 o0.length c1, .slice z2 s0.length c2, .slice z3 d0.length c3]
    have hlt2 := HB2.out.2.2
    have hb := HB2.out.2.1.trans (hW.mono HB2.out.2.1.size)
    rw [ho0] at t1
    rw [hs0] at t2
    rw [hd0] at t3
    refine ⟨k, x, _, by rw [hR], hk, ?_, below_setRL hb (Nat.le_refl _) hb.size _⟩
    rw [ha0, ho0, hs0, hd0]
    exact ⟨_, _, _, rfl, _, _, _, g1, g2, g3, rfl, ⟨(t1.later hW).keptG hgr (fun _ => by simp; omega), (t2.later hW).keptG hgr (fun _ => by simp; omega), (t3.later hW).keptG hgr (fun _ => by simp; omega)⟩, ⟨by omega, by omega, by omega⟩, hne⟩
  rw [ha0, ho0, hs0, hd0, hR]
  clear ha0 ho0 hs0 hd0 hR t1 t2 t3 hsi hne l1 l2 l3
  have HZ : Hid (SlB 30 w2 w.heap.size zHd 0 (.slice none 0 0) (.slice none 0 0) (.slice none 0 0)) := HB2.out.1
  have hend := HF.out w2 (Below.refl _ _)
  clear HB2 HF hlt hk
  obtain ⟨h, e, r, p⟩ := x
  simp only at hend ⊢
  go_wp2_with (first | (refine wp_storeSl rfl _ _ rfl w.heap.size zHd ⟨h, e, r, p⟩ 0 a0 _ _ _ _ _ _ HZ.out rfl rfl rfl rfl rfl ?_; intro hst) | fail)
  exact ret_sl2 2 3 w.heap.size ⟨h, e, r, p⟩ a0 _ _ _ _ rfl rfl rfl rfl hst hend

end Go.Proofs.YtaejeemjndmjcaaDoor
