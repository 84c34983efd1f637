/-
  Texts laid together: Pv, Px, Pxs, Fpl, Pfg, Fco.
-/
import Derived.Test.YtmcejkfknbjjkaaGreatDoorPkN
import Derived.Test.YtmcejkfknbjjkaaGreatDoorPkM
import Derived.Test.YtmcejkfknbjjkaaGreatDoorPkK
import Derived.Test.YtmcejkfknbjjkaaGreatDoorPkL
import Derived.Lib.QuietBelow
import Derived.Test.YtmcejkfknbjjkaaGreatDoorPkJ
/-
  The proof of a name: the program's and the specification's answers, at any argument.
-/
namespace Go.Proofs.YtmcejkfknbjjkaaGreatDoor
open Go.RowKit Go.BigFrame Go.Sort
set_option linter.unusedVariables false
set_option linter.unusedSimpArgs false

theorem OS.cap {B : Nat} {w0 w : World} {a : Option Addr} {n c : Nat} {l : List ByteArray} (h : OS B w0 w (.slice a n c) l) : l.length ≤ c := by
  rcases h.1.2 with ⟨hv, hn⟩ | ⟨g, cap, cur, hv, hbg, hg, hca, rest⟩
  · have : l.length = 0 := hn
    omega
  · simp only [Value.slice.injEq] at hv
    omega
noncomputable def pvOk (L : List Le) (nm : ByteArray) (l x : Int) : Bool := LV.leavesB L && okB nameB nm && decide (0 ≤ l ∧ l ≤ 8) && decide (1 ≤ x ∧ x ≤ 32)
noncomputable def pvB (L : List Le) (nm : ByteArray) (l x : Int) : List Le := if pvOk L nm l x then bkL L (idxN nm) else []
noncomputable def pvS (L : List Le) (nm : ByteArray) (l x : Int) : List ByteArray := if pvOk L nm l x then sdA L (idxN nm) l x else []

set_option maxRecDepth 100000 in
set_option maxHeartbeats 2000000 in
theorem sProveLeaf_any (v : Value) (ga oa : Nat) (L : List Le) (nm : ByteArray) (l x : Int) (w : World) (hv : RS 2 lcs w v ga oa L) (hsm : SmallL L) (hnm : nm.size ≤ 1048576) :
    Calls Tryz.prog 114 #[v, .string nm, .int .i64 l, .int .i64 x] w (PvP (pvB L nm l x) (pvS L nm l x) (pvOk L nm l x) w) := by
  have hba : Below w.heap.size w (w.alloc (.cells #[.slice none 0 0, .slice none 0 0] 43)) := (Below.refl _ _).alloc (Nat.le_refl _) _
  have HPN : Hid (PfM (w.alloc (.cells #[.slice none 0 0, .slice none 0 0] 43)) w.heap.size (.slice none 0 0) (.slice none 0 0)) := PfM.new w _ _
  have HRS : Hid (∀ W, Below w.heap.size w W → RS 2 lcs W v ga oa L) := fun W hW => hv.later hW
  have hlo := sLeavesOk_any v ga oa L _ (HRS.out _ hba) hsm
  have HNK : Hid (∀ W, Calls Tryz.prog 69 #[.string nm] W fun e w' => e = .returned (.bool (okB nameB nm)) ∧ w' = W) := fun W => sNameOk_any nm W hnm
  have HIX : Hid (∀ W, Below w.heap.size w W → Calls Tryz.prog 72 #[.string nm] W fun e w' => e = .returned (.int .i64 (idxN nm : Int)) ∧ Below W.heap.size W w') := fun W hW => sIndexOf_any nm W hnm
  have HLL : Hid ((bkL L (idxN nm)).length ≤ 1100000 ∧ (sdA L (idxN nm) l x).length ≤ 1100000) := ⟨Nat.le_trans (List.length_filter_le _ _) hv.len, Nat.le_trans (sdA_len _ _ _ _) (by omega)⟩
  have HYB : Hid (∀ (b : Bool), pvOk L nm l x = b → pvB L nm l x = (if b then bkL L (idxN nm) else []) ∧ pvS L nm l x = (if b then sdA L (idxN nm) l x else [])) := fun b h => ⟨by unfold pvB; rw [h], by unfold pvS; rw [h]⟩
  obtain ⟨R, hR⟩ : ∃ R, pvOk L nm l x = R := ⟨_, rfl⟩
  obtain ⟨e1, e2⟩ := HYB.out R hR
  have hR2 : R = (LV.leavesB L && okB nameB nm && decide (0 ≤ l ∧ l ≤ 8) && decide (1 ≤ x ∧ x ≤ 32)) := hR.symm
  rw [hR]
  clear hR HYB
  obtain ⟨BB, hBB⟩ : ∃ BB, pvB L nm l x = BB := ⟨_, rfl⟩
  obtain ⟨SB, hSB⟩ : ∃ SB, pvS L nm l x = SB := ⟨_, rfl⟩
  rw [hBB] at e1
  rw [hSB] at e2
  rw [hBB, hSB]
  have HE : Hid (BB = (if R then bkL L (idxN nm) else []) ∧ SB = (if R then sdA L (idxN nm) l x else [])) := ⟨e1, e2⟩
  clear e1 e2 hBB hSB
  obtain ⟨ix, hix⟩ : ∃ ix : Int, (idxN nm : Int) = ix := ⟨_, rfl⟩
  rw [hix] at HIX HLL HE
  have HBK : Hid (∀ W, Below w.heap.size w W → Calls Tryz.prog 149 #[v, .int .i64 ix] W fun e w' => ∃ u, e = .returned u ∧ OL W.heap.size W w' u (bkL L ix)) := fun W hW => sBucketOf_any v ga oa L ix W (HRS.out W hW) hsm
  have HSD : Hid (∀ W, Below w.heap.size w W → Calls Tryz.prog 150 #[v, .int .i64 ix, .int .i64 l, .int .i64 x] W fun e w' => ∃ u, e = .returned u ∧ OS W.heap.size W w' u (sdA L ix l x)) := fun W hW => sSidesOf_any v ga oa L ix l x W (HRS.out W hW) hsm
  clear hv hsm hix HRS
  generalize bkL L ix = BK at *
  generalize sdA L ix l x = SD at *
  generalize LV.leavesB L = A1 at *
  generalize okB nameB nm = A2 at *
  obtain ⟨A3, d1⟩ : ∃ A3, decide ((0 : Int) ≤ l ∧ l ≤ 8) = A3 := ⟨_, rfl⟩
  obtain ⟨A4, d2⟩ : ∃ A4, decide ((1 : Int) ≤ x ∧ x ≤ 32) = A4 := ⟨_, rfl⟩
  rw [d1, d2] at hR2
  go_enter Tryz.func114, Tryz.ntmps114
  go_wp2_with fail
  refine hlo.mono ?_
  rintro e w1 ⟨rfl, hb1⟩
  have HP1 : Hid (PfM w1 w.heap.size (.slice none 0 0) (.slice none 0 0)) := HPN.out.later hb1
  have b1 : Below w.heap.size w w1 := hba.trans (hb1.mono hba.size)
  clear hlo HPN hb1 hba
  have HNO : Hid (PvP [] [] false w (.returned (.tuple #[.agg #[.slice none 0 0, .slice none 0 0], .bool false])) (w1.setRow w.heap.size #[.slice none 0 0, .slice none 0 0])) := PvP.no (below_setRow b1 (Nat.le_refl _))
  cases A1 with
  | false =>
    obtain rfl : R = false := by rw [hR2]; rfl
    clear hR2
    clear HIX HLL HBK HSD
    go_wp2_with (refine wp_storePf rfl _ _ rfl w.heap.size _ _ (.slice none 0 0) (.slice none 0 0) HP1.out rfl rfl rfl rfl ?_; intro hfin)
    refine ret_pf2 8 9 w.heap.size _ _ _ rfl rfl rfl rfl hfin ?_
    obtain ⟨rfl, rfl⟩ := HE.out
    exact HNO.out

  | true =>
    go_wp2_with fail
    refine (HNK.out _).mono ?_
    rintro e w1' ⟨rfl, rfl⟩
    cases A2 with
    | false =>
      obtain rfl : R = false := by rw [hR2]; rfl
      clear hR2
      clear HIX HLL HBK HSD
      go_wp2_with (refine wp_storePf rfl _ _ rfl w.heap.size _ _ (.slice none 0 0) (.slice none 0 0) HP1.out rfl rfl rfl rfl ?_; intro hfin)
      refine ret_pf2 8 9 w.heap.size _ _ _ rfl rfl rfl rfl hfin ?_
      obtain ⟨rfl, rfl⟩ := HE.out
      exact HNO.out

    | true =>
      go_wp2_with fail
      refine (l01In_any _ _ _ _).mono ?_
      rintro e w1'' ⟨rfl, rfl⟩
      rw [d1]
      cases A3 with
      | false =>
        obtain rfl : R = false := by rw [hR2]; rfl
        clear hR2
        clear HIX HLL HBK HSD
        go_wp2_with (refine wp_storePf rfl _ _ rfl w.heap.size _ _ (.slice none 0 0) (.slice none 0 0) HP1.out rfl rfl rfl rfl ?_; intro hfin)
        refine ret_pf2 8 9 w.heap.size _ _ _ rfl rfl rfl rfl hfin ?_
        obtain ⟨rfl, rfl⟩ := HE.out
        exact HNO.out

      | true =>
        go_wp2_with fail
        refine (l01In_any _ _ _ _).mono ?_
        rintro e w2 ⟨rfl, rfl⟩
        rw [d2]
        cases A4 with
        | false =>
          obtain rfl : R = false := by rw [hR2]; rfl
          clear hR2
          clear HIX HLL HBK HSD
          go_wp2_with (refine wp_storePf rfl _ _ rfl w.heap.size _ _ (.slice none 0 0) (.slice none 0 0) HP1.out rfl rfl rfl rfl ?_; intro hfin)
          refine ret_pf2 8 9 w.heap.size _ _ _ rfl rfl rfl rfl hfin ?_
          obtain ⟨rfl, rfl⟩ := HE.out
          exact HNO.out

        | true =>
          obtain rfl : R = true := by rw [hR2]; rfl
          clear hR2
          clear HNO HNK
          obtain ⟨e1, e2⟩ := HE.out
          simp only [if_true] at e1 e2
          subst BB
          subst SB
          go_wp2_with fail
          refine (HIX.out _ b1).mono ?_
          rintro e w3 ⟨rfl, hb3⟩
          have HP3 := HP1.out.later hb3
          have b3 := b1.trans (hb3.mono b1.size)
          go_wp2_with fail
          refine (HBK.out _ b3).mono ?_
          rintro e w4 ⟨vb, rfl, ho4⟩
          have HP4 : Hid (PfM w4 w.heap.size (.slice none 0 0) (.slice none 0 0)) := HP3.later ho4.2.1
          have b4 := b3.trans (ho4.2.1.mono b3.size)
          have HG4 : Hid (w.heap.size < w3.heap.size) := HP3.lt
          obtain ⟨ab, cb, rfl⟩ := ho4.shape
          have HO4 : Hid (OL w3.heap.size w3 w4 (.slice ab BK.length cb) BK) := ho4
          clear ho4 hb3 HP1 HP3 b1 b3 HBK
          go_wp2_with fail
          refine (HIX.out _ b4).mono ?_
          rintro e w5 ⟨rfl, hb5⟩
          have b5 := b4.trans (hb5.mono b4.size)
          have HP5 : Hid (PfM w5 w.heap.size (.slice none 0 0) (.slice none 0 0)) := HP4.out.later hb5
          have HO5 : Hid (OL w3.heap.size w3 w5 (.slice ab BK.length cb) BK) := HO4.out.later hb5
          clear HP4 HO4 HIX b4
          go_wp2_with fail
          refine (HSD.out _ b5).mono ?_
          rintro e w6 ⟨vs, rfl, ho6⟩
          have b6 := b5.trans (ho6.2.1.mono b5.size)
          have hp6 : PfM w6 w.heap.size (.slice none 0 0) (.slice none 0 0) := HP5.out.later ho6.2.1
          have HO6 : Hid (OL w3.heap.size w3 w6 (.slice ab BK.length cb) BK) := HO5.out.later ho6.2.1
          obtain ⟨aZ, cs, rfl⟩ := ho6.slice
          have HS6 : Hid (OS w5.heap.size w5 w6 (.slice aZ SD.length cs) SD ∧ w.heap.size < w5.heap.size) := ⟨ho6, HP5.out.lt⟩
          have hgr := grown_setRowP w6 w.heap.size #[.slice ab BK.length cb, .slice aZ SD.length cs]
          have HF : Hid (PvP BK SD true w (.returned (.tuple #[.agg #[.slice ab BK.length cb, .slice aZ SD.length cs], .bool true])) (w6.setRow w.heap.size #[.slice ab BK.length cb, .slice aZ SD.length cs])) := by
            obtain ⟨gb, hrw, hgb, hqb⟩ := HO6.out.rw HLL.out.1
            obtain ⟨gs, hts, hgs⟩ := HS6.out.1.ts HLL.out.2
            have l1 := HG4.out
            have l2 := HS6.out.2
            refine ⟨_, _, _, _, gb, gs, rfl, hrw.grown hgr (fun _ => by simp; omega), hts.keptG hgr (fun _ => by simp; omega), by omega, by omega, ⟨fun h1 h2 => ?_, HS6.out.1.cap⟩, below_setRow b6 (Nat.le_refl _)⟩
            obtain ⟨gb5, hrw5, _, hq5⟩ := HO5.out.rw HLL.out.1
            have hlt := hrw5.lt h1
            have e1 := hrw5.1
            have e2 := hrw.1
            obtain ⟨_, _, ev, _, h3, _⟩ := hrw5.1
            obtain ⟨_, _, ev', _, h3', _⟩ := hrw.1
            simp only [Value.slice.injEq] at ev ev'
            have f1 := (h3 h1).1
            have f2 := (h3' h1).1
            rw [← ev.1] at f1
            rw [← ev'.1, f1] at f2
            simp at f2
            omega
          clear ho6 HO5 HO6 HP5 HS6 hb5 b5 b6 HSD HLL HG4 hgr
          go_wp2_with (refine wp_storePf rfl _ _ rfl w.heap.size _ _ (.slice ab BK.length cb) (.slice aZ SD.length cs) hp6 rfl rfl rfl rfl ?_; intro hfin)
          refine ret_pf2 8 9 w.heap.size _ _ _ rfl rfl rfl rfl hfin ?_
          exact HF.out

end Go.Proofs.YtmcejkfknbjjkaaGreatDoor
/-
  Two texts out of two proofs: the program's and the specification's answers.
-/
namespace Go.Proofs.YtmcejkfknbjjkaaGreatDoor
open Go.RowKit Go.BigFrame Go.Sort
set_option linter.unusedVariables false
set_option linter.unusedSimpArgs false

/-- from the last one on back the first two that differ -/
def lu (A C : List ByteArray) : Nat → ByteArray × ByteArray × Bool
  | 0 => (⟨#[]⟩, ⟨#[]⟩, false)
  | k + 1 => if A.getD k ⟨#[]⟩ = C.getD k ⟨#[]⟩ then lu A C k else (A.getD k ⟨#[]⟩, C.getD k ⟨#[]⟩, true)
def trip (r : ByteArray × ByteArray × Bool) : Value := .tuple #[.string r.1, .string r.2.1, .bool r.2.2]
def PxR (w : World) (F : Nat → ByteArray × ByteArray × Bool) (n : Nat) (i : Value) (wr : World) : Prop := ∃ m : Nat, m ≤ n ∧ i = .int .i64 ((m : Int) - 1) ∧ Hid (Below w.heap.size w wr ∧ F n = F m)

set_option maxRecDepth 100000 in
set_option maxHeartbeats 1000000 in
theorem lastUnlike_any (va vb : Value) (ga oa gb ob : Nat) (A C : List ByteArray) (w : World) (hv : SS w va ga oa A) (hu : SS w vb gb ob C) (hl : A.length = C.length) :
    Calls Tryz.prog 64 #[va, vb] w fun e w' => e = .returned (trip (lu A C A.length)) ∧ Below w.heap.size w w' := by
  obtain ⟨R, hR⟩ : ∃ R, lu A C A.length = R := ⟨_, rfl⟩
  have HR : Hid (lu A C A.length = R) := hR
  rw [hR]
  have HV : Hid (∀ W, Below w.heap.size w W → SS W va ga oa A ∧ SS W vb gb ob C) := fun W hW => ⟨hv.below hW hv.lt, hu.below hW hu.lt⟩
  obtain ⟨a, ca, rfl, hla, hA, hxa⟩ := hv
  obtain ⟨b, cb, rfl, hlb, hB, hxb⟩ := hu
  clear hxa hxb hR
  obtain ⟨n, hn⟩ : ∃ n, A.length = n := ⟨_, rfl⟩
  have HN : Hid (A.length = n ∧ C.length = n) := ⟨hn, hl ▸ hn⟩
  have HA : Hid (0 < n → a = some ⟨ga, oa, none⟩) := by rw [← hn]; exact hA
  have HB : Hid (0 < n → b = some ⟨gb, ob, none⟩) := by rw [← hn, hl]; exact hB
  rw [← hl, hn] at hlb ⊢
  rw [hn] at hla HR
  rw [← hl, hn] at HV
  have HST : Hid (PxR w (lu A C) n (.int .i64 ((n : Int) - 1)) w) := ⟨n, by omega, rfl, Below.refl _ _, rfl⟩
  clear hA hB hn hl
  go_enter Tryz.func64, Tryz.ntmps64
  go_wp2
  go_loopw [7] (fun i wr => PxR w (lu A C) n i wr) (fun i _ => (intOf i + 1).toNat)
  case atStart => exact HST.out
  case round =>
    obtain ⟨m, hm, rfl, HI⟩ := hrel
    clear HST
    cases m with
    | zero =>
      have hRf : R = (⟨#[]⟩, ⟨#[]⟩, false) := by rw [← HR.out, HI.out.2]; rfl
      subst hRf
      have HF : Hid (Below w.heap.size w wr) := HI.out.1
      clear HI HR HV HA HB HN
      go_wp2
      go_ret3
      exact ⟨rfl, HF.out⟩
    | succ k =>
      have ea := HA.out (by omega)
      have eb := HB.out (by omega)
      subst ea
      subst eb
      have e1 : (((k + 1 : Nat) : Int) - 1) = (k : Int) := by omega
      rw [e1]
      have hka : k < A.length := by rw [HN.out.1]; omega
      have hkb : k < C.length := by rw [HN.out.2]; omega
      obtain ⟨X, hX⟩ : ∃ X, A[k] = X := ⟨_, rfl⟩
      obtain ⟨Y, hY⟩ : ∃ Y, C[k] = Y := ⟨_, rfl⟩
      have HCC : Hid (∀ W, Below w.heap.size w W → W.cell? ⟨ga, oa + k, none⟩ = some (.string X) ∧ W.cell? ⟨gb, ob + k, none⟩ = some (.string Y)) := fun W hW => by
        obtain ⟨⟨a1, b1, e2, _, h2, h3⟩, ⟨a4, b4, e5, _, h5, h6⟩⟩ := HV.out W hW
        exact ⟨by rw [← hX]; exact h3 k hka, by rw [← hY]; exact h6 k hkb⟩
      obtain ⟨c0, d0⟩ := HCC.out _ HI.out.1
      have HU : Hid (lu A C (k + 1) = if X = Y then lu A C k else (X, Y, true)) := by
        show lu A C (k + 1) = _
        rw [lu]
        simp only [List.getD_eq_getElem?_getD, List.getElem?_eq_getElem hka, List.getElem?_eq_getElem hkb, Option.getD_some, hX, hY]
      have i1 : (k : Int) < (n : Int) := by omega
      have i2 : (0 : Int) ≤ (k : Int) := by omega
      clear hX hY hka hkb HA HB
      by_cases hk : X = Y
      · have q : (X.toList == Y.toList) = true := by rw [hk]; simp
        have hH : Below w.heap.size w wr ∧ lu A C n = lu A C k := ⟨HI.out.1, by rw [HI.out.2, HU.out, if_pos hk]⟩
        have HJ : Hid (Below w.heap.size w wr ∧ lu A C n = lu A C k) := hH
        clear HU HI hH hk HCC HV
        go_wp2
        go_quiet (fail)
        go_wp2
        refine ⟨⟨k, by omega, rfl, HJ.out.1.trans (⟨rfl, rfl, rfl, Nat.le_refl _, fun _ _ => rfl⟩), HJ.out.2⟩, ?_⟩
        simp [intOf]
      · have q : (X.toList == Y.toList) = false := LV.bytes_ne hk
        have hRR : R = (X, Y, true) := by rw [← HR.out, HI.out.2, HU.out, if_neg hk]
        subst hRR
        have HF : Hid (Below w.heap.size w wr) := HI.out.1
        clear HU HI hk HV HR
        go_wp2
        go_quiet (fail)
        go_wp2
        have hbd : Below w.heap.size w (wr.drewN nq) := HF.out.trans (⟨rfl, rfl, rfl, Nat.le_refl _, fun _ _ => rfl⟩)
        obtain ⟨c1, d1⟩ := HCC.out _ hbd
        clear HCC c0 d0 HF
        generalize wr.drewN nq = wd at *
        go_quiet (fail)
        go_wp2
        try rw [Exit.noGoto_ret]
        go_ret3
        exact ⟨rfl, hbd.trans ⟨rfl, rfl, rfl, Nat.le_refl _, fun _ _ => rfl⟩⟩

def sayB (B C : List Le) (nm : ByteArray) : Bool := decide (LV.getV B nm = LV.getV C nm) && (LV.getB B nm == LV.getB C nm)

set_option maxRecDepth 100000 in
set_option maxHeartbeats 1000000 in
theorem saySame_any (nm : ByteArray) (vb vs ub us : Value) (gb ob hb ob' : Nat) (B C : List Le) (w : World) (h1 : RS 2 lcs w vb gb ob B) (s1 : SmallL B) (h2 : RS 2 lcs w ub hb ob' C) (s2 : SmallL C) :
    Calls Tryz.prog 63 #[.string nm, .agg #[vb, vs], .agg #[ub, us]] w fun e w' => e = .returned (.bool (sayB B C nm)) ∧ Below w.heap.size w w' := by
  obtain ⟨R, hR⟩ : ∃ R, sayB B C nm = R := ⟨_, rfl⟩
  have hba : Below w.heap.size w ((w.alloc (.cells #[vb, vs] 43)).alloc (.cells #[ub, us] 43)) := ((Below.refl _ _).alloc (Nat.le_refl _) _).alloc (by simp) _
  have HP : Hid (∀ W, Below ((w.alloc (.cells #[vb, vs] 43)).alloc (.cells #[ub, us] 43)).heap.size ((w.alloc (.cells #[vb, vs] 43)).alloc (.cells #[ub, us] 43)) W → W.cell? ⟨w.heap.size, 0, none⟩ = some vb ∧ W.cell? ⟨w.heap.size, 1, none⟩ = some vs ∧ W.cell? ⟨w.heap.size + 1, 0, none⟩ = some ub ∧ W.cell? ⟨w.heap.size + 1, 1, none⟩ = some us ∧ Below w.heap.size w W) := fun W hW => by
    obtain ⟨a0, a1⟩ := run_rangeP (w := w) (p := 0) (v1 := vb) (v2 := vs) 43
    obtain ⟨b0, b1⟩ := run_rangeP (w := w.alloc (.cells #[vb, vs] 43)) (p := 0) (v1 := ub) (v2 := us) 43
    have hq : Below (w.alloc (.cells #[vb, vs] 43)).heap.size (w.alloc (.cells #[vb, vs] 43)) ((w.alloc (.cells #[vb, vs] 43)).alloc (.cells #[ub, us] 43)) := (Below.refl _ _).alloc (Nat.le_refl _) _
    have e : (w.alloc (.cells #[vb, vs] 43)).heap.size = w.heap.size + 1 := by simp
    rw [e] at b0 b1
    exact ⟨cell_later (cell_later a0 hq) hW, cell_later (cell_later a1 hq) hW, cell_later b0 hW, cell_later b1 hW, hba.trans (hW.mono hba.size)⟩
  have HL1 : Hid (∀ W, Below w.heap.size w W → Calls Tryz.prog 116 #[.string nm, .agg #[vb, vs]] W fun e w' => e = .returned (.tuple #[.string (LV.getV B nm), .bool (LV.getB B nm)]) ∧ Below W.heap.size W w') := fun W hW => ProofSays_any nm vb vs gb ob B W (h1.later hW) s1
  have HL2 : Hid (∀ W, Below w.heap.size w W → Calls Tryz.prog 116 #[.string nm, .agg #[ub, us]] W fun e w' => e = .returned (.tuple #[.string (LV.getV C nm), .bool (LV.getB C nm)]) ∧ Below W.heap.size W w') := fun W hW => ProofSays_any nm ub us hb ob' C W (h2.later hW) s2
  have hR2 : R = (decide (LV.getV B nm = LV.getV C nm) && (LV.getB B nm == LV.getB C nm)) := hR.symm
  rw [hR]
  clear h1 h2 s1 s2 hR
  generalize LV.getV B nm = V1 at *
  generalize LV.getV C nm = V2 at *
  generalize LV.getB B nm = R1 at *
  generalize LV.getB C nm = R2 at *
  obtain ⟨p0, p1, p2, p3, _⟩ := HP.out _ (Below.refl _ _)
  go_enter Tryz.func63, Tryz.ntmps63
  go_wp2_with fail
  refine (HL1.out _ hba).mono ?_
  rintro e w1 ⟨rfl, hb1⟩
  obtain ⟨k0, k1, k2, k3, b1⟩ := HP.out _ hb1
  clear p0 p1 p2 p3 HP HL1 hba hb1
  go_wp2_with fail
  refine (HL2.out _ b1).mono ?_
  rintro e w2 ⟨rfl, hb2⟩
  have b2 := b1.trans (hb2.mono b1.size)
  clear k0 k1 k2 k3 HL2 hb2 b1
  by_cases hV : V1 = V2
  · have q : (V1.toList == V2.toList) = true := by rw [hV]; simp
    rw [decide_eq_true hV, Bool.true_and] at hR2
    clear hV
    go_wp2
    go_ret
    exact ⟨by rw [hR2]; rfl, b2⟩
  · have q : (V1.toList == V2.toList) = false := LV.bytes_ne hV
    rw [decide_eq_false hV, Bool.false_and] at hR2
    clear hV
    go_wp2
    go_ret
    exact ⟨by rw [hR2]; rfl, b2⟩

noncomputable def xtR (nm : ByteArray) (B : List Le) (S : List ByteArray) (C : List Le) (T : List ByteArray) (x : Int) : ByteArray × ByteArray × Bool :=
  if (ptA nm B S x).length = 0 ∨ (ptA nm B S x).length ≠ (ptA nm C T x).length ∨ phA nm B S x ≠ phA nm C T x ∨ sayB B C nm = true then (⟨#[]⟩, ⟨#[]⟩, false) else lu (ptA nm B S x) (ptA nm C T x) (ptA nm B S x).length

/-- two proofs in their boxes -/
theorem two_boxes {w : World} {vb vs ub us : Value} : ∀ W, Below ((w.alloc (.cells #[vb, vs] 43)).alloc (.cells #[ub, us] 43)).heap.size ((w.alloc (.cells #[vb, vs] 43)).alloc (.cells #[ub, us] 43)) W → W.cell? ⟨w.heap.size, 0, none⟩ = some vb ∧ W.cell? ⟨w.heap.size, 1, none⟩ = some vs ∧ W.cell? ⟨w.heap.size + 1, 0, none⟩ = some ub ∧ W.cell? ⟨w.heap.size + 1, 1, none⟩ = some us ∧ Below w.heap.size w W := fun W hW => by
  have hba : Below w.heap.size w ((w.alloc (.cells #[vb, vs] 43)).alloc (.cells #[ub, us] 43)) := ((Below.refl _ _).alloc (Nat.le_refl _) _).alloc (by simp) _
  obtain ⟨a0, a1⟩ := run_rangeP (w := w) (p := 0) (v1 := vb) (v2 := vs) 43
  obtain ⟨b0, b1⟩ := run_rangeP (w := w.alloc (.cells #[vb, vs] 43)) (p := 0) (v1 := ub) (v2 := us) 43
  have hq : Below (w.alloc (.cells #[vb, vs] 43)).heap.size (w.alloc (.cells #[vb, vs] 43)) ((w.alloc (.cells #[vb, vs] 43)).alloc (.cells #[ub, us] 43)) := (Below.refl _ _).alloc (Nat.le_refl _) _
  have e : (w.alloc (.cells #[vb, vs] 43)).heap.size = w.heap.size + 1 := by simp
  rw [e] at b0 b1
  exact ⟨cell_later (cell_later a0 hq) hW, cell_later (cell_later a1 hq) hW, cell_later b0 hW, cell_later b1 hW, hba.trans (hW.mono hba.size)⟩

set_option maxRecDepth 100000 in
set_option maxHeartbeats 1000000 in
theorem ExtractTwo_any (nm : ByteArray) (vb vs ub us : Value) (gb ob gs os hb ob' hs os' : Nat) (B : List Le) (S : List ByteArray) (C : List Le) (T : List ByteArray) (x : Int) (w : World) (hnm : nm.size ≤ 1048576) (h1 : RS 2 lcs w vb gb ob B) (s1 : SmallL B) (h2 : SS w vs gs os S) (h3 : RS 2 lcs w ub hb ob' C) (s2 : SmallL C) (h4 : SS w us hs os' T) (hT : Tb w) :
    Calls Tryz.prog 20 #[.string nm, .agg #[vb, vs], .agg #[ub, us], .int .i64 x] w fun e w' => e = .returned (trip (xtR nm B S C T x)) ∧ Below w.heap.size w w' := by
  have hba : Below w.heap.size w ((w.alloc (.cells #[vb, vs] 43)).alloc (.cells #[ub, us] 43)) := ((Below.refl _ _).alloc (Nat.le_refl _) _).alloc (by simp) _
  have HP : Hid (∀ W, Below ((w.alloc (.cells #[vb, vs] 43)).alloc (.cells #[ub, us] 43)).heap.size ((w.alloc (.cells #[vb, vs] 43)).alloc (.cells #[ub, us] 43)) W → W.cell? ⟨w.heap.size, 0, none⟩ = some vb ∧ W.cell? ⟨w.heap.size, 1, none⟩ = some vs ∧ W.cell? ⟨w.heap.size + 1, 0, none⟩ = some ub ∧ W.cell? ⟨w.heap.size + 1, 1, none⟩ = some us ∧ Below w.heap.size w W) := two_boxes
  have HU : Hid (∀ W, Below w.heap.size w W → RS 2 lcs W vb gb ob B ∧ SS W vs gs os S ∧ RS 2 lcs W ub hb ob' C ∧ SS W us hs os' T ∧ Tb W) := fun W hW => ⟨h1.later hW, h2.below hW h2.lt, h3.later hW, h4.below hW h4.lt, hT.later hW⟩
  have HPT : Hid (∀ W, Below ((w.alloc (.cells #[vb, vs] 43)).alloc (.cells #[ub, us] 43)).heap.size ((w.alloc (.cells #[vb, vs] 43)).alloc (.cells #[ub, us] 43)) W → Calls Tryz.prog 27 #[.string nm, .agg #[vb, vs], .int .i64 x] W fun e w' => ∃ v, e = .returned v ∧ OS W.heap.size W w' v (ptA nm B S x)) := fun W hW => by
    have h := HU.out W (HP.out W hW).2.2.2.2
    exact ProofTexts_any nm vb vs gb ob gs os B S x W hnm h.1 s1 h.2.1 h.2.2.2.2
  have HQT : Hid (∀ W, Below ((w.alloc (.cells #[vb, vs] 43)).alloc (.cells #[ub, us] 43)).heap.size ((w.alloc (.cells #[vb, vs] 43)).alloc (.cells #[ub, us] 43)) W → Calls Tryz.prog 27 #[.string nm, .agg #[ub, us], .int .i64 x] W fun e w' => ∃ v, e = .returned v ∧ OS W.heap.size W w' v (ptA nm C T x)) := fun W hW => by
    have h := HU.out W (HP.out W hW).2.2.2.2
    exact ProofTexts_any nm ub us hb ob' hs os' C T x W hnm h.2.2.1 s2 h.2.2.2.1 h.2.2.2.2
  have HHL : Hid (∀ W v g l, Below w.heap.size w W → SS W v g 0 l → (∀ t ∈ l, t.size ≤ 12601) → Calls Tryz.prog 62 #[v, .int .i64 x] W fun e w' => e = .returned (.string (lastH l x)) ∧ Below W.heap.size W w') := fun W v g l hW h hz => hashOfLast_any v g 0 l x W h (fun t ht => by have := hz t ht; omega) (HU.out W hW).2.2.2.2
  have HSY : Hid (∀ W, Below w.heap.size w W → Calls Tryz.prog 63 #[.string nm, .agg #[vb, vs], .agg #[ub, us]] W fun e w' => e = .returned (.bool (sayB B C nm)) ∧ Below W.heap.size W w') := fun W hW => saySame_any nm vb vs ub us gb ob hb ob' B C W (HU.out W hW).1 s1 (HU.out W hW).2.2.1 s2
  have HR : Hid (xtR nm B S C T x = if (ptA nm B S x).length = 0 ∨ (ptA nm B S x).length ≠ (ptA nm C T x).length ∨ lastH (ptA nm B S x) x ≠ lastH (ptA nm C T x) x ∨ sayB B C nm = true then (⟨#[]⟩, ⟨#[]⟩, false) else lu (ptA nm B S x) (ptA nm C T x) (ptA nm B S x).length) := rfl
  have HZ1 : Hid ((ptA nm B S x).length ≤ 9 ∧ ∀ t ∈ ptA nm B S x, t.size ≤ 12601) := ⟨ptA_len _ _ _ _, ptA_size⟩
  have HZ2 : Hid ((ptA nm C T x).length ≤ 9 ∧ ∀ t ∈ ptA nm C T x, t.size ≤ 12601) := ⟨ptA_len _ _ _ _, ptA_size⟩
  generalize xtR nm B S C T x = R at *
  generalize ptA nm B S x = L1 at *
  generalize ptA nm C T x = L2 at *
  generalize sayB B C nm = SY at *
  have HP0 : Hid (Below ((w.alloc (.cells #[vb, vs] 43)).alloc (.cells #[ub, us] 43)).heap.size ((w.alloc (.cells #[vb, vs] 43)).alloc (.cells #[ub, us] 43)) ((w.alloc (.cells #[vb, vs] 43)).alloc (.cells #[ub, us] 43)).drew) := (Below.refl _ _).drew
  have hb0 := HP0.out
  clear h1 h2 h3 h4 s1 s2 hT HU
  go_enter Tryz.func20, Tryz.ntmps20
  go_wp2
  go_region_held3 (fun W => W.cell? ⟨w.heap.size, 0, none⟩ = some vb ∧ W.cell? ⟨w.heap.size, 1, none⟩ = some vs ∧ W.cell? ⟨w.heap.size + 1, 0, none⟩ = some ub ∧ W.cell? ⟨w.heap.size + 1, 1, none⟩ = some us) (first | (go_keep; done) | exact ⟨(HP.out _ hb0).1, (HP.out _ hb0).2.1, (HP.out _ hb0).2.2.1, (HP.out _ hb0).2.2.2.1⟩) ((go_at_call 27; first | ((with_reducible refine (HPT.out _ hb0).mono ?_); rintro e w1 ⟨v1, rfl, ho1⟩; have hc1 := ho1.2.1; have hb0 := hb0.trans (hc1.mono hb0.size)) | ((with_reducible refine (HQT.out _ hb0).mono ?_); rintro e w2 ⟨v2, rfl, ho2⟩; have hc2 := ho2.2.1; have hb0 := hb0.trans (hc2.mono hb0.size)) | fail))
  rename_i hHeld
  obtain ⟨g1, hs1⟩ := ho1.ss (by have := HZ1.out.1; omega)
  obtain ⟨g2, hs2⟩ := ho2.ss (by have := HZ2.out.1; omega)
  obtain ⟨a1, c1, rfl⟩ := ho1.slice
  obtain ⟨a2, c2, rfl⟩ := ho2.slice
  have HS : Hid (∀ W, Below w2.heap.size w2 W → SS W (.slice a1 L1.length c1) g1 0 L1 ∧ SS W (.slice a2 L2.length c2) g2 0 L2 ∧ Below w.heap.size w W ∧ W.cell? ⟨w.heap.size, 0, none⟩ = some vb ∧ W.cell? ⟨w.heap.size, 1, none⟩ = some vs ∧ W.cell? ⟨w.heap.size + 1, 0, none⟩ = some ub ∧ W.cell? ⟨w.heap.size + 1, 1, none⟩ = some us) := fun W hW => by
    have hh := HP.out W (hb0.trans (hW.mono hb0.size))
    exact ⟨(hs1.below ho2.2.1 hs1.lt).below hW (hs1.below ho2.2.1 hs1.lt).lt, hs2.below hW hs2.lt, hh.2.2.2.2, hh.1, hh.2.1, hh.2.2.1, hh.2.2.2.1⟩
  have HZ3 : Hid (L1.length ≤ 9 ∧ L2.length ≤ 9) := ⟨HZ1.out.1, HZ2.out.1⟩
  have hz1 := HZ1.out.1
  have hz2 := HZ2.out.1
  have HH1 : Hid (∀ W, Below w2.heap.size w2 W → Calls Tryz.prog 62 #[.slice a1 L1.length c1, .int .i64 x] W fun e w' => e = .returned (.string (lastH L1 x)) ∧ Below W.heap.size W w') := fun W hW => HHL.out W _ g1 L1 (HS.out W hW).2.2.1 (HS.out W hW).1 HZ1.out.2
  have HH2 : Hid (∀ W, Below w2.heap.size w2 W → Calls Tryz.prog 62 #[.slice a2 L2.length c2, .int .i64 x] W fun e w' => e = .returned (.string (lastH L2 x)) ∧ Below W.heap.size W w') := fun W hW => HHL.out W _ g2 L2 (HS.out W hW).2.2.1 (HS.out W hW).2.1 HZ2.out.2
  have HLU : Hid (∀ W, L1.length = L2.length → Below w2.heap.size w2 W → Calls Tryz.prog 64 #[.slice a1 L1.length c1, .slice a2 L2.length c2] W fun e w' => e = .returned (trip (lu L1 L2 L1.length)) ∧ Below W.heap.size W w') := fun W hl hW => lastUnlike_any _ _ g1 0 g2 0 L1 L2 W (HS.out W hW).1 (HS.out W hW).2.1 hl
  have b2 := (HS.out _ (Below.refl _ _)).2.2.1
  have HS2 : Hid (∀ W, Below w2.heap.size w2 W → Below w.heap.size w W ∧ W.cell? ⟨w.heap.size, 0, none⟩ = some vb ∧ W.cell? ⟨w.heap.size, 1, none⟩ = some vs ∧ W.cell? ⟨w.heap.size + 1, 0, none⟩ = some ub ∧ W.cell? ⟨w.heap.size + 1, 1, none⟩ = some us) := fun W hW => (HS.out W hW).2.2
  clear HPT HQT HHL HZ1 HZ2 hs1 hs2 ho1 ho2 HS HP HP0 hb0 hc1 hc2
  generalize lastH L1 x = H1 at *
  generalize lastH L2 x = H2 at *
  generalize lu L1 L2 L1.length = U at *
  generalize L1.length = n1 at *
  generalize L2.length = n2 at *
  by_cases e1 : n1 = 0
  · have hR : R = (⟨#[]⟩, ⟨#[]⟩, false) := by rw [HR.out, if_pos (.inl e1)]
    subst hR
    subst e1
    clear HR HSY HH1 HH2 HLU HS2
    go_wp2
    go_ret3
    exact ⟨rfl, b2⟩
  · have q1 : ((n1 : Int) == 0) = false := by simp; omega
    by_cases e2 : n1 = n2
    · subst e2
      have hlu := fun W => HLU.out W rfl
      go_wp2_with fail
      refine (HH1.out _ (Below.refl _ _)).mono ?_
      rintro e w3 ⟨rfl, hb3⟩
      go_wp2_with fail
      refine (HH2.out _ hb3).mono ?_
      rintro e w4 ⟨rfl, hb4⟩
      have hb4' := hb3.trans (hb4.mono hb3.size)
      obtain ⟨b4, k0, k1, k2, k3⟩ := HS2.out _ hb4'
      clear HH1 HH2 hb3 hb4 hHeld
      by_cases e3 : H1 = H2
      · have q3 : (H1.toList == H2.toList) = true := by rw [e3]; simp
        go_wp2_with fail
        refine (HSY.out _ b4).mono ?_
        rintro e w5 ⟨rfl, hb5⟩
        have hb5' := hb4'.trans (hb5.mono hb4'.size)
        obtain ⟨b5, _⟩ := HS2.out _ hb5'
        clear k0 k1 k2 k3 hb5 hb4' HSY
        cases SY with
        | true =>
          have hR : R = (⟨#[]⟩, ⟨#[]⟩, false) := by rw [HR.out, if_pos (.inr (.inr (.inr rfl)))]
          subst hR
          clear HR e3 q3
          go_wp2
          go_ret3
          exact ⟨rfl, b5⟩
        | false =>
          have hR : R = U := by rw [HR.out, if_neg (by simp [e1, e3])]
          subst hR
          clear HR e3
          go_wp2_with fail
          refine (hlu _ hb5').mono ?_
          rintro e w6 ⟨rfl, hb6⟩
          obtain ⟨x1, x2, x3⟩ := R
          unfold trip
          go_wp2
          go_ret3
          exact ⟨rfl, b5.trans (hb6.mono b5.size)⟩
      · have q3 : (H1.toList == H2.toList) = false := LV.bytes_ne e3
        have hR : R = (⟨#[]⟩, ⟨#[]⟩, false) := by rw [HR.out, if_pos (.inr (.inr (.inl e3)))]
        subst hR
        clear HR k0 k1 k2 k3 hb4' HSY
        go_wp2
        go_ret3
        exact ⟨rfl, b4⟩
    · have hR : R = (⟨#[]⟩, ⟨#[]⟩, false) := by rw [HR.out, if_pos (.inr (.inl e2))]
      subst hR
      have q2 : ((n1 : Int) != (n2 : Int)) = true := by simp; omega
      clear HR HSY HH1 HH2 HLU HS2
      go_wp2
      go_ret3
      exact ⟨rfl, b2⟩

end Go.Proofs.YtmcejkfknbjjkaaGreatDoor
/-
  Two texts out of two proofs: the specification's answer.
-/
namespace Go.Proofs.YtmcejkfknbjjkaaGreatDoor
open Go.RowKit Go.BigFrame Go.Sort
set_option linter.unusedVariables false
set_option linter.unusedSimpArgs false

set_option maxRecDepth 100000 in
set_option maxHeartbeats 2000000 in
theorem sExtractTwo_any (nm : ByteArray) (vb vs ub us : Value) (gb ob gs os hb ob' hs os' : Nat) (B : List Le) (S : List ByteArray) (C : List Le) (T : List ByteArray) (x : Int) (w : World) (hnm : nm.size ≤ 1048576) (h1 : RS 2 lcs w vb gb ob B) (s1 : SmallL B) (h2 : SS w vs gs os S) (h3 : RS 2 lcs w ub hb ob' C) (s2 : SmallL C) (h4 : SS w us hs os' T) :
    Calls Tryz.prog 21 #[.string nm, .agg #[vb, vs], .agg #[ub, us], .int .i64 x] w fun e w' => e = .returned (trip (xtR nm B S C T x)) ∧ Below w.heap.size w w' := by
  have hba : Below w.heap.size w ((w.alloc (.cells #[vb, vs] 43)).alloc (.cells #[ub, us] 43)) := ((Below.refl _ _).alloc (Nat.le_refl _) _).alloc (by simp) _
  have HP : Hid (∀ W, Below ((w.alloc (.cells #[vb, vs] 43)).alloc (.cells #[ub, us] 43)).heap.size ((w.alloc (.cells #[vb, vs] 43)).alloc (.cells #[ub, us] 43)) W → W.cell? ⟨w.heap.size, 0, none⟩ = some vb ∧ W.cell? ⟨w.heap.size, 1, none⟩ = some vs ∧ W.cell? ⟨w.heap.size + 1, 0, none⟩ = some ub ∧ W.cell? ⟨w.heap.size + 1, 1, none⟩ = some us ∧ Below w.heap.size w W) := two_boxes
  have HU : Hid (∀ W, Below w.heap.size w W → RS 2 lcs W vb gb ob B ∧ SS W vs gs os S ∧ RS 2 lcs W ub hb ob' C ∧ SS W us hs os' T) := fun W hW => ⟨h1.later hW, h2.below hW h2.lt, h3.later hW, h4.below hW h4.lt⟩
  have HPT : Hid (∀ W, Below w.heap.size w W → Calls Tryz.prog 28 #[.string nm, .agg #[vb, vs], .int .i64 x] W fun e w' => ∃ v, e = .returned v ∧ OS W.heap.size W w' v (ptA nm B S x)) := fun W hW => sProofTexts_any nm vb vs gb ob gs os B S x W hnm (HU.out W hW).1 s1 (HU.out W hW).2.1
  have HQT : Hid (∀ W, Below w.heap.size w W → Calls Tryz.prog 28 #[.string nm, .agg #[ub, us], .int .i64 x] W fun e w' => ∃ v, e = .returned v ∧ OS W.heap.size W w' v (ptA nm C T x)) := fun W hW => sProofTexts_any nm ub us hb ob' hs os' C T x W hnm (HU.out W hW).2.2.1 s2 (HU.out W hW).2.2.2
  have HPH : Hid (∀ W, Below w.heap.size w W → Calls Tryz.prog 25 #[.string nm, .agg #[vb, vs], .int .i64 x] W fun e w' => e = .returned (.string (phA nm B S x)) ∧ Below W.heap.size W w') := fun W hW => sProofHash_any nm vb vs gb ob gs os B S x W hnm (HU.out W hW).1 s1 (HU.out W hW).2.1
  have HQH : Hid (∀ W, Below w.heap.size w W → Calls Tryz.prog 25 #[.string nm, .agg #[ub, us], .int .i64 x] W fun e w' => e = .returned (.string (phA nm C T x)) ∧ Below W.heap.size W w') := fun W hW => sProofHash_any nm ub us hb ob' hs os' C T x W hnm (HU.out W hW).2.2.1 s2 (HU.out W hW).2.2.2
  have HL1 : Hid (∀ W, Below w.heap.size w W → Calls Tryz.prog 65 #[.string nm, .agg #[vb, vs]] W fun e w' => e = .returned (.tuple #[.string (LV.getV B nm), .bool (LV.getB B nm)]) ∧ Below W.heap.size W w') := fun W hW => sProofSays_any nm vb vs gb ob B W (HU.out W hW).1
  have HL2 : Hid (∀ W, Below w.heap.size w W → Calls Tryz.prog 65 #[.string nm, .agg #[ub, us]] W fun e w' => e = .returned (.tuple #[.string (LV.getV C nm), .bool (LV.getB C nm)]) ∧ Below W.heap.size W w') := fun W hW => sProofSays_any nm ub us hb ob' C W (HU.out W hW).2.2.1
  have HR : Hid (xtR nm B S C T x = if (ptA nm B S x).length = 0 ∨ (ptA nm B S x).length ≠ (ptA nm C T x).length ∨ phA nm B S x ≠ phA nm C T x ∨ (decide (LV.getV B nm = LV.getV C nm) && (LV.getB B nm == LV.getB C nm)) = true then (⟨#[]⟩, ⟨#[]⟩, false) else lu (ptA nm B S x) (ptA nm C T x) (ptA nm B S x).length) := rfl
  have HZ1 : Hid ((ptA nm B S x).length ≤ 9) := ptA_len _ _ _ _
  have HZ2 : Hid ((ptA nm C T x).length ≤ 9) := ptA_len _ _ _ _
  generalize xtR nm B S C T x = R at *
  generalize phA nm B S x = H1 at *
  generalize phA nm C T x = H2 at *
  generalize ptA nm B S x = L1 at *
  generalize ptA nm C T x = L2 at *
  generalize LV.getV B nm = V1 at *
  generalize LV.getV C nm = V2 at *
  generalize LV.getB B nm = R1 at *
  generalize LV.getB C nm = R2 at *
  obtain ⟨p0, p1, p2, p3, _⟩ := HP.out _ (Below.refl _ _)
  clear h1 h2 h3 h4 s1 s2 HU
  go_enter Tryz.func21, Tryz.ntmps21
  go_wp2_with fail
  refine (HPT.out _ hba).mono ?_
  rintro e w1 ⟨v1, rfl, ho1⟩
  obtain ⟨k0, k1, k2, k3, b1⟩ := HP.out _ ho1.2.1
  clear p0 p1 p2 p3
  have hc1 := ho1.2.1
  go_wp2_with fail
  refine (HQT.out _ b1).mono ?_
  rintro e w2 ⟨v2, rfl, ho2⟩
  have hc2 := hc1.trans (ho2.2.1.mono hc1.size)
  clear k0 k1 k2 k3
  obtain ⟨g1, hs1⟩ := ho1.ss (by have := HZ1.out; omega)
  obtain ⟨g2, hs2⟩ := ho2.ss (by have := HZ2.out; omega)
  obtain ⟨a1, c1, rfl⟩ := ho1.slice
  obtain ⟨a2, c2, rfl⟩ := ho2.slice
  have HS : Hid (∀ W, Below w2.heap.size w2 W → SS W (.slice a1 L1.length c1) g1 0 L1 ∧ SS W (.slice a2 L2.length c2) g2 0 L2) := fun W hW => ⟨(hs1.below ho2.2.1 hs1.lt).below hW (hs1.below ho2.2.1 hs1.lt).lt, hs2.below hW hs2.lt⟩
  have HS2 : Hid (∀ W, Below w2.heap.size w2 W → W.cell? ⟨w.heap.size, 0, none⟩ = some vb ∧ W.cell? ⟨w.heap.size, 1, none⟩ = some vs ∧ W.cell? ⟨w.heap.size + 1, 0, none⟩ = some ub ∧ W.cell? ⟨w.heap.size + 1, 1, none⟩ = some us ∧ Below w.heap.size w W) := fun W hW => HP.out W (hc2.trans (hW.mono hc2.size))
  have b2 := (HS2.out _ (Below.refl _ _)).2.2.2.2
  have hz1 := HZ1.out
  have hz2 := HZ2.out
  clear HPT HQT hs1 hs2 ho1 ho2 HP hc1 hc2 HZ1 HZ2 b1 hba
  obtain ⟨n1, hn1⟩ : ∃ n1, L1.length = n1 := ⟨_, rfl⟩
  obtain ⟨n2, hn2⟩ : ∃ n2, L2.length = n2 := ⟨_, rfl⟩
  have HN : Hid (L1.length = n1 ∧ L2.length = n2) := ⟨hn1, hn2⟩
  rw [hn1] at hz1 HR HS ⊢
  rw [hn2] at hz2 HR HS ⊢
  clear hn1 hn2
  obtain ⟨k0, k1, k2, k3, _⟩ := HS2.out _ (Below.refl _ _)
  have kq0 := cell_regrown (w := w2) k0
  have kq1 := cell_regrown (w := w2) k1
  have kq2 := cell_regrown (w := w2) k2
  have kq3 := cell_regrown (w := w2) k3
  have cq0 := fun d os => Calls.regrown_of (w := w2) (d := d) (os := os) (HPH.out _ (b2.trans ((below_regrown w2 d os).mono b2.size)))
  have cq1 := fun d os => Calls.regrown_of (w := w2) (d := d) (os := os) (HQH.out _ (b2.trans ((below_regrown w2 d os).mono b2.size)))
  clear HPH HQH k0 k1 k2 k3
  by_cases e1 : n1 = 0
  · have hR : R = (⟨#[]⟩, ⟨#[]⟩, false) := by rw [HR.out, if_pos (.inl e1)]
    subst hR
    subst e1
    clear HR HL1 HL2 HS HS2
    go_wp2
    refine wp_region_quiet_below (by kernel_rfl) (by kernel_rfl) ?_
    repeat (go_big_quiet_step (first | with_reducible exact cq0 _ _ | with_reducible exact cq1 _ _))
    refine wpQuiet_nil ?_
    rintro _ ⟨⟨dq, osq⟩, rfl⟩
    have hb6 := below_regrown w2 dq osq
    generalize grow (redrawn w2 dq) osq = w6 at *
    clear kq0 kq1 kq2 kq3 cq0 cq1
    have b6 := b2.trans (hb6.mono b2.size)
    go_wp2
    go_ret3
    exact ⟨rfl, b6⟩
  have q1 : ((n1 : Int) == 0) = false := by simp; omega
  by_cases e2 : n1 = n2
  · subst e2
    by_cases e3 : H1 = H2
    · have q3 : (H1.toList == H2.toList) = true := by rw [e3]; simp
      go_wp2
      refine wp_region_quiet_below (by kernel_rfl) (by kernel_rfl) ?_
      repeat (go_big_quiet_step (first | with_reducible exact cq0 _ _ | with_reducible exact cq1 _ _))
      refine wpQuiet_nil ?_
      rintro _ ⟨⟨dq, osq⟩, rfl⟩
      have hb6 := below_regrown w2 dq osq
      generalize grow (redrawn w2 dq) osq = w6 at *
      clear kq0 kq1 kq2 kq3 cq0 cq1
      have b6 := b2.trans (hb6.mono b2.size)
      obtain ⟨k0, k1, k2, k3, _⟩ := HS2.out _ hb6
      go_wp2_with fail
      refine (HL1.out _ b6).mono ?_
      rintro e w7 ⟨rfl, hb7⟩
      have hb7' := hb6.trans (hb7.mono hb6.size)
      clear k0 k1 k2 k3 HL1
      obtain ⟨k0, k1, k2, k3, b7⟩ := HS2.out _ hb7'
      go_wp2_with fail
      refine (HL2.out _ b7).mono ?_
      rintro e w8 ⟨rfl, hb8⟩
      have hb8' := hb7'.trans (hb8.mono hb7'.size)
      obtain ⟨_, _, _, _, b8⟩ := HS2.out _ hb8'
      clear k0 k1 k2 k3 HL2 hb7 hb8 hb7' b7 HS2 hb6 b6
      cases hsy : (decide (V1 = V2) && (R1 == R2)) with
      | true =>
        have hR : R = (⟨#[]⟩, ⟨#[]⟩, false) := by rw [HR.out, if_pos (.inr (.inr (.inr hsy)))]
        subst hR
        rw [Bool.and_eq_true, decide_eq_true_eq, beq_iff_eq] at hsy
        obtain ⟨rfl, rfl⟩ := hsy
        clear HR e3 q3 HS
        go_wp2
        go_ret3
        exact ⟨rfl, b8⟩
      | false =>
        have hR : R = lu L1 L2 n1 := by rw [HR.out, if_neg (by rintro (h | h | h | h); exact e1 h; exact h rfl; exact h e3; rw [hsy] at h; cases h)]
        have HRL : Hid (lu L1 L2 n1 = R) := hR.symm
        have HST : Hid (PxR w2 (lu L1 L2) n1 (.int .i64 ((n1 : Int) - 1)) w8) := ⟨n1, Nat.le_refl _, rfl, hb8', rfl⟩
        have HSB : Hid (∀ W, Below w2.heap.size w2 W → Below w.heap.size w W) := fun W hW => b2.trans (hW.mono b2.size)
        clear HR e3 q3 hR hb8' b8
        by_cases hV : V1 = V2
        · rw [decide_eq_true hV, Bool.true_and] at hsy
          have q5 : (V1.toList == V2.toList) = true := by rw [hV]; simp
          clear hV
          go_wp2
          go_loopw [17] (fun i wr => PxR w2 (lu L1 L2) n1 i wr) (fun i _ => (intOf i + 1).toNat)
          case atStart => exact HST.out
          case round =>
            obtain ⟨m, hm, rfl, HI⟩ := hrel
            clear HST
            cases m with
            | zero =>
              have hRf : R = (⟨#[]⟩, ⟨#[]⟩, false) := by rw [← HRL.out, HI.out.2]; rfl
              subst hRf
              have HF : Hid (Below w.heap.size w wr) := HSB.out _ HI.out.1
              clear HI HRL HS HN HSB
              go_wp2
              go_ret3
              exact ⟨rfl, HF.out⟩
            | succ k =>
              have hka : k < L1.length := by rw [HN.out.1]; omega
              have hkb : k < L2.length := by rw [HN.out.2]; omega
              have ea : a1 = some ⟨g1, 0, none⟩ := by
                obtain ⟨_, _, ev, _, h3, _⟩ := (HS.out w2 (Below.refl _ _)).1
                simp only [Value.slice.injEq] at ev
                rw [ev.1]
                exact h3 (by omega)
              have eb : a2 = some ⟨g2, 0, none⟩ := by
                obtain ⟨_, _, ev, _, h3, _⟩ := (HS.out w2 (Below.refl _ _)).2
                simp only [Value.slice.injEq] at ev
                rw [ev.1]
                exact h3 (by omega)
              subst ea
              subst eb
              have e1' : (((k + 1 : Nat) : Int) - 1) = (k : Int) := by omega
              rw [e1']
              obtain ⟨X, hX⟩ : ∃ X, L1[k] = X := ⟨_, rfl⟩
              obtain ⟨Y, hY⟩ : ∃ Y, L2[k] = Y := ⟨_, rfl⟩
              have HCC : Hid (∀ W, Below w2.heap.size w2 W → W.cell? ⟨g1, k, none⟩ = some (.string X) ∧ W.cell? ⟨g2, k, none⟩ = some (.string Y)) := fun W hW => by
                obtain ⟨⟨a1, b1, e2, _, h2, h3⟩, ⟨a4, b4, e5, _, h5, h6⟩⟩ := HS.out W hW
                have z1 := h3 k hka
                have z2 := h6 k hkb
                rw [Nat.zero_add] at z1 z2
                exact ⟨by rw [← hX]; exact z1, by rw [← hY]; exact z2⟩
              obtain ⟨c0, d0⟩ := HCC.out _ HI.out.1
              have HUU : Hid (lu L1 L2 (k + 1) = if X = Y then lu L1 L2 k else (X, Y, true)) := by
                show lu L1 L2 (k + 1) = _
                rw [lu]
                simp only [List.getD_eq_getElem?_getD, List.getElem?_eq_getElem hka, List.getElem?_eq_getElem hkb, Option.getD_some, hX, hY]
              have i1 : (k : Int) < (n1 : Int) := by omega
              have i2 : (0 : Int) ≤ (k : Int) := by omega
              clear hX hY hka hkb
              by_cases hk : X = Y
              · have q : (X.toList == Y.toList) = true := by rw [hk]; simp
                have hH : Below w2.heap.size w2 wr ∧ lu L1 L2 n1 = lu L1 L2 k := ⟨HI.out.1, by rw [HI.out.2, HUU.out, if_pos hk]⟩
                have HJ : Hid (Below w2.heap.size w2 wr ∧ lu L1 L2 n1 = lu L1 L2 k) := hH
                clear HUU HI hH hk HCC HS
                go_wp2
                go_quiet (fail)
                go_wp2
                refine ⟨⟨k, by omega, rfl, HJ.out.1.trans (⟨rfl, rfl, rfl, Nat.le_refl _, fun _ _ => rfl⟩), HJ.out.2⟩, ?_⟩
                simp [intOf]
              · have q : (X.toList == Y.toList) = false := LV.bytes_ne hk
                have hRR : R = (X, Y, true) := by rw [← HRL.out, HI.out.2, HUU.out, if_neg hk]
                subst hRR
                have HF : Hid (Below w2.heap.size w2 wr) := HI.out.1
                clear HUU HI hk HS HRL
                go_wp2
                go_quiet (fail)
                go_wp2
                have hbd : Below w2.heap.size w2 (wr.drewN nq) := HF.out.trans (⟨rfl, rfl, rfl, Nat.le_refl _, fun _ _ => rfl⟩)
                obtain ⟨c1, d1⟩ := HCC.out _ hbd
                clear HCC c0 d0 HF
                generalize wr.drewN nq = wd at *
                go_quiet (fail)
                go_wp2
                try rw [Exit.noGoto_ret]
                go_ret3
                exact ⟨rfl, HSB.out _ (hbd.trans ⟨rfl, rfl, rfl, Nat.le_refl _, fun _ _ => rfl⟩)⟩
        · have q5 : (V1.toList == V2.toList) = false := LV.bytes_ne hV
          clear hV hsy
          go_wp2
          go_loopw [17] (fun i wr => PxR w2 (lu L1 L2) n1 i wr) (fun i _ => (intOf i + 1).toNat)
          case atStart => exact HST.out
          case round =>
            obtain ⟨m, hm, rfl, HI⟩ := hrel
            clear HST
            cases m with
            | zero =>
              have hRf : R = (⟨#[]⟩, ⟨#[]⟩, false) := by rw [← HRL.out, HI.out.2]; rfl
              subst hRf
              have HF : Hid (Below w.heap.size w wr) := HSB.out _ HI.out.1
              clear HI HRL HS HN HSB
              go_wp2
              go_ret3
              exact ⟨rfl, HF.out⟩
            | succ k =>
              have hka : k < L1.length := by rw [HN.out.1]; omega
              have hkb : k < L2.length := by rw [HN.out.2]; omega
              have ea : a1 = some ⟨g1, 0, none⟩ := by
                obtain ⟨_, _, ev, _, h3, _⟩ := (HS.out w2 (Below.refl _ _)).1
                simp only [Value.slice.injEq] at ev
                rw [ev.1]
                exact h3 (by omega)
              have eb : a2 = some ⟨g2, 0, none⟩ := by
                obtain ⟨_, _, ev, _, h3, _⟩ := (HS.out w2 (Below.refl _ _)).2
                simp only [Value.slice.injEq] at ev
                rw [ev.1]
                exact h3 (by omega)
              subst ea
              subst eb
              have e1' : (((k + 1 : Nat) : Int) - 1) = (k : Int) := by omega
              rw [e1']
              obtain ⟨X, hX⟩ : ∃ X, L1[k] = X := ⟨_, rfl⟩
              obtain ⟨Y, hY⟩ : ∃ Y, L2[k] = Y := ⟨_, rfl⟩
              have HCC : Hid (∀ W, Below w2.heap.size w2 W → W.cell? ⟨g1, k, none⟩ = some (.string X) ∧ W.cell? ⟨g2, k, none⟩ = some (.string Y)) := fun W hW => by
                obtain ⟨⟨a1, b1, e2, _, h2, h3⟩, ⟨a4, b4, e5, _, h5, h6⟩⟩ := HS.out W hW
                have z1 := h3 k hka
                have z2 := h6 k hkb
                rw [Nat.zero_add] at z1 z2
                exact ⟨by rw [← hX]; exact z1, by rw [← hY]; exact z2⟩
              obtain ⟨c0, d0⟩ := HCC.out _ HI.out.1
              have HUU : Hid (lu L1 L2 (k + 1) = if X = Y then lu L1 L2 k else (X, Y, true)) := by
                show lu L1 L2 (k + 1) = _
                rw [lu]
                simp only [List.getD_eq_getElem?_getD, List.getElem?_eq_getElem hka, List.getElem?_eq_getElem hkb, Option.getD_some, hX, hY]
              have i1 : (k : Int) < (n1 : Int) := by omega
              have i2 : (0 : Int) ≤ (k : Int) := by omega
              clear hX hY hka hkb
              by_cases hk : X = Y
              · have q : (X.toList == Y.toList) = true := by rw [hk]; simp
                have hH : Below w2.heap.size w2 wr ∧ lu L1 L2 n1 = lu L1 L2 k := ⟨HI.out.1, by rw [HI.out.2, HUU.out, if_pos hk]⟩
                have HJ : Hid (Below w2.heap.size w2 wr ∧ lu L1 L2 n1 = lu L1 L2 k) := hH
                clear HUU HI hH hk HCC HS
                go_wp2
                go_quiet (fail)
                go_wp2
                refine ⟨⟨k, by omega, rfl, HJ.out.1.trans (⟨rfl, rfl, rfl, Nat.le_refl _, fun _ _ => rfl⟩), HJ.out.2⟩, ?_⟩
                simp [intOf]
              · have q : (X.toList == Y.toList) = false := LV.bytes_ne hk
                have hRR : R = (X, Y, true) := by rw [← HRL.out, HI.out.2, HUU.out, if_neg hk]
                subst hRR
                have HF : Hid (Below w2.heap.size w2 wr) := HI.out.1
                clear HUU HI hk HS HRL
                go_wp2
                go_quiet (fail)
                go_wp2
                have hbd : Below w2.heap.size w2 (wr.drewN nq) := HF.out.trans (⟨rfl, rfl, rfl, Nat.le_refl _, fun _ _ => rfl⟩)
                obtain ⟨c1, d1⟩ := HCC.out _ hbd
                clear HCC c0 d0 HF
                generalize wr.drewN nq = wd at *
                go_quiet (fail)
                go_wp2
                try rw [Exit.noGoto_ret]
                go_ret3
                exact ⟨rfl, HSB.out _ (hbd.trans ⟨rfl, rfl, rfl, Nat.le_refl _, fun _ _ => rfl⟩)⟩
    · have q3 : (H1.toList == H2.toList) = false := LV.bytes_ne e3
      have hR : R = (⟨#[]⟩, ⟨#[]⟩, false) := by rw [HR.out, if_pos (.inr (.inr (.inl e3)))]
      subst hR
      clear HR HL1 HL2 HS HS2
      go_wp2
      refine wp_region_quiet_below (by kernel_rfl) (by kernel_rfl) ?_
      repeat (go_big_quiet_step (first | with_reducible exact cq0 _ _ | with_reducible exact cq1 _ _))
      refine wpQuiet_nil ?_
      rintro _ ⟨⟨dq, osq⟩, rfl⟩
      have hb6 := below_regrown w2 dq osq
      generalize grow (redrawn w2 dq) osq = w6 at *
      clear kq0 kq1 kq2 kq3 cq0 cq1
      have b6 := b2.trans (hb6.mono b2.size)
      go_wp2
      go_ret3
      exact ⟨rfl, b6⟩
  · have hR : R = (⟨#[]⟩, ⟨#[]⟩, false) := by rw [HR.out, if_pos (.inr (.inl e2))]
    subst hR
    have q2 : ((n1 : Int) != (n2 : Int)) = true := by simp; omega
    clear HR HL1 HL2 HS HS2
    go_wp2
    refine wp_region_quiet_below (by kernel_rfl) (by kernel_rfl) ?_
    repeat (go_big_quiet_step (first | with_reducible exact cq0 _ _ | with_reducible exact cq1 _ _))
    refine wpQuiet_nil ?_
    rintro _ ⟨⟨dq, osq⟩, rfl⟩
    have hb6 := below_regrown w2 dq osq
    generalize grow (redrawn w2 dq) osq = w6 at *
    clear kq0 kq1 kq2 kq3 cq0 cq1
    have b6 := b2.trans (hb6.mono b2.size)
    go_wp2
    go_ret3
    exact ⟨rfl, b6⟩

end Go.Proofs.YtmcejkfknbjjkaaGreatDoor
/-
  The specification's ProveLeaf where all is right, at any level; what it answers is nil only with no room.
-/
namespace Go.Proofs.YtmcejkfknbjjkaaGreatDoor
open Go.RowKit Go.BigFrame Go.Sort
set_option linter.unusedVariables false
set_option linter.unusedSimpArgs false

theorem OL.nilF {B : Nat} {w0 w : World} {a : Option Addr} {n c : Nat} {l : List Le} (h : OL B w0 w (.slice a n c) l) : a = none → c = 0 := by
  rcases h.1.2 with ⟨hv, _⟩ | ⟨g, cap, cur, hv, _⟩
  · simp only [Value.slice.injEq] at hv
    exact fun _ => hv.2.2
  · simp only [Value.slice.injEq] at hv
    intro e
    rw [hv.1] at e
    cases e
theorem OS.nilF {B : Nat} {w0 w : World} {a : Option Addr} {n c : Nat} {l : List ByteArray} (h : OS B w0 w (.slice a n c) l) : a = none → c = 0 := by
  rcases h.1.2 with ⟨hv, _⟩ | ⟨g, cap, cur, hv, _⟩
  · simp only [Value.slice.injEq] at hv
    exact fun _ => hv.2.2
  · simp only [Value.slice.injEq] at hv
    intro e
    rw [hv.1] at e
    cases e

set_option maxRecDepth 100000 in
set_option maxHeartbeats 1000000 in
theorem sProveLeaf_lvl (v : Value) (ga oa : Nat) (L : List Le) (nm : ByteArray) (l x : Int) (w : World) (hv : RS 2 lcs w v ga oa L) (hsm : SmallL L) (hl : LV.leavesB L = true) (hn : okB nameB nm = true) (hl8 : 0 ≤ l ∧ l ≤ 8) (hx : 1 ≤ x ∧ x ≤ 32) (hnm : nm.size ≤ 1048576) :
    Calls Tryz.prog 114 #[v, .string nm, .int .i64 l, .int .i64 x] w fun e w' => ∃ ab cb aS cS gb gs, e = .returned (.tuple #[.agg #[.slice ab (bkL L (idxN nm)).length cb, .slice aS (sdA L (idxN nm) l x).length cS], .bool true]) ∧ RS 2 lcs w' (.slice ab (bkL L (idxN nm)).length cb) gb 0 (bkL L (idxN nm)) ∧ SS w' (.slice aS (sdA L (idxN nm) l x).length cS) gs 0 (sdA L (idxN nm) l x) ∧ (w.heap.size ≤ gb ∧ w.heap.size ≤ gs) ∧ ((ab = none → cb = 0) ∧ (aS = none → cS = 0)) ∧ Below w.heap.size w w' := by
  have hba : Below w.heap.size w (w.alloc (.cells #[.slice none 0 0, .slice none 0 0] 43)) := (Below.refl _ _).alloc (Nat.le_refl _) _
  have HPN : Hid (PfM (w.alloc (.cells #[.slice none 0 0, .slice none 0 0] 43)) w.heap.size (.slice none 0 0) (.slice none 0 0)) := PfM.new w _ _
  have HRS : Hid (∀ W, Below w.heap.size w W → RS 2 lcs W v ga oa L) := fun W hW => hv.later hW
  have hlo := sLeavesOk_any v ga oa L _ (HRS.out _ hba) hsm
  rw [hl] at hlo
  have HNK : Hid (∀ W, Calls Tryz.prog 69 #[.string nm] W fun e w' => e = .returned (.bool true) ∧ w' = W) := fun W => by
    have h := sNameOk_any nm W hnm
    rw [hn] at h
    exact h
  have HIX : Hid (∀ W, Calls Tryz.prog 72 #[.string nm] W fun e w' => e = .returned (.int .i64 (idxN nm : Int)) ∧ Below W.heap.size W w') := fun W => sIndexOf_any nm W hnm
  have HLL : Hid ((bkL L (idxN nm)).length ≤ 1100000 ∧ (sdA L (idxN nm) l x).length ≤ 1100000) := by
    refine ⟨Nat.le_trans (List.length_filter_le _ _) hv.len, ?_⟩
    unfold sdA
    split
    · rw [sdL_len]; omega
    · simp
  obtain ⟨ix, hix⟩ : ∃ ix : Int, (idxN nm : Int) = ix := ⟨_, rfl⟩
  rw [hix] at HIX HLL ⊢
  have HBK : Hid (∀ W, Below w.heap.size w W → Calls Tryz.prog 149 #[v, .int .i64 ix] W fun e w' => ∃ u, e = .returned u ∧ OL W.heap.size W w' u (bkL L ix)) := fun W hW => sBucketOf_any v ga oa L ix W (HRS.out W hW) hsm
  have HSD : Hid (∀ W, Below w.heap.size w W → Calls Tryz.prog 150 #[v, .int .i64 ix, .int .i64 l, .int .i64 x] W fun e w' => ∃ u, e = .returned u ∧ OS W.heap.size W w' u (sdA L ix l x)) := fun W hW => sSidesOf_any v ga oa L ix l x W (HRS.out W hW) hsm
  have HL2 : Hid (Calls Tryz.prog 70 #[v] (w.alloc (.cells #[.slice none 0 0, .slice none 0 0] 43)) fun e w' => e = .returned (.bool true) ∧ Below (w.alloc (.cells #[.slice none 0 0, .slice none 0 0] 43)).heap.size (w.alloc (.cells #[.slice none 0 0, .slice none 0 0] 43)) w') := hlo
  have d1 : decide ((0 : Int) ≤ l ∧ l ≤ 8) = true := by simpa using hl8
  have d2 : decide ((1 : Int) ≤ x ∧ x ≤ 32) = true := by simpa using hx
  clear hlo hv hsm hl hn hix HRS hx hnm hl8
  generalize bkL L ix = BK at *
  generalize sdA L ix l x = SD at *
  go_enter Tryz.func114, Tryz.ntmps114
  go_wp2_with fail
  refine HL2.out.mono ?_
  rintro e w1 ⟨rfl, hb1⟩
  have HP1 : Hid (PfM w1 w.heap.size (.slice none 0 0) (.slice none 0 0)) := HPN.out.later hb1
  have b1 : Below w.heap.size w w1 := hba.trans (hb1.mono hba.size)
  clear HL2 HPN hb1 hba
  go_wp2_with fail
  refine (HNK.out _).mono ?_
  rintro e w1' ⟨rfl, rfl⟩
  go_wp2_with fail
  refine (l01In_any _ _ _ _).mono ?_
  rintro e w1'' ⟨rfl, rfl⟩
  rw [d1]
  go_wp2_with fail
  refine (l01In_any _ _ _ _).mono ?_
  rintro e w2 ⟨rfl, rfl⟩
  rw [d2]
  go_wp2_with fail
  refine (HIX.out _).mono ?_
  rintro e w3 ⟨rfl, hb3⟩
  have HP3 := HP1.out.later hb3
  have b3 := b1.trans (hb3.mono b1.size)
  go_wp2_with fail
  refine (HBK.out _ b3).mono ?_
  rintro e w4 ⟨vb, rfl, ho4⟩
  have HP4 : Hid (PfM w4 w.heap.size (.slice none 0 0) (.slice none 0 0)) := HP3.later ho4.2.1
  have b4 := b3.trans (ho4.2.1.mono b3.size)
  have HG4 : Hid (w.heap.size < w3.heap.size) := HP3.lt
  obtain ⟨ab, cb, rfl⟩ := ho4.shape
  have HO4 : Hid (OL w3.heap.size w3 w4 (.slice ab BK.length cb) BK) := ho4
  clear ho4 hb3 HP1 HP3 b1 b3 HBK
  go_wp2_with fail
  refine (HIX.out _).mono ?_
  rintro e w5 ⟨rfl, hb5⟩
  have b5 := b4.trans (hb5.mono b4.size)
  have HP5 : Hid (PfM w5 w.heap.size (.slice none 0 0) (.slice none 0 0)) := HP4.out.later hb5
  have HO5 : Hid (OL w3.heap.size w3 w5 (.slice ab BK.length cb) BK) := HO4.out.later hb5
  clear HP4 HO4 HIX b4
  go_wp2_with fail
  refine (HSD.out _ b5).mono ?_
  rintro e w6 ⟨vs, rfl, ho6⟩
  have b6 := b5.trans (ho6.2.1.mono b5.size)
  have hp6 : PfM w6 w.heap.size (.slice none 0 0) (.slice none 0 0) := HP5.out.later ho6.2.1
  have HO6 : Hid (OL w3.heap.size w3 w6 (.slice ab BK.length cb) BK) := HO5.out.later ho6.2.1
  obtain ⟨aZ, cs, rfl⟩ := ho6.slice
  have HS6 : Hid (OS w5.heap.size w5 w6 (.slice aZ SD.length cs) SD ∧ w.heap.size < w5.heap.size) := ⟨ho6, HP5.out.lt⟩
  have hgr := grown_setRowP w6 w.heap.size #[.slice ab BK.length cb, .slice aZ SD.length cs]
  have HF : Hid (∃ a1 c1 a2 c2 gb gs, Ending.returned (.tuple #[.agg #[.slice ab BK.length cb, .slice aZ SD.length cs], .bool true]) = .returned (.tuple #[.agg #[.slice a1 BK.length c1, .slice a2 SD.length c2], .bool true]) ∧ RS 2 lcs (w6.setRow w.heap.size #[.slice ab BK.length cb, .slice aZ SD.length cs]) (.slice a1 BK.length c1) gb 0 BK ∧ SS (w6.setRow w.heap.size #[.slice ab BK.length cb, .slice aZ SD.length cs]) (.slice a2 SD.length c2) gs 0 SD ∧ (w.heap.size ≤ gb ∧ w.heap.size ≤ gs) ∧ ((a1 = none → c1 = 0) ∧ (a2 = none → c2 = 0)) ∧ Below w.heap.size w (w6.setRow w.heap.size #[.slice ab BK.length cb, .slice aZ SD.length cs])) := by
    obtain ⟨gb, hrw, hgb, _⟩ := HO6.out.rw HLL.out.1
    obtain ⟨gs, hts, hgs⟩ := HS6.out.1.ts HLL.out.2
    have l1 := HG4.out
    have l2 := HS6.out.2
    refine ⟨_, _, _, _, gb, gs, rfl, hrw.1.grown hgr (fun _ => by simp; omega), ?_, ⟨by omega, by omega⟩, ⟨HO6.out.nilF, HS6.out.1.nilF⟩, below_setRow b6 (Nat.le_refl _)⟩
    exact (hts.keptG hgr (fun _ => by simp; omega)).ss
  clear ho6 HO5 HO6 HP5 HS6 hb5 b5 b6 HSD HLL HG4 hgr
  go_wp2_with (refine wp_storePf rfl _ _ rfl w.heap.size _ _ (.slice ab BK.length cb) (.slice aZ SD.length cs) hp6 rfl rfl rfl rfl ?_; intro hfin)
  refine ret_pf2 8 9 w.heap.size _ _ _ rfl rfl rfl rfl hfin ?_
  exact HF.out

end Go.Proofs.YtmcejkfknbjjkaaGreatDoor
/-
  Plain facts of two proofs of one name with the same sides: if they end alike and say otherwise, the last unlike texts have one digest.
-/
namespace Go.Proofs.YtmcejkfknbjjkaaGreatDoor
open Go.RowKit
set_option linter.unusedVariables false
set_option linter.unusedSimpArgs false

theorem tag_12 {M : List Le} (hM : LV.LOk M) (h : btB [] = tagB 2 (TR.bkp M)) : False := by
  rw [btB_nil] at h
  unfold tagB at h
  rw [if_pos (show tagOk 1 [] = true by decide), if_pos (bkp_ok hM)] at h
  have sz : ∀ y ∈ TR.bkp M, y.size ≤ 1000000000 := fun y hy => by
    obtain ⟨f, hf, hfy⟩ := bkp_mem hy
    have := leB_size (hM.2.1 f hf)
    rcases hfy with rfl | rfl <;> omega
  have := (TR.tag_inj (k := 1) (k' := 2) (by omega) (by omega) (by simp) sz h).1
  omega
theorem btB_inj' {L M : List Le} (hL : LV.LOk L) (hM : LV.LOk M) (h : btB L = btB M) : L = M := by
  rcases Nat.eq_zero_or_pos L.length with h0 | h0
  · rcases Nat.eq_zero_or_pos M.length with h1 | h1
    · rw [List.length_eq_zero_iff.1 h0, List.length_eq_zero_iff.1 h1]
    · exfalso
      rw [List.length_eq_zero_iff.1 h0, btB_some h1] at h
      exact tag_12 hM h
  · rcases Nat.eq_zero_or_pos M.length with h1 | h1
    · exfalso
      rw [List.length_eq_zero_iff.1 h1, btB_some h0] at h
      exact tag_12 hL h.symm
    · exact btB_inj hL hM h0 h1 h

section
variable {ix : Nat} {x : Int} (h : 1 ≤ x ∧ x ≤ 32)
include h
theorem chain_step' (t0 t1 : ByteArray) {S : List ByteArray} (hw : ∀ s ∈ S, s.size ≤ 32) (i : Nat) (hi : i < S.length) (he : chT ix x t0 S (i + 1) = chT ix x t1 S (i + 1)) : cutH (chT ix x t0 S i) x = cutH (chT ix x t1 S i) x := by
  have e1 : S.getD i ⟨#[]⟩ = S[i]'(by omega) := by simp [List.getElem?_eq_getElem (show i < S.length by omega)]
  have s1 : (S[i]'(by omega)).size ≤ 200 := by
    have := hw (S[i]'(by omega)) (List.getElem_mem _)
    omega
  have c1 : (cutH (chT ix x t0 S i) x).size ≤ 200 := by rw [cutH_size h]; omega
  have c2 : (cutH (chT ix x t1 S i) x).size ≤ 200 := by rw [cutH_size h]; omega
  rw [chT, chT, e1] at he
  by_cases hb : bitI (ix : Int) (7 - i) = 1
  · rw [if_pos hb, if_pos hb] at he
    exact (tag3_inj s1 c1 s1 c2 he).2
  · rw [if_neg hb, if_neg hb] at he
    exact (tag3_inj c1 s1 c2 s1 he).1
theorem lu_chain {t0 t1 : ByteArray} {S : List ByteArray} (hw : ∀ s ∈ S, s.size ≤ 32) (hne : t0 ≠ t1) : ∀ m, m ≤ S.length → cutH (chT ix x t0 S m) x = cutH (chT ix x t1 S m) x →
    ∃ a b, lu (chL ix x t0 S (S.length + 1)) (chL ix x t1 S (S.length + 1)) (m + 1) = (a, b, true) ∧ a ≠ b ∧ cutH a x = cutH b x ∧ a.size ≤ (chT ix x t0 S m).size + b.size + a.size ∧ a ∈ chL ix x t0 S (S.length + 1) ∧ b ∈ chL ix x t1 S (S.length + 1) := by
  have g : ∀ (t : ByteArray) (i : Nat), i < S.length + 1 → (chL ix x t S (S.length + 1)).getD i ⟨#[]⟩ = chT ix x t S i := fun t i hi => by
    have hL : i < (chL ix x t S (S.length + 1)).length := by rw [chL_len]; exact hi
    rw [List.getD_eq_getElem?_getD, List.getElem?_eq_getElem hL, Option.getD_some, chL_at]
  have hmem : ∀ (t : ByteArray) (i : Nat), i < S.length + 1 → chT ix x t S i ∈ chL ix x t S (S.length + 1) := fun t i hi => List.mem_map.2 ⟨i, List.mem_range.2 hi, rfl⟩
  intro m
  induction m with
  | zero =>
    intro _ hc
    refine ⟨t0, t1, ?_, hne, hc, by omega, hmem t0 0 (by omega), hmem t1 0 (by omega)⟩
    rw [lu, g _ 0 (by omega), g _ 0 (by omega)]
    exact if_neg hne
  | succ m ih =>
    intro hm hc
    by_cases he : chT ix x t0 S (m + 1) = chT ix x t1 S (m + 1)
    · obtain ⟨a, b, hl, h1, h2, _, h4, h5⟩ := ih (by omega) (chain_step' h t0 t1 hw m (by omega) he)
      refine ⟨a, b, ?_, h1, h2, by omega, h4, h5⟩
      rw [lu, g _ _ (by omega), g _ _ (by omega), if_pos he]
      exact hl
    · refine ⟨_, _, ?_, he, hc, by omega, hmem t0 _ (by omega), hmem t1 _ (by omega)⟩
      rw [lu, g _ _ (by omega), g _ _ (by omega), if_neg he]
end

/-- two proofs of one name with the same sides are right -/
theorem pf_both {nm : ByteArray} {B : List Le} {S : List ByteArray} {x : Int} (hn : okB nameB nm = true) (h : 1 ≤ x ∧ x ≤ 32) (hB : LV.LOk B) (hi : ∀ f ∈ B, idxN f.n = idxN nm) (h8 : S.length ≤ 8) (hS : ∀ s ∈ S, s.size = x.toNat) : pfOk nm B S x = true := by
  rw [pfOk_yes hn (LV.leavesB_iff.2 hB) h8 ?_]
  · rw [List.all_eq_true]
    intro f hf
    rw [decide_eq_true_eq]
    exact hi f hf
  · rw [wideB_good fun j hj => ?_]
    · simpa using h
    · rw [hS _ (List.getElem_mem _)]
      omega
theorem ptA_yes {nm : ByteArray} {B : List Le} {S : List ByteArray} {x : Int} (hp : pfOk nm B S x = true) : ptA nm B S x = chL (idxN nm) x (btB B) S (S.length + 1) := by
  unfold ptA
  rw [if_pos hp]
theorem phA_yes {nm : ByteArray} {B : List Le} {S : List ByteArray} {x : Int} (hp : pfOk nm B S x = true) : phA nm B S x = cutH (chT (idxN nm) x (btB B) S S.length) x := by
  unfold phA
  rw [ptA_yes hp, lastH_at (k := S.length) (chL_len _ _ _ _ _), chL_at]
/-- **what ExtractTwo finds** -/
theorem xt_found {nm : ByteArray} {B C : List Le} {S : List ByteArray} {x : Int} (h : 1 ≤ x ∧ x ≤ 32) (hB : LV.LOk B) (hC : LV.LOk C) (hS : ∀ s ∈ S, s.size = x.toNat) (hp : pfOk nm B S x = true) (hq : pfOk nm C S x = true) (hh : phA nm B S x = phA nm C S x) (hs : sayB B C nm = false) :
    ∃ a b, xtR nm B S C S x = (a, b, true) ∧ a ≠ b ∧ cutH a x = cutH b x ∧ a.size ≤ 12601 ∧ b.size ≤ 12601 := by
  have hne : btB B ≠ btB C := fun he => by
    rw [btB_inj' hB hC he] at hs
    unfold sayB at hs
    simp at hs
  rw [phA_yes hp, phA_yes hq] at hh
  obtain ⟨a, b, hl, h1, h2, _, h4, h5⟩ := lu_chain (ix := idxN nm) h (S := S) (fun s hs => by rw [hS s hs]; omega) hne S.length (Nat.le_refl _) hh
  refine ⟨a, b, ?_, h1, h2, ?_, ?_⟩
  · unfold xtR
    rw [phA_yes hp, phA_yes hq, ptA_yes hp, ptA_yes hq, chL_len, chL_len, if_neg, hl]
    rw [hs]
    simp [hh]
  · exact ptA_size (nm := nm) (B := B) (S := S) (x := x) a (by rw [ptA_yes hp]; exact h4)
  · exact ptA_size (nm := nm) (B := C) (S := S) (x := x) b (by rw [ptA_yes hq]; exact h5)
theorem xt_none {nm : ByteArray} {B C : List Le} {S T : List ByteArray} {x : Int} (h : phA nm B S x ≠ phA nm C T x ∨ sayB B C nm = true) : xtR nm B S C T x = (⟨#[]⟩, ⟨#[]⟩, false) := by
  unfold xtR
  rw [if_pos]
  rcases h with h | h
  · exact .inr (.inr (.inl h))
  · exact .inr (.inr (.inr h))

end Go.Proofs.YtmcejkfknbjjkaaGreatDoor
/-
  A proof copied by the specification.
-/
namespace Go.Proofs.YtmcejkfknbjjkaaGreatDoor
open Go.RowKit Go.BigFrame Go.Sort
set_option linter.unusedVariables false
set_option linter.unusedSimpArgs false

section
variable {w : World} {ops : Array Oper} {o : Oper} {a : Act} {K : Act → World → Prop} {Q : Exit → Act → World → Prop}
/-- a whole row of texts appended to an empty one, as one step of a region that draws its order -/
theorem step_rowT {E : Prop} (hgd : o.guard = none) (s x : Operand)
    (ho : o.op = .call { callee := .builtin .append, args := #[s, x], argTypes := #[29, 29] })
    (B : Nat) (w0 : World) (v : Value) (hs : a.eval s = v) (h : OS B w0 w v []) (p : Option Addr) (cap g : Nat) (r : List ByteArray) (hx : a.eval x = .slice p r.length cap) (hr : SS w (.slice p r.length cap) g 0 r) (hnil : p = none → cap = 0) (hlen : r.length ≤ 1000000)
    (hk : ∀ v' w', OS B w0 w' v' r → w.grownBy w' v.ownBlock → K (a.put o.dst v') w') : if Region.wanted o (yielded ops a.tmps) = true then Oper.wp Tryz.prog o a w K Q else E := by
  obtain ⟨i0, hi, hz0, hz1, hz2⟩ := info_parts Tryz.info9
  have key : ∃ v' w', (Builtin.append_ #[29, 29] o.type #[v, .slice p r.length cap]).run Tryz.prog w = .ok v' w' ∧ OS B w0 w' v' r ∧ w.grownBy w' v.ownBlock := by
    obtain ⟨p', cap', ev, _, hA, hc⟩ := hr
    obtain ⟨rfl, rfl⟩ : p = p' ∧ cap = cap' := by simpa using ev
    cases p with
    | none =>
      have h0 : r.length = 0 := by
        rcases Nat.eq_zero_or_pos r.length with h0 | h0
        · exact h0
        · exact absurd (hA h0) (by simp)
      have hr0 : r = [] := List.length_eq_zero_iff.1 h0
      subst hr0
      have := hnil rfl
      subst this
      exact ⟨v, w, run_append_owned_none (P := Tryz.prog) w B 29 o.type 9 i0 1 Tryz.underlying29 hi v 0 [] h.1, h, World.grownBy.refl _ _⟩
    | some ad =>
      obtain ⟨v', w', hrun, h1, h2, _⟩ := run_append_own (P := Tryz.prog) w B 29 o.type 9 i0 (.string ByteArray.empty) 1 16 Tryz.underlying29 hi hz0 hz1 hz2 rfl (by decide) v 0 (svs []) h.1 ad r.length cap (svs r) (by simp [svs]) (by
          intro j u hj
          have hj2 : j < r.length := by
            have := (List.getElem?_eq_some_iff.1 hj).1
            simpa [svs] using this
          have ea := hA (by omega)
          simp only [Option.some.injEq] at ea
          subst ea
          have e : (⟨g, 0, none⟩ : Addr).add j = ⟨g, 0 + j, none⟩ := by unfold Addr.add; split <;> simp_all
          rw [e, hc j hj2]
          simp [svs, List.getElem?_eq_getElem hj2] at hj
          rw [hj])
        (fun u hu => by simp [svs] at hu; obtain ⟨b, _, rfl⟩ := hu; rfl) (by unfold maxLen; omega) (by omega) h.2.2
      exact ⟨v', w', hrun, ⟨by simpa [svs] using h1, h.2.1.grown h2 h.2.2 (fun k hk => (h.1.lt k hk).1), Nat.le_trans h.2.2 h2.size⟩, h2⟩
  obtain ⟨v', w', hrun, h1, h2⟩ := key
  have hw : Region.wanted o (yielded ops a.tmps) = true := by simp [Region.wanted, hgd]
  rw [if_pos hw]
  unfold Oper.wp
  simp [execOp, ho, resolve, invoke, builtin, hs, hx, hrun, Result.andThen]
  exact hk _ _ h1 h2
/-- .. of leaves -/
theorem step_rowL {E : Prop} (hgd : o.guard = none) (s x : Operand)
    (ho : o.op = .call { callee := .builtin .append, args := #[s, x], argTypes := #[24, 24] })
    (B : Nat) (w0 : World) (v : Value) (hs : a.eval s = v) (h : OL B w0 w v []) (p : Option Addr) (cap g : Nat) (r : List Le) (hx : a.eval x = .slice p r.length cap) (hr : RS 2 lcs w (.slice p r.length cap) g 0 r) (hnil : p = none → cap = 0) (hlen : r.length ≤ 1000000)
    (hk : ∀ v' w', OL B w0 w' v' r → w.grownBy w' v.ownBlock → K (a.put o.dst v') w') : if Region.wanted o (yielded ops a.tmps) = true then Oper.wp Tryz.prog o a w K Q else E := by
  obtain ⟨i0, hi, hz0, hz1, hz2⟩ := info_parts Tryz.infoLeaf
  have key : ∃ v' w', (Builtin.append_ #[24, 24] o.type #[v, .slice p r.length cap]).run Tryz.prog w = .ok v' w' ∧ OL B w0 w' v' r ∧ w.grownBy w' v.ownBlock := by
    obtain ⟨p', cap', ev, _, hA, hc⟩ := hr
    obtain ⟨rfl, rfl⟩ : p = p' ∧ cap = cap' := by simpa using ev
    cases p with
    | none =>
      have h0 : r.length = 0 := by
        rcases Nat.eq_zero_or_pos r.length with h0 | h0
        · exact h0
        · exact absurd (hA h0).1 (by simp)
      have hr0 : r = [] := List.length_eq_zero_iff.1 h0
      subst hr0
      have := hnil rfl
      subst this
      exact ⟨v, w, run_append_owned_none (P := Tryz.prog) w B 24 o.type 34 i0 2 Tryz.underlying24 hi v 0 [] h.1, h, World.grownBy.refl _ _⟩
    | some ad =>
      obtain ⟨v', w', hrun, h1, h2, _⟩ := run_append_own (P := Tryz.prog) w B 24 o.type 34 i0 _ 2 32 Tryz.underlying24 hi hz0 hz1 hz2 rfl (by decide) v 0 [] h.1 ad r.length cap (r.flatMap lcs) (flat_len (k := 2) (enc := lcs) (fun x => lcs_len x) r) (by
          intro j u hj
          have hj2 : 0 < r.length := by
            rcases Nat.eq_zero_or_pos r.length with h0 | h0
            · rw [List.length_eq_zero_iff.1 h0] at hj
              simp at hj
            · exact h0
          have ea := (hA hj2).1
          simp only [Option.some.injEq] at ea
          subst ea
          have := flat_cellsL hc j u hj
          rw [Addr.add_mid]
          exact this)
        oneL (by unfold maxLen; omega) (by omega) h.2.2
      exact ⟨v', w', hrun, ⟨by simpa using h1, h.2.1.grown h2 h.2.2 (fun k hk => (h.1.lt k hk).1), Nat.le_trans h.2.2 h2.size⟩, h2⟩
  obtain ⟨v', w', hrun, h1, h2⟩ := key
  have hw : Region.wanted o (yielded ops a.tmps) = true := by simp [Region.wanted, hgd]
  rw [if_pos hw]
  unfold Oper.wp
  simp [execOp, ho, resolve, invoke, builtin, hs, hx, hrun, Result.andThen]
  exact hk _ _ h1 h2
end

theorem OS.madeF (B : Nat) (w0 w : World) (hb : Below B w0 w) (hB : B ≤ w.heap.size) : OS B w0 (w.alloc (.cells #[] 9)) (.slice (some ⟨w.heap.size, 0, none⟩) 0 0) [] :=
  ⟨World.ownsRow_made w #[] 0 hB (by decide) (by simp), hb.alloc hB _, by simp; omega⟩
theorem OS.keptF {B : Nat} {w0 w w' : World} {v : Value} {row : Option Nat} {l : List ByteArray} (h : OS B w0 w v l) (hg : w.grownBy w' row) (hB : ∀ k, row = some k → B ≤ k) (hne : v.ownBlock = none ∨ v.ownBlock ≠ row) : OS B w0 w' v l :=
  ⟨World.ownsRow.kept h.1 hg hne, h.2.1.grown hg h.2.2 hB, Nat.le_trans h.2.2 hg.size⟩
/-- a row of leaves and a row of texts are no one's both -/
theorem OL.neF {B B' : Nat} {w0 w1 w : World} {u v : Value} {l : List Le} {r : List ByteArray} (h : OL B w0 w u l) (k : OS B' w1 w v r) {q : Nat} (hq : v.ownBlock = some q) : u.ownBlock ≠ some q := by
  rcases k.1.2 with ⟨hv, _⟩ | ⟨g', cap, cur, hv, _, hg, _⟩
  · rw [hv] at hq; cases hq
  · rw [hv] at hq
    have : g' = q := by simpa [Value.ownBlock] using hq
    subst this
    exact h.ne hg (by decide)
theorem OL.overF {B : Nat} {w0 w w' : World} {u v : Value} {l : List Le} (h : OL B w0 w u l) (k : OS B w0 w v []) (hg : w.grownBy w' v.ownBlock) : OL B w0 w' u l := h.grown hg (fun q hq => ⟨(k.1.lt q hq).1, h.neF k hq⟩)
theorem OS.overF {B : Nat} {w0 w w' : World} {u v : Value} (h : OL B w0 w u []) (k : OS B w0 w v []) (hg : w.grownBy w' u.ownBlock) : OS B w0 w' v [] := k.keptF hg (fun q hq => (h.1.lt q hq).1) (by
  cases hv : v.ownBlock with
  | none => exact .inl rfl
  | some q => exact .inr (fun he => h.neF k hv he.symm))
theorem fco_end {w wS w7 : World} {v3 v7 : Value} {L : List Le} {S : List ByteArray} (hs : wS.heap.size = w.heap.size + 2) (hbw : Below w.heap.size w wS) (hP : PfM w7 (w.heap.size + 1) (.slice none 0 0) (.slice none 0 0)) (h3 : OL wS.heap.size wS w7 v3 L) (h7 : OS wS.heap.size wS w7 v7 S) (l1 : L.length ≤ 1000000) (l2 : S.length ≤ 1000000) :
    ∃ g1 g2, (w.heap.size ≤ g1 ∧ w.heap.size ≤ g2) ∧ PfM ((w7.setCell ⟨w.heap.size + 1, 0, none⟩ v3).setCell ⟨w.heap.size + 1, 1, none⟩ v7) (w.heap.size + 1) v3 v7 ∧ RS 2 lcs ((w7.setCell ⟨w.heap.size + 1, 0, none⟩ v3).setCell ⟨w.heap.size + 1, 1, none⟩ v7) v3 g1 0 L ∧ SS ((w7.setCell ⟨w.heap.size + 1, 0, none⟩ v3).setCell ⟨w.heap.size + 1, 1, none⟩ v7) v7 g2 0 S ∧ Below w.heap.size w ((w7.setCell ⟨w.heap.size + 1, 0, none⟩ v3).setCell ⟨w.heap.size + 1, 1, none⟩ v7) := by
  obtain ⟨g1, hr, hB1, _⟩ := h3.rw (by omega)
  obtain ⟨g2, ht, hB2⟩ := h7.ts (by omega)
  have n1 : some g1 ≠ some (w.heap.size + 1) := by simp; omega
  have n2 : some g2 ≠ some (w.heap.size + 1) := by simp; omega
  refine ⟨g1, g2, ⟨by omega, by omega⟩, (hP.set0 _).set1 _, ?_, ?_, ?_⟩
  · exact (hr.1.grown (grown_set _ _ _ _) (fun _ => n1)).grown (grown_set _ _ _ _) (fun _ => n1)
  · exact ((ht.keptG (grown_set _ _ _ _) (fun _ => n2)).keptG (grown_set _ _ _ _) (fun _ => n2)).ss
  · have b7 : Below w.heap.size w w7 := hbw.trans (h7.2.1.mono (by omega))
    exact Below.setCell (p := ⟨w.heap.size + 1, 1, none⟩) (Below.setCell (p := ⟨w.heap.size + 1, 0, none⟩) b7 (by simp) _) (by simp) _

set_option maxRecDepth 100000 in
set_option maxHeartbeats 1000000 in
theorem l11Copy_any (ab : Option Addr) (cb : Nat) (aS : Option Addr) (cS : Nat) (gb gs : Nat) (L : List Le) (S : List ByteArray) (w : World) (hb : RS 2 lcs w (.slice ab L.length cb) gb 0 L) (hs : SS w (.slice aS S.length cS) gs 0 S) (hn1 : ab = none → cb = 0) (hn2 : aS = none → cS = 0) (hl1 : L.length ≤ 1000000) (hl2 : S.length ≤ 1000000) :
    Calls Tryz.prog 102 #[.agg #[.slice ab L.length cb, .slice aS S.length cS]] w fun e w' => ∃ a1 c1 a2 c2 g1 g2, e = .returned (.agg #[.slice a1 L.length c1, .slice a2 S.length c2]) ∧ RS 2 lcs w' (.slice a1 L.length c1) g1 0 L ∧ SS w' (.slice a2 S.length c2) g2 0 S ∧ (w.heap.size ≤ g1 ∧ w.heap.size ≤ g2) ∧ Below w.heap.size w w' := by
  obtain ⟨p0, p1⟩ := run_rangeP (w := w) (p := 0) (v1 := .slice ab L.length cb) (v2 := .slice aS S.length cS) 43
  have hba : Below w.heap.size w ((w.alloc (.cells #[.slice ab L.length cb, .slice aS S.length cS] 43)).alloc (.cells #[.slice none 0 0, .slice none 0 0] 43)) := ((Below.refl _ _).alloc (Nat.le_refl _) _).alloc (by simp) _
  have c0 : ((w.alloc (.cells #[.slice ab L.length cb, .slice aS S.length cS] 43)).alloc (.cells #[.slice none 0 0, .slice none 0 0] 43)).cell? ⟨w.heap.size, 0, none⟩ = some (.slice ab L.length cb) := cell_up p0 ((Below.refl _ _).alloc (Nat.le_refl _) _)
  have c1 : ((w.alloc (.cells #[.slice ab L.length cb, .slice aS S.length cS] 43)).alloc (.cells #[.slice none 0 0, .slice none 0 0] 43)).cell? ⟨w.heap.size, 1, none⟩ = some (.slice aS S.length cS) := cell_up p1 ((Below.refl _ _).alloc (Nat.le_refl _) _)
  have hP : PfM ((w.alloc (.cells #[.slice ab L.length cb, .slice aS S.length cS] 43)).alloc (.cells #[.slice none 0 0, .slice none 0 0] 43)) (w.heap.size + 1) (.slice none 0 0) (.slice none 0 0) := by
    have h := PfM.new (w.alloc (.cells #[.slice ab L.length cb, .slice aS S.length cS] 43)) (.slice none 0 0) (.slice none 0 0)
    rw [World.size_alloc] at h
    exact h
  have hsz : ((w.alloc (.cells #[.slice ab L.length cb, .slice aS S.length cS] 43)).alloc (.cells #[.slice none 0 0, .slice none 0 0] 43)).heap.size = w.heap.size + 2 := by simp
  go_enter Tryz.func102, Tryz.ntmps102
  go_wp2_with fail
  clear p0 p1
  generalize (w.alloc (.cells #[.slice ab L.length cb, .slice aS S.length cS] 43)).alloc (.cells #[.slice none 0 0, .slice none 0 0] 43) = wS at *
  have HR : Hid (∀ W, Below wS.heap.size wS W → RS 2 lcs W (.slice ab L.length cb) gb 0 L) := fun W hW => (hb.later hba).later hW
  have HS : Hid (∀ W, Below wS.heap.size wS W → SS W (.slice aS S.length cS) gs 0 S) := fun W hW => (hs.below (hba.trans (hW.mono hba.size)) hs.lt)
  have HC : Hid (∀ W, Below wS.heap.size wS W → W.cell? ⟨w.heap.size, 0, none⟩ = some (.slice ab L.length cb) ∧ W.cell? ⟨w.heap.size, 1, none⟩ = some (.slice aS S.length cS)) := fun W hW => ⟨cell_up c0 hW, cell_up c1 hW⟩
  have HP : Hid (∀ W, Below wS.heap.size wS W → PfM W (w.heap.size + 1) (.slice none 0 0) (.slice none 0 0)) := fun W hW => hP.later hW
  have HE : Hid (∀ (w7 : World) (v3 v7 : Value), OL wS.heap.size wS w7 v3 L → OS wS.heap.size wS w7 v7 S → ∃ g1 g2, (w.heap.size ≤ g1 ∧ w.heap.size ≤ g2) ∧ PfM ((w7.setCell ⟨w.heap.size + 1, 0, none⟩ v3).setCell ⟨w.heap.size + 1, 1, none⟩ v7) (w.heap.size + 1) v3 v7 ∧ RS 2 lcs ((w7.setCell ⟨w.heap.size + 1, 0, none⟩ v3).setCell ⟨w.heap.size + 1, 1, none⟩ v7) v3 g1 0 L ∧ SS ((w7.setCell ⟨w.heap.size + 1, 0, none⟩ v3).setCell ⟨w.heap.size + 1, 1, none⟩ v7) v7 g2 0 S ∧ Below w.heap.size w ((w7.setCell ⟨w.heap.size + 1, 0, none⟩ v3).setCell ⟨w.heap.size + 1, 1, none⟩ v7)) := fun w7 v3 v7 h3 h7 => fco_end hsz hba (hP.later h7.2.1) h3 h7 hl1 hl2
  have bd : ∀ {B : Nat} {w0 W : World}, Below B w0 W → Below B w0 W.drew := fun h => h.drew
  have hr0 := Below.refl wS.heap.size wS
  have OA : OL wS.heap.size wS (wS.alloc (.cells #[] 34)).drew (.slice (some ⟨wS.heap.size, 0, none⟩) 0 0) [] := (OL.made _ _ _ hr0 (Nat.le_refl _)).later (bd (Below.refl _ _))
  have OB1 : OL wS.heap.size wS ((wS.alloc (.cells #[] 34)).alloc (.cells #[] 9)).drew (.slice (some ⟨wS.heap.size, 0, none⟩) 0 0) [] := (OL.made _ _ _ hr0 (Nat.le_refl _)).later (bd ((Below.refl _ _).alloc (Nat.le_refl _) _))
  have OB2 : OS wS.heap.size wS ((wS.alloc (.cells #[] 34)).alloc (.cells #[] 9)).drew (.slice (some ⟨wS.heap.size + 1, 0, none⟩) 0 0) [] := by
    have h := OS.madeF wS.heap.size wS (wS.alloc (.cells #[] 34)) (hr0.alloc (Nat.le_refl _) _) (by simp)
    rw [World.size_alloc] at h
    exact h.drew
  have OC1 : OL wS.heap.size wS ((wS.alloc (.cells #[] 9)).alloc (.cells #[] 34)).drew (.slice (some ⟨wS.heap.size + 1, 0, none⟩) 0 0) [] := by
    have h := OL.made wS.heap.size wS (wS.alloc (.cells #[] 9)) (hr0.alloc (Nat.le_refl _) _) (by simp)
    rw [World.size_alloc] at h
    exact h.later (bd (Below.refl _ _))
  have OC2 : OS wS.heap.size wS ((wS.alloc (.cells #[] 9)).alloc (.cells #[] 34)).drew (.slice (some ⟨wS.heap.size, 0, none⟩) 0 0) [] := ((OS.madeF _ _ _ hr0 (Nat.le_refl _)).alloc _).drew
  clear hb hs hba hP hr0 bd hsz
  go_region_held3 (fun W => W.cell? ⟨w.heap.size, 0, none⟩ = some (.slice ab L.length cb) ∧ W.cell? ⟨w.heap.size, 1, none⟩ = some (.slice aS S.length cS)) (first | (go_keep; done) | exact HC.out _ ho7.2.1 | exact HC.out _ hO7.2.1 | exact HC.out _ ho3.2.1 | exact HC.out _ OB1.2.1 | exact HC.out _ OC1.2.1 | exact HC.out _ OA.2.1) (first | (refine step_rowL rfl _ _ rfl wS.heap.size wS _ (by rfl) OB1 ab cb gb L (by rfl) (HR.out _ OB1.2.1) hn1 hl1 ?_; intro v3 w3 ho3 hg3; obtain ⟨a3, c3, rfl⟩ := ho3.shape; have hO7 := OS.overF OB1 OB2 hg3; have hL7 := ho3) | (refine step_rowL rfl _ _ rfl wS.heap.size wS _ (by rfl) OC1 ab cb gb L (by rfl) (HR.out _ OC1.2.1) hn1 hl1 ?_; intro v3 w3 ho3 hg3; obtain ⟨a3, c3, rfl⟩ := ho3.shape; have hO7 := OS.overF OC1 OC2 hg3; have hL7 := ho3) | (refine step_rowL rfl _ _ rfl wS.heap.size wS _ (by rfl) OA ab cb gb L (by rfl) (HR.out _ OA.2.1) hn1 hl1 ?_; intro v3 w3 ho3 hg3; obtain ⟨a3, c3, rfl⟩ := ho3.shape; have hO7 := OS.madeF _ _ w3 ho3.2.1 ho3.2.2; have hL7 := ho3.later ((Below.refl w3.heap.size w3).alloc (Nat.le_refl _) (.cells #[] 9))) | (refine step_rowT rfl _ _ rfl wS.heap.size wS _ (by rfl) hO7 aS cS gs S (by rfl) (HS.out _ hO7.2.1) hn2 hl2 ?_; intro v7 w7 ho7 hg7; obtain ⟨a7, c7, rfl⟩ := ho7.slice; have hL8 := OL.overF hL7 hO7 hg7; have t0 := (HP.out _ ho7.2.1).c0; have t1 := (HP.out _ ho7.2.1).c1; have f0 := (HP.out _ ho7.2.1).fr 0; have f1 := (HP.out _ ho7.2.1).fr 1) | fail)
  all_goals (obtain ⟨g1, g2, e0, e1, e2, e3, e4⟩ := HE.out _ _ _ hL8 ho7)
  all_goals (generalize (w7.setCell ⟨w.heap.size + 1, 0, none⟩ (.slice a3 L.length c3)).setCell ⟨w.heap.size + 1, 1, none⟩ (.slice a7 S.length c7) = wF at *)
  all_goals clear HR HS HC HP HE OA OB1 OB2 OC1 OC2 ho3 hg3 hO7 hL7 ho7 hg7 hL8 t0 t1 f0 f1
  all_goals go_wp2
  all_goals exact ret_pf1 2 (w.heap.size + 1) _ _ rfl rfl rfl e1 ⟨a3, c3, a7, c7, g1, g2, rfl, e2, e3, e0, e4⟩

end Go.Proofs.YtmcejkfknbjjkaaGreatDoor
