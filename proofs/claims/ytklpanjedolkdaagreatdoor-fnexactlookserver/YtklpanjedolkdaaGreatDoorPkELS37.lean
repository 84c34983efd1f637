/-
  Texts laid together: Pv, Ji, Tsz.
-/
import Derived.Test.YtklpanjedolkdaaGreatDoorPkELS34
import Derived.Test.YtklpanjedolkdaaGreatDoorPkELS36
import Derived.Test.YtklpanjedolkdaaGreatDoorPkELS29
import Derived.Test.YtklpanjedolkdaaGreatDoorPkELS18
import Derived.Test.YtklpanjedolkdaaGreatDoorPkELS27
import Derived.Lib.QuietBelow
import Derived.Test.YtklpanjedolkdaaGreatDoorPkELS8
import Derived.Test.YtklpanjedolkdaaGreatDoorPkELS6
/-
  The proof of a name: the program's and the specification's answers, at any argument.
-/
namespace Go.Proofs.YtklpanjedolkdaaGreatDoor
open Go.RowKit Go.BigFrame Go.Sort
set_option linter.unusedVariables false
set_option linter.unusedSimpArgs false

theorem OS.cap {B : Nat} {w0 w : World} {a : Option Addr} {n c : Nat} {l : List ByteArray} (h : OS B w0 w (.slice a n c) l) : l.length ≤ c := by
  rcases h.1.2 with ⟨hv, hn⟩ | ⟨g, cap, cur, hv, hbg, hg, hca, rest⟩
  · have : l.length = 0 := hn
    omega
  · simp only [Value.slice.injEq] at hv
    omega
noncomputable def pvOk (L : List Le) (nm : ByteArray) (l x : Int) : Bool := LV.leavesB L && okB nameB nm && decide (0 ≤ l ∧ l ≤ 8) && decide (1 ≤ x ∧ x ≤ 32)
noncomputable def pvB (L : List Le) (nm : ByteArray) (l x : Int) : List Le := if pvOk L nm l x then bkL L (idxN nm) else []
noncomputable def pvS (L : List Le) (nm : ByteArray) (l x : Int) : List ByteArray := if pvOk L nm l x then sdA L (idxN nm) l x else []

set_option maxRecDepth 100000 in
set_option maxHeartbeats 2000000 in
theorem sProveLeaf_any (v : Value) (ga oa : Nat) (L : List Le) (nm : ByteArray) (l x : Int) (w : World) (hv : RS 2 lcs w v ga oa L) (hsm : SmallL L) (hnm : nm.size ≤ 1048576) :
    Calls Tryz.prog 65 #[v, .string nm, .int .i64 l, .int .i64 x] w (PvP (pvB L nm l x) (pvS L nm l x) (pvOk L nm l x) w) := by
  have hba : Below w.heap.size w (w.alloc (.cells #[.slice none 0 0, .slice none 0 0] 55)) := (Below.refl _ _).alloc (Nat.le_refl _) _
  have HPN : Hid (PfM (w.alloc (.cells #[.slice none 0 0, .slice none 0 0] 55)) w.heap.size (.slice none 0 0) (.slice none 0 0)) := PfM.new w _ _
  have HRS : Hid (∀ W, Below w.heap.size w W → RS 2 lcs W v ga oa L) := fun W hW => hv.later hW
  have hlo := sLeavesOk_any v ga oa L _ (HRS.out _ hba) hsm
  have HNK : Hid (∀ W, Calls Tryz.prog 111 #[.string nm] W fun e w' => e = .returned (.bool (okB nameB nm)) ∧ w' = W) := fun W => sNameOk_any nm W hnm
  have HIX : Hid (∀ W, Below w.heap.size w W → Calls Tryz.prog 109 #[.string nm] W fun e w' => e = .returned (.int .i64 (idxN nm : Int)) ∧ Below W.heap.size W w') := fun W hW => sIndexOf_any nm W hnm
  have HLL : Hid ((bkL L (idxN nm)).length ≤ 1100000 ∧ (sdA L (idxN nm) l x).length ≤ 1100000) := ⟨Nat.le_trans (List.length_filter_le _ _) hv.len, Nat.le_trans (sdA_len _ _ _ _) (by omega)⟩
  have HYB : Hid (∀ (b : Bool), pvOk L nm l x = b → pvB L nm l x = (if b then bkL L (idxN nm) else []) ∧ pvS L nm l x = (if b then sdA L (idxN nm) l x else [])) := fun b h => ⟨by unfold pvB; rw [h], by unfold pvS; rw [h]⟩
  obtain ⟨R, hR⟩ : ∃ R, pvOk L nm l x = R := ⟨_, rfl⟩
  obtain ⟨e1, e2⟩ := HYB.out R hR
  have hR2 : R = (LV.leavesB L && okB nameB nm && decide (0 ≤ l ∧ l ≤ 8) && decide (1 ≤ x ∧ x ≤ 32)) := hR.symm
  rw [hR]
  clear hR HYB
  obtain ⟨BB, hBB⟩ : ∃ BB, pvB L nm l x = BB := ⟨_, rfl⟩
  obtain ⟨SB, hSB⟩ : ∃ SB, pvS L nm l x = SB := ⟨_, rfl⟩
  rw [hBB] at e1
  rw [hSB] at e2
  rw [hBB, hSB]
  have HE : Hid (BB = (if R then bkL L (idxN nm) else []) ∧ SB = (if R then sdA L (idxN nm) l x else [])) := ⟨e1, e2⟩
  clear e1 e2 hBB hSB
  obtain ⟨ix, hix⟩ : ∃ ix : Int, (idxN nm : Int) = ix := ⟨_, rfl⟩
  rw [hix] at HIX HLL HE
  have HBK : Hid (∀ W, Below w.heap.size w W → Calls Tryz.prog 112 #[v, .int .i64 ix] W fun e w' => ∃ u, e = .returned u ∧ OL W.heap.size W w' u (bkL L ix)) := fun W hW => sBucketOf_any v ga oa L ix W (HRS.out W hW) hsm
  have HSD : Hid (∀ W, Below w.heap.size w W → Calls Tryz.prog 113 #[v, .int .i64 ix, .int .i64 l, .int .i64 x] W fun e w' => ∃ u, e = .returned u ∧ OS W.heap.size W w' u (sdA L ix l x)) := fun W hW => sSidesOf_any v ga oa L ix l x W (HRS.out W hW) hsm
  clear hv hsm hix HRS
  generalize bkL L ix = BK at *
  generalize sdA L ix l x = SD at *
  generalize LV.leavesB L = A1 at *
  generalize okB nameB nm = A2 at *
  obtain ⟨A3, d1⟩ : ∃ A3, decide ((0 : Int) ≤ l ∧ l ≤ 8) = A3 := ⟨_, rfl⟩
  obtain ⟨A4, d2⟩ : ∃ A4, decide ((1 : Int) ≤ x ∧ x ≤ 32) = A4 := ⟨_, rfl⟩
  rw [d1, d2] at hR2
  go_enter Tryz.func65, Tryz.ntmps65
  go_wp2_with fail
  refine hlo.mono ?_
  rintro e w1 ⟨rfl, hb1⟩
  have HP1 : Hid (PfM w1 w.heap.size (.slice none 0 0) (.slice none 0 0)) := HPN.out.later hb1
  have b1 : Below w.heap.size w w1 := hba.trans (hb1.mono hba.size)
  clear hlo HPN hb1 hba
  have HNO : Hid (PvP [] [] false w (.returned (.tuple #[.agg #[.slice none 0 0, .slice none 0 0], .bool false])) (w1.setRow w.heap.size #[.slice none 0 0, .slice none 0 0])) := PvP.no (below_setRow b1 (Nat.le_refl _))
  cases A1 with
  | false =>
    obtain rfl : R = false := by rw [hR2]; rfl
    clear hR2
    clear HIX HLL HBK HSD
    go_wp2_with (refine wp_storePf rfl _ _ rfl w.heap.size _ _ (.slice none 0 0) (.slice none 0 0) HP1.out rfl rfl rfl rfl ?_; intro hfin)
    refine ret_pf2 8 9 w.heap.size _ _ _ rfl rfl rfl rfl hfin ?_
    obtain ⟨rfl, rfl⟩ := HE.out
    exact HNO.out

  | true =>
    go_wp2_with fail
    refine (HNK.out _).mono ?_
    rintro e w1' ⟨rfl, rfl⟩
    cases A2 with
    | false =>
      obtain rfl : R = false := by rw [hR2]; rfl
      clear hR2
      clear HIX HLL HBK HSD
      go_wp2_with (refine wp_storePf rfl _ _ rfl w.heap.size _ _ (.slice none 0 0) (.slice none 0 0) HP1.out rfl rfl rfl rfl ?_; intro hfin)
      refine ret_pf2 8 9 w.heap.size _ _ _ rfl rfl rfl rfl hfin ?_
      obtain ⟨rfl, rfl⟩ := HE.out
      exact HNO.out

    | true =>
      go_wp2_with fail
      refine (l01In_any _ _ _ _).mono ?_
      rintro e w1'' ⟨rfl, rfl⟩
      rw [d1]
      cases A3 with
      | false =>
        obtain rfl : R = false := by rw [hR2]; rfl
        clear hR2
        clear HIX HLL HBK HSD
        go_wp2_with (refine wp_storePf rfl _ _ rfl w.heap.size _ _ (.slice none 0 0) (.slice none 0 0) HP1.out rfl rfl rfl rfl ?_; intro hfin)
        refine ret_pf2 8 9 w.heap.size _ _ _ rfl rfl rfl rfl hfin ?_
        obtain ⟨rfl, rfl⟩ := HE.out
        exact HNO.out

      | true =>
        go_wp2_with fail
        refine (l01In_any _ _ _ _).mono ?_
        rintro e w2 ⟨rfl, rfl⟩
        rw [d2]
        cases A4 with
        | false =>
          obtain rfl : R = false := by rw [hR2]; rfl
          clear hR2
          clear HIX HLL HBK HSD
          go_wp2_with (refine wp_storePf rfl _ _ rfl w.heap.size _ _ (.slice none 0 0) (.slice none 0 0) HP1.out rfl rfl rfl rfl ?_; intro hfin)
          refine ret_pf2 8 9 w.heap.size _ _ _ rfl rfl rfl rfl hfin ?_
          obtain ⟨rfl, rfl⟩ := HE.out
          exact HNO.out

        | true =>
          obtain rfl : R = true := by rw [hR2]; rfl
          clear hR2
          clear HNO HNK
          obtain ⟨e1, e2⟩ := HE.out
          simp only [if_true] at e1 e2
          subst BB
          subst SB
          go_wp2_with fail
          refine (HIX.out _ b1).mono ?_
          rintro e w3 ⟨rfl, hb3⟩
          have HP3 := HP1.out.later hb3
          have b3 := b1.trans (hb3.mono b1.size)
          go_wp2_with fail
          refine (HBK.out _ b3).mono ?_
          rintro e w4 ⟨vb, rfl, ho4⟩
          have HP4 : Hid (PfM w4 w.heap.size (.slice none 0 0) (.slice none 0 0)) := HP3.later ho4.2.1
          have b4 := b3.trans (ho4.2.1.mono b3.size)
          have HG4 : Hid (w.heap.size < w3.heap.size) := HP3.lt
          obtain ⟨ab, cb, rfl⟩ := ho4.shape
          have HO4 : Hid (OL w3.heap.size w3 w4 (.slice ab BK.length cb) BK) := ho4
          clear ho4 hb3 HP1 HP3 b1 b3 HBK
          go_wp2_with fail
          refine (HIX.out _ b4).mono ?_
          rintro e w5 ⟨rfl, hb5⟩
          have b5 := b4.trans (hb5.mono b4.size)
          have HP5 : Hid (PfM w5 w.heap.size (.slice none 0 0) (.slice none 0 0)) := HP4.out.later hb5
          have HO5 : Hid (OL w3.heap.size w3 w5 (.slice ab BK.length cb) BK) := HO4.out.later hb5
          clear HP4 HO4 HIX b4
          go_wp2_with fail
          refine (HSD.out _ b5).mono ?_
          rintro e w6 ⟨vs, rfl, ho6⟩
          have b6 := b5.trans (ho6.2.1.mono b5.size)
          have hp6 : PfM w6 w.heap.size (.slice none 0 0) (.slice none 0 0) := HP5.out.later ho6.2.1
          have HO6 : Hid (OL w3.heap.size w3 w6 (.slice ab BK.length cb) BK) := HO5.out.later ho6.2.1
          obtain ⟨aZ, cs, rfl⟩ := ho6.slice
          have HS6 : Hid (OS w5.heap.size w5 w6 (.slice aZ SD.length cs) SD ∧ w.heap.size < w5.heap.size) := ⟨ho6, HP5.out.lt⟩
          have hgr := grown_setRowP w6 w.heap.size #[.slice ab BK.length cb, .slice aZ SD.length cs]
          have HF : Hid (PvP BK SD true w (.returned (.tuple #[.agg #[.slice ab BK.length cb, .slice aZ SD.length cs], .bool true])) (w6.setRow w.heap.size #[.slice ab BK.length cb, .slice aZ SD.length cs])) := by
            obtain ⟨gb, hrw, hgb, hqb⟩ := HO6.out.rw HLL.out.1
            obtain ⟨gs, hts, hgs⟩ := HS6.out.1.ts HLL.out.2
            have l1 := HG4.out
            have l2 := HS6.out.2
            refine ⟨_, _, _, _, gb, gs, rfl, hrw.grown hgr (fun _ => by simp; omega), hts.keptG hgr (fun _ => by simp; omega), by omega, by omega, ⟨fun h1 h2 => ?_, HS6.out.1.cap⟩, below_setRow b6 (Nat.le_refl _)⟩
            obtain ⟨gb5, hrw5, _, hq5⟩ := HO5.out.rw HLL.out.1
            have hlt := hrw5.lt h1
            have e1 := hrw5.1
            have e2 := hrw.1
            obtain ⟨_, _, ev, _, h3, _⟩ := hrw5.1
            obtain ⟨_, _, ev', _, h3', _⟩ := hrw.1
            simp only [Value.slice.injEq] at ev ev'
            have f1 := (h3 h1).1
            have f2 := (h3' h1).1
            rw [← ev.1] at f1
            rw [← ev'.1, f1] at f2
            simp at f2
            omega
          clear ho6 HO5 HO6 HP5 HS6 hb5 b5 b6 HSD HLL HG4 hgr
          go_wp2_with (refine wp_storePf rfl _ _ rfl w.heap.size _ _ (.slice ab BK.length cb) (.slice aZ SD.length cs) hp6 rfl rfl rfl rfl ?_; intro hfin)
          refine ret_pf2 8 9 w.heap.size _ _ _ rfl rfl rfl rfl hfin ?_
          exact HF.out

set_option maxRecDepth 100000 in
set_option maxHeartbeats 2000000 in
theorem ProveLeaf_any (v : Value) (ga oa : Nat) (L : List Le) (nm : ByteArray) (l x : Int) (w : World) (hv : RS 2 lcs w v ga oa L) (hsm : SmallL L) (hnm : nm.size ≤ 1048576) (hT : Tb w) :
    Calls Tryz.prog 67 #[v, .string nm, .int .i64 l, .int .i64 x] w (PvP (pvB L nm l x) (pvS L nm l x) (pvOk L nm l x) w) := by
  have hba : Below w.heap.size w (w.alloc (.cells #[.slice none 0 0, .slice none 0 0] 55)) := (Below.refl _ _).alloc (Nat.le_refl _) _
  have HPN : Hid (PfM (w.alloc (.cells #[.slice none 0 0, .slice none 0 0] 55)) w.heap.size (.slice none 0 0) (.slice none 0 0)) := PfM.new w _ _
  have HRS : Hid (∀ W, Below w.heap.size w W → RS 2 lcs W v ga oa L) := fun W hW => hv.later hW
  have hlo := LeavesOk_any v ga oa L _ (HRS.out _ hba) hsm
  have HNK : Hid (∀ W, Calls Tryz.prog 116 #[.string nm] W fun e w' => e = .returned (.bool (okB nameB nm)) ∧ w' = W) := fun W => NameOk_any nm W hnm
  have HIX : Hid (∀ W, Below w.heap.size w W → Calls Tryz.prog 119 #[.string nm] W fun e w' => e = .returned (.int .i64 (idxN nm : Int)) ∧ Below W.heap.size W w') := fun W hW => IndexOf_any nm W hnm (hT.later hW).1 (hT.later hW).2
  have HLL : Hid ((bkL L (idxN nm)).length ≤ 1100000 ∧ (sdA L (idxN nm) l x).length ≤ 1100000) := ⟨Nat.le_trans (List.length_filter_le _ _) hv.len, Nat.le_trans (sdA_len _ _ _ _) (by omega)⟩
  have HYB : Hid (∀ (b : Bool), pvOk L nm l x = b → pvB L nm l x = (if b then bkL L (idxN nm) else []) ∧ pvS L nm l x = (if b then sdA L (idxN nm) l x else [])) := fun b h => ⟨by unfold pvB; rw [h], by unfold pvS; rw [h]⟩
  obtain ⟨R, hR⟩ : ∃ R, pvOk L nm l x = R := ⟨_, rfl⟩
  obtain ⟨e1, e2⟩ := HYB.out R hR
  have hR2 : R = (LV.leavesB L && okB nameB nm && decide (0 ≤ l ∧ l ≤ 8) && decide (1 ≤ x ∧ x ≤ 32)) := hR.symm
  rw [hR]
  clear hR HYB
  obtain ⟨BB, hBB⟩ : ∃ BB, pvB L nm l x = BB := ⟨_, rfl⟩
  obtain ⟨SB, hSB⟩ : ∃ SB, pvS L nm l x = SB := ⟨_, rfl⟩
  rw [hBB] at e1
  rw [hSB] at e2
  rw [hBB, hSB]
  have HE : Hid (BB = (if R then bkL L (idxN nm) else []) ∧ SB = (if R then sdA L (idxN nm) l x else [])) := ⟨e1, e2⟩
  clear e1 e2 hBB hSB
  obtain ⟨ix, hix⟩ : ∃ ix : Int, (idxN nm : Int) = ix := ⟨_, rfl⟩
  rw [hix] at HIX HLL HE
  have HBK : Hid (∀ W, Below w.heap.size w W → Calls Tryz.prog 120 #[v, .int .i64 ix] W fun e w' => ∃ u, e = .returned u ∧ OL W.heap.size W w' u (bkL L ix)) := fun W hW => BucketOf_any v ga oa L ix W (HRS.out W hW) hsm (hT.later hW).1 (hT.later hW).2
  have HSD : Hid (∀ W, Below w.heap.size w W → Calls Tryz.prog 121 #[v, .int .i64 ix, .int .i64 l, .int .i64 x] W fun e w' => ∃ u, e = .returned u ∧ OS W.heap.size W w' u (sdA L ix l x)) := fun W hW => SidesOf_any v ga oa L ix l x W (HRS.out W hW) hsm (hT.later hW)
  clear hv hsm hix HRS hT
  generalize bkL L ix = BK at *
  generalize sdA L ix l x = SD at *
  generalize LV.leavesB L = A1 at *
  generalize okB nameB nm = A2 at *
  obtain ⟨A3, d1⟩ : ∃ A3, decide ((0 : Int) ≤ l ∧ l ≤ 8) = A3 := ⟨_, rfl⟩
  obtain ⟨A4, d2⟩ : ∃ A4, decide ((1 : Int) ≤ x ∧ x ≤ 32) = A4 := ⟨_, rfl⟩
  rw [d1, d2] at hR2
  go_enter Tryz.func67, Tryz.ntmps67
  go_wp2_with fail
  refine hlo.mono ?_
  rintro e w1 ⟨rfl, hb1⟩
  have HP1 : Hid (PfM w1 w.heap.size (.slice none 0 0) (.slice none 0 0)) := HPN.out.later hb1
  have b1 : Below w.heap.size w w1 := hba.trans (hb1.mono hba.size)
  clear hlo HPN hb1 hba
  have HNO : Hid (PvP [] [] false w (.returned (.tuple #[.agg #[.slice none 0 0, .slice none 0 0], .bool false])) (w1.setRow w.heap.size #[.slice none 0 0, .slice none 0 0])) := PvP.no (below_setRow b1 (Nat.le_refl _))
  cases A1 with
  | false =>
    obtain rfl : R = false := by rw [hR2]; rfl
    clear hR2
    clear HIX HLL HBK HSD
    go_wp2_with (refine wp_storePf rfl _ _ rfl w.heap.size _ _ (.slice none 0 0) (.slice none 0 0) HP1.out rfl rfl rfl rfl ?_; intro hfin)
    refine ret_pf2 8 9 w.heap.size _ _ _ rfl rfl rfl rfl hfin ?_
    obtain ⟨rfl, rfl⟩ := HE.out
    exact HNO.out

  | true =>
    go_wp2_with fail
    refine (HNK.out _).mono ?_
    rintro e w1' ⟨rfl, rfl⟩
    cases A2 with
    | false =>
      obtain rfl : R = false := by rw [hR2]; rfl
      clear hR2
      clear HIX HLL HBK HSD
      go_wp2_with (refine wp_storePf rfl _ _ rfl w.heap.size _ _ (.slice none 0 0) (.slice none 0 0) HP1.out rfl rfl rfl rfl ?_; intro hfin)
      refine ret_pf2 8 9 w.heap.size _ _ _ rfl rfl rfl rfl hfin ?_
      obtain ⟨rfl, rfl⟩ := HE.out
      exact HNO.out

    | true =>
      go_wp2_with fail
      refine (levelOk_any _ _).mono ?_
      rintro e w1'' ⟨rfl, rfl⟩
      rw [d1]
      cases A3 with
      | false =>
        obtain rfl : R = false := by rw [hR2]; rfl
        clear hR2
        clear HIX HLL HBK HSD
        go_wp2_with (refine wp_storePf rfl _ _ rfl w.heap.size _ _ (.slice none 0 0) (.slice none 0 0) HP1.out rfl rfl rfl rfl ?_; intro hfin)
        refine ret_pf2 8 9 w.heap.size _ _ _ rfl rfl rfl rfl hfin ?_
        obtain ⟨rfl, rfl⟩ := HE.out
        exact HNO.out

      | true =>
        go_wp2_with fail
        refine (widthOk_any _ _).mono ?_
        rintro e w2 ⟨rfl, rfl⟩
        rw [d2]
        cases A4 with
        | false =>
          obtain rfl : R = false := by rw [hR2]; rfl
          clear hR2
          clear HIX HLL HBK HSD
          go_wp2_with (refine wp_storePf rfl _ _ rfl w.heap.size _ _ (.slice none 0 0) (.slice none 0 0) HP1.out rfl rfl rfl rfl ?_; intro hfin)
          refine ret_pf2 8 9 w.heap.size _ _ _ rfl rfl rfl rfl hfin ?_
          obtain ⟨rfl, rfl⟩ := HE.out
          exact HNO.out

        | true =>
          obtain rfl : R = true := by rw [hR2]; rfl
          clear hR2
          clear HNO HNK
          obtain ⟨e1, e2⟩ := HE.out
          simp only [if_true] at e1 e2
          subst BB
          subst SB
          go_wp2_with fail
          refine (HIX.out _ b1).mono ?_
          rintro e w3 ⟨rfl, hb3⟩
          have HP3 := HP1.out.later hb3
          have b3 := b1.trans (hb3.mono b1.size)
          go_wp2_with fail
          refine (HBK.out _ b3).mono ?_
          rintro e w4 ⟨vb, rfl, ho4⟩
          have HP4 : Hid (PfM w4 w.heap.size (.slice none 0 0) (.slice none 0 0)) := HP3.later ho4.2.1
          have b4 := b3.trans (ho4.2.1.mono b3.size)
          have HG4 : Hid (w.heap.size < w3.heap.size) := HP3.lt
          obtain ⟨ab, cb, rfl⟩ := ho4.shape
          have HO4 : Hid (OL w3.heap.size w3 w4 (.slice ab BK.length cb) BK) := ho4
          clear ho4 hb3 HP1 HP3 b1 b3 HBK
          obtain ⟨w5, hw5⟩ : ∃ w5, w4 = w5 := ⟨_, rfl⟩
          subst hw5
          have hb5 : Below w4.heap.size w4 w4 := Below.refl _ _
          have b5 := b4.trans (hb5.mono b4.size)
          have HP5 : Hid (PfM w4 w.heap.size (.slice none 0 0) (.slice none 0 0)) := HP4.out.later hb5
          have HO5 : Hid (OL w3.heap.size w3 w4 (.slice ab BK.length cb) BK) := HO4.out.later hb5
          clear HP4 HO4 HIX b4
          go_wp2_with fail
          refine (HSD.out _ b5).mono ?_
          rintro e w6 ⟨vs, rfl, ho6⟩
          have b6 := b5.trans (ho6.2.1.mono b5.size)
          have hp6 : PfM w6 w.heap.size (.slice none 0 0) (.slice none 0 0) := HP5.out.later ho6.2.1
          have HO6 : Hid (OL w3.heap.size w3 w6 (.slice ab BK.length cb) BK) := HO5.out.later ho6.2.1
          obtain ⟨aZ, cs, rfl⟩ := ho6.slice
          have HS6 : Hid (OS w4.heap.size w4 w6 (.slice aZ SD.length cs) SD ∧ w.heap.size < w4.heap.size) := ⟨ho6, HP5.out.lt⟩
          have hgr := grown_setRowP w6 w.heap.size #[.slice ab BK.length cb, .slice aZ SD.length cs]
          have HF : Hid (PvP BK SD true w (.returned (.tuple #[.agg #[.slice ab BK.length cb, .slice aZ SD.length cs], .bool true])) (w6.setRow w.heap.size #[.slice ab BK.length cb, .slice aZ SD.length cs])) := by
            obtain ⟨gb, hrw, hgb, hqb⟩ := HO6.out.rw HLL.out.1
            obtain ⟨gs, hts, hgs⟩ := HS6.out.1.ts HLL.out.2
            have l1 := HG4.out
            have l2 := HS6.out.2
            refine ⟨_, _, _, _, gb, gs, rfl, hrw.grown hgr (fun _ => by simp; omega), hts.keptG hgr (fun _ => by simp; omega), by omega, by omega, ⟨fun h1 h2 => ?_, HS6.out.1.cap⟩, below_setRow b6 (Nat.le_refl _)⟩
            obtain ⟨gb5, hrw5, _, hq5⟩ := HO5.out.rw HLL.out.1
            have hlt := hrw5.lt h1
            have e1 := hrw5.1
            have e2 := hrw.1
            obtain ⟨_, _, ev, _, h3, _⟩ := hrw5.1
            obtain ⟨_, _, ev', _, h3', _⟩ := hrw.1
            simp only [Value.slice.injEq] at ev ev'
            have f1 := (h3 h1).1
            have f2 := (h3' h1).1
            rw [← ev.1] at f1
            rw [← ev'.1, f1] at f2
            simp at f2
            omega
          clear ho6 HO5 HO6 HP5 HS6 hb5 b5 b6 HSD HLL HG4 hgr
          go_wp2_with (refine wp_storePf rfl _ _ rfl w.heap.size _ _ (.slice ab BK.length cb) (.slice aZ SD.length cs) hp6 rfl rfl rfl rfl ?_; intro hfin)
          refine ret_pf2 8 9 w.heap.size _ _ _ rfl rfl rfl rfl hfin ?_
          exact HF.out

end Go.Proofs.YtklpanjedolkdaaGreatDoor
/-
  What a server tells of an epoch and a name: the program's and the specification's answers.
-/
namespace Go.Proofs.YtklpanjedolkdaaGreatDoor
open Go.RowKit Go.BigFrame Go.Sort
set_option linter.unusedVariables false
set_option linter.unusedSimpArgs false

/-- may it tell at all? -/
def lkC (n : Sn) (P : List (List Le)) (ep : Int) (nm : ByteArray) : Bool := n.u && (decide (1 ≤ ep ∧ ep ≤ n.e) && (decide (ep < (P.length : Int)) && (decide (0 ≤ n.k ∧ n.k ≤ 2) && decide ((shN nm n.k : Int) = n.a))))
noncomputable def lkL (n : Sn) (P : List (List Le)) (ep : Int) (nm : ByteArray) : List Le := if lkC n P ep nm then pvB (P.getD ep.toNat []) nm n.k 16 else []
noncomputable def lkT (n : Sn) (P : List (List Le)) (ep : Int) (nm : ByteArray) : List ByteArray := if lkC n P ep nm then pvS (P.getD ep.toNat []) nm n.k 16 else []
noncomputable def lkO (n : Sn) (P : List (List Le)) (ep : Int) (nm : ByteArray) : Bool := lkC n P ep nm && pvOk (P.getD ep.toNat []) nm n.k 16
theorem lk_no {n : Sn} {P : List (List Le)} {ep : Int} {nm : ByteArray} (h : lkC n P ep nm = false) : lkL n P ep nm = [] ∧ lkT n P ep nm = [] ∧ lkO n P ep nm = false := by
  unfold lkL lkT lkO
  rw [h]
  exact ⟨rfl, rfl, rfl⟩
theorem lk_yes {n : Sn} {P : List (List Le)} {ep : Int} {nm : ByteArray} {L : List Le} (h : lkC n P ep nm = true) (hL : P.getD ep.toNat [] = L) : lkL n P ep nm = pvB L nm n.k 16 ∧ lkT n P ep nm = pvS L nm n.k 16 ∧ lkO n P ep nm = pvOk L nm n.k 16 := by
  unfold lkL lkT lkO
  rw [h, hL]
  exact ⟨rfl, rfl, rfl⟩
theorem PS.self {w : World} {gv n c g o : Nat} {P : List (List Le)} (h : PS w (.slice (some ⟨gv, 0, none⟩) n c) g o P) : PS w (.slice (some ⟨gv, 0, none⟩) n c) gv 0 P := by
  obtain ⟨a, c', hv, hl, hA, hc⟩ := h
  simp only [Value.slice.injEq] at hv
  obtain ⟨rfl, rfl, rfl⟩ := hv
  refine ⟨_, _, rfl, hl, fun hp => ?_, fun j hj => ?_⟩
  · obtain ⟨e, h2⟩ := hA hp
    have e2 := Option.some.inj e
    simp only [Addr.mk.injEq] at e2
    exact ⟨rfl, by rw [e2.1]; exact h2⟩
  · obtain ⟨e, h2⟩ := hA (by omega)
    have e2 := Option.some.inj e
    simp only [Addr.mk.injEq] at e2
    obtain ⟨rfl, rfl, _⟩ := e2
    exact hc j hj
theorem PfM.fz {W : World} {p : Nat} {v1 v2 : Value} (h : PfM W p v1 v2) (j : Nat) : W.frozen? ⟨p, j, none⟩ = false := by simp [World.frozen?, show W.heap[p]? = _ from h]
theorem PfM.put {W : World} {p : Nat} {v1 v2 : Value} (h : PfM W p v1 v2) (u1 u2 : Value) : PfM ((W.setCell ⟨p, 0, none⟩ u1).setCell ⟨p, 1, none⟩ u2) p u1 u2 := heap_setCell_same _ p 1 _ _ _ (heap_setCell_same W p 0 _ _ _ h)
theorem PvP.below {B : List Le} {S : List ByteArray} {b : Bool} {w w1 w' : World} {e : Ending} (h : PvP B S b w1 e w') (hb : Below w.heap.size w w1) : PvP B S b w e w' := by
  obtain ⟨ab, cb, aS, cS, gb, gs, he, h1, h2, h3, h4, h5, h6⟩ := h
  have := hb.size
  exact ⟨ab, cb, aS, cS, gb, gs, he, h1, h2, by omega, by omega, h5, hb.trans (h6.mono hb.size)⟩

set_option maxRecDepth 100000 in
set_option maxHeartbeats 4000000 in
theorem LookServer_at (a k e r0 r1 r2 ep : Int) (u : Bool) (vd vt va : Value) (gv ov nv cv : Nat) (P : List (List Le)) (nm : ByteArray) (w : World) (hs : vd.oneCell' = true ∧ vt.oneCell' = true ∧ va.oneCell' = true) (hP : PS w (.slice (some ⟨gv, ov, none⟩) nv cv) gv ov P) (hn : P.length = nv) (hsm : SmallP P) (ht : nm.size ≤ 1048576) (hT : Tb w) :
    Calls Tryz.prog 22 #[.agg #[.int .i64 a, .int .i64 k, .bool u, vd, .int .i64 e, .slice (some ⟨gv, ov, none⟩) nv cv, vt, va, .int .i64 r0, .int .i64 r1, .int .i64 r2], .int .i64 ep, .string nm] w (PvP (lkL ⟨a, k, u, e, r0, r1, r2⟩ P ep nm) (lkT ⟨a, k, u, e, r0, r1, r2⟩ P ep nm) (lkO ⟨a, k, u, e, r0, r1, r2⟩ P ep nm) w) := by
  have hno0 : ∀ {b : Bool}, lkC ⟨a, k, u, e, r0, r1, r2⟩ P ep nm = (u && (decide (1 ≤ ep ∧ ep ≤ e) && (decide (ep < (P.length : Int)) && (decide (0 ≤ k ∧ k ≤ 2) && decide ((shN nm k : Int) = a))))) := rfl
  rw [hn] at hno0
  by_cases hu : u = false
  · subst hu
    have hno : lkC ⟨a, k, false, e, r0, r1, r2⟩ P ep nm = false := rfl
    obtain ⟨e1, e2, e3⟩ := lk_no hno
    rw [e1, e2, e3]
    clear e1 e2 e3 hno hno0 hP hn hsm hT
    have HZ : Hid (PfM ((w.alloc (.cells #[.int .i64 a, .int .i64 k, .bool false, vd, .int .i64 e, .slice (some ⟨gv, ov, none⟩) nv cv, vt, va, .int .i64 r0, .int .i64 r1, .int .i64 r2] 41)).alloc (.cells #[.slice none 0 0, .slice none 0 0] 55)) (w.heap.size + 1) (.slice none 0 0) (.slice none 0 0) ∧ Below w.heap.size w ((w.alloc (.cells #[.int .i64 a, .int .i64 k, .bool false, vd, .int .i64 e, .slice (some ⟨gv, ov, none⟩) nv cv, vt, va, .int .i64 r0, .int .i64 r1, .int .i64 r2] 41)).alloc (.cells #[.slice none 0 0, .slice none 0 0] 55))) := ⟨alloc_fst _ _ (by simp), (below_alloc _ _).alloc (by simp) _⟩
    go_enter Tryz.func22, Tryz.ntmps22
    go_wp2_with fail
    refine ret_pf2 6 7 (w.heap.size + 1) _ _ _ rfl rfl rfl rfl HZ.out.1 ?_
    exact PvP.no HZ.out.2
  obtain rfl : u = true := by cases u; exact absurd rfl hu; rfl
  by_cases h1 : ep < 1
  · have hno : lkC ⟨a, k, true, e, r0, r1, r2⟩ P ep nm = false := by rw [hno0 (b := true)]; simp; omega
    obtain ⟨e1, e2, e3⟩ := lk_no hno
    rw [e1, e2, e3]
    clear e1 e2 e3 hno hno0 hP hn hsm hT hu
    have HZ : Hid (PfM ((w.alloc (.cells #[.int .i64 a, .int .i64 k, .bool true, vd, .int .i64 e, .slice (some ⟨gv, ov, none⟩) nv cv, vt, va, .int .i64 r0, .int .i64 r1, .int .i64 r2] 41)).alloc (.cells #[.slice none 0 0, .slice none 0 0] 55)) (w.heap.size + 1) (.slice none 0 0) (.slice none 0 0) ∧ Below w.heap.size w ((w.alloc (.cells #[.int .i64 a, .int .i64 k, .bool true, vd, .int .i64 e, .slice (some ⟨gv, ov, none⟩) nv cv, vt, va, .int .i64 r0, .int .i64 r1, .int .i64 r2] 41)).alloc (.cells #[.slice none 0 0, .slice none 0 0] 55))) := ⟨alloc_fst _ _ (by simp), (below_alloc _ _).alloc (by simp) _⟩
    go_enter Tryz.func22, Tryz.ntmps22
    go_wp2_with fail
    refine ret_pf2 6 7 (w.heap.size + 1) _ _ _ rfl rfl rfl rfl HZ.out.1 ?_
    exact PvP.no HZ.out.2
  by_cases h2 : e < ep
  · have hno : lkC ⟨a, k, true, e, r0, r1, r2⟩ P ep nm = false := by rw [hno0 (b := true)]; simp; omega
    obtain ⟨e1, e2, e3⟩ := lk_no hno
    rw [e1, e2, e3]
    clear e1 e2 e3 hno hno0 hP hn hsm hT hu
    have HZ : Hid (PfM ((w.alloc (.cells #[.int .i64 a, .int .i64 k, .bool true, vd, .int .i64 e, .slice (some ⟨gv, ov, none⟩) nv cv, vt, va, .int .i64 r0, .int .i64 r1, .int .i64 r2] 41)).alloc (.cells #[.slice none 0 0, .slice none 0 0] 55)) (w.heap.size + 1) (.slice none 0 0) (.slice none 0 0) ∧ Below w.heap.size w ((w.alloc (.cells #[.int .i64 a, .int .i64 k, .bool true, vd, .int .i64 e, .slice (some ⟨gv, ov, none⟩) nv cv, vt, va, .int .i64 r0, .int .i64 r1, .int .i64 r2] 41)).alloc (.cells #[.slice none 0 0, .slice none 0 0] 55))) := ⟨alloc_fst _ _ (by simp), (below_alloc _ _).alloc (by simp) _⟩
    go_enter Tryz.func22, Tryz.ntmps22
    go_wp2_with fail
    refine ret_pf2 6 7 (w.heap.size + 1) _ _ _ rfl rfl rfl rfl HZ.out.1 ?_
    exact PvP.no HZ.out.2
  by_cases h3 : (nv : Int) ≤ ep
  · have hno : lkC ⟨a, k, true, e, r0, r1, r2⟩ P ep nm = false := by rw [hno0 (b := true)]; simp; omega
    obtain ⟨e1, e2, e3⟩ := lk_no hno
    rw [e1, e2, e3]
    clear e1 e2 e3 hno hno0 hP hn hsm hT hu
    have HZ : Hid (PfM ((w.alloc (.cells #[.int .i64 a, .int .i64 k, .bool true, vd, .int .i64 e, .slice (some ⟨gv, ov, none⟩) nv cv, vt, va, .int .i64 r0, .int .i64 r1, .int .i64 r2] 41)).alloc (.cells #[.slice none 0 0, .slice none 0 0] 55)) (w.heap.size + 1) (.slice none 0 0) (.slice none 0 0) ∧ Below w.heap.size w ((w.alloc (.cells #[.int .i64 a, .int .i64 k, .bool true, vd, .int .i64 e, .slice (some ⟨gv, ov, none⟩) nv cv, vt, va, .int .i64 r0, .int .i64 r1, .int .i64 r2] 41)).alloc (.cells #[.slice none 0 0, .slice none 0 0] 55))) := ⟨alloc_fst _ _ (by simp), (below_alloc _ _).alloc (by simp) _⟩
    go_enter Tryz.func22, Tryz.ntmps22
    go_wp2_with fail
    refine ret_pf2 6 7 (w.heap.size + 1) _ _ _ rfl rfl rfl rfl HZ.out.1 ?_
    exact PvP.no HZ.out.2
  obtain ⟨j, rfl⟩ : ∃ j : Nat, ep = (j : Int) := ⟨ep.toNat, by omega⟩
  have hj : j < P.length := by omega
  have hLj : P.getD (j : Int).toNat [] = P[j] := by simp [List.getD, List.getElem?_eq_getElem hj]
  have HYE : Hid (lkC ⟨a, k, true, e, r0, r1, r2⟩ P (j : Int) nm = true → lkL ⟨a, k, true, e, r0, r1, r2⟩ P (j : Int) nm = pvB P[j] nm k 16 ∧ lkT ⟨a, k, true, e, r0, r1, r2⟩ P (j : Int) nm = pvS P[j] nm k 16 ∧ lkO ⟨a, k, true, e, r0, r1, r2⟩ P (j : Int) nm = pvOk P[j] nm k 16) := fun h => lk_yes h hLj
  have HNO : Hid (lkC ⟨a, k, true, e, r0, r1, r2⟩ P (j : Int) nm = false → lkL ⟨a, k, true, e, r0, r1, r2⟩ P (j : Int) nm = [] ∧ lkT ⟨a, k, true, e, r0, r1, r2⟩ P (j : Int) nm = [] ∧ lkO ⟨a, k, true, e, r0, r1, r2⟩ P (j : Int) nm = false) := fun h => lk_no h
  have HCC : Hid (lkC ⟨a, k, true, e, r0, r1, r2⟩ P (j : Int) nm = (decide (0 ≤ k ∧ k ≤ 2) && decide ((shN nm k : Int) = a))) := by
    rw [hno0 (b := true)]
    have d1 : decide (1 ≤ (j : Int) ∧ (j : Int) ≤ e) = true := by simp; omega
    have d2 : decide ((j : Int) < (nv : Int)) = true := by simp; omega
    rw [d1, d2]; rfl
  have HPJ : Hid (∀ W, Below w.heap.size w W → ∃ aj cj gj oj, W.cell? ⟨gv, ov + j, none⟩ = some (.slice aj P[j].length cj) ∧ RS 2 lcs W (.slice aj P[j].length cj) gj oj P[j]) := fun W hW => (hP.later hW).at j hj
  have hsj : SmallL P[j] := hsm _ (List.getElem_mem hj)
  have HGV : Hid (∀ W, Below w.heap.size w W → gv < W.heap.size ∧ gv ≠ w.heap.size + 1) := fun W hW => by
    obtain ⟨_, _, _, _, hA, _⟩ := hP
    have h1 := (hA (by omega)).2
    have := hW.size
    exact ⟨by omega, by omega⟩
  have HPV : Hid (∀ W v gj oj, Below w.heap.size w W → RS 2 lcs W v gj oj P[j] → Calls Tryz.prog 67 #[v, .string nm, .int .i64 k, .int .i64 16] W (PvP (pvB P[j] nm k 16) (pvS P[j] nm k 16) (pvOk P[j] nm k 16) W)) := fun W v gj oj hW h => ProveLeaf_any v gj oj P[j] nm k 16 W h hsj ht (hT.later hW)
  have HSO : Hid (∀ W, Calls Tryz.prog 42 #[.int .i64 k] W fun e w' => e = .returned (.bool (decide (0 ≤ k ∧ k ≤ 2))) ∧ w' = W) := fun W => splitOk_any k W
  have HKE : Hid (∀ W p x2 x3 x4 x5 x6 x7 x8 x9 x10, Below w.heap.size w W → Box 41 W p [.int .i64 a, .int .i64 k, x2, x3, x4, x5, x6, x7, x8, x9, x10] → Calls Tryz.prog 66 #[.pointer (some ⟨p, 0, none⟩), .string nm] W fun e w' => e = .returned (.bool (decide ((shN nm k : Int) = a))) ∧ Below W.heap.size W w') := fun W p x2 x3 x4 x5 x6 x7 x8 x9 x10 hW h => keeps_any a k x2 x3 x4 x5 x6 x7 x8 x9 x10 p nm W h ht (hT.later hW)
  have HB : Hid (Below w.heap.size w ((w.alloc (.cells #[.int .i64 a, .int .i64 k, .bool true, vd, .int .i64 e, .slice (some ⟨gv, ov, none⟩) nv cv, vt, va, .int .i64 r0, .int .i64 r1, .int .i64 r2] 41)).alloc (.cells #[.slice none 0 0, .slice none 0 0] 55)) ∧ Box 41 ((w.alloc (.cells #[.int .i64 a, .int .i64 k, .bool true, vd, .int .i64 e, .slice (some ⟨gv, ov, none⟩) nv cv, vt, va, .int .i64 r0, .int .i64 r1, .int .i64 r2] 41)).alloc (.cells #[.slice none 0 0, .slice none 0 0] 55)) w.heap.size [.int .i64 a, .int .i64 k, .bool true, vd, .int .i64 e, .slice (some ⟨gv, ov, none⟩) nv cv, vt, va, .int .i64 r0, .int .i64 r1, .int .i64 r2] ∧ PfM ((w.alloc (.cells #[.int .i64 a, .int .i64 k, .bool true, vd, .int .i64 e, .slice (some ⟨gv, ov, none⟩) nv cv, vt, va, .int .i64 r0, .int .i64 r1, .int .i64 r2] 41)).alloc (.cells #[.slice none 0 0, .slice none 0 0] 55)) (w.heap.size + 1) (.slice none 0 0) (.slice none 0 0)) := ⟨(below_alloc _ _).alloc (by simp) _, (Box.new _ _ _).later (below_alloc _ _), alloc_fst _ _ (by simp)⟩
  generalize P[j] = Lj at *
  generalize lkL ⟨a, k, true, e, r0, r1, r2⟩ P (j : Int) nm = B at *
  generalize lkT ⟨a, k, true, e, r0, r1, r2⟩ P (j : Int) nm = S at *
  generalize lkO ⟨a, k, true, e, r0, r1, r2⟩ P (j : Int) nm = R at *
  generalize lkC ⟨a, k, true, e, r0, r1, r2⟩ P (j : Int) nm = Q at *
  generalize decide (0 ≤ k ∧ k ≤ 2) = D1 at *
  generalize decide ((shN nm k : Int) = a) = D2 at *
  have hij : (0 : Int) ≤ (j : Int) := by omega
  have hjn : (j : Int) < (nv : Int) := by omega
  clear hno0 hP hn hsm hT hu hLj hsj hj
  go_enter Tryz.func22, Tryz.ntmps22
  go_wp2_with fail
  refine (HSO.out _).mono ?_
  rintro e_ w1 ⟨rfl, rfl⟩
  cases D1 with
  | false =>
    obtain rfl : Q = false := by rw [HCC.out]; rfl
    obtain ⟨rfl, rfl, rfl⟩ := HNO.out rfl
    clear HSO HKE HPV HPJ HYE HNO HCC
    go_wp2_with fail
    refine ret_pf2 6 7 (w.heap.size + 1) _ _ _ rfl rfl rfl rfl HB.out.2.2 ?_
    exact PvP.no HB.out.1
  | true =>
    go_wp2_with fail
    refine (HKE.out _ _ _ _ _ _ _ _ _ _ _ HB.out.1 HB.out.2.1).mono ?_
    rintro e_ w2 ⟨rfl, hb2⟩
    have HB2 : Hid (Below w.heap.size w w2 ∧ Box 41 w2 w.heap.size [.int .i64 a, .int .i64 k, .bool true, vd, .int .i64 e, .slice (some ⟨gv, ov, none⟩) nv cv, vt, va, .int .i64 r0, .int .i64 r1, .int .i64 r2] ∧ PfM w2 (w.heap.size + 1) (.slice none 0 0) (.slice none 0 0)) := ⟨HB.out.1.trans (hb2.mono HB.out.1.size), HB.out.2.1.later hb2, HB.out.2.2.later hb2⟩
    clear HB hb2 HSO HKE
    cases D2 with
    | false =>
      obtain rfl : Q = false := by rw [HCC.out]; rfl
      obtain ⟨rfl, rfl, rfl⟩ := HNO.out rfl
      clear HPV HPJ HYE HNO HCC
      go_wp2_with (refine wp_storePf rfl _ _ rfl (w.heap.size + 1) _ _ (.slice none 0 0) (.slice none 0 0) HB2.out.2.2 rfl rfl rfl rfl ?_; intro hfin)
      refine ret_pf2 6 7 (w.heap.size + 1) _ _ _ rfl rfl rfl rfl hfin ?_
      exact PvP.no (below_row HB2.out.1 (by omega))
    | true =>
      obtain rfl : Q = true := by rw [HCC.out]; rfl
      obtain ⟨rfl, rfl, rfl⟩ := HYE.out rfl
      obtain ⟨aj, cj, gj, oj, hcj, hrj⟩ := HPJ.out w2 HB2.out.1
      have hgv : gv < w2.heap.size ∧ gv ≠ w.heap.size + 1 := HGV.out w2 HB2.out.1
      have HW2 : Hid (∀ W, Below w2.heap.size w2 W → (W.cell? ⟨w.heap.size, 1, none⟩ = some (.int .i64 k) ∧ W.cell? ⟨w.heap.size, 5, none⟩ = some (.slice (some ⟨gv, ov, none⟩) nv cv) ∧ W.cell? ⟨gv, ov + j, none⟩ = some (.slice aj Lj.length cj)) ∧ RS 2 lcs W (.slice aj Lj.length cj) gj oj Lj ∧ PfM W (w.heap.size + 1) (.slice none 0 0) (.slice none 0 0) ∧ Below w.heap.size w W) := fun W hW => ⟨⟨(HB2.out.2.1.later hW).at 1 _ rfl, (HB2.out.2.1.later hW).at 5 _ rfl, (hW.cell (p := ⟨gv, ov + j, none⟩) hgv.1).trans hcj⟩, hrj.later hW, HB2.out.2.2.later hW, HB2.out.1.trans (hW.mono HB2.out.1.size)⟩
      have hp1 : w.heap.size + 1 < w2.heap.size := HB2.out.2.2.lt
      have hne1 : gv ≠ w.heap.size + 1 := hgv.2
      have hne2 : w.heap.size + 1 ≠ gv := fun h => hne1 h.symm
      have hb0 : Below w2.heap.size w2 w2.drew := (Below.refl _ _).drew
      clear HPJ HYE HNO HCC hrj hcj HB2 hgv HGV
      generalize hBB : pvB Lj nm k 16 = B at *
      generalize hSS : pvS Lj nm k 16 = S at *
      generalize hRR : pvOk Lj nm k 16 = R at *
      clear hBB hSS hRR
      unfold PvP at HPV
      go_wp2
      go_region_held3 (fun W => W.cell? ⟨w.heap.size, 1, none⟩ = some (.int .i64 k) ∧ W.cell? ⟨w.heap.size, 5, none⟩ = some (.slice (some ⟨gv, ov, none⟩) nv cv) ∧ W.cell? ⟨gv, ov + j, none⟩ = some (.slice aj Lj.length cj)) (first | (go_keep; done) | exact (HW2.out _ hb0).1) (first | (go_at_call 67; refine (HPV.out _ _ gj oj (HW2.out _ hb0).2.2.2 (HW2.out _ hb0).2.1).mono ?_; rintro e_ w3 ⟨ab, cb, aS, cS, gb, gs, rfl, rb3, ts3, hgb, hgs, hd3, hb3⟩; have hq3 := hb0.size; have hb0 := hb0.trans (hb3.mono hb0.size); have hP3 := (HW2.out _ hb0).2.2.1; have t0 := hP3.c0; have t1 := hP3.c1; have f0 := hP3.fz 0; have f1 := hP3.fz 1) | fail)
      try rename_i hHeld
      try clear hHeld
      have HB3 : Hid (PfM ((w3.setCell ⟨w.heap.size + 1, 0, none⟩ (.slice ab B.length cb)).setCell ⟨w.heap.size + 1, 1, none⟩ (.slice aS S.length cS)) (w.heap.size + 1) (.slice ab B.length cb) (.slice aS S.length cS) ∧ PvP B S R w (.returned (.tuple #[.agg #[.slice ab B.length cb, .slice aS S.length cS], .bool R])) ((w3.setCell ⟨w.heap.size + 1, 0, none⟩ (.slice ab B.length cb)).setCell ⟨w.heap.size + 1, 1, none⟩ (.slice aS S.length cS))) := by
        have hgr := (grown_setC w3 (w.heap.size + 1) 0 (.slice ab B.length cb)).trans (grown_setC (w3.setCell ⟨w.heap.size + 1, 0, none⟩ (.slice ab B.length cb)) (w.heap.size + 1) 1 (.slice aS S.length cS))
        have hbw := (HW2.out _ hb0).2.2.2
        exact ⟨hP3.put _ _, ab, cb, aS, cS, gb, gs, rfl, rb3.grown hgr (fun _ => by simp; omega), ts3.keptG hgr (fun _ => by simp; omega), by omega, by omega, hd3, hbw.grown hgr hbw.size (fun q hq => by simp at hq; omega)⟩
      clear hP3 t0 t1 f0 f1 hb0 hq3 rb3 ts3 hgb hgs hd3 hb3 HW2 HPV
      go_wp2_with fail
      refine ret_pf2 6 7 (w.heap.size + 1) _ _ _ rfl rfl rfl rfl HB3.out.1 ?_
      exact HB3.out.2


set_option maxRecDepth 100000 in
set_option maxHeartbeats 4000000 in
theorem sLookServer_at (a k e r0 r1 r2 ep : Int) (u : Bool) (vd vt va : Value) (gv ov nv cv : Nat) (P : List (List Le)) (nm : ByteArray) (w : World) (hs : vd.oneCell' = true ∧ vt.oneCell' = true ∧ va.oneCell' = true) (hP : PS w (.slice (some ⟨gv, ov, none⟩) nv cv) gv ov P) (hn : P.length = nv) (hsm : SmallP P) (ht : nm.size ≤ 1048576) :
    Calls Tryz.prog 21 #[.agg #[.int .i64 a, .int .i64 k, .bool u, vd, .int .i64 e, .slice (some ⟨gv, ov, none⟩) nv cv, vt, va, .int .i64 r0, .int .i64 r1, .int .i64 r2], .int .i64 ep, .string nm] w (PvP (lkL ⟨a, k, u, e, r0, r1, r2⟩ P ep nm) (lkT ⟨a, k, u, e, r0, r1, r2⟩ P ep nm) (lkO ⟨a, k, u, e, r0, r1, r2⟩ P ep nm) w) := by
  have HSH : Hid (∀ W, Calls Tryz.prog 64 #[.string nm, .int .i64 k] W fun e w' => e = .returned (.int .i64 (shN nm k : Int)) ∧ Below W.heap.size W w') := fun W => sShardOf_any nm k W ht
  have HI1 : Hid (∀ W, Calls Tryz.prog 36 #[.int .i64 ep, .int .i64 1, .int .i64 e] W fun e_ w' => e_ = .returned (.bool (decide (1 ≤ ep ∧ ep ≤ e))) ∧ Below W.heap.size W w') := fun W => (l01In_any ep 1 e W).mono fun e_ w' ⟨h1, h2⟩ => ⟨h1, by rw [h2]; exact Below.refl _ _⟩
  have HI2 : Hid (∀ W, Calls Tryz.prog 36 #[.int .i64 k, .int .i64 0, .int .i64 2] W fun e_ w' => e_ = .returned (.bool (decide (0 ≤ k ∧ k ≤ 2))) ∧ Below W.heap.size W w') := fun W => (l01In_any k 0 2 W).mono fun e_ w' ⟨h1, h2⟩ => ⟨h1, by rw [h2]; exact Below.refl _ _⟩
  have HCC : Hid (lkC ⟨a, k, u, e, r0, r1, r2⟩ P ep nm = (u && (decide (1 ≤ ep ∧ ep ≤ e) && (decide (ep < (P.length : Int)) && (decide (0 ≤ k ∧ k ≤ 2) && decide ((shN nm k : Int) = a)))))) := rfl
  have HNO : Hid (lkC ⟨a, k, u, e, r0, r1, r2⟩ P ep nm = false → lkL ⟨a, k, u, e, r0, r1, r2⟩ P ep nm = [] ∧ lkT ⟨a, k, u, e, r0, r1, r2⟩ P ep nm = [] ∧ lkO ⟨a, k, u, e, r0, r1, r2⟩ P ep nm = false) := fun h => lk_no h
  have HYE : Hid (lkC ⟨a, k, u, e, r0, r1, r2⟩ P ep nm = true → ∃ (j : Nat) (hj : j < P.length), ep = (j : Int) ∧ lkL ⟨a, k, u, e, r0, r1, r2⟩ P ep nm = pvB P[j] nm k 16 ∧ lkT ⟨a, k, u, e, r0, r1, r2⟩ P ep nm = pvS P[j] nm k 16 ∧ lkO ⟨a, k, u, e, r0, r1, r2⟩ P ep nm = pvOk P[j] nm k 16) := fun h => by
    have h' := h
    rw [HCC.out] at h'
    simp only [Bool.and_eq_true, decide_eq_true_eq] at h'
    obtain ⟨_, ⟨h1, _⟩, h3, _⟩ := h'
    have hj : ep.toNat < P.length := by omega
    have hLj : P.getD ep.toNat [] = P[ep.toNat] := by simp [List.getD, List.getElem?_eq_getElem hj]
    exact ⟨ep.toNat, hj, by omega, lk_yes h hLj⟩
  have HPJ : Hid (∀ W (j : Nat) (hj : j < P.length), Below w.heap.size w W → ∃ aj cj gj oj, W.cell? ⟨gv, ov + j, none⟩ = some (.slice aj P[j].length cj) ∧ RS 2 lcs W (.slice aj P[j].length cj) gj oj P[j]) := fun W j hj hW => (hP.later hW).at j hj
  have HPV : Hid (∀ W v gj oj (j : Nat) (hj : j < P.length), RS 2 lcs W v gj oj P[j] → Calls Tryz.prog 65 #[v, .string nm, .int .i64 k, .int .i64 16] W (PvP (pvB P[j] nm k 16) (pvS P[j] nm k 16) (pvOk P[j] nm k 16) W)) := fun W v gj oj j hj h => sProveLeaf_any v gj oj P[j] nm k 16 W h (hsm _ (List.getElem_mem hj)) ht
  have HB : Hid (Below w.heap.size w ((w.alloc (.cells #[.int .i64 a, .int .i64 k, .bool u, vd, .int .i64 e, .slice (some ⟨gv, ov, none⟩) nv cv, vt, va, .int .i64 r0, .int .i64 r1, .int .i64 r2] 41)).alloc (.cells #[.slice none 0 0, .slice none 0 0] 55)) ∧ Box 41 ((w.alloc (.cells #[.int .i64 a, .int .i64 k, .bool u, vd, .int .i64 e, .slice (some ⟨gv, ov, none⟩) nv cv, vt, va, .int .i64 r0, .int .i64 r1, .int .i64 r2] 41)).alloc (.cells #[.slice none 0 0, .slice none 0 0] 55)) w.heap.size [.int .i64 a, .int .i64 k, .bool u, vd, .int .i64 e, .slice (some ⟨gv, ov, none⟩) nv cv, vt, va, .int .i64 r0, .int .i64 r1, .int .i64 r2] ∧ PfM ((w.alloc (.cells #[.int .i64 a, .int .i64 k, .bool u, vd, .int .i64 e, .slice (some ⟨gv, ov, none⟩) nv cv, vt, va, .int .i64 r0, .int .i64 r1, .int .i64 r2] 41)).alloc (.cells #[.slice none 0 0, .slice none 0 0] 55)) (w.heap.size + 1) (.slice none 0 0) (.slice none 0 0)) := ⟨(below_alloc _ _).alloc (by simp) _, (Box.new _ _ _).later (below_alloc _ _), alloc_fst _ _ (by simp)⟩
  rw [hn] at HCC
  have HGV : Hid (∀ W (j : Nat), j < P.length → Below w.heap.size w W → gv < W.heap.size ∧ gv ≠ w.heap.size + 1) := fun W j hj hW => by
    obtain ⟨_, _, _, _, hA, _⟩ := hP
    have h1 := (hA (by omega)).2
    have := hW.size
    exact ⟨by omega, by omega⟩
  have HN : Hid (P.length = nv) := hn
  generalize lkL ⟨a, k, u, e, r0, r1, r2⟩ P ep nm = B at *
  generalize lkT ⟨a, k, u, e, r0, r1, r2⟩ P ep nm = S at *
  generalize lkO ⟨a, k, u, e, r0, r1, r2⟩ P ep nm = R at *
  generalize lkC ⟨a, k, u, e, r0, r1, r2⟩ P ep nm = Q at *
  generalize (shN nm k : Int) = sh at *
  obtain ⟨D1, hD1⟩ : ∃ D1, decide (1 ≤ ep ∧ ep ≤ e) = D1 := ⟨_, rfl⟩
  obtain ⟨D2, hD2⟩ : ∃ D2, decide (0 ≤ k ∧ k ≤ 2) = D2 := ⟨_, rfl⟩
  rw [hD1] at HI1 HCC
  rw [hD2] at HI2 HCC
  clear hP hn hsm hD1 hD2
  cases u with
  | false =>
    obtain rfl : Q = false := by rw [HCC.out]; rfl
    obtain ⟨rfl, rfl, rfl⟩ := HNO.out rfl
    go_enter Tryz.func21, Tryz.ntmps21
    go_wp2
    generalize hW1 : ((w.alloc (.cells #[.int .i64 a, .int .i64 k, .bool false, vd, .int .i64 e, .slice (some ⟨gv, ov, none⟩) nv cv, vt, va, .int .i64 r0, .int .i64 r1, .int .i64 r2] 41)).alloc (.cells #[.slice none 0 0, .slice none 0 0] 55)) = W1 at *
    have kq0 := cell_regrown (w := W1) (HB.out.2.1.at 0 _ rfl)
    have kq1 := cell_regrown (w := W1) (HB.out.2.1.at 1 _ rfl)
    have kq2 := cell_regrown (w := W1) (HB.out.2.1.at 2 _ rfl)
    have kq4 := cell_regrown (w := W1) (HB.out.2.1.at 4 _ rfl)
    have kq5 := cell_regrown (w := W1) (HB.out.2.1.at 5 _ rfl)
    have cq1 := fun d os => Calls.regrown_of (w := W1) (d := d) (os := os) (HI1.out _)
    have cq2 := fun d os => Calls.regrown_of (w := W1) (d := d) (os := os) (HI2.out _)
    have cq3 := fun d os => Calls.regrown_of (w := W1) (d := d) (os := os) (HSH.out _)
    clear hW1
    refine wp_region_quiet_below (by kernel_rfl) (by kernel_rfl) ?_
    repeat (go_big_quiet_step (first | with_reducible exact cq1 _ _ | with_reducible exact cq2 _ _ | with_reducible exact cq3 _ _))
    refine wpQuiet_nil ?_
    rintro _ ⟨⟨dq, osq⟩, rfl⟩
    have hb0 := below_regrown W1 dq osq
    generalize grow (redrawn W1 dq) osq = w3 at *
    clear kq0 kq1 kq2 kq4 kq5 cq1 cq2 cq3
    have HF : Hid (PfM _ (w.heap.size + 1) (.slice none 0 0) (.slice none 0 0) ∧ Below w.heap.size w _) := ⟨HB.out.2.2.later hb0, HB.out.1.trans (hb0.mono HB.out.1.size)⟩
    clear hb0 HB HSH HI1 HI2 HCC HNO HYE HPJ HPV
    go_wp2_with (refine wp_storePf rfl _ _ rfl (w.heap.size + 1) _ _ (.slice none 0 0) (.slice none 0 0) HF.out.1 rfl rfl rfl rfl ?_; intro hfin)
    first
      | exact ret_pf2 6 7 (w.heap.size + 1) _ _ _ rfl rfl rfl rfl hfin (PvP.no (below_row HF.out.2 (by omega)))
      | exact ret_pf2 6 7 (w.heap.size + 1) _ _ _ rfl rfl rfl rfl HF.out.1 (PvP.no HF.out.2)
  | true =>
    cases D1 with
    | false =>
      obtain rfl : Q = false := by rw [HCC.out]; rfl
      obtain ⟨rfl, rfl, rfl⟩ := HNO.out rfl
      go_enter Tryz.func21, Tryz.ntmps21
      go_wp2
      generalize hW1 : ((w.alloc (.cells #[.int .i64 a, .int .i64 k, .bool true, vd, .int .i64 e, .slice (some ⟨gv, ov, none⟩) nv cv, vt, va, .int .i64 r0, .int .i64 r1, .int .i64 r2] 41)).alloc (.cells #[.slice none 0 0, .slice none 0 0] 55)) = W1 at *
      have kq0 := cell_regrown (w := W1) (HB.out.2.1.at 0 _ rfl)
      have kq1 := cell_regrown (w := W1) (HB.out.2.1.at 1 _ rfl)
      have kq2 := cell_regrown (w := W1) (HB.out.2.1.at 2 _ rfl)
      have kq4 := cell_regrown (w := W1) (HB.out.2.1.at 4 _ rfl)
      have kq5 := cell_regrown (w := W1) (HB.out.2.1.at 5 _ rfl)
      have cq1 := fun d os => Calls.regrown_of (w := W1) (d := d) (os := os) (HI1.out _)
      have cq2 := fun d os => Calls.regrown_of (w := W1) (d := d) (os := os) (HI2.out _)
      have cq3 := fun d os => Calls.regrown_of (w := W1) (d := d) (os := os) (HSH.out _)
      clear hW1
      refine wp_region_quiet_below (by kernel_rfl) (by kernel_rfl) ?_
      repeat (go_big_quiet_step (first | with_reducible exact cq1 _ _ | with_reducible exact cq2 _ _ | with_reducible exact cq3 _ _))
      refine wpQuiet_nil ?_
      rintro _ ⟨⟨dq, osq⟩, rfl⟩
      have hb0 := below_regrown W1 dq osq
      generalize grow (redrawn W1 dq) osq = w3 at *
      clear kq0 kq1 kq2 kq4 kq5 cq1 cq2 cq3
      have HF : Hid (PfM _ (w.heap.size + 1) (.slice none 0 0) (.slice none 0 0) ∧ Below w.heap.size w _) := ⟨HB.out.2.2.later hb0, HB.out.1.trans (hb0.mono HB.out.1.size)⟩
      clear hb0 HB HSH HI1 HI2 HCC HNO HYE HPJ HPV
      go_wp2_with (refine wp_storePf rfl _ _ rfl (w.heap.size + 1) _ _ (.slice none 0 0) (.slice none 0 0) HF.out.1 rfl rfl rfl rfl ?_; intro hfin)
      first
        | exact ret_pf2 6 7 (w.heap.size + 1) _ _ _ rfl rfl rfl rfl hfin (PvP.no (below_row HF.out.2 (by omega)))
        | exact ret_pf2 6 7 (w.heap.size + 1) _ _ _ rfl rfl rfl rfl HF.out.1 (PvP.no HF.out.2)
    | true =>
      by_cases h3 : (nv : Int) ≤ ep
      · have h3' : decide (ep < (nv : Int)) = false := by simp; omega
        rw [h3'] at HCC
        clear h3'
        obtain rfl : Q = false := by rw [HCC.out]; rfl
        obtain ⟨rfl, rfl, rfl⟩ := HNO.out rfl
        go_enter Tryz.func21, Tryz.ntmps21
        go_wp2
        generalize hW1 : ((w.alloc (.cells #[.int .i64 a, .int .i64 k, .bool true, vd, .int .i64 e, .slice (some ⟨gv, ov, none⟩) nv cv, vt, va, .int .i64 r0, .int .i64 r1, .int .i64 r2] 41)).alloc (.cells #[.slice none 0 0, .slice none 0 0] 55)) = W1 at *
        have kq0 := cell_regrown (w := W1) (HB.out.2.1.at 0 _ rfl)
        have kq1 := cell_regrown (w := W1) (HB.out.2.1.at 1 _ rfl)
        have kq2 := cell_regrown (w := W1) (HB.out.2.1.at 2 _ rfl)
        have kq4 := cell_regrown (w := W1) (HB.out.2.1.at 4 _ rfl)
        have kq5 := cell_regrown (w := W1) (HB.out.2.1.at 5 _ rfl)
        have cq1 := fun d os => Calls.regrown_of (w := W1) (d := d) (os := os) (HI1.out _)
        have cq2 := fun d os => Calls.regrown_of (w := W1) (d := d) (os := os) (HI2.out _)
        have cq3 := fun d os => Calls.regrown_of (w := W1) (d := d) (os := os) (HSH.out _)
        clear hW1
        refine wp_region_quiet_below (by kernel_rfl) (by kernel_rfl) ?_
        repeat (go_big_quiet_step (first | with_reducible exact cq1 _ _ | with_reducible exact cq2 _ _ | with_reducible exact cq3 _ _))
        refine wpQuiet_nil ?_
        rintro _ ⟨⟨dq, osq⟩, rfl⟩
        have hb0 := below_regrown W1 dq osq
        generalize grow (redrawn W1 dq) osq = w3 at *
        clear kq0 kq1 kq2 kq4 kq5 cq1 cq2 cq3
        have HF : Hid (PfM _ (w.heap.size + 1) (.slice none 0 0) (.slice none 0 0) ∧ Below w.heap.size w _) := ⟨HB.out.2.2.later hb0, HB.out.1.trans (hb0.mono HB.out.1.size)⟩
        clear hb0 HB HSH HI1 HI2 HCC HNO HYE HPJ HPV
        go_wp2_with (refine wp_storePf rfl _ _ rfl (w.heap.size + 1) _ _ (.slice none 0 0) (.slice none 0 0) HF.out.1 rfl rfl rfl rfl ?_; intro hfin)
        first
          | exact ret_pf2 6 7 (w.heap.size + 1) _ _ _ rfl rfl rfl rfl hfin (PvP.no (below_row HF.out.2 (by omega)))
          | exact ret_pf2 6 7 (w.heap.size + 1) _ _ _ rfl rfl rfl rfl HF.out.1 (PvP.no HF.out.2)
      · have h3' : decide (ep < (nv : Int)) = true := by simp; omega
        rw [h3'] at HCC
        clear h3'
        have hdn : decide ((nv : Int) ≤ ep) = false := by simpa using h3
        by_cases hsa : sh = a
        · cases D2 with
          | false =>
            have hsc := hsa.symm
            subst hsc
            obtain rfl : Q = false := by rw [HCC.out]; simp
            obtain ⟨rfl, rfl, rfl⟩ := HNO.out rfl
            go_enter Tryz.func21, Tryz.ntmps21
            go_wp2
            generalize hW1 : ((w.alloc (.cells #[.int .i64 a, .int .i64 k, .bool true, vd, .int .i64 e, .slice (some ⟨gv, ov, none⟩) nv cv, vt, va, .int .i64 r0, .int .i64 r1, .int .i64 r2] 41)).alloc (.cells #[.slice none 0 0, .slice none 0 0] 55)) = W1 at *
            have kq0 := cell_regrown (w := W1) (HB.out.2.1.at 0 _ rfl)
            have kq1 := cell_regrown (w := W1) (HB.out.2.1.at 1 _ rfl)
            have kq2 := cell_regrown (w := W1) (HB.out.2.1.at 2 _ rfl)
            have kq4 := cell_regrown (w := W1) (HB.out.2.1.at 4 _ rfl)
            have kq5 := cell_regrown (w := W1) (HB.out.2.1.at 5 _ rfl)
            have cq1 := fun d os => Calls.regrown_of (w := W1) (d := d) (os := os) (HI1.out _)
            have cq2 := fun d os => Calls.regrown_of (w := W1) (d := d) (os := os) (HI2.out _)
            have cq3 := fun d os => Calls.regrown_of (w := W1) (d := d) (os := os) (HSH.out _)
            clear hW1
            refine wp_region_quiet_below (by kernel_rfl) (by kernel_rfl) ?_
            repeat (go_big_quiet_step (first | with_reducible exact cq1 _ _ | with_reducible exact cq2 _ _ | with_reducible exact cq3 _ _))
            refine wpQuiet_nil ?_
            rintro _ ⟨⟨dq, osq⟩, rfl⟩
            have hb0 := below_regrown W1 dq osq
            generalize grow (redrawn W1 dq) osq = w3 at *
            clear kq0 kq1 kq2 kq4 kq5 cq1 cq2 cq3
            have HF : Hid (PfM _ (w.heap.size + 1) (.slice none 0 0) (.slice none 0 0) ∧ Below w.heap.size w _) := ⟨HB.out.2.2.later hb0, HB.out.1.trans (hb0.mono HB.out.1.size)⟩
            clear hb0 HB HSH HI1 HI2 HCC HNO HYE HPJ HPV
            go_wp2_with (refine wp_storePf rfl _ _ rfl (w.heap.size + 1) _ _ (.slice none 0 0) (.slice none 0 0) HF.out.1 rfl rfl rfl rfl ?_; intro hfin)
            first
              | exact ret_pf2 6 7 (w.heap.size + 1) _ _ _ rfl rfl rfl rfl hfin (PvP.no (below_row HF.out.2 (by omega)))
              | exact ret_pf2 6 7 (w.heap.size + 1) _ _ _ rfl rfl rfl rfl HF.out.1 (PvP.no HF.out.2)
          | true =>
            have hsc := hsa.symm
            subst hsc
            obtain rfl : Q = true := by rw [HCC.out]; simp
            obtain ⟨j, hj, hep, rfl, rfl, rfl⟩ := HYE.out rfl
            have HEP := hide hep
            clear hep
            go_enter Tryz.func21, Tryz.ntmps21
            go_wp2
            generalize hW1 : ((w.alloc (.cells #[.int .i64 a, .int .i64 k, .bool true, vd, .int .i64 e, .slice (some ⟨gv, ov, none⟩) nv cv, vt, va, .int .i64 r0, .int .i64 r1, .int .i64 r2] 41)).alloc (.cells #[.slice none 0 0, .slice none 0 0] 55)) = W1 at *
            have kq0 := cell_regrown (w := W1) (HB.out.2.1.at 0 _ rfl)
            have kq1 := cell_regrown (w := W1) (HB.out.2.1.at 1 _ rfl)
            have kq2 := cell_regrown (w := W1) (HB.out.2.1.at 2 _ rfl)
            have kq4 := cell_regrown (w := W1) (HB.out.2.1.at 4 _ rfl)
            have kq5 := cell_regrown (w := W1) (HB.out.2.1.at 5 _ rfl)
            have cq1 := fun d os => Calls.regrown_of (w := W1) (d := d) (os := os) (HI1.out _)
            have cq2 := fun d os => Calls.regrown_of (w := W1) (d := d) (os := os) (HI2.out _)
            have cq3 := fun d os => Calls.regrown_of (w := W1) (d := d) (os := os) (HSH.out _)
            clear hW1
            refine wp_region_quiet_below (by kernel_rfl) (by kernel_rfl) ?_
            repeat (go_big_quiet_step (first | with_reducible exact cq1 _ _ | with_reducible exact cq2 _ _ | with_reducible exact cq3 _ _))
            refine wpQuiet_nil ?_
            rintro _ ⟨⟨dq, osq⟩, rfl⟩
            have hb0 := below_regrown W1 dq osq
            generalize grow (redrawn W1 dq) osq = w3 at *
            clear kq0 kq1 kq2 kq4 kq5 cq1 cq2 cq3
            have hep := HEP.out
            clear HEP
            subst hep
            obtain ⟨aj, cj, gj, oj, hcj, hrj⟩ := HPJ.out w3 j hj (HB.out.1.trans (hb0.mono HB.out.1.size))
            have hgv : gv < w3.heap.size ∧ gv ≠ w.heap.size + 1 := HGV.out w3 j hj (HB.out.1.trans (hb0.mono HB.out.1.size))
            have HW2 : Hid (∀ W, Below w3.heap.size w3 W → (W.cell? ⟨w.heap.size, 1, none⟩ = some (.int .i64 k) ∧ W.cell? ⟨w.heap.size, 5, none⟩ = some (.slice (some ⟨gv, ov, none⟩) nv cv) ∧ W.cell? ⟨gv, ov + j, none⟩ = some (.slice aj P[j].length cj)) ∧ RS 2 lcs W (.slice aj P[j].length cj) gj oj P[j] ∧ PfM W (w.heap.size + 1) (.slice none 0 0) (.slice none 0 0) ∧ Below w.heap.size w W) := fun W hW => by
              have h1 := hb0.trans (hW.mono hb0.size)
              exact ⟨⟨(HB.out.2.1.later h1).at 1 _ rfl, (HB.out.2.1.later h1).at 5 _ rfl, (hW.cell (p := ⟨gv, ov + j, none⟩) hgv.1).trans hcj⟩, hrj.later hW, HB.out.2.2.later h1, HB.out.1.trans (h1.mono HB.out.1.size)⟩
            have HPW : Hid (∀ W v gj oj, RS 2 lcs W v gj oj P[j] → Calls Tryz.prog 65 #[v, .string nm, .int .i64 k, .int .i64 16] W (PvP (pvB P[j] nm k 16) (pvS P[j] nm k 16) (pvOk P[j] nm k 16) W)) := fun W v gj oj h => HPV.out W v gj oj j hj h
            have hp1 : w.heap.size + 1 < w3.heap.size := (HB.out.2.2.later hb0).lt
            have hne1 : gv ≠ w.heap.size + 1 := hgv.2
            have hne2 : w.heap.size + 1 ≠ gv := fun h => hne1 h.symm
            have hij : (0 : Int) ≤ (j : Int) := by omega
            have hjn : (j : Int) < (nv : Int) := by rw [← HN.out]; omega
            have hjn2 : ¬ (nv : Int) ≤ (j : Int) := by omega
            replace hb0 : Below w3.heap.size w3 w3.drew := (Below.refl _ _).drew
            clear HPJ HYE HNO HCC hrj hcj HB hgv HGV HPV HSH HI1 HI2
            generalize hLj : P[j] = Lj at *
            generalize hBB : pvB Lj nm k 16 = B at *
            generalize hSS : pvS Lj nm k 16 = S at *
            generalize hRR : pvOk Lj nm k 16 = R at *
            have HEB := hide (And.intro hBB (And.intro hSS (And.intro hRR hLj)))
            clear hBB hSS hRR hLj
            unfold PvP at HPW
            go_wp2
            go_region_held3 (fun W => W.cell? ⟨w.heap.size, 1, none⟩ = some (.int .i64 k) ∧ W.cell? ⟨w.heap.size, 5, none⟩ = some (.slice (some ⟨gv, ov, none⟩) nv cv) ∧ W.cell? ⟨gv, ov + j, none⟩ = some (.slice aj Lj.length cj)) (first | (go_keep; done) | exact (HW2.out _ hb0).1) (first | (go_at_call 65; refine (HPW.out _ _ gj oj (HW2.out _ hb0).2.1).mono ?_; rintro e_ w4 ⟨ab, cb, aS, cS, gb, gs, rfl, rb3, ts3, hgb, hgs, hd3, hb3⟩; have hq3 := hb0.size; have hb0 := hb0.trans (hb3.mono hb0.size); have hP3 := (HW2.out _ hb0).2.2.1; have t0 := hP3.c0; have t1 := hP3.c1; have f0 := hP3.fz 0; have f1 := hP3.fz 1) | fail)
            try rename_i hHeld
            try clear hHeld
            have HB3 : Hid (PfM ((w4.setCell ⟨w.heap.size + 1, 0, none⟩ (.slice ab B.length cb)).setCell ⟨w.heap.size + 1, 1, none⟩ (.slice aS S.length cS)) (w.heap.size + 1) (.slice ab B.length cb) (.slice aS S.length cS) ∧ PvP B S R w (.returned (.tuple #[.agg #[.slice ab B.length cb, .slice aS S.length cS], .bool R])) ((w4.setCell ⟨w.heap.size + 1, 0, none⟩ (.slice ab B.length cb)).setCell ⟨w.heap.size + 1, 1, none⟩ (.slice aS S.length cS))) := by
              have hgr := (grown_setC w4 (w.heap.size + 1) 0 (.slice ab B.length cb)).trans (grown_setC (w4.setCell ⟨w.heap.size + 1, 0, none⟩ (.slice ab B.length cb)) (w.heap.size + 1) 1 (.slice aS S.length cS))
              have hbw := (HW2.out _ hb0).2.2.2
              exact ⟨hP3.put _ _, ab, cb, aS, cS, gb, gs, rfl, rb3.grown hgr (fun _ => by simp; omega), ts3.keptG hgr (fun _ => by simp; omega), by omega, by omega, hd3, hbw.grown hgr hbw.size (fun q hq => by simp at hq; omega)⟩
            clear hP3 t0 t1 f0 f1 hb0 hq3 rb3 ts3 hgb hgs hd3 hb3 HW2 HPW
            go_wp2_with fail
            refine ret_pf2 6 7 (w.heap.size + 1) _ _ _ rfl rfl rfl rfl HB3.out.1 ?_
            obtain ⟨h1, h2, h3', h4⟩ := HEB.out
            have h9 := HB3.out.2
            clear HEB HB3
            subst h4
            subst h1
            subst h2
            subst h3'
            exact h9
        · have hsa' : decide (sh = a) = false := by simpa using hsa
          have hsb : (sh != a) = true := by simpa using hsa
          rw [hsa'] at HCC
          clear hsa'
          obtain rfl : Q = false := by rw [HCC.out]; simp
          obtain ⟨rfl, rfl, rfl⟩ := HNO.out rfl
          go_enter Tryz.func21, Tryz.ntmps21
          go_wp2
          generalize hW1 : ((w.alloc (.cells #[.int .i64 a, .int .i64 k, .bool true, vd, .int .i64 e, .slice (some ⟨gv, ov, none⟩) nv cv, vt, va, .int .i64 r0, .int .i64 r1, .int .i64 r2] 41)).alloc (.cells #[.slice none 0 0, .slice none 0 0] 55)) = W1 at *
          have kq0 := cell_regrown (w := W1) (HB.out.2.1.at 0 _ rfl)
          have kq1 := cell_regrown (w := W1) (HB.out.2.1.at 1 _ rfl)
          have kq2 := cell_regrown (w := W1) (HB.out.2.1.at 2 _ rfl)
          have kq4 := cell_regrown (w := W1) (HB.out.2.1.at 4 _ rfl)
          have kq5 := cell_regrown (w := W1) (HB.out.2.1.at 5 _ rfl)
          have cq1 := fun d os => Calls.regrown_of (w := W1) (d := d) (os := os) (HI1.out _)
          have cq2 := fun d os => Calls.regrown_of (w := W1) (d := d) (os := os) (HI2.out _)
          have cq3 := fun d os => Calls.regrown_of (w := W1) (d := d) (os := os) (HSH.out _)
          clear hW1
          refine wp_region_quiet_below (by kernel_rfl) (by kernel_rfl) ?_
          repeat (go_big_quiet_step (first | with_reducible exact cq1 _ _ | with_reducible exact cq2 _ _ | with_reducible exact cq3 _ _))
          refine wpQuiet_nil ?_
          rintro _ ⟨⟨dq, osq⟩, rfl⟩
          have hb0 := below_regrown W1 dq osq
          generalize grow (redrawn W1 dq) osq = w3 at *
          clear kq0 kq1 kq2 kq4 kq5 cq1 cq2 cq3
          have HF : Hid (PfM _ (w.heap.size + 1) (.slice none 0 0) (.slice none 0 0) ∧ Below w.heap.size w _) := ⟨HB.out.2.2.later hb0, HB.out.1.trans (hb0.mono HB.out.1.size)⟩
          clear hb0 HB HSH HI1 HI2 HCC HNO HYE HPJ HPV
          go_wp2_with (refine wp_storePf rfl _ _ rfl (w.heap.size + 1) _ _ (.slice none 0 0) (.slice none 0 0) HF.out.1 rfl rfl rfl rfl ?_; intro hfin)
          first
            | exact ret_pf2 6 7 (w.heap.size + 1) _ _ _ rfl rfl rfl rfl hfin (PvP.no (below_row HF.out.2 (by omega)))
            | exact ret_pf2 6 7 (w.heap.size + 1) _ _ _ rfl rfl rfl rfl HF.out.1 (PvP.no HF.out.2)

end Go.Proofs.YtklpanjedolkdaaGreatDoor
/-
  A row of texts that was handed in, great or small, and what a law weighs of it.
-/
namespace Go.Proofs.YtklpanjedolkdaaGreatDoor
open Go.RowKit Go.BigFrame Go.Sort
set_option linter.unusedVariables false
set_option linter.unusedSimpArgs false

def IsRowT (w : World) (v : Value) (g o : Nat) (l : List ByteArray) : Prop := ∃ a n cap, v = .slice a n cap ∧ n ≤ 9223372036854775807 ∧ (n ≤ 1048576 → l.length = n ∧ SS w v g o l ∧ (0 < l.length → g < w.heap.size) ∧ ∀ t ∈ l, t.size ≤ 9223372036854775807)
theorem IsRowT.later {w w' : World} {v : Value} {g o : Nat} {l : List ByteArray} (h : IsRowT w v g o l) (hb : Below w.heap.size w w') : IsRowT w' v g o l := by
  obtain ⟨a, n, cap, hv, hn, hr⟩ := h
  exact ⟨a, n, cap, hv, hn, fun hl => ⟨(hr hl).1, (hr hl).2.1.below hb (hr hl).2.2.1, fun h => Nat.lt_of_lt_of_le ((hr hl).2.2.1 h) hb.size, (hr hl).2.2.2⟩⟩
theorem rowT_of {w : World} {a : Option Addr} {len cap : Nat} {z : List ByteArray} (h : IsRowS w a len cap z) : ∃ g o l, IsRowT w (.slice a len cap) g o l := by
  have hm := h.len
  unfold maxLen at hm
  by_cases hl : len ≤ 1048576
  · obtain ⟨g, o, l, h1, h2, h3⟩ := ss_of_row h hl
    exact ⟨g, o, l, a, len, cap, rfl, by omega, fun _ => ⟨h1, h2, h2.lt, fun t ht => by have := h3 t ht; unfold maxLen at this; omega⟩⟩
  · exact ⟨0, 0, [], a, len, cap, rfl, by omega, fun h => absurd h hl⟩

def SzTw (l : List ByteArray) (x0 : Int) (w : World) (x i : Value) (wr : World) : Prop := ∃ (m : Nat) (y : Int), m ≤ l.length ∧ i = .int .i64 m ∧ x = .int .i64 y ∧ 0 ≤ y ∧ y ≤ x0 ∧ Hid (∀ j (h : j < l.length), j < m → l[j].size ≤ 1048576) ∧ wr = w

end Go.Proofs.YtklpanjedolkdaaGreatDoor
