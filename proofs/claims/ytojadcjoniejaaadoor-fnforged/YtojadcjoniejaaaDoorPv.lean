/-
  The proof of a name: the program's and the specification's answers, at any argument.
-/
import Derived.Test.YtojadcjoniejaaaDoorPkN
import Derived.Test.YtojadcjoniejaaaDoorPkM
import Derived.Test.YtojadcjoniejaaaDoorPkK
import Derived.Test.YtojadcjoniejaaaDoorPkL
namespace Go.Proofs.YtojadcjoniejaaaDoor
open Go.RowKit Go.BigFrame Go.Sort
set_option linter.unusedVariables false
set_option linter.unusedSimpArgs false

theorem OS.cap {B : Nat} {w0 w : World} {a : Option Addr} {n c : Nat} {l : List ByteArray} (h : OS B w0 w (.slice a n c) l) : l.length ≤ c := by
  rcases h.1.2 with ⟨hv, hn⟩ | ⟨g, cap, cur, hv, hbg, hg, hca, rest⟩
  · have : l.length = 0 := hn
    omega
  · simp only [Value.slice.injEq] at hv
    omega
noncomputable def pvOk (L : List Le) (nm : ByteArray) (l x : Int) : Bool := LV.leavesB L && okB nameB nm && decide (0 ≤ l ∧ l ≤ 8) && decide (1 ≤ x ∧ x ≤ 32)
noncomputable def pvB (L : List Le) (nm : ByteArray) (l x : Int) : List Le := if pvOk L nm l x then bkL L (idxN nm) else []
noncomputable def pvS (L : List Le) (nm : ByteArray) (l x : Int) : List ByteArray := if pvOk L nm l x then sdA L (idxN nm) l x else []

set_option maxRecDepth 100000 in
set_option maxHeartbeats 2000000 in
theorem sProveLeaf_any (v : Value) (ga oa : Nat) (L : List Le) (nm : ByteArray) (l x : Int) (w : World) (hv : RS 2 lcs w v ga oa L) (hsm : SmallL L) (hnm : nm.size ≤ 1048576) :
    Calls Tryd.prog 19 #[v, .string nm, .int .i64 l, .int .i64 x] w (PvP (pvB L nm l x) (pvS L nm l x) (pvOk L nm l x) w) := by
  have hba : Below w.heap.size w (w.alloc (.cells #[.slice none 0 0, .slice none 0 0] 36)) := (Below.refl _ _).alloc (Nat.le_refl _) _
  have HPN : Hid (PfM (w.alloc (.cells #[.slice none 0 0, .slice none 0 0] 36)) w.heap.size (.slice none 0 0) (.slice none 0 0)) := PfM.new w _ _
  have HRS : Hid (∀ W, Below w.heap.size w W → RS 2 lcs W v ga oa L) := fun W hW => hv.later hW
  have hlo := sLeavesOk_any v ga oa L _ (HRS.out _ hba) hsm
  have HNK : Hid (∀ W, Calls Tryd.prog 60 #[.string nm] W fun e w' => e = .returned (.bool (okB nameB nm)) ∧ w' = W) := fun W => sNameOk_any nm W hnm
  have HIX : Hid (∀ W, Below w.heap.size w W → Calls Tryd.prog 63 #[.string nm] W fun e w' => e = .returned (.int .i64 (idxN nm : Int)) ∧ Below W.heap.size W w') := fun W hW => sIndexOf_any nm W hnm
  have HLL : Hid ((bkL L (idxN nm)).length ≤ 1100000 ∧ (sdA L (idxN nm) l x).length ≤ 1100000) := ⟨Nat.le_trans (List.length_filter_le _ _) hv.len, Nat.le_trans (sdA_len _ _ _ _) (by omega)⟩
  have HYB : Hid (∀ (b : Bool), pvOk L nm l x = b → pvB L nm l x = (if b then bkL L (idxN nm) else []) ∧ pvS L nm l x = (if b then sdA L (idxN nm) l x else [])) := fun b h => ⟨by unfold pvB; rw [h], by unfold pvS; rw [h]⟩
  obtain ⟨R, hR⟩ : ∃ R, pvOk L nm l x = R := ⟨_, rfl⟩
  obtain ⟨e1, e2⟩ := HYB.out R hR
  have hR2 : R = (LV.leavesB L && okB nameB nm && decide (0 ≤ l ∧ l ≤ 8) && decide (1 ≤ x ∧ x ≤ 32)) := hR.symm
  rw [hR]
  clear hR HYB
  obtain ⟨BB, hBB⟩ : ∃ BB, pvB L nm l x = BB := ⟨_, rfl⟩
  obtain ⟨SB, hSB⟩ : ∃ SB, pvS L nm l x = SB := ⟨_, rfl⟩
  rw [hBB] at e1
  rw [hSB] at e2
  rw [hBB, hSB]
  have HE : Hid (BB = (if R then bkL L (idxN nm) else []) ∧ SB = (if R then sdA L (idxN nm) l x else [])) := ⟨e1, e2⟩
  clear e1 e2 hBB hSB
  obtain ⟨ix, hix⟩ : ∃ ix : Int, (idxN nm : Int) = ix := ⟨_, rfl⟩
  rw [hix] at HIX HLL HE
  have HBK : Hid (∀ W, Below w.heap.size w W → Calls Tryd.prog 62 #[v, .int .i64 ix] W fun e w' => ∃ u, e = .returned u ∧ OL W.heap.size W w' u (bkL L ix)) := fun W hW => sBucketOf_any v ga oa L ix W (HRS.out W hW) hsm
  have HSD : Hid (∀ W, Below w.heap.size w W → Calls Tryd.prog 64 #[v, .int .i64 ix, .int .i64 l, .int .i64 x] W fun e w' => ∃ u, e = .returned u ∧ OS W.heap.size W w' u (sdA L ix l x)) := fun W hW => sSidesOf_any v ga oa L ix l x W (HRS.out W hW) hsm
  clear hv hsm hix HRS
  generalize bkL L ix = BK at *
  generalize sdA L ix l x = SD at *
  generalize LV.leavesB L = A1 at *
  generalize okB nameB nm = A2 at *
  obtain ⟨A3, d1⟩ : ∃ A3, decide ((0 : Int) ≤ l ∧ l ≤ 8) = A3 := ⟨_, rfl⟩
  obtain ⟨A4, d2⟩ : ∃ A4, decide ((1 : Int) ≤ x ∧ x ≤ 32) = A4 := ⟨_, rfl⟩
  rw [d1, d2] at hR2
  go_enter Tryd.func19, Tryd.ntmps19
  go_wp2_with fail
  refine hlo.mono ?_
  rintro e w1 ⟨rfl, hb1⟩
  have HP1 : Hid (PfM w1 w.heap.size (.slice none 0 0) (.slice none 0 0)) := HPN.out.later hb1
  have b1 : Below w.heap.size w w1 := hba.trans (hb1.mono hba.size)
  clear hlo HPN hb1 hba
  have HNO : Hid (PvP [] [] false w (.returned (.tuple #[.agg #[.slice none 0 0, .slice none 0 0], .bool false])) (w1.setRow w.heap.size #[.slice none 0 0, .slice none 0 0])) := PvP.no (below_setRow b1 (Nat.le_refl _))
  cases A1 with
  | false =>
    obtain rfl : R = false := by rw [hR2]; rfl
    clear hR2
    clear HIX HLL HBK HSD
    go_wp2_with (refine wp_storePf rfl _ _ rfl w.heap.size _ _ (.slice none 0 0) (.slice none 0 0) HP1.out rfl rfl rfl rfl ?_; intro hfin)
    refine ret_pf2 8 9 w.heap.size _ _ _ rfl rfl rfl rfl hfin ?_
    obtain ⟨rfl, rfl⟩ := HE.out
    exact HNO.out

  | true =>
    go_wp2_with fail
    refine (HNK.out _).mono ?_
    rintro e w1' ⟨rfl, rfl⟩
    cases A2 with
    | false =>
      obtain rfl : R = false := by rw [hR2]; rfl
      clear hR2
      clear HIX HLL HBK HSD
      go_wp2_with (refine wp_storePf rfl _ _ rfl w.heap.size _ _ (.slice none 0 0) (.slice none 0 0) HP1.out rfl rfl rfl rfl ?_; intro hfin)
      refine ret_pf2 8 9 w.heap.size _ _ _ rfl rfl rfl rfl hfin ?_
      obtain ⟨rfl, rfl⟩ := HE.out
      exact HNO.out

    | true =>
      go_wp2_with fail
      refine (l01In_any _ _ _ _).mono ?_
      rintro e w1'' ⟨rfl, rfl⟩
      rw [d1]
      cases A3 with
      | false =>
        obtain rfl : R = false := by rw [hR2]; rfl
        clear hR2
        clear HIX HLL HBK HSD
        go_wp2_with (refine wp_storePf rfl _ _ rfl w.heap.size _ _ (.slice none 0 0) (.slice none 0 0) HP1.out rfl rfl rfl rfl ?_; intro hfin)
        refine ret_pf2 8 9 w.heap.size _ _ _ rfl rfl rfl rfl hfin ?_
        obtain ⟨rfl, rfl⟩ := HE.out
        exact HNO.out

      | true =>
        go_wp2_with fail
        refine (l01In_any _ _ _ _).mono ?_
        rintro e w2 ⟨rfl, rfl⟩
        rw [d2]
        cases A4 with
        | false =>
          obtain rfl : R = false := by rw [hR2]; rfl
          clear hR2
          clear HIX HLL HBK HSD
          go_wp2_with (refine wp_storePf rfl _ _ rfl w.heap.size _ _ (.slice none 0 0) (.slice none 0 0) HP1.out rfl rfl rfl rfl ?_; intro hfin)
          refine ret_pf2 8 9 w.heap.size _ _ _ rfl rfl rfl rfl hfin ?_
          obtain ⟨rfl, rfl⟩ := HE.out
          exact HNO.out

        | true =>
          obtain rfl : R = true := by rw [hR2]; rfl
          clear hR2
          clear HNO HNK
          obtain ⟨e1, e2⟩ := HE.out
          simp only [if_true] at e1 e2
          subst BB
          subst SB
          go_wp2_with fail
          refine (HIX.out _ b1).mono ?_
          rintro e w3 ⟨rfl, hb3⟩
          have HP3 := HP1.out.later hb3
          have b3 := b1.trans (hb3.mono b1.size)
          go_wp2_with fail
          refine (HBK.out _ b3).mono ?_
          rintro e w4 ⟨vb, rfl, ho4⟩
          have HP4 : Hid (PfM w4 w.heap.size (.slice none 0 0) (.slice none 0 0)) := HP3.later ho4.2.1
          have b4 := b3.trans (ho4.2.1.mono b3.size)
          have HG4 : Hid (w.heap.size < w3.heap.size) := HP3.lt
          obtain ⟨ab, cb, rfl⟩ := ho4.shape
          have HO4 : Hid (OL w3.heap.size w3 w4 (.slice ab BK.length cb) BK) := ho4
          clear ho4 hb3 HP1 HP3 b1 b3 HBK
          go_wp2_with fail
          refine (HIX.out _ b4).mono ?_
          rintro e w5 ⟨rfl, hb5⟩
          have b5 := b4.trans (hb5.mono b4.size)
          have HP5 : Hid (PfM w5 w.heap.size (.slice none 0 0) (.slice none 0 0)) := HP4.out.later hb5
          have HO5 : Hid (OL w3.heap.size w3 w5 (.slice ab BK.length cb) BK) := HO4.out.later hb5
          clear HP4 HO4 HIX b4
          go_wp2_with fail
          refine (HSD.out _ b5).mono ?_
          rintro e w6 ⟨vs, rfl, ho6⟩
          have b6 := b5.trans (ho6.2.1.mono b5.size)
          have hp6 : PfM w6 w.heap.size (.slice none 0 0) (.slice none 0 0) := HP5.out.later ho6.2.1
          have HO6 : Hid (OL w3.heap.size w3 w6 (.slice ab BK.length cb) BK) := HO5.out.later ho6.2.1
          obtain ⟨aZ, cs, rfl⟩ := ho6.slice
          have HS6 : Hid (OS w5.heap.size w5 w6 (.slice aZ SD.length cs) SD ∧ w.heap.size < w5.heap.size) := ⟨ho6, HP5.out.lt⟩
          have hgr := grown_setRowP w6 w.heap.size #[.slice ab BK.length cb, .slice aZ SD.length cs]
          have HF : Hid (PvP BK SD true w (.returned (.tuple #[.agg #[.slice ab BK.length cb, .slice aZ SD.length cs], .bool true])) (w6.setRow w.heap.size #[.slice ab BK.length cb, .slice aZ SD.length cs])) := by
            obtain ⟨gb, hrw, hgb, hqb⟩ := HO6.out.rw HLL.out.1
            obtain ⟨gs, hts, hgs⟩ := HS6.out.1.ts HLL.out.2
            have l1 := HG4.out
            have l2 := HS6.out.2
            refine ⟨_, _, _, _, gb, gs, rfl, hrw.grown hgr (fun _ => by simp; omega), hts.keptG hgr (fun _ => by simp; omega), by omega, by omega, ⟨fun h1 h2 => ?_, HS6.out.1.cap⟩, below_setRow b6 (Nat.le_refl _)⟩
            obtain ⟨gb5, hrw5, _, hq5⟩ := HO5.out.rw HLL.out.1
            have hlt := hrw5.lt h1
            have e1 := hrw5.1
            have e2 := hrw.1
            obtain ⟨_, _, ev, _, h3, _⟩ := hrw5.1
            obtain ⟨_, _, ev', _, h3', _⟩ := hrw.1
            simp only [Value.slice.injEq] at ev ev'
            have f1 := (h3 h1).1
            have f2 := (h3' h1).1
            rw [← ev.1] at f1
            rw [← ev'.1, f1] at f2
            simp at f2
            omega
          clear ho6 HO5 HO6 HP5 HS6 hb5 b5 b6 HSD HLL HG4 hgr
          go_wp2_with (refine wp_storePf rfl _ _ rfl w.heap.size _ _ (.slice ab BK.length cb) (.slice aZ SD.length cs) hp6 rfl rfl rfl rfl ?_; intro hfin)
          refine ret_pf2 8 9 w.heap.size _ _ _ rfl rfl rfl rfl hfin ?_
          exact HF.out

set_option maxRecDepth 100000 in
set_option maxHeartbeats 2000000 in
theorem ProveLeaf_any (v : Value) (ga oa : Nat) (L : List Le) (nm : ByteArray) (l x : Int) (w : World) (hv : RS 2 lcs w v ga oa L) (hsm : SmallL L) (hnm : nm.size ≤ 1048576) (hT : Tb w) :
    Calls Tryd.prog 33 #[v, .string nm, .int .i64 l, .int .i64 x] w (PvP (pvB L nm l x) (pvS L nm l x) (pvOk L nm l x) w) := by
  have hba : Below w.heap.size w (w.alloc (.cells #[.slice none 0 0, .slice none 0 0] 36)) := (Below.refl _ _).alloc (Nat.le_refl _) _
  have HPN : Hid (PfM (w.alloc (.cells #[.slice none 0 0, .slice none 0 0] 36)) w.heap.size (.slice none 0 0) (.slice none 0 0)) := PfM.new w _ _
  have HRS : Hid (∀ W, Below w.heap.size w W → RS 2 lcs W v ga oa L) := fun W hW => hv.later hW
  have hlo := LeavesOk_any v ga oa L _ (HRS.out _ hba) hsm
  have HNK : Hid (∀ W, Calls Tryd.prog 74 #[.string nm] W fun e w' => e = .returned (.bool (okB nameB nm)) ∧ w' = W) := fun W => NameOk_any nm W hnm
  have HIX : Hid (∀ W, Below w.heap.size w W → Calls Tryd.prog 76 #[.string nm] W fun e w' => e = .returned (.int .i64 (idxN nm : Int)) ∧ Below W.heap.size W w') := fun W hW => IndexOf_any nm W hnm (hT.later hW).1 (hT.later hW).2
  have HLL : Hid ((bkL L (idxN nm)).length ≤ 1100000 ∧ (sdA L (idxN nm) l x).length ≤ 1100000) := ⟨Nat.le_trans (List.length_filter_le _ _) hv.len, Nat.le_trans (sdA_len _ _ _ _) (by omega)⟩
  have HYB : Hid (∀ (b : Bool), pvOk L nm l x = b → pvB L nm l x = (if b then bkL L (idxN nm) else []) ∧ pvS L nm l x = (if b then sdA L (idxN nm) l x else [])) := fun b h => ⟨by unfold pvB; rw [h], by unfold pvS; rw [h]⟩
  obtain ⟨R, hR⟩ : ∃ R, pvOk L nm l x = R := ⟨_, rfl⟩
  obtain ⟨e1, e2⟩ := HYB.out R hR
  have hR2 : R = (LV.leavesB L && okB nameB nm && decide (0 ≤ l ∧ l ≤ 8) && decide (1 ≤ x ∧ x ≤ 32)) := hR.symm
  rw [hR]
  clear hR HYB
  obtain ⟨BB, hBB⟩ : ∃ BB, pvB L nm l x = BB := ⟨_, rfl⟩
  obtain ⟨SB, hSB⟩ : ∃ SB, pvS L nm l x = SB := ⟨_, rfl⟩
  rw [hBB] at e1
  rw [hSB] at e2
  rw [hBB, hSB]
  have HE : Hid (BB = (if R then bkL L (idxN nm) else []) ∧ SB = (if R then sdA L (idxN nm) l x else [])) := ⟨e1, e2⟩
  clear e1 e2 hBB hSB
  obtain ⟨ix, hix⟩ : ∃ ix : Int, (idxN nm : Int) = ix := ⟨_, rfl⟩
  rw [hix] at HIX HLL HE
  have HBK : Hid (∀ W, Below w.heap.size w W → Calls Tryd.prog 82 #[v, .int .i64 ix] W fun e w' => ∃ u, e = .returned u ∧ OL W.heap.size W w' u (bkL L ix)) := fun W hW => BucketOf_any v ga oa L ix W (HRS.out W hW) hsm (hT.later hW).1 (hT.later hW).2
  have HSD : Hid (∀ W, Below w.heap.size w W → Calls Tryd.prog 83 #[v, .int .i64 ix, .int .i64 l, .int .i64 x] W fun e w' => ∃ u, e = .returned u ∧ OS W.heap.size W w' u (sdA L ix l x)) := fun W hW => SidesOf_any v ga oa L ix l x W (HRS.out W hW) hsm (hT.later hW)
  clear hv hsm hix HRS hT
  generalize bkL L ix = BK at *
  generalize sdA L ix l x = SD at *
  generalize LV.leavesB L = A1 at *
  generalize okB nameB nm = A2 at *
  obtain ⟨A3, d1⟩ : ∃ A3, decide ((0 : Int) ≤ l ∧ l ≤ 8) = A3 := ⟨_, rfl⟩
  obtain ⟨A4, d2⟩ : ∃ A4, decide ((1 : Int) ≤ x ∧ x ≤ 32) = A4 := ⟨_, rfl⟩
  rw [d1, d2] at hR2
  go_enter Tryd.func33, Tryd.ntmps33
  go_wp2_with fail
  refine hlo.mono ?_
  rintro e w1 ⟨rfl, hb1⟩
  have HP1 : Hid (PfM w1 w.heap.size (.slice none 0 0) (.slice none 0 0)) := HPN.out.later hb1
  have b1 : Below w.heap.size w w1 := hba.trans (hb1.mono hba.size)
  clear hlo HPN hb1 hba
  have HNO : Hid (PvP [] [] false w (.returned (.tuple #[.agg #[.slice none 0 0, .slice none 0 0], .bool false])) (w1.setRow w.heap.size #[.slice none 0 0, .slice none 0 0])) := PvP.no (below_setRow b1 (Nat.le_refl _))
  cases A1 with
  | false =>
    obtain rfl : R = false := by rw [hR2]; rfl
    clear hR2
    clear HIX HLL HBK HSD
    go_wp2_with (refine wp_storePf rfl _ _ rfl w.heap.size _ _ (.slice none 0 0) (.slice none 0 0) HP1.out rfl rfl rfl rfl ?_; intro hfin)
    refine ret_pf2 8 9 w.heap.size _ _ _ rfl rfl rfl rfl hfin ?_
    obtain ⟨rfl, rfl⟩ := HE.out
    exact HNO.out

  | true =>
    go_wp2_with fail
    refine (HNK.out _).mono ?_
    rintro e w1' ⟨rfl, rfl⟩
    cases A2 with
    | false =>
      obtain rfl : R = false := by rw [hR2]; rfl
      clear hR2
      clear HIX HLL HBK HSD
      go_wp2_with (refine wp_storePf rfl _ _ rfl w.heap.size _ _ (.slice none 0 0) (.slice none 0 0) HP1.out rfl rfl rfl rfl ?_; intro hfin)
      refine ret_pf2 8 9 w.heap.size _ _ _ rfl rfl rfl rfl hfin ?_
      obtain ⟨rfl, rfl⟩ := HE.out
      exact HNO.out

    | true =>
      go_wp2_with fail
      refine (levelOk_any _ _).mono ?_
      rintro e w1'' ⟨rfl, rfl⟩
      rw [d1]
      cases A3 with
      | false =>
        obtain rfl : R = false := by rw [hR2]; rfl
        clear hR2
        clear HIX HLL HBK HSD
        go_wp2_with (refine wp_storePf rfl _ _ rfl w.heap.size _ _ (.slice none 0 0) (.slice none 0 0) HP1.out rfl rfl rfl rfl ?_; intro hfin)
        refine ret_pf2 8 9 w.heap.size _ _ _ rfl rfl rfl rfl hfin ?_
        obtain ⟨rfl, rfl⟩ := HE.out
        exact HNO.out

      | true =>
        go_wp2_with fail
        refine (widthOk_any _ _).mono ?_
        rintro e w2 ⟨rfl, rfl⟩
        rw [d2]
        cases A4 with
        | false =>
          obtain rfl : R = false := by rw [hR2]; rfl
          clear hR2
          clear HIX HLL HBK HSD
          go_wp2_with (refine wp_storePf rfl _ _ rfl w.heap.size _ _ (.slice none 0 0) (.slice none 0 0) HP1.out rfl rfl rfl rfl ?_; intro hfin)
          refine ret_pf2 8 9 w.heap.size _ _ _ rfl rfl rfl rfl hfin ?_
          obtain ⟨rfl, rfl⟩ := HE.out
          exact HNO.out

        | true =>
          obtain rfl : R = true := by rw [hR2]; rfl
          clear hR2
          clear HNO HNK
          obtain ⟨e1, e2⟩ := HE.out
          simp only [if_true] at e1 e2
          subst BB
          subst SB
          go_wp2_with fail
          refine (HIX.out _ b1).mono ?_
          rintro e w3 ⟨rfl, hb3⟩
          have HP3 := HP1.out.later hb3
          have b3 := b1.trans (hb3.mono b1.size)
          go_wp2_with fail
          refine (HBK.out _ b3).mono ?_
          rintro e w4 ⟨vb, rfl, ho4⟩
          have HP4 : Hid (PfM w4 w.heap.size (.slice none 0 0) (.slice none 0 0)) := HP3.later ho4.2.1
          have b4 := b3.trans (ho4.2.1.mono b3.size)
          have HG4 : Hid (w.heap.size < w3.heap.size) := HP3.lt
          obtain ⟨ab, cb, rfl⟩ := ho4.shape
          have HO4 : Hid (OL w3.heap.size w3 w4 (.slice ab BK.length cb) BK) := ho4
          clear ho4 hb3 HP1 HP3 b1 b3 HBK
          obtain ⟨w5, hw5⟩ : ∃ w5, w4 = w5 := ⟨_, rfl⟩
          subst hw5
          have hb5 : Below w4.heap.size w4 w4 := Below.refl _ _
          have b5 := b4.trans (hb5.mono b4.size)
          have HP5 : Hid (PfM w4 w.heap.size (.slice none 0 0) (.slice none 0 0)) := HP4.out.later hb5
          have HO5 : Hid (OL w3.heap.size w3 w4 (.slice ab BK.length cb) BK) := HO4.out.later hb5
          clear HP4 HO4 HIX b4
          go_wp2_with fail
          refine (HSD.out _ b5).mono ?_
          rintro e w6 ⟨vs, rfl, ho6⟩
          have b6 := b5.trans (ho6.2.1.mono b5.size)
          have hp6 : PfM w6 w.heap.size (.slice none 0 0) (.slice none 0 0) := HP5.out.later ho6.2.1
          have HO6 : Hid (OL w3.heap.size w3 w6 (.slice ab BK.length cb) BK) := HO5.out.later ho6.2.1
          obtain ⟨aZ, cs, rfl⟩ := ho6.slice
          have HS6 : Hid (OS w4.heap.size w4 w6 (.slice aZ SD.length cs) SD ∧ w.heap.size < w4.heap.size) := ⟨ho6, HP5.out.lt⟩
          have hgr := grown_setRowP w6 w.heap.size #[.slice ab BK.length cb, .slice aZ SD.length cs]
          have HF : Hid (PvP BK SD true w (.returned (.tuple #[.agg #[.slice ab BK.length cb, .slice aZ SD.length cs], .bool true])) (w6.setRow w.heap.size #[.slice ab BK.length cb, .slice aZ SD.length cs])) := by
            obtain ⟨gb, hrw, hgb, hqb⟩ := HO6.out.rw HLL.out.1
            obtain ⟨gs, hts, hgs⟩ := HS6.out.1.ts HLL.out.2
            have l1 := HG4.out
            have l2 := HS6.out.2
            refine ⟨_, _, _, _, gb, gs, rfl, hrw.grown hgr (fun _ => by simp; omega), hts.keptG hgr (fun _ => by simp; omega), by omega, by omega, ⟨fun h1 h2 => ?_, HS6.out.1.cap⟩, below_setRow b6 (Nat.le_refl _)⟩
            obtain ⟨gb5, hrw5, _, hq5⟩ := HO5.out.rw HLL.out.1
            have hlt := hrw5.lt h1
            have e1 := hrw5.1
            have e2 := hrw.1
            obtain ⟨_, _, ev, _, h3, _⟩ := hrw5.1
            obtain ⟨_, _, ev', _, h3', _⟩ := hrw.1
            simp only [Value.slice.injEq] at ev ev'
            have f1 := (h3 h1).1
            have f2 := (h3' h1).1
            rw [← ev.1] at f1
            rw [← ev'.1, f1] at f2
            simp at f2
            omega
          clear ho6 HO5 HO6 HP5 HS6 hb5 b5 b6 HSD HLL HG4 hgr
          go_wp2_with (refine wp_storePf rfl _ _ rfl w.heap.size _ _ (.slice ab BK.length cb) (.slice aZ SD.length cs) hp6 rfl rfl rfl rfl ?_; intro hfin)
          refine ret_pf2 8 9 w.heap.size _ _ _ rfl rfl rfl rfl hfin ?_
          exact HF.out

end Go.Proofs.YtojadcjoniejaaaDoor
