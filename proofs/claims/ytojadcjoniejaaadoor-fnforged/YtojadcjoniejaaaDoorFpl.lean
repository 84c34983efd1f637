/-
  The specification's ProveLeaf where all is right, at any level; what it answers is nil only with no room.
-/
import Derived.Test.YtojadcjoniejaaaDoorPkN
namespace Go.Proofs.YtojadcjoniejaaaDoor
open Go.RowKit Go.BigFrame Go.Sort
set_option linter.unusedVariables false
set_option linter.unusedSimpArgs false

theorem OL.nilF {B : Nat} {w0 w : World} {a : Option Addr} {n c : Nat} {l : List Le} (h : OL B w0 w (.slice a n c) l) : a = none → c = 0 := by
  rcases h.1.2 with ⟨hv, _⟩ | ⟨g, cap, cur, hv, _⟩
  · simp only [Value.slice.injEq] at hv
    exact fun _ => hv.2.2
  · simp only [Value.slice.injEq] at hv
    intro e
    rw [hv.1] at e
    cases e
theorem OS.nilF {B : Nat} {w0 w : World} {a : Option Addr} {n c : Nat} {l : List ByteArray} (h : OS B w0 w (.slice a n c) l) : a = none → c = 0 := by
  rcases h.1.2 with ⟨hv, _⟩ | ⟨g, cap, cur, hv, _⟩
  · simp only [Value.slice.injEq] at hv
    exact fun _ => hv.2.2
  · simp only [Value.slice.injEq] at hv
    intro e
    rw [hv.1] at e
    cases e

set_option maxRecDepth 100000 in
set_option maxHeartbeats 1000000 in
theorem sProveLeaf_lvl (v : Value) (ga oa : Nat) (L : List Le) (nm : ByteArray) (l x : Int) (w : World) (hv : RS 2 lcs w v ga oa L) (hsm : SmallL L) (hl : LV.leavesB L = true) (hn : okB nameB nm = true) (hl8 : 0 ≤ l ∧ l ≤ 8) (hx : 1 ≤ x ∧ x ≤ 32) (hnm : nm.size ≤ 1048576) :
    Calls Tryd.prog 19 #[v, .string nm, .int .i64 l, .int .i64 x] w fun e w' => ∃ ab cb aS cS gb gs, e = .returned (.tuple #[.agg #[.slice ab (bkL L (idxN nm)).length cb, .slice aS (sdA L (idxN nm) l x).length cS], .bool true]) ∧ RS 2 lcs w' (.slice ab (bkL L (idxN nm)).length cb) gb 0 (bkL L (idxN nm)) ∧ SS w' (.slice aS (sdA L (idxN nm) l x).length cS) gs 0 (sdA L (idxN nm) l x) ∧ (w.heap.size ≤ gb ∧ w.heap.size ≤ gs) ∧ ((ab = none → cb = 0) ∧ (aS = none → cS = 0)) ∧ Below w.heap.size w w' := by
  have hba : Below w.heap.size w (w.alloc (.cells #[.slice none 0 0, .slice none 0 0] 36)) := (Below.refl _ _).alloc (Nat.le_refl _) _
  have HPN : Hid (PfM (w.alloc (.cells #[.slice none 0 0, .slice none 0 0] 36)) w.heap.size (.slice none 0 0) (.slice none 0 0)) := PfM.new w _ _
  have HRS : Hid (∀ W, Below w.heap.size w W → RS 2 lcs W v ga oa L) := fun W hW => hv.later hW
  have hlo := sLeavesOk_any v ga oa L _ (HRS.out _ hba) hsm
  rw [hl] at hlo
  have HNK : Hid (∀ W, Calls Tryd.prog 60 #[.string nm] W fun e w' => e = .returned (.bool true) ∧ w' = W) := fun W => by
    have h := sNameOk_any nm W hnm
    rw [hn] at h
    exact h
  have HIX : Hid (∀ W, Calls Tryd.prog 63 #[.string nm] W fun e w' => e = .returned (.int .i64 (idxN nm : Int)) ∧ Below W.heap.size W w') := fun W => sIndexOf_any nm W hnm
  have HLL : Hid ((bkL L (idxN nm)).length ≤ 1100000 ∧ (sdA L (idxN nm) l x).length ≤ 1100000) := by
    refine ⟨Nat.le_trans (List.length_filter_le _ _) hv.len, ?_⟩
    unfold sdA
    split
    · rw [sdL_len]; omega
    · simp
  obtain ⟨ix, hix⟩ : ∃ ix : Int, (idxN nm : Int) = ix := ⟨_, rfl⟩
  rw [hix] at HIX HLL ⊢
  have HBK : Hid (∀ W, Below w.heap.size w W → Calls Tryd.prog 62 #[v, .int .i64 ix] W fun e w' => ∃ u, e = .returned u ∧ OL W.heap.size W w' u (bkL L ix)) := fun W hW => sBucketOf_any v ga oa L ix W (HRS.out W hW) hsm
  have HSD : Hid (∀ W, Below w.heap.size w W → Calls Tryd.prog 64 #[v, .int .i64 ix, .int .i64 l, .int .i64 x] W fun e w' => ∃ u, e = .returned u ∧ OS W.heap.size W w' u (sdA L ix l x)) := fun W hW => sSidesOf_any v ga oa L ix l x W (HRS.out W hW) hsm
  have HL2 : Hid (Calls Tryd.prog 53 #[v] (w.alloc (.cells #[.slice none 0 0, .slice none 0 0] 36)) fun e w' => e = .returned (.bool true) ∧ Below (w.alloc (.cells #[.slice none 0 0, .slice none 0 0] 36)).heap.size (w.alloc (.cells #[.slice none 0 0, .slice none 0 0] 36)) w') := hlo
  have d1 : decide ((0 : Int) ≤ l ∧ l ≤ 8) = true := by simpa using hl8
  have d2 : decide ((1 : Int) ≤ x ∧ x ≤ 32) = true := by simpa using hx
  clear hlo hv hsm hl hn hix HRS hx hnm hl8
  generalize bkL L ix = BK at *
  generalize sdA L ix l x = SD at *
  go_enter Tryd.func19, Tryd.ntmps19
  go_wp2_with fail
  refine HL2.out.mono ?_
  rintro e w1 ⟨rfl, hb1⟩
  have HP1 : Hid (PfM w1 w.heap.size (.slice none 0 0) (.slice none 0 0)) := HPN.out.later hb1
  have b1 : Below w.heap.size w w1 := hba.trans (hb1.mono hba.size)
  clear HL2 HPN hb1 hba
  go_wp2_with fail
  refine (HNK.out _).mono ?_
  rintro e w1' ⟨rfl, rfl⟩
  go_wp2_with fail
  refine (l01In_any _ _ _ _).mono ?_
  rintro e w1'' ⟨rfl, rfl⟩
  rw [d1]
  go_wp2_with fail
  refine (l01In_any _ _ _ _).mono ?_
  rintro e w2 ⟨rfl, rfl⟩
  rw [d2]
  go_wp2_with fail
  refine (HIX.out _).mono ?_
  rintro e w3 ⟨rfl, hb3⟩
  have HP3 := HP1.out.later hb3
  have b3 := b1.trans (hb3.mono b1.size)
  go_wp2_with fail
  refine (HBK.out _ b3).mono ?_
  rintro e w4 ⟨vb, rfl, ho4⟩
  have HP4 : Hid (PfM w4 w.heap.size (.slice none 0 0) (.slice none 0 0)) := HP3.later ho4.2.1
  have b4 := b3.trans (ho4.2.1.mono b3.size)
  have HG4 : Hid (w.heap.size < w3.heap.size) := HP3.lt
  obtain ⟨ab, cb, rfl⟩ := ho4.shape
  have HO4 : Hid (OL w3.heap.size w3 w4 (.slice ab BK.length cb) BK) := ho4
  clear ho4 hb3 HP1 HP3 b1 b3 HBK
  go_wp2_with fail
  refine (HIX.out _).mono ?_
  rintro e w5 ⟨rfl, hb5⟩
  have b5 := b4.trans (hb5.mono b4.size)
  have HP5 : Hid (PfM w5 w.heap.size (.slice none 0 0) (.slice none 0 0)) := HP4.out.later hb5
  have HO5 : Hid (OL w3.heap.size w3 w5 (.slice ab BK.length cb) BK) := HO4.out.later hb5
  clear HP4 HO4 HIX b4
  go_wp2_with fail
  refine (HSD.out _ b5).mono ?_
  rintro e w6 ⟨vs, rfl, ho6⟩
  have b6 := b5.trans (ho6.2.1.mono b5.size)
  have hp6 : PfM w6 w.heap.size (.slice none 0 0) (.slice none 0 0) := HP5.out.later ho6.2.1
  have HO6 : Hid (OL w3.heap.size w3 w6 (.slice ab BK.length cb) BK) := HO5.out.later ho6.2.1
  obtain ⟨aZ, cs, rfl⟩ := ho6.slice
  have HS6 : Hid (OS w5.heap.size w5 w6 (.slice aZ SD.length cs) SD ∧ w.heap.size < w5.heap.size) := ⟨ho6, HP5.out.lt⟩
  have hgr := grown_setRowP w6 w.heap.size #[.slice ab BK.length cb, .slice aZ SD.length cs]
  have HF : Hid (∃ a1 c1 a2 c2 gb gs, Ending.returned (.tuple #[.agg #[.slice ab BK.length cb, .slice aZ SD.length cs], .bool true]) = .returned (.tuple #[.agg #[.slice a1 BK.length c1, .slice a2 SD.length c2], .bool true]) ∧ RS 2 lcs (w6.setRow w.heap.size #[.slice ab BK.length cb, .slice aZ SD.length cs]) (.slice a1 BK.length c1) gb 0 BK ∧ SS (w6.setRow w.heap.size #[.slice ab BK.length cb, .slice aZ SD.length cs]) (.slice a2 SD.length c2) gs 0 SD ∧ (w.heap.size ≤ gb ∧ w.heap.size ≤ gs) ∧ ((a1 = none → c1 = 0) ∧ (a2 = none → c2 = 0)) ∧ Below w.heap.size w (w6.setRow w.heap.size #[.slice ab BK.length cb, .slice aZ SD.length cs])) := by
    obtain ⟨gb, hrw, hgb, _⟩ := HO6.out.rw HLL.out.1
    obtain ⟨gs, hts, hgs⟩ := HS6.out.1.ts HLL.out.2
    have l1 := HG4.out
    have l2 := HS6.out.2
    refine ⟨_, _, _, _, gb, gs, rfl, hrw.1.grown hgr (fun _ => by simp; omega), ?_, ⟨by omega, by omega⟩, ⟨HO6.out.nilF, HS6.out.1.nilF⟩, below_setRow b6 (Nat.le_refl _)⟩
    exact (hts.keptG hgr (fun _ => by simp; omega)).ss
  clear ho6 HO5 HO6 HP5 HS6 hb5 b5 b6 HSD HLL HG4 hgr
  go_wp2_with (refine wp_storePf rfl _ _ rfl w.heap.size _ _ (.slice ab BK.length cb) (.slice aZ SD.length cs) hp6 rfl rfl rfl rfl ?_; intro hfin)
  refine ret_pf2 8 9 w.heap.size _ _ _ rfl rfl rfl rfl hfin ?_
  exact HF.out

end Go.Proofs.YtojadcjoniejaaaDoor
