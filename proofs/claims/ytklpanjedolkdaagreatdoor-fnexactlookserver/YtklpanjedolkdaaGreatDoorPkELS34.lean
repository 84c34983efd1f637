/-
  Texts laid together: Pt, Pl, Pvd.
-/
import Derived.Test.YtklpanjedolkdaaGreatDoorPkELS31
import Derived.Test.YtklpanjedolkdaaGreatDoorPkELS26
import Derived.Test.YtklpanjedolkdaaGreatDoorPkELS33
import Derived.Test.YtklpanjedolkdaaGreatDoorPkELS18
import Derived.Test.YtklpanjedolkdaaGreatDoorPkELS9
import Derived.Test.YtklpanjedolkdaaGreatDoorPkELS8
/-
  The chain of texts of a proof: the specification's answer.
-/
namespace Go.Proofs.YtklpanjedolkdaaGreatDoor
open Go.RowKit Go.BigFrame Go.Sort
set_option linter.unusedVariables false
set_option linter.unusedSimpArgs false

/-- the chain of texts -/
def chT (ix : Int) (x : Int) (t0 : ByteArray) (S : List ByteArray) : Nat → ByteArray
  | 0 => t0
  | i + 1 => tagB 3 (if bitI ix (7 - i) = 1 then [S.getD i ⟨#[]⟩, cutH (chT ix x t0 S i) x] else [cutH (chT ix x t0 S i) x, S.getD i ⟨#[]⟩])
def chL (ix : Int) (x : Int) (t0 : ByteArray) (S : List ByteArray) (n : Nat) : List ByteArray := (List.range n).map (chT ix x t0 S)
theorem chL_len (ix : Int) (x : Int) (t0 : ByteArray) (S : List ByteArray) (n : Nat) : (chL ix x t0 S n).length = n := by simp [chL]
theorem chL_at (ix : Int) (x : Int) (t0 : ByteArray) (S : List ByteArray) (n j : Nat) (h : j < (chL ix x t0 S n).length) : (chL ix x t0 S n)[j] = chT ix x t0 S j := by simp [chL]
theorem chL_succ (ix : Int) (x : Int) (t0 : ByteArray) (S : List ByteArray) (n : Nat) : chL ix x t0 S (n + 1) = chL ix x t0 S n ++ [chT ix x t0 S n] := by
  unfold chL
  rw [List.range_succ, List.map_append]
  rfl
theorem chT_size (ix : Int) (x : Int) (t0 : ByteArray) (S : List ByteArray) (h : t0.size ≤ 12601) : ∀ i, (chT ix x t0 S i).size ≤ 12601
  | 0 => h
  | i + 1 => tagB_size _ _

def PtR (w0 : World) (B : Nat) (ix : Int) (x : Int) (t0 : ByteArray) (S : List ByteArray) (u i : Value) (wr : World) : Prop := ∃ m : Nat, m ≤ S.length ∧ i = .int .i64 m ∧ ∃ g cap, u = .slice (some ⟨g, 0, none⟩) (m + 1) cap ∧ Hid (OS B w0 wr u (chL ix x t0 S (m + 1)))

/-- what ProofTexts is -/
noncomputable def ptA (nm : ByteArray) (B : List Le) (S : List ByteArray) (x : Int) : List ByteArray := if pfOk nm B S x then chL (idxN nm) x (btB B) S (S.length + 1) else []
end Go.Proofs.YtklpanjedolkdaaGreatDoor
/-
  The proof of a name: the specification's answer.
-/
namespace Go.Proofs.YtklpanjedolkdaaGreatDoor
open Go.RowKit Go.BigFrame Go.Sort
set_option linter.unusedVariables false
set_option linter.unusedSimpArgs false

set_option maxRecDepth 100000 in
set_option maxHeartbeats 1000000 in
theorem sProveLeaf_yes (v : Value) (ga oa : Nat) (L : List Le) (nm : ByteArray) (x : Int) (w : World) (hv : RS 2 lcs w v ga oa L) (hsm : SmallL L) (hl : LV.leavesB L = true) (hn : okB nameB nm = true) (hx : 1 ≤ x ∧ x ≤ 32) (hnm : nm.size ≤ 1048576) :
    Calls Tryz.prog 65 #[v, .string nm, .int .i64 0, .int .i64 x] w fun e w' => ∃ vb vs gb gs, e = .returned (.tuple #[.agg #[vb, vs], .bool true]) ∧ RS 2 lcs w' vb gb 0 (bkL L (idxN nm)) ∧ SS w' vs gs 0 (sdA L (idxN nm) 0 x) ∧ Below w.heap.size w w' := by
  have hba : Below w.heap.size w (w.alloc (.cells #[.slice none 0 0, .slice none 0 0] 55)) := (Below.refl _ _).alloc (Nat.le_refl _) _
  have HPN : Hid (PfM (w.alloc (.cells #[.slice none 0 0, .slice none 0 0] 55)) w.heap.size (.slice none 0 0) (.slice none 0 0)) := PfM.new w _ _
  have HRS : Hid (∀ W, Below w.heap.size w W → RS 2 lcs W v ga oa L) := fun W hW => hv.later hW
  have hlo := sLeavesOk_any v ga oa L _ (HRS.out _ hba) hsm
  rw [hl] at hlo
  have HNK : Hid (∀ W, Calls Tryz.prog 111 #[.string nm] W fun e w' => e = .returned (.bool true) ∧ w' = W) := fun W => by
    have h := sNameOk_any nm W hnm
    rw [hn] at h
    exact h
  have HIX : Hid (∀ W, Calls Tryz.prog 109 #[.string nm] W fun e w' => e = .returned (.int .i64 (idxN nm : Int)) ∧ Below W.heap.size W w') := fun W => sIndexOf_any nm W hnm
  have HLL : Hid ((bkL L (idxN nm)).length ≤ 1100000 ∧ (sdA L (idxN nm) 0 x).length ≤ 1100000) := by
    refine ⟨Nat.le_trans (List.length_filter_le _ _) hv.len, ?_⟩
    unfold sdA
    split
    · rw [sdL_len]; omega
    · simp
  obtain ⟨ix, hix⟩ : ∃ ix : Int, (idxN nm : Int) = ix := ⟨_, rfl⟩
  rw [hix] at HIX HLL ⊢
  have HBK : Hid (∀ W, Below w.heap.size w W → Calls Tryz.prog 112 #[v, .int .i64 ix] W fun e w' => ∃ u, e = .returned u ∧ OL W.heap.size W w' u (bkL L ix)) := fun W hW => sBucketOf_any v ga oa L ix W (HRS.out W hW) hsm
  have HSD : Hid (∀ W, Below w.heap.size w W → Calls Tryz.prog 113 #[v, .int .i64 ix, .int .i64 0, .int .i64 x] W fun e w' => ∃ u, e = .returned u ∧ OS W.heap.size W w' u (sdA L ix 0 x)) := fun W hW => sSidesOf_any v ga oa L ix 0 x W (HRS.out W hW) hsm
  have HL2 : Hid (Calls Tryz.prog 110 #[v] (w.alloc (.cells #[.slice none 0 0, .slice none 0 0] 55)) fun e w' => e = .returned (.bool true) ∧ Below (w.alloc (.cells #[.slice none 0 0, .slice none 0 0] 55)).heap.size (w.alloc (.cells #[.slice none 0 0, .slice none 0 0] 55)) w') := hlo
  have d1 : decide ((0 : Int) ≤ 0 ∧ (0 : Int) ≤ 8) = true := by decide
  have d2 : decide ((1 : Int) ≤ x ∧ x ≤ 32) = true := by simpa using hx
  clear hlo hv hsm hl hn hix HRS hx hnm
  generalize bkL L ix = BK at *
  generalize sdA L ix 0 x = SD at *
  go_enter Tryz.func65, Tryz.ntmps65
  go_wp2_with fail
  refine HL2.out.mono ?_
  rintro e w1 ⟨rfl, hb1⟩
  have HP1 : Hid (PfM w1 w.heap.size (.slice none 0 0) (.slice none 0 0)) := HPN.out.later hb1
  have b1 : Below w.heap.size w w1 := hba.trans (hb1.mono hba.size)
  clear HL2 HPN hb1 hba
  go_wp2_with fail
  refine (HNK.out _).mono ?_
  rintro e w1' ⟨rfl, rfl⟩
  go_wp2_with fail
  refine (l01In_any _ _ _ _).mono ?_
  rintro e w1'' ⟨rfl, rfl⟩
  rw [d1]
  go_wp2_with fail
  refine (l01In_any _ _ _ _).mono ?_
  rintro e w2 ⟨rfl, rfl⟩
  rw [d2]
  go_wp2_with fail
  refine (HIX.out _).mono ?_
  rintro e w3 ⟨rfl, hb3⟩
  have HP3 := HP1.out.later hb3
  have b3 := b1.trans (hb3.mono b1.size)
  go_wp2_with fail
  refine (HBK.out _ b3).mono ?_
  rintro e w4 ⟨vb, rfl, ho4⟩
  have HP4 : Hid (PfM w4 w.heap.size (.slice none 0 0) (.slice none 0 0)) := HP3.later ho4.2.1
  have b4 := b3.trans (ho4.2.1.mono b3.size)
  have HG4 : Hid (w.heap.size < w3.heap.size) := HP3.lt
  obtain ⟨ab, cb, rfl⟩ := ho4.shape
  have HO4 : Hid (OL w3.heap.size w3 w4 (.slice ab BK.length cb) BK) := ho4
  clear ho4 hb3 HP1 HP3 b1 b3 HBK
  go_wp2_with fail
  refine (HIX.out _).mono ?_
  rintro e w5 ⟨rfl, hb5⟩
  have b5 := b4.trans (hb5.mono b4.size)
  have HP5 : Hid (PfM w5 w.heap.size (.slice none 0 0) (.slice none 0 0)) := HP4.out.later hb5
  have HO5 : Hid (OL w3.heap.size w3 w5 (.slice ab BK.length cb) BK) := HO4.out.later hb5
  clear HP4 HO4 HIX b4
  go_wp2_with fail
  refine (HSD.out _ b5).mono ?_
  rintro e w6 ⟨vs, rfl, ho6⟩
  have b6 := b5.trans (ho6.2.1.mono b5.size)
  have hp6 : PfM w6 w.heap.size (.slice none 0 0) (.slice none 0 0) := HP5.out.later ho6.2.1
  have HO6 : Hid (OL w3.heap.size w3 w6 (.slice ab BK.length cb) BK) := HO5.out.later ho6.2.1
  obtain ⟨aZ, cs, rfl⟩ := ho6.slice
  have HS6 : Hid (OS w5.heap.size w5 w6 (.slice aZ SD.length cs) SD ∧ w.heap.size < w5.heap.size) := ⟨ho6, HP5.out.lt⟩
  have hgr := grown_setRowP w6 w.heap.size #[.slice ab BK.length cb, .slice aZ SD.length cs]
  have HF : Hid (∃ vb vs gb gs, Ending.returned (.tuple #[.agg #[.slice ab BK.length cb, .slice aZ SD.length cs], .bool true]) = .returned (.tuple #[.agg #[vb, vs], .bool true]) ∧ RS 2 lcs (w6.setRow w.heap.size #[.slice ab BK.length cb, .slice aZ SD.length cs]) vb gb 0 BK ∧ SS (w6.setRow w.heap.size #[.slice ab BK.length cb, .slice aZ SD.length cs]) vs gs 0 SD ∧ Below w.heap.size w (w6.setRow w.heap.size #[.slice ab BK.length cb, .slice aZ SD.length cs])) := by
    obtain ⟨gb, hrw, hgb, _⟩ := HO6.out.rw HLL.out.1
    obtain ⟨gs, hts, hgs⟩ := HS6.out.1.ts HLL.out.2
    have l1 := HG4.out
    have l2 := HS6.out.2
    refine ⟨_, _, gb, gs, rfl, hrw.1.grown hgr (fun _ => by simp; omega), ?_, below_setRow b6 (Nat.le_refl _)⟩
    exact (hts.keptG hgr (fun _ => by simp; omega)).ss
  clear ho6 HO5 HO6 HP5 HS6 hb5 b5 b6 HSD HLL HG4 hgr
  go_wp2_with (refine wp_storePf rfl _ _ rfl w.heap.size _ _ (.slice ab BK.length cb) (.slice aZ SD.length cs) hp6 rfl rfl rfl rfl ?_; intro hfin)
  refine ret_pf2 8 9 w.heap.size _ _ _ rfl rfl rfl rfl hfin ?_
  exact HF.out

end Go.Proofs.YtklpanjedolkdaaGreatDoor
/-
  A proof that is answered, and a word beside it.
-/
namespace Go.Proofs.YtklpanjedolkdaaGreatDoor
open Go.RowKit Go.BigFrame Go.Sort
set_option linter.unusedVariables false
set_option linter.unusedSimpArgs false

/-- a proof answered, in new memory, and a word beside it -/
def PvP (B : List Le) (S : List ByteArray) (b : Bool) (w : World) (e : Ending) (w' : World) : Prop := ∃ ab cb aS cS gb gs, e = .returned (.tuple #[.agg #[.slice ab B.length cb, .slice aS S.length cS], .bool b]) ∧ RW 2 lcs w' (.slice ab B.length cb) gb B ∧ TS w' (.slice aS S.length cS) gs S ∧ w.heap.size ≤ gb ∧ w.heap.size ≤ gs ∧ ((0 < B.length → 0 < S.length → gb ≠ gs) ∧ S.length ≤ cS) ∧ Below w.heap.size w w'
theorem PvP.no {w w' : World} (hb : Below w.heap.size w w') : PvP [] [] false w (.returned (.tuple #[.agg #[.slice none 0 0, .slice none 0 0], .bool false])) w' :=
  ⟨none, 0, none, 0, w.heap.size, w.heap.size, rfl, RW.nil _ _, TS.nil _ _, Nat.le_refl _, Nat.le_refl _, ⟨fun h => absurd h (by simp), Nat.le_refl _⟩, hb⟩

end Go.Proofs.YtklpanjedolkdaaGreatDoor
