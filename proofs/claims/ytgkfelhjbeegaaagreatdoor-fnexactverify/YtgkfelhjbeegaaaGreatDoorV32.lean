/-
  Texts laid together: Pt, Pc, Pp, Pl.
-/
import Derived.Test.YtgkfelhjbeegaaaGreatDoorV28
import Derived.Test.YtgkfelhjbeegaaaGreatDoorV26
import Derived.Test.YtgkfelhjbeegaaaGreatDoorV31
import Derived.Lib.QuietBelow
import Derived.Test.YtgkfelhjbeegaaaGreatDoorV09
/-
  The chain of texts of a proof: the specification's answer.
-/
namespace Go.Proofs.YtgkfelhjbeegaaaGreatDoor
open Go.RowKit Go.BigFrame Go.Sort
set_option linter.unusedVariables false
set_option linter.unusedSimpArgs false

/-- the chain of texts -/
def chT (ix : Int) (x : Int) (t0 : ByteArray) (S : List ByteArray) : Nat → ByteArray
  | 0 => t0
  | i + 1 => tagB 3 (if bitI ix (7 - i) = 1 then [S.getD i ⟨#[]⟩, cutH (chT ix x t0 S i) x] else [cutH (chT ix x t0 S i) x, S.getD i ⟨#[]⟩])
def chL (ix : Int) (x : Int) (t0 : ByteArray) (S : List ByteArray) (n : Nat) : List ByteArray := (List.range n).map (chT ix x t0 S)
theorem chL_len (ix : Int) (x : Int) (t0 : ByteArray) (S : List ByteArray) (n : Nat) : (chL ix x t0 S n).length = n := by simp [chL]
theorem chL_at (ix : Int) (x : Int) (t0 : ByteArray) (S : List ByteArray) (n j : Nat) (h : j < (chL ix x t0 S n).length) : (chL ix x t0 S n)[j] = chT ix x t0 S j := by simp [chL]
theorem chL_succ (ix : Int) (x : Int) (t0 : ByteArray) (S : List ByteArray) (n : Nat) : chL ix x t0 S (n + 1) = chL ix x t0 S n ++ [chT ix x t0 S n] := by
  unfold chL
  rw [List.range_succ, List.map_append]
  rfl
theorem chT_size (ix : Int) (x : Int) (t0 : ByteArray) (S : List ByteArray) (h : t0.size ≤ 12601) : ∀ i, (chT ix x t0 S i).size ≤ 12601
  | 0 => h
  | i + 1 => tagB_size _ _

def PtR (w0 : World) (B : Nat) (ix : Int) (x : Int) (t0 : ByteArray) (S : List ByteArray) (u i : Value) (wr : World) : Prop := ∃ m : Nat, m ≤ S.length ∧ i = .int .i64 m ∧ ∃ g cap, u = .slice (some ⟨g, 0, none⟩) (m + 1) cap ∧ Hid (OS B w0 wr u (chL ix x t0 S (m + 1)))

set_option maxRecDepth 100000 in
set_option maxHeartbeats 1000000 in
theorem sProofTexts_yes (nm : ByteArray) (vb vs : Value) (gb ob gs os : Nat) (B : List Le) (S : List ByteArray) (x : Int) (w : World) (hnm : nm.size ≤ 1048576) (hb : RS 2 lcs w vb gb ob B) (hsm : SmallL B) (hs : SS w vs gs os S) (hok : pfOk nm B S x = true) :
    Calls Tryz.prog 47 #[.string nm, .agg #[vb, vs], .int .i64 x] w fun e w' => ∃ v, e = .returned v ∧ OS w.heap.size w w' v (chL (idxN nm) x (btB B) S (S.length + 1)) := by
  obtain ⟨p0, p1⟩ := run_rangeP (w := w) (p := 0) (v1 := vb) (v2 := vs) 45
  have hba : Below w.heap.size w (w.alloc (.cells #[vb, vs] 45)) := (Below.refl _ _).alloc (Nat.le_refl _) _
  have HBS : Hid (∀ W, Below w.heap.size w W → RS 2 lcs W vb gb ob B ∧ SS W vs gs os S) := fun W hW => ⟨hb.later hW, hs.below hW hs.lt⟩
  have h8 : S.length ≤ 8 := by
    unfold pfOk at hok
    simp only [Bool.and_eq_true, decide_eq_true_eq] at hok
    exact hok.1.1.2
  have hlv : LV.leavesB B = true := by
    unfold pfOk at hok
    simp only [Bool.and_eq_true, decide_eq_true_eq] at hok
    exact hok.1.1.1.2
  have HPP : Hid (∀ W, Below (w.alloc (.cells #[vb, vs] 45)).heap.size (w.alloc (.cells #[vb, vs] 45)) W → W.cell? ⟨w.heap.size, 0, none⟩ = some vb ∧ W.cell? ⟨w.heap.size, 1, none⟩ = some vs ∧ Below w.heap.size w W ∧ w.heap.size + 1 ≤ W.heap.size) := fun W hW => ⟨cell_later p0 hW, cell_later p1 hW, hba.trans (hW.mono hba.size), by have := hW.size; simpa using this⟩
  have hpo := sProofOk_any nm vb vs gb ob gs os B S x _ hnm (HBS.out _ hba).1 hsm (HBS.out _ hba).2
  rw [hok] at hpo
  have HBT : Hid (∀ W, Below w.heap.size w W → Calls Tryz.prog 75 #[vb] W fun e w' => e = .returned (.tuple #[.string (btB B), .bool true]) ∧ Below W.heap.size W w') := fun W hW => by
    have h := sBucketText_any vb gb ob B W (HBS.out W hW).1 hsm
    rw [hlv, btA_yes hlv] at h
    exact h
  have HIX : Hid (∀ W, Calls Tryz.prog 20 #[.string nm] W fun e w' => e = .returned (.int .i64 (idxN nm : Int)) ∧ Below W.heap.size W w') := fun W => sIndexOf_any nm W hnm
  have ht0 := btB_size B
  obtain ⟨nS, hnS⟩ : ∃ nS, S.length = nS := ⟨_, rfl⟩
  have HNS : Hid (S.length = nS) := hnS
  obtain ⟨aS, cS, rfl, _, hAs, _⟩ := hs
  have HAS : Hid (0 < nS → aS = some ⟨gs, os, none⟩) := by rw [← hnS]; exact hAs
  rw [hnS] at h8 hpo HBS HPP p0 p1 hba ⊢
  clear hb hok hsm hlv hAs hnS
  generalize btB B = t0 at *
  obtain ⟨ix, hix⟩ : ∃ ix : Int, (idxN nm : Int) = ix := ⟨_, rfl⟩
  rw [hix] at HIX ⊢
  clear hix
  go_enter Tryz.func47, Tryz.ntmps47
  go_wp2_with fail
  refine hpo.mono ?_
  rintro e w1 ⟨rfl, hb1⟩
  clear hpo
  go_wp2_with fail
  refine (HIX.out _).mono ?_
  rintro e w2 ⟨rfl, hb2⟩
  have hb12 := hb1.trans (hb2.mono hb1.size)
  clear HIX hb1 hb2
  obtain ⟨k0, k1, b2, _⟩ := HPP.out _ hb12
  go_wp2_with fail
  refine (HBT.out _ b2).mono ?_
  rintro e w3 ⟨rfl, hb3⟩
  have hb13 := hb12.trans (hb3.mono hb12.size)
  obtain ⟨l0, l1, b3, _⟩ := HPP.out _ hb13
  have HST : Hid (PtR w3 w3.heap.size ix x t0 S (.slice (some ⟨w3.heap.size, 0, none⟩) 1 1) (.int .i64 0) (w3.alloc (.cells #[.string t0] 9))) := ⟨0, by omega, rfl, _, _, rfl, OS.lit w3 t0⟩
  have HKK : Hid (∀ W, Below w3.heap.size w3 W → W.cell? ⟨w.heap.size, 0, none⟩ = some vb ∧ W.cell? ⟨w.heap.size, 1, none⟩ = some (.slice aS nS cS)) := fun W hW => ⟨cell_later l0 hW, cell_later l1 hW⟩
  have HB3 : Hid (Below w.heap.size w w3) := b3
  clear HBT hb12 hb3 hb13 k0 k1 l0 l1 HPP p0 p1 b2 hba
  go_wp2
  go_loopw [10, 11] (fun u i wr => PtR w3 w3.heap.size ix x t0 S u i wr) (fun _ i _ => nS - (intOf i).toNat)
  case atStart => exact HST.out
  case round =>
    obtain ⟨m, hm, rfl, g, cap, rfl, HI⟩ := hrel
    clear HST
    rw [HNS.out] at hm
    have HBW : Hid (Below w3.heap.size w3 wr) := HI.out.2.1
    obtain ⟨_, k1⟩ := HKK.out _ HBW.out
    by_cases hlt : m < nS
    · have ea := HAS.out (by omega)
      subst ea
      have hmS : m < S.length := by rw [HNS.out]; exact hlt
      have HCS : Hid (∀ W, Below w3.heap.size w3 W → W.cell? ⟨w.heap.size, 1, none⟩ = some (.slice (some ⟨gs, os, none⟩) nS cS) ∧ W.cell? ⟨gs, os + m, none⟩ = some (.string (S.getD m ⟨#[]⟩))) := fun W hW => by
        refine ⟨(HKK.out _ hW).2, ?_⟩
        obtain ⟨_, _, _, _, _, h6⟩ := (HBS.out W (HB3.out.trans (hW.mono HB3.out.size))).2
        have := h6 m hmS
        rw [show S[m] = S.getD m ⟨#[]⟩ by simp [List.getElem?_eq_getElem hmS]] at this
        exact this
      have c0 := HI.out.at m (by rw [chL_len]; omega)
      rw [chL_at] at c0
      have hTs := chT_size ix x t0 S ht0 m
      have hZ : chT ix x t0 S (m + 1) = tagB 3 (if bitI ix (7 - m) = 1 then [S.getD m ⟨#[]⟩, cutH (chT ix x t0 S m) x] else [cutH (chT ix x t0 S m) x, S.getD m ⟨#[]⟩]) := rfl
      have hL := chL_succ ix x t0 S (m + 1)
      have hLl := chL_len ix x t0 S (m + 1)
      have HNX0 : Hid (∀ g6 cap6 w6, OS w3.heap.size w3 w6 (.slice (some ⟨g6, 0, none⟩) (m + 1 + 1) cap6) (chL ix x t0 S (m + 1) ++ [chT ix x t0 S (m + 1)]) → PtR w3 w3.heap.size ix x t0 S (.slice (some ⟨g6, 0, none⟩) (m + 1 + 1) cap6) (.int .i64 ((m : Int) + 1)) w6) := fun g6 cap6 w6 h => ⟨m + 1, by omega, by congr 1, g6, cap6, rfl, by rw [hL]; exact h⟩
      rw [hZ] at HNX0
      clear hZ hL
      generalize chT ix x t0 S m = T at *
      generalize S.getD m ⟨#[]⟩ = Y at *
      generalize chL ix x t0 S (m + 1) = L at *
      have HNX1 : Hid _ := HNX0.out
      clear HNX0
      have i1 : (m : Int) < (nS : Int) := by omega
      have i2 : (0 : Int) ≤ (m : Int) := by omega
      have i3 : (m : Int) < ((m + 1 : Nat) : Int) := by omega
      have i4 : ((7 : Int) - (m : Int)).toNat = 7 - m := by omega
      have HBO : Hid (∀ W, Calls Tryz.prog 45 #[.int .i64 ix, .int .i64 ((7 : Int) - (m : Int))] W fun e w' => e = .returned (.int .i64 (bitI ix (7 - m))) ∧ w' = W) := fun W => by
        have h := sBitOf_z ix ((7 : Int) - (m : Int)) W ⟨by omega, by omega⟩
        rw [i4] at h
        exact h
      have hcd := sCutDigest_any T x wr (by omega)
      generalize cutH T x = D at *
      clear HAS i4
      go_wp2_with fail
      refine hcd.mono ?_
      rintro e w4 ⟨rfl, hb4⟩
      have HO4' : Hid (OS w3.heap.size w3 w4 (.slice (some ⟨g, 0, none⟩) (m + 1) cap) L) := HI.out.later hb4
      clear hcd c0 HI hb4 k1 HBW
      have HO4 : Hid (OS w3.heap.size w3 (w4.alloc (.cells #[.string D, .string Y] 9)) (.slice (some ⟨g, 0, none⟩) (m + 1) cap) L) := HO4'.out.alloc _
      obtain ⟨d1, d2⟩ := HCS.out _ HO4'.out.2.1
      obtain ⟨f1, f2⟩ := HCS.out _ HO4.out.2.1
      have HT1 : Hid (Calls Tryz.prog 74 #[.int .i64 3, .slice (some ⟨w4.heap.size, 0, none⟩) 2 2] (w4.alloc (.cells #[.string D, .string Y] 9)) fun e w' => e = .returned (.tuple #[.string (tagB 3 [D, Y]), .bool (tagOk 3 [D, Y])]) ∧ Below (w4.alloc (.cells #[.string D, .string Y] 9)).heap.size (w4.alloc (.cells #[.string D, .string Y] 9)) w') := sTagText_any 3 _ w4.heap.size 0 [D, Y] _ (ss_lits w4 [D, Y] _ 2 rfl (by omega) rfl)
      have HT2 : Hid (∀ W g, W.heap.size = g → Calls Tryz.prog 74 #[.int .i64 3, .slice (some ⟨g, 0, none⟩) 2 2] (W.alloc (.cells #[.string Y, .string D] 9)) fun e w' => e = .returned (.tuple #[.string (tagB 3 [Y, D]), .bool (tagOk 3 [Y, D])]) ∧ Below W.heap.size W w') := fun W g hg => hg ▸ (sTagText_any 3 _ W.heap.size 0 [Y, D] _ (ss_lits W [Y, D] _ 2 rfl (by omega) rfl)).mono fun e w' ⟨he, hb⟩ => ⟨he, ((Below.refl _ _).alloc (Nat.le_refl _) _).trans (hb.mono (by simp))⟩
      generalize tagOk 3 [D, Y] = R1 at *
      generalize tagOk 3 [Y, D] = R2 at *
      clear HO4' HCS
      generalize bitI ix (7 - m) = b at *
      go_wp2_with fail
      refine (HBO.out _).mono ?_
      rintro e w4' ⟨rfl, rfl⟩
      clear HBO
      by_cases hb : b = 1
      · rw [if_pos hb] at HNX1
        subst hb
        generalize tagB 3 [Y, D] = Z at *
        generalize tagB 3 [D, Y] = Z2 at *
        go_wp2_with fail
        refine (HT2.out _ _ (by simp)).mono ?_
        rintro e w5 ⟨rfl, hb5⟩
        have HO5 : Hid (OS w3.heap.size w3 (w5.alloc (.cells #[.string Z] 9)) (.slice (some ⟨g, 0, none⟩) (m + 1) cap) L) := (HO4.out.later hb5).alloc _
        have HCT : Hid ((w5.alloc (.cells #[.string Z] 9)).cell? ⟨w5.heap.size, 0, none⟩ = some (.string Z)) := by
          show (w5.alloc (.cells #[.string Z] 9)).cell? ⟨w5.heap.size, 0, none⟩ = some (.string Z)
          rw [World.cell?_alloc_at _ _ _ _ rfl]
          rfl
        clear HT1 HT2 HO4 hb5 f1 f2 d1 d2
        go_wp2_with (at_builtin; refine wp_txtL rfl _ _ rfl w3.heap.size w3 _ L Z rfl HO5.out _ rfl HCT.out (by omega) ?_)
        intro g6 cap6 w6 ho6 hg6 hl6
        have HK : Hid (PtR w3 w3.heap.size ix x t0 S (.slice (some ⟨g6, 0, none⟩) (m + 1 + 1) cap6) (.int .i64 ((m : Int) + 1)) w6) := HNX1.out _ _ _ ho6
        clear ho6 hg6 hl6 HO5 HCT HNX1
        go_wp2
        go_roundw
        case rel => exact HK.out
        case measure => simp [intOf]; omega
      · rw [if_neg hb] at HNX1
        have qb : (b == 1) = false := by simpa using hb
        generalize tagB 3 [D, Y] = Z at *
        generalize tagB 3 [Y, D] = Z2 at *
        go_wp2_with fail
        refine HT1.out.mono ?_
        rintro e w5 ⟨rfl, hb5⟩
        have HO5 : Hid (OS w3.heap.size w3 (w5.alloc (.cells #[.string Z] 9)) (.slice (some ⟨g, 0, none⟩) (m + 1) cap) L) := (HO4.out.later hb5).alloc _
        have HCT : Hid ((w5.alloc (.cells #[.string Z] 9)).cell? ⟨w5.heap.size, 0, none⟩ = some (.string Z)) := by
          show (w5.alloc (.cells #[.string Z] 9)).cell? ⟨w5.heap.size, 0, none⟩ = some (.string Z)
          rw [World.cell?_alloc_at _ _ _ _ rfl]
          rfl
        clear HT1 HT2 HO4 hb5 f1 f2 d1 d2
        go_wp2_with (at_builtin; refine wp_txtL rfl _ _ rfl w3.heap.size w3 _ L Z rfl HO5.out _ rfl HCT.out (by omega) ?_)
        intro g6 cap6 w6 ho6 hg6 hl6
        have HK : Hid (PtR w3 w3.heap.size ix x t0 S (.slice (some ⟨g6, 0, none⟩) (m + 1 + 1) cap6) (.int .i64 ((m : Int) + 1)) w6) := HNX1.out _ _ _ ho6
        clear ho6 hg6 hl6 HO5 HCT HNX1
        go_wp2
        go_roundw
        case rel => exact HK.out
        case measure => simp [intOf]; omega
    · have hme : m = nS := by omega
      subst hme
      have HF : Hid (∃ v, Ending.returned (.slice (some ⟨g, 0, none⟩) (m + 1) cap) = .returned v ∧ OS w.heap.size w wr v (chL ix x t0 S (m + 1))) := ⟨_, rfl, OS.upT HB3.out HB3.out.size HI.out⟩
      clear HI HBW HKK HBS HAS
      go_wp2
      go_ret
      exact HF.out

set_option maxRecDepth 100000 in
theorem sProofTexts_no (nm : ByteArray) (vb vs : Value) (gb ob gs os : Nat) (B : List Le) (S : List ByteArray) (x : Int) (w : World) (hnm : nm.size ≤ 1048576) (hb : RS 2 lcs w vb gb ob B) (hsm : SmallL B) (hs : SS w vs gs os S) (hok : pfOk nm B S x = false) :
    Calls Tryz.prog 47 #[.string nm, .agg #[vb, vs], .int .i64 x] w fun e w' => ∃ v, e = .returned v ∧ OS w.heap.size w w' v [] := by
  obtain ⟨p0, p1⟩ := run_rangeP (w := w) (p := 0) (v1 := vb) (v2 := vs) 45
  have hba : Below w.heap.size w (w.alloc (.cells #[vb, vs] 45)) := (Below.refl _ _).alloc (Nat.le_refl _) _
  have hpo := sProofOk_any nm vb vs gb ob gs os B S x _ hnm (hb.later hba) hsm (hs.below hba hs.lt)
  rw [hok] at hpo
  clear hb hs hok hsm
  go_enter Tryz.func47, Tryz.ntmps47
  go_wp2_with fail
  refine hpo.mono ?_
  rintro e w1 ⟨rfl, hb1⟩
  have b1 : Below w.heap.size w w1 := hba.trans (hb1.mono hba.size)
  have HF : Hid (∃ v, Ending.returned (.slice (some ⟨w1.heap.size, 0, none⟩) 0 0) = .returned v ∧ OS w.heap.size w (w1.alloc (.cells #[] 9)) v []) := ⟨_, rfl, OS.upT b1 b1.size (OS.made w1)⟩
  clear hpo p0 p1 hba hb1 b1
  go_wp2
  go_ret
  exact HF.out

/-- what ProofTexts is -/
noncomputable def ptA (nm : ByteArray) (B : List Le) (S : List ByteArray) (x : Int) : List ByteArray := if pfOk nm B S x then chL (idxN nm) x (btB B) S (S.length + 1) else []
theorem sProofTexts_any (nm : ByteArray) (vb vs : Value) (gb ob gs os : Nat) (B : List Le) (S : List ByteArray) (x : Int) (w : World) (hnm : nm.size ≤ 1048576) (hb : RS 2 lcs w vb gb ob B) (hsm : SmallL B) (hs : SS w vs gs os S) :
    Calls Tryz.prog 47 #[.string nm, .agg #[vb, vs], .int .i64 x] w fun e w' => ∃ v, e = .returned v ∧ OS w.heap.size w w' v (ptA nm B S x) := by
  unfold ptA
  cases h : pfOk nm B S x with
  | false => exact sProofTexts_no nm vb vs gb ob gs os B S x w hnm hb hsm hs h
  | true => exact sProofTexts_yes nm vb vs gb ob gs os B S x w hnm hb hsm hs h

end Go.Proofs.YtgkfelhjbeegaaaGreatDoor
/-
  Two chains of texts: from the last one on back the first two that differ, have they one digest?
-/
namespace Go.Proofs.YtgkfelhjbeegaaaGreatDoor
open Go.RowKit Go.BigFrame Go.Sort
set_option linter.unusedVariables false
set_option linter.unusedSimpArgs false

def clF (A B : List ByteArray) (x : Int) (m : Nat) : Bool := TR.clB (fun t => cutH t x) (fun i => A.getD i ⟨#[]⟩) (fun i => B.getD i ⟨#[]⟩) m
def PcR (w : World) (F : Nat → Bool) (n : Nat) (i : Value) (wr : World) : Prop := ∃ m : Nat, m ≤ n ∧ i = .int .i64 ((m : Int) - 1) ∧ Hid (Below w.heap.size w wr ∧ F n = F m)

end Go.Proofs.YtgkfelhjbeegaaaGreatDoor
/-
  Plain facts of proofs: a chain of texts ends in what folds up; two chains that begin unlike and end alike clash.
-/
namespace Go.Proofs.YtgkfelhjbeegaaaGreatDoor
open Go.RowKit
set_option linter.unusedVariables false
set_option linter.unusedSimpArgs false

theorem bit_01 (ix j : Nat) (hj : j ≤ 7) (hx : ix ≤ 255) : bitI (ix : Int) (7 - j) = 0 ∨ bitI (ix : Int) (7 - j) = 1 := by
  rw [bit_of ix j (by omega) hx]
  have h2 : ix / 2 ^ j % 2 < 2 := Nat.mod_lt _ (by omega)
  generalize ix / 2 ^ j % 2 = q at *
  omega
theorem tag3_ok {a b : ByteArray} (ha : a.size ≤ 200) (hb : b.size ≤ 200) : tagOk 3 [a, b] = true := by
  unfold tagOk
  simp [ha, hb]
theorem hash3_yes {a b : ByteArray} (x : Int) (ha : a.size ≤ 200) (hb : b.size ≤ 200) : hashB 3 [a, b] x = cutH (tagB 3 [a, b]) x := by
  unfold hashB
  rw [if_pos (tag3_ok ha hb)]
theorem tag3_inj {a b c d : ByteArray} (ha : a.size ≤ 200) (hb : b.size ≤ 200) (hc : c.size ≤ 200) (hd : d.size ≤ 200) (h : tagB 3 [a, b] = tagB 3 [c, d]) : a = c ∧ b = d := by
  unfold tagB at h
  rw [if_pos (tag3_ok ha hb), if_pos (tag3_ok hc hd)] at h
  have := (TR.tag_inj (k := 3) (k' := 3) (by omega) (by omega) (fun x hx => by simp at hx; rcases hx with rfl | rfl <;> omega) (fun x hx => by simp at hx; rcases hx with rfl | rfl <;> omega) h).2
  simpa using this

section
variable {ix : Nat} (hx : ix ≤ 255) {x : Int} (h : 1 ≤ x ∧ x ≤ 32)
include hx h
/-- the digest of a chain's text is what folds up to there -/
theorem chain_fold (t0 : ByteArray) {S : List ByteArray} (hl : S.length ≤ 8) (hw : ∀ s ∈ S, s.size ≤ 32) : ∀ i, i ≤ S.length → cutH (chT ix x t0 S i) x = fuF x ix 8 (cutH t0 x) (S.take i)
  | 0, _ => by
    rw [List.take_zero, fuF_none]
    rfl
  | i + 1, hi => by
    have ih := chain_fold t0 hl hw i (by omega)
    have hs : (S[i]'(by omega)).size ≤ 200 := by
      have := hw (S[i]'(by omega)) (List.getElem_mem _)
      omega
    have hc : (cutH (chT ix x t0 S i) x).size ≤ 200 := by rw [cutH_size h]; omega
    rw [fuF_step x ix 8 (cutH t0 x) (s := S) (m := i) (by omega), ← ih, show 8 - 1 - i = 7 - i by omega]
    have e : S.getD i ⟨#[]⟩ = S[i]'(by omega) := by simp [List.getElem?_eq_getElem (show i < S.length by omega)]
    rw [chT, e]
    rcases bit_01 ix i (by omega) hx with hb | hb
    · rw [hb, if_neg (by decide), if_pos rfl, hash3_yes x hc hs]
    · rw [hb, if_pos rfl, if_neg (by decide), hash3_yes x hs hc]
omit hx in
theorem chain_step (t0 t1 : ByteArray) {S T : List ByteArray} (hl : S.length = 8) (hm : T.length = 8) (hw : ∀ s ∈ S, s.size ≤ 32) (hv : ∀ s ∈ T, s.size ≤ 32) (i : Nat) (hi : i < 8) (he : chT ix x t0 S (i + 1) = chT ix x t1 T (i + 1)) : cutH (chT ix x t0 S i) x = cutH (chT ix x t1 T i) x := by
  have e1 : S.getD i ⟨#[]⟩ = S[i]'(by omega) := by simp [List.getElem?_eq_getElem (show i < S.length by omega)]
  have e2 : T.getD i ⟨#[]⟩ = T[i]'(by omega) := by simp [List.getElem?_eq_getElem (show i < T.length by omega)]
  have s1 : (S[i]'(by omega)).size ≤ 200 := by
    have := hw (S[i]'(by omega)) (List.getElem_mem _)
    omega
  have s2 : (T[i]'(by omega)).size ≤ 200 := by
    have := hv (T[i]'(by omega)) (List.getElem_mem _)
    omega
  have c1 : (cutH (chT ix x t0 S i) x).size ≤ 200 := by rw [cutH_size h]; omega
  have c2 : (cutH (chT ix x t1 T i) x).size ≤ 200 := by rw [cutH_size h]; omega
  rw [chT, chT, e1, e2] at he
  by_cases hb : bitI (ix : Int) (7 - i) = 1
  · rw [if_pos hb, if_pos hb] at he
    exact (tag3_inj s1 c1 s2 c2 he).2
  · rw [if_neg hb, if_neg hb] at he
    exact (tag3_inj c1 s1 c2 s2 he).1
/-- **two chains that begin unlike and end alike clash** -/
theorem chains_clash {t0 t1 : ByteArray} {S T : List ByteArray} (hl : S.length = 8) (hm : T.length = 8) (hw : ∀ s ∈ S, s.size ≤ 32) (hv : ∀ s ∈ T, s.size ≤ 32) (hne : t0 ≠ t1) (hr : fuF x ix 8 (cutH t0 x) S = fuF x ix 8 (cutH t1 x) T) : clF (chL ix x t0 S 9) (chL ix x t1 T 9) x 9 = true := by
  have g : ∀ (t : ByteArray) (U : List ByteArray) (i : Nat), i < 9 → (chL ix x t U 9).getD i ⟨#[]⟩ = chT ix x t U i := fun t U i hi => by
    have hL : i < (chL ix x t U 9).length := by rw [chL_len]; exact hi
    rw [List.getD_eq_getElem?_getD, List.getElem?_eq_getElem hL, Option.getD_some, chL_at]
  unfold clF
  refine TR.clB_yes 9 ⟨0, by omega, ?_⟩ ?_ (fun i hi he => ?_)
  · show (chL ix x t0 S 9).getD 0 ⟨#[]⟩ ≠ (chL ix x t1 T 9).getD 0 ⟨#[]⟩
    rw [g _ _ 0 (by omega), g _ _ 0 (by omega)]
    exact hne
  · show cutH ((chL ix x t0 S 9).getD 8 ⟨#[]⟩) x = cutH ((chL ix x t1 T 9).getD 8 ⟨#[]⟩) x
    rw [g _ _ 8 (by omega), g _ _ 8 (by omega), chain_fold hx h t0 (by omega) hw 8 (by omega), chain_fold hx h t1 (by omega) hv 8 (by omega), List.take_of_length_le (by omega), List.take_of_length_le (by omega)]
    exact hr
  · show cutH ((chL ix x t0 S 9).getD i ⟨#[]⟩) x = cutH ((chL ix x t1 T 9).getD i ⟨#[]⟩) x
    have he' : (chL ix x t0 S 9).getD (i + 1) ⟨#[]⟩ = (chL ix x t1 T 9).getD (i + 1) ⟨#[]⟩ := he
    rw [g _ _ _ (by omega), g _ _ _ (by omega)] at he' ⊢
    exact chain_step h t0 t1 hl hm hw hv i (by omega) he'
end

end Go.Proofs.YtgkfelhjbeegaaaGreatDoor
/-
  The proof of a name: the specification's answer.
-/
namespace Go.Proofs.YtgkfelhjbeegaaaGreatDoor
open Go.RowKit Go.BigFrame Go.Sort
set_option linter.unusedVariables false
set_option linter.unusedSimpArgs false

end Go.Proofs.YtgkfelhjbeegaaaGreatDoor
