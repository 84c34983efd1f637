/-
  Texts laid together: Pi, Ph, Lsd, Pv.
-/
import Derived.Test.YtfojmagcoipbnaaGreatDoorQ26
import Derived.Test.YtfojmagcoipbnaaGreatDoorQ24
import Derived.Test.YtfojmagcoipbnaaGreatDoorQ13
import Derived.Test.YtfojmagcoipbnaaGreatDoorQ12
import Derived.Test.YtfojmagcoipbnaaGreatDoorQ25
import Derived.Test.YtfojmagcoipbnaaGreatDoorQ11
import Derived.Test.YtfojmagcoipbnaaGreatDoorQ22
/-
  The chain of texts of a proof: the program's answer.
-/
namespace Go.Proofs.YtfojmagcoipbnaaGreatDoor
open Go.RowKit Go.BigFrame Go.Sort
set_option linter.unusedVariables false
set_option linter.unusedSimpArgs false

def PiR (w0 : World) (B : Nat) (ix : Int) (x : Int) (t0 : ByteArray) (S : List ByteArray) (t u i : Value) (wr : World) : Prop := ∃ m : Nat, m ≤ S.length ∧ i = .int .i64 m ∧ t = .string (chT ix x t0 S m) ∧ ∃ g cap, u = .slice (some ⟨g, 0, none⟩) (m + 1) cap ∧ Hid (OS B w0 wr u (chL ix x t0 S (m + 1)))

set_option maxRecDepth 100000 in
set_option maxHeartbeats 1000000 in
theorem ProofTexts_yes (nm : ByteArray) (vb vs : Value) (gb ob gs os : Nat) (B : List Le) (S : List ByteArray) (x : Int) (w : World) (hnm : nm.size ≤ 1048576) (hb : RS 2 lcs w vb gb ob B) (hsm : SmallL B) (hs : SS w vs gs os S) (hT : Tb w) (hok : pfOk nm B S x = true) :
    Calls Tryz.prog 19 #[.string nm, .agg #[vb, vs], .int .i64 x] w fun e w' => ∃ v, e = .returned v ∧ OS w.heap.size w w' v (chL (idxN nm) x (btB B) S (S.length + 1)) := by
  obtain ⟨p0, p1⟩ := run_rangeP (w := w) (p := 0) (v1 := vb) (v2 := vs) 29
  have hba : Below w.heap.size w (w.alloc (.cells #[vb, vs] 29)) := (Below.refl _ _).alloc (Nat.le_refl _) _
  have HBS : Hid (∀ W, Below w.heap.size w W → RS 2 lcs W vb gb ob B ∧ SS W vs gs os S ∧ Tb W) := fun W hW => ⟨hb.later hW, hs.below hW hs.lt, hT.later hW⟩
  have h8 : S.length ≤ 8 := by
    unfold pfOk at hok
    simp only [Bool.and_eq_true, decide_eq_true_eq] at hok
    exact hok.1.1.2
  have hlv : LV.leavesB B = true := by
    unfold pfOk at hok
    simp only [Bool.and_eq_true, decide_eq_true_eq] at hok
    exact hok.1.1.1.2
  have HPP : Hid (∀ W, Below (w.alloc (.cells #[vb, vs] 29)).heap.size (w.alloc (.cells #[vb, vs] 29)) W → W.cell? ⟨w.heap.size, 0, none⟩ = some vb ∧ W.cell? ⟨w.heap.size, 1, none⟩ = some vs ∧ Below w.heap.size w W ∧ w.heap.size + 1 ≤ W.heap.size) := fun W hW => ⟨cell_later p0 hW, cell_later p1 hW, hba.trans (hW.mono hba.size), by have := hW.size; simpa using this⟩
  have hpo := ProofOk_any nm vb vs gb ob gs os B S x _ hnm (HBS.out _ hba).1 hsm (HBS.out _ hba).2.1 (HBS.out _ hba).2.2
  rw [hok] at hpo
  have HBT : Hid (∀ W, Below w.heap.size w W → Calls Tryz.prog 88 #[vb] W fun e w' => e = .returned (.tuple #[.string (btB B), .bool true]) ∧ Below W.heap.size W w') := fun W hW => by
    have h := BucketText_any vb gb ob B W (HBS.out W hW).1 hsm
    rw [hlv, btA_yes hlv] at h
    exact h
  have HIX : Hid (∀ W, Below w.heap.size w W → Calls Tryz.prog 77 #[.string nm] W fun e w' => e = .returned (.int .i64 (idxN nm : Int)) ∧ Below W.heap.size W w') := fun W hW => IndexOf_any nm W hnm (HBS.out W hW).2.2.1 (HBS.out W hW).2.2.2
  have ht0 := btB_size B
  have HBI : Hid (∀ m, m ≤ 7 → bitI (idxN nm : Int) (7 - m) = 0 ∨ bitI (idxN nm : Int) (7 - m) = 1) := fun m hm => bit_01 _ m hm (idx_255 nm)
  obtain ⟨nS, hnS⟩ : ∃ nS, S.length = nS := ⟨_, rfl⟩
  have HNS : Hid (S.length = nS) := hnS
  obtain ⟨aS, cS, rfl, _, hAs, _⟩ := hs
  have HAS : Hid (0 < nS → aS = some ⟨gs, os, none⟩) := by rw [← hnS]; exact hAs
  rw [hnS] at h8 hpo HBS HPP p0 p1 hba ⊢
  clear hb hok hsm hlv hAs hnS hT
  generalize btB B = t0 at *
  obtain ⟨ix, hix⟩ : ∃ ix : Int, (idxN nm : Int) = ix := ⟨_, rfl⟩
  rw [hix] at HIX HBI ⊢
  clear hix
  go_enter Tryz.func19, Tryz.ntmps19
  go_wp2_with fail
  refine hpo.mono ?_
  rintro e w1 ⟨rfl, hb1⟩
  clear hpo
  obtain ⟨k0, k1, b1, _⟩ := HPP.out _ hb1
  go_wp2_with fail
  refine (HBT.out _ b1).mono ?_
  rintro e w2 ⟨rfl, hb2⟩
  have hb12 := hb1.trans (hb2.mono hb1.size)
  obtain ⟨j0, j1, b2, _⟩ := HPP.out _ hb12
  have ho0 := OS.lit w2 t0
  have b2a : Below w.heap.size w (w2.alloc (.cells #[.string t0] 9)) := b2.alloc b2.size _
  have hb2a : Below w2.heap.size w2 (w2.alloc (.cells #[.string t0] 9)) := (Below.refl _ _).alloc (Nat.le_refl _) _
  clear hb1 hb2 HBT k0 k1
  go_wp2_with fail
  refine (HIX.out _ b2a).mono ?_
  rintro e w3 ⟨rfl, hb3⟩
  have hb23 := hb2a.trans (hb3.mono hb2a.size)
  have hb13 := hb12.trans (hb23.mono hb12.size)
  obtain ⟨l0, l1, b3, _⟩ := HPP.out _ hb13
  have HST : Hid (PiR w2 w2.heap.size ix x t0 S (.string t0) (.slice (some ⟨w2.heap.size, 0, none⟩) 1 1) (.int .i64 0) w3) := ⟨0, by omega, rfl, rfl, _, _, rfl, ho0.later hb3⟩
  have HKK : Hid (∀ W, Below w2.heap.size w2 W → W.cell? ⟨w.heap.size, 0, none⟩ = some vb ∧ W.cell? ⟨w.heap.size, 1, none⟩ = some (.slice aS nS cS)) := fun W hW => ⟨cell_later j0 hW, cell_later j1 hW⟩
  have HB2 : Hid (Below w.heap.size w w2) := b2
  clear hb12 hb3 hb13 j0 j1 HPP p0 p1 b2 hba b1 b2a ho0 HIX hb23 hb2a b3
  go_wp2
  go_loopw [7, 9, 34] (fun t u i wr => PiR w2 w2.heap.size ix x t0 S t u i wr) (fun _ _ i _ => nS - (intOf i).toNat)
  case atStart => exact HST.out
  case round =>
    obtain ⟨m, hm, rfl, rfl, g, cap, rfl, HI⟩ := hrel
    clear HST
    rw [HNS.out] at hm
    have HBW : Hid (Below w2.heap.size w2 wr) := HI.out.2.1
    by_cases hlt : m < nS
    · have ea := HAS.out (by omega)
      subst ea
      have hmS : m < S.length := by rw [HNS.out]; exact hlt
      have c0 : wr.cell? ⟨gs, os + m, none⟩ = some (.string (S.getD m ⟨#[]⟩)) := by
        obtain ⟨_, _, _, _, _, h6⟩ := (HBS.out wr (HB2.out.trans (HBW.out.mono HB2.out.size))).2.1
        have := h6 m hmS
        rw [show S[m] = S.getD m ⟨#[]⟩ by simp [List.getElem?_eq_getElem hmS]] at this
        exact this
      have hTr : Tb wr := (HBS.out wr (HB2.out.trans (HBW.out.mono HB2.out.size))).2.2
      have hTs := chT_size ix x t0 S ht0 m
      have hZ : chT ix x t0 S (m + 1) = tagB 3 (if bitI ix (7 - m) = 1 then [S.getD m ⟨#[]⟩, cutH (chT ix x t0 S m) x] else [cutH (chT ix x t0 S m) x, S.getD m ⟨#[]⟩]) := rfl
      have hL := chL_succ ix x t0 S (m + 1)
      have hLl := chL_len ix x t0 S (m + 1)
      have HNX0 : Hid (∀ g6 cap6 w6, OS w2.heap.size w2 w6 (.slice (some ⟨g6, 0, none⟩) (m + 1 + 1) cap6) (chL ix x t0 S (m + 1) ++ [chT ix x t0 S (m + 1)]) → PiR w2 w2.heap.size ix x t0 S (.string (chT ix x t0 S (m + 1))) (.slice (some ⟨g6, 0, none⟩) (m + 1 + 1) cap6) (.int .i64 ((m : Int) + 1)) w6) := fun g6 cap6 w6 h => ⟨m + 1, by omega, by congr 1, rfl, g6, cap6, rfl, by rw [hL]; exact h⟩
      rw [hZ] at HNX0
      clear hZ hL
      generalize chT ix x t0 S m = T at *
      generalize S.getD m ⟨#[]⟩ = Y at *
      generalize chL ix x t0 S (m + 1) = L at *
      have HNX1 : Hid _ := HNX0.out
      clear HNX0
      have i1 : (m : Int) < (nS : Int) := by omega
      have i2 : (0 : Int) ≤ (m : Int) := by omega
      have i4 : ((7 : Int) - (m : Int)).toNat = 7 - m := by omega
      have HBO : Hid (∀ W, Calls Tryz.prog 91 #[.int .i64 ix, .int .i64 ((7 : Int) - (m : Int))] W fun e w' => e = .returned (.int .i64 (bitI ix (7 - m))) ∧ w' = W) := fun W => by
        have h := BitOf_at ix ((7 : Int) - (m : Int)) W ⟨by omega, by omega⟩
        rw [i4] at h
        exact h
      have hb01 := HBI.out m (by omega)
      have hcd := CutDigest_any T x wr (by omega) hTr.1 hTr.2
      generalize cutH T x = D at *
      clear HAS i4 hTr HBI
      go_wp2_with fail
      refine hcd.mono ?_
      rintro e w4 ⟨rfl, hb4⟩
      have HO4 : Hid (OS w2.heap.size w2 w4 (.slice (some ⟨g, 0, none⟩) (m + 1) cap) L) := HI.out.later hb4
      clear hcd c0 HI hb4 HBW
      have HT1 : Hid (∀ W, Calls Tryz.prog 92 #[.int .i64 3, .slice (some ⟨W.heap.size, 0, none⟩) 2 2] (W.alloc (.cells #[.string D, .string Y] 9)) fun e w' => e = .returned (.tuple #[.string (tagB 3 [D, Y]), .bool (tagOk 3 [D, Y])]) ∧ Below W.heap.size W w') := fun W => (tagged_any 3 _ W.heap.size 0 [D, Y] _ (ss_lits W [D, Y] _ 2 rfl (by omega) rfl)).mono fun e w' ⟨he, hb⟩ => ⟨he, ((Below.refl _ _).alloc (Nat.le_refl _) _).trans (hb.mono (by simp))⟩
      have HT2 : Hid (∀ W, Calls Tryz.prog 92 #[.int .i64 3, .slice (some ⟨W.heap.size, 0, none⟩) 2 2] (W.alloc (.cells #[.string Y, .string D] 9)) fun e w' => e = .returned (.tuple #[.string (tagB 3 [Y, D]), .bool (tagOk 3 [Y, D])]) ∧ Below W.heap.size W w') := fun W => (tagged_any 3 _ W.heap.size 0 [Y, D] _ (ss_lits W [Y, D] _ 2 rfl (by omega) rfl)).mono fun e w' ⟨he, hb⟩ => ⟨he, ((Below.refl _ _).alloc (Nat.le_refl _) _).trans (hb.mono (by simp))⟩
      generalize tagOk 3 [D, Y] = R1 at *
      generalize tagOk 3 [Y, D] = R2 at *
      generalize bitI ix (7 - m) = b at *
      go_wp2_with fail
      refine (HBO.out _).mono ?_
      rintro e w4' ⟨rfl, rfl⟩
      clear HBO
      by_cases hb : b = 1
      · rw [if_pos hb] at HNX1
        subst hb
        clear hb01 HT1
        generalize tagB 3 [Y, D] = Z at *
        go_wp2_with fail
        refine (inOrder_1 _ _ _ _ (by decide)).mono ?_
        rintro e w4'' ⟨rfl, rfl⟩
        go_wp2_with fail
        refine (HT2.out _).mono ?_
        rintro e w5 ⟨rfl, hb5⟩
        have HO5 : Hid (OS w2.heap.size w2 (w5.alloc (.cells #[.string Z] 9)) (.slice (some ⟨g, 0, none⟩) (m + 1) cap) L) := (HO4.out.later hb5).alloc _
        have HCT : Hid ((w5.alloc (.cells #[.string Z] 9)).cell? ⟨w5.heap.size, 0, none⟩ = some (.string Z)) := by
          show (w5.alloc (.cells #[.string Z] 9)).cell? ⟨w5.heap.size, 0, none⟩ = some (.string Z)
          rw [World.cell?_alloc_at _ _ _ _ rfl]
          rfl
        clear HT2 HO4 hb5
        go_wp2_with (at_builtin; refine wp_txtL rfl _ _ rfl w2.heap.size w2 _ L Z rfl HO5.out _ rfl HCT.out (by omega) ?_)
        intro g6 cap6 w6 ho6 hg6 hl6
        have HK : Hid (PiR w2 w2.heap.size ix x t0 S (.string Z) (.slice (some ⟨g6, 0, none⟩) (m + 1 + 1) cap6) (.int .i64 ((m : Int) + 1)) w6) := HNX1.out _ _ _ ho6
        clear ho6 hg6 hl6 HO5 HCT HNX1
        go_wp2
        go_roundw
        case rel => exact HK.out
        case measure => simp [intOf]; omega
      · rw [if_neg hb] at HNX1
        obtain rfl : b = 0 := by omega
        clear hb01 HT2 hb
        generalize tagB 3 [D, Y] = Z at *
        go_wp2_with fail
        refine (inOrder_0 _ _ _).mono ?_
        rintro e w4'' ⟨rfl, rfl⟩
        go_wp2_with fail
        refine (HT1.out _).mono ?_
        rintro e w5 ⟨rfl, hb5⟩
        have HO5 : Hid (OS w2.heap.size w2 (w5.alloc (.cells #[.string Z] 9)) (.slice (some ⟨g, 0, none⟩) (m + 1) cap) L) := (HO4.out.later hb5).alloc _
        have HCT : Hid ((w5.alloc (.cells #[.string Z] 9)).cell? ⟨w5.heap.size, 0, none⟩ = some (.string Z)) := by
          show (w5.alloc (.cells #[.string Z] 9)).cell? ⟨w5.heap.size, 0, none⟩ = some (.string Z)
          rw [World.cell?_alloc_at _ _ _ _ rfl]
          rfl
        clear HT1 HO4 hb5
        go_wp2_with (at_builtin; refine wp_txtL rfl _ _ rfl w2.heap.size w2 _ L Z rfl HO5.out _ rfl HCT.out (by omega) ?_)
        intro g6 cap6 w6 ho6 hg6 hl6
        have HK : Hid (PiR w2 w2.heap.size ix x t0 S (.string Z) (.slice (some ⟨g6, 0, none⟩) (m + 1 + 1) cap6) (.int .i64 ((m : Int) + 1)) w6) := HNX1.out _ _ _ ho6
        clear ho6 hg6 hl6 HO5 HCT HNX1
        go_wp2
        go_roundw
        case rel => exact HK.out
        case measure => simp [intOf]; omega
    · have hme : m = nS := by omega
      subst hme
      have HF : Hid (∃ v, Ending.returned (.slice (some ⟨g, 0, none⟩) (m + 1) cap) = .returned v ∧ OS w.heap.size w wr v (chL ix x t0 S (m + 1))) := ⟨_, rfl, OS.upT HB2.out HB2.out.size HI.out⟩
      clear HI HBW HKK HBS HAS
      go_wp2
      go_ret
      exact HF.out

set_option maxRecDepth 100000 in
theorem ProofTexts_no (nm : ByteArray) (vb vs : Value) (gb ob gs os : Nat) (B : List Le) (S : List ByteArray) (x : Int) (w : World) (hnm : nm.size ≤ 1048576) (hb : RS 2 lcs w vb gb ob B) (hsm : SmallL B) (hs : SS w vs gs os S) (hT : Tb w) (hok : pfOk nm B S x = false) :
    Calls Tryz.prog 19 #[.string nm, .agg #[vb, vs], .int .i64 x] w fun e w' => ∃ v, e = .returned v ∧ OS w.heap.size w w' v [] := by
  obtain ⟨p0, p1⟩ := run_rangeP (w := w) (p := 0) (v1 := vb) (v2 := vs) 29
  have hba : Below w.heap.size w (w.alloc (.cells #[vb, vs] 29)) := (Below.refl _ _).alloc (Nat.le_refl _) _
  have hpo := ProofOk_any nm vb vs gb ob gs os B S x _ hnm (hb.later hba) hsm (hs.below hba hs.lt) (hT.later hba)
  rw [hok] at hpo
  clear hb hs hok hsm hT
  go_enter Tryz.func19, Tryz.ntmps19
  go_wp2_with fail
  refine hpo.mono ?_
  rintro e w1 ⟨rfl, hb1⟩
  have b1 : Below w.heap.size w w1 := hba.trans (hb1.mono hba.size)
  have HF : Hid (∃ v, Ending.returned (.slice (some ⟨w1.heap.size, 0, none⟩) 0 0) = .returned v ∧ OS w.heap.size w (w1.alloc (.cells #[] 9)) v []) := ⟨_, rfl, OS.upT b1 b1.size (OS.made w1)⟩
  clear hpo p0 p1 hba hb1 b1
  go_wp2
  go_ret
  exact HF.out

theorem ProofTexts_any (nm : ByteArray) (vb vs : Value) (gb ob gs os : Nat) (B : List Le) (S : List ByteArray) (x : Int) (w : World) (hnm : nm.size ≤ 1048576) (hb : RS 2 lcs w vb gb ob B) (hsm : SmallL B) (hs : SS w vs gs os S) (hT : Tb w) :
    Calls Tryz.prog 19 #[.string nm, .agg #[vb, vs], .int .i64 x] w fun e w' => ∃ v, e = .returned v ∧ OS w.heap.size w w' v (ptA nm B S x) := by
  unfold ptA
  cases h : pfOk nm B S x with
  | false => exact ProofTexts_no nm vb vs gb ob gs os B S x w hnm hb hsm hs hT h
  | true => exact ProofTexts_yes nm vb vs gb ob gs os B S x w hnm hb hsm hs hT h

end Go.Proofs.YtfojmagcoipbnaaGreatDoor
/-
  The hash of a proof: the program's and the specification's answers.
-/
namespace Go.Proofs.YtfojmagcoipbnaaGreatDoor
open Go.RowKit Go.BigFrame Go.Sort
set_option linter.unusedVariables false
set_option linter.unusedSimpArgs false

/-- the digest of the last of these texts -/
def lastH (l : List ByteArray) (x : Int) : ByteArray := if l.length = 0 then ⟨#[]⟩ else cutH (l.getD (l.length - 1) ⟨#[]⟩) x
theorem lastH_none (x : Int) : lastH [] x = ⟨#[]⟩ := rfl
theorem lastH_at {l : List ByteArray} {k : Nat} (h : l.length = k + 1) (x : Int) : lastH l x = cutH (l[k]'(by omega)) x := by
  unfold lastH
  have e : l.getD (l.length - 1) ⟨#[]⟩ = l[k]'(by omega) := by
    have e1 : l.length - 1 = k := by omega
    rw [e1, List.getD_eq_getElem?_getD, List.getElem?_eq_getElem (show k < l.length by omega), Option.getD_some]
  rw [if_neg (by omega), e]

set_option maxRecDepth 100000 in
set_option maxHeartbeats 1000000 in
theorem hashOfLast_any (v : Value) (g o : Nat) (l : List ByteArray) (x : Int) (w : World) (hv : SS w v g o l) (hsz : ∀ t ∈ l, t.size ≤ 1048576) (hT : Tb w) :
    Calls Tryz.prog 94 #[v, .int .i64 x] w fun e w' => e = .returned (.string (lastH l x)) ∧ Below w.heap.size w w' := by
  obtain ⟨a, cap, rfl, hl, hA, hc⟩ := hv
  obtain ⟨n, hn⟩ : ∃ n, l.length = n := ⟨_, rfl⟩
  rw [hn]
  cases n with
  | zero =>
    obtain rfl : l = [] := List.length_eq_zero_iff.1 hn
    rw [lastH_none]
    clear hA hc hsz hn hT
    go_enter Tryz.func94, Tryz.ntmps94
    go_wp2
    go_ret
    exact ⟨rfl, Below.refl _ _⟩
  | succ k =>
    have ea := hA (by omega)
    subst ea
    have c0 := hc k (by omega)
    rw [lastH_at hn]
    have hd := CutDigest_any (l[k]'(by omega)) x w (hsz _ (List.getElem_mem _)) hT.1 hT.2
    generalize l[k]'(by omega) = X at *
    generalize cutH X x = D at *
    have q0 : (((k + 1 : Nat) : Int) == 0) = false := by simp; omega
    have e1 : (((k + 1 : Nat) : Int) - 1) = (k : Int) := by omega
    have i1 : (k : Int) < ((k + 1 : Nat) : Int) := by omega
    have i2 : (0 : Int) ≤ (k : Int) := by omega
    have hk : k ≤ 1100000 := by omega
    clear hA hc hsz hn hT
    go_enter Tryz.func94, Tryz.ntmps94
    go_wp2_with fail
    refine hd.mono ?_
    rintro e w1 ⟨rfl, hb1⟩
    go_wp2
    go_ret
    exact ⟨rfl, hb1⟩

/-- what ProofHash is -/
noncomputable def phA (nm : ByteArray) (B : List Le) (S : List ByteArray) (x : Int) : ByteArray := lastH (ptA nm B S x) x
theorem ptA_size {nm : ByteArray} {B : List Le} {S : List ByteArray} {x : Int} : ∀ t ∈ ptA nm B S x, t.size ≤ 12601 := by
  unfold ptA
  split
  · intro t ht
    obtain ⟨j, hj, rfl⟩ := List.getElem_of_mem ht
    rw [chL_at]
    exact chT_size _ _ _ _ (btB_size B) j
  · intro t ht
    cases ht
theorem ptA_len (nm : ByteArray) (B : List Le) (S : List ByteArray) (x : Int) : (ptA nm B S x).length ≤ 9 := by
  unfold ptA
  split
  · rename_i h
    rw [chL_len]
    unfold pfOk at h
    simp only [Bool.and_eq_true, decide_eq_true_eq] at h
    have := h.1.1.2
    omega
  · simp

set_option maxRecDepth 100000 in
set_option maxHeartbeats 1000000 in
theorem ProofHash_any (nm : ByteArray) (vb vs : Value) (gb ob gs os : Nat) (B : List Le) (S : List ByteArray) (x : Int) (w : World) (hnm : nm.size ≤ 1048576) (hb : RS 2 lcs w vb gb ob B) (hsm : SmallL B) (hs : SS w vs gs os S) (hT : Tb w) :
    Calls Tryz.prog 21 #[.string nm, .agg #[vb, vs], .int .i64 x] w fun e w' => e = .returned (.string (phA nm B S x)) ∧ Below w.heap.size w w' := by
  obtain ⟨p0, p1⟩ := run_rangeP (w := w) (p := 0) (v1 := vb) (v2 := vs) 29
  have hba : Below w.heap.size w (w.alloc (.cells #[vb, vs] 29)) := (Below.refl _ _).alloc (Nat.le_refl _) _
  have hpt := ProofTexts_any nm vb vs gb ob gs os B S x _ hnm (hb.later hba) hsm (hs.below hba hs.lt) (hT.later hba)
  have HH : Hid (∀ W v g, Below w.heap.size w W → SS W v g 0 (ptA nm B S x) → Calls Tryz.prog 94 #[v, .int .i64 x] W fun e w' => e = .returned (.string (phA nm B S x)) ∧ Below W.heap.size W w') := fun W v g hW h => hashOfLast_any v g 0 _ x W h (fun t ht => by have := ptA_size t ht; omega) (hT.later hW)
  have hlen := ptA_len nm B S x
  generalize phA nm B S x = H at *
  generalize ptA nm B S x = L at *
  clear hb hs hsm hT
  go_enter Tryz.func21, Tryz.ntmps21
  go_wp2_with fail
  refine hpt.mono ?_
  rintro e w1 ⟨v, rfl, ho⟩
  obtain ⟨g, hss⟩ := ho.ss (by omega)
  have b1 := hba.trans (ho.2.1.mono hba.size)
  have hh := HH.out w1 v g b1 hss
  clear hpt ho hss HH p0 p1
  go_wp2_with fail
  refine hh.mono ?_
  rintro e w2 ⟨rfl, hb2⟩
  go_wp2
  go_ret
  exact ⟨rfl, b1.trans (hb2.mono b1.size)⟩

set_option maxRecDepth 100000 in
set_option maxHeartbeats 1000000 in
theorem sProofHash_any (nm : ByteArray) (vb vs : Value) (gb ob gs os : Nat) (B : List Le) (S : List ByteArray) (x : Int) (w : World) (hnm : nm.size ≤ 1048576) (hb : RS 2 lcs w vb gb ob B) (hsm : SmallL B) (hs : SS w vs gs os S) :
    Calls Tryz.prog 31 #[.string nm, .agg #[vb, vs], .int .i64 x] w fun e w' => e = .returned (.string (phA nm B S x)) ∧ Below w.heap.size w w' := by
  obtain ⟨p0, p1⟩ := run_rangeP (w := w) (p := 0) (v1 := vb) (v2 := vs) 29
  have hba : Below w.heap.size w (w.alloc (.cells #[vb, vs] 29)) := (Below.refl _ _).alloc (Nat.le_refl _) _
  have hpt := sProofTexts_any nm vb vs gb ob gs os B S x _ hnm (hb.later hba) hsm (hs.below hba hs.lt)
  have hlen := ptA_len nm B S x
  have hsz := ptA_size (nm := nm) (B := B) (S := S) (x := x)
  unfold phA
  generalize ptA nm B S x = L at *
  clear hb hs hsm
  obtain ⟨n, hn⟩ : ∃ n, L.length = n := ⟨_, rfl⟩
  cases n with
  | zero =>
    obtain rfl : L = [] := List.length_eq_zero_iff.1 hn
    rw [lastH_none]
    go_enter Tryz.func31, Tryz.ntmps31
    go_wp2_with fail
    refine hpt.mono ?_
    rintro e w1 ⟨v, rfl, ho⟩
    obtain ⟨az, cz, rfl⟩ := ho.slice
    have b1 := hba.trans (ho.2.1.mono hba.size)
    clear hpt ho p0 p1 hsz
    go_wp2
    go_ret
    exact ⟨rfl, b1⟩
  | succ k =>
    rw [lastH_at hn]
    have hX := hsz (L[k]'(by omega)) (List.getElem_mem _)
    have HX : Hid (∀ W v g, SS W v g 0 L → ∃ cap, v = .slice (some ⟨g, 0, none⟩) (k + 1) cap ∧ W.cell? ⟨g, k, none⟩ = some (.string (L[k]'(by omega)))) := fun W v g ⟨a, cap, hv, _, hA, hc⟩ => by
      refine ⟨cap, by rw [hv, hA (by omega), hn], ?_⟩
      have := hc k (by omega)
      rw [Nat.zero_add] at this
      exact this
    have HCD : Hid (∀ W, Calls Tryz.prog 56 #[.string (L[k]'(by omega)), .int .i64 x] W fun e w' => e = .returned (.string (cutH (L[k]'(by omega)) x)) ∧ Below W.heap.size W w') := fun W => sCutDigest_any _ x W (by omega)
    generalize L[k]'(by omega) = X at *
    generalize cutH X x = D at *
    have q0 : (((k + 1 : Nat) : Int) == 0) = false := by simp; omega
    have e1 : (((k + 1 : Nat) : Int) - 1) = (k : Int) := by omega
    have i1 : (k : Int) < ((k + 1 : Nat) : Int) := by omega
    have i2 : (0 : Int) ≤ (k : Int) := by omega
    have hk : k ≤ 9 := by omega
    go_enter Tryz.func31, Tryz.ntmps31
    go_wp2_with fail
    refine hpt.mono ?_
    rintro e w1 ⟨v, rfl, ho⟩
    obtain ⟨g, hss⟩ := ho.ss (by omega)
    obtain ⟨cap, rfl, c0⟩ := HX.out _ _ _ hss
    have b1 := hba.trans (ho.2.1.mono hba.size)
    clear hpt ho hss HX p0 p1 hsz hn
    go_wp2_with fail
    refine (HCD.out _).mono ?_
    rintro e w2 ⟨rfl, hb2⟩
    go_wp2
    go_ret
    exact ⟨rfl, b1.trans (hb2.mono b1.size)⟩

end Go.Proofs.YtfojmagcoipbnaaGreatDoor
/-
  The walk of the law FnExactSidesOf: it answers true of every row of leaves, every index, level and width.
-/
namespace Go.Proofs.YtfojmagcoipbnaaGreatDoor
open Go.RowKit Go.BigFrame Go.Sort
set_option linter.unusedVariables false
set_option linter.unusedSimpArgs false

/-- texts answered, k of them -/
def TdP (k : Nat) (M : List ByteArray) (w : World) (e : Ending) (w' : World) : Prop := ∃ a cap g, e = .returned (.slice a k cap) ∧ TS w' (.slice a k cap) g M ∧ w.heap.size ≤ g ∧ Below w.heap.size w w'
theorem TdP.of {f : FuncId} {args : Array Value} {M : List ByteArray} {k : Nat} {w : World} (h : Calls Tryz.prog f args w fun e w' => ∃ u, e = .returned u ∧ OS w.heap.size w w' u M) (hk : M.length = k) (hl : k ≤ 1100000) : Calls Tryz.prog f args w (TdP k M w) :=
  h.mono fun e w' ⟨u, he, ho⟩ => by
    obtain ⟨gz, hts, hgz⟩ := ho.ts (by omega)
    obtain ⟨az, cz, rfl⟩ := ho.slice
    rw [hk] at he hts
    exact ⟨az, cz, gz, he, hts, hgz, ho.2.1⟩
theorem sdA_len (L : List Le) (ix l x : Int) : (sdA L ix l x).length ≤ 8 := by
  unfold sdA
  split
  · rw [sdL_len]; omega
  · simp
theorem rowOf_leT {g B : Nat} {l : List ByteArray} (h : B ≤ g) (q : Nat) (hq : rowOf g l = some q) : B ≤ q := by
  unfold rowOf at hq
  split at hq
  · cases hq
  · have : g = q := by simpa using hq
    omega
/-- two rows of texts compared: below, in plain words -/
theorem eqT_yes (va vb : Value) (ga gb : Nat) (l : List ByteArray) (w : World) (ha : TS w va ga l) (hb : TS w vb gb l) :
    Calls Tryz.prog 171 #[va, vb] w fun e w' => e = .returned (.bool true) ∧ Below w.heap.size w w' :=
  (eqStringS_yes va vb ga 0 gb 0 l w ha.ss hb.ss).mono fun e w' ⟨he, q, hw⟩ => ⟨he, by rw [hw]; exact below_drn (Below.refl _ _) q⟩

end Go.Proofs.YtfojmagcoipbnaaGreatDoor
/-
  The proof of a name: the program's and the specification's answers, at any argument.
-/
namespace Go.Proofs.YtfojmagcoipbnaaGreatDoor
open Go.RowKit Go.BigFrame Go.Sort
set_option linter.unusedVariables false
set_option linter.unusedSimpArgs false

theorem OS.cap {B : Nat} {w0 w : World} {a : Option Addr} {n c : Nat} {l : List ByteArray} (h : OS B w0 w (.slice a n c) l) : l.length ≤ c := by
  rcases h.1.2 with ⟨hv, hn⟩ | ⟨g, cap, cur, hv, hbg, hg, hca, rest⟩
  · have : l.length = 0 := hn
    omega
  · simp only [Value.slice.injEq] at hv
    omega
noncomputable def pvOk (L : List Le) (nm : ByteArray) (l x : Int) : Bool := LV.leavesB L && okB nameB nm && decide (0 ≤ l ∧ l ≤ 8) && decide (1 ≤ x ∧ x ≤ 32)
noncomputable def pvB (L : List Le) (nm : ByteArray) (l x : Int) : List Le := if pvOk L nm l x then bkL L (idxN nm) else []
noncomputable def pvS (L : List Le) (nm : ByteArray) (l x : Int) : List ByteArray := if pvOk L nm l x then sdA L (idxN nm) l x else []

set_option maxRecDepth 100000 in
set_option maxHeartbeats 2000000 in
theorem sProveLeaf_any (v : Value) (ga oa : Nat) (L : List Le) (nm : ByteArray) (l x : Int) (w : World) (hv : RS 2 lcs w v ga oa L) (hsm : SmallL L) (hnm : nm.size ≤ 1048576) :
    Calls Tryz.prog 201 #[v, .string nm, .int .i64 l, .int .i64 x] w (PvP (pvB L nm l x) (pvS L nm l x) (pvOk L nm l x) w) := by
  have hba : Below w.heap.size w (w.alloc (.cells #[.slice none 0 0, .slice none 0 0] 29)) := (Below.refl _ _).alloc (Nat.le_refl _) _
  have HPN : Hid (PfM (w.alloc (.cells #[.slice none 0 0, .slice none 0 0] 29)) w.heap.size (.slice none 0 0) (.slice none 0 0)) := PfM.new w _ _
  have HRS : Hid (∀ W, Below w.heap.size w W → RS 2 lcs W v ga oa L) := fun W hW => hv.later hW
  have hlo := sLeavesOk_any v ga oa L _ (HRS.out _ hba) hsm
  have HNK : Hid (∀ W, Calls Tryz.prog 110 #[.string nm] W fun e w' => e = .returned (.bool (okB nameB nm)) ∧ w' = W) := fun W => sNameOk_any nm W hnm
  have HIX : Hid (∀ W, Below w.heap.size w W → Calls Tryz.prog 113 #[.string nm] W fun e w' => e = .returned (.int .i64 (idxN nm : Int)) ∧ Below W.heap.size W w') := fun W hW => sIndexOf_any nm W hnm
  have HLL : Hid ((bkL L (idxN nm)).length ≤ 1100000 ∧ (sdA L (idxN nm) l x).length ≤ 1100000) := ⟨Nat.le_trans (List.length_filter_le _ _) hv.len, Nat.le_trans (sdA_len _ _ _ _) (by omega)⟩
  have HYB : Hid (∀ (b : Bool), pvOk L nm l x = b → pvB L nm l x = (if b then bkL L (idxN nm) else []) ∧ pvS L nm l x = (if b then sdA L (idxN nm) l x else [])) := fun b h => ⟨by unfold pvB; rw [h], by unfold pvS; rw [h]⟩
  obtain ⟨R, hR⟩ : ∃ R, pvOk L nm l x = R := ⟨_, rfl⟩
  obtain ⟨e1, e2⟩ := HYB.out R hR
  have hR2 : R = (LV.leavesB L && okB nameB nm && decide (0 ≤ l ∧ l ≤ 8) && decide (1 ≤ x ∧ x ≤ 32)) := hR.symm
  rw [hR]
  clear hR HYB
  obtain ⟨BB, hBB⟩ : ∃ BB, pvB L nm l x = BB := ⟨_, rfl⟩
  obtain ⟨SB, hSB⟩ : ∃ SB, pvS L nm l x = SB := ⟨_, rfl⟩
  rw [hBB] at e1
  rw [hSB] at e2
  rw [hBB, hSB]
  have HE : Hid (BB = (if R then bkL L (idxN nm) else []) ∧ SB = (if R then sdA L (idxN nm) l x else [])) := ⟨e1, e2⟩
  clear e1 e2 hBB hSB
  obtain ⟨ix, hix⟩ : ∃ ix : Int, (idxN nm : Int) = ix := ⟨_, rfl⟩
  rw [hix] at HIX HLL HE
  have HBK : Hid (∀ W, Below w.heap.size w W → Calls Tryz.prog 280 #[v, .int .i64 ix] W fun e w' => ∃ u, e = .returned u ∧ OL W.heap.size W w' u (bkL L ix)) := fun W hW => sBucketOf_any v ga oa L ix W (HRS.out W hW) hsm
  have HSD : Hid (∀ W, Below w.heap.size w W → Calls Tryz.prog 237 #[v, .int .i64 ix, .int .i64 l, .int .i64 x] W fun e w' => ∃ u, e = .returned u ∧ OS W.heap.size W w' u (sdA L ix l x)) := fun W hW => sSidesOf_any v ga oa L ix l x W (HRS.out W hW) hsm
  clear hv hsm hix HRS
  generalize bkL L ix = BK at *
  generalize sdA L ix l x = SD at *
  generalize LV.leavesB L = A1 at *
  generalize okB nameB nm = A2 at *
  obtain ⟨A3, d1⟩ : ∃ A3, decide ((0 : Int) ≤ l ∧ l ≤ 8) = A3 := ⟨_, rfl⟩
  obtain ⟨A4, d2⟩ : ∃ A4, decide ((1 : Int) ≤ x ∧ x ≤ 32) = A4 := ⟨_, rfl⟩
  rw [d1, d2] at hR2
  go_enter Tryz.func201, Tryz.ntmps201
  go_wp2_with fail
  refine hlo.mono ?_
  rintro e w1 ⟨rfl, hb1⟩
  have HP1 : Hid (PfM w1 w.heap.size (.slice none 0 0) (.slice none 0 0)) := HPN.out.later hb1
  have b1 : Below w.heap.size w w1 := hba.trans (hb1.mono hba.size)
  clear hlo HPN hb1 hba
  have HNO : Hid (PvP [] [] false w (.returned (.tuple #[.agg #[.slice none 0 0, .slice none 0 0], .bool false])) (w1.setRow w.heap.size #[.slice none 0 0, .slice none 0 0])) := PvP.no (below_setRow b1 (Nat.le_refl _))
  cases A1 with
  | false =>
    obtain rfl : R = false := by rw [hR2]; rfl
    clear hR2
    clear HIX HLL HBK HSD
    go_wp2_with (refine wp_storePf rfl _ _ rfl w.heap.size _ _ (.slice none 0 0) (.slice none 0 0) HP1.out rfl rfl rfl rfl ?_; intro hfin)
    refine ret_pf2 8 9 w.heap.size _ _ _ rfl rfl rfl rfl hfin ?_
    obtain ⟨rfl, rfl⟩ := HE.out
    exact HNO.out

  | true =>
    go_wp2_with fail
    refine (HNK.out _).mono ?_
    rintro e w1' ⟨rfl, rfl⟩
    cases A2 with
    | false =>
      obtain rfl : R = false := by rw [hR2]; rfl
      clear hR2
      clear HIX HLL HBK HSD
      go_wp2_with (refine wp_storePf rfl _ _ rfl w.heap.size _ _ (.slice none 0 0) (.slice none 0 0) HP1.out rfl rfl rfl rfl ?_; intro hfin)
      refine ret_pf2 8 9 w.heap.size _ _ _ rfl rfl rfl rfl hfin ?_
      obtain ⟨rfl, rfl⟩ := HE.out
      exact HNO.out

    | true =>
      go_wp2_with fail
      refine (l01In_any _ _ _ _).mono ?_
      rintro e w1'' ⟨rfl, rfl⟩
      rw [d1]
      cases A3 with
      | false =>
        obtain rfl : R = false := by rw [hR2]; rfl
        clear hR2
        clear HIX HLL HBK HSD
        go_wp2_with (refine wp_storePf rfl _ _ rfl w.heap.size _ _ (.slice none 0 0) (.slice none 0 0) HP1.out rfl rfl rfl rfl ?_; intro hfin)
        refine ret_pf2 8 9 w.heap.size _ _ _ rfl rfl rfl rfl hfin ?_
        obtain ⟨rfl, rfl⟩ := HE.out
        exact HNO.out

      | true =>
        go_wp2_with fail
        refine (l01In_any _ _ _ _).mono ?_
        rintro e w2 ⟨rfl, rfl⟩
        rw [d2]
        cases A4 with
        | false =>
          obtain rfl : R = false := by rw [hR2]; rfl
          clear hR2
          clear HIX HLL HBK HSD
          go_wp2_with (refine wp_storePf rfl _ _ rfl w.heap.size _ _ (.slice none 0 0) (.slice none 0 0) HP1.out rfl rfl rfl rfl ?_; intro hfin)
          refine ret_pf2 8 9 w.heap.size _ _ _ rfl rfl rfl rfl hfin ?_
          obtain ⟨rfl, rfl⟩ := HE.out
          exact HNO.out

        | true =>
          obtain rfl : R = true := by rw [hR2]; rfl
          clear hR2
          clear HNO HNK
          obtain ⟨e1, e2⟩ := HE.out
          simp only [if_true] at e1 e2
          subst BB
          subst SB
          go_wp2_with fail
          refine (HIX.out _ b1).mono ?_
          rintro e w3 ⟨rfl, hb3⟩
          have HP3 := HP1.out.later hb3
          have b3 := b1.trans (hb3.mono b1.size)
          go_wp2_with fail
          refine (HBK.out _ b3).mono ?_
          rintro e w4 ⟨vb, rfl, ho4⟩
          have HP4 : Hid (PfM w4 w.heap.size (.slice none 0 0) (.slice none 0 0)) := HP3.later ho4.2.1
          have b4 := b3.trans (ho4.2.1.mono b3.size)
          have HG4 : Hid (w.heap.size < w3.heap.size) := HP3.lt
          obtain ⟨ab, cb, rfl⟩ := ho4.shape
          have HO4 : Hid (OL w3.heap.size w3 w4 (.slice ab BK.length cb) BK) := ho4
          clear ho4 hb3 HP1 HP3 b1 b3 HBK
          go_wp2_with fail
          refine (HIX.out _ b4).mono ?_
          rintro e w5 ⟨rfl, hb5⟩
          have b5 := b4.trans (hb5.mono b4.size)
          have HP5 : Hid (PfM w5 w.heap.size (.slice none 0 0) (.slice none 0 0)) := HP4.out.later hb5
          have HO5 : Hid (OL w3.heap.size w3 w5 (.slice ab BK.length cb) BK) := HO4.out.later hb5
          clear HP4 HO4 HIX b4
          go_wp2_with fail
          refine (HSD.out _ b5).mono ?_
          rintro e w6 ⟨vs, rfl, ho6⟩
          have b6 := b5.trans (ho6.2.1.mono b5.size)
          have hp6 : PfM w6 w.heap.size (.slice none 0 0) (.slice none 0 0) := HP5.out.later ho6.2.1
          have HO6 : Hid (OL w3.heap.size w3 w6 (.slice ab BK.length cb) BK) := HO5.out.later ho6.2.1
          obtain ⟨aZ, cs, rfl⟩ := ho6.slice
          have HS6 : Hid (OS w5.heap.size w5 w6 (.slice aZ SD.length cs) SD ∧ w.heap.size < w5.heap.size) := ⟨ho6, HP5.out.lt⟩
          have hgr := grown_setRowP w6 w.heap.size #[.slice ab BK.length cb, .slice aZ SD.length cs]
          have HF : Hid (PvP BK SD true w (.returned (.tuple #[.agg #[.slice ab BK.length cb, .slice aZ SD.length cs], .bool true])) (w6.setRow w.heap.size #[.slice ab BK.length cb, .slice aZ SD.length cs])) := by
            obtain ⟨gb, hrw, hgb, hqb⟩ := HO6.out.rw HLL.out.1
            obtain ⟨gs, hts, hgs⟩ := HS6.out.1.ts HLL.out.2
            have l1 := HG4.out
            have l2 := HS6.out.2
            refine ⟨_, _, _, _, gb, gs, rfl, hrw.grown hgr (fun _ => by simp; omega), hts.keptG hgr (fun _ => by simp; omega), by omega, by omega, ⟨fun h1 h2 => ?_, HS6.out.1.cap⟩, below_setRow b6 (Nat.le_refl _)⟩
            obtain ⟨gb5, hrw5, _, hq5⟩ := HO5.out.rw HLL.out.1
            have hlt := hrw5.lt h1
            have e1 := hrw5.1
            have e2 := hrw.1
            obtain ⟨_, _, ev, _, h3, _⟩ := hrw5.1
            obtain ⟨_, _, ev', _, h3', _⟩ := hrw.1
            simp only [Value.slice.injEq] at ev ev'
            have f1 := (h3 h1).1
            have f2 := (h3' h1).1
            rw [← ev.1] at f1
            rw [← ev'.1, f1] at f2
            simp at f2
            omega
          clear ho6 HO5 HO6 HP5 HS6 hb5 b5 b6 HSD HLL HG4 hgr
          go_wp2_with (refine wp_storePf rfl _ _ rfl w.heap.size _ _ (.slice ab BK.length cb) (.slice aZ SD.length cs) hp6 rfl rfl rfl rfl ?_; intro hfin)
          refine ret_pf2 8 9 w.heap.size _ _ _ rfl rfl rfl rfl hfin ?_
          exact HF.out

set_option maxRecDepth 100000 in
set_option maxHeartbeats 2000000 in
theorem ProveLeaf_any (v : Value) (ga oa : Nat) (L : List Le) (nm : ByteArray) (l x : Int) (w : World) (hv : RS 2 lcs w v ga oa L) (hsm : SmallL L) (hnm : nm.size ≤ 1048576) (hT : Tb w) :
    Calls Tryz.prog 14 #[v, .string nm, .int .i64 l, .int .i64 x] w (PvP (pvB L nm l x) (pvS L nm l x) (pvOk L nm l x) w) := by
  have hba : Below w.heap.size w (w.alloc (.cells #[.slice none 0 0, .slice none 0 0] 29)) := (Below.refl _ _).alloc (Nat.le_refl _) _
  have HPN : Hid (PfM (w.alloc (.cells #[.slice none 0 0, .slice none 0 0] 29)) w.heap.size (.slice none 0 0) (.slice none 0 0)) := PfM.new w _ _
  have HRS : Hid (∀ W, Below w.heap.size w W → RS 2 lcs W v ga oa L) := fun W hW => hv.later hW
  have hlo := LeavesOk_any v ga oa L _ (HRS.out _ hba) hsm
  have HNK : Hid (∀ W, Calls Tryz.prog 74 #[.string nm] W fun e w' => e = .returned (.bool (okB nameB nm)) ∧ w' = W) := fun W => NameOk_any nm W hnm
  have HIX : Hid (∀ W, Below w.heap.size w W → Calls Tryz.prog 77 #[.string nm] W fun e w' => e = .returned (.int .i64 (idxN nm : Int)) ∧ Below W.heap.size W w') := fun W hW => IndexOf_any nm W hnm (hT.later hW).1 (hT.later hW).2
  have HLL : Hid ((bkL L (idxN nm)).length ≤ 1100000 ∧ (sdA L (idxN nm) l x).length ≤ 1100000) := ⟨Nat.le_trans (List.length_filter_le _ _) hv.len, Nat.le_trans (sdA_len _ _ _ _) (by omega)⟩
  have HYB : Hid (∀ (b : Bool), pvOk L nm l x = b → pvB L nm l x = (if b then bkL L (idxN nm) else []) ∧ pvS L nm l x = (if b then sdA L (idxN nm) l x else [])) := fun b h => ⟨by unfold pvB; rw [h], by unfold pvS; rw [h]⟩
  obtain ⟨R, hR⟩ : ∃ R, pvOk L nm l x = R := ⟨_, rfl⟩
  obtain ⟨e1, e2⟩ := HYB.out R hR
  have hR2 : R = (LV.leavesB L && okB nameB nm && decide (0 ≤ l ∧ l ≤ 8) && decide (1 ≤ x ∧ x ≤ 32)) := hR.symm
  rw [hR]
  clear hR HYB
  obtain ⟨BB, hBB⟩ : ∃ BB, pvB L nm l x = BB := ⟨_, rfl⟩
  obtain ⟨SB, hSB⟩ : ∃ SB, pvS L nm l x = SB := ⟨_, rfl⟩
  rw [hBB] at e1
  rw [hSB] at e2
  rw [hBB, hSB]
  have HE : Hid (BB = (if R then bkL L (idxN nm) else []) ∧ SB = (if R then sdA L (idxN nm) l x else [])) := ⟨e1, e2⟩
  clear e1 e2 hBB hSB
  obtain ⟨ix, hix⟩ : ∃ ix : Int, (idxN nm : Int) = ix := ⟨_, rfl⟩
  rw [hix] at HIX HLL HE
  have HBK : Hid (∀ W, Below w.heap.size w W → Calls Tryz.prog 78 #[v, .int .i64 ix] W fun e w' => ∃ u, e = .returned u ∧ OL W.heap.size W w' u (bkL L ix)) := fun W hW => BucketOf_any v ga oa L ix W (HRS.out W hW) hsm (hT.later hW).1 (hT.later hW).2
  have HSD : Hid (∀ W, Below w.heap.size w W → Calls Tryz.prog 79 #[v, .int .i64 ix, .int .i64 l, .int .i64 x] W fun e w' => ∃ u, e = .returned u ∧ OS W.heap.size W w' u (sdA L ix l x)) := fun W hW => SidesOf_any v ga oa L ix l x W (HRS.out W hW) hsm (hT.later hW)
  clear hv hsm hix HRS hT
  generalize bkL L ix = BK at *
  generalize sdA L ix l x = SD at *
  generalize LV.leavesB L = A1 at *
  generalize okB nameB nm = A2 at *
  obtain ⟨A3, d1⟩ : ∃ A3, decide ((0 : Int) ≤ l ∧ l ≤ 8) = A3 := ⟨_, rfl⟩
  obtain ⟨A4, d2⟩ : ∃ A4, decide ((1 : Int) ≤ x ∧ x ≤ 32) = A4 := ⟨_, rfl⟩
  rw [d1, d2] at hR2
  go_enter Tryz.func14, Tryz.ntmps14
  go_wp2_with fail
  refine hlo.mono ?_
  rintro e w1 ⟨rfl, hb1⟩
  have HP1 : Hid (PfM w1 w.heap.size (.slice none 0 0) (.slice none 0 0)) := HPN.out.later hb1
  have b1 : Below w.heap.size w w1 := hba.trans (hb1.mono hba.size)
  clear hlo HPN hb1 hba
  have HNO : Hid (PvP [] [] false w (.returned (.tuple #[.agg #[.slice none 0 0, .slice none 0 0], .bool false])) (w1.setRow w.heap.size #[.slice none 0 0, .slice none 0 0])) := PvP.no (below_setRow b1 (Nat.le_refl _))
  cases A1 with
  | false =>
    obtain rfl : R = false := by rw [hR2]; rfl
    clear hR2
    clear HIX HLL HBK HSD
    go_wp2_with (refine wp_storePf rfl _ _ rfl w.heap.size _ _ (.slice none 0 0) (.slice none 0 0) HP1.out rfl rfl rfl rfl ?_; intro hfin)
    refine ret_pf2 8 9 w.heap.size _ _ _ rfl rfl rfl rfl hfin ?_
    obtain ⟨rfl, rfl⟩ := HE.out
    exact HNO.out

  | true =>
    go_wp2_with fail
    refine (HNK.out _).mono ?_
    rintro e w1' ⟨rfl, rfl⟩
    cases A2 with
    | false =>
      obtain rfl : R = false := by rw [hR2]; rfl
      clear hR2
      clear HIX HLL HBK HSD
      go_wp2_with (refine wp_storePf rfl _ _ rfl w.heap.size _ _ (.slice none 0 0) (.slice none 0 0) HP1.out rfl rfl rfl rfl ?_; intro hfin)
      refine ret_pf2 8 9 w.heap.size _ _ _ rfl rfl rfl rfl hfin ?_
      obtain ⟨rfl, rfl⟩ := HE.out
      exact HNO.out

    | true =>
      go_wp2_with fail
      refine (levelOk_any _ _).mono ?_
      rintro e w1'' ⟨rfl, rfl⟩
      rw [d1]
      cases A3 with
      | false =>
        obtain rfl : R = false := by rw [hR2]; rfl
        clear hR2
        clear HIX HLL HBK HSD
        go_wp2_with (refine wp_storePf rfl _ _ rfl w.heap.size _ _ (.slice none 0 0) (.slice none 0 0) HP1.out rfl rfl rfl rfl ?_; intro hfin)
        refine ret_pf2 8 9 w.heap.size _ _ _ rfl rfl rfl rfl hfin ?_
        obtain ⟨rfl, rfl⟩ := HE.out
        exact HNO.out

      | true =>
        go_wp2_with fail
        refine (widthOk_any _ _).mono ?_
        rintro e w2 ⟨rfl, rfl⟩
        rw [d2]
        cases A4 with
        | false =>
          obtain rfl : R = false := by rw [hR2]; rfl
          clear hR2
          clear HIX HLL HBK HSD
          go_wp2_with (refine wp_storePf rfl _ _ rfl w.heap.size _ _ (.slice none 0 0) (.slice none 0 0) HP1.out rfl rfl rfl rfl ?_; intro hfin)
          refine ret_pf2 8 9 w.heap.size _ _ _ rfl rfl rfl rfl hfin ?_
          obtain ⟨rfl, rfl⟩ := HE.out
          exact HNO.out

        | true =>
          obtain rfl : R = true := by rw [hR2]; rfl
          clear hR2
          clear HNO HNK
          obtain ⟨e1, e2⟩ := HE.out
          simp only [if_true] at e1 e2
          subst BB
          subst SB
          go_wp2_with fail
          refine (HIX.out _ b1).mono ?_
          rintro e w3 ⟨rfl, hb3⟩
          have HP3 := HP1.out.later hb3
          have b3 := b1.trans (hb3.mono b1.size)
          go_wp2_with fail
          refine (HBK.out _ b3).mono ?_
          rintro e w4 ⟨vb, rfl, ho4⟩
          have HP4 : Hid (PfM w4 w.heap.size (.slice none 0 0) (.slice none 0 0)) := HP3.later ho4.2.1
          have b4 := b3.trans (ho4.2.1.mono b3.size)
          have HG4 : Hid (w.heap.size < w3.heap.size) := HP3.lt
          obtain ⟨ab, cb, rfl⟩ := ho4.shape
          have HO4 : Hid (OL w3.heap.size w3 w4 (.slice ab BK.length cb) BK) := ho4
          clear ho4 hb3 HP1 HP3 b1 b3 HBK
          obtain ⟨w5, hw5⟩ : ∃ w5, w4 = w5 := ⟨_, rfl⟩
          subst hw5
          have hb5 : Below w4.heap.size w4 w4 := Below.refl _ _
          have b5 := b4.trans (hb5.mono b4.size)
          have HP5 : Hid (PfM w4 w.heap.size (.slice none 0 0) (.slice none 0 0)) := HP4.out.later hb5
          have HO5 : Hid (OL w3.heap.size w3 w4 (.slice ab BK.length cb) BK) := HO4.out.later hb5
          clear HP4 HO4 HIX b4
          go_wp2_with fail
          refine (HSD.out _ b5).mono ?_
          rintro e w6 ⟨vs, rfl, ho6⟩
          have b6 := b5.trans (ho6.2.1.mono b5.size)
          have hp6 : PfM w6 w.heap.size (.slice none 0 0) (.slice none 0 0) := HP5.out.later ho6.2.1
          have HO6 : Hid (OL w3.heap.size w3 w6 (.slice ab BK.length cb) BK) := HO5.out.later ho6.2.1
          obtain ⟨aZ, cs, rfl⟩ := ho6.slice
          have HS6 : Hid (OS w4.heap.size w4 w6 (.slice aZ SD.length cs) SD ∧ w.heap.size < w4.heap.size) := ⟨ho6, HP5.out.lt⟩
          have hgr := grown_setRowP w6 w.heap.size #[.slice ab BK.length cb, .slice aZ SD.length cs]
          have HF : Hid (PvP BK SD true w (.returned (.tuple #[.agg #[.slice ab BK.length cb, .slice aZ SD.length cs], .bool true])) (w6.setRow w.heap.size #[.slice ab BK.length cb, .slice aZ SD.length cs])) := by
            obtain ⟨gb, hrw, hgb, hqb⟩ := HO6.out.rw HLL.out.1
            obtain ⟨gs, hts, hgs⟩ := HS6.out.1.ts HLL.out.2
            have l1 := HG4.out
            have l2 := HS6.out.2
            refine ⟨_, _, _, _, gb, gs, rfl, hrw.grown hgr (fun _ => by simp; omega), hts.keptG hgr (fun _ => by simp; omega), by omega, by omega, ⟨fun h1 h2 => ?_, HS6.out.1.cap⟩, below_setRow b6 (Nat.le_refl _)⟩
            obtain ⟨gb5, hrw5, _, hq5⟩ := HO5.out.rw HLL.out.1
            have hlt := hrw5.lt h1
            have e1 := hrw5.1
            have e2 := hrw.1
            obtain ⟨_, _, ev, _, h3, _⟩ := hrw5.1
            obtain ⟨_, _, ev', _, h3', _⟩ := hrw.1
            simp only [Value.slice.injEq] at ev ev'
            have f1 := (h3 h1).1
            have f2 := (h3' h1).1
            rw [← ev.1] at f1
            rw [← ev'.1, f1] at f2
            simp at f2
            omega
          clear ho6 HO5 HO6 HP5 HS6 hb5 b5 b6 HSD HLL HG4 hgr
          go_wp2_with (refine wp_storePf rfl _ _ rfl w.heap.size _ _ (.slice ab BK.length cb) (.slice aZ SD.length cs) hp6 rfl rfl rfl rfl ?_; intro hfin)
          refine ret_pf2 8 9 w.heap.size _ _ _ rfl rfl rfl rfl hfin ?_
          exact HF.out

end Go.Proofs.YtfojmagcoipbnaaGreatDoor
