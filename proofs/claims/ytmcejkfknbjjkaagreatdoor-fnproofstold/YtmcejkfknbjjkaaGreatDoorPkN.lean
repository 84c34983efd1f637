/-
  Texts laid together: Pw, Pt, Pc, Pp, Pl, Pq, Pb, Pi, Ps, Ph.
-/
import Derived.Test.YtmcejkfknbjjkaaGreatDoorPkK
import Derived.Test.YtmcejkfknbjjkaaGreatDoorPkM
import Derived.Test.YtmcejkfknbjjkaaGreatDoorPkJ
import Derived.Test.YtmcejkfknbjjkaaGreatDoorPkL
import Derived.Lib.QuietBelow
import Derived.Test.YtmcejkfknbjjkaaGreatDoorPkE
/-
  Proofs: when they are right: the specification's answer.
-/
namespace Go.Proofs.YtmcejkfknbjjkaaGreatDoor
open Go.RowKit Go.BigFrame Go.Sort
set_option linter.unusedVariables false
set_option linter.unusedSimpArgs false

/-- is it a proof? -/
noncomputable def pfOk (nm : ByteArray) (B : List Le) (S : List ByteArray) (x : Int) : Bool := okB nameB nm && LV.leavesB B && decide (S.length ≤ 8) && wideB S x && B.all (fun f => decide (idxN f.n = idxN nm))
theorem pfOk_yes {nm : ByteArray} {B : List Le} {S : List ByteArray} {x : Int} (h1 : okB nameB nm = true) (h2 : LV.leavesB B = true) (h3 : S.length ≤ 8) (h4 : wideB S x = true) : pfOk nm B S x = B.all (fun f => decide (idxN f.n = idxN nm)) := by
  unfold pfOk
  rw [h1, h2, h4, decide_eq_true h3]
  rfl

def PkR (w : World) (B : List Le) (N : Nat) (i : Value) (wr : World) : Prop := ∃ m : Nat, m ≤ B.length ∧ i = .int .i64 m ∧ Hid (Below w.heap.size w wr ∧ ∀ j (h : j < B.length), j < m → idxN B[j].n = N)

set_option maxRecDepth 100000 in
set_option maxHeartbeats 1000000 in
theorem sProofOk_any (nm : ByteArray) (vb vs : Value) (gb ob gs os : Nat) (B : List Le) (S : List ByteArray) (x : Int) (w : World) (hnm : nm.size ≤ 1048576) (hb : RS 2 lcs w vb gb ob B) (hsm : SmallL B) (hs : SS w vs gs os S) :
    Calls Tryz.prog 23 #[.string nm, .agg #[vb, vs], .int .i64 x] w fun e w' => e = .returned (.bool (pfOk nm B S x)) ∧ Below w.heap.size w w' := by
  obtain ⟨R, hR⟩ : ∃ R, pfOk nm B S x = R := ⟨_, rfl⟩
  have HR : Hid (pfOk nm B S x = R) := hR
  rw [hR]
  clear hR
  obtain ⟨p0, p1⟩ := run_rangeP (w := w) (p := 0) (v1 := vb) (v2 := vs) 43
  have hba : Below w.heap.size w (w.alloc (.cells #[vb, vs] 43)) := (Below.refl _ _).alloc (Nat.le_refl _) _
  have HBS : Hid (∀ W, Below w.heap.size w W → RS 2 lcs W vb gb ob B ∧ SS W vs gs os S) := fun W hW => ⟨hb.later hW, hs.below hW hs.lt⟩
  obtain ⟨ab, cb, rfl, hlb, hAb, hxb⟩ := hb
  obtain ⟨aS, cS, rfl, hls, hAs, hxs⟩ := hs
  clear hxb hxs
  have HAB : Hid (0 < B.length → ab = some ⟨gb, ob, none⟩) := fun h => (hAb h).1
  clear hAb hAs
  have hnk := sNameOk_any nm (w.alloc (.cells #[.slice ab B.length cb, .slice aS S.length cS] 43)) hnm
  cases h1 : okB nameB nm with
  | false =>
    have hRf : pfOk nm B S x = false := by unfold pfOk; rw [h1]; rfl
    rw [HR.out] at hRf
    subst hRf
    rw [h1] at hnk
    clear HR HBS HAB hsm
    go_enter Tryz.func23, Tryz.ntmps23
    go_wp2_with fail
    refine hnk.mono ?_
    rintro e w1 ⟨rfl, rfl⟩
    go_wp2
    go_ret
    exact ⟨rfl, hba⟩
  | true =>
    rw [h1] at hnk
    have hlo := sLeavesOk_any _ gb ob B _ (HBS.out _ hba).1 hsm
    cases h2 : LV.leavesB B with
    | false =>
      have hRf : pfOk nm B S x = false := by unfold pfOk; rw [h2]; simp
      rw [HR.out] at hRf
      subst hRf
      rw [h2] at hlo
      clear HR HBS HAB hsm
      go_enter Tryz.func23, Tryz.ntmps23
      go_wp2_with fail
      refine hnk.mono ?_
      rintro e w1 ⟨rfl, hw1⟩
      subst hw1
      go_wp2_with fail
      refine hlo.mono ?_
      rintro e w2 ⟨rfl, hb2⟩
      go_wp2
      go_ret
      exact ⟨rfl, hba.trans (hb2.mono hba.size)⟩
    | true =>
      rw [h2] at hlo
      have hB24 := (LV.leavesB_iff.1 h2).1
      have HPP : Hid (∀ W, Below (w.alloc (.cells #[.slice ab B.length cb, .slice aS S.length cS] 43)).heap.size (w.alloc (.cells #[.slice ab B.length cb, .slice aS S.length cS] 43)) W → W.cell? ⟨w.heap.size, 0, none⟩ = some (.slice ab B.length cb) ∧ W.cell? ⟨w.heap.size, 1, none⟩ = some (.slice aS S.length cS) ∧ Below w.heap.size w W) := fun W hW => ⟨cell_later p0 hW, cell_later p1 hW, hba.trans (hW.mono hba.size)⟩
      by_cases h3 : S.length ≤ 8
      · cases h4 : wideB S x with
        | false =>
          have hRf : pfOk nm B S x = false := by unfold pfOk; rw [h4]; simp
          rw [HR.out] at hRf
          subst hRf
          have q3 : ¬ ((8 : Int) < (S.length : Int)) := by omega
          have HW4 : Hid (∀ W, Below w.heap.size w W → Calls Tryz.prog 71 #[.slice aS S.length cS, .int .i64 x] W fun e w' => e = .returned (.bool false) ∧ w' = W) := fun W hW => by
            have h := l11Wide_any _ gs os S x W (HBS.out W hW).2
            rw [h4] at h
            exact h
          clear HR HBS HAB hsm h4
          generalize S.length = nS at *
          go_enter Tryz.func23, Tryz.ntmps23
          go_wp2_with fail
          refine hnk.mono ?_
          rintro e w1 ⟨rfl, hw1⟩
          subst hw1
          go_wp2_with fail
          refine hlo.mono ?_
          rintro e w2 ⟨rfl, hb2⟩
          obtain ⟨k0, k1, b2⟩ := HPP.out _ hb2
          clear p0 p1 hnk hlo
          go_wp2_with fail
          refine (HW4.out _ b2).mono ?_
          rintro e w3 ⟨rfl, hw3⟩
          subst hw3
          go_wp2
          go_ret
          exact ⟨rfl, b2⟩
        | true =>
          have hall := pfOk_yes h1 h2 h3 h4
          rw [HR.out] at hall
          have HALL : Hid (R = B.all (fun f => decide (idxN f.n = idxN nm))) := hall
          have q3 : ¬ ((8 : Int) < (S.length : Int)) := by omega
          have HW4 : Hid (∀ W, Below w.heap.size w W → Calls Tryz.prog 71 #[.slice aS S.length cS, .int .i64 x] W fun e w' => e = .returned (.bool true) ∧ w' = W) := fun W hW => by
            have h := l11Wide_any _ gs os S x W (HBS.out W hW).2
            rw [h4] at h
            exact h
          have HIX : Hid (∀ (t : ByteArray) W, t.size ≤ 1048576 → Calls Tryz.prog 72 #[.string t] W fun e w' => e = .returned (.int .i64 (idxN t : Int)) ∧ Below W.heap.size W w') := fun t W ht => sIndexOf_any t W ht
          have HSM : Hid (SmallL B) := hsm
          obtain ⟨nB, hnB⟩ : ∃ nB, B.length = nB := ⟨_, rfl⟩
          have HNB : Hid (B.length = nB) := hnB
          rw [hnB] at HAB HBS hnk hlo HPP p0 p1 hba hB24 ⊢
          clear HR hsm h4 hall hnB
          generalize S.length = nS at *
          go_enter Tryz.func23, Tryz.ntmps23
          go_wp2_with fail
          refine hnk.mono ?_
          rintro e w1 ⟨rfl, hw1⟩
          subst hw1
          go_wp2_with fail
          refine hlo.mono ?_
          rintro e w2 ⟨rfl, hb2⟩
          obtain ⟨k0, k1, b2⟩ := HPP.out _ hb2
          clear p0 p1 hnk hlo
          go_wp2_with fail
          refine (HW4.out _ b2).mono ?_
          rintro e w3 ⟨rfl, hw3⟩
          subst hw3
          go_wp2_with fail
          refine (HIX.out nm _ hnm).mono ?_
          rintro e w4 ⟨rfl, hb4⟩
          have hqd : decide ((8 : Int) < (nS : Int)) = false := decide_eq_false (by omega)
          obtain ⟨N, hN⟩ : ∃ N, idxN nm = N := ⟨_, rfl⟩
          rw [hN] at HALL ⊢
          have HST : Hid (PkR w3 B N (.int .i64 0) w4) := ⟨0, by omega, rfl, hb4, fun j _ h => by omega⟩
          have HK0 : Hid (∀ W, Below w3.heap.size w3 W → W.cell? ⟨w.heap.size, 0, none⟩ = some (.slice ab nB cb) ∧ Below w.heap.size w W) := fun W hW => ⟨cell_later k0 hW, b2.trans (hW.mono b2.size)⟩
          clear hb4 k0 k1 HPP HW4 hN hb2 hba
          simp only [hqd]
          go_wp2
          go_loopw [8] (fun i wr => PkR w3 B N i wr) (fun i _ => nB - (intOf i).toNat)
          case atStart => exact HST.out
          case round =>
            obtain ⟨m, hm, rfl, HI⟩ := hrel
            clear HST
            rw [HNB.out] at hm
            obtain ⟨k0, bw⟩ := HK0.out _ HI.out.1
            by_cases hlt : m < nB
            · have ea := HAB.out (by omega)
              subst ea
              obtain ⟨c0, _⟩ := (HBS.out _ bw).1.leaf m (by rw [HNB.out]; exact hlt)
              obtain ⟨X, hX⟩ : ∃ X, B[m]'(by rw [HNB.out]; exact hlt) = X := ⟨_, rfl⟩
              rw [hX] at c0
              have hxs := HSM.out X (by rw [← hX]; exact List.getElem_mem _)
              have hix := HIX.out X.n wr hxs.1
              have HB0 : Hid (¬ (idxN X.n = N) → R = false) := fun h => by
                rw [HALL.out, List.all_eq_false]
                exact ⟨X, by rw [← hX]; exact List.getElem_mem _, by simpa using h⟩
              have HJ0 : Hid (idxN X.n = N → ∀ j (h : j < B.length), j < m + 1 → idxN B[j].n = N) := fun h j hj hjm => by
                rcases Nat.lt_or_ge j m with h1 | h1
                · exact HI.out.2 j hj h1
                · have : j = m := by omega
                  subst this
                  rw [hX]
                  exact h
              obtain ⟨M, hM⟩ : ∃ M, idxN X.n = M := ⟨_, rfl⟩
              rw [hM] at hix HB0 HJ0
              have i1 : (m : Int) < (nB : Int) := by omega
              have i2 : (0 : Int) ≤ (m : Int) := by omega
              clear hX hM HBS HIX HSM HALL
              go_wp2_with fail
              refine hix.mono ?_
              rintro e w5 ⟨rfl, hb5⟩
              by_cases hk : M = N
              · have HJ : Hid (PkR w3 B N (.int .i64 ((m + 1 : Nat) : Int)) w5) := ⟨m + 1, by rw [HNB.out]; omega, rfl, HI.out.1.trans (hb5.mono HI.out.1.size), HJ0.out hk⟩
                have q : ((M : Int) != (N : Int)) = false := by simp; omega
                clear HJ0 HB0 hk HI hix hb5
                go_wp2
                go_roundw
                case rel =>
                  obtain ⟨m', h1, h2, h3⟩ := HJ.out
                  exact ⟨m', h1, h2 ▸ by go_num, h3⟩
                case measure => simp [intOf]; omega
              · have hRf := HB0.out hk
                subst hRf
                have HF : Hid (Below w.heap.size w w5) := bw.trans (hb5.mono bw.size)
                have q : ((M : Int) != (N : Int)) = true := by simp; omega
                clear HJ0 HB0 hk HI hix hb5
                go_wp2
                go_ret
                exact ⟨rfl, HF.out⟩
            · have hme : m = nB := by omega
              have hRt : R = true := by
                rw [HALL.out, List.all_eq_true]
                intro f hf
                obtain ⟨j, hj, rfl⟩ := List.getElem_of_mem hf
                simpa using HI.out.2 j hj (by rw [HNB.out] at hj; omega)
              subst hRt
              have HF : Hid (Below w.heap.size w wr) := bw
              have i1 : ¬ (m : Int) < (nB : Int) := by omega
              clear HI HBS HIX HSM HALL HAB
              go_wp2
              go_ret
              exact ⟨rfl, HF.out⟩
      · have hRf : pfOk nm B S x = false := by unfold pfOk; rw [decide_eq_false h3]; simp
        rw [HR.out] at hRf
        subst hRf
        have q3 : (8 : Int) < (S.length : Int) := by omega
        clear HR HBS HAB hsm h3
        generalize S.length = nS at *
        go_enter Tryz.func23, Tryz.ntmps23
        go_wp2_with fail
        refine hnk.mono ?_
        rintro e w1 ⟨rfl, hw1⟩
        subst hw1
        go_wp2_with fail
        refine hlo.mono ?_
        rintro e w2 ⟨rfl, hb2⟩
        obtain ⟨k0, k1, b2⟩ := HPP.out _ hb2
        clear p0 p1 hnk hlo
        go_wp2
        go_ret
        exact ⟨rfl, b2⟩

end Go.Proofs.YtmcejkfknbjjkaaGreatDoor
/-
  The chain of texts of a proof: the specification's answer.
-/
namespace Go.Proofs.YtmcejkfknbjjkaaGreatDoor
open Go.RowKit Go.BigFrame Go.Sort
set_option linter.unusedVariables false
set_option linter.unusedSimpArgs false

/-- the chain of texts -/
def chT (ix : Int) (x : Int) (t0 : ByteArray) (S : List ByteArray) : Nat → ByteArray
  | 0 => t0
  | i + 1 => tagB 3 (if bitI ix (7 - i) = 1 then [S.getD i ⟨#[]⟩, cutH (chT ix x t0 S i) x] else [cutH (chT ix x t0 S i) x, S.getD i ⟨#[]⟩])
def chL (ix : Int) (x : Int) (t0 : ByteArray) (S : List ByteArray) (n : Nat) : List ByteArray := (List.range n).map (chT ix x t0 S)
theorem chL_len (ix : Int) (x : Int) (t0 : ByteArray) (S : List ByteArray) (n : Nat) : (chL ix x t0 S n).length = n := by simp [chL]
theorem chL_at (ix : Int) (x : Int) (t0 : ByteArray) (S : List ByteArray) (n j : Nat) (h : j < (chL ix x t0 S n).length) : (chL ix x t0 S n)[j] = chT ix x t0 S j := by simp [chL]
theorem chL_succ (ix : Int) (x : Int) (t0 : ByteArray) (S : List ByteArray) (n : Nat) : chL ix x t0 S (n + 1) = chL ix x t0 S n ++ [chT ix x t0 S n] := by
  unfold chL
  rw [List.range_succ, List.map_append]
  rfl
theorem chT_size (ix : Int) (x : Int) (t0 : ByteArray) (S : List ByteArray) (h : t0.size ≤ 12601) : ∀ i, (chT ix x t0 S i).size ≤ 12601
  | 0 => h
  | i + 1 => tagB_size _ _

def PtR (w0 : World) (B : Nat) (ix : Int) (x : Int) (t0 : ByteArray) (S : List ByteArray) (u i : Value) (wr : World) : Prop := ∃ m : Nat, m ≤ S.length ∧ i = .int .i64 m ∧ ∃ g cap, u = .slice (some ⟨g, 0, none⟩) (m + 1) cap ∧ Hid (OS B w0 wr u (chL ix x t0 S (m + 1)))

set_option maxRecDepth 100000 in
set_option maxHeartbeats 1000000 in
theorem sProofTexts_yes (nm : ByteArray) (vb vs : Value) (gb ob gs os : Nat) (B : List Le) (S : List ByteArray) (x : Int) (w : World) (hnm : nm.size ≤ 1048576) (hb : RS 2 lcs w vb gb ob B) (hsm : SmallL B) (hs : SS w vs gs os S) (hok : pfOk nm B S x = true) :
    Calls Tryz.prog 28 #[.string nm, .agg #[vb, vs], .int .i64 x] w fun e w' => ∃ v, e = .returned v ∧ OS w.heap.size w w' v (chL (idxN nm) x (btB B) S (S.length + 1)) := by
  obtain ⟨p0, p1⟩ := run_rangeP (w := w) (p := 0) (v1 := vb) (v2 := vs) 43
  have hba : Below w.heap.size w (w.alloc (.cells #[vb, vs] 43)) := (Below.refl _ _).alloc (Nat.le_refl _) _
  have HBS : Hid (∀ W, Below w.heap.size w W → RS 2 lcs W vb gb ob B ∧ SS W vs gs os S) := fun W hW => ⟨hb.later hW, hs.below hW hs.lt⟩
  have h8 : S.length ≤ 8 := by
    unfold pfOk at hok
    simp only [Bool.and_eq_true, decide_eq_true_eq] at hok
    exact hok.1.1.2
  have hlv : LV.leavesB B = true := by
    unfold pfOk at hok
    simp only [Bool.and_eq_true, decide_eq_true_eq] at hok
    exact hok.1.1.1.2
  have HPP : Hid (∀ W, Below (w.alloc (.cells #[vb, vs] 43)).heap.size (w.alloc (.cells #[vb, vs] 43)) W → W.cell? ⟨w.heap.size, 0, none⟩ = some vb ∧ W.cell? ⟨w.heap.size, 1, none⟩ = some vs ∧ Below w.heap.size w W ∧ w.heap.size + 1 ≤ W.heap.size) := fun W hW => ⟨cell_later p0 hW, cell_later p1 hW, hba.trans (hW.mono hba.size), by have := hW.size; simpa using this⟩
  have hpo := sProofOk_any nm vb vs gb ob gs os B S x _ hnm (HBS.out _ hba).1 hsm (HBS.out _ hba).2
  rw [hok] at hpo
  have HBT : Hid (∀ W, Below w.heap.size w W → Calls Tryz.prog 79 #[vb] W fun e w' => e = .returned (.tuple #[.string (btB B), .bool true]) ∧ Below W.heap.size W w') := fun W hW => by
    have h := sBucketText_any vb gb ob B W (HBS.out W hW).1 hsm
    rw [hlv, btA_yes hlv] at h
    exact h
  have HIX : Hid (∀ W, Calls Tryz.prog 72 #[.string nm] W fun e w' => e = .returned (.int .i64 (idxN nm : Int)) ∧ Below W.heap.size W w') := fun W => sIndexOf_any nm W hnm
  have ht0 := btB_size B
  obtain ⟨nS, hnS⟩ : ∃ nS, S.length = nS := ⟨_, rfl⟩
  have HNS : Hid (S.length = nS) := hnS
  obtain ⟨aS, cS, rfl, _, hAs, _⟩ := hs
  have HAS : Hid (0 < nS → aS = some ⟨gs, os, none⟩) := by rw [← hnS]; exact hAs
  rw [hnS] at h8 hpo HBS HPP p0 p1 hba ⊢
  clear hb hok hsm hlv hAs hnS
  generalize btB B = t0 at *
  obtain ⟨ix, hix⟩ : ∃ ix : Int, (idxN nm : Int) = ix := ⟨_, rfl⟩
  rw [hix] at HIX ⊢
  clear hix
  go_enter Tryz.func28, Tryz.ntmps28
  go_wp2_with fail
  refine hpo.mono ?_
  rintro e w1 ⟨rfl, hb1⟩
  clear hpo
  go_wp2_with fail
  refine (HIX.out _).mono ?_
  rintro e w2 ⟨rfl, hb2⟩
  have hb12 := hb1.trans (hb2.mono hb1.size)
  clear HIX hb1 hb2
  obtain ⟨k0, k1, b2, _⟩ := HPP.out _ hb12
  go_wp2_with fail
  refine (HBT.out _ b2).mono ?_
  rintro e w3 ⟨rfl, hb3⟩
  have hb13 := hb12.trans (hb3.mono hb12.size)
  obtain ⟨l0, l1, b3, _⟩ := HPP.out _ hb13
  have HST : Hid (PtR w3 w3.heap.size ix x t0 S (.slice (some ⟨w3.heap.size, 0, none⟩) 1 1) (.int .i64 0) (w3.alloc (.cells #[.string t0] 9))) := ⟨0, by omega, rfl, _, _, rfl, OS.lit w3 t0⟩
  have HKK : Hid (∀ W, Below w3.heap.size w3 W → W.cell? ⟨w.heap.size, 0, none⟩ = some vb ∧ W.cell? ⟨w.heap.size, 1, none⟩ = some (.slice aS nS cS)) := fun W hW => ⟨cell_later l0 hW, cell_later l1 hW⟩
  have HB3 : Hid (Below w.heap.size w w3) := b3
  clear HBT hb12 hb3 hb13 k0 k1 l0 l1 HPP p0 p1 b2 hba
  go_wp2
  go_loopw [10, 11] (fun u i wr => PtR w3 w3.heap.size ix x t0 S u i wr) (fun _ i _ => nS - (intOf i).toNat)
  case atStart => exact HST.out
  case round =>
    obtain ⟨m, hm, rfl, g, cap, rfl, HI⟩ := hrel
    clear HST
    rw [HNS.out] at hm
    have HBW : Hid (Below w3.heap.size w3 wr) := HI.out.2.1
    obtain ⟨_, k1⟩ := HKK.out _ HBW.out
    by_cases hlt : m < nS
    · have ea := HAS.out (by omega)
      subst ea
      have hmS : m < S.length := by rw [HNS.out]; exact hlt
      have HCS : Hid (∀ W, Below w3.heap.size w3 W → W.cell? ⟨w.heap.size, 1, none⟩ = some (.slice (some ⟨gs, os, none⟩) nS cS) ∧ W.cell? ⟨gs, os + m, none⟩ = some (.string (S.getD m ⟨#[]⟩))) := fun W hW => by
        refine ⟨(HKK.out _ hW).2, ?_⟩
        obtain ⟨_, _, _, _, _, h6⟩ := (HBS.out W (HB3.out.trans (hW.mono HB3.out.size))).2
        have := h6 m hmS
        rw [show S[m] = S.getD m ⟨#[]⟩ by simp [List.getElem?_eq_getElem hmS]] at this
        exact this
      have c0 := HI.out.at m (by rw [chL_len]; omega)
      rw [chL_at] at c0
      have hTs := chT_size ix x t0 S ht0 m
      have hZ : chT ix x t0 S (m + 1) = tagB 3 (if bitI ix (7 - m) = 1 then [S.getD m ⟨#[]⟩, cutH (chT ix x t0 S m) x] else [cutH (chT ix x t0 S m) x, S.getD m ⟨#[]⟩]) := rfl
      have hL := chL_succ ix x t0 S (m + 1)
      have hLl := chL_len ix x t0 S (m + 1)
      have HNX0 : Hid (∀ g6 cap6 w6, OS w3.heap.size w3 w6 (.slice (some ⟨g6, 0, none⟩) (m + 1 + 1) cap6) (chL ix x t0 S (m + 1) ++ [chT ix x t0 S (m + 1)]) → PtR w3 w3.heap.size ix x t0 S (.slice (some ⟨g6, 0, none⟩) (m + 1 + 1) cap6) (.int .i64 ((m : Int) + 1)) w6) := fun g6 cap6 w6 h => ⟨m + 1, by omega, by congr 1, g6, cap6, rfl, by rw [hL]; exact h⟩
      rw [hZ] at HNX0
      clear hZ hL
      generalize chT ix x t0 S m = T at *
      generalize S.getD m ⟨#[]⟩ = Y at *
      generalize chL ix x t0 S (m + 1) = L at *
      have HNX1 : Hid _ := HNX0.out
      clear HNX0
      have i1 : (m : Int) < (nS : Int) := by omega
      have i2 : (0 : Int) ≤ (m : Int) := by omega
      have i3 : (m : Int) < ((m + 1 : Nat) : Int) := by omega
      have i4 : ((7 : Int) - (m : Int)).toNat = 7 - m := by omega
      have HBO : Hid (∀ W, Calls Tryz.prog 80 #[.int .i64 ix, .int .i64 ((7 : Int) - (m : Int))] W fun e w' => e = .returned (.int .i64 (bitI ix (7 - m))) ∧ w' = W) := fun W => by
        have h := sBitOf_z ix ((7 : Int) - (m : Int)) W ⟨by omega, by omega⟩
        rw [i4] at h
        exact h
      have hcd := sCutDigest_any T x wr (by omega)
      generalize cutH T x = D at *
      clear HAS i4
      go_wp2_with fail
      refine hcd.mono ?_
      rintro e w4 ⟨rfl, hb4⟩
      have HO4' : Hid (OS w3.heap.size w3 w4 (.slice (some ⟨g, 0, none⟩) (m + 1) cap) L) := HI.out.later hb4
      clear hcd c0 HI hb4 k1 HBW
      have HO4 : Hid (OS w3.heap.size w3 (w4.alloc (.cells #[.string D, .string Y] 9)) (.slice (some ⟨g, 0, none⟩) (m + 1) cap) L) := HO4'.out.alloc _
      obtain ⟨d1, d2⟩ := HCS.out _ HO4'.out.2.1
      obtain ⟨f1, f2⟩ := HCS.out _ HO4.out.2.1
      have HT1 : Hid (Calls Tryz.prog 81 #[.int .i64 3, .slice (some ⟨w4.heap.size, 0, none⟩) 2 2] (w4.alloc (.cells #[.string D, .string Y] 9)) fun e w' => e = .returned (.tuple #[.string (tagB 3 [D, Y]), .bool (tagOk 3 [D, Y])]) ∧ Below (w4.alloc (.cells #[.string D, .string Y] 9)).heap.size (w4.alloc (.cells #[.string D, .string Y] 9)) w') := sTagText_any 3 _ w4.heap.size 0 [D, Y] _ (ss_lits w4 [D, Y] _ 2 rfl (by omega) rfl)
      have HT2 : Hid (∀ W g, W.heap.size = g → Calls Tryz.prog 81 #[.int .i64 3, .slice (some ⟨g, 0, none⟩) 2 2] (W.alloc (.cells #[.string Y, .string D] 9)) fun e w' => e = .returned (.tuple #[.string (tagB 3 [Y, D]), .bool (tagOk 3 [Y, D])]) ∧ Below W.heap.size W w') := fun W g hg => hg ▸ (sTagText_any 3 _ W.heap.size 0 [Y, D] _ (ss_lits W [Y, D] _ 2 rfl (by omega) rfl)).mono fun e w' ⟨he, hb⟩ => ⟨he, ((Below.refl _ _).alloc (Nat.le_refl _) _).trans (hb.mono (by simp))⟩
      generalize tagOk 3 [D, Y] = R1 at *
      generalize tagOk 3 [Y, D] = R2 at *
      clear HO4' HCS
      generalize bitI ix (7 - m) = b at *
      go_wp2_with fail
      refine (HBO.out _).mono ?_
      rintro e w4' ⟨rfl, rfl⟩
      clear HBO
      by_cases hb : b = 1
      · rw [if_pos hb] at HNX1
        subst hb
        generalize tagB 3 [Y, D] = Z at *
        generalize tagB 3 [D, Y] = Z2 at *
        go_wp2_with fail
        refine (HT2.out _ _ (by simp)).mono ?_
        rintro e w5 ⟨rfl, hb5⟩
        have HO5 : Hid (OS w3.heap.size w3 (w5.alloc (.cells #[.string Z] 9)) (.slice (some ⟨g, 0, none⟩) (m + 1) cap) L) := (HO4.out.later hb5).alloc _
        have HCT : Hid ((w5.alloc (.cells #[.string Z] 9)).cell? ⟨w5.heap.size, 0, none⟩ = some (.string Z)) := by
          show (w5.alloc (.cells #[.string Z] 9)).cell? ⟨w5.heap.size, 0, none⟩ = some (.string Z)
          rw [World.cell?_alloc_at _ _ _ _ rfl]
          rfl
        clear HT1 HT2 HO4 hb5 f1 f2 d1 d2
        go_wp2_with (at_builtin; refine wp_txtL rfl _ _ rfl w3.heap.size w3 _ L Z rfl HO5.out _ rfl HCT.out (by omega) ?_)
        intro g6 cap6 w6 ho6 hg6 hl6
        have HK : Hid (PtR w3 w3.heap.size ix x t0 S (.slice (some ⟨g6, 0, none⟩) (m + 1 + 1) cap6) (.int .i64 ((m : Int) + 1)) w6) := HNX1.out _ _ _ ho6
        clear ho6 hg6 hl6 HO5 HCT HNX1
        go_wp2
        go_roundw
        case rel => exact HK.out
        case measure => simp [intOf]; omega
      · rw [if_neg hb] at HNX1
        have qb : (b == 1) = false := by simpa using hb
        generalize tagB 3 [D, Y] = Z at *
        generalize tagB 3 [Y, D] = Z2 at *
        go_wp2_with fail
        refine HT1.out.mono ?_
        rintro e w5 ⟨rfl, hb5⟩
        have HO5 : Hid (OS w3.heap.size w3 (w5.alloc (.cells #[.string Z] 9)) (.slice (some ⟨g, 0, none⟩) (m + 1) cap) L) := (HO4.out.later hb5).alloc _
        have HCT : Hid ((w5.alloc (.cells #[.string Z] 9)).cell? ⟨w5.heap.size, 0, none⟩ = some (.string Z)) := by
          show (w5.alloc (.cells #[.string Z] 9)).cell? ⟨w5.heap.size, 0, none⟩ = some (.string Z)
          rw [World.cell?_alloc_at _ _ _ _ rfl]
          rfl
        clear HT1 HT2 HO4 hb5 f1 f2 d1 d2
        go_wp2_with (at_builtin; refine wp_txtL rfl _ _ rfl w3.heap.size w3 _ L Z rfl HO5.out _ rfl HCT.out (by omega) ?_)
        intro g6 cap6 w6 ho6 hg6 hl6
        have HK : Hid (PtR w3 w3.heap.size ix x t0 S (.slice (some ⟨g6, 0, none⟩) (m + 1 + 1) cap6) (.int .i64 ((m : Int) + 1)) w6) := HNX1.out _ _ _ ho6
        clear ho6 hg6 hl6 HO5 HCT HNX1
        go_wp2
        go_roundw
        case rel => exact HK.out
        case measure => simp [intOf]; omega
    · have hme : m = nS := by omega
      subst hme
      have HF : Hid (∃ v, Ending.returned (.slice (some ⟨g, 0, none⟩) (m + 1) cap) = .returned v ∧ OS w.heap.size w wr v (chL ix x t0 S (m + 1))) := ⟨_, rfl, OS.upT HB3.out HB3.out.size HI.out⟩
      clear HI HBW HKK HBS HAS
      go_wp2
      go_ret
      exact HF.out

set_option maxRecDepth 100000 in
theorem sProofTexts_no (nm : ByteArray) (vb vs : Value) (gb ob gs os : Nat) (B : List Le) (S : List ByteArray) (x : Int) (w : World) (hnm : nm.size ≤ 1048576) (hb : RS 2 lcs w vb gb ob B) (hsm : SmallL B) (hs : SS w vs gs os S) (hok : pfOk nm B S x = false) :
    Calls Tryz.prog 28 #[.string nm, .agg #[vb, vs], .int .i64 x] w fun e w' => ∃ v, e = .returned v ∧ OS w.heap.size w w' v [] := by
  obtain ⟨p0, p1⟩ := run_rangeP (w := w) (p := 0) (v1 := vb) (v2 := vs) 43
  have hba : Below w.heap.size w (w.alloc (.cells #[vb, vs] 43)) := (Below.refl _ _).alloc (Nat.le_refl _) _
  have hpo := sProofOk_any nm vb vs gb ob gs os B S x _ hnm (hb.later hba) hsm (hs.below hba hs.lt)
  rw [hok] at hpo
  clear hb hs hok hsm
  go_enter Tryz.func28, Tryz.ntmps28
  go_wp2_with fail
  refine hpo.mono ?_
  rintro e w1 ⟨rfl, hb1⟩
  have b1 : Below w.heap.size w w1 := hba.trans (hb1.mono hba.size)
  have HF : Hid (∃ v, Ending.returned (.slice (some ⟨w1.heap.size, 0, none⟩) 0 0) = .returned v ∧ OS w.heap.size w (w1.alloc (.cells #[] 9)) v []) := ⟨_, rfl, OS.upT b1 b1.size (OS.made w1)⟩
  clear hpo p0 p1 hba hb1 b1
  go_wp2
  go_ret
  exact HF.out

/-- what ProofTexts is -/
noncomputable def ptA (nm : ByteArray) (B : List Le) (S : List ByteArray) (x : Int) : List ByteArray := if pfOk nm B S x then chL (idxN nm) x (btB B) S (S.length + 1) else []
theorem sProofTexts_any (nm : ByteArray) (vb vs : Value) (gb ob gs os : Nat) (B : List Le) (S : List ByteArray) (x : Int) (w : World) (hnm : nm.size ≤ 1048576) (hb : RS 2 lcs w vb gb ob B) (hsm : SmallL B) (hs : SS w vs gs os S) :
    Calls Tryz.prog 28 #[.string nm, .agg #[vb, vs], .int .i64 x] w fun e w' => ∃ v, e = .returned v ∧ OS w.heap.size w w' v (ptA nm B S x) := by
  unfold ptA
  cases h : pfOk nm B S x with
  | false => exact sProofTexts_no nm vb vs gb ob gs os B S x w hnm hb hsm hs h
  | true => exact sProofTexts_yes nm vb vs gb ob gs os B S x w hnm hb hsm hs h

end Go.Proofs.YtmcejkfknbjjkaaGreatDoor
/-
  Two chains of texts: from the last one on back the first two that differ, have they one digest?
-/
namespace Go.Proofs.YtmcejkfknbjjkaaGreatDoor
open Go.RowKit Go.BigFrame Go.Sort
set_option linter.unusedVariables false
set_option linter.unusedSimpArgs false

def clF (A B : List ByteArray) (x : Int) (m : Nat) : Bool := TR.clB (fun t => cutH t x) (fun i => A.getD i ⟨#[]⟩) (fun i => B.getD i ⟨#[]⟩) m
def PcR (w : World) (F : Nat → Bool) (n : Nat) (i : Value) (wr : World) : Prop := ∃ m : Nat, m ≤ n ∧ i = .int .i64 ((m : Int) - 1) ∧ Hid (Below w.heap.size w wr ∧ F n = F m)

end Go.Proofs.YtmcejkfknbjjkaaGreatDoor
/-
  Plain facts of proofs: a chain of texts ends in what folds up; two chains that begin unlike and end alike clash.
-/
namespace Go.Proofs.YtmcejkfknbjjkaaGreatDoor
open Go.RowKit
set_option linter.unusedVariables false
set_option linter.unusedSimpArgs false

theorem bit_01 (ix j : Nat) (hj : j ≤ 7) (hx : ix ≤ 255) : bitI (ix : Int) (7 - j) = 0 ∨ bitI (ix : Int) (7 - j) = 1 := by
  rw [bit_of ix j (by omega) hx]
  have h2 : ix / 2 ^ j % 2 < 2 := Nat.mod_lt _ (by omega)
  generalize ix / 2 ^ j % 2 = q at *
  omega
theorem tag3_ok {a b : ByteArray} (ha : a.size ≤ 200) (hb : b.size ≤ 200) : tagOk 3 [a, b] = true := by
  unfold tagOk
  simp [ha, hb]
theorem hash3_yes {a b : ByteArray} (x : Int) (ha : a.size ≤ 200) (hb : b.size ≤ 200) : hashB 3 [a, b] x = cutH (tagB 3 [a, b]) x := by
  unfold hashB
  rw [if_pos (tag3_ok ha hb)]
theorem tag3_inj {a b c d : ByteArray} (ha : a.size ≤ 200) (hb : b.size ≤ 200) (hc : c.size ≤ 200) (hd : d.size ≤ 200) (h : tagB 3 [a, b] = tagB 3 [c, d]) : a = c ∧ b = d := by
  unfold tagB at h
  rw [if_pos (tag3_ok ha hb), if_pos (tag3_ok hc hd)] at h
  have := (TR.tag_inj (k := 3) (k' := 3) (by omega) (by omega) (fun x hx => by simp at hx; rcases hx with rfl | rfl <;> omega) (fun x hx => by simp at hx; rcases hx with rfl | rfl <;> omega) h).2
  simpa using this

section
variable {ix : Nat} (hx : ix ≤ 255) {x : Int} (h : 1 ≤ x ∧ x ≤ 32)
include hx h
/-- the digest of a chain's text is what folds up to there -/
theorem chain_fold (t0 : ByteArray) {S : List ByteArray} (hl : S.length ≤ 8) (hw : ∀ s ∈ S, s.size ≤ 32) : ∀ i, i ≤ S.length → cutH (chT ix x t0 S i) x = fuF x ix 8 (cutH t0 x) (S.take i)
  | 0, _ => by
    rw [List.take_zero, fuF_none]
    rfl
  | i + 1, hi => by
    have ih := chain_fold t0 hl hw i (by omega)
    have hs : (S[i]'(by omega)).size ≤ 200 := by
      have := hw (S[i]'(by omega)) (List.getElem_mem _)
      omega
    have hc : (cutH (chT ix x t0 S i) x).size ≤ 200 := by rw [cutH_size h]; omega
    rw [fuF_step x ix 8 (cutH t0 x) (s := S) (m := i) (by omega), ← ih, show 8 - 1 - i = 7 - i by omega]
    have e : S.getD i ⟨#[]⟩ = S[i]'(by omega) := by simp [List.getElem?_eq_getElem (show i < S.length by omega)]
    rw [chT, e]
    rcases bit_01 ix i (by omega) hx with hb | hb
    · rw [hb, if_neg (by decide), if_pos rfl, hash3_yes x hc hs]
    · rw [hb, if_pos rfl, if_neg (by decide), hash3_yes x hs hc]
omit hx in
theorem chain_step (t0 t1 : ByteArray) {S T : List ByteArray} (hl : S.length = 8) (hm : T.length = 8) (hw : ∀ s ∈ S, s.size ≤ 32) (hv : ∀ s ∈ T, s.size ≤ 32) (i : Nat) (hi : i < 8) (he : chT ix x t0 S (i + 1) = chT ix x t1 T (i + 1)) : cutH (chT ix x t0 S i) x = cutH (chT ix x t1 T i) x := by
  have e1 : S.getD i ⟨#[]⟩ = S[i]'(by omega) := by simp [List.getElem?_eq_getElem (show i < S.length by omega)]
  have e2 : T.getD i ⟨#[]⟩ = T[i]'(by omega) := by simp [List.getElem?_eq_getElem (show i < T.length by omega)]
  have s1 : (S[i]'(by omega)).size ≤ 200 := by
    have := hw (S[i]'(by omega)) (List.getElem_mem _)
    omega
  have s2 : (T[i]'(by omega)).size ≤ 200 := by
    have := hv (T[i]'(by omega)) (List.getElem_mem _)
    omega
  have c1 : (cutH (chT ix x t0 S i) x).size ≤ 200 := by rw [cutH_size h]; omega
  have c2 : (cutH (chT ix x t1 T i) x).size ≤ 200 := by rw [cutH_size h]; omega
  rw [chT, chT, e1, e2] at he
  by_cases hb : bitI (ix : Int) (7 - i) = 1
  · rw [if_pos hb, if_pos hb] at he
    exact (tag3_inj s1 c1 s2 c2 he).2
  · rw [if_neg hb, if_neg hb] at he
    exact (tag3_inj c1 s1 c2 s2 he).1
/-- **two chains that begin unlike and end alike clash** -/
theorem chains_clash {t0 t1 : ByteArray} {S T : List ByteArray} (hl : S.length = 8) (hm : T.length = 8) (hw : ∀ s ∈ S, s.size ≤ 32) (hv : ∀ s ∈ T, s.size ≤ 32) (hne : t0 ≠ t1) (hr : fuF x ix 8 (cutH t0 x) S = fuF x ix 8 (cutH t1 x) T) : clF (chL ix x t0 S 9) (chL ix x t1 T 9) x 9 = true := by
  have g : ∀ (t : ByteArray) (U : List ByteArray) (i : Nat), i < 9 → (chL ix x t U 9).getD i ⟨#[]⟩ = chT ix x t U i := fun t U i hi => by
    have hL : i < (chL ix x t U 9).length := by rw [chL_len]; exact hi
    rw [List.getD_eq_getElem?_getD, List.getElem?_eq_getElem hL, Option.getD_some, chL_at]
  unfold clF
  refine TR.clB_yes 9 ⟨0, by omega, ?_⟩ ?_ (fun i hi he => ?_)
  · show (chL ix x t0 S 9).getD 0 ⟨#[]⟩ ≠ (chL ix x t1 T 9).getD 0 ⟨#[]⟩
    rw [g _ _ 0 (by omega), g _ _ 0 (by omega)]
    exact hne
  · show cutH ((chL ix x t0 S 9).getD 8 ⟨#[]⟩) x = cutH ((chL ix x t1 T 9).getD 8 ⟨#[]⟩) x
    rw [g _ _ 8 (by omega), g _ _ 8 (by omega), chain_fold hx h t0 (by omega) hw 8 (by omega), chain_fold hx h t1 (by omega) hv 8 (by omega), List.take_of_length_le (by omega), List.take_of_length_le (by omega)]
    exact hr
  · show cutH ((chL ix x t0 S 9).getD i ⟨#[]⟩) x = cutH ((chL ix x t1 T 9).getD i ⟨#[]⟩) x
    have he' : (chL ix x t0 S 9).getD (i + 1) ⟨#[]⟩ = (chL ix x t1 T 9).getD (i + 1) ⟨#[]⟩ := he
    rw [g _ _ _ (by omega), g _ _ _ (by omega)] at he' ⊢
    exact chain_step h t0 t1 hl hm hw hv i (by omega) he'
end

end Go.Proofs.YtmcejkfknbjjkaaGreatDoor
/-
  The proof of a name: the specification's answer.
-/
namespace Go.Proofs.YtmcejkfknbjjkaaGreatDoor
open Go.RowKit Go.BigFrame Go.Sort
set_option linter.unusedVariables false
set_option linter.unusedSimpArgs false

set_option maxRecDepth 100000 in
set_option maxHeartbeats 1000000 in
theorem sProveLeaf_yes (v : Value) (ga oa : Nat) (L : List Le) (nm : ByteArray) (x : Int) (w : World) (hv : RS 2 lcs w v ga oa L) (hsm : SmallL L) (hl : LV.leavesB L = true) (hn : okB nameB nm = true) (hx : 1 ≤ x ∧ x ≤ 32) (hnm : nm.size ≤ 1048576) :
    Calls Tryz.prog 114 #[v, .string nm, .int .i64 0, .int .i64 x] w fun e w' => ∃ vb vs gb gs, e = .returned (.tuple #[.agg #[vb, vs], .bool true]) ∧ RS 2 lcs w' vb gb 0 (bkL L (idxN nm)) ∧ SS w' vs gs 0 (sdA L (idxN nm) 0 x) ∧ Below w.heap.size w w' := by
  have hba : Below w.heap.size w (w.alloc (.cells #[.slice none 0 0, .slice none 0 0] 43)) := (Below.refl _ _).alloc (Nat.le_refl _) _
  have HPN : Hid (PfM (w.alloc (.cells #[.slice none 0 0, .slice none 0 0] 43)) w.heap.size (.slice none 0 0) (.slice none 0 0)) := PfM.new w _ _
  have HRS : Hid (∀ W, Below w.heap.size w W → RS 2 lcs W v ga oa L) := fun W hW => hv.later hW
  have hlo := sLeavesOk_any v ga oa L _ (HRS.out _ hba) hsm
  rw [hl] at hlo
  have HNK : Hid (∀ W, Calls Tryz.prog 69 #[.string nm] W fun e w' => e = .returned (.bool true) ∧ w' = W) := fun W => by
    have h := sNameOk_any nm W hnm
    rw [hn] at h
    exact h
  have HIX : Hid (∀ W, Calls Tryz.prog 72 #[.string nm] W fun e w' => e = .returned (.int .i64 (idxN nm : Int)) ∧ Below W.heap.size W w') := fun W => sIndexOf_any nm W hnm
  have HLL : Hid ((bkL L (idxN nm)).length ≤ 1100000 ∧ (sdA L (idxN nm) 0 x).length ≤ 1100000) := by
    refine ⟨Nat.le_trans (List.length_filter_le _ _) hv.len, ?_⟩
    unfold sdA
    split
    · rw [sdL_len]; omega
    · simp
  obtain ⟨ix, hix⟩ : ∃ ix : Int, (idxN nm : Int) = ix := ⟨_, rfl⟩
  rw [hix] at HIX HLL ⊢
  have HBK : Hid (∀ W, Below w.heap.size w W → Calls Tryz.prog 149 #[v, .int .i64 ix] W fun e w' => ∃ u, e = .returned u ∧ OL W.heap.size W w' u (bkL L ix)) := fun W hW => sBucketOf_any v ga oa L ix W (HRS.out W hW) hsm
  have HSD : Hid (∀ W, Below w.heap.size w W → Calls Tryz.prog 150 #[v, .int .i64 ix, .int .i64 0, .int .i64 x] W fun e w' => ∃ u, e = .returned u ∧ OS W.heap.size W w' u (sdA L ix 0 x)) := fun W hW => sSidesOf_any v ga oa L ix 0 x W (HRS.out W hW) hsm
  have HL2 : Hid (Calls Tryz.prog 70 #[v] (w.alloc (.cells #[.slice none 0 0, .slice none 0 0] 43)) fun e w' => e = .returned (.bool true) ∧ Below (w.alloc (.cells #[.slice none 0 0, .slice none 0 0] 43)).heap.size (w.alloc (.cells #[.slice none 0 0, .slice none 0 0] 43)) w') := hlo
  have d1 : decide ((0 : Int) ≤ 0 ∧ (0 : Int) ≤ 8) = true := by decide
  have d2 : decide ((1 : Int) ≤ x ∧ x ≤ 32) = true := by simpa using hx
  clear hlo hv hsm hl hn hix HRS hx hnm
  generalize bkL L ix = BK at *
  generalize sdA L ix 0 x = SD at *
  go_enter Tryz.func114, Tryz.ntmps114
  go_wp2_with fail
  refine HL2.out.mono ?_
  rintro e w1 ⟨rfl, hb1⟩
  have HP1 : Hid (PfM w1 w.heap.size (.slice none 0 0) (.slice none 0 0)) := HPN.out.later hb1
  have b1 : Below w.heap.size w w1 := hba.trans (hb1.mono hba.size)
  clear HL2 HPN hb1 hba
  go_wp2_with fail
  refine (HNK.out _).mono ?_
  rintro e w1' ⟨rfl, rfl⟩
  go_wp2_with fail
  refine (l01In_any _ _ _ _).mono ?_
  rintro e w1'' ⟨rfl, rfl⟩
  rw [d1]
  go_wp2_with fail
  refine (l01In_any _ _ _ _).mono ?_
  rintro e w2 ⟨rfl, rfl⟩
  rw [d2]
  go_wp2_with fail
  refine (HIX.out _).mono ?_
  rintro e w3 ⟨rfl, hb3⟩
  have HP3 := HP1.out.later hb3
  have b3 := b1.trans (hb3.mono b1.size)
  go_wp2_with fail
  refine (HBK.out _ b3).mono ?_
  rintro e w4 ⟨vb, rfl, ho4⟩
  have HP4 : Hid (PfM w4 w.heap.size (.slice none 0 0) (.slice none 0 0)) := HP3.later ho4.2.1
  have b4 := b3.trans (ho4.2.1.mono b3.size)
  have HG4 : Hid (w.heap.size < w3.heap.size) := HP3.lt
  obtain ⟨ab, cb, rfl⟩ := ho4.shape
  have HO4 : Hid (OL w3.heap.size w3 w4 (.slice ab BK.length cb) BK) := ho4
  clear ho4 hb3 HP1 HP3 b1 b3 HBK
  go_wp2_with fail
  refine (HIX.out _).mono ?_
  rintro e w5 ⟨rfl, hb5⟩
  have b5 := b4.trans (hb5.mono b4.size)
  have HP5 : Hid (PfM w5 w.heap.size (.slice none 0 0) (.slice none 0 0)) := HP4.out.later hb5
  have HO5 : Hid (OL w3.heap.size w3 w5 (.slice ab BK.length cb) BK) := HO4.out.later hb5
  clear HP4 HO4 HIX b4
  go_wp2_with fail
  refine (HSD.out _ b5).mono ?_
  rintro e w6 ⟨vs, rfl, ho6⟩
  have b6 := b5.trans (ho6.2.1.mono b5.size)
  have hp6 : PfM w6 w.heap.size (.slice none 0 0) (.slice none 0 0) := HP5.out.later ho6.2.1
  have HO6 : Hid (OL w3.heap.size w3 w6 (.slice ab BK.length cb) BK) := HO5.out.later ho6.2.1
  obtain ⟨aZ, cs, rfl⟩ := ho6.slice
  have HS6 : Hid (OS w5.heap.size w5 w6 (.slice aZ SD.length cs) SD ∧ w.heap.size < w5.heap.size) := ⟨ho6, HP5.out.lt⟩
  have hgr := grown_setRowP w6 w.heap.size #[.slice ab BK.length cb, .slice aZ SD.length cs]
  have HF : Hid (∃ vb vs gb gs, Ending.returned (.tuple #[.agg #[.slice ab BK.length cb, .slice aZ SD.length cs], .bool true]) = .returned (.tuple #[.agg #[vb, vs], .bool true]) ∧ RS 2 lcs (w6.setRow w.heap.size #[.slice ab BK.length cb, .slice aZ SD.length cs]) vb gb 0 BK ∧ SS (w6.setRow w.heap.size #[.slice ab BK.length cb, .slice aZ SD.length cs]) vs gs 0 SD ∧ Below w.heap.size w (w6.setRow w.heap.size #[.slice ab BK.length cb, .slice aZ SD.length cs])) := by
    obtain ⟨gb, hrw, hgb, _⟩ := HO6.out.rw HLL.out.1
    obtain ⟨gs, hts, hgs⟩ := HS6.out.1.ts HLL.out.2
    have l1 := HG4.out
    have l2 := HS6.out.2
    refine ⟨_, _, gb, gs, rfl, hrw.1.grown hgr (fun _ => by simp; omega), ?_, below_setRow b6 (Nat.le_refl _)⟩
    exact (hts.keptG hgr (fun _ => by simp; omega)).ss
  clear ho6 HO5 HO6 HP5 HS6 hb5 b5 b6 HSD HLL HG4 hgr
  go_wp2_with (refine wp_storePf rfl _ _ rfl w.heap.size _ _ (.slice ab BK.length cb) (.slice aZ SD.length cs) hp6 rfl rfl rfl rfl ?_; intro hfin)
  refine ret_pf2 8 9 w.heap.size _ _ _ rfl rfl rfl rfl hfin ?_
  exact HF.out

end Go.Proofs.YtmcejkfknbjjkaaGreatDoor
/-
  Plain facts of roots that differ: where two lists of leaves differ at a name, the texts of its bucket do; with one root the two proofs clash.
-/
namespace Go.Proofs.YtmcejkfknbjjkaaGreatDoor
open Go.RowKit
set_option linter.unusedVariables false
set_option linter.unusedSimpArgs false

theorem btB_inj {L M : List Le} (hL : LV.LOk L) (hM : LV.LOk M) (h0 : 0 < L.length) (h1 : 0 < M.length) (h : btB L = btB M) : L = M := by
  rw [btB_some h0, btB_some h1] at h
  unfold tagB at h
  rw [if_pos (bkp_ok hL), if_pos (bkp_ok hM)] at h
  have sz : ∀ {K : List Le}, LV.LOk K → ∀ y ∈ TR.bkp K, y.size ≤ 1000000000 := fun hK y hy => by
    obtain ⟨f, hf, hfy⟩ := bkp_mem hy
    have := leB_size (hK.2.1 f hf)
    rcases hfy with rfl | rfl <;> omega
  exact TR.bkp_inj (TR.tag_inj (k := 2) (k' := 2) (by omega) (by omega) (sz hL) (sz hM) h).2
theorem srt_one {L : List Le} (h : LV.Srt L) {f g : Le} (hf : f ∈ L) (hg : g ∈ L) (he : f.n = g.n) : f = g := by
  obtain ⟨i, hi, rfl⟩ := List.getElem_of_mem hf
  obtain ⟨j, hj, rfl⟩ := List.getElem_of_mem hg
  rcases Nat.lt_trichotomy i j with hij | hij | hij
  · exact absurd he (F.ltN_ne (LV.LOk.srt_at h i j hi hj hij))
  · subst hij
    rfl
  · exact absurd he.symm (F.ltN_ne (LV.LOk.srt_at h j i hj hi hij))
theorem bk_in {L : List Le} {f : Le} (hf : f ∈ L) : f ∈ bkL L (idxN f.n : Int) := by
  unfold bkL
  rw [List.mem_filter]
  exact ⟨hf, by unfold bkP; simp⟩
theorem bk_sub {L : List Le} {f : Le} {i : Int} (hf : f ∈ bkL L i) : f ∈ L ∧ (idxN f.n : Int) = i := by
  unfold bkL at hf
  rw [List.mem_filter] at hf
  exact ⟨hf.1, by simpa [bkP] using hf.2⟩
theorem ok_bk {L : List Le} (h : LV.LOk L) (i : Int) : LV.LOk (bkL L i) := ⟨Nat.le_trans (List.length_filter_le _ _) h.1, fun f hf => h.2.1 f (bk_sub hf).1, List.Pairwise.filter _ h.2.2⟩
theorem sd_size {L : List Le} {x : Int} (h : 1 ≤ x ∧ x ≤ 32) (hL : LV.LOk L) (ix : Nat) : ∀ n, ∀ s ∈ sdL x ix L n, s.size = x.toNat
  | 0, s, hs => by
    have := sdL_len x ix L 0
    rw [List.length_eq_zero_iff.1 this] at hs
    simp at hs
  | n + 1, s, hs => by
    rw [sdL_up] at hs
    rcases List.mem_append.1 hs with h1 | h1
    · exact sd_size h hL ix n s h1
    · simp at h1
      subst h1
      exact trB_size h hL n _
/-- the proof of a name is a proof -/
theorem pf_right {L : List Le} {x : Int} {nm : ByteArray} (hn : okB nameB nm = true) (h : 1 ≤ x ∧ x ≤ 32) (hL : LV.LOk L) : pfOk nm (bkL L (idxN nm)) (sdL x (idxN nm) L 8) x = true := by
  rw [pfOk_yes hn (LV.leavesB_iff.2 (ok_bk hL _)) (by rw [sdL_len]; omega) ?_]
  · rw [List.all_eq_true]
    intro f hf
    have := (bk_sub hf).2
    rw [decide_eq_true_eq]
    omega
  · rw [wideB_good fun j hj => ?_]
    · simpa using h
    · rw [sd_size h hL _ 8 _ (List.getElem_mem _)]
      omega
theorem idx_255 (t : ByteArray) : idxN t ≤ 255 := by
  have : idxN t < 256 := UInt8.toNat_lt _
  omega
theorem root_chain {L : List Le} {x : Int} (h : 1 ≤ x ∧ x ≤ 32) (hL : LV.LOk L) (ix : Nat) (hx : ix ≤ 255) : fuF x ix 8 (cutH (btB (bkL L ix)) x) (sdL x ix L 8) = trB x 8 0 L := by
  rw [← fold_root x ix hx L]
  congr 1
  show _ = bhB x (TR.und idxL 0 ix L)
  rw [bhB_yes (leaves_und hL 0 ix), bkL_und]
/-- **one root, another leaf: the two proofs clash** -/
theorem roots_clash {A B : List Le} {nm y z : ByteArray} {x : Int} (hn : okB nameB nm = true) (h : 1 ≤ x ∧ x ≤ 32) (hA : LV.LOk A) (hB : LV.LOk B) (ha : (⟨nm, y⟩ : Le) ∈ A) (hb : (⟨nm, z⟩ : Le) ∈ B) (hne : y ≠ z) (hr : trB x 8 0 A = trB x 8 0 B) :
    clF (chL (idxN nm) x (btB (bkL A (idxN nm))) (sdL x (idxN nm) A 8) 9) (chL (idxN nm) x (btB (bkL B (idxN nm))) (sdL x (idxN nm) B 8) 9) x 9 = true := by
  refine chains_clash (idx_255 nm) h (sdL_len _ _ _ _) (sdL_len _ _ _ _) (fun s hs => by rw [sd_size h hA _ 8 s hs]; omega) (fun s hs => by rw [sd_size h hB _ 8 s hs]; omega) (fun he => ?_) ?_
  · have ia := bk_in ha
    have ib := bk_in hb
    have e := btB_inj (ok_bk hA _) (ok_bk hB _) (List.length_pos_of_mem ia) (List.length_pos_of_mem ib) he
    rw [show bkL A ((idxN (⟨nm, y⟩ : Le).n : Nat) : Int) = bkL A (idxN nm) from rfl, e] at ia
    have := srt_one (ok_bk hB _).2.2 ia ib rfl
    simp at this
    exact hne this
  · rw [root_chain h hA _ (idx_255 nm), root_chain h hB _ (idx_255 nm), hr]

end Go.Proofs.YtmcejkfknbjjkaaGreatDoor
/-
  Proofs: whether a bucket is of one index, and when they are right: the program's answers.
-/
namespace Go.Proofs.YtmcejkfknbjjkaaGreatDoor
open Go.RowKit Go.BigFrame Go.Sort
set_option linter.unusedVariables false
set_option linter.unusedSimpArgs false

def allI (B : List Le) (i : Int) : Bool := B.all (bkP i)
theorem allI_len (B : List Le) (i : Int) : allI B i = decide (((bkL B i).length : Int) = (B.length : Int)) := by
  unfold allI bkL
  cases h : B.all (bkP i) with
  | true =>
    rw [List.filter_eq_self.2 (List.all_eq_true.1 h)]
    simp
  | false =>
    have : (B.filter (bkP i)).length ≠ B.length := fun e => by
      have h2 := List.length_filter_eq_length_iff.1 e
      rw [← List.all_eq_true, h] at h2
      cases h2
    exact (decide_eq_false (by omega)).symm
theorem allI_is (B : List Le) (nm : ByteArray) : allI B (idxN nm) = B.all (fun f => decide (idxN f.n = idxN nm)) := by
  unfold allI
  congr 1
  funext f
  unfold bkP
  by_cases h : idxN f.n = idxN nm
  · rw [decide_eq_true h, decide_eq_true (by omega)]
  · rw [decide_eq_false h, decide_eq_false (by omega)]

set_option maxRecDepth 100000 in
set_option maxHeartbeats 1000000 in
theorem allOfIndex_any (v : Value) (g o : Nat) (B : List Le) (i : Int) (w : World) (hv : RS 2 lcs w v g o B) (hsm : SmallL B) (hT : Tb w) :
    Calls Tryz.prog 67 #[v, .int .i64 i] w fun e w' => e = .returned (.bool (allI B i)) ∧ Below w.heap.size w w' := by
  have hR := allI_len B i
  have h1 := BucketOf_any v g o B i w hv hsm hT.1 hT.2
  generalize allI B i = R at *
  obtain ⟨a, cap, rfl, hl, hz1, hz2⟩ := hv
  clear hz1 hz2 hsm hT
  go_enter Tryz.func67, Tryz.ntmps67
  go_wp2_with fail
  refine h1.mono ?_
  rintro e w1 ⟨u, rfl, ho⟩
  obtain ⟨au, cu, rfl⟩ := ho.shape
  have hb := ho.2.1
  clear h1 ho
  generalize (bkL B i).length = p at *
  generalize B.length = q at *
  go_wp2
  go_ret
  refine ⟨?_, hb⟩
  rw [hR]
  by_cases h : (p : Int) = (q : Int)
  · simp [h]
  · simp [h]

set_option maxRecDepth 100000 in
set_option maxHeartbeats 1000000 in
theorem ProofOk_any (nm : ByteArray) (vb vs : Value) (gb ob gs os : Nat) (B : List Le) (S : List ByteArray) (x : Int) (w : World) (hnm : nm.size ≤ 1048576) (hb : RS 2 lcs w vb gb ob B) (hsm : SmallL B) (hs : SS w vs gs os S) (hT : Tb w) :
    Calls Tryz.prog 22 #[.string nm, .agg #[vb, vs], .int .i64 x] w fun e w' => e = .returned (.bool (pfOk nm B S x)) ∧ Below w.heap.size w w' := by
  obtain ⟨R, hR⟩ : ∃ R, pfOk nm B S x = R := ⟨_, rfl⟩
  have e0 : R = (okB nameB nm && LV.leavesB B && allI B (idxN nm) && sidB S x) := by
    rw [← hR, allI_is]
    unfold pfOk sidB
    cases okB nameB nm <;> cases LV.leavesB B <;> cases decide (S.length ≤ 8) <;> cases wideB S x <;> simp
  rw [hR]
  clear hR
  obtain ⟨p0, p1⟩ := run_rangeP (w := w) (p := 0) (v1 := vb) (v2 := vs) 43
  have hba : Below w.heap.size w (w.alloc (.cells #[vb, vs] 43)) := (Below.refl _ _).alloc (Nat.le_refl _) _
  have HBS : Hid (∀ W, Below w.heap.size w W → RS 2 lcs W vb gb ob B ∧ SS W vs gs os S ∧ Tb W) := fun W hW => ⟨hb.later hW, hs.below hW hs.lt, hT.later hW⟩
  have HPP : Hid (∀ W, Below (w.alloc (.cells #[vb, vs] 43)).heap.size (w.alloc (.cells #[vb, vs] 43)) W → W.cell? ⟨w.heap.size, 0, none⟩ = some vb ∧ W.cell? ⟨w.heap.size, 1, none⟩ = some vs ∧ Below w.heap.size w W) := fun W hW => ⟨cell_later p0 hW, cell_later p1 hW, hba.trans (hW.mono hba.size)⟩
  have hnk := NameOk_any nm (w.alloc (.cells #[vb, vs] 43)) hnm
  have HLO : Hid (∀ W, Below w.heap.size w W → Calls Tryz.prog 44 #[vb] W fun e w' => e = .returned (.bool (LV.leavesB B)) ∧ Below W.heap.size W w') := fun W hW => LeavesOk_any vb gb ob B W (HBS.out W hW).1 hsm
  have HIX : Hid (∀ W, Below w.heap.size w W → Calls Tryz.prog 38 #[.string nm] W fun e w' => e = .returned (.int .i64 (idxN nm : Int)) ∧ Below W.heap.size W w') := fun W hW => IndexOf_any nm W hnm (HBS.out W hW).2.2.1 (HBS.out W hW).2.2.2
  have HAI : Hid (∀ W, Below w.heap.size w W → Calls Tryz.prog 67 #[vb, .int .i64 (idxN nm : Int)] W fun e w' => e = .returned (.bool (allI B (idxN nm))) ∧ Below W.heap.size W w') := fun W hW => allOfIndex_any vb gb ob B _ W (HBS.out W hW).1 hsm (HBS.out W hW).2.2
  have HSD : Hid (∀ W, Below w.heap.size w W → Calls Tryz.prog 68 #[vs, .int .i64 x] W fun e w' => e = .returned (.bool (sidB S x)) ∧ Below W.heap.size W w') := fun W hW => (sidesOk_any vs gs os S x W (HBS.out W hW).2.1).mono fun e w' ⟨he, hw⟩ => ⟨he, by rw [hw]; exact Below.refl _ _⟩
  obtain ⟨ix, hix⟩ : ∃ ix : Int, (idxN nm : Int) = ix := ⟨_, rfl⟩
  rw [hix] at HIX HAI e0
  clear hb hs hsm hT HBS hix
  generalize allI B ix = A2 at *
  generalize LV.leavesB B = A1 at *
  generalize sidB S x = A3 at *
  have hnk2 : ∀ W, Calls Tryz.prog 66 #[.string nm] W fun e w' => e = .returned (.bool (okB nameB nm)) ∧ Below W.heap.size W w' := fun W => (NameOk_any nm W hnm).mono fun e w' ⟨he, hw⟩ => ⟨he, by rw [hw]; exact Below.refl _ _⟩
  have HNK : Hid (∀ W, Calls Tryz.prog 66 #[.string nm] W fun e w' => e = .returned (.bool (okB nameB nm)) ∧ Below W.heap.size W w') := hnk2
  have HUP : Hid (∀ d os, Below w.heap.size w (grow (redrawn (w.alloc (.cells #[vb, vs] 43)) d) os)) := fun d os => hba.trans ((below_regrown _ d os).mono hba.size)
  clear hnk hnk2 HPP
  generalize okB nameB nm = A0 at *
  have kq0 := cell_regrown (w := w.alloc (.cells #[vb, vs] 43)) p0
  have kq1 := cell_regrown (w := w.alloc (.cells #[vb, vs] 43)) p1
  have cq0 := fun d os => Calls.regrown_of (w := w.alloc (.cells #[vb, vs] 43)) (d := d) (os := os) (HNK.out _)
  have cq1 := fun d os => Calls.regrown_of (w := w.alloc (.cells #[vb, vs] 43)) (d := d) (os := os) (HLO.out _ (HUP.out d os))
  have cq2 := fun d os => Calls.regrown_of (w := w.alloc (.cells #[vb, vs] 43)) (d := d) (os := os) (HIX.out _ (HUP.out d os))
  have cq3 := fun d os => Calls.regrown_of (w := w.alloc (.cells #[vb, vs] 43)) (d := d) (os := os) (HAI.out _ (HUP.out d os))
  have cq4 := fun d os => Calls.regrown_of (w := w.alloc (.cells #[vb, vs] 43)) (d := d) (os := os) (HSD.out _ (HUP.out d os))
  clear HNK HLO HIX HAI HSD HUP
  cases A0 with
  | false =>
    obtain rfl : R = false := by rw [e0]; rfl
    clear e0
    go_enter Tryz.func22, Tryz.ntmps22
    go_wp2
    refine wp_region_quiet_below (by kernel_rfl) (by kernel_rfl) ?_
    repeat (go_big_quiet_step (first | with_reducible exact cq0 _ _ | with_reducible exact cq1 _ _ | with_reducible exact cq2 _ _ | with_reducible exact cq3 _ _ | with_reducible exact cq4 _ _))
    refine wpQuiet_nil ?_
    rintro _ ⟨⟨dq, osq⟩, rfl⟩
    have hb6 := below_regrown (w.alloc (.cells #[vb, vs] 43)) dq osq
    generalize grow (redrawn (w.alloc (.cells #[vb, vs] 43)) dq) osq = w6 at *
    clear kq0 kq1 cq0 cq1 cq2 cq3 cq4
    go_wp2
    go_ret
    exact ⟨rfl, hba.trans (hb6.mono hba.size)⟩
  | true =>
    cases A1 with
    | false =>
      obtain rfl : R = false := by rw [e0]; rfl
      clear e0
      go_enter Tryz.func22, Tryz.ntmps22
      go_wp2
      refine wp_region_quiet_below (by kernel_rfl) (by kernel_rfl) ?_
      repeat (go_big_quiet_step (first | with_reducible exact cq0 _ _ | with_reducible exact cq1 _ _ | with_reducible exact cq2 _ _ | with_reducible exact cq3 _ _ | with_reducible exact cq4 _ _))
      refine wpQuiet_nil ?_
      rintro _ ⟨⟨dq, osq⟩, rfl⟩
      have hb6 := below_regrown (w.alloc (.cells #[vb, vs] 43)) dq osq
      generalize grow (redrawn (w.alloc (.cells #[vb, vs] 43)) dq) osq = w6 at *
      clear kq0 kq1 cq0 cq1 cq2 cq3 cq4
      go_wp2
      go_ret
      exact ⟨rfl, hba.trans (hb6.mono hba.size)⟩
    | true =>
      cases A2 with
      | false =>
        obtain rfl : R = false := by rw [e0]; rfl
        clear e0
        go_enter Tryz.func22, Tryz.ntmps22
        go_wp2
        refine wp_region_quiet_below (by kernel_rfl) (by kernel_rfl) ?_
        repeat (go_big_quiet_step (first | with_reducible exact cq0 _ _ | with_reducible exact cq1 _ _ | with_reducible exact cq2 _ _ | with_reducible exact cq3 _ _ | with_reducible exact cq4 _ _))
        refine wpQuiet_nil ?_
        rintro _ ⟨⟨dq, osq⟩, rfl⟩
        have hb6 := below_regrown (w.alloc (.cells #[vb, vs] 43)) dq osq
        generalize grow (redrawn (w.alloc (.cells #[vb, vs] 43)) dq) osq = w6 at *
        clear kq0 kq1 cq0 cq1 cq2 cq3 cq4
        go_wp2
        go_ret
        exact ⟨rfl, hba.trans (hb6.mono hba.size)⟩
      | true =>
        obtain rfl : R = A3 := by rw [e0]; rfl
        clear e0
        go_enter Tryz.func22, Tryz.ntmps22
        go_wp2
        refine wp_region_quiet_below (by kernel_rfl) (by kernel_rfl) ?_
        repeat (go_big_quiet_step (first | with_reducible exact cq0 _ _ | with_reducible exact cq1 _ _ | with_reducible exact cq2 _ _ | with_reducible exact cq3 _ _ | with_reducible exact cq4 _ _))
        refine wpQuiet_nil ?_
        rintro _ ⟨⟨dq, osq⟩, rfl⟩
        have hb6 := below_regrown (w.alloc (.cells #[vb, vs] 43)) dq osq
        generalize grow (redrawn (w.alloc (.cells #[vb, vs] 43)) dq) osq = w6 at *
        clear kq0 kq1 cq0 cq1 cq2 cq3 cq4
        go_wp2
        go_ret
        exact ⟨rfl, hba.trans (hb6.mono hba.size)⟩

end Go.Proofs.YtmcejkfknbjjkaaGreatDoor
/-
  The chain of texts of a proof: the program's answer.
-/
namespace Go.Proofs.YtmcejkfknbjjkaaGreatDoor
open Go.RowKit Go.BigFrame Go.Sort
set_option linter.unusedVariables false
set_option linter.unusedSimpArgs false

def PiR (w0 : World) (B : Nat) (ix : Int) (x : Int) (t0 : ByteArray) (S : List ByteArray) (t u i : Value) (wr : World) : Prop := ∃ m : Nat, m ≤ S.length ∧ i = .int .i64 m ∧ t = .string (chT ix x t0 S m) ∧ ∃ g cap, u = .slice (some ⟨g, 0, none⟩) (m + 1) cap ∧ Hid (OS B w0 wr u (chL ix x t0 S (m + 1)))

set_option maxRecDepth 100000 in
set_option maxHeartbeats 1000000 in
theorem ProofTexts_yes (nm : ByteArray) (vb vs : Value) (gb ob gs os : Nat) (B : List Le) (S : List ByteArray) (x : Int) (w : World) (hnm : nm.size ≤ 1048576) (hb : RS 2 lcs w vb gb ob B) (hsm : SmallL B) (hs : SS w vs gs os S) (hT : Tb w) (hok : pfOk nm B S x = true) :
    Calls Tryz.prog 27 #[.string nm, .agg #[vb, vs], .int .i64 x] w fun e w' => ∃ v, e = .returned v ∧ OS w.heap.size w w' v (chL (idxN nm) x (btB B) S (S.length + 1)) := by
  obtain ⟨p0, p1⟩ := run_rangeP (w := w) (p := 0) (v1 := vb) (v2 := vs) 43
  have hba : Below w.heap.size w (w.alloc (.cells #[vb, vs] 43)) := (Below.refl _ _).alloc (Nat.le_refl _) _
  have HBS : Hid (∀ W, Below w.heap.size w W → RS 2 lcs W vb gb ob B ∧ SS W vs gs os S ∧ Tb W) := fun W hW => ⟨hb.later hW, hs.below hW hs.lt, hT.later hW⟩
  have h8 : S.length ≤ 8 := by
    unfold pfOk at hok
    simp only [Bool.and_eq_true, decide_eq_true_eq] at hok
    exact hok.1.1.2
  have hlv : LV.leavesB B = true := by
    unfold pfOk at hok
    simp only [Bool.and_eq_true, decide_eq_true_eq] at hok
    exact hok.1.1.1.2
  have HPP : Hid (∀ W, Below (w.alloc (.cells #[vb, vs] 43)).heap.size (w.alloc (.cells #[vb, vs] 43)) W → W.cell? ⟨w.heap.size, 0, none⟩ = some vb ∧ W.cell? ⟨w.heap.size, 1, none⟩ = some vs ∧ Below w.heap.size w W ∧ w.heap.size + 1 ≤ W.heap.size) := fun W hW => ⟨cell_later p0 hW, cell_later p1 hW, hba.trans (hW.mono hba.size), by have := hW.size; simpa using this⟩
  have hpo := ProofOk_any nm vb vs gb ob gs os B S x _ hnm (HBS.out _ hba).1 hsm (HBS.out _ hba).2.1 (HBS.out _ hba).2.2
  rw [hok] at hpo
  have HBT : Hid (∀ W, Below w.heap.size w W → Calls Tryz.prog 74 #[vb] W fun e w' => e = .returned (.tuple #[.string (btB B), .bool true]) ∧ Below W.heap.size W w') := fun W hW => by
    have h := BucketText_any vb gb ob B W (HBS.out W hW).1 hsm
    rw [hlv, btA_yes hlv] at h
    exact h
  have HIX : Hid (∀ W, Below w.heap.size w W → Calls Tryz.prog 38 #[.string nm] W fun e w' => e = .returned (.int .i64 (idxN nm : Int)) ∧ Below W.heap.size W w') := fun W hW => IndexOf_any nm W hnm (HBS.out W hW).2.2.1 (HBS.out W hW).2.2.2
  have ht0 := btB_size B
  have HBI : Hid (∀ m, m ≤ 7 → bitI (idxN nm : Int) (7 - m) = 0 ∨ bitI (idxN nm : Int) (7 - m) = 1) := fun m hm => bit_01 _ m hm (idx_255 nm)
  obtain ⟨nS, hnS⟩ : ∃ nS, S.length = nS := ⟨_, rfl⟩
  have HNS : Hid (S.length = nS) := hnS
  obtain ⟨aS, cS, rfl, _, hAs, _⟩ := hs
  have HAS : Hid (0 < nS → aS = some ⟨gs, os, none⟩) := by rw [← hnS]; exact hAs
  rw [hnS] at h8 hpo HBS HPP p0 p1 hba ⊢
  clear hb hok hsm hlv hAs hnS hT
  generalize btB B = t0 at *
  obtain ⟨ix, hix⟩ : ∃ ix : Int, (idxN nm : Int) = ix := ⟨_, rfl⟩
  rw [hix] at HIX HBI ⊢
  clear hix
  go_enter Tryz.func27, Tryz.ntmps27
  go_wp2_with fail
  refine hpo.mono ?_
  rintro e w1 ⟨rfl, hb1⟩
  clear hpo
  obtain ⟨k0, k1, b1, _⟩ := HPP.out _ hb1
  go_wp2_with fail
  refine (HBT.out _ b1).mono ?_
  rintro e w2 ⟨rfl, hb2⟩
  have hb12 := hb1.trans (hb2.mono hb1.size)
  obtain ⟨j0, j1, b2, _⟩ := HPP.out _ hb12
  have ho0 := OS.lit w2 t0
  have b2a : Below w.heap.size w (w2.alloc (.cells #[.string t0] 9)) := b2.alloc b2.size _
  have hb2a : Below w2.heap.size w2 (w2.alloc (.cells #[.string t0] 9)) := (Below.refl _ _).alloc (Nat.le_refl _) _
  clear hb1 hb2 HBT k0 k1
  go_wp2_with fail
  refine (HIX.out _ b2a).mono ?_
  rintro e w3 ⟨rfl, hb3⟩
  have hb23 := hb2a.trans (hb3.mono hb2a.size)
  have hb13 := hb12.trans (hb23.mono hb12.size)
  obtain ⟨l0, l1, b3, _⟩ := HPP.out _ hb13
  have HST : Hid (PiR w2 w2.heap.size ix x t0 S (.string t0) (.slice (some ⟨w2.heap.size, 0, none⟩) 1 1) (.int .i64 0) w3) := ⟨0, by omega, rfl, rfl, _, _, rfl, ho0.later hb3⟩
  have HKK : Hid (∀ W, Below w2.heap.size w2 W → W.cell? ⟨w.heap.size, 0, none⟩ = some vb ∧ W.cell? ⟨w.heap.size, 1, none⟩ = some (.slice aS nS cS)) := fun W hW => ⟨cell_later j0 hW, cell_later j1 hW⟩
  have HB2 : Hid (Below w.heap.size w w2) := b2
  clear hb12 hb3 hb13 j0 j1 HPP p0 p1 b2 hba b1 b2a ho0 HIX hb23 hb2a b3
  go_wp2
  go_loopw [7, 9, 34] (fun t u i wr => PiR w2 w2.heap.size ix x t0 S t u i wr) (fun _ _ i _ => nS - (intOf i).toNat)
  case atStart => exact HST.out
  case round =>
    obtain ⟨m, hm, rfl, rfl, g, cap, rfl, HI⟩ := hrel
    clear HST
    rw [HNS.out] at hm
    have HBW : Hid (Below w2.heap.size w2 wr) := HI.out.2.1
    by_cases hlt : m < nS
    · have ea := HAS.out (by omega)
      subst ea
      have hmS : m < S.length := by rw [HNS.out]; exact hlt
      have c0 : wr.cell? ⟨gs, os + m, none⟩ = some (.string (S.getD m ⟨#[]⟩)) := by
        obtain ⟨_, _, _, _, _, h6⟩ := (HBS.out wr (HB2.out.trans (HBW.out.mono HB2.out.size))).2.1
        have := h6 m hmS
        rw [show S[m] = S.getD m ⟨#[]⟩ by simp [List.getElem?_eq_getElem hmS]] at this
        exact this
      have hTr : Tb wr := (HBS.out wr (HB2.out.trans (HBW.out.mono HB2.out.size))).2.2
      have hTs := chT_size ix x t0 S ht0 m
      have hZ : chT ix x t0 S (m + 1) = tagB 3 (if bitI ix (7 - m) = 1 then [S.getD m ⟨#[]⟩, cutH (chT ix x t0 S m) x] else [cutH (chT ix x t0 S m) x, S.getD m ⟨#[]⟩]) := rfl
      have hL := chL_succ ix x t0 S (m + 1)
      have hLl := chL_len ix x t0 S (m + 1)
      have HNX0 : Hid (∀ g6 cap6 w6, OS w2.heap.size w2 w6 (.slice (some ⟨g6, 0, none⟩) (m + 1 + 1) cap6) (chL ix x t0 S (m + 1) ++ [chT ix x t0 S (m + 1)]) → PiR w2 w2.heap.size ix x t0 S (.string (chT ix x t0 S (m + 1))) (.slice (some ⟨g6, 0, none⟩) (m + 1 + 1) cap6) (.int .i64 ((m : Int) + 1)) w6) := fun g6 cap6 w6 h => ⟨m + 1, by omega, by congr 1, rfl, g6, cap6, rfl, by rw [hL]; exact h⟩
      rw [hZ] at HNX0
      clear hZ hL
      generalize chT ix x t0 S m = T at *
      generalize S.getD m ⟨#[]⟩ = Y at *
      generalize chL ix x t0 S (m + 1) = L at *
      have HNX1 : Hid _ := HNX0.out
      clear HNX0
      have i1 : (m : Int) < (nS : Int) := by omega
      have i2 : (0 : Int) ≤ (m : Int) := by omega
      have i4 : ((7 : Int) - (m : Int)).toNat = 7 - m := by omega
      have HBO : Hid (∀ W, Calls Tryz.prog 77 #[.int .i64 ix, .int .i64 ((7 : Int) - (m : Int))] W fun e w' => e = .returned (.int .i64 (bitI ix (7 - m))) ∧ w' = W) := fun W => by
        have h := BitOf_at ix ((7 : Int) - (m : Int)) W ⟨by omega, by omega⟩
        rw [i4] at h
        exact h
      have hb01 := HBI.out m (by omega)
      have hcd := CutDigest_any T x wr (by omega) hTr.1 hTr.2
      generalize cutH T x = D at *
      clear HAS i4 hTr HBI
      go_wp2_with fail
      refine hcd.mono ?_
      rintro e w4 ⟨rfl, hb4⟩
      have HO4 : Hid (OS w2.heap.size w2 w4 (.slice (some ⟨g, 0, none⟩) (m + 1) cap) L) := HI.out.later hb4
      clear hcd c0 HI hb4 HBW
      have HT1 : Hid (∀ W, Calls Tryz.prog 78 #[.int .i64 3, .slice (some ⟨W.heap.size, 0, none⟩) 2 2] (W.alloc (.cells #[.string D, .string Y] 9)) fun e w' => e = .returned (.tuple #[.string (tagB 3 [D, Y]), .bool (tagOk 3 [D, Y])]) ∧ Below W.heap.size W w') := fun W => (tagged_any 3 _ W.heap.size 0 [D, Y] _ (ss_lits W [D, Y] _ 2 rfl (by omega) rfl)).mono fun e w' ⟨he, hb⟩ => ⟨he, ((Below.refl _ _).alloc (Nat.le_refl _) _).trans (hb.mono (by simp))⟩
      have HT2 : Hid (∀ W, Calls Tryz.prog 78 #[.int .i64 3, .slice (some ⟨W.heap.size, 0, none⟩) 2 2] (W.alloc (.cells #[.string Y, .string D] 9)) fun e w' => e = .returned (.tuple #[.string (tagB 3 [Y, D]), .bool (tagOk 3 [Y, D])]) ∧ Below W.heap.size W w') := fun W => (tagged_any 3 _ W.heap.size 0 [Y, D] _ (ss_lits W [Y, D] _ 2 rfl (by omega) rfl)).mono fun e w' ⟨he, hb⟩ => ⟨he, ((Below.refl _ _).alloc (Nat.le_refl _) _).trans (hb.mono (by simp))⟩
      generalize tagOk 3 [D, Y] = R1 at *
      generalize tagOk 3 [Y, D] = R2 at *
      generalize bitI ix (7 - m) = b at *
      go_wp2_with fail
      refine (HBO.out _).mono ?_
      rintro e w4' ⟨rfl, rfl⟩
      clear HBO
      by_cases hb : b = 1
      · rw [if_pos hb] at HNX1
        subst hb
        clear hb01 HT1
        generalize tagB 3 [Y, D] = Z at *
        go_wp2_with fail
        refine (inOrder_1 _ _ _ _ (by decide)).mono ?_
        rintro e w4'' ⟨rfl, rfl⟩
        go_wp2_with fail
        refine (HT2.out _).mono ?_
        rintro e w5 ⟨rfl, hb5⟩
        have HO5 : Hid (OS w2.heap.size w2 (w5.alloc (.cells #[.string Z] 9)) (.slice (some ⟨g, 0, none⟩) (m + 1) cap) L) := (HO4.out.later hb5).alloc _
        have HCT : Hid ((w5.alloc (.cells #[.string Z] 9)).cell? ⟨w5.heap.size, 0, none⟩ = some (.string Z)) := by
          show (w5.alloc (.cells #[.string Z] 9)).cell? ⟨w5.heap.size, 0, none⟩ = some (.string Z)
          rw [World.cell?_alloc_at _ _ _ _ rfl]
          rfl
        clear HT2 HO4 hb5
        go_wp2_with (at_builtin; refine wp_txtL rfl _ _ rfl w2.heap.size w2 _ L Z rfl HO5.out _ rfl HCT.out (by omega) ?_)
        intro g6 cap6 w6 ho6 hg6 hl6
        have HK : Hid (PiR w2 w2.heap.size ix x t0 S (.string Z) (.slice (some ⟨g6, 0, none⟩) (m + 1 + 1) cap6) (.int .i64 ((m : Int) + 1)) w6) := HNX1.out _ _ _ ho6
        clear ho6 hg6 hl6 HO5 HCT HNX1
        go_wp2
        go_roundw
        case rel => exact HK.out
        case measure => simp [intOf]; omega
      · rw [if_neg hb] at HNX1
        obtain rfl : b = 0 := by omega
        clear hb01 HT2 hb
        generalize tagB 3 [D, Y] = Z at *
        go_wp2_with fail
        refine (inOrder_0 _ _ _).mono ?_
        rintro e w4'' ⟨rfl, rfl⟩
        go_wp2_with fail
        refine (HT1.out _).mono ?_
        rintro e w5 ⟨rfl, hb5⟩
        have HO5 : Hid (OS w2.heap.size w2 (w5.alloc (.cells #[.string Z] 9)) (.slice (some ⟨g, 0, none⟩) (m + 1) cap) L) := (HO4.out.later hb5).alloc _
        have HCT : Hid ((w5.alloc (.cells #[.string Z] 9)).cell? ⟨w5.heap.size, 0, none⟩ = some (.string Z)) := by
          show (w5.alloc (.cells #[.string Z] 9)).cell? ⟨w5.heap.size, 0, none⟩ = some (.string Z)
          rw [World.cell?_alloc_at _ _ _ _ rfl]
          rfl
        clear HT1 HO4 hb5
        go_wp2_with (at_builtin; refine wp_txtL rfl _ _ rfl w2.heap.size w2 _ L Z rfl HO5.out _ rfl HCT.out (by omega) ?_)
        intro g6 cap6 w6 ho6 hg6 hl6
        have HK : Hid (PiR w2 w2.heap.size ix x t0 S (.string Z) (.slice (some ⟨g6, 0, none⟩) (m + 1 + 1) cap6) (.int .i64 ((m : Int) + 1)) w6) := HNX1.out _ _ _ ho6
        clear ho6 hg6 hl6 HO5 HCT HNX1
        go_wp2
        go_roundw
        case rel => exact HK.out
        case measure => simp [intOf]; omega
    · have hme : m = nS := by omega
      subst hme
      have HF : Hid (∃ v, Ending.returned (.slice (some ⟨g, 0, none⟩) (m + 1) cap) = .returned v ∧ OS w.heap.size w wr v (chL ix x t0 S (m + 1))) := ⟨_, rfl, OS.upT HB2.out HB2.out.size HI.out⟩
      clear HI HBW HKK HBS HAS
      go_wp2
      go_ret
      exact HF.out

set_option maxRecDepth 100000 in
theorem ProofTexts_no (nm : ByteArray) (vb vs : Value) (gb ob gs os : Nat) (B : List Le) (S : List ByteArray) (x : Int) (w : World) (hnm : nm.size ≤ 1048576) (hb : RS 2 lcs w vb gb ob B) (hsm : SmallL B) (hs : SS w vs gs os S) (hT : Tb w) (hok : pfOk nm B S x = false) :
    Calls Tryz.prog 27 #[.string nm, .agg #[vb, vs], .int .i64 x] w fun e w' => ∃ v, e = .returned v ∧ OS w.heap.size w w' v [] := by
  obtain ⟨p0, p1⟩ := run_rangeP (w := w) (p := 0) (v1 := vb) (v2 := vs) 43
  have hba : Below w.heap.size w (w.alloc (.cells #[vb, vs] 43)) := (Below.refl _ _).alloc (Nat.le_refl _) _
  have hpo := ProofOk_any nm vb vs gb ob gs os B S x _ hnm (hb.later hba) hsm (hs.below hba hs.lt) (hT.later hba)
  rw [hok] at hpo
  clear hb hs hok hsm hT
  go_enter Tryz.func27, Tryz.ntmps27
  go_wp2_with fail
  refine hpo.mono ?_
  rintro e w1 ⟨rfl, hb1⟩
  have b1 : Below w.heap.size w w1 := hba.trans (hb1.mono hba.size)
  have HF : Hid (∃ v, Ending.returned (.slice (some ⟨w1.heap.size, 0, none⟩) 0 0) = .returned v ∧ OS w.heap.size w (w1.alloc (.cells #[] 9)) v []) := ⟨_, rfl, OS.upT b1 b1.size (OS.made w1)⟩
  clear hpo p0 p1 hba hb1 b1
  go_wp2
  go_ret
  exact HF.out

theorem ProofTexts_any (nm : ByteArray) (vb vs : Value) (gb ob gs os : Nat) (B : List Le) (S : List ByteArray) (x : Int) (w : World) (hnm : nm.size ≤ 1048576) (hb : RS 2 lcs w vb gb ob B) (hsm : SmallL B) (hs : SS w vs gs os S) (hT : Tb w) :
    Calls Tryz.prog 27 #[.string nm, .agg #[vb, vs], .int .i64 x] w fun e w' => ∃ v, e = .returned v ∧ OS w.heap.size w w' v (ptA nm B S x) := by
  unfold ptA
  cases h : pfOk nm B S x with
  | false => exact ProofTexts_no nm vb vs gb ob gs os B S x w hnm hb hsm hs hT h
  | true => exact ProofTexts_yes nm vb vs gb ob gs os B S x w hnm hb hsm hs hT h

end Go.Proofs.YtmcejkfknbjjkaaGreatDoor
/-
  What a proof says: the program's and the specification's answers.
-/
namespace Go.Proofs.YtmcejkfknbjjkaaGreatDoor
open Go.RowKit Go.BigFrame Go.Sort
set_option linter.unusedVariables false
set_option linter.unusedSimpArgs false

set_option maxRecDepth 100000 in
set_option maxHeartbeats 1000000 in
theorem ProofSays_any (nm : ByteArray) (vb vs : Value) (gb ob : Nat) (B : List Le) (w : World) (hb : RS 2 lcs w vb gb ob B) (hsm : SmallL B) :
    Calls Tryz.prog 116 #[.string nm, .agg #[vb, vs]] w fun e w' => e = .returned (.tuple #[.string (LV.getV B nm), .bool (LV.getB B nm)]) ∧ Below w.heap.size w w' := by
  obtain ⟨p0, p1⟩ := run_rangeP (w := w) (p := 0) (v1 := vb) (v2 := vs) 43
  have hba : Below w.heap.size w (w.alloc (.cells #[vb, vs] 43)) := (Below.refl _ _).alloc (Nat.le_refl _) _
  have h1 := LeafGet_any vb gb ob B nm _ (hb.later hba) hsm
  clear hb hsm
  go_enter Tryz.func116, Tryz.ntmps116
  go_wp2_with fail
  refine h1.mono ?_
  rintro e w1 ⟨rfl, hb1⟩
  go_wp2
  go_ret2
  exact ⟨rfl, hba.trans (hb1.mono hba.size)⟩
set_option maxRecDepth 100000 in
set_option maxHeartbeats 1000000 in
theorem sProofSays_any (nm : ByteArray) (vb vs : Value) (gb ob : Nat) (B : List Le) (w : World) (hb : RS 2 lcs w vb gb ob B) :
    Calls Tryz.prog 65 #[.string nm, .agg #[vb, vs]] w fun e w' => e = .returned (.tuple #[.string (LV.getV B nm), .bool (LV.getB B nm)]) ∧ Below w.heap.size w w' := by
  obtain ⟨p0, p1⟩ := run_rangeP (w := w) (p := 0) (v1 := vb) (v2 := vs) 43
  have hba : Below w.heap.size w (w.alloc (.cells #[vb, vs] 43)) := (Below.refl _ _).alloc (Nat.le_refl _) _
  have h1 := sLeafGet_any vb gb ob B nm _ (hb.later hba)
  clear hb
  go_enter Tryz.func65, Tryz.ntmps65
  go_wp2_with fail
  refine h1.mono ?_
  rintro e w1 ⟨rfl, hb1⟩
  go_wp2
  go_ret2
  exact ⟨rfl, hba.trans (hb1.mono hba.size)⟩

end Go.Proofs.YtmcejkfknbjjkaaGreatDoor
/-
  The hash of a proof: the program's and the specification's answers.
-/
namespace Go.Proofs.YtmcejkfknbjjkaaGreatDoor
open Go.RowKit Go.BigFrame Go.Sort
set_option linter.unusedVariables false
set_option linter.unusedSimpArgs false

/-- the digest of the last of these texts -/
def lastH (l : List ByteArray) (x : Int) : ByteArray := if l.length = 0 then ⟨#[]⟩ else cutH (l.getD (l.length - 1) ⟨#[]⟩) x
theorem lastH_none (x : Int) : lastH [] x = ⟨#[]⟩ := rfl
theorem lastH_at {l : List ByteArray} {k : Nat} (h : l.length = k + 1) (x : Int) : lastH l x = cutH (l[k]'(by omega)) x := by
  unfold lastH
  have e : l.getD (l.length - 1) ⟨#[]⟩ = l[k]'(by omega) := by
    have e1 : l.length - 1 = k := by omega
    rw [e1, List.getD_eq_getElem?_getD, List.getElem?_eq_getElem (show k < l.length by omega), Option.getD_some]
  rw [if_neg (by omega), e]

set_option maxRecDepth 100000 in
set_option maxHeartbeats 1000000 in
theorem hashOfLast_any (v : Value) (g o : Nat) (l : List ByteArray) (x : Int) (w : World) (hv : SS w v g o l) (hsz : ∀ t ∈ l, t.size ≤ 1048576) (hT : Tb w) :
    Calls Tryz.prog 62 #[v, .int .i64 x] w fun e w' => e = .returned (.string (lastH l x)) ∧ Below w.heap.size w w' := by
  obtain ⟨a, cap, rfl, hl, hA, hc⟩ := hv
  obtain ⟨n, hn⟩ : ∃ n, l.length = n := ⟨_, rfl⟩
  rw [hn]
  cases n with
  | zero =>
    obtain rfl : l = [] := List.length_eq_zero_iff.1 hn
    rw [lastH_none]
    clear hA hc hsz hn hT
    go_enter Tryz.func62, Tryz.ntmps62
    go_wp2
    go_ret
    exact ⟨rfl, Below.refl _ _⟩
  | succ k =>
    have ea := hA (by omega)
    subst ea
    have c0 := hc k (by omega)
    rw [lastH_at hn]
    have hd := CutDigest_any (l[k]'(by omega)) x w (hsz _ (List.getElem_mem _)) hT.1 hT.2
    generalize l[k]'(by omega) = X at *
    generalize cutH X x = D at *
    have q0 : (((k + 1 : Nat) : Int) == 0) = false := by simp; omega
    have e1 : (((k + 1 : Nat) : Int) - 1) = (k : Int) := by omega
    have i1 : (k : Int) < ((k + 1 : Nat) : Int) := by omega
    have i2 : (0 : Int) ≤ (k : Int) := by omega
    have hk : k ≤ 1100000 := by omega
    clear hA hc hsz hn hT
    go_enter Tryz.func62, Tryz.ntmps62
    go_wp2_with fail
    refine hd.mono ?_
    rintro e w1 ⟨rfl, hb1⟩
    go_wp2
    go_ret
    exact ⟨rfl, hb1⟩

/-- what ProofHash is -/
noncomputable def phA (nm : ByteArray) (B : List Le) (S : List ByteArray) (x : Int) : ByteArray := lastH (ptA nm B S x) x
theorem ptA_size {nm : ByteArray} {B : List Le} {S : List ByteArray} {x : Int} : ∀ t ∈ ptA nm B S x, t.size ≤ 12601 := by
  unfold ptA
  split
  · intro t ht
    obtain ⟨j, hj, rfl⟩ := List.getElem_of_mem ht
    rw [chL_at]
    exact chT_size _ _ _ _ (btB_size B) j
  · intro t ht
    cases ht
theorem ptA_len (nm : ByteArray) (B : List Le) (S : List ByteArray) (x : Int) : (ptA nm B S x).length ≤ 9 := by
  unfold ptA
  split
  · rename_i h
    rw [chL_len]
    unfold pfOk at h
    simp only [Bool.and_eq_true, decide_eq_true_eq] at h
    have := h.1.1.2
    omega
  · simp

set_option maxRecDepth 100000 in
set_option maxHeartbeats 1000000 in
theorem ProofHash_any (nm : ByteArray) (vb vs : Value) (gb ob gs os : Nat) (B : List Le) (S : List ByteArray) (x : Int) (w : World) (hnm : nm.size ≤ 1048576) (hb : RS 2 lcs w vb gb ob B) (hsm : SmallL B) (hs : SS w vs gs os S) (hT : Tb w) :
    Calls Tryz.prog 24 #[.string nm, .agg #[vb, vs], .int .i64 x] w fun e w' => e = .returned (.string (phA nm B S x)) ∧ Below w.heap.size w w' := by
  obtain ⟨p0, p1⟩ := run_rangeP (w := w) (p := 0) (v1 := vb) (v2 := vs) 43
  have hba : Below w.heap.size w (w.alloc (.cells #[vb, vs] 43)) := (Below.refl _ _).alloc (Nat.le_refl _) _
  have hpt := ProofTexts_any nm vb vs gb ob gs os B S x _ hnm (hb.later hba) hsm (hs.below hba hs.lt) (hT.later hba)
  have HH : Hid (∀ W v g, Below w.heap.size w W → SS W v g 0 (ptA nm B S x) → Calls Tryz.prog 62 #[v, .int .i64 x] W fun e w' => e = .returned (.string (phA nm B S x)) ∧ Below W.heap.size W w') := fun W v g hW h => hashOfLast_any v g 0 _ x W h (fun t ht => by have := ptA_size t ht; omega) (hT.later hW)
  have hlen := ptA_len nm B S x
  generalize phA nm B S x = H at *
  generalize ptA nm B S x = L at *
  clear hb hs hsm hT
  go_enter Tryz.func24, Tryz.ntmps24
  go_wp2_with fail
  refine hpt.mono ?_
  rintro e w1 ⟨v, rfl, ho⟩
  obtain ⟨g, hss⟩ := ho.ss (by omega)
  have b1 := hba.trans (ho.2.1.mono hba.size)
  have hh := HH.out w1 v g b1 hss
  clear hpt ho hss HH p0 p1
  go_wp2_with fail
  refine hh.mono ?_
  rintro e w2 ⟨rfl, hb2⟩
  go_wp2
  go_ret
  exact ⟨rfl, b1.trans (hb2.mono b1.size)⟩

set_option maxRecDepth 100000 in
set_option maxHeartbeats 1000000 in
theorem sProofHash_any (nm : ByteArray) (vb vs : Value) (gb ob gs os : Nat) (B : List Le) (S : List ByteArray) (x : Int) (w : World) (hnm : nm.size ≤ 1048576) (hb : RS 2 lcs w vb gb ob B) (hsm : SmallL B) (hs : SS w vs gs os S) :
    Calls Tryz.prog 25 #[.string nm, .agg #[vb, vs], .int .i64 x] w fun e w' => e = .returned (.string (phA nm B S x)) ∧ Below w.heap.size w w' := by
  obtain ⟨p0, p1⟩ := run_rangeP (w := w) (p := 0) (v1 := vb) (v2 := vs) 43
  have hba : Below w.heap.size w (w.alloc (.cells #[vb, vs] 43)) := (Below.refl _ _).alloc (Nat.le_refl _) _
  have hpt := sProofTexts_any nm vb vs gb ob gs os B S x _ hnm (hb.later hba) hsm (hs.below hba hs.lt)
  have hlen := ptA_len nm B S x
  have hsz := ptA_size (nm := nm) (B := B) (S := S) (x := x)
  unfold phA
  generalize ptA nm B S x = L at *
  clear hb hs hsm
  obtain ⟨n, hn⟩ : ∃ n, L.length = n := ⟨_, rfl⟩
  cases n with
  | zero =>
    obtain rfl : L = [] := List.length_eq_zero_iff.1 hn
    rw [lastH_none]
    go_enter Tryz.func25, Tryz.ntmps25
    go_wp2_with fail
    refine hpt.mono ?_
    rintro e w1 ⟨v, rfl, ho⟩
    obtain ⟨az, cz, rfl⟩ := ho.slice
    have b1 := hba.trans (ho.2.1.mono hba.size)
    clear hpt ho p0 p1 hsz
    go_wp2
    go_ret
    exact ⟨rfl, b1⟩
  | succ k =>
    rw [lastH_at hn]
    have hX := hsz (L[k]'(by omega)) (List.getElem_mem _)
    have HX : Hid (∀ W v g, SS W v g 0 L → ∃ cap, v = .slice (some ⟨g, 0, none⟩) (k + 1) cap ∧ W.cell? ⟨g, k, none⟩ = some (.string (L[k]'(by omega)))) := fun W v g ⟨a, cap, hv, _, hA, hc⟩ => by
      refine ⟨cap, by rw [hv, hA (by omega), hn], ?_⟩
      have := hc k (by omega)
      rw [Nat.zero_add] at this
      exact this
    have HCD : Hid (∀ W, Calls Tryz.prog 73 #[.string (L[k]'(by omega)), .int .i64 x] W fun e w' => e = .returned (.string (cutH (L[k]'(by omega)) x)) ∧ Below W.heap.size W w') := fun W => sCutDigest_any _ x W (by omega)
    generalize L[k]'(by omega) = X at *
    generalize cutH X x = D at *
    have q0 : (((k + 1 : Nat) : Int) == 0) = false := by simp; omega
    have e1 : (((k + 1 : Nat) : Int) - 1) = (k : Int) := by omega
    have i1 : (k : Int) < ((k + 1 : Nat) : Int) := by omega
    have i2 : (0 : Int) ≤ (k : Int) := by omega
    have hk : k ≤ 9 := by omega
    go_enter Tryz.func25, Tryz.ntmps25
    go_wp2_with fail
    refine hpt.mono ?_
    rintro e w1 ⟨v, rfl, ho⟩
    obtain ⟨g, hss⟩ := ho.ss (by omega)
    obtain ⟨cap, rfl, c0⟩ := HX.out _ _ _ hss
    have b1 := hba.trans (ho.2.1.mono hba.size)
    clear hpt ho hss HX p0 p1 hsz hn
    go_wp2_with fail
    refine (HCD.out _).mono ?_
    rintro e w2 ⟨rfl, hb2⟩
    go_wp2
    go_ret
    exact ⟨rfl, b1.trans (hb2.mono b1.size)⟩

end Go.Proofs.YtmcejkfknbjjkaaGreatDoor
