/-
  Texts laid together: Ph, Lsd, Pv, Rb, Prb.
-/
import Derived.Test.YtfiapodjiifmaaaGreatDoorPkP20
import Derived.Test.YtfiapodjiifmaaaGreatDoorPkP18
import Derived.Test.YtfiapodjiifmaaaGreatDoorPkP10
import Derived.Test.YtfiapodjiifmaaaGreatDoorPkP9
import Derived.Test.YtfiapodjiifmaaaGreatDoorPkP19
import Derived.Test.YtfiapodjiifmaaaGreatDoorPkP8
import Derived.Test.YtfiapodjiifmaaaGreatDoorPkP16
import Derived.Test.YtfiapodjiifmaaaGreatDoorPkP3
import Derived.Test.YtfiapodjiifmaaaGreatDoorPkP7
import Derived.Test.YtfiapodjiifmaaaGreatDoorPkP6
/-
  The hash of a proof: the program's and the specification's answers.
-/
namespace Go.Proofs.YtfiapodjiifmaaaGreatDoor
open Go.RowKit Go.BigFrame Go.Sort
set_option linter.unusedVariables false
set_option linter.unusedSimpArgs false

/-- the digest of the last of these texts -/
def lastH (l : List ByteArray) (x : Int) : ByteArray := if l.length = 0 then ⟨#[]⟩ else cutH (l.getD (l.length - 1) ⟨#[]⟩) x
theorem lastH_none (x : Int) : lastH [] x = ⟨#[]⟩ := rfl
theorem lastH_at {l : List ByteArray} {k : Nat} (h : l.length = k + 1) (x : Int) : lastH l x = cutH (l[k]'(by omega)) x := by
  unfold lastH
  have e : l.getD (l.length - 1) ⟨#[]⟩ = l[k]'(by omega) := by
    have e1 : l.length - 1 = k := by omega
    rw [e1, List.getD_eq_getElem?_getD, List.getElem?_eq_getElem (show k < l.length by omega), Option.getD_some]
  rw [if_neg (by omega), e]

set_option maxRecDepth 100000 in
set_option maxHeartbeats 1000000 in
theorem hashOfLast_any (v : Value) (g o : Nat) (l : List ByteArray) (x : Int) (w : World) (hv : SS w v g o l) (hsz : ∀ t ∈ l, t.size ≤ 1048576) (hT : Tb w) :
    Calls Tryz.prog 41 #[v, .int .i64 x] w fun e w' => e = .returned (.string (lastH l x)) ∧ Below w.heap.size w w' := by
  obtain ⟨a, cap, rfl, hl, hA, hc⟩ := hv
  obtain ⟨n, hn⟩ : ∃ n, l.length = n := ⟨_, rfl⟩
  rw [hn]
  cases n with
  | zero =>
    obtain rfl : l = [] := List.length_eq_zero_iff.1 hn
    rw [lastH_none]
    clear hA hc hsz hn hT
    go_enter Tryz.func41, Tryz.ntmps41
    go_wp2
    go_ret
    exact ⟨rfl, Below.refl _ _⟩
  | succ k =>
    have ea := hA (by omega)
    subst ea
    have c0 := hc k (by omega)
    rw [lastH_at hn]
    have hd := CutDigest_any (l[k]'(by omega)) x w (hsz _ (List.getElem_mem _)) hT.1 hT.2
    generalize l[k]'(by omega) = X at *
    generalize cutH X x = D at *
    have q0 : (((k + 1 : Nat) : Int) == 0) = false := by simp; omega
    have e1 : (((k + 1 : Nat) : Int) - 1) = (k : Int) := by omega
    have i1 : (k : Int) < ((k + 1 : Nat) : Int) := by omega
    have i2 : (0 : Int) ≤ (k : Int) := by omega
    have hk : k ≤ 1100000 := by omega
    clear hA hc hsz hn hT
    go_enter Tryz.func41, Tryz.ntmps41
    go_wp2_with fail
    refine hd.mono ?_
    rintro e w1 ⟨rfl, hb1⟩
    go_wp2
    go_ret
    exact ⟨rfl, hb1⟩

/-- what ProofHash is -/
noncomputable def phA (nm : ByteArray) (B : List Le) (S : List ByteArray) (x : Int) : ByteArray := lastH (ptA nm B S x) x
theorem ptA_size {nm : ByteArray} {B : List Le} {S : List ByteArray} {x : Int} : ∀ t ∈ ptA nm B S x, t.size ≤ 12601 := by
  unfold ptA
  split
  · intro t ht
    obtain ⟨j, hj, rfl⟩ := List.getElem_of_mem ht
    rw [chL_at]
    exact chT_size _ _ _ _ (btB_size B) j
  · intro t ht
    cases ht
theorem ptA_len (nm : ByteArray) (B : List Le) (S : List ByteArray) (x : Int) : (ptA nm B S x).length ≤ 9 := by
  unfold ptA
  split
  · rename_i h
    rw [chL_len]
    unfold pfOk at h
    simp only [Bool.and_eq_true, decide_eq_true_eq] at h
    have := h.1.1.2
    omega
  · simp

set_option maxRecDepth 100000 in
set_option maxHeartbeats 1000000 in
theorem ProofHash_any (nm : ByteArray) (vb vs : Value) (gb ob gs os : Nat) (B : List Le) (S : List ByteArray) (x : Int) (w : World) (hnm : nm.size ≤ 1048576) (hb : RS 2 lcs w vb gb ob B) (hsm : SmallL B) (hs : SS w vs gs os S) (hT : Tb w) :
    Calls Tryz.prog 14 #[.string nm, .agg #[vb, vs], .int .i64 x] w fun e w' => e = .returned (.string (phA nm B S x)) ∧ Below w.heap.size w w' := by
  obtain ⟨p0, p1⟩ := run_rangeP (w := w) (p := 0) (v1 := vb) (v2 := vs) 29
  have hba : Below w.heap.size w (w.alloc (.cells #[vb, vs] 29)) := (Below.refl _ _).alloc (Nat.le_refl _) _
  have hpt := ProofTexts_any nm vb vs gb ob gs os B S x _ hnm (hb.later hba) hsm (hs.below hba hs.lt) (hT.later hba)
  have HH : Hid (∀ W v g, Below w.heap.size w W → SS W v g 0 (ptA nm B S x) → Calls Tryz.prog 41 #[v, .int .i64 x] W fun e w' => e = .returned (.string (phA nm B S x)) ∧ Below W.heap.size W w') := fun W v g hW h => hashOfLast_any v g 0 _ x W h (fun t ht => by have := ptA_size t ht; omega) (hT.later hW)
  have hlen := ptA_len nm B S x
  generalize phA nm B S x = H at *
  generalize ptA nm B S x = L at *
  clear hb hs hsm hT
  go_enter Tryz.func14, Tryz.ntmps14
  go_wp2_with fail
  refine hpt.mono ?_
  rintro e w1 ⟨v, rfl, ho⟩
  obtain ⟨g, hss⟩ := ho.ss (by omega)
  have b1 := hba.trans (ho.2.1.mono hba.size)
  have hh := HH.out w1 v g b1 hss
  clear hpt ho hss HH p0 p1
  go_wp2_with fail
  refine hh.mono ?_
  rintro e w2 ⟨rfl, hb2⟩
  go_wp2
  go_ret
  exact ⟨rfl, b1.trans (hb2.mono b1.size)⟩

end Go.Proofs.YtfiapodjiifmaaaGreatDoor
/-
  The walk of the law FnExactSidesOf: it answers true of every row of leaves, every index, level and width.
-/
namespace Go.Proofs.YtfiapodjiifmaaaGreatDoor
open Go.RowKit Go.BigFrame Go.Sort
set_option linter.unusedVariables false
set_option linter.unusedSimpArgs false

/-- texts answered, k of them -/
def TdP (k : Nat) (M : List ByteArray) (w : World) (e : Ending) (w' : World) : Prop := ∃ a cap g, e = .returned (.slice a k cap) ∧ TS w' (.slice a k cap) g M ∧ w.heap.size ≤ g ∧ Below w.heap.size w w'
theorem TdP.of {f : FuncId} {args : Array Value} {M : List ByteArray} {k : Nat} {w : World} (h : Calls Tryz.prog f args w fun e w' => ∃ u, e = .returned u ∧ OS w.heap.size w w' u M) (hk : M.length = k) (hl : k ≤ 1100000) : Calls Tryz.prog f args w (TdP k M w) :=
  h.mono fun e w' ⟨u, he, ho⟩ => by
    obtain ⟨gz, hts, hgz⟩ := ho.ts (by omega)
    obtain ⟨az, cz, rfl⟩ := ho.slice
    rw [hk] at he hts
    exact ⟨az, cz, gz, he, hts, hgz, ho.2.1⟩
theorem sdA_len (L : List Le) (ix l x : Int) : (sdA L ix l x).length ≤ 8 := by
  unfold sdA
  split
  · rw [sdL_len]; omega
  · simp
theorem rowOf_leT {g B : Nat} {l : List ByteArray} (h : B ≤ g) (q : Nat) (hq : rowOf g l = some q) : B ≤ q := by
  unfold rowOf at hq
  split at hq
  · cases hq
  · have : g = q := by simpa using hq
    omega
end Go.Proofs.YtfiapodjiifmaaaGreatDoor
/-
  The proof of a name: the program's and the specification's answers, at any argument.
-/
namespace Go.Proofs.YtfiapodjiifmaaaGreatDoor
open Go.RowKit Go.BigFrame Go.Sort
set_option linter.unusedVariables false
set_option linter.unusedSimpArgs false

theorem OS.cap {B : Nat} {w0 w : World} {a : Option Addr} {n c : Nat} {l : List ByteArray} (h : OS B w0 w (.slice a n c) l) : l.length ≤ c := by
  rcases h.1.2 with ⟨hv, hn⟩ | ⟨g, cap, cur, hv, hbg, hg, hca, rest⟩
  · have : l.length = 0 := hn
    omega
  · simp only [Value.slice.injEq] at hv
    omega
noncomputable def pvOk (L : List Le) (nm : ByteArray) (l x : Int) : Bool := LV.leavesB L && okB nameB nm && decide (0 ≤ l ∧ l ≤ 8) && decide (1 ≤ x ∧ x ≤ 32)
noncomputable def pvB (L : List Le) (nm : ByteArray) (l x : Int) : List Le := if pvOk L nm l x then bkL L (idxN nm) else []
noncomputable def pvS (L : List Le) (nm : ByteArray) (l x : Int) : List ByteArray := if pvOk L nm l x then sdA L (idxN nm) l x else []

set_option maxRecDepth 100000 in
set_option maxHeartbeats 2000000 in
theorem ProveLeaf_any (v : Value) (ga oa : Nat) (L : List Le) (nm : ByteArray) (l x : Int) (w : World) (hv : RS 2 lcs w v ga oa L) (hsm : SmallL L) (hnm : nm.size ≤ 1048576) (hT : Tb w) :
    Calls Tryz.prog 7 #[v, .string nm, .int .i64 l, .int .i64 x] w (PvP (pvB L nm l x) (pvS L nm l x) (pvOk L nm l x) w) := by
  have hba : Below w.heap.size w (w.alloc (.cells #[.slice none 0 0, .slice none 0 0] 29)) := (Below.refl _ _).alloc (Nat.le_refl _) _
  have HPN : Hid (PfM (w.alloc (.cells #[.slice none 0 0, .slice none 0 0] 29)) w.heap.size (.slice none 0 0) (.slice none 0 0)) := PfM.new w _ _
  have HRS : Hid (∀ W, Below w.heap.size w W → RS 2 lcs W v ga oa L) := fun W hW => hv.later hW
  have hlo := LeavesOk_any v ga oa L _ (HRS.out _ hba) hsm
  have HNK : Hid (∀ W, Calls Tryz.prog 21 #[.string nm] W fun e w' => e = .returned (.bool (okB nameB nm)) ∧ w' = W) := fun W => NameOk_any nm W hnm
  have HIX : Hid (∀ W, Below w.heap.size w W → Calls Tryz.prog 24 #[.string nm] W fun e w' => e = .returned (.int .i64 (idxN nm : Int)) ∧ Below W.heap.size W w') := fun W hW => IndexOf_any nm W hnm (hT.later hW).1 (hT.later hW).2
  have HLL : Hid ((bkL L (idxN nm)).length ≤ 1100000 ∧ (sdA L (idxN nm) l x).length ≤ 1100000) := ⟨Nat.le_trans (List.length_filter_le _ _) hv.len, Nat.le_trans (sdA_len _ _ _ _) (by omega)⟩
  have HYB : Hid (∀ (b : Bool), pvOk L nm l x = b → pvB L nm l x = (if b then bkL L (idxN nm) else []) ∧ pvS L nm l x = (if b then sdA L (idxN nm) l x else [])) := fun b h => ⟨by unfold pvB; rw [h], by unfold pvS; rw [h]⟩
  obtain ⟨R, hR⟩ : ∃ R, pvOk L nm l x = R := ⟨_, rfl⟩
  obtain ⟨e1, e2⟩ := HYB.out R hR
  have hR2 : R = (LV.leavesB L && okB nameB nm && decide (0 ≤ l ∧ l ≤ 8) && decide (1 ≤ x ∧ x ≤ 32)) := hR.symm
  rw [hR]
  clear hR HYB
  obtain ⟨BB, hBB⟩ : ∃ BB, pvB L nm l x = BB := ⟨_, rfl⟩
  obtain ⟨SB, hSB⟩ : ∃ SB, pvS L nm l x = SB := ⟨_, rfl⟩
  rw [hBB] at e1
  rw [hSB] at e2
  rw [hBB, hSB]
  have HE : Hid (BB = (if R then bkL L (idxN nm) else []) ∧ SB = (if R then sdA L (idxN nm) l x else [])) := ⟨e1, e2⟩
  clear e1 e2 hBB hSB
  obtain ⟨ix, hix⟩ : ∃ ix : Int, (idxN nm : Int) = ix := ⟨_, rfl⟩
  rw [hix] at HIX HLL HE
  have HBK : Hid (∀ W, Below w.heap.size w W → Calls Tryz.prog 25 #[v, .int .i64 ix] W fun e w' => ∃ u, e = .returned u ∧ OL W.heap.size W w' u (bkL L ix)) := fun W hW => BucketOf_any v ga oa L ix W (HRS.out W hW) hsm (hT.later hW).1 (hT.later hW).2
  have HSD : Hid (∀ W, Below w.heap.size w W → Calls Tryz.prog 26 #[v, .int .i64 ix, .int .i64 l, .int .i64 x] W fun e w' => ∃ u, e = .returned u ∧ OS W.heap.size W w' u (sdA L ix l x)) := fun W hW => SidesOf_any v ga oa L ix l x W (HRS.out W hW) hsm (hT.later hW)
  clear hv hsm hix HRS hT
  generalize bkL L ix = BK at *
  generalize sdA L ix l x = SD at *
  generalize LV.leavesB L = A1 at *
  generalize okB nameB nm = A2 at *
  obtain ⟨A3, d1⟩ : ∃ A3, decide ((0 : Int) ≤ l ∧ l ≤ 8) = A3 := ⟨_, rfl⟩
  obtain ⟨A4, d2⟩ : ∃ A4, decide ((1 : Int) ≤ x ∧ x ≤ 32) = A4 := ⟨_, rfl⟩
  rw [d1, d2] at hR2
  go_enter Tryz.func7, Tryz.ntmps7
  go_wp2_with fail
  refine hlo.mono ?_
  rintro e w1 ⟨rfl, hb1⟩
  have HP1 : Hid (PfM w1 w.heap.size (.slice none 0 0) (.slice none 0 0)) := HPN.out.later hb1
  have b1 : Below w.heap.size w w1 := hba.trans (hb1.mono hba.size)
  clear hlo HPN hb1 hba
  have HNO : Hid (PvP [] [] false w (.returned (.tuple #[.agg #[.slice none 0 0, .slice none 0 0], .bool false])) (w1.setRow w.heap.size #[.slice none 0 0, .slice none 0 0])) := PvP.no (below_setRow b1 (Nat.le_refl _))
  cases A1 with
  | false =>
    obtain rfl : R = false := by rw [hR2]; rfl
    clear hR2
    clear HIX HLL HBK HSD
    go_wp2_with (refine wp_storePf rfl _ _ rfl w.heap.size _ _ (.slice none 0 0) (.slice none 0 0) HP1.out rfl rfl rfl rfl ?_; intro hfin)
    refine ret_pf2 8 9 w.heap.size _ _ _ rfl rfl rfl rfl hfin ?_
    obtain ⟨rfl, rfl⟩ := HE.out
    exact HNO.out

  | true =>
    go_wp2_with fail
    refine (HNK.out _).mono ?_
    rintro e w1' ⟨rfl, rfl⟩
    cases A2 with
    | false =>
      obtain rfl : R = false := by rw [hR2]; rfl
      clear hR2
      clear HIX HLL HBK HSD
      go_wp2_with (refine wp_storePf rfl _ _ rfl w.heap.size _ _ (.slice none 0 0) (.slice none 0 0) HP1.out rfl rfl rfl rfl ?_; intro hfin)
      refine ret_pf2 8 9 w.heap.size _ _ _ rfl rfl rfl rfl hfin ?_
      obtain ⟨rfl, rfl⟩ := HE.out
      exact HNO.out

    | true =>
      go_wp2_with fail
      refine (levelOk_any _ _).mono ?_
      rintro e w1'' ⟨rfl, rfl⟩
      rw [d1]
      cases A3 with
      | false =>
        obtain rfl : R = false := by rw [hR2]; rfl
        clear hR2
        clear HIX HLL HBK HSD
        go_wp2_with (refine wp_storePf rfl _ _ rfl w.heap.size _ _ (.slice none 0 0) (.slice none 0 0) HP1.out rfl rfl rfl rfl ?_; intro hfin)
        refine ret_pf2 8 9 w.heap.size _ _ _ rfl rfl rfl rfl hfin ?_
        obtain ⟨rfl, rfl⟩ := HE.out
        exact HNO.out

      | true =>
        go_wp2_with fail
        refine (widthOk_any _ _).mono ?_
        rintro e w2 ⟨rfl, rfl⟩
        rw [d2]
        cases A4 with
        | false =>
          obtain rfl : R = false := by rw [hR2]; rfl
          clear hR2
          clear HIX HLL HBK HSD
          go_wp2_with (refine wp_storePf rfl _ _ rfl w.heap.size _ _ (.slice none 0 0) (.slice none 0 0) HP1.out rfl rfl rfl rfl ?_; intro hfin)
          refine ret_pf2 8 9 w.heap.size _ _ _ rfl rfl rfl rfl hfin ?_
          obtain ⟨rfl, rfl⟩ := HE.out
          exact HNO.out

        | true =>
          obtain rfl : R = true := by rw [hR2]; rfl
          clear hR2
          clear HNO HNK
          obtain ⟨e1, e2⟩ := HE.out
          simp only [if_true] at e1 e2
          subst BB
          subst SB
          go_wp2_with fail
          refine (HIX.out _ b1).mono ?_
          rintro e w3 ⟨rfl, hb3⟩
          have HP3 := HP1.out.later hb3
          have b3 := b1.trans (hb3.mono b1.size)
          go_wp2_with fail
          refine (HBK.out _ b3).mono ?_
          rintro e w4 ⟨vb, rfl, ho4⟩
          have HP4 : Hid (PfM w4 w.heap.size (.slice none 0 0) (.slice none 0 0)) := HP3.later ho4.2.1
          have b4 := b3.trans (ho4.2.1.mono b3.size)
          have HG4 : Hid (w.heap.size < w3.heap.size) := HP3.lt
          obtain ⟨ab, cb, rfl⟩ := ho4.shape
          have HO4 : Hid (OL w3.heap.size w3 w4 (.slice ab BK.length cb) BK) := ho4
          clear ho4 hb3 HP1 HP3 b1 b3 HBK
          obtain ⟨w5, hw5⟩ : ∃ w5, w4 = w5 := ⟨_, rfl⟩
          subst hw5
          have hb5 : Below w4.heap.size w4 w4 := Below.refl _ _
          have b5 := b4.trans (hb5.mono b4.size)
          have HP5 : Hid (PfM w4 w.heap.size (.slice none 0 0) (.slice none 0 0)) := HP4.out.later hb5
          have HO5 : Hid (OL w3.heap.size w3 w4 (.slice ab BK.length cb) BK) := HO4.out.later hb5
          clear HP4 HO4 HIX b4
          go_wp2_with fail
          refine (HSD.out _ b5).mono ?_
          rintro e w6 ⟨vs, rfl, ho6⟩
          have b6 := b5.trans (ho6.2.1.mono b5.size)
          have hp6 : PfM w6 w.heap.size (.slice none 0 0) (.slice none 0 0) := HP5.out.later ho6.2.1
          have HO6 : Hid (OL w3.heap.size w3 w6 (.slice ab BK.length cb) BK) := HO5.out.later ho6.2.1
          obtain ⟨aZ, cs, rfl⟩ := ho6.slice
          have HS6 : Hid (OS w4.heap.size w4 w6 (.slice aZ SD.length cs) SD ∧ w.heap.size < w4.heap.size) := ⟨ho6, HP5.out.lt⟩
          have hgr := grown_setRowP w6 w.heap.size #[.slice ab BK.length cb, .slice aZ SD.length cs]
          have HF : Hid (PvP BK SD true w (.returned (.tuple #[.agg #[.slice ab BK.length cb, .slice aZ SD.length cs], .bool true])) (w6.setRow w.heap.size #[.slice ab BK.length cb, .slice aZ SD.length cs])) := by
            obtain ⟨gb, hrw, hgb, hqb⟩ := HO6.out.rw HLL.out.1
            obtain ⟨gs, hts, hgs⟩ := HS6.out.1.ts HLL.out.2
            have l1 := HG4.out
            have l2 := HS6.out.2
            refine ⟨_, _, _, _, gb, gs, rfl, hrw.grown hgr (fun _ => by simp; omega), hts.keptG hgr (fun _ => by simp; omega), by omega, by omega, ⟨fun h1 h2 => ?_, HS6.out.1.cap⟩, below_setRow b6 (Nat.le_refl _)⟩
            obtain ⟨gb5, hrw5, _, hq5⟩ := HO5.out.rw HLL.out.1
            have hlt := hrw5.lt h1
            have e1 := hrw5.1
            have e2 := hrw.1
            obtain ⟨_, _, ev, _, h3, _⟩ := hrw5.1
            obtain ⟨_, _, ev', _, h3', _⟩ := hrw.1
            simp only [Value.slice.injEq] at ev ev'
            have f1 := (h3 h1).1
            have f2 := (h3' h1).1
            rw [← ev.1] at f1
            rw [← ev'.1, f1] at f2
            simp at f2
            omega
          clear ho6 HO5 HO6 HP5 HS6 hb5 b5 b6 HSD HLL HG4 hgr
          go_wp2_with (refine wp_storePf rfl _ _ rfl w.heap.size _ _ (.slice ab BK.length cb) (.slice aZ SD.length cs) hp6 rfl rfl rfl rfl ?_; intro hfin)
          refine ret_pf2 8 9 w.heap.size _ _ _ rfl rfl rfl rfl hfin ?_
          exact HF.out

end Go.Proofs.YtfiapodjiifmaaaGreatDoor
/-
  What was written as leaves is read back; and what is put and dropped is found again, or not.
-/
namespace Go.Proofs.YtfiapodjiifmaaaGreatDoor
open Go.RowKit
set_option linter.unusedVariables false
namespace LV
theorem leafAt_back (s : ByteArray) (f : Le) (pre post : List UInt8) (h1 : f.n.size ≤ 20000) (h2 : f.v.size ≤ 20000) (h : s.data.toList = pre ++ (leL f ++ post)) : leafAt s pre.length = some (f, pre.length + (leL f).length) := by
  have a1 := shortAt_back s f.n pre ((M.varL f.v.size ++ f.v.data.toList) ++ post) h1 (by rw [h]; simp [leL])
  have a2 := shortAt_back s f.v (pre ++ (M.varL f.n.size ++ f.n.data.toList)) post h2 (by rw [h]; simp [leL])
  rw [List.length_append] at a2
  unfold leafAt
  rw [a1]
  simp only
  rw [a2]
  congr 2
  simp [leL]
  omega
theorem leavesF_back (s : ByteArray) : ∀ (L : List Le) (pre : List UInt8), (∀ f ∈ L, f.n.size ≤ 20000 ∧ f.v.size ≤ 20000) → s.data.toList = pre ++ ltL L → leavesF s L.length pre.length = some (L, s.size)
  | [], pre, _, h => by
    have := toList_len s
    rw [h] at this
    simp [ltL] at this
    simp [leavesF, this]
  | f :: r, pre, hs, h => by
    have hf := hs f (by simp)
    have e : s.data.toList = pre ++ (leL f ++ ltL r) := by rw [h]; simp [ltL]
    have a1 := leafAt_back s f pre (ltL r) hf.1 hf.2 e
    have a2 := leavesF_back s r (pre ++ leL f) (fun g hg => hs g (by simp [hg])) (by rw [e]; simp)
    rw [List.length_append] at a2
    rw [List.length_cons, leavesF, a1]
    simp only
    rw [a2]
theorem rawL_back {L : List Le} (h : LOk L) : rawL ⟨(lvL L).toArray⟩ 0 = some (L, (⟨(lvL L).toArray⟩ : ByteArray).size) := by
  have e : (⟨(lvL L).toArray⟩ : ByteArray).data.toList = M.varL L.length ++ ltL L := by simp [lvL]
  have hr : M.readVar (⟨(lvL L).toArray⟩ : ByteArray).data.toList 0 = some (L.length, (M.varL L.length).length) := by
    have := readVar_back [] (ltL L) L.length (by have := h.1; omega)
    simp only [List.nil_append, List.length_nil, Nat.zero_add] at this
    rw [e]
    exact this
  have h24 := h.1
  rw [rawL_at hr (by omega)]
  exact leavesF_back _ L (M.varL L.length) (fun f hf => by have := leB_sizes (h.2.1 f hf); omega) e
theorem rd_back {L : List Le} (h : leavesB L = true) : rdB (lvT L) = true ∧ rdL (lvT L) = L := by
  have hr := rawL_back (leavesB_iff.1 h)
  rw [lvT_yes h]
  unfold rdB rdL
  rw [hr]
  simp [h]

/-! what is put is there, what is dropped is not, and all else stays -/
theorem find_of {L : List Le} (h : Srt L) {f : Le} (hf : f ∈ L) : find L f.n = some f := by
  cases hq : find L f.n with
  | none => exact absurd rfl (find_none hq f hf)
  | some g => rw [srt_inj h (find_some hq).1 hf (find_some hq).2]
theorem find_not {L : List Le} {x : ByteArray} (h : ∀ f ∈ L, f.n ≠ x) : find L x = none := by
  cases hq : find L x with
  | none => rfl
  | some g => exact absurd (find_some hq).2 (h g (find_some hq).1)
theorem get_of {L : List Le} (h : Srt L) {f : Le} (hf : f ∈ L) : getV L f.n = f.v ∧ getB L f.n = true := get_some (find_of h hf)
theorem get_not {L : List Le} {x : ByteArray} (h : ∀ f ∈ L, f.n ≠ x) : getB L x = false := (get_none (find_not h)).2
theorem wout_put {L : List Le} {f : Le} : ∀ g ∈ wout (put L f) f.n, g.n ≠ f.n := fun g hg => (mem_wout.1 hg).2
theorem len_drop {L : List Le} (h : Srt L) (f : Le) : (wout (put L f) f.n).length + 1 = (put L f).length := len_wout_eq (srt_put h f) (mem_put.2 (.inl rfl))
theorem putB_yes {L : List Le} {f : Le} (h : LOk L) (hl : L.length < 24) (hf : leB f = true) : putB L f = true := by
  unfold putB
  rw [leavesB_iff.2 h, hf, decide_eq_true hl]
  simp
theorem dropB_yes {L : List Le} {f : Le} (h : LOk (put L f)) : dropB (put L f) f.n = true := by
  unfold dropB
  rw [leavesB_iff.2 h, find_of h.2.2 (mem_put.2 (.inl rfl))]
  rfl
end LV
end Go.Proofs.YtfiapodjiifmaaaGreatDoor
/-
  What was written as a proof is read back; a bucket says what its list says; a proof's hash is the root.
-/
namespace Go.Proofs.YtfiapodjiifmaaaGreatDoor
open Go.RowKit
set_option linter.unusedVariables false
set_option linter.unusedSimpArgs false

namespace LV
theorem leavesF_post (s : ByteArray) (post : List UInt8) : ∀ (L : List Le) (pre : List UInt8), (∀ f ∈ L, f.n.size ≤ 20000 ∧ f.v.size ≤ 20000) → s.data.toList = pre ++ (ltL L ++ post) → leavesF s L.length pre.length = some (L, pre.length + (ltL L).length)
  | [], pre, _, h => by simp [leavesF, ltL]
  | f :: r, pre, hs, h => by
    have e : s.data.toList = pre ++ (leL f ++ (ltL r ++ post)) := by rw [h]; simp [ltL]
    have h1 := leafAt_back s f pre (ltL r ++ post) (hs f (by simp)).1 (hs f (by simp)).2 e
    have h2 := leavesF_post s post r (pre ++ leL f) (fun g hg => hs g (by simp [hg])) (by rw [e]; simp)
    rw [List.length_append] at h2
    rw [List.length_cons, leavesF, h1]
    simp only
    rw [h2]
    simp [ltL]
    omega
theorem rawL_post {s : ByteArray} {L : List Le} {post : List UInt8} (hL : LOk L) (h : s.data.toList = lvL L ++ post) : rawL s 0 = some (L, (lvL L).length) := by
  have h1 : s.data.toList = [] ++ (M.varL L.length ++ (ltL L ++ post)) := by rw [h]; simp [lvL]
  have hr : M.readVar s.data.toList 0 = some (L.length, 0 + (M.varL L.length).length) := by
    rw [h1]
    exact readVar_back [] _ L.length (by have := hL.1; omega)
  rw [Nat.zero_add] at hr
  have h24 := hL.1
  rw [rawL_at hr (by omega)]
  have h2 := leavesF_post s post L (M.varL L.length) (fun f hf => by have := leB_sizes (hL.2.1 f hf); omega) (by rw [h]; simp [lvL])
  rw [h2]
  simp [lvL]
end LV
theorem piece_back {s a : ByteArray} {pre post : List UInt8} {y : Nat} (h : s.data.toList = pre ++ (a.data.toList ++ post)) (hy : a.size = y) : piece s pre.length y = a := by
  apply LV.bytes_eq
  unfold piece
  rw [LV.extract_cut, h]
  unfold LV.cutL
  have htl := LV.toList_len a
  have e2 : pre.length + y - pre.length = a.data.toList.length := by omega
  rw [List.drop_left, e2]
  exact List.take_left
theorem sdp_cons (s : ByteArray) (y p k : Nat) : sdp s y p (k + 1) = piece s p y :: sdp s y (p + y) k := by
  unfold sdp
  rw [List.range_succ_eq_map, List.map_cons, List.map_map, Nat.zero_mul, Nat.add_zero]
  congr 1
  apply List.map_congr_left
  intro i _
  show piece s (p + (i + 1) * y) y = piece s (p + y + i * y) y
  have e : p + (i + 1) * y = p + y + i * y := by rw [Nat.add_mul, Nat.one_mul]; omega
  rw [e]
theorem sdp_back (s : ByteArray) (y : Nat) : ∀ (S : List ByteArray) (pre : List UInt8), (∀ t ∈ S, t.size = y) → s.data.toList = pre ++ (S.map (·.data.toList)).flatten → sdp s y pre.length S.length = S
  | [], pre, _, _ => rfl
  | a :: r, pre, hs, h => by
    have e : s.data.toList = pre ++ (a.data.toList ++ (r.map (·.data.toList)).flatten) := by rw [h]; simp
    have ha := hs a (by simp)
    have htl := LV.toList_len a
    have h2 := sdp_back s y r (pre ++ a.data.toList) (fun t ht => hs t (by simp [ht])) (by rw [e]; simp)
    rw [List.length_append, htl, ha] at h2
    rw [List.length_cons, sdp_cons, piece_back e ha, h2]
theorem flat_size {S : List ByteArray} {y : Nat} (hs : ∀ t ∈ S, t.size = y) : (S.map (·.data.toList)).flatten.length = S.length * y := by
  induction S with
  | nil => simp
  | cons a r ih =>
    have htl := LV.toList_len a
    have ha := hs a (by simp)
    have := ih (fun t ht => hs t (by simp [ht]))
    simp only [List.map_cons, List.flatten_cons, List.length_append, List.length_cons]
    rw [this, htl, ha, Nat.add_mul, Nat.one_mul]
    omega
/-- **what was written is read back** -/
theorem rp_back {B : List Le} {S : List ByteArray} {y : Nat} (hB : LV.LOk B) (hS : ∀ t ∈ S, t.size = y) (h8 : S.length ≤ 8) (hy : 1 ≤ y ∧ y ≤ 32) :
    pxB B S (y : Int) = true ∧ rpOk (pxT B S (y : Int)) (y : Int) = true ∧ rpL (pxT B S (y : Int)) (y : Int) = B ∧ rpS (pxT B S (y : Int)) (y : Int) = S := by
  have hl : LV.leavesB B = true := LV.leavesB_iff.2 hB
  have hb : pxB B S (y : Int) = true := by
    unfold pxB sidB
    rw [hl, decide_eq_true h8, wideB_good fun j hj => ?_, decide_eq_true (by omega)]
    · rfl
    · rw [hS _ (List.getElem_mem _)]
  have e : (pxT B S (y : Int)).data.toList = LV.lvL B ++ (M.varL S.length ++ (S.map (·.data.toList)).flatten) := by
    unfold pxT joinT
    rw [if_pos hb, lvT_yes hl, ByteArray.data_append, ByteArray.data_append, Array.toList_append, Array.toList_append]
    show LV.lvL B ++ M.varL S.length ++ (S.map (·.data.toList)).flatten = _
    rw [List.append_assoc]
  generalize pxT B S (y : Int) = t at *
  have h1 := LV.rawL_post hB e
  have h2 : M.readVar t.data.toList (LV.lvL B).length = some (S.length, (LV.lvL B).length + (M.varL S.length).length) := by
    rw [e]
    exact LV.readVar_back _ _ S.length (by omega)
  have hsz : (LV.lvL B).length + (M.varL S.length).length + S.length * y = t.size := by
    have h3 := LV.toList_len t
    rw [← h3, e, List.length_append, List.length_append, flat_size hS]
    omega
  have hsd := sdp_back t y S (LV.lvL B ++ M.varL S.length) hS (by rw [e, List.append_assoc])
  rw [List.length_append] at hsd
  have hok : rpOk t (y : Int) = true := by
    unfold rpOk
    rw [h1]
    dsimp only
    rw [h2]
    dsimp only
    rw [hl, Int.toNat_natCast, decide_eq_true (by omega), decide_eq_true h8, decide_eq_true hsz]
    rfl
  refine ⟨hb, hok, ?_, ?_⟩
  · unfold rpL
    rw [h1]
    dsimp only
    rw [hok]
    rfl
  · unfold rpS
    rw [h1]
    dsimp only
    rw [h2]
    dsimp only
    rw [hok, Int.toNat_natCast, hsd]
    rfl
theorem find_bk {L : List Le} {nm : ByteArray} : LV.find (bkL L (idxN nm)) nm = LV.find L nm := by
  unfold LV.find bkL
  induction L with
  | nil => rfl
  | cons f r ih =>
    by_cases hn : f.n = nm
    · have hb : bkP (idxN nm : Int) f = true := by unfold bkP; rw [hn]; simp
      rw [List.filter_cons_of_pos hb, List.find?_cons_of_pos (by simpa using hn), List.find?_cons_of_pos (by simpa using hn)]
    · rw [List.find?_cons_of_neg (by simpa using hn), ← ih]
      by_cases hb : bkP (idxN nm : Int) f = true
      · rw [List.filter_cons_of_pos hb, List.find?_cons_of_neg (by simpa using hn)]
      · rw [List.filter_cons_of_neg hb]
theorem get_bk (L : List Le) (nm : ByteArray) : LV.getV (bkL L (idxN nm)) nm = LV.getV L nm ∧ LV.getB (bkL L (idxN nm)) nm = LV.getB L nm := by
  unfold LV.getV LV.getB
  rw [find_bk]
  exact ⟨rfl, rfl⟩
theorem ph_root {L : List Le} {nm : ByteArray} {x : Int} (hn : okB nameB nm = true) (h : 1 ≤ x ∧ x ≤ 32) (hL : LV.LOk L) : phA nm (bkL L (idxN nm)) (sdL x (idxN nm) L 8) x = trB x 8 0 L ∧ (ptA nm (bkL L (idxN nm)) (sdL x (idxN nm) L 8) x).length = 9 := by
  have hp := pf_right hn h hL
  have e : ptA nm (bkL L (idxN nm)) (sdL x (idxN nm) L 8) x = chL (idxN nm) x (btB (bkL L (idxN nm))) (sdL x (idxN nm) L 8) 9 := by
    unfold ptA
    rw [if_pos hp, sdL_len]
  refine ⟨?_, by rw [e, chL_len]⟩
  unfold phA
  rw [e, lastH_at (k := 8) (by rw [chL_len]), chL_at, chain_fold (idx_255 nm) h _ (by rw [sdL_len]; omega) (fun s hs => by rw [sd_size h hL _ 8 s hs]; omega) 8 (by rw [sdL_len]; omega), List.take_of_length_le (by rw [sdL_len]; omega)]
  exact root_chain h hL _ (idx_255 nm)

end Go.Proofs.YtfiapodjiifmaaaGreatDoor
