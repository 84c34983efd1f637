/-
  What ReadSig answers at any text, the program's and the specification's.
-/
import Derived.Test.YteejjnpemaghcaaRsg
namespace Go.Proofs.Yteejjnpemaghcaa
open Go.RowKit Go.BigFrame
set_option linter.unusedVariables false

theorem ReadSig_no (t : ByteArray) (w : World) (ht : t.size ≤ 1048576) (h : ¬ (t.size = 321 ∧ (b0 t).toNat ≤ 15)) :
    Calls Try.prog 11 #[.string t] w fun e w' => ∃ v, e = .returned (.tuple #[v, .bool false]) ∧ SigIn w' w.heap.size v 0 [] [] [] ∧ Below w.heap.size w w' := by
  have HF : Hid (SgM ((w.alloc (.cells zSig 28))) w.heap.size 0 (.slice none 0 0) (.slice none 0 0) (.slice none 0 0)) := SgM.new w 0 _ _ _
  by_cases h1 : t.size = 321
  · have hh := run_b0 t (by omega)
    have hd : decide ((0 : Int) ≤ ((b0 t).toNat : Int) ∧ ((b0 t).toNat : Int) ≤ 15) = false := by simp; omega
    have q : ((t.size : Int) != 321) = false := by simp; omega
    clear h
    generalize b0 t = b at *
    have hb : b.toNat < 256 := b.toNat_lt
    go_enter Try.func11, Try.ntmps11
    go_wp2_with fail
    refine (inPool_f _ _).mono ?_
    rintro e w0 ⟨rfl, rfl⟩
    rw [hd]
    go_wp2_with (refine wp_storeSig rfl _ _ rfl w.heap.size 0 _ _ _ _ _ _ _ HF.out rfl rfl rfl rfl rfl ?_; intro hfin)
    refine ret_sig2 2 3 w.heap.size _ _ _ _ _ rfl rfl rfl rfl hfin ?_
    exact ⟨_, rfl, SigIn.zero _ _, ((Below.refl _ _).alloc (Nat.le_refl _) _).grown (grown_setRow _ w.heap.size _) (by simp) (fun k hk => by simp at hk; omega)⟩
  · have q : ((t.size : Int) != 321) = true := by simp; omega
    clear h h1
    go_enter Try.func11, Try.ntmps11
    go_wp2_with (refine wp_storeSig rfl _ _ rfl w.heap.size 0 _ _ _ _ _ _ _ HF.out rfl rfl rfl rfl rfl ?_; intro hfin)
    refine ret_sig2 2 3 w.heap.size _ _ _ _ _ rfl rfl rfl rfl hfin ?_
    exact ⟨_, rfl, SigIn.zero _ _, ((Below.refl _ _).alloc (Nat.le_refl _) _).grown (grown_setRow _ w.heap.size _) (by simp) (fun k hk => by simp at hk; omega)⟩

theorem ReadSig_any (t : ByteArray) (w : World) (ht : t.size ≤ 1048576) :
    Calls Try.prog 11 #[.string t] w fun e w' => ∃ v, e = .returned (.tuple #[v, .bool (rsOk t)]) ∧ SigIn w' w.heap.size v (rsA t) (rsO t) (rsS t) (rsD t) ∧ Below w.heap.size w w' := by
  unfold rsA rsO rsS rsD
  by_cases h : t.size = 321 ∧ (b0 t).toNat ≤ 15
  · have e : rsOk t = true := decide_eq_true h
    rw [e]
    exact ReadSig_yes t w h.1 h.2
  · have e : rsOk t = false := decide_eq_false h
    rw [e]
    exact ReadSig_no t w ht h

theorem sReadSig_no (t : ByteArray) (w : World) (ht : t.size ≤ 1048576) (h : ¬ (t.size = 321 ∧ (b0 t).toNat ≤ 15)) :
    Calls Try.prog 10 #[.string t] w fun e w' => ∃ v, e = .returned (.tuple #[v, .bool false]) ∧ SigIn w' w.heap.size v 0 [] [] [] ∧ Below w.heap.size w w' := by
  have HF : Hid (SgM ((w.alloc (.cells zSig 28))) w.heap.size 0 (.slice none 0 0) (.slice none 0 0) (.slice none 0 0)) := SgM.new w 0 _ _ _
  by_cases h1 : t.size = 321
  · have hh := run_b0 t (by omega)
    have q : ((t.size : Int) != 321) = false := by simp; omega
    have h2 : 15 < (b0 t).toNat := by omega
    clear h
    generalize b0 t = b at *
    have hb : b.toNat < 256 := b.toNat_lt
    have q2 : (16 : Int) ≤ (b.toNat : Int) := by omega
    go_enter Try.func10, Try.ntmps10
    go_wp2_with (refine wp_storeSig rfl _ _ rfl w.heap.size 0 _ _ _ _ _ _ _ HF.out rfl rfl rfl rfl rfl ?_; intro hfin)
    refine ret_sig2 2 3 w.heap.size _ _ _ _ _ rfl rfl rfl rfl hfin ?_
    exact ⟨_, rfl, SigIn.zero _ _, ((Below.refl _ _).alloc (Nat.le_refl _) _).grown (grown_setRow _ w.heap.size _) (by simp) (fun k hk => by simp at hk; omega)⟩
  · have q : ((t.size : Int) != 321) = true := by simp; omega
    clear h h1
    go_enter Try.func10, Try.ntmps10
    go_wp2_with (refine wp_storeSig rfl _ _ rfl w.heap.size 0 _ _ _ _ _ _ _ HF.out rfl rfl rfl rfl rfl ?_; intro hfin)
    refine ret_sig2 2 3 w.heap.size _ _ _ _ _ rfl rfl rfl rfl hfin ?_
    exact ⟨_, rfl, SigIn.zero _ _, ((Below.refl _ _).alloc (Nat.le_refl _) _).grown (grown_setRow _ w.heap.size _) (by simp) (fun k hk => by simp at hk; omega)⟩

/-- what stands behind each field that was cut -/
def SrH (w w1 : World) (x : Int) (v1 v2 v3 : Value) : Prop := SgM w1 w.heap.size 0 (.slice none 0 0) (.slice none 0 0) (.slice none 0 0) ∧ SgM w1 (w.heap.size + 1) x v1 v2 v3 ∧ Below w.heap.size w w1
theorem SrH.later {w w1 w2 : World} {x : Int} {v1 v2 v3 : Value} (h : SrH w w1 x v1 v2 v3) (hb : Below w1.heap.size w1 w2) : SrH w w2 x v1 v2 v3 := ⟨h.1.later hb, h.2.1.later hb, h.2.2.trans (hb.mono h.2.2.size)⟩

set_option maxRecDepth 100000 in
set_option maxHeartbeats 1000000 in
theorem sReadSig_yes (t : ByteArray) (w : World) (h1 : t.size = 321) (h2 : (b0 t).toNat ≤ 15) :
    Calls Try.prog 10 #[.string t] w fun e w' => ∃ v, e = .returned (.tuple #[v, .bool true]) ∧ SigIn w' w.heap.size v ((b0 t).toNat : Int) (cutL t 1 8) (cutL t 129 8) (cutL t 257 4) ∧ Below w.heap.size w w' := by
  have hh := run_b0 t (by omega)
  have HC1 : Hid (∀ W, Calls Try.prog 19 #[.string t, .int .i64 1, .int .i64 8] W fun e w' => ∃ v, e = .returned v ∧ OS W.heap.size W w' v (cutL t 1 8)) := fun W => l05Cut_any t 1 8 1 8 W rfl rfl (by omega) (by omega) (by omega)
  have HC2 : Hid (∀ W, Calls Try.prog 19 #[.string t, .int .i64 129, .int .i64 8] W fun e w' => ∃ v, e = .returned v ∧ OS W.heap.size W w' v (cutL t 129 8)) := fun W => l05Cut_any t 129 8 129 8 W rfl rfl (by omega) (by omega) (by omega)
  have HC3 : Hid (∀ W, Calls Try.prog 19 #[.string t, .int .i64 257, .int .i64 4] W fun e w' => ∃ v, e = .returned v ∧ OS W.heap.size W w' v (cutL t 257 4)) := fun W => l05Cut_any t 257 4 257 4 W rfl rfl (by omega) (by omega) (by omega)
  have HLN : Hid ((cutL t 1 8).length = 8 ∧ (cutL t 129 8).length = 8 ∧ (cutL t 257 4).length = 4) := ⟨cutL_len _ _ _, cutL_len _ _ _, cutL_len _ _ _⟩
  have q : ((t.size : Int) != 321) = false := by simp; omega
  generalize cutL t 1 8 = L1 at *
  generalize cutL t 129 8 = L2 at *
  generalize cutL t 257 4 = L3 at *
  generalize b0 t = b at *
  have hb : b.toNat < 256 := b.toNat_lt
  have q2 : ¬ ((16 : Int) ≤ (b.toNat : Int)) := by omega
  have HA0 : Hid (SrH w ((w.alloc (.cells zSig 28)).alloc (.cells #[.int .i64 (b.toNat : Int), .slice none 0 0, .slice none 0 0, .slice none 0 0] 28)) (b.toNat : Int) (.slice none 0 0) (.slice none 0 0) (.slice none 0 0)) := by
    have e : (w.alloc (.cells zSig 28)).heap.size = w.heap.size + 1 := by simp
    refine ⟨(SgM.new w 0 _ _ _).later ((Below.refl _ _).alloc (Nat.le_refl _) _), ?_, ((Below.refl _ _).alloc (Nat.le_refl _) _).alloc (by simp) _⟩
    have := SgM.new (w.alloc (.cells zSig 28)) (b.toNat : Int) (.slice none 0 0) (.slice none 0 0) (.slice none 0 0)
    rw [e] at this
    exact this
  go_enter Try.func10, Try.ntmps10
  go_wp2_with fail
  refine (HC1.out _).mono ?_
  rintro e w1 ⟨V1, rfl, hos1⟩
  obtain ⟨a1, k1, hv1⟩ := own_slice hos1.1
  rw [HLN.out.1] at hv1
  subst hv1
  have hA1 := HA0.out.later hos1.2.1
  have c1 := hA1.2.1.c1
  have f1 := hA1.2.1.fr 1
  obtain ⟨g1, hts1, hg1⟩ := hos1.ts (by rw [HLN.out.1]; omega)
  have hg1' : w.heap.size + 2 ≤ g1 := by simpa using hg1
  have hl1 := hts1.lt (by rw [HLN.out.1]; omega)
  have hgr1 := grown_set w1 (w.heap.size + 1) 1 (.slice a1 8 k1)
  have HA1 : Hid (SrH w (w1.setCell ⟨w.heap.size + 1, 1, none⟩ (.slice a1 8 k1)) (b.toNat : Int) (.slice a1 8 k1) (.slice none 0 0) (.slice none 0 0) ∧ TS (w1.setCell ⟨w.heap.size + 1, 1, none⟩ (.slice a1 8 k1)) (.slice a1 8 k1) g1 L1) :=
    ⟨⟨hA1.1.keptG hgr1 (by simp), hA1.2.1.set1 (.slice a1 8 k1), hA1.2.2.setCell (p := ⟨w.heap.size + 1, 1, none⟩) (by simp) _⟩, hts1.keptG hgr1 (fun _ => by simp; omega)⟩
  have hsz1 : (w1.setCell ⟨w.heap.size + 1, 1, none⟩ (.slice a1 8 k1)).heap.size = w1.heap.size := by simp
  clear hA1 hos1 hts1 hg1 hgr1 HC1 HA0
  go_wp2_with fail
  refine (HC2.out _).mono ?_
  rintro e w2 ⟨V2, rfl, hos2⟩
  obtain ⟨a2, k2, hv2⟩ := own_slice hos2.1
  rw [HLN.out.2.1] at hv2
  subst hv2
  have hA2 := HA1.out.1.later hos2.2.1
  have ht12 := HA1.out.2.later hos2.2.1
  have c2 := hA2.2.1.c2
  have f2 := hA2.2.1.fr 2
  obtain ⟨g2, hts2, hg2⟩ := hos2.ts (by rw [HLN.out.2.1]; omega)
  rw [hsz1] at hg2
  have hl2 := hts2.lt (by rw [HLN.out.2.1]; omega)
  have hgr2 := grown_set w2 (w.heap.size + 1) 2 (.slice a2 8 k2)
  have HA2 : Hid (SrH w (w2.setCell ⟨w.heap.size + 1, 2, none⟩ (.slice a2 8 k2)) (b.toNat : Int) (.slice a1 8 k1) (.slice a2 8 k2) (.slice none 0 0) ∧ TS (w2.setCell ⟨w.heap.size + 1, 2, none⟩ (.slice a2 8 k2)) (.slice a1 8 k1) g1 L1 ∧ TS (w2.setCell ⟨w.heap.size + 1, 2, none⟩ (.slice a2 8 k2)) (.slice a2 8 k2) g2 L2) :=
    ⟨⟨hA2.1.keptG hgr2 (by simp), hA2.2.1.set2 (.slice a2 8 k2), hA2.2.2.setCell (p := ⟨w.heap.size + 1, 2, none⟩) (by simp) _⟩, ht12.keptG hgr2 (fun _ => by simp; omega), hts2.keptG hgr2 (fun _ => by simp; omega)⟩
  have hsz2 : (w2.setCell ⟨w.heap.size + 1, 2, none⟩ (.slice a2 8 k2)).heap.size = w2.heap.size := by simp
  clear hA2 hos2 hts2 ht12 hgr2 HC2 HA1 hsz1 c1 f1
  go_wp2_with fail
  refine (HC3.out _).mono ?_
  rintro e w3 ⟨V3, rfl, hos3⟩
  obtain ⟨a3, k3, hv3⟩ := own_slice hos3.1
  rw [HLN.out.2.2] at hv3
  subst hv3
  have hA3 := HA2.out.1.later hos3.2.1
  have ht13 := HA2.out.2.1.later hos3.2.1
  have ht23 := HA2.out.2.2.later hos3.2.1
  have c3 := hA3.2.1.c3
  have f3 := hA3.2.1.fr 3
  obtain ⟨g3, hts3, hg3⟩ := hos3.ts (by rw [HLN.out.2.2]; omega)
  rw [hsz2] at hg3
  have hgr3 := grown_set w3 (w.heap.size + 1) 3 (.slice a3 4 k3)
  have HA3 : Hid (SrH w (w3.setCell ⟨w.heap.size + 1, 3, none⟩ (.slice a3 4 k3)) (b.toNat : Int) (.slice a1 8 k1) (.slice a2 8 k2) (.slice a3 4 k3) ∧ TS (w3.setCell ⟨w.heap.size + 1, 3, none⟩ (.slice a3 4 k3)) (.slice a1 8 k1) g1 L1 ∧ TS (w3.setCell ⟨w.heap.size + 1, 3, none⟩ (.slice a3 4 k3)) (.slice a2 8 k2) g2 L2 ∧ TS (w3.setCell ⟨w.heap.size + 1, 3, none⟩ (.slice a3 4 k3)) (.slice a3 4 k3) g3 L3) :=
    ⟨⟨hA3.1.keptG hgr3 (by simp), hA3.2.1.set3 (.slice a3 4 k3), hA3.2.2.setCell (p := ⟨w.heap.size + 1, 3, none⟩) (by simp) _⟩, ht13.keptG hgr3 (fun _ => by simp; omega), ht23.keptG hgr3 (fun _ => by simp; omega), hts3.keptG hgr3 (fun _ => by simp; omega)⟩
  clear hA3 hos3 hts3 ht13 ht23 hgr3 HC3 HA2 hsz2 c2 f2
  go_wp2_with (first | (refine wp_loadSig rfl _ rfl (w.heap.size + 1) _ (.slice a1 8 k1) (.slice a2 8 k2) (.slice a3 4 k3) rfl HA3.out.1.2.1 ?_) | (refine wp_storeSig rfl _ _ rfl w.heap.size 0 _ _ _ _ (.slice a1 8 k1) (.slice a2 8 k2) (.slice a3 4 k3) HA3.out.1.1 rfl rfl rfl rfl rfl ?_; intro hfin))
  refine ret_sig2 2 3 w.heap.size _ _ _ _ _ rfl rfl rfl rfl hfin ?_
  obtain ⟨⟨_, _, b3⟩, hts1, hts2, hts3⟩ := HA3.out
  have hgr := grown_setRow (w3.setCell ⟨w.heap.size + 1, 3, none⟩ (.slice a3 4 k3)) w.heap.size #[.int .i64 (b.toNat : Int), (.slice a1 8 k1), (.slice a2 8 k2), (.slice a3 4 k3)]
  refine ⟨_, rfl, ⟨(.slice a1 8 k1), (.slice a2 8 k2), (.slice a3 4 k3), g1, g2, g3, rfl, ⟨hts1.keptG hgr (fun _ => ?_), hts2.keptG hgr (fun _ => ?_), hts3.keptG hgr (fun _ => ?_)⟩, ⟨by omega, by omega, by omega⟩, ⟨by omega, by omega, by omega⟩⟩, b3.grown hgr b3.size (fun k hk => by simp at hk; omega)⟩
  · simp; omega
  · simp; omega
  · simp; omega

theorem sReadSig_any (t : ByteArray) (w : World) (ht : t.size ≤ 1048576) :
    Calls Try.prog 10 #[.string t] w fun e w' => ∃ v, e = .returned (.tuple #[v, .bool (rsOk t)]) ∧ SigIn w' w.heap.size v (rsA t) (rsO t) (rsS t) (rsD t) ∧ Below w.heap.size w w' := by
  unfold rsA rsO rsS rsD
  by_cases h : t.size = 321 ∧ (b0 t).toNat ≤ 15
  · have e : rsOk t = true := decide_eq_true h
    rw [e]
    exact sReadSig_yes t w h.1 h.2
  · have e : rsOk t = false := decide_eq_false h
    rw [e]
    exact sReadSig_no t w ht h

end Go.Proofs.Yteejjnpemaghcaa
