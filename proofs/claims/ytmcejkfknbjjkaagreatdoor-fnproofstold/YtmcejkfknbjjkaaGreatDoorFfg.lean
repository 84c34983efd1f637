/-
  What the specification draws as two proofs of one name.
-/
import Derived.Test.YtmcejkfknbjjkaaGreatDoorPkR
import Derived.Test.YtmcejkfknbjjkaaGreatDoorDnh
import Derived.Test.YtmcejkfknbjjkaaGreatDoorPkE
import Derived.Test.YtmcejkfknbjjkaaGreatDoorPkL
namespace Go.Proofs.YtmcejkfknbjjkaaGreatDoor
open Go.RowKit Go.BigFrame Go.Sort
set_option linter.unusedVariables false
set_option linter.unusedSimpArgs false

def lvfL : List Int := [8, 7, 6, 0]
def lvfC : Array Value := #[.int .i64 8, .int .i64 7, .int .i64 6, .int .i64 0]
theorem lvf_at (w : World) : Hid (∀ j, (h : j < lvfL.length) → (w.alloc (.cells lvfC 3)).cell? ⟨w.heap.size, j, none⟩ = some (.int .i64 lvfL[j])) := by
  intro j hj
  rw [World.cell?_alloc_at _ _ _ _ rfl]
  have : j = 0 ∨ j = 1 ∨ j = 2 ∨ j = 3 := by simp [lvfL] at hj; omega
  rcases this with rfl | rfl | rfl | rfl <;> rfl

/-- a list that may stand in a proof of a name -/
def FgB (nm : ByteArray) (B : List Le) : Prop := LV.LOk B ∧ ∀ f ∈ B, idxN f.n = idxN nm
/-- two proofs of one name with the same sides, as they are answered -/
def FgP (b0 : Nat) (w0 : World) (e : Ending) (w' : World) : Prop := ∃ (nm : ByteArray) (vb vs ub us : Value) (gb gs hb hs : Nat) (B C : List Le) (S : List ByteArray), e = .returned (.tuple #[.string nm, .agg #[vb, vs], .agg #[ub, us]]) ∧ (okB nameB nm = true ∧ nm.size ≤ 12) ∧ FgB nm B ∧ FgB nm C ∧ (S.length ≤ 8 ∧ ∀ s ∈ S, s.size = 1) ∧ RS 2 lcs w' vb gb 0 B ∧ SS w' vs gs 0 S ∧ RS 2 lcs w' ub hb 0 C ∧ SS w' us hs 0 S ∧ (b0 ≤ gb ∧ b0 ≤ gs ∧ b0 ≤ hb ∧ b0 ≤ hs) ∧ Below b0 w0 w'

theorem FgP.drew {b0 : Nat} {w0 w : World} {e : Ending} (h : FgP b0 w0 e w) : FgP b0 w0 e w.drew := by
  obtain ⟨nm, vb, vs, ub, us, gb, gs, hb, hs, B, C, S, h1, h2, h3, h4, h5, h6, h7, h8, h9, hz, h10⟩ := h
  exact ⟨nm, vb, vs, ub, us, gb, gs, hb, hs, B, C, S, h1, h2, h3, h4, h5, h6, h7, h8, h9, hz, h10.drew⟩
theorem dig_one : ∀ k, k < 10 → valB (48 + UInt8.ofNat k) = true := by decide
theorem dig_all (n : Nat) (h : n < 1000) : (Lib.decDigits n).length ≤ 3 ∧ (Lib.decDigits n).all valB = true := by
  by_cases h1 : n < 10
  · rw [Lib.decDigits_one h1]
    simp [dig_one n h1]
  · by_cases h2 : n < 100
    · rw [Lib.decDigits_two h1 h2]
      simp [dig_one (n / 10) (by omega), dig_one (n % 10) (by omega)]
    · rw [Lib.decDigits, dif_neg h1]
      by_cases h3 : n / 10 < 10
      · omega
      · rw [Lib.decDigits_two h3 (by omega)]
        simp [dig_one (n / 10 / 10) (by omega), dig_one (n / 10 % 10) (by omega), dig_one (n % 10) (by omega)]
def fT (i : Nat) : ByteArray := ⟨#[102]⟩ ++ ⟨(Lib.decDigits i).toArray⟩
theorem fT_facts (i : Nat) (h : i < 1000) : okB valB (fT i) = true ∧ (fT i).size ≤ 20 := by
  obtain ⟨h1, h2⟩ := dig_all i h
  have hs : (fT i).size = 1 + (Lib.decDigits i).length := by unfold fT; rw [ByteArray.size_append]; rfl
  refine ⟨?_, by omega⟩
  have hd : (fT i).data.toList = 102 :: Lib.decDigits i := by unfold fT; rw [ByteArray.data_append, Array.toList_append]; rfl
  unfold okB
  rw [hd, decide_eq_true (by omega), List.all_cons, h2]
  decide
theorem fDec_any (i : Nat) (h : i < 1000) (w : World) : Calls Tryz.prog 115 #[.int .i64 (i : Int)] w fun e w' => e = .returned (.string ⟨(Lib.decDigits i).toArray⟩) ∧ Below w.heap.size w w' := by
  rcases Nat.eq_zero_or_pos i with rfl | h0
  · exact D.Decimal_zero w
  · exact D.Decimal_pos i w h0 (by omega)
theorem PfM.grownF {w w' : World} {g : Nat} {v1 v2 : Value} {row : Option Nat} (h : PfM w g v1 v2) (hg : w.grownBy w' row) (hne : some g ≠ row) : PfM w' g v1 v2 := h.keep (hg.block g h.lt hne)

/-- the numbers of the blocks in their order -/
def FgN (r gp gq gb gs gu nb ns : Nat) : Prop := r + 1 < gp ∧ gp < gq ∧ (0 < nb → gb < gq) ∧ (0 < ns → gs < gq ∧ gu < gq) ∧ r + 1 < gb ∧ r + 1 < gs ∧ r + 1 < gu
/-- what the drawing of two proofs keeps -/
def FgS (b0 : Nat) (w0 : World) (r gp gq : Nat) (vb vs us : Value) (gb gs gu : Nat) (nm : ByteArray) (B : List Le) (S : List ByteArray) (W : World) : Prop :=
  Below b0 w0 W ∧ b0 ≤ r ∧ PfM W r (.slice none 0 0) (.slice none 0 0) ∧ PfM W (r + 1) (.slice none 0 0) (.slice none 0 0) ∧ PfM W gp vb vs ∧ RS 2 lcs W vb gb 0 B ∧ SS W vs gs 0 S ∧ SS W us gu 0 S ∧ ∃ ub hb C, PfM W gq ub us ∧ RS 2 lcs W ub hb 0 C ∧ FgB nm C ∧ r + 1 < hb ∧ ub.oneCell' = true
section
variable {b0 : Nat} {w0 : World} {r gp gq : Nat} {vb vs us : Value} {gb gs gu : Nat} {nm : ByteArray} {B : List Le} {S : List ByteArray} {W W' : World}
theorem FgS.later (h : FgS b0 w0 r gp gq vb vs us gb gs gu nm B S W) (hB : b0 ≤ W.heap.size) (hb : Below W.heap.size W W') : FgS b0 w0 r gp gq vb vs us gb gs gu nm B S W' := by
  obtain ⟨h1, h2, h3, h4, h5, h6, h7, h8, ub, hb', C, k1, k2, k3, k4, k5⟩ := h
  exact ⟨h1.trans (hb.mono hB), h2, h3.later hb, h4.later hb, h5.later hb, h6.later hb, h7.below hb h7.lt, h8.below hb h8.lt, ub, hb', C, k1.later hb, k2.later hb, k3, k4, k5⟩
theorem FgS.size (h : FgS b0 w0 r gp gq vb vs us gb gs gu nm B S W) : b0 ≤ W.heap.size := by
  have := h.2.2.1.lt
  have := h.2.1
  omega
theorem FgS.put (hn : FgN r gp gq gb gs gu B.length S.length) (h : FgS b0 w0 r gp gq vb vs us gb gs gu nm B S W) {un : Value} {g' : Nat} {C' : List Le} (hr : RS 2 lcs W un g' 0 C') (hg : gq < g') (hC : FgB nm C') (ho : un.oneCell' = true) : FgS b0 w0 r gp gq vb vs us gb gs gu nm B S (W.setCell ⟨gq, 0, none⟩ un) := by
  obtain ⟨h1, h2, h3, h4, h5, h6, h7, h8, ub, hb', C, k1, k2, k3, k4, k5⟩ := h
  obtain ⟨n1, n2, n3, n4, n5, n6, n7⟩ := hn
  have hs := grown_set W gq 0 un
  refine ⟨Below.setCell (p := ⟨gq, 0, none⟩) h1 (by simp; omega) _, h2, h3.grownF hs (by simp; omega), h4.grownF hs (by simp; omega), h5.grownF hs (by simp; omega), h6.grown hs (fun h0 => by have := n3 h0; simp; omega), h7.grown hs (fun h0 => by have := n4 h0; simp; omega), h8.grown hs (fun h0 => by have := n4 h0; simp; omega), un, g', C', k1.set0 _, hr.grown hs (fun _ => by simp; omega), hC, by omega, ho⟩
/-- the answer laid into its boxes -/
theorem FgS.end (hn : FgN r gp gq gb gs gu B.length S.length) (h1 : Below b0 w0 W) (h2 : b0 ≤ r) (h3 : PfM W r (.slice none 0 0) (.slice none 0 0)) (h4 : PfM W (r + 1) (.slice none 0 0) (.slice none 0 0)) (h6 : RS 2 lcs W vb gb 0 B) (h7 : SS W vs gs 0 S) (h8 : SS W us gu 0 S) {ub : Value} {hb' : Nat} {C : List Le} (k2 : RS 2 lcs W ub hb' 0 C) (k3 : FgB nm C) (k4 : r + 1 < hb') (hnm : okB nameB nm = true ∧ nm.size ≤ 12) (hBf : FgB nm B) (hS : S.length ≤ 8 ∧ ∀ s ∈ S, s.size = 1) :
    PfM ((((W.setCell ⟨r, 0, none⟩ vb).setCell ⟨r, 1, none⟩ vs).setCell ⟨r + 1, 0, none⟩ ub).setCell ⟨r + 1, 1, none⟩ us) r vb vs ∧ PfM ((((W.setCell ⟨r, 0, none⟩ vb).setCell ⟨r, 1, none⟩ vs).setCell ⟨r + 1, 0, none⟩ ub).setCell ⟨r + 1, 1, none⟩ us) (r + 1) ub us ∧ FgP b0 w0 (.returned (.tuple #[.string nm, .agg #[vb, vs], .agg #[ub, us]])) ((((W.setCell ⟨r, 0, none⟩ vb).setCell ⟨r, 1, none⟩ vs).setCell ⟨r + 1, 0, none⟩ ub).setCell ⟨r + 1, 1, none⟩ us) := by
  obtain ⟨n1, n2, n3, n4, n5, n6, n7⟩ := hn
  have s1 : ∀ (X : World) (j : Nat) (u : Value), X.grownBy (X.setCell ⟨r, j, none⟩ u) (some r) := fun X j u => grown_set X r j u
  have s2 : ∀ (X : World) (j : Nat) (u : Value), X.grownBy (X.setCell ⟨r + 1, j, none⟩ u) (some (r + 1)) := fun X j u => grown_set X (r + 1) j u
  have m1 : some r ≠ some (r + 1) := by simp
  have m2 : some (r + 1) ≠ some r := by simp
  refine ⟨(((h3.set0 _).set1 _).grownF (s2 _ _ _) m1).grownF (s2 _ _ _) m1, (((h4.grownF (s1 _ _ _) m2).grownF (s1 _ _ _) m2).set0 _).set1 _, nm, vb, vs, ub, us, gb, gs, hb', gu, B, C, S, rfl, hnm, hBf, k3, hS, ?_, ?_, ?_, ?_, ⟨by omega, by omega, by omega, by omega⟩, ?_⟩
  · exact (((h6.grown (s1 _ _ _) (fun _ => by simp; omega)).grown (s1 _ _ _) (fun _ => by simp; omega)).grown (s2 _ _ _) (fun _ => by simp; omega)).grown (s2 _ _ _) (fun _ => by simp; omega)
  · exact (((h7.grown (s1 _ _ _) (fun _ => by simp; omega)).grown (s1 _ _ _) (fun _ => by simp; omega)).grown (s2 _ _ _) (fun _ => by simp; omega)).grown (s2 _ _ _) (fun _ => by simp; omega)
  · exact (((k2.grown (s1 _ _ _) (fun _ => by simp; omega)).grown (s1 _ _ _) (fun _ => by simp; omega)).grown (s2 _ _ _) (fun _ => by simp; omega)).grown (s2 _ _ _) (fun _ => by simp; omega)
  · exact (((h8.grown (s1 _ _ _) (fun _ => by simp; omega)).grown (s1 _ _ _) (fun _ => by simp; omega)).grown (s2 _ _ _) (fun _ => by simp; omega)).grown (s2 _ _ _) (fun _ => by simp; omega)
  · exact Below.setCell (p := ⟨r + 1, 1, none⟩) (Below.setCell (p := ⟨r + 1, 0, none⟩) (Below.setCell (p := ⟨r, 1, none⟩) (Below.setCell (p := ⟨r, 0, none⟩) h1 (by simp; omega) _) (by simp; omega) _) (by simp; omega) _) (by simp; omega) _
end
/-- a text and two proofs, answered -/
theorem ret_pf3 {fn : Func} {Rp : Ending → World → Prop} {a : Act} {w : World} (s c d g g' : Nat) (b v1 v2 u1 u2 : Value) (hres : fn.results = #[.tmp s, .cell c 43, .cell d 43]) (hd : a.defers = []) (hb : a.tmps.getD s undef = b) (hp : a.tmps.getD c undef = .pointer (some ⟨g, 0, none⟩)) (hq : a.tmps.getD d undef = .pointer (some ⟨g', 0, none⟩))
    (hA : PfM w g v1 v2) (hC : PfM w g' u1 u2) (h : Rp (.returned (.tuple #[b, .agg #[v1, v2], .agg #[u1, u2]])) w) : bodyPost Tryz.prog fn Rp .ret a w := by
  have hr := load_pf hA
  have hr' := load_pf hC
  refine bodyPost_ret (v := .tuple #[b, .agg #[v1, v2], .agg #[u1, u2]]) ?_ hd h
  have hp' : a.tmps[c]?.getD undef = .pointer (some ⟨g, 0, none⟩) := by simpa using hp
  have hq' : a.tmps[d]?.getD undef = .pointer (some ⟨g', 0, none⟩) := by simpa using hq
  have hb' : a.tmps[s]?.getD undef = b := by simpa using hb
  simp [results, hres, asAddr, hr, hr', hp', hq', hb']
def FgL (b0 : Nat) (w0 : World) (r gp gq : Nat) (vb vs us : Value) (gb gs gu : Nat) (nm : ByteArray) (B : List Le) (S : List ByteArray) (i : Value) (wr : World) : Prop := ∃ m : Nat, m ≤ 600 ∧ i = .int .i64 m ∧ Hid (FgS b0 w0 r gp gq vb vs us gb gs gu nm B S wr)

set_option maxRecDepth 100000 in
set_option maxHeartbeats 2000000 in
theorem l11Forged_in (b0 : Nat) (w0 w : World) (g : Nat) (v : Value) (hc : Cur b0 w0 w g v) :
    Calls Tryz.prog 61 #[.pointer (some ⟨g, 0, none⟩)] w (FgP b0 w0) := by
  have hB := hc.size
  have hlt := hc.lt
  have hcA : Cur b0 w0 ((w.alloc (.cells #[.slice none 0 0, .slice none 0 0] 43)).alloc (.cells #[.slice none 0 0, .slice none 0 0] 43)) g v := hc.kept (grown_below (row := none) (((Below.refl _ _).alloc (Nat.le_refl _) _).alloc (by simp) _)) (by simp) hB (fun k hk => by cases hk)
  go_enter Tryz.func61, Tryz.ntmps61
  go_wp2_with fail
  have hp1 : PfM ((w.alloc (.cells #[.slice none 0 0, .slice none 0 0] 43)).alloc (.cells #[.slice none 0 0, .slice none 0 0] 43)) w.heap.size (.slice none 0 0) (.slice none 0 0) := (PfM.new w _ _).later ((Below.refl _ _).alloc (Nat.le_refl _) _)
  have hp2 : PfM ((w.alloc (.cells #[.slice none 0 0, .slice none 0 0] 43)).alloc (.cells #[.slice none 0 0, .slice none 0 0] 43)) (w.heap.size + 1) (.slice none 0 0) (.slice none 0 0) := by
    have h := PfM.new (w.alloc (.cells #[.slice none 0 0, .slice none 0 0] 43)) (.slice none 0 0) (.slice none 0 0)
    rw [World.size_alloc] at h
    exact h
  refine (l04Name_in b0 w0 _ g v hcA).mono ?_
  rintro e w1 ⟨nm, hnm, rfl, hc1, hg1⟩
  have CP := pickI_lit b0 w0 w1 g v 4 lvfL lvfC hc1 rfl (by omega) (by omega) (lvf_at w1)
  go_wp2_with fail
  refine CP.out.mono ?_
  rintro e w2 ⟨l, hl, rfl, hc2, hg2⟩
  go_wp2_with fail
  refine (l09Draw_in b0 w0 _ g v hc2).mono ?_
  rintro e w3 ⟨a3, c3, q3, L, rfl, hl8, hc3, hr3, hq3, _, hLk, hnil3, hg3⟩
  obtain ⟨r, hr⟩ : ∃ r, w.heap.size = r := ⟨_, rfl⟩
  have HB3 : Hid (PfM w3 r (.slice none 0 0) (.slice none 0 0) ∧ PfM w3 (r + 1) (.slice none 0 0) (.slice none 0 0) ∧ b0 ≤ r ∧ Below b0 w0 w3) := by
    rw [hr] at hp1 hp2 hlt hB
    have n1 : some r ≠ some g := by simp; omega
    have n2 : some (r + 1) ≠ some g := by simp; omega
    exact ⟨((hp1.grownF hg1 n1).grownF hg2 n1).grownF hg3 n1, ((hp2.grownF hg1 n2).grownF hg2 n2).grownF hg3 n2, hB, hc3.2.1⟩
  have hl8' : 0 ≤ l ∧ l ≤ 8 := by simp [lvfL] at hl; omega
  have hnk := nameL_ok nm hnm
  have hpv := sProveLeaf_lvl _ q3 0 L nm l 1 w3 hr3.1 (fun f hf => by have := leB_size (hLk.2.1 f hf); omega) (LV.leavesB_iff.2 hLk) hnk.1 hl8' (by omega) (by omega)
  have HPF : Hid (FgB nm (bkL L (idxN nm)) ∧ (bkL L (idxN nm)).length ≤ 8 ∧ ((sdA L (idxN nm) l 1).length ≤ 8 ∧ ∀ s ∈ sdA L (idxN nm) l 1, s.size = 1)) := by
    refine ⟨⟨ok_bk hLk _, fun f hf => by have := (bk_sub hf).2; omega⟩, Nat.le_trans (List.length_filter_le _ _) hl8, sdA_len _ _ _ _, ?_⟩
    unfold sdA
    split
    · intro s hs
      rw [sd_size (by omega) hLk _ _ s hs]
      rfl
    · simp
  rw [hr]
  generalize bkL L (idxN nm) = B at *
  generalize sdA L (idxN nm) l 1 = S at *
  clear hp1 hp2 hcA hc1 hg1 CP hc2 hg2 hg3 hnil3 hq3 hr3 hLk hl8 hl hl8' hlt hB hc hnm hc3
  go_wp2_with fail
  refine hpv.mono ?_
  rintro e w4 ⟨ab, cb, aS, cS, gb, gs, rfl, hrb, hss, ⟨hgb, hgs⟩, ⟨n1, n2⟩, hb4⟩
  have HB4 : Hid ((PfM w4 r (.slice none 0 0) (.slice none 0 0) ∧ PfM w4 (r + 1) (.slice none 0 0) (.slice none 0 0) ∧ b0 ≤ r ∧ Below b0 w0 w4) ∧ RS 2 lcs w4 (.slice ab B.length cb) gb 0 B ∧ SS w4 (.slice aS S.length cS) gs 0 S ∧ r + 1 < w3.heap.size ∧ w3.heap.size ≤ w4.heap.size) := ⟨⟨HB3.out.1.later hb4, HB3.out.2.1.later hb4, HB3.out.2.2.1, HB3.out.2.2.2.trans (hb4.mono (by have := HB3.out.1.lt; have := HB3.out.2.2.1; omega))⟩, hrb, hss, HB3.out.2.1.lt, hb4.size⟩
  have hpn := PfM.new w4 (.slice none 0 0) (.slice none 0 0)
  clear hrb hss hb4 HB3 hpv
  go_wp2_with (first | (refine wp_loadPf rfl _ rfl w4.heap.size _ _ rfl hfin ?_) | (refine wp_storePf rfl _ _ rfl w4.heap.size _ _ (.slice ab B.length cb) (.slice aS S.length cS) hpn rfl rfl rfl rfl ?_; intro hfin))
  obtain ⟨gp, hgp⟩ : ∃ gp, w4.heap.size = gp := ⟨_, rfl⟩
  have HA : Hid ((PfM ((w4.alloc (.cells #[.slice none 0 0, .slice none 0 0] 43)).setRow gp #[.slice ab B.length cb, .slice aS S.length cS]) r (.slice none 0 0) (.slice none 0 0) ∧ PfM ((w4.alloc (.cells #[.slice none 0 0, .slice none 0 0] 43)).setRow gp #[.slice ab B.length cb, .slice aS S.length cS]) (r + 1) (.slice none 0 0) (.slice none 0 0) ∧ b0 ≤ r ∧ Below b0 w0 ((w4.alloc (.cells #[.slice none 0 0, .slice none 0 0] 43)).setRow gp #[.slice ab B.length cb, .slice aS S.length cS])) ∧ RS 2 lcs ((w4.alloc (.cells #[.slice none 0 0, .slice none 0 0] 43)).setRow gp #[.slice ab B.length cb, .slice aS S.length cS]) (.slice ab B.length cb) gb 0 B ∧ SS ((w4.alloc (.cells #[.slice none 0 0, .slice none 0 0] 43)).setRow gp #[.slice ab B.length cb, .slice aS S.length cS]) (.slice aS S.length cS) gs 0 S ∧ PfM ((w4.alloc (.cells #[.slice none 0 0, .slice none 0 0] 43)).setRow gp #[.slice ab B.length cb, .slice aS S.length cS]) gp (.slice ab B.length cb) (.slice aS S.length cS) ∧ (r + 1 < gp ∧ (0 < B.length → gb < gp) ∧ (0 < S.length → gs < gp) ∧ r + 1 < gb ∧ r + 1 < gs)) := by
    have hbx : Below w4.heap.size w4 ((w4.alloc (.cells #[.slice none 0 0, .slice none 0 0] 43)).setRow w4.heap.size #[.slice ab B.length cb, .slice aS S.length cS]) := below_setRow ((Below.refl _ _).alloc (Nat.le_refl _) _) (Nat.le_refl _)
    obtain ⟨⟨h1, h2, h3, h4⟩, h5, h6, h7, h8⟩ := HB4.out
    rw [← hgp]
    refine ⟨⟨h1.later hbx, h2.later hbx, h3, h4.trans (hbx.mono (by have := h1.lt; omega))⟩, h5.later hbx, h6.below hbx h6.lt, hfin, by omega, fun h0 => ?_, h6.lt, by omega, by omega⟩
    obtain ⟨_, _, _, _, hx, _⟩ := h5
    exact (hx h0).2
  rw [hgp]
  clear HB4 hpn hfin hgb hgs
  generalize (w4.alloc (.cells #[.slice none 0 0, .slice none 0 0] 43)).setRow gp #[.slice ab B.length cb, .slice aS S.length cS] = wA at *
  clear hgp
  refine (l11Copy_any ab cb aS cS gb gs B S wA HA.out.2.1 HA.out.2.2.1 n1 n2 (by have := HPF.out.2.1; omega) (by have := HPF.out.2.2.1; omega)).mono ?_
  rintro e w5 ⟨a5, c5, a6, c6, g5, gu, rfl, hr5, hs5, ⟨k5, k6⟩, hb5⟩
  have hpn5 := PfM.new w5 (.slice none 0 0) (.slice none 0 0)
  go_wp2_with (refine wp_storePf rfl _ _ rfl w5.heap.size _ _ (.slice a5 B.length c5) (.slice a6 S.length c6) hpn5 rfl rfl rfl rfl ?_; intro hfin5)
  obtain ⟨gq, hgq⟩ : ∃ gq, w5.heap.size = gq := ⟨_, rfl⟩
  have HL : Hid (FgS b0 w0 r gp gq (.slice ab B.length cb) (.slice aS S.length cS) (.slice a6 S.length c6) gb gs gu nm B S ((w5.alloc (.cells #[.slice none 0 0, .slice none 0 0] 43)).setRow gq #[.slice a5 B.length c5, .slice a6 S.length c6]) ∧ FgN r gp gq gb gs gu B.length S.length) := by
    have hbx : Below w5.heap.size w5 ((w5.alloc (.cells #[.slice none 0 0, .slice none 0 0] 43)).setRow w5.heap.size #[.slice a5 B.length c5, .slice a6 S.length c6]) := below_setRow ((Below.refl _ _).alloc (Nat.le_refl _) _) (Nat.le_refl _)
    obtain ⟨⟨h1, h2, h3, h4⟩, h5, h6, h7, m1, m2, m3, m4, m5⟩ := HA.out
    have hbb := hb5.trans (hbx.mono hb5.size)
    have l1 := h7.lt
    have l2 := hb5.size
    rw [← hgq]
    refine ⟨⟨h4.trans (hbb.mono (by have := h1.lt; omega)), h3, h1.later hbb, h2.later hbb, h7.later hbb, h5.later hbb, h6.below hbb h6.lt, hs5.below hbx hs5.lt, _, g5, B, hfin5, hr5.later hbx, HPF.out.1, by omega, rfl⟩, by omega, by omega, fun h0 => ?_, fun h0 => ⟨?_, hs5.lt h0⟩, m4, m5, by omega⟩
    · have := m2 h0
      omega
    · have := m3 h0
      omega
  rw [hgq]
  clear HA hpn5 hfin5 hr5 hs5 k5 k6 hb5
  generalize (w5.alloc (.cells #[.slice none 0 0, .slice none 0 0] 43)).setRow gq #[.slice a5 B.length c5, .slice a6 S.length c6] = wB at *
  clear hgq
  have HN : Hid (FgN r gp gq gb gs gu B.length S.length) := HL.out.2
  have HST : Hid (FgL b0 w0 r gp gq (.slice ab B.length cb) (.slice aS S.length cS) (.slice a6 S.length c6) gb gs gu nm B S (.int .i64 0) wB) := ⟨0, by omega, rfl, HL.out.1⟩
  clear HL
  go_loopw [10] (fun i wr => FgL b0 w0 r gp gq (.slice ab B.length cb) (.slice aS S.length cS) (.slice a6 S.length c6) gb gs gu nm B S i wr) (fun i _ => 600 - (intOf i).toNat)
  case atStart => exact HST.out
  case round =>
    obtain ⟨m, hm, rfl, HI⟩ := hrel
    clear HST
    by_cases hlt : m < 600
    · have i1 : (m : Int) < 600 := by omega
      have hde := fDec_any m (by omega) wr
      obtain ⟨zok, zsz⟩ := fT_facts m (by omega)
      go_wp2_with fail
      refine hde.mono ?_
      rintro e w6 ⟨rfl, hb6⟩
      have H6 : Hid (FgS b0 w0 r gp gq (.slice ab B.length cb) (.slice aS S.length cS) (.slice a6 S.length c6) gb gs gu nm B S w6) := HI.out.later HI.out.size hb6
      have hlb : LV.leB ⟨nm, fT m⟩ = true := by unfold LV.leB; rw [hnk.1, zok]; rfl
      have hpb := LV.putB_yes (f := ⟨nm, fT m⟩) HPF.out.1.1 (by have := HPF.out.2.1; omega) hlb
      have hput := sLeafPut_any ab cb gb 0 B nm (fT m) w6 H6.out.2.2.2.2.2.1 n1 (fun f hf => by have := leB_size (HPF.out.1.1.2.1 f hf); omega) (by have := HPF.out.2.1; omega) (by omega) (by omega)
      rw [hpb, putR_yes hpb] at hput
      have HCn : Hid (FgB nm (LV.put B ⟨nm, fT m⟩)) := ⟨LV.putB_ok hpb, fun f hf => by
        rcases LV.mem_put.1 hf with rfl | hf'
        · rfl
        · exact HPF.out.1.2 f hf'.1⟩
      generalize LV.put B ⟨nm, fT m⟩ = C at *
      unfold fT at hput zsz
      rw [ByteArray.size_append] at zsz
      have hd1 : (⟨#[102]⟩ : ByteArray).size = 1 := rfl
      generalize (⟨(Lib.decDigits m).toArray⟩ : ByteArray) = DG at *
      have hdg : DG.size ≤ 20 := by omega
      have d0 := H6.out.2.2.2.2.1.c0
      clear HI hb6 hde zok hlb hpb
      go_wp2_with fail
      refine hput.mono ?_
      rintro e w7 ⟨a7, c7, g7, rfl, hr7, hg7, hb7⟩
      have H7 : Hid (FgS b0 w0 r gp gq (.slice ab B.length cb) (.slice aS S.length cS) (.slice a6 S.length c6) gb gs gu nm B S w7) := H6.out.later H6.out.size hb7
      have hq6 : gq < w6.heap.size := by
        obtain ⟨_, _, _, _, _, _, _, _, _, _, _, k1, _⟩ := H6.out
        exact k1.lt
      obtain ⟨ub, t0, f0, hk1⟩ : ∃ ub, w7.cell? ⟨gq, 0, none⟩ = some ub ∧ w7.frozen? ⟨gq, 0, none⟩ = false ∧ PfM w7 gq ub (.slice a6 S.length c6) := by
        obtain ⟨_, _, _, _, _, _, _, _, ub, _, _, k1, _⟩ := H7.out
        exact ⟨ub, k1.c0, k1.fr 0, k1⟩
      have H8 : Hid (FgS b0 w0 r gp gq (.slice ab B.length cb) (.slice aS S.length cS) (.slice a6 S.length c6) gb gs gu nm B S (w7.setCell ⟨gq, 0, none⟩ (.slice a7 C.length c7)) ∧ PfM (w7.setCell ⟨gq, 0, none⟩ (.slice a7 C.length c7)) gq (.slice a7 C.length c7) (.slice a6 S.length c6) ∧ RS 2 lcs (w7.setCell ⟨gq, 0, none⟩ (.slice a7 C.length c7)) (.slice a7 C.length c7) g7 0 C ∧ r + 1 < g7) := ⟨FgS.put HN.out H7.out hr7.1 (by omega) HCn.out rfl, hk1.set0 _, hr7.1.grown (grown_set _ _ _ _) (fun _ => by simp; omega), by have := HN.out.1; have := HN.out.2.1; omega⟩
      clear H6 H7 hr7 hg7 hb7 hput d0 hk1 hq6
      go_wp2_with fail
      clear t0 f0
      generalize w7.setCell ⟨gq, 0, none⟩ (.slice a7 C.length c7) = w8 at *
      have HCEL : Hid (∀ W, Below w8.heap.size w8 W → W.cell? ⟨gp, 0, none⟩ = some (.slice ab B.length cb) ∧ W.cell? ⟨gp, 1, none⟩ = some (.slice aS S.length cS) ∧ W.cell? ⟨gq, 0, none⟩ = some (.slice a7 C.length c7) ∧ W.cell? ⟨gq, 1, none⟩ = some (.slice a6 S.length c6)) := fun W hW => ⟨cell_up H8.out.1.2.2.2.2.1.c0 hW, cell_up H8.out.1.2.2.2.2.1.c1 hW, cell_up H8.out.2.1.c0 hW, cell_up H8.out.2.1.c1 hW⟩
      have HP1 : Hid (∀ W, Below w8.heap.size w8 W → Calls Tryz.prog 25 #[.string nm, .agg #[.slice a7 C.length c7, .slice a6 S.length c6], .int .i64 1] W fun e w' => e = .returned (.string (phA nm C S 1)) ∧ Below W.heap.size W w') := fun W hW => sProofHash_any nm _ _ g7 0 gu 0 C S 1 W (by omega) (H8.out.2.2.1.later hW) (fun f hf => by have := leB_size (HCn.out.1.2.1 f hf); omega) (H8.out.1.2.2.2.2.2.2.2.1.below hW H8.out.1.2.2.2.2.2.2.2.1.lt)
      have HP2 : Hid (∀ W, Below w8.heap.size w8 W → Calls Tryz.prog 25 #[.string nm, .agg #[.slice ab B.length cb, .slice aS S.length cS], .int .i64 1] W fun e w' => e = .returned (.string (phA nm B S 1)) ∧ Below W.heap.size W w') := fun W hW => sProofHash_any nm _ _ gb 0 gs 0 B S 1 W (by omega) (H8.out.1.2.2.2.2.2.1.later hW) (fun f hf => by have := leB_size (HPF.out.1.1.2.1 f hf); omega) (H8.out.1.2.2.2.2.2.2.1.below hW H8.out.1.2.2.2.2.2.2.1.lt)
      generalize phA nm C S 1 = X at *
      generalize phA nm B S 1 = Y at *
      have hb0 : Below w8.heap.size w8 w8.drew := (Below.refl _ _).drew
      obtain ⟨qb, hqb⟩ : ∃ qb, (X.toList == Y.toList) = qb := ⟨_, rfl⟩
      go_region_held3 (fun W => W.cell? ⟨gp, 0, none⟩ = some (.slice ab B.length cb) ∧ W.cell? ⟨gp, 1, none⟩ = some (.slice aS S.length cS) ∧ W.cell? ⟨gq, 0, none⟩ = some (.slice a7 C.length c7) ∧ W.cell? ⟨gq, 1, none⟩ = some (.slice a6 S.length c6)) (first | (go_keep; done) | exact HCEL.out _ hb0) (first | (go_at_call 25; first | ((with_reducible refine (HP1.out _ hb0).mono ?_); rintro e w9 ⟨rfl, hc9⟩; have hb0 := hb0.trans (hc9.mono hb0.size)) | ((with_reducible refine (HP2.out _ hb0).mono ?_); rintro e w10 ⟨rfl, hc10⟩; have hb0 := hb0.trans (hc10.mono hb0.size)) | fail) | fail)
      have H10 : Hid (FgS b0 w0 r gp gq (.slice ab B.length cb) (.slice aS S.length cS) (.slice a6 S.length c6) gb gs gu nm B S w10 ∧ PfM w10 gq (.slice a7 C.length c7) (.slice a6 S.length c6) ∧ RS 2 lcs w10 (.slice a7 C.length c7) g7 0 C ∧ r + 1 < g7) := ⟨H8.out.1.later H8.out.1.size hb0, H8.out.2.1.later hb0, H8.out.2.2.1.later hb0, H8.out.2.2.2⟩
      clear H8 HCEL HP1 HP2 hc9 hc10 hb0
      try rename_i hHeld
      try clear hHeld
      cases qb with
      | true =>
        obtain ⟨⟨h1, h2, h3, h4, h5, h6, h7, h8, _⟩, k1, k2, k4⟩ := H10.out
        have HE : Hid _ := FgS.end HN.out h1 h2 h3 h4 h6 h7 h8 k2 HCn.out k4 hnk HPF.out.1 HPF.out.2.2
        have e1 : gp ≠ r := by have := HN.out.1; omega
        have e2 : gp ≠ r + 1 := by have := HN.out.1; omega
        have e3 : gq ≠ r := by have := HN.out.1; have := HN.out.2.1; omega
        have e4 : gq ≠ r + 1 := by have := HN.out.1; have := HN.out.2.1; omega
        have t0 := h3.c0
        have t1 := h3.c1
        have t2 := h4.c0
        have t3 := h4.c1
        have f0 := h3.fr 0
        have f1 := h3.fr 1
        have f2 := h4.fr 0
        have f3 := h4.fr 1
        have d0 := h5.c0
        have d1 := h5.c1
        have d2 := k1.c0
        have d3 := k1.c1
        clear h1 h2 h3 h4 h5 h6 h7 h8 k1 k2 k4 H10 HPF HN HCn
        go_wp2_with fail
        go_region
        generalize (((w10.setCell ⟨r, 0, none⟩ (.slice ab B.length cb)).setCell ⟨r, 1, none⟩ (.slice aS S.length cS)).setCell ⟨r + 1, 0, none⟩ (.slice a7 C.length c7)).setCell ⟨r + 1, 1, none⟩ (.slice a6 S.length c6) = wF at HE ⊢
        clear t0 t1 t2 t3 f0 f1 f2 f3 d0 d1 d2 d3
        go_wp2
        exact ret_pf3 2 3 4 r (r + 1) (.string nm) _ _ _ _ rfl rfl rfl rfl rfl HE.out.1 HE.out.2.1 HE.out.2.2.drew
      | false =>
        have HK : Hid (FgS b0 w0 r gp gq (.slice ab B.length cb) (.slice aS S.length cS) (.slice a6 S.length c6) gb gs gu nm B S w10) := H10.out.1
        clear H10 HPF HN HCn
        go_wp2
        go_roundw
        case rel => exact ⟨m + 1, by omega, by go_num, HK⟩
        case measure => simp [intOf]; omega
    · have hme : m = 600 := by omega
      subst hme
      have i1 : ¬ ((600 : Nat) : Int) < 600 := by omega
      obtain ⟨h1, h2, h3, h4, h5, h6, h7, h8, ub, hb', C, k1, k2, k3, k4, k5⟩ := HI.out
      obtain ⟨au, cu, rfl⟩ := k2.shape
      have HE : Hid _ := FgS.end HN.out h1 h2 h3 h4 h6 h7 h8 k2 k3 k4 hnk HPF.out.1 HPF.out.2.2
      have n1 : gp ≠ r := by have := HN.out.1; omega
      have n2 : gp ≠ r + 1 := by have := HN.out.1; omega
      have n3 : gq ≠ r := by have := HN.out.1; have := HN.out.2.1; omega
      have n4 : gq ≠ r + 1 := by have := HN.out.1; have := HN.out.2.1; omega
      have t0 := h3.c0
      have t1 := h3.c1
      have t2 := h4.c0
      have t3 := h4.c1
      have f0 := h3.fr 0
      have f1 := h3.fr 1
      have f2 := h4.fr 0
      have f3 := h4.fr 1
      have d0 := h5.c0
      have d1 := h5.c1
      have d2 := k1.c0
      have d3 := k1.c1
      clear h1 h2 h3 h4 h5 h6 h7 h8 k1 k2 k3 k4 k5 HI HPF HN
      go_wp2_with fail
      go_region
      generalize (((wr.setCell ⟨r, 0, none⟩ (.slice ab B.length cb)).setCell ⟨r, 1, none⟩ (.slice aS S.length cS)).setCell ⟨r + 1, 0, none⟩ (.slice au C.length cu)).setCell ⟨r + 1, 1, none⟩ (.slice a6 S.length c6) = wF at HE ⊢
      clear t0 t1 t2 t3 f0 f1 f2 f3 d0 d1 d2 d3
      go_wp2
      exact ret_pf3 2 3 4 r (r + 1) (.string nm) _ _ _ _ rfl rfl rfl rfl rfl HE.out.1 HE.out.2.1 HE.out.2.2.drew

end Go.Proofs.YtmcejkfknbjjkaaGreatDoor
