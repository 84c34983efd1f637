/-
  The law FnExactShaBlock, walked.
-/
import Derived.Test.YtklmjdaikmokgaaDoorSbs
import Derived.ProofKit
import Derived.OpenShut
import Derived.ChangeOld
namespace Go.Proofs.YtklmjdaikmokgaaDoor
open Go.RowKit Go.BigFrame
set_option linter.unusedVariables false

/-- what ShaBlock answers -/
def AnsR (l : List Int) (b : ByteArray) (r : List Int) : Prop := (fitB l b → r = outI l b) ∧ (¬ fitB l b → r = l)
theorem ans_ex (l : List Int) (b : ByteArray) : ∃ r, AnsR l b r ∧ r.length = l.length := by
  by_cases h : fitB l b
  · exact ⟨outI l b, ⟨fun _ => rfl, fun hn => absurd h hn⟩, by rw [outI, stI_len]; exact h.1.symm⟩
  · exact ⟨l, ⟨fun hf => absurd hf h, fun _ => rfl⟩, rfl⟩

theorem sShaBlock_all (g n c : Nat) (l r : List Int) (b : ByteArray) (w : World) (hn : l.length = n) (hr : AnsR l b r) (hl : n ≤ 1100000) (hbs : b.size ≤ 1100000) (hi : IB w g l) :
    Calls Tryd.prog 23 #[.slice (some ⟨g, 0, none⟩) n c, .string b] w fun e w' => Ans w w' e r := by
  refine (sShaBlock_any g 0 n c l b w hn hl hbs hi.lt (fun j hj => by rw [Nat.zero_add]; exact hi.cell j hj)).mono fun e w' h => ?_
  by_cases hf : fitB l b
  · rw [hr.1 hf]; exact h.1 hf
  · rw [hr.2 hf]; exact h.2 hf
theorem ShaBlock_all (g n c : Nat) (l r : List Int) (b : ByteArray) (w : World) (hn : l.length = n) (hr : AnsR l b r) (hl : n ≤ 1100000) (hbs : b.size ≤ 1100000) (hi : IB w g l) (hK : TabK w) :
    Calls Tryd.prog 17 #[.slice (some ⟨g, 0, none⟩) n c, .string b] w fun e w' => Ans w w' e r := by
  have hc : ∀ j (h : j < l.length), w.cell? ⟨g, 0 + j, none⟩ = some (.int .i64 l[j]) := fun j hj => by rw [Nat.zero_add]; exact hi.cell j hj
  by_cases hf : fitB l b
  · rw [hr.1 hf]
    have h8 : n = 8 := by rw [← hn]; exact hf.1
    subst h8
    exact ShaBlock_yes g 0 c l b w hf hi.lt hc hK
  · rw [hr.2 hf]
    exact ShaBlock_no g 0 n c l b w hn hf hl hbs hi.lt hc

theorem IB.keep {w w' : World} {g : Nat} {l : List Int} (h : IB w g l) (e : w'.heap[g]? = w.heap[g]?) : IB w' g l := by
  obtain ⟨cur, h1, h2⟩ := h
  exact ⟨cur, by rw [e]; exact h1, h2⟩
def Only (g : Nat) (w w' : World) : Prop := ∀ k, k ≠ g → w'.heap[k]? = w.heap[k]?
def MkO (l : List Int) (w : World) (g B : Nat) (k i : Value) (wr : World) : Prop := ∃ m : Nat, m ≤ l.length ∧ i = .int .i64 m ∧ k = .int .i64 ((m : Int) + 1) ∧ IB wr g (mrow l m) ∧ Below B w wr ∧ Only g w wr

set_option maxRecDepth 100000 in
set_option maxHeartbeats 400000 in
theorem markIntS_only (g cap n B : Nat) (l : List Int) (w : World) (hn : l.length = n) (hl : n ≤ 1100000) (h : IB w g l) (hB : B ≤ g) :
    Calls Tryd.prog 27 #[.slice (some ⟨g, 0, none⟩) n cap, .int .i64 1] w fun e w' => e = .returned (.int .i64 ((n : Int) + 1)) ∧ IB w' g (marks n) ∧ Below B w w' ∧ Only g w w' := by
  subst hn
  have HST : Hid (MkO l w g B (.int .i64 1) (.int .i64 0) w) := ⟨0, by omega, rfl, rfl, by simpa [mrow, marks] using h, Below.refl _ _, fun k _ => rfl⟩
  clear h
  obtain ⟨n, hn⟩ : ∃ n, l.length = n := ⟨_, rfl⟩
  rw [hn] at hl ⊢
  go_enter Tryd.func27, Tryd.ntmps27
  go_wp2
  go_loopw [1, 5] (fun k i wr => MkO l w g B k i wr) (fun _ i _ => n - (intOf i).toNat)
  case atStart => exact HST.out
  case round =>
    obtain ⟨m, hm, rfl, rfl, hib, hbel, hon⟩ := hrel
    have hml := mrow_len l m hm
    clear HST
    by_cases hlt : m < n
    · have c0 := hib.cell m (by omega)
      have f0 := hib.frozen m
      have hs := hib.set m (by omega) ((m : Int) + 1)
      rw [mrow_step l m (by omega)] at hs
      have HS : Hid (IB (wr.setCell ⟨g, m, none⟩ (.int .i64 ((m : Int) + 1))) g (mrow l (m + 1)) ∧ Below B w (wr.setCell ⟨g, m, none⟩ (.int .i64 ((m : Int) + 1))) ∧ Only g w (wr.setCell ⟨g, m, none⟩ (.int .i64 ((m : Int) + 1)))) := ⟨hs, hbel.setCell (p := ⟨g, m, none⟩) hB _, fun k hk => (heap_setCell_other wr ⟨g, m, none⟩ k _ hk).trans (hon k hk)⟩
      generalize (mrow l m)[m]'(by omega) = X at *
      clear hs hib hbel hml hon
      have i1 : (m : Int) < (n : Int) := by omega
      have i2 : (0 : Int) ≤ (m : Int) := by omega
      go_wp2
      go_roundw
      case rel => exact ⟨m + 1, by omega, by go_num, by go_num, HS.out.1, HS.out.2.1, HS.out.2.2⟩
      case measure => simp [intOf]; omega
    · have hme : m = n := by omega
      have HF : Hid (IB wr g (marks n) ∧ Below B w wr ∧ Only g w wr) := by
        refine ⟨?_, hbel, hon⟩
        have e : mrow l m = marks n := by rw [hme, ← hn]; exact mrow_all l
        rw [← e]
        exact hib
      subst hme
      clear hib hbel hml hon
      go_wp2
      go_ret
      exact ⟨rfl, HF.out.1, HF.out.2.1, HF.out.2.2⟩

def IsRowI (w : World) (a : Option Addr) (len cap : Nat) (zs : List Int) : Prop :=
  (a = none ∧ len = 0 ∧ cap = 0 ∧ zs = []) ∨
  ∃ x, a = some x ∧ len ≤ cap ∧ cap ≤ maxLen ∧ zs.length = cap ∧ (∀ i, i < zs.length → w.cell? (x.add i) = some (.int .i64 (zs.getD i 0)))
theorem IsRowI.len {w : World} {a : Option Addr} {len cap : Nat} {zs : List Int} (h : IsRowI w a len cap zs) : len ≤ maxLen := by
  rcases h with ⟨_, rfl, _⟩ | ⟨x, _, h1, h2, _⟩
  · omega
  · omega
theorem sv_of_row {w : World} {a : Option Addr} {len cap : Nat} {zs : List Int} (h : IsRowI w a len cap zs) (hl : len ≤ 1048576) : ∃ (g o : Nat) (l : List Int), l.length = len ∧ SV w (.slice a len cap) g o l ∧ (0 < l.length → g < w.heap.size) := by
  rcases h with ⟨rfl, rfl, rfl, rfl⟩ | ⟨x, rfl, h1, h2, h3, hc⟩
  · exact ⟨0, 0, [], rfl, ⟨none, 0, rfl, by simp, fun h => absurd h (by simp), fun j hj => absurd hj (by simp)⟩, fun h => absurd h (by simp)⟩
  · have hlen : (zs.take len).length = len := by simp; omega
    have hadd : ∀ j, 0 < len → x.add j = ⟨x.block, x.off + j, none⟩ := fun j h0 => by
      have h4 := hc 0 (by omega)
      have e : x.add 0 = x := by unfold Addr.add; simp
      rw [e] at h4
      have hs := World.cell?_spot h4
      cases x
      simp at hs
      subst hs
      unfold Addr.add
      split <;> simp_all
    refine ⟨x.block, x.off, zs.take len, hlen, ⟨some x, cap, by rw [hlen], by omega, fun h0 => ?_, fun j hj => ?_⟩, fun h0 => ?_⟩
    · have := hadd 0 (by omega)
      have e : x.add 0 = x := by unfold Addr.add; simp
      rw [e] at this
      rw [this]
    · have h4 := hc j (by omega)
      rw [hadd j (by omega)] at h4
      rw [h4]
      simp [List.getD, List.getElem?_eq_getElem (show j < zs.length by omega)]
    · have h4 := hc 0 (by omega)
      have e : x.add 0 = x := by unfold Addr.add; simp
      rw [e] at h4
      rcases Nat.lt_or_ge x.block w.heap.size with hlt | hge
      · exact hlt
      · simp [World.cell?, Array.getElem?_eq_none hge] at h4

set_option maxRecDepth 100000 in
set_option maxHeartbeats 1000000 in
theorem blockLaw_any (v : Value) (n : Nat) (a : Option Addr) (cap : Nat) (hv0 : v = .slice a n cap) (ga oa : Nat) (l : List Int) (b : ByteArray) (w : World) (hn : l.length = n) (hl : n ≤ 1048576) (hbs : b.size ≤ 1048576) (hv : SV w v ga oa l) (hga : 0 < l.length → ga < w.heap.size) (hK : TabK w) :
    Calls Tryd.prog 6 #[v, .string b] w fun e w' => e = .returned (.bool true) ∧ Below w.heap.size w w' := by
  have hkp := hK.pos
  obtain ⟨r, hr, hrl⟩ := ans_ex l b
  rw [hn] at hrl
  have HTO : Hid (∀ w', Below w.heap.size w w' → Calls Tryd.prog 25 #[v] w' fun e w'' => ∃ g, e = .returned (.slice (some ⟨g, 0, none⟩) n n) ∧ w'.heap.size ≤ g ∧ IB w'' g l ∧ Below w'.heap.size w' w'') := fun w' hb => by
    have h1 : SV w' v ga oa l := by
      rcases Nat.eq_zero_or_pos l.length with h0 | h0
      · obtain ⟨a', c', q1, q2, q3, q4⟩ := hv
        exact ⟨a', c', q1, q2, q3, fun j hj => absurd hj (by omega)⟩
      · exact hv.below hb (hga h0)
    have := toIntS_any v ga oa l w' h1 (fun h0 => Nat.lt_of_lt_of_le (hga h0) hb.size)
    rw [hn] at this
    exact this
  have HK : Hid (∀ w', Below w.heap.size w w' → TabK w') := fun w' hb => hK.later hb hkp
  have HR : Hid (AnsR l b r) := hr
  subst hv0
  clear hK hr hv hga
  go_enter Tryd.func6, Tryd.ntmps6
  go_wp2_with fail
  refine (HTO.out w (Below.refl _ _)).mono ?_
  rintro e w1 ⟨g1, rfl, hg1, i1, hb1⟩
  go_wp2_with fail
  refine (sShaBlock_all g1 n n l r b w1 hn HR.out (by omega) (by omega) i1).mono ?_
  rintro e w2 ⟨gw, cw, rfl, hgw, iw, hb2⟩
  rw [hrl]
  have b2 : Below w.heap.size w w2 := hb1.trans (hb2.mono hb1.size)
  have lw := iw.lt
  clear hb1 hb2 i1
  go_wp2_with fail
  refine (HTO.out w2 b2).mono ?_
  rintro e w3 ⟨gx, rfl, hgx, ix, hb3⟩
  have hx0 : w.heap.size ≤ gx := Nat.le_trans b2.size hgx
  have b3 : Below w.heap.size w w3 := b2.trans (hb3.mono b2.size)
  have iw3 := iw.below hb3 lw
  have lx := ix.lt
  have lw3 : gw < w3.heap.size := Nat.lt_of_lt_of_le lw hb3.size
  have hwx : gw < gx := by omega
  clear hb3 iw b2
  go_wp2_with fail
  refine (ShaBlock_all gx n n l r b w3 hn HR.out (by omega) (by omega) ix (HK.out w3 b3)).mono ?_
  rintro e w4 ⟨gb, cb, rfl, hgb, ib, hb4⟩
  rw [hrl]
  have b4 : Below w.heap.size w w4 := b3.trans (hb4.mono b3.size)
  have iw4 := iw3.below hb4 lw3
  have ix4 := ix.below hb4 lx
  have lb := ib.lt
  have hxb : gx < gb := by omega
  clear hb4 iw3 ix
  go_wp2_with fail
  refine (eqIntS_yes _ _ gb 0 gw 0 r w4 (ib.sv cb n hrl (by omega)) (iw4.sv cw n hrl (by omega))).mono ?_
  rintro e w5 ⟨rfl, q5, rfl⟩
  have ib5 : IB (w4.drewN q5) gb r := ib
  have iw5 : IB (w4.drewN q5) gw r := iw4
  have ix5 : IB (w4.drewN q5) gx l := ix4
  have b5 : Below w.heap.size w (w4.drewN q5) := b4.trans ⟨rfl, rfl, rfl, Nat.le_refl _, fun _ _ => rfl⟩
  have lb5 : gb < (w4.drewN q5).heap.size := lb
  clear ib iw4 ix4 b4 lb
  generalize w4.drewN q5 = v5 at *
  go_wp2_with fail
  refine (HTO.out v5 b5).mono ?_
  rintro e w6 ⟨gy, rfl, hgy, iy, hb6⟩
  have b6 : Below w.heap.size w w6 := b5.trans (hb6.mono b5.size)
  have ib6 := ib5.below hb6 lb5
  have iw6 := iw5.below hb6 (by omega)
  have ix6 := ix5.below hb6 (by omega)
  have lb6 : gb < w6.heap.size := Nat.lt_of_lt_of_le lb5 hb6.size
  clear hb6 ib5 iw5 ix5 b5 lb5
  go_wp2_with fail
  refine (eqIntS_yes _ _ gx 0 gy 0 l w6 (ix6.sv n n hn (by omega)) (iy.sv n n hn (by omega))).mono ?_
  rintro e w7 ⟨rfl, q7, rfl⟩
  have ib7 : IB (w6.drewN q7) gb r := ib6
  have iw7 : IB (w6.drewN q7) gw r := iw6
  have ix7 : IB (w6.drewN q7) gx l := ix6
  have b7 : Below w.heap.size w (w6.drewN q7) := b6.trans ⟨rfl, rfl, rfl, Nat.le_refl _, fun _ _ => rfl⟩
  have lb7 : gb < (w6.drewN q7).heap.size := lb6
  clear ib6 iw6 ix6 b6 lb6 iy
  generalize w6.drewN q7 = v7 at *
  go_wp2_with fail
  refine (markIntS_only gx n n gx l v7 hn (by omega) ix7 (Nat.le_refl _)).mono ?_
  rintro e w8 ⟨rfl, _, hb8, ho8⟩
  have b8 : Below w.heap.size w w8 := b7.trans (hb8.mono hx0)
  have ib8 := ib7.keep (ho8 gb (by omega))
  have iw8 := iw7.keep (ho8 gw (by omega))
  have lb8 : gb < w8.heap.size := Nat.lt_of_lt_of_le lb7 hb8.size
  clear ib7 iw7 ix7 b7 lb7 hb8 ho8
  have hnn : ¬ (n : Int) + 1 < 0 := by omega
  go_wp2_with fail
  refine (eqIntS_yes _ _ gb 0 gw 0 r w8 (ib8.sv cb n hrl (by omega)) (iw8.sv cw n hrl (by omega))).mono ?_
  rintro e w9 ⟨rfl, q9, rfl⟩
  have ib9 : IB (w8.drewN q9) gb r := ib8
  have iw9 : IB (w8.drewN q9) gw r := iw8
  have b9 : Below w.heap.size w (w8.drewN q9) := b8.trans ⟨rfl, rfl, rfl, Nat.le_refl _, fun _ _ => rfl⟩
  clear ib8 iw8 b8 lb8
  generalize w8.drewN q9 = v9 at *
  go_wp2_with fail
  refine (markIntS_only gb cb n gb r v9 hrl (by omega) ib9 (Nat.le_refl _)).mono ?_
  rintro e w10 ⟨rfl, ib10, hb10, ho10⟩
  have b10 : Below w.heap.size w w10 := b9.trans (hb10.mono (by omega))
  have iw10 := iw9.keep (ho10 gw (by omega))
  have lb10 := ib10.lt
  have lw10 := iw10.lt
  clear ib9 iw9 b9 hb10 ho10
  go_wp2_with fail
  refine (heldIntS_any gb cb n w10 (by omega) ib10).mono ?_
  rintro e w11 ⟨rfl, rfl⟩
  go_wp2_with fail
  refine (HTO.out _ b10).mono ?_
  rintro e w12 ⟨gz, rfl, hgz, iz, hb12⟩
  have b12 := b10.trans (hb12.mono b10.size)
  have ib12 := ib10.below hb12 lb10
  have iw12 := iw10.below hb12 lw10
  have lb12 := ib12.lt
  have lw12 := iw12.lt
  clear ib10 iw10 hb12 b10
  go_wp2_with fail
  refine (ShaBlock_all gz n n l r b w12 hn HR.out (by omega) (by omega) iz (HK.out w12 b12)).mono ?_
  rintro e w13 ⟨gh, ch, rfl, hgh, ih, hb13⟩
  rw [hrl]
  have b13 := b12.trans (hb13.mono b12.size)
  have ib13 := ib12.below hb13 lb12
  have iw13 := iw12.below hb13 lw12
  clear ib12 iw12 hb13 b12 iz
  go_wp2_with fail
  refine (eqIntS_yes _ _ gh 0 gw 0 r w13 (ih.sv ch n hrl (by omega)) (iw13.sv cw n hrl (by omega))).mono ?_
  rintro e w14 ⟨rfl, q14, rfl⟩
  have ib14 : IB (w13.drewN q14) gb (marks n) := ib13
  have b14 : Below w.heap.size w (w13.drewN q14) := b13.trans ⟨rfl, rfl, rfl, Nat.le_refl _, fun _ _ => rfl⟩
  clear ib13 iw13 b13 ih
  generalize w13.drewN q14 = v14 at *
  go_wp2_with fail
  refine (heldIntS_any gb cb n v14 (by omega) ib14).mono ?_
  rintro e w15 ⟨rfl, rfl⟩
  go_wp2
  go_ret
  exact ⟨rfl, b14⟩
end Go.Proofs.YtklmjdaikmokgaaDoor
