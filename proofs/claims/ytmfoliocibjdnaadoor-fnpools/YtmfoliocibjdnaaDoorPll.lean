/-
  The walk of the law FnPools: it answers true of all that is drawn.
-/
import Derived.Test.YtmfoliocibjdnaaDoorSgy
import Derived.Test.YtmfoliocibjdnaaDoorPkG
import Derived.Test.YtmfoliocibjdnaaDoorTrn
namespace Go.Proofs.YtmfoliocibjdnaaDoor
open Go.RowKit Go.BigFrame
set_option linter.unusedVariables false
set_option linter.unusedSimpArgs false

/-- all that the law has laid -/
def Fx (w1 : World) (p7 p9 : Nat) (A : Int) (v1 v2 v3 u1 u2 u3 : Value) (g1 g2 g3 h1 h2 h3 : Nat) (O S D L : List ByteArray) (gl : Nat) (W : World) : Prop :=
  SgM W p7 A v1 v2 v3 ∧ SgM W p9 A u1 u2 u3 ∧ (TS W v1 g1 O ∧ TS W v2 g2 S ∧ TS W v3 g3 D) ∧ (TS W u1 h1 O ∧ TS W u2 h2 S ∧ TS W u3 h3 D) ∧ TB W gl L ∧ Below w1.heap.size w1 W
theorem Fx.later {w1 W W' : World} {p7 p9 : Nat} {A : Int} {v1 v2 v3 u1 u2 u3 : Value} {g1 g2 g3 h1 h2 h3 gl : Nat} {O S D L : List ByteArray} (h : Fx w1 p7 p9 A v1 v2 v3 u1 u2 u3 g1 g2 g3 h1 h2 h3 O S D L gl W) (hb : Below W.heap.size W W') : Fx w1 p7 p9 A v1 v2 v3 u1 u2 u3 g1 g2 g3 h1 h2 h3 O S D L gl W' :=
  ⟨h.1.later hb, h.2.1.later hb, ⟨h.2.2.1.1.later hb, h.2.2.1.2.1.later hb, h.2.2.1.2.2.later hb⟩, ⟨h.2.2.2.1.1.later hb, h.2.2.2.1.2.1.later hb, h.2.2.2.1.2.2.later hb⟩, h.2.2.2.2.1.below hb h.2.2.2.2.1.lt, h.2.2.2.2.2.trans (hb.mono h.2.2.2.2.2.size)⟩
def oneB : ByteArray := ⟨#[111, 110, 101]⟩

theorem TS.head {w : World} {x : Option Addr} {n c g : Nat} {l : List ByteArray} (h : TS w (.slice x n c) g l) (h0 : 0 < l.length) : x = some ⟨g, 0, none⟩ := by
  obtain ⟨a', c', hv, _, hA, _⟩ := h.ss
  simp at hv
  rw [hv.1]
  exact hA h0
theorem TS.at {w : World} {v : Value} {g : Nat} {l : List ByteArray} (h : TS w v g l) (j : Nat) (hj : j < l.length) : w.cell? ⟨g, j, none⟩ = some (.string (gB l j)) := by
  obtain ⟨_, _, _, _, _, hc⟩ := h.ss
  have := hc j hj
  rw [gB_eq, Nat.zero_add] at this
  exact this

def PoR (w7 : World) (i : Value) (wr : World) : Prop := ∃ m : Nat, m ≤ 8 ∧ i = .int .i64 m ∧ Below w7.heap.size w7 wr

set_option maxRecDepth 100000 in
set_option maxHeartbeats 4000000 in
theorem poolsLaw_any (ao : Option Addr) (len cap : Nat) (w : World) (hc : Code w.heap.size w (.slice ao len cap)) (hK : TabK w) (hF : TabF w) :
    Calls Tryd.prog 6 #[.slice ao len cap] w fun e w' => e = .returned (.bool true) ∧ Below w.heap.size w w' := by
  have hl : len ≤ 1048576 := by
    obtain ⟨_, _, _, _, _, he, hl, _⟩ := hc
    simp at he
    omega
  have HT : Hid (Tb w) := ⟨hK, hF⟩
  have HC : Hid (Code w.heap.size w (.slice ao len cap)) := hc
  clear hc hK hF
  go_enter Tryd.func6, Tryd.ntmps6
  go_wp2_with fail
  refine (big_no ao len cap _ hl).mono ?_
  rintro e w1 ⟨rfl, rfl⟩
  go_wp2_with fail
  refine (DrawSignText_any _ ao len cap hl HC.out).mono ?_
  rintro e w2 ⟨s, x, n, c, g, o, l, y, t, rfl, hs, ht, hy, hln, hn, hsz, hss, b2⟩
  have HI := SignText_any s t x n c g o l y w2 hs ht hln hn hsz hss (HT.out.later b2)
  have HS : Hid (∀ W, Below w2.heap.size w2 W → Calls Tryd.prog 38 #[.string s, .slice x n c, .int .i64 y, .string t] W (SgAns s t l y W)) := fun W hW => sSignText_any s t x n c g o l y W hs ht hln hn (hss.below hW hss.lt)
  clear hss
  obtain ⟨O, hO⟩ : ∃ O, sgO s t l y = O := ⟨_, rfl⟩
  obtain ⟨S, hS⟩ : ∃ S, sgS s t l y = S := ⟨_, rfl⟩
  obtain ⟨D, hD⟩ : ∃ D, sgD s t l y = D := ⟨_, rfl⟩
  obtain ⟨A, hA⟩ : ∃ A, sgAt s t l y = A := ⟨_, rfl⟩
  have HE : Hid (sgO s t l y = O ∧ sgS s t l y = S) := ⟨hO, hS⟩
  unfold SgAns at HI HS
  rw [hO, hS, hD, hA] at HI HS
  clear hO hS hD hA
  obtain ⟨ok, hok⟩ : ∃ ok, okG s t l y = ok := ⟨_, rfl⟩
  have HOK : Hid (okG s t l y = ok) := hok
  rw [hok] at HI HS
  clear hok
  go_wp2_with fail
  refine HI.mono ?_
  rintro e w3 ⟨v, rfl, ⟨v1, v2, v3, g1, g2, g3, rfl, ⟨hv1, hv2, hv3⟩, _, _⟩, hb3⟩
  have b3 := b2.trans (hb3.mono b2.size)
  obtain ⟨a1, c1, rfl, hq1⟩ := id hv1
  obtain ⟨a2, c2, rfl, hq2⟩ := id hv2
  obtain ⟨a3, c3, rfl, hq3⟩ := id hv3
  obtain ⟨nO, hnO⟩ : ∃ n, O.length = n := ⟨_, rfl⟩
  obtain ⟨nS, hnS⟩ : ∃ n, S.length = n := ⟨_, rfl⟩
  obtain ⟨nD, hnD⟩ : ∃ n, D.length = n := ⟨_, rfl⟩
  have HNL : Hid (O.length = nO ∧ S.length = nS ∧ D.length = nD) := ⟨hnO, hnS, hnD⟩
  rw [hnO] at hv1 ⊢
  rw [hnS] at hv2 ⊢
  rw [hnD] at hv3 ⊢
  have H3 : Hid (TS w3 (.slice a1 nO c1) g1 O ∧ TS w3 (.slice a2 nS c2) g2 S ∧ TS w3 (.slice a3 nD c3) g3 D ∧ Below w1.heap.size w1 w3 ∧ Below w2.heap.size w2 w3) := ⟨hv1, hv2, hv3, b3, hb3⟩
  clear hv1 hv2 hv3 hq1 hq2 hq3 b3 hb3 HI b2 hnO hnS hnD
  go_wp2_with fail
  refine (HS.out _ (H3.out.2.2.2.2.alloc H3.out.2.2.2.2.size _)).mono ?_
  rintro e w4 ⟨u, rfl, ⟨u1, u2, u3, h1, h2, h3, rfl, ⟨hu1, hu2, hu3⟩, _, _⟩, hb4⟩
  have hA3 : Below w3.heap.size w3 (w3.alloc (.cells #[.int .i64 A, .slice a1 nO c1, .slice a2 nS c2, .slice a3 nD c3] 26)) := (Below.refl _ _).alloc (Nat.le_refl _) _
  have hs7 := (SgM.new w3 A (.slice a1 nO c1) (.slice a2 nS c2) (.slice a3 nD c3)).later hb4
  have hb34 := hA3.trans (hb4.mono hA3.size)
  obtain ⟨x1, d1, rfl, hq1⟩ := id hu1
  obtain ⟨x2, d2, rfl, hq2⟩ := id hu2
  obtain ⟨x3, d3, rfl, hq3⟩ := id hu3
  rw [HNL.out.1] at hu1 ⊢
  rw [HNL.out.2.1] at hu2 ⊢
  rw [HNL.out.2.2] at hu3 ⊢
  have hA4 : Below w4.heap.size w4 (w4.alloc (.cells #[.int .i64 A, .slice x1 nO d1, .slice x2 nS d2, .slice x3 nD d3] 26)) := (Below.refl _ _).alloc (Nat.le_refl _) _
  have b4 := H3.out.2.2.2.1.trans (hb34.mono H3.out.2.2.2.1.size)
  have H5 : Hid (SgM (w4.alloc (.cells #[.int .i64 A, .slice x1 nO d1, .slice x2 nS d2, .slice x3 nD d3] 26)) w3.heap.size A (.slice a1 nO c1) (.slice a2 nS c2) (.slice a3 nD c3) ∧ SgM (w4.alloc (.cells #[.int .i64 A, .slice x1 nO d1, .slice x2 nS d2, .slice x3 nD d3] 26)) w4.heap.size A (.slice x1 nO d1) (.slice x2 nS d2) (.slice x3 nD d3) ∧ (TS (w4.alloc (.cells #[.int .i64 A, .slice x1 nO d1, .slice x2 nS d2, .slice x3 nD d3] 26)) (.slice a1 nO c1) g1 O ∧ TS (w4.alloc (.cells #[.int .i64 A, .slice x1 nO d1, .slice x2 nS d2, .slice x3 nD d3] 26)) (.slice a2 nS c2) g2 S ∧ TS (w4.alloc (.cells #[.int .i64 A, .slice x1 nO d1, .slice x2 nS d2, .slice x3 nD d3] 26)) (.slice a3 nD c3) g3 D) ∧ (TS (w4.alloc (.cells #[.int .i64 A, .slice x1 nO d1, .slice x2 nS d2, .slice x3 nD d3] 26)) (.slice x1 nO d1) h1 O ∧ TS (w4.alloc (.cells #[.int .i64 A, .slice x1 nO d1, .slice x2 nS d2, .slice x3 nD d3] 26)) (.slice x2 nS d2) h2 S ∧ TS (w4.alloc (.cells #[.int .i64 A, .slice x1 nO d1, .slice x2 nS d2, .slice x3 nD d3] 26)) (.slice x3 nD d3) h3 D) ∧ Below w1.heap.size w1 (w4.alloc (.cells #[.int .i64 A, .slice x1 nO d1, .slice x2 nS d2, .slice x3 nD d3] 26))) :=
    ⟨hs7.later hA4, SgM.new _ _ _ _ _, ⟨(H3.out.1.later hb34).later hA4, (H3.out.2.1.later hb34).later hA4, (H3.out.2.2.1.later hb34).later hA4⟩, ⟨hu1.later hA4, hu2.later hA4, hu3.later hA4⟩, b4.trans (hA4.mono b4.size)⟩
  have HC5 : Hid (Code (w4.alloc (.cells #[.int .i64 A, .slice x1 nO d1, .slice x2 nS d2, .slice x3 nD d3] 26)).heap.size (w4.alloc (.cells #[.int .i64 A, .slice x1 nO d1, .slice x2 nS d2, .slice x3 nD d3] 26)) (.slice ao len cap)) := code_later HC.out H5.out.2.2.2.2
  clear hs7 hb34 hu1 hu2 hu3 hq1 hq2 hq3 hA3 hA4 b4 hb4 H3 HS
  go_wp2_with fail
  refine (DrawPlaces_any _ _ HC5.out).mono ?_
  rintro e w5 ⟨up, rfl, hp5, hb5⟩
  obtain ⟨gp, cp, xs, rfl, hxl, hxs, hgp, hgp5, hcp⟩ := hp5
  have c50 := hcp 0 (by omega)
  have hp0 := hxs _ (List.getElem_mem (show 0 < xs.length by omega))
  generalize xs[0]'(by omega) = p0 at *
  have b5 := H5.out.2.2.2.2.trans (hb5.mono H5.out.2.2.2.2.size)
  have hpo := PoolOf_any oneB w5 (by decide) (HT.out.later b5)
  unfold oneB at hpo
  clear hxs hcp HC5
  go_wp2_with fail
  refine hpo.mono ?_
  rintro e w6 ⟨gl, rfl, hgl, htb, hb6⟩
  have b6 := b5.trans (hb6.mono b5.size)
  go_wp2_with fail
  refine (SignBitsOf_any t _ (HT.out.later b6)).mono ?_
  rintro e w7 ⟨rfl, hb7⟩
  have hb57 := (hb5.trans ((hb6.trans (hb7.mono hb6.size)).mono hb5.size))
  have HFX : Hid (Fx w1 w3.heap.size w4.heap.size A (.slice a1 nO c1) (.slice a2 nS c2) (.slice a3 nD c3) (.slice x1 nO d1) (.slice x2 nS d2) (.slice x3 nD d3) g1 g2 g3 h1 h2 h3 O S D (poolL oneB) gl w7) := by
    have b7 := b6.trans (hb7.mono b6.size)
    exact ⟨H5.out.1.later hb57, H5.out.2.1.later hb57, ⟨H5.out.2.2.1.1.later hb57, H5.out.2.2.1.2.1.later hb57, H5.out.2.2.1.2.2.later hb57⟩, ⟨H5.out.2.2.2.1.1.later hb57, H5.out.2.2.2.1.2.1.later hb57, H5.out.2.2.2.1.2.2.later hb57⟩, htb.below hb7 htb.lt, b7⟩
  clear b5 b6 hb5 hb6 hb7 htb hb57 H5 hpo c50
  have hke : (p0 : Int) % 16 = ((p0 % 16 : Nat) : Int) := by omega
  have hk16 : p0 % 16 < 16 := Nat.mod_lt _ (by omega)
  rw [hke]
  clear hke
  generalize p0 % 16 = k at *
  generalize w3.heap.size = p7 at *
  generalize w4.heap.size = p9 at *
  have i1 : (k : Int) < 16 := by omega
  have i2 : (0 : Int) ≤ (k : Int) := by omega
  cases ok with
  | false =>
    go_wp2
    go_loopw [15] (fun i wr => i = .int .i64 0 ∧ wr = w7) (fun _ _ => 0)
    case atStart => exact ⟨rfl, rfl⟩
    case round =>
      obtain ⟨rfl, rfl⟩ := hrel
      have HBW : Hid (Below wr.heap.size wr wr) := Below.refl _ _
      have HF := HFX.out.later HBW.out
      have hpk := poolL_at oneB k (by rw [poolL_len]; omega)
      have HQ : Hid (∀ W, Below wr.heap.size wr W → W.cell? ⟨p7, 0, none⟩ = some (.int .i64 A) ∧ W.cell? ⟨p7, 1, none⟩ = some (.slice a1 nO c1) ∧ W.cell? ⟨p7, 2, none⟩ = some (.slice a2 nS c2) ∧ W.cell? ⟨p7, 3, none⟩ = some (.slice a3 nD c3) ∧ W.cell? ⟨p9, 0, none⟩ = some (.int .i64 A) ∧ W.cell? ⟨p9, 1, none⟩ = some (.slice x1 nO d1) ∧ W.cell? ⟨p9, 2, none⟩ = some (.slice x2 nS d2) ∧ W.cell? ⟨p9, 3, none⟩ = some (.slice x3 nD d3) ∧ W.cell? ⟨gl, k, none⟩ = some (.string (pubA oneB (k : Nat)))) := fun W hW => by
        have h := HF.later hW
        exact ⟨h.1.c0, h.1.c1, h.1.c2, h.1.c3, h.2.1.c0, h.2.1.c1, h.2.1.c2, h.2.1.c3, by rw [h.2.2.2.2.1.cell k (by rw [poolL_len]; omega), hpk]⟩
      have HC1 : Hid (∀ W, Below wr.heap.size wr W → Calls Tryd.prog 25 #[.agg #[.int .i64 A, .slice a1 nO c1, .slice a2 nS c2, .slice a3 nD c3], .agg #[.int .i64 A, .slice x1 nO d1, .slice x2 nS d2, .slice x3 nD d3]] W fun e w' => e = .returned (.bool true) ∧ Below wr.heap.size wr w') := fun W hW => by
        have h := HF.later hW
        exact (sameSig_yes A _ _ _ _ _ _ g1 0 g2 0 g3 0 h1 0 h2 0 h3 0 O S D W h.2.2.1.1.ss h.2.2.1.2.1.ss h.2.2.1.2.2.ss h.2.2.2.1.1.ss h.2.2.2.1.2.1.ss h.2.2.2.1.2.2.ss).mono fun e w' ⟨he, hb⟩ => ⟨he, hW.trans (hb.mono hW.size)⟩
      have HC2 : Hid (∀ W, Below wr.heap.size wr W → Calls Tryd.prog 44 #[.string ⟨#[111, 110, 101]⟩, .int .i64 (k : Int)] W fun e w' => e = .returned (.string (pubA oneB (k : Nat))) ∧ Below wr.heap.size wr w') := fun W hW =>
        (PublicOf_any oneB k W (by decide) (HT.out.later (HF.later hW).2.2.2.2.2)).mono fun e w' ⟨he, hb⟩ => ⟨he, hW.trans (hb.mono hW.size)⟩
      have HC3 : Hid (∀ W, Below wr.heap.size wr W → Calls Tryd.prog 45 #[.slice (some ⟨gl, 0, none⟩) 16 16] W fun e w' => e = .returned (.string (rootA (poolL oneB))) ∧ Below wr.heap.size wr w') := fun W hW =>
        (PoolRoot_any _ gl 0 (poolL oneB) W ((HF.later hW).2.2.2.2.1.ss 16 16 (poolL_len _) (by omega)) (HT.out.later (HF.later hW).2.2.2.2.2)).mono fun e w' ⟨he, hb⟩ => ⟨he, hW.trans (hb.mono hW.size)⟩
      have HC4 : Hid (∀ W, Below wr.heap.size wr W → Calls Tryd.prog 46 #[.slice (some ⟨gl, 0, none⟩) 16 16] W fun e w' => e = .returned (.string (rootA (poolL oneB))) ∧ Below wr.heap.size wr w') := fun W hW =>
        (sPoolRoot_any _ gl 0 (poolL oneB) W ((HF.later hW).2.2.2.2.1.ss 16 16 (poolL_len _) (by omega))).mono fun e w' ⟨he, hb⟩ => ⟨he, hW.trans (hb.mono hW.size)⟩
      have hRz := rootA_one oneB
      have HB1 : Hid (Below w1.heap.size w1 wr) := HF.2.2.2.2.2
      clear hpk HF
      generalize rootA (poolL oneB) = R at *
      generalize pubA oneB (k : Nat) = PK at *
      have hRi : (R.size : Int) = 16 := by omega
      go_wp2
      go_region_held3 (fun W => W.cell? ⟨p7, 0, none⟩ = some (.int .i64 A) ∧ W.cell? ⟨p7, 1, none⟩ = some (.slice a1 nO c1) ∧ W.cell? ⟨p7, 2, none⟩ = some (.slice a2 nS c2) ∧ W.cell? ⟨p7, 3, none⟩ = some (.slice a3 nD c3) ∧ W.cell? ⟨p9, 0, none⟩ = some (.int .i64 A) ∧ W.cell? ⟨p9, 1, none⟩ = some (.slice x1 nO d1) ∧ W.cell? ⟨p9, 2, none⟩ = some (.slice x2 nS d2) ∧ W.cell? ⟨p9, 3, none⟩ = some (.slice x3 nD d3) ∧ W.cell? ⟨gl, k, none⟩ = some (.string PK)) (first | exact HQ.out _ hb | exact HQ.out _ (Below.refl _ _).drew | go_keep) ((first
        | (go_at_call 25; refine (HC1.out _ (by first | exact hb | exact (Below.refl _ _).drew)).mono ?_; rintro e wq ⟨rfl, hb⟩)
        | (go_at_call 44; refine (HC2.out _ (by first | exact hb | exact (Below.refl _ _).drew)).mono ?_; rintro e wq ⟨rfl, hb⟩)
        | (go_at_call 45; refine (HC3.out _ (by first | exact hb | exact (Below.refl _ _).drew)).mono ?_; rintro e wq ⟨rfl, hb⟩)
        | (go_at_call 46; refine (HC4.out _ (by first | exact hb | exact (Below.refl _ _).drew)).mono ?_; rintro e wq ⟨rfl, hb⟩)))
      all_goals
        go_wp2
        go_ret
        exact ⟨rfl, HB1.out.trans (hb.mono HB1.out.size)⟩
  | true =>
    obtain ⟨hl16, hy2, ht2, hk2⟩ := of_decide_eq_true HOK.out
    obtain ⟨a, rfl⟩ := Int.eq_ofNat_of_zero_le hy2.1
    have ha : a ≤ 15 := by omega
    have hbb := bitsB_lt t
    have hOe : O = opN s a (bitsB t) 8 := by
      rw [← HE.out.1]
      unfold sgO
      rw [HOK.out]
      rfl
    have hSe : S = shN s a (bitsB t) 8 := by
      rw [← HE.out.2]
      unfold sgS
      rw [HOK.out]
      rfl
    obtain ⟨b, hbe⟩ : ∃ b, bitsB t = b := ⟨_, rfl⟩
    rw [hbe] at hbb hOe hSe ⊢
    have hO8 : O.length = 8 := by rw [hOe, opN_len]
    have hS8 : S.length = 8 := by rw [hSe, shN_len]
    have e1 : nO = 8 := by rw [← HNL.out.1]; exact hO8
    have e2 : nS = 8 := by rw [← HNL.out.2.1]; exact hS8
    subst e1
    subst e2
    have e3 := HFX.out.2.2.1.1.head (by omega)
    have e4 := HFX.out.2.2.1.2.1.head (by omega)
    subst e3
    subst e4
    have HOE : Hid (O = opN s a b 8 ∧ S = shN s a b 8 ∧ O.length = 8 ∧ S.length = 8) := ⟨hOe, hSe, hO8, hS8⟩
    clear hOe hSe hO8 hS8 hbe hk2
    have HST : Hid (PoR w7 (.int .i64 0) w7) := ⟨0, by omega, rfl, Below.refl _ _⟩
    go_wp2
    go_loopw [15] (fun i wr => PoR w7 i wr) (fun i _ => 8 - (intOf i).toNat)
    case atStart => exact HST.out
    case round =>
      obtain ⟨m, hm, rfl, hbw⟩ := hrel
      clear HST
      by_cases hlt : m < 8
      · have i3 : (m : Int) < 8 := by omega
        have i4 : (0 : Int) ≤ (m : Int) := by omega
        have hbit := bitN_lt b m
        have HF := HFX.out.later hbw
        have HQ : Hid (∀ W, Below wr.heap.size wr W → W.cell? ⟨p7, 1, none⟩ = some (.slice (some ⟨g1, 0, none⟩) 8 c1) ∧ W.cell? ⟨p7, 2, none⟩ = some (.slice (some ⟨g2, 0, none⟩) 8 c2) ∧ W.cell? ⟨g1, m, none⟩ = some (.string (secB s a m (bitN b m))) ∧ W.cell? ⟨g2, m, none⟩ = some (.string (lockB (secB s a m (1 - bitN b m))))) := fun W hW => by
          have h := HF.later hW
          have k1 := h.2.2.1.1.at m (by rw [HOE.out.2.2.1]; exact hlt)
          have k2 := h.2.2.1.2.1.at m (by rw [HOE.out.2.2.2]; exact hlt)
          rw [HOE.out.1, opN_at s a b 8 m hlt] at k1
          rw [HOE.out.2.1, shN_at s a b 8 m hlt] at k2
          exact ⟨h.1.c1, h.1.c2, k1, k2⟩
        have HC1 : Hid (∀ W, Below wr.heap.size wr W → Calls Tryd.prog 41 #[.int .i64 (b : Int), .int .i64 (m : Int)] W fun e w' => e = .returned (.int .i64 (bitN b m : Int)) ∧ Below wr.heap.size wr w') := fun W hW => (sBitOf_at b m _ W hbb rfl (by omega)).mono fun e w' ⟨he, hw⟩ => ⟨he, by rw [hw]; exact hW⟩
        have HC2 : Hid (∀ W, Below wr.heap.size wr W → Calls Tryd.prog 40 #[.string s, .int .i64 (a : Int), .int .i64 (m : Int), .int .i64 (bitN b m : Int)] W fun e w' => e = .returned (.string (secB s a m (bitN b m))) ∧ Below wr.heap.size wr w') := fun W hW => (SecretOf_at s a m (bitN b m) _ _ _ W rfl rfl rfl hs ha (by omega) (by omega) (HT.out.later (HF.later hW).2.2.2.2.2)).mono fun e w' ⟨he, hb⟩ => ⟨he, hW.trans (hb.mono hW.size)⟩
        have HC3 : Hid (∀ W, Below wr.heap.size wr W → Calls Tryd.prog 43 #[.string s, .int .i64 (a : Int), .int .i64 (m : Int), .int .i64 (1 - (bitN b m : Int))] W fun e w' => e = .returned (.string (secB s a m (1 - bitN b m))) ∧ Below wr.heap.size wr w') := fun W hW => (sSecretOf_at s a m (1 - bitN b m) _ _ _ W rfl rfl (by omega) hs ha (by omega) (by omega)).mono fun e w' ⟨he, hb⟩ => ⟨he, hW.trans (hb.mono hW.size)⟩
        have HC4 : Hid (∀ W, Below wr.heap.size wr W → Calls Tryd.prog 42 #[.string (secB s a m (1 - bitN b m))] W fun e w' => e = .returned (.string (lockB (secB s a m (1 - bitN b m)))) ∧ Below wr.heap.size wr w') := fun W hW => (LockOf_any _ W (HT.out.later (HF.later hW).2.2.2.2.2)).mono fun e w' ⟨he, hb⟩ => ⟨he, hW.trans (hb.mono hW.size)⟩
        have HN : Hid (∀ W, Below wr.heap.size wr W → PoR w7 (.int .i64 ((m : Int) + 1)) W) := fun W hW => ⟨m + 1, by omega, by simp, hbw.trans (hW.mono hbw.size)⟩
        clear HF hbw
        generalize secB s a m (bitN b m) = K1 at *
        generalize lockB (secB s a m (1 - bitN b m)) = K3 at *
        generalize secB s a m (1 - bitN b m) = K2 at *
        generalize bitN b m = cb at *
        have hwc : IntKind.i64.wrap (1 - (cb : Int)) = 1 - (cb : Int) := IntWalk.i64_in _ (by omega)
        go_wp2
        go_region_held3 (fun W => W.cell? ⟨p7, 1, none⟩ = some (.slice (some ⟨g1, 0, none⟩) 8 c1) ∧ W.cell? ⟨p7, 2, none⟩ = some (.slice (some ⟨g2, 0, none⟩) 8 c2) ∧ W.cell? ⟨g1, m, none⟩ = some (.string K1) ∧ W.cell? ⟨g2, m, none⟩ = some (.string K3)) (first | exact HQ.out _ hb | exact HQ.out _ (Below.refl _ _).drew | go_keep) ((first
          | (go_at_call 41; refine (HC1.out _ (by first | exact hb | exact (Below.refl _ _).drew)).mono ?_; rintro e wq ⟨rfl, hb⟩)
          | (go_at_call 40; refine (HC2.out _ (by first | exact hb | exact (Below.refl _ _).drew)).mono ?_; rintro e wq ⟨rfl, hb⟩)
          | (go_at_call 43; refine (HC3.out _ (by first | exact hb | exact (Below.refl _ _).drew)).mono ?_; rintro e wq ⟨rfl, hb⟩)
          | (go_at_call 42; refine (HC4.out _ (by first | exact hb | exact (Below.refl _ _).drew)).mono ?_; rintro e wq ⟨rfl, hb⟩)))
        all_goals
          go_wp2
          go_roundw
          case rel => exact HN.out _ hb
          case measure => simp [intOf]; omega
      · have hme : m = 8 := by omega
        subst hme
        have HBW : Hid (Below w7.heap.size w7 wr) := hbw
        clear hbw
        have HF := HFX.out.later HBW.out
        have hpk := poolL_at oneB k (by rw [poolL_len]; omega)
        have HQ : Hid (∀ W, Below wr.heap.size wr W → W.cell? ⟨p7, 0, none⟩ = some (.int .i64 A) ∧ W.cell? ⟨p7, 1, none⟩ = some (.slice (some ⟨g1, 0, none⟩) 8 c1) ∧ W.cell? ⟨p7, 2, none⟩ = some (.slice (some ⟨g2, 0, none⟩) 8 c2) ∧ W.cell? ⟨p7, 3, none⟩ = some (.slice a3 nD c3) ∧ W.cell? ⟨p9, 0, none⟩ = some (.int .i64 A) ∧ W.cell? ⟨p9, 1, none⟩ = some (.slice x1 8 d1) ∧ W.cell? ⟨p9, 2, none⟩ = some (.slice x2 8 d2) ∧ W.cell? ⟨p9, 3, none⟩ = some (.slice x3 nD d3) ∧ W.cell? ⟨gl, k, none⟩ = some (.string (pubA oneB (k : Nat)))) := fun W hW => by
          have h := HF.later hW
          exact ⟨h.1.c0, h.1.c1, h.1.c2, h.1.c3, h.2.1.c0, h.2.1.c1, h.2.1.c2, h.2.1.c3, by rw [h.2.2.2.2.1.cell k (by rw [poolL_len]; omega), hpk]⟩
        have HC1 : Hid (∀ W, Below wr.heap.size wr W → Calls Tryd.prog 25 #[.agg #[.int .i64 A, .slice (some ⟨g1, 0, none⟩) 8 c1, .slice (some ⟨g2, 0, none⟩) 8 c2, .slice a3 nD c3], .agg #[.int .i64 A, .slice x1 8 d1, .slice x2 8 d2, .slice x3 nD d3]] W fun e w' => e = .returned (.bool true) ∧ Below wr.heap.size wr w') := fun W hW => by
          have h := HF.later hW
          exact (sameSig_yes A _ _ _ _ _ _ g1 0 g2 0 g3 0 h1 0 h2 0 h3 0 O S D W h.2.2.1.1.ss h.2.2.1.2.1.ss h.2.2.1.2.2.ss h.2.2.2.1.1.ss h.2.2.2.1.2.1.ss h.2.2.2.1.2.2.ss).mono fun e w' ⟨he, hb⟩ => ⟨he, hW.trans (hb.mono hW.size)⟩
        have HC2 : Hid (∀ W, Below wr.heap.size wr W → Calls Tryd.prog 44 #[.string ⟨#[111, 110, 101]⟩, .int .i64 (k : Int)] W fun e w' => e = .returned (.string (pubA oneB (k : Nat))) ∧ Below wr.heap.size wr w') := fun W hW =>
          (PublicOf_any oneB k W (by decide) (HT.out.later (HF.later hW).2.2.2.2.2)).mono fun e w' ⟨he, hb⟩ => ⟨he, hW.trans (hb.mono hW.size)⟩
        have HC3 : Hid (∀ W, Below wr.heap.size wr W → Calls Tryd.prog 45 #[.slice (some ⟨gl, 0, none⟩) 16 16] W fun e w' => e = .returned (.string (rootA (poolL oneB))) ∧ Below wr.heap.size wr w') := fun W hW =>
          (PoolRoot_any _ gl 0 (poolL oneB) W ((HF.later hW).2.2.2.2.1.ss 16 16 (poolL_len _) (by omega)) (HT.out.later (HF.later hW).2.2.2.2.2)).mono fun e w' ⟨he, hb⟩ => ⟨he, hW.trans (hb.mono hW.size)⟩
        have HC4 : Hid (∀ W, Below wr.heap.size wr W → Calls Tryd.prog 46 #[.slice (some ⟨gl, 0, none⟩) 16 16] W fun e w' => e = .returned (.string (rootA (poolL oneB))) ∧ Below wr.heap.size wr w') := fun W hW =>
          (sPoolRoot_any _ gl 0 (poolL oneB) W ((HF.later hW).2.2.2.2.1.ss 16 16 (poolL_len _) (by omega))).mono fun e w' ⟨he, hb⟩ => ⟨he, hW.trans (hb.mono hW.size)⟩
        have hRz := rootA_one oneB
        have HB1 : Hid (Below w1.heap.size w1 wr) := HF.2.2.2.2.2
        clear hpk HF
        generalize rootA (poolL oneB) = R at *
        generalize pubA oneB (k : Nat) = PK at *
        have hRi : (R.size : Int) = 16 := by omega
        go_wp2
        go_region_held3 (fun W => W.cell? ⟨p7, 0, none⟩ = some (.int .i64 A) ∧ W.cell? ⟨p7, 1, none⟩ = some (.slice (some ⟨g1, 0, none⟩) 8 c1) ∧ W.cell? ⟨p7, 2, none⟩ = some (.slice (some ⟨g2, 0, none⟩) 8 c2) ∧ W.cell? ⟨p7, 3, none⟩ = some (.slice a3 nD c3) ∧ W.cell? ⟨p9, 0, none⟩ = some (.int .i64 A) ∧ W.cell? ⟨p9, 1, none⟩ = some (.slice x1 8 d1) ∧ W.cell? ⟨p9, 2, none⟩ = some (.slice x2 8 d2) ∧ W.cell? ⟨p9, 3, none⟩ = some (.slice x3 nD d3) ∧ W.cell? ⟨gl, k, none⟩ = some (.string PK)) (first | exact HQ.out _ hb | exact HQ.out _ (Below.refl _ _).drew | go_keep) ((first
          | (go_at_call 25; refine (HC1.out _ (by first | exact hb | exact (Below.refl _ _).drew)).mono ?_; rintro e wq ⟨rfl, hb⟩)
          | (go_at_call 44; refine (HC2.out _ (by first | exact hb | exact (Below.refl _ _).drew)).mono ?_; rintro e wq ⟨rfl, hb⟩)
          | (go_at_call 45; refine (HC3.out _ (by first | exact hb | exact (Below.refl _ _).drew)).mono ?_; rintro e wq ⟨rfl, hb⟩)
          | (go_at_call 46; refine (HC4.out _ (by first | exact hb | exact (Below.refl _ _).drew)).mono ?_; rintro e wq ⟨rfl, hb⟩)))
        all_goals
          go_wp2
          go_ret
          exact ⟨rfl, HB1.out.trans (hb.mono HB1.out.size)⟩

end Go.Proofs.YtmfoliocibjdnaaDoor
