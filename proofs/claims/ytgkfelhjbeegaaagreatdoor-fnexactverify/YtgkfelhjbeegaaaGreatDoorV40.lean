/-
  Texts laid together: Wg, Ps.
-/
import Derived.Test.YtgkfelhjbeegaaaGreatDoorV39
import Derived.Test.YtgkfelhjbeegaaaGreatDoorV20
import Derived.Test.YtgkfelhjbeegaaaGreatDoorV08
/-
  Whether a whole proof has the form that is wanted: the specification's answer.
-/
namespace Go.Proofs.YtgkfelhjbeegaaaGreatDoor
open Go.RowKit Go.BigFrame Go.Sort
set_option linter.unusedVariables false
set_option linter.unusedSimpArgs false

def WgR (w wb : World) (G : List Stm) (i : Value) (wr : World) : Prop := ∃ m q : Nat, 1 ≤ m ∧ (m ≤ G.length ∨ m = 1) ∧ i = .int .i64 m ∧ wr = wb.drewN q ∧ Hid (∀ i (h : i + 1 < G.length), i + 1 < m → (G[i]'(by omega)).b < G[i + 1].b)

set_option maxRecDepth 100000 in
set_option maxHeartbeats 4000000 in
theorem l15Form_any (vr vb vs vt v1 v2 v3 vst : Value) (K N hs ep : Int) (nm : ByteArray) (x : Hd) (xa : Int) (R : List ByteArray) (L : List Le) (S T o s d : List ByteArray) (G : List Stm) (w : World) (hM : AkS w vr vb vs vt v1 v2 v3 vst R L S T o s d G) (hnm : nm.size ≤ 1048576) :
    Calls Tryz.prog 16 #[.agg #[vr, .int .i64 K, .int .i64 N], .int .i64 hs, .string nm, .agg #[vb, vs, vt, .int .i64 x.h, .int .i64 x.e, .string x.r, .string x.p, .int .i64 xa, v1, v2, v3, vst]] w fun e w' => e = .returned (.bool (fmB R K N hs nm L S T G)) ∧ Below w.heap.size w w' := by
  have H1 : Hid (∀ W, Below w.heap.size w W → Calls Tryz.prog 38 #[.agg #[vr, .int .i64 K, .int .i64 N]] W fun e w' => e = .returned (.bool (tkB R K N)) ∧ Below W.heap.size W w') := fun W hW => by
    obtain ⟨g, k, h⟩ := (hM.later hW).1
    exact sTrustOk_any vr g k R K N W h
  have H2 : Hid (∀ W, Calls Tryz.prog 21 #[.int .i64 hs, .int .i64 0, .int .i64 ((R.length : Int) - 1)] W fun e w' => e = .returned (.bool (decide (0 ≤ hs ∧ hs < (R.length : Int)))) ∧ w' = W) := fun W => by
    have h := l01In_any hs 0 ((R.length : Int) - 1) W
    have e1 : decide ((0 : Int) ≤ hs ∧ hs ≤ (R.length : Int) - 1) = decide (0 ≤ hs ∧ hs < (R.length : Int)) := by
      rw [decide_eq_decide]
      omega
    rw [e1] at h
    exact h
  have H3 : Hid (∀ W, Below w.heap.size w W → Calls Tryz.prog 39 #[.string nm, .agg #[vb, vs], .int .i64 16] W fun e w' => e = .returned (.bool (pfOk nm L S 16)) ∧ Below W.heap.size W w') := fun W hW => by
    obtain ⟨_, ⟨g, k, h2⟩, h3, ⟨g4, k4, h4⟩, _⟩ := hM.later hW
    exact sProofOk_any nm vb vs g k g4 k4 L S 16 W hnm h2 h3 h4
  have H4 : Hid (∀ W, Below w.heap.size w W → Calls Tryz.prog 40 #[vt, .int .i64 16] W fun e w' => e = .returned (.bool (allW T 16)) ∧ w' = W) := fun W hW => by
    obtain ⟨_, _, _, _, ⟨g, k, h⟩, _⟩ := hM.later hW
    rw [← wide16]
    exact l11Wide_any vt g k T 16 W h
  have HK : Hid (tkB R K N = true → 0 ≤ K ∧ K ≤ 2) := fun h => by
    unfold tkB at h
    simp only [Bool.and_eq_true, decide_eq_true_eq] at h
    exact h.2.2.1
  have HST0 : Hid (∀ W, Below w.heap.size w W → ∃ g k, StS W vst g k G) := fun W hW => (hM.later hW).2.2.2.2.2.2.2.2
  have HF : Hid (fmB R K N hs nm L S T G = (tkB R K N && (decide (0 ≤ hs ∧ hs < (R.length : Int)) && (pfOk nm L S 16 && ((decide ((S.length : Int) = 8 - K) && (decide ((T.length : Int) = K) && allW T 16)) && ascS G))))) := rfl
  obtain ⟨xh, xe, xr, xp⟩ := x
  simp only
  obtain ⟨⟨ar, cr, rfl⟩, ⟨ab, cb, rfl⟩, ⟨as2, cs, rfl⟩, ⟨at2, ct, rfl⟩, ⟨a1, c1, rfl⟩, ⟨a2, c2, rfl⟩, ⟨a3, c3, rfl⟩, ⟨ag, cg, rfl⟩, lR, lS, lT, lG⟩ := hM.shapes
  generalize fmB R K N hs nm L S T G = FM at *
  generalize tkB R K N = b1 at *
  generalize decide (0 ≤ hs ∧ hs < (R.length : Int)) = b2 at *
  generalize pfOk nm L S 16 = b3 at *
  generalize allW T 16 = b4 at *
  obtain ⟨b5, hb5⟩ : ∃ b, ascS G = b := ⟨_, rfl⟩
  have HB5 : Hid (ascS G = b5) := hb5
  rw [hb5] at HF
  clear hM hb5
  generalize R.length = nr at *
  generalize L.length = nb at *
  generalize S.length = ns at *
  generalize T.length = nt at *
  generalize o.length = n1 at *
  generalize s.length = n2 at *
  generalize d.length = n3 at *
  obtain ⟨ng, hng⟩ : ∃ n, G.length = n := ⟨_, rfl⟩
  have HN : Hid (G.length = ng) := hng
  rw [hng] at HST0 lG ⊢
  clear hng
  have HX : Hid (Below w.heap.size w ((w.alloc (.cells #[.slice ar nr cr, .int .i64 K, .int .i64 N] 41)).alloc (.cells #[.slice ab nb cb, .slice as2 ns cs, .slice at2 nt ct, .int .i64 xh, .int .i64 xe, .string xr, .string xp, .int .i64 xa, .slice a1 n1 c1, .slice a2 n2 c2, .slice a3 n3 c3, .slice ag ng cg] 52)) ∧ Box 41 ((w.alloc (.cells #[.slice ar nr cr, .int .i64 K, .int .i64 N] 41)).alloc (.cells #[.slice ab nb cb, .slice as2 ns cs, .slice at2 nt ct, .int .i64 xh, .int .i64 xe, .string xr, .string xp, .int .i64 xa, .slice a1 n1 c1, .slice a2 n2 c2, .slice a3 n3 c3, .slice ag ng cg] 52)) w.heap.size [.slice ar nr cr, .int .i64 K, .int .i64 N] ∧ Box 52 ((w.alloc (.cells #[.slice ar nr cr, .int .i64 K, .int .i64 N] 41)).alloc (.cells #[.slice ab nb cb, .slice as2 ns cs, .slice at2 nt ct, .int .i64 xh, .int .i64 xe, .string xr, .string xp, .int .i64 xa, .slice a1 n1 c1, .slice a2 n2 c2, .slice a3 n3 c3, .slice ag ng cg] 52)) (w.heap.size + 1) [.slice ab nb cb, .slice as2 ns cs, .slice at2 nt ct, .int .i64 xh, .int .i64 xe, .string xr, .string xp, .int .i64 xa, .slice a1 n1 c1, .slice a2 n2 c2, .slice a3 n3 c3, .slice ag ng cg]) := ⟨(below_alloc _ _).alloc (by simp) _, (Box.new _ w _).later (below_alloc _ _), alloc_fst _ _ (by simp)⟩
  go_enter Tryz.func16, Tryz.ntmps16
  go_wp2_with fail
  refine (H1.out _ HX.out.1).mono ?_
  rintro e w1 ⟨rfl, hb1⟩
  have HX1 : Hid (Below w.heap.size w w1 ∧ Box 41 w1 w.heap.size [.slice ar nr cr, .int .i64 K, .int .i64 N] ∧ Box 52 w1 (w.heap.size + 1) [.slice ab nb cb, .slice as2 ns cs, .slice at2 nt ct, .int .i64 xh, .int .i64 xe, .string xr, .string xp, .int .i64 xa, .slice a1 n1 c1, .slice a2 n2 c2, .slice a3 n3 c3, .slice ag ng cg]) := ⟨HX.out.1.trans (hb1.mono HX.out.1.size), HX.out.2.1.later hb1, HX.out.2.2.later hb1⟩
  clear hb1 HX H1
  cases b1
  · have hF : FM = false := by rw [HF.out]; rfl
    subst hF
    clear HF H2 H3 H4 HK HST0
    go_wp2
    go_ret
    exact ⟨by simp, HX1.out.1⟩
  have hK := HK.out rfl
  have t0 := HX1.out.2.1.at 0 _ rfl
  have t1 := HX1.out.2.1.at 1 _ rfl
  have t2 := HX1.out.2.1.at 2 _ rfl
  obtain ⟨z0, z1, z2, z3, z4, z5, z6, z7, z8, z9, z10, z11⟩ := HX1.out.2.2.all12
  go_wp2_with fail
  refine (H2.out _).mono ?_
  rintro e w2 ⟨rfl, rfl⟩
  clear H2
  cases b2
  · have hF : FM = false := by rw [HF.out]; rfl
    subst hF
    clear HF H3 H4 HK HST0
    go_wp2
    go_ret
    exact ⟨by simp, HX1.out.1⟩
  go_wp2_with fail
  refine (H3.out _ HX1.out.1).mono ?_
  rintro e w3 ⟨rfl, hb3⟩
  have HX3 : Hid (Below w.heap.size w w3 ∧ Box 41 w3 w.heap.size [.slice ar nr cr, .int .i64 K, .int .i64 N] ∧ Box 52 w3 (w.heap.size + 1) [.slice ab nb cb, .slice as2 ns cs, .slice at2 nt ct, .int .i64 xh, .int .i64 xe, .string xr, .string xp, .int .i64 xa, .slice a1 n1 c1, .slice a2 n2 c2, .slice a3 n3 c3, .slice ag ng cg]) := ⟨HX1.out.1.trans (hb3.mono HX1.out.1.size), HX1.out.2.1.later hb3, HX1.out.2.2.later hb3⟩
  clear hb3 HX1 H3 t0 t1 t2 z0 z1 z2 z3 z4 z5 z6 z7 z8 z9 z10 z11
  cases b3
  · have hF : FM = false := by rw [HF.out]; rfl
    subst hF
    clear HF H4 HK HST0
    go_wp2
    go_ret
    exact ⟨by simp, HX3.out.1⟩
  have t0 := HX3.out.2.1.at 0 _ rfl
  have t1 := HX3.out.2.1.at 1 _ rfl
  have t2 := HX3.out.2.1.at 2 _ rfl
  obtain ⟨z0, z1, z2, z3, z4, z5, z6, z7, z8, z9, z10, z11⟩ := HX3.out.2.2.all12
  by_cases hS : (ns : Int) = 8 - K
  rotate_left
  · have hF : FM = false := by rw [HF.out, decide_eq_false hS]; rfl
    subst hF
    have q1 : ((ns : Int) != 8 - K) = true := by simpa using hS
    clear HF H4 HK HST0
    go_wp2
    go_ret
    exact ⟨by simp, HX3.out.1⟩
  have q1 : ((ns : Int) != 8 - K) = false := by simpa using hS
  by_cases hTt : (nt : Int) = K
  rotate_left
  · have hF : FM = false := by rw [HF.out, decide_eq_false hTt, decide_eq_true hS]; rfl
    subst hF
    have q2 : ((nt : Int) != K) = true := by simpa using hTt
    clear HF H4 HK HST0
    go_wp2
    go_ret
    exact ⟨by simp, HX3.out.1⟩
  have q2 : ((nt : Int) != K) = false := by simpa using hTt
  rw [decide_eq_true hS, decide_eq_true hTt] at HF
  clear hS
  go_wp2_with fail
  refine (H4.out _ HX3.out.1).mono ?_
  rintro e w4 ⟨rfl, rfl⟩
  cases b4
  · have hF : FM = false := by rw [HF.out]; rfl
    subst hF
    clear HF H4 HK HST0
    go_wp2
    go_ret
    exact ⟨by simp, HX3.out.1⟩
  have hF : FM = b5 := by rw [HF.out]; simp
  subst hF
  obtain ⟨gst, ost, hst⟩ := HST0.out _ HX3.out.1
  have HV : Hid (StS w4 (.slice ag ng cg) gst ost G) := hst
  obtain ⟨ag0, cg0, eg0, _, hA⟩ := hst.shape
  rw [HN.out] at hA
  simp only [Value.slice.injEq] at eg0
  have HA : Hid (0 < ng → ag = some ⟨gst, ost, none⟩) := fun h => by rw [eg0.1]; exact hA h
  have HST : Hid (WgR w w4 G (.int .i64 1) w4) := ⟨1, 0, by omega, .inr rfl, rfl, rfl, fun i _ h => by omega⟩
  have HB4 : Hid (Below w.heap.size w w4 ∧ w4.cell? ⟨w.heap.size + 1, 11, none⟩ = some (.slice ag ng cg)) := ⟨HX3.out.1, HX3.out.2.2.at 11 _ rfl⟩
  clear HF H4 HK HST0 hst hA eg0 HX3 t0 t1 t2 z0 z1 z2 z3 z4 z5 z6 z7 z8 z9 z10 z11 hTt
  go_wp2
  go_loopw [9] (fun i wr => WgR w w4 G i wr) (fun i _ => ng - (intOf i).toNat)
  case atStart => exact HST.out
  case round =>
    obtain ⟨m, q, hm1, hm, rfl, rfl, HI⟩ := hrel
    clear HST
    rw [HN.out] at hm
    have c11 := HB4.out.2
    by_cases hlt : m < ng
    · have ea := HA.out (by omega)
      subst ea
      obtain ⟨p, rfl⟩ : ∃ p, m = p + 1 := ⟨m - 1, by omega⟩
      obtain ⟨x1, x2, x3, ⟨c0, _⟩, _⟩ := HV.out.at p (by rw [HN.out]; omega)
      obtain ⟨y1, y2, y3, ⟨d0, _⟩, _⟩ := HV.out.at (p + 1) (by rw [HN.out]; omega)
      have HB : Hid (¬ ((G[p]'(by rw [HN.out]; omega)).b < (G[p + 1]'(by rw [HN.out]; omega)).b) → ascS G = false) := fun h => ascS_no fun hh => h (hh p (by rw [HN.out]; omega))
      have HJ : Hid (((G[p]'(by rw [HN.out]; omega)).b < (G[p + 1]'(by rw [HN.out]; omega)).b) → ∀ i (h : i + 1 < G.length), i + 1 < p + 1 + 1 → (G[i]'(by omega)).b < G[i + 1].b) := fun h i hi him => by
        rcases Nat.lt_or_ge i p with h1 | h1
        · exact HI.out i hi (by omega)
        · have : i = p := by omega
          subst this
          exact h
      generalize (G[p]'(by rw [HN.out]; omega)).b = X at *
      generalize (G[p + 1]'(by rw [HN.out]; omega)).b = Y at *
      have i1 : ((p + 1 : Nat) : Int) < (ng : Int) := by omega
      have i2 : (0 : Int) ≤ ((p + 1 : Nat) : Int) := by omega
      have e1 : ((p + 1 : Nat) : Int) - 1 = (p : Int) := by omega
      by_cases hk : X < Y
      · have HJ3 : Hid (∀ i (h : i + 1 < G.length), i + 1 < p + 1 + 1 → (G[i]'(by omega)).b < G[i + 1].b) := HJ.out hk
        have q1 : decide (Y ≤ X) = false := decide_eq_false (by omega)
        clear HJ HB HI HV
        go_wp2
        go_quiet (fail)
        go_wp2
        go_roundw
        case rel => exact ⟨p + 1 + 1, _, by omega, .inl (by rw [HN.out]; omega), by go_num, rfl, HJ3⟩
        case measure => simp [intOf]; omega
      · have hRf := HB.out hk
        rw [HB5.out] at hRf
        subst hRf
        have q1 : decide (Y ≤ X) = true := decide_eq_true (by omega)
        clear HJ HB HI HV
        go_wp2
        go_quiet (fail)
        go_wp2
        go_ret
        exact ⟨rfl, below_drn (below_drn HB4.out.1 _) _⟩
    · have hRt : FM = true := by
        rw [← HB5.out]
        exact ascS_yes fun i hi => HI.out i hi (by rw [HN.out] at hi; omega)
      subst hRt
      have i1 : ¬ (m : Int) < (ng : Int) := by omega
      clear HI HV
      go_wp2
      go_ret
      exact ⟨rfl, below_drn HB4.out.1 _⟩

end Go.Proofs.YtgkfelhjbeegaaaGreatDoor
/-
  What a proof says: the program's and the specification's answers.
-/
namespace Go.Proofs.YtgkfelhjbeegaaaGreatDoor
open Go.RowKit Go.BigFrame Go.Sort
set_option linter.unusedVariables false
set_option linter.unusedSimpArgs false

set_option maxRecDepth 100000 in
set_option maxHeartbeats 1000000 in
theorem ProofSays_any (nm : ByteArray) (vb vs : Value) (gb ob : Nat) (B : List Le) (w : World) (hb : RS 2 lcs w vb gb ob B) (hsm : SmallL B) :
    Calls Tryz.prog 29 #[.string nm, .agg #[vb, vs]] w fun e w' => e = .returned (.tuple #[.string (LV.getV B nm), .bool (LV.getB B nm)]) ∧ Below w.heap.size w w' := by
  obtain ⟨p0, p1⟩ := run_rangeP (w := w) (p := 0) (v1 := vb) (v2 := vs) 45
  have hba : Below w.heap.size w (w.alloc (.cells #[vb, vs] 45)) := (Below.refl _ _).alloc (Nat.le_refl _) _
  have h1 := LeafGet_any vb gb ob B nm _ (hb.later hba) hsm
  clear hb hsm
  go_enter Tryz.func29, Tryz.ntmps29
  go_wp2_with fail
  refine h1.mono ?_
  rintro e w1 ⟨rfl, hb1⟩
  go_wp2
  go_ret2
  exact ⟨rfl, hba.trans (hb1.mono hba.size)⟩
set_option maxRecDepth 100000 in
set_option maxHeartbeats 1000000 in
theorem sProofSays_any (nm : ByteArray) (vb vs : Value) (gb ob : Nat) (B : List Le) (w : World) (hb : RS 2 lcs w vb gb ob B) :
    Calls Tryz.prog 23 #[.string nm, .agg #[vb, vs]] w fun e w' => e = .returned (.tuple #[.string (LV.getV B nm), .bool (LV.getB B nm)]) ∧ Below w.heap.size w w' := by
  obtain ⟨p0, p1⟩ := run_rangeP (w := w) (p := 0) (v1 := vb) (v2 := vs) 45
  have hba : Below w.heap.size w (w.alloc (.cells #[vb, vs] 45)) := (Below.refl _ _).alloc (Nat.le_refl _) _
  have h1 := sLeafGet_any vb gb ob B nm _ (hb.later hba)
  clear hb
  go_enter Tryz.func23, Tryz.ntmps23
  go_wp2_with fail
  refine h1.mono ?_
  rintro e w1 ⟨rfl, hb1⟩
  go_wp2
  go_ret2
  exact ⟨rfl, hba.trans (hb1.mono hba.size)⟩

end Go.Proofs.YtgkfelhjbeegaaaGreatDoor
