/-
  The walk of the law FnLeavesTold: it answers true of every code.
-/
import Derived.Test.YtofdlkfihhjlgaaDoorAo
import Derived.Test.YtofdlkfihhjlgaaDoorBk
import Derived.Test.YtofdlkfihhjlgaaDoorMu
import Derived.Test.YtofdlkfihhjlgaaDoorNb
import Derived.Test.YtofdlkfihhjlgaaDoorNc
import Derived.Test.YtofdlkfihhjlgaaDoorLs
import Derived.Test.YtofdlkfihhjlgaaDoorLz
import Derived.Test.YtofdlkfihhjlgaaDoorSm
namespace Go.Proofs.YtofdlkfihhjlgaaDoor
open Go.RowKit Go.BigFrame Go.Sort
set_option linter.unusedVariables false
set_option linter.unusedSimpArgs false

theorem code_laterT {w w' : World} {v : Value} (h : Code w.heap.size w v) (hb : Below w.heap.size w w') : Code w'.heap.size w' v := by
  obtain ⟨ao, b, off, len, cap, rfl, hl, h1, h2⟩ := h
  refine ⟨ao, b, off, len, cap, rfl, hl, fun h0 => ⟨(h1 h0).1, Nat.lt_of_lt_of_le (h1 h0).2 hb.size⟩, fun j hj => ?_⟩
  obtain ⟨n, hn, hc⟩ := h2 j hj
  exact ⟨n, hn, (hb.cell (p := ⟨b, off + j, none⟩) (h1 (by omega)).2).trans hc⟩

/-- how many leaves have an index below m -/
def bkC (L : List Le) (m : Nat) : Nat := (L.filter (fun f => decide (idxN f.n < m))).length
theorem bkC_zero (L : List Le) : bkC L 0 = 0 := by simp [bkC]
theorem bkC_le (L : List Le) (m : Nat) : bkC L m ≤ L.length := List.length_filter_le _ _
theorem bkC_step (L : List Le) (m : Nat) : bkC L (m + 1) = bkC L m + (bkL L (m : Int)).length := by
  induction L with
  | nil => rfl
  | cons f t ih =>
    unfold bkC bkL at ih ⊢
    have hp : bkP (m : Int) f = decide (idxN f.n = m) := by unfold bkP; simp [Int.ofNat_inj]
    simp only [List.filter_cons, hp]
    by_cases h1 : idxN f.n < m
    · rw [decide_eq_true h1, decide_eq_true (show idxN f.n < m + 1 by omega), decide_eq_false (show ¬ idxN f.n = m by omega)]
      simp only [reduceIte, Bool.false_eq_true, List.length_cons]
      omega
    · rw [decide_eq_false h1]
      by_cases h3 : idxN f.n = m
      · rw [decide_eq_true h3, decide_eq_true (show idxN f.n < m + 1 by omega)]
        simp only [reduceIte, Bool.false_eq_true, List.length_cons]
        omega
      · rw [decide_eq_false h3, decide_eq_false (show ¬ idxN f.n < m + 1 by omega)]
        simp only [reduceIte, Bool.false_eq_true]
        exact ih
theorem bkC_all (L : List Le) : bkC L 256 = L.length := by
  unfold bkC
  rw [List.filter_eq_self.2]
  intro f _
  have : idxN f.n < 256 := UInt8.toNat_lt _
  simpa using this

/-- what stands while the law goes on: lists of leaves, the tables, what was below -/
def TdK (w0 W : World) (vs : List (Value × List Le)) : Prop := Below w0.heap.size w0 W ∧ TabK W ∧ TabF W ∧ ∀ p ∈ vs, ∃ q, RS 2 lcs W p.1 q 0 p.2
theorem TdK.later {w0 W W' : World} {vs : List (Value × List Le)} (h : TdK w0 W vs) (hb : Below W.heap.size W W') : TdK w0 W' vs :=
  ⟨h.1.trans (hb.mono h.1.size), h.2.1.later hb h.2.1.pos, h.2.2.1.later hb h.2.2.1.pos, fun p hp => by obtain ⟨q, hq⟩ := h.2.2.2 p hp; exact ⟨q, hq.later hb⟩⟩
theorem TdK.add {w0 W W' : World} {vs : List (Value × List Le)} {v : Value} {q : Nat} {l : List Le} (h : TdK w0 W vs) (hb : Below W.heap.size W W') (hv : RS 2 lcs W' v q 0 l) : TdK w0 W' ((v, l) :: vs) := by
  have := h.later hb
  refine ⟨this.1, this.2.1, this.2.2.1, fun p hp => ?_⟩
  rcases List.mem_cons.1 hp with rfl | hp
  · exact ⟨q, hv⟩
  · exact this.2.2.2 p hp
theorem TdK.same {w0 W : World} {vs : List (Value × List Le)} (h : TdK w0 W vs) {u v : Value} {l : List Le} (h1 : (u, l) ∈ vs) (h2 : (v, l) ∈ vs) : Calls Tryd.prog 16 #[u, v] W fun e w' => e = .returned (.bool true) ∧ Below W.heap.size W w' := by
  obtain ⟨q, hq⟩ := h.2.2.2 _ h1
  obtain ⟨p, hp⟩ := h.2.2.2 _ h2
  exact sameLeaves_yes u v q 0 p 0 l W hq hp
theorem TdK.bucket {w0 W : World} {vs : List (Value × List Le)} (h : TdK w0 W vs) {v : Value} {X : List Le} (h1 : (v, X) ∈ vs) (hs : SmallL X) (i : Int) : Calls Tryd.prog 15 #[v, .int .i64 i] W fun e w' => ∃ a c, e = .returned (.slice a (bkL X i).length c) ∧ Below W.heap.size W w' := by
  obtain ⟨q, hq⟩ := h.2.2.2 _ h1
  exact (BucketOf_any v q 0 X i W hq hs h.2.1 h.2.2.1).mono fun e w' ⟨u, he, ho⟩ => by
    obtain ⟨a, c, rfl⟩ := ho.shape
    exact ⟨a, c, he, ho.2.1⟩
def TdR (w0 : World) (X : List Le) (vs : List (Value × List Le)) (n i : Value) (wr : World) : Prop := ∃ m : Nat, m ≤ 256 ∧ i = .int .i64 m ∧ n = .int .i64 (bkC X m : Nat) ∧ Hid (TdK w0 wr vs)

set_option maxRecDepth 100000 in
set_option maxHeartbeats 8000000 in
theorem leavesToldLaw_any (a0 : Option Addr) (len0 cap0 : Nat) (w : World) (hl0 : len0 ≤ 1048576) (hc : Code w.heap.size w (.slice a0 len0 cap0)) (hK : TabK w) (hF : TabF w) :
    Calls Tryd.prog 3 #[.slice a0 len0 cap0] w fun e w' => e = .returned (.bool true) ∧ Below w.heap.size w w' := by
  have HC : Hid (∀ W vs, TdK w W vs → Code W.heap.size W (.slice a0 len0 cap0)) := fun W vs h => code_laterT hc h.1
  have H0 : Hid (TdK w w []) := ⟨Below.refl _ _, hK, hF, fun p hp => absurd hp (by simp)⟩
  clear hc hK hF
  go_enter Tryd.func3, Tryd.ntmps3
  go_wp2_with fail
  refine (big_no a0 len0 cap0 _ hl0).mono ?_
  rintro e w0 ⟨rfl, rfl⟩
  go_wp2_with fail
  refine (DrawLeafPut_any _ _ (HC.out _ _ H0.out)).mono ?_
  rintro e w1 ⟨a1, c1, q1, L, x, y, rfl, ⟨hsm, hl, hnil, hx, hy⟩, hr1, hb1⟩
  have H1 : Hid (TdK w0 w1 [(.slice a1 L.length c1, L)]) := H0.out.add hb1 hr1
  clear H0 hr1 hb1
  have HL : Hid (SmallL L ∧ L.length ≤ 25 ∧ (a1 = none → c1 = 0) ∧ x.size ≤ 12 ∧ y.size ≤ 12) := ⟨hsm, hl, hnil, hx, hy⟩
  have HPI : Hid (∀ W vs, TdK w0 W vs → (.slice a1 L.length c1, L) ∈ vs → Calls Tryd.prog 7 #[.slice a1 L.length c1, .string x, .string y] W (LqP (LV.putR L ⟨x, y⟩) (LV.putB L ⟨x, y⟩) W)) := fun W vs h hm => by
    obtain ⟨q, hq⟩ := h.2.2.2 _ hm
    exact LeafPut_any _ q 0 L ⟨x, y⟩ W hq hsm (by show x.size ≤ 1048576; omega) (by show y.size ≤ 1048576; omega)
  have HPS : Hid (∀ W vs, TdK w0 W vs → (.slice a1 L.length c1, L) ∈ vs → Calls Tryd.prog 8 #[.slice a1 L.length c1, .string x, .string y] W (LqP (LV.putR L ⟨x, y⟩) (LV.putB L ⟨x, y⟩) W)) := fun W vs h hm => by
    obtain ⟨q, hq⟩ := h.2.2.2 _ hm
    exact sLeafPut_any a1 c1 q 0 L x y W hq hnil hsm (by omega) (by omega) (by omega)
  have HDI : Hid (∀ W vs, TdK w0 W vs → (.slice a1 L.length c1, L) ∈ vs → Calls Tryd.prog 9 #[.slice a1 L.length c1, .string x] W (LqP (LV.dropR L x) (LV.dropB L x) W)) := fun W vs h hm => by
    obtain ⟨q, hq⟩ := h.2.2.2 _ hm
    exact LeafDrop_any _ q 0 L x W hq hsm (by omega)
  have HDS : Hid (∀ W vs, TdK w0 W vs → (.slice a1 L.length c1, L) ∈ vs → Calls Tryd.prog 10 #[.slice a1 L.length c1, .string x] W (LqP (LV.dropR L x) (LV.dropB L x) W)) := fun W vs h hm => by
    obtain ⟨q, hq⟩ := h.2.2.2 _ hm
    exact sLeafDrop_any a1 c1 q 0 L x W hq hnil hsm (by omega)
  have HOI : Hid (∀ W vs, TdK w0 W vs → (.slice a1 L.length c1, L) ∈ vs → Calls Tryd.prog 17 #[.slice a1 L.length c1] W fun e w' => e = .returned (.bool (LV.leavesB L)) ∧ Below W.heap.size W w') := fun W vs h hm => by
    obtain ⟨q, hq⟩ := h.2.2.2 _ hm
    exact LeavesOk_any _ q 0 L W hq hsm
  have HOS : Hid (∀ W vs, TdK w0 W vs → (.slice a1 L.length c1, L) ∈ vs → Calls Tryd.prog 18 #[.slice a1 L.length c1] W fun e w' => e = .returned (.bool (LV.leavesB L)) ∧ Below W.heap.size W w') := fun W vs h hm => by
    obtain ⟨q, hq⟩ := h.2.2.2 _ hm
    exact sLeavesOk_any _ q 0 L W hq hsm
  unfold LqP at HPI HPS HDI HDS
  clear hsm hl hnil hx hy HL
  generalize LV.putR L ⟨x, y⟩ = M at *
  generalize LV.putB L ⟨x, y⟩ = R at *
  generalize LV.dropR L x = N at *
  generalize LV.dropB L x = S at *
  generalize LV.leavesB L = O at *
  go_wp2_with fail
  refine (HPI.out _ _ H1.out (by simp)).mono ?_
  rintro e w2 ⟨a2, c2, g2, rfl, hr2, _, hb2⟩
  have H2 := H1.out.add hb2 hr2.1
  clear H1 hr2 hb2 HPI
  go_wp2_with fail
  refine (HPS.out _ _ H2 (by simp)).mono ?_
  rintro e w3 ⟨a3, c3, g3, rfl, hr3, _, hb3⟩
  have H3 := H2.add hb3 hr3.1
  clear H2 hr3 hb3 HPS
  go_wp2_with fail
  refine (HDI.out _ _ H3 (by simp)).mono ?_
  rintro e w4 ⟨a4, c4, g4, rfl, hr4, _, hb4⟩
  have H4 := H3.add hb4 hr4.1
  clear H3 hr4 hb4 HDI
  go_wp2_with fail
  refine (HDS.out _ _ H4 (by simp)).mono ?_
  rintro e w5 ⟨a5, c5, g5, rfl, hr5, _, hb5⟩
  have H5 := H4.add hb5 hr5.1
  clear H4 hr5 hb5 HDS
  go_wp2_with fail
  refine (DrawReadLeaves_any _ _ (HC.out _ _ H5)).mono ?_
  rintro e w6 ⟨t, rfl, ht, hb6⟩
  have H6 := H5.later hb6
  clear H5 hb6
  have HRI : Hid (∀ W, Calls Tryd.prog 12 #[.string t] W (RxP t W)) := fun W => ReadLeaves_any t W ht
  have HRS : Hid (∀ W, Calls Tryd.prog 13 #[.string t] W (RxP t W)) := fun W => sReadLeaves_any t W ht
  unfold RxP at HRI HRS
  clear ht
  generalize LV.rdL t = P at *
  generalize LV.rdB t = Z at *
  go_wp2_with fail
  refine (HRI.out _).mono ?_
  rintro e w7 ⟨a7, c7, g7, rfl, hr7, _, hb7⟩
  have H7 := H6.add hb7 hr7.1
  clear H6 hr7 hb7 HRI
  go_wp2_with fail
  refine (HRS.out _).mono ?_
  rintro e w8 ⟨a8, c8, g8, rfl, hr8, _, hb8⟩
  have H8 := H7.add hb8 hr8.1
  clear H7 hr8 hb8 HRS
  go_wp2_with fail
  refine (DrawLeaves_any _ _ (HC.out _ _ H8)).mono ?_
  rintro e w9 ⟨a9, c9, g9, X, rfl, ⟨hX8, hXk, _⟩, hr9, _, hb9⟩
  have H9 := H8.add hb9 hr9.1
  have HXS : Hid (SmallL X) := fun f hf => by have := LV.leB_sizes (hXk.2.1 f hf); omega
  clear H8 hr9 hb9 HC hXk
  obtain ⟨vs, hvs⟩ : ∃ vs : List (Value × List Le), [(.slice a9 X.length c9, X), (.slice a8 P.length c8, P), (.slice a7 P.length c7, P), (.slice a5 N.length c5, N), (.slice a4 N.length c4, N), (.slice a3 M.length c3, M), (.slice a2 M.length c2, M), (.slice a1 L.length c1, L)] = vs := ⟨_, rfl⟩
  rw [hvs] at H9
  have m1 : Hid ((.slice a1 L.length c1, L) ∈ vs) := by rw [← hvs]; unfold Hid; simp
  have m2 : Hid ((.slice a2 M.length c2, M) ∈ vs ∧ (.slice a3 M.length c3, M) ∈ vs) := by rw [← hvs]; constructor <;> simp
  have m4 : Hid ((.slice a4 N.length c4, N) ∈ vs ∧ (.slice a5 N.length c5, N) ∈ vs) := by rw [← hvs]; constructor <;> simp
  have m7 : Hid ((.slice a7 P.length c7, P) ∈ vs ∧ (.slice a8 P.length c8, P) ∈ vs) := by rw [← hvs]; constructor <;> simp
  have m9 : Hid ((.slice a9 X.length c9, X) ∈ vs) := by rw [← hvs]; unfold Hid; simp
  clear hvs
  have HST : Hid (TdR w0 X vs (.int .i64 0) (.int .i64 0) w9) := ⟨0, by omega, rfl, by rw [bkC_zero]; rfl, H9⟩
  clear H9
  go_wp2
  go_loopw [20, 21] (fun n i wr => TdR w0 X vs n i wr) (fun _ i _ => 256 - (intOf i).toNat)
  case atStart => exact HST.out
  case round =>
    obtain ⟨m, hm, rfl, rfl, HI⟩ := hrel
    clear HST
    by_cases hlt : m < 256
    · have i1 : (m : Int) < 256 := by omega
      have hbk := HI.out.bucket m9.out HXS.out (m : Int)
      have hst := bkC_step X m
      have hle := bkC_le X (m + 1)
      generalize bkC X m = k at *
      generalize (bkL X (m : Int)).length = j at *
      go_wp2_with fail
      refine hbk.mono ?_
      rintro e w10 ⟨a10, c10, rfl, hb10⟩
      have HJ : Hid (TdR w0 X vs (.int .i64 ((k : Int) + (j : Int))) (.int .i64 ((m : Int) + 1)) w10) := ⟨m + 1, by omega, by simp, by rw [hst]; simp, HI.out.later hb10⟩
      have hkj : k + j ≤ 8 := by omega
      clear hbk hb10 HI hst hle
      go_wp2
      go_roundw
      case rel => exact HJ.out
      case measure => simp [intOf]; omega
    · have hme : m = 256 := by omega
      subst hme
      rw [bkC_all]
      have H9 := HI.out
      clear HI HXS
      have i1 : ¬ ((256 : Nat) : Int) < 256 := by omega
      have H10 := H9.same m2.out.1 m2.out.2
      go_wp2_with fail
      refine H10.mono ?_
      rintro e w10 ⟨rfl, hb10⟩
      have K10 := H9.later hb10
      clear H9 H10 hb10 m2
      have H11 := K10.same m4.out.1 m4.out.2
      go_wp2_with fail
      refine H11.mono ?_
      rintro e w11 ⟨rfl, hb11⟩
      have K11 := K10.later hb11
      clear K10 H11 hb11 m4
      have H12 := K11.same m7.out.1 m7.out.2
      go_wp2_with fail
      refine H12.mono ?_
      rintro e w12 ⟨rfl, hb12⟩
      have K12 := K11.later hb12
      clear K11 H12 hb12 m7
      go_wp2_with fail
      refine (HOI.out _ _ K12 m1.out).mono ?_
      rintro e w13 ⟨rfl, hb13⟩
      have K13 := K12.later hb13
      clear K12 hb13 HOI
      go_wp2_with fail
      refine (HOS.out _ _ K13 m1.out).mono ?_
      rintro e w14 ⟨rfl, hb14⟩
      have K14 := K13.later hb14
      clear K13 hb14 HOS
      have HB : Hid (Below w0.heap.size w0 w14) := K14.1
      clear K14
      go_wp2
      go_ret
      exact ⟨by simp, HB.out⟩

end Go.Proofs.YtofdlkfihhjlgaaDoor
