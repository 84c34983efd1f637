/-
  Texts laid together: Chi, Cj, Ck.
-/
import Derived.Test.YtiabodhgjeoejaaPkEAA13
import Derived.Test.YtiabodhgjeoejaaPkEAA17
import Derived.Test.YtiabodhgjeoejaaPkEAA14
import Derived.Test.YtiabodhgjeoejaaPkEAA15
import Derived.Test.YtiabodhgjeoejaaPkEAA10
import Derived.Test.YtiabodhgjeoejaaPkEAA8
/-
  A change done to a list: the program's answer.
-/
namespace Go.Proofs.Ytiabodhgjeoejaa
open Go.RowKit Go.BigFrame Go.Sort
set_option linter.unusedVariables false
set_option linter.unusedSimpArgs false

set_option maxRecDepth 100000 in
set_option maxHeartbeats 1000000 in
theorem ApplyChange_any (v : Value) (ga oa : Nat) (L : List Le) (x : Ug) (w : World) (hv : RS 2 lcs w v ga oa L) (hsm : SmallL L) (hn : x.n.size ≤ 1048576) (hvs : x.v.size ≤ 1048576) :
    Calls Try.prog 13 #[v, .agg #[.int .i64 x.i, .string x.n, .string x.v]] w (ApP (UV.apU L x) w) := by
  have HW : Hid (BU (w.alloc (.cells #[.int .i64 x.i, .string x.n, .string x.v] 31)) w.heap.size x ∧ Below w.heap.size w (w.alloc (.cells #[.int .i64 x.i, .string x.n, .string x.v] 31))) := ⟨BU.new w x, (Below.refl _ _).alloc (Nat.le_refl _) _⟩
  have HD : Hid (∀ W, Calls Try.prog 43 #[.agg #[.int .i64 x.i, .string x.n, .string x.v]] W fun e w' => e = .returned (.bool x.v.toList.isEmpty) ∧ Below W.heap.size W w') := fun W => drops_any x W
  have HP : Hid (∀ W, Below w.heap.size w W → Calls Try.prog 45 #[v, .string x.n, .string x.v] W (LqP (LV.putR L ⟨x.n, x.v⟩) (LV.putB L ⟨x.n, x.v⟩) W)) := fun W hW => LeafPut_any v ga oa L ⟨x.n, x.v⟩ W (hv.later hW) hsm hn hvs
  have HR : Hid (∀ W, Below w.heap.size w W → Calls Try.prog 44 #[v, .string x.n] W (LqP (LV.dropR L x.n) (LV.dropB L x.n) W)) := fun W hW => LeafDrop_any v ga oa L x.n W (hv.later hW) hsm hn
  obtain ⟨a, c, rfl⟩ := hv.shape
  generalize L.length = n at *
  unfold LqP at HP HR
  unfold UV.apU
  clear hv hsm hn hvs
  generalize LV.putB L ⟨x.n, x.v⟩ = b1 at *
  generalize LV.dropB L x.n = b2 at *
  obtain ⟨i, N, V⟩ := x
  simp only at HW HD HP HR ⊢
  cases hd : V.toList.isEmpty
  · rw [hd] at HD
    rw [if_neg (by simp)]
    generalize LV.putR L ⟨N, V⟩ = M at *
    clear HR
    obtain ⟨k, hk⟩ : ∃ k, M.length = k := ⟨_, rfl⟩
    rw [hk] at HP
    have HF : Hid (∀ W e, (∃ a cap g, e = .returned (.slice a k cap) ∧ RW 2 lcs W (.slice a k cap) g M ∧ w.heap.size ≤ g ∧ Below w.heap.size w W) → ApP M w e W) := fun W e h => by unfold ApP; rw [hk]; exact h
    clear hk
    go_enter Try.func13, Try.ntmps13
    go_wp2_with fail
    refine (HD.out _).mono ?_
    rintro e w1 ⟨rfl, hb1⟩
    have HW1 : Hid (BU w1 w.heap.size ⟨i, N, V⟩ ∧ Below w.heap.size w w1) := ⟨HW.out.1.later hb1, HW.out.2.trans (hb1.mono HW.out.2.size)⟩
    have z1 := HW1.out.1.c1
    have z2 := HW1.out.1.c2
    simp only at z1 z2
    clear HD HW hb1
    go_wp2_with fail
    refine (HP.out _ HW1.out.2).mono ?_
    rintro e w2 ⟨a2, c2, g2, rfl, hr2, hg2, hb2⟩
    have HE := hide (HF.out w2 _ ⟨a2, c2, g2, rfl, hr2, by have := HW1.out.2.size; omega, HW1.out.2.trans (hb2.mono HW1.out.2.size)⟩)
    clear HP HW1 hr2 hg2 hb2 z1 z2 HF
    go_wp2
    go_ret
    exact HE.out
  · rw [hd] at HD
    rw [if_pos rfl]
    generalize LV.dropR L N = M at *
    clear HP
    obtain ⟨k, hk⟩ : ∃ k, M.length = k := ⟨_, rfl⟩
    rw [hk] at HR
    have HF : Hid (∀ W e, (∃ a cap g, e = .returned (.slice a k cap) ∧ RW 2 lcs W (.slice a k cap) g M ∧ w.heap.size ≤ g ∧ Below w.heap.size w W) → ApP M w e W) := fun W e h => by unfold ApP; rw [hk]; exact h
    clear hk
    go_enter Try.func13, Try.ntmps13
    go_wp2_with fail
    refine (HD.out _).mono ?_
    rintro e w1 ⟨rfl, hb1⟩
    have HW1 : Hid (BU w1 w.heap.size ⟨i, N, V⟩ ∧ Below w.heap.size w w1) := ⟨HW.out.1.later hb1, HW.out.2.trans (hb1.mono HW.out.2.size)⟩
    have z1 := HW1.out.1.c1
    simp only at z1
    clear HD HW hb1
    go_wp2_with fail
    refine (HR.out _ HW1.out.2).mono ?_
    rintro e w2 ⟨a2, c2, g2, rfl, hr2, hg2, hb2⟩
    have HE := hide (HF.out w2 _ ⟨a2, c2, g2, rfl, hr2, by have := HW1.out.2.size; omega, HW1.out.2.trans (hb2.mono HW1.out.2.size)⟩)
    clear HR HW1 hr2 hg2 hb2 z1 HF
    go_wp2
    go_ret
    exact HE.out

end Go.Proofs.Ytiabodhgjeoejaa
/-
  Changes done one behind the other: the program's answer.
-/
namespace Go.Proofs.Ytiabodhgjeoejaa
open Go.RowKit Go.BigFrame Go.Sort
set_option linter.unusedVariables false
set_option linter.unusedSimpArgs false

set_option maxRecDepth 100000 in
set_option maxHeartbeats 1000000 in
theorem ApplyAll_any (v : Value) (ga oa : Nat) (L : List Le) (q : Value) (gq oq : Nat) (A : List Ug) (w : World) (hv : RS 2 lcs w v ga oa L) (hsm : SmallL L) (hq : RS 3 ucs w q gq oq A) (hA : ∀ x ∈ A, x.n.size ≤ 1048576 ∧ x.v.size ≤ 1048576) :
    Calls Try.prog 12 #[v, q] w (ApP (UV.apA L A) w) := by
  have hc := leavesCopy_any v ga oa L w hv hsm
  have HQ : Hid (RS 3 ucs w q gq oq A) := hq
  have HSM : Hid (∀ m (h : m < A.length), SmallL (UV.apA L (A.take m)) ∧ (A[m]'h).n.size ≤ 1048576 ∧ (A[m]'h).v.size ≤ 1048576) := fun m h => ⟨small_apA hsm hA m, hA _ (List.getElem_mem h)⟩
  obtain ⟨aq, cq, rfl, hlq, hAq, _⟩ := hq
  obtain ⟨n, hn⟩ : ∃ n, A.length = n := ⟨_, rfl⟩
  have HA : Hid (0 < n → aq = some ⟨gq, oq, none⟩) := by rw [← hn]; exact fun h => (hAq h).1
  rw [hn] at hlq HQ ⊢
  clear hv hsm hA hAq
  go_enter Try.func12, Try.ntmps12
  go_wp2_with fail
  refine hc.mono ?_
  rintro e w1 ⟨g1, rfl, hg1, hr1, hb1⟩
  have HST : Hid (AaR w L A (.slice (some ⟨g1, 0, none⟩) L.length L.length) (.int .i64 0) w1) := ⟨0, _, _, Nat.zero_le _, rfl, rfl, ⟨g1, hr1, hg1, hb1⟩⟩
  clear hc hg1 hr1 hb1
  go_wp2
  go_loopw [5, 12] (fun u i wr => AaR w L A u i wr) (fun _ i _ => n - (intOf i).toNat)
  case atStart => exact HST.out
  case round =>
    obtain ⟨m, au, cu, hm, rfl, rfl, HI⟩ := hrel
    clear HST
    rw [hn] at hm
    obtain ⟨gu, hru, hgu, hbu⟩ := HI.out
    by_cases hlt : m < n
    · have ea := HA.out (by omega)
      subst ea
      obtain ⟨c0, c1, c2⟩ := (HQ.out.later hbu).chg m (by omega)
      have hs := HSM.out m (by omega)
      have hst := UV.apA_step L A (m := m) (by omega)
      obtain ⟨X, hX⟩ : ∃ X, A[m]'(by omega) = X := ⟨_, rfl⟩
      rw [hX] at c0 c1 c2 hs hst
      have HC := hide (fun W (hW : Below wr.heap.size wr W) => ApplyChange_any _ gu 0 _ X W (hru.1.later hW) hs.1 hs.2.1 hs.2.2)
      have HJ : Hid (UV.apA L (A.take (m + 1)) = UV.apU (UV.apA L (A.take m)) X) := hst
      have HB : Hid (Below w.heap.size w wr) := hbu
      have i1 : (m : Int) < (n : Int) := by omega
      have i2 : (0 : Int) ≤ (m : Int) := by omega
      have hba : Below wr.heap.size wr (wr.alloc (.cells #[.int .i64 X.i, .string X.n, .string X.v] 31)) := (Below.refl _ _).alloc (Nat.le_refl _) _
      generalize UV.apA L (A.take m) = M at *
      clear HI hru hgu hbu hs hst hX HQ HA HSM
      generalize M.length = k at *
      obtain ⟨x0, x1, x2⟩ := X
      simp only at c0 c1 c2 HC hba
      go_wp2_with fail
      refine (HC.out _ hba).mono ?_
      rintro e w2 ⟨a2, c2', g2, rfl, hr2, hg2, hb2⟩
      have hb3 : Below wr.heap.size wr w2 := hba.trans (hb2.mono hba.size)
      have HK : Hid (UV.apA L (A.take (m + 1)) = UV.apU M ⟨x0, x1, x2⟩ ∧ AaS w (UV.apU M ⟨x0, x1, x2⟩) (.slice a2 (UV.apU M ⟨x0, x1, x2⟩).length c2') w2) := ⟨HJ.out, g2, hr2, by have := HB.out.size; have := hba.size; omega, HB.out.trans (hb3.mono HB.out.size)⟩
      clear HC HJ HB hr2 hg2 hb2 hb3 hba c0 c1 c2
      generalize UV.apU M ⟨x0, x1, x2⟩ = M2 at *
      go_wp2
      go_roundw
      case rel => exact ⟨m + 1, a2, c2', by omega, by go_num, by rw [HK.out.1], by rw [HK.out.1]; exact HK.out.2⟩
      case measure => simp [intOf]; omega
    · have hme : m = n := by omega
      subst hme
      have hall : UV.apA L (A.take m) = UV.apA L A := by rw [← hn]; exact UV.apA_all L A
      have HE : Hid (ApP (UV.apA L A) w (.returned (.slice au (UV.apA L (A.take m)).length cu)) wr) := by
        rw [← hall]
        exact ⟨au, cu, gu, rfl, hru, hgu, hbu⟩
      clear HI hru hgu hbu hall HQ HA HSM
      go_wp2
      go_ret
      exact HE.out

end Go.Proofs.Ytiabodhgjeoejaa
/-
  What the laws' own helper writes into a row of changes.
-/
namespace Go.Proofs.Ytiabodhgjeoejaa
open Go.RowKit Go.BigFrame Go.Sort
set_option linter.unusedVariables false
set_option linter.unusedSimpArgs false

/-- all may be written, and nothing else was -/
def McI (w : World) (g n : Nat) (wr : World) : Prop := (∀ j, j < n → wr.there g (j * 3) 3) ∧ w.grownBy wr (rowF g n)
theorem McI.below {w wr wr' : World} {g n : Nat} (h : McI w g n wr) (hg : g < wr.heap.size) (hb : Below wr.heap.size wr wr') : McI w g n wr' :=
  ⟨fun j hj => there_kept (h.1 j hj) (hb.block g hg), h.2.trans ((grown_below hb))⟩
theorem McI.set {w wr : World} {g n : Nat} (h : McI w g n wr) (hn : 0 < n) (o : Nat) (v : Value) : McI w g n (wr.setCell ⟨g, o, none⟩ v) :=
  ⟨fun j hj => set_there o (h.1 j hj) v, by
    have h3 := h.2
    rw [rowF_some hn] at h3 ⊢
    exact h3.trans (grown_setC wr g o v)⟩
def McR (w : World) (g n k0 : Nat) (x i : Value) (wr : World) : Prop := ∃ m : Nat, m ≤ n ∧ i = .int .i64 m ∧ x = .int .i64 (k0 + 3 * m : Nat) ∧ Hid (McI w g n wr)

set_option maxRecDepth 100000 in
set_option maxHeartbeats 1000000 in
theorem markChangeS_any (v : Value) (g : Nat) (l : List Ug) (x : Int) (k0 : Nat) (w : World) (hx : x = (k0 : Int)) (h : RW 3 ucs w v g l) (h0 : 0 < k0) (hk : k0 ≤ 10000000) :
    Calls Try.prog 38 #[v, .int .i64 x] w fun e w' => e = .returned (.int .i64 (k0 + 3 * l.length : Nat)) ∧ w.grownBy w' (rowF g l.length) := by
  subst hx
  obtain ⟨⟨a, cap, rfl, hl, hA, hc⟩, ht⟩ := h
  obtain ⟨n, hn⟩ : ∃ n, l.length = n := ⟨_, rfl⟩
  rw [hn] at ht hA hl ⊢
  have HA : Hid (0 < n → a = some ⟨g, 0, none⟩ ∧ g < w.heap.size) := hA
  have HST : Hid (McR w g n k0 (.int .i64 k0) (.int .i64 0) w) := ⟨0, by omega, rfl, rfl, ht, ⟨rfl, rfl, rfl, Nat.le_refl _, fun _ _ _ => rfl⟩⟩
  clear hA hc ht
  go_enter Try.func38, Try.ntmps38
  go_wp2
  go_loopw [1, 5] (fun x i wr => McR w g n k0 x i wr) (fun _ i _ => n - (intOf i).toNat)
  case atStart => exact HST.out
  case round =>
    obtain ⟨m, hm, rfl, rfl, HI⟩ := hrel
    clear HST
    by_cases hlt : m < n
    · obtain ⟨ea, hgw⟩ := HA.out (by omega)
      subst ea
      have hgr : g < wr.heap.size := Nat.lt_of_lt_of_le hgw HI.out.2.size
      have i1 : (m : Int) < (n : Int) := by omega
      have i2 : (0 : Int) ≤ (m : Int) := by omega
      obtain ⟨⟨o0, x0⟩, ⟨o1, x1⟩, ⟨o2, x2⟩, f0, f1, f2⟩ := there3 (HI.out.1 m hlt)
      have HI1 : Hid (McI w g n (wr.setCell ⟨g, m * 3, none⟩ (.int .i64 (k0 + 3 * m : Nat)))) := HI.out.set (by omega) _ _
      have hgr1 : g < (wr.setCell ⟨g, m * 3, none⟩ (.int .i64 (k0 + 3 * m : Nat))).heap.size := by simpa using hgr
      clear HI
      go_wp2_with fail
      refine (markText_int _ (k0 + 3 * m + 1) _ (by omega) (by omega) (by omega)).mono ?_
      rintro e w1 ⟨rfl, hb1⟩
      have HI2 : Hid (McI w g n w1 ∧ g < w1.heap.size) := ⟨HI1.out.below hgr1 hb1, Nat.lt_of_lt_of_le hgr1 hb1.size⟩
      clear HI1 hb1 hgr1 hgr x0 x1 x2 f0 f1 f2 o0 o1 o2
      obtain ⟨⟨o0, x0⟩, ⟨o1, x1⟩, ⟨o2, x2⟩, f0, f1, f2⟩ := there3 (HI2.out.1.1 m hlt)
      generalize markB (k0 + 3 * m + 1) = K0 at *
      have HI3 : Hid (McI w g n (w1.setCell ⟨g, m * 3 + 1, none⟩ (.string K0)) ∧ g < (w1.setCell ⟨g, m * 3 + 1, none⟩ (.string K0)).heap.size) := ⟨HI2.out.1.set (by omega) _ _, by simpa using HI2.out.2⟩
      clear HI2
      go_wp2_with fail
      refine (markText_int _ (k0 + 3 * m + 2) _ (by omega) (by omega) (by omega)).mono ?_
      rintro e w2 ⟨rfl, hb2⟩
      have HI4 : Hid (McI w g n w2) := HI3.out.1.below HI3.out.2 hb2
      clear HI3 hb2 x0 x1 x2 f0 f1 f2 o0 o1 o2
      obtain ⟨⟨o0, x0⟩, ⟨o1, x1⟩, ⟨o2, x2⟩, f0, f1, f2⟩ := there3 (HI4.out.1 m hlt)
      generalize markB (k0 + 3 * m + 2) = K1 at *
      have HI5 : Hid (McI w g n (w2.setCell ⟨g, m * 3 + 2, none⟩ (.string K1))) := HI4.out.set (by omega) _ _
      clear HI4
      go_wp2
      go_roundw
      case rel => exact ⟨m + 1, by omega, by go_num, by go_num, HI5⟩
      case measure => simp [intOf]; omega
    · have hme : m = n := by omega
      have HF : Hid (w.grownBy wr (rowF g n)) := HI.out.2
      subst hme
      clear HI HA
      go_wp2
      go_ret
      exact ⟨rfl, HF.out⟩

end Go.Proofs.Ytiabodhgjeoejaa
