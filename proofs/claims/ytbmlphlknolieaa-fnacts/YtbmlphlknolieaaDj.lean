/-
  Acts done one behind the other, as the program does it: all cases.
-/
import Derived.Test.YtbmlphlknolieaaDi
import Derived.Test.YtbmlphlknolieaaAw
namespace Go.Proofs.Ytbmlphlknolieaa
open Go.RowKit Go.BigFrame Go.Sort Go.Maps
set_option linter.unusedVariables false
set_option linter.unusedSimpArgs false

namespace F
theorem acts_no {L : List Fl} (A : List Ac) (h : diskB L = false) : actsR L A = (L, 0) := by
  cases A with
  | nil => rfl
  | cons a r => rw [actsR, actR_no a h]
theorem acts_stop {M : List Fl} {a : Ac} {r : List Ac} (h : actR M a = none) : actsR M (a :: r) = (M, 0) := by rw [actsR, h]
theorem acts_step {M N : List Fl} {a : Ac} {r : List Ac} (h : actR M a = some N) : actsR M (a :: r) = ((actsR N r).1, (actsR N r).2 + 1) := by rw [actsR, h]
/-- so many acts are done, and left M -/
def Acts (L : List Fl) (A : List Ac) (m : Nat) (M : List Fl) : Prop := actsR L A = ((actsR M (A.drop m)).1, (actsR M (A.drop m)).2 + m)
theorem Acts.start (L : List Fl) (A : List Ac) : Acts L A 0 L := by unfold Acts; simp
theorem Acts.step {L M N : List Fl} {A : List Ac} {m : Nat} (h : Acts L A m M) (hm : m < A.length) (hs : actR M A[m] = some N) : Acts L A (m + 1) N := by
  unfold Acts at *
  rw [h, List.drop_eq_getElem_cons hm, acts_step hs]
  simp only [Prod.mk.injEq, true_and]
  omega
theorem Acts.stop {L M : List Fl} {A : List Ac} {m : Nat} (h : Acts L A m M) (hm : m < A.length) (hs : actR M A[m] = none) : actsR L A = (M, m) := by
  unfold Acts at h
  rw [h, List.drop_eq_getElem_cons hm, acts_stop hs]
  simp
theorem Acts.done {L M : List Fl} {A : List Ac} {m : Nat} (h : Acts L A m M) (hm : m = A.length) : actsR L A = (M, m) := by
  unfold Acts at h
  rw [h, hm, List.drop_length, actsR]
  simp
end F

/-- what DoActs leaves -/
def DaP (w : World) (L : List Fl) (A : List Ac) (e : Ending) (w' : World) : Prop := ∃ u, e = .returned (.tuple #[u, .int .i64 (((F.actsR L A).2 : Nat) : Int)]) ∧ DkIn w' w.heap.size u (F.actsR L A).1 ∧ Below w.heap.size w w'
theorem DaP.mk {w w' : World} {L M : List Fl} {A : List Ac} {m : Nat} {u : Value} (h : F.actsR L A = (M, m)) (hu : DkIn w' w.heap.size u M) (hb : Below w.heap.size w w') : DaP w L A (.returned (.tuple #[u, .int .i64 (m : Int)])) w' := by
  refine ⟨u, ?_, ?_, hb⟩
  · rw [h]
  · rw [h]; exact hu

/-- no text of these acts is great -/
def SmallL (A : List Ac) : Prop := ∀ a ∈ A, SmallA a

def DsR (W0 : World) (b : Nat) (L : List Fl) (A : List Ac) (i : Value) (wr : World) : Prop :=
  ∃ (m : Nat) (M : List Fl) (p : ByteArray → Nat), m ≤ A.length ∧ i = .int .i64 (m : Int) ∧ Hid (OpS W0.heap.size W0 wr b M p ∧ F.DOk M ∧ F.Acts L A m M)

set_option maxRecDepth 100000 in
set_option maxHeartbeats 2000000 in
theorem DoActs_any (v : Value) (ga oa : Nat) (L : List Fl) (q : Value) (gq oq : Nat) (A : List Ac) (w : World) (hv : RS 3 fcs w v ga oa L) (hsm : SmallF L) (hq : RS 4 acs w q gq oq A) (hA : SmallL A) :
    Calls Try.prog 22 #[.agg #[v], q] w (DaP w L A) := by
  obtain ⟨x, cap, hsh⟩ := hv.shape
  subst hsh
  obtain ⟨xq, capq, hshq⟩ := hq.shape
  have hb0 : Below w.heap.size w ((w.alloc (.cells #[.slice x L.length cap] 26)).alloc (.cells #[.slice none 0 0] 26)) := ((Below.refl _ _).alloc (Nat.le_refl _) _).alloc (by simp) _
  have hs0 : ((w.alloc (.cells #[.slice x L.length cap] 26)).alloc (.cells #[.slice none 0 0] 26)).heap.size = w.heap.size + 1 + 1 := by simp
  have hq0 : BD ((w.alloc (.cells #[.slice x L.length cap] 26)).alloc (.cells #[.slice none 0 0] 26)) w.heap.size 26 (.slice x L.length cap) := alloc_snd _ _ _ rfl
  have hq1 : BD ((w.alloc (.cells #[.slice x L.length cap] 26)).alloc (.cells #[.slice none 0 0] 26)) (w.heap.size + 1) 26 (.slice none 0 0) := alloc_fst _ _ (by simp)
  have hv0 := hv.later hb0
  have hA0 : 0 < A.length → xq = some ⟨gq, oq, none⟩ := by
    obtain ⟨a', c', ev, _, h1, _⟩ := hq
    rw [hshq] at ev
    simp at ev
    intro h
    rw [ev.1]
    exact (h1 h).1
  have hqq := hq.later hb0
  subst hshq
  obtain ⟨nA, hnA⟩ : ∃ nA, A.length = nA := ⟨_, rfl⟩
  have HA0 : Hid (0 < nA → xq = some ⟨gq, oq, none⟩) := by rw [← hnA]; exact hA0
  have hlA := hq.len
  have HQ : Hid (RS 4 acs ((w.alloc (.cells #[.slice x L.length cap] 26)).alloc (.cells #[.slice none 0 0] 26)) (.slice xq A.length capq) gq oq A) := hqq
  have HG : Hid (Below w.heap.size w ((w.alloc (.cells #[.slice x L.length cap] 26)).alloc (.cells #[.slice none 0 0] 26)) ∧ ((w.alloc (.cells #[.slice x L.length cap] 26)).alloc (.cells #[.slice none 0 0] 26)).heap.size = w.heap.size + 1 + 1 ∧ BD ((w.alloc (.cells #[.slice x L.length cap] 26)).alloc (.cells #[.slice none 0 0] 26)) (w.heap.size + 1) 26 (.slice none 0 0)) := ⟨hb0, hs0, hq1⟩
  have HAS : Hid (SmallL A) := hA
  rw [hnA] at hlA
  clear hb0 hs0 hq1 hqq hq hA hA0
  cases hd : F.diskB L
  · have HC := filesOf_no _ ga oa L _ hv0 hd
    have HAN : Hid (F.actsR L A = (L, 0)) := F.acts_no A hd
    have HV0 : Hid (RS 3 fcs ((w.alloc (.cells #[.slice x L.length cap] 26)).alloc (.cells #[.slice none 0 0] 26)) (.slice x L.length cap) ga oa L) := hv0
    have HSM : Hid (SmallF L) := hsm
    have HQ0 : Hid (BD ((w.alloc (.cells #[.slice x L.length cap] 26)).alloc (.cells #[.slice none 0 0] 26)) w.heap.size 26 (.slice x L.length cap)) := hq0
    rw [hnA] at *
    clear hv0 hsm hq0 HQ hv HA0 HAS
    go_enter Try.func22, Try.ntmps22
    go_wp2_with fail
    refine HC.mono ?_
    rintro e w1 ⟨rfl, hb1⟩
    have c0 := (HQ0.out.later hb1).cell
    have hq1 := HG.out.2.2.later hb1
    have HV1 : Hid (RS 3 fcs w1 (.slice x L.length cap) ga oa L ∧ Below w.heap.size w w1 ∧ w.heap.size + 1 + 1 ≤ w1.heap.size) := ⟨HV0.out.later hb1, HG.out.1.trans (hb1.mono HG.out.1.size), by rw [← HG.out.2.1]; exact hb1.size⟩
    have HQ1 : Hid (BD w1 (w.heap.size + 1) 26 (.slice none 0 0)) := hq1
    clear hb1 HC HV0 HQ0 HG hq1
    go_wp2_with fail
    refine (diskCopy_any _ ga oa L _ HV1.out.1 HSM.out).mono ?_
    rintro e w2 ⟨u, rfl, hu, hb2⟩
    obtain ⟨a3, c3, g3, rfl, hr3, hg3⟩ := hu.shape
    have hbd := HQ1.out.later hb2
    have t0 := hbd.cell
    have g0 := hbd.fr
    have hgg : w.heap.size + 1 + 1 ≤ g3 := Nat.le_trans HV1.out.2.2 hg3
    have HF : Hid ((w2.setCell ⟨w.heap.size + 1, 0, none⟩ (.slice a3 L.length c3)).rangeAt (w.heap.size + 1) 0 [.slice a3 L.length c3] ∧ RW 3 fcs (w2.setCell ⟨w.heap.size + 1, 0, none⟩ (.slice a3 L.length c3)) (.slice a3 L.length c3) g3 L ∧ Below w.heap.size w (w2.setCell ⟨w.heap.size + 1, 0, none⟩ (.slice a3 L.length c3)) ∧ w.heap.size ≤ g3) := ⟨range1 (set_here t0 g0 _), hr3.grown (grown_set w2 _ _ _) (fun _ => by simp; omega), (HV1.out.2.1.trans (hb2.mono HV1.out.2.1.size)).setCell (p := ⟨w.heap.size + 1, 0, none⟩) (by simp) _, by omega⟩
    clear hbd hb2 hr3 hg3 hu HV1 HQ1 hgg HSM
    go_wp2
    refine ret_rec2 4 5 (w.heap.size + 1) 26 [.slice a3 L.length c3] _ _ rfl rfl rfl rfl Try.underlying26 rfl sizeDisk HF.out.1 ?_
    exact DaP.mk (m := 0) HAN.out ⟨_, g3, rfl, HF.out.2.1, HF.out.2.2.2⟩ HF.out.2.2.1
  · have HC := filesOf_yes _ ga oa L _ hv0 hd
    have HD : Hid (F.DOk L) := F.diskB_iff.1 hd
    rw [hnA] at HQ
    rw [hnA]
    clear hv0 hsm hq0 hv hd
    go_enter Try.func22, Try.ntmps22
    go_wp2_with fail
    generalize (w.alloc (.cells #[.slice x L.length cap] 26)).alloc (.cells #[.slice none 0 0] 26) = W0 at *
    refine HC.mono ?_
    rintro e w1 ⟨b, rfl, p, hS1⟩
    have HST : Hid (DsR W0 b L A (.int .i64 0) w1) := ⟨0, L, p, by omega, rfl, hS1, HD.out, F.Acts.start L A⟩
    clear HC hS1 HD
    go_wp2
    go_loopw [21] (fun i wr => DsR W0 b L A i wr) (fun i _ => nA - (intOf i).toNat)
    case atStart => exact HST.out
    case round =>
      obtain ⟨m, M, p, hm, rfl, HO⟩ := hrel
      clear HST
      rw [hnA] at hm
      by_cases hlt : m < nA
      · have ea := HA0.out (by omega)
        subst ea
        obtain ⟨c0, c1, c2, c3⟩ := (HQ.out.later HO.out.1.1.2.2.2.1).act m (by omega)
        obtain ⟨X, hX⟩ : ∃ X, A[m]'(by omega) = X := ⟨_, rfl⟩
        rw [hX] at c0 c1 c2 c3
        have hXs := HAS.out X (by rw [← hX]; exact List.getElem_mem _)
        have HX : Hid (A[m]'(by omega) = X) := hX
        have i1 : (m : Int) < (nA : Int) := by omega
        have i2 : (0 : Int) ≤ (m : Int) := by omega
        have HYES : Hid (F.actR M X = F.doL M X) := F.actR_yes X (F.diskB_iff.2 HO.out.2.1)
        have hcd := do_any _ _ (wr.alloc (.cells #[.int .i64 X.k, .string X.n, .string X.t, .string X.o] 45)) b M p X (HO.out.1.later ((Below.refl _ _).alloc (Nat.le_refl _) _)) HO.out.2.1 hXs.1 hXs.2.1 hXs.2.2
        clear hX
        cases hdo : F.doL M X with
        | none =>
          have HAN : Hid (F.actsR L A = (M, m)) := HO.out.2.2.stop (by omega) (by rw [HX.out, HYES.out]; exact hdo)
          have HM : Hid (F.DOk M) := HO.out.2.1
          rw [hdo] at hcd
          clear hdo HO HX HYES HAS HQ
          go_wp2_with fail
          refine hcd.mono ?_
          rintro e w2 ⟨rfl, p2, hS2⟩
          have hck := disk_any _ _ w2 b M p2 hS2 HM.out
          have HS2 : Hid (OpS _ _ w2 b M p2) := hS2
          clear hS2 hcd c0 c1 c2 c3
          go_wp2_with fail
          refine hck.mono ?_
          rintro e w3 ⟨u, rfl, hu, hb3⟩
          obtain ⟨a3, c3, g3, rfl, hr3, hg3⟩ := hu.shape
          have hb2 := HS2.out.1.2.2.2.1
          have hs2 := HS2.out.1.2.2.2.2
          have hbw := hb2.trans (hb3.mono hs2)
          have hbd := HG.out.2.2.later hbw
          have t0 := hbd.cell
          have g0 := hbd.fr
          have hsz : w.heap.size + 1 + 1 ≤ w2.heap.size := by rw [← HG.out.2.1]; exact hs2
          have HF : Hid ((w3.setCell ⟨w.heap.size + 1, 0, none⟩ (.slice a3 M.length c3)).rangeAt (w.heap.size + 1) 0 [.slice a3 M.length c3] ∧ RW 3 fcs (w3.setCell ⟨w.heap.size + 1, 0, none⟩ (.slice a3 M.length c3)) (.slice a3 M.length c3) g3 M ∧ Below w.heap.size w (w3.setCell ⟨w.heap.size + 1, 0, none⟩ (.slice a3 M.length c3)) ∧ w.heap.size ≤ g3) := ⟨range1 (set_here t0 g0 _), hr3.grown (grown_set w3 _ _ _) (fun _ => by simp; omega), (HG.out.1.trans (hbw.mono HG.out.1.size)).setCell (p := ⟨w.heap.size + 1, 0, none⟩) (by simp) _, by omega⟩
          clear hck hbd hbw HG HS2 HM hr3 hu hb3 hb2 hs2 hsz
          go_wp2
          refine ret_rec2 4 5 (w.heap.size + 1) 26 [.slice a3 M.length c3] _ _ rfl rfl rfl rfl Try.underlying26 rfl sizeDisk HF.out.1 ?_
          exact DaP.mk HAN.out ⟨_, g3, rfl, HF.out.2.1, HF.out.2.2.2⟩ HF.out.2.2.1
        | some N =>
          have HAC : Hid (F.Acts L A (m + 1) N) := HO.out.2.2.step (by omega) (by rw [HX.out, HYES.out]; exact hdo)
          have HM : Hid (F.DOk N) := F.doL_ok HO.out.2.1 hdo
          rw [hdo] at hcd
          clear hdo HO HX HYES HAS HQ
          go_wp2_with fail
          refine hcd.mono ?_
          rintro e w2 ⟨rfl, p2, hS2⟩
          have HS2 : Hid (OpS _ _ w2 b N p2) := hS2
          clear hS2 hcd c0 c1 c2 c3
          go_wp2
          go_roundw
          case rel => exact ⟨m + 1, N, p2, by omega, by go_num, HS2.out, HM.out, HAC.out⟩
          case measure => simp [intOf]; omega
      · have hme : m = nA := by omega
        have HAN : Hid (F.actsR L A = (M, m)) := HO.out.2.2.done (by omega)
        have HM : Hid (F.DOk M) := HO.out.2.1
        have HS2 : Hid (OpS _ _ wr b M p) := HO.out.1
        have hck := disk_any _ _ wr b M p HO.out.1 HM.out
        subst hme
        clear HO HAS HQ HA0
        go_wp2_with fail
        refine hck.mono ?_
        rintro e w3 ⟨u, rfl, hu, hb3⟩
        obtain ⟨a3, c3, g3, rfl, hr3, hg3⟩ := hu.shape
        have hb2 := HS2.out.1.2.2.2.1
        have hs2 := HS2.out.1.2.2.2.2
        have hbw := hb2.trans (hb3.mono hs2)
        have hbd := HG.out.2.2.later hbw
        have t0 := hbd.cell
        have g0 := hbd.fr
        have hsz : w.heap.size + 1 + 1 ≤ wr.heap.size := by rw [← HG.out.2.1]; exact hs2
        have HF : Hid ((w3.setCell ⟨w.heap.size + 1, 0, none⟩ (.slice a3 M.length c3)).rangeAt (w.heap.size + 1) 0 [.slice a3 M.length c3] ∧ RW 3 fcs (w3.setCell ⟨w.heap.size + 1, 0, none⟩ (.slice a3 M.length c3)) (.slice a3 M.length c3) g3 M ∧ Below w.heap.size w (w3.setCell ⟨w.heap.size + 1, 0, none⟩ (.slice a3 M.length c3)) ∧ w.heap.size ≤ g3) := ⟨range1 (set_here t0 g0 _), hr3.grown (grown_set w3 _ _ _) (fun _ => by simp; omega), (HG.out.1.trans (hbw.mono HG.out.1.size)).setCell (p := ⟨w.heap.size + 1, 0, none⟩) (by simp) _, by omega⟩
        clear hck hbd hbw HG HS2 HM hr3 hu hb3 hb2 hs2 hsz
        go_wp2
        refine ret_rec2 4 5 (w.heap.size + 1) 26 [.slice a3 M.length c3] _ _ rfl rfl rfl rfl Try.underlying26 rfl sizeDisk HF.out.1 ?_
        exact DaP.mk HAN.out ⟨_, g3, rfl, HF.out.2.1, HF.out.2.2.2⟩ HF.out.2.2.1

end Go.Proofs.Ytbmlphlknolieaa
