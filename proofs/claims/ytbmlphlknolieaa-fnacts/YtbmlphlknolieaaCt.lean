/-
  Acts that are cut off, as the program and the specification do it.
-/
import Derived.Test.YtbmlphlknolieaaDq
namespace Go.Proofs.Ytbmlphlknolieaa
open Go.RowKit Go.BigFrame Go.Sort Go.Maps
set_option linter.unusedVariables false
set_option linter.unusedSimpArgs false

namespace F
/-- what is left behind the first x acts when the power goes -/
noncomputable def cutR (L : List Fl) (A : List Ac) (x : Int) (N : List Int) : List Fl × Bool :=
  if 0 ≤ x ∧ x ≤ A.length ∧ (actsR L (A.take x.toNat)).2 = x.toNat then (loseR (actsR L (A.take x.toNat)).1 N, diskB (actsR L (A.take x.toNat)).1) else ([], false)
theorem acts_le (A : List Ac) : ∀ L : List Fl, (actsR L A).2 ≤ A.length := by
  induction A with
  | nil => intro L; exact Nat.le_refl _
  | cons a r ih =>
    intro L
    cases hs : actR L a with
    | none => rw [acts_stop hs]; simp
    | some N => rw [acts_step hs]; have := ih N; simp only [List.length_cons]; omega
theorem cutR_out {L : List Fl} {A : List Ac} {x : Int} (N : List Int) (h : x < 0 ∨ (A.length : Int) < x) : cutR L A x N = ([], false) := if_neg (by omega)
theorem cutR_less {L : List Fl} {A : List Ac} {k : Nat} (N : List Int) (h : (actsR L (A.take k)).2 < k) : cutR L A (k : Int) N = ([], false) := by
  refine if_neg ?_
  rw [Int.toNat_natCast]
  omega
theorem cutR_all {L : List Fl} {A : List Ac} {k : Nat} (N : List Int) (hk : k ≤ A.length) (h : (actsR L (A.take k)).2 = k) : cutR L A (k : Int) N = (loseR (actsR L (A.take k)).1 N, diskB (actsR L (A.take k)).1) := by
  unfold cutR
  rw [Int.toNat_natCast, if_pos ⟨by omega, by omega, h⟩]
end F

theorem RS.take {w : World} {a : Option Addr} {c g o : Nat} {l : List Ac} (h : RS 4 acs w (.slice a l.length c) g o l) (k : Nat) (hk : k ≤ l.length) : RS 4 acs w (.slice a k c) g o (l.take k) := by
  obtain ⟨a', c', ev, hl, h1, h2⟩ := h
  simp at ev
  obtain ⟨rfl, rfl⟩ := ev
  have e : (l.take k).length = k := by rw [List.length_take]; omega
  exact ⟨a, c, by rw [e], by omega, fun h => h1 (by omega), fun j hj => by rw [List.getElem_take]; exact h2 j (by omega)⟩
theorem run_firsts (g o n k : Nat) (hk : k ≤ n) (w : World) : (Instr.slice 38 (.slice (some ⟨g, o, none⟩) n n) none (some (.int .i64 (k : Int))) none).run Try.prog w = .ok (.slice (some ⟨g, o, none⟩) k n) w := by
  rw [run_slice_h w 38 _ _ _ (by kernel_rfl) .i64 (k : Int) (by omega) (by omega)]
  have hz : (Go.sizeOf (Try.prog.elem 38)).run Try.prog w = .ok 4 w := by kernel_rfl
  rw [hz]
  simp [Result.andThen, sliced, Addr.add]

/-- what CutActs leaves -/
def CtP (w : World) (L : List Fl) (A : List Ac) (x : Int) (N : List Int) (e : Ending) (w' : World) : Prop := ∃ u, e = .returned (.tuple #[u, .bool (F.cutR L A x N).2]) ∧ DkIn w' w.heap.size u (F.cutR L A x N).1 ∧ Below w.heap.size w w'
theorem CtP.mk {w w' : World} {L M : List Fl} {A : List Ac} {x : Int} {N : List Int} {b : Bool} {u : Value} (h : F.cutR L A x N = (M, b)) (hu : DkIn w' w.heap.size u M) (hb : Below w.heap.size w w') : CtP w L A x N (.returned (.tuple #[u, .bool b])) w' := by
  refine ⟨u, ?_, ?_, hb⟩
  · rw [h]
  · rw [h]; exact hu

set_option maxRecDepth 100000 in
set_option maxHeartbeats 2000000 in
theorem CutActs_any (ga oa cap : Nat) (L : List Fl) (gq oq : Nat) (A : List Ac) (x : Int) (q : Value) (gn on : Nat) (N : List Int) (w : World) (hv : RS 3 fcs w (.slice (some ⟨ga, oa, none⟩) L.length cap) ga oa L) (hsm : SmallF L) (hq : RS 4 acs w (.slice (some ⟨gq, oq, none⟩) A.length A.length) gq oq A) (hA : SmallL A) (hn : RS 1 ics w q gn on N) :
    Calls Try.prog 26 #[.agg #[.slice (some ⟨ga, oa, none⟩) L.length cap], .slice (some ⟨gq, oq, none⟩) A.length A.length, .int .i64 x, q] w (CtP w L A x N) := by
  obtain ⟨nA, hnA⟩ : ∃ nA, A.length = nA := ⟨_, rfl⟩
  obtain ⟨xn, cn, hsn⟩ := hn.shape
  have hb0 : Below w.heap.size w ((w.alloc (.cells #[.slice (some ⟨ga, oa, none⟩) L.length cap] 26)).alloc (.cells #[.slice none 0 0] 26)) := ((Below.refl _ _).alloc (Nat.le_refl _) _).alloc (by simp) _
  have hs0 : ((w.alloc (.cells #[.slice (some ⟨ga, oa, none⟩) L.length cap] 26)).alloc (.cells #[.slice none 0 0] 26)).heap.size = w.heap.size + 1 + 1 := by simp
  have hq0 : BD ((w.alloc (.cells #[.slice (some ⟨ga, oa, none⟩) L.length cap] 26)).alloc (.cells #[.slice none 0 0] 26)) w.heap.size 26 (.slice (some ⟨ga, oa, none⟩) L.length cap) := alloc_snd _ _ _ rfl
  have hq1 : BD ((w.alloc (.cells #[.slice (some ⟨ga, oa, none⟩) L.length cap] 26)).alloc (.cells #[.slice none 0 0] 26)) (w.heap.size + 1) 26 (.slice none 0 0) := alloc_fst _ _ (by simp)
  have HG : Hid (Below w.heap.size w ((w.alloc (.cells #[.slice (some ⟨ga, oa, none⟩) L.length cap] 26)).alloc (.cells #[.slice none 0 0] 26)) ∧ ((w.alloc (.cells #[.slice (some ⟨ga, oa, none⟩) L.length cap] 26)).alloc (.cells #[.slice none 0 0] 26)).heap.size = w.heap.size + 1 + 1 ∧ BD ((w.alloc (.cells #[.slice (some ⟨ga, oa, none⟩) L.length cap] 26)).alloc (.cells #[.slice none 0 0] 26)) w.heap.size 26 (.slice (some ⟨ga, oa, none⟩) L.length cap) ∧ BD ((w.alloc (.cells #[.slice (some ⟨ga, oa, none⟩) L.length cap] 26)).alloc (.cells #[.slice none 0 0] 26)) (w.heap.size + 1) 26 (.slice none 0 0)) := ⟨hb0, hs0, hq0, hq1⟩
  have HV : Hid (RS 3 fcs ((w.alloc (.cells #[.slice (some ⟨ga, oa, none⟩) L.length cap] 26)).alloc (.cells #[.slice none 0 0] 26)) (.slice (some ⟨ga, oa, none⟩) L.length cap) ga oa L) := hv.later hb0
  have HQ : Hid (RS 4 acs ((w.alloc (.cells #[.slice (some ⟨ga, oa, none⟩) L.length cap] 26)).alloc (.cells #[.slice none 0 0] 26)) (.slice (some ⟨gq, oq, none⟩) A.length A.length) gq oq A) := hq.later hb0
  have HN : Hid (RS 1 ics ((w.alloc (.cells #[.slice (some ⟨ga, oa, none⟩) L.length cap] 26)).alloc (.cells #[.slice none 0 0] 26)) q gn on N) := hn.later hb0
  have HSM : Hid (SmallF L) := hsm
  have HSA : Hid (SmallL A) := hA
  have hlA := hq.len
  subst hsn
  rw [hnA] at hlA ⊢
  clear hb0 hs0 hq0 hq1 hv hsm hq hA hn
  by_cases hx1 : x < 0
  · have HAN : Hid (F.cutR L A x N = ([], false)) := F.cutR_out N (.inl hx1)
    have HB9 : Hid (Below w.heap.size w ((w.alloc (.cells #[.slice (some ⟨ga, oa, none⟩) L.length cap] 26)).alloc (.cells #[.slice none 0 0] 26))) := HG.out.1
    clear HG HV HQ HN HSM HSA
    go_enter Try.func26, Try.ntmps26
    go_wp2
    have t9 := BD.new (w.alloc (.cells #[.slice (some ⟨ga, oa, none⟩) L.length cap] 26)) 26 (.slice none 0 0)
    simp only [World.size_alloc] at t9
    refine ret_rec2 8 9 (w.heap.size + 1) 26 [.slice none 0 0] _ _ rfl rfl rfl rfl Try.underlying26 rfl sizeDisk (range1 t9.cell) ?_
    exact CtP.mk HAN.out ⟨_, w.heap.size, rfl, RW.nil _ _, Nat.le_refl _⟩ HB9.out
  by_cases hx2 : (nA : Int) < x
  · have HAN : Hid (F.cutR L A x N = ([], false)) := F.cutR_out N (.inr (by rw [hnA]; exact hx2))
    have HB9 : Hid (Below w.heap.size w ((w.alloc (.cells #[.slice (some ⟨ga, oa, none⟩) L.length cap] 26)).alloc (.cells #[.slice none 0 0] 26))) := HG.out.1
    clear HG HV HQ HN HSM HSA
    go_enter Try.func26, Try.ntmps26
    go_wp2
    have t9 := BD.new (w.alloc (.cells #[.slice (some ⟨ga, oa, none⟩) L.length cap] 26)) 26 (.slice none 0 0)
    simp only [World.size_alloc] at t9
    refine ret_rec2 8 9 (w.heap.size + 1) 26 [.slice none 0 0] _ _ rfl rfl rfl rfl Try.underlying26 rfl sizeDisk (range1 t9.cell) ?_
    exact CtP.mk HAN.out ⟨_, w.heap.size, rfl, RW.nil _ _, Nat.le_refl _⟩ HB9.out
  obtain ⟨k, rfl⟩ := Int.eq_ofNat_of_zero_le (show 0 ≤ x by omega)
  have hk : k ≤ nA := by omega
  have HSK : Hid (∀ a ∈ A.take k, SmallA a) := fun a ha => HSA.out a (List.mem_of_mem_take ha)
  have hsl := run_firsts gq oq nA k hk
  have hmk : (F.actsR L (A.take k)).2 ≤ k := Nat.le_trans (F.acts_le _ L) (by rw [List.length_take]; omega)
  have HCO : Hid (∀ W, Up ((w.alloc (.cells #[.slice (some ⟨ga, oa, none⟩) L.length cap] 26)).alloc (.cells #[.slice none 0 0] 26)) W → Calls Try.prog 22 #[.agg #[.slice (some ⟨ga, oa, none⟩) L.length cap], .slice (some ⟨gq, oq, none⟩) k nA] W fun e w' => ∃ u, e = .returned (.tuple #[u, .int .i64 (((F.actsR L (A.take k)).2 : Nat) : Int)]) ∧ DkIn w' W.heap.size u (F.actsR L (A.take k)).1 ∧ Below W.heap.size W w') := fun W hW => by
    have h4 := (HQ.out.later hW).take k (by omega)
    rw [hnA] at h4
    exact DoActs_any _ ga oa L _ gq oq (A.take k) W (HV.out.later hW) HSM.out h4 HSK.out
  have HYES : Hid ((F.actsR L (A.take k)).2 = k → F.cutR L A (k : Int) N = (F.loseR (F.actsR L (A.take k)).1 N, F.diskB (F.actsR L (A.take k)).1)) := fun h => F.cutR_all N (by omega) h
  have HNO : Hid ((F.actsR L (A.take k)).2 < k → F.cutR L A (k : Int) N = ([], false)) := fun h => F.cutR_less N h
  generalize (F.actsR L (A.take k)).1 = M at *
  generalize (F.actsR L (A.take k)).2 = m at *
  have HSV : Hid (∀ W, Up ((w.alloc (.cells #[.slice (some ⟨ga, oa, none⟩) L.length cap] 26)).alloc (.cells #[.slice none 0 0] 26)) W → Calls Try.prog 22 #[.agg #[.slice (some ⟨ga, oa, none⟩) L.length cap], .slice (some ⟨gq, oq, none⟩) k nA] W fun e w' => ∃ a4 c4 p4, e = .returned (.tuple #[.agg #[.slice a4 M.length c4], .int .i64 (m : Int)]) ∧ RW 3 fcs w' (.slice a4 M.length c4) p4 M ∧ W.heap.size ≤ p4 ∧ Up W w') := fun W hW => (HCO.out W hW).mono fun e w' ⟨u, he, hu, hb⟩ => by
    obtain ⟨a2, c2, p2, rfl, hr2, hp2, _⟩ := hu.open'
    exact ⟨a2, c2, p2, he, hr2, hp2, hb⟩
  have HGV : Hid (∀ W, Up ((w.alloc (.cells #[.slice (some ⟨ga, oa, none⟩) L.length cap] 26)).alloc (.cells #[.slice none 0 0] 26)) W → W.cell? ⟨w.heap.size, 0, none⟩ = some (.slice (some ⟨ga, oa, none⟩) L.length cap)) := fun W hW => (HG.out.2.2.1.later hW).cell
  clear HCO HV HQ HSM HSA HSK
  go_enter Try.func26, Try.ntmps26
  go_wp2
  generalize ((w.alloc (.cells #[.slice (some ⟨ga, oa, none⟩) L.length cap] 26)).alloc (.cells #[.slice none 0 0] 26)) = V at *
  have U0 : Up V V.drew := (Up.refl V).drew
  have U0a : Up V (V.alloc (.cells #[.slice none 0 0] 26)).drew := ((Up.refl V).alloc _).drew
  have B0a : Bx V (V.alloc (.cells #[.slice none 0 0] 26)).drew V.heap.size := Bx.new (Up.refl V)
  have z0 := HGV.out V (Up.refl V)
  apply cut_rg1 (V := V) (N := M)
  case r =>
    intro key
    go_region_held3 (fun W => W.cell? ⟨w.heap.size, 0, none⟩ = some (.slice (some ⟨ga, oa, none⟩) L.length cap)) (first | (with_reducible exact HGV.out _ U4) | (with_reducible exact HGV.out _ (U4.alloc _)) | (with_reducible exact HGV.out _ U0) | (with_reducible exact HGV.out _ U0a) | (with_reducible exact HGV.out _ (U4.set hq.le _))) ((first | (go_at_call 22; (first | (with_reducible refine (HSV.out _ U0).mono ?_) | (with_reducible refine (HSV.out _ U0a).mono ?_)); rintro e v4 ⟨a4, c4, p4, rfl, hr4, hp4, hb4⟩; have U4 : Up V v4 := (by first | with_reducible exact U0.step hb4 | with_reducible exact U0a.step hb4); have hp4' : V.heap.size ≤ p4 := (by first | (have h9 := hp4; omega) | (have h9 := hp4; simp at h9; omega)); (first | (have hq : Bx V v4 V.heap.size := (by with_reducible exact B0a.up hb4); have hqp : V.heap.size < p4 := (by have h9 := hp4; simp at h9; omega); have o0 := hq.cell; have o1 := hq.fr) | skip))))
    · have HF := Rg.last U4 hr4 hp4'
      clear hr4 hp4 hb4 U4 hp4'
      generalize v4.alloc (.cells #[.slice a4 M.length c4] 26) = W4 at HF ⊢
      generalize v4.heap.size = q4 at HF ⊢
      exact key.out a4 c4 p4 W4 q4 HF
    all_goals
      have HF := Rg.early hq U4 hr4 hqp
      exact key.out a4 c4 p4 _ _ HF
  case k =>
    intro a4 c4 p4 W4 q4 HF4
    have hu4 : Below V.heap.size V W4 := HF4.1
    have cq4 := HF4.2.1.1.cell
    have hb4 := HG.out.1.trans (hu4.mono HG.out.1.size)
    have hrb := HG.out.2.2.2.later hu4
    have HR4 : Hid (RS 3 fcs W4 (.slice a4 M.length c4) p4 0 M ∧ RS 1 ics W4 (.slice xn N.length cn) gn on N ∧ BD W4 (w.heap.size + 1) 26 (.slice none 0 0) ∧ Below w.heap.size w W4 ∧ w.heap.size + 1 + 1 ≤ W4.heap.size) := ⟨HF4.2.1.2.1, HN.out.later hu4, hrb, hb4, by rw [← HG.out.2.1]; exact hu4.size⟩
    clear HGV HSV U0 U0a B0a z0 hu4 HF4 HN HG hb4 hrb hsl
    by_cases hlt : m < k
    · have HAN := HNO.out hlt
      have HAN' : Hid (F.cutR L A (k : Int) N = ([], false)) := HAN
      have t0 := HR4.out.2.2.1.cell
      have g0 := HR4.out.2.2.1.fr
      have HF : Hid ((W4.setCell ⟨w.heap.size + 1, 0, none⟩ (.slice none 0 0)).rangeAt (w.heap.size + 1) 0 [.slice none 0 0] ∧ Below w.heap.size w (W4.setCell ⟨w.heap.size + 1, 0, none⟩ (.slice none 0 0))) := ⟨range1 (set_here t0 g0 _), HR4.out.2.2.2.1.setCell (p := ⟨w.heap.size + 1, 0, none⟩) (by simp) _⟩
      clear HAN HNO HYES HR4
      go_wp2
      refine ret_rec2 8 9 (w.heap.size + 1) 26 [.slice none 0 0] _ _ rfl rfl rfl rfl Try.underlying26 rfl sizeDisk HF.out.1 ?_
      exact CtP.mk HAN'.out ⟨_, w.heap.size, rfl, RW.nil _ _, Nat.le_refl _⟩ HF.out.2
    · have hmk' : m = k := by omega
      have HAN : Hid (F.cutR L A (k : Int) N = (F.loseR M N, F.diskB M)) := HYES.out hmk'
      subst hmk'
      have HLC := LoseDisk_any _ p4 0 M _ gn on N W4 HR4.out.1 HR4.out.2.1
      clear HNO HYES
      go_wp2_with fail
      refine HLC.mono ?_
      rintro e w5 ⟨u, rfl, hu, hb5⟩
      obtain ⟨a5, c5, p5, rfl, hr5, hp5, _⟩ := hu.open'
      generalize F.loseR M N = K at *
      generalize F.diskB M = R at *
      have hrb := HR4.out.2.2.1.later hb5
      have t0 := hrb.cell
      have g0 := hrb.fr
      have hsz := HR4.out.2.2.2.2
      have HF : Hid ((w5.setCell ⟨w.heap.size + 1, 0, none⟩ (.slice a5 K.length c5)).rangeAt (w.heap.size + 1) 0 [.slice a5 K.length c5] ∧ RW 3 fcs (w5.setCell ⟨w.heap.size + 1, 0, none⟩ (.slice a5 K.length c5)) (.slice a5 K.length c5) p5 K ∧ Below w.heap.size w (w5.setCell ⟨w.heap.size + 1, 0, none⟩ (.slice a5 K.length c5)) ∧ w.heap.size ≤ p5) := ⟨range1 (set_here t0 g0 _), hr5.grown (grown_set w5 _ _ _) (fun _ => by simp; omega), (HR4.out.2.2.2.1.trans (hb5.mono HR4.out.2.2.2.1.size)).setCell (p := ⟨w.heap.size + 1, 0, none⟩) (by simp) _, by omega⟩
      clear HLC hrb HR4 hr5 hu hb5 hp5 hsz
      go_wp2
      refine ret_rec2 8 9 (w.heap.size + 1) 26 [.slice a5 K.length c5] _ _ rfl rfl rfl rfl Try.underlying26 rfl sizeDisk HF.out.1 ?_
      exact CtP.mk HAN.out ⟨_, p5, rfl, HF.out.2.1, HF.out.2.2.2⟩ HF.out.2.2.1

set_option maxRecDepth 100000 in
set_option maxHeartbeats 2000000 in
theorem sCutActs_any (ga oa cap : Nat) (L : List Fl) (gq oq : Nat) (A : List Ac) (x : Int) (q : Value) (gn on : Nat) (N : List Int) (w : World) (hv : RS 3 fcs w (.slice (some ⟨ga, oa, none⟩) L.length cap) ga oa L) (hsm : SmallF L) (hq : RS 4 acs w (.slice (some ⟨gq, oq, none⟩) A.length A.length) gq oq A) (hA : SmallL A) (hn : RS 1 ics w q gn on N) :
    Calls Try.prog 27 #[.agg #[.slice (some ⟨ga, oa, none⟩) L.length cap], .slice (some ⟨gq, oq, none⟩) A.length A.length, .int .i64 x, q] w (CtP w L A x N) := by
  obtain ⟨nA, hnA⟩ : ∃ nA, A.length = nA := ⟨_, rfl⟩
  obtain ⟨xn, cn, hsn⟩ := hn.shape
  have hb0 : Below w.heap.size w ((w.alloc (.cells #[.slice (some ⟨ga, oa, none⟩) L.length cap] 26)).alloc (.cells #[.slice none 0 0] 26)) := ((Below.refl _ _).alloc (Nat.le_refl _) _).alloc (by simp) _
  have hs0 : ((w.alloc (.cells #[.slice (some ⟨ga, oa, none⟩) L.length cap] 26)).alloc (.cells #[.slice none 0 0] 26)).heap.size = w.heap.size + 1 + 1 := by simp
  have hq0 : BD ((w.alloc (.cells #[.slice (some ⟨ga, oa, none⟩) L.length cap] 26)).alloc (.cells #[.slice none 0 0] 26)) w.heap.size 26 (.slice (some ⟨ga, oa, none⟩) L.length cap) := alloc_snd _ _ _ rfl
  have hq1 : BD ((w.alloc (.cells #[.slice (some ⟨ga, oa, none⟩) L.length cap] 26)).alloc (.cells #[.slice none 0 0] 26)) (w.heap.size + 1) 26 (.slice none 0 0) := alloc_fst _ _ (by simp)
  have HG : Hid (Below w.heap.size w ((w.alloc (.cells #[.slice (some ⟨ga, oa, none⟩) L.length cap] 26)).alloc (.cells #[.slice none 0 0] 26)) ∧ ((w.alloc (.cells #[.slice (some ⟨ga, oa, none⟩) L.length cap] 26)).alloc (.cells #[.slice none 0 0] 26)).heap.size = w.heap.size + 1 + 1 ∧ BD ((w.alloc (.cells #[.slice (some ⟨ga, oa, none⟩) L.length cap] 26)).alloc (.cells #[.slice none 0 0] 26)) w.heap.size 26 (.slice (some ⟨ga, oa, none⟩) L.length cap) ∧ BD ((w.alloc (.cells #[.slice (some ⟨ga, oa, none⟩) L.length cap] 26)).alloc (.cells #[.slice none 0 0] 26)) (w.heap.size + 1) 26 (.slice none 0 0)) := ⟨hb0, hs0, hq0, hq1⟩
  have HV : Hid (RS 3 fcs ((w.alloc (.cells #[.slice (some ⟨ga, oa, none⟩) L.length cap] 26)).alloc (.cells #[.slice none 0 0] 26)) (.slice (some ⟨ga, oa, none⟩) L.length cap) ga oa L) := hv.later hb0
  have HQ : Hid (RS 4 acs ((w.alloc (.cells #[.slice (some ⟨ga, oa, none⟩) L.length cap] 26)).alloc (.cells #[.slice none 0 0] 26)) (.slice (some ⟨gq, oq, none⟩) A.length A.length) gq oq A) := hq.later hb0
  have HN : Hid (RS 1 ics ((w.alloc (.cells #[.slice (some ⟨ga, oa, none⟩) L.length cap] 26)).alloc (.cells #[.slice none 0 0] 26)) q gn on N) := hn.later hb0
  have HSM : Hid (SmallF L) := hsm
  have HSA : Hid (SmallL A) := hA
  have hlA := hq.len
  subst hsn
  rw [hnA] at hlA ⊢
  clear hb0 hs0 hq0 hq1 hv hsm hq hA hn
  by_cases hx : x < 0 ∨ (nA : Int) < x
  · have HAN : Hid (F.cutR L A x N = ([], false)) := F.cutR_out N (by rw [hnA]; exact hx)
    have HB9 : Hid (Below w.heap.size w ((w.alloc (.cells #[.slice (some ⟨ga, oa, none⟩) L.length cap] 26)).alloc (.cells #[.slice none 0 0] 26))) := HG.out.1
    have hd : decide ((0 : Int) ≤ x ∧ x ≤ (nA : Int)) = false := by simp; omega
    clear hx
    clear HG HV HQ HN HSM HSA
    go_enter Try.func27, Try.ntmps27
    go_wp2_with fail
    refine (l01In_any _ _ _ _).mono ?_
    rintro e w1 ⟨rfl, rfl⟩
    rw [hd]
    go_wp2
    have t9 := BD.new (w.alloc (.cells #[.slice (some ⟨ga, oa, none⟩) L.length cap] 26)) 26 (.slice none 0 0)
    simp only [World.size_alloc] at t9
    refine ret_rec2 8 9 (w.heap.size + 1) 26 [.slice none 0 0] _ _ rfl rfl rfl rfl Try.underlying26 rfl sizeDisk (range1 t9.cell) ?_
    exact CtP.mk HAN.out ⟨_, w.heap.size, rfl, RW.nil _ _, Nat.le_refl _⟩ HB9.out
  obtain ⟨k, rfl⟩ := Int.eq_ofNat_of_zero_le (show 0 ≤ x by omega)
  have hk : k ≤ nA := by omega
  have HSK : Hid (∀ a ∈ A.take k, SmallA a) := fun a ha => HSA.out a (List.mem_of_mem_take ha)
  have hsl := run_firsts gq oq nA k hk
  have hmk : (F.actsR L (A.take k)).2 ≤ k := Nat.le_trans (F.acts_le _ L) (by rw [List.length_take]; omega)
  have hd : decide ((0 : Int) ≤ (k : Int) ∧ (k : Int) ≤ (nA : Int)) = true := by simp; omega
  have HCO : Hid (∀ W, Up ((w.alloc (.cells #[.slice (some ⟨ga, oa, none⟩) L.length cap] 26)).alloc (.cells #[.slice none 0 0] 26)) W → Calls Try.prog 23 #[.agg #[.slice (some ⟨ga, oa, none⟩) L.length cap], .slice (some ⟨gq, oq, none⟩) k nA] W fun e w' => ∃ u, e = .returned (.tuple #[u, .int .i64 (((F.actsR L (A.take k)).2 : Nat) : Int)]) ∧ DkIn w' W.heap.size u (F.actsR L (A.take k)).1 ∧ Below W.heap.size W w') := fun W hW => by
    have h4 := (HQ.out.later hW).take k (by omega)
    rw [hnA] at h4
    exact sDoActs_any ga oa cap L _ gq oq (A.take k) W (HV.out.later hW) h4 HSK.out
  have HYES : Hid ((F.actsR L (A.take k)).2 = k → F.cutR L A (k : Int) N = (F.loseR (F.actsR L (A.take k)).1 N, F.diskB (F.actsR L (A.take k)).1)) := fun h => F.cutR_all N (by omega) h
  have HNO : Hid ((F.actsR L (A.take k)).2 < k → F.cutR L A (k : Int) N = ([], false)) := fun h => F.cutR_less N h
  generalize (F.actsR L (A.take k)).1 = M at *
  generalize (F.actsR L (A.take k)).2 = m at *
  have HSV : Hid (∀ W, Up ((w.alloc (.cells #[.slice (some ⟨ga, oa, none⟩) L.length cap] 26)).alloc (.cells #[.slice none 0 0] 26)) W → Calls Try.prog 23 #[.agg #[.slice (some ⟨ga, oa, none⟩) L.length cap], .slice (some ⟨gq, oq, none⟩) k nA] W fun e w' => ∃ a4 c4 p4, e = .returned (.tuple #[.agg #[.slice a4 M.length c4], .int .i64 (m : Int)]) ∧ RW 3 fcs w' (.slice a4 M.length c4) p4 M ∧ W.heap.size ≤ p4 ∧ Up W w') := fun W hW => (HCO.out W hW).mono fun e w' ⟨u, he, hu, hb⟩ => by
    obtain ⟨a2, c2, p2, rfl, hr2, hp2, _⟩ := hu.open'
    exact ⟨a2, c2, p2, he, hr2, hp2, hb⟩
  have HGV : Hid (∀ W, Up ((w.alloc (.cells #[.slice (some ⟨ga, oa, none⟩) L.length cap] 26)).alloc (.cells #[.slice none 0 0] 26)) W → W.cell? ⟨w.heap.size, 0, none⟩ = some (.slice (some ⟨ga, oa, none⟩) L.length cap)) := fun W hW => (HG.out.2.2.1.later hW).cell
  clear HCO HV HQ HSM HSA HSK
  go_enter Try.func27, Try.ntmps27
  go_wp2_with fail
  refine (l01In_any _ _ _ _).mono ?_
  rintro e w1 ⟨rfl, hw1⟩
  rw [hw1, hd]
  clear hw1
  go_wp2
  generalize ((w.alloc (.cells #[.slice (some ⟨ga, oa, none⟩) L.length cap] 26)).alloc (.cells #[.slice none 0 0] 26)) = V at *
  have U0 : Up V V.drew := (Up.refl V).drew
  have U0a : Up V (V.alloc (.cells #[.slice none 0 0] 26)).drew := ((Up.refl V).alloc _).drew
  have B0a : Bx V (V.alloc (.cells #[.slice none 0 0] 26)).drew V.heap.size := Bx.new (Up.refl V)
  have z0 := HGV.out V (Up.refl V)
  apply cut_rg1 (V := V) (N := M)
  case r =>
    intro key
    go_region_held3 (fun W => W.cell? ⟨w.heap.size, 0, none⟩ = some (.slice (some ⟨ga, oa, none⟩) L.length cap)) (first | (with_reducible exact HGV.out _ U4) | (with_reducible exact HGV.out _ (U4.alloc _)) | (with_reducible exact HGV.out _ U0) | (with_reducible exact HGV.out _ U0a) | (with_reducible exact HGV.out _ (U4.set hq.le _))) ((first | (go_at_call 23; (first | (with_reducible refine (HSV.out _ U0).mono ?_) | (with_reducible refine (HSV.out _ U0a).mono ?_)); rintro e v4 ⟨a4, c4, p4, rfl, hr4, hp4, hb4⟩; have U4 : Up V v4 := (by first | with_reducible exact U0.step hb4 | with_reducible exact U0a.step hb4); have hp4' : V.heap.size ≤ p4 := (by first | (have h9 := hp4; omega) | (have h9 := hp4; simp at h9; omega)); (first | (have hq : Bx V v4 V.heap.size := (by with_reducible exact B0a.up hb4); have hqp : V.heap.size < p4 := (by have h9 := hp4; simp at h9; omega); have o0 := hq.cell; have o1 := hq.fr) | skip))))
    · have HF := Rg.last U4 hr4 hp4'
      clear hr4 hp4 hb4 U4 hp4'
      generalize v4.alloc (.cells #[.slice a4 M.length c4] 26) = W4 at HF ⊢
      generalize v4.heap.size = q4 at HF ⊢
      exact key.out a4 c4 p4 W4 q4 HF
    all_goals
      have HF := Rg.early hq U4 hr4 hqp
      exact key.out a4 c4 p4 _ _ HF
  case k =>
    intro a4 c4 p4 W4 q4 HF4
    have hu4 : Below V.heap.size V W4 := HF4.1
    have cq4 := HF4.2.1.1.cell
    have hb4 := HG.out.1.trans (hu4.mono HG.out.1.size)
    have hrb := HG.out.2.2.2.later hu4
    have HR4 : Hid (RS 3 fcs W4 (.slice a4 M.length c4) p4 0 M ∧ RS 1 ics W4 (.slice xn N.length cn) gn on N ∧ BD W4 (w.heap.size + 1) 26 (.slice none 0 0) ∧ Below w.heap.size w W4 ∧ w.heap.size + 1 + 1 ≤ W4.heap.size) := ⟨HF4.2.1.2.1, HN.out.later hu4, hrb, hb4, by rw [← HG.out.2.1]; exact hu4.size⟩
    clear HGV HSV U0 U0a B0a z0 hu4 HF4 HN HG hb4 hrb hsl
    by_cases hlt : m < k
    · have HAN := HNO.out hlt
      have HAN' : Hid (F.cutR L A (k : Int) N = ([], false)) := HAN
      have t0 := HR4.out.2.2.1.cell
      have g0 := HR4.out.2.2.1.fr
      have HF : Hid ((W4.setCell ⟨w.heap.size + 1, 0, none⟩ (.slice none 0 0)).rangeAt (w.heap.size + 1) 0 [.slice none 0 0] ∧ Below w.heap.size w (W4.setCell ⟨w.heap.size + 1, 0, none⟩ (.slice none 0 0))) := ⟨range1 (set_here t0 g0 _), HR4.out.2.2.2.1.setCell (p := ⟨w.heap.size + 1, 0, none⟩) (by simp) _⟩
      clear HAN HNO HYES HR4
      go_wp2
      refine ret_rec2 8 9 (w.heap.size + 1) 26 [.slice none 0 0] _ _ rfl rfl rfl rfl Try.underlying26 rfl sizeDisk HF.out.1 ?_
      exact CtP.mk HAN'.out ⟨_, w.heap.size, rfl, RW.nil _ _, Nat.le_refl _⟩ HF.out.2
    · have hmk' : m = k := by omega
      have HAN : Hid (F.cutR L A (k : Int) N = (F.loseR M N, F.diskB M)) := HYES.out hmk'
      subst hmk'
      have HLC := sLoseDisk_any _ p4 0 M _ gn on N W4 HR4.out.1 HR4.out.2.1
      clear HNO HYES
      go_wp2_with fail
      refine HLC.mono ?_
      rintro e w5 ⟨u, rfl, hu, hb5⟩
      obtain ⟨a5, c5, p5, rfl, hr5, hp5, _⟩ := hu.open'
      generalize F.loseR M N = K at *
      generalize F.diskB M = R at *
      have hrb := HR4.out.2.2.1.later hb5
      have t0 := hrb.cell
      have g0 := hrb.fr
      have hsz := HR4.out.2.2.2.2
      have HF : Hid ((w5.setCell ⟨w.heap.size + 1, 0, none⟩ (.slice a5 K.length c5)).rangeAt (w.heap.size + 1) 0 [.slice a5 K.length c5] ∧ RW 3 fcs (w5.setCell ⟨w.heap.size + 1, 0, none⟩ (.slice a5 K.length c5)) (.slice a5 K.length c5) p5 K ∧ Below w.heap.size w (w5.setCell ⟨w.heap.size + 1, 0, none⟩ (.slice a5 K.length c5)) ∧ w.heap.size ≤ p5) := ⟨range1 (set_here t0 g0 _), hr5.grown (grown_set w5 _ _ _) (fun _ => by simp; omega), (HR4.out.2.2.2.1.trans (hb5.mono HR4.out.2.2.2.1.size)).setCell (p := ⟨w.heap.size + 1, 0, none⟩) (by simp) _, by omega⟩
      clear HLC hrb HR4 hr5 hu hb5 hp5 hsz
      go_wp2
      refine ret_rec2 8 9 (w.heap.size + 1) 26 [.slice a5 K.length c5] _ _ rfl rfl rfl rfl Try.underlying26 rfl sizeDisk HF.out.1 ?_
      exact CtP.mk HAN.out ⟨_, p5, rfl, HF.out.2.1, HF.out.2.2.2⟩ HF.out.2.2.1

end Go.Proofs.Ytbmlphlknolieaa
