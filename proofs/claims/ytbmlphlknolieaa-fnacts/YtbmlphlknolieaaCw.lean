/-
  Acts done on an empty disk that is nil; acts that are cut off, of any disk, with room behind the acts.
-/
import Derived.Test.YtbmlphlknolieaaCt
import Derived.OwnWalk
namespace Go.Proofs.Ytbmlphlknolieaa
open Go.RowKit Go.BigFrame Go.Sort Go.Maps
set_option linter.unusedVariables false
set_option linter.unusedSimpArgs false

theorem wp_row0 {w : World} {ops : Array Oper} {o : Oper} {a : Act} {Q : Exit → Act → World → Prop} {rest : List Oper} (hgd : o.guard = none) (s x : Operand)
    (ho : o.op = .call { callee := .builtin .append, args := #[s, x], argTypes := #[24, 24] })
    (B : Nat) (w0 : World) (g : Nat) (hs : a.eval s = .slice (some ⟨g, 0, none⟩) 0 0) (h : OF B w0 w (.slice (some ⟨g, 0, none⟩) 0 0) []) (hx : a.eval x = .slice none 0 0)
    (hk : ∀ v' w', OF B w0 w' v' [] → w.grownBy w' (some g) → wpList Try.prog ops Q rest (a.put o.dst v') w') : wpList Try.prog ops Q (o :: rest) a w := by
  obtain ⟨i0, hi, hz0, hz1, hz2⟩ := info_parts Try.infoFile
  refine wpList_append_fits_any w hgd s x 24 ho B 36 i0 3 Try.underlying24 hi hz1 g 0 0 [] hs h.1 none 0 0 [] hx rfl (fun _ => ⟨rfl, rfl⟩) (fun ad h => by cases h) (fun u hu => by cases hu) (by omega) ?_
  intro w' h1 h2
  exact hk _ _ ⟨by simpa using h1, h.2.1.grown h2 h.2.2 (fun k hk => (h.1.lt k hk).1), Nat.le_trans h.2.2 h2.size⟩ h2

set_option maxRecDepth 100000 in
set_option maxHeartbeats 2000000 in
theorem sDoActs_nil (L : List Fl) (hL0 : L = []) (q : Value) (gq oq : Nat) (A : List Ac) (w : World) (hq : RS 4 acs w q gq oq A) (hA : SmallL A) :
    Calls Try.prog 23 #[.agg #[.slice none 0 0], q] w (DaP w L A) := by
  obtain ⟨xq, capq, hshq⟩ := hq.shape
  have hb0 : Below w.heap.size w (((w.alloc (.cells #[.slice none 0 0] 26)).alloc (.cells #[.slice none 0 0] 26)).alloc (.cells #[] 36)) := (((Below.refl _ _).alloc (Nat.le_refl _) _).alloc (by simp) _).alloc (by simp; omega) _
  have hq1 : BD (((w.alloc (.cells #[.slice none 0 0] 26)).alloc (.cells #[.slice none 0 0] 26)).alloc (.cells #[] 36)) (w.heap.size + 1) 26 (.slice none 0 0) := alloc_snd _ _ _ (by simp)
  have hlL : L.length ≤ 1100000 := by rw [hL0]; simp
  have HL0 : Hid (L = []) := hL0
  clear hL0
  have hO : OF w.heap.size w (((w.alloc (.cells #[.slice none 0 0] 26)).alloc (.cells #[.slice none 0 0] 26)).alloc (.cells #[] 36)) (.slice (some ⟨w.heap.size + 1 + 1, 0, none⟩) 0 0) [] := by
    have h1 := World.ownsRow_made (e := 36) (size := 3) (base := w.heap.size) ((w.alloc (.cells #[.slice none 0 0] 26)).alloc (.cells #[.slice none 0 0] 26)) #[] 0 (by simp; omega) (by decide) (by simp)
    refine ⟨by simpa using h1, hb0, by simp; omega⟩
  have hA0 : 0 < A.length → xq = some ⟨gq, oq, none⟩ := by
    obtain ⟨a', c', ev, _, h1, _⟩ := id hq
    rw [hshq] at ev
    simp at ev
    intro h
    rw [ev.1]
    exact (h1 h).1
  subst hshq
  obtain ⟨nA, hnA⟩ : ∃ nA, A.length = nA := ⟨_, rfl⟩
  have HA0 : Hid (0 < nA → xq = some ⟨gq, oq, none⟩) := by rw [← hnA]; exact hA0
  have hlA := hq.len
  have HQ : Hid (RS 4 acs w (.slice xq A.length capq) gq oq A) := hq
  have HAS : Hid (SmallL A) := hA
  have HO : Hid (OF w.heap.size w (((w.alloc (.cells #[.slice none 0 0] 26)).alloc (.cells #[.slice none 0 0] 26)).alloc (.cells #[] 36)) (.slice (some ⟨w.heap.size + 1 + 1, 0, none⟩) 0 0) []) := hO
  have HQ1 : Hid (BD (((w.alloc (.cells #[.slice none 0 0] 26)).alloc (.cells #[.slice none 0 0] 26)).alloc (.cells #[] 36)) (w.heap.size + 1) 26 (.slice none 0 0)) := hq1
  rw [hnA] at hlA HQ
  rw [hnA]
  clear hb0 hq1 hq hA hA0 hO
  go_enter Try.func23, Try.ntmps23
  go_wp2_with (at_builtin; refine wp_row0 rfl _ _ rfl w.heap.size w _ rfl HO.out rfl ?_)
  intro vO wO hOO0 hgr
  have hOO : OF w.heap.size w wO vO L := by rw [HL0.out]; exact hOO0
  clear hOO0
  obtain ⟨aO, cO, hsO⟩ := hOO.shape
  subst hsO
  obtain ⟨gO, hrO, hgO, heO⟩ := OR.rw (k := 3) (enc := fcs) (fun x => fcs_len x) (by omega) hOO hlL
  have hrb : BD wO (w.heap.size + 1) 26 (.slice none 0 0) := HQ1.out.grown hgr (by simp [Value.ownBlock])
  have hne := hOO.ne hrb
  have hAl : Below wO.heap.size wO (wO.alloc (.cells #[.slice aO L.length cO] 26)) := (Below.refl _ _).alloc (Nat.le_refl _) _
  have hlt := hrO.lt
  have hro : 0 < L.length → gO ≠ w.heap.size + 1 := fun h e => by
    obtain ⟨⟨a', c', ev, _, h1, _⟩, _⟩ := hrO
    have e1 := (h1 h).1
    simp at ev
    apply hne
    rw [ev.1, e1, ← e]
    rfl
  have hrl := hrb.lt
  have HST : Hid (SaR w (w.heap.size + 1) wO.heap.size L A (.int .i64 0) (wO.alloc (.cells #[.slice aO L.length cO] 26))) :=
    ⟨0, L, _, gO, by omega, rfl, hrb.later hAl, XD.new hrO, hOO.2.1.trans (hAl.mono hOO.2.2), hgO, fun h => ⟨hro h, by have := hlt h; omega⟩, F.Acts.start L A⟩
  have HRB : Hid (w.heap.size + 1 < wO.heap.size) := hrl
  clear hOO hrO hgO heO hrb hne hAl hlt hro hgr HO HQ1 hlL hrl
  go_wp2
  generalize wO.heap.size = qo at *
  generalize wO.alloc (.cells #[.slice aO L.length cO] 26) = WL at *
  go_loopw [7] (fun i wr => SaR w (w.heap.size + 1) qo L A i wr) (fun i _ => nA - (intOf i).toNat)
  case atStart => exact HST.out
  case round =>
    obtain ⟨m, M, s, p, hm, rfl, HI⟩ := hrel
    clear HST
    obtain ⟨aM, cM, hsM⟩ := HI.out.2.1.2.1.shape
    subst hsM
    rw [hnA] at hm
    have co := HI.out.2.1.1.cell
    by_cases hlt : m < nA
    · have ea := HA0.out (by omega)
      subst ea
      obtain ⟨X, hX⟩ : ∃ X, A[m]'(by omega) = X := ⟨_, rfl⟩
      have hXs := HAS.out X (by rw [← hX]; exact List.getElem_mem _)
      have hact := (HQ.out.later HI.out.2.2.1).act m (by omega)
      rw [hX] at hact
      obtain ⟨c0, c1, c2, c3⟩ := hact
      have HX : Hid (A[m]'(by omega) = X) := hX
      have i1 : (m : Int) < (nA : Int) := by omega
      have i2 : (0 : Int) ≤ (m : Int) := by omega
      have HGV : Hid (∀ W, Up wr W → W.cell? ⟨qo, 0, none⟩ = some (.slice aM M.length cM) ∧ W.cell? ⟨gq, oq + m * 4, none⟩ = some (.int .i64 X.k) ∧ W.cell? ⟨gq, oq + m * 4 + 1, none⟩ = some (.string X.n) ∧ W.cell? ⟨gq, oq + m * 4 + 2, none⟩ = some (.string X.t) ∧ W.cell? ⟨gq, oq + m * 4 + 3, none⟩ = some (.string X.o)) := fun W hW => by
        have h1 := (HQ.out.later (HI.out.2.2.1.trans (Below.mono hW HI.out.2.2.1.size))).act m (by omega)
        rw [HX.out] at h1
        exact ⟨(HI.out.2.1.later hW).1.cell, h1⟩
      have HSC : Hid (∀ W, Up wr W → Calls Try.prog 34 #[.agg #[.slice aM M.length cM], .agg #[.int .i64 X.k, .string X.n, .string X.t, .string X.o]] W fun e w' => ∃ u, e = .returned (.tuple #[u, .bool (F.actR M X).isSome]) ∧ DkIn w' W.heap.size u ((F.actR M X).getD []) ∧ Below W.heap.size W w') := fun W hW => sDoAct_any _ p 0 M X W (RS.up HI.out.2.1.2.1 hW) hXs
      have U0 : Up wr wr.drew := (Up.refl wr).drew
      have U0a : Up wr (wr.alloc (.cells #[.slice none 0 0] 26)).drew := ((Up.refl wr).alloc _).drew
      have B0a : Bx wr (wr.alloc (.cells #[.slice none 0 0] 26)).drew wr.heap.size := Bx.new (Up.refl wr)
      have hqol := HI.out.2.1.1.lt
      have hrbl := HI.out.1.lt
      clear hX hXs
      cases hdo : F.actR M X with
      | none =>
        rw [hdo] at HSC
        have HAN : Hid (F.actsR L A = (M, m)) := HI.out.2.2.2.2.2.stop (by omega) (by rw [HX.out]; exact hdo)
        have HSV : Hid (∀ W, Up wr W → Calls Try.prog 34 #[.agg #[.slice aM M.length cM], .agg #[.int .i64 X.k, .string X.n, .string X.t, .string X.o]] W fun e w' => ∃ a4 c4 p4, e = .returned (.tuple #[.agg #[.slice a4 ([] : List Fl).length c4], .bool false]) ∧ RW 3 fcs w' (.slice a4 ([] : List Fl).length c4) p4 [] ∧ W.heap.size ≤ p4 ∧ Up W w') := fun W hW => (HSC.out W hW).mono fun e w' ⟨u, he, hu, hb⟩ => by
          obtain ⟨a2, c2, p2, rfl, hr2, hp2, _⟩ := hu.open'
          exact ⟨a2, c2, p2, he, hr2, hp2, hb⟩
        clear hdo HSC HX HAS
        go_wp2
        apply cut_rg1 (V := wr) (N := [])
        case r =>
          intro key
          go_region_held3 (fun W => W.cell? ⟨qo, 0, none⟩ = some (.slice aM M.length cM) ∧ W.cell? ⟨gq, oq + m * 4, none⟩ = some (.int .i64 X.k) ∧ W.cell? ⟨gq, oq + m * 4 + 1, none⟩ = some (.string X.n) ∧ W.cell? ⟨gq, oq + m * 4 + 2, none⟩ = some (.string X.t) ∧ W.cell? ⟨gq, oq + m * 4 + 3, none⟩ = some (.string X.o)) (first | (with_reducible exact HGV.out _ U4) | (with_reducible exact HGV.out _ (U4.alloc _)) | (with_reducible exact HGV.out _ U0) | (with_reducible exact HGV.out _ U0a) | (with_reducible exact HGV.out _ (U4.set hq.le _))) ((first | (go_at_call 34; (first | (with_reducible refine (HSV.out _ U0).mono ?_) | (with_reducible refine (HSV.out _ U0a).mono ?_)); rintro e v4 ⟨a4, c4, p4, rfl, hr4, hp4, hb4⟩; have U4 : Up wr v4 := (by first | with_reducible exact U0.step hb4 | with_reducible exact U0a.step hb4); have hp4' : wr.heap.size ≤ p4 := (by first | (have h9 := hp4; omega) | (have h9 := hp4; simp at h9; omega)); (first | (have hq : Bx wr v4 wr.heap.size := (by with_reducible exact B0a.up hb4); have hqp : wr.heap.size < p4 := (by have h9 := hp4; simp at h9; omega); have o0 := hq.cell; have o1 := hq.fr) | skip))))
          · have HF := Rg.last U4 hr4 hp4'
            clear hr4 hp4 hb4 U4 hp4'
            generalize v4.alloc (.cells #[.slice a4 ([] : List Fl).length c4] 26) = W4 at HF ⊢
            generalize v4.heap.size = q4 at HF ⊢
            exact key.out a4 c4 p4 W4 q4 HF
          all_goals
            have HF := Rg.early hq U4 hr4 hqp
            exact key.out a4 c4 p4 _ _ HF
        case k =>
          intro a4 c4 p4 W4 q4 HF4
          have hu4 : Below wr.heap.size wr W4 := HF4.1
          have co4 := (HI.out.2.1.later hu4).1.cell
          have hbd := HI.out.1.later hu4
          have t0 := hbd.cell
          have g0 := hbd.fr
          have HF : Hid ((W4.setCell ⟨w.heap.size + 1, 0, none⟩ (.slice aM M.length cM)).rangeAt (w.heap.size + 1) 0 [.slice aM M.length cM] ∧ RW 3 fcs (W4.setCell ⟨w.heap.size + 1, 0, none⟩ (.slice aM M.length cM)) (.slice aM M.length cM) p M ∧ Below w.heap.size w (W4.setCell ⟨w.heap.size + 1, 0, none⟩ (.slice aM M.length cM)) ∧ w.heap.size ≤ p) := ⟨range1 (set_here t0 g0 _), (HI.out.2.1.2.later hu4).grown (grown_set W4 _ _ _) (fun h e => (HI.out.2.2.2.2.1 h).1 (by simpa using e)), (HI.out.2.2.1.trans (hu4.mono HI.out.2.2.1.size)).setCell (p := ⟨w.heap.size + 1, 0, none⟩) (by simp) _, HI.out.2.2.2.1⟩
          clear HGV HSV U0 U0a B0a hbd hu4 HF4 HI c0 c1 c2 c3 co hqol hrbl
          go_wp2
          refine ret_rec2 4 5 (w.heap.size + 1) 26 [.slice aM M.length cM] _ _ rfl rfl rfl rfl Try.underlying26 rfl sizeDisk HF.out.1 ?_
          exact DaP.mk HAN.out ⟨_, p, rfl, HF.out.2.1, HF.out.2.2.2⟩ HF.out.2.2.1
      | some N =>
        rw [hdo] at HSC
        have HAC : Hid (F.Acts L A (m + 1) N) := HI.out.2.2.2.2.2.step (by omega) (by rw [HX.out]; exact hdo)
        have HSV : Hid (∀ W, Up wr W → Calls Try.prog 34 #[.agg #[.slice aM M.length cM], .agg #[.int .i64 X.k, .string X.n, .string X.t, .string X.o]] W fun e w' => ∃ a4 c4 p4, e = .returned (.tuple #[.agg #[.slice a4 N.length c4], .bool true]) ∧ RW 3 fcs w' (.slice a4 N.length c4) p4 N ∧ W.heap.size ≤ p4 ∧ Up W w') := fun W hW => (HSC.out W hW).mono fun e w' ⟨u, he, hu, hb⟩ => by
          obtain ⟨a2, c2, p2, rfl, hr2, hp2, _⟩ := hu.open'
          exact ⟨a2, c2, p2, he, hr2, hp2, hb⟩
        clear hdo HSC HX HAS
        go_wp2
        apply cut_rg1 (V := wr) (N := N)
        case r =>
          intro key
          go_region_held3 (fun W => W.cell? ⟨qo, 0, none⟩ = some (.slice aM M.length cM) ∧ W.cell? ⟨gq, oq + m * 4, none⟩ = some (.int .i64 X.k) ∧ W.cell? ⟨gq, oq + m * 4 + 1, none⟩ = some (.string X.n) ∧ W.cell? ⟨gq, oq + m * 4 + 2, none⟩ = some (.string X.t) ∧ W.cell? ⟨gq, oq + m * 4 + 3, none⟩ = some (.string X.o)) (first | (with_reducible exact HGV.out _ U4) | (with_reducible exact HGV.out _ (U4.alloc _)) | (with_reducible exact HGV.out _ U0) | (with_reducible exact HGV.out _ U0a) | (with_reducible exact HGV.out _ (U4.set hq.le _))) ((first | (go_at_call 34; (first | (with_reducible refine (HSV.out _ U0).mono ?_) | (with_reducible refine (HSV.out _ U0a).mono ?_)); rintro e v4 ⟨a4, c4, p4, rfl, hr4, hp4, hb4⟩; have U4 : Up wr v4 := (by first | with_reducible exact U0.step hb4 | with_reducible exact U0a.step hb4); have hp4' : wr.heap.size ≤ p4 := (by first | (have h9 := hp4; omega) | (have h9 := hp4; simp at h9; omega)); (first | (have hq : Bx wr v4 wr.heap.size := (by with_reducible exact B0a.up hb4); have hqp : wr.heap.size < p4 := (by have h9 := hp4; simp at h9; omega); have o0 := hq.cell; have o1 := hq.fr) | skip))))
          · have HF := Rg.last U4 hr4 hp4'
            clear hr4 hp4 hb4 U4 hp4'
            generalize v4.alloc (.cells #[.slice a4 N.length c4] 26) = W4 at HF ⊢
            generalize v4.heap.size = q4 at HF ⊢
            exact key.out a4 c4 p4 W4 q4 HF
          all_goals
            have HF := Rg.early hq U4 hr4 hqp
            exact key.out a4 c4 p4 _ _ HF
        case k =>
          intro a4 c4 p4 W4 q4 HF4
          have hu4 : Below wr.heap.size wr W4 := HF4.1
          have cq4 := HF4.2.1.1.cell
          have hbo := (HI.out.2.1.later hu4).1
          have t0 := hbo.cell
          have g0 := hbo.fr
          have hp4 := HF4.2.2.2.2.1
          have HJ : Hid (SaI w (w.heap.size + 1) qo L A (m + 1) N (.slice a4 N.length c4) p4 (W4.setCell ⟨qo, 0, none⟩ (.slice a4 N.length c4))) := by
            have hgs := grown_set W4 qo 0 (.slice a4 N.length c4)
            have hrq := HRB.out
            have hB := HI.out.2.2.1
            refine ⟨(HI.out.1.later hu4).grown hgs (by simp; omega), ⟨?_, HF4.2.1.2.grown hgs (fun _ => by simp; omega)⟩, (hB.trans (hu4.mono hB.size)).setCell (p := ⟨qo, 0, none⟩) (by simp; omega) _, Nat.le_trans hB.size hp4, fun _ => ⟨by omega, by omega⟩, HAC.out⟩
            unfold BD
            rw [heap_setCell_same W4 qo 0 _ _ _ hbo]
            rfl
          clear HGV HSV U0 U0a B0a hbo hu4 HF4 HI c0 c1 c2 c3 co hqol hrbl hp4
          go_wp2
          go_roundw
          case rel => exact ⟨m + 1, N, _, p4, by omega, by go_num, HJ⟩
          case measure => simp [intOf]; omega
    · have hme : m = nA := by omega
      have HAN : Hid (F.actsR L A = (M, m)) := HI.out.2.2.2.2.2.done (by omega)
      subst hme
      have t0 := HI.out.1.cell
      have g0 := HI.out.1.fr
      have HF : Hid ((wr.setCell ⟨w.heap.size + 1, 0, none⟩ (.slice aM M.length cM)).rangeAt (w.heap.size + 1) 0 [.slice aM M.length cM] ∧ RW 3 fcs (wr.setCell ⟨w.heap.size + 1, 0, none⟩ (.slice aM M.length cM)) (.slice aM M.length cM) p M ∧ Below w.heap.size w (wr.setCell ⟨w.heap.size + 1, 0, none⟩ (.slice aM M.length cM)) ∧ w.heap.size ≤ p) := ⟨range1 (set_here t0 g0 _), HI.out.2.1.2.grown (grown_set wr _ _ _) (fun h e => (HI.out.2.2.2.2.1 h).1 (by simpa using e)), HI.out.2.2.1.setCell (p := ⟨w.heap.size + 1, 0, none⟩) (by simp) _, HI.out.2.2.2.1⟩
      clear HI HAS HQ HA0
      go_wp2
      refine ret_rec2 4 5 (w.heap.size + 1) 26 [.slice aM M.length cM] _ _ rfl rfl rfl rfl Try.underlying26 rfl sizeDisk HF.out.1 ?_
      exact DaP.mk HAN.out ⟨_, p, rfl, HF.out.2.1, HF.out.2.2.2⟩ HF.out.2.2.1

theorem sDoActs_wide (x0 : Option Addr) (cap ga oa : Nat) (L : List Fl) (hx0 : x0 = none ∧ cap = 0 ∨ x0 = some ⟨ga, oa, none⟩) (q : Value) (gq oq : Nat) (A : List Ac) (w : World) (hv : RS 3 fcs w (.slice x0 L.length cap) ga oa L) (hq : RS 4 acs w q gq oq A) (hA : SmallL A) :
    Calls Try.prog 23 #[.agg #[.slice x0 L.length cap], q] w (DaP w L A) := by
  rcases hx0 with ⟨rfl, rfl⟩ | rfl
  · have hL : L = [] := by
      obtain ⟨a', c', ev, _, h1, _⟩ := hv
      cases L with
      | nil => rfl
      | cons f r =>
        have e := (h1 (by simp)).1
        simp at ev
        rw [← ev.1] at e
        cases e
    subst hL
    exact sDoActs_nil [] rfl q gq oq A w hq hA
  · exact sDoActs_any ga oa cap L q gq oq A w hv hq hA
theorem run_firstsW (g o n c k : Nat) (hk : k ≤ n) (hc : n ≤ c) (w : World) : (Instr.slice 38 (.slice (some ⟨g, o, none⟩) n c) none (some (.int .i64 (k : Int))) none).run Try.prog w = .ok (.slice (some ⟨g, o, none⟩) k c) w := by
  rw [run_slice_h w 38 _ _ _ (by kernel_rfl) .i64 (k : Int) (by omega) (by omega)]
  have hz : (Go.sizeOf (Try.prog.elem 38)).run Try.prog w = .ok 4 w := by kernel_rfl
  rw [hz]
  simp [Result.andThen, sliced, Addr.add]

set_option maxRecDepth 100000 in
set_option maxHeartbeats 2000000 in
theorem CutActs_wide (x0 : Option Addr) (cap ga oa : Nat) (L : List Fl) (hx0 : x0 = none ∧ cap = 0 ∨ x0 = some ⟨ga, oa, none⟩) (gq oq cA : Nat) (A : List Ac) (hcA : A.length ≤ cA) (x : Int) (q : Value) (gn on : Nat) (N : List Int) (w : World) (hv : RS 3 fcs w (.slice x0 L.length cap) ga oa L) (hsm : SmallF L) (hq : RS 4 acs w (.slice (some ⟨gq, oq, none⟩) A.length cA) gq oq A) (hA : SmallL A) (hn : RS 1 ics w q gn on N) :
    Calls Try.prog 26 #[.agg #[.slice x0 L.length cap], .slice (some ⟨gq, oq, none⟩) A.length cA, .int .i64 x, q] w (CtP w L A x N) := by
  obtain ⟨nA, hnA⟩ : ∃ nA, A.length = nA := ⟨_, rfl⟩
  obtain ⟨xn, cn, hsn⟩ := hn.shape
  have hb0 : Below w.heap.size w ((w.alloc (.cells #[.slice x0 L.length cap] 26)).alloc (.cells #[.slice none 0 0] 26)) := ((Below.refl _ _).alloc (Nat.le_refl _) _).alloc (by simp) _
  have hs0 : ((w.alloc (.cells #[.slice x0 L.length cap] 26)).alloc (.cells #[.slice none 0 0] 26)).heap.size = w.heap.size + 1 + 1 := by simp
  have hq0 : BD ((w.alloc (.cells #[.slice x0 L.length cap] 26)).alloc (.cells #[.slice none 0 0] 26)) w.heap.size 26 (.slice x0 L.length cap) := alloc_snd _ _ _ rfl
  have hq1 : BD ((w.alloc (.cells #[.slice x0 L.length cap] 26)).alloc (.cells #[.slice none 0 0] 26)) (w.heap.size + 1) 26 (.slice none 0 0) := alloc_fst _ _ (by simp)
  have HG : Hid (Below w.heap.size w ((w.alloc (.cells #[.slice x0 L.length cap] 26)).alloc (.cells #[.slice none 0 0] 26)) ∧ ((w.alloc (.cells #[.slice x0 L.length cap] 26)).alloc (.cells #[.slice none 0 0] 26)).heap.size = w.heap.size + 1 + 1 ∧ BD ((w.alloc (.cells #[.slice x0 L.length cap] 26)).alloc (.cells #[.slice none 0 0] 26)) w.heap.size 26 (.slice x0 L.length cap) ∧ BD ((w.alloc (.cells #[.slice x0 L.length cap] 26)).alloc (.cells #[.slice none 0 0] 26)) (w.heap.size + 1) 26 (.slice none 0 0)) := ⟨hb0, hs0, hq0, hq1⟩
  have HV : Hid (RS 3 fcs ((w.alloc (.cells #[.slice x0 L.length cap] 26)).alloc (.cells #[.slice none 0 0] 26)) (.slice x0 L.length cap) ga oa L) := hv.later hb0
  have HQ : Hid (RS 4 acs ((w.alloc (.cells #[.slice x0 L.length cap] 26)).alloc (.cells #[.slice none 0 0] 26)) (.slice (some ⟨gq, oq, none⟩) A.length cA) gq oq A) := hq.later hb0
  have HN : Hid (RS 1 ics ((w.alloc (.cells #[.slice x0 L.length cap] 26)).alloc (.cells #[.slice none 0 0] 26)) q gn on N) := hn.later hb0
  have HSM : Hid (SmallF L) := hsm
  have HSA : Hid (SmallL A) := hA
  have hlA := hq.len
  subst hsn
  rw [hnA] at hlA hcA ⊢
  have HX0 : Hid (x0 = none ∧ cap = 0 ∨ x0 = some ⟨ga, oa, none⟩) := hx0
  clear hx0
  clear hb0 hs0 hq0 hq1 hv hsm hq hA hn
  by_cases hx1 : x < 0
  · have HAN : Hid (F.cutR L A x N = ([], false)) := F.cutR_out N (.inl hx1)
    have HB9 : Hid (Below w.heap.size w ((w.alloc (.cells #[.slice x0 L.length cap] 26)).alloc (.cells #[.slice none 0 0] 26))) := HG.out.1
    clear HG HV HQ HN HSM HSA
    go_enter Try.func26, Try.ntmps26
    go_wp2
    have t9 := BD.new (w.alloc (.cells #[.slice x0 L.length cap] 26)) 26 (.slice none 0 0)
    simp only [World.size_alloc] at t9
    refine ret_rec2 8 9 (w.heap.size + 1) 26 [.slice none 0 0] _ _ rfl rfl rfl rfl Try.underlying26 rfl sizeDisk (range1 t9.cell) ?_
    exact CtP.mk HAN.out ⟨_, w.heap.size, rfl, RW.nil _ _, Nat.le_refl _⟩ HB9.out
  by_cases hx2 : (nA : Int) < x
  · have HAN : Hid (F.cutR L A x N = ([], false)) := F.cutR_out N (.inr (by rw [hnA]; exact hx2))
    have HB9 : Hid (Below w.heap.size w ((w.alloc (.cells #[.slice x0 L.length cap] 26)).alloc (.cells #[.slice none 0 0] 26))) := HG.out.1
    clear HG HV HQ HN HSM HSA
    go_enter Try.func26, Try.ntmps26
    go_wp2
    have t9 := BD.new (w.alloc (.cells #[.slice x0 L.length cap] 26)) 26 (.slice none 0 0)
    simp only [World.size_alloc] at t9
    refine ret_rec2 8 9 (w.heap.size + 1) 26 [.slice none 0 0] _ _ rfl rfl rfl rfl Try.underlying26 rfl sizeDisk (range1 t9.cell) ?_
    exact CtP.mk HAN.out ⟨_, w.heap.size, rfl, RW.nil _ _, Nat.le_refl _⟩ HB9.out
  obtain ⟨k, rfl⟩ := Int.eq_ofNat_of_zero_le (show 0 ≤ x by omega)
  have hk : k ≤ nA := by omega
  have HSK : Hid (∀ a ∈ A.take k, SmallA a) := fun a ha => HSA.out a (List.mem_of_mem_take ha)
  have hsl := run_firstsW gq oq nA cA k hk hcA
  have hmk : (F.actsR L (A.take k)).2 ≤ k := Nat.le_trans (F.acts_le _ L) (by rw [List.length_take]; omega)
  have HCO : Hid (∀ W, Up ((w.alloc (.cells #[.slice x0 L.length cap] 26)).alloc (.cells #[.slice none 0 0] 26)) W → Calls Try.prog 22 #[.agg #[.slice x0 L.length cap], .slice (some ⟨gq, oq, none⟩) k cA] W fun e w' => ∃ u, e = .returned (.tuple #[u, .int .i64 (((F.actsR L (A.take k)).2 : Nat) : Int)]) ∧ DkIn w' W.heap.size u (F.actsR L (A.take k)).1 ∧ Below W.heap.size W w') := fun W hW => by
    have h4 := (HQ.out.later hW).take k (by omega)
    exact DoActs_any _ ga oa L _ gq oq (A.take k) W (HV.out.later hW) HSM.out h4 HSK.out
  have HYES : Hid ((F.actsR L (A.take k)).2 = k → F.cutR L A (k : Int) N = (F.loseR (F.actsR L (A.take k)).1 N, F.diskB (F.actsR L (A.take k)).1)) := fun h => F.cutR_all N (by omega) h
  have HNO : Hid ((F.actsR L (A.take k)).2 < k → F.cutR L A (k : Int) N = ([], false)) := fun h => F.cutR_less N h
  generalize (F.actsR L (A.take k)).1 = M at *
  generalize (F.actsR L (A.take k)).2 = m at *
  have HSV : Hid (∀ W, Up ((w.alloc (.cells #[.slice x0 L.length cap] 26)).alloc (.cells #[.slice none 0 0] 26)) W → Calls Try.prog 22 #[.agg #[.slice x0 L.length cap], .slice (some ⟨gq, oq, none⟩) k cA] W fun e w' => ∃ a4 c4 p4, e = .returned (.tuple #[.agg #[.slice a4 M.length c4], .int .i64 (m : Int)]) ∧ RW 3 fcs w' (.slice a4 M.length c4) p4 M ∧ W.heap.size ≤ p4 ∧ Up W w') := fun W hW => (HCO.out W hW).mono fun e w' ⟨u, he, hu, hb⟩ => by
    obtain ⟨a2, c2, p2, rfl, hr2, hp2, _⟩ := hu.open'
    exact ⟨a2, c2, p2, he, hr2, hp2, hb⟩
  have HGV : Hid (∀ W, Up ((w.alloc (.cells #[.slice x0 L.length cap] 26)).alloc (.cells #[.slice none 0 0] 26)) W → W.cell? ⟨w.heap.size, 0, none⟩ = some (.slice x0 L.length cap)) := fun W hW => (HG.out.2.2.1.later hW).cell
  clear HCO HV HQ HSM HSA HSK
  go_enter Try.func26, Try.ntmps26
  go_wp2
  generalize ((w.alloc (.cells #[.slice x0 L.length cap] 26)).alloc (.cells #[.slice none 0 0] 26)) = V at *
  have U0 : Up V V.drew := (Up.refl V).drew
  have U0a : Up V (V.alloc (.cells #[.slice none 0 0] 26)).drew := ((Up.refl V).alloc _).drew
  have B0a : Bx V (V.alloc (.cells #[.slice none 0 0] 26)).drew V.heap.size := Bx.new (Up.refl V)
  have z0 := HGV.out V (Up.refl V)
  apply cut_rg1 (V := V) (N := M)
  case r =>
    intro key
    go_region_held3 (fun W => W.cell? ⟨w.heap.size, 0, none⟩ = some (.slice x0 L.length cap)) (first | (with_reducible exact HGV.out _ U4) | (with_reducible exact HGV.out _ (U4.alloc _)) | (with_reducible exact HGV.out _ U0) | (with_reducible exact HGV.out _ U0a) | (with_reducible exact HGV.out _ (U4.set hq.le _))) ((first | (go_at_call 22; (first | (with_reducible refine (HSV.out _ U0).mono ?_) | (with_reducible refine (HSV.out _ U0a).mono ?_)); rintro e v4 ⟨a4, c4, p4, rfl, hr4, hp4, hb4⟩; have U4 : Up V v4 := (by first | with_reducible exact U0.step hb4 | with_reducible exact U0a.step hb4); have hp4' : V.heap.size ≤ p4 := (by first | (have h9 := hp4; omega) | (have h9 := hp4; simp at h9; omega)); (first | (have hq : Bx V v4 V.heap.size := (by with_reducible exact B0a.up hb4); have hqp : V.heap.size < p4 := (by have h9 := hp4; simp at h9; omega); have o0 := hq.cell; have o1 := hq.fr) | skip))))
    · have HF := Rg.last U4 hr4 hp4'
      clear hr4 hp4 hb4 U4 hp4'
      generalize v4.alloc (.cells #[.slice a4 M.length c4] 26) = W4 at HF ⊢
      generalize v4.heap.size = q4 at HF ⊢
      exact key.out a4 c4 p4 W4 q4 HF
    all_goals
      have HF := Rg.early hq U4 hr4 hqp
      exact key.out a4 c4 p4 _ _ HF
  case k =>
    intro a4 c4 p4 W4 q4 HF4
    have hu4 : Below V.heap.size V W4 := HF4.1
    have cq4 := HF4.2.1.1.cell
    have hb4 := HG.out.1.trans (hu4.mono HG.out.1.size)
    have hrb := HG.out.2.2.2.later hu4
    have HR4 : Hid (RS 3 fcs W4 (.slice a4 M.length c4) p4 0 M ∧ RS 1 ics W4 (.slice xn N.length cn) gn on N ∧ BD W4 (w.heap.size + 1) 26 (.slice none 0 0) ∧ Below w.heap.size w W4 ∧ w.heap.size + 1 + 1 ≤ W4.heap.size) := ⟨HF4.2.1.2.1, HN.out.later hu4, hrb, hb4, by rw [← HG.out.2.1]; exact hu4.size⟩
    clear HGV HSV U0 U0a B0a z0 hu4 HF4 HN HG hb4 hrb hsl
    by_cases hlt : m < k
    · have HAN := HNO.out hlt
      have HAN' : Hid (F.cutR L A (k : Int) N = ([], false)) := HAN
      have t0 := HR4.out.2.2.1.cell
      have g0 := HR4.out.2.2.1.fr
      have HF : Hid ((W4.setCell ⟨w.heap.size + 1, 0, none⟩ (.slice none 0 0)).rangeAt (w.heap.size + 1) 0 [.slice none 0 0] ∧ Below w.heap.size w (W4.setCell ⟨w.heap.size + 1, 0, none⟩ (.slice none 0 0))) := ⟨range1 (set_here t0 g0 _), HR4.out.2.2.2.1.setCell (p := ⟨w.heap.size + 1, 0, none⟩) (by simp) _⟩
      clear HAN HNO HYES HR4
      go_wp2
      refine ret_rec2 8 9 (w.heap.size + 1) 26 [.slice none 0 0] _ _ rfl rfl rfl rfl Try.underlying26 rfl sizeDisk HF.out.1 ?_
      exact CtP.mk HAN'.out ⟨_, w.heap.size, rfl, RW.nil _ _, Nat.le_refl _⟩ HF.out.2
    · have hmk' : m = k := by omega
      have HAN : Hid (F.cutR L A (k : Int) N = (F.loseR M N, F.diskB M)) := HYES.out hmk'
      subst hmk'
      have HLC := LoseDisk_any _ p4 0 M _ gn on N W4 HR4.out.1 HR4.out.2.1
      clear HNO HYES
      go_wp2_with fail
      refine HLC.mono ?_
      rintro e w5 ⟨u, rfl, hu, hb5⟩
      obtain ⟨a5, c5, p5, rfl, hr5, hp5, _⟩ := hu.open'
      generalize F.loseR M N = K at *
      generalize F.diskB M = R at *
      have hrb := HR4.out.2.2.1.later hb5
      have t0 := hrb.cell
      have g0 := hrb.fr
      have hsz := HR4.out.2.2.2.2
      have HF : Hid ((w5.setCell ⟨w.heap.size + 1, 0, none⟩ (.slice a5 K.length c5)).rangeAt (w.heap.size + 1) 0 [.slice a5 K.length c5] ∧ RW 3 fcs (w5.setCell ⟨w.heap.size + 1, 0, none⟩ (.slice a5 K.length c5)) (.slice a5 K.length c5) p5 K ∧ Below w.heap.size w (w5.setCell ⟨w.heap.size + 1, 0, none⟩ (.slice a5 K.length c5)) ∧ w.heap.size ≤ p5) := ⟨range1 (set_here t0 g0 _), hr5.grown (grown_set w5 _ _ _) (fun _ => by simp; omega), (HR4.out.2.2.2.1.trans (hb5.mono HR4.out.2.2.2.1.size)).setCell (p := ⟨w.heap.size + 1, 0, none⟩) (by simp) _, by omega⟩
      clear HLC hrb HR4 hr5 hu hb5 hp5 hsz
      go_wp2
      refine ret_rec2 8 9 (w.heap.size + 1) 26 [.slice a5 K.length c5] _ _ rfl rfl rfl rfl Try.underlying26 rfl sizeDisk HF.out.1 ?_
      exact CtP.mk HAN.out ⟨_, p5, rfl, HF.out.2.1, HF.out.2.2.2⟩ HF.out.2.2.1

set_option maxRecDepth 100000 in
set_option maxHeartbeats 2000000 in
theorem sCutActs_wide (x0 : Option Addr) (cap ga oa : Nat) (L : List Fl) (hx0 : x0 = none ∧ cap = 0 ∨ x0 = some ⟨ga, oa, none⟩) (gq oq cA : Nat) (A : List Ac) (hcA : A.length ≤ cA) (x : Int) (q : Value) (gn on : Nat) (N : List Int) (w : World) (hv : RS 3 fcs w (.slice x0 L.length cap) ga oa L) (hsm : SmallF L) (hq : RS 4 acs w (.slice (some ⟨gq, oq, none⟩) A.length cA) gq oq A) (hA : SmallL A) (hn : RS 1 ics w q gn on N) :
    Calls Try.prog 27 #[.agg #[.slice x0 L.length cap], .slice (some ⟨gq, oq, none⟩) A.length cA, .int .i64 x, q] w (CtP w L A x N) := by
  obtain ⟨nA, hnA⟩ : ∃ nA, A.length = nA := ⟨_, rfl⟩
  obtain ⟨xn, cn, hsn⟩ := hn.shape
  have hb0 : Below w.heap.size w ((w.alloc (.cells #[.slice x0 L.length cap] 26)).alloc (.cells #[.slice none 0 0] 26)) := ((Below.refl _ _).alloc (Nat.le_refl _) _).alloc (by simp) _
  have hs0 : ((w.alloc (.cells #[.slice x0 L.length cap] 26)).alloc (.cells #[.slice none 0 0] 26)).heap.size = w.heap.size + 1 + 1 := by simp
  have hq0 : BD ((w.alloc (.cells #[.slice x0 L.length cap] 26)).alloc (.cells #[.slice none 0 0] 26)) w.heap.size 26 (.slice x0 L.length cap) := alloc_snd _ _ _ rfl
  have hq1 : BD ((w.alloc (.cells #[.slice x0 L.length cap] 26)).alloc (.cells #[.slice none 0 0] 26)) (w.heap.size + 1) 26 (.slice none 0 0) := alloc_fst _ _ (by simp)
  have HG : Hid (Below w.heap.size w ((w.alloc (.cells #[.slice x0 L.length cap] 26)).alloc (.cells #[.slice none 0 0] 26)) ∧ ((w.alloc (.cells #[.slice x0 L.length cap] 26)).alloc (.cells #[.slice none 0 0] 26)).heap.size = w.heap.size + 1 + 1 ∧ BD ((w.alloc (.cells #[.slice x0 L.length cap] 26)).alloc (.cells #[.slice none 0 0] 26)) w.heap.size 26 (.slice x0 L.length cap) ∧ BD ((w.alloc (.cells #[.slice x0 L.length cap] 26)).alloc (.cells #[.slice none 0 0] 26)) (w.heap.size + 1) 26 (.slice none 0 0)) := ⟨hb0, hs0, hq0, hq1⟩
  have HV : Hid (RS 3 fcs ((w.alloc (.cells #[.slice x0 L.length cap] 26)).alloc (.cells #[.slice none 0 0] 26)) (.slice x0 L.length cap) ga oa L) := hv.later hb0
  have HQ : Hid (RS 4 acs ((w.alloc (.cells #[.slice x0 L.length cap] 26)).alloc (.cells #[.slice none 0 0] 26)) (.slice (some ⟨gq, oq, none⟩) A.length cA) gq oq A) := hq.later hb0
  have HN : Hid (RS 1 ics ((w.alloc (.cells #[.slice x0 L.length cap] 26)).alloc (.cells #[.slice none 0 0] 26)) q gn on N) := hn.later hb0
  have HSM : Hid (SmallF L) := hsm
  have HSA : Hid (SmallL A) := hA
  have hlA := hq.len
  subst hsn
  rw [hnA] at hlA hcA ⊢
  have HX0 : Hid (x0 = none ∧ cap = 0 ∨ x0 = some ⟨ga, oa, none⟩) := hx0
  clear hx0
  clear hb0 hs0 hq0 hq1 hv hsm hq hA hn
  by_cases hx : x < 0 ∨ (nA : Int) < x
  · have HAN : Hid (F.cutR L A x N = ([], false)) := F.cutR_out N (by rw [hnA]; exact hx)
    have HB9 : Hid (Below w.heap.size w ((w.alloc (.cells #[.slice x0 L.length cap] 26)).alloc (.cells #[.slice none 0 0] 26))) := HG.out.1
    have hd : decide ((0 : Int) ≤ x ∧ x ≤ (nA : Int)) = false := by simp; omega
    clear hx
    clear HG HV HQ HN HSM HSA
    go_enter Try.func27, Try.ntmps27
    go_wp2_with fail
    refine (l01In_any _ _ _ _).mono ?_
    rintro e w1 ⟨rfl, rfl⟩
    rw [hd]
    go_wp2
    have t9 := BD.new (w.alloc (.cells #[.slice x0 L.length cap] 26)) 26 (.slice none 0 0)
    simp only [World.size_alloc] at t9
    refine ret_rec2 8 9 (w.heap.size + 1) 26 [.slice none 0 0] _ _ rfl rfl rfl rfl Try.underlying26 rfl sizeDisk (range1 t9.cell) ?_
    exact CtP.mk HAN.out ⟨_, w.heap.size, rfl, RW.nil _ _, Nat.le_refl _⟩ HB9.out
  obtain ⟨k, rfl⟩ := Int.eq_ofNat_of_zero_le (show 0 ≤ x by omega)
  have hk : k ≤ nA := by omega
  have HSK : Hid (∀ a ∈ A.take k, SmallA a) := fun a ha => HSA.out a (List.mem_of_mem_take ha)
  have hsl := run_firstsW gq oq nA cA k hk hcA
  have hmk : (F.actsR L (A.take k)).2 ≤ k := Nat.le_trans (F.acts_le _ L) (by rw [List.length_take]; omega)
  have hd : decide ((0 : Int) ≤ (k : Int) ∧ (k : Int) ≤ (nA : Int)) = true := by simp; omega
  have HCO : Hid (∀ W, Up ((w.alloc (.cells #[.slice x0 L.length cap] 26)).alloc (.cells #[.slice none 0 0] 26)) W → Calls Try.prog 23 #[.agg #[.slice x0 L.length cap], .slice (some ⟨gq, oq, none⟩) k cA] W fun e w' => ∃ u, e = .returned (.tuple #[u, .int .i64 (((F.actsR L (A.take k)).2 : Nat) : Int)]) ∧ DkIn w' W.heap.size u (F.actsR L (A.take k)).1 ∧ Below W.heap.size W w') := fun W hW => by
    have h4 := (HQ.out.later hW).take k (by omega)
    exact sDoActs_wide x0 cap ga oa L HX0.out _ gq oq (A.take k) W (HV.out.later hW) h4 HSK.out
  have HYES : Hid ((F.actsR L (A.take k)).2 = k → F.cutR L A (k : Int) N = (F.loseR (F.actsR L (A.take k)).1 N, F.diskB (F.actsR L (A.take k)).1)) := fun h => F.cutR_all N (by omega) h
  have HNO : Hid ((F.actsR L (A.take k)).2 < k → F.cutR L A (k : Int) N = ([], false)) := fun h => F.cutR_less N h
  generalize (F.actsR L (A.take k)).1 = M at *
  generalize (F.actsR L (A.take k)).2 = m at *
  have HSV : Hid (∀ W, Up ((w.alloc (.cells #[.slice x0 L.length cap] 26)).alloc (.cells #[.slice none 0 0] 26)) W → Calls Try.prog 23 #[.agg #[.slice x0 L.length cap], .slice (some ⟨gq, oq, none⟩) k cA] W fun e w' => ∃ a4 c4 p4, e = .returned (.tuple #[.agg #[.slice a4 M.length c4], .int .i64 (m : Int)]) ∧ RW 3 fcs w' (.slice a4 M.length c4) p4 M ∧ W.heap.size ≤ p4 ∧ Up W w') := fun W hW => (HCO.out W hW).mono fun e w' ⟨u, he, hu, hb⟩ => by
    obtain ⟨a2, c2, p2, rfl, hr2, hp2, _⟩ := hu.open'
    exact ⟨a2, c2, p2, he, hr2, hp2, hb⟩
  have HGV : Hid (∀ W, Up ((w.alloc (.cells #[.slice x0 L.length cap] 26)).alloc (.cells #[.slice none 0 0] 26)) W → W.cell? ⟨w.heap.size, 0, none⟩ = some (.slice x0 L.length cap)) := fun W hW => (HG.out.2.2.1.later hW).cell
  clear HCO HV HQ HSM HSA HSK
  go_enter Try.func27, Try.ntmps27
  go_wp2_with fail
  refine (l01In_any _ _ _ _).mono ?_
  rintro e w1 ⟨rfl, hw1⟩
  rw [hw1, hd]
  clear hw1
  go_wp2
  generalize ((w.alloc (.cells #[.slice x0 L.length cap] 26)).alloc (.cells #[.slice none 0 0] 26)) = V at *
  have U0 : Up V V.drew := (Up.refl V).drew
  have U0a : Up V (V.alloc (.cells #[.slice none 0 0] 26)).drew := ((Up.refl V).alloc _).drew
  have B0a : Bx V (V.alloc (.cells #[.slice none 0 0] 26)).drew V.heap.size := Bx.new (Up.refl V)
  have z0 := HGV.out V (Up.refl V)
  apply cut_rg1 (V := V) (N := M)
  case r =>
    intro key
    go_region_held3 (fun W => W.cell? ⟨w.heap.size, 0, none⟩ = some (.slice x0 L.length cap)) (first | (with_reducible exact HGV.out _ U4) | (with_reducible exact HGV.out _ (U4.alloc _)) | (with_reducible exact HGV.out _ U0) | (with_reducible exact HGV.out _ U0a) | (with_reducible exact HGV.out _ (U4.set hq.le _))) ((first | (go_at_call 23; (first | (with_reducible refine (HSV.out _ U0).mono ?_) | (with_reducible refine (HSV.out _ U0a).mono ?_)); rintro e v4 ⟨a4, c4, p4, rfl, hr4, hp4, hb4⟩; have U4 : Up V v4 := (by first | with_reducible exact U0.step hb4 | with_reducible exact U0a.step hb4); have hp4' : V.heap.size ≤ p4 := (by first | (have h9 := hp4; omega) | (have h9 := hp4; simp at h9; omega)); (first | (have hq : Bx V v4 V.heap.size := (by with_reducible exact B0a.up hb4); have hqp : V.heap.size < p4 := (by have h9 := hp4; simp at h9; omega); have o0 := hq.cell; have o1 := hq.fr) | skip))))
    · have HF := Rg.last U4 hr4 hp4'
      clear hr4 hp4 hb4 U4 hp4'
      generalize v4.alloc (.cells #[.slice a4 M.length c4] 26) = W4 at HF ⊢
      generalize v4.heap.size = q4 at HF ⊢
      exact key.out a4 c4 p4 W4 q4 HF
    all_goals
      have HF := Rg.early hq U4 hr4 hqp
      exact key.out a4 c4 p4 _ _ HF
  case k =>
    intro a4 c4 p4 W4 q4 HF4
    have hu4 : Below V.heap.size V W4 := HF4.1
    have cq4 := HF4.2.1.1.cell
    have hb4 := HG.out.1.trans (hu4.mono HG.out.1.size)
    have hrb := HG.out.2.2.2.later hu4
    have HR4 : Hid (RS 3 fcs W4 (.slice a4 M.length c4) p4 0 M ∧ RS 1 ics W4 (.slice xn N.length cn) gn on N ∧ BD W4 (w.heap.size + 1) 26 (.slice none 0 0) ∧ Below w.heap.size w W4 ∧ w.heap.size + 1 + 1 ≤ W4.heap.size) := ⟨HF4.2.1.2.1, HN.out.later hu4, hrb, hb4, by rw [← HG.out.2.1]; exact hu4.size⟩
    clear HGV HSV U0 U0a B0a z0 hu4 HF4 HN HG hb4 hrb hsl
    by_cases hlt : m < k
    · have HAN := HNO.out hlt
      have HAN' : Hid (F.cutR L A (k : Int) N = ([], false)) := HAN
      have t0 := HR4.out.2.2.1.cell
      have g0 := HR4.out.2.2.1.fr
      have HF : Hid ((W4.setCell ⟨w.heap.size + 1, 0, none⟩ (.slice none 0 0)).rangeAt (w.heap.size + 1) 0 [.slice none 0 0] ∧ Below w.heap.size w (W4.setCell ⟨w.heap.size + 1, 0, none⟩ (.slice none 0 0))) := ⟨range1 (set_here t0 g0 _), HR4.out.2.2.2.1.setCell (p := ⟨w.heap.size + 1, 0, none⟩) (by simp) _⟩
      clear HAN HNO HYES HR4
      go_wp2
      refine ret_rec2 8 9 (w.heap.size + 1) 26 [.slice none 0 0] _ _ rfl rfl rfl rfl Try.underlying26 rfl sizeDisk HF.out.1 ?_
      exact CtP.mk HAN'.out ⟨_, w.heap.size, rfl, RW.nil _ _, Nat.le_refl _⟩ HF.out.2
    · have hmk' : m = k := by omega
      have HAN : Hid (F.cutR L A (k : Int) N = (F.loseR M N, F.diskB M)) := HYES.out hmk'
      subst hmk'
      have HLC := sLoseDisk_any _ p4 0 M _ gn on N W4 HR4.out.1 HR4.out.2.1
      clear HNO HYES
      go_wp2_with fail
      refine HLC.mono ?_
      rintro e w5 ⟨u, rfl, hu, hb5⟩
      obtain ⟨a5, c5, p5, rfl, hr5, hp5, _⟩ := hu.open'
      generalize F.loseR M N = K at *
      generalize F.diskB M = R at *
      have hrb := HR4.out.2.2.1.later hb5
      have t0 := hrb.cell
      have g0 := hrb.fr
      have hsz := HR4.out.2.2.2.2
      have HF : Hid ((w5.setCell ⟨w.heap.size + 1, 0, none⟩ (.slice a5 K.length c5)).rangeAt (w.heap.size + 1) 0 [.slice a5 K.length c5] ∧ RW 3 fcs (w5.setCell ⟨w.heap.size + 1, 0, none⟩ (.slice a5 K.length c5)) (.slice a5 K.length c5) p5 K ∧ Below w.heap.size w (w5.setCell ⟨w.heap.size + 1, 0, none⟩ (.slice a5 K.length c5)) ∧ w.heap.size ≤ p5) := ⟨range1 (set_here t0 g0 _), hr5.grown (grown_set w5 _ _ _) (fun _ => by simp; omega), (HR4.out.2.2.2.1.trans (hb5.mono HR4.out.2.2.2.1.size)).setCell (p := ⟨w.heap.size + 1, 0, none⟩) (by simp) _, by omega⟩
      clear HLC hrb HR4 hr5 hu hb5 hp5 hsz
      go_wp2
      refine ret_rec2 8 9 (w.heap.size + 1) 26 [.slice a5 K.length c5] _ _ rfl rfl rfl rfl Try.underlying26 rfl sizeDisk HF.out.1 ?_
      exact CtP.mk HAN.out ⟨_, p5, rfl, HF.out.2.1, HF.out.2.2.2⟩ HF.out.2.2.1

end Go.Proofs.Ytbmlphlknolieaa
