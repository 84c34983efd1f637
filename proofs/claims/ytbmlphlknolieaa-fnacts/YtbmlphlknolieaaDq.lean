/-
  Acts done one behind the other, as the specification does it.
-/
import Derived.Test.YtbmlphlknolieaaSj
import Derived.Test.YtbmlphlknolieaaDj
import Derived.Test.YtbmlphlknolieaaUpw
namespace Go.Proofs.Ytbmlphlknolieaa
open Go.RowKit Go.BigFrame Go.Sort Go.Maps
set_option linter.unusedVariables false
set_option linter.unusedSimpArgs false

theorem flat_cells {w : World} {g o : Nat} {l : List Fl} (h : ∀ j (h : j < l.length), w.rangeAt g (o + j * 3) (fcs l[j])) : ∀ j u, (l.flatMap fcs)[j]? = some u → w.cell? ⟨g, o + j, none⟩ = some u := by
  intro j u hu
  have hl := flat_len (k := 3) (enc := fcs) (fun x => fcs_len x) l
  have hj : j < l.length * 3 := by rw [← hl]; exact (List.getElem?_eq_some_iff.1 hu).1
  have e : j = j / 3 * 3 + j % 3 := by omega
  have hq : j / 3 < l.length := by omega
  rw [e, flat_at (k := 3) (enc := fcs) (fun x => fcs_len x) l (j / 3) hq (j % 3) (by omega)] at hu
  have := h (j / 3) hq (j % 3) u hu
  rw [e, ← Nat.add_assoc]
  exact this

/-- a whole row of files appended to an empty one -/
theorem wp_row {w : World} {ops : Array Oper} {o : Oper} {a : Act} {Q : Exit → Act → World → Prop} {rest : List Oper} (hgd : o.guard = none) (s x : Operand)
    (ho : o.op = .call { callee := .builtin .append, args := #[s, x], argTypes := #[24, 24] })
    (B : Nat) (w0 : World) (u : Value) (hs : a.eval s = u) (h : OF B w0 w u []) (g o' cap : Nat) (l : List Fl) (hx : a.eval x = .slice (some ⟨g, o', none⟩) l.length cap)
    (hnews : ∀ j (h : j < l.length), w.rangeAt g (o' + j * 3) (fcs l[j])) (hlen : l.length ≤ 1100000)
    (hk : ∀ v' w', OF B w0 w' v' l → w.grownBy w' u.ownBlock → wpList Try.prog ops Q rest (a.put o.dst v') w') : wpList Try.prog ops Q (o :: rest) a w := by
  obtain ⟨i0, hi, hz0, hz1, hz2⟩ := info_parts Try.infoFile
  refine wpList_append_own _ hgd s x 24 ho B 36 i0 _ 3 40 Try.underlying24 hi hz0 hz1 hz2 rfl (by decide) u 0 [] hs h.1 ⟨g, o', none⟩ l.length cap (l.flatMap fcs) hx (flat_len (k := 3) (enc := fcs) (fun x => fcs_len x) l) ?_
    (fun u hu => by
      obtain ⟨f, _, hf⟩ := List.mem_flatMap.1 hu
      simp [fcs] at hf
      rcases hf with rfl | rfl | rfl <;> rfl) (by unfold maxLen; omega) (by omega) h.2.2 ?_
  · intro j u hj
    have := flat_cells hnews j u hj
    rw [Addr.add_mid]
    exact this
  · intro v' w' h1 h2 _
    exact hk _ _ ⟨by simpa using h1, h.2.1.grown h2 h.2.2 (fun k hk => (h.1.lt k hk).1), Nat.le_trans h.2.2 h2.size⟩ h2

theorem cut_rg1 {V : World} {N : List Fl} {R : Prop} {G : Option Addr → Nat → Nat → World → Nat → Prop} (r : Hid (∀ a4 c4 p4 W q, Rg V W q (.slice a4 N.length c4) p4 N → G a4 c4 p4 W q) → R)
    (k : ∀ a4 c4 p4 W q, Rg V W q (.slice a4 N.length c4) p4 N → G a4 c4 p4 W q) : R := r k

/-- so many acts are done: the box of what is answered, the box of what they left -/
def SaI (w : World) (rb qo : Nat) (L : List Fl) (A : List Ac) (m : Nat) (M : List Fl) (s : Value) (p : Nat) (wr : World) : Prop :=
  BD wr rb 26 (.slice none 0 0) ∧ XD wr qo s p M ∧ Below w.heap.size w wr ∧ w.heap.size ≤ p ∧ (0 < M.length → p ≠ rb ∧ p ≠ qo) ∧ F.Acts L A m M
def SaR (w : World) (rb qo : Nat) (L : List Fl) (A : List Ac) (i : Value) (wr : World) : Prop :=
  ∃ (m : Nat) (M : List Fl) (s : Value) (p : Nat), m ≤ A.length ∧ i = .int .i64 (m : Int) ∧ Hid (SaI w rb qo L A m M s p wr)

set_option maxRecDepth 100000 in
set_option maxHeartbeats 2000000 in
theorem sDoActs_any (ga oa cap : Nat) (L : List Fl) (q : Value) (gq oq : Nat) (A : List Ac) (w : World) (hv : RS 3 fcs w (.slice (some ⟨ga, oa, none⟩) L.length cap) ga oa L) (hq : RS 4 acs w q gq oq A) (hA : SmallL A) :
    Calls Try.prog 23 #[.agg #[.slice (some ⟨ga, oa, none⟩) L.length cap], q] w (DaP w L A) := by
  obtain ⟨xq, capq, hshq⟩ := hq.shape
  have hb0 : Below w.heap.size w (((w.alloc (.cells #[.slice (some ⟨ga, oa, none⟩) L.length cap] 26)).alloc (.cells #[.slice none 0 0] 26)).alloc (.cells #[] 36)) := (((Below.refl _ _).alloc (Nat.le_refl _) _).alloc (by simp) _).alloc (by simp; omega) _
  have hq1 : BD (((w.alloc (.cells #[.slice (some ⟨ga, oa, none⟩) L.length cap] 26)).alloc (.cells #[.slice none 0 0] 26)).alloc (.cells #[] 36)) (w.heap.size + 1) 26 (.slice none 0 0) := alloc_snd _ _ _ (by simp)
  have hv0 := hv.later hb0
  obtain ⟨_, _, hev, hlL, _, hrow⟩ := hv0
  have hO : OF w.heap.size w (((w.alloc (.cells #[.slice (some ⟨ga, oa, none⟩) L.length cap] 26)).alloc (.cells #[.slice none 0 0] 26)).alloc (.cells #[] 36)) (.slice (some ⟨w.heap.size + 1 + 1, 0, none⟩) 0 0) [] := by
    have h1 := World.ownsRow_made (e := 36) (size := 3) (base := w.heap.size) ((w.alloc (.cells #[.slice (some ⟨ga, oa, none⟩) L.length cap] 26)).alloc (.cells #[.slice none 0 0] 26)) #[] 0 (by simp; omega) (by decide) (by simp)
    refine ⟨by simpa using h1, hb0, by simp; omega⟩
  have hA0 : 0 < A.length → xq = some ⟨gq, oq, none⟩ := by
    obtain ⟨a', c', ev, _, h1, _⟩ := id hq
    rw [hshq] at ev
    simp at ev
    intro h
    rw [ev.1]
    exact (h1 h).1
  subst hshq
  obtain ⟨nA, hnA⟩ : ∃ nA, A.length = nA := ⟨_, rfl⟩
  have HA0 : Hid (0 < nA → xq = some ⟨gq, oq, none⟩) := by rw [← hnA]; exact hA0
  have hlA := hq.len
  have HQ : Hid (RS 4 acs w (.slice xq A.length capq) gq oq A) := hq
  have HAS : Hid (SmallL A) := hA
  have HO : Hid (OF w.heap.size w (((w.alloc (.cells #[.slice (some ⟨ga, oa, none⟩) L.length cap] 26)).alloc (.cells #[.slice none 0 0] 26)).alloc (.cells #[] 36)) (.slice (some ⟨w.heap.size + 1 + 1, 0, none⟩) 0 0) []) := hO
  have HRO : Hid (∀ j (h : j < L.length), (((w.alloc (.cells #[.slice (some ⟨ga, oa, none⟩) L.length cap] 26)).alloc (.cells #[.slice none 0 0] 26)).alloc (.cells #[] 36)).rangeAt ga (oa + j * 3) (fcs L[j])) := hrow
  have HQ1 : Hid (BD (((w.alloc (.cells #[.slice (some ⟨ga, oa, none⟩) L.length cap] 26)).alloc (.cells #[.slice none 0 0] 26)).alloc (.cells #[] 36)) (w.heap.size + 1) 26 (.slice none 0 0)) := hq1
  rw [hnA] at hlA HQ
  rw [hnA]
  clear hb0 hq1 hq hA hA0 hv hev hO hrow
  go_enter Try.func23, Try.ntmps23
  go_wp2_with (at_builtin; refine wp_row rfl _ _ rfl w.heap.size w _ rfl HO.out ga oa cap L rfl HRO.out hlL ?_)
  intro vO wO hOO hgr
  obtain ⟨aO, cO, hsO⟩ := hOO.shape
  subst hsO
  obtain ⟨gO, hrO, hgO, heO⟩ := OR.rw (k := 3) (enc := fcs) (fun x => fcs_len x) (by omega) hOO hlL
  have hrb : BD wO (w.heap.size + 1) 26 (.slice none 0 0) := HQ1.out.grown hgr (by simp [Value.ownBlock])
  have hne := hOO.ne hrb
  have hAl : Below wO.heap.size wO (wO.alloc (.cells #[.slice aO L.length cO] 26)) := (Below.refl _ _).alloc (Nat.le_refl _) _
  have hlt := hrO.lt
  have hro : 0 < L.length → gO ≠ w.heap.size + 1 := fun h e => by
    obtain ⟨⟨a', c', ev, _, h1, _⟩, _⟩ := hrO
    have e1 := (h1 h).1
    simp at ev
    apply hne
    rw [ev.1, e1, ← e]
    rfl
  have hrl := hrb.lt
  have HST : Hid (SaR w (w.heap.size + 1) wO.heap.size L A (.int .i64 0) (wO.alloc (.cells #[.slice aO L.length cO] 26))) :=
    ⟨0, L, _, gO, by omega, rfl, hrb.later hAl, XD.new hrO, hOO.2.1.trans (hAl.mono hOO.2.2), hgO, fun h => ⟨hro h, by have := hlt h; omega⟩, F.Acts.start L A⟩
  have HRB : Hid (w.heap.size + 1 < wO.heap.size) := hrl
  clear hOO hrO hgO heO hrb hne hAl hlt hro hgr HO HRO HQ1 hlL hrl
  go_wp2
  generalize wO.heap.size = qo at *
  generalize wO.alloc (.cells #[.slice aO L.length cO] 26) = WL at *
  go_loopw [7] (fun i wr => SaR w (w.heap.size + 1) qo L A i wr) (fun i _ => nA - (intOf i).toNat)
  case atStart => exact HST.out
  case round =>
    obtain ⟨m, M, s, p, hm, rfl, HI⟩ := hrel
    clear HST
    obtain ⟨aM, cM, hsM⟩ := HI.out.2.1.2.1.shape
    subst hsM
    rw [hnA] at hm
    have co := HI.out.2.1.1.cell
    by_cases hlt : m < nA
    · have ea := HA0.out (by omega)
      subst ea
      obtain ⟨X, hX⟩ : ∃ X, A[m]'(by omega) = X := ⟨_, rfl⟩
      have hXs := HAS.out X (by rw [← hX]; exact List.getElem_mem _)
      have hact := (HQ.out.later HI.out.2.2.1).act m (by omega)
      rw [hX] at hact
      obtain ⟨c0, c1, c2, c3⟩ := hact
      have HX : Hid (A[m]'(by omega) = X) := hX
      have i1 : (m : Int) < (nA : Int) := by omega
      have i2 : (0 : Int) ≤ (m : Int) := by omega
      have HGV : Hid (∀ W, Up wr W → W.cell? ⟨qo, 0, none⟩ = some (.slice aM M.length cM) ∧ W.cell? ⟨gq, oq + m * 4, none⟩ = some (.int .i64 X.k) ∧ W.cell? ⟨gq, oq + m * 4 + 1, none⟩ = some (.string X.n) ∧ W.cell? ⟨gq, oq + m * 4 + 2, none⟩ = some (.string X.t) ∧ W.cell? ⟨gq, oq + m * 4 + 3, none⟩ = some (.string X.o)) := fun W hW => by
        have h1 := (HQ.out.later (HI.out.2.2.1.trans (Below.mono hW HI.out.2.2.1.size))).act m (by omega)
        rw [HX.out] at h1
        exact ⟨(HI.out.2.1.later hW).1.cell, h1⟩
      have HSC : Hid (∀ W, Up wr W → Calls Try.prog 34 #[.agg #[.slice aM M.length cM], .agg #[.int .i64 X.k, .string X.n, .string X.t, .string X.o]] W fun e w' => ∃ u, e = .returned (.tuple #[u, .bool (F.actR M X).isSome]) ∧ DkIn w' W.heap.size u ((F.actR M X).getD []) ∧ Below W.heap.size W w') := fun W hW => sDoAct_any _ p 0 M X W (RS.up HI.out.2.1.2.1 hW) hXs
      have U0 : Up wr wr.drew := (Up.refl wr).drew
      have U0a : Up wr (wr.alloc (.cells #[.slice none 0 0] 26)).drew := ((Up.refl wr).alloc _).drew
      have B0a : Bx wr (wr.alloc (.cells #[.slice none 0 0] 26)).drew wr.heap.size := Bx.new (Up.refl wr)
      have hqol := HI.out.2.1.1.lt
      have hrbl := HI.out.1.lt
      clear hX hXs
      cases hdo : F.actR M X with
      | none =>
        rw [hdo] at HSC
        have HAN : Hid (F.actsR L A = (M, m)) := HI.out.2.2.2.2.2.stop (by omega) (by rw [HX.out]; exact hdo)
        have HSV : Hid (∀ W, Up wr W → Calls Try.prog 34 #[.agg #[.slice aM M.length cM], .agg #[.int .i64 X.k, .string X.n, .string X.t, .string X.o]] W fun e w' => ∃ a4 c4 p4, e = .returned (.tuple #[.agg #[.slice a4 ([] : List Fl).length c4], .bool false]) ∧ RW 3 fcs w' (.slice a4 ([] : List Fl).length c4) p4 [] ∧ W.heap.size ≤ p4 ∧ Up W w') := fun W hW => (HSC.out W hW).mono fun e w' ⟨u, he, hu, hb⟩ => by
          obtain ⟨a2, c2, p2, rfl, hr2, hp2, _⟩ := hu.open'
          exact ⟨a2, c2, p2, he, hr2, hp2, hb⟩
        clear hdo HSC HX HAS
        go_wp2
        apply cut_rg1 (V := wr) (N := [])
        case r =>
          intro key
          go_region_held3 (fun W => W.cell? ⟨qo, 0, none⟩ = some (.slice aM M.length cM) ∧ W.cell? ⟨gq, oq + m * 4, none⟩ = some (.int .i64 X.k) ∧ W.cell? ⟨gq, oq + m * 4 + 1, none⟩ = some (.string X.n) ∧ W.cell? ⟨gq, oq + m * 4 + 2, none⟩ = some (.string X.t) ∧ W.cell? ⟨gq, oq + m * 4 + 3, none⟩ = some (.string X.o)) (first | (with_reducible exact HGV.out _ U4) | (with_reducible exact HGV.out _ (U4.alloc _)) | (with_reducible exact HGV.out _ U0) | (with_reducible exact HGV.out _ U0a) | (with_reducible exact HGV.out _ (U4.set hq.le _))) ((first | (go_at_call 34; (first | (with_reducible refine (HSV.out _ U0).mono ?_) | (with_reducible refine (HSV.out _ U0a).mono ?_)); rintro e v4 ⟨a4, c4, p4, rfl, hr4, hp4, hb4⟩; have U4 : Up wr v4 := (by first | with_reducible exact U0.step hb4 | with_reducible exact U0a.step hb4); have hp4' : wr.heap.size ≤ p4 := (by first | (have h9 := hp4; omega) | (have h9 := hp4; simp at h9; omega)); (first | (have hq : Bx wr v4 wr.heap.size := (by with_reducible exact B0a.up hb4); have hqp : wr.heap.size < p4 := (by have h9 := hp4; simp at h9; omega); have o0 := hq.cell; have o1 := hq.fr) | skip))))
          · have HF := Rg.last U4 hr4 hp4'
            clear hr4 hp4 hb4 U4 hp4'
            generalize v4.alloc (.cells #[.slice a4 ([] : List Fl).length c4] 26) = W4 at HF ⊢
            generalize v4.heap.size = q4 at HF ⊢
            exact key.out a4 c4 p4 W4 q4 HF
          all_goals
            have HF := Rg.early hq U4 hr4 hqp
            exact key.out a4 c4 p4 _ _ HF
        case k =>
          intro a4 c4 p4 W4 q4 HF4
          have hu4 : Below wr.heap.size wr W4 := HF4.1
          have co4 := (HI.out.2.1.later hu4).1.cell
          have hbd := HI.out.1.later hu4
          have t0 := hbd.cell
          have g0 := hbd.fr
          have HF : Hid ((W4.setCell ⟨w.heap.size + 1, 0, none⟩ (.slice aM M.length cM)).rangeAt (w.heap.size + 1) 0 [.slice aM M.length cM] ∧ RW 3 fcs (W4.setCell ⟨w.heap.size + 1, 0, none⟩ (.slice aM M.length cM)) (.slice aM M.length cM) p M ∧ Below w.heap.size w (W4.setCell ⟨w.heap.size + 1, 0, none⟩ (.slice aM M.length cM)) ∧ w.heap.size ≤ p) := ⟨range1 (set_here t0 g0 _), (HI.out.2.1.2.later hu4).grown (grown_set W4 _ _ _) (fun h e => (HI.out.2.2.2.2.1 h).1 (by simpa using e)), (HI.out.2.2.1.trans (hu4.mono HI.out.2.2.1.size)).setCell (p := ⟨w.heap.size + 1, 0, none⟩) (by simp) _, HI.out.2.2.2.1⟩
          clear HGV HSV U0 U0a B0a hbd hu4 HF4 HI c0 c1 c2 c3 co hqol hrbl
          go_wp2
          refine ret_rec2 4 5 (w.heap.size + 1) 26 [.slice aM M.length cM] _ _ rfl rfl rfl rfl Try.underlying26 rfl sizeDisk HF.out.1 ?_
          exact DaP.mk HAN.out ⟨_, p, rfl, HF.out.2.1, HF.out.2.2.2⟩ HF.out.2.2.1
      | some N =>
        rw [hdo] at HSC
        have HAC : Hid (F.Acts L A (m + 1) N) := HI.out.2.2.2.2.2.step (by omega) (by rw [HX.out]; exact hdo)
        have HSV : Hid (∀ W, Up wr W → Calls Try.prog 34 #[.agg #[.slice aM M.length cM], .agg #[.int .i64 X.k, .string X.n, .string X.t, .string X.o]] W fun e w' => ∃ a4 c4 p4, e = .returned (.tuple #[.agg #[.slice a4 N.length c4], .bool true]) ∧ RW 3 fcs w' (.slice a4 N.length c4) p4 N ∧ W.heap.size ≤ p4 ∧ Up W w') := fun W hW => (HSC.out W hW).mono fun e w' ⟨u, he, hu, hb⟩ => by
          obtain ⟨a2, c2, p2, rfl, hr2, hp2, _⟩ := hu.open'
          exact ⟨a2, c2, p2, he, hr2, hp2, hb⟩
        clear hdo HSC HX HAS
        go_wp2
        apply cut_rg1 (V := wr) (N := N)
        case r =>
          intro key
          go_region_held3 (fun W => W.cell? ⟨qo, 0, none⟩ = some (.slice aM M.length cM) ∧ W.cell? ⟨gq, oq + m * 4, none⟩ = some (.int .i64 X.k) ∧ W.cell? ⟨gq, oq + m * 4 + 1, none⟩ = some (.string X.n) ∧ W.cell? ⟨gq, oq + m * 4 + 2, none⟩ = some (.string X.t) ∧ W.cell? ⟨gq, oq + m * 4 + 3, none⟩ = some (.string X.o)) (first | (with_reducible exact HGV.out _ U4) | (with_reducible exact HGV.out _ (U4.alloc _)) | (with_reducible exact HGV.out _ U0) | (with_reducible exact HGV.out _ U0a) | (with_reducible exact HGV.out _ (U4.set hq.le _))) ((first | (go_at_call 34; (first | (with_reducible refine (HSV.out _ U0).mono ?_) | (with_reducible refine (HSV.out _ U0a).mono ?_)); rintro e v4 ⟨a4, c4, p4, rfl, hr4, hp4, hb4⟩; have U4 : Up wr v4 := (by first | with_reducible exact U0.step hb4 | with_reducible exact U0a.step hb4); have hp4' : wr.heap.size ≤ p4 := (by first | (have h9 := hp4; omega) | (have h9 := hp4; simp at h9; omega)); (first | (have hq : Bx wr v4 wr.heap.size := (by with_reducible exact B0a.up hb4); have hqp : wr.heap.size < p4 := (by have h9 := hp4; simp at h9; omega); have o0 := hq.cell; have o1 := hq.fr) | skip))))
          · have HF := Rg.last U4 hr4 hp4'
            clear hr4 hp4 hb4 U4 hp4'
            generalize v4.alloc (.cells #[.slice a4 N.length c4] 26) = W4 at HF ⊢
            generalize v4.heap.size = q4 at HF ⊢
            exact key.out a4 c4 p4 W4 q4 HF
          all_goals
            have HF := Rg.early hq U4 hr4 hqp
            exact key.out a4 c4 p4 _ _ HF
        case k =>
          intro a4 c4 p4 W4 q4 HF4
          have hu4 : Below wr.heap.size wr W4 := HF4.1
          have cq4 := HF4.2.1.1.cell
          have hbo := (HI.out.2.1.later hu4).1
          have t0 := hbo.cell
          have g0 := hbo.fr
          have hp4 := HF4.2.2.2.2.1
          have HJ : Hid (SaI w (w.heap.size + 1) qo L A (m + 1) N (.slice a4 N.length c4) p4 (W4.setCell ⟨qo, 0, none⟩ (.slice a4 N.length c4))) := by
            have hgs := grown_set W4 qo 0 (.slice a4 N.length c4)
            have hrq := HRB.out
            have hB := HI.out.2.2.1
            refine ⟨(HI.out.1.later hu4).grown hgs (by simp; omega), ⟨?_, HF4.2.1.2.grown hgs (fun _ => by simp; omega)⟩, (hB.trans (hu4.mono hB.size)).setCell (p := ⟨qo, 0, none⟩) (by simp; omega) _, Nat.le_trans hB.size hp4, fun _ => ⟨by omega, by omega⟩, HAC.out⟩
            unfold BD
            rw [heap_setCell_same W4 qo 0 _ _ _ hbo]
            rfl
          clear HGV HSV U0 U0a B0a hbo hu4 HF4 HI c0 c1 c2 c3 co hqol hrbl hp4
          go_wp2
          go_roundw
          case rel => exact ⟨m + 1, N, _, p4, by omega, by go_num, HJ⟩
          case measure => simp [intOf]; omega
    · have hme : m = nA := by omega
      have HAN : Hid (F.actsR L A = (M, m)) := HI.out.2.2.2.2.2.done (by omega)
      subst hme
      have t0 := HI.out.1.cell
      have g0 := HI.out.1.fr
      have HF : Hid ((wr.setCell ⟨w.heap.size + 1, 0, none⟩ (.slice aM M.length cM)).rangeAt (w.heap.size + 1) 0 [.slice aM M.length cM] ∧ RW 3 fcs (wr.setCell ⟨w.heap.size + 1, 0, none⟩ (.slice aM M.length cM)) (.slice aM M.length cM) p M ∧ Below w.heap.size w (wr.setCell ⟨w.heap.size + 1, 0, none⟩ (.slice aM M.length cM)) ∧ w.heap.size ≤ p) := ⟨range1 (set_here t0 g0 _), HI.out.2.1.2.grown (grown_set wr _ _ _) (fun h e => (HI.out.2.2.2.2.1 h).1 (by simpa using e)), HI.out.2.2.1.setCell (p := ⟨w.heap.size + 1, 0, none⟩) (by simp) _, HI.out.2.2.2.1⟩
      clear HI HAS HQ HA0
      go_wp2
      refine ret_rec2 4 5 (w.heap.size + 1) 26 [.slice aM M.length cM] _ _ rfl rfl rfl rfl Try.underlying26 rfl sizeDisk HF.out.1 ?_
      exact DaP.mk HAN.out ⟨_, p, rfl, HF.out.2.1, HF.out.2.2.2⟩ HF.out.2.2.1

end Go.Proofs.Ytbmlphlknolieaa
