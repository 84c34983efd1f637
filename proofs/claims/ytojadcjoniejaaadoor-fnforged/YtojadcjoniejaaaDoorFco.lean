/-
  A proof copied by the specification.
-/
import Derived.Test.YtojadcjoniejaaaDoorPv
import Derived.Test.YtojadcjoniejaaaDoorPkJ
import Derived.Test.YtojadcjoniejaaaDoorPkK
namespace Go.Proofs.YtojadcjoniejaaaDoor
open Go.RowKit Go.BigFrame Go.Sort
set_option linter.unusedVariables false
set_option linter.unusedSimpArgs false

section
variable {w : World} {ops : Array Oper} {o : Oper} {a : Act} {K : Act → World → Prop} {Q : Exit → Act → World → Prop}
/-- a whole row of texts appended to an empty one, as one step of a region that draws its order -/
theorem step_rowT {E : Prop} (hgd : o.guard = none) (s x : Operand)
    (ho : o.op = .call { callee := .builtin .append, args := #[s, x], argTypes := #[34, 34] })
    (B : Nat) (w0 : World) (v : Value) (hs : a.eval s = v) (h : OS B w0 w v []) (p : Option Addr) (cap g : Nat) (r : List ByteArray) (hx : a.eval x = .slice p r.length cap) (hr : SS w (.slice p r.length cap) g 0 r) (hnil : p = none → cap = 0) (hlen : r.length ≤ 1000000)
    (hk : ∀ v' w', OS B w0 w' v' r → w.grownBy w' v.ownBlock → K (a.put o.dst v') w') : if Region.wanted o (yielded ops a.tmps) = true then Oper.wp Tryd.prog o a w K Q else E := by
  obtain ⟨i0, hi, hz0, hz1, hz2⟩ := info_parts Tryd.info9
  have key : ∃ v' w', (Builtin.append_ #[34, 34] o.type #[v, .slice p r.length cap]).run Tryd.prog w = .ok v' w' ∧ OS B w0 w' v' r ∧ w.grownBy w' v.ownBlock := by
    obtain ⟨p', cap', ev, _, hA, hc⟩ := hr
    obtain ⟨rfl, rfl⟩ : p = p' ∧ cap = cap' := by simpa using ev
    cases p with
    | none =>
      have h0 : r.length = 0 := by
        rcases Nat.eq_zero_or_pos r.length with h0 | h0
        · exact h0
        · exact absurd (hA h0) (by simp)
      have hr0 : r = [] := List.length_eq_zero_iff.1 h0
      subst hr0
      have := hnil rfl
      subst this
      exact ⟨v, w, run_append_owned_none (P := Tryd.prog) w B 34 o.type 9 i0 1 Tryd.underlying34 hi v 0 [] h.1, h, World.grownBy.refl _ _⟩
    | some ad =>
      obtain ⟨v', w', hrun, h1, h2, _⟩ := run_append_own (P := Tryd.prog) w B 34 o.type 9 i0 (.string ByteArray.empty) 1 16 Tryd.underlying34 hi hz0 hz1 hz2 rfl (by decide) v 0 (svs []) h.1 ad r.length cap (svs r) (by simp [svs]) (by
          intro j u hj
          have hj2 : j < r.length := by
            have := (List.getElem?_eq_some_iff.1 hj).1
            simpa [svs] using this
          have ea := hA (by omega)
          simp only [Option.some.injEq] at ea
          subst ea
          have e : (⟨g, 0, none⟩ : Addr).add j = ⟨g, 0 + j, none⟩ := by unfold Addr.add; split <;> simp_all
          rw [e, hc j hj2]
          simp [svs, List.getElem?_eq_getElem hj2] at hj
          rw [hj])
        (fun u hu => by simp [svs] at hu; obtain ⟨b, _, rfl⟩ := hu; rfl) (by unfold maxLen; omega) (by omega) h.2.2
      exact ⟨v', w', hrun, ⟨by simpa [svs] using h1, h.2.1.grown h2 h.2.2 (fun k hk => (h.1.lt k hk).1), Nat.le_trans h.2.2 h2.size⟩, h2⟩
  obtain ⟨v', w', hrun, h1, h2⟩ := key
  have hw : Region.wanted o (yielded ops a.tmps) = true := by simp [Region.wanted, hgd]
  rw [if_pos hw]
  unfold Oper.wp
  simp [execOp, ho, resolve, invoke, builtin, hs, hx, hrun, Result.andThen]
  exact hk _ _ h1 h2
/-- .. of leaves -/
theorem step_rowL {E : Prop} (hgd : o.guard = none) (s x : Operand)
    (ho : o.op = .call { callee := .builtin .append, args := #[s, x], argTypes := #[24, 24] })
    (B : Nat) (w0 : World) (v : Value) (hs : a.eval s = v) (h : OL B w0 w v []) (p : Option Addr) (cap g : Nat) (r : List Le) (hx : a.eval x = .slice p r.length cap) (hr : RS 2 lcs w (.slice p r.length cap) g 0 r) (hnil : p = none → cap = 0) (hlen : r.length ≤ 1000000)
    (hk : ∀ v' w', OL B w0 w' v' r → w.grownBy w' v.ownBlock → K (a.put o.dst v') w') : if Region.wanted o (yielded ops a.tmps) = true then Oper.wp Tryd.prog o a w K Q else E := by
  obtain ⟨i0, hi, hz0, hz1, hz2⟩ := info_parts Tryd.infoLeaf
  have key : ∃ v' w', (Builtin.append_ #[24, 24] o.type #[v, .slice p r.length cap]).run Tryd.prog w = .ok v' w' ∧ OL B w0 w' v' r ∧ w.grownBy w' v.ownBlock := by
    obtain ⟨p', cap', ev, _, hA, hc⟩ := hr
    obtain ⟨rfl, rfl⟩ : p = p' ∧ cap = cap' := by simpa using ev
    cases p with
    | none =>
      have h0 : r.length = 0 := by
        rcases Nat.eq_zero_or_pos r.length with h0 | h0
        · exact h0
        · exact absurd (hA h0).1 (by simp)
      have hr0 : r = [] := List.length_eq_zero_iff.1 h0
      subst hr0
      have := hnil rfl
      subst this
      exact ⟨v, w, run_append_owned_none (P := Tryd.prog) w B 24 o.type 74 i0 2 Tryd.underlying24 hi v 0 [] h.1, h, World.grownBy.refl _ _⟩
    | some ad =>
      obtain ⟨v', w', hrun, h1, h2, _⟩ := run_append_own (P := Tryd.prog) w B 24 o.type 74 i0 _ 2 32 Tryd.underlying24 hi hz0 hz1 hz2 rfl (by decide) v 0 [] h.1 ad r.length cap (r.flatMap lcs) (flat_len (k := 2) (enc := lcs) (fun x => lcs_len x) r) (by
          intro j u hj
          have hj2 : 0 < r.length := by
            rcases Nat.eq_zero_or_pos r.length with h0 | h0
            · rw [List.length_eq_zero_iff.1 h0] at hj
              simp at hj
            · exact h0
          have ea := (hA hj2).1
          simp only [Option.some.injEq] at ea
          subst ea
          have := flat_cellsL hc j u hj
          rw [Addr.add_mid]
          exact this)
        oneL (by unfold maxLen; omega) (by omega) h.2.2
      exact ⟨v', w', hrun, ⟨by simpa using h1, h.2.1.grown h2 h.2.2 (fun k hk => (h.1.lt k hk).1), Nat.le_trans h.2.2 h2.size⟩, h2⟩
  obtain ⟨v', w', hrun, h1, h2⟩ := key
  have hw : Region.wanted o (yielded ops a.tmps) = true := by simp [Region.wanted, hgd]
  rw [if_pos hw]
  unfold Oper.wp
  simp [execOp, ho, resolve, invoke, builtin, hs, hx, hrun, Result.andThen]
  exact hk _ _ h1 h2
end

theorem OS.madeF (B : Nat) (w0 w : World) (hb : Below B w0 w) (hB : B ≤ w.heap.size) : OS B w0 (w.alloc (.cells #[] 9)) (.slice (some ⟨w.heap.size, 0, none⟩) 0 0) [] :=
  ⟨World.ownsRow_made w #[] 0 hB (by decide) (by simp), hb.alloc hB _, by simp; omega⟩
theorem OS.keptF {B : Nat} {w0 w w' : World} {v : Value} {row : Option Nat} {l : List ByteArray} (h : OS B w0 w v l) (hg : w.grownBy w' row) (hB : ∀ k, row = some k → B ≤ k) (hne : v.ownBlock = none ∨ v.ownBlock ≠ row) : OS B w0 w' v l :=
  ⟨World.ownsRow.kept h.1 hg hne, h.2.1.grown hg h.2.2 hB, Nat.le_trans h.2.2 hg.size⟩
/-- a row of leaves and a row of texts are no one's both -/
theorem OL.neF {B B' : Nat} {w0 w1 w : World} {u v : Value} {l : List Le} {r : List ByteArray} (h : OL B w0 w u l) (k : OS B' w1 w v r) {q : Nat} (hq : v.ownBlock = some q) : u.ownBlock ≠ some q := by
  rcases k.1.2 with ⟨hv, _⟩ | ⟨g', cap, cur, hv, _, hg, _⟩
  · rw [hv] at hq; cases hq
  · rw [hv] at hq
    have : g' = q := by simpa [Value.ownBlock] using hq
    subst this
    exact h.ne hg (by decide)
theorem OL.overF {B : Nat} {w0 w w' : World} {u v : Value} {l : List Le} (h : OL B w0 w u l) (k : OS B w0 w v []) (hg : w.grownBy w' v.ownBlock) : OL B w0 w' u l := h.grown hg (fun q hq => ⟨(k.1.lt q hq).1, h.neF k hq⟩)
theorem OS.overF {B : Nat} {w0 w w' : World} {u v : Value} (h : OL B w0 w u []) (k : OS B w0 w v []) (hg : w.grownBy w' u.ownBlock) : OS B w0 w' v [] := k.keptF hg (fun q hq => (h.1.lt q hq).1) (by
  cases hv : v.ownBlock with
  | none => exact .inl rfl
  | some q => exact .inr (fun he => h.neF k hv he.symm))
theorem fco_end {w wS w7 : World} {v3 v7 : Value} {L : List Le} {S : List ByteArray} (hs : wS.heap.size = w.heap.size + 2) (hbw : Below w.heap.size w wS) (hP : PfM w7 (w.heap.size + 1) (.slice none 0 0) (.slice none 0 0)) (h3 : OL wS.heap.size wS w7 v3 L) (h7 : OS wS.heap.size wS w7 v7 S) (l1 : L.length ≤ 1000000) (l2 : S.length ≤ 1000000) :
    ∃ g1 g2, (w.heap.size ≤ g1 ∧ w.heap.size ≤ g2) ∧ PfM ((w7.setCell ⟨w.heap.size + 1, 0, none⟩ v3).setCell ⟨w.heap.size + 1, 1, none⟩ v7) (w.heap.size + 1) v3 v7 ∧ RS 2 lcs ((w7.setCell ⟨w.heap.size + 1, 0, none⟩ v3).setCell ⟨w.heap.size + 1, 1, none⟩ v7) v3 g1 0 L ∧ SS ((w7.setCell ⟨w.heap.size + 1, 0, none⟩ v3).setCell ⟨w.heap.size + 1, 1, none⟩ v7) v7 g2 0 S ∧ Below w.heap.size w ((w7.setCell ⟨w.heap.size + 1, 0, none⟩ v3).setCell ⟨w.heap.size + 1, 1, none⟩ v7) := by
  obtain ⟨g1, hr, hB1, _⟩ := h3.rw (by omega)
  obtain ⟨g2, ht, hB2⟩ := h7.ts (by omega)
  have n1 : some g1 ≠ some (w.heap.size + 1) := by simp; omega
  have n2 : some g2 ≠ some (w.heap.size + 1) := by simp; omega
  refine ⟨g1, g2, ⟨by omega, by omega⟩, (hP.set0 _).set1 _, ?_, ?_, ?_⟩
  · exact (hr.1.grown (grown_set _ _ _ _) (fun _ => n1)).grown (grown_set _ _ _ _) (fun _ => n1)
  · exact ((ht.keptG (grown_set _ _ _ _) (fun _ => n2)).keptG (grown_set _ _ _ _) (fun _ => n2)).ss
  · have b7 : Below w.heap.size w w7 := hbw.trans (h7.2.1.mono (by omega))
    exact Below.setCell (p := ⟨w.heap.size + 1, 1, none⟩) (Below.setCell (p := ⟨w.heap.size + 1, 0, none⟩) b7 (by simp) _) (by simp) _

set_option maxRecDepth 100000 in
set_option maxHeartbeats 1000000 in
theorem l11Copy_any (ab : Option Addr) (cb : Nat) (aS : Option Addr) (cS : Nat) (gb gs : Nat) (L : List Le) (S : List ByteArray) (w : World) (hb : RS 2 lcs w (.slice ab L.length cb) gb 0 L) (hs : SS w (.slice aS S.length cS) gs 0 S) (hn1 : ab = none → cb = 0) (hn2 : aS = none → cS = 0) (hl1 : L.length ≤ 1000000) (hl2 : S.length ≤ 1000000) :
    Calls Tryd.prog 105 #[.agg #[.slice ab L.length cb, .slice aS S.length cS]] w fun e w' => ∃ a1 c1 a2 c2 g1 g2, e = .returned (.agg #[.slice a1 L.length c1, .slice a2 S.length c2]) ∧ RS 2 lcs w' (.slice a1 L.length c1) g1 0 L ∧ SS w' (.slice a2 S.length c2) g2 0 S ∧ (w.heap.size ≤ g1 ∧ w.heap.size ≤ g2) ∧ Below w.heap.size w w' := by
  obtain ⟨p0, p1⟩ := run_rangeP (w := w) (p := 0) (v1 := .slice ab L.length cb) (v2 := .slice aS S.length cS) 36
  have hba : Below w.heap.size w ((w.alloc (.cells #[.slice ab L.length cb, .slice aS S.length cS] 36)).alloc (.cells #[.slice none 0 0, .slice none 0 0] 36)) := ((Below.refl _ _).alloc (Nat.le_refl _) _).alloc (by simp) _
  have c0 : ((w.alloc (.cells #[.slice ab L.length cb, .slice aS S.length cS] 36)).alloc (.cells #[.slice none 0 0, .slice none 0 0] 36)).cell? ⟨w.heap.size, 0, none⟩ = some (.slice ab L.length cb) := cell_up p0 ((Below.refl _ _).alloc (Nat.le_refl _) _)
  have c1 : ((w.alloc (.cells #[.slice ab L.length cb, .slice aS S.length cS] 36)).alloc (.cells #[.slice none 0 0, .slice none 0 0] 36)).cell? ⟨w.heap.size, 1, none⟩ = some (.slice aS S.length cS) := cell_up p1 ((Below.refl _ _).alloc (Nat.le_refl _) _)
  have hP : PfM ((w.alloc (.cells #[.slice ab L.length cb, .slice aS S.length cS] 36)).alloc (.cells #[.slice none 0 0, .slice none 0 0] 36)) (w.heap.size + 1) (.slice none 0 0) (.slice none 0 0) := by
    have h := PfM.new (w.alloc (.cells #[.slice ab L.length cb, .slice aS S.length cS] 36)) (.slice none 0 0) (.slice none 0 0)
    rw [World.size_alloc] at h
    exact h
  have hsz : ((w.alloc (.cells #[.slice ab L.length cb, .slice aS S.length cS] 36)).alloc (.cells #[.slice none 0 0, .slice none 0 0] 36)).heap.size = w.heap.size + 2 := by simp
  go_enter Tryd.func105, Tryd.ntmps105
  go_wp2_with fail
  clear p0 p1
  generalize (w.alloc (.cells #[.slice ab L.length cb, .slice aS S.length cS] 36)).alloc (.cells #[.slice none 0 0, .slice none 0 0] 36) = wS at *
  have HR : Hid (∀ W, Below wS.heap.size wS W → RS 2 lcs W (.slice ab L.length cb) gb 0 L) := fun W hW => (hb.later hba).later hW
  have HS : Hid (∀ W, Below wS.heap.size wS W → SS W (.slice aS S.length cS) gs 0 S) := fun W hW => (hs.below (hba.trans (hW.mono hba.size)) hs.lt)
  have HC : Hid (∀ W, Below wS.heap.size wS W → W.cell? ⟨w.heap.size, 0, none⟩ = some (.slice ab L.length cb) ∧ W.cell? ⟨w.heap.size, 1, none⟩ = some (.slice aS S.length cS)) := fun W hW => ⟨cell_up c0 hW, cell_up c1 hW⟩
  have HP : Hid (∀ W, Below wS.heap.size wS W → PfM W (w.heap.size + 1) (.slice none 0 0) (.slice none 0 0)) := fun W hW => hP.later hW
  have HE : Hid (∀ (w7 : World) (v3 v7 : Value), OL wS.heap.size wS w7 v3 L → OS wS.heap.size wS w7 v7 S → ∃ g1 g2, (w.heap.size ≤ g1 ∧ w.heap.size ≤ g2) ∧ PfM ((w7.setCell ⟨w.heap.size + 1, 0, none⟩ v3).setCell ⟨w.heap.size + 1, 1, none⟩ v7) (w.heap.size + 1) v3 v7 ∧ RS 2 lcs ((w7.setCell ⟨w.heap.size + 1, 0, none⟩ v3).setCell ⟨w.heap.size + 1, 1, none⟩ v7) v3 g1 0 L ∧ SS ((w7.setCell ⟨w.heap.size + 1, 0, none⟩ v3).setCell ⟨w.heap.size + 1, 1, none⟩ v7) v7 g2 0 S ∧ Below w.heap.size w ((w7.setCell ⟨w.heap.size + 1, 0, none⟩ v3).setCell ⟨w.heap.size + 1, 1, none⟩ v7)) := fun w7 v3 v7 h3 h7 => fco_end hsz hba (hP.later h7.2.1) h3 h7 hl1 hl2
  have bd : ∀ {B : Nat} {w0 W : World}, Below B w0 W → Below B w0 W.drew := fun h => h.drew
  have hr0 := Below.refl wS.heap.size wS
  have OA : OL wS.heap.size wS (wS.alloc (.cells #[] 74)).drew (.slice (some ⟨wS.heap.size, 0, none⟩) 0 0) [] := (OL.made _ _ _ hr0 (Nat.le_refl _)).later (bd (Below.refl _ _))
  have OB1 : OL wS.heap.size wS ((wS.alloc (.cells #[] 74)).alloc (.cells #[] 9)).drew (.slice (some ⟨wS.heap.size, 0, none⟩) 0 0) [] := (OL.made _ _ _ hr0 (Nat.le_refl _)).later (bd ((Below.refl _ _).alloc (Nat.le_refl _) _))
  have OB2 : OS wS.heap.size wS ((wS.alloc (.cells #[] 74)).alloc (.cells #[] 9)).drew (.slice (some ⟨wS.heap.size + 1, 0, none⟩) 0 0) [] := by
    have h := OS.madeF wS.heap.size wS (wS.alloc (.cells #[] 74)) (hr0.alloc (Nat.le_refl _) _) (by simp)
    rw [World.size_alloc] at h
    exact h.drew
  have OC1 : OL wS.heap.size wS ((wS.alloc (.cells #[] 9)).alloc (.cells #[] 74)).drew (.slice (some ⟨wS.heap.size + 1, 0, none⟩) 0 0) [] := by
    have h := OL.made wS.heap.size wS (wS.alloc (.cells #[] 9)) (hr0.alloc (Nat.le_refl _) _) (by simp)
    rw [World.size_alloc] at h
    exact h.later (bd (Below.refl _ _))
  have OC2 : OS wS.heap.size wS ((wS.alloc (.cells #[] 9)).alloc (.cells #[] 74)).drew (.slice (some ⟨wS.heap.size, 0, none⟩) 0 0) [] := ((OS.madeF _ _ _ hr0 (Nat.le_refl _)).alloc _).drew
  clear hb hs hba hP hr0 bd hsz
  go_region_held3 (fun W => W.cell? ⟨w.heap.size, 0, none⟩ = some (.slice ab L.length cb) ∧ W.cell? ⟨w.heap.size, 1, none⟩ = some (.slice aS S.length cS)) (first | (go_keep; done) | exact HC.out _ ho7.2.1 | exact HC.out _ hO7.2.1 | exact HC.out _ ho3.2.1 | exact HC.out _ OB1.2.1 | exact HC.out _ OC1.2.1 | exact HC.out _ OA.2.1) (first | (refine step_rowL rfl _ _ rfl wS.heap.size wS _ (by rfl) OB1 ab cb gb L (by rfl) (HR.out _ OB1.2.1) hn1 hl1 ?_; intro v3 w3 ho3 hg3; obtain ⟨a3, c3, rfl⟩ := ho3.shape; have hO7 := OS.overF OB1 OB2 hg3; have hL7 := ho3) | (refine step_rowL rfl _ _ rfl wS.heap.size wS _ (by rfl) OC1 ab cb gb L (by rfl) (HR.out _ OC1.2.1) hn1 hl1 ?_; intro v3 w3 ho3 hg3; obtain ⟨a3, c3, rfl⟩ := ho3.shape; have hO7 := OS.overF OC1 OC2 hg3; have hL7 := ho3) | (refine step_rowL rfl _ _ rfl wS.heap.size wS _ (by rfl) OA ab cb gb L (by rfl) (HR.out _ OA.2.1) hn1 hl1 ?_; intro v3 w3 ho3 hg3; obtain ⟨a3, c3, rfl⟩ := ho3.shape; have hO7 := OS.madeF _ _ w3 ho3.2.1 ho3.2.2; have hL7 := ho3.later ((Below.refl w3.heap.size w3).alloc (Nat.le_refl _) (.cells #[] 9))) | (refine step_rowT rfl _ _ rfl wS.heap.size wS _ (by rfl) hO7 aS cS gs S (by rfl) (HS.out _ hO7.2.1) hn2 hl2 ?_; intro v7 w7 ho7 hg7; obtain ⟨a7, c7, rfl⟩ := ho7.slice; have hL8 := OL.overF hL7 hO7 hg7; have t0 := (HP.out _ ho7.2.1).c0; have t1 := (HP.out _ ho7.2.1).c1; have f0 := (HP.out _ ho7.2.1).fr 0; have f1 := (HP.out _ ho7.2.1).fr 1) | fail)
  all_goals (obtain ⟨g1, g2, e0, e1, e2, e3, e4⟩ := HE.out _ _ _ hL8 ho7)
  all_goals (generalize (w7.setCell ⟨w.heap.size + 1, 0, none⟩ (.slice a3 L.length c3)).setCell ⟨w.heap.size + 1, 1, none⟩ (.slice a7 S.length c7) = wF at *)
  all_goals clear HR HS HC HP HE OA OB1 OB2 OC1 OC2 ho3 hg3 hO7 hL7 ho7 hg7 hL8 t0 t1 f0 f1
  all_goals go_wp2
  all_goals exact ret_pf1 2 (w.heap.size + 1) _ _ rfl rfl rfl e1 ⟨a3, c3, a7, c7, g1, g2, rfl, e2, e3, e0, e4⟩

end Go.Proofs.YtojadcjoniejaaaDoor
