/-
  Texts laid together: Fco, Fpl, Spl, An.
-/
import Derived.Test.YtfojmagcoipbnaaGreatDoorQ27
import Derived.Test.YtfojmagcoipbnaaGreatDoorQ14
import Derived.Test.YtfojmagcoipbnaaGreatDoorQ20
import Derived.Test.YtfojmagcoipbnaaGreatDoorQ25
import Derived.Test.YtfojmagcoipbnaaGreatDoorQ05
import Derived.Deep.RegionLaw
import Derived.Deep.CutRange
import Derived.Deep.RegionHeld
import Derived.Test.YtfojmagcoipbnaaGreatDoorQ30
import Derived.Test.YtfojmagcoipbnaaGreatDoorQ12
import Derived.Test.YtfojmagcoipbnaaGreatDoorQ15
/-
  A proof copied by the specification.
-/
namespace Go.Proofs.YtfojmagcoipbnaaGreatDoor
open Go.RowKit Go.BigFrame Go.Sort
set_option linter.unusedVariables false
set_option linter.unusedSimpArgs false

section
variable {w : World} {ops : Array Oper} {o : Oper} {a : Act} {K : Act → World → Prop} {Q : Exit → Act → World → Prop}
/-- a whole row of texts appended to an empty one, as one step of a region that draws its order -/
theorem step_rowT {E : Prop} (hgd : o.guard = none) (s x : Operand)
    (ho : o.op = .call { callee := .builtin .append, args := #[s, x], argTypes := #[27, 27] })
    (B : Nat) (w0 : World) (v : Value) (hs : a.eval s = v) (h : OS B w0 w v []) (p : Option Addr) (cap g : Nat) (r : List ByteArray) (hx : a.eval x = .slice p r.length cap) (hr : SS w (.slice p r.length cap) g 0 r) (hnil : p = none → cap = 0) (hlen : r.length ≤ 1000000)
    (hk : ∀ v' w', OS B w0 w' v' r → w.grownBy w' v.ownBlock → K (a.put o.dst v') w') : if Region.wanted o (yielded ops a.tmps) = true then Oper.wp Tryz.prog o a w K Q else E := by
  obtain ⟨i0, hi, hz0, hz1, hz2⟩ := info_parts Tryz.info9
  have key : ∃ v' w', (Builtin.append_ #[27, 27] o.type #[v, .slice p r.length cap]).run Tryz.prog w = .ok v' w' ∧ OS B w0 w' v' r ∧ w.grownBy w' v.ownBlock := by
    obtain ⟨p', cap', ev, _, hA, hc⟩ := hr
    obtain ⟨rfl, rfl⟩ : p = p' ∧ cap = cap' := by simpa using ev
    cases p with
    | none =>
      have h0 : r.length = 0 := by
        rcases Nat.eq_zero_or_pos r.length with h0 | h0
        · exact h0
        · exact absurd (hA h0) (by simp)
      have hr0 : r = [] := List.length_eq_zero_iff.1 h0
      subst hr0
      have := hnil rfl
      subst this
      exact ⟨v, w, run_append_owned_none (P := Tryz.prog) w B 27 o.type 9 i0 1 Tryz.underlying27 hi v 0 [] h.1, h, World.grownBy.refl _ _⟩
    | some ad =>
      obtain ⟨v', w', hrun, h1, h2, _⟩ := run_append_own (P := Tryz.prog) w B 27 o.type 9 i0 (.string ByteArray.empty) 1 16 Tryz.underlying27 hi hz0 hz1 hz2 rfl (by decide) v 0 (svs []) h.1 ad r.length cap (svs r) (by simp [svs]) (by
          intro j u hj
          have hj2 : j < r.length := by
            have := (List.getElem?_eq_some_iff.1 hj).1
            simpa [svs] using this
          have ea := hA (by omega)
          simp only [Option.some.injEq] at ea
          subst ea
          have e : (⟨g, 0, none⟩ : Addr).add j = ⟨g, 0 + j, none⟩ := by unfold Addr.add; split <;> simp_all
          rw [e, hc j hj2]
          simp [svs, List.getElem?_eq_getElem hj2] at hj
          rw [hj])
        (fun u hu => by simp [svs] at hu; obtain ⟨b, _, rfl⟩ := hu; rfl) (by unfold maxLen; omega) (by omega) h.2.2
      exact ⟨v', w', hrun, ⟨by simpa [svs] using h1, h.2.1.grown h2 h.2.2 (fun k hk => (h.1.lt k hk).1), Nat.le_trans h.2.2 h2.size⟩, h2⟩
  obtain ⟨v', w', hrun, h1, h2⟩ := key
  have hw : Region.wanted o (yielded ops a.tmps) = true := by simp [Region.wanted, hgd]
  rw [if_pos hw]
  unfold Oper.wp
  simp [execOp, ho, resolve, invoke, builtin, hs, hx, hrun, Result.andThen]
  exact hk _ _ h1 h2
/-- .. of leaves -/
theorem step_rowL {E : Prop} (hgd : o.guard = none) (s x : Operand)
    (ho : o.op = .call { callee := .builtin .append, args := #[s, x], argTypes := #[24, 24] })
    (B : Nat) (w0 : World) (v : Value) (hs : a.eval s = v) (h : OL B w0 w v []) (p : Option Addr) (cap g : Nat) (r : List Le) (hx : a.eval x = .slice p r.length cap) (hr : RS 2 lcs w (.slice p r.length cap) g 0 r) (hnil : p = none → cap = 0) (hlen : r.length ≤ 1000000)
    (hk : ∀ v' w', OL B w0 w' v' r → w.grownBy w' v.ownBlock → K (a.put o.dst v') w') : if Region.wanted o (yielded ops a.tmps) = true then Oper.wp Tryz.prog o a w K Q else E := by
  obtain ⟨i0, hi, hz0, hz1, hz2⟩ := info_parts Tryz.infoLeaf
  have key : ∃ v' w', (Builtin.append_ #[24, 24] o.type #[v, .slice p r.length cap]).run Tryz.prog w = .ok v' w' ∧ OL B w0 w' v' r ∧ w.grownBy w' v.ownBlock := by
    obtain ⟨p', cap', ev, _, hA, hc⟩ := hr
    obtain ⟨rfl, rfl⟩ : p = p' ∧ cap = cap' := by simpa using ev
    cases p with
    | none =>
      have h0 : r.length = 0 := by
        rcases Nat.eq_zero_or_pos r.length with h0 | h0
        · exact h0
        · exact absurd (hA h0).1 (by simp)
      have hr0 : r = [] := List.length_eq_zero_iff.1 h0
      subst hr0
      have := hnil rfl
      subst this
      exact ⟨v, w, run_append_owned_none (P := Tryz.prog) w B 24 o.type 121 i0 2 Tryz.underlying24 hi v 0 [] h.1, h, World.grownBy.refl _ _⟩
    | some ad =>
      obtain ⟨v', w', hrun, h1, h2, _⟩ := run_append_own (P := Tryz.prog) w B 24 o.type 121 i0 _ 2 32 Tryz.underlying24 hi hz0 hz1 hz2 rfl (by decide) v 0 [] h.1 ad r.length cap (r.flatMap lcs) (flat_len (k := 2) (enc := lcs) (fun x => lcs_len x) r) (by
          intro j u hj
          have hj2 : 0 < r.length := by
            rcases Nat.eq_zero_or_pos r.length with h0 | h0
            · rw [List.length_eq_zero_iff.1 h0] at hj
              simp at hj
            · exact h0
          have ea := (hA hj2).1
          simp only [Option.some.injEq] at ea
          subst ea
          have := flat_cellsL hc j u hj
          rw [Addr.add_mid]
          exact this)
        oneL (by unfold maxLen; omega) (by omega) h.2.2
      exact ⟨v', w', hrun, ⟨by simpa using h1, h.2.1.grown h2 h.2.2 (fun k hk => (h.1.lt k hk).1), Nat.le_trans h.2.2 h2.size⟩, h2⟩
  obtain ⟨v', w', hrun, h1, h2⟩ := key
  have hw : Region.wanted o (yielded ops a.tmps) = true := by simp [Region.wanted, hgd]
  rw [if_pos hw]
  unfold Oper.wp
  simp [execOp, ho, resolve, invoke, builtin, hs, hx, hrun, Result.andThen]
  exact hk _ _ h1 h2
end

theorem OS.madeF (B : Nat) (w0 w : World) (hb : Below B w0 w) (hB : B ≤ w.heap.size) : OS B w0 (w.alloc (.cells #[] 9)) (.slice (some ⟨w.heap.size, 0, none⟩) 0 0) [] :=
  ⟨World.ownsRow_made w #[] 0 hB (by decide) (by simp), hb.alloc hB _, by simp; omega⟩
theorem OS.keptF {B : Nat} {w0 w w' : World} {v : Value} {row : Option Nat} {l : List ByteArray} (h : OS B w0 w v l) (hg : w.grownBy w' row) (hB : ∀ k, row = some k → B ≤ k) (hne : v.ownBlock = none ∨ v.ownBlock ≠ row) : OS B w0 w' v l :=
  ⟨World.ownsRow.kept h.1 hg hne, h.2.1.grown hg h.2.2 hB, Nat.le_trans h.2.2 hg.size⟩
/-- a row of leaves and a row of texts are no one's both -/
theorem OL.neF {B B' : Nat} {w0 w1 w : World} {u v : Value} {l : List Le} {r : List ByteArray} (h : OL B w0 w u l) (k : OS B' w1 w v r) {q : Nat} (hq : v.ownBlock = some q) : u.ownBlock ≠ some q := by
  rcases k.1.2 with ⟨hv, _⟩ | ⟨g', cap, cur, hv, _, hg, _⟩
  · rw [hv] at hq; cases hq
  · rw [hv] at hq
    have : g' = q := by simpa [Value.ownBlock] using hq
    subst this
    exact h.ne hg (by decide)
theorem OL.overF {B : Nat} {w0 w w' : World} {u v : Value} {l : List Le} (h : OL B w0 w u l) (k : OS B w0 w v []) (hg : w.grownBy w' v.ownBlock) : OL B w0 w' u l := h.grown hg (fun q hq => ⟨(k.1.lt q hq).1, h.neF k hq⟩)
theorem OS.overF {B : Nat} {w0 w w' : World} {u v : Value} (h : OL B w0 w u []) (k : OS B w0 w v []) (hg : w.grownBy w' u.ownBlock) : OS B w0 w' v [] := k.keptF hg (fun q hq => (h.1.lt q hq).1) (by
  cases hv : v.ownBlock with
  | none => exact .inl rfl
  | some q => exact .inr (fun he => h.neF k hv he.symm))
theorem fco_end {w wS w7 : World} {v3 v7 : Value} {L : List Le} {S : List ByteArray} (hs : wS.heap.size = w.heap.size + 2) (hbw : Below w.heap.size w wS) (hP : PfM w7 (w.heap.size + 1) (.slice none 0 0) (.slice none 0 0)) (h3 : OL wS.heap.size wS w7 v3 L) (h7 : OS wS.heap.size wS w7 v7 S) (l1 : L.length ≤ 1000000) (l2 : S.length ≤ 1000000) :
    ∃ g1 g2, (w.heap.size ≤ g1 ∧ w.heap.size ≤ g2) ∧ PfM ((w7.setCell ⟨w.heap.size + 1, 0, none⟩ v3).setCell ⟨w.heap.size + 1, 1, none⟩ v7) (w.heap.size + 1) v3 v7 ∧ RS 2 lcs ((w7.setCell ⟨w.heap.size + 1, 0, none⟩ v3).setCell ⟨w.heap.size + 1, 1, none⟩ v7) v3 g1 0 L ∧ SS ((w7.setCell ⟨w.heap.size + 1, 0, none⟩ v3).setCell ⟨w.heap.size + 1, 1, none⟩ v7) v7 g2 0 S ∧ Below w.heap.size w ((w7.setCell ⟨w.heap.size + 1, 0, none⟩ v3).setCell ⟨w.heap.size + 1, 1, none⟩ v7) := by
  obtain ⟨g1, hr, hB1, _⟩ := h3.rw (by omega)
  obtain ⟨g2, ht, hB2⟩ := h7.ts (by omega)
  have n1 : some g1 ≠ some (w.heap.size + 1) := by simp; omega
  have n2 : some g2 ≠ some (w.heap.size + 1) := by simp; omega
  refine ⟨g1, g2, ⟨by omega, by omega⟩, (hP.set0 _).set1 _, ?_, ?_, ?_⟩
  · exact (hr.1.grown (grown_set _ _ _ _) (fun _ => n1)).grown (grown_set _ _ _ _) (fun _ => n1)
  · exact ((ht.keptG (grown_set _ _ _ _) (fun _ => n2)).keptG (grown_set _ _ _ _) (fun _ => n2)).ss
  · have b7 : Below w.heap.size w w7 := hbw.trans (h7.2.1.mono (by omega))
    exact Below.setCell (p := ⟨w.heap.size + 1, 1, none⟩) (Below.setCell (p := ⟨w.heap.size + 1, 0, none⟩) b7 (by simp) _) (by simp) _

set_option maxRecDepth 100000 in
set_option maxHeartbeats 1000000 in
theorem l11Copy_any (ab : Option Addr) (cb : Nat) (aS : Option Addr) (cS : Nat) (gb gs : Nat) (L : List Le) (S : List ByteArray) (w : World) (hb : RS 2 lcs w (.slice ab L.length cb) gb 0 L) (hs : SS w (.slice aS S.length cS) gs 0 S) (hn1 : ab = none → cb = 0) (hn2 : aS = none → cS = 0) (hl1 : L.length ≤ 1000000) (hl2 : S.length ≤ 1000000) :
    Calls Tryz.prog 195 #[.agg #[.slice ab L.length cb, .slice aS S.length cS]] w fun e w' => ∃ a1 c1 a2 c2 g1 g2, e = .returned (.agg #[.slice a1 L.length c1, .slice a2 S.length c2]) ∧ RS 2 lcs w' (.slice a1 L.length c1) g1 0 L ∧ SS w' (.slice a2 S.length c2) g2 0 S ∧ (w.heap.size ≤ g1 ∧ w.heap.size ≤ g2) ∧ Below w.heap.size w w' := by
  obtain ⟨p0, p1⟩ := run_rangeP (w := w) (p := 0) (v1 := .slice ab L.length cb) (v2 := .slice aS S.length cS) 29
  have hba : Below w.heap.size w ((w.alloc (.cells #[.slice ab L.length cb, .slice aS S.length cS] 29)).alloc (.cells #[.slice none 0 0, .slice none 0 0] 29)) := ((Below.refl _ _).alloc (Nat.le_refl _) _).alloc (by simp) _
  have c0 : ((w.alloc (.cells #[.slice ab L.length cb, .slice aS S.length cS] 29)).alloc (.cells #[.slice none 0 0, .slice none 0 0] 29)).cell? ⟨w.heap.size, 0, none⟩ = some (.slice ab L.length cb) := cell_up p0 ((Below.refl _ _).alloc (Nat.le_refl _) _)
  have c1 : ((w.alloc (.cells #[.slice ab L.length cb, .slice aS S.length cS] 29)).alloc (.cells #[.slice none 0 0, .slice none 0 0] 29)).cell? ⟨w.heap.size, 1, none⟩ = some (.slice aS S.length cS) := cell_up p1 ((Below.refl _ _).alloc (Nat.le_refl _) _)
  have hP : PfM ((w.alloc (.cells #[.slice ab L.length cb, .slice aS S.length cS] 29)).alloc (.cells #[.slice none 0 0, .slice none 0 0] 29)) (w.heap.size + 1) (.slice none 0 0) (.slice none 0 0) := by
    have h := PfM.new (w.alloc (.cells #[.slice ab L.length cb, .slice aS S.length cS] 29)) (.slice none 0 0) (.slice none 0 0)
    rw [World.size_alloc] at h
    exact h
  have hsz : ((w.alloc (.cells #[.slice ab L.length cb, .slice aS S.length cS] 29)).alloc (.cells #[.slice none 0 0, .slice none 0 0] 29)).heap.size = w.heap.size + 2 := by simp
  go_enter Tryz.func195, Tryz.ntmps195
  go_wp2_with fail
  clear p0 p1
  generalize (w.alloc (.cells #[.slice ab L.length cb, .slice aS S.length cS] 29)).alloc (.cells #[.slice none 0 0, .slice none 0 0] 29) = wS at *
  have HR : Hid (∀ W, Below wS.heap.size wS W → RS 2 lcs W (.slice ab L.length cb) gb 0 L) := fun W hW => (hb.later hba).later hW
  have HS : Hid (∀ W, Below wS.heap.size wS W → SS W (.slice aS S.length cS) gs 0 S) := fun W hW => (hs.below (hba.trans (hW.mono hba.size)) hs.lt)
  have HC : Hid (∀ W, Below wS.heap.size wS W → W.cell? ⟨w.heap.size, 0, none⟩ = some (.slice ab L.length cb) ∧ W.cell? ⟨w.heap.size, 1, none⟩ = some (.slice aS S.length cS)) := fun W hW => ⟨cell_up c0 hW, cell_up c1 hW⟩
  have HP : Hid (∀ W, Below wS.heap.size wS W → PfM W (w.heap.size + 1) (.slice none 0 0) (.slice none 0 0)) := fun W hW => hP.later hW
  have HE : Hid (∀ (w7 : World) (v3 v7 : Value), OL wS.heap.size wS w7 v3 L → OS wS.heap.size wS w7 v7 S → ∃ g1 g2, (w.heap.size ≤ g1 ∧ w.heap.size ≤ g2) ∧ PfM ((w7.setCell ⟨w.heap.size + 1, 0, none⟩ v3).setCell ⟨w.heap.size + 1, 1, none⟩ v7) (w.heap.size + 1) v3 v7 ∧ RS 2 lcs ((w7.setCell ⟨w.heap.size + 1, 0, none⟩ v3).setCell ⟨w.heap.size + 1, 1, none⟩ v7) v3 g1 0 L ∧ SS ((w7.setCell ⟨w.heap.size + 1, 0, none⟩ v3).setCell ⟨w.heap.size + 1, 1, none⟩ v7) v7 g2 0 S ∧ Below w.heap.size w ((w7.setCell ⟨w.heap.size + 1, 0, none⟩ v3).setCell ⟨w.heap.size + 1, 1, none⟩ v7)) := fun w7 v3 v7 h3 h7 => fco_end hsz hba (hP.later h7.2.1) h3 h7 hl1 hl2
  have bd : ∀ {B : Nat} {w0 W : World}, Below B w0 W → Below B w0 W.drew := fun h => h.drew
  have hr0 := Below.refl wS.heap.size wS
  have OA : OL wS.heap.size wS (wS.alloc (.cells #[] 121)).drew (.slice (some ⟨wS.heap.size, 0, none⟩) 0 0) [] := (OL.made _ _ _ hr0 (Nat.le_refl _)).later (bd (Below.refl _ _))
  have OB1 : OL wS.heap.size wS ((wS.alloc (.cells #[] 121)).alloc (.cells #[] 9)).drew (.slice (some ⟨wS.heap.size, 0, none⟩) 0 0) [] := (OL.made _ _ _ hr0 (Nat.le_refl _)).later (bd ((Below.refl _ _).alloc (Nat.le_refl _) _))
  have OB2 : OS wS.heap.size wS ((wS.alloc (.cells #[] 121)).alloc (.cells #[] 9)).drew (.slice (some ⟨wS.heap.size + 1, 0, none⟩) 0 0) [] := by
    have h := OS.madeF wS.heap.size wS (wS.alloc (.cells #[] 121)) (hr0.alloc (Nat.le_refl _) _) (by simp)
    rw [World.size_alloc] at h
    exact h.drew
  have OC1 : OL wS.heap.size wS ((wS.alloc (.cells #[] 9)).alloc (.cells #[] 121)).drew (.slice (some ⟨wS.heap.size + 1, 0, none⟩) 0 0) [] := by
    have h := OL.made wS.heap.size wS (wS.alloc (.cells #[] 9)) (hr0.alloc (Nat.le_refl _) _) (by simp)
    rw [World.size_alloc] at h
    exact h.later (bd (Below.refl _ _))
  have OC2 : OS wS.heap.size wS ((wS.alloc (.cells #[] 9)).alloc (.cells #[] 121)).drew (.slice (some ⟨wS.heap.size, 0, none⟩) 0 0) [] := ((OS.madeF _ _ _ hr0 (Nat.le_refl _)).alloc _).drew
  clear hb hs hba hP hr0 bd hsz
  go_region_held3 (fun W => W.cell? ⟨w.heap.size, 0, none⟩ = some (.slice ab L.length cb) ∧ W.cell? ⟨w.heap.size, 1, none⟩ = some (.slice aS S.length cS)) (first | (go_keep; done) | exact HC.out _ ho7.2.1 | exact HC.out _ hO7.2.1 | exact HC.out _ ho3.2.1 | exact HC.out _ OB1.2.1 | exact HC.out _ OC1.2.1 | exact HC.out _ OA.2.1) (first | (refine step_rowL rfl _ _ rfl wS.heap.size wS _ (by rfl) OB1 ab cb gb L (by rfl) (HR.out _ OB1.2.1) hn1 hl1 ?_; intro v3 w3 ho3 hg3; obtain ⟨a3, c3, rfl⟩ := ho3.shape; have hO7 := OS.overF OB1 OB2 hg3; have hL7 := ho3) | (refine step_rowL rfl _ _ rfl wS.heap.size wS _ (by rfl) OC1 ab cb gb L (by rfl) (HR.out _ OC1.2.1) hn1 hl1 ?_; intro v3 w3 ho3 hg3; obtain ⟨a3, c3, rfl⟩ := ho3.shape; have hO7 := OS.overF OC1 OC2 hg3; have hL7 := ho3) | (refine step_rowL rfl _ _ rfl wS.heap.size wS _ (by rfl) OA ab cb gb L (by rfl) (HR.out _ OA.2.1) hn1 hl1 ?_; intro v3 w3 ho3 hg3; obtain ⟨a3, c3, rfl⟩ := ho3.shape; have hO7 := OS.madeF _ _ w3 ho3.2.1 ho3.2.2; have hL7 := ho3.later ((Below.refl w3.heap.size w3).alloc (Nat.le_refl _) (.cells #[] 9))) | (refine step_rowT rfl _ _ rfl wS.heap.size wS _ (by rfl) hO7 aS cS gs S (by rfl) (HS.out _ hO7.2.1) hn2 hl2 ?_; intro v7 w7 ho7 hg7; obtain ⟨a7, c7, rfl⟩ := ho7.slice; have hL8 := OL.overF hL7 hO7 hg7; have t0 := (HP.out _ ho7.2.1).c0; have t1 := (HP.out _ ho7.2.1).c1; have f0 := (HP.out _ ho7.2.1).fr 0; have f1 := (HP.out _ ho7.2.1).fr 1) | fail)
  all_goals (obtain ⟨g1, g2, e0, e1, e2, e3, e4⟩ := HE.out _ _ _ hL8 ho7)
  all_goals (generalize (w7.setCell ⟨w.heap.size + 1, 0, none⟩ (.slice a3 L.length c3)).setCell ⟨w.heap.size + 1, 1, none⟩ (.slice a7 S.length c7) = wF at *)
  all_goals clear HR HS HC HP HE OA OB1 OB2 OC1 OC2 ho3 hg3 hO7 hL7 ho7 hg7 hL8 t0 t1 f0 f1
  all_goals go_wp2
  all_goals exact ret_pf1 2 (w.heap.size + 1) _ _ rfl rfl rfl e1 ⟨a3, c3, a7, c7, g1, g2, rfl, e2, e3, e0, e4⟩

end Go.Proofs.YtfojmagcoipbnaaGreatDoor
/-
  The specification's ProveLeaf where all is right, at any level; what it answers is nil only with no room.
-/
namespace Go.Proofs.YtfojmagcoipbnaaGreatDoor
open Go.RowKit Go.BigFrame Go.Sort
set_option linter.unusedVariables false
set_option linter.unusedSimpArgs false

theorem OL.nilF {B : Nat} {w0 w : World} {a : Option Addr} {n c : Nat} {l : List Le} (h : OL B w0 w (.slice a n c) l) : a = none → c = 0 := by
  rcases h.1.2 with ⟨hv, _⟩ | ⟨g, cap, cur, hv, _⟩
  · simp only [Value.slice.injEq] at hv
    exact fun _ => hv.2.2
  · simp only [Value.slice.injEq] at hv
    intro e
    rw [hv.1] at e
    cases e
theorem OS.nilF {B : Nat} {w0 w : World} {a : Option Addr} {n c : Nat} {l : List ByteArray} (h : OS B w0 w (.slice a n c) l) : a = none → c = 0 := by
  rcases h.1.2 with ⟨hv, _⟩ | ⟨g, cap, cur, hv, _⟩
  · simp only [Value.slice.injEq] at hv
    exact fun _ => hv.2.2
  · simp only [Value.slice.injEq] at hv
    intro e
    rw [hv.1] at e
    cases e

set_option maxRecDepth 100000 in
set_option maxHeartbeats 1000000 in
theorem sProveLeaf_lvl (v : Value) (ga oa : Nat) (L : List Le) (nm : ByteArray) (l x : Int) (w : World) (hv : RS 2 lcs w v ga oa L) (hsm : SmallL L) (hl : LV.leavesB L = true) (hn : okB nameB nm = true) (hl8 : 0 ≤ l ∧ l ≤ 8) (hx : 1 ≤ x ∧ x ≤ 32) (hnm : nm.size ≤ 1048576) :
    Calls Tryz.prog 201 #[v, .string nm, .int .i64 l, .int .i64 x] w fun e w' => ∃ ab cb aS cS gb gs, e = .returned (.tuple #[.agg #[.slice ab (bkL L (idxN nm)).length cb, .slice aS (sdA L (idxN nm) l x).length cS], .bool true]) ∧ RS 2 lcs w' (.slice ab (bkL L (idxN nm)).length cb) gb 0 (bkL L (idxN nm)) ∧ SS w' (.slice aS (sdA L (idxN nm) l x).length cS) gs 0 (sdA L (idxN nm) l x) ∧ (w.heap.size ≤ gb ∧ w.heap.size ≤ gs) ∧ ((ab = none → cb = 0) ∧ (aS = none → cS = 0)) ∧ Below w.heap.size w w' := by
  have hba : Below w.heap.size w (w.alloc (.cells #[.slice none 0 0, .slice none 0 0] 29)) := (Below.refl _ _).alloc (Nat.le_refl _) _
  have HPN : Hid (PfM (w.alloc (.cells #[.slice none 0 0, .slice none 0 0] 29)) w.heap.size (.slice none 0 0) (.slice none 0 0)) := PfM.new w _ _
  have HRS : Hid (∀ W, Below w.heap.size w W → RS 2 lcs W v ga oa L) := fun W hW => hv.later hW
  have hlo := sLeavesOk_any v ga oa L _ (HRS.out _ hba) hsm
  rw [hl] at hlo
  have HNK : Hid (∀ W, Calls Tryz.prog 110 #[.string nm] W fun e w' => e = .returned (.bool true) ∧ w' = W) := fun W => by
    have h := sNameOk_any nm W hnm
    rw [hn] at h
    exact h
  have HIX : Hid (∀ W, Calls Tryz.prog 113 #[.string nm] W fun e w' => e = .returned (.int .i64 (idxN nm : Int)) ∧ Below W.heap.size W w') := fun W => sIndexOf_any nm W hnm
  have HLL : Hid ((bkL L (idxN nm)).length ≤ 1100000 ∧ (sdA L (idxN nm) l x).length ≤ 1100000) := by
    refine ⟨Nat.le_trans (List.length_filter_le _ _) hv.len, ?_⟩
    unfold sdA
    split
    · rw [sdL_len]; omega
    · simp
  obtain ⟨ix, hix⟩ : ∃ ix : Int, (idxN nm : Int) = ix := ⟨_, rfl⟩
  rw [hix] at HIX HLL ⊢
  have HBK : Hid (∀ W, Below w.heap.size w W → Calls Tryz.prog 280 #[v, .int .i64 ix] W fun e w' => ∃ u, e = .returned u ∧ OL W.heap.size W w' u (bkL L ix)) := fun W hW => sBucketOf_any v ga oa L ix W (HRS.out W hW) hsm
  have HSD : Hid (∀ W, Below w.heap.size w W → Calls Tryz.prog 237 #[v, .int .i64 ix, .int .i64 l, .int .i64 x] W fun e w' => ∃ u, e = .returned u ∧ OS W.heap.size W w' u (sdA L ix l x)) := fun W hW => sSidesOf_any v ga oa L ix l x W (HRS.out W hW) hsm
  have HL2 : Hid (Calls Tryz.prog 111 #[v] (w.alloc (.cells #[.slice none 0 0, .slice none 0 0] 29)) fun e w' => e = .returned (.bool true) ∧ Below (w.alloc (.cells #[.slice none 0 0, .slice none 0 0] 29)).heap.size (w.alloc (.cells #[.slice none 0 0, .slice none 0 0] 29)) w') := hlo
  have d1 : decide ((0 : Int) ≤ l ∧ l ≤ 8) = true := by simpa using hl8
  have d2 : decide ((1 : Int) ≤ x ∧ x ≤ 32) = true := by simpa using hx
  clear hlo hv hsm hl hn hix HRS hx hnm hl8
  generalize bkL L ix = BK at *
  generalize sdA L ix l x = SD at *
  go_enter Tryz.func201, Tryz.ntmps201
  go_wp2_with fail
  refine HL2.out.mono ?_
  rintro e w1 ⟨rfl, hb1⟩
  have HP1 : Hid (PfM w1 w.heap.size (.slice none 0 0) (.slice none 0 0)) := HPN.out.later hb1
  have b1 : Below w.heap.size w w1 := hba.trans (hb1.mono hba.size)
  clear HL2 HPN hb1 hba
  go_wp2_with fail
  refine (HNK.out _).mono ?_
  rintro e w1' ⟨rfl, rfl⟩
  go_wp2_with fail
  refine (l01In_any _ _ _ _).mono ?_
  rintro e w1'' ⟨rfl, rfl⟩
  rw [d1]
  go_wp2_with fail
  refine (l01In_any _ _ _ _).mono ?_
  rintro e w2 ⟨rfl, rfl⟩
  rw [d2]
  go_wp2_with fail
  refine (HIX.out _).mono ?_
  rintro e w3 ⟨rfl, hb3⟩
  have HP3 := HP1.out.later hb3
  have b3 := b1.trans (hb3.mono b1.size)
  go_wp2_with fail
  refine (HBK.out _ b3).mono ?_
  rintro e w4 ⟨vb, rfl, ho4⟩
  have HP4 : Hid (PfM w4 w.heap.size (.slice none 0 0) (.slice none 0 0)) := HP3.later ho4.2.1
  have b4 := b3.trans (ho4.2.1.mono b3.size)
  have HG4 : Hid (w.heap.size < w3.heap.size) := HP3.lt
  obtain ⟨ab, cb, rfl⟩ := ho4.shape
  have HO4 : Hid (OL w3.heap.size w3 w4 (.slice ab BK.length cb) BK) := ho4
  clear ho4 hb3 HP1 HP3 b1 b3 HBK
  go_wp2_with fail
  refine (HIX.out _).mono ?_
  rintro e w5 ⟨rfl, hb5⟩
  have b5 := b4.trans (hb5.mono b4.size)
  have HP5 : Hid (PfM w5 w.heap.size (.slice none 0 0) (.slice none 0 0)) := HP4.out.later hb5
  have HO5 : Hid (OL w3.heap.size w3 w5 (.slice ab BK.length cb) BK) := HO4.out.later hb5
  clear HP4 HO4 HIX b4
  go_wp2_with fail
  refine (HSD.out _ b5).mono ?_
  rintro e w6 ⟨vs, rfl, ho6⟩
  have b6 := b5.trans (ho6.2.1.mono b5.size)
  have hp6 : PfM w6 w.heap.size (.slice none 0 0) (.slice none 0 0) := HP5.out.later ho6.2.1
  have HO6 : Hid (OL w3.heap.size w3 w6 (.slice ab BK.length cb) BK) := HO5.out.later ho6.2.1
  obtain ⟨aZ, cs, rfl⟩ := ho6.slice
  have HS6 : Hid (OS w5.heap.size w5 w6 (.slice aZ SD.length cs) SD ∧ w.heap.size < w5.heap.size) := ⟨ho6, HP5.out.lt⟩
  have hgr := grown_setRowP w6 w.heap.size #[.slice ab BK.length cb, .slice aZ SD.length cs]
  have HF : Hid (∃ a1 c1 a2 c2 gb gs, Ending.returned (.tuple #[.agg #[.slice ab BK.length cb, .slice aZ SD.length cs], .bool true]) = .returned (.tuple #[.agg #[.slice a1 BK.length c1, .slice a2 SD.length c2], .bool true]) ∧ RS 2 lcs (w6.setRow w.heap.size #[.slice ab BK.length cb, .slice aZ SD.length cs]) (.slice a1 BK.length c1) gb 0 BK ∧ SS (w6.setRow w.heap.size #[.slice ab BK.length cb, .slice aZ SD.length cs]) (.slice a2 SD.length c2) gs 0 SD ∧ (w.heap.size ≤ gb ∧ w.heap.size ≤ gs) ∧ ((a1 = none → c1 = 0) ∧ (a2 = none → c2 = 0)) ∧ Below w.heap.size w (w6.setRow w.heap.size #[.slice ab BK.length cb, .slice aZ SD.length cs])) := by
    obtain ⟨gb, hrw, hgb, _⟩ := HO6.out.rw HLL.out.1
    obtain ⟨gs, hts, hgs⟩ := HS6.out.1.ts HLL.out.2
    have l1 := HG4.out
    have l2 := HS6.out.2
    refine ⟨_, _, _, _, gb, gs, rfl, hrw.1.grown hgr (fun _ => by simp; omega), ?_, ⟨by omega, by omega⟩, ⟨HO6.out.nilF, HS6.out.1.nilF⟩, below_setRow b6 (Nat.le_refl _)⟩
    exact (hts.keptG hgr (fun _ => by simp; omega)).ss
  clear ho6 HO5 HO6 HP5 HS6 hb5 b5 b6 HSD HLL HG4 hgr
  go_wp2_with (refine wp_storePf rfl _ _ rfl w.heap.size _ _ (.slice ab BK.length cb) (.slice aZ SD.length cs) hp6 rfl rfl rfl rfl ?_; intro hfin)
  refine ret_pf2 8 9 w.heap.size _ _ _ rfl rfl rfl rfl hfin ?_
  exact HF.out

end Go.Proofs.YtfojmagcoipbnaaGreatDoor
/-
  A text that is spoilt by a draw: some text, at most a byte longer.
-/
namespace Go.Proofs.YtfojmagcoipbnaaGreatDoor
open Go.RowKit
set_option linter.unusedVariables false
set_option linter.unusedSimpArgs false

/-- what is spoilt is some text, at most a byte longer -/
def SpP (B : Nat) (w0 w : World) (g : Nat) (v : Value) (n : Nat) (e : Ending) (w' : World) : Prop := ∃ y : ByteArray, e = .returned (.string y) ∧ y.size ≤ n + 1 ∧ Cur B w0 w' g v ∧ w.grownBy w' (some g)
theorem run_front (b : ByteArray) (x : Int) (j : Nat) (hx : x = (j : Int)) (hj : j ≤ b.size) (W : World) : (Instr.slice 9 (.string b) none (some (.int .i64 x)) none).run Tryz.prog W = .ok (.string (b.extract 0 j)) W := by
  subst hx
  have h1 : ¬ ((j : Int) < 0) := by omega
  go_simp
theorem run_back (b : ByteArray) (x : Int) (j : Nat) (hx : x = (j : Int)) (hj : j ≤ b.size) (W : World) : (Instr.slice 9 (.string b) (some (.int .i64 x)) none none).run Tryz.prog W = .ok (.string (b.extract j b.size)) W := by
  subst hx
  have h1 : ¬ ((j : Int) < 0) := by omega
  go_simp

set_option maxRecDepth 100000 in
set_option maxHeartbeats 1000000 in
theorem l02Spoilt_in (B : Nat) (w0 w : World) (g : Nat) (v : Value) (s : ByteArray) (hc : Cur B w0 w g v) (hs : s.size ≤ 4000000) :
    Calls Tryz.prog 102 #[.pointer (some ⟨g, 0, none⟩), .string s] w (SpP B w0 w g v s.size) := by
  go_enter Tryz.func102, Tryz.ntmps102
  go_wp2_with fail
  refine (l01Below_in B w0 _ g v 12 12 rfl hc (by omega) (by omega)).mono ?_
  rintro e w1 ⟨k, hk, rfl, hc1, hg1⟩
  clear hc
  have hkk : k = 0 ∨ k = 1 ∨ (k = 2 ∨ k = 3) ∨ (¬ (k : Int) = 0 ∧ ¬ (k : Int) = 1 ∧ ¬ (k : Int) = 2 ∧ ¬ (k : Int) = 3) := by omega
  have HF : Hid (SpP B w0 w g v s.size (.returned (.string s)) w1) := ⟨s, rfl, by omega, hc1, hg1⟩
  rcases hkk with rfl | rfl | hk2 | ⟨h0, h1, h2, h3⟩
  · go_wp2_with fail
    refine (l01Text_in B w0 _ g v 1 1 rfl hc1 (by omega)).mono ?_
    rintro e w2 ⟨l, hl, rfl, hc2, hg2⟩
    have hlz : (⟨l.toArray⟩ : ByteArray).size = 1 := by show l.toArray.size = 1; simpa using hl
    generalize (⟨l.toArray⟩ : ByteArray) = T at *
    have HG : Hid (SpP B w0 w g v s.size (.returned (.string (s ++ T))) w2) := ⟨_, rfl, by rw [ByteArray.size_append]; omega, hc2, hg1.trans hg2⟩
    clear HF hc1 hc2 hg1 hg2
    go_wp2
    go_ret
    exact HG.out
  · go_wp2_with fail
    refine (l01Below_in B w0 _ g v ((s.size : Int) + 1) (s.size + 1) (by omega) hc1 (by omega) (by omega)).mono ?_
    rintro e w2 ⟨j, hj, rfl, hc2, hg2⟩
    have hr := run_front s j j rfl (by omega)
    have HG : Hid (SpP B w0 w g v s.size (.returned (.string (s.extract 0 j))) w2) := ⟨_, rfl, by rw [ByteArray.size_extract]; omega, hc2, hg1.trans hg2⟩
    clear HF hc1 hc2 hg1 hg2
    go_wp2
    go_ret
    exact HG.out
  · by_cases hs0 : s.size = 0
    · have i0 : ¬ (0 : Int) < (s.size : Int) := by omega
      clear hc1 hg1
      rcases hk2 with rfl | rfl
      · go_wp2
        go_ret
        exact HF.out
      · go_wp2
        go_ret
        exact HF.out
    · have i0 : (0 : Int) < (s.size : Int) := by omega
      have HB : Hid (Calls Tryz.prog 100 #[.pointer (some ⟨g, 0, none⟩), .int .i64 s.size] w1 fun e w' => ∃ x : Nat, x < s.size ∧ e = .returned (.int .i64 x) ∧ Cur B w0 w' g v ∧ w1.grownBy w' (some g)) := l01Below_in B w0 _ g v s.size s.size rfl hc1 (by omega) (by omega)
      clear hc1
      rcases hk2 with rfl | rfl
      all_goals
        clear HF
        go_wp2_with fail
        refine HB.out.mono ?_
        rintro e w2 ⟨j, hj, rfl, hc2, hg2⟩
        have hr := run_front s j j rfl (by omega)
        have hr2 := run_back s ((j : Int) + 1) (j + 1) (by omega) (by omega)
        have HG : Hid (∀ T w3, T.size = 1 → Cur B w0 w3 g v → w2.grownBy w3 (some g) → SpP B w0 w g v s.size (.returned (.string (s.extract 0 j ++ T ++ s.extract (j + 1) s.size))) w3) := fun T w3 hT hc3 hg3 => ⟨_, rfl, by rw [ByteArray.size_append, ByteArray.size_append, ByteArray.size_extract, ByteArray.size_extract]; omega, hc3, (hg1.trans hg2).trans hg3⟩
        clear hg1 hg2
        have HT : Hid (Calls Tryz.prog 199 #[.pointer (some ⟨g, 0, none⟩), .int .i64 1] w2.drew fun e w' => ∃ T : ByteArray, T.size = 1 ∧ e = .returned (.string T) ∧ Cur B w0 w' g v ∧ w2.grownBy w' (some g)) := by
          refine (l01Text_in B w0 _ g v 1 1 rfl (hc2.drn 1) (by omega)).mono ?_
          rintro e w3 ⟨l, hl, rfl, hc3, hg3⟩
          exact ⟨_, by show l.toArray.size = 1; simpa using hl, rfl, hc3, ⟨hg3.os, hg3.tape, hg3.output, hg3.size, hg3.block⟩⟩
        clear hc2
        go_wp2
        refine wp_region_held_drew (S := fun _ => True) (by kernel_rfl) trivial (fun hH => ?_)
        refine wpAnyH_take (i := 0) (v := .string s) rfl (by kernel_rfl) (by kernel_rfl) (by kernel_rfl) (fun _ _ _ h => h) (Or.inl ⟨by rfl, fun w hw => by go_simp⟩) hH ?_
        simp only [Act.put, List.setIfInBounds_toArray, List.set_cons_zero, List.set_cons_succ]
        refine wpAnyH_take (i := 1) (v := .int .i64 (j : Int)) rfl (by kernel_rfl) (by kernel_rfl) (by kernel_rfl) (fun _ _ _ h => h) (Or.inl ⟨by rfl, fun w hw => by go_simp⟩) hH ?_
        simp only [Act.put, List.setIfInBounds_toArray, List.set_cons_zero, List.set_cons_succ]
        refine wpAnyH_take (i := 2) (v := .string (s.extract 0 j)) rfl (by kernel_rfl) (by kernel_rfl) (by kernel_rfl) (fun _ _ _ h => h) (Or.inl ⟨by rfl, fun w hw => by go_simp⟩) hH ?_
        simp only [Act.put, List.setIfInBounds_toArray, List.set_cons_zero, List.set_cons_succ]
        refine wpAnyH_take (i := 3) (v := .pointer (some ⟨g, 0, none⟩)) rfl (by kernel_rfl) (by kernel_rfl) (by kernel_rfl) (fun _ _ _ h => h) (Or.inl ⟨by rfl, fun w hw => by go_simp⟩) hH ?_
        simp only [Act.put, List.setIfInBounds_toArray, List.set_cons_zero, List.set_cons_succ]
        refine wpAnyH_take (i := 6) (v := .string s) rfl (by kernel_rfl) (by kernel_rfl) (by kernel_rfl) (fun _ _ _ h => h) (Or.inl ⟨by rfl, fun w hw => by go_simp⟩) hH ?_
        simp only [Act.put, List.setIfInBounds_toArray, List.set_cons_zero, List.set_cons_succ]
        refine wpAnyH_take (i := 7) (v := .int .i64 (j : Int)) rfl (by kernel_rfl) (by kernel_rfl) (by kernel_rfl) (fun _ _ _ h => h) (Or.inl ⟨by rfl, fun w hw => by go_simp⟩) hH ?_
        simp only [Act.put, List.setIfInBounds_toArray, List.set_cons_zero, List.set_cons_succ]
        refine wpAnyH_take (i := 8) (v := .int .i64 ((j : Int) + 1)) rfl (by kernel_rfl) (by kernel_rfl) (by kernel_rfl) (fun _ _ _ h => h) (Or.inl ⟨by rfl, fun w hw => by go_simp; exact IntWalk.i64_in _ (by omega)⟩) hH ?_
        simp only [Act.put, List.setIfInBounds_toArray, List.set_cons_zero, List.set_cons_succ]
        refine wpAnyH_take (i := 9) (v := .string (s.extract (j + 1) s.size)) rfl (by kernel_rfl) (by kernel_rfl) (by kernel_rfl) (fun _ _ _ h => h) (Or.inl ⟨by rfl, fun w hw => by go_simp⟩) hH ?_
        simp only [Act.put, List.setIfInBounds_toArray, List.set_cons_zero, List.set_cons_succ]
        refine wpAnyH_ready (rs := [4]) (by kernel_rfl) (by simp) ?_
        refine AllReadyH.cons rfl (fun K' hK' => ?_) AllReadyH.nil
        go_simp
        go_at_call 199
        refine HT.out.mono ?_
        rintro e w3 ⟨T, hT, rfl, hc3, hg3⟩
        go_wp2_with fail
        refine hK'.out _ _ trivial (fun hH => ?_)
        clear hK' K'
        try simp only [Act.put, List.setIfInBounds_toArray, List.set_cons_zero, List.set_cons_succ]
        have HG2 := HG.out T w3 hT hc3 hg3
        clear HG HT hc3 hg3
        refine wpAnyH_take (i := 5) (v := .string (s.extract 0 j ++ T)) rfl (by kernel_rfl) (by kernel_rfl) (by kernel_rfl) (fun _ _ _ h => h) (Or.inl ⟨by rfl, fun w hw => by go_simp; omega⟩) hH ?_
        simp only [Act.put, List.setIfInBounds_toArray, List.set_cons_zero, List.set_cons_succ]
        refine wpAnyH_take (i := 10) (v := .string (s.extract 0 j ++ T ++ s.extract (j + 1) s.size)) rfl (by kernel_rfl) (by kernel_rfl) (by kernel_rfl) (fun _ _ _ h => h) (Or.inl ⟨by rfl, fun w hw => by go_simp; omega⟩) hH ?_
        simp only [Act.put, List.setIfInBounds_toArray, List.set_cons_zero, List.set_cons_succ]
        refine wpAnyH_ready (rs := [11]) (by kernel_rfl) (by simp) ?_
        refine AllReadyH.cons rfl (fun K' hK' => ?_) AllReadyH.nil
        go_simp
        refine hK'.out _ _ trivial (fun hH => ?_)
        clear hK' K'
        try simp only [Act.put, List.setIfInBounds_toArray, List.set_cons_zero, List.set_cons_succ]
        refine wpAnyH_done (by kernel_rfl) ?_ _
        go_wp2_with fail
        go_ret
        exact HG2
  · clear hc1 hg1
    go_wp2
    go_ret
    exact HF.out

end Go.Proofs.YtfojmagcoipbnaaGreatDoor
/-
  Drawn leaves, right or not.
-/
namespace Go.Proofs.YtfojmagcoipbnaaGreatDoor
open Go.RowKit Go.BigFrame Go.Sort
set_option linter.unusedVariables false
set_option linter.unusedSimpArgs false

theorem grown_bel {w w2 w' : World} {row : Option Nat} (h : w.grownBy w2 row) (hb : Below w.heap.size w2 w') : w.grownBy w' row :=
  ⟨hb.os.trans h.os, hb.tape.trans h.tape, hb.output.trans h.output, Nat.le_trans h.size hb.size, fun k hk hne => (hb.block k hk).trans (h.block k hk hne)⟩
theorem Cur.bel {B Bx : Nat} {w0 w w' : World} {g : Nat} {v : Value} (h : Cur B w0 w g v) (hb : Below Bx w w') (hg : g < Bx) (hB : B ≤ Bx) : Cur B w0 w' g v := by
  obtain ⟨h1, h2, h3, i, x, hbl, h4⟩ := h
  exact ⟨h1, h2.trans (hb.mono hB), h3, i, x, (hb.block g hg).trans hbl, h4⟩
theorem OL.drawn {B Bx : Nat} {w0 w w1 : World} {g : Nat} {v u : Value} {l : List Le} (h : OL Bx w w u l) (hc : Cur B w0 w g v) (hg : w.grownBy w1 (some g)) : OL Bx w1 w1 u l := by
  obtain ⟨_, _, _, i, x, hbl, _⟩ := hc
  exact ⟨World.ownsRow.kept h.1 hg (.inr (h.ne hbl (by decide))), Below.refl _ _, Nat.le_trans h.2.2 hg.size⟩
theorem OL.self {Bx : Nat} {w0 w : World} {u : Value} {l : List Le} (h : OL Bx w0 w u l) : OL Bx w w u l := ⟨h.1, Below.refl _ _, h.2.2⟩
theorem SmallL.add {L : List Le} {f : Le} (h : SmallL L) (h1 : f.n.size ≤ 12) (h2 : f.v.size ≤ 12) : SmallL (L ++ [f]) := fun x hx => by
  rcases List.mem_append.1 hx with h0 | h0
  · exact h x h0
  · obtain rfl : x = f := by simpa using h0
    omega

/-- a list under way beside a cursor -/
def AnI (B : Nat) (w0 w : World) (g : Nat) (v u : Value) (L : List Le) (wr : World) : Prop := Cur B w0 wr g v ∧ OL w.heap.size wr wr u L ∧ SmallL L ∧ w.grownBy wr (some g)
/-- what l09Any answers -/
def AnP (B : Nat) (w0 w : World) (g : Nat) (v : Value) (e : Ending) (w' : World) : Prop := ∃ (u : Value) (L : List Le), e = .returned u ∧ L.length ≤ 25 ∧ AnI B w0 w g v u L w'
def AnR (B : Nat) (w0 w : World) (g : Nat) (v : Value) (u i : Value) (wr : World) : Prop := ∃ (m : Nat) (L : List Le), m ≤ 25 ∧ i = .int .i64 m ∧ L.length = m ∧ Hid (AnI B w0 w g v u L wr)

def l9wL : List ByteArray := [⟨#[]⟩, ⟨#[97, 32, 98]⟩, ⟨#[111, 107]⟩]
def l9wC : Array Value := #[.string ⟨#[]⟩, .string ⟨#[97, 32, 98]⟩, .string ⟨#[111, 107]⟩]
theorem l9w_at (w : World) : Hid (∀ j, (h : j < l9wL.length) → (w.alloc (.cells l9wC 9)).cell? ⟨w.heap.size, j, none⟩ = some (.string l9wL[j])) := by
  intro j hj
  rw [World.cell?_alloc_at _ _ _ _ rfl]
  have : j = 0 ∨ j = 1 ∨ j = 2 := by simp [l9wL] at hj; omega
  rcases this with rfl | rfl | rfl <;> rfl
theorem l9w_ok : ∀ y ∈ l9wL, y.size ≤ 12 := by decide +kernel

theorem AnI.app {B : Nat} {w0 w w3 w5 : World} {g : Nat} {v u u5 : Value} {L : List Le} {f : Le} (h : AnI B w0 w g v u L w3) (hg : g < w.heap.size) (hB : B ≤ w.heap.size) (ho : OL w.heap.size w3 w5 u5 (L ++ [f])) (h1 : f.n.size ≤ 12) (h2 : f.v.size ≤ 12) : AnI B w0 w g v u5 (L ++ [f]) w5 :=
  ⟨h.1.bel ho.2.1 hg hB, ho.self, h.2.2.1.add h1 h2, grown_bel h.2.2.2 ho.2.1⟩
theorem AnI.drawn {B : Nat} {w0 w w3 w4 : World} {g : Nat} {v u : Value} {L : List Le} (h : AnI B w0 w g v u L w3) (hc : Cur B w0 w4 g v) (hg : w3.grownBy w4 (some g)) : AnI B w0 w g v u L w4 :=
  ⟨hc, h.2.1.drawn h.1 hg, h.2.2.1, h.2.2.2.trans hg⟩
theorem AnI.new {B : Nat} {w0 w w3 : World} {g : Nat} {v u : Value} {L : List Le} (h : AnI B w0 w g v u L w3) : AnI B w0 w g v (.slice (some ⟨w3.heap.size, 0, none⟩) 0 0) [] (w3.alloc (.cells #[] 121)) :=
  ⟨h.1.kept (World.grownBy_alloc w3 _ none) (by simp) h.1.size (fun k hk => by cases hk), (OL.made w.heap.size w3 w3 (Below.refl _ _) h.2.1.2.2).self, fun f hf => absurd hf (by simp), h.2.2.2.trans (World.grownBy_alloc w3 _ (some g))⟩
theorem AnI.of {B : Nat} {w0 w w1 w2 w3 : World} {g : Nat} {v u : Value} {L : List Le} {a : Option Addr} {cap q : Nat} (hg1 : w.grownBy w1 (some g)) (hg : g < w.heap.size) (hB : B ≤ w.heap.size) (h : DvI B w0 (w1.alloc (.cells #[] 121)) g v a cap q L w2) (ho : OL w.heap.size w2 w3 u L) : AnI B w0 w g v u L w3 :=
  ⟨h.1.bel ho.2.1 hg hB, ho.self, fun f hf => by have := LV.leB_sizes (h.2.2.2.2.1.2.1 f hf); omega, grown_bel ((hg1.trans (World.grownBy_alloc w1 _ (some g))).trans h.2.2.2.2.2.2) ho.2.1⟩
/-- a new leaf's own block -/
theorem OL.beside {Bx : Nat} {w : World} {u : Value} {l : List Le} (h : OL Bx w w u l) (f : Le) : OL Bx w (w.alloc (.cells #[.string f.n, .string f.v] 121)) u l := h.later ((Below.refl _ _).alloc (Nat.le_refl _) _)
theorem leaf_new (w : World) (f : Le) : Hid ((w.alloc (.cells #[.string f.n, .string f.v] 121)).rangeAt w.heap.size 0 (lcs f)) := range_new _ [.string f.n, .string f.v] 121

end Go.Proofs.YtfojmagcoipbnaaGreatDoor
