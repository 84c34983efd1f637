/-
  What the program's Unframe answers: the records of the whole frames that the file begins with.
-/
import Derived.Test.YtadikpmecjjgjaaDoorIt
import Derived.Deep.AppendLies
namespace Go.Proofs.YtadikpmecjjgjaaDoor
open Go.RowKit Go.Shelf
set_option linter.unusedVariables false
attribute [local go_sem] Oper.semAt_some

theorem wpIn_appS {F : Fence} {n : Nat} {w : World} {ops : Array Oper} {rest : List Oper} {o : Oper} {a : Act} {Q : Exit → Act → World → Prop} (hgd : o.guard = none) (s x : Operand)
    (ho : o.op = .call { callee := .builtin .append, args := #[s, x], argTypes := #[32, 32] })
    (B : Nat) (v : Value) (l : List ByteArray) (hs : a.eval s = v) (hown : w.ownsRow B 9 1 v l.length (svs l)) (hB : B ≤ w.heap.size)
    (ad : Addr) (t : ByteArray) (hx : a.eval x = .slice (some ad) 1 1) (hnews : w.cell? ad = some (.string t)) (hlen : l.length ≤ 1000000)
    (h : ∀ g cap w', w'.ownsRow B 9 1 (.slice (some ⟨g, 0, none⟩) (l.length + 1) cap) (l.length + 1) (svs (l ++ [t])) → w.grownBy w' v.ownBlock → (v.ownBlock = some g ∨ g = w.heap.size) → wpListIn F n Tryd.prog ops Q rest (a.put o.dst (.slice (some ⟨g, 0, none⟩) (l.length + 1) cap)) w') : wpListIn F n Tryd.prog ops Q (o :: rest) a w := by
  obtain ⟨i0, hi, hz0, hz1, hz2⟩ := info_parts Tryd.info9
  refine wpListIn_plain hgd fun K hK' => ?_
  obtain ⟨g, cap, w', hrun, r1, r2, r3, _⟩ := run_append_lies (P := Tryd.prog) w 32 o.type B 9 i0 (.string ByteArray.empty) 1 16 Tryd.underlying32 hi hz0 hz1 hz2 rfl (by decide) v l.length (svs l) hown ad 1 1 (svs [t]) (by simp [svs])
    (by
      intro j u hj
      match j, hj with
      | 0, hj =>
        simp [svs] at hj
        subst hj
        have : ad.add 0 = ad := by unfold Addr.add; split <;> simp_all
        rw [this]
        exact hnews)
    (fun u hu => by simp [svs] at hu; subst hu; rfl) (by omega) (by unfold maxLen; omega) (by omega) hB w.heap.size rfl
  unfold Oper.wpIn
  refine ⟨?_, ?_⟩
  · simp [Oper.about, ho, resolve, Target.leads, Sem.run_pure]
  · rw [Oper.semAt_plain F _ _ (by rw [ho]; intro c hc'; cases hc')]
    simp [execOp, ho, resolve, invoke, builtin, hs, hx, hrun, Result.andThen]
    rw [← svs_append] at r1
    exact hK' _ _ (h g cap w' r1 r2 r3)

/-- between two rounds -/
def IvF (w : World) (s : ByteArray) (b1 b2 b3 : Nat) (pre : List (ByteArray × Nat)) (W : World) : Prop :=
  (∃ v, Boxed W b1 32 v ∧ W.ownsRow w.heap.size 9 1 v (textsOf pre).length (svs (textsOf pre)) ∧ v.ownBlock ≠ some b3) ∧ Boxed W b2 3 (.int .i64 ((endOf pre : Nat) : Int)) ∧ Boxed W b3 9 (.string s) ∧ Below w.heap.size w W

theorem IvF.own (w : World) (s : ByteArray) (b1 b2 b3 B : Nat) (hB : w.heap.size ≤ B) : OwnFrom B (IvF w s b1 b2 b3) :=
  OwnFrom.and (Own.from (holdsRow_own w.heap.size b1 32 9 1 (fun pre => (textsOf pre).length) (fun pre => svs (textsOf pre)) (fun pre v => v.ownBlock ≠ some b3)) _)
    (OwnFrom.and (Own.from (boxed_own b2 3 (fun pre => .int .i64 ((endOf pre : Nat) : Int))) _) (OwnFrom.and (Own.from (boxed_own b3 9 (fun _ => .string s)) _) (ownFrom_below (Nat.le_refl _) hB)))

theorem KpF.t {n b : Nat} {A B C : World} (h : KpF n b A B) (k : KpF n b B C) : KpF n b A C := ⟨h.1.trans k.1, k.2.trans h.2⟩
theorem KpF.b {n b : Nat} {w : World} (hn : n ≤ w.heap.size) (hb : b < w.heap.size) (W : World) (l : Nat) (o o' : Obj) (hl : w.heap.size ≤ l) (h : W.heap[l]? = some o) (hc : o.isCells = false) (hw : o.isWalk = false) : KpF n b W (W.putObj l o') :=
  ⟨belowK_b hn W l o o' hl h hc hw, World.cell?_of_block (World.putObj_heap_other (show b ≠ l by omega))⟩

/-- one round: the record is appended, the place is kept -/
theorem round_any {w W w1 : World} {s t : ByteArray} {q b1 b2 b3 g cap : Nat} {pre : List (ByteArray × Nat)} {v : Value} {tmp : Obj} (h1 : w.heap.size ≤ b1) (h2 : w.heap.size ≤ b2) (h12 : b1 ≠ b2) (h13 : b3 ≠ b1) (h23 : b3 ≠ b2) (h3 : b3 < W.heap.size)
    (hv : Boxed W b1 32 v) (hrow : W.ownsRow w.heap.size 9 1 v (textsOf pre).length (svs (textsOf pre))) (hne : v.ownBlock ≠ some b3) (hE : Boxed W b2 3 (.int .i64 ((endOf pre : Nat) : Int))) (hF : Boxed W b3 9 (.string s)) (hB : Below w.heap.size w W)
    (hown' : w1.ownsRow w.heap.size 9 1 (.slice (some ⟨g, 0, none⟩) ((textsOf pre).length + 1) cap) ((textsOf pre).length + 1) (svs (textsOf pre ++ [t]))) (hgrow : (W.alloc tmp).grownBy w1 v.ownBlock) (hlies : v.ownBlock = some g ∨ g = (W.alloc tmp).heap.size) :
    Hid (Boxed w1 b1 32 v ∧ Boxed w1 b2 3 (.int .i64 ((endOf pre : Nat) : Int)) ∧
    (KeepsOthers W ((w1.setCell ⟨b1, 0, none⟩ (.slice (some ⟨g, 0, none⟩) ((textsOf pre).length + 1) cap)).setCell ⟨b2, 0, none⟩ (.int .i64 (q : Int))) ∧
      KpF w.heap.size b3 W ((w1.setCell ⟨b1, 0, none⟩ (.slice (some ⟨g, 0, none⟩) ((textsOf pre).length + 1) cap)).setCell ⟨b2, 0, none⟩ (.int .i64 (q : Int))) ∧
      IvF w s b1 b2 b3 (pre ++ [(t, q)]) ((w1.setCell ⟨b1, 0, none⟩ (.slice (some ⟨g, 0, none⟩) ((textsOf pre).length + 1) cap)).setCell ⟨b2, 0, none⟩ (.int .i64 (q : Int))))) := by
  obtain ⟨hv1, hv2, hr2, hk2, hb2⟩ := hv.appended (by decide) hrow hB.size h1 hown' hgrow
  have hE1 := (hE.alloc tmp).kept hgrow (hE.not_row (by decide) hrow)
  have hE2 := hE1.other (B' := b1) (fun e => h12 e.symm) (.slice (some ⟨g, 0, none⟩) ((textsOf pre).length + 1) cap)
  have hF1 := (hF.alloc tmp).kept hgrow (fun e => hne e.symm)
  have hF3 := (hF1.other (B' := b1) h13 (.slice (some ⟨g, 0, none⟩) ((textsOf pre).length + 1) cap)).other (B' := b2) h23 (.int .i64 (q : Int))
  have hb3 := hb2.setCell (p := ⟨b2, 0, none⟩) h2 (.int .i64 (q : Int))
  refine ⟨hv1, hE1, hk2.trans (KeepsOthers.setCell _ _ _), ⟨hb3, hF3.cell.trans hF.cell.symm⟩, ⟨_, hv2.other (B' := b2) h12 _, ?_, ?_⟩, ?_, hF3, hB.trans hb3⟩
  · have e : (textsOf (pre ++ [(t, q)])).length = (textsOf pre).length + 1 := by rw [textsOf_snoc]; simp
    rw [e, textsOf_snoc]
    exact hr2.kept (grownBy_setCell' _ b2 _) (.inr (hE2.not_row (by decide) hr2).symm)
  · intro e
    have hg : g = b3 := by simpa [Value.ownBlock] using e
    rcases hlies with h | h
    · exact hne (by rw [h, hg])
    · rw [World.size_alloc] at h
      omega
  · rw [endOf_snoc]
    exact hE2.set _

set_option maxRecDepth 100000 in
set_option maxHeartbeats 2000000 in
theorem Unframe_any (s : ByteArray) (w : World) (hm : s.size ≤ 1048576) (hT : Tab w) : Calls Tryd.prog 36 #[.string s] w (UnP w s) := by
  by_cases hl : 20000 < s.size
  · have HB : Hid (framesOf s = []) := framesOf_big hl
    refine (callsIn_wide (n := 3)).1 ?_
    refine callsIn_of_wp_marks Tryd.func36 rfl trivial ?_ rfl
    simp only [Tryd.ntmps36, List.size_toArray, List.length_cons, List.length_nil, Nat.reduceAdd, Nat.reduceSub, Array.replicate_succ, Array.replicate_zero, List.push_toArray, List.append_toArray, List.nil_append, List.cons_append]
    gi_wp2
    gi_region
    all_goals gi_wp2
    refine ⟨_, results_tmp2 rfl _ _ _, ?_⟩
    exact UnP.big HB.out ((((OS.made w).alloc _).alloc _).drew)
  · have hs : s.size ≤ 20000 := by omega
    have hp := hT.pos
    have HT : Hid (Tab w) := hT
    clear hT
    refine (callsIn_wide (n := 3)).1 ?_
    refine callsIn_of_wp_marks Tryd.func36 rfl trivial ?_ rfl
    simp only [Tryd.ntmps36, List.size_toArray, List.length_cons, List.length_nil, Nat.reduceAdd, Nat.reduceSub, Array.replicate_succ, Array.replicate_zero, List.push_toArray, List.append_toArray, List.nil_append, List.cons_append]
    gi_wp2_with (refine ⟨trivial, ?_⟩; gi_at_call 55; refine (callsIn_wide.2 (wholeFrames_any s _)).mono ?_; rintro e w' ⟨rfl, rfl⟩)
    have bR := (Boxed.new (w.alloc (.cells #[] 9)) 32 (.slice (some ⟨w.heap.size, 0, none⟩) 0 0))
    have bE := Boxed.new ((w.alloc (.cells #[] 9)).alloc (.cells #[.slice (some ⟨w.heap.size, 0, none⟩) 0 0] 32)) 3 (.int .i64 0)
    have bF := Boxed.new (((w.alloc (.cells #[] 9)).alloc (.cells #[.slice (some ⟨w.heap.size, 0, none⟩) 0 0] 32)).alloc (.cells #[.int .i64 0] 3)) 9 (.string s)
    simp only [World.size_alloc] at bR bE bF
    have bR := (bR.alloc (.cells #[.int .i64 0] 3)).alloc (.cells #[.string s] 9)
    have bE := bE.alloc (.cells #[.string s] 9)
    have hB0 : Below w.heap.size w ((((w.alloc (.cells #[] 9)).alloc (.cells #[.slice (some ⟨w.heap.size, 0, none⟩) 0 0] 32)).alloc (.cells #[.int .i64 0] 3)).alloc (.cells #[.string s] 9)) := ((((Below.refl _ w).alloc (Nat.le_refl _) _).alloc (by simp) _).alloc (by simp; omega) _).alloc (by simp; omega) _
    have hO0 := (((World.ownsRow_made (e := 9) (size := 1) (base := w.heap.size) w #[] 0 (Nat.le_refl _) (by decide) (by simp)).alloc (.cells #[.slice (some ⟨w.heap.size, 0, none⟩) 0 0] 32)).alloc (.cells #[.int .i64 0] 3)).alloc (.cells #[.string s] 9)
    have hsz : ((((w.alloc (.cells #[] 9)).alloc (.cells #[.slice (some ⟨w.heap.size, 0, none⟩) 0 0] 32)).alloc (.cells #[.int .i64 0] 3)).alloc (.cells #[.string s] 9)).heap.size = w.heap.size + 1 + 1 + 1 + 1 := by simp
    have hI0 : IvF w s (w.heap.size + 1) (w.heap.size + 1 + 1) (w.heap.size + 1 + 1 + 1) [] ((((w.alloc (.cells #[] 9)).alloc (.cells #[.slice (some ⟨w.heap.size, 0, none⟩) 0 0] 32)).alloc (.cells #[.int .i64 0] 3)).alloc (.cells #[.string s] 9)) :=
      ⟨⟨_, bR, by simpa [textsOf, svs] using hO0, by simp [Value.ownBlock]; omega⟩, bE, bF, hB0⟩
    generalize ((((w.alloc (.cells #[] 9)).alloc (.cells #[.slice (some ⟨w.heap.size, 0, none⟩) 0 0] 32)).alloc (.cells #[.int .i64 0] 3)).alloc (.cells #[.string s] 9)) = W0 at *
    have hT0 : Tab W0 := HT.out.later hB0 hp
    refine wpIn_rangeFunc_ownG rfl (by omega) (gf := 67) (lb := #[.pointer (some ⟨w.heap.size + 1 + 1 + 1, 0, none⟩)]) rfl trivial (enters_of Tryd.func67 (by kernel_rfl) rfl)
      (whole_stops _ (by omega) s hs (w.heap.size + 1 + 1 + 1) w.heap.size W0 (by omega) (by omega) hp bF.cell hT0) KpF.t (KpF.b (by omega) (by omega)) (Below.refl _ _) (fun _ => rfl)
      (IvF w s (w.heap.size + 1) (w.heap.size + 1 + 1) (w.heap.size + 1 + 1 + 1)) (fun _ _ _ => False)
      (IvF.own w s _ _ _ _ (by omega)) (fun _ _ _ _ _ hs _ _ => hs) hI0
      (fun x => { tmps := #[.string s, undef, .slice none 0 0, .int .i64 0, .pointer (some ⟨w.heap.size + 1, 0, none⟩), .pointer (some ⟨w.heap.size + 1 + 1, 0, none⟩), .string x.1, .int .i64 (x.2 : Int), .slice (some ⟨w.heap.size, 0, none⟩) 0 0, .string s, .int .i64 (s.size : Int), .bool (decide ((20000 : Int) < (s.size : Int))), undef, undef, .string s, .func (.func 67) #[] #[.pointer (some ⟨w.heap.size + 1 + 1 + 1, 0, none⟩)], .string x.1, .int .i64 (x.2 : Int), undef, undef, undef, undef, undef, undef, undef], defers := [] }) ?assign ?body ?done ?stop
    case assign =>
      intro l x W K hK
      gi_wp2
      exact hK
    case body =>
      rintro l pre ⟨t, q⟩ W ⟨⟨v, hv, hrow, hne⟩, hE, hF, hB⟩ hlt
      have hc := hv.cell
      have hFl := hF.lt
      gi_wp2_with (gi_at_builtin; refine wpIn_appS rfl _ _ rfl w.heap.size v (textsOf pre) rfl (hrow.alloc _) (by have := hB.size; simp; omega) ⟨W.heap.size, 0, none⟩ t rfl (new_text _ _) (by rw [textsOf_len]; omega) ?_; intro g cap w1 hown' hgrow hlies; obtain ⟨hv1, hE1, hfin⟩ := (round_any (q := q) (by omega) (by omega) (by omega) (by omega) (by omega) hFl hv hrow hne hE hF hB hown' hgrow hlies).out; have hc1 := hv1.cell; have hf1 := hv1.frozen; have hc2 := hE1.cell; have hf2 := hE1.frozen)
      exact ⟨hfin.1.from _, hfin.2.1, hfin.2.2⟩
    case done =>
      rintro D ys W hD rfl ⟨⟨v, hv, hrow, hne⟩, hE, hF, hB⟩ hK
      have hc := hv.cell
      have hce := hE.cell
      gi_wp2
      gi_region
      all_goals gi_wp2
      have hKd : W.drew.heap[D]? = some (.deferred (some [])) := hK
      refine ⟨by simp, .inl ⟨_, _, rfl, run_takeDeferred hKd, ?_⟩⟩
      refine ⟨_, results_tmp2 rfl _ _ _, v, ?_, ?_⟩
      · rw [framesOf_small hs]; rfl
      · rw [framesOf_small hs]
        exact ⟨ownsRow_putObj hrow.drew _ hKd rfl, hB.drew.trans (belowK_b (w := w) (Nat.le_refl _) W.drew D _ _ (by omega) hKd rfl rfl), Nat.le_trans hB.size (by simp [World.putObj])⟩
    case stop =>
      rintro D c pre W _ _ h _
      exact h.elim

end Go.Proofs.YtadikpmecjjgjaaDoor
