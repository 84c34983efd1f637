/-
  Texts laid together: GUf, GUl, GLt, Jnw.
-/
import Derived.Test.YthlgohplljcgfaaGreatDoorPkESN34
import Derived.Deep.AppendLies
import Derived.Test.YthlgohplljcgfaaGreatDoorPkESN33
import Derived.Test.YthlgohplljcgfaaGreatDoorPkESN29
import Derived.Test.YthlgohplljcgfaaGreatDoorPkESN13
import Derived.Test.YthlgohplljcgfaaGreatDoorPkESN30
/-
  What the program's Unframe answers: the records of the whole frames that the file begins with.
-/
namespace Go.Proofs.YthlgohplljcgfaaGreatDoor
open Go.RowKit Go.Shelf
set_option linter.unusedVariables false
attribute [local go_sem] Oper.semAt_some

theorem wpIn_appS {F : Fence} {n : Nat} {w : World} {ops : Array Oper} {rest : List Oper} {o : Oper} {a : Act} {Q : Exit → Act → World → Prop} (hgd : o.guard = none) (s x : Operand)
    (ho : o.op = .call { callee := .builtin .append, args := #[s, x], argTypes := #[60, 60] })
    (B : Nat) (v : Value) (l : List ByteArray) (hs : a.eval s = v) (hown : w.ownsRow B 9 1 v l.length (svs l)) (hB : B ≤ w.heap.size)
    (ad : Addr) (t : ByteArray) (hx : a.eval x = .slice (some ad) 1 1) (hnews : w.cell? ad = some (.string t)) (hlen : l.length ≤ 1000000)
    (h : ∀ g cap w', w'.ownsRow B 9 1 (.slice (some ⟨g, 0, none⟩) (l.length + 1) cap) (l.length + 1) (svs (l ++ [t])) → w.grownBy w' v.ownBlock → (v.ownBlock = some g ∨ g = w.heap.size) → wpListIn F n Tryz.prog ops Q rest (a.put o.dst (.slice (some ⟨g, 0, none⟩) (l.length + 1) cap)) w') : wpListIn F n Tryz.prog ops Q (o :: rest) a w := by
  obtain ⟨i0, hi, hz0, hz1, hz2⟩ := info_parts Tryz.info9
  refine wpListIn_plain hgd fun K hK' => ?_
  obtain ⟨g, cap, w', hrun, r1, r2, r3, _⟩ := run_append_lies (P := Tryz.prog) w 60 o.type B 9 i0 (.string ByteArray.empty) 1 16 Tryz.underlying60 hi hz0 hz1 hz2 rfl (by decide) v l.length (svs l) hown ad 1 1 (svs [t]) (by simp [svs])
    (by
      intro j u hj
      match j, hj with
      | 0, hj =>
        simp [svs] at hj
        subst hj
        have : ad.add 0 = ad := by unfold Addr.add; split <;> simp_all
        rw [this]
        exact hnews)
    (fun u hu => by simp [svs] at hu; subst hu; rfl) (by omega) (by unfold maxLen; omega) (by omega) hB w.heap.size rfl
  unfold Oper.wpIn
  refine ⟨?_, ?_⟩
  · simp [Oper.about, ho, resolve, Target.leads, Sem.run_pure]
  · rw [Oper.semAt_plain F _ _ (by rw [ho]; intro c hc'; cases hc')]
    simp [execOp, ho, resolve, invoke, builtin, hs, hx, hrun, Result.andThen]
    rw [← svs_append] at r1
    exact hK' _ _ (h g cap w' r1 r2 r3)

/-- between two rounds -/
def IvF (w : World) (s : ByteArray) (b1 b2 b3 : Nat) (pre : List (ByteArray × Nat)) (W : World) : Prop :=
  (∃ v, Boxed W b1 60 v ∧ W.ownsRow w.heap.size 9 1 v (textsOf pre).length (svs (textsOf pre)) ∧ v.ownBlock ≠ some b3) ∧ Boxed W b2 3 (.int .i64 ((endOf pre : Nat) : Int)) ∧ Boxed W b3 9 (.string s) ∧ Below w.heap.size w W

theorem IvF.own (w : World) (s : ByteArray) (b1 b2 b3 B : Nat) (hB : w.heap.size ≤ B) : OwnFrom B (IvF w s b1 b2 b3) :=
  OwnFrom.and (Own.from (holdsRow_own w.heap.size b1 60 9 1 (fun pre => (textsOf pre).length) (fun pre => svs (textsOf pre)) (fun pre v => v.ownBlock ≠ some b3)) _)
    (OwnFrom.and (Own.from (boxed_own b2 3 (fun pre => .int .i64 ((endOf pre : Nat) : Int))) _) (OwnFrom.and (Own.from (boxed_own b3 9 (fun _ => .string s)) _) (ownFrom_below (Nat.le_refl _) hB)))

theorem KpF.t {n b : Nat} {A B C : World} (h : KpF n b A B) (k : KpF n b B C) : KpF n b A C := ⟨h.1.trans k.1, k.2.trans h.2⟩
theorem KpF.b {n b : Nat} {w : World} (hn : n ≤ w.heap.size) (hb : b < w.heap.size) (W : World) (l : Nat) (o o' : Obj) (hl : w.heap.size ≤ l) (h : W.heap[l]? = some o) (hc : o.isCells = false) (hw : o.isWalk = false) : KpF n b W (W.putObj l o') :=
  ⟨belowK_b hn W l o o' hl h hc hw, World.cell?_of_block (World.putObj_heap_other (show b ≠ l by omega))⟩

/-- one round: the record is appended, the place is kept -/
theorem round_any {w W w1 : World} {s t : ByteArray} {q b1 b2 b3 g cap : Nat} {pre : List (ByteArray × Nat)} {v : Value} {tmp : Obj} (h1 : w.heap.size ≤ b1) (h2 : w.heap.size ≤ b2) (h12 : b1 ≠ b2) (h13 : b3 ≠ b1) (h23 : b3 ≠ b2) (h3 : b3 < W.heap.size)
    (hv : Boxed W b1 60 v) (hrow : W.ownsRow w.heap.size 9 1 v (textsOf pre).length (svs (textsOf pre))) (hne : v.ownBlock ≠ some b3) (hE : Boxed W b2 3 (.int .i64 ((endOf pre : Nat) : Int))) (hF : Boxed W b3 9 (.string s)) (hB : Below w.heap.size w W)
    (hown' : w1.ownsRow w.heap.size 9 1 (.slice (some ⟨g, 0, none⟩) ((textsOf pre).length + 1) cap) ((textsOf pre).length + 1) (svs (textsOf pre ++ [t]))) (hgrow : (W.alloc tmp).grownBy w1 v.ownBlock) (hlies : v.ownBlock = some g ∨ g = (W.alloc tmp).heap.size) :
    Hid (Boxed w1 b1 60 v ∧ Boxed w1 b2 3 (.int .i64 ((endOf pre : Nat) : Int)) ∧
    (KeepsOthers W ((w1.setCell ⟨b1, 0, none⟩ (.slice (some ⟨g, 0, none⟩) ((textsOf pre).length + 1) cap)).setCell ⟨b2, 0, none⟩ (.int .i64 (q : Int))) ∧
      KpF w.heap.size b3 W ((w1.setCell ⟨b1, 0, none⟩ (.slice (some ⟨g, 0, none⟩) ((textsOf pre).length + 1) cap)).setCell ⟨b2, 0, none⟩ (.int .i64 (q : Int))) ∧
      IvF w s b1 b2 b3 (pre ++ [(t, q)]) ((w1.setCell ⟨b1, 0, none⟩ (.slice (some ⟨g, 0, none⟩) ((textsOf pre).length + 1) cap)).setCell ⟨b2, 0, none⟩ (.int .i64 (q : Int))))) := by
  obtain ⟨hv1, hv2, hr2, hk2, hb2⟩ := hv.appended (by decide) hrow hB.size h1 hown' hgrow
  have hE1 := (hE.alloc tmp).kept hgrow (hE.not_row (by decide) hrow)
  have hE2 := hE1.other (B' := b1) (fun e => h12 e.symm) (.slice (some ⟨g, 0, none⟩) ((textsOf pre).length + 1) cap)
  have hF1 := (hF.alloc tmp).kept hgrow (fun e => hne e.symm)
  have hF3 := (hF1.other (B' := b1) h13 (.slice (some ⟨g, 0, none⟩) ((textsOf pre).length + 1) cap)).other (B' := b2) h23 (.int .i64 (q : Int))
  have hb3 := hb2.setCell (p := ⟨b2, 0, none⟩) h2 (.int .i64 (q : Int))
  refine ⟨hv1, hE1, hk2.trans (KeepsOthers.setCell _ _ _), ⟨hb3, hF3.cell.trans hF.cell.symm⟩, ⟨_, hv2.other (B' := b2) h12 _, ?_, ?_⟩, ?_, hF3, hB.trans hb3⟩
  · have e : (textsOf (pre ++ [(t, q)])).length = (textsOf pre).length + 1 := by rw [textsOf_snoc]; simp
    rw [e, textsOf_snoc]
    exact hr2.kept (grownBy_setCell' _ b2 _) (.inr (hE2.not_row (by decide) hr2).symm)
  · intro e
    have hg : g = b3 := by simpa [Value.ownBlock] using e
    rcases hlies with h | h
    · exact hne (by rw [h, hg])
    · rw [World.size_alloc] at h
      omega
  · rw [endOf_snoc]
    exact hE2.set _

set_option maxRecDepth 100000 in
set_option maxHeartbeats 2000000 in
theorem Unframe_any (s : ByteArray) (w : World) (hm : s.size ≤ 1048576) (hT : Tab w) : Calls Tryz.prog 81 #[.string s] w (UnP w s) := by
  by_cases hl : 20000 < s.size
  · have HB : Hid (framesOf s = []) := framesOf_big hl
    refine (callsIn_wide (n := 3)).1 ?_
    refine callsIn_of_wp_marks Tryz.func81 rfl trivial ?_ rfl
    simp only [Tryz.ntmps81, List.size_toArray, List.length_cons, List.length_nil, Nat.reduceAdd, Nat.reduceSub, Array.replicate_succ, Array.replicate_zero, List.push_toArray, List.append_toArray, List.nil_append, List.cons_append]
    gi_wp2
    gi_region
    all_goals gi_wp2
    refine ⟨_, results_tmp2 rfl _ _ _, ?_⟩
    exact UnP.big HB.out ((((OS.made w).alloc _).alloc _).drew)
  · have hs : s.size ≤ 20000 := by omega
    have hp := hT.pos
    have HT : Hid (Tab w) := hT
    clear hT
    refine (callsIn_wide (n := 3)).1 ?_
    refine callsIn_of_wp_marks Tryz.func81 rfl trivial ?_ rfl
    simp only [Tryz.ntmps81, List.size_toArray, List.length_cons, List.length_nil, Nat.reduceAdd, Nat.reduceSub, Array.replicate_succ, Array.replicate_zero, List.push_toArray, List.append_toArray, List.nil_append, List.cons_append]
    gi_wp2_with (refine ⟨trivial, ?_⟩; gi_at_call 122; refine (callsIn_wide.2 (wholeFrames_any s _)).mono ?_; rintro e w' ⟨rfl, rfl⟩)
    have bR := (Boxed.new (w.alloc (.cells #[] 9)) 60 (.slice (some ⟨w.heap.size, 0, none⟩) 0 0))
    have bE := Boxed.new ((w.alloc (.cells #[] 9)).alloc (.cells #[.slice (some ⟨w.heap.size, 0, none⟩) 0 0] 60)) 3 (.int .i64 0)
    have bF := Boxed.new (((w.alloc (.cells #[] 9)).alloc (.cells #[.slice (some ⟨w.heap.size, 0, none⟩) 0 0] 60)).alloc (.cells #[.int .i64 0] 3)) 9 (.string s)
    simp only [World.size_alloc] at bR bE bF
    have bR := (bR.alloc (.cells #[.int .i64 0] 3)).alloc (.cells #[.string s] 9)
    have bE := bE.alloc (.cells #[.string s] 9)
    have hB0 : Below w.heap.size w ((((w.alloc (.cells #[] 9)).alloc (.cells #[.slice (some ⟨w.heap.size, 0, none⟩) 0 0] 60)).alloc (.cells #[.int .i64 0] 3)).alloc (.cells #[.string s] 9)) := ((((Below.refl _ w).alloc (Nat.le_refl _) _).alloc (by simp) _).alloc (by simp; omega) _).alloc (by simp; omega) _
    have hO0 := (((World.ownsRow_made (e := 9) (size := 1) (base := w.heap.size) w #[] 0 (Nat.le_refl _) (by decide) (by simp)).alloc (.cells #[.slice (some ⟨w.heap.size, 0, none⟩) 0 0] 60)).alloc (.cells #[.int .i64 0] 3)).alloc (.cells #[.string s] 9)
    have hsz : ((((w.alloc (.cells #[] 9)).alloc (.cells #[.slice (some ⟨w.heap.size, 0, none⟩) 0 0] 60)).alloc (.cells #[.int .i64 0] 3)).alloc (.cells #[.string s] 9)).heap.size = w.heap.size + 1 + 1 + 1 + 1 := by simp
    have hI0 : IvF w s (w.heap.size + 1) (w.heap.size + 1 + 1) (w.heap.size + 1 + 1 + 1) [] ((((w.alloc (.cells #[] 9)).alloc (.cells #[.slice (some ⟨w.heap.size, 0, none⟩) 0 0] 60)).alloc (.cells #[.int .i64 0] 3)).alloc (.cells #[.string s] 9)) :=
      ⟨⟨_, bR, by simpa [textsOf, svs] using hO0, by simp [Value.ownBlock]; omega⟩, bE, bF, hB0⟩
    generalize ((((w.alloc (.cells #[] 9)).alloc (.cells #[.slice (some ⟨w.heap.size, 0, none⟩) 0 0] 60)).alloc (.cells #[.int .i64 0] 3)).alloc (.cells #[.string s] 9)) = W0 at *
    have hT0 : Tab W0 := HT.out.later hB0 hp
    refine wpIn_rangeFunc_ownG rfl (by omega) (gf := 149) (lb := #[.pointer (some ⟨w.heap.size + 1 + 1 + 1, 0, none⟩)]) rfl trivial (enters_of Tryz.func149 (by kernel_rfl) rfl)
      (whole_stops _ (by omega) s hs (w.heap.size + 1 + 1 + 1) w.heap.size W0 (by omega) (by omega) hp bF.cell hT0) KpF.t (KpF.b (by omega) (by omega)) (Below.refl _ _) (fun _ => rfl)
      (IvF w s (w.heap.size + 1) (w.heap.size + 1 + 1) (w.heap.size + 1 + 1 + 1)) (fun _ _ _ => False)
      (IvF.own w s _ _ _ _ (by omega)) (fun _ _ _ _ _ hs _ _ => hs) hI0
      (fun x => { tmps := #[.string s, undef, .slice none 0 0, .int .i64 0, .pointer (some ⟨w.heap.size + 1, 0, none⟩), .pointer (some ⟨w.heap.size + 1 + 1, 0, none⟩), .string x.1, .int .i64 (x.2 : Int), .slice (some ⟨w.heap.size, 0, none⟩) 0 0, .string s, .int .i64 (s.size : Int), .bool (decide ((20000 : Int) < (s.size : Int))), undef, undef, .string s, .func (.func 149) #[] #[.pointer (some ⟨w.heap.size + 1 + 1 + 1, 0, none⟩)], .string x.1, .int .i64 (x.2 : Int), undef, undef, undef, undef, undef, undef, undef], defers := [] }) ?assign ?body ?done ?stop
    case assign =>
      intro l x W K hK
      gi_wp2
      exact hK
    case body =>
      rintro l pre ⟨t, q⟩ W ⟨⟨v, hv, hrow, hne⟩, hE, hF, hB⟩ hlt
      have hc := hv.cell
      have hFl := hF.lt
      gi_wp2_with (gi_at_builtin; refine wpIn_appS rfl _ _ rfl w.heap.size v (textsOf pre) rfl (hrow.alloc _) (by have := hB.size; simp; omega) ⟨W.heap.size, 0, none⟩ t rfl (new_text _ _) (by rw [textsOf_len]; omega) ?_; intro g cap w1 hown' hgrow hlies; obtain ⟨hv1, hE1, hfin⟩ := (round_any (q := q) (by omega) (by omega) (by omega) (by omega) (by omega) hFl hv hrow hne hE hF hB hown' hgrow hlies).out; have hc1 := hv1.cell; have hf1 := hv1.frozen; have hc2 := hE1.cell; have hf2 := hE1.frozen)
      exact ⟨hfin.1.from _, hfin.2.1, hfin.2.2⟩
    case done =>
      rintro D ys W hD rfl ⟨⟨v, hv, hrow, hne⟩, hE, hF, hB⟩ hK
      have hc := hv.cell
      have hce := hE.cell
      gi_wp2
      gi_region
      all_goals gi_wp2
      have hKd : W.drew.heap[D]? = some (.deferred (some [])) := hK
      refine ⟨by simp, .inl ⟨_, _, rfl, run_takeDeferred hKd, ?_⟩⟩
      refine ⟨_, results_tmp2 rfl _ _ _, v, ?_, ?_⟩
      · rw [framesOf_small hs]; rfl
      · rw [framesOf_small hs]
        exact ⟨ownsRow_putObj hrow.drew _ hKd rfl, hB.drew.trans (belowK_b (w := w) (Nat.le_refl _) W.drew D _ _ (by omega) hKd rfl rfl), Nat.le_trans hB.size (by simp [World.putObj])⟩
    case stop =>
      rintro D c pre W _ _ h _
      exact h.elim

end Go.Proofs.YthlgohplljcgfaaGreatDoor
/-
  The walk of the law FnExactUnframe: it answers true of every file.
-/
namespace Go.Proofs.YthlgohplljcgfaaGreatDoor
open Go.RowKit
set_option linter.unusedVariables false

theorem framesF_len (s : ByteArray) : ∀ (f p : Nat), p ≤ s.size → (framesF s f p).length ≤ s.size - p
  | 0, p, _ => by simp [framesF]
  | f + 1, p, hp => by
    rw [framesF]
    cases hr : recAt s p with
    | none => simp
    | some x =>
      obtain ⟨t, q⟩ := x
      obtain ⟨h1, h2⟩ := recAt_lt hr
      have := framesF_len s f q h2
      simp only [List.length_cons]
      omega
theorem framesOf_len (s : ByteArray) : (textsOf (framesOf s)).length ≤ 20000 := by
  rw [textsOf_len]
  unfold framesOf
  split
  · have := framesF_len s (s.size + 1) 0 (by omega)
    unfold frames
    omega
  · simp

def UnQ (w : World) (E : Nat) (L : List ByteArray) (e : Ending) (w' : World) : Prop := ∃ v, e = .returned (.tuple #[v, .int .i64 (E : Int)]) ∧ OS w.heap.size w w' v L

theorem sUnframe_at (s : ByteArray) (E : Nat) (L : List ByteArray) (w : World) (hm : s.size ≤ 1048576) (h : endOf (framesOf s) = E ∧ textsOf (framesOf s) = L) :
    Calls Tryz.prog 65 #[.string s] w (UnQ w E L) := by
  obtain ⟨rfl, rfl⟩ := h
  exact sUnframe_any s w hm
theorem Unframe_at (s : ByteArray) (E : Nat) (L : List ByteArray) (w : World) (hm : s.size ≤ 1048576) (hT : Tab w) (h : endOf (framesOf s) = E ∧ textsOf (framesOf s) = L) :
    Calls Tryz.prog 81 #[.string s] w (UnQ w E L) := by
  obtain ⟨rfl, rfl⟩ := h
  exact Unframe_any s w hm hT

end Go.Proofs.YthlgohplljcgfaaGreatDoor
/-
  The texts of a file: the program's and the specification's answers.
-/
namespace Go.Proofs.YthlgohplljcgfaaGreatDoor
open Go.RowKit
set_option linter.unusedVariables false
set_option linter.unusedSimpArgs false

def bxD (w : World) (v : Value) : World := w.alloc (.cells #[v] 28)
theorem bxD.below (w : World) (v : Value) : Below w.heap.size w (bxD w v) := (Below.refl _ _).alloc (Nat.le_refl _) _
theorem bxD.cell (w : World) (v : Value) : (bxD w v).cell? ⟨w.heap.size, 0, none⟩ = some v := by unfold bxD; simp
theorem bxD.lt (w : World) (v : Value) : w.heap.size < (bxD w v).heap.size := by unfold bxD; simp

theorem fileOf_disk (v : Value) (ga oa : Nat) (L : List Fl) (x : ByteArray) (w : World) (hv : RS 3 fcs w v ga oa L) (hd : F.diskB L = false) :
    Calls Tryz.prog 79 #[.agg #[v], .string x] w fun e w' => e = .returned (.tuple #[.string ⟨#[]⟩, faultV 1]) ∧ Below w.heap.size w w' := by
  have HC := DiskOk_any v ga oa L _ (hv.later (bxD.below w v))
  rw [hd] at HC
  unfold bxD at HC
  have HB : Hid (Below w.heap.size w (w.alloc (.cells #[v] 28))) := bxD.below w v
  obtain ⟨a, cap, rfl⟩ := hv.shape
  unfold faultV
  clear hv hd
  go_enter Tryz.func79, Tryz.ntmps79
  go_wp2_with fail
  refine HC.mono ?_
  rintro e w1 ⟨rfl, hb1⟩
  have hb2 := HB.out.trans (hb1.mono HB.out.size)
  clear HB hb1 HC
  go_wp2
  go_ret2
  exact ⟨rfl, hb2⟩

theorem fileT_le {L : List Fl} {x : ByteArray} (hs : SmallF L) : (F.fileT L x).size ≤ 1048576 := by
  unfold F.fileT
  cases h : F.find L x with
  | none => exact Nat.zero_le _
  | some f => exact (hs f (List.mem_of_find?_eq_some h)).2

theorem fileOf_at (v : Value) (ga oa : Nat) (L : List Fl) (x T : ByteArray) (R : Bool) (w : World) (hv : RS 3 fcs w v ga oa L) (hs : SmallF L) (hd : F.diskB L = true) (hT : F.fileT L x = T) (hR : F.fileO L x = R) :
    Calls Tryz.prog 79 #[.agg #[v], .string x] w fun e w' => e = .returned (.tuple (if R then #[.string T, .nilIface] else #[.string ⟨#[]⟩, faultV 3])) ∧ Below w.heap.size w w' := by
  have HC := DiskOk_any v ga oa L _ (hv.later (bxD.below w v))
  rw [hd] at HC
  have HF : Hid (∀ W, Below (bxD w v).heap.size (bxD w v) W → Calls Tryz.prog 120 #[.agg #[v], .string x] W fun e w' => e = .returned (.tuple #[.string T, .bool R]) ∧ Below W.heap.size W w') := fun W hW => by
    rw [← hT, ← hR]
    exact FileAt_any v ga oa L x W ((hv.later (bxD.below w v)).later hW) hs
  have HB : Hid (Below w.heap.size w (bxD w v) ∧ (bxD w v).cell? ⟨w.heap.size, 0, none⟩ = some v ∧ w.heap.size < (bxD w v).heap.size) := ⟨bxD.below w v, bxD.cell w v, bxD.lt w v⟩
  obtain ⟨a, cap, rfl⟩ := hv.shape
  unfold faultV
  unfold bxD at HC HF HB
  clear hv hd hs hT hR
  go_enter Tryz.func79, Tryz.ntmps79
  go_wp2_with fail
  refine HC.mono ?_
  rintro e w1 ⟨rfl, hb1⟩
  have c1 : w1.cell? ⟨w.heap.size, 0, none⟩ = some (.slice a L.length cap) := (hb1.cell (p := ⟨w.heap.size, 0, none⟩) HB.out.2.2).trans HB.out.2.1
  have HB1 : Hid (Below w.heap.size w w1) := HB.out.1.trans (hb1.mono HB.out.1.size)
  have HF1 := HF.out _ hb1
  clear HB HC HF hb1
  go_wp2_with fail
  refine HF1.mono ?_
  rintro e w2 ⟨rfl, hb2⟩
  have HB2 : Hid (Below w.heap.size w w2) := HB1.out.trans (hb2.mono HB1.out.size)
  clear HB1 hb2 HF1 c1
  cases R with
  | true =>
    go_wp2
    go_ret2
    exact ⟨rfl, HB2.out⟩
  | false =>
    go_wp2
    go_ret2
    exact ⟨rfl, HB2.out⟩

theorem framesOf_none : framesOf ⟨#[]⟩ = [] := by
  unfold framesOf
  rw [if_pos (by decide)]
  have h : recAt ⟨#[]⟩ 0 = none := by
    cases h : recAt ⟨#[]⟩ 0 with
    | none => rfl
    | some y => obtain ⟨t, q⟩ := y; have h2 := recAt_lt h; have h3 : (⟨#[]⟩ : ByteArray).size = 0 := rfl; omega
  unfold frames
  rw [show ((⟨#[]⟩ : ByteArray).size + 1) = 0 + 1 from rfl, framesF, h]

/-- the texts that the file of this name begins with -/
noncomputable def ltT (L : List Fl) (x : ByteArray) : List ByteArray := if F.diskB L then textsOf (framesOf (F.fileT L x)) else []
theorem ltT_len (L : List Fl) (x : ByteArray) : (ltT L x).length ≤ 20000 := by
  unfold ltT
  split
  · exact framesOf_len _
  · simp
def LtP (w : World) (M : List ByteArray) (e : Ending) (w' : World) : Prop := ∃ u, e = .returned u ∧ OS w.heap.size w w' u M
theorem LtP.mk {w w' : World} {M : List ByteArray} {u : Value} (h : OS w.heap.size w w' u M) : LtP w M (.returned u) w' := ⟨u, rfl, h⟩
theorem OS.wide {B B' : Nat} {w0 w1 w : World} {v : Value} {l : List ByteArray} (h : OS B' w1 w v l) (hb : Below B w0 w1) (hB : B ≤ B') : OS B w0 w v l := by
  refine ⟨⟨h.1.1, ?_⟩, hb.trans (h.2.1.mono hB), Nat.le_trans hB h.2.2⟩
  rcases h.1.2 with hn | ⟨g, cap, cur, h1, h2, h3⟩
  · exact .inl hn
  · exact .inr ⟨g, cap, cur, h1, Nat.le_trans hB h2, h3⟩

/-- where the file can't be had -/
theorem LogTexts_fault (v : Value) (x : ByteArray) (c : Int) (hc : (c == 0) = false) (w : World) (hv : ∃ a n cap, v = .slice a n cap) (hE : Eh w)
    (h : Calls Tryz.prog 79 #[.agg #[v], .string x] (bxD w v) fun e w' => e = .returned (.tuple #[.string ⟨#[]⟩, faultV c]) ∧ Below (bxD w v).heap.size (bxD w v) w') :
    Calls Tryz.prog 33 #[.agg #[v], .string x] w (LtP w []) := by
  have hb0 := bxD.below w v
  have HH : Hid (∀ W, Below w.heap.size w W → Calls Tryz.prog 80 #[.iface 152 (.agg #[.int .i64 c])] W fun e w' => e = .returned (.int .i64 c) ∧ Below W.heap.size W w') := fun W hW => logCodeOf_hit c W (hE.later hW)
  have HB : Hid (Below w.heap.size w (bxD w v)) := hb0
  obtain ⟨a, n, cap, rfl⟩ := hv
  unfold faultV at h
  unfold bxD at h HB
  clear hE hb0
  go_enter Tryz.func33, Tryz.ntmps33
  go_wp2_with fail
  refine h.mono ?_
  rintro e w1 ⟨rfl, hb1⟩
  have HB1 : Hid (Below w.heap.size w w1) := HB.out.trans (hb1.mono HB.out.size)
  clear HB hb1
  go_wp2_with fail
  refine (HH.out _ HB1.out).mono ?_
  rintro e w2 ⟨rfl, hb2⟩
  have HB2 : Hid (Below w.heap.size w w2) := HB1.out.trans (hb2.mono HB1.out.size)
  clear HB1 hb2
  go_wp2
  go_ret
  exact LtP.mk ((OS.made w2).wide HB2.out HB2.out.size)

theorem LogTexts_well (v : Value) (x T : ByteArray) (w : World) (hv : ∃ a n cap, v = .slice a n cap) (hT : Tab w) (hz : T.size ≤ 1048576)
    (h : Calls Tryz.prog 79 #[.agg #[v], .string x] (bxD w v) fun e w' => e = .returned (.tuple #[.string T, .nilIface]) ∧ Below (bxD w v).heap.size (bxD w v) w') :
    Calls Tryz.prog 33 #[.agg #[v], .string x] w (LtP w (textsOf (framesOf T))) := by
  have hb0 := bxD.below w v
  have hp := hT.pos
  have HU : Hid (∀ W, Below w.heap.size w W → Calls Tryz.prog 81 #[.string T] W (UnQ W (endOf (framesOf T)) (textsOf (framesOf T)))) := fun W hW => Unframe_at T _ _ W hz (hT.later hW hp) ⟨rfl, rfl⟩
  have HB : Hid (Below w.heap.size w (bxD w v)) := hb0
  obtain ⟨a, n, cap, rfl⟩ := hv
  unfold bxD at h HB
  generalize endOf (framesOf T) = E at *
  generalize textsOf (framesOf T) = M at *
  clear hT hb0
  go_enter Tryz.func33, Tryz.ntmps33
  go_wp2_with fail
  refine h.mono ?_
  rintro e w1 ⟨rfl, hb1⟩
  have HB1 : Hid (Below w.heap.size w w1) := HB.out.trans (hb1.mono HB.out.size)
  clear HB hb1
  go_wp2_with fail
  refine (logCodeOf_nil _).mono ?_
  rintro e w2 ⟨rfl, hb2⟩
  have HB2 : Hid (Below w.heap.size w w2) := HB1.out.trans (hb2.mono HB1.out.size)
  clear HB1 hb2
  go_wp2_with fail
  refine (HU.out _ HB2.out).mono ?_
  rintro e w3 ⟨u, rfl, hu⟩
  have HO : Hid (OS w.heap.size w w3 u M) := hu.wide HB2.out HB2.out.size
  clear HB2 hu
  go_wp2
  go_ret
  exact LtP.mk HO.out

theorem LogTexts_any (v : Value) (ga oa : Nat) (L : List Fl) (x : ByteArray) (w : World) (hv : RS 3 fcs w v ga oa L) (hs : SmallF L) (hT : Tab w) (hE : Eh w) :
    Calls Tryz.prog 33 #[.agg #[v], .string x] w (LtP w (ltT L x)) := by
  have hv1 := hv.later (bxD.below w v)
  have hsh : ∃ a n cap, v = .slice a n cap := by obtain ⟨a, c, h⟩ := hv.shape; exact ⟨a, _, c, h⟩
  cases hd : F.diskB L with
  | false =>
    rw [show ltT L x = [] by simp [ltT, hd]]
    exact LogTexts_fault v x 1 rfl w hsh hE (fileOf_disk v ga oa L x _ hv1 hd)
  | true =>
    cases hR : F.fileO L x with
    | false =>
      have e : F.fileT L x = ⟨#[]⟩ := by
        unfold F.fileO at hR
        unfold F.fileT
        cases h : F.find L x with
        | none => rfl
        | some f => rw [h] at hR; cases hR
      rw [show ltT L x = [] by simp [ltT, hd, e, framesOf_none, textsOf]]
      exact LogTexts_fault v x 3 rfl w hsh hE (by simpa using fileOf_at v ga oa L x _ false _ hv1 hs hd rfl hR)
    | true =>
      rw [show ltT L x = textsOf (framesOf (F.fileT L x)) by simp [ltT, hd]]
      exact LogTexts_well v x _ w hsh hT (fileT_le hs) (by simpa using fileOf_at v ga oa L x _ true _ hv1 hs hd rfl hR)

end Go.Proofs.YthlgohplljcgfaaGreatDoor
/-
  A new server as it is laid ahead of its records.
-/
namespace Go.Proofs.YthlgohplljcgfaaGreatDoor
open Go.RowKit Go.BigFrame Go.Sort
set_option linter.unusedVariables false
set_option linter.unusedSimpArgs false

theorem below_two (w : World) (o o' : Obj) : Below w.heap.size w ((w.alloc o).alloc o') := (below_alloc w o).trans ((below_alloc (w.alloc o) o').mono (below_alloc w o).size)

/-- a row of one that lies in a block made for it -/
theorem owns_one {B T : Nat} {w W : World} {g : Nat} {v : Value} (hB : B ≤ g) (hg : W.heap[g]? = some (.cells #[v] T (0, 0))) : W.ownsRow B T 1 (.slice (some ⟨g, 0, none⟩) 1 1) 1 [v] :=
  ⟨by simp, .inr ⟨g, 1, #[v], rfl, hB, hg, Nat.le_refl _, by unfold maxLen; omega, by simp, by simp⟩⟩
/-- the world where a new server is laid -/
def NwW (w2 : World) (a k : Int) (vd : Value) : World := ((((w2.alloc (.cells #[] 134)).alloc (.cells #[.slice (some ⟨w2.heap.size, 0, none⟩) 0 0] 59)).alloc (.cells #[.int .i64 0] 3)).alloc (.cells #[.int .i64 a, .int .i64 k, .bool true, vd, .int .i64 0, .slice (some ⟨w2.heap.size + 1, 0, none⟩) 1 1, .slice (some ⟨w2.heap.size + 1 + 1, 0, none⟩) 1 1, .slice none 0 0, .int .i64 0, .int .i64 0, .int .i64 0] 35))
theorem NwW.below (w2 : World) (a k : Int) (vd : Value) : Below w2.heap.size w2 (NwW w2 a k vd) := by
  unfold NwW
  exact (((below_alloc w2 _).alloc (by simp) _).alloc (by simp; omega) _).alloc (by simp; omega) _
theorem NwW.cells (w2 : World) (a k : Int) (vd : Value) : (NwW w2 a k vd).heap[w2.heap.size + 1]? = some (.cells #[.slice (some ⟨w2.heap.size, 0, none⟩) 0 0] 59 (0, 0)) ∧ (NwW w2 a k vd).heap[w2.heap.size + 1 + 1]? = some (.cells #[.int .i64 0] 3 (0, 0)) ∧ Box 35 (NwW w2 a k vd) (w2.heap.size + 1 + 1 + 1) [.int .i64 a, .int .i64 k, .bool true, vd, .int .i64 0, .slice (some ⟨w2.heap.size + 1, 0, none⟩) 1 1, .slice (some ⟨w2.heap.size + 1 + 1, 0, none⟩) 1 1, .slice none 0 0, .int .i64 0, .int .i64 0, .int .i64 0] := by
  unfold NwW
  generalize hx : Obj.cells #[] 134 = ox
  generalize hy : Obj.cells #[.slice (some ⟨w2.heap.size, 0, none⟩) 0 0] 59 = oy
  generalize hz : Obj.cells #[.int .i64 0] 3 = oz
  have e1 : (w2.alloc ox).heap.size = w2.heap.size + 1 := by simp
  have e2 : ((w2.alloc ox).alloc oy).heap.size = w2.heap.size + 1 + 1 := by simp
  have e3 : (((w2.alloc ox).alloc oy).alloc oz).heap.size = w2.heap.size + 1 + 1 + 1 := by simp
  have n1 := heap_alloc_new (w2.alloc ox) oy
  have n2 := heap_alloc_new ((w2.alloc ox).alloc oy) oz
  have n3 := Box.new 35 (((w2.alloc ox).alloc oy).alloc oz) [.int .i64 a, .int .i64 k, .bool true, vd, .int .i64 0, .slice (some ⟨w2.heap.size + 1, 0, none⟩) 1 1, .slice (some ⟨w2.heap.size + 1 + 1, 0, none⟩) 1 1, .slice none 0 0, .int .i64 0, .int .i64 0, .int .i64 0]
  rw [e1] at n1
  rw [e2] at n2
  rw [e3] at n3
  refine ⟨?_, ?_, n3⟩
  · rw [(below_alloc (((w2.alloc ox).alloc oy).alloc oz) _).block _ (by omega), (below_alloc ((w2.alloc ox).alloc oy) oz).block _ (by omega), n1, ← hy]
  · rw [(below_alloc (((w2.alloc ox).alloc oy).alloc oz) _).block _ (by omega), n2, ← hz]
theorem init_sv {B : Nat} {w2 W : World} {a k : Int} {vd : Value} {L : List Fl} {g : Nat} (hr : RW 3 fcs w2 vd g L) (hB : B ≤ w2.heap.size) (hgB : 0 < L.length → B ≤ g) (hb : Below (NwW w2 a k vd).heap.size (NwW w2 a k vd) W) :
    SvO B W W (w2.heap.size + 1 + 1 + 1) ⟨a, k, true, 0, 0, 0, 0⟩ vd (.slice (some ⟨w2.heap.size + 1, 0, none⟩) 1 1) (.slice (some ⟨w2.heap.size + 1 + 1, 0, none⟩) 1 1) (.slice none 0 0) ⟨L, [[]], [0], []⟩ [.slice (some ⟨w2.heap.size, 0, none⟩) 0 0] (fun _ => w2.heap.size) g := by
  obtain ⟨h1, h2, h3⟩ := NwW.cells w2 a k vd
  have hb2 : Below w2.heap.size w2 W := (NwW.below w2 a k vd).trans (hb.mono (NwW.below w2 a k vd).size)
  have g1 := (hb.block _ (Array.getElem?_eq_some_iff.1 h1).1).trans h1
  have g2 := (hb.block _ (Array.getElem?_eq_some_iff.1 h2).1).trans h2
  have hBW : B ≤ W.heap.size := Nat.le_trans hB hb2.size
  refine ⟨by omega, h3.later hb, ⟨World.ownsRow_nil _ _ _ _, Below.refl _ _, hBW⟩, ⟨owns_one (w := W) (by omega) g2, Below.refl _ _, hBW⟩, ⟨owns_one (w := W) (by omega) g1, Below.refl _ _, hBW⟩, ⟨rfl, fun j hj hv => ?_, fun i j hi hj hij => ?_, hr.later hb2, fun hp => ?_⟩, KpB.refl W, fun j hj hp => ?_, hgB⟩
  · obtain rfl : j = 0 := by simpa using hj
    exact ⟨⟨_, _, rfl⟩, ⟨⟨some ⟨w2.heap.size, 0, none⟩, 0, rfl, by simp, fun h => absurd h (by simp), fun j h => absurd h (by simp)⟩, fun j h => absurd h (by simp)⟩, fun h => absurd h (by simp)⟩
  · simp at hi hj
    omega
  · have := hr.lt hp
    refine ⟨by omega, fun e => ?_, fun e => ?_, fun e => by cases e⟩
    · have : w2.heap.size + 1 = g := by simpa [Value.ownBlock] using e
      omega
    · have : w2.heap.size + 1 + 1 = g := by simpa [Value.ownBlock] using e
      omega
  · obtain rfl : j = 0 := by simpa using hj
    exact absurd hp (by simp)

end Go.Proofs.YthlgohplljcgfaaGreatDoor
