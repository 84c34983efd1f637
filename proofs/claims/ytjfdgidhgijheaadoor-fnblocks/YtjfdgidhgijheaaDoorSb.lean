/-
  Copies of rows of numbers; a state out of a list.
-/
import Derived.Test.YtjfdgidhgijheaaDoorStart
namespace Go.Proofs.YtjfdgidhgijheaaDoor
open Go.RowKit Go.BigFrame
set_option linter.unusedVariables false

def jv (l : List Int) : List Value := l.map (fun x => Value.int .i64 x)

theorem wp_appI {w : World} {ops : Array Oper} {rest : List Oper} {o : Oper} {a : Act} {Q : Exit → Act → World → Prop} (hgd : o.guard = none) (s x : Operand)
    (ho : o.op = .call { callee := .builtin .append, args := #[s, x], argTypes := #[26, 26] })
    (B gq : Nat) (hs : a.eval s = .slice (some ⟨gq, 0, none⟩) 0 0) (hown : w.ownsRow B 3 1 (.slice (some ⟨gq, 0, none⟩) 0 0) 0 []) (hsz : B ≤ w.heap.size)
    (g of n c : Nat) (l : List Int) (hn : l.length = n) (hx : a.eval x = .slice (some ⟨g, of, none⟩) n c) (hcell : ∀ j (h : j < l.length), w.cell? ⟨g, of + j, none⟩ = some (.int .i64 l[j])) (hlen : n ≤ 1100000)
    (h : ∀ g' c' w', B ≤ g' → IB w' g' l → Below B w w' → wpList Tryd.prog ops Q rest (a.put o.dst (.slice (some ⟨g', 0, none⟩) n c')) w') : wpList Tryd.prog ops Q (o :: rest) a w := by
  subst hn
  obtain ⟨i0, hi, hz0, hz1, hz2⟩ := info_parts Tryd.info3
  refine wpList_append_own _ hgd s x 26 ho B 3 i0 (.int .i64 0) 1 8 Tryd.underlying26 hi hz0 hz1 hz2 rfl (by decide) _ 0 [] hs hown ⟨g, of, none⟩ l.length c (jv l) hx (by simp [jv]) ?_
    (fun u hu => by simp [jv] at hu; obtain ⟨b, _, rfl⟩ := hu; rfl) (by unfold maxLen; omega) (by omega) hsz ?_
  · intro j u hj
    have hj' : j < l.length := by
      rcases Nat.lt_or_ge j l.length with h1 | h1
      · exact h1
      · rw [List.getElem?_eq_none (by simpa [jv] using h1)] at hj; cases hj
    have e : (⟨g, of, none⟩ : Addr).add j = ⟨g, of + j, none⟩ := by unfold Addr.add; split <;> simp_all
    rw [e, hcell j hj']
    simp [jv, hj'] at hj
    rw [hj]
  · intro v' w' h1 h2 h3
    rcases h1.2 with ⟨hv, _⟩ | ⟨g', cap, cur, rfl, hb, hg, hnn, hc, hsz2, ht⟩
    · exact absurd (h3.1 hv).1 (by simp)
    · have hib : IB w' g' l := by
        refine ⟨cur, hg, fun j hj => ?_⟩
        have h4 : (cur.toList.take ((0 + l.length) * 1))[j]? = (jv l)[j]? := by rw [ht]; rfl
        rw [List.getElem?_take, if_pos (by omega)] at h4
        rw [← Array.getElem?_toList, h4]
        simp [jv, hj]
      have hbel : Below B w w' := (Below.refl B w).grown h2 hsz (fun k hk => (hown.lt k hk).1)
      have := h g' cap w' hb hib hbel
      simpa using this

theorem ret_arrb {fn : Func} {Rp : Ending → World → Prop} {a : Act} {w : World} (c d g t n : Nat) (ty e : TypeId) (f : Nat → UInt32) (v : Value) (hres : fn.results = #[.cell c ty, .tmp d]) (hd : a.defers = []) (hp : a.tmps.getD c undef = .pointer (some ⟨g, 0, none⟩)) (hv : a.tmps.getD d undef = v)
    (hA : Arr w g t n f) (hu : Tryd.prog.underlying ty = some (.array n e)) (hi : (Tryd.prog.info? ty).map (·.size) = some n) (h : ∀ R, AggIs R n f → Rp (.returned (.tuple #[.agg R, v])) w) : bodyPost Tryd.prog fn Rp .ret a w := by
  obtain ⟨cs, h1, h2, h3⟩ := hA
  have hr := run_loadVar_row (P := Tryd.prog) w g t ty cs (0, 0) _ h1 hu rfl (by rw [h2]; exact hi)
  refine bodyPost_ret (v := .tuple #[.agg cs, v]) ?_ hd (h cs ⟨h2, h3⟩)
  have hp' : a.tmps[c]?.getD undef = .pointer (some ⟨g, 0, none⟩) := by simpa using hp
  have hv' : a.tmps[d]?.getD undef = v := by simpa using hv
  simp [results, hres, asAddr, hr, hp', hv']

/-- a copy so far -/
def trow (l : List Int) (m : Nat) : List Int := l.take m ++ List.replicate (l.length - m) 0
theorem trow_len (l : List Int) (m : Nat) (h : m ≤ l.length) : (trow l m).length = l.length := by simp [trow]; omega
theorem trow_step (l : List Int) (m : Nat) (h : m < l.length) : (trow l m).set m l[m] = trow l (m + 1) := by
  unfold trow
  have e : l.length - m = (l.length - (m + 1)) + 1 := by omega
  have e2 : (l.take m).length = m := by simp; omega
  rw [e, List.replicate_succ, List.set_append_right _ _ (by omega), e2, Nat.sub_self, List.set_cons_zero, ← List.take_append_getElem h, List.append_assoc]
  rfl
theorem trow_all (l : List Int) : trow l l.length = l := by simp [trow]
def ToR (w : World) (l : List Int) (g : Nat) (i : Value) (wr : World) : Prop := ∃ m : Nat, m ≤ l.length ∧ i = .int .i64 m ∧ IB wr g (trow l m) ∧ Below w.heap.size w wr

set_option maxRecDepth 100000 in
set_option maxHeartbeats 400000 in
theorem stateOf_len (g o n c : Nat) (w : World) (hn : n ≠ 8) (hl : n ≤ 1100000) :
    Calls Tryd.prog 19 #[.slice (some ⟨g, o, none⟩) n c] w fun e w' => ∃ R, e = .returned (.tuple #[.agg R, .bool false]) ∧ AggIs R 8 (fun _ => 0) ∧ Below w.heap.size w w' := by
  have h1 : ¬ (n : Int) = 8 := by omega
  go_enter Tryd.func19, Tryd.ntmps19
  go_wp2_with (first | (refine wp_allocArr rfl 40 8 rfl zero52 ?_) | (refine wp_storeArr rfl 40 _ _ rfl w.heap.size 40 8 _ (fun _ => 0) (zeros 8) (Arr.agg (AggIs.zeros 8)) (AggIs.zeros 8) rfl rfl size52 ?_; intro hfin))
  refine ret_arrb 2 3 w.heap.size 40 8 40 38 (fun _ => 0) (.bool false) rfl rfl rfl rfl hfin Tryd.underlying40 size52 ?_
  intro R hR
  exact ⟨R, rfl, hR, below_setRow ((Below.refl _ _).alloc (Nat.le_refl _) _) (Nat.le_refl _)⟩

/-- the numbers of a list, as words -/
def ofI (l : List Int) (j : Nat) : UInt32 := UInt32.ofNat ((l.getD j 0).toNat)
def inR (x : Int) : Prop := 0 ≤ x ∧ x ≤ 4294967295
theorem ofI_nat (l : List Int) (j : Nat) (hj : j < l.length) (h : inR l[j]) : ((ofI l j).toNat : Int) = l[j] := by
  unfold ofI inR at *
  have e : l.getD j 0 = l[j] := by simp [List.getD, hj]
  rw [e, H.toNat_of _ (by omega)]
  omega

def StAns (l : List Int) (w w' : World) (e : Ending) : Prop := ∃ R, Below w.heap.size w w' ∧ ((∀ j (h : j < l.length), inR l[j]) ∧ e = .returned (.tuple #[.agg R, .bool true]) ∧ AggIs R 8 (ofI l) ∨ (¬ ∀ j (h : j < l.length), inR l[j]) ∧ e = .returned (.tuple #[.agg R, .bool false]) ∧ AggIs R 8 (fun _ => 0))
def StR (w : World) (l : List Int) (i : Value) (wr : World) : Prop := ∃ (m : Nat) (f : Nat → UInt32), m ≤ 8 ∧ i = .int .i64 m ∧ (∀ j (h : j < l.length), j < m → inR l[j] ∧ f j = ofI l j) ∧ Arr wr w.heap.size 40 8 (fun _ => 0) ∧ Arr wr (w.heap.size + 1) 40 8 f ∧ Below w.heap.size w wr

set_option maxRecDepth 100000 in
set_option maxHeartbeats 400000 in
theorem stateOf_eight (g o c : Nat) (l : List Int) (w : World) (hn : l.length = 8) (hg : g < w.heap.size) (hc : ∀ j (h : j < l.length), w.cell? ⟨g, o + j, none⟩ = some (.int .i64 l[j])) :
    Calls Tryd.prog 19 #[.slice (some ⟨g, o, none⟩) 8 c] w fun e w' => StAns l w w' e := by
  go_enter Tryd.func19, Tryd.ntmps19
  go_wp2_with (first | (refine wp_allocArr rfl 40 8 rfl zero52 ?_))
  have a2 := Arr.agg (w := w.alloc (.cells (zeros 8) 40)) (t := 40) (AggIs.zeros 8)
  have HST : Hid (StR w l (.int .i64 0) ((w.alloc (.cells (zeros 8) 40)).alloc (.cells (zeros 8) 40))) := ⟨0, fun _ => 0, by omega, rfl, fun j h hj => absurd hj (by omega), (Arr.agg (AggIs.zeros 8)).alloc _, by simpa using a2, ((Below.refl _ _).alloc (Nat.le_refl _) _).alloc (by simp) _⟩
  clear a2
  generalize (w.alloc (.cells (zeros 8) 40)).alloc (.cells (zeros 8) 40) = w1 at *
  go_loopw [13] (fun i wr => StR w l i wr) (fun i _ => 8 - (intOf i).toNat)
  case atStart => exact HST.out
  case round =>
    obtain ⟨m, f, hm, rfl, hf, hr, hs, hbel⟩ := hrel
    clear HST
    have HR : Hid (Arr wr w.heap.size 40 8 (fun _ => 0) ∧ Below w.heap.size w wr) := ⟨hr, hbel⟩
    by_cases hlt : m < 8
    · have c1 : wr.cell? ⟨g, o + m, none⟩ = some (.int .i64 (l[m]'(by omega))) := (hbel.cell (p := ⟨g, o + m, none⟩) hg).trans (hc m (by omega))
      have i1 : (m : Int) < 8 := by omega
      have i2 : (0 : Int) ≤ (m : Int) := by omega
      by_cases hx0 : l[m]'(by omega) < 0
      · have HNO : Hid (¬ ∀ j (h : j < l.length), inR l[j]) := fun h => by have := (h m (by omega)).1; omega
        generalize l[m]'(by omega) = X at *
        clear hf hr hs hbel hc
        go_wp2_with (refine wp_storeArr rfl 40 _ _ rfl w.heap.size 40 8 _ (fun _ => 0) (zeros 8) HR.out.1 (AggIs.zeros 8) rfl rfl size52 ?_; intro hfin)
        refine ret_arrb 2 3 w.heap.size 40 8 40 38 (fun _ => 0) (.bool false) rfl rfl rfl rfl hfin Tryd.underlying40 size52 ?_
        intro R hR
        exact ⟨R, below_setRow HR.out.2 (Nat.le_refl _), .inr ⟨HNO.out, rfl, hR⟩⟩
      · by_cases hx1 : 4294967295 < l[m]'(by omega)
        · have HNO : Hid (¬ ∀ j (h : j < l.length), inR l[j]) := fun h => by have := (h m (by omega)).2; omega
          generalize l[m]'(by omega) = X at *
          clear hf hr hs hbel hc
          go_wp2_with (refine wp_storeArr rfl 40 _ _ rfl w.heap.size 40 8 _ (fun _ => 0) (zeros 8) HR.out.1 (AggIs.zeros 8) rfl rfl size52 ?_; intro hfin)
          refine ret_arrb 2 3 w.heap.size 40 8 40 38 (fun _ => 0) (.bool false) rfl rfl rfl rfl hfin Tryd.underlying40 size52 ?_
          intro R hR
          exact ⟨R, below_setRow HR.out.2 (Nat.le_refl _), .inr ⟨HNO.out, rfl, hR⟩⟩
        · have hin : inR (l[m]'(by omega)) := ⟨by omega, by omega⟩
          have hox := ofI_nat l m (by omega) hin
          have c0 := hs.cell m hlt
          have f0 := hs.frozen m
          have HN : Hid (StR w l (.int .i64 ((m : Int) + 1)) (wr.setCell ⟨w.heap.size + 1, m, none⟩ (.int .u32 (l[m]'(by omega))))) := by
            refine ⟨m + 1, H.upd f m (ofI l m), by omega, by simp, fun j h hj => ?_, hr.other _ _ _ (by omega), ?_, hbel.setCell (p := ⟨w.heap.size + 1, m, none⟩) (by show w.heap.size ≤ w.heap.size + 1; omega) _⟩
            · unfold H.upd
              by_cases h1 : j = m
              · subst h1
                exact ⟨hin, by simp⟩
              · rw [if_neg h1]
                exact hf j h (by omega)
            · rw [← hox]
              exact hs.set m hlt _
          have hm1 : ¬ l[m]'(by omega) < 0 := hx0
          generalize l[m]'(by omega) = X at *
          clear hf hr hs hbel hc hin hox
          go_wp2
          go_roundw
          case rel => exact HN.out
          case measure => simp [intOf]; omega
    · have hme : m = 8 := by omega
      subst hme
      have HALL : Hid (∀ j (h : j < l.length), inR l[j]) := fun j h => (hf j h (by omega)).1
      have HS : Hid (Arr wr (w.heap.size + 1) 40 8 (ofI l)) := hs.congr (fun j hj => (hf j (by omega) hj).2)
      clear hf hr hs hbel hc
      go_wp2_with (first | (refine wp_loadArr rfl 40 _ rfl (w.heap.size + 1) 40 8 (ofI l) 38 rfl HS.out Tryd.underlying40 size52 ?_; intro R hR) | (refine wp_storeArr rfl 40 _ _ rfl w.heap.size 40 8 _ (ofI l) R HR.out.1 hR rfl rfl size52 ?_; intro hfin))
      refine ret_arrb 2 3 w.heap.size 40 8 40 38 (ofI l) (.bool true) rfl rfl rfl rfl hfin Tryd.underlying40 size52 ?_
      intro R2 hR2
      exact ⟨R2, below_setRow HR.out.2 (Nat.le_refl _), .inl ⟨HALL.out, rfl, hR2⟩⟩
end Go.Proofs.YtjfdgidhgijheaaDoor
