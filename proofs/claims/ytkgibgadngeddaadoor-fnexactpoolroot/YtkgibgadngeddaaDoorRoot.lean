/-
  What PoolRoot answers, the program's and the specification's.
-/
import Derived.Test.YtkgibgadngeddaaDoorPool
import Derived.Laws.CopyRow
namespace Go.Proofs.YtkgibgadngeddaaDoor
open Go.RowKit Go.BigFrame
set_option linter.unusedVariables false

/-- one text appended, in a region that draws -/
theorem step_appS {w : World} {ops : Array Oper} {o : Oper} {a : Act} {K : Act → World → Prop} {Q : Exit → Act → World → Prop} {E : Prop} (hg : o.guard = none) (s x : Operand)
    (hop : o.op = .call { callee := .builtin .append, args := #[s, x], argTypes := #[28, 28] })
    (B : Nat) (w0 : World) (v : Value) (l : List ByteArray) (hs : a.eval s = v) (hown : OS B w0 w v l)
    (ad : Addr) (t : ByteArray) (hx : a.eval x = .slice (some ad) 1 1) (hnews : w.cell? ad = some (.string t)) (hlen : l.length ≤ 1000000)
    (hK : ∀ v' w', OS B w0 w' v' (l ++ [t]) → w.grownBy w' v.ownBlock → K (a.put o.dst v') w') : if Region.wanted o (yielded ops a.tmps) = true then Oper.wp Tryd.prog o a w K Q else E := by
  obtain ⟨i0, hi, hz0, hz1, hz2⟩ := info_parts Tryd.info9
  have h0 : ∀ j u, [Value.string t][j]? = some u → w.cell? (ad.add j) = some u := by
    intro j u hj
    match j, hj with
    | 0, hj =>
      simp at hj
      subst hj
      have : ad.add 0 = ad := by unfold Addr.add; split <;> simp_all
      rw [this]
      exact hnews
  obtain ⟨v', w', hrun, h1, h2, _⟩ := run_append_own (P := Tryd.prog) w B 28 o.type 9 i0 (.string ByteArray.empty) 1 16 Tryd.underlying28 hi hz0 hz1 hz2 rfl (by decide) v l.length (svs l) hown.1 ad 1 1 [.string t] rfl h0
    (fun u hu => by simp at hu; subst hu; rfl) (by unfold maxLen; omega) (by omega) hown.2.2
  have hOB : OS B w0 w' v' (l ++ [t]) := ⟨by simpa [svs] using h1, hown.2.1.grown h2 hown.2.2 (fun k hk => (hown.1.lt k hk).1), Nat.le_trans hown.2.2 h2.size⟩
  have hw : Region.wanted o (yielded ops a.tmps) = true := by simp [Region.wanted, hg]
  rw [if_pos hw]
  unfold Oper.wp
  simp [execOp, hop, resolve, invoke, builtin, hs, hx, hrun, Result.andThen]
  exact hK v' w' hOB h2

/-- a row of texts appended -/
theorem wp_appRow {w : World} {ops : Array Oper} {rest : List Oper} {o : Oper} {a : Act} {Q : Exit → Act → World → Prop} (hgd : o.guard = none) (s x : Operand)
    (ho : o.op = .call { callee := .builtin .append, args := #[s, x], argTypes := #[28, 28] })
    (B : Nat) (w0 : World) (v u : Value) (l r : List ByteArray) (hs : a.eval s = v) (hown : OS B w0 w v l) (hx : a.eval x = u) (g of : Nat) (hr : SS w u g of r) (h0 : 0 < r.length) (hlen : l.length + r.length ≤ 1000000)
    (h : ∀ v' w', OS B w0 w' v' (l ++ r) → w.grownBy w' v.ownBlock → wpList Tryd.prog ops Q rest (a.put o.dst v') w') : wpList Tryd.prog ops Q (o :: rest) a w := by
  obtain ⟨i0, hi, hz0, hz1, hz2⟩ := info_parts Tryd.info9
  obtain ⟨ao, cap, rfl, _, hA, hc⟩ := hr
  have ea := hA h0
  subst ea
  refine wpList_append_own _ hgd s x 28 ho B 9 i0 (.string ByteArray.empty) 1 16 Tryd.underlying28 hi hz0 hz1 hz2 rfl (by decide) v l.length (svs l) hs hown.1 ⟨g, of, none⟩ r.length cap (svs r) hx (by simp [svs]) ?_
    (fun u hu => by simp [svs] at hu; obtain ⟨b, _, rfl⟩ := hu; rfl) (by unfold maxLen; omega) (by omega) hown.2.2 ?_
  · intro j u hj
    have hj2 : j < r.length := by
      have := (List.getElem?_eq_some_iff.1 hj).1
      simpa [svs] using this
    have e : (⟨g, of, none⟩ : Addr).add j = ⟨g, of + j, none⟩ := by unfold Addr.add; split <;> simp_all
    rw [e, hc j hj2]
    simp [svs, List.getElem?_eq_getElem hj2] at hj
    rw [hj]
  · intro v' w' h1 h2 _
    refine h v' w' ⟨by rw [List.length_append, svs_append]; exact h1, hown.2.1.grown h2 hown.2.2 (fun k hk => (hown.1.lt k hk).1), ?_⟩ h2
    exact Nat.le_trans hown.2.2 h2.size

def LuR (l : List ByteArray) (w : World) (v i : Value) (wr : World) : Prop := ∃ m : Nat, m ≤ l.length / 2 ∧ i = .int .i64 (2 * m : Nat) ∧ OS w.heap.size w wr v ((upL l).take m)

set_option maxRecDepth 100000 in
set_option maxHeartbeats 2000000 in
theorem l05Up_any (v : Value) (ga oa : Nat) (l : List ByteArray) (w : World) (hv : SS w v ga oa l) (hl : l.length ≤ 1000) :
    Calls Tryd.prog 31 #[v] w fun e w' => ∃ u, e = .returned u ∧ OS w.heap.size w w' u (upL l) := by
  have hga := hv.lt
  obtain ⟨a, cap, rfl, _, hA, hc⟩ := hv
  obtain ⟨n, hn⟩ : ∃ n, l.length = n := ⟨_, rfl⟩
  have HST : Hid (LuR l w (.slice (some ⟨w.heap.size, 0, none⟩) 0 0) (.int .i64 0) (w.alloc (.cells #[] 9))) := ⟨0, by omega, rfl, OS.made w⟩
  have HA : Hid (0 < n → a = some ⟨ga, oa, none⟩ ∧ ga < w.heap.size) := by rw [← hn]; exact fun h => ⟨hA h, hga h⟩
  have HC : Hid (∀ j (h : j < l.length), w.cell? ⟨ga, oa + j, none⟩ = some (.string l[j])) := hc
  have HN : Hid (l.length = n) := hn
  rw [hn] at hl ⊢
  clear hA hga hc
  go_enter Tryd.func31, Tryd.ntmps31
  go_wp2
  go_loopw [3, 4] (fun v i wr => LuR l w v i wr) (fun _ i _ => n - (intOf i).toNat)
  case atStart => exact HST.out
  case round =>
    obtain ⟨m, hm, rfl, hos⟩ := hrel
    rw [hn] at hm
    clear HST hn
    have e2 : (((2 * m : Nat)) : Int) = 2 * (m : Int) := by omega
    rw [e2]
    by_cases hlt : m < n / 2
    · obtain ⟨ea, hgw⟩ := HA.out (by omega)
      subst ea
      have hbel := hos.2.1
      have i2 : (0 : Int) ≤ 2 * (m : Int) := by omega
      have i3 : 2 * (m : Int) < (n : Int) := by omega
      have i4 : 2 * (m : Int) + 1 < (n : Int) := by omega
      have i6 : (0 : Int) ≤ 2 * (m : Int) + 1 := by omega
      have t1 : (2 * (m : Int)).toNat = 2 * m := by omega
      have t2 : (2 * (m : Int) + 1).toNat = 2 * m + 1 := by omega
      have a2 : IntKind.i64.wrap (2 * (m : Int) + 1) = 2 * (m : Int) + 1 := IntWalk.i64_in _ (by omega)
      have hu := upAt_eq l m (by rw [HN.out]; omega)
      have c1 : wr.cell? ⟨ga, oa + 2 * m, none⟩ = some (.string (l[2 * m]'(by rw [HN.out]; omega))) := (hbel.cell (p := ⟨ga, oa + 2 * m, none⟩) hgw).trans (HC.out (2 * m) _)
      have c2 : wr.cell? ⟨ga, oa + (2 * m + 1), none⟩ = some (.string (l[2 * m + 1]'(by rw [HN.out]; omega))) := (hbel.cell (p := ⟨ga, oa + (2 * m + 1), none⟩) hgw).trans (HC.out (2 * m + 1) _)
      have c1w := HC.out (2 * m) (by rw [HN.out]; omega)
      have c2w := HC.out (2 * m + 1) (by rw [HN.out]; omega)
      have hlk := upL_at l m (by rw [upL_len, HN.out]; exact hlt)
      have hst : (upL l).take m ++ [(upL l)[m]'(by rw [upL_len, HN.out]; exact hlt)] = (upL l).take (m + 1) := List.take_append_getElem _
      have hll : ((upL l).take m).length ≤ 1000 := by rw [List.length_take, upL_len, HN.out]; omega
      rw [hlk, hu] at hst
      generalize l[2 * m]'(by rw [HN.out]; omega) = X at *
      generalize l[2 * m + 1]'(by rw [HN.out]; omega) = Y at *
      have HCT := sTagHash_litd 3 [X, Y] 2 #[.string X, .string Y] wr _ rfl rfl (by omega) rfl
      generalize hashB 3 [X, Y] 16 = K at *
      have HNX : Hid (∀ v W, OS w.heap.size w W v ((upL l).take m ++ [K]) → LuR l w v (.int .i64 (2 * (m : Int) + 2)) W) := by
        rw [hst]
        exact fun v W hW => ⟨m + 1, by rw [HN.out]; omega, by congr 1, hW⟩
      generalize (upL l).take m = X0 at *
      have hgr : ga < wr.heap.size := Nat.lt_of_lt_of_le hgw hbel.size
      clear hu hlk hst HC HA HN
      go_wp2
      go_region_held3 (fun W => W.cell? ⟨ga, oa + 2 * m, none⟩ = some (.string X) ∧ W.cell? ⟨ga, oa + (2 * m + 1), none⟩ = some (.string Y)) (first | go_keep | exact ⟨(hb1.cell (p := ⟨ga, oa + 2 * m, none⟩) hgr).trans c1, (hb1.cell (p := ⟨ga, oa + (2 * m + 1), none⟩) hgr).trans c2⟩ | exact ⟨(hos2.2.1.cell (p := ⟨ga, oa + 2 * m, none⟩) hgw).trans c1w, (hos2.2.1.cell (p := ⟨ga, oa + (2 * m + 1), none⟩) hgw).trans c2w⟩) ((first | (go_at_call 27; refine HCT.out.mono ?_; rintro e w1 ⟨rfl, hb1⟩) | (refine step_appS rfl _ _ rfl w.heap.size w _ X0 (by rfl) ((hos.later hb1).alloc _) ⟨w1.heap.size, 0, none⟩ K (by rfl) (by exact one_text _ _ _) (by omega) ?_; intro v' w2 hos2 hg2)))
      go_wp2
      go_roundw
      case rel => exact HNX.out _ _ hos2
      case measure => simp [intOf]; omega
    · have hme : m = n / 2 := by omega
      have e : (upL l).take m = upL l := List.take_of_length_le (by rw [upL_len, HN.out]; omega)
      rw [e] at hos
      have i4 : ¬ (2 * (m : Int) + 1 < (n : Int)) := by omega
      clear e
      go_wp2
      go_ret
      exact ⟨_, rfl, hos⟩

/-- so many rows up -/
def upN (l : List ByteArray) : Nat → List ByteArray
  | 0 => l
  | j + 1 => upL (upN l j)
theorem upN_len (l : List ByteArray) (h : l.length = 16) : (upN l 0).length = 16 ∧ (upN l 1).length = 8 ∧ (upN l 2).length = 4 ∧ (upN l 3).length = 2 ∧ (upN l 4).length = 1 := by
  simp [upN, upL_len, h]
theorem upN_pow (l : List ByteArray) (h : l.length = 16) (j : Nat) (hj : j ≤ 4) : (upN l j).length = 16 / 2 ^ j := by
  have := upN_len l h
  have h0 : j = 0 ∨ j = 1 ∨ j = 2 ∨ j = 3 ∨ j = 4 := by omega
  rcases h0 with rfl | rfl | rfl | rfl | rfl
  · exact this.1
  · exact this.2.1
  · exact this.2.2.1
  · exact this.2.2.2.1
  · exact this.2.2.2.2
/-- what PoolRoot is of sixteen texts -/
def rootB (l : List ByteArray) : ByteArray := (upN l 4).getD 0 ByteArray.empty
theorem rootB_eq (l : List ByteArray) (h : 0 < (upN l 4).length) : (upN l 4)[0] = rootB l := by
  unfold rootB
  rw [List.getD_eq_getElem?_getD, List.getElem?_eq_getElem h]
  rfl
def rootA (l : List ByteArray) : ByteArray := if l.length = 16 then rootB l else ⟨#[]⟩

def SrR (l : List ByteArray) (w : World) (v : Value) (wr : World) : Prop := ∃ j : Nat, j ≤ 4 ∧ OS w.heap.size w wr v (upN l j)

theorem OS.up {B : Nat} {w0 w w' : World} {u : Value} {l : List ByteArray} (hb : Below B w0 w) (hB : B ≤ w.heap.size) (h : OS w.heap.size w w' u l) : OS B w0 w' u l := by
  refine ⟨⟨h.1.1, ?_⟩, hb.trans (h.2.1.mono hB), Nat.le_trans hB h.2.2⟩
  rcases h.1.2 with hn | ⟨g, cap, cur, hv, hbg, rest⟩
  · exact .inl hn
  · exact .inr ⟨g, cap, cur, hv, Nat.le_trans hB hbg, rest⟩

set_option maxRecDepth 100000 in
set_option maxHeartbeats 1000000 in
theorem sPoolRoot_yes (v : Value) (ga oa : Nat) (l : List ByteArray) (w : World) (hv : SS w v ga oa l) (hl : l.length = 16) :
    Calls Tryd.prog 21 #[v] w fun e w' => e = .returned (.string (rootB l)) ∧ Below w.heap.size w w' := by
  have hga := hv.lt
  have HV : Hid (SS (w.alloc (.cells #[] 9)) v ga oa l) := hv.below ((Below.refl _ _).alloc (Nat.le_refl _) _) hga
  have HL : Hid (l.length = 16) := hl
  obtain ⟨a, cap, rfl, _, hA, hc⟩ := hv
  rw [hl] at HV ⊢
  clear hA hc hga hl
  go_enter Tryd.func21, Tryd.ntmps21
  go_wp2_with (at_builtin; refine wp_appRow rfl _ _ rfl w.heap.size w _ _ [] l rfl (OS.made w) rfl ga oa HV.out ?c0 ?c1 ?_)
  case c0 => rw [HL.out]; omega
  case c1 => rw [HL.out]; simp
  intro v1 w1 hos1 _
  have HS : Hid (SrR l w v1 w1) := ⟨0, by omega, hos1⟩
  clear hos1 HV
  go_wp2
  go_loopw [3] (fun v wr => SrR l w v wr) (fun v _ => lenOf v)
  case atStart => exact HS.out
  case round =>
    obtain ⟨j, hj, hos⟩ := hrel
    clear HS
    have hln := upN_pow l HL.out j hj
    have hbel := hos.2.1
    have hB := hos.2.2
    by_cases hlt : j < 4
    · obtain ⟨g, hss⟩ := hos.ss (by rw [hln]; exact Nat.le_trans (Nat.div_le_self _ _) (by omega))
      have hc := l05Up_any _ g 0 (upN l j) wr hss (by rw [hln]; exact Nat.le_trans (Nat.div_le_self _ _) (by omega))
      obtain ⟨aa, cc, hvv⟩ := own_slice hos.1
      have hln2 := upN_pow l HL.out (j + 1) (by omega)
      have h1 : 1 < (upN l j).length ∧ (upN l (j + 1)).length < (upN l j).length := by
        rw [hln, hln2]
        have h0 : j = 0 ∨ j = 1 ∨ j = 2 ∨ j = 3 := by omega
        rcases h0 with rfl | rfl | rfl | rfl <;> decide
      obtain ⟨k, hk⟩ : ∃ k, (upN l j).length = k := ⟨_, rfl⟩
      have HK2 : Hid ((upN l (j + 1)).length < k) := by rw [← hk]; exact h1.2
      have h1 := h1.1
      rw [hk] at hvv h1
      subst hvv
      clear hss hos hln hln2
      have q1 : (1 : Int) < (k : Int) := by omega
      go_wp2_with fail
      refine hc.mono ?_
      rintro e w2 ⟨u, rfl, hos2⟩
      have HN : Hid (SrR l w u w2) := ⟨j + 1, by omega, OS.up hbel hB hos2⟩
      obtain ⟨ab, cb, hub⟩ := own_slice hos2.1
      have HU : Hid (lenOf u = (upN l (j + 1)).length) := by rw [hub]; rfl
      clear hos2 hc hbel hB hk hub
      go_wp2
      go_roundw
      case rel => exact HN.out
      case measure => rw [HU.out]; exact HK2.out
    · have hje : j = 4 := by omega
      subst hje
      have h4 := (upN_len l HL.out).2.2.2.2
      have hr := rootB_eq l (by omega)
      have hat : ∀ g cap, u3 = .slice (some ⟨g, 0, none⟩) (upN l 4).length cap → wr.cell? ⟨g, 0, none⟩ = some (.string (rootB l)) := by
        intro g cap he
        subst he
        have := hos.at 0 (by omega)
        rw [hr] at this
        exact this
      rcases hos.shape with ⟨_, hnil⟩ | ⟨g, cap', hv', _, _⟩
      · rw [hnil] at h4
        simp at h4
      · have c0 := hat g cap' hv'
        rw [h4] at hv'
        subst hv'
        clear hat hos h4 hr hln
        go_wp2
        go_ret
        exact ⟨rfl, hbel⟩

theorem sPoolRoot_no (a : Option Addr) (n cap : Nat) (w : World) (h : n ≠ 16) (hn : n ≤ 1100000) :
    Calls Tryd.prog 21 #[.slice a n cap] w fun e w' => e = .returned (.string ⟨#[]⟩) ∧ Below w.heap.size w w' := by
  have q : ((n : Int) != 16) = true := by simp; omega
  clear h
  go_enter Tryd.func21, Tryd.ntmps21
  go_wp2
  go_ret
  exact ⟨rfl, Below.refl _ _⟩
theorem sPoolRoot_any (v : Value) (ga oa : Nat) (l : List ByteArray) (w : World) (hv : SS w v ga oa l) :
    Calls Tryd.prog 21 #[v] w fun e w' => e = .returned (.string (rootA l)) ∧ Below w.heap.size w w' := by
  unfold rootA
  by_cases h : l.length = 16
  · rw [if_pos h]
    exact sPoolRoot_yes v ga oa l w hv h
  · rw [if_neg h]
    obtain ⟨a, cap, rfl, hl, _⟩ := hv
    exact sPoolRoot_no a l.length cap w h hl

end Go.Proofs.YtkgibgadngeddaaDoor
