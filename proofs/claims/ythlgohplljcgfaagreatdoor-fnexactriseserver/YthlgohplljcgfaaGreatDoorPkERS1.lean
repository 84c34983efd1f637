/-
  Texts laid together: Jcy, Jcw, Jcp.
-/
import Derived.Test.YthlgohplljcgfaaGreatDoorPkESN26
import Derived.Test.YthlgohplljcgfaaGreatDoorPkESN11
import Derived.Test.YthlgohplljcgfaaGreatDoorPkESN42
import Derived.Test.YthlgohplljcgfaaGreatDoorPkESN7
import Derived.OwnWalk
import Derived.Test.YthlgohplljcgfaaGreatDoorPkEFS0
import Derived.Test.YthlgohplljcgfaaGreatDoorPkESN30
import Derived.Test.YthlgohplljcgfaaGreatDoorPkESN15
import Derived.Test.YthlgohplljcgfaaGreatDoorPkESN39
/-
  A row of changes copied: the program's answer.
-/
namespace Go.Proofs.YthlgohplljcgfaaGreatDoor
open Go.RowKit Go.BigFrame Go.Sort
set_option linter.unusedVariables false
set_option linter.unusedSimpArgs false

set_option maxRecDepth 100000 in
set_option maxHeartbeats 400000 in
theorem changesCopy_any (v : Value) (ga oa : Nat) (l : List Ug) (w : World) (hv : RS 3 ucs w v ga oa l) (hsm : SmallUs l) :
    Calls Tryz.prog 97 #[v] w fun e w' => ∃ g, e = .returned (.slice (some ⟨g, 0, none⟩) l.length l.length) ∧ w.heap.size ≤ g ∧ RW 3 ucs w' (.slice (some ⟨g, 0, none⟩) l.length l.length) g l ∧ Below w.heap.size w w' := by
  have HV : Hid (RS 3 ucs w v ga oa l ∧ SmallUs l) := ⟨hv, hsm⟩
  obtain ⟨a, cap, rfl, hl, hA, hc⟩ := hv
  obtain ⟨n, hn⟩ : ∃ n, l.length = n := ⟨_, rfl⟩
  obtain ⟨w2, hmk, hib, hb2, hs2⟩ := made_changes n (by omega) w
  have HST : Hid (ToU w l w.heap.size w.heap.size (.int .i64 0) w2 ∧ w.heap.size < w2.heap.size) := ⟨⟨0, by omega, rfl, fun j _ h => by omega, by rw [hn]; exact hib, hb2⟩, by omega⟩
  have HA : Hid (0 < n → a = some ⟨ga, oa, none⟩) := by rw [← hn]; exact fun h => (hA h).1
  rw [hn] at hl ⊢
  clear hib hb2 hs2 hA hc hsm
  go_enter Tryz.func97, Tryz.ntmps97
  go_wp2
  clear hmk
  go_loopw [11] (fun i wr => ToU w l w.heap.size w.heap.size i wr ∧ w.heap.size < wr.heap.size) (fun i _ => n - (intOf i).toNat)
  case atStart => exact HST.out
  case round =>
    obtain ⟨⟨m, hm, rfl, h1, h2, hbel⟩, hws⟩ := hrel
    have HI : Hid ((∀ j (h : j < l.length), j < m → wr.rangeAt w.heap.size (j * 3) (ucs l[j])) ∧ (∀ j, j < l.length → wr.there w.heap.size (j * 3) 3) ∧ Below w.heap.size w wr) := ⟨h1, h2, hbel⟩
    clear HST h1 h2 hbel
    rw [hn] at hm
    by_cases hlt : m < n
    · have ea := HA.out (by omega)
      subst ea
      obtain ⟨c0, c1, c2⟩ := (HV.out.1.later HI.out.2.2).chg m (by omega)
      obtain ⟨X, hX⟩ : ∃ X, l[m]'(by omega) = X := ⟨_, rfl⟩
      rw [hX] at c0 c1 c2
      have hxs := HV.out.2 X (by rw [← hX]; exact List.getElem_mem _)
      have HX : Hid (l[m]'(by omega) = X) := hX
      have i1 : (m : Int) < (n : Int) := by omega
      have i2 : (0 : Int) ≤ (m : Int) := by omega
      have hba : Below wr.heap.size wr (wr.alloc (.cells #[.int .i64 X.i, .string X.n, .string X.v] 102)) := (Below.refl _ _).alloc (Nat.le_refl _) _
      clear hX HV HA
      go_wp2_with fail
      refine (uCopied_any X _ hxs.1 hxs.2).mono ?_
      rintro e w1 ⟨rfl, hb1'⟩
      have hb1 : Below wr.heap.size wr w1 := hba.trans (hb1'.mono hba.size)
      have HJ : Hid ((∀ j (h : j < l.length), j < m + 1 → (w1.setCells w.heap.size (m * 3) (ucs X)).rangeAt w.heap.size (j * 3) (ucs l[j])) ∧ (∀ j, j < l.length → (w1.setCells w.heap.size (m * 3) (ucs X)).there w.heap.size (j * 3) 3) ∧ Below w.heap.size w (w1.setCells w.heap.size (m * 3) (ucs X))) := by
        have h := ToU.set (w := w) (wr := w1) (l := l) (g := w.heap.size) (m := m) (B := w.heap.size) (by omega) (Nat.le_refl _) (fun j hj h => range_kept (HI.out.1 j hj h) (hb1.block _ hws)) (fun j hj => there_kept (HI.out.2.1 j hj) (hb1.block _ hws)) (HI.out.2.2.trans (hb1.mono HI.out.2.2.size))
        rw [HX.out] at h
        exact h
      have HT : Hid (w1.there w.heap.size (m * 3) 3) := there_kept (HI.out.2.1 m (by omega)) (hb1.block _ hws)
      have hws1 : w.heap.size < (w1.setCells w.heap.size (m * 3) (ucs X)).heap.size := by rw [size_setCells]; exact Nat.lt_of_lt_of_le hws hb1.size
      clear hb1 hb1' hba HI c0 c1 c2 hxs
      obtain ⟨⟨o0, x0⟩, ⟨o1, x1⟩, ⟨o2, x2⟩, f0, f1, f2⟩ := there3 HT.out
      go_wp2
      go_roundw
      case rel => exact ⟨⟨m + 1, by omega, by go_num, HJ.out⟩, hws1⟩
      case measure => simp [intOf]; omega
    · have hme : m = n := by omega
      subst hme
      clear HV HA
      go_wp2
      go_ret
      refine ⟨w.heap.size, rfl, Nat.le_refl _, ⟨⟨_, _, by rw [hn], by omega, fun _ => ⟨rfl, hws⟩, fun j hj => ?_⟩, HI.out.2.1⟩, HI.out.2.2⟩
      rw [Nat.zero_add]
      exact HI.out.1 j hj (by omega)

end Go.Proofs.YthlgohplljcgfaaGreatDoor
/-
  Whole rows of numbers, changes, leaves appended to empty ones; slices.Clone of a row of numbers.
-/
namespace Go.Proofs.YthlgohplljcgfaaGreatDoor
open Go.RowKit Go.BigFrame Go.Sort
set_option linter.unusedVariables false
set_option linter.unusedSimpArgs false

theorem flat_cellsG {α : Type} {k : Nat} {enc : α → List Value} (hk : ∀ x, (enc x).length = k) (hk0 : 0 < k) {w : World} {g o : Nat} {l : List α} (h : ∀ j (h : j < l.length), w.rangeAt g (o + j * k) (enc l[j])) : ∀ j u, (l.flatMap enc)[j]? = some u → w.cell? ⟨g, o + j, none⟩ = some u := by
  intro j u hu
  have hl := flat_len hk l
  have hj : j < l.length * k := by rw [← hl]; exact (List.getElem?_eq_some_iff.1 hu).1
  have e : j = j / k * k + j % k := (Nat.div_add_mod' j k).symm
  have hq : j / k < l.length := Nat.div_lt_of_lt_mul (by rw [Nat.mul_comm]; exact hj)
  rw [e, flat_at hk l (j / k) hq (j % k) (Nat.mod_lt _ hk0)] at hu
  have := h (j / k) hq (j % k) u hu
  rw [e, ← Nat.add_assoc]
  exact this

/-- a whole row, or one that is nil, appended to an empty one -/
theorem wp_rowIJ {w : World} {ops : Array Oper} {o : Oper} {a : Act} {Q : Exit → Act → World → Prop} {rest : List Oper} (hgd : o.guard = none) (s x : Operand)
    (ho : o.op = .call { callee := .builtin .append, args := #[s, x], argTypes := #[30, 30] })
    (B : Nat) (w0 : World) (g : Nat) (hs : a.eval s = .slice (some ⟨g, 0, none⟩) 0 0) (h : OR 3 1 ics B w0 w (.slice (some ⟨g, 0, none⟩) 0 0) ([] : List Int)) (ad : Option Addr) (cap : Nat) (l : List Int) (hx : a.eval x = .slice ad l.length cap)
    (g2 o2 : Nat) (hrs : RS 1 ics w (.slice ad l.length cap) g2 o2 l) (hnn : ad = none → l.length = 0 ∧ cap = 0)
    (hk : ∀ v' w', OR 3 1 ics B w0 w' v' l → w.grownBy w' (some g) → wpList Tryz.prog ops Q rest (a.put o.dst v') w') : wpList Tryz.prog ops Q (o :: rest) a w := by
  obtain ⟨i0, hi, hz0, hz1, hz2⟩ := info_parts Tryz.info3
  obtain ⟨a', c', hv, hl, h0, hc⟩ := hrs
  simp only [Value.slice.injEq] at hv
  obtain ⟨e1, _, e2⟩ := hv
  rcases Nat.eq_zero_or_pos l.length with hz | hz
  · obtain rfl : l = [] := List.length_eq_zero_iff.1 hz
    refine wpList_append_fits_any w hgd s x 30 ho B 3 i0 1 Tryz.underlying30 hi hz1 g 0 0 [] hs h.1 ad 0 cap [] hx rfl (fun h => hnn h) (fun ad h j u hu => by simp at hu) (fun u hu => by cases hu) (by omega) ?_
    intro w' h1 h2
    exact hk _ _ ⟨by simpa using h1, h.2.1.grown h2 h.2.2 (fun k hk => (h.1.lt k hk).1), Nat.le_trans h.2.2 h2.size⟩ h2
  · obtain ⟨e3, _⟩ := h0 hz
    rw [e3] at e1
    subst e1
    refine wpList_append_own _ hgd s x 30 ho B 3 i0 _ 1 8 Tryz.underlying30 hi hz0 hz1 hz2 rfl (by decide) _ 0 [] hs h.1 ⟨g2, o2, none⟩ l.length cap (l.flatMap ics) hx (flat_len (k := 1) (enc := ics) (fun x => rfl) l) ?_
      (fun u hu => by
        obtain ⟨f, _, hf⟩ := List.mem_flatMap.1 hu
        simp [ics] at hf
        subst hf; rfl) (by unfold maxLen; omega) (by omega) h.2.2 ?_
    · intro j u hj
      have := flat_cellsG (k := 1) (enc := ics) (fun x => rfl) (by omega) hc j u hj
      rw [Addr.add_mid]
      exact this
    · intro v' w' h1 h2 _
      exact hk _ _ ⟨by simpa using h1, h.2.1.grown h2 h.2.2 (fun k hk => (h.1.lt k hk).1), Nat.le_trans h.2.2 h2.size⟩ h2

/-- a whole row, or one that is nil, appended to an empty one -/
theorem wp_rowUJ {w : World} {ops : Array Oper} {o : Oper} {a : Act} {Q : Exit → Act → World → Prop} {rest : List Oper} (hgd : o.guard = none) (s x : Operand)
    (ho : o.op = .call { callee := .builtin .append, args := #[s, x], argTypes := #[31, 31] })
    (B : Nat) (w0 : World) (g : Nat) (hs : a.eval s = .slice (some ⟨g, 0, none⟩) 0 0) (h : OR 102 3 ucs B w0 w (.slice (some ⟨g, 0, none⟩) 0 0) ([] : List Ug)) (ad : Option Addr) (cap : Nat) (l : List Ug) (hx : a.eval x = .slice ad l.length cap)
    (g2 o2 : Nat) (hrs : RS 3 ucs w (.slice ad l.length cap) g2 o2 l) (hnn : ad = none → l.length = 0 ∧ cap = 0)
    (hk : ∀ v' w', OR 102 3 ucs B w0 w' v' l → w.grownBy w' (some g) → wpList Tryz.prog ops Q rest (a.put o.dst v') w') : wpList Tryz.prog ops Q (o :: rest) a w := by
  obtain ⟨i0, hi, hz0, hz1, hz2⟩ := info_parts Tryz.infoChange
  obtain ⟨a', c', hv, hl, h0, hc⟩ := hrs
  simp only [Value.slice.injEq] at hv
  obtain ⟨e1, _, e2⟩ := hv
  rcases Nat.eq_zero_or_pos l.length with hz | hz
  · obtain rfl : l = [] := List.length_eq_zero_iff.1 hz
    refine wpList_append_fits_any w hgd s x 31 ho B 102 i0 3 Tryz.underlying31 hi hz1 g 0 0 [] hs h.1 ad 0 cap [] hx rfl (fun h => hnn h) (fun ad h j u hu => by simp at hu) (fun u hu => by cases hu) (by omega) ?_
    intro w' h1 h2
    exact hk _ _ ⟨by simpa using h1, h.2.1.grown h2 h.2.2 (fun k hk => (h.1.lt k hk).1), Nat.le_trans h.2.2 h2.size⟩ h2
  · obtain ⟨e3, _⟩ := h0 hz
    rw [e3] at e1
    subst e1
    refine wpList_append_own _ hgd s x 31 ho B 102 i0 _ 3 40 Tryz.underlying31 hi hz0 hz1 hz2 rfl (by decide) _ 0 [] hs h.1 ⟨g2, o2, none⟩ l.length cap (l.flatMap ucs) hx (flat_len (k := 3) (enc := ucs) (fun x => ucs_len x) l) ?_
      (fun u hu => by
        obtain ⟨f, _, hf⟩ := List.mem_flatMap.1 hu
        simp [ucs] at hf
        rcases hf with rfl | rfl | rfl <;> rfl) (by unfold maxLen; omega) (by omega) h.2.2 ?_
    · intro j u hj
      have := flat_cellsG (k := 3) (enc := ucs) (fun x => ucs_len x) (by omega) hc j u hj
      rw [Addr.add_mid]
      exact this
    · intro v' w' h1 h2 _
      exact hk _ _ ⟨by simpa using h1, h.2.1.grown h2 h.2.2 (fun k hk => (h.1.lt k hk).1), Nat.le_trans h.2.2 h2.size⟩ h2

/-- a whole row, or one that is nil, appended to an empty one -/
theorem wp_rowLJ {w : World} {ops : Array Oper} {o : Oper} {a : Act} {Q : Exit → Act → World → Prop} {rest : List Oper} (hgd : o.guard = none) (s x : Operand)
    (ho : o.op = .call { callee := .builtin .append, args := #[s, x], argTypes := #[59, 59] })
    (B : Nat) (w0 : World) (g : Nat) (hs : a.eval s = .slice (some ⟨g, 0, none⟩) 0 0) (h : OR 134 2 lcs B w0 w (.slice (some ⟨g, 0, none⟩) 0 0) ([] : List Le)) (ad : Option Addr) (cap : Nat) (l : List Le) (hx : a.eval x = .slice ad l.length cap)
    (g2 o2 : Nat) (hrs : RS 2 lcs w (.slice ad l.length cap) g2 o2 l) (hnn : ad = none → l.length = 0 ∧ cap = 0)
    (hk : ∀ v' w', OR 134 2 lcs B w0 w' v' l → w.grownBy w' (some g) → wpList Tryz.prog ops Q rest (a.put o.dst v') w') : wpList Tryz.prog ops Q (o :: rest) a w := by
  obtain ⟨i0, hi, hz0, hz1, hz2⟩ := info_parts Tryz.infoLeaf
  obtain ⟨a', c', hv, hl, h0, hc⟩ := hrs
  simp only [Value.slice.injEq] at hv
  obtain ⟨e1, _, e2⟩ := hv
  rcases Nat.eq_zero_or_pos l.length with hz | hz
  · obtain rfl : l = [] := List.length_eq_zero_iff.1 hz
    refine wpList_append_fits_any w hgd s x 59 ho B 134 i0 2 Tryz.underlying59 hi hz1 g 0 0 [] hs h.1 ad 0 cap [] hx rfl (fun h => hnn h) (fun ad h j u hu => by simp at hu) (fun u hu => by cases hu) (by omega) ?_
    intro w' h1 h2
    exact hk _ _ ⟨by simpa using h1, h.2.1.grown h2 h.2.2 (fun k hk => (h.1.lt k hk).1), Nat.le_trans h.2.2 h2.size⟩ h2
  · obtain ⟨e3, _⟩ := h0 hz
    rw [e3] at e1
    subst e1
    refine wpList_append_own _ hgd s x 59 ho B 134 i0 _ 2 32 Tryz.underlying59 hi hz0 hz1 hz2 rfl (by decide) _ 0 [] hs h.1 ⟨g2, o2, none⟩ l.length cap (l.flatMap lcs) hx (flat_len (k := 2) (enc := lcs) (fun x => lcs_len x) l) ?_
      (fun u hu => by
        obtain ⟨f, _, hf⟩ := List.mem_flatMap.1 hu
        simp [lcs] at hf
        rcases hf with rfl | rfl <;> rfl) (by unfold maxLen; omega) (by omega) h.2.2 ?_
    · intro j u hj
      have := flat_cellsG (k := 2) (enc := lcs) (fun x => lcs_len x) (by omega) hc j u hj
      rw [Addr.add_mid]
      exact this
    · intro v' w' h1 h2 _
      exact hk _ _ ⟨by simpa using h1, h.2.1.grown h2 h.2.2 (fun k hk => (h.1.lt k hk).1), Nat.le_trans h.2.2 h2.size⟩ h2

set_option maxRecDepth 100000 in
set_option maxHeartbeats 1000000 in
theorem CloneI_any (v : Value) (g o : Nat) (l : List Int) (w : World) (hv : RS 1 ics w v g o l) :
    Calls Tryz.prog 96 #[v] w fun e w' => ∃ u, e = .returned u ∧ OR 3 1 ics w.heap.size w w' u l := by
  have HV : Hid (RS 1 ics w v g o l) := hv
  obtain ⟨a, c, rfl, hl, hA, _⟩ := hv
  cases a with
  | none =>
    have hz : l.length = 0 := by
      rcases Nat.eq_zero_or_pos l.length with h | h
      · exact h
      · cases (hA h).1
    obtain rfl : l = [] := List.length_eq_zero_iff.1 hz
    clear hA hz
    have he : ∀ w : World, (binOp .eql 30 (.slice none 0 c) (.slice none 0 0)).run Tryz.prog w = .ok (.bool true) w := fun _ => rfl
    go_enter Tryz.func96, Tryz.ntmps96
    go_wp2
    go_ret
    exact ⟨_, rfl, OR.nil w⟩
  | some ad =>
    have HN : Hid (OR 3 1 ics w.heap.size w (w.alloc (.cells #[] 3)) (.slice (some ⟨w.heap.size, 0, none⟩) 0 0) ([] : List Int)) := ⟨World.ownsRow_made w #[] 0 (Nat.le_refl _) (by decide) (by simp), below_alloc _ _, by simp⟩
    have HR : Hid (RS 1 ics (w.alloc (.cells #[] 3)) (.slice (some ad) l.length c) g o l) := HV.out.later (below_alloc _ _)
    clear hA
    have he : ∀ w : World, (binOp .eql 30 (.slice (some ad) l.length c) (.slice none 0 0)).run Tryz.prog w = .ok (.bool false) w := fun _ => rfl
    go_enter Tryz.func96, Tryz.ntmps96
    go_wp2_with (at_builtin; refine wp_rowIJ rfl _ _ rfl w.heap.size w w.heap.size rfl HN.out (some ad) c l rfl g o HR.out (fun h => by cases h) ?_; intro v4 w4 h4 hg4)
    go_ret
    exact ⟨_, rfl, h4⟩

end Go.Proofs.YthlgohplljcgfaaGreatDoor
/-
  A server copied: the program's answer.
-/
namespace Go.Proofs.YthlgohplljcgfaaGreatDoor
open Go.RowKit Go.BigFrame Go.Sort
set_option linter.unusedVariables false
set_option linter.unusedSimpArgs false

theorem step_ldJ {w : World} {ops : Array Oper} {o : Oper} {a : Act} {K : Act → World → Prop} {Q : Exit → Act → World → Prop} {E : Prop} (hw : Region.wanted o (yielded ops a.tmps) = true) (t : Nat) (T : TypeId) (ho : o.op = .load T (.tmp t)) (p : Addr) (v : Value) (h0 : a.tmps[t]?.getD undef = .pointer (some p))
    (hr : (Instr.loadAt T (.pointer (some p))).run Tryz.prog w = .ok v w) (hk : K (a.put o.dst v) w) : if Region.wanted o (yielded ops a.tmps) = true then Oper.wp Tryz.prog o a w K Q else E := by
  rw [if_pos hw]
  have hp' : a.eval (.tmp t) = .pointer (some p) := by
    show a.tmps.getD t undef = _
    rw [Array.getD_eq_getD_getElem?]
    exact h0
  unfold Oper.wp
  simp [execOp, ho, hp', hr, Result.andThen]
  exact hk
theorem step_stJ {w w' : World} {ops : Array Oper} {o : Oper} {a : Act} {K : Act → World → Prop} {Q : Exit → Act → World → Prop} {E : Prop} (hw : Region.wanted o (yielded ops a.tmps) = true) (t s : Nat) (T : TypeId) (ho : o.op = .store T (.tmp t) (.tmp s)) (p : Addr) (v : Value) (h0 : a.tmps[t]?.getD undef = .pointer (some p)) (h1 : a.tmps[s]?.getD undef = v)
    (hr : (Instr.storeAt T (.pointer (some p)) v).run Tryz.prog w = .ok () w') (hk : K (a.put o.dst (.tuple #[])) w') : if Region.wanted o (yielded ops a.tmps) = true then Oper.wp Tryz.prog o a w K Q else E := by
  rw [if_pos hw]
  have ev : ∀ t v, a.tmps[t]?.getD undef = v → a.eval (.tmp t) = v := fun t v h => by
    show a.tmps.getD t undef = v
    rw [Array.getD_eq_getD_getElem?]
    exact h
  unfold Oper.wp
  simp [execOp, ho, ev _ _ h0, ev _ _ h1, hr, Result.andThen]
  exact hk
theorem ldD_run {w : World} {p : Addr} {x : Option Addr} {n c : Nat} (h : w.cell? p = some (.slice x n c)) : (Instr.loadAt 28 (.pointer (some p))).run Tryz.prog w = .ok (.agg #[.slice x n c]) w := by
  go_simp
theorem ldT_run {w : World} {p : Addr} {x : Option Addr} {n c : Nat} (h : w.cell? p = some (.slice x n c)) : (Instr.loadAt 30 (.pointer (some p))).run Tryz.prog w = .ok (.slice x n c) w := by
  go_simp
theorem ldA_run {w : World} {p : Addr} {x : Option Addr} {n c : Nat} (h : w.cell? p = some (.slice x n c)) : (Instr.loadAt 31 (.pointer (some p))).run Tryz.prog w = .ok (.slice x n c) w := by
  go_simp
theorem stD_run {w : World} {p : Addr} {u : Value} {x : Option Addr} {n c : Nat} (h : w.cell? p = some u) (hf : w.frozen? p = false) : (Instr.storeAt 28 (.pointer (some p)) (.agg #[.slice x n c])).run Tryz.prog w = .ok () (w.setCell p (.slice x n c)) := by
  go_simp
theorem stV_run {w : World} {p : Addr} {u : Value} {x : Option Addr} {n c : Nat} (h : w.cell? p = some u) (hf : w.frozen? p = false) : (Instr.storeAt 29 (.pointer (some p)) (.slice x n c)).run Tryz.prog w = .ok () (w.setCell p (.slice x n c)) := by
  go_simp
theorem stT_run {w : World} {p : Addr} {u : Value} {x : Option Addr} {n c : Nat} (h : w.cell? p = some u) (hf : w.frozen? p = false) : (Instr.storeAt 30 (.pointer (some p)) (.slice x n c)).run Tryz.prog w = .ok () (w.setCell p (.slice x n c)) := by
  go_simp
theorem stA_run {w : World} {p : Addr} {u : Value} {x : Option Addr} {n c : Nat} (h : w.cell? p = some u) (hf : w.frozen? p = false) : (Instr.storeAt 31 (.pointer (some p)) (.slice x n c)).run Tryz.prog w = .ok () (w.setCell p (.slice x n c)) := by
  go_simp
theorem step_impl_diskCopy {w : World} {ops : Array Oper} {o : Oper} {a : Act} {K : Act → World → Prop} {Q : Exit → Act → World → Prop} {E : Prop} (hw : Region.wanted o (yielded ops a.tmps) = true) (i0 : Nat) (ts : Array TypeId) (ho : o.op = .call { callee := .value (.func 31), args := #[.tmp i0], argTypes := ts }) (v0 : Value) (P : Value → World → Prop) (h0 : a.tmps[i0]?.getD undef = v0)
    (hC : Calls Tryz.prog 31 #[v0] w fun e w' => ∃ r, e = .returned r ∧ P r w') (hk : ∀ r w', P r w' → K (a.put o.dst r) w') : if Region.wanted o (yielded ops a.tmps) = true then Oper.wp Tryz.prog o a w K Q else E := by
  rw [if_pos hw]
  unfold Oper.wp
  unfold execOp
  rw [ho]
  go_simp
  refine hC.mono ?_
  rintro e w' ⟨r, rfl, hp⟩
  exact hk r w' hp
theorem step_impl_changesCopy {w : World} {ops : Array Oper} {o : Oper} {a : Act} {K : Act → World → Prop} {Q : Exit → Act → World → Prop} {E : Prop} (hw : Region.wanted o (yielded ops a.tmps) = true) (i0 : Nat) (ts : Array TypeId) (ho : o.op = .call { callee := .value (.func 97), args := #[.tmp i0], argTypes := ts }) (v0 : Value) (P : Value → World → Prop) (h0 : a.tmps[i0]?.getD undef = v0)
    (hC : Calls Tryz.prog 97 #[v0] w fun e w' => ∃ r, e = .returned r ∧ P r w') (hk : ∀ r w', P r w' → K (a.put o.dst r) w') : if Region.wanted o (yielded ops a.tmps) = true then Oper.wp Tryz.prog o a w K Q else E := by
  rw [if_pos hw]
  unfold Oper.wp
  unfold execOp
  rw [ho]
  go_simp
  refine hC.mono ?_
  rintro e w' ⟨r, rfl, hp⟩
  exact hk r w' hp
theorem step_slices_Clone {w : World} {ops : Array Oper} {o : Oper} {a : Act} {K : Act → World → Prop} {Q : Exit → Act → World → Prop} {E : Prop} (hw : Region.wanted o (yielded ops a.tmps) = true) (i0 : Nat) (ts : Array TypeId) (ho : o.op = .call { callee := .value (.func 96), args := #[.tmp i0], argTypes := ts }) (v0 : Value) (P : Value → World → Prop) (h0 : a.tmps[i0]?.getD undef = v0)
    (hC : Calls Tryz.prog 96 #[v0] w fun e w' => ∃ r, e = .returned r ∧ P r w') (hk : ∀ r w', P r w' → K (a.put o.dst r) w') : if Region.wanted o (yielded ops a.tmps) = true then Oper.wp Tryz.prog o a w K Q else E := by
  rw [if_pos hw]
  unfold Oper.wp
  unfold execOp
  rw [ho]
  go_simp
  refine hC.mono ?_
  rintro e w' ⟨r, rfl, hp⟩
  exact hk r w' hp

set_option maxRecDepth 100000 in
set_option maxHeartbeats 400000 in
theorem leavesCopy_lt (v : Value) (ga oa : Nat) (l : List Le) (w : World) (hv : RS 2 lcs w v ga oa l) (hsm : SmallL l) :
    Calls Tryz.prog 95 #[v] w fun e w' => ∃ g, e = .returned (.slice (some ⟨g, 0, none⟩) l.length l.length) ∧ w.heap.size ≤ g ∧ g < w'.heap.size ∧ RW 2 lcs w' (.slice (some ⟨g, 0, none⟩) l.length l.length) g l ∧ Below w.heap.size w w' := by
  have HV : Hid (RS 2 lcs w v ga oa l ∧ SmallL l) := ⟨hv, hsm⟩
  obtain ⟨a, cap, rfl, hl, hA, hc⟩ := hv
  obtain ⟨n, hn⟩ : ∃ n, l.length = n := ⟨_, rfl⟩
  obtain ⟨w2, hmk, hib, hb2, hs2⟩ := made_leaves n (by omega) w
  have HST : Hid (ToL w l w.heap.size w.heap.size (.int .i64 0) w2 ∧ w.heap.size < w2.heap.size) := ⟨⟨0, by omega, rfl, fun j _ h => by omega, by rw [hn]; exact hib, hb2⟩, by omega⟩
  have HA : Hid (0 < n → a = some ⟨ga, oa, none⟩) := by rw [← hn]; exact fun h => (hA h).1
  rw [hn] at hl ⊢
  clear hib hb2 hs2 hA hc hsm
  go_enter Tryz.func95, Tryz.ntmps95
  go_wp2
  clear hmk
  go_loopw [11] (fun i wr => ToL w l w.heap.size w.heap.size i wr ∧ w.heap.size < wr.heap.size) (fun i _ => n - (intOf i).toNat)
  case atStart => exact HST.out
  case round =>
    obtain ⟨⟨m, hm, rfl, h1, h2, hbel⟩, hws⟩ := hrel
    have HI : Hid ((∀ j (h : j < l.length), j < m → wr.rangeAt w.heap.size (j * 2) (lcs l[j])) ∧ (∀ j, j < l.length → wr.there w.heap.size (j * 2) 2) ∧ Below w.heap.size w wr) := ⟨h1, h2, hbel⟩
    clear HST h1 h2 hbel
    rw [hn] at hm
    by_cases hlt : m < n
    · have ea := HA.out (by omega)
      subst ea
      obtain ⟨c0, c1⟩ := (HV.out.1.later HI.out.2.2).leaf m (by omega)
      obtain ⟨X, hX⟩ : ∃ X, l[m]'(by omega) = X := ⟨_, rfl⟩
      rw [hX] at c0 c1
      have hxs := HV.out.2 X (by rw [← hX]; exact List.getElem_mem _)
      have HX : Hid (l[m]'(by omega) = X) := hX
      have i1 : (m : Int) < (n : Int) := by omega
      have i2 : (0 : Int) ≤ (m : Int) := by omega
      have hba : Below wr.heap.size wr (wr.alloc (.cells #[.string X.n, .string X.v] 134)) := (Below.refl _ _).alloc (Nat.le_refl _) _
      clear hX HV HA
      go_wp2_with fail
      refine (copiedL_any X _ hxs.1 hxs.2).mono ?_
      rintro e w1 ⟨rfl, hb1'⟩
      have hb1 : Below wr.heap.size wr w1 := hba.trans (hb1'.mono hba.size)
      have HJ : Hid ((∀ j (h : j < l.length), j < m + 1 → (w1.setCells w.heap.size (m * 2) (lcs X)).rangeAt w.heap.size (j * 2) (lcs l[j])) ∧ (∀ j, j < l.length → (w1.setCells w.heap.size (m * 2) (lcs X)).there w.heap.size (j * 2) 2) ∧ Below w.heap.size w (w1.setCells w.heap.size (m * 2) (lcs X))) := by
        have h := ToL.set (w := w) (wr := w1) (l := l) (g := w.heap.size) (m := m) (B := w.heap.size) (by omega) (Nat.le_refl _) (fun j hj h => range_kept (HI.out.1 j hj h) (hb1.block _ hws)) (fun j hj => there_kept (HI.out.2.1 j hj) (hb1.block _ hws)) (HI.out.2.2.trans (hb1.mono HI.out.2.2.size))
        rw [HX.out] at h
        exact h
      have HT : Hid (w1.there w.heap.size (m * 2) 2) := there_kept (HI.out.2.1 m (by omega)) (hb1.block _ hws)
      have hws1 : w.heap.size < (w1.setCells w.heap.size (m * 2) (lcs X)).heap.size := by rw [size_setCells]; exact Nat.lt_of_lt_of_le hws hb1.size
      clear hb1 hb1' hba HI c0 c1 hxs
      obtain ⟨⟨o0, x0⟩, ⟨o1, x1⟩, f0, f1⟩ := there2 HT.out
      go_wp2
      go_roundw
      case rel => exact ⟨⟨m + 1, by omega, by go_num, HJ.out⟩, hws1⟩
      case measure => simp [intOf]; omega
    · have hme : m = n := by omega
      subst hme
      clear HV HA
      go_wp2
      go_ret
      refine ⟨w.heap.size, rfl, Nat.le_refl _, hws, ⟨⟨_, _, by rw [hn], by omega, fun _ => ⟨rfl, hws⟩, fun j hj => ?_⟩, HI.out.2.1⟩, HI.out.2.2⟩
      rw [Nat.zero_add]
      exact HI.out.1 j hj (by omega)

theorem svd_of {lo hi w1 w2 w3 w4 : Nat} {W : World} {vd vt va : Value} {go n c : Nat} {G : List Nat} {L : Sr} {g1 g3 g4 : Nat} (hX : XW lo W go G L.P) (hn : L.P.length = n) (hg : go < w1) (hG : ∀ b ∈ G, b < w1) (h1 : RW 3 fcs W vd g1 L.F) (l1 : w1 ≤ g1) (u1 : 0 < L.F.length → g1 < w2) (h3 : IW W vt g3 L.I) (l3 : w2 ≤ g3) (u3 : 0 < L.I.length → g3 < w3) (h4 : RW 3 ucs W va g4 L.U) (l4 : w3 ≤ g4) (u4 : 0 < L.U.length → g4 < w4) (hw12 : w1 ≤ w2) (hw23 : w2 ≤ w3) (hw34 : w3 ≤ w4) (hlo : lo ≤ w1) (hhi : w4 ≤ hi) :
    SvD lo hi W vd (.slice (some ⟨go, 0, none⟩) n c) vt va L := by
  have hv := hX.vw (c := c) hn
  obtain ⟨x1, x2, x3, x4, x5, x6, x7⟩ := hX
  have hgd : ∀ j (hj : j < L.P.length), lo ≤ G.getD j 0 ∧ G.getD j 0 < w1 := fun j hj => by
    have e : G.getD j 0 = G[j]'(by omega) := by simp [List.getD, List.getElem?_eq_getElem (show j < G.length by omega)]
    rw [e]
    exact ⟨(x6 _ (List.getElem_mem _)).1, hG _ (List.getElem_mem _)⟩
  refine ⟨g1, go, _, _, g3, g4, h1, hv, h3, h4, fun h => ?_, fun h => ?_, fun j hj h => ?_, fun h => ?_, fun h => ?_, fun h k => ?_, fun h j hj k => ?_, fun h k => ?_, fun h k => ?_, fun h k => ?_, fun h k => ?_, fun j hj h k => ?_, fun j hj h k => ?_, fun h k => ?_⟩
  · have := u1 h; omega
  · omega
  · have := hgd j hj; simp only; omega
  · have := u3 h; omega
  · have := u4 h; omega
  · omega
  · have := hgd j hj; simp only; omega
  · have := u1 h; omega
  · have := u1 h; omega
  · omega
  · omega
  · have := hgd j hj; simp only; omega
  · have := hgd j hj; simp only; omega
  · have := u3 h; omega

set_option maxRecDepth 100000 in
set_option maxHeartbeats 4000000 in
theorem Copied_any (n : Sn) (vd vv vt va : Value) (L : Sr) (w : World) (hM : SvS w vd vv vt va L) (hsm : L.sm) :
    Calls Tryz.prog 55 #[.agg #[.int .i64 n.a, .int .i64 n.k, .bool n.u, vd, .int .i64 n.e, vv, vt, va, .int .i64 n.r0, .int .i64 n.r1, .int .i64 n.r2]] w (SvA n L w) := by
  have HDC : Hid (∀ W, Below w.heap.size w W → Calls Tryz.prog 31 #[.agg #[vd]] W fun e w' => ∃ a c g, e = .returned (.agg #[.slice a L.F.length c]) ∧ RW 3 fcs w' (.slice a L.F.length c) g L.F ∧ W.heap.size ≤ g ∧ Below W.heap.size W w') := fun W hW => by
    obtain ⟨⟨g1, o1, h1⟩, _⟩ := hM.later hW
    refine (diskCopy_any vd g1 o1 L.F W h1 hsm.1.1).mono ?_
    rintro e w' ⟨u, rfl, ⟨s, g, rfl, hr, hg⟩, hb⟩
    obtain ⟨a, c, rfl⟩ := hr.1.shape
    exact ⟨a, c, g, rfl, hr, hg, hb⟩
  have HCL : Hid (∀ W, Below w.heap.size w W → Calls Tryz.prog 96 #[vt] W fun e w' => ∃ a c g, e = .returned (.slice a L.I.length c) ∧ IW w' (.slice a L.I.length c) g L.I ∧ W.heap.size ≤ g ∧ Below W.heap.size W w') := fun W hW => by
    obtain ⟨_, _, ⟨g1, o1, h1⟩, _⟩ := hM.later hW
    refine (CloneI_any vt g1 o1 L.I W h1).mono ?_
    rintro e w' ⟨u, rfl, ho⟩
    obtain ⟨a, c, rfl⟩ := OR.shapeJ ho
    obtain ⟨g, hr, hg, _⟩ := OR.rw (k := 1) (enc := ics) (fun _ => rfl) (by omega) ho h1.len
    exact ⟨a, c, g, rfl, hr.iw, hg, ho.2.1⟩
  have HCC : Hid (∀ W, Below w.heap.size w W → Calls Tryz.prog 97 #[va] W fun e w' => ∃ g, e = .returned (.slice (some ⟨g, 0, none⟩) L.U.length L.U.length) ∧ RW 3 ucs w' (.slice (some ⟨g, 0, none⟩) L.U.length L.U.length) g L.U ∧ W.heap.size ≤ g ∧ Below W.heap.size W w') := fun W hW => by
    obtain ⟨_, _, _, ⟨g1, o1, h1⟩⟩ := hM.later hW
    exact (changesCopy_any va g1 o1 L.U W h1 hsm.2.2.2.1).mono fun e w' ⟨g, h1, h2, h3, h4⟩ => ⟨g, h1, h3, h2, h4⟩
  obtain ⟨_, ⟨gp, op, hps⟩, _, _⟩ := id hM
  have HPS : Hid (PS w vv gp op L.P ∧ SmallP L.P) := ⟨hps, hsm.2.1.1⟩
  have hpl : L.P.length ≤ 1100000 := by obtain ⟨_, _, _, h, _⟩ := hps; exact h
  obtain ⟨⟨xd, xe, rfl⟩, ⟨xv, xw, rfl⟩, ⟨xt, xu, rfl⟩, ⟨xa, xb, rfl⟩⟩ := hM.shapes
  obtain ⟨md, hmd⟩ : ∃ md, L.F.length = md := ⟨_, rfl⟩
  obtain ⟨mv, hmv⟩ : ∃ mv, L.P.length = mv := ⟨_, rfl⟩
  obtain ⟨mt, hmt⟩ : ∃ mt, L.I.length = mt := ⟨_, rfl⟩
  obtain ⟨ma, hma⟩ : ∃ ma, L.U.length = ma := ⟨_, rfl⟩
  have HN : Hid (L.F.length = md ∧ L.P.length = mv ∧ L.I.length = mt ∧ L.U.length = ma) := ⟨hmd, hmv, hmt, hma⟩
  unfold SvA
  rw [hmd, hmv, hmt, hma]
  rw [hmd] at HDC
  rw [hmv] at HPS hpl
  rw [hmt] at HCL
  rw [hma] at HCC
  have HA : Hid (0 < mv → xv = some ⟨gp, op, none⟩) := by
    obtain ⟨a, c, e, _, h, _⟩ := hps
    rw [hmv] at e h
    simp only [Value.slice.injEq] at e
    exact fun h0 => e.1.trans (h h0).1
  clear hM hps hsm hmd hmt hma
  obtain ⟨w2, cur, hmk, hcur, hcs, hb2, hs2⟩ := made_parts mv hpl ((w.alloc (.cells #[.int .i64 n.a, .int .i64 n.k, .bool n.u, .slice xd md xe, .int .i64 n.e, .slice xv mv xw, .slice xt mt xu, .slice xa ma xb, .int .i64 n.r0, .int .i64 n.r1, .int .i64 n.r2] 35)).alloc (.cells #[.int .i64 0, .int .i64 0, .bool false, .slice none 0 0, .int .i64 0, .slice none 0 0, .slice none 0 0, .slice none 0 0, .int .i64 0, .int .i64 0, .int .i64 0] 35))
  have es : ((w.alloc (.cells #[.int .i64 n.a, .int .i64 n.k, .bool n.u, .slice xd md xe, .int .i64 n.e, .slice xv mv xw, .slice xt mt xu, .slice xa ma xb, .int .i64 n.r0, .int .i64 n.r1, .int .i64 n.r2] 35)).alloc (.cells #[.int .i64 0, .int .i64 0, .bool false, .slice none 0 0, .int .i64 0, .slice none 0 0, .slice none 0 0, .slice none 0 0, .int .i64 0, .int .i64 0, .int .i64 0] 35)).heap.size = w.heap.size + 1 + 1 := by simp
  have HX : Hid (Below w.heap.size w ((w.alloc (.cells #[.int .i64 n.a, .int .i64 n.k, .bool n.u, .slice xd md xe, .int .i64 n.e, .slice xv mv xw, .slice xt mt xu, .slice xa ma xb, .int .i64 n.r0, .int .i64 n.r1, .int .i64 n.r2] 35)).alloc (.cells #[.int .i64 0, .int .i64 0, .bool false, .slice none 0 0, .int .i64 0, .slice none 0 0, .slice none 0 0, .slice none 0 0, .int .i64 0, .int .i64 0, .int .i64 0] 35)) ∧ Box 35 ((w.alloc (.cells #[.int .i64 n.a, .int .i64 n.k, .bool n.u, .slice xd md xe, .int .i64 n.e, .slice xv mv xw, .slice xt mt xu, .slice xa ma xb, .int .i64 n.r0, .int .i64 n.r1, .int .i64 n.r2] 35)).alloc (.cells #[.int .i64 0, .int .i64 0, .bool false, .slice none 0 0, .int .i64 0, .slice none 0 0, .slice none 0 0, .slice none 0 0, .int .i64 0, .int .i64 0, .int .i64 0] 35)) w.heap.size [.int .i64 n.a, .int .i64 n.k, .bool n.u, .slice xd md xe, .int .i64 n.e, .slice xv mv xw, .slice xt mt xu, .slice xa ma xb, .int .i64 n.r0, .int .i64 n.r1, .int .i64 n.r2] ∧ Box 35 ((w.alloc (.cells #[.int .i64 n.a, .int .i64 n.k, .bool n.u, .slice xd md xe, .int .i64 n.e, .slice xv mv xw, .slice xt mt xu, .slice xa ma xb, .int .i64 n.r0, .int .i64 n.r1, .int .i64 n.r2] 35)).alloc (.cells #[.int .i64 0, .int .i64 0, .bool false, .slice none 0 0, .int .i64 0, .slice none 0 0, .slice none 0 0, .slice none 0 0, .int .i64 0, .int .i64 0, .int .i64 0] 35)) (w.heap.size + 1) [.int .i64 0, .int .i64 0, .bool false, .slice none 0 0, .int .i64 0, .slice none 0 0, .slice none 0 0, .slice none 0 0, .int .i64 0, .int .i64 0, .int .i64 0]) := ⟨below_two _ _ _, (Box.new _ w [.int .i64 n.a, .int .i64 n.k, .bool n.u, .slice xd md xe, .int .i64 n.e, .slice xv mv xw, .slice xt mt xu, .slice xa ma xb, .int .i64 n.r0, .int .i64 n.r1, .int .i64 n.r2]).later (below_alloc _ _), by
    have h := Box.new 35 (w.alloc (.cells #[.int .i64 n.a, .int .i64 n.k, .bool n.u, .slice xd md xe, .int .i64 n.e, .slice xv mv xw, .slice xt mt xu, .slice xa ma xb, .int .i64 n.r0, .int .i64 n.r1, .int .i64 n.r2] 35)) [.int .i64 0, .int .i64 0, .bool false, .slice none 0 0, .int .i64 0, .slice none 0 0, .slice none 0 0, .slice none 0 0, .int .i64 0, .int .i64 0, .int .i64 0]
    have e : (w.alloc (.cells #[.int .i64 n.a, .int .i64 n.k, .bool n.u, .slice xd md xe, .int .i64 n.e, .slice xv mv xw, .slice xt mt xu, .slice xa ma xb, .int .i64 n.r0, .int .i64 n.r1, .int .i64 n.r2] 35)).heap.size = w.heap.size + 1 := by simp
    rw [e] at h
    exact h⟩
  have HST : Hid (ToX ((w.alloc (.cells #[.int .i64 n.a, .int .i64 n.k, .bool n.u, .slice xd md xe, .int .i64 n.e, .slice xv mv xw, .slice xt mt xu, .slice xa ma xb, .int .i64 n.r0, .int .i64 n.r1, .int .i64 n.r2] 35)).alloc (.cells #[.int .i64 0, .int .i64 0, .bool false, .slice none 0 0, .int .i64 0, .slice none 0 0, .slice none 0 0, .slice none 0 0, .int .i64 0, .int .i64 0, .int .i64 0] 35)) L.P ((w.alloc (.cells #[.int .i64 n.a, .int .i64 n.k, .bool n.u, .slice xd md xe, .int .i64 n.e, .slice xv mv xw, .slice xt mt xu, .slice xa ma xb, .int .i64 n.r0, .int .i64 n.r1, .int .i64 n.r2] 35)).alloc (.cells #[.int .i64 0, .int .i64 0, .bool false, .slice none 0 0, .int .i64 0, .slice none 0 0, .slice none 0 0, .slice none 0 0, .int .i64 0, .int .i64 0, .int .i64 0] 35)).heap.size (.int .i64 0) w2 ∧ ((w.alloc (.cells #[.int .i64 n.a, .int .i64 n.k, .bool n.u, .slice xd md xe, .int .i64 n.e, .slice xv mv xw, .slice xt mt xu, .slice xa ma xb, .int .i64 n.r0, .int .i64 n.r1, .int .i64 n.r2] 35)).alloc (.cells #[.int .i64 0, .int .i64 0, .bool false, .slice none 0 0, .int .i64 0, .slice none 0 0, .slice none 0 0, .slice none 0 0, .int .i64 0, .int .i64 0, .int .i64 0] 35)).heap.size = w.heap.size + 1 + 1) := ⟨⟨0, [], cur, by omega, rfl, ⟨rfl, by simp, Nat.le_refl _, by omega, List.Pairwise.nil, fun b hb => absurd hb (by simp), fun j hj => absurd hj (by simp)⟩, hcur, by rw [hcs, hmv], hb2⟩, es⟩
  have z5 : w2.cell? ⟨w.heap.size, 5, none⟩ = some (.slice xv mv xw) := (HX.out.2.1.later hb2).at 5 _ rfl
  rw [es] at hmk
  clear hcur hcs hb2 hs2 es
  go_enter Tryz.func55, Tryz.ntmps55
  go_wp2
  clear hmk z5
  generalize ((w.alloc (.cells #[.int .i64 n.a, .int .i64 n.k, .bool n.u, .slice xd md xe, .int .i64 n.e, .slice xv mv xw, .slice xt mt xu, .slice xa ma xb, .int .i64 n.r0, .int .i64 n.r1, .int .i64 n.r2] 35)).alloc (.cells #[.int .i64 0, .int .i64 0, .bool false, .slice none 0 0, .int .i64 0, .slice none 0 0, .slice none 0 0, .slice none 0 0, .int .i64 0, .int .i64 0, .int .i64 0] 35)) = W0 at *
  have HPV : Hid (∀ W, Below W0.heap.size W0 W → PS W (.slice xv mv xw) gp op L.P ∧ SmallP L.P) := fun W hW => ⟨HPS.out.1.later (HX.out.1.trans (hW.mono HX.out.1.size)), HPS.out.2⟩
  have HBL : Hid (∀ W, Below W0.heap.size W0 W → Below w.heap.size w W ∧ Box 35 W w.heap.size [.int .i64 n.a, .int .i64 n.k, .bool n.u, .slice xd md xe, .int .i64 n.e, .slice xv mv xw, .slice xt mt xu, .slice xa ma xb, .int .i64 n.r0, .int .i64 n.r1, .int .i64 n.r2] ∧ Box 35 W (w.heap.size + 1) [.int .i64 0, .int .i64 0, .bool false, .slice none 0 0, .int .i64 0, .slice none 0 0, .slice none 0 0, .slice none 0 0, .int .i64 0, .int .i64 0, .int .i64 0]) := fun W hW => ⟨HX.out.1.trans (hW.mono HX.out.1.size), HX.out.2.1.later hW, HX.out.2.2.later hW⟩
  have HW0 : Hid (W0.heap.size = w.heap.size + 1 + 1) := HST.out.2
  have HST2 : Hid (ToX W0 L.P (w.heap.size + 1 + 1) (.int .i64 0) w2) := by have h := HST.out.1; rw [HW0.out] at h; exact h
  clear HST HX HPS
  go_loopw [13] (fun i wr => ToX W0 L.P (w.heap.size + 1 + 1) i wr) (fun i _ => mv - (intOf i).toNat)
  case atStart => exact HST2.out
  case round =>
    obtain ⟨m, G, cur, hm, rfl, HI⟩ := hrel
    clear HST2
    rw [HN.out.2.1] at hm
    by_cases hlt : m < mv
    · have ea := HA.out (by omega)
      subst ea
      have hmP : m < L.P.length := by rw [HN.out.2.1]; exact hlt
      have hbel := HI.out.2.2.2
      obtain ⟨aj, cj, gj, oj, c0, hrj⟩ := (HPV.out wr hbel).1.at m hmP
      have i1 : (m : Int) < (mv : Int) := by omega
      have i2 : (0 : Int) ≤ (m : Int) := by omega
      have hto := leavesCopy_lt _ gj oj L.P[m] wr hrj ((HPV.out wr hbel).2 _ (List.getElem_mem _))
      have HADD : Hid (∀ W q, Below wr.heap.size wr W → wr.heap.size ≤ q → q < W.heap.size → RW 2 lcs W (.slice (some ⟨q, 0, none⟩) L.P[m].length L.P[m].length) q L.P[m] → (∃ u, W.cell? ⟨w.heap.size + 1 + 1, m, none⟩ = some u) ∧ W.frozen? ⟨w.heap.size + 1 + 1, m, none⟩ = false ∧ ToX W0 L.P (w.heap.size + 1 + 1) (.int .i64 ((m : Int) + 1)) (W.setCell ⟨w.heap.size + 1 + 1, m, none⟩ (.slice (some ⟨q, 0, none⟩) L.P[m].length L.P[m].length))) := fun W q hW hq1 hq2 hr => by
        have hx := HI.out.1.later hW
        have hc := (hW.block (w.heap.size + 1 + 1) HI.out.1.2.2.2.1).trans HI.out.2.1
        have hgo' := HI.out.1.2.2.2.1
        have hbs := hbel.size
        have h0 := HW0.out
        refine ⟨⟨cur[m]'(by rw [HI.out.2.2.1]; exact hmP), ?_⟩, by simp [World.frozen?, hc], m + 1, G ++ [q], _, by omega, by simp, hx.add hmP (by rw [HN.out.2.1]; exact hpl) hc HI.out.2.2.1 hr ⟨by omega, hq2, by omega⟩ (fun b hb => by have := (HI.out.1.2.2.2.2.2.1 b hb).2.1; omega), heap_setCell_same W (w.heap.size + 1 + 1) m cur _ _ hc, by simpa using HI.out.2.2.1, (hbel.trans (hW.mono hbel.size)).setCell (p := ⟨w.heap.size + 1 + 1, m, none⟩) (by show W0.heap.size ≤ w.heap.size + 1 + 1; omega) _⟩
        rw [cell_of_row _ (w.heap.size + 1 + 1) m _ _ _ hc, Array.getElem?_eq_getElem]
      generalize L.P[m] = p at *
      generalize p.length = np at *
      clear HI hrj HPV HDC HCL HCC HBL hmP
      go_wp2_with fail
      refine hto.mono ?_
      rintro e w1 ⟨q1, rfl, hq1, hql1, hr1, hb1⟩
      obtain ⟨⟨u1, c1⟩, f1, hx1⟩ := HADD.out w1 q1 hb1 hq1 hql1 hr1
      have HK : Hid (ToX W0 L.P (w.heap.size + 1 + 1) (.int .i64 ((m : Int) + 1)) (w1.setCell ⟨w.heap.size + 1 + 1, m, none⟩ (.slice (some ⟨q1, 0, none⟩) np np))) := hx1
      clear hto HADD hx1 hb1 hr1
      go_wp2
      go_roundw
      case rel => exact HK.out
      case measure => simp [intOf]; omega
    · have hme : m = mv := by omega
      have e : L.P.take m = L.P := List.take_of_length_le (by rw [HN.out.2.1]; omega)
      rw [e] at HI
      have HF : Hid (XW W0.heap.size wr (w.heap.size + 1 + 1) G L.P ∧ Below W0.heap.size W0 wr) := ⟨HI.out.1, HI.out.2.2.2⟩
      have i1 : ¬ (m : Int) < (mv : Int) := by omega
      have HBX : Hid (Below w.heap.size w wr ∧ Box 35 wr w.heap.size [.int .i64 n.a, .int .i64 n.k, .bool n.u, .slice xd md xe, .int .i64 n.e, .slice xv mv xw, .slice xt mt xu, .slice xa ma xb, .int .i64 n.r0, .int .i64 n.r1, .int .i64 n.r2] ∧ Box 35 wr (w.heap.size + 1) [.int .i64 0, .int .i64 0, .bool false, .slice none 0 0, .int .i64 0, .slice none 0 0, .slice none 0 0, .slice none 0 0, .int .i64 0, .int .i64 0, .int .i64 0]) := HBL.out wr HI.out.2.2.2
      have HBB : Hid (∀ W, Below wr.heap.size wr W → Below w.heap.size w W ∧ Box 35 W w.heap.size [.int .i64 n.a, .int .i64 n.k, .bool n.u, .slice xd md xe, .int .i64 n.e, .slice xv mv xw, .slice xt mt xu, .slice xa ma xb, .int .i64 n.r0, .int .i64 n.r1, .int .i64 n.r2] ∧ Box 35 W (w.heap.size + 1) [.int .i64 0, .int .i64 0, .bool false, .slice none 0 0, .int .i64 0, .slice none 0 0, .slice none 0 0, .slice none 0 0, .int .i64 0, .int .i64 0, .int .i64 0]) := fun W hW => ⟨HBX.out.1.trans (hW.mono HBX.out.1.size), HBX.out.2.1.later hW, HBX.out.2.2.later hW⟩
      have HDC1 : Hid (∀ W, Below wr.heap.size wr W → Calls Tryz.prog 31 #[.agg #[.slice xd md xe]] W fun e w' => ∃ r, e = .returned r ∧ (∃ a c g, r = .agg #[.slice a md c] ∧ RW 3 fcs w' (.slice a md c) g L.F ∧ W.heap.size ≤ g ∧ Below W.heap.size W w')) := fun W hW => (HDC.out W (HBB.out W hW).1).mono fun e w' ⟨a, c, g, he, h⟩ => ⟨_, he, a, c, g, rfl, h⟩
      have HCL1 : Hid (∀ W, Below wr.heap.size wr W → Calls Tryz.prog 96 #[.slice xt mt xu] W fun e w' => ∃ r, e = .returned r ∧ (∃ a c g, r = .slice a mt c ∧ IW w' (.slice a mt c) g L.I ∧ W.heap.size ≤ g ∧ Below W.heap.size W w')) := fun W hW => (HCL.out W (HBB.out W hW).1).mono fun e w' ⟨a, c, g, he, h⟩ => ⟨_, he, a, c, g, rfl, h⟩
      have HCC1 : Hid (∀ W, Below wr.heap.size wr W → Calls Tryz.prog 97 #[.slice xa ma xb] W fun e w' => ∃ r, e = .returned r ∧ (∃ g, r = .slice (some ⟨g, 0, none⟩) ma ma ∧ RW 3 ucs w' (.slice (some ⟨g, 0, none⟩) ma ma) g L.U ∧ W.heap.size ≤ g ∧ Below W.heap.size W w')) := fun W hW => (HCC.out W (HBB.out W hW).1).mono fun e w' ⟨g, he, h⟩ => ⟨_, he, g, rfl, h⟩
      have hb0 : Below wr.heap.size wr wr.drew := (Below.refl _ _).drew
      have HSD : Hid (∀ X1 X2 X3 X4 a1 c1 g1 a3 c3 g3 g4, Below wr.heap.size wr X1 → RW 3 fcs X2 (.slice a1 md c1) g1 L.F → X1.heap.size ≤ g1 → Below X1.heap.size X1 X2 → IW X3 (.slice a3 mt c3) g3 L.I → X2.heap.size ≤ g3 → Below X2.heap.size X2 X3 → RW 3 ucs X4 (.slice (some ⟨g4, 0, none⟩) ma ma) g4 L.U → X3.heap.size ≤ g4 → Below X3.heap.size X3 X4 → SvD (w.heap.size + 1 + 1) X4.heap.size X4 (.slice a1 md c1) (.slice (some ⟨w.heap.size + 1 + 1, 0, none⟩) mv mv) (.slice a3 mt c3) (.slice (some ⟨g4, 0, none⟩) ma ma) L) := fun X1 X2 X3 X4 a1 c1 g1 a3 c3 g3 g4 b1 r1 l1 b2 r3 l3 b3 r4 l4 b4 => by
        have hx := HF.out.1
        rw [HW0.out] at hx
        have s0 := HF.out.2.size
        have s1 := b1.size
        have s2 := b2.size
        have s3 := b3.size
        have s4 := b4.size
        have hw := HW0.out
        have k1 := r1.lt
        have k3 := r3.lt
        have k4 := r4.lt
        have b14 := (b2.trans ((b3.trans (b4.mono b3.size)).mono b2.size))
        exact svd_of (w1 := X1.heap.size) (w2 := X2.heap.size) (w3 := X3.heap.size) (w4 := X4.heap.size) ((hx.later b1).later b14) HN.out.2.1 (by have := hx.2.2.2.1; omega) (fun b hb => by have := (hx.2.2.2.2.2.1 b hb).2.1; omega) ((r1.later b3).later b4) l1 k1 (r3.later b4) l3 k3 r4 l4 k4 s2 s3 s4 (by omega) (Nat.le_refl _)
      clear HI e HPV HBL HDC HCL HCC hme hm hmv HF HBX HA hpl
      go_wp2_with fail
      clear i1
      refine wp_abs (fun a => FR 39 a [(1, .pointer (some ⟨w.heap.size, 0, none⟩)), (2, .pointer (some ⟨w.heap.size + 1, 0, none⟩)), (3, .slice (some ⟨w.heap.size + 1 + 1, 0, none⟩) mv mv)]) ⟨rfl, rfl, fun p hp => by simp only [List.mem_cons, List.not_mem_nil, or_false] at hp; rcases hp with rfl | rfl | rfl <;> rfl⟩ (fun a F => ?_)
      generalize hQ : Exit.then _ _ = QQ
      have HEND : Hid (∀ a X vd2 vt2 va2 (ad cd at2 ct aa ca), vd2 = Value.slice ad md cd → vt2 = Value.slice at2 mt ct → va2 = Value.slice aa ma ca → FR 39 a [(1, .pointer (some ⟨w.heap.size, 0, none⟩)), (2, .pointer (some ⟨w.heap.size + 1, 0, none⟩))] → Below wr.heap.size wr X → SvD (w.heap.size + 1 + 1) X.heap.size X vd2 (.slice (some ⟨w.heap.size + 1 + 1, 0, none⟩) mv mv) vt2 va2 L → QQ .normal a ((((X.setCell ⟨w.heap.size, 3, none⟩ vd2).setCell ⟨w.heap.size, 5, none⟩ (.slice (some ⟨w.heap.size + 1 + 1, 0, none⟩) mv mv)).setCell ⟨w.heap.size, 6, none⟩ vt2).setCell ⟨w.heap.size, 7, none⟩ va2)) := by
        rintro a X _ _ _ ad cd at2 ct aa ca rfl rfl rfl F hb hsd
        rw [← hQ]
        obtain ⟨q1, q2, q3⟩ := HBB.out X hb
        have hg : X.grownBy ((((X.setCell ⟨w.heap.size, 3, none⟩ (.slice ad md cd)).setCell ⟨w.heap.size, 5, none⟩ (.slice (some ⟨w.heap.size + 1 + 1, 0, none⟩) mv mv)).setCell ⟨w.heap.size, 6, none⟩ (.slice at2 mt ct)).setCell ⟨w.heap.size, 7, none⟩ (.slice aa ma ca)) (some w.heap.size) := (((grown_setC X _ 3 _).trans (grown_setC _ _ 5 _)).trans (grown_setC _ _ 6 _)).trans (grown_setC _ _ 7 _)
        have HM : Hid (Box 35 ((((X.setCell ⟨w.heap.size, 3, none⟩ (.slice ad md cd)).setCell ⟨w.heap.size, 5, none⟩ (.slice (some ⟨w.heap.size + 1 + 1, 0, none⟩) mv mv)).setCell ⟨w.heap.size, 6, none⟩ (.slice at2 mt ct)).setCell ⟨w.heap.size, 7, none⟩ (.slice aa ma ca)) w.heap.size [.int .i64 n.a, .int .i64 n.k, .bool n.u, .slice ad md cd, .int .i64 n.e, .slice (some ⟨w.heap.size + 1 + 1, 0, none⟩) mv mv, .slice at2 mt ct, .slice aa ma ca, .int .i64 n.r0, .int .i64 n.r1, .int .i64 n.r2]) := (((q2.set 3 _).set 5 _).set 6 _).set 7 _
        have HR : Hid (Box 35 _ (w.heap.size + 1) [.int .i64 0, .int .i64 0, .bool false, .slice none 0 0, .int .i64 0, .slice none 0 0, .slice none 0 0, .slice none 0 0, .int .i64 0, .int .i64 0, .int .i64 0]) := q3.grown hg (by simp)
        have HD := hsd.kept hg (by omega)
        have HB : Below w.heap.size w _ := q1.grown hg q1.size (fun k hk => by simp at hk; omega)
        have hsz := hg.size
        generalize ((((X.setCell ⟨w.heap.size, 3, none⟩ (.slice ad md cd)).setCell ⟨w.heap.size, 5, none⟩ (.slice (some ⟨w.heap.size + 1 + 1, 0, none⟩) mv mv)).setCell ⟨w.heap.size, 6, none⟩ (.slice at2 mt ct)).setCell ⟨w.heap.size, 7, none⟩ (.slice aa ma ca)) = Y at *
        have HF2 : Hid (∀ W, Y.grownBy W (some (w.heap.size + 1)) → SvD w.heap.size W.heap.size W (.slice ad md cd) (.slice (some ⟨w.heap.size + 1 + 1, 0, none⟩) mv mv) (.slice at2 mt ct) (.slice aa ma ca) L ∧ Below w.heap.size w W) := fun W h2 => by
          have s2 := h2.size
          exact ⟨(HD.kept h2 (by omega)).wide (by omega) (by omega), HB.grown h2 HB.size (fun k hk => by simp at hk; omega)⟩
        obtain ⟨at0, ad0⟩ := a
        obtain rfl : ad0 = [] := F.2.1
        have F2 : FR 39 ((⟨at0, []⟩ : Act).put (some 38) (.agg #[.int .i64 n.a, .int .i64 n.k, .bool n.u, .slice ad md cd, .int .i64 n.e, .slice (some ⟨w.heap.size + 1 + 1, 0, none⟩) mv mv, .slice at2 mt ct, .slice aa ma ca, .int .i64 n.r0, .int .i64 n.r1, .int .i64 n.r2])) _ := F.put 38 _ (by decide) (by simp)
        clear hsd hb hg HD HB HBB HDC1 HCL1 HCC1 HSD q1 q2 q3 hsz
        go_wp2_with (first | (refine wp_loadSrv rfl _ rfl w.heap.size (F.eval 1 _ (by simp)) HM.out ?_) | (refine wp_storeSrv rfl _ _ rfl (w.heap.size + 1) _ _ _ _ _ _ _ _ _ _ _ HR.out (F2.eval 2 _ (by simp)) (F2.eval 38 (.agg #[.int .i64 n.a, .int .i64 n.k, .bool n.u, .slice ad md cd, .int .i64 n.e, .slice (some ⟨w.heap.size + 1 + 1, 0, none⟩) mv mv, .slice at2 mt ct, .slice aa ma ca, .int .i64 n.r0, .int .i64 n.r1, .int .i64 n.r2]) (by simp)) ⟨rfl, rfl, rfl, rfl, rfl, rfl, rfl, rfl, rfl, rfl, rfl⟩ ?_; intro hfin))
        exact ret_srv 2 (w.heap.size + 1) rfl F2.2.1 (F2.eval 2 (.pointer (some ⟨w.heap.size + 1, 0, none⟩)) (by simp)) hfin ⟨ad, cd, _, mv, at2, ct, aa, ca, rfl, HF2.out _ (grown_setRowP _ _ _)⟩
      have HQP : Hid (∀ c a (d : Nat) v w, QQ (.panic c) (a.put (some d) v) w → QQ (.panic c) a w) := by rw [← hQ]; exact fun c a d v w h => h
      clear hQ
      refine wp_region_held_drew (S := fun _ => True) (by kernel_rfl) trivial (fun hH => ?_)
      have r1 := F.get 1 (.pointer (some ⟨w.heap.size, 0, none⟩)) (by simp)
      refine takeF (i := 0) (v := .pointer (some ⟨w.heap.size, 3, none⟩)) rfl (by kernel_rfl) (by kernel_rfl) (by kernel_rfl) (fun _ _ _ h => HQP.out _ _ _ _ _ h) (Or.inl ⟨by rfl, fun w hw => by go_simp⟩) hH 24 rfl F (by decide) (by simp) (fun a F => ?_)
      clear r1
      have r3 := F.get 3 (.slice (some ⟨w.heap.size + 1 + 1, 0, none⟩) mv mv) (by simp)
      refine takeF (i := 3) (v := .slice (some ⟨w.heap.size + 1 + 1, 0, none⟩) mv mv) rfl (by kernel_rfl) (by kernel_rfl) (by kernel_rfl) (fun _ _ _ h => HQP.out _ _ _ _ _ h) (Or.inl ⟨by rfl, fun w hw => by go_simp⟩) hH 27 rfl F (by decide) (by simp) (fun a F => ?_)
      clear r3
      have r1 := F.get 1 (.pointer (some ⟨w.heap.size, 0, none⟩)) (by simp)
      refine takeF (i := 4) (v := .pointer (some ⟨w.heap.size, 6, none⟩)) rfl (by kernel_rfl) (by kernel_rfl) (by kernel_rfl) (fun _ _ _ h => HQP.out _ _ _ _ _ h) (Or.inl ⟨by rfl, fun w hw => by go_simp⟩) hH 28 rfl F (by decide) (by simp) (fun a F => ?_)
      clear r1
      have r1 := F.get 1 (.pointer (some ⟨w.heap.size, 0, none⟩)) (by simp)
      refine takeF (i := 7) (v := .pointer (some ⟨w.heap.size, 7, none⟩)) rfl (by kernel_rfl) (by kernel_rfl) (by kernel_rfl) (fun _ _ _ h => HQP.out _ _ _ _ _ h) (Or.inl ⟨by rfl, fun w hw => by go_simp⟩) hH 31 rfl F (by decide) (by simp) (fun a F => ?_)
      clear r1
      refine wpAnyH_ready (rs := [1, 5, 8]) (by kernel_rfl) (by simp) ?_
      refine AllReadyH.cons rfl (fun K' hK' => ?_) (AllReadyH.cons rfl (fun K' hK' => ?_) (AllReadyH.cons rfl (fun K' hK' => ?_) AllReadyH.nil))
      · refine step_ldJ (by rfl) 24 _ rfl _ _ (F.get 24 _ (by simp)) (ldD_run ((HBB.out _ hb0).2.1.at 3 _ rfl)) ?_
        refine openK (v := .agg #[.slice xd md xe]) 25 rfl F (by decide) (by simp) (fun a F => ?_)
        refine hK'.out _ _ (trivial) (fun hH => ?_)
        refine wpAnyH_ready (rs := [2, 5, 8]) (by kernel_rfl) (by simp) ?_
        refine AllReadyH.cons rfl (fun K' hK' => ?_) (AllReadyH.cons rfl (fun K' hK' => ?_) (AllReadyH.cons rfl (fun K' hK' => ?_) AllReadyH.nil))
        · refine step_impl_diskCopy (by rfl) 25 _ rfl _ _ (F.get 25 _ (by simp)) (HDC1.out _ hb0) ?_
          rintro rv2 xwd ⟨ad, cd, gd, rfl, hrd, hgd, kbd⟩
          have hb2 := hb0.trans (kbd.mono hb0.size)
          refine openK (v := .agg #[.slice ad md cd]) 26 rfl F (by decide) (by simp) (fun a F => ?_)
          refine hK'.out _ _ (trivial) (fun hH => ?_)
          refine wpAnyH_ready (rs := [5, 8]) (by kernel_rfl) (by simp) ?_
          refine AllReadyH.cons rfl (fun K' hK' => ?_) (AllReadyH.cons rfl (fun K' hK' => ?_) AllReadyH.nil)
          · refine step_ldJ (by rfl) 28 _ rfl _ _ (F.get 28 _ (by simp)) (ldT_run ((HBB.out _ hb2).2.1.at 6 _ rfl)) ?_
            refine openK (v := .slice xt mt xu) 29 rfl F (by decide) (by simp) (fun a F => ?_)
            refine hK'.out _ _ (trivial) (fun hH => ?_)
            refine wpAnyH_ready (rs := [6, 8]) (by kernel_rfl) (by simp) ?_
            refine AllReadyH.cons rfl (fun K' hK' => ?_) (AllReadyH.cons rfl (fun K' hK' => ?_) AllReadyH.nil)
            · refine step_slices_Clone (by rfl) 29 _ rfl _ _ (F.get 29 _ (by simp)) (HCL1.out _ hb2) ?_
              rintro rv4 xwt ⟨at2, ct, gt, rfl, hrt, hgt, kbt⟩
              have hb4 := hb2.trans (kbt.mono hb2.size)
              refine openK (v := .slice at2 mt ct) 30 rfl F (by decide) (by simp) (fun a F => ?_)
              refine hK'.out _ _ (trivial) (fun hH => ?_)
              refine wpAnyH_ready (rs := [8]) (by kernel_rfl) (by simp) ?_
              refine AllReadyH.cons rfl (fun K' hK' => ?_) AllReadyH.nil
              refine step_ldJ (by rfl) 31 _ rfl _ _ (F.get 31 _ (by simp)) (ldA_run ((HBB.out _ hb4).2.1.at 7 _ rfl)) ?_
              refine openK (v := .slice xa ma xb) 32 rfl F (by decide) (by simp) (fun a F => ?_)
              refine hK'.out _ _ (trivial) (fun hH => ?_)
              have r1 := F.get 1 (.pointer (some ⟨w.heap.size, 0, none⟩)) (by simp)
              refine takeF (i := 10) (v := .pointer (some ⟨w.heap.size, 3, none⟩)) rfl (by kernel_rfl) (by kernel_rfl) (by kernel_rfl) (fun _ _ _ h => HQP.out _ _ _ _ _ h) (Or.inl ⟨by rfl, fun w hw => by go_simp⟩) hH 34 rfl F (by decide) (by simp) (fun a F => ?_)
              clear r1
              refine wpAnyH_ready (rs := [9]) (by kernel_rfl) (by simp) ?_
              refine AllReadyH.cons rfl (fun K' hK' => ?_) AllReadyH.nil
              refine step_impl_changesCopy (by rfl) 32 _ rfl _ _ (F.get 32 _ (by simp)) (HCC1.out _ hb4) ?_
              rintro rv6 xwu ⟨gu, rfl, hru, hgu, kbu⟩
              have hb6 := hb4.trans (kbu.mono hb4.size)
              refine openK (v := .slice (some ⟨gu, 0, none⟩) ma ma) 33 rfl F (by decide) (by simp) (fun a F => ?_)
              refine hK'.out _ _ (trivial) (fun hH => ?_)
              refine wpAnyH_ready (rs := [11]) (by kernel_rfl) (by simp) ?_
              refine AllReadyH.cons rfl (fun K' hK' => ?_) AllReadyH.nil
              obtain ⟨u7, hu7⟩ : ∃ u, (xwu).cell? ⟨w.heap.size, 3, none⟩ = some u := ⟨_, ((HBB.out _ hb6).2.1).at 3 _ rfl⟩
              refine step_stJ (by rfl) 34 26 _ rfl _ (.agg #[.slice ad md cd]) (F.get 34 _ (by simp)) (F.get 26 _ (by simp)) (stD_run hu7 (((HBB.out _ hb6).2.1).fz 3)) ?_
              refine hK'.out _ _ (trivial) (fun hH => ?_)
              have r1 := F.get 1 (.pointer (some ⟨w.heap.size, 0, none⟩)) (by simp)
              refine takeF (i := 12) (v := .pointer (some ⟨w.heap.size, 5, none⟩)) rfl (by kernel_rfl) (by kernel_rfl) (by kernel_rfl) (fun _ _ _ h => HQP.out _ _ _ _ _ h) (Or.inl ⟨by rfl, fun w hw => by go_simp⟩) hH 35 rfl F (by decide) (by simp) (fun a F => ?_)
              clear r1
              refine wpAnyH_ready (rs := [13]) (by kernel_rfl) (by simp) ?_
              refine AllReadyH.cons rfl (fun K' hK' => ?_) AllReadyH.nil
              obtain ⟨u8, hu8⟩ : ∃ u, ((xwu).setCell ⟨w.heap.size, 3, none⟩ (.slice ad md cd)).cell? ⟨w.heap.size, 5, none⟩ = some u := ⟨_, (((HBB.out _ hb6).2.1).set 3 _).at 5 _ rfl⟩
              refine step_stJ (by rfl) 35 27 _ rfl _ (.slice (some ⟨w.heap.size + 1 + 1, 0, none⟩) mv mv) (F.get 35 _ (by simp)) (F.get 27 _ (by simp)) (stV_run hu8 ((((HBB.out _ hb6).2.1).set 3 _).fz 5)) ?_
              refine hK'.out _ _ (trivial) (fun hH => ?_)
              have r1 := F.get 1 (.pointer (some ⟨w.heap.size, 0, none⟩)) (by simp)
              refine takeF (i := 14) (v := .pointer (some ⟨w.heap.size, 6, none⟩)) rfl (by kernel_rfl) (by kernel_rfl) (by kernel_rfl) (fun _ _ _ h => HQP.out _ _ _ _ _ h) (Or.inl ⟨by rfl, fun w hw => by go_simp⟩) hH 36 rfl F (by decide) (by simp) (fun a F => ?_)
              clear r1
              refine wpAnyH_ready (rs := [15]) (by kernel_rfl) (by simp) ?_
              refine AllReadyH.cons rfl (fun K' hK' => ?_) AllReadyH.nil
              obtain ⟨u9, hu9⟩ : ∃ u, (((xwu).setCell ⟨w.heap.size, 3, none⟩ (.slice ad md cd)).setCell ⟨w.heap.size, 5, none⟩ (.slice (some ⟨w.heap.size + 1 + 1, 0, none⟩) mv mv)).cell? ⟨w.heap.size, 6, none⟩ = some u := ⟨_, ((((HBB.out _ hb6).2.1).set 3 _).set 5 _).at 6 _ rfl⟩
              refine step_stJ (by rfl) 36 30 _ rfl _ (.slice at2 mt ct) (F.get 36 _ (by simp)) (F.get 30 _ (by simp)) (stT_run hu9 (((((HBB.out _ hb6).2.1).set 3 _).set 5 _).fz 6)) ?_
              refine hK'.out _ _ (trivial) (fun hH => ?_)
              have r1 := F.get 1 (.pointer (some ⟨w.heap.size, 0, none⟩)) (by simp)
              refine takeF (i := 16) (v := .pointer (some ⟨w.heap.size, 7, none⟩)) rfl (by kernel_rfl) (by kernel_rfl) (by kernel_rfl) (fun _ _ _ h => HQP.out _ _ _ _ _ h) (Or.inl ⟨by rfl, fun w hw => by go_simp⟩) hH 37 rfl F (by decide) (by simp) (fun a F => ?_)
              clear r1
              refine wpAnyH_ready (rs := [17]) (by kernel_rfl) (by simp) ?_
              refine AllReadyH.cons rfl (fun K' hK' => ?_) AllReadyH.nil
              obtain ⟨u10, hu10⟩ : ∃ u, ((((xwu).setCell ⟨w.heap.size, 3, none⟩ (.slice ad md cd)).setCell ⟨w.heap.size, 5, none⟩ (.slice (some ⟨w.heap.size + 1 + 1, 0, none⟩) mv mv)).setCell ⟨w.heap.size, 6, none⟩ (.slice at2 mt ct)).cell? ⟨w.heap.size, 7, none⟩ = some u := ⟨_, (((((HBB.out _ hb6).2.1).set 3 _).set 5 _).set 6 _).at 7 _ rfl⟩
              refine step_stJ (by rfl) 37 33 _ rfl _ (.slice (some ⟨gu, 0, none⟩) ma ma) (F.get 37 _ (by simp)) (F.get 33 _ (by simp)) (stA_run hu10 ((((((HBB.out _ hb6).2.1).set 3 _).set 5 _).set 6 _).fz 7)) ?_
              refine hK'.out _ _ (trivial) (fun hH => ?_)
              refine wpAnyH_done (by kernel_rfl) ?_ _
              exact HEND.out a xwu _ _ _ ad cd at2 ct _ ma rfl rfl rfl ⟨F.1, F.2.1, fun p hp => F.2.2 p (by simp only [List.mem_cons, List.not_mem_nil, or_false] at hp; rcases hp with rfl | rfl <;> simp)⟩ hb6 (HSD.out _ _ _ _ ad cd gd at2 ct gt gu hb0 hrd hgd kbd hrt hgt kbt hru hgu kbu)
            · refine step_ldJ (by rfl) 31 _ rfl _ _ (F.get 31 _ (by simp)) (ldA_run ((HBB.out _ hb2).2.1.at 7 _ rfl)) ?_
              refine openK (v := .slice xa ma xb) 32 rfl F (by decide) (by simp) (fun a F => ?_)
              refine hK'.out _ _ (trivial) (fun hH => ?_)
              have r1 := F.get 1 (.pointer (some ⟨w.heap.size, 0, none⟩)) (by simp)
              refine takeF (i := 10) (v := .pointer (some ⟨w.heap.size, 3, none⟩)) rfl (by kernel_rfl) (by kernel_rfl) (by kernel_rfl) (fun _ _ _ h => HQP.out _ _ _ _ _ h) (Or.inl ⟨by rfl, fun w hw => by go_simp⟩) hH 34 rfl F (by decide) (by simp) (fun a F => ?_)
              clear r1
              refine wpAnyH_ready (rs := [6]) (by kernel_rfl) (by simp) ?_
              refine AllReadyH.cons rfl (fun K' hK' => ?_) AllReadyH.nil
              refine step_slices_Clone (by rfl) 29 _ rfl _ _ (F.get 29 _ (by simp)) (HCL1.out _ hb2) ?_
              rintro rv12 xwt ⟨at2, ct, gt, rfl, hrt, hgt, kbt⟩
              have hb12 := hb2.trans (kbt.mono hb2.size)
              refine openK (v := .slice at2 mt ct) 30 rfl F (by decide) (by simp) (fun a F => ?_)
              refine hK'.out _ _ (trivial) (fun hH => ?_)
              refine wpAnyH_ready (rs := [9]) (by kernel_rfl) (by simp) ?_
              refine AllReadyH.cons rfl (fun K' hK' => ?_) AllReadyH.nil
              refine step_impl_changesCopy (by rfl) 32 _ rfl _ _ (F.get 32 _ (by simp)) (HCC1.out _ hb12) ?_
              rintro rv13 xwu ⟨gu, rfl, hru, hgu, kbu⟩
              have hb13 := hb12.trans (kbu.mono hb12.size)
              refine openK (v := .slice (some ⟨gu, 0, none⟩) ma ma) 33 rfl F (by decide) (by simp) (fun a F => ?_)
              refine hK'.out _ _ (trivial) (fun hH => ?_)
              refine wpAnyH_ready (rs := [11]) (by kernel_rfl) (by simp) ?_
              refine AllReadyH.cons rfl (fun K' hK' => ?_) AllReadyH.nil
              obtain ⟨u14, hu14⟩ : ∃ u, (xwu).cell? ⟨w.heap.size, 3, none⟩ = some u := ⟨_, ((HBB.out _ hb13).2.1).at 3 _ rfl⟩
              refine step_stJ (by rfl) 34 26 _ rfl _ (.agg #[.slice ad md cd]) (F.get 34 _ (by simp)) (F.get 26 _ (by simp)) (stD_run hu14 (((HBB.out _ hb13).2.1).fz 3)) ?_
              refine hK'.out _ _ (trivial) (fun hH => ?_)
              have r1 := F.get 1 (.pointer (some ⟨w.heap.size, 0, none⟩)) (by simp)
              refine takeF (i := 12) (v := .pointer (some ⟨w.heap.size, 5, none⟩)) rfl (by kernel_rfl) (by kernel_rfl) (by kernel_rfl) (fun _ _ _ h => HQP.out _ _ _ _ _ h) (Or.inl ⟨by rfl, fun w hw => by go_simp⟩) hH 35 rfl F (by decide) (by simp) (fun a F => ?_)
              clear r1
              refine wpAnyH_ready (rs := [13]) (by kernel_rfl) (by simp) ?_
              refine AllReadyH.cons rfl (fun K' hK' => ?_) AllReadyH.nil
              obtain ⟨u15, hu15⟩ : ∃ u, ((xwu).setCell ⟨w.heap.size, 3, none⟩ (.slice ad md cd)).cell? ⟨w.heap.size, 5, none⟩ = some u := ⟨_, (((HBB.out _ hb13).2.1).set 3 _).at 5 _ rfl⟩
              refine step_stJ (by rfl) 35 27 _ rfl _ (.slice (some ⟨w.heap.size + 1 + 1, 0, none⟩) mv mv) (F.get 35 _ (by simp)) (F.get 27 _ (by simp)) (stV_run hu15 ((((HBB.out _ hb13).2.1).set 3 _).fz 5)) ?_
              refine hK'.out _ _ (trivial) (fun hH => ?_)
              have r1 := F.get 1 (.pointer (some ⟨w.heap.size, 0, none⟩)) (by simp)
              refine takeF (i := 14) (v := .pointer (some ⟨w.heap.size, 6, none⟩)) rfl (by kernel_rfl) (by kernel_rfl) (by kernel_rfl) (fun _ _ _ h => HQP.out _ _ _ _ _ h) (Or.inl ⟨by rfl, fun w hw => by go_simp⟩) hH 36 rfl F (by decide) (by simp) (fun a F => ?_)
              clear r1
              refine wpAnyH_ready (rs := [15]) (by kernel_rfl) (by simp) ?_
              refine AllReadyH.cons rfl (fun K' hK' => ?_) AllReadyH.nil
              obtain ⟨u16, hu16⟩ : ∃ u, (((xwu).setCell ⟨w.heap.size, 3, none⟩ (.slice ad md cd)).setCell ⟨w.heap.size, 5, none⟩ (.slice (some ⟨w.heap.size + 1 + 1, 0, none⟩) mv mv)).cell? ⟨w.heap.size, 6, none⟩ = some u := ⟨_, ((((HBB.out _ hb13).2.1).set 3 _).set 5 _).at 6 _ rfl⟩
              refine step_stJ (by rfl) 36 30 _ rfl _ (.slice at2 mt ct) (F.get 36 _ (by simp)) (F.get 30 _ (by simp)) (stT_run hu16 (((((HBB.out _ hb13).2.1).set 3 _).set 5 _).fz 6)) ?_
              refine hK'.out _ _ (trivial) (fun hH => ?_)
              have r1 := F.get 1 (.pointer (some ⟨w.heap.size, 0, none⟩)) (by simp)
              refine takeF (i := 16) (v := .pointer (some ⟨w.heap.size, 7, none⟩)) rfl (by kernel_rfl) (by kernel_rfl) (by kernel_rfl) (fun _ _ _ h => HQP.out _ _ _ _ _ h) (Or.inl ⟨by rfl, fun w hw => by go_simp⟩) hH 37 rfl F (by decide) (by simp) (fun a F => ?_)
              clear r1
              refine wpAnyH_ready (rs := [17]) (by kernel_rfl) (by simp) ?_
              refine AllReadyH.cons rfl (fun K' hK' => ?_) AllReadyH.nil
              obtain ⟨u17, hu17⟩ : ∃ u, ((((xwu).setCell ⟨w.heap.size, 3, none⟩ (.slice ad md cd)).setCell ⟨w.heap.size, 5, none⟩ (.slice (some ⟨w.heap.size + 1 + 1, 0, none⟩) mv mv)).setCell ⟨w.heap.size, 6, none⟩ (.slice at2 mt ct)).cell? ⟨w.heap.size, 7, none⟩ = some u := ⟨_, (((((HBB.out _ hb13).2.1).set 3 _).set 5 _).set 6 _).at 7 _ rfl⟩
              refine step_stJ (by rfl) 37 33 _ rfl _ (.slice (some ⟨gu, 0, none⟩) ma ma) (F.get 37 _ (by simp)) (F.get 33 _ (by simp)) (stA_run hu17 ((((((HBB.out _ hb13).2.1).set 3 _).set 5 _).set 6 _).fz 7)) ?_
              refine hK'.out _ _ (trivial) (fun hH => ?_)
              refine wpAnyH_done (by kernel_rfl) ?_ _
              exact HEND.out a xwu _ _ _ ad cd at2 ct _ ma rfl rfl rfl ⟨F.1, F.2.1, fun p hp => F.2.2 p (by simp only [List.mem_cons, List.not_mem_nil, or_false] at hp; rcases hp with rfl | rfl <;> simp)⟩ hb13 (HSD.out _ _ _ _ ad cd gd at2 ct gt gu hb0 hrd hgd kbd hrt hgt kbt hru hgu kbu)
          · refine step_ldJ (by rfl) 31 _ rfl _ _ (F.get 31 _ (by simp)) (ldA_run ((HBB.out _ hb2).2.1.at 7 _ rfl)) ?_
            refine openK (v := .slice xa ma xb) 32 rfl F (by decide) (by simp) (fun a F => ?_)
            refine hK'.out _ _ (trivial) (fun hH => ?_)
            refine wpAnyH_ready (rs := [5]) (by kernel_rfl) (by simp) ?_
            refine AllReadyH.cons rfl (fun K' hK' => ?_) AllReadyH.nil
            refine step_ldJ (by rfl) 28 _ rfl _ _ (F.get 28 _ (by simp)) (ldT_run ((HBB.out _ hb2).2.1.at 6 _ rfl)) ?_
            refine openK (v := .slice xt mt xu) 29 rfl F (by decide) (by simp) (fun a F => ?_)
            refine hK'.out _ _ (trivial) (fun hH => ?_)
            have r1 := F.get 1 (.pointer (some ⟨w.heap.size, 0, none⟩)) (by simp)
            refine takeF (i := 10) (v := .pointer (some ⟨w.heap.size, 3, none⟩)) rfl (by kernel_rfl) (by kernel_rfl) (by kernel_rfl) (fun _ _ _ h => HQP.out _ _ _ _ _ h) (Or.inl ⟨by rfl, fun w hw => by go_simp⟩) hH 34 rfl F (by decide) (by simp) (fun a F => ?_)
            clear r1
            refine wpAnyH_ready (rs := [6]) (by kernel_rfl) (by simp) ?_
            refine AllReadyH.cons rfl (fun K' hK' => ?_) AllReadyH.nil
            refine step_slices_Clone (by rfl) 29 _ rfl _ _ (F.get 29 _ (by simp)) (HCL1.out _ hb2) ?_
            rintro rv20 xwt ⟨at2, ct, gt, rfl, hrt, hgt, kbt⟩
            have hb20 := hb2.trans (kbt.mono hb2.size)
            refine openK (v := .slice at2 mt ct) 30 rfl F (by decide) (by simp) (fun a F => ?_)
            refine hK'.out _ _ (trivial) (fun hH => ?_)
            refine wpAnyH_ready (rs := [9]) (by kernel_rfl) (by simp) ?_
            refine AllReadyH.cons rfl (fun K' hK' => ?_) AllReadyH.nil
            refine step_impl_changesCopy (by rfl) 32 _ rfl _ _ (F.get 32 _ (by simp)) (HCC1.out _ hb20) ?_
            rintro rv21 xwu ⟨gu, rfl, hru, hgu, kbu⟩
            have hb21 := hb20.trans (kbu.mono hb20.size)
            refine openK (v := .slice (some ⟨gu, 0, none⟩) ma ma) 33 rfl F (by decide) (by simp) (fun a F => ?_)
            refine hK'.out _ _ (trivial) (fun hH => ?_)
            refine wpAnyH_ready (rs := [11]) (by kernel_rfl) (by simp) ?_
            refine AllReadyH.cons rfl (fun K' hK' => ?_) AllReadyH.nil
            obtain ⟨u22, hu22⟩ : ∃ u, (xwu).cell? ⟨w.heap.size, 3, none⟩ = some u := ⟨_, ((HBB.out _ hb21).2.1).at 3 _ rfl⟩
            refine step_stJ (by rfl) 34 26 _ rfl _ (.agg #[.slice ad md cd]) (F.get 34 _ (by simp)) (F.get 26 _ (by simp)) (stD_run hu22 (((HBB.out _ hb21).2.1).fz 3)) ?_
            refine hK'.out _ _ (trivial) (fun hH => ?_)
            have r1 := F.get 1 (.pointer (some ⟨w.heap.size, 0, none⟩)) (by simp)
            refine takeF (i := 12) (v := .pointer (some ⟨w.heap.size, 5, none⟩)) rfl (by kernel_rfl) (by kernel_rfl) (by kernel_rfl) (fun _ _ _ h => HQP.out _ _ _ _ _ h) (Or.inl ⟨by rfl, fun w hw => by go_simp⟩) hH 35 rfl F (by decide) (by simp) (fun a F => ?_)
            clear r1
            refine wpAnyH_ready (rs := [13]) (by kernel_rfl) (by simp) ?_
            refine AllReadyH.cons rfl (fun K' hK' => ?_) AllReadyH.nil
            obtain ⟨u23, hu23⟩ : ∃ u, ((xwu).setCell ⟨w.heap.size, 3, none⟩ (.slice ad md cd)).cell? ⟨w.heap.size, 5, none⟩ = some u := ⟨_, (((HBB.out _ hb21).2.1).set 3 _).at 5 _ rfl⟩
            refine step_stJ (by rfl) 35 27 _ rfl _ (.slice (some ⟨w.heap.size + 1 + 1, 0, none⟩) mv mv) (F.get 35 _ (by simp)) (F.get 27 _ (by simp)) (stV_run hu23 ((((HBB.out _ hb21).2.1).set 3 _).fz 5)) ?_
            refine hK'.out _ _ (trivial) (fun hH => ?_)
            have r1 := F.get 1 (.pointer (some ⟨w.heap.size, 0, none⟩)) (by simp)
            refine takeF (i := 14) (v := .pointer (some ⟨w.heap.size, 6, none⟩)) rfl (by kernel_rfl) (by kernel_rfl) (by kernel_rfl) (fun _ _ _ h => HQP.out _ _ _ _ _ h) (Or.inl ⟨by rfl, fun w hw => by go_simp⟩) hH 36 rfl F (by decide) (by simp) (fun a F => ?_)
            clear r1
            refine wpAnyH_ready (rs := [15]) (by kernel_rfl) (by simp) ?_
            refine AllReadyH.cons rfl (fun K' hK' => ?_) AllReadyH.nil
            obtain ⟨u24, hu24⟩ : ∃ u, (((xwu).setCell ⟨w.heap.size, 3, none⟩ (.slice ad md cd)).setCell ⟨w.heap.size, 5, none⟩ (.slice (some ⟨w.heap.size + 1 + 1, 0, none⟩) mv mv)).cell? ⟨w.heap.size, 6, none⟩ = some u := ⟨_, ((((HBB.out _ hb21).2.1).set 3 _).set 5 _).at 6 _ rfl⟩
            refine step_stJ (by rfl) 36 30 _ rfl _ (.slice at2 mt ct) (F.get 36 _ (by simp)) (F.get 30 _ (by simp)) (stT_run hu24 (((((HBB.out _ hb21).2.1).set 3 _).set 5 _).fz 6)) ?_
            refine hK'.out _ _ (trivial) (fun hH => ?_)
            have r1 := F.get 1 (.pointer (some ⟨w.heap.size, 0, none⟩)) (by simp)
            refine takeF (i := 16) (v := .pointer (some ⟨w.heap.size, 7, none⟩)) rfl (by kernel_rfl) (by kernel_rfl) (by kernel_rfl) (fun _ _ _ h => HQP.out _ _ _ _ _ h) (Or.inl ⟨by rfl, fun w hw => by go_simp⟩) hH 37 rfl F (by decide) (by simp) (fun a F => ?_)
            clear r1
            refine wpAnyH_ready (rs := [17]) (by kernel_rfl) (by simp) ?_
            refine AllReadyH.cons rfl (fun K' hK' => ?_) AllReadyH.nil
            obtain ⟨u25, hu25⟩ : ∃ u, ((((xwu).setCell ⟨w.heap.size, 3, none⟩ (.slice ad md cd)).setCell ⟨w.heap.size, 5, none⟩ (.slice (some ⟨w.heap.size + 1 + 1, 0, none⟩) mv mv)).setCell ⟨w.heap.size, 6, none⟩ (.slice at2 mt ct)).cell? ⟨w.heap.size, 7, none⟩ = some u := ⟨_, (((((HBB.out _ hb21).2.1).set 3 _).set 5 _).set 6 _).at 7 _ rfl⟩
            refine step_stJ (by rfl) 37 33 _ rfl _ (.slice (some ⟨gu, 0, none⟩) ma ma) (F.get 37 _ (by simp)) (F.get 33 _ (by simp)) (stA_run hu25 ((((((HBB.out _ hb21).2.1).set 3 _).set 5 _).set 6 _).fz 7)) ?_
            refine hK'.out _ _ (trivial) (fun hH => ?_)
            refine wpAnyH_done (by kernel_rfl) ?_ _
            exact HEND.out a xwu _ _ _ ad cd at2 ct _ ma rfl rfl rfl ⟨F.1, F.2.1, fun p hp => F.2.2 p (by simp only [List.mem_cons, List.not_mem_nil, or_false] at hp; rcases hp with rfl | rfl <;> simp)⟩ hb21 (HSD.out _ _ _ _ ad cd gd at2 ct gt gu hb0 hrd hgd kbd hrt hgt kbt hru hgu kbu)
        · refine step_ldJ (by rfl) 28 _ rfl _ _ (F.get 28 _ (by simp)) (ldT_run ((HBB.out _ hb0).2.1.at 6 _ rfl)) ?_
          refine openK (v := .slice xt mt xu) 29 rfl F (by decide) (by simp) (fun a F => ?_)
          refine hK'.out _ _ (trivial) (fun hH => ?_)
          refine wpAnyH_ready (rs := [2, 8]) (by kernel_rfl) (by simp) ?_
          refine AllReadyH.cons rfl (fun K' hK' => ?_) (AllReadyH.cons rfl (fun K' hK' => ?_) AllReadyH.nil)
          · refine step_impl_diskCopy (by rfl) 25 _ rfl _ _ (F.get 25 _ (by simp)) (HDC1.out _ hb0) ?_
            rintro rv27 xwd ⟨ad, cd, gd, rfl, hrd, hgd, kbd⟩
            have hb27 := hb0.trans (kbd.mono hb0.size)
            refine openK (v := .agg #[.slice ad md cd]) 26 rfl F (by decide) (by simp) (fun a F => ?_)
            refine hK'.out _ _ (trivial) (fun hH => ?_)
            refine wpAnyH_ready (rs := [6, 8]) (by kernel_rfl) (by simp) ?_
            refine AllReadyH.cons rfl (fun K' hK' => ?_) (AllReadyH.cons rfl (fun K' hK' => ?_) AllReadyH.nil)
            · refine step_slices_Clone (by rfl) 29 _ rfl _ _ (F.get 29 _ (by simp)) (HCL1.out _ hb27) ?_
              rintro rv28 xwt ⟨at2, ct, gt, rfl, hrt, hgt, kbt⟩
              have hb28 := hb27.trans (kbt.mono hb27.size)
              refine openK (v := .slice at2 mt ct) 30 rfl F (by decide) (by simp) (fun a F => ?_)
              refine hK'.out _ _ (trivial) (fun hH => ?_)
              refine wpAnyH_ready (rs := [8]) (by kernel_rfl) (by simp) ?_
              refine AllReadyH.cons rfl (fun K' hK' => ?_) AllReadyH.nil
              refine step_ldJ (by rfl) 31 _ rfl _ _ (F.get 31 _ (by simp)) (ldA_run ((HBB.out _ hb28).2.1.at 7 _ rfl)) ?_
              refine openK (v := .slice xa ma xb) 32 rfl F (by decide) (by simp) (fun a F => ?_)
              refine hK'.out _ _ (trivial) (fun hH => ?_)
              have r1 := F.get 1 (.pointer (some ⟨w.heap.size, 0, none⟩)) (by simp)
              refine takeF (i := 10) (v := .pointer (some ⟨w.heap.size, 3, none⟩)) rfl (by kernel_rfl) (by kernel_rfl) (by kernel_rfl) (fun _ _ _ h => HQP.out _ _ _ _ _ h) (Or.inl ⟨by rfl, fun w hw => by go_simp⟩) hH 34 rfl F (by decide) (by simp) (fun a F => ?_)
              clear r1
              refine wpAnyH_ready (rs := [9]) (by kernel_rfl) (by simp) ?_
              refine AllReadyH.cons rfl (fun K' hK' => ?_) AllReadyH.nil
              refine step_impl_changesCopy (by rfl) 32 _ rfl _ _ (F.get 32 _ (by simp)) (HCC1.out _ hb28) ?_
              rintro rv30 xwu ⟨gu, rfl, hru, hgu, kbu⟩
              have hb30 := hb28.trans (kbu.mono hb28.size)
              refine openK (v := .slice (some ⟨gu, 0, none⟩) ma ma) 33 rfl F (by decide) (by simp) (fun a F => ?_)
              refine hK'.out _ _ (trivial) (fun hH => ?_)
              refine wpAnyH_ready (rs := [11]) (by kernel_rfl) (by simp) ?_
              refine AllReadyH.cons rfl (fun K' hK' => ?_) AllReadyH.nil
              obtain ⟨u31, hu31⟩ : ∃ u, (xwu).cell? ⟨w.heap.size, 3, none⟩ = some u := ⟨_, ((HBB.out _ hb30).2.1).at 3 _ rfl⟩
              refine step_stJ (by rfl) 34 26 _ rfl _ (.agg #[.slice ad md cd]) (F.get 34 _ (by simp)) (F.get 26 _ (by simp)) (stD_run hu31 (((HBB.out _ hb30).2.1).fz 3)) ?_
              refine hK'.out _ _ (trivial) (fun hH => ?_)
              have r1 := F.get 1 (.pointer (some ⟨w.heap.size, 0, none⟩)) (by simp)
              refine takeF (i := 12) (v := .pointer (some ⟨w.heap.size, 5, none⟩)) rfl (by kernel_rfl) (by kernel_rfl) (by kernel_rfl) (fun _ _ _ h => HQP.out _ _ _ _ _ h) (Or.inl ⟨by rfl, fun w hw => by go_simp⟩) hH 35 rfl F (by decide) (by simp) (fun a F => ?_)
              clear r1
              refine wpAnyH_ready (rs := [13]) (by kernel_rfl) (by simp) ?_
              refine AllReadyH.cons rfl (fun K' hK' => ?_) AllReadyH.nil
              obtain ⟨u32, hu32⟩ : ∃ u, ((xwu).setCell ⟨w.heap.size, 3, none⟩ (.slice ad md cd)).cell? ⟨w.heap.size, 5, none⟩ = some u := ⟨_, (((HBB.out _ hb30).2.1).set 3 _).at 5 _ rfl⟩
              refine step_stJ (by rfl) 35 27 _ rfl _ (.slice (some ⟨w.heap.size + 1 + 1, 0, none⟩) mv mv) (F.get 35 _ (by simp)) (F.get 27 _ (by simp)) (stV_run hu32 ((((HBB.out _ hb30).2.1).set 3 _).fz 5)) ?_
              refine hK'.out _ _ (trivial) (fun hH => ?_)
              have r1 := F.get 1 (.pointer (some ⟨w.heap.size, 0, none⟩)) (by simp)
              refine takeF (i := 14) (v := .pointer (some ⟨w.heap.size, 6, none⟩)) rfl (by kernel_rfl) (by kernel_rfl) (by kernel_rfl) (fun _ _ _ h => HQP.out _ _ _ _ _ h) (Or.inl ⟨by rfl, fun w hw => by go_simp⟩) hH 36 rfl F (by decide) (by simp) (fun a F => ?_)
              clear r1
              refine wpAnyH_ready (rs := [15]) (by kernel_rfl) (by simp) ?_
              refine AllReadyH.cons rfl (fun K' hK' => ?_) AllReadyH.nil
              obtain ⟨u33, hu33⟩ : ∃ u, (((xwu).setCell ⟨w.heap.size, 3, none⟩ (.slice ad md cd)).setCell ⟨w.heap.size, 5, none⟩ (.slice (some ⟨w.heap.size + 1 + 1, 0, none⟩) mv mv)).cell? ⟨w.heap.size, 6, none⟩ = some u := ⟨_, ((((HBB.out _ hb30).2.1).set 3 _).set 5 _).at 6 _ rfl⟩
              refine step_stJ (by rfl) 36 30 _ rfl _ (.slice at2 mt ct) (F.get 36 _ (by simp)) (F.get 30 _ (by simp)) (stT_run hu33 (((((HBB.out _ hb30).2.1).set 3 _).set 5 _).fz 6)) ?_
              refine hK'.out _ _ (trivial) (fun hH => ?_)
              have r1 := F.get 1 (.pointer (some ⟨w.heap.size, 0, none⟩)) (by simp)
              refine takeF (i := 16) (v := .pointer (some ⟨w.heap.size, 7, none⟩)) rfl (by kernel_rfl) (by kernel_rfl) (by kernel_rfl) (fun _ _ _ h => HQP.out _ _ _ _ _ h) (Or.inl ⟨by rfl, fun w hw => by go_simp⟩) hH 37 rfl F (by decide) (by simp) (fun a F => ?_)
              clear r1
              refine wpAnyH_ready (rs := [17]) (by kernel_rfl) (by simp) ?_
              refine AllReadyH.cons rfl (fun K' hK' => ?_) AllReadyH.nil
              obtain ⟨u34, hu34⟩ : ∃ u, ((((xwu).setCell ⟨w.heap.size, 3, none⟩ (.slice ad md cd)).setCell ⟨w.heap.size, 5, none⟩ (.slice (some ⟨w.heap.size + 1 + 1, 0, none⟩) mv mv)).setCell ⟨w.heap.size, 6, none⟩ (.slice at2 mt ct)).cell? ⟨w.heap.size, 7, none⟩ = some u := ⟨_, (((((HBB.out _ hb30).2.1).set 3 _).set 5 _).set 6 _).at 7 _ rfl⟩
              refine step_stJ (by rfl) 37 33 _ rfl _ (.slice (some ⟨gu, 0, none⟩) ma ma) (F.get 37 _ (by simp)) (F.get 33 _ (by simp)) (stA_run hu34 ((((((HBB.out _ hb30).2.1).set 3 _).set 5 _).set 6 _).fz 7)) ?_
              refine hK'.out _ _ (trivial) (fun hH => ?_)
              refine wpAnyH_done (by kernel_rfl) ?_ _
              exact HEND.out a xwu _ _ _ ad cd at2 ct _ ma rfl rfl rfl ⟨F.1, F.2.1, fun p hp => F.2.2 p (by simp only [List.mem_cons, List.not_mem_nil, or_false] at hp; rcases hp with rfl | rfl <;> simp)⟩ hb30 (HSD.out _ _ _ _ ad cd gd at2 ct gt gu hb0 hrd hgd kbd hrt hgt kbt hru hgu kbu)
            · refine step_ldJ (by rfl) 31 _ rfl _ _ (F.get 31 _ (by simp)) (ldA_run ((HBB.out _ hb27).2.1.at 7 _ rfl)) ?_
              refine openK (v := .slice xa ma xb) 32 rfl F (by decide) (by simp) (fun a F => ?_)
              refine hK'.out _ _ (trivial) (fun hH => ?_)
              have r1 := F.get 1 (.pointer (some ⟨w.heap.size, 0, none⟩)) (by simp)
              refine takeF (i := 10) (v := .pointer (some ⟨w.heap.size, 3, none⟩)) rfl (by kernel_rfl) (by kernel_rfl) (by kernel_rfl) (fun _ _ _ h => HQP.out _ _ _ _ _ h) (Or.inl ⟨by rfl, fun w hw => by go_simp⟩) hH 34 rfl F (by decide) (by simp) (fun a F => ?_)
              clear r1
              refine wpAnyH_ready (rs := [6]) (by kernel_rfl) (by simp) ?_
              refine AllReadyH.cons rfl (fun K' hK' => ?_) AllReadyH.nil
              refine step_slices_Clone (by rfl) 29 _ rfl _ _ (F.get 29 _ (by simp)) (HCL1.out _ hb27) ?_
              rintro rv36 xwt ⟨at2, ct, gt, rfl, hrt, hgt, kbt⟩
              have hb36 := hb27.trans (kbt.mono hb27.size)
              refine openK (v := .slice at2 mt ct) 30 rfl F (by decide) (by simp) (fun a F => ?_)
              refine hK'.out _ _ (trivial) (fun hH => ?_)
              refine wpAnyH_ready (rs := [9]) (by kernel_rfl) (by simp) ?_
              refine AllReadyH.cons rfl (fun K' hK' => ?_) AllReadyH.nil
              refine step_impl_changesCopy (by rfl) 32 _ rfl _ _ (F.get 32 _ (by simp)) (HCC1.out _ hb36) ?_
              rintro rv37 xwu ⟨gu, rfl, hru, hgu, kbu⟩
              have hb37 := hb36.trans (kbu.mono hb36.size)
              refine openK (v := .slice (some ⟨gu, 0, none⟩) ma ma) 33 rfl F (by decide) (by simp) (fun a F => ?_)
              refine hK'.out _ _ (trivial) (fun hH => ?_)
              refine wpAnyH_ready (rs := [11]) (by kernel_rfl) (by simp) ?_
              refine AllReadyH.cons rfl (fun K' hK' => ?_) AllReadyH.nil
              obtain ⟨u38, hu38⟩ : ∃ u, (xwu).cell? ⟨w.heap.size, 3, none⟩ = some u := ⟨_, ((HBB.out _ hb37).2.1).at 3 _ rfl⟩
              refine step_stJ (by rfl) 34 26 _ rfl _ (.agg #[.slice ad md cd]) (F.get 34 _ (by simp)) (F.get 26 _ (by simp)) (stD_run hu38 (((HBB.out _ hb37).2.1).fz 3)) ?_
              refine hK'.out _ _ (trivial) (fun hH => ?_)
              have r1 := F.get 1 (.pointer (some ⟨w.heap.size, 0, none⟩)) (by simp)
              refine takeF (i := 12) (v := .pointer (some ⟨w.heap.size, 5, none⟩)) rfl (by kernel_rfl) (by kernel_rfl) (by kernel_rfl) (fun _ _ _ h => HQP.out _ _ _ _ _ h) (Or.inl ⟨by rfl, fun w hw => by go_simp⟩) hH 35 rfl F (by decide) (by simp) (fun a F => ?_)
              clear r1
              refine wpAnyH_ready (rs := [13]) (by kernel_rfl) (by simp) ?_
              refine AllReadyH.cons rfl (fun K' hK' => ?_) AllReadyH.nil
              obtain ⟨u39, hu39⟩ : ∃ u, ((xwu).setCell ⟨w.heap.size, 3, none⟩ (.slice ad md cd)).cell? ⟨w.heap.size, 5, none⟩ = some u := ⟨_, (((HBB.out _ hb37).2.1).set 3 _).at 5 _ rfl⟩
              refine step_stJ (by rfl) 35 27 _ rfl _ (.slice (some ⟨w.heap.size + 1 + 1, 0, none⟩) mv mv) (F.get 35 _ (by simp)) (F.get 27 _ (by simp)) (stV_run hu39 ((((HBB.out _ hb37).2.1).set 3 _).fz 5)) ?_
              refine hK'.out _ _ (trivial) (fun hH => ?_)
              have r1 := F.get 1 (.pointer (some ⟨w.heap.size, 0, none⟩)) (by simp)
              refine takeF (i := 14) (v := .pointer (some ⟨w.heap.size, 6, none⟩)) rfl (by kernel_rfl) (by kernel_rfl) (by kernel_rfl) (fun _ _ _ h => HQP.out _ _ _ _ _ h) (Or.inl ⟨by rfl, fun w hw => by go_simp⟩) hH 36 rfl F (by decide) (by simp) (fun a F => ?_)
              clear r1
              refine wpAnyH_ready (rs := [15]) (by kernel_rfl) (by simp) ?_
              refine AllReadyH.cons rfl (fun K' hK' => ?_) AllReadyH.nil
              obtain ⟨u40, hu40⟩ : ∃ u, (((xwu).setCell ⟨w.heap.size, 3, none⟩ (.slice ad md cd)).setCell ⟨w.heap.size, 5, none⟩ (.slice (some ⟨w.heap.size + 1 + 1, 0, none⟩) mv mv)).cell? ⟨w.heap.size, 6, none⟩ = some u := ⟨_, ((((HBB.out _ hb37).2.1).set 3 _).set 5 _).at 6 _ rfl⟩
              refine step_stJ (by rfl) 36 30 _ rfl _ (.slice at2 mt ct) (F.get 36 _ (by simp)) (F.get 30 _ (by simp)) (stT_run hu40 (((((HBB.out _ hb37).2.1).set 3 _).set 5 _).fz 6)) ?_
              refine hK'.out _ _ (trivial) (fun hH => ?_)
              have r1 := F.get 1 (.pointer (some ⟨w.heap.size, 0, none⟩)) (by simp)
              refine takeF (i := 16) (v := .pointer (some ⟨w.heap.size, 7, none⟩)) rfl (by kernel_rfl) (by kernel_rfl) (by kernel_rfl) (fun _ _ _ h => HQP.out _ _ _ _ _ h) (Or.inl ⟨by rfl, fun w hw => by go_simp⟩) hH 37 rfl F (by decide) (by simp) (fun a F => ?_)
              clear r1
              refine wpAnyH_ready (rs := [17]) (by kernel_rfl) (by simp) ?_
              refine AllReadyH.cons rfl (fun K' hK' => ?_) AllReadyH.nil
              obtain ⟨u41, hu41⟩ : ∃ u, ((((xwu).setCell ⟨w.heap.size, 3, none⟩ (.slice ad md cd)).setCell ⟨w.heap.size, 5, none⟩ (.slice (some ⟨w.heap.size + 1 + 1, 0, none⟩) mv mv)).setCell ⟨w.heap.size, 6, none⟩ (.slice at2 mt ct)).cell? ⟨w.heap.size, 7, none⟩ = some u := ⟨_, (((((HBB.out _ hb37).2.1).set 3 _).set 5 _).set 6 _).at 7 _ rfl⟩
              refine step_stJ (by rfl) 37 33 _ rfl _ (.slice (some ⟨gu, 0, none⟩) ma ma) (F.get 37 _ (by simp)) (F.get 33 _ (by simp)) (stA_run hu41 ((((((HBB.out _ hb37).2.1).set 3 _).set 5 _).set 6 _).fz 7)) ?_
              refine hK'.out _ _ (trivial) (fun hH => ?_)
              refine wpAnyH_done (by kernel_rfl) ?_ _
              exact HEND.out a xwu _ _ _ ad cd at2 ct _ ma rfl rfl rfl ⟨F.1, F.2.1, fun p hp => F.2.2 p (by simp only [List.mem_cons, List.not_mem_nil, or_false] at hp; rcases hp with rfl | rfl <;> simp)⟩ hb37 (HSD.out _ _ _ _ ad cd gd at2 ct gt gu hb0 hrd hgd kbd hrt hgt kbt hru hgu kbu)
          · refine step_ldJ (by rfl) 31 _ rfl _ _ (F.get 31 _ (by simp)) (ldA_run ((HBB.out _ hb0).2.1.at 7 _ rfl)) ?_
            refine openK (v := .slice xa ma xb) 32 rfl F (by decide) (by simp) (fun a F => ?_)
            refine hK'.out _ _ (trivial) (fun hH => ?_)
            refine wpAnyH_ready (rs := [2]) (by kernel_rfl) (by simp) ?_
            refine AllReadyH.cons rfl (fun K' hK' => ?_) AllReadyH.nil
            refine step_impl_diskCopy (by rfl) 25 _ rfl _ _ (F.get 25 _ (by simp)) (HDC1.out _ hb0) ?_
            rintro rv43 xwd ⟨ad, cd, gd, rfl, hrd, hgd, kbd⟩
            have hb43 := hb0.trans (kbd.mono hb0.size)
            refine openK (v := .agg #[.slice ad md cd]) 26 rfl F (by decide) (by simp) (fun a F => ?_)
            refine hK'.out _ _ (trivial) (fun hH => ?_)
            have r1 := F.get 1 (.pointer (some ⟨w.heap.size, 0, none⟩)) (by simp)
            refine takeF (i := 10) (v := .pointer (some ⟨w.heap.size, 3, none⟩)) rfl (by kernel_rfl) (by kernel_rfl) (by kernel_rfl) (fun _ _ _ h => HQP.out _ _ _ _ _ h) (Or.inl ⟨by rfl, fun w hw => by go_simp⟩) hH 34 rfl F (by decide) (by simp) (fun a F => ?_)
            clear r1
            refine wpAnyH_ready (rs := [6]) (by kernel_rfl) (by simp) ?_
            refine AllReadyH.cons rfl (fun K' hK' => ?_) AllReadyH.nil
            refine step_slices_Clone (by rfl) 29 _ rfl _ _ (F.get 29 _ (by simp)) (HCL1.out _ hb43) ?_
            rintro rv44 xwt ⟨at2, ct, gt, rfl, hrt, hgt, kbt⟩
            have hb44 := hb43.trans (kbt.mono hb43.size)
            refine openK (v := .slice at2 mt ct) 30 rfl F (by decide) (by simp) (fun a F => ?_)
            refine hK'.out _ _ (trivial) (fun hH => ?_)
            refine wpAnyH_ready (rs := [9]) (by kernel_rfl) (by simp) ?_
            refine AllReadyH.cons rfl (fun K' hK' => ?_) AllReadyH.nil
            refine step_impl_changesCopy (by rfl) 32 _ rfl _ _ (F.get 32 _ (by simp)) (HCC1.out _ hb44) ?_
            rintro rv45 xwu ⟨gu, rfl, hru, hgu, kbu⟩
            have hb45 := hb44.trans (kbu.mono hb44.size)
            refine openK (v := .slice (some ⟨gu, 0, none⟩) ma ma) 33 rfl F (by decide) (by simp) (fun a F => ?_)
            refine hK'.out _ _ (trivial) (fun hH => ?_)
            refine wpAnyH_ready (rs := [11]) (by kernel_rfl) (by simp) ?_
            refine AllReadyH.cons rfl (fun K' hK' => ?_) AllReadyH.nil
            obtain ⟨u46, hu46⟩ : ∃ u, (xwu).cell? ⟨w.heap.size, 3, none⟩ = some u := ⟨_, ((HBB.out _ hb45).2.1).at 3 _ rfl⟩
            refine step_stJ (by rfl) 34 26 _ rfl _ (.agg #[.slice ad md cd]) (F.get 34 _ (by simp)) (F.get 26 _ (by simp)) (stD_run hu46 (((HBB.out _ hb45).2.1).fz 3)) ?_
            refine hK'.out _ _ (trivial) (fun hH => ?_)
            have r1 := F.get 1 (.pointer (some ⟨w.heap.size, 0, none⟩)) (by simp)
            refine takeF (i := 12) (v := .pointer (some ⟨w.heap.size, 5, none⟩)) rfl (by kernel_rfl) (by kernel_rfl) (by kernel_rfl) (fun _ _ _ h => HQP.out _ _ _ _ _ h) (Or.inl ⟨by rfl, fun w hw => by go_simp⟩) hH 35 rfl F (by decide) (by simp) (fun a F => ?_)
            clear r1
            refine wpAnyH_ready (rs := [13]) (by kernel_rfl) (by simp) ?_
            refine AllReadyH.cons rfl (fun K' hK' => ?_) AllReadyH.nil
            obtain ⟨u47, hu47⟩ : ∃ u, ((xwu).setCell ⟨w.heap.size, 3, none⟩ (.slice ad md cd)).cell? ⟨w.heap.size, 5, none⟩ = some u := ⟨_, (((HBB.out _ hb45).2.1).set 3 _).at 5 _ rfl⟩
            refine step_stJ (by rfl) 35 27 _ rfl _ (.slice (some ⟨w.heap.size + 1 + 1, 0, none⟩) mv mv) (F.get 35 _ (by simp)) (F.get 27 _ (by simp)) (stV_run hu47 ((((HBB.out _ hb45).2.1).set 3 _).fz 5)) ?_
            refine hK'.out _ _ (trivial) (fun hH => ?_)
            have r1 := F.get 1 (.pointer (some ⟨w.heap.size, 0, none⟩)) (by simp)
            refine takeF (i := 14) (v := .pointer (some ⟨w.heap.size, 6, none⟩)) rfl (by kernel_rfl) (by kernel_rfl) (by kernel_rfl) (fun _ _ _ h => HQP.out _ _ _ _ _ h) (Or.inl ⟨by rfl, fun w hw => by go_simp⟩) hH 36 rfl F (by decide) (by simp) (fun a F => ?_)
            clear r1
            refine wpAnyH_ready (rs := [15]) (by kernel_rfl) (by simp) ?_
            refine AllReadyH.cons rfl (fun K' hK' => ?_) AllReadyH.nil
            obtain ⟨u48, hu48⟩ : ∃ u, (((xwu).setCell ⟨w.heap.size, 3, none⟩ (.slice ad md cd)).setCell ⟨w.heap.size, 5, none⟩ (.slice (some ⟨w.heap.size + 1 + 1, 0, none⟩) mv mv)).cell? ⟨w.heap.size, 6, none⟩ = some u := ⟨_, ((((HBB.out _ hb45).2.1).set 3 _).set 5 _).at 6 _ rfl⟩
            refine step_stJ (by rfl) 36 30 _ rfl _ (.slice at2 mt ct) (F.get 36 _ (by simp)) (F.get 30 _ (by simp)) (stT_run hu48 (((((HBB.out _ hb45).2.1).set 3 _).set 5 _).fz 6)) ?_
            refine hK'.out _ _ (trivial) (fun hH => ?_)
            have r1 := F.get 1 (.pointer (some ⟨w.heap.size, 0, none⟩)) (by simp)
            refine takeF (i := 16) (v := .pointer (some ⟨w.heap.size, 7, none⟩)) rfl (by kernel_rfl) (by kernel_rfl) (by kernel_rfl) (fun _ _ _ h => HQP.out _ _ _ _ _ h) (Or.inl ⟨by rfl, fun w hw => by go_simp⟩) hH 37 rfl F (by decide) (by simp) (fun a F => ?_)
            clear r1
            refine wpAnyH_ready (rs := [17]) (by kernel_rfl) (by simp) ?_
            refine AllReadyH.cons rfl (fun K' hK' => ?_) AllReadyH.nil
            obtain ⟨u49, hu49⟩ : ∃ u, ((((xwu).setCell ⟨w.heap.size, 3, none⟩ (.slice ad md cd)).setCell ⟨w.heap.size, 5, none⟩ (.slice (some ⟨w.heap.size + 1 + 1, 0, none⟩) mv mv)).setCell ⟨w.heap.size, 6, none⟩ (.slice at2 mt ct)).cell? ⟨w.heap.size, 7, none⟩ = some u := ⟨_, (((((HBB.out _ hb45).2.1).set 3 _).set 5 _).set 6 _).at 7 _ rfl⟩
            refine step_stJ (by rfl) 37 33 _ rfl _ (.slice (some ⟨gu, 0, none⟩) ma ma) (F.get 37 _ (by simp)) (F.get 33 _ (by simp)) (stA_run hu49 ((((((HBB.out _ hb45).2.1).set 3 _).set 5 _).set 6 _).fz 7)) ?_
            refine hK'.out _ _ (trivial) (fun hH => ?_)
            refine wpAnyH_done (by kernel_rfl) ?_ _
            exact HEND.out a xwu _ _ _ ad cd at2 ct _ ma rfl rfl rfl ⟨F.1, F.2.1, fun p hp => F.2.2 p (by simp only [List.mem_cons, List.not_mem_nil, or_false] at hp; rcases hp with rfl | rfl <;> simp)⟩ hb45 (HSD.out _ _ _ _ ad cd gd at2 ct gt gu hb0 hrd hgd kbd hrt hgt kbt hru hgu kbu)
        · refine step_ldJ (by rfl) 31 _ rfl _ _ (F.get 31 _ (by simp)) (ldA_run ((HBB.out _ hb0).2.1.at 7 _ rfl)) ?_
          refine openK (v := .slice xa ma xb) 32 rfl F (by decide) (by simp) (fun a F => ?_)
          refine hK'.out _ _ (trivial) (fun hH => ?_)
          refine wpAnyH_ready (rs := [2, 5]) (by kernel_rfl) (by simp) ?_
          refine AllReadyH.cons rfl (fun K' hK' => ?_) (AllReadyH.cons rfl (fun K' hK' => ?_) AllReadyH.nil)
          · refine step_impl_diskCopy (by rfl) 25 _ rfl _ _ (F.get 25 _ (by simp)) (HDC1.out _ hb0) ?_
            rintro rv51 xwd ⟨ad, cd, gd, rfl, hrd, hgd, kbd⟩
            have hb51 := hb0.trans (kbd.mono hb0.size)
            refine openK (v := .agg #[.slice ad md cd]) 26 rfl F (by decide) (by simp) (fun a F => ?_)
            refine hK'.out _ _ (trivial) (fun hH => ?_)
            refine wpAnyH_ready (rs := [5]) (by kernel_rfl) (by simp) ?_
            refine AllReadyH.cons rfl (fun K' hK' => ?_) AllReadyH.nil
            refine step_ldJ (by rfl) 28 _ rfl _ _ (F.get 28 _ (by simp)) (ldT_run ((HBB.out _ hb51).2.1.at 6 _ rfl)) ?_
            refine openK (v := .slice xt mt xu) 29 rfl F (by decide) (by simp) (fun a F => ?_)
            refine hK'.out _ _ (trivial) (fun hH => ?_)
            have r1 := F.get 1 (.pointer (some ⟨w.heap.size, 0, none⟩)) (by simp)
            refine takeF (i := 10) (v := .pointer (some ⟨w.heap.size, 3, none⟩)) rfl (by kernel_rfl) (by kernel_rfl) (by kernel_rfl) (fun _ _ _ h => HQP.out _ _ _ _ _ h) (Or.inl ⟨by rfl, fun w hw => by go_simp⟩) hH 34 rfl F (by decide) (by simp) (fun a F => ?_)
            clear r1
            refine wpAnyH_ready (rs := [6]) (by kernel_rfl) (by simp) ?_
            refine AllReadyH.cons rfl (fun K' hK' => ?_) AllReadyH.nil
            refine step_slices_Clone (by rfl) 29 _ rfl _ _ (F.get 29 _ (by simp)) (HCL1.out _ hb51) ?_
            rintro rv53 xwt ⟨at2, ct, gt, rfl, hrt, hgt, kbt⟩
            have hb53 := hb51.trans (kbt.mono hb51.size)
            refine openK (v := .slice at2 mt ct) 30 rfl F (by decide) (by simp) (fun a F => ?_)
            refine hK'.out _ _ (trivial) (fun hH => ?_)
            refine wpAnyH_ready (rs := [9]) (by kernel_rfl) (by simp) ?_
            refine AllReadyH.cons rfl (fun K' hK' => ?_) AllReadyH.nil
            refine step_impl_changesCopy (by rfl) 32 _ rfl _ _ (F.get 32 _ (by simp)) (HCC1.out _ hb53) ?_
            rintro rv54 xwu ⟨gu, rfl, hru, hgu, kbu⟩
            have hb54 := hb53.trans (kbu.mono hb53.size)
            refine openK (v := .slice (some ⟨gu, 0, none⟩) ma ma) 33 rfl F (by decide) (by simp) (fun a F => ?_)
            refine hK'.out _ _ (trivial) (fun hH => ?_)
            refine wpAnyH_ready (rs := [11]) (by kernel_rfl) (by simp) ?_
            refine AllReadyH.cons rfl (fun K' hK' => ?_) AllReadyH.nil
            obtain ⟨u55, hu55⟩ : ∃ u, (xwu).cell? ⟨w.heap.size, 3, none⟩ = some u := ⟨_, ((HBB.out _ hb54).2.1).at 3 _ rfl⟩
            refine step_stJ (by rfl) 34 26 _ rfl _ (.agg #[.slice ad md cd]) (F.get 34 _ (by simp)) (F.get 26 _ (by simp)) (stD_run hu55 (((HBB.out _ hb54).2.1).fz 3)) ?_
            refine hK'.out _ _ (trivial) (fun hH => ?_)
            have r1 := F.get 1 (.pointer (some ⟨w.heap.size, 0, none⟩)) (by simp)
            refine takeF (i := 12) (v := .pointer (some ⟨w.heap.size, 5, none⟩)) rfl (by kernel_rfl) (by kernel_rfl) (by kernel_rfl) (fun _ _ _ h => HQP.out _ _ _ _ _ h) (Or.inl ⟨by rfl, fun w hw => by go_simp⟩) hH 35 rfl F (by decide) (by simp) (fun a F => ?_)
            clear r1
            refine wpAnyH_ready (rs := [13]) (by kernel_rfl) (by simp) ?_
            refine AllReadyH.cons rfl (fun K' hK' => ?_) AllReadyH.nil
            obtain ⟨u56, hu56⟩ : ∃ u, ((xwu).setCell ⟨w.heap.size, 3, none⟩ (.slice ad md cd)).cell? ⟨w.heap.size, 5, none⟩ = some u := ⟨_, (((HBB.out _ hb54).2.1).set 3 _).at 5 _ rfl⟩
            refine step_stJ (by rfl) 35 27 _ rfl _ (.slice (some ⟨w.heap.size + 1 + 1, 0, none⟩) mv mv) (F.get 35 _ (by simp)) (F.get 27 _ (by simp)) (stV_run hu56 ((((HBB.out _ hb54).2.1).set 3 _).fz 5)) ?_
            refine hK'.out _ _ (trivial) (fun hH => ?_)
            have r1 := F.get 1 (.pointer (some ⟨w.heap.size, 0, none⟩)) (by simp)
            refine takeF (i := 14) (v := .pointer (some ⟨w.heap.size, 6, none⟩)) rfl (by kernel_rfl) (by kernel_rfl) (by kernel_rfl) (fun _ _ _ h => HQP.out _ _ _ _ _ h) (Or.inl ⟨by rfl, fun w hw => by go_simp⟩) hH 36 rfl F (by decide) (by simp) (fun a F => ?_)
            clear r1
            refine wpAnyH_ready (rs := [15]) (by kernel_rfl) (by simp) ?_
            refine AllReadyH.cons rfl (fun K' hK' => ?_) AllReadyH.nil
            obtain ⟨u57, hu57⟩ : ∃ u, (((xwu).setCell ⟨w.heap.size, 3, none⟩ (.slice ad md cd)).setCell ⟨w.heap.size, 5, none⟩ (.slice (some ⟨w.heap.size + 1 + 1, 0, none⟩) mv mv)).cell? ⟨w.heap.size, 6, none⟩ = some u := ⟨_, ((((HBB.out _ hb54).2.1).set 3 _).set 5 _).at 6 _ rfl⟩
            refine step_stJ (by rfl) 36 30 _ rfl _ (.slice at2 mt ct) (F.get 36 _ (by simp)) (F.get 30 _ (by simp)) (stT_run hu57 (((((HBB.out _ hb54).2.1).set 3 _).set 5 _).fz 6)) ?_
            refine hK'.out _ _ (trivial) (fun hH => ?_)
            have r1 := F.get 1 (.pointer (some ⟨w.heap.size, 0, none⟩)) (by simp)
            refine takeF (i := 16) (v := .pointer (some ⟨w.heap.size, 7, none⟩)) rfl (by kernel_rfl) (by kernel_rfl) (by kernel_rfl) (fun _ _ _ h => HQP.out _ _ _ _ _ h) (Or.inl ⟨by rfl, fun w hw => by go_simp⟩) hH 37 rfl F (by decide) (by simp) (fun a F => ?_)
            clear r1
            refine wpAnyH_ready (rs := [17]) (by kernel_rfl) (by simp) ?_
            refine AllReadyH.cons rfl (fun K' hK' => ?_) AllReadyH.nil
            obtain ⟨u58, hu58⟩ : ∃ u, ((((xwu).setCell ⟨w.heap.size, 3, none⟩ (.slice ad md cd)).setCell ⟨w.heap.size, 5, none⟩ (.slice (some ⟨w.heap.size + 1 + 1, 0, none⟩) mv mv)).setCell ⟨w.heap.size, 6, none⟩ (.slice at2 mt ct)).cell? ⟨w.heap.size, 7, none⟩ = some u := ⟨_, (((((HBB.out _ hb54).2.1).set 3 _).set 5 _).set 6 _).at 7 _ rfl⟩
            refine step_stJ (by rfl) 37 33 _ rfl _ (.slice (some ⟨gu, 0, none⟩) ma ma) (F.get 37 _ (by simp)) (F.get 33 _ (by simp)) (stA_run hu58 ((((((HBB.out _ hb54).2.1).set 3 _).set 5 _).set 6 _).fz 7)) ?_
            refine hK'.out _ _ (trivial) (fun hH => ?_)
            refine wpAnyH_done (by kernel_rfl) ?_ _
            exact HEND.out a xwu _ _ _ ad cd at2 ct _ ma rfl rfl rfl ⟨F.1, F.2.1, fun p hp => F.2.2 p (by simp only [List.mem_cons, List.not_mem_nil, or_false] at hp; rcases hp with rfl | rfl <;> simp)⟩ hb54 (HSD.out _ _ _ _ ad cd gd at2 ct gt gu hb0 hrd hgd kbd hrt hgt kbt hru hgu kbu)
          · refine step_ldJ (by rfl) 28 _ rfl _ _ (F.get 28 _ (by simp)) (ldT_run ((HBB.out _ hb0).2.1.at 6 _ rfl)) ?_
            refine openK (v := .slice xt mt xu) 29 rfl F (by decide) (by simp) (fun a F => ?_)
            refine hK'.out _ _ (trivial) (fun hH => ?_)
            refine wpAnyH_ready (rs := [2]) (by kernel_rfl) (by simp) ?_
            refine AllReadyH.cons rfl (fun K' hK' => ?_) AllReadyH.nil
            refine step_impl_diskCopy (by rfl) 25 _ rfl _ _ (F.get 25 _ (by simp)) (HDC1.out _ hb0) ?_
            rintro rv60 xwd ⟨ad, cd, gd, rfl, hrd, hgd, kbd⟩
            have hb60 := hb0.trans (kbd.mono hb0.size)
            refine openK (v := .agg #[.slice ad md cd]) 26 rfl F (by decide) (by simp) (fun a F => ?_)
            refine hK'.out _ _ (trivial) (fun hH => ?_)
            have r1 := F.get 1 (.pointer (some ⟨w.heap.size, 0, none⟩)) (by simp)
            refine takeF (i := 10) (v := .pointer (some ⟨w.heap.size, 3, none⟩)) rfl (by kernel_rfl) (by kernel_rfl) (by kernel_rfl) (fun _ _ _ h => HQP.out _ _ _ _ _ h) (Or.inl ⟨by rfl, fun w hw => by go_simp⟩) hH 34 rfl F (by decide) (by simp) (fun a F => ?_)
            clear r1
            refine wpAnyH_ready (rs := [6]) (by kernel_rfl) (by simp) ?_
            refine AllReadyH.cons rfl (fun K' hK' => ?_) AllReadyH.nil
            refine step_slices_Clone (by rfl) 29 _ rfl _ _ (F.get 29 _ (by simp)) (HCL1.out _ hb60) ?_
            rintro rv61 xwt ⟨at2, ct, gt, rfl, hrt, hgt, kbt⟩
            have hb61 := hb60.trans (kbt.mono hb60.size)
            refine openK (v := .slice at2 mt ct) 30 rfl F (by decide) (by simp) (fun a F => ?_)
            refine hK'.out _ _ (trivial) (fun hH => ?_)
            refine wpAnyH_ready (rs := [9]) (by kernel_rfl) (by simp) ?_
            refine AllReadyH.cons rfl (fun K' hK' => ?_) AllReadyH.nil
            refine step_impl_changesCopy (by rfl) 32 _ rfl _ _ (F.get 32 _ (by simp)) (HCC1.out _ hb61) ?_
            rintro rv62 xwu ⟨gu, rfl, hru, hgu, kbu⟩
            have hb62 := hb61.trans (kbu.mono hb61.size)
            refine openK (v := .slice (some ⟨gu, 0, none⟩) ma ma) 33 rfl F (by decide) (by simp) (fun a F => ?_)
            refine hK'.out _ _ (trivial) (fun hH => ?_)
            refine wpAnyH_ready (rs := [11]) (by kernel_rfl) (by simp) ?_
            refine AllReadyH.cons rfl (fun K' hK' => ?_) AllReadyH.nil
            obtain ⟨u63, hu63⟩ : ∃ u, (xwu).cell? ⟨w.heap.size, 3, none⟩ = some u := ⟨_, ((HBB.out _ hb62).2.1).at 3 _ rfl⟩
            refine step_stJ (by rfl) 34 26 _ rfl _ (.agg #[.slice ad md cd]) (F.get 34 _ (by simp)) (F.get 26 _ (by simp)) (stD_run hu63 (((HBB.out _ hb62).2.1).fz 3)) ?_
            refine hK'.out _ _ (trivial) (fun hH => ?_)
            have r1 := F.get 1 (.pointer (some ⟨w.heap.size, 0, none⟩)) (by simp)
            refine takeF (i := 12) (v := .pointer (some ⟨w.heap.size, 5, none⟩)) rfl (by kernel_rfl) (by kernel_rfl) (by kernel_rfl) (fun _ _ _ h => HQP.out _ _ _ _ _ h) (Or.inl ⟨by rfl, fun w hw => by go_simp⟩) hH 35 rfl F (by decide) (by simp) (fun a F => ?_)
            clear r1
            refine wpAnyH_ready (rs := [13]) (by kernel_rfl) (by simp) ?_
            refine AllReadyH.cons rfl (fun K' hK' => ?_) AllReadyH.nil
            obtain ⟨u64, hu64⟩ : ∃ u, ((xwu).setCell ⟨w.heap.size, 3, none⟩ (.slice ad md cd)).cell? ⟨w.heap.size, 5, none⟩ = some u := ⟨_, (((HBB.out _ hb62).2.1).set 3 _).at 5 _ rfl⟩
            refine step_stJ (by rfl) 35 27 _ rfl _ (.slice (some ⟨w.heap.size + 1 + 1, 0, none⟩) mv mv) (F.get 35 _ (by simp)) (F.get 27 _ (by simp)) (stV_run hu64 ((((HBB.out _ hb62).2.1).set 3 _).fz 5)) ?_
            refine hK'.out _ _ (trivial) (fun hH => ?_)
            have r1 := F.get 1 (.pointer (some ⟨w.heap.size, 0, none⟩)) (by simp)
            refine takeF (i := 14) (v := .pointer (some ⟨w.heap.size, 6, none⟩)) rfl (by kernel_rfl) (by kernel_rfl) (by kernel_rfl) (fun _ _ _ h => HQP.out _ _ _ _ _ h) (Or.inl ⟨by rfl, fun w hw => by go_simp⟩) hH 36 rfl F (by decide) (by simp) (fun a F => ?_)
            clear r1
            refine wpAnyH_ready (rs := [15]) (by kernel_rfl) (by simp) ?_
            refine AllReadyH.cons rfl (fun K' hK' => ?_) AllReadyH.nil
            obtain ⟨u65, hu65⟩ : ∃ u, (((xwu).setCell ⟨w.heap.size, 3, none⟩ (.slice ad md cd)).setCell ⟨w.heap.size, 5, none⟩ (.slice (some ⟨w.heap.size + 1 + 1, 0, none⟩) mv mv)).cell? ⟨w.heap.size, 6, none⟩ = some u := ⟨_, ((((HBB.out _ hb62).2.1).set 3 _).set 5 _).at 6 _ rfl⟩
            refine step_stJ (by rfl) 36 30 _ rfl _ (.slice at2 mt ct) (F.get 36 _ (by simp)) (F.get 30 _ (by simp)) (stT_run hu65 (((((HBB.out _ hb62).2.1).set 3 _).set 5 _).fz 6)) ?_
            refine hK'.out _ _ (trivial) (fun hH => ?_)
            have r1 := F.get 1 (.pointer (some ⟨w.heap.size, 0, none⟩)) (by simp)
            refine takeF (i := 16) (v := .pointer (some ⟨w.heap.size, 7, none⟩)) rfl (by kernel_rfl) (by kernel_rfl) (by kernel_rfl) (fun _ _ _ h => HQP.out _ _ _ _ _ h) (Or.inl ⟨by rfl, fun w hw => by go_simp⟩) hH 37 rfl F (by decide) (by simp) (fun a F => ?_)
            clear r1
            refine wpAnyH_ready (rs := [17]) (by kernel_rfl) (by simp) ?_
            refine AllReadyH.cons rfl (fun K' hK' => ?_) AllReadyH.nil
            obtain ⟨u66, hu66⟩ : ∃ u, ((((xwu).setCell ⟨w.heap.size, 3, none⟩ (.slice ad md cd)).setCell ⟨w.heap.size, 5, none⟩ (.slice (some ⟨w.heap.size + 1 + 1, 0, none⟩) mv mv)).setCell ⟨w.heap.size, 6, none⟩ (.slice at2 mt ct)).cell? ⟨w.heap.size, 7, none⟩ = some u := ⟨_, (((((HBB.out _ hb62).2.1).set 3 _).set 5 _).set 6 _).at 7 _ rfl⟩
            refine step_stJ (by rfl) 37 33 _ rfl _ (.slice (some ⟨gu, 0, none⟩) ma ma) (F.get 37 _ (by simp)) (F.get 33 _ (by simp)) (stA_run hu66 ((((((HBB.out _ hb62).2.1).set 3 _).set 5 _).set 6 _).fz 7)) ?_
            refine hK'.out _ _ (trivial) (fun hH => ?_)
            refine wpAnyH_done (by kernel_rfl) ?_ _
            exact HEND.out a xwu _ _ _ ad cd at2 ct _ ma rfl rfl rfl ⟨F.1, F.2.1, fun p hp => F.2.2 p (by simp only [List.mem_cons, List.not_mem_nil, or_false] at hp; rcases hp with rfl | rfl <;> simp)⟩ hb62 (HSD.out _ _ _ _ ad cd gd at2 ct gt gu hb0 hrd hgd kbd hrt hgt kbt hru hgu kbu)
      · refine step_ldJ (by rfl) 28 _ rfl _ _ (F.get 28 _ (by simp)) (ldT_run ((HBB.out _ hb0).2.1.at 6 _ rfl)) ?_
        refine openK (v := .slice xt mt xu) 29 rfl F (by decide) (by simp) (fun a F => ?_)
        refine hK'.out _ _ (trivial) (fun hH => ?_)
        refine wpAnyH_ready (rs := [1, 8]) (by kernel_rfl) (by simp) ?_
        refine AllReadyH.cons rfl (fun K' hK' => ?_) (AllReadyH.cons rfl (fun K' hK' => ?_) AllReadyH.nil)
        · refine step_ldJ (by rfl) 24 _ rfl _ _ (F.get 24 _ (by simp)) (ldD_run ((HBB.out _ hb0).2.1.at 3 _ rfl)) ?_
          refine openK (v := .agg #[.slice xd md xe]) 25 rfl F (by decide) (by simp) (fun a F => ?_)
          refine hK'.out _ _ (trivial) (fun hH => ?_)
          refine wpAnyH_ready (rs := [2, 8]) (by kernel_rfl) (by simp) ?_
          refine AllReadyH.cons rfl (fun K' hK' => ?_) (AllReadyH.cons rfl (fun K' hK' => ?_) AllReadyH.nil)
          · refine step_impl_diskCopy (by rfl) 25 _ rfl _ _ (F.get 25 _ (by simp)) (HDC1.out _ hb0) ?_
            rintro rv69 xwd ⟨ad, cd, gd, rfl, hrd, hgd, kbd⟩
            have hb69 := hb0.trans (kbd.mono hb0.size)
            refine openK (v := .agg #[.slice ad md cd]) 26 rfl F (by decide) (by simp) (fun a F => ?_)
            refine hK'.out _ _ (trivial) (fun hH => ?_)
            refine wpAnyH_ready (rs := [6, 8]) (by kernel_rfl) (by simp) ?_
            refine AllReadyH.cons rfl (fun K' hK' => ?_) (AllReadyH.cons rfl (fun K' hK' => ?_) AllReadyH.nil)
            · refine step_slices_Clone (by rfl) 29 _ rfl _ _ (F.get 29 _ (by simp)) (HCL1.out _ hb69) ?_
              rintro rv70 xwt ⟨at2, ct, gt, rfl, hrt, hgt, kbt⟩
              have hb70 := hb69.trans (kbt.mono hb69.size)
              refine openK (v := .slice at2 mt ct) 30 rfl F (by decide) (by simp) (fun a F => ?_)
              refine hK'.out _ _ (trivial) (fun hH => ?_)
              refine wpAnyH_ready (rs := [8]) (by kernel_rfl) (by simp) ?_
              refine AllReadyH.cons rfl (fun K' hK' => ?_) AllReadyH.nil
              refine step_ldJ (by rfl) 31 _ rfl _ _ (F.get 31 _ (by simp)) (ldA_run ((HBB.out _ hb70).2.1.at 7 _ rfl)) ?_
              refine openK (v := .slice xa ma xb) 32 rfl F (by decide) (by simp) (fun a F => ?_)
              refine hK'.out _ _ (trivial) (fun hH => ?_)
              have r1 := F.get 1 (.pointer (some ⟨w.heap.size, 0, none⟩)) (by simp)
              refine takeF (i := 10) (v := .pointer (some ⟨w.heap.size, 3, none⟩)) rfl (by kernel_rfl) (by kernel_rfl) (by kernel_rfl) (fun _ _ _ h => HQP.out _ _ _ _ _ h) (Or.inl ⟨by rfl, fun w hw => by go_simp⟩) hH 34 rfl F (by decide) (by simp) (fun a F => ?_)
              clear r1
              refine wpAnyH_ready (rs := [9]) (by kernel_rfl) (by simp) ?_
              refine AllReadyH.cons rfl (fun K' hK' => ?_) AllReadyH.nil
              refine step_impl_changesCopy (by rfl) 32 _ rfl _ _ (F.get 32 _ (by simp)) (HCC1.out _ hb70) ?_
              rintro rv72 xwu ⟨gu, rfl, hru, hgu, kbu⟩
              have hb72 := hb70.trans (kbu.mono hb70.size)
              refine openK (v := .slice (some ⟨gu, 0, none⟩) ma ma) 33 rfl F (by decide) (by simp) (fun a F => ?_)
              refine hK'.out _ _ (trivial) (fun hH => ?_)
              refine wpAnyH_ready (rs := [11]) (by kernel_rfl) (by simp) ?_
              refine AllReadyH.cons rfl (fun K' hK' => ?_) AllReadyH.nil
              obtain ⟨u73, hu73⟩ : ∃ u, (xwu).cell? ⟨w.heap.size, 3, none⟩ = some u := ⟨_, ((HBB.out _ hb72).2.1).at 3 _ rfl⟩
              refine step_stJ (by rfl) 34 26 _ rfl _ (.agg #[.slice ad md cd]) (F.get 34 _ (by simp)) (F.get 26 _ (by simp)) (stD_run hu73 (((HBB.out _ hb72).2.1).fz 3)) ?_
              refine hK'.out _ _ (trivial) (fun hH => ?_)
              have r1 := F.get 1 (.pointer (some ⟨w.heap.size, 0, none⟩)) (by simp)
              refine takeF (i := 12) (v := .pointer (some ⟨w.heap.size, 5, none⟩)) rfl (by kernel_rfl) (by kernel_rfl) (by kernel_rfl) (fun _ _ _ h => HQP.out _ _ _ _ _ h) (Or.inl ⟨by rfl, fun w hw => by go_simp⟩) hH 35 rfl F (by decide) (by simp) (fun a F => ?_)
              clear r1
              refine wpAnyH_ready (rs := [13]) (by kernel_rfl) (by simp) ?_
              refine AllReadyH.cons rfl (fun K' hK' => ?_) AllReadyH.nil
              obtain ⟨u74, hu74⟩ : ∃ u, ((xwu).setCell ⟨w.heap.size, 3, none⟩ (.slice ad md cd)).cell? ⟨w.heap.size, 5, none⟩ = some u := ⟨_, (((HBB.out _ hb72).2.1).set 3 _).at 5 _ rfl⟩
              refine step_stJ (by rfl) 35 27 _ rfl _ (.slice (some ⟨w.heap.size + 1 + 1, 0, none⟩) mv mv) (F.get 35 _ (by simp)) (F.get 27 _ (by simp)) (stV_run hu74 ((((HBB.out _ hb72).2.1).set 3 _).fz 5)) ?_
              refine hK'.out _ _ (trivial) (fun hH => ?_)
              have r1 := F.get 1 (.pointer (some ⟨w.heap.size, 0, none⟩)) (by simp)
              refine takeF (i := 14) (v := .pointer (some ⟨w.heap.size, 6, none⟩)) rfl (by kernel_rfl) (by kernel_rfl) (by kernel_rfl) (fun _ _ _ h => HQP.out _ _ _ _ _ h) (Or.inl ⟨by rfl, fun w hw => by go_simp⟩) hH 36 rfl F (by decide) (by simp) (fun a F => ?_)
              clear r1
              refine wpAnyH_ready (rs := [15]) (by kernel_rfl) (by simp) ?_
              refine AllReadyH.cons rfl (fun K' hK' => ?_) AllReadyH.nil
              obtain ⟨u75, hu75⟩ : ∃ u, (((xwu).setCell ⟨w.heap.size, 3, none⟩ (.slice ad md cd)).setCell ⟨w.heap.size, 5, none⟩ (.slice (some ⟨w.heap.size + 1 + 1, 0, none⟩) mv mv)).cell? ⟨w.heap.size, 6, none⟩ = some u := ⟨_, ((((HBB.out _ hb72).2.1).set 3 _).set 5 _).at 6 _ rfl⟩
              refine step_stJ (by rfl) 36 30 _ rfl _ (.slice at2 mt ct) (F.get 36 _ (by simp)) (F.get 30 _ (by simp)) (stT_run hu75 (((((HBB.out _ hb72).2.1).set 3 _).set 5 _).fz 6)) ?_
              refine hK'.out _ _ (trivial) (fun hH => ?_)
              have r1 := F.get 1 (.pointer (some ⟨w.heap.size, 0, none⟩)) (by simp)
              refine takeF (i := 16) (v := .pointer (some ⟨w.heap.size, 7, none⟩)) rfl (by kernel_rfl) (by kernel_rfl) (by kernel_rfl) (fun _ _ _ h => HQP.out _ _ _ _ _ h) (Or.inl ⟨by rfl, fun w hw => by go_simp⟩) hH 37 rfl F (by decide) (by simp) (fun a F => ?_)
              clear r1
              refine wpAnyH_ready (rs := [17]) (by kernel_rfl) (by simp) ?_
              refine AllReadyH.cons rfl (fun K' hK' => ?_) AllReadyH.nil
              obtain ⟨u76, hu76⟩ : ∃ u, ((((xwu).setCell ⟨w.heap.size, 3, none⟩ (.slice ad md cd)).setCell ⟨w.heap.size, 5, none⟩ (.slice (some ⟨w.heap.size + 1 + 1, 0, none⟩) mv mv)).setCell ⟨w.heap.size, 6, none⟩ (.slice at2 mt ct)).cell? ⟨w.heap.size, 7, none⟩ = some u := ⟨_, (((((HBB.out _ hb72).2.1).set 3 _).set 5 _).set 6 _).at 7 _ rfl⟩
              refine step_stJ (by rfl) 37 33 _ rfl _ (.slice (some ⟨gu, 0, none⟩) ma ma) (F.get 37 _ (by simp)) (F.get 33 _ (by simp)) (stA_run hu76 ((((((HBB.out _ hb72).2.1).set 3 _).set 5 _).set 6 _).fz 7)) ?_
              refine hK'.out _ _ (trivial) (fun hH => ?_)
              refine wpAnyH_done (by kernel_rfl) ?_ _
              exact HEND.out a xwu _ _ _ ad cd at2 ct _ ma rfl rfl rfl ⟨F.1, F.2.1, fun p hp => F.2.2 p (by simp only [List.mem_cons, List.not_mem_nil, or_false] at hp; rcases hp with rfl | rfl <;> simp)⟩ hb72 (HSD.out _ _ _ _ ad cd gd at2 ct gt gu hb0 hrd hgd kbd hrt hgt kbt hru hgu kbu)
            · refine step_ldJ (by rfl) 31 _ rfl _ _ (F.get 31 _ (by simp)) (ldA_run ((HBB.out _ hb69).2.1.at 7 _ rfl)) ?_
              refine openK (v := .slice xa ma xb) 32 rfl F (by decide) (by simp) (fun a F => ?_)
              refine hK'.out _ _ (trivial) (fun hH => ?_)
              have r1 := F.get 1 (.pointer (some ⟨w.heap.size, 0, none⟩)) (by simp)
              refine takeF (i := 10) (v := .pointer (some ⟨w.heap.size, 3, none⟩)) rfl (by kernel_rfl) (by kernel_rfl) (by kernel_rfl) (fun _ _ _ h => HQP.out _ _ _ _ _ h) (Or.inl ⟨by rfl, fun w hw => by go_simp⟩) hH 34 rfl F (by decide) (by simp) (fun a F => ?_)
              clear r1
              refine wpAnyH_ready (rs := [6]) (by kernel_rfl) (by simp) ?_
              refine AllReadyH.cons rfl (fun K' hK' => ?_) AllReadyH.nil
              refine step_slices_Clone (by rfl) 29 _ rfl _ _ (F.get 29 _ (by simp)) (HCL1.out _ hb69) ?_
              rintro rv78 xwt ⟨at2, ct, gt, rfl, hrt, hgt, kbt⟩
              have hb78 := hb69.trans (kbt.mono hb69.size)
              refine openK (v := .slice at2 mt ct) 30 rfl F (by decide) (by simp) (fun a F => ?_)
              refine hK'.out _ _ (trivial) (fun hH => ?_)
              refine wpAnyH_ready (rs := [9]) (by kernel_rfl) (by simp) ?_
              refine AllReadyH.cons rfl (fun K' hK' => ?_) AllReadyH.nil
              refine step_impl_changesCopy (by rfl) 32 _ rfl _ _ (F.get 32 _ (by simp)) (HCC1.out _ hb78) ?_
              rintro rv79 xwu ⟨gu, rfl, hru, hgu, kbu⟩
              have hb79 := hb78.trans (kbu.mono hb78.size)
              refine openK (v := .slice (some ⟨gu, 0, none⟩) ma ma) 33 rfl F (by decide) (by simp) (fun a F => ?_)
              refine hK'.out _ _ (trivial) (fun hH => ?_)
              refine wpAnyH_ready (rs := [11]) (by kernel_rfl) (by simp) ?_
              refine AllReadyH.cons rfl (fun K' hK' => ?_) AllReadyH.nil
              obtain ⟨u80, hu80⟩ : ∃ u, (xwu).cell? ⟨w.heap.size, 3, none⟩ = some u := ⟨_, ((HBB.out _ hb79).2.1).at 3 _ rfl⟩
              refine step_stJ (by rfl) 34 26 _ rfl _ (.agg #[.slice ad md cd]) (F.get 34 _ (by simp)) (F.get 26 _ (by simp)) (stD_run hu80 (((HBB.out _ hb79).2.1).fz 3)) ?_
              refine hK'.out _ _ (trivial) (fun hH => ?_)
              have r1 := F.get 1 (.pointer (some ⟨w.heap.size, 0, none⟩)) (by simp)
              refine takeF (i := 12) (v := .pointer (some ⟨w.heap.size, 5, none⟩)) rfl (by kernel_rfl) (by kernel_rfl) (by kernel_rfl) (fun _ _ _ h => HQP.out _ _ _ _ _ h) (Or.inl ⟨by rfl, fun w hw => by go_simp⟩) hH 35 rfl F (by decide) (by simp) (fun a F => ?_)
              clear r1
              refine wpAnyH_ready (rs := [13]) (by kernel_rfl) (by simp) ?_
              refine AllReadyH.cons rfl (fun K' hK' => ?_) AllReadyH.nil
              obtain ⟨u81, hu81⟩ : ∃ u, ((xwu).setCell ⟨w.heap.size, 3, none⟩ (.slice ad md cd)).cell? ⟨w.heap.size, 5, none⟩ = some u := ⟨_, (((HBB.out _ hb79).2.1).set 3 _).at 5 _ rfl⟩
              refine step_stJ (by rfl) 35 27 _ rfl _ (.slice (some ⟨w.heap.size + 1 + 1, 0, none⟩) mv mv) (F.get 35 _ (by simp)) (F.get 27 _ (by simp)) (stV_run hu81 ((((HBB.out _ hb79).2.1).set 3 _).fz 5)) ?_
              refine hK'.out _ _ (trivial) (fun hH => ?_)
              have r1 := F.get 1 (.pointer (some ⟨w.heap.size, 0, none⟩)) (by simp)
              refine takeF (i := 14) (v := .pointer (some ⟨w.heap.size, 6, none⟩)) rfl (by kernel_rfl) (by kernel_rfl) (by kernel_rfl) (fun _ _ _ h => HQP.out _ _ _ _ _ h) (Or.inl ⟨by rfl, fun w hw => by go_simp⟩) hH 36 rfl F (by decide) (by simp) (fun a F => ?_)
              clear r1
              refine wpAnyH_ready (rs := [15]) (by kernel_rfl) (by simp) ?_
              refine AllReadyH.cons rfl (fun K' hK' => ?_) AllReadyH.nil
              obtain ⟨u82, hu82⟩ : ∃ u, (((xwu).setCell ⟨w.heap.size, 3, none⟩ (.slice ad md cd)).setCell ⟨w.heap.size, 5, none⟩ (.slice (some ⟨w.heap.size + 1 + 1, 0, none⟩) mv mv)).cell? ⟨w.heap.size, 6, none⟩ = some u := ⟨_, ((((HBB.out _ hb79).2.1).set 3 _).set 5 _).at 6 _ rfl⟩
              refine step_stJ (by rfl) 36 30 _ rfl _ (.slice at2 mt ct) (F.get 36 _ (by simp)) (F.get 30 _ (by simp)) (stT_run hu82 (((((HBB.out _ hb79).2.1).set 3 _).set 5 _).fz 6)) ?_
              refine hK'.out _ _ (trivial) (fun hH => ?_)
              have r1 := F.get 1 (.pointer (some ⟨w.heap.size, 0, none⟩)) (by simp)
              refine takeF (i := 16) (v := .pointer (some ⟨w.heap.size, 7, none⟩)) rfl (by kernel_rfl) (by kernel_rfl) (by kernel_rfl) (fun _ _ _ h => HQP.out _ _ _ _ _ h) (Or.inl ⟨by rfl, fun w hw => by go_simp⟩) hH 37 rfl F (by decide) (by simp) (fun a F => ?_)
              clear r1
              refine wpAnyH_ready (rs := [17]) (by kernel_rfl) (by simp) ?_
              refine AllReadyH.cons rfl (fun K' hK' => ?_) AllReadyH.nil
              obtain ⟨u83, hu83⟩ : ∃ u, ((((xwu).setCell ⟨w.heap.size, 3, none⟩ (.slice ad md cd)).setCell ⟨w.heap.size, 5, none⟩ (.slice (some ⟨w.heap.size + 1 + 1, 0, none⟩) mv mv)).setCell ⟨w.heap.size, 6, none⟩ (.slice at2 mt ct)).cell? ⟨w.heap.size, 7, none⟩ = some u := ⟨_, (((((HBB.out _ hb79).2.1).set 3 _).set 5 _).set 6 _).at 7 _ rfl⟩
              refine step_stJ (by rfl) 37 33 _ rfl _ (.slice (some ⟨gu, 0, none⟩) ma ma) (F.get 37 _ (by simp)) (F.get 33 _ (by simp)) (stA_run hu83 ((((((HBB.out _ hb79).2.1).set 3 _).set 5 _).set 6 _).fz 7)) ?_
              refine hK'.out _ _ (trivial) (fun hH => ?_)
              refine wpAnyH_done (by kernel_rfl) ?_ _
              exact HEND.out a xwu _ _ _ ad cd at2 ct _ ma rfl rfl rfl ⟨F.1, F.2.1, fun p hp => F.2.2 p (by simp only [List.mem_cons, List.not_mem_nil, or_false] at hp; rcases hp with rfl | rfl <;> simp)⟩ hb79 (HSD.out _ _ _ _ ad cd gd at2 ct gt gu hb0 hrd hgd kbd hrt hgt kbt hru hgu kbu)
          · refine step_ldJ (by rfl) 31 _ rfl _ _ (F.get 31 _ (by simp)) (ldA_run ((HBB.out _ hb0).2.1.at 7 _ rfl)) ?_
            refine openK (v := .slice xa ma xb) 32 rfl F (by decide) (by simp) (fun a F => ?_)
            refine hK'.out _ _ (trivial) (fun hH => ?_)
            refine wpAnyH_ready (rs := [2]) (by kernel_rfl) (by simp) ?_
            refine AllReadyH.cons rfl (fun K' hK' => ?_) AllReadyH.nil
            refine step_impl_diskCopy (by rfl) 25 _ rfl _ _ (F.get 25 _ (by simp)) (HDC1.out _ hb0) ?_
            rintro rv85 xwd ⟨ad, cd, gd, rfl, hrd, hgd, kbd⟩
            have hb85 := hb0.trans (kbd.mono hb0.size)
            refine openK (v := .agg #[.slice ad md cd]) 26 rfl F (by decide) (by simp) (fun a F => ?_)
            refine hK'.out _ _ (trivial) (fun hH => ?_)
            have r1 := F.get 1 (.pointer (some ⟨w.heap.size, 0, none⟩)) (by simp)
            refine takeF (i := 10) (v := .pointer (some ⟨w.heap.size, 3, none⟩)) rfl (by kernel_rfl) (by kernel_rfl) (by kernel_rfl) (fun _ _ _ h => HQP.out _ _ _ _ _ h) (Or.inl ⟨by rfl, fun w hw => by go_simp⟩) hH 34 rfl F (by decide) (by simp) (fun a F => ?_)
            clear r1
            refine wpAnyH_ready (rs := [6]) (by kernel_rfl) (by simp) ?_
            refine AllReadyH.cons rfl (fun K' hK' => ?_) AllReadyH.nil
            refine step_slices_Clone (by rfl) 29 _ rfl _ _ (F.get 29 _ (by simp)) (HCL1.out _ hb85) ?_
            rintro rv86 xwt ⟨at2, ct, gt, rfl, hrt, hgt, kbt⟩
            have hb86 := hb85.trans (kbt.mono hb85.size)
            refine openK (v := .slice at2 mt ct) 30 rfl F (by decide) (by simp) (fun a F => ?_)
            refine hK'.out _ _ (trivial) (fun hH => ?_)
            refine wpAnyH_ready (rs := [9]) (by kernel_rfl) (by simp) ?_
            refine AllReadyH.cons rfl (fun K' hK' => ?_) AllReadyH.nil
            refine step_impl_changesCopy (by rfl) 32 _ rfl _ _ (F.get 32 _ (by simp)) (HCC1.out _ hb86) ?_
            rintro rv87 xwu ⟨gu, rfl, hru, hgu, kbu⟩
            have hb87 := hb86.trans (kbu.mono hb86.size)
            refine openK (v := .slice (some ⟨gu, 0, none⟩) ma ma) 33 rfl F (by decide) (by simp) (fun a F => ?_)
            refine hK'.out _ _ (trivial) (fun hH => ?_)
            refine wpAnyH_ready (rs := [11]) (by kernel_rfl) (by simp) ?_
            refine AllReadyH.cons rfl (fun K' hK' => ?_) AllReadyH.nil
            obtain ⟨u88, hu88⟩ : ∃ u, (xwu).cell? ⟨w.heap.size, 3, none⟩ = some u := ⟨_, ((HBB.out _ hb87).2.1).at 3 _ rfl⟩
            refine step_stJ (by rfl) 34 26 _ rfl _ (.agg #[.slice ad md cd]) (F.get 34 _ (by simp)) (F.get 26 _ (by simp)) (stD_run hu88 (((HBB.out _ hb87).2.1).fz 3)) ?_
            refine hK'.out _ _ (trivial) (fun hH => ?_)
            have r1 := F.get 1 (.pointer (some ⟨w.heap.size, 0, none⟩)) (by simp)
            refine takeF (i := 12) (v := .pointer (some ⟨w.heap.size, 5, none⟩)) rfl (by kernel_rfl) (by kernel_rfl) (by kernel_rfl) (fun _ _ _ h => HQP.out _ _ _ _ _ h) (Or.inl ⟨by rfl, fun w hw => by go_simp⟩) hH 35 rfl F (by decide) (by simp) (fun a F => ?_)
            clear r1
            refine wpAnyH_ready (rs := [13]) (by kernel_rfl) (by simp) ?_
            refine AllReadyH.cons rfl (fun K' hK' => ?_) AllReadyH.nil
            obtain ⟨u89, hu89⟩ : ∃ u, ((xwu).setCell ⟨w.heap.size, 3, none⟩ (.slice ad md cd)).cell? ⟨w.heap.size, 5, none⟩ = some u := ⟨_, (((HBB.out _ hb87).2.1).set 3 _).at 5 _ rfl⟩
            refine step_stJ (by rfl) 35 27 _ rfl _ (.slice (some ⟨w.heap.size + 1 + 1, 0, none⟩) mv mv) (F.get 35 _ (by simp)) (F.get 27 _ (by simp)) (stV_run hu89 ((((HBB.out _ hb87).2.1).set 3 _).fz 5)) ?_
            refine hK'.out _ _ (trivial) (fun hH => ?_)
            have r1 := F.get 1 (.pointer (some ⟨w.heap.size, 0, none⟩)) (by simp)
            refine takeF (i := 14) (v := .pointer (some ⟨w.heap.size, 6, none⟩)) rfl (by kernel_rfl) (by kernel_rfl) (by kernel_rfl) (fun _ _ _ h => HQP.out _ _ _ _ _ h) (Or.inl ⟨by rfl, fun w hw => by go_simp⟩) hH 36 rfl F (by decide) (by simp) (fun a F => ?_)
            clear r1
            refine wpAnyH_ready (rs := [15]) (by kernel_rfl) (by simp) ?_
            refine AllReadyH.cons rfl (fun K' hK' => ?_) AllReadyH.nil
            obtain ⟨u90, hu90⟩ : ∃ u, (((xwu).setCell ⟨w.heap.size, 3, none⟩ (.slice ad md cd)).setCell ⟨w.heap.size, 5, none⟩ (.slice (some ⟨w.heap.size + 1 + 1, 0, none⟩) mv mv)).cell? ⟨w.heap.size, 6, none⟩ = some u := ⟨_, ((((HBB.out _ hb87).2.1).set 3 _).set 5 _).at 6 _ rfl⟩
            refine step_stJ (by rfl) 36 30 _ rfl _ (.slice at2 mt ct) (F.get 36 _ (by simp)) (F.get 30 _ (by simp)) (stT_run hu90 (((((HBB.out _ hb87).2.1).set 3 _).set 5 _).fz 6)) ?_
            refine hK'.out _ _ (trivial) (fun hH => ?_)
            have r1 := F.get 1 (.pointer (some ⟨w.heap.size, 0, none⟩)) (by simp)
            refine takeF (i := 16) (v := .pointer (some ⟨w.heap.size, 7, none⟩)) rfl (by kernel_rfl) (by kernel_rfl) (by kernel_rfl) (fun _ _ _ h => HQP.out _ _ _ _ _ h) (Or.inl ⟨by rfl, fun w hw => by go_simp⟩) hH 37 rfl F (by decide) (by simp) (fun a F => ?_)
            clear r1
            refine wpAnyH_ready (rs := [17]) (by kernel_rfl) (by simp) ?_
            refine AllReadyH.cons rfl (fun K' hK' => ?_) AllReadyH.nil
            obtain ⟨u91, hu91⟩ : ∃ u, ((((xwu).setCell ⟨w.heap.size, 3, none⟩ (.slice ad md cd)).setCell ⟨w.heap.size, 5, none⟩ (.slice (some ⟨w.heap.size + 1 + 1, 0, none⟩) mv mv)).setCell ⟨w.heap.size, 6, none⟩ (.slice at2 mt ct)).cell? ⟨w.heap.size, 7, none⟩ = some u := ⟨_, (((((HBB.out _ hb87).2.1).set 3 _).set 5 _).set 6 _).at 7 _ rfl⟩
            refine step_stJ (by rfl) 37 33 _ rfl _ (.slice (some ⟨gu, 0, none⟩) ma ma) (F.get 37 _ (by simp)) (F.get 33 _ (by simp)) (stA_run hu91 ((((((HBB.out _ hb87).2.1).set 3 _).set 5 _).set 6 _).fz 7)) ?_
            refine hK'.out _ _ (trivial) (fun hH => ?_)
            refine wpAnyH_done (by kernel_rfl) ?_ _
            exact HEND.out a xwu _ _ _ ad cd at2 ct _ ma rfl rfl rfl ⟨F.1, F.2.1, fun p hp => F.2.2 p (by simp only [List.mem_cons, List.not_mem_nil, or_false] at hp; rcases hp with rfl | rfl <;> simp)⟩ hb87 (HSD.out _ _ _ _ ad cd gd at2 ct gt gu hb0 hrd hgd kbd hrt hgt kbt hru hgu kbu)
        · refine step_ldJ (by rfl) 31 _ rfl _ _ (F.get 31 _ (by simp)) (ldA_run ((HBB.out _ hb0).2.1.at 7 _ rfl)) ?_
          refine openK (v := .slice xa ma xb) 32 rfl F (by decide) (by simp) (fun a F => ?_)
          refine hK'.out _ _ (trivial) (fun hH => ?_)
          refine wpAnyH_ready (rs := [1]) (by kernel_rfl) (by simp) ?_
          refine AllReadyH.cons rfl (fun K' hK' => ?_) AllReadyH.nil
          refine step_ldJ (by rfl) 24 _ rfl _ _ (F.get 24 _ (by simp)) (ldD_run ((HBB.out _ hb0).2.1.at 3 _ rfl)) ?_
          refine openK (v := .agg #[.slice xd md xe]) 25 rfl F (by decide) (by simp) (fun a F => ?_)
          refine hK'.out _ _ (trivial) (fun hH => ?_)
          refine wpAnyH_ready (rs := [2]) (by kernel_rfl) (by simp) ?_
          refine AllReadyH.cons rfl (fun K' hK' => ?_) AllReadyH.nil
          refine step_impl_diskCopy (by rfl) 25 _ rfl _ _ (F.get 25 _ (by simp)) (HDC1.out _ hb0) ?_
          rintro rv94 xwd ⟨ad, cd, gd, rfl, hrd, hgd, kbd⟩
          have hb94 := hb0.trans (kbd.mono hb0.size)
          refine openK (v := .agg #[.slice ad md cd]) 26 rfl F (by decide) (by simp) (fun a F => ?_)
          refine hK'.out _ _ (trivial) (fun hH => ?_)
          have r1 := F.get 1 (.pointer (some ⟨w.heap.size, 0, none⟩)) (by simp)
          refine takeF (i := 10) (v := .pointer (some ⟨w.heap.size, 3, none⟩)) rfl (by kernel_rfl) (by kernel_rfl) (by kernel_rfl) (fun _ _ _ h => HQP.out _ _ _ _ _ h) (Or.inl ⟨by rfl, fun w hw => by go_simp⟩) hH 34 rfl F (by decide) (by simp) (fun a F => ?_)
          clear r1
          refine wpAnyH_ready (rs := [6]) (by kernel_rfl) (by simp) ?_
          refine AllReadyH.cons rfl (fun K' hK' => ?_) AllReadyH.nil
          refine step_slices_Clone (by rfl) 29 _ rfl _ _ (F.get 29 _ (by simp)) (HCL1.out _ hb94) ?_
          rintro rv95 xwt ⟨at2, ct, gt, rfl, hrt, hgt, kbt⟩
          have hb95 := hb94.trans (kbt.mono hb94.size)
          refine openK (v := .slice at2 mt ct) 30 rfl F (by decide) (by simp) (fun a F => ?_)
          refine hK'.out _ _ (trivial) (fun hH => ?_)
          refine wpAnyH_ready (rs := [9]) (by kernel_rfl) (by simp) ?_
          refine AllReadyH.cons rfl (fun K' hK' => ?_) AllReadyH.nil
          refine step_impl_changesCopy (by rfl) 32 _ rfl _ _ (F.get 32 _ (by simp)) (HCC1.out _ hb95) ?_
          rintro rv96 xwu ⟨gu, rfl, hru, hgu, kbu⟩
          have hb96 := hb95.trans (kbu.mono hb95.size)
          refine openK (v := .slice (some ⟨gu, 0, none⟩) ma ma) 33 rfl F (by decide) (by simp) (fun a F => ?_)
          refine hK'.out _ _ (trivial) (fun hH => ?_)
          refine wpAnyH_ready (rs := [11]) (by kernel_rfl) (by simp) ?_
          refine AllReadyH.cons rfl (fun K' hK' => ?_) AllReadyH.nil
          obtain ⟨u97, hu97⟩ : ∃ u, (xwu).cell? ⟨w.heap.size, 3, none⟩ = some u := ⟨_, ((HBB.out _ hb96).2.1).at 3 _ rfl⟩
          refine step_stJ (by rfl) 34 26 _ rfl _ (.agg #[.slice ad md cd]) (F.get 34 _ (by simp)) (F.get 26 _ (by simp)) (stD_run hu97 (((HBB.out _ hb96).2.1).fz 3)) ?_
          refine hK'.out _ _ (trivial) (fun hH => ?_)
          have r1 := F.get 1 (.pointer (some ⟨w.heap.size, 0, none⟩)) (by simp)
          refine takeF (i := 12) (v := .pointer (some ⟨w.heap.size, 5, none⟩)) rfl (by kernel_rfl) (by kernel_rfl) (by kernel_rfl) (fun _ _ _ h => HQP.out _ _ _ _ _ h) (Or.inl ⟨by rfl, fun w hw => by go_simp⟩) hH 35 rfl F (by decide) (by simp) (fun a F => ?_)
          clear r1
          refine wpAnyH_ready (rs := [13]) (by kernel_rfl) (by simp) ?_
          refine AllReadyH.cons rfl (fun K' hK' => ?_) AllReadyH.nil
          obtain ⟨u98, hu98⟩ : ∃ u, ((xwu).setCell ⟨w.heap.size, 3, none⟩ (.slice ad md cd)).cell? ⟨w.heap.size, 5, none⟩ = some u := ⟨_, (((HBB.out _ hb96).2.1).set 3 _).at 5 _ rfl⟩
          refine step_stJ (by rfl) 35 27 _ rfl _ (.slice (some ⟨w.heap.size + 1 + 1, 0, none⟩) mv mv) (F.get 35 _ (by simp)) (F.get 27 _ (by simp)) (stV_run hu98 ((((HBB.out _ hb96).2.1).set 3 _).fz 5)) ?_
          refine hK'.out _ _ (trivial) (fun hH => ?_)
          have r1 := F.get 1 (.pointer (some ⟨w.heap.size, 0, none⟩)) (by simp)
          refine takeF (i := 14) (v := .pointer (some ⟨w.heap.size, 6, none⟩)) rfl (by kernel_rfl) (by kernel_rfl) (by kernel_rfl) (fun _ _ _ h => HQP.out _ _ _ _ _ h) (Or.inl ⟨by rfl, fun w hw => by go_simp⟩) hH 36 rfl F (by decide) (by simp) (fun a F => ?_)
          clear r1
          refine wpAnyH_ready (rs := [15]) (by kernel_rfl) (by simp) ?_
          refine AllReadyH.cons rfl (fun K' hK' => ?_) AllReadyH.nil
          obtain ⟨u99, hu99⟩ : ∃ u, (((xwu).setCell ⟨w.heap.size, 3, none⟩ (.slice ad md cd)).setCell ⟨w.heap.size, 5, none⟩ (.slice (some ⟨w.heap.size + 1 + 1, 0, none⟩) mv mv)).cell? ⟨w.heap.size, 6, none⟩ = some u := ⟨_, ((((HBB.out _ hb96).2.1).set 3 _).set 5 _).at 6 _ rfl⟩
          refine step_stJ (by rfl) 36 30 _ rfl _ (.slice at2 mt ct) (F.get 36 _ (by simp)) (F.get 30 _ (by simp)) (stT_run hu99 (((((HBB.out _ hb96).2.1).set 3 _).set 5 _).fz 6)) ?_
          refine hK'.out _ _ (trivial) (fun hH => ?_)
          have r1 := F.get 1 (.pointer (some ⟨w.heap.size, 0, none⟩)) (by simp)
          refine takeF (i := 16) (v := .pointer (some ⟨w.heap.size, 7, none⟩)) rfl (by kernel_rfl) (by kernel_rfl) (by kernel_rfl) (fun _ _ _ h => HQP.out _ _ _ _ _ h) (Or.inl ⟨by rfl, fun w hw => by go_simp⟩) hH 37 rfl F (by decide) (by simp) (fun a F => ?_)
          clear r1
          refine wpAnyH_ready (rs := [17]) (by kernel_rfl) (by simp) ?_
          refine AllReadyH.cons rfl (fun K' hK' => ?_) AllReadyH.nil
          obtain ⟨u100, hu100⟩ : ∃ u, ((((xwu).setCell ⟨w.heap.size, 3, none⟩ (.slice ad md cd)).setCell ⟨w.heap.size, 5, none⟩ (.slice (some ⟨w.heap.size + 1 + 1, 0, none⟩) mv mv)).setCell ⟨w.heap.size, 6, none⟩ (.slice at2 mt ct)).cell? ⟨w.heap.size, 7, none⟩ = some u := ⟨_, (((((HBB.out _ hb96).2.1).set 3 _).set 5 _).set 6 _).at 7 _ rfl⟩
          refine step_stJ (by rfl) 37 33 _ rfl _ (.slice (some ⟨gu, 0, none⟩) ma ma) (F.get 37 _ (by simp)) (F.get 33 _ (by simp)) (stA_run hu100 ((((((HBB.out _ hb96).2.1).set 3 _).set 5 _).set 6 _).fz 7)) ?_
          refine hK'.out _ _ (trivial) (fun hH => ?_)
          refine wpAnyH_done (by kernel_rfl) ?_ _
          exact HEND.out a xwu _ _ _ ad cd at2 ct _ ma rfl rfl rfl ⟨F.1, F.2.1, fun p hp => F.2.2 p (by simp only [List.mem_cons, List.not_mem_nil, or_false] at hp; rcases hp with rfl | rfl <;> simp)⟩ hb96 (HSD.out _ _ _ _ ad cd gd at2 ct gt gu hb0 hrd hgd kbd hrt hgt kbt hru hgu kbu)
      · refine step_ldJ (by rfl) 31 _ rfl _ _ (F.get 31 _ (by simp)) (ldA_run ((HBB.out _ hb0).2.1.at 7 _ rfl)) ?_
        refine openK (v := .slice xa ma xb) 32 rfl F (by decide) (by simp) (fun a F => ?_)
        refine hK'.out _ _ (trivial) (fun hH => ?_)
        refine wpAnyH_ready (rs := [1, 5]) (by kernel_rfl) (by simp) ?_
        refine AllReadyH.cons rfl (fun K' hK' => ?_) (AllReadyH.cons rfl (fun K' hK' => ?_) AllReadyH.nil)
        · refine step_ldJ (by rfl) 24 _ rfl _ _ (F.get 24 _ (by simp)) (ldD_run ((HBB.out _ hb0).2.1.at 3 _ rfl)) ?_
          refine openK (v := .agg #[.slice xd md xe]) 25 rfl F (by decide) (by simp) (fun a F => ?_)
          refine hK'.out _ _ (trivial) (fun hH => ?_)
          refine wpAnyH_ready (rs := [2, 5]) (by kernel_rfl) (by simp) ?_
          refine AllReadyH.cons rfl (fun K' hK' => ?_) (AllReadyH.cons rfl (fun K' hK' => ?_) AllReadyH.nil)
          · refine step_impl_diskCopy (by rfl) 25 _ rfl _ _ (F.get 25 _ (by simp)) (HDC1.out _ hb0) ?_
            rintro rv103 xwd ⟨ad, cd, gd, rfl, hrd, hgd, kbd⟩
            have hb103 := hb0.trans (kbd.mono hb0.size)
            refine openK (v := .agg #[.slice ad md cd]) 26 rfl F (by decide) (by simp) (fun a F => ?_)
            refine hK'.out _ _ (trivial) (fun hH => ?_)
            refine wpAnyH_ready (rs := [5]) (by kernel_rfl) (by simp) ?_
            refine AllReadyH.cons rfl (fun K' hK' => ?_) AllReadyH.nil
            refine step_ldJ (by rfl) 28 _ rfl _ _ (F.get 28 _ (by simp)) (ldT_run ((HBB.out _ hb103).2.1.at 6 _ rfl)) ?_
            refine openK (v := .slice xt mt xu) 29 rfl F (by decide) (by simp) (fun a F => ?_)
            refine hK'.out _ _ (trivial) (fun hH => ?_)
            have r1 := F.get 1 (.pointer (some ⟨w.heap.size, 0, none⟩)) (by simp)
            refine takeF (i := 10) (v := .pointer (some ⟨w.heap.size, 3, none⟩)) rfl (by kernel_rfl) (by kernel_rfl) (by kernel_rfl) (fun _ _ _ h => HQP.out _ _ _ _ _ h) (Or.inl ⟨by rfl, fun w hw => by go_simp⟩) hH 34 rfl F (by decide) (by simp) (fun a F => ?_)
            clear r1
            refine wpAnyH_ready (rs := [6]) (by kernel_rfl) (by simp) ?_
            refine AllReadyH.cons rfl (fun K' hK' => ?_) AllReadyH.nil
            refine step_slices_Clone (by rfl) 29 _ rfl _ _ (F.get 29 _ (by simp)) (HCL1.out _ hb103) ?_
            rintro rv105 xwt ⟨at2, ct, gt, rfl, hrt, hgt, kbt⟩
            have hb105 := hb103.trans (kbt.mono hb103.size)
            refine openK (v := .slice at2 mt ct) 30 rfl F (by decide) (by simp) (fun a F => ?_)
            refine hK'.out _ _ (trivial) (fun hH => ?_)
            refine wpAnyH_ready (rs := [9]) (by kernel_rfl) (by simp) ?_
            refine AllReadyH.cons rfl (fun K' hK' => ?_) AllReadyH.nil
            refine step_impl_changesCopy (by rfl) 32 _ rfl _ _ (F.get 32 _ (by simp)) (HCC1.out _ hb105) ?_
            rintro rv106 xwu ⟨gu, rfl, hru, hgu, kbu⟩
            have hb106 := hb105.trans (kbu.mono hb105.size)
            refine openK (v := .slice (some ⟨gu, 0, none⟩) ma ma) 33 rfl F (by decide) (by simp) (fun a F => ?_)
            refine hK'.out _ _ (trivial) (fun hH => ?_)
            refine wpAnyH_ready (rs := [11]) (by kernel_rfl) (by simp) ?_
            refine AllReadyH.cons rfl (fun K' hK' => ?_) AllReadyH.nil
            obtain ⟨u107, hu107⟩ : ∃ u, (xwu).cell? ⟨w.heap.size, 3, none⟩ = some u := ⟨_, ((HBB.out _ hb106).2.1).at 3 _ rfl⟩
            refine step_stJ (by rfl) 34 26 _ rfl _ (.agg #[.slice ad md cd]) (F.get 34 _ (by simp)) (F.get 26 _ (by simp)) (stD_run hu107 (((HBB.out _ hb106).2.1).fz 3)) ?_
            refine hK'.out _ _ (trivial) (fun hH => ?_)
            have r1 := F.get 1 (.pointer (some ⟨w.heap.size, 0, none⟩)) (by simp)
            refine takeF (i := 12) (v := .pointer (some ⟨w.heap.size, 5, none⟩)) rfl (by kernel_rfl) (by kernel_rfl) (by kernel_rfl) (fun _ _ _ h => HQP.out _ _ _ _ _ h) (Or.inl ⟨by rfl, fun w hw => by go_simp⟩) hH 35 rfl F (by decide) (by simp) (fun a F => ?_)
            clear r1
            refine wpAnyH_ready (rs := [13]) (by kernel_rfl) (by simp) ?_
            refine AllReadyH.cons rfl (fun K' hK' => ?_) AllReadyH.nil
            obtain ⟨u108, hu108⟩ : ∃ u, ((xwu).setCell ⟨w.heap.size, 3, none⟩ (.slice ad md cd)).cell? ⟨w.heap.size, 5, none⟩ = some u := ⟨_, (((HBB.out _ hb106).2.1).set 3 _).at 5 _ rfl⟩
            refine step_stJ (by rfl) 35 27 _ rfl _ (.slice (some ⟨w.heap.size + 1 + 1, 0, none⟩) mv mv) (F.get 35 _ (by simp)) (F.get 27 _ (by simp)) (stV_run hu108 ((((HBB.out _ hb106).2.1).set 3 _).fz 5)) ?_
            refine hK'.out _ _ (trivial) (fun hH => ?_)
            have r1 := F.get 1 (.pointer (some ⟨w.heap.size, 0, none⟩)) (by simp)
            refine takeF (i := 14) (v := .pointer (some ⟨w.heap.size, 6, none⟩)) rfl (by kernel_rfl) (by kernel_rfl) (by kernel_rfl) (fun _ _ _ h => HQP.out _ _ _ _ _ h) (Or.inl ⟨by rfl, fun w hw => by go_simp⟩) hH 36 rfl F (by decide) (by simp) (fun a F => ?_)
            clear r1
            refine wpAnyH_ready (rs := [15]) (by kernel_rfl) (by simp) ?_
            refine AllReadyH.cons rfl (fun K' hK' => ?_) AllReadyH.nil
            obtain ⟨u109, hu109⟩ : ∃ u, (((xwu).setCell ⟨w.heap.size, 3, none⟩ (.slice ad md cd)).setCell ⟨w.heap.size, 5, none⟩ (.slice (some ⟨w.heap.size + 1 + 1, 0, none⟩) mv mv)).cell? ⟨w.heap.size, 6, none⟩ = some u := ⟨_, ((((HBB.out _ hb106).2.1).set 3 _).set 5 _).at 6 _ rfl⟩
            refine step_stJ (by rfl) 36 30 _ rfl _ (.slice at2 mt ct) (F.get 36 _ (by simp)) (F.get 30 _ (by simp)) (stT_run hu109 (((((HBB.out _ hb106).2.1).set 3 _).set 5 _).fz 6)) ?_
            refine hK'.out _ _ (trivial) (fun hH => ?_)
            have r1 := F.get 1 (.pointer (some ⟨w.heap.size, 0, none⟩)) (by simp)
            refine takeF (i := 16) (v := .pointer (some ⟨w.heap.size, 7, none⟩)) rfl (by kernel_rfl) (by kernel_rfl) (by kernel_rfl) (fun _ _ _ h => HQP.out _ _ _ _ _ h) (Or.inl ⟨by rfl, fun w hw => by go_simp⟩) hH 37 rfl F (by decide) (by simp) (fun a F => ?_)
            clear r1
            refine wpAnyH_ready (rs := [17]) (by kernel_rfl) (by simp) ?_
            refine AllReadyH.cons rfl (fun K' hK' => ?_) AllReadyH.nil
            obtain ⟨u110, hu110⟩ : ∃ u, ((((xwu).setCell ⟨w.heap.size, 3, none⟩ (.slice ad md cd)).setCell ⟨w.heap.size, 5, none⟩ (.slice (some ⟨w.heap.size + 1 + 1, 0, none⟩) mv mv)).setCell ⟨w.heap.size, 6, none⟩ (.slice at2 mt ct)).cell? ⟨w.heap.size, 7, none⟩ = some u := ⟨_, (((((HBB.out _ hb106).2.1).set 3 _).set 5 _).set 6 _).at 7 _ rfl⟩
            refine step_stJ (by rfl) 37 33 _ rfl _ (.slice (some ⟨gu, 0, none⟩) ma ma) (F.get 37 _ (by simp)) (F.get 33 _ (by simp)) (stA_run hu110 ((((((HBB.out _ hb106).2.1).set 3 _).set 5 _).set 6 _).fz 7)) ?_
            refine hK'.out _ _ (trivial) (fun hH => ?_)
            refine wpAnyH_done (by kernel_rfl) ?_ _
            exact HEND.out a xwu _ _ _ ad cd at2 ct _ ma rfl rfl rfl ⟨F.1, F.2.1, fun p hp => F.2.2 p (by simp only [List.mem_cons, List.not_mem_nil, or_false] at hp; rcases hp with rfl | rfl <;> simp)⟩ hb106 (HSD.out _ _ _ _ ad cd gd at2 ct gt gu hb0 hrd hgd kbd hrt hgt kbt hru hgu kbu)
          · refine step_ldJ (by rfl) 28 _ rfl _ _ (F.get 28 _ (by simp)) (ldT_run ((HBB.out _ hb0).2.1.at 6 _ rfl)) ?_
            refine openK (v := .slice xt mt xu) 29 rfl F (by decide) (by simp) (fun a F => ?_)
            refine hK'.out _ _ (trivial) (fun hH => ?_)
            refine wpAnyH_ready (rs := [2]) (by kernel_rfl) (by simp) ?_
            refine AllReadyH.cons rfl (fun K' hK' => ?_) AllReadyH.nil
            refine step_impl_diskCopy (by rfl) 25 _ rfl _ _ (F.get 25 _ (by simp)) (HDC1.out _ hb0) ?_
            rintro rv112 xwd ⟨ad, cd, gd, rfl, hrd, hgd, kbd⟩
            have hb112 := hb0.trans (kbd.mono hb0.size)
            refine openK (v := .agg #[.slice ad md cd]) 26 rfl F (by decide) (by simp) (fun a F => ?_)
            refine hK'.out _ _ (trivial) (fun hH => ?_)
            have r1 := F.get 1 (.pointer (some ⟨w.heap.size, 0, none⟩)) (by simp)
            refine takeF (i := 10) (v := .pointer (some ⟨w.heap.size, 3, none⟩)) rfl (by kernel_rfl) (by kernel_rfl) (by kernel_rfl) (fun _ _ _ h => HQP.out _ _ _ _ _ h) (Or.inl ⟨by rfl, fun w hw => by go_simp⟩) hH 34 rfl F (by decide) (by simp) (fun a F => ?_)
            clear r1
            refine wpAnyH_ready (rs := [6]) (by kernel_rfl) (by simp) ?_
            refine AllReadyH.cons rfl (fun K' hK' => ?_) AllReadyH.nil
            refine step_slices_Clone (by rfl) 29 _ rfl _ _ (F.get 29 _ (by simp)) (HCL1.out _ hb112) ?_
            rintro rv113 xwt ⟨at2, ct, gt, rfl, hrt, hgt, kbt⟩
            have hb113 := hb112.trans (kbt.mono hb112.size)
            refine openK (v := .slice at2 mt ct) 30 rfl F (by decide) (by simp) (fun a F => ?_)
            refine hK'.out _ _ (trivial) (fun hH => ?_)
            refine wpAnyH_ready (rs := [9]) (by kernel_rfl) (by simp) ?_
            refine AllReadyH.cons rfl (fun K' hK' => ?_) AllReadyH.nil
            refine step_impl_changesCopy (by rfl) 32 _ rfl _ _ (F.get 32 _ (by simp)) (HCC1.out _ hb113) ?_
            rintro rv114 xwu ⟨gu, rfl, hru, hgu, kbu⟩
            have hb114 := hb113.trans (kbu.mono hb113.size)
            refine openK (v := .slice (some ⟨gu, 0, none⟩) ma ma) 33 rfl F (by decide) (by simp) (fun a F => ?_)
            refine hK'.out _ _ (trivial) (fun hH => ?_)
            refine wpAnyH_ready (rs := [11]) (by kernel_rfl) (by simp) ?_
            refine AllReadyH.cons rfl (fun K' hK' => ?_) AllReadyH.nil
            obtain ⟨u115, hu115⟩ : ∃ u, (xwu).cell? ⟨w.heap.size, 3, none⟩ = some u := ⟨_, ((HBB.out _ hb114).2.1).at 3 _ rfl⟩
            refine step_stJ (by rfl) 34 26 _ rfl _ (.agg #[.slice ad md cd]) (F.get 34 _ (by simp)) (F.get 26 _ (by simp)) (stD_run hu115 (((HBB.out _ hb114).2.1).fz 3)) ?_
            refine hK'.out _ _ (trivial) (fun hH => ?_)
            have r1 := F.get 1 (.pointer (some ⟨w.heap.size, 0, none⟩)) (by simp)
            refine takeF (i := 12) (v := .pointer (some ⟨w.heap.size, 5, none⟩)) rfl (by kernel_rfl) (by kernel_rfl) (by kernel_rfl) (fun _ _ _ h => HQP.out _ _ _ _ _ h) (Or.inl ⟨by rfl, fun w hw => by go_simp⟩) hH 35 rfl F (by decide) (by simp) (fun a F => ?_)
            clear r1
            refine wpAnyH_ready (rs := [13]) (by kernel_rfl) (by simp) ?_
            refine AllReadyH.cons rfl (fun K' hK' => ?_) AllReadyH.nil
            obtain ⟨u116, hu116⟩ : ∃ u, ((xwu).setCell ⟨w.heap.size, 3, none⟩ (.slice ad md cd)).cell? ⟨w.heap.size, 5, none⟩ = some u := ⟨_, (((HBB.out _ hb114).2.1).set 3 _).at 5 _ rfl⟩
            refine step_stJ (by rfl) 35 27 _ rfl _ (.slice (some ⟨w.heap.size + 1 + 1, 0, none⟩) mv mv) (F.get 35 _ (by simp)) (F.get 27 _ (by simp)) (stV_run hu116 ((((HBB.out _ hb114).2.1).set 3 _).fz 5)) ?_
            refine hK'.out _ _ (trivial) (fun hH => ?_)
            have r1 := F.get 1 (.pointer (some ⟨w.heap.size, 0, none⟩)) (by simp)
            refine takeF (i := 14) (v := .pointer (some ⟨w.heap.size, 6, none⟩)) rfl (by kernel_rfl) (by kernel_rfl) (by kernel_rfl) (fun _ _ _ h => HQP.out _ _ _ _ _ h) (Or.inl ⟨by rfl, fun w hw => by go_simp⟩) hH 36 rfl F (by decide) (by simp) (fun a F => ?_)
            clear r1
            refine wpAnyH_ready (rs := [15]) (by kernel_rfl) (by simp) ?_
            refine AllReadyH.cons rfl (fun K' hK' => ?_) AllReadyH.nil
            obtain ⟨u117, hu117⟩ : ∃ u, (((xwu).setCell ⟨w.heap.size, 3, none⟩ (.slice ad md cd)).setCell ⟨w.heap.size, 5, none⟩ (.slice (some ⟨w.heap.size + 1 + 1, 0, none⟩) mv mv)).cell? ⟨w.heap.size, 6, none⟩ = some u := ⟨_, ((((HBB.out _ hb114).2.1).set 3 _).set 5 _).at 6 _ rfl⟩
            refine step_stJ (by rfl) 36 30 _ rfl _ (.slice at2 mt ct) (F.get 36 _ (by simp)) (F.get 30 _ (by simp)) (stT_run hu117 (((((HBB.out _ hb114).2.1).set 3 _).set 5 _).fz 6)) ?_
            refine hK'.out _ _ (trivial) (fun hH => ?_)
            have r1 := F.get 1 (.pointer (some ⟨w.heap.size, 0, none⟩)) (by simp)
            refine takeF (i := 16) (v := .pointer (some ⟨w.heap.size, 7, none⟩)) rfl (by kernel_rfl) (by kernel_rfl) (by kernel_rfl) (fun _ _ _ h => HQP.out _ _ _ _ _ h) (Or.inl ⟨by rfl, fun w hw => by go_simp⟩) hH 37 rfl F (by decide) (by simp) (fun a F => ?_)
            clear r1
            refine wpAnyH_ready (rs := [17]) (by kernel_rfl) (by simp) ?_
            refine AllReadyH.cons rfl (fun K' hK' => ?_) AllReadyH.nil
            obtain ⟨u118, hu118⟩ : ∃ u, ((((xwu).setCell ⟨w.heap.size, 3, none⟩ (.slice ad md cd)).setCell ⟨w.heap.size, 5, none⟩ (.slice (some ⟨w.heap.size + 1 + 1, 0, none⟩) mv mv)).setCell ⟨w.heap.size, 6, none⟩ (.slice at2 mt ct)).cell? ⟨w.heap.size, 7, none⟩ = some u := ⟨_, (((((HBB.out _ hb114).2.1).set 3 _).set 5 _).set 6 _).at 7 _ rfl⟩
            refine step_stJ (by rfl) 37 33 _ rfl _ (.slice (some ⟨gu, 0, none⟩) ma ma) (F.get 37 _ (by simp)) (F.get 33 _ (by simp)) (stA_run hu118 ((((((HBB.out _ hb114).2.1).set 3 _).set 5 _).set 6 _).fz 7)) ?_
            refine hK'.out _ _ (trivial) (fun hH => ?_)
            refine wpAnyH_done (by kernel_rfl) ?_ _
            exact HEND.out a xwu _ _ _ ad cd at2 ct _ ma rfl rfl rfl ⟨F.1, F.2.1, fun p hp => F.2.2 p (by simp only [List.mem_cons, List.not_mem_nil, or_false] at hp; rcases hp with rfl | rfl <;> simp)⟩ hb114 (HSD.out _ _ _ _ ad cd gd at2 ct gt gu hb0 hrd hgd kbd hrt hgt kbt hru hgu kbu)
        · refine step_ldJ (by rfl) 28 _ rfl _ _ (F.get 28 _ (by simp)) (ldT_run ((HBB.out _ hb0).2.1.at 6 _ rfl)) ?_
          refine openK (v := .slice xt mt xu) 29 rfl F (by decide) (by simp) (fun a F => ?_)
          refine hK'.out _ _ (trivial) (fun hH => ?_)
          refine wpAnyH_ready (rs := [1]) (by kernel_rfl) (by simp) ?_
          refine AllReadyH.cons rfl (fun K' hK' => ?_) AllReadyH.nil
          refine step_ldJ (by rfl) 24 _ rfl _ _ (F.get 24 _ (by simp)) (ldD_run ((HBB.out _ hb0).2.1.at 3 _ rfl)) ?_
          refine openK (v := .agg #[.slice xd md xe]) 25 rfl F (by decide) (by simp) (fun a F => ?_)
          refine hK'.out _ _ (trivial) (fun hH => ?_)
          refine wpAnyH_ready (rs := [2]) (by kernel_rfl) (by simp) ?_
          refine AllReadyH.cons rfl (fun K' hK' => ?_) AllReadyH.nil
          refine step_impl_diskCopy (by rfl) 25 _ rfl _ _ (F.get 25 _ (by simp)) (HDC1.out _ hb0) ?_
          rintro rv121 xwd ⟨ad, cd, gd, rfl, hrd, hgd, kbd⟩
          have hb121 := hb0.trans (kbd.mono hb0.size)
          refine openK (v := .agg #[.slice ad md cd]) 26 rfl F (by decide) (by simp) (fun a F => ?_)
          refine hK'.out _ _ (trivial) (fun hH => ?_)
          have r1 := F.get 1 (.pointer (some ⟨w.heap.size, 0, none⟩)) (by simp)
          refine takeF (i := 10) (v := .pointer (some ⟨w.heap.size, 3, none⟩)) rfl (by kernel_rfl) (by kernel_rfl) (by kernel_rfl) (fun _ _ _ h => HQP.out _ _ _ _ _ h) (Or.inl ⟨by rfl, fun w hw => by go_simp⟩) hH 34 rfl F (by decide) (by simp) (fun a F => ?_)
          clear r1
          refine wpAnyH_ready (rs := [6]) (by kernel_rfl) (by simp) ?_
          refine AllReadyH.cons rfl (fun K' hK' => ?_) AllReadyH.nil
          refine step_slices_Clone (by rfl) 29 _ rfl _ _ (F.get 29 _ (by simp)) (HCL1.out _ hb121) ?_
          rintro rv122 xwt ⟨at2, ct, gt, rfl, hrt, hgt, kbt⟩
          have hb122 := hb121.trans (kbt.mono hb121.size)
          refine openK (v := .slice at2 mt ct) 30 rfl F (by decide) (by simp) (fun a F => ?_)
          refine hK'.out _ _ (trivial) (fun hH => ?_)
          refine wpAnyH_ready (rs := [9]) (by kernel_rfl) (by simp) ?_
          refine AllReadyH.cons rfl (fun K' hK' => ?_) AllReadyH.nil
          refine step_impl_changesCopy (by rfl) 32 _ rfl _ _ (F.get 32 _ (by simp)) (HCC1.out _ hb122) ?_
          rintro rv123 xwu ⟨gu, rfl, hru, hgu, kbu⟩
          have hb123 := hb122.trans (kbu.mono hb122.size)
          refine openK (v := .slice (some ⟨gu, 0, none⟩) ma ma) 33 rfl F (by decide) (by simp) (fun a F => ?_)
          refine hK'.out _ _ (trivial) (fun hH => ?_)
          refine wpAnyH_ready (rs := [11]) (by kernel_rfl) (by simp) ?_
          refine AllReadyH.cons rfl (fun K' hK' => ?_) AllReadyH.nil
          obtain ⟨u124, hu124⟩ : ∃ u, (xwu).cell? ⟨w.heap.size, 3, none⟩ = some u := ⟨_, ((HBB.out _ hb123).2.1).at 3 _ rfl⟩
          refine step_stJ (by rfl) 34 26 _ rfl _ (.agg #[.slice ad md cd]) (F.get 34 _ (by simp)) (F.get 26 _ (by simp)) (stD_run hu124 (((HBB.out _ hb123).2.1).fz 3)) ?_
          refine hK'.out _ _ (trivial) (fun hH => ?_)
          have r1 := F.get 1 (.pointer (some ⟨w.heap.size, 0, none⟩)) (by simp)
          refine takeF (i := 12) (v := .pointer (some ⟨w.heap.size, 5, none⟩)) rfl (by kernel_rfl) (by kernel_rfl) (by kernel_rfl) (fun _ _ _ h => HQP.out _ _ _ _ _ h) (Or.inl ⟨by rfl, fun w hw => by go_simp⟩) hH 35 rfl F (by decide) (by simp) (fun a F => ?_)
          clear r1
          refine wpAnyH_ready (rs := [13]) (by kernel_rfl) (by simp) ?_
          refine AllReadyH.cons rfl (fun K' hK' => ?_) AllReadyH.nil
          obtain ⟨u125, hu125⟩ : ∃ u, ((xwu).setCell ⟨w.heap.size, 3, none⟩ (.slice ad md cd)).cell? ⟨w.heap.size, 5, none⟩ = some u := ⟨_, (((HBB.out _ hb123).2.1).set 3 _).at 5 _ rfl⟩
          refine step_stJ (by rfl) 35 27 _ rfl _ (.slice (some ⟨w.heap.size + 1 + 1, 0, none⟩) mv mv) (F.get 35 _ (by simp)) (F.get 27 _ (by simp)) (stV_run hu125 ((((HBB.out _ hb123).2.1).set 3 _).fz 5)) ?_
          refine hK'.out _ _ (trivial) (fun hH => ?_)
          have r1 := F.get 1 (.pointer (some ⟨w.heap.size, 0, none⟩)) (by simp)
          refine takeF (i := 14) (v := .pointer (some ⟨w.heap.size, 6, none⟩)) rfl (by kernel_rfl) (by kernel_rfl) (by kernel_rfl) (fun _ _ _ h => HQP.out _ _ _ _ _ h) (Or.inl ⟨by rfl, fun w hw => by go_simp⟩) hH 36 rfl F (by decide) (by simp) (fun a F => ?_)
          clear r1
          refine wpAnyH_ready (rs := [15]) (by kernel_rfl) (by simp) ?_
          refine AllReadyH.cons rfl (fun K' hK' => ?_) AllReadyH.nil
          obtain ⟨u126, hu126⟩ : ∃ u, (((xwu).setCell ⟨w.heap.size, 3, none⟩ (.slice ad md cd)).setCell ⟨w.heap.size, 5, none⟩ (.slice (some ⟨w.heap.size + 1 + 1, 0, none⟩) mv mv)).cell? ⟨w.heap.size, 6, none⟩ = some u := ⟨_, ((((HBB.out _ hb123).2.1).set 3 _).set 5 _).at 6 _ rfl⟩
          refine step_stJ (by rfl) 36 30 _ rfl _ (.slice at2 mt ct) (F.get 36 _ (by simp)) (F.get 30 _ (by simp)) (stT_run hu126 (((((HBB.out _ hb123).2.1).set 3 _).set 5 _).fz 6)) ?_
          refine hK'.out _ _ (trivial) (fun hH => ?_)
          have r1 := F.get 1 (.pointer (some ⟨w.heap.size, 0, none⟩)) (by simp)
          refine takeF (i := 16) (v := .pointer (some ⟨w.heap.size, 7, none⟩)) rfl (by kernel_rfl) (by kernel_rfl) (by kernel_rfl) (fun _ _ _ h => HQP.out _ _ _ _ _ h) (Or.inl ⟨by rfl, fun w hw => by go_simp⟩) hH 37 rfl F (by decide) (by simp) (fun a F => ?_)
          clear r1
          refine wpAnyH_ready (rs := [17]) (by kernel_rfl) (by simp) ?_
          refine AllReadyH.cons rfl (fun K' hK' => ?_) AllReadyH.nil
          obtain ⟨u127, hu127⟩ : ∃ u, ((((xwu).setCell ⟨w.heap.size, 3, none⟩ (.slice ad md cd)).setCell ⟨w.heap.size, 5, none⟩ (.slice (some ⟨w.heap.size + 1 + 1, 0, none⟩) mv mv)).setCell ⟨w.heap.size, 6, none⟩ (.slice at2 mt ct)).cell? ⟨w.heap.size, 7, none⟩ = some u := ⟨_, (((((HBB.out _ hb123).2.1).set 3 _).set 5 _).set 6 _).at 7 _ rfl⟩
          refine step_stJ (by rfl) 37 33 _ rfl _ (.slice (some ⟨gu, 0, none⟩) ma ma) (F.get 37 _ (by simp)) (F.get 33 _ (by simp)) (stA_run hu127 ((((((HBB.out _ hb123).2.1).set 3 _).set 5 _).set 6 _).fz 7)) ?_
          refine hK'.out _ _ (trivial) (fun hH => ?_)
          refine wpAnyH_done (by kernel_rfl) ?_ _
          exact HEND.out a xwu _ _ _ ad cd at2 ct _ ma rfl rfl rfl ⟨F.1, F.2.1, fun p hp => F.2.2 p (by simp only [List.mem_cons, List.not_mem_nil, or_false] at hp; rcases hp with rfl | rfl <;> simp)⟩ hb123 (HSD.out _ _ _ _ ad cd gd at2 ct gt gu hb0 hrd hgd kbd hrt hgt kbt hru hgu kbu)

end Go.Proofs.YthlgohplljcgfaaGreatDoor
