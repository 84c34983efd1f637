/-
  The acts on files behind pointers in a map, one by one.
-/
import Derived.Test.YtbmlphlknolieaaMp
namespace Go.Proofs.Ytbmlphlknolieaa
open Go.RowKit Go.BigFrame Go.Sort Go.Maps
set_option linter.unusedVariables false
set_option linter.unusedSimpArgs false

/-- the map and its files -/
def OpS (B : Nat) (w0 w : World) (b : Nat) (L : List Fl) (p : ByteArray → Nat) : Prop := FM B w0 w b L p ∧ FF B w L p
theorem OpS.later {B : Nat} {w0 w w' : World} {b : Nat} {L : List Fl} {p : ByteArray → Nat} (h : OpS B w0 w b L p) (hb : Below w.heap.size w w') : OpS B w0 w' b L p := ⟨h.1.later hb, h.2.later hb⟩

/-- a store, in a plain region -/
theorem wp_mapStore {w : World} {ops : Array Oper} {rest : List Oper} {o : Oper} {a : Act} {Q : Exit → Act → World → Prop} (hgd : o.guard = none) (m x v : Operand) (hop : o.op = Op.mapUpdate 84 m x v)
    (b g : Nat) (f : Fl) (hm : a.eval m = .map (some b)) (hx : a.eval x = .string f.n) (hv : a.eval v = .pointer (some ⟨g, 0, none⟩)) (B : Nat) (w0 : World) (L : List Fl) (p : ByteArray → Nat) (h : FM B w0 w b L p) (hL : F.DOk L)
    (hs : f.n.size ≤ 2000000) (hne : ∀ h ∈ L, h.n ≠ f.n → p h.n ≠ g)
    (hK : ∀ w', FM B w0 w' b (F.put L f) (upd p f.n g) → w.grownBy w' (some b) → wpList Try.prog ops Q rest (a.put o.dst undef) w') : wpList Try.prog ops Q (o :: rest) a w := by
  refine wpList_plain hgd fun K' hK' => ?_
  obtain ⟨w', hrun, r1, r2⟩ := h.store f hs g hne (fun D ho => by have := h.size hL.2.2 D ho; have := hL.1; omega)
  unfold Oper.wp
  simp [execOp, hop, hm, hx, hv, hrun, Result.andThen]
  exact hK' _ _ (hK w' r1 r2)
/-- a delete -/
theorem wp_mapDel {w : World} {ops : Array Oper} {rest : List Oper} {o : Oper} {a : Act} {Q : Exit → Act → World → Prop} (hgd : o.guard = none) (m x : Operand) (hop : o.op = Op.call { callee := Callee.builtin Builtin.delete, args := #[m, x], argTypes := #[84, 9] })
    (b : Nat) (y : ByteArray) (hm : a.eval m = .map (some b)) (hx : a.eval x = .string y) (B : Nat) (w0 : World) (L : List Fl) (p : ByteArray → Nat) (h : FM B w0 w b L p) (hs : y.size ≤ 2000000)
    (hK : ∀ w', FM B w0 w' b (F.wout L y) p → w.grownBy w' (some b) → wpList Try.prog ops Q rest (a.put o.dst (.tuple #[])) w') : wpList Try.prog ops Q (o :: rest) a w := by
  refine wpList_plain hgd fun K' hK' => ?_
  obtain ⟨w', hrun, r1, r2⟩ := h.del y hs o.type
  unfold Oper.wp
  simp [execOp, hop, resolve, invoke, builtin, hm, hx, hrun, Result.andThen]
  exact hK' _ _ (hK w' r1 r2)

/-- a file of the map whose cells were turned, its name as it was -/
theorem FF.put {B : Nat} {w w' : World} {L : List Fl} {p : ByteArray → Nat} {f : Fl} {g : Nat} (h : FF B w L p) (hk : ∀ h ∈ L, h.n ≠ f.n → w'.heap[p h.n]? = w.heap[p h.n]?) (hg : w'.heap[g]? = some (.cells #[.string f.n, .string f.t, .int .i64 f.k] 36 (0, 0))) (hB : B ≤ g) : FF B w' (F.put L f) (upd p f.n g) := by
  intro q hq
  rcases F.mem_put.1 hq with rfl | ⟨h1, h2⟩
  · rw [upd_same]; exact ⟨hg, hB⟩
  · rw [upd_other p g h2, hk q h1 h2]
    exact h q h1
theorem upd_id (p : ByteArray → Nat) (x : ByteArray) : upd p x (p x) = p := by
  funext y
  unfold upd
  split
  · rename_i h; rw [h]
  · rfl

set_option maxRecDepth 100000 in
set_option maxHeartbeats 1000000 in
theorem keep_any (B : Nat) (w0 w : World) (b : Nat) (L : List Fl) (p : ByteArray → Nat) (x : ByteArray) (hS : OpS B w0 w b L p) (hL : F.DOk L) (hx : x.size ≤ 1048576) :
    Calls Try.prog 85 #[.map (some b), .string x] w fun e w' => ∃ p', e = .returned (.bool (F.keepL L x).isSome) ∧ OpS B w0 w' b ((F.keepL L x).getD L) p' := by
  have hlk := hS.1.look x (by omega)
  have HS : Hid (OpS B w0 w b L p) := hS
  cases hf : F.find L x with
  | none =>
    have ek : F.keepL L x = none := by unfold F.keepL; rw [hf]
    rw [hf] at hlk
    rw [ek]
    simp only at hlk
    clear hS ek
    go_enter Try.func85, Try.ntmps85
    go_wp2
    go_ret
    exact ⟨p, rfl, HS.out⟩
  | some f =>
    obtain ⟨hfL, hfx⟩ := F.find_some hf
    have ek : F.keepL L x = some (F.put L ⟨x, f.t, f.t.size⟩) := by unfold F.keepL; rw [hf]
    rw [hf] at hlk
    rw [ek]
    simp only at hlk
    have hbk := (hS.2 f hfL).1
    rw [hfx] at hbk
    have hB := (hS.2 f hfL).2
    rw [hfx] at hB
    have c1 : w.cell? ⟨p x, 1, none⟩ = some (.string f.t) := by rw [cell_of_row _ _ 1 _ _ _ hbk]; rfl
    have c2 : w.cell? ⟨p x, 2, none⟩ = some (.int .i64 f.k) := by rw [cell_of_row _ _ 2 _ _ _ hbk]; rfl
    have f2 : w.frozen? ⟨p x, 2, none⟩ = false := by simp [World.frozen?, hbk]
    have HF : Hid (OpS B w0 (w.setCell ⟨p x, 2, none⟩ (.int .i64 (f.t.size : Int))) b (F.put L ⟨x, f.t, f.t.size⟩) p) := by
      have hfm := hS.1.set hB hbk 2 (.int .i64 (f.t.size : Int))
      have hff := FF.put (f := ⟨x, f.t, f.t.size⟩) (g := p x) (w' := w.setCell ⟨p x, 2, none⟩ (.int .i64 (f.t.size : Int))) hS.2 (fun h hh hne => by
        have : p h.n ≠ p x := fun e => hne (by have := hS.1.2.1 h hh f hfL (by rw [hfx]; exact e); rw [this, hfx])
        exact heap_setCell_other w ⟨p x, 2, none⟩ (p h.n) _ this) (by rw [heap_setCell_same w (p x) 2 _ _ _ hbk]; rfl) hB
      rw [upd_id] at hff
      refine ⟨?_, hff⟩
      obtain ⟨⟨D, ho, h1, h2, h3⟩, h4, h5⟩ := hfm
      refine ⟨⟨D, ho, fun y => ?_, fun q hq => ?_, h3⟩, fun q hq r hr e => ?_, h5⟩
      · rw [h1 y]
        constructor
        · rintro ⟨q, hq, rfl⟩
          by_cases e : q.n = x
          · exact ⟨_, F.mem_put.2 (.inl rfl), e.symm⟩
          · exact ⟨q, F.mem_put.2 (.inr ⟨hq, e⟩), rfl⟩
        · rintro ⟨q, hq, rfl⟩
          rcases F.mem_put.1 hq with rfl | ⟨h8, _⟩
          · exact ⟨f, hfL, hfx⟩
          · exact ⟨q, h8, rfl⟩
      · rcases F.mem_put.1 hq with rfl | ⟨h8, _⟩
        · have := h2 f hfL; rw [hfx] at this; exact this
        · exact h2 q h8
      · rcases F.mem_put.1 hq with rfl | ⟨h8, h9⟩
        · rcases F.mem_put.1 hr with rfl | ⟨h10, h11⟩
          · rfl
          · have := h4 f hfL r h10 (by rw [hfx]; exact e); rw [← this, hfx]
        · rcases F.mem_put.1 hr with rfl | ⟨h10, h11⟩
          · have := h4 q h8 f hfL (by rw [hfx]; exact e); rw [this, hfx]
          · exact h4 q h8 r h10 e
    clear hS ek hbk hB
    generalize p x = g at *
    go_enter Try.func85, Try.ntmps85
    go_wp2
    go_ret
    exact ⟨p, rfl, HF.out⟩

theorem FF.sub {B : Nat} {w : World} {L M : List Fl} {p : ByteArray → Nat} (h : FF B w L p) (hs : ∀ f ∈ M, f ∈ L) : FF B w M p := fun f hf => h f (hs f hf)

set_option maxRecDepth 100000 in
set_option maxHeartbeats 1000000 in
theorem drop_any (B : Nat) (w0 w : World) (b : Nat) (L : List Fl) (p : ByteArray → Nat) (x : ByteArray) (hS : OpS B w0 w b L p) (hL : F.DOk L) (hx : x.size ≤ 1048576) :
    Calls Try.prog 87 #[.map (some b), .string x] w fun e w' => ∃ p', e = .returned (.bool (F.dropL L x).isSome) ∧ OpS B w0 w' b ((F.dropL L x).getD L) p' := by
  have hlk := hS.1.look x (by omega)
  have HS : Hid (OpS B w0 w b L p) := hS
  cases hf : F.find L x with
  | none =>
    have ek : F.dropL L x = none := by unfold F.dropL; rw [hf]
    rw [hf] at hlk
    rw [ek]
    simp only at hlk
    clear hS ek
    go_enter Try.func87, Try.ntmps87
    go_wp2
    go_ret
    exact ⟨p, rfl, HS.out⟩
  | some f =>
    have ek : F.dropL L x = some (F.wout L x) := by unfold F.dropL; rw [hf]
    rw [hf] at hlk
    rw [ek]
    simp only at hlk
    clear hS ek
    generalize p x = g at *
    go_enter Try.func87, Try.ntmps87
    go_wp2_with (at_delete; refine wp_mapDel rfl _ _ rfl b x rfl rfl B w0 L p HS.out.1 (by omega) ?_; intro w1 hm1 hg1)
    go_wp2
    go_ret
    exact ⟨p, rfl, hm1, (HS.out.2.grown HS.out.1 hg1).sub fun f hf => (F.mem_wout.1 hf).1⟩

set_option maxRecDepth 100000 in
set_option maxHeartbeats 1000000 in
theorem add_any (B : Nat) (w0 w : World) (b : Nat) (L : List Fl) (p : ByteArray → Nat) (x t : ByteArray) (hS : OpS B w0 w b L p) (hL : F.DOk L) (hx : x.size ≤ 1048576) (ht : t.size ≤ 1048576) :
    Calls Try.prog 84 #[.map (some b), .string x, .string t] w fun e w' => ∃ p', e = .returned (.bool (F.addL L x t).isSome) ∧ OpS B w0 w' b ((F.addL L x t).getD L) p' := by
  have hlk := hS.1.look x (by omega)
  have HS : Hid (OpS B w0 w b L p ∧ F.DOk L) := ⟨hS, hL⟩
  cases hf : F.find L x with
  | none =>
    have hln := fun ty => hS.1.len hL.2.2 ty
    rw [hf] at hlk
    simp only at hlk
    by_cases h30 : 30 ≤ L.length
    · have ek : F.addL L x t = none := by unfold F.addL; rw [hf]; exact if_pos (.inl h30)
      rw [ek]
      have q : (30 : Int) ≤ (L.length : Int) := by omega
      have q' : decide ((30 : Int) ≤ (L.length : Int)) = true := decide_eq_true q
      clear hS ek hL
      go_enter Try.func84, Try.ntmps84
      go_wp2
      go_ret
      exact ⟨p, rfl, HS.out.1⟩
    have q : ¬ (30 : Int) ≤ (L.length : Int) := by omega
    cases hn : F.nmB x
    · have ek : F.addL L x t = none := by unfold F.addL; rw [hf]; exact if_pos (.inr (.inl hn))
      rw [ek]
      have hcn := fileNameOk_any x w
      rw [hn] at hcn
      clear hS ek hL
      go_enter Try.func84, Try.ntmps84
      go_wp2_with fail
      refine hcn.mono ?_
      rintro e w1 ⟨rfl, rfl⟩
      go_wp2
      go_ret
      exact ⟨p, rfl, HS.out.1⟩
    have hcn := fileNameOk_any x w
    rw [hn] at hcn
    by_cases h2 : 20000 < t.size
    · have ek : F.addL L x t = none := by unfold F.addL; rw [hf]; exact if_pos (.inr (.inr h2))
      rw [ek]
      have q2 : (20000 : Int) < (t.size : Int) := by omega
      have HF : Hid (OpS B w0 (w.alloc (.cells #[.string x, .string ⟨#[]⟩, .int .i64 0] 36)) b L p) := hS.later ((Below.refl _ _).alloc (Nat.le_refl _) _)
      clear hS ek hL
      go_enter Try.func84, Try.ntmps84
      go_wp2_with fail
      refine hcn.mono ?_
      rintro e w1 ⟨rfl, rfl⟩
      go_wp2
      go_ret
      exact ⟨p, rfl, HF.out⟩
    have ek : F.addL L x t = some (F.put L ⟨x, t, 0⟩) := by
      unfold F.addL; rw [hf]
      refine if_neg ?_
      rintro (h | h | h)
      · exact h30 h
      · rw [hn] at h; cases h
      · exact h2 h
    rw [ek]
    have q2 : ¬ (20000 : Int) < (t.size : Int) := by omega
    have q3 : ¬ 9223372036854775807 < t.size := by omega
    have HF : Hid (OpS B w0 (w.alloc (.cells #[.string x, .string t, .int .i64 0] 36)) b L p) := hS.later ((Below.refl _ _).alloc (Nat.le_refl _) _)
    have HN : Hid (∀ h ∈ L, h.n ≠ x → p h.n ≠ w.heap.size) := fun h hh _ e => by
      have := (Array.getElem?_eq_some_iff.1 (hS.2 h hh).1).1
      omega
    have HB : Hid (B ≤ w.heap.size) := hS.1.2.2.2.2
    clear hS ek hL
    go_enter Try.func84, Try.ntmps84
    go_wp2_with fail
    refine hcn.mono ?_
    rintro e w1 ⟨rfl, rfl⟩
    go_wp2_with (at_mapUpdate; refine wp_mapStore rfl _ _ _ rfl b w1.heap.size ⟨x, t, 0⟩ rfl rfl rfl B w0 L p HF.out.1 HS.out.2 (by show x.size ≤ 2000000; omega) HN.out ?_; intro w2 hm2 hg2)
    go_wp2
    go_ret
    refine ⟨rfl, _, hm2, FF.put (f := ⟨x, t, 0⟩) (w := w1.alloc (.cells #[.string x, .string t, .int .i64 0] 36)) HF.out.2 (fun h hh _ => hg2.block _ (Array.getElem?_eq_some_iff.1 (HF.out.2 h hh).1).1 (by simpa using HF.out.1.ne (HF.out.2 h hh).1)) ?_ HB.out⟩
    have hnew := alloc_fst w1 (.cells #[.string x, .string t, .int .i64 0] 36) rfl
    exact (hg2.block _ (by simp) (by simpa using HF.out.1.ne hnew)).trans hnew
  | some f =>
    obtain ⟨hfL, hfx⟩ := F.find_some hf
    have hfl := F.flB_iff.1 (hL.2.1 f hfL)
    rw [hf] at hlk
    simp only at hlk
    have hbk := (hS.2 f hfL).1
    rw [hfx] at hbk
    have hB := (hS.2 f hfL).2
    rw [hfx] at hB
    have c1 : w.cell? ⟨p x, 1, none⟩ = some (.string f.t) := by rw [cell_of_row _ _ 1 _ _ _ hbk]; rfl
    have f1 : w.frozen? ⟨p x, 1, none⟩ = false := by simp [World.frozen?, hbk]
    by_cases h2 : 20000 < f.t.size + t.size
    · have ek : F.addL L x t = none := by unfold F.addL; rw [hf]; exact if_pos h2
      rw [ek]
      have q2 : (20000 : Int) - (f.t.size : Int) < (t.size : Int) := by omega
      clear hS ek hL hbk hB
      generalize p x = g at *
      go_enter Try.func84, Try.ntmps84
      go_wp2
      go_ret
      exact ⟨p, rfl, HS.out.1⟩
    have ek : F.addL L x t = some (F.put L ⟨x, f.t ++ t, f.k⟩) := by unfold F.addL; rw [hf]; exact if_neg h2
    rw [ek]
    have q2 : ¬ (20000 : Int) - (f.t.size : Int) < (t.size : Int) := by omega
    have q3 : ¬ 9223372036854775807 < f.t.size + t.size := by omega
    have HF : Hid (FM B w0 (w.setCell ⟨p x, 1, none⟩ (.string (f.t ++ t))) b L p ∧ (w.setCell ⟨p x, 1, none⟩ (.string (f.t ++ t))).heap[p x]? = some (.cells #[.string x, .string (f.t ++ t), .int .i64 f.k] 36 (0, 0)) ∧ B ≤ p x) := ⟨hS.1.set hB hbk 1 _, by rw [heap_setCell_same w (p x) 1 _ _ _ hbk]; rfl, hB⟩
    have HN : Hid (∀ h ∈ L, h.n ≠ x → p h.n ≠ p x) := fun h hh hne e => hne (by have := hS.1.2.1 h hh f hfL (by rw [hfx]; exact e); rw [this, hfx])
    clear hS ek hL hbk hB
    obtain ⟨g, hg⟩ : ∃ g, p x = g := ⟨_, rfl⟩
    rw [hg] at hlk c1 f1 HF HN
    go_enter Try.func84, Try.ntmps84
    go_wp2_with (at_mapUpdate; refine wp_mapStore rfl _ _ _ rfl b g ⟨x, f.t ++ t, f.k⟩ rfl rfl rfl B w0 L p HF.out.1 HS.out.2 (by show x.size ≤ 2000000; omega) HN.out ?_; intro w2 hm2 hg2)
    go_wp2
    go_ret
    refine ⟨rfl, _, hm2, FF.put (f := ⟨x, f.t ++ t, f.k⟩) (w := w) HS.out.1.2 (fun h hh hne => ?_) ((hg2.block _ (Array.getElem?_eq_some_iff.1 HF.out.2.1).1 (by simpa using HF.out.1.ne HF.out.2.1)).trans HF.out.2.1) HF.out.2.2⟩
    have e1 : (w.setCell ⟨g, 1, none⟩ (.string (f.t ++ t))).heap[p h.n]? = w.heap[p h.n]? := heap_setCell_other w ⟨g, 1, none⟩ (p h.n) _ (HN.out h hh hne)
    have e2 := (HS.out.1.2 h hh).1
    refine (hg2.block _ ?_ ?_).trans e1
    · exact (Array.getElem?_eq_some_iff.1 (e1.trans e2)).1
    · simpa using HF.out.1.ne (e1.trans e2)

theorem FM.iff {B : Nat} {w0 w : World} {b : Nat} {L : List Fl} {p : ByteArray → Nat} (h : FM B w0 w b L p) {g : Nat} {cs : Array Value} {T : Nat} (hc : w.heap[g]? = some (.cells cs T (0, 0))) : some g ≠ some b := by
  simpa using h.ne hc

set_option maxRecDepth 100000 in
set_option maxHeartbeats 1000000 in
theorem move_any (B : Nat) (w0 w : World) (b : Nat) (L : List Fl) (p : ByteArray → Nat) (x o : ByteArray) (hS : OpS B w0 w b L p) (hL : F.DOk L) (hx : x.size ≤ 1048576) (ho : o.size ≤ 1048576) :
    Calls Try.prog 86 #[.map (some b), .string x, .string o] w fun e w' => e = .returned (.bool (F.moveL L x o).isSome) ∧ ∃ p', OpS B w0 w' b ((F.moveL L x o).getD L) p' := by
  have hlk := hS.1.look x (by omega)
  have HS : Hid (OpS B w0 w b L p ∧ F.DOk L) := ⟨hS, hL⟩
  cases hf : F.find L x with
  | none =>
    have ek : F.moveL L x o = none := by unfold F.moveL; rw [hf]
    rw [hf] at hlk
    rw [ek]
    simp only at hlk
    clear hS ek
    go_enter Try.func86, Try.ntmps86
    go_wp2
    go_ret
    exact ⟨rfl, p, HS.out.1⟩
  | some f =>
    obtain ⟨hfL, hfx⟩ := F.find_some hf
    have hbk := (hS.2 f hfL).1
    have hB := (hS.2 f hfL).2
    rw [hfx] at hbk hB
    rw [hf] at hlk
    simp only at hlk
    have c0 : w.cell? ⟨p x, 0, none⟩ = some (.string x) := by rw [cell_of_row _ _ 0 _ _ _ hbk]; rfl
    have c1 : w.cell? ⟨p x, 1, none⟩ = some (.string f.t) := by rw [cell_of_row _ _ 1 _ _ _ hbk]; rfl
    have c2 : w.cell? ⟨p x, 2, none⟩ = some (.int .i64 f.k) := by rw [cell_of_row _ _ 2 _ _ _ hbk]; rfl
    have hcl := allKept_any ⟨x, f.t, f.k⟩ w
    simp only at hcl
    have HBK : Hid (w.heap[p x]? = some (.cells #[.string x, .string f.t, .int .i64 f.k] 36 (0, 0)) ∧ B ≤ p x) := ⟨hbk, hB⟩
    have HN : Hid (∀ h ∈ L, h.n ≠ x → p h.n ≠ p x) := fun h hh hne e => hne (by have := hS.1.2.1 h hh f hfL (by rw [hfx]; exact e); rw [this, hfx])
    clear hS hL hbk hB
    obtain ⟨g, hg⟩ : ∃ g, p x = g := ⟨_, rfl⟩
    rw [hg] at hlk c0 c1 c2 HBK HN
    by_cases hk0 : f.k = f.t.size
    · rw [decide_eq_true hk0] at hcl
      have HK : Hid (f.k = f.t.size) := hk0
      clear hk0
      by_cases he : o = x
      · have ek : F.moveL L x o = none := by unfold F.moveL; rw [hf]; exact if_pos (.inr (.inl he))
        rw [ek]
        have q : (o.toList == x.toList) = true := by rw [he]; simp
        clear ek
        go_enter Try.func86, Try.ntmps86
        go_wp2_with fail
        refine hcl.mono ?_
        rintro e w1 ⟨rfl, hb1⟩
        have HF : Hid (OpS B w0 w1 b L p) := HS.out.1.later hb1
        clear hb1
        go_wp2
        go_ret
        exact ⟨rfl, p, HF.out⟩
      have q : (o.toList == x.toList) = false := F.list_ne he
      cases hn : F.nmB o
      · have ek : F.moveL L x o = none := by unfold F.moveL; rw [hf]; exact if_pos (.inr (.inr hn))
        rw [ek]
        have hcn := fun W => fileNameOk_any o W
        rw [hn] at hcn
        clear ek
        go_enter Try.func86, Try.ntmps86
        go_wp2_with fail
        refine hcl.mono ?_
        rintro e w1 ⟨rfl, hb1⟩
        have HF : Hid (OpS B w0 w1 b L p) := HS.out.1.later hb1
        clear hb1
        go_wp2_with fail
        refine (hcn _).mono ?_
        rintro e w2 ⟨rfl, rfl⟩
        go_wp2
        go_ret
        exact ⟨rfl, p, HF.out⟩
      have ek : F.moveL L x o = some (F.put (F.wout L x) ⟨o, f.t, f.k⟩) := by
        unfold F.moveL; rw [hf]
        refine if_neg ?_
        rintro (h | h | h)
        · exact h HK.out
        · exact he h
        · rw [hn] at h; cases h
      rw [ek]
      have hcn := fun W => fileNameOk_any o W
      rw [hn] at hcn
      clear ek
      go_enter Try.func86, Try.ntmps86
      go_wp2_with fail
      refine hcl.mono ?_
      rintro e w1 ⟨rfl, hb1⟩
      have HF : Hid (OpS B w0 w1 b L p ∧ w1.heap[g]? = some (.cells #[.string x, .string f.t, .int .i64 f.k] 36 (0, 0))) := ⟨HS.out.1.later hb1, (hb1.block g (Array.getElem?_eq_some_iff.1 HBK.out.1).1).trans HBK.out.1⟩
      clear hb1 hcl
      go_wp2_with fail
      refine (hcn _).mono ?_
      rintro e w2 ⟨rfl, rfl⟩
      have HDEL : Hid (∀ w3, FM B w0 w3 b (F.wout L x) p → w2.grownBy w3 (some b) → (w3.cell? ⟨g, 0, none⟩ = some (.string x) ∧ w3.frozen? ⟨g, 0, none⟩ = false) ∧ (FM B w0 (w3.setCell ⟨g, 0, none⟩ (.string o)) b (F.wout L x) p ∧ (w3.setCell ⟨g, 0, none⟩ (.string o)).heap[g]? = some (.cells #[.string o, .string f.t, .int .i64 f.k] 36 (0, 0)) ∧ F.DOk (F.wout L x) ∧ FF B (w3.setCell ⟨g, 0, none⟩ (.string o)) (F.wout L x) p)) := fun w3 hm3 hg3 => by
        have hbk3 : w3.heap[g]? = some (.cells #[.string x, .string f.t, .int .i64 f.k] 36 (0, 0)) := (hg3.block g (Array.getElem?_eq_some_iff.1 HF.out.2).1 (HF.out.1.1.iff HF.out.2)).trans HF.out.2
        have hff3 : FF B w3 (F.wout L x) p := (HF.out.1.2.grown HF.out.1.1 hg3).sub fun f hf => (F.mem_wout.1 hf).1
        refine ⟨⟨by rw [cell_of_row _ _ 0 _ _ _ hbk3]; rfl, by simp [World.frozen?, hbk3]⟩, hm3.set HBK.out.2 hbk3 0 _, by rw [heap_setCell_same w3 g 0 _ _ _ hbk3]; rfl, F.ok_wout HS.out.2 x, fun h hh => ?_⟩
        have hm := F.mem_wout.1 hh
        exact ⟨(heap_setCell_other w3 ⟨g, 0, none⟩ (p h.n) _ (HN.out h hm.1 hm.2)).trans (hff3 h hh).1, (hff3 h hh).2⟩
      have HN4 : Hid (∀ h ∈ F.wout L x, h.n ≠ o → p h.n ≠ g) := fun h hh _ => HN.out h (F.mem_wout.1 hh).1 (F.mem_wout.1 hh).2
      go_wp2_with (first | (at_delete; refine wp_mapDel rfl _ _ rfl b x rfl rfl B w0 L p HF.out.1.1 (by omega) ?_; intro w3 hm3 hg3; obtain ⟨⟨d0, f0⟩, hM4⟩ := HDEL.out _ hm3 hg3; have HM4 : Hid (FM B w0 (w3.setCell ⟨g, 0, none⟩ (.string o)) b (F.wout L x) p ∧ (w3.setCell ⟨g, 0, none⟩ (.string o)).heap[g]? = some (.cells #[.string o, .string f.t, .int .i64 f.k] 36 (0, 0)) ∧ F.DOk (F.wout L x) ∧ FF B (w3.setCell ⟨g, 0, none⟩ (.string o)) (F.wout L x) p) := hM4; clear hM4 hm3 hg3) | (at_mapUpdate; refine wp_mapStore rfl _ _ _ rfl b g ⟨o, f.t, f.k⟩ rfl rfl rfl B w0 (F.wout L x) p HM4.out.1 HM4.out.2.2.1 (by show o.size ≤ 2000000; omega) HN4.out ?_; intro w5 hm5 hg5))
      go_wp2
      go_ret
      refine ⟨rfl, _, hm5, FF.put (f := ⟨o, f.t, f.k⟩) (w := w3.setCell ⟨g, 0, none⟩ (.string o)) HM4.out.2.2.2 (fun h hh hne => hg5.block _ (Array.getElem?_eq_some_iff.1 (HM4.out.2.2.2 h hh).1).1 (HM4.out.1.iff (HM4.out.2.2.2 h hh).1)) ((hg5.block _ (Array.getElem?_eq_some_iff.1 HM4.out.2.1).1 (HM4.out.1.iff HM4.out.2.1)).trans HM4.out.2.1) HBK.out.2⟩
    · have ek : F.moveL L x o = none := by unfold F.moveL; rw [hf]; exact if_pos (.inl hk0)
      rw [decide_eq_false hk0] at hcl
      rw [ek]
      clear ek hk0
      go_enter Try.func86, Try.ntmps86
      go_wp2_with fail
      refine hcl.mono ?_
      rintro e w1 ⟨rfl, hb1⟩
      have HF : Hid (OpS B w0 w1 b L p) := HS.out.1.later hb1
      clear hb1
      go_wp2
      go_ret
      exact ⟨rfl, p, HF.out⟩

end Go.Proofs.Ytbmlphlknolieaa
