/-
  Texts laid together: Lz, Ru, Rx, Ry.
-/
import Derived.Test.YtfojmagcoipbnaaQ16
import Derived.Test.YtfojmagcoipbnaaQ11
import Derived.Deep.RegionHeld3
import Derived.Test.YtfojmagcoipbnaaQ15
import Derived.Test.YtfojmagcoipbnaaQ14
import Derived.Test.YtfojmagcoipbnaaQ06
import Derived.StillTailTactics
import Derived.Deep.AppendLies
/-
  Leaves read of a whole text by the specification, and the walk of the law FnExactReadLeaves: it answers true of every text.
-/
namespace Go.Proofs.Ytfojmagcoipbnaa
open Go.RowKit Go.BigFrame Go.Sort
set_option linter.unusedVariables false
set_option linter.unusedSimpArgs false

theorem raw_text {s : ByteArray} {l : List Le} {q : Nat} (h : LV.rawL s 0 = some (l, q)) : q ≤ s.size ∧ (LV.lvL l = s.data.toList ↔ q = s.size) := by
  cases hr : M.readVar s.data.toList 0 with
  | none => rw [LV.rawL_none hr] at h; cases h
  | some y =>
    obtain ⟨n, q0⟩ := y
    obtain ⟨hq0, hN⟩ := read_bound s 0 n q0 hr
    by_cases hn : 24 < n
    · rw [LV.rawL_great hr hn] at h; cases h
    · rw [LV.rawL_at hr hn] at h
      obtain ⟨h1, h2, h3, h4⟩ := LV.leavesF_some hq0 h
      have hc := LV.read_canon (Nat.zero_le _) hr
      have hp := LV.read_past _ _ _ _ hr
      have hL : s.data.toList.length = s.size := Array.length_toList
      have e : LV.lvL l = LV.cutL s.data.toList 0 q := by
        unfold LV.lvL
        rw [h3, ← hc, ← h4, LV.cutL_join _ 0 q0 q (by omega) h1]
      refine ⟨h2, ?_⟩
      rw [e]
      constructor
      · intro he
        have h5 := LV.cutL_len s.data.toList 0 q (by omega) (by omega)
        rw [he] at h5
        omega
      · intro he
        rw [he]
        unfold LV.cutL
        simp only [List.drop_zero, Nat.sub_zero]
        exact List.take_of_length_le (by omega)
theorem text_is {s : ByteArray} {l : List Le} (h : LV.leavesB l = true) : lvT l = s ↔ LV.lvL l = s.data.toList := by
  rw [lvT_yes h]
  constructor
  · intro e; rw [← e]
  · intro e
    exact ByteArray.ext (by rw [e])

end Go.Proofs.Ytfojmagcoipbnaa
/-
  A proof read of a text: the program's answer.
-/
namespace Go.Proofs.Ytfojmagcoipbnaa
open Go.RowKit Go.BigFrame Go.Sort
set_option linter.unusedVariables false
set_option linter.unusedSimpArgs false

theorem leaves_done {fn : Func} {tmps : Array Value} {R : Ending → World → Prop} {w : World} (g k : Nat) (v1 v2 : Value) (b : Bool) (hres : fn.results = #[.cell 4 31, .cell 5 4]) (hp : tmps.getD 4 undef = .pointer (some ⟨g, 0, none⟩)) (hk : tmps.getD 5 undef = .pointer (some ⟨k, 0, none⟩)) (hA : PfM w g v1 v2) (hB : w.cell? ⟨k, 0, none⟩ = some (.bool b))
    (h : R (.returned (.tuple #[.agg #[v1, v2], .bool b])) w) : Leaves Try.prog fn tmps R [] .returning w := by
  have hr := load_pf hA
  refine ⟨.tuple #[.agg #[v1, v2], .bool b], ?_, h⟩
  have hp' : tmps[4]?.getD undef = .pointer (some ⟨g, 0, none⟩) := by simpa using hp
  have hk' : tmps[5]?.getD undef = .pointer (some ⟨k, 0, none⟩) := by simpa using hk
  have hb : (loadVar 4 ⟨k, 0, none⟩).run Try.prog w = .ok (.bool b) w := by simp [go_sem, hB]
  simp [results, hres, asAddr, hr, hp', hk', hb]

set_option maxRecDepth 100000 in
theorem catch_idle (g k : Nat) (w : World) :
    CallsD Try.prog 47 #[.pointer (some ⟨g, 0, none⟩), .pointer (some ⟨k, 0, none⟩)] .returning w fun e u' w' => e = .returned (.tuple #[]) ∧ u' = .returning ∧ w' = w := by
  refine callsD_of_wpS Try.func47 rfl fun c₀ cs hu => ?_
  apply wpS_seq
  apply wpS_region
  simp [wpOpsS, go_sem, recoverD, hu, Try.ntmps47, Exit.thenS]
  refine wpS_cond (t := false) (by simp [Act.eval, Array.replicate]) ?_
  simp only [Bool.false_eq_true, if_false]
  refine wpS_of_wp (wp_skip ?_)
  cases c₀
  simp_all [bodyPostS, results, Try.results47]

set_option maxRecDepth 100000 in
theorem catch_panicking (g k : Nat) (v1 v2 : Value) (b : Bool) (pv : Value) (u : TypeId) (w : World) (hA : PfM w g v1 v2) (hB : w.heap[k]? = some (.cells #[.bool b] 4 (0, 0))) (hne : g ≠ k) :
    CallsD Try.prog 47 #[.pointer (some ⟨g, 0, none⟩), .pointer (some ⟨k, 0, none⟩)] (.panicking [{ v := .iface u pv, recovered := false }]) w fun e u' w' => e = .returned (.tuple #[]) ∧ u' = .panicking [{ v := .iface u pv, recovered := true }] ∧ w' = (w.setRow g #[.slice none 0 0, .slice none 0 0]).setCell ⟨k, 0, none⟩ (.bool false) := by
  refine callsD_of_wpS Try.func47 rfl fun c₀ cs hu => ?_
  apply wpS_seq
  apply wpS_region
  simp [wpOpsS, go_sem, recoverD, hu, Try.ntmps47, Exit.thenS]
  refine wpS_cond (t := true) (by simp [Act.eval, Array.replicate]) ?_
  simp only [if_true]
  refine wpS_of_wp ?_
  have e : (#[Value.pointer (some { block := g, off := 0 }), Value.pointer (some { block := k, off := 0 })] ++ ((Array.replicate 3 undef).setIfInBounds 0 (Value.iface u pv)).setIfInBounds 1 (Value.bool true)) = #[Value.pointer (some { block := g, off := 0 }), Value.pointer (some { block := k, off := 0 }), Value.iface u pv, Value.bool true, undef] := rfl
  rw [e]
  have hB2 : (w.setRow g #[.slice none 0 0, .slice none 0 0]).heap[k]? = some (.cells #[.bool b] 4 (0, 0)) := (setRow_other w g k _ (Ne.symm hne)).trans hB
  have c0 : (w.setRow g #[.slice none 0 0, .slice none 0 0]).cell? ⟨k, 0, none⟩ = some (.bool b) := by rw [cell_of_row _ k 0 _ _ _ hB2]; rfl
  have f0 : (w.setRow g #[.slice none 0 0, .slice none 0 0]).frozen? ⟨k, 0, none⟩ = false := by simp [World.frozen?, hB2]
  go_wp2_with (refine wp_storePf rfl _ _ rfl g _ _ (.slice none 0 0) (.slice none 0 0) hA rfl rfl rfl rfl ?_; intro hfin)
  exact ⟨rfl, _, rfl, .tuple #[], by simp [results, Try.results47], rfl, rfl, rfl⟩

set_option maxRecDepth 100000 in
set_option maxHeartbeats 1000000 in
theorem ReadProof_wide (s : ByteArray) (x : Int) (w : World) (hx : ¬ (1 ≤ x ∧ x ≤ 32)) :
    Calls Try.prog 14 #[.string s, .int .i64 x] w fun e w' => e = .returned (.tuple #[.agg #[.slice none 0 0, .slice none 0 0], .bool false]) ∧ Below w.heap.size w w' := by
  have q1 : decide (1 ≤ x ∧ x ≤ 32) = false := decide_eq_false hx
  have hmf : ∀ (fn : Fn) (first cap : Array Value) (w : World), (Instr.makeFunc fn first cap).run Try.prog w = .ok (.func fn first cap) w := fun _ _ _ _ => rfl
  go_enter_defers Try.func14, Try.ntmps14
  go_wp2_with fail
  refine (widthOk_any _ _).mono ?_
  rintro e w1 ⟨rfl, hw1⟩
  subst hw1
  rw [q1]
  go_wp2
  have hba : Below w.heap.size w ((w.alloc (.cells #[.slice none 0 0, .slice none 0 0] 31)).alloc (.cells #[.bool false] 4)) := ((Below.refl _ _).alloc (Nat.le_refl _) _).alloc (by simp) _
  have hA := PfM.later (PfM.new w (.slice none 0 0) (.slice none 0 0)) ((Below.refl _ _).alloc (Nat.le_refl _) (.cells #[.bool false] 4))
  have hB : ((w.alloc (.cells #[.slice none 0 0, .slice none 0 0] 31)).alloc (.cells #[.bool false] 4)).cell? ⟨w.heap.size + 1, 0, none⟩ = some (.bool false) := by simp
  unfold bodyPostD
  dsimp only
  refine leaves_done w.heap.size (w.heap.size + 1) _ _ false (by rfl) (by rfl) (by rfl) hA hB ?_
  exact ⟨rfl, hba⟩

set_option maxRecDepth 100000 in
theorem door_panic {fn : Func} {tmps : Array Value} {R : Ending → World → Prop} {W : World} (g k : Nat) (v1 v2 : Value) (b : Bool) (hres : fn.results = #[.cell 4 31, .cell 5 4]) (hp : tmps.getD 4 undef = .pointer (some ⟨g, 0, none⟩)) (hk : tmps.getD 5 undef = .pointer (some ⟨k, 0, none⟩)) (hA : PfM W g v1 v2) (hB : W.heap[k]? = some (.cells #[.bool b] 4 (0, 0))) (hne : g ≠ k)
    (h : R (.returned (.tuple #[.agg #[.slice none 0 0, .slice none 0 0], .bool false])) ((W.setRow g #[.slice none 0 0, .slice none 0 0]).setCell ⟨k, 0, none⟩ (.bool false))) : Leaves Try.prog fn tmps R [{ target := .fn (.func 47) #[.pointer (some ⟨g, 0, none⟩), .pointer (some ⟨k, 0, none⟩)], args := #[] }] (.panicking [unR]) W := by
  refine leaves_cons (f := 47) (args := #[.pointer (some ⟨g, 0, none⟩), .pointer (some ⟨k, 0, none⟩)]) (by simp) (by simp [go_sem]) ?_
  refine (catch_panicking g k v1 v2 b _ _ W hA hB hne).mono ?_
  rintro e u' w'' ⟨rfl, rfl, rfl⟩
  have hB2 : (W.setRow g #[.slice none 0 0, .slice none 0 0]).heap[k]? = some (.cells #[.bool b] 4 (0, 0)) := (setRow_other W g k _ (Ne.symm hne)).trans hB
  have hA2 : PfM (W.setRow g #[.slice none 0 0, .slice none 0 0]) g (.slice none 0 0) (.slice none 0 0) := setRow_heap W g _ _ _ _ hA
  have hB3 := heap_setCell_same (W.setRow g #[.slice none 0 0, .slice none 0 0]) k 0 _ _ (.bool false) hB2
  show Leaves _ _ _ _ [] .returning _
  refine leaves_done g k _ _ false hres hp hk (hA2.keep ((grown_setC _ k 0 _).block g hA2.lt (by simp; exact hne))) ?_ h
  rw [cell_of_row _ k 0 _ _ _ hB3]
  rfl

set_option maxRecDepth 100000 in
theorem door_ret {fn : Func} {tmps : Array Value} {R : Ending → World → Prop} {W : World} (g k : Nat) (v1 v2 : Value) (b : Bool) (hres : fn.results = #[.cell 4 31, .cell 5 4]) (hp : tmps.getD 4 undef = .pointer (some ⟨g, 0, none⟩)) (hk : tmps.getD 5 undef = .pointer (some ⟨k, 0, none⟩)) (hA : PfM W g v1 v2) (hB : W.cell? ⟨k, 0, none⟩ = some (.bool b))
    (h : R (.returned (.tuple #[.agg #[v1, v2], .bool b])) W) : Leaves Try.prog fn tmps R [{ target := .fn (.func 47) #[.pointer (some ⟨g, 0, none⟩), .pointer (some ⟨k, 0, none⟩)], args := #[] }] .returning W := by
  refine leaves_cons (f := 47) (args := #[.pointer (some ⟨g, 0, none⟩), .pointer (some ⟨k, 0, none⟩)]) (by simp) (by simp [go_sem]) ?_
  refine (catch_idle g k W).mono ?_
  rintro e u' w'' ⟨rfl, rfl, rfl⟩
  show Leaves _ _ _ _ [] .returning _
  exact leaves_done g k _ _ b hres hp hk hA hB h

/-- what stands when the reader begins: the proof, the word, the reader -/
theorem boxes3 (w : World) (s : ByteArray) : ∀ W, W = ((w.alloc (.cells #[.slice none 0 0, .slice none 0 0] 31)).alloc (.cells #[.bool false] 4)).alloc (.cells #[.string s, .int .i64 0] 90) → PfM W w.heap.size (.slice none 0 0) (.slice none 0 0) ∧ W.heap[w.heap.size + 1]? = some (.cells #[.bool false] 4 (0, 0)) ∧ Rd W (w.heap.size + 1 + 1) s 0 ∧ Below w.heap.size w W ∧ W.heap.size = w.heap.size + 3 := fun W hW => by
  subst hW
  have n0 := PfM.new w (.slice none 0 0) (.slice none 0 0)
  have b0 : Below w.heap.size w (w.alloc (.cells #[.slice none 0 0, .slice none 0 0] 31)) := (Below.refl _ _).alloc (Nat.le_refl _) _
  have z0 : (w.alloc (.cells #[.slice none 0 0, .slice none 0 0] 31)).heap.size = w.heap.size + 1 := by simp
  generalize w.alloc (.cells #[.slice none 0 0, .slice none 0 0] 31) = W1 at *
  have n1 : (W1.alloc (.cells #[.bool false] 4)).heap[W1.heap.size]? = some (.cells #[.bool false] 4 (0, 0)) := Go.heap_alloc_new W1 _
  have b1 : Below W1.heap.size W1 (W1.alloc (.cells #[.bool false] 4)) := (Below.refl _ _).alloc (Nat.le_refl _) _
  have z1 : (W1.alloc (.cells #[.bool false] 4)).heap.size = w.heap.size + 1 + 1 := by simp [z0]
  rw [z0] at n1
  generalize W1.alloc (.cells #[.bool false] 4) = W2 at *
  have n2 : Rd (W2.alloc (.cells #[.string s, .int .i64 0] 90)) W2.heap.size s 0 := Go.heap_alloc_new W2 _
  have b2 : Below W2.heap.size W2 (W2.alloc (.cells #[.string s, .int .i64 0] 90)) := (Below.refl _ _).alloc (Nat.le_refl _) _
  rw [z1] at n2
  refine ⟨(n0.later b1).later b2, (b2.block _ (by omega)).trans n1, n2, (b0.trans (b1.mono b0.size)).trans (b2.mono (by omega)), by simp [z1]⟩

/-- what a text tells as a proof -/
noncomputable def rpOk (s : ByteArray) (x : Int) : Bool :=
  match LV.rawL s 0 with
  | none => false
  | some (l, q) => match M.readVar s.data.toList q with
    | none => false
    | some (n, p) => decide (1 ≤ x ∧ x ≤ 32) && LV.leavesB l && decide (n ≤ 8) && decide (p + n * x.toNat = s.size)
noncomputable def rpL (s : ByteArray) (x : Int) : List Le :=
  match LV.rawL s 0 with
  | none => []
  | some (l, q) => if rpOk s x then l else []
noncomputable def rpS (s : ByteArray) (x : Int) : List ByteArray :=
  match LV.rawL s 0 with
  | none => []
  | some (l, q) => match M.readVar s.data.toList q with
    | none => []
    | some (n, p) => if rpOk s x then sdp s x.toNat p n else []
theorem rp_no {s : ByteArray} {x : Int} (h : rpOk s x = false) : rpL s x = [] ∧ rpS s x = [] := by
  unfold rpL rpS
  rw [h]
  constructor
  · split <;> simp
  · split
    · rfl
    · split <;> simp

set_option maxRecDepth 100000 in
set_option maxHeartbeats 2000000 in
theorem ReadProof_any (s : ByteArray) (x : Int) (w : World) (hs : s.size ≤ 1048576) :
    Calls Try.prog 14 #[.string s, .int .i64 x] w (PvP (rpL s x) (rpS s x) (rpOk s x) w) := by
  by_cases hx0 : ¬ (1 ≤ x ∧ x ≤ 32)
  · have hx := hx0
    have h0 : rpOk s x = false := by
      unfold rpOk
      split
      · rfl
      · split
        · rfl
        · rw [decide_eq_false hx]; rfl
    rw [h0, (rp_no h0).1, (rp_no h0).2]
    refine (ReadProof_wide s x w hx).mono fun e w' ⟨he, hb⟩ => ?_
    rw [he]
    exact PvP.no hb
  have hx : 1 ≤ x ∧ x ≤ 32 := Classical.not_not.1 hx0
  clear hx0
  obtain ⟨y, rfl⟩ : ∃ y : Nat, x = (y : Int) := ⟨x.toNat, by omega⟩
  have hy : 1 ≤ y ∧ y ≤ 32 := by omega
  have q1 : decide (1 ≤ (y : Int) ∧ (y : Int) ≤ 32) = true := decide_eq_true hx
  have hmf : ∀ (fn : Fn) (first cap : Array Value) (w : World), (Instr.makeFunc fn first cap).run Try.prog w = .ok (.func fn first cap) w := fun _ _ _ _ => rfl
  obtain ⟨A0, B0, R0, b0, z0⟩ := boxes3 w s _ rfl
  obtain ⟨Q, hQ⟩ : ∃ Q, PvP (rpL s (y : Int)) (rpS s (y : Int)) (rpOk s (y : Int)) w = Q := ⟨_, rfl⟩
  have HQ : Hid (PvP (rpL s (y : Int)) (rpS s (y : Int)) (rpOk s (y : Int)) w = Q) := hQ
  rw [hQ]
  clear hQ hx
  go_enter_defers Try.func14, Try.ntmps14
  go_wp2_with fail
  refine (widthOk_any _ _).mono ?_
  rintro e w1 ⟨rfl, hw1⟩
  subst hw1
  rw [q1]
  obtain ⟨W0, hW0⟩ : ∃ W0, ((w.alloc (.cells #[.slice none 0 0, .slice none 0 0] 31)).alloc (.cells #[.bool false] 4)).alloc (.cells #[.string s, .int .i64 0] 90) = W0 := ⟨_, rfl⟩
  rw [hW0] at A0 B0 R0 b0 z0
  have HW0 : Hid (((w.alloc (.cells #[.slice none 0 0, .slice none 0 0] 31)).alloc (.cells #[.bool false] 4)).alloc (.cells #[.string s, .int .i64 0] 90) = W0) := hW0
  clear hW0
  have HNO : Hid (∀ W, rpOk s (y : Int) = false → Below w.heap.size w W → Q (.returned (.tuple #[.agg #[.slice none 0 0, .slice none 0 0], .bool false])) ((W.setRow w.heap.size #[.slice none 0 0, .slice none 0 0]).setCell ⟨w.heap.size + 1, 0, none⟩ (.bool false))) := fun W h0 hb => by
    rw [← HQ.out, h0, (rp_no h0).1, (rp_no h0).2]
    exact PvP.no ((below_row hb (Nat.le_refl _)).setCell (p := ⟨w.heap.size + 1, 0, none⟩) (by simp) _)
  by_cases hraw : LV.rawL s 0 = none ∨ ∃ l q, LV.rawL s 0 = some (l, q) ∧ LV.leavesB l = false
  · have h0 : rpOk s (y : Int) = false := by
      unfold rpOk
      rcases hraw with h | ⟨l, q, h, h2⟩
      · rw [h]
      · rw [h]
        dsimp only
        split
        · rfl
        · rw [h2]; simp
    have hlv := readerLeaves_no (w.heap.size + 1 + 1) 0 s W0 R0 hs (Nat.zero_le _) hraw
    rw [← HW0.out] at hlv
    clear HQ hraw
    go_wp2_with fail
    refine hlv.mono ?_
    rintro e w2 ⟨rfl, hb2⟩
    rw [HW0.out] at hb2
    have hA := A0.later hb2
    have hB : w2.heap[w.heap.size + 1]? = some (.cells #[.bool false] 4 (0, 0)) := (hb2.block _ (by omega)).trans B0
    have b2 := b0.trans (hb2.mono b0.size)
    clear hlv hb2 A0 B0 R0
    go_wp2
    unfold bodyPostD
    dsimp only
    refine door_panic w.heap.size (w.heap.size + 1) _ _ false (by rfl) (by rfl) (by rfl) hA hB (by omega) ?_
    exact HNO.out _ h0 b2
  have hex : ∃ l q, LV.rawL s 0 = some (l, q) ∧ LV.leavesB l = true := by
    cases h : LV.rawL s 0 with
    | none => exact absurd (.inl h) hraw
    | some z =>
      obtain ⟨l, q⟩ := z
      refine ⟨l, q, rfl, ?_⟩
      cases h2 : LV.leavesB l with
      | true => rfl
      | false => exact absurd (.inr ⟨l, q, h, h2⟩) hraw
  obtain ⟨l, q, hr, hl⟩ := hex
  clear hraw
  have hqs := (raw_text hr).1
  have HRP : Hid (∀ n p, M.readVar s.data.toList q = some (n, p) → rpOk s (y : Int) = (decide (n ≤ 8) && decide (p + n * y = s.size)) ∧ (rpOk s (y : Int) = true → rpL s (y : Int) = l ∧ rpS s (y : Int) = sdp s y p n)) := fun n p h => by
    have e1 : rpOk s (y : Int) = (decide (n ≤ 8) && decide (p + n * y = s.size)) := by
      unfold rpOk
      rw [hr]
      dsimp only
      rw [h]
      dsimp only
      rw [q1, hl, Int.toNat_natCast, Bool.true_and, Bool.true_and]
    refine ⟨e1, fun h2 => ?_⟩
    unfold rpL rpS
    rw [hr]
    dsimp only
    rw [h]
    dsimp only
    rw [h2, Int.toNat_natCast]
    exact ⟨rfl, rfl⟩
  have HRN : Hid (M.readVar s.data.toList q = none → rpOk s (y : Int) = false) := fun h => by
    unfold rpOk
    rw [hr]
    dsimp only
    rw [h]
  have hlv := readerLeaves_yes (w.heap.size + 1 + 1) 0 s l q W0 R0 hs (Nat.zero_le _) hr hl
  rw [← HW0.out] at hlv
  go_wp2_with fail
  refine hlv.mono ?_
  rintro e w2 ⟨gl, rfl, hrw2, hgl, hrd2, hg2⟩
  rw [HW0.out] at hg2 hgl
  have A2 : PfM w2 w.heap.size (.slice none 0 0) (.slice none 0 0) := A0.keep (hg2.block _ A0.lt (by simp; omega))
  have B2 : w2.heap[w.heap.size + 1]? = some (.cells #[.bool false] 4 (0, 0)) := (hg2.block _ (by omega) (by simp)).trans B0
  have b2 : Below w.heap.size w w2 := b0.grown hg2 b0.size (fun k hk => by simp at hk; omega)
  have s2 := hg2.size
  have c20 := A2.c0
  have f20 := A2.fr 0
  have hgr3 := grown_setC w2 w.heap.size 0 (.slice (some ⟨gl, 0, none⟩) l.length l.length)
  have A3 := A2.set0 (.slice (some ⟨gl, 0, none⟩) l.length l.length)
  have B3 := (hgr3.block (w.heap.size + 1) (by omega) (by simp)).trans B2
  have R3 := hrd2.grown hgr3 (by simp; omega)
  have b3 := b2.setCell (p := ⟨w.heap.size, 0, none⟩) (Nat.le_refl _) (.slice (some ⟨gl, 0, none⟩) l.length l.length)
  have w3 := hrw2.grown hgr3 (fun _ => by simp; omega)
  have z3 : (w2.setCell ⟨w.heap.size, 0, none⟩ (.slice (some ⟨gl, 0, none⟩) l.length l.length)).heap.size = w2.heap.size := by simp
  clear hlv A2 B2 b2 hrd2 hrw2 hg2 A0 B0 R0 b0 hgr3 hr hl
  go_wp2_with fail
  generalize w2.setCell ⟨w.heap.size, 0, none⟩ (.slice (some ⟨gl, 0, none⟩) l.length l.length) = W3 at *
  by_cases hvar : M.readVar s.data.toList q = none ∨ ∃ n p, M.readVar s.data.toList q = some (n, p) ∧ 8 < n
  · have h0 : rpOk s (y : Int) = false := by
      rcases hvar with h | ⟨n, p, h, h8⟩
      · exact HRN.out h
      · rw [(HRP.out n p h).1, decide_eq_false (by omega)]
        rfl
    refine (readerHashes_no (w.heap.size + 1 + 1) q s 8 y W3 R3 hs hqs (by omega) hvar).mono ?_
    rintro e w4 ⟨rfl, hg4⟩
    have hA := A3.keep (hg4.block _ A3.lt (by simp; omega))
    have hB : w4.heap[w.heap.size + 1]? = some (.cells #[.bool false] 4 (0, 0)) := (hg4.block _ (by omega) (by simp)).trans B3
    have b4 : Below w.heap.size w w4 := b3.grown hg4 b3.size (fun k hk => by simp at hk; omega)
    clear hvar hg4 A3 B3 R3 HRN HRP HQ
    go_wp2
    unfold bodyPostD
    dsimp only
    refine door_panic w.heap.size (w.heap.size + 1) _ _ false (by rfl) (by rfl) (by rfl) hA hB (by omega) ?_
    exact HNO.out _ h0 b4
  have hex : ∃ n p, M.readVar s.data.toList q = some (n, p) ∧ n ≤ 8 := by
    cases h : M.readVar s.data.toList q with
    | none => exact absurd (.inl h) hvar
    | some z =>
      obtain ⟨n, p⟩ := z
      exact ⟨n, p, rfl, Nat.le_of_not_lt fun h2 => hvar (.inr ⟨n, p, h, h2⟩)⟩
  obtain ⟨n, p, hv, hn8⟩ := hex
  obtain ⟨hrp1, hrp2⟩ := HRP.out n p hv
  rw [decide_eq_true hn8, Bool.true_and] at hrp1
  refine (readerHashes_yes (w.heap.size + 1 + 1) q s 8 y n p W3 R3 hs hqs (by omega) hv hn8 (by omega)).mono ?_
  clear hvar HRN HRP hv
  by_cases hfit : p + n * y ≤ s.size
  · rintro e w4 ⟨hif, hg4⟩
    rw [if_pos hfit] at hif
    obtain ⟨g4, rfl, t4, hg4', r4⟩ := hif
    have A4 := A3.keep (hg4.block _ A3.lt (by simp; omega))
    have B4 : w4.heap[w.heap.size + 1]? = some (.cells #[.bool false] 4 (0, 0)) := (hg4.block _ (by omega) (by simp)).trans B3
    have b4 : Below w.heap.size w w4 := b3.grown hg4 b3.size (fun k hk => by simp at hk; omega)
    have s4 := hg4.size
    have c21 := A4.c1
    have f21 := A4.fr 1
    have hgr5 := grown_setC w4 w.heap.size 1 (.slice (some ⟨g4, 0, none⟩) n n)
    have A5 := A4.set1 (.slice (some ⟨g4, 0, none⟩) n n)
    have B5 := (hgr5.block (w.heap.size + 1) (by omega) (by simp)).trans B4
    have R5 := r4.grown hgr5 (by simp; omega)
    have b5 := b4.setCell (p := ⟨w.heap.size, 1, none⟩) (Nat.le_refl _) (.slice (some ⟨g4, 0, none⟩) n n)
    have w5 := (w3.grown hg4 (fun _ => by simp; omega)).grown hgr5 (fun _ => by simp; omega)
    have t5 := (t4.ts n n (sdp_len _ _ _ _) (by omega)).keptG hgr5 (fun _ => by simp; omega)
    have hglt : 0 < l.length → gl < W3.heap.size := w3.lt
    have z5 : (w4.setCell ⟨w.heap.size, 1, none⟩ (.slice (some ⟨g4, 0, none⟩) n n)).heap.size = w4.heap.size := by simp
    clear A4 B4 b4 r4 t4 hg4 hgr5 A3 B3 R3 b3 w3 c20 f20
    go_wp2_with fail
    generalize w4.setCell ⟨w.heap.size, 1, none⟩ (.slice (some ⟨g4, 0, none⟩) n n) = W5 at *
    by_cases hend : p + n * y = s.size
    · rw [hend] at R5
      refine (readerEnd_yes (w.heap.size + 1 + 1) s W5 R5).mono ?_
      rintro e w6 ⟨rfl, hb6⟩
      have A6 := A5.later hb6
      have B6 : w6.heap[w.heap.size + 1]? = some (.cells #[.bool false] 4 (0, 0)) := (hb6.block _ (by omega)).trans B5
      have b6 := b5.trans (hb6.mono b5.size)
      have w6' := w5.later hb6
      have t6 := t5.later hb6
      have hX : PfM (w6.setRow w.heap.size #[.slice (some ⟨gl, 0, none⟩) l.length l.length, .slice (some ⟨g4, 0, none⟩) n n]) w.heap.size (.slice (some ⟨gl, 0, none⟩) l.length l.length) (.slice (some ⟨g4, 0, none⟩) n n) := setRow_heap w6 _ _ _ _ _ A6
      have hgx := grown_setRowP w6 w.heap.size #[.slice (some ⟨gl, 0, none⟩) l.length l.length, .slice (some ⟨g4, 0, none⟩) n n]
      have B7 : (w6.setRow w.heap.size #[.slice (some ⟨gl, 0, none⟩) l.length l.length, .slice (some ⟨g4, 0, none⟩) n n]).heap[w.heap.size + 1]? = some (.cells #[.bool false] 4 (0, 0)) := (setRow_other w6 _ _ _ (by omega)).trans B6
      have b7 := below_row (g := w.heap.size) (R := #[.slice (some ⟨gl, 0, none⟩) l.length l.length, .slice (some ⟨g4, 0, none⟩) n n]) b6 (Nat.le_refl _)
      have w7 := w6'.grown hgx (fun _ => by simp; omega)
      have t7 := t6.keptG hgx (fun _ => by simp; omega)
      have d60 : (w6.setRow w.heap.size #[.slice (some ⟨gl, 0, none⟩) l.length l.length, .slice (some ⟨g4, 0, none⟩) n n]).cell? ⟨w.heap.size + 1, 0, none⟩ = some (.bool false) := by rw [cell_of_row _ _ 0 _ _ _ B7]; rfl
      have f60 : (w6.setRow w.heap.size #[.slice (some ⟨gl, 0, none⟩) l.length l.length, .slice (some ⟨g4, 0, none⟩) n n]).frozen? ⟨w.heap.size + 1, 0, none⟩ = false := by simp [World.frozen?, B7]
      have HY : Hid (rpOk s (y : Int) = true ∧ rpL s (y : Int) = l ∧ rpS s (y : Int) = sdp s y p n) := by
        have h1 : rpOk s (y : Int) = true := by rw [hrp1, decide_eq_true hend]
        exact ⟨h1, hrp2 h1⟩
      clear A5 B5 R5 b5 w5 t5 hb6 c21 f21 hrp1 hrp2
      go_wp2_with (first | (refine wp_loadPf rfl _ rfl w.heap.size _ _ rfl A6 ?_) | (refine wp_storePf rfl _ _ rfl w.heap.size _ _ _ _ A6 rfl rfl rfl rfl ?_; intro hfin))
      generalize w6.setRow w.heap.size #[.slice (some ⟨gl, 0, none⟩) l.length l.length, .slice (some ⟨g4, 0, none⟩) n n] = W7 at *
      have hgy := grown_setC W7 (w.heap.size + 1) 0 (.bool true)
      have hBF := heap_setCell_same W7 (w.heap.size + 1) 0 _ _ (.bool true) B7
      have hlx := w7.lt
      unfold bodyPostD
      dsimp only
      refine door_ret w.heap.size (w.heap.size + 1) _ _ true (by rfl) (by rfl) (by rfl) (hX.keep (hgy.block _ hX.lt (by simp))) (by rw [cell_of_row _ _ 0 _ _ _ hBF]; rfl) ?_
      rw [← HQ.out, HY.out.1, HY.out.2.1, HY.out.2.2]
      refine ⟨_, l.length, _, n, gl, g4, by rw [sdp_len], w7.grown hgy (fun _ => by simp; omega), by rw [sdp_len]; exact t7.keptG hgy (fun _ => by simp; omega), by omega, by omega, ⟨fun h1 _ => by have := hglt h1; omega, by rw [sdp_len]; exact Nat.le_refl _⟩, b7.setCell (p := ⟨w.heap.size + 1, 0, none⟩) (by simp) _⟩
    · have h0 : rpOk s (y : Int) = false := by rw [hrp1, decide_eq_false hend]
      refine (readerEnd_no (w.heap.size + 1 + 1) _ s W5 R5 hend).mono ?_
      rintro e w6 ⟨rfl, hb6⟩
      have hA := A5.later hb6
      have hB : w6.heap[w.heap.size + 1]? = some (.cells #[.bool false] 4 (0, 0)) := (hb6.block _ (by omega)).trans B5
      have b6 := b5.trans (hb6.mono b5.size)
      clear A5 B5 R5 b5 w5 t5 hb6 c21 f21 HQ
      go_wp2
      unfold bodyPostD
      dsimp only
      refine door_panic w.heap.size (w.heap.size + 1) _ _ false (by rfl) (by rfl) (by rfl) hA hB (by omega) ?_
      exact HNO.out _ h0 b6
  · rintro e w4 ⟨hif, hg4⟩
    rw [if_neg hfit] at hif
    subst hif
    have h0 : rpOk s (y : Int) = false := by rw [hrp1, decide_eq_false (by omega)]
    have hA := A3.keep (hg4.block _ A3.lt (by simp; omega))
    have hB : w4.heap[w.heap.size + 1]? = some (.cells #[.bool false] 4 (0, 0)) := (hg4.block _ (by omega) (by simp)).trans B3
    have b4 : Below w.heap.size w w4 := b3.grown hg4 b3.size (fun k hk => by simp at hk; omega)
    clear hg4 A3 B3 R3 HQ
    go_wp2
    unfold bodyPostD
    dsimp only
    refine door_panic w.heap.size (w.heap.size + 1) _ _ false (by rfl) (by rfl) (by rfl) hA hB (by omega) ?_
    exact HNO.out _ h0 b4

end Go.Proofs.Ytfojmagcoipbnaa
/-
  The specification's reader: what it takes of a text for a proof's sides.
-/
namespace Go.Proofs.Ytfojmagcoipbnaa
open Go.RowKit Go.BigFrame Go.Sort
set_option linter.unusedVariables false
set_option linter.unusedSimpArgs false

/-- a number that is read, or why not -/
theorem sReadVar_at (s : ByteArray) (p : Nat) (w : World) (hs : s.size ≤ 1048576) (hp : p ≤ s.size) :
    ∃ n q b, Calls Try.prog 89 #[.string s, .int .i64 (p : Int)] w fun e w' => e = .returned (.tuple #[.int .i64 n, .int .i64 q, .bool b]) ∧ Below w.heap.size w w' := by
  cases hr : M.readVar s.data.toList p with
  | none => exact ⟨0, 0, false, sReadVar_none s (p : Int) w hs (.inr ⟨by omega, by simpa using hr⟩)⟩
  | some z => obtain ⟨n, q⟩ := z; exact ⟨n, q, true, sReadVar_some s (p : Int) n q w hs (by omega) (by simpa using hr)⟩

set_option maxRecDepth 100000 in
set_option maxHeartbeats 1000000 in
theorem l09Var_bad (c : Nat) (s : ByteArray) (p : Nat) (w : World) (h : Cu w c s p true) (hs : s.size ≤ 1048576) (hp : p ≤ s.size) :
    Calls Try.prog 44 #[.pointer (some ⟨c, 0, none⟩)] w fun e w' => (e = .returned (.int .i64 0) ∧ Cu w' c s p true) ∧ w.grownBy w' (some c) := by
  have c0 := h.c0
  have c1 := h.c1
  have H : Hid (Cu w c s p true) := h
  have hcl := h.lt
  clear h
  have HX : Hid (∃ (n q : Int) (b : Bool), ∀ W, Calls Try.prog 89 #[.string s, .int .i64 (p : Int)] W fun e w' => e = .returned (.tuple #[.int .i64 n, .int .i64 q, .bool b]) ∧ Below W.heap.size W w') := by
    show ∃ (n q : Int) (b : Bool), ∀ W, Calls Try.prog 89 #[.string s, .int .i64 (p : Int)] W fun e w' => e = .returned (.tuple #[.int .i64 n, .int .i64 q, .bool b]) ∧ Below W.heap.size W w'
    cases hr : M.readVar s.data.toList p with
    | none => exact ⟨0, 0, false, fun W => sReadVar_none s (p : Int) W hs (.inr ⟨by omega, by simpa using hr⟩)⟩
    | some z => obtain ⟨n, q⟩ := z; exact ⟨n, q, true, fun W => sReadVar_some s (p : Int) n q W hs (by omega) (by simpa using hr)⟩
  obtain ⟨n, q, b, h1⟩ := HX.out
  have H1 : Hid (∀ W, Calls Try.prog 89 #[.string s, .int .i64 (p : Int)] W fun e w' => e = .returned (.tuple #[.int .i64 n, .int .i64 q, .bool b]) ∧ Below W.heap.size W w') := h1
  clear HX h1
  go_enter Try.func44, Try.ntmps44
  go_wp2
  have kq0 := cell_regrown (w := w) c0
  have kq1 := cell_regrown (w := w) c1
  have cq0 := fun d os => Calls.regrown_of (w := w) (d := d) (os := os) (H1.out _)
  refine wp_region_quiet_below (by kernel_rfl) (by kernel_rfl) ?_
  repeat (go_big_quiet_step (first | with_reducible exact cq0 _ _))
  refine wpQuiet_nil ?_
  rintro _ ⟨⟨dq, osq⟩, rfl⟩
  have hb6 := below_regrown (w) dq osq
  generalize grow (redrawn (w) dq) osq = w6 at *
  clear kq0 kq1 cq0
  have h6 := H.out.later hb6
  have d2 := h6.c2
  have g2 := h6.f2
  have hcl6 := h6.lt
  have HF : Hid (Cu (w6.setCell ⟨c, 2, none⟩ (.bool true)) c s p true ∧ w.grownBy (w6.setCell ⟨c, 2, none⟩ (.bool true)) (some c)) := ⟨h6.bad, (grown_below hb6).trans (grown_setC w6 c 2 _)⟩
  clear h6 hb6 H H1 c0 c1
  go_wp2
  go_ret
  exact ⟨⟨rfl, HF.out.1⟩, HF.out.2⟩

set_option maxRecDepth 100000 in
set_option maxHeartbeats 1000000 in
theorem l09Take_no (c : Nat) (s : ByteArray) (p : Nat) (b : Bool) (x : Int) (w : World) (h : Cu w c s p b) (hs : s.size ≤ 1048576) (hp : p ≤ s.size) (hno : b = true ∨ x < 0 ∨ (s.size : Int) - (p : Int) < x) :
    Calls Try.prog 45 #[.pointer (some ⟨c, 0, none⟩), .int .i64 x] w fun e w' => (e = .returned (.string ⟨#[]⟩) ∧ Cu w' c s p true) ∧ w.grownBy w' (some c) := by
  have c0 := h.c0
  have c1 := h.c1
  have c2 := h.c2
  have hcl := h.lt
  have HH : Hid (Cu w c s p b) := h
  clear h
  cases b with
  | true =>
    clear hno
    go_enter Try.func45, Try.ntmps45
    go_wp2
    go_quiet (fail)
    have h6 : Cu (w.drewN nq) c s p true := HH.out
    have hgw : w.grownBy (w.drewN nq) (some c) := grown_below (below_drn (Below.refl _ _) nq)
    generalize w.drewN nq = wd at *
    have d2 := h6.c2
    have g2 := h6.f2
    have hl6 := h6.lt
    have HF : Hid (Cu (wd.setCell ⟨c, 2, none⟩ (.bool true)) c s p true ∧ w.grownBy (wd.setCell ⟨c, 2, none⟩ (.bool true)) (some c)) := ⟨h6.bad, hgw.trans (grown_setC wd c 2 _)⟩
    clear h6 hgw HH
    go_wp2
    go_ret
    exact ⟨⟨rfl, HF.out.1⟩, HF.out.2⟩
  | false =>
    by_cases hx : x < 0
    · have qx : decide (x < 0) = true := decide_eq_true hx
      clear hno
      go_enter Try.func45, Try.ntmps45
      go_wp2
      go_quiet (fail)
      have h6 : Cu (w.drewN nq) c s p false := HH.out
      have hgw : w.grownBy (w.drewN nq) (some c) := grown_below (below_drn (Below.refl _ _) nq)
      generalize w.drewN nq = wd at *
      have d2 := h6.c2
      have g2 := h6.f2
      have hl6 := h6.lt
      have HF : Hid (Cu (wd.setCell ⟨c, 2, none⟩ (.bool true)) c s p true ∧ w.grownBy (wd.setCell ⟨c, 2, none⟩ (.bool true)) (some c)) := ⟨h6.bad, hgw.trans (grown_setC wd c 2 _)⟩
      clear h6 hgw HH
      go_wp2
      go_ret
      exact ⟨⟨rfl, HF.out.1⟩, HF.out.2⟩
    · have h3 : (s.size : Int) - (p : Int) < x := by
        rcases hno with h | h | h
        · cases h
        · exact absurd h hx
        · exact h
      have qx : decide (x < 0) = false := decide_eq_false hx
      have q3 : decide ((s.size : Int) - (p : Int) < x) = true := decide_eq_true h3
      clear hno
      go_enter Try.func45, Try.ntmps45
      go_wp2
      go_quiet (fail)
      have h6 : Cu (w.drewN nq) c s p false := HH.out
      have hgw : w.grownBy (w.drewN nq) (some c) := grown_below (below_drn (Below.refl _ _) nq)
      generalize w.drewN nq = wd at *
      have d2 := h6.c2
      have g2 := h6.f2
      have hl6 := h6.lt
      have HF : Hid (Cu (wd.setCell ⟨c, 2, none⟩ (.bool true)) c s p true ∧ w.grownBy (wd.setCell ⟨c, 2, none⟩ (.bool true)) (some c)) := ⟨h6.bad, hgw.trans (grown_setC wd c 2 _)⟩
      clear h6 hgw HH
      go_wp2
      go_ret
      exact ⟨⟨rfl, HF.out.1⟩, HF.out.2⟩

set_option maxRecDepth 100000 in
set_option maxHeartbeats 1000000 in
theorem l09Take_yes (c : Nat) (s : ByteArray) (p y : Nat) (w : World) (h : Cu w c s p false) (hs : s.size ≤ 1048576) (hp : p + y ≤ s.size) :
    Calls Try.prog 45 #[.pointer (some ⟨c, 0, none⟩), .int .i64 (y : Int)] w fun e w' => (e = .returned (.string (piece s p y)) ∧ Cu w' c s (p + y) false) ∧ w.grownBy w' (some c) := by
  have c0 := h.c0
  have c1 := h.c1
  have c2 := h.c2
  have hcl := h.lt
  have HH : Hid (Cu w c s p false) := h
  have hpc := run_piece s p y hp
  have e1 : ((p + y : Nat) : Int) = (p : Int) + (y : Int) := by omega
  have qx : decide ((y : Int) < 0) = false := decide_eq_false (by omega)
  have q3 : decide ((s.size : Int) - (p : Int) < (y : Int)) = false := decide_eq_false (by omega)
  clear h
  go_enter Try.func45, Try.ntmps45
  go_wp2
  go_quiet (fail)
  have h6 : Cu (w.drewN nq) c s p false := HH.out
  have hgw : w.grownBy (w.drewN nq) (some c) := grown_below (below_drn (Below.refl _ _) nq)
  generalize w.drewN nq = wd at *
  have d1 := h6.c1
  have g1 := h6.f1
  have hl6 := h6.lt
  have hC : Cu (wd.setCell ⟨c, 1, none⟩ (.int .i64 ((p + y : Nat) : Int))) c s (p + y) false := h6.at (p + y)
  rw [e1] at hC
  have HF : Hid (Cu (wd.setCell ⟨c, 1, none⟩ (.int .i64 ((p : Int) + (y : Int)))) c s (p + y) false ∧ w.grownBy (wd.setCell ⟨c, 1, none⟩ (.int .i64 ((p : Int) + (y : Int)))) (some c)) := ⟨hC, hgw.trans (grown_setC wd c 1 _)⟩
  have k0 := hC.c0
  have k1 := hC.c1
  rw [e1] at k1
  have e2 : (p : Int) + (y : Int) - (y : Int) = (p : Int) := by omega
  clear h6 hgw hC HH c0 c1 c2
  go_wp2
  generalize wd.setCell ⟨c, 1, none⟩ (.int .i64 ((p : Int) + (y : Int))) = we at *
  go_quiet (fail)
  have HG : Hid (∀ n, Cu (we.drewN n) c s (p + y) false ∧ w.grownBy (we.drewN n) (some c)) := fun n => ⟨HF.out.1, HF.out.2.trans (grown_below (below_drn (Below.refl _ _) n))⟩
  go_wp2
  go_ret
  exact ⟨⟨rfl, (HG.out _).1⟩, (HG.out _).2⟩

end Go.Proofs.Ytfojmagcoipbnaa
/-
  A proof read of a text: the specification's answer.
-/
namespace Go.Proofs.Ytfojmagcoipbnaa
open Go.RowKit Go.BigFrame Go.Sort
set_option linter.unusedVariables false
set_option linter.unusedSimpArgs false

theorem raw_cut {s : ByteArray} {l : List Le} {q : Nat} (h : LV.rawL s 0 = some (l, q)) : q ≤ s.size ∧ LV.lvL l = LV.cutL s.data.toList 0 q := by
  cases hr : M.readVar s.data.toList 0 with
  | none => rw [LV.rawL_none hr] at h; cases h
  | some y =>
    obtain ⟨n, q0⟩ := y
    obtain ⟨hq0, hN⟩ := read_bound s 0 n q0 hr
    by_cases hn : 24 < n
    · rw [LV.rawL_great hr hn] at h; cases h
    · rw [LV.rawL_at hr hn] at h
      obtain ⟨h1, h2, h3, h4⟩ := LV.leavesF_some hq0 h
      have hc := LV.read_canon (Nat.zero_le _) hr
      have hp := LV.read_past _ _ _ _ hr
      refine ⟨h2, ?_⟩
      unfold LV.lvL
      rw [h3, ← hc, ← h4, LV.cutL_join _ 0 q0 q (by omega) h1]
theorem sdp_snoc (s : ByteArray) (y p n : Nat) : sdp s y p (n + 1) = sdp s y p n ++ [piece s (p + n * y) y] := by
  unfold sdp
  rw [List.range_succ, List.map_append]
  rfl
theorem join_sdp (s : ByteArray) (y p : Nat) : ∀ n, p + n * y ≤ s.size → (joinT (sdp s y p n)).data.toList = LV.cutL s.data.toList p (p + n * y)
  | 0, h => by
    have : LV.cutL s.data.toList p (p + 0 * y) = [] := by unfold LV.cutL; simp
    rw [this]
    rfl
  | n + 1, h => by
    have em : p + (n + 1) * y = p + n * y + y := by rw [Nat.add_mul, Nat.one_mul, Nat.add_assoc]
    have ih := join_sdp s y p n (by omega)
    rw [sdp_snoc, joinT_snoc, ByteArray.data_append, Array.toList_append, ih]
    unfold piece
    rw [LV.extract_cut, LV.cutL_join _ p (p + n * y) (p + n * y + y) (by omega) (by omega), em]
theorem sdp_wide {s : ByteArray} {y p n : Nat} (h : p + n * y ≤ s.size) (hy : 1 ≤ y ∧ y ≤ 32) : wideB (sdp s y p n) (y : Int) = true := by
  rw [wideB_good fun j hj => ?_]
  · exact decide_eq_true (by omega)
  · rw [sdp_at, LV.piece_len]
    rw [sdp_len] at hj
    have h2 : (j + 1) * y ≤ n * y := Nat.mul_le_mul_right _ hj
    have em : p + (j + 1) * y = p + j * y + y := by rw [Nat.add_mul, Nat.one_mul, Nat.add_assoc]
    omega
theorem px_text {s : ByteArray} {l : List Le} {q n p y : Nat} (h : LV.rawL s 0 = some (l, q)) (hl : LV.leavesB l = true) (hv : M.readVar s.data.toList q = some (n, p)) (hn : n ≤ 8) (hy : 1 ≤ y ∧ y ≤ 32) (hf : p + n * y ≤ s.size) :
    pxB l (sdp s y p n) (y : Int) = true ∧ (pxT l (sdp s y p n) (y : Int) = s ↔ p + n * y = s.size) := by
  have hb : pxB l (sdp s y p n) (y : Int) = true := by
    unfold pxB sidB
    rw [hl, sdp_wide hf hy, sdp_len, decide_eq_true hn]
    rfl
  refine ⟨hb, ?_⟩
  obtain ⟨hq, hc⟩ := raw_cut h
  have hpp := LV.read_past _ _ _ _ hv
  have e : (pxT l (sdp s y p n) (y : Int)).data.toList = LV.cutL s.data.toList 0 (p + n * y) := by
    unfold pxT
    rw [if_pos hb, lvT_yes hl, sdp_len, ByteArray.data_append, ByteArray.data_append, Array.toList_append, Array.toList_append, join_sdp s y p n hf]
    show LV.lvL l ++ M.varL n ++ LV.cutL s.data.toList p (p + n * y) = _
    rw [hc, ← LV.read_canon hq hv, LV.cutL_join _ 0 q p (by omega) (by omega), LV.cutL_join _ 0 p (p + n * y) (by omega) (by omega)]
  have hL : s.data.toList.length = s.size := Array.length_toList
  constructor
  · intro he
    rw [he] at e
    have h5 := LV.cutL_len s.data.toList 0 (p + n * y) (by omega) (by omega)
    rw [← e] at h5
    omega
  · intro he
    apply ByteArray.ext
    apply Array.toList_inj.1
    rw [e, he]
    unfold LV.cutL
    simp only [List.drop_zero, Nat.sub_zero]
    exact List.take_of_length_le (by omega)

/-- what the specification has read so far of the sides -/
def RyI (s : ByteArray) (X : Int) (l : List Le) (n : Int) (p m : Nat) (S : List ByteArray) (q : Nat) (b : Bool) : Prop :=
  S.length = m ∧ q ≤ s.size ∧ (∀ t ∈ S, t.size ≤ s.size) ∧ (b = true → rpOk s X = false) ∧ (b = false → (LV.rawL s 0 = none ∧ 24 < l.length) ∨ (∃ q0 k, LV.rawL s 0 = some (l, q0) ∧ M.readVar s.data.toList q0 = some (k, p) ∧ n = (k : Int) ∧ (0 < m → 0 ≤ X) ∧ S = sdp s X.toNat p m ∧ q = p + m * X.toNat))

theorem rp_at {s : ByteArray} {x : Int} {l : List Le} {q k p : Nat} (h : LV.rawL s 0 = some (l, q)) (hv : M.readVar s.data.toList q = some (k, p)) : rpOk s x = (decide (1 ≤ x ∧ x ≤ 32) && LV.leavesB l && decide (k ≤ 8) && decide (p + k * x.toNat = s.size)) ∧ (rpOk s x = true → rpL s x = l ∧ rpS s x = sdp s x.toNat p k) := by
  refine ⟨?_, fun h2 => ?_⟩
  · unfold rpOk
    rw [h]
    dsimp only
    rw [hv]
  · unfold rpL rpS
    rw [h]
    dsimp only
    rw [hv]
    dsimp only
    rw [h2]
    exact ⟨rfl, rfl⟩
theorem rp_none {s : ByteArray} {x : Int} (h : LV.rawL s 0 = none) : rpOk s x = false := by
  unfold rpOk
  rw [h]
theorem rp_var {s : ByteArray} {x : Int} {l : List Le} {q : Nat} (h : LV.rawL s 0 = some (l, q)) (hv : M.readVar s.data.toList q = none) : rpOk s x = false := by
  unfold rpOk
  rw [h]
  dsimp only
  rw [hv]
theorem RyI.bad {s : ByteArray} {X : Int} {l : List Le} {n : Int} {p m q : Nat} {S : List ByteArray} (h : RyI s X l n p m S q false) (hmn : (m : Int) < n) (hx : X < 0 ∨ (s.size : Int) - (q : Int) < X) : RyI s X l n p (m + 1) (S ++ [⟨#[]⟩]) q true := by
  obtain ⟨h1, h2, h3, _, h5⟩ := h
  refine ⟨by simp [h1], h2, fun t ht => ?_, fun _ => ?_, fun hb => by cases hb⟩
  · rcases List.mem_append.1 ht with h | h
    · exact h3 t h
    · simp at h
      subst h
      exact Nat.zero_le _
  · rcases h5 rfl with ⟨h, _⟩ | ⟨q0, k, hr, hv, rfl, hX, _, hq⟩
    · exact rp_none h
    · rw [(rp_at hr hv).1]
      by_cases hX0 : X < 0
      · rw [decide_eq_false (by omega)]
        rfl
      · have hlt : (m + 1) * X.toNat ≤ k * X.toNat := Nat.mul_le_mul_right _ (by omega)
        have em : p + (m + 1) * X.toNat = p + m * X.toNat + X.toNat := by rw [Nat.add_mul, Nat.one_mul, Nat.add_assoc]
        rw [decide_eq_false (show ¬ p + k * X.toNat = s.size by omega), Bool.and_false]
theorem RyI.take {s : ByteArray} {l : List Le} {n : Int} {p m q y : Nat} {S : List ByteArray} (h : RyI s (y : Int) l n p m S q false) (hy : q + y ≤ s.size) : RyI s (y : Int) l n p (m + 1) (S ++ [piece s q y]) (q + y) false := by
  obtain ⟨h1, h2, h3, _, h5⟩ := h
  refine ⟨by simp [h1], hy, fun t ht => ?_, (fun hb => by cases hb), fun _ => ?_⟩
  · rcases List.mem_append.1 ht with h | h
    · exact h3 t h
    · simp at h
      subst h
      exact piece_size s q y
  · rcases h5 rfl with h | ⟨q0, k, hr, hv, hk, hX, hS, hq⟩
    · exact .inl h
    · rw [Int.toNat_natCast] at hS hq
      refine .inr ⟨q0, k, hr, hv, hk, fun _ => by omega, ?_, ?_⟩
      · rw [Int.toNat_natCast, sdp_snoc, hS, hq]
      · rw [Int.toNat_natCast, hq, Nat.add_mul, Nat.one_mul, Nat.add_assoc]
theorem ry_end {s : ByteArray} {x : Int} {l : List Le} {n : Int} {p m q : Nat} {S : List ByteArray} {b : Bool} (h : RyI s x l n p m S q b) (hm : m ≤ 10) (hn : (m : Int) ≤ n) (hst : ¬ ((m : Int) < n ∧ m < 10 ∧ b = false)) :
    ((b = false ∧ pxB l S x = true ∧ pxT l S x = s) → rpOk s x = true ∧ rpL s x = l ∧ rpS s x = S) ∧ (¬ (b = false ∧ pxB l S x = true ∧ pxT l S x = s) → rpOk s x = false) := by
  obtain ⟨h1, h2, h3, h4, h5⟩ := h
  cases b with
  | true => exact ⟨fun h => (by cases h.1), fun _ => h4 rfl⟩
  | false =>
    rcases h5 rfl with ⟨hr, h24⟩ | ⟨q0, k, hr, hv, rfl, hX, hS, hq⟩
    · have hl : LV.leavesB l = false := by
        rw [LV.leavesB_no]
        intro hd
        have := hd.1
        omega
      have hp : pxB l S x = false := by unfold pxB; rw [hl]; rfl
      exact ⟨fun h => (by rw [hp] at h; cases h.2.1), fun _ => rp_none hr⟩
    · obtain ⟨e1, e2⟩ := rp_at (x := x) hr hv
      have hstop : ¬ (m < k ∧ m < 10) := fun h => hst ⟨by omega, h.2, rfl⟩
      by_cases hk8 : k ≤ 8
      · obtain rfl : m = k := by omega
        by_cases hx : 1 ≤ x ∧ x ≤ 32
        · obtain ⟨y, rfl⟩ : ∃ y : Nat, x = (y : Int) := ⟨x.toNat, by omega⟩
          rw [Int.toNat_natCast] at hS hq e1 e2
          subst hS
          cases hl : LV.leavesB l with
          | false =>
            have hp : pxB l (sdp s y p m) (y : Int) = false := by unfold pxB; rw [hl]; rfl
            refine ⟨fun h => (by rw [hp] at h; cases h.2.1), fun _ => ?_⟩
            rw [e1, hl, Bool.and_false]
            rfl
          | true =>
            obtain ⟨hp, ht⟩ := px_text (y := y) hr hl hv hk8 ⟨by omega, by omega⟩ (by omega)
            rw [decide_eq_true hx, hl, decide_eq_true hk8, Bool.true_and, Bool.true_and, Bool.true_and] at e1
            refine ⟨fun h => ?_, fun h => ?_⟩
            · have : rpOk s (y : Int) = true := by rw [e1]; exact decide_eq_true (ht.1 h.2.2)
              exact ⟨this, e2 this⟩
            · rw [e1]
              exact decide_eq_false fun hh => h ⟨rfl, hp, ht.2 hh⟩
        · have hp : pxB l S x = false := by
            unfold pxB sidB wideB
            rw [decide_eq_false hx]
            simp
          refine ⟨fun h => (by rw [hp] at h; cases h.2.1), fun _ => ?_⟩
          rw [e1, decide_eq_false hx]
          rfl
      · have hp : pxB l S x = false := by
          unfold pxB sidB
          rw [decide_eq_false (show ¬ S.length ≤ 8 by omega)]
          simp
        refine ⟨fun h => (by rw [hp] at h; cases h.2.1), fun _ => ?_⟩
        rw [e1, decide_eq_false hk8, Bool.and_false, Bool.false_and]

section
variable {w : World} {ops : Array Oper} {o : Oper} {a : Act} {Q : Exit → Act → World → Prop} {K : Act → World → Prop}
theorem one_txtP {w : World} {p : Nat} {t : ByteArray} (h : w.cell? ⟨p, 0, none⟩ = some (.string t)) : ∀ j u, [Value.string t][j]? = some u → w.cell? ((⟨p, 0, none⟩ : Addr).add j) = some u := by
  intro j u hj
  match j, hj with
  | 0, hj =>
    simp at hj
    subst hj
    simpa [Addr.add] using h
/-- a text appended, and where the row lies then: as one step of a region that draws its order -/
theorem step_txtP {E : Prop} (hgd : o.guard = none) (s x : Operand)
    (ho : o.op = .call { callee := .builtin .append, args := #[s, x], argTypes := #[23, 23] })
    (B : Nat) (w0 : World) (u : Value) (l : List ByteArray) (t : ByteArray) (hs : a.eval s = u) (h : OS B w0 w u l) (p : Nat) (hx : a.eval x = .slice (some ⟨p, 0, none⟩) 1 1)
    (hnews : w.cell? ⟨p, 0, none⟩ = some (.string t)) (hlen : l.length + 1 ≤ 1000000)
    (hk : ∀ g cap w', OS B w0 w' (.slice (some ⟨g, 0, none⟩) (l.length + 1) cap) (l ++ [t]) → w.grownBy w' u.ownBlock → (u.ownBlock = some g ∨ g = w.heap.size) → K (a.put o.dst (.slice (some ⟨g, 0, none⟩) (l.length + 1) cap)) w') : if Region.wanted o (yielded ops a.tmps) = true then Oper.wp Try.prog o a w K Q else E := by
  obtain ⟨i0, hi, hz0, hz1, hz2⟩ := info_parts Try.info9
  refine step_append_lies w hgd s x 23 ho B 9 i0 (.string ByteArray.empty) 1 16 Try.underlying23 hi hz0 hz1 hz2 rfl (by decide) u l.length (svs l) hs h.1 ⟨p, 0, none⟩ 1 1 [.string t] hx rfl (one_txtP hnews)
    (fun u hu => by simp at hu; subst hu; rfl) (by omega) (by unfold maxLen; omega) (by omega) h.2.2 w.heap.size rfl ?_
  intro g cap w' h1 h2 h3 _
  exact hk _ _ _ ⟨by rw [List.length_append, svs_append]; exact h1, h.2.1.grown h2 h.2.2 (fun k hk => (h.1.lt k hk).1), Nat.le_trans h.2.2 h2.size⟩ h2 h3
end

theorem OS.keptP {B : Nat} {w0 w w' : World} {v : Value} {row : Option Nat} {l : List ByteArray} (h : OS B w0 w v l) (hg : w.grownBy w' row) (hB : ∀ k, row = some k → B ≤ k) (hne : v.ownBlock = none ∨ v.ownBlock ≠ row) : OS B w0 w' v l :=
  ⟨World.ownsRow.kept h.1 hg hne, h.2.1.grown hg h.2.2 hB, Nat.le_trans h.2.2 hg.size⟩
theorem OS.neP {B g T : Nat} {w0 w : World} {v : Value} {cs : Array Value} {fz : Nat × Nat} {r : List ByteArray} (ho : OS B w0 w v r) (h : w.heap[g]? = some (.cells cs T fz)) (hT : T ≠ 9) : v.ownBlock ≠ some g := fun hq => by
  rcases ho.1.2 with ⟨hv, _⟩ | ⟨g', cap, cur, hv, _, hg, _⟩
  · rw [hv] at hq; cases hq
  · rw [hv] at hq
    have : g' = g := by simpa [Value.ownBlock] using hq
    subst this
    rw [hg] at h
    simp at h
    exact hT h.2.1.symm
theorem OL.typ {B g : Nat} {w0 w : World} {v : Value} {r : List Le} (ho : OL B w0 w v r) (hq : v.ownBlock = some g) : ∃ cs fz, w.heap[g]? = some (.cells cs 123 fz) := by
  rcases ho.1.2 with ⟨hv, _⟩ | ⟨g', cap, cur, hv, _, hg, _⟩
  · rw [hv] at hq; cases hq
  · rw [hv] at hq
    have : g' = g := by simpa [Value.ownBlock] using hq
    subst this
    exact ⟨_, _, hg⟩

/-- what stands while the specification reads -/
def RyS (B : Nat) (w0 W : World) (s : ByteArray) (c gp : Nat) (q : Nat) (b : Bool) (vL : Value) (l : List Le) (vS : Value) (S : List ByteArray) : Prop := OL B w0 W vL l ∧ Cu W c s q b ∧ PfM W gp vL vS ∧ OS B w0 W vS S
theorem RyS.later {B : Nat} {w0 W W' : World} {s : ByteArray} {c gp q : Nat} {b : Bool} {vL vS : Value} {l : List Le} {S : List ByteArray} (h : RyS B w0 W s c gp q b vL l vS S) (hb : Below W.heap.size W W') : RyS B w0 W' s c gp q b vL l vS S := ⟨h.1.later hb, h.2.1.later hb, h.2.2.1.later hb, h.2.2.2.later hb⟩
/-- the reader has gone on -/
theorem RyS.read {B : Nat} {w0 W W' : World} {s : ByteArray} {c gp q q' : Nat} {b b' : Bool} {vL vS : Value} {l : List Le} {S : List ByteArray} (h : RyS B w0 W s c gp q b vL l vS S) (hg : W.grownBy W' (some c)) (hc : Cu W' c s q' b') (hB : B ≤ c) : RyS B w0 W' s c gp q' b' vL l vS S :=
  ⟨h.1.grown hg (fun k hk => by cases hk; exact ⟨hB, h.1.ne h.2.1 (by decide)⟩), hc, h.2.2.1.keep (hg.block _ h.2.2.1.lt (fun e => by
    have : gp = c := by simpa using e
    subst this
    have h1 := h.2.1
    have h2 := h.2.2.1
    unfold Cu at h1
    unfold PfM at h2
    rw [h1] at h2
    simp at h2)), h.2.2.2.keptP hg (fun k hk => by cases hk; exact hB) (.inr (h.2.2.2.neP h.2.1 (by decide)))⟩
/-- a side more -/
theorem RyS.app {B : Nat} {w0 W W' : World} {s : ByteArray} {c gp q : Nat} {b : Bool} {vL vS v' : Value} {l : List Le} {S S' : List ByteArray} (h : RyS B w0 W s c gp q b vL l vS S) (hg : W.grownBy W' vS.ownBlock) (ho : OS B w0 W' v' S') (hgp : B ≤ gp) :
    W'.cell? ⟨gp, 1, none⟩ = some vS ∧ W'.frozen? ⟨gp, 1, none⟩ = false ∧ gp < W'.heap.size ∧ RyS B w0 (W'.setCell ⟨gp, 1, none⟩ v') s c gp q b vL l v' S' := by
  have hP := h.2.2.1.keep (hg.block _ h.2.2.1.lt (Ne.symm (h.2.2.2.neP h.2.2.1 (by decide))))
  have hC : Cu W' c s q b := (hg.block _ h.2.1.lt (Ne.symm (h.2.2.2.neP h.2.1 (by decide)))).trans h.2.1
  have hL : OL B w0 W' vL l := h.1.grown hg (fun k hk => ⟨(h.2.2.2.1.lt k hk).1, fun e => by
    obtain ⟨cs, fz, hh⟩ := h.1.typ e
    exact h.2.2.2.neP hh (by decide) hk⟩)
  have hgr := grown_setC W' gp 1 v'
  refine ⟨hP.c1, hP.fr 1, hP.lt, hL.grown hgr (fun k hk => by cases hk; exact ⟨hgp, hL.ne hP (by decide)⟩), hC.grown hgr (fun e => ?_), hP.set1 v', ho.keptP hgr (fun k hk => by cases hk; exact hgp) (.inr (ho.neP hP (by decide)))⟩
  have : c = gp := by simpa using e
  subst this
  unfold Cu at hC
  unfold PfM at hP
  rw [hC] at hP
  simp at hP

def RyR (B : Nat) (w0 : World) (s : ByteArray) (x : Int) (c gp : Nat) (vL : Value) (l : List Le) (n : Int) (p : Nat) (i : Value) (wr : World) : Prop := ∃ (m q : Nat) (b : Bool) (vS : Value) (S : List ByteArray), m ≤ 10 ∧ (m : Int) ≤ n ∧ i = .int .i64 m ∧ Hid (RyI s x l n p m S q b ∧ RyS B w0 wr s c gp q b vL l vS S)

set_option maxRecDepth 100000 in
set_option maxHeartbeats 2000000 in
theorem sReadProof_any (s : ByteArray) (x : Int) (w : World) (hs : s.size ≤ 1048576) :
    Calls Try.prog 13 #[.string s, .int .i64 x] w (PvP (rpL s x) (rpS s x) (rpOk s x) w) := by
  obtain ⟨Q, hQ⟩ : ∃ Q, PvP (rpL s x) (rpS s x) (rpOk s x) w = Q := ⟨_, rfl⟩
  have HQ : Hid (PvP (rpL s x) (rpS s x) (rpOk s x) w = Q) := hQ
  rw [hQ]
  clear hQ
  have A0 := PfM.later (PfM.new w (.slice none 0 0) (.slice none 0 0)) ((Below.refl _ _).alloc (Nat.le_refl _) (.cells #[.string s, .int .i64 0, .bool false] 84))
  have C0 : Cu ((w.alloc (.cells #[.slice none 0 0, .slice none 0 0] 31)).alloc (.cells #[.string s, .int .i64 0, .bool false] 84)) (w.heap.size + 1) s 0 false := by
    have := Go.heap_alloc_new (w.alloc (.cells #[.slice none 0 0, .slice none 0 0] 31)) (.cells #[.string s, .int .i64 0, .bool false] 84)
    have e : (w.alloc (.cells #[.slice none 0 0, .slice none 0 0] 31)).heap.size = w.heap.size + 1 := by simp
    rw [e] at this
    exact this
  have b0 : Below w.heap.size w ((w.alloc (.cells #[.slice none 0 0, .slice none 0 0] 31)).alloc (.cells #[.string s, .int .i64 0, .bool false] 84)) := ((Below.refl _ _).alloc (Nat.le_refl _) _).alloc (by simp) _
  have h1 := l09Leaves_at (w.heap.size + 1) s (w.heap.size + 1) _ _ C0 (Nat.le_refl _) (Below.refl _ _) hs
  go_enter Try.func13, Try.ntmps13
  go_wp2_with fail
  refine h1.mono ?_
  generalize (w.alloc (.cells #[.slice none 0 0, .slice none 0 0] 31)).alloc (.cells #[.string s, .int .i64 0, .bool false] 84) = w0 at *
  rintro e w1 ⟨u, l, q, b, rfl, ho, hc, ⟨hl30, hqs⟩, hsz, hbt, hbf⟩
  obtain ⟨au, cu, rfl⟩ := ho.shape
  clear h1 C0
  have hba : Below w1.heap.size w1 (w1.alloc (.cells #[.slice au l.length cu, .slice none 0 0] 31)) := (Below.refl _ _).alloc (Nat.le_refl _) _
  have hBs : w.heap.size + 1 ≤ w1.heap.size := ho.2.2
  have HSM : Hid (SmallL l) := fun f hf => by have := hsz f hf; omega
  have O1 := ho.later hba
  have S1 : RyS (w.heap.size + 1) w0 (w1.alloc (.cells #[.slice au l.length cu, .slice none 0 0] 31)) s (w.heap.size + 1) w1.heap.size q b (.slice au l.length cu) l (.slice none 0 0) [] := ⟨O1, hc.later hba, PfM.new w1 _ _, ⟨World.ownsRow_nil _ _ _ _, O1.2.1, O1.2.2⟩⟩
  have HV : Hid (∀ W, RyS (w.heap.size + 1) w0 W s (w.heap.size + 1) w1.heap.size q b (.slice au l.length cu) l (.slice none 0 0) [] → Calls Try.prog 44 #[.pointer (some ⟨w.heap.size + 1, 0, none⟩)] W fun e w' => ∃ (n p q1 : Nat) (b1 : Bool), e = .returned (.int .i64 (n : Int)) ∧ n ≤ 1000000000 ∧ RyI s x l (n : Int) p 0 [] q1 b1 ∧ RyS (w.heap.size + 1) w0 w' s (w.heap.size + 1) w1.heap.size q1 b1 (.slice au l.length cu) l (.slice none 0 0) []) := fun W hW => by
    cases b with
    | true =>
      refine (l09Var_bad (w.heap.size + 1) s q W hW.2.1 hs hqs).mono fun e w' ⟨⟨he, hc'⟩, hg⟩ => ?_
      exact ⟨0, 0, q, true, he, by omega, ⟨rfl, hqs, fun t ht => (by cases ht), fun _ => rp_none (hbt rfl), fun h => (by cases h)⟩, hW.read hg hc' (Nat.le_refl _)⟩
    | false =>
      refine (l09Var_at (w.heap.size + 1) s q W hW.2.1 hs hqs).mono fun e w' ⟨hm, hg⟩ => ?_
      cases hr : M.readVar s.data.toList q with
      | none =>
        rw [hr] at hm
        refine ⟨0, 0, q, true, hm.1, by omega, ⟨rfl, hqs, fun t ht => (by cases ht), fun _ => ?_, fun h => (by cases h)⟩, hW.read hg hm.2 (Nat.le_refl _)⟩
        rcases hbf rfl with ⟨h, _⟩ | h
        · exact rp_none h
        · exact rp_var h hr
      | some z =>
        obtain ⟨k, p⟩ := z
        rw [hr] at hm
        obtain ⟨hps, hk9⟩ := read_bound s q k p hr
        refine ⟨k, p, p, false, hm.1, hk9, ⟨rfl, hps, fun t ht => (by cases ht), fun h => (by cases h), fun _ => ?_⟩, hW.read hg hm.2 (Nat.le_refl _)⟩
        rcases hbf rfl with h | h
        · exact .inl h
        · exact .inr ⟨q, k, h, hr, rfl, fun h0 => absurd h0 (by omega), rfl, by omega⟩
  clear hbt hbf hsz ho hc O1 hba
  go_wp2_with fail
  refine (HV.out _ S1).mono ?_
  rintro e w2 ⟨n, p, q1, b1, rfl, hn9, hI1, S2⟩
  clear HV S1
  have HST : Hid (RyR (w.heap.size + 1) w0 s x (w.heap.size + 1) w1.heap.size (.slice au l.length cu) l (n : Int) p (.int .i64 0) w2) := ⟨0, q1, b1, _, _, by omega, by omega, rfl, hI1, S2⟩
  have HA0 : Hid (PfM w0 w.heap.size (.slice none 0 0) (.slice none 0 0) ∧ Below w.heap.size w w0) := ⟨A0, b0⟩
  clear hI1 S2 A0 b0
  go_wp2
  go_loopw [9] (fun i wr => RyR (w.heap.size + 1) w0 s x (w.heap.size + 1) w1.heap.size (.slice au l.length cu) l (n : Int) p i wr) (fun i _ => 11 - (intOf i).toNat)
  case atStart => exact HST.out
  case round =>
    obtain ⟨m, q, b, vS, S, hm, hmn, rfl, HI⟩ := hrel
    clear HST
    have d2 := HI.out.2.2.1.c2
    have hlt := HI.out.2.2.1.lt
    by_cases hstop : (m : Int) < (n : Int) ∧ m < 10 ∧ b = false
    · obtain ⟨i1, hm10, rfl⟩ := hstop
      have i3 : (m : Int) < 10 := by omega
      have HSl : Hid (S.length = m) := HI.out.1.1
      have HTK : Hid (∀ W, RyS (w.heap.size + 1) w0 W s (w.heap.size + 1) w1.heap.size q false (.slice au l.length cu) l vS S → Calls Try.prog 45 #[.pointer (some ⟨w.heap.size + 1, 0, none⟩), .int .i64 x] W fun e w' => ∃ (t : ByteArray) (q' : Nat) (b' : Bool), e = .returned (.string t) ∧ RyI s x l (n : Int) p (m + 1) (S ++ [t]) q' b' ∧ RyS (w.heap.size + 1) w0 w' s (w.heap.size + 1) w1.heap.size q' b' (.slice au l.length cu) l vS S) := fun W hW => by
        by_cases hno : x < 0 ∨ (s.size : Int) - (q : Int) < x
        · refine (l09Take_no (w.heap.size + 1) s q false x W hW.2.1 hs HI.out.1.2.1 (.inr hno)).mono fun e w' ⟨⟨he, hc'⟩, hg⟩ => ?_
          exact ⟨_, q, true, he, HI.out.1.bad i1 hno, hW.read hg hc' (Nat.le_refl _)⟩
        · obtain ⟨y, rfl⟩ : ∃ y : Nat, x = (y : Int) := ⟨x.toNat, by omega⟩
          have hqy : q + y ≤ s.size := by omega
          refine (l09Take_yes (w.heap.size + 1) s q y W hW.2.1 hs hqy).mono fun e w' ⟨⟨he, hc'⟩, hg⟩ => ?_
          exact ⟨_, q + y, false, he, HI.out.1.take hqy, hW.read hg hc' (Nat.le_refl _)⟩
      have HS0 : Hid (RyS (w.heap.size + 1) w0 wr.drew s (w.heap.size + 1) w1.heap.size q false (.slice au l.length cu) l vS S) := HI.out.2.later (Below.refl _ _).drew
      have k1 : wr.drew.cell? ⟨w1.heap.size, 1, none⟩ = some vS := HS0.out.2.2.1.c1
      have hvs : ∃ a c, vS = .slice a S.length c := by
        rcases HI.out.2.2.2.2.shape with ⟨hv, hn⟩ | ⟨g, cap, hv, _⟩
        · exact ⟨none, 0, by rw [hv, hn]; rfl⟩
        · exact ⟨_, _, hv⟩
      obtain ⟨aS, cS, rfl⟩ := hvs
      clear HI
      go_wp2
      go_region_law ((first
        | (refine step_txtP rfl _ _ rfl (w.heap.size + 1) w0 _ S t (by rfl) HS4.out.2.2.2 _ (by rfl) HCT.out (by have := HSl.out; omega) ?_; intro g5 cap5 w5 ho5 hg5 hl5; obtain ⟨e1, f1, z1, hS5⟩ := HS4.out.app hg5 ho5 hBs)
        | (go_simp; go_at_call 45; refine (HTK.out _ HS0.out).mono ?_; rintro e w3 ⟨t, q', b', rfl, hI3, hS3⟩; have k3 := hS3.2.2.1.c1; have HS4 : Hid (RyS (w.heap.size + 1) w0 (w3.alloc (.cells #[.string t] 9)) s (w.heap.size + 1) w1.heap.size q' b' (.slice au l.length cu) l (.slice aS S.length cS) S) := hS3.later ((Below.refl _ _).alloc (Nat.le_refl _) _); have HCT : Hid ((w3.alloc (.cells #[.string t] 9)).cell? ⟨w3.heap.size, 0, none⟩ = some (.string t)) := (by show (w3.alloc (.cells #[.string t] 9)).cell? ⟨w3.heap.size, 0, none⟩ = some (.string t); rw [World.cell?_alloc_at _ _ _ _ rfl]; rfl); have k4 := HS4.out.2.2.1.c1)))
      all_goals
        have HJ : Hid (RyR (w.heap.size + 1) w0 s x (w.heap.size + 1) w1.heap.size (.slice au l.length cu) l (n : Int) p (.int .i64 ((m : Int) + 1)) (w5.setCell ⟨w1.heap.size, 1, none⟩ (.slice (some ⟨g5, 0, none⟩) (S.length + 1) cap5))) := ⟨m + 1, q', b', _, _, by omega, by omega, by congr 1, hI3, hS5⟩
        clear hS5 hI3 HS4 HCT hS3 k3 k4 k1 HS0 HTK ho5 hg5 hl5 e1 f1 z1
        go_wp2
        go_roundw
        case rel => exact HJ.out
        case measure => simp [intOf]; omega
    · have HEND0 := ry_end HI.out.1 hm hmn hstop
      have HSl : Hid (S.length ≤ 10) := by have := HI.out.1.1; exact (show S.length ≤ 10 by omega)
      have HPX0 : Hid (∀ W, RyS (w.heap.size + 1) w0 W s (w.heap.size + 1) w1.heap.size q b (.slice au l.length cu) l vS S → Calls Try.prog 9 #[.agg #[.slice au l.length cu, vS], .int .i64 x] W fun e w' => e = .returned (.tuple #[.string (pxT l S x), .bool (pxB l S x)]) ∧ Below W.heap.size W w') := fun W hW => by
        obtain ⟨gl, hrl, _, _⟩ := hW.1.rw (by omega)
        obtain ⟨gs, hss⟩ := hW.2.2.2.ss (by have := HSl.out; omega)
        exact sProofText_any _ _ gl 0 gs 0 l S x W hrl.1 HSM.out hss
      obtain ⟨PT, hPT⟩ : ∃ PT, pxT l S x = PT := ⟨_, rfl⟩
      obtain ⟨PB, hPB⟩ : ∃ PB, pxB l S x = PB := ⟨_, rfl⟩
      rw [hPT, hPB] at HEND0 HPX0
      have HEND : Hid (((b = false ∧ PB = true ∧ PT = s) → rpOk s x = true ∧ rpL s x = l ∧ rpS s x = S) ∧ (¬ (b = false ∧ PB = true ∧ PT = s) → rpOk s x = false)) := HEND0
      have HPX : Hid _ := HPX0.out
      clear HEND0 HPX0 hPT hPB
      have k0 := HI.out.2.2.2.1.c0
      have k1 := HI.out.2.2.2.1.c1
      by_cases hmlt : (m : Int) < (n : Int)
      · by_cases hm10 : m < 10
        · have i3 : (m : Int) < 10 := by omega
          obtain rfl : b = true := by
            cases b
            · exact absurd ⟨hmlt, hm10, rfl⟩ hstop
            · rfl
          clear hstop
          go_wp2_with fail
          refine (HPX.out _ HI.out.2).mono ?_
          rintro e w3 ⟨rfl, hb3⟩
          have S3 := HI.out.2.later hb3
          have A3 : PfM w3 w.heap.size (.slice none 0 0) (.slice none 0 0) := HA0.out.1.keep (S3.1.2.1.block _ (by omega))
          have b3 : Below w.heap.size w w3 := HA0.out.2.trans (S3.1.2.1.mono (by omega))
          have d3 := S3.2.1.c2
          have hl3 := S3.2.1.lt
          have HNO : Hid (¬ (true = false ∧ PB = true ∧ PT = s) → Q (.returned (.tuple #[.agg #[.slice none 0 0, .slice none 0 0], .bool false])) (w3.setRow w.heap.size #[.slice none 0 0, .slice none 0 0])) := fun h => by
            have h0 := HEND.out.2 h
            rw [← HQ.out, h0, (rp_no h0).1, (rp_no h0).2]
            exact PvP.no (below_row b3 (Nat.le_refl _))
          have HYE : Hid (true = false ∧ PB = true ∧ PT = s → Q (.returned (.tuple #[.agg #[.slice au l.length cu, vS], .bool true])) (w3.setRow w.heap.size #[.slice au l.length cu, vS])) := fun h => by
            obtain ⟨y1, y2, y3⟩ := HEND.out.1 h
            rw [← HQ.out, y1, y2, y3]
            have hgx := grown_setRowP w3 w.heap.size #[.slice au l.length cu, vS]
            obtain ⟨gl, hrl, hgl, hql⟩ := S3.1.rw (by omega)
            obtain ⟨gs, hts, hgs⟩ := S3.2.2.2.ts (by have := HSl.out; omega)
            have hcap : ∃ aS cS, vS = .slice aS S.length cS ∧ S.length ≤ cS := by
              rcases S3.2.2.2.1.2 with ⟨hv, hn⟩ | ⟨g, cap, cur, hv, _, _, hca, _⟩
              · have h0 : S.length = 0 := hn
                exact ⟨none, 0, by rw [hv, h0], by omega⟩
              · exact ⟨_, cap, hv, hca⟩
            obtain ⟨aS, cS, rfl, hcS⟩ := hcap
            refine ⟨au, cu, aS, cS, gl, gs, rfl, hrl.grown hgx (fun _ => by simp; omega), hts.keptG hgx (fun _ => by simp; omega), by omega, by omega, ⟨fun h1 h2 he => ?_, hcS⟩, below_row b3 (Nat.le_refl _)⟩
            subst he
            have hS := S3.2.2.2
            rcases hS.1.2 with ⟨hv, hn⟩ | ⟨g, cap, cur, hv, _, hg, _⟩
            · have h0 : S.length = 0 := hn
              omega
            · have e1 : g = gl := by
                have hh := hts.ss
                obtain ⟨_, _, ev, _, hA, _⟩ := hh
                have := hA h2
                rw [this] at ev
                rw [hv] at ev
                simp only [Value.slice.injEq, Option.some.injEq, Addr.mk.injEq] at ev
                exact ev.1.1
              subst e1
              rcases S3.1.1.2 with ⟨hv2, hn2⟩ | ⟨g2, cap2, cur2, hv2, _, hg2, _⟩
              · have h0 : l.length = 0 := hn2
                omega
              · have e2 : g2 = g := hql g2 (by rw [hv2]; rfl)
                subst e2
                rw [hg] at hg2
                simp at hg2
          have HP3 : Hid (PfM w3 w1.heap.size (.slice au l.length cu) vS) := S3.2.2.1
          have hone : vS.oneCell' = true := by
            rcases S3.2.2.2.shape with ⟨hv, _⟩ | ⟨g, cap, hv, _⟩
            · rw [hv]; rfl
            · rw [hv]; rfl
          clear HEND HPX S3 HI hb3 HA0
          have hQ := HNO.out (fun h => by cases h.1)
          clear HNO HYE
          go_wp2_with (refine wp_storePf rfl _ _ rfl w.heap.size _ _ (.slice none 0 0) (.slice none 0 0) A3 rfl rfl rfl rfl ?_; intro hfin)
          refine ret_pf2 4 5 w.heap.size _ _ _ rfl rfl rfl rfl hfin ?_
          exact hQ
        · have i3 : ¬ (m : Int) < 10 := by omega
          clear hstop
          go_wp2_with fail
          refine (HPX.out _ HI.out.2).mono ?_
          rintro e w3 ⟨rfl, hb3⟩
          have S3 := HI.out.2.later hb3
          have A3 : PfM w3 w.heap.size (.slice none 0 0) (.slice none 0 0) := HA0.out.1.keep (S3.1.2.1.block _ (by omega))
          have b3 : Below w.heap.size w w3 := HA0.out.2.trans (S3.1.2.1.mono (by omega))
          have d3 := S3.2.1.c2
          have hl3 := S3.2.1.lt
          have HNO : Hid (¬ (b = false ∧ PB = true ∧ PT = s) → Q (.returned (.tuple #[.agg #[.slice none 0 0, .slice none 0 0], .bool false])) (w3.setRow w.heap.size #[.slice none 0 0, .slice none 0 0])) := fun h => by
            have h0 := HEND.out.2 h
            rw [← HQ.out, h0, (rp_no h0).1, (rp_no h0).2]
            exact PvP.no (below_row b3 (Nat.le_refl _))
          have HYE : Hid (b = false ∧ PB = true ∧ PT = s → Q (.returned (.tuple #[.agg #[.slice au l.length cu, vS], .bool true])) (w3.setRow w.heap.size #[.slice au l.length cu, vS])) := fun h => by
            obtain ⟨y1, y2, y3⟩ := HEND.out.1 h
            rw [← HQ.out, y1, y2, y3]
            have hgx := grown_setRowP w3 w.heap.size #[.slice au l.length cu, vS]
            obtain ⟨gl, hrl, hgl, hql⟩ := S3.1.rw (by omega)
            obtain ⟨gs, hts, hgs⟩ := S3.2.2.2.ts (by have := HSl.out; omega)
            have hcap : ∃ aS cS, vS = .slice aS S.length cS ∧ S.length ≤ cS := by
              rcases S3.2.2.2.1.2 with ⟨hv, hn⟩ | ⟨g, cap, cur, hv, _, _, hca, _⟩
              · have h0 : S.length = 0 := hn
                exact ⟨none, 0, by rw [hv, h0], by omega⟩
              · exact ⟨_, cap, hv, hca⟩
            obtain ⟨aS, cS, rfl, hcS⟩ := hcap
            refine ⟨au, cu, aS, cS, gl, gs, rfl, hrl.grown hgx (fun _ => by simp; omega), hts.keptG hgx (fun _ => by simp; omega), by omega, by omega, ⟨fun h1 h2 he => ?_, hcS⟩, below_row b3 (Nat.le_refl _)⟩
            subst he
            have hS := S3.2.2.2
            rcases hS.1.2 with ⟨hv, hn⟩ | ⟨g, cap, cur, hv, _, hg, _⟩
            · have h0 : S.length = 0 := hn
              omega
            · have e1 : g = gl := by
                have hh := hts.ss
                obtain ⟨_, _, ev, _, hA, _⟩ := hh
                have := hA h2
                rw [this] at ev
                rw [hv] at ev
                simp only [Value.slice.injEq, Option.some.injEq, Addr.mk.injEq] at ev
                exact ev.1.1
              subst e1
              rcases S3.1.1.2 with ⟨hv2, hn2⟩ | ⟨g2, cap2, cur2, hv2, _, hg2, _⟩
              · have h0 : l.length = 0 := hn2
                omega
              · have e2 : g2 = g := hql g2 (by rw [hv2]; rfl)
                subst e2
                rw [hg] at hg2
                simp at hg2
          have HP3 : Hid (PfM w3 w1.heap.size (.slice au l.length cu) vS) := S3.2.2.1
          have hone : vS.oneCell' = true := by
            rcases S3.2.2.2.shape with ⟨hv, _⟩ | ⟨g, cap, hv, _⟩
            · rw [hv]; rfl
            · rw [hv]; rfl
          clear HEND HPX S3 HI hb3 HA0
          cases b with
          | true =>
            have hQ := HNO.out (fun h => by cases h.1)
            clear HNO HYE
            go_wp2_with (refine wp_storePf rfl _ _ rfl w.heap.size _ _ (.slice none 0 0) (.slice none 0 0) A3 rfl rfl rfl rfl ?_; intro hfin)
            refine ret_pf2 4 5 w.heap.size _ _ _ rfl rfl rfl rfl hfin ?_
            exact hQ
          | false =>
            cases PB with
            | false =>
              have hQ := HNO.out (fun h => by cases h.2.1)
              clear HNO HYE
              go_wp2_with (refine wp_storePf rfl _ _ rfl w.heap.size _ _ (.slice none 0 0) (.slice none 0 0) A3 rfl rfl rfl rfl ?_; intro hfin)
              refine ret_pf2 4 5 w.heap.size _ _ _ rfl rfl rfl rfl hfin ?_
              exact hQ
            | true =>
              by_cases ht : PT = s
              · have hQ := HYE.out ⟨rfl, rfl, ht⟩
                have qt : (PT.toList == s.toList) = true := by rw [ht]; simp
                clear HNO HYE ht
                go_wp2_with (first | (refine wp_loadPf rfl _ rfl w1.heap.size _ _ rfl HP3.out ?_) | (refine wp_storePf rfl _ _ rfl w.heap.size _ _ (.slice au l.length cu) vS A3 rfl rfl rfl hone ?_; intro hfin))
                refine ret_pf2 4 5 w.heap.size _ _ _ rfl rfl rfl rfl hfin ?_
                exact hQ
              · have hQ := HNO.out (fun h => ht h.2.2)
                have qt : (PT.toList == s.toList) = false := LV.bytes_ne ht
                clear HNO HYE ht
                go_wp2_with (refine wp_storePf rfl _ _ rfl w.heap.size _ _ (.slice none 0 0) (.slice none 0 0) A3 rfl rfl rfl rfl ?_; intro hfin)
                refine ret_pf2 4 5 w.heap.size _ _ _ rfl rfl rfl rfl hfin ?_
                exact hQ
      · clear hstop
        go_wp2_with fail
        refine (HPX.out _ HI.out.2).mono ?_
        rintro e w3 ⟨rfl, hb3⟩
        have S3 := HI.out.2.later hb3
        have A3 : PfM w3 w.heap.size (.slice none 0 0) (.slice none 0 0) := HA0.out.1.keep (S3.1.2.1.block _ (by omega))
        have b3 : Below w.heap.size w w3 := HA0.out.2.trans (S3.1.2.1.mono (by omega))
        have d3 := S3.2.1.c2
        have hl3 := S3.2.1.lt
        have HNO : Hid (¬ (b = false ∧ PB = true ∧ PT = s) → Q (.returned (.tuple #[.agg #[.slice none 0 0, .slice none 0 0], .bool false])) (w3.setRow w.heap.size #[.slice none 0 0, .slice none 0 0])) := fun h => by
          have h0 := HEND.out.2 h
          rw [← HQ.out, h0, (rp_no h0).1, (rp_no h0).2]
          exact PvP.no (below_row b3 (Nat.le_refl _))
        have HYE : Hid (b = false ∧ PB = true ∧ PT = s → Q (.returned (.tuple #[.agg #[.slice au l.length cu, vS], .bool true])) (w3.setRow w.heap.size #[.slice au l.length cu, vS])) := fun h => by
          obtain ⟨y1, y2, y3⟩ := HEND.out.1 h
          rw [← HQ.out, y1, y2, y3]
          have hgx := grown_setRowP w3 w.heap.size #[.slice au l.length cu, vS]
          obtain ⟨gl, hrl, hgl, hql⟩ := S3.1.rw (by omega)
          obtain ⟨gs, hts, hgs⟩ := S3.2.2.2.ts (by have := HSl.out; omega)
          have hcap : ∃ aS cS, vS = .slice aS S.length cS ∧ S.length ≤ cS := by
            rcases S3.2.2.2.1.2 with ⟨hv, hn⟩ | ⟨g, cap, cur, hv, _, _, hca, _⟩
            · have h0 : S.length = 0 := hn
              exact ⟨none, 0, by rw [hv, h0], by omega⟩
            · exact ⟨_, cap, hv, hca⟩
          obtain ⟨aS, cS, rfl, hcS⟩ := hcap
          refine ⟨au, cu, aS, cS, gl, gs, rfl, hrl.grown hgx (fun _ => by simp; omega), hts.keptG hgx (fun _ => by simp; omega), by omega, by omega, ⟨fun h1 h2 he => ?_, hcS⟩, below_row b3 (Nat.le_refl _)⟩
          subst he
          have hS := S3.2.2.2
          rcases hS.1.2 with ⟨hv, hn⟩ | ⟨g, cap, cur, hv, _, hg, _⟩
          · have h0 : S.length = 0 := hn
            omega
          · have e1 : g = gl := by
              have hh := hts.ss
              obtain ⟨_, _, ev, _, hA, _⟩ := hh
              have := hA h2
              rw [this] at ev
              rw [hv] at ev
              simp only [Value.slice.injEq, Option.some.injEq, Addr.mk.injEq] at ev
              exact ev.1.1
            subst e1
            rcases S3.1.1.2 with ⟨hv2, hn2⟩ | ⟨g2, cap2, cur2, hv2, _, hg2, _⟩
            · have h0 : l.length = 0 := hn2
              omega
            · have e2 : g2 = g := hql g2 (by rw [hv2]; rfl)
              subst e2
              rw [hg] at hg2
              simp at hg2
        have HP3 : Hid (PfM w3 w1.heap.size (.slice au l.length cu) vS) := S3.2.2.1
        have hone : vS.oneCell' = true := by
          rcases S3.2.2.2.shape with ⟨hv, _⟩ | ⟨g, cap, hv, _⟩
          · rw [hv]; rfl
          · rw [hv]; rfl
        clear HEND HPX S3 HI hb3 HA0
        cases b with
        | true =>
          have hQ := HNO.out (fun h => by cases h.1)
          clear HNO HYE
          go_wp2_with (refine wp_storePf rfl _ _ rfl w.heap.size _ _ (.slice none 0 0) (.slice none 0 0) A3 rfl rfl rfl rfl ?_; intro hfin)
          refine ret_pf2 4 5 w.heap.size _ _ _ rfl rfl rfl rfl hfin ?_
          exact hQ
        | false =>
          cases PB with
          | false =>
            have hQ := HNO.out (fun h => by cases h.2.1)
            clear HNO HYE
            go_wp2_with (refine wp_storePf rfl _ _ rfl w.heap.size _ _ (.slice none 0 0) (.slice none 0 0) A3 rfl rfl rfl rfl ?_; intro hfin)
            refine ret_pf2 4 5 w.heap.size _ _ _ rfl rfl rfl rfl hfin ?_
            exact hQ
          | true =>
            by_cases ht : PT = s
            · have hQ := HYE.out ⟨rfl, rfl, ht⟩
              have qt : (PT.toList == s.toList) = true := by rw [ht]; simp
              clear HNO HYE ht
              go_wp2_with (first | (refine wp_loadPf rfl _ rfl w1.heap.size _ _ rfl HP3.out ?_) | (refine wp_storePf rfl _ _ rfl w.heap.size _ _ (.slice au l.length cu) vS A3 rfl rfl rfl hone ?_; intro hfin))
              refine ret_pf2 4 5 w.heap.size _ _ _ rfl rfl rfl rfl hfin ?_
              exact hQ
            · have hQ := HNO.out (fun h => ht h.2.2)
              have qt : (PT.toList == s.toList) = false := LV.bytes_ne ht
              clear HNO HYE ht
              go_wp2_with (refine wp_storePf rfl _ _ rfl w.heap.size _ _ (.slice none 0 0) (.slice none 0 0) A3 rfl rfl rfl rfl ?_; intro hfin)
              refine ret_pf2 4 5 w.heap.size _ _ _ rfl rfl rfl rfl hfin ?_
              exact hQ

end Go.Proofs.Ytfojmagcoipbnaa
