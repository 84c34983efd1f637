/-
  Texts laid together: Ll, Lz, Ru, Jo, Pj.
-/
import Derived.Test.YtfiapodjiifmaaaGreatDoorPkP6
import Derived.Deep.RegionHeld3
import Derived.Test.YtfiapodjiifmaaaGreatDoorPkP9
import Derived.Test.YtfiapodjiifmaaaGreatDoorPkP8
import Derived.Shelf.Strings.OnBuilder
import Derived.Test.YtfiapodjiifmaaaGreatDoorProg
import Derived.Test.YtfiapodjiifmaaaGreatDoorPkP7
import Derived.Lib.QuietBelow
/-
  The walk of the law FnExactLeavesOk: it answers true of every row of leaves.
-/
namespace Go.Proofs.YtfiapodjiifmaaaGreatDoor
open Go.RowKit Go.BigFrame Go.Sort
set_option linter.unusedVariables false
set_option linter.unusedSimpArgs false

/-- a row answered: it may be written, and lies in blocks from B on -/
def LvIn (w : World) (B : Nat) (v : Value) (l : List Le) : Prop := ∃ a c g, v = .slice a l.length c ∧ RW 2 lcs w v g l ∧ B ≤ g

/-- what a law knows of its row, in every world above -/
def LvA (w : World) (v : Value) (g o : Nat) (l : List Le) : Prop := RS 2 lcs w v g o l ∧ SmallL l

end Go.Proofs.YtfiapodjiifmaaaGreatDoor
/-
  Leaves read of a whole text by the specification, and the walk of the law FnExactReadLeaves: it answers true of every text.
-/
namespace Go.Proofs.YtfiapodjiifmaaaGreatDoor
open Go.RowKit Go.BigFrame Go.Sort
set_option linter.unusedVariables false
set_option linter.unusedSimpArgs false

theorem raw_text {s : ByteArray} {l : List Le} {q : Nat} (h : LV.rawL s 0 = some (l, q)) : q ≤ s.size ∧ (LV.lvL l = s.data.toList ↔ q = s.size) := by
  cases hr : M.readVar s.data.toList 0 with
  | none => rw [LV.rawL_none hr] at h; cases h
  | some y =>
    obtain ⟨n, q0⟩ := y
    obtain ⟨hq0, hN⟩ := read_bound s 0 n q0 hr
    by_cases hn : 24 < n
    · rw [LV.rawL_great hr hn] at h; cases h
    · rw [LV.rawL_at hr hn] at h
      obtain ⟨h1, h2, h3, h4⟩ := LV.leavesF_some hq0 h
      have hc := LV.read_canon (Nat.zero_le _) hr
      have hp := LV.read_past _ _ _ _ hr
      have hL : s.data.toList.length = s.size := Array.length_toList
      have e : LV.lvL l = LV.cutL s.data.toList 0 q := by
        unfold LV.lvL
        rw [h3, ← hc, ← h4, LV.cutL_join _ 0 q0 q (by omega) h1]
      refine ⟨h2, ?_⟩
      rw [e]
      constructor
      · intro he
        have h5 := LV.cutL_len s.data.toList 0 q (by omega) (by omega)
        rw [he] at h5
        omega
      · intro he
        rw [he]
        unfold LV.cutL
        simp only [List.drop_zero, Nat.sub_zero]
        exact List.take_of_length_le (by omega)
theorem text_is {s : ByteArray} {l : List Le} (h : LV.leavesB l = true) : lvT l = s ↔ LV.lvL l = s.data.toList := by
  rw [lvT_yes h]
  constructor
  · intro e; rw [← e]
  · intro e
    exact ByteArray.ext (by rw [e])

end Go.Proofs.YtfiapodjiifmaaaGreatDoor
/-
  A proof read of a text: the program's answer.
-/
namespace Go.Proofs.YtfiapodjiifmaaaGreatDoor
open Go.RowKit Go.BigFrame Go.Sort
set_option linter.unusedVariables false
set_option linter.unusedSimpArgs false

theorem leaves_done {fn : Func} {tmps : Array Value} {R : Ending → World → Prop} {w : World} (g k : Nat) (v1 v2 : Value) (b : Bool) (hres : fn.results = #[.cell 4 29, .cell 5 4]) (hp : tmps.getD 4 undef = .pointer (some ⟨g, 0, none⟩)) (hk : tmps.getD 5 undef = .pointer (some ⟨k, 0, none⟩)) (hA : PfM w g v1 v2) (hB : w.cell? ⟨k, 0, none⟩ = some (.bool b))
    (h : R (.returned (.tuple #[.agg #[v1, v2], .bool b])) w) : Leaves Tryz.prog fn tmps R [] .returning w := by
  have hr := load_pf hA
  refine ⟨.tuple #[.agg #[v1, v2], .bool b], ?_, h⟩
  have hp' : tmps[4]?.getD undef = .pointer (some ⟨g, 0, none⟩) := by simpa using hp
  have hk' : tmps[5]?.getD undef = .pointer (some ⟨k, 0, none⟩) := by simpa using hk
  have hb : (loadVar 4 ⟨k, 0, none⟩).run Tryz.prog w = .ok (.bool b) w := by simp [go_sem, hB]
  simp [results, hres, asAddr, hr, hp', hk', hb]

set_option maxRecDepth 100000 in
theorem catch_idle (g k : Nat) (w : World) :
    CallsD Tryz.prog 31 #[.pointer (some ⟨g, 0, none⟩), .pointer (some ⟨k, 0, none⟩)] .returning w fun e u' w' => e = .returned (.tuple #[]) ∧ u' = .returning ∧ w' = w := by
  refine callsD_of_wpS Tryz.func31 rfl fun c₀ cs hu => ?_
  apply wpS_seq
  apply wpS_region
  simp [wpOpsS, go_sem, recoverD, hu, Tryz.ntmps31, Exit.thenS]
  refine wpS_cond (t := false) (by simp [Act.eval, Array.replicate]) ?_
  simp only [Bool.false_eq_true, if_false]
  refine wpS_of_wp (wp_skip ?_)
  cases c₀
  simp_all [bodyPostS, results, Tryz.results31]

set_option maxRecDepth 100000 in
theorem catch_panicking (g k : Nat) (v1 v2 : Value) (b : Bool) (pv : Value) (u : TypeId) (w : World) (hA : PfM w g v1 v2) (hB : w.heap[k]? = some (.cells #[.bool b] 4 (0, 0))) (hne : g ≠ k) :
    CallsD Tryz.prog 31 #[.pointer (some ⟨g, 0, none⟩), .pointer (some ⟨k, 0, none⟩)] (.panicking [{ v := .iface u pv, recovered := false }]) w fun e u' w' => e = .returned (.tuple #[]) ∧ u' = .panicking [{ v := .iface u pv, recovered := true }] ∧ w' = (w.setRow g #[.slice none 0 0, .slice none 0 0]).setCell ⟨k, 0, none⟩ (.bool false) := by
  refine callsD_of_wpS Tryz.func31 rfl fun c₀ cs hu => ?_
  apply wpS_seq
  apply wpS_region
  simp [wpOpsS, go_sem, recoverD, hu, Tryz.ntmps31, Exit.thenS]
  refine wpS_cond (t := true) (by simp [Act.eval, Array.replicate]) ?_
  simp only [if_true]
  refine wpS_of_wp ?_
  have e : (#[Value.pointer (some { block := g, off := 0 }), Value.pointer (some { block := k, off := 0 })] ++ ((Array.replicate 3 undef).setIfInBounds 0 (Value.iface u pv)).setIfInBounds 1 (Value.bool true)) = #[Value.pointer (some { block := g, off := 0 }), Value.pointer (some { block := k, off := 0 }), Value.iface u pv, Value.bool true, undef] := rfl
  rw [e]
  have hB2 : (w.setRow g #[.slice none 0 0, .slice none 0 0]).heap[k]? = some (.cells #[.bool b] 4 (0, 0)) := (setRow_other w g k _ (Ne.symm hne)).trans hB
  have c0 : (w.setRow g #[.slice none 0 0, .slice none 0 0]).cell? ⟨k, 0, none⟩ = some (.bool b) := by rw [cell_of_row _ k 0 _ _ _ hB2]; rfl
  have f0 : (w.setRow g #[.slice none 0 0, .slice none 0 0]).frozen? ⟨k, 0, none⟩ = false := by simp [World.frozen?, hB2]
  go_wp2_with (refine wp_storePf rfl _ _ rfl g _ _ (.slice none 0 0) (.slice none 0 0) hA rfl rfl rfl rfl ?_; intro hfin)
  exact ⟨rfl, _, rfl, .tuple #[], by simp [results, Tryz.results31], rfl, rfl, rfl⟩

set_option maxRecDepth 100000 in
set_option maxHeartbeats 1000000 in
theorem ReadProof_wide (s : ByteArray) (x : Int) (w : World) (hx : ¬ (1 ≤ x ∧ x ≤ 32)) :
    Calls Tryz.prog 11 #[.string s, .int .i64 x] w fun e w' => e = .returned (.tuple #[.agg #[.slice none 0 0, .slice none 0 0], .bool false]) ∧ Below w.heap.size w w' := by
  have q1 : decide (1 ≤ x ∧ x ≤ 32) = false := decide_eq_false hx
  have hmf : ∀ (fn : Fn) (first cap : Array Value) (w : World), (Instr.makeFunc fn first cap).run Tryz.prog w = .ok (.func fn first cap) w := fun _ _ _ _ => rfl
  go_enter_defers Tryz.func11, Tryz.ntmps11
  go_wp2_with fail
  refine (widthOk_any _ _).mono ?_
  rintro e w1 ⟨rfl, hw1⟩
  subst hw1
  rw [q1]
  go_wp2
  have hba : Below w.heap.size w ((w.alloc (.cells #[.slice none 0 0, .slice none 0 0] 29)).alloc (.cells #[.bool false] 4)) := ((Below.refl _ _).alloc (Nat.le_refl _) _).alloc (by simp) _
  have hA := PfM.later (PfM.new w (.slice none 0 0) (.slice none 0 0)) ((Below.refl _ _).alloc (Nat.le_refl _) (.cells #[.bool false] 4))
  have hB : ((w.alloc (.cells #[.slice none 0 0, .slice none 0 0] 29)).alloc (.cells #[.bool false] 4)).cell? ⟨w.heap.size + 1, 0, none⟩ = some (.bool false) := by simp
  unfold bodyPostD
  dsimp only
  refine leaves_done w.heap.size (w.heap.size + 1) _ _ false (by rfl) (by rfl) (by rfl) hA hB ?_
  exact ⟨rfl, hba⟩

set_option maxRecDepth 100000 in
theorem door_panic {fn : Func} {tmps : Array Value} {R : Ending → World → Prop} {W : World} (g k : Nat) (v1 v2 : Value) (b : Bool) (hres : fn.results = #[.cell 4 29, .cell 5 4]) (hp : tmps.getD 4 undef = .pointer (some ⟨g, 0, none⟩)) (hk : tmps.getD 5 undef = .pointer (some ⟨k, 0, none⟩)) (hA : PfM W g v1 v2) (hB : W.heap[k]? = some (.cells #[.bool b] 4 (0, 0))) (hne : g ≠ k)
    (h : R (.returned (.tuple #[.agg #[.slice none 0 0, .slice none 0 0], .bool false])) ((W.setRow g #[.slice none 0 0, .slice none 0 0]).setCell ⟨k, 0, none⟩ (.bool false))) : Leaves Tryz.prog fn tmps R [{ target := .fn (.func 31) #[.pointer (some ⟨g, 0, none⟩), .pointer (some ⟨k, 0, none⟩)], args := #[] }] (.panicking [unR]) W := by
  refine leaves_cons (f := 31) (args := #[.pointer (some ⟨g, 0, none⟩), .pointer (some ⟨k, 0, none⟩)]) (by simp) (by simp [go_sem]) ?_
  refine (catch_panicking g k v1 v2 b _ _ W hA hB hne).mono ?_
  rintro e u' w'' ⟨rfl, rfl, rfl⟩
  have hB2 : (W.setRow g #[.slice none 0 0, .slice none 0 0]).heap[k]? = some (.cells #[.bool b] 4 (0, 0)) := (setRow_other W g k _ (Ne.symm hne)).trans hB
  have hA2 : PfM (W.setRow g #[.slice none 0 0, .slice none 0 0]) g (.slice none 0 0) (.slice none 0 0) := setRow_heap W g _ _ _ _ hA
  have hB3 := heap_setCell_same (W.setRow g #[.slice none 0 0, .slice none 0 0]) k 0 _ _ (.bool false) hB2
  show Leaves _ _ _ _ [] .returning _
  refine leaves_done g k _ _ false hres hp hk (hA2.keep ((grown_setC _ k 0 _).block g hA2.lt (by simp; exact hne))) ?_ h
  rw [cell_of_row _ k 0 _ _ _ hB3]
  rfl

set_option maxRecDepth 100000 in
theorem door_ret {fn : Func} {tmps : Array Value} {R : Ending → World → Prop} {W : World} (g k : Nat) (v1 v2 : Value) (b : Bool) (hres : fn.results = #[.cell 4 29, .cell 5 4]) (hp : tmps.getD 4 undef = .pointer (some ⟨g, 0, none⟩)) (hk : tmps.getD 5 undef = .pointer (some ⟨k, 0, none⟩)) (hA : PfM W g v1 v2) (hB : W.cell? ⟨k, 0, none⟩ = some (.bool b))
    (h : R (.returned (.tuple #[.agg #[v1, v2], .bool b])) W) : Leaves Tryz.prog fn tmps R [{ target := .fn (.func 31) #[.pointer (some ⟨g, 0, none⟩), .pointer (some ⟨k, 0, none⟩)], args := #[] }] .returning W := by
  refine leaves_cons (f := 31) (args := #[.pointer (some ⟨g, 0, none⟩), .pointer (some ⟨k, 0, none⟩)]) (by simp) (by simp [go_sem]) ?_
  refine (catch_idle g k W).mono ?_
  rintro e u' w'' ⟨rfl, rfl, rfl⟩
  show Leaves _ _ _ _ [] .returning _
  exact leaves_done g k _ _ b hres hp hk hA hB h

/-- what stands when the reader begins: the proof, the word, the reader -/
theorem boxes3 (w : World) (s : ByteArray) : ∀ W, W = ((w.alloc (.cells #[.slice none 0 0, .slice none 0 0] 29)).alloc (.cells #[.bool false] 4)).alloc (.cells #[.string s, .int .i64 0] 58) → PfM W w.heap.size (.slice none 0 0) (.slice none 0 0) ∧ W.heap[w.heap.size + 1]? = some (.cells #[.bool false] 4 (0, 0)) ∧ Rd W (w.heap.size + 1 + 1) s 0 ∧ Below w.heap.size w W ∧ W.heap.size = w.heap.size + 3 := fun W hW => by
  subst hW
  have n0 := PfM.new w (.slice none 0 0) (.slice none 0 0)
  have b0 : Below w.heap.size w (w.alloc (.cells #[.slice none 0 0, .slice none 0 0] 29)) := (Below.refl _ _).alloc (Nat.le_refl _) _
  have z0 : (w.alloc (.cells #[.slice none 0 0, .slice none 0 0] 29)).heap.size = w.heap.size + 1 := by simp
  generalize w.alloc (.cells #[.slice none 0 0, .slice none 0 0] 29) = W1 at *
  have n1 : (W1.alloc (.cells #[.bool false] 4)).heap[W1.heap.size]? = some (.cells #[.bool false] 4 (0, 0)) := Go.heap_alloc_new W1 _
  have b1 : Below W1.heap.size W1 (W1.alloc (.cells #[.bool false] 4)) := (Below.refl _ _).alloc (Nat.le_refl _) _
  have z1 : (W1.alloc (.cells #[.bool false] 4)).heap.size = w.heap.size + 1 + 1 := by simp [z0]
  rw [z0] at n1
  generalize W1.alloc (.cells #[.bool false] 4) = W2 at *
  have n2 : Rd (W2.alloc (.cells #[.string s, .int .i64 0] 58)) W2.heap.size s 0 := Go.heap_alloc_new W2 _
  have b2 : Below W2.heap.size W2 (W2.alloc (.cells #[.string s, .int .i64 0] 58)) := (Below.refl _ _).alloc (Nat.le_refl _) _
  rw [z1] at n2
  refine ⟨(n0.later b1).later b2, (b2.block _ (by omega)).trans n1, n2, (b0.trans (b1.mono b0.size)).trans (b2.mono (by omega)), by simp [z1]⟩

/-- what a text tells as a proof -/
noncomputable def rpOk (s : ByteArray) (x : Int) : Bool :=
  match LV.rawL s 0 with
  | none => false
  | some (l, q) => match M.readVar s.data.toList q with
    | none => false
    | some (n, p) => decide (1 ≤ x ∧ x ≤ 32) && LV.leavesB l && decide (n ≤ 8) && decide (p + n * x.toNat = s.size)
noncomputable def rpL (s : ByteArray) (x : Int) : List Le :=
  match LV.rawL s 0 with
  | none => []
  | some (l, q) => if rpOk s x then l else []
noncomputable def rpS (s : ByteArray) (x : Int) : List ByteArray :=
  match LV.rawL s 0 with
  | none => []
  | some (l, q) => match M.readVar s.data.toList q with
    | none => []
    | some (n, p) => if rpOk s x then sdp s x.toNat p n else []
theorem rp_no {s : ByteArray} {x : Int} (h : rpOk s x = false) : rpL s x = [] ∧ rpS s x = [] := by
  unfold rpL rpS
  rw [h]
  constructor
  · split <;> simp
  · split
    · rfl
    · split <;> simp

set_option maxRecDepth 100000 in
set_option maxHeartbeats 2000000 in
theorem ReadProof_any (s : ByteArray) (x : Int) (w : World) (hs : s.size ≤ 1048576) :
    Calls Tryz.prog 11 #[.string s, .int .i64 x] w (PvP (rpL s x) (rpS s x) (rpOk s x) w) := by
  by_cases hx0 : ¬ (1 ≤ x ∧ x ≤ 32)
  · have hx := hx0
    have h0 : rpOk s x = false := by
      unfold rpOk
      split
      · rfl
      · split
        · rfl
        · rw [decide_eq_false hx]; rfl
    rw [h0, (rp_no h0).1, (rp_no h0).2]
    refine (ReadProof_wide s x w hx).mono fun e w' ⟨he, hb⟩ => ?_
    rw [he]
    exact PvP.no hb
  have hx : 1 ≤ x ∧ x ≤ 32 := Classical.not_not.1 hx0
  clear hx0
  obtain ⟨y, rfl⟩ : ∃ y : Nat, x = (y : Int) := ⟨x.toNat, by omega⟩
  have hy : 1 ≤ y ∧ y ≤ 32 := by omega
  have q1 : decide (1 ≤ (y : Int) ∧ (y : Int) ≤ 32) = true := decide_eq_true hx
  have hmf : ∀ (fn : Fn) (first cap : Array Value) (w : World), (Instr.makeFunc fn first cap).run Tryz.prog w = .ok (.func fn first cap) w := fun _ _ _ _ => rfl
  obtain ⟨A0, B0, R0, b0, z0⟩ := boxes3 w s _ rfl
  obtain ⟨Q, hQ⟩ : ∃ Q, PvP (rpL s (y : Int)) (rpS s (y : Int)) (rpOk s (y : Int)) w = Q := ⟨_, rfl⟩
  have HQ : Hid (PvP (rpL s (y : Int)) (rpS s (y : Int)) (rpOk s (y : Int)) w = Q) := hQ
  rw [hQ]
  clear hQ hx
  go_enter_defers Tryz.func11, Tryz.ntmps11
  go_wp2_with fail
  refine (widthOk_any _ _).mono ?_
  rintro e w1 ⟨rfl, hw1⟩
  subst hw1
  rw [q1]
  obtain ⟨W0, hW0⟩ : ∃ W0, ((w.alloc (.cells #[.slice none 0 0, .slice none 0 0] 29)).alloc (.cells #[.bool false] 4)).alloc (.cells #[.string s, .int .i64 0] 58) = W0 := ⟨_, rfl⟩
  rw [hW0] at A0 B0 R0 b0 z0
  have HW0 : Hid (((w.alloc (.cells #[.slice none 0 0, .slice none 0 0] 29)).alloc (.cells #[.bool false] 4)).alloc (.cells #[.string s, .int .i64 0] 58) = W0) := hW0
  clear hW0
  have HNO : Hid (∀ W, rpOk s (y : Int) = false → Below w.heap.size w W → Q (.returned (.tuple #[.agg #[.slice none 0 0, .slice none 0 0], .bool false])) ((W.setRow w.heap.size #[.slice none 0 0, .slice none 0 0]).setCell ⟨w.heap.size + 1, 0, none⟩ (.bool false))) := fun W h0 hb => by
    rw [← HQ.out, h0, (rp_no h0).1, (rp_no h0).2]
    exact PvP.no ((below_row hb (Nat.le_refl _)).setCell (p := ⟨w.heap.size + 1, 0, none⟩) (by simp) _)
  by_cases hraw : LV.rawL s 0 = none ∨ ∃ l q, LV.rawL s 0 = some (l, q) ∧ LV.leavesB l = false
  · have h0 : rpOk s (y : Int) = false := by
      unfold rpOk
      rcases hraw with h | ⟨l, q, h, h2⟩
      · rw [h]
      · rw [h]
        dsimp only
        split
        · rfl
        · rw [h2]; simp
    have hlv := readerLeaves_no (w.heap.size + 1 + 1) 0 s W0 R0 hs (Nat.zero_le _) hraw
    rw [← HW0.out] at hlv
    clear HQ hraw
    go_wp2_with fail
    refine hlv.mono ?_
    rintro e w2 ⟨rfl, hb2⟩
    rw [HW0.out] at hb2
    have hA := A0.later hb2
    have hB : w2.heap[w.heap.size + 1]? = some (.cells #[.bool false] 4 (0, 0)) := (hb2.block _ (by omega)).trans B0
    have b2 := b0.trans (hb2.mono b0.size)
    clear hlv hb2 A0 B0 R0
    go_wp2
    unfold bodyPostD
    dsimp only
    refine door_panic w.heap.size (w.heap.size + 1) _ _ false (by rfl) (by rfl) (by rfl) hA hB (by omega) ?_
    exact HNO.out _ h0 b2
  have hex : ∃ l q, LV.rawL s 0 = some (l, q) ∧ LV.leavesB l = true := by
    cases h : LV.rawL s 0 with
    | none => exact absurd (.inl h) hraw
    | some z =>
      obtain ⟨l, q⟩ := z
      refine ⟨l, q, rfl, ?_⟩
      cases h2 : LV.leavesB l with
      | true => rfl
      | false => exact absurd (.inr ⟨l, q, h, h2⟩) hraw
  obtain ⟨l, q, hr, hl⟩ := hex
  clear hraw
  have hqs := (raw_text hr).1
  have HRP : Hid (∀ n p, M.readVar s.data.toList q = some (n, p) → rpOk s (y : Int) = (decide (n ≤ 8) && decide (p + n * y = s.size)) ∧ (rpOk s (y : Int) = true → rpL s (y : Int) = l ∧ rpS s (y : Int) = sdp s y p n)) := fun n p h => by
    have e1 : rpOk s (y : Int) = (decide (n ≤ 8) && decide (p + n * y = s.size)) := by
      unfold rpOk
      rw [hr]
      dsimp only
      rw [h]
      dsimp only
      rw [q1, hl, Int.toNat_natCast, Bool.true_and, Bool.true_and]
    refine ⟨e1, fun h2 => ?_⟩
    unfold rpL rpS
    rw [hr]
    dsimp only
    rw [h]
    dsimp only
    rw [h2, Int.toNat_natCast]
    exact ⟨rfl, rfl⟩
  have HRN : Hid (M.readVar s.data.toList q = none → rpOk s (y : Int) = false) := fun h => by
    unfold rpOk
    rw [hr]
    dsimp only
    rw [h]
  have hlv := readerLeaves_yes (w.heap.size + 1 + 1) 0 s l q W0 R0 hs (Nat.zero_le _) hr hl
  rw [← HW0.out] at hlv
  go_wp2_with fail
  refine hlv.mono ?_
  rintro e w2 ⟨gl, rfl, hrw2, hgl, hrd2, hg2⟩
  rw [HW0.out] at hg2 hgl
  have A2 : PfM w2 w.heap.size (.slice none 0 0) (.slice none 0 0) := A0.keep (hg2.block _ A0.lt (by simp; omega))
  have B2 : w2.heap[w.heap.size + 1]? = some (.cells #[.bool false] 4 (0, 0)) := (hg2.block _ (by omega) (by simp)).trans B0
  have b2 : Below w.heap.size w w2 := b0.grown hg2 b0.size (fun k hk => by simp at hk; omega)
  have s2 := hg2.size
  have c20 := A2.c0
  have f20 := A2.fr 0
  have hgr3 := grown_setC w2 w.heap.size 0 (.slice (some ⟨gl, 0, none⟩) l.length l.length)
  have A3 := A2.set0 (.slice (some ⟨gl, 0, none⟩) l.length l.length)
  have B3 := (hgr3.block (w.heap.size + 1) (by omega) (by simp)).trans B2
  have R3 := hrd2.grown hgr3 (by simp; omega)
  have b3 := b2.setCell (p := ⟨w.heap.size, 0, none⟩) (Nat.le_refl _) (.slice (some ⟨gl, 0, none⟩) l.length l.length)
  have w3 := hrw2.grown hgr3 (fun _ => by simp; omega)
  have z3 : (w2.setCell ⟨w.heap.size, 0, none⟩ (.slice (some ⟨gl, 0, none⟩) l.length l.length)).heap.size = w2.heap.size := by simp
  clear hlv A2 B2 b2 hrd2 hrw2 hg2 A0 B0 R0 b0 hgr3 hr hl
  go_wp2_with fail
  generalize w2.setCell ⟨w.heap.size, 0, none⟩ (.slice (some ⟨gl, 0, none⟩) l.length l.length) = W3 at *
  by_cases hvar : M.readVar s.data.toList q = none ∨ ∃ n p, M.readVar s.data.toList q = some (n, p) ∧ 8 < n
  · have h0 : rpOk s (y : Int) = false := by
      rcases hvar with h | ⟨n, p, h, h8⟩
      · exact HRN.out h
      · rw [(HRP.out n p h).1, decide_eq_false (by omega)]
        rfl
    refine (readerHashes_no (w.heap.size + 1 + 1) q s 8 y W3 R3 hs hqs (by omega) hvar).mono ?_
    rintro e w4 ⟨rfl, hg4⟩
    have hA := A3.keep (hg4.block _ A3.lt (by simp; omega))
    have hB : w4.heap[w.heap.size + 1]? = some (.cells #[.bool false] 4 (0, 0)) := (hg4.block _ (by omega) (by simp)).trans B3
    have b4 : Below w.heap.size w w4 := b3.grown hg4 b3.size (fun k hk => by simp at hk; omega)
    clear hvar hg4 A3 B3 R3 HRN HRP HQ
    go_wp2
    unfold bodyPostD
    dsimp only
    refine door_panic w.heap.size (w.heap.size + 1) _ _ false (by rfl) (by rfl) (by rfl) hA hB (by omega) ?_
    exact HNO.out _ h0 b4
  have hex : ∃ n p, M.readVar s.data.toList q = some (n, p) ∧ n ≤ 8 := by
    cases h : M.readVar s.data.toList q with
    | none => exact absurd (.inl h) hvar
    | some z =>
      obtain ⟨n, p⟩ := z
      exact ⟨n, p, rfl, Nat.le_of_not_lt fun h2 => hvar (.inr ⟨n, p, h, h2⟩)⟩
  obtain ⟨n, p, hv, hn8⟩ := hex
  obtain ⟨hrp1, hrp2⟩ := HRP.out n p hv
  rw [decide_eq_true hn8, Bool.true_and] at hrp1
  refine (readerHashes_yes (w.heap.size + 1 + 1) q s 8 y n p W3 R3 hs hqs (by omega) hv hn8 (by omega)).mono ?_
  clear hvar HRN HRP hv
  by_cases hfit : p + n * y ≤ s.size
  · rintro e w4 ⟨hif, hg4⟩
    rw [if_pos hfit] at hif
    obtain ⟨g4, rfl, t4, hg4', r4⟩ := hif
    have A4 := A3.keep (hg4.block _ A3.lt (by simp; omega))
    have B4 : w4.heap[w.heap.size + 1]? = some (.cells #[.bool false] 4 (0, 0)) := (hg4.block _ (by omega) (by simp)).trans B3
    have b4 : Below w.heap.size w w4 := b3.grown hg4 b3.size (fun k hk => by simp at hk; omega)
    have s4 := hg4.size
    have c21 := A4.c1
    have f21 := A4.fr 1
    have hgr5 := grown_setC w4 w.heap.size 1 (.slice (some ⟨g4, 0, none⟩) n n)
    have A5 := A4.set1 (.slice (some ⟨g4, 0, none⟩) n n)
    have B5 := (hgr5.block (w.heap.size + 1) (by omega) (by simp)).trans B4
    have R5 := r4.grown hgr5 (by simp; omega)
    have b5 := b4.setCell (p := ⟨w.heap.size, 1, none⟩) (Nat.le_refl _) (.slice (some ⟨g4, 0, none⟩) n n)
    have w5 := (w3.grown hg4 (fun _ => by simp; omega)).grown hgr5 (fun _ => by simp; omega)
    have t5 := (t4.ts n n (sdp_len _ _ _ _) (by omega)).keptG hgr5 (fun _ => by simp; omega)
    have hglt : 0 < l.length → gl < W3.heap.size := w3.lt
    have z5 : (w4.setCell ⟨w.heap.size, 1, none⟩ (.slice (some ⟨g4, 0, none⟩) n n)).heap.size = w4.heap.size := by simp
    clear A4 B4 b4 r4 t4 hg4 hgr5 A3 B3 R3 b3 w3 c20 f20
    go_wp2_with fail
    generalize w4.setCell ⟨w.heap.size, 1, none⟩ (.slice (some ⟨g4, 0, none⟩) n n) = W5 at *
    by_cases hend : p + n * y = s.size
    · rw [hend] at R5
      refine (readerEnd_yes (w.heap.size + 1 + 1) s W5 R5).mono ?_
      rintro e w6 ⟨rfl, hb6⟩
      have A6 := A5.later hb6
      have B6 : w6.heap[w.heap.size + 1]? = some (.cells #[.bool false] 4 (0, 0)) := (hb6.block _ (by omega)).trans B5
      have b6 := b5.trans (hb6.mono b5.size)
      have w6' := w5.later hb6
      have t6 := t5.later hb6
      have hX : PfM (w6.setRow w.heap.size #[.slice (some ⟨gl, 0, none⟩) l.length l.length, .slice (some ⟨g4, 0, none⟩) n n]) w.heap.size (.slice (some ⟨gl, 0, none⟩) l.length l.length) (.slice (some ⟨g4, 0, none⟩) n n) := setRow_heap w6 _ _ _ _ _ A6
      have hgx := grown_setRowP w6 w.heap.size #[.slice (some ⟨gl, 0, none⟩) l.length l.length, .slice (some ⟨g4, 0, none⟩) n n]
      have B7 : (w6.setRow w.heap.size #[.slice (some ⟨gl, 0, none⟩) l.length l.length, .slice (some ⟨g4, 0, none⟩) n n]).heap[w.heap.size + 1]? = some (.cells #[.bool false] 4 (0, 0)) := (setRow_other w6 _ _ _ (by omega)).trans B6
      have b7 := below_row (g := w.heap.size) (R := #[.slice (some ⟨gl, 0, none⟩) l.length l.length, .slice (some ⟨g4, 0, none⟩) n n]) b6 (Nat.le_refl _)
      have w7 := w6'.grown hgx (fun _ => by simp; omega)
      have t7 := t6.keptG hgx (fun _ => by simp; omega)
      have d60 : (w6.setRow w.heap.size #[.slice (some ⟨gl, 0, none⟩) l.length l.length, .slice (some ⟨g4, 0, none⟩) n n]).cell? ⟨w.heap.size + 1, 0, none⟩ = some (.bool false) := by rw [cell_of_row _ _ 0 _ _ _ B7]; rfl
      have f60 : (w6.setRow w.heap.size #[.slice (some ⟨gl, 0, none⟩) l.length l.length, .slice (some ⟨g4, 0, none⟩) n n]).frozen? ⟨w.heap.size + 1, 0, none⟩ = false := by simp [World.frozen?, B7]
      have HY : Hid (rpOk s (y : Int) = true ∧ rpL s (y : Int) = l ∧ rpS s (y : Int) = sdp s y p n) := by
        have h1 : rpOk s (y : Int) = true := by rw [hrp1, decide_eq_true hend]
        exact ⟨h1, hrp2 h1⟩
      clear A5 B5 R5 b5 w5 t5 hb6 c21 f21 hrp1 hrp2
      go_wp2_with (first | (refine wp_loadPf rfl _ rfl w.heap.size _ _ rfl A6 ?_) | (refine wp_storePf rfl _ _ rfl w.heap.size _ _ _ _ A6 rfl rfl rfl rfl ?_; intro hfin))
      generalize w6.setRow w.heap.size #[.slice (some ⟨gl, 0, none⟩) l.length l.length, .slice (some ⟨g4, 0, none⟩) n n] = W7 at *
      have hgy := grown_setC W7 (w.heap.size + 1) 0 (.bool true)
      have hBF := heap_setCell_same W7 (w.heap.size + 1) 0 _ _ (.bool true) B7
      have hlx := w7.lt
      unfold bodyPostD
      dsimp only
      refine door_ret w.heap.size (w.heap.size + 1) _ _ true (by rfl) (by rfl) (by rfl) (hX.keep (hgy.block _ hX.lt (by simp))) (by rw [cell_of_row _ _ 0 _ _ _ hBF]; rfl) ?_
      rw [← HQ.out, HY.out.1, HY.out.2.1, HY.out.2.2]
      refine ⟨_, l.length, _, n, gl, g4, by rw [sdp_len], w7.grown hgy (fun _ => by simp; omega), by rw [sdp_len]; exact t7.keptG hgy (fun _ => by simp; omega), by omega, by omega, ⟨fun h1 _ => by have := hglt h1; omega, by rw [sdp_len]; exact Nat.le_refl _⟩, b7.setCell (p := ⟨w.heap.size + 1, 0, none⟩) (by simp) _⟩
    · have h0 : rpOk s (y : Int) = false := by rw [hrp1, decide_eq_false hend]
      refine (readerEnd_no (w.heap.size + 1 + 1) _ s W5 R5 hend).mono ?_
      rintro e w6 ⟨rfl, hb6⟩
      have hA := A5.later hb6
      have hB : w6.heap[w.heap.size + 1]? = some (.cells #[.bool false] 4 (0, 0)) := (hb6.block _ (by omega)).trans B5
      have b6 := b5.trans (hb6.mono b5.size)
      clear A5 B5 R5 b5 w5 t5 hb6 c21 f21 HQ
      go_wp2
      unfold bodyPostD
      dsimp only
      refine door_panic w.heap.size (w.heap.size + 1) _ _ false (by rfl) (by rfl) (by rfl) hA hB (by omega) ?_
      exact HNO.out _ h0 b6
  · rintro e w4 ⟨hif, hg4⟩
    rw [if_neg hfit] at hif
    subst hif
    have h0 : rpOk s (y : Int) = false := by rw [hrp1, decide_eq_false (by omega)]
    have hA := A3.keep (hg4.block _ A3.lt (by simp; omega))
    have hB : w4.heap[w.heap.size + 1]? = some (.cells #[.bool false] 4 (0, 0)) := (hg4.block _ (by omega) (by simp)).trans B3
    have b4 : Below w.heap.size w w4 := b3.grown hg4 b3.size (fun k hk => by simp at hk; omega)
    clear hg4 A3 B3 R3 HQ
    go_wp2
    unfold bodyPostD
    dsimp only
    refine door_panic w.heap.size (w.heap.size + 1) _ _ false (by rfl) (by rfl) (by rfl) hA hB (by omega) ?_
    exact HNO.out _ h0 b4

end Go.Proofs.YtfiapodjiifmaaaGreatDoor
/-
  The library's own contract on strings.Join, laid at this program: a table of numbers and two theorems.
-/
namespace Go.Proofs
open Go.Shelf
def Tryz.lays156_ren : Go.Shelf.Ren := ⟨fun | 156 => 60 | 165 => 82 | 166 => 83 | 169 => 84 | 240 => 99 | 241 => 100 | 276 => 108 | 277 => 109 | n => n, fun | 31 => 27 | 9 => 9 | 3 => 3 | 4 => 4 | 0 => 0 | 20 => 20 | 72 => 123 | 76 => 127 | 70 => 121 | 37 => 22 | 75 => 126 | 127 => 147 | 164 => 152 | 5 => 5 | 80 => 109 | n => n, fun | n => n⟩
theorem Tryz.lays156 : Go.Proofs.Lays.n156 Tryz.prog Tryz.lays156_ren := {
  mixed := by kernel_rfl
  f156 := Tryz.func60.trans (congrArg some (by kernel_rfl))
  f165 := Tryz.func82.trans (congrArg some (by kernel_rfl))
  f166 := Tryz.func83.trans (congrArg some (by kernel_rfl))
  f169 := Tryz.func84.trans (congrArg some (by kernel_rfl))
  f240 := Tryz.func99.trans (congrArg some (by kernel_rfl))
  f241 := Tryz.func100.trans (congrArg some (by kernel_rfl))
  f276 := Tryz.func108.trans (congrArg some (by kernel_rfl))
  f277 := Tryz.func109.trans (congrArg some (by kernel_rfl))
  t0 := Tryz.underlying0
  a0 := Tryz.isAgg0
  z0 := Tryz.sizeOf0
  v0 := Tryz.zeroValue0
  t3 := Tryz.underlying3
  a3 := Tryz.isAgg3
  z3 := Tryz.sizeOf3
  v3 := Tryz.zeroValue3
  t4 := Tryz.underlying4
  a4 := Tryz.isAgg4
  z4 := Tryz.sizeOf4
  v4 := Tryz.zeroValue4
  t9 := Tryz.underlying9
  a9 := Tryz.isAgg9
  z9 := Tryz.sizeOf9
  v9 := Tryz.zeroValue9
  t20 := Tryz.underlying20
  a20 := Tryz.isAgg20
  z20 := Tryz.sizeOf20
  v20 := Tryz.zeroValue20
  t31 := Tryz.underlying27
  a31 := Tryz.isAgg27
  z31 := Tryz.sizeOf27
  v31 := Tryz.zeroValue27
  t37 := Tryz.underlying22
  a37 := Tryz.isAgg22
  z37 := Tryz.sizeOf22
  v37 := Tryz.zeroValue22
  t70 := Tryz.underlying121
  a70 := Tryz.isAgg121
  z70 := Tryz.sizeOf121
  v70 := Tryz.zeroValue121
  t72 := Tryz.underlying123
  a72 := Tryz.isAgg123
  z72 := Tryz.sizeOf123
  v72 := Tryz.zeroValue123
  t75 := Tryz.underlying126
  a75 := Tryz.isAgg126
  z75 := Tryz.sizeOf126
  v75 := Tryz.zeroValue126
  t76 := Tryz.underlying127
  a76 := Tryz.isAgg127
  z76 := Tryz.sizeOf127
  v76 := Tryz.zeroValue127
  t127 := Tryz.underlying147
  a127 := Tryz.isAgg147
  z127 := Tryz.sizeOf147
  v127 := Tryz.zeroValue147
  t164 := Tryz.underlying152
  a164 := Tryz.isAgg152
  z164 := Tryz.sizeOf152
  v164 := Tryz.zeroValue152 }
theorem Tryz.Builder_Extra_156 : Builder.Extra Tryz.prog Tryz.lays156_ren := {
  sizeBuilder := by kernel_rfl
  liesBuilder := by kernel_rfl
  t5 := Tryz.underlying5
  a5 := Tryz.isAgg5
  z5 := Tryz.sizeOf5
  v5 := Tryz.zeroValue5
  infoByte := by kernel_rfl
  cellsByte := by kernel_rfl
  sizeByte := by kernel_rfl
  neB5 := by decide }
open Go.RowKit in
theorem Tryz.strings_Join_none (a : Option Addr) (c : Nat) (sep : ByteArray) (w : World) :
    Calls Tryz.prog 60 #[.slice a 0 c, .string sep] w fun e w' => e = .returned (.string ⟨#[]⟩) ∧ w' = w := Any.strings_Join_none Tryz.lays156 Tryz.Builder_Extra_156 a c sep w
open Go.RowKit in
theorem Tryz.strings_Join (bk o c : Nat) (xs : List ByteArray) (sep : ByteArray) (w : World) (hcells : ∀ (j : Nat) x, xs[j]? = some x → w.cell? ⟨bk, o + j, none⟩ = some (.string x)) (hbk : bk < w.heap.size) (hN : xs.length ≤ 140737488355328) (hcap : xs.length ≤ c) (hlen : (Lib.join (xs.map (·.data.toList)) sep.data.toList).length ≤ 140737488355328) :
    Calls Tryz.prog 60 #[.slice (some ⟨bk, o, none⟩) xs.length c, .string sep] w fun e w' => e = .returned (.string ⟨(Lib.join (xs.map (·.data.toList)) sep.data.toList).toArray⟩) ∧ Below w.heap.size w w' := Any.strings_Join Tryz.lays156 Tryz.Builder_Extra_156 bk o c xs sep w hcells hbk hN hcap hlen
end Go.Proofs
/-
  A proof as a text: the program's and the specification's answers.
-/
namespace Go.Proofs.YtfiapodjiifmaaaGreatDoor
open Go.RowKit Go.BigFrame Go.Sort
set_option linter.unusedVariables false
set_option linter.unusedSimpArgs false

/-- texts behind one another -/
def joinT (S : List ByteArray) : ByteArray := ⟨(S.map (·.data.toList)).flatten.toArray⟩
theorem joinT_none : joinT [] = ⟨#[]⟩ := rfl
theorem joinT_snoc (S : List ByteArray) (t : ByteArray) : joinT (S ++ [t]) = joinT S ++ t := by
  apply ByteArray.ext
  apply Array.toList_inj.1
  simp [joinT, ByteArray.data_append]
theorem joinT_take {S : List ByteArray} {m : Nat} (h : m < S.length) : joinT (S.take (m + 1)) = joinT (S.take m) ++ S[m] := by
  rw [← List.take_append_getElem h, joinT_snoc]
theorem join_flat (X : List (List UInt8)) : Lib.join X [] = X.flatten := by
  cases X with
  | nil => rfl
  | cons x r =>
    rw [Lib.join_cons]
    unfold Lib.joinTail
    simp
theorem join_is (S : List ByteArray) : (⟨(Lib.join (S.map (·.data.toList)) []).toArray⟩ : ByteArray) = joinT S := by
  rw [join_flat]
  rfl
theorem joinT_cons (t : ByteArray) (S : List ByteArray) : joinT (t :: S) = t ++ joinT S := by
  apply ByteArray.ext
  apply Array.toList_inj.1
  simp [joinT, ByteArray.data_append]
theorem joinT_size {x : Int} {S : List ByteArray} (h : ∀ s ∈ S, s.size ≤ 1048576) : (joinT S).size ≤ S.length * 1048576 := by
  induction S with
  | nil => exact Nat.zero_le _
  | cons s S ih =>
    have h1 := ih (fun t ht => h t (List.mem_cons_of_mem _ ht))
    have h2 := h s (List.mem_cons_self ..)
    rw [joinT_cons, ByteArray.size_append]
    simp only [List.length_cons]
    omega
noncomputable def pxB (L : List Le) (S : List ByteArray) (x : Int) : Bool := LV.leavesB L && sidB S x
noncomputable def pxT (L : List Le) (S : List ByteArray) (x : Int) : ByteArray := if pxB L S x then lvT L ++ ⟨(M.varL S.length).toArray⟩ ++ joinT S else ⟨#[]⟩
theorem lvT_le (L : List Le) : (lvT L).size ≤ 1100 := by
  cases h : LV.leavesB L with
  | false => rw [lvT_no h]; exact Nat.zero_le _
  | true =>
    rw [lvT_yes h]
    have h2 := LV.leavesB_iff.1 h
    have h3 := LV.ltL_len h2.2.1
    have h4 := M.varL_len L.length
    have h5 := h2.1
    show (LV.lvL L).toArray.size ≤ 1100
    unfold LV.lvL
    simp only [List.size_toArray, List.length_append]
    omega
theorem varT_le (n : Nat) : (⟨(M.varL n).toArray⟩ : ByteArray).size ≤ 10 := by
  show (M.varL n).toArray.size ≤ 10
  have := M.varL_len n
  simpa using this
theorem sid_sizes {S : List ByteArray} {x : Int} (h : sidB S x = true) : S.length ≤ 8 ∧ ∀ s ∈ S, s.size ≤ 32 := by
  unfold sidB wideB at h
  simp only [Bool.and_eq_true, decide_eq_true_eq, List.all_eq_true] at h
  refine ⟨h.1, fun s hs => ?_⟩
  have := h.2.1 s hs
  omega
theorem sid_join {S : List ByteArray} {x : Int} (h : sidB S x = true) (m : Nat) : (joinT (S.take m)).size ≤ 8 * 1048576 := by
  obtain ⟨h1, h2⟩ := sid_sizes h
  have h3 := joinT_size (x := 0) (S := S.take m) (fun s hs => by have := h2 s (List.mem_of_mem_take hs); omega)
  have h4 : (S.take m).length ≤ 8 := by simp; omega
  exact Nat.le_trans h3 (Nat.mul_le_mul_right _ h4)

/-- some texts, their number ahead -/
def hsT (S : List ByteArray) : ByteArray := ⟨(M.varL S.length).toArray⟩ ++ joinT S

set_option maxRecDepth 100000 in
set_option maxHeartbeats 1000000 in
theorem hashesText_any (vs : Value) (gs os : Nat) (S : List ByteArray) (w : World) (hs : SS w vs gs os S) (hcap : ∀ a n c, vs = .slice a n c → n ≤ c) (hS8 : S.length ≤ 8) (hJ : (joinT S).size ≤ 8 * 1048576) :
    Calls Tryz.prog 30 #[vs] w fun e w' => e = .returned (.string (hsT S)) ∧ Below w.heap.size w w' := by
  have HJN : Hid (∀ W, Below w.heap.size w W → Calls Tryz.prog 60 #[vs, .string ⟨#[]⟩] W fun e w' => e = .returned (.string (joinT S)) ∧ Below W.heap.size W w') := fun W hW => by
    have hss := hs.below hW hs.lt
    have hglt := hss.lt
    obtain ⟨a, cap, rfl, hl, hA, hc⟩ := hss
    have hcc := hcap _ _ _ rfl
    have hsz : (Lib.join (S.map (·.data.toList)) (⟨#[]⟩ : ByteArray).data.toList).length ≤ 140737488355328 := by
      have e := join_is S
      have e2 : (joinT S).size = (Lib.join (S.map (·.data.toList)) []).length := by rw [← e]; simp [ByteArray.size]
      show (Lib.join (S.map (·.data.toList)) []).length ≤ _
      omega
    rcases Nat.eq_zero_or_pos S.length with h0 | h0
    · have e0 : S = [] := List.length_eq_zero_iff.1 h0
      subst e0
      exact (Tryz.strings_Join_none a cap ⟨#[]⟩ W).mono fun e w' ⟨he, hw⟩ => ⟨by rw [he, joinT_none], by rw [hw]; exact Below.refl _ _⟩
    · rw [hA h0]
      refine (Tryz.strings_Join gs os cap S ⟨#[]⟩ W (fun j t hj => ?_) (hglt h0) (by omega) hcc hsz).mono fun e w' ⟨he, hw⟩ => ⟨?_, hw⟩
      · obtain ⟨hj', rfl⟩ := List.getElem?_eq_some_iff.1 hj
        exact hc j hj'
      · rw [he]
        congr 2
        exact join_is S
  have HVT : Hid (∀ W, Calls Tryz.prog 57 #[.int .i64 (S.length : Int)] W fun e w' => e = .returned (.tuple #[.string ⟨(M.varL S.length).toArray⟩, .bool true]) ∧ Below W.heap.size W w') := fun W => VarText_yes S.length W (by omega)
  have hT2 := varT_le S.length
  unfold hsT
  obtain ⟨aS, cS, rfl, hy1, hy2, hy3⟩ := hs
  clear hy2 hy3 hcap
  generalize (⟨(M.varL S.length).toArray⟩ : ByteArray) = V at *
  generalize joinT S = J at *
  generalize S.length = n at *
  have z1 : ¬ 9223372036854775807 < V.size + J.size := by omega
  go_enter Tryz.func30, Tryz.ntmps30
  go_wp2_with fail
  refine (HVT.out _).mono ?_
  rintro e w1 ⟨rfl, hb1⟩
  clear HVT
  go_wp2_with fail
  refine (HJN.out _ hb1).mono ?_
  rintro e w2 ⟨rfl, hb2⟩
  have b2 := hb1.trans (hb2.mono hb1.size)
  clear HJN hb1 hb2
  go_wp2
  go_ret
  exact ⟨rfl, b2⟩

set_option maxRecDepth 100000 in
set_option maxHeartbeats 1000000 in
theorem ProofText_any (vb vs : Value) (gb ob gs os : Nat) (L : List Le) (S : List ByteArray) (x : Int) (w : World) (hb : RS 2 lcs w vb gb ob L) (hsm : SmallL L) (hs : SS w vs gs os S) (hcap : ∀ a n c, vs = .slice a n c → n ≤ c) :
    Calls Tryz.prog 10 #[.agg #[vb, vs], .int .i64 x] w fun e w' => e = .returned (.tuple #[.string (pxT L S x), .bool (pxB L S x)]) ∧ Below w.heap.size w w' := by
  obtain ⟨p0, p1⟩ := run_rangeP (w := w) (p := 0) (v1 := vb) (v2 := vs) 29
  have hba : Below w.heap.size w (w.alloc (.cells #[vb, vs] 29)) := (Below.refl _ _).alloc (Nat.le_refl _) _
  have HBS : Hid (∀ W, Below w.heap.size w W → RS 2 lcs W vb gb ob L ∧ SS W vs gs os S) := fun W hW => ⟨hb.later hW, hs.below hW hs.lt⟩
  have HPP : Hid (∀ W, Below (w.alloc (.cells #[vb, vs] 29)).heap.size (w.alloc (.cells #[vb, vs] 29)) W → W.cell? ⟨w.heap.size, 0, none⟩ = some vb ∧ W.cell? ⟨w.heap.size, 1, none⟩ = some vs ∧ Below w.heap.size w W) := fun W hW => ⟨cell_up p0 hW, cell_up p1 hW, hba.trans (hW.mono hba.size)⟩
  have hlt := LeavesText_any vb gb ob L _ (HBS.out _ hba).1 hsm
  have HSD : Hid (∀ W, Below w.heap.size w W → Calls Tryz.prog 29 #[vs, .int .i64 x] W fun e w' => e = .returned (.bool (sidB S x)) ∧ w' = W) := fun W hW => sidesOk_any vs gs os S x W (HBS.out W hW).2
  have HJN : Hid (∀ W, sidB S x = true → Below w.heap.size w W → Calls Tryz.prog 30 #[vs] W fun e w' => e = .returned (.string (hsT S)) ∧ Below W.heap.size W w') := fun W hsd hW => by
    have h8 := sid_join hsd S.length
    rw [List.take_length] at h8
    exact hashesText_any vs gs os S W (HBS.out W hW).2 hcap (sid_sizes hsd).1 h8
  have hT1 := lvT_le L
  have HR : Hid (pxB L S x = (LV.leavesB L && sidB S x) ∧ pxT L S x = if pxB L S x then lvT L ++ hsT S else ⟨#[]⟩) := by
    refine ⟨rfl, ?_⟩
    unfold pxT hsT
    rw [ByteArray.append_assoc]
  have HS8 : Hid (sidB S x = true → (hsT S).size ≤ 9 * 1048576) := fun h => by
    have := sid_join h S.length
    rw [List.take_length] at this
    have h2 := varT_le S.length
    unfold hsT
    rw [ByteArray.size_append]
    omega
  obtain ⟨aS, cS, rfl, hy1, hy2, hy3⟩ := hs
  generalize pxB L S x = B at *
  generalize pxT L S x = T at *
  generalize hsT S = J at *
  generalize sidB S x = A3 at *
  generalize LV.leavesB L = A1 at *
  generalize lvT L = LT at *
  clear hb hsm hcap HBS hy1 hy2 hy3
  go_enter Tryz.func10, Tryz.ntmps10
  go_wp2_with fail
  refine hlt.mono ?_
  rintro e w1 ⟨rfl, hb1⟩
  obtain ⟨k0, k1, b1⟩ := HPP.out _ hb1
  clear hlt p0 p1 HPP
  cases A1 with
  | false =>
    obtain ⟨e1, e2⟩ := HR.out
    rw [Bool.false_and] at e1
    subst e1
    simp only [Bool.false_eq_true, if_false] at e2
    subst e2
    clear HR HSD HJN HS8
    go_wp2
    go_ret2
    exact ⟨rfl, b1⟩
  | true =>
    go_wp2_with fail
    refine (HSD.out _ b1).mono ?_
    rintro e w2 ⟨rfl, hw2⟩
    subst hw2
    obtain ⟨e1, e2⟩ := HR.out
    rw [Bool.true_and] at e1
    subst e1
    cases B with
    | false =>
      simp only [Bool.false_eq_true, if_false] at e2
      subst e2
      clear HR HSD HJN HS8
      go_wp2
      go_ret2
      exact ⟨rfl, b1⟩
    | true =>
      simp only [if_true] at e2
      have hJ := HS8.out rfl
      have z1 : ¬ 9223372036854775807 < LT.size + J.size := by omega
      have hjn := fun W => HJN.out W rfl
      have HT : Hid (T = LT ++ J) := e2
      clear HR HSD HJN HS8 hT1 e2
      generalize S.length = n at *
      go_wp2_with fail
      refine (hjn _ b1).mono ?_
      rintro e w4 ⟨rfl, hb4⟩
      have b4 := b1.trans (hb4.mono b1.size)
      clear k0 k1 hb4
      go_wp2
      go_ret2
      rw [HT.out]
      exact ⟨rfl, b4⟩

def PjR (w : World) (U : ByteArray) (S : List ByteArray) (t i : Value) (wr : World) : Prop := ∃ m : Nat, m ≤ S.length ∧ i = .int .i64 m ∧ t = .string (U ++ joinT (S.take m)) ∧ Hid (Below w.heap.size w wr)

end Go.Proofs.YtfiapodjiifmaaaGreatDoor
