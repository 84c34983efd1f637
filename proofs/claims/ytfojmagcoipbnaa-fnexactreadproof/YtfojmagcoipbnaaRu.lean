/-
  A proof read of a text: the program's answer.
-/
import Derived.Test.YtfojmagcoipbnaaRt
import Derived.Test.YtfojmagcoipbnaaPvd
import Derived.Test.YtfojmagcoipbnaaLz
namespace Go.Proofs.Ytfojmagcoipbnaa
open Go.RowKit Go.BigFrame Go.Sort
set_option linter.unusedVariables false
set_option linter.unusedSimpArgs false

theorem leaves_done {fn : Func} {tmps : Array Value} {R : Ending → World → Prop} {w : World} (g k : Nat) (v1 v2 : Value) (b : Bool) (hres : fn.results = #[.cell 4 31, .cell 5 4]) (hp : tmps.getD 4 undef = .pointer (some ⟨g, 0, none⟩)) (hk : tmps.getD 5 undef = .pointer (some ⟨k, 0, none⟩)) (hA : PfM w g v1 v2) (hB : w.cell? ⟨k, 0, none⟩ = some (.bool b))
    (h : R (.returned (.tuple #[.agg #[v1, v2], .bool b])) w) : Leaves Try.prog fn tmps R [] .returning w := by
  have hr := load_pf hA
  refine ⟨.tuple #[.agg #[v1, v2], .bool b], ?_, h⟩
  have hp' : tmps[4]?.getD undef = .pointer (some ⟨g, 0, none⟩) := by simpa using hp
  have hk' : tmps[5]?.getD undef = .pointer (some ⟨k, 0, none⟩) := by simpa using hk
  have hb : (loadVar 4 ⟨k, 0, none⟩).run Try.prog w = .ok (.bool b) w := by simp [go_sem, hB]
  simp [results, hres, asAddr, hr, hp', hk', hb]

set_option maxRecDepth 100000 in
theorem catch_idle (g k : Nat) (w : World) :
    CallsD Try.prog 47 #[.pointer (some ⟨g, 0, none⟩), .pointer (some ⟨k, 0, none⟩)] .returning w fun e u' w' => e = .returned (.tuple #[]) ∧ u' = .returning ∧ w' = w := by
  refine callsD_of_wpS Try.func47 rfl fun c₀ cs hu => ?_
  apply wpS_seq
  apply wpS_region
  simp [wpOpsS, go_sem, recoverD, hu, Try.ntmps47, Exit.thenS]
  refine wpS_cond (t := false) (by simp [Act.eval, Array.replicate]) ?_
  simp only [Bool.false_eq_true, if_false]
  refine wpS_of_wp (wp_skip ?_)
  cases c₀
  simp_all [bodyPostS, results, Try.results47]

set_option maxRecDepth 100000 in
theorem catch_panicking (g k : Nat) (v1 v2 : Value) (b : Bool) (pv : Value) (u : TypeId) (w : World) (hA : PfM w g v1 v2) (hB : w.heap[k]? = some (.cells #[.bool b] 4 (0, 0))) (hne : g ≠ k) :
    CallsD Try.prog 47 #[.pointer (some ⟨g, 0, none⟩), .pointer (some ⟨k, 0, none⟩)] (.panicking [{ v := .iface u pv, recovered := false }]) w fun e u' w' => e = .returned (.tuple #[]) ∧ u' = .panicking [{ v := .iface u pv, recovered := true }] ∧ w' = (w.setRow g #[.slice none 0 0, .slice none 0 0]).setCell ⟨k, 0, none⟩ (.bool false) := by
  refine callsD_of_wpS Try.func47 rfl fun c₀ cs hu => ?_
  apply wpS_seq
  apply wpS_region
  simp [wpOpsS, go_sem, recoverD, hu, Try.ntmps47, Exit.thenS]
  refine wpS_cond (t := true) (by simp [Act.eval, Array.replicate]) ?_
  simp only [if_true]
  refine wpS_of_wp ?_
  have e : (#[Value.pointer (some { block := g, off := 0 }), Value.pointer (some { block := k, off := 0 })] ++ ((Array.replicate 3 undef).setIfInBounds 0 (Value.iface u pv)).setIfInBounds 1 (Value.bool true)) = #[Value.pointer (some { block := g, off := 0 }), Value.pointer (some { block := k, off := 0 }), Value.iface u pv, Value.bool true, undef] := rfl
  rw [e]
  have hB2 : (w.setRow g #[.slice none 0 0, .slice none 0 0]).heap[k]? = some (.cells #[.bool b] 4 (0, 0)) := (setRow_other w g k _ (Ne.symm hne)).trans hB
  have c0 : (w.setRow g #[.slice none 0 0, .slice none 0 0]).cell? ⟨k, 0, none⟩ = some (.bool b) := by rw [cell_of_row _ k 0 _ _ _ hB2]; rfl
  have f0 : (w.setRow g #[.slice none 0 0, .slice none 0 0]).frozen? ⟨k, 0, none⟩ = false := by simp [World.frozen?, hB2]
  go_wp2_with (refine wp_storePf rfl _ _ rfl g _ _ (.slice none 0 0) (.slice none 0 0) hA rfl rfl rfl rfl ?_; intro hfin)
  exact ⟨rfl, _, rfl, .tuple #[], by simp [results, Try.results47], rfl, rfl, rfl⟩

set_option maxRecDepth 100000 in
set_option maxHeartbeats 1000000 in
theorem ReadProof_wide (s : ByteArray) (x : Int) (w : World) (hx : ¬ (1 ≤ x ∧ x ≤ 32)) :
    Calls Try.prog 14 #[.string s, .int .i64 x] w fun e w' => e = .returned (.tuple #[.agg #[.slice none 0 0, .slice none 0 0], .bool false]) ∧ Below w.heap.size w w' := by
  have q1 : decide (1 ≤ x ∧ x ≤ 32) = false := decide_eq_false hx
  have hmf : ∀ (fn : Fn) (first cap : Array Value) (w : World), (Instr.makeFunc fn first cap).run Try.prog w = .ok (.func fn first cap) w := fun _ _ _ _ => rfl
  go_enter_defers Try.func14, Try.ntmps14
  go_wp2_with fail
  refine (widthOk_any _ _).mono ?_
  rintro e w1 ⟨rfl, hw1⟩
  subst hw1
  rw [q1]
  go_wp2
  have hba : Below w.heap.size w ((w.alloc (.cells #[.slice none 0 0, .slice none 0 0] 31)).alloc (.cells #[.bool false] 4)) := ((Below.refl _ _).alloc (Nat.le_refl _) _).alloc (by simp) _
  have hA := PfM.later (PfM.new w (.slice none 0 0) (.slice none 0 0)) ((Below.refl _ _).alloc (Nat.le_refl _) (.cells #[.bool false] 4))
  have hB : ((w.alloc (.cells #[.slice none 0 0, .slice none 0 0] 31)).alloc (.cells #[.bool false] 4)).cell? ⟨w.heap.size + 1, 0, none⟩ = some (.bool false) := by simp
  unfold bodyPostD
  dsimp only
  refine leaves_done w.heap.size (w.heap.size + 1) _ _ false (by rfl) (by rfl) (by rfl) hA hB ?_
  exact ⟨rfl, hba⟩

set_option maxRecDepth 100000 in
theorem door_panic {fn : Func} {tmps : Array Value} {R : Ending → World → Prop} {W : World} (g k : Nat) (v1 v2 : Value) (b : Bool) (hres : fn.results = #[.cell 4 31, .cell 5 4]) (hp : tmps.getD 4 undef = .pointer (some ⟨g, 0, none⟩)) (hk : tmps.getD 5 undef = .pointer (some ⟨k, 0, none⟩)) (hA : PfM W g v1 v2) (hB : W.heap[k]? = some (.cells #[.bool b] 4 (0, 0))) (hne : g ≠ k)
    (h : R (.returned (.tuple #[.agg #[.slice none 0 0, .slice none 0 0], .bool false])) ((W.setRow g #[.slice none 0 0, .slice none 0 0]).setCell ⟨k, 0, none⟩ (.bool false))) : Leaves Try.prog fn tmps R [{ target := .fn (.func 47) #[.pointer (some ⟨g, 0, none⟩), .pointer (some ⟨k, 0, none⟩)], args := #[] }] (.panicking [unR]) W := by
  refine leaves_cons (f := 47) (args := #[.pointer (some ⟨g, 0, none⟩), .pointer (some ⟨k, 0, none⟩)]) (by simp) (by simp [go_sem]) ?_
  refine (catch_panicking g k v1 v2 b _ _ W hA hB hne).mono ?_
  rintro e u' w'' ⟨rfl, rfl, rfl⟩
  have hB2 : (W.setRow g #[.slice none 0 0, .slice none 0 0]).heap[k]? = some (.cells #[.bool b] 4 (0, 0)) := (setRow_other W g k _ (Ne.symm hne)).trans hB
  have hA2 : PfM (W.setRow g #[.slice none 0 0, .slice none 0 0]) g (.slice none 0 0) (.slice none 0 0) := setRow_heap W g _ _ _ _ hA
  have hB3 := heap_setCell_same (W.setRow g #[.slice none 0 0, .slice none 0 0]) k 0 _ _ (.bool false) hB2
  show Leaves _ _ _ _ [] .returning _
  refine leaves_done g k _ _ false hres hp hk (hA2.keep ((grown_setC _ k 0 _).block g hA2.lt (by simp; exact hne))) ?_ h
  rw [cell_of_row _ k 0 _ _ _ hB3]
  rfl

set_option maxRecDepth 100000 in
theorem door_ret {fn : Func} {tmps : Array Value} {R : Ending → World → Prop} {W : World} (g k : Nat) (v1 v2 : Value) (b : Bool) (hres : fn.results = #[.cell 4 31, .cell 5 4]) (hp : tmps.getD 4 undef = .pointer (some ⟨g, 0, none⟩)) (hk : tmps.getD 5 undef = .pointer (some ⟨k, 0, none⟩)) (hA : PfM W g v1 v2) (hB : W.cell? ⟨k, 0, none⟩ = some (.bool b))
    (h : R (.returned (.tuple #[.agg #[v1, v2], .bool b])) W) : Leaves Try.prog fn tmps R [{ target := .fn (.func 47) #[.pointer (some ⟨g, 0, none⟩), .pointer (some ⟨k, 0, none⟩)], args := #[] }] .returning W := by
  refine leaves_cons (f := 47) (args := #[.pointer (some ⟨g, 0, none⟩), .pointer (some ⟨k, 0, none⟩)]) (by simp) (by simp [go_sem]) ?_
  refine (catch_idle g k W).mono ?_
  rintro e u' w'' ⟨rfl, rfl, rfl⟩
  show Leaves _ _ _ _ [] .returning _
  exact leaves_done g k _ _ b hres hp hk hA hB h

/-- what stands when the reader begins: the proof, the word, the reader -/
theorem boxes3 (w : World) (s : ByteArray) : ∀ W, W = ((w.alloc (.cells #[.slice none 0 0, .slice none 0 0] 31)).alloc (.cells #[.bool false] 4)).alloc (.cells #[.string s, .int .i64 0] 90) → PfM W w.heap.size (.slice none 0 0) (.slice none 0 0) ∧ W.heap[w.heap.size + 1]? = some (.cells #[.bool false] 4 (0, 0)) ∧ Rd W (w.heap.size + 1 + 1) s 0 ∧ Below w.heap.size w W ∧ W.heap.size = w.heap.size + 3 := fun W hW => by
  subst hW
  have n0 := PfM.new w (.slice none 0 0) (.slice none 0 0)
  have b0 : Below w.heap.size w (w.alloc (.cells #[.slice none 0 0, .slice none 0 0] 31)) := (Below.refl _ _).alloc (Nat.le_refl _) _
  have z0 : (w.alloc (.cells #[.slice none 0 0, .slice none 0 0] 31)).heap.size = w.heap.size + 1 := by simp
  generalize w.alloc (.cells #[.slice none 0 0, .slice none 0 0] 31) = W1 at *
  have n1 : (W1.alloc (.cells #[.bool false] 4)).heap[W1.heap.size]? = some (.cells #[.bool false] 4 (0, 0)) := Go.heap_alloc_new W1 _
  have b1 : Below W1.heap.size W1 (W1.alloc (.cells #[.bool false] 4)) := (Below.refl _ _).alloc (Nat.le_refl _) _
  have z1 : (W1.alloc (.cells #[.bool false] 4)).heap.size = w.heap.size + 1 + 1 := by simp [z0]
  rw [z0] at n1
  generalize W1.alloc (.cells #[.bool false] 4) = W2 at *
  have n2 : Rd (W2.alloc (.cells #[.string s, .int .i64 0] 90)) W2.heap.size s 0 := Go.heap_alloc_new W2 _
  have b2 : Below W2.heap.size W2 (W2.alloc (.cells #[.string s, .int .i64 0] 90)) := (Below.refl _ _).alloc (Nat.le_refl _) _
  rw [z1] at n2
  refine ⟨(n0.later b1).later b2, (b2.block _ (by omega)).trans n1, n2, (b0.trans (b1.mono b0.size)).trans (b2.mono (by omega)), by simp [z1]⟩

/-- what a text tells as a proof -/
noncomputable def rpOk (s : ByteArray) (x : Int) : Bool :=
  match LV.rawL s 0 with
  | none => false
  | some (l, q) => match M.readVar s.data.toList q with
    | none => false
    | some (n, p) => decide (1 ≤ x ∧ x ≤ 32) && LV.leavesB l && decide (n ≤ 8) && decide (p + n * x.toNat = s.size)
noncomputable def rpL (s : ByteArray) (x : Int) : List Le :=
  match LV.rawL s 0 with
  | none => []
  | some (l, q) => if rpOk s x then l else []
noncomputable def rpS (s : ByteArray) (x : Int) : List ByteArray :=
  match LV.rawL s 0 with
  | none => []
  | some (l, q) => match M.readVar s.data.toList q with
    | none => []
    | some (n, p) => if rpOk s x then sdp s x.toNat p n else []
theorem rp_no {s : ByteArray} {x : Int} (h : rpOk s x = false) : rpL s x = [] ∧ rpS s x = [] := by
  unfold rpL rpS
  rw [h]
  constructor
  · split <;> simp
  · split
    · rfl
    · split <;> simp

set_option maxRecDepth 100000 in
set_option maxHeartbeats 2000000 in
theorem ReadProof_any (s : ByteArray) (x : Int) (w : World) (hs : s.size ≤ 1048576) :
    Calls Try.prog 14 #[.string s, .int .i64 x] w (PvP (rpL s x) (rpS s x) (rpOk s x) w) := by
  by_cases hx0 : ¬ (1 ≤ x ∧ x ≤ 32)
  · have hx := hx0
    have h0 : rpOk s x = false := by
      unfold rpOk
      split
      · rfl
      · split
        · rfl
        · rw [decide_eq_false hx]; rfl
    rw [h0, (rp_no h0).1, (rp_no h0).2]
    refine (ReadProof_wide s x w hx).mono fun e w' ⟨he, hb⟩ => ?_
    rw [he]
    exact PvP.no hb
  have hx : 1 ≤ x ∧ x ≤ 32 := Classical.not_not.1 hx0
  clear hx0
  obtain ⟨y, rfl⟩ : ∃ y : Nat, x = (y : Int) := ⟨x.toNat, by omega⟩
  have hy : 1 ≤ y ∧ y ≤ 32 := by omega
  have q1 : decide (1 ≤ (y : Int) ∧ (y : Int) ≤ 32) = true := decide_eq_true hx
  have hmf : ∀ (fn : Fn) (first cap : Array Value) (w : World), (Instr.makeFunc fn first cap).run Try.prog w = .ok (.func fn first cap) w := fun _ _ _ _ => rfl
  obtain ⟨A0, B0, R0, b0, z0⟩ := boxes3 w s _ rfl
  obtain ⟨Q, hQ⟩ : ∃ Q, PvP (rpL s (y : Int)) (rpS s (y : Int)) (rpOk s (y : Int)) w = Q := ⟨_, rfl⟩
  have HQ : Hid (PvP (rpL s (y : Int)) (rpS s (y : Int)) (rpOk s (y : Int)) w = Q) := hQ
  rw [hQ]
  clear hQ hx
  go_enter_defers Try.func14, Try.ntmps14
  go_wp2_with fail
  refine (widthOk_any _ _).mono ?_
  rintro e w1 ⟨rfl, hw1⟩
  subst hw1
  rw [q1]
  obtain ⟨W0, hW0⟩ : ∃ W0, ((w.alloc (.cells #[.slice none 0 0, .slice none 0 0] 31)).alloc (.cells #[.bool false] 4)).alloc (.cells #[.string s, .int .i64 0] 90) = W0 := ⟨_, rfl⟩
  rw [hW0] at A0 B0 R0 b0 z0
  have HW0 : Hid (((w.alloc (.cells #[.slice none 0 0, .slice none 0 0] 31)).alloc (.cells #[.bool false] 4)).alloc (.cells #[.string s, .int .i64 0] 90) = W0) := hW0
  clear hW0
  have HNO : Hid (∀ W, rpOk s (y : Int) = false → Below w.heap.size w W → Q (.returned (.tuple #[.agg #[.slice none 0 0, .slice none 0 0], .bool false])) ((W.setRow w.heap.size #[.slice none 0 0, .slice none 0 0]).setCell ⟨w.heap.size + 1, 0, none⟩ (.bool false))) := fun W h0 hb => by
    rw [← HQ.out, h0, (rp_no h0).1, (rp_no h0).2]
    exact PvP.no ((below_row hb (Nat.le_refl _)).setCell (p := ⟨w.heap.size + 1, 0, none⟩) (by simp) _)
  by_cases hraw : LV.rawL s 0 = none ∨ ∃ l q, LV.rawL s 0 = some (l, q) ∧ LV.leavesB l = false
  · have h0 : rpOk s (y : Int) = false := by
      unfold rpOk
      rcases hraw with h | ⟨l, q, h, h2⟩
      · rw [h]
      · rw [h]
        dsimp only
        split
        · rfl
        · rw [h2]; simp
    have hlv := readerLeaves_no (w.heap.size + 1 + 1) 0 s W0 R0 hs (Nat.zero_le _) hraw
    rw [← HW0.out] at hlv
    clear HQ hraw
    go_wp2_with fail
    refine hlv.mono ?_
    rintro e w2 ⟨rfl, hb2⟩
    rw [HW0.out] at hb2
    have hA := A0.later hb2
    have hB : w2.heap[w.heap.size + 1]? = some (.cells #[.bool false] 4 (0, 0)) := (hb2.block _ (by omega)).trans B0
    have b2 := b0.trans (hb2.mono b0.size)
    clear hlv hb2 A0 B0 R0
    go_wp2
    unfold bodyPostD
    dsimp only
    refine door_panic w.heap.size (w.heap.size + 1) _ _ false (by rfl) (by rfl) (by rfl) hA hB (by omega) ?_
    exact HNO.out _ h0 b2
  have hex : ∃ l q, LV.rawL s 0 = some (l, q) ∧ LV.leavesB l = true := by
    cases h : LV.rawL s 0 with
    | none => exact absurd (.inl h) hraw
    | some z =>
      obtain ⟨l, q⟩ := z
      refine ⟨l, q, rfl, ?_⟩
      cases h2 : LV.leavesB l with
      | true => rfl
      | false => exact absurd (.inr ⟨l, q, h, h2⟩) hraw
  obtain ⟨l, q, hr, hl⟩ := hex
  clear hraw
  have hqs := (raw_text hr).1
  have HRP : Hid (∀ n p, M.readVar s.data.toList q = some (n, p) → rpOk s (y : Int) = (decide (n ≤ 8) && decide (p + n * y = s.size)) ∧ (rpOk s (y : Int) = true → rpL s (y : Int) = l ∧ rpS s (y : Int) = sdp s y p n)) := fun n p h => by
    have e1 : rpOk s (y : Int) = (decide (n ≤ 8) && decide (p + n * y = s.size)) := by
      unfold rpOk
      rw [hr]
      dsimp only
      rw [h]
      dsimp only
      rw [q1, hl, Int.toNat_natCast, Bool.true_and, Bool.true_and]
    refine ⟨e1, fun h2 => ?_⟩
    unfold rpL rpS
    rw [hr]
    dsimp only
    rw [h]
    dsimp only
    rw [h2, Int.toNat_natCast]
    exact ⟨rfl, rfl⟩
  have HRN : Hid (M.readVar s.data.toList q = none → rpOk s (y : Int) = false) := fun h => by
    unfold rpOk
    rw [hr]
    dsimp only
    rw [h]
  have hlv := readerLeaves_yes (w.heap.size + 1 + 1) 0 s l q W0 R0 hs (Nat.zero_le _) hr hl
  rw [← HW0.out] at hlv
  go_wp2_with fail
  refine hlv.mono ?_
  rintro e w2 ⟨gl, rfl, hrw2, hgl, hrd2, hg2⟩
  rw [HW0.out] at hg2 hgl
  have A2 : PfM w2 w.heap.size (.slice none 0 0) (.slice none 0 0) := A0.keep (hg2.block _ A0.lt (by simp; omega))
  have B2 : w2.heap[w.heap.size + 1]? = some (.cells #[.bool false] 4 (0, 0)) := (hg2.block _ (by omega) (by simp)).trans B0
  have b2 : Below w.heap.size w w2 := b0.grown hg2 b0.size (fun k hk => by simp at hk; omega)
  have s2 := hg2.size
  have c20 := A2.c0
  have f20 := A2.fr 0
  have hgr3 := grown_setC w2 w.heap.size 0 (.slice (some ⟨gl, 0, none⟩) l.length l.length)
  have A3 := A2.set0 (.slice (some ⟨gl, 0, none⟩) l.length l.length)
  have B3 := (hgr3.block (w.heap.size + 1) (by omega) (by simp)).trans B2
  have R3 := hrd2.grown hgr3 (by simp; omega)
  have b3 := b2.setCell (p := ⟨w.heap.size, 0, none⟩) (Nat.le_refl _) (.slice (some ⟨gl, 0, none⟩) l.length l.length)
  have w3 := hrw2.grown hgr3 (fun _ => by simp; omega)
  have z3 : (w2.setCell ⟨w.heap.size, 0, none⟩ (.slice (some ⟨gl, 0, none⟩) l.length l.length)).heap.size = w2.heap.size := by simp
  clear hlv A2 B2 b2 hrd2 hrw2 hg2 A0 B0 R0 b0 hgr3 hr hl
  go_wp2_with fail
  generalize w2.setCell ⟨w.heap.size, 0, none⟩ (.slice (some ⟨gl, 0, none⟩) l.length l.length) = W3 at *
  by_cases hvar : M.readVar s.data.toList q = none ∨ ∃ n p, M.readVar s.data.toList q = some (n, p) ∧ 8 < n
  · have h0 : rpOk s (y : Int) = false := by
      rcases hvar with h | ⟨n, p, h, h8⟩
      · exact HRN.out h
      · rw [(HRP.out n p h).1, decide_eq_false (by omega)]
        rfl
    refine (readerHashes_no (w.heap.size + 1 + 1) q s 8 y W3 R3 hs hqs (by omega) hvar).mono ?_
    rintro e w4 ⟨rfl, hg4⟩
    have hA := A3.keep (hg4.block _ A3.lt (by simp; omega))
    have hB : w4.heap[w.heap.size + 1]? = some (.cells #[.bool false] 4 (0, 0)) := (hg4.block _ (by omega) (by simp)).trans B3
    have b4 : Below w.heap.size w w4 := b3.grown hg4 b3.size (fun k hk => by simp at hk; omega)
    clear hvar hg4 A3 B3 R3 HRN HRP HQ
    go_wp2
    unfold bodyPostD
    dsimp only
    refine door_panic w.heap.size (w.heap.size + 1) _ _ false (by rfl) (by rfl) (by rfl) hA hB (by omega) ?_
    exact HNO.out _ h0 b4
  have hex : ∃ n p, M.readVar s.data.toList q = some (n, p) ∧ n ≤ 8 := by
    cases h : M.readVar s.data.toList q with
    | none => exact absurd (.inl h) hvar
    | some z =>
      obtain ⟨n, p⟩ := z
      exact ⟨n, p, rfl, Nat.le_of_not_lt fun h2 => hvar (.inr ⟨n, p, h, h2⟩)⟩
  obtain ⟨n, p, hv, hn8⟩ := hex
  obtain ⟨hrp1, hrp2⟩ := HRP.out n p hv
  rw [decide_eq_true hn8, Bool.true_and] at hrp1
  refine (readerHashes_yes (w.heap.size + 1 + 1) q s 8 y n p W3 R3 hs hqs (by omega) hv hn8 (by omega)).mono ?_
  clear hvar HRN HRP hv
  by_cases hfit : p + n * y ≤ s.size
  · rintro e w4 ⟨hif, hg4⟩
    rw [if_pos hfit] at hif
    obtain ⟨g4, rfl, t4, hg4', r4⟩ := hif
    have A4 := A3.keep (hg4.block _ A3.lt (by simp; omega))
    have B4 : w4.heap[w.heap.size + 1]? = some (.cells #[.bool false] 4 (0, 0)) := (hg4.block _ (by omega) (by simp)).trans B3
    have b4 : Below w.heap.size w w4 := b3.grown hg4 b3.size (fun k hk => by simp at hk; omega)
    have s4 := hg4.size
    have c21 := A4.c1
    have f21 := A4.fr 1
    have hgr5 := grown_setC w4 w.heap.size 1 (.slice (some ⟨g4, 0, none⟩) n n)
    have A5 := A4.set1 (.slice (some ⟨g4, 0, none⟩) n n)
    have B5 := (hgr5.block (w.heap.size + 1) (by omega) (by simp)).trans B4
    have R5 := r4.grown hgr5 (by simp; omega)
    have b5 := b4.setCell (p := ⟨w.heap.size, 1, none⟩) (Nat.le_refl _) (.slice (some ⟨g4, 0, none⟩) n n)
    have w5 := (w3.grown hg4 (fun _ => by simp; omega)).grown hgr5 (fun _ => by simp; omega)
    have t5 := (t4.ts n n (sdp_len _ _ _ _) (by omega)).keptG hgr5 (fun _ => by simp; omega)
    have hglt : 0 < l.length → gl < W3.heap.size := w3.lt
    have z5 : (w4.setCell ⟨w.heap.size, 1, none⟩ (.slice (some ⟨g4, 0, none⟩) n n)).heap.size = w4.heap.size := by simp
    clear A4 B4 b4 r4 t4 hg4 hgr5 A3 B3 R3 b3 w3 c20 f20
    go_wp2_with fail
    generalize w4.setCell ⟨w.heap.size, 1, none⟩ (.slice (some ⟨g4, 0, none⟩) n n) = W5 at *
    by_cases hend : p + n * y = s.size
    · rw [hend] at R5
      refine (readerEnd_yes (w.heap.size + 1 + 1) s W5 R5).mono ?_
      rintro e w6 ⟨rfl, hb6⟩
      have A6 := A5.later hb6
      have B6 : w6.heap[w.heap.size + 1]? = some (.cells #[.bool false] 4 (0, 0)) := (hb6.block _ (by omega)).trans B5
      have b6 := b5.trans (hb6.mono b5.size)
      have w6' := w5.later hb6
      have t6 := t5.later hb6
      have hX : PfM (w6.setRow w.heap.size #[.slice (some ⟨gl, 0, none⟩) l.length l.length, .slice (some ⟨g4, 0, none⟩) n n]) w.heap.size (.slice (some ⟨gl, 0, none⟩) l.length l.length) (.slice (some ⟨g4, 0, none⟩) n n) := setRow_heap w6 _ _ _ _ _ A6
      have hgx := grown_setRowP w6 w.heap.size #[.slice (some ⟨gl, 0, none⟩) l.length l.length, .slice (some ⟨g4, 0, none⟩) n n]
      have B7 : (w6.setRow w.heap.size #[.slice (some ⟨gl, 0, none⟩) l.length l.length, .slice (some ⟨g4, 0, none⟩) n n]).heap[w.heap.size + 1]? = some (.cells #[.bool false] 4 (0, 0)) := (setRow_other w6 _ _ _ (by omega)).trans B6
      have b7 := below_row (g := w.heap.size) (R := #[.slice (some ⟨gl, 0, none⟩) l.length l.length, .slice (some ⟨g4, 0, none⟩) n n]) b6 (Nat.le_refl _)
      have w7 := w6'.grown hgx (fun _ => by simp; omega)
      have t7 := t6.keptG hgx (fun _ => by simp; omega)
      have d60 : (w6.setRow w.heap.size #[.slice (some ⟨gl, 0, none⟩) l.length l.length, .slice (some ⟨g4, 0, none⟩) n n]).cell? ⟨w.heap.size + 1, 0, none⟩ = some (.bool false) := by rw [cell_of_row _ _ 0 _ _ _ B7]; rfl
      have f60 : (w6.setRow w.heap.size #[.slice (some ⟨gl, 0, none⟩) l.length l.length, .slice (some ⟨g4, 0, none⟩) n n]).frozen? ⟨w.heap.size + 1, 0, none⟩ = false := by simp [World.frozen?, B7]
      have HY : Hid (rpOk s (y : Int) = true ∧ rpL s (y : Int) = l ∧ rpS s (y : Int) = sdp s y p n) := by
        have h1 : rpOk s (y : Int) = true := by rw [hrp1, decide_eq_true hend]
        exact ⟨h1, hrp2 h1⟩
      clear A5 B5 R5 b5 w5 t5 hb6 c21 f21 hrp1 hrp2
      go_wp2_with (first | (refine wp_loadPf rfl _ rfl w.heap.size _ _ rfl A6 ?_) | (refine wp_storePf rfl _ _ rfl w.heap.size _ _ _ _ A6 rfl rfl rfl rfl ?_; intro hfin))
      generalize w6.setRow w.heap.size #[.slice (some ⟨gl, 0, none⟩) l.length l.length, .slice (some ⟨g4, 0, none⟩) n n] = W7 at *
      have hgy := grown_setC W7 (w.heap.size + 1) 0 (.bool true)
      have hBF := heap_setCell_same W7 (w.heap.size + 1) 0 _ _ (.bool true) B7
      have hlx := w7.lt
      unfold bodyPostD
      dsimp only
      refine door_ret w.heap.size (w.heap.size + 1) _ _ true (by rfl) (by rfl) (by rfl) (hX.keep (hgy.block _ hX.lt (by simp))) (by rw [cell_of_row _ _ 0 _ _ _ hBF]; rfl) ?_
      rw [← HQ.out, HY.out.1, HY.out.2.1, HY.out.2.2]
      refine ⟨_, l.length, _, n, gl, g4, by rw [sdp_len], w7.grown hgy (fun _ => by simp; omega), by rw [sdp_len]; exact t7.keptG hgy (fun _ => by simp; omega), by omega, by omega, ⟨fun h1 _ => by have := hglt h1; omega, by rw [sdp_len]; exact Nat.le_refl _⟩, b7.setCell (p := ⟨w.heap.size + 1, 0, none⟩) (by simp) _⟩
    · have h0 : rpOk s (y : Int) = false := by rw [hrp1, decide_eq_false hend]
      refine (readerEnd_no (w.heap.size + 1 + 1) _ s W5 R5 hend).mono ?_
      rintro e w6 ⟨rfl, hb6⟩
      have hA := A5.later hb6
      have hB : w6.heap[w.heap.size + 1]? = some (.cells #[.bool false] 4 (0, 0)) := (hb6.block _ (by omega)).trans B5
      have b6 := b5.trans (hb6.mono b5.size)
      clear A5 B5 R5 b5 w5 t5 hb6 c21 f21 HQ
      go_wp2
      unfold bodyPostD
      dsimp only
      refine door_panic w.heap.size (w.heap.size + 1) _ _ false (by rfl) (by rfl) (by rfl) hA hB (by omega) ?_
      exact HNO.out _ h0 b6
  · rintro e w4 ⟨hif, hg4⟩
    rw [if_neg hfit] at hif
    subst hif
    have h0 : rpOk s (y : Int) = false := by rw [hrp1, decide_eq_false (by omega)]
    have hA := A3.keep (hg4.block _ A3.lt (by simp; omega))
    have hB : w4.heap[w.heap.size + 1]? = some (.cells #[.bool false] 4 (0, 0)) := (hg4.block _ (by omega) (by simp)).trans B3
    have b4 : Below w.heap.size w w4 := b3.grown hg4 b3.size (fun k hk => by simp at hk; omega)
    clear hg4 A3 B3 R3 HQ
    go_wp2
    unfold bodyPostD
    dsimp only
    refine door_panic w.heap.size (w.heap.size + 1) _ _ false (by rfl) (by rfl) (by rfl) hA hB (by omega) ?_
    exact HNO.out _ h0 b4

end Go.Proofs.Ytfojmagcoipbnaa
