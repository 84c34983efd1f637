/-
  Texts laid together: Fro, Vf, Lvb, Vgs.
-/
import Derived.Test.YthlgohplljcgfaaGreatDoorPkESN1
import Derived.Deep.RegionHeld
import Derived.Deep.MidRow
import Derived.Test.YthlgohplljcgfaaGreatDoorPkESN38
import Derived.Test.YthlgohplljcgfaaGreatDoorPkESN6
import Derived.Lib.QuietBelow
/-
  A frame of which some slots are known: the steps of a region that draws its order, the frame left open.
-/
namespace Go.Proofs.YthlgohplljcgfaaGreatDoor
open Go.RowKit Go.BigFrame Go.Sort
set_option linter.unusedVariables false
set_option linter.unusedSimpArgs false

/-- a frame of m slots, no call put off; what some slots hold -/
def FR (m : Nat) (a : Act) (l : List (Nat × Value)) : Prop := a.tmps.size = m ∧ a.defers = [] ∧ ∀ p ∈ l, a.tmps[p.1]? = some p.2
theorem FR.at {m : Nat} {a : Act} {l : List (Nat × Value)} (h : FR m a l) (t : Nat) (v : Value) (hm : (t, v) ∈ l) : a.tmps[t]? = some v := h.2.2 _ hm
theorem FR.get {m : Nat} {a : Act} {l : List (Nat × Value)} (h : FR m a l) (t : Nat) (v : Value) (hm : (t, v) ∈ l) : a.tmps[t]?.getD undef = v := by rw [h.at t v hm]; rfl
theorem FR.eval {m : Nat} {a : Act} {l : List (Nat × Value)} (h : FR m a l) (t : Nat) (v : Value) (hm : (t, v) ∈ l) : a.eval (.tmp t) = v := by
  show a.tmps.getD t undef = v
  rw [Array.getD_eq_getD_getElem?]
  exact h.get t v hm
theorem FR.put {m : Nat} {a : Act} {l : List (Nat × Value)} (h : FR m a l) (d : Nat) (v : Value) (hd : d < m) (hn : ∀ p ∈ l, p.1 ≠ d) : FR m (a.put (some d) v) ((d, v) :: l) := by
  unfold Act.put
  refine ⟨by simpa using h.1, h.2.1, fun p hp => ?_⟩
  rcases List.mem_cons.1 hp with rfl | hp
  · simp [h.1, hd]
  · have := hn p hp
    simp only
    rw [Array.getElem?_setIfInBounds_ne (fun e => this e.symm)]
    exact h.2.2 p hp
/-- what was put into a slot is known of the frame behind it -/
theorem openK {K : Act → World → Prop} {o : Oper} {m : Nat} {a : Act} {l : List (Nat × Value)} {v : Value} {w : World} (d : Nat) (hd : o.dst = some d) (F : FR m a l) (hlt : d < m) (hn : ∀ p ∈ l, p.1 ≠ d) (h : ∀ a', FR m a' ((d, v) :: l) → K a' w) : K (a.put o.dst v) w := by
  rw [hd]
  exact h _ (F.put d v hlt hn)
theorem takeF {ops : Array Oper} {md : Region.Mode} {Q : Exit → Act → World → Prop} {S : World → Prop} {i : Nat} {oi : Oper} {v : Value} {fuel m : Nat} {listed : Array Bool} {a : Act} {w : World} {l : List (Nat × Value)} (hi : ops[i]? = some oi)
    (hs : Region.noSelect ops = true) (hf : Region.free md ops listed i = true) (hr : (Region.ready md ops listed).contains i = true)
    (hQ : ∀ c a w, Q (.panic c) (a.put oi.dst v) w → Q (.panic c) a w) (hy : YieldsIf Tryz.prog ops S oi v a) (hS : S w) (d : Nat) (hd : oi.dst = some d) (F : FR m a l) (hlt : d < m) (hn : ∀ p ∈ l, p.1 ≠ d)
    (h : ∀ a', FR m a' ((d, v) :: l) → wpAnyH Tryz.prog md ops Q S fuel (listed.setIfInBounds i true) a' w) : wpAnyH Tryz.prog md ops Q S (fuel + 1) listed a w :=
  wpAnyH_take hi hs hf hr hQ hy hS (by rw [hd]; exact h _ (F.put d v hlt hn))
theorem wp_abs {c : Go.Code} {Q : Exit → Act → World → Prop} {a0 : Act} {w : World} (R : Act → Prop) (h0 : R a0) (h : ∀ a, R a → c.wp Tryz.prog Q a w) : c.wp Tryz.prog Q a0 w := h a0 h0
theorem wanted_of {ops : Array Oper} {o : Oper} {tmps : Array Value} (j : Nat) (b : Bool) (d : Nat) (hg : o.guard = some (j, b)) (hd : ((ops[j]?).bind (·.dst)) = some d) (ht : tmps[d]? = some (.bool b)) : Region.wanted o (yielded ops tmps) = true := by
  simp [Region.wanted, yielded, hg, hd, ht]
theorem ret_tmpF {fn : Func} {Rp : Ending → World → Prop} {a : Act} {w : World} (s : Nat) (v : Value) (hres : fn.results = #[.tmp s]) (hd : a.defers = []) (hv : a.tmps[s]?.getD undef = v) (h : Rp (.returned v) w) : bodyPost Tryz.prog fn Rp .ret a w := by
  refine bodyPost_ret (v := v) ?_ hd h
  simp [results, hres, hv]
/-- a frame of which all slots are known -/
theorem FR.close {m : Nat} {a : Act} {l : List (Nat × Value)} (h : FR m a l) (vs : List Value) (hl : vs.length = m) (hv : ∀ i, (hi : i < vs.length) → a.tmps[i]? = some vs[i]) : a = ⟨vs.toArray, []⟩ := by
  obtain ⟨h1, h2, _⟩ := h
  cases a with
  | mk t d =>
    simp only at h1 h2 hv
    subst h2
    congr 1
    apply Array.ext
    · rw [h1, List.size_toArray, hl]
    · intro i hi1 hi2
      have := hv i (by simpa using hi2)
      rw [Array.getElem?_eq_getElem hi1] at this
      rw [Option.some.inj this]
      simp
theorem unwanted_of {ops : Array Oper} {o : Oper} {tmps : Array Value} (j : Nat) (b : Bool) (d : Nat) (hg : o.guard = some (j, b)) (hd : ((ops[j]?).bind (·.dst)) = some d) (ht : tmps[d]? = some (.bool (!b))) : Region.wanted o (yielded ops tmps) = false := by
  cases b <;> simp_all [Region.wanted, yielded]

/-- a contract with one answer, in the form that the steps of calls take -/
theorem Calls.ret1 {f : Nat} {args : Array Value} {w : World} {v : Value} (h : Calls Tryz.prog f args w fun e w' => e = .returned v ∧ Below w.heap.size w w') : Calls Tryz.prog f args w fun e w' => ∃ r, e = .returned r ∧ (r = v ∧ Below w.heap.size w w') :=
  h.mono fun _ _ ⟨he, hb⟩ => ⟨_, he, rfl, hb⟩

end Go.Proofs.YthlgohplljcgfaaGreatDoor
/-
  The text of a letter: the specification's answer.
-/
namespace Go.Proofs.YthlgohplljcgfaaGreatDoor
open Go.RowKit Go.BigFrame Go.Sort
set_option linter.unusedVariables false
set_option linter.unusedSimpArgs false

/-- four bytes in a box -/
def Bx4 (W : World) (n : Nat) (b0 b1 b2 b3 : UInt8) : Prop := W.heap[n]? = some (.cells #[.int .u8 (b0.toNat : Int), .int .u8 (b1.toNat : Int), .int .u8 (b2.toNat : Int), .int .u8 (b3.toNat : Int)] 5 (0, 0))
theorem Bx4.later {W W' : World} {n : Nat} {b0 b1 b2 b3 : UInt8} (h : Bx4 W n b0 b1 b2 b3) (hb : Below W.heap.size W W') : Bx4 W' n b0 b1 b2 b3 := (hb.block n (Array.getElem?_eq_some_iff.1 h).1).trans h
theorem Bx4.str {W : World} {n : Nat} {b0 b1 b2 b3 : UInt8} (h : Bx4 W n b0 b1 b2 b3) : (convert 159 9 (.slice (some ⟨n, 0, none⟩) 4 4)).run Tryz.prog W = .ok (.string ⟨[b0, b1, b2, b3].toArray⟩) W := by
  refine run_convert_bytes_back (P := Tryz.prog) _ 159 9 5 ⟨n, 0, none⟩ 4 [b0, b1, b2, b3] Tryz.underlying159 Tryz.underlying5 Tryz.underlying9 ?_
  intro j hj
  have h0 : j = 0 ∨ j = 1 ∨ j = 2 ∨ j = 3 := by simp at hj; omega
  rcases h0 with rfl | rfl | rfl | rfl <;> (simp [Addr.add]; rw [cell_of_row W n _ _ _ _ h]; rfl)
theorem step_four {w : World} {ops : Array Oper} {o : Oper} {a : Act} {K : Act → World → Prop} {Q : Exit → Act → World → Prop} {E : Prop} (hw : Region.wanted o (yielded ops a.tmps) = true) (i0 i1 i2 i3 : Nat) (ho : o.op = .buildSlice 159 4 #[(0, .tmp i0), (1, .tmp i1), (2, .tmp i2), (3, .tmp i3)]) (b0 b1 b2 b3 : UInt8)
    (h0 : a.tmps[i0]?.getD undef = .int .u8 (b0.toNat : Int)) (h1 : a.tmps[i1]?.getD undef = .int .u8 (b1.toNat : Int)) (h2 : a.tmps[i2]?.getD undef = .int .u8 (b2.toNat : Int)) (h3 : a.tmps[i3]?.getD undef = .int .u8 (b3.toNat : Int))
    (hk : ∀ w' n, Bx4 w' n b0 b1 b2 b3 → Below w.heap.size w w' → K (a.put o.dst (.slice (some ⟨n, 0, none⟩) 4 4)) w') : if Region.wanted o (yielded ops a.tmps) = true then Oper.wp Tryz.prog o a w K Q else E := by
  rw [if_pos hw]
  have hk2 := hk (w.alloc (.cells #[.int .u8 (b0.toNat : Int), .int .u8 (b1.toNat : Int), .int .u8 (b2.toNat : Int), .int .u8 (b3.toNat : Int)] 5)) w.heap.size (Go.heap_alloc_new w _) ((Below.refl _ _).alloc (Nat.le_refl _) _)
  clear hk
  have ev : ∀ t v, a.tmps[t]?.getD undef = v → a.eval (.tmp t) = v := fun t v h => by
    show a.tmps.getD t undef = v
    rw [Array.getD_eq_getD_getElem?]
    exact h
  unfold Oper.wp
  unfold execOp
  rw [ho]
  have e : (#[(0, .tmp i0), (1, .tmp i1), (2, .tmp i2), (3, .tmp i3)] : Array (Nat × Operand)).map (fun (i, x) => (i, a.eval x)) = #[(0, .int .u8 (b0.toNat : Int)), (1, .int .u8 (b1.toNat : Int)), (2, .int .u8 (b2.toNat : Int)), (3, .int .u8 (b3.toNat : Int))] := by
    simp [ev _ _ h0, ev _ _ h1, ev _ _ h2, ev _ _ h3]
  simp only [e]
  go_simp
  exact hk2
theorem step_conv4 {w : World} {ops : Array Oper} {o : Oper} {a : Act} {K : Act → World → Prop} {Q : Exit → Act → World → Prop} {E : Prop} (hw : Region.wanted o (yielded ops a.tmps) = true) (i : Nat) (ho : o.op = .convert 159 9 (.tmp i)) (b0 b1 b2 b3 : UInt8) (n : Nat) (S : ByteArray) (hS : (⟨[b0, b1, b2, b3].toArray⟩ : ByteArray) = S) (hx : Bx4 w n b0 b1 b2 b3)
    (h0 : a.tmps[i]?.getD undef = .slice (some ⟨n, 0, none⟩) 4 4) (hk : K (a.put o.dst (.string S)) w) : if Region.wanted o (yielded ops a.tmps) = true then Oper.wp Tryz.prog o a w K Q else E := by
  rw [if_pos hw]
  have hr := hx.str
  rw [hS] at hr
  have hp' : a.eval (.tmp i) = .slice (some ⟨n, 0, none⟩) 4 4 := by
    show a.tmps.getD i undef = _
    rw [Array.getD_eq_getD_getElem?]
    exact h0
  unfold Oper.wp
  simp [execOp, ho, hp', hr, Result.andThen]
  exact hk
theorem ret_tmpF2 {fn : Func} {Rp : Ending → World → Prop} {a : Act} {w : World} (s t : Nat) (v u : Value) (hres : fn.results = #[.tmp s, .tmp t]) (hd : a.defers = []) (hv : a.tmps[s]?.getD undef = v) (hu : a.tmps[t]?.getD undef = u) (h : Rp (.returned (.tuple #[v, u])) w) : bodyPost Tryz.prog fn Rp .ret a w := by
  refine bodyPost_ret (v := .tuple #[v, u]) ?_ hd h
  simp [results, hres, hv, hu]
theorem step_spec_l01Var {w : World} {ops : Array Oper} {o : Oper} {a : Act} {K : Act → World → Prop} {Q : Exit → Act → World → Prop} {E : Prop} (hw : Region.wanted o (yielded ops a.tmps) = true) (i0 : Nat) (ts : Array TypeId) (ho : o.op = .call { callee := .value (.func 129), args := #[.tmp i0], argTypes := ts }) (v0 : Value) (P : Value → World → Prop) (h0 : a.tmps[i0]?.getD undef = v0)
    (hC : Calls Tryz.prog 129 #[v0] w fun e w' => ∃ r, e = .returned r ∧ P r w') (hk : ∀ r w', P r w' → K (a.put o.dst r) w') : if Region.wanted o (yielded ops a.tmps) = true then Oper.wp Tryz.prog o a w K Q else E := by
  rw [if_pos hw]
  unfold Oper.wp
  unfold execOp
  rw [ho]
  go_simp
  refine hC.mono ?_
  rintro e w' ⟨r, rfl, hp⟩
  exact hk r w' hp
end Go.Proofs.YthlgohplljcgfaaGreatDoor
/-
  The specification's reader: a number, where the reader has failed before.
-/
namespace Go.Proofs.YthlgohplljcgfaaGreatDoor
open Go.RowKit Go.BigFrame Go.Sort
set_option linter.unusedVariables false
set_option linter.unusedSimpArgs false

set_option maxRecDepth 100000 in
set_option maxHeartbeats 1000000 in
theorem l09Var_bad (c : Nat) (s : ByteArray) (p : Nat) (w : World) (h : Cu w c s p true) (hs : s.size ≤ 1048576) (hp : p ≤ s.size) :
    Calls Tryz.prog 70 #[.pointer (some ⟨c, 0, none⟩)] w fun e w' => (e = .returned (.int .i64 0) ∧ Cu w' c s p true) ∧ w.grownBy w' (some c) := by
  have c0 := h.c0
  have c1 := h.c1
  have H : Hid (Cu w c s p true) := h
  have hcl := h.lt
  clear h
  have HX : Hid (∃ (n q : Int) (b : Bool), ∀ W, Calls Tryz.prog 104 #[.string s, .int .i64 (p : Int)] W fun e w' => e = .returned (.tuple #[.int .i64 n, .int .i64 q, .bool b]) ∧ Below W.heap.size W w') := by
    show ∃ (n q : Int) (b : Bool), ∀ W, Calls Tryz.prog 104 #[.string s, .int .i64 (p : Int)] W fun e w' => e = .returned (.tuple #[.int .i64 n, .int .i64 q, .bool b]) ∧ Below W.heap.size W w'
    cases hr : M.readVar s.data.toList p with
    | none => exact ⟨0, 0, false, fun W => sReadVar_none s (p : Int) W hs (.inr ⟨by omega, by simpa using hr⟩)⟩
    | some z => obtain ⟨n, q⟩ := z; exact ⟨n, q, true, fun W => sReadVar_some s (p : Int) n q W hs (by omega) (by simpa using hr)⟩
  obtain ⟨n, q, b, h1⟩ := HX.out
  have H1 : Hid (∀ W, Calls Tryz.prog 104 #[.string s, .int .i64 (p : Int)] W fun e w' => e = .returned (.tuple #[.int .i64 n, .int .i64 q, .bool b]) ∧ Below W.heap.size W w') := h1
  clear HX h1
  go_enter Tryz.func70, Tryz.ntmps70
  go_wp2
  have kq0 := cell_regrown (w := w) c0
  have kq1 := cell_regrown (w := w) c1
  have cq0 := fun d os => Calls.regrown_of (w := w) (d := d) (os := os) (H1.out _)
  refine wp_region_quiet_below (by kernel_rfl) (by kernel_rfl) ?_
  repeat (go_big_quiet_step (first | with_reducible exact cq0 _ _))
  refine wpQuiet_nil ?_
  rintro _ ⟨⟨dq, osq⟩, rfl⟩
  have hb6 := below_regrown (w) dq osq
  generalize grow (redrawn (w) dq) osq = w6 at *
  clear kq0 kq1 cq0
  have h6 := H.out.later hb6
  have d2 := h6.c2
  have g2 := h6.f2
  have hcl6 := h6.lt
  have HF : Hid (Cu (w6.setCell ⟨c, 2, none⟩ (.bool true)) c s p true ∧ w.grownBy (w6.setCell ⟨c, 2, none⟩ (.bool true)) (some c)) := ⟨h6.bad, (grown_below hb6).trans (grown_setC w6 c 2 _)⟩
  clear h6 hb6 H H1 c0 c1
  go_wp2
  go_ret
  exact ⟨⟨rfl, HF.out.1⟩, HF.out.2⟩

end Go.Proofs.YthlgohplljcgfaaGreatDoor
/-
  A letter read from its text: the specification's answer.
-/
namespace Go.Proofs.YthlgohplljcgfaaGreatDoor
open Go.RowKit Go.BigFrame Go.Sort
set_option linter.unusedVariables false
set_option linter.unusedSimpArgs false

/-- one byte read at a cursor, whether there is one or not -/
theorem l09Byte_w (c : Nat) (s : ByteArray) (p : Nat) (b : Bool) (w : World) (h : Cu w c s p b) (hs : s.size ≤ 1048576) (hp : p ≤ s.size) :
    Calls Tryz.prog 66 #[.pointer (some ⟨c, 0, none⟩)] w fun e w' => ∃ (v : Int) (r : Nat) (b' : Bool), e = .returned (.int .i64 v) ∧ Cu w' c s r b' ∧ r ≤ s.size ∧ (b' = false → b = false ∧ p < s.size ∧ v = ((byB s p).toNat : Int) ∧ r = p + 1) ∧ (b' = true → b = true ∨ p = s.size) ∧ w.grownBy w' (some c) := by
  by_cases hno : b = true ∨ p = s.size
  · exact (l09Byte_no c s p b w h hs hp hno).mono fun e w' ⟨⟨he, hc⟩, hg⟩ => ⟨0, p, true, he, hc, hp, fun h => (by cases h), fun _ => hno, hg⟩
  · have hb : b = false := by cases b; rfl; exact absurd (.inl rfl) hno
    subst hb
    have hlt : p < s.size := by rcases Nat.lt_or_ge p s.size with h | h; exact h; exact absurd (.inr (by omega)) hno
    exact (l09Byte_yes c s p w h hs hlt).mono fun e w' ⟨⟨he, hc⟩, hg⟩ => ⟨_, p + 1, false, he, hc, hlt, fun _ => ⟨rfl, hlt, rfl, rfl⟩, fun h => (by cases h), hg⟩
/-- a number read at a cursor -/
theorem l09Var_w (c : Nat) (s : ByteArray) (p : Nat) (b : Bool) (w : World) (h : Cu w c s p b) (hs : s.size ≤ 1048576) (hp : p ≤ s.size) :
    Calls Tryz.prog 70 #[.pointer (some ⟨c, 0, none⟩)] w fun e w' => ∃ (n r : Nat) (b' : Bool), e = .returned (.int .i64 (n : Int)) ∧ Cu w' c s r b' ∧ r ≤ s.size ∧ (b' = false → b = false ∧ M.readVar s.data.toList p = some (n, r)) ∧ (b' = true → b = true ∨ M.readVar s.data.toList p = none) ∧ w.grownBy w' (some c) := by
  cases b with
  | true => exact (l09Var_bad c s p w h hs hp).mono fun e w' ⟨⟨he, hc⟩, hg⟩ => ⟨0, p, true, he, hc, hp, fun h => (by cases h), fun _ => .inl rfl, hg⟩
  | false =>
    refine (l09Var_at c s p w h hs hp).mono ?_
    rintro e w' ⟨hm, hg⟩
    cases hr : M.readVar s.data.toList p with
    | none => rw [hr] at hm; exact ⟨0, p, true, hm.1, hm.2, hp, fun h => (by cases h), fun _ => .inr rfl, hg⟩
    | some y =>
      obtain ⟨n, q⟩ := y
      rw [hr] at hm
      exact ⟨n, q, false, hm.1, hm.2, (read_bound s p n q hr).1, fun _ => ⟨rfl, rfl⟩, fun h => (by cases h), hg⟩

namespace VV
/-- what five readings one after the other say -/
theorem five {t s : ByteArray} {b0 b1 b2 b3 b4 b5 : Bool} {v0 v1 v2 v3 : Int} {p1 p2 p3 p4 n q : Nat} (h0 : b0 = false → uns t = some s) (k0 : b0 = true → uns t = none)
    (h1 : b1 = false → b0 = false ∧ 0 < s.size ∧ v0 = ((byB s 0).toNat : Int) ∧ p1 = 0 + 1) (k1 : b1 = true → b0 = true ∨ 0 = s.size)
    (h2 : b2 = false → b1 = false ∧ p1 < s.size ∧ v1 = ((byB s p1).toNat : Int) ∧ p2 = p1 + 1) (k2 : b2 = true → b1 = true ∨ p1 = s.size)
    (h3 : b3 = false → b2 = false ∧ p2 < s.size ∧ v2 = ((byB s p2).toNat : Int) ∧ p3 = p2 + 1) (k3 : b3 = true → b2 = true ∨ p2 = s.size)
    (h4 : b4 = false → b3 = false ∧ p3 < s.size ∧ v3 = ((byB s p3).toNat : Int) ∧ p4 = p3 + 1) (k4 : b4 = true → b3 = true ∨ p3 = s.size)
    (h5 : b5 = false → b4 = false ∧ M.readVar s.data.toList p4 = some (n, q)) (k5 : b5 = true → b4 = true ∨ M.readVar s.data.toList p4 = none) :
    (b5 = true → rd t = none) ∧ (b5 = false → uns t = some s ∧ raw s = some ⟨v0, v1, v2, v3, (n : Int), s.extract q s.size⟩) := by
  have a1 : b1 = true → rd t = none := fun h => by
    cases b0 with
    | true => exact rd_no1 (k0 rfl)
    | false => rcases k1 h with h | h; cases h; exact rd_no2 (h0 rfl) (raw_no1 (by omega))
  have a2 : b2 = true → rd t = none := fun h => by
    cases b1 with
    | true => exact a1 rfl
    | false =>
      obtain ⟨e0, _, _, e1⟩ := h1 rfl
      rcases k2 h with h | h; cases h; exact rd_no2 (h0 e0) (raw_no1 (by omega))
  have a3 : b3 = true → rd t = none := fun h => by
    cases b2 with
    | true => exact a2 rfl
    | false =>
      obtain ⟨f1, _, _, e2⟩ := h2 rfl
      obtain ⟨e0, _, _, e1⟩ := h1 f1
      rcases k3 h with h | h; cases h; exact rd_no2 (h0 e0) (raw_no1 (by omega))
  have a4 : b4 = true → rd t = none := fun h => by
    cases b3 with
    | true => exact a3 rfl
    | false =>
      obtain ⟨f2, _, _, e3⟩ := h3 rfl
      obtain ⟨f1, _, _, e2⟩ := h2 f2
      obtain ⟨e0, _, _, e1⟩ := h1 f1
      rcases k4 h with h | h; cases h; exact rd_no2 (h0 e0) (raw_no1 (by omega))
  refine ⟨fun h => ?_, fun h => ?_⟩
  · cases b4 with
    | true => exact a4 rfl
    | false =>
      obtain ⟨f3, _, _, e4⟩ := h4 rfl
      obtain ⟨f2, _, _, e3⟩ := h3 f3
      obtain ⟨f1, _, _, e2⟩ := h2 f2
      obtain ⟨e0, _, _, e1⟩ := h1 f1
      have ep : p4 = 4 := by omega
      rw [ep] at k5
      rcases k5 h with h | h
      · cases h
      · exact rd_no2 (h0 e0) (raw_no2 h)
  · obtain ⟨f4, hv⟩ := h5 h
    obtain ⟨f3, l4, g3, e4⟩ := h4 f4
    obtain ⟨f2, l3, g2, e3⟩ := h3 f3
    obtain ⟨f1, l2, g1, e2⟩ := h2 f2
    obtain ⟨e0, l1, g0, e1⟩ := h1 f1
    have ep : p4 = 4 := by omega
    have ep3 : p3 = 3 := by omega
    have ep2 : p2 = 2 := by omega
    have ep1 : p1 = 1 := by omega
    rw [ep] at hv
    refine ⟨h0 e0, ?_⟩
    rw [raw_yes (by omega) hv, g0, g1, g2, g3, ep1, ep2, ep3]
end VV

section
variable {s : ByteArray} {c : Nat} {w W W' : World} {g p q : Nat} {x : Ltr} {b b' : Bool}
end

end Go.Proofs.YthlgohplljcgfaaGreatDoor
