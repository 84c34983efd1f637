/-
  A frame of which some slots are known: the steps of a region that draws its order, the frame left open.
-/
import Derived.Test.YtodibhiinfbhiaaDoorFw
import Derived.Deep.RegionHeld
import Derived.Deep.MidRow
namespace Go.Proofs.YtodibhiinfbhiaaDoor
open Go.RowKit Go.BigFrame Go.Sort
set_option linter.unusedVariables false
set_option linter.unusedSimpArgs false

/-- a frame of m slots, no call put off; what some slots hold -/
def FR (m : Nat) (a : Act) (l : List (Nat × Value)) : Prop := a.tmps.size = m ∧ a.defers = [] ∧ ∀ p ∈ l, a.tmps[p.1]? = some p.2
theorem FR.at {m : Nat} {a : Act} {l : List (Nat × Value)} (h : FR m a l) (t : Nat) (v : Value) (hm : (t, v) ∈ l) : a.tmps[t]? = some v := h.2.2 _ hm
theorem FR.get {m : Nat} {a : Act} {l : List (Nat × Value)} (h : FR m a l) (t : Nat) (v : Value) (hm : (t, v) ∈ l) : a.tmps[t]?.getD undef = v := by rw [h.at t v hm]; rfl
theorem FR.eval {m : Nat} {a : Act} {l : List (Nat × Value)} (h : FR m a l) (t : Nat) (v : Value) (hm : (t, v) ∈ l) : a.eval (.tmp t) = v := by
  show a.tmps.getD t undef = v
  rw [Array.getD_eq_getD_getElem?]
  exact h.get t v hm
theorem FR.put {m : Nat} {a : Act} {l : List (Nat × Value)} (h : FR m a l) (d : Nat) (v : Value) (hd : d < m) (hn : ∀ p ∈ l, p.1 ≠ d) : FR m (a.put (some d) v) ((d, v) :: l) := by
  unfold Act.put
  refine ⟨by simpa using h.1, h.2.1, fun p hp => ?_⟩
  rcases List.mem_cons.1 hp with rfl | hp
  · simp [h.1, hd]
  · have := hn p hp
    simp only
    rw [Array.getElem?_setIfInBounds_ne (fun e => this e.symm)]
    exact h.2.2 p hp
/-- what was put into a slot is known of the frame behind it -/
theorem openK {K : Act → World → Prop} {o : Oper} {m : Nat} {a : Act} {l : List (Nat × Value)} {v : Value} {w : World} (d : Nat) (hd : o.dst = some d) (F : FR m a l) (hlt : d < m) (hn : ∀ p ∈ l, p.1 ≠ d) (h : ∀ a', FR m a' ((d, v) :: l) → K a' w) : K (a.put o.dst v) w := by
  rw [hd]
  exact h _ (F.put d v hlt hn)
theorem takeF {ops : Array Oper} {md : Region.Mode} {Q : Exit → Act → World → Prop} {S : World → Prop} {i : Nat} {oi : Oper} {v : Value} {fuel m : Nat} {listed : Array Bool} {a : Act} {w : World} {l : List (Nat × Value)} (hi : ops[i]? = some oi)
    (hs : Region.noSelect ops = true) (hf : Region.free md ops listed i = true) (hr : (Region.ready md ops listed).contains i = true)
    (hQ : ∀ c a w, Q (.panic c) (a.put oi.dst v) w → Q (.panic c) a w) (hy : YieldsIf Tryd.prog ops S oi v a) (hS : S w) (d : Nat) (hd : oi.dst = some d) (F : FR m a l) (hlt : d < m) (hn : ∀ p ∈ l, p.1 ≠ d)
    (h : ∀ a', FR m a' ((d, v) :: l) → wpAnyH Tryd.prog md ops Q S fuel (listed.setIfInBounds i true) a' w) : wpAnyH Tryd.prog md ops Q S (fuel + 1) listed a w :=
  wpAnyH_take hi hs hf hr hQ hy hS (by rw [hd]; exact h _ (F.put d v hlt hn))
theorem wp_abs {c : Go.Code} {Q : Exit → Act → World → Prop} {a0 : Act} {w : World} (R : Act → Prop) (h0 : R a0) (h : ∀ a, R a → c.wp Tryd.prog Q a w) : c.wp Tryd.prog Q a0 w := h a0 h0
theorem wanted_of {ops : Array Oper} {o : Oper} {tmps : Array Value} (j : Nat) (b : Bool) (d : Nat) (hg : o.guard = some (j, b)) (hd : ((ops[j]?).bind (·.dst)) = some d) (ht : tmps[d]? = some (.bool b)) : Region.wanted o (yielded ops tmps) = true := by
  simp [Region.wanted, yielded, hg, hd, ht]
theorem ret_tmpF {fn : Func} {Rp : Ending → World → Prop} {a : Act} {w : World} (s : Nat) (v : Value) (hres : fn.results = #[.tmp s]) (hd : a.defers = []) (hv : a.tmps[s]?.getD undef = v) (h : Rp (.returned v) w) : bodyPost Tryd.prog fn Rp .ret a w := by
  refine bodyPost_ret (v := v) ?_ hd h
  simp [results, hres, hv]
/-- a frame of which all slots are known -/
theorem FR.close {m : Nat} {a : Act} {l : List (Nat × Value)} (h : FR m a l) (vs : List Value) (hl : vs.length = m) (hv : ∀ i, (hi : i < vs.length) → a.tmps[i]? = some vs[i]) : a = ⟨vs.toArray, []⟩ := by
  obtain ⟨h1, h2, _⟩ := h
  cases a with
  | mk t d =>
    simp only at h1 h2 hv
    subst h2
    congr 1
    apply Array.ext
    · rw [h1, List.size_toArray, hl]
    · intro i hi1 hi2
      have := hv i (by simpa using hi2)
      rw [Array.getElem?_eq_getElem hi1] at this
      rw [Option.some.inj this]
      simp
theorem unwanted_of {ops : Array Oper} {o : Oper} {tmps : Array Value} (j : Nat) (b : Bool) (d : Nat) (hg : o.guard = some (j, b)) (hd : ((ops[j]?).bind (·.dst)) = some d) (ht : tmps[d]? = some (.bool (!b))) : Region.wanted o (yielded ops tmps) = false := by
  cases b <;> simp_all [Region.wanted, yielded]

/-- a contract with one answer, in the form that the steps of calls take -/
theorem Calls.ret1 {f : Nat} {args : Array Value} {w : World} {v : Value} (h : Calls Tryd.prog f args w fun e w' => e = .returned v ∧ Below w.heap.size w w') : Calls Tryd.prog f args w fun e w' => ∃ r, e = .returned r ∧ (r = v ∧ Below w.heap.size w w') :=
  h.mono fun _ _ ⟨he, hb⟩ => ⟨_, he, rfl, hb⟩

end Go.Proofs.YtodibhiinfbhiaaDoor
