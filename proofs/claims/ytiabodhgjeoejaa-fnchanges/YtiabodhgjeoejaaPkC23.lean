/-
  Texts laid together: Cj, Sm, Fro.
-/
import Derived.Test.YtiabodhgjeoejaaPkC19
import Derived.Test.YtiabodhgjeoejaaPkC22
import Derived.Test.YtiabodhgjeoejaaPkC20
import Derived.Test.YtiabodhgjeoejaaPkC9
import Derived.Lib.QuietBelow
import Derived.Laws.StructEq
import Derived.Test.YtiabodhgjeoejaaPkC2
import Derived.Deep.RegionHeld
import Derived.Deep.MidRow
/-
  Changes done one behind the other: the program's answer.
-/
namespace Go.Proofs.Ytiabodhgjeoejaa
open Go.RowKit Go.BigFrame Go.Sort
set_option linter.unusedVariables false
set_option linter.unusedSimpArgs false

set_option maxRecDepth 100000 in
set_option maxHeartbeats 1000000 in
theorem ApplyAll_any (v : Value) (ga oa : Nat) (L : List Le) (q : Value) (gq oq : Nat) (A : List Ug) (w : World) (hv : RS 2 lcs w v ga oa L) (hsm : SmallL L) (hq : RS 3 ucs w q gq oq A) (hA : ∀ x ∈ A, x.n.size ≤ 1048576 ∧ x.v.size ≤ 1048576) :
    Calls Try.prog 12 #[v, q] w (ApP (UV.apA L A) w) := by
  have hc := leavesCopy_any v ga oa L w hv hsm
  have HQ : Hid (RS 3 ucs w q gq oq A) := hq
  have HSM : Hid (∀ m (h : m < A.length), SmallL (UV.apA L (A.take m)) ∧ (A[m]'h).n.size ≤ 1048576 ∧ (A[m]'h).v.size ≤ 1048576) := fun m h => ⟨small_apA hsm hA m, hA _ (List.getElem_mem h)⟩
  obtain ⟨aq, cq, rfl, hlq, hAq, _⟩ := hq
  obtain ⟨n, hn⟩ : ∃ n, A.length = n := ⟨_, rfl⟩
  have HA : Hid (0 < n → aq = some ⟨gq, oq, none⟩) := by rw [← hn]; exact fun h => (hAq h).1
  rw [hn] at hlq HQ ⊢
  clear hv hsm hA hAq
  go_enter Try.func12, Try.ntmps12
  go_wp2_with fail
  refine hc.mono ?_
  rintro e w1 ⟨g1, rfl, hg1, hr1, hb1⟩
  have HST : Hid (AaR w L A (.slice (some ⟨g1, 0, none⟩) L.length L.length) (.int .i64 0) w1) := ⟨0, _, _, Nat.zero_le _, rfl, rfl, ⟨g1, hr1, hg1, hb1⟩⟩
  clear hc hg1 hr1 hb1
  go_wp2
  go_loopw [5, 12] (fun u i wr => AaR w L A u i wr) (fun _ i _ => n - (intOf i).toNat)
  case atStart => exact HST.out
  case round =>
    obtain ⟨m, au, cu, hm, rfl, rfl, HI⟩ := hrel
    clear HST
    rw [hn] at hm
    obtain ⟨gu, hru, hgu, hbu⟩ := HI.out
    by_cases hlt : m < n
    · have ea := HA.out (by omega)
      subst ea
      obtain ⟨c0, c1, c2⟩ := (HQ.out.later hbu).chg m (by omega)
      have hs := HSM.out m (by omega)
      have hst := UV.apA_step L A (m := m) (by omega)
      obtain ⟨X, hX⟩ : ∃ X, A[m]'(by omega) = X := ⟨_, rfl⟩
      rw [hX] at c0 c1 c2 hs hst
      have HC := hide (fun W (hW : Below wr.heap.size wr W) => ApplyChange_any _ gu 0 _ X W (hru.1.later hW) hs.1 hs.2.1 hs.2.2)
      have HJ : Hid (UV.apA L (A.take (m + 1)) = UV.apU (UV.apA L (A.take m)) X) := hst
      have HB : Hid (Below w.heap.size w wr) := hbu
      have i1 : (m : Int) < (n : Int) := by omega
      have i2 : (0 : Int) ≤ (m : Int) := by omega
      have hba : Below wr.heap.size wr (wr.alloc (.cells #[.int .i64 X.i, .string X.n, .string X.v] 31)) := (Below.refl _ _).alloc (Nat.le_refl _) _
      generalize UV.apA L (A.take m) = M at *
      clear HI hru hgu hbu hs hst hX HQ HA HSM
      generalize M.length = k at *
      obtain ⟨x0, x1, x2⟩ := X
      simp only at c0 c1 c2 HC hba
      go_wp2_with fail
      refine (HC.out _ hba).mono ?_
      rintro e w2 ⟨a2, c2', g2, rfl, hr2, hg2, hb2⟩
      have hb3 : Below wr.heap.size wr w2 := hba.trans (hb2.mono hba.size)
      have HK : Hid (UV.apA L (A.take (m + 1)) = UV.apU M ⟨x0, x1, x2⟩ ∧ AaS w (UV.apU M ⟨x0, x1, x2⟩) (.slice a2 (UV.apU M ⟨x0, x1, x2⟩).length c2') w2) := ⟨HJ.out, g2, hr2, by have := HB.out.size; have := hba.size; omega, HB.out.trans (hb3.mono HB.out.size)⟩
      clear HC HJ HB hr2 hg2 hb2 hb3 hba c0 c1 c2
      generalize UV.apU M ⟨x0, x1, x2⟩ = M2 at *
      go_wp2
      go_roundw
      case rel => exact ⟨m + 1, a2, c2', by omega, by go_num, by rw [HK.out.1], by rw [HK.out.1]; exact HK.out.2⟩
      case measure => simp [intOf]; omega
    · have hme : m = n := by omega
      subst hme
      have hall : UV.apA L (A.take m) = UV.apA L A := by rw [← hn]; exact UV.apA_all L A
      have HE : Hid (ApP (UV.apA L A) w (.returned (.slice au (UV.apA L (A.take m)).length cu)) wr) := by
        rw [← hall]
        exact ⟨au, cu, gu, rfl, hru, hgu, hbu⟩
      clear HI hru hgu hbu hall HQ HA HSM
      go_wp2
      go_ret
      exact HE.out

end Go.Proofs.Ytiabodhgjeoejaa
/-
  Two lists of leaves held against one another by the laws.
-/
namespace Go.Proofs.Ytiabodhgjeoejaa
open Go.RowKit Go.BigFrame Go.Sort
set_option linter.unusedVariables false
set_option linter.unusedSimpArgs false

/-- two leaves compared as values -/
theorem neqL (a b : ByteArray) (w : World) : (binOp .neq 73 (.agg #[.string a, .string b]) (.agg #[.string a, .string b])).run Try.prog w = .ok (.bool false) w := by
  have u9 := Try.underlying9
  have a9 := Try.isAgg9
  have z9 := Try.sizeOf9
  have hS : Try.prog.underlying 73 = some (.struct (Try.prog.fieldsOf 73)) := by kernel_rfl
  have hp : Try.prog.stoodInHeld 73 = false := by kernel_rfl
  rw [run_neq_struct, show (10000 : Nat) = 9999 + 1 from rfl, run_equalIn_agg w 9999 73 _ _ hS hp]
  simp only [Program.fieldsOf, Try.underlying73]
  go_simp
theorem guardL : Try.prog.eqGuardType Try.prog.depth 73 = false := by kernel_rfl

set_option maxRecDepth 100000 in
set_option maxHeartbeats 400000 in
theorem sameLeaves_yes (u v : Value) (ga oa gb ob : Nat) (l : List Le) (w : World) (hu : RS 2 lcs w u ga oa l) (hv : RS 2 lcs w v gb ob l) :
    Calls Try.prog 20 #[u, v] w fun e w' => e = .returned (.bool true) ∧ Below w.heap.size w w' := by
  have HU : Hid (RS 2 lcs w u ga oa l) := hu
  have HV : Hid (RS 2 lcs w v gb ob l) := hv
  obtain ⟨a, cap, rfl, hl, hA, _⟩ := hu
  obtain ⟨b, cap2, rfl, _, hB, _⟩ := hv
  obtain ⟨n, hn⟩ : ∃ n, l.length = n := ⟨_, rfl⟩
  have HA : Hid (0 < n → a = some ⟨ga, oa, none⟩ ∧ b = some ⟨gb, ob, none⟩) := by rw [← hn]; exact fun h => ⟨(hA h).1, (hB h).1⟩
  rw [hn] at hl ⊢
  clear hA hB
  have hgd := guardL
  go_enter Try.func20, Try.ntmps20
  go_wp2
  go_loopw [5] (fun i wr => ElR n w i wr) (fun i _ => n - (intOf i).toNat)
  case atStart => exact ⟨0, by omega, rfl, Below.refl _ _⟩
  case round =>
    obtain ⟨m, hm, rfl, hbel⟩ := hrel
    by_cases hlt : m < n
    · obtain ⟨ea, eb⟩ := HA.out (by omega)
      subst ea
      subst eb
      obtain ⟨c0, c1⟩ := (HU.out.later hbel).leaf m (by omega)
      obtain ⟨e0, e1⟩ := (HV.out.later hbel).leaf m (by omega)
      generalize l[m]'(by omega) = X at *
      have i1 : (m : Int) < (n : Int) := by omega
      have i2 : (0 : Int) ≤ (m : Int) := by omega
      have hneq := neqL X.n X.v
      clear HU HV HA
      go_wp2
      have kq0 := cell_regrown (w := wr) c0
      have kq1 := cell_regrown (w := wr) c1
      have kq3 := cell_regrown (w := wr) e0
      have kq4 := cell_regrown (w := wr) e1
      refine wp_region_quiet_below (by kernel_rfl) (by kernel_rfl) ?_
      repeat (go_big_quiet_step (fail))
      refine wpQuiet_nil ?_
      rintro _ ⟨⟨dq, osq⟩, rfl⟩
      have hb6 := below_regrown (wr) dq osq
      generalize grow (redrawn (wr) dq) osq = w6 at *
      clear kq0 kq1 kq3 kq4
      go_wp2
      go_roundw
      case rel => exact ⟨m + 1, by omega, by go_num, hbel.trans (hb6.mono hbel.size)⟩
      case measure => simp [intOf]; omega
    · have hme : m = n := by omega
      subst hme
      clear HU HV HA
      go_wp2
      go_ret
      exact ⟨rfl, hbel⟩

end Go.Proofs.Ytiabodhgjeoejaa
/-
  A frame of which some slots are known: the steps of a region that draws its order, the frame left open.
-/
namespace Go.Proofs.Ytiabodhgjeoejaa
open Go.RowKit Go.BigFrame Go.Sort
set_option linter.unusedVariables false
set_option linter.unusedSimpArgs false

/-- a frame of m slots, no call put off; what some slots hold -/
def FR (m : Nat) (a : Act) (l : List (Nat × Value)) : Prop := a.tmps.size = m ∧ a.defers = [] ∧ ∀ p ∈ l, a.tmps[p.1]? = some p.2
theorem FR.at {m : Nat} {a : Act} {l : List (Nat × Value)} (h : FR m a l) (t : Nat) (v : Value) (hm : (t, v) ∈ l) : a.tmps[t]? = some v := h.2.2 _ hm
theorem FR.get {m : Nat} {a : Act} {l : List (Nat × Value)} (h : FR m a l) (t : Nat) (v : Value) (hm : (t, v) ∈ l) : a.tmps[t]?.getD undef = v := by rw [h.at t v hm]; rfl
theorem FR.eval {m : Nat} {a : Act} {l : List (Nat × Value)} (h : FR m a l) (t : Nat) (v : Value) (hm : (t, v) ∈ l) : a.eval (.tmp t) = v := by
  show a.tmps.getD t undef = v
  rw [Array.getD_eq_getD_getElem?]
  exact h.get t v hm
theorem FR.put {m : Nat} {a : Act} {l : List (Nat × Value)} (h : FR m a l) (d : Nat) (v : Value) (hd : d < m) (hn : ∀ p ∈ l, p.1 ≠ d) : FR m (a.put (some d) v) ((d, v) :: l) := by
  unfold Act.put
  refine ⟨by simpa using h.1, h.2.1, fun p hp => ?_⟩
  rcases List.mem_cons.1 hp with rfl | hp
  · simp [h.1, hd]
  · have := hn p hp
    simp only
    rw [Array.getElem?_setIfInBounds_ne (fun e => this e.symm)]
    exact h.2.2 p hp
/-- what was put into a slot is known of the frame behind it -/
theorem openK {K : Act → World → Prop} {o : Oper} {m : Nat} {a : Act} {l : List (Nat × Value)} {v : Value} {w : World} (d : Nat) (hd : o.dst = some d) (F : FR m a l) (hlt : d < m) (hn : ∀ p ∈ l, p.1 ≠ d) (h : ∀ a', FR m a' ((d, v) :: l) → K a' w) : K (a.put o.dst v) w := by
  rw [hd]
  exact h _ (F.put d v hlt hn)
theorem takeF {ops : Array Oper} {md : Region.Mode} {Q : Exit → Act → World → Prop} {S : World → Prop} {i : Nat} {oi : Oper} {v : Value} {fuel m : Nat} {listed : Array Bool} {a : Act} {w : World} {l : List (Nat × Value)} (hi : ops[i]? = some oi)
    (hs : Region.noSelect ops = true) (hf : Region.free md ops listed i = true) (hr : (Region.ready md ops listed).contains i = true)
    (hQ : ∀ c a w, Q (.panic c) (a.put oi.dst v) w → Q (.panic c) a w) (hy : YieldsIf Try.prog ops S oi v a) (hS : S w) (d : Nat) (hd : oi.dst = some d) (F : FR m a l) (hlt : d < m) (hn : ∀ p ∈ l, p.1 ≠ d)
    (h : ∀ a', FR m a' ((d, v) :: l) → wpAnyH Try.prog md ops Q S fuel (listed.setIfInBounds i true) a' w) : wpAnyH Try.prog md ops Q S (fuel + 1) listed a w :=
  wpAnyH_take hi hs hf hr hQ hy hS (by rw [hd]; exact h _ (F.put d v hlt hn))
theorem wp_abs {c : Go.Code} {Q : Exit → Act → World → Prop} {a0 : Act} {w : World} (R : Act → Prop) (h0 : R a0) (h : ∀ a, R a → c.wp Try.prog Q a w) : c.wp Try.prog Q a0 w := h a0 h0
theorem wanted_of {ops : Array Oper} {o : Oper} {tmps : Array Value} (j : Nat) (b : Bool) (d : Nat) (hg : o.guard = some (j, b)) (hd : ((ops[j]?).bind (·.dst)) = some d) (ht : tmps[d]? = some (.bool b)) : Region.wanted o (yielded ops tmps) = true := by
  simp [Region.wanted, yielded, hg, hd, ht]
theorem ret_tmpF {fn : Func} {Rp : Ending → World → Prop} {a : Act} {w : World} (s : Nat) (v : Value) (hres : fn.results = #[.tmp s]) (hd : a.defers = []) (hv : a.tmps[s]?.getD undef = v) (h : Rp (.returned v) w) : bodyPost Try.prog fn Rp .ret a w := by
  refine bodyPost_ret (v := v) ?_ hd h
  simp [results, hres, hv]
theorem unwanted_of {ops : Array Oper} {o : Oper} {tmps : Array Value} (j : Nat) (b : Bool) (d : Nat) (hg : o.guard = some (j, b)) (hd : ((ops[j]?).bind (·.dst)) = some d) (ht : tmps[d]? = some (.bool (!b))) : Region.wanted o (yielded ops tmps) = false := by
  cases b <;> simp_all [Region.wanted, yielded]

/-- a contract with one answer, in the form that the steps of calls take -/
theorem Calls.ret1 {f : Nat} {args : Array Value} {w : World} {v : Value} (h : Calls Try.prog f args w fun e w' => e = .returned v ∧ Below w.heap.size w w') : Calls Try.prog f args w fun e w' => ∃ r, e = .returned r ∧ (r = v ∧ Below w.heap.size w w') :=
  h.mono fun _ _ ⟨he, hb⟩ => ⟨_, he, rfl, hb⟩

end Go.Proofs.Ytiabodhgjeoejaa
