/-
  What l06Acts draws: some acts whose texts are short.
-/
import Derived.Test.YtbmlphlknolieaaKm
import Derived.Test.YtbmlphlknolieaaKi
import Derived.Test.YtbmlphlknolieaaKk
import Derived.Test.YtbmlphlknolieaaSj
namespace Go.Proofs.Ytbmlphlknolieaa
open Go.RowKit Go.BigFrame Go.Sort
set_option linter.unusedVariables false
set_option linter.unusedSimpArgs false

def ShA (A : List Ac) : Prop := ∀ a ∈ A, a.n.size ≤ 9 ∧ a.t.size ≤ 9 ∧ a.o.size ≤ 9
theorem ShA.app {A : List Ac} (h : ShA A) {a : Ac} (ha : a.n.size ≤ 9 ∧ a.t.size ≤ 9 ∧ a.o.size ≤ 9) : ShA (A ++ [a]) := fun b hb => by
  rcases List.mem_append.1 hb with hb | hb
  · exact h b hb
  · simp at hb
    subst hb
    exact ha

/-- a cursor, a disk in its box, a row of acts of its own -/
def AsS (B : Nat) (w0 w : World) (g : Nat) (v : Value) (p : Nat) (s : Value) (q : Nat) (L : List Fl) (u : Value) (A : List Ac) (W : World) : Prop :=
  Cur B w0 W g v ∧ w.grownBy W (some g) ∧ BD W p 26 s ∧ RS 3 fcs W s q 0 L ∧ W.ownsRow w.heap.size 45 4 u A.length (A.flatMap acs) ∧ (w.heap.size ≤ p ∧ g < w.heap.size ∧ B ≤ w.heap.size) ∧ (0 < L.length → q ≠ g ∧ q ≠ p) ∧ (A = [] → 0 < L.length → q < w.heap.size)
section
variable {B : Nat} {w0 w : World} {g : Nat} {v : Value} {p : Nat} {s : Value} {q : Nat} {L : List Fl} {u : Value} {A : List Ac} {W W' : World}
theorem AsS.size (h : AsS B w0 w g v p s q L u A W) : w.heap.size ≤ W.heap.size := h.2.1.size
theorem AsS.call (h : AsS B w0 w g v p s q L u A W) (hc : Cur B w0 W' g v) (hg : W.grownBy W' (some g)) : AsS B w0 w g v p s q L u A W' := by
  obtain ⟨q1, q2, q3⟩ := h.2.2.2.2.2.1
  refine ⟨hc, h.2.1.trans hg, h.2.2.1.grown hg (by simp; omega), h.2.2.2.1.grown hg (fun h0 => by have := (h.2.2.2.2.2.2.1 h0).1; simpa using this), h.2.2.2.2.1.kept hg (.inr fun e => ?_), h.2.2.2.2.2⟩
  have := (h.2.2.2.2.1.lt g e).1
  omega
theorem AsS.below (h : AsS B w0 w g v p s q L u A W) (hb : Below W.heap.size W W') : AsS B w0 w g v p s q L u A W' :=
  h.call (h.1.kept (row := none) (grown_below hb) (by simp) h.1.size (fun k hk => by cases hk)) (grown_below hb)
theorem AsS.rowne (h : AsS B w0 w g v p s q L u A W) (h0 : 0 < L.length) : some q ≠ u.ownBlock := by
  intro e
  cases A with
  | nil =>
    have h1 := h.2.2.2.2.2.2.2 rfl h0
    have h2 := (h.2.2.2.2.1.lt q e.symm).1
    omega
  | cons a r =>
    have h1 := h.2.2.2.2.1.cells e.symm 0 (.int .i64 a.k) (by simp [acs])
    have h2 := (h.2.2.2.1.file 0 h0).1
    have e2 : (⟨q, 0, none⟩ : Addr).add 0 = ⟨q, 0, none⟩ := by unfold Addr.add; simp
    rw [e2] at h1
    simp only [Nat.zero_mul, Nat.add_zero] at h2
    rw [h1] at h2
    cases h2
theorem act_ne {W : World} {B : Nat} {u s : Value} {A : List Ac} {p : Nat} (h : W.ownsRow B 45 4 u A.length (A.flatMap acs)) (hb : BD W p 26 s) : some p ≠ u.ownBlock := by
  intro e
  rcases h.2 with ⟨hv, _⟩ | ⟨g', cap, cur, hv, _, hg, _⟩
  · rw [hv] at e; simp [Value.ownBlock] at e
  · rw [hv] at e
    have : p = g' := by simpa [Value.ownBlock] using e
    subst this
    have e2 := (show W.heap[p]? = some (.cells #[s] 26 (0, 0)) from hb).symm.trans hg
    simp at e2
theorem AsS.pne (h : AsS B w0 w g v p s q L u A W) : some p ≠ u.ownBlock := by
  intro e
  rcases h.2.2.2.2.1.2 with ⟨hv, _⟩ | ⟨g', cap, cur, hv, _, hg, _⟩
  · rw [hv] at e; simp [Value.ownBlock] at e
  · rw [hv] at e
    have : p = g' := by simpa [Value.ownBlock] using e
    subst this
    have e2 := (show W.heap[p]? = some (.cells #[s] 26 (0, 0)) from h.2.2.1).symm.trans hg
    simp at e2
/-- an act is appended -/
theorem AsS.app (h : AsS B w0 w g v p s q L u A W) (hg : W.grownBy W' u.ownBlock) {u' : Value} {a : Ac} (ho : W'.ownsRow w.heap.size 45 4 u' (A ++ [a]).length ((A ++ [a]).flatMap acs)) : AsS B w0 w g v p s q L u' (A ++ [a]) W' := by
  obtain ⟨q1, q2, q3⟩ := h.2.2.2.2.2.1
  have hlt := h.2.2.2.2.1.lt
  exact ⟨h.1.kept hg (fun e => by have := (hlt g e.symm).1; omega) h.1.size (fun k hk => by have := (hlt k hk).1; omega), grow_then h.2.1 hg (fun j hj => .inl (hlt j hj).1), h.2.2.1.grown hg h.pne, h.2.2.2.1.grown hg h.rowne, ho, ⟨q1, q2, q3⟩, h.2.2.2.2.2.2.1, fun e => by simp at e⟩
/-- another disk is laid into the box -/
theorem AsS.lay (h : AsS B w0 w g v p s q L u A W) (hA : A ≠ []) {s' : Value} {q' : Nat} {M : List Fl} (hr : RS 3 fcs W s' q' 0 M) (hq : 0 < M.length → q' ≠ g ∧ q' ≠ p) : AsS B w0 w g v p s' q' M u A (W.setCell ⟨p, 0, none⟩ s') := by
  obtain ⟨q1, q2, q3⟩ := h.2.2.2.2.2.1
  have hg := grown_set W p 0 s'
  refine ⟨h.1.kept hg (by simp; omega) h.1.size (fun k hk => by cases hk; omega), grow_then h.2.1 hg (fun j hj => by cases hj; exact .inl q1), ?_, hr.grown hg (fun h0 => by have := (hq h0).2; simpa using this), h.2.2.2.2.1.kept hg (.inr fun e => h.pne e.symm), ⟨q1, q2, q3⟩, hq, fun e => absurd e hA⟩
  have e1 := heap_setCell_same W p 0 _ 26 s' h.2.2.1
  simpa [BD] using e1
end
def AsR (B : Nat) (w0 w : World) (g : Nat) (v : Value) (p : Nat) (u i : Value) (wr : World) : Prop :=
  ∃ (m : Nat) (s : Value) (q : Nat) (L : List Fl) (A : List Ac), m ≤ 9 ∧ i = .int .i64 (m : Int) ∧ A.length ≤ m ∧ Hid (ShA A) ∧ Hid (AsS B w0 w g v p s q L u A wr) ∧ ∃ ga ca, u = .slice (some ⟨ga, 0, none⟩) A.length ca
/-- what l06Acts answers -/
def AsA (B : Nat) (w0 w : World) (g : Nat) (v : Value) (e : Ending) (w' : World) : Prop :=
  ∃ (u : Value) (A : List Ac), e = .returned u ∧ (∃ ga ca, u = .slice (some ⟨ga, 0, none⟩) A.length ca) ∧ w'.ownsRow w.heap.size 45 4 u A.length (A.flatMap acs) ∧ A.length ≤ 9 ∧ ShA A ∧ Cur B w0 w' g v ∧ w.grownBy w' (some g)

set_option maxRecDepth 100000 in
set_option maxHeartbeats 4000000 in
theorem l06Acts_in (B : Nat) (w0 w : World) (g : Nat) (v : Value) (s0 : Value) (q0 : Nat) (L0 : List Fl) (hc : Cur B w0 w g v) (hv : RS 3 fcs w s0 q0 0 L0) (hq0 : 0 < L0.length → q0 ≠ g) :
    Calls Try.prog 57 #[.pointer (some ⟨g, 0, none⟩), .agg #[s0]] w (AsA B w0 w g v) := by
  have hgl := hc.lt
  have hBw := hc.size
  obtain ⟨x0, c0, hs0⟩ := hv.shape
  subst hs0
  have hb : Below w.heap.size w ((w.alloc (.cells #[.slice x0 L0.length c0] 26)).alloc (.cells #[] 45)) := ((Below.refl _ _).alloc (Nat.le_refl _) _).alloc (by simp) _
  have hq1 : 0 < L0.length → q0 < w.heap.size := fun h0 => by
    obtain ⟨_, _, _, _, h1, _⟩ := hv
    exact (h1 h0).2
  have HS : Hid (AsR B w0 w g v w.heap.size (.slice (some ⟨w.heap.size + 1, 0, none⟩) 0 0) (.int .i64 0) ((w.alloc (.cells #[.slice x0 L0.length c0] 26)).alloc (.cells #[] 45))) := by
    have ho := World.ownsRow_made (e := 45) (size := 4) (base := w.heap.size) (w.alloc (.cells #[.slice x0 L0.length c0] 26)) #[] 0 (by simp) (by decide) (by simp)
    simp only [World.size_alloc] at ho
    exact ⟨0, _, q0, L0, [], by omega, rfl, by simp, fun a ha => absurd ha (by simp), ⟨hc.kept (row := none) (grown_below hb) (by simp) hc.size (fun k hk => by cases hk), grown_below hb, alloc_snd _ _ _ rfl, hv.later hb, ho, ⟨Nat.le_refl _, hgl, hBw⟩, fun h0 => ⟨hq0 h0, by have := hq1 h0; omega⟩, fun _ h0 => hq1 h0⟩, _, _, rfl⟩
  clear hc hv hb hq1 hq0
  go_enter Try.func57, Try.ntmps57
  go_wp2
  go_loopw [5, 6, 7, 8, 9] (fun u i a n o wr => AsR B w0 w g v w.heap.size u i wr) (fun _ i _ _ _ _ => 9 - (intOf i).toNat)
  case atStart => exact HS.out
  case round =>
    clear HS
    obtain ⟨m, s, q, L, A, hm, rfl, hAm, HA, HS, HU⟩ := hrel
    go_wp2_with fail
    refine (l01Below_nat _ _ _ g v 9 HS.out.1 (by omega) (by omega)).mono ?_
    rintro e w2 ⟨x, hx, rfl, hc2, hg2⟩
    have HS2 : Hid (AsS B w0 w g v w.heap.size s q L u5 A w2) := HS.out.call hc2 hg2
    clear HS hc2 hg2
    obtain ⟨xs, cs, hs⟩ := HS2.out.2.2.2.1.shape
    subst hs
    by_cases hlt : m < x
    · have hi : (m : Int) < (x : Int) := by omega
      go_wp2_with fail
      refine (l06Act_in B w0 _ g v HS2.out.1).mono ?_
      rintro e w3 ⟨a, rfl, ha, hc3, hg3⟩
      have hA3 : Below w3.heap.size w3 (w3.alloc (.cells #[.int .i64 a.k, .string a.n, .string a.t, .string a.o] 45)) := (Below.refl _ _).alloc (Nat.le_refl _) _
      have HS3 : Hid (AsS B w0 w g v w.heap.size (.slice xs L.length cs) q L u5 A (w3.alloc (.cells #[.int .i64 a.k, .string a.n, .string a.t, .string a.o] 45)) ∧ AB (w3.alloc (.cells #[.int .i64 a.k, .string a.n, .string a.t, .string a.o] 45)) w3.heap.size a) := ⟨(HS2.out.call hc3 hg3).below hA3, Go.heap_alloc_new w3 _⟩
      have HDO : Hid (∀ W, AsS B w0 w g v w.heap.size (.slice xs L.length cs) q L u5 A W → Calls Try.prog 34 #[.agg #[.slice xs L.length cs], .agg #[.int .i64 a.k, .string a.n, .string a.t, .string a.o]] W fun e w' => ∃ u, e = .returned (.tuple #[u, .bool (F.actR L a).isSome]) ∧ DkIn w' W.heap.size u ((F.actR L a).getD []) ∧ Below W.heap.size W w') := fun W hW => sDoAct_any _ q 0 L a W hW.2.2.2.1 ⟨by omega, by omega, by omega⟩
      generalize (F.actR L a).isSome = R at *
      generalize (F.actR L a).getD [] = M at *
      obtain ⟨ak, an, at', ao⟩ := a
      have hw3 : w.heap.size ≤ w3.heap.size := Nat.le_trans HS2.out.size hg3.size
      clear HS2 hc3 hg3 hA3
      have d0 := HS3.out.1.2.2.1.cell
      have e0 := HS3.out.2.c0
      have e1 := HS3.out.2.c1
      have e2 := HS3.out.2.c2
      have e3 := HS3.out.2.c3
      simp only at HS3 HDO ha d0 e0 e1 e2 e3
      go_wp2_with fail
      refine (HDO.out _ HS3.out.1).mono ?_
      rintro e w4 ⟨u4, rfl, hu4, hb4⟩
      obtain ⟨a4, c4, q4, rfl, hr4, hq4, hl4⟩ := hu4.open'
      have hgr3 := HS3.out.1.size
      have hw4 : w.heap.size ≤ w4.heap.size := Nat.le_trans hgr3 hb4.size
      have hA4 : Below w4.heap.size w4 (w4.alloc (.cells #[.slice a4 M.length c4] 26)) := (Below.refl _ _).alloc (Nat.le_refl _) _
      have HS4 : Hid (AsS B w0 w g v w.heap.size (.slice xs L.length cs) q L u5 A (w4.alloc (.cells #[.slice a4 M.length c4] 26)) ∧ AB (w4.alloc (.cells #[.slice a4 M.length c4] 26)) w3.heap.size ⟨ak, an, at', ao⟩ ∧ BD (w4.alloc (.cells #[.slice a4 M.length c4] 26)) w4.heap.size 26 (.slice a4 M.length c4) ∧ RS 3 fcs (w4.alloc (.cells #[.slice a4 M.length c4] 26)) (.slice a4 M.length c4) q4 0 M) :=
        ⟨(HS3.out.1.below hb4).below hA4, (HS3.out.2.grown (grown_below (row := none) hb4) (by simp)).grown (grown_below (row := none) hA4) (by simp), BD.new w4 _ _, hr4.1.later hA4⟩
      have HQ : Hid ((∀ k, u5.ownBlock = some k → k < q4) ∧ q4 ≠ g ∧ q4 ≠ w.heap.size) := by
        have hpl := HS3.out.1.2.2.1.lt
        refine ⟨fun k hk => ?_, by omega, by omega⟩
        have := (HS3.out.1.2.2.2.2.1.lt k hk).2
        omega
      clear HS3 HDO hu4 hr4 hq4 hl4 hb4 hA4 d0 e0 e1 e2 e3 hgr3
      cases R with
      | true =>
        have x1 := HS4.out.2.1.c0
        have x2 := HS4.out.2.1.c1
        have x3 := HS4.out.2.1.c2
        have x4 := HS4.out.2.1.c3
        have hsw := HS4.out.1.size
        have HRA := range_new (w4.alloc (.cells #[.slice a4 M.length c4] 26)) [.int .i64 ak, .string an, .string at', .string ao] 45
        go_wp2_with (at_builtin; refine wp_act rfl _ _ rfl w.heap.size _ A ⟨ak, an, at', ao⟩ rfl (World.ownsRow.alloc HS4.out.1.2.2.2.2.1 _) ?c0 _ rfl ?c1 ?c2 ?_)
        case c0 => have h9 := hsw; simp at h9 ⊢; omega
        case c1 => first | exact HRA | (simp only [World.size_alloc] at HRA; exact HRA)
        case c2 => omega
        intro g8 cap8 w6 hrow6 hg6
        have hbl : Below (w4.alloc (.cells #[.slice a4 M.length c4] 26)).heap.size (w4.alloc (.cells #[.slice a4 M.length c4] 26)) ((w4.alloc (.cells #[.slice a4 M.length c4] 26)).alloc (.cells #[.int .i64 ak, .string an, .string at', .string ao] 45)) := (Below.refl _ _).alloc (Nat.le_refl _) _
        have S5 := HS4.out.1.below hbl
        have hrow6' : w6.ownsRow w.heap.size 45 4 (.slice (some ⟨g8, 0, none⟩) (A.length + 1) cap8) (A ++ [Ac.mk ak an at' ao]).length ((A ++ [Ac.mk ak an at' ao]).flatMap acs) := by
          rw [List.length_append, List.flatMap_append, List.flatMap_singleton]
          exact hrow6
        have S6 := S5.app hg6 hrow6'
        have hbn := (HS4.out.2.2.1.later hbl).grown hg6 (act_ne S5.2.2.2.2.1 (HS4.out.2.2.1.later hbl))
        have hrm := (HS4.out.2.2.2.later hbl).grown hg6 (fun h0 e => by have := HQ.out.1 _ e.symm; omega)
        have n0 := hbn.cell
        have n1 := S6.2.2.1.cell
        have n2 := S6.2.2.1.fr
        have HF : Hid (AsS B w0 w g v w.heap.size (.slice a4 M.length c4) q4 M (.slice (some ⟨g8, 0, none⟩) (A.length + 1) cap8) (A ++ [Ac.mk ak an at' ao]) (w6.setCell ⟨w.heap.size, 0, none⟩ (.slice a4 M.length c4))) := S6.lay (by simp) hrm (fun _ => HQ.out.2)
        have HA2 : Hid (ShA (A ++ [Ac.mk ak an at' ao])) := HA.out.app ha
        clear x1 x2 x3 x4 hsw HRA hbl S5 S6 hbn hrm hrow6 hrow6' hg6 HS4 HA
        go_wp2
        go_roundw
        case rel => exact ⟨m + 1, _, q4, M, _, by omega, by go_num, by simp; omega, HA2, HF, g8, cap8, by simp⟩
        case measure => simp [intOf]; omega
      | false =>
        have hc4 := HS4.out.1.1
        go_wp2_with fail
        refine (l01Once_in _ _ _ g v 20 20 rfl hc4 (by omega) (by omega)).mono ?_
        rintro e w5 ⟨b, rfl, hc5, hg5⟩
        have hpg := HS4.out.1.2.2.2.2.2.1.2.1
        have hs4 := HS4.out.1.size
        have HS5 : Hid (AsS B w0 w g v w.heap.size (.slice xs L.length cs) q L u5 A w5 ∧ AB w5 w3.heap.size ⟨ak, an, at', ao⟩ ∧ BD w5 w4.heap.size 26 (.slice a4 M.length c4) ∧ RS 3 fcs w5 (.slice a4 M.length c4) q4 0 M) :=
          ⟨HS4.out.1.call hc5 hg5, HS4.out.2.1.grown hg5 (by have := hw3; simp; omega), HS4.out.2.2.1.grown hg5 (by have := hw4; simp; omega), HS4.out.2.2.2.grown hg5 (fun _ => by have := HQ.out.2.1; simpa using this)⟩
        clear HS4 hc4 hc5 hg5 hs4
        have HS4 := HS5
        clear HS5
        cases b with
        | true =>
          have x1 := HS4.out.2.1.c0
          have x2 := HS4.out.2.1.c1
          have x3 := HS4.out.2.1.c2
          have x4 := HS4.out.2.1.c3
          have hsw := HS4.out.1.size
          have HRA := range_new (w5) [.int .i64 ak, .string an, .string at', .string ao] 45
          go_wp2_with (at_builtin; refine wp_act rfl _ _ rfl w.heap.size _ A ⟨ak, an, at', ao⟩ rfl (World.ownsRow.alloc HS4.out.1.2.2.2.2.1 _) ?c0 _ rfl ?c1 ?c2 ?_)
          case c0 => have h9 := hsw; simp at h9 ⊢; omega
          case c1 => first | exact HRA | (simp only [World.size_alloc] at HRA; exact HRA)
          case c2 => omega
          intro g8 cap8 w6 hrow6 hg6
          have hbl : Below (w5).heap.size (w5) ((w5).alloc (.cells #[.int .i64 ak, .string an, .string at', .string ao] 45)) := (Below.refl _ _).alloc (Nat.le_refl _) _
          have S5 := HS4.out.1.below hbl
          have hrow6' : w6.ownsRow w.heap.size 45 4 (.slice (some ⟨g8, 0, none⟩) (A.length + 1) cap8) (A ++ [Ac.mk ak an at' ao]).length ((A ++ [Ac.mk ak an at' ao]).flatMap acs) := by
            rw [List.length_append, List.flatMap_append, List.flatMap_singleton]
            exact hrow6
          have S6 := S5.app hg6 hrow6'
          have hbn := (HS4.out.2.2.1.later hbl).grown hg6 (act_ne S5.2.2.2.2.1 (HS4.out.2.2.1.later hbl))
          have hrm := (HS4.out.2.2.2.later hbl).grown hg6 (fun h0 e => by have := HQ.out.1 _ e.symm; omega)
          have n0 := hbn.cell
          have n1 := S6.2.2.1.cell
          have n2 := S6.2.2.1.fr
          have HF : Hid (AsS B w0 w g v w.heap.size (.slice a4 M.length c4) q4 M (.slice (some ⟨g8, 0, none⟩) (A.length + 1) cap8) (A ++ [Ac.mk ak an at' ao]) (w6.setCell ⟨w.heap.size, 0, none⟩ (.slice a4 M.length c4))) := S6.lay (by simp) hrm (fun _ => HQ.out.2)
          have HA2 : Hid (ShA (A ++ [Ac.mk ak an at' ao])) := HA.out.app ha
          clear x1 x2 x3 x4 hsw HRA hbl S5 S6 hbn hrm hrow6 hrow6' hg6 HS4 HA
          go_wp2
          go_roundw
          case rel => exact ⟨m + 1, _, q4, M, _, by omega, by go_num, by simp; omega, HA2, HF, g8, cap8, by simp⟩
          case measure => simp [intOf]; omega
        | false =>
          have HS9 : Hid (AsS B w0 w g v w.heap.size (.slice xs L.length cs) q L u5 A w5) := HS4.out.1
          clear HS4 HQ
          go_wp2
          go_roundw
          case rel => exact ⟨m + 1, _, q, L, A, by omega, by go_num, by omega, HA, HS9, HU⟩
          case measure => simp [intOf]; omega
    · have hi : ¬ (m : Int) < (x : Int) := by omega
      have hans : AsA B w0 w g v (.returned u5) w2 := ⟨_, A, rfl, HU, HS2.out.2.2.2.2.1, by omega, HA.out, HS2.out.1, HS2.out.2.1⟩
      clear HS2 HA
      go_wp2
      go_ret
      exact hans

end Go.Proofs.Ytbmlphlknolieaa
