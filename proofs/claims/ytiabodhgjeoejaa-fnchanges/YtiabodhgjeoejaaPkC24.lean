/-
  Texts laid together: Cch, Arg.
-/
import Derived.Test.YtiabodhgjeoejaaPkC19
import Derived.Test.YtiabodhgjeoejaaPkC23
import Derived.Test.YtiabodhgjeoejaaPkC12
import Derived.Test.YtiabodhgjeoejaaPkC6
import Derived.ProofKit
import Derived.OpenShut
import Derived.ChangeOld
/-
  The walk of the law FnChanges: it answers true of every code.
-/
namespace Go.Proofs.Ytiabodhgjeoejaa
open Go.RowKit Go.BigFrame Go.Sort
set_option linter.unusedVariables false
set_option linter.unusedSimpArgs false

theorem small_okU {L : List Le} (h : LV.LOk L) : SmallL L := fun f hf => by have := LV.leB_sizes (h.2.1 f hf); omega
/-- what lies where while the law looks: the drawn list, the drawn changes, the list that all of them leave -/
def ChS (w W : World) (L : List Le) (a1 : Option Addr) (c1 g1 : Nat) (A : List Ug) (a2 : Option Addr) (c2 g2 : Nat) (M : List Le) (a3 : Option Addr) (c3 g3 : Nat) : Prop :=
  RW 2 lcs W (.slice a1 L.length c1) g1 L ∧ RW 3 ucs W (.slice a2 A.length c2) g2 A ∧ RW 2 lcs W (.slice a3 M.length c3) g3 M ∧ Below w.heap.size w W
theorem ChS.later {w W W' : World} {L : List Le} {a1 : Option Addr} {c1 g1 : Nat} {A : List Ug} {a2 : Option Addr} {c2 g2 : Nat} {M : List Le} {a3 : Option Addr} {c3 g3 : Nat} (h : ChS w W L a1 c1 g1 A a2 c2 g2 M a3 c3 g3) (hb : Below W.heap.size W W') : ChS w W' L a1 c1 g1 A a2 c2 g2 M a3 c3 g3 := by
  obtain ⟨h1, h2, h3, h4⟩ := h
  exact ⟨h1.later hb, h2.later hb, h3.later hb, h4.trans (hb.mono h4.size)⟩

/-- two changes compared as values -/
theorem neqU (i : Int) (a b : ByteArray) (w : World) : (binOp .neq 31 (.agg #[.int .i64 i, .string a, .string b]) (.agg #[.int .i64 i, .string a, .string b])).run Try.prog w = .ok (.bool false) w := by
  have u9 := Try.underlying9
  have a9 := Try.isAgg9
  have z9 := Try.sizeOf9
  have u3 := Try.underlying3
  have a3 := Try.isAgg3
  have z3 := Try.sizeOf3
  have hS : Try.prog.underlying 31 = some (.struct (Try.prog.fieldsOf 31)) := by kernel_rfl
  have hp : Try.prog.stoodInHeld 31 = false := by kernel_rfl
  rw [run_neq_struct, show (10000 : Nat) = 9999 + 1 from rfl, run_equalIn_agg w 9999 31 _ _ hS hp]
  simp only [Program.fieldsOf, Try.underlying31]
  go_simp
theorem guardU : Try.prog.eqGuardType Try.prog.depth 31 = false := by kernel_rfl

/- the steps of calls -/
theorem step_laws_sameLeaves {w : World} {ops : Array Oper} {o : Oper} {a : Act} {K : Act → World → Prop} {Q : Exit → Act → World → Prop} {E : Prop} (hw : Region.wanted o (yielded ops a.tmps) = true) (i0 i1 : Nat) (ts : Array TypeId) (ho : o.op = .call { callee := .value (.func 20), args := #[.tmp i0, .tmp i1], argTypes := ts }) (v0 v1 : Value) (P : Value → World → Prop) (h0 : a.tmps[i0]?.getD undef = v0) (h1 : a.tmps[i1]?.getD undef = v1)
    (hC : Calls Try.prog 20 #[v0, v1] w fun e w' => ∃ r, e = .returned r ∧ P r w') (hk : ∀ r w', P r w' → K (a.put o.dst r) w') : if Region.wanted o (yielded ops a.tmps) = true then Oper.wp Try.prog o a w K Q else E := by
  rw [if_pos hw]
  unfold Oper.wp
  unfold execOp
  rw [ho]
  go_simp
  refine hC.mono ?_
  rintro e w' ⟨r, rfl, hp⟩
  exact hk r w' hp
theorem step_impl_LeavesOk {w : World} {ops : Array Oper} {o : Oper} {a : Act} {K : Act → World → Prop} {Q : Exit → Act → World → Prop} {E : Prop} (hw : Region.wanted o (yielded ops a.tmps) = true) (i0 : Nat) (ts : Array TypeId) (ho : o.op = .call { callee := .value (.func 21), args := #[.tmp i0], argTypes := ts }) (v0 : Value) (P : Value → World → Prop) (h0 : a.tmps[i0]?.getD undef = v0)
    (hC : Calls Try.prog 21 #[v0] w fun e w' => ∃ r, e = .returned r ∧ P r w') (hk : ∀ r w', P r w' → K (a.put o.dst r) w') : if Region.wanted o (yielded ops a.tmps) = true then Oper.wp Try.prog o a w K Q else E := by
  rw [if_pos hw]
  unfold Oper.wp
  unfold execOp
  rw [ho]
  go_simp
  refine hC.mono ?_
  rintro e w' ⟨r, rfl, hp⟩
  exact hk r w' hp
theorem step_impl_ChangeOk {w : World} {ops : Array Oper} {o : Oper} {a : Act} {K : Act → World → Prop} {Q : Exit → Act → World → Prop} {E : Prop} (hw : Region.wanted o (yielded ops a.tmps) = true) (i0 : Nat) (ts : Array TypeId) (ho : o.op = .call { callee := .value (.func 22), args := #[.tmp i0], argTypes := ts }) (v0 : Value) (P : Value → World → Prop) (h0 : a.tmps[i0]?.getD undef = v0)
    (hC : Calls Try.prog 22 #[v0] w fun e w' => ∃ r, e = .returned r ∧ P r w') (hk : ∀ r w', P r w' → K (a.put o.dst r) w') : if Region.wanted o (yielded ops a.tmps) = true then Oper.wp Try.prog o a w K Q else E := by
  rw [if_pos hw]
  unfold Oper.wp
  unfold execOp
  rw [ho]
  go_simp
  refine hC.mono ?_
  rintro e w' ⟨r, rfl, hp⟩
  exact hk r w' hp
theorem step_spec_ChangeOk {w : World} {ops : Array Oper} {o : Oper} {a : Act} {K : Act → World → Prop} {Q : Exit → Act → World → Prop} {E : Prop} (hw : Region.wanted o (yielded ops a.tmps) = true) (i0 : Nat) (ts : Array TypeId) (ho : o.op = .call { callee := .value (.func 23), args := #[.tmp i0], argTypes := ts }) (v0 : Value) (P : Value → World → Prop) (h0 : a.tmps[i0]?.getD undef = v0)
    (hC : Calls Try.prog 23 #[v0] w fun e w' => ∃ r, e = .returned r ∧ P r w') (hk : ∀ r w', P r w' → K (a.put o.dst r) w') : if Region.wanted o (yielded ops a.tmps) = true then Oper.wp Try.prog o a w K Q else E := by
  rw [if_pos hw]
  unfold Oper.wp
  unfold execOp
  rw [ho]
  go_simp
  refine hC.mono ?_
  rintro e w' ⟨r, rfl, hp⟩
  exact hk r w' hp
theorem step_spec_ApplyAll {w : World} {ops : Array Oper} {o : Oper} {a : Act} {K : Act → World → Prop} {Q : Exit → Act → World → Prop} {E : Prop} (hw : Region.wanted o (yielded ops a.tmps) = true) (i0 i1 : Nat) (ts : Array TypeId) (ho : o.op = .call { callee := .value (.func 24), args := #[.tmp i0, .tmp i1], argTypes := ts }) (v0 v1 : Value) (P : Value → World → Prop) (h0 : a.tmps[i0]?.getD undef = v0) (h1 : a.tmps[i1]?.getD undef = v1)
    (hC : Calls Try.prog 24 #[v0, v1] w fun e w' => ∃ r, e = .returned r ∧ P r w') (hk : ∀ r w', P r w' → K (a.put o.dst r) w') : if Region.wanted o (yielded ops a.tmps) = true then Oper.wp Try.prog o a w K Q else E := by
  rw [if_pos hw]
  unfold Oper.wp
  unfold execOp
  rw [ho]
  go_simp
  refine hC.mono ?_
  rintro e w' ⟨r, rfl, hp⟩
  exact hk r w' hp
/- the steps of calls end -/
def ChR (w : World) (L : List Le) (a1 : Option Addr) (c1 g1 : Nat) (A : List Ug) (a2 : Option Addr) (c2 g2 : Nat) (M : List Le) (a3 : Option Addr) (c3 g3 : Nat) (u i : Value) (wr : World) : Prop :=
  ∃ (m : Nat) (a : Option Addr) (c g : Nat), m ≤ A.length ∧ i = .int .i64 (m : Int) ∧ u = .slice a (UV.apA L (A.take m)).length c ∧ Hid (ChS w wr L a1 c1 g1 A a2 c2 g2 M a3 c3 g3 ∧ RW 2 lcs wr u g (UV.apA L (A.take m)))

set_option maxRecDepth 100000 in
set_option maxHeartbeats 4000000 in
theorem changesLaw_any (a0 : Option Addr) (len0 cap0 : Nat) (w : World) (hl0 : len0 ≤ 1048576) (hc : Code w.heap.size w (.slice a0 len0 cap0)) :
    Calls Try.prog 3 #[.slice a0 len0 cap0] w fun e w' => e = .returned (.bool true) ∧ Below w.heap.size w w' := by
  have HC : Hid (∀ W, Below w.heap.size w W → Code W.heap.size W (.slice a0 len0 cap0)) := fun W hW => code_laterU hc hW
  clear hc
  go_enter Try.func3, Try.ntmps3
  go_wp2_with fail
  refine (big_no a0 len0 cap0 _ hl0).mono ?_
  rintro e w0 ⟨rfl, rfl⟩
  go_wp2_with fail
  refine (DrawLeaves_any _ _ (HC.out _ (Below.refl _ _))).mono ?_
  rintro e w1 ⟨a1, c1, g1, L, rfl, ⟨hl8, hLk, hnil⟩, hr1, hg1, hb1⟩
  go_wp2_with fail
  refine (DrawChanges_any _ _ (HC.out _ hb1)).mono ?_
  rintro e w2 ⟨u, A, rfl, hl7, hR, ho⟩
  obtain ⟨a2, c2, rfl⟩ := ho.shape
  obtain ⟨g2, hr2, hg2, _⟩ := ho.rw (by omega)
  have hb2 := ho.2.1
  have HA : Hid (LV.LOk L ∧ L.length ≤ 8 ∧ A.length ≤ 7 ∧ (∀ x ∈ A, UV.okU x = true ∧ x.n.size ≤ 12 ∧ x.v.size ≤ 12) ∧ (a1 = none → c1 = 0)) := ⟨hLk, hl8, hl7, hR, hnil⟩
  have HAA := hide (ApplyAll_any _ g1 0 L _ g2 0 A w2 (hr1.later hb2).1 (small_okU hLk) hr2.1 (fun x hx => ⟨by have := (hR x hx).2.1; omega, by have := (hR x hx).2.2; omega⟩))
  have HW2 : Hid (RW 2 lcs w2 (.slice a1 L.length c1) g1 L ∧ RW 3 ucs w2 (.slice a2 A.length c2) g2 A ∧ Below w0.heap.size w0 w2) := ⟨hr1.later hb2, hr2, hb1.trans (hb2.mono hb1.size)⟩
  have HOK : Hid (LV.LOk (UV.apA L A)) := UV.apA_ok hLk (by omega) (fun x hx => (hR x hx).1)
  clear hr1 hg1 hb1 hr2 hg2 hb2 ho hLk hR hl8 hnil
  have HM : Hid (UV.apA L A = UV.apA L A) := rfl
  generalize hMe : UV.apA L A = M at HAA HOK
  have HME : Hid (UV.apA L A = M) := hMe
  clear hMe HM
  go_wp2_with fail
  refine HAA.out.mono ?_
  rintro e w3 ⟨a3, c3, g3, rfl, hr3, hg3, hb3⟩
  have HS3 : Hid (ChS w0 w3 L a1 c1 g1 A a2 c2 g2 M a3 c3 g3) := ⟨HW2.out.1.later hb3, HW2.out.2.1.later hb3, hr3, HW2.out.2.2.trans (hb3.mono HW2.out.2.2.size)⟩
  clear HAA hr3 hg3 hb3 HW2
  have HST : Hid (ChR w0 L a1 c1 g1 A a2 c2 g2 M a3 c3 g3 (.slice a1 L.length c1) (.int .i64 0) w3) := ⟨0, a1, c1, g1, Nat.zero_le _, rfl, rfl, HS3.out, HS3.out.1⟩
  have HQ2 : Hid (0 < A.length → a2 = some ⟨g2, 0, none⟩) := by
    obtain ⟨⟨a', c', ev, _, h1, _⟩, _⟩ := HS3.out.2.1
    simp at ev
    rw [ev.1]
    exact fun h => (h1 h).1
  clear HS3
  have hgd := guardU
  go_wp2
  go_loopw [6, 7] (fun u i wr => ChR w0 L a1 c1 g1 A a2 c2 g2 M a3 c3 g3 u i wr) (fun _ i _ => A.length - (intOf i).toNat)
  case atStart => exact HST.out
  case round =>
    obtain ⟨m, au, cu, gu, hm, rfl, rfl, HI⟩ := hrel
    clear HST
    by_cases hlt : m < A.length
    · have ea := HQ2.out (by omega)
      subst ea
      obtain ⟨x0, x1, x2⟩ := HI.out.1.2.1.1.chg m hlt
      rw [Nat.zero_add] at x0 x1 x2
      have hXr := HA.out.2.2.2.1 _ (List.getElem_mem hlt)
      have hst := UV.apA_step L A hlt
      have hsm : SmallL (UV.apA L (A.take m)) := small_apA (small_okU HA.out.1) (fun x hx => by have := HA.out.2.2.2.1 x hx; exact ⟨by omega, by omega⟩) m
      have HQ : Hid (∀ W, Below wr.heap.size wr W → W.cell? ⟨g2, m * 3, none⟩ = some (.int .i64 A[m].i) ∧ W.cell? ⟨g2, m * 3 + 1, none⟩ = some (.string A[m].n) ∧ W.cell? ⟨g2, m * 3 + 2, none⟩ = some (.string A[m].v)) := fun W hW => by
        have := (HI.out.1.2.1.later hW).1.chg m hlt
        simpa only [Nat.zero_add] using this
      obtain ⟨X, hX⟩ : ∃ X, A[m]'hlt = X := ⟨_, rfl⟩
      rw [hX] at x0 x1 x2 hXr hst HQ
      have HC := hide (ApplyChange_any _ gu 0 _ X wr HI.out.2.1 hsm (by omega) (by omega))
      have HCT : Hid (∀ W, Calls Try.prog 14 #[.agg #[.int .i64 X.i, .string X.n, .string X.v]] W fun e w' => e = .returned (.tuple #[.string (UV.txtU X), .bool true]) ∧ Below W.heap.size W w') := fun W => by
        have h := ChangeText_any X W (by omega) (by omega)
        unfold UV.textU at h
        rw [hXr.1, if_pos rfl] at h
        exact h
      have htz : (UV.txtU X).size ≤ 100 := by
        unfold UV.txtU
        have h1 : (UV.vb X.i.toNat).size ≤ 10 := varA_size _
        have h2 : (UV.vb X.n.size).size ≤ 10 := varA_size _
        have h3 : (UV.vb X.v.size).size ≤ 10 := varA_size _
        simp only [ByteArray.size_append]
        omega
      have HRD : Hid (∀ W, Calls Try.prog 15 #[.string (UV.txtU X)] W fun e w' => e = .returned (.tuple #[.agg #[.int .i64 X.i, .string X.n, .string X.v], .bool true]) ∧ Below W.heap.size W w') := fun W => by
        have h := ReadChange_any (UV.txtU X) W (by omega)
        rw [(UV.rd_back hXr.1).1, (UV.rd_back hXr.1).2] at h
        exact h
      have HJ : Hid (UV.apA L (A.take (m + 1)) = UV.apU (UV.apA L (A.take m)) X ∧ ChS w0 wr L a1 c1 g1 A (some ⟨g2, 0, none⟩) c2 g2 M a3 c3 g3) := ⟨hst, HI.out.1⟩
      have i1 : (m : Int) < (A.length : Int) := by omega
      have i2 : (0 : Int) ≤ (m : Int) := by omega
      have hneq := neqU X.i X.n X.v
      generalize UV.txtU X = T at *
      generalize UV.apA L (A.take m) = M0 at *
      generalize M0.length = k at *
      clear HI hst hX hsm hXr htz
      obtain ⟨xi, xn, xv⟩ := X
      simp only at x0 x1 x2 HC HCT HRD HQ hneq
      go_wp2_with fail
      refine HC.out.mono ?_
      rintro e w4 ⟨a4, c4, g4, rfl, hr4, _, hb4⟩
      have HK : Hid (RW 2 lcs w4 (.slice a4 (UV.apU M0 ⟨xi, xn, xv⟩).length c4) g4 (UV.apU M0 ⟨xi, xn, xv⟩) ∧ Below wr.heap.size wr w4) := ⟨hr4, hb4⟩
      clear HC hr4 hb4 x0 x1 x2
      obtain ⟨x0, x1, x2⟩ := HQ.out _ HK.out.2
      have HL : Hid (UV.apA L (A.take (m + 1)) = UV.apU M0 ⟨xi, xn, xv⟩) := HJ.out.1
      generalize UV.apU M0 ⟨xi, xn, xv⟩ = M1 at *
      go_wp2_with fail
      refine (HCT.out _).mono ?_
      rintro e w5 ⟨rfl, hb5⟩
      have HK5 : Hid (RW 2 lcs w5 (.slice a4 M1.length c4) g4 M1 ∧ Below wr.heap.size wr w5) := ⟨HK.out.1.later hb5, HK.out.2.trans (hb5.mono HK.out.2.size)⟩
      clear HK hb5 HCT x0 x1 x2
      go_wp2_with fail
      refine (HRD.out _).mono ?_
      rintro e w6 ⟨rfl, hb6⟩
      have HK6 : Hid (RW 2 lcs (w6.alloc (.cells #[.int .i64 xi, .string xn, .string xv] 31)) (.slice a4 M1.length c4) g4 M1 ∧ Below wr.heap.size wr (w6.alloc (.cells #[.int .i64 xi, .string xn, .string xv] 31)) ∧ BU (w6.alloc (.cells #[.int .i64 xi, .string xn, .string xv] 31)) w6.heap.size ⟨xi, xn, xv⟩) := by
        have hb : Below w6.heap.size w6 (w6.alloc (.cells #[.int .i64 xi, .string xn, .string xv] 31)) := (Below.refl _ _).alloc (Nat.le_refl _) _
        have hb5 := HK5.out.2.trans (hb6.mono HK5.out.2.size)
        exact ⟨(HK5.out.1.later hb6).later hb, hb5.trans (hb.mono hb5.size), BU.new w6 ⟨xi, xn, xv⟩⟩
      clear HK5 hb6 HRD
      obtain ⟨x0, x1, x2⟩ := HQ.out _ HK6.out.2.1
      have y0 := HK6.out.2.2.c0
      have y1 := HK6.out.2.2.c1
      have y2 := HK6.out.2.2.c2
      simp only at y0 y1 y2
      go_wp2
      generalize hW7 : w6.alloc (.cells #[.int .i64 xi, .string xn, .string xv] 31) = w7 at *
      clear hW7
      have kq0 := cell_regrown (w := w7) x0
      have kq1 := cell_regrown (w := w7) x1
      have kq2 := cell_regrown (w := w7) x2
      have kq3 := cell_regrown (w := w7) y0
      have kq4 := cell_regrown (w := w7) y1
      have kq5 := cell_regrown (w := w7) y2
      refine wp_region_quiet_below (by kernel_rfl) (by kernel_rfl) ?_
      repeat (go_big_quiet_step (fail))
      refine wpQuiet_nil ?_
      rintro _ ⟨⟨dq, osq⟩, rfl⟩
      have hb8 := below_regrown w7 dq osq
      generalize grow (redrawn w7 dq) osq = w8 at *
      clear kq0 kq1 kq2 kq3 kq4 kq5 x0 x1 x2 y0 y1 y2
      have hb9 := HK6.out.2.1.trans (hb8.mono HK6.out.2.1.size)
      have HZ : Hid (ChS w0 w8 L a1 c1 g1 A (some ⟨g2, 0, none⟩) c2 g2 M a3 c3 g3 ∧ RW 2 lcs w8 (.slice a4 M1.length c4) g4 M1) := ⟨HJ.out.2.later hb9, HK6.out.1.later hb8⟩
      clear HJ HK6 hb8 hb9 HQ
      go_wp2
      go_roundw
      case rel => exact ⟨m + 1, a4, c4, g4, by omega, by go_num, by rw [HL.out], HZ.out.1, by rw [HL.out]; exact HZ.out.2⟩
      case measure => simp [intOf]; omega
    · have hme : m = A.length := by omega
      subst hme
      have hall : UV.apA L (A.take A.length) = M := by rw [UV.apA_all]; exact HME.out
      rw [hall] at HI ⊢
      clear hall hlt hm
      have HST2 : Hid (∃ m : Nat, m ≤ A.length ∧ Value.int .i64 0 = .int .i64 (m : Int) ∧ Hid (ChS w0 wr L a1 c1 g1 A a2 c2 g2 M a3 c3 g3 ∧ RW 2 lcs wr (.slice au M.length cu) gu M)) := ⟨0, Nat.zero_le _, rfl, HI⟩
      clear HI
      go_wp2
      rename World => W0
      go_loopw [12] (fun i wr => ∃ m : Nat, m ≤ A.length ∧ i = .int .i64 (m : Int) ∧ Hid (ChS w0 wr L a1 c1 g1 A a2 c2 g2 M a3 c3 g3 ∧ RW 2 lcs wr (.slice au M.length cu) gu M)) (fun i _ => A.length - (intOf i).toNat)
      case atStart => exact HST2.out
      case round =>
        obtain ⟨m, hm, rfl, HI⟩ := hrel
        clear HST2
        by_cases hlt : m < A.length
        · have ea := HQ2.out (by omega)
          subst ea
          have i1 : (m : Int) < (A.length : Int) := by omega
          have i2 : (0 : Int) ≤ (m : Int) := by omega
          have HST3 : Hid (∃ (b : Bool) (q : Nat), m + 1 ≤ q ∧ q ≤ A.length ∧ Value.bool true = .bool b ∧ Value.int .i64 ((m : Int) + 1) = .int .i64 (q : Int) ∧ Hid (b = true → ∀ k (h : k < A.length), m < k → k < q → A[k].n ≠ (A[m]'hlt).n) ∧ Hid (ChS w0 wr L a1 c1 g1 A (some ⟨g2, 0, none⟩) c2 g2 M a3 c3 g3 ∧ RW 2 lcs wr (.slice au M.length cu) gu M)) := ⟨true, m + 1, Nat.le_refl _, hlt, rfl, rfl, fun _ k h h1 h2 => by omega, HI⟩
          clear HI
          go_wp2
          rename World => W1
          go_loopw [13, 14] (fun b k wr => ∃ (b' : Bool) (q : Nat), m + 1 ≤ q ∧ q ≤ A.length ∧ b = .bool b' ∧ k = .int .i64 (q : Int) ∧ Hid (b' = true → ∀ k (h : k < A.length), m < k → k < q → A[k].n ≠ (A[m]'hlt).n) ∧ Hid (ChS w0 wr L a1 c1 g1 A (some ⟨g2, 0, none⟩) c2 g2 M a3 c3 g3 ∧ RW 2 lcs wr (.slice au M.length cu) gu M)) (fun _ k _ => A.length - (intOf k).toNat)
          case atStart => exact HST3.out
          case round =>
            obtain ⟨b, q, hq1, hq2, rfl, rfl, HB, HI⟩ := hrel
            clear HST3
            by_cases hlq : q < A.length
            · have j1 : (q : Int) < (A.length : Int) := by omega
              have j2 : (0 : Int) ≤ (q : Int) := by omega
              obtain ⟨_, x1, _⟩ := HI.out.1.2.1.1.chg q hlq
              obtain ⟨_, y1, _⟩ := HI.out.1.2.1.1.chg m hlt
              rw [Nat.zero_add] at x1 y1
              cases b
              · have HB2 : Hid (false = true → ∀ k (h : k < A.length), m < k → k < q + 1 → A[k].n ≠ (A[m]'hlt).n) := fun h => by cases h
                generalize (A[q]'hlq).n = N1 at *
                clear HB
                go_wp2
                have kq0 := cell_regrown (w := wr) x1
                have kq1 := cell_regrown (w := wr) y1
                refine wp_region_quiet_below (by kernel_rfl) (by kernel_rfl) ?_
                repeat (go_big_quiet_step (fail))
                refine wpQuiet_nil ?_
                rintro _ ⟨⟨dq, osq⟩, rfl⟩
                have hb8 := below_regrown wr dq osq
                generalize grow (redrawn wr dq) osq = w8 at *
                have HZ : Hid (ChS w0 w8 L a1 c1 g1 A (some ⟨g2, 0, none⟩) c2 g2 M a3 c3 g3 ∧ RW 2 lcs w8 (.slice au M.length cu) gu M) := ⟨HI.out.1.later hb8, HI.out.2.later hb8⟩
                clear kq0 kq1 x1 y1 hb8 HI
                go_wp2
                go_roundw
                case rel => exact ⟨false, q + 1, by omega, by omega, rfl, by go_num, HB2, HZ⟩
                case measure => simp [intOf]; omega
              · by_cases hn : (A[q]'hlq).n = (A[m]'hlt).n
                · have HB2 : Hid (false = true → ∀ k (h : k < A.length), m < k → k < q + 1 → A[k].n ≠ (A[m]'hlt).n) := fun h => by cases h
                  have qn : ((A[q]'hlq).n.toList == (A[m]'hlt).n.toList) = true := by rw [hn]; simp
                  clear hn HB
                  obtain ⟨N1, hN1⟩ : ∃ N1, (A[q]'hlq).n = N1 := ⟨_, rfl⟩
                  obtain ⟨N2, hN2⟩ : ∃ N2, (A[m]'hlt).n = N2 := ⟨_, rfl⟩
                  rw [hN1] at x1 qn
                  rw [hN2] at y1 qn
                  clear hN1 hN2
                  go_wp2
                  have kq0 := cell_regrown (w := wr) x1
                  have kq1 := cell_regrown (w := wr) y1
                  refine wp_region_quiet_below (by kernel_rfl) (by kernel_rfl) ?_
                  repeat (go_big_quiet_step (fail))
                  refine wpQuiet_nil ?_
                  rintro _ ⟨⟨dq, osq⟩, rfl⟩
                  have hb8 := below_regrown wr dq osq
                  generalize grow (redrawn wr dq) osq = w8 at *
                  have HZ : Hid (ChS w0 w8 L a1 c1 g1 A (some ⟨g2, 0, none⟩) c2 g2 M a3 c3 g3 ∧ RW 2 lcs w8 (.slice au M.length cu) gu M) := ⟨HI.out.1.later hb8, HI.out.2.later hb8⟩
                  clear kq0 kq1 x1 y1 hb8 HI qn
                  go_wp2
                  go_roundw
                  case rel => exact ⟨false, q + 1, by omega, by omega, rfl, by go_num, HB2, HZ⟩
                  case measure => simp [intOf]; omega
                · have HB2 : Hid (∀ k (h : k < A.length), m < k → k < q + 1 → A[k].n ≠ (A[m]'hlt).n) := fun k h h1 h2 => by
                    rcases Nat.lt_or_ge k q with h3 | h3
                    · exact HB.out rfl k h h1 h3
                    · have : k = q := by omega
                      subst this
                      exact hn
                  have qn : ((A[q]'hlq).n.toList == (A[m]'hlt).n.toList) = false := LV.bytes_ne hn
                  clear hn HB
                  obtain ⟨N1, hN1⟩ : ∃ N1, (A[q]'hlq).n = N1 := ⟨_, rfl⟩
                  obtain ⟨N2, hN2⟩ : ∃ N2, (A[m]'hlt).n = N2 := ⟨_, rfl⟩
                  rw [hN1] at x1 qn
                  rw [hN2] at y1 qn
                  clear hN1 hN2
                  go_wp2
                  have kq0 := cell_regrown (w := wr) x1
                  have kq1 := cell_regrown (w := wr) y1
                  refine wp_region_quiet_below (by kernel_rfl) (by kernel_rfl) ?_
                  repeat (go_big_quiet_step (fail))
                  refine wpQuiet_nil ?_
                  rintro _ ⟨⟨dq, osq⟩, rfl⟩
                  have hb8 := below_regrown wr dq osq
                  generalize grow (redrawn wr dq) osq = w8 at *
                  have HZ : Hid (ChS w0 w8 L a1 c1 g1 A (some ⟨g2, 0, none⟩) c2 g2 M a3 c3 g3 ∧ RW 2 lcs w8 (.slice au M.length cu) gu M) := ⟨HI.out.1.later hb8, HI.out.2.later hb8⟩
                  clear kq0 kq1 x1 y1 hb8 HI qn
                  go_wp2
                  go_roundw
                  case rel => exact ⟨true, q + 1, by omega, by omega, rfl, by go_num, hide (fun _ => HB2.out), HZ⟩
                  case measure => simp [intOf]; omega
            · have hme : q = A.length := by omega
              subst hme
              obtain ⟨_, y1, y2⟩ := HI.out.1.2.1.1.chg m hlt
              rw [Nat.zero_add] at y1 y2
              have HCC : Hid (∀ W, Below wr.heap.size wr W → W.cell? ⟨g2, m * 3 + 2, none⟩ = some (.string (A[m]'hlt).v)) := fun W hW => by
                have := (HI.out.1.2.1.later hW).1.chg m hlt
                simpa only [Nat.zero_add] using this.2.2
              have HG := hide (LeafGet_any _ g3 0 M (A[m]'hlt).n wr HI.out.1.2.2.1.1 (small_okU HOK.out))
              have HF : Hid (b = true → LV.getV M (A[m]'hlt).n = (A[m]'hlt).v ∧ LV.getB M (A[m]'hlt).n = !(A[m]'hlt).v.toList.isEmpty) := fun h => by
                rw [← HME.out]
                exact UV.last_counts HA.out.1 (by have := HA.out.2.1; omega) (fun x hx => (HA.out.2.2.2.1 x hx).1) hlt (fun k hk h1 => HB.out h k hk h1 hk)
              generalize (A[m]'hlt).n = N at *
              generalize (A[m]'hlt).v = V at *
              clear HB y2 hlq
              have HZ0 := HI
              clear HI
              generalize LV.getV M N = V1 at *
              generalize LV.getB M N = B1 at *
              go_wp2_with fail
              refine HG.out.mono ?_
              rintro e w5 ⟨rfl, hb5⟩
              have HI : Hid (ChS w0 w5 L a1 c1 g1 A (some ⟨g2, 0, none⟩) c2 g2 M a3 c3 g3 ∧ RW 2 lcs w5 (.slice au M.length cu) gu M) := ⟨HZ0.out.1.later hb5, HZ0.out.2.later hb5⟩
              have y2 := HCC.out _ hb5
              clear HZ0 HG hb5 HCC y1
              cases b
              · clear HF
                go_wp2
                go_roundw
                case rel => exact ⟨m + 1, by omega, by go_num, HI⟩
                case measure => simp [intOf]; omega
              · obtain ⟨rfl, rfl⟩ := HF.out rfl
                clear HF
                cases hv : V1.toList.isEmpty
                · go_wp2
                  go_roundw
                  case rel => exact ⟨m + 1, by omega, by go_num, HI⟩
                  case measure => simp [intOf]; omega
                · go_wp2
                  go_roundw
                  case rel => exact ⟨m + 1, by omega, by go_num, HI⟩
                  case measure => simp [intOf]; omega
        · have hme : m = A.length := by omega
          subst hme
          clear hlt hm HQ2
          have HAN : Hid (LV.LOk L ∧ L.length ≤ 8 ∧ A.length ≤ 7 ∧ (∀ x ∈ A, UV.okU x = true ∧ x.n.size ≤ 12 ∧ x.v.size ≤ 12) ∧ (a1 = none → c1 = 0)) := HA.out
          have hdr := DrawReadChange_any wr _ (HC.out wr HI.out.1.2.2.2)
          go_wp2_with fail
          refine hdr.mono ?_
          rintro e v1 ⟨t, rfl, ht, hv1⟩
          have HI1 : Hid (ChS w0 v1 L a1 c1 g1 A a2 c2 g2 M a3 c3 g3 ∧ RW 2 lcs v1 (.slice au M.length cu) gu M) := ⟨HI.out.1.later hv1, HI.out.2.later hv1⟩
          clear HI hdr hv1 HA
          have hR1 := hide (ReadChange_any t v1 (by omega))
          have HR2 : Hid (∀ W, Calls Try.prog 18 #[.string t] W fun e w' => e = .returned (.tuple #[.agg #[.int .i64 (UV.rdA t).i, .string (UV.rdA t).n, .string (UV.rdA t).v], .bool (UV.rdOk t)]) ∧ Below W.heap.size W w') := fun W => sReadChange_any t W (by omega)
          have HTX : Hid (UV.rdOk t = true → UV.textU (UV.rdA t) = t) := fun h => (UV.rd_text h).2
          have hsz : (UV.rdA t).n.size ≤ 1000 ∧ (UV.rdA t).v.size ≤ 1000 := UV.rd_size t ht
          have HTT : Hid (∀ W, Calls Try.prog 14 #[.agg #[.int .i64 (UV.rdA t).i, .string (UV.rdA t).n, .string (UV.rdA t).v]] W fun e w' => e = .returned (.tuple #[.string (UV.textU (UV.rdA t)), .bool (UV.okU (UV.rdA t))]) ∧ Below W.heap.size W w') := fun W => ChangeText_any (UV.rdA t) W (by omega) (by omega)
          generalize UV.textU (UV.rdA t) = T2 at *
          generalize UV.okU (UV.rdA t) = B2 at *
          generalize UV.rdOk t = R at *
          generalize UV.rdA t = X at *
          clear hsz
          obtain ⟨xi, xn, xv⟩ := X
          simp only at hR1 HR2 HTT
          go_wp2_with fail
          refine hR1.out.mono ?_
          rintro e v2 ⟨rfl, hv2⟩
          have hba : Below v2.heap.size v2 (v2.alloc (.cells #[.int .i64 xi, .string xn, .string xv] 31)) := (Below.refl _ _).alloc (Nat.le_refl _) _
          have HI2 : Hid (ChS w0 (v2.alloc (.cells #[.int .i64 xi, .string xn, .string xv] 31)) L a1 c1 g1 A a2 c2 g2 M a3 c3 g3 ∧ RW 2 lcs (v2.alloc (.cells #[.int .i64 xi, .string xn, .string xv] 31)) (.slice au M.length cu) gu M ∧ BU (v2.alloc (.cells #[.int .i64 xi, .string xn, .string xv] 31)) v2.heap.size ⟨xi, xn, xv⟩) := ⟨(HI1.out.1.later hv2).later hba, (HI1.out.2.later hv2).later hba, BU.new v2 ⟨xi, xn, xv⟩⟩
          clear hR1 hv2 HI1 hba
          go_wp2_with fail
          refine (HR2.out _).mono ?_
          rintro e v3 ⟨rfl, hv3⟩
          have HI3 : Hid (ChS w0 (v3.alloc (.cells #[.int .i64 xi, .string xn, .string xv] 31)) L a1 c1 g1 A a2 c2 g2 M a3 c3 g3 ∧ RW 2 lcs (v3.alloc (.cells #[.int .i64 xi, .string xn, .string xv] 31)) (.slice au M.length cu) gu M ∧ BU (v3.alloc (.cells #[.int .i64 xi, .string xn, .string xv] 31)) v2.heap.size ⟨xi, xn, xv⟩) := by
            have hbb : Below v3.heap.size v3 (v3.alloc (.cells #[.int .i64 xi, .string xn, .string xv] 31)) := (Below.refl _ _).alloc (Nat.le_refl _) _
            exact ⟨(HI2.out.1.later hv3).later hbb, (HI2.out.2.1.later hv3).later hbb, (HI2.out.2.2.later hv3).later hbb⟩
          clear HR2 hv3 HI2
          have y0 := HI3.out.2.2.c0
          have y1 := HI3.out.2.2.c1
          have y2 := HI3.out.2.2.c2
          simp only at y0 y1 y2
          go_wp2_with fail
          refine (HTT.out _).mono ?_
          rintro e v4 ⟨rfl, hv4⟩
          have HI4 : Hid (ChS w0 v4 L a1 c1 g1 A a2 c2 g2 M a3 c3 g3 ∧ RW 2 lcs v4 (.slice au M.length cu) gu M) := ⟨HI3.out.1.later hv4, HI3.out.2.1.later hv4⟩
          clear HTT hv4 HI3 y0 y1 y2
          have hdc := hide (DrawChangeOk_any v4 _ (HC.out v4 HI4.out.1.2.2.2))
          go_wp2_with fail
          refine hdc.out.mono ?_
          rintro e v5 ⟨Y, rfl, hY, hv5⟩
          have hba : Below v5.heap.size v5 (v5.alloc (.cells #[.int .i64 Y.i, .string Y.n, .string Y.v] 31)) := (Below.refl _ _).alloc (Nat.le_refl _) _
          have HI5 : Hid (ChS w0 (v5.alloc (.cells #[.int .i64 Y.i, .string Y.n, .string Y.v] 31)) L a1 c1 g1 A a2 c2 g2 M a3 c3 g3 ∧ RW 2 lcs (v5.alloc (.cells #[.int .i64 Y.i, .string Y.n, .string Y.v] 31)) (.slice au M.length cu) gu M ∧ BU (v5.alloc (.cells #[.int .i64 Y.i, .string Y.n, .string Y.v] 31)) v5.heap.size Y) := ⟨(HI4.out.1.later hv5).later hba, (HI4.out.2.later hv5).later hba, BU.new v5 Y⟩
          clear hdc hv5 HI4 hba HC
          go_wp2_with fail
          have hYn := hY.1
          have hYv := hY.2
          generalize hwS : v5.alloc (.cells #[.int .i64 Y.i, .string Y.n, .string Y.v] 31) = wS at *
          generalize hpp : v5.heap.size = pp at *
          clear hwS hpp
          have HSL : Hid (∀ W, Below wS.heap.size wS W → Calls Try.prog 20 #[.slice au M.length cu, .slice a3 M.length c3] W fun e w' => ∃ r, e = .returned r ∧ (r = .bool true ∧ Below W.heap.size W w')) := fun W hW => Calls.ret1 (sameLeaves_yes _ _ gu 0 g3 0 M W (HI5.out.2.1.later hW).1 (HI5.out.1.2.2.1.later hW).1)
          have HLO : Hid (∀ W, Below wS.heap.size wS W → Calls Try.prog 21 #[.slice a3 M.length c3] W fun e w' => ∃ r, e = .returned r ∧ (r = .bool true ∧ Below W.heap.size W w')) := fun W hW => by
            have h := LeavesOk_any _ g3 0 M W (HI5.out.1.2.2.1.later hW).1 (small_okU HOK.out)
            rw [LV.leavesB_iff.2 HOK.out] at h
            exact Calls.ret1 h
          have HC1 : Hid (∀ W, Calls Try.prog 22 #[.agg #[.int .i64 Y.i, .string Y.n, .string Y.v]] W fun e w' => ∃ r, e = .returned r ∧ (r = .bool (UV.okU Y) ∧ Below W.heap.size W w')) := fun W => Calls.ret1 (ChangeOk_any Y W (by omega) (by omega))
          have HC2 : Hid (∀ W, Calls Try.prog 23 #[.agg #[.int .i64 Y.i, .string Y.n, .string Y.v]] W fun e w' => ∃ r, e = .returned r ∧ (r = .bool (UV.okU Y) ∧ Below W.heap.size W w')) := fun W => Calls.ret1 (sChangeOk_any Y W (by omega) (by omega))
          have HAL : Hid (∀ W, Below wS.heap.size wS W → Calls Try.prog 24 #[.slice a1 L.length c1, .slice a2 A.length c2] W fun e w' => ∃ r, e = .returned r ∧ ∃ a cap g, r = .slice a M.length cap ∧ RW 2 lcs w' (.slice a M.length cap) g M ∧ Below W.heap.size W w') := fun W hW => by
            have h := sApplyAll_any a1 c1 g1 0 L _ g2 0 A W (HI5.out.1.1.later hW).1 HAN.out.2.2.2.2 (small_okU HAN.out.1) (by have := HAN.out.2.1; omega) (HI5.out.1.2.1.later hW).1 (fun x hx => ⟨by have := (HAN.out.2.2.2.1 x hx).2.1; omega, by have := (HAN.out.2.2.2.1 x hx).2.2; omega⟩)
            unfold ApN at h
            rw [HME.out] at h
            exact h.mono fun e w' ⟨a, cap, g, k1, k2, _, k4, _⟩ => ⟨_, k1, a, cap, g, rfl, k2, k4⟩
          have HS2 : Hid (∀ W a cap g, Below wS.heap.size wS W → RW 2 lcs W (.slice a M.length cap) g M → Calls Try.prog 20 #[.slice a3 M.length c3, .slice a M.length cap] W fun e w' => ∃ r, e = .returned r ∧ (r = .bool true ∧ Below W.heap.size W w')) := fun W a cap g hW h => Calls.ret1 (sameLeaves_yes _ _ g3 0 g 0 M W (HI5.out.1.2.2.1.later hW).1 h.1)
          have HS : Hid (∀ W, Below wS.heap.size wS W → W.rangeAt pp 0 (ucs Y)) := fun W hW => (HI5.out.2.2.later hW).range
          have HBW : Hid (∀ W, Below wS.heap.size wS W → Below w0.heap.size w0 W) := fun W hW => HI5.out.1.2.2.2.trans (hW.mono HI5.out.1.2.2.2.size)
          generalize UV.okU Y = OY at *
          obtain ⟨yi, yn, yv⟩ := Y
          simp only at HC1 HC2 HS
          generalize M.length = km at *
          generalize L.length = kl at *
          generalize A.length = ka at *
          clear HI5 HOK HAN HME hY hYn hYv ht
          have hb0 : Below wS.heap.size wS wS.drew := (Below.refl _ _).drew
          have q1 : (OY == OY) = true := by simp
          cases R
          · clear HTX
            refine wp_abs (fun a => FR 186 a [(6, .slice au km cu), (5, .slice a3 km c3), (19, .bool false), (21, .bool false), (22, .string T2), (17, .string t), (24, .pointer (some ⟨pp, 0, none⟩)), (3, .slice a1 kl c1), (4, .slice a2 ka c2)]) ⟨rfl, rfl, fun p hp => by simp only [List.mem_cons, List.not_mem_nil, or_false] at hp; rcases hp with rfl | rfl | rfl | rfl | rfl | rfl | rfl | rfl | rfl <;> rfl⟩ (fun a F => ?_)
            refine wp_region_held_drew (S := fun W => W.rangeAt pp 0 (ucs ⟨yi, yn, yv⟩)) (by kernel_rfl) (HS.out _ hb0) (fun hH => ?_)
            have r6 := F.get 6 (.slice au km cu) (by simp)
            refine takeF (i := 0) (v := .slice au km cu) rfl (by kernel_rfl) (by kernel_rfl) (by kernel_rfl) (fun _ _ _ h => h) (Or.inl ⟨by rfl, fun w hw => by go_simp⟩) hH 151 rfl F (by decide) (by simp) (fun a F => ?_)
            clear r6
            have r5 := F.get 5 (.slice a3 km c3) (by simp)
            refine takeF (i := 1) (v := .slice a3 km c3) rfl (by kernel_rfl) (by kernel_rfl) (by kernel_rfl) (fun _ _ _ h => h) (Or.inl ⟨by rfl, fun w hw => by go_simp⟩) hH 152 rfl F (by decide) (by simp) (fun a F => ?_)
            clear r5
            refine wpAnyH_ready (rs := [2]) (by kernel_rfl) (by simp) ?_
            refine AllReadyH.cons rfl (fun K' hK' => ?_) AllReadyH.nil
            refine step_laws_sameLeaves (by rfl) 151 152 _ rfl _ _ _ (F.get 151 _ (by simp)) (F.get 152 _ (by simp)) (HSL.out _ hb0) ?_
            rintro rv1 xw1 ⟨rfl, k1⟩
            have hb1 := hb0.trans (k1.mono hb0.size)
            refine openK (v := .bool true) 153 rfl F (by decide) (by simp) (fun a F => ?_)
            refine hK'.out _ _ (HS.out _ hb1) (fun hH => ?_)
            have r153 := F.get 153 (.bool true) (by simp)
            refine takeF (i := 3) (v := .bool true) rfl (by kernel_rfl) (by kernel_rfl) (by kernel_rfl) (fun _ _ _ h => h) (Or.inl ⟨by rfl, fun w hw => by go_simp⟩) hH 154 rfl F (by decide) (by simp) (fun a F => ?_)
            clear r153
            have r5 := F.get 5 (.slice a3 km c3) (by simp)
            refine takeF (i := 4) (v := .slice a3 km c3) rfl (by kernel_rfl) (by kernel_rfl) (by kernel_rfl) (fun _ _ _ h => h) (Or.inl ⟨wanted_of 3 true 154 rfl rfl (F.at 154 _ (by simp)), fun w hw => by go_simp⟩) hH 155 rfl F (by decide) (by simp) (fun a F => ?_)
            clear r5
            refine wpAnyH_ready (rs := [5]) (by kernel_rfl) (by simp) ?_
            refine AllReadyH.cons rfl (fun K' hK' => ?_) AllReadyH.nil
            refine step_impl_LeavesOk (wanted_of 3 true 154 rfl rfl (F.at 154 _ (by simp))) 155 _ rfl _ _ (F.get 155 _ (by simp)) (HLO.out _ hb1) ?_
            rintro rv2 xw2 ⟨rfl, k2⟩
            have hb2 := hb1.trans (k2.mono hb1.size)
            refine openK (v := .bool true) 156 rfl F (by decide) (by simp) (fun a F => ?_)
            refine hK'.out _ _ (HS.out _ hb2) (fun hH => ?_)
            have r154 := F.get 154 (.bool true) (by simp)
            have r156 := F.get 156 (.bool true) (by simp)
            refine takeF (i := 6) (v := .bool true) rfl (by kernel_rfl) (by kernel_rfl) (by kernel_rfl) (fun _ _ _ h => h) (Or.inl ⟨by rfl, fun w hw => by go_simp⟩) hH 157 rfl F (by decide) (by simp) (fun a F => ?_)
            clear r154 r156
            have r157 := F.get 157 (.bool true) (by simp)
            refine takeF (i := 7) (v := .bool true) rfl (by kernel_rfl) (by kernel_rfl) (by kernel_rfl) (fun _ _ _ h => h) (Or.inl ⟨by rfl, fun w hw => by go_simp⟩) hH 158 rfl F (by decide) (by simp) (fun a F => ?_)
            clear r157
            have r19 := F.get 19 (.bool false) (by simp)
            refine takeF (i := 8) (v := .bool false) rfl (by kernel_rfl) (by kernel_rfl) (by kernel_rfl) (fun _ _ _ h => h) (Or.inl ⟨wanted_of 7 true 158 rfl rfl (F.at 158 _ (by simp)), fun w hw => by go_simp⟩) hH 159 rfl F (by decide) (by simp) (fun a F => ?_)
            clear r19
            have r21 := F.get 21 (.bool false) (by simp)
            refine takeF (i := 9) (v := .bool false) rfl (by kernel_rfl) (by kernel_rfl) (by kernel_rfl) (fun _ _ _ h => h) (Or.inl ⟨wanted_of 7 true 158 rfl rfl (F.at 158 _ (by simp)), fun w hw => by go_simp⟩) hH 160 rfl F (by decide) (by simp) (fun a F => ?_)
            clear r21
            have r159 := F.get 159 (.bool false) (by simp)
            have r160 := F.get 160 (.bool false) (by simp)
            refine takeF (i := 10) (v := .bool true) rfl (by kernel_rfl) (by kernel_rfl) (by kernel_rfl) (fun _ _ _ h => h) (Or.inl ⟨wanted_of 7 true 158 rfl rfl (F.at 158 _ (by simp)), fun w hw => by go_simp⟩) hH 161 rfl F (by decide) (by simp) (fun a F => ?_)
            clear r159 r160
            have r158 := F.get 158 (.bool true) (by simp)
            have r161 := F.get 161 (.bool true) (by simp)
            refine takeF (i := 11) (v := .bool true) rfl (by kernel_rfl) (by kernel_rfl) (by kernel_rfl) (fun _ _ _ h => h) (Or.inl ⟨by rfl, fun w hw => by go_simp⟩) hH 162 rfl F (by decide) (by simp) (fun a F => ?_)
            clear r158 r161
            have r162 := F.get 162 (.bool true) (by simp)
            refine takeF (i := 12) (v := .bool true) rfl (by kernel_rfl) (by kernel_rfl) (by kernel_rfl) (fun _ _ _ h => h) (Or.inl ⟨by rfl, fun w hw => by go_simp⟩) hH 163 rfl F (by decide) (by simp) (fun a F => ?_)
            clear r162
            have r19 := F.get 19 (.bool false) (by simp)
            refine takeF (i := 13) (v := .bool false) rfl (by kernel_rfl) (by kernel_rfl) (by kernel_rfl) (fun _ _ _ h => h) (Or.inl ⟨wanted_of 12 true 163 rfl rfl (F.at 163 _ (by simp)), fun w hw => by go_simp⟩) hH 164 rfl F (by decide) (by simp) (fun a F => ?_)
            clear r19
            have r164 := F.get 164 (.bool false) (by simp)
            refine takeF (i := 14) (v := .bool true) rfl (by kernel_rfl) (by kernel_rfl) (by kernel_rfl) (fun _ _ _ h => h) (Or.inl ⟨wanted_of 12 true 163 rfl rfl (F.at 163 _ (by simp)), fun w hw => by go_simp⟩) hH 165 rfl F (by decide) (by simp) (fun a F => ?_)
            clear r164
            have r165 := F.get 165 (.bool true) (by simp)
            refine takeF (i := 15) (v := .bool true) rfl (by kernel_rfl) (by kernel_rfl) (by kernel_rfl) (fun _ _ _ h => h) (Or.inl ⟨wanted_of 12 true 163 rfl rfl (F.at 163 _ (by simp)), fun w hw => by go_simp⟩) hH 166 rfl F (by decide) (by simp) (fun a F => ?_)
            clear r165
            refine takeF (i := 16) (v := undef) rfl (by kernel_rfl) (by kernel_rfl) (by kernel_rfl) (fun _ _ _ h => h) (Or.inr ⟨unwanted_of 15 false 166 rfl rfl (F.at 166 _ (by simp)), rfl⟩) hH 167 rfl F (by decide) (by simp) (fun a F => ?_)
            refine takeF (i := 17) (v := undef) rfl (by kernel_rfl) (by kernel_rfl) (by kernel_rfl) (fun _ _ _ h => h) (Or.inr ⟨unwanted_of 15 false 166 rfl rfl (F.at 166 _ (by simp)), rfl⟩) hH 168 rfl F (by decide) (by simp) (fun a F => ?_)
            refine takeF (i := 18) (v := undef) rfl (by kernel_rfl) (by kernel_rfl) (by kernel_rfl) (fun _ _ _ h => h) (Or.inr ⟨unwanted_of 15 false 166 rfl rfl (F.at 166 _ (by simp)), rfl⟩) hH 169 rfl F (by decide) (by simp) (fun a F => ?_)
            have r166 := F.get 166 (.bool true) (by simp)
            have r169 := F.get 169 (undef) (by simp)
            refine takeF (i := 19) (v := .bool true) rfl (by kernel_rfl) (by kernel_rfl) (by kernel_rfl) (fun _ _ _ h => h) (Or.inl ⟨wanted_of 12 true 163 rfl rfl (F.at 163 _ (by simp)), fun w hw => by go_simp⟩) hH 170 rfl F (by decide) (by simp) (fun a F => ?_)
            clear r166 r169
            have r163 := F.get 163 (.bool true) (by simp)
            have r170 := F.get 170 (.bool true) (by simp)
            refine takeF (i := 20) (v := .bool true) rfl (by kernel_rfl) (by kernel_rfl) (by kernel_rfl) (fun _ _ _ h => h) (Or.inl ⟨by rfl, fun w hw => by go_simp⟩) hH 171 rfl F (by decide) (by simp) (fun a F => ?_)
            clear r163 r170
            have r171 := F.get 171 (.bool true) (by simp)
            refine takeF (i := 21) (v := .bool true) rfl (by kernel_rfl) (by kernel_rfl) (by kernel_rfl) (fun _ _ _ h => h) (Or.inl ⟨by rfl, fun w hw => by go_simp⟩) hH 172 rfl F (by decide) (by simp) (fun a F => ?_)
            clear r171
            refine takeF (i := 22) (v := .agg #[.int .i64 yi, .string yn, .string yv]) rfl (by kernel_rfl) (by kernel_rfl) (by kernel_rfl) (fun _ _ _ h => h) (yieldsIf_load_mid (wanted_of 21 true 172 rfl rfl (F.at 172 _ (by simp))) _ _ rfl pp 0 (F.eval 24 _ (by simp)) (ucs ⟨yi, yn, yv⟩) _ (fun w h => h) Try.underlying31 rfl sizeChange) hH 173 rfl F (by decide) (by simp) (fun a F => ?_)
            refine takeF (i := 24) (v := .agg #[.int .i64 yi, .string yn, .string yv]) rfl (by kernel_rfl) (by kernel_rfl) (by kernel_rfl) (fun _ _ _ h => h) (yieldsIf_load_mid (wanted_of 21 true 172 rfl rfl (F.at 172 _ (by simp))) _ _ rfl pp 0 (F.eval 24 _ (by simp)) (ucs ⟨yi, yn, yv⟩) _ (fun w h => h) Try.underlying31 rfl sizeChange) hH 175 rfl F (by decide) (by simp) (fun a F => ?_)
            refine wpAnyH_ready (rs := [23]) (by kernel_rfl) (by simp) ?_
            refine AllReadyH.cons rfl (fun K' hK' => ?_) AllReadyH.nil
            refine step_impl_ChangeOk (wanted_of 21 true 172 rfl rfl (F.at 172 _ (by simp))) 173 _ rfl _ _ (F.get 173 _ (by simp)) (HC1.out _) ?_
            rintro rv3 xw3 ⟨rfl, k3⟩
            have hb3 := hb2.trans (k3.mono hb2.size)
            refine openK (v := .bool OY) 174 rfl F (by decide) (by simp) (fun a F => ?_)
            refine hK'.out _ _ (HS.out _ hb3) (fun hH => ?_)
            refine wpAnyH_ready (rs := [25]) (by kernel_rfl) (by simp) ?_
            refine AllReadyH.cons rfl (fun K' hK' => ?_) AllReadyH.nil
            refine step_spec_ChangeOk (wanted_of 21 true 172 rfl rfl (F.at 172 _ (by simp))) 175 _ rfl _ _ (F.get 175 _ (by simp)) (HC2.out _) ?_
            rintro rv4 xw4 ⟨rfl, k4⟩
            have hb4 := hb3.trans (k4.mono hb3.size)
            refine openK (v := .bool OY) 176 rfl F (by decide) (by simp) (fun a F => ?_)
            refine hK'.out _ _ (HS.out _ hb4) (fun hH => ?_)
            have r174 := F.get 174 (.bool OY) (by simp)
            have r176 := F.get 176 (.bool OY) (by simp)
            refine takeF (i := 26) (v := .bool true) rfl (by kernel_rfl) (by kernel_rfl) (by kernel_rfl) (fun _ _ _ h => h) (Or.inl ⟨wanted_of 21 true 172 rfl rfl (F.at 172 _ (by simp)), fun w hw => by go_simp⟩) hH 177 rfl F (by decide) (by simp) (fun a F => ?_)
            clear r174 r176
            have r172 := F.get 172 (.bool true) (by simp)
            have r177 := F.get 177 (.bool true) (by simp)
            refine takeF (i := 27) (v := .bool true) rfl (by kernel_rfl) (by kernel_rfl) (by kernel_rfl) (fun _ _ _ h => h) (Or.inl ⟨by rfl, fun w hw => by go_simp⟩) hH 178 rfl F (by decide) (by simp) (fun a F => ?_)
            clear r172 r177
            have r178 := F.get 178 (.bool true) (by simp)
            refine takeF (i := 28) (v := .bool true) rfl (by kernel_rfl) (by kernel_rfl) (by kernel_rfl) (fun _ _ _ h => h) (Or.inl ⟨by rfl, fun w hw => by go_simp⟩) hH 179 rfl F (by decide) (by simp) (fun a F => ?_)
            clear r178
            have r5 := F.get 5 (.slice a3 km c3) (by simp)
            refine takeF (i := 29) (v := .slice a3 km c3) rfl (by kernel_rfl) (by kernel_rfl) (by kernel_rfl) (fun _ _ _ h => h) (Or.inl ⟨wanted_of 28 true 179 rfl rfl (F.at 179 _ (by simp)), fun w hw => by go_simp⟩) hH 180 rfl F (by decide) (by simp) (fun a F => ?_)
            clear r5
            have r3 := F.get 3 (.slice a1 kl c1) (by simp)
            refine takeF (i := 30) (v := .slice a1 kl c1) rfl (by kernel_rfl) (by kernel_rfl) (by kernel_rfl) (fun _ _ _ h => h) (Or.inl ⟨wanted_of 28 true 179 rfl rfl (F.at 179 _ (by simp)), fun w hw => by go_simp⟩) hH 181 rfl F (by decide) (by simp) (fun a F => ?_)
            clear r3
            have r4 := F.get 4 (.slice a2 ka c2) (by simp)
            refine takeF (i := 31) (v := .slice a2 ka c2) rfl (by kernel_rfl) (by kernel_rfl) (by kernel_rfl) (fun _ _ _ h => h) (Or.inl ⟨wanted_of 28 true 179 rfl rfl (F.at 179 _ (by simp)), fun w hw => by go_simp⟩) hH 182 rfl F (by decide) (by simp) (fun a F => ?_)
            clear r4
            refine wpAnyH_ready (rs := [32]) (by kernel_rfl) (by simp) ?_
            refine AllReadyH.cons rfl (fun K' hK' => ?_) AllReadyH.nil
            refine step_spec_ApplyAll (wanted_of 28 true 179 rfl rfl (F.at 179 _ (by simp))) 181 182 _ rfl _ _ _ (F.get 181 _ (by simp)) (F.get 182 _ (by simp)) (HAL.out _ hb4) ?_
            rintro rv5 xw5 ⟨a5, c5, g5, rfl, kr, k5⟩
            have hb5 := hb4.trans (k5.mono hb4.size)
            refine openK (v := .slice a5 km c5) 183 rfl F (by decide) (by simp) (fun a F => ?_)
            refine hK'.out _ _ (HS.out _ hb5) (fun hH => ?_)
            refine wpAnyH_ready (rs := [33]) (by kernel_rfl) (by simp) ?_
            refine AllReadyH.cons rfl (fun K' hK' => ?_) AllReadyH.nil
            refine step_laws_sameLeaves (wanted_of 28 true 179 rfl rfl (F.at 179 _ (by simp))) 180 183 _ rfl _ _ _ (F.get 180 _ (by simp)) (F.get 183 _ (by simp)) (HS2.out _ _ _ _ hb5 kr) ?_
            rintro rv6 xw6 ⟨rfl, k6⟩
            have hb6 := hb5.trans (k6.mono hb5.size)
            refine openK (v := .bool true) 184 rfl F (by decide) (by simp) (fun a F => ?_)
            refine hK'.out _ _ (HS.out _ hb6) (fun hH => ?_)
            have r179 := F.get 179 (.bool true) (by simp)
            have r184 := F.get 184 (.bool true) (by simp)
            refine takeF (i := 34) (v := .bool true) rfl (by kernel_rfl) (by kernel_rfl) (by kernel_rfl) (fun _ _ _ h => h) (Or.inl ⟨by rfl, fun w hw => by go_simp⟩) hH 185 rfl F (by decide) (by simp) (fun a F => ?_)
            clear r179 r184
            have r185 := F.get 185 (.bool true) (by simp)
            refine takeF (i := 35) (v := .bool true) rfl (by kernel_rfl) (by kernel_rfl) (by kernel_rfl) (fun _ _ _ h => h) (Or.inl ⟨by rfl, fun w hw => by go_simp⟩) hH 2 rfl F (by decide) (by simp) (fun a F => ?_)
            clear r185
            refine wpAnyH_done (by kernel_rfl) ?_ _
            have hbF := HBW.out _ hb6
            have hd := F.2.1
            have r2 := F.get 2 (.bool true) (by simp)
            clear HSL HLO HC1 HC2 HAL HS2 HS HBW hH F
            go_wp2
            exact ret_tmpF 2 (.bool true) rfl hd r2 ⟨rfl, hbF⟩
          · have hT := HTX.out rfl
            subst hT
            have q3 : (T2.toList == T2.toList) = true := by simp
            clear HTX
            refine wp_abs (fun a => FR 186 a [(6, .slice au km cu), (5, .slice a3 km c3), (19, .bool true), (21, .bool true), (22, .string T2), (17, .string T2), (24, .pointer (some ⟨pp, 0, none⟩)), (3, .slice a1 kl c1), (4, .slice a2 ka c2)]) ⟨rfl, rfl, fun p hp => by simp only [List.mem_cons, List.not_mem_nil, or_false] at hp; rcases hp with rfl | rfl | rfl | rfl | rfl | rfl | rfl | rfl | rfl <;> rfl⟩ (fun a F => ?_)
            refine wp_region_held_drew (S := fun W => W.rangeAt pp 0 (ucs ⟨yi, yn, yv⟩)) (by kernel_rfl) (HS.out _ hb0) (fun hH => ?_)
            have r6 := F.get 6 (.slice au km cu) (by simp)
            refine takeF (i := 0) (v := .slice au km cu) rfl (by kernel_rfl) (by kernel_rfl) (by kernel_rfl) (fun _ _ _ h => h) (Or.inl ⟨by rfl, fun w hw => by go_simp⟩) hH 151 rfl F (by decide) (by simp) (fun a F => ?_)
            clear r6
            have r5 := F.get 5 (.slice a3 km c3) (by simp)
            refine takeF (i := 1) (v := .slice a3 km c3) rfl (by kernel_rfl) (by kernel_rfl) (by kernel_rfl) (fun _ _ _ h => h) (Or.inl ⟨by rfl, fun w hw => by go_simp⟩) hH 152 rfl F (by decide) (by simp) (fun a F => ?_)
            clear r5
            refine wpAnyH_ready (rs := [2]) (by kernel_rfl) (by simp) ?_
            refine AllReadyH.cons rfl (fun K' hK' => ?_) AllReadyH.nil
            refine step_laws_sameLeaves (by rfl) 151 152 _ rfl _ _ _ (F.get 151 _ (by simp)) (F.get 152 _ (by simp)) (HSL.out _ hb0) ?_
            rintro rv1 xw1 ⟨rfl, k1⟩
            have hb1 := hb0.trans (k1.mono hb0.size)
            refine openK (v := .bool true) 153 rfl F (by decide) (by simp) (fun a F => ?_)
            refine hK'.out _ _ (HS.out _ hb1) (fun hH => ?_)
            have r153 := F.get 153 (.bool true) (by simp)
            refine takeF (i := 3) (v := .bool true) rfl (by kernel_rfl) (by kernel_rfl) (by kernel_rfl) (fun _ _ _ h => h) (Or.inl ⟨by rfl, fun w hw => by go_simp⟩) hH 154 rfl F (by decide) (by simp) (fun a F => ?_)
            clear r153
            have r5 := F.get 5 (.slice a3 km c3) (by simp)
            refine takeF (i := 4) (v := .slice a3 km c3) rfl (by kernel_rfl) (by kernel_rfl) (by kernel_rfl) (fun _ _ _ h => h) (Or.inl ⟨wanted_of 3 true 154 rfl rfl (F.at 154 _ (by simp)), fun w hw => by go_simp⟩) hH 155 rfl F (by decide) (by simp) (fun a F => ?_)
            clear r5
            refine wpAnyH_ready (rs := [5]) (by kernel_rfl) (by simp) ?_
            refine AllReadyH.cons rfl (fun K' hK' => ?_) AllReadyH.nil
            refine step_impl_LeavesOk (wanted_of 3 true 154 rfl rfl (F.at 154 _ (by simp))) 155 _ rfl _ _ (F.get 155 _ (by simp)) (HLO.out _ hb1) ?_
            rintro rv2 xw2 ⟨rfl, k2⟩
            have hb2 := hb1.trans (k2.mono hb1.size)
            refine openK (v := .bool true) 156 rfl F (by decide) (by simp) (fun a F => ?_)
            refine hK'.out _ _ (HS.out _ hb2) (fun hH => ?_)
            have r154 := F.get 154 (.bool true) (by simp)
            have r156 := F.get 156 (.bool true) (by simp)
            refine takeF (i := 6) (v := .bool true) rfl (by kernel_rfl) (by kernel_rfl) (by kernel_rfl) (fun _ _ _ h => h) (Or.inl ⟨by rfl, fun w hw => by go_simp⟩) hH 157 rfl F (by decide) (by simp) (fun a F => ?_)
            clear r154 r156
            have r157 := F.get 157 (.bool true) (by simp)
            refine takeF (i := 7) (v := .bool true) rfl (by kernel_rfl) (by kernel_rfl) (by kernel_rfl) (fun _ _ _ h => h) (Or.inl ⟨by rfl, fun w hw => by go_simp⟩) hH 158 rfl F (by decide) (by simp) (fun a F => ?_)
            clear r157
            have r19 := F.get 19 (.bool true) (by simp)
            refine takeF (i := 8) (v := .bool true) rfl (by kernel_rfl) (by kernel_rfl) (by kernel_rfl) (fun _ _ _ h => h) (Or.inl ⟨wanted_of 7 true 158 rfl rfl (F.at 158 _ (by simp)), fun w hw => by go_simp⟩) hH 159 rfl F (by decide) (by simp) (fun a F => ?_)
            clear r19
            have r21 := F.get 21 (.bool true) (by simp)
            refine takeF (i := 9) (v := .bool true) rfl (by kernel_rfl) (by kernel_rfl) (by kernel_rfl) (fun _ _ _ h => h) (Or.inl ⟨wanted_of 7 true 158 rfl rfl (F.at 158 _ (by simp)), fun w hw => by go_simp⟩) hH 160 rfl F (by decide) (by simp) (fun a F => ?_)
            clear r21
            have r159 := F.get 159 (.bool true) (by simp)
            have r160 := F.get 160 (.bool true) (by simp)
            refine takeF (i := 10) (v := .bool true) rfl (by kernel_rfl) (by kernel_rfl) (by kernel_rfl) (fun _ _ _ h => h) (Or.inl ⟨wanted_of 7 true 158 rfl rfl (F.at 158 _ (by simp)), fun w hw => by go_simp⟩) hH 161 rfl F (by decide) (by simp) (fun a F => ?_)
            clear r159 r160
            have r158 := F.get 158 (.bool true) (by simp)
            have r161 := F.get 161 (.bool true) (by simp)
            refine takeF (i := 11) (v := .bool true) rfl (by kernel_rfl) (by kernel_rfl) (by kernel_rfl) (fun _ _ _ h => h) (Or.inl ⟨by rfl, fun w hw => by go_simp⟩) hH 162 rfl F (by decide) (by simp) (fun a F => ?_)
            clear r158 r161
            have r162 := F.get 162 (.bool true) (by simp)
            refine takeF (i := 12) (v := .bool true) rfl (by kernel_rfl) (by kernel_rfl) (by kernel_rfl) (fun _ _ _ h => h) (Or.inl ⟨by rfl, fun w hw => by go_simp⟩) hH 163 rfl F (by decide) (by simp) (fun a F => ?_)
            clear r162
            have r19 := F.get 19 (.bool true) (by simp)
            refine takeF (i := 13) (v := .bool true) rfl (by kernel_rfl) (by kernel_rfl) (by kernel_rfl) (fun _ _ _ h => h) (Or.inl ⟨wanted_of 12 true 163 rfl rfl (F.at 163 _ (by simp)), fun w hw => by go_simp⟩) hH 164 rfl F (by decide) (by simp) (fun a F => ?_)
            clear r19
            have r164 := F.get 164 (.bool true) (by simp)
            refine takeF (i := 14) (v := .bool false) rfl (by kernel_rfl) (by kernel_rfl) (by kernel_rfl) (fun _ _ _ h => h) (Or.inl ⟨wanted_of 12 true 163 rfl rfl (F.at 163 _ (by simp)), fun w hw => by go_simp⟩) hH 165 rfl F (by decide) (by simp) (fun a F => ?_)
            clear r164
            have r165 := F.get 165 (.bool false) (by simp)
            refine takeF (i := 15) (v := .bool false) rfl (by kernel_rfl) (by kernel_rfl) (by kernel_rfl) (fun _ _ _ h => h) (Or.inl ⟨wanted_of 12 true 163 rfl rfl (F.at 163 _ (by simp)), fun w hw => by go_simp⟩) hH 166 rfl F (by decide) (by simp) (fun a F => ?_)
            clear r165
            have r22 := F.get 22 (.string T2) (by simp)
            refine takeF (i := 16) (v := .string T2) rfl (by kernel_rfl) (by kernel_rfl) (by kernel_rfl) (fun _ _ _ h => h) (Or.inl ⟨wanted_of 15 false 166 rfl rfl (F.at 166 _ (by simp)), fun w hw => by go_simp⟩) hH 167 rfl F (by decide) (by simp) (fun a F => ?_)
            clear r22
            have r17 := F.get 17 (.string T2) (by simp)
            refine takeF (i := 17) (v := .string T2) rfl (by kernel_rfl) (by kernel_rfl) (by kernel_rfl) (fun _ _ _ h => h) (Or.inl ⟨wanted_of 15 false 166 rfl rfl (F.at 166 _ (by simp)), fun w hw => by go_simp⟩) hH 168 rfl F (by decide) (by simp) (fun a F => ?_)
            clear r17
            have r167 := F.get 167 (.string T2) (by simp)
            have r168 := F.get 168 (.string T2) (by simp)
            refine takeF (i := 18) (v := .bool true) rfl (by kernel_rfl) (by kernel_rfl) (by kernel_rfl) (fun _ _ _ h => h) (Or.inl ⟨wanted_of 15 false 166 rfl rfl (F.at 166 _ (by simp)), fun w hw => by go_simp⟩) hH 169 rfl F (by decide) (by simp) (fun a F => ?_)
            clear r167 r168
            have r166 := F.get 166 (.bool false) (by simp)
            have r169 := F.get 169 (.bool true) (by simp)
            refine takeF (i := 19) (v := .bool true) rfl (by kernel_rfl) (by kernel_rfl) (by kernel_rfl) (fun _ _ _ h => h) (Or.inl ⟨wanted_of 12 true 163 rfl rfl (F.at 163 _ (by simp)), fun w hw => by go_simp⟩) hH 170 rfl F (by decide) (by simp) (fun a F => ?_)
            clear r166 r169
            have r163 := F.get 163 (.bool true) (by simp)
            have r170 := F.get 170 (.bool true) (by simp)
            refine takeF (i := 20) (v := .bool true) rfl (by kernel_rfl) (by kernel_rfl) (by kernel_rfl) (fun _ _ _ h => h) (Or.inl ⟨by rfl, fun w hw => by go_simp⟩) hH 171 rfl F (by decide) (by simp) (fun a F => ?_)
            clear r163 r170
            have r171 := F.get 171 (.bool true) (by simp)
            refine takeF (i := 21) (v := .bool true) rfl (by kernel_rfl) (by kernel_rfl) (by kernel_rfl) (fun _ _ _ h => h) (Or.inl ⟨by rfl, fun w hw => by go_simp⟩) hH 172 rfl F (by decide) (by simp) (fun a F => ?_)
            clear r171
            refine takeF (i := 22) (v := .agg #[.int .i64 yi, .string yn, .string yv]) rfl (by kernel_rfl) (by kernel_rfl) (by kernel_rfl) (fun _ _ _ h => h) (yieldsIf_load_mid (wanted_of 21 true 172 rfl rfl (F.at 172 _ (by simp))) _ _ rfl pp 0 (F.eval 24 _ (by simp)) (ucs ⟨yi, yn, yv⟩) _ (fun w h => h) Try.underlying31 rfl sizeChange) hH 173 rfl F (by decide) (by simp) (fun a F => ?_)
            refine takeF (i := 24) (v := .agg #[.int .i64 yi, .string yn, .string yv]) rfl (by kernel_rfl) (by kernel_rfl) (by kernel_rfl) (fun _ _ _ h => h) (yieldsIf_load_mid (wanted_of 21 true 172 rfl rfl (F.at 172 _ (by simp))) _ _ rfl pp 0 (F.eval 24 _ (by simp)) (ucs ⟨yi, yn, yv⟩) _ (fun w h => h) Try.underlying31 rfl sizeChange) hH 175 rfl F (by decide) (by simp) (fun a F => ?_)
            refine wpAnyH_ready (rs := [23]) (by kernel_rfl) (by simp) ?_
            refine AllReadyH.cons rfl (fun K' hK' => ?_) AllReadyH.nil
            refine step_impl_ChangeOk (wanted_of 21 true 172 rfl rfl (F.at 172 _ (by simp))) 173 _ rfl _ _ (F.get 173 _ (by simp)) (HC1.out _) ?_
            rintro rv3 xw3 ⟨rfl, k3⟩
            have hb3 := hb2.trans (k3.mono hb2.size)
            refine openK (v := .bool OY) 174 rfl F (by decide) (by simp) (fun a F => ?_)
            refine hK'.out _ _ (HS.out _ hb3) (fun hH => ?_)
            refine wpAnyH_ready (rs := [25]) (by kernel_rfl) (by simp) ?_
            refine AllReadyH.cons rfl (fun K' hK' => ?_) AllReadyH.nil
            refine step_spec_ChangeOk (wanted_of 21 true 172 rfl rfl (F.at 172 _ (by simp))) 175 _ rfl _ _ (F.get 175 _ (by simp)) (HC2.out _) ?_
            rintro rv4 xw4 ⟨rfl, k4⟩
            have hb4 := hb3.trans (k4.mono hb3.size)
            refine openK (v := .bool OY) 176 rfl F (by decide) (by simp) (fun a F => ?_)
            refine hK'.out _ _ (HS.out _ hb4) (fun hH => ?_)
            have r174 := F.get 174 (.bool OY) (by simp)
            have r176 := F.get 176 (.bool OY) (by simp)
            refine takeF (i := 26) (v := .bool true) rfl (by kernel_rfl) (by kernel_rfl) (by kernel_rfl) (fun _ _ _ h => h) (Or.inl ⟨wanted_of 21 true 172 rfl rfl (F.at 172 _ (by simp)), fun w hw => by go_simp⟩) hH 177 rfl F (by decide) (by simp) (fun a F => ?_)
            clear r174 r176
            have r172 := F.get 172 (.bool true) (by simp)
            have r177 := F.get 177 (.bool true) (by simp)
            refine takeF (i := 27) (v := .bool true) rfl (by kernel_rfl) (by kernel_rfl) (by kernel_rfl) (fun _ _ _ h => h) (Or.inl ⟨by rfl, fun w hw => by go_simp⟩) hH 178 rfl F (by decide) (by simp) (fun a F => ?_)
            clear r172 r177
            have r178 := F.get 178 (.bool true) (by simp)
            refine takeF (i := 28) (v := .bool true) rfl (by kernel_rfl) (by kernel_rfl) (by kernel_rfl) (fun _ _ _ h => h) (Or.inl ⟨by rfl, fun w hw => by go_simp⟩) hH 179 rfl F (by decide) (by simp) (fun a F => ?_)
            clear r178
            have r5 := F.get 5 (.slice a3 km c3) (by simp)
            refine takeF (i := 29) (v := .slice a3 km c3) rfl (by kernel_rfl) (by kernel_rfl) (by kernel_rfl) (fun _ _ _ h => h) (Or.inl ⟨wanted_of 28 true 179 rfl rfl (F.at 179 _ (by simp)), fun w hw => by go_simp⟩) hH 180 rfl F (by decide) (by simp) (fun a F => ?_)
            clear r5
            have r3 := F.get 3 (.slice a1 kl c1) (by simp)
            refine takeF (i := 30) (v := .slice a1 kl c1) rfl (by kernel_rfl) (by kernel_rfl) (by kernel_rfl) (fun _ _ _ h => h) (Or.inl ⟨wanted_of 28 true 179 rfl rfl (F.at 179 _ (by simp)), fun w hw => by go_simp⟩) hH 181 rfl F (by decide) (by simp) (fun a F => ?_)
            clear r3
            have r4 := F.get 4 (.slice a2 ka c2) (by simp)
            refine takeF (i := 31) (v := .slice a2 ka c2) rfl (by kernel_rfl) (by kernel_rfl) (by kernel_rfl) (fun _ _ _ h => h) (Or.inl ⟨wanted_of 28 true 179 rfl rfl (F.at 179 _ (by simp)), fun w hw => by go_simp⟩) hH 182 rfl F (by decide) (by simp) (fun a F => ?_)
            clear r4
            refine wpAnyH_ready (rs := [32]) (by kernel_rfl) (by simp) ?_
            refine AllReadyH.cons rfl (fun K' hK' => ?_) AllReadyH.nil
            refine step_spec_ApplyAll (wanted_of 28 true 179 rfl rfl (F.at 179 _ (by simp))) 181 182 _ rfl _ _ _ (F.get 181 _ (by simp)) (F.get 182 _ (by simp)) (HAL.out _ hb4) ?_
            rintro rv5 xw5 ⟨a5, c5, g5, rfl, kr, k5⟩
            have hb5 := hb4.trans (k5.mono hb4.size)
            refine openK (v := .slice a5 km c5) 183 rfl F (by decide) (by simp) (fun a F => ?_)
            refine hK'.out _ _ (HS.out _ hb5) (fun hH => ?_)
            refine wpAnyH_ready (rs := [33]) (by kernel_rfl) (by simp) ?_
            refine AllReadyH.cons rfl (fun K' hK' => ?_) AllReadyH.nil
            refine step_laws_sameLeaves (wanted_of 28 true 179 rfl rfl (F.at 179 _ (by simp))) 180 183 _ rfl _ _ _ (F.get 180 _ (by simp)) (F.get 183 _ (by simp)) (HS2.out _ _ _ _ hb5 kr) ?_
            rintro rv6 xw6 ⟨rfl, k6⟩
            have hb6 := hb5.trans (k6.mono hb5.size)
            refine openK (v := .bool true) 184 rfl F (by decide) (by simp) (fun a F => ?_)
            refine hK'.out _ _ (HS.out _ hb6) (fun hH => ?_)
            have r179 := F.get 179 (.bool true) (by simp)
            have r184 := F.get 184 (.bool true) (by simp)
            refine takeF (i := 34) (v := .bool true) rfl (by kernel_rfl) (by kernel_rfl) (by kernel_rfl) (fun _ _ _ h => h) (Or.inl ⟨by rfl, fun w hw => by go_simp⟩) hH 185 rfl F (by decide) (by simp) (fun a F => ?_)
            clear r179 r184
            have r185 := F.get 185 (.bool true) (by simp)
            refine takeF (i := 35) (v := .bool true) rfl (by kernel_rfl) (by kernel_rfl) (by kernel_rfl) (fun _ _ _ h => h) (Or.inl ⟨by rfl, fun w hw => by go_simp⟩) hH 2 rfl F (by decide) (by simp) (fun a F => ?_)
            clear r185
            refine wpAnyH_done (by kernel_rfl) ?_ _
            have hbF := HBW.out _ hb6
            have hd := F.2.1
            have r2 := F.get 2 (.bool true) (by simp)
            clear HSL HLO HC1 HC2 HAL HS2 HS HBW hH F
            go_wp2
            exact ret_tmpF 2 (.bool true) rfl hd r2 ⟨rfl, hbF⟩

end Go.Proofs.Ytiabodhgjeoejaa
/-
  What a law is told of the bytes that came in, and how they serve as drawn ones.
-/
namespace Go.Proofs.Ytiabodhgjeoejaa
open Go.ChangeShapes Go.WideShapes Go.ChangeAt Go.RowKit
set_option linter.unusedVariables false

/-- a slice of bytes that came in: nil, or a row of cap cells, each a byte -/
def IsRow (w : World) (a : Option Addr) (len cap : Nat) (zs : List Int) : Prop :=
  (a = none ∧ len = 0 ∧ cap = 0 ∧ zs = []) ∨
  ∃ x, a = some x ∧ len ≤ cap ∧ cap ≤ maxLen ∧ zs.length = cap ∧ (∀ i, i < zs.length → w.cell? (x.add i) = some (.int .u8 (zs.getD i 0))) ∧ ∀ n ∈ zs, (Lit.int .u8 n).wf = true

theorem IsRow.len {w : World} {a : Option Addr} {len cap : Nat} {zs : List Int} (h : IsRow w a len cap zs) : len ≤ maxLen := by
  rcases h with ⟨_, rfl, _⟩ | ⟨x, _, h1, h2, _⟩
  · omega
  · omega

theorem code_of_row {w : World} {a : Option Addr} {len cap : Nat} {zs : List Int} (h : IsRow w a len cap zs) (hl : len ≤ 1048576) : Code w.heap.size w (.slice a len cap) := by
  rcases h with ⟨rfl, rfl, rfl, rfl⟩ | ⟨x, rfl, h1, h2, h3, hc, hw⟩
  · exact ⟨none, 0, 0, 0, 0, rfl, by omega, fun h => by omega, fun j hj => by omega⟩
  · refine ⟨some x, x.block, x.off, len, cap, rfl, hl, ?_, ?_⟩
    · intro h0
      have h4 := hc 0 (by omega)
      have e : x.add 0 = x := by unfold Addr.add; simp
      rw [e] at h4
      have hs := World.cell?_spot h4
      refine ⟨?_, ?_⟩
      · cases x
        simp at hs
        subst hs
        rfl
      · rcases Nat.lt_or_ge x.block w.heap.size with hlt | hge
        · exact hlt
        · simp [World.cell?, Array.getElem?_eq_none hge] at h4
    · intro j hj
      have h4 := hc j (by omega)
      have e : x.add j = ⟨x.block, x.off + j, none⟩ := by
        have hs := World.cell?_spot h4
        unfold Addr.add at hs ⊢
        split
        · rename_i hz
          subst hz
          cases x
          simp at hs
          simp [hs]
        · rfl
      rw [e] at h4
      have hm : zs.getD j 0 ∈ zs := by
        have hjl : j < zs.length := by omega
        rw [List.getD_eq_getElem?_getD, List.getElem?_eq_getElem hjl]
        exact List.getElem_mem _
      have hwz := hw _ hm
      have hz : 0 ≤ zs.getD j 0 ∧ zs.getD j 0 ≤ 255 := by simpa [Lit.wf, IntKind.min, IntKind.max, IntKind.signed, IntKind.bits] using hwz
      refine ⟨(zs.getD j 0).toNat, by omega, ?_⟩
      rw [h4]
      congr 2
      omega

end Go.Proofs.Ytiabodhgjeoejaa
