/-
  Texts laid together: Jrd, Jre, Jok, Ak.
-/
import Derived.Test.YthlgohplljcgfaaGreatDoorPkESN28
import Derived.Deep.RegionLaw
import Derived.Deep.CutRange
import Derived.Test.YthlgohplljcgfaaGreatDoorPkESN1
import Derived.Test.YthlgohplljcgfaaGreatDoorPkESN2
/-
  A record of a vote read once more: the program's answer.
-/
namespace Go.Proofs.YthlgohplljcgfaaGreatDoor
open Go.RowKit Go.BigFrame Go.Sort
set_option linter.unusedVariables false
set_option linter.unusedSimpArgs false

set_option maxRecDepth 100000 in
set_option maxHeartbeats 4000000 in
theorem redoReady_rd {B : Nat} {w0 w : World} {p : Nat} {n : Sn} {vd vv vt va : Value} {L : Sr} {V : List Value} {G : Nat → Nat} {gd : Nat} (h : SvO B w0 w p n vd vv vt va L V G gd) (t : ByteArray) (ht : t.size ≤ 1048576) (hI : L.I.length ≤ 1000000) (he0 : 0 ≤ n.e) (he1 : n.e ≤ 1000000) :
    Calls Tryz.prog 76 #[.pointer (some ⟨p, 0, none⟩), .string t] w (RdP B w0 p n vd L.F gd (SR.rdS (Ss.of n L) t)) := by
  have HS : Hid (SvO B w0 w p n vd vv vt va L V G gd) := h
  have HRN : Hid (∀ W, Calls Tryz.prog 115 #[.string t, .int .i64 3] W (RnP t 3 W)) := fun W => readNumbers_any t 3 (by omega) W ht
  unfold RnP at HRN
  cases hN : SR.numsOf t 3 with
  | none =>
    rw [hN] at HRN
    simp only at HRN
    have HAB : Hid (Ss.of n L = SR.rdS (Ss.of n L) t) := by
      show _ = _
      unfold SR.rdS
      rw [hN]
    clear h hN hI he0 he1
    go_enter Tryz.func76, Tryz.ntmps76
    go_wp2_with fail
    refine (HRN.out _).mono ?_
    rintro e w1 ⟨hb1, v1, rfl⟩
    have HF : Hid (SvO B w0 w1 p n vd vv vt va L V G gd) := HS.out.later hb1
    clear hb1 HRN HS
    go_wp2
    refine bodyPost_end (results_none rfl _ _ _) rfl ?_
    exact ⟨rfl, n, vv, vt, va, L, V, G, HF.out, HAB.out, rfl, rfl, rfl, rfl⟩
  | some l =>
    rw [hN] at HRN
    simp only at HRN
    have HA : Hid (∀ W x y z, SvO B w0 W p n vd vv vt va L V G gd → Calls Tryz.prog 116 #[.pointer (some ⟨p, 0, none⟩), .agg #[.int .i64 x, .int .i64 y, .int .i64 z]] W fun e w' => e = .returned (.bool (SR.fitB (Ss.of n L) x y z)) ∧ Below W.heap.size W w') := fun W x y z hW => readyFits_sv hW x y z hI he0 he1
    have HAB : Hid (∀ x y z, l = [x, y, z] → SR.rdS (Ss.of n L) t = if SR.fitB (Ss.of n L) x y z then Ss.of ⟨n.a, n.k, n.u, n.e, x, y, z⟩ L else Ss.of n L) := fun x y z e => by
      subst e
      unfold SR.rdS
      rw [hN]
      rfl
    clear h hN hI he0 he1
    go_enter Tryz.func76, Tryz.ntmps76
    go_wp2_with fail
    refine (HRN.out _).mono ?_
    rintro e w1 ⟨hb1, g, rfl, hl, hg, hc⟩
    have HS1 : Hid (SvO B w0 w1 p n vd vv vt va L V G gd) := HS.out.later hb1
    obtain ⟨x, y, z, rfl⟩ := len_three hl
    have c0 : w1.cell? ⟨g, 0, none⟩ = some (.int .i64 (x : Int)) := hc 0 (by simp)
    have c1 : w1.cell? ⟨g, 1, none⟩ = some (.int .i64 (y : Int)) := hc 1 (by simp)
    have c2 : w1.cell? ⟨g, 2, none⟩ = some (.int .i64 (z : Int)) := hc 2 (by simp)
    have HAB2 : Hid (SR.rdS (Ss.of n L) t = if SR.fitB (Ss.of n L) x y z then Ss.of ⟨n.a, n.k, n.u, n.e, x, y, z⟩ L else Ss.of n L) := HAB.out x y z rfl
    clear hb1 HRN HS hc hl HAB
    have hne : ¬ w1.heap.size = g := by omega
    have hne2 : ¬ g = w1.heap.size := by omega
    go_wp2
    go_region_held3 (fun W => W.cell? ⟨g, 0, none⟩ = some (.int .i64 (x : Int)) ∧ W.cell? ⟨g, 1, none⟩ = some (.int .i64 (y : Int)) ∧ W.cell? ⟨g, 2, none⟩ = some (.int .i64 (z : Int))) (go_keep) (first | fail)
    rename_i hHeld
    clear hHeld
    have HB2 : Hid (Box 33 (w1.alloc (.cells #[.int .i64 (x : Int), .int .i64 (y : Int), .int .i64 (z : Int)] 33)).drew w1.heap.size [.int .i64 (x : Int), .int .i64 (y : Int), .int .i64 (z : Int)] ∧ SvO B w0 (w1.alloc (.cells #[.int .i64 (x : Int), .int .i64 (y : Int), .int .i64 (z : Int)] 33)).drew p n vd vv vt va L V G gd) := ⟨Box.later (Box.new _ w1 [.int .i64 (x : Int), .int .i64 (y : Int), .int .i64 (z : Int)]) (Below.refl _ _).drew, HS1.out.later (below_alloc _ _).drew⟩
    clear HS1 c0 c1 c2 hne hne2 hg
    generalize (w1.alloc (.cells #[.int .i64 (x : Int), .int .i64 (y : Int), .int .i64 (z : Int)] 33)).drew = w2 at *
    generalize w1.heap.size = q at *
    have r0 := HB2.out.1.at 0 _ rfl
    have r1 := HB2.out.1.at 1 _ rfl
    have r2 := HB2.out.1.at 2 _ rfl
    go_wp2_with fail
    refine (HA.out _ x y z HB2.out.2).mono ?_
    rintro e w3 ⟨rfl, hb3⟩
    obtain ⟨D, hD⟩ : ∃ D, SR.fitB (Ss.of n L) x y z = D := ⟨_, rfl⟩
    rw [hD] at HAB2 ⊢
    have HB3 : Hid (Box 33 w3 q [.int .i64 (x : Int), .int .i64 (y : Int), .int .i64 (z : Int)] ∧ SvO B w0 w3 p n vd vv vt va L V G gd) := ⟨HB2.out.1.later hb3, HB2.out.2.later hb3⟩
    clear HB2 r0 r1 r2 hb3 HA hD
    cases D with
    | false =>
      have HAB3 : Hid (SR.rdS (Ss.of n L) t = Ss.of n L) := HAB2.out
      clear HAB2
      go_wp2
      refine bodyPost_end (results_none rfl _ _ _) rfl ?_
      exact ⟨rfl, n, vv, vt, va, L, V, G, HB3.out.2, HAB3.out.symm, rfl, rfl, rfl, rfl⟩
    | true =>
      have HAB3 : Hid (SR.rdS (Ss.of n L) t = Ss.of ⟨n.a, n.k, n.u, n.e, x, y, z⟩ L) := HAB2.out
      have r0 := HB3.out.1.at 0 _ rfl
      have r1 := HB3.out.1.at 1 _ rfl
      have r2 := HB3.out.1.at 2 _ rfl
      have z8 := HB3.out.2.box.at 8 _ rfl
      have z9 := HB3.out.2.box.at 9 _ rfl
      have z10 := HB3.out.2.box.at 10 _ rfl
      have f8 := HB3.out.2.box.fz 8
      have f9 := HB3.out.2.box.fz 9
      have f10 := HB3.out.2.box.fz 10
      have HF : Hid (SvO B w0 (((w3.setCell ⟨p, 8, none⟩ (.int .i64 (x : Int))).setCell ⟨p, 9, none⟩ (.int .i64 (y : Int))).setCell ⟨p, 10, none⟩ (.int .i64 (z : Int))) p ⟨n.a, n.k, n.u, n.e, x, y, z⟩ vd vv vt va L V G gd) := HB3.out.2.keepR (grown_put3 _ p 8 9 10 _ _ _) (HB3.out.2.box.put3 _ _ _)
      clear HAB2 HB3
      go_wp2
      refine bodyPost_end (results_none rfl _ _ _) rfl ?_
      exact ⟨rfl, ⟨n.a, n.k, n.u, n.e, x, y, z⟩, vv, vt, va, L, V, G, HF.out, HAB3.out.symm, rfl, rfl, rfl, rfl⟩

end Go.Proofs.YthlgohplljcgfaaGreatDoor
/-
  A record read once more: the program's answer.
-/
namespace Go.Proofs.YthlgohplljcgfaaGreatDoor
open Go.RowKit Go.BigFrame Go.Sort
set_option linter.unusedVariables false
set_option linter.unusedSimpArgs false

theorem run_endJ (b : ByteArray) (x : Int) (i : Nat) (hx : x = (i : Int)) (hi : i ≤ b.size) (W : World) : (Instr.slice 9 (.string b) (some (.int .i64 x)) none none).run Tryz.prog W = .ok (.string (b.extract i b.size)) W := by
  rw [run_slice_string_from_if (P := Tryz.prog) (w := W) 9 b .i64 _ Tryz.underlying9, if_pos (by omega)]
  subst hx
  simp

theorem sizeRr : (Tryz.prog.info? 113).map (·.size) = some 2 := by kernel_rfl
section
variable {w : World} {ops : Array Oper} {rest : List Oper} {o : Oper} {a : Act} {Q : Exit → Act → World → Prop}
theorem wp_storeRr (hgd : o.guard = none) (p v : Operand) (ho : o.op = .store 113 p v) (g : Nat) (x0 x1 y0 y1 : Value) (hA : Box 113 w g [x0, x1]) (hp : a.eval p = .pointer (some ⟨g, 0, none⟩)) (hv : a.eval v = .agg #[y0, y1])
    (h1 : y0.oneCell' = true ∧ y1.oneCell' = true)
    (h : Box 113 (w.setRow g #[y0, y1]) g [y0, y1] → wpList Tryz.prog ops Q rest (a.put o.dst (.tuple #[])) (w.setRow g #[y0, y1])) : wpList Tryz.prog ops Q (o :: rest) a w := by
  refine wpList_plain hgd fun K hK => ?_
  have hr : (Instr.storeAt 113 (.pointer (some ⟨g, 0, none⟩)) (.agg #[y0, y1])).run Tryz.prog w = .ok () (w.setRow g #[y0, y1]) := by
    simp only [Instr.storeAt, Instr.sureAddr, Sem.run_bind, Sem.run_pure, Result.andThen]
    refine run_storeVar_row w g 113 113 _ _ hA sizeRr rfl ?_
    simp [h1]
  unfold Oper.wp
  simp [execOp, ho, hp, hv, hr, Result.andThen]
  exact hK _ _ (h (setRow_heap w g _ _ _ _ hA))
end
/-- what a server under way knows behind a record -/
def RdQ (B : Nat) (w0 : World) (p : Nat) (n : Sn) (vd : Value) (F : List Fl) (gd : Nat) (S : SR.Ss) (w' : World) : Prop := ∃ n' vv' vt' va' L' V' G', SvO B w0 w' p n' vd vv' vt' va' L' V' G' gd ∧ Ss.of n' L' = S ∧ L'.F = F ∧ n'.a = n.a ∧ n'.k = n.k ∧ n'.u = n.u
theorem RdQ.later {B : Nat} {w0 w w' : World} {p : Nat} {n : Sn} {vd : Value} {F : List Fl} {gd : Nat} {S : SR.Ss} (h : RdQ B w0 p n vd F gd S w) (hb : Below w.heap.size w w') : RdQ B w0 p n vd F gd S w' := by
  obtain ⟨n', vv', vt', va', L', V', G', h1, h2⟩ := h
  exact ⟨n', vv', vt', va', L', V', G', h1.later hb, h2⟩
theorem RdQ.row {B : Nat} {w0 w : World} {p : Nat} {n : Sn} {vd : Value} {F : List Fl} {gd : Nat} {S : SR.Ss} (h : RdQ B w0 p n vd F gd S w) {g : Nat} (hb : Box 113 w0 g rrC) : Box 113 w g rrC := by
  obtain ⟨n', vv', vt', va', L', V', G', h1, h2⟩ := h
  exact h1.kp g _ _ _ (by unfold BadT; decide) hb
/-- the rounds: not met yet, or done -/
def RoR (B : Nat) (w0 w : World) (p : Nat) (n : Sn) (vd : Value) (F : List Fl) (gd : Nat) (S : SR.Ss) (b g : Nat) (i : Value) (wr : World) : Prop := ∃ j : Nat, j ≤ 4 ∧ i = .int .i64 j ∧ Hid (Box 113 wr g rrC ∧ ((¬ (1 ≤ b ∧ b ≤ j) ∧ Below w.heap.size w wr) ∨ ((1 ≤ b ∧ b ≤ j) ∧ RdQ B w0 p n vd F gd S wr)))

set_option maxRecDepth 100000 in
set_option maxHeartbeats 8000000 in
theorem redo_rd {B : Nat} {w0 w : World} {p : Nat} {n : Sn} {vd vv vt va : Value} {L : Sr} {V : List Value} {G : Nat → Nat} {gd : Nat} (h : SvO B w0 w p n vd vv vt va L V G gd) {g : Nat} (hg : Box 113 w0 g rrC) (t : ByteArray) (ht : t.size ≤ 1048576) (h0 : 0 < t.size) (hT : Tb w) (hr : (n.r0 = 0 ∧ n.r1 = 0 ∧ n.r2 = 0) ∨ 0 < n.r0) (hP : L.P.length < 1000000) (hI : L.I.length < 1000000) (hUl : L.U.length < 1000000) (hsm : SmallUs L.U) (he0 : 0 ≤ n.e) (he1 : n.e ≤ 1000000) :
    Calls Tryz.prog 34 #[.pointer (some ⟨p, 0, none⟩), .slice (some ⟨g, 0, none⟩) 4 4, .string t] w (RdP B w0 p n vd L.F gd (SR.recS n.a n.k (Ss.of n L) t)) := by
  have HG0 : Hid (Box 113 w0 g rrC) := hg
  have HG : Hid (Box 113 w g rrC) := h.kp g _ _ _ (by unfold BadT; decide) hg
  have hbz : (SR.body t).size ≤ 1048576 := by rw [SR.body_size]; omega
  have hby := fun W => run_by t 0 0 rfl h0 W
  have hend : ∀ W, (Instr.slice 9 (.string t) (some (.int .i64 1)) none none).run Tryz.prog W = .ok (.string (SR.body t)) W := fun W => run_endJ t 1 1 rfl (by omega) W
  have HS : Hid (SvO B w0 w p n vd vv vt va L V G gd) := h
  have H1 : Hid ((byB t 0).toNat = 1 → ∀ W, Below w.heap.size w W → Calls Tryz.prog 75 #[.pointer (some ⟨p, 0, none⟩), .string (SR.body t)] W fun e w' => e = .returned (.tuple #[]) ∧ RdQ B w0 p n vd L.F gd (SR.recS n.a n.k (Ss.of n L) t) w') := fun hb W hW => by
    have e : SR.recS n.a n.k (Ss.of n L) t = SR.tkS n.a n.k (Ss.of n L) (SR.body t) := by
      unfold SR.recS
      rw [if_pos (UInt8.toNat_inj.1 hb)]
    rw [e]
    exact redoTaken_rd (h.later hW) (SR.body t) hbz hUl (hT.later hW)
  have H2 : Hid ((byB t 0).toNat = 2 → ∀ W, Below w.heap.size w W → Calls Tryz.prog 76 #[.pointer (some ⟨p, 0, none⟩), .string (SR.body t)] W fun e w' => e = .returned (.tuple #[]) ∧ RdQ B w0 p n vd L.F gd (SR.recS n.a n.k (Ss.of n L) t) w') := fun hb W hW => by
    have e : SR.recS n.a n.k (Ss.of n L) t = SR.rdS (Ss.of n L) (SR.body t) := by
      unfold SR.recS
      have hx : byB t 0 = 2 := UInt8.toNat_inj.1 hb
      rw [hx, if_neg (by decide), if_pos rfl]
    rw [e]
    exact redoReady_rd (h.later hW) (SR.body t) hbz (by omega) he0 he1
  have H3 : Hid ((byB t 0).toNat = 3 → ∀ W, Below w.heap.size w W → Calls Tryz.prog 77 #[.pointer (some ⟨p, 0, none⟩), .string (SR.body t)] W fun e w' => e = .returned (.tuple #[]) ∧ RdQ B w0 p n vd L.F gd (SR.recS n.a n.k (Ss.of n L) t) w') := fun hb W hW => by
    have e : SR.recS n.a n.k (Ss.of n L) t = SR.coS (Ss.of n L) (SR.body t) := by
      unfold SR.recS
      have hx : byB t 0 = 3 := UInt8.toNat_inj.1 hb
      rw [hx, if_neg (by decide), if_neg (by decide), if_pos rfl]
    rw [e]
    exact redoCommitted_rd (h.later hW) (SR.body t) hbz hr hP hI (by omega) hsm he0 he1
  have H4 : Hid ((byB t 0).toNat = 4 → ∀ W, Below w.heap.size w W → Calls Tryz.prog 78 #[.pointer (some ⟨p, 0, none⟩), .string (SR.body t)] W fun e w' => e = .returned (.tuple #[]) ∧ RdQ B w0 p n vd L.F gd (SR.recS n.a n.k (Ss.of n L) t) w') := fun hb W hW => by
    have e : SR.recS n.a n.k (Ss.of n L) t = SR.abS (Ss.of n L) (SR.body t) := by
      unfold SR.recS
      have hx : byB t 0 = 4 := UInt8.toNat_inj.1 hb
      rw [hx, if_neg (by decide), if_neg (by decide), if_neg (by decide), if_pos rfl]
    rw [e]
    exact redoAborted_rd (h.later hW) (SR.body t) hbz
  have HE : Hid (∀ W, ¬ (1 ≤ (byB t 0).toNat ∧ (byB t 0).toNat ≤ 4) → Below w.heap.size w W → RdQ B w0 p n vd L.F gd (SR.recS n.a n.k (Ss.of n L) t) W) := fun W hn hW => by
    have e : SR.recS n.a n.k (Ss.of n L) t = Ss.of n L := by
      unfold SR.recS
      rw [if_neg (fun e => hn (by rw [e]; decide)), if_neg (fun e => hn (by rw [e]; decide)), if_neg (fun e => hn (by rw [e]; decide)), if_neg (fun e => hn (by rw [e]; decide))]
    rw [e]
    exact ⟨n, vv, vt, va, L, V, G, h.later hW, rfl, rfl, rfl, rfl, rfl⟩
  generalize SR.recS n.a n.k (Ss.of n L) t = S at *
  generalize SR.body t = bt at *
  obtain ⟨b, hb⟩ : ∃ b, (byB t 0).toNat = b := ⟨_, rfl⟩
  simp only [hb] at hby
  rw [hb] at H1 H2 H3 H4 HE
  clear h hg ht h0 hT hr hP hI hUl hsm he0 he1 hbz hb
  have HST : Hid (RoR B w0 w p n vd L.F gd S b g (.int .i64 0) w) := ⟨0, by omega, rfl, HG.out, .inl ⟨by omega, Below.refl _ _⟩⟩
  clear HG HS
  go_enter Tryz.func34, Tryz.ntmps34
  go_wp2
  go_loopw [10] (fun i wr => RoR B w0 w p n vd L.F gd S b g i wr) (fun i _ => 4 - (intOf i).toNat)
  case atStart => exact HST.out
  case round =>
    obtain ⟨m, hm, rfl, HI⟩ := hrel
    clear HST
    rcases (by omega : m = 0 ∨ m = 1 ∨ m = 2 ∨ m = 3 ∨ m = 4) with rfl | rfl | rfl | rfl | rfl
    · have z0 := HI.out.1.at 0 _ rfl
      have z1 := HI.out.1.at 1 _ rfl
      have HZ : Hid (Below wr.heap.size wr (wr.alloc (.cells #[.int .u8 0, .nilFunc] 113)) ∧ Box 113 (wr.alloc (.cells #[.int .u8 0, .nilFunc] 113)) wr.heap.size [.int .u8 0, .nilFunc]) := ⟨below_alloc _ _, Box.new _ wr [.int .u8 0, .nilFunc]⟩
      have hq : wr.heap.size = wr.heap.size := rfl
      go_wp2_with (refine wp_storeRr rfl _ _ rfl wr.heap.size _ _ (.int .u8 1) (.func (Fn.func 75) #[] #[]) HZ.out.2 rfl rfl ⟨rfl, rfl⟩ ?_; intro hfin)
      have HB2 : Hid (Below wr.heap.size wr ((wr.alloc (.cells #[.int .u8 0, .nilFunc] 113)).setRow wr.heap.size #[.int .u8 1, .func (Fn.func 75) #[] #[]])) := below_setRow HZ.out.1 (Nat.le_refl _)
      clear HZ z0 z1 hq
      generalize ((wr.alloc (.cells #[.int .u8 0, .nilFunc] 113)).setRow wr.heap.size #[.int .u8 1, .func (Fn.func 75) #[] #[]]) = W2 at *
      have HF2 : Hid (Box 113 W2 wr.heap.size [.int .u8 1, .func (Fn.func 75) #[] #[]]) := hfin
      clear hfin
      generalize wr.heap.size = q at HF2 ⊢
      have kq0 := cell_regrown (w := W2) (HF2.out.at 0 _ rfl)
      by_cases hbm : b = 1
      · have qb : ((1 : Int) == (b : Int)) = true := by simp [hbm]
        have HW : Hid (Below w.heap.size w wr) := by
          rcases HI.out.2 with h | h
          · exact h.2
          · exact absurd h.1 (by omega)
        refine wp_region_quiet_below (by kernel_rfl) (by kernel_rfl) ?_
        repeat (go_big_quiet_step (fail))
        refine wpQuiet_nil ?_
        rintro _ ⟨⟨dq, osq⟩, rfl⟩
        have hb3 := below_regrown W2 dq osq
        clear kq0
        generalize grow (redrawn W2 dq) osq = W3 at *
        have HB3 : Hid (Below wr.heap.size wr W3) := HB2.out.trans (hb3.mono HB2.out.size)
        have HF3 : Hid (Box 113 W3 q [.int .u8 1, .func (Fn.func 75) #[] #[]]) := HF2.out.later hb3
        clear hb3 HB2 HF2
        have HC := H1.out hbm W3.drew ((HW.out.trans (HB3.out.mono HW.out.size)).drew)
        have HC2 : Hid _ := HC
        have y1 : W3.drew.cell? ⟨q, 1, none⟩ = some (.func (Fn.func 75) #[] #[]) := HF3.out.at 1 _ rfl
        clear qb HC HW HI HE HF3
        go_wp2
        go_region_law ((go_simp; (go_at_call 75); (refine Calls.mono HC2.out ?_); (intro e w5 hx); (obtain ⟨he, hq5⟩ := hx); (subst he)))
        all_goals
          have HN : Hid (RoR B w0 w p n vd L.F gd S b g (.int .i64 1) w5) := ⟨1, by omega, rfl, hq5.row HG0.out, .inr ⟨by omega, hq5⟩⟩
          clear hq5 HC2 y1 H1 H2 H3 H4 HG0 HB3 hend hby
          go_wp2
          go_roundw
          case rel => exact HN.out
          case measure => simp [intOf]
      · have qb : ((1 : Int) == (b : Int)) = false := by simp; omega
        refine wp_region_quiet_below (by kernel_rfl) (by kernel_rfl) ?_
        repeat (go_big_quiet_step (fail))
        refine wpQuiet_nil ?_
        rintro _ ⟨⟨dq, osq⟩, rfl⟩
        have hb3 := below_regrown W2 dq osq
        clear kq0
        generalize grow (redrawn W2 dq) osq = W3 at *
        have HB3 : Hid (Below wr.heap.size wr W3) := HB2.out.trans (hb3.mono HB2.out.size)
        have HF3 : Hid (Box 113 W3 q [.int .u8 1, .func (Fn.func 75) #[] #[]]) := HF2.out.later hb3
        clear hb3 HB2 HF2
        have HN : Hid (RoR B w0 w p n vd L.F gd S b g (.int .i64 1) W3) := ⟨1, by omega, rfl, HI.out.1.later HB3.out, by
          rcases HI.out.2 with h | h
          · exact .inl ⟨by omega, h.2.trans (HB3.out.mono h.2.size)⟩
          · exact .inr ⟨by omega, h.2.later HB3.out⟩⟩
        clear qb HI HE HF3 H1 H2 H3 H4 HG0 HB3 hend hby
        go_wp2
        go_roundw
        case rel => exact HN.out
        case measure => simp [intOf]
    · have z0 := HI.out.1.at 2 _ rfl
      have z1 := HI.out.1.at 3 _ rfl
      have HZ : Hid (Below wr.heap.size wr (wr.alloc (.cells #[.int .u8 0, .nilFunc] 113)) ∧ Box 113 (wr.alloc (.cells #[.int .u8 0, .nilFunc] 113)) wr.heap.size [.int .u8 0, .nilFunc]) := ⟨below_alloc _ _, Box.new _ wr [.int .u8 0, .nilFunc]⟩
      have hq : wr.heap.size = wr.heap.size := rfl
      go_wp2_with (refine wp_storeRr rfl _ _ rfl wr.heap.size _ _ (.int .u8 2) (.func (Fn.func 76) #[] #[]) HZ.out.2 rfl rfl ⟨rfl, rfl⟩ ?_; intro hfin)
      have HB2 : Hid (Below wr.heap.size wr ((wr.alloc (.cells #[.int .u8 0, .nilFunc] 113)).setRow wr.heap.size #[.int .u8 2, .func (Fn.func 76) #[] #[]])) := below_setRow HZ.out.1 (Nat.le_refl _)
      clear HZ z0 z1 hq
      generalize ((wr.alloc (.cells #[.int .u8 0, .nilFunc] 113)).setRow wr.heap.size #[.int .u8 2, .func (Fn.func 76) #[] #[]]) = W2 at *
      have HF2 : Hid (Box 113 W2 wr.heap.size [.int .u8 2, .func (Fn.func 76) #[] #[]]) := hfin
      clear hfin
      generalize wr.heap.size = q at HF2 ⊢
      have kq0 := cell_regrown (w := W2) (HF2.out.at 0 _ rfl)
      by_cases hbm : b = 2
      · have qb : ((2 : Int) == (b : Int)) = true := by simp [hbm]
        have HW : Hid (Below w.heap.size w wr) := by
          rcases HI.out.2 with h | h
          · exact h.2
          · exact absurd h.1 (by omega)
        refine wp_region_quiet_below (by kernel_rfl) (by kernel_rfl) ?_
        repeat (go_big_quiet_step (fail))
        refine wpQuiet_nil ?_
        rintro _ ⟨⟨dq, osq⟩, rfl⟩
        have hb3 := below_regrown W2 dq osq
        clear kq0
        generalize grow (redrawn W2 dq) osq = W3 at *
        have HB3 : Hid (Below wr.heap.size wr W3) := HB2.out.trans (hb3.mono HB2.out.size)
        have HF3 : Hid (Box 113 W3 q [.int .u8 2, .func (Fn.func 76) #[] #[]]) := HF2.out.later hb3
        clear hb3 HB2 HF2
        have HC := H2.out hbm W3.drew ((HW.out.trans (HB3.out.mono HW.out.size)).drew)
        have HC2 : Hid _ := HC
        have y1 : W3.drew.cell? ⟨q, 1, none⟩ = some (.func (Fn.func 76) #[] #[]) := HF3.out.at 1 _ rfl
        clear qb HC HW HI HE HF3
        go_wp2
        go_region_law ((go_simp; (go_at_call 76); (refine Calls.mono HC2.out ?_); (intro e w5 hx); (obtain ⟨he, hq5⟩ := hx); (subst he)))
        all_goals
          have HN : Hid (RoR B w0 w p n vd L.F gd S b g (.int .i64 2) w5) := ⟨2, by omega, rfl, hq5.row HG0.out, .inr ⟨by omega, hq5⟩⟩
          clear hq5 HC2 y1 H1 H2 H3 H4 HG0 HB3 hend hby
          go_wp2
          go_roundw
          case rel => exact HN.out
          case measure => simp [intOf]
      · have qb : ((2 : Int) == (b : Int)) = false := by simp; omega
        refine wp_region_quiet_below (by kernel_rfl) (by kernel_rfl) ?_
        repeat (go_big_quiet_step (fail))
        refine wpQuiet_nil ?_
        rintro _ ⟨⟨dq, osq⟩, rfl⟩
        have hb3 := below_regrown W2 dq osq
        clear kq0
        generalize grow (redrawn W2 dq) osq = W3 at *
        have HB3 : Hid (Below wr.heap.size wr W3) := HB2.out.trans (hb3.mono HB2.out.size)
        have HF3 : Hid (Box 113 W3 q [.int .u8 2, .func (Fn.func 76) #[] #[]]) := HF2.out.later hb3
        clear hb3 HB2 HF2
        have HN : Hid (RoR B w0 w p n vd L.F gd S b g (.int .i64 2) W3) := ⟨2, by omega, rfl, HI.out.1.later HB3.out, by
          rcases HI.out.2 with h | h
          · exact .inl ⟨by omega, h.2.trans (HB3.out.mono h.2.size)⟩
          · exact .inr ⟨by omega, h.2.later HB3.out⟩⟩
        clear qb HI HE HF3 H1 H2 H3 H4 HG0 HB3 hend hby
        go_wp2
        go_roundw
        case rel => exact HN.out
        case measure => simp [intOf]
    · have z0 := HI.out.1.at 4 _ rfl
      have z1 := HI.out.1.at 5 _ rfl
      have HZ : Hid (Below wr.heap.size wr (wr.alloc (.cells #[.int .u8 0, .nilFunc] 113)) ∧ Box 113 (wr.alloc (.cells #[.int .u8 0, .nilFunc] 113)) wr.heap.size [.int .u8 0, .nilFunc]) := ⟨below_alloc _ _, Box.new _ wr [.int .u8 0, .nilFunc]⟩
      have hq : wr.heap.size = wr.heap.size := rfl
      go_wp2_with (refine wp_storeRr rfl _ _ rfl wr.heap.size _ _ (.int .u8 3) (.func (Fn.func 77) #[] #[]) HZ.out.2 rfl rfl ⟨rfl, rfl⟩ ?_; intro hfin)
      have HB2 : Hid (Below wr.heap.size wr ((wr.alloc (.cells #[.int .u8 0, .nilFunc] 113)).setRow wr.heap.size #[.int .u8 3, .func (Fn.func 77) #[] #[]])) := below_setRow HZ.out.1 (Nat.le_refl _)
      clear HZ z0 z1 hq
      generalize ((wr.alloc (.cells #[.int .u8 0, .nilFunc] 113)).setRow wr.heap.size #[.int .u8 3, .func (Fn.func 77) #[] #[]]) = W2 at *
      have HF2 : Hid (Box 113 W2 wr.heap.size [.int .u8 3, .func (Fn.func 77) #[] #[]]) := hfin
      clear hfin
      generalize wr.heap.size = q at HF2 ⊢
      have kq0 := cell_regrown (w := W2) (HF2.out.at 0 _ rfl)
      by_cases hbm : b = 3
      · have qb : ((3 : Int) == (b : Int)) = true := by simp [hbm]
        have HW : Hid (Below w.heap.size w wr) := by
          rcases HI.out.2 with h | h
          · exact h.2
          · exact absurd h.1 (by omega)
        refine wp_region_quiet_below (by kernel_rfl) (by kernel_rfl) ?_
        repeat (go_big_quiet_step (fail))
        refine wpQuiet_nil ?_
        rintro _ ⟨⟨dq, osq⟩, rfl⟩
        have hb3 := below_regrown W2 dq osq
        clear kq0
        generalize grow (redrawn W2 dq) osq = W3 at *
        have HB3 : Hid (Below wr.heap.size wr W3) := HB2.out.trans (hb3.mono HB2.out.size)
        have HF3 : Hid (Box 113 W3 q [.int .u8 3, .func (Fn.func 77) #[] #[]]) := HF2.out.later hb3
        clear hb3 HB2 HF2
        have HC := H3.out hbm W3.drew ((HW.out.trans (HB3.out.mono HW.out.size)).drew)
        have HC2 : Hid _ := HC
        have y1 : W3.drew.cell? ⟨q, 1, none⟩ = some (.func (Fn.func 77) #[] #[]) := HF3.out.at 1 _ rfl
        clear qb HC HW HI HE HF3
        go_wp2
        go_region_law ((go_simp; (go_at_call 77); (refine Calls.mono HC2.out ?_); (intro e w5 hx); (obtain ⟨he, hq5⟩ := hx); (subst he)))
        all_goals
          have HN : Hid (RoR B w0 w p n vd L.F gd S b g (.int .i64 3) w5) := ⟨3, by omega, rfl, hq5.row HG0.out, .inr ⟨by omega, hq5⟩⟩
          clear hq5 HC2 y1 H1 H2 H3 H4 HG0 HB3 hend hby
          go_wp2
          go_roundw
          case rel => exact HN.out
          case measure => simp [intOf]
      · have qb : ((3 : Int) == (b : Int)) = false := by simp; omega
        refine wp_region_quiet_below (by kernel_rfl) (by kernel_rfl) ?_
        repeat (go_big_quiet_step (fail))
        refine wpQuiet_nil ?_
        rintro _ ⟨⟨dq, osq⟩, rfl⟩
        have hb3 := below_regrown W2 dq osq
        clear kq0
        generalize grow (redrawn W2 dq) osq = W3 at *
        have HB3 : Hid (Below wr.heap.size wr W3) := HB2.out.trans (hb3.mono HB2.out.size)
        have HF3 : Hid (Box 113 W3 q [.int .u8 3, .func (Fn.func 77) #[] #[]]) := HF2.out.later hb3
        clear hb3 HB2 HF2
        have HN : Hid (RoR B w0 w p n vd L.F gd S b g (.int .i64 3) W3) := ⟨3, by omega, rfl, HI.out.1.later HB3.out, by
          rcases HI.out.2 with h | h
          · exact .inl ⟨by omega, h.2.trans (HB3.out.mono h.2.size)⟩
          · exact .inr ⟨by omega, h.2.later HB3.out⟩⟩
        clear qb HI HE HF3 H1 H2 H3 H4 HG0 HB3 hend hby
        go_wp2
        go_roundw
        case rel => exact HN.out
        case measure => simp [intOf]
    · have z0 := HI.out.1.at 6 _ rfl
      have z1 := HI.out.1.at 7 _ rfl
      have HZ : Hid (Below wr.heap.size wr (wr.alloc (.cells #[.int .u8 0, .nilFunc] 113)) ∧ Box 113 (wr.alloc (.cells #[.int .u8 0, .nilFunc] 113)) wr.heap.size [.int .u8 0, .nilFunc]) := ⟨below_alloc _ _, Box.new _ wr [.int .u8 0, .nilFunc]⟩
      have hq : wr.heap.size = wr.heap.size := rfl
      go_wp2_with (refine wp_storeRr rfl _ _ rfl wr.heap.size _ _ (.int .u8 4) (.func (Fn.func 78) #[] #[]) HZ.out.2 rfl rfl ⟨rfl, rfl⟩ ?_; intro hfin)
      have HB2 : Hid (Below wr.heap.size wr ((wr.alloc (.cells #[.int .u8 0, .nilFunc] 113)).setRow wr.heap.size #[.int .u8 4, .func (Fn.func 78) #[] #[]])) := below_setRow HZ.out.1 (Nat.le_refl _)
      clear HZ z0 z1 hq
      generalize ((wr.alloc (.cells #[.int .u8 0, .nilFunc] 113)).setRow wr.heap.size #[.int .u8 4, .func (Fn.func 78) #[] #[]]) = W2 at *
      have HF2 : Hid (Box 113 W2 wr.heap.size [.int .u8 4, .func (Fn.func 78) #[] #[]]) := hfin
      clear hfin
      generalize wr.heap.size = q at HF2 ⊢
      have kq0 := cell_regrown (w := W2) (HF2.out.at 0 _ rfl)
      by_cases hbm : b = 4
      · have qb : ((4 : Int) == (b : Int)) = true := by simp [hbm]
        have HW : Hid (Below w.heap.size w wr) := by
          rcases HI.out.2 with h | h
          · exact h.2
          · exact absurd h.1 (by omega)
        refine wp_region_quiet_below (by kernel_rfl) (by kernel_rfl) ?_
        repeat (go_big_quiet_step (fail))
        refine wpQuiet_nil ?_
        rintro _ ⟨⟨dq, osq⟩, rfl⟩
        have hb3 := below_regrown W2 dq osq
        clear kq0
        generalize grow (redrawn W2 dq) osq = W3 at *
        have HB3 : Hid (Below wr.heap.size wr W3) := HB2.out.trans (hb3.mono HB2.out.size)
        have HF3 : Hid (Box 113 W3 q [.int .u8 4, .func (Fn.func 78) #[] #[]]) := HF2.out.later hb3
        clear hb3 HB2 HF2
        have HC := H4.out hbm W3.drew ((HW.out.trans (HB3.out.mono HW.out.size)).drew)
        have HC2 : Hid _ := HC
        have y1 : W3.drew.cell? ⟨q, 1, none⟩ = some (.func (Fn.func 78) #[] #[]) := HF3.out.at 1 _ rfl
        clear qb HC HW HI HE HF3
        go_wp2
        go_region_law ((go_simp; (go_at_call 78); (refine Calls.mono HC2.out ?_); (intro e w5 hx); (obtain ⟨he, hq5⟩ := hx); (subst he)))
        all_goals
          have HN : Hid (RoR B w0 w p n vd L.F gd S b g (.int .i64 4) w5) := ⟨4, by omega, rfl, hq5.row HG0.out, .inr ⟨by omega, hq5⟩⟩
          clear hq5 HC2 y1 H1 H2 H3 H4 HG0 HB3 hend hby
          go_wp2
          go_roundw
          case rel => exact HN.out
          case measure => simp [intOf]
      · have qb : ((4 : Int) == (b : Int)) = false := by simp; omega
        refine wp_region_quiet_below (by kernel_rfl) (by kernel_rfl) ?_
        repeat (go_big_quiet_step (fail))
        refine wpQuiet_nil ?_
        rintro _ ⟨⟨dq, osq⟩, rfl⟩
        have hb3 := below_regrown W2 dq osq
        clear kq0
        generalize grow (redrawn W2 dq) osq = W3 at *
        have HB3 : Hid (Below wr.heap.size wr W3) := HB2.out.trans (hb3.mono HB2.out.size)
        have HF3 : Hid (Box 113 W3 q [.int .u8 4, .func (Fn.func 78) #[] #[]]) := HF2.out.later hb3
        clear hb3 HB2 HF2
        have HN : Hid (RoR B w0 w p n vd L.F gd S b g (.int .i64 4) W3) := ⟨4, by omega, rfl, HI.out.1.later HB3.out, by
          rcases HI.out.2 with h | h
          · exact .inl ⟨by omega, h.2.trans (HB3.out.mono h.2.size)⟩
          · exact .inr ⟨by omega, h.2.later HB3.out⟩⟩
        clear qb HI HE HF3 H1 H2 H3 H4 HG0 HB3 hend hby
        go_wp2
        go_roundw
        case rel => exact HN.out
        case measure => simp [intOf]
    · have HQ : Hid (RdQ B w0 p n vd L.F gd S wr) := by
        rcases HI.out.2 with h | h
        · exact HE.out _ h.1 h.2
        · exact h.2
      clear HI HE H1 H2 H3 H4 HG0 hend hby
      go_wp2
      refine bodyPost_end (results_none rfl _ _ _) rfl ?_
      exact ⟨rfl, HQ.out⟩

end Go.Proofs.YthlgohplljcgfaaGreatDoor
/-
  How great what a shard knows is, after so many records.
-/
namespace Go.Proofs.YthlgohplljcgfaaGreatDoor
open Go.RowKit Go.BigFrame Go.Sort
set_option linter.unusedVariables false
set_option linter.unusedSimpArgs false

theorem UV.apU_24 {L : List Le} {x : Ug} (h : L.length ≤ 24) : (UV.apU L x).length ≤ 24 := by
  unfold UV.apU
  split
  · exact Nat.le_trans (UV.drop_len L x.n) h
  · unfold LV.putR
    split
    · rename_i hb
      rw [LV.putB_spec, Bool.and_eq_true] at hb
      have h2 := LV.leavesB_iff.1 hb.2
      unfold LV.LOk at h2
      omega
    · exact h
theorem UV.apA_24 (A : List Ug) : ∀ L : List Le, L.length ≤ 24 → (UV.apA L A).length ≤ 24 := by
  unfold UV.apA
  induction A with
  | nil => exact fun L h => h
  | cons x A ih => exact fun L h => ih _ (UV.apU_24 h)
theorem rl_24 (x : Int) (U : List Ug) : (rlA x U).length ≤ 24 := UV.apA_24 _ [] (by simp)
theorem UV.rd_okJ {t : ByteArray} (h : UV.rdOk t = true) : UV.okU (UV.rdA t) = true := by
  cases hr : UV.rawU t with
  | none =>
    have := (UV.rd_none hr).1
    rw [h] at this
    cases this
  | some y =>
    obtain ⟨x, r⟩ := y
    obtain ⟨e1, e2⟩ := UV.rd_some hr
    rw [h] at e1
    rw [e2, ← e1, if_pos rfl]
    exact (Bool.and_eq_true_iff.1 e1.symm).2
theorem okU_small {U : List Ug} (h : ∀ x ∈ U, UV.okU x = true) : SmallUs U := fun x hx => by
  obtain ⟨_, h1, h2⟩ := UV.okU_parts (h x hx)
  have h3 := UV.vOk_size h2
  unfold okB at h1
  rw [Bool.and_eq_true] at h1
  have h4 := of_decide_eq_true h1.1
  exact ⟨by omega, by omega⟩
theorem small_rl {x : Int} {U : List Ug} (h : SmallUs U) : SmallL (rlA x U) := by
  unfold rlA
  have := small_apA (L := []) (A := U) (fun f hf => by simp at hf) (fun x hx => h x hx) (tkN x U.length)
  exact this

namespace SR
/-- how great it is, after m records -/
structure Ss.okJ (s : Ss) (m : Nat) : Prop where
  e0 : 0 ≤ s.e
  e1 : s.e ≤ 4
  p : (s.P.length : Int) = s.e + 1
  i : s.I.length = s.P.length
  u : s.U.length ≤ m
  us : ∀ x ∈ s.U, UV.okU x = true
  r : (s.r0 = 0 ∧ s.r1 = 0 ∧ s.r2 = 0) ∨ (s.r0 = s.e + 1 ∧ s.r0 ≤ 4 ∧ 0 ≤ s.r2 ∧ s.r2 ≤ (s.U.length : Int))
  f : ∀ l ∈ s.P, l.length ≤ 24
  q : ∀ l ∈ s.P, SmallL l
theorem Ss.okJ.zero : Ss.zero.okJ 0 := ⟨by decide, by decide, rfl, rfl, Nat.le_refl _, fun x hx => by simp [Ss.zero] at hx, .inl ⟨rfl, rfl, rfl⟩, fun l hl => by simp [Ss.zero] at hl; subst hl; simp, fun l hl => by simp [Ss.zero] at hl; subst hl; intro f hf; simp at hf⟩
theorem Ss.okJ.le {s : Ss} {m m' : Nat} (h : s.okJ m) (hm : m ≤ m') : s.okJ m' := ⟨h.e0, h.e1, h.p, h.i, Nat.le_trans h.u hm, h.us, h.r, h.f, h.q⟩
theorem Ss.okJ.tk {s : Ss} {m : Nat} (h : s.okJ m) (a k : Int) (b : ByteArray) : (tkS a k s b).okJ (m + 1) := by
  unfold tkS
  split
  · rename_i hb
    unfold tkB at hb
    rw [Bool.and_eq_true] at hb
    have hu := h.u
    refine ⟨h.e0, h.e1, h.p, h.i, by simp; omega, fun x hx => ?_, ?_, h.f, h.q⟩
    · rcases List.mem_append.1 hx with hx | hx
      · exact h.us x hx
      · simp at hx
        subst hx
        exact UV.rd_okJ hb.1
    · rcases h.r with hr | ⟨h1, h2, h3, h4⟩
      · exact .inl hr
      · exact .inr ⟨h1, h2, h3, by simp; omega⟩
  · exact h.le (Nat.le_succ m)
theorem Ss.okJ.rd {s : Ss} {m : Nat} (h : s.okJ m) (b : ByteArray) : (rdS s b).okJ (m + 1) := by
  unfold rdS
  split
  · rename_i x y z _
    split
    · rename_i hb
      unfold fitB at hb
      rw [Bool.and_eq_true, Bool.and_eq_true] at hb
      have h1 := of_decide_eq_true hb.1
      have h2 := of_decide_eq_true hb.2.2
      exact ⟨h.e0, h.e1, h.p, h.i, Nat.le_succ_of_le h.u, h.us, .inr ⟨h1.1, h1.2, by simp, h2.2⟩, h.f, h.q⟩
    · exact h.le (Nat.le_succ m)
  · exact h.le (Nat.le_succ m)
theorem Ss.okJ.ab {s : Ss} {m : Nat} (h : s.okJ m) (b : ByteArray) : (abS s b).okJ (m + 1) := by
  unfold abS
  split
  · split
    · exact ⟨h.e0, h.e1, h.p, h.i, Nat.le_succ_of_le h.u, h.us, .inl ⟨rfl, rfl, rfl⟩, h.f, h.q⟩
    · exact h.le (Nat.le_succ m)
  · exact h.le (Nat.le_succ m)
theorem Ss.okJ.co {s : Ss} {m : Nat} (h : s.okJ m) (b : ByteArray) : (coS s b).okJ (m + 1) := by
  unfold coS
  split
  · split
    · rename_i hx
      have hr : s.r0 = s.e + 1 ∧ s.r0 ≤ 4 := by
        rcases h.r with hr | hr
        · have := hx.2
          omega
        · exact ⟨hr.1, hr.2.1⟩
      have hp := h.p
      have hi := h.i
      have he := h.e0
      refine ⟨by show 0 ≤ s.e + 1; omega, by show s.e + 1 ≤ 4; omega, by show ((s.P ++ [rlA s.r2 s.U]).length : Int) = s.e + 1 + 1; simp; omega, by show (s.I ++ [s.r2]).length = (s.P ++ [rlA s.r2 s.U]).length; simp; omega, Nat.le_succ_of_le h.u, h.us, .inl ⟨rfl, rfl, rfl⟩, fun l hl => ?_, fun l hl => ?_⟩
      · rcases List.mem_append.1 hl with hl | hl
        · exact h.f l hl
        · simp at hl
          subst hl
          exact rl_24 _ _
      · rcases List.mem_append.1 hl with hl | hl
        · exact h.q l hl
        · simp at hl
          subst hl
          exact small_rl (okU_small h.us)
    · exact h.le (Nat.le_succ m)
  · exact h.le (Nat.le_succ m)
theorem Ss.okJ.recJ {s : Ss} {m : Nat} (h : s.okJ m) (a k : Int) (t : ByteArray) : (recS a k s t).okJ (m + 1) := by
  unfold recS
  split
  · exact h.tk a k _
  · split
    · exact h.rd _
    · split
      · exact h.co _
      · split
        · exact h.ab _
        · exact h.le (Nat.le_succ m)
theorem okJ_run (a k : Int) (M : List ByteArray) : ∀ m, m ≤ M.length → (runS a k (M.take m)).okJ m
  | 0, _ => by simpa [runS] using Ss.okJ.zero
  | m + 1, hm => by
    rw [runS_step a k M (show m < M.length by omega)]
    exact (okJ_run a k M m (by omega)).recJ a k _
end SR

end Go.Proofs.YthlgohplljcgfaaGreatDoor
/-
  Whether all of a disk is kept, and the text of a file: the program's and the specification's answers.
-/
namespace Go.Proofs.YthlgohplljcgfaaGreatDoor
open Go.RowKit Go.BigFrame Go.Sort
set_option linter.unusedVariables false
set_option linter.unusedSimpArgs false

namespace F
open Classical in
noncomputable def keptB (L : List Fl) : Bool := decide (DOk L ∧ ∀ f ∈ L, f.k = f.t.size)
theorem keptB_iff {L : List Fl} : keptB L = true ↔ DOk L ∧ ∀ f ∈ L, f.k = f.t.size := by simp [keptB]
theorem keptB_no {L : List Fl} : keptB L = false ↔ ¬ (DOk L ∧ ∀ f ∈ L, f.k = f.t.size) := by simp [keptB]
theorem find_at {L : List Fl} {x : ByteArray} : ∀ {m : Nat} (hm : m < L.length), (∀ j (h : j < L.length), j < m → L[j].n ≠ x) → L[m].n = x → find L x = some L[m] := by
  induction L with
  | nil => intro m hm; simp at hm
  | cons f r ih =>
    intro m hm h1 h2
    unfold find
    rw [List.find?_cons]
    cases m with
    | zero =>
      have : f.n = x := h2
      simp [this]
    | succ m =>
      have h0 := h1 0 (by simp) (by omega)
      rw [decide_eq_false (show ¬ f.n = x from h0)]
      exact ih (by simpa using hm) (fun j hj hlt => h1 (j + 1) (by simpa using hj) (by omega)) h2
theorem find_no {L : List Fl} {x : ByteArray} (h : ∀ j (h : j < L.length), L[j].n ≠ x) : find L x = none := by
  unfold find
  rw [List.find?_eq_none]
  intro f hf
  obtain ⟨j, hj, rfl⟩ := List.getElem_of_mem hf
  simpa using h j hj
theorem list_ne {a b : ByteArray} (h : a ≠ b) : (a.toList == b.toList) = false := by
  cases hb : (a.toList == b.toList)
  · rfl
  · exact absurd (toList_inj (by simpa using hb)) h
/-- what FileAt answers -/
def fileT (L : List Fl) (x : ByteArray) : ByteArray := match find L x with | some f => f.t | none => ⟨#[]⟩
def fileO (L : List Fl) (x : ByteArray) : Bool := (find L x).isSome
end F

theorem strClone_any (s : ByteArray) (w : World) (hs : s.size ≤ 1048576) : Calls Tryz.prog 110 #[.string s] w fun e w' => e = .returned (.string s) ∧ Below w.heap.size w w' := by
  go_enter Tryz.func110, Tryz.ntmps110
  go_wp2_with fail
  refine (Tryz.stringslite_Clone s _ (by omega)).mono ?_
  rintro e w1 ⟨rfl, hb⟩
  go_wp2
  go_ret
  exact ⟨rfl, hb⟩

def KpR (L : List Fl) (B : Nat) (w : World) (i : Value) (wr : World) : Prop := ∃ m : Nat, m ≤ L.length ∧ i = .int .i64 m ∧ Hid (∀ j (h : j < L.length), j < m → L[j].k = L[j].t.size) ∧ Below B w wr
theorem kp_step {L : List Fl} {m : Nat} (hm : m < L.length) (h : ∀ j (h : j < L.length), j < m → L[j].k = L[j].t.size) (h1 : L[m].k = L[m].t.size) : ∀ j (h : j < L.length), j < m + 1 → L[j].k = L[j].t.size := by
  intro j hj hlt
  rcases Nat.lt_or_ge j m with h2 | h2
  · exact h j hj h2
  · have : j = m := by omega
    subst this
    exact h1

end Go.Proofs.YthlgohplljcgfaaGreatDoor
