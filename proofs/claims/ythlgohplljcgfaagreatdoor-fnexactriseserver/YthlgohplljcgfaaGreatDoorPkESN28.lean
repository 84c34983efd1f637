/-
  Texts laid together: Jp, Jw, Jz, Jfit.
-/
import Derived.Test.YthlgohplljcgfaaGreatDoorPkESN25
import Derived.Test.YthlgohplljcgfaaGreatDoorPkESN27
/-
  Numbers read one behind the other: the program's answer.
-/
namespace Go.Proofs.YthlgohplljcgfaaGreatDoor
open Go.RowKit Go.BigFrame Go.Sort
set_option linter.unusedVariables false
set_option linter.unusedSimpArgs false

/-- what the reader of numbers answers -/
def RnP (t : ByteArray) (c : Nat) (w : World) (e : Ending) (w' : World) : Prop := Below w.heap.size w w' ∧ match SR.numsOf t c with
  | none => ∃ v, e = .returned (.tuple #[v, .bool false])
  | some l => ∃ g, e = .returned (.tuple #[.slice (some ⟨g, 0, none⟩) c c, .bool true]) ∧ l.length = c ∧ g < w'.heap.size ∧ ∀ j (h : j < l.length), w'.cell? ⟨g, j, none⟩ = some (.int .i64 (l[j] : Nat))

namespace SR
theorem nums_len (l : List UInt8) : ∀ (c p : Nat) (r : List Nat) (z : Nat), nums l c p = some (r, z) → r.length = c
  | 0, p, r, z, h => by unfold nums at h; cases h; rfl
  | c + 1, p, r, z, h => by
    unfold nums at h
    cases h1 : M.readVar l p with
    | none => rw [h1] at h; cases h
    | some y =>
      obtain ⟨n, q⟩ := y
      rw [h1] at h
      simp only at h
      cases h2 : nums l c q with
      | none => rw [h2] at h; cases h
      | some y2 =>
        obtain ⟨r2, z2⟩ := y2
        rw [h2] at h
        simp only [Option.some.injEq, Prod.mk.injEq] at h
        obtain ⟨rfl, rfl⟩ := h
        rw [List.length_cons, nums_len l c q r2 z2 h2]
/-- one more at the end -/
theorem nums_add (l : List UInt8) : ∀ (c p : Nat) (r : List Nat) (z : Nat), nums l c p = some (r, z) → nums l (c + 1) p = match M.readVar l z with
    | none => none
    | some (n, q) => some (r ++ [n], q)
  | 0, p, r, z, h => by
    unfold nums at h
    cases h
    unfold nums
    cases M.readVar l p with
    | none => rfl
    | some y => rfl
  | c + 1, p, r, z, h => by
    have h0 := h
    unfold nums at h
    unfold nums
    cases h1 : M.readVar l p with
    | none => rw [h1] at h; cases h
    | some y =>
      obtain ⟨n, q⟩ := y
      rw [h1] at h
      simp only at h ⊢
      cases h2 : nums l c q with
      | none => rw [h2] at h; cases h
      | some y2 =>
        obtain ⟨r2, z2⟩ := y2
        rw [h2] at h
        simp only [Option.some.injEq, Prod.mk.injEq] at h
        obtain ⟨rfl, rfl⟩ := h
        rw [nums_add l c q r2 z2 h2]
        cases M.readVar l z2 with
        | none => rfl
        | some y3 => rfl
/-- what cannot be begun cannot be gone on with -/
theorem nums_none (l : List UInt8) : ∀ (c d p : Nat), nums l c p = none → nums l (c + d) p = none
  | 0, d, p, h => by unfold nums at h; cases h
  | c + 1, d, p, h => by
    rw [show c + 1 + d = (c + d) + 1 by omega]
    unfold nums at h ⊢
    cases h1 : M.readVar l p with
    | none => rfl
    | some y =>
      obtain ⟨n, q⟩ := y
      rw [h1] at h
      simp only at h ⊢
      cases h2 : nums l c q with
      | none => rw [nums_none l c d q h2]
      | some y2 => rw [h2] at h; cases h
end SR

/-- m numbers are read -/
def RnR (w : World) (t : ByteArray) (c g : Nat) (x i : Value) (wr : World) : Prop := ∃ (m z : Nat) (r : List Nat), m ≤ c ∧ i = .int .i64 (m : Int) ∧ x = .int .i64 (z : Int) ∧ z ≤ t.size ∧ Hid (SR.nums t.data.toList m 0 = some (r, z) ∧ (∀ j (h : j < r.length), wr.cell? ⟨g, j, none⟩ = some (.int .i64 (r[j] : Nat))) ∧ (∀ j, j < c → (∃ u, wr.cell? ⟨g, j, none⟩ = some u) ∧ wr.frozen? ⟨g, j, none⟩ = false) ∧ Below w.heap.size w wr ∧ g < wr.heap.size)

set_option maxRecDepth 100000 in
set_option maxHeartbeats 1000000 in
theorem readNumbers_any (t : ByteArray) (c : Nat) (hc : c ≤ 3) (w : World) (ht : t.size ≤ 1048576) :
    Calls Tryz.prog 115 #[.string t, .int .i64 (c : Int)] w (RnP t c w) := by
  obtain ⟨w2, hmk, hib, hb2, hs2⟩ := made_ints c (by omega) w
  have HST : Hid (RnR w t c w.heap.size (.int .i64 0) (.int .i64 0) w2) := ⟨0, 0, [], by omega, rfl, rfl, by omega, rfl, fun j h => by simp at h, hib, hb2, by omega⟩
  clear hib hb2 hs2
  obtain ⟨g, hg⟩ : ∃ g, w.heap.size = g := ⟨_, rfl⟩
  rw [hg] at HST hmk
  have HGG : Hid (w.heap.size = g) := hg
  clear hg
  go_enter Tryz.func115, Tryz.ntmps115
  go_wp2
  clear hmk
  go_loopw [7, 16] (fun x i wr => RnR w t c g x i wr) (fun _ i _ => c - (intOf i).toNat)
  case atStart => exact HST.out
  case round =>
    obtain ⟨m, z, r, hm, rfl, rfl, hz, HI⟩ := hrel
    clear HST
    by_cases hlt : m < c
    · have i1 : (m : Int) < (c : Int) := by omega
      have i2 : (0 : Int) ≤ (m : Int) := by omega
      have hrl := SR.nums_len _ _ _ _ _ HI.out.1
      cases hr : M.readVar t.data.toList z with
      | none =>
        have hadd := SR.nums_add _ _ _ _ _ HI.out.1
        rw [hr] at hadd
        have hno : SR.numsOf t c = none := by
          have h1 := SR.nums_none t.data.toList (m + 1) (c - (m + 1)) 0 hadd
          rw [show m + 1 + (c - (m + 1)) = c by omega] at h1
          unfold SR.numsOf
          rw [h1]
        have HF : Hid (∀ W v, Below wr.heap.size wr W → RnP t c w (.returned (.tuple #[v, .bool false])) W) := fun W v hW => by
          unfold RnP
          rw [hno]
          exact ⟨HI.out.2.2.2.1.trans (hW.mono HI.out.2.2.2.1.size), v, rfl⟩
        have hc := (ReadVar_none t (z : Int) wr ht (.inr ⟨by omega, by simpa using hr⟩))
        clear HI hadd hno hrl hr
        go_wp2_with fail
        refine hc.mono ?_
        rintro e w1 ⟨rfl, rfl⟩
        go_wp2
        try rw [Exit.noGoto_ret]
        refine bodyPost_ret (results_tmp2 rfl _ _ _) rfl ?_
        exact HF.out _ _ (Below.refl _ _)
      | some y =>
        obtain ⟨n, q⟩ := y
        have hadd := SR.nums_add _ _ _ _ _ HI.out.1
        rw [hr] at hadd
        have hq := (read_bound t z n q hr).1
        have hN := (read_bound t z n q hr).2
        have hc := (ReadVar_some t (z : Int) n q wr ht (by omega) (by simpa using hr))
        obtain ⟨⟨o0, x0⟩, f0⟩ := HI.out.2.2.1 m hlt
        have HJ : Hid (RnR w t c g (.int .i64 (q : Int)) (.int .i64 ((m : Int) + 1)) (wr.setCell ⟨g, m, none⟩ (.int .i64 (n : Int)))) := by
          obtain ⟨j1, j2, j3, j4, j5⟩ := HI.out
          refine ⟨m + 1, q, r ++ [n], by omega, by simp, rfl, hq, hadd, fun j hj => ?_, fun j hj => ⟨?_, by rw [World.frozen?_setCell]; exact (j3 j hj).2⟩, j4.setCell (p := ⟨g, m, none⟩) (by show w.heap.size ≤ g; rw [HGG.out]; exact Nat.le_refl _) _, by simpa using j5⟩
          · rcases Nat.lt_or_ge j m with h | h
            · rw [set_else (by omega), List.getElem_append_left (by omega)]
              exact j2 j (by omega)
            · have : j = m := by simp at hj; omega
              subst this
              rw [List.getElem_append_right (by omega)]
              simp [hrl]
              exact set_here x0 f0 _
          · by_cases h : j = m
            · subst h; exact ⟨_, set_here x0 f0 _⟩
            · rw [set_else h]; exact (j3 j hj).1
        clear HI hadd hrl hr
        go_wp2_with fail
        refine hc.mono ?_
        rintro e w1 ⟨rfl, rfl⟩
        go_wp2
        go_roundw
        case rel => exact HJ.out
        case measure => simp [intOf]; omega
    · have hme : m = c := by omega
      subst hme
      have hlen := SR.nums_len _ _ _ _ _ HI.out.1
      by_cases hzt : z = t.size
      · have hn : SR.numsOf t m = some r := by unfold SR.numsOf; rw [HI.out.1]; simp [hzt]
        have HF : Hid (RnP t m w (.returned (.tuple #[.slice (some ⟨g, 0, none⟩) m m, .bool true])) wr) := by
          unfold RnP
          rw [hn]
          exact ⟨HI.out.2.2.2.1, g, rfl, hlen, HI.out.2.2.2.2, HI.out.2.1⟩
        have q0 : ((z : Int) == (t.size : Int)) = true := by simp [hzt]
        clear HI hn hlen
        subst hzt
        go_wp2
        refine bodyPost_ret (results_tmp2 rfl _ _ _) rfl ?_
        exact HF.out
      · have hn : SR.numsOf t m = none := by unfold SR.numsOf; rw [HI.out.1]; simp [hzt]
        have HF : Hid (∀ v, RnP t m w (.returned (.tuple #[v, .bool false])) wr) := fun v => by
          unfold RnP
          rw [hn]
          exact ⟨HI.out.2.2.2.1, v, rfl⟩
        have q0 : ((z : Int) == (t.size : Int)) = false := by simp; omega
        clear HI hn hlen
        go_wp2
        refine bodyPost_ret (results_tmp2 rfl _ _ _) rfl ?_
        exact HF.out _

end Go.Proofs.YthlgohplljcgfaaGreatDoor
/-
  A record of an end given up read once more: the program's answer.
-/
namespace Go.Proofs.YthlgohplljcgfaaGreatDoor
open Go.RowKit Go.BigFrame Go.Sort
set_option linter.unusedVariables false
set_option linter.unusedSimpArgs false

/-- a record done: what the server under way knows then -/
def RdP (B : Nat) (w0 : World) (p : Nat) (n : Sn) (vd : Value) (F : List Fl) (gd : Nat) (S : SR.Ss) (e : Ending) (w' : World) : Prop := e = .returned (.tuple #[]) ∧ ∃ n' vv' vt' va' L' V' G', SvO B w0 w' p n' vd vv' vt' va' L' V' G' gd ∧ Ss.of n' L' = S ∧ L'.F = F ∧ n'.a = n.a ∧ n'.k = n.k ∧ n'.u = n.u
theorem redoTaken_rd {B : Nat} {w0 w : World} {p : Nat} {n : Sn} {vd vv vt va : Value} {L : Sr} {V : List Value} {G : Nat → Nat} {gd : Nat} (h : SvO B w0 w p n vd vv vt va L V G gd) (t : ByteArray) (ht : t.size ≤ 1048576) (hl : L.U.length < 1000000) (hT : Tb w) :
    Calls Tryz.prog 75 #[.pointer (some ⟨p, 0, none⟩), .string t] w (RdP B w0 p n vd L.F gd (SR.tkS n.a n.k (Ss.of n L) t)) :=
  (redoTaken_sv h t ht hl hT).mono fun e w' ⟨he, va', L', h1, h2, h3⟩ => ⟨he, n, vv, vt, va', L', V, G, h1, h2, h3, rfl, rfl, rfl⟩

theorem abort_sv {B : Nat} {w0 w : World} {p : Nat} {n : Sn} {vd vv vt va : Value} {L : Sr} {V : List Value} {G : Nat → Nat} {gd : Nat} (h : SvO B w0 w p n vd vv vt va L V G gd) :
    Calls Tryz.prog 119 #[.pointer (some ⟨p, 0, none⟩)] w fun e w' => e = .returned (.tuple #[]) ∧ SvO B w0 w' p ⟨n.a, n.k, n.u, n.e, 0, 0, 0⟩ vd vv vt va L V G gd :=
  (abort_any p _ _ _ _ _ _ _ _ n.r0 n.r1 n.r2 w h.box).mono fun e w' ⟨he, hb, hg⟩ => ⟨he, h.keepR hg hb⟩

theorem len_two {l : List Nat} (h : l.length = 2) : ∃ x y, l = [x, y] := by
  match l, h with
  | [x, y], _ => exact ⟨x, y, rfl⟩
theorem len_one {l : List Nat} (h : l.length = 1) : ∃ x, l = [x] := by
  match l, h with
  | [x], _ => exact ⟨x, rfl⟩
theorem len_three {l : List Nat} (h : l.length = 3) : ∃ x y z, l = [x, y, z] := by
  match l, h with
  | [x, y, z], _ => exact ⟨x, y, z, rfl⟩

set_option maxRecDepth 100000 in
set_option maxHeartbeats 4000000 in
theorem redoAborted_rd {B : Nat} {w0 w : World} {p : Nat} {n : Sn} {vd vv vt va : Value} {L : Sr} {V : List Value} {G : Nat → Nat} {gd : Nat} (h : SvO B w0 w p n vd vv vt va L V G gd) (t : ByteArray) (ht : t.size ≤ 1048576) :
    Calls Tryz.prog 78 #[.pointer (some ⟨p, 0, none⟩), .string t] w (RdP B w0 p n vd L.F gd (SR.abS (Ss.of n L) t)) := by
  have HS : Hid (SvO B w0 w p n vd vv vt va L V G gd) := h
  have HRN : Hid (∀ W, Calls Tryz.prog 115 #[.string t, .int .i64 2] W (RnP t 2 W)) := fun W => readNumbers_any t 2 (by omega) W ht
  unfold RnP at HRN
  cases hN : SR.numsOf t 2 with
  | none =>
    rw [hN] at HRN
    simp only at HRN
    have HAB : Hid (Ss.of n L = SR.abS (Ss.of n L) t) := by
      show _ = _
      unfold SR.abS
      rw [hN]
    clear h hN
    go_enter Tryz.func78, Tryz.ntmps78
    go_wp2_with fail
    refine (HRN.out _).mono ?_
    rintro e w1 ⟨hb1, v1, rfl⟩
    have HF1 : Hid (SvO B w0 w1 p n vd vv vt va L V G gd) := HS.out.later hb1
    clear hb1 HRN HS
    go_wp2
    refine wp_region_quiet_below (by kernel_rfl) (by kernel_rfl) ?_
    repeat (go_big_quiet_step (fail))
    refine wpQuiet_nil ?_
    rintro _ ⟨⟨dq, osq⟩, rfl⟩
    have hb0 := below_regrown w1 dq osq
    generalize grow (redrawn w1 dq) osq = w3 at *
    have HF : Hid (SvO B w0 w3 p n vd vv vt va L V G gd) := HF1.out.later hb0
    clear hb0 HF1
    go_wp2
    refine bodyPost_end (results_none rfl _ _ _) rfl ?_
    exact ⟨rfl, n, vv, vt, va, L, V, G, HF.out, HAB.out, rfl, rfl, rfl, rfl⟩
  | some l =>
    rw [hN] at HRN
    simp only at HRN
    have HRD : Hid (∀ W x y, SvO B w0 W p n vd vv vt va L V G gd → Calls Tryz.prog 118 #[.pointer (some ⟨p, 0, none⟩), .int .i64 x, .int .i64 y] W fun e w' => e = .returned (.bool (decide (n.r0 = x ∧ n.r1 = y))) ∧ Below W.heap.size W w') := fun W x y hW => (readyFor_any x y n.r0 n.r1 p _ _ _ _ _ _ _ _ _ W hW.box).mono fun e w' ⟨h1, h2⟩ => ⟨h1, by rw [h2]; exact Below.refl _ _⟩
    have HA : Hid (∀ W, SvO B w0 W p n vd vv vt va L V G gd → Calls Tryz.prog 119 #[.pointer (some ⟨p, 0, none⟩)] W fun e w' => e = .returned (.tuple #[]) ∧ SvO B w0 w' p ⟨n.a, n.k, n.u, n.e, 0, 0, 0⟩ vd vv vt va L V G gd) := fun W hW => abort_sv hW
    have HAB : Hid (∀ x y, l = [x, y] → SR.abS (Ss.of n L) t = if (x : Int) = n.r0 ∧ (y : Int) = n.r1 then Ss.of ⟨n.a, n.k, n.u, n.e, 0, 0, 0⟩ L else Ss.of n L) := fun x y e => by
      subst e
      unfold SR.abS
      rw [hN]
      rfl
    clear h hN
    go_enter Tryz.func78, Tryz.ntmps78
    go_wp2_with fail
    refine (HRN.out _).mono ?_
    rintro e w1 ⟨hb1, g, rfl, hl, hg, hc⟩
    have HS1 : Hid (SvO B w0 w1 p n vd vv vt va L V G gd) := HS.out.later hb1
    obtain ⟨x, y, rfl⟩ := len_two hl
    have c0 : w1.cell? ⟨g, 0, none⟩ = some (.int .i64 (x : Int)) := hc 0 (by simp)
    have c1 : w1.cell? ⟨g, 1, none⟩ = some (.int .i64 (y : Int)) := hc 1 (by simp)
    have HAB1 := HAB.out x y rfl
    have HAB2 : Hid (SR.abS (Ss.of n L) t = if (x : Int) = n.r0 ∧ (y : Int) = n.r1 then Ss.of ⟨n.a, n.k, n.u, n.e, 0, 0, 0⟩ L else Ss.of n L) := HAB1
    obtain ⟨D, hD⟩ : ∃ D, decide (n.r0 = (x : Int) ∧ n.r1 = (y : Int)) = D := ⟨_, rfl⟩
    have HAB3 : Hid (SR.abS (Ss.of n L) t = if D then Ss.of ⟨n.a, n.k, n.u, n.e, 0, 0, 0⟩ L else Ss.of n L) := by
      show _ = _
      rw [HAB2.out, ← hD]
      by_cases hd : n.r0 = (x : Int) ∧ n.r1 = (y : Int)
      · rw [decide_eq_true hd, if_pos ⟨hd.1.symm, hd.2.symm⟩, if_pos rfl]
      · rw [decide_eq_false hd, if_neg (fun h => hd ⟨h.1.symm, h.2.symm⟩)]
        rfl
    have HRX : Hid (∀ W, Below w1.heap.size w1 W → Calls Tryz.prog 118 #[.pointer (some ⟨p, 0, none⟩), .int .i64 x, .int .i64 y] W fun e w' => e = .returned (.bool D) ∧ Below W.heap.size W w') := fun W hW => by
      have h := HRD.out W x y (HS1.out.later hW)
      rw [hD] at h
      exact h
    clear hb1 HRN HS hc hl HAB HAB1 HAB2 HRD hD
    cases D with
    | true =>
      go_wp2
      have kq0 := cell_regrown (w := w1) c0
      have kq1 := cell_regrown (w := w1) c1
      have cq1 := fun d os => Calls.regrown_of (w := w1) (d := d) (os := os) (HRX.out _ (below_regrown w1 d os))
      clear c0 c1
      refine wp_region_quiet_below (by kernel_rfl) (by kernel_rfl) ?_
      repeat (go_big_quiet_step (first | with_reducible exact cq1 _ _))
      refine wpQuiet_nil ?_
      rintro _ ⟨⟨dq, osq⟩, rfl⟩
      have hb0 := below_regrown w1 dq osq
      generalize grow (redrawn w1 dq) osq = w3 at *
      have HS3 : Hid (SvO B w0 w3 p n vd vv vt va L V G gd) := HS1.out.later hb0
      clear hb0 HS1 kq0 kq1 cq1 HRX
      go_wp2_with fail
      refine (HA.out _ HS3.out).mono ?_
      rintro e w4 ⟨rfl, h4⟩
      have HF : Hid (SvO B w0 w4 p ⟨n.a, n.k, n.u, n.e, 0, 0, 0⟩ vd vv vt va L V G gd) := h4
      clear h4 HA HS3
      go_wp2
      refine bodyPost_end (results_none rfl _ _ _) rfl ?_
      exact ⟨rfl, ⟨n.a, n.k, n.u, n.e, 0, 0, 0⟩, vv, vt, va, L, V, G, HF.out, HAB3.out.symm, rfl, rfl, rfl, rfl⟩
    | false =>
      go_wp2
      have kq0 := cell_regrown (w := w1) c0
      have kq1 := cell_regrown (w := w1) c1
      have cq1 := fun d os => Calls.regrown_of (w := w1) (d := d) (os := os) (HRX.out _ (below_regrown w1 d os))
      clear c0 c1
      refine wp_region_quiet_below (by kernel_rfl) (by kernel_rfl) ?_
      repeat (go_big_quiet_step (first | with_reducible exact cq1 _ _))
      refine wpQuiet_nil ?_
      rintro _ ⟨⟨dq, osq⟩, rfl⟩
      have hb0 := below_regrown w1 dq osq
      generalize grow (redrawn w1 dq) osq = w3 at *
      have HF : Hid (SvO B w0 w3 p n vd vv vt va L V G gd) := HS1.out.later hb0
      clear hb0 HS1 kq0 kq1 cq1 HRX HA
      go_wp2
      refine bodyPost_end (results_none rfl _ _ _) rfl ?_
      exact ⟨rfl, n, vv, vt, va, L, V, G, HF.out, HAB3.out.symm, rfl, rfl, rfl, rfl⟩

end Go.Proofs.YthlgohplljcgfaaGreatDoor
/-
  A record of an epoch committed read once more: the program's answer.
-/
namespace Go.Proofs.YthlgohplljcgfaaGreatDoor
open Go.RowKit Go.BigFrame Go.Sort
set_option linter.unusedVariables false
set_option linter.unusedSimpArgs false

set_option maxRecDepth 100000 in
set_option maxHeartbeats 4000000 in
theorem redoCommitted_rd {B : Nat} {w0 w : World} {p : Nat} {n : Sn} {vd vv vt va : Value} {L : Sr} {V : List Value} {G : Nat → Nat} {gd : Nat} (h : SvO B w0 w p n vd vv vt va L V G gd) (t : ByteArray) (ht : t.size ≤ 1048576) (hr : (n.r0 = 0 ∧ n.r1 = 0 ∧ n.r2 = 0) ∨ 0 < n.r0) (hP : L.P.length < 1000000) (hI : L.I.length < 1000000) (hUl : L.U.length ≤ 1000000) (hsm : SmallUs L.U) (he0 : 0 ≤ n.e) (he1 : n.e ≤ 1000000) :
    Calls Tryz.prog 77 #[.pointer (some ⟨p, 0, none⟩), .string t] w (RdP B w0 p n vd L.F gd (SR.coS (Ss.of n L) t)) := by
  have HS : Hid (SvO B w0 w p n vd vv vt va L V G gd) := h
  have HRN : Hid (∀ W, Calls Tryz.prog 115 #[.string t, .int .i64 1] W (RnP t 1 W)) := fun W => readNumbers_any t 1 (by omega) W ht
  unfold RnP at HRN
  cases hN : SR.numsOf t 1 with
  | none =>
    rw [hN] at HRN
    simp only at HRN
    have HAB : Hid (Ss.of n L = SR.coS (Ss.of n L) t) := by
      show _ = _
      unfold SR.coS
      rw [hN]
    clear h hN hr hP hI hUl hsm he0 he1
    go_enter Tryz.func77, Tryz.ntmps77
    go_wp2_with fail
    refine (HRN.out _).mono ?_
    rintro e w1 ⟨hb1, v1, rfl⟩
    have HF1 : Hid (SvO B w0 w1 p n vd vv vt va L V G gd) := HS.out.later hb1
    clear hb1 HRN HS
    go_wp2
    refine wp_region_quiet_below (by kernel_rfl) (by kernel_rfl) ?_
    repeat (go_big_quiet_step (fail))
    refine wpQuiet_nil ?_
    rintro _ ⟨⟨dq, osq⟩, rfl⟩
    have hb0 := below_regrown w1 dq osq
    generalize grow (redrawn w1 dq) osq = w3 at *
    have HF : Hid (SvO B w0 w3 p n vd vv vt va L V G gd) := HF1.out.later hb0
    clear hb0 HF1
    go_wp2
    refine bodyPost_end (results_none rfl _ _ _) rfl ?_
    exact ⟨rfl, n, vv, vt, va, L, V, G, HF.out, HAB.out, rfl, rfl, rfl, rfl⟩
  | some l =>
    rw [hN] at HRN
    simp only at HRN
    have HA : Hid (∀ W, SvO B w0 W p n vd vv vt va L V G gd → Calls Tryz.prog 117 #[.pointer (some ⟨p, 0, none⟩)] W fun e w' => e = .returned (.tuple #[]) ∧ ∃ vv' vt' V' G', SvO B w0 w' p ⟨n.a, n.k, n.u, n.e + 1, 0, 0, 0⟩ vd vv' vt' va { L with P := L.P ++ [rlA n.r2 L.U], I := L.I ++ [n.r2] } V' G' gd) := fun W hW => commit_sv hW hP hI hUl hsm he0 he1
    have HAB : Hid (∀ x, l = [x] → SR.coS (Ss.of n L) t = if (x : Int) = n.r0 ∧ 0 < n.r0 then Ss.of ⟨n.a, n.k, n.u, n.e + 1, 0, 0, 0⟩ { L with P := L.P ++ [rlA n.r2 L.U], I := L.I ++ [n.r2] } else Ss.of n L) := fun x e => by
      subst e
      unfold SR.coS
      rw [hN]
      rfl
    clear h hN hP hI hUl hsm he0 he1
    go_enter Tryz.func77, Tryz.ntmps77
    go_wp2_with fail
    refine (HRN.out _).mono ?_
    rintro e w1 ⟨hb1, g, rfl, hl, hg, hc⟩
    have HS1 : Hid (SvO B w0 w1 p n vd vv vt va L V G gd) := HS.out.later hb1
    obtain ⟨x, rfl⟩ := len_one hl
    have c0 : w1.cell? ⟨g, 0, none⟩ = some (.int .i64 (x : Int)) := hc 0 (by simp)
    have HAB2 : Hid (SR.coS (Ss.of n L) t = if (x : Int) = n.r0 ∧ 0 < n.r0 then Ss.of ⟨n.a, n.k, n.u, n.e + 1, 0, 0, 0⟩ { L with P := L.P ++ [rlA n.r2 L.U], I := L.I ++ [n.r2] } else Ss.of n L) := HAB.out x rfl
    clear hb1 HRN HS hc hl HAB
    go_wp2
    have kq0 := cell_regrown (w := w1) c0
    have kq1 := cell_regrown (w := w1) (HS1.out.box.at 8 _ rfl)
    have kq2 := cell_regrown (w := w1) (HS1.out.box.at 9 _ rfl)
    have kq3 := cell_regrown (w := w1) (HS1.out.box.at 10 _ rfl)
    obtain ⟨a, k, u, e, r0, r1, r2⟩ := n
    simp only at *
    clear c0
    rcases hr with ⟨rfl, rfl, rfl⟩ | hr
    · have HAB3 : Hid (SR.coS (Ss.of ⟨a, k, u, e, 0, 0, 0⟩ L) t = Ss.of ⟨a, k, u, e, 0, 0, 0⟩ L) := by
        show _ = _
        rw [HAB2.out, if_neg (fun h => absurd h.2 (by omega))]
      clear HAB2 HA
      refine wp_region_quiet_below (by kernel_rfl) (by kernel_rfl) ?_
      repeat (go_big_quiet_step (fail))
      refine wpQuiet_nil ?_
      rintro _ ⟨⟨dq, osq⟩, rfl⟩
      have hb0 := below_regrown w1 dq osq
      generalize grow (redrawn w1 dq) osq = w3 at *
      have HF : Hid (SvO B w0 w3 p ⟨a, k, u, e, 0, 0, 0⟩ vd vv vt va L V G gd) := HS1.out.later hb0
      clear hb0 HS1 kq0 kq1 kq2 kq3
      go_wp2
      refine bodyPost_end (results_none rfl _ _ _) rfl ?_
      exact ⟨rfl, ⟨a, k, u, e, 0, 0, 0⟩, vv, vt, va, L, V, G, HF.out, HAB3.out.symm, rfl, rfl, rfl, rfl⟩
    · have q0 : (r0 == 0) = false := by simp; omega
      by_cases hx : (x : Int) = r0
      · have HAB3 : Hid (SR.coS (Ss.of ⟨a, k, u, e, r0, r1, r2⟩ L) t = Ss.of ⟨a, k, u, e + 1, 0, 0, 0⟩ { L with P := L.P ++ [rlA r2 L.U], I := L.I ++ [r2] }) := by
          show _ = _
          rw [HAB2.out, if_pos ⟨hx, hr⟩]
        have q1 : ((x : Int) == r0) = true := by simp [hx]
        clear HAB2 hr hx
        refine wp_region_quiet_below (by kernel_rfl) (by kernel_rfl) ?_
        repeat (go_big_quiet_step (fail))
        refine wpQuiet_nil ?_
        rintro _ ⟨⟨dq, osq⟩, rfl⟩
        have hb0 := below_regrown w1 dq osq
        generalize grow (redrawn w1 dq) osq = w3 at *
        have HS3 : Hid (SvO B w0 w3 p ⟨a, k, u, e, r0, r1, r2⟩ vd vv vt va L V G gd) := HS1.out.later hb0
        clear hb0 HS1 kq0 kq1 kq2 kq3 q0 q1
        go_wp2_with fail
        refine (HA.out _ HS3.out).mono ?_
        rintro e w4 ⟨rfl, vv', vt', V', G', h4⟩
        have HF : Hid (SvO B w0 w4 p _ vd vv' vt' va _ V' G' gd) := h4
        clear h4 HA HS3
        go_wp2
        refine bodyPost_end (results_none rfl _ _ _) rfl ?_
        exact ⟨rfl, _, vv', vt', va, _, V', G', HF.out, HAB3.out.symm, rfl, rfl, rfl, rfl⟩
      · have HAB3 : Hid (SR.coS (Ss.of ⟨a, k, u, e, r0, r1, r2⟩ L) t = Ss.of ⟨a, k, u, e, r0, r1, r2⟩ L) := by
          show _ = _
          rw [HAB2.out, if_neg (fun h => hx h.1)]
        have q1 : ((x : Int) == r0) = false := by simp [hx]
        clear HAB2 hr hx HA
        refine wp_region_quiet_below (by kernel_rfl) (by kernel_rfl) ?_
        repeat (go_big_quiet_step (fail))
        refine wpQuiet_nil ?_
        rintro _ ⟨⟨dq, osq⟩, rfl⟩
        have hb0 := below_regrown w1 dq osq
        generalize grow (redrawn w1 dq) osq = w3 at *
        have HF : Hid (SvO B w0 w3 p ⟨a, k, u, e, r0, r1, r2⟩ vd vv vt va L V G gd) := HS1.out.later hb0
        clear hb0 HS1 kq0 kq1 kq2 kq3 q0 q1
        go_wp2
        refine bodyPost_end (results_none rfl _ _ _) rfl ?_
        exact ⟨rfl, ⟨a, k, u, e, r0, r1, r2⟩, vv, vt, va, L, V, G, HF.out, HAB3.out.symm, rfl, rfl, rfl, rfl⟩

end Go.Proofs.YthlgohplljcgfaaGreatDoor
/-
  What a Ready that was read must be: the program's answer.
-/
namespace Go.Proofs.YthlgohplljcgfaaGreatDoor
open Go.RowKit Go.BigFrame Go.Sort
set_option linter.unusedVariables false
set_option linter.unusedSimpArgs false

theorem fit_b {S : SR.Ss} {x y z : Int} {D1 D2 D3 D4 D5 D6 : Bool} (h1 : (x == S.e + 1) = D1) (h2 : decide (x ≤ 4) = D2) (h3 : decide (S.r1 < y) = D3) (h4 : decide (y ≤ 1000) = D4) (h5 : decide (SR.lastT S.I ≤ z) = D5) (h6 : decide (z ≤ (S.U.length : Int)) = D6) : SR.fitB S x y z = (D1 && D2 && (D3 && D4 && (D5 && D6))) := by
  subst h1
  subst h2
  subst h3
  subst h4
  subst h5
  subst h6
  unfold SR.fitB
  rw [Bool.decide_and, Bool.decide_and, Bool.decide_and]
  rfl

set_option maxRecDepth 100000 in
set_option maxHeartbeats 8000000 in
theorem readyFits_sv {B : Nat} {w0 w : World} {p : Nat} {n : Sn} {vd vv vt va : Value} {L : Sr} {V : List Value} {G : Nat → Nat} {gd : Nat} (h : SvO B w0 w p n vd vv vt va L V G gd) (x y z : Int) (hI : L.I.length ≤ 1000000) (he0 : 0 ≤ n.e) (he1 : n.e ≤ 1000000) :
    Calls Tryz.prog 116 #[.pointer (some ⟨p, 0, none⟩), .agg #[.int .i64 x, .int .i64 y, .int .i64 z]] w fun e w' => e = .returned (.bool (SR.fitB (Ss.of n L) x y z)) ∧ Below w.heap.size w w' := by
  obtain ⟨aa, ca, rfl⟩ := h.ou.shape
  obtain ⟨W1, hW1⟩ : ∃ W1, w.alloc (.cells #[.int .i64 x, .int .i64 y, .int .i64 z] 33) = W1 := ⟨_, rfl⟩
  have HB1 : Hid (Below w.heap.size w W1) := by rw [← hW1]; exact below_alloc _ _
  have HR : Hid (Box 33 W1 w.heap.size [.int .i64 x, .int .i64 y, .int .i64 z]) := by rw [← hW1]; exact Box.new _ w [.int .i64 x, .int .i64 y, .int .i64 z]
  have HX : Hid (∀ W, Below W1.heap.size W1 W → (W.cell? ⟨w.heap.size, 0, none⟩ = some (.int .i64 x) ∧ W.cell? ⟨w.heap.size, 1, none⟩ = some (.int .i64 y) ∧ W.cell? ⟨w.heap.size, 2, none⟩ = some (.int .i64 z)) ∧ W.cell? ⟨p, 4, none⟩ = some (.int .i64 n.e) ∧ W.cell? ⟨p, 7, none⟩ = some (.slice aa L.U.length ca) ∧ W.cell? ⟨p, 9, none⟩ = some (.int .i64 n.r1)) := fun W hW => by
    have hb := HR.out.later hW
    have hs := (h.later (HB1.out.trans (hW.mono HB1.out.size))).box
    exact ⟨⟨hb.at 0 _ rfl, hb.at 1 _ rfl, hb.at 2 _ rfl⟩, hs.at 4 _ rfl, hs.at 7 _ rfl, hs.at 9 _ rfl⟩
  have HC : Hid (∀ W, Below W1.heap.size W1 W → Calls Tryz.prog 143 #[.pointer (some ⟨p, 0, none⟩)] W fun e w' => e = .returned (.int .i64 (SR.lastT L.I)) ∧ Below W.heap.size W w') := fun W hW => by
    have hs := h.later (HB1.out.trans (hW.mono HB1.out.size))
    obtain ⟨g, hr, _⟩ := OR.rw (k := 1) (enc := ics) (fun _ => rfl) (by omega) hs.oi (by omega)
    exact lastTaken_any L.I p g 0 _ _ _ _ _ _ _ _ _ _ vt W hs.box hr.1
  have wr : IntKind.i64.wrap (n.e + 1) = n.e + 1 := IntWalk.i64_in _ (by omega)
  obtain ⟨D1, h1⟩ : ∃ D, (x == n.e + 1) = D := ⟨_, rfl⟩
  obtain ⟨D2, h2⟩ : ∃ D, decide (x ≤ 4) = D := ⟨_, rfl⟩
  obtain ⟨D3, h3⟩ : ∃ D, decide (n.r1 < y) = D := ⟨_, rfl⟩
  obtain ⟨D4, h4⟩ : ∃ D, decide (y ≤ 1000) = D := ⟨_, rfl⟩
  obtain ⟨D5, h5⟩ : ∃ D, decide (SR.lastT L.I ≤ z) = D := ⟨_, rfl⟩
  obtain ⟨D6, h6⟩ : ∃ D, decide (z ≤ (L.U.length : Int)) = D := ⟨_, rfl⟩
  rw [fit_b (S := Ss.of n L) h1 h2 h3 h4 h5 h6]
  generalize SR.lastT L.I = T at *
  generalize L.U.length = nu at *
  obtain ⟨a, k, u, e, r0, r1, r2⟩ := n
  simp only at *
  clear h hI he0 he1 HR
  go_enter Tryz.func116, Tryz.ntmps116
  go_wp2
  try rw [hW1]
  clear hW1
  cases D1 with
  | false =>
    obtain ⟨⟨z0, z1, z2⟩, z3, z4, z5⟩ := HX.out W1 (Below.refl _ _)
    have kq0 := cell_regrown (w := W1) z0
    have kq1 := cell_regrown (w := W1) z1
    have kq2 := cell_regrown (w := W1) z2
    have kq3 := cell_regrown (w := W1) z3
    have kq4 := cell_regrown (w := W1) z4
    have kq5 := cell_regrown (w := W1) z5
    clear z0 z1 z2 z3 z4 z5
    refine wp_region_quiet_below (by kernel_rfl) (by kernel_rfl) ?_
    repeat (go_big_quiet_step (fail))
    refine wpQuiet_nil ?_
    rintro _ ⟨⟨dq, osq⟩, rfl⟩
    have HBW2 : Hid (Below W1.heap.size W1 (grow (redrawn W1 dq) osq)) := below_regrown W1 dq osq
    clear kq0 kq1 kq2 kq3 kq4 kq5
    generalize grow (redrawn W1 dq) osq = W2 at *
    go_wp2
    cases D3 with
    | false =>
      obtain ⟨⟨z0, z1, z2⟩, z3, z4, z5⟩ := HX.out W2 HBW2.out
      have kq0 := cell_regrown (w := W2) z0
      have kq1 := cell_regrown (w := W2) z1
      have kq2 := cell_regrown (w := W2) z2
      have kq3 := cell_regrown (w := W2) z3
      have kq4 := cell_regrown (w := W2) z4
      have kq5 := cell_regrown (w := W2) z5
      clear z0 z1 z2 z3 z4 z5
      refine wp_region_quiet_below (by kernel_rfl) (by kernel_rfl) ?_
      repeat (go_big_quiet_step (fail))
      refine wpQuiet_nil ?_
      rintro _ ⟨⟨dq, osq⟩, rfl⟩
      have HBW3 : Hid (Below W1.heap.size W1 (grow (redrawn W2 dq) osq)) := HBW2.out.trans ((below_regrown W2 dq osq).mono HBW2.out.size)
      clear kq0 kq1 kq2 kq3 kq4 kq5
      generalize grow (redrawn W2 dq) osq = W3 at *
      go_wp2
      obtain ⟨⟨z0, z1, z2⟩, z3, z4, z5⟩ := HX.out W3 HBW3.out
      have kq0 := cell_regrown (w := W3) z0
      have kq1 := cell_regrown (w := W3) z1
      have kq2 := cell_regrown (w := W3) z2
      have kq3 := cell_regrown (w := W3) z3
      have kq4 := cell_regrown (w := W3) z4
      have kq5 := cell_regrown (w := W3) z5
      have cq1 := fun d os => Calls.regrown_of (w := W3) (d := d) (os := os) (HC.out _ ((HBW3.out).trans ((below_regrown W3 d os).mono (HBW3.out).size)))
      clear z0 z1 z2 z3 z4 z5
      refine wp_region_quiet_below (by kernel_rfl) (by kernel_rfl) ?_
      repeat (go_big_quiet_step (first | with_reducible exact cq1 _ _))
      refine wpQuiet_nil ?_
      rintro _ ⟨⟨dq, osq⟩, rfl⟩
      have HBW4 : Hid (Below W1.heap.size W1 (grow (redrawn W3 dq) osq)) := HBW3.out.trans ((below_regrown W3 dq osq).mono HBW3.out.size)
      clear kq0 kq1 kq2 kq3 kq4 kq5 cq1
      generalize grow (redrawn W3 dq) osq = W4 at *
      have HF : Hid (Below w.heap.size w W4) := HB1.out.trans (HBW4.out.mono HB1.out.size)
      clear HBW2 HBW3 HBW4 HX HC
      go_wp2
      go_ret
      exact ⟨rfl, HF.out⟩
    | true =>
      cases D4 with
      | false =>
        obtain ⟨⟨z0, z1, z2⟩, z3, z4, z5⟩ := HX.out W2 HBW2.out
        have kq0 := cell_regrown (w := W2) z0
        have kq1 := cell_regrown (w := W2) z1
        have kq2 := cell_regrown (w := W2) z2
        have kq3 := cell_regrown (w := W2) z3
        have kq4 := cell_regrown (w := W2) z4
        have kq5 := cell_regrown (w := W2) z5
        clear z0 z1 z2 z3 z4 z5
        refine wp_region_quiet_below (by kernel_rfl) (by kernel_rfl) ?_
        repeat (go_big_quiet_step (fail))
        refine wpQuiet_nil ?_
        rintro _ ⟨⟨dq, osq⟩, rfl⟩
        have HBW3 : Hid (Below W1.heap.size W1 (grow (redrawn W2 dq) osq)) := HBW2.out.trans ((below_regrown W2 dq osq).mono HBW2.out.size)
        clear kq0 kq1 kq2 kq3 kq4 kq5
        generalize grow (redrawn W2 dq) osq = W3 at *
        go_wp2
        obtain ⟨⟨z0, z1, z2⟩, z3, z4, z5⟩ := HX.out W3 HBW3.out
        have kq0 := cell_regrown (w := W3) z0
        have kq1 := cell_regrown (w := W3) z1
        have kq2 := cell_regrown (w := W3) z2
        have kq3 := cell_regrown (w := W3) z3
        have kq4 := cell_regrown (w := W3) z4
        have kq5 := cell_regrown (w := W3) z5
        have cq1 := fun d os => Calls.regrown_of (w := W3) (d := d) (os := os) (HC.out _ ((HBW3.out).trans ((below_regrown W3 d os).mono (HBW3.out).size)))
        clear z0 z1 z2 z3 z4 z5
        refine wp_region_quiet_below (by kernel_rfl) (by kernel_rfl) ?_
        repeat (go_big_quiet_step (first | with_reducible exact cq1 _ _))
        refine wpQuiet_nil ?_
        rintro _ ⟨⟨dq, osq⟩, rfl⟩
        have HBW4 : Hid (Below W1.heap.size W1 (grow (redrawn W3 dq) osq)) := HBW3.out.trans ((below_regrown W3 dq osq).mono HBW3.out.size)
        clear kq0 kq1 kq2 kq3 kq4 kq5 cq1
        generalize grow (redrawn W3 dq) osq = W4 at *
        have HF : Hid (Below w.heap.size w W4) := HB1.out.trans (HBW4.out.mono HB1.out.size)
        clear HBW2 HBW3 HBW4 HX HC
        go_wp2
        go_ret
        exact ⟨rfl, HF.out⟩
      | true =>
        obtain ⟨⟨z0, z1, z2⟩, z3, z4, z5⟩ := HX.out W2 HBW2.out
        have kq0 := cell_regrown (w := W2) z0
        have kq1 := cell_regrown (w := W2) z1
        have kq2 := cell_regrown (w := W2) z2
        have kq3 := cell_regrown (w := W2) z3
        have kq4 := cell_regrown (w := W2) z4
        have kq5 := cell_regrown (w := W2) z5
        clear z0 z1 z2 z3 z4 z5
        refine wp_region_quiet_below (by kernel_rfl) (by kernel_rfl) ?_
        repeat (go_big_quiet_step (fail))
        refine wpQuiet_nil ?_
        rintro _ ⟨⟨dq, osq⟩, rfl⟩
        have HBW3 : Hid (Below W1.heap.size W1 (grow (redrawn W2 dq) osq)) := HBW2.out.trans ((below_regrown W2 dq osq).mono HBW2.out.size)
        clear kq0 kq1 kq2 kq3 kq4 kq5
        generalize grow (redrawn W2 dq) osq = W3 at *
        go_wp2
        obtain ⟨⟨z0, z1, z2⟩, z3, z4, z5⟩ := HX.out W3 HBW3.out
        have kq0 := cell_regrown (w := W3) z0
        have kq1 := cell_regrown (w := W3) z1
        have kq2 := cell_regrown (w := W3) z2
        have kq3 := cell_regrown (w := W3) z3
        have kq4 := cell_regrown (w := W3) z4
        have kq5 := cell_regrown (w := W3) z5
        have cq1 := fun d os => Calls.regrown_of (w := W3) (d := d) (os := os) (HC.out _ ((HBW3.out).trans ((below_regrown W3 d os).mono (HBW3.out).size)))
        clear z0 z1 z2 z3 z4 z5
        refine wp_region_quiet_below (by kernel_rfl) (by kernel_rfl) ?_
        repeat (go_big_quiet_step (first | with_reducible exact cq1 _ _))
        refine wpQuiet_nil ?_
        rintro _ ⟨⟨dq, osq⟩, rfl⟩
        have HBW4 : Hid (Below W1.heap.size W1 (grow (redrawn W3 dq) osq)) := HBW3.out.trans ((below_regrown W3 dq osq).mono HBW3.out.size)
        clear kq0 kq1 kq2 kq3 kq4 kq5 cq1
        generalize grow (redrawn W3 dq) osq = W4 at *
        have HF : Hid (Below w.heap.size w W4) := HB1.out.trans (HBW4.out.mono HB1.out.size)
        clear HBW2 HBW3 HBW4 HX HC
        go_wp2
        go_ret
        exact ⟨rfl, HF.out⟩
  | true =>
    cases D2 with
    | false =>
      obtain ⟨⟨z0, z1, z2⟩, z3, z4, z5⟩ := HX.out W1 (Below.refl _ _)
      have kq0 := cell_regrown (w := W1) z0
      have kq1 := cell_regrown (w := W1) z1
      have kq2 := cell_regrown (w := W1) z2
      have kq3 := cell_regrown (w := W1) z3
      have kq4 := cell_regrown (w := W1) z4
      have kq5 := cell_regrown (w := W1) z5
      clear z0 z1 z2 z3 z4 z5
      refine wp_region_quiet_below (by kernel_rfl) (by kernel_rfl) ?_
      repeat (go_big_quiet_step (fail))
      refine wpQuiet_nil ?_
      rintro _ ⟨⟨dq, osq⟩, rfl⟩
      have HBW2 : Hid (Below W1.heap.size W1 (grow (redrawn W1 dq) osq)) := below_regrown W1 dq osq
      clear kq0 kq1 kq2 kq3 kq4 kq5
      generalize grow (redrawn W1 dq) osq = W2 at *
      go_wp2
      cases D3 with
      | false =>
        obtain ⟨⟨z0, z1, z2⟩, z3, z4, z5⟩ := HX.out W2 HBW2.out
        have kq0 := cell_regrown (w := W2) z0
        have kq1 := cell_regrown (w := W2) z1
        have kq2 := cell_regrown (w := W2) z2
        have kq3 := cell_regrown (w := W2) z3
        have kq4 := cell_regrown (w := W2) z4
        have kq5 := cell_regrown (w := W2) z5
        clear z0 z1 z2 z3 z4 z5
        refine wp_region_quiet_below (by kernel_rfl) (by kernel_rfl) ?_
        repeat (go_big_quiet_step (fail))
        refine wpQuiet_nil ?_
        rintro _ ⟨⟨dq, osq⟩, rfl⟩
        have HBW3 : Hid (Below W1.heap.size W1 (grow (redrawn W2 dq) osq)) := HBW2.out.trans ((below_regrown W2 dq osq).mono HBW2.out.size)
        clear kq0 kq1 kq2 kq3 kq4 kq5
        generalize grow (redrawn W2 dq) osq = W3 at *
        go_wp2
        obtain ⟨⟨z0, z1, z2⟩, z3, z4, z5⟩ := HX.out W3 HBW3.out
        have kq0 := cell_regrown (w := W3) z0
        have kq1 := cell_regrown (w := W3) z1
        have kq2 := cell_regrown (w := W3) z2
        have kq3 := cell_regrown (w := W3) z3
        have kq4 := cell_regrown (w := W3) z4
        have kq5 := cell_regrown (w := W3) z5
        have cq1 := fun d os => Calls.regrown_of (w := W3) (d := d) (os := os) (HC.out _ ((HBW3.out).trans ((below_regrown W3 d os).mono (HBW3.out).size)))
        clear z0 z1 z2 z3 z4 z5
        refine wp_region_quiet_below (by kernel_rfl) (by kernel_rfl) ?_
        repeat (go_big_quiet_step (first | with_reducible exact cq1 _ _))
        refine wpQuiet_nil ?_
        rintro _ ⟨⟨dq, osq⟩, rfl⟩
        have HBW4 : Hid (Below W1.heap.size W1 (grow (redrawn W3 dq) osq)) := HBW3.out.trans ((below_regrown W3 dq osq).mono HBW3.out.size)
        clear kq0 kq1 kq2 kq3 kq4 kq5 cq1
        generalize grow (redrawn W3 dq) osq = W4 at *
        have HF : Hid (Below w.heap.size w W4) := HB1.out.trans (HBW4.out.mono HB1.out.size)
        clear HBW2 HBW3 HBW4 HX HC
        go_wp2
        go_ret
        exact ⟨rfl, HF.out⟩
      | true =>
        cases D4 with
        | false =>
          obtain ⟨⟨z0, z1, z2⟩, z3, z4, z5⟩ := HX.out W2 HBW2.out
          have kq0 := cell_regrown (w := W2) z0
          have kq1 := cell_regrown (w := W2) z1
          have kq2 := cell_regrown (w := W2) z2
          have kq3 := cell_regrown (w := W2) z3
          have kq4 := cell_regrown (w := W2) z4
          have kq5 := cell_regrown (w := W2) z5
          clear z0 z1 z2 z3 z4 z5
          refine wp_region_quiet_below (by kernel_rfl) (by kernel_rfl) ?_
          repeat (go_big_quiet_step (fail))
          refine wpQuiet_nil ?_
          rintro _ ⟨⟨dq, osq⟩, rfl⟩
          have HBW3 : Hid (Below W1.heap.size W1 (grow (redrawn W2 dq) osq)) := HBW2.out.trans ((below_regrown W2 dq osq).mono HBW2.out.size)
          clear kq0 kq1 kq2 kq3 kq4 kq5
          generalize grow (redrawn W2 dq) osq = W3 at *
          go_wp2
          obtain ⟨⟨z0, z1, z2⟩, z3, z4, z5⟩ := HX.out W3 HBW3.out
          have kq0 := cell_regrown (w := W3) z0
          have kq1 := cell_regrown (w := W3) z1
          have kq2 := cell_regrown (w := W3) z2
          have kq3 := cell_regrown (w := W3) z3
          have kq4 := cell_regrown (w := W3) z4
          have kq5 := cell_regrown (w := W3) z5
          have cq1 := fun d os => Calls.regrown_of (w := W3) (d := d) (os := os) (HC.out _ ((HBW3.out).trans ((below_regrown W3 d os).mono (HBW3.out).size)))
          clear z0 z1 z2 z3 z4 z5
          refine wp_region_quiet_below (by kernel_rfl) (by kernel_rfl) ?_
          repeat (go_big_quiet_step (first | with_reducible exact cq1 _ _))
          refine wpQuiet_nil ?_
          rintro _ ⟨⟨dq, osq⟩, rfl⟩
          have HBW4 : Hid (Below W1.heap.size W1 (grow (redrawn W3 dq) osq)) := HBW3.out.trans ((below_regrown W3 dq osq).mono HBW3.out.size)
          clear kq0 kq1 kq2 kq3 kq4 kq5 cq1
          generalize grow (redrawn W3 dq) osq = W4 at *
          have HF : Hid (Below w.heap.size w W4) := HB1.out.trans (HBW4.out.mono HB1.out.size)
          clear HBW2 HBW3 HBW4 HX HC
          go_wp2
          go_ret
          exact ⟨rfl, HF.out⟩
        | true =>
          obtain ⟨⟨z0, z1, z2⟩, z3, z4, z5⟩ := HX.out W2 HBW2.out
          have kq0 := cell_regrown (w := W2) z0
          have kq1 := cell_regrown (w := W2) z1
          have kq2 := cell_regrown (w := W2) z2
          have kq3 := cell_regrown (w := W2) z3
          have kq4 := cell_regrown (w := W2) z4
          have kq5 := cell_regrown (w := W2) z5
          clear z0 z1 z2 z3 z4 z5
          refine wp_region_quiet_below (by kernel_rfl) (by kernel_rfl) ?_
          repeat (go_big_quiet_step (fail))
          refine wpQuiet_nil ?_
          rintro _ ⟨⟨dq, osq⟩, rfl⟩
          have HBW3 : Hid (Below W1.heap.size W1 (grow (redrawn W2 dq) osq)) := HBW2.out.trans ((below_regrown W2 dq osq).mono HBW2.out.size)
          clear kq0 kq1 kq2 kq3 kq4 kq5
          generalize grow (redrawn W2 dq) osq = W3 at *
          go_wp2
          obtain ⟨⟨z0, z1, z2⟩, z3, z4, z5⟩ := HX.out W3 HBW3.out
          have kq0 := cell_regrown (w := W3) z0
          have kq1 := cell_regrown (w := W3) z1
          have kq2 := cell_regrown (w := W3) z2
          have kq3 := cell_regrown (w := W3) z3
          have kq4 := cell_regrown (w := W3) z4
          have kq5 := cell_regrown (w := W3) z5
          have cq1 := fun d os => Calls.regrown_of (w := W3) (d := d) (os := os) (HC.out _ ((HBW3.out).trans ((below_regrown W3 d os).mono (HBW3.out).size)))
          clear z0 z1 z2 z3 z4 z5
          refine wp_region_quiet_below (by kernel_rfl) (by kernel_rfl) ?_
          repeat (go_big_quiet_step (first | with_reducible exact cq1 _ _))
          refine wpQuiet_nil ?_
          rintro _ ⟨⟨dq, osq⟩, rfl⟩
          have HBW4 : Hid (Below W1.heap.size W1 (grow (redrawn W3 dq) osq)) := HBW3.out.trans ((below_regrown W3 dq osq).mono HBW3.out.size)
          clear kq0 kq1 kq2 kq3 kq4 kq5 cq1
          generalize grow (redrawn W3 dq) osq = W4 at *
          have HF : Hid (Below w.heap.size w W4) := HB1.out.trans (HBW4.out.mono HB1.out.size)
          clear HBW2 HBW3 HBW4 HX HC
          go_wp2
          go_ret
          exact ⟨rfl, HF.out⟩
    | true =>
      obtain ⟨⟨z0, z1, z2⟩, z3, z4, z5⟩ := HX.out W1 (Below.refl _ _)
      have kq0 := cell_regrown (w := W1) z0
      have kq1 := cell_regrown (w := W1) z1
      have kq2 := cell_regrown (w := W1) z2
      have kq3 := cell_regrown (w := W1) z3
      have kq4 := cell_regrown (w := W1) z4
      have kq5 := cell_regrown (w := W1) z5
      clear z0 z1 z2 z3 z4 z5
      refine wp_region_quiet_below (by kernel_rfl) (by kernel_rfl) ?_
      repeat (go_big_quiet_step (fail))
      refine wpQuiet_nil ?_
      rintro _ ⟨⟨dq, osq⟩, rfl⟩
      have HBW2 : Hid (Below W1.heap.size W1 (grow (redrawn W1 dq) osq)) := below_regrown W1 dq osq
      clear kq0 kq1 kq2 kq3 kq4 kq5
      generalize grow (redrawn W1 dq) osq = W2 at *
      go_wp2
      cases D3 with
      | false =>
        obtain ⟨⟨z0, z1, z2⟩, z3, z4, z5⟩ := HX.out W2 HBW2.out
        have kq0 := cell_regrown (w := W2) z0
        have kq1 := cell_regrown (w := W2) z1
        have kq2 := cell_regrown (w := W2) z2
        have kq3 := cell_regrown (w := W2) z3
        have kq4 := cell_regrown (w := W2) z4
        have kq5 := cell_regrown (w := W2) z5
        clear z0 z1 z2 z3 z4 z5
        refine wp_region_quiet_below (by kernel_rfl) (by kernel_rfl) ?_
        repeat (go_big_quiet_step (fail))
        refine wpQuiet_nil ?_
        rintro _ ⟨⟨dq, osq⟩, rfl⟩
        have HBW3 : Hid (Below W1.heap.size W1 (grow (redrawn W2 dq) osq)) := HBW2.out.trans ((below_regrown W2 dq osq).mono HBW2.out.size)
        clear kq0 kq1 kq2 kq3 kq4 kq5
        generalize grow (redrawn W2 dq) osq = W3 at *
        go_wp2
        obtain ⟨⟨z0, z1, z2⟩, z3, z4, z5⟩ := HX.out W3 HBW3.out
        have kq0 := cell_regrown (w := W3) z0
        have kq1 := cell_regrown (w := W3) z1
        have kq2 := cell_regrown (w := W3) z2
        have kq3 := cell_regrown (w := W3) z3
        have kq4 := cell_regrown (w := W3) z4
        have kq5 := cell_regrown (w := W3) z5
        have cq1 := fun d os => Calls.regrown_of (w := W3) (d := d) (os := os) (HC.out _ ((HBW3.out).trans ((below_regrown W3 d os).mono (HBW3.out).size)))
        clear z0 z1 z2 z3 z4 z5
        refine wp_region_quiet_below (by kernel_rfl) (by kernel_rfl) ?_
        repeat (go_big_quiet_step (first | with_reducible exact cq1 _ _))
        refine wpQuiet_nil ?_
        rintro _ ⟨⟨dq, osq⟩, rfl⟩
        have HBW4 : Hid (Below W1.heap.size W1 (grow (redrawn W3 dq) osq)) := HBW3.out.trans ((below_regrown W3 dq osq).mono HBW3.out.size)
        clear kq0 kq1 kq2 kq3 kq4 kq5 cq1
        generalize grow (redrawn W3 dq) osq = W4 at *
        have HF : Hid (Below w.heap.size w W4) := HB1.out.trans (HBW4.out.mono HB1.out.size)
        clear HBW2 HBW3 HBW4 HX HC
        go_wp2
        go_ret
        exact ⟨rfl, HF.out⟩
      | true =>
        cases D4 with
        | false =>
          obtain ⟨⟨z0, z1, z2⟩, z3, z4, z5⟩ := HX.out W2 HBW2.out
          have kq0 := cell_regrown (w := W2) z0
          have kq1 := cell_regrown (w := W2) z1
          have kq2 := cell_regrown (w := W2) z2
          have kq3 := cell_regrown (w := W2) z3
          have kq4 := cell_regrown (w := W2) z4
          have kq5 := cell_regrown (w := W2) z5
          clear z0 z1 z2 z3 z4 z5
          refine wp_region_quiet_below (by kernel_rfl) (by kernel_rfl) ?_
          repeat (go_big_quiet_step (fail))
          refine wpQuiet_nil ?_
          rintro _ ⟨⟨dq, osq⟩, rfl⟩
          have HBW3 : Hid (Below W1.heap.size W1 (grow (redrawn W2 dq) osq)) := HBW2.out.trans ((below_regrown W2 dq osq).mono HBW2.out.size)
          clear kq0 kq1 kq2 kq3 kq4 kq5
          generalize grow (redrawn W2 dq) osq = W3 at *
          go_wp2
          obtain ⟨⟨z0, z1, z2⟩, z3, z4, z5⟩ := HX.out W3 HBW3.out
          have kq0 := cell_regrown (w := W3) z0
          have kq1 := cell_regrown (w := W3) z1
          have kq2 := cell_regrown (w := W3) z2
          have kq3 := cell_regrown (w := W3) z3
          have kq4 := cell_regrown (w := W3) z4
          have kq5 := cell_regrown (w := W3) z5
          have cq1 := fun d os => Calls.regrown_of (w := W3) (d := d) (os := os) (HC.out _ ((HBW3.out).trans ((below_regrown W3 d os).mono (HBW3.out).size)))
          clear z0 z1 z2 z3 z4 z5
          refine wp_region_quiet_below (by kernel_rfl) (by kernel_rfl) ?_
          repeat (go_big_quiet_step (first | with_reducible exact cq1 _ _))
          refine wpQuiet_nil ?_
          rintro _ ⟨⟨dq, osq⟩, rfl⟩
          have HBW4 : Hid (Below W1.heap.size W1 (grow (redrawn W3 dq) osq)) := HBW3.out.trans ((below_regrown W3 dq osq).mono HBW3.out.size)
          clear kq0 kq1 kq2 kq3 kq4 kq5 cq1
          generalize grow (redrawn W3 dq) osq = W4 at *
          have HF : Hid (Below w.heap.size w W4) := HB1.out.trans (HBW4.out.mono HB1.out.size)
          clear HBW2 HBW3 HBW4 HX HC
          go_wp2
          go_ret
          exact ⟨rfl, HF.out⟩
        | true =>
          obtain ⟨⟨z0, z1, z2⟩, z3, z4, z5⟩ := HX.out W2 HBW2.out
          have kq0 := cell_regrown (w := W2) z0
          have kq1 := cell_regrown (w := W2) z1
          have kq2 := cell_regrown (w := W2) z2
          have kq3 := cell_regrown (w := W2) z3
          have kq4 := cell_regrown (w := W2) z4
          have kq5 := cell_regrown (w := W2) z5
          clear z0 z1 z2 z3 z4 z5
          refine wp_region_quiet_below (by kernel_rfl) (by kernel_rfl) ?_
          repeat (go_big_quiet_step (fail))
          refine wpQuiet_nil ?_
          rintro _ ⟨⟨dq, osq⟩, rfl⟩
          have HBW3 : Hid (Below W1.heap.size W1 (grow (redrawn W2 dq) osq)) := HBW2.out.trans ((below_regrown W2 dq osq).mono HBW2.out.size)
          clear kq0 kq1 kq2 kq3 kq4 kq5
          generalize grow (redrawn W2 dq) osq = W3 at *
          go_wp2
          cases D5 with
          | false =>
            obtain ⟨⟨z0, z1, z2⟩, z3, z4, z5⟩ := HX.out W3 HBW3.out
            have kq0 := cell_regrown (w := W3) z0
            have kq1 := cell_regrown (w := W3) z1
            have kq2 := cell_regrown (w := W3) z2
            have kq3 := cell_regrown (w := W3) z3
            have kq4 := cell_regrown (w := W3) z4
            have kq5 := cell_regrown (w := W3) z5
            have cq1 := fun d os => Calls.regrown_of (w := W3) (d := d) (os := os) (HC.out _ ((HBW3.out).trans ((below_regrown W3 d os).mono (HBW3.out).size)))
            clear z0 z1 z2 z3 z4 z5
            refine wp_region_quiet_below (by kernel_rfl) (by kernel_rfl) ?_
            repeat (go_big_quiet_step (first | with_reducible exact cq1 _ _))
            refine wpQuiet_nil ?_
            rintro _ ⟨⟨dq, osq⟩, rfl⟩
            have HBW4 : Hid (Below W1.heap.size W1 (grow (redrawn W3 dq) osq)) := HBW3.out.trans ((below_regrown W3 dq osq).mono HBW3.out.size)
            clear kq0 kq1 kq2 kq3 kq4 kq5 cq1
            generalize grow (redrawn W3 dq) osq = W4 at *
            have HF : Hid (Below w.heap.size w W4) := HB1.out.trans (HBW4.out.mono HB1.out.size)
            clear HBW2 HBW3 HBW4 HX HC
            go_wp2
            go_ret
            exact ⟨rfl, HF.out⟩
          | true =>
            cases D6 with
            | false =>
              obtain ⟨⟨z0, z1, z2⟩, z3, z4, z5⟩ := HX.out W3 HBW3.out
              have kq0 := cell_regrown (w := W3) z0
              have kq1 := cell_regrown (w := W3) z1
              have kq2 := cell_regrown (w := W3) z2
              have kq3 := cell_regrown (w := W3) z3
              have kq4 := cell_regrown (w := W3) z4
              have kq5 := cell_regrown (w := W3) z5
              have cq1 := fun d os => Calls.regrown_of (w := W3) (d := d) (os := os) (HC.out _ ((HBW3.out).trans ((below_regrown W3 d os).mono (HBW3.out).size)))
              clear z0 z1 z2 z3 z4 z5
              refine wp_region_quiet_below (by kernel_rfl) (by kernel_rfl) ?_
              repeat (go_big_quiet_step (first | with_reducible exact cq1 _ _))
              refine wpQuiet_nil ?_
              rintro _ ⟨⟨dq, osq⟩, rfl⟩
              have HBW4 : Hid (Below W1.heap.size W1 (grow (redrawn W3 dq) osq)) := HBW3.out.trans ((below_regrown W3 dq osq).mono HBW3.out.size)
              clear kq0 kq1 kq2 kq3 kq4 kq5 cq1
              generalize grow (redrawn W3 dq) osq = W4 at *
              have HF : Hid (Below w.heap.size w W4) := HB1.out.trans (HBW4.out.mono HB1.out.size)
              clear HBW2 HBW3 HBW4 HX HC
              go_wp2
              go_ret
              exact ⟨rfl, HF.out⟩
            | true =>
              obtain ⟨⟨z0, z1, z2⟩, z3, z4, z5⟩ := HX.out W3 HBW3.out
              have kq0 := cell_regrown (w := W3) z0
              have kq1 := cell_regrown (w := W3) z1
              have kq2 := cell_regrown (w := W3) z2
              have kq3 := cell_regrown (w := W3) z3
              have kq4 := cell_regrown (w := W3) z4
              have kq5 := cell_regrown (w := W3) z5
              have cq1 := fun d os => Calls.regrown_of (w := W3) (d := d) (os := os) (HC.out _ ((HBW3.out).trans ((below_regrown W3 d os).mono (HBW3.out).size)))
              clear z0 z1 z2 z3 z4 z5
              refine wp_region_quiet_below (by kernel_rfl) (by kernel_rfl) ?_
              repeat (go_big_quiet_step (first | with_reducible exact cq1 _ _))
              refine wpQuiet_nil ?_
              rintro _ ⟨⟨dq, osq⟩, rfl⟩
              have HBW4 : Hid (Below W1.heap.size W1 (grow (redrawn W3 dq) osq)) := HBW3.out.trans ((below_regrown W3 dq osq).mono HBW3.out.size)
              clear kq0 kq1 kq2 kq3 kq4 kq5 cq1
              generalize grow (redrawn W3 dq) osq = W4 at *
              have HF : Hid (Below w.heap.size w W4) := HB1.out.trans (HBW4.out.mono HB1.out.size)
              clear HBW2 HBW3 HBW4 HX HC
              go_wp2
              go_ret
              exact ⟨rfl, HF.out⟩

end Go.Proofs.YthlgohplljcgfaaGreatDoor
