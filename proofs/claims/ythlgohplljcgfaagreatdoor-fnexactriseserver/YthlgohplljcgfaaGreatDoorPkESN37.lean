/-
  Texts laid together: Jsa, Jnn, Va, Vc.
-/
import Derived.Test.YthlgohplljcgfaaGreatDoorPkESN27
import Derived.Test.YthlgohplljcgfaaGreatDoorPkESN25
import Derived.Test.YthlgohplljcgfaaGreatDoorPkESN1
import Derived.Test.YthlgohplljcgfaaGreatDoorPkESN2
import Derived.Lib.QuietBelow
/-
  A server under way: the specification's own helpers.
-/
namespace Go.Proofs.YthlgohplljcgfaaGreatDoor
open Go.RowKit Go.BigFrame Go.Sort
set_option linter.unusedVariables false
set_option linter.unusedSimpArgs false

def SixR (U : List Ug) (x : Int) (w : World) (i : Value) (wr : World) : Prop := ∃ m : Nat, m ≤ U.length ∧ i = .int .i64 m ∧ wr = w ∧ SR.hasU (U.take m) x = false
set_option maxRecDepth 100000 in
set_option maxHeartbeats 1000000 in
theorem l18Has_any (v : Value) (g o : Nat) (x : Int) (U : List Ug) (w : World) (hU : RS 3 ucs w v g o U) :
    Calls Tryz.prog 69 #[v, .int .i64 x] w fun e w' => (∃ r : Int, e = .returned (.int .i64 r) ∧ decide (r < 0) = !SR.hasU U x) ∧ w' = w := by
  have HU : Hid (RS 3 ucs w v g o U) := hU
  obtain ⟨aa, ca, rfl, hl, hA, _⟩ := hU
  obtain ⟨n, hn⟩ : ∃ n, U.length = n := ⟨_, rfl⟩
  have HN : Hid (U.length = n) := hn
  have HA : Hid (0 < n → aa = some ⟨g, o, none⟩) := by rw [← hn]; exact fun h => (hA h).1
  have HST : Hid (SixR U x w (.int .i64 0) w) := ⟨0, by omega, rfl, rfl, rfl⟩
  rw [hn] at hl HU ⊢
  clear hA hn
  go_enter Tryz.func69, Tryz.ntmps69
  go_wp2
  go_loopw [5] (fun i wr => SixR U x w i wr) (fun i _ => n - (intOf i).toNat)
  case atStart => exact HST.out
  case round =>
    obtain ⟨m, hm, rfl, rfl, hna⟩ := hrel
    clear HST
    rw [HN.out] at hm
    by_cases hlt : m < n
    · have ea := HA.out (by omega)
      subst ea
      have hmU : m < U.length := by rw [HN.out]; exact hlt
      obtain ⟨c0, c1, c2⟩ := HU.out.chg m hmU
      have hst := hasU_step U x hmU
      rw [hna, Bool.false_or] at hst
      have HMO : Hid (SR.hasU (U.take (m + 1)) x = true → SR.hasU U x = true) := hasU_more
      generalize U[m] = X at *
      have i1 : (m : Int) < (n : Int) := by omega
      have i2 : (0 : Int) ≤ (m : Int) := by omega
      by_cases he : X.i = x
      · have HR : Hid (decide ((m : Int) < 0) = !SR.hasU U x) := by
          show _ = _
          rw [HMO.out (by rw [hst]; simp [he])]
          simp
        have q1 : (X.i == x) = true := by simp [he]
        clear HMO hst HU hna he HA HN
        go_wp2
        try rw [Exit.noGoto_ret]
        go_ret
        exact ⟨⟨_, rfl, HR.out⟩, rfl⟩
      · have HJ : Hid (SixR U x wr (.int .i64 ((m : Int) + 1)) wr) := ⟨m + 1, by rw [HN.out]; omega, by simp, rfl, by rw [hst]; simp [he]⟩
        have q1 : (X.i == x) = false := by simp [he]
        clear HMO hst HU hna he HA HN
        go_wp2
        go_roundw
        case rel => exact HJ.out
        case measure => simp [intOf]; omega
    · have hme : m = n := by omega
      have HF : Hid (decide ((-1 : Int) < 0) = !SR.hasU U x) := by
        have h : U.take m = U := List.take_of_length_le (by rw [HN.out, hme]; exact Nat.le_refl _)
        rw [h] at hna
        show _ = _
        rw [hna]
        rfl
      subst hme
      clear HU hna HA HN
      go_wp2
      go_ret
      exact ⟨⟨_, rfl, HF.out⟩, rfl⟩

set_option maxRecDepth 100000 in
set_option maxHeartbeats 1000000 in
theorem l18Last_any (n : Sn) (vd vv va vt : Value) (g o : Nat) (I : List Int) (w : World) (hI : RS 1 ics w vt g o I) (h0 : 0 < I.length) :
    Calls Tryz.prog 71 #[.agg #[.int .i64 n.a, .int .i64 n.k, .bool n.u, vd, .int .i64 n.e, vv, vt, va, .int .i64 n.r0, .int .i64 n.r1, .int .i64 n.r2]] w fun e w' => e = .returned (.int .i64 (SR.lastT I)) ∧ Below w.heap.size w w' := by
  have c0 := hI.int (I.length - 1) (by omega)
  rw [lastT_at h0]
  generalize I[I.length - 1]'(by omega) = z at *
  obtain ⟨a, c, rfl, hl, hA, hcc⟩ := hI
  obtain ⟨ea, hg⟩ := hA h0
  subst ea
  clear hA hcc
  generalize I.length = m at *
  obtain ⟨a, k, u, e, r0, r1, r2⟩ := n
  simp only
  have HB : Hid (Below w.heap.size w (w.alloc (.cells #[.int .i64 a, .int .i64 k, .bool u, vd, .int .i64 e, vv, .slice (some ⟨g, o, none⟩) m c, va, .int .i64 r0, .int .i64 r1, .int .i64 r2] 35))) := below_alloc _ _
  have c1 := cell_laterS c0 HB.out
  have e1 : ((m : Int) - 1).toNat = m - 1 := by omega
  have i1 : (0 : Int) ≤ (m : Int) - 1 := by omega
  have i2 : (m : Int) - 1 < (m : Int) := by omega
  go_enter Tryz.func71, Tryz.ntmps71
  go_wp2
  go_ret
  exact ⟨rfl, HB.out⟩

set_option maxRecDepth 100000 in
set_option maxHeartbeats 4000000 in
theorem sCommit_sv {B : Nat} {w0 w : World} {p : Nat} {n : Sn} {vd vv vt va : Value} {L : Sr} {V : List Value} {G : Nat → Nat} {gd : Nat} (h : SvO B w0 w p n vd vv vt va L V G gd) (hP : L.P.length < 1000000) (hI : L.I.length < 1000000) (hUl : L.U.length ≤ 1000000) (hsm : SmallUs L.U) (he0 : 0 ≤ n.e) (he1 : n.e ≤ 1000000) :
    Calls Tryz.prog 72 #[.pointer (some ⟨p, 0, none⟩)] w fun e w' => e = .returned (.tuple #[]) ∧ ∃ vv' vt' V' G', SvO B w0 w' p ⟨n.a, n.k, n.u, n.e + 1, 0, 0, 0⟩ vd vv' vt' va { L with P := L.P ++ [rlA n.r2 L.U], I := L.I ++ [n.r2] } V' G' gd := by
  obtain ⟨av, cv, rfl⟩ := OR.shapeJ h.ov
  obtain ⟨at2, ct, rfl⟩ := OR.shapeJ h.oi
  obtain ⟨aa, ca, rfl⟩ := h.ou.shape
  obtain ⟨ad, cd, rfl⟩ := h.fz.disk.1.shape
  have hcap := h.ou.cap _ _ _ rfl
  have HS : Hid (SvO B w0 w p n (.slice ad L.F.length cd) (.slice av V.length cv) (.slice at2 L.I.length ct) (.slice aa L.U.length ca) L V G gd) := h
  have HRL : Hid (∀ W, SvO B w0 W p n (.slice ad L.F.length cd) (.slice av V.length cv) (.slice at2 L.I.length ct) (.slice aa L.U.length ca) L V G gd → Calls Tryz.prog 109 #[.agg #[.int .i64 n.a, .int .i64 n.k, .bool n.u, .slice ad L.F.length cd, .int .i64 n.e, .slice av V.length cv, .slice at2 L.I.length ct, .slice aa L.U.length ca, .int .i64 n.r0, .int .i64 n.r1, .int .i64 n.r2]] W fun e w' => ∃ a cap g, e = .returned (.slice a (rlA n.r2 L.U).length cap) ∧ RW 2 lcs w' (.slice a (rlA n.r2 L.U).length cap) g (rlA n.r2 L.U) ∧ W.heap.size ≤ g ∧ Below W.heap.size W w') := fun W hW => by
    obtain ⟨g, hr, _⟩ := hW.ou.rw (by omega)
    exact sReadyLeaves_any n _ _ _ aa ca g 0 L.U W hr.1 hcap hsm
  have HV : Hid (V.length + 1 ≤ 1000000 ∧ L.I.length + 1 ≤ 1000000) := ⟨by have := h.fz.len; omega, hI⟩
  have wr : IntKind.i64.wrap (n.e + 1) = n.e + 1 := IntWalk.i64_in _ (by omega)
  have HB0 : Hid (SvO B w0 w.drew p n (.slice ad L.F.length cd) (.slice av V.length cv) (.slice at2 L.I.length ct) (.slice aa L.U.length ca) L V G gd) := h.later (Below.refl _ _).drew
  obtain ⟨z0, z1, z2, z3, z4, z5, z6, z7, z8, z9, z10⟩ := HB0.out.box.all11
  obtain ⟨M, hM⟩ : ∃ M, rlA n.r2 L.U = M := ⟨_, rfl⟩
  rw [hM] at HRL ⊢
  obtain ⟨a, k, u, e, r0, r1, r2⟩ := n
  simp only at *
  clear h hM hcap hP hI hUl hsm he0 he1
  go_enter Tryz.func72, Tryz.ntmps72
  go_wp2
  go_region_law ((first
    | (refine step_view rfl _ _ rfl B w0 (.slice av V.length cv) V (.slice a5 M.length c5) (by rfl) HS4.out.ov _ (by rfl) HRG.out rfl HV.out.1 ?_; intro g6 cap6 w6 ho6 hg6 hl6; have HB6 : Hid (Box 35 w6 p _) := (HS4.out.box.grown hg6 (own_box HS4.out.ov.1 HS4.out.box (by decide))); have e1 := HB6.out.at 5 _ rfl; have f1 := HB6.out.fz 5)
    | (go_simp; go_at_call 109; refine (HRL.out _ HB0.out).mono ?_; rintro e w3 ⟨a5, c5, g5, rfl, hr5, hg5, hb3⟩; have HS3 : Hid (SvO B w0 w3 p _ _ _ _ _ L V G gd) := (HB0.out.later hb3); have HS4 : Hid (SvO B w0 (w3.alloc (.cells #[.slice a5 M.length c5] 59)) p _ _ _ _ _ L V G gd) := (HS3.out.later (below_alloc _ _)); have k3 := HS3.out.box.at 5 _ rfl; have k4 := HS4.out.box.at 5 _ rfl; have HR5 : Hid (RW 2 lcs (w3.alloc (.cells #[.slice a5 M.length c5] 59)) (.slice a5 M.length c5) g5 M) := (hr5.later (below_alloc _ _)); have HRG : Hid ((w3.alloc (.cells #[.slice a5 M.length c5] 59)).cell? ⟨w3.heap.size, 0, none⟩ = some (.slice a5 M.length c5)) := (by show _ = _; rw [World.cell?_alloc_at _ _ _ _ rfl]; rfl))))
  all_goals
    have HN : Hid (∃ G', SvO B w0 (w6.setCell ⟨p, 5, none⟩ (.slice (some ⟨g6, 0, none⟩) (V.length + 1) cap6)) p ⟨a, k, u, e, r0, r1, r2⟩ (.slice ad L.F.length cd) (.slice (some ⟨g6, 0, none⟩) (V.length + 1) cap6) (.slice at2 L.I.length ct) (.slice aa L.U.length ca) { L with P := L.P ++ [M] } (V ++ [.slice a5 M.length c5]) G' gd) := ⟨_, HS4.out.view HR5.out (fun _ => (HB0.out.fresh hg5).1) (HB0.out.fresh hg5).2 (fun _ => Nat.le_trans HB0.out.ou.2.2 hg5) ho6 hg6 hl6⟩
    obtain ⟨G', hN⟩ := HN.out
    have HM : Hid _ := hN
    have HMI : Hid _ := hN.oi
    clear hN HN HS HRL HB0 HS3 HS4 HR5 HRG hr5 hg5 hb3 ho6 hg6 hl6 e1 f1 k3 k4 z0 z1 z2 z3 z4 z5 z6 z7 z8 z9 z10 HB6
    generalize (w6.setCell ⟨p, 5, none⟩ (.slice (some ⟨g6, 0, none⟩) (V.length + 1) cap6)) = W1 at *
    have HM0 : Hid (SvO B w0 W1.drew p _ _ _ _ _ _ _ G' gd) := HM.out.later (Below.refl _ _).drew
    have z6 := HM0.out.box.at 6 _ rfl
    have z10 := HM0.out.box.at 10 _ rfl
    have HM1 : Hid (SvO B w0 (W1.alloc (.cells #[.int .i64 r2] 3)).drew p _ _ _ _ _ _ _ G' gd) := HM.out.later (((Below.refl _ _).alloc (Nat.le_refl _) _).drew)
    have y6 : (W1.alloc (.cells #[.int .i64 r2] 3)).cell? ⟨p, 6, none⟩ = some (.slice at2 L.I.length ct) := HM1.out.box.at 6 _ rfl
    have HRG : Hid ((W1.alloc (.cells #[.int .i64 r2] 3)).drew.cell? ⟨W1.heap.size, 0, none⟩ = some (.int .i64 r2)) := (by show (W1.alloc (.cells #[.int .i64 r2] 3)).cell? ⟨W1.heap.size, 0, none⟩ = some (.int .i64 r2); rw [World.cell?_alloc_at _ _ _ _ rfl]; rfl)
    go_wp2
    go_region_law ((refine step_num rfl _ _ rfl B w0 (.slice at2 L.I.length ct) L.I r2 (by rfl) HM1.out.oi _ (by rfl) HRG.out HV.out.2 ?_; intro g7 cap7 w7 ho7 hg7 hl7; have HB7 : Hid (Box 35 w7 p _) := (HM1.out.box.grown hg7 (own_box HM1.out.oi.1 HM1.out.box (by decide))); have e1 := HB7.out.at 6 _ rfl; have f1 := HB7.out.fz 6))
    all_goals
      have HN2 : Hid (SvO B w0 (w7.setCell ⟨p, 6, none⟩ (.slice (some ⟨g7, 0, none⟩) (L.I.length + 1) cap7)) p _ _ _ _ _ { L with P := L.P ++ [M], I := L.I ++ [r2] } _ G' gd) := HM1.out.num ho7 hg7 hl7
      clear HM0 HM1 HM HMI HRG z6 z10 y6 ho7 hg7 hl7 HB7 e1 f1
      generalize (w7.setCell ⟨p, 6, none⟩ (.slice (some ⟨g7, 0, none⟩) (L.I.length + 1) cap7)) = W2 at *
      have z4 := HN2.out.box.at 4 _ rfl
      have f4 := HN2.out.box.fz 4
      have z8 := HN2.out.box.at 8 _ rfl
      have z9 := HN2.out.box.at 9 _ rfl
      have z10 := HN2.out.box.at 10 _ rfl
      have f8 := HN2.out.box.fz 8
      have f9 := HN2.out.box.fz 9
      have f10 := HN2.out.box.fz 10
      have HF : Hid (SvO B w0 ((((W2.setCell ⟨p, 4, none⟩ (.int .i64 (e + 1))).setCell ⟨p, 8, none⟩ (.int .i64 0)).setCell ⟨p, 9, none⟩ (.int .i64 0)).setCell ⟨p, 10, none⟩ (.int .i64 0)) p ⟨a, k, u, e + 1, 0, 0, 0⟩ _ _ _ _ { L with P := L.P ++ [M], I := L.I ++ [r2] } _ G' gd) := HN2.out.keepR ((grown_setC W2 p 4 _).trans (grown_put3 _ p 8 9 10 _ _ _)) ((HN2.out.box.set 4 (.int .i64 (e + 1))).put3 _ _ _)
      clear HN2
      go_wp2
      refine bodyPost_end (results_none rfl _ _ _) rfl ?_
      exact ⟨rfl, _, _, _, _, HF.out⟩

end Go.Proofs.YthlgohplljcgfaaGreatDoor
/-
  Numbers read one behind the other at a cursor: what they say of the text.
-/
namespace Go.Proofs.YthlgohplljcgfaaGreatDoor
open Go.RowKit Go.BigFrame Go.Sort
set_option linter.unusedVariables false
set_option linter.unusedSimpArgs false

namespace SR
theorem numsT_no {t : ByteArray} {c : Nat} (h : nums t.data.toList c 1 = none) : numsT t c = none := by unfold numsT; rw [h]
theorem numsT_is {t : ByteArray} {c z : Nat} {l : List Nat} (h : nums t.data.toList c 1 = some (l, z)) : numsT t c = if z = t.size then some l else none := by unfold numsT; rw [h]
theorem nums_one {l : List UInt8} {p n q : Nat} (h : M.readVar l p = some (n, q)) : nums l 1 p = some ([n], q) := by unfold nums; rw [h]; rfl
theorem nums_more {l : List UInt8} {c p n q z : Nat} {r : List Nat} (h : M.readVar l p = some (n, q)) (h2 : nums l c q = some (r, z)) : nums l (c + 1) p = some (n :: r, z) := by
  conv => lhs; unfold nums
  rw [h]; simp only; rw [h2]
theorem nums_no1 {l : List UInt8} {c p : Nat} (h : M.readVar l p = none) : nums l (c + 1) p = none := by
  conv => lhs; unfold nums
  rw [h]
theorem nums_no2 {l : List UInt8} {c p n q : Nat} (h : M.readVar l p = some (n, q)) (h2 : nums l c q = none) : nums l (c + 1) p = none := by
  conv => lhs; unfold nums
  rw [h]; simp only; rw [h2]
theorem readT1 {t : ByteArray} {b1 : Bool} {n1 p1 : Nat} (h1 : b1 = false → M.readVar t.data.toList 1 = some (n1, p1)) (k1 : b1 = true → M.readVar t.data.toList 1 = none) :
    (b1 = true → numsT t 1 = none) ∧ (b1 = false → numsT t 1 = if p1 = t.size then some [n1] else none) := by
  exact ⟨fun h => numsT_no (nums_no1 (k1 h)), fun h => numsT_is (nums_one (h1 h))⟩
theorem readT2 {t : ByteArray} {b1 b2 : Bool} {n1 p1 n2 p2 : Nat} (h1 : b1 = false → M.readVar t.data.toList 1 = some (n1, p1)) (k1 : b1 = true → M.readVar t.data.toList 1 = none)
    (h2 : b2 = false → b1 = false ∧ M.readVar t.data.toList p1 = some (n2, p2)) (k2 : b2 = true → b1 = true ∨ M.readVar t.data.toList p1 = none) :
    (b2 = true → numsT t 2 = none) ∧ (b2 = false → numsT t 2 = if p2 = t.size then some [n1, n2] else none) := by
  refine ⟨fun h => ?_, fun h => ?_⟩
  · cases b1 with
    | true => exact numsT_no (nums_no1 (k1 rfl))
    | false => exact numsT_no (nums_no2 (h1 rfl) (nums_no1 ((k2 h).resolve_left (by simp))))
  · obtain ⟨e1, e2⟩ := h2 h
    exact numsT_is (nums_more (h1 e1) (nums_one e2))
theorem readT3 {t : ByteArray} {b1 b2 b3 : Bool} {n1 p1 n2 p2 n3 p3 : Nat} (h1 : b1 = false → M.readVar t.data.toList 1 = some (n1, p1)) (k1 : b1 = true → M.readVar t.data.toList 1 = none)
    (h2 : b2 = false → b1 = false ∧ M.readVar t.data.toList p1 = some (n2, p2)) (k2 : b2 = true → b1 = true ∨ M.readVar t.data.toList p1 = none)
    (h3 : b3 = false → b2 = false ∧ M.readVar t.data.toList p2 = some (n3, p3)) (k3 : b3 = true → b2 = true ∨ M.readVar t.data.toList p2 = none) :
    (b3 = true → numsT t 3 = none) ∧ (b3 = false → numsT t 3 = if p3 = t.size then some [n1, n2, n3] else none) := by
  refine ⟨fun h => ?_, fun h => ?_⟩
  · cases b1 with
    | true => exact numsT_no (nums_no1 (k1 rfl))
    | false =>
      cases b2 with
      | true => exact numsT_no (nums_no2 (h1 rfl) (nums_no1 ((k2 rfl).resolve_left (by simp))))
      | false => exact numsT_no (nums_no2 (h1 rfl) (nums_no2 (h2 rfl).2 (nums_no1 ((k3 h).resolve_left (by simp)))))
  · obtain ⟨e1, e2⟩ := h3 h
    obtain ⟨d1, d2⟩ := h2 e1
    exact numsT_is (nums_more (h1 d1) (nums_more d2 (nums_one e2)))

/-- what a record does, by its first byte, told of the whole text -/
theorem recS_1 {a k : Int} {s : Ss} {t : ByteArray} (h : byB t 0 = 1) : recS a k s t = tkS a k s (body t) := by unfold recS; rw [if_pos h]
theorem recS_2 {a k : Int} {s : Ss} {t : ByteArray} (h : byB t 0 = 2) (h0 : 0 < t.size) : recS a k s t = match numsT t 3 with
    | some [x, y, z] => if fitB s x y z then { s with r0 := x, r1 := y, r2 := z } else s
    | _ => s := by
  unfold recS
  rw [if_neg (by rw [h]; decide), if_pos h]
  unfold rdS
  rw [numsT_eq h0]
  rfl
theorem recS_3 {a k : Int} {s : Ss} {t : ByteArray} (h : byB t 0 = 3) (h0 : 0 < t.size) : recS a k s t = match numsT t 1 with
    | some [x] => if (x : Int) = s.r0 ∧ 0 < s.r0 then cmS s else s
    | _ => s := by
  unfold recS
  rw [if_neg (by rw [h]; decide), if_neg (by rw [h]; decide), if_pos h]
  unfold coS
  rw [numsT_eq h0]
  rfl
theorem recS_4 {a k : Int} {s : Ss} {t : ByteArray} (h : byB t 0 = 4) (h0 : 0 < t.size) : recS a k s t = match numsT t 2 with
    | some [x, y] => if (x : Int) = s.r0 ∧ (y : Int) = s.r1 then { s with r0 := 0, r1 := 0, r2 := 0 } else s
    | _ => s := by
  unfold recS
  rw [if_neg (by rw [h]; decide), if_neg (by rw [h]; decide), if_neg (by rw [h]; decide), if_pos h]
  unfold abS
  rw [numsT_eq h0]
  rfl
theorem recS_5 {a k : Int} {s : Ss} {t : ByteArray} (h1 : byB t 0 ≠ 1) (h2 : byB t 0 ≠ 2) (h3 : byB t 0 ≠ 3) (h4 : byB t 0 ≠ 4) : recS a k s t = s := by
  unfold recS
  rw [if_neg h1, if_neg h2, if_neg h3, if_neg h4]
end SR

end Go.Proofs.YthlgohplljcgfaaGreatDoor
/-
  A letter as plain words, and in its box.
-/
namespace Go.Proofs.YthlgohplljcgfaaGreatDoor
open Go.RowKit Go.BigFrame Go.Sort
set_option linter.unusedVariables false
set_option linter.unusedSimpArgs false

structure Ltr where
  k : Int
  f : Int
  t : Int
  e : Int
  y : Int
  r : ByteArray

def kcs (x : Ltr) : List Value := [.int .i64 x.k, .int .i64 x.f, .int .i64 x.t, .int .i64 x.e, .int .i64 x.y, .string x.r]
theorem kcs_len (x : Ltr) : (kcs x).length = 6 := rfl
section
variable {fn : Func} {Rp : Ending → World → Prop} {a : Act} {w : World}
end

end Go.Proofs.YthlgohplljcgfaaGreatDoor
/-
  When a letter is right: the program's and the specification's answers.
-/
namespace Go.Proofs.YthlgohplljcgfaaGreatDoor
open Go.RowKit Go.BigFrame Go.Sort
set_option linter.unusedVariables false
set_option linter.unusedSimpArgs false

namespace VV
/-- who may write what to whom -/
def way (k f t : Int) : Bool := decide (((k = 1 ∨ k = 3 ∨ k = 4) ∧ f = 0 ∧ 1 ≤ t ∧ t ≤ 4) ∨ ((k = 2 ∨ k = 5) ∧ t = 0 ∧ 1 ≤ f ∧ f ≤ 4))
def rw (k : Int) : Nat := if k = 2 then 16 else 0
def ok (x : Ltr) : Bool := way x.k x.f x.t && decide (1 ≤ x.e ∧ x.e ≤ 4) && decide (1 ≤ x.y ∧ x.y ≤ 1000) && decide (x.r.size = rw x.k)
end VV
theorem VV.full (s : ByteArray) (h : s.size ≠ 0) : s.toList.isEmpty = false := by
  rw [ByteArray.toList_eq, List.isEmpty_eq_false_iff]
  intro h0
  have : s.data.toList.length = 0 := by rw [h0]; rfl
  have h1 : s.data.toList.length = s.size := Array.length_toList
  omega
theorem VV.empty (s : ByteArray) (h : s.size = 0) : s.toList.isEmpty = true := by
  rw [ByteArray.toList_eq, List.isEmpty_iff]
  have h1 : s.data.toList.length = s.size := Array.length_toList
  exact List.length_eq_zero_iff.1 (by omega)
/-- in cells of any box -/
def RKc (W : World) (g : Nat) (x : Ltr) : Prop := W.rangeAt g 0 (kcs x) ∧ g < W.heap.size
theorem RKc.c0 {W : World} {g : Nat} {x : Ltr} (h : RKc W g x) : W.cell? ⟨g, 0, none⟩ = some (.int .i64 x.k) := h.1 0 _ rfl
theorem RKc.c1 {W : World} {g : Nat} {x : Ltr} (h : RKc W g x) : W.cell? ⟨g, 1, none⟩ = some (.int .i64 x.f) := h.1 1 _ rfl
theorem RKc.c2 {W : World} {g : Nat} {x : Ltr} (h : RKc W g x) : W.cell? ⟨g, 2, none⟩ = some (.int .i64 x.t) := h.1 2 _ rfl
theorem RKc.c3 {W : World} {g : Nat} {x : Ltr} (h : RKc W g x) : W.cell? ⟨g, 3, none⟩ = some (.int .i64 x.e) := h.1 3 _ rfl
theorem RKc.c4 {W : World} {g : Nat} {x : Ltr} (h : RKc W g x) : W.cell? ⟨g, 4, none⟩ = some (.int .i64 x.y) := h.1 4 _ rfl
theorem RKc.c5 {W : World} {g : Nat} {x : Ltr} (h : RKc W g x) : W.cell? ⟨g, 5, none⟩ = some (.string x.r) := h.1 5 _ rfl

end Go.Proofs.YthlgohplljcgfaaGreatDoor
