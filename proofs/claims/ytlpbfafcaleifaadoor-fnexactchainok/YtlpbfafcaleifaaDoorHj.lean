/-
  The next head behind a list: the program's and the specification's answers.
-/
import Derived.Test.YtlpbfafcaleifaaDoorHi
import Derived.Test.YtlpbfafcaleifaaDoorHf
namespace Go.Proofs.YtlpbfafcaleifaaDoor
open Go.RowKit Go.BigFrame Go.Sort
set_option linter.unusedVariables false
set_option linter.unusedSimpArgs false

namespace HV
noncomputable def nxOk (L : List Hd) (h : Int) (r : ByteArray) : Bool := chB L h && okH (behind L h r)
/-- the next head, or the zero one -/
noncomputable def nxA (L : List Hd) (h : Int) (r : ByteArray) : Hd := if nxOk L h r = true then behind L h r else ⟨0, 0, ⟨#[]⟩, ⟨#[]⟩⟩
end HV

set_option maxRecDepth 100000 in
set_option maxHeartbeats 1000000 in
theorem NextHead_any (v : Value) (ga oa : Nat) (L : List Hd) (h : Int) (r : ByteArray) (w : World) (hv : RS 4 hcs w v ga oa L) (hcap : ∀ a n c, v = .slice a n c → n ≤ c) (hT : Tb w) :
    Calls Tryd.prog 14 #[v, .int .i64 h, .string r] w fun e w' => e = .returned (.tuple #[.agg #[.int .i64 (HV.nxA L h r).h, .int .i64 (HV.nxA L h r).e, .string (HV.nxA L h r).r, .string (HV.nxA L h r).p], .bool (HV.nxOk L h r)]) ∧ Below w.heap.size w w' := by
  have HB : Hid (Below w.heap.size w (w.alloc (.cells #[.int .i64 0, .int .i64 0, .string ⟨#[]⟩, .string ⟨#[]⟩] 33))) := (Below.refl _ _).alloc (Nat.le_refl _) _
  have HW0 : Hid (BH (w.alloc (.cells #[.int .i64 0, .int .i64 0, .string ⟨#[]⟩, .string ⟨#[]⟩] 33)) w.heap.size ⟨0, 0, ⟨#[]⟩, ⟨#[]⟩⟩) := BH.new w ⟨0, 0, ⟨#[]⟩, ⟨#[]⟩⟩
  have HC : Hid (∀ W, Below w.heap.size w W → Calls Tryd.prog 11 #[v, .int .i64 h] W fun e w' => e = .returned (.bool (HV.chB L h)) ∧ Below W.heap.size W w') := fun W hW => ChainOk_any v ga oa L h W (hv.later hW) hcap (hT.later hW)
  have HH : Hid (∀ W, Below w.heap.size w W → Calls Tryd.prog 37 #[v, .int .i64 h, .string r] W fun e w' => e = .returned (.agg #[.int .i64 (HV.behind L h r).h, .int .i64 (HV.behind L h r).e, .string (HV.behind L h r).r, .string (HV.behind L h r).p]) ∧ Below W.heap.size W w') := fun W hW => headBehind_any v ga oa L h r W (hv.later hW) (hT.later hW)
  unfold HV.nxA HV.nxOk
  generalize HV.chB L h = b1 at *
  obtain ⟨b2, hb2⟩ : ∃ b2, HV.okH (HV.behind L h r) = b2 := ⟨_, rfl⟩
  rw [hb2]
  have HO : Hid (∀ W, Calls Tryd.prog 23 #[.agg #[.int .i64 (HV.behind L h r).h, .int .i64 (HV.behind L h r).e, .string (HV.behind L h r).r, .string (HV.behind L h r).p]] W fun e w' => e = .returned (.bool b2) ∧ Below W.heap.size W w') := fun W => hb2 ▸ HeadOk_any _ W
  have HCC : Hid (b2 = true → ∀ W, Calls Tryd.prog 41 #[.agg #[.int .i64 (HV.behind L h r).h, .int .i64 (HV.behind L h r).e, .string (HV.behind L h r).r, .string (HV.behind L h r).p]] W fun e w' => e = .returned (.agg #[.int .i64 (HV.behind L h r).h, .int .i64 (HV.behind L h r).e, .string (HV.behind L h r).r, .string (HV.behind L h r).p]) ∧ Below W.heap.size W w') := fun e W => by
    rw [e] at hb2
    obtain ⟨_, _, h4, h5⟩ := HV.okH_iff.1 hb2
    exact copiedH_any _ W (by omega) (by rw [h5]; unfold HV.pw; split <;> omega)
  obtain ⟨av, cv, ev, _, _, _⟩ := hv
  subst ev
  clear hb2 hT hcap
  generalize HV.behind L h r = Y at *
  obtain ⟨yh, ye, yr, yp⟩ := Y
  simp only at HH HO HCC ⊢
  have HW1 : Hid (BH (w.alloc (.cells #[.int .i64 0, .int .i64 0, .string ⟨#[]⟩, .string ⟨#[]⟩] 33)) w.heap.size ⟨0, 0, ⟨#[]⟩, ⟨#[]⟩⟩ ∧ Below w.heap.size w (w.alloc (.cells #[.int .i64 0, .int .i64 0, .string ⟨#[]⟩, .string ⟨#[]⟩] 33))) := ⟨HW0.out, HB.out⟩
  clear HW0 HB
  cases b1
  · rw [if_neg (by simp)]
    simp only [Bool.false_and]
    go_enter Tryd.func14, Tryd.ntmps14
    go_wp2_with fail
    refine (HC.out _ HW1.out.2).mono ?_
    rintro e2 w2 ⟨rfl, hb2⟩
    have HW2 : Hid (BH w2 w.heap.size ⟨0, 0, ⟨#[]⟩, ⟨#[]⟩⟩ ∧ Below w.heap.size w w2) := ⟨HW1.out.1.later hb2, HW1.out.2.trans (hb2.mono HW1.out.2.size)⟩
    clear HC HH HO HCC hb2 HW1
    have y0 := HW2.out.1.c0
    have y1 := HW2.out.1.c1
    have y2 := HW2.out.1.c2
    have y3 := HW2.out.1.c3
    simp only at y0 y1 y2 y3
    have f0 := HW2.out.1.fz 0
    have f1 := HW2.out.1.fz 1
    have f2 := HW2.out.1.fz 2
    have f3 := HW2.out.1.fz 3
    have HE : Hid (BH (w2.setCells w.heap.size 0 (hcs ⟨0, 0, ⟨#[]⟩, ⟨#[]⟩⟩)) w.heap.size ⟨0, 0, ⟨#[]⟩, ⟨#[]⟩⟩ ∧ Below w.heap.size w (w2.setCells w.heap.size 0 (hcs ⟨0, 0, ⟨#[]⟩, ⟨#[]⟩⟩))) := ⟨HW2.out.1.put _, below_setCells (Nat.le_refl _) _ _ _ HW2.out.2⟩
    clear HW2
    go_wp2
    exact ret_hd2 6 7 w.heap.size ⟨0, 0, ⟨#[]⟩, ⟨#[]⟩⟩ _ rfl rfl rfl rfl HE.out.1 ⟨rfl, HE.out.2⟩
  · simp only [Bool.true_and]
    cases b2
    · rw [if_neg (by simp)]
      go_enter Tryd.func14, Tryd.ntmps14
      go_wp2_with fail
      refine (HC.out _ HW1.out.2).mono ?_
      rintro e2 w2 ⟨rfl, hb2⟩
      have HW2 : Hid (BH w2 w.heap.size ⟨0, 0, ⟨#[]⟩, ⟨#[]⟩⟩ ∧ Below w.heap.size w w2) := ⟨HW1.out.1.later hb2, HW1.out.2.trans (hb2.mono HW1.out.2.size)⟩
      clear HC hb2 HW1
      go_wp2_with fail
      refine (HH.out _ HW2.out.2).mono ?_
      rintro e3 w3 ⟨rfl, hb3⟩
      have HW3 : Hid (BH w3 w.heap.size ⟨0, 0, ⟨#[]⟩, ⟨#[]⟩⟩ ∧ Below w.heap.size w w3) := ⟨HW2.out.1.later hb3, HW2.out.2.trans (hb3.mono HW2.out.2.size)⟩
      clear HH hb3 HW2
      have HW4 : Hid (BH (w3.alloc (.cells #[.int .i64 yh, .int .i64 ye, .string yr, .string yp] 33)) w.heap.size ⟨0, 0, ⟨#[]⟩, ⟨#[]⟩⟩ ∧ BH (w3.alloc (.cells #[.int .i64 yh, .int .i64 ye, .string yr, .string yp] 33)) w3.heap.size ⟨yh, ye, yr, yp⟩ ∧ Below w.heap.size w (w3.alloc (.cells #[.int .i64 yh, .int .i64 ye, .string yr, .string yp] 33))) := ⟨HW3.out.1.later ((Below.refl _ _).alloc (Nat.le_refl _) _), BH.new w3 ⟨yh, ye, yr, yp⟩, HW3.out.2.alloc HW3.out.2.size _⟩
      clear HW3
      go_wp2_with fail
      refine (HO.out _).mono ?_
      rintro e5 w5 ⟨rfl, hb5⟩
      have HW5 : Hid (BH w5 w.heap.size ⟨0, 0, ⟨#[]⟩, ⟨#[]⟩⟩ ∧ BH w5 w3.heap.size ⟨yh, ye, yr, yp⟩ ∧ Below w.heap.size w w5) := ⟨HW4.out.1.later hb5, HW4.out.2.1.later hb5, HW4.out.2.2.trans (hb5.mono HW4.out.2.2.size)⟩
      clear HO hb5 HW4
      have y0 := HW5.out.1.c0
      have y1 := HW5.out.1.c1
      have y2 := HW5.out.1.c2
      have y3 := HW5.out.1.c3
      simp only at y0 y1 y2 y3
      have f0 := HW5.out.1.fz 0
      have f1 := HW5.out.1.fz 1
      have f2 := HW5.out.1.fz 2
      have f3 := HW5.out.1.fz 3
      have HE : Hid (BH (w5.setCells w.heap.size 0 (hcs ⟨0, 0, ⟨#[]⟩, ⟨#[]⟩⟩)) w.heap.size ⟨0, 0, ⟨#[]⟩, ⟨#[]⟩⟩ ∧ Below w.heap.size w (w5.setCells w.heap.size 0 (hcs ⟨0, 0, ⟨#[]⟩, ⟨#[]⟩⟩))) := ⟨HW5.out.1.put _, below_setCells (Nat.le_refl _) _ _ _ HW5.out.2.2⟩
      clear HW5
      go_wp2
      exact ret_hd2 6 7 w.heap.size ⟨0, 0, ⟨#[]⟩, ⟨#[]⟩⟩ _ rfl rfl rfl rfl HE.out.1 ⟨rfl, HE.out.2⟩
    · rw [if_pos rfl]
      go_enter Tryd.func14, Tryd.ntmps14
      go_wp2_with fail
      refine (HC.out _ HW1.out.2).mono ?_
      rintro e2 w2 ⟨rfl, hb2⟩
      have HW2 : Hid (BH w2 w.heap.size ⟨0, 0, ⟨#[]⟩, ⟨#[]⟩⟩ ∧ Below w.heap.size w w2) := ⟨HW1.out.1.later hb2, HW1.out.2.trans (hb2.mono HW1.out.2.size)⟩
      clear HC hb2 HW1
      go_wp2_with fail
      refine (HH.out _ HW2.out.2).mono ?_
      rintro e3 w3 ⟨rfl, hb3⟩
      have HW3 : Hid (BH w3 w.heap.size ⟨0, 0, ⟨#[]⟩, ⟨#[]⟩⟩ ∧ Below w.heap.size w w3) := ⟨HW2.out.1.later hb3, HW2.out.2.trans (hb3.mono HW2.out.2.size)⟩
      clear HH hb3 HW2
      have HW4 : Hid (BH (w3.alloc (.cells #[.int .i64 yh, .int .i64 ye, .string yr, .string yp] 33)) w.heap.size ⟨0, 0, ⟨#[]⟩, ⟨#[]⟩⟩ ∧ BH (w3.alloc (.cells #[.int .i64 yh, .int .i64 ye, .string yr, .string yp] 33)) w3.heap.size ⟨yh, ye, yr, yp⟩ ∧ Below w.heap.size w (w3.alloc (.cells #[.int .i64 yh, .int .i64 ye, .string yr, .string yp] 33))) := ⟨HW3.out.1.later ((Below.refl _ _).alloc (Nat.le_refl _) _), BH.new w3 ⟨yh, ye, yr, yp⟩, HW3.out.2.alloc HW3.out.2.size _⟩
      clear HW3
      go_wp2_with fail
      refine (HO.out _).mono ?_
      rintro e5 w5 ⟨rfl, hb5⟩
      have HW5 : Hid (BH w5 w.heap.size ⟨0, 0, ⟨#[]⟩, ⟨#[]⟩⟩ ∧ BH w5 w3.heap.size ⟨yh, ye, yr, yp⟩ ∧ Below w.heap.size w w5) := ⟨HW4.out.1.later hb5, HW4.out.2.1.later hb5, HW4.out.2.2.trans (hb5.mono HW4.out.2.2.size)⟩
      clear HO hb5 HW4
      have z0 := HW5.out.2.1.c0
      have z1 := HW5.out.2.1.c1
      have z2 := HW5.out.2.1.c2
      have z3 := HW5.out.2.1.c3
      simp only at z0 z1 z2 z3
      go_wp2_with fail
      refine (HCC.out trivial _).mono ?_
      rintro e6 w6 ⟨rfl, hb6⟩
      have HW6 : Hid (BH w6 w.heap.size ⟨0, 0, ⟨#[]⟩, ⟨#[]⟩⟩ ∧ BH w6 w3.heap.size ⟨yh, ye, yr, yp⟩ ∧ Below w.heap.size w w6) := ⟨HW5.out.1.later hb6, HW5.out.2.1.later hb6, HW5.out.2.2.trans (hb6.mono HW5.out.2.2.size)⟩
      clear HCC hb6 HW5 z0 z1 z2 z3
      have y0 := HW6.out.1.c0
      have y1 := HW6.out.1.c1
      have y2 := HW6.out.1.c2
      have y3 := HW6.out.1.c3
      simp only at y0 y1 y2 y3
      have f0 := HW6.out.1.fz 0
      have f1 := HW6.out.1.fz 1
      have f2 := HW6.out.1.fz 2
      have f3 := HW6.out.1.fz 3
      have HE : Hid (BH (w6.setCells w.heap.size 0 (hcs ⟨yh, ye, yr, yp⟩)) w.heap.size ⟨yh, ye, yr, yp⟩ ∧ Below w.heap.size w (w6.setCells w.heap.size 0 (hcs ⟨yh, ye, yr, yp⟩))) := ⟨HW6.out.1.put _, below_setCells (Nat.le_refl _) _ _ _ HW6.out.2.2⟩
      clear HW6
      go_wp2
      exact ret_hd2 6 7 w.heap.size ⟨yh, ye, yr, yp⟩ _ rfl rfl rfl rfl HE.out.1 ⟨rfl, HE.out.2⟩

set_option maxRecDepth 100000 in
set_option maxHeartbeats 1000000 in
theorem sNextHead_any (v : Value) (ga oa : Nat) (L : List Hd) (h : Int) (r : ByteArray) (w : World) (hv : RS 4 hcs w v ga oa L) :
    Calls Tryd.prog 28 #[v, .int .i64 h, .string r] w fun e w' => e = .returned (.tuple #[.agg #[.int .i64 (HV.nxA L h r).h, .int .i64 (HV.nxA L h r).e, .string (HV.nxA L h r).r, .string (HV.nxA L h r).p], .bool (HV.nxOk L h r)]) ∧ Below w.heap.size w w' := by
  have HC : Hid (∀ W, Below w.heap.size w W → Calls Tryd.prog 32 #[v, .int .i64 h] W fun e w' => e = .returned (.bool (HV.chB L h)) ∧ Below W.heap.size W w') := fun W hW => sChainOk_any v ga oa L h W (hv.later hW)
  unfold HV.nxA HV.nxOk
  generalize HV.chB L h = b1 at *
  obtain ⟨b2, hb2⟩ : ∃ b2, HV.okH (HV.behind L h r) = b2 := ⟨_, rfl⟩
  rw [hb2]
  have HO : Hid (∀ W, Calls Tryd.prog 22 #[.agg #[.int .i64 (HV.behind L h r).h, .int .i64 (HV.behind L h r).e, .string (HV.behind L h r).r, .string (HV.behind L h r).p]] W fun e w' => e = .returned (.bool b2) ∧ Below W.heap.size W w') := fun W => hb2 ▸ sHeadOk_any _ W
  have HV0 : Hid (RS 4 hcs w v ga oa L) := hv
  obtain ⟨a, cap, rfl, hl, hA, _⟩ := hv
  obtain ⟨n, hn⟩ : ∃ n, L.length = n := ⟨_, rfl⟩
  have HA : Hid (0 < n → a = some ⟨ga, oa, none⟩ ∧ ga < w.heap.size) := by rw [← hn]; exact hA
  rw [hn] at hl HC ⊢
  clear hA hb2
  by_cases h0 : n = 0
  · subst h0
    have hL : L = [] := List.length_eq_zero_iff.1 hn
    subst hL
    clear hn HA HV0
    have e1 : HV.behind [] h r = ⟨h, 1, r, ⟨#[]⟩⟩ := rfl
    rw [e1] at HO ⊢
    clear e1
    simp only at HO ⊢
    have HW1 : Hid (BH ((w.alloc (.cells #[.int .i64 0, .int .i64 0, .string ⟨#[]⟩, .string ⟨#[]⟩] 33)).alloc (.cells #[.int .i64 h, .int .i64 1, .string r, .string ⟨#[]⟩] 33)) w.heap.size ⟨0, 0, ⟨#[]⟩, ⟨#[]⟩⟩ ∧ BH ((w.alloc (.cells #[.int .i64 0, .int .i64 0, .string ⟨#[]⟩, .string ⟨#[]⟩] 33)).alloc (.cells #[.int .i64 h, .int .i64 1, .string r, .string ⟨#[]⟩] 33)) (w.heap.size + 1) ⟨h, 1, r, ⟨#[]⟩⟩ ∧ Below w.heap.size w ((w.alloc (.cells #[.int .i64 0, .int .i64 0, .string ⟨#[]⟩, .string ⟨#[]⟩] 33)).alloc (.cells #[.int .i64 h, .int .i64 1, .string r, .string ⟨#[]⟩] 33))) := ⟨alloc_snd _ _ _ rfl, alloc_fst _ _ (by simp), ((Below.refl _ _).alloc (Nat.le_refl _) _).alloc (by simp) _⟩
    cases b1
    · rw [if_neg (by simp)]
      simp only [Bool.false_and]
      go_enter Tryd.func28, Tryd.ntmps28
      go_wp2_with fail
      refine (HC.out _ HW1.out.2.2).mono ?_
      rintro e2 w2 ⟨rfl, hb2⟩
      have HW2 : Hid (BH w2 w.heap.size ⟨0, 0, ⟨#[]⟩, ⟨#[]⟩⟩ ∧ BH w2 (w.heap.size + 1) ⟨h, 1, r, ⟨#[]⟩⟩ ∧ Below w.heap.size w w2) := ⟨HW1.out.1.later hb2, HW1.out.2.1.later hb2, HW1.out.2.2.trans (hb2.mono HW1.out.2.2.size)⟩
      clear HC hb2 HW1
      have y0 := HW2.out.1.c0
      have y1 := HW2.out.1.c1
      have y2 := HW2.out.1.c2
      have y3 := HW2.out.1.c3
      simp only at y0 y1 y2 y3
      have f0 := HW2.out.1.fz 0
      have f1 := HW2.out.1.fz 1
      have f2 := HW2.out.1.fz 2
      have f3 := HW2.out.1.fz 3
      have HE : Hid (BH (w2.setCells w.heap.size 0 (hcs ⟨0, 0, ⟨#[]⟩, ⟨#[]⟩⟩)) w.heap.size ⟨0, 0, ⟨#[]⟩, ⟨#[]⟩⟩ ∧ Below w.heap.size w (w2.setCells w.heap.size 0 (hcs ⟨0, 0, ⟨#[]⟩, ⟨#[]⟩⟩))) := ⟨HW2.out.1.put _, below_setCells (Nat.le_refl _) _ _ _ HW2.out.2.2⟩
      clear HW2
      go_wp2
      exact ret_hd2 6 7 w.heap.size ⟨0, 0, ⟨#[]⟩, ⟨#[]⟩⟩ _ rfl rfl rfl rfl HE.out.1 ⟨rfl, HE.out.2⟩
    · simp only [Bool.true_and]
      cases b2
      · rw [if_neg (by simp)]
        go_enter Tryd.func28, Tryd.ntmps28
        go_wp2_with fail
        refine (HC.out _ HW1.out.2.2).mono ?_
        rintro e2 w2 ⟨rfl, hb2⟩
        have HW2 : Hid (BH w2 w.heap.size ⟨0, 0, ⟨#[]⟩, ⟨#[]⟩⟩ ∧ BH w2 (w.heap.size + 1) ⟨h, 1, r, ⟨#[]⟩⟩ ∧ Below w.heap.size w w2) := ⟨HW1.out.1.later hb2, HW1.out.2.1.later hb2, HW1.out.2.2.trans (hb2.mono HW1.out.2.2.size)⟩
        clear HC hb2 HW1
        have z0 := HW2.out.2.1.c0
        have z1 := HW2.out.2.1.c1
        have z2 := HW2.out.2.1.c2
        have z3 := HW2.out.2.1.c3
        simp only at z0 z1 z2 z3
        go_wp2_with fail
        refine (HO.out _).mono ?_
        rintro e3 w3 ⟨rfl, hb3⟩
        have HW3 : Hid (BH w3 w.heap.size ⟨0, 0, ⟨#[]⟩, ⟨#[]⟩⟩ ∧ BH w3 (w.heap.size + 1) ⟨h, 1, r, ⟨#[]⟩⟩ ∧ Below w.heap.size w w3) := ⟨HW2.out.1.later hb3, HW2.out.2.1.later hb3, HW2.out.2.2.trans (hb3.mono HW2.out.2.2.size)⟩
        clear HO hb3 HW2 z0 z1 z2 z3
        have y0 := HW3.out.1.c0
        have y1 := HW3.out.1.c1
        have y2 := HW3.out.1.c2
        have y3 := HW3.out.1.c3
        simp only at y0 y1 y2 y3
        have f0 := HW3.out.1.fz 0
        have f1 := HW3.out.1.fz 1
        have f2 := HW3.out.1.fz 2
        have f3 := HW3.out.1.fz 3
        have HE : Hid (BH (w3.setCells w.heap.size 0 (hcs ⟨0, 0, ⟨#[]⟩, ⟨#[]⟩⟩)) w.heap.size ⟨0, 0, ⟨#[]⟩, ⟨#[]⟩⟩ ∧ Below w.heap.size w (w3.setCells w.heap.size 0 (hcs ⟨0, 0, ⟨#[]⟩, ⟨#[]⟩⟩))) := ⟨HW3.out.1.put _, below_setCells (Nat.le_refl _) _ _ _ HW3.out.2.2⟩
        clear HW3
        go_wp2
        exact ret_hd2 6 7 w.heap.size ⟨0, 0, ⟨#[]⟩, ⟨#[]⟩⟩ _ rfl rfl rfl rfl HE.out.1 ⟨rfl, HE.out.2⟩
      · rw [if_pos rfl]
        go_enter Tryd.func28, Tryd.ntmps28
        go_wp2_with fail
        refine (HC.out _ HW1.out.2.2).mono ?_
        rintro e2 w2 ⟨rfl, hb2⟩
        have HW2 : Hid (BH w2 w.heap.size ⟨0, 0, ⟨#[]⟩, ⟨#[]⟩⟩ ∧ BH w2 (w.heap.size + 1) ⟨h, 1, r, ⟨#[]⟩⟩ ∧ Below w.heap.size w w2) := ⟨HW1.out.1.later hb2, HW1.out.2.1.later hb2, HW1.out.2.2.trans (hb2.mono HW1.out.2.2.size)⟩
        clear HC hb2 HW1
        have z0 := HW2.out.2.1.c0
        have z1 := HW2.out.2.1.c1
        have z2 := HW2.out.2.1.c2
        have z3 := HW2.out.2.1.c3
        simp only at z0 z1 z2 z3
        go_wp2_with fail
        refine (HO.out _).mono ?_
        rintro e3 w3 ⟨rfl, hb3⟩
        have HW3 : Hid (BH w3 w.heap.size ⟨0, 0, ⟨#[]⟩, ⟨#[]⟩⟩ ∧ BH w3 (w.heap.size + 1) ⟨h, 1, r, ⟨#[]⟩⟩ ∧ Below w.heap.size w w3) := ⟨HW2.out.1.later hb3, HW2.out.2.1.later hb3, HW2.out.2.2.trans (hb3.mono HW2.out.2.2.size)⟩
        clear HO hb3 HW2 z0 z1 z2 z3
        have z0 := HW3.out.2.1.c0
        have z1 := HW3.out.2.1.c1
        have z2 := HW3.out.2.1.c2
        have z3 := HW3.out.2.1.c3
        simp only at z0 z1 z2 z3
        have y0 := HW3.out.1.c0
        have y1 := HW3.out.1.c1
        have y2 := HW3.out.1.c2
        have y3 := HW3.out.1.c3
        simp only at y0 y1 y2 y3
        have f0 := HW3.out.1.fz 0
        have f1 := HW3.out.1.fz 1
        have f2 := HW3.out.1.fz 2
        have f3 := HW3.out.1.fz 3
        have HE : Hid (BH (w3.setCells w.heap.size 0 (hcs ⟨h, 1, r, ⟨#[]⟩⟩)) w.heap.size ⟨h, 1, r, ⟨#[]⟩⟩ ∧ Below w.heap.size w (w3.setCells w.heap.size 0 (hcs ⟨h, 1, r, ⟨#[]⟩⟩))) := ⟨HW3.out.1.put _, below_setCells (Nat.le_refl _) _ _ _ HW3.out.2.2⟩
        clear HW3
        go_wp2
        exact ret_hd2 6 7 w.heap.size ⟨h, 1, r, ⟨#[]⟩⟩ _ rfl rfl rfl rfl HE.out.1 ⟨rfl, HE.out.2⟩
  · obtain ⟨m, rfl⟩ : ∃ m, n = m + 1 := ⟨n - 1, by omega⟩
    have HL : Hid (HV.behind L h r = ⟨h, (m : Int) + 1 + 1, r, HV.hashH (L[m]'(by omega))⟩) := by
      show HV.behind L h r = _
      unfold HV.behind
      rw [HV.lastP_at hn, show ((L.length : Nat) : Int) = (m : Int) + 1 by omega]
    rw [HL.out] at HO ⊢
    simp only at HO ⊢
    obtain ⟨ea, hga⟩ := HA.out (by omega)
    subst ea
    have HS : Hid (∀ W, Calls Tryd.prog 16 #[.agg #[.int .i64 (L[m]'(by omega)).h, .int .i64 (L[m]'(by omega)).e, .string (L[m]'(by omega)).r, .string (L[m]'(by omega)).p]] W fun e w' => e = .returned (.string (HV.hashH (L[m]'(by omega)))) ∧ Below W.heap.size W w') := fun W => sHeadHash_any _ W
    have HW0 : Hid (BH ((w.alloc (.cells #[.int .i64 0, .int .i64 0, .string ⟨#[]⟩, .string ⟨#[]⟩] 33)).alloc (.cells #[.int .i64 h, .int .i64 ((m : Int) + 1 + 1), .string r, .string ⟨#[]⟩] 33)) w.heap.size ⟨0, 0, ⟨#[]⟩, ⟨#[]⟩⟩ ∧ BH ((w.alloc (.cells #[.int .i64 0, .int .i64 0, .string ⟨#[]⟩, .string ⟨#[]⟩] 33)).alloc (.cells #[.int .i64 h, .int .i64 ((m : Int) + 1 + 1), .string r, .string ⟨#[]⟩] 33)) (w.heap.size + 1) ⟨h, (m : Int) + 1 + 1, r, ⟨#[]⟩⟩ ∧ Below w.heap.size w ((w.alloc (.cells #[.int .i64 0, .int .i64 0, .string ⟨#[]⟩, .string ⟨#[]⟩] 33)).alloc (.cells #[.int .i64 h, .int .i64 ((m : Int) + 1 + 1), .string r, .string ⟨#[]⟩] 33))) := ⟨alloc_snd _ _ _ rfl, alloc_fst _ _ (by simp), ((Below.refl _ _).alloc (Nat.le_refl _) _).alloc (by simp) _⟩
    obtain ⟨c0, c1, c2, c3⟩ := (HV0.out.later HW0.out.2.2).head m (by omega)
    generalize HV.hashH (L[m]'(by omega)) = P at *
    generalize (L[m]'(by omega)) = X at *
    clear HL HV0 HA
    cases b1
    · rw [if_neg (by simp)]
      simp only [Bool.false_and]
      go_enter Tryd.func28, Tryd.ntmps28
      go_wp2_with fail
      refine (HS.out _).mono ?_
      rintro e1 w1 ⟨rfl, hb1⟩
      have HWA : Hid (BH w1 w.heap.size ⟨0, 0, ⟨#[]⟩, ⟨#[]⟩⟩ ∧ BH w1 (w.heap.size + 1) ⟨h, (m : Int) + 1 + 1, r, ⟨#[]⟩⟩ ∧ Below w.heap.size w w1) := ⟨HW0.out.1.later hb1, HW0.out.2.1.later hb1, HW0.out.2.2.trans (hb1.mono HW0.out.2.2.size)⟩
      have t3 := HWA.out.2.1.c3
      have g3 := HWA.out.2.1.fz 3
      simp only at t3
      have HW1 : Hid (BH (w1.setCell ⟨w.heap.size + 1, 3, none⟩ (.string P)) w.heap.size ⟨0, 0, ⟨#[]⟩, ⟨#[]⟩⟩ ∧ BH (w1.setCell ⟨w.heap.size + 1, 3, none⟩ (.string P)) (w.heap.size + 1) ⟨h, (m : Int) + 1 + 1, r, P⟩ ∧ Below w.heap.size w (w1.setCell ⟨w.heap.size + 1, 3, none⟩ (.string P))) := ⟨HWA.out.1.grown (grown_setC _ _ _ _) (by simp), HWA.out.2.1.set3 P, HWA.out.2.2.setCell (p := ⟨w.heap.size + 1, 3, none⟩) (by simp) _⟩
      clear HS hb1 HW0 HWA c0 c1 c2 c3
      go_wp2_with fail
      refine (HC.out _ HW1.out.2.2).mono ?_
      rintro e2 w2 ⟨rfl, hb2⟩
      have HW2 : Hid (BH w2 w.heap.size ⟨0, 0, ⟨#[]⟩, ⟨#[]⟩⟩ ∧ BH w2 (w.heap.size + 1) ⟨h, (m : Int) + 1 + 1, r, P⟩ ∧ Below w.heap.size w w2) := ⟨HW1.out.1.later hb2, HW1.out.2.1.later hb2, HW1.out.2.2.trans (hb2.mono HW1.out.2.2.size)⟩
      clear HC hb2 HW1
      have y0 := HW2.out.1.c0
      have y1 := HW2.out.1.c1
      have y2 := HW2.out.1.c2
      have y3 := HW2.out.1.c3
      simp only at y0 y1 y2 y3
      have f0 := HW2.out.1.fz 0
      have f1 := HW2.out.1.fz 1
      have f2 := HW2.out.1.fz 2
      have f3 := HW2.out.1.fz 3
      have HE : Hid (BH (w2.setCells w.heap.size 0 (hcs ⟨0, 0, ⟨#[]⟩, ⟨#[]⟩⟩)) w.heap.size ⟨0, 0, ⟨#[]⟩, ⟨#[]⟩⟩ ∧ Below w.heap.size w (w2.setCells w.heap.size 0 (hcs ⟨0, 0, ⟨#[]⟩, ⟨#[]⟩⟩))) := ⟨HW2.out.1.put _, below_setCells (Nat.le_refl _) _ _ _ HW2.out.2.2⟩
      clear HW2
      go_wp2
      exact ret_hd2 6 7 w.heap.size ⟨0, 0, ⟨#[]⟩, ⟨#[]⟩⟩ _ rfl rfl rfl rfl HE.out.1 ⟨rfl, HE.out.2⟩
    · simp only [Bool.true_and]
      cases b2
      · rw [if_neg (by simp)]
        go_enter Tryd.func28, Tryd.ntmps28
        go_wp2_with fail
        refine (HS.out _).mono ?_
        rintro e1 w1 ⟨rfl, hb1⟩
        have HWA : Hid (BH w1 w.heap.size ⟨0, 0, ⟨#[]⟩, ⟨#[]⟩⟩ ∧ BH w1 (w.heap.size + 1) ⟨h, (m : Int) + 1 + 1, r, ⟨#[]⟩⟩ ∧ Below w.heap.size w w1) := ⟨HW0.out.1.later hb1, HW0.out.2.1.later hb1, HW0.out.2.2.trans (hb1.mono HW0.out.2.2.size)⟩
        have t3 := HWA.out.2.1.c3
        have g3 := HWA.out.2.1.fz 3
        simp only at t3
        have HW1 : Hid (BH (w1.setCell ⟨w.heap.size + 1, 3, none⟩ (.string P)) w.heap.size ⟨0, 0, ⟨#[]⟩, ⟨#[]⟩⟩ ∧ BH (w1.setCell ⟨w.heap.size + 1, 3, none⟩ (.string P)) (w.heap.size + 1) ⟨h, (m : Int) + 1 + 1, r, P⟩ ∧ Below w.heap.size w (w1.setCell ⟨w.heap.size + 1, 3, none⟩ (.string P))) := ⟨HWA.out.1.grown (grown_setC _ _ _ _) (by simp), HWA.out.2.1.set3 P, HWA.out.2.2.setCell (p := ⟨w.heap.size + 1, 3, none⟩) (by simp) _⟩
        clear HS hb1 HW0 HWA c0 c1 c2 c3
        go_wp2_with fail
        refine (HC.out _ HW1.out.2.2).mono ?_
        rintro e2 w2 ⟨rfl, hb2⟩
        have HW2 : Hid (BH w2 w.heap.size ⟨0, 0, ⟨#[]⟩, ⟨#[]⟩⟩ ∧ BH w2 (w.heap.size + 1) ⟨h, (m : Int) + 1 + 1, r, P⟩ ∧ Below w.heap.size w w2) := ⟨HW1.out.1.later hb2, HW1.out.2.1.later hb2, HW1.out.2.2.trans (hb2.mono HW1.out.2.2.size)⟩
        clear HC hb2 HW1
        have z0 := HW2.out.2.1.c0
        have z1 := HW2.out.2.1.c1
        have z2 := HW2.out.2.1.c2
        have z3 := HW2.out.2.1.c3
        simp only at z0 z1 z2 z3
        go_wp2_with fail
        refine (HO.out _).mono ?_
        rintro e3 w3 ⟨rfl, hb3⟩
        have HW3 : Hid (BH w3 w.heap.size ⟨0, 0, ⟨#[]⟩, ⟨#[]⟩⟩ ∧ BH w3 (w.heap.size + 1) ⟨h, (m : Int) + 1 + 1, r, P⟩ ∧ Below w.heap.size w w3) := ⟨HW2.out.1.later hb3, HW2.out.2.1.later hb3, HW2.out.2.2.trans (hb3.mono HW2.out.2.2.size)⟩
        clear HO hb3 HW2 z0 z1 z2 z3
        have y0 := HW3.out.1.c0
        have y1 := HW3.out.1.c1
        have y2 := HW3.out.1.c2
        have y3 := HW3.out.1.c3
        simp only at y0 y1 y2 y3
        have f0 := HW3.out.1.fz 0
        have f1 := HW3.out.1.fz 1
        have f2 := HW3.out.1.fz 2
        have f3 := HW3.out.1.fz 3
        have HE : Hid (BH (w3.setCells w.heap.size 0 (hcs ⟨0, 0, ⟨#[]⟩, ⟨#[]⟩⟩)) w.heap.size ⟨0, 0, ⟨#[]⟩, ⟨#[]⟩⟩ ∧ Below w.heap.size w (w3.setCells w.heap.size 0 (hcs ⟨0, 0, ⟨#[]⟩, ⟨#[]⟩⟩))) := ⟨HW3.out.1.put _, below_setCells (Nat.le_refl _) _ _ _ HW3.out.2.2⟩
        clear HW3
        go_wp2
        exact ret_hd2 6 7 w.heap.size ⟨0, 0, ⟨#[]⟩, ⟨#[]⟩⟩ _ rfl rfl rfl rfl HE.out.1 ⟨rfl, HE.out.2⟩
      · rw [if_pos rfl]
        go_enter Tryd.func28, Tryd.ntmps28
        go_wp2_with fail
        refine (HS.out _).mono ?_
        rintro e1 w1 ⟨rfl, hb1⟩
        have HWA : Hid (BH w1 w.heap.size ⟨0, 0, ⟨#[]⟩, ⟨#[]⟩⟩ ∧ BH w1 (w.heap.size + 1) ⟨h, (m : Int) + 1 + 1, r, ⟨#[]⟩⟩ ∧ Below w.heap.size w w1) := ⟨HW0.out.1.later hb1, HW0.out.2.1.later hb1, HW0.out.2.2.trans (hb1.mono HW0.out.2.2.size)⟩
        have t3 := HWA.out.2.1.c3
        have g3 := HWA.out.2.1.fz 3
        simp only at t3
        have HW1 : Hid (BH (w1.setCell ⟨w.heap.size + 1, 3, none⟩ (.string P)) w.heap.size ⟨0, 0, ⟨#[]⟩, ⟨#[]⟩⟩ ∧ BH (w1.setCell ⟨w.heap.size + 1, 3, none⟩ (.string P)) (w.heap.size + 1) ⟨h, (m : Int) + 1 + 1, r, P⟩ ∧ Below w.heap.size w (w1.setCell ⟨w.heap.size + 1, 3, none⟩ (.string P))) := ⟨HWA.out.1.grown (grown_setC _ _ _ _) (by simp), HWA.out.2.1.set3 P, HWA.out.2.2.setCell (p := ⟨w.heap.size + 1, 3, none⟩) (by simp) _⟩
        clear HS hb1 HW0 HWA c0 c1 c2 c3
        go_wp2_with fail
        refine (HC.out _ HW1.out.2.2).mono ?_
        rintro e2 w2 ⟨rfl, hb2⟩
        have HW2 : Hid (BH w2 w.heap.size ⟨0, 0, ⟨#[]⟩, ⟨#[]⟩⟩ ∧ BH w2 (w.heap.size + 1) ⟨h, (m : Int) + 1 + 1, r, P⟩ ∧ Below w.heap.size w w2) := ⟨HW1.out.1.later hb2, HW1.out.2.1.later hb2, HW1.out.2.2.trans (hb2.mono HW1.out.2.2.size)⟩
        clear HC hb2 HW1
        have z0 := HW2.out.2.1.c0
        have z1 := HW2.out.2.1.c1
        have z2 := HW2.out.2.1.c2
        have z3 := HW2.out.2.1.c3
        simp only at z0 z1 z2 z3
        go_wp2_with fail
        refine (HO.out _).mono ?_
        rintro e3 w3 ⟨rfl, hb3⟩
        have HW3 : Hid (BH w3 w.heap.size ⟨0, 0, ⟨#[]⟩, ⟨#[]⟩⟩ ∧ BH w3 (w.heap.size + 1) ⟨h, (m : Int) + 1 + 1, r, P⟩ ∧ Below w.heap.size w w3) := ⟨HW2.out.1.later hb3, HW2.out.2.1.later hb3, HW2.out.2.2.trans (hb3.mono HW2.out.2.2.size)⟩
        clear HO hb3 HW2 z0 z1 z2 z3
        have z0 := HW3.out.2.1.c0
        have z1 := HW3.out.2.1.c1
        have z2 := HW3.out.2.1.c2
        have z3 := HW3.out.2.1.c3
        simp only at z0 z1 z2 z3
        have y0 := HW3.out.1.c0
        have y1 := HW3.out.1.c1
        have y2 := HW3.out.1.c2
        have y3 := HW3.out.1.c3
        simp only at y0 y1 y2 y3
        have f0 := HW3.out.1.fz 0
        have f1 := HW3.out.1.fz 1
        have f2 := HW3.out.1.fz 2
        have f3 := HW3.out.1.fz 3
        have HE : Hid (BH (w3.setCells w.heap.size 0 (hcs ⟨h, (m : Int) + 1 + 1, r, P⟩)) w.heap.size ⟨h, (m : Int) + 1 + 1, r, P⟩ ∧ Below w.heap.size w (w3.setCells w.heap.size 0 (hcs ⟨h, (m : Int) + 1 + 1, r, P⟩))) := ⟨HW3.out.1.put _, below_setCells (Nat.le_refl _) _ _ _ HW3.out.2.2⟩
        clear HW3
        go_wp2
        exact ret_hd2 6 7 w.heap.size ⟨h, (m : Int) + 1 + 1, r, P⟩ _ rfl rfl rfl rfl HE.out.1 ⟨rfl, HE.out.2⟩

end Go.Proofs.YtlpbfafcaleifaaDoor
