/-
  Texts laid together: Vda, Vgi, Lvb.
-/
import Derived.Test.YtodibhiinfbhiaaDoorPkL12
import Derived.Test.YtodibhiinfbhiaaDoorPkL15
import Derived.Test.YtodibhiinfbhiaaDoorPkL20
import Derived.Deep.RegionHeld3
import Derived.Test.YtodibhiinfbhiaaDoorPkL19
import Derived.Lib.QuietBelow
/-
  Drawn letters: any ones, their texts.
-/
namespace Go.Proofs.YtodibhiinfbhiaaDoor
open Go.RowKit Go.BigFrame Go.Sort
set_option linter.unusedVariables false
set_option linter.unusedSimpArgs false

theorem codeV_later {w w' : World} {v : Value} (h : Code w.heap.size w v) (hb : Below w.heap.size w w') : Code w'.heap.size w' v := by
  obtain ⟨ao, b, off, len, cap, rfl, hl, h1, h2⟩ := h
  refine ⟨ao, b, off, len, cap, rfl, hl, fun h0 => ⟨(h1 h0).1, Nat.lt_of_lt_of_le (h1 h0).2 hb.size⟩, fun j hj => ?_⟩
  obtain ⟨n, hn, hc⟩ := h2 j hj
  exact ⟨n, hn, (hb.cell (p := ⟨b, off + j, none⟩) (h1 (by omega)).2).trans hc⟩

def epsL : List Int := [0, 4, 5]
def epsC : Array Value := #[.int .i64 0, .int .i64 4, .int .i64 5]
theorem eps_at (w : World) : Hid (∀ j, (h : j < epsL.length) → (w.alloc (.cells epsC 3)).cell? ⟨w.heap.size, j, none⟩ = some (.int .i64 epsL[j])) := by
  intro j hj
  rw [World.cell?_alloc_at _ _ _ _ rfl]
  have : j = 0 ∨ j = 1 ∨ j = 2 := by simp [epsL] at hj; omega
  rcases this with rfl | rfl | rfl <;> rfl
def trysL : List Int := [0, 1000, 1001]
def trysC : Array Value := #[.int .i64 0, .int .i64 1000, .int .i64 1001]
theorem trys_at (w : World) : Hid (∀ j, (h : j < trysL.length) → (w.alloc (.cells trysC 3)).cell? ⟨w.heap.size, j, none⟩ = some (.int .i64 trysL[j])) := by
  intro j hj
  rw [World.cell?_alloc_at _ _ _ _ rfl]
  have : j = 0 ∨ j = 1 ∨ j = 2 := by simp [trysL] at hj; omega
  rcases this with rfl | rfl | rfl <;> rfl

set_option maxRecDepth 100000 in
set_option maxHeartbeats 2000000 in
theorem l17Any_in (B : Nat) (w0 w : World) (g : Nat) (v : Value) (hc : Cur B w0 w g v) :
    Calls Tryd.prog 20 #[.pointer (some ⟨g, 0, none⟩)] w (VdP ShL B w0 w g v) := by
  have hB := hc.size
  have hgl := hc.lt
  have hcz : Cur B w0 (w.alloc (.cells #[.int .i64 0, .int .i64 0, .int .i64 0, .int .i64 0, .int .i64 0, .string ⟨#[]⟩] 25)) g v := hc.kept (World.grownBy_alloc w _ none) (by simp) hc.size (fun k hk => by cases hk)
  have HBZ : Hid (BK (w.alloc (.cells #[.int .i64 0, .int .i64 0, .int .i64 0, .int .i64 0, .int .i64 0, .string ⟨#[]⟩] 25)) w.heap.size zLd ∧ w.grownBy (w.alloc (.cells #[.int .i64 0, .int .i64 0, .int .i64 0, .int .i64 0, .int .i64 0, .string ⟨#[]⟩] 25)) (some g)) := ⟨BK.new w zLd, World.grownBy_alloc w _ (some g)⟩
  clear hc
  go_enter Tryd.func20, Tryd.ntmps20
  go_wp2_with fail
  refine (l01Below_in B w0 _ g v 12 12 rfl hcz (by omega) (by omega)).mono ?_
  rintro e w1 ⟨k, hk, rfl, hc1, hg1⟩
  clear hcz
  go_wp2_with fail
  refine (l01Below_in B w0 _ g v 60 60 rfl hc1 (by omega) (by omega)).mono ?_
  rintro e w2 ⟨y, hy, rfl, hc2, hg2⟩
  clear hc1
  go_wp2_with fail
  refine (l17Letter_in B w0 _ g v hc2).mono ?_
  rintro e w3 ⟨⟨xk, xf, xt, xe, xy, xr⟩, rfl, hR, hc3, hg3⟩
  clear hc2
  simp only
  obtain ⟨W3, hW3⟩ : ∃ W, w3.alloc (.cells #[.int .i64 xk, .int .i64 xf, .int .i64 xt, .int .i64 xe, .int .i64 xy, .string xr] 25) = W := ⟨_, rfl⟩
  have HS : Hid (VdS B w0 w g v w3.heap.size ⟨xk, xf, xt, xe, xy, xr⟩ W3 ∧ ShL ⟨xk, xf, xt, xe, xy, xr⟩) := by
    rw [← hW3]
    have hg : w.grownBy w3 (some g) := HBZ.out.2.trans (hg1.trans (hg2.trans hg3))
    have hz := ((HBZ.out.1.grown hg1 (by simp; omega)).grown hg2 (by simp; omega)).grown hg3 (by simp; omega)
    exact ⟨⟨hc3.kept (World.grownBy_alloc w3 _ none) (by simp) hc3.size (fun k hk => by cases hk), hg.trans (World.grownBy_alloc w3 _ (some g)), hz.later ((Below.refl _ _).alloc (Nat.le_refl _) _), BK.new w3 ⟨xk, xf, xt, xe, xy, xr⟩, hgl, hz.lt, hB⟩, by have h2 : xr.size ≤ 16 := hR.2; show xr.size ≤ 20; omega⟩
  have hne : w3.heap.size ≠ w.heap.size := by have := HS.out.1.2.2.2.2.2.1; omega
  have hr20 : xr.size ≤ 20 := HS.out.2
  clear HBZ hg1 hg2 hg3 hc3 hR
  have hkk : k = 0 ∨ k = 1 ∨ k = 2 ∨ k = 3 ∨ k = 4 ∨ k = 5 ∨ (5 < k ∧ ¬ (k : Int) = 0 ∧ ¬ (k : Int) = 1 ∧ ¬ (k : Int) = 2 ∧ ¬ (k : Int) = 3 ∧ ¬ (k : Int) = 4 ∧ ¬ (k : Int) = 5) := by omega
  rcases hkk with rfl | rfl | rfl | rfl | rfl | rfl | ⟨_, q0, q1, q2, q3, q4, q5⟩
  · have HS4 : Hid (VdS B w0 w g v w3.heap.size ⟨(y : Int) % 7, xf, xt, xe, xy, xr⟩ (W3.setCell ⟨w3.heap.size, 0, none⟩ (.int .i64 ((y : Int) % 7)))) := HS.out.1.set 0 _ (HS.out.1.2.2.2.1.set0 ((y : Int) % 7))
    have HE := hide (HS4.out.ans (R := ShL) HS.out.2)
    have z0 := HS.out.1.2.2.1.c0
    have f0 := HS.out.1.2.2.1.fz 0
    have z1 := HS.out.1.2.2.1.c1
    have f1 := HS.out.1.2.2.1.fz 1
    have z2 := HS.out.1.2.2.1.c2
    have f2 := HS.out.1.2.2.1.fz 2
    have z3 := HS.out.1.2.2.1.c3
    have f3 := HS.out.1.2.2.1.fz 3
    have z4 := HS.out.1.2.2.1.c4
    have f4 := HS.out.1.2.2.1.fz 4
    have z5 := HS.out.1.2.2.1.c5
    have f5 := HS.out.1.2.2.1.fz 5
    have y0 := HS.out.1.2.2.2.1.c0
    have y1 := HS.out.1.2.2.2.1.c1
    have y2 := HS.out.1.2.2.2.1.c2
    have y3 := HS.out.1.2.2.2.1.c3
    have y4 := HS.out.1.2.2.2.1.c4
    have y5 := HS.out.1.2.2.2.1.c5
    have g0 := HS.out.1.2.2.2.1.fz 0
    simp only at y0 y1 y2 y3 y4 y5
    clear HS HS4
    go_wp2
    exact ret_ltr 2 w.heap.size _ rfl rfl rfl HE.out.1 HE.out.2
  · have HS4 : Hid (VdS B w0 w g v w3.heap.size ⟨xk, (y : Int) % 7 - 1, xt, xe, xy, xr⟩ (W3.setCell ⟨w3.heap.size, 1, none⟩ (.int .i64 ((y : Int) % 7 - 1)))) := HS.out.1.set 1 _ (HS.out.1.2.2.2.1.set1 ((y : Int) % 7 - 1))
    have HE := hide (HS4.out.ans (R := ShL) HS.out.2)
    have z0 := HS.out.1.2.2.1.c0
    have f0 := HS.out.1.2.2.1.fz 0
    have z1 := HS.out.1.2.2.1.c1
    have f1 := HS.out.1.2.2.1.fz 1
    have z2 := HS.out.1.2.2.1.c2
    have f2 := HS.out.1.2.2.1.fz 2
    have z3 := HS.out.1.2.2.1.c3
    have f3 := HS.out.1.2.2.1.fz 3
    have z4 := HS.out.1.2.2.1.c4
    have f4 := HS.out.1.2.2.1.fz 4
    have z5 := HS.out.1.2.2.1.c5
    have f5 := HS.out.1.2.2.1.fz 5
    have y0 := HS.out.1.2.2.2.1.c0
    have y1 := HS.out.1.2.2.2.1.c1
    have y2 := HS.out.1.2.2.2.1.c2
    have y3 := HS.out.1.2.2.2.1.c3
    have y4 := HS.out.1.2.2.2.1.c4
    have y5 := HS.out.1.2.2.2.1.c5
    have g1 := HS.out.1.2.2.2.1.fz 1
    simp only at y0 y1 y2 y3 y4 y5
    clear HS HS4
    go_wp2
    exact ret_ltr 2 w.heap.size _ rfl rfl rfl HE.out.1 HE.out.2
  · have HS4 : Hid (VdS B w0 w g v w3.heap.size ⟨xk, xf, (y : Int) % 7 - 1, xe, xy, xr⟩ (W3.setCell ⟨w3.heap.size, 2, none⟩ (.int .i64 ((y : Int) % 7 - 1)))) := HS.out.1.set 2 _ (HS.out.1.2.2.2.1.set2 ((y : Int) % 7 - 1))
    have HE := hide (HS4.out.ans (R := ShL) HS.out.2)
    have z0 := HS.out.1.2.2.1.c0
    have f0 := HS.out.1.2.2.1.fz 0
    have z1 := HS.out.1.2.2.1.c1
    have f1 := HS.out.1.2.2.1.fz 1
    have z2 := HS.out.1.2.2.1.c2
    have f2 := HS.out.1.2.2.1.fz 2
    have z3 := HS.out.1.2.2.1.c3
    have f3 := HS.out.1.2.2.1.fz 3
    have z4 := HS.out.1.2.2.1.c4
    have f4 := HS.out.1.2.2.1.fz 4
    have z5 := HS.out.1.2.2.1.c5
    have f5 := HS.out.1.2.2.1.fz 5
    have y0 := HS.out.1.2.2.2.1.c0
    have y1 := HS.out.1.2.2.2.1.c1
    have y2 := HS.out.1.2.2.2.1.c2
    have y3 := HS.out.1.2.2.2.1.c3
    have y4 := HS.out.1.2.2.2.1.c4
    have y5 := HS.out.1.2.2.2.1.c5
    have g2 := HS.out.1.2.2.2.1.fz 2
    simp only at y0 y1 y2 y3 y4 y5
    clear HS HS4
    go_wp2
    exact ret_ltr 2 w.heap.size _ rfl rfl rfl HE.out.1 HE.out.2
  · have ha : Below W3.heap.size W3 (W3.alloc (.cells epsC 3)) := (Below.refl _ _).alloc (Nat.le_refl _) _
    obtain ⟨m, hm, hme⟩ : ∃ m : Nat, m < 3 ∧ (y : Int) % 3 = (m : Int) := ⟨y % 3, by omega, by omega⟩
    have hat := (eps_at W3).out m (by simpa [epsL] using hm)
    have HS3 : Hid (VdS B w0 w g v w3.heap.size ⟨xk, xf, xt, xe, xy, xr⟩ (W3.alloc (.cells epsC 3)) ∧ ShL ⟨xk, xf, xt, xe, xy, xr⟩) := ⟨HS.out.1.later ha, HS.out.2⟩
    generalize epsL[m]'(by simpa [epsL] using hm) = z at *
    unfold epsC at *
    have HS4 : Hid (VdS B w0 w g v w3.heap.size ⟨xk, xf, xt, z, xy, xr⟩ ((W3.alloc (.cells #[.int .i64 0, .int .i64 4, .int .i64 5] 3)).setCell ⟨w3.heap.size, 3, none⟩ (.int .i64 z))) := HS3.out.1.set 3 _ (HS3.out.1.2.2.2.1.set3 z)
    have HE := hide (HS4.out.ans (R := ShL) HS3.out.2)
    have z0 := HS3.out.1.2.2.1.c0
    have f0 := HS3.out.1.2.2.1.fz 0
    have z1 := HS3.out.1.2.2.1.c1
    have f1 := HS3.out.1.2.2.1.fz 1
    have z2 := HS3.out.1.2.2.1.c2
    have f2 := HS3.out.1.2.2.1.fz 2
    have z3 := HS3.out.1.2.2.1.c3
    have f3 := HS3.out.1.2.2.1.fz 3
    have z4 := HS3.out.1.2.2.1.c4
    have f4 := HS3.out.1.2.2.1.fz 4
    have z5 := HS3.out.1.2.2.1.c5
    have f5 := HS3.out.1.2.2.1.fz 5
    have y0 := HS3.out.1.2.2.2.1.c0
    have y1 := HS3.out.1.2.2.2.1.c1
    have y2 := HS3.out.1.2.2.2.1.c2
    have y3 := HS3.out.1.2.2.2.1.c3
    have y4 := HS3.out.1.2.2.2.1.c4
    have y5 := HS3.out.1.2.2.2.1.c5
    have g3 := HS3.out.1.2.2.2.1.fz 3
    simp only at y0 y1 y2 y3 y4 y5
    clear HS HS3 HS4 ha
    go_wp2
    exact ret_ltr 2 w.heap.size _ rfl rfl rfl HE.out.1 HE.out.2
  · have ha : Below W3.heap.size W3 (W3.alloc (.cells trysC 3)) := (Below.refl _ _).alloc (Nat.le_refl _) _
    obtain ⟨m, hm, hme⟩ : ∃ m : Nat, m < 3 ∧ (y : Int) % 3 = (m : Int) := ⟨y % 3, by omega, by omega⟩
    have hat := (trys_at W3).out m (by simpa [trysL] using hm)
    have HS3 : Hid (VdS B w0 w g v w3.heap.size ⟨xk, xf, xt, xe, xy, xr⟩ (W3.alloc (.cells trysC 3)) ∧ ShL ⟨xk, xf, xt, xe, xy, xr⟩) := ⟨HS.out.1.later ha, HS.out.2⟩
    generalize trysL[m]'(by simpa [trysL] using hm) = z at *
    unfold trysC at *
    have HS4 : Hid (VdS B w0 w g v w3.heap.size ⟨xk, xf, xt, xe, z, xr⟩ ((W3.alloc (.cells #[.int .i64 0, .int .i64 1000, .int .i64 1001] 3)).setCell ⟨w3.heap.size, 4, none⟩ (.int .i64 z))) := HS3.out.1.set 4 _ (HS3.out.1.2.2.2.1.set4 z)
    have HE := hide (HS4.out.ans (R := ShL) HS3.out.2)
    have z0 := HS3.out.1.2.2.1.c0
    have f0 := HS3.out.1.2.2.1.fz 0
    have z1 := HS3.out.1.2.2.1.c1
    have f1 := HS3.out.1.2.2.1.fz 1
    have z2 := HS3.out.1.2.2.1.c2
    have f2 := HS3.out.1.2.2.1.fz 2
    have z3 := HS3.out.1.2.2.1.c3
    have f3 := HS3.out.1.2.2.1.fz 3
    have z4 := HS3.out.1.2.2.1.c4
    have f4 := HS3.out.1.2.2.1.fz 4
    have z5 := HS3.out.1.2.2.1.c5
    have f5 := HS3.out.1.2.2.1.fz 5
    have y0 := HS3.out.1.2.2.2.1.c0
    have y1 := HS3.out.1.2.2.2.1.c1
    have y2 := HS3.out.1.2.2.2.1.c2
    have y3 := HS3.out.1.2.2.2.1.c3
    have y4 := HS3.out.1.2.2.2.1.c4
    have y5 := HS3.out.1.2.2.2.1.c5
    have g4 := HS3.out.1.2.2.2.1.fz 4
    simp only at y0 y1 y2 y3 y4 y5
    clear HS HS3 HS4 ha
    go_wp2
    exact ret_ltr 2 w.heap.size _ rfl rfl rfl HE.out.1 HE.out.2
  · have hLG := l01Long_in ((y : Int) % 18) (y % 18) 97 97 W3 (by simp) rfl (by omega)
    have hz : (⟨(List.replicate (y % 18) 97).toArray⟩ : ByteArray).size = y % 18 := by show (List.replicate (y % 18) _).toArray.size = _; simp
    have hm : y % 18 < 18 := Nat.mod_lt _ (by omega)
    generalize (⟨(List.replicate (y % 18) 97).toArray⟩ : ByteArray) = T at *
    go_wp2_with fail
    refine hLG.mono ?_
    rintro e w5 ⟨rfl, hb5⟩
    have HS5 : Hid (VdS B w0 w g v w3.heap.size ⟨xk, xf, xt, xe, xy, xr⟩ w5) := HS.out.1.later hb5
    clear HS hLG hb5
    have HS6 : Hid (VdS B w0 w g v w3.heap.size ⟨xk, xf, xt, xe, xy, T⟩ (w5.setCell ⟨w3.heap.size, 5, none⟩ (.string T))) := HS5.out.set 5 _ (HS5.out.2.2.2.1.set5 T)
    have HE := hide (HS6.out.ans (R := ShL) (by show T.size ≤ 20; omega))
    have z0 := HS5.out.2.2.1.c0
    have f0 := HS5.out.2.2.1.fz 0
    have z1 := HS5.out.2.2.1.c1
    have f1 := HS5.out.2.2.1.fz 1
    have z2 := HS5.out.2.2.1.c2
    have f2 := HS5.out.2.2.1.fz 2
    have z3 := HS5.out.2.2.1.c3
    have f3 := HS5.out.2.2.1.fz 3
    have z4 := HS5.out.2.2.1.c4
    have f4 := HS5.out.2.2.1.fz 4
    have z5 := HS5.out.2.2.1.c5
    have f5 := HS5.out.2.2.1.fz 5
    have y0 := HS5.out.2.2.2.1.c0
    have y1 := HS5.out.2.2.2.1.c1
    have y2 := HS5.out.2.2.2.1.c2
    have y3 := HS5.out.2.2.2.1.c3
    have y4 := HS5.out.2.2.2.1.c4
    have y5 := HS5.out.2.2.2.1.c5
    have g5 := HS5.out.2.2.2.1.fz 5
    simp only at y0 y1 y2 y3 y4 y5
    clear HS5 HS6
    go_wp2
    exact ret_ltr 2 w.heap.size _ rfl rfl rfl HE.out.1 HE.out.2
  · have HE := hide (HS.out.1.ans (R := ShL) HS.out.2)
    have z0 := HS.out.1.2.2.1.c0
    have f0 := HS.out.1.2.2.1.fz 0
    have z1 := HS.out.1.2.2.1.c1
    have f1 := HS.out.1.2.2.1.fz 1
    have z2 := HS.out.1.2.2.1.c2
    have f2 := HS.out.1.2.2.1.fz 2
    have z3 := HS.out.1.2.2.1.c3
    have f3 := HS.out.1.2.2.1.fz 3
    have z4 := HS.out.1.2.2.1.c4
    have f4 := HS.out.1.2.2.1.fz 4
    have z5 := HS.out.1.2.2.1.c5
    have f5 := HS.out.1.2.2.1.fz 5
    have y0 := HS.out.1.2.2.2.1.c0
    have y1 := HS.out.1.2.2.2.1.c1
    have y2 := HS.out.1.2.2.2.1.c2
    have y3 := HS.out.1.2.2.2.1.c3
    have y4 := HS.out.1.2.2.2.1.c4
    have y5 := HS.out.1.2.2.2.1.c5
    simp only at y0 y1 y2 y3 y4 y5
    clear HS
    go_wp2
    exact ret_ltr 2 w.heap.size _ rfl rfl rfl HE.out.1 HE.out.2

theorem DrawLetterText_any (w : World) (v : Value) (hc : Code w.heap.size w v) :
    Calls Tryd.prog 7 #[v] w fun e w' => ∃ x : Ltr, e = .returned (.agg #[.int .i64 x.k, .int .i64 x.f, .int .i64 x.t, .int .i64 x.e, .int .i64 x.y, .string x.r]) ∧ x.r.size ≤ 20 ∧ Below w.heap.size w w' := by
  have HC : Hid (Code w.heap.size w v) := hc
  clear hc
  have HBZ : Hid (BK (w.alloc (.cells #[.int .i64 0, .int .i64 0, .int .i64 0, .int .i64 0, .int .i64 0, .string ⟨#[]⟩] 25)) w.heap.size zLd ∧ Below w.heap.size w (w.alloc (.cells #[.int .i64 0, .int .i64 0, .int .i64 0, .int .i64 0, .int .i64 0, .string ⟨#[]⟩] 25))) := ⟨BK.new w zLd, (Below.refl _ _).alloc (Nat.le_refl _) _⟩
  have HCZ : Hid (Code (w.alloc (.cells #[.int .i64 0, .int .i64 0, .int .i64 0, .int .i64 0, .int .i64 0, .string ⟨#[]⟩] 25)).heap.size (w.alloc (.cells #[.int .i64 0, .int .i64 0, .int .i64 0, .int .i64 0, .int .i64 0, .string ⟨#[]⟩] 25)) v) := codeV_later HC.out HBZ.out.2
  clear HC
  go_enter Tryd.func7, Tryd.ntmps7
  go_wp2_with fail
  refine (l01New_in _ v HCZ.out).mono ?_
  rintro e w1 ⟨g, rfl, hc1, hb1⟩
  go_wp2_with fail
  refine (l17Any_in _ _ _ g v hc1).mono ?_
  rintro e w2 ⟨X, rfl, hr, hc2, hg2⟩
  have HB2 : Hid (BK w2 w.heap.size zLd ∧ Below w.heap.size w w2) := ⟨HBZ.out.1.later hc2.2.1, HBZ.out.2.trans (hc2.2.1.mono HBZ.out.2.size)⟩
  clear HBZ HCZ hc1 hb1 hc2 hg2
  have y0 := HB2.out.1.c0
  have f0 := HB2.out.1.fz 0
  have y1 := HB2.out.1.c1
  have f1 := HB2.out.1.fz 1
  have y2 := HB2.out.1.c2
  have f2 := HB2.out.1.fz 2
  have y3 := HB2.out.1.c3
  have f3 := HB2.out.1.fz 3
  have y4 := HB2.out.1.c4
  have f4 := HB2.out.1.fz 4
  have y5 := HB2.out.1.c5
  have f5 := HB2.out.1.fz 5
  have HE : Hid (BK (w2.setCells w.heap.size 0 (kcs X)) w.heap.size X ∧ Below w.heap.size w (w2.setCells w.heap.size 0 (kcs X))) := ⟨HB2.out.1.put _, below_setCells (Nat.le_refl _) _ _ _ HB2.out.2⟩
  clear HB2
  go_wp2
  exact ret_ltr 2 w.heap.size X rfl rfl rfl HE.out.1 ⟨X, rfl, hr, HE.out.2⟩

set_option maxRecDepth 100000 in
set_option maxHeartbeats 1000000 in
theorem DrawReadLetter_any (w : World) (v : Value) (hc : Code w.heap.size w v) :
    Calls Tryd.prog 12 #[v] w fun e w' => ∃ t : ByteArray, e = .returned (.string t) ∧ t.size ≤ 1000 ∧ Below w.heap.size w w' := by
  have HC : Hid (Code w.heap.size w v) := hc
  clear hc
  go_enter Tryd.func12, Tryd.ntmps12
  go_wp2_with fail
  refine (l01New_in w v HC.out).mono ?_
  rintro e w1 ⟨g, rfl, hc1, hb1⟩
  clear HC hb1
  go_wp2_with fail
  refine (l01Below_in w.heap.size w _ g v 3 3 rfl hc1 (by omega) (by omega)).mono ?_
  rintro e w2 ⟨k, hk, rfl, hc2, hg2⟩
  clear hc1 hg2
  go_wp2_with fail
  refine (l17Any_in w.heap.size w _ g v hc2).mono ?_
  rintro e w3 ⟨X, rfl, hr, hc3, hg3⟩
  clear hc2 hg3
  have hr20 : X.r.size ≤ 20 := hr
  have hT := sLetterText_any X w3 (by omega)
  have hz : (VV.text X).size ≤ 40 := by
    unfold VV.text
    split
    · rename_i ho
      have := VV.lB_size (VV.ok_bounds ho).2.2.2.2.2
      rw [sealedB_size]
      omega
    · show (⟨#[]⟩ : ByteArray).size ≤ 40
      decide
  generalize VV.text X = t at *
  generalize VV.ok X = b at *
  go_wp2_with fail
  refine hT.mono ?_
  rintro e w4 ⟨rfl, hb4⟩
  have hc4 : Cur w.heap.size w w4 g v := hc3.kept (grown_belowR (row := none) hb4) (by simp) hc3.size (fun k hk => by cases hk)
  have HB4 : Hid (Below w.heap.size w w4) := hc4.2.1
  clear hT hb4 hc3
  by_cases hk0 : k = 0
  · subst hk0
    have hU : Calls Tryd.prog 32 #[.string t] w4 fun e w' => ∃ (s : ByteArray) (b : Bool), e = .returned (.tuple #[.string s, .bool b]) ∧ s.size ≤ t.size ∧ Below w4.heap.size w4 w' := by
      have h := sUnsealed_at t w4 (by omega)
      cases hu : VV.uns t with
      | none => rw [hu] at h; exact h.mono fun e w' ⟨he, hb⟩ => ⟨⟨#[]⟩, false, he, by show 0 ≤ _; omega, hb⟩
      | some u => rw [hu] at h; exact h.mono fun e w' ⟨he, hb⟩ => ⟨u, true, he, by have := (VV.uns_sealed hu).2.1; omega, hb⟩
    go_wp2_with fail
    refine hU.mono ?_
    rintro e w5 ⟨s, b2, rfl, hs, hb5⟩
    have hc5 : Cur w.heap.size w w5 g v := hc4.kept (grown_belowR (row := none) hb5) (by simp) hc4.size (fun k hk => by cases hk)
    have HB5 : Hid (Below w.heap.size w w5) := hc5.2.1
    clear hU hb5 hc4 HB4
    cases b2
    · clear hc5
      go_wp2
      go_ret
      exact ⟨t, rfl, by omega, HB5.out⟩
    · go_wp2_with fail
      refine (l02Spoilt_in w.heap.size w _ g v s hc5 (by omega)).mono ?_
      rintro e w6 ⟨y, rfl, hy, hc6, hg6⟩
      have HB6 : Hid (Below w.heap.size w w6) := hc6.2.1
      clear hc5 hc6 hg6 HB5
      have hSl := sSealed_yes y w6 (by omega)
      have hsz := sealedB_size y
      go_wp2_with fail
      refine hSl.mono ?_
      rintro e w7 ⟨rfl, hb7⟩
      have HB7 := HB6.out.trans (hb7.mono HB6.out.size)
      clear hb7 hSl HB6
      go_wp2
      go_ret
      exact ⟨sealedB y, rfl, by omega, HB7⟩
  · have q0 : ((k : Int) == 0) = false := beq_eq_false_iff_ne.2 (by omega)
    clear hc4
    go_wp2
    go_ret
    exact ⟨t, rfl, by omega, HB4.out⟩

end Go.Proofs.YtodibhiinfbhiaaDoor
/-
  A letter read from its text: the program's answer.
-/
namespace Go.Proofs.YtodibhiinfbhiaaDoor
open Go.RowKit Go.BigFrame Go.Sort
set_option linter.unusedVariables false
set_option linter.unusedSimpArgs false

set_option maxRecDepth 100000 in
set_option maxHeartbeats 1000000 in
theorem ReadLetter_any (t : ByteArray) (w : World) (ht : t.size ≤ 1048576) (hT : Tab w) :
    Calls Tryd.prog 9 #[.string t] w fun e w' => e = .returned (.tuple #[.agg #[.int .i64 (VV.rdA t).k, .int .i64 (VV.rdA t).f, .int .i64 (VV.rdA t).t, .int .i64 (VV.rdA t).e, .int .i64 (VV.rdA t).y, .string (VV.rdA t).r], .bool (VV.rdOk t)]) ∧ Below w.heap.size w w' := by
  have HZ : Hid (BK (w.alloc (.cells #[.int .i64 0, .int .i64 0, .int .i64 0, .int .i64 0, .int .i64 0, .string ⟨#[]⟩] 25)) w.heap.size VV.zL ∧ Below w.heap.size w (w.alloc (.cells #[.int .i64 0, .int .i64 0, .int .i64 0, .int .i64 0, .int .i64 0, .string ⟨#[]⟩] 25))) := ⟨BK.new w VV.zL, (Below.refl _ _).alloc (Nat.le_refl _) _⟩
  have hU := Unsealed_at t (w.alloc (.cells #[.int .i64 0, .int .i64 0, .int .i64 0, .int .i64 0, .int .i64 0, .string ⟨#[]⟩] 25)) ht (hT.lat HZ.out.2)
  cases hu : VV.uns t with
  | none =>
    obtain ⟨e1, e2⟩ := VV.rd_none (VV.rd_no1 hu)
    rw [e1, e2]
    rw [hu] at hU
    simp only at hU
    clear e1 e2 hu hT ht
    go_enter Tryd.func9, Tryd.ntmps9
    go_wp2_with fail
    refine hU.mono ?_
    rintro e w1 ⟨rfl, hb1⟩
    have HZ1 : Hid (BK w1 w.heap.size VV.zL ∧ Below w.heap.size w w1) := ⟨HZ.out.1.later hb1, HZ.out.2.trans (hb1.mono HZ.out.2.size)⟩
    clear hU HZ hb1
    have z0 := HZ1.out.1.c0
    have z1 := HZ1.out.1.c1
    have z2 := HZ1.out.1.c2
    have z3 := HZ1.out.1.c3
    have z4 := HZ1.out.1.c4
    have z5 := HZ1.out.1.c5
    have f0 := HZ1.out.1.fz 0
    have f1 := HZ1.out.1.fz 1
    have f2 := HZ1.out.1.fz 2
    have f3 := HZ1.out.1.fz 3
    have f4 := HZ1.out.1.fz 4
    have f5 := HZ1.out.1.fz 5
    have HE : Hid (BK (w1.setCells w.heap.size 0 (kcs VV.zL)) w.heap.size VV.zL ∧ Below w.heap.size w (w1.setCells w.heap.size 0 (kcs VV.zL))) := ⟨HZ1.out.1.put _, below_setCells (Nat.le_refl _) _ _ _ HZ1.out.2⟩
    clear HZ1
    go_wp2
    exact ret_ltr2 2 3 w.heap.size VV.zL _ rfl rfl rfl rfl HE.out.1 ⟨rfl, HE.out.2⟩
  | some u =>
    rw [hu] at hU
    simp only at hU
    have hus := (VV.uns_sealed hu).2.2
    by_cases hr : 4 ≤ u.size ∧ (M.readVar u.data.toList 4).isSome = true
    · obtain ⟨h4, hs⟩ := hr
      obtain ⟨⟨n, q⟩, hv⟩ := Option.isSome_iff_exists.1 hs
      have hq := (read_bound u 4 n q hv).1
      have hN := (read_bound u 4 n q hv).2
      have HR : Hid (∀ W, Calls Tryd.prog 25 #[.string u, .int .i64 4] W fun e w' => e = .returned (.tuple #[.int .i64 (n : Int), .int .i64 (q : Int), .bool true]) ∧ Below W.heap.size W w') := fun W => (ReadVar_some u 4 n q W (by omega) (by omega) (by simpa using hv)).mono fun e w' ⟨he, hw⟩ => ⟨he, hw ▸ Below.refl _ _⟩
      have hraw := VV.raw_yes h4 hv
      obtain ⟨x, hx⟩ : ∃ x : Ltr, (⟨((byB u 0).toNat : Int), ((byB u 1).toNat : Int), ((byB u 2).toNat : Int), ((byB u 3).toNat : Int), (n : Int), u.extract q u.size⟩ : Ltr) = x := ⟨_, rfl⟩
      have hxs : (u.extract q u.size).size ≤ 1048576 := by rw [ByteArray.size_extract]; omega
      have HC : Hid (∀ W, Calls Tryd.prog 11 #[.agg #[.int .i64 ((byB u 0).toNat : Int), .int .i64 ((byB u 1).toNat : Int), .int .i64 ((byB u 2).toNat : Int), .int .i64 ((byB u 3).toNat : Int), .int .i64 (n : Int), .string (u.extract q u.size)]] W fun e w' => e = .returned (.bool (VV.ok ⟨((byB u 0).toNat : Int), ((byB u 1).toNat : Int), ((byB u 2).toNat : Int), ((byB u 3).toNat : Int), (n : Int), u.extract q u.size⟩)) ∧ Below W.heap.size W w') := fun W => LetterOk_any ⟨((byB u 0).toNat : Int), ((byB u 1).toNat : Int), ((byB u 2).toNat : Int), ((byB u 3).toNat : Int), (n : Int), u.extract q u.size⟩ W hxs
      have HA : Hid ((VV.ok ⟨((byB u 0).toNat : Int), ((byB u 1).toNat : Int), ((byB u 2).toNat : Int), ((byB u 3).toNat : Int), (n : Int), u.extract q u.size⟩ = true → VV.rdOk t = true ∧ VV.rdA t = ⟨((byB u 0).toNat : Int), ((byB u 1).toNat : Int), ((byB u 2).toNat : Int), ((byB u 3).toNat : Int), (n : Int), u.extract q u.size⟩) ∧ (VV.ok ⟨((byB u 0).toNat : Int), ((byB u 1).toNat : Int), ((byB u 2).toNat : Int), ((byB u 3).toNat : Int), (n : Int), u.extract q u.size⟩ = false → VV.rdOk t = false ∧ VV.rdA t = VV.zL)) := ⟨fun h => VV.rd_some (VV.rd_yes hu hraw h), fun h => VV.rd_none (VV.rd_no3 hu hraw h)⟩
      generalize VV.ok ⟨((byB u 0).toNat : Int), ((byB u 1).toNat : Int), ((byB u 2).toNat : Int), ((byB u 3).toNat : Int), (n : Int), u.extract q u.size⟩ = B at *
      have k0 := run_by u 0 0 rfl (by omega)
      have k1 := run_by u 1 1 rfl (by omega)
      have k2 := run_by u 2 2 rfl (by omega)
      have k3 := run_by u 3 3 rfl (by omega)
      have k4 := run_fromV u (q : Int) q rfl hq
      have wb : ∀ b : UInt8, wrap64 (b.toNat : Int) = (b.toNat : Int) := fun b => by have := b.toNat_lt; unfold wrap64; omega
      have w0 := wb (byB u 0)
      have w1' := wb (byB u 1)
      have w2' := wb (byB u 2)
      have w3' := wb (byB u 3)
      clear hraw hx hv hs hxs hu hT ht wb
      generalize byB u 0 = c0 at *
      generalize byB u 1 = c1 at *
      generalize byB u 2 = c2 at *
      generalize byB u 3 = c3 at *
      generalize u.extract q u.size = Rt at *
      go_enter Tryd.func9, Tryd.ntmps9
      go_wp2_with fail
      refine hU.mono ?_
      rintro e w1 ⟨rfl, hb1⟩
      have HZ1 : Hid (BK w1 w.heap.size VV.zL ∧ Below w.heap.size w w1) := ⟨HZ.out.1.later hb1, HZ.out.2.trans (hb1.mono HZ.out.2.size)⟩
      clear hU HZ hb1
      go_wp2_with fail
      refine (HR.out _).mono ?_
      rintro e w2 ⟨rfl, hb2⟩
      have HZ2 : Hid (BK w2 w.heap.size VV.zL ∧ Below w.heap.size w w2) := ⟨HZ1.out.1.later hb2, HZ1.out.2.trans (hb2.mono HZ1.out.2.size)⟩
      clear HR HZ1 hb2
      go_wp2_with fail
      have HW3 : Hid (BK ((w2.alloc (.cells #[.int .i64 (c0.toNat : Int), .int .i64 (c1.toNat : Int), .int .i64 (c2.toNat : Int), .int .i64 (c3.toNat : Int), .int .i64 (n : Int), .string Rt] 25)).drew) w.heap.size VV.zL ∧ Below w.heap.size w ((w2.alloc (.cells #[.int .i64 (c0.toNat : Int), .int .i64 (c1.toNat : Int), .int .i64 (c2.toNat : Int), .int .i64 (c3.toNat : Int), .int .i64 (n : Int), .string Rt] 25)).drew) ∧ BK ((w2.alloc (.cells #[.int .i64 (c0.toNat : Int), .int .i64 (c1.toNat : Int), .int .i64 (c2.toNat : Int), .int .i64 (c3.toNat : Int), .int .i64 (n : Int), .string Rt] 25)).drew) w2.heap.size ⟨(c0.toNat : Int), (c1.toNat : Int), (c2.toNat : Int), (c3.toNat : Int), (n : Int), Rt⟩) := by
        have ha : Below w2.heap.size w2 ((w2.alloc (.cells #[.int .i64 (c0.toNat : Int), .int .i64 (c1.toNat : Int), .int .i64 (c2.toNat : Int), .int .i64 (c3.toNat : Int), .int .i64 (n : Int), .string Rt] 25)).drew) := ((Below.refl _ _).alloc (Nat.le_refl _) _).drew
        exact ⟨HZ2.out.1.later ha, HZ2.out.2.trans (ha.mono HZ2.out.2.size), BK.new w2 ⟨(c0.toNat : Int), (c1.toNat : Int), (c2.toNat : Int), (c3.toNat : Int), (n : Int), Rt⟩⟩
      go_region
      simp only [w0, w1', w2', w3']
      clear HZ2 w0 w1' w2' w3' k0 k1 k2 k3 k4
      generalize (w2.alloc (.cells #[.int .i64 (c0.toNat : Int), .int .i64 (c1.toNat : Int), .int .i64 (c2.toNat : Int), .int .i64 (c3.toNat : Int), .int .i64 (n : Int), .string Rt] 25)).drew = W3 at *
      have y0 := HW3.out.2.2.c0
      have y1 := HW3.out.2.2.c1
      have y2 := HW3.out.2.2.c2
      have y3 := HW3.out.2.2.c3
      have y4 := HW3.out.2.2.c4
      have y5 := HW3.out.2.2.c5
      simp only at y0 y1 y2 y3 y4 y5
      go_wp2_with fail
      refine (HC.out _).mono ?_
      rintro e w4 ⟨rfl, hb4⟩
      have HY : Hid (BK w4 w.heap.size VV.zL ∧ Below w.heap.size w w4 ∧ BK w4 w2.heap.size ⟨(c0.toNat : Int), (c1.toNat : Int), (c2.toNat : Int), (c3.toNat : Int), (n : Int), Rt⟩) := ⟨HW3.out.1.later hb4, HW3.out.2.1.trans (hb4.mono HW3.out.2.1.size), HW3.out.2.2.later hb4⟩
      clear HW3 hb4 HC y0 y1 y2 y3 y4 y5
      cases B
      · have HD := hide (HA.out.2 rfl)
        clear HA
        have z0 := HY.out.1.c0
        have f0 := HY.out.1.fz 0
        have z1 := HY.out.1.c1
        have f1 := HY.out.1.fz 1
        have z2 := HY.out.1.c2
        have f2 := HY.out.1.fz 2
        have z3 := HY.out.1.c3
        have f3 := HY.out.1.fz 3
        have z4 := HY.out.1.c4
        have f4 := HY.out.1.fz 4
        have z5 := HY.out.1.c5
        have f5 := HY.out.1.fz 5
        have HE : Hid (BK (w4.setCells w.heap.size 0 (kcs VV.zL)) w.heap.size VV.zL ∧ Below w.heap.size w (w4.setCells w.heap.size 0 (kcs VV.zL))) := ⟨HY.out.1.put _, below_setCells (Nat.le_refl _) _ _ _ HY.out.2.1⟩
        clear HY
        go_wp2
        exact ret_ltr2 2 3 w.heap.size VV.zL _ rfl rfl rfl rfl HE.out.1 ⟨by rw [HD.out.1, HD.out.2]; try rfl, HE.out.2⟩
      · have HD := hide (HA.out.1 rfl)
        clear HA
        have z0 := HY.out.1.c0
        have f0 := HY.out.1.fz 0
        have z1 := HY.out.1.c1
        have f1 := HY.out.1.fz 1
        have z2 := HY.out.1.c2
        have f2 := HY.out.1.fz 2
        have z3 := HY.out.1.c3
        have f3 := HY.out.1.fz 3
        have z4 := HY.out.1.c4
        have f4 := HY.out.1.fz 4
        have z5 := HY.out.1.c5
        have f5 := HY.out.1.fz 5
        have y0 := HY.out.2.2.c0
        have y1 := HY.out.2.2.c1
        have y2 := HY.out.2.2.c2
        have y3 := HY.out.2.2.c3
        have y4 := HY.out.2.2.c4
        have y5 := HY.out.2.2.c5
        simp only at y0 y1 y2 y3 y4 y5
        have HE : Hid (BK (w4.setCells w.heap.size 0 (kcs ⟨(c0.toNat : Int), (c1.toNat : Int), (c2.toNat : Int), (c3.toNat : Int), (n : Int), Rt⟩)) w.heap.size ⟨(c0.toNat : Int), (c1.toNat : Int), (c2.toNat : Int), (c3.toNat : Int), (n : Int), Rt⟩ ∧ Below w.heap.size w (w4.setCells w.heap.size 0 (kcs ⟨(c0.toNat : Int), (c1.toNat : Int), (c2.toNat : Int), (c3.toNat : Int), (n : Int), Rt⟩))) := ⟨HY.out.1.put _, below_setCells (Nat.le_refl _) _ _ _ HY.out.2.1⟩
        clear HY
        go_wp2
        exact ret_ltr2 2 3 w.heap.size ⟨(c0.toNat : Int), (c1.toNat : Int), (c2.toNat : Int), (c3.toNat : Int), (n : Int), Rt⟩ _ rfl rfl rfl rfl HE.out.1 ⟨by rw [HD.out.1, HD.out.2]; try rfl, HE.out.2⟩
    · have hraw : VV.raw u = none := by
        by_cases h4 : 4 ≤ u.size
        · refine VV.raw_no2 ?_
          cases hv : M.readVar u.data.toList 4 with
          | none => rfl
          | some y => exact absurd ⟨h4, by rw [hv]; rfl⟩ hr
        · exact VV.raw_no1 h4
      obtain ⟨e1, e2⟩ := VV.rd_none (VV.rd_no2 hu hraw)
      rw [e1, e2]
      have HR : Hid (∀ W, Calls Tryd.prog 25 #[.string u, .int .i64 4] W fun e w' => e = .returned (.tuple #[.int .i64 0, .int .i64 0, .bool false]) ∧ Below W.heap.size W w') := fun W => (ReadVar_none u 4 W (by omega) (by
        by_cases h4 : 4 ≤ u.size
        · refine .inr ⟨by omega, ?_⟩
          cases hv : M.readVar u.data.toList 4 with
          | none => simpa using hv
          | some y => exact absurd ⟨h4, by rw [hv]; rfl⟩ hr
        · exact .inl (by omega))).mono fun e w' ⟨he, hw⟩ => ⟨he, hw ▸ Below.refl _ _⟩
      clear e1 e2 hu hT ht hr hraw
      go_enter Tryd.func9, Tryd.ntmps9
      go_wp2_with fail
      refine hU.mono ?_
      rintro e w0 ⟨rfl, hb0⟩
      have HZ0 : Hid (BK w0 w.heap.size VV.zL ∧ Below w.heap.size w w0) := ⟨HZ.out.1.later hb0, HZ.out.2.trans (hb0.mono HZ.out.2.size)⟩
      clear hU HZ hb0
      go_wp2_with fail
      refine (HR.out _).mono ?_
      rintro e w1 ⟨rfl, hb1⟩
      have HZ1 : Hid (BK w1 w.heap.size VV.zL ∧ Below w.heap.size w w1) := ⟨HZ0.out.1.later hb1, HZ0.out.2.trans (hb1.mono HZ0.out.2.size)⟩
      clear HR HZ0 hb1
      have z0 := HZ1.out.1.c0
      have z1 := HZ1.out.1.c1
      have z2 := HZ1.out.1.c2
      have z3 := HZ1.out.1.c3
      have z4 := HZ1.out.1.c4
      have z5 := HZ1.out.1.c5
      have f0 := HZ1.out.1.fz 0
      have f1 := HZ1.out.1.fz 1
      have f2 := HZ1.out.1.fz 2
      have f3 := HZ1.out.1.fz 3
      have f4 := HZ1.out.1.fz 4
      have f5 := HZ1.out.1.fz 5
      have HE : Hid (BK (w1.setCells w.heap.size 0 (kcs VV.zL)) w.heap.size VV.zL ∧ Below w.heap.size w (w1.setCells w.heap.size 0 (kcs VV.zL))) := ⟨HZ1.out.1.put _, below_setCells (Nat.le_refl _) _ _ _ HZ1.out.2⟩
      clear HZ1
      go_wp2
      exact ret_ltr2 2 3 w.heap.size VV.zL _ rfl rfl rfl rfl HE.out.1 ⟨rfl, HE.out.2⟩

end Go.Proofs.YtodibhiinfbhiaaDoor
/-
  The specification's reader: a number, where the reader has failed before.
-/
namespace Go.Proofs.YtodibhiinfbhiaaDoor
open Go.RowKit Go.BigFrame Go.Sort
set_option linter.unusedVariables false
set_option linter.unusedSimpArgs false

set_option maxRecDepth 100000 in
set_option maxHeartbeats 1000000 in
theorem l09Var_bad (c : Nat) (s : ByteArray) (p : Nat) (w : World) (h : Cu w c s p true) (hs : s.size ≤ 1048576) (hp : p ≤ s.size) :
    Calls Tryd.prog 36 #[.pointer (some ⟨c, 0, none⟩)] w fun e w' => (e = .returned (.int .i64 0) ∧ Cu w' c s p true) ∧ w.grownBy w' (some c) := by
  have c0 := h.c0
  have c1 := h.c1
  have H : Hid (Cu w c s p true) := h
  have hcl := h.lt
  clear h
  have HX : Hid (∃ (n q : Int) (b : Bool), ∀ W, Calls Tryd.prog 51 #[.string s, .int .i64 (p : Int)] W fun e w' => e = .returned (.tuple #[.int .i64 n, .int .i64 q, .bool b]) ∧ Below W.heap.size W w') := by
    show ∃ (n q : Int) (b : Bool), ∀ W, Calls Tryd.prog 51 #[.string s, .int .i64 (p : Int)] W fun e w' => e = .returned (.tuple #[.int .i64 n, .int .i64 q, .bool b]) ∧ Below W.heap.size W w'
    cases hr : M.readVar s.data.toList p with
    | none => exact ⟨0, 0, false, fun W => sReadVar_none s (p : Int) W hs (.inr ⟨by omega, by simpa using hr⟩)⟩
    | some z => obtain ⟨n, q⟩ := z; exact ⟨n, q, true, fun W => sReadVar_some s (p : Int) n q W hs (by omega) (by simpa using hr)⟩
  obtain ⟨n, q, b, h1⟩ := HX.out
  have H1 : Hid (∀ W, Calls Tryd.prog 51 #[.string s, .int .i64 (p : Int)] W fun e w' => e = .returned (.tuple #[.int .i64 n, .int .i64 q, .bool b]) ∧ Below W.heap.size W w') := h1
  clear HX h1
  go_enter Tryd.func36, Tryd.ntmps36
  go_wp2
  have kq0 := cell_regrown (w := w) c0
  have kq1 := cell_regrown (w := w) c1
  have cq0 := fun d os => Calls.regrown_of (w := w) (d := d) (os := os) (H1.out _)
  refine wp_region_quiet_below (by kernel_rfl) (by kernel_rfl) ?_
  repeat (go_big_quiet_step (first | with_reducible exact cq0 _ _))
  refine wpQuiet_nil ?_
  rintro _ ⟨⟨dq, osq⟩, rfl⟩
  have hb6 := below_regrown (w) dq osq
  generalize grow (redrawn (w) dq) osq = w6 at *
  clear kq0 kq1 cq0
  have h6 := H.out.later hb6
  have d2 := h6.c2
  have g2 := h6.f2
  have hcl6 := h6.lt
  have HF : Hid (Cu (w6.setCell ⟨c, 2, none⟩ (.bool true)) c s p true ∧ w.grownBy (w6.setCell ⟨c, 2, none⟩ (.bool true)) (some c)) := ⟨h6.bad, (grown_below hb6).trans (grown_setC w6 c 2 _)⟩
  clear h6 hb6 H H1 c0 c1
  go_wp2
  go_ret
  exact ⟨⟨rfl, HF.out.1⟩, HF.out.2⟩

end Go.Proofs.YtodibhiinfbhiaaDoor
