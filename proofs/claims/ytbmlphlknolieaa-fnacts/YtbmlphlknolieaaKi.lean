/-
  What l06Act draws: an act whose texts are short.
-/
import Derived.Test.YtbmlphlknolieaaKh
namespace Go.Proofs.Ytbmlphlknolieaa
open Go.RowKit Go.BigFrame Go.Sort
set_option linter.unusedVariables false
set_option linter.unusedSimpArgs false

theorem sizeActD : (Try.prog.info? 45).map (·.size) = some 4 := by kernel_rfl
/-- what l06Act answers -/
def AcA (B : Nat) (w0 w : World) (g : Nat) (v : Value) (e : Ending) (w' : World) : Prop := ∃ a : Ac, e = .returned (.agg #[.int .i64 a.k, .string a.n, .string a.t, .string a.o]) ∧ (a.n.size ≤ 9 ∧ a.t.size ≤ 9 ∧ a.o.size ≤ 9) ∧ Cur B w0 w' g v ∧ w.grownBy w' (some g)
theorem AcS.ans {B : Nat} {w0 w : World} {g : Nat} {v : Value} {r p : Nat} {a : Ac} {W W' : World} (h : AcS B w0 w g v r p a W) (hg : W.grownBy W' (some r)) : AcA B w0 w g v (.returned (.agg #[.int .i64 a.k, .string a.n, .string a.t, .string a.o])) W' := by
  obtain ⟨q1, q2, q3, q4, q5, q6⟩ := h.2.2.2.2.1
  exact ⟨a, rfl, h.2.2.2.2.2, h.1.kept hg (by simpa using fun e : g = r => q4 e.symm) h.1.size (fun k hk => by cases hk; omega), grow_then h.2.1 hg (fun j hj => by cases hj; exact .inl q1)⟩
theorem grown_sets4 (w : World) (g : Nat) (x0 x1 x2 x3 : Value) : w.grownBy ((((w.setCell ⟨g, 0, none⟩ x0).setCell ⟨g, 1, none⟩ x1).setCell ⟨g, 2, none⟩ x2).setCell ⟨g, 3, none⟩ x3) (some g) := ((grown_set w g 0 x0).trans (grown_set _ g 1 x1)).trans ((grown_set _ g 2 x2).trans (grown_set _ g 3 x3))

theorem AB.range {W : World} {p : Nat} {a : Ac} (h : AB W p a) : W.rangeAt p 0 [.int .i64 a.k, .string a.n, .string a.t, .string a.o] := fun j u hu => by
  match j, hu with
  | 0, hu => cases hu; exact h.c0
  | 1, hu => cases hu; exact h.c1
  | 2, hu => cases hu; exact h.c2
  | 3, hu => cases hu; exact h.c3

set_option maxRecDepth 100000 in
set_option maxHeartbeats 4000000 in
theorem l06Act_in (B : Nat) (w0 w : World) (g : Nat) (v : Value) (hc : Cur B w0 w g v) :
    Calls Try.prog 82 #[.pointer (some ⟨g, 0, none⟩)] w (AcA B w0 w g v) := by
  have hgl := hc.lt
  have hsz := hc.size
  have hbr : AB (w.alloc (.cells #[.int .i64 0, .string ⟨#[]⟩, .string ⟨#[]⟩, .string ⟨#[]⟩] 45)) w.heap.size ⟨0, ⟨#[]⟩, ⟨#[]⟩, ⟨#[]⟩⟩ := Go.heap_alloc_new w _
  have hca : Cur B w0 (w.alloc (.cells #[.int .i64 0, .string ⟨#[]⟩, .string ⟨#[]⟩, .string ⟨#[]⟩] 45)) g v := hc.kept (World.grownBy_alloc w _ none) (by simp) hc.size (fun k hk => by cases hk)
  have hga : w.grownBy (w.alloc (.cells #[.int .i64 0, .string ⟨#[]⟩, .string ⟨#[]⟩, .string ⟨#[]⟩] 45)) (some g) := World.grownBy_alloc w _ _
  have HI : Hid (Cur B w0 (w.alloc (.cells #[.int .i64 0, .string ⟨#[]⟩, .string ⟨#[]⟩, .string ⟨#[]⟩] 45)) g v ∧ w.grownBy (w.alloc (.cells #[.int .i64 0, .string ⟨#[]⟩, .string ⟨#[]⟩, .string ⟨#[]⟩] 45)) (some g) ∧ AB (w.alloc (.cells #[.int .i64 0, .string ⟨#[]⟩, .string ⟨#[]⟩, .string ⟨#[]⟩] 45)) w.heap.size ⟨0, ⟨#[]⟩, ⟨#[]⟩, ⟨#[]⟩⟩) := ⟨hca, hga, hbr⟩
  clear hbr hca hga hc
  obtain ⟨r, hr⟩ : ∃ r, w.heap.size = r := ⟨_, rfl⟩
  go_enter Try.func82, Try.ntmps82
  go_wp2_with fail
  refine (l01Below_nat B w0 _ g v 4 HI.out.1 (by omega) (by omega)).mono ?_
  rintro e w1 ⟨x, hx, rfl, hc1, hg1⟩
  have HI1 : Hid (Cur B w0 w1 g v ∧ w.grownBy w1 (some g) ∧ AB w1 r ⟨0, ⟨#[]⟩, ⟨#[]⟩, ⟨#[]⟩⟩) := ⟨hc1, HI.out.2.1.trans hg1, by rw [← hr]; exact HI.out.2.2.grown hg1 (by simp; omega)⟩
  clear HI hc1 hg1
  go_wp2_with fail
  refine (l06Named_in B w0 _ g v HI1.out.1).mono ?_
  rintro e w2 ⟨y, hy, rfl, hc2, hg2⟩
  have hyz : y.size ≤ 9 := by have := hy; simp [F.nmB] at this; omega
  have HS : Hid (AcS B w0 w g v r w2.heap.size ⟨1 + (x : Int), y, ⟨#[]⟩, ⟨#[]⟩⟩ (w2.alloc (.cells #[.int .i64 (1 + (x : Int)), .string y, .string ⟨#[]⟩, .string ⟨#[]⟩] 45))) :=
    AcS.new (a := ⟨1 + (x : Int), y, ⟨#[]⟩, ⟨#[]⟩⟩) hc2 (HI1.out.2.1.trans hg2) (HI1.out.2.2.grown hg2 (by simp; omega)) ⟨hyz, by show 0 ≤ 9; omega, by show 0 ≤ 9; omega⟩ (by omega) (by omega) hsz
  clear HI1 hc2 hg2 hy
  have hK : 1 ≤ (1 + (x : Int)) ∧ (1 + (x : Int)) ≤ 4 := by omega
  generalize 1 + (x : Int) = K at *
  clear hx hr
  have k0 : (w2.alloc (.cells #[.int .i64 K, .string y, .string ⟨#[]⟩, .string ⟨#[]⟩] 45)).cell? ⟨w2.heap.size, 0, none⟩ = some (.int .i64 K) := HS.out.2.2.1.c0
  have hkk : K = 1 ∨ K = 3 ∨ (K ≠ 1 ∧ K ≠ 3) := by omega
  clear hK
  rcases hkk with h1 | h1 | h1
  · have q1 : (K == 1) = true := by simpa using h1
    clear h1
    go_wp2_with fail
    refine (l01Below_nat B w0 _ g v 6 HS.out.1 (by omega) (by omega)).mono ?_
    rintro e w3 ⟨z, hz, rfl, hc3, hg3⟩
    have HS3 : Hid (AcS B w0 w g v r w2.heap.size ⟨K, y, ⟨#[]⟩, ⟨#[]⟩⟩ w3) := HS.out.call hc3 hg3
    clear HS hc3 hg3 k0
    generalize w2.heap.size = p at *
    go_wp2_with fail
    refine (l01Text_nat B w0 _ g v z HS3.out.1 (by omega)).mono ?_
    rintro e w4 ⟨l, hl, rfl, hc4, hg4⟩
    have HS4 : Hid (AcS B w0 w g v r p ⟨K, y, ⟨#[]⟩, ⟨#[]⟩⟩ w4) := HS3.out.call hc4 hg4
    clear HS3 hc4 hg4
    obtain ⟨t, ht⟩ : ∃ t : ByteArray, t = ⟨l.toArray⟩ := ⟨_, rfl⟩
    have hsz2 : t.size ≤ 9 := by subst ht; show l.length ≤ 9; omega
    rw [← ht]
    have t0 := HS4.out.2.2.1.c2
    have f0 := HS4.out.2.2.1.fr 2
    have HT : Hid (AcS B w0 w g v r p ⟨K, y, t, ⟨#[]⟩⟩ (w4.setCell ⟨p, 2, none⟩ (.string t))) := HS4.out.store (grown_set _ _ _ _) (HS4.out.2.2.1.set2 t) ⟨hyz, hsz2, by show 0 ≤ 9; omega⟩
    clear HS4 ht hl
    go_wp2_with fail
    refine (l01Below_nat B w0 _ g v 40 HT.out.1 (by omega) (by omega)).mono ?_
    rintro e w5 ⟨z5, hz5, rfl, hc5, hg5⟩
    have HS5 : Hid (AcS B w0 w g v r p ⟨K, y, t, ⟨#[]⟩⟩ w5) := HT.out.call hc5 hg5
    clear HT hc5 hg5 t0 f0
    obtain ⟨⟨ak, an, at', ao⟩, hA⟩ : ∃ A : Ac, A = ⟨K, y, t, ⟨#[]⟩⟩ := ⟨_, rfl⟩
    rw [← hA] at HS5
    clear hA
    have hzz : z5 = 0 ∨ z5 = 1 ∨ z5 = 2 ∨ z5 = 3 ∨ 4 ≤ z5 := by omega
    rcases hzz with rfl | rfl | rfl | rfl | hz
    · have HP := pickK_in B w0 w5 g v HS5.out.1
      go_wp2_with fail
      refine HP.mono ?_
      rintro e w6 ⟨y6, rfl, hc6, hg6⟩
      have HS6 : Hid (AcS B w0 w g v r p ⟨ak, an, at', ao⟩ w6) := HS5.out.call hc6 hg6
      have t0 := HS6.out.2.2.1.c0
      have f0 := HS6.out.2.2.1.fr 0
      have HN : Hid (AcS B w0 w g v r p ⟨y6, an, at', ao⟩ (w6.setCell ⟨p, 0, none⟩ (.int .i64 y6))) := HS6.out.store (grown_set _ _ _ _) (HS6.out.2.2.1.set0 _) HS6.out.2.2.2.2.2
      clear HS5 HS6 HP hc6 hg6
      have c0 := HN.out.2.2.1.c0
      have c1 := HN.out.2.2.1.c1
      have c2 := HN.out.2.2.1.c2
      have c3 := HN.out.2.2.1.c3
      have b0 := HN.out.2.2.2.1.c0
      have b1 := HN.out.2.2.2.1.c1
      have b2 := HN.out.2.2.2.1.c2
      have b3 := HN.out.2.2.2.1.c3
      have g0 := HN.out.2.2.2.1.fr 0
      have g1 := HN.out.2.2.2.1.fr 1
      have g2 := HN.out.2.2.2.1.fr 2
      have g3 := HN.out.2.2.2.1.fr 3
      go_wp2
      refine ret_rec 2 r 45 [.int .i64 y6, .string an, .string at', .string ao] _ rfl rfl rfl Try.underlying45 rfl sizeActD (AB.range ((((HN.out.2.2.2.1.set0 _).set1 _).set2 _).set3 _)) ?_
      exact HN.out.ans (grown_sets4 _ _ _ _ _ _)
    · have HP := pickN_in B w0 w5 g v HS5.out.1
      go_wp2_with fail
      refine HP.mono ?_
      rintro e w6 ⟨y6, hy6, rfl, hc6, hg6⟩
      have HS6 : Hid (AcS B w0 w g v r p ⟨ak, an, at', ao⟩ w6) := HS5.out.call hc6 hg6
      have t0 := HS6.out.2.2.1.c1
      have f0 := HS6.out.2.2.1.fr 1
      have HN : Hid (AcS B w0 w g v r p ⟨ak, y6, at', ao⟩ (w6.setCell ⟨p, 1, none⟩ (.string y6))) := HS6.out.store (grown_set _ _ _ _) (HS6.out.2.2.1.set1 _) ⟨hy6, HS6.out.2.2.2.2.2.2⟩
      clear HS5 HS6 HP hc6 hg6
      have c0 := HN.out.2.2.1.c0
      have c1 := HN.out.2.2.1.c1
      have c2 := HN.out.2.2.1.c2
      have c3 := HN.out.2.2.1.c3
      have b0 := HN.out.2.2.2.1.c0
      have b1 := HN.out.2.2.2.1.c1
      have b2 := HN.out.2.2.2.1.c2
      have b3 := HN.out.2.2.2.1.c3
      have g0 := HN.out.2.2.2.1.fr 0
      have g1 := HN.out.2.2.2.1.fr 1
      have g2 := HN.out.2.2.2.1.fr 2
      have g3 := HN.out.2.2.2.1.fr 3
      go_wp2
      refine ret_rec 2 r 45 [.int .i64 ak, .string y6, .string at', .string ao] _ rfl rfl rfl Try.underlying45 rfl sizeActD (AB.range ((((HN.out.2.2.2.1.set0 _).set1 _).set2 _).set3 _)) ?_
      exact HN.out.ans (grown_sets4 _ _ _ _ _ _)
    · have t0 := HS5.out.2.2.1.c3
      have f0 := HS5.out.2.2.1.fr 3
      have HN : Hid (AcS B w0 w g v r p ⟨ak, an, at', ⟨#[120]⟩⟩ (w5.setCell ⟨p, 3, none⟩ (.string ⟨#[120]⟩))) := HS5.out.store (grown_set _ _ _ _) (HS5.out.2.2.1.set3 _) ⟨HS5.out.2.2.2.2.2.1, HS5.out.2.2.2.2.2.2.1, by show 1 ≤ 9; omega⟩
      clear HS5
      have c0 := HN.out.2.2.1.c0
      have c1 := HN.out.2.2.1.c1
      have c2 := HN.out.2.2.1.c2
      have c3 := HN.out.2.2.1.c3
      have b0 := HN.out.2.2.2.1.c0
      have b1 := HN.out.2.2.2.1.c1
      have b2 := HN.out.2.2.2.1.c2
      have b3 := HN.out.2.2.2.1.c3
      have g0 := HN.out.2.2.2.1.fr 0
      have g1 := HN.out.2.2.2.1.fr 1
      have g2 := HN.out.2.2.2.1.fr 2
      have g3 := HN.out.2.2.2.1.fr 3
      go_wp2
      refine ret_rec 2 r 45 [.int .i64 ak, .string an, .string at', .string ⟨#[120]⟩] _ rfl rfl rfl Try.underlying45 rfl sizeActD (AB.range ((((HN.out.2.2.2.1.set0 _).set1 _).set2 _).set3 _)) ?_
      exact HN.out.ans (grown_sets4 _ _ _ _ _ _)
    · have t0 := HS5.out.2.2.1.c2
      have f0 := HS5.out.2.2.1.fr 2
      have HN : Hid (AcS B w0 w g v r p ⟨ak, an, ⟨#[120]⟩, ao⟩ (w5.setCell ⟨p, 2, none⟩ (.string ⟨#[120]⟩))) := HS5.out.store (grown_set _ _ _ _) (HS5.out.2.2.1.set2 _) ⟨HS5.out.2.2.2.2.2.1, by show 1 ≤ 9; omega, HS5.out.2.2.2.2.2.2.2⟩
      clear HS5
      have c0 := HN.out.2.2.1.c0
      have c1 := HN.out.2.2.1.c1
      have c2 := HN.out.2.2.1.c2
      have c3 := HN.out.2.2.1.c3
      have b0 := HN.out.2.2.2.1.c0
      have b1 := HN.out.2.2.2.1.c1
      have b2 := HN.out.2.2.2.1.c2
      have b3 := HN.out.2.2.2.1.c3
      have g0 := HN.out.2.2.2.1.fr 0
      have g1 := HN.out.2.2.2.1.fr 1
      have g2 := HN.out.2.2.2.1.fr 2
      have g3 := HN.out.2.2.2.1.fr 3
      go_wp2
      refine ret_rec 2 r 45 [.int .i64 ak, .string an, .string ⟨#[120]⟩, .string ao] _ rfl rfl rfl Try.underlying45 rfl sizeActD (AB.range ((((HN.out.2.2.2.1.set0 _).set1 _).set2 _).set3 _)) ?_
      exact HN.out.ans (grown_sets4 _ _ _ _ _ _)
    · have y0 : ((z5 : Int) == 0) = false := by simp; omega
      have y1 : ((z5 : Int) == 1) = false := by simp; omega
      have y2 : ((z5 : Int) == 2) = false := by simp; omega
      have y3 : ((z5 : Int) == 3) = false := by simp; omega
      have HN := HS5
      clear HS5
      have c0 := HN.out.2.2.1.c0
      have c1 := HN.out.2.2.1.c1
      have c2 := HN.out.2.2.1.c2
      have c3 := HN.out.2.2.1.c3
      have b0 := HN.out.2.2.2.1.c0
      have b1 := HN.out.2.2.2.1.c1
      have b2 := HN.out.2.2.2.1.c2
      have b3 := HN.out.2.2.2.1.c3
      have g0 := HN.out.2.2.2.1.fr 0
      have g1 := HN.out.2.2.2.1.fr 1
      have g2 := HN.out.2.2.2.1.fr 2
      have g3 := HN.out.2.2.2.1.fr 3
      go_wp2
      refine ret_rec 2 r 45 [.int .i64 ak, .string an, .string at', .string ao] _ rfl rfl rfl Try.underlying45 rfl sizeActD (AB.range ((((HN.out.2.2.2.1.set0 _).set1 _).set2 _).set3 _)) ?_
      exact HN.out.ans (grown_sets4 _ _ _ _ _ _)
  · have q1 : (K == 1) = false := by simp; omega
    have q3 : (K == 3) = true := by simpa using h1
    clear h1
    go_wp2_with fail
    refine (l06Named_in B w0 _ g v HS.out.1).mono ?_
    rintro e w4 ⟨t, hy4, rfl, hc4, hg4⟩
    have hsz2 : t.size ≤ 9 := by have := hy4; simp [F.nmB] at this; omega
    have HS4 : Hid (AcS B w0 w g v r w2.heap.size ⟨K, y, ⟨#[]⟩, ⟨#[]⟩⟩ w4) := HS.out.call hc4 hg4
    clear HS hc4 hg4 k0 hy4
    generalize w2.heap.size = p at *
    have t0 := HS4.out.2.2.1.c3
    have f0 := HS4.out.2.2.1.fr 3
    have HT : Hid (AcS B w0 w g v r p ⟨K, y, ⟨#[]⟩, t⟩ (w4.setCell ⟨p, 3, none⟩ (.string t))) := HS4.out.store (grown_set _ _ _ _) (HS4.out.2.2.1.set3 t) ⟨hyz, by show 0 ≤ 9; omega, hsz2⟩
    clear HS4
    go_wp2_with fail
    refine (l01Below_nat B w0 _ g v 40 HT.out.1 (by omega) (by omega)).mono ?_
    rintro e w5 ⟨z5, hz5, rfl, hc5, hg5⟩
    have HS5 : Hid (AcS B w0 w g v r p ⟨K, y, ⟨#[]⟩, t⟩ w5) := HT.out.call hc5 hg5
    clear HT hc5 hg5 t0 f0
    obtain ⟨⟨ak, an, at', ao⟩, hA⟩ : ∃ A : Ac, A = ⟨K, y, ⟨#[]⟩, t⟩ := ⟨_, rfl⟩
    rw [← hA] at HS5
    clear hA
    have hzz : z5 = 0 ∨ z5 = 1 ∨ z5 = 2 ∨ z5 = 3 ∨ 4 ≤ z5 := by omega
    rcases hzz with rfl | rfl | rfl | rfl | hz
    · have HP := pickK_in B w0 w5 g v HS5.out.1
      go_wp2_with fail
      refine HP.mono ?_
      rintro e w6 ⟨y6, rfl, hc6, hg6⟩
      have HS6 : Hid (AcS B w0 w g v r p ⟨ak, an, at', ao⟩ w6) := HS5.out.call hc6 hg6
      have t0 := HS6.out.2.2.1.c0
      have f0 := HS6.out.2.2.1.fr 0
      have HN : Hid (AcS B w0 w g v r p ⟨y6, an, at', ao⟩ (w6.setCell ⟨p, 0, none⟩ (.int .i64 y6))) := HS6.out.store (grown_set _ _ _ _) (HS6.out.2.2.1.set0 _) HS6.out.2.2.2.2.2
      clear HS5 HS6 HP hc6 hg6
      have c0 := HN.out.2.2.1.c0
      have c1 := HN.out.2.2.1.c1
      have c2 := HN.out.2.2.1.c2
      have c3 := HN.out.2.2.1.c3
      have b0 := HN.out.2.2.2.1.c0
      have b1 := HN.out.2.2.2.1.c1
      have b2 := HN.out.2.2.2.1.c2
      have b3 := HN.out.2.2.2.1.c3
      have g0 := HN.out.2.2.2.1.fr 0
      have g1 := HN.out.2.2.2.1.fr 1
      have g2 := HN.out.2.2.2.1.fr 2
      have g3 := HN.out.2.2.2.1.fr 3
      go_wp2
      refine ret_rec 2 r 45 [.int .i64 y6, .string an, .string at', .string ao] _ rfl rfl rfl Try.underlying45 rfl sizeActD (AB.range ((((HN.out.2.2.2.1.set0 _).set1 _).set2 _).set3 _)) ?_
      exact HN.out.ans (grown_sets4 _ _ _ _ _ _)
    · have HP := pickN_in B w0 w5 g v HS5.out.1
      go_wp2_with fail
      refine HP.mono ?_
      rintro e w6 ⟨y6, hy6, rfl, hc6, hg6⟩
      have HS6 : Hid (AcS B w0 w g v r p ⟨ak, an, at', ao⟩ w6) := HS5.out.call hc6 hg6
      have t0 := HS6.out.2.2.1.c1
      have f0 := HS6.out.2.2.1.fr 1
      have HN : Hid (AcS B w0 w g v r p ⟨ak, y6, at', ao⟩ (w6.setCell ⟨p, 1, none⟩ (.string y6))) := HS6.out.store (grown_set _ _ _ _) (HS6.out.2.2.1.set1 _) ⟨hy6, HS6.out.2.2.2.2.2.2⟩
      clear HS5 HS6 HP hc6 hg6
      have c0 := HN.out.2.2.1.c0
      have c1 := HN.out.2.2.1.c1
      have c2 := HN.out.2.2.1.c2
      have c3 := HN.out.2.2.1.c3
      have b0 := HN.out.2.2.2.1.c0
      have b1 := HN.out.2.2.2.1.c1
      have b2 := HN.out.2.2.2.1.c2
      have b3 := HN.out.2.2.2.1.c3
      have g0 := HN.out.2.2.2.1.fr 0
      have g1 := HN.out.2.2.2.1.fr 1
      have g2 := HN.out.2.2.2.1.fr 2
      have g3 := HN.out.2.2.2.1.fr 3
      go_wp2
      refine ret_rec 2 r 45 [.int .i64 ak, .string y6, .string at', .string ao] _ rfl rfl rfl Try.underlying45 rfl sizeActD (AB.range ((((HN.out.2.2.2.1.set0 _).set1 _).set2 _).set3 _)) ?_
      exact HN.out.ans (grown_sets4 _ _ _ _ _ _)
    · have t0 := HS5.out.2.2.1.c3
      have f0 := HS5.out.2.2.1.fr 3
      have HN : Hid (AcS B w0 w g v r p ⟨ak, an, at', ⟨#[120]⟩⟩ (w5.setCell ⟨p, 3, none⟩ (.string ⟨#[120]⟩))) := HS5.out.store (grown_set _ _ _ _) (HS5.out.2.2.1.set3 _) ⟨HS5.out.2.2.2.2.2.1, HS5.out.2.2.2.2.2.2.1, by show 1 ≤ 9; omega⟩
      clear HS5
      have c0 := HN.out.2.2.1.c0
      have c1 := HN.out.2.2.1.c1
      have c2 := HN.out.2.2.1.c2
      have c3 := HN.out.2.2.1.c3
      have b0 := HN.out.2.2.2.1.c0
      have b1 := HN.out.2.2.2.1.c1
      have b2 := HN.out.2.2.2.1.c2
      have b3 := HN.out.2.2.2.1.c3
      have g0 := HN.out.2.2.2.1.fr 0
      have g1 := HN.out.2.2.2.1.fr 1
      have g2 := HN.out.2.2.2.1.fr 2
      have g3 := HN.out.2.2.2.1.fr 3
      go_wp2
      refine ret_rec 2 r 45 [.int .i64 ak, .string an, .string at', .string ⟨#[120]⟩] _ rfl rfl rfl Try.underlying45 rfl sizeActD (AB.range ((((HN.out.2.2.2.1.set0 _).set1 _).set2 _).set3 _)) ?_
      exact HN.out.ans (grown_sets4 _ _ _ _ _ _)
    · have t0 := HS5.out.2.2.1.c2
      have f0 := HS5.out.2.2.1.fr 2
      have HN : Hid (AcS B w0 w g v r p ⟨ak, an, ⟨#[120]⟩, ao⟩ (w5.setCell ⟨p, 2, none⟩ (.string ⟨#[120]⟩))) := HS5.out.store (grown_set _ _ _ _) (HS5.out.2.2.1.set2 _) ⟨HS5.out.2.2.2.2.2.1, by show 1 ≤ 9; omega, HS5.out.2.2.2.2.2.2.2⟩
      clear HS5
      have c0 := HN.out.2.2.1.c0
      have c1 := HN.out.2.2.1.c1
      have c2 := HN.out.2.2.1.c2
      have c3 := HN.out.2.2.1.c3
      have b0 := HN.out.2.2.2.1.c0
      have b1 := HN.out.2.2.2.1.c1
      have b2 := HN.out.2.2.2.1.c2
      have b3 := HN.out.2.2.2.1.c3
      have g0 := HN.out.2.2.2.1.fr 0
      have g1 := HN.out.2.2.2.1.fr 1
      have g2 := HN.out.2.2.2.1.fr 2
      have g3 := HN.out.2.2.2.1.fr 3
      go_wp2
      refine ret_rec 2 r 45 [.int .i64 ak, .string an, .string ⟨#[120]⟩, .string ao] _ rfl rfl rfl Try.underlying45 rfl sizeActD (AB.range ((((HN.out.2.2.2.1.set0 _).set1 _).set2 _).set3 _)) ?_
      exact HN.out.ans (grown_sets4 _ _ _ _ _ _)
    · have y0 : ((z5 : Int) == 0) = false := by simp; omega
      have y1 : ((z5 : Int) == 1) = false := by simp; omega
      have y2 : ((z5 : Int) == 2) = false := by simp; omega
      have y3 : ((z5 : Int) == 3) = false := by simp; omega
      have HN := HS5
      clear HS5
      have c0 := HN.out.2.2.1.c0
      have c1 := HN.out.2.2.1.c1
      have c2 := HN.out.2.2.1.c2
      have c3 := HN.out.2.2.1.c3
      have b0 := HN.out.2.2.2.1.c0
      have b1 := HN.out.2.2.2.1.c1
      have b2 := HN.out.2.2.2.1.c2
      have b3 := HN.out.2.2.2.1.c3
      have g0 := HN.out.2.2.2.1.fr 0
      have g1 := HN.out.2.2.2.1.fr 1
      have g2 := HN.out.2.2.2.1.fr 2
      have g3 := HN.out.2.2.2.1.fr 3
      go_wp2
      refine ret_rec 2 r 45 [.int .i64 ak, .string an, .string at', .string ao] _ rfl rfl rfl Try.underlying45 rfl sizeActD (AB.range ((((HN.out.2.2.2.1.set0 _).set1 _).set2 _).set3 _)) ?_
      exact HN.out.ans (grown_sets4 _ _ _ _ _ _)
  · have q1 : (K == 1) = false := by simp; omega
    have q3 : (K == 3) = false := by simp; omega
    clear h1
    go_wp2_with fail
    refine (l01Below_nat B w0 _ g v 40 HS.out.1 (by omega) (by omega)).mono ?_
    rintro e w5 ⟨z5, hz5, rfl, hc5, hg5⟩
    have HS5 : Hid (AcS B w0 w g v r w2.heap.size ⟨K, y, ⟨#[]⟩, ⟨#[]⟩⟩ w5) := HS.out.call hc5 hg5
    clear HS hc5 hg5 k0
    generalize w2.heap.size = p at *
    obtain ⟨⟨ak, an, at', ao⟩, hA⟩ : ∃ A : Ac, A = ⟨K, y, ⟨#[]⟩, ⟨#[]⟩⟩ := ⟨_, rfl⟩
    rw [← hA] at HS5
    clear hA
    have hzz : z5 = 0 ∨ z5 = 1 ∨ z5 = 2 ∨ z5 = 3 ∨ 4 ≤ z5 := by omega
    rcases hzz with rfl | rfl | rfl | rfl | hz
    · have HP := pickK_in B w0 w5 g v HS5.out.1
      go_wp2_with fail
      refine HP.mono ?_
      rintro e w6 ⟨y6, rfl, hc6, hg6⟩
      have HS6 : Hid (AcS B w0 w g v r p ⟨ak, an, at', ao⟩ w6) := HS5.out.call hc6 hg6
      have t0 := HS6.out.2.2.1.c0
      have f0 := HS6.out.2.2.1.fr 0
      have HN : Hid (AcS B w0 w g v r p ⟨y6, an, at', ao⟩ (w6.setCell ⟨p, 0, none⟩ (.int .i64 y6))) := HS6.out.store (grown_set _ _ _ _) (HS6.out.2.2.1.set0 _) HS6.out.2.2.2.2.2
      clear HS5 HS6 HP hc6 hg6
      have c0 := HN.out.2.2.1.c0
      have c1 := HN.out.2.2.1.c1
      have c2 := HN.out.2.2.1.c2
      have c3 := HN.out.2.2.1.c3
      have b0 := HN.out.2.2.2.1.c0
      have b1 := HN.out.2.2.2.1.c1
      have b2 := HN.out.2.2.2.1.c2
      have b3 := HN.out.2.2.2.1.c3
      have g0 := HN.out.2.2.2.1.fr 0
      have g1 := HN.out.2.2.2.1.fr 1
      have g2 := HN.out.2.2.2.1.fr 2
      have g3 := HN.out.2.2.2.1.fr 3
      go_wp2
      refine ret_rec 2 r 45 [.int .i64 y6, .string an, .string at', .string ao] _ rfl rfl rfl Try.underlying45 rfl sizeActD (AB.range ((((HN.out.2.2.2.1.set0 _).set1 _).set2 _).set3 _)) ?_
      exact HN.out.ans (grown_sets4 _ _ _ _ _ _)
    · have HP := pickN_in B w0 w5 g v HS5.out.1
      go_wp2_with fail
      refine HP.mono ?_
      rintro e w6 ⟨y6, hy6, rfl, hc6, hg6⟩
      have HS6 : Hid (AcS B w0 w g v r p ⟨ak, an, at', ao⟩ w6) := HS5.out.call hc6 hg6
      have t0 := HS6.out.2.2.1.c1
      have f0 := HS6.out.2.2.1.fr 1
      have HN : Hid (AcS B w0 w g v r p ⟨ak, y6, at', ao⟩ (w6.setCell ⟨p, 1, none⟩ (.string y6))) := HS6.out.store (grown_set _ _ _ _) (HS6.out.2.2.1.set1 _) ⟨hy6, HS6.out.2.2.2.2.2.2⟩
      clear HS5 HS6 HP hc6 hg6
      have c0 := HN.out.2.2.1.c0
      have c1 := HN.out.2.2.1.c1
      have c2 := HN.out.2.2.1.c2
      have c3 := HN.out.2.2.1.c3
      have b0 := HN.out.2.2.2.1.c0
      have b1 := HN.out.2.2.2.1.c1
      have b2 := HN.out.2.2.2.1.c2
      have b3 := HN.out.2.2.2.1.c3
      have g0 := HN.out.2.2.2.1.fr 0
      have g1 := HN.out.2.2.2.1.fr 1
      have g2 := HN.out.2.2.2.1.fr 2
      have g3 := HN.out.2.2.2.1.fr 3
      go_wp2
      refine ret_rec 2 r 45 [.int .i64 ak, .string y6, .string at', .string ao] _ rfl rfl rfl Try.underlying45 rfl sizeActD (AB.range ((((HN.out.2.2.2.1.set0 _).set1 _).set2 _).set3 _)) ?_
      exact HN.out.ans (grown_sets4 _ _ _ _ _ _)
    · have t0 := HS5.out.2.2.1.c3
      have f0 := HS5.out.2.2.1.fr 3
      have HN : Hid (AcS B w0 w g v r p ⟨ak, an, at', ⟨#[120]⟩⟩ (w5.setCell ⟨p, 3, none⟩ (.string ⟨#[120]⟩))) := HS5.out.store (grown_set _ _ _ _) (HS5.out.2.2.1.set3 _) ⟨HS5.out.2.2.2.2.2.1, HS5.out.2.2.2.2.2.2.1, by show 1 ≤ 9; omega⟩
      clear HS5
      have c0 := HN.out.2.2.1.c0
      have c1 := HN.out.2.2.1.c1
      have c2 := HN.out.2.2.1.c2
      have c3 := HN.out.2.2.1.c3
      have b0 := HN.out.2.2.2.1.c0
      have b1 := HN.out.2.2.2.1.c1
      have b2 := HN.out.2.2.2.1.c2
      have b3 := HN.out.2.2.2.1.c3
      have g0 := HN.out.2.2.2.1.fr 0
      have g1 := HN.out.2.2.2.1.fr 1
      have g2 := HN.out.2.2.2.1.fr 2
      have g3 := HN.out.2.2.2.1.fr 3
      go_wp2
      refine ret_rec 2 r 45 [.int .i64 ak, .string an, .string at', .string ⟨#[120]⟩] _ rfl rfl rfl Try.underlying45 rfl sizeActD (AB.range ((((HN.out.2.2.2.1.set0 _).set1 _).set2 _).set3 _)) ?_
      exact HN.out.ans (grown_sets4 _ _ _ _ _ _)
    · have t0 := HS5.out.2.2.1.c2
      have f0 := HS5.out.2.2.1.fr 2
      have HN : Hid (AcS B w0 w g v r p ⟨ak, an, ⟨#[120]⟩, ao⟩ (w5.setCell ⟨p, 2, none⟩ (.string ⟨#[120]⟩))) := HS5.out.store (grown_set _ _ _ _) (HS5.out.2.2.1.set2 _) ⟨HS5.out.2.2.2.2.2.1, by show 1 ≤ 9; omega, HS5.out.2.2.2.2.2.2.2⟩
      clear HS5
      have c0 := HN.out.2.2.1.c0
      have c1 := HN.out.2.2.1.c1
      have c2 := HN.out.2.2.1.c2
      have c3 := HN.out.2.2.1.c3
      have b0 := HN.out.2.2.2.1.c0
      have b1 := HN.out.2.2.2.1.c1
      have b2 := HN.out.2.2.2.1.c2
      have b3 := HN.out.2.2.2.1.c3
      have g0 := HN.out.2.2.2.1.fr 0
      have g1 := HN.out.2.2.2.1.fr 1
      have g2 := HN.out.2.2.2.1.fr 2
      have g3 := HN.out.2.2.2.1.fr 3
      go_wp2
      refine ret_rec 2 r 45 [.int .i64 ak, .string an, .string ⟨#[120]⟩, .string ao] _ rfl rfl rfl Try.underlying45 rfl sizeActD (AB.range ((((HN.out.2.2.2.1.set0 _).set1 _).set2 _).set3 _)) ?_
      exact HN.out.ans (grown_sets4 _ _ _ _ _ _)
    · have y0 : ((z5 : Int) == 0) = false := by simp; omega
      have y1 : ((z5 : Int) == 1) = false := by simp; omega
      have y2 : ((z5 : Int) == 2) = false := by simp; omega
      have y3 : ((z5 : Int) == 3) = false := by simp; omega
      have HN := HS5
      clear HS5
      have c0 := HN.out.2.2.1.c0
      have c1 := HN.out.2.2.1.c1
      have c2 := HN.out.2.2.1.c2
      have c3 := HN.out.2.2.1.c3
      have b0 := HN.out.2.2.2.1.c0
      have b1 := HN.out.2.2.2.1.c1
      have b2 := HN.out.2.2.2.1.c2
      have b3 := HN.out.2.2.2.1.c3
      have g0 := HN.out.2.2.2.1.fr 0
      have g1 := HN.out.2.2.2.1.fr 1
      have g2 := HN.out.2.2.2.1.fr 2
      have g3 := HN.out.2.2.2.1.fr 3
      go_wp2
      refine ret_rec 2 r 45 [.int .i64 ak, .string an, .string at', .string ao] _ rfl rfl rfl Try.underlying45 rfl sizeActD (AB.range ((((HN.out.2.2.2.1.set0 _).set1 _).set2 _).set3 _)) ?_
      exact HN.out.ans (grown_sets4 _ _ _ _ _ _)

end Go.Proofs.Ytbmlphlknolieaa
