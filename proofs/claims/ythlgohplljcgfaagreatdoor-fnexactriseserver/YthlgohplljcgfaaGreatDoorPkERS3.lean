/-
  Texts laid together: Jtx, Jri.
-/
import Derived.Test.YthlgohplljcgfaaGreatDoorPkESN13
import Derived.Test.YthlgohplljcgfaaGreatDoorPkEFS0
/-
  A server taken over by the laws' helper: no row of it is nil.
-/
namespace Go.Proofs.YthlgohplljcgfaaGreatDoor
open Go.RowKit Go.BigFrame Go.Sort
set_option linter.unusedVariables false
set_option linter.unusedSimpArgs false

set_option maxRecDepth 100000 in
set_option maxHeartbeats 400000 in
theorem toIntS_some (v : Value) (ga oa : Nat) (l : List Int) (w : World) (hv : RS 1 ics w v ga oa l) :
    Calls Tryz.prog 19 #[v] w fun e w' => ∃ g, e = .returned (.slice (some ⟨g, 0, none⟩) l.length l.length) ∧ IW w' (.slice (some ⟨g, 0, none⟩) l.length l.length) g l ∧ w.heap.size ≤ g ∧ Below w.heap.size w w' := by
  have HV : Hid (RS 1 ics w v ga oa l) := hv
  obtain ⟨a, cap, rfl, hl, hA, _⟩ := hv
  obtain ⟨n, hn⟩ : ∃ n, l.length = n := ⟨_, rfl⟩
  obtain ⟨w2, hmk, hib, hb2, hs2⟩ := made_ints n (by omega) w
  have HST : Hid (ToI w l (.int .i64 0) w2) := ⟨0, by omega, rfl, fun j _ h => by omega, by rw [hn]; exact hib, hb2, by omega⟩
  have HA : Hid (0 < n → a = some ⟨ga, oa, none⟩) := by rw [← hn]; exact fun h => (hA h).1
  rw [hn] at hl ⊢
  clear hib hb2 hs2 hA
  go_enter Tryz.func19, Tryz.ntmps19
  go_wp2
  clear hmk
  go_loopw [4] (fun i wr => ToI w l i wr) (fun i _ => n - (intOf i).toNat)
  case atStart => exact HST.out
  case round =>
    obtain ⟨m, hm, rfl, HI⟩ := hrel
    clear HST
    rw [hn] at hm
    by_cases hlt : m < n
    · have ea := HA.out (by omega)
      subst ea
      have c1 := (HV.out.later HI.out.2.2.1).int m (by omega)
      obtain ⟨⟨o0, x0⟩, f0⟩ := HI.out.2.1 m (by omega)
      obtain ⟨X, hX⟩ : ∃ X, l[m]'(by omega) = X := ⟨_, rfl⟩
      rw [hX] at c1
      have HJ : Hid ((∀ j (h : j < l.length), j < m + 1 → (wr.setCell ⟨w.heap.size, m, none⟩ (.int .i64 X)).cell? ⟨w.heap.size, j, none⟩ = some (.int .i64 l[j])) ∧ (∀ j, j < l.length → (∃ u, (wr.setCell ⟨w.heap.size, m, none⟩ (.int .i64 X)).cell? ⟨w.heap.size, j, none⟩ = some u) ∧ (wr.setCell ⟨w.heap.size, m, none⟩ (.int .i64 X)).frozen? ⟨w.heap.size, j, none⟩ = false) ∧ Below w.heap.size w (wr.setCell ⟨w.heap.size, m, none⟩ (.int .i64 X)) ∧ w.heap.size < (wr.setCell ⟨w.heap.size, m, none⟩ (.int .i64 X)).heap.size) := by
        refine ⟨fun j hj hjl => ?_, fun j hj => ⟨?_, by rw [World.frozen?_setCell]; exact (HI.out.2.1 j hj).2⟩, HI.out.2.2.1.setCell (p := ⟨w.heap.size, m, none⟩) (Nat.le_refl _) _, by simpa using HI.out.2.2.2⟩
        · rcases Nat.lt_or_ge j m with h | h
          · rw [set_else (by omega)]; exact HI.out.1 j hj h
          · have : j = m := by omega
            subst this
            rw [hX]; exact set_here x0 f0 _
        · by_cases h : j = m
          · subst h; exact ⟨_, set_here x0 f0 _⟩
          · rw [set_else h]; exact (HI.out.2.1 j hj).1
      have i1 : (m : Int) < (n : Int) := by omega
      have i2 : (0 : Int) ≤ (m : Int) := by omega
      clear HI HA HV hX
      go_wp2
      go_roundw
      case rel => exact ⟨m + 1, by omega, by go_num, HJ⟩
      case measure => simp [intOf]; omega
    · have hme : n = m := by omega
      subst hme
      clear HA HV
      go_wp2
      go_ret
      exact ⟨w.heap.size, rfl, ⟨some ⟨w.heap.size, 0, none⟩, n, by rw [hn], by omega, fun _ => ⟨rfl, HI.out.2.2.2⟩, fun j hj => ⟨HI.out.1 j hj (by omega), (HI.out.2.1 j hj).2⟩⟩, Nat.le_refl _, HI.out.2.2.1⟩

def ToSvX (n : Sn) (L : Sr) (w : World) (e : Ending) (w' : World) : Prop := ∃ gd gv b3 e3 ga, e = .returned (.agg #[.int .i64 n.a, .int .i64 n.k, .bool n.u, .slice (some ⟨gd, 0, none⟩) L.F.length L.F.length, .int .i64 n.e, .slice (some ⟨gv, 0, none⟩) L.P.length L.P.length, .slice b3 L.I.length e3, .slice (some ⟨ga, 0, none⟩) L.U.length L.U.length, .int .i64 n.r0, .int .i64 n.r1, .int .i64 n.r2]) ∧ SvD w.heap.size w'.heap.size w' (.slice (some ⟨gd, 0, none⟩) L.F.length L.F.length) (.slice (some ⟨gv, 0, none⟩) L.P.length L.P.length) (.slice b3 L.I.length e3) (.slice (some ⟨ga, 0, none⟩) L.U.length L.U.length) L ∧ Below w.heap.size w w' ∧ b3 ≠ none ∧ ∃ B G, XW B w' gv G L.P

set_option maxRecDepth 100000 in
set_option maxHeartbeats 4000000 in
theorem toServer_x (n : Sn) (vd vv vt va : Value) (L : Sr) (w : World) (hM : SvS w vd vv vt va L) :
    Calls Tryz.prog 18 #[.agg #[.int .i64 n.a, .int .i64 n.k, .bool n.u, vd, .int .i64 n.e, vv, vt, va, .int .i64 n.r0, .int .i64 n.r1, .int .i64 n.r2]] w (ToSvX n L w) := by
  have H1 : Hid (∀ W, Below w.heap.size w W → Calls Tryz.prog 9 #[.agg #[vd]] W fun e w' => ∃ g, e = .returned (.agg #[.slice (some ⟨g, 0, none⟩) L.F.length L.F.length]) ∧ RW 3 fcs w' (.slice (some ⟨g, 0, none⟩) L.F.length L.F.length) g L.F ∧ W.heap.size ≤ g ∧ (0 < L.F.length → g < w'.heap.size) ∧ Below W.heap.size W w') := fun W hW => by
    obtain ⟨⟨g1, o1, h1⟩, _⟩ := hM.later hW
    exact toDisk_some vd g1 o1 L.F W h1
  have H2 : Hid (∀ W, Below w.heap.size w W → Calls Tryz.prog 50 #[vv] W fun e w' => ∃ go G, e = .returned (.slice (some ⟨go, 0, none⟩) L.P.length L.P.length) ∧ XW W.heap.size w' go G L.P ∧ Below W.heap.size W w') := fun W hW => by
    obtain ⟨_, ⟨g1, o1, h1⟩, _⟩ := hM.later hW
    exact toLeafSS_any vv g1 o1 L.P W h1
  have H3 : Hid (∀ W, Below w.heap.size w W → Calls Tryz.prog 19 #[vt] W fun e w' => ∃ a c g, e = .returned (.slice a L.I.length c) ∧ IW w' (.slice a L.I.length c) g L.I ∧ W.heap.size ≤ g ∧ Below W.heap.size W w' ∧ a ≠ none) := fun W hW => by
    obtain ⟨_, _, ⟨g1, o1, h1⟩, _⟩ := hM.later hW
    refine (toIntS_some vt g1 o1 L.I W h1).mono ?_
    rintro e w' ⟨g, rfl, hi, hg, hb⟩
    exact ⟨_, _, g, rfl, hi, hg, hb, by simp⟩
  have H4 : Hid (∀ W, Below w.heap.size w W → Calls Tryz.prog 51 #[va] W fun e w' => ∃ g, e = .returned (.slice (some ⟨g, 0, none⟩) L.U.length L.U.length) ∧ W.heap.size ≤ g ∧ RW 3 ucs w' (.slice (some ⟨g, 0, none⟩) L.U.length L.U.length) g L.U ∧ g < w'.heap.size ∧ Below W.heap.size W w') := fun W hW => by
    obtain ⟨_, _, _, ⟨g1, o1, h1⟩⟩ := hM.later hW
    exact toChangeS_any va g1 o1 L.U W h1
  obtain ⟨Post, hPost⟩ : ∃ P, ToSvX n L w = P := ⟨_, rfl⟩
  have HP : Hid (ToSvX n L w = Post) := hPost
  rw [hPost]
  unfold ToSvX at HP
  obtain ⟨a, k, u, e, r0, r1, r2⟩ := n
  simp only at HP ⊢
  have H5 : Hid (∀ W, Calls Tryz.prog 52 #[.agg #[.int .i64 r0, .int .i64 r1, .int .i64 r2]] W fun e w' => e = .returned (.agg #[.int .i64 r0, .int .i64 r1, .int .i64 r2]) ∧ Below W.heap.size W w') := fun W => toReady_any r0 r1 r2 W
  obtain ⟨⟨ad, cd, rfl⟩, ⟨av, cv, rfl⟩, ⟨at2, ct, rfl⟩, ⟨aa, ca, rfl⟩⟩ := hM.shapes
  clear hM hPost
  have HX : Hid (∀ W, W = (((w.alloc (.cells #[.int .i64 a, .int .i64 k, .bool u, .slice ad L.F.length cd, .int .i64 e, .slice av L.P.length cv, .slice at2 L.I.length ct, .slice aa L.U.length ca, .int .i64 r0, .int .i64 r1, .int .i64 r2] 47)).alloc (.cells #[.int .i64 0, .int .i64 0, .bool false, .slice none 0 0, .int .i64 0, .slice none 0 0, .slice none 0 0, .slice none 0 0, .int .i64 0, .int .i64 0, .int .i64 0] 35)).alloc (.cells #[.int .i64 a, .int .i64 k, .bool u, .slice none 0 0, .int .i64 0, .slice none 0 0, .slice none 0 0, .slice none 0 0, .int .i64 0, .int .i64 0, .int .i64 0] 35)) → Below w.heap.size w W ∧ Box 35 W (w.heap.size + 1) [.int .i64 0, .int .i64 0, .bool false, .slice none 0 0, .int .i64 0, .slice none 0 0, .slice none 0 0, .slice none 0 0, .int .i64 0, .int .i64 0, .int .i64 0] ∧ Box 35 W (w.heap.size + 1 + 1) [.int .i64 a, .int .i64 k, .bool u, .slice none 0 0, .int .i64 0, .slice none 0 0, .slice none 0 0, .slice none 0 0, .int .i64 0, .int .i64 0, .int .i64 0] ∧ Box 47 W w.heap.size [.int .i64 a, .int .i64 k, .bool u, .slice ad L.F.length cd, .int .i64 e, .slice av L.P.length cv, .slice at2 L.I.length ct, .slice aa L.U.length ca, .int .i64 r0, .int .i64 r1, .int .i64 r2] ∧ w.heap.size + 3 ≤ W.heap.size) := fun W hW => by
    subst hW
    refine ⟨((below_alloc _ _).alloc (by simp) _).alloc (by simp; omega) _, ?_, alloc_fst _ _ (by simp), ((Box.new _ w _).later (below_alloc _ _)).later (below_alloc _ _), by simp⟩
    have h2 : ∀ (o : Obj) (cs : List Value), Box 35 ((w.alloc o).alloc (.cells cs.toArray 35)) (w.heap.size + 1) cs := fun o cs => alloc_fst _ _ (by simp)
    exact (h2 _ _).later (below_alloc _ _)
  obtain ⟨nd, hnd⟩ : ∃ nd, L.F.length = nd := ⟨_, rfl⟩
  obtain ⟨nv, hnv⟩ : ∃ nv, L.P.length = nv := ⟨_, rfl⟩
  obtain ⟨nt, hnt⟩ : ∃ nt, L.I.length = nt := ⟨_, rfl⟩
  obtain ⟨na, hna⟩ : ∃ na, L.U.length = na := ⟨_, rfl⟩
  have HN : Hid (L.F.length = nd ∧ L.P.length = nv ∧ L.I.length = nt ∧ L.U.length = na) := ⟨hnd, hnv, hnt, hna⟩
  rw [hnd] at H1 HX ⊢
  rw [hnv] at H2 HX ⊢
  rw [hnt] at H3 HX ⊢
  rw [hna] at H4 HX ⊢
  clear hnd hnv hnt hna
  have hne0 : w.heap.size ≠ w.heap.size + 1 + 1 := by omega
  go_enter Tryz.func18, Tryz.ntmps18
  go_wp2_with fail
  generalize hW0 : (((w.alloc (.cells #[.int .i64 a, .int .i64 k, .bool u, .slice ad nd cd, .int .i64 e, .slice av nv cv, .slice at2 nt ct, .slice aa na ca, .int .i64 r0, .int .i64 r1, .int .i64 r2] 47)).alloc (.cells #[.int .i64 0, .int .i64 0, .bool false, .slice none 0 0, .int .i64 0, .slice none 0 0, .slice none 0 0, .slice none 0 0, .int .i64 0, .int .i64 0, .int .i64 0] 35)).alloc (.cells #[.int .i64 a, .int .i64 k, .bool u, .slice none 0 0, .int .i64 0, .slice none 0 0, .slice none 0 0, .slice none 0 0, .int .i64 0, .int .i64 0, .int .i64 0] 35)) = W0
  have HX0 : Hid (Below w.heap.size w W0 ∧ Box 35 W0 (w.heap.size + 1) [.int .i64 0, .int .i64 0, .bool false, .slice none 0 0, .int .i64 0, .slice none 0 0, .slice none 0 0, .slice none 0 0, .int .i64 0, .int .i64 0, .int .i64 0] ∧ Box 35 W0 (w.heap.size + 1 + 1) [.int .i64 a, .int .i64 k, .bool u, .slice none 0 0, .int .i64 0, .slice none 0 0, .slice none 0 0, .slice none 0 0, .int .i64 0, .int .i64 0, .int .i64 0] ∧ Box 47 W0 w.heap.size [.int .i64 a, .int .i64 k, .bool u, .slice ad nd cd, .int .i64 e, .slice av nv cv, .slice at2 nt ct, .slice aa na ca, .int .i64 r0, .int .i64 r1, .int .i64 r2] ∧ w.heap.size + 3 ≤ W0.heap.size) := HX.out W0 hW0.symm
  clear HX hW0
  refine (H1.out _ HX0.out.1).mono ?_
  rintro e1 w1 ⟨gd, rfl, hr1, hg1, hl1, hb1⟩
  obtain ⟨b1, hb1e⟩ : ∃ b1, w1.heap.size = b1 := ⟨_, rfl⟩
  have HX1 : Hid (Below w.heap.size w w1 ∧ Box 35 w1 (w.heap.size + 1) [.int .i64 0, .int .i64 0, .bool false, .slice none 0 0, .int .i64 0, .slice none 0 0, .slice none 0 0, .slice none 0 0, .int .i64 0, .int .i64 0, .int .i64 0] ∧ Box 35 w1 (w.heap.size + 1 + 1) [.int .i64 a, .int .i64 k, .bool u, .slice none 0 0, .int .i64 0, .slice none 0 0, .slice none 0 0, .slice none 0 0, .int .i64 0, .int .i64 0, .int .i64 0] ∧ Box 47 w1 w.heap.size [.int .i64 a, .int .i64 k, .bool u, .slice ad nd cd, .int .i64 e, .slice av nv cv, .slice at2 nt ct, .slice aa na ca, .int .i64 r0, .int .i64 r1, .int .i64 r2] ∧ w.heap.size + 3 ≤ w1.heap.size ∧ b1 ≤ w1.heap.size ∧ w.heap.size + 3 ≤ b1 ∧ RW 3 fcs w1 (.slice (some ⟨gd, 0, none⟩) nd nd) gd L.F ∧ w.heap.size + 3 ≤ gd ∧ (0 < L.F.length → gd < b1)) := by
    obtain ⟨k1, k2, k3, k4, k5⟩ := HX0.out
    rw [hb1e] at hl1
    have := hb1.size
    exact ⟨k1.trans (hb1.mono k1.size), k2.later hb1, k3.later hb1, k4.later hb1, by omega, by omega, by omega, hr1, by omega, by rw [HN.out.1]; exact hl1⟩
  clear hr1 hg1 hl1 hb1 hb1e HX0 H1
  have q3 := HX1.out.2.2.1.at 3 _ rfl
  have j3 := HX1.out.2.2.1.fz 3
  have q4 := HX1.out.2.2.1.at 4 _ rfl
  have j4 := HX1.out.2.2.1.fz 4
  have z4 := HX1.out.2.2.2.1.at 4 _ rfl
  have z5 := HX1.out.2.2.2.1.at 5 _ rfl
  have HY1 : Hid (∀ W, W = ((w1.setCell ⟨w.heap.size + 1 + 1, 3, none⟩ (.slice (some ⟨gd, 0, none⟩) nd nd)).setCell ⟨w.heap.size + 1 + 1, 4, none⟩ (.int .i64 e)) → Below w.heap.size w W ∧ Box 35 W (w.heap.size + 1) [.int .i64 0, .int .i64 0, .bool false, .slice none 0 0, .int .i64 0, .slice none 0 0, .slice none 0 0, .slice none 0 0, .int .i64 0, .int .i64 0, .int .i64 0] ∧ Box 35 W (w.heap.size + 1 + 1) [.int .i64 a, .int .i64 k, .bool u, .slice (some ⟨gd, 0, none⟩) nd nd, .int .i64 e, .slice none 0 0, .slice none 0 0, .slice none 0 0, .int .i64 0, .int .i64 0, .int .i64 0] ∧ Box 47 W w.heap.size [.int .i64 a, .int .i64 k, .bool u, .slice ad nd cd, .int .i64 e, .slice av nv cv, .slice at2 nt ct, .slice aa na ca, .int .i64 r0, .int .i64 r1, .int .i64 r2] ∧ w.heap.size + 3 ≤ W.heap.size ∧ b1 ≤ W.heap.size ∧ w.heap.size + 3 ≤ b1 ∧ RW 3 fcs W (.slice (some ⟨gd, 0, none⟩) nd nd) gd L.F ∧ w.heap.size + 3 ≤ gd ∧ (0 < L.F.length → gd < b1)) := fun W hW => by
    subst hW
    have hg := ((grown_setC w1 (w.heap.size + 1 + 1) 3 (.slice (some ⟨gd, 0, none⟩) nd nd)).trans (grown_setC (w1.setCell ⟨w.heap.size + 1 + 1, 3, none⟩ (.slice (some ⟨gd, 0, none⟩) nd nd)) (w.heap.size + 1 + 1) 4 (.int .i64 e)))
    obtain ⟨k1, k2, k3, k4, k5, d1, d2, m1, m2, m3⟩ := HX1.out
    have hsz := hg.size
    exact ⟨k1.grown hg k1.size (fun k hk => by simp at hk; omega), k2.grown hg (by simp), ((k3.set 3 _).set 4 _), k4.grown hg (by simp; omega), by omega, by omega, d2, m1.grown hg (fun _ => by simp; omega), m2, m3⟩
  go_wp2_with fail
  generalize hW1 : ((w1.setCell ⟨w.heap.size + 1 + 1, 3, none⟩ (.slice (some ⟨gd, 0, none⟩) nd nd)).setCell ⟨w.heap.size + 1 + 1, 4, none⟩ (.int .i64 e)) = W1
  have HZ1 : Hid (Below w.heap.size w W1 ∧ Box 35 W1 (w.heap.size + 1) [.int .i64 0, .int .i64 0, .bool false, .slice none 0 0, .int .i64 0, .slice none 0 0, .slice none 0 0, .slice none 0 0, .int .i64 0, .int .i64 0, .int .i64 0] ∧ Box 35 W1 (w.heap.size + 1 + 1) [.int .i64 a, .int .i64 k, .bool u, .slice (some ⟨gd, 0, none⟩) nd nd, .int .i64 e, .slice none 0 0, .slice none 0 0, .slice none 0 0, .int .i64 0, .int .i64 0, .int .i64 0] ∧ Box 47 W1 w.heap.size [.int .i64 a, .int .i64 k, .bool u, .slice ad nd cd, .int .i64 e, .slice av nv cv, .slice at2 nt ct, .slice aa na ca, .int .i64 r0, .int .i64 r1, .int .i64 r2] ∧ w.heap.size + 3 ≤ W1.heap.size ∧ b1 ≤ W1.heap.size ∧ w.heap.size + 3 ≤ b1 ∧ RW 3 fcs W1 (.slice (some ⟨gd, 0, none⟩) nd nd) gd L.F ∧ w.heap.size + 3 ≤ gd ∧ (0 < L.F.length → gd < b1)) := HY1.out W1 hW1.symm
  clear HY1 hW1 HX1 q3 j3 q4 j4 z4 z5
  refine (H2.out _ HZ1.out.1).mono ?_
  rintro e2 w2 ⟨gv, G, rfl, hx2, hb2⟩
  obtain ⟨b2, hb2e⟩ : ∃ b2, w2.heap.size = b2 := ⟨_, rfl⟩
  have HX2 : Hid (Below w.heap.size w w2 ∧ Box 35 w2 (w.heap.size + 1) [.int .i64 0, .int .i64 0, .bool false, .slice none 0 0, .int .i64 0, .slice none 0 0, .slice none 0 0, .slice none 0 0, .int .i64 0, .int .i64 0, .int .i64 0] ∧ Box 35 w2 (w.heap.size + 1 + 1) [.int .i64 a, .int .i64 k, .bool u, .slice (some ⟨gd, 0, none⟩) nd nd, .int .i64 e, .slice none 0 0, .slice none 0 0, .slice none 0 0, .int .i64 0, .int .i64 0, .int .i64 0] ∧ Box 47 w2 w.heap.size [.int .i64 a, .int .i64 k, .bool u, .slice ad nd cd, .int .i64 e, .slice av nv cv, .slice at2 nt ct, .slice aa na ca, .int .i64 r0, .int .i64 r1, .int .i64 r2] ∧ w.heap.size + 3 ≤ w2.heap.size ∧ b1 ≤ b2 ∧ b2 ≤ w2.heap.size ∧ w.heap.size + 3 ≤ b1 ∧ RW 3 fcs w2 (.slice (some ⟨gd, 0, none⟩) nd nd) gd L.F ∧ w.heap.size + 3 ≤ gd ∧ (0 < L.F.length → gd < b1) ∧ XW b1 w2 gv G L.P ∧ gv < b2 ∧ (∀ b ∈ G, b < b2)) := by
    obtain ⟨k1, k2, k3, k4, k5, d1, d2, m1, m2, m3⟩ := HZ1.out
    have hsz := hb2.size
    obtain ⟨t1, t2, t3, t4, t5, t6, t7⟩ := id hx2
    exact ⟨k1.trans (hb2.mono k1.size), k2.later hb2, k3.later hb2, k4.later hb2, by omega, by omega, by omega, d2, m1.later hb2, m2, m3, ⟨t1, t2, by omega, t4, t5, fun b hb => ⟨by have := (t6 b hb).1; omega, (t6 b hb).2⟩, t7⟩, by omega, fun b hb => by have := (t6 b hb).2.1; omega⟩
  clear hx2 hb2 hb2e HZ1 H2
  have q5 := HX2.out.2.2.1.at 5 _ rfl
  have j5 := HX2.out.2.2.1.fz 5
  have z6 := HX2.out.2.2.2.1.at 6 _ rfl
  have HY2 : Hid (∀ W, W = (w2.setCell ⟨w.heap.size + 1 + 1, 5, none⟩ (.slice (some ⟨gv, 0, none⟩) nv nv)) → Below w.heap.size w W ∧ Box 35 W (w.heap.size + 1) [.int .i64 0, .int .i64 0, .bool false, .slice none 0 0, .int .i64 0, .slice none 0 0, .slice none 0 0, .slice none 0 0, .int .i64 0, .int .i64 0, .int .i64 0] ∧ Box 35 W (w.heap.size + 1 + 1) [.int .i64 a, .int .i64 k, .bool u, .slice (some ⟨gd, 0, none⟩) nd nd, .int .i64 e, .slice (some ⟨gv, 0, none⟩) nv nv, .slice none 0 0, .slice none 0 0, .int .i64 0, .int .i64 0, .int .i64 0] ∧ Box 47 W w.heap.size [.int .i64 a, .int .i64 k, .bool u, .slice ad nd cd, .int .i64 e, .slice av nv cv, .slice at2 nt ct, .slice aa na ca, .int .i64 r0, .int .i64 r1, .int .i64 r2] ∧ w.heap.size + 3 ≤ W.heap.size ∧ b1 ≤ b2 ∧ b2 ≤ W.heap.size ∧ w.heap.size + 3 ≤ b1 ∧ RW 3 fcs W (.slice (some ⟨gd, 0, none⟩) nd nd) gd L.F ∧ w.heap.size + 3 ≤ gd ∧ (0 < L.F.length → gd < b1) ∧ XW b1 W gv G L.P ∧ gv < b2 ∧ (∀ b ∈ G, b < b2)) := fun W hW => by
    subst hW
    have hg := (grown_setC w2 (w.heap.size + 1 + 1) 5 (.slice (some ⟨gv, 0, none⟩) nv nv))
    obtain ⟨k1, k2, k3, k4, k5, d0, d1, d2, m1, m2, m3, m4, m5, m6⟩ := HX2.out
    have hsz := hg.size
    exact ⟨k1.grown hg k1.size (fun k hk => by simp at hk; omega), k2.grown hg (by simp), (k3.set 5 _), k4.grown hg (by simp; omega), by omega, by omega, by omega, d2, m1.grown hg (fun _ => by simp; omega), m2, m3, m4.kept hg (by omega), m5, m6⟩
  go_wp2_with fail
  generalize hW2 : (w2.setCell ⟨w.heap.size + 1 + 1, 5, none⟩ (.slice (some ⟨gv, 0, none⟩) nv nv)) = W2
  have HZ2 : Hid (Below w.heap.size w W2 ∧ Box 35 W2 (w.heap.size + 1) [.int .i64 0, .int .i64 0, .bool false, .slice none 0 0, .int .i64 0, .slice none 0 0, .slice none 0 0, .slice none 0 0, .int .i64 0, .int .i64 0, .int .i64 0] ∧ Box 35 W2 (w.heap.size + 1 + 1) [.int .i64 a, .int .i64 k, .bool u, .slice (some ⟨gd, 0, none⟩) nd nd, .int .i64 e, .slice (some ⟨gv, 0, none⟩) nv nv, .slice none 0 0, .slice none 0 0, .int .i64 0, .int .i64 0, .int .i64 0] ∧ Box 47 W2 w.heap.size [.int .i64 a, .int .i64 k, .bool u, .slice ad nd cd, .int .i64 e, .slice av nv cv, .slice at2 nt ct, .slice aa na ca, .int .i64 r0, .int .i64 r1, .int .i64 r2] ∧ w.heap.size + 3 ≤ W2.heap.size ∧ b1 ≤ b2 ∧ b2 ≤ W2.heap.size ∧ w.heap.size + 3 ≤ b1 ∧ RW 3 fcs W2 (.slice (some ⟨gd, 0, none⟩) nd nd) gd L.F ∧ w.heap.size + 3 ≤ gd ∧ (0 < L.F.length → gd < b1) ∧ XW b1 W2 gv G L.P ∧ gv < b2 ∧ (∀ b ∈ G, b < b2)) := HY2.out W2 hW2.symm
  clear HY2 hW2 HX2 q5 j5 z6
  refine (H3.out _ HZ2.out.1).mono ?_
  rintro e3_ w3 ⟨b3, e3, g3, rfl, hx3, hg3, hb3, hn3⟩
  have HN3 : Hid (b3 ≠ none) := hn3
  clear hn3
  obtain ⟨b3', hb3e⟩ : ∃ b3', w3.heap.size = b3' := ⟨_, rfl⟩
  have HX3 : Hid (Below w.heap.size w w3 ∧ Box 35 w3 (w.heap.size + 1) [.int .i64 0, .int .i64 0, .bool false, .slice none 0 0, .int .i64 0, .slice none 0 0, .slice none 0 0, .slice none 0 0, .int .i64 0, .int .i64 0, .int .i64 0] ∧ Box 35 w3 (w.heap.size + 1 + 1) [.int .i64 a, .int .i64 k, .bool u, .slice (some ⟨gd, 0, none⟩) nd nd, .int .i64 e, .slice (some ⟨gv, 0, none⟩) nv nv, .slice none 0 0, .slice none 0 0, .int .i64 0, .int .i64 0, .int .i64 0] ∧ Box 47 w3 w.heap.size [.int .i64 a, .int .i64 k, .bool u, .slice ad nd cd, .int .i64 e, .slice av nv cv, .slice at2 nt ct, .slice aa na ca, .int .i64 r0, .int .i64 r1, .int .i64 r2] ∧ w.heap.size + 3 ≤ w3.heap.size ∧ b1 ≤ b2 ∧ b2 ≤ b3' ∧ b3' ≤ w3.heap.size ∧ w.heap.size + 3 ≤ b1 ∧ RW 3 fcs w3 (.slice (some ⟨gd, 0, none⟩) nd nd) gd L.F ∧ w.heap.size + 3 ≤ gd ∧ (0 < L.F.length → gd < b1) ∧ XW b1 w3 gv G L.P ∧ gv < b2 ∧ (∀ b ∈ G, b < b2) ∧ IW w3 (.slice b3 nt e3) g3 L.I ∧ b2 ≤ g3 ∧ (0 < L.I.length → g3 < b3')) := by
    obtain ⟨k1, k2, k3, k4, k5, d0, d1, d2, m1, m2, m3, m4, m5, m6⟩ := HZ2.out
    have hsz := hb3.size
    have hlt := hx3.lt
    exact ⟨k1.trans (hb3.mono k1.size), k2.later hb3, k3.later hb3, k4.later hb3, by omega, by omega, by omega, by omega, d2, m1.later hb3, m2, m3, m4.later hb3, m5, m6, hx3, by omega, fun h => by have := hlt h; omega⟩
  clear hx3 hg3 hb3 hb3e HZ2 H3
  have q6 := HX3.out.2.2.1.at 6 _ rfl
  have j6 := HX3.out.2.2.1.fz 6
  have z7 := HX3.out.2.2.2.1.at 7 _ rfl
  have HY3 : Hid (∀ W, W = (w3.setCell ⟨w.heap.size + 1 + 1, 6, none⟩ (.slice b3 nt e3)) → Below w.heap.size w W ∧ Box 35 W (w.heap.size + 1) [.int .i64 0, .int .i64 0, .bool false, .slice none 0 0, .int .i64 0, .slice none 0 0, .slice none 0 0, .slice none 0 0, .int .i64 0, .int .i64 0, .int .i64 0] ∧ Box 35 W (w.heap.size + 1 + 1) [.int .i64 a, .int .i64 k, .bool u, .slice (some ⟨gd, 0, none⟩) nd nd, .int .i64 e, .slice (some ⟨gv, 0, none⟩) nv nv, .slice b3 nt e3, .slice none 0 0, .int .i64 0, .int .i64 0, .int .i64 0] ∧ Box 47 W w.heap.size [.int .i64 a, .int .i64 k, .bool u, .slice ad nd cd, .int .i64 e, .slice av nv cv, .slice at2 nt ct, .slice aa na ca, .int .i64 r0, .int .i64 r1, .int .i64 r2] ∧ w.heap.size + 3 ≤ W.heap.size ∧ b1 ≤ b2 ∧ b2 ≤ b3' ∧ b3' ≤ W.heap.size ∧ w.heap.size + 3 ≤ b1 ∧ RW 3 fcs W (.slice (some ⟨gd, 0, none⟩) nd nd) gd L.F ∧ w.heap.size + 3 ≤ gd ∧ (0 < L.F.length → gd < b1) ∧ XW b1 W gv G L.P ∧ gv < b2 ∧ (∀ b ∈ G, b < b2) ∧ IW W (.slice b3 nt e3) g3 L.I ∧ b2 ≤ g3 ∧ (0 < L.I.length → g3 < b3')) := fun W hW => by
    subst hW
    have hg := (grown_setC w3 (w.heap.size + 1 + 1) 6 (.slice b3 nt e3))
    obtain ⟨k1, k2, k3, k4, k5, d0, d1, d3, d2, m1, m2, m3, m4, m5, m6, m7, m8, m9⟩ := HX3.out
    have hsz := hg.size
    exact ⟨k1.grown hg k1.size (fun k hk => by simp at hk; omega), k2.grown hg (by simp), (k3.set 6 _), k4.grown hg (by simp; omega), by omega, by omega, by omega, by omega, d2, m1.grown hg (fun _ => by simp; omega), m2, m3, m4.kept hg (by omega), m5, m6, m7.grown hg (fun _ => by simp; omega), m8, m9⟩
  go_wp2_with fail
  generalize hW3 : (w3.setCell ⟨w.heap.size + 1 + 1, 6, none⟩ (.slice b3 nt e3)) = W3
  have HZ3 : Hid (Below w.heap.size w W3 ∧ Box 35 W3 (w.heap.size + 1) [.int .i64 0, .int .i64 0, .bool false, .slice none 0 0, .int .i64 0, .slice none 0 0, .slice none 0 0, .slice none 0 0, .int .i64 0, .int .i64 0, .int .i64 0] ∧ Box 35 W3 (w.heap.size + 1 + 1) [.int .i64 a, .int .i64 k, .bool u, .slice (some ⟨gd, 0, none⟩) nd nd, .int .i64 e, .slice (some ⟨gv, 0, none⟩) nv nv, .slice b3 nt e3, .slice none 0 0, .int .i64 0, .int .i64 0, .int .i64 0] ∧ Box 47 W3 w.heap.size [.int .i64 a, .int .i64 k, .bool u, .slice ad nd cd, .int .i64 e, .slice av nv cv, .slice at2 nt ct, .slice aa na ca, .int .i64 r0, .int .i64 r1, .int .i64 r2] ∧ w.heap.size + 3 ≤ W3.heap.size ∧ b1 ≤ b2 ∧ b2 ≤ b3' ∧ b3' ≤ W3.heap.size ∧ w.heap.size + 3 ≤ b1 ∧ RW 3 fcs W3 (.slice (some ⟨gd, 0, none⟩) nd nd) gd L.F ∧ w.heap.size + 3 ≤ gd ∧ (0 < L.F.length → gd < b1) ∧ XW b1 W3 gv G L.P ∧ gv < b2 ∧ (∀ b ∈ G, b < b2) ∧ IW W3 (.slice b3 nt e3) g3 L.I ∧ b2 ≤ g3 ∧ (0 < L.I.length → g3 < b3')) := HY3.out W3 hW3.symm
  clear HY3 hW3 HX3 q6 j6 z7
  refine (H4.out _ HZ3.out.1).mono ?_
  rintro e4 w4 ⟨ga, rfl, hg4, hx4, hl4, hb4⟩
  obtain ⟨b4, hb4e⟩ : ∃ b4, w4.heap.size = b4 := ⟨_, rfl⟩
  have HX4 : Hid (Below w.heap.size w w4 ∧ Box 35 w4 (w.heap.size + 1) [.int .i64 0, .int .i64 0, .bool false, .slice none 0 0, .int .i64 0, .slice none 0 0, .slice none 0 0, .slice none 0 0, .int .i64 0, .int .i64 0, .int .i64 0] ∧ Box 35 w4 (w.heap.size + 1 + 1) [.int .i64 a, .int .i64 k, .bool u, .slice (some ⟨gd, 0, none⟩) nd nd, .int .i64 e, .slice (some ⟨gv, 0, none⟩) nv nv, .slice b3 nt e3, .slice none 0 0, .int .i64 0, .int .i64 0, .int .i64 0] ∧ Box 47 w4 w.heap.size [.int .i64 a, .int .i64 k, .bool u, .slice ad nd cd, .int .i64 e, .slice av nv cv, .slice at2 nt ct, .slice aa na ca, .int .i64 r0, .int .i64 r1, .int .i64 r2] ∧ w.heap.size + 3 ≤ w4.heap.size ∧ b1 ≤ b2 ∧ b2 ≤ b3' ∧ b3' ≤ b4 ∧ b4 ≤ w4.heap.size ∧ w.heap.size + 3 ≤ b1 ∧ RW 3 fcs w4 (.slice (some ⟨gd, 0, none⟩) nd nd) gd L.F ∧ w.heap.size + 3 ≤ gd ∧ (0 < L.F.length → gd < b1) ∧ XW b1 w4 gv G L.P ∧ gv < b2 ∧ (∀ b ∈ G, b < b2) ∧ IW w4 (.slice b3 nt e3) g3 L.I ∧ b2 ≤ g3 ∧ (0 < L.I.length → g3 < b3') ∧ RW 3 ucs w4 (.slice (some ⟨ga, 0, none⟩) na na) ga L.U ∧ b3' ≤ ga ∧ ga < b4) := by
    obtain ⟨k1, k2, k3, k4, k5, d0, d1, d3, d2, m1, m2, m3, m4, m5, m6, m7, m8, m9⟩ := HZ3.out
    have hsz := hb4.size
    exact ⟨k1.trans (hb4.mono k1.size), k2.later hb4, k3.later hb4, k4.later hb4, by omega, by omega, by omega, by omega, by omega, d2, m1.later hb4, m2, m3, m4.later hb4, m5, m6, m7.later hb4, m8, m9, hx4, by omega, by omega⟩
  clear hx4 hg4 hl4 hb4 hb4e HZ3 H4
  have q7 := HX4.out.2.2.1.at 7 _ rfl
  have j7 := HX4.out.2.2.1.fz 7
  have z8 := HX4.out.2.2.2.1.at 8 _ rfl
  have z9 := HX4.out.2.2.2.1.at 9 _ rfl
  have z10 := HX4.out.2.2.2.1.at 10 _ rfl
  have HY4 : Hid (∀ W, W = (w4.setCell ⟨w.heap.size + 1 + 1, 7, none⟩ (.slice (some ⟨ga, 0, none⟩) na na)) → Below w.heap.size w W ∧ Box 35 W (w.heap.size + 1) [.int .i64 0, .int .i64 0, .bool false, .slice none 0 0, .int .i64 0, .slice none 0 0, .slice none 0 0, .slice none 0 0, .int .i64 0, .int .i64 0, .int .i64 0] ∧ Box 35 W (w.heap.size + 1 + 1) [.int .i64 a, .int .i64 k, .bool u, .slice (some ⟨gd, 0, none⟩) nd nd, .int .i64 e, .slice (some ⟨gv, 0, none⟩) nv nv, .slice b3 nt e3, .slice (some ⟨ga, 0, none⟩) na na, .int .i64 0, .int .i64 0, .int .i64 0] ∧ Box 47 W w.heap.size [.int .i64 a, .int .i64 k, .bool u, .slice ad nd cd, .int .i64 e, .slice av nv cv, .slice at2 nt ct, .slice aa na ca, .int .i64 r0, .int .i64 r1, .int .i64 r2] ∧ w.heap.size + 3 ≤ W.heap.size ∧ b1 ≤ b2 ∧ b2 ≤ b3' ∧ b3' ≤ b4 ∧ b4 ≤ W.heap.size ∧ w.heap.size + 3 ≤ b1 ∧ RW 3 fcs W (.slice (some ⟨gd, 0, none⟩) nd nd) gd L.F ∧ w.heap.size + 3 ≤ gd ∧ (0 < L.F.length → gd < b1) ∧ XW b1 W gv G L.P ∧ gv < b2 ∧ (∀ b ∈ G, b < b2) ∧ IW W (.slice b3 nt e3) g3 L.I ∧ b2 ≤ g3 ∧ (0 < L.I.length → g3 < b3') ∧ RW 3 ucs W (.slice (some ⟨ga, 0, none⟩) na na) ga L.U ∧ b3' ≤ ga ∧ ga < b4) := fun W hW => by
    subst hW
    have hg := (grown_setC w4 (w.heap.size + 1 + 1) 7 (.slice (some ⟨ga, 0, none⟩) na na))
    obtain ⟨k1, k2, k3, k4, k5, d0, d1, d3, d4, d2, m1, m2, m3, m4, m5, m6, m7, m8, m9, m10, m11, m12⟩ := HX4.out
    have hsz := hg.size
    exact ⟨k1.grown hg k1.size (fun k hk => by simp at hk; omega), k2.grown hg (by simp), (k3.set 7 _), k4.grown hg (by simp; omega), by omega, by omega, by omega, by omega, by omega, d2, m1.grown hg (fun _ => by simp; omega), m2, m3, m4.kept hg (by omega), m5, m6, m7.grown hg (fun _ => by simp; omega), m8, m9, m10.grown hg (fun _ => by simp; omega), m11, m12⟩
  go_wp2_with fail
  generalize hW4 : (w4.setCell ⟨w.heap.size + 1 + 1, 7, none⟩ (.slice (some ⟨ga, 0, none⟩) na na)) = W4
  have HZ4 : Hid (Below w.heap.size w W4 ∧ Box 35 W4 (w.heap.size + 1) [.int .i64 0, .int .i64 0, .bool false, .slice none 0 0, .int .i64 0, .slice none 0 0, .slice none 0 0, .slice none 0 0, .int .i64 0, .int .i64 0, .int .i64 0] ∧ Box 35 W4 (w.heap.size + 1 + 1) [.int .i64 a, .int .i64 k, .bool u, .slice (some ⟨gd, 0, none⟩) nd nd, .int .i64 e, .slice (some ⟨gv, 0, none⟩) nv nv, .slice b3 nt e3, .slice (some ⟨ga, 0, none⟩) na na, .int .i64 0, .int .i64 0, .int .i64 0] ∧ Box 47 W4 w.heap.size [.int .i64 a, .int .i64 k, .bool u, .slice ad nd cd, .int .i64 e, .slice av nv cv, .slice at2 nt ct, .slice aa na ca, .int .i64 r0, .int .i64 r1, .int .i64 r2] ∧ w.heap.size + 3 ≤ W4.heap.size ∧ b1 ≤ b2 ∧ b2 ≤ b3' ∧ b3' ≤ b4 ∧ b4 ≤ W4.heap.size ∧ w.heap.size + 3 ≤ b1 ∧ RW 3 fcs W4 (.slice (some ⟨gd, 0, none⟩) nd nd) gd L.F ∧ w.heap.size + 3 ≤ gd ∧ (0 < L.F.length → gd < b1) ∧ XW b1 W4 gv G L.P ∧ gv < b2 ∧ (∀ b ∈ G, b < b2) ∧ IW W4 (.slice b3 nt e3) g3 L.I ∧ b2 ≤ g3 ∧ (0 < L.I.length → g3 < b3') ∧ RW 3 ucs W4 (.slice (some ⟨ga, 0, none⟩) na na) ga L.U ∧ b3' ≤ ga ∧ ga < b4) := HY4.out W4 hW4.symm
  clear HY4 hW4 HX4 q7 j7 z8 z9 z10
  refine (H5.out _).mono ?_
  rintro e5 w5 ⟨rfl, hb5⟩
  have HX5 : Hid (Below w.heap.size w w5 ∧ Box 35 w5 (w.heap.size + 1) [.int .i64 0, .int .i64 0, .bool false, .slice none 0 0, .int .i64 0, .slice none 0 0, .slice none 0 0, .slice none 0 0, .int .i64 0, .int .i64 0, .int .i64 0] ∧ Box 35 w5 (w.heap.size + 1 + 1) [.int .i64 a, .int .i64 k, .bool u, .slice (some ⟨gd, 0, none⟩) nd nd, .int .i64 e, .slice (some ⟨gv, 0, none⟩) nv nv, .slice b3 nt e3, .slice (some ⟨ga, 0, none⟩) na na, .int .i64 0, .int .i64 0, .int .i64 0] ∧ Box 47 w5 w.heap.size [.int .i64 a, .int .i64 k, .bool u, .slice ad nd cd, .int .i64 e, .slice av nv cv, .slice at2 nt ct, .slice aa na ca, .int .i64 r0, .int .i64 r1, .int .i64 r2] ∧ w.heap.size + 3 ≤ w5.heap.size ∧ b1 ≤ b2 ∧ b2 ≤ b3' ∧ b3' ≤ b4 ∧ b4 ≤ w5.heap.size ∧ w.heap.size + 3 ≤ b1 ∧ RW 3 fcs w5 (.slice (some ⟨gd, 0, none⟩) nd nd) gd L.F ∧ w.heap.size + 3 ≤ gd ∧ (0 < L.F.length → gd < b1) ∧ XW b1 w5 gv G L.P ∧ gv < b2 ∧ (∀ b ∈ G, b < b2) ∧ IW w5 (.slice b3 nt e3) g3 L.I ∧ b2 ≤ g3 ∧ (0 < L.I.length → g3 < b3') ∧ RW 3 ucs w5 (.slice (some ⟨ga, 0, none⟩) na na) ga L.U ∧ b3' ≤ ga ∧ ga < b4) := by
    obtain ⟨k1, k2, k3, k4, k5, d0, d1, d3, d4, d2, m1, m2, m3, m4, m5, m6, m7, m8, m9, m10, m11, m12⟩ := HZ4.out
    have hsz := hb5.size
    exact ⟨k1.trans (hb5.mono k1.size), k2.later hb5, k3.later hb5, k4.later hb5, by omega, by omega, by omega, by omega, by omega, d2, m1.later hb5, m2, m3, m4.later hb5, m5, m6, m7.later hb5, m8, m9, m10.later hb5, m11, m12⟩
  clear hb5 HZ4 H5
  have q8 := HX5.out.2.2.1.at 8 _ rfl
  have j8 := HX5.out.2.2.1.fz 8
  have q9 := HX5.out.2.2.1.at 9 _ rfl
  have j9 := HX5.out.2.2.1.fz 9
  have q10 := HX5.out.2.2.1.at 10 _ rfl
  have j10 := HX5.out.2.2.1.fz 10
  have HY5 : Hid (∀ W, W = (((w5.setCell ⟨w.heap.size + 1 + 1, 8, none⟩ (.int .i64 r0)).setCell ⟨w.heap.size + 1 + 1, 9, none⟩ (.int .i64 r1)).setCell ⟨w.heap.size + 1 + 1, 10, none⟩ (.int .i64 r2)) → Below w.heap.size w W ∧ Box 35 W (w.heap.size + 1) [.int .i64 0, .int .i64 0, .bool false, .slice none 0 0, .int .i64 0, .slice none 0 0, .slice none 0 0, .slice none 0 0, .int .i64 0, .int .i64 0, .int .i64 0] ∧ Box 35 W (w.heap.size + 1 + 1) [.int .i64 a, .int .i64 k, .bool u, .slice (some ⟨gd, 0, none⟩) nd nd, .int .i64 e, .slice (some ⟨gv, 0, none⟩) nv nv, .slice b3 nt e3, .slice (some ⟨ga, 0, none⟩) na na, .int .i64 r0, .int .i64 r1, .int .i64 r2] ∧ Box 47 W w.heap.size [.int .i64 a, .int .i64 k, .bool u, .slice ad nd cd, .int .i64 e, .slice av nv cv, .slice at2 nt ct, .slice aa na ca, .int .i64 r0, .int .i64 r1, .int .i64 r2] ∧ w.heap.size + 3 ≤ W.heap.size ∧ b1 ≤ b2 ∧ b2 ≤ b3' ∧ b3' ≤ b4 ∧ b4 ≤ W.heap.size ∧ w.heap.size + 3 ≤ b1 ∧ RW 3 fcs W (.slice (some ⟨gd, 0, none⟩) nd nd) gd L.F ∧ w.heap.size + 3 ≤ gd ∧ (0 < L.F.length → gd < b1) ∧ XW b1 W gv G L.P ∧ gv < b2 ∧ (∀ b ∈ G, b < b2) ∧ IW W (.slice b3 nt e3) g3 L.I ∧ b2 ≤ g3 ∧ (0 < L.I.length → g3 < b3') ∧ RW 3 ucs W (.slice (some ⟨ga, 0, none⟩) na na) ga L.U ∧ b3' ≤ ga ∧ ga < b4) := fun W hW => by
    subst hW
    have hg := (((grown_setC w5 (w.heap.size + 1 + 1) 8 (.int .i64 r0)).trans (grown_setC (w5.setCell ⟨w.heap.size + 1 + 1, 8, none⟩ (.int .i64 r0)) (w.heap.size + 1 + 1) 9 (.int .i64 r1))).trans (grown_setC ((w5.setCell ⟨w.heap.size + 1 + 1, 8, none⟩ (.int .i64 r0)).setCell ⟨w.heap.size + 1 + 1, 9, none⟩ (.int .i64 r1)) (w.heap.size + 1 + 1) 10 (.int .i64 r2)))
    obtain ⟨k1, k2, k3, k4, k5, d0, d1, d3, d4, d2, m1, m2, m3, m4, m5, m6, m7, m8, m9, m10, m11, m12⟩ := HX5.out
    have hsz := hg.size
    exact ⟨k1.grown hg k1.size (fun k hk => by simp at hk; omega), k2.grown hg (by simp), (((k3.set 8 _).set 9 _).set 10 _), k4.grown hg (by simp; omega), by omega, by omega, by omega, by omega, by omega, d2, m1.grown hg (fun _ => by simp; omega), m2, m3, m4.kept hg (by omega), m5, m6, m7.grown hg (fun _ => by simp; omega), m8, m9, m10.grown hg (fun _ => by simp; omega), m11, m12⟩
  go_upto_region 11 with fail
  generalize hW5 : (((w5.setCell ⟨w.heap.size + 1 + 1, 8, none⟩ (.int .i64 r0)).setCell ⟨w.heap.size + 1 + 1, 9, none⟩ (.int .i64 r1)).setCell ⟨w.heap.size + 1 + 1, 10, none⟩ (.int .i64 r2)) = W5
  have HZ5 : Hid (Below w.heap.size w W5 ∧ Box 35 W5 (w.heap.size + 1) [.int .i64 0, .int .i64 0, .bool false, .slice none 0 0, .int .i64 0, .slice none 0 0, .slice none 0 0, .slice none 0 0, .int .i64 0, .int .i64 0, .int .i64 0] ∧ Box 35 W5 (w.heap.size + 1 + 1) [.int .i64 a, .int .i64 k, .bool u, .slice (some ⟨gd, 0, none⟩) nd nd, .int .i64 e, .slice (some ⟨gv, 0, none⟩) nv nv, .slice b3 nt e3, .slice (some ⟨ga, 0, none⟩) na na, .int .i64 r0, .int .i64 r1, .int .i64 r2] ∧ Box 47 W5 w.heap.size [.int .i64 a, .int .i64 k, .bool u, .slice ad nd cd, .int .i64 e, .slice av nv cv, .slice at2 nt ct, .slice aa na ca, .int .i64 r0, .int .i64 r1, .int .i64 r2] ∧ w.heap.size + 3 ≤ W5.heap.size ∧ b1 ≤ b2 ∧ b2 ≤ b3' ∧ b3' ≤ b4 ∧ b4 ≤ W5.heap.size ∧ w.heap.size + 3 ≤ b1 ∧ RW 3 fcs W5 (.slice (some ⟨gd, 0, none⟩) nd nd) gd L.F ∧ w.heap.size + 3 ≤ gd ∧ (0 < L.F.length → gd < b1) ∧ XW b1 W5 gv G L.P ∧ gv < b2 ∧ (∀ b ∈ G, b < b2) ∧ IW W5 (.slice b3 nt e3) g3 L.I ∧ b2 ≤ g3 ∧ (0 < L.I.length → g3 < b3') ∧ RW 3 ucs W5 (.slice (some ⟨ga, 0, none⟩) na na) ga L.U ∧ b3' ≤ ga ∧ ga < b4) := HY5.out W5 hW5.symm
  clear HY5 hW5 HX5 q8 j8 q9 j9 q10 j10 
  go_wp2_with (first | (refine wp_loadSrv rfl _ rfl (w.heap.size + 1 + 1) rfl HZ5.out.2.2.1 ?_) | (refine wp_storeSrv rfl _ _ rfl (w.heap.size + 1) _ _ _ _ _ _ _ _ _ _ _ HZ5.out.2.1 rfl rfl ⟨rfl, rfl, rfl, rfl, rfl, rfl, rfl, rfl, rfl, rfl, rfl⟩ ?_; intro hfin) | fail)
  refine ret_srv 2 (w.heap.size + 1) rfl rfl rfl hfin ?_
  rw [← HP.out]
  obtain ⟨k1, k2, k3, k4, k5, d0, d1, d3, d4, d2, m1, m2, m3, m4, m5, m6, m7, m8, m9, m10, m11, m12⟩ := HZ5.out
  have hgr := grown_setRowP W5 (w.heap.size + 1) #[.int .i64 a, .int .i64 k, .bool u, .slice (some ⟨gd, 0, none⟩) nd nd, .int .i64 e, .slice (some ⟨gv, 0, none⟩) nv nv, .slice b3 nt e3, .slice (some ⟨ga, 0, none⟩) na na, .int .i64 r0, .int .i64 r1, .int .i64 r2]
  obtain ⟨n1, n2, n3, n4⟩ := HN.out
  rw [n1, n2, n3, n4]
  have HXX : Hid (∃ B G, XW B _ gv G L.P) := ⟨_, _, m4.kept hgr (by omega)⟩
  have hx := (m4.kept hgr (by omega)).vw (c := nv) n2
  have hgG0 : ∀ j (h : j < L.P.length), b1 ≤ (fun j => G.getD j 0) j ∧ (fun j => G.getD j 0) j < b2 ∧ (fun j => G.getD j 0) j ≠ gv := fun j hj => by
    have hjG : j < G.length := by rw [m4.1]; exact hj
    have e : G.getD j 0 = G[j] := by simp [List.getD, List.getElem?_eq_getElem hjG]
    simp only [e]
    exact ⟨(m4.2.2.2.2.2.1 _ (List.getElem_mem hjG)).1, m6 _ (List.getElem_mem hjG), (m4.2.2.2.2.2.1 _ (List.getElem_mem hjG)).2.2⟩
  generalize (fun j => G.getD j 0) = gf at hx hgG0
  have hgG := hgG0
  have hb1v : b1 ≤ gv := m4.2.2.1
  have hszr := hgr.size
  refine ⟨gd, gv, b3, e3, ga, rfl, ⟨gd, gv, _, _, g3, ga, m1.grown hgr (fun _ => by simp; omega), hx, m7.grown hgr (fun _ => by simp; omega), m10.grown hgr (fun _ => by simp; omega), fun h => by have := m3 h; omega, fun _ => by omega, fun j hj _ => by have := hgG j hj; omega, fun h => by have := m9 h; omega, fun _ => by omega, fun h _ => by have := m3 h; omega, fun h j hj _ => by have := m3 h; have := hgG j hj; omega, fun h h2 => by have := m3 h; have := m9 h2; omega, fun h _ => by have := m3 h; omega, fun _ h => by have := m9 h; omega, fun _ _ => by omega, fun j hj _ h => by have := m9 h; have := hgG j hj; omega, fun j hj _ _ => by have := hgG j hj; omega, fun h _ => by have := m9 h; omega⟩, below_row k1 (by omega), HN3.out, HXX.out⟩

end Go.Proofs.YthlgohplljcgfaaGreatDoor
/-
  The walk of the law FnExactRiseServer: it answers true of every server.
-/
namespace Go.Proofs.YthlgohplljcgfaaGreatDoor
open Go.RowKit Go.BigFrame Go.Sort
set_option linter.unusedVariables false
set_option linter.unusedSimpArgs false

set_option maxRecDepth 100000 in
set_option maxHeartbeats 4000000 in
theorem riseLaw_at (n : Sn) (vd vv vt va : Value) (L : Sr) (n2 : Sn) (L2 : Sr) (w : World) (hZ : IsSv w vd vv vt va L) (hT : Tab w) (hE : Eh w) (hTb : Tb w)
    (HSP : Hid (L.sm → ∀ W gd gv b3 e3 ga, SvS W (.slice (some ⟨gd, 0, none⟩) L.F.length L.F.length) (.slice (some ⟨gv, 0, none⟩) L.P.length L.P.length) (.slice b3 L.I.length e3) (.slice (some ⟨ga, 0, none⟩) L.U.length L.U.length) L → b3 ≠ none → (∃ B G, XW B W gv G L.P) → Calls Tryz.prog 23 #[.agg #[.int .i64 n.a, .int .i64 n.k, .bool n.u, .slice (some ⟨gd, 0, none⟩) L.F.length L.F.length, .int .i64 n.e, .slice (some ⟨gv, 0, none⟩) L.P.length L.P.length, .slice b3 L.I.length e3, .slice (some ⟨ga, 0, none⟩) L.U.length L.U.length, .int .i64 n.r0, .int .i64 n.r1, .int .i64 n.r2]] W (SvA n2 L2 W)))
    (HIM : Hid (L.sm → ∀ W gd gv b3 e3 ga, Tab W → Eh W → Tb W → SvS W (.slice (some ⟨gd, 0, none⟩) L.F.length L.F.length) (.slice (some ⟨gv, 0, none⟩) L.P.length L.P.length) (.slice b3 L.I.length e3) (.slice (some ⟨ga, 0, none⟩) L.U.length L.U.length) L → Calls Tryz.prog 24 #[.agg #[.int .i64 n.a, .int .i64 n.k, .bool n.u, .slice (some ⟨gd, 0, none⟩) L.F.length L.F.length, .int .i64 n.e, .slice (some ⟨gv, 0, none⟩) L.P.length L.P.length, .slice b3 L.I.length e3, .slice (some ⟨ga, 0, none⟩) L.U.length L.U.length, .int .i64 n.r0, .int .i64 n.r1, .int .i64 n.r2]] W (SvA n2 L2 W)))
    (HS2 : Hid (L.sm → L2.sm)) :
    Calls Tryz.prog 5 #[.agg #[.int .i64 n.a, .int .i64 n.k, .bool n.u, vd, .int .i64 n.e, vv, vt, va, .int .i64 n.r0, .int .i64 n.r1, .int .i64 n.r2]] w fun e w' => e = .returned (.bool true) ∧ Below w.heap.size w w' := by
  have hsz := szServer_row n vd vv vt va L 1048576 (w.alloc (.cells #[.int .i64 n.a, .int .i64 n.k, .bool n.u, vd, .int .i64 n.e, vv, vt, va, .int .i64 n.r0, .int .i64 n.r1, .int .i64 n.r2] 47)) (hZ.later (below_alloc _ _)) (by omega) (by omega)
  have HTO : Hid (∀ w1, SvS w1 vd vv vt va L → ∀ W, Below w1.heap.size w1 W → Calls Tryz.prog 18 #[.agg #[.int .i64 n.a, .int .i64 n.k, .bool n.u, vd, .int .i64 n.e, vv, vt, va, .int .i64 n.r0, .int .i64 n.r1, .int .i64 n.r2]] W (ToSv n L W)) := fun w1 h W hW => toServer_any n vd vv vt va L W (h.later hW)
  unfold ToSv at HTO
  have HTX : Hid (∀ w1, SvS w1 vd vv vt va L → ∀ W, Below w1.heap.size w1 W → Calls Tryz.prog 18 #[.agg #[.int .i64 n.a, .int .i64 n.k, .bool n.u, vd, .int .i64 n.e, vv, vt, va, .int .i64 n.r0, .int .i64 n.r1, .int .i64 n.r2]] W (ToSvX n L W)) := fun w1 h W hW => toServer_x n vd vv vt va L W (h.later hW)
  unfold ToSvX at HTX
  have HSH : Hid (∀ w1, SvS w1 vd vv vt va L → (∃ a c, vd = .slice a L.F.length c) ∧ (∃ a c, vv = .slice a L.P.length c) ∧ (∃ a c, vt = .slice a L.I.length c) ∧ ∃ a c, va = .slice a L.U.length c) := fun w1 h => h.shapes
  have HEQ : Hid (∀ W gd gv b3 e3 ga ud uv ut ua, SvS W (.slice (some ⟨gd, 0, none⟩) L.F.length L.F.length) (.slice (some ⟨gv, 0, none⟩) L.P.length L.P.length) (.slice b3 L.I.length e3) (.slice (some ⟨ga, 0, none⟩) L.U.length L.U.length) L → SvS W ud uv ut ua L → Calls Tryz.prog 11 #[.agg #[.int .i64 n.a, .int .i64 n.k, .bool n.u, .slice (some ⟨gd, 0, none⟩) L.F.length L.F.length, .int .i64 n.e, .slice (some ⟨gv, 0, none⟩) L.P.length L.P.length, .slice b3 L.I.length e3, .slice (some ⟨ga, 0, none⟩) L.U.length L.U.length, .int .i64 n.r0, .int .i64 n.r1, .int .i64 n.r2], .agg #[.int .i64 n.a, .int .i64 n.k, .bool n.u, ud, .int .i64 n.e, uv, ut, ua, .int .i64 n.r0, .int .i64 n.r1, .int .i64 n.r2]] W fun e w' => e = .returned (.bool true) ∧ Below W.heap.size W w') := fun W gd gv b3 e3 ga ud uv ut ua h k => eqServer_yes n _ _ _ _ ud uv ut ua L W h k
  have HMK : Hid (L.sm → ∀ lo hi W gd gv b3 e3 ga, SvD lo hi W (.slice (some ⟨gd, 0, none⟩) L.F.length L.F.length) (.slice (some ⟨gv, 0, none⟩) L.P.length L.P.length) (.slice b3 L.I.length e3) (.slice (some ⟨ga, 0, none⟩) L.U.length L.U.length) L → hi ≤ W.heap.size → Calls Tryz.prog 14 #[.agg #[.int .i64 n.a, .int .i64 n.k, .bool n.u, .slice (some ⟨gd, 0, none⟩) L.F.length L.F.length, .int .i64 n.e, .slice (some ⟨gv, 0, none⟩) L.P.length L.P.length, .slice b3 L.I.length e3, .slice (some ⟨ga, 0, none⟩) L.U.length L.U.length, .int .i64 n.r0, .int .i64 n.r1, .int .i64 n.r2], .int .i64 1] W fun e w' => ∃ K : Nat, e = .returned (.int .i64 (K : Int)) ∧ K ≤ 9500000 ∧ InG lo hi W w') := fun hs lo hi W gd gv b3 e3 ga h hh => (markServer_own n _ _ _ _ L lo hi W h hs hh).mono fun e w' ⟨K, he, _, hi2, hk⟩ => by
    obtain ⟨m, rfl, hm⟩ := hk.le hs
    exact ⟨m, he, hm, hi2⟩
  have HX : Hid (Below w.heap.size w (w.alloc (.cells #[.int .i64 n.a, .int .i64 n.k, .bool n.u, vd, .int .i64 n.e, vv, vt, va, .int .i64 n.r0, .int .i64 n.r1, .int .i64 n.r2] 47)) ∧ Box 47 (w.alloc (.cells #[.int .i64 n.a, .int .i64 n.k, .bool n.u, vd, .int .i64 n.e, vv, vt, va, .int .i64 n.r0, .int .i64 n.r1, .int .i64 n.r2] 47)) w.heap.size [.int .i64 n.a, .int .i64 n.k, .bool n.u, vd, .int .i64 n.e, vv, vt, va, .int .i64 n.r0, .int .i64 n.r1, .int .i64 n.r2]) := ⟨below_alloc _ _, Box.new _ _ _⟩
  have hsh0 : (∃ a m c, vd = .slice a m c) ∧ (∃ a m c, vv = .slice a m c) ∧ (∃ a m c, vt = .slice a m c) ∧ ∃ a m c, va = .slice a m c := by
    obtain ⟨⟨_, _, a1, m1, c1, e1, _⟩, ⟨_, _, _, ⟨a2, m2, c2, e2, _⟩, _⟩, ⟨_, _, a3, m3, c3, e3, _⟩, ⟨_, _, a4, m4, c4, e4, _⟩⟩ := hZ
    exact ⟨⟨a1, m1, c1, e1⟩, ⟨a2, m2, c2, e2⟩, ⟨a3, m3, c3, e3⟩, a4, m4, c4, e4⟩
  obtain ⟨⟨xd, md, xe, rfl⟩, ⟨xv, mv, xw, rfl⟩, ⟨xt, mt, xu, rfl⟩, ⟨xa, ma, xb, rfl⟩⟩ := hsh0
  have HTE : Hid (∀ W, Below w.heap.size w W → Tab W ∧ Eh W ∧ Tb W) := fun W hW => ⟨hT.later hW hT.pos, hE.later hW, hTb.later hW⟩
  clear hZ hT hE hTb
  go_enter Tryz.func5, Tryz.ntmps5
  go_wp2_with fail
  refine hsz.mono ?_
  rintro e_ w1 ⟨A, rfl, hb1, hA1, hA2⟩
  have HX1 : Hid (Below w.heap.size w w1 ∧ Box 47 w1 w.heap.size [.int .i64 n.a, .int .i64 n.k, .bool n.u, .slice xd md xe, .int .i64 n.e, .slice xv mv xw, .slice xt mt xu, .slice xa ma xb, .int .i64 n.r0, .int .i64 n.r1, .int .i64 n.r2] ∧ w.heap.size < w1.heap.size) := ⟨HX.out.1.trans (hb1.mono HX.out.1.size), HX.out.2.later hb1, (HX.out.2.later hb1).lt⟩
  clear HX hsz hb1
  by_cases hneg : A < 0
  · clear HTO HTX HSH HEQ HMK HTE HSP HIM HS2 
    go_wp2
    go_ret
    exact ⟨rfl, HX1.out.1⟩
  obtain ⟨hsv, hsm⟩ := hA2 (by omega)
  have HT : Hid (∀ W, Below w1.heap.size w1 W → _) := HTO.out w1 hsv
  have HTX1 : Hid (∀ W, Below w1.heap.size w1 W → _) := HTX.out w1 hsv
  obtain ⟨⟨_, _, f1⟩, ⟨_, _, f2⟩, ⟨_, _, f3⟩, ⟨_, _, f4⟩⟩ := HSH.out w1 hsv
  simp only [Value.slice.injEq] at f1 f2 f3 f4
  have hl1 : L.F.length = md := f1.2.1.symm
  have hl2 : L.P.length = mv := f2.2.1.symm
  have hl3 : L.I.length = mt := f3.2.1.symm
  have hl4 : L.U.length = ma := f4.2.1.symm
  have HSP' := HSP.out hsm
  have HIM' := HIM.out hsm
  have HM' := HMK.out hsm
  have hsm2 := HS2.out hsm
  unfold SvA at HSP' HIM'
  have HE2 : Hid (∀ W adx cdx avx cvx atx ctx aax cax ady cdy avy cvy aty cty aay cay, SvS W (.slice adx L2.F.length cdx) (.slice avx L2.P.length cvx) (.slice atx L2.I.length ctx) (.slice aax L2.U.length cax) L2 → SvS W (.slice ady L2.F.length cdy) (.slice avy L2.P.length cvy) (.slice aty L2.I.length cty) (.slice aay L2.U.length cay) L2 → Calls Tryz.prog 11 #[.agg #[.int .i64 n2.a, .int .i64 n2.k, .bool n2.u, .slice adx L2.F.length cdx, .int .i64 n2.e, .slice avx L2.P.length cvx, .slice atx L2.I.length ctx, .slice aax L2.U.length cax, .int .i64 n2.r0, .int .i64 n2.r1, .int .i64 n2.r2], .agg #[.int .i64 n2.a, .int .i64 n2.k, .bool n2.u, .slice ady L2.F.length cdy, .int .i64 n2.e, .slice avy L2.P.length cvy, .slice aty L2.I.length cty, .slice aay L2.U.length cay, .int .i64 n2.r0, .int .i64 n2.r1, .int .i64 n2.r2]] W fun e w' => e = .returned (.bool true) ∧ Below W.heap.size W w') := fun W adx cdx avx cvx atx ctx aax cax ady cdy avy cvy aty cty aay cay h k' => eqServer_yes n2 _ _ _ _ _ _ _ _ L2 W h k'
  have HM2 : Hid (∀ W lo hi adx cdx avx cvx atx ctx aax cax, SvD lo hi W (.slice adx L2.F.length cdx) (.slice avx L2.P.length cvx) (.slice atx L2.I.length ctx) (.slice aax L2.U.length cax) L2 → hi ≤ W.heap.size → Calls Tryz.prog 14 #[.agg #[.int .i64 n2.a, .int .i64 n2.k, .bool n2.u, .slice adx L2.F.length cdx, .int .i64 n2.e, .slice avx L2.P.length cvx, .slice atx L2.I.length ctx, .slice aax L2.U.length cax, .int .i64 n2.r0, .int .i64 n2.r1, .int .i64 n2.r2], .int .i64 1] W fun e w' => ∃ K : Int, e = .returned (.int .i64 K) ∧ 0 ≤ K ∧ InG lo hi W w' ∧ SvK w' (.slice adx L2.F.length cdx) (.slice avx L2.P.length cvx) (.slice atx L2.I.length ctx) (.slice aax L2.U.length cax) L2 K) := fun W lo hi adx cdx avx cvx atx ctx aax cax h hh => markServer_own n2 _ _ _ _ L2 lo hi W h hsm2 hh
  have HH2 : Hid (∀ W K adx cdx avx cvx atx ctx aax cax, SvK W (.slice adx L2.F.length cdx) (.slice avx L2.P.length cvx) (.slice atx L2.I.length ctx) (.slice aax L2.U.length cax) L2 K → Calls Tryz.prog 15 #[.agg #[.int .i64 n2.a, .int .i64 n2.k, .bool n2.u, .slice adx L2.F.length cdx, .int .i64 n2.e, .slice avx L2.P.length cvx, .slice atx L2.I.length ctx, .slice aax L2.U.length cax, .int .i64 n2.r0, .int .i64 n2.r1, .int .i64 n2.r2], .int .i64 1] W fun e w' => e = .returned (.int .i64 K) ∧ Below W.heap.size W w') := fun W K adx cdx avx cvx atx ctx aax cax h => heldServer_own n2 _ _ _ _ L2 K W h hsm2
  have HSPh : Hid _ := HSP'
  have HIMh : Hid _ := HIM'
  have HMh : Hid _ := HM'
  clear HSP HIM HMK HS2 HTO HTX HSH hA2 f1 f2 f3 f4 hsv hsm hsm2 HSP' HIM' HM'
  rw [hl1, hl2, hl3, hl4] at HSPh HIMh HMh HEQ
  rw [hl1, hl2, hl3, hl4] at HT HTX1
  clear hl1 hl2 hl3 hl4
  generalize L2.F.length = kd at *
  generalize L2.P.length = kv at *
  generalize L2.I.length = kt at *
  generalize L2.U.length = ka at *
  obtain ⟨y0, y1, y2, y3, y4, y5, y6, y7, y8, y9, y10⟩ := HX1.out.2.1.all11
  -- the specification's answer
  go_wp2_with fail
  refine (HTX1.out _ (Below.refl _ _)).mono ?_
  rintro e_ w2 ⟨gd2, gv2, b32, e32, ga2, rfl, hm2, hb2, hn2, hx2⟩
  have HX2 : Hid (Below w.heap.size w w2 ∧ Below w1.heap.size w1 w2 ∧ Box 47 w2 w.heap.size [.int .i64 n.a, .int .i64 n.k, .bool n.u, .slice xd md xe, .int .i64 n.e, .slice xv mv xw, .slice xt mt xu, .slice xa ma xb, .int .i64 n.r0, .int .i64 n.r1, .int .i64 n.r2] ∧ SvS w2 (.slice (some ⟨gd2, 0, none⟩) md md) (.slice (some ⟨gv2, 0, none⟩) mv mv) (.slice b32 mt e32) (.slice (some ⟨ga2, 0, none⟩) ma ma) L ∧ b32 ≠ none ∧ ∃ B G, XW B w2 gv2 G L.P) := ⟨HX1.out.1.trans (hb2.mono HX1.out.1.size), hb2, HX1.out.2.1.later hb2, hm2.svs, hn2, hx2⟩
  have HWW : Hid (w.heap.size < w1.heap.size) := HX1.out.2.2
  clear hm2 hb2 hn2 hx2 HTX1 HX1 y0 y1 y2 y3 y4 y5 y6 y7 y8 y9 y10
  go_wp2_with fail
  refine (HSPh.out w2 _ _ _ _ _ HX2.out.2.2.2.1 HX2.out.2.2.2.2.1 HX2.out.2.2.2.2.2).mono ?_
  rintro e_ w3 ⟨ad3, cd3, av3, cv3, at3, ct3, aa3, ca3, rfl, hd3, hb3⟩
  have HX3 : Hid (FwS w w1 (w3.alloc (.cells #[.int .i64 n2.a, .int .i64 n2.k, .bool n2.u, .slice ad3 kd cd3, .int .i64 n2.e, .slice av3 kv cv3, .slice at3 kt ct3, .slice aa3 ka ca3, .int .i64 n2.r0, .int .i64 n2.r1, .int .i64 n2.r2] 35)) [.int .i64 n.a, .int .i64 n.k, .bool n.u, .slice xd md xe, .int .i64 n.e, .slice xv mv xw, .slice xt mt xu, .slice xa ma xb, .int .i64 n.r0, .int .i64 n.r1, .int .i64 n.r2] w3.heap.size [.int .i64 n2.a, .int .i64 n2.k, .bool n2.u, .slice ad3 kd cd3, .int .i64 n2.e, .slice av3 kv cv3, .slice at3 kt ct3, .slice aa3 ka ca3, .int .i64 n2.r0, .int .i64 n2.r1, .int .i64 n2.r2] w2.heap.size w3.heap.size (.slice ad3 kd cd3) (.slice av3 kv cv3) (.slice at3 kt ct3) (.slice aa3 ka ca3) L2 ∧ w1.heap.size ≤ w3.heap.size) := by
    have k1 := HX2.out.1
    have k2 := HX2.out.2.1
    have j2 := k1.trans (hb3.mono k1.size)
    have j3 := k2.trans (hb3.mono k2.size)
    exact ⟨⟨j2.alloc j2.size _, j3.alloc j3.size _, (HX2.out.2.2.1.later hb3).later (below_alloc _ _), Box.new _ _ _, hd3.later (below_alloc _ _)⟩, j3.size⟩
  clear hd3 hb3 HX2 HSPh
  obtain ⟨y0, y1, y2, y3, y4, y5, y6, y7, y8, y9, y10⟩ := HX3.out.1.2.2.1.all11
  -- the arguments, and the program's answer
  go_wp2_with fail
  refine (HT.out _ HX3.out.1.2.1).mono ?_
  rintro e_ w4 ⟨gd4, gv4, b34, e34, ga4, rfl, hm4, hb4⟩
  have hs4 : w3.heap.size + 1 ≤ w4.heap.size := by have := hb4.size; simpa using this
  have HX4 : Hid (FwS w w1 (w4.alloc (.cells #[.int .i64 n.a, .int .i64 n.k, .bool n.u, .slice (some ⟨gd4, 0, none⟩) md md, .int .i64 n.e, .slice (some ⟨gv4, 0, none⟩) mv mv, .slice b34 mt e34, .slice (some ⟨ga4, 0, none⟩) ma ma, .int .i64 n.r0, .int .i64 n.r1, .int .i64 n.r2] 35)) [.int .i64 n.a, .int .i64 n.k, .bool n.u, .slice xd md xe, .int .i64 n.e, .slice xv mv xw, .slice xt mt xu, .slice xa ma xb, .int .i64 n.r0, .int .i64 n.r1, .int .i64 n.r2] w3.heap.size [.int .i64 n2.a, .int .i64 n2.k, .bool n2.u, .slice ad3 kd cd3, .int .i64 n2.e, .slice av3 kv cv3, .slice at3 kt ct3, .slice aa3 ka ca3, .int .i64 n2.r0, .int .i64 n2.r1, .int .i64 n2.r2] w2.heap.size w3.heap.size (.slice ad3 kd cd3) (.slice av3 kv cv3) (.slice at3 kt ct3) (.slice aa3 ka ca3) L2 ∧ Box 35 (w4.alloc (.cells #[.int .i64 n.a, .int .i64 n.k, .bool n.u, .slice (some ⟨gd4, 0, none⟩) md md, .int .i64 n.e, .slice (some ⟨gv4, 0, none⟩) mv mv, .slice b34 mt e34, .slice (some ⟨ga4, 0, none⟩) ma ma, .int .i64 n.r0, .int .i64 n.r1, .int .i64 n.r2] 35)) w4.heap.size [.int .i64 n.a, .int .i64 n.k, .bool n.u, .slice (some ⟨gd4, 0, none⟩) md md, .int .i64 n.e, .slice (some ⟨gv4, 0, none⟩) mv mv, .slice b34 mt e34, .slice (some ⟨ga4, 0, none⟩) ma ma, .int .i64 n.r0, .int .i64 n.r1, .int .i64 n.r2] ∧ SvD (w3.heap.size + 1) w4.heap.size (w4.alloc (.cells #[.int .i64 n.a, .int .i64 n.k, .bool n.u, .slice (some ⟨gd4, 0, none⟩) md md, .int .i64 n.e, .slice (some ⟨gv4, 0, none⟩) mv mv, .slice b34 mt e34, .slice (some ⟨ga4, 0, none⟩) ma ma, .int .i64 n.r0, .int .i64 n.r1, .int .i64 n.r2] 35)) (.slice (some ⟨gd4, 0, none⟩) md md) (.slice (some ⟨gv4, 0, none⟩) mv mv) (.slice b34 mt e34) (.slice (some ⟨ga4, 0, none⟩) ma ma) L) := ⟨(HX3.out.1.later hb4).later (below_alloc _ _), Box.new _ _ _, (hm4.wide (by simp) (Nat.le_refl _)).later (below_alloc _ _)⟩
  have HW4 : Hid (w1.heap.size ≤ w3.heap.size ∧ w3.heap.size + 1 ≤ w4.heap.size) := ⟨HX3.out.2, hs4⟩
  clear hm4 hb4 hs4 HX3 y0 y1 y2 y3 y4 y5 y6 y7 y8 y9 y10
  have HX5 := HX4
  clear HX4
  obtain ⟨z0, z1, z2, z3, z4, z5, z6, z7, z8, z9, z10⟩ := HX5.out.2.1.all11
  obtain ⟨t1, t2, t3⟩ := HTE.out _ HX5.out.1.1
  go_wp2_with fail
  refine (HIMh.out _ _ _ _ _ _ t1 t2 t3 HX5.out.2.2.svs).mono ?_
  rintro e_ w6 ⟨ad6, cd6, av6, cv6, at6, ct6, aa6, ca6, rfl, hd6, hb6⟩
  have hs6 : (w4.heap.size + 1) ≤ w6.heap.size := by have := hb6.size; simpa using this
  have HX6 : Hid (FwS w w1 (w6.alloc (.cells #[.int .i64 n2.a, .int .i64 n2.k, .bool n2.u, .slice ad6 kd cd6, .int .i64 n2.e, .slice av6 kv cv6, .slice at6 kt ct6, .slice aa6 ka ca6, .int .i64 n2.r0, .int .i64 n2.r1, .int .i64 n2.r2] 35)) [.int .i64 n.a, .int .i64 n.k, .bool n.u, .slice xd md xe, .int .i64 n.e, .slice xv mv xw, .slice xt mt xu, .slice xa ma xb, .int .i64 n.r0, .int .i64 n.r1, .int .i64 n.r2] w3.heap.size [.int .i64 n2.a, .int .i64 n2.k, .bool n2.u, .slice ad3 kd cd3, .int .i64 n2.e, .slice av3 kv cv3, .slice at3 kt ct3, .slice aa3 ka ca3, .int .i64 n2.r0, .int .i64 n2.r1, .int .i64 n2.r2] w2.heap.size w3.heap.size (.slice ad3 kd cd3) (.slice av3 kv cv3) (.slice at3 kt ct3) (.slice aa3 ka ca3) L2 ∧ Box 35 (w6.alloc (.cells #[.int .i64 n2.a, .int .i64 n2.k, .bool n2.u, .slice ad6 kd cd6, .int .i64 n2.e, .slice av6 kv cv6, .slice at6 kt ct6, .slice aa6 ka ca6, .int .i64 n2.r0, .int .i64 n2.r1, .int .i64 n2.r2] 35)) w4.heap.size [.int .i64 n.a, .int .i64 n.k, .bool n.u, .slice (some ⟨gd4, 0, none⟩) md md, .int .i64 n.e, .slice (some ⟨gv4, 0, none⟩) mv mv, .slice b34 mt e34, .slice (some ⟨ga4, 0, none⟩) ma ma, .int .i64 n.r0, .int .i64 n.r1, .int .i64 n.r2] ∧ SvD (w3.heap.size + 1) w4.heap.size (w6.alloc (.cells #[.int .i64 n2.a, .int .i64 n2.k, .bool n2.u, .slice ad6 kd cd6, .int .i64 n2.e, .slice av6 kv cv6, .slice at6 kt ct6, .slice aa6 ka ca6, .int .i64 n2.r0, .int .i64 n2.r1, .int .i64 n2.r2] 35)) (.slice (some ⟨gd4, 0, none⟩) md md) (.slice (some ⟨gv4, 0, none⟩) mv mv) (.slice b34 mt e34) (.slice (some ⟨ga4, 0, none⟩) ma ma) L  ∧ Box 35 (w6.alloc (.cells #[.int .i64 n2.a, .int .i64 n2.k, .bool n2.u, .slice ad6 kd cd6, .int .i64 n2.e, .slice av6 kv cv6, .slice at6 kt ct6, .slice aa6 ka ca6, .int .i64 n2.r0, .int .i64 n2.r1, .int .i64 n2.r2] 35)) w6.heap.size [.int .i64 n2.a, .int .i64 n2.k, .bool n2.u, .slice ad6 kd cd6, .int .i64 n2.e, .slice av6 kv cv6, .slice at6 kt ct6, .slice aa6 ka ca6, .int .i64 n2.r0, .int .i64 n2.r1, .int .i64 n2.r2] ∧ SvD (w4.heap.size + 1) w6.heap.size (w6.alloc (.cells #[.int .i64 n2.a, .int .i64 n2.k, .bool n2.u, .slice ad6 kd cd6, .int .i64 n2.e, .slice av6 kv cv6, .slice at6 kt ct6, .slice aa6 ka ca6, .int .i64 n2.r0, .int .i64 n2.r1, .int .i64 n2.r2] 35)) (.slice ad6 kd cd6) (.slice av6 kv cv6) (.slice at6 kt ct6) (.slice aa6 ka ca6) L2) := ⟨(HX5.out.1.later hb6).later (below_alloc _ _), (HX5.out.2.1.later hb6).later (below_alloc _ _), (HX5.out.2.2.later hb6).later (below_alloc _ _), Box.new _ _ _, (hd6.wide (by simp) (Nat.le_refl _)).later (below_alloc _ _)⟩
  have HW6 : Hid ((w4.heap.size + 1) ≤ w6.heap.size ∧ w6.heap.size < (w6.alloc (.cells #[.int .i64 n2.a, .int .i64 n2.k, .bool n2.u, .slice ad6 kd cd6, .int .i64 n2.e, .slice av6 kv cv6, .slice at6 kt ct6, .slice aa6 ka ca6, .int .i64 n2.r0, .int .i64 n2.r1, .int .i64 n2.r2] 35)).heap.size) := ⟨hs6, by simp⟩
  clear hd6 hb6 hs6 t1 t2 t3 HX5 z0 z1 z2 z3 z4 z5 z6 z7 z8 z9 z10
  obtain ⟨z0, z1, z2, z3, z4, z5, z6, z7, z8, z9, z10⟩ := HX6.out.2.2.2.1.all11
  obtain ⟨y0, y1, y2, y3, y4, y5, y6, y7, y8, y9, y10⟩ := HX6.out.1.2.2.2.1.all11
  go_wp2_with fail
  refine (HE2.out _ _ _ _ _ _ _ _ _ _ _ _ _ _ _ _ _ HX6.out.2.2.2.2.svs HX6.out.1.2.2.2.2.svs).mono ?_
  rintro e_ w7 ⟨rfl, hb7⟩
  have HX7 : Hid (FwS w w1 w7 [.int .i64 n.a, .int .i64 n.k, .bool n.u, .slice xd md xe, .int .i64 n.e, .slice xv mv xw, .slice xt mt xu, .slice xa ma xb, .int .i64 n.r0, .int .i64 n.r1, .int .i64 n.r2] w3.heap.size [.int .i64 n2.a, .int .i64 n2.k, .bool n2.u, .slice ad3 kd cd3, .int .i64 n2.e, .slice av3 kv cv3, .slice at3 kt ct3, .slice aa3 ka ca3, .int .i64 n2.r0, .int .i64 n2.r1, .int .i64 n2.r2] w2.heap.size w3.heap.size (.slice ad3 kd cd3) (.slice av3 kv cv3) (.slice at3 kt ct3) (.slice aa3 ka ca3) L2 ∧ Box 35 w7 w4.heap.size [.int .i64 n.a, .int .i64 n.k, .bool n.u, .slice (some ⟨gd4, 0, none⟩) md md, .int .i64 n.e, .slice (some ⟨gv4, 0, none⟩) mv mv, .slice b34 mt e34, .slice (some ⟨ga4, 0, none⟩) ma ma, .int .i64 n.r0, .int .i64 n.r1, .int .i64 n.r2] ∧ SvD (w3.heap.size + 1) w4.heap.size w7 (.slice (some ⟨gd4, 0, none⟩) md md) (.slice (some ⟨gv4, 0, none⟩) mv mv) (.slice b34 mt e34) (.slice (some ⟨ga4, 0, none⟩) ma ma) L  ∧ Box 35 w7 w6.heap.size [.int .i64 n2.a, .int .i64 n2.k, .bool n2.u, .slice ad6 kd cd6, .int .i64 n2.e, .slice av6 kv cv6, .slice at6 kt ct6, .slice aa6 ka ca6, .int .i64 n2.r0, .int .i64 n2.r1, .int .i64 n2.r2] ∧ SvD (w4.heap.size + 1) w6.heap.size w7 (.slice ad6 kd cd6) (.slice av6 kv cv6) (.slice at6 kt ct6) (.slice aa6 ka ca6) L2 ∧ w6.heap.size < w7.heap.size) := by
    obtain ⟨k1, k2, k3, k4, k5⟩ := HX6.out
    exact ⟨k1.later hb7, k2.later hb7, k3.later hb7, k4.later hb7, k5.later hb7, by have := hb7.size; have := HW6.out.2; omega⟩
  clear hb7 HX6 z0 z1 z2 z3 z4 z5 z6 z7 z8 z9 z10 y0 y1 y2 y3 y4 y5 y6 y7 y8 y9 y10
  have HC : Hid (∀ W, Below w7.heap.size w7 W → (W.cell? ⟨w4.heap.size, 0, none⟩ = some (.int .i64 n.a) ∧ W.cell? ⟨w4.heap.size, 1, none⟩ = some (.int .i64 n.k) ∧ W.cell? ⟨w4.heap.size, 2, none⟩ = some (.bool n.u) ∧ W.cell? ⟨w4.heap.size, 3, none⟩ = some (.slice (some ⟨gd4, 0, none⟩) md md) ∧ W.cell? ⟨w4.heap.size, 4, none⟩ = some (.int .i64 n.e) ∧ W.cell? ⟨w4.heap.size, 5, none⟩ = some (.slice (some ⟨gv4, 0, none⟩) mv mv) ∧ W.cell? ⟨w4.heap.size, 6, none⟩ = some (.slice b34 mt e34) ∧ W.cell? ⟨w4.heap.size, 7, none⟩ = some (.slice (some ⟨ga4, 0, none⟩) ma ma) ∧ W.cell? ⟨w4.heap.size, 8, none⟩ = some (.int .i64 n.r0) ∧ W.cell? ⟨w4.heap.size, 9, none⟩ = some (.int .i64 n.r1) ∧ W.cell? ⟨w4.heap.size, 10, none⟩ = some (.int .i64 n.r2)) ∧ W.cell? ⟨w.heap.size, 0, none⟩ = some (.int .i64 n.a) ∧ W.cell? ⟨w.heap.size, 1, none⟩ = some (.int .i64 n.k) ∧ W.cell? ⟨w.heap.size, 2, none⟩ = some (.bool n.u) ∧ W.cell? ⟨w.heap.size, 3, none⟩ = some (.slice xd md xe) ∧ W.cell? ⟨w.heap.size, 4, none⟩ = some (.int .i64 n.e) ∧ W.cell? ⟨w.heap.size, 5, none⟩ = some (.slice xv mv xw) ∧ W.cell? ⟨w.heap.size, 6, none⟩ = some (.slice xt mt xu) ∧ W.cell? ⟨w.heap.size, 7, none⟩ = some (.slice xa ma xb) ∧ W.cell? ⟨w.heap.size, 8, none⟩ = some (.int .i64 n.r0) ∧ W.cell? ⟨w.heap.size, 9, none⟩ = some (.int .i64 n.r1) ∧ W.cell? ⟨w.heap.size, 10, none⟩ = some (.int .i64 n.r2)) := fun W hW => ⟨(HX7.out.2.1.later hW).all11, (HX7.out.1.2.2.1.later hW).all11⟩
  have HT7 : Hid (∀ W, Below w7.heap.size w7 W → Calls Tryz.prog 18 #[.agg #[.int .i64 n.a, .int .i64 n.k, .bool n.u, .slice xd md xe, .int .i64 n.e, .slice xv mv xw, .slice xt mt xu, .slice xa ma xb, .int .i64 n.r0, .int .i64 n.r1, .int .i64 n.r2]] W fun e_ w' => ∃ gd gv b3 e3 ga, e_ = .returned (.agg #[.int .i64 n.a, .int .i64 n.k, .bool n.u, .slice (some ⟨gd, 0, none⟩) md md, .int .i64 n.e, .slice (some ⟨gv, 0, none⟩) mv mv, .slice b3 mt e3, .slice (some ⟨ga, 0, none⟩) ma ma, .int .i64 n.r0, .int .i64 n.r1, .int .i64 n.r2]) ∧ SvD W.heap.size w'.heap.size w' (.slice (some ⟨gd, 0, none⟩) md md) (.slice (some ⟨gv, 0, none⟩) mv mv) (.slice b3 mt e3) (.slice (some ⟨ga, 0, none⟩) ma ma) L ∧ Below W.heap.size W w') := fun W hW => HT.out W (HX7.out.1.2.1.trans (hW.mono HX7.out.1.2.1.size))
  have HE7 : Hid (∀ W ud uv ut ua, Below w7.heap.size w7 W → SvS W ud uv ut ua L → Calls Tryz.prog 11 #[.agg #[.int .i64 n.a, .int .i64 n.k, .bool n.u, .slice (some ⟨gd4, 0, none⟩) md md, .int .i64 n.e, .slice (some ⟨gv4, 0, none⟩) mv mv, .slice b34 mt e34, .slice (some ⟨ga4, 0, none⟩) ma ma, .int .i64 n.r0, .int .i64 n.r1, .int .i64 n.r2], .agg #[.int .i64 n.a, .int .i64 n.k, .bool n.u, ud, .int .i64 n.e, uv, ut, ua, .int .i64 n.r0, .int .i64 n.r1, .int .i64 n.r2]] W fun e w' => e = .returned (.bool true) ∧ Below W.heap.size W w') := fun W ud uv ut ua hW hu => HEQ.out W _ _ _ _ _ ud uv ut ua (HX7.out.2.2.1.later hW).svs hu
  have hb0 : Below w7.heap.size w7 w7.drew := (Below.refl _ _).drew
  clear HEQ
  go_wp2
  go_region_held3 (fun W => (W.cell? ⟨w4.heap.size, 0, none⟩ = some (.int .i64 n.a) ∧ W.cell? ⟨w4.heap.size, 1, none⟩ = some (.int .i64 n.k) ∧ W.cell? ⟨w4.heap.size, 2, none⟩ = some (.bool n.u) ∧ W.cell? ⟨w4.heap.size, 3, none⟩ = some (.slice (some ⟨gd4, 0, none⟩) md md) ∧ W.cell? ⟨w4.heap.size, 4, none⟩ = some (.int .i64 n.e) ∧ W.cell? ⟨w4.heap.size, 5, none⟩ = some (.slice (some ⟨gv4, 0, none⟩) mv mv) ∧ W.cell? ⟨w4.heap.size, 6, none⟩ = some (.slice b34 mt e34) ∧ W.cell? ⟨w4.heap.size, 7, none⟩ = some (.slice (some ⟨ga4, 0, none⟩) ma ma) ∧ W.cell? ⟨w4.heap.size, 8, none⟩ = some (.int .i64 n.r0) ∧ W.cell? ⟨w4.heap.size, 9, none⟩ = some (.int .i64 n.r1) ∧ W.cell? ⟨w4.heap.size, 10, none⟩ = some (.int .i64 n.r2)) ∧ W.cell? ⟨w.heap.size, 0, none⟩ = some (.int .i64 n.a) ∧ W.cell? ⟨w.heap.size, 1, none⟩ = some (.int .i64 n.k) ∧ W.cell? ⟨w.heap.size, 2, none⟩ = some (.bool n.u) ∧ W.cell? ⟨w.heap.size, 3, none⟩ = some (.slice xd md xe) ∧ W.cell? ⟨w.heap.size, 4, none⟩ = some (.int .i64 n.e) ∧ W.cell? ⟨w.heap.size, 5, none⟩ = some (.slice xv mv xw) ∧ W.cell? ⟨w.heap.size, 6, none⟩ = some (.slice xt mt xu) ∧ W.cell? ⟨w.heap.size, 7, none⟩ = some (.slice xa ma xb) ∧ W.cell? ⟨w.heap.size, 8, none⟩ = some (.int .i64 n.r0) ∧ W.cell? ⟨w.heap.size, 9, none⟩ = some (.int .i64 n.r1) ∧ W.cell? ⟨w.heap.size, 10, none⟩ = some (.int .i64 n.r2)) (first | (go_keep; done) | exact HC.out _ hb0) (first | (go_at_call 18; refine (HT7.out _ hb0).mono ?_; rintro e_ w8 ⟨gd8, gv8, b38, e38, ga8, rfl, hm8, hb8⟩; have hb0 := hb0.trans (hb8.mono hb0.size)) | (go_at_call 11; refine (HE7.out _ _ _ _ _ hb0 hm8.svs).mono ?_; rintro e_ w9 ⟨rfl, hb9⟩; have hb0 := hb0.trans (hb9.mono hb0.size)) | fail)
  try rename_i hHeld
  try clear hHeld
  have HX9 : Hid (FwS w w1 w9 [.int .i64 n.a, .int .i64 n.k, .bool n.u, .slice xd md xe, .int .i64 n.e, .slice xv mv xw, .slice xt mt xu, .slice xa ma xb, .int .i64 n.r0, .int .i64 n.r1, .int .i64 n.r2] w3.heap.size [.int .i64 n2.a, .int .i64 n2.k, .bool n2.u, .slice ad3 kd cd3, .int .i64 n2.e, .slice av3 kv cv3, .slice at3 kt ct3, .slice aa3 ka ca3, .int .i64 n2.r0, .int .i64 n2.r1, .int .i64 n2.r2] w2.heap.size w3.heap.size (.slice ad3 kd cd3) (.slice av3 kv cv3) (.slice at3 kt ct3) (.slice aa3 ka ca3) L2 ∧ Box 35 w9 w4.heap.size [.int .i64 n.a, .int .i64 n.k, .bool n.u, .slice (some ⟨gd4, 0, none⟩) md md, .int .i64 n.e, .slice (some ⟨gv4, 0, none⟩) mv mv, .slice b34 mt e34, .slice (some ⟨ga4, 0, none⟩) ma ma, .int .i64 n.r0, .int .i64 n.r1, .int .i64 n.r2] ∧ SvD (w3.heap.size + 1) w4.heap.size w9 (.slice (some ⟨gd4, 0, none⟩) md md) (.slice (some ⟨gv4, 0, none⟩) mv mv) (.slice b34 mt e34) (.slice (some ⟨ga4, 0, none⟩) ma ma) L  ∧ Box 35 w9 w6.heap.size [.int .i64 n2.a, .int .i64 n2.k, .bool n2.u, .slice ad6 kd cd6, .int .i64 n2.e, .slice av6 kv cv6, .slice at6 kt ct6, .slice aa6 ka ca6, .int .i64 n2.r0, .int .i64 n2.r1, .int .i64 n2.r2] ∧ SvD (w4.heap.size + 1) w6.heap.size w9 (.slice ad6 kd cd6) (.slice av6 kv cv6) (.slice at6 kt ct6) (.slice aa6 ka ca6) L2 ∧ w6.heap.size < w9.heap.size) := by
    obtain ⟨k1, k2, k3, k4, k5, k6⟩ := HX7.out
    exact ⟨k1.later hb0, k2.later hb0, k3.later hb0, k4.later hb0, k5.later hb0, by have := hb0.size; omega⟩
  clear hm8 hb8 hb9 hb0 HX7 HC HT7 HE7
  obtain ⟨z0, z1, z2, z3, z4, z5, z6, z7, z8, z9, z10⟩ := HX9.out.2.1.all11
  go_wp2_with fail
  refine (HMh.out _ _ _ _ _ _ _ _ HX9.out.2.2.1 (by have := HX9.out.2.2.2.2.2; have := HW6.out.1; have := HW4.out.2; omega)).mono ?_
  rintro e_ wd ⟨KM, rfl, hKM, hid⟩
  have HXd : Hid (FwS w w1 wd [.int .i64 n.a, .int .i64 n.k, .bool n.u, .slice xd md xe, .int .i64 n.e, .slice xv mv xw, .slice xt mt xu, .slice xa ma xb, .int .i64 n.r0, .int .i64 n.r1, .int .i64 n.r2] w3.heap.size [.int .i64 n2.a, .int .i64 n2.k, .bool n2.u, .slice ad3 kd cd3, .int .i64 n2.e, .slice av3 kv cv3, .slice at3 kt ct3, .slice aa3 ka ca3, .int .i64 n2.r0, .int .i64 n2.r1, .int .i64 n2.r2] w2.heap.size w3.heap.size (.slice ad3 kd cd3) (.slice av3 kv cv3) (.slice at3 kt ct3) (.slice aa3 ka ca3) L2  ∧ Box 35 wd w6.heap.size [.int .i64 n2.a, .int .i64 n2.k, .bool n2.u, .slice ad6 kd cd6, .int .i64 n2.e, .slice av6 kv cv6, .slice at6 kt ct6, .slice aa6 ka ca6, .int .i64 n2.r0, .int .i64 n2.r1, .int .i64 n2.r2] ∧ SvD (w4.heap.size + 1) w6.heap.size wd (.slice ad6 kd cd6) (.slice av6 kv cv6) (.slice at6 kt ct6) (.slice aa6 ka ca6) L2 ∧ w6.heap.size < wd.heap.size) := by
    obtain ⟨k1, k2, k3, k4, k5, k6⟩ := HX9.out
    obtain ⟨j1, j2⟩ := HW4.out
    have j3 := HW6.out.1
    have j4 := HW4.out.2
    exact ⟨k1.past hid (by have := HWW.out; omega) (by omega) (by omega) (by omega), k4.inG hid (.inr (by omega)), k5.above hid (by omega), by have := hid.2.2.2.1; omega⟩
  clear hid HX9 HMh z0 z1 z2 z3 z4 z5 z6 z7 z8 z9 z10
  have hKMn : ¬ ((KM : Nat) : Int) < 0 := by omega
  have HXf := HXd
  clear HXd
  obtain ⟨z0, z1, z2, z3, z4, z5, z6, z7, z8, z9, z10⟩ := HXf.out.2.1.all11
  obtain ⟨y0, y1, y2, y3, y4, y5, y6, y7, y8, y9, y10⟩ := HXf.out.1.2.2.2.1.all11
  go_wp2_with fail
  refine (HE2.out _ _ _ _ _ _ _ _ _ _ _ _ _ _ _ _ _ HXf.out.2.2.1.svs HXf.out.1.2.2.2.2.svs).mono ?_
  rintro e_ w10 ⟨rfl, hb10⟩
  have HX10 : Hid (FwS w w1 w10 [.int .i64 n.a, .int .i64 n.k, .bool n.u, .slice xd md xe, .int .i64 n.e, .slice xv mv xw, .slice xt mt xu, .slice xa ma xb, .int .i64 n.r0, .int .i64 n.r1, .int .i64 n.r2] w3.heap.size [.int .i64 n2.a, .int .i64 n2.k, .bool n2.u, .slice ad3 kd cd3, .int .i64 n2.e, .slice av3 kv cv3, .slice at3 kt ct3, .slice aa3 ka ca3, .int .i64 n2.r0, .int .i64 n2.r1, .int .i64 n2.r2] w2.heap.size w3.heap.size (.slice ad3 kd cd3) (.slice av3 kv cv3) (.slice at3 kt ct3) (.slice aa3 ka ca3) L2 ∧ Box 35 w10 w6.heap.size [.int .i64 n2.a, .int .i64 n2.k, .bool n2.u, .slice ad6 kd cd6, .int .i64 n2.e, .slice av6 kv cv6, .slice at6 kt ct6, .slice aa6 ka ca6, .int .i64 n2.r0, .int .i64 n2.r1, .int .i64 n2.r2] ∧ SvD (w4.heap.size + 1) w6.heap.size w10 (.slice ad6 kd cd6) (.slice av6 kv cv6) (.slice at6 kt ct6) (.slice aa6 ka ca6) L2 ∧ w6.heap.size < w10.heap.size) := by
    obtain ⟨k1, k4, k5, k6⟩ := HXf.out
    exact ⟨k1.later hb10, k4.later hb10, k5.later hb10, by have := hb10.size; omega⟩
  clear hb10 HXf z0 z1 z2 z3 z4 z5 z6 z7 z8 z9 z10 y0 y1 y2 y3 y4 y5 y6 y7 y8 y9 y10
  obtain ⟨z0, z1, z2, z3, z4, z5, z6, z7, z8, z9, z10⟩ := HX10.out.2.1.all11
  go_wp2_with fail
  refine (HM2.out _ _ _ _ _ _ _ _ _ _ _ HX10.out.2.2.1 (by have := HX10.out.2.2.2; omega)).mono ?_
  rintro e_ w11 ⟨K, rfl, hK0, hi11, hk11⟩
  have hKn : ¬ K < 0 := by omega
  have HX11 : Hid (FwS w w1 w11 [.int .i64 n.a, .int .i64 n.k, .bool n.u, .slice xd md xe, .int .i64 n.e, .slice xv mv xw, .slice xt mt xu, .slice xa ma xb, .int .i64 n.r0, .int .i64 n.r1, .int .i64 n.r2] w3.heap.size [.int .i64 n2.a, .int .i64 n2.k, .bool n2.u, .slice ad3 kd cd3, .int .i64 n2.e, .slice av3 kv cv3, .slice at3 kt ct3, .slice aa3 ka ca3, .int .i64 n2.r0, .int .i64 n2.r1, .int .i64 n2.r2] w2.heap.size w3.heap.size (.slice ad3 kd cd3) (.slice av3 kv cv3) (.slice at3 kt ct3) (.slice aa3 ka ca3) L2 ∧ Box 35 w11 w6.heap.size [.int .i64 n2.a, .int .i64 n2.k, .bool n2.u, .slice ad6 kd cd6, .int .i64 n2.e, .slice av6 kv cv6, .slice at6 kt ct6, .slice aa6 ka ca6, .int .i64 n2.r0, .int .i64 n2.r1, .int .i64 n2.r2] ∧ SvK w11 (.slice ad6 kd cd6) (.slice av6 kv cv6) (.slice at6 kt ct6) (.slice aa6 ka ca6) L2 K) := by
    obtain ⟨k1, k4, k5, k6⟩ := HX10.out
    obtain ⟨j1, j2⟩ := HW4.out
    have j3 := HW6.out.1
    have j4 := HW4.out.2
    exact ⟨k1.past hi11 (by have := HWW.out; omega) (by omega) (by omega) (by omega), k4.inG hi11 (.inr (by omega)), hk11⟩
  clear hi11 hk11 HX10 HM2 z0 z1 z2 z3 z4 z5 z6 z7 z8 z9 z10
  obtain ⟨z0, z1, z2, z3, z4, z5, z6, z7, z8, z9, z10⟩ := HX11.out.2.1.all11
  go_wp2_with fail
  refine (HH2.out _ K _ _ _ _ _ _ _ _ HX11.out.2.2).mono ?_
  rintro e_ w12 ⟨rfl, hb12⟩
  have HX12 : Hid (FwS w w1 w12 [.int .i64 n.a, .int .i64 n.k, .bool n.u, .slice xd md xe, .int .i64 n.e, .slice xv mv xw, .slice xt mt xu, .slice xa ma xb, .int .i64 n.r0, .int .i64 n.r1, .int .i64 n.r2] w3.heap.size [.int .i64 n2.a, .int .i64 n2.k, .bool n2.u, .slice ad3 kd cd3, .int .i64 n2.e, .slice av3 kv cv3, .slice at3 kt ct3, .slice aa3 ka ca3, .int .i64 n2.r0, .int .i64 n2.r1, .int .i64 n2.r2] w2.heap.size w3.heap.size (.slice ad3 kd cd3) (.slice av3 kv cv3) (.slice at3 kt ct3) (.slice aa3 ka ca3) L2 ∧ Box 35 w12 w6.heap.size [.int .i64 n2.a, .int .i64 n2.k, .bool n2.u, .slice ad6 kd cd6, .int .i64 n2.e, .slice av6 kv cv6, .slice at6 kt ct6, .slice aa6 ka ca6, .int .i64 n2.r0, .int .i64 n2.r1, .int .i64 n2.r2] ∧ SvK w12 (.slice ad6 kd cd6) (.slice av6 kv cv6) (.slice at6 kt ct6) (.slice aa6 ka ca6) L2 K) := ⟨HX11.out.1.later hb12, HX11.out.2.1.later hb12, HX11.out.2.2.later hb12⟩
  clear hb12 HX11 z0 z1 z2 z3 z4 z5 z6 z7 z8 z9 z10
  obtain ⟨y0, y1, y2, y3, y4, y5, y6, y7, y8, y9, y10⟩ := HX12.out.1.2.2.1.all11
  go_wp2_with fail
  refine (HT.out _ HX12.out.1.2.1).mono ?_
  rintro e_ w13 ⟨gd13, gv13, b313, e313, ga13, rfl, hm13, hb13⟩
  have HX13 : Hid (FwS w w1 w13 [.int .i64 n.a, .int .i64 n.k, .bool n.u, .slice xd md xe, .int .i64 n.e, .slice xv mv xw, .slice xt mt xu, .slice xa ma xb, .int .i64 n.r0, .int .i64 n.r1, .int .i64 n.r2] w3.heap.size [.int .i64 n2.a, .int .i64 n2.k, .bool n2.u, .slice ad3 kd cd3, .int .i64 n2.e, .slice av3 kv cv3, .slice at3 kt ct3, .slice aa3 ka ca3, .int .i64 n2.r0, .int .i64 n2.r1, .int .i64 n2.r2] w2.heap.size w3.heap.size (.slice ad3 kd cd3) (.slice av3 kv cv3) (.slice at3 kt ct3) (.slice aa3 ka ca3) L2 ∧ Box 35 w13 w6.heap.size [.int .i64 n2.a, .int .i64 n2.k, .bool n2.u, .slice ad6 kd cd6, .int .i64 n2.e, .slice av6 kv cv6, .slice at6 kt ct6, .slice aa6 ka ca6, .int .i64 n2.r0, .int .i64 n2.r1, .int .i64 n2.r2] ∧ SvK w13 (.slice ad6 kd cd6) (.slice av6 kv cv6) (.slice at6 kt ct6) (.slice aa6 ka ca6) L2 K ∧ SvS w13 (.slice (some ⟨gd13, 0, none⟩) md md) (.slice (some ⟨gv13, 0, none⟩) mv mv) (.slice b313 mt e313) (.slice (some ⟨ga13, 0, none⟩) ma ma) L) := ⟨HX12.out.1.later hb13, HX12.out.2.1.later hb13, HX12.out.2.2.later hb13, hm13.svs⟩
  clear hm13 hb13 HX12 y0 y1 y2 y3 y4 y5 y6 y7 y8 y9 y10
  obtain ⟨t1, t2, t3⟩ := HTE.out _ HX13.out.1.1
  go_wp2_with fail
  refine (HIMh.out _ _ _ _ _ _ t1 t2 t3 HX13.out.2.2.2).mono ?_
  rintro e_ w14 ⟨ad14, cd14, av14, cv14, at14, ct14, aa14, ca14, rfl, hd14, hb14⟩
  have HX14 : Hid (FwS w w1 (w14.alloc (.cells #[.int .i64 n2.a, .int .i64 n2.k, .bool n2.u, .slice ad14 kd cd14, .int .i64 n2.e, .slice av14 kv cv14, .slice at14 kt ct14, .slice aa14 ka ca14, .int .i64 n2.r0, .int .i64 n2.r1, .int .i64 n2.r2] 35)) [.int .i64 n.a, .int .i64 n.k, .bool n.u, .slice xd md xe, .int .i64 n.e, .slice xv mv xw, .slice xt mt xu, .slice xa ma xb, .int .i64 n.r0, .int .i64 n.r1, .int .i64 n.r2] w3.heap.size [.int .i64 n2.a, .int .i64 n2.k, .bool n2.u, .slice ad3 kd cd3, .int .i64 n2.e, .slice av3 kv cv3, .slice at3 kt ct3, .slice aa3 ka ca3, .int .i64 n2.r0, .int .i64 n2.r1, .int .i64 n2.r2] w2.heap.size w3.heap.size (.slice ad3 kd cd3) (.slice av3 kv cv3) (.slice at3 kt ct3) (.slice aa3 ka ca3) L2 ∧ Box 35 (w14.alloc (.cells #[.int .i64 n2.a, .int .i64 n2.k, .bool n2.u, .slice ad14 kd cd14, .int .i64 n2.e, .slice av14 kv cv14, .slice at14 kt ct14, .slice aa14 ka ca14, .int .i64 n2.r0, .int .i64 n2.r1, .int .i64 n2.r2] 35)) w6.heap.size [.int .i64 n2.a, .int .i64 n2.k, .bool n2.u, .slice ad6 kd cd6, .int .i64 n2.e, .slice av6 kv cv6, .slice at6 kt ct6, .slice aa6 ka ca6, .int .i64 n2.r0, .int .i64 n2.r1, .int .i64 n2.r2] ∧ SvK (w14.alloc (.cells #[.int .i64 n2.a, .int .i64 n2.k, .bool n2.u, .slice ad14 kd cd14, .int .i64 n2.e, .slice av14 kv cv14, .slice at14 kt ct14, .slice aa14 ka ca14, .int .i64 n2.r0, .int .i64 n2.r1, .int .i64 n2.r2] 35)) (.slice ad6 kd cd6) (.slice av6 kv cv6) (.slice at6 kt ct6) (.slice aa6 ka ca6) L2 K ∧ Box 35 (w14.alloc (.cells #[.int .i64 n2.a, .int .i64 n2.k, .bool n2.u, .slice ad14 kd cd14, .int .i64 n2.e, .slice av14 kv cv14, .slice at14 kt ct14, .slice aa14 ka ca14, .int .i64 n2.r0, .int .i64 n2.r1, .int .i64 n2.r2] 35)) w14.heap.size [.int .i64 n2.a, .int .i64 n2.k, .bool n2.u, .slice ad14 kd cd14, .int .i64 n2.e, .slice av14 kv cv14, .slice at14 kt ct14, .slice aa14 ka ca14, .int .i64 n2.r0, .int .i64 n2.r1, .int .i64 n2.r2] ∧ SvS (w14.alloc (.cells #[.int .i64 n2.a, .int .i64 n2.k, .bool n2.u, .slice ad14 kd cd14, .int .i64 n2.e, .slice av14 kv cv14, .slice at14 kt ct14, .slice aa14 ka ca14, .int .i64 n2.r0, .int .i64 n2.r1, .int .i64 n2.r2] 35)) (.slice ad14 kd cd14) (.slice av14 kv cv14) (.slice at14 kt ct14) (.slice aa14 ka ca14) L2) := ⟨(HX13.out.1.later hb14).later (below_alloc _ _), (HX13.out.2.1.later hb14).later (below_alloc _ _), (HX13.out.2.2.1.later hb14).later (below_alloc _ _), Box.new _ _ _, (hd14.later (below_alloc _ _)).svs⟩
  clear hd14 hb14 HX13 HIMh HT t1 t2 t3
  obtain ⟨z0, z1, z2, z3, z4, z5, z6, z7, z8, z9, z10⟩ := HX14.out.2.2.2.1.all11
  obtain ⟨y0, y1, y2, y3, y4, y5, y6, y7, y8, y9, y10⟩ := HX14.out.1.2.2.2.1.all11
  go_wp2_with fail
  refine (HE2.out _ _ _ _ _ _ _ _ _ _ _ _ _ _ _ _ _ HX14.out.2.2.2.2 HX14.out.1.2.2.2.2.svs).mono ?_
  rintro e_ w15 ⟨rfl, hb15⟩
  have HX15 : Hid (Below w.heap.size w w15 ∧ Box 35 w15 w6.heap.size [.int .i64 n2.a, .int .i64 n2.k, .bool n2.u, .slice ad6 kd cd6, .int .i64 n2.e, .slice av6 kv cv6, .slice at6 kt ct6, .slice aa6 ka ca6, .int .i64 n2.r0, .int .i64 n2.r1, .int .i64 n2.r2] ∧ SvK w15 (.slice ad6 kd cd6) (.slice av6 kv cv6) (.slice at6 kt ct6) (.slice aa6 ka ca6) L2 K) := ⟨(HX14.out.1.later hb15).1, HX14.out.2.1.later hb15, HX14.out.2.2.1.later hb15⟩
  clear hb15 HX14 HE2 z0 z1 z2 z3 z4 z5 z6 z7 z8 z9 z10 y0 y1 y2 y3 y4 y5 y6 y7 y8 y9 y10
  obtain ⟨z0, z1, z2, z3, z4, z5, z6, z7, z8, z9, z10⟩ := HX15.out.2.1.all11
  go_wp2_with fail
  refine (HH2.out _ K _ _ _ _ _ _ _ _ HX15.out.2.2).mono ?_
  rintro e_ w16 ⟨rfl, hb16⟩
  have b16 := HX15.out.1.trans (hb16.mono HX15.out.1.size)
  clear hb16 HX15 HH2 z0 z1 z2 z3 z4 z5 z6 z7 z8 z9 z10
  go_wp2
  go_ret
  exact ⟨rfl, b16⟩

end Go.Proofs.YthlgohplljcgfaaGreatDoor
