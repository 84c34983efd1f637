/-
  The walk of the law FnExactLoseDisk: it answers true of every disk and every row of numbers.
-/
import Derived.Test.YtbmlphlknolieaaSl
import Derived.Test.YtbmlphlknolieaaIn
import Derived.Test.YtbmlphlknolieaaDl
namespace Go.Proofs.Ytbmlphlknolieaa
open Go.RowKit Go.BigFrame Go.Sort
set_option linter.unusedVariables false
set_option linter.unusedSimpArgs false

/-- a row of numbers that was handed in: if it is small, it is l -/
def IsRowN (w : World) (v : Value) (g o : Nat) (l : List Int) : Prop := ∃ a n cap, v = .slice a n cap ∧ n ≤ 9223372036854775807 ∧ (n ≤ 1100000 → l.length = n ∧ RS 1 ics w v g o l)

/-- a disk in its box -/
def XD (W : World) (p : Nat) (s : Value) (g : Nat) (l : List Fl) : Prop := BD W p 26 s ∧ RW 3 fcs W s g l
theorem XD.later {W W' : World} {p : Nat} {s : Value} {g : Nat} {l : List Fl} (h : XD W p s g l) (hb : Below W.heap.size W W') : XD W' p s g l := ⟨h.1.later hb, h.2.later hb⟩
theorem XD.grown {W W' : World} {p : Nat} {s : Value} {g : Nat} {l : List Fl} {row : Option Nat} (h : XD W p s g l) (hg : W.grownBy W' row) (h1 : some p ≠ row) (h2 : 0 < l.length → some g ≠ row) : XD W' p s g l := ⟨h.1.grown hg h1, h.2.grown hg h2⟩
theorem XD.new {W : World} {s : Value} {g : Nat} {l : List Fl} (h : RW 3 fcs W s g l) : XD (W.alloc (.cells #[s] 26)) W.heap.size s g l := ⟨BD.new W _ _, h.alloc _⟩
theorem DkIn.open' {w : World} {B : Nat} {v : Value} {l : List Fl} (h : DkIn w B v l) : ∃ a c g, v = .agg #[.slice a l.length c] ∧ RW 3 fcs w (.slice a l.length c) g l ∧ B ≤ g ∧ (0 < l.length → g < w.heap.size) := by
  obtain ⟨a, c, g, h1, h2, h3⟩ := h.shape
  exact ⟨a, c, g, h1, h2, h3, h2.lt⟩

/-- the argument's box, what the specification answered, and what the program answered -/
def LwS (w W : World) (va : Value) (pw : Nat) (sw : Value) (gw : Nat) (pg : Nat) (sg : Value) (gg : Nat) (M N : List Fl) : Prop := BD W w.heap.size 51 va ∧ Below w.heap.size w W ∧ XD W pw sw gw M ∧ XD W pg sg gg N
theorem LwS.later {w W W' : World} {va : Value} {pw : Nat} {sw : Value} {gw : Nat} {pg : Nat} {sg : Value} {gg : Nat} {M N : List Fl} (h : LwS w W va pw sw gw pg sg gg M N) (hb : Below W.heap.size W W') : LwS w W' va pw sw gw pg sg gg M N :=
  ⟨h.1.later hb, h.2.1.trans (hb.mono h.2.1.size), h.2.2.1.later hb, h.2.2.2.later hb⟩
theorem LwS.grown {w W W' : World} {va : Value} {pw : Nat} {sw : Value} {gw : Nat} {pg : Nat} {sg : Value} {gg : Nat} {M N : List Fl} {row : Option Nat} (h : LwS w W va pw sw gw pg sg gg M N) (hg : W.grownBy W' row)
    (n1 : some w.heap.size ≠ row) (n2 : some pw ≠ row) (n3 : 0 < M.length → some gw ≠ row) (n4 : some pg ≠ row) (n5 : 0 < N.length → some gg ≠ row) (n7 : ∀ k, row = some k → w.heap.size ≤ k) : LwS w W' va pw sw gw pg sg gg M N :=
  ⟨h.1.grown hg n1, h.2.1.grown hg h.2.1.size n7, h.2.2.1.grown hg n2 n3, h.2.2.2.grown hg n4 n5⟩
/-- .. the latter bearing marks -/
def LwM (w W : World) (va : Value) (pw : Nat) (sw : Value) (gw : Nat) (pg : Nat) (sg : Value) (gg : Nat) (M : List Fl) : Prop := LwS w W va pw sw gw pg sg gg M (fmarks 1 M.length)
theorem LwM.later {w W W' : World} {va : Value} {pw : Nat} {sw : Value} {gw : Nat} {pg : Nat} {sg : Value} {gg : Nat} {M : List Fl} (h : LwM w W va pw sw gw pg sg gg M) (hb : Below W.heap.size W W') : LwM w W' va pw sw gw pg sg gg M := LwS.later h hb
theorem LwS.mark {w W W' : World} {va : Value} {pw : Nat} {sw : Value} {gw : Nat} {pg : Nat} {sg : Value} {gg : Nat} {M : List Fl} {row : Option Nat} (h : LwS w W va pw sw gw pg sg gg M M) (hg : W.grownBy W' row)
    (n1 : some w.heap.size ≠ row) (n2 : some pw ≠ row) (n3 : 0 < M.length → some gw ≠ row) (n4 : some pg ≠ row) (n7 : ∀ k, row = some k → w.heap.size ≤ k) (hr : RW 3 fcs W' sg gg (fmarks 1 M.length)) : LwM w W' va pw sw gw pg sg gg M :=
  ⟨h.1.grown hg n1, h.2.1.grown hg h.2.1.size n7, h.2.2.1.grown hg n2 n3, h.2.2.2.1.grown hg n4, hr⟩

set_option maxRecDepth 100000 in
set_option maxHeartbeats 4000000 in
theorem loseLaw_any (v : Value) (g o : Nat) (L : List Fl) (q : Value) (gq oq : Nat) (Q : List Int) (w : World) (hv : IsRowF w v g o L) (hq : IsRowN w q gq oq Q) :
    Calls Try.prog 9 #[.agg #[v], q] w fun e w' => e = .returned (.bool true) ∧ Below w.heap.size w w' := by
  have hB : Below w.heap.size w (w.alloc (.cells #[v] 51)) := (Below.refl _ _).alloc (Nat.le_refl _) _
  have HSZ := szDisk_row v g o L 1048576 _ (hv.later hB) (by omega) (by omega)
  have HB : Hid (Below w.heap.size w (w.alloc (.cells #[v] 51)) ∧ BD (w.alloc (.cells #[v] 51)) w.heap.size 51 v) := ⟨hB, BD.new w _ _⟩
  have hsv : ∃ a n cap, v = .slice a n cap := by obtain ⟨a, n, cap, h, _⟩ := hv; exact ⟨a, n, cap, h⟩
  have HR : Hid (IsRowF w v g o L) := hv
  obtain ⟨a, n, cap, rfl⟩ := hsv
  obtain ⟨aq, nq, cq, rfl, hnq, hrq⟩ := hq
  clear hv hB
  by_cases hx : (1048576 : Int) < (nq : Int)
  · have hb9 := HB.out.1
    clear HSZ HB HR
    go_enter Try.func9, Try.ntmps9
    go_wp2
    go_ret
    exact ⟨rfl, hb9⟩
  obtain ⟨hlq, hrsq⟩ := hrq (by omega)
  have HTQ : Hid (∀ W, Below w.heap.size w W → Calls Try.prog 43 #[.slice aq nq cq] W fun e w' => ∃ s g, e = .returned s ∧ IW w' s g Q ∧ W.heap.size ≤ g ∧ Below W.heap.size W w') := fun W hW => toIntS_any _ gq oq Q W (hrsq.later hW)
  have hQ : Q.length ≤ 1048576 := by omega
  clear hrq hrsq hlq
  go_enter Try.func9, Try.ntmps9
  go_wp2_with fail
  refine HSZ.mono ?_
  rintro e w1 ⟨A, rfl, hb1, _, hA⟩
  have b1 := HB.out.1.trans (hb1.mono HB.out.1.size)
  by_cases hneg : A < 0
  · clear hA HSZ HR HB
    go_wp2
    go_ret
    exact ⟨rfl, b1⟩
  obtain ⟨hrs, hsm, hlen⟩ := hA (by omega)
  have HTO : Hid (∀ W, Below w.heap.size w W → Calls Try.prog 30 #[.agg #[.slice a n cap]] W fun e w' => ∃ u, e = .returned u ∧ DkIn w' W.heap.size u L ∧ Below W.heap.size W w') := fun W hW => by
    obtain ⟨a', n', c', ev, _, hr⟩ := HR.out
    obtain ⟨a2, c2, ev2⟩ := hrs.shape
    have hn : n' = L.length := by rw [ev] at ev2; simp at ev2; exact ev2.2.1
    exact toDisk_any _ g o L W ((hr (by omega)).2.1.later hW)
  have HX1 : Hid (BD w1 w.heap.size 51 (.slice a n cap) ∧ Below w.heap.size w w1) := ⟨HB.out.2.later hb1, b1⟩
  have hL2 : L.length ≤ 1048576 := hlen
  have hML : (F.loseR L Q).length ≤ L.length := by
    unfold F.loseR
    split
    · rw [F.cutL_len]; exact Nat.le_refl _
    · simp
  have HSP : Hid (∀ W s ga qs gs, RS 3 fcs W s ga 0 L → RS 1 ics W qs gs 0 Q → Calls Try.prog 42 #[.agg #[s], qs] W fun e w' => ∃ u, e = .returned (.tuple #[u, .bool (F.diskB L)]) ∧ DkIn w' W.heap.size u (F.loseR L Q) ∧ Below W.heap.size W w') := fun W s ga qs gs h1 h2 => sLoseDisk_any s ga 0 L qs gs 0 Q W h1 h2
  have HIM : Hid (∀ W s ga qs gs, RS 3 fcs W s ga 0 L → RS 1 ics W qs gs 0 Q → Calls Try.prog 16 #[.agg #[s], qs] W fun e w' => ∃ u, e = .returned (.tuple #[u, .bool (F.diskB L)]) ∧ DkIn w' W.heap.size u (F.loseR L Q) ∧ Below W.heap.size W w') := fun W s ga qs gs h1 h2 => LoseDisk_any s ga 0 L qs gs 0 Q W h1 h2
  generalize F.loseR L Q = M at *
  generalize F.diskB L = R at *
  clear hrs hA HSZ HR HB hb1 b1
  have c1 := HX1.out.1.cell
  -- the specification's answer
  go_wp2_with fail
  refine (HTO.out _ HX1.out.2).mono ?_
  rintro e w2 ⟨u, rfl, hu, hb2⟩
  obtain ⟨a2, c2, p2, rfl, hr2, _, _⟩ := hu.open'
  have b2 := HX1.out.2.trans (hb2.mono HX1.out.2.size)
  have HX2 : Hid (BD w2 w.heap.size 51 (.slice a n cap) ∧ Below w.heap.size w w2 ∧ RS 3 fcs w2 (.slice a2 L.length c2) p2 0 L) := ⟨HX1.out.1.later hb2, b2, hr2.1⟩
  clear hu hb2 hr2 c1 HX1 b2
  go_wp2_with fail
  refine (HTQ.out _ HX2.out.2.1).mono ?_
  rintro e w3 ⟨s3, g3, rfl, hi3, _, hb3⟩
  have HX3 : Hid (BD w3 w.heap.size 51 (.slice a n cap) ∧ Below w.heap.size w w3 ∧ RS 3 fcs w3 (.slice a2 L.length c2) p2 0 L ∧ RS 1 ics w3 s3 g3 0 Q) := ⟨HX2.out.1.later hb3, HX2.out.2.1.trans (hb3.mono HX2.out.2.1.size), HX2.out.2.2.later hb3, hi3.rs⟩
  clear hi3 hb3 HX2
  go_wp2_with fail
  refine (HSP.out _ _ p2 _ g3 HX3.out.2.2.1 HX3.out.2.2.2).mono ?_
  rintro e w4 ⟨u, rfl, hu, hb4⟩
  obtain ⟨a4, c4, p4, rfl, hr4, hp4, hl4⟩ := hu.open'
  have b4 := HX3.out.2.1.trans (hb4.mono HX3.out.2.1.size)
  have hw4 := b4.size
  have hA4 : Below w4.heap.size w4 (w4.alloc (.cells #[.slice a4 M.length c4] 26)) := (Below.refl _ _).alloc (Nat.le_refl _) _
  have HX4 : Hid (BD (w4.alloc (.cells #[.slice a4 M.length c4] 26)) w.heap.size 51 (.slice a n cap) ∧ Below w.heap.size w (w4.alloc (.cells #[.slice a4 M.length c4] 26)) ∧ XD (w4.alloc (.cells #[.slice a4 M.length c4] 26)) w4.heap.size (.slice a4 M.length c4) p4 M ∧ (0 < M.length → p4 < w4.heap.size)) := ⟨(HX3.out.1.later hb4).later hA4, b4.trans (hA4.mono b4.size), XD.new hr4, hl4⟩
  have c4' := HX4.out.1.cell
  clear hu hb4 hr4 b4 hA4 HX3 hp4 hl4
  -- the arguments, anew
  go_wp2_with fail
  refine (HTO.out _ HX4.out.2.1).mono ?_
  rintro e w5 ⟨u, rfl, hu, hb5⟩
  obtain ⟨a5, c5, p5, rfl, hr5, hp5, hl5⟩ := hu.open'
  have b5 := HX4.out.2.1.trans (hb5.mono HX4.out.2.1.size)
  have hp5' : w4.heap.size + 1 ≤ p5 := by simpa using hp5
  have hA5 : Below w5.heap.size w5 (w5.alloc (.cells #[.slice a5 L.length c5] 26)) := (Below.refl _ _).alloc (Nat.le_refl _) _
  have hs5 : w4.heap.size + 1 ≤ w5.heap.size := by have := hb5.size; simpa using this
  have HX5 : Hid (BD (w5.alloc (.cells #[.slice a5 L.length c5] 26)) w.heap.size 51 (.slice a n cap) ∧ Below w.heap.size w (w5.alloc (.cells #[.slice a5 L.length c5] 26)) ∧ XD (w5.alloc (.cells #[.slice a5 L.length c5] 26)) w4.heap.size (.slice a4 M.length c4) p4 M ∧ XD (w5.alloc (.cells #[.slice a5 L.length c5] 26)) w5.heap.size (.slice a5 L.length c5) p5 L) := ⟨(HX4.out.1.later hb5).later hA5, b5.trans (hA5.mono b5.size), (HX4.out.2.2.1.later hb5).later hA5, XD.new hr5⟩
  have HP : Hid ((0 < M.length → p4 < w4.heap.size) ∧ (0 < L.length → p5 < w5.heap.size)) := ⟨HX4.out.2.2.2, hl5⟩
  clear hu hb5 hr5 b5 hA5 HX4 hp5 hl5 c4'
  go_wp2_with fail
  refine (HTQ.out _ HX5.out.2.1).mono ?_
  rintro e w6 ⟨s6, g6, rfl, hi6, hg6, hb6⟩
  have hg6' : w5.heap.size + 1 ≤ g6 := by simpa using hg6
  have HX6 : Hid (BD w6 w.heap.size 51 (.slice a n cap) ∧ Below w.heap.size w w6 ∧ XD w6 w4.heap.size (.slice a4 M.length c4) p4 M ∧ XD w6 w5.heap.size (.slice a5 L.length c5) p5 L ∧ IW w6 s6 g6 Q) := ⟨HX5.out.1.later hb6, HX5.out.2.1.trans (hb6.mono HX5.out.2.1.size), HX5.out.2.2.1.later hb6, HX5.out.2.2.2.later hb6, hi6⟩
  obtain ⟨aq6, cq6, hs6⟩ := hi6.rs.shape
  subst hs6
  have hs6 : w5.heap.size + 1 ≤ w6.heap.size := by have := hb6.size; simpa using this
  clear hb6 HX5 hi6 hg6
  have c6 := HX6.out.2.2.2.1.1.cell
  go_wp2_with fail
  refine (HIM.out _ _ p5 _ g6 HX6.out.2.2.2.1.2.1 HX6.out.2.2.2.2.rs).mono ?_
  rintro e w7 ⟨u, rfl, hu, hb7⟩
  obtain ⟨a7, c7, p7, rfl, hr7, hp7, hl7⟩ := hu.open'
  have b7 := HX6.out.2.1.trans (hb7.mono HX6.out.2.1.size)
  have hA7 : Below w7.heap.size w7 (w7.alloc (.cells #[.slice a7 M.length c7] 26)) := (Below.refl _ _).alloc (Nat.le_refl _) _
  have hs7 : w6.heap.size ≤ w7.heap.size := hb7.size
  have HX7 : Hid (BD (w7.alloc (.cells #[.slice a7 M.length c7] 26)) w.heap.size 51 (.slice a n cap) ∧ Below w.heap.size w (w7.alloc (.cells #[.slice a7 M.length c7] 26)) ∧ XD (w7.alloc (.cells #[.slice a7 M.length c7] 26)) w4.heap.size (.slice a4 M.length c4) p4 M ∧ XD (w7.alloc (.cells #[.slice a7 M.length c7] 26)) w5.heap.size (.slice a5 L.length c5) p5 L ∧ IW (w7.alloc (.cells #[.slice a7 M.length c7] 26)) (.slice aq6 Q.length cq6) g6 Q ∧ XD (w7.alloc (.cells #[.slice a7 M.length c7] 26)) w7.heap.size (.slice a7 M.length c7) p7 M) :=
    ⟨(HX6.out.1.later hb7).later hA7, b7.trans (hA7.mono b7.size), (HX6.out.2.2.1.later hb7).later hA7, (HX6.out.2.2.2.1.later hb7).later hA7, (HX6.out.2.2.2.2.later hb7).later hA7, XD.new hr7⟩
  have HP7 : Hid ((0 < M.length → p7 < w7.heap.size) ∧ w6.heap.size ≤ p7 ∧ (0 < Q.length → g6 < w6.heap.size)) := ⟨hl7, hp7, HX6.out.2.2.2.2.lt⟩
  clear hu hb7 hr7 b7 hA7 HX6 hl7 c6
  have HS7 : Hid (LwS w (w7.alloc (.cells #[.slice a7 M.length c7] 26)) (.slice a n cap) w4.heap.size (.slice a4 M.length c4) p4 w7.heap.size (.slice a7 M.length c7) p7 M M ∧ XD (w7.alloc (.cells #[.slice a7 M.length c7] 26)) w5.heap.size (.slice a5 L.length c5) p5 L ∧ IW (w7.alloc (.cells #[.slice a7 M.length c7] 26)) (.slice aq6 Q.length cq6) g6 Q) := ⟨⟨HX7.out.1, HX7.out.2.1, HX7.out.2.2.1, HX7.out.2.2.2.2.2⟩, HX7.out.2.2.2.1, HX7.out.2.2.2.2.1⟩
  obtain ⟨N5, hN5⟩ : ∃ N5, rowF p5 L.length = N5 := ⟨_, rfl⟩
  obtain ⟨N6, hN6⟩ : ∃ N6, rowF g6 Q.length = N6 := ⟨_, rfl⟩
  obtain ⟨N7, hN7⟩ : ∃ N7, rowF p7 M.length = N7 := ⟨_, rfl⟩
  have hww : w.heap.size ≤ w4.heap.size := by
    exact hw4
  have HNE : Hid ((some w.heap.size ≠ N5 ∧ some w4.heap.size ≠ N5 ∧ (0 < M.length → some p4 ≠ N5) ∧ some w7.heap.size ≠ N5 ∧ (0 < M.length → some p7 ≠ N5) ∧ (0 < Q.length → some g6 ≠ N5) ∧ (∀ k, N5 = some k → w.heap.size ≤ k))
      ∧ (some w.heap.size ≠ N6 ∧ some w4.heap.size ≠ N6 ∧ (0 < M.length → some p4 ≠ N6) ∧ some w7.heap.size ≠ N6 ∧ (0 < M.length → some p7 ≠ N6) ∧ (∀ k, N6 = some k → w.heap.size ≤ k))
      ∧ (some w.heap.size ≠ N7 ∧ some w4.heap.size ≠ N7 ∧ (0 < M.length → some p4 ≠ N7) ∧ some w7.heap.size ≠ N7 ∧ (∀ k, N7 = some k → w.heap.size ≤ k))) := by
    obtain ⟨q1, q2⟩ := HP.out
    obtain ⟨q3, q4, q5⟩ := HP7.out
    subst hN5 hN6 hN7
    exact ⟨⟨rowF_ne (fun _ => by omega), rowF_ne (fun _ => by omega), fun h => rowF_ne (fun _ => by have := q1 h; omega), rowF_ne (fun h => by have := q2 h; omega), fun h => rowF_ne (fun h' => by have := q2 h'; omega), fun h => rowF_ne (fun h' => by have := q2 h'; omega), rowF_le (by omega)⟩,
      ⟨rowF_ne (fun _ => by omega), rowF_ne (fun _ => by omega), fun h => rowF_ne (fun _ => by have := q1 h; omega), rowF_ne (fun h => by have := q5 h; omega), fun h => rowF_ne (fun h' => by have := q5 h'; omega), rowF_le (by omega)⟩,
      ⟨rowF_ne (fun _ => by omega), rowF_ne (fun _ => by omega), fun h => rowF_ne (fun _ => by have := q1 h; omega), rowF_ne (fun h => by have := q3 h; omega), rowF_le (by omega)⟩⟩
  clear HX7 HP HP7 hww
  have HN : Hid (rowF p5 L.length = N5 ∧ rowF g6 Q.length = N6 ∧ rowF p7 M.length = N7) := ⟨hN5, hN6, hN7⟩
  clear hN5 hN6 hN7 hp7 hg6' hp5'
  have ca := HS7.out.1.2.2.2.1.cell
  have cb := HS7.out.1.2.2.1.1.cell
  go_wp2_with fail
  refine (eqDisk_yes _ _ p7 0 p4 0 M _ HS7.out.1.2.2.2.2.1 HS7.out.1.2.2.1.2.1).mono ?_
  rintro e w8 ⟨rfl, hb8⟩
  have HS8 : Hid (LwS w w8 (.slice a n cap) w4.heap.size (.slice a4 M.length c4) p4 w7.heap.size (.slice a7 M.length c7) p7 M M ∧ XD w8 w5.heap.size (.slice a5 L.length c5) p5 L ∧ IW w8 (.slice aq6 Q.length cq6) g6 Q) := ⟨HS7.out.1.later hb8, HS7.out.2.1.later hb8, HS7.out.2.2.later hb8⟩
  clear HS7 hb8 ca cb
  have d0 := HS8.out.1.1.cell
  have d1 := HS8.out.2.1.1.cell
  have HK : Hid (∀ W, Below w8.heap.size w8 W → W.cell? ⟨w.heap.size, 0, none⟩ = some (.slice a n cap) ∧ W.cell? ⟨w5.heap.size, 0, none⟩ = some (.slice a5 L.length c5)) := fun W hW => ⟨(HS8.out.1.1.later hW).cell, (HS8.out.2.1.1.later hW).cell⟩
  go_wp2
  go_region_held3 (fun W => W.cell? ⟨w.heap.size, 0, none⟩ = some (.slice a n cap) ∧ W.cell? ⟨w5.heap.size, 0, none⟩ = some (.slice a5 L.length c5)) (first | go_keep | exact HK.out _ hb10 | exact HK.out _ hb9) ((first | (go_at_call 30; refine (HTO.out _ HS8.out.1.2.1.drew).mono ?_; rintro e w9 ⟨u9, rfl, hu9, hb9'⟩; obtain ⟨a9, c9, p9, rfl, hr9, _, _⟩ := hu9.open'; have hb9 : Below w8.heap.size w8 w9 := (Below.refl w8.heap.size w8).drew.trans hb9') | (go_at_call 31; refine (eqDisk_yes _ _ p5 0 p9 0 L _ (HS8.out.2.1.later hb9).2.1 hr9.1).mono ?_; rintro e w10 ⟨rfl, hb10'⟩; have hb10 : Below w8.heap.size w8 w10 := hb9.trans (hb10'.mono hb9.size))))
  have HS10 : Hid (LwS w w10 (.slice a n cap) w4.heap.size (.slice a4 M.length c4) p4 w7.heap.size (.slice a7 M.length c7) p7 M M ∧ XD w10 w5.heap.size (.slice a5 L.length c5) p5 L ∧ IW w10 (.slice aq6 Q.length cq6) g6 Q) := ⟨HS8.out.1.later hb10, HS8.out.2.1.later hb10, HS8.out.2.2.later hb10⟩
  clear HS8 hb10 hb10' hb9 hb9' hr9 hu9 HK d0 d1
  go_wp2_with fail
  refine (HTQ.out _ HS10.out.1.2.1).mono ?_
  rintro e w11 ⟨s11, g11, rfl, hi11, _, hb11⟩
  have HS11 : Hid (LwS w w11 (.slice a n cap) w4.heap.size (.slice a4 M.length c4) p4 w7.heap.size (.slice a7 M.length c7) p7 M M ∧ XD w11 w5.heap.size (.slice a5 L.length c5) p5 L ∧ IW w11 (.slice aq6 Q.length cq6) g6 Q ∧ IW w11 s11 g11 Q) := ⟨HS10.out.1.later hb11, HS10.out.2.1.later hb11, HS10.out.2.2.later hb11, hi11⟩
  clear HS10 hb11 hi11
  go_wp2_with fail
  refine (eqIntS_yes _ _ g6 0 g11 0 Q _ HS11.out.2.2.1.rs HS11.out.2.2.2.rs).mono ?_
  rintro e w12 ⟨rfl, hb12⟩
  have HS12 : Hid (LwS w w12 (.slice a n cap) w4.heap.size (.slice a4 M.length c4) p4 w7.heap.size (.slice a7 M.length c7) p7 M M ∧ XD w12 w5.heap.size (.slice a5 L.length c5) p5 L ∧ IW w12 (.slice aq6 Q.length cq6) g6 Q) := ⟨HS11.out.1.later hb12, HS11.out.2.1.later hb12, HS11.out.2.2.1.later hb12⟩
  clear HS11 hb12
  have cx := HS12.out.2.1.1.cell
  go_wp2_with fail
  refine (markDisk_any _ p5 L 1 1 _ rfl HS12.out.2.1.2 (by omega) (by omega)).mono ?_
  rintro e w13 ⟨rfl, _, hg13⟩
  rw [HN.out.1] at hg13
  have HS13 : Hid (LwS w w13 (.slice a n cap) w4.heap.size (.slice a4 M.length c4) p4 w7.heap.size (.slice a7 M.length c7) p7 M M ∧ IW w13 (.slice aq6 Q.length cq6) g6 Q) := by
    obtain ⟨n1, n2, n3, n4, n5, n6, n7⟩ := HNE.out.1
    exact ⟨HS12.out.1.grown hg13 n1 n2 n3 n4 n5 n7, HS12.out.2.2.grown hg13 n6⟩
  clear HS12 hg13 cx
  obtain ⟨K1, hK1⟩ : ∃ K1 : Nat, 1 + 3 * L.length = K1 := ⟨_, rfl⟩
  rw [hK1]
  go_wp2_with fail
  refine (markIntS_row _ g6 Q (K1 : Int) K1 _ rfl HS13.out.2 (by omega)).mono ?_
  rintro e w14 ⟨rfl, hg14⟩
  rw [HN.out.2.1] at hg14
  have HS14 : Hid (LwS w w14 (.slice a n cap) w4.heap.size (.slice a4 M.length c4) p4 w7.heap.size (.slice a7 M.length c7) p7 M M) := by
    obtain ⟨n1, n2, n3, n4, n5, n7⟩ := HNE.out.2.1
    exact HS13.out.1.grown hg14 n1 n2 n3 n4 n5 n7
  obtain ⟨K2, hK2⟩ : ∃ K2 : Nat, K1 + Q.length = K2 := ⟨_, rfl⟩
  rw [hK2]
  have qk : ¬ (K2 : Int) < 0 := by omega
  clear HS13 hg14
  have ca := HS14.out.2.2.2.1.cell
  have cb := HS14.out.2.2.1.1.cell
  go_wp2_with fail
  refine (eqDisk_yes _ _ p7 0 p4 0 M _ HS14.out.2.2.2.2.1 HS14.out.2.2.1.2.1).mono ?_
  rintro e w15 ⟨rfl, hb15⟩
  have HS15 : Hid (LwS w w15 (.slice a n cap) w4.heap.size (.slice a4 M.length c4) p4 w7.heap.size (.slice a7 M.length c7) p7 M M) := HS14.out.later hb15
  clear HS14 hb15 ca cb
  have ca := HS15.out.2.2.2.1.cell
  go_wp2_with fail
  refine (markDisk_any _ p7 M 1 1 _ rfl HS15.out.2.2.2.2 (by omega) (by omega)).mono ?_
  rintro e w16 ⟨rfl, hr16, hg16⟩
  rw [HN.out.2.2] at hg16
  have HS16 : Hid (LwM w w16 (.slice a n cap) w4.heap.size (.slice a4 M.length c4) p4 w7.heap.size (.slice a7 M.length c7) p7 M) := by
    obtain ⟨n1, n2, n3, n4, n7⟩ := HNE.out.2.2
    exact HS15.out.mark hg16 n1 n2 n3 n4 n7 hr16
  obtain ⟨K3, hK3⟩ : ∃ K3 : Nat, 1 + 3 * M.length = K3 := ⟨_, rfl⟩
  rw [hK3]
  have qk3 : ¬ (K3 : Int) < 0 := by omega
  clear HS15 hg16 hr16 ca
  have ca := HS16.out.2.2.2.1.cell
  go_wp2_with fail
  refine (heldDisk_any _ p7 1 1 M.length _ rfl HS16.out.2.2.2.2.1 (by omega) (by omega)).mono ?_
  rintro e w17 ⟨rfl, hb17⟩
  rw [hK3]
  have HS17 : Hid (LwM w w17 (.slice a n cap) w4.heap.size (.slice a4 M.length c4) p4 w7.heap.size (.slice a7 M.length c7) p7 M) := HS16.out.later hb17
  clear HS16 hb17 ca
  have cx := HS17.out.1.cell
  go_wp2_with fail
  refine (HTO.out _ HS17.out.2.1).mono ?_
  rintro e w18 ⟨u, rfl, hu, hb18⟩
  obtain ⟨a18, c18, p18, rfl, hr18, _, _⟩ := hu.open'
  have HS18 : Hid (LwM w w18 (.slice a n cap) w4.heap.size (.slice a4 M.length c4) p4 w7.heap.size (.slice a7 M.length c7) p7 M ∧ RS 3 fcs w18 (.slice a18 L.length c18) p18 0 L) := ⟨HS17.out.later hb18, hr18.1⟩
  clear HS17 hb18 hr18 hu cx
  go_wp2_with fail
  refine (HTQ.out _ HS18.out.1.2.1).mono ?_
  rintro e w19 ⟨s19, g19, rfl, hi19, _, hb19⟩
  have HS19 : Hid (LwM w w19 (.slice a n cap) w4.heap.size (.slice a4 M.length c4) p4 w7.heap.size (.slice a7 M.length c7) p7 M ∧ RS 3 fcs w19 (.slice a18 L.length c18) p18 0 L ∧ RS 1 ics w19 s19 g19 0 Q) := ⟨HS18.out.1.later hb19, HS18.out.2.later hb19, hi19.rs⟩
  clear HS18 hb19 hi19
  go_wp2_with fail
  refine (HIM.out _ _ p18 _ g19 HS19.out.2.1 HS19.out.2.2).mono ?_
  rintro e w20 ⟨u, rfl, hu, hb20⟩
  obtain ⟨a20, c20, p20, rfl, hr20, _, _⟩ := hu.open'
  have hA20 : Below w20.heap.size w20 (w20.alloc (.cells #[.slice a20 M.length c20] 26)) := (Below.refl _ _).alloc (Nat.le_refl _) _
  have HS20 : Hid (LwM w (w20.alloc (.cells #[.slice a20 M.length c20] 26)) (.slice a n cap) w4.heap.size (.slice a4 M.length c4) p4 w7.heap.size (.slice a7 M.length c7) p7 M ∧ XD (w20.alloc (.cells #[.slice a20 M.length c20] 26)) w20.heap.size (.slice a20 M.length c20) p20 M) := ⟨(HS19.out.1.later hb20).later hA20, XD.new hr20⟩
  clear HS19 hb20 hr20 hu hA20
  have ca := HS20.out.2.1.cell
  have cb := HS20.out.1.2.2.1.1.cell
  go_wp2_with fail
  refine (eqDisk_yes _ _ p20 0 p4 0 M _ HS20.out.2.2.1 HS20.out.1.2.2.1.2.1).mono ?_
  rintro e w21 ⟨rfl, hb21⟩
  have HS21 : Hid (LwM w w21 (.slice a n cap) w4.heap.size (.slice a4 M.length c4) p4 w7.heap.size (.slice a7 M.length c7) p7 M) := HS20.out.1.later hb21
  clear HS20 hb21 ca cb
  have ca := HS21.out.2.2.2.1.cell
  go_wp2_with fail
  refine (heldDisk_any _ p7 1 1 M.length _ rfl HS21.out.2.2.2.2.1 (by omega) (by omega)).mono ?_
  rintro e w22 ⟨rfl, hb22⟩
  rw [hK3]
  have hbf := HS21.out.2.1.trans (hb22.mono HS21.out.2.1.size)
  clear HS21 hb22 ca
  go_wp2
  go_ret
  exact ⟨rfl, hbf⟩

end Go.Proofs.Ytbmlphlknolieaa
