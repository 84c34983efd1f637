/-
  The walk of the law FnExactCutActs: it answers true of every disk, every row of acts, every number and every row of numbers.
-/
import Derived.Test.YtbmlphlknolieaaCt
import Derived.Test.YtbmlphlknolieaaDsl
namespace Go.Proofs.Ytbmlphlknolieaa
open Go.RowKit Go.BigFrame Go.Sort
set_option linter.unusedVariables false
set_option linter.unusedSimpArgs false

namespace F
theorem cutR_len {L : List Fl} (A : List Ac) (x : Int) (N : List Int) (h : L.length ≤ 1048576) : (cutR L A x N).1.length ≤ 1048576 := by
  unfold cutR
  split
  · have h1 := acts_len (A.take x.toNat) h
    simp only
    unfold loseR
    split
    · rw [cutL_len]; exact h1
    · simp
  · simp
end F

set_option maxRecDepth 100000 in
set_option maxHeartbeats 4000000 in
theorem cutActsLaw_any (v : Value) (g o : Nat) (L : List Fl) (q : Value) (gq oq : Nat) (Q : List Ac) (x : Int) (nv : Value) (gn on : Nat) (NN : List Int) (w : World) (hv : IsRowF w v g o L) (hq : IsRowA w q gq oq Q) (hn : IsRowN w nv gn on NN) :
    Calls Try.prog 10 #[.agg #[v], q, .int .i64 x, nv] w fun e w' => e = .returned (.bool true) ∧ Below w.heap.size w w' := by
  have hB : Below w.heap.size w (w.alloc (.cells #[v] 51)) := (Below.refl _ _).alloc (Nat.le_refl _) _
  have HSZ := szDisk_row v g o L 1048576 _ (hv.later hB) (by omega) (by omega)
  have HB : Hid (Below w.heap.size w (w.alloc (.cells #[v] 51)) ∧ BD (w.alloc (.cells #[v] 51)) w.heap.size 51 v) := ⟨hB, BD.new w _ _⟩
  have hsv : ∃ a n cap, v = .slice a n cap := by obtain ⟨a, n, cap, h, _⟩ := hv; exact ⟨a, n, cap, h⟩
  have HR : Hid (IsRowF w v g o L) := hv
  obtain ⟨a, n, cap, rfl⟩ := hsv
  have HSQ : Hid (∀ x W, 0 ≤ x → x ≤ 1048576 → Below w.heap.size w W → Calls Try.prog 38 #[q, .int .i64 x] W fun e w' => ∃ A : Int, e = .returned (.int .i64 A) ∧ Below W.heap.size W w' ∧ A ≤ x ∧ (0 ≤ A → RS 4 acs W q gq oq Q ∧ SmallAs Q ∧ Q.length ≤ 1048576)) := fun x W h0 h1 hW => szActS_row q gq oq Q x W (hq.later hW) h0 h1
  have HRQ : Hid (IsRowA w q gq oq Q) := hq
  have hsq : ∃ a n cap, q = .slice a n cap := by obtain ⟨a, n, cap, h, _⟩ := hq; exact ⟨a, n, cap, h⟩
  obtain ⟨aq, nq, cq, rfl⟩ := hsq
  obtain ⟨an, nn, cn, rfl, hnn, hrn⟩ := hn
  clear hv hB hq
  by_cases hx : (1048576 : Int) < (nn : Int)
  · have hb9 := HB.out.1
    clear HSZ HB HR HSQ HRQ
    go_enter Try.func10, Try.ntmps10
    go_wp2
    go_ret
    exact ⟨rfl, hb9⟩
  obtain ⟨hln, hrsn⟩ := hrn (by omega)
  have HTN : Hid (∀ W, Below w.heap.size w W → Calls Try.prog 43 #[.slice an nn cn] W fun e w' => ∃ s g, e = .returned s ∧ IW w' s g NN ∧ W.heap.size ≤ g ∧ Below W.heap.size W w') := fun W hW => toIntS_any _ gn on NN W (hrsn.later hW)
  have hNN : NN.length ≤ 1048576 := by omega
  clear hrn hrsn hln
  go_enter Try.func10, Try.ntmps10
  go_wp2_with fail
  refine HSZ.mono ?_
  rintro e w1 ⟨A, rfl, hb1, hAx, hA⟩
  have b1 := HB.out.1.trans (hb1.mono HB.out.1.size)
  by_cases hneg : A < 0
  · clear hA HSZ HR HB HSQ HRQ
    go_wp2
    go_ret
    exact ⟨rfl, b1⟩
  obtain ⟨hrs, hsm, hlen⟩ := hA (by omega)
  have hrs0 := hrs
  have hcb := (HB.out.2.later hb1).cell
  have HB1 : Hid (BD w1 w.heap.size 51 (.slice a n cap) ∧ Below w.heap.size w w1) := ⟨HB.out.2.later hb1, b1⟩
  go_wp2_with fail
  refine (HSQ.out A w1 (by omega) (by omega) b1).mono ?_
  rintro e w0 ⟨A2, rfl, hb0, hA2x, hA2⟩
  have b0 := b1.trans (hb0.mono b1.size)
  by_cases hneg2 : A2 < 0
  · clear hA hA2 HSZ HR HB HSQ HRQ HB1 hrs hrs0 hcb hsm
    go_wp2
    go_ret
    exact ⟨rfl, b0⟩
  obtain ⟨hrq, hsmq, hQ⟩ := hA2 (by omega)
  have HTQ : Hid (∀ W, Below w.heap.size w W → Calls Try.prog 39 #[.slice aq nq cq] W fun e w' => ∃ g, e = .returned (.slice (some ⟨g, 0, none⟩) Q.length Q.length) ∧ RW 4 acs w' (.slice (some ⟨g, 0, none⟩) Q.length Q.length) g Q ∧ W.heap.size ≤ g ∧ Below W.heap.size W w') := fun W hW => by
    obtain ⟨a', n', c', ev, _, hr⟩ := HRQ.out
    obtain ⟨a2, c2, ev2⟩ := hrq.shape
    have hn : n' = Q.length := by rw [ev] at ev2; simp at ev2; exact ev2.2.1
    refine (toActS_any _ gq oq Q W ((hr (by omega)).2.1.later hW)).mono ?_
    rintro e w' ⟨g, rfl, h1, h2, _, h3⟩
    exact ⟨g, rfl, h2, h1, h3⟩
  have HSL : Hid (SmallL Q) := fun x hx => hsmq x hx
  have HSF : Hid (SmallF L) := hsm
  have HTO : Hid (∀ W, Below w.heap.size w W → Calls Try.prog 30 #[.agg #[.slice a n cap]] W fun e w' => ∃ g, e = .returned (.agg #[.slice (some ⟨g, 0, none⟩) L.length L.length]) ∧ RW 3 fcs w' (.slice (some ⟨g, 0, none⟩) L.length L.length) g L ∧ W.heap.size ≤ g ∧ (0 < L.length → g < w'.heap.size) ∧ Below W.heap.size W w') := fun W hW => by
    obtain ⟨a', n', c', ev, _, hr⟩ := HR.out
    obtain ⟨a2, c2, ev2⟩ := hrs.shape
    have hn : n' = L.length := by rw [ev] at ev2; simp at ev2; exact ev2.2.1
    exact toDisk_some _ g o L W ((hr (by omega)).2.1.later hW)
  have HX1 : Hid (BD w0 w.heap.size 51 (.slice a n cap) ∧ Below w.heap.size w w0) := ⟨HB1.out.1.later hb0, b0⟩
  have hL2 : L.length ≤ 1048576 := hlen
  have hML : (F.cutR L Q x NN).1.length ≤ 1048576 := F.cutR_len Q x NN hlen
  have HSP : Hid (∀ W ga gs ns gm, RS 3 fcs W (.slice (some ⟨ga, 0, none⟩) L.length L.length) ga 0 L → RS 4 acs W (.slice (some ⟨gs, 0, none⟩) Q.length Q.length) gs 0 Q → RS 1 ics W ns gm 0 NN → Calls Try.prog 27 #[.agg #[.slice (some ⟨ga, 0, none⟩) L.length L.length], (.slice (some ⟨gs, 0, none⟩) Q.length Q.length), .int .i64 x, ns] W fun e w' => ∃ u, e = .returned (.tuple #[u, .bool (F.cutR L Q x NN).2]) ∧ DkIn w' W.heap.size u (F.cutR L Q x NN).1 ∧ Below W.heap.size W w') := fun W ga gs ns gm h1 h2 h3 => sCutActs_any ga 0 L.length L gs 0 Q x ns gm 0 NN W h1 HSF.out h2 HSL.out h3
  have HIM : Hid (∀ W ga gs ns gm, RS 3 fcs W (.slice (some ⟨ga, 0, none⟩) L.length L.length) ga 0 L → RS 4 acs W (.slice (some ⟨gs, 0, none⟩) Q.length Q.length) gs 0 Q → RS 1 ics W ns gm 0 NN → Calls Try.prog 26 #[.agg #[.slice (some ⟨ga, 0, none⟩) L.length L.length], (.slice (some ⟨gs, 0, none⟩) Q.length Q.length), .int .i64 x, ns] W fun e w' => ∃ u, e = .returned (.tuple #[u, .bool (F.cutR L Q x NN).2]) ∧ DkIn w' W.heap.size u (F.cutR L Q x NN).1 ∧ Below W.heap.size W w') := fun W ga gs ns gm h1 h2 h3 => CutActs_any ga 0 L.length L gs 0 Q x ns gm 0 NN W h1 HSF.out h2 HSL.out h3
  generalize (F.cutR L Q x NN).1 = M at *
  generalize (F.cutR L Q x NN).2 = R at *
  clear hrs hA HSZ HR HB hb1 b1 hA2 hrq hsmq hsm HSQ HRQ HB1 hb0 b0 hrs0 hcb HSL HSF
  have c1 := HX1.out.1.cell
  -- the specification's answer
  go_wp2_with fail
  refine (HTO.out _ HX1.out.2).mono ?_
  rintro e w2 ⟨p2, rfl, hr2, hp20, hl20, hb2⟩
  have b2 := HX1.out.2.trans (hb2.mono HX1.out.2.size)
  have HX2 : Hid (BD w2 w.heap.size 51 (.slice a n cap) ∧ Below w.heap.size w w2 ∧ RS 3 fcs w2 (.slice (some ⟨p2, 0, none⟩) L.length L.length) p2 0 L) := ⟨HX1.out.1.later hb2, b2, hr2.1⟩
  clear hp20 hl20 hb2 hr2 c1 HX1 b2
  go_wp2_with fail
  refine (HTQ.out _ HX2.out.2.1).mono ?_
  rintro e w3a ⟨g3, rfl, hi3, _, hb3⟩
  have HX3a : Hid (BD w3a w.heap.size 51 (.slice a n cap) ∧ Below w.heap.size w w3a ∧ RS 3 fcs w3a (.slice (some ⟨p2, 0, none⟩) L.length L.length) p2 0 L ∧ RS 4 acs w3a (.slice (some ⟨g3, 0, none⟩) Q.length Q.length) g3 0 Q) := ⟨HX2.out.1.later hb3, HX2.out.2.1.trans (hb3.mono HX2.out.2.1.size), HX2.out.2.2.later hb3, hi3.1⟩
  clear hi3 hb3 HX2
  go_wp2_with fail
  refine (HTN.out _ HX3a.out.2.1).mono ?_
  rintro e w3 ⟨s3, m3, rfl, hi3, _, hb3⟩
  obtain ⟨an3, cn3, hs3⟩ := hi3.rs.shape
  subst hs3
  have HX3 : Hid (BD w3 w.heap.size 51 (.slice a n cap) ∧ Below w.heap.size w w3 ∧ RS 3 fcs w3 (.slice (some ⟨p2, 0, none⟩) L.length L.length) p2 0 L ∧ RS 4 acs w3 (.slice (some ⟨g3, 0, none⟩) Q.length Q.length) g3 0 Q) := ⟨HX3a.out.1.later hb3, HX3a.out.2.1.trans (hb3.mono HX3a.out.2.1.size), HX3a.out.2.2.1.later hb3, HX3a.out.2.2.2.later hb3⟩
  have HI3 : Hid (RS 1 ics w3 (.slice an3 NN.length cn3) m3 0 NN) := hi3.rs
  clear hi3 hb3 HX3a
  go_wp2_with fail
  refine (HSP.out _ p2 g3 _ m3 HX3.out.2.2.1 HX3.out.2.2.2 HI3.out).mono ?_
  rintro e w4 ⟨u, rfl, hu, hb4⟩
  obtain ⟨a4, c4, p4, rfl, hr4, hp4, hl4⟩ := hu.open'
  have b4 := HX3.out.2.1.trans (hb4.mono HX3.out.2.1.size)
  have hw4 := b4.size
  have hA4 : Below w4.heap.size w4 (w4.alloc (.cells #[.slice a4 M.length c4] 26)) := (Below.refl _ _).alloc (Nat.le_refl _) _
  have HX4 : Hid (BD (w4.alloc (.cells #[.slice a4 M.length c4] 26)) w.heap.size 51 (.slice a n cap) ∧ Below w.heap.size w (w4.alloc (.cells #[.slice a4 M.length c4] 26)) ∧ XD (w4.alloc (.cells #[.slice a4 M.length c4] 26)) w4.heap.size (.slice a4 M.length c4) p4 M ∧ (0 < M.length → p4 < w4.heap.size)) := ⟨(HX3.out.1.later hb4).later hA4, b4.trans (hA4.mono b4.size), XD.new hr4, hl4⟩
  have c4' := HX4.out.1.cell
  clear hu hb4 hr4 b4 hA4 HX3 hp4 hl4 HI3
  -- the arguments, anew
  go_wp2_with fail
  refine (HTO.out _ HX4.out.2.1).mono ?_
  rintro e w5 ⟨p5, rfl, hr5, hp50, hl50, hb5⟩
  have hp5 := hp50
  have hl5 := hl50
  have b5 := HX4.out.2.1.trans (hb5.mono HX4.out.2.1.size)
  have hp5' : w4.heap.size + 1 ≤ p5 := by simpa using hp5
  have hA5 : Below w5.heap.size w5 (w5.alloc (.cells #[.slice (some ⟨p5, 0, none⟩) L.length L.length] 26)) := (Below.refl _ _).alloc (Nat.le_refl _) _
  have hs5 : w4.heap.size + 1 ≤ w5.heap.size := by have := hb5.size; simpa using this
  have HX5 : Hid (BD (w5.alloc (.cells #[.slice (some ⟨p5, 0, none⟩) L.length L.length] 26)) w.heap.size 51 (.slice a n cap) ∧ Below w.heap.size w (w5.alloc (.cells #[.slice (some ⟨p5, 0, none⟩) L.length L.length] 26)) ∧ XD (w5.alloc (.cells #[.slice (some ⟨p5, 0, none⟩) L.length L.length] 26)) w4.heap.size (.slice a4 M.length c4) p4 M ∧ XD (w5.alloc (.cells #[.slice (some ⟨p5, 0, none⟩) L.length L.length] 26)) w5.heap.size (.slice (some ⟨p5, 0, none⟩) L.length L.length) p5 L) := ⟨(HX4.out.1.later hb5).later hA5, b5.trans (hA5.mono b5.size), (HX4.out.2.2.1.later hb5).later hA5, XD.new hr5⟩
  have HP : Hid ((0 < M.length → p4 < w4.heap.size) ∧ (0 < L.length → p5 < w5.heap.size)) := ⟨HX4.out.2.2.2, hl5⟩
  clear hp50 hl50 hb5 hr5 b5 hA5 HX4 hp5 hl5 c4'
  go_wp2_with fail
  refine (HTQ.out _ HX5.out.2.1).mono ?_
  rintro e w6a ⟨g6, rfl, hi6, hg6, hb6⟩
  have hg6' : w5.heap.size + 1 ≤ g6 := by simpa using hg6
  have HX6a : Hid (BD w6a w.heap.size 51 (.slice a n cap) ∧ Below w.heap.size w w6a ∧ XD w6a w4.heap.size (.slice a4 M.length c4) p4 M ∧ XD w6a w5.heap.size (.slice (some ⟨p5, 0, none⟩) L.length L.length) p5 L ∧ RW 4 acs w6a (.slice (some ⟨g6, 0, none⟩) Q.length Q.length) g6 Q) := ⟨HX5.out.1.later hb6, HX5.out.2.1.trans (hb6.mono HX5.out.2.1.size), HX5.out.2.2.1.later hb6, HX5.out.2.2.2.later hb6, hi6⟩
  have hs6a : w5.heap.size + 1 ≤ w6a.heap.size := by have := hb6.size; simpa using this
  have hg6l := hi6.lt
  clear hb6 HX5 hi6 hg6
  go_wp2_with fail
  refine (HTN.out _ HX6a.out.2.1).mono ?_
  rintro e w6 ⟨s8, g8, rfl, hi8, hg8, hb6⟩
  obtain ⟨an8, cn8, hs8⟩ := hi8.rs.shape
  subst hs8
  have HX6 : Hid (BD w6 w.heap.size 51 (.slice a n cap) ∧ Below w.heap.size w w6 ∧ XD w6 w4.heap.size (.slice a4 M.length c4) p4 M ∧ XD w6 w5.heap.size (.slice (some ⟨p5, 0, none⟩) L.length L.length) p5 L ∧ RW 4 acs w6 (.slice (some ⟨g6, 0, none⟩) Q.length Q.length) g6 Q) := ⟨HX6a.out.1.later hb6, HX6a.out.2.1.trans (hb6.mono HX6a.out.2.1.size), HX6a.out.2.2.1.later hb6, HX6a.out.2.2.2.1.later hb6, HX6a.out.2.2.2.2.later hb6⟩
  have HI6 : Hid (IW w6 (.slice an8 NN.length cn8) g8 NN) := hi8
  have hs6 : w6a.heap.size ≤ w6.heap.size := hb6.size
  clear hb6 HX6a hi8
  have c6 := HX6.out.2.2.2.1.1.cell
  go_wp2_with fail
  refine (HIM.out _ p5 g6 _ g8 HX6.out.2.2.2.1.2.1 HX6.out.2.2.2.2.1 HI6.out.rs).mono ?_
  rintro e w7 ⟨u, rfl, hu, hb7⟩
  obtain ⟨a7, c7, p7, rfl, hr7, hp7, hl7⟩ := hu.open'
  have b7 := HX6.out.2.1.trans (hb7.mono HX6.out.2.1.size)
  have hA7 : Below w7.heap.size w7 (w7.alloc (.cells #[.slice a7 M.length c7] 26)) := (Below.refl _ _).alloc (Nat.le_refl _) _
  have hs7 : w6.heap.size ≤ w7.heap.size := hb7.size
  have HX7 : Hid (BD (w7.alloc (.cells #[.slice a7 M.length c7] 26)) w.heap.size 51 (.slice a n cap) ∧ Below w.heap.size w (w7.alloc (.cells #[.slice a7 M.length c7] 26)) ∧ XD (w7.alloc (.cells #[.slice a7 M.length c7] 26)) w4.heap.size (.slice a4 M.length c4) p4 M ∧ XD (w7.alloc (.cells #[.slice a7 M.length c7] 26)) w5.heap.size (.slice (some ⟨p5, 0, none⟩) L.length L.length) p5 L ∧ RW 4 acs (w7.alloc (.cells #[.slice a7 M.length c7] 26)) (.slice (some ⟨g6, 0, none⟩) Q.length Q.length) g6 Q ∧ XD (w7.alloc (.cells #[.slice a7 M.length c7] 26)) w7.heap.size (.slice a7 M.length c7) p7 M) :=
    ⟨(HX6.out.1.later hb7).later hA7, b7.trans (hA7.mono b7.size), (HX6.out.2.2.1.later hb7).later hA7, (HX6.out.2.2.2.1.later hb7).later hA7, (HX6.out.2.2.2.2.later hb7).later hA7, XD.new hr7⟩
  have HP7 : Hid ((0 < M.length → p7 < w7.heap.size) ∧ w6.heap.size ≤ p7 ∧ (0 < Q.length → g6 < w6.heap.size)) := ⟨hl7, hp7, HX6.out.2.2.2.2.lt⟩
  have HI7 : Hid (IW (w7.alloc (.cells #[.slice a7 M.length c7] 26)) (.slice an8 NN.length cn8) g8 NN) := (HI6.out.later hb7).later hA7
  have HP8 : Hid ((0 < NN.length → g8 < w6.heap.size) ∧ w6a.heap.size ≤ g8 ∧ (0 < Q.length → g6 < w6a.heap.size)) := ⟨HI6.out.lt, hg8, hg6l⟩
  clear hu hb7 hr7 b7 hA7 HX6 hl7 c6 HI6 hg8 hg6l
  have HS7 : Hid (LwS w (w7.alloc (.cells #[.slice a7 M.length c7] 26)) (.slice a n cap) w4.heap.size (.slice a4 M.length c4) p4 w7.heap.size (.slice a7 M.length c7) p7 M M ∧ XD (w7.alloc (.cells #[.slice a7 M.length c7] 26)) w5.heap.size (.slice (some ⟨p5, 0, none⟩) L.length L.length) p5 L ∧ RW 4 acs (w7.alloc (.cells #[.slice a7 M.length c7] 26)) (.slice (some ⟨g6, 0, none⟩) Q.length Q.length) g6 Q) := ⟨⟨HX7.out.1, HX7.out.2.1, HX7.out.2.2.1, HX7.out.2.2.2.2.2⟩, HX7.out.2.2.2.1, HX7.out.2.2.2.2.1⟩
  obtain ⟨N5, hN5⟩ : ∃ N5, rowF p5 L.length = N5 := ⟨_, rfl⟩
  obtain ⟨N6, hN6⟩ : ∃ N6, rowF g6 Q.length = N6 := ⟨_, rfl⟩
  obtain ⟨N7, hN7⟩ : ∃ N7, rowF p7 M.length = N7 := ⟨_, rfl⟩
  have hww : w.heap.size ≤ w4.heap.size := by
    exact hw4
  obtain ⟨N8, hN8⟩ : ∃ N8, rowF g8 NN.length = N8 := ⟨_, rfl⟩
  have HNE8 : Hid ((0 < NN.length → some g8 ≠ N5) ∧ (0 < NN.length → some g8 ≠ N6) ∧ some w.heap.size ≠ N8 ∧ some w4.heap.size ≠ N8 ∧ (0 < M.length → some p4 ≠ N8) ∧ some w7.heap.size ≠ N8 ∧ (0 < M.length → some p7 ≠ N8) ∧ (∀ k, N8 = some k → w.heap.size ≤ k)) := by
    obtain ⟨q1, q2⟩ := HP.out
    obtain ⟨q3, q4, q5⟩ := HP7.out
    obtain ⟨q6, q7, q8⟩ := HP8.out
    subst hN5 hN6 hN8
    exact ⟨fun h => rowF_ne (fun h' => by have := q2 h'; omega), fun h => rowF_ne (fun h' => by have := q8 h'; omega), rowF_ne (fun _ => by omega), rowF_ne (fun _ => by omega), fun h => rowF_ne (fun _ => by have := q1 h; omega), rowF_ne (fun h => by have := q6 h; omega), fun h => rowF_ne (fun h' => by have := q6 h'; omega), rowF_le (by omega)⟩
  have HN8 : Hid (rowF g8 NN.length = N8) := hN8
  clear hN8
  have HNE : Hid ((some w.heap.size ≠ N5 ∧ some w4.heap.size ≠ N5 ∧ (0 < M.length → some p4 ≠ N5) ∧ some w7.heap.size ≠ N5 ∧ (0 < M.length → some p7 ≠ N5) ∧ (0 < Q.length → some g6 ≠ N5) ∧ (∀ k, N5 = some k → w.heap.size ≤ k))
      ∧ (some w.heap.size ≠ N6 ∧ some w4.heap.size ≠ N6 ∧ (0 < M.length → some p4 ≠ N6) ∧ some w7.heap.size ≠ N6 ∧ (0 < M.length → some p7 ≠ N6) ∧ (∀ k, N6 = some k → w.heap.size ≤ k))
      ∧ (some w.heap.size ≠ N7 ∧ some w4.heap.size ≠ N7 ∧ (0 < M.length → some p4 ≠ N7) ∧ some w7.heap.size ≠ N7 ∧ (∀ k, N7 = some k → w.heap.size ≤ k))) := by
    obtain ⟨q1, q2⟩ := HP.out
    obtain ⟨q3, q4, q5⟩ := HP7.out
    subst hN5 hN6 hN7
    exact ⟨⟨rowF_ne (fun _ => by omega), rowF_ne (fun _ => by omega), fun h => rowF_ne (fun _ => by have := q1 h; omega), rowF_ne (fun h => by have := q2 h; omega), fun h => rowF_ne (fun h' => by have := q2 h'; omega), fun h => rowF_ne (fun h' => by have := q2 h'; omega), rowF_le (by omega)⟩,
      ⟨rowF_ne (fun _ => by omega), rowF_ne (fun _ => by omega), fun h => rowF_ne (fun _ => by have := q1 h; omega), rowF_ne (fun h => by have := q5 h; omega), fun h => rowF_ne (fun h' => by have := q5 h'; omega), rowF_le (by omega)⟩,
      ⟨rowF_ne (fun _ => by omega), rowF_ne (fun _ => by omega), fun h => rowF_ne (fun _ => by have := q1 h; omega), rowF_ne (fun h => by have := q3 h; omega), rowF_le (by omega)⟩⟩
  clear HX7 HP HP7 HP8 hww
  have HN : Hid (rowF p5 L.length = N5 ∧ rowF g6 Q.length = N6 ∧ rowF p7 M.length = N7) := ⟨hN5, hN6, hN7⟩
  clear hN5 hN6 hN7 hp7 hg6' hp5'
  have ca := HS7.out.1.2.2.2.1.cell
  have cb := HS7.out.1.2.2.1.1.cell
  go_wp2_with fail
  refine (eqDisk_yes _ _ p7 0 p4 0 M _ HS7.out.1.2.2.2.2.1 HS7.out.1.2.2.1.2.1).mono ?_
  rintro e w8 ⟨rfl, hb8⟩
  have HS8 : Hid (LwS w w8 (.slice a n cap) w4.heap.size (.slice a4 M.length c4) p4 w7.heap.size (.slice a7 M.length c7) p7 M M ∧ XD w8 w5.heap.size (.slice (some ⟨p5, 0, none⟩) L.length L.length) p5 L ∧ RW 4 acs w8 (.slice (some ⟨g6, 0, none⟩) Q.length Q.length) g6 Q) := ⟨HS7.out.1.later hb8, HS7.out.2.1.later hb8, HS7.out.2.2.later hb8⟩
  have HI8 : Hid (IW w8 (.slice an8 NN.length cn8) g8 NN) := HI7.out.later hb8
  clear HS7 hb8 ca cb HI7
  have d0 := HS8.out.1.1.cell
  have d1 := HS8.out.2.1.1.cell
  have HK : Hid (∀ W, Below w8.heap.size w8 W → W.cell? ⟨w.heap.size, 0, none⟩ = some (.slice a n cap) ∧ W.cell? ⟨w5.heap.size, 0, none⟩ = some (.slice (some ⟨p5, 0, none⟩) L.length L.length)) := fun W hW => ⟨(HS8.out.1.1.later hW).cell, (HS8.out.2.1.1.later hW).cell⟩
  go_wp2
  go_region_held3 (fun W => W.cell? ⟨w.heap.size, 0, none⟩ = some (.slice a n cap) ∧ W.cell? ⟨w5.heap.size, 0, none⟩ = some (.slice (some ⟨p5, 0, none⟩) L.length L.length)) (first | go_keep | exact HK.out _ hb10 | exact HK.out _ hb9) ((first | (go_at_call 30; refine (HTO.out _ HS8.out.1.2.1.drew).mono ?_; rintro e w9 ⟨p9, rfl, hr9, _, _, hb9'⟩; have hb9 : Below w8.heap.size w8 w9 := (Below.refl w8.heap.size w8).drew.trans hb9') | (go_at_call 31; refine (eqDisk_yes _ _ p5 0 p9 0 L _ (HS8.out.2.1.later hb9).2.1 hr9.1).mono ?_; rintro e w10 ⟨rfl, hb10'⟩; have hb10 : Below w8.heap.size w8 w10 := hb9.trans (hb10'.mono hb9.size))))
  have HS10 : Hid (LwS w w10 (.slice a n cap) w4.heap.size (.slice a4 M.length c4) p4 w7.heap.size (.slice a7 M.length c7) p7 M M ∧ XD w10 w5.heap.size (.slice (some ⟨p5, 0, none⟩) L.length L.length) p5 L ∧ RW 4 acs w10 (.slice (some ⟨g6, 0, none⟩) Q.length Q.length) g6 Q) := ⟨HS8.out.1.later hb10, HS8.out.2.1.later hb10, HS8.out.2.2.later hb10⟩
  have HI10 : Hid (IW w10 (.slice an8 NN.length cn8) g8 NN) := HI8.out.later hb10
  clear HS8 hb10 hb10' hb9 hb9' hr9 HK d0 d1 HI8
  go_wp2_with fail
  refine (HTQ.out _ HS10.out.1.2.1).mono ?_
  rintro e w11 ⟨g11, rfl, hi11, _, hb11⟩
  have HS11 : Hid (LwS w w11 (.slice a n cap) w4.heap.size (.slice a4 M.length c4) p4 w7.heap.size (.slice a7 M.length c7) p7 M M ∧ XD w11 w5.heap.size (.slice (some ⟨p5, 0, none⟩) L.length L.length) p5 L ∧ RW 4 acs w11 (.slice (some ⟨g6, 0, none⟩) Q.length Q.length) g6 Q ∧ RW 4 acs w11 (.slice (some ⟨g11, 0, none⟩) Q.length Q.length) g11 Q) := ⟨HS10.out.1.later hb11, HS10.out.2.1.later hb11, HS10.out.2.2.later hb11, hi11⟩
  have HI11 : Hid (IW w11 (.slice an8 NN.length cn8) g8 NN) := HI10.out.later hb11
  clear HS10 hb11 hi11 HI10
  go_wp2_with fail
  refine (eqActS_yes _ _ g6 0 g11 0 Q _ HS11.out.2.2.1.1 HS11.out.2.2.2.1).mono ?_
  rintro e w12 ⟨rfl, hb12⟩
  have HS12 : Hid (LwS w w12 (.slice a n cap) w4.heap.size (.slice a4 M.length c4) p4 w7.heap.size (.slice a7 M.length c7) p7 M M ∧ XD w12 w5.heap.size (.slice (some ⟨p5, 0, none⟩) L.length L.length) p5 L ∧ RW 4 acs w12 (.slice (some ⟨g6, 0, none⟩) Q.length Q.length) g6 Q) := ⟨HS11.out.1.later hb12, HS11.out.2.1.later hb12, HS11.out.2.2.1.later hb12⟩
  have HI12 : Hid (IW w12 (.slice an8 NN.length cn8) g8 NN) := HI11.out.later hb12
  clear HS11 hb12 HI11
  go_wp2_with fail
  refine (HTN.out _ HS12.out.1.2.1).mono ?_
  rintro e w12a ⟨s9, g9, rfl, hi9, _, hb12a⟩
  have HS12a : Hid (LwS w w12a (.slice a n cap) w4.heap.size (.slice a4 M.length c4) p4 w7.heap.size (.slice a7 M.length c7) p7 M M ∧ XD w12a w5.heap.size (.slice (some ⟨p5, 0, none⟩) L.length L.length) p5 L ∧ RW 4 acs w12a (.slice (some ⟨g6, 0, none⟩) Q.length Q.length) g6 Q) := ⟨HS12.out.1.later hb12a, HS12.out.2.1.later hb12a, HS12.out.2.2.later hb12a⟩
  have HI12a : Hid (IW w12a (.slice an8 NN.length cn8) g8 NN ∧ IW w12a s9 g9 NN) := ⟨HI12.out.later hb12a, hi9⟩
  clear HS12 HI12 hb12a hi9
  go_wp2_with fail
  refine (eqIntS_yes _ _ g8 0 g9 0 NN _ HI12a.out.1.rs HI12a.out.2.rs).mono ?_
  rintro e w12b ⟨rfl, hb12b⟩
  have HS12 : Hid (LwS w w12b (.slice a n cap) w4.heap.size (.slice a4 M.length c4) p4 w7.heap.size (.slice a7 M.length c7) p7 M M ∧ XD w12b w5.heap.size (.slice (some ⟨p5, 0, none⟩) L.length L.length) p5 L ∧ RW 4 acs w12b (.slice (some ⟨g6, 0, none⟩) Q.length Q.length) g6 Q) := ⟨HS12a.out.1.later hb12b, HS12a.out.2.1.later hb12b, HS12a.out.2.2.later hb12b⟩
  have HI12 : Hid (IW w12b (.slice an8 NN.length cn8) g8 NN) := HI12a.out.1.later hb12b
  clear HS12a HI12a hb12b
  have cx := HS12.out.2.1.1.cell
  go_wp2_with fail
  refine (markDisk_any _ p5 L 1 1 _ rfl HS12.out.2.1.2 (by omega) (by omega)).mono ?_
  rintro e w13 ⟨rfl, _, hg13⟩
  rw [HN.out.1] at hg13
  have HS13 : Hid (LwS w w13 (.slice a n cap) w4.heap.size (.slice a4 M.length c4) p4 w7.heap.size (.slice a7 M.length c7) p7 M M ∧ RW 4 acs w13 (.slice (some ⟨g6, 0, none⟩) Q.length Q.length) g6 Q) := by
    obtain ⟨n1, n2, n3, n4, n5, n6, n7⟩ := HNE.out.1
    exact ⟨HS12.out.1.grown hg13 n1 n2 n3 n4 n5 n7, HS12.out.2.2.grown hg13 n6⟩
  have HI13 : Hid (IW w13 (.slice an8 NN.length cn8) g8 NN) := HI12.out.grown hg13 HNE8.out.1
  clear HS12 hg13 cx HI12
  obtain ⟨K1, hK1⟩ : ∃ K1 : Nat, 1 + 3 * L.length = K1 := ⟨_, rfl⟩
  rw [hK1]
  go_wp2_with fail
  refine (markActS_any _ g6 Q (K1 : Int) K1 _ rfl HS13.out.2 (by omega) (by omega)).mono ?_
  rintro e w14 ⟨rfl, hg14⟩
  rw [HN.out.2.1] at hg14
  have HI14 : Hid (IW w14 (.slice an8 NN.length cn8) g8 NN) := HI13.out.grown hg14 HNE8.out.2.1
  have HS14 : Hid (LwS w w14 (.slice a n cap) w4.heap.size (.slice a4 M.length c4) p4 w7.heap.size (.slice a7 M.length c7) p7 M M) := by
    obtain ⟨n1, n2, n3, n4, n5, n7⟩ := HNE.out.2.1
    exact HS13.out.1.grown hg14 n1 n2 n3 n4 n5 n7
  obtain ⟨K2, hK2⟩ : ∃ K2 : Nat, K1 + 4 * Q.length = K2 := ⟨_, rfl⟩
  rw [hK2]
  clear HS13 hg14 HI13
  go_wp2_with fail
  refine (markIntS_row _ g8 NN (K2 : Int) K2 _ rfl HI14.out (by omega)).mono ?_
  rintro e w14b ⟨rfl, hg14b⟩
  rw [HN8.out] at hg14b
  have HS14b : Hid (LwS w w14b (.slice a n cap) w4.heap.size (.slice a4 M.length c4) p4 w7.heap.size (.slice a7 M.length c7) p7 M M) := by
    obtain ⟨_, _, n1, n2, n3, n4, n5, n7⟩ := HNE8.out
    exact HS14.out.grown hg14b n1 n2 n3 n4 n5 n7
  clear HS14 HI14 hg14b
  have HS14 : Hid (LwS w w14b (.slice a n cap) w4.heap.size (.slice a4 M.length c4) p4 w7.heap.size (.slice a7 M.length c7) p7 M M) := HS14b.out
  clear HS14b
  obtain ⟨K4, hK4⟩ : ∃ K4 : Nat, K2 + NN.length = K4 := ⟨_, rfl⟩
  rw [hK4]
  have qk : ¬ (K4 : Int) < 0 := by omega
  have ca := HS14.out.2.2.2.1.cell
  have cb := HS14.out.2.2.1.1.cell
  go_wp2_with fail
  refine (eqDisk_yes _ _ p7 0 p4 0 M _ HS14.out.2.2.2.2.1 HS14.out.2.2.1.2.1).mono ?_
  rintro e w15 ⟨rfl, hb15⟩
  have HS15 : Hid (LwS w w15 (.slice a n cap) w4.heap.size (.slice a4 M.length c4) p4 w7.heap.size (.slice a7 M.length c7) p7 M M) := HS14.out.later hb15
  clear HS14 hb15 ca cb
  have ca := HS15.out.2.2.2.1.cell
  go_wp2_with fail
  refine (markDisk_any _ p7 M 1 1 _ rfl HS15.out.2.2.2.2 (by omega) (by omega)).mono ?_
  rintro e w16 ⟨rfl, hr16, hg16⟩
  rw [HN.out.2.2] at hg16
  have HS16 : Hid (LwM w w16 (.slice a n cap) w4.heap.size (.slice a4 M.length c4) p4 w7.heap.size (.slice a7 M.length c7) p7 M) := by
    obtain ⟨n1, n2, n3, n4, n7⟩ := HNE.out.2.2
    exact HS15.out.mark hg16 n1 n2 n3 n4 n7 hr16
  obtain ⟨K3, hK3⟩ : ∃ K3 : Nat, 1 + 3 * M.length = K3 := ⟨_, rfl⟩
  rw [hK3]
  have qk3 : ¬ (K3 : Int) < 0 := by omega
  clear HS15 hg16 hr16 ca
  have ca := HS16.out.2.2.2.1.cell
  go_wp2_with fail
  refine (heldDisk_any _ p7 1 1 M.length _ rfl HS16.out.2.2.2.2.1 (by omega) (by omega)).mono ?_
  rintro e w17 ⟨rfl, hb17⟩
  rw [hK3]
  have HS17 : Hid (LwM w w17 (.slice a n cap) w4.heap.size (.slice a4 M.length c4) p4 w7.heap.size (.slice a7 M.length c7) p7 M) := HS16.out.later hb17
  clear HS16 hb17 ca
  have cx := HS17.out.1.cell
  go_wp2_with fail
  refine (HTO.out _ HS17.out.2.1).mono ?_
  rintro e w18 ⟨p18, rfl, hr18, hp180, hl180, hb18⟩
  have HS18 : Hid (LwM w w18 (.slice a n cap) w4.heap.size (.slice a4 M.length c4) p4 w7.heap.size (.slice a7 M.length c7) p7 M ∧ RS 3 fcs w18 (.slice (some ⟨p18, 0, none⟩) L.length L.length) p18 0 L) := ⟨HS17.out.later hb18, hr18.1⟩
  clear HS17 hb18 hr18 hp180 hl180 cx
  go_wp2_with fail
  refine (HTQ.out _ HS18.out.1.2.1).mono ?_
  rintro e w19a ⟨g19, rfl, hi19, _, hb19⟩
  have HS19a : Hid (LwM w w19a (.slice a n cap) w4.heap.size (.slice a4 M.length c4) p4 w7.heap.size (.slice a7 M.length c7) p7 M ∧ RS 3 fcs w19a (.slice (some ⟨p18, 0, none⟩) L.length L.length) p18 0 L ∧ RS 4 acs w19a (.slice (some ⟨g19, 0, none⟩) Q.length Q.length) g19 0 Q) := ⟨HS18.out.1.later hb19, HS18.out.2.later hb19, hi19.1⟩
  clear HS18 hb19 hi19
  go_wp2_with fail
  refine (HTN.out _ HS19a.out.1.2.1).mono ?_
  rintro e w19 ⟨s21, g21, rfl, hi21, _, hb19⟩
  have HS19 : Hid (LwM w w19 (.slice a n cap) w4.heap.size (.slice a4 M.length c4) p4 w7.heap.size (.slice a7 M.length c7) p7 M ∧ RS 3 fcs w19 (.slice (some ⟨p18, 0, none⟩) L.length L.length) p18 0 L ∧ RS 4 acs w19 (.slice (some ⟨g19, 0, none⟩) Q.length Q.length) g19 0 Q) := ⟨HS19a.out.1.later hb19, HS19a.out.2.1.later hb19, HS19a.out.2.2.later hb19⟩
  have HI19 : Hid (RS 1 ics w19 s21 g21 0 NN) := hi21.rs
  clear HS19a hb19 hi21
  go_wp2_with fail
  refine (HIM.out _ p18 g19 _ g21 HS19.out.2.1 HS19.out.2.2 HI19.out).mono ?_
  rintro e w20 ⟨u, rfl, hu, hb20⟩
  obtain ⟨a20, c20, p20, rfl, hr20, _, _⟩ := hu.open'
  have hA20 : Below w20.heap.size w20 (w20.alloc (.cells #[.slice a20 M.length c20] 26)) := (Below.refl _ _).alloc (Nat.le_refl _) _
  have HS20 : Hid (LwM w (w20.alloc (.cells #[.slice a20 M.length c20] 26)) (.slice a n cap) w4.heap.size (.slice a4 M.length c4) p4 w7.heap.size (.slice a7 M.length c7) p7 M ∧ XD (w20.alloc (.cells #[.slice a20 M.length c20] 26)) w20.heap.size (.slice a20 M.length c20) p20 M) := ⟨(HS19.out.1.later hb20).later hA20, XD.new hr20⟩
  clear HS19 hb20 hr20 hu hA20 HI19
  have ca := HS20.out.2.1.cell
  have cb := HS20.out.1.2.2.1.1.cell
  go_wp2_with fail
  refine (eqDisk_yes _ _ p20 0 p4 0 M _ HS20.out.2.2.1 HS20.out.1.2.2.1.2.1).mono ?_
  rintro e w21 ⟨rfl, hb21⟩
  have HS21 : Hid (LwM w w21 (.slice a n cap) w4.heap.size (.slice a4 M.length c4) p4 w7.heap.size (.slice a7 M.length c7) p7 M) := HS20.out.1.later hb21
  clear HS20 hb21 ca cb
  have ca := HS21.out.2.2.2.1.cell
  go_wp2_with fail
  refine (heldDisk_any _ p7 1 1 M.length _ rfl HS21.out.2.2.2.2.1 (by omega) (by omega)).mono ?_
  rintro e w22 ⟨rfl, hb22⟩
  rw [hK3]
  have hbf := HS21.out.2.1.trans (hb22.mono HS21.out.2.1.size)
  clear HS21 hb22 ca
  go_wp2
  go_ret
  exact ⟨rfl, hbf⟩

end Go.Proofs.Ytbmlphlknolieaa
