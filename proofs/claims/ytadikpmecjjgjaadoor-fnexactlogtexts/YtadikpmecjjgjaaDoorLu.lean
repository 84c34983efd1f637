/-
  The walk of the law FnExactLogTexts: it answers true of every disk and every name.
-/
import Derived.Test.YtadikpmecjjgjaaDoorLv
import Derived.Test.YtadikpmecjjgjaaDoorLsl
namespace Go.Proofs.YtadikpmecjjgjaaDoor
open Go.RowKit Go.BigFrame Go.Sort
set_option linter.unusedVariables false
set_option linter.unusedSimpArgs false

/-- what the law holds: the disk handed in, the copy in its box, the two answers -/
def LuS (w W : World) (va : Value) (px : Nat) (sx : Value) (gx : Nat) (L : List Fl) (vW : Value) (gW : Nat) (vG : Value) (gG : Nat) (M N : List ByteArray) : Prop :=
  BD W w.heap.size 30 va ∧ Below w.heap.size w W ∧ XD W px sx gx L ∧ TS W vW gW M ∧ TS W vG gG N
section
variable {w W W' : World} {va : Value} {px : Nat} {sx : Value} {gx : Nat} {L : List Fl} {vW : Value} {gW : Nat} {vG : Value} {gG : Nat} {M N : List ByteArray}
theorem LuS.later (h : LuS w W va px sx gx L vW gW vG gG M N) (hb : Below W.heap.size W W') : LuS w W' va px sx gx L vW gW vG gG M N :=
  ⟨h.1.later hb, h.2.1.trans (hb.mono h.2.1.size), h.2.2.1.later hb, h.2.2.2.1.later hb, h.2.2.2.2.later hb⟩
theorem LuS.drewN (h : LuS w W va px sx gx L vW gW vG gG M N) (n : Nat) : LuS w (W.drewN n) va px sx gx L vW gW vG gG M N := h.later (below_drn (Below.refl _ _) n)
end

set_option maxRecDepth 100000 in
set_option maxHeartbeats 4000000 in
theorem logTextsLaw_any (v : Value) (g o : Nat) (L : List Fl) (x : ByteArray) (w : World) (hv : IsRowF w v g o L) (hx0 : x.size ≤ maxLen) (hT : Tab w) (hE : Eh w) :
    Calls Tryd.prog 4 #[.agg #[v], .string x] w fun e w' => e = .returned (.bool true) ∧ Below w.heap.size w w' := by
  unfold maxLen at hx0
  have hB : Below w.heap.size w (w.alloc (.cells #[v] 30)) := (Below.refl _ _).alloc (Nat.le_refl _) _
  have HSZ := szDisk_row v g o L 1048576 _ (hv.later hB) (by omega) (by omega)
  have HB : Hid (Below w.heap.size w (w.alloc (.cells #[v] 30)) ∧ BD (w.alloc (.cells #[v] 30)) w.heap.size 30 v) := ⟨hB, BD.new w _ _⟩
  have hsv : ∃ a n cap, v = .slice a n cap := by obtain ⟨a, n, cap, h, _⟩ := hv; exact ⟨a, n, cap, h⟩
  have HR : Hid (IsRowF w v g o L) := hv
  obtain ⟨a, n, cap, rfl⟩ := hsv
  clear hv hB
  by_cases hx : 1048576 < x.size
  · have hb9 := HB.out.1
    clear HSZ HB HR hT hE
    go_enter Tryd.func4, Tryd.ntmps4
    go_wp2
    go_ret
    exact ⟨rfl, hb9⟩
  have HTE : Hid (Tab w ∧ Eh w) := ⟨hT, hE⟩
  clear hT hE
  go_enter Tryd.func4, Tryd.ntmps4
  go_wp2_with fail
  refine HSZ.mono ?_
  rintro e w1 ⟨A, rfl, hb1, _, hA⟩
  have b1 := HB.out.1.trans (hb1.mono HB.out.1.size)
  by_cases hneg : A < 0
  · clear hA HSZ HR HB HTE
    go_wp2
    go_ret
    exact ⟨rfl, b1⟩
  obtain ⟨hrs, hsm, hlen⟩ := hA (by omega)
  have HTO : Hid (∀ W, Below w.heap.size w W → Calls Tryd.prog 13 #[.agg #[.slice a n cap]] W fun e w' => ∃ u, e = .returned u ∧ DkIn w' W.heap.size u L ∧ Below W.heap.size W w') := fun W hW => by
    obtain ⟨a', n', c', ev, _, hr⟩ := HR.out
    obtain ⟨a2, c2, ev2⟩ := hrs.shape
    have hn : n' = L.length := by rw [ev] at ev2; simp at ev2; exact ev2.2.1
    exact toDisk_any _ g o L W ((hr (by omega)).2.1.later hW)
  have HX1 : Hid (BD w1 w.heap.size 30 (.slice a n cap) ∧ Below w.heap.size w w1) := ⟨HB.out.2.later hb1, b1⟩
  have hL2 : L.length ≤ 1048576 := hlen
  have hML := ltT_len L x
  have HSP : Hid (∀ W s ga, RS 3 fcs W s ga 0 L → Calls Tryd.prog 12 #[.agg #[s], .string x] W (LtP W (ltT L x))) := fun W s ga h1 => sLogTexts_any s ga 0 L x W h1 hsm
  have HIM : Hid (∀ W s ga, Below w.heap.size w W → RS 3 fcs W s ga 0 L → Calls Tryd.prog 14 #[.agg #[s], .string x] W (LtP W (ltT L x))) := fun W s ga hW h1 => LogTexts_any s ga 0 L x W h1 hsm (HTE.out.1.later hW HTE.out.1.pos) (HTE.out.2.later hW)
  generalize ltT L x = M at *
  clear hrs hA HSZ HR HB hb1 b1 HTE
  have c1 := HX1.out.1.cell
  -- the specification's answer
  go_wp2_with fail
  refine (HTO.out _ HX1.out.2).mono ?_
  rintro e w2 ⟨u, rfl, hu, hb2⟩
  obtain ⟨a2, c2, p2, rfl, hr2, _, _⟩ := hu.open'
  have b2 := HX1.out.2.trans (hb2.mono HX1.out.2.size)
  have HX2 : Hid (BD w2 w.heap.size 30 (.slice a n cap) ∧ Below w.heap.size w w2 ∧ RS 3 fcs w2 (.slice a2 L.length c2) p2 0 L) := ⟨HX1.out.1.later hb2, b2, hr2.1⟩
  clear hu hb2 hr2 c1 HX1 b2
  go_wp2_with fail
  refine (HSP.out _ _ p2 HX2.out.2.2).mono ?_
  rintro e w3 ⟨vW, rfl, hW3⟩
  obtain ⟨gW, tW3, _⟩ := hW3.ts (by omega)
  have hb3 := hW3.2.1
  have HX3 : Hid (BD w3 w.heap.size 30 (.slice a n cap) ∧ Below w.heap.size w w3 ∧ TS w3 vW gW M) := ⟨HX2.out.1.later hb3, HX2.out.2.1.trans (hb3.mono HX2.out.2.1.size), tW3⟩
  clear hW3 tW3 hb3 HX2
  have c3 := HX3.out.1.cell
  -- the argument, anew, in its box
  go_wp2_with fail
  refine (HTO.out _ HX3.out.2.1).mono ?_
  rintro e w4 ⟨u, rfl, hu, hb4⟩
  obtain ⟨a4, c4, p4, rfl, hr4, hp4, hl4⟩ := hu.open'
  have hA4 : Below w4.heap.size w4 (w4.alloc (.cells #[.slice a4 L.length c4] 36)) := (Below.refl _ _).alloc (Nat.le_refl _) _
  have b4 := HX3.out.2.1.trans (hb4.mono HX3.out.2.1.size)
  have HX4 : Hid (BD (w4.alloc (.cells #[.slice a4 L.length c4] 36)) w.heap.size 30 (.slice a n cap) ∧ Below w.heap.size w (w4.alloc (.cells #[.slice a4 L.length c4] 36)) ∧ XD (w4.alloc (.cells #[.slice a4 L.length c4] 36)) w4.heap.size (.slice a4 L.length c4) p4 L ∧ TS (w4.alloc (.cells #[.slice a4 L.length c4] 36)) vW gW M) := ⟨(HX3.out.1.later hb4).later hA4, b4.trans (hA4.mono b4.size), XD.new hr4, (HX3.out.2.2.later hb4).later hA4⟩
  have HP : Hid ((0 < M.length → gW < w3.heap.size) ∧ w3.heap.size ≤ p4 ∧ (0 < L.length → p4 < w4.heap.size) ∧ w.heap.size < w3.heap.size ∧ w3.heap.size ≤ w4.heap.size) := ⟨HX3.out.2.2.lt, hp4, hl4, HX3.out.1.lt, hb4.size⟩
  clear hu hb4 hr4 b4 hA4 HX3 hp4 hl4 c3
  have c4' := HX4.out.2.2.1.1.cell
  -- the program's answer
  go_wp2_with fail
  refine (HIM.out _ _ p4 HX4.out.2.1 HX4.out.2.2.1.2.1).mono ?_
  rintro e w5 ⟨vG, rfl, hG5⟩
  obtain ⟨gG, tG5, hgB⟩ := hG5.ts (by omega)
  have hb5 := hG5.2.1
  have hgB2 : w4.heap.size + 1 ≤ gG := by simpa using hgB
  have HS5 : Hid (LuS w w5 (.slice a n cap) w4.heap.size (.slice a4 L.length c4) p4 L vW gW vG gG M M) := ⟨HX4.out.1.later hb5, HX4.out.2.1.trans (hb5.mono HX4.out.2.1.size), HX4.out.2.2.1.later hb5, HX4.out.2.2.2.later hb5, tG5⟩
  clear hG5 tG5 hgB hb5 HX4 c4'
  go_wp2_with fail
  refine (eqStringS_yes vG vW gG 0 gW 0 M _ HS5.out.2.2.2.2.ss HS5.out.2.2.2.1.ss).mono ?_
  rintro e w6 ⟨rfl, q, rfl⟩
  have HS6 : Hid (LuS w (w5.drewN q) (.slice a n cap) w4.heap.size (.slice a4 L.length c4) p4 L vW gW vG gG M M) := HS5.out.drewN q
  clear HS5
  generalize w5.drewN q = w8 at *
  have d0 := HS6.out.1.cell
  have d1 := HS6.out.2.2.1.1.cell
  have HK : Hid (∀ W, Below w8.heap.size w8 W → W.cell? ⟨w.heap.size, 0, none⟩ = some (.slice a n cap) ∧ W.cell? ⟨w4.heap.size, 0, none⟩ = some (.slice a4 L.length c4)) := fun W hW => ⟨(HS6.out.1.later hW).cell, (HS6.out.2.2.1.1.later hW).cell⟩
  go_wp2
  go_region_held3 (fun W => W.cell? ⟨w.heap.size, 0, none⟩ = some (.slice a n cap) ∧ W.cell? ⟨w4.heap.size, 0, none⟩ = some (.slice a4 L.length c4)) (first | go_keep | exact HK.out _ hb10 | exact HK.out _ hb9) ((first | (go_at_call 13; refine (HTO.out _ HS6.out.2.1.drew).mono ?_; rintro e w9 ⟨u9, rfl, hu9, hb9'⟩; obtain ⟨a9, c9, p9, rfl, hr9, _, _⟩ := hu9.open'; have hb9 : Below w8.heap.size w8 w9 := (Below.refl w8.heap.size w8).drew.trans hb9') | (go_at_call 16; refine (eqDisk_yes _ _ p4 0 p9 0 L _ (HS6.out.2.2.1.later hb9).2.1 hr9.1).mono ?_; rintro e w10 ⟨rfl, hb10'⟩; have hb10 : Below w8.heap.size w8 w10 := hb9.trans (hb10'.mono hb9.size))))
  have HS10 : Hid (LuS w w10 (.slice a n cap) w4.heap.size (.slice a4 L.length c4) p4 L vW gW vG gG M M) := HS6.out.later hb10
  clear HS6 hb10 hb10' hb9 hb9' hr9 hu9 HK d0 d1
  have cx := HS10.out.2.2.1.1.cell
  -- the argument is written over
  go_wp2_with fail
  refine (markDisk_any _ p4 L 1 1 _ rfl HS10.out.2.2.1.2 (by omega) (by omega)).mono ?_
  rintro e w11 ⟨rfl, _, hg11⟩
  obtain ⟨N4, hN4⟩ : ∃ N4, rowF p4 L.length = N4 := ⟨_, rfl⟩
  have hne4 : some w.heap.size ≠ N4 ∧ (0 < M.length → some gW ≠ N4) ∧ (0 < M.length → some gG ≠ N4) ∧ (∀ k, N4 = some k → w.heap.size ≤ k) := by
    obtain ⟨q1, q2, q3, q4, q5⟩ := HP.out
    subst hN4
    exact ⟨rowF_ne (fun _ => by omega), fun h => rowF_ne (fun _ => by have := q1 h; omega), fun h => rowF_ne (fun h' => by have := q3 h'; omega), rowF_le (by omega)⟩
  rw [hN4] at hg11
  have HS11 : Hid (BD w11 w.heap.size 30 (.slice a n cap) ∧ Below w.heap.size w w11 ∧ TS w11 vW gW M ∧ TS w11 vG gG M) := by
    obtain ⟨h1, h2, h3, h4, h5⟩ := HS10.out
    exact ⟨h1.grown hg11 hne4.1, h2.grown hg11 h2.size hne4.2.2.2, h4.keptG hg11 hne4.2.1, h5.keptG hg11 hne4.2.2.1⟩
  clear HS10 hg11 cx hne4 hN4
  obtain ⟨K1, hK1⟩ : ∃ K1 : Nat, 1 + 3 * L.length = K1 := ⟨_, rfl⟩
  rw [hK1]
  have hk0 : ¬ ((K1 : Int) < 0) := by omega
  clear hK1
  go_wp2_with fail
  refine (eqStringS_yes vG vW gG 0 gW 0 M _ HS11.out.2.2.2.ss HS11.out.2.2.1.ss).mono ?_
  rintro e w12 ⟨rfl, q2, rfl⟩
  have HS12 : Hid (BD (w11.drewN q2) w.heap.size 30 (.slice a n cap) ∧ Below w.heap.size w (w11.drewN q2) ∧ TS (w11.drewN q2) vW gW M ∧ TS (w11.drewN q2) vG gG M) := ⟨HS11.out.1.later (below_drn (Below.refl _ _) q2), below_drn HS11.out.2.1 q2, HS11.out.2.2.1.drewN q2, HS11.out.2.2.2.drewN q2⟩
  clear HS11
  generalize w11.drewN q2 = w13 at *
  -- the answer is written over
  go_wp2_with fail
  refine (markStringS_any vG gG M 1 1 _ rfl HS12.out.2.2.2 (by omega) (by omega)).mono ?_
  rintro e w14 ⟨rfl, tG14, hg14⟩
  have HS14 : Hid (BD w14 w.heap.size 30 (.slice a n cap) ∧ Below w.heap.size w w14 ∧ TS w14 vW gW M ∧ TS w14 vG gG (marks 1 M.length)) := by
    obtain ⟨q1, q2, q3, q4, q5⟩ := HP.out
    obtain ⟨h1, h2, h3, h4⟩ := HS12.out
    have hr : ∀ k, (rowOf gG M = some k → k = gG) := fun k hk => by
      unfold rowOf at hk
      split at hk
      · simp at hk
      · simp at hk; omega
    refine ⟨h1.grown hg14 (fun e => ?_), h2.grown hg14 h2.size (fun k hk => ?_), h3.keptG hg14 (fun hm e => ?_), tG14⟩
    · have := hr _ e.symm; omega
    · have := hr _ hk; omega
    · have := hr _ e.symm; have := q1 hm; omega
  clear HS12 hg14 tG14
  go_wp2_with fail
  refine (heldStringS_any vG gG 1 1 M.length _ rfl HS14.out.2.2.2 (by omega) (by omega)).mono ?_
  rintro e w15 ⟨rfl, hb15⟩
  have HS15 : Hid (BD w15 w.heap.size 30 (.slice a n cap) ∧ Below w.heap.size w w15 ∧ TS w15 vW gW M ∧ TS w15 vG gG (marks 1 M.length)) := ⟨HS14.out.1.later hb15, HS14.out.2.1.trans (hb15.mono HS14.out.2.1.size), HS14.out.2.2.1.later hb15, HS14.out.2.2.2.later hb15⟩
  clear HS14 hb15
  have hne : ¬ (((1 + M.length : Nat) : Int) < 0) := by omega
  have c15 := HS15.out.1.cell
  -- another call
  go_wp2_with fail
  refine (HTO.out _ HS15.out.2.1).mono ?_
  rintro e w16 ⟨u, rfl, hu, hb16⟩
  obtain ⟨a16, c16, p16, rfl, hr16, _, _⟩ := hu.open'
  have HS16 : Hid (Below w.heap.size w w16 ∧ TS w16 vW gW M ∧ TS w16 vG gG (marks 1 M.length) ∧ RS 3 fcs w16 (.slice a16 L.length c16) p16 0 L) := ⟨HS15.out.2.1.trans (hb16.mono HS15.out.2.1.size), HS15.out.2.2.1.later hb16, HS15.out.2.2.2.later hb16, hr16.1⟩
  clear HS15 hb16 hr16 hu c15
  go_wp2_with fail
  refine (HIM.out _ _ p16 HS16.out.1 HS16.out.2.2.2).mono ?_
  rintro e w17 ⟨vH, rfl, hH17⟩
  obtain ⟨gH, tH17, _⟩ := hH17.ts (by omega)
  have hb17 := hH17.2.1
  have HS17 : Hid (Below w.heap.size w w17 ∧ TS w17 vW gW M ∧ TS w17 vG gG (marks 1 M.length) ∧ TS w17 vH gH M) := ⟨HS16.out.1.trans (hb17.mono HS16.out.1.size), HS16.out.2.1.later hb17, HS16.out.2.2.1.later hb17, tH17⟩
  clear HS16 hb17 tH17 hH17
  go_wp2_with fail
  refine (eqStringS_yes vH vW gH 0 gW 0 M _ HS17.out.2.2.2.ss HS17.out.2.1.ss).mono ?_
  rintro e w18 ⟨rfl, q3, rfl⟩
  have HS18 : Hid (Below w.heap.size w (w17.drewN q3) ∧ TS (w17.drewN q3) vG gG (marks 1 M.length)) := ⟨below_drn HS17.out.1 q3, HS17.out.2.2.1.drewN q3⟩
  clear HS17
  generalize w17.drewN q3 = w19 at *
  go_wp2_with fail
  refine (heldStringS_any vG gG 1 1 M.length _ rfl HS18.out.2 (by omega) (by omega)).mono ?_
  rintro e w20 ⟨rfl, hb20⟩
  have b20 := HS18.out.1.trans (hb20.mono HS18.out.1.size)
  go_wp2
  go_ret
  exact ⟨rfl, b20⟩

end Go.Proofs.YtadikpmecjjgjaaDoor
