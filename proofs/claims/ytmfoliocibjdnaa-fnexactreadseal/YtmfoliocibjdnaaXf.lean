/-
  A seal read from its text: the specification's answer.
-/
import Derived.Test.YtmfoliocibjdnaaXd
namespace Go.Proofs.Ytmfoliocibjdnaa
open Go.RowKit Go.BigFrame Go.Sort
set_option linter.unusedVariables false
set_option linter.unusedSimpArgs false

set_option maxRecDepth 100000 in
set_option maxHeartbeats 2000000 in
theorem sReadSeal_any (t : ByteArray) (w : World) (ht : t.size ≤ 1048576) : Calls Try.prog 16 #[.string t] w (RlsP t w) := by
  have HB : Hid (Below w.heap.size w ((w.alloc (.cells zSl 39)).alloc (.cells #[.string t, .int .i64 0, .bool false] 60)) ∧ SlB 39 ((w.alloc (.cells zSl 39)).alloc (.cells #[.string t, .int .i64 0, .bool false] 60)) w.heap.size zHd 0 (.slice none 0 0) (.slice none 0 0) (.slice none 0 0) ∧ Cu ((w.alloc (.cells zSl 39)).alloc (.cells #[.string t, .int .i64 0, .bool false] 60)) (w.heap.size + 1) t 0 false) := by
    refine ⟨((Below.refl _ _).alloc (Nat.le_refl _) _).alloc (by simp) _, (SlB.new _ _ zHd _ _ _ _).later ((Below.refl _ _).alloc (Nat.le_refl _) _), ?_⟩
    exact alloc_fst _ _ (by simp)
  have hne : some w.heap.size ≠ some (w.heap.size + 1) := by simp
  cases hs : LV.shortAt t 0 with
  | none =>
    have HNO : Hid (rlOk t = false) := rl_none hs
    have hc := l09Short_no (w.heap.size + 1) t 0 false _ HB.out.2.2 ht (by omega) (.inr hs)
    have HRH : Hid (∀ W, Calls Try.prog 35 #[.string ⟨#[]⟩] W fun e w' => e = .returned (.tuple #[.agg #[.int .i64 (HV.rdA ⟨#[]⟩).h, .int .i64 (HV.rdA ⟨#[]⟩).e, .string (HV.rdA ⟨#[]⟩).r, .string (HV.rdA ⟨#[]⟩).p], .bool (HV.rdOk ⟨#[]⟩)]) ∧ Below W.heap.size W w') := fun W => sReadHead_any _ W (Nat.zero_le _)
    generalize HV.rdOk ⟨#[]⟩ = b1 at *
    generalize HV.rdA ⟨#[]⟩ = H at *
    obtain ⟨h, e, r, p⟩ := H
    simp only at HRH
    clear hs
    go_enter Try.func16, Try.ntmps16
    go_wp2_with fail
    refine hc.mono ?_
    rintro e1 w1 ⟨⟨rfl, hcu1⟩, hg1⟩
    have HB1 : Hid (Below w.heap.size w w1 ∧ SlB 39 w1 w.heap.size zHd 0 (.slice none 0 0) (.slice none 0 0) (.slice none 0 0) ∧ Cu w1 (w.heap.size + 1) t 0 true) := ⟨HB.out.1.grown hg1 HB.out.1.size (fun k hk => by simp at hk; omega), HB.out.2.1.grown hg1 hne, hcu1⟩
    clear hcu1 hg1 HB hc
    go_wp2_with fail
    refine (HRH.out _).mono ?_
    rintro e2 w2 ⟨rfl, hb2⟩
    have HB2 : Hid (Below w.heap.size w (w2.alloc (.cells #[.int .i64 h, .int .i64 e, .string r, .string p] 36)) ∧ SlB 39 (w2.alloc (.cells #[.int .i64 h, .int .i64 e, .string r, .string p] 36)) w.heap.size zHd 0 (.slice none 0 0) (.slice none 0 0) (.slice none 0 0) ∧ Cu (w2.alloc (.cells #[.int .i64 h, .int .i64 e, .string r, .string p] 36)) (w.heap.size + 1) t 0 true) := by
      have k1 := HB1.out.1.trans (hb2.mono HB1.out.1.size)
      have k2 : Below w2.heap.size w2 (w2.alloc (.cells #[.int .i64 h, .int .i64 e, .string r, .string p] 36)) := (Below.refl _ _).alloc (Nat.le_refl _) _
      exact ⟨k1.alloc k1.size _, (HB1.out.2.1.later hb2).later k2, (HB1.out.2.2.later hb2).later k2⟩
    have cb := HB2.out.2.2.c2
    clear hb2 HB1 HRH
    go_wp2_with (first | (refine wp_storeSl rfl _ _ rfl w.heap.size zHd zHd 0 0 _ _ _ _ _ _ HB2.out.2.1 rfl rfl rfl rfl rfl ?_; intro hst) | fail)
    exact ret_sl2 2 3 w.heap.size zHd 0 _ _ _ _ rfl rfl rfl rfl hst (RlsP.no HNO.out (below_setRL HB2.out.1 (Nat.le_refl _) HB2.out.1.size _))
  | some y =>
    obtain ⟨X, q⟩ := y
    have hz := (short_rest hs).1
    have hxz := LV.shortAt_size hs
    have HRL : Hid (rlOk t = (HV.rdOk X && rsOk (t.extract q t.size)) ∧ rlX t = X ∧ rlR t = t.extract q t.size) := rl_some hs
    have hc := l09Short_yes (w.heap.size + 1) t 0 q X _ HB.out.2.2 ht (by omega) hs
    have hsl := run_endH t (q : Int) q rfl hz
    have huz : (t.extract q t.size).size ≤ 1048576 := by rw [ByteArray.size_extract]; omega
    have HRH : Hid (∀ W, Calls Try.prog 35 #[.string X] W fun e w' => e = .returned (.tuple #[.agg #[.int .i64 (HV.rdA X).h, .int .i64 (HV.rdA X).e, .string (HV.rdA X).r, .string (HV.rdA X).p], .bool (HV.rdOk X)]) ∧ Below W.heap.size W w') := fun W => sReadHead_any X W (by omega)
    have HRS : Hid (∀ W, Calls Try.prog 37 #[.string (t.extract q t.size)] W fun e w' => ∃ a1 n1 c1 a2 n2 c2 a3 n3 c3, e = .returned (.tuple #[.agg #[.int .i64 (rsA (t.extract q t.size)), .slice a1 n1 c1, .slice a2 n2 c2, .slice a3 n3 c3], .bool (rsOk (t.extract q t.size))]) ∧ SigIn w' W.heap.size (.agg #[.int .i64 (rsA (t.extract q t.size)), .slice a1 n1 c1, .slice a2 n2 c2, .slice a3 n3 c3]) (rsA (t.extract q t.size)) (rsO (t.extract q t.size)) (rsS (t.extract q t.size)) (rsD (t.extract q t.size)) ∧ Below W.heap.size W w') := fun W => by
      refine (sReadSig_any _ W huz).mono ?_
      rintro e w' ⟨v, he, hsi, hb⟩
      obtain ⟨v1, v2, v3, g1, g2, g3, rfl, ⟨t1, t2, t3⟩, hh1, hh2⟩ := id hsi
      obtain ⟨a1, c1, rfl, _⟩ := id t1
      obtain ⟨a2, c2, rfl, _⟩ := id t2
      obtain ⟨a3, c3, rfl, _⟩ := id t3
      exact ⟨a1, _, c1, a2, _, c2, a3, _, c3, he, hsi, hb⟩
    clear huz
    have HFN : Hid (∀ W, (HV.rdOk X && rsOk (t.extract q t.size)) = false → Below w.heap.size w W → RlsP t w (.returned (.tuple #[.agg #[.int .i64 0, .int .i64 0, .string ⟨#[]⟩, .string ⟨#[]⟩, .int .i64 0, .slice none 0 0, .slice none 0 0, .slice none 0 0], .bool false])) W) := fun W h hb => RlsP.no (by rw [HRL.out.1]; exact h) hb
    have HFY : Hid (∀ W v, (HV.rdOk X && rsOk (t.extract q t.size)) = true → SealIn W w.heap.size v (HV.rdA X) (rsA (t.extract q t.size)) (rsO (t.extract q t.size)) (rsS (t.extract q t.size)) (rsD (t.extract q t.size)) → Below w.heap.size w W → RlsP t w (.returned (.tuple #[v, .bool true])) W) := fun W v h hv hb => RlsP.yes (by rw [HRL.out.1]; exact h) (by rw [HRL.out.2.1, HRL.out.2.2]; exact hv) hb
    have HTX : Hid ((HV.rdOk X && rsOk (t.extract q t.size)) = true → slOk (HV.rdA X) (rsA (t.extract q t.size)) (rsO (t.extract q t.size)) (rsS (t.extract q t.size)) (rsD (t.extract q t.size)) = true ∧ slB (HV.rdA X) (rsA (t.extract q t.size)) (rsO (t.extract q t.size)) (rsS (t.extract q t.size)) (rsD (t.extract q t.size)) = t) := fun h => by
      have hk : rlOk t = true := by rw [HRL.out.1]; exact h
      have := rl_text hk
      unfold rlH rlA rlO rlS rlD at this
      simp only [hk, if_true, HRL.out.2.1, HRL.out.2.2] at this
      exact this
    have hbz := fun (x : Hd) (a : Int) (o s d : List ByteArray) => slB_size x a o s d
    clear HRL hs
    generalize t.extract q t.size = U at *
    generalize rsA U = A at *
    generalize rsO U = O at *
    generalize rsS U = S at *
    generalize rsD U = D at *
    generalize rsOk U = b2 at *
    generalize HV.rdOk X = b1 at *
    generalize HV.rdA X = H at *
    obtain ⟨h, e, r, p⟩ := H
    simp only at HRH
    have hbz := hbz ⟨h, e, r, p⟩ A O S D
    go_enter Try.func16, Try.ntmps16
    go_wp2_with fail
    refine hc.mono ?_
    rintro e1 w1 ⟨⟨rfl, hcu1⟩, hg1⟩
    have HB1 : Hid (Below w.heap.size w w1 ∧ SlB 39 w1 w.heap.size zHd 0 (.slice none 0 0) (.slice none 0 0) (.slice none 0 0) ∧ Cu w1 (w.heap.size + 1) t q false) := ⟨HB.out.1.grown hg1 HB.out.1.size (fun k hk => by simp at hk; omega), HB.out.2.1.grown hg1 hne, hcu1⟩
    clear hcu1 hg1 HB hc
    go_wp2_with fail
    refine (HRH.out _).mono ?_
    rintro e2 w2 ⟨rfl, hb2⟩
    have HB2 : Hid (Below w.heap.size w (w2.alloc (.cells #[.int .i64 h, .int .i64 e, .string r, .string p] 36)) ∧ SlB 39 (w2.alloc (.cells #[.int .i64 h, .int .i64 e, .string r, .string p] 36)) w.heap.size zHd 0 (.slice none 0 0) (.slice none 0 0) (.slice none 0 0) ∧ Cu (w2.alloc (.cells #[.int .i64 h, .int .i64 e, .string r, .string p] 36)) (w.heap.size + 1) t q false ∧ BH (w2.alloc (.cells #[.int .i64 h, .int .i64 e, .string r, .string p] 36)) w2.heap.size ⟨h, e, r, p⟩) := by
      have k1 := HB1.out.1.trans (hb2.mono HB1.out.1.size)
      have k2 : Below w2.heap.size w2 (w2.alloc (.cells #[.int .i64 h, .int .i64 e, .string r, .string p] 36)) := (Below.refl _ _).alloc (Nat.le_refl _) _
      exact ⟨k1.alloc k1.size _, (HB1.out.2.1.later hb2).later k2, (HB1.out.2.2.later hb2).later k2, BH.new w2 ⟨h, e, r, p⟩⟩
    have cb := HB2.out.2.2.1.c2
    have ca := HB2.out.2.2.1.c1
    clear hb2 HB1 HRH
    cases b1
    · clear hbz HTX
      go_wp2_with (first | (refine wp_storeSl rfl _ _ rfl w.heap.size zHd zHd 0 0 _ _ _ _ _ _ HB2.out.2.1 rfl rfl rfl rfl rfl ?_; intro hst) | fail)
      exact ret_sl2 2 3 w.heap.size zHd 0 _ _ _ _ rfl rfl rfl rfl hst (HFN.out _ rfl (below_setRL HB2.out.1 (Nat.le_refl _) HB2.out.1.size _))
    go_wp2_with fail
    refine (HRS.out _).mono ?_
    rintro e3 w3 ⟨a1, n1, c1, a2, n2, c2, a3, n3, c3, rfl, hsi, hb3⟩
    have hA3 : Below w3.heap.size w3 (w3.alloc (.cells #[.int .i64 A, .slice a1 n1 c1, .slice a2 n2 c2, .slice a3 n3 c3] 37)) := (Below.refl _ _).alloc (Nat.le_refl _) _
    have hA4 : Below (w3.alloc (.cells #[.int .i64 A, .slice a1 n1 c1, .slice a2 n2 c2, .slice a3 n3 c3] 37)).heap.size (w3.alloc (.cells #[.int .i64 A, .slice a1 n1 c1, .slice a2 n2 c2, .slice a3 n3 c3] 37)) ((w3.alloc (.cells #[.int .i64 A, .slice a1 n1 c1, .slice a2 n2 c2, .slice a3 n3 c3] 37)).alloc (.cells #[.int .i64 h, .int .i64 e, .string r, .string p, .int .i64 A, .slice a1 n1 c1, .slice a2 n2 c2, .slice a3 n3 c3] 39)) := (Below.refl _ _).alloc (Nat.le_refl _) _
    have hs3 : (w3.alloc (.cells #[.int .i64 A, .slice a1 n1 c1, .slice a2 n2 c2, .slice a3 n3 c3] 37)).heap.size = w3.heap.size + 1 := by simp
    have z0 := (HB2.out.2.2.2.later hb3).c0
    have z1 := (HB2.out.2.2.2.later hb3).c1
    have z2 := (HB2.out.2.2.2.later hb3).c2
    have z3 := (HB2.out.2.2.2.later hb3).c3
    simp only at z0 z1 z2 z3
    have hlt2 : w2.heap.size < w3.heap.size := (HB2.out.2.2.2.later hb3).lt
    have HB3 : Hid (Below w.heap.size w ((w3.alloc (.cells #[.int .i64 A, .slice a1 n1 c1, .slice a2 n2 c2, .slice a3 n3 c3] 37)).alloc (.cells #[.int .i64 h, .int .i64 e, .string r, .string p, .int .i64 A, .slice a1 n1 c1, .slice a2 n2 c2, .slice a3 n3 c3] 39)) ∧ SlB 39 ((w3.alloc (.cells #[.int .i64 A, .slice a1 n1 c1, .slice a2 n2 c2, .slice a3 n3 c3] 37)).alloc (.cells #[.int .i64 h, .int .i64 e, .string r, .string p, .int .i64 A, .slice a1 n1 c1, .slice a2 n2 c2, .slice a3 n3 c3] 39)) w.heap.size zHd 0 (.slice none 0 0) (.slice none 0 0) (.slice none 0 0) ∧ SlB 39 ((w3.alloc (.cells #[.int .i64 A, .slice a1 n1 c1, .slice a2 n2 c2, .slice a3 n3 c3] 37)).alloc (.cells #[.int .i64 h, .int .i64 e, .string r, .string p, .int .i64 A, .slice a1 n1 c1, .slice a2 n2 c2, .slice a3 n3 c3] 39)) (w3.heap.size + 1) ⟨h, e, r, p⟩ A (.slice a1 n1 c1) (.slice a2 n2 c2) (.slice a3 n3 c3)) := by
      have k1 := HB2.out.1.trans (hb3.mono HB2.out.1.size)
      refine ⟨(k1.alloc k1.size _).alloc (by rw [hs3]; have := k1.size; omega) _, ((HB2.out.2.1.later hb3).later hA3).later hA4, ?_⟩
      have := SlB.new 39 (w3.alloc (.cells #[.int .i64 A, .slice a1 n1 c1, .slice a2 n2 c2, .slice a3 n3 c3] 37)) ⟨h, e, r, p⟩ A (.slice a1 n1 c1) (.slice a2 n2 c2) (.slice a3 n3 c3)
      rw [hs3] at this
      exact this
    have HLT : Hid (w.heap.size < (w2.alloc (.cells #[.int .i64 h, .int .i64 e, .string r, .string p] 36)).heap.size) := HB2.out.2.1.lt
    obtain ⟨v1, v2, v3, g1, g2, g3, hv, ⟨t1, t2, t3⟩, ⟨l1, l2, l3⟩, hgne⟩ := hsi
    simp at hv
    obtain ⟨rfl, rfl, rfl⟩ := hv
    have HTS : Hid ((∀ W, Below ((w3.alloc (.cells #[.int .i64 A, .slice a1 n1 c1, .slice a2 n2 c2, .slice a3 n3 c3] 37)).alloc (.cells #[.int .i64 h, .int .i64 e, .string r, .string p, .int .i64 A, .slice a1 n1 c1, .slice a2 n2 c2, .slice a3 n3 c3] 39)).heap.size ((w3.alloc (.cells #[.int .i64 A, .slice a1 n1 c1, .slice a2 n2 c2, .slice a3 n3 c3] 37)).alloc (.cells #[.int .i64 h, .int .i64 e, .string r, .string p, .int .i64 A, .slice a1 n1 c1, .slice a2 n2 c2, .slice a3 n3 c3] 39)) W → TS W (.slice a1 n1 c1) g1 O ∧ TS W (.slice a2 n2 c2) g2 S ∧ TS W (.slice a3 n3 c3) g3 D) ∧ (w.heap.size < g1 ∧ w.heap.size < g2 ∧ w.heap.size < g3) ∧ (g1 ≠ g2 ∧ g1 ≠ g3 ∧ g2 ≠ g3)) := by
      have := HLT.out
      exact ⟨fun W hW => ⟨((t1.later hA3).later hA4).later hW, ((t2.later hA3).later hA4).later hW, ((t3.later hA3).later hA4).later hW⟩, ⟨by omega, by omega, by omega⟩, hgne⟩
    have hct := sSealText_any ⟨h, e, r, p⟩ A (.slice a1 n1 c1) (.slice a2 n2 c2) (.slice a3 n3 c3) g1 0 g2 0 g3 0 O S D ((w3.alloc (.cells #[.int .i64 A, .slice a1 n1 c1, .slice a2 n2 c2, .slice a3 n3 c3] 37)).alloc (.cells #[.int .i64 h, .int .i64 e, .string r, .string p, .int .i64 A, .slice a1 n1 c1, .slice a2 n2 c2, .slice a3 n3 c3] 39)) (HTS.out.1 _ (Below.refl _ _)).1.ss (HTS.out.1 _ (Below.refl _ _)).2.1.ss (HTS.out.1 _ (Below.refl _ _)).2.2.ss
    simp only at hct
    clear hb3 hA3 hA4 HB2 HRS hsl t1 t2 t3 l1 l2 l3 hgne ca cb HLT
    generalize slB ⟨h, e, r, p⟩ A O S D = Bk at *
    generalize slOk ⟨h, e, r, p⟩ A O S D = bk at *
    go_wp2_with (first | (refine wp_loadSl rfl _ rfl (w3.heap.size + 1) ⟨h, e, r, p⟩ A _ _ _ rfl HB3.out.2.2 ?_) | fail)
    refine hct.mono ?_
    rintro e4 w4 ⟨rfl, hb4⟩
    have HB4 : Hid (Below w.heap.size w w4 ∧ SlB 39 w4 w.heap.size zHd 0 (.slice none 0 0) (.slice none 0 0) (.slice none 0 0) ∧ SlB 39 w4 (w3.heap.size + 1) ⟨h, e, r, p⟩ A (.slice a1 n1 c1) (.slice a2 n2 c2) (.slice a3 n3 c3)) := ⟨HB3.out.1.trans (hb4.mono HB3.out.1.size), HB3.out.2.1.later hb4, HB3.out.2.2.later hb4⟩
    have HSI : Hid (SealIn (w4.setRow w.heap.size #[.int .i64 h, .int .i64 e, .string r, .string p, .int .i64 A, .slice a1 n1 c1, .slice a2 n2 c2, .slice a3 n3 c3]) w.heap.size (.agg #[.int .i64 h, .int .i64 e, .string r, .string p, .int .i64 A, .slice a1 n1 c1, .slice a2 n2 c2, .slice a3 n3 c3]) ⟨h, e, r, p⟩ A O S D) := by
      refine ⟨_, _, _, rfl, ?_⟩
      obtain ⟨t1, t2, t3⟩ := HTS.out.1 _ hb4
      obtain ⟨l1, l2, l3⟩ := HTS.out.2.1
      have hg := grown_setRow w4 w.heap.size #[.int .i64 h, .int .i64 e, .string r, .string p, .int .i64 A, .slice a1 n1 c1, .slice a2 n2 c2, .slice a3 n3 c3]
      exact ⟨_, _, _, g1, g2, g3, rfl, ⟨t1.keptG hg (fun _ => by simp; omega), t2.keptG hg (fun _ => by simp; omega), t3.keptG hg (fun _ => by simp; omega)⟩, ⟨by omega, by omega, by omega⟩, HTS.out.2.2⟩
    clear hct hb4 HTS HB3 z0 z1 z2 z3 hs3
    cases b2
    · clear HTX
      go_wp2_with (first | (refine wp_storeSl rfl _ _ rfl w.heap.size zHd zHd 0 0 _ _ _ _ _ _ HB4.out.2.1 rfl rfl rfl rfl rfl ?_; intro hst) | fail)
      exact ret_sl2 2 3 w.heap.size zHd 0 _ _ _ _ rfl rfl rfl rfl hst (HFN.out _ rfl (below_setRL HB4.out.1 (Nat.le_refl _) HB4.out.1.size _))
    · obtain ⟨rfl, rfl⟩ := HTX.out rfl
      clear HTX
      go_wp2_with (first | (refine wp_loadSl rfl _ rfl (w3.heap.size + 1) ⟨h, e, r, p⟩ A _ _ _ rfl HB4.out.2.2 ?_) | (refine wp_storeSl rfl _ _ rfl w.heap.size zHd ⟨h, e, r, p⟩ 0 A _ _ _ _ _ _ HB4.out.2.1 rfl rfl rfl rfl rfl ?_; intro hst) | fail)
      exact ret_sl2 2 3 w.heap.size ⟨h, e, r, p⟩ A _ _ _ _ rfl rfl rfl rfl hst (HFY.out _ _ rfl HSI.out (below_setRL HB4.out.1 (Nat.le_refl _) HB4.out.1.size _))

end Go.Proofs.Ytmfoliocibjdnaa
