/-
  Texts laid together: Xq.
-/
import Derived.Test.YtaejeemjndmjcaaDoorPkS37
import Derived.Test.YtaejeemjndmjcaaDoorPkS38
import Derived.Test.YtaejeemjndmjcaaDoorPkS4
/-
  Heads sealed: the specification's answer.
-/
namespace Go.Proofs.YtaejeemjndmjcaaDoor
open Go.RowKit Go.BigFrame Go.Sort
set_option linter.unusedVariables false
set_option linter.unusedSimpArgs false

/- the steps of the region -/
theorem step_spec_SealAt {w : World} {ops : Array Oper} {o : Oper} {a : Act} {K : Act → World → Prop} {Q : Exit → Act → World → Prop} {E : Prop} (hw : Region.wanted o (yielded ops a.tmps) = true) (i0 : Nat) (ts : Array TypeId) (ho : o.op = .call { callee := .value (.func 93), args := #[.tmp i0], argTypes := ts }) (v0 : Value) (P : Value → World → Prop) (h0 : a.tmps[i0]?.getD undef = v0)
    (hC : Calls Tryd.prog 93 #[v0] w fun e w' => ∃ r, e = .returned r ∧ P r w') (hk : ∀ r w', P r w' → K (a.put o.dst r) w') : if Region.wanted o (yielded ops a.tmps) = true then Oper.wp Tryd.prog o a w K Q else E := by
  rw [if_pos hw]
  unfold Oper.wp
  unfold execOp
  rw [ho]
  go_simp
  refine hC.mono ?_
  rintro e w' ⟨r, rfl, hp⟩
  exact hk r w' hp
theorem step_spec_HeadHash {w : World} {ops : Array Oper} {o : Oper} {a : Act} {K : Act → World → Prop} {Q : Exit → Act → World → Prop} {E : Prop} (hw : Region.wanted o (yielded ops a.tmps) = true) (i0 : Nat) (ts : Array TypeId) (ho : o.op = .call { callee := .value (.func 11), args := #[.tmp i0], argTypes := ts }) (v0 : Value) (P : Value → World → Prop) (h0 : a.tmps[i0]?.getD undef = v0)
    (hC : Calls Tryd.prog 11 #[v0] w fun e w' => ∃ r, e = .returned r ∧ P r w') (hk : ∀ r w', P r w' → K (a.put o.dst r) w') : if Region.wanted o (yielded ops a.tmps) = true then Oper.wp Tryd.prog o a w K Q else E := by
  rw [if_pos hw]
  unfold Oper.wp
  unfold execOp
  rw [ho]
  go_simp
  refine hC.mono ?_
  rintro e w' ⟨r, rfl, hp⟩
  exact hk r w' hp
theorem step_spec_SignText {w : World} {ops : Array Oper} {o : Oper} {a : Act} {K : Act → World → Prop} {Q : Exit → Act → World → Prop} {E : Prop} (hw : Region.wanted o (yielded ops a.tmps) = true) (i0 i1 i2 i3 : Nat) (ts : Array TypeId) (ho : o.op = .call { callee := .value (.func 91), args := #[.tmp i0, .tmp i1, .tmp i2, .tmp i3], argTypes := ts }) (v0 v1 v2 v3 : Value) (P : Value → World → Prop) (h0 : a.tmps[i0]?.getD undef = v0) (h1 : a.tmps[i1]?.getD undef = v1) (h2 : a.tmps[i2]?.getD undef = v2) (h3 : a.tmps[i3]?.getD undef = v3)
    (hC : Calls Tryd.prog 91 #[v0, v1, v2, v3] w fun e w' => ∃ r, e = .returned r ∧ P r w') (hk : ∀ r w', P r w' → K (a.put o.dst r) w') : if Region.wanted o (yielded ops a.tmps) = true then Oper.wp Tryd.prog o a w K Q else E := by
  rw [if_pos hw]
  unfold Oper.wp
  unfold execOp
  rw [ho]
  go_simp
  refine hC.mono ?_
  rintro e w' ⟨r, rfl, hp⟩
  exact hk r w' hp
theorem step_alloc_Sig {w : World} {ops : Array Oper} {o : Oper} {a : Act} {K : Act → World → Prop} {Q : Exit → Act → World → Prop} {E : Prop} (hw : Region.wanted o (yielded ops a.tmps) = true) (ho : o.op = .alloc 28)
    (hk : ∀ w', SgM w' w.heap.size 0 (.slice none 0 0) (.slice none 0 0) (.slice none 0 0) → Below w.heap.size w w' → K (a.put o.dst (.pointer (some ⟨w.heap.size, 0, none⟩))) w') : if Region.wanted o (yielded ops a.tmps) = true then Oper.wp Tryd.prog o a w K Q else E := by
  rw [if_pos hw]
  have hk2 := hk _ (SgM.new w 0 (.slice none 0 0) (.slice none 0 0) (.slice none 0 0)) ((Below.refl _ _).alloc (Nat.le_refl _) _)
  clear hk
  unfold Oper.wp
  unfold execOp
  rw [ho]
  go_simp
  exact hk2
set_option maxRecDepth 100000 in
set_option maxHeartbeats 2000000 in
theorem sSealHead_any (s : ByteArray) (xa : Option Addr) (n c g o : Nat) (l : List ByteArray) (x : Hd) (w : World) (hs : s.size ≤ 100) (hln : l.length = n) (hn : n ≤ 16) (hv : SS w (.slice xa n c) g o l) :
    Calls Tryd.prog 64 #[.string s, .slice xa n c, .agg #[.int .i64 x.h, .int .i64 x.e, .string x.r, .string x.p]] w (ShP s l x w) := by
  have HH : Hid (∀ W, Calls Tryd.prog 60 #[.agg #[.int .i64 x.h, .int .i64 x.e, .string x.r, .string x.p]] W fun e w' => e = .returned (.bool (HV.okH x)) ∧ Below W.heap.size W w') := fun W => sHeadOk_any x W
  have HG : Hid (∀ W, Calls Tryd.prog 11 #[.agg #[.int .i64 x.h, .int .i64 x.e, .string x.r, .string x.p]] W fun e w' => e = .returned (.string (HV.hashH x)) ∧ Below W.heap.size W w') := fun W => sHeadHash_any x W
  have HA : Hid (∀ W, Calls Tryd.prog 93 #[.int .i64 x.e] W fun e w' => e = .returned (.int .i64 (sealP x.e)) ∧ w' = W) := fun W => sSealAt_any x.e W
  have hz := hashH_le x
  have HS : Hid (∀ W, Below w.heap.size w W → Calls Tryd.prog 91 #[.string s, .slice xa n c, .int .i64 (sealP x.e), .string (HV.hashH x)] W fun e w' => ∃ a1 n1 c1 a2 n2 c2 a3 n3 c3, e = .returned (.tuple #[.agg #[.int .i64 (sgAt s (HV.hashH x) l (sealP x.e)), .slice a1 n1 c1, .slice a2 n2 c2, .slice a3 n3 c3], .bool (okG s (HV.hashH x) l (sealP x.e))]) ∧ SigIn w' W.heap.size (.agg #[.int .i64 (sgAt s (HV.hashH x) l (sealP x.e)), .slice a1 n1 c1, .slice a2 n2 c2, .slice a3 n3 c3]) (sgAt s (HV.hashH x) l (sealP x.e)) (sgO s (HV.hashH x) l (sealP x.e)) (sgS s (HV.hashH x) l (sealP x.e)) (sgD s (HV.hashH x) l (sealP x.e)) ∧ Below W.heap.size W w') := fun W hW => (sSignText_any s _ xa n c g o l _ W hs (by omega) hln hn (hv.below hW hv.lt)).mono fun e w' h => h.slices
  have HFN : Hid (∀ W, shOk s l x = false → Below w.heap.size w W → ShP s l x w (.returned (.tuple #[.agg #[.int .i64 0, .int .i64 0, .string ⟨#[]⟩, .string ⟨#[]⟩, .int .i64 0, .slice none 0 0, .slice none 0 0, .slice none 0 0], .bool false])) W) := fun W h hb => ShP.no h hb
  have HFY : Hid (∀ W v, shOk s l x = true → SealIn W w.heap.size v x (sgAt s (HV.hashH x) l (sealP x.e)) (sgO s (HV.hashH x) l (sealP x.e)) (sgS s (HV.hashH x) l (sealP x.e)) (sgD s (HV.hashH x) l (sealP x.e)) → Below w.heap.size w W → ShP s l x w (.returned (.tuple #[v, .bool true])) W) := fun W v h hv hb => ShP.yes h hv hb
  have HK : Hid (shOk s l x = (HV.okH x && okG s (HV.hashH x) l (sealP x.e))) := rfl
  generalize shOk s l x = bb at *
  generalize ShP s l x w = Post at *
  generalize sgAt s (HV.hashH x) l (sealP x.e) = A at *
  generalize sgO s (HV.hashH x) l (sealP x.e) = O at *
  generalize sgS s (HV.hashH x) l (sealP x.e) = S at *
  generalize sgD s (HV.hashH x) l (sealP x.e) = D at *
  generalize okG s (HV.hashH x) l (sealP x.e) = b2 at *
  generalize HV.hashH x = K at *
  generalize sealP x.e = P at *
  generalize HV.okH x = b1 at *
  obtain ⟨h, e, r, p⟩ := x
  simp only at HH HG HA ⊢
  clear hv hz
  have HX : Hid (Below w.heap.size w ((w.alloc (.cells #[.int .i64 h, .int .i64 e, .string r, .string p] 25)).alloc (.cells zSl 30)) ∧ BH ((w.alloc (.cells #[.int .i64 h, .int .i64 e, .string r, .string p] 25)).alloc (.cells zSl 30)) w.heap.size ⟨h, e, r, p⟩ ∧ SlB 30 ((w.alloc (.cells #[.int .i64 h, .int .i64 e, .string r, .string p] 25)).alloc (.cells zSl 30)) (w.heap.size + 1) zHd 0 (.slice none 0 0) (.slice none 0 0) (.slice none 0 0)) :=
    ⟨((Below.refl _ _).alloc (Nat.le_refl _) _).alloc (by simp) _, (BH.new w ⟨h, e, r, p⟩).later ((Below.refl _ _).alloc (Nat.le_refl _) _), alloc_fst _ _ (by simp)⟩
  go_enter Tryd.func64, Tryd.ntmps64
  go_wp2_with fail
  refine (HH.out _).mono ?_
  rintro e1 w1 ⟨rfl, hb1⟩
  have HX1 : Hid (Below w.heap.size w w1 ∧ BH w1 w.heap.size ⟨h, e, r, p⟩ ∧ SlB 30 w1 (w.heap.size + 1) zHd 0 (.slice none 0 0) (.slice none 0 0) (.slice none 0 0)) := ⟨HX.out.1.trans (hb1.mono HX.out.1.size), HX.out.2.1.later hb1, HX.out.2.2.later hb1⟩
  clear hb1 HX HH
  cases b1
  · have hbb : bb = false := by rw [HK.out]; simp
    subst hbb
    go_wp2_with (first | (refine wp_storeSl rfl _ _ rfl (w.heap.size + 1) zHd zHd 0 0 _ _ _ _ _ _ HX1.out.2.2 rfl rfl rfl rfl rfl ?_; intro hst) | fail)
    exact ret_sl2 6 7 (w.heap.size + 1) zHd 0 _ _ _ _ rfl rfl rfl rfl hst (HFN.out _ (by simp) (below_setRL HX1.out.1 (by omega) HX1.out.1.size _))
  replace HA : Hid (∀ W, Calls Tryd.prog 93 #[.int .i64 e] W fun e w' => ∃ r, e = .returned r ∧ (r = .int .i64 P ∧ Below W.heap.size W w')) := fun W => (HA.out W).mono fun _ _ ⟨he, hw⟩ => ⟨_, he, rfl, hw ▸ Below.refl _ _⟩
  replace HG : Hid (∀ W, Calls Tryd.prog 11 #[.agg #[.int .i64 h, .int .i64 e, .string r, .string p]] W fun e w' => ∃ v, e = .returned v ∧ (v = .string K ∧ Below W.heap.size W w')) := fun W => Calls.ret1 (HG.out W)
  replace HS : Hid (∀ W, Below w1.heap.size w1 W → Calls Tryd.prog 91 #[.string s, .slice xa n c, .int .i64 P, .string K] W fun e w' => ∃ v, e = .returned v ∧ ∃ a1 n1 c1 a2 n2 c2 a3 n3 c3, v = .tuple #[.agg #[.int .i64 A, .slice a1 n1 c1, .slice a2 n2 c2, .slice a3 n3 c3], .bool b2] ∧ SigIn w' W.heap.size (.agg #[.int .i64 A, .slice a1 n1 c1, .slice a2 n2 c2, .slice a3 n3 c3]) A O S D ∧ Below W.heap.size W w') := fun W hW => (HS.out W (HX1.out.1.trans (hW.mono HX1.out.1.size))).mono fun _ _ ⟨a1, n1, c1, a2, n2, c2, a3, n3, c3, he, hs, hb⟩ => ⟨_, he, a1, n1, c1, a2, n2, c2, a3, n3, c3, rfl, hs, hb⟩
  have HSS : Hid (∀ W, Below w1.heap.size w1 W → W.rangeAt w.heap.size 0 (hcs ⟨h, e, r, p⟩)) := fun W hW => (HX1.out.2.1.later hW).range
  have hlt1 : w.heap.size + 1 < w1.heap.size := HX1.out.2.2.lt
  have hb0 : Below w1.heap.size w1 w1.drew := (Below.refl _ _).drew
  go_wp2
  rename_i Kx hKx
  have HEND : ∀ (G : Nat) (a1 : Option Addr) (n1 c1 : Nat) (a2 : Option Addr) (n2 c2 : Nat) (a3 : Option Addr) (n3 c3 : Nat) (W : World), Below w1.heap.size w1 W → w1.heap.size ≤ G → SgM W G A (.slice a1 n1 c1) (.slice a2 n2 c2) (.slice a3 n3 c3) → SigIn W w1.heap.size (.agg #[.int .i64 A, .slice a1 n1 c1, .slice a2 n2 c2, .slice a3 n3 c3]) A O S D → Kx ⟨#[.string s, .slice xa n c, .agg #[.int .i64 h, .int .i64 e, .string r, .string p], undef, undef, .pointer (some ⟨w.heap.size, 0, none⟩), .pointer (some ⟨w.heap.size + 1, 0, none⟩), .bool false, .pointer (some ⟨G, 0, none⟩), .bool b2, .agg #[.int .i64 h, .int .i64 e, .string r, .string p], .bool true, .bool false, undef, .tuple #[.agg #[.int .i64 A, .slice a1 n1 c1, .slice a2 n2 c2, .slice a3 n3 c3], .bool b2], .string s, .slice xa n c, .pointer (some ⟨w.heap.size, 1, none⟩), .int .i64 e, .int .i64 P, .agg #[.int .i64 h, .int .i64 e, .string r, .string p], .string K, .tuple #[.agg #[.int .i64 A, .slice a1 n1 c1, .slice a2 n2 c2, .slice a3 n3 c3], .bool b2], .agg #[.int .i64 A, .slice a1 n1 c1, .slice a2 n2 c2, .slice a3 n3 c3], .bool b2, undef, undef, undef, undef, undef, undef], []⟩ W := by
    intro G a1 n1 c1 a2 n2 c2 a3 n3 c3 W hb hG hsg hsi
    refine hKx _ _ ?_
    have HX3 : Hid (Below w.heap.size w W ∧ BH W w.heap.size ⟨h, e, r, p⟩ ∧ SlB 30 W (w.heap.size + 1) zHd 0 (.slice none 0 0) (.slice none 0 0) (.slice none 0 0) ∧ SgM W G A (.slice a1 n1 c1) (.slice a2 n2 c2) (.slice a3 n3 c3)) := ⟨HX1.out.1.trans (hb.mono HX1.out.1.size), HX1.out.2.1.later hb, HX1.out.2.2.later hb, hsg⟩
    clear HA HG HS HSS hKx
    cases b2
    · have hbb : bb = false := by rw [HK.out]; simp
      subst hbb
      go_wp2_with (first | (refine wp_storeSl rfl _ _ rfl (w.heap.size + 1) zHd zHd 0 0 _ _ _ _ _ _ HX3.out.2.2.1 rfl rfl rfl rfl rfl ?_; intro hst) | fail)
      exact ret_sl2 6 7 (w.heap.size + 1) zHd 0 _ _ _ _ rfl rfl rfl rfl hst (HFN.out _ (by simp) (below_setRL HX3.out.1 (by omega) HX3.out.1.size _))
    · have hbb : bb = true := by rw [HK.out]; simp
      subst hbb
      have HSI : Hid (SealIn (W.setRow (w.heap.size + 1) #[.int .i64 h, .int .i64 e, .string r, .string p, .int .i64 A, .slice a1 n1 c1, .slice a2 n2 c2, .slice a3 n3 c3]) w.heap.size (.agg #[.int .i64 h, .int .i64 e, .string r, .string p, .int .i64 A, .slice a1 n1 c1, .slice a2 n2 c2, .slice a3 n3 c3]) ⟨h, e, r, p⟩ A O S D) := by
        refine ⟨_, _, _, rfl, ?_⟩
        obtain ⟨v1, v2, v3, g1, g2, g3, hv, ⟨t1, t2, t3⟩, ⟨l1, l2, l3⟩, hne⟩ := hsi
        simp at hv
        obtain ⟨rfl, rfl, rfl⟩ := hv
        have hg := grown_setRow W (w.heap.size + 1) #[.int .i64 h, .int .i64 e, .string r, .string p, .int .i64 A, .slice a1 n1 c1, .slice a2 n2 c2, .slice a3 n3 c3]
        exact ⟨_, _, _, g1, g2, g3, rfl, ⟨t1.keptG hg (fun _ => by simp; omega), t2.keptG hg (fun _ => by simp; omega), t3.keptG hg (fun _ => by simp; omega)⟩, ⟨by omega, by omega, by omega⟩, hne⟩
      have z0 := HX3.out.2.1.c0
      have z1 := HX3.out.2.1.c1
      have z2 := HX3.out.2.1.c2
      have z3 := HX3.out.2.1.c3
      simp only at z0 z1 z2 z3
      go_wp2_with (first | (refine wp_loadSig rfl _ rfl G A _ _ _ rfl HX3.out.2.2.2 ?_) | (refine wp_storeSl rfl _ _ rfl (w.heap.size + 1) zHd ⟨h, e, r, p⟩ 0 A _ _ _ _ _ _ HX3.out.2.2.1 rfl rfl rfl rfl rfl ?_; intro hst) | fail)
      exact ret_sl2 6 7 (w.heap.size + 1) ⟨h, e, r, p⟩ A _ _ _ _ rfl rfl rfl rfl hst (HFY.out _ _ (by simp) HSI.out (below_setRL HX3.out.1 (by omega) HX3.out.1.size _))
  refine wp_abs (fun a => FR 31 a [(0, .string s), (1, .slice xa n c), (2, .agg #[.int .i64 h, .int .i64 e, .string r, .string p]), (3, undef), (4, undef), (5, .pointer (some ⟨w.heap.size, 0, none⟩)), (6, .pointer (some ⟨w.heap.size + 1, 0, none⟩)), (7, .bool false), (10, .agg #[.int .i64 h, .int .i64 e, .string r, .string p]), (11, .bool true), (12, .bool false), (13, undef), (25, undef), (26, undef), (27, undef), (28, undef), (29, undef), (30, undef)]) ⟨rfl, rfl, fun p hp => by simp only [List.mem_cons, List.not_mem_nil, or_false] at hp; rcases hp with rfl | rfl | rfl | rfl | rfl | rfl | rfl | rfl | rfl | rfl | rfl | rfl | rfl | rfl | rfl | rfl | rfl | rfl <;> rfl⟩ (fun a F => ?_)
  refine wp_region_held_drew (S := fun W => W.rangeAt w.heap.size 0 (hcs ⟨h, e, r, p⟩)) (by kernel_rfl) (HSS.out _ hb0) (fun hH => ?_)
  have r0 := F.get 0 (.string s) (by simp)
  refine takeF (i := 0) (v := .string s) rfl (by kernel_rfl) (by kernel_rfl) (by kernel_rfl) (fun _ _ _ h => h) (Or.inl ⟨by rfl, fun w hw => by go_simp⟩) hH 15 rfl F (by decide) (by simp) (fun a F => ?_)
  clear r0
  have r1 := F.get 1 (.slice xa n c) (by simp)
  refine takeF (i := 1) (v := .slice xa n c) rfl (by kernel_rfl) (by kernel_rfl) (by kernel_rfl) (fun _ _ _ h => h) (Or.inl ⟨by rfl, fun w hw => by go_simp⟩) hH 16 rfl F (by decide) (by simp) (fun a F => ?_)
  clear r1
  have r5 := F.get 5 (.pointer (some ⟨w.heap.size, 0, none⟩)) (by simp)
  refine takeF (i := 2) (v := .pointer (some ⟨w.heap.size, 1, none⟩)) rfl (by kernel_rfl) (by kernel_rfl) (by kernel_rfl) (fun _ _ _ h => h) (Or.inl ⟨by rfl, fun w hw => by go_simp⟩) hH 17 rfl F (by decide) (by simp) (fun a F => ?_)
  clear r5
  have r17 := F.get 17 (.pointer (some ⟨w.heap.size, 1, none⟩)) (by simp)
  refine takeF (i := 3) (v := .int .i64 e) rfl (by kernel_rfl) (by kernel_rfl) (by kernel_rfl) (fun _ _ _ h => h) (Or.inl ⟨by rfl, fun w hw => by have hw2 := hw 1 _ rfl; simp only [Nat.zero_add] at hw2; go_simp⟩) hH 18 rfl F (by decide) (by simp) (fun a F => ?_)
  clear r17
  refine takeF (i := 5) (v := .agg #[.int .i64 h, .int .i64 e, .string r, .string p]) rfl (by kernel_rfl) (by kernel_rfl) (by kernel_rfl) (fun _ _ _ h => h) (yieldsIf_load_mid (by rfl) _ _ rfl w.heap.size 0 (F.eval 5 _ (by simp)) (hcs ⟨h, e, r, p⟩) _ (fun w h => h) Tryd.underlying25 rfl sizeHead) hH 20 rfl F (by decide) (by simp) (fun a F => ?_)
  refine wpAnyH_ready (rs := [4, 11]) (by kernel_rfl) (by simp) ?_
  refine AllReadyH.cons rfl (fun K' hK' => ?_) (AllReadyH.cons rfl (fun K' hK' => ?_) AllReadyH.nil)
  · refine step_spec_SealAt (by rfl) 18 _ rfl _ _ (F.get 18 _ (by simp)) (HA.out _) ?_
    rintro rv1 xw1 ⟨rfl, kb1⟩
    have hb1 := hb0.trans (kb1.mono hb0.size)
    refine openK (v := .int .i64 P) 19 rfl F (by decide) (by simp) (fun a F => ?_)
    refine hK'.out _ _ (HSS.out _ hb1) (fun hH => ?_)
    refine wpAnyH_ready (rs := [6, 11]) (by kernel_rfl) (by simp) ?_
    refine AllReadyH.cons rfl (fun K' hK' => ?_) (AllReadyH.cons rfl (fun K' hK' => ?_) AllReadyH.nil)
    · refine step_spec_HeadHash (by rfl) 20 _ rfl _ _ (F.get 20 _ (by simp)) (HG.out _) ?_
      rintro rv2 xw2 ⟨rfl, kb2⟩
      have hb2 := hb1.trans (kb2.mono hb1.size)
      refine openK (v := .string K) 21 rfl F (by decide) (by simp) (fun a F => ?_)
      refine hK'.out _ _ (HSS.out _ hb2) (fun hH => ?_)
      refine wpAnyH_ready (rs := [7, 11]) (by kernel_rfl) (by simp) ?_
      refine AllReadyH.cons rfl (fun K' hK' => ?_) (AllReadyH.cons rfl (fun K' hK' => ?_) AllReadyH.nil)
      · refine step_spec_SignText (by rfl) 15 16 19 21 _ rfl _ _ _ _ _ (F.get 15 _ (by simp)) (F.get 16 _ (by simp)) (F.get 19 _ (by simp)) (F.get 21 _ (by simp)) (HS.out _ hb2) ?_
        rintro rv3 xw3 ⟨a1, n1, c1, a2, n2, c2, a3, n3, c3, rfl, hsi, kb3⟩
        have hb3 := hb2.trans (kb3.mono hb2.size)
        obtain ⟨v1, v2, v3, g1, g2, g3, hv, ⟨t1, t2, t3⟩, ⟨l1, l2, l3⟩, hgne⟩ := hsi
        simp at hv
        obtain ⟨rfl, rfl, rfl⟩ := hv
        have hl0 := hb2.size
        refine openK (v := .tuple #[.agg #[.int .i64 A, .slice a1 n1 c1, .slice a2 n2 c2, .slice a3 n3 c3], .bool b2]) 22 rfl F (by decide) (by simp) (fun a F => ?_)
        refine hK'.out _ _ (HSS.out _ hb3) (fun hH => ?_)
        have r22 := F.get 22 (.tuple #[.agg #[.int .i64 A, .slice a1 n1 c1, .slice a2 n2 c2, .slice a3 n3 c3], .bool b2]) (by simp)
        refine takeF (i := 8) (v := .tuple #[.agg #[.int .i64 A, .slice a1 n1 c1, .slice a2 n2 c2, .slice a3 n3 c3], .bool b2]) rfl (by kernel_rfl) (by kernel_rfl) (by kernel_rfl) (fun _ _ _ h => h) (Or.inl ⟨by rfl, fun w hw => by go_simp⟩) hH 14 rfl F (by decide) (by simp) (fun a F => ?_)
        clear r22
        have r14 := F.get 14 (.tuple #[.agg #[.int .i64 A, .slice a1 n1 c1, .slice a2 n2 c2, .slice a3 n3 c3], .bool b2]) (by simp)
        refine takeF (i := 9) (v := .agg #[.int .i64 A, .slice a1 n1 c1, .slice a2 n2 c2, .slice a3 n3 c3]) rfl (by kernel_rfl) (by kernel_rfl) (by kernel_rfl) (fun _ _ _ h => h) (Or.inl ⟨by rfl, fun w hw => by go_simp⟩) hH 23 rfl F (by decide) (by simp) (fun a F => ?_)
        clear r14
        have r14 := F.get 14 (.tuple #[.agg #[.int .i64 A, .slice a1 n1 c1, .slice a2 n2 c2, .slice a3 n3 c3], .bool b2]) (by simp)
        refine takeF (i := 10) (v := .bool b2) rfl (by kernel_rfl) (by kernel_rfl) (by kernel_rfl) (fun _ _ _ h => h) (Or.inl ⟨by rfl, fun w hw => by go_simp⟩) hH 24 rfl F (by decide) (by simp) (fun a F => ?_)
        clear r14
        refine wpAnyH_ready (rs := [11]) (by kernel_rfl) (by simp) ?_
        refine AllReadyH.cons rfl (fun K' hK' => ?_) AllReadyH.nil
        refine step_alloc_Sig (by rfl) rfl ?_
        rintro xw4 hbx kb4
        have hb4 := hb3.trans (kb4.mono hb3.size)
        have hG := hb3.size
        have m1 : 0 < O.length → g1 ≠ xw3.heap.size := fun hp => by have := t1.lt hp; omega
        have m2 : 0 < S.length → g2 ≠ xw3.heap.size := fun hp => by have := t2.lt hp; omega
        have m3 : 0 < D.length → g3 ≠ xw3.heap.size := fun hp => by have := t3.lt hp; omega
        replace t1 := t1.later kb4
        replace t2 := t2.later kb4
        replace t3 := t3.later kb4
        refine openK (v := .pointer (some ⟨xw3.heap.size, 0, none⟩)) 8 rfl F (by decide) (by simp) (fun a F => ?_)
        refine hK'.out _ _ (HSS.out _ hb4) (fun hH => ?_)
        refine wpAnyH_ready (rs := [12]) (by kernel_rfl) (by simp) ?_
        refine AllReadyH.cons rfl (fun K' hK' => ?_) AllReadyH.nil
        refine step_store_Sig (by rfl) 8 23 rfl rfl xw3.heap.size _ A _ _ _ (.slice a1 n1 c1) (.slice a2 n2 c2) (.slice a3 n3 c3) hbx (F.get 8 _ (by simp)) (F.get 23 _ (by simp)) rfl rfl rfl ?_
        intro hst
        have hb5 := below_setRL hb4 hG hb4.size #[.int .i64 A, .slice a1 n1 c1, .slice a2 n2 c2, .slice a3 n3 c3]
        have hgr := grown_setRow xw4 xw3.heap.size #[.int .i64 A, .slice a1 n1 c1, .slice a2 n2 c2, .slice a3 n3 c3]
        have hsi : SigIn (xw4.setRow xw3.heap.size #[.int .i64 A, .slice a1 n1 c1, .slice a2 n2 c2, .slice a3 n3 c3]) w1.heap.size (.agg #[.int .i64 A, .slice a1 n1 c1, .slice a2 n2 c2, .slice a3 n3 c3]) A O S D := ⟨_, _, _, g1, g2, g3, rfl, ⟨t1.keptG hgr (fun hp e => m1 hp (Option.some.inj e)), t2.keptG hgr (fun hp e => m2 hp (Option.some.inj e)), t3.keptG hgr (fun hp e => m3 hp (Option.some.inj e))⟩, ⟨by omega, by omega, by omega⟩, hgne⟩
        refine hK'.out _ _ (HSS.out _ hb5) (fun hH => ?_)
        have r24 := F.get 24 (.bool b2) (by simp)
        refine takeF (i := 13) (v := .bool b2) rfl (by kernel_rfl) (by kernel_rfl) (by kernel_rfl) (fun _ _ _ h => h) (Or.inl ⟨by rfl, fun w hw => by go_simp⟩) hH 9 rfl F (by decide) (by simp) (fun a F => ?_)
        clear r24
        refine wpAnyH_done (by kernel_rfl) ?_ _
        have ha : a = ⟨#[.string s, .slice xa n c, .agg #[.int .i64 h, .int .i64 e, .string r, .string p], undef, undef, .pointer (some ⟨w.heap.size, 0, none⟩), .pointer (some ⟨w.heap.size + 1, 0, none⟩), .bool false, .pointer (some ⟨xw3.heap.size, 0, none⟩), .bool b2, .agg #[.int .i64 h, .int .i64 e, .string r, .string p], .bool true, .bool false, undef, .tuple #[.agg #[.int .i64 A, .slice a1 n1 c1, .slice a2 n2 c2, .slice a3 n3 c3], .bool b2], .string s, .slice xa n c, .pointer (some ⟨w.heap.size, 1, none⟩), .int .i64 e, .int .i64 P, .agg #[.int .i64 h, .int .i64 e, .string r, .string p], .string K, .tuple #[.agg #[.int .i64 A, .slice a1 n1 c1, .slice a2 n2 c2, .slice a3 n3 c3], .bool b2], .agg #[.int .i64 A, .slice a1 n1 c1, .slice a2 n2 c2, .slice a3 n3 c3], .bool b2, undef, undef, undef, undef, undef, undef], []⟩ := by
          refine FR.close F _ rfl ?_
          intro i hi
          match i, hi with
          | 0, _ => exact F.at 0 _ (by simp)
          | 1, _ => exact F.at 1 _ (by simp)
          | 2, _ => exact F.at 2 _ (by simp)
          | 3, _ => exact F.at 3 _ (by simp)
          | 4, _ => exact F.at 4 _ (by simp)
          | 5, _ => exact F.at 5 _ (by simp)
          | 6, _ => exact F.at 6 _ (by simp)
          | 7, _ => exact F.at 7 _ (by simp)
          | 8, _ => exact F.at 8 _ (by simp)
          | 9, _ => exact F.at 9 _ (by simp)
          | 10, _ => exact F.at 10 _ (by simp)
          | 11, _ => exact F.at 11 _ (by simp)
          | 12, _ => exact F.at 12 _ (by simp)
          | 13, _ => exact F.at 13 _ (by simp)
          | 14, _ => exact F.at 14 _ (by simp)
          | 15, _ => exact F.at 15 _ (by simp)
          | 16, _ => exact F.at 16 _ (by simp)
          | 17, _ => exact F.at 17 _ (by simp)
          | 18, _ => exact F.at 18 _ (by simp)
          | 19, _ => exact F.at 19 _ (by simp)
          | 20, _ => exact F.at 20 _ (by simp)
          | 21, _ => exact F.at 21 _ (by simp)
          | 22, _ => exact F.at 22 _ (by simp)
          | 23, _ => exact F.at 23 _ (by simp)
          | 24, _ => exact F.at 24 _ (by simp)
          | 25, _ => exact F.at 25 _ (by simp)
          | 26, _ => exact F.at 26 _ (by simp)
          | 27, _ => exact F.at 27 _ (by simp)
          | 28, _ => exact F.at 28 _ (by simp)
          | 29, _ => exact F.at 29 _ (by simp)
          | 30, _ => exact F.at 30 _ (by simp)
          | k + 31, hk => exact absurd hk (by simp)
        subst ha
        exact HEND xw3.heap.size _ _ _ _ _ _ _ _ _ _ hb5 hG hst hsi
      · refine step_alloc_Sig (by rfl) rfl ?_
        rintro xw6 hbx kb6
        have hb6 := hb2.trans (kb6.mono hb2.size)
        have hG := hb2.size
        refine openK (v := .pointer (some ⟨xw2.heap.size, 0, none⟩)) 8 rfl F (by decide) (by simp) (fun a F => ?_)
        refine hK'.out _ _ (HSS.out _ hb6) (fun hH => ?_)
        refine wpAnyH_ready (rs := [7]) (by kernel_rfl) (by simp) ?_
        refine AllReadyH.cons rfl (fun K' hK' => ?_) AllReadyH.nil
        refine step_spec_SignText (by rfl) 15 16 19 21 _ rfl _ _ _ _ _ (F.get 15 _ (by simp)) (F.get 16 _ (by simp)) (F.get 19 _ (by simp)) (F.get 21 _ (by simp)) (HS.out _ hb6) ?_
        rintro rv7 xw7 ⟨a1, n1, c1, a2, n2, c2, a3, n3, c3, rfl, hsi, kb7⟩
        have hb7 := hb6.trans (kb7.mono hb6.size)
        obtain ⟨v1, v2, v3, g1, g2, g3, hv, ⟨t1, t2, t3⟩, ⟨l1, l2, l3⟩, hgne⟩ := hsi
        simp at hv
        obtain ⟨rfl, rfl, rfl⟩ := hv
        have hl0 := hb6.size
        have m1 : 0 < O.length → g1 ≠ xw2.heap.size := fun _ => by have := hbx.lt; omega
        have m2 : 0 < S.length → g2 ≠ xw2.heap.size := fun _ => by have := hbx.lt; omega
        have m3 : 0 < D.length → g3 ≠ xw2.heap.size := fun _ => by have := hbx.lt; omega
        replace hbx := hbx.later kb7
        refine openK (v := .tuple #[.agg #[.int .i64 A, .slice a1 n1 c1, .slice a2 n2 c2, .slice a3 n3 c3], .bool b2]) 22 rfl F (by decide) (by simp) (fun a F => ?_)
        refine hK'.out _ _ (HSS.out _ hb7) (fun hH => ?_)
        have r22 := F.get 22 (.tuple #[.agg #[.int .i64 A, .slice a1 n1 c1, .slice a2 n2 c2, .slice a3 n3 c3], .bool b2]) (by simp)
        refine takeF (i := 8) (v := .tuple #[.agg #[.int .i64 A, .slice a1 n1 c1, .slice a2 n2 c2, .slice a3 n3 c3], .bool b2]) rfl (by kernel_rfl) (by kernel_rfl) (by kernel_rfl) (fun _ _ _ h => h) (Or.inl ⟨by rfl, fun w hw => by go_simp⟩) hH 14 rfl F (by decide) (by simp) (fun a F => ?_)
        clear r22
        have r14 := F.get 14 (.tuple #[.agg #[.int .i64 A, .slice a1 n1 c1, .slice a2 n2 c2, .slice a3 n3 c3], .bool b2]) (by simp)
        refine takeF (i := 9) (v := .agg #[.int .i64 A, .slice a1 n1 c1, .slice a2 n2 c2, .slice a3 n3 c3]) rfl (by kernel_rfl) (by kernel_rfl) (by kernel_rfl) (fun _ _ _ h => h) (Or.inl ⟨by rfl, fun w hw => by go_simp⟩) hH 23 rfl F (by decide) (by simp) (fun a F => ?_)
        clear r14
        have r14 := F.get 14 (.tuple #[.agg #[.int .i64 A, .slice a1 n1 c1, .slice a2 n2 c2, .slice a3 n3 c3], .bool b2]) (by simp)
        refine takeF (i := 10) (v := .bool b2) rfl (by kernel_rfl) (by kernel_rfl) (by kernel_rfl) (fun _ _ _ h => h) (Or.inl ⟨by rfl, fun w hw => by go_simp⟩) hH 24 rfl F (by decide) (by simp) (fun a F => ?_)
        clear r14
        refine wpAnyH_ready (rs := [12]) (by kernel_rfl) (by simp) ?_
        refine AllReadyH.cons rfl (fun K' hK' => ?_) AllReadyH.nil
        refine step_store_Sig (by rfl) 8 23 rfl rfl xw2.heap.size _ A _ _ _ (.slice a1 n1 c1) (.slice a2 n2 c2) (.slice a3 n3 c3) hbx (F.get 8 _ (by simp)) (F.get 23 _ (by simp)) rfl rfl rfl ?_
        intro hst
        have hb8 := below_setRL hb7 hG hb7.size #[.int .i64 A, .slice a1 n1 c1, .slice a2 n2 c2, .slice a3 n3 c3]
        have hgr := grown_setRow xw7 xw2.heap.size #[.int .i64 A, .slice a1 n1 c1, .slice a2 n2 c2, .slice a3 n3 c3]
        have hsi : SigIn (xw7.setRow xw2.heap.size #[.int .i64 A, .slice a1 n1 c1, .slice a2 n2 c2, .slice a3 n3 c3]) w1.heap.size (.agg #[.int .i64 A, .slice a1 n1 c1, .slice a2 n2 c2, .slice a3 n3 c3]) A O S D := ⟨_, _, _, g1, g2, g3, rfl, ⟨t1.keptG hgr (fun hp e => m1 hp (Option.some.inj e)), t2.keptG hgr (fun hp e => m2 hp (Option.some.inj e)), t3.keptG hgr (fun hp e => m3 hp (Option.some.inj e))⟩, ⟨by omega, by omega, by omega⟩, hgne⟩
        refine hK'.out _ _ (HSS.out _ hb8) (fun hH => ?_)
        have r24 := F.get 24 (.bool b2) (by simp)
        refine takeF (i := 13) (v := .bool b2) rfl (by kernel_rfl) (by kernel_rfl) (by kernel_rfl) (fun _ _ _ h => h) (Or.inl ⟨by rfl, fun w hw => by go_simp⟩) hH 9 rfl F (by decide) (by simp) (fun a F => ?_)
        clear r24
        refine wpAnyH_done (by kernel_rfl) ?_ _
        have ha : a = ⟨#[.string s, .slice xa n c, .agg #[.int .i64 h, .int .i64 e, .string r, .string p], undef, undef, .pointer (some ⟨w.heap.size, 0, none⟩), .pointer (some ⟨w.heap.size + 1, 0, none⟩), .bool false, .pointer (some ⟨xw2.heap.size, 0, none⟩), .bool b2, .agg #[.int .i64 h, .int .i64 e, .string r, .string p], .bool true, .bool false, undef, .tuple #[.agg #[.int .i64 A, .slice a1 n1 c1, .slice a2 n2 c2, .slice a3 n3 c3], .bool b2], .string s, .slice xa n c, .pointer (some ⟨w.heap.size, 1, none⟩), .int .i64 e, .int .i64 P, .agg #[.int .i64 h, .int .i64 e, .string r, .string p], .string K, .tuple #[.agg #[.int .i64 A, .slice a1 n1 c1, .slice a2 n2 c2, .slice a3 n3 c3], .bool b2], .agg #[.int .i64 A, .slice a1 n1 c1, .slice a2 n2 c2, .slice a3 n3 c3], .bool b2, undef, undef, undef, undef, undef, undef], []⟩ := by
          refine FR.close F _ rfl ?_
          intro i hi
          match i, hi with
          | 0, _ => exact F.at 0 _ (by simp)
          | 1, _ => exact F.at 1 _ (by simp)
          | 2, _ => exact F.at 2 _ (by simp)
          | 3, _ => exact F.at 3 _ (by simp)
          | 4, _ => exact F.at 4 _ (by simp)
          | 5, _ => exact F.at 5 _ (by simp)
          | 6, _ => exact F.at 6 _ (by simp)
          | 7, _ => exact F.at 7 _ (by simp)
          | 8, _ => exact F.at 8 _ (by simp)
          | 9, _ => exact F.at 9 _ (by simp)
          | 10, _ => exact F.at 10 _ (by simp)
          | 11, _ => exact F.at 11 _ (by simp)
          | 12, _ => exact F.at 12 _ (by simp)
          | 13, _ => exact F.at 13 _ (by simp)
          | 14, _ => exact F.at 14 _ (by simp)
          | 15, _ => exact F.at 15 _ (by simp)
          | 16, _ => exact F.at 16 _ (by simp)
          | 17, _ => exact F.at 17 _ (by simp)
          | 18, _ => exact F.at 18 _ (by simp)
          | 19, _ => exact F.at 19 _ (by simp)
          | 20, _ => exact F.at 20 _ (by simp)
          | 21, _ => exact F.at 21 _ (by simp)
          | 22, _ => exact F.at 22 _ (by simp)
          | 23, _ => exact F.at 23 _ (by simp)
          | 24, _ => exact F.at 24 _ (by simp)
          | 25, _ => exact F.at 25 _ (by simp)
          | 26, _ => exact F.at 26 _ (by simp)
          | 27, _ => exact F.at 27 _ (by simp)
          | 28, _ => exact F.at 28 _ (by simp)
          | 29, _ => exact F.at 29 _ (by simp)
          | 30, _ => exact F.at 30 _ (by simp)
          | k + 31, hk => exact absurd hk (by simp)
        subst ha
        exact HEND xw2.heap.size _ _ _ _ _ _ _ _ _ _ hb8 hG hst hsi
    · refine step_alloc_Sig (by rfl) rfl ?_
      rintro xw9 hbx kb9
      have hb9 := hb1.trans (kb9.mono hb1.size)
      have hG := hb1.size
      refine openK (v := .pointer (some ⟨xw1.heap.size, 0, none⟩)) 8 rfl F (by decide) (by simp) (fun a F => ?_)
      refine hK'.out _ _ (HSS.out _ hb9) (fun hH => ?_)
      refine wpAnyH_ready (rs := [6]) (by kernel_rfl) (by simp) ?_
      refine AllReadyH.cons rfl (fun K' hK' => ?_) AllReadyH.nil
      refine step_spec_HeadHash (by rfl) 20 _ rfl _ _ (F.get 20 _ (by simp)) (HG.out _) ?_
      rintro rv10 xw10 ⟨rfl, kb10⟩
      have hb10 := hb9.trans (kb10.mono hb9.size)
      replace hbx := hbx.later kb10
      refine openK (v := .string K) 21 rfl F (by decide) (by simp) (fun a F => ?_)
      refine hK'.out _ _ (HSS.out _ hb10) (fun hH => ?_)
      refine wpAnyH_ready (rs := [7]) (by kernel_rfl) (by simp) ?_
      refine AllReadyH.cons rfl (fun K' hK' => ?_) AllReadyH.nil
      refine step_spec_SignText (by rfl) 15 16 19 21 _ rfl _ _ _ _ _ (F.get 15 _ (by simp)) (F.get 16 _ (by simp)) (F.get 19 _ (by simp)) (F.get 21 _ (by simp)) (HS.out _ hb10) ?_
      rintro rv11 xw11 ⟨a1, n1, c1, a2, n2, c2, a3, n3, c3, rfl, hsi, kb11⟩
      have hb11 := hb10.trans (kb11.mono hb10.size)
      obtain ⟨v1, v2, v3, g1, g2, g3, hv, ⟨t1, t2, t3⟩, ⟨l1, l2, l3⟩, hgne⟩ := hsi
      simp at hv
      obtain ⟨rfl, rfl, rfl⟩ := hv
      have hl0 := hb10.size
      have m1 : 0 < O.length → g1 ≠ xw1.heap.size := fun _ => by have := hbx.lt; omega
      have m2 : 0 < S.length → g2 ≠ xw1.heap.size := fun _ => by have := hbx.lt; omega
      have m3 : 0 < D.length → g3 ≠ xw1.heap.size := fun _ => by have := hbx.lt; omega
      replace hbx := hbx.later kb11
      refine openK (v := .tuple #[.agg #[.int .i64 A, .slice a1 n1 c1, .slice a2 n2 c2, .slice a3 n3 c3], .bool b2]) 22 rfl F (by decide) (by simp) (fun a F => ?_)
      refine hK'.out _ _ (HSS.out _ hb11) (fun hH => ?_)
      have r22 := F.get 22 (.tuple #[.agg #[.int .i64 A, .slice a1 n1 c1, .slice a2 n2 c2, .slice a3 n3 c3], .bool b2]) (by simp)
      refine takeF (i := 8) (v := .tuple #[.agg #[.int .i64 A, .slice a1 n1 c1, .slice a2 n2 c2, .slice a3 n3 c3], .bool b2]) rfl (by kernel_rfl) (by kernel_rfl) (by kernel_rfl) (fun _ _ _ h => h) (Or.inl ⟨by rfl, fun w hw => by go_simp⟩) hH 14 rfl F (by decide) (by simp) (fun a F => ?_)
      clear r22
      have r14 := F.get 14 (.tuple #[.agg #[.int .i64 A, .slice a1 n1 c1, .slice a2 n2 c2, .slice a3 n3 c3], .bool b2]) (by simp)
      refine takeF (i := 9) (v := .agg #[.int .i64 A, .slice a1 n1 c1, .slice a2 n2 c2, .slice a3 n3 c3]) rfl (by kernel_rfl) (by kernel_rfl) (by kernel_rfl) (fun _ _ _ h => h) (Or.inl ⟨by rfl, fun w hw => by go_simp⟩) hH 23 rfl F (by decide) (by simp) (fun a F => ?_)
      clear r14
      have r14 := F.get 14 (.tuple #[.agg #[.int .i64 A, .slice a1 n1 c1, .slice a2 n2 c2, .slice a3 n3 c3], .bool b2]) (by simp)
      refine takeF (i := 10) (v := .bool b2) rfl (by kernel_rfl) (by kernel_rfl) (by kernel_rfl) (fun _ _ _ h => h) (Or.inl ⟨by rfl, fun w hw => by go_simp⟩) hH 24 rfl F (by decide) (by simp) (fun a F => ?_)
      clear r14
      refine wpAnyH_ready (rs := [12]) (by kernel_rfl) (by simp) ?_
      refine AllReadyH.cons rfl (fun K' hK' => ?_) AllReadyH.nil
      refine step_store_Sig (by rfl) 8 23 rfl rfl xw1.heap.size _ A _ _ _ (.slice a1 n1 c1) (.slice a2 n2 c2) (.slice a3 n3 c3) hbx (F.get 8 _ (by simp)) (F.get 23 _ (by simp)) rfl rfl rfl ?_
      intro hst
      have hb12 := below_setRL hb11 hG hb11.size #[.int .i64 A, .slice a1 n1 c1, .slice a2 n2 c2, .slice a3 n3 c3]
      have hgr := grown_setRow xw11 xw1.heap.size #[.int .i64 A, .slice a1 n1 c1, .slice a2 n2 c2, .slice a3 n3 c3]
      have hsi : SigIn (xw11.setRow xw1.heap.size #[.int .i64 A, .slice a1 n1 c1, .slice a2 n2 c2, .slice a3 n3 c3]) w1.heap.size (.agg #[.int .i64 A, .slice a1 n1 c1, .slice a2 n2 c2, .slice a3 n3 c3]) A O S D := ⟨_, _, _, g1, g2, g3, rfl, ⟨t1.keptG hgr (fun hp e => m1 hp (Option.some.inj e)), t2.keptG hgr (fun hp e => m2 hp (Option.some.inj e)), t3.keptG hgr (fun hp e => m3 hp (Option.some.inj e))⟩, ⟨by omega, by omega, by omega⟩, hgne⟩
      refine hK'.out _ _ (HSS.out _ hb12) (fun hH => ?_)
      have r24 := F.get 24 (.bool b2) (by simp)
      refine takeF (i := 13) (v := .bool b2) rfl (by kernel_rfl) (by kernel_rfl) (by kernel_rfl) (fun _ _ _ h => h) (Or.inl ⟨by rfl, fun w hw => by go_simp⟩) hH 9 rfl F (by decide) (by simp) (fun a F => ?_)
      clear r24
      refine wpAnyH_done (by kernel_rfl) ?_ _
      have ha : a = ⟨#[.string s, .slice xa n c, .agg #[.int .i64 h, .int .i64 e, .string r, .string p], undef, undef, .pointer (some ⟨w.heap.size, 0, none⟩), .pointer (some ⟨w.heap.size + 1, 0, none⟩), .bool false, .pointer (some ⟨xw1.heap.size, 0, none⟩), .bool b2, .agg #[.int .i64 h, .int .i64 e, .string r, .string p], .bool true, .bool false, undef, .tuple #[.agg #[.int .i64 A, .slice a1 n1 c1, .slice a2 n2 c2, .slice a3 n3 c3], .bool b2], .string s, .slice xa n c, .pointer (some ⟨w.heap.size, 1, none⟩), .int .i64 e, .int .i64 P, .agg #[.int .i64 h, .int .i64 e, .string r, .string p], .string K, .tuple #[.agg #[.int .i64 A, .slice a1 n1 c1, .slice a2 n2 c2, .slice a3 n3 c3], .bool b2], .agg #[.int .i64 A, .slice a1 n1 c1, .slice a2 n2 c2, .slice a3 n3 c3], .bool b2, undef, undef, undef, undef, undef, undef], []⟩ := by
        refine FR.close F _ rfl ?_
        intro i hi
        match i, hi with
        | 0, _ => exact F.at 0 _ (by simp)
        | 1, _ => exact F.at 1 _ (by simp)
        | 2, _ => exact F.at 2 _ (by simp)
        | 3, _ => exact F.at 3 _ (by simp)
        | 4, _ => exact F.at 4 _ (by simp)
        | 5, _ => exact F.at 5 _ (by simp)
        | 6, _ => exact F.at 6 _ (by simp)
        | 7, _ => exact F.at 7 _ (by simp)
        | 8, _ => exact F.at 8 _ (by simp)
        | 9, _ => exact F.at 9 _ (by simp)
        | 10, _ => exact F.at 10 _ (by simp)
        | 11, _ => exact F.at 11 _ (by simp)
        | 12, _ => exact F.at 12 _ (by simp)
        | 13, _ => exact F.at 13 _ (by simp)
        | 14, _ => exact F.at 14 _ (by simp)
        | 15, _ => exact F.at 15 _ (by simp)
        | 16, _ => exact F.at 16 _ (by simp)
        | 17, _ => exact F.at 17 _ (by simp)
        | 18, _ => exact F.at 18 _ (by simp)
        | 19, _ => exact F.at 19 _ (by simp)
        | 20, _ => exact F.at 20 _ (by simp)
        | 21, _ => exact F.at 21 _ (by simp)
        | 22, _ => exact F.at 22 _ (by simp)
        | 23, _ => exact F.at 23 _ (by simp)
        | 24, _ => exact F.at 24 _ (by simp)
        | 25, _ => exact F.at 25 _ (by simp)
        | 26, _ => exact F.at 26 _ (by simp)
        | 27, _ => exact F.at 27 _ (by simp)
        | 28, _ => exact F.at 28 _ (by simp)
        | 29, _ => exact F.at 29 _ (by simp)
        | 30, _ => exact F.at 30 _ (by simp)
        | k + 31, hk => exact absurd hk (by simp)
      subst ha
      exact HEND xw1.heap.size _ _ _ _ _ _ _ _ _ _ hb12 hG hst hsi
  · refine step_alloc_Sig (by rfl) rfl ?_
    rintro xw13 hbx kb13
    have hb13 := hb0.trans (kb13.mono hb0.size)
    have hG := hb0.size
    refine openK (v := .pointer (some ⟨w1.drew.heap.size, 0, none⟩)) 8 rfl F (by decide) (by simp) (fun a F => ?_)
    refine hK'.out _ _ (HSS.out _ hb13) (fun hH => ?_)
    refine wpAnyH_ready (rs := [4]) (by kernel_rfl) (by simp) ?_
    refine AllReadyH.cons rfl (fun K' hK' => ?_) AllReadyH.nil
    refine step_spec_SealAt (by rfl) 18 _ rfl _ _ (F.get 18 _ (by simp)) (HA.out _) ?_
    rintro rv14 xw14 ⟨rfl, kb14⟩
    have hb14 := hb13.trans (kb14.mono hb13.size)
    replace hbx := hbx.later kb14
    refine openK (v := .int .i64 P) 19 rfl F (by decide) (by simp) (fun a F => ?_)
    refine hK'.out _ _ (HSS.out _ hb14) (fun hH => ?_)
    refine wpAnyH_ready (rs := [6]) (by kernel_rfl) (by simp) ?_
    refine AllReadyH.cons rfl (fun K' hK' => ?_) AllReadyH.nil
    refine step_spec_HeadHash (by rfl) 20 _ rfl _ _ (F.get 20 _ (by simp)) (HG.out _) ?_
    rintro rv15 xw15 ⟨rfl, kb15⟩
    have hb15 := hb14.trans (kb15.mono hb14.size)
    replace hbx := hbx.later kb15
    refine openK (v := .string K) 21 rfl F (by decide) (by simp) (fun a F => ?_)
    refine hK'.out _ _ (HSS.out _ hb15) (fun hH => ?_)
    refine wpAnyH_ready (rs := [7]) (by kernel_rfl) (by simp) ?_
    refine AllReadyH.cons rfl (fun K' hK' => ?_) AllReadyH.nil
    refine step_spec_SignText (by rfl) 15 16 19 21 _ rfl _ _ _ _ _ (F.get 15 _ (by simp)) (F.get 16 _ (by simp)) (F.get 19 _ (by simp)) (F.get 21 _ (by simp)) (HS.out _ hb15) ?_
    rintro rv16 xw16 ⟨a1, n1, c1, a2, n2, c2, a3, n3, c3, rfl, hsi, kb16⟩
    have hb16 := hb15.trans (kb16.mono hb15.size)
    obtain ⟨v1, v2, v3, g1, g2, g3, hv, ⟨t1, t2, t3⟩, ⟨l1, l2, l3⟩, hgne⟩ := hsi
    simp at hv
    obtain ⟨rfl, rfl, rfl⟩ := hv
    have hl0 := hb15.size
    have m1 : 0 < O.length → g1 ≠ w1.drew.heap.size := fun _ => by have := hbx.lt; omega
    have m2 : 0 < S.length → g2 ≠ w1.drew.heap.size := fun _ => by have := hbx.lt; omega
    have m3 : 0 < D.length → g3 ≠ w1.drew.heap.size := fun _ => by have := hbx.lt; omega
    replace hbx := hbx.later kb16
    refine openK (v := .tuple #[.agg #[.int .i64 A, .slice a1 n1 c1, .slice a2 n2 c2, .slice a3 n3 c3], .bool b2]) 22 rfl F (by decide) (by simp) (fun a F => ?_)
    refine hK'.out _ _ (HSS.out _ hb16) (fun hH => ?_)
    have r22 := F.get 22 (.tuple #[.agg #[.int .i64 A, .slice a1 n1 c1, .slice a2 n2 c2, .slice a3 n3 c3], .bool b2]) (by simp)
    refine takeF (i := 8) (v := .tuple #[.agg #[.int .i64 A, .slice a1 n1 c1, .slice a2 n2 c2, .slice a3 n3 c3], .bool b2]) rfl (by kernel_rfl) (by kernel_rfl) (by kernel_rfl) (fun _ _ _ h => h) (Or.inl ⟨by rfl, fun w hw => by go_simp⟩) hH 14 rfl F (by decide) (by simp) (fun a F => ?_)
    clear r22
    have r14 := F.get 14 (.tuple #[.agg #[.int .i64 A, .slice a1 n1 c1, .slice a2 n2 c2, .slice a3 n3 c3], .bool b2]) (by simp)
    refine takeF (i := 9) (v := .agg #[.int .i64 A, .slice a1 n1 c1, .slice a2 n2 c2, .slice a3 n3 c3]) rfl (by kernel_rfl) (by kernel_rfl) (by kernel_rfl) (fun _ _ _ h => h) (Or.inl ⟨by rfl, fun w hw => by go_simp⟩) hH 23 rfl F (by decide) (by simp) (fun a F => ?_)
    clear r14
    have r14 := F.get 14 (.tuple #[.agg #[.int .i64 A, .slice a1 n1 c1, .slice a2 n2 c2, .slice a3 n3 c3], .bool b2]) (by simp)
    refine takeF (i := 10) (v := .bool b2) rfl (by kernel_rfl) (by kernel_rfl) (by kernel_rfl) (fun _ _ _ h => h) (Or.inl ⟨by rfl, fun w hw => by go_simp⟩) hH 24 rfl F (by decide) (by simp) (fun a F => ?_)
    clear r14
    refine wpAnyH_ready (rs := [12]) (by kernel_rfl) (by simp) ?_
    refine AllReadyH.cons rfl (fun K' hK' => ?_) AllReadyH.nil
    refine step_store_Sig (by rfl) 8 23 rfl rfl w1.drew.heap.size _ A _ _ _ (.slice a1 n1 c1) (.slice a2 n2 c2) (.slice a3 n3 c3) hbx (F.get 8 _ (by simp)) (F.get 23 _ (by simp)) rfl rfl rfl ?_
    intro hst
    have hb17 := below_setRL hb16 hG hb16.size #[.int .i64 A, .slice a1 n1 c1, .slice a2 n2 c2, .slice a3 n3 c3]
    have hgr := grown_setRow xw16 w1.drew.heap.size #[.int .i64 A, .slice a1 n1 c1, .slice a2 n2 c2, .slice a3 n3 c3]
    have hsi : SigIn (xw16.setRow w1.drew.heap.size #[.int .i64 A, .slice a1 n1 c1, .slice a2 n2 c2, .slice a3 n3 c3]) w1.heap.size (.agg #[.int .i64 A, .slice a1 n1 c1, .slice a2 n2 c2, .slice a3 n3 c3]) A O S D := ⟨_, _, _, g1, g2, g3, rfl, ⟨t1.keptG hgr (fun hp e => m1 hp (Option.some.inj e)), t2.keptG hgr (fun hp e => m2 hp (Option.some.inj e)), t3.keptG hgr (fun hp e => m3 hp (Option.some.inj e))⟩, ⟨by omega, by omega, by omega⟩, hgne⟩
    refine hK'.out _ _ (HSS.out _ hb17) (fun hH => ?_)
    have r24 := F.get 24 (.bool b2) (by simp)
    refine takeF (i := 13) (v := .bool b2) rfl (by kernel_rfl) (by kernel_rfl) (by kernel_rfl) (fun _ _ _ h => h) (Or.inl ⟨by rfl, fun w hw => by go_simp⟩) hH 9 rfl F (by decide) (by simp) (fun a F => ?_)
    clear r24
    refine wpAnyH_done (by kernel_rfl) ?_ _
    have ha : a = ⟨#[.string s, .slice xa n c, .agg #[.int .i64 h, .int .i64 e, .string r, .string p], undef, undef, .pointer (some ⟨w.heap.size, 0, none⟩), .pointer (some ⟨w.heap.size + 1, 0, none⟩), .bool false, .pointer (some ⟨w1.drew.heap.size, 0, none⟩), .bool b2, .agg #[.int .i64 h, .int .i64 e, .string r, .string p], .bool true, .bool false, undef, .tuple #[.agg #[.int .i64 A, .slice a1 n1 c1, .slice a2 n2 c2, .slice a3 n3 c3], .bool b2], .string s, .slice xa n c, .pointer (some ⟨w.heap.size, 1, none⟩), .int .i64 e, .int .i64 P, .agg #[.int .i64 h, .int .i64 e, .string r, .string p], .string K, .tuple #[.agg #[.int .i64 A, .slice a1 n1 c1, .slice a2 n2 c2, .slice a3 n3 c3], .bool b2], .agg #[.int .i64 A, .slice a1 n1 c1, .slice a2 n2 c2, .slice a3 n3 c3], .bool b2, undef, undef, undef, undef, undef, undef], []⟩ := by
      refine FR.close F _ rfl ?_
      intro i hi
      match i, hi with
      | 0, _ => exact F.at 0 _ (by simp)
      | 1, _ => exact F.at 1 _ (by simp)
      | 2, _ => exact F.at 2 _ (by simp)
      | 3, _ => exact F.at 3 _ (by simp)
      | 4, _ => exact F.at 4 _ (by simp)
      | 5, _ => exact F.at 5 _ (by simp)
      | 6, _ => exact F.at 6 _ (by simp)
      | 7, _ => exact F.at 7 _ (by simp)
      | 8, _ => exact F.at 8 _ (by simp)
      | 9, _ => exact F.at 9 _ (by simp)
      | 10, _ => exact F.at 10 _ (by simp)
      | 11, _ => exact F.at 11 _ (by simp)
      | 12, _ => exact F.at 12 _ (by simp)
      | 13, _ => exact F.at 13 _ (by simp)
      | 14, _ => exact F.at 14 _ (by simp)
      | 15, _ => exact F.at 15 _ (by simp)
      | 16, _ => exact F.at 16 _ (by simp)
      | 17, _ => exact F.at 17 _ (by simp)
      | 18, _ => exact F.at 18 _ (by simp)
      | 19, _ => exact F.at 19 _ (by simp)
      | 20, _ => exact F.at 20 _ (by simp)
      | 21, _ => exact F.at 21 _ (by simp)
      | 22, _ => exact F.at 22 _ (by simp)
      | 23, _ => exact F.at 23 _ (by simp)
      | 24, _ => exact F.at 24 _ (by simp)
      | 25, _ => exact F.at 25 _ (by simp)
      | 26, _ => exact F.at 26 _ (by simp)
      | 27, _ => exact F.at 27 _ (by simp)
      | 28, _ => exact F.at 28 _ (by simp)
      | 29, _ => exact F.at 29 _ (by simp)
      | 30, _ => exact F.at 30 _ (by simp)
      | k + 31, hk => exact absurd hk (by simp)
    subst ha
    exact HEND w1.drew.heap.size _ _ _ _ _ _ _ _ _ _ hb17 hG hst hsi

end Go.Proofs.YtaejeemjndmjcaaDoor
