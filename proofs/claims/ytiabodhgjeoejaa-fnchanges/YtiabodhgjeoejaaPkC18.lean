/-
  Texts laid together: Spl, Pki, Cd.
-/
import Derived.Test.YtiabodhgjeoejaaPkC6
import Derived.Deep.RegionLaw
import Derived.Deep.CutRange
import Derived.Deep.RegionHeld
import Derived.Test.YtiabodhgjeoejaaPkC7
import Derived.Test.YtiabodhgjeoejaaPkC2
import Derived.Test.YtiabodhgjeoejaaPkC14
import Derived.Test.YtiabodhgjeoejaaPkC16
import Derived.Test.YtiabodhgjeoejaaPkC17
/-
  A text that is spoilt by a draw: some text, at most a byte longer.
-/
namespace Go.Proofs.Ytiabodhgjeoejaa
open Go.RowKit
set_option linter.unusedVariables false
set_option linter.unusedSimpArgs false

/-- what is spoilt is some text, at most a byte longer -/
def SpP (B : Nat) (w0 w : World) (g : Nat) (v : Value) (n : Nat) (e : Ending) (w' : World) : Prop := ∃ y : ByteArray, e = .returned (.string y) ∧ y.size ≤ n + 1 ∧ Cur B w0 w' g v ∧ w.grownBy w' (some g)
theorem run_front (b : ByteArray) (x : Int) (j : Nat) (hx : x = (j : Int)) (hj : j ≤ b.size) (W : World) : (Instr.slice 9 (.string b) none (some (.int .i64 x)) none).run Try.prog W = .ok (.string (b.extract 0 j)) W := by
  subst hx
  have h1 : ¬ ((j : Int) < 0) := by omega
  go_simp
theorem run_back (b : ByteArray) (x : Int) (j : Nat) (hx : x = (j : Int)) (hj : j ≤ b.size) (W : World) : (Instr.slice 9 (.string b) (some (.int .i64 x)) none none).run Try.prog W = .ok (.string (b.extract j b.size)) W := by
  subst hx
  have h1 : ¬ ((j : Int) < 0) := by omega
  go_simp

set_option maxRecDepth 100000 in
set_option maxHeartbeats 1000000 in
theorem l02Spoilt_in (B : Nat) (w0 w : World) (g : Nat) (v : Value) (s : ByteArray) (hc : Cur B w0 w g v) (hs : s.size ≤ 4000000) :
    Calls Try.prog 53 #[.pointer (some ⟨g, 0, none⟩), .string s] w (SpP B w0 w g v s.size) := by
  go_enter Try.func53, Try.ntmps53
  go_wp2_with fail
  refine (l01Below_in B w0 _ g v 12 12 rfl hc (by omega) (by omega)).mono ?_
  rintro e w1 ⟨k, hk, rfl, hc1, hg1⟩
  clear hc
  have hkk : k = 0 ∨ k = 1 ∨ (k = 2 ∨ k = 3) ∨ (¬ (k : Int) = 0 ∧ ¬ (k : Int) = 1 ∧ ¬ (k : Int) = 2 ∧ ¬ (k : Int) = 3) := by omega
  have HF : Hid (SpP B w0 w g v s.size (.returned (.string s)) w1) := ⟨s, rfl, by omega, hc1, hg1⟩
  rcases hkk with rfl | rfl | hk2 | ⟨h0, h1, h2, h3⟩
  · go_wp2_with fail
    refine (l01Text_in B w0 _ g v 1 1 rfl hc1 (by omega)).mono ?_
    rintro e w2 ⟨l, hl, rfl, hc2, hg2⟩
    have hlz : (⟨l.toArray⟩ : ByteArray).size = 1 := by show l.toArray.size = 1; simpa using hl
    generalize (⟨l.toArray⟩ : ByteArray) = T at *
    have HG : Hid (SpP B w0 w g v s.size (.returned (.string (s ++ T))) w2) := ⟨_, rfl, by rw [ByteArray.size_append]; omega, hc2, hg1.trans hg2⟩
    clear HF hc1 hc2 hg1 hg2
    go_wp2
    go_ret
    exact HG.out
  · go_wp2_with fail
    refine (l01Below_in B w0 _ g v ((s.size : Int) + 1) (s.size + 1) (by omega) hc1 (by omega) (by omega)).mono ?_
    rintro e w2 ⟨j, hj, rfl, hc2, hg2⟩
    have hr := run_front s j j rfl (by omega)
    have HG : Hid (SpP B w0 w g v s.size (.returned (.string (s.extract 0 j))) w2) := ⟨_, rfl, by rw [ByteArray.size_extract]; omega, hc2, hg1.trans hg2⟩
    clear HF hc1 hc2 hg1 hg2
    go_wp2
    go_ret
    exact HG.out
  · by_cases hs0 : s.size = 0
    · have i0 : ¬ (0 : Int) < (s.size : Int) := by omega
      clear hc1 hg1
      rcases hk2 with rfl | rfl
      · go_wp2
        go_ret
        exact HF.out
      · go_wp2
        go_ret
        exact HF.out
    · have i0 : (0 : Int) < (s.size : Int) := by omega
      have HB : Hid (Calls Try.prog 51 #[.pointer (some ⟨g, 0, none⟩), .int .i64 s.size] w1 fun e w' => ∃ x : Nat, x < s.size ∧ e = .returned (.int .i64 x) ∧ Cur B w0 w' g v ∧ w1.grownBy w' (some g)) := l01Below_in B w0 _ g v s.size s.size rfl hc1 (by omega) (by omega)
      clear hc1
      rcases hk2 with rfl | rfl
      all_goals
        clear HF
        go_wp2_with fail
        refine HB.out.mono ?_
        rintro e w2 ⟨j, hj, rfl, hc2, hg2⟩
        have hr := run_front s j j rfl (by omega)
        have hr2 := run_back s ((j : Int) + 1) (j + 1) (by omega) (by omega)
        have HG : Hid (∀ T w3, T.size = 1 → Cur B w0 w3 g v → w2.grownBy w3 (some g) → SpP B w0 w g v s.size (.returned (.string (s.extract 0 j ++ T ++ s.extract (j + 1) s.size))) w3) := fun T w3 hT hc3 hg3 => ⟨_, rfl, by rw [ByteArray.size_append, ByteArray.size_append, ByteArray.size_extract, ByteArray.size_extract]; omega, hc3, (hg1.trans hg2).trans hg3⟩
        clear hg1 hg2
        have HT : Hid (Calls Try.prog 84 #[.pointer (some ⟨g, 0, none⟩), .int .i64 1] w2.drew fun e w' => ∃ T : ByteArray, T.size = 1 ∧ e = .returned (.string T) ∧ Cur B w0 w' g v ∧ w2.grownBy w' (some g)) := by
          refine (l01Text_in B w0 _ g v 1 1 rfl (hc2.drn 1) (by omega)).mono ?_
          rintro e w3 ⟨l, hl, rfl, hc3, hg3⟩
          exact ⟨_, by show l.toArray.size = 1; simpa using hl, rfl, hc3, ⟨hg3.os, hg3.tape, hg3.output, hg3.size, hg3.block⟩⟩
        clear hc2
        go_wp2
        refine wp_region_held_drew (S := fun _ => True) (by kernel_rfl) trivial (fun hH => ?_)
        refine wpAnyH_take (i := 0) (v := .string s) rfl (by kernel_rfl) (by kernel_rfl) (by kernel_rfl) (fun _ _ _ h => h) (Or.inl ⟨by rfl, fun w hw => by go_simp⟩) hH ?_
        simp only [Act.put, List.setIfInBounds_toArray, List.set_cons_zero, List.set_cons_succ]
        refine wpAnyH_take (i := 1) (v := .int .i64 (j : Int)) rfl (by kernel_rfl) (by kernel_rfl) (by kernel_rfl) (fun _ _ _ h => h) (Or.inl ⟨by rfl, fun w hw => by go_simp⟩) hH ?_
        simp only [Act.put, List.setIfInBounds_toArray, List.set_cons_zero, List.set_cons_succ]
        refine wpAnyH_take (i := 2) (v := .string (s.extract 0 j)) rfl (by kernel_rfl) (by kernel_rfl) (by kernel_rfl) (fun _ _ _ h => h) (Or.inl ⟨by rfl, fun w hw => by go_simp⟩) hH ?_
        simp only [Act.put, List.setIfInBounds_toArray, List.set_cons_zero, List.set_cons_succ]
        refine wpAnyH_take (i := 3) (v := .pointer (some ⟨g, 0, none⟩)) rfl (by kernel_rfl) (by kernel_rfl) (by kernel_rfl) (fun _ _ _ h => h) (Or.inl ⟨by rfl, fun w hw => by go_simp⟩) hH ?_
        simp only [Act.put, List.setIfInBounds_toArray, List.set_cons_zero, List.set_cons_succ]
        refine wpAnyH_take (i := 6) (v := .string s) rfl (by kernel_rfl) (by kernel_rfl) (by kernel_rfl) (fun _ _ _ h => h) (Or.inl ⟨by rfl, fun w hw => by go_simp⟩) hH ?_
        simp only [Act.put, List.setIfInBounds_toArray, List.set_cons_zero, List.set_cons_succ]
        refine wpAnyH_take (i := 7) (v := .int .i64 (j : Int)) rfl (by kernel_rfl) (by kernel_rfl) (by kernel_rfl) (fun _ _ _ h => h) (Or.inl ⟨by rfl, fun w hw => by go_simp⟩) hH ?_
        simp only [Act.put, List.setIfInBounds_toArray, List.set_cons_zero, List.set_cons_succ]
        refine wpAnyH_take (i := 8) (v := .int .i64 ((j : Int) + 1)) rfl (by kernel_rfl) (by kernel_rfl) (by kernel_rfl) (fun _ _ _ h => h) (Or.inl ⟨by rfl, fun w hw => by go_simp; exact IntWalk.i64_in _ (by omega)⟩) hH ?_
        simp only [Act.put, List.setIfInBounds_toArray, List.set_cons_zero, List.set_cons_succ]
        refine wpAnyH_take (i := 9) (v := .string (s.extract (j + 1) s.size)) rfl (by kernel_rfl) (by kernel_rfl) (by kernel_rfl) (fun _ _ _ h => h) (Or.inl ⟨by rfl, fun w hw => by go_simp⟩) hH ?_
        simp only [Act.put, List.setIfInBounds_toArray, List.set_cons_zero, List.set_cons_succ]
        refine wpAnyH_ready (rs := [4]) (by kernel_rfl) (by simp) ?_
        refine AllReadyH.cons rfl (fun K' hK' => ?_) AllReadyH.nil
        go_simp
        go_at_call 84
        refine HT.out.mono ?_
        rintro e w3 ⟨T, hT, rfl, hc3, hg3⟩
        go_wp2_with fail
        refine hK'.out _ _ trivial (fun hH => ?_)
        clear hK' K'
        try simp only [Act.put, List.setIfInBounds_toArray, List.set_cons_zero, List.set_cons_succ]
        have HG2 := HG.out T w3 hT hc3 hg3
        clear HG HT hc3 hg3
        refine wpAnyH_take (i := 5) (v := .string (s.extract 0 j ++ T)) rfl (by kernel_rfl) (by kernel_rfl) (by kernel_rfl) (fun _ _ _ h => h) (Or.inl ⟨by rfl, fun w hw => by go_simp; omega⟩) hH ?_
        simp only [Act.put, List.setIfInBounds_toArray, List.set_cons_zero, List.set_cons_succ]
        refine wpAnyH_take (i := 10) (v := .string (s.extract 0 j ++ T ++ s.extract (j + 1) s.size)) rfl (by kernel_rfl) (by kernel_rfl) (by kernel_rfl) (fun _ _ _ h => h) (Or.inl ⟨by rfl, fun w hw => by go_simp; omega⟩) hH ?_
        simp only [Act.put, List.setIfInBounds_toArray, List.set_cons_zero, List.set_cons_succ]
        refine wpAnyH_ready (rs := [11]) (by kernel_rfl) (by simp) ?_
        refine AllReadyH.cons rfl (fun K' hK' => ?_) AllReadyH.nil
        go_simp
        refine hK'.out _ _ trivial (fun hH => ?_)
        clear hK' K'
        try simp only [Act.put, List.setIfInBounds_toArray, List.set_cons_zero, List.set_cons_succ]
        refine wpAnyH_done (by kernel_rfl) ?_ _
        go_wp2_with fail
        go_ret
        exact HG2
  · clear hc1 hg1
    go_wp2
    go_ret
    exact HF.out

end Go.Proofs.Ytiabodhgjeoejaa
/-
  One of a list of numbers that is written out, drawn.
-/
namespace Go.Proofs.Ytiabodhgjeoejaa
open Go.RowKit Go.BigFrame Go.Sort
set_option linter.unusedVariables false

/-- one of a list of numbers that is written out -/
theorem pickI_lit (B : Nat) (w0 w : World) (g : Nat) (v : Value) (n : Nat) (zs : List Int) (cs : Array Value) (hc1 : Cur B w0 w g v) (hn : zs.length = n) (h0 : 0 < n) (h1 : n ≤ 1000000)
    (hcell : Hid (∀ j, (h : j < zs.length) → (w.alloc (.cells cs 3)).cell? ⟨w.heap.size, j, none⟩ = some (.int .i64 zs[j]))) :
    Hid (Calls Try.prog 82 #[.pointer (some ⟨g, 0, none⟩), .slice (some ⟨w.heap.size, 0, none⟩) n n] (w.alloc (.cells cs 3)) fun e w' => ∃ y : Int, y ∈ zs ∧ e = .returned (.int .i64 y) ∧ Cur B w0 w' g v ∧ w.grownBy w' (some g)) := by
  have hca : Cur B w0 (w.alloc (.cells cs 3)) g v := hc1.kept (World.grownBy_alloc w _ none) (by simp) hc1.size (fun k hk => by cases hk)
  have hga : w.grownBy (w.alloc (.cells cs 3)) (some g) := World.grownBy_alloc w _ (some g)
  have hgl := hc1.lt
  have cP := l01PickInt_in B w0 (w.alloc (.cells cs 3)) g v w.heap.size n zs hca (by omega) (by omega) (by omega) (by simp) hcell
  rw [hn] at cP
  exact cP.mono fun e w' ⟨y, hy, he, hc, hg⟩ => ⟨y, hy, he, hc, hga.trans hg⟩

end Go.Proofs.Ytiabodhgjeoejaa
/-
  Drawn changes: right ones, any ones, rows of right ones.
-/
namespace Go.Proofs.Ytiabodhgjeoejaa
open Go.RowKit Go.BigFrame Go.Sort
set_option linter.unusedVariables false
set_option linter.unusedSimpArgs false

/-- a change under way in its box, beside a cursor and the box of what is answered -/
def CdS (B : Nat) (w0 w : World) (g : Nat) (v : Value) (p : Nat) (x : Ug) (W : World) : Prop := Cur B w0 W g v ∧ w.grownBy W (some g) ∧ BU W w.heap.size UV.zU ∧ BU W p x ∧ g < w.heap.size ∧ w.heap.size < p ∧ B ≤ w.heap.size
/-- what is answered -/
def CdP (R : Ug → Prop) (B : Nat) (w0 w : World) (g : Nat) (v : Value) (e : Ending) (w' : World) : Prop := ∃ x : Ug, e = .returned (.agg #[.int .i64 x.i, .string x.n, .string x.v]) ∧ R x ∧ Cur B w0 w' g v ∧ w.grownBy w' (some g)
section
variable {B g p : Nat} {w0 w W W' : World} {v : Value} {x : Ug}
theorem CdS.call (h : CdS B w0 w g v p x W) (hc : Cur B w0 W' g v) (hg : W.grownBy W' (some g)) : CdS B w0 w g v p x W' := by
  obtain ⟨h1, h2, h3, h4, h5, h6, h7⟩ := h
  exact ⟨hc, h2.trans hg, h3.grown hg (by simp; omega), h4.grown hg (by simp; omega), h5, h6, h7⟩
theorem CdS.set (h : CdS B w0 w g v p x W) {y : Ug} (o : Nat) (u : Value) (hb : BU (W.setCell ⟨p, o, none⟩ u) p y) : CdS B w0 w g v p y (W.setCell ⟨p, o, none⟩ u) := by
  obtain ⟨h1, h2, h3, h4, h5, h6, h7⟩ := h
  have hg := grown_setC W p o u
  have hbl : Below w.heap.size W (W.setCell ⟨p, o, none⟩ u) := (Below.refl _ _).setCell (by show w.heap.size ≤ p; omega) u
  exact ⟨h1.belU hbl h5 h7, grown_belU h2 hbl, h3.grown hg (by simp; omega), hb, h5, h6, h7⟩
theorem CdS.ans (h : CdS B w0 w g v p x W) {R : Ug → Prop} (hR : R x) : BU (W.setCells w.heap.size 0 (ucs x)) w.heap.size x ∧ CdP R B w0 w g v (.returned (.agg #[.int .i64 x.i, .string x.n, .string x.v])) (W.setCells w.heap.size 0 (ucs x)) := by
  obtain ⟨h1, h2, h3, h4, h5, h6, h7⟩ := h
  have hbs := below_setCells (B := w.heap.size) (b := w.heap.size) (w0 := W) (Nat.le_refl _) (ucs x) 0 W (Below.refl _ _)
  exact ⟨h3.put x, x, rfl, hR, h1.belU hbs h5 h7, grown_belU h2 hbs⟩
end

/-- a right change -/
def RgU (x : Ug) : Prop := UV.okU x = true ∧ x.n.size ≤ 12 ∧ x.v.size ≤ 12
/-- a change of short texts -/
def ShU (x : Ug) : Prop := x.n.size ≤ 20 ∧ x.v.size ≤ 20

set_option maxRecDepth 100000 in
set_option maxHeartbeats 2000000 in
theorem l16Change_in (B : Nat) (w0 w : World) (g : Nat) (v : Value) (hc : Cur B w0 w g v) :
    Calls Try.prog 73 #[.pointer (some ⟨g, 0, none⟩)] w (CdP RgU B w0 w g v) := by
  have hB := hc.size
  have hgl := hc.lt
  have hcz : Cur B w0 (w.alloc (.cells #[.int .i64 0, .string ⟨#[]⟩, .string ⟨#[]⟩] 31)) g v := hc.kept (World.grownBy_alloc w _ none) (by simp) hc.size (fun k hk => by cases hk)
  have HBZ : Hid (BU (w.alloc (.cells #[.int .i64 0, .string ⟨#[]⟩, .string ⟨#[]⟩] 31)) w.heap.size UV.zU ∧ w.grownBy (w.alloc (.cells #[.int .i64 0, .string ⟨#[]⟩, .string ⟨#[]⟩] 31)) (some g)) := ⟨BU.new w UV.zU, World.grownBy_alloc w _ (some g)⟩
  clear hc
  go_enter Try.func73, Try.ntmps73
  go_wp2_with fail
  refine (l01Below_in B w0 _ g v 30 30 rfl hcz (by omega) (by omega)).mono ?_
  rintro e w1 ⟨k, hk, rfl, hc1, hg1⟩
  clear hcz
  go_wp2_with fail
  refine (l04Name_in B w0 _ g v hc1).mono ?_
  rintro e w2 ⟨N, hN, rfl, hc2, hg2⟩
  clear hc1
  go_wp2_with fail
  refine (l09Value_in B w0 _ g v hc2).mono ?_
  rintro e w3 ⟨V, hV, rfl, hc3, hg3⟩
  clear hc2
  have hNo := nameL_ok N hN
  have hVo := l9v_ok V hV
  have hvz : UV.vOk ⟨#[]⟩ = true := by decide +kernel
  have HR : Hid (RgU ⟨1 + (k : Int), N, V⟩ ∧ RgU ⟨1 + (k : Int), N, ⟨#[]⟩⟩) := by
    have hd : decide (1 ≤ 1 + (k : Int) ∧ 1 + (k : Int) ≤ 99) = true := decide_eq_true (by omega)
    refine ⟨⟨?_, hNo.2, hVo.2⟩, ⟨?_, hNo.2, by show 0 ≤ 12; omega⟩⟩
    · unfold UV.okU; rw [hd, hNo.1]; unfold UV.vOk; rw [hVo.1]; simp
    · unfold UV.okU; rw [hd, hNo.1]; simp only; rw [hvz]; rfl
  have HS : Hid (CdS B w0 w g v w3.heap.size ⟨1 + (k : Int), N, V⟩ (w3.alloc (.cells #[.int .i64 (1 + (k : Int)), .string N, .string V] 31))) := by
    have hg : w.grownBy w3 (some g) := HBZ.out.2.trans (hg1.trans (hg2.trans hg3))
    have hz := ((HBZ.out.1.grown hg1 (by simp; omega)).grown hg2 (by simp; omega)).grown hg3 (by simp; omega)
    exact ⟨hc3.kept (World.grownBy_alloc w3 _ none) (by simp) hc3.size (fun k hk => by cases hk), hg.trans (World.grownBy_alloc w3 _ (some g)), hz.later ((Below.refl _ _).alloc (Nat.le_refl _) _), BU.new w3 ⟨1 + (k : Int), N, V⟩, hgl, hz.lt, hB⟩
  have hk2 : 1 + (k : Int) ≤ 30 := by omega
  have hk1 : 1 ≤ 1 + (k : Int) := by omega
  clear HBZ hg1 hg2 hg3 hc3 hN hV hNo hVo hk
  generalize 1 + (k : Int) = K at *
  go_wp2_with fail
  refine (l01Once_in B w0 _ g v 5 5 rfl HS.out.1 (by omega) (by omega)).mono ?_
  rintro e w4 ⟨b, rfl, hc4, hg4⟩
  have HS4 : Hid (CdS B w0 w g v w3.heap.size ⟨K, N, V⟩ w4) := HS.out.call hc4 hg4
  clear HS hc4 hg4
  have z0 := HS4.out.2.2.1.c0
  have z1 := HS4.out.2.2.1.c1
  have z2 := HS4.out.2.2.1.c2
  have f0 := HS4.out.2.2.1.fz 0
  have f1 := HS4.out.2.2.1.fz 1
  have f2 := HS4.out.2.2.1.fz 2
  have y0 := HS4.out.2.2.2.1.c0
  have y1 := HS4.out.2.2.2.1.c1
  have y2 := HS4.out.2.2.2.1.c2
  simp only at y0 y1 y2
  cases b
  · have HE := hide (HS4.out.ans (R := RgU) HR.out.1)
    clear HS4 HR
    go_wp2
    exact ret_ug 2 w.heap.size _ rfl rfl rfl HE.out.1 HE.out.2
  · have g2 := HS4.out.2.2.2.1.fz 2
    have HS5 : Hid (CdS B w0 w g v w3.heap.size ⟨K, N, ⟨#[]⟩⟩ (w4.setCell ⟨w3.heap.size, 2, none⟩ (.string ⟨#[]⟩))) := HS4.out.set 2 _ (HS4.out.2.2.2.1.set2 ⟨#[]⟩)
    have hne : w3.heap.size ≠ w.heap.size := by have := HS4.out.2.2.2.2.2.1; omega
    have HE := hide (HS5.out.ans (R := RgU) HR.out.2)
    clear HS4 HR HS5
    go_wp2
    exact ret_ug 2 w.heap.size _ rfl rfl rfl HE.out.1 HE.out.2

theorem RgU.sh {x : Ug} (h : RgU x) : ShU x := by obtain ⟨_, h1, h2⟩ := h; exact ⟨by omega, by omega⟩
def anyIL : List Int := [0, 99, 100, -1]
def anyIC : Array Value := #[.int .i64 0, .int .i64 99, .int .i64 100, .int .i64 (-1)]
theorem anyI_at (w : World) : Hid (∀ j, (h : j < anyIL.length) → (w.alloc (.cells anyIC 3)).cell? ⟨w.heap.size, j, none⟩ = some (.int .i64 anyIL[j])) := by
  intro j hj
  rw [World.cell?_alloc_at _ _ _ _ rfl]
  have : j = 0 ∨ j = 1 ∨ j = 2 ∨ j = 3 := by simp [anyIL] at hj; omega
  rcases this with rfl | rfl | rfl | rfl <;> rfl
def anyNL : List ByteArray := [⟨#[]⟩, ⟨#[65]⟩, ⟨#[116, 104, 105, 114, 116, 101, 101, 110, 116, 104, 105, 114, 116]⟩]
def anyNC : Array Value := #[.string ⟨#[]⟩, .string ⟨#[65]⟩, .string ⟨#[116, 104, 105, 114, 116, 101, 101, 110, 116, 104, 105, 114, 116]⟩]
theorem anyN_at (w : World) : Hid (∀ j, (h : j < anyNL.length) → (w.alloc (.cells anyNC 9)).cell? ⟨w.heap.size, j, none⟩ = some (.string anyNL[j])) := by
  intro j hj
  rw [World.cell?_alloc_at _ _ _ _ rfl]
  have : j = 0 ∨ j = 1 ∨ j = 2 := by simp [anyNL] at hj; omega
  rcases this with rfl | rfl | rfl <;> rfl
theorem anyN_sh : ∀ y ∈ anyNL, y.size ≤ 20 := by decide +kernel
def anyVL : List ByteArray := [⟨#[97, 32, 98]⟩, ⟨#[116, 104, 105, 114, 116, 101, 101, 110, 116, 104, 105, 114, 116]⟩]
def anyVC : Array Value := #[.string ⟨#[97, 32, 98]⟩, .string ⟨#[116, 104, 105, 114, 116, 101, 101, 110, 116, 104, 105, 114, 116]⟩]
theorem anyV_at (w : World) : Hid (∀ j, (h : j < anyVL.length) → (w.alloc (.cells anyVC 9)).cell? ⟨w.heap.size, j, none⟩ = some (.string anyVL[j])) := by
  intro j hj
  rw [World.cell?_alloc_at _ _ _ _ rfl]
  have : j = 0 ∨ j = 1 := by simp [anyVL] at hj; omega
  rcases this with rfl | rfl <;> rfl
theorem anyV_sh : ∀ y ∈ anyVL, y.size ≤ 20 := by decide +kernel

set_option maxRecDepth 100000 in
set_option maxHeartbeats 2000000 in
theorem l16Any_in (B : Nat) (w0 w : World) (g : Nat) (v : Value) (hc : Cur B w0 w g v) :
    Calls Try.prog 52 #[.pointer (some ⟨g, 0, none⟩)] w (CdP ShU B w0 w g v) := by
  have hB := hc.size
  have hgl := hc.lt
  have hcz : Cur B w0 (w.alloc (.cells #[.int .i64 0, .string ⟨#[]⟩, .string ⟨#[]⟩] 31)) g v := hc.kept (World.grownBy_alloc w _ none) (by simp) hc.size (fun k hk => by cases hk)
  have HBZ : Hid (BU (w.alloc (.cells #[.int .i64 0, .string ⟨#[]⟩, .string ⟨#[]⟩] 31)) w.heap.size UV.zU ∧ w.grownBy (w.alloc (.cells #[.int .i64 0, .string ⟨#[]⟩, .string ⟨#[]⟩] 31)) (some g)) := ⟨BU.new w UV.zU, World.grownBy_alloc w _ (some g)⟩
  clear hc
  go_enter Try.func52, Try.ntmps52
  go_wp2_with fail
  refine (l16Change_in B w0 _ g v hcz).mono ?_
  rintro e w1 ⟨⟨xi, xn, xv⟩, rfl, hR, hc1, hg1⟩
  clear hcz
  have HS : Hid (CdS B w0 w g v w1.heap.size ⟨xi, xn, xv⟩ (w1.alloc (.cells #[.int .i64 xi, .string xn, .string xv] 31)) ∧ ShU ⟨xi, xn, xv⟩) := by
    have hz := HBZ.out.1.grown hg1 (by simp; omega)
    exact ⟨⟨hc1.kept (World.grownBy_alloc w1 _ none) (by simp) hc1.size (fun k hk => by cases hk), (HBZ.out.2.trans hg1).trans (World.grownBy_alloc w1 _ (some g)), hz.later ((Below.refl _ _).alloc (Nat.le_refl _) _), BU.new w1 ⟨xi, xn, xv⟩, hgl, hz.lt, hB⟩, hR.sh⟩
  clear HBZ hg1 hc1 hR
  simp only
  go_wp2_with fail
  refine (l01Below_in B w0 _ g v 12 12 rfl HS.out.1.1 (by omega) (by omega)).mono ?_
  rintro e w2 ⟨k, hk, rfl, hc2, hg2⟩
  have HS2 : Hid (CdS B w0 w g v w1.heap.size ⟨xi, xn, xv⟩ w2 ∧ ShU ⟨xi, xn, xv⟩) := ⟨HS.out.1.call hc2 hg2, HS.out.2⟩
  clear HS hc2 hg2
  have hne : w1.heap.size ≠ w.heap.size := by have := HS2.out.1.2.2.2.2.2.1; omega
  have hkk : k = 0 ∨ k = 1 ∨ k = 2 ∨ (¬ (k : Int) = 0 ∧ ¬ (k : Int) = 1 ∧ ¬ (k : Int) = 2) := by omega
  rcases hkk with rfl | rfl | rfl | ⟨q0, q1, q2⟩
  · have CP := pickI_lit B w0 w2 g v 4 anyIL anyIC HS2.out.1.1 rfl (by omega) (by omega) (anyI_at w2)
    go_wp2_with fail
    refine CP.out.mono ?_
    rintro e w3 ⟨y, _, rfl, hc3, hg3⟩
    have HS3 : Hid (CdS B w0 w g v w1.heap.size ⟨xi, xn, xv⟩ w3) := HS2.out.1.call hc3 hg3
    have HS4 : Hid (CdS B w0 w g v w1.heap.size ⟨y, xn, xv⟩ (w3.setCell ⟨w1.heap.size, 0, none⟩ (.int .i64 y))) := HS3.out.set 0 _ (HS3.out.2.2.2.1.set0 y)
    have HE := hide (HS4.out.ans (R := ShU) (show ShU ⟨y, xn, xv⟩ from HS2.out.2))
    clear HS2 hc3 hg3 CP HS4
    have z0 := HS3.out.2.2.1.c0
    have z1 := HS3.out.2.2.1.c1
    have z2 := HS3.out.2.2.1.c2
    have f0 := HS3.out.2.2.1.fz 0
    have f1 := HS3.out.2.2.1.fz 1
    have f2 := HS3.out.2.2.1.fz 2
    have y0 := HS3.out.2.2.2.1.c0
    have y1 := HS3.out.2.2.2.1.c1
    have y2 := HS3.out.2.2.2.1.c2
    have g0 := HS3.out.2.2.2.1.fz 0
    have g1 := HS3.out.2.2.2.1.fz 1
    have g2 := HS3.out.2.2.2.1.fz 2
    simp only at y0 y1 y2
    clear HS3
    go_wp2
    exact ret_ug 2 w.heap.size _ rfl rfl rfl HE.out.1 HE.out.2
  · have CP := pick_lit B w0 w2 g v 3 anyNL anyNC HS2.out.1.1 rfl (by omega) (by omega) (anyN_at w2)
    go_wp2_with fail
    refine CP.out.mono ?_
    rintro e w3 ⟨y, hy, rfl, hc3, hg3⟩
    have HS3 : Hid (CdS B w0 w g v w1.heap.size ⟨xi, xn, xv⟩ w3) := HS2.out.1.call hc3 hg3
    have HS4 : Hid (CdS B w0 w g v w1.heap.size ⟨xi, y, xv⟩ (w3.setCell ⟨w1.heap.size, 1, none⟩ (.string y))) := HS3.out.set 1 _ (HS3.out.2.2.2.1.set1 y)
    have HE := hide (HS4.out.ans (R := ShU) (show ShU ⟨xi, y, xv⟩ from ⟨anyN_sh y hy, HS2.out.2.2⟩))
    clear HS2 hc3 hg3 CP HS4 hy
    have z0 := HS3.out.2.2.1.c0
    have z1 := HS3.out.2.2.1.c1
    have z2 := HS3.out.2.2.1.c2
    have f0 := HS3.out.2.2.1.fz 0
    have f1 := HS3.out.2.2.1.fz 1
    have f2 := HS3.out.2.2.1.fz 2
    have y0 := HS3.out.2.2.2.1.c0
    have y1 := HS3.out.2.2.2.1.c1
    have y2 := HS3.out.2.2.2.1.c2
    have g0 := HS3.out.2.2.2.1.fz 0
    have g1 := HS3.out.2.2.2.1.fz 1
    have g2 := HS3.out.2.2.2.1.fz 2
    simp only at y0 y1 y2
    clear HS3
    go_wp2
    exact ret_ug 2 w.heap.size _ rfl rfl rfl HE.out.1 HE.out.2
  · have CP := pick_lit B w0 w2 g v 2 anyVL anyVC HS2.out.1.1 rfl (by omega) (by omega) (anyV_at w2)
    go_wp2_with fail
    refine CP.out.mono ?_
    rintro e w3 ⟨y, hy, rfl, hc3, hg3⟩
    have HS3 : Hid (CdS B w0 w g v w1.heap.size ⟨xi, xn, xv⟩ w3) := HS2.out.1.call hc3 hg3
    have HS4 : Hid (CdS B w0 w g v w1.heap.size ⟨xi, xn, y⟩ (w3.setCell ⟨w1.heap.size, 2, none⟩ (.string y))) := HS3.out.set 2 _ (HS3.out.2.2.2.1.set2 y)
    have HE := hide (HS4.out.ans (R := ShU) (show ShU ⟨xi, xn, y⟩ from ⟨HS2.out.2.1, anyV_sh y hy⟩))
    clear HS2 hc3 hg3 CP HS4 hy
    have z0 := HS3.out.2.2.1.c0
    have z1 := HS3.out.2.2.1.c1
    have z2 := HS3.out.2.2.1.c2
    have f0 := HS3.out.2.2.1.fz 0
    have f1 := HS3.out.2.2.1.fz 1
    have f2 := HS3.out.2.2.1.fz 2
    have y0 := HS3.out.2.2.2.1.c0
    have y1 := HS3.out.2.2.2.1.c1
    have y2 := HS3.out.2.2.2.1.c2
    have g0 := HS3.out.2.2.2.1.fz 0
    have g1 := HS3.out.2.2.2.1.fz 1
    have g2 := HS3.out.2.2.2.1.fz 2
    simp only at y0 y1 y2
    clear HS3
    go_wp2
    exact ret_ug 2 w.heap.size _ rfl rfl rfl HE.out.1 HE.out.2
  · have HS3 : Hid (CdS B w0 w g v w1.heap.size ⟨xi, xn, xv⟩ w2) := HS2.out.1
    have HE := hide (HS2.out.1.ans (R := ShU) HS2.out.2)
    clear HS2
    have z0 := HS3.out.2.2.1.c0
    have z1 := HS3.out.2.2.1.c1
    have z2 := HS3.out.2.2.1.c2
    have f0 := HS3.out.2.2.1.fz 0
    have f1 := HS3.out.2.2.1.fz 1
    have f2 := HS3.out.2.2.1.fz 2
    have y0 := HS3.out.2.2.2.1.c0
    have y1 := HS3.out.2.2.2.1.c1
    have y2 := HS3.out.2.2.2.1.c2
    have g0 := HS3.out.2.2.2.1.fz 0
    have g1 := HS3.out.2.2.2.1.fz 1
    have g2 := HS3.out.2.2.2.1.fz 2
    simp only at y0 y1 y2
    clear HS3
    go_wp2
    exact ret_ug 2 w.heap.size _ rfl rfl rfl HE.out.1 HE.out.2

def CnR (B : Nat) (w0 w : World) (g : Nat) (v : Value) (u i : Value) (wr : World) : Prop := ∃ (m : Nat) (L : List Ug), m ≤ 7 ∧ L.length ≤ m ∧ i = .int .i64 m ∧ Hid (CnI B w0 w g v u L wr ∧ ∀ x ∈ L, RgU x)
/-- what l16List answers -/
def ClP (B : Nat) (w0 w : World) (g : Nat) (v : Value) (e : Ending) (w' : World) : Prop := ∃ (u : Value) (L : List Ug), e = .returned u ∧ L.length ≤ 7 ∧ (∀ x ∈ L, RgU x) ∧ CnI B w0 w g v u L w'

set_option maxRecDepth 100000 in
set_option maxHeartbeats 2000000 in
theorem l16List_in (B : Nat) (w0 w : World) (g : Nat) (v : Value) (hc : Cur B w0 w g v) :
    Calls Try.prog 41 #[.pointer (some ⟨g, 0, none⟩)] w (ClP B w0 w g v) := by
  have hB := hc.size
  have hgl := hc.lt
  have HST : Hid (CnR B w0 w g v (.slice (some ⟨w.heap.size, 0, none⟩) 0 0) (.int .i64 0) (w.alloc (.cells #[] 31))) :=
    ⟨0, [], by omega, by simp, rfl, ⟨hc.kept (World.grownBy_alloc w _ none) (by simp) hB (fun k hk => by cases hk), (OU.made w.heap.size w w (Below.refl _ _) (Nat.le_refl _)).self, World.grownBy_alloc w _ (some g)⟩, fun x hx => absurd hx (by simp)⟩
  clear hc
  go_enter Try.func41, Try.ntmps41
  go_wp2
  go_loopw [3, 4] (fun u i wr => CnR B w0 w g v u i wr) (fun _ i _ => 9 - (intOf i).toNat)
  case atStart => exact HST.out
  case round =>
    obtain ⟨m, L, hm, hLm, rfl, HI⟩ := hrel
    clear HST
    go_wp2_with fail
    refine (l01Below_in B w0 _ g v 8 8 rfl HI.out.1.1 (by omega) (by omega)).mono ?_
    rintro e w1 ⟨j, hj, rfl, hc1, hg1⟩
    have HI1 : Hid (CnI B w0 w g v u3 L w1 ∧ ∀ x ∈ L, RgU x) := ⟨HI.out.1.drawn hc1 hg1, HI.out.2⟩
    clear HI hc1 hg1
    obtain ⟨au, cu, rfl⟩ := HI1.out.1.2.1.shape
    by_cases hlt : m < j
    · have i1 : (m : Int) < (j : Int) := by omega
      go_wp2_with fail
      refine (l16Change_in B w0 _ g v HI1.out.1.1).mono ?_
      rintro e w2 ⟨⟨xi, xn, xv⟩, rfl, hR, hc2, hg2⟩
      simp only
      have hba : Below w2.heap.size w2 (w2.alloc (.cells #[.int .i64 xi, .string xn, .string xv] 31)) := (Below.refl _ _).alloc (Nat.le_refl _) _
      have HI2 : Hid (CnI B w0 w g v (.slice au L.length cu) L (w2.alloc (.cells #[.int .i64 xi, .string xn, .string xv] 31)) ∧ ∀ x ∈ L ++ [⟨xi, xn, xv⟩], RgU x) := ⟨(HI1.out.1.drawn hc2 hg2).below hba, fun x hx => by
        rcases List.mem_append.1 hx with hx | hx
        · exact HI1.out.2 x hx
        · rw [List.mem_singleton.1 hx]; exact hR⟩
      have HRN : Hid ((w2.alloc (.cells #[.int .i64 xi, .string xn, .string xv] 31)).rangeAt w2.heap.size 0 (ucs ⟨xi, xn, xv⟩)) := range_new _ [.int .i64 xi, .string xn, .string xv] 31
      have hoo := HI2.out.1.2.1
      clear HI1 hc2 hg2 hR hba
      go_wp2_with (at_builtin; refine wp_chgL rfl _ _ rfl w.heap.size _ (.slice au L.length cu) L ⟨xi, xn, xv⟩ rfl hoo _ rfl HRN.out (by omega) ?_)
      intro g5 cap5 w5 ho5 hg5 hl5
      have HI3 : Hid (CnI B w0 w g v (.slice (some ⟨g5, 0, none⟩) (L.length + 1) cap5) (L ++ [⟨xi, xn, xv⟩]) w5 ∧ ∀ x ∈ L ++ [⟨xi, xn, xv⟩], RgU x) := ⟨HI2.out.1.app hgl hB ho5, HI2.out.2⟩
      clear HI2 ho5 hg5 hl5 HRN hoo
      go_wp2
      go_roundw
      case rel => exact ⟨m + 1, _, by omega, by simp; omega, by go_num, HI3⟩
      case measure => simp [intOf]; omega
    · have i1 : ¬ (m : Int) < (j : Int) := by omega
      have HF : Hid (ClP B w0 w g v (.returned (.slice au L.length cu)) w1) := ⟨_, L, rfl, by omega, HI1.out.2, HI1.out.1⟩
      clear HI1
      go_wp2
      go_ret
      exact HF.out

theorem ownsU_le {w : World} {base base' size n : Nat} {e : TypeId} {v : Value} {xs : List Value} (h : w.ownsRow base e size v n xs) (hb : base' ≤ base) : w.ownsRow base' e size v n xs := by
  refine ⟨h.1, ?_⟩
  rcases h.2 with h0 | ⟨g, cap, cur, hv, hbg, rest⟩
  · exact .inl h0
  · exact .inr ⟨g, cap, cur, hv, Nat.le_trans hb hbg, rest⟩
/-- a drawn row of right changes -/
theorem DrawChanges_any (w : World) (v : Value) (hc : Code w.heap.size w v) :
    Calls Try.prog 11 #[v] w fun e w' => ∃ (u : Value) (L : List Ug), e = .returned u ∧ L.length ≤ 7 ∧ (∀ x ∈ L, RgU x) ∧ OU w.heap.size w w' u L := by
  have HC : Hid (Code w.heap.size w v) := hc
  clear hc
  go_enter Try.func11, Try.ntmps11
  go_wp2_with fail
  refine (l01New_in w v HC.out).mono ?_
  rintro e w1 ⟨g, rfl, hc1, hb1⟩
  go_wp2_with fail
  refine (l16List_in w.heap.size w _ g v hc1).mono ?_
  rintro e w2 ⟨u, L, rfl, hl, hR, hI⟩
  have HF : Hid (∃ (u' : Value) (L : List Ug), Ending.returned u = .returned u' ∧ L.length ≤ 7 ∧ (∀ x ∈ L, RgU x) ∧ OU w.heap.size w w2 u' L) := ⟨u, L, rfl, hl, hR, ownsU_le hI.2.1.1 hb1.size, hI.1.2.1, hI.1.size⟩
  clear hI
  go_wp2
  go_ret
  exact HF.out

theorem code_laterU {w w' : World} {v : Value} (h : Code w.heap.size w v) (hb : Below w.heap.size w w') : Code w'.heap.size w' v := by
  obtain ⟨ao, b, off, len, cap, rfl, hl, h1, h2⟩ := h
  refine ⟨ao, b, off, len, cap, rfl, hl, fun h0 => ⟨(h1 h0).1, Nat.lt_of_lt_of_le (h1 h0).2 hb.size⟩, fun j hj => ?_⟩
  obtain ⟨n, hn, hc⟩ := h2 j hj
  exact ⟨n, hn, (hb.cell (p := ⟨b, off + j, none⟩) (h1 (by omega)).2).trans hc⟩
theorem DrawChangeOk_any (w : World) (v : Value) (hc : Code w.heap.size w v) :
    Calls Try.prog 19 #[v] w fun e w' => ∃ x : Ug, e = .returned (.agg #[.int .i64 x.i, .string x.n, .string x.v]) ∧ ShU x ∧ Below w.heap.size w w' := by
  have HC : Hid (Code w.heap.size w v) := hc
  clear hc
  have HBZ : Hid (BU (w.alloc (.cells #[.int .i64 0, .string ⟨#[]⟩, .string ⟨#[]⟩] 31)) w.heap.size UV.zU ∧ Below w.heap.size w (w.alloc (.cells #[.int .i64 0, .string ⟨#[]⟩, .string ⟨#[]⟩] 31))) := ⟨BU.new w UV.zU, (Below.refl _ _).alloc (Nat.le_refl _) _⟩
  have HCZ : Hid (Code (w.alloc (.cells #[.int .i64 0, .string ⟨#[]⟩, .string ⟨#[]⟩] 31)).heap.size (w.alloc (.cells #[.int .i64 0, .string ⟨#[]⟩, .string ⟨#[]⟩] 31)) v) := code_laterU HC.out HBZ.out.2
  clear HC
  go_enter Try.func19, Try.ntmps19
  go_wp2_with fail
  refine (l01New_in _ v HCZ.out).mono ?_
  rintro e w1 ⟨g, rfl, hc1, hb1⟩
  go_wp2_with fail
  refine (l16Any_in _ _ _ g v hc1).mono ?_
  rintro e w2 ⟨X, rfl, hR, hc2, hg2⟩
  have HB2 : Hid (BU w2 w.heap.size UV.zU ∧ Below w.heap.size w w2) := ⟨HBZ.out.1.later hc2.2.1, HBZ.out.2.trans (hc2.2.1.mono HBZ.out.2.size)⟩
  clear HBZ HCZ hc1 hb1 hc2 hg2
  have y0 := HB2.out.1.c0
  have y1 := HB2.out.1.c1
  have y2 := HB2.out.1.c2
  have f0 := HB2.out.1.fz 0
  have f1 := HB2.out.1.fz 1
  have f2 := HB2.out.1.fz 2
  have HE : Hid (BU (w2.setCells w.heap.size 0 (ucs X)) w.heap.size X ∧ Below w.heap.size w (w2.setCells w.heap.size 0 (ucs X))) := ⟨HB2.out.1.put _, below_setCells (Nat.le_refl _) _ _ _ HB2.out.2⟩
  clear HB2
  go_wp2
  exact ret_ug 2 w.heap.size X rfl rfl rfl HE.out.1 ⟨X, rfl, hR, HE.out.2⟩

set_option maxRecDepth 100000 in
set_option maxHeartbeats 1000000 in
theorem DrawReadChange_any (w : World) (v : Value) (hc : Code w.heap.size w v) :
    Calls Try.prog 17 #[v] w fun e w' => ∃ t : ByteArray, e = .returned (.string t) ∧ t.size ≤ 1000 ∧ Below w.heap.size w w' := by
  have HC : Hid (Code w.heap.size w v) := hc
  clear hc
  go_enter Try.func17, Try.ntmps17
  go_wp2_with fail
  refine (l01New_in w v HC.out).mono ?_
  rintro e w1 ⟨g, rfl, hc1, hb1⟩
  clear HC hb1
  go_wp2_with fail
  refine (l01Below_in w.heap.size w _ g v 3 3 rfl hc1 (by omega) (by omega)).mono ?_
  rintro e w2 ⟨k, hk, rfl, hc2, hg2⟩
  clear hc1 hg2
  go_wp2_with fail
  refine (l16Any_in w.heap.size w _ g v hc2).mono ?_
  rintro e w3 ⟨X, rfl, hR, hc3, hg3⟩
  clear hc2 hg3
  have hT := sChangeText_any X w3 (by have := hR.1; omega) (by have := hR.2; omega)
  have hz : (UV.textU X).size ≤ 100 := by
    unfold UV.textU
    split
    · unfold UV.txtU
      have h1 : (UV.vb X.i.toNat).size ≤ 10 := varA_size _
      have h2 : (UV.vb X.n.size).size ≤ 10 := varA_size _
      have h3 : (UV.vb X.v.size).size ≤ 10 := varA_size _
      have := hR.1
      have := hR.2
      simp only [ByteArray.size_append]
      omega
    · show (⟨#[]⟩ : ByteArray).size ≤ 100
      decide
  generalize UV.textU X = t at *
  generalize UV.okU X = b at *
  go_wp2_with fail
  refine hT.mono ?_
  rintro e w4 ⟨rfl, hb4⟩
  have hc4 : Cur w.heap.size w w4 g v := hc3.kept (grown_belowU (row := none) hb4) (by simp) hc3.size (fun k hk => by cases hk)
  have HB4 : Hid (Below w.heap.size w w4) := hc4.2.1
  clear hT hb4 hc3
  by_cases h0 : (k : Int) = 0
  · have q0 : ((k : Int) == 0) = true := by rw [h0]; rfl
    clear h0
    go_wp2_with fail
    refine (l02Spoilt_in w.heap.size w _ g v t hc4 (by omega)).mono ?_
    rintro e w5 ⟨y, rfl, hy, hc5, hg5⟩
    have HB5 : Hid (Below w.heap.size w w5) := hc5.2.1
    clear hc4 hc5 hg5 HB4
    go_wp2
    go_ret
    exact ⟨y, rfl, by omega, HB5.out⟩
  · have q0 : ((k : Int) == 0) = false := beq_eq_false_iff_ne.2 h0
    clear hc4 h0
    go_wp2
    go_ret
    exact ⟨t, rfl, by omega, HB4.out⟩

end Go.Proofs.Ytiabodhgjeoejaa
