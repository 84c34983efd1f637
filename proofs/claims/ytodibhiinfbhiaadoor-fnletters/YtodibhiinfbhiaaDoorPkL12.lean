/-
  Texts laid together: Drawc, Pki, Vd.
-/
import Derived.Test.YtodibhiinfbhiaaDoorPkL11
import Derived.Test.YtodibhiinfbhiaaDoorPkL2
import Derived.Test.YtodibhiinfbhiaaDoorPkL3
/-
  What is drawn for numbers and texts: DrawVarText, DrawHex.
-/
namespace Go.Proofs.YtodibhiinfbhiaaDoor
open Go.RowKit
set_option linter.unusedVariables false

def LgRel (w : World) (n : Nat) (x : UInt8) (i : Value) (wr : World) : Prop :=
  ∃ k : Nat, k ≤ n ∧ i = .int .i64 k ∧ wr.ownsRow w.heap.size 5 1 (.slice (some ⟨w.heap.size, 0, none⟩) n n) n (bv (List.replicate k x ++ List.replicate (n - k) 0)) ∧ Below w.heap.size w wr

theorem lg_set (x : UInt8) (n k : Nat) (h : k < n) : (bv (List.replicate k x ++ List.replicate (n - k) 0)).set k (.int .u8 (x.toNat : Int)) = bv (List.replicate (k + 1) x ++ List.replicate (n - (k + 1)) 0) := by
  have e : n - k = (n - (k + 1)) + 1 := by omega
  have e2 : List.replicate k x ++ List.replicate (n - k) 0 = List.replicate k x ++ 0 :: List.replicate (n - (k + 1)) 0 := by rw [e, List.replicate_succ]
  have e3 : List.replicate (k + 1) x = List.replicate k x ++ [x] := List.replicate_succ'
  rw [e2, e3]
  unfold bv
  rw [List.map_append, List.map_cons, List.set_append_right _ _ (by simp), List.length_map, List.length_replicate, Nat.sub_self, List.set_cons_zero]
  simp

set_option maxRecDepth 100000 in
set_option maxHeartbeats 1000000 in
theorem l01Long_nat (n : Nat) (x : UInt8) (w : World) (hn : n ≤ 1000000) :
    Calls Tryd.prog 40 #[.int .i64 n, .int .u8 x.toNat] w fun e w' => e = .returned (.string ⟨(List.replicate n x).toArray⟩) ∧ Below w.heap.size w w' := by
  obtain ⟨i0, hi, hz0, hz1, hz2⟩ := info_parts Tryd.info5
  obtain ⟨w1, hmk, hown, hgr⟩ := run_make_full (P := Tryd.prog) w w.heap.size 22 5 i0 (.int .u8 0) 1 Tryd.underlying22 hi hz0 hz1 .i64 .i64 n (by rw [hz2]; omega) (by unfold maxLen; omega) (Nat.le_refl _)
  have hown0 : w1.ownsRow w.heap.size 5 1 (.slice (some ⟨w.heap.size, 0, none⟩) n n) n (bv (List.replicate 0 x ++ List.replicate (n - 0) 0)) := by
    have e : (madeCells (Value.int .u8 0).cells (n * 1)).toList = bv (List.replicate 0 x ++ List.replicate (n - 0) 0) := by
      have h := toList_madeCells_one (Value.int .u8 0) n
      rw [Nat.mul_one]
      refine Eq.trans h ?_
      simp [bv]
    rw [e] at hown
    exact hown
  have hb1 : Below w.heap.size w w1 := (Below.refl _ _).grown hgr (Nat.le_refl _) (fun k hk => by cases hk)
  clear hown hgr
  go_enter Tryd.func40, Tryd.ntmps40
  go_wp2
  clear hmk
  go_loopw [6] (fun i wr => LgRel w n x i wr) (fun i _ => n - (intOf i).toNat)
  case atStart => exact ⟨0, by omega, rfl, hown0, hb1⟩
  case round =>
    obtain ⟨k, hk, rfl, ho, hbel⟩ := hrel
    by_cases hlt : k < n
    · obtain ⟨old, hold⟩ : ∃ old, wr.cell? ⟨w.heap.size, k, none⟩ = some old := by
        rw [ho.cellAt k (by omega)]
        have hl : k < (bv (List.replicate k x ++ List.replicate (n - k) 0)).length := by rw [bv_length]; simp; omega
        exact ⟨_, List.getElem?_eq_getElem hl⟩
      have f0 := ho.frozenAt k
      have h1 := (ho.stored k (.int .u8 (x.toNat : Int))).1
      rw [lg_set x n k hlt] at h1
      have HO : Hid ((wr.setCell ⟨w.heap.size, k, none⟩ (.int .u8 (x.toNat : Int))).ownsRow w.heap.size 5 1 (.slice (some ⟨w.heap.size, 0, none⟩) n n) n (bv (List.replicate (k + 1) x ++ List.replicate (n - (k + 1)) 0))) := h1
      have hbel2 := hbel.setCell (p := ⟨w.heap.size, k, none⟩) (Nat.le_refl _) (.int .u8 (x.toNat : Int))
      have HB2 : Hid (Below w.heap.size w (wr.setCell ⟨w.heap.size, k, none⟩ (.int .u8 (x.toNat : Int)))) := hbel2
      clear h1 hbel2
      go_wp2
      go_roundw
      case rel => exact ⟨k + 1, by omega, by go_num, HO.out, HB2.out⟩
      case measure => simp [intOf] <;> omega
    · have hke : k = n := by omega
      subst hke
      rw [Nat.sub_self, List.replicate_zero, List.append_nil] at ho
      have hrow : Row w wr (.slice (some ⟨w.heap.size, 0, none⟩) k k) (List.replicate k x) := by
        unfold Row
        rw [List.length_replicate]
        exact ho
      have hcv := run_strR hrow hbel.size
      go_wp2
      go_ret
      exact ⟨rfl, hbel⟩

theorem l01Long_in (y : Int) (n : Nat) (x : UInt8) (z : Int) (w : World) (hy : y = (n : Int)) (hz : z = (x.toNat : Int)) (hn : n ≤ 1000000) :
    Calls Tryd.prog 40 #[.int .i64 y, .int .u8 z] w fun e w' => e = .returned (.string ⟨(List.replicate n x).toArray⟩) ∧ Below w.heap.size w w' := by
  subst hy
  subst hz
  exact l01Long_nat n x w hn

def numList : List Int := [-1, 0, 127, 128, 16383, 16384, 1000000000, 1000000001, 9223372036854775807, -9223372036854775808]
theorem numList_in (y : Int) (h : y ∈ numList) : -9223372036854775808 ≤ y ∧ y ≤ 9223372036854775807 := by
  simp [numList] at h
  omega

def numCells : Array Value := #[.int .i64 (-1), .int .i64 0, .int .i64 127, .int .i64 128, .int .i64 16383, .int .i64 16384, .int .i64 1000000000, .int .i64 1000000001, .int .i64 9223372036854775807, .int .i64 (-9223372036854775808)]
theorem numCells_at (w : World) : Hid (∀ j, (h : j < numList.length) → (w.alloc (.cells numCells 3)).cell? ⟨w.heap.size, j, none⟩ = some (.int .i64 numList[j])) := by
  intro j hj
  rw [World.cell?_alloc_at _ _ _ _ rfl]
  have : j = 0 ∨ j = 1 ∨ j = 2 ∨ j = 3 ∨ j = 4 ∨ j = 5 ∨ j = 6 ∨ j = 7 ∨ j = 8 ∨ j = 9 := by simp [numList] at hj; omega
  rcases this with rfl | rfl | rfl | rfl | rfl | rfl | rfl | rfl | rfl | rfl <;> rfl

end Go.Proofs.YtodibhiinfbhiaaDoor
/-
  One of a list of numbers that is written out, drawn.
-/
namespace Go.Proofs.YtodibhiinfbhiaaDoor
open Go.RowKit Go.BigFrame Go.Sort
set_option linter.unusedVariables false

end Go.Proofs.YtodibhiinfbhiaaDoor
/-
  Drawn letters: right ones, any ones.
-/
namespace Go.Proofs.YtodibhiinfbhiaaDoor
open Go.RowKit Go.BigFrame Go.Sort
set_option linter.unusedVariables false
set_option linter.unusedSimpArgs false

theorem grown_belV {w w2 w' : World} {row : Option Nat} (h : w.grownBy w2 row) (hb : Below w.heap.size w2 w') : w.grownBy w' row :=
  ⟨hb.os.trans h.os, hb.tape.trans h.tape, hb.output.trans h.output, Nat.le_trans h.size hb.size, fun k hk hne => (hb.block k hk).trans (h.block k hk hne)⟩
theorem Cur.belV {B Bx : Nat} {w0 w w' : World} {g : Nat} {v : Value} (h : Cur B w0 w g v) (hb : Below Bx w w') (hg : g < Bx) (hB : B ≤ Bx) : Cur B w0 w' g v := by
  obtain ⟨h1, h2, h3, i, x, hbl, h4⟩ := h
  exact ⟨h1, h2.trans (hb.mono hB), h3, i, x, (hb.block g hg).trans hbl, h4⟩
def zLd : Ltr := ⟨0, 0, 0, 0, 0, ⟨#[]⟩⟩
/-- a letter under way in its box, beside a cursor and the box of what is answered -/
def VdS (B : Nat) (w0 w : World) (g : Nat) (v : Value) (p : Nat) (x : Ltr) (W : World) : Prop := Cur B w0 W g v ∧ w.grownBy W (some g) ∧ BK W w.heap.size zLd ∧ BK W p x ∧ g < w.heap.size ∧ w.heap.size < p ∧ B ≤ w.heap.size
/-- what is answered -/
def VdP (R : Ltr → Prop) (B : Nat) (w0 w : World) (g : Nat) (v : Value) (e : Ending) (w' : World) : Prop := ∃ x : Ltr, e = .returned (.agg #[.int .i64 x.k, .int .i64 x.f, .int .i64 x.t, .int .i64 x.e, .int .i64 x.y, .string x.r]) ∧ R x ∧ Cur B w0 w' g v ∧ w.grownBy w' (some g)
section
variable {B g p : Nat} {w0 w W W' : World} {v : Value} {x : Ltr}
theorem VdS.call (h : VdS B w0 w g v p x W) (hc : Cur B w0 W' g v) (hg : W.grownBy W' (some g)) : VdS B w0 w g v p x W' := by
  obtain ⟨h1, h2, h3, h4, h5, h6, h7⟩ := h
  exact ⟨hc, h2.trans hg, h3.grown hg (by simp; omega), h4.grown hg (by simp; omega), h5, h6, h7⟩
theorem VdS.later (h : VdS B w0 w g v p x W) (hb : Below W.heap.size W W') : VdS B w0 w g v p x W' := by
  obtain ⟨h1, h2, h3, h4, h5, h6, h7⟩ := h
  exact ⟨h1.belV hb h1.lt h1.size, grown_belV h2 (hb.mono h2.size), h3.later hb, h4.later hb, h5, h6, h7⟩
theorem VdS.set (h : VdS B w0 w g v p x W) {y : Ltr} (o : Nat) (u : Value) (hb : BK (W.setCell ⟨p, o, none⟩ u) p y) : VdS B w0 w g v p y (W.setCell ⟨p, o, none⟩ u) := by
  obtain ⟨h1, h2, h3, h4, h5, h6, h7⟩ := h
  have hg := grown_setC W p o u
  have hbl : Below w.heap.size W (W.setCell ⟨p, o, none⟩ u) := (Below.refl _ _).setCell (by show w.heap.size ≤ p; omega) u
  exact ⟨h1.belV hbl h5 h7, grown_belV h2 hbl, h3.grown hg (by simp; omega), hb, h5, h6, h7⟩
theorem VdS.ans (h : VdS B w0 w g v p x W) {R : Ltr → Prop} (hR : R x) : BK (W.setCells w.heap.size 0 (kcs x)) w.heap.size x ∧ VdP R B w0 w g v (.returned (.agg #[.int .i64 x.k, .int .i64 x.f, .int .i64 x.t, .int .i64 x.e, .int .i64 x.y, .string x.r])) (W.setCells w.heap.size 0 (kcs x)) := by
  obtain ⟨h1, h2, h3, h4, h5, h6, h7⟩ := h
  have hbs := below_setCells (B := w.heap.size) (b := w.heap.size) (w0 := W) (Nat.le_refl _) (kcs x) 0 W (Below.refl _ _)
  exact ⟨h3.put x, x, rfl, hR, h1.belV hbs h5 h7, grown_belV h2 hbs⟩
end

/-- a right letter -/
def RgL (x : Ltr) : Prop := VV.ok x = true ∧ x.r.size ≤ 16
/-- a letter of a short text -/
def ShL (x : Ltr) : Prop := x.r.size ≤ 20

set_option maxRecDepth 100000 in
set_option maxHeartbeats 2000000 in
theorem l17Letter_in (B : Nat) (w0 w : World) (g : Nat) (v : Value) (hc : Cur B w0 w g v) :
    Calls Tryd.prog 39 #[.pointer (some ⟨g, 0, none⟩)] w (VdP RgL B w0 w g v) := by
  have hB := hc.size
  have hgl := hc.lt
  have hcz : Cur B w0 (w.alloc (.cells #[.int .i64 0, .int .i64 0, .int .i64 0, .int .i64 0, .int .i64 0, .string ⟨#[]⟩] 25)) g v := hc.kept (World.grownBy_alloc w _ none) (by simp) hc.size (fun k hk => by cases hk)
  have HBZ : Hid (BK (w.alloc (.cells #[.int .i64 0, .int .i64 0, .int .i64 0, .int .i64 0, .int .i64 0, .string ⟨#[]⟩] 25)) w.heap.size zLd ∧ w.grownBy (w.alloc (.cells #[.int .i64 0, .int .i64 0, .int .i64 0, .int .i64 0, .int .i64 0, .string ⟨#[]⟩] 25)) (some g)) := ⟨BK.new w zLd, World.grownBy_alloc w _ (some g)⟩
  clear hc
  go_enter Tryd.func39, Tryd.ntmps39
  go_wp2_with fail
  refine (l01Below_in B w0 _ g v 5 5 rfl hcz (by omega) (by omega)).mono ?_
  rintro e w1 ⟨k, hk, rfl, hc1, hg1⟩
  clear hcz
  go_wp2_with fail
  refine (l01Below_in B w0 _ g v 3 3 rfl hc1 (by omega) (by omega)).mono ?_
  rintro e w2 ⟨ep, hep, rfl, hc2, hg2⟩
  clear hc1
  go_wp2_with fail
  refine (l01Below_in B w0 _ g v 4 4 rfl hc2 (by omega) (by omega)).mono ?_
  rintro e w3 ⟨y, hy, rfl, hc3, hg3⟩
  clear hc2
  have HS : Hid (VdS B w0 w g v w3.heap.size ⟨1 + (k : Int), 0, 0, 1 + (ep : Int), 1 + (y : Int), ⟨#[]⟩⟩ (w3.alloc (.cells #[.int .i64 (1 + (k : Int)), .int .i64 0, .int .i64 0, .int .i64 (1 + (ep : Int)), .int .i64 (1 + (y : Int)), .string ⟨#[]⟩] 25))) := by
    have hg : w.grownBy w3 (some g) := HBZ.out.2.trans (hg1.trans (hg2.trans hg3))
    have hz := ((HBZ.out.1.grown hg1 (by simp; omega)).grown hg2 (by simp; omega)).grown hg3 (by simp; omega)
    exact ⟨hc3.kept (World.grownBy_alloc w3 _ none) (by simp) hc3.size (fun k hk => by cases hk), hg.trans (World.grownBy_alloc w3 _ (some g)), hz.later ((Below.refl _ _).alloc (Nat.le_refl _) _), BK.new w3 ⟨1 + (k : Int), 0, 0, 1 + (ep : Int), 1 + (y : Int), ⟨#[]⟩⟩, hgl, hz.lt, hB⟩
  clear HBZ hg1 hg2 hg3 hc3
  go_wp2_with fail
  refine (l01Below_in B w0 _ g v 4 4 rfl HS.out.1 (by omega) (by omega)).mono ?_
  rintro e w4 ⟨nd, hnd, rfl, hc4, hg4⟩
  have HS4 : Hid (VdS B w0 w g v w3.heap.size ⟨1 + (k : Int), 0, 0, 1 + (ep : Int), 1 + (y : Int), ⟨#[]⟩⟩ w4) := HS.out.call hc4 hg4
  clear HS hc4 hg4
  have hN1 : 1 ≤ 1 + (nd : Int) := by omega
  have hN4 : 1 + (nd : Int) ≤ 4 := by omega
  have hE1 : 1 ≤ 1 + (ep : Int) ∧ 1 + (ep : Int) ≤ 4 := by omega
  have hY1 : 1 ≤ 1 + (y : Int) ∧ 1 + (y : Int) ≤ 1000 := by omega
  have hK : 1 + (k : Int) = 1 ∨ 1 + (k : Int) = 2 ∨ 1 + (k : Int) = 3 ∨ 1 + (k : Int) = 4 ∨ 1 + (k : Int) = 5 := by omega
  obtain ⟨Nd, hNd⟩ : ∃ Nd, 1 + (nd : Int) = Nd := ⟨_, rfl⟩
  have hwn : wrap64 (1 + (nd : Int)) = Nd := by rw [← hNd]; unfold wrap64; omega
  rw [hNd] at hN1 hN4
  generalize 1 + (ep : Int) = E at *
  generalize 1 + (y : Int) = Y at *
  have HR : Hid (∀ (K f t : Int) (r : ByteArray), r.size = VV.rw K → (((K = 1 ∨ K = 3 ∨ K = 4) ∧ f = 0 ∧ 1 ≤ t ∧ t ≤ 4) ∨ ((K = 2 ∨ K = 5) ∧ t = 0 ∧ 1 ≤ f ∧ f ≤ 4)) → RgL ⟨K, f, t, E, Y, r⟩) := fun K f t r hr hw => by
    refine ⟨?_, ?_⟩
    · unfold VV.ok VV.way
      simp only
      rw [decide_eq_true hw, decide_eq_true hE1, decide_eq_true hY1, decide_eq_true hr]
      rfl
    · show r.size ≤ 16
      rw [hr]; unfold VV.rw; split <;> omega
  clear hE1 hY1 hk hep hy hnd hNd
  generalize 1 + (k : Int) = K at *
  rcases hK with rfl | rfl | rfl | rfl | rfl
  · have HS5 : Hid (VdS B w0 w g v w3.heap.size ⟨1, 0, Nd, E, Y, ⟨#[]⟩⟩ (w4.setCell ⟨w3.heap.size, 2, none⟩ (.int .i64 Nd))) := HS4.out.set 2 _ (HS4.out.2.2.2.1.set2 Nd)
    have HE := hide (HS5.out.ans (R := RgL) (HR.out 1 0 Nd ⟨#[]⟩ (by rfl) (.inl ⟨by omega, rfl, hN1, hN4⟩)))
    have z0 := HS4.out.2.2.1.c0
    have f0 := HS4.out.2.2.1.fz 0
    have z1 := HS4.out.2.2.1.c1
    have f1 := HS4.out.2.2.1.fz 1
    have z2 := HS4.out.2.2.1.c2
    have f2 := HS4.out.2.2.1.fz 2
    have z3 := HS4.out.2.2.1.c3
    have f3 := HS4.out.2.2.1.fz 3
    have z4 := HS4.out.2.2.1.c4
    have f4 := HS4.out.2.2.1.fz 4
    have z5 := HS4.out.2.2.1.c5
    have f5 := HS4.out.2.2.1.fz 5
    have y0 := HS4.out.2.2.2.1.c0
    have y1 := HS4.out.2.2.2.1.c1
    have y2 := HS4.out.2.2.2.1.c2
    have y3 := HS4.out.2.2.2.1.c3
    have y4 := HS4.out.2.2.2.1.c4
    have y5 := HS4.out.2.2.2.1.c5
    have g2 := HS4.out.2.2.2.1.fz 2
    simp only at y0 y1 y2 y3 y4 y5
    have hne : w3.heap.size ≠ w.heap.size := by have := HS4.out.2.2.2.2.2.1; omega
    clear HS4 HR HS5
    go_wp2
    exact ret_ltr 2 w.heap.size _ rfl rfl rfl HE.out.1 HE.out.2
  · have g1 := HS4.out.2.2.2.1.fz 1
    have y1 := HS4.out.2.2.2.1.c1
    have y0 := HS4.out.2.2.2.1.c0
    simp only at y0 y1
    have HS5 : Hid (VdS B w0 w g v w3.heap.size ⟨2, Nd, 0, E, Y, ⟨#[]⟩⟩ (w4.setCell ⟨w3.heap.size, 1, none⟩ (.int .i64 Nd))) := HS4.out.set 1 _ (HS4.out.2.2.2.1.set1 Nd)
    have hne : w3.heap.size ≠ w.heap.size := by have := HS4.out.2.2.2.2.2.1; omega
    clear HS4
    go_wp2_with fail
    refine (l13Root_in B w0 _ g v HS5.out.1).mono ?_
    rintro e w5 ⟨r, hr, rfl, hc5, hg5⟩
    have HS6 : Hid (VdS B w0 w g v w3.heap.size ⟨2, Nd, 0, E, Y, ⟨#[]⟩⟩ w5) := HS5.out.call hc5 hg5
    clear HS5 hc5 hg5 y0 y1 g1
    have HS7 : Hid (VdS B w0 w g v w3.heap.size ⟨2, Nd, 0, E, Y, r⟩ (w5.setCell ⟨w3.heap.size, 5, none⟩ (.string r))) := HS6.out.set 5 _ (HS6.out.2.2.2.1.set5 r)
    have HE := hide (HS7.out.ans (R := RgL) (HR.out 2 Nd 0 r hr (.inr ⟨by omega, rfl, hN1, hN4⟩)))
    have z0 := HS6.out.2.2.1.c0
    have f0 := HS6.out.2.2.1.fz 0
    have z1 := HS6.out.2.2.1.c1
    have f1 := HS6.out.2.2.1.fz 1
    have z2 := HS6.out.2.2.1.c2
    have f2 := HS6.out.2.2.1.fz 2
    have z3 := HS6.out.2.2.1.c3
    have f3 := HS6.out.2.2.1.fz 3
    have z4 := HS6.out.2.2.1.c4
    have f4 := HS6.out.2.2.1.fz 4
    have z5 := HS6.out.2.2.1.c5
    have f5 := HS6.out.2.2.1.fz 5
    have y0 := HS6.out.2.2.2.1.c0
    have y1 := HS6.out.2.2.2.1.c1
    have y2 := HS6.out.2.2.2.1.c2
    have y3 := HS6.out.2.2.2.1.c3
    have y4 := HS6.out.2.2.2.1.c4
    have y5 := HS6.out.2.2.2.1.c5
    have g5 := HS6.out.2.2.2.1.fz 5
    simp only at y0 y1 y2 y3 y4 y5
    clear HR HS6 HS7
    go_wp2
    exact ret_ltr 2 w.heap.size _ rfl rfl rfl HE.out.1 HE.out.2
  · have HS5 : Hid (VdS B w0 w g v w3.heap.size ⟨3, 0, Nd, E, Y, ⟨#[]⟩⟩ (w4.setCell ⟨w3.heap.size, 2, none⟩ (.int .i64 Nd))) := HS4.out.set 2 _ (HS4.out.2.2.2.1.set2 Nd)
    have HE := hide (HS5.out.ans (R := RgL) (HR.out 3 0 Nd ⟨#[]⟩ (by rfl) (.inl ⟨by omega, rfl, hN1, hN4⟩)))
    have z0 := HS4.out.2.2.1.c0
    have f0 := HS4.out.2.2.1.fz 0
    have z1 := HS4.out.2.2.1.c1
    have f1 := HS4.out.2.2.1.fz 1
    have z2 := HS4.out.2.2.1.c2
    have f2 := HS4.out.2.2.1.fz 2
    have z3 := HS4.out.2.2.1.c3
    have f3 := HS4.out.2.2.1.fz 3
    have z4 := HS4.out.2.2.1.c4
    have f4 := HS4.out.2.2.1.fz 4
    have z5 := HS4.out.2.2.1.c5
    have f5 := HS4.out.2.2.1.fz 5
    have y0 := HS4.out.2.2.2.1.c0
    have y1 := HS4.out.2.2.2.1.c1
    have y2 := HS4.out.2.2.2.1.c2
    have y3 := HS4.out.2.2.2.1.c3
    have y4 := HS4.out.2.2.2.1.c4
    have y5 := HS4.out.2.2.2.1.c5
    have g2 := HS4.out.2.2.2.1.fz 2
    simp only at y0 y1 y2 y3 y4 y5
    have hne : w3.heap.size ≠ w.heap.size := by have := HS4.out.2.2.2.2.2.1; omega
    clear HS4 HR HS5
    go_wp2
    exact ret_ltr 2 w.heap.size _ rfl rfl rfl HE.out.1 HE.out.2
  · have HS5 : Hid (VdS B w0 w g v w3.heap.size ⟨4, 0, Nd, E, Y, ⟨#[]⟩⟩ (w4.setCell ⟨w3.heap.size, 2, none⟩ (.int .i64 Nd))) := HS4.out.set 2 _ (HS4.out.2.2.2.1.set2 Nd)
    have HE := hide (HS5.out.ans (R := RgL) (HR.out 4 0 Nd ⟨#[]⟩ (by rfl) (.inl ⟨by omega, rfl, hN1, hN4⟩)))
    have z0 := HS4.out.2.2.1.c0
    have f0 := HS4.out.2.2.1.fz 0
    have z1 := HS4.out.2.2.1.c1
    have f1 := HS4.out.2.2.1.fz 1
    have z2 := HS4.out.2.2.1.c2
    have f2 := HS4.out.2.2.1.fz 2
    have z3 := HS4.out.2.2.1.c3
    have f3 := HS4.out.2.2.1.fz 3
    have z4 := HS4.out.2.2.1.c4
    have f4 := HS4.out.2.2.1.fz 4
    have z5 := HS4.out.2.2.1.c5
    have f5 := HS4.out.2.2.1.fz 5
    have y0 := HS4.out.2.2.2.1.c0
    have y1 := HS4.out.2.2.2.1.c1
    have y2 := HS4.out.2.2.2.1.c2
    have y3 := HS4.out.2.2.2.1.c3
    have y4 := HS4.out.2.2.2.1.c4
    have y5 := HS4.out.2.2.2.1.c5
    have g2 := HS4.out.2.2.2.1.fz 2
    simp only at y0 y1 y2 y3 y4 y5
    have hne : w3.heap.size ≠ w.heap.size := by have := HS4.out.2.2.2.2.2.1; omega
    clear HS4 HR HS5
    go_wp2
    exact ret_ltr 2 w.heap.size _ rfl rfl rfl HE.out.1 HE.out.2
  · have HS5 : Hid (VdS B w0 w g v w3.heap.size ⟨5, Nd, 0, E, Y, ⟨#[]⟩⟩ (w4.setCell ⟨w3.heap.size, 1, none⟩ (.int .i64 Nd))) := HS4.out.set 1 _ (HS4.out.2.2.2.1.set1 Nd)
    have HE := hide (HS5.out.ans (R := RgL) (HR.out 5 Nd 0 ⟨#[]⟩ (by rfl) (.inr ⟨by omega, rfl, hN1, hN4⟩)))
    have z0 := HS4.out.2.2.1.c0
    have f0 := HS4.out.2.2.1.fz 0
    have z1 := HS4.out.2.2.1.c1
    have f1 := HS4.out.2.2.1.fz 1
    have z2 := HS4.out.2.2.1.c2
    have f2 := HS4.out.2.2.1.fz 2
    have z3 := HS4.out.2.2.1.c3
    have f3 := HS4.out.2.2.1.fz 3
    have z4 := HS4.out.2.2.1.c4
    have f4 := HS4.out.2.2.1.fz 4
    have z5 := HS4.out.2.2.1.c5
    have f5 := HS4.out.2.2.1.fz 5
    have y0 := HS4.out.2.2.2.1.c0
    have y1 := HS4.out.2.2.2.1.c1
    have y2 := HS4.out.2.2.2.1.c2
    have y3 := HS4.out.2.2.2.1.c3
    have y4 := HS4.out.2.2.2.1.c4
    have y5 := HS4.out.2.2.2.1.c5
    have g1 := HS4.out.2.2.2.1.fz 1
    simp only at y0 y1 y2 y3 y4 y5
    have hne : w3.heap.size ≠ w.heap.size := by have := HS4.out.2.2.2.2.2.1; omega
    clear HS4 HR HS5
    go_wp2
    exact ret_ltr 2 w.heap.size _ rfl rfl rfl HE.out.1 HE.out.2

end Go.Proofs.YtodibhiinfbhiaaDoor
