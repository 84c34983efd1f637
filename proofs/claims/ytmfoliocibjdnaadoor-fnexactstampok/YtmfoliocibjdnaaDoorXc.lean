/-
  A seal in its box; its text: the program's and the specification's answers.
-/
import Derived.Test.YtmfoliocibjdnaaDoorPkH
import Derived.Test.YtmfoliocibjdnaaDoorPkA
import Derived.Test.YtmfoliocibjdnaaDoorPkF
namespace Go.Proofs.YtmfoliocibjdnaaDoor
open Go.RowKit Go.BigFrame Go.Sort
set_option linter.unusedVariables false
set_option linter.unusedSimpArgs false

/-- the cells of a seal -/
def scs (x : Hd) (a : Int) (v1 v2 v3 : Value) : List Value := [.int .i64 x.h, .int .i64 x.e, .string x.r, .string x.p, .int .i64 a, v1, v2, v3]
/-- a seal in its box, of the law's type or the program's -/
def SlB (T : Nat) (W : World) (g : Nat) (x : Hd) (a : Int) (v1 v2 v3 : Value) : Prop := W.heap[g]? = some (.cells #[.int .i64 x.h, .int .i64 x.e, .string x.r, .string x.p, .int .i64 a, v1, v2, v3] T (0, 0))
section
variable {T : Nat} {W W' : World} {g : Nat} {x : Hd} {a : Int} {v1 v2 v3 : Value}
theorem SlB.new (T : Nat) (w : World) (x : Hd) (a : Int) (v1 v2 v3 : Value) : SlB T (w.alloc (.cells #[.int .i64 x.h, .int .i64 x.e, .string x.r, .string x.p, .int .i64 a, v1, v2, v3] T)) w.heap.size x a v1 v2 v3 := Go.heap_alloc_new w _
theorem SlB.lt (h : SlB T W g x a v1 v2 v3) : g < W.heap.size := (Array.getElem?_eq_some_iff.1 h).1
theorem SlB.keep (h : SlB T W g x a v1 v2 v3) (he : W'.heap[g]? = W.heap[g]?) : SlB T W' g x a v1 v2 v3 := by
  unfold SlB at *
  rw [he, h]
theorem SlB.later (h : SlB T W g x a v1 v2 v3) (hb : Below W.heap.size W W') : SlB T W' g x a v1 v2 v3 := h.keep (hb.block g h.lt)
theorem SlB.grown {row : Option Nat} (h : SlB T W g x a v1 v2 v3) (hg : W.grownBy W' row) (hne : some g ≠ row) : SlB T W' g x a v1 v2 v3 := h.keep (hg.block g h.lt hne)
theorem SlB.range (h : SlB T W g x a v1 v2 v3) : W.rangeAt g 0 (scs x a v1 v2 v3) := fun j v hv => by
  rw [cell_of_row W g (0 + j) _ _ _ h, Nat.zero_add]
  simpa [scs] using hv
theorem SlB.c0 (h : SlB T W g x a v1 v2 v3) : W.cell? ⟨g, 0, none⟩ = some (.int .i64 x.h) := h.range 0 _ rfl
theorem SlB.c1 (h : SlB T W g x a v1 v2 v3) : W.cell? ⟨g, 1, none⟩ = some (.int .i64 x.e) := h.range 1 _ rfl
theorem SlB.c2 (h : SlB T W g x a v1 v2 v3) : W.cell? ⟨g, 2, none⟩ = some (.string x.r) := h.range 2 _ rfl
theorem SlB.c3 (h : SlB T W g x a v1 v2 v3) : W.cell? ⟨g, 3, none⟩ = some (.string x.p) := h.range 3 _ rfl
theorem SlB.c4 (h : SlB T W g x a v1 v2 v3) : W.cell? ⟨g, 4, none⟩ = some (.int .i64 a) := h.range 4 _ rfl
theorem SlB.c5 (h : SlB T W g x a v1 v2 v3) : W.cell? ⟨g, 5, none⟩ = some v1 := h.range 5 _ rfl
theorem SlB.c6 (h : SlB T W g x a v1 v2 v3) : W.cell? ⟨g, 6, none⟩ = some v2 := h.range 6 _ rfl
theorem SlB.c7 (h : SlB T W g x a v1 v2 v3) : W.cell? ⟨g, 7, none⟩ = some v3 := h.range 7 _ rfl
theorem SlB.fz (h : SlB T W g x a v1 v2 v3) (j : Nat) : W.frozen? ⟨g, j, none⟩ = false := by simp [World.frozen?, show W.heap[g]? = _ from h]
/-- all eight cells -/
theorem SlB.cells (h : SlB T W g x a v1 v2 v3) : W.cell? ⟨g, 0, none⟩ = some (.int .i64 x.h) ∧ W.cell? ⟨g, 1, none⟩ = some (.int .i64 x.e) ∧ W.cell? ⟨g, 2, none⟩ = some (.string x.r) ∧ W.cell? ⟨g, 3, none⟩ = some (.string x.p) ∧ W.cell? ⟨g, 4, none⟩ = some (.int .i64 a) ∧ W.cell? ⟨g, 5, none⟩ = some v1 ∧ W.cell? ⟨g, 6, none⟩ = some v2 ∧ W.cell? ⟨g, 7, none⟩ = some v3 := ⟨h.c0, h.c1, h.c2, h.c3, h.c4, h.c5, h.c6, h.c7⟩
end
theorem sizeSeal : (Tryd.prog.info? 58).map (·.size) = some 8 := by kernel_rfl
section
variable {fn : Func} {Rp : Ending → World → Prop} {a : Act} {w : World}
/-- a seal answered out of its box -/
theorem ret_sl1 (c g : Nat) (x : Hd) (y : Int) (v1 v2 v3 : Value) (hres : fn.results = #[.cell c 58]) (hd : a.defers = []) (hp : a.tmps.getD c undef = .pointer (some ⟨g, 0, none⟩)) (hA : SlB 58 w g x y v1 v2 v3) (h : Rp (.returned (.agg #[.int .i64 x.h, .int .i64 x.e, .string x.r, .string x.p, .int .i64 y, v1, v2, v3])) w) : bodyPost Tryd.prog fn Rp .ret a w :=
  ret_rec c g 58 (scs x y v1 v2 v3) _ hres hd hp Tryd.underlying58 rfl sizeSeal hA.range h
theorem ret_sl2 (c s g : Nat) (x : Hd) (y : Int) (v1 v2 v3 b : Value) (hres : fn.results = #[.cell c 58, .tmp s]) (hd : a.defers = []) (hp : a.tmps.getD c undef = .pointer (some ⟨g, 0, none⟩)) (hb : a.tmps.getD s undef = b) (hA : SlB 58 w g x y v1 v2 v3) (h : Rp (.returned (.tuple #[.agg #[.int .i64 x.h, .int .i64 x.e, .string x.r, .string x.p, .int .i64 y, v1, v2, v3], b])) w) : bodyPost Tryd.prog fn Rp .ret a w :=
  ret_rec2 c s g 58 (scs x y v1 v2 v3) b _ hres hd hp hb Tryd.underlying58 rfl sizeSeal hA.range h
end

/-- is it a seal that has a text -/
def slOk (x : Hd) (a : Int) (o s d : List ByteArray) : Bool := HV.okH x && formB a o s d
/-- the text of a seal -/
def slB (x : Hd) (a : Int) (o s d : List ByteArray) : ByteArray := if slOk x a o s d = true then ⟨(M.varL (HV.txtH x).size).toArray⟩ ++ HV.txtH x ++ sigB a o s d else ⟨#[]⟩
theorem txtH_small {x : Hd} (h : HV.okH x = true) : (HV.txtH x).size ≤ 34 := by
  obtain ⟨_, _, hr, hp⟩ := HV.okH_iff.1 h
  rw [HV.txtH_b2, b2T_size, hr, hp]
  unfold HV.pw
  split <;> omega

theorem slB_size (x : Hd) (a : Int) (o s d : List ByteArray) : (slB x a o s d).size ≤ 400 := by
  unfold slB
  split
  · rename_i h
    unfold slOk at h
    rw [Bool.and_eq_true] at h
    have h1 := txtH_small h.1
    have h2 := sigB_size a o s d
    have h3 := varA_size (HV.txtH x).size
    rw [ByteArray.size_append, ByteArray.size_append]
    omega
  · exact Nat.zero_le _
set_option maxRecDepth 100000 in
set_option maxHeartbeats 1000000 in
theorem SealText_any (x : Hd) (a : Int) (vo vs vd : Value) (g1 o1 g2 o2 g3 o3 : Nat) (o s d : List ByteArray) (w : World) (ho : SS w vo g1 o1 o) (hs : SS w vs g2 o2 s) (hd : SS w vd g3 o3 d) :
    Calls Tryd.prog 48 #[.agg #[.int .i64 x.h, .int .i64 x.e, .string x.r, .string x.p, .int .i64 a, vo, vs, vd]] w fun e w' => e = .returned (.tuple #[.string (slB x a o s d), .bool (slOk x a o s d)]) ∧ Below w.heap.size w w' := by
  have hB : Below w.heap.size w (w.alloc (.cells #[.int .i64 x.h, .int .i64 x.e, .string x.r, .string x.p, .int .i64 a, vo, vs, vd] 58)) := (Below.refl _ _).alloc (Nat.le_refl _) _
  have HX : Hid (Below w.heap.size w (w.alloc (.cells #[.int .i64 x.h, .int .i64 x.e, .string x.r, .string x.p, .int .i64 a, vo, vs, vd] 58)) ∧ SlB 58 (w.alloc (.cells #[.int .i64 x.h, .int .i64 x.e, .string x.r, .string x.p, .int .i64 a, vo, vs, vd] 58)) w.heap.size x a vo vs vd) := ⟨hB, SlB.new _ _ _ _ _ _ _⟩
  have HH : Hid (∀ W, Calls Tryd.prog 115 #[.agg #[.int .i64 x.h, .int .i64 x.e, .string x.r, .string x.p]] W fun e w' => e = .returned (.tuple #[.string (HV.textH x), .bool (HV.okH x)]) ∧ Below W.heap.size W w') := fun W => HeadText_any x W
  have HS : Hid (∀ W, Below w.heap.size w W → Calls Tryd.prog 19 #[.agg #[.int .i64 a, vo, vs, vd]] W fun e w' => e = .returned (.tuple #[.string (sigB a o s d), .bool (formB a o s d)]) ∧ Below W.heap.size W w') := fun W hW => SigText_all a vo vs vd g1 o1 g2 o2 g3 o3 o s d W (ho.below hW ho.lt) (hs.below hW hs.lt) (hd.below hW hd.lt)
  have hzs := sigB_size a o s d
  have HTX : Hid (HV.okH x = true → (HV.txtH x).size ≤ 34) := fun h => txtH_small h
  unfold slB slOk
  unfold HV.textH at HH
  obtain ⟨ao, co, rfl, lo, x1⟩ := ho
  obtain ⟨as2, cs2, rfl, ls, x2⟩ := hs
  obtain ⟨ad, cd, rfl, ld, x3⟩ := hd
  clear x1 x2 x3 hB
  generalize HV.txtH x = X at *
  generalize HV.okH x = b1 at *
  generalize sigB a o s d = Y at *
  generalize formB a o s d = b2 at *
  generalize o.length = n1 at *
  generalize s.length = n2 at *
  generalize d.length = n3 at *
  obtain ⟨h, e, r, p⟩ := x
  simp only at HX HH ⊢
  cases b1
  · rw [if_neg (by simp)] at HH
    rw [Bool.false_and, if_neg (by simp)]
    go_enter Tryd.func48, Tryd.ntmps48
    go_wp2_with fail
    refine (HH.out _).mono ?_
    rintro e1 w1 ⟨rfl, hb1⟩
    have HX1 : Hid (Below w.heap.size w w1 ∧ SlB 58 w1 w.heap.size ⟨h, e, r, p⟩ a (.slice ao n1 co) (.slice as2 n2 cs2) (.slice ad n3 cd)) := ⟨HX.out.1.trans (hb1.mono HX.out.1.size), HX.out.2.later hb1⟩
    obtain ⟨z0, z1, z2, z3, z4, z5, z6, z7⟩ := HX1.out.2.cells
    clear hb1 HX HH z0 z1 z2 z3 HTX
    go_wp2_with fail
    refine (HS.out _ HX1.out.1).mono ?_
    rintro e2 w2 ⟨rfl, hb2⟩
    have HB2 : Hid (Below w.heap.size w w2) := HX1.out.1.trans (hb2.mono HX1.out.1.size)
    clear z4 z5 z6 z7 HX1 HS hb2
    go_wp2
    go_ret2
    exact ⟨rfl, HB2.out⟩
  · rw [if_pos rfl] at HH
    have hxz := HTX.out rfl
    rw [Bool.true_and]
    clear HTX
    cases b2
    · rw [if_neg (by simp)]
      go_enter Tryd.func48, Tryd.ntmps48
      go_wp2_with fail
      refine (HH.out _).mono ?_
      rintro e1 w1 ⟨rfl, hb1⟩
      have HX1 : Hid (Below w.heap.size w w1 ∧ SlB 58 w1 w.heap.size ⟨h, e, r, p⟩ a (.slice ao n1 co) (.slice as2 n2 cs2) (.slice ad n3 cd)) := ⟨HX.out.1.trans (hb1.mono HX.out.1.size), HX.out.2.later hb1⟩
      obtain ⟨z0, z1, z2, z3, z4, z5, z6, z7⟩ := HX1.out.2.cells
      clear hb1 HX HH z0 z1 z2 z3
      go_wp2_with fail
      refine (HS.out _ HX1.out.1).mono ?_
      rintro e2 w2 ⟨rfl, hb2⟩
      have HB2 : Hid (Below w.heap.size w w2) := HX1.out.1.trans (hb2.mono HX1.out.1.size)
      clear z4 z5 z6 z7 HX1 HS hb2
      go_wp2
      go_ret2
      exact ⟨rfl, HB2.out⟩
    · rw [if_pos rfl]
      have HSH : Hid (∀ W, Calls Tryd.prog 116 #[.string X] W fun e w' => e = .returned (.tuple #[.string (⟨(M.varL X.size).toArray⟩ ++ X), .bool true]) ∧ Below W.heap.size W w') := fun W => Short_yes X W (by omega)
      have hvz := varA_size X.size
      have hxy : (⟨(M.varL X.size).toArray⟩ ++ X : ByteArray).size ≤ 44 := by rw [ByteArray.size_append]; omega
      generalize (⟨(M.varL X.size).toArray⟩ ++ X : ByteArray) = Z at *
      clear hvz
      go_enter Tryd.func48, Tryd.ntmps48
      go_wp2_with fail
      refine (HH.out _).mono ?_
      rintro e1 w1 ⟨rfl, hb1⟩
      have HX1 : Hid (Below w.heap.size w w1 ∧ SlB 58 w1 w.heap.size ⟨h, e, r, p⟩ a (.slice ao n1 co) (.slice as2 n2 cs2) (.slice ad n3 cd)) := ⟨HX.out.1.trans (hb1.mono HX.out.1.size), HX.out.2.later hb1⟩
      obtain ⟨z0, z1, z2, z3, z4, z5, z6, z7⟩ := HX1.out.2.cells
      clear hb1 HX HH z0 z1 z2 z3
      go_wp2_with fail
      refine (HS.out _ HX1.out.1).mono ?_
      rintro e2 w2 ⟨rfl, hb2⟩
      have HB2 : Hid (Below w.heap.size w w2) := HX1.out.1.trans (hb2.mono HX1.out.1.size)
      clear z4 z5 z6 z7 HX1 HS hb2
      go_wp2_with fail
      refine (HSH.out _).mono ?_
      rintro e3 w3 ⟨rfl, hb3⟩
      have HB3 : Hid (Below w.heap.size w w3) := HB2.out.trans (hb3.mono HB2.out.size)
      clear HB2 HSH hb3
      go_wp2
      go_ret2
      exact ⟨rfl, HB3.out⟩

end Go.Proofs.YtmfoliocibjdnaaDoor
