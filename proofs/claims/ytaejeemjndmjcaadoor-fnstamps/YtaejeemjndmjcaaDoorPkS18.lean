/-
  Texts laid together: Xc, Mathb, Read.
-/
import Derived.Test.YtaejeemjndmjcaaDoorPkS15
import Derived.Test.YtaejeemjndmjcaaDoorPkS16
import Derived.Test.YtaejeemjndmjcaaDoorPkS4
import Derived.Test.YtaejeemjndmjcaaDoorPkS17
import Derived.Test.YtaejeemjndmjcaaDoorPkS0
import Derived.BigQuiet
import Derived.Deep.RegionWith
/-
  A seal in its box; its text: the program's and the specification's answers.
-/
namespace Go.Proofs.YtaejeemjndmjcaaDoor
open Go.RowKit Go.BigFrame Go.Sort
set_option linter.unusedVariables false
set_option linter.unusedSimpArgs false

/-- the cells of a seal -/
def slcs (x : Hd) (a : Int) (v1 v2 v3 : Value) : List Value := [.int .i64 x.h, .int .i64 x.e, .string x.r, .string x.p, .int .i64 a, v1, v2, v3]
/-- a seal in its box, of the law's type or the program's -/
def SlB (T : Nat) (W : World) (g : Nat) (x : Hd) (a : Int) (v1 v2 v3 : Value) : Prop := W.heap[g]? = some (.cells #[.int .i64 x.h, .int .i64 x.e, .string x.r, .string x.p, .int .i64 a, v1, v2, v3] T (0, 0))
section
variable {T : Nat} {W W' : World} {g : Nat} {x : Hd} {a : Int} {v1 v2 v3 : Value}
theorem SlB.new (T : Nat) (w : World) (x : Hd) (a : Int) (v1 v2 v3 : Value) : SlB T (w.alloc (.cells #[.int .i64 x.h, .int .i64 x.e, .string x.r, .string x.p, .int .i64 a, v1, v2, v3] T)) w.heap.size x a v1 v2 v3 := Go.heap_alloc_new w _
theorem SlB.lt (h : SlB T W g x a v1 v2 v3) : g < W.heap.size := (Array.getElem?_eq_some_iff.1 h).1
theorem SlB.keep (h : SlB T W g x a v1 v2 v3) (he : W'.heap[g]? = W.heap[g]?) : SlB T W' g x a v1 v2 v3 := by
  unfold SlB at *
  rw [he, h]
theorem SlB.later (h : SlB T W g x a v1 v2 v3) (hb : Below W.heap.size W W') : SlB T W' g x a v1 v2 v3 := h.keep (hb.block g h.lt)
theorem SlB.grown {row : Option Nat} (h : SlB T W g x a v1 v2 v3) (hg : W.grownBy W' row) (hne : some g ≠ row) : SlB T W' g x a v1 v2 v3 := h.keep (hg.block g h.lt hne)
theorem SlB.range (h : SlB T W g x a v1 v2 v3) : W.rangeAt g 0 (slcs x a v1 v2 v3) := fun j v hv => by
  rw [cell_of_row W g (0 + j) _ _ _ h, Nat.zero_add]
  simpa [slcs] using hv
theorem SlB.c0 (h : SlB T W g x a v1 v2 v3) : W.cell? ⟨g, 0, none⟩ = some (.int .i64 x.h) := h.range 0 _ rfl
theorem SlB.c1 (h : SlB T W g x a v1 v2 v3) : W.cell? ⟨g, 1, none⟩ = some (.int .i64 x.e) := h.range 1 _ rfl
theorem SlB.c2 (h : SlB T W g x a v1 v2 v3) : W.cell? ⟨g, 2, none⟩ = some (.string x.r) := h.range 2 _ rfl
theorem SlB.c3 (h : SlB T W g x a v1 v2 v3) : W.cell? ⟨g, 3, none⟩ = some (.string x.p) := h.range 3 _ rfl
theorem SlB.c4 (h : SlB T W g x a v1 v2 v3) : W.cell? ⟨g, 4, none⟩ = some (.int .i64 a) := h.range 4 _ rfl
theorem SlB.c5 (h : SlB T W g x a v1 v2 v3) : W.cell? ⟨g, 5, none⟩ = some v1 := h.range 5 _ rfl
theorem SlB.c6 (h : SlB T W g x a v1 v2 v3) : W.cell? ⟨g, 6, none⟩ = some v2 := h.range 6 _ rfl
theorem SlB.c7 (h : SlB T W g x a v1 v2 v3) : W.cell? ⟨g, 7, none⟩ = some v3 := h.range 7 _ rfl
theorem SlB.fz (h : SlB T W g x a v1 v2 v3) (j : Nat) : W.frozen? ⟨g, j, none⟩ = false := by simp [World.frozen?, show W.heap[g]? = _ from h]
/-- all eight cells -/
theorem SlB.cells (h : SlB T W g x a v1 v2 v3) : W.cell? ⟨g, 0, none⟩ = some (.int .i64 x.h) ∧ W.cell? ⟨g, 1, none⟩ = some (.int .i64 x.e) ∧ W.cell? ⟨g, 2, none⟩ = some (.string x.r) ∧ W.cell? ⟨g, 3, none⟩ = some (.string x.p) ∧ W.cell? ⟨g, 4, none⟩ = some (.int .i64 a) ∧ W.cell? ⟨g, 5, none⟩ = some v1 ∧ W.cell? ⟨g, 6, none⟩ = some v2 ∧ W.cell? ⟨g, 7, none⟩ = some v3 := ⟨h.c0, h.c1, h.c2, h.c3, h.c4, h.c5, h.c6, h.c7⟩
end
theorem sizeSeal : (Tryd.prog.info? 30).map (·.size) = some 8 := by kernel_rfl
section
variable {fn : Func} {Rp : Ending → World → Prop} {a : Act} {w : World}
/-- a seal answered out of its box -/
theorem ret_sl1 (c g : Nat) (x : Hd) (y : Int) (v1 v2 v3 : Value) (hres : fn.results = #[.cell c 30]) (hd : a.defers = []) (hp : a.tmps.getD c undef = .pointer (some ⟨g, 0, none⟩)) (hA : SlB 30 w g x y v1 v2 v3) (h : Rp (.returned (.agg #[.int .i64 x.h, .int .i64 x.e, .string x.r, .string x.p, .int .i64 y, v1, v2, v3])) w) : bodyPost Tryd.prog fn Rp .ret a w :=
  ret_rec c g 30 (slcs x y v1 v2 v3) _ hres hd hp Tryd.underlying30 rfl sizeSeal hA.range h
theorem ret_sl2 (c s g : Nat) (x : Hd) (y : Int) (v1 v2 v3 b : Value) (hres : fn.results = #[.cell c 30, .tmp s]) (hd : a.defers = []) (hp : a.tmps.getD c undef = .pointer (some ⟨g, 0, none⟩)) (hb : a.tmps.getD s undef = b) (hA : SlB 30 w g x y v1 v2 v3) (h : Rp (.returned (.tuple #[.agg #[.int .i64 x.h, .int .i64 x.e, .string x.r, .string x.p, .int .i64 y, v1, v2, v3], b])) w) : bodyPost Tryd.prog fn Rp .ret a w :=
  ret_rec2 c s g 30 (slcs x y v1 v2 v3) b _ hres hd hp hb Tryd.underlying30 rfl sizeSeal hA.range h
end

/-- is it a seal that has a text -/
def slOk (x : Hd) (a : Int) (o s d : List ByteArray) : Bool := HV.okH x && formB a o s d
/-- the text of a seal -/
def slB (x : Hd) (a : Int) (o s d : List ByteArray) : ByteArray := if slOk x a o s d = true then ⟨(M.varL (HV.txtH x).size).toArray⟩ ++ HV.txtH x ++ sigB a o s d else ⟨#[]⟩
theorem txtH_small {x : Hd} (h : HV.okH x = true) : (HV.txtH x).size ≤ 34 := by
  obtain ⟨_, _, hr, hp⟩ := HV.okH_iff.1 h
  rw [HV.txtH_b2, b2T_size, hr, hp]
  unfold HV.pw
  split <;> omega

theorem slB_size (x : Hd) (a : Int) (o s d : List ByteArray) : (slB x a o s d).size ≤ 400 := by
  unfold slB
  split
  · rename_i h
    unfold slOk at h
    rw [Bool.and_eq_true] at h
    have h1 := txtH_small h.1
    have h2 := sigB_size a o s d
    have h3 := varA_size (HV.txtH x).size
    rw [ByteArray.size_append, ByteArray.size_append]
    omega
  · exact Nat.zero_le _
set_option maxRecDepth 100000 in
set_option maxHeartbeats 1000000 in
theorem SealText_any (x : Hd) (a : Int) (vo vs vd : Value) (g1 o1 g2 o2 g3 o3 : Nat) (o s d : List ByteArray) (w : World) (ho : SS w vo g1 o1 o) (hs : SS w vs g2 o2 s) (hd : SS w vd g3 o3 d) :
    Calls Tryd.prog 8 #[.agg #[.int .i64 x.h, .int .i64 x.e, .string x.r, .string x.p, .int .i64 a, vo, vs, vd]] w fun e w' => e = .returned (.tuple #[.string (slB x a o s d), .bool (slOk x a o s d)]) ∧ Below w.heap.size w w' := by
  have hB : Below w.heap.size w (w.alloc (.cells #[.int .i64 x.h, .int .i64 x.e, .string x.r, .string x.p, .int .i64 a, vo, vs, vd] 30)) := (Below.refl _ _).alloc (Nat.le_refl _) _
  have HX : Hid (Below w.heap.size w (w.alloc (.cells #[.int .i64 x.h, .int .i64 x.e, .string x.r, .string x.p, .int .i64 a, vo, vs, vd] 30)) ∧ SlB 30 (w.alloc (.cells #[.int .i64 x.h, .int .i64 x.e, .string x.r, .string x.p, .int .i64 a, vo, vs, vd] 30)) w.heap.size x a vo vs vd) := ⟨hB, SlB.new _ _ _ _ _ _ _⟩
  have HH : Hid (∀ W, Calls Tryd.prog 31 #[.agg #[.int .i64 x.h, .int .i64 x.e, .string x.r, .string x.p]] W fun e w' => e = .returned (.tuple #[.string (HV.textH x), .bool (HV.okH x)]) ∧ Below W.heap.size W w') := fun W => HeadText_any x W
  have HS : Hid (∀ W, Below w.heap.size w W → Calls Tryd.prog 32 #[.agg #[.int .i64 a, vo, vs, vd]] W fun e w' => e = .returned (.tuple #[.string (sigB a o s d), .bool (formB a o s d)]) ∧ Below W.heap.size W w') := fun W hW => SigText_all a vo vs vd g1 o1 g2 o2 g3 o3 o s d W (ho.below hW ho.lt) (hs.below hW hs.lt) (hd.below hW hd.lt)
  have hzs := sigB_size a o s d
  have HTX : Hid (HV.okH x = true → (HV.txtH x).size ≤ 34) := fun h => txtH_small h
  unfold slB slOk
  unfold HV.textH at HH
  obtain ⟨ao, co, rfl, lo, x1⟩ := ho
  obtain ⟨as2, cs2, rfl, ls, x2⟩ := hs
  obtain ⟨ad, cd, rfl, ld, x3⟩ := hd
  clear x1 x2 x3 hB
  generalize HV.txtH x = X at *
  generalize HV.okH x = b1 at *
  generalize sigB a o s d = Y at *
  generalize formB a o s d = b2 at *
  generalize o.length = n1 at *
  generalize s.length = n2 at *
  generalize d.length = n3 at *
  obtain ⟨h, e, r, p⟩ := x
  simp only at HX HH ⊢
  cases b1
  · rw [if_neg (by simp)] at HH
    rw [Bool.false_and, if_neg (by simp)]
    go_enter Tryd.func8, Tryd.ntmps8
    go_wp2_with fail
    refine (HH.out _).mono ?_
    rintro e1 w1 ⟨rfl, hb1⟩
    have HX1 : Hid (Below w.heap.size w w1 ∧ SlB 30 w1 w.heap.size ⟨h, e, r, p⟩ a (.slice ao n1 co) (.slice as2 n2 cs2) (.slice ad n3 cd)) := ⟨HX.out.1.trans (hb1.mono HX.out.1.size), HX.out.2.later hb1⟩
    obtain ⟨z0, z1, z2, z3, z4, z5, z6, z7⟩ := HX1.out.2.cells
    clear hb1 HX HH z0 z1 z2 z3 HTX
    go_wp2_with fail
    refine (HS.out _ HX1.out.1).mono ?_
    rintro e2 w2 ⟨rfl, hb2⟩
    have HB2 : Hid (Below w.heap.size w w2) := HX1.out.1.trans (hb2.mono HX1.out.1.size)
    clear z4 z5 z6 z7 HX1 HS hb2
    go_wp2
    go_ret2
    exact ⟨rfl, HB2.out⟩
  · rw [if_pos rfl] at HH
    have hxz := HTX.out rfl
    rw [Bool.true_and]
    clear HTX
    cases b2
    · rw [if_neg (by simp)]
      go_enter Tryd.func8, Tryd.ntmps8
      go_wp2_with fail
      refine (HH.out _).mono ?_
      rintro e1 w1 ⟨rfl, hb1⟩
      have HX1 : Hid (Below w.heap.size w w1 ∧ SlB 30 w1 w.heap.size ⟨h, e, r, p⟩ a (.slice ao n1 co) (.slice as2 n2 cs2) (.slice ad n3 cd)) := ⟨HX.out.1.trans (hb1.mono HX.out.1.size), HX.out.2.later hb1⟩
      obtain ⟨z0, z1, z2, z3, z4, z5, z6, z7⟩ := HX1.out.2.cells
      clear hb1 HX HH z0 z1 z2 z3
      go_wp2_with fail
      refine (HS.out _ HX1.out.1).mono ?_
      rintro e2 w2 ⟨rfl, hb2⟩
      have HB2 : Hid (Below w.heap.size w w2) := HX1.out.1.trans (hb2.mono HX1.out.1.size)
      clear z4 z5 z6 z7 HX1 HS hb2
      go_wp2
      go_ret2
      exact ⟨rfl, HB2.out⟩
    · rw [if_pos rfl]
      have HSH : Hid (∀ W, Calls Tryd.prog 33 #[.string X] W fun e w' => e = .returned (.tuple #[.string (⟨(M.varL X.size).toArray⟩ ++ X), .bool true]) ∧ Below W.heap.size W w') := fun W => Short_yes X W (by omega)
      have hvz := varA_size X.size
      have hxy : (⟨(M.varL X.size).toArray⟩ ++ X : ByteArray).size ≤ 44 := by rw [ByteArray.size_append]; omega
      generalize (⟨(M.varL X.size).toArray⟩ ++ X : ByteArray) = Z at *
      clear hvz
      go_enter Tryd.func8, Tryd.ntmps8
      go_wp2_with fail
      refine (HH.out _).mono ?_
      rintro e1 w1 ⟨rfl, hb1⟩
      have HX1 : Hid (Below w.heap.size w w1 ∧ SlB 30 w1 w.heap.size ⟨h, e, r, p⟩ a (.slice ao n1 co) (.slice as2 n2 cs2) (.slice ad n3 cd)) := ⟨HX.out.1.trans (hb1.mono HX.out.1.size), HX.out.2.later hb1⟩
      obtain ⟨z0, z1, z2, z3, z4, z5, z6, z7⟩ := HX1.out.2.cells
      clear hb1 HX HH z0 z1 z2 z3
      go_wp2_with fail
      refine (HS.out _ HX1.out.1).mono ?_
      rintro e2 w2 ⟨rfl, hb2⟩
      have HB2 : Hid (Below w.heap.size w w2) := HX1.out.1.trans (hb2.mono HX1.out.1.size)
      clear z4 z5 z6 z7 HX1 HS hb2
      go_wp2_with fail
      refine (HSH.out _).mono ?_
      rintro e3 w3 ⟨rfl, hb3⟩
      have HB3 : Hid (Below w.heap.size w w3) := HB2.out.trans (hb3.mono HB2.out.size)
      clear HB2 HSH hb3
      go_wp2
      go_ret2
      exact ⟨rfl, HB3.out⟩

end Go.Proofs.YtaejeemjndmjcaaDoor
/-
  Plain facts on reading a number that stands in bytes, step by step.
-/
namespace Go.Proofs.YtaejeemjndmjcaaDoor.M

theorem pow7 (k : Nat) : (2 : Nat) ^ (7 * k) = 128 ^ k := by rw [Nat.pow_mul]

theorem sh_eq (b k : Nat) : ((b : Int) % 128 * 2 ^ (7 * k)) = ((b % 128 * 128 ^ k : Nat) : Int) := by
  have h : ((2 ^ (7 * k) : Nat) : Int) = (2 : Int) ^ (7 * k) := by simp
  rw [← h, pow7]
  simp

theorem pow_le5 (k : Nat) (h : k ≤ 4) : 128 ^ k ≤ 268435456 := by
  have := Nat.pow_le_pow_right (show 0 < 128 by omega) h
  simpa using this

theorem sh_le (b k : Nat) (h : k ≤ 4) : b % 128 * 128 ^ k ≤ 127 * 268435456 :=
  Nat.mul_le_mul (by omega) (pow_le5 k h)

theorem acc_lt (N b k : Nat) (h : N < 128 ^ k) : N + b % 128 * 128 ^ k < 128 ^ (k + 1) := by
  have h1 : b % 128 * 128 ^ k ≤ 127 * 128 ^ k := Nat.mul_le_mul_right _ (by omega)
  have h2 : 128 ^ (k + 1) = 128 ^ k * 128 := Nat.pow_succ ..
  omega

theorem rv_more (s : List UInt8) (p k N : Nat) (b : UInt8) (hk : k < 5) (hb : s[p + k]? = some b) (h : 127 < b.toNat) :
    rv s p (5 - k) k N = rv s p (5 - (k + 1)) (k + 1) (N + b.toNat % 128 * 128 ^ k) := by
  have e : 5 - k = (5 - (k + 1)) + 1 := by omega
  rw [e]
  simp only [rv, hb]
  rw [if_pos (by omega)]

theorem rv_no (s : List UInt8) (p k N : Nat) (b : UInt8) (hk : k < 5) (hb : s[p + k]? = some b) (h : ¬ 127 < b.toNat) (hn : (b.toNat = 0 ∧ 0 < k) ∨ 1000000000 < N + b.toNat % 128 * 128 ^ k) :
    rv s p (5 - k) k N = none := by
  have e : 5 - k = (5 - (k + 1)) + 1 := by omega
  rw [e]
  simp only [rv, hb]
  rw [if_neg (by omega), if_pos hn]

theorem rv_yes (s : List UInt8) (p k N : Nat) (b : UInt8) (hk : k < 5) (hb : s[p + k]? = some b) (h : ¬ 127 < b.toNat) (hn : ¬ ((b.toNat = 0 ∧ 0 < k) ∨ 1000000000 < N + b.toNat % 128 * 128 ^ k)) :
    rv s p (5 - k) k N = some (N + b.toNat % 128 * 128 ^ k, p + k + 1) := by
  have e : 5 - k = (5 - (k + 1)) + 1 := by omega
  rw [e]
  simp only [rv, hb]
  rw [if_neg (by omega), if_neg hn]

theorem rv_end (s : List UInt8) (p k N : Nat) (h : ¬ (k < 5 ∧ p + k < s.length)) : rv s p (5 - k) k N = none := by
  by_cases hk : k < 5
  · have e : 5 - k = (5 - (k + 1)) + 1 := by omega
    rw [e]
    have hb : s[p + k]? = none := by simp; omega
    simp only [rv, hb]
  · have e : 5 - k = 0 := by omega
    rw [e]
    rfl

end Go.Proofs.YtaejeemjndmjcaaDoor.M
/-
  What ReadVar answers, the program's and the specification's: M.readVar of the text and the place.
-/
namespace Go.Proofs.YtaejeemjndmjcaaDoor
open Go.RowKit
set_option linter.unusedVariables false

/-- the three results of ReadVar -/
def rvOut : Option (Nat × Nat) → Array Value
  | none => #[.int .i64 0, .int .i64 0, .bool false]
  | some (n, q) => #[.int .i64 n, .int .i64 q, .bool true]

theorem ReadVar_out (s : ByteArray) (p : Int) (w : World) (hs : s.size ≤ 1048576) (hp : p < 0 ∨ (s.size : Int) < p) :
    Calls Tryd.prog 67 #[.string s, .int .i64 p] w fun e w' => e = .returned (.tuple (rvOut none)) ∧ w' = w := by
  rcases hp with h | h
  · go_enter Tryd.func67, Tryd.ntmps67
    go_wp2
    go_ret3
    exact ⟨rfl, rfl⟩
  · have h' : ¬ p < 0 := by omega
    go_enter Tryd.func67, Tryd.ntmps67
    go_wp2
    go_ret3
    exact ⟨rfl, rfl⟩

theorem get_l (s : ByteArray) (j : Nat) (h : j < s.size) : s.data.toList[j]? = some s[j] := by
  simp [ByteArray.getElem_eq_getElem_data]

/-- what the loop of ReadVar holds at each round's head -/
def ReadRel (s : ByteArray) (p : Nat) (n i : Value) : Prop :=
  ∃ k N : Nat, k ≤ 5 ∧ p + k ≤ s.size ∧ i = .int .i64 k ∧ n = .int .i64 N ∧ N < 128 ^ k ∧ M.readVar s.data.toList p = M.rv s.data.toList p (5 - k) k N

theorem tuple_none {o : Option (Nat × Nat)} (h : o = none) : Ending.returned (.tuple #[.int .i64 0, .int .i64 0, .bool false]) = .returned (.tuple (rvOut o)) := by rw [h]; rfl
theorem tuple_some {o : Option (Nat × Nat)} {a b : Int} {n q : Nat} (h : o = some (n, q)) (ha : a = n) (hb : b = q) : Ending.returned (.tuple #[.int .i64 a, .int .i64 b, .bool true]) = .returned (.tuple (rvOut o)) := by rw [h, ha, hb]; rfl

set_option maxHeartbeats 1000000 in
theorem ReadVar_in (s : ByteArray) (p : Nat) (w : World) (hs : s.size ≤ 1048576) (hp : p ≤ s.size) :
    Calls Tryd.prog 67 #[.string s, .int .i64 p] w fun e w' => e = .returned (.tuple (rvOut (M.readVar s.data.toList p))) ∧ w' = w := by
  have hp0 : ¬ ((p : Int) < 0) := by omega
  have hp1 : ¬ (s.size : Int) < (p : Int) := by omega
  by_cases h5 : 5 < s.size - p
  all_goals
    go_enter Tryd.func67, Tryd.ntmps67
    go_wp2
    go_loop [7, 23] (fun n i => ReadRel s p n i) (fun _ i => 5 - (intOf i).toNat)
    case atStart => exact ⟨0, 0, by omega, by omega, rfl, rfl, by omega, rfl⟩
    case round =>
      obtain ⟨k, N, hk, hpk, rfl, rfl, hN, he⟩ := hrel
      have HE : Hid (M.readVar s.data.toList p = M.rv s.data.toList p (5 - k) k N) := he
      clear he
      by_cases hkk : k < 5 ∧ p + k < s.size
      · obtain ⟨hk5, hlt⟩ := hkk
        have hb : s[p + k].toNat < 256 := s[p + k].toNat_lt
        have hx : 0 ≤ (s[p + k].toNat : Int) % 128 * 2 ^ (7 * k) ∧ (s[p + k].toNat : Int) % 128 * 2 ^ (7 * k) ≤ 34359738368 := by
          rw [M.sh_eq]
          have := M.sh_le s[p + k].toNat k (by omega)
          omega
        obtain ⟨hx0, hx1⟩ := hx
        have hN5 : N ≤ 268435456 := Nat.le_trans (Nat.le_of_lt hN) (M.pow_le5 k (by omega))
        have hacc := M.acc_lt N s[p + k].toNat k hN
        have HX : Hid ((s[p + k].toNat : Int) % 128 * 2 ^ (7 * k) = ((s[p + k].toNat % 128 * 128 ^ k : Nat) : Int)) := M.sh_eq _ _
        have hget := get_l s (p + k) hlt
        have HG : Hid (s.data.toList[p + k]? = some s[p + k]) := hget
        clear hget
        by_cases hbb : 127 < s[p + k].toNat
        · go_wp2
          go_round
          case rel =>
            refine ⟨k + 1, N + s[p + k].toNat % 128 * 128 ^ k, by omega, by omega, by go_num, ?_, hacc, ?_⟩
            · have hxe := HX.out
              congr 1
              omega
            · rw [HE.out, M.rv_more _ _ _ _ _ hk5 HG.out hbb]
          case measure => simp [intOf]; omega
        · have HT : Hid (s[p + k].toNat = 0 → s[p + k].toNat % 128 * 128 ^ k = 0) := fun h => by rw [h]; simp
          go_wp2
          all_goals
            go_ret3
            refine ⟨?_, rfl⟩
            have hxe := HX.out
            have hT0 := HT.out
            by_cases hd : (s[p + k].toNat = 0 ∧ 0 < k) ∨ 1000000000 < N + s[p + k].toNat % 128 * 128 ^ k
            · have hv := HE.out.trans (M.rv_no _ _ _ _ _ hk5 HG.out hbb hd)
              first | exact tuple_none hv | (exfalso; omega)
            · have hv := HE.out.trans (M.rv_yes _ _ _ _ _ hk5 HG.out hbb hd)
              first | (exfalso; omega) | (refine tuple_some hv ?_ ?_ <;> omega)
      · go_wp2
        go_ret3
        exact ⟨tuple_none (by rw [HE.out, M.rv_end _ _ _ _ (by simpa using hkk)]), rfl⟩

end Go.Proofs.YtaejeemjndmjcaaDoor
