/-
  Texts laid together: Wu, Hp, Wyc, Wyd.
-/
import Derived.Test.YtgkfelhjbeegaaaGreatDoorV18
import Derived.Test.YtgkfelhjbeegaaaGreatDoorV11
import Derived.Lib.SmallJoins
import Derived.Deep.Strs
import Derived.Deep.Slices
import Derived.ProofKit
import Derived.ChangeSame
import Derived.Test.YtgkfelhjbeegaaaGreatDoorV15
import Derived.Test.YtgkfelhjbeegaaaGreatDoorV17
import Derived.Deep.CutRange
/-
  A whole proof as a text: the program's answer.
-/
namespace Go.Proofs.YtgkfelhjbeegaaaGreatDoor
open Go.RowKit Go.BigFrame Go.Sort
set_option linter.unusedVariables false
set_option linter.unusedSimpArgs false

/-- what a whole proof is made of lies in memory so -/
def WhS (w : World) (vb vs vt v1 v2 v3 vst : Value) (L : List Le) (S T o s d : List ByteArray) (G : List Stm) : Prop := (∃ g k, RS 2 lcs w vb g k L) ∧ SmallL L ∧ SX w vs S ∧ SX w vt T ∧ SX w v1 o ∧ SX w v2 s ∧ SX w v3 d ∧ ∃ g k, StS w vst g k G
theorem WhS.later {w w' : World} {vb vs vt v1 v2 v3 vst : Value} {L : List Le} {S T o s d : List ByteArray} {G : List Stm} (h : WhS w vb vs vt v1 v2 v3 vst L S T o s d G) (hb : Below w.heap.size w w') : WhS w' vb vs vt v1 v2 v3 vst L S T o s d G := by
  obtain ⟨⟨g, k, h2⟩, h3, h4, h5, h6, h7, h8, ⟨g2, k2, h9⟩⟩ := h
  exact ⟨⟨g, k, h2.later hb⟩, h3, h4.later hb, h5.later hb, h6.later hb, h7.later hb, h8.later hb, ⟨g2, k2, h9.later hb⟩⟩
theorem WhS.shapes {w : World} {vb vs vt v1 v2 v3 vst : Value} {L : List Le} {S T o s d : List ByteArray} {G : List Stm} (h : WhS w vb vs vt v1 v2 v3 vst L S T o s d G) : (∃ a c, vb = .slice a L.length c) ∧ (∃ a c, vs = .slice a S.length c) ∧ (∃ a c, vt = .slice a T.length c) ∧ (∃ a c, v1 = .slice a o.length c) ∧ (∃ a c, v2 = .slice a s.length c) ∧ (∃ a c, v3 = .slice a d.length c) ∧ (∃ a c, vst = .slice a G.length c) ∧ S.length ≤ 1100000 ∧ T.length ≤ 1100000 ∧ G.length ≤ 1100000 := by
  obtain ⟨⟨g, k, h2⟩, h3, h4, h5, h6, h7, h8, ⟨g2, k2, h9⟩⟩ := h
  obtain ⟨a, c, hv, hl, _⟩ := h9.shape
  exact ⟨h2.shape, h4.shape, h5.shape, h6.shape, h7.shape, h8.shape, ⟨a, c, hv⟩, h4.len, h5.len, hl⟩
theorem Box.all12w {T : Nat} {W : World} {g : Nat} {x0 x1 x2 x3 x4 x5 x6 x7 x8 x9 x10 x11 : Value} (h : Box T W g [x0, x1, x2, x3, x4, x5, x6, x7, x8, x9, x10, x11]) : W.cell? ⟨g, 0, none⟩ = some x0 ∧ W.cell? ⟨g, 1, none⟩ = some x1 ∧ W.cell? ⟨g, 2, none⟩ = some x2 ∧ W.cell? ⟨g, 3, none⟩ = some x3 ∧ W.cell? ⟨g, 4, none⟩ = some x4 ∧ W.cell? ⟨g, 5, none⟩ = some x5 ∧ W.cell? ⟨g, 6, none⟩ = some x6 ∧ W.cell? ⟨g, 7, none⟩ = some x7 ∧ W.cell? ⟨g, 8, none⟩ = some x8 ∧ W.cell? ⟨g, 9, none⟩ = some x9 ∧ W.cell? ⟨g, 10, none⟩ = some x10 ∧ W.cell? ⟨g, 11, none⟩ = some x11 :=
  ⟨h.at 0 _ rfl, h.at 1 _ rfl, h.at 2 _ rfl, h.at 3 _ rfl, h.at 4 _ rfl, h.at 5 _ rfl, h.at 6 _ rfl, h.at 7 _ rfl, h.at 8 _ rfl, h.at 9 _ rfl, h.at 10 _ rfl, h.at 11 _ rfl⟩

theorem joinT_w {x : Nat} {S : List ByteArray} (h : ∀ s ∈ S, s.size ≤ x) : (joinT S).size ≤ S.length * x := by
  induction S with
  | nil => exact Nat.zero_le _
  | cons s S ih =>
    have h1 := ih (fun t ht => h t (List.mem_cons_of_mem _ ht))
    have h2 := h s (List.mem_cons_self ..)
    rw [joinT_cons, ByteArray.size_append]
    simp only [List.length_cons, Nat.add_mul, Nat.one_mul]
    omega
/-- are tops right? -/
def tpB (T : List ByteArray) : Bool := decide (T.length ≤ 2) && allW T 16
theorem tpB_facts {T : List ByteArray} (h : tpB T = true) : T.length ≤ 2 ∧ (joinT T).size ≤ 8 * 1048576 := by
  unfold tpB allW at h
  simp only [Bool.and_eq_true, decide_eq_true_eq, List.all_eq_true] at h
  refine ⟨h.1, ?_⟩
  have h2 := joinT_w (x := 16) (S := T) (fun s hs => by have := h.2 s hs; omega)
  exact Nat.le_trans h2 (Nat.le_trans (Nat.mul_le_mul_right _ h.1) (by decide))
/-- has a whole proof a text? -/
noncomputable def whB (L : List Le) (S T : List ByteArray) (x : Hd) (xa : Int) (o s d : List ByteArray) (G : List Stm) : Bool := pxB L S 16 && (slOk x xa o s d && (stOk G && tpB T))
/-- a text, its length ahead -/
def shT (t : ByteArray) : ByteArray := ⟨(M.varL t.size).toArray⟩ ++ t
noncomputable def whJ (L : List Le) (S T : List ByteArray) (x : Hd) (xa : Int) (o s d : List ByteArray) (G : List Stm) : ByteArray := shT (pxT L S 16) ++ hsT T ++ shT (slB x xa o s d) ++ stJ G
noncomputable def whT (L : List Le) (S T : List ByteArray) (x : Hd) (xa : Int) (o s d : List ByteArray) (G : List Stm) : ByteArray := if whB L S T x xa o s d G = true then whJ L S T x xa o s d G else ⟨#[]⟩
theorem wide16w (R : List ByteArray) : wideB R 16 = allW R 16 := by
  rw [wideB_all, decide_eq_true (by omega), Bool.and_true]
theorem pxT_le (L : List Le) (S : List ByteArray) (x : Int) : (pxT L S x).size ≤ 2000 := by
  unfold pxT
  split
  · rename_i h
    unfold pxB at h
    rw [Bool.and_eq_true] at h
    obtain ⟨h1, h2⟩ := sid_sizes h.2
    have h3 := joinT_w (x := 32) h2
    have h4 := lvT_le L
    have h5 := varT_le S.length
    rw [ByteArray.size_append, ByteArray.size_append]
    have : S.length * 32 ≤ 8 * 32 := Nat.mul_le_mul_right _ h1
    omega
  · exact Nat.zero_le _
theorem hsT_le {T : List ByteArray} (h : tpB T = true) : (hsT T).size ≤ 100 := by
  unfold tpB allW at h
  simp only [Bool.and_eq_true, decide_eq_true_eq, List.all_eq_true] at h
  have h2 := joinT_w (x := 16) (S := T) (fun s hs => by have := h.2 s hs; omega)
  have h3 := varT_le T.length
  unfold hsT
  rw [ByteArray.size_append]
  have : T.length * 16 ≤ 2 * 16 := Nat.mul_le_mul_right _ h.1
  omega

end Go.Proofs.YtgkfelhjbeegaaaGreatDoor
/-
  A head, and a row of heads, that a law is handed.
-/
namespace Go.Proofs.YtgkfelhjbeegaaaGreatDoor
open Go.ChangeShapes Go.WideShapes Go.ChangeAt Go.RowKit
set_option linter.unusedVariables false
set_option linter.unusedSimpArgs false
namespace HV

theorem addr_flat {w : World} {x : Addr} {u : Value} (h : w.cell? x = some u) (j : Nat) : x.add j = ⟨x.block, x.off + j, none⟩ := by
  have hs := World.cell?_spot h
  cases x
  simp at hs
  subst hs
  unfold Addr.add
  split <;> simp_all
theorem addr_zero (x : Addr) : x.add 0 = x := by unfold Addr.add; simp
theorem addr_add (x : Addr) (i j : Nat) : (x.add i).add j = x.add (i + j) := by
  unfold Addr.add
  split <;> split <;> simp_all <;> omega

/-- n records, each read -/
theorem list_of {α : Type} {p : Nat → α → Prop} : ∀ n : Nat, (∀ i, i < n → ∃ f, p i f) → ∃ l : List α, l.length = n ∧ ∀ i (h : i < l.length), p i l[i]
  | 0, _ => ⟨[], rfl, fun i h => absurd h (by simp)⟩
  | n + 1, h => by
    obtain ⟨l, hl, hp⟩ := list_of n (fun i hi => h i (by omega))
    obtain ⟨f, hf⟩ := h n (by omega)
    refine ⟨l ++ [f], by simp [hl], fun i hi => ?_⟩
    rcases Nat.lt_or_ge i l.length with h1 | h1
    · rw [List.getElem_append_left h1]; exact hp i h1
    · have : i = n := by simp at hi; omega
      subst this
      rw [List.getElem_append_right h1]
      simpa using hf

theorem row_at {α : Type} {k : Nat} {enc : α → List Value} {W : World} {a : Addr} {len : Nat} {l : List α} (hk0 : ∀ x, ∃ u r, enc x = u :: r) (hl : l.length = len) (cap : Nat)
    (hp : ∀ i (h : i < l.length), ∀ j u, (enc l[i])[j]? = some u → W.cell? (a.add (i * k + j)) = some u) (hsm : len ≤ 1100000) : RS k enc W (.slice (some a) len cap) a.block a.off l := by
  have hc0 : ∀ h0 : 0 < l.length, ∃ u, W.cell? a = some u := fun h0 => by
    obtain ⟨u, r, e⟩ := hk0 l[0]
    have c0 := hp 0 h0 0 u (by rw [e]; rfl)
    simp only [Nat.zero_mul, Nat.zero_add] at c0
    rw [addr_zero] at c0
    exact ⟨u, c0⟩
  refine ⟨some a, cap, by rw [hl], by omega, fun h0 => ?_, fun j hj i u hu => ?_⟩
  · obtain ⟨u, c0⟩ := hc0 h0
    have e := addr_flat c0 0
    rw [addr_zero] at e
    refine ⟨congrArg some e, ?_⟩
    rw [e] at c0
    exact lt_of_cell c0
  · obtain ⟨u0, c0⟩ := hc0 (by omega)
    have c := hp j hj i u hu
    rw [addr_flat c0] at c
    rw [Nat.add_assoc]
    exact c

theorem cellsLHead : Tryz.prog.cellsOf 29 = 4 := by kernel_rfl
theorem cells9h : Tryz.prog.cellsOf 9 = 1 := by kernel_rfl
theorem cells3h : Tryz.prog.cellsOf 3 = 1 := by kernel_rfl

set_option maxRecDepth 100000 in
theorem head_of_trod {H : Type} {enc : TypeId × Value → H} {W : World} {fuel : Nat} {cs : List Value} {y : DataW H × List MemPlace} (h : DataW.trod enc Tryz.prog W 0 (fun _ => true) true fuel 29 cs = some y) :
    ∃ a : Hd, cs = hcs a ∧ a.r.size ≤ maxLen ∧ a.p.size ≤ maxLen := by
  obtain ⟨y0, y1, y2, y3, n, _, hl, h0, h1, h2, h3⟩ := Joins.trod_struct4 Tryz.underlying29 h
  rw [cellsLHead] at hl
  match cs, hl with
  | [c0, c1, c2, c3], _ =>
    simp [cells9h, cells3h] at h0 h1 h2 h3
    obtain ⟨i0, e0, _, _⟩ := DataW.trod_int Tryz.underlying3 h0
    obtain ⟨i1, e1, _, _⟩ := DataW.trod_int Tryz.underlying3 h1
    obtain ⟨s2, e2, _, b2⟩ := DataW.trod_string Tryz.underlying9 h2
    obtain ⟨s3, e3, _, b3⟩ := DataW.trod_string Tryz.underlying9 h3
    simp at e0 e1 e2 e3
    exact ⟨⟨i0, i1, s2, s3⟩, by rw [e0, e1, e2, e3]; rfl, b2, b3⟩

/-- no text of it passes what a text may have -/
def FitH (a : Hd) : Prop := a.r.size ≤ 9223372036854775807 ∧ a.p.size ≤ 9223372036854775807

set_option maxRecDepth 100000 in
theorem open_head {H : Type} {enc : TypeId × Value → H} {W : World} {base : Nat} {v : Value} {d : DataW H} {p : List MemPlace} (hv : Value.okWide Tryz.prog W .any base 29 v) (h : DataW.Trod enc Tryz.prog W 0 (fun _ => true) true 29 v d p) :
    ∃ a : Hd, v = .agg #[.int .i64 a.h, .int .i64 a.e, .string a.r, .string a.p] ∧ FitH a := by
  obtain ⟨cs, rfl, hsz⟩ := okWide_struct Tryz.underlying29 hv
  obtain ⟨fuel, hf⟩ := h
  obtain ⟨a, e, b1, b2⟩ := head_of_trod hf
  obtain ⟨l⟩ := cs
  have e' : l = hcs a := by simpa [Value.cells] using e
  subst e'
  unfold maxLen at b1 b2
  exact ⟨a, rfl, b1, b2⟩

end HV

end Go.Proofs.YtgkfelhjbeegaaaGreatDoor
/-
  What the laws' own helpers do with whole proofs: measured, compared, taken over.
-/
namespace Go.Proofs.YtgkfelhjbeegaaaGreatDoor
open Go.RowKit Go.BigFrame Go.Sort
set_option linter.unusedVariables false
set_option linter.unusedSimpArgs false

set_option maxRecDepth 100000 in
set_option maxHeartbeats 1000000 in
theorem szSealT_row (x : Hd) (a : Int) (v1 v2 v3 : Value) (g1 o1 g2 o2 g3 o3 : Nat) (l1 l2 l3 : List ByteArray) (z : Int) (w : World) (hz0 : 0 ≤ z) (hz1 : z ≤ 1048576) (hr : x.r.size ≤ 9223372036854775807) (hp : x.p.size ≤ 9223372036854775807) (h1 : IsRowT w v1 g1 o1 l1) (h2 : IsRowT w v2 g2 o2 l2) (h3 : IsRowT w v3 g3 o3 l3) :
    Calls Tryz.prog 14 #[.agg #[.int .i64 x.h, .int .i64 x.e, .string x.r, .string x.p, .int .i64 a, v1, v2, v3], .int .i64 z] w fun e w' => ∃ A : Int, e = .returned (.int .i64 A) ∧ Below w.heap.size w w' ∧ A ≤ z ∧ (0 ≤ A → SmT v1 l1 ∧ SmT v2 l2 ∧ SmT v3 l3) := by
  have HH : Hid (∀ W, Calls Tryz.prog 35 #[.agg #[.int .i64 x.h, .int .i64 x.e, .string x.r, .string x.p], .int .i64 z] W fun e w' => ∃ A : Int, e = .returned (.int .i64 A) ∧ Below W.heap.size W w' ∧ A ≤ z ∧ (0 ≤ A → x.r.size ≤ 1048576 ∧ x.p.size ≤ 1048576)) := fun W => szHead_any x z W hz0 hz1 hr hp
  have HS : Hid (∀ W y, Below w.heap.size w W → 0 ≤ y → y ≤ z → Calls Tryz.prog 36 #[.agg #[.int .i64 a, v1, v2, v3], .int .i64 y] W fun e w' => ∃ A : Int, e = .returned (.int .i64 A) ∧ Below W.heap.size W w' ∧ A ≤ y ∧ (0 ≤ A → SmT v1 l1 ∧ SmT v2 l2 ∧ SmT v3 l3)) := fun W y hW h0 hy => szSigT_row a v1 v2 v3 g1 o1 g2 o2 g3 o3 l1 l2 l3 y W h0 (by omega) (h1.later hW) (h2.later hW) (h3.later hW)
  obtain ⟨b1, n1, c1, rfl, k1⟩ := h1
  obtain ⟨b2, n2, c2, rfl, k2⟩ := h2
  obtain ⟨b3, n3, c3, rfl, k3⟩ := h3
  clear k1 k2 k3 hr hp
  obtain ⟨h, e, r, p⟩ := x
  simp only at HH ⊢
  have HX : Hid (Below w.heap.size w (w.alloc (.cells #[.int .i64 h, .int .i64 e, .string r, .string p, .int .i64 a, .slice b1 n1 c1, .slice b2 n2 c2, .slice b3 n3 c3] 33)) ∧ SlB 33 (w.alloc (.cells #[.int .i64 h, .int .i64 e, .string r, .string p, .int .i64 a, .slice b1 n1 c1, .slice b2 n2 c2, .slice b3 n3 c3] 33)) w.heap.size ⟨h, e, r, p⟩ a (.slice b1 n1 c1) (.slice b2 n2 c2) (.slice b3 n3 c3)) := ⟨below_alloc _ _, SlB.new _ _ ⟨h, e, r, p⟩ _ _ _ _⟩
  go_enter Tryz.func14, Tryz.ntmps14
  go_wp2_with fail
  refine (HH.out _).mono ?_
  rintro e1 w1 ⟨A, rfl, hb1, hA1, hA2⟩
  have HX1 : Hid (Below w.heap.size w w1 ∧ SlB 33 w1 w.heap.size ⟨h, e, r, p⟩ a (.slice b1 n1 c1) (.slice b2 n2 c2) (.slice b3 n3 c3)) := ⟨HX.out.1.trans (hb1.mono HX.out.1.size), HX.out.2.later hb1⟩
  clear hb1 HX HH hA2
  by_cases hneg : A < 0
  · clear HS
    go_wp2
    go_ret
    exact ⟨-1, rfl, HX1.out.1, by omega, fun h => by omega⟩
  · obtain ⟨q0, q1, q2, q3, q4, q5, q6, q7⟩ := HX1.out.2.cells
    clear q0 q1 q2 q3
    go_wp2_with fail
    refine (HS.out _ A HX1.out.1 (by omega) hA1).mono ?_
    rintro e2 w2 ⟨B, rfl, hb2, hB1, hB⟩
    have HB2 : Hid (Below w.heap.size w w2) := HX1.out.1.trans (hb2.mono HX1.out.1.size)
    have HB3 : Hid (0 ≤ B → SmT (.slice b1 n1 c1) l1 ∧ SmT (.slice b2 n2 c2) l2 ∧ SmT (.slice b3 n3 c3) l3) := hB
    clear hb2 HX1 q4 q5 q6 q7 hB HS
    by_cases hneg2 : B < 0
    · go_wp2
      go_ret
      exact ⟨-1, rfl, HB2.out, by omega, fun h => by omega⟩
    · go_wp2
      go_ret
      exact ⟨B, rfl, HB2.out, by omega, fun h => HB3.out h⟩

/-- a whole proof in a law's hands -/
structure WhA where
  vb : Value
  vs : Value
  vt : Value
  x : Hd
  a : Int
  v1 : Value
  v2 : Value
  v3 : Value
  vg : Value
  L : List Le
  S : List ByteArray
  T : List ByteArray
  o : List ByteArray
  s : List ByteArray
  d : List ByteArray
  V : List StV
  G : List Stm
/-- .. as it was handed in, great or small -/
def WhA.is (Z : WhA) (w : World) : Prop := (∃ g o, IsRowL w Z.vb g o Z.L) ∧ (∃ g o, IsRowT w Z.vs g o Z.S) ∧ (∃ g o, IsRowT w Z.vt g o Z.T) ∧ HV.FitH Z.x ∧ (∃ g o, IsRowT w Z.v1 g o Z.o) ∧ (∃ g o, IsRowT w Z.v2 g o Z.s) ∧ (∃ g o, IsRowT w Z.v3 g o Z.d) ∧ ∃ g o, IsRowG w Z.vg g o Z.V Z.G
theorem WhA.is.later {Z : WhA} {w w' : World} (h : Z.is w) (hb : Below w.heap.size w w') : Z.is w' := by
  obtain ⟨⟨g1, o1, h1⟩, ⟨g2, o2, h2⟩, ⟨g3, o3, h3⟩, h4, ⟨g5, o5, h5⟩, ⟨g6, o6, h6⟩, ⟨g7, o7, h7⟩, ⟨g8, o8, h8⟩⟩ := h
  exact ⟨⟨g1, o1, h1.later hb⟩, ⟨g2, o2, h2.later hb⟩, ⟨g3, o3, h3.later hb⟩, h4, ⟨g5, o5, h5.later hb⟩, ⟨g6, o6, h6.later hb⟩, ⟨g7, o7, h7.later hb⟩, ⟨g8, o8, h8.later hb⟩⟩
/-- .. and it is small -/
def WhA.sm (Z : WhA) (w : World) : Prop := WhS w Z.vb Z.vs Z.vt Z.v1 Z.v2 Z.v3 Z.vg Z.L Z.S Z.T Z.o Z.s Z.d Z.G

set_option maxRecDepth 100000 in
set_option maxHeartbeats 2000000 in
theorem szWhole_row (Z : WhA) (z : Int) (w : World) (hZ : Z.is w) (hz0 : 0 ≤ z) (hz1 : z ≤ 1048576) :
    Calls Tryz.prog 5 #[.agg #[Z.vb, Z.vs, Z.vt, .int .i64 Z.x.h, .int .i64 Z.x.e, .string Z.x.r, .string Z.x.p, .int .i64 Z.a, Z.v1, Z.v2, Z.v3, Z.vg], .int .i64 z] w fun e w' => ∃ A : Int, e = .returned (.int .i64 A) ∧ Below w.heap.size w w' ∧ A ≤ z ∧ (0 ≤ A → Z.sm w') := by
  have HZ : Hid (∀ W, Below w.heap.size w W → Z.is W) := fun W hW => hZ.later hW
  have H1 : Hid (∀ W, Below w.heap.size w W → Calls Tryz.prog 13 #[.agg #[Z.vb, Z.vs], .int .i64 z] W fun e w' => ∃ A : Int, e = .returned (.int .i64 A) ∧ Below W.heap.size W w' ∧ A ≤ z ∧ (0 ≤ A → (∃ g o, RS 2 lcs W Z.vb g o Z.L) ∧ SmallL Z.L ∧ SX W Z.vs Z.S)) := fun W hW => by
    obtain ⟨⟨g1, o1, h1⟩, ⟨g2, o2, h2⟩, _⟩ := hZ.later hW
    exact (szProof_row Z.vb Z.vs g1 o1 g2 o2 Z.L Z.S z W h1 h2 hz0 hz1).mono fun e w' ⟨A, he, hb, hA, hB⟩ => ⟨A, he, hb, hA, fun h => ⟨⟨g1, o1, (hB h).1⟩, (hB h).2.1, ⟨g2, o2, (hB h).2.2.2.1⟩⟩⟩
  have H2 : Hid (∀ W y, Below w.heap.size w W → 0 ≤ y → y ≤ z → Calls Tryz.prog 12 #[Z.vt, .int .i64 y] W fun e w' => ∃ A : Int, e = .returned (.int .i64 A) ∧ w' = W ∧ A ≤ y ∧ (0 ≤ A → SmT Z.vt Z.T)) := fun W y hW h0 hy => by
    obtain ⟨_, _, ⟨g3, o3, h3⟩, _⟩ := hZ.later hW
    exact (szStringS_row Z.vt g3 o3 Z.T y W h3 h0 (by omega)).mono fun e w' ⟨A, he, hw, hA, hB⟩ => ⟨A, he, hw, hA, fun h => SmT.of (hB h).1 (hB h).2.2.2⟩
  have H3 : Hid (∀ W y, Below w.heap.size w W → 0 ≤ y → y ≤ z → Calls Tryz.prog 14 #[.agg #[.int .i64 Z.x.h, .int .i64 Z.x.e, .string Z.x.r, .string Z.x.p, .int .i64 Z.a, Z.v1, Z.v2, Z.v3], .int .i64 y] W fun e w' => ∃ A : Int, e = .returned (.int .i64 A) ∧ Below W.heap.size W w' ∧ A ≤ y ∧ (0 ≤ A → SmT Z.v1 Z.o ∧ SmT Z.v2 Z.s ∧ SmT Z.v3 Z.d)) := fun W y hW h0 hy => by
    obtain ⟨_, _, _, hf, ⟨g1, o1, h1⟩, ⟨g2, o2, h2⟩, ⟨g3, o3, h3⟩, _⟩ := hZ.later hW
    exact szSealT_row Z.x Z.a Z.v1 Z.v2 Z.v3 g1 o1 g2 o2 g3 o3 Z.o Z.s Z.d y W h0 (by omega) hf.1 hf.2 h1 h2 h3
  have H4 : Hid (∀ W y, Below w.heap.size w W → 0 ≤ y → y ≤ z → Calls Tryz.prog 15 #[Z.vg, .int .i64 y] W fun e w' => ∃ A : Int, e = .returned (.int .i64 A) ∧ Below W.heap.size W w' ∧ A ≤ y ∧ (0 ≤ A → SmG Z.vg Z.V Z.G)) := fun W y hW h0 hy => by
    obtain ⟨_, _, _, _, _, _, _, ⟨g, o, h⟩⟩ := hZ.later hW
    exact szStampS_row Z.vg g o Z.V Z.G y W h h0 (by omega)
  have HF : Hid (∀ W W', Below w.heap.size w W → Below W.heap.size W W' → ((∃ g o, RS 2 lcs W Z.vb g o Z.L) ∧ SmallL Z.L ∧ SX W Z.vs Z.S) → SmT Z.vt Z.T → (SmT Z.v1 Z.o ∧ SmT Z.v2 Z.s ∧ SmT Z.v3 Z.d) → SmG Z.vg Z.V Z.G → Z.sm W') := fun W W' hW hW' h1 h2 h3 h4 => by
    obtain ⟨_, _, ⟨g3, o3, k3⟩, _, ⟨g5, o5, k5⟩, ⟨g6, o6, k6⟩, ⟨g7, o7, k7⟩, ⟨g8, o8, k8⟩⟩ := hZ.later (hW.trans (hW'.mono hW.size))
    obtain ⟨⟨g, o, r⟩, q, t⟩ := h1
    exact ⟨⟨g, o, r.later hW'⟩, q, t.later hW', ⟨g3, o3, h2.ss k3⟩, ⟨g5, o5, h3.1.ss k5⟩, ⟨g6, o6, h3.2.1.ss k6⟩, ⟨g7, o7, h3.2.2.ss k7⟩, ⟨g8, o8, h4.sts k8⟩⟩
  obtain ⟨⟨_, _, ab, nb, cb, e1, _⟩, ⟨_, _, as2, ns, cs, e2, _⟩, ⟨_, _, at2, nt, ct, e3, _⟩, _, ⟨_, _, a1, n1, c1, e5, _⟩, ⟨_, _, a2, n2, c2, e6, _⟩, ⟨_, _, a3, n3, c3, e7, _⟩, ⟨_, _, ag, ng, cg, e8, _⟩⟩ := hZ
  clear HZ
  have HX : Hid (Below w.heap.size w (w.alloc (.cells #[Z.vb, Z.vs, Z.vt, .int .i64 Z.x.h, .int .i64 Z.x.e, .string Z.x.r, .string Z.x.p, .int .i64 Z.a, Z.v1, Z.v2, Z.v3, Z.vg] 36)) ∧ Box 36 (w.alloc (.cells #[Z.vb, Z.vs, Z.vt, .int .i64 Z.x.h, .int .i64 Z.x.e, .string Z.x.r, .string Z.x.p, .int .i64 Z.a, Z.v1, Z.v2, Z.v3, Z.vg] 36)) w.heap.size [Z.vb, Z.vs, Z.vt, .int .i64 Z.x.h, .int .i64 Z.x.e, .string Z.x.r, .string Z.x.p, .int .i64 Z.a, Z.v1, Z.v2, Z.v3, Z.vg]) := ⟨below_alloc _ _, Box.new _ _ _⟩
  have HSM : Hid (∀ W, Z.sm W = Z.sm W) := fun _ => rfl
  generalize hsm : Z.sm = SM at *
  generalize SmT Z.vt Z.T = q2 at *
  generalize (SmT Z.v1 Z.o ∧ SmT Z.v2 Z.s ∧ SmT Z.v3 Z.d) = q3 at *
  generalize SmG Z.vg Z.V Z.G = q4 at *
  clear HSM hsm
  have HQ1 : Hid (∀ W, ((∃ g o, RS 2 lcs W Z.vb g o Z.L) ∧ SmallL Z.L ∧ SX W Z.vs Z.S) = ((∃ g o, RS 2 lcs W Z.vb g o Z.L) ∧ SmallL Z.L ∧ SX W Z.vs Z.S)) := fun _ => rfl
  generalize hq1 : (fun W => ((∃ g o, RS 2 lcs W Z.vb g o Z.L) ∧ SmallL Z.L ∧ SX W Z.vs Z.S)) = q1 at *
  have H1' : Hid (∀ W, Below w.heap.size w W → Calls Tryz.prog 13 #[.agg #[Z.vb, Z.vs], .int .i64 z] W fun e w' => ∃ A : Int, e = .returned (.int .i64 A) ∧ Below W.heap.size W w' ∧ A ≤ z ∧ (0 ≤ A → q1 W)) := by rw [← hq1]; exact H1
  have HF' : Hid (∀ W W', Below w.heap.size w W → Below W.heap.size W W' → q1 W → q2 → q3 → q4 → SM W') := by rw [← hq1]; exact HF
  clear H1 HF hq1 HQ1
  obtain ⟨vb, vs, vt, ⟨h, e, r, p⟩, a, v1, v2, v3, vg, L, S, T, o, s, d, V, G⟩ := Z
  simp only at e1 e2 e3 e5 e6 e7 e8 H1' H2 H3 H4 HX ⊢
  subst e1
  subst e2
  subst e3
  subst e5
  subst e6
  subst e7
  subst e8
  go_enter Tryz.func5, Tryz.ntmps5
  go_wp2_with fail
  refine (H1'.out _ HX.out.1).mono ?_
  rintro e1 w1 ⟨A, rfl, hb1, hA1, hA2⟩
  have HX1 : Hid (Below w.heap.size w w1 ∧ Box 36 w1 w.heap.size [.slice ab nb cb, .slice as2 ns cs, .slice at2 nt ct, .int .i64 h, .int .i64 e, .string r, .string p, .int .i64 a, .slice a1 n1 c1, .slice a2 n2 c2, .slice a3 n3 c3, .slice ag ng cg]) := ⟨HX.out.1.trans (hb1.mono HX.out.1.size), HX.out.2.later hb1⟩
  have HQ1 : Hid (0 ≤ A → q1 (w.alloc (.cells #[.slice ab nb cb, .slice as2 ns cs, .slice at2 nt ct, .int .i64 h, .int .i64 e, .string r, .string p, .int .i64 a, .slice a1 n1 c1, .slice a2 n2 c2, .slice a3 n3 c3, .slice ag ng cg] 36)) ∧ Below (w.alloc (.cells #[.slice ab nb cb, .slice as2 ns cs, .slice at2 nt ct, .int .i64 h, .int .i64 e, .string r, .string p, .int .i64 a, .slice a1 n1 c1, .slice a2 n2 c2, .slice a3 n3 c3, .slice ag ng cg] 36)).heap.size (w.alloc (.cells #[.slice ab nb cb, .slice as2 ns cs, .slice at2 nt ct, .int .i64 h, .int .i64 e, .string r, .string p, .int .i64 a, .slice a1 n1 c1, .slice a2 n2 c2, .slice a3 n3 c3, .slice ag ng cg] 36)) w1 ∧ Below w.heap.size w (w.alloc (.cells #[.slice ab nb cb, .slice as2 ns cs, .slice at2 nt ct, .int .i64 h, .int .i64 e, .string r, .string p, .int .i64 a, .slice a1 n1 c1, .slice a2 n2 c2, .slice a3 n3 c3, .slice ag ng cg] 36))) := fun h => ⟨hA2 h, hb1, HX.out.1⟩
  clear hb1 hA2 HX H1'
  by_cases hneg : A < 0
  · clear H2 H3 H4 HF' HQ1
    go_wp2
    go_ret
    exact ⟨-1, rfl, HX1.out.1, by omega, fun h => by omega⟩
  have hq1 := HQ1.out (by omega)
  have HQ2 : Hid (q1 (w.alloc (.cells #[.slice ab nb cb, .slice as2 ns cs, .slice at2 nt ct, .int .i64 h, .int .i64 e, .string r, .string p, .int .i64 a, .slice a1 n1 c1, .slice a2 n2 c2, .slice a3 n3 c3, .slice ag ng cg] 36)) ∧ Below (w.alloc (.cells #[.slice ab nb cb, .slice as2 ns cs, .slice at2 nt ct, .int .i64 h, .int .i64 e, .string r, .string p, .int .i64 a, .slice a1 n1 c1, .slice a2 n2 c2, .slice a3 n3 c3, .slice ag ng cg] 36)).heap.size (w.alloc (.cells #[.slice ab nb cb, .slice as2 ns cs, .slice at2 nt ct, .int .i64 h, .int .i64 e, .string r, .string p, .int .i64 a, .slice a1 n1 c1, .slice a2 n2 c2, .slice a3 n3 c3, .slice ag ng cg] 36)) w1 ∧ Below w.heap.size w (w.alloc (.cells #[.slice ab nb cb, .slice as2 ns cs, .slice at2 nt ct, .int .i64 h, .int .i64 e, .string r, .string p, .int .i64 a, .slice a1 n1 c1, .slice a2 n2 c2, .slice a3 n3 c3, .slice ag ng cg] 36))) := hq1
  clear hq1 HQ1
  obtain ⟨z0, z1, z2, z3, z4, z5, z6, z7, z8, z9, z10, z11⟩ := HX1.out.2.all12w
  go_wp2_with fail
  refine (H2.out _ A HX1.out.1 (by omega) hA1).mono ?_
  rintro e2 w2 ⟨B, rfl, rfl, hB1, hB2⟩
  have HB2 : Hid (0 ≤ B → q2) := hB2
  clear hB2 H2
  by_cases hneg2 : B < 0
  · clear H3 H4 HF' HQ2 HB2
    go_wp2
    go_ret
    exact ⟨-1, rfl, HX1.out.1, by omega, fun h => by omega⟩
  go_wp2_with fail
  refine (H3.out _ B HX1.out.1 (by omega) (by omega)).mono ?_
  rintro e3 w3 ⟨C, rfl, hb3, hC1, hC2⟩
  have HX3 : Hid (Below w.heap.size w w3 ∧ Box 36 w3 w.heap.size [.slice ab nb cb, .slice as2 ns cs, .slice at2 nt ct, .int .i64 h, .int .i64 e, .string r, .string p, .int .i64 a, .slice a1 n1 c1, .slice a2 n2 c2, .slice a3 n3 c3, .slice ag ng cg] ∧ Below (w.alloc (.cells #[.slice ab nb cb, .slice as2 ns cs, .slice at2 nt ct, .int .i64 h, .int .i64 e, .string r, .string p, .int .i64 a, .slice a1 n1 c1, .slice a2 n2 c2, .slice a3 n3 c3, .slice ag ng cg] 36)).heap.size (w.alloc (.cells #[.slice ab nb cb, .slice as2 ns cs, .slice at2 nt ct, .int .i64 h, .int .i64 e, .string r, .string p, .int .i64 a, .slice a1 n1 c1, .slice a2 n2 c2, .slice a3 n3 c3, .slice ag ng cg] 36)) w3) := ⟨HX1.out.1.trans (hb3.mono HX1.out.1.size), HX1.out.2.later hb3, HQ2.out.2.1.trans (hb3.mono HQ2.out.2.1.size)⟩
  have HC2 : Hid (0 ≤ C → q3) := hC2
  clear hC2 H3 hb3 HX1 z0 z1 z2 z3 z4 z5 z6 z7 z8 z9 z10 z11
  by_cases hneg3 : C < 0
  · clear H4 HF' HQ2 HB2 HC2
    go_wp2
    go_ret
    exact ⟨-1, rfl, HX3.out.1, by omega, fun h => by omega⟩
  obtain ⟨z0, z1, z2, z3, z4, z5, z6, z7, z8, z9, z10, z11⟩ := HX3.out.2.1.all12w
  clear z0 z1 z2 z3 z4 z5 z6 z7 z8 z9 z10
  go_wp2_with fail
  refine (H4.out _ C HX3.out.1 (by omega) (by omega)).mono ?_
  rintro e4 w4 ⟨D, rfl, hb4, hD1, hD2⟩
  have HX4 : Hid (Below w.heap.size w w4 ∧ (0 ≤ D → SM w4)) := ⟨HX3.out.1.trans (hb4.mono HX3.out.1.size), fun hh => HF'.out _ w4 HQ2.out.2.2 (HX3.out.2.2.trans (hb4.mono HX3.out.2.2.size)) HQ2.out.1 (HB2.out (by omega)) (HC2.out (by omega)) (hD2 hh)⟩
  clear hD2 hb4 HX3 z11 H4 HF' HB2 HC2 HQ2
  by_cases hneg4 : D < 0
  · go_wp2
    go_ret
    exact ⟨-1, rfl, HX4.out.1, by omega, fun h => by omega⟩
  · go_wp2
    go_ret
    exact ⟨D, rfl, HX4.out.1, by omega, fun h => HX4.out.2 h⟩

end Go.Proofs.YtgkfelhjbeegaaaGreatDoor
/-
  What the laws' own helpers do with whole proofs: compared.
-/
namespace Go.Proofs.YtgkfelhjbeegaaaGreatDoor
open Go.RowKit Go.BigFrame Go.Sort
set_option linter.unusedVariables false
set_option linter.unusedSimpArgs false

set_option maxRecDepth 100000 in
set_option maxHeartbeats 2000000 in
theorem eqWhole_yes (vb vs vt v1 v2 v3 vg ub us ut u1 u2 u3 ug : Value) (x : Hd) (a : Int) (L : List Le) (S T o s d : List ByteArray) (G : List Stm) (w : World) (hM : WhS w vb vs vt v1 v2 v3 vg L S T o s d G) (hN : WhS w ub us ut u1 u2 u3 ug L S T o s d G) :
    Calls Tryz.prog 11 #[.agg #[vb, vs, vt, .int .i64 x.h, .int .i64 x.e, .string x.r, .string x.p, .int .i64 a, v1, v2, v3, vg], .agg #[ub, us, ut, .int .i64 x.h, .int .i64 x.e, .string x.r, .string x.p, .int .i64 a, u1, u2, u3, ug]] w fun e w' => e = .returned (.bool true) ∧ Below w.heap.size w w' := by
  have H1 : Hid (∀ W, Below w.heap.size w W → Calls Tryz.prog 31 #[.agg #[vb, vs], .agg #[ub, us]] W fun e w' => e = .returned (.bool true) ∧ Below W.heap.size W w') := fun W hW => by
    obtain ⟨⟨g1, o1, h1⟩, _, ⟨g2, o2, h2⟩, _⟩ := hM.later hW
    obtain ⟨⟨p1, q1, k1⟩, _, ⟨p2, q2, k2⟩, _⟩ := hN.later hW
    exact eqProof_yes vb vs ub us g1 o1 g2 o2 p1 q1 p2 q2 L S W h1 h2 k1 k2
  have H2 : Hid (∀ W, Below w.heap.size w W → Calls Tryz.prog 30 #[vt, ut] W fun e w' => e = .returned (.bool true) ∧ Below W.heap.size W w') := fun W hW => by
    obtain ⟨_, _, _, ⟨g2, o2, h2⟩, _⟩ := hM.later hW
    obtain ⟨_, _, _, ⟨p2, q2, k2⟩, _⟩ := hN.later hW
    exact (eqStringS_yes vt ut g2 o2 p2 q2 T W h2 k2).mono fun e w' ⟨he, q, hw⟩ => ⟨he, by rw [hw]; exact below_drn (Below.refl _ _) q⟩
  have H3 : Hid (∀ W, Below w.heap.size w W → Calls Tryz.prog 32 #[.agg #[.int .i64 x.h, .int .i64 x.e, .string x.r, .string x.p, .int .i64 a, v1, v2, v3], .agg #[.int .i64 x.h, .int .i64 x.e, .string x.r, .string x.p, .int .i64 a, u1, u2, u3]] W fun e w' => e = .returned (.bool true) ∧ Below W.heap.size W w') := fun W hW => by
    obtain ⟨_, _, _, _, ⟨g1, o1, h1⟩, ⟨g2, o2, h2⟩, ⟨g3, o3, h3⟩, _⟩ := hM.later hW
    obtain ⟨_, _, _, _, ⟨p1, q1, k1⟩, ⟨p2, q2, k2⟩, ⟨p3, q3, k3⟩, _⟩ := hN.later hW
    exact eqSeal_yes x a v1 v2 v3 u1 u2 u3 g1 o1 g2 o2 g3 o3 p1 q1 p2 q2 p3 q3 o s d W h1 h2 h3 k1 k2 k3
  have H4 : Hid (∀ W, Below w.heap.size w W → Calls Tryz.prog 33 #[vg, ug] W fun e w' => e = .returned (.bool true) ∧ Below W.heap.size W w') := fun W hW => by
    obtain ⟨_, _, _, _, _, _, _, ⟨g, k, h⟩⟩ := hM.later hW
    obtain ⟨_, _, _, _, _, _, _, ⟨g', k', h'⟩⟩ := hN.later hW
    exact eqStampS_yes vg ug g k g' k' G W h h'
  obtain ⟨h, e, r, p⟩ := x
  simp only at H3 ⊢
  obtain ⟨⟨ab, cb, rfl⟩, ⟨as2, cs, rfl⟩, ⟨at2, ct, rfl⟩, ⟨a1, c1, rfl⟩, ⟨a2, c2, rfl⟩, ⟨a3, c3, rfl⟩, ⟨ag, cg, rfl⟩, lS, lT, lG⟩ := hM.shapes
  obtain ⟨⟨ub, db, rfl⟩, ⟨us, ds, rfl⟩, ⟨ut, dt, rfl⟩, ⟨u1, d1, rfl⟩, ⟨u2, d2, rfl⟩, ⟨u3, d3, rfl⟩, ⟨ug, dg, rfl⟩, mS, mT, mG⟩ := hN.shapes
  clear hM hN lS lT lG mS mT mG
  generalize L.length = nb at *
  generalize S.length = ns at *
  generalize T.length = nt at *
  generalize o.length = n1 at *
  generalize s.length = n2 at *
  generalize d.length = n3 at *
  generalize G.length = ng at *
  have HX : Hid (Below w.heap.size w ((w.alloc (.cells #[.slice ab nb cb, .slice as2 ns cs, .slice at2 nt ct, .int .i64 h, .int .i64 e, .string r, .string p, .int .i64 a, .slice a1 n1 c1, .slice a2 n2 c2, .slice a3 n3 c3, .slice ag ng cg] 52)).alloc (.cells #[.slice ub nb db, .slice us ns ds, .slice ut nt dt, .int .i64 h, .int .i64 e, .string r, .string p, .int .i64 a, .slice u1 n1 d1, .slice u2 n2 d2, .slice u3 n3 d3, .slice ug ng dg] 52)) ∧ Box 52 ((w.alloc (.cells #[.slice ab nb cb, .slice as2 ns cs, .slice at2 nt ct, .int .i64 h, .int .i64 e, .string r, .string p, .int .i64 a, .slice a1 n1 c1, .slice a2 n2 c2, .slice a3 n3 c3, .slice ag ng cg] 52)).alloc (.cells #[.slice ub nb db, .slice us ns ds, .slice ut nt dt, .int .i64 h, .int .i64 e, .string r, .string p, .int .i64 a, .slice u1 n1 d1, .slice u2 n2 d2, .slice u3 n3 d3, .slice ug ng dg] 52)) w.heap.size [.slice ab nb cb, .slice as2 ns cs, .slice at2 nt ct, .int .i64 h, .int .i64 e, .string r, .string p, .int .i64 a, .slice a1 n1 c1, .slice a2 n2 c2, .slice a3 n3 c3, .slice ag ng cg] ∧ Box 52 ((w.alloc (.cells #[.slice ab nb cb, .slice as2 ns cs, .slice at2 nt ct, .int .i64 h, .int .i64 e, .string r, .string p, .int .i64 a, .slice a1 n1 c1, .slice a2 n2 c2, .slice a3 n3 c3, .slice ag ng cg] 52)).alloc (.cells #[.slice ub nb db, .slice us ns ds, .slice ut nt dt, .int .i64 h, .int .i64 e, .string r, .string p, .int .i64 a, .slice u1 n1 d1, .slice u2 n2 d2, .slice u3 n3 d3, .slice ug ng dg] 52)) (w.heap.size + 1) [.slice ub nb db, .slice us ns ds, .slice ut nt dt, .int .i64 h, .int .i64 e, .string r, .string p, .int .i64 a, .slice u1 n1 d1, .slice u2 n2 d2, .slice u3 n3 d3, .slice ug ng dg]) := ⟨(below_alloc _ _).alloc (by simp) _, (Box.new _ w _).later (below_alloc _ _), alloc_fst _ _ (by simp)⟩
  go_enter Tryz.func11, Tryz.ntmps11
  go_wp2_with fail
  refine (H1.out _ HX.out.1).mono ?_
  rintro e1 w1 ⟨rfl, hb1⟩
  have HX1 : Hid (Below w.heap.size w w1 ∧ Box 52 w1 w.heap.size [.slice ab nb cb, .slice as2 ns cs, .slice at2 nt ct, .int .i64 h, .int .i64 e, .string r, .string p, .int .i64 a, .slice a1 n1 c1, .slice a2 n2 c2, .slice a3 n3 c3, .slice ag ng cg] ∧ Box 52 w1 (w.heap.size + 1) [.slice ub nb db, .slice us ns ds, .slice ut nt dt, .int .i64 h, .int .i64 e, .string r, .string p, .int .i64 a, .slice u1 n1 d1, .slice u2 n2 d2, .slice u3 n3 d3, .slice ug ng dg]) := ⟨HX.out.1.trans (hb1.mono HX.out.1.size), HX.out.2.1.later hb1, HX.out.2.2.later hb1⟩
  clear hb1 HX H1
  obtain ⟨z0, z1, z2, z3, z4, z5, z6, z7, z8, z9, z10, z11⟩ := HX1.out.2.1.all12w
  obtain ⟨y0, y1, y2, y3, y4, y5, y6, y7, y8, y9, y10, y11⟩ := HX1.out.2.2.all12w
  go_wp2_with fail
  refine (H2.out _ HX1.out.1).mono ?_
  rintro e2 w2 ⟨rfl, hb2⟩
  have HX2 : Hid (Below w.heap.size w w2 ∧ Box 52 w2 w.heap.size [.slice ab nb cb, .slice as2 ns cs, .slice at2 nt ct, .int .i64 h, .int .i64 e, .string r, .string p, .int .i64 a, .slice a1 n1 c1, .slice a2 n2 c2, .slice a3 n3 c3, .slice ag ng cg] ∧ Box 52 w2 (w.heap.size + 1) [.slice ub nb db, .slice us ns ds, .slice ut nt dt, .int .i64 h, .int .i64 e, .string r, .string p, .int .i64 a, .slice u1 n1 d1, .slice u2 n2 d2, .slice u3 n3 d3, .slice ug ng dg]) := ⟨HX1.out.1.trans (hb2.mono HX1.out.1.size), HX1.out.2.1.later hb2, HX1.out.2.2.later hb2⟩
  clear hb2 HX1 H2 z0 z1 z2 z3 z4 z5 z6 z7 z8 z9 z10 z11 y0 y1 y2 y3 y4 y5 y6 y7 y8 y9 y10 y11
  obtain ⟨z0, z1, z2, z3, z4, z5, z6, z7, z8, z9, z10, z11⟩ := HX2.out.2.1.all12w
  obtain ⟨y0, y1, y2, y3, y4, y5, y6, y7, y8, y9, y10, y11⟩ := HX2.out.2.2.all12w
  go_wp2_with fail
  refine (H3.out _ HX2.out.1).mono ?_
  rintro e3 w3 ⟨rfl, hb3⟩
  have HX3 : Hid (Below w.heap.size w w3 ∧ Box 52 w3 w.heap.size [.slice ab nb cb, .slice as2 ns cs, .slice at2 nt ct, .int .i64 h, .int .i64 e, .string r, .string p, .int .i64 a, .slice a1 n1 c1, .slice a2 n2 c2, .slice a3 n3 c3, .slice ag ng cg] ∧ Box 52 w3 (w.heap.size + 1) [.slice ub nb db, .slice us ns ds, .slice ut nt dt, .int .i64 h, .int .i64 e, .string r, .string p, .int .i64 a, .slice u1 n1 d1, .slice u2 n2 d2, .slice u3 n3 d3, .slice ug ng dg]) := ⟨HX2.out.1.trans (hb3.mono HX2.out.1.size), HX2.out.2.1.later hb3, HX2.out.2.2.later hb3⟩
  clear hb3 HX2 H3 z0 z1 z2 z3 z4 z5 z6 z7 z8 z9 z10 z11 y0 y1 y2 y3 y4 y5 y6 y7 y8 y9 y10 y11
  obtain ⟨z0, z1, z2, z3, z4, z5, z6, z7, z8, z9, z10, z11⟩ := HX3.out.2.1.all12w
  obtain ⟨y0, y1, y2, y3, y4, y5, y6, y7, y8, y9, y10, y11⟩ := HX3.out.2.2.all12w
  go_wp2_with fail
  refine (H4.out _ HX3.out.1).mono ?_
  rintro e4 w4 ⟨rfl, hb4⟩
  have HB4 : Hid (Below w.heap.size w w4) := HX3.out.1.trans (hb4.mono HX3.out.1.size)
  clear hb4 HX3 H4 z0 z1 z2 z3 z4 z5 z6 z7 z8 z9 z10 z11 y0 y1 y2 y3 y4 y5 y6 y7 y8 y9 y10 y11
  go_wp2
  go_ret
  exact ⟨rfl, HB4.out⟩

end Go.Proofs.YtgkfelhjbeegaaaGreatDoor
