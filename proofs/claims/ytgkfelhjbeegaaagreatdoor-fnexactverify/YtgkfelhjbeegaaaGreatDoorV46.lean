/-
  Texts laid together: Xp, Wyo.
-/
import Derived.Test.YtgkfelhjbeegaaaGreatDoorV19
import Derived.Test.YtgkfelhjbeegaaaGreatDoorV45
/-
  A seal that a law is handed: a head, a number, and three rows of texts that were there.
-/
namespace Go.Proofs.YtgkfelhjbeegaaaGreatDoor
open Go.ChangeShapes Go.WideShapes Go.ChangeAt Go.RowKit
set_option linter.unusedVariables false
set_option linter.unusedSimpArgs false

theorem cellsSealL : Tryz.prog.cellsOf 33 = 8 := by kernel_rfl
theorem cells3S : Tryz.prog.cellsOf 3 = 1 := by kernel_rfl
theorem cellsTS : Tryz.prog.cellsOf 22 = 1 := by kernel_rfl

set_option maxRecDepth 100000 in
theorem sig_of_trod {H : Type} {enc : TypeId × Value → H} {W : World} {fuel : Nat} {cs : List Value} {y : DataW H × List MemPlace} (h : DataW.trod enc Tryz.prog W 0 (fun _ => true) true fuel 31 cs = some y) :
    ∃ (i : Int) (a1 : Option Addr) (n1 k1 : Nat) (z1 : List ByteArray) (a2 : Option Addr) (n2 k2 : Nat) (z2 : List ByteArray) (a3 : Option Addr) (n3 k3 : Nat) (z3 : List ByteArray),
      cs = [.int .i64 i, .slice a1 n1 k1, .slice a2 n2 k2, .slice a3 n3 k3] ∧ IsRowS W a1 n1 k1 z1 ∧ IsRowS W a2 n2 k2 z2 ∧ IsRowS W a3 n3 k3 z3 := by
  obtain ⟨y0, y1, y2, y3, n, _, hl, h0, h1, h2, h3⟩ := Joins.trod_struct4 Tryz.underlying31 h
  rw [cellsSig] at hl
  match cs, hl with
  | [c0, c1, c2, c3], _ =>
    simp [cells3S, cellsTS] at h0 h1 h2 h3
    obtain ⟨i0, e0, _, _⟩ := DataW.trod_int Tryz.underlying3 h0
    obtain ⟨a1, n1, k1, z1, rfl, r1⟩ := row_of_trod h1
    obtain ⟨a2, n2, k2, z2, rfl, r2⟩ := row_of_trod h2
    obtain ⟨a3, n3, k3, z3, rfl, r3⟩ := row_of_trod h3
    simp at e0
    subst e0
    exact ⟨i0, a1, n1, k1, z1, a2, n2, k2, z2, a3, n3, k3, z3, rfl, r1, r2, r3⟩

set_option maxRecDepth 100000 in
theorem open_seal {H : Type} {enc : TypeId × Value → H} {W : World} {base : Nat} {v : Value} {d : DataW H} {p : List MemPlace} (hv : Value.okWide Tryz.prog W .any base 33 v) (h : DataW.Trod enc Tryz.prog W 0 (fun _ => true) true 33 v d p) :
    ∃ (x : Hd) (i : Int) (a1 : Option Addr) (n1 k1 : Nat) (z1 : List ByteArray) (a2 : Option Addr) (n2 k2 : Nat) (z2 : List ByteArray) (a3 : Option Addr) (n3 k3 : Nat) (z3 : List ByteArray),
      v = .agg #[.int .i64 x.h, .int .i64 x.e, .string x.r, .string x.p, .int .i64 i, .slice a1 n1 k1, .slice a2 n2 k2, .slice a3 n3 k3] ∧ HV.FitH x ∧ IsRowS W a1 n1 k1 z1 ∧ IsRowS W a2 n2 k2 z2 ∧ IsRowS W a3 n3 k3 z3 := by
  obtain ⟨cs, rfl, hsz⟩ := okWide_struct Tryz.underlying33 hv
  obtain ⟨fuel, hf⟩ := h
  obtain ⟨y0, y1, n, _, hl, h0, h1⟩ := trod_struct2 Tryz.underlying33 hf
  rw [cellsSealL] at hl
  have hc0 : Tryz.prog.cellsOf 29 = 4 := HV.cellsLHead
  have hc1 : Tryz.prog.cellsOf 31 = 4 := cellsSig
  simp only [hc0, hc1] at h0 h1
  obtain ⟨x, ex, b1, b2⟩ := HV.head_of_trod h0
  obtain ⟨i, a1, n1, k1, z1, a2, n2, k2, z2, a3, n3, k3, z3, es, r1, r2, r3⟩ := sig_of_trod h1
  obtain ⟨l⟩ := cs
  have hl' : l.length = 8 := by simpa [Value.cells] using hl
  unfold maxLen at b1 b2
  refine ⟨x, i, a1, n1, k1, z1, a2, n2, k2, z2, a3, n3, k3, z3, ?_, ⟨b1, b2⟩, r1, r2, r3⟩
  have e0 : l.take 4 = hcs x := by simpa [Value.cells] using ex
  have e1 : (l.drop 4).take 4 = [.int .i64 i, .slice a1 n1 k1, .slice a2 n2 k2, .slice a3 n3 k3] := by simpa [Value.cells] using es
  have e2 : l = l.take 4 ++ (l.drop 4).take 4 := by
    rw [List.take_of_length_le (l := l.drop 4) (by simp; omega), List.take_append_drop]
  rw [e2, e0, e1]
  rfl

end Go.Proofs.YtgkfelhjbeegaaaGreatDoor
/-
  A whole proof that a law is handed: a proof, a row of texts, a seal and a row of stamps that were there.
-/
namespace Go.Proofs.YtgkfelhjbeegaaaGreatDoor
open Go.ChangeShapes Go.WideShapes Go.ChangeAt Go.RowKit
set_option linter.unusedVariables false
set_option linter.unusedSimpArgs false

theorem cellsWhL : Tryz.prog.cellsOf 36 = 12 := by kernel_rfl
theorem cellsStL : Tryz.prog.cellsOf 92 = 5 := by kernel_rfl
theorem cellsTSW : Tryz.prog.cellsOf 22 = 1 := by kernel_rfl
theorem cells3W : Tryz.prog.cellsOf 3 = 1 := by kernel_rfl
theorem cellsSGL : Tryz.prog.cellsOf 34 = 1 := by kernel_rfl
theorem cellsLLW : Tryz.prog.cellsOf 25 = 1 := by kernel_rfl

set_option maxRecDepth 100000 in
theorem sigT_of_trod {H : Type} {enc : TypeId × Value → H} {W : World} {fuel : Nat} {cs : List Value} {y : DataW H × List MemPlace} (h : DataW.trod enc Tryz.prog W 0 (fun _ => true) true fuel 31 cs = some y) :
    ∃ (i : Int) (v1 v2 v3 : Value) (l1 l2 l3 : List ByteArray), cs = [.int .i64 i, v1, v2, v3] ∧ (∃ g o, IsRowT W v1 g o l1) ∧ (∃ g o, IsRowT W v2 g o l2) ∧ ∃ g o, IsRowT W v3 g o l3 := by
  obtain ⟨y0, y1, y2, y3, n, _, hl, h0, h1, h2, h3⟩ := Joins.trod_struct4 Tryz.underlying31 h
  rw [cellsSig] at hl
  match cs, hl with
  | [c0, c1, c2, c3], _ =>
    simp [cells3W, cellsTSW] at h0 h1 h2 h3
    obtain ⟨i0, e0, _, _⟩ := DataW.trod_int Tryz.underlying3 h0
    obtain ⟨g1, o1, l1, r1⟩ := rowT_of_trod h1
    obtain ⟨g2, o2, l2, r2⟩ := rowT_of_trod h2
    obtain ⟨g3, o3, l3, r3⟩ := rowT_of_trod h3
    simp at e0
    subst e0
    exact ⟨i0, c1, c2, c3, l1, l2, l3, rfl, ⟨g1, o1, r1⟩, ⟨g2, o2, r2⟩, ⟨g3, o3, r3⟩⟩

set_option maxRecDepth 100000 in
theorem stamp_of_trod {H : Type} {enc : TypeId × Value → H} {W : World} {fuel : Nat} {cs : List Value} {y : DataW H × List MemPlace} (h : DataW.trod enc Tryz.prog W 0 (fun _ => true) true fuel 92 cs = some y) :
    ∃ (x : StV) (z : Stm), cs = stcs x ∧ IsSt W x z := by
  obtain ⟨y0, y1, n, _, hl, h0, h1⟩ := trod_struct2 Tryz.underlying92 h
  rw [cellsStL] at hl
  have hc1 : Tryz.prog.cellsOf 31 = 4 := cellsSig
  match cs, hl with
  | [c0, c1, c2, c3, c4], _ =>
    simp [cells3W, hc1] at h0 h1
    obtain ⟨i0, e0, _, _⟩ := DataW.trod_int Tryz.underlying3 h0
    obtain ⟨i, v1, v2, v3, l1, l2, l3, es, r1, r2, r3⟩ := sigT_of_trod h1
    simp at e0 es
    obtain ⟨rfl, rfl, rfl, rfl⟩ := es
    subst e0
    exact ⟨⟨i0, i, c2, c3, c4⟩, ⟨i0, i, l1, l2, l3⟩, rfl, rfl, rfl, r1, r2, r3⟩

theorem pairs_of {α β : Type} {P : Nat → α → β → Prop} : ∀ (n : Nat), (∀ i, i < n → ∃ x y, P i x y) → ∃ (l : List α) (m : List β), l.length = n ∧ m.length = n ∧ ∀ j (h : j < l.length) (h' : j < m.length), P j l[j] m[j]
  | 0, _ => ⟨[], [], rfl, rfl, fun j h => by simp at h⟩
  | n + 1, h => by
    obtain ⟨l, m, h1, h2, h3⟩ := pairs_of n (fun i hi => h i (by omega))
    obtain ⟨x, y, hxy⟩ := h n (by omega)
    refine ⟨l ++ [x], m ++ [y], by simp [h1], by simp [h2], fun j hj hj' => ?_⟩
    rcases Nat.lt_or_ge j n with hjn | hjn
    · rw [List.getElem_append_left (by omega), List.getElem_append_left (by omega)]
      exact h3 j (by omega) (by omega)
    · have : j = n := by simp [h1] at hj; omega
      subst this
      rw [List.getElem_append_right (by omega), List.getElem_append_right (by omega)]
      simp [h1, h2]
      exact hxy

set_option maxRecDepth 100000 in
theorem rowG_of_trod {H : Type} {enc : TypeId × Value → H} {W : World} {fuel : Nat} {v : Value} {y : DataW H × List MemPlace} (hf : DataW.trod enc Tryz.prog W 0 (fun _ => true) true fuel 34 [v] = some y) :
    ∃ g o V L, IsRowG W v g o V L := by
  rcases Deep.open_slice Tryz.underlying34 hf with ⟨hcs, _⟩ | ⟨a, len, cap, m, n, D, Pl, hcs, _, hlc, hcm, hm, _, hx⟩
  · simp at hcs
    subst hcs
    exact ⟨0, 0, [], [], none, 0, 0, rfl, by omega, fun _ => ⟨rfl, rfl, RS.nil W 0 0, fun j h => by simp at h⟩⟩
  · simp at hcs
    subst hcs
    have hx' : ∀ i, i < len → ∃ (f : StV) (z : Stm), (∀ j u, (stcs f)[j]? = some u → W.cell? (a.add (i * 5 + j)) = some u) ∧ IsSt W f z := fun i hi => by
      obtain ⟨cs', h1, h2⟩ := hx i (by rw [hm]; split <;> omega)
      obtain ⟨f, z, rfl, hz⟩ := stamp_of_trod h2
      rw [cellsStL] at h1
      obtain ⟨_, _, hc⟩ := World.cells?_some h1
      refine ⟨f, z, fun j u hu => ?_, hz⟩
      have hj : j < 5 := by have := (List.getElem?_eq_some_iff.1 hu).1; simpa [stcs] using this
      have := hc j hj
      rw [LV.addr_add] at this
      rw [this, hu]
    obtain ⟨l, z, hl, hz, hp⟩ := pairs_of len hx'
    refine ⟨a.block, a.off, l, z, some a, len, cap, rfl, by unfold maxLen at hcm; omega, fun hsm => ⟨hl, hz, LV.row_at (fun x => ⟨_, _, rfl⟩) hl cap (fun i h => (hp i h (by omega)).1) hsm, fun j h h' => (hp j h h').2⟩⟩

set_option maxRecDepth 100000 in
theorem open_whole {H : Type} {enc : TypeId × Value → H} {W : World} {base : Nat} {v : Value} {d : DataW H} {p : List MemPlace} (hv : Value.okWide Tryz.prog W .any base 36 v) (h : DataW.Trod enc Tryz.prog W 0 (fun _ => true) true 36 v d p) :
    ∃ (Z : WhA), v = .agg #[Z.vb, Z.vs, Z.vt, .int .i64 Z.x.h, .int .i64 Z.x.e, .string Z.x.r, .string Z.x.p, .int .i64 Z.a, Z.v1, Z.v2, Z.v3, Z.vg] ∧ Z.is W := by
  obtain ⟨cs, rfl, hsz⟩ := okWide_struct Tryz.underlying36 hv
  obtain ⟨fuel, hf⟩ := h
  obtain ⟨y0, y1, y2, y3, n, _, hl, h0, h1, h2, h3⟩ := Joins.trod_struct4 Tryz.underlying36 hf
  rw [cellsWhL] at hl
  have hcP : Tryz.prog.cellsOf 27 = 2 := cellsPf
  have hcS : Tryz.prog.cellsOf 33 = 8 := cellsSealL
  obtain ⟨l⟩ := cs
  have hl' : l.length = 12 := by simpa [Value.cells] using hl
  match l, hl' with
  | [c0, c1, c2, c3, c4, c5, c6, c7, c8, c9, c10, c11], _ =>
    simp [Value.cells, hcP, hcS, cellsTSW, cellsSGL] at h0 h1 h2 h3
    obtain ⟨p0, p1, m0, _, hl0, k0, k1⟩ := trod_struct2 Tryz.underlying27 h0
    simp [cellsTSW, cellsLLW] at k0 k1
    obtain ⟨g1, o1, L, r1⟩ := LV.rowL_of_trod k0
    obtain ⟨g2, o2, S, r2⟩ := rowT_of_trod k1
    obtain ⟨g3, o3, T, r3⟩ := rowT_of_trod h1
    obtain ⟨s0, s1, m1, _, hl1, q0, q1⟩ := trod_struct2 Tryz.underlying33 h2
    have hc0 : Tryz.prog.cellsOf 29 = 4 := HV.cellsLHead
    have hc1 : Tryz.prog.cellsOf 31 = 4 := cellsSig
    simp [hc0, hc1] at q0 q1
    obtain ⟨x, ex, b1, b2⟩ := HV.head_of_trod q0
    obtain ⟨i, v1, v2, v3, l1, l2, l3, es, r5, r6, r7⟩ := sigT_of_trod q1
    obtain ⟨g8, o8, V, G, r8⟩ := rowG_of_trod h3
    simp [hcs] at ex
    simp at es
    obtain ⟨rfl, rfl, rfl, rfl⟩ := ex
    obtain ⟨rfl, rfl, rfl, rfl⟩ := es
    unfold maxLen at b1 b2
    exact ⟨⟨c0, c1, c2, x, i, c8, c9, c10, c11, L, S, T, l1, l2, l3, V, G⟩, rfl, ⟨g1, o1, r1⟩, ⟨g2, o2, r2⟩, ⟨g3, o3, r3⟩, ⟨b1, b2⟩, r5, r6, r7, ⟨g8, o8, r8⟩⟩

end Go.Proofs.YtgkfelhjbeegaaaGreatDoor
