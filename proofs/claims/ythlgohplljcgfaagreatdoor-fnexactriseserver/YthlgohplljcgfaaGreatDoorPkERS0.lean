/-
  Texts laid together: Op, Yop, Cp, Jf, Jfo.
-/
import Derived.Test.YthlgohplljcgfaaGreatDoorPkESN6
import Derived.Lib.SmallJoins
import Derived.Deep.Strs
import Derived.Deep.Slices
import Derived.ProofKit
import Derived.ChangeSame
import Derived.Test.YthlgohplljcgfaaGreatDoorPkESN10
import Derived.Test.YthlgohplljcgfaaGreatDoorPkESN11
import Derived.Test.YthlgohplljcgfaaGreatDoorPkESN12
import Derived.Test.YthlgohplljcgfaaGreatDoorPkESN44
/-
  A row of leaves that a law is handed.
-/
namespace Go.Proofs.YthlgohplljcgfaaGreatDoor
open Go.ChangeShapes Go.WideShapes Go.ChangeAt Go.RowKit
set_option linter.unusedVariables false
set_option linter.unusedSimpArgs false
namespace LV

theorem addr_flat {w : World} {x : Addr} {u : Value} (h : w.cell? x = some u) (j : Nat) : x.add j = ⟨x.block, x.off + j, none⟩ := by
  have hs := World.cell?_spot h
  cases x
  simp at hs
  subst hs
  unfold Addr.add
  split <;> simp_all
theorem addr_zero (x : Addr) : x.add 0 = x := by unfold Addr.add; simp
theorem addr_add (x : Addr) (i j : Nat) : (x.add i).add j = x.add (i + j) := by
  unfold Addr.add
  split <;> split <;> simp_all <;> omega

/-- n records, each read -/
theorem list_of {α : Type} {p : Nat → α → Prop} : ∀ n : Nat, (∀ i, i < n → ∃ f, p i f) → ∃ l : List α, l.length = n ∧ ∀ i (h : i < l.length), p i l[i]
  | 0, _ => ⟨[], rfl, fun i h => absurd h (by simp)⟩
  | n + 1, h => by
    obtain ⟨l, hl, hp⟩ := list_of n (fun i hi => h i (by omega))
    obtain ⟨f, hf⟩ := h n (by omega)
    refine ⟨l ++ [f], by simp [hl], fun i hi => ?_⟩
    rcases Nat.lt_or_ge i l.length with h1 | h1
    · rw [List.getElem_append_left h1]; exact hp i h1
    · have : i = n := by simp at hi; omega
      subst this
      rw [List.getElem_append_right h1]
      simpa using hf

theorem row_at {α : Type} {k : Nat} {enc : α → List Value} {W : World} {a : Addr} {len : Nat} {l : List α} (hk0 : ∀ x, ∃ u r, enc x = u :: r) (hl : l.length = len) (cap : Nat)
    (hp : ∀ i (h : i < l.length), ∀ j u, (enc l[i])[j]? = some u → W.cell? (a.add (i * k + j)) = some u) (hsm : len ≤ 1100000) : RS k enc W (.slice (some a) len cap) a.block a.off l := by
  have hc0 : ∀ h0 : 0 < l.length, ∃ u, W.cell? a = some u := fun h0 => by
    obtain ⟨u, r, e⟩ := hk0 l[0]
    have c0 := hp 0 h0 0 u (by rw [e]; rfl)
    simp only [Nat.zero_mul, Nat.zero_add] at c0
    rw [addr_zero] at c0
    exact ⟨u, c0⟩
  refine ⟨some a, cap, by rw [hl], by omega, fun h0 => ?_, fun j hj i u hu => ?_⟩
  · obtain ⟨u, c0⟩ := hc0 h0
    have e := addr_flat c0 0
    rw [addr_zero] at e
    refine ⟨congrArg some e, ?_⟩
    rw [e] at c0
    exact lt_of_cell c0
  · obtain ⟨u0, c0⟩ := hc0 (by omega)
    have c := hp j hj i u hu
    rw [addr_flat c0] at c
    rw [Nat.add_assoc]
    exact c


theorem cellsLLeaf : Tryz.prog.cellsOf 161 = 2 := by kernel_rfl
theorem cells9L : Tryz.prog.cellsOf 9 = 1 := by kernel_rfl

set_option maxRecDepth 100000 in
theorem leaf_of_trod {H : Type} {enc : TypeId × Value → H} {W : World} {fuel : Nat} {cs : List Value} {y : DataW H × List MemPlace} (h : DataW.trod enc Tryz.prog W 0 (fun _ => true) true fuel 161 cs = some y) :
    ∃ f : Le, cs = lcs f ∧ f.n.size ≤ maxLen ∧ f.v.size ≤ maxLen := by
  obtain ⟨y0, y1, n, _, hl, h0, h1⟩ := trod_struct2 Tryz.underlying161 h
  rw [cellsLLeaf] at hl
  match cs, hl with
  | [c0, c1], _ =>
    simp [cells9L] at h0 h1
    obtain ⟨s0, e0, _, b0⟩ := DataW.trod_string Tryz.underlying9 h0
    obtain ⟨s1, e1, _, b1⟩ := DataW.trod_string Tryz.underlying9 h1
    simp at e0 e1
    exact ⟨⟨s0, s1⟩, by rw [e0, e1]; rfl, b0, b1⟩

set_option maxRecDepth 100000 in
theorem open_leaves {H : Type} {enc : TypeId × Value → H} {W : World} {base : Nat} {v : Value} {d : DataW H} {p : List MemPlace} (hv : Value.okWide Tryz.prog W .any base 125 v) (h : DataW.Trod enc Tryz.prog W 0 (fun _ => true) true 125 v d p) :
    ∃ g o l, IsRowL W v g o l := by
  obtain ⟨a, len, cap, rfl⟩ := okWide_slice Tryz.underlying125 hv
  obtain ⟨fuel, hf⟩ := h
  rcases Deep.open_slice Tryz.underlying125 hf with ⟨hcs, _⟩ | ⟨a, len, cap, m, n, D, Pl, hcs, _, hlc, hcm, hm, _, hx⟩
  · simp [Value.cells] at hcs
    obtain ⟨rfl, rfl, rfl⟩ := hcs
    exact ⟨0, 0, [], none, 0, 0, rfl, by omega, fun _ => ⟨rfl, RS.nil W 0 0, fun f hf => absurd hf (by simp)⟩⟩
  · simp [Value.cells] at hcs
    obtain ⟨rfl, rfl, rfl⟩ := hcs
    have hx' : ∀ i, i < len → ∃ f : Le, (∀ j u, (lcs f)[j]? = some u → W.cell? (a.add (i * 2 + j)) = some u) ∧ f.n.size ≤ maxLen ∧ f.v.size ≤ maxLen := fun i hi => by
      obtain ⟨cs', h1, h2⟩ := hx i (by rw [hm]; split <;> omega)
      obtain ⟨f, rfl, b0, b1⟩ := leaf_of_trod h2
      rw [cellsLLeaf] at h1
      obtain ⟨_, _, hc⟩ := World.cells?_some h1
      refine ⟨f, fun j u hu => ?_, b0, b1⟩
      have hj : j < 2 := by have := (List.getElem?_eq_some_iff.1 hu).1; simpa [lcs] using this
      have := hc j hj
      rw [addr_add] at this
      rw [this, hu]
    obtain ⟨l, hl, hp⟩ := list_of len hx'
    refine ⟨a.block, a.off, l, some a, len, cap, rfl, by unfold maxLen at hcm; omega, fun hsm => ⟨hl, row_at (fun x => ⟨_, _, rfl⟩) hl cap (fun i h => (hp i h).1) hsm, fun f hf => ?_⟩⟩
    obtain ⟨j, hj, rfl⟩ := List.getElem_of_mem hf
    have := (hp j hj).2
    unfold maxLen at this
    exact this

end LV
end Go.Proofs.YthlgohplljcgfaaGreatDoor
/-
  A row of rows of leaves that a law is handed.
-/
namespace Go.Proofs.YthlgohplljcgfaaGreatDoor
open Go.ChangeShapes Go.WideShapes Go.ChangeAt Go.RowKit
set_option linter.unusedVariables false
set_option linter.unusedSimpArgs false
namespace LV

set_option maxRecDepth 100000 in
theorem open_leaves_in {H : Type} {enc : TypeId × Value → H} {W : World} {fuel : Nat} {v : Value} {x : DataW H × List MemPlace} (hf : DataW.trod enc Tryz.prog W 0 (fun _ => true) true fuel 125 [v] = some x) :
    ∃ g o l, IsRowL W v g o l := by
  rcases Deep.open_slice Tryz.underlying125 hf with ⟨hcs, _⟩ | ⟨a, len, cap, m, n, D, Pl, hcs, _, hlc, hcm, hm, _, hx⟩
  · simp at hcs
    subst hcs
    exact ⟨0, 0, [], none, 0, 0, rfl, by omega, fun _ => ⟨rfl, RS.nil W 0 0, fun f hf => absurd hf (by simp)⟩⟩
  · simp at hcs
    subst hcs
    have hx' : ∀ i, i < len → ∃ f : Le, (∀ j u, (lcs f)[j]? = some u → W.cell? (a.add (i * 2 + j)) = some u) ∧ f.n.size ≤ maxLen ∧ f.v.size ≤ maxLen := fun i hi => by
      obtain ⟨cs', h1, h2⟩ := hx i (by rw [hm]; split <;> omega)
      obtain ⟨f, rfl, b0, b1⟩ := leaf_of_trod h2
      rw [cellsLLeaf] at h1
      obtain ⟨_, _, hc⟩ := World.cells?_some h1
      refine ⟨f, fun j u hu => ?_, b0, b1⟩
      have hj : j < 2 := by have := (List.getElem?_eq_some_iff.1 hu).1; simpa [lcs] using this
      have := hc j hj
      rw [addr_add] at this
      rw [this, hu]
    obtain ⟨l, hl, hp⟩ := list_of len hx'
    refine ⟨a.block, a.off, l, some a, len, cap, rfl, by unfold maxLen at hcm; omega, fun hsm => ⟨hl, row_at (fun x => ⟨_, _, rfl⟩) hl cap (fun i h => (hp i h).1) hsm, fun f hf => ?_⟩⟩
    obtain ⟨j, hj, rfl⟩ := List.getElem_of_mem hf
    have := (hp j hj).2
    unfold maxLen at this
    exact this

theorem cellsLLeafS : Tryz.prog.cellsOf 125 = 1 := by kernel_rfl
set_option maxRecDepth 100000 in
theorem open_parts {H : Type} {enc : TypeId × Value → H} {W : World} {base : Nat} {v : Value} {d : DataW H} {p : List MemPlace} (hv : Value.okWide Tryz.prog W .any base 43 v) (h : DataW.Trod enc Tryz.prog W 0 (fun _ => true) true 43 v d p) :
    ∃ g o Q, IsRowP W v g o Q := by
  obtain ⟨a, len, cap, rfl⟩ := okWide_slice Tryz.underlying43 hv
  obtain ⟨fuel, hf⟩ := h
  rcases Deep.open_slice1 Tryz.underlying43 cellsLLeafS hf with ⟨hcs, _⟩ | ⟨a, len, cap, m, n, V, D, Pl, hcs, _, hlc, hcm, hm, _, hx⟩
  · simp [Value.cells] at hcs
    obtain ⟨rfl, rfl, rfl⟩ := hcs
    exact ⟨0, 0, [], none, 0, 0, rfl, by omega, fun _ => ⟨rfl, fun h => absurd h (by omega), fun j hj => absurd hj (by simp)⟩⟩
  · simp [Value.cells] at hcs
    obtain ⟨rfl, rfl, rfl⟩ := hcs
    have hx' : ∀ i, i < len → ∃ q : Value × Nat × Nat × List Le, W.cell? (a.add i) = some q.1 ∧ IsRowL W q.1 q.2.1 q.2.2.1 q.2.2.2 := fun i hi => by
      obtain ⟨h1, h2⟩ := hx i (by rw [hm]; split <;> omega)
      obtain ⟨g, o, l, h3⟩ := open_leaves_in h2
      exact ⟨(V i, g, o, l), h1, h3⟩
    obtain ⟨Q, hQ, hp⟩ := list_of len hx'
    refine ⟨a.block, a.off, Q, some a, len, cap, rfl, by unfold maxLen at hcm; omega, fun hsm => ⟨hQ, fun h0 => ?_, fun j hj => ⟨?_, (hp j hj).2⟩⟩⟩
    · have c0 := (hp 0 (by omega)).1
      rw [addr_zero] at c0
      have e := addr_flat c0 0
      rw [addr_zero] at e
      refine ⟨congrArg some e, ?_⟩
      rw [e] at c0
      exact lt_of_cell c0
    · have c0 := (hp 0 (by omega)).1
      rw [addr_zero] at c0
      have cj := (hp j hj).1
      rw [addr_flat c0] at cj
      exact cj
end LV

end Go.Proofs.YthlgohplljcgfaaGreatDoor
/-
  A change, and a row of changes, that a law is handed.
-/
namespace Go.Proofs.YthlgohplljcgfaaGreatDoor
open Go.ChangeShapes Go.WideShapes Go.ChangeAt Go.RowKit
set_option linter.unusedVariables false
set_option linter.unusedSimpArgs false
namespace UV

theorem addr_flat {w : World} {x : Addr} {u : Value} (h : w.cell? x = some u) (j : Nat) : x.add j = ⟨x.block, x.off + j, none⟩ := by
  have hs := World.cell?_spot h
  cases x
  simp at hs
  subst hs
  unfold Addr.add
  split <;> simp_all
theorem addr_zero (x : Addr) : x.add 0 = x := by unfold Addr.add; simp
theorem addr_add (x : Addr) (i j : Nat) : (x.add i).add j = x.add (i + j) := by
  unfold Addr.add
  split <;> split <;> simp_all <;> omega

/-- n records, each read -/
theorem list_of {α : Type} {p : Nat → α → Prop} : ∀ n : Nat, (∀ i, i < n → ∃ f, p i f) → ∃ l : List α, l.length = n ∧ ∀ i (h : i < l.length), p i l[i]
  | 0, _ => ⟨[], rfl, fun i h => absurd h (by simp)⟩
  | n + 1, h => by
    obtain ⟨l, hl, hp⟩ := list_of n (fun i hi => h i (by omega))
    obtain ⟨f, hf⟩ := h n (by omega)
    refine ⟨l ++ [f], by simp [hl], fun i hi => ?_⟩
    rcases Nat.lt_or_ge i l.length with h1 | h1
    · rw [List.getElem_append_left h1]; exact hp i h1
    · have : i = n := by simp at hi; omega
      subst this
      rw [List.getElem_append_right h1]
      simpa using hf

theorem row_at {α : Type} {k : Nat} {enc : α → List Value} {W : World} {a : Addr} {len : Nat} {l : List α} (hk0 : ∀ x, ∃ u r, enc x = u :: r) (hl : l.length = len) (cap : Nat)
    (hp : ∀ i (h : i < l.length), ∀ j u, (enc l[i])[j]? = some u → W.cell? (a.add (i * k + j)) = some u) (hsm : len ≤ 1100000) : RS k enc W (.slice (some a) len cap) a.block a.off l := by
  have hc0 : ∀ h0 : 0 < l.length, ∃ u, W.cell? a = some u := fun h0 => by
    obtain ⟨u, r, e⟩ := hk0 l[0]
    have c0 := hp 0 h0 0 u (by rw [e]; rfl)
    simp only [Nat.zero_mul, Nat.zero_add] at c0
    rw [addr_zero] at c0
    exact ⟨u, c0⟩
  refine ⟨some a, cap, by rw [hl], by omega, fun h0 => ?_, fun j hj i u hu => ?_⟩
  · obtain ⟨u, c0⟩ := hc0 h0
    have e := addr_flat c0 0
    rw [addr_zero] at e
    refine ⟨congrArg some e, ?_⟩
    rw [e] at c0
    exact lt_of_cell c0
  · obtain ⟨u0, c0⟩ := hc0 (by omega)
    have c := hp j hj i u hu
    rw [addr_flat c0] at c
    rw [Nat.add_assoc]
    exact c

theorem cellsLChange : Tryz.prog.cellsOf 127 = 3 := by kernel_rfl
theorem cells9u : Tryz.prog.cellsOf 9 = 1 := by kernel_rfl
theorem cells3u : Tryz.prog.cellsOf 3 = 1 := by kernel_rfl

set_option maxRecDepth 100000 in
theorem chg_of_trod {H : Type} {enc : TypeId × Value → H} {W : World} {fuel : Nat} {cs : List Value} {y : DataW H × List MemPlace} (h : DataW.trod enc Tryz.prog W 0 (fun _ => true) true fuel 127 cs = some y) :
    ∃ a : Ug, cs = ucs a ∧ a.n.size ≤ maxLen ∧ a.v.size ≤ maxLen := by
  obtain ⟨y0, y1, y2, n, _, hl, h0, h1, h2⟩ := Deep.trod_struct3 Tryz.underlying127 h
  rw [cellsLChange] at hl
  match cs, hl with
  | [c0, c1, c2], _ =>
    simp [cells9u, cells3u] at h0 h1 h2
    obtain ⟨i0, e0, _, _⟩ := DataW.trod_int Tryz.underlying3 h0
    obtain ⟨s1, e1, _, b1⟩ := DataW.trod_string Tryz.underlying9 h1
    obtain ⟨s2, e2, _, b2⟩ := DataW.trod_string Tryz.underlying9 h2
    simp at e0 e1 e2
    exact ⟨⟨i0, s1, s2⟩, by rw [e0, e1, e2]; rfl, b1, b2⟩

/-- no text of it passes what a text may have -/
def FitU (a : Ug) : Prop := a.n.size ≤ 9223372036854775807 ∧ a.v.size ≤ 9223372036854775807

set_option maxRecDepth 100000 in
theorem open_change {H : Type} {enc : TypeId × Value → H} {W : World} {base : Nat} {v : Value} {d : DataW H} {p : List MemPlace} (hv : Value.okWide Tryz.prog W .any base 127 v) (h : DataW.Trod enc Tryz.prog W 0 (fun _ => true) true 127 v d p) :
    ∃ a : Ug, v = .agg #[.int .i64 a.i, .string a.n, .string a.v] ∧ FitU a := by
  obtain ⟨cs, rfl, hsz⟩ := okWide_struct Tryz.underlying127 hv
  obtain ⟨fuel, hf⟩ := h
  obtain ⟨a, e, b1, b2⟩ := chg_of_trod hf
  obtain ⟨l⟩ := cs
  have e' : l = ucs a := by simpa [Value.cells] using e
  subst e'
  unfold maxLen at b1 b2
  exact ⟨a, rfl, b1, b2⟩

set_option maxRecDepth 100000 in
theorem open_changes {H : Type} {enc : TypeId × Value → H} {W : World} {base : Nat} {v : Value} {d : DataW H} {p : List MemPlace} (hv : Value.okWide Tryz.prog W .any base 44 v) (h : DataW.Trod enc Tryz.prog W 0 (fun _ => true) true 44 v d p) :
    ∃ g o l, IsRowU W v g o l := by
  obtain ⟨a, len, cap, rfl⟩ := okWide_slice Tryz.underlying44 hv
  obtain ⟨fuel, hf⟩ := h
  rcases Deep.open_slice Tryz.underlying44 hf with ⟨ucs, _⟩ | ⟨a, len, cap, m, n, D, Pl, ucs, _, hlc, hcm, hm, _, hx⟩
  · simp [Value.cells] at ucs
    obtain ⟨rfl, rfl, rfl⟩ := ucs
    exact ⟨0, 0, [], none, 0, 0, rfl, by omega, fun _ => ⟨rfl, RS.nil W 0 0, fun f hf => absurd hf (by simp)⟩⟩
  · simp [Value.cells] at ucs
    obtain ⟨rfl, rfl, rfl⟩ := ucs
    have hx' : ∀ i, i < len → ∃ z : Ug, (∀ j u, (ucs z)[j]? = some u → W.cell? (a.add (i * 3 + j)) = some u) ∧ z.n.size ≤ maxLen ∧ z.v.size ≤ maxLen := fun i hi => by
      obtain ⟨cs', h1, h2⟩ := hx i (by rw [hm]; split <;> omega)
      obtain ⟨z, rfl, b1, b2⟩ := chg_of_trod h2
      rw [cellsLChange] at h1
      obtain ⟨_, _, hc⟩ := World.cells?_some h1
      refine ⟨z, fun j u hu => ?_, b1, b2⟩
      have hj : j < 3 := by have := (List.getElem?_eq_some_iff.1 hu).1; simpa [ucs] using this
      have := hc j hj
      rw [addr_add] at this
      rw [this]
      exact hu
    obtain ⟨l, hl, hp⟩ := list_of len hx'
    refine ⟨a.block, a.off, l, some a, len, cap, rfl, by unfold maxLen at hcm; omega, fun hsm => ⟨hl, row_at (k := 3) (enc := ucs) (fun x => ⟨_, _, rfl⟩) hl cap (fun i h => (hp i h).1) hsm, fun f hf => ?_⟩⟩
    obtain ⟨j, hj, rfl⟩ := List.getElem_of_mem hf
    have := (hp j hj).2
    unfold maxLen at this
    exact this
end UV

end Go.Proofs.YthlgohplljcgfaaGreatDoor
/-
  A server that a law is handed.
-/
namespace Go.Proofs.YthlgohplljcgfaaGreatDoor
open Go.ChangeShapes Go.WideShapes Go.ChangeAt Go.RowKit
set_option linter.unusedVariables false
set_option linter.unusedSimpArgs false
namespace SR

set_option maxRecDepth 100000 in
theorem rowP_of_trod {H : Type} {enc : TypeId × Value → H} {W : World} {fuel : Nat} {v : Value} {y : DataW H × List MemPlace} (hf : DataW.trod enc Tryz.prog W 0 (fun _ => true) true fuel 43 [v] = some y) :
    ∃ g o Q, IsRowP W v g o Q := by
  rcases Deep.open_slice1 Tryz.underlying43 LV.cellsLLeafS hf with ⟨hcs, _⟩ | ⟨a, len, cap, m, n, V, D, Pl, hcs, _, hlc, hcm, hm, _, hx⟩
  · simp at hcs
    subst hcs
    exact ⟨0, 0, [], none, 0, 0, rfl, by omega, fun _ => ⟨rfl, fun h => absurd h (by omega), fun j hj => absurd hj (by simp)⟩⟩
  · simp at hcs
    subst hcs
    have hx' : ∀ i, i < len → ∃ q : Value × Nat × Nat × List Le, W.cell? (a.add i) = some q.1 ∧ IsRowL W q.1 q.2.1 q.2.2.1 q.2.2.2 := fun i hi => by
      obtain ⟨h1, h2⟩ := hx i (by rw [hm]; split <;> omega)
      obtain ⟨g, o, l, h3⟩ := LV.open_leaves_in h2
      exact ⟨(V i, g, o, l), h1, h3⟩
    obtain ⟨Q, hQ, hp⟩ := list_of len hx'
    refine ⟨a.block, a.off, Q, some a, len, cap, rfl, by unfold maxLen at hcm; omega, fun hsm => ⟨hQ, fun h0 => ?_, fun j hj => ⟨?_, (hp j hj).2⟩⟩⟩
    · have c0 := (hp 0 (by omega)).1
      rw [addr_zero] at c0
      have e := addr_flat c0 0
      rw [addr_zero] at e
      refine ⟨congrArg some e, ?_⟩
      rw [e] at c0
      exact lt_of_cell c0
    · have c0 := (hp 0 (by omega)).1
      rw [addr_zero] at c0
      have cj := (hp j hj).1
      rw [addr_flat c0] at cj
      exact cj

set_option maxRecDepth 100000 in
theorem rowZ_of_trod {H : Type} {enc : TypeId × Value → H} {W : World} {fuel : Nat} {v : Value} {y : DataW H × List MemPlace} (hf : DataW.trod enc Tryz.prog W 0 (fun _ => true) true fuel 30 [v] = some y) :
    ∃ g o l, IsRowZ W v g o l := by
  rcases Deep.open_slice Tryz.underlying30 hf with ⟨hcs, _⟩ | ⟨a, len, cap, m, n, D, Pl, hcs, _, hlc, hcm, hm, _, hx⟩
  · simp at hcs
    subst hcs
    exact ⟨0, 0, [], none, 0, 0, rfl, by omega, fun _ => ⟨rfl, RS.nil W 0 0⟩⟩
  · simp at hcs
    subst hcs
    have hx' : ∀ i, i < len → ∃ z : Int, (∀ j u, (ics z)[j]? = some u → W.cell? (a.add (i * 1 + j)) = some u) := fun i hi => by
      obtain ⟨cs', h1, h2⟩ := hx i (by rw [hm]; split <;> omega)
      obtain ⟨z, rfl, _, _⟩ := DataW.trod_int Tryz.underlying3 h2
      rw [cells3'] at h1
      obtain ⟨_, _, hc⟩ := World.cells?_some h1
      refine ⟨z, fun j u hu => ?_⟩
      have hj : j < 1 := by have := (List.getElem?_eq_some_iff.1 hu).1; simpa [ics] using this
      have := hc j hj
      rw [addr_add] at this
      rw [this]
      exact hu
    obtain ⟨l, hl, hp⟩ := list_of len hx'
    exact ⟨a.block, a.off, l, some a, len, cap, rfl, by unfold maxLen at hcm; omega, fun hsm => ⟨hl, UV.row_at (fun x => ⟨_, _, rfl⟩) hl cap hp hsm⟩⟩

set_option maxRecDepth 100000 in
theorem rowU_of_trod {H : Type} {enc : TypeId × Value → H} {W : World} {fuel : Nat} {v : Value} {y : DataW H × List MemPlace} (hf : DataW.trod enc Tryz.prog W 0 (fun _ => true) true fuel 44 [v] = some y) :
    ∃ g o l, IsRowU W v g o l := by
  rcases Deep.open_slice Tryz.underlying44 hf with ⟨hcs, _⟩ | ⟨a, len, cap, m, n, D, Pl, hcs, _, hlc, hcm, hm, _, hx⟩
  · simp at hcs
    subst hcs
    exact ⟨0, 0, [], none, 0, 0, rfl, by omega, fun _ => ⟨rfl, RS.nil W 0 0, fun f hf => absurd hf (by simp)⟩⟩
  · simp at hcs
    subst hcs
    have hx' : ∀ i, i < len → ∃ z : Ug, (∀ j u, (ucs z)[j]? = some u → W.cell? (a.add (i * 3 + j)) = some u) ∧ z.n.size ≤ maxLen ∧ z.v.size ≤ maxLen := fun i hi => by
      obtain ⟨cs', h1, h2⟩ := hx i (by rw [hm]; split <;> omega)
      obtain ⟨z, rfl, b1, b2⟩ := UV.chg_of_trod h2
      rw [UV.cellsLChange] at h1
      obtain ⟨_, _, hc⟩ := World.cells?_some h1
      refine ⟨z, fun j u hu => ?_, b1, b2⟩
      have hj : j < 3 := by have := (List.getElem?_eq_some_iff.1 hu).1; simpa [ucs] using this
      have := hc j hj
      rw [addr_add] at this
      rw [this]
      exact hu
    obtain ⟨l, hl, hp⟩ := list_of len hx'
    refine ⟨a.block, a.off, l, some a, len, cap, rfl, by unfold maxLen at hcm; omega, fun hsm => ⟨hl, UV.row_at (k := 3) (enc := ucs) (fun x => ⟨_, _, rfl⟩) hl cap (fun i h => (hp i h).1) hsm, fun f hf => ?_⟩⟩
    obtain ⟨j, hj, rfl⟩ := List.getElem_of_mem hf
    have := (hp j hj).2
    unfold maxLen at this
    exact this

theorem cellsLServer : Tryz.prog.cellsOf 47 = 11 := by kernel_rfl
theorem cellsBool : Tryz.prog.cellsOf 4 = 1 := by kernel_rfl
theorem cellsRd : Tryz.prog.cellsOf 45 = 3 := by kernel_rfl
theorem cellsFs : Tryz.prog.cellsOf 22 = 1 := by kernel_rfl
theorem cellsPs : Tryz.prog.cellsOf 43 = 1 := by kernel_rfl
theorem cellsIs : Tryz.prog.cellsOf 30 = 1 := by kernel_rfl
theorem cellsUs : Tryz.prog.cellsOf 44 = 1 := by kernel_rfl
theorem trod9 {H : Type} {enc : TypeId × Value → H} {W : World} {t : TypeId} {f0 f1 f2 f3 f4 f5 f6 f7 f8 : Field} {fuel : Nat} {cs : List Value} {x : DataW H × List MemPlace} (ht : Tryz.prog.underlying t = some (.struct #[f0, f1, f2, f3, f4, f5, f6, f7, f8])) (h : DataW.trod enc Tryz.prog W 0 (fun _ => true) true fuel t cs = some x) :
    ∃ (xs : List (DataW H × List MemPlace)) (n : Nat), cs.length = Tryz.prog.cellsOf t ∧ ∀ f ∈ [f0, f1, f2, f3, f4, f5, f6, f7, f8], ∃ y, DataW.trod enc Tryz.prog W 0 (fun _ => true) true n f.type ((cs.drop f.offset).take (Tryz.prog.cellsOf f.type)) = some y := by
  obtain ⟨xs, n, _, rfl, hl, hlen, hf⟩ := DataW.trod_struct ht h
  match xs, hlen with
  | [y0, y1, y2, y3, y4, y5, y6, y7, y8], _ =>
    refine ⟨[], n, hl, fun f hm => ?_⟩
    simp only [List.mem_cons, List.not_mem_nil, or_false] at hm
    rcases hm with rfl | rfl | rfl | rfl | rfl | rfl | rfl | rfl | rfl
    · exact ⟨y0, by simpa using hf 0 _ rfl⟩
    · exact ⟨y1, by simpa using hf 1 _ rfl⟩
    · exact ⟨y2, by simpa using hf 2 _ rfl⟩
    · exact ⟨y3, by simpa using hf 3 _ rfl⟩
    · exact ⟨y4, by simpa using hf 4 _ rfl⟩
    · exact ⟨y5, by simpa using hf 5 _ rfl⟩
    · exact ⟨y6, by simpa using hf 6 _ rfl⟩
    · exact ⟨y7, by simpa using hf 7 _ rfl⟩
    · exact ⟨y8, by simpa using hf 8 _ rfl⟩

set_option maxRecDepth 100000 in
theorem open_server {H : Type} {enc : TypeId × Value → H} {W : World} {base : Nat} {v : Value} {d : DataW H} {p : List MemPlace} (hv : Value.okWide Tryz.prog W .any base 47 v) (h : DataW.Trod enc Tryz.prog W 0 (fun _ => true) true 47 v d p) :
    ∃ (n : Sn) (vd vv vt va : Value) (L : Sr), v = .agg #[.int .i64 n.a, .int .i64 n.k, .bool n.u, vd, .int .i64 n.e, vv, vt, va, .int .i64 n.r0, .int .i64 n.r1, .int .i64 n.r2] ∧ IsSv W vd vv vt va L := by
  obtain ⟨cs, rfl, hsz⟩ := okWide_struct Tryz.underlying47 hv
  obtain ⟨fuel, hf⟩ := h
  obtain ⟨_, n, hl, hh⟩ := trod9 Tryz.underlying47 hf
  simp only [List.mem_cons, List.not_mem_nil, or_false, forall_eq_or_imp, forall_eq] at hh
  obtain ⟨⟨y0, h0⟩, ⟨y1, h1⟩, ⟨y2, h2⟩, ⟨y3, h3⟩, ⟨y4, h4⟩, ⟨y5, h5⟩, ⟨y6, h6⟩, ⟨y7, h7⟩, ⟨y8, h8⟩⟩ := hh
  rw [cellsLServer] at hl
  obtain ⟨l⟩ := cs
  have hl' : l.length = 11 := by simpa [Value.cells] using hl
  match l, hl' with
  | [c0, c1, c2, c3, c4, c5, c6, c7, c8, c9, c10], _ =>
    simp [Value.cells, cells3', cellsBool, cellsLDisk, cellsPs, cellsIs, cellsUs, cellsRd] at h0 h1 h2 h3 h4 h5 h6 h7 h8
    obtain ⟨s0, e0, _, _⟩ := DataW.trod_int Tryz.underlying3 h0
    obtain ⟨s1, e1, _, _⟩ := DataW.trod_int Tryz.underlying3 h1
    obtain ⟨s2, e2⟩ := DataW.trod_bool Tryz.underlying4 h2
    obtain ⟨q0, m3, _, _, k3⟩ := trod_struct1 Tryz.underlying24 h3
    simp [cellsFs] at k3
    obtain ⟨g1, o1, F, r1⟩ := row_of_files k3
    obtain ⟨s4, e4, _, _⟩ := DataW.trod_int Tryz.underlying3 h4
    obtain ⟨g2, o2, Q, r2⟩ := rowP_of_trod h5
    obtain ⟨g3, o3, I, r3⟩ := rowZ_of_trod h6
    obtain ⟨g4, o4, U, r4⟩ := rowU_of_trod h7
    obtain ⟨p0, p1, p2, m8, _, _, j0, j1, j2⟩ := Deep.trod_struct3 Tryz.underlying45 h8
    simp [cells3'] at j0 j1 j2
    obtain ⟨s8, e8, _, _⟩ := DataW.trod_int Tryz.underlying3 j0
    obtain ⟨s9, e9, _, _⟩ := DataW.trod_int Tryz.underlying3 j1
    obtain ⟨s10, e10, _, _⟩ := DataW.trod_int Tryz.underlying3 j2
    simp at e0 e1 e2 e4 e8 e9 e10
    subst e0
    subst e1
    subst e4
    subst e8
    subst e9
    subst e10
    exact ⟨⟨s0, s1, s2, s4, s8, s9, s10⟩, c3, c5, c6, c7, ⟨F, ofQ Q, I, U⟩, by simp [e2], ⟨g1, o1, r1⟩, ⟨g2, o2, Q, r2, rfl⟩, ⟨g3, o3, r3⟩, ⟨g4, o4, r4⟩⟩
end SR

end Go.Proofs.YthlgohplljcgfaaGreatDoor
/-
  A row of numbers that a law is handed.
-/
namespace Go.Proofs.YthlgohplljcgfaaGreatDoor
open Go.ChangeShapes Go.WideShapes Go.ChangeAt Go.RowKit
set_option linter.unusedVariables false
set_option linter.unusedSimpArgs false

set_option maxRecDepth 100000 in
theorem open_lefts {H : Type} {enc : TypeId × Value → H} {W : World} {base : Nat} {v : Value} {d : DataW H} {p : List MemPlace} (hv : Value.okWide Tryz.prog W .any base 30 v) (h : DataW.Trod enc Tryz.prog W 0 (fun _ => true) true 30 v d p) :
    ∃ g o l, IsRowZ W v g o l := by
  obtain ⟨a, len, cap, rfl⟩ := okWide_slice Tryz.underlying30 hv
  obtain ⟨fuel, hf⟩ := h
  exact SR.rowZ_of_trod (by simpa [Value.cells] using hf)

end Go.Proofs.YthlgohplljcgfaaGreatDoor
