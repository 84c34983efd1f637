/-
  Texts laid together: Opn.
-/
import Derived.Test.YthlgohplljcgfaaGreatDoorPkESN1
import Derived.Lib.SmallJoins
import Derived.Deep.Strs
import Derived.Deep.Slices
import Derived.ProofKit
/-
  A disk, and a row of files, that a law is handed.
-/
namespace Go.Proofs.YthlgohplljcgfaaGreatDoor
open Go.ChangeShapes Go.WideShapes Go.ChangeAt Go.RowKit
set_option linter.unusedVariables false
set_option linter.unusedSimpArgs false

theorem addr_flat {w : World} {x : Addr} {u : Value} (h : w.cell? x = some u) (j : Nat) : x.add j = ⟨x.block, x.off + j, none⟩ := by
  have hs := World.cell?_spot h
  cases x
  simp at hs
  subst hs
  unfold Addr.add
  split <;> simp_all
theorem addr_zero (x : Addr) : x.add 0 = x := by unfold Addr.add; simp
theorem addr_add (x : Addr) (i j : Nat) : (x.add i).add j = x.add (i + j) := by
  unfold Addr.add
  split <;> split <;> simp_all <;> omega

theorem cellsLFile : Tryz.prog.cellsOf 91 = 3 := by kernel_rfl
theorem cellsLDisk : Tryz.prog.cellsOf 24 = 1 := by kernel_rfl
theorem cells9' : Tryz.prog.cellsOf 9 = 1 := by kernel_rfl
theorem cells3' : Tryz.prog.cellsOf 3 = 1 := by kernel_rfl

set_option maxRecDepth 100000 in
theorem file_of_trod {H : Type} {enc : TypeId × Value → H} {W : World} {fuel : Nat} {cs : List Value} {y : DataW H × List MemPlace} (h : DataW.trod enc Tryz.prog W 0 (fun _ => true) true fuel 91 cs = some y) :
    ∃ f : Fl, cs = fcs f ∧ f.n.size ≤ maxLen ∧ f.t.size ≤ maxLen := by
  obtain ⟨y0, y1, y2, n, _, hl, h0, h1, h2⟩ := Deep.trod_struct3 Tryz.underlying91 h
  rw [cellsLFile] at hl
  match cs, hl with
  | [c0, c1, c2], _ =>
    simp [cells9', cells3'] at h0 h1 h2
    obtain ⟨s0, e0, _, b0⟩ := DataW.trod_string Tryz.underlying9 h0
    obtain ⟨s1, e1, _, b1⟩ := DataW.trod_string Tryz.underlying9 h1
    obtain ⟨i2, e2, _, _⟩ := DataW.trod_int Tryz.underlying3 h2
    simp at e0 e1 e2
    exact ⟨⟨s0, s1, i2⟩, by rw [e0, e1, e2]; rfl, b0, b1⟩

/-- n records, each read -/
theorem list_of {α : Type} {p : Nat → α → Prop} : ∀ n : Nat, (∀ i, i < n → ∃ f, p i f) → ∃ l : List α, l.length = n ∧ ∀ i (h : i < l.length), p i l[i]
  | 0, _ => ⟨[], rfl, fun i h => absurd h (by simp)⟩
  | n + 1, h => by
    obtain ⟨l, hl, hp⟩ := list_of n (fun i hi => h i (by omega))
    obtain ⟨f, hf⟩ := h n (by omega)
    refine ⟨l ++ [f], by simp [hl], fun i hi => ?_⟩
    rcases Nat.lt_or_ge i l.length with h1 | h1
    · rw [List.getElem_append_left h1]; exact hp i h1
    · have : i = n := by simp at hi; omega
      subst this
      rw [List.getElem_append_right h1]
      simpa using hf

theorem row_of_files {H : Type} {enc : TypeId × Value → H} {W : World} {fuel : Nat} {v : Value} {y : DataW H × List MemPlace} (h : DataW.trod enc Tryz.prog W 0 (fun _ => true) true fuel 22 [v] = some y) :
    ∃ g o l, IsRowF W v g o l := by
  rcases Deep.open_slice Tryz.underlying22 h with ⟨hcs, _⟩ | ⟨a, len, cap, m, n, D, Pl, hcs, _, hlc, hcm, hm, _, hx⟩
  · simp at hcs
    subst hcs
    exact ⟨0, 0, [], none, 0, 0, rfl, by omega, fun _ => ⟨rfl, RS.nil W 0 0, fun f hf => absurd hf (by simp)⟩⟩
  · simp at hcs
    subst hcs
    obtain rfl : m = cap := by simpa using hm
    have hx' : ∀ i, i < len → ∃ f : Fl, (∀ j u, (fcs f)[j]? = some u → W.cell? (a.add (i * 3 + j)) = some u) ∧ f.n.size ≤ maxLen ∧ f.t.size ≤ maxLen := fun i hi => by
      obtain ⟨cs', h1, h2⟩ := hx i (by omega)
      obtain ⟨f, rfl, b0, b1⟩ := file_of_trod h2
      rw [cellsLFile] at h1
      obtain ⟨_, _, hc⟩ := World.cells?_some h1
      refine ⟨f, fun j u hu => ?_, b0, b1⟩
      have hj : j < 3 := by have := (List.getElem?_eq_some_iff.1 hu).1; simpa [fcs] using this
      have := hc j hj
      rw [addr_add] at this
      rw [this, hu]
    obtain ⟨l, hl, hp⟩ := list_of len hx'
    refine ⟨a.block, a.off, l, some a, len, m, rfl, by unfold maxLen at hcm; omega, fun hsm => ⟨hl, ⟨some a, m, by rw [hl], by omega, fun h0 => ?_, fun j hj i u hu => ?_⟩, fun f hf => ?_⟩⟩
    · have c0 := (hp 0 h0).1 0 _ rfl
      simp only [Nat.zero_mul, Nat.zero_add] at c0
      rw [addr_zero] at c0
      have e := addr_flat c0 0
      rw [addr_zero] at e
      refine ⟨congrArg some e, ?_⟩
      rw [e] at c0
      exact lt_of_cell c0
    · have c0 := (hp 0 (by omega)).1 0 _ rfl
      simp only [Nat.zero_mul, Nat.zero_add] at c0
      rw [addr_zero] at c0
      have c := (hp j hj).1 i u hu
      rw [addr_flat c0] at c
      rw [Nat.add_assoc]
      exact c
    · obtain ⟨j, hj, rfl⟩ := List.getElem_of_mem hf
      have := (hp j hj).2
      unfold maxLen at this
      exact this

set_option maxRecDepth 100000 in
theorem open_disk {H : Type} {enc : TypeId × Value → H} {W : World} {base : Nat} {v : Value} {d : DataW H} {p : List MemPlace} (hv : Value.okWide Tryz.prog W .any base 24 v) (h : DataW.Trod enc Tryz.prog W 0 (fun _ => true) true 24 v d p) :
    ∃ s g o l, v = .agg #[s] ∧ IsRowF W s g o l := by
  obtain ⟨cs, rfl, hsz⟩ := okWide_struct Tryz.underlying24 hv
  rw [cellsLDisk] at hsz
  obtain ⟨s, rfl⟩ : ∃ s, cs = #[s] := by
    obtain ⟨l⟩ := cs
    match l, hsz with
    | [s], _ => exact ⟨s, rfl⟩
  obtain ⟨fuel, hf⟩ := h
  obtain ⟨y0, n, _, _, h0⟩ := trod_struct1 Tryz.underlying24 hf
  have h0' : DataW.trod enc Tryz.prog W 0 (fun _ => true) true n 22 [s] = some y0 := by
    have e : Tryz.prog.cellsOf 22 = 1 := by kernel_rfl
    simpa [Value.cells, e] using h0
  obtain ⟨g, o, l, hr⟩ := row_of_files h0'
  exact ⟨s, g, o, l, rfl, hr⟩

end Go.Proofs.YthlgohplljcgfaaGreatDoor
