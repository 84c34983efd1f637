/-
  A head, and a row of heads, that a law is handed.
-/
import Derived.Test.YtmfoliocibjdnaaDoorPkH
import Derived.Lib.SmallJoins
import Derived.Deep.Strs
import Derived.Deep.Slices
import Derived.ProofKit
import Derived.ChangeSame
namespace Go.Proofs.YtmfoliocibjdnaaDoor
open Go.ChangeShapes Go.WideShapes Go.ChangeAt Go.RowKit
set_option linter.unusedVariables false
set_option linter.unusedSimpArgs false
namespace HV

theorem addr_flat {w : World} {x : Addr} {u : Value} (h : w.cell? x = some u) (j : Nat) : x.add j = ⟨x.block, x.off + j, none⟩ := by
  have hs := World.cell?_spot h
  cases x
  simp at hs
  subst hs
  unfold Addr.add
  split <;> simp_all
theorem addr_zero (x : Addr) : x.add 0 = x := by unfold Addr.add; simp
theorem addr_add (x : Addr) (i j : Nat) : (x.add i).add j = x.add (i + j) := by
  unfold Addr.add
  split <;> split <;> simp_all <;> omega

/-- n records, each read -/
theorem list_of {α : Type} {p : Nat → α → Prop} : ∀ n : Nat, (∀ i, i < n → ∃ f, p i f) → ∃ l : List α, l.length = n ∧ ∀ i (h : i < l.length), p i l[i]
  | 0, _ => ⟨[], rfl, fun i h => absurd h (by simp)⟩
  | n + 1, h => by
    obtain ⟨l, hl, hp⟩ := list_of n (fun i hi => h i (by omega))
    obtain ⟨f, hf⟩ := h n (by omega)
    refine ⟨l ++ [f], by simp [hl], fun i hi => ?_⟩
    rcases Nat.lt_or_ge i l.length with h1 | h1
    · rw [List.getElem_append_left h1]; exact hp i h1
    · have : i = n := by simp at hi; omega
      subst this
      rw [List.getElem_append_right h1]
      simpa using hf

theorem row_at {α : Type} {k : Nat} {enc : α → List Value} {W : World} {a : Addr} {len : Nat} {l : List α} (hk0 : ∀ x, ∃ u r, enc x = u :: r) (hl : l.length = len) (cap : Nat)
    (hp : ∀ i (h : i < l.length), ∀ j u, (enc l[i])[j]? = some u → W.cell? (a.add (i * k + j)) = some u) (hsm : len ≤ 1100000) : RS k enc W (.slice (some a) len cap) a.block a.off l := by
  have hc0 : ∀ h0 : 0 < l.length, ∃ u, W.cell? a = some u := fun h0 => by
    obtain ⟨u, r, e⟩ := hk0 l[0]
    have c0 := hp 0 h0 0 u (by rw [e]; rfl)
    simp only [Nat.zero_mul, Nat.zero_add] at c0
    rw [addr_zero] at c0
    exact ⟨u, c0⟩
  refine ⟨some a, cap, by rw [hl], by omega, fun h0 => ?_, fun j hj i u hu => ?_⟩
  · obtain ⟨u, c0⟩ := hc0 h0
    have e := addr_flat c0 0
    rw [addr_zero] at e
    refine ⟨congrArg some e, ?_⟩
    rw [e] at c0
    exact lt_of_cell c0
  · obtain ⟨u0, c0⟩ := hc0 (by omega)
    have c := hp j hj i u hu
    rw [addr_flat c0] at c
    rw [Nat.add_assoc]
    exact c

theorem cellsLHead : Tryd.prog.cellsOf 77 = 4 := by kernel_rfl
theorem cells9h : Tryd.prog.cellsOf 9 = 1 := by kernel_rfl
theorem cells3h : Tryd.prog.cellsOf 3 = 1 := by kernel_rfl

set_option maxRecDepth 100000 in
theorem head_of_trod {H : Type} {enc : TypeId × Value → H} {W : World} {fuel : Nat} {cs : List Value} {y : DataW H × List MemPlace} (h : DataW.trod enc Tryd.prog W 0 (fun _ => true) true fuel 77 cs = some y) :
    ∃ a : Hd, cs = hcs a ∧ a.r.size ≤ maxLen ∧ a.p.size ≤ maxLen := by
  obtain ⟨y0, y1, y2, y3, n, _, hl, h0, h1, h2, h3⟩ := Joins.trod_struct4 Tryd.underlying77 h
  rw [cellsLHead] at hl
  match cs, hl with
  | [c0, c1, c2, c3], _ =>
    simp [cells9h, cells3h] at h0 h1 h2 h3
    obtain ⟨i0, e0, _, _⟩ := DataW.trod_int Tryd.underlying3 h0
    obtain ⟨i1, e1, _, _⟩ := DataW.trod_int Tryd.underlying3 h1
    obtain ⟨s2, e2, _, b2⟩ := DataW.trod_string Tryd.underlying9 h2
    obtain ⟨s3, e3, _, b3⟩ := DataW.trod_string Tryd.underlying9 h3
    simp at e0 e1 e2 e3
    exact ⟨⟨i0, i1, s2, s3⟩, by rw [e0, e1, e2, e3]; rfl, b2, b3⟩

/-- no text of it passes what a text may have -/
def FitH (a : Hd) : Prop := a.r.size ≤ 9223372036854775807 ∧ a.p.size ≤ 9223372036854775807

set_option maxRecDepth 100000 in
theorem open_head {H : Type} {enc : TypeId × Value → H} {W : World} {base : Nat} {v : Value} {d : DataW H} {p : List MemPlace} (hv : Value.okWide Tryd.prog W .any base 77 v) (h : DataW.Trod enc Tryd.prog W 0 (fun _ => true) true 77 v d p) :
    ∃ a : Hd, v = .agg #[.int .i64 a.h, .int .i64 a.e, .string a.r, .string a.p] ∧ FitH a := by
  obtain ⟨cs, rfl, hsz⟩ := okWide_struct Tryd.underlying77 hv
  obtain ⟨fuel, hf⟩ := h
  obtain ⟨a, e, b1, b2⟩ := head_of_trod hf
  obtain ⟨l⟩ := cs
  have e' : l = hcs a := by simpa [Value.cells] using e
  subst e'
  unfold maxLen at b1 b2
  exact ⟨a, rfl, b1, b2⟩

end HV

end Go.Proofs.YtmfoliocibjdnaaDoor
