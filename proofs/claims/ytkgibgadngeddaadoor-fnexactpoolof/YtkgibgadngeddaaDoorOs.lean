/-
  Laws on a slice of texts that the call itself has made: appending to it, reading it, storing into it.
-/
import Derived.Test.YtkgibgadngeddaaDoorDtag
namespace Go.Proofs.YtkgibgadngeddaaDoor
open Go.RowKit
set_option linter.unusedVariables false

/-- v owns the texts l, in blocks from B on; below B all is as it was in w0 -/
def OS (B : Nat) (w0 w : World) (v : Value) (l : List ByteArray) : Prop :=
  w.ownsRow B 9 1 v l.length (svs l) ∧ Below B w0 w ∧ B ≤ w.heap.size

theorem OS.alloc {B : Nat} {w0 w : World} {v : Value} {l : List ByteArray} (h : OS B w0 w v l) (o : Obj) : OS B w0 (w.alloc o) v l :=
  ⟨h.1.alloc o, h.2.1.alloc h.2.2 o, by have := h.2.2; simp; omega⟩
theorem OS.drew {B : Nat} {w0 w : World} {v : Value} {l : List ByteArray} (h : OS B w0 w v l) : OS B w0 w.drew v l :=
  ⟨h.1.drew, h.2.1.drew, h.2.2⟩
theorem below_drn {B : Nat} {a w : World} (h : Below B a w) (n : Nat) : Below B a (w.drewN n) := h.trans ⟨rfl, rfl, rfl, Nat.le_refl _, fun _ _ => rfl⟩
theorem OS.drewN {B : Nat} {w0 w : World} {v : Value} {l : List ByteArray} (h : OS B w0 w v l) (n : Nat) : OS B w0 (w.drewN n) v l :=
  ⟨h.1, below_drn h.2.1 n, h.2.2⟩
theorem OS.made (w : World) : OS w.heap.size w (w.alloc (.cells #[] 9)) (.slice (some ⟨w.heap.size, 0, none⟩) 0 0) [] :=
  ⟨World.ownsRow_made w #[] 0 (Nat.le_refl _) (by decide) (by simp), (Below.refl _ _).alloc (Nat.le_refl _) _, by simp⟩
/-- what is owned stays so behind a call that leaves all that was there as it was -/
theorem OS.later {B : Nat} {w0 w w' : World} {v : Value} {l : List ByteArray} (h : OS B w0 w v l) (hb : Below w.heap.size w w') : OS B w0 w' v l := by
  refine ⟨⟨h.1.1, ?_⟩, h.2.1.trans (hb.mono h.2.2), Nat.le_trans h.2.2 hb.size⟩
  rcases h.1.2 with hn | ⟨g, cap, cur, hv, hbg, hg, rest⟩
  · exact .inl hn
  · refine .inr ⟨g, cap, cur, hv, hbg, ?_, rest⟩
    rw [hb.block g (Array.getElem?_eq_some_iff.1 hg).1]
    exact hg
/-- the same with another world at the bottom -/
theorem OS.from {B : Nat} {w0 w1 w : World} {v : Value} {l : List ByteArray} (h : OS B w1 w v l) (hb : Below B w0 w1) : OS B w0 w v l := ⟨h.1, hb.trans h.2.1, h.2.2⟩

theorem wp_appS {w : World} {ops : Array Oper} {rest : List Oper} {o : Oper} {a : Act} {Q : Exit → Act → World → Prop} (hgd : o.guard = none) (s x : Operand)
    (ho : o.op = .call { callee := .builtin .append, args := #[s, x], argTypes := #[28, 28] })
    (B : Nat) (w0 : World) (v : Value) (l : List ByteArray) (hs : a.eval s = v) (hown : OS B w0 w v l)
    (ad : Addr) (t : ByteArray) (hx : a.eval x = .slice (some ad) 1 1) (hnews : w.cell? ad = some (.string t)) (hlen : l.length ≤ 1000000)
    (h : ∀ v' w', OS B w0 w' v' (l ++ [t]) → wpList Tryd.prog ops Q rest (a.put o.dst v') w') : wpList Tryd.prog ops Q (o :: rest) a w := by
  obtain ⟨i0, hi, hz0, hz1, hz2⟩ := info_parts Tryd.info9
  refine wpList_append_own _ hgd s x 28 ho B 9 i0 (.string ByteArray.empty) 1 16 Tryd.underlying28 hi hz0 hz1 hz2 rfl (by decide) v l.length (svs l) hs hown.1 ad 1 1 [.string t] hx rfl ?_
    (fun u hu => by simp at hu; subst hu; rfl) (by unfold maxLen; omega) (by omega) hown.2.2 ?_
  · intro j u hj
    match j, hj with
    | 0, hj =>
      simp at hj
      subst hj
      have : ad.add 0 = ad := by unfold Addr.add; split <;> simp_all
      rw [this]
      exact hnews
  · intro v' w' h1 h2 _
    refine h v' w' ⟨by simpa [svs] using h1, hown.2.1.grown h2 hown.2.2 (fun k hk => (hown.1.lt k hk).1), ?_⟩
    exact Nat.le_trans hown.2.2 h2.size

/-- the shape of what is owned: nil and nothing, or a row from the head of a block -/
theorem OS.shape {B : Nat} {w0 w : World} {v : Value} {l : List ByteArray} (h : OS B w0 w v l) :
    (v = .slice none 0 0 ∧ l = []) ∨ ∃ g cap, v = .slice (some ⟨g, 0, none⟩) l.length cap ∧ B ≤ g ∧ g < w.heap.size := by
  rcases h.1.2 with ⟨hv, hn⟩ | ⟨g, cap, cur, hv, hbg, hg, rest⟩
  · exact .inl ⟨hv, List.length_eq_zero_iff.1 hn⟩
  · exact .inr ⟨g, cap, hv, hbg, (Array.getElem?_eq_some_iff.1 hg).1⟩

/-- a cell of what is owned -/
theorem OS.at {B : Nat} {w0 w : World} {l : List ByteArray} {g n cap : Nat} (h : OS B w0 w (.slice (some ⟨g, 0, none⟩) n cap) l) (j : Nat) (hj : j < l.length) : w.cell? ⟨g, j, none⟩ = some (.string l[j]) := by
  have h1 := h.1.cells (g := g) rfl j (.string l[j]) (by simp [svs, List.getElem?_eq_getElem hj])
  have e : (⟨g, 0, none⟩ : Addr).add j = ⟨g, j, none⟩ := by unfold Addr.add; split <;> simp_all
  rw [e] at h1
  exact h1

/-- what is owned begins its block -/
theorem OS.tb {B : Nat} {w0 w : World} {l : List ByteArray} {g n cap : Nat} (h : OS B w0 w (.slice (some ⟨g, 0, none⟩) n cap) l) : TB w g l := by
  have hat := fun j hj => h.at j hj
  rcases h.1.2 with ⟨hv, hn⟩ | ⟨g', cap', cur, hv, hbg, hg, rest⟩
  · simp at hv
  · simp at hv
    obtain ⟨rfl, _⟩ := hv
    refine ⟨cur, hg, fun j hj => ?_⟩
    have h1 := hat j hj
    rw [cell_of_row w g j cur 9 (0, 0) hg] at h1
    exact h1
theorem OS.ss {B : Nat} {w0 w : World} {v : Value} {l : List ByteArray} (h : OS B w0 w v l) (hl : l.length ≤ 1100000) : ∃ g, SS w v g 0 l := ss_own h.1 rfl hl
theorem OS.nil (w : World) : OS w.heap.size w w (.slice none 0 0) [] := ⟨World.ownsRow_nil _ _ _ _, Below.refl _ _, Nat.le_refl _⟩
theorem OS.lit (w : World) (t : ByteArray) : OS w.heap.size w (w.alloc (.cells #[.string t] 9)) (.slice (some ⟨w.heap.size, 0, none⟩) 1 1) [t] :=
  ⟨World.ownsRow_lit w #[.string t] 1 (Nat.le_refl _) (by decide) (by simp), (Below.refl _ _).alloc (Nat.le_refl _) _, by simp⟩

end Go.Proofs.YtkgibgadngeddaaDoor
