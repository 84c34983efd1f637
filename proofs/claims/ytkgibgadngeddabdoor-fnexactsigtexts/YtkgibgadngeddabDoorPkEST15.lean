/-
  Texts laid together: Dtag, Lit.
-/
import Derived.Test.YtkgibgadngeddabDoorPkEST14
import Derived.Test.YtkgibgadngeddabDoorPkEST2
/-
  What DrawTagText draws: some kind, and some parts.
-/
namespace Go.Proofs.YtkgibgadngeddabDoor
open Go.RowKit
set_option linter.unusedVariables false

def svs (l : List ByteArray) : List Value := l.map Value.string
theorem svs_append (l r : List ByteArray) : svs (l ++ r) = svs l ++ svs r := by simp [svs]

theorem wp_appT {w : World} {ops : Array Oper} {rest : List Oper} {o : Oper} {a : Act} {Q : Exit → Act → World → Prop} (hgd : o.guard = none) (s x : Operand)
    (ho : o.op = .call { callee := .builtin .append, args := #[s, x], argTypes := #[22, 22] })
    (B : Nat) (v : Value) (l : List ByteArray) (hs : a.eval s = v) (hown : w.ownsRow B 9 1 v l.length (svs l)) (hsz : B ≤ w.heap.size)
    (ad : Addr) (t : ByteArray) (hx : a.eval x = .slice (some ad) 1 1) (hnews : w.cell? ad = some (.string t)) (hlen : l.length ≤ 1000000)
    (h : ∀ v' w', w'.ownsRow B 9 1 v' (l ++ [t]).length (svs (l ++ [t])) → w.grownBy w' v.ownBlock → wpList Tryd.prog ops Q rest (a.put o.dst v') w') : wpList Tryd.prog ops Q (o :: rest) a w := by
  obtain ⟨i0, hi, hz0, hz1, hz2⟩ := info_parts Tryd.info9
  refine wpList_append_own _ hgd s x 22 ho B 9 i0 (.string ByteArray.empty) 1 16 Tryd.underlying22 hi hz0 hz1 hz2 rfl (by decide) v l.length (svs l) hs hown ad 1 1 (svs [t]) hx (by simp [svs]) ?_
    (fun u hu => by simp [svs] at hu; subst hu; rfl) (by unfold maxLen; omega) (by omega) hsz ?_
  · intro j u hj
    match j, hj with
    | 0, hj =>
      simp [svs] at hj
      subst hj
      have : ad.add 0 = ad := by unfold Addr.add; split <;> simp_all
      rw [this]
      exact hnews
  · intro v' w' h1 h2 _
    exact h v' w' (by rw [List.length_append, svs_append]; exact h1) h2

theorem one_text (w : World) (t : ByteArray) (y : TypeId) : (w.alloc (.cells #[.string t] y)).cell? ⟨w.heap.size, 0, none⟩ = some (.string t) := by simp

def kindsL : List Int := [1, 2, 3, 8, 0, 9, 5]
def kindsC : Array Value := #[.int .i64 1, .int .i64 2, .int .i64 3, .int .i64 8, .int .i64 0, .int .i64 9, .int .i64 5]
theorem kinds_at (w : World) : Hid (∀ j, (h : j < kindsL.length) → (w.alloc (.cells kindsC 3)).cell? ⟨w.heap.size, j, none⟩ = some (.int .i64 kindsL[j])) := by
  intro j hj
  rw [World.cell?_alloc_at _ _ _ _ rfl]
  have : j = 0 ∨ j = 1 ∨ j = 2 ∨ j = 3 ∨ j = 4 ∨ j = 5 ∨ j = 6 := by simp [kindsL] at hj; omega
  rcases this with rfl | rfl | rfl | rfl | rfl | rfl | rfl <;> rfl

/-- what the second loop holds -/
def DuR (w : World) (u : Value) (wr : World) : Prop :=
  ∃ l : List ByteArray, l.length ≤ 61 ∧ wr.ownsRow w.heap.size 9 1 u l.length (svs l) ∧ Below w.heap.size w wr ∧ w.heap.size ≤ wr.heap.size

theorem ss_own {B n : Nat} {w : World} {u : Value} {l : List ByteArray} (h : w.ownsRow B 9 1 u n (svs l)) (hn : n = l.length) (hl : l.length ≤ 1100000) : ∃ g, SS w u g 0 l := by
  subst hn
  rcases h.2 with ⟨hv, hn⟩ | ⟨g, cap, cur, hv, hbg, hg, rest⟩
  · have e : l = [] := List.length_eq_zero_iff.1 hn
    subst e
    exact ⟨0, none, 0, hv, by simp, fun h => absurd h (by simp), fun j hj => absurd hj (by simp)⟩
  · subst hv
    refine ⟨g, _, cap, rfl, hl, fun _ => rfl, fun j hj => ?_⟩
    rw [Nat.zero_add, World.ownsRow.cellAt h j (by omega)]
    simp [svs, List.getElem?_eq_getElem hj]

theorem own_later {B n e : Nat} {w w' : World} {v : Value} {xs : List Value} (h : w.ownsRow B e 1 v n xs) (hb : Below w.heap.size w w') : w'.ownsRow B e 1 v n xs := by
  refine ⟨h.1, ?_⟩
  rcases h.2 with hn | ⟨g, cap, cur, hv, hbg, hg, rest⟩
  · exact .inl hn
  · refine .inr ⟨g, cap, cur, hv, hbg, ?_, rest⟩
    rw [hb.block g (Array.getElem?_eq_some_iff.1 hg).1]
    exact hg

theorem own_slice {B n e : Nat} {w : World} {v : Value} {xs : List Value} (h : w.ownsRow B e 1 v n xs) : ∃ a c, v = .slice a n c := by
  rcases h.2 with ⟨hv, hn⟩ | ⟨g, cap, cur, hv, hbg, hg, rest⟩
  · exact ⟨none, 0, by rw [hv, hn]⟩
  · exact ⟨_, cap, hv⟩

def lenOf : Value → Nat
  | .slice _ n _ => n
  | _ => 0

/-- what DrawTagText gives -/
def DtAns (w : World) (e : Ending) (w' : World) : Prop := ∃ (k : Int) (u : Value) (g : Nat) (l : List ByteArray), e = .returned (.tuple #[.int .i64 k, u]) ∧ SS w' u g 0 l ∧ Below w.heap.size w w'

end Go.Proofs.YtkgibgadngeddabDoor
/-
  Rows of texts that are written out.
-/
namespace Go.Proofs.YtkgibgadngeddabDoor
open Go.RowKit
set_option linter.unusedVariables false

/-- texts that are written out -/
theorem ss_lits (w : World) (l : List ByteArray) (cs : Array Value) (n : Nat) (hn : l.length = n) (hl : n ≤ 1100000) (hc : cs = (svs l).toArray) : SS (w.alloc (.cells cs 9)) (.slice (some ⟨w.heap.size, 0, none⟩) n n) w.heap.size 0 l := by
  subst hc
  subst hn
  refine ⟨_, _, rfl, hl, fun _ => rfl, fun j hj => ?_⟩
  rw [Nat.zero_add, World.cell?_alloc_at _ _ _ _ rfl]
  simp [svs, List.getElem?_eq_getElem hj]

end Go.Proofs.YtkgibgadngeddabDoor
