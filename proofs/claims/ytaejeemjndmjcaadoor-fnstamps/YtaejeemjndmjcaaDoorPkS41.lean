/-
  Texts laid together: Ho, Hh.
-/
import Derived.Test.YtaejeemjndmjcaaDoorPkS37
import Derived.Test.YtaejeemjndmjcaaDoorPkS1
import Derived.Deep.AppendLies
import Derived.Deep.RegionLaw
import Derived.OwnWalk
import Derived.Test.YtaejeemjndmjcaaDoorPkS24
import Derived.Deep.RegionHeld3
import Derived.ScopeJumps
import Derived.WalkMore
/-
  Rows of heads that a call owns, grown head by head; a row beside a cursor.
-/
namespace Go.Proofs.YtaejeemjndmjcaaDoor
open Go.RowKit Go.BigFrame Go.Sort
set_option linter.unusedVariables false
set_option linter.unusedSimpArgs false

theorem grown_belowH {w w' : World} {row : Option Nat} (h : Below w.heap.size w w') : w.grownBy w' row := ⟨h.os, h.tape, h.output, h.size, fun k hk _ => h.block k hk⟩

/-- v owns the heads l -/
def OH (B : Nat) (w0 w : World) (v : Value) (l : List Hd) : Prop := OR 25 4 hcs B w0 w v l
theorem OH.later {B : Nat} {w0 w w' : World} {v : Value} {l : List Hd} (h : OH B w0 w v l) (hb : Below w.heap.size w w') : OH B w0 w' v l := OR.later h hb
theorem OH.grown {B : Nat} {w0 w w' : World} {v : Value} {l : List Hd} {row : Option Nat} (h : OH B w0 w v l) (hg : w.grownBy w' row) (hne : ∀ q, row = some q → B ≤ q ∧ v.ownBlock ≠ some q) : OH B w0 w' v l := OR.grown h hg hne
theorem OH.rw {B : Nat} {w0 w : World} {v : Value} {l : List Hd} (h : OH B w0 w v l) (hl : l.length ≤ 1100000) : ∃ g, RW 4 hcs w v g l ∧ B ≤ g ∧ (∀ q, v.ownBlock = some q → q = g) := OR.rw (k := 4) (enc := hcs) (fun x => hcs_len x) (by omega) h hl
theorem OH.shape {B : Nat} {w0 w : World} {v : Value} {l : List Hd} (h : OH B w0 w v l) : ∃ a c, v = .slice a l.length c := by
  rcases h.1.2 with ⟨hv, hn⟩ | ⟨g, cap, cur, hv, _⟩
  · exact ⟨none, 0, by rw [hv, hn]⟩
  · exact ⟨_, _, hv⟩
theorem OH.made (B : Nat) (w0 w : World) (hb : Below B w0 w) (hB : B ≤ w.heap.size) : OH B w0 (w.alloc (.cells #[] 25)) (.slice (some ⟨w.heap.size, 0, none⟩) 0 0) [] :=
  ⟨World.ownsRow_made w #[] 0 hB (by decide) (by simp), hb.alloc hB _, by simp; omega⟩
/-- its block is none of another type -/
theorem OH.ne {B : Nat} {w0 w : World} {u : Value} {l : List Hd} {p T : Nat} {cs : Array Value} {fz : Nat × Nat} (h : OH B w0 w u l) (hb : w.heap[p]? = some (.cells cs T fz)) (hT : T ≠ 25) : u.ownBlock ≠ some p := by
  rcases h.1.2 with ⟨hv, _⟩ | ⟨g, cap, cur, hv, _, hg, _⟩
  · rw [hv]; simp [Value.ownBlock]
  · rw [hv]
    intro e
    have : g = p := by simpa [Value.ownBlock] using e
    subst this
    rw [hg] at hb
    simp at hb
    exact hT hb.2.1.symm

section
variable {w : World} {ops : Array Oper} {o : Oper} {a : Act} {K : Act → World → Prop} {Q : Exit → Act → World → Prop}
/-- a head appended, as one step of a region that draws its order -/
theorem step_head {E : Prop} (hgd : o.guard = none) (s x : Operand)
    (ho : o.op = .call { callee := .builtin .append, args := #[s, x], argTypes := #[112, 112] })
    (B : Nat) (w0 : World) (u : Value) (l : List Hd) (f : Hd) (hs : a.eval s = u) (h : OH B w0 w u l) (p : Nat) (hx : a.eval x = .slice (some ⟨p, 0, none⟩) 1 1)
    (hnews : w.rangeAt p 0 (hcs f)) (hlen : l.length + 1 ≤ 1000000)
    (hk : ∀ g cap w', OH B w0 w' (.slice (some ⟨g, 0, none⟩) (l.length + 1) cap) (l ++ [f]) → w.grownBy w' u.ownBlock → K (a.put o.dst (.slice (some ⟨g, 0, none⟩) (l.length + 1) cap)) w') : if Region.wanted o (yielded ops a.tmps) = true then Oper.wp Tryd.prog o a w K Q else E := by
  obtain ⟨i0, hi, hz0, hz1, hz2⟩ := info_parts Tryd.infoHead
  refine step_append_lies w hgd s x 112 ho B 25 i0 _ 4 48 Tryd.underlying112 hi hz0 hz1 hz2 rfl (by decide) u l.length (l.flatMap hcs) hs h.1 ⟨p, 0, none⟩ 1 1 (hcs f) hx rfl ?_
    (fun u hu => by simp [hcs] at hu; rcases hu with rfl | rfl | rfl | rfl <;> rfl) (by omega) (by unfold maxLen; omega) (by omega) h.2.2 w.heap.size rfl ?_
  · intro j u hj
    have := hnews j u hj
    rw [Addr.add_mid]
    exact this
  · intro g cap w' h1 h2 h3 _
    exact hk _ _ _ ⟨by rw [List.flatMap_append, List.flatMap_singleton, List.length_append]; exact h1, h.2.1.grown h2 h.2.2 (fun k hk => (h.1.lt k hk).1), Nat.le_trans h.2.2 h2.size⟩ h2
/-- .. and in a plain region -/
theorem wp_head {rest : List Oper} (hgd : o.guard = none) (s x : Operand)
    (ho : o.op = .call { callee := .builtin .append, args := #[s, x], argTypes := #[112, 112] })
    (B : Nat) (w0 : World) (u : Value) (l : List Hd) (f : Hd) (hs : a.eval s = u) (h : OH B w0 w u l) (p : Nat) (hx : a.eval x = .slice (some ⟨p, 0, none⟩) 1 1)
    (hnews : w.rangeAt p 0 (hcs f)) (hlen : l.length + 1 ≤ 1000000)
    (hk : ∀ g cap w', OH B w0 w' (.slice (some ⟨g, 0, none⟩) (l.length + 1) cap) (l ++ [f]) → w.grownBy w' u.ownBlock → wpList Tryd.prog ops Q rest (a.put o.dst (.slice (some ⟨g, 0, none⟩) (l.length + 1) cap)) w') : wpList Tryd.prog ops Q (o :: rest) a w := by
  obtain ⟨i0, hi, hz0, hz1, hz2⟩ := info_parts Tryd.infoHead
  refine wpList_append_lies w hgd s x 112 ho B 25 i0 _ 4 48 Tryd.underlying112 hi hz0 hz1 hz2 rfl (by decide) u l.length (l.flatMap hcs) hs h.1 ⟨p, 0, none⟩ 1 1 (hcs f) hx rfl ?_
    (fun u hu => by simp [hcs] at hu; rcases hu with rfl | rfl | rfl | rfl <;> rfl) (by omega) (by unfold maxLen; omega) (by omega) h.2.2 w.heap.size rfl ?_
  · intro j u hj
    have := hnews j u hj
    rw [Addr.add_mid]
    exact this
  · intro g cap w' h1 h2 h3 _
    exact hk _ _ _ ⟨by rw [List.flatMap_append, List.flatMap_singleton, List.length_append]; exact h1, h.2.1.grown h2 h.2.2 (fun k hk => (h.1.lt k hk).1), Nat.le_trans h.2.2 h2.size⟩ h2
end

section
variable {w : World} {ops : Array Oper} {o : Oper} {a : Act} {Q : Exit → Act → World → Prop}
/-- a head appended, and where the row lies then -/
theorem wp_headL {rest : List Oper} (hgd : o.guard = none) (s x : Operand)
    (ho : o.op = .call { callee := .builtin .append, args := #[s, x], argTypes := #[112, 112] })
    (B : Nat) (w0 : World) (u : Value) (l : List Hd) (f : Hd) (hs : a.eval s = u) (h : OH B w0 w u l) (p : Nat) (hx : a.eval x = .slice (some ⟨p, 0, none⟩) 1 1)
    (hnews : w.rangeAt p 0 (hcs f)) (hlen : l.length + 1 ≤ 4000000)
    (hk : ∀ g cap w', OH B w0 w' (.slice (some ⟨g, 0, none⟩) (l.length + 1) cap) (l ++ [f]) → w.grownBy w' u.ownBlock → (u.ownBlock = some g ∨ g = w.heap.size) → wpList Tryd.prog ops Q rest (a.put o.dst (.slice (some ⟨g, 0, none⟩) (l.length + 1) cap)) w') : wpList Tryd.prog ops Q (o :: rest) a w := by
  obtain ⟨i0, hi, hz0, hz1, hz2⟩ := info_parts Tryd.infoHead
  refine wpList_append_lies w hgd s x 112 ho B 25 i0 _ 4 48 Tryd.underlying112 hi hz0 hz1 hz2 rfl (by decide) u l.length (l.flatMap hcs) hs h.1 ⟨p, 0, none⟩ 1 1 (hcs f) hx rfl ?_
    (fun u hu => by simp [hcs] at hu; rcases hu with rfl | rfl | rfl | rfl <;> rfl) (by omega) (by unfold maxLen; omega) (by omega) h.2.2 w.heap.size rfl ?_
  · intro j u hj
    have := hnews j u hj
    rw [Addr.add_mid]
    exact this
  · intro g cap w' h1 h2 h3 _
    exact hk _ _ _ ⟨by rw [List.flatMap_append, List.flatMap_singleton, List.length_append]; exact h1, h.2.1.grown h2 h.2.2 (fun k hk => (h.1.lt k hk).1), Nat.le_trans h.2.2 h2.size⟩ h2 h3

theorem flat_cellsH {w : World} {g o : Nat} {l : List Hd} (h : ∀ j (h : j < l.length), w.rangeAt g (o + j * 4) (hcs l[j])) : ∀ j u, (l.flatMap hcs)[j]? = some u → w.cell? ⟨g, o + j, none⟩ = some u := by
  intro j u hu
  have hl := flat_len (k := 4) (enc := hcs) (fun x => hcs_len x) l
  have hj : j < l.length * 4 := by rw [← hl]; exact (List.getElem?_eq_some_iff.1 hu).1
  have e : j = j / 4 * 4 + j % 4 := by omega
  have hq : j / 4 < l.length := by omega
  rw [e, flat_at (k := 4) (enc := hcs) (fun x => hcs_len x) l (j / 4) hq (j % 4) (by omega)] at hu
  have := h (j / 4) hq (j % 4) u hu
  rw [e, ← Nat.add_assoc]
  exact this
theorem oneH {l : List Hd} : ∀ u ∈ l.flatMap hcs, u.oneCell' = true := fun u hu => by
  obtain ⟨f, _, hf⟩ := List.mem_flatMap.1 hu
  simp [hcs] at hf
  rcases hf with rfl | rfl | rfl | rfl <;> rfl
/-- a whole row of heads appended to an empty one -/
theorem wp_rowH {rest : List Oper} (hgd : o.guard = none) (s x : Operand)
    (ho : o.op = .call { callee := .builtin .append, args := #[s, x], argTypes := #[112, 112] })
    (B : Nat) (w0 : World) (g : Nat) (hs : a.eval s = .slice (some ⟨g, 0, none⟩) 0 0) (h : OH B w0 w (.slice (some ⟨g, 0, none⟩) 0 0) []) (p : Option Addr) (ga oa cap : Nat) (l : List Hd) (hx : a.eval x = .slice p l.length cap) (hv : RS 4 hcs w (.slice p l.length cap) ga oa l) (hnil : p = none → cap = 0)
    (hk : ∀ v' w', OH B w0 w' v' l → wpList Tryd.prog ops Q rest (a.put o.dst v') w') : wpList Tryd.prog ops Q (o :: rest) a w := by
  obtain ⟨i0, hi, hz0, hz1, hz2⟩ := info_parts Tryd.infoHead
  obtain ⟨p', cap', ev, hlen, hA, hc⟩ := hv
  obtain ⟨rfl, rfl⟩ : p = p' ∧ cap = cap' := by simpa using ev
  by_cases h0 : l.length = 0
  · have : l = [] := List.length_eq_zero_iff.1 h0
    subst this
    refine wpList_append_fits_any w hgd s x 112 ho B 25 i0 4 Tryd.underlying112 hi hz1 g 0 0 [] hs h.1 p 0 cap [] hx rfl (fun e => ⟨rfl, hnil e⟩) (fun ad _ j u hu => by simp at hu) (fun u hu => by cases hu) (by omega) ?_
    intro w' h1 h2
    exact hk _ _ ⟨by simpa using h1, h.2.1.grown h2 h.2.2 (fun k hk => (h.1.lt k hk).1), Nat.le_trans h.2.2 h2.size⟩
  · obtain ⟨rfl, hg⟩ := hA (by omega)
    refine wpList_append_own _ hgd s x 112 ho B 25 i0 _ 4 48 Tryd.underlying112 hi hz0 hz1 hz2 rfl (by decide) _ 0 [] hs h.1 ⟨ga, oa, none⟩ l.length cap (l.flatMap hcs) hx (flat_len (k := 4) (enc := hcs) (fun x => hcs_len x) l) ?_ oneH (by unfold maxLen; omega) (by omega) h.2.2 ?_
    · intro j u hj
      have := flat_cellsH hc j u hj
      rw [Addr.add_mid]
      exact this
    · intro v' w' h1 h2 _
      exact hk _ _ ⟨by simpa using h1, h.2.1.grown h2 h.2.2 (fun k hk => (h.1.lt k hk).1), Nat.le_trans h.2.2 h2.size⟩
end


theorem grown_bel {w w2 w' : World} {row : Option Nat} (h : w.grownBy w2 row) (hb : Below w.heap.size w2 w') : w.grownBy w' row :=
  ⟨hb.os.trans h.os, hb.tape.trans h.tape, hb.output.trans h.output, Nat.le_trans h.size hb.size, fun k hk hne => (hb.block k hk).trans (h.block k hk hne)⟩
theorem Cur.bel {B Bx : Nat} {w0 w w' : World} {g : Nat} {v : Value} (h : Cur B w0 w g v) (hb : Below Bx w w') (hg : g < Bx) (hB : B ≤ Bx) : Cur B w0 w' g v := by
  obtain ⟨h1, h2, h3, i, x, hbl, h4⟩ := h
  exact ⟨h1, h2.trans (hb.mono hB), h3, i, x, (hb.block g hg).trans hbl, h4⟩
theorem OH.drawn {B Bx : Nat} {w0 w w1 : World} {g : Nat} {v u : Value} {l : List Hd} (h : OH Bx w w u l) (hc : Cur B w0 w g v) (hg : w.grownBy w1 (some g)) : OH Bx w1 w1 u l := by
  obtain ⟨_, _, _, i, x, hbl, _⟩ := hc
  exact ⟨World.ownsRow.kept h.1 hg (.inr (h.ne hbl (by decide))), Below.refl _ _, Nat.le_trans h.2.2 hg.size⟩
theorem OH.self {Bx : Nat} {w0 w : World} {u : Value} {l : List Hd} (h : OH Bx w0 w u l) : OH Bx w w u l := ⟨h.1, Below.refl _ _, h.2.2⟩

/-- its capacity is no less than its length -/
theorem OH.cap {B : Nat} {w0 w : World} {v : Value} {l : List Hd} (h : OH B w0 w v l) : ∀ a n c, v = .slice a n c → n ≤ c := by
  intro a n c e
  rcases h.1.2 with ⟨hv, hn⟩ | ⟨g, cap, cur, hv, _, _, hnc, _⟩
  · rw [hv] at e
    simp at e
    omega
  · rw [hv] at e
    simp at e
    omega
/-- a list under way beside a cursor -/
def HnI (B : Nat) (w0 w : World) (g : Nat) (v u : Value) (L : List Hd) (wr : World) : Prop := Cur B w0 wr g v ∧ OH w.heap.size wr wr u L ∧ w.grownBy wr (some g)
theorem HnI.drawn {B : Nat} {w0 w w3 w4 : World} {g : Nat} {v u : Value} {L : List Hd} (h : HnI B w0 w g v u L w3) (hc : Cur B w0 w4 g v) (hg : w3.grownBy w4 (some g)) : HnI B w0 w g v u L w4 :=
  ⟨hc, h.2.1.drawn h.1 hg, h.2.2.trans hg⟩
theorem HnI.below {B : Nat} {w0 w w3 w4 : World} {g : Nat} {v u : Value} {L : List Hd} (h : HnI B w0 w g v u L w3) (hb : Below w3.heap.size w3 w4) : HnI B w0 w g v u L w4 :=
  ⟨h.1.kept (grown_belowH (row := none) hb) (by simp) h.1.size (fun k hk => by cases hk), (h.2.1.later hb).self, h.2.2.trans (grown_belowH hb)⟩
theorem HnI.app {B : Nat} {w0 w w3 w5 : World} {g : Nat} {v u u5 : Value} {L M : List Hd} (h : HnI B w0 w g v u L w3) (hg : g < w.heap.size) (hB : B ≤ w.heap.size) (ho : OH w.heap.size w3 w5 u5 M) : HnI B w0 w g v u5 M w5 :=
  ⟨h.1.bel ho.2.1 hg hB, ho.self, grown_bel h.2.2 ho.2.1⟩

end Go.Proofs.YtaejeemjndmjcaaDoor
/-
  The head behind a list: the program's answer; chains as plain words.
-/
namespace Go.Proofs.YtaejeemjndmjcaaDoor
open Go.RowKit Go.BigFrame Go.Sort
set_option linter.unusedVariables false
set_option linter.unusedSimpArgs false

namespace HV
def lastP (L : List Hd) : ByteArray := match L.getLast? with
  | none => ⟨#[]⟩
  | some y => hashH y
theorem lastP_nil : lastP [] = ⟨#[]⟩ := rfl
theorem lastP_at {L : List Hd} {m : Nat} (h : L.length = m + 1) : lastP L = hashH (L[m]'(by omega)) := by
  have e : L.getLast? = some (L[m]'(by omega)) := by
    rw [List.getLast?_eq_getElem?, show L.length - 1 = m by omega]
    exact List.getElem?_eq_getElem (by omega)
  unfold lastP
  rw [e]
/-- the head behind a list, right or not -/
def behind (L : List Hd) (h : Int) (r : ByteArray) : Hd := ⟨h, (L.length : Int) + 1, r, lastP L⟩
end HV

namespace HV
/-- the first m heads stand as a chain of the house h -/
def Upto (L : List Hd) (h : Int) (m : Nat) : Prop := ∀ i (hi : i < L.length), i < m → okH L[i] = true ∧ L[i] = behind (L.take i) h L[i].r
def ChOk (L : List Hd) (h : Int) : Prop := Upto L h L.length
open Classical in
noncomputable def chB (L : List Hd) (h : Int) : Bool := decide (ChOk L h)
theorem chB_iff {L : List Hd} {h : Int} : chB L h = true ↔ ChOk L h := by simp [chB]
theorem chB_no {L : List Hd} {h : Int} : chB L h = false ↔ ¬ ChOk L h := by simp [chB]
theorem Upto.zero (L : List Hd) (h : Int) : Upto L h 0 := fun i _ hi => by omega
theorem Upto.step {L : List Hd} {h : Int} {m : Nat} (hu : Upto L h m) (hm : m < L.length) (h1 : okH L[m] = true) (h2 : L[m] = behind (L.take m) h L[m].r) : Upto L h (m + 1) := by
  intro i hi hlt
  rcases Nat.lt_or_ge i m with h3 | h3
  · exact hu i hi h3
  · have : i = m := by omega
    subst this
    exact ⟨h1, h2⟩
theorem not_ok {L : List Hd} {h : Int} {m : Nat} (hm : m < L.length) (h1 : okH L[m] = false) : chB L h = false := by
  rw [chB_no]
  intro hc
  have := (hc m hm hm).1
  rw [h1] at this
  cases this
theorem not_behind {L : List Hd} {h : Int} {m : Nat} (hm : m < L.length) (h1 : L[m] ≠ behind (L.take m) h L[m].r) : chB L h = false := by
  rw [chB_no]
  exact fun hc => h1 (hc m hm hm).2
theorem all_ok {L : List Hd} {h : Int} (hu : Upto L h L.length) : chB L h = true := chB_iff.2 hu
end HV

/-- the first heads of a row -/
theorem RS.takeH {w : World} {a : Option Addr} {c g o : Nat} {l : List Hd} (h : RS 4 hcs w (.slice a l.length c) g o l) (k : Nat) (hk : k ≤ l.length) (c' : Nat) : RS 4 hcs w (.slice a k c') g o (l.take k) := by
  obtain ⟨a', c1, e, hl, h0, hc⟩ := h
  obtain ⟨rfl, rfl⟩ : a = a' ∧ c = c1 := by simpa using e
  refine ⟨a, c', by rw [List.length_take, Nat.min_eq_left hk], by rw [List.length_take]; omega, fun hp => h0 (by rw [List.length_take] at hp; omega), fun j hj => ?_⟩
  rw [List.length_take] at hj
  have := hc j (by omega)
  rw [List.getElem_take]
  exact this

theorem HV.ne_cases {a b a' b' : Int} {c d c' d' : ByteArray} (h : (⟨a, b, c, d⟩ : Hd) ≠ ⟨a', b', c', d'⟩) : ¬ a = a' ∨ (a = a' ∧ ¬ b = b') ∨ (a = a' ∧ b = b' ∧ ¬ c.toList = c'.toList) ∨ (a = a' ∧ b = b' ∧ c = c' ∧ ¬ d.toList = d'.toList) := by
  by_cases h1 : a = a'
  · by_cases h2 : b = b'
    · by_cases h3 : c = c'
      · by_cases h4 : d = d'
        · rw [h1, h2, h3, h4] at h
          exact absurd rfl h
        · exact .inr (.inr (.inr ⟨h1, h2, h3, fun e => h4 (F.toList_inj e)⟩))
      · exact .inr (.inr (.inl ⟨h1, h2, fun e => h3 (F.toList_inj e)⟩))
    · exact .inr (.inl ⟨h1, h2⟩)
  · exact .inl h1

def ChR (L : List Hd) (h : Int) (w : World) (i : Value) (wr : World) : Prop := ∃ m : Nat, m ≤ L.length ∧ i = .int .i64 m ∧ Hid (HV.Upto L h m) ∧ Below w.heap.size w wr

end Go.Proofs.YtaejeemjndmjcaaDoor
