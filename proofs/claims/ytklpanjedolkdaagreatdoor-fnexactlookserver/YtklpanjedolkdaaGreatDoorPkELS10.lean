/-
  Texts laid together: La, Cs, Lc.
-/
import Derived.Test.YtklpanjedolkdaaGreatDoorPkELS9
import Derived.Deep.AppendLies
import Derived.Deep.RegionLaw
import Derived.Shelf.Small.Strs
import Derived.Test.YtklpanjedolkdaaGreatDoorProg
import Derived.Test.YtklpanjedolkdaaGreatDoorPkELS4
import Derived.Lib.QuietBelow
/-
  Rows of leaves that a call owns, grown leaf by leaf.
-/
namespace Go.Proofs.YtklpanjedolkdaaGreatDoor
open Go.RowKit Go.BigFrame Go.Sort
set_option linter.unusedVariables false
set_option linter.unusedSimpArgs false

/-- v owns the leaves l -/
def OL (B : Nat) (w0 w : World) (v : Value) (l : List Le) : Prop := OR 109 2 lcs B w0 w v l
theorem OL.later {B : Nat} {w0 w w' : World} {v : Value} {l : List Le} (h : OL B w0 w v l) (hb : Below w.heap.size w w') : OL B w0 w' v l := OR.later h hb
theorem OL.grown {B : Nat} {w0 w w' : World} {v : Value} {l : List Le} {row : Option Nat} (h : OL B w0 w v l) (hg : w.grownBy w' row) (hne : ∀ q, row = some q → B ≤ q ∧ v.ownBlock ≠ some q) : OL B w0 w' v l := OR.grown h hg hne
theorem OL.rw {B : Nat} {w0 w : World} {v : Value} {l : List Le} (h : OL B w0 w v l) (hl : l.length ≤ 1100000) : ∃ g, RW 2 lcs w v g l ∧ B ≤ g ∧ (∀ q, v.ownBlock = some q → q = g) := OR.rw (k := 2) (enc := lcs) (fun x => lcs_len x) (by omega) h hl
theorem OL.shape {B : Nat} {w0 w : World} {v : Value} {l : List Le} (h : OL B w0 w v l) : ∃ a c, v = .slice a l.length c := by
  rcases h.1.2 with ⟨hv, hn⟩ | ⟨g, cap, cur, hv, _⟩
  · exact ⟨none, 0, by rw [hv, hn]⟩
  · exact ⟨_, _, hv⟩
theorem OL.made (B : Nat) (w0 w : World) (hb : Below B w0 w) (hB : B ≤ w.heap.size) : OL B w0 (w.alloc (.cells #[] 109)) (.slice (some ⟨w.heap.size, 0, none⟩) 0 0) [] :=
  ⟨World.ownsRow_made w #[] 0 hB (by decide) (by simp), hb.alloc hB _, by simp; omega⟩
/-- its block is none of another type -/
theorem OL.ne {B : Nat} {w0 w : World} {u : Value} {l : List Le} {p T : Nat} {cs : Array Value} {fz : Nat × Nat} (h : OL B w0 w u l) (hb : w.heap[p]? = some (.cells cs T fz)) (hT : T ≠ 109) : u.ownBlock ≠ some p := by
  rcases h.1.2 with ⟨hv, _⟩ | ⟨g, cap, cur, hv, _, hg, _⟩
  · rw [hv]; simp [Value.ownBlock]
  · rw [hv]
    intro e
    have : g = p := by simpa [Value.ownBlock] using e
    subst this
    rw [hg] at hb
    simp at hb
    exact hT hb.2.1.symm

section
variable {w : World} {ops : Array Oper} {o : Oper} {a : Act} {K : Act → World → Prop} {Q : Exit → Act → World → Prop}
/-- a leaf appended, as one step of a region that draws its order -/
theorem step_leaf {E : Prop} (hgd : o.guard = none) (s x : Operand)
    (ho : o.op = .call { callee := .builtin .append, args := #[s, x], argTypes := #[52, 52] })
    (B : Nat) (w0 : World) (u : Value) (l : List Le) (f : Le) (hs : a.eval s = u) (h : OL B w0 w u l) (p : Nat) (hx : a.eval x = .slice (some ⟨p, 0, none⟩) 1 1)
    (hnews : w.rangeAt p 0 (lcs f)) (hlen : l.length + 1 ≤ 1000000)
    (hk : ∀ g cap w', OL B w0 w' (.slice (some ⟨g, 0, none⟩) (l.length + 1) cap) (l ++ [f]) → w.grownBy w' u.ownBlock → K (a.put o.dst (.slice (some ⟨g, 0, none⟩) (l.length + 1) cap)) w') : if Region.wanted o (yielded ops a.tmps) = true then Oper.wp Tryz.prog o a w K Q else E := by
  obtain ⟨i0, hi, hz0, hz1, hz2⟩ := info_parts Tryz.infoLeaf
  refine step_append_lies w hgd s x 52 ho B 109 i0 _ 2 32 Tryz.underlying52 hi hz0 hz1 hz2 rfl (by decide) u l.length (l.flatMap lcs) hs h.1 ⟨p, 0, none⟩ 1 1 (lcs f) hx rfl ?_
    (fun u hu => by simp [lcs] at hu; rcases hu with rfl | rfl <;> rfl) (by omega) (by unfold maxLen; omega) (by omega) h.2.2 w.heap.size rfl ?_
  · intro j u hj
    have := hnews j u hj
    rw [Addr.add_mid]
    exact this
  · intro g cap w' h1 h2 h3 _
    exact hk _ _ _ ⟨by rw [List.flatMap_append, List.flatMap_singleton, List.length_append]; exact h1, h.2.1.grown h2 h.2.2 (fun k hk => (h.1.lt k hk).1), Nat.le_trans h.2.2 h2.size⟩ h2
/-- .. and in a plain region -/
theorem wp_leaf {rest : List Oper} (hgd : o.guard = none) (s x : Operand)
    (ho : o.op = .call { callee := .builtin .append, args := #[s, x], argTypes := #[52, 52] })
    (B : Nat) (w0 : World) (u : Value) (l : List Le) (f : Le) (hs : a.eval s = u) (h : OL B w0 w u l) (p : Nat) (hx : a.eval x = .slice (some ⟨p, 0, none⟩) 1 1)
    (hnews : w.rangeAt p 0 (lcs f)) (hlen : l.length + 1 ≤ 1000000)
    (hk : ∀ g cap w', OL B w0 w' (.slice (some ⟨g, 0, none⟩) (l.length + 1) cap) (l ++ [f]) → w.grownBy w' u.ownBlock → wpList Tryz.prog ops Q rest (a.put o.dst (.slice (some ⟨g, 0, none⟩) (l.length + 1) cap)) w') : wpList Tryz.prog ops Q (o :: rest) a w := by
  obtain ⟨i0, hi, hz0, hz1, hz2⟩ := info_parts Tryz.infoLeaf
  refine wpList_append_lies w hgd s x 52 ho B 109 i0 _ 2 32 Tryz.underlying52 hi hz0 hz1 hz2 rfl (by decide) u l.length (l.flatMap lcs) hs h.1 ⟨p, 0, none⟩ 1 1 (lcs f) hx rfl ?_
    (fun u hu => by simp [lcs] at hu; rcases hu with rfl | rfl <;> rfl) (by omega) (by unfold maxLen; omega) (by omega) h.2.2 w.heap.size rfl ?_
  · intro j u hj
    have := hnews j u hj
    rw [Addr.add_mid]
    exact this
  · intro g cap w' h1 h2 h3 _
    exact hk _ _ _ ⟨by rw [List.flatMap_append, List.flatMap_singleton, List.length_append]; exact h1, h.2.1.grown h2 h.2.2 (fun k hk => (h.1.lt k hk).1), Nat.le_trans h.2.2 h2.size⟩ h2
end

end Go.Proofs.YtklpanjedolkdaaGreatDoor
/-
  The library's own contract on strings.Compare, laid at this program: a table of numbers and one theorem.
-/
namespace Go.Proofs
open Go.Shelf
def Tryz.cmpStr_ren : Go.Shelf.Ren := ⟨fun | 106 => 190 | 213 => 219 | 265 => 231 | n => n, fun | 9 => 9 | 3 => 3 | n => n, fun | n => n⟩
theorem Tryz.cmpStr : Go.Proofs.Lays.n106 Tryz.prog Tryz.cmpStr_ren := {
  mixed := by kernel_rfl
  f106 := Tryz.func190.trans (congrArg some (by kernel_rfl))
  f213 := Tryz.func219.trans (congrArg some (by kernel_rfl))
  f265 := Tryz.func231.trans (congrArg some (by kernel_rfl))
  t3 := Tryz.underlying3
  a3 := Tryz.isAgg3
  z3 := Tryz.sizeOf3
  v3 := Tryz.zeroValue3
  t9 := Tryz.underlying9
  a9 := Tryz.isAgg9
  z9 := Tryz.sizeOf9
  v9 := Tryz.zeroValue9 }
end Go.Proofs
/-
  Two names compared; one leaf looked at, and copied.
-/
namespace Go.Proofs.YtklpanjedolkdaaGreatDoor
open Go.RowKit Go.BigFrame Go.Sort Go.Shelf
set_option linter.unusedVariables false
set_option linter.unusedSimpArgs false

namespace LV
theorem cmp_lt : ∀ (x y : List UInt8), Lib.compareBytes x y < 0 ↔ x < y
  | [], [] => by simp [Lib.compareBytes]
  | [], b :: y => by simp [Lib.compareBytes]
  | a :: x, [] => by simp [Lib.compareBytes]
  | a :: x, b :: y => by
    rw [Lib.compareBytes, List.cons_lt_cons_iff]
    by_cases h1 : a < b
    · simp [h1]
    · by_cases h2 : b < a
      · have h3 : a ≠ b := fun e => by subst e; exact h1 h2
        simp [h1, h2, h3]
      · have h3 : a = b := by
          have : a.toNat = b.toNat := by
            rw [UInt8.lt_iff_toNat_lt] at h1 h2
            omega
          exact UInt8.toNat_inj.1 this
        subst h3
        simp [h1, cmp_lt x y]
/-- how two names compare -/
def cmpN (a b : ByteArray) : Int := Lib.compareBytes a.data.toList b.data.toList
theorem cmpN_lt (a b : ByteArray) : cmpN a b < 0 ↔ F.ltN a b = true := by
  rw [F.ltN_eq, decide_eq_true_eq, F.toList_data, F.toList_data]
  exact cmp_lt _ _
theorem cmpN_ge (a b : ByteArray) : 0 ≤ cmpN a b ↔ F.ltN a b = false := by
  have := cmpN_lt a b
  cases h : F.ltN a b
  · rw [h] at this
    constructor
    · intro _; rfl
    · intro _
      rcases Int.lt_or_le (cmpN a b) 0 with h1 | h1
      · exact absurd (this.1 h1) (by simp)
      · exact h1
  · rw [h] at this
    have := this.2 rfl
    constructor
    · intro h1; omega
    · intro h1; cases h1
end LV

theorem Compare_any (a b : ByteArray) (w : World) : Calls Tryz.prog 190 #[.string a, .string b] w fun e w' => e = .returned (.int .i64 (LV.cmpN a b)) ∧ w' = w := by
  have h := Any.strings_Compare Tryz.cmpStr a b w
  exact h

set_option maxHeartbeats 400000 in
/-- two blocks are laid: the leaves' boxes -/
theorem compareNames_grow (a b : Le) (W : World) : Calls Tryz.prog 155 #[.agg #[.string a.n, .string a.v], .agg #[.string b.n, .string b.v]] W fun e w' => e = .returned (.int .i64 (LV.cmpN a.n b.n)) ∧ ∃ q os', w' = grow (W.drewN q) os' := by
  obtain ⟨an, av⟩ := a
  obtain ⟨bn, bv⟩ := b
  have hcon := fun W' => Compare_any an bn W'
  simp only
  generalize LV.cmpN an bn = r at hcon ⊢
  go_enter Tryz.func155, Tryz.ntmps155
  go_wp2_with (go_at_call 190; refine (hcon _).mono ?_; rintro e w' ⟨rfl, rfl⟩)
  go_ret
  exact ⟨rfl, 0, _, by rw [alloc_eq_grow, alloc_eq_grow, grow_grow]; rfl⟩
theorem below_grow (W : World) (q : Nat) (os : Array Obj) : RowKit.Below W.heap.size W (grow (W.drewN q) os) := by
  have h : RowKit.Below W.heap.size W (W.drewN q) := ⟨rfl, rfl, rfl, Nat.le_refl _, fun _ _ => rfl⟩
  exact h.trans (below_regrown (W.drewN q) _ os)
theorem compareNames_any (a b : Le) (W : World) : Calls Tryz.prog 155 #[.agg #[.string a.n, .string a.v], .agg #[.string b.n, .string b.v]] W fun e w' => e = .returned (.int .i64 (LV.cmpN a.n b.n)) ∧ Below W.heap.size W w' :=
  (compareNames_grow a b W).mono fun e w' ⟨he, q, os, hw⟩ => ⟨he, hw ▸ below_grow W q os⟩

set_option maxHeartbeats 400000 in
theorem leafOk_any (f : Le) (w : World) (hn : f.n.size ≤ 1048576) (hv : f.v.size ≤ 1048576) : Calls Tryz.prog 154 #[.agg #[.string f.n, .string f.v]] w fun e w' => e = .returned (.bool (LV.leB f)) ∧ Below w.heap.size w w' := by
  obtain ⟨x, t⟩ := f
  have HB : Hid (Below w.heap.size w (w.alloc (.cells #[.string x, .string t] 109))) := (Below.refl _ _).alloc (Nat.le_refl _) _
  obtain ⟨b, hb⟩ : ∃ b, okB nameB x = b := ⟨_, rfl⟩
  obtain ⟨b2, hb2⟩ : ∃ b2, okB valB t = b2 := ⟨_, rfl⟩
  have HN : Hid (∀ W, Calls Tryz.prog 116 #[.string x] W fun e w' => e = .returned (.bool b) ∧ w' = W) := fun W => hb ▸ NameOk_any x W hn
  have HV : Hid (∀ W, Calls Tryz.prog 189 #[.string t] W fun e w' => e = .returned (.bool b2) ∧ w' = W) := fun W => hb2 ▸ ValueOk_any t W hv
  have HF : Hid (LV.leB ⟨x, t⟩ = (b && b2)) := by rw [← hb, ← hb2]; rfl
  rw [HF.out]
  clear HF hb hb2 hn hv
  go_enter Tryz.func154, Tryz.ntmps154
  go_wp2_with fail
  refine (HN.out _).mono ?_
  rintro e w1 ⟨rfl, rfl⟩
  clear HN
  cases b
  · go_wp2
    go_ret
    exact ⟨rfl, HB.out⟩
  · go_wp2_with fail
    refine (HV.out _).mono ?_
    rintro e w1 ⟨rfl, rfl⟩
    go_wp2
    go_ret
    exact ⟨rfl, HB.out⟩

end Go.Proofs.YtklpanjedolkdaaGreatDoor
