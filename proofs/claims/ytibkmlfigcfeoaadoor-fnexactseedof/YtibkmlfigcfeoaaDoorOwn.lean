/-
  Laws on a slice of bytes that the call itself has made: appending to it, and making a string of it.
-/
import Derived.Test.YtibkmlfigcfeoaaDoorRows
import Derived.WalkKit
import Derived.Test.YtibkmlfigcfeoaaDoorMath
namespace Go.Proofs.YtibkmlfigcfeoaaDoor
open Go.RowKit

def bv (l : List UInt8) : List Value := l.map (fun b => Value.int .u8 (b.toNat : Int))

theorem bv_length (l : List UInt8) : (bv l).length = l.length := by simp [bv]
theorem bv_append (l r : List UInt8) : bv (l ++ r) = bv l ++ bv r := by simp [bv]
theorem bv_get (l : List UInt8) (j : Nat) (u : Value) (h : (bv l)[j]? = some u) : ∃ hj : j < l.length, u = .int .u8 (l[j].toNat : Int) := by
  unfold bv at h
  rw [List.getElem?_map] at h
  cases hl : l[j]? with
  | none => rw [hl] at h; simp at h
  | some b =>
    rw [hl] at h
    obtain ⟨hj, hb⟩ := List.getElem?_eq_some_iff.1 hl
    simp at h
    exact ⟨hj, by rw [hb]; exact h.symm⟩

theorem Tryd.info5 : (Tryd.prog.info? 5).map (fun i => (i.zero, i.size, i.bytes)) = some (some (.int .u8 0), 1, 1) := by kernel_rfl
theorem Tryd.info3 : (Tryd.prog.info? 3).map (fun i => (i.zero, i.size, i.bytes)) = some (some (.int .i64 0), 1, 8) := by kernel_rfl

/-- v owns the bytes l, in blocks from B on; below B all is as it was in w0 -/
def OB (B : Nat) (w0 w : World) (v : Value) (l : List UInt8) : Prop :=
  w.ownsRow B 5 1 v l.length (bv l) ∧ Below B w0 w ∧ B ≤ w.heap.size

theorem OB.alloc {B : Nat} {w0 w : World} {v : Value} {l : List UInt8} (h : OB B w0 w v l) (o : Obj) : OB B w0 (w.alloc o) v l :=
  ⟨h.1.alloc o, h.2.1.alloc h.2.2 o, by have := h.2.2; simp; omega⟩
theorem OB.drew {B : Nat} {w0 w : World} {v : Value} {l : List UInt8} (h : OB B w0 w v l) : OB B w0 w.drew v l :=
  ⟨h.1.drew, h.2.1.drew, h.2.2⟩

theorem OB.nil (w : World) : OB w.heap.size w w (.slice none 0 0) [] :=
  ⟨World.ownsRow_nil _ _ _ _, Below.refl _ _, Nat.le_refl _⟩

theorem OB.made (w : World) : OB w.heap.size w (w.alloc (.cells #[] 5)) (.slice (some ⟨w.heap.size, 0, none⟩) 0 0) [] :=
  ⟨World.ownsRow_made w #[] 0 (Nat.le_refl _) (by decide) (by simp), (Below.refl _ _).alloc (Nat.le_refl _) _, by simp⟩

theorem wp_app {w : World} {ops : Array Oper} {rest : List Oper} {o : Oper} {a : Act} {Q : Exit → Act → World → Prop} (hgd : o.guard = none) (s x : Operand)
    (ho : o.op = .call { callee := .builtin .append, args := #[s, x], argTypes := #[26, 26] })
    (B : Nat) (w0 : World) (v : Value) (l : List UInt8) (hs : a.eval s = v) (hown : OB B w0 w v l)
    (ad : Addr) (m c : Nat) (news : List UInt8) (hx : a.eval x = .slice (some ad) m c) (hm : news.length = m)
    (hnews : ∀ j u, (bv news)[j]? = some u → w.cell? (ad.add j) = some u) (hlen : l.length + m ≤ 1000000000)
    (h : ∀ v' w', OB B w0 w' v' (l ++ news) → wpList Tryd.prog ops Q rest (a.put o.dst v') w') : wpList Tryd.prog ops Q (o :: rest) a w := by
  obtain ⟨i0, hi, hz0, hz1, hz2⟩ := info_parts Tryd.info5
  refine wpList_append_own _ hgd s x 26 ho B 5 i0 (.int .u8 0) 1 1 Tryd.underlying26 hi hz0 hz1 hz2 rfl (by decide) v l.length (bv l) hs hown.1 ad m c (bv news) hx (by simp [bv, hm]) hnews
    (fun u hu => by simp [bv] at hu; obtain ⟨b, _, rfl⟩ := hu; rfl) (by unfold maxLen; omega) (by omega) hown.2.2 ?_
  intro v' w' h1 h2 _
  refine h v' w' ⟨by rw [List.length_append, bv_append, hm]; exact h1, hown.2.1.grown h2 hown.2.2 (fun k hk => (hown.1.lt k hk).1), ?_⟩
  exact Nat.le_trans hown.2.2 h2.size

/-- 'string(b)' of a slice that the call owns -/
theorem run_str {B : Nat} {w0 w : World} {v : Value} {l : List UInt8} (h : OB B w0 w v l) : (convert 26 9 v).run Tryd.prog w = .ok (.string ⟨l.toArray⟩) w := by
  rcases h.1.2 with ⟨rfl, hn⟩ | ⟨g, cap, cur, rfl, hb, hgg, hnc, hcm, hsz, htake⟩
  · have : l = [] := by simpa using hn
    subst this
    rw [run_convert_bytes_string w 26 9 5 none 0 0 Tryd.underlying26 Tryd.underlying5 Tryd.underlying9]
    unfold Conv.bytesToString
    rfl
  · refine run_convert_bytes_back w 26 9 5 ⟨g, 0, none⟩ cap l Tryd.underlying26 Tryd.underlying5 Tryd.underlying9 ?_
    intro j hj
    refine h.1.cells (g := g) rfl j _ ?_
    simp [bv, List.getElem?_eq_getElem hj]

end Go.Proofs.YtibkmlfigcfeoaaDoor
