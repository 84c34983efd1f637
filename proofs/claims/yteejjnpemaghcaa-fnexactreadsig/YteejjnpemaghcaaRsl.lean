/-
  The walk of the law FnExactReadSig: it answers true of every text.
-/
import Derived.Test.YteejjnpemaghcaaSgl
namespace Go.Proofs.Yteejjnpemaghcaa
open Go.RowKit Go.BigFrame
set_option linter.unusedVariables false

/-- block p is a signature, and its lists lie so -/
def WSg (W : World) (p : Nat) (a : Int) (v1 v2 v3 : Value) (g1 g2 g3 : Nat) (o s d : List ByteArray) : Prop := SgM W p a v1 v2 v3 ∧ TS W v1 g1 o ∧ TS W v2 g2 s ∧ TS W v3 g3 d
theorem WSg.later {W W' : World} {p : Nat} {a : Int} {v1 v2 v3 : Value} {g1 g2 g3 : Nat} {o s d : List ByteArray} (h : WSg W p a v1 v2 v3 g1 g2 g3 o s d) (hb : Below W.heap.size W W') : WSg W' p a v1 v2 v3 g1 g2 g3 o s d :=
  ⟨h.1.later hb, h.2.1.later hb, h.2.2.1.later hb, h.2.2.2.later hb⟩
theorem WSg.alloc {W : World} {p : Nat} {a : Int} {v1 v2 v3 : Value} {g1 g2 g3 : Nat} {o s d : List ByteArray} (h : WSg W p a v1 v2 v3 g1 g2 g3 o s d) (x : Obj) : WSg (W.alloc x) p a v1 v2 v3 g1 g2 g3 o s d := h.later ((Below.refl _ _).alloc (Nat.le_refl _) _)
theorem SgM.keptG3 {w w' : World} {g : Nat} {r1 r2 r3 : Option Nat} {a : Int} {v1 v2 v3 : Value} (h : SgM w g a v1 v2 v3) (hg : Grown3 w w' r1 r2 r3) (h1 : some g ≠ r1) (h2 : some g ≠ r2) (h3 : some g ≠ r3) : SgM w' g a v1 v2 v3 := by
  obtain ⟨wa, wb, ha, hb, hc⟩ := hg
  exact ((h.keptG ha h1).keptG hb h2).keptG hc h3
theorem TS.shape {w : World} {v : Value} {g : Nat} {l : List ByteArray} (h : TS w v g l) : ∃ a c, v = .slice a l.length c := by
  obtain ⟨a, c, hv, _⟩ := h
  exact ⟨a, c, hv⟩
theorem WSg.new (W : World) (a : Int) (v1 v2 v3 : Value) (g1 g2 g3 : Nat) (o s d : List ByteArray) (h1 : TS W v1 g1 o) (h2 : TS W v2 g2 s) (h3 : TS W v3 g3 d) : WSg (W.alloc (.cells #[.int .i64 a, v1, v2, v3] 28)) W.heap.size a v1 v2 v3 g1 g2 g3 o s d := by
  have hb : Below W.heap.size W (W.alloc (.cells #[.int .i64 a, v1, v2, v3] 28)) := (Below.refl _ _).alloc (Nat.le_refl _) _
  exact ⟨SgM.new W a v1 v2 v3, h1.later hb, h2.later hb, h3.later hb⟩

set_option maxRecDepth 100000 in
set_option maxHeartbeats 2000000 in
theorem readSigLaw_any (t : ByteArray) (w : World) (ht : t.size ≤ 1048576) :
    Calls Try.prog 4 #[.string t] w fun e w' => e = .returned (.bool true) ∧ Below w.heap.size w w' := by
  have HS : Hid (∀ W, Calls Try.prog 10 #[.string t] W fun e w' => ∃ v, e = .returned (.tuple #[v, .bool (rsOk t)]) ∧ SigIn w' W.heap.size v (rsA t) (rsO t) (rsS t) (rsD t) ∧ Below W.heap.size W w') := fun W => sReadSig_any t W ht
  have HI : Hid (∀ W, Calls Try.prog 11 #[.string t] W fun e w' => ∃ v, e = .returned (.tuple #[v, .bool (rsOk t)]) ∧ SigIn w' W.heap.size v (rsA t) (rsO t) (rsS t) (rsD t) ∧ Below W.heap.size W w') := fun W => ReadSig_any t W ht
  generalize rsOk t = b at *
  generalize rsA t = a at *
  generalize rsO t = O at *
  generalize rsS t = S at *
  generalize rsD t = D at *
  go_enter Try.func4, Try.ntmps4
  go_wp2_with fail
  refine (HS.out _).mono ?_
  rintro e w1 ⟨v, rfl, ⟨v1, v2, v3, g1, g2, g3, rfl, ⟨t1, t2, t3⟩, ⟨p1, p2, p3⟩, ⟨d12, d13, d23⟩⟩, hb1⟩
  obtain ⟨a1, c1, rfl⟩ := t1.shape
  obtain ⟨a2, c2, rfl⟩ := t2.shape
  obtain ⟨a3, c3, rfl⟩ := t3.shape
  have hW1 := WSg.new w1 a _ _ _ g1 g2 g3 O S D t1 t2 t3
  have b1 := hb1.alloc hb1.size (.cells #[.int .i64 a, .slice a1 O.length c1, .slice a2 S.length c2, .slice a3 D.length c3] 28)
  have HW1 : Hid (WSg (w1.alloc (.cells #[.int .i64 a, .slice a1 O.length c1, .slice a2 S.length c2, .slice a3 D.length c3] 28)) w1.heap.size a (.slice a1 O.length c1) (.slice a2 S.length c2) (.slice a3 D.length c3) g1 g2 g3 O S D ∧ Below w.heap.size w (w1.alloc (.cells #[.int .i64 a, .slice a1 O.length c1, .slice a2 S.length c2, .slice a3 D.length c3] 28)) ∧ ((0 < O.length → g1 < w1.heap.size) ∧ (0 < S.length → g2 < w1.heap.size) ∧ (0 < D.length → g3 < w1.heap.size))) := ⟨hW1, b1, t1.lt, t2.lt, t3.lt⟩
  clear hW1 b1 t1 t2 t3 hb1 HS p1 p2 p3 d12 d13 d23
  go_wp2_with fail
  refine (HI.out _).mono ?_
  rintro e w2 ⟨v, rfl, ⟨u1, u2, u3, k1, k2, k3, rfl, ⟨t1, t2, t3⟩, ⟨p1, p2, p3⟩, ⟨d12, d13, d23⟩⟩, hb2⟩
  obtain ⟨b1, e1, rfl⟩ := t1.shape
  obtain ⟨b2, e2, rfl⟩ := t2.shape
  obtain ⟨b3, e3, rfl⟩ := t3.shape
  have l1 := t1.lt
  have l2 := t2.lt
  have l3 := t3.lt
  have q1 : w1.heap.size + 1 ≤ k1 := by simpa using p1
  have q2 : w1.heap.size + 1 ≤ k2 := by simpa using p2
  have q3 : w1.heap.size + 1 ≤ k3 := by simpa using p3
  have hws : w.heap.size ≤ w1.heap.size + 1 := by have := HW1.out.2.1.size; simpa using this
  obtain ⟨m1, m2, m3⟩ := HW1.out.2.2
  have HQ : Hid ((w.heap.size ≤ k1 ∧ w.heap.size ≤ k2 ∧ w.heap.size ≤ k3) ∧ (w1.heap.size ≠ k1 ∧ w1.heap.size ≠ k2 ∧ w1.heap.size ≠ k3) ∧ (k1 ≠ k2 ∧ k1 ≠ k3 ∧ k2 ≠ k3) ∧ ((0 < O.length → w2.heap.size ≠ k1) ∧ (0 < S.length → w2.heap.size ≠ k2) ∧ (0 < D.length → w2.heap.size ≠ k3)) ∧ ((0 < O.length → g1 ≠ k1 ∧ g1 ≠ k2 ∧ g1 ≠ k3) ∧ (0 < S.length → g2 ≠ k1 ∧ g2 ≠ k2 ∧ g2 ≠ k3) ∧ (0 < D.length → g3 ≠ k1 ∧ g3 ≠ k2 ∧ g3 ≠ k3))) :=
    ⟨⟨by omega, by omega, by omega⟩, ⟨by omega, by omega, by omega⟩, ⟨d12, d13, d23⟩, ⟨fun h => by have := l1 h; omega, fun h => by have := l2 h; omega, fun h => by have := l3 h; omega⟩, ⟨fun h => by have := m1 h; exact ⟨by omega, by omega, by omega⟩, fun h => by have := m2 h; exact ⟨by omega, by omega, by omega⟩, fun h => by have := m3 h; exact ⟨by omega, by omega, by omega⟩⟩⟩
  have bb2 := HW1.out.2.1.trans (hb2.mono HW1.out.2.1.size)
  have HW2 : Hid (WSg (w2.alloc (.cells #[.int .i64 a, .slice b1 O.length e1, .slice b2 S.length e2, .slice b3 D.length e3] 28)) w1.heap.size a (.slice a1 O.length c1) (.slice a2 S.length c2) (.slice a3 D.length c3) g1 g2 g3 O S D
      ∧ WSg (w2.alloc (.cells #[.int .i64 a, .slice b1 O.length e1, .slice b2 S.length e2, .slice b3 D.length e3] 28)) w2.heap.size a (.slice b1 O.length e1) (.slice b2 S.length e2) (.slice b3 D.length e3) k1 k2 k3 O S D
      ∧ Below w.heap.size w (w2.alloc (.cells #[.int .i64 a, .slice b1 O.length e1, .slice b2 S.length e2, .slice b3 D.length e3] 28))) :=
    ⟨(HW1.out.1.later hb2).alloc _, WSg.new w2 a _ _ _ k1 k2 k3 O S D t1 t2 t3, bb2.alloc bb2.size _⟩
  clear bb2 hb2 t1 t2 t3 p1 p2 p3 d12 d13 d23 q1 q2 q3 l1 l2 l3 m1 m2 m3 hws HW1
  go_wp2_with (first | (refine wp_loadSig rfl _ rfl w2.heap.size _ _ _ _ rfl HW2.out.2.1.1 ?_) | (refine wp_loadSig rfl _ rfl w1.heap.size _ _ _ _ rfl HW2.out.1.1 ?_))
  refine (eqSig_yes a _ _ _ _ _ _ k1 0 k2 0 k3 0 g1 0 g2 0 g3 0 O S D _ HW2.out.2.1.2.1.ss HW2.out.2.1.2.2.1.ss HW2.out.2.1.2.2.2.ss HW2.out.1.2.1.ss HW2.out.1.2.2.1.ss HW2.out.1.2.2.2.ss).mono ?_
  rintro e w3 ⟨rfl, hb3⟩
  have HW3 : Hid (WSg w3 w1.heap.size a (.slice a1 O.length c1) (.slice a2 S.length c2) (.slice a3 D.length c3) g1 g2 g3 O S D ∧ WSg w3 w2.heap.size a (.slice b1 O.length e1) (.slice b2 S.length e2) (.slice b3 D.length e3) k1 k2 k3 O S D ∧ Below w.heap.size w w3) := ⟨HW2.out.1.later hb3, HW2.out.2.1.later hb3, HW2.out.2.2.trans (hb3.mono HW2.out.2.2.size)⟩
  clear hb3 HW2
  go_wp2_with (refine wp_loadSig rfl _ rfl w2.heap.size _ _ _ _ rfl HW3.out.2.1.1 ?_)
  refine (markSig_any a _ _ _ k1 k2 k3 O S D _ HW3.out.2.1.2.1 HW3.out.2.1.2.2.1 HW3.out.2.1.2.2.2 HQ.out.2.2.1.1 HQ.out.2.2.1.2.1 HQ.out.2.2.1.2.2).mono ?_
  rintro e w4 ⟨rfl, m1, m2, m3, hg4⟩
  obtain ⟨N, hN⟩ : ∃ N : Nat, 1 + O.length + S.length + D.length = N := ⟨_, rfl⟩
  have HN : Hid (1 + O.length + S.length + D.length = N) := hN
  rw [hN]
  clear hN
  have HW4 : Hid (WSg w4 w1.heap.size a (.slice a1 O.length c1) (.slice a2 S.length c2) (.slice a3 D.length c3) g1 g2 g3 O S D ∧ WSg w4 w2.heap.size a (.slice b1 O.length e1) (.slice b2 S.length e2) (.slice b3 D.length e3) k1 k2 k3 (marks 1 O.length) (marks (1 + O.length) S.length) (marks (1 + O.length + S.length) D.length) ∧ Below w.heap.size w w4) := by
    obtain ⟨⟨r1, r2, r3⟩, ⟨x1, x2, x3⟩, _, ⟨y1, y2, y3⟩, z1, z2, z3⟩ := HQ.out
    obtain ⟨⟨hs, s1, s2, s3⟩, ⟨hs', _, _, _⟩, hb⟩ := HW3.out
    refine ⟨⟨hs.keptG3 hg4 (rowOf_ne fun _ => x1) (rowOf_ne fun _ => x2) (rowOf_ne fun _ => x3), hg4.ts s1 fun h => ⟨rowOf_ne fun _ => (z1 h).1, rowOf_ne fun _ => (z1 h).2.1, rowOf_ne fun _ => (z1 h).2.2⟩, hg4.ts s2 fun h => ⟨rowOf_ne fun _ => (z2 h).1, rowOf_ne fun _ => (z2 h).2.1, rowOf_ne fun _ => (z2 h).2.2⟩, hg4.ts s3 fun h => ⟨rowOf_ne fun _ => (z3 h).1, rowOf_ne fun _ => (z3 h).2.1, rowOf_ne fun _ => (z3 h).2.2⟩⟩, ⟨hs'.keptG3 hg4 (rowOf_ne y1) (rowOf_ne y2) (rowOf_ne y3), m1, m2, m3⟩, hg4.below hb hb.size (rowOf_le r1) (rowOf_le r2) (rowOf_le r3)⟩
  clear m1 m2 m3 hg4 HW3 HQ
  go_wp2_with (refine wp_loadSig rfl _ rfl w2.heap.size _ _ _ _ rfl HW4.out.2.1.1 ?_)
  refine (heldSig_any a _ _ _ k1 k2 k3 _ _ _ _ HW4.out.2.1.2.1 HW4.out.2.1.2.2.1 HW4.out.2.1.2.2.2).mono ?_
  rintro e w5 ⟨rfl, hb5⟩
  have HW5 : Hid (WSg w5 w1.heap.size a (.slice a1 O.length c1) (.slice a2 S.length c2) (.slice a3 D.length c3) g1 g2 g3 O S D ∧ WSg w5 w2.heap.size a (.slice b1 O.length e1) (.slice b2 S.length e2) (.slice b3 D.length e3) k1 k2 k3 (marks 1 O.length) (marks (1 + O.length) S.length) (marks (1 + O.length + S.length) D.length) ∧ Below w.heap.size w w5) := ⟨HW4.out.1.later hb5, HW4.out.2.1.later hb5, HW4.out.2.2.trans (hb5.mono HW4.out.2.2.size)⟩
  rw [HN.out]
  clear hb5 HW4
  go_wp2_with fail
  refine (HI.out _).mono ?_
  rintro e w6 ⟨v, rfl, ⟨u1, u2, u3, j1, j2, j3, rfl, ⟨t1, t2, t3⟩, _, _⟩, hb6⟩
  obtain ⟨b4, e4, rfl⟩ := t1.shape
  obtain ⟨b5, e5, rfl⟩ := t2.shape
  obtain ⟨b6, e6, rfl⟩ := t3.shape
  have bb6 := HW5.out.2.2.trans (hb6.mono HW5.out.2.2.size)
  have HW6 : Hid (WSg (w6.alloc (.cells #[.int .i64 a, .slice b4 O.length e4, .slice b5 S.length e5, .slice b6 D.length e6] 28)) w1.heap.size a (.slice a1 O.length c1) (.slice a2 S.length c2) (.slice a3 D.length c3) g1 g2 g3 O S D
      ∧ WSg (w6.alloc (.cells #[.int .i64 a, .slice b4 O.length e4, .slice b5 S.length e5, .slice b6 D.length e6] 28)) w2.heap.size a (.slice b1 O.length e1) (.slice b2 S.length e2) (.slice b3 D.length e3) k1 k2 k3 (marks 1 O.length) (marks (1 + O.length) S.length) (marks (1 + O.length + S.length) D.length)
      ∧ WSg (w6.alloc (.cells #[.int .i64 a, .slice b4 O.length e4, .slice b5 S.length e5, .slice b6 D.length e6] 28)) w6.heap.size a (.slice b4 O.length e4) (.slice b5 S.length e5) (.slice b6 D.length e6) j1 j2 j3 O S D
      ∧ Below w.heap.size w (w6.alloc (.cells #[.int .i64 a, .slice b4 O.length e4, .slice b5 S.length e5, .slice b6 D.length e6] 28))) :=
    ⟨(HW5.out.1.later hb6).alloc _, (HW5.out.2.1.later hb6).alloc _, WSg.new w6 a _ _ _ j1 j2 j3 O S D t1 t2 t3, bb6.alloc bb6.size _⟩
  clear bb6 hb6 t1 t2 t3 HW5
  go_wp2_with (first | (refine wp_loadSig rfl _ rfl w6.heap.size _ _ _ _ rfl HW6.out.2.2.1.1 ?_) | (refine wp_loadSig rfl _ rfl w1.heap.size _ _ _ _ rfl HW6.out.1.1 ?_))
  refine (eqSig_yes a _ _ _ _ _ _ j1 0 j2 0 j3 0 g1 0 g2 0 g3 0 O S D _ HW6.out.2.2.1.2.1.ss HW6.out.2.2.1.2.2.1.ss HW6.out.2.2.1.2.2.2.ss HW6.out.1.2.1.ss HW6.out.1.2.2.1.ss HW6.out.1.2.2.2.ss).mono ?_
  rintro e w7 ⟨rfl, hb7⟩
  have HW7 : Hid (WSg w7 w2.heap.size a (.slice b1 O.length e1) (.slice b2 S.length e2) (.slice b3 D.length e3) k1 k2 k3 (marks 1 O.length) (marks (1 + O.length) S.length) (marks (1 + O.length + S.length) D.length) ∧ Below w.heap.size w w7) := ⟨HW6.out.2.1.later hb7, HW6.out.2.2.2.trans (hb7.mono HW6.out.2.2.2.size)⟩
  clear hb7 HW6
  go_wp2_with (refine wp_loadSig rfl _ rfl w2.heap.size _ _ _ _ rfl HW7.out.1.1 ?_)
  refine (heldSig_any a _ _ _ k1 k2 k3 _ _ _ _ HW7.out.1.2.1 HW7.out.1.2.2.1 HW7.out.1.2.2.2).mono ?_
  rintro e w8 ⟨rfl, hb8⟩
  rw [HN.out]
  go_wp2
  go_ret
  exact ⟨rfl, HW7.out.2.trans (hb8.mono HW7.out.2.size)⟩

end Go.Proofs.Yteejjnpemaghcaa
