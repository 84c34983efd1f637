/-
  The walk of the law FnExactReadSeal: it answers true of every text.
-/
import Derived.Test.YtmfoliocibjdnaaXg
import Derived.Test.YtmfoliocibjdnaaXf
namespace Go.Proofs.Ytmfoliocibjdnaa
open Go.RowKit Go.BigFrame Go.Sort
set_option linter.unusedVariables false
set_option linter.unusedSimpArgs false

set_option maxRecDepth 100000 in
set_option maxHeartbeats 2000000 in
theorem readSealLaw_any (t : ByteArray) (w : World) (ht : t.size ≤ 1048576) :
    Calls Try.prog 6 #[.string t] w fun e w' => e = .returned (.bool true) ∧ Below w.heap.size w w' := by
  have HS : Hid (∀ W, Calls Try.prog 16 #[.string t] W fun e w' => ∃ v1 v2 v3 g1 g2 g3, e = .returned (.tuple #[.agg #[.int .i64 (rlH t).h, .int .i64 (rlH t).e, .string (rlH t).r, .string (rlH t).p, .int .i64 (rlA t), v1, v2, v3], .bool (rlOk t)]) ∧ (TS w' v1 g1 (rlO t) ∧ TS w' v2 g2 (rlS t) ∧ TS w' v3 g3 (rlD t)) ∧ (W.heap.size ≤ g1 ∧ W.heap.size ≤ g2 ∧ W.heap.size ≤ g3) ∧ (g1 ≠ g2 ∧ g1 ≠ g3 ∧ g2 ≠ g3) ∧ Below W.heap.size W w') := fun W => by
    refine (sReadSeal_any t W ht).mono ?_
    rintro e w' ⟨v, rfl, hv, hb⟩
    obtain ⟨v1, v2, v3, g1, g2, g3, rfl, ht, hB, hn⟩ := hv.out
    exact ⟨v1, v2, v3, g1, g2, g3, rfl, ht, hB, hn, hb⟩
  have HI : Hid (∀ W, Calls Try.prog 17 #[.string t] W fun e w' => ∃ v1 v2 v3 g1 g2 g3, e = .returned (.tuple #[.agg #[.int .i64 (rlH t).h, .int .i64 (rlH t).e, .string (rlH t).r, .string (rlH t).p, .int .i64 (rlA t), v1, v2, v3], .bool (rlOk t)]) ∧ (TS w' v1 g1 (rlO t) ∧ TS w' v2 g2 (rlS t) ∧ TS w' v3 g3 (rlD t)) ∧ (W.heap.size ≤ g1 ∧ W.heap.size ≤ g2 ∧ W.heap.size ≤ g3) ∧ (g1 ≠ g2 ∧ g1 ≠ g3 ∧ g2 ≠ g3) ∧ Below W.heap.size W w') := fun W => by
    refine (ReadSeal_any t W ht).mono ?_
    rintro e w' ⟨v, rfl, hv, hb⟩
    obtain ⟨v1, v2, v3, g1, g2, g3, rfl, ht, hB, hn⟩ := hv.out
    exact ⟨v1, v2, v3, g1, g2, g3, rfl, ht, hB, hn, hb⟩
  generalize rlOk t = b at *
  generalize rlA t = a at *
  generalize rlO t = O at *
  generalize rlS t = S at *
  generalize rlD t = D at *
  generalize rlH t = X at *
  obtain ⟨h, e, r, p⟩ := X
  simp only at HS HI
  go_enter Try.func6, Try.ntmps6
  go_wp2_with fail
  refine (HS.out _).mono ?_
  rintro ee1 w1 ⟨v1, v2, v3, g1, g2, g3, rfl, ⟨t1, t2, t3⟩, ⟨p1, p2, p3⟩, ⟨d12, d13, d23⟩, hb1⟩
  obtain ⟨a1, c1, rfl⟩ := t1.shape
  obtain ⟨a2, c2, rfl⟩ := t2.shape
  obtain ⟨a3, c3, rfl⟩ := t3.shape
  have hW1 := WSl.new w1 ⟨h, e, r, p⟩ a _ _ _ g1 g2 g3 O S D t1 t2 t3
  have b1 := hb1.alloc hb1.size (.cells #[.int .i64 h, .int .i64 e, .string r, .string p, .int .i64 a, .slice a1 O.length c1, .slice a2 S.length c2, .slice a3 D.length c3] 39)
  have HW1 : Hid (WSl (w1.alloc (.cells #[.int .i64 h, .int .i64 e, .string r, .string p, .int .i64 a, .slice a1 O.length c1, .slice a2 S.length c2, .slice a3 D.length c3] 39)) w1.heap.size ⟨h, e, r, p⟩ a (.slice a1 O.length c1) (.slice a2 S.length c2) (.slice a3 D.length c3) g1 g2 g3 O S D ∧ Below w.heap.size w (w1.alloc (.cells #[.int .i64 h, .int .i64 e, .string r, .string p, .int .i64 a, .slice a1 O.length c1, .slice a2 S.length c2, .slice a3 D.length c3] 39)) ∧ ((0 < O.length → g1 < w1.heap.size) ∧ (0 < S.length → g2 < w1.heap.size) ∧ (0 < D.length → g3 < w1.heap.size))) := ⟨hW1, b1, t1.lt, t2.lt, t3.lt⟩
  clear hW1 b1 t1 t2 t3 hb1 HS p1 p2 p3 d12 d13 d23
  go_wp2_with fail
  refine (HI.out _).mono ?_
  rintro ee2 w2 ⟨u1, u2, u3, k1, k2, k3, rfl, ⟨t1, t2, t3⟩, ⟨p1, p2, p3⟩, ⟨d12, d13, d23⟩, hb2⟩
  obtain ⟨b1, e1, rfl⟩ := t1.shape
  obtain ⟨b2, e2, rfl⟩ := t2.shape
  obtain ⟨b3, e3, rfl⟩ := t3.shape
  have l1 := t1.lt
  have l2 := t2.lt
  have l3 := t3.lt
  have q1 : w1.heap.size + 1 ≤ k1 := by simpa using p1
  have q2 : w1.heap.size + 1 ≤ k2 := by simpa using p2
  have q3 : w1.heap.size + 1 ≤ k3 := by simpa using p3
  have hws : w.heap.size ≤ w1.heap.size + 1 := by have := HW1.out.2.1.size; simpa using this
  obtain ⟨m1, m2, m3⟩ := HW1.out.2.2
  have HQ : Hid ((w.heap.size ≤ k1 ∧ w.heap.size ≤ k2 ∧ w.heap.size ≤ k3) ∧ (w1.heap.size ≠ k1 ∧ w1.heap.size ≠ k2 ∧ w1.heap.size ≠ k3) ∧ (k1 ≠ k2 ∧ k1 ≠ k3 ∧ k2 ≠ k3) ∧ ((0 < O.length → w2.heap.size ≠ k1) ∧ (0 < S.length → w2.heap.size ≠ k2) ∧ (0 < D.length → w2.heap.size ≠ k3)) ∧ ((0 < O.length → g1 ≠ k1 ∧ g1 ≠ k2 ∧ g1 ≠ k3) ∧ (0 < S.length → g2 ≠ k1 ∧ g2 ≠ k2 ∧ g2 ≠ k3) ∧ (0 < D.length → g3 ≠ k1 ∧ g3 ≠ k2 ∧ g3 ≠ k3))) :=
    ⟨⟨by omega, by omega, by omega⟩, ⟨by omega, by omega, by omega⟩, ⟨d12, d13, d23⟩, ⟨fun h => by have := l1 h; omega, fun h => by have := l2 h; omega, fun h => by have := l3 h; omega⟩, ⟨fun h => by have := m1 h; exact ⟨by omega, by omega, by omega⟩, fun h => by have := m2 h; exact ⟨by omega, by omega, by omega⟩, fun h => by have := m3 h; exact ⟨by omega, by omega, by omega⟩⟩⟩
  have bb2 := HW1.out.2.1.trans (hb2.mono HW1.out.2.1.size)
  have HW2 : Hid (WSl (w2.alloc (.cells #[.int .i64 h, .int .i64 e, .string r, .string p, .int .i64 a, .slice b1 O.length e1, .slice b2 S.length e2, .slice b3 D.length e3] 39)) w1.heap.size ⟨h, e, r, p⟩ a (.slice a1 O.length c1) (.slice a2 S.length c2) (.slice a3 D.length c3) g1 g2 g3 O S D
      ∧ WSl (w2.alloc (.cells #[.int .i64 h, .int .i64 e, .string r, .string p, .int .i64 a, .slice b1 O.length e1, .slice b2 S.length e2, .slice b3 D.length e3] 39)) w2.heap.size ⟨h, e, r, p⟩ a (.slice b1 O.length e1) (.slice b2 S.length e2) (.slice b3 D.length e3) k1 k2 k3 O S D
      ∧ Below w.heap.size w (w2.alloc (.cells #[.int .i64 h, .int .i64 e, .string r, .string p, .int .i64 a, .slice b1 O.length e1, .slice b2 S.length e2, .slice b3 D.length e3] 39))) :=
    ⟨(HW1.out.1.later hb2).alloc _, WSl.new w2 ⟨h, e, r, p⟩ a _ _ _ k1 k2 k3 O S D t1 t2 t3, bb2.alloc bb2.size _⟩
  clear bb2 hb2 t1 t2 t3 p1 p2 p3 d12 d13 d23 q1 q2 q3 l1 l2 l3 m1 m2 m3 hws HW1
  go_wp2_with (first | (refine wp_loadSl rfl _ rfl w2.heap.size ⟨h, e, r, p⟩ _ _ _ _ rfl HW2.out.2.1.1 ?_) | (refine wp_loadSl rfl _ rfl w1.heap.size ⟨h, e, r, p⟩ _ _ _ _ rfl HW2.out.1.1 ?_))
  refine (eqSeal_yes ⟨h, e, r, p⟩ a _ _ _ _ _ _ k1 0 k2 0 k3 0 g1 0 g2 0 g3 0 O S D _ HW2.out.2.1.2.1.ss HW2.out.2.1.2.2.1.ss HW2.out.2.1.2.2.2.ss HW2.out.1.2.1.ss HW2.out.1.2.2.1.ss HW2.out.1.2.2.2.ss).mono ?_
  rintro ee3 w3 ⟨rfl, hb3⟩
  have HW3 : Hid (WSl w3 w1.heap.size ⟨h, e, r, p⟩ a (.slice a1 O.length c1) (.slice a2 S.length c2) (.slice a3 D.length c3) g1 g2 g3 O S D ∧ WSl w3 w2.heap.size ⟨h, e, r, p⟩ a (.slice b1 O.length e1) (.slice b2 S.length e2) (.slice b3 D.length e3) k1 k2 k3 O S D ∧ Below w.heap.size w w3) := ⟨HW2.out.1.later hb3, HW2.out.2.1.later hb3, HW2.out.2.2.trans (hb3.mono HW2.out.2.2.size)⟩
  clear hb3 HW2
  go_wp2_with (refine wp_loadSl rfl _ rfl w2.heap.size ⟨h, e, r, p⟩ _ _ _ _ rfl HW3.out.2.1.1 ?_)
  refine (markSeal_any ⟨h, e, r, p⟩ a _ _ _ k1 k2 k3 O S D _ HW3.out.2.1.2.1 HW3.out.2.1.2.2.1 HW3.out.2.1.2.2.2 HQ.out.2.2.1.1 HQ.out.2.2.1.2.1 HQ.out.2.2.1.2.2).mono ?_
  rintro ee4 w4 ⟨rfl, m1, m2, m3, hg4⟩
  obtain ⟨N, hN⟩ : ∃ N : Nat, 1 + O.length + S.length + D.length = N := ⟨_, rfl⟩
  have HN : Hid (1 + O.length + S.length + D.length = N) := hN
  rw [hN]
  clear hN
  have HW4 : Hid (WSl w4 w1.heap.size ⟨h, e, r, p⟩ a (.slice a1 O.length c1) (.slice a2 S.length c2) (.slice a3 D.length c3) g1 g2 g3 O S D ∧ WSl w4 w2.heap.size ⟨h, e, r, p⟩ a (.slice b1 O.length e1) (.slice b2 S.length e2) (.slice b3 D.length e3) k1 k2 k3 (marks 1 O.length) (marks (1 + O.length) S.length) (marks (1 + O.length + S.length) D.length) ∧ Below w.heap.size w w4) := by
    obtain ⟨⟨r1, r2, r3⟩, ⟨x1, x2, x3⟩, _, ⟨y1, y2, y3⟩, z1, z2, z3⟩ := HQ.out
    obtain ⟨⟨hs, s1, s2, s3⟩, ⟨hs', _, _, _⟩, hb⟩ := HW3.out
    refine ⟨⟨hs.keptG3 hg4 (rowOf_ne fun _ => x1) (rowOf_ne fun _ => x2) (rowOf_ne fun _ => x3), hg4.ts s1 fun h => ⟨rowOf_ne fun _ => (z1 h).1, rowOf_ne fun _ => (z1 h).2.1, rowOf_ne fun _ => (z1 h).2.2⟩, hg4.ts s2 fun h => ⟨rowOf_ne fun _ => (z2 h).1, rowOf_ne fun _ => (z2 h).2.1, rowOf_ne fun _ => (z2 h).2.2⟩, hg4.ts s3 fun h => ⟨rowOf_ne fun _ => (z3 h).1, rowOf_ne fun _ => (z3 h).2.1, rowOf_ne fun _ => (z3 h).2.2⟩⟩, ⟨hs'.keptG3 hg4 (rowOf_ne y1) (rowOf_ne y2) (rowOf_ne y3), m1, m2, m3⟩, hg4.below hb hb.size (rowOf_le r1) (rowOf_le r2) (rowOf_le r3)⟩
  clear m1 m2 m3 hg4 HW3 HQ
  go_wp2_with (refine wp_loadSl rfl _ rfl w2.heap.size ⟨h, e, r, p⟩ _ _ _ _ rfl HW4.out.2.1.1 ?_)
  refine (heldSeal_any ⟨h, e, r, p⟩ a _ _ _ k1 k2 k3 _ _ _ _ HW4.out.2.1.2.1 HW4.out.2.1.2.2.1 HW4.out.2.1.2.2.2).mono ?_
  rintro ee5 w5 ⟨rfl, hb5⟩
  have HW5 : Hid (WSl w5 w1.heap.size ⟨h, e, r, p⟩ a (.slice a1 O.length c1) (.slice a2 S.length c2) (.slice a3 D.length c3) g1 g2 g3 O S D ∧ WSl w5 w2.heap.size ⟨h, e, r, p⟩ a (.slice b1 O.length e1) (.slice b2 S.length e2) (.slice b3 D.length e3) k1 k2 k3 (marks 1 O.length) (marks (1 + O.length) S.length) (marks (1 + O.length + S.length) D.length) ∧ Below w.heap.size w w5) := ⟨HW4.out.1.later hb5, HW4.out.2.1.later hb5, HW4.out.2.2.trans (hb5.mono HW4.out.2.2.size)⟩
  rw [HN.out]
  clear hb5 HW4
  go_wp2_with fail
  refine (HI.out _).mono ?_
  rintro ee6 w6 ⟨u1, u2, u3, j1, j2, j3, rfl, ⟨t1, t2, t3⟩, _, _, hb6⟩
  obtain ⟨b4, e4, rfl⟩ := t1.shape
  obtain ⟨b5, e5, rfl⟩ := t2.shape
  obtain ⟨b6, e6, rfl⟩ := t3.shape
  have bb6 := HW5.out.2.2.trans (hb6.mono HW5.out.2.2.size)
  have HW6 : Hid (WSl (w6.alloc (.cells #[.int .i64 h, .int .i64 e, .string r, .string p, .int .i64 a, .slice b4 O.length e4, .slice b5 S.length e5, .slice b6 D.length e6] 39)) w1.heap.size ⟨h, e, r, p⟩ a (.slice a1 O.length c1) (.slice a2 S.length c2) (.slice a3 D.length c3) g1 g2 g3 O S D
      ∧ WSl (w6.alloc (.cells #[.int .i64 h, .int .i64 e, .string r, .string p, .int .i64 a, .slice b4 O.length e4, .slice b5 S.length e5, .slice b6 D.length e6] 39)) w2.heap.size ⟨h, e, r, p⟩ a (.slice b1 O.length e1) (.slice b2 S.length e2) (.slice b3 D.length e3) k1 k2 k3 (marks 1 O.length) (marks (1 + O.length) S.length) (marks (1 + O.length + S.length) D.length)
      ∧ WSl (w6.alloc (.cells #[.int .i64 h, .int .i64 e, .string r, .string p, .int .i64 a, .slice b4 O.length e4, .slice b5 S.length e5, .slice b6 D.length e6] 39)) w6.heap.size ⟨h, e, r, p⟩ a (.slice b4 O.length e4) (.slice b5 S.length e5) (.slice b6 D.length e6) j1 j2 j3 O S D
      ∧ Below w.heap.size w (w6.alloc (.cells #[.int .i64 h, .int .i64 e, .string r, .string p, .int .i64 a, .slice b4 O.length e4, .slice b5 S.length e5, .slice b6 D.length e6] 39))) :=
    ⟨(HW5.out.1.later hb6).alloc _, (HW5.out.2.1.later hb6).alloc _, WSl.new w6 ⟨h, e, r, p⟩ a _ _ _ j1 j2 j3 O S D t1 t2 t3, bb6.alloc bb6.size _⟩
  clear bb6 hb6 t1 t2 t3 HW5
  go_wp2_with (first | (refine wp_loadSl rfl _ rfl w6.heap.size ⟨h, e, r, p⟩ _ _ _ _ rfl HW6.out.2.2.1.1 ?_) | (refine wp_loadSl rfl _ rfl w1.heap.size ⟨h, e, r, p⟩ _ _ _ _ rfl HW6.out.1.1 ?_))
  refine (eqSeal_yes ⟨h, e, r, p⟩ a _ _ _ _ _ _ j1 0 j2 0 j3 0 g1 0 g2 0 g3 0 O S D _ HW6.out.2.2.1.2.1.ss HW6.out.2.2.1.2.2.1.ss HW6.out.2.2.1.2.2.2.ss HW6.out.1.2.1.ss HW6.out.1.2.2.1.ss HW6.out.1.2.2.2.ss).mono ?_
  rintro ee7 w7 ⟨rfl, hb7⟩
  have HW7 : Hid (WSl w7 w2.heap.size ⟨h, e, r, p⟩ a (.slice b1 O.length e1) (.slice b2 S.length e2) (.slice b3 D.length e3) k1 k2 k3 (marks 1 O.length) (marks (1 + O.length) S.length) (marks (1 + O.length + S.length) D.length) ∧ Below w.heap.size w w7) := ⟨HW6.out.2.1.later hb7, HW6.out.2.2.2.trans (hb7.mono HW6.out.2.2.2.size)⟩
  clear hb7 HW6
  go_wp2_with (refine wp_loadSl rfl _ rfl w2.heap.size ⟨h, e, r, p⟩ _ _ _ _ rfl HW7.out.1.1 ?_)
  refine (heldSeal_any ⟨h, e, r, p⟩ a _ _ _ k1 k2 k3 _ _ _ _ HW7.out.1.2.1 HW7.out.1.2.2.1 HW7.out.1.2.2.2).mono ?_
  rintro ee8 w8 ⟨rfl, hb8⟩
  rw [HN.out]
  go_wp2
  go_ret
  exact ⟨rfl, HW7.out.2.trans (hb8.mono HW7.out.2.size)⟩

end Go.Proofs.Ytmfoliocibjdnaa
