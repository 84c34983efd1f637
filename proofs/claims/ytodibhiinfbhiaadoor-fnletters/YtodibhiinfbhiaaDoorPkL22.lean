/-
  Texts laid together: Vgs, Trn, Vlt.
-/
import Derived.Test.YtodibhiinfbhiaaDoorPkL20
import Derived.Test.YtodibhiinfbhiaaDoorPkL15
import Derived.Test.YtodibhiinfbhiaaDoorPkL21
import Derived.Test.YtodibhiinfbhiaaDoorPkL11
import Derived.Test.YtodibhiinfbhiaaDoorPkL12
import Derived.Test.YtodibhiinfbhiaaDoorPkL7
import Derived.Lib.ConvBytes
import Derived.Deep.RegionHeld3
/-
  A letter read from its text: the specification's answer.
-/
namespace Go.Proofs.YtodibhiinfbhiaaDoor
open Go.RowKit Go.BigFrame Go.Sort
set_option linter.unusedVariables false
set_option linter.unusedSimpArgs false

/-- one byte read at a cursor, whether there is one or not -/
theorem l09Byte_w (c : Nat) (s : ByteArray) (p : Nat) (b : Bool) (w : World) (h : Cu w c s p b) (hs : s.size ≤ 1048576) (hp : p ≤ s.size) :
    Calls Tryd.prog 35 #[.pointer (some ⟨c, 0, none⟩)] w fun e w' => ∃ (v : Int) (r : Nat) (b' : Bool), e = .returned (.int .i64 v) ∧ Cu w' c s r b' ∧ r ≤ s.size ∧ (b' = false → b = false ∧ p < s.size ∧ v = ((byB s p).toNat : Int) ∧ r = p + 1) ∧ (b' = true → b = true ∨ p = s.size) ∧ w.grownBy w' (some c) := by
  by_cases hno : b = true ∨ p = s.size
  · exact (l09Byte_no c s p b w h hs hp hno).mono fun e w' ⟨⟨he, hc⟩, hg⟩ => ⟨0, p, true, he, hc, hp, fun h => (by cases h), fun _ => hno, hg⟩
  · have hb : b = false := by cases b; rfl; exact absurd (.inl rfl) hno
    subst hb
    have hlt : p < s.size := by rcases Nat.lt_or_ge p s.size with h | h; exact h; exact absurd (.inr (by omega)) hno
    exact (l09Byte_yes c s p w h hs hlt).mono fun e w' ⟨⟨he, hc⟩, hg⟩ => ⟨_, p + 1, false, he, hc, hlt, fun _ => ⟨rfl, hlt, rfl, rfl⟩, fun h => (by cases h), hg⟩
/-- a number read at a cursor -/
theorem l09Var_w (c : Nat) (s : ByteArray) (p : Nat) (b : Bool) (w : World) (h : Cu w c s p b) (hs : s.size ≤ 1048576) (hp : p ≤ s.size) :
    Calls Tryd.prog 36 #[.pointer (some ⟨c, 0, none⟩)] w fun e w' => ∃ (n r : Nat) (b' : Bool), e = .returned (.int .i64 (n : Int)) ∧ Cu w' c s r b' ∧ r ≤ s.size ∧ (b' = false → b = false ∧ M.readVar s.data.toList p = some (n, r)) ∧ (b' = true → b = true ∨ M.readVar s.data.toList p = none) ∧ w.grownBy w' (some c) := by
  cases b with
  | true => exact (l09Var_bad c s p w h hs hp).mono fun e w' ⟨⟨he, hc⟩, hg⟩ => ⟨0, p, true, he, hc, hp, fun h => (by cases h), fun _ => .inl rfl, hg⟩
  | false =>
    refine (l09Var_at c s p w h hs hp).mono ?_
    rintro e w' ⟨hm, hg⟩
    cases hr : M.readVar s.data.toList p with
    | none => rw [hr] at hm; exact ⟨0, p, true, hm.1, hm.2, hp, fun h => (by cases h), fun _ => .inr rfl, hg⟩
    | some y =>
      obtain ⟨n, q⟩ := y
      rw [hr] at hm
      exact ⟨n, q, false, hm.1, hm.2, (read_bound s p n q hr).1, fun _ => ⟨rfl, rfl⟩, fun h => (by cases h), hg⟩

namespace VV
/-- what five readings one after the other say -/
theorem five {t s : ByteArray} {b0 b1 b2 b3 b4 b5 : Bool} {v0 v1 v2 v3 : Int} {p1 p2 p3 p4 n q : Nat} (h0 : b0 = false → uns t = some s) (k0 : b0 = true → uns t = none)
    (h1 : b1 = false → b0 = false ∧ 0 < s.size ∧ v0 = ((byB s 0).toNat : Int) ∧ p1 = 0 + 1) (k1 : b1 = true → b0 = true ∨ 0 = s.size)
    (h2 : b2 = false → b1 = false ∧ p1 < s.size ∧ v1 = ((byB s p1).toNat : Int) ∧ p2 = p1 + 1) (k2 : b2 = true → b1 = true ∨ p1 = s.size)
    (h3 : b3 = false → b2 = false ∧ p2 < s.size ∧ v2 = ((byB s p2).toNat : Int) ∧ p3 = p2 + 1) (k3 : b3 = true → b2 = true ∨ p2 = s.size)
    (h4 : b4 = false → b3 = false ∧ p3 < s.size ∧ v3 = ((byB s p3).toNat : Int) ∧ p4 = p3 + 1) (k4 : b4 = true → b3 = true ∨ p3 = s.size)
    (h5 : b5 = false → b4 = false ∧ M.readVar s.data.toList p4 = some (n, q)) (k5 : b5 = true → b4 = true ∨ M.readVar s.data.toList p4 = none) :
    (b5 = true → rd t = none) ∧ (b5 = false → uns t = some s ∧ raw s = some ⟨v0, v1, v2, v3, (n : Int), s.extract q s.size⟩) := by
  have a1 : b1 = true → rd t = none := fun h => by
    cases b0 with
    | true => exact rd_no1 (k0 rfl)
    | false => rcases k1 h with h | h; cases h; exact rd_no2 (h0 rfl) (raw_no1 (by omega))
  have a2 : b2 = true → rd t = none := fun h => by
    cases b1 with
    | true => exact a1 rfl
    | false =>
      obtain ⟨e0, _, _, e1⟩ := h1 rfl
      rcases k2 h with h | h; cases h; exact rd_no2 (h0 e0) (raw_no1 (by omega))
  have a3 : b3 = true → rd t = none := fun h => by
    cases b2 with
    | true => exact a2 rfl
    | false =>
      obtain ⟨f1, _, _, e2⟩ := h2 rfl
      obtain ⟨e0, _, _, e1⟩ := h1 f1
      rcases k3 h with h | h; cases h; exact rd_no2 (h0 e0) (raw_no1 (by omega))
  have a4 : b4 = true → rd t = none := fun h => by
    cases b3 with
    | true => exact a3 rfl
    | false =>
      obtain ⟨f2, _, _, e3⟩ := h3 rfl
      obtain ⟨f1, _, _, e2⟩ := h2 f2
      obtain ⟨e0, _, _, e1⟩ := h1 f1
      rcases k4 h with h | h; cases h; exact rd_no2 (h0 e0) (raw_no1 (by omega))
  refine ⟨fun h => ?_, fun h => ?_⟩
  · cases b4 with
    | true => exact a4 rfl
    | false =>
      obtain ⟨f3, _, _, e4⟩ := h4 rfl
      obtain ⟨f2, _, _, e3⟩ := h3 f3
      obtain ⟨f1, _, _, e2⟩ := h2 f2
      obtain ⟨e0, _, _, e1⟩ := h1 f1
      have ep : p4 = 4 := by omega
      rw [ep] at k5
      rcases k5 h with h | h
      · cases h
      · exact rd_no2 (h0 e0) (raw_no2 h)
  · obtain ⟨f4, hv⟩ := h5 h
    obtain ⟨f3, l4, g3, e4⟩ := h4 f4
    obtain ⟨f2, l3, g2, e3⟩ := h3 f3
    obtain ⟨f1, l2, g1, e2⟩ := h2 f2
    obtain ⟨e0, l1, g0, e1⟩ := h1 f1
    have ep : p4 = 4 := by omega
    have ep3 : p3 = 3 := by omega
    have ep2 : p2 = 2 := by omega
    have ep1 : p1 = 1 := by omega
    rw [ep] at hv
    refine ⟨h0 e0, ?_⟩
    rw [raw_yes (by omega) hv, g0, g1, g2, g3, ep1, ep2, ep3]
end VV

/-- where the reader's cursor, what is answered and what is read lie -/
def RcL (s : ByteArray) (c : Nat) (w W : World) (g : Nat) (x : Ltr) (p : Nat) (b : Bool) : Prop := Below w.heap.size w W ∧ BK W w.heap.size VV.zL ∧ Cu W c s p b ∧ BK W g x ∧ w.heap.size < c ∧ c < g
section
variable {s : ByteArray} {c : Nat} {w W W' : World} {g p q : Nat} {x : Ltr} {b b' : Bool}
theorem RcL.read (h : RcL s c w W g x p b) (hg : W.grownBy W' (some c)) (hc : Cu W' c s q b') : RcL s c w W' g x q b' := by
  obtain ⟨h1, h2, h3, h4, h5, h6⟩ := h
  exact ⟨h1.grown hg h1.size (fun k hk => by simp at hk; omega), h2.grown hg (by simp; omega), hc, h4.grown hg (by simp; omega), h5, h6⟩
theorem RcL.later (h : RcL s c w W g x p b) (hb : Below W.heap.size W W') : RcL s c w W' g x p b := by
  obtain ⟨h1, h2, h3, h4, h5, h6⟩ := h
  exact ⟨h1.trans (hb.mono h1.size), h2.later hb, h3.later hb, h4.later hb, h5, h6⟩
theorem RcL.set (h : RcL s c w W g x p b) {y : Ltr} (o : Nat) (u : Value) (hy : BK (W.setCell ⟨g, o, none⟩ u) g y) : RcL s c w (W.setCell ⟨g, o, none⟩ u) g y p b := by
  obtain ⟨h1, h2, h3, h4, h5, h6⟩ := h
  have hg := grown_setC W g o u
  exact ⟨h1.grown hg h1.size (fun k hk => by simp at hk; omega), h2.grown hg (by simp; omega), h3.grown hg (by simp; omega), hy, h5, h6⟩
/-- what is answered is written where it is answered -/
theorem RcL.put (h : RcL s c w W g x p b) (y : Ltr) : BK (W.setCells w.heap.size 0 (kcs y)) w.heap.size y ∧ Below w.heap.size w (W.setCells w.heap.size 0 (kcs y)) := ⟨h.2.1.put y, below_setCells (Nat.le_refl _) _ _ _ h.1⟩
end

set_option maxRecDepth 100000 in
set_option maxHeartbeats 2000000 in
theorem sReadLetter_any (t : ByteArray) (w : World) (ht : t.size ≤ 1048576) :
    Calls Tryd.prog 13 #[.string t] w fun e w' => e = .returned (.tuple #[.agg #[.int .i64 (VV.rdA t).k, .int .i64 (VV.rdA t).f, .int .i64 (VV.rdA t).t, .int .i64 (VV.rdA t).e, .int .i64 (VV.rdA t).y, .string (VV.rdA t).r], .bool (VV.rdOk t)]) ∧ Below w.heap.size w w' := by
  have HZ : Hid (BK (w.alloc (.cells #[.int .i64 0, .int .i64 0, .int .i64 0, .int .i64 0, .int .i64 0, .string ⟨#[]⟩] 25)) w.heap.size VV.zL ∧ Below w.heap.size w (w.alloc (.cells #[.int .i64 0, .int .i64 0, .int .i64 0, .int .i64 0, .int .i64 0, .string ⟨#[]⟩] 25))) := ⟨BK.new w VV.zL, (Below.refl _ _).alloc (Nat.le_refl _) _⟩
  have hU : Calls Tryd.prog 32 #[.string t] (w.alloc (.cells #[.int .i64 0, .int .i64 0, .int .i64 0, .int .i64 0, .int .i64 0, .string ⟨#[]⟩] 25)) fun e w' => ∃ (s : ByteArray) (b : Bool), e = .returned (.tuple #[.string s, .bool (!b)]) ∧ s.size ≤ 20000 ∧ (b = false → VV.uns t = some s) ∧ (b = true → VV.uns t = none) ∧ Below (w.alloc (.cells #[.int .i64 0, .int .i64 0, .int .i64 0, .int .i64 0, .int .i64 0, .string ⟨#[]⟩] 25)).heap.size (w.alloc (.cells #[.int .i64 0, .int .i64 0, .int .i64 0, .int .i64 0, .int .i64 0, .string ⟨#[]⟩] 25)) w' := by
    have h := sUnsealed_at t (w.alloc (.cells #[.int .i64 0, .int .i64 0, .int .i64 0, .int .i64 0, .int .i64 0, .string ⟨#[]⟩] 25)) ht
    cases hu : VV.uns t with
    | none => rw [hu] at h; exact h.mono fun e w' ⟨he, hb⟩ => ⟨⟨#[]⟩, true, he, by show 0 ≤ 20000; omega, fun h => (by cases h), fun _ => rfl, hb⟩
    | some u => rw [hu] at h; exact h.mono fun e w' ⟨he, hb⟩ => ⟨u, false, he, (VV.uns_sealed hu).2.2, fun _ => rfl, fun h => (by cases h), hb⟩
  have HCT : Hid (∀ (x : Ltr) W, x.r.size ≤ 1048576 → Calls Tryd.prog 17 #[.agg #[.int .i64 x.k, .int .i64 x.f, .int .i64 x.t, .int .i64 x.e, .int .i64 x.y, .string x.r]] W fun e w' => e = .returned (.tuple #[.string (VV.text x), .bool (VV.ok x)]) ∧ Below W.heap.size W w') := fun x W h1 => sLetterText_any x W h1
  clear ht
  go_enter Tryd.func13, Tryd.ntmps13
  go_wp2_with fail
  refine hU.mono ?_
  rintro e w1 ⟨s, b0, rfl, hsz, h0, k0, hb1⟩
  have HZ1 : Hid (BK w1 w.heap.size VV.zL ∧ Below w.heap.size w w1) := ⟨HZ.out.1.later hb1, HZ.out.2.trans (hb1.mono HZ.out.2.size)⟩
  clear hU HZ hb1
  go_wp2_with fail
  have HB1 : Hid (Below w.heap.size w (w1.alloc (.cells #[.string s, .int .i64 0, .bool b0] 60)) ∧ BK (w1.alloc (.cells #[.string s, .int .i64 0, .bool b0] 60)) w.heap.size VV.zL ∧ Cu (w1.alloc (.cells #[.string s, .int .i64 0, .bool b0] 60)) w1.heap.size s 0 b0 ∧ w.heap.size < w1.heap.size) := by
    have ha : Below w1.heap.size w1 (w1.alloc (.cells #[.string s, .int .i64 0, .bool b0] 60)) := (Below.refl _ _).alloc (Nat.le_refl _) _
    exact ⟨HZ1.out.2.trans (ha.mono HZ1.out.2.size), HZ1.out.1.later ha, Go.heap_alloc_new w1 _, HZ1.out.1.lt⟩
  have hc1 := l09Byte_w w1.heap.size s 0 b0 _ HB1.out.2.2.1 (by omega) (Nat.zero_le _)
  clear HZ1
  refine hc1.mono ?_
  rintro e w2 ⟨v0, p1, b1, rfl, hcu, hp1, h1, k1, hg⟩
  have HS : Hid (RcL s w1.heap.size w (w2.alloc (.cells #[.int .i64 v0, .int .i64 0, .int .i64 0, .int .i64 0, .int .i64 0, .string ⟨#[]⟩] 25)) w2.heap.size ⟨v0, 0, 0, 0, 0, ⟨#[]⟩⟩ p1 b1) := by
    have q1 := HB1.out.1.grown hg HB1.out.1.size (fun k hk => by have := HB1.out.2.2.2; simp at hk; omega)
    have q2 : Below w2.heap.size w2 (w2.alloc (.cells #[.int .i64 v0, .int .i64 0, .int .i64 0, .int .i64 0, .int .i64 0, .string ⟨#[]⟩] 25)) := (Below.refl _ _).alloc (Nat.le_refl _) _
    exact ⟨q1.alloc q1.size _, (HB1.out.2.1.grown hg (by have := HB1.out.2.2.2; simp; omega)).later q2, hcu.later q2, BK.new w2 ⟨v0, 0, 0, 0, 0, ⟨#[]⟩⟩, HB1.out.2.2.2, hcu.lt⟩
  clear hc1 HB1 hcu hg
  have hc2 := l09Byte_w w1.heap.size s p1 b1 _ HS.out.2.2.1 (by omega) hp1
  go_wp2_with fail
  refine hc2.mono ?_
  rintro e u1 ⟨v1, p2, b2, rfl, hcu, hp2, h2, k2, hg⟩
  have HR1 : Hid (RcL s w1.heap.size w u1 w2.heap.size ⟨v0, 0, 0, 0, 0, ⟨#[]⟩⟩ p2 b2) := HS.out.read hg hcu
  have y1 := HR1.out.2.2.2.1.c1
  have f1 := HR1.out.2.2.2.1.fz 1
  have HS1 : Hid (RcL s w1.heap.size w (u1.setCell ⟨w2.heap.size, 1, none⟩ (.int .i64 v1)) w2.heap.size ⟨v0, v1, 0, 0, 0, ⟨#[]⟩⟩ p2 b2) := HR1.out.set 1 _ (HR1.out.2.2.2.1.set1 v1)
  clear hcu hg hc2 HS HR1
  simp only at y1
  have hc3 := l09Byte_w w1.heap.size s p2 b2 _ HS1.out.2.2.1 (by omega) hp2
  go_wp2_with fail
  refine hc3.mono ?_
  rintro e u2 ⟨v2, p3, b3, rfl, hcu, hp3, h3, k3, hg⟩
  have HR2 : Hid (RcL s w1.heap.size w u2 w2.heap.size ⟨v0, v1, 0, 0, 0, ⟨#[]⟩⟩ p3 b3) := HS1.out.read hg hcu
  have y2 := HR2.out.2.2.2.1.c2
  have f2 := HR2.out.2.2.2.1.fz 2
  have HS2 : Hid (RcL s w1.heap.size w (u2.setCell ⟨w2.heap.size, 2, none⟩ (.int .i64 v2)) w2.heap.size ⟨v0, v1, v2, 0, 0, ⟨#[]⟩⟩ p3 b3) := HR2.out.set 2 _ (HR2.out.2.2.2.1.set2 v2)
  clear hcu hg hc3 HS1 HR2 y1 f1
  simp only at y2
  have hc4 := l09Byte_w w1.heap.size s p3 b3 _ HS2.out.2.2.1 (by omega) hp3
  go_wp2_with fail
  refine hc4.mono ?_
  rintro e u3 ⟨v3, p4, b4, rfl, hcu, hp4, h4, k4, hg⟩
  have HR3 : Hid (RcL s w1.heap.size w u3 w2.heap.size ⟨v0, v1, v2, 0, 0, ⟨#[]⟩⟩ p4 b4) := HS2.out.read hg hcu
  have y3 := HR3.out.2.2.2.1.c3
  have f3 := HR3.out.2.2.2.1.fz 3
  have HS3 : Hid (RcL s w1.heap.size w (u3.setCell ⟨w2.heap.size, 3, none⟩ (.int .i64 v3)) w2.heap.size ⟨v0, v1, v2, v3, 0, ⟨#[]⟩⟩ p4 b4) := HR3.out.set 3 _ (HR3.out.2.2.2.1.set3 v3)
  clear hcu hg hc4 HS2 HR3 y2 f2
  simp only at y3
  have hc5 := l09Var_w w1.heap.size s p4 b4 _ HS3.out.2.2.1 (by omega) hp4
  go_wp2_with fail
  refine hc5.mono ?_
  rintro e u4 ⟨n, q, b5, rfl, hcu, hq, h5, k5, hg⟩
  have HR4 : Hid (RcL s w1.heap.size w u4 w2.heap.size ⟨v0, v1, v2, v3, 0, ⟨#[]⟩⟩ q b5) := HS3.out.read hg hcu
  have y4 := HR4.out.2.2.2.1.c4
  have f4 := HR4.out.2.2.2.1.fz 4
  have HS4 : Hid (RcL s w1.heap.size w (u4.setCell ⟨w2.heap.size, 4, none⟩ (.int .i64 (n : Int))) w2.heap.size ⟨v0, v1, v2, v3, (n : Int), ⟨#[]⟩⟩ q b5) := HR4.out.set 4 _ (HR4.out.2.2.2.1.set4 (n : Int))
  clear hcu hg hc5 HS3 y3 f3
  simp only at y4
  have hm := VV.five h0 k0 h1 k1 h2 k2 h3 k3 h4 k4 h5 k5
  clear h0 k0 h1 k1 h2 k2 h3 k3 h4 k4 h5 k5 hp1 hp2 hp3 hp4
  have HM : Hid ((b5 = true → VV.rd t = none) ∧ (b5 = false → VV.uns t = some s ∧ VV.raw s = some ⟨v0, v1, v2, v3, (n : Int), s.extract q s.size⟩)) := hm
  clear hm
  have cb := HR4.out.2.2.1.c2
  have hn1 : w1.heap.size ≠ w2.heap.size := by have := HR4.out.2.2.2.2.2; omega
  have hn2 : w2.heap.size ≠ w.heap.size := by have := HR4.out.2.2.2.2; omega
  cases b5 with
  | true =>
    have HD := hide (VV.rd_none (HM.out.1 rfl))
    have HE := hide (HS4.out.put VV.zL)
    have z0 := HR4.out.2.1.c0
    have g0 := HR4.out.2.1.fz 0
    have z1 := HR4.out.2.1.c1
    have g1 := HR4.out.2.1.fz 1
    have z2 := HR4.out.2.1.c2
    have g2 := HR4.out.2.1.fz 2
    have z3 := HR4.out.2.1.c3
    have g3 := HR4.out.2.1.fz 3
    have z4 := HR4.out.2.1.c4
    have g4 := HR4.out.2.1.fz 4
    have z5 := HR4.out.2.1.c5
    have g5 := HR4.out.2.1.fz 5
    clear HM HR4 HS4 HCT
    go_wp2
    exact ret_ltr2 2 3 w.heap.size VV.zL _ rfl rfl rfl rfl HE.out.1 ⟨by rw [HD.out.1, HD.out.2]; rfl, HE.out.2⟩
  | false =>
    obtain ⟨hu, hraw⟩ := HM.out.2 rfl
    have hus := (VV.uns_sealed hu).2.2
    have ca := HR4.out.2.2.1.c1
    have y0 := HR4.out.2.2.2.1.c0
    have y1 := HR4.out.2.2.2.1.c1
    have y2 := HR4.out.2.2.2.1.c2
    have y3 := HR4.out.2.2.2.1.c3
    have y5 := HR4.out.2.2.2.1.c5
    have f5 := HR4.out.2.2.2.1.fz 5
    simp only at y0 y1 y2 y3 y5
    have HS5 : Hid (RcL s w1.heap.size w ((u4.setCell ⟨w2.heap.size, 4, none⟩ (.int .i64 (n : Int))).setCell ⟨w2.heap.size, 5, none⟩ (.string (s.extract q s.size))) w2.heap.size ⟨v0, v1, v2, v3, (n : Int), s.extract q s.size⟩ q false) := HS4.out.set 5 _ (HS4.out.2.2.2.1.set5 (s.extract q s.size))
    have hct := HCT.out ⟨v0, v1, v2, v3, (n : Int), s.extract q s.size⟩
    simp only at hct
    have hxs : (s.extract q s.size).size ≤ 1048576 := by rw [ByteArray.size_extract]; omega
    have HCT2 := hide (fun W => hct W hxs)
    have HA : Hid ((VV.ok ⟨v0, v1, v2, v3, (n : Int), s.extract q s.size⟩ = true → VV.rdOk t = true ∧ VV.rdA t = ⟨v0, v1, v2, v3, (n : Int), s.extract q s.size⟩ ∧ VV.text ⟨v0, v1, v2, v3, (n : Int), s.extract q s.size⟩ = t) ∧ (VV.ok ⟨v0, v1, v2, v3, (n : Int), s.extract q s.size⟩ = false → VV.rdOk t = false ∧ VV.rdA t = VV.zL)) := by
      refine ⟨fun h => ?_, fun h => VV.rd_none (VV.rd_no3 hu hraw h)⟩
      have hrd := VV.rd_yes hu hraw h
      exact ⟨(VV.rd_some hrd).1, (VV.rd_some hrd).2, (VV.rd_text hrd).2⟩
    have ks := run_fromV s (q : Int) q rfl hq
    clear hct HCT HM HR4 HS4 hu hraw hus
    generalize VV.ok ⟨v0, v1, v2, v3, (n : Int), s.extract q s.size⟩ = B at *
    generalize VV.text ⟨v0, v1, v2, v3, (n : Int), s.extract q s.size⟩ = X at *
    generalize s.extract q s.size = Rt at *
    go_wp2_with fail
    refine (HCT2.out _).mono ?_
    rintro e w6 ⟨rfl, hb6⟩
    have HS6 : Hid (RcL s w1.heap.size w w6 w2.heap.size ⟨v0, v1, v2, v3, (n : Int), Rt⟩ q false) := HS5.out.later hb6
    clear HS5 HCT2 hb6 y0 y1 y2 y3 y4 y5 f4 f5 ca cb ks
    have HE := hide (HS6.out.put VV.zL)
    have z0 := HS6.out.2.1.c0
    have g0 := HS6.out.2.1.fz 0
    have z1 := HS6.out.2.1.c1
    have g1 := HS6.out.2.1.fz 1
    have z2 := HS6.out.2.1.c2
    have g2 := HS6.out.2.1.fz 2
    have z3 := HS6.out.2.1.c3
    have g3 := HS6.out.2.1.fz 3
    have z4 := HS6.out.2.1.c4
    have g4 := HS6.out.2.1.fz 4
    have z5 := HS6.out.2.1.c5
    have g5 := HS6.out.2.1.fz 5
    cases B
    · have HD := hide (HA.out.2 rfl)
      clear HA HS6
      go_wp2
      exact ret_ltr2 2 3 w.heap.size VV.zL _ rfl rfl rfl rfl HE.out.1 ⟨by rw [HD.out.1, HD.out.2]; rfl, HE.out.2⟩
    · have HD := hide (HA.out.1 rfl)
      have qx : (X.toList == t.toList) = true := by rw [HD.out.2.2]; simp
      have HY := hide (HS6.out.put ⟨v0, v1, v2, v3, (n : Int), Rt⟩)
      have y0 := HS6.out.2.2.2.1.c0
      have y1 := HS6.out.2.2.2.1.c1
      have y2 := HS6.out.2.2.2.1.c2
      have y3 := HS6.out.2.2.2.1.c3
      have y4 := HS6.out.2.2.2.1.c4
      have y5 := HS6.out.2.2.2.1.c5
      simp only at y0 y1 y2 y3 y4 y5
      clear HA HS6 HE
      go_wp2
      exact ret_ltr2 2 3 w.heap.size ⟨v0, v1, v2, v3, (n : Int), Rt⟩ _ rfl rfl rfl rfl HY.out.1 ⟨by rw [HD.out.1, HD.out.2.1]; rfl, HY.out.2⟩

end Go.Proofs.YtodibhiinfbhiaaDoor
/-
  A drawn text, and the same with one byte turned.
-/
namespace Go.Proofs.YtodibhiinfbhiaaDoor
open Go.RowKit
set_option linter.unusedVariables false

def someL : List Int := [0, 1, 3, 9, 54, 55, 56, 63, 64, 65, 119, 120, 200]
def someCells : Array Value := #[.int .i64 0, .int .i64 1, .int .i64 3, .int .i64 9, .int .i64 54, .int .i64 55, .int .i64 56, .int .i64 63, .int .i64 64, .int .i64 65, .int .i64 119, .int .i64 120, .int .i64 200]
theorem someL_in (y : Int) (h : y ∈ someL) : 0 ≤ y ∧ y ≤ 200 := by
  simp [someL] at h
  omega
theorem some_at (w : World) : Hid (∀ j, (h : j < someL.length) → (w.alloc (.cells someCells 3)).cell? ⟨w.heap.size, j, none⟩ = some (.int .i64 someL[j])) := by
  intro j hj
  rw [World.cell?_alloc_at _ _ _ _ rfl]
  have : j = 0 ∨ j = 1 ∨ j = 2 ∨ j = 3 ∨ j = 4 ∨ j = 5 ∨ j = 6 ∨ j = 7 ∨ j = 8 ∨ j = 9 ∨ j = 10 ∨ j = 11 ∨ j = 12 := by simp [someL] at hj; omega
  rcases this with rfl | rfl | rfl | rfl | rfl | rfl | rfl | rfl | rfl | rfl | rfl | rfl | rfl <;> rfl

theorem code_later {w w' : World} {v : Value} (h : Code w.heap.size w v) (hb : Below w.heap.size w w') : Code w'.heap.size w' v := by
  obtain ⟨ao, b, off, len, cap, rfl, hl, h1, h2⟩ := h
  refine ⟨ao, b, off, len, cap, rfl, hl, fun h0 => ⟨(h1 h0).1, Nat.lt_of_lt_of_le (h1 h0).2 hb.size⟩, fun j hj => ?_⟩
  obtain ⟨n, hn, hc⟩ := h2 j hj
  exact ⟨n, hn, (hb.cell (p := ⟨b, off + j, none⟩) (h1 (by omega)).2).trans hc⟩

/-- what '[]byte(t)' leaves: the bytes in a new block, which may be written -/
theorem run_bytes (t : ByteArray) (w : World) : ∃ (w' : World) (cap : Nat), (convert 9 22 (.string t)).run Tryd.prog w = .ok (.slice (some ⟨w.heap.size, 0, none⟩) t.size cap) w' ∧ Below w.heap.size w w' ∧ w'.heap.size = w.heap.size + 1 ∧
    ∀ j (h : j < t.data.toList.length), w'.cell? ⟨w.heap.size, j, none⟩ = some (.int .u8 (t.data.toList[j].toNat : Int)) ∧ w'.frozen? ⟨w.heap.size, j, none⟩ = false := by
  refine ⟨Lib.bytesWorld w 5 t, _, Lib.run_convert_string_bytes w 9 22 5 t Tryd.underlying9 Tryd.underlying22 Tryd.underlying5, ⟨?_, ?_, ?_, ?_, ?_⟩, Lib.bytesWorld_size w 5 t, ?_⟩
  · simp [Lib.bytesWorld, World.freeze, World.alloc, World.drew, -World.alloc_eq, -World.drew_eq]
  · simp [Lib.bytesWorld, World.freeze, World.alloc, World.drew, -World.alloc_eq, -World.drew_eq]
  · simp [Lib.bytesWorld, World.freeze, World.alloc, World.drew, -World.alloc_eq, -World.drew_eq]
  · rw [Lib.bytesWorld_size]; omega
  · intro b hb
    exact Lib.bytesWorld_at_old w 5 t b hb
  · intro j hj
    have h1 : t.data.toList.length = t.size := Array.length_toList
    constructor
    · rw [Lib.bytesWorld_cell w 5 t j (by omega)]
      simp [List.getD, List.getElem?_eq_getElem hj]
    · have hc : j < (Lib.bytesCells w 5 t).size := by
        unfold Lib.bytesCells
        simp
        have : t.data.size = t.size := rfl
        omega
      simp [World.frozen?, Lib.bytesWorld_at_new]
      omega
theorem turned_cells (l : List UInt8) (i : Nat) (c : UInt8) (w' : World) (g : Nat) (hc : ∀ j (h : j < l.length), w'.cell? ⟨g, j, none⟩ = some (.int .u8 (l[j].toNat : Int)) ∧ w'.frozen? ⟨g, j, none⟩ = false) :
    ∀ j (h : j < (l.set i c).length), (w'.setCell ⟨g, i, none⟩ (.int .u8 (c.toNat : Int))).cell? ⟨g, j, none⟩ = some (.int .u8 ((l.set i c)[j].toNat : Int)) := by
  intro j hj
  have hl : (l.set i c).length = l.length := by simp
  have hj' : j < l.length := by rw [hl] at hj; exact hj
  by_cases he : j = i
  · subst he
    rw [World.cell?_setCell_same _ _ _ (hc j hj').1]
    simp
  · rw [World.cell?_setCell_other _ _ _ _ (by simp), (hc j hj').1]
    simp [List.getElem_set_ne (Ne.symm he)]
theorem run_backT (l : List UInt8) (w : World) (g cap n : Nat) (hn : n = l.length) (hc : ∀ j (h : j < l.length), w.cell? ⟨g, j, none⟩ = some (.int .u8 (l[j].toNat : Int))) :
    (convert 22 9 (.slice (some ⟨g, 0, none⟩) n cap)).run Tryd.prog w = .ok (.string ⟨l.toArray⟩) w := by
  subst hn
  refine run_convert_bytes_back (P := Tryd.prog) _ 22 9 5 ⟨g, 0, none⟩ cap l Tryd.underlying22 Tryd.underlying5 Tryd.underlying9 ?_
  intro j hj
  have ea : (⟨g, 0, none⟩ : Addr).add j = ⟨g, j, none⟩ := by
    unfold Addr.add
    split <;> simp_all
  rw [ea]
  exact hc j hj
theorem xor_other (b d : Nat) (h0 : 0 < d) : b ^^^ d ≠ b := by
  intro h
  have h1 := congrArg (fun x => b ^^^ x) h
  simp only [← Nat.xor_assoc, Nat.xor_self, Nat.zero_xor] at h1
  omega
theorem turn_byte (b : UInt8) (d : Nat) (h0 : 0 < d) (hd : d < 256) : ∃ c : UInt8, bits .xor .u8 (b.toNat : Int) (d : Int) = (c.toNat : Int) ∧ b ≠ c := by
  have hb := b.toNat_lt
  have hx : b.toNat ^^^ d < 256 := Nat.xor_lt_two_pow (n := 8) (by omega) (by omega)
  refine ⟨UInt8.ofNat (b.toNat ^^^ d), ?_, ?_⟩
  · rw [u8_xor_nat _ _ (by omega) hd]
    have : (UInt8.ofNat (b.toNat ^^^ d)).toNat = b.toNat ^^^ d := UInt8.toNat_ofNat_of_lt hx
    rw [this]
  · intro h
    have h1 := congrArg UInt8.toNat h
    have : (UInt8.ofNat (b.toNat ^^^ d)).toNat = b.toNat ^^^ d := UInt8.toNat_ofNat_of_lt hx
    rw [this] at h1
    exact xor_other b.toNat d h0 h1.symm

/-- the text with another byte at i -/
def setB (t : ByteArray) (i : Nat) (c : UInt8) : ByteArray := ⟨(t.data.toList.set i c).toArray⟩
theorem setB_size (t : ByteArray) (i : Nat) (c : UInt8) : (setB t i c).size = t.size := by
  have h1 : (setB t i c).data.toList.length = (setB t i c).size := Array.length_toList
  have h2 : t.data.toList.length = t.size := Array.length_toList
  rw [← h1]
  simp [setB]
theorem setB_ne (t : ByteArray) (i : Nat) (c : UInt8) (h : i < t.data.toList.length) (hc : t.data.toList[i] ≠ c) : t ≠ setB t i c := by
  intro he
  have h1 : t.data.toList = t.data.toList.set i c := by
    have := congrArg (fun b : ByteArray => b.data.toList) he
    simpa [setB] using this
  have h2 : t.data.toList[i]? = (t.data.toList.set i c)[i]? := congrArg (fun l : List UInt8 => l[i]?) h1
  rw [List.getElem?_eq_getElem h, List.getElem?_set_self h] at h2
  exact hc (by injection h2)

set_option maxRecDepth 100000 in
set_option maxHeartbeats 1000000 in
theorem turned_set (t : ByteArray) (g pc p0 p1 : Nat) (w : World) (ht : 0 < t.size) (ht2 : t.size ≤ 100000) (h0 : p0 < 10000) (h1 : p1 < 10000) (hg : g < w.heap.size)
    (z0 : w.cell? ⟨g, 0, none⟩ = some (.int .i64 (p0 : Int))) (z1 : w.cell? ⟨g, 1, none⟩ = some (.int .i64 (p1 : Int))) :
    Calls Tryd.prog 14 #[.string t, .slice (some ⟨g, 0, none⟩) 12 pc] w fun e w' => ∃ u : ByteArray, (∃ (i : Nat) (c : UInt8) (hi : i < t.data.toList.length), t.data.toList[i] ≠ c ∧ u = setB t i c) ∧ u.size = t.size ∧ t ≠ u ∧ e = .returned (.string u) ∧ Below w.heap.size w w' := by
  obtain ⟨w6, bc, hcv, hb6, hs6, hby⟩ := run_bytes t w
  have k0 : w6.cell? ⟨g, 0, none⟩ = some (.int .i64 (p0 : Int)) := (hb6.cell (p := ⟨g, 0, none⟩) hg).trans z0
  have k1 : w6.cell? ⟨g, 1, none⟩ = some (.int .i64 (p1 : Int)) := (hb6.cell (p := ⟨g, 1, none⟩) hg).trans z1
  have hll : t.data.toList.length = t.size := Array.length_toList
  obtain ⟨i, hi⟩ : ∃ i, p0 % t.size = i := ⟨_, rfl⟩
  have hilt : i < t.size := by rw [← hi]; exact Nat.mod_lt _ ht
  have hiI : (p0 : Int) % (t.size : Int) = (i : Int) := by rw [← hi]; simp
  obtain ⟨cb, ff⟩ := hby i (by omega)
  obtain ⟨c, hcx, hcn⟩ := turn_byte (t.data.toList[i]'(by omega)) (1 + p1 % 255) (by omega) (by omega)
  have HNE : Hid (t ≠ setB t i c) := setB_ne t i c (by omega) hcn
  have HSZ : Hid ((setB t i c).size = t.size) := setB_size t i c
  have HIC : Hid (∃ (i' : Nat) (c' : UInt8) (hi : i' < t.data.toList.length), t.data.toList[i'] ≠ c' ∧ setB t i c = setB t i' c') := ⟨i, c, by omega, hcn, rfl⟩
  have HY : Hid (∀ j (h : j < (setB t i c).data.toList.length), (w6.setCell ⟨w.heap.size, i, none⟩ (.int .u8 (c.toNat : Int))).drew.cell? ⟨w.heap.size, j, none⟩ = some (.int .u8 ((setB t i c).data.toList[j].toNat : Int))) := by
    have hq := turned_cells t.data.toList i c w6 w.heap.size hby
    intro j hj
    have e : (setB t i c).data.toList = t.data.toList.set i c := by simp [setB]
    refine Eq.trans (hq j (by rw [← e]; exact hj)) ?_
    congr 4
  have HB7 : Hid (Below w.heap.size w (w6.setCell ⟨w.heap.size, i, none⟩ (.int .u8 (c.toNat : Int))).drew) := (hb6.setCell (p := ⟨w.heap.size, i, none⟩) (Nat.le_refl _) _).drew
  generalize t.data.toList[i]'(by omega) = bi at *
  have hd : (((1 + p1 % 255 : Nat)) : Int) = 1 + (p1 : Int) % 255 := by simp
  rw [hd] at hcx
  have hbl : bi.toNat < 256 := bi.toNat_lt
  have hi0 : (0 : Int) ≤ (i : Int) := by omega
  have hi1 : (i : Int) < (t.size : Int) := by exact_mod_cast hilt
  have hp0 : ¬ (t.size : Int) = 0 := by omega
  have hp1 : ((t.size : Int) == 0) = false := beq_eq_false_iff_ne.2 hp0
  clear hby hcn hb6 hll
  go_enter Tryd.func14, Tryd.ntmps14
  go_wp2
  rw [hiI]
  go_region
  have hc7 := HY.out
  have hb7 := HB7.out
  generalize (w6.setCell ⟨w.heap.size, i, none⟩ (.int .u8 (c.toNat : Int))).drew = w7 at *
  have hcv7 := run_backT (setB t i c).data.toList w7 w.heap.size bc t.size (by rw [Array.length_toList]; exact HSZ.out.symm) hc7
  clear hc7
  go_wp2
  go_ret
  exact ⟨setB t i c, HIC.out, HSZ.out, HNE.out, rfl, hb7⟩
theorem turned_any (t : ByteArray) (g pc p0 p1 : Nat) (w : World) (ht : 0 < t.size) (ht2 : t.size ≤ 100000) (h0 : p0 < 10000) (h1 : p1 < 10000) (hg : g < w.heap.size)
    (z0 : w.cell? ⟨g, 0, none⟩ = some (.int .i64 (p0 : Int))) (z1 : w.cell? ⟨g, 1, none⟩ = some (.int .i64 (p1 : Int))) :
    Calls Tryd.prog 14 #[.string t, .slice (some ⟨g, 0, none⟩) 12 pc] w fun e w' => ∃ u : ByteArray, u.size = t.size ∧ t ≠ u ∧ e = .returned (.string u) ∧ Below w.heap.size w w' :=
  (turned_set t g pc p0 p1 w ht ht2 h0 h1 hg z0 z1).mono fun e w' ⟨u, _, h⟩ => ⟨u, h⟩
end Go.Proofs.YtodibhiinfbhiaaDoor
/-
  The walk of the law FnLetters: it answers true of every code.
-/
namespace Go.Proofs.YtodibhiinfbhiaaDoor
open Go.RowKit Go.BigFrame Go.Sort
set_option linter.unusedVariables false
set_option linter.unusedSimpArgs false

theorem turnedL_empty (t : ByteArray) (g pc : Nat) (w : World) (ht : t.size = 0) :
    Calls Tryd.prog 14 #[.string t, .slice (some ⟨g, 0, none⟩) 12 pc] w fun e w' => e = .returned (.string ⟨#[120]⟩) ∧ Below w.heap.size w w' := by
  obtain ⟨w6, bc, hcv, hb6, hs6, hby⟩ := run_bytes t w
  have hp1 : ((t.size : Int) == 0) = true := by simp [ht]
  clear hby
  go_enter Tryd.func14, Tryd.ntmps14
  go_wp2
  go_ret
  exact ⟨rfl, hb6⟩
theorem VV.bent {x : Ltr} (h : VV.ok x = true) {i : Nat} {c : UInt8} (hi : i < (VV.text x).data.toList.length) (hc : (VV.text x).data.toList[i] ≠ c) : VV.rdOk (setB (VV.text x) i c) = false := by
  have e : VV.text x = sealedB (VV.lB x) := by unfold VV.text; rw [if_pos h]
  have hl : (sealedB (VV.lB x)).data.toList = (VV.lB x).data.toList ++ Go.Proofs.YtodibhiinfbhiaaDoor.four (sumN (VV.lB x)) := sealedB_list _
  have es : setB (sealedB (VV.lB x)) i c = turnB (VV.lB x) i c := by
    unfold setB turnB
    rw [hl]
  rw [e] at hi ⊢
  rw [es]
  refine (VV.rd_none (VV.rd_no1 ?_)).1
  unfold VV.uns
  rw [if_neg]
  rintro ⟨_, _, h3⟩
  refine turnB_no (VV.lB x) i c (by rw [← hl]; exact hi) ?_ h3
  intro he
  apply hc
  rw [← he]
  simp only [e]
  congr 1
/-- what a text may be turned into: read, it is refused -/
theorem turned_bent (x : Ltr) (g pc p0 p1 : Nat) (w : World) (hr : x.r.size ≤ 20) (h0 : p0 < 10000) (h1 : p1 < 10000) (hg : g < w.heap.size)
    (z0 : w.cell? ⟨g, 0, none⟩ = some (.int .i64 (p0 : Int))) (z1 : w.cell? ⟨g, 1, none⟩ = some (.int .i64 (p1 : Int))) :
    Calls Tryd.prog 14 #[.string (VV.text x), .slice (some ⟨g, 0, none⟩) 12 pc] w fun e w' => ∃ u : ByteArray, u.size ≤ 100 ∧ (VV.ok x = true → VV.rdOk u = false) ∧ e = .returned (.string u) ∧ Below w.heap.size w w' := by
  cases hk : VV.ok x
  · have hz : (VV.text x).size = 0 := by unfold VV.text; rw [if_neg (by rw [hk]; simp)]; rfl
    exact (turnedL_empty (VV.text x) g pc w hz).mono fun e w' ⟨he, hb⟩ => ⟨⟨#[120]⟩, by show 1 ≤ 100; omega, fun h => (by cases h), he, hb⟩
  · have hs : (VV.text x).size = (VV.lB x).size + 4 := by unfold VV.text; rw [if_pos hk, sealedB_size]
    have hz := VV.lB_size (VV.ok_bounds hk).2.2.2.2.2
    refine (turned_set (VV.text x) g pc p0 p1 w (by omega) (by omega) h0 h1 hg z0 z1).mono ?_
    rintro e w' ⟨u, ⟨i, c, hi, hc, rfl⟩, hu, _, he, hb⟩
    exact ⟨_, by omega, fun _ => VV.bent hk hi hc, he, hb⟩

theorem VV.rdA_size (u : ByteArray) : (VV.rdA u).r.size ≤ 16 := by
  cases h : VV.rd u with
  | none => rw [(VV.rd_none h).2]; show 0 ≤ 16; omega
  | some x => rw [(VV.rd_some h).2]; exact (VV.ok_bounds (VV.rd_text h).1).2.2.2.2.2
theorem VV.rdA_text {u : ByteArray} (hk : VV.rdOk u = true) : VV.text (VV.rdA u) = u := by
  cases h : VV.rd u with
  | none => rw [(VV.rd_none h).1] at hk; cases hk
  | some x => rw [(VV.rd_some h).2]; exact (VV.rd_text h).2

/-- letters in boxes, one above the other -/
def BXL (w W : World) (l : List (Nat × Ltr)) : Prop := Below w.heap.size w W ∧ ∀ b ∈ l, BK W b.1 b.2 ∧ w.heap.size ≤ b.1
theorem BXL.later {w W W' : World} {l : List (Nat × Ltr)} (h : BXL w W l) (hb : Below W.heap.size W W') : BXL w W' l := ⟨h.1.trans (hb.mono h.1.size), fun b hbl => ⟨(h.2 b hbl).1.later hb, (h.2 b hbl).2⟩⟩
theorem BXL.add {w W : World} {l : List (Nat × Ltr)} (h : BXL w W l) (x : Ltr) : BXL w (W.alloc (.cells #[.int .i64 x.k, .int .i64 x.f, .int .i64 x.t, .int .i64 x.e, .int .i64 x.y, .string x.r] 25)) ((W.heap.size, x) :: l) := by
  have hb : Below W.heap.size W (W.alloc (.cells #[.int .i64 x.k, .int .i64 x.f, .int .i64 x.t, .int .i64 x.e, .int .i64 x.y, .string x.r] 25)) := (Below.refl _ _).alloc (Nat.le_refl _) _
  have h' := h.later hb
  refine ⟨h'.1, fun b hbl => ?_⟩
  rcases List.mem_cons.1 hbl with rfl | hbl
  · exact ⟨BK.new W x, h.1.size⟩
  · exact h'.2 b hbl

set_option maxRecDepth 100000 in
set_option maxHeartbeats 4000000 in
theorem lettersLaw_any (ao : Option Addr) (len cap : Nat) (w : World) (hlen : len ≤ 1048576) (hc : Code w.heap.size w (.slice ao len cap)) (hT : Tab w) :
    Calls Tryd.prog 3 #[.slice ao len cap] w fun e w' => e = .returned (.bool true) ∧ Below w.heap.size w w' := by
  have HC : Hid (∀ W, Below w.heap.size w W → Code W.heap.size W (.slice ao len cap)) := fun W hW => codeV_later hc hW
  have HT : Hid (∀ W, Below w.heap.size w W → Tab W) := fun W hW => hT.lat hW
  clear hc hT
  go_enter Tryd.func3, Tryd.ntmps3
  go_wp2_with fail
  refine (big_no ao len cap _ hlen).mono ?_
  rintro e w1 ⟨rfl, rfl⟩
  go_wp2_with fail
  refine (DrawLetterText_any _ _ (HC.out _ (Below.refl _ _))).mono ?_
  rintro e w2 ⟨X, rfl, hxr, hb2⟩
  have HB2 : Hid (BXL w1 (w2.alloc (.cells #[.int .i64 X.k, .int .i64 X.f, .int .i64 X.t, .int .i64 X.e, .int .i64 X.y, .string X.r] 25)) [(w2.heap.size, X)]) := BXL.add ⟨hb2, fun b hb => absurd hb (by simp)⟩ X
  have HLT := hide (fun W (hW : Below w1.heap.size w1 W) => LetterText_any X W (by omega) (HT.out W hW))
  have hz : (VV.text X).size ≤ 40 := by
    unfold VV.text
    split
    · rename_i ho
      have := VV.lB_size (VV.ok_bounds ho).2.2.2.2.2
      rw [sealedB_size]
      omega
    · show (⟨#[]⟩ : ByteArray).size ≤ 40
      decide
  have HRI := hide (fun W (hW : Below w1.heap.size w1 W) => ReadLetter_any (VV.text X) W (by omega) (HT.out W hW))
  have HP1 : Hid (VV.ok X = true → VV.rdOk (VV.text X) = true ∧ VV.rdA (VV.text X) = X) := fun h => VV.rd_some (VV.rd_back h)
  have HOI := hide (fun W => LetterOk_any X W (by omega))
  have HOS := hide (fun W => sLetterOk_any X W (by omega))
  have HTB := hide (fun g pc p0 p1 W => turned_bent X g pc p0 p1 W hxr)
  clear hxr hb2 hz
  go_wp2_with fail
  refine (HLT.out _ HB2.out.1).mono ?_
  rintro e w3 ⟨rfl, hb3⟩
  have HB3 : Hid (BXL w1 w3 [(w2.heap.size, X)]) := HB2.out.later hb3
  clear HB2 hb3 HLT
  generalize VV.rdOk (VV.text X) = right at *
  generalize VV.rdA (VV.text X) = Y at *
  generalize VV.ok X = ok at *
  generalize VV.text X = t at *
  go_wp2_with fail
  refine (HRI.out _ HB3.out.1).mono ?_
  rintro e w4 ⟨rfl, hb4⟩
  have HB4 : Hid (BXL w1 (w4.alloc (.cells #[.int .i64 Y.k, .int .i64 Y.f, .int .i64 Y.t, .int .i64 Y.e, .int .i64 Y.y, .string Y.r] 25)) [(w4.heap.size, Y), (w2.heap.size, X)]) := (HB3.out.later hb4).add Y
  clear HB3 hb4 HRI
  have z0 := (HB4.out.2 (w2.heap.size, X) (by simp)).1.c0
  have z1 := (HB4.out.2 (w2.heap.size, X) (by simp)).1.c1
  have z2 := (HB4.out.2 (w2.heap.size, X) (by simp)).1.c2
  have z3 := (HB4.out.2 (w2.heap.size, X) (by simp)).1.c3
  have z4 := (HB4.out.2 (w2.heap.size, X) (by simp)).1.c4
  have z5 := (HB4.out.2 (w2.heap.size, X) (by simp)).1.c5
  simp only at z0 z1 z2 z3 z4 z5
  go_wp2_with fail
  refine (HOS.out _).mono ?_
  rintro e w5 ⟨rfl, hb5⟩
  have HB5 : Hid (BXL w1 w5 [(w4.heap.size, Y), (w2.heap.size, X)]) := HB4.out.later hb5
  clear HB4 hb5 HOS z0 z1 z2 z3 z4 z5
  have z0 := (HB5.out.2 (w2.heap.size, X) (by simp)).1.c0
  have z1 := (HB5.out.2 (w2.heap.size, X) (by simp)).1.c1
  have z2 := (HB5.out.2 (w2.heap.size, X) (by simp)).1.c2
  have z3 := (HB5.out.2 (w2.heap.size, X) (by simp)).1.c3
  have z4 := (HB5.out.2 (w2.heap.size, X) (by simp)).1.c4
  have z5 := (HB5.out.2 (w2.heap.size, X) (by simp)).1.c5
  simp only at z0 z1 z2 z3 z4 z5
  go_wp2_with fail
  refine (HOI.out _).mono ?_
  rintro e w6 ⟨rfl, hb6⟩
  have HB6 : Hid (BXL w1 w6 [(w4.heap.size, Y), (w2.heap.size, X)]) := HB5.out.later hb6
  clear HB5 hb6 HOI z0 z1 z2 z3 z4 z5
  have z0 := (HB6.out.2 (w2.heap.size, X) (by simp)).1.c0
  have z1 := (HB6.out.2 (w2.heap.size, X) (by simp)).1.c1
  have z2 := (HB6.out.2 (w2.heap.size, X) (by simp)).1.c2
  have z3 := (HB6.out.2 (w2.heap.size, X) (by simp)).1.c3
  have z4 := (HB6.out.2 (w2.heap.size, X) (by simp)).1.c4
  have z5 := (HB6.out.2 (w2.heap.size, X) (by simp)).1.c5
  simp only at z0 z1 z2 z3 z4 z5
  have y0 := (HB6.out.2 (w4.heap.size, Y) (by simp)).1.c0
  have y1 := (HB6.out.2 (w4.heap.size, Y) (by simp)).1.c1
  have y2 := (HB6.out.2 (w4.heap.size, Y) (by simp)).1.c2
  have y3 := (HB6.out.2 (w4.heap.size, Y) (by simp)).1.c3
  have y4 := (HB6.out.2 (w4.heap.size, Y) (by simp)).1.c4
  have y5 := (HB6.out.2 (w4.heap.size, Y) (by simp)).1.c5
  simp only at y0 y1 y2 y3 y4 y5
  have HW6 : Hid (Below w1.heap.size w1 w6) := HB6.out.1
  clear HB6
  have hfin : ∀ (u : ByteArray), (VV.rdA u).r.size ≤ 16 := VV.rdA_size
  have hop : (ok = true → right = true ∧ Y = X) := HP1.out
  have HTB2 : Hid (∀ (g pc p0 p1 : Nat) W, p0 < 10000 → p1 < 10000 → g < W.heap.size → W.cell? ⟨g, 0, none⟩ = some (.int .i64 (p0 : Int)) → W.cell? ⟨g, 1, none⟩ = some (.int .i64 (p1 : Int)) → Calls Tryd.prog 14 #[.string t, .slice (some ⟨g, 0, none⟩) 12 pc] W fun e w' => ∃ u : ByteArray, u.size ≤ 100 ∧ (ok = true → VV.rdOk u = false) ∧ e = .returned (.string u) ∧ Below W.heap.size W w') := fun g pc p0 p1 W a b c d f => HTB.out g pc p0 p1 W a b c d f
  clear HTB HP1
  cases ok
  case' true =>
    obtain ⟨hr1, hr2⟩ := hop rfl
    subst hr1
    subst hr2
  all_goals
    clear hop
    go_wp2_with fail
    refine (DrawReadLetter_any _ _ (HC.out _ HW6.out)).mono ?_
    rintro e w7 ⟨u, rfl, huz, hb7⟩
    have HW7 : Hid (Below w1.heap.size w1 w7) := HW6.out.trans (hb7.mono HW6.out.size)
    clear HW6 hb7 z0 z1 z2 z3 z4 z5 y0 y1 y2 y3 y4 y5
    have hRI := hide (fun W (hW : Below w1.heap.size w1 W) => ReadLetter_any u W (by omega) (HT.out W hW))
    have hRS := hide (fun W => sReadLetter_any u W (by omega))
    have HTA := hide (fun W (hW : Below w1.heap.size w1 W) => LetterText_any (VV.rdA u) W (by have := hfin u; omega) (HT.out W hW))
    have HP2 : Hid (VV.rdOk u = true → VV.text (VV.rdA u) = u) := fun h => VV.rdA_text h
    clear hfin
    generalize VV.ok (VV.rdA u) = okz at *
    generalize VV.text (VV.rdA u) = again at *
    generalize VV.rdOk u = may at *
    generalize VV.rdA u = Z at *
    go_wp2_with fail
    refine (hRI.out _ HW7.out).mono ?_
    rintro e w8 ⟨rfl, hb8⟩
    have HB8 : Hid (BXL w1 (w8.alloc (.cells #[.int .i64 Z.k, .int .i64 Z.f, .int .i64 Z.t, .int .i64 Z.e, .int .i64 Z.y, .string Z.r] 25)) [(w8.heap.size, Z)]) := BXL.add ⟨HW7.out.trans (hb8.mono HW7.out.size), fun b hb => absurd hb (by simp)⟩ Z
    clear HW7 hb8 hRI
    go_wp2_with fail
    refine (hRS.out _).mono ?_
    rintro e w9 ⟨rfl, hb9⟩
    have HB9 : Hid (BXL w1 (w9.alloc (.cells #[.int .i64 Z.k, .int .i64 Z.f, .int .i64 Z.t, .int .i64 Z.e, .int .i64 Z.y, .string Z.r] 25)) [(w9.heap.size, Z), (w8.heap.size, Z)]) := (HB8.out.later hb9).add Z
    clear HB8 hb9 hRS
    have z0 := (HB9.out.2 (w8.heap.size, Z) (by simp)).1.c0
    have z1 := (HB9.out.2 (w8.heap.size, Z) (by simp)).1.c1
    have z2 := (HB9.out.2 (w8.heap.size, Z) (by simp)).1.c2
    have z3 := (HB9.out.2 (w8.heap.size, Z) (by simp)).1.c3
    have z4 := (HB9.out.2 (w8.heap.size, Z) (by simp)).1.c4
    have z5 := (HB9.out.2 (w8.heap.size, Z) (by simp)).1.c5
    simp only at z0 z1 z2 z3 z4 z5
    go_wp2_with fail
    refine (HTA.out _ HB9.out.1).mono ?_
    rintro e w10 ⟨rfl, hb10⟩
    have HW10 : Hid (Below w1.heap.size w1 w10) := HB9.out.1.trans (hb10.mono HB9.out.1.size)
    clear HB9 hb10 HTA z0 z1 z2 z3 z4 z5
    go_wp2_with fail
    refine (DrawPlaces_any _ _ (HC.out _ HW10.out)).mono ?_
    rintro e w11 ⟨pl, rfl, ⟨gp, pc, xs, rfl, hxl, hxs, hg1, hg2, hcells⟩, hb11⟩
    have x0 := hcells 0 (by omega)
    have x1 := hcells 1 (by omega)
    have y0 : xs[0] < 10000 := hxs _ (List.getElem_mem _)
    have y1 : xs[1] < 10000 := hxs _ (List.getElem_mem _)
    have hTB := HTB2.out gp pc xs[0] xs[1] w11 y0 y1 hg2 x0 x1
    have HW11 : Hid (Below w1.heap.size w1 w11) := HW10.out.trans (hb11.mono HW10.out.size)
    clear HW10 hb11 x0 x1 y0 y1 hcells hxs HTB2
    go_wp2_with fail
    refine hTB.mono ?_
    rintro e w12 ⟨u2, hu2, hbent, rfl, hb12⟩
    have HW12 : Hid (Below w1.heap.size w1 w12) := HW11.out.trans (hb12.mono HW11.out.size)
    have hR2 := ReadLetter_any u2 w12 (by omega) (HT.out _ HW12.out)
    clear HW11 hb12 hTB
    generalize VV.rdOk u2 = bt at *
    generalize VV.rdA u2 = Z2 at *
    go_wp2_with fail
    refine hR2.mono ?_
    rintro e w13 ⟨rfl, hb13⟩
    have HW13 : Hid (Below w1.heap.size w1 (w13.alloc (.cells #[.int .i64 Z2.k, .int .i64 Z2.f, .int .i64 Z2.t, .int .i64 Z2.e, .int .i64 Z2.y, .string Z2.r] 25))) := by
      have h := HW12.out.trans (hb13.mono HW12.out.size)
      exact h.alloc h.size _
    clear HW12 hb13 hR2 HC HT
    first
      | (have hbt := hbent rfl; subst hbt)
      | (have hbt := hbent trivial; subst hbt)
      | subst hbent
      | clear hbent
    cases may
    · clear HP2
      go_wp2
      go_ret
      exact ⟨rfl, HW13.out⟩
    · have he := HP2.out rfl
      have qa : (again.toList == u.toList) = true := by rw [he]; simp
      clear he HP2
      go_wp2
      go_ret
      exact ⟨rfl, HW13.out⟩

end Go.Proofs.YtodibhiinfbhiaaDoor
