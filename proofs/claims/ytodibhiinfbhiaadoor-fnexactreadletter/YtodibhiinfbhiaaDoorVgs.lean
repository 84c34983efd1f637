/-
  A letter read from its text: the specification's answer.
-/
import Derived.Test.YtodibhiinfbhiaaDoorVg
import Derived.Test.YtodibhiinfbhiaaDoorVf
import Derived.Test.YtodibhiinfbhiaaDoorLvb
namespace Go.Proofs.YtodibhiinfbhiaaDoor
open Go.RowKit Go.BigFrame Go.Sort
set_option linter.unusedVariables false
set_option linter.unusedSimpArgs false

/-- one byte read at a cursor, whether there is one or not -/
theorem l09Byte_w (c : Nat) (s : ByteArray) (p : Nat) (b : Bool) (w : World) (h : Cu w c s p b) (hs : s.size ≤ 1048576) (hp : p ≤ s.size) :
    Calls Tryd.prog 35 #[.pointer (some ⟨c, 0, none⟩)] w fun e w' => ∃ (v : Int) (r : Nat) (b' : Bool), e = .returned (.int .i64 v) ∧ Cu w' c s r b' ∧ r ≤ s.size ∧ (b' = false → b = false ∧ p < s.size ∧ v = ((byB s p).toNat : Int) ∧ r = p + 1) ∧ (b' = true → b = true ∨ p = s.size) ∧ w.grownBy w' (some c) := by
  by_cases hno : b = true ∨ p = s.size
  · exact (l09Byte_no c s p b w h hs hp hno).mono fun e w' ⟨⟨he, hc⟩, hg⟩ => ⟨0, p, true, he, hc, hp, fun h => (by cases h), fun _ => hno, hg⟩
  · have hb : b = false := by cases b; rfl; exact absurd (.inl rfl) hno
    subst hb
    have hlt : p < s.size := by rcases Nat.lt_or_ge p s.size with h | h; exact h; exact absurd (.inr (by omega)) hno
    exact (l09Byte_yes c s p w h hs hlt).mono fun e w' ⟨⟨he, hc⟩, hg⟩ => ⟨_, p + 1, false, he, hc, hlt, fun _ => ⟨rfl, hlt, rfl, rfl⟩, fun h => (by cases h), hg⟩
/-- a number read at a cursor -/
theorem l09Var_w (c : Nat) (s : ByteArray) (p : Nat) (b : Bool) (w : World) (h : Cu w c s p b) (hs : s.size ≤ 1048576) (hp : p ≤ s.size) :
    Calls Tryd.prog 36 #[.pointer (some ⟨c, 0, none⟩)] w fun e w' => ∃ (n r : Nat) (b' : Bool), e = .returned (.int .i64 (n : Int)) ∧ Cu w' c s r b' ∧ r ≤ s.size ∧ (b' = false → b = false ∧ M.readVar s.data.toList p = some (n, r)) ∧ (b' = true → b = true ∨ M.readVar s.data.toList p = none) ∧ w.grownBy w' (some c) := by
  cases b with
  | true => exact (l09Var_bad c s p w h hs hp).mono fun e w' ⟨⟨he, hc⟩, hg⟩ => ⟨0, p, true, he, hc, hp, fun h => (by cases h), fun _ => .inl rfl, hg⟩
  | false =>
    refine (l09Var_at c s p w h hs hp).mono ?_
    rintro e w' ⟨hm, hg⟩
    cases hr : M.readVar s.data.toList p with
    | none => rw [hr] at hm; exact ⟨0, p, true, hm.1, hm.2, hp, fun h => (by cases h), fun _ => .inr rfl, hg⟩
    | some y =>
      obtain ⟨n, q⟩ := y
      rw [hr] at hm
      exact ⟨n, q, false, hm.1, hm.2, (read_bound s p n q hr).1, fun _ => ⟨rfl, rfl⟩, fun h => (by cases h), hg⟩

namespace VV
/-- what five readings one after the other say -/
theorem five {t s : ByteArray} {b0 b1 b2 b3 b4 b5 : Bool} {v0 v1 v2 v3 : Int} {p1 p2 p3 p4 n q : Nat} (h0 : b0 = false → uns t = some s) (k0 : b0 = true → uns t = none)
    (h1 : b1 = false → b0 = false ∧ 0 < s.size ∧ v0 = ((byB s 0).toNat : Int) ∧ p1 = 0 + 1) (k1 : b1 = true → b0 = true ∨ 0 = s.size)
    (h2 : b2 = false → b1 = false ∧ p1 < s.size ∧ v1 = ((byB s p1).toNat : Int) ∧ p2 = p1 + 1) (k2 : b2 = true → b1 = true ∨ p1 = s.size)
    (h3 : b3 = false → b2 = false ∧ p2 < s.size ∧ v2 = ((byB s p2).toNat : Int) ∧ p3 = p2 + 1) (k3 : b3 = true → b2 = true ∨ p2 = s.size)
    (h4 : b4 = false → b3 = false ∧ p3 < s.size ∧ v3 = ((byB s p3).toNat : Int) ∧ p4 = p3 + 1) (k4 : b4 = true → b3 = true ∨ p3 = s.size)
    (h5 : b5 = false → b4 = false ∧ M.readVar s.data.toList p4 = some (n, q)) (k5 : b5 = true → b4 = true ∨ M.readVar s.data.toList p4 = none) :
    (b5 = true → rd t = none) ∧ (b5 = false → uns t = some s ∧ raw s = some ⟨v0, v1, v2, v3, (n : Int), s.extract q s.size⟩) := by
  have a1 : b1 = true → rd t = none := fun h => by
    cases b0 with
    | true => exact rd_no1 (k0 rfl)
    | false => rcases k1 h with h | h; cases h; exact rd_no2 (h0 rfl) (raw_no1 (by omega))
  have a2 : b2 = true → rd t = none := fun h => by
    cases b1 with
    | true => exact a1 rfl
    | false =>
      obtain ⟨e0, _, _, e1⟩ := h1 rfl
      rcases k2 h with h | h; cases h; exact rd_no2 (h0 e0) (raw_no1 (by omega))
  have a3 : b3 = true → rd t = none := fun h => by
    cases b2 with
    | true => exact a2 rfl
    | false =>
      obtain ⟨f1, _, _, e2⟩ := h2 rfl
      obtain ⟨e0, _, _, e1⟩ := h1 f1
      rcases k3 h with h | h; cases h; exact rd_no2 (h0 e0) (raw_no1 (by omega))
  have a4 : b4 = true → rd t = none := fun h => by
    cases b3 with
    | true => exact a3 rfl
    | false =>
      obtain ⟨f2, _, _, e3⟩ := h3 rfl
      obtain ⟨f1, _, _, e2⟩ := h2 f2
      obtain ⟨e0, _, _, e1⟩ := h1 f1
      rcases k4 h with h | h; cases h; exact rd_no2 (h0 e0) (raw_no1 (by omega))
  refine ⟨fun h => ?_, fun h => ?_⟩
  · cases b4 with
    | true => exact a4 rfl
    | false =>
      obtain ⟨f3, _, _, e4⟩ := h4 rfl
      obtain ⟨f2, _, _, e3⟩ := h3 f3
      obtain ⟨f1, _, _, e2⟩ := h2 f2
      obtain ⟨e0, _, _, e1⟩ := h1 f1
      have ep : p4 = 4 := by omega
      rw [ep] at k5
      rcases k5 h with h | h
      · cases h
      · exact rd_no2 (h0 e0) (raw_no2 h)
  · obtain ⟨f4, hv⟩ := h5 h
    obtain ⟨f3, l4, g3, e4⟩ := h4 f4
    obtain ⟨f2, l3, g2, e3⟩ := h3 f3
    obtain ⟨f1, l2, g1, e2⟩ := h2 f2
    obtain ⟨e0, l1, g0, e1⟩ := h1 f1
    have ep : p4 = 4 := by omega
    have ep3 : p3 = 3 := by omega
    have ep2 : p2 = 2 := by omega
    have ep1 : p1 = 1 := by omega
    rw [ep] at hv
    refine ⟨h0 e0, ?_⟩
    rw [raw_yes (by omega) hv, g0, g1, g2, g3, ep1, ep2, ep3]
end VV

/-- where the reader's cursor, what is answered and what is read lie -/
def RcL (s : ByteArray) (c : Nat) (w W : World) (g : Nat) (x : Ltr) (p : Nat) (b : Bool) : Prop := Below w.heap.size w W ∧ BK W w.heap.size VV.zL ∧ Cu W c s p b ∧ BK W g x ∧ w.heap.size < c ∧ c < g
section
variable {s : ByteArray} {c : Nat} {w W W' : World} {g p q : Nat} {x : Ltr} {b b' : Bool}
theorem RcL.read (h : RcL s c w W g x p b) (hg : W.grownBy W' (some c)) (hc : Cu W' c s q b') : RcL s c w W' g x q b' := by
  obtain ⟨h1, h2, h3, h4, h5, h6⟩ := h
  exact ⟨h1.grown hg h1.size (fun k hk => by simp at hk; omega), h2.grown hg (by simp; omega), hc, h4.grown hg (by simp; omega), h5, h6⟩
theorem RcL.later (h : RcL s c w W g x p b) (hb : Below W.heap.size W W') : RcL s c w W' g x p b := by
  obtain ⟨h1, h2, h3, h4, h5, h6⟩ := h
  exact ⟨h1.trans (hb.mono h1.size), h2.later hb, h3.later hb, h4.later hb, h5, h6⟩
theorem RcL.set (h : RcL s c w W g x p b) {y : Ltr} (o : Nat) (u : Value) (hy : BK (W.setCell ⟨g, o, none⟩ u) g y) : RcL s c w (W.setCell ⟨g, o, none⟩ u) g y p b := by
  obtain ⟨h1, h2, h3, h4, h5, h6⟩ := h
  have hg := grown_setC W g o u
  exact ⟨h1.grown hg h1.size (fun k hk => by simp at hk; omega), h2.grown hg (by simp; omega), h3.grown hg (by simp; omega), hy, h5, h6⟩
/-- what is answered is written where it is answered -/
theorem RcL.put (h : RcL s c w W g x p b) (y : Ltr) : BK (W.setCells w.heap.size 0 (kcs y)) w.heap.size y ∧ Below w.heap.size w (W.setCells w.heap.size 0 (kcs y)) := ⟨h.2.1.put y, below_setCells (Nat.le_refl _) _ _ _ h.1⟩
end

set_option maxRecDepth 100000 in
set_option maxHeartbeats 2000000 in
theorem sReadLetter_any (t : ByteArray) (w : World) (ht : t.size ≤ 1048576) :
    Calls Tryd.prog 13 #[.string t] w fun e w' => e = .returned (.tuple #[.agg #[.int .i64 (VV.rdA t).k, .int .i64 (VV.rdA t).f, .int .i64 (VV.rdA t).t, .int .i64 (VV.rdA t).e, .int .i64 (VV.rdA t).y, .string (VV.rdA t).r], .bool (VV.rdOk t)]) ∧ Below w.heap.size w w' := by
  have HZ : Hid (BK (w.alloc (.cells #[.int .i64 0, .int .i64 0, .int .i64 0, .int .i64 0, .int .i64 0, .string ⟨#[]⟩] 25)) w.heap.size VV.zL ∧ Below w.heap.size w (w.alloc (.cells #[.int .i64 0, .int .i64 0, .int .i64 0, .int .i64 0, .int .i64 0, .string ⟨#[]⟩] 25))) := ⟨BK.new w VV.zL, (Below.refl _ _).alloc (Nat.le_refl _) _⟩
  have hU : Calls Tryd.prog 32 #[.string t] (w.alloc (.cells #[.int .i64 0, .int .i64 0, .int .i64 0, .int .i64 0, .int .i64 0, .string ⟨#[]⟩] 25)) fun e w' => ∃ (s : ByteArray) (b : Bool), e = .returned (.tuple #[.string s, .bool (!b)]) ∧ s.size ≤ 20000 ∧ (b = false → VV.uns t = some s) ∧ (b = true → VV.uns t = none) ∧ Below (w.alloc (.cells #[.int .i64 0, .int .i64 0, .int .i64 0, .int .i64 0, .int .i64 0, .string ⟨#[]⟩] 25)).heap.size (w.alloc (.cells #[.int .i64 0, .int .i64 0, .int .i64 0, .int .i64 0, .int .i64 0, .string ⟨#[]⟩] 25)) w' := by
    have h := sUnsealed_at t (w.alloc (.cells #[.int .i64 0, .int .i64 0, .int .i64 0, .int .i64 0, .int .i64 0, .string ⟨#[]⟩] 25)) ht
    cases hu : VV.uns t with
    | none => rw [hu] at h; exact h.mono fun e w' ⟨he, hb⟩ => ⟨⟨#[]⟩, true, he, by show 0 ≤ 20000; omega, fun h => (by cases h), fun _ => rfl, hb⟩
    | some u => rw [hu] at h; exact h.mono fun e w' ⟨he, hb⟩ => ⟨u, false, he, (VV.uns_sealed hu).2.2, fun _ => rfl, fun h => (by cases h), hb⟩
  have HCT : Hid (∀ (x : Ltr) W, x.r.size ≤ 1048576 → Calls Tryd.prog 17 #[.agg #[.int .i64 x.k, .int .i64 x.f, .int .i64 x.t, .int .i64 x.e, .int .i64 x.y, .string x.r]] W fun e w' => e = .returned (.tuple #[.string (VV.text x), .bool (VV.ok x)]) ∧ Below W.heap.size W w') := fun x W h1 => sLetterText_any x W h1
  clear ht
  go_enter Tryd.func13, Tryd.ntmps13
  go_wp2_with fail
  refine hU.mono ?_
  rintro e w1 ⟨s, b0, rfl, hsz, h0, k0, hb1⟩
  have HZ1 : Hid (BK w1 w.heap.size VV.zL ∧ Below w.heap.size w w1) := ⟨HZ.out.1.later hb1, HZ.out.2.trans (hb1.mono HZ.out.2.size)⟩
  clear hU HZ hb1
  go_wp2_with fail
  have HB1 : Hid (Below w.heap.size w (w1.alloc (.cells #[.string s, .int .i64 0, .bool b0] 60)) ∧ BK (w1.alloc (.cells #[.string s, .int .i64 0, .bool b0] 60)) w.heap.size VV.zL ∧ Cu (w1.alloc (.cells #[.string s, .int .i64 0, .bool b0] 60)) w1.heap.size s 0 b0 ∧ w.heap.size < w1.heap.size) := by
    have ha : Below w1.heap.size w1 (w1.alloc (.cells #[.string s, .int .i64 0, .bool b0] 60)) := (Below.refl _ _).alloc (Nat.le_refl _) _
    exact ⟨HZ1.out.2.trans (ha.mono HZ1.out.2.size), HZ1.out.1.later ha, Go.heap_alloc_new w1 _, HZ1.out.1.lt⟩
  have hc1 := l09Byte_w w1.heap.size s 0 b0 _ HB1.out.2.2.1 (by omega) (Nat.zero_le _)
  clear HZ1
  refine hc1.mono ?_
  rintro e w2 ⟨v0, p1, b1, rfl, hcu, hp1, h1, k1, hg⟩
  have HS : Hid (RcL s w1.heap.size w (w2.alloc (.cells #[.int .i64 v0, .int .i64 0, .int .i64 0, .int .i64 0, .int .i64 0, .string ⟨#[]⟩] 25)) w2.heap.size ⟨v0, 0, 0, 0, 0, ⟨#[]⟩⟩ p1 b1) := by
    have q1 := HB1.out.1.grown hg HB1.out.1.size (fun k hk => by have := HB1.out.2.2.2; simp at hk; omega)
    have q2 : Below w2.heap.size w2 (w2.alloc (.cells #[.int .i64 v0, .int .i64 0, .int .i64 0, .int .i64 0, .int .i64 0, .string ⟨#[]⟩] 25)) := (Below.refl _ _).alloc (Nat.le_refl _) _
    exact ⟨q1.alloc q1.size _, (HB1.out.2.1.grown hg (by have := HB1.out.2.2.2; simp; omega)).later q2, hcu.later q2, BK.new w2 ⟨v0, 0, 0, 0, 0, ⟨#[]⟩⟩, HB1.out.2.2.2, hcu.lt⟩
  clear hc1 HB1 hcu hg
  have hc2 := l09Byte_w w1.heap.size s p1 b1 _ HS.out.2.2.1 (by omega) hp1
  go_wp2_with fail
  refine hc2.mono ?_
  rintro e u1 ⟨v1, p2, b2, rfl, hcu, hp2, h2, k2, hg⟩
  have HR1 : Hid (RcL s w1.heap.size w u1 w2.heap.size ⟨v0, 0, 0, 0, 0, ⟨#[]⟩⟩ p2 b2) := HS.out.read hg hcu
  have y1 := HR1.out.2.2.2.1.c1
  have f1 := HR1.out.2.2.2.1.fz 1
  have HS1 : Hid (RcL s w1.heap.size w (u1.setCell ⟨w2.heap.size, 1, none⟩ (.int .i64 v1)) w2.heap.size ⟨v0, v1, 0, 0, 0, ⟨#[]⟩⟩ p2 b2) := HR1.out.set 1 _ (HR1.out.2.2.2.1.set1 v1)
  clear hcu hg hc2 HS HR1
  simp only at y1
  have hc3 := l09Byte_w w1.heap.size s p2 b2 _ HS1.out.2.2.1 (by omega) hp2
  go_wp2_with fail
  refine hc3.mono ?_
  rintro e u2 ⟨v2, p3, b3, rfl, hcu, hp3, h3, k3, hg⟩
  have HR2 : Hid (RcL s w1.heap.size w u2 w2.heap.size ⟨v0, v1, 0, 0, 0, ⟨#[]⟩⟩ p3 b3) := HS1.out.read hg hcu
  have y2 := HR2.out.2.2.2.1.c2
  have f2 := HR2.out.2.2.2.1.fz 2
  have HS2 : Hid (RcL s w1.heap.size w (u2.setCell ⟨w2.heap.size, 2, none⟩ (.int .i64 v2)) w2.heap.size ⟨v0, v1, v2, 0, 0, ⟨#[]⟩⟩ p3 b3) := HR2.out.set 2 _ (HR2.out.2.2.2.1.set2 v2)
  clear hcu hg hc3 HS1 HR2 y1 f1
  simp only at y2
  have hc4 := l09Byte_w w1.heap.size s p3 b3 _ HS2.out.2.2.1 (by omega) hp3
  go_wp2_with fail
  refine hc4.mono ?_
  rintro e u3 ⟨v3, p4, b4, rfl, hcu, hp4, h4, k4, hg⟩
  have HR3 : Hid (RcL s w1.heap.size w u3 w2.heap.size ⟨v0, v1, v2, 0, 0, ⟨#[]⟩⟩ p4 b4) := HS2.out.read hg hcu
  have y3 := HR3.out.2.2.2.1.c3
  have f3 := HR3.out.2.2.2.1.fz 3
  have HS3 : Hid (RcL s w1.heap.size w (u3.setCell ⟨w2.heap.size, 3, none⟩ (.int .i64 v3)) w2.heap.size ⟨v0, v1, v2, v3, 0, ⟨#[]⟩⟩ p4 b4) := HR3.out.set 3 _ (HR3.out.2.2.2.1.set3 v3)
  clear hcu hg hc4 HS2 HR3 y2 f2
  simp only at y3
  have hc5 := l09Var_w w1.heap.size s p4 b4 _ HS3.out.2.2.1 (by omega) hp4
  go_wp2_with fail
  refine hc5.mono ?_
  rintro e u4 ⟨n, q, b5, rfl, hcu, hq, h5, k5, hg⟩
  have HR4 : Hid (RcL s w1.heap.size w u4 w2.heap.size ⟨v0, v1, v2, v3, 0, ⟨#[]⟩⟩ q b5) := HS3.out.read hg hcu
  have y4 := HR4.out.2.2.2.1.c4
  have f4 := HR4.out.2.2.2.1.fz 4
  have HS4 : Hid (RcL s w1.heap.size w (u4.setCell ⟨w2.heap.size, 4, none⟩ (.int .i64 (n : Int))) w2.heap.size ⟨v0, v1, v2, v3, (n : Int), ⟨#[]⟩⟩ q b5) := HR4.out.set 4 _ (HR4.out.2.2.2.1.set4 (n : Int))
  clear hcu hg hc5 HS3 y3 f3
  simp only at y4
  have hm := VV.five h0 k0 h1 k1 h2 k2 h3 k3 h4 k4 h5 k5
  clear h0 k0 h1 k1 h2 k2 h3 k3 h4 k4 h5 k5 hp1 hp2 hp3 hp4
  have HM : Hid ((b5 = true → VV.rd t = none) ∧ (b5 = false → VV.uns t = some s ∧ VV.raw s = some ⟨v0, v1, v2, v3, (n : Int), s.extract q s.size⟩)) := hm
  clear hm
  have cb := HR4.out.2.2.1.c2
  have hn1 : w1.heap.size ≠ w2.heap.size := by have := HR4.out.2.2.2.2.2; omega
  have hn2 : w2.heap.size ≠ w.heap.size := by have := HR4.out.2.2.2.2; omega
  cases b5 with
  | true =>
    have HD := hide (VV.rd_none (HM.out.1 rfl))
    have HE := hide (HS4.out.put VV.zL)
    have z0 := HR4.out.2.1.c0
    have g0 := HR4.out.2.1.fz 0
    have z1 := HR4.out.2.1.c1
    have g1 := HR4.out.2.1.fz 1
    have z2 := HR4.out.2.1.c2
    have g2 := HR4.out.2.1.fz 2
    have z3 := HR4.out.2.1.c3
    have g3 := HR4.out.2.1.fz 3
    have z4 := HR4.out.2.1.c4
    have g4 := HR4.out.2.1.fz 4
    have z5 := HR4.out.2.1.c5
    have g5 := HR4.out.2.1.fz 5
    clear HM HR4 HS4 HCT
    go_wp2
    exact ret_ltr2 2 3 w.heap.size VV.zL _ rfl rfl rfl rfl HE.out.1 ⟨by rw [HD.out.1, HD.out.2]; rfl, HE.out.2⟩
  | false =>
    obtain ⟨hu, hraw⟩ := HM.out.2 rfl
    have hus := (VV.uns_sealed hu).2.2
    have ca := HR4.out.2.2.1.c1
    have y0 := HR4.out.2.2.2.1.c0
    have y1 := HR4.out.2.2.2.1.c1
    have y2 := HR4.out.2.2.2.1.c2
    have y3 := HR4.out.2.2.2.1.c3
    have y5 := HR4.out.2.2.2.1.c5
    have f5 := HR4.out.2.2.2.1.fz 5
    simp only at y0 y1 y2 y3 y5
    have HS5 : Hid (RcL s w1.heap.size w ((u4.setCell ⟨w2.heap.size, 4, none⟩ (.int .i64 (n : Int))).setCell ⟨w2.heap.size, 5, none⟩ (.string (s.extract q s.size))) w2.heap.size ⟨v0, v1, v2, v3, (n : Int), s.extract q s.size⟩ q false) := HS4.out.set 5 _ (HS4.out.2.2.2.1.set5 (s.extract q s.size))
    have hct := HCT.out ⟨v0, v1, v2, v3, (n : Int), s.extract q s.size⟩
    simp only at hct
    have hxs : (s.extract q s.size).size ≤ 1048576 := by rw [ByteArray.size_extract]; omega
    have HCT2 := hide (fun W => hct W hxs)
    have HA : Hid ((VV.ok ⟨v0, v1, v2, v3, (n : Int), s.extract q s.size⟩ = true → VV.rdOk t = true ∧ VV.rdA t = ⟨v0, v1, v2, v3, (n : Int), s.extract q s.size⟩ ∧ VV.text ⟨v0, v1, v2, v3, (n : Int), s.extract q s.size⟩ = t) ∧ (VV.ok ⟨v0, v1, v2, v3, (n : Int), s.extract q s.size⟩ = false → VV.rdOk t = false ∧ VV.rdA t = VV.zL)) := by
      refine ⟨fun h => ?_, fun h => VV.rd_none (VV.rd_no3 hu hraw h)⟩
      have hrd := VV.rd_yes hu hraw h
      exact ⟨(VV.rd_some hrd).1, (VV.rd_some hrd).2, (VV.rd_text hrd).2⟩
    have ks := run_fromV s (q : Int) q rfl hq
    clear hct HCT HM HR4 HS4 hu hraw hus
    generalize VV.ok ⟨v0, v1, v2, v3, (n : Int), s.extract q s.size⟩ = B at *
    generalize VV.text ⟨v0, v1, v2, v3, (n : Int), s.extract q s.size⟩ = X at *
    generalize s.extract q s.size = Rt at *
    go_wp2_with fail
    refine (HCT2.out _).mono ?_
    rintro e w6 ⟨rfl, hb6⟩
    have HS6 : Hid (RcL s w1.heap.size w w6 w2.heap.size ⟨v0, v1, v2, v3, (n : Int), Rt⟩ q false) := HS5.out.later hb6
    clear HS5 HCT2 hb6 y0 y1 y2 y3 y4 y5 f4 f5 ca cb ks
    have HE := hide (HS6.out.put VV.zL)
    have z0 := HS6.out.2.1.c0
    have g0 := HS6.out.2.1.fz 0
    have z1 := HS6.out.2.1.c1
    have g1 := HS6.out.2.1.fz 1
    have z2 := HS6.out.2.1.c2
    have g2 := HS6.out.2.1.fz 2
    have z3 := HS6.out.2.1.c3
    have g3 := HS6.out.2.1.fz 3
    have z4 := HS6.out.2.1.c4
    have g4 := HS6.out.2.1.fz 4
    have z5 := HS6.out.2.1.c5
    have g5 := HS6.out.2.1.fz 5
    cases B
    · have HD := hide (HA.out.2 rfl)
      clear HA HS6
      go_wp2
      exact ret_ltr2 2 3 w.heap.size VV.zL _ rfl rfl rfl rfl HE.out.1 ⟨by rw [HD.out.1, HD.out.2]; rfl, HE.out.2⟩
    · have HD := hide (HA.out.1 rfl)
      have qx : (X.toList == t.toList) = true := by rw [HD.out.2.2]; simp
      have HY := hide (HS6.out.put ⟨v0, v1, v2, v3, (n : Int), Rt⟩)
      have y0 := HS6.out.2.2.2.1.c0
      have y1 := HS6.out.2.2.2.1.c1
      have y2 := HS6.out.2.2.2.1.c2
      have y3 := HS6.out.2.2.2.1.c3
      have y4 := HS6.out.2.2.2.1.c4
      have y5 := HS6.out.2.2.2.1.c5
      simp only at y0 y1 y2 y3 y4 y5
      clear HA HS6 HE
      go_wp2
      exact ret_ltr2 2 3 w.heap.size ⟨v0, v1, v2, v3, (n : Int), Rt⟩ _ rfl rfl rfl rfl HY.out.1 ⟨by rw [HD.out.1, HD.out.2.1]; rfl, HY.out.2⟩

end Go.Proofs.YtodibhiinfbhiaaDoor
