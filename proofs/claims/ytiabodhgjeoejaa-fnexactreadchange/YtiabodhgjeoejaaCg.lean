/-
  A change read from its text: the specification's answer.
-/
import Derived.Test.YtiabodhgjeoejaaCf
import Derived.Test.YtiabodhgjeoejaaLg
namespace Go.Proofs.Ytiabodhgjeoejaa
open Go.RowKit Go.BigFrame Go.Sort
set_option linter.unusedVariables false
set_option linter.unusedSimpArgs false

/-- one text read at a cursor, whether there is one or not -/
theorem l09Short_u (c : Nat) (s : ByteArray) (p : Nat) (b : Bool) (w : World) (h : Cu w c s p b) (hs : s.size ≤ 1048576) (hp : p ≤ s.size) :
    Calls Try.prog 55 #[.pointer (some ⟨c, 0, none⟩)] w fun e w' => ∃ T r b', e = .returned (.string T) ∧ Cu w' c s r b' ∧ r ≤ s.size ∧ T.size ≤ s.size ∧ (b' = false → b = false ∧ LV.shortAt s p = some (T, r)) ∧ (b' = true → b = true ∨ LV.shortAt s p = none) ∧ w.grownBy w' (some c) := by
  cases b with
  | true => exact (l09Short_no c s p true w h hs hp (.inl rfl)).mono fun e w' ⟨⟨he, hc⟩, hg⟩ => ⟨_, p, true, he, hc, hp, Nat.zero_le _, fun h => (by cases h), fun _ => .inl rfl, hg⟩
  | false =>
    cases hr : LV.shortAt s p with
    | none => exact (l09Short_no c s p false w h hs hp (.inr hr)).mono fun e w' ⟨⟨he, hc⟩, hg⟩ => ⟨_, p, true, he, hc, hp, Nat.zero_le _, fun h => (by cases h), fun _ => .inr rfl, hg⟩
    | some y =>
      obtain ⟨T, r⟩ := y
      exact (l09Short_yes c s p r T w h hs hp hr).mono fun e w' ⟨⟨he, hc⟩, hg⟩ => ⟨T, r, false, he, hc, (LV.shortAt_some hp hr).2.1, LV.shortAt_size hr, fun _ => ⟨rfl, rfl⟩, fun h => (by cases h), hg⟩
theorem l09Var_u (c : Nat) (s : ByteArray) (p : Nat) (w : World) (h : Cu w c s p false) (hs : s.size ≤ 1048576) (hp : p ≤ s.size) :
    Calls Try.prog 54 #[.pointer (some ⟨c, 0, none⟩)] w fun e w' => ∃ (n r : Nat) (b' : Bool), e = .returned (.int .i64 (n : Int)) ∧ Cu w' c s r b' ∧ r ≤ s.size ∧ (b' = false → M.readVar s.data.toList p = some (n, r)) ∧ (b' = true → M.readVar s.data.toList p = none) ∧ w.grownBy w' (some c) := by
  refine (l09Var_at c s p w h hs hp).mono ?_
  rintro e w' ⟨hm, hg⟩
  cases hr : M.readVar s.data.toList p with
  | none => rw [hr] at hm; exact ⟨0, p, true, hm.1, hm.2, hp, fun h => (by cases h), fun _ => rfl, hg⟩
  | some y =>
    obtain ⟨n, q⟩ := y
    rw [hr] at hm
    exact ⟨n, q, false, hm.1, hm.2, (read_bound s p n q hr).1, fun _ => rfl, fun h => (by cases h), hg⟩
namespace UV
/-- what three readings one after the other say -/
theorem three {t A V : ByteArray} {n p q r : Nat} {b1 b2 b3 : Bool} (h1 : b1 = false → M.readVar t.data.toList 0 = some (n, p)) (k1 : b1 = true → M.readVar t.data.toList 0 = none)
    (h2 : b2 = false → b1 = false ∧ LV.shortAt t p = some (A, q)) (k2 : b2 = true → b1 = true ∨ LV.shortAt t p = none) (h3 : b3 = false → b2 = false ∧ LV.shortAt t q = some (V, r)) (k3 : b3 = true → b2 = true ∨ LV.shortAt t q = none) :
    (b3 = true → rdOk t = false ∧ rdA t = zU) ∧ (b3 = false → okU ⟨(n : Int), A, V⟩ = false → rdOk t = false ∧ rdA t = zU) ∧ (b3 = false → okU ⟨(n : Int), A, V⟩ = true → textU ⟨(n : Int), A, V⟩ ≠ t → rdOk t = false ∧ rdA t = zU) ∧ (b3 = false → okU ⟨(n : Int), A, V⟩ = true → textU ⟨(n : Int), A, V⟩ = t → rdOk t = true ∧ rdA t = ⟨(n : Int), A, V⟩) := by
  have hsome : b3 = false → M.readVar t.data.toList 0 = some (n, p) ∧ LV.leafAt t p = some (⟨A, V⟩, r) := fun h => by
    obtain ⟨e2, s2⟩ := h3 h
    obtain ⟨e1, s1⟩ := h2 e2
    refine ⟨h1 e1, ?_⟩
    unfold LV.leafAt; rw [s1]; simp only; rw [s2]
  refine ⟨fun h => ?_, fun h ho => ?_, fun h ho ht => ?_, fun h ho ht => ?_⟩
  · apply rd_none
    cases hv : M.readVar t.data.toList 0 with
    | none => exact raw_none1 hv
    | some y =>
      have e1 : b1 = false := by cases b1; rfl; rw [k1 rfl] at hv; cases hv
      rw [h1 e1] at hv
      obtain rfl := Option.some.inj hv
      refine raw_none2 (h1 e1) ?_
      cases b2 with
      | true =>
        have s1 : LV.shortAt t p = none := by rcases k2 rfl with h | h; rw [e1] at h; cases h; exact h
        unfold LV.leafAt; rw [s1]
      | false =>
        have s2 : LV.shortAt t q = none := by rcases k3 h with h | h; cases h; exact h
        unfold LV.leafAt; rw [(h2 rfl).2]; simp only; rw [s2]
  · obtain ⟨e1, e2⟩ := hsome h
    obtain ⟨d1, d2⟩ := rd_some (raw_some e1 e2)
    simp only [ho, Bool.and_false] at d1 d2
    exact ⟨d1, by rw [d2]; rfl⟩
  · obtain ⟨e1, e2⟩ := hsome h
    obtain ⟨d1, d2⟩ := rd_some (raw_some e1 e2)
    have hne : r ≠ t.size := fun hr => ht (by unfold textU; rw [if_pos ho]; exact (raw_whole e1 e2).2 hr)
    simp only [ho, Bool.and_true, decide_eq_false hne] at d1 d2
    exact ⟨d1, by rw [d2]; rfl⟩
  · obtain ⟨e1, e2⟩ := hsome h
    obtain ⟨d1, d2⟩ := rd_some (raw_some e1 e2)
    have he : r = t.size := (raw_whole e1 e2).1 (by unfold textU at ht; rw [if_pos ho] at ht; exact ht)
    simp only [ho, Bool.and_true, decide_eq_true he] at d1 d2
    exact ⟨d1, by rw [d2]; rfl⟩
end UV

/-- where the reader's cursor, what is answered and what is read lie -/
def RcS (t : ByteArray) (w W : World) (g : Nat) (x : Ug) (p : Nat) (b : Bool) : Prop := Below w.heap.size w W ∧ BU W w.heap.size UV.zU ∧ Cu W (w.heap.size + 1) t p b ∧ BU W g x ∧ w.heap.size + 1 < g
section
variable {t : ByteArray} {w W W' : World} {g p q : Nat} {x : Ug} {b b' : Bool}
theorem RcS.read (h : RcS t w W g x p b) (hg : W.grownBy W' (some (w.heap.size + 1))) (hc : Cu W' (w.heap.size + 1) t q b') : RcS t w W' g x q b' := by
  obtain ⟨h1, h2, h3, h4, h5⟩ := h
  exact ⟨h1.grown hg h1.size (fun k hk => by simp at hk; omega), h2.grown hg (by simp), hc, h4.grown hg (by simp; omega), h5⟩
theorem RcS.later (h : RcS t w W g x p b) (hb : Below W.heap.size W W') : RcS t w W' g x p b := by
  obtain ⟨h1, h2, h3, h4, h5⟩ := h
  exact ⟨h1.trans (hb.mono h1.size), h2.later hb, h3.later hb, h4.later hb, h5⟩
theorem RcS.set1 (h : RcS t w W g x p b) (y : ByteArray) : RcS t w (W.setCell ⟨g, 1, none⟩ (.string y)) g ⟨x.i, y, x.v⟩ p b := by
  obtain ⟨h1, h2, h3, h4, h5⟩ := h
  have hg := grown_setC W g 1 (.string y)
  exact ⟨h1.grown hg h1.size (fun k hk => by simp at hk; omega), h2.grown hg (by simp; omega), h3.grown hg (by simp; omega), h4.set1 y, h5⟩
theorem RcS.set2 (h : RcS t w W g x p b) (y : ByteArray) : RcS t w (W.setCell ⟨g, 2, none⟩ (.string y)) g ⟨x.i, x.n, y⟩ p b := by
  obtain ⟨h1, h2, h3, h4, h5⟩ := h
  have hg := grown_setC W g 2 (.string y)
  exact ⟨h1.grown hg h1.size (fun k hk => by simp at hk; omega), h2.grown hg (by simp; omega), h3.grown hg (by simp; omega), h4.set2 y, h5⟩
/-- what is answered is written where it is answered -/
theorem RcS.put (h : RcS t w W g x p b) (y : Ug) : BU (W.setCells w.heap.size 0 (ucs y)) w.heap.size y ∧ Below w.heap.size w (W.setCells w.heap.size 0 (ucs y)) := ⟨h.2.1.put y, below_setCells (Nat.le_refl _) _ _ _ h.1⟩
end

set_option maxRecDepth 100000 in
set_option maxHeartbeats 1000000 in
theorem sReadChange_any (t : ByteArray) (w : World) (ht : t.size ≤ 1048576) : Calls Try.prog 18 #[.string t] w fun e w' => e = .returned (.tuple #[.agg #[.int .i64 (UV.rdA t).i, .string (UV.rdA t).n, .string (UV.rdA t).v], .bool (UV.rdOk t)]) ∧ Below w.heap.size w w' := by
  have HB : Hid (Below w.heap.size w ((w.alloc (.cells #[.int .i64 0, .string ⟨#[]⟩, .string ⟨#[]⟩] 31)).alloc (.cells #[.string t, .int .i64 0, .bool false] 82)) ∧ BU ((w.alloc (.cells #[.int .i64 0, .string ⟨#[]⟩, .string ⟨#[]⟩] 31)).alloc (.cells #[.string t, .int .i64 0, .bool false] 82)) w.heap.size UV.zU ∧ Cu ((w.alloc (.cells #[.int .i64 0, .string ⟨#[]⟩, .string ⟨#[]⟩] 31)).alloc (.cells #[.string t, .int .i64 0, .bool false] 82)) (w.heap.size + 1) t 0 false) := by
    refine ⟨((Below.refl _ _).alloc (Nat.le_refl _) _).alloc (by simp) _, (BU.new w UV.zU).later ((Below.refl _ _).alloc (Nat.le_refl _) _), ?_⟩
    exact alloc_fst _ _ (by simp)
  have hne : some w.heap.size ≠ some (w.heap.size + 1) := by simp
  have hcv := l09Var_u (w.heap.size + 1) t 0 _ HB.out.2.2 ht (Nat.zero_le _)
  have HCT : Hid (∀ (x : Ug) W, x.n.size ≤ 1048576 → x.v.size ≤ 1048576 → Calls Try.prog 27 #[.agg #[.int .i64 x.i, .string x.n, .string x.v]] W fun e w' => e = .returned (.tuple #[.string (UV.textU x), .bool (UV.okU x)]) ∧ Below W.heap.size W w') := fun x W h1 h2 => sChangeText_any x W h1 h2
  go_enter Try.func18, Try.ntmps18
  go_wp2_with fail
  refine hcv.mono ?_
  rintro e1 w1 ⟨n, p, b1, rfl, hcu1, hp, h1, k1, hg1⟩
  have HS1 : Hid (RcS t w (w1.alloc (.cells #[.int .i64 (n : Int), .string ⟨#[]⟩, .string ⟨#[]⟩] 31)) w1.heap.size ⟨(n : Int), ⟨#[]⟩, ⟨#[]⟩⟩ p b1) := by
    have k1 := HB.out.1.grown hg1 HB.out.1.size (fun k hk => by simp at hk; omega)
    have k2 : Below w1.heap.size w1 (w1.alloc (.cells #[.int .i64 (n : Int), .string ⟨#[]⟩, .string ⟨#[]⟩] 31)) := (Below.refl _ _).alloc (Nat.le_refl _) _
    exact ⟨k1.alloc k1.size _, (HB.out.2.1.grown hg1 hne).later k2, hcu1.later k2, BU.new w1 ⟨(n : Int), ⟨#[]⟩, ⟨#[]⟩⟩, hcu1.lt⟩
  clear hcu1 hg1 HB hcv
  have hc2 := l09Short_u (w.heap.size + 1) t p b1 _ HS1.out.2.2.1 ht hp
  go_wp2_with fail
  refine hc2.mono ?_
  rintro e2 w2 ⟨T, q, b2, rfl, hcu2, hq, hT, h2, k2, hg2⟩
  have HS2 : Hid (RcS t w w2 w1.heap.size ⟨(n : Int), ⟨#[]⟩, ⟨#[]⟩⟩ q b2) := HS1.out.read hg2 hcu2
  have y1 := HS2.out.2.2.2.1.c1
  have f1 := HS2.out.2.2.2.1.fz 1
  have HS3 : Hid (RcS t w (w2.setCell ⟨w1.heap.size, 1, none⟩ (.string T)) w1.heap.size ⟨(n : Int), T, ⟨#[]⟩⟩ q b2) := HS2.out.set1 T
  clear hcu2 hg2 hc2 HS1 HS2
  have hc3 := l09Short_u (w.heap.size + 1) t q b2 _ HS3.out.2.2.1 ht hq
  simp only at y1
  go_wp2_with fail
  refine hc3.mono ?_
  rintro e3 w3 ⟨V, r, b3, rfl, hcu3, hr, hV, h3, k3, hg3⟩
  have HS4 : Hid (RcS t w w3 w1.heap.size ⟨(n : Int), T, ⟨#[]⟩⟩ r b3) := HS3.out.read hg3 hcu3
  have y2 := HS4.out.2.2.2.1.c2
  have f2 := HS4.out.2.2.2.1.fz 2
  have HS5 : Hid (RcS t w (w3.setCell ⟨w1.heap.size, 2, none⟩ (.string V)) w1.heap.size ⟨(n : Int), T, V⟩ r b3) := HS4.out.set2 V
  clear hcu3 hg3 hc3 HS3 HS4 y1 f1
  have z0 := HS5.out.2.2.2.1.c0
  have z1 := HS5.out.2.2.2.1.c1
  have z2 := HS5.out.2.2.2.1.c2
  simp only at y2 z0 z1 z2
  obtain ⟨m1, m2, m3, m4⟩ := UV.three h1 k1 h2 k2 h3 k3
  have HM : Hid ((b3 = true → UV.rdOk t = false ∧ UV.rdA t = UV.zU) ∧ (b3 = false → UV.okU ⟨(n : Int), T, V⟩ = false → UV.rdOk t = false ∧ UV.rdA t = UV.zU) ∧ (b3 = false → UV.okU ⟨(n : Int), T, V⟩ = true → UV.textU ⟨(n : Int), T, V⟩ ≠ t → UV.rdOk t = false ∧ UV.rdA t = UV.zU) ∧ (b3 = false → UV.okU ⟨(n : Int), T, V⟩ = true → UV.textU ⟨(n : Int), T, V⟩ = t → UV.rdOk t = true ∧ UV.rdA t = ⟨(n : Int), T, V⟩)) := ⟨m1, m2, m3, m4⟩
  have hct := HCT.out ⟨(n : Int), T, V⟩
  simp only at hct
  have HCT2 := hide (fun W => hct W (by omega) (by omega))
  have ho := HM.out
  clear h1 k1 h2 k2 h3 k3 m1 m2 m3 m4 HCT hct hp hq hr hT hV
  generalize UV.okU ⟨(n : Int), T, V⟩ = B at *
  generalize UV.textU ⟨(n : Int), T, V⟩ = X at *
  clear ho
  go_wp2_with fail
  refine (HCT2.out _).mono ?_
  rintro e6 w6 ⟨rfl, hb6⟩
  have HS6 : Hid (RcS t w w6 w1.heap.size ⟨(n : Int), T, V⟩ r b3) := HS5.out.later hb6
  clear HS5 HCT2 hb6 y2 f2 z0 z1 z2
  have cb := HS6.out.2.2.1.c2
  have z0 := HS6.out.2.1.c0
  have z1 := HS6.out.2.1.c1
  have z2 := HS6.out.2.1.c2
  have f0 := HS6.out.2.1.fz 0
  have f1 := HS6.out.2.1.fz 1
  have f2 := HS6.out.2.1.fz 2
  have y0 := HS6.out.2.2.2.1.c0
  have y1 := HS6.out.2.2.2.1.c1
  have y2 := HS6.out.2.2.2.1.c2
  simp only at y0 y1 y2
  have HE := hide (HS6.out.put UV.zU)
  cases b3
  · cases B
    · have HD := hide (HM.out.2.1 rfl rfl)
      clear HM HS6
      go_wp2
      exact ret_ug2 2 3 w.heap.size UV.zU _ rfl rfl rfl rfl HE.out.1 ⟨by rw [HD.out.1, HD.out.2]; rfl, HE.out.2⟩
    · by_cases hx : X = t
      · have HD := hide (HM.out.2.2.2 rfl rfl hx)
        have qx : (X.toList == t.toList) = true := by rw [hx]; simp
        have HY := hide (HS6.out.put ⟨(n : Int), T, V⟩)
        clear HM HS6 HE
        go_wp2
        exact ret_ug2 2 3 w.heap.size ⟨(n : Int), T, V⟩ _ rfl rfl rfl rfl HY.out.1 ⟨by rw [HD.out.1, HD.out.2]; rfl, HY.out.2⟩
      · have HD := hide (HM.out.2.2.1 rfl rfl hx)
        have qx : (X.toList == t.toList) = false := LV.bytes_ne hx
        clear HM HS6
        go_wp2
        exact ret_ug2 2 3 w.heap.size UV.zU _ rfl rfl rfl rfl HE.out.1 ⟨by rw [HD.out.1, HD.out.2]; rfl, HE.out.2⟩
  · have HD := hide (HM.out.1 rfl)
    clear HM HS6
    go_wp2
    exact ret_ug2 2 3 w.heap.size UV.zU _ rfl rfl rfl rfl HE.out.1 ⟨by rw [HD.out.1, HD.out.2]; rfl, HE.out.2⟩

end Go.Proofs.Ytiabodhgjeoejaa
