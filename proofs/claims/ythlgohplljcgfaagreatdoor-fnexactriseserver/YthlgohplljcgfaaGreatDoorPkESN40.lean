/-
  Texts laid together: Cg, Jsr, Jsr1, Jsr2.
-/
import Derived.Test.YthlgohplljcgfaaGreatDoorPkESN25
import Derived.Test.YthlgohplljcgfaaGreatDoorPkESN8
import Derived.Test.YthlgohplljcgfaaGreatDoorPkESN37
import Derived.Test.YthlgohplljcgfaaGreatDoorPkESN28
import Derived.Test.YthlgohplljcgfaaGreatDoorPkESN39
import Derived.Test.YthlgohplljcgfaaGreatDoorPkESN24
/-
  A change read from its text: the specification's answer.
-/
namespace Go.Proofs.YthlgohplljcgfaaGreatDoor
open Go.RowKit Go.BigFrame Go.Sort
set_option linter.unusedVariables false
set_option linter.unusedSimpArgs false

/-- one text read at a cursor, whether there is one or not -/
theorem l09Short_u (c : Nat) (s : ByteArray) (p : Nat) (b : Bool) (w : World) (h : Cu w c s p b) (hs : s.size ≤ 1048576) (hp : p ≤ s.size) :
    Calls Tryz.prog 106 #[.pointer (some ⟨c, 0, none⟩)] w fun e w' => ∃ T r b', e = .returned (.string T) ∧ Cu w' c s r b' ∧ r ≤ s.size ∧ T.size ≤ s.size ∧ (b' = false → b = false ∧ LV.shortAt s p = some (T, r)) ∧ (b' = true → b = true ∨ LV.shortAt s p = none) ∧ w.grownBy w' (some c) := by
  cases b with
  | true => exact (l09Short_no c s p true w h hs hp (.inl rfl)).mono fun e w' ⟨⟨he, hc⟩, hg⟩ => ⟨_, p, true, he, hc, hp, Nat.zero_le _, fun h => (by cases h), fun _ => .inl rfl, hg⟩
  | false =>
    cases hr : LV.shortAt s p with
    | none => exact (l09Short_no c s p false w h hs hp (.inr hr)).mono fun e w' ⟨⟨he, hc⟩, hg⟩ => ⟨_, p, true, he, hc, hp, Nat.zero_le _, fun h => (by cases h), fun _ => .inr rfl, hg⟩
    | some y =>
      obtain ⟨T, r⟩ := y
      exact (l09Short_yes c s p r T w h hs hp hr).mono fun e w' ⟨⟨he, hc⟩, hg⟩ => ⟨T, r, false, he, hc, (LV.shortAt_some hp hr).2.1, LV.shortAt_size hr, fun _ => ⟨rfl, rfl⟩, fun h => (by cases h), hg⟩
theorem l09Var_u (c : Nat) (s : ByteArray) (p : Nat) (w : World) (h : Cu w c s p false) (hs : s.size ≤ 1048576) (hp : p ≤ s.size) :
    Calls Tryz.prog 70 #[.pointer (some ⟨c, 0, none⟩)] w fun e w' => ∃ (n r : Nat) (b' : Bool), e = .returned (.int .i64 (n : Int)) ∧ Cu w' c s r b' ∧ r ≤ s.size ∧ (b' = false → M.readVar s.data.toList p = some (n, r)) ∧ (b' = true → M.readVar s.data.toList p = none) ∧ w.grownBy w' (some c) := by
  refine (l09Var_at c s p w h hs hp).mono ?_
  rintro e w' ⟨hm, hg⟩
  cases hr : M.readVar s.data.toList p with
  | none => rw [hr] at hm; exact ⟨0, p, true, hm.1, hm.2, hp, fun h => (by cases h), fun _ => rfl, hg⟩
  | some y =>
    obtain ⟨n, q⟩ := y
    rw [hr] at hm
    exact ⟨n, q, false, hm.1, hm.2, (read_bound s p n q hr).1, fun _ => rfl, fun h => (by cases h), hg⟩
namespace UV
/-- what three readings one after the other say -/
theorem three {t A V : ByteArray} {n p q r : Nat} {b1 b2 b3 : Bool} (h1 : b1 = false → M.readVar t.data.toList 0 = some (n, p)) (k1 : b1 = true → M.readVar t.data.toList 0 = none)
    (h2 : b2 = false → b1 = false ∧ LV.shortAt t p = some (A, q)) (k2 : b2 = true → b1 = true ∨ LV.shortAt t p = none) (h3 : b3 = false → b2 = false ∧ LV.shortAt t q = some (V, r)) (k3 : b3 = true → b2 = true ∨ LV.shortAt t q = none) :
    (b3 = true → rdOk t = false ∧ rdA t = zU) ∧ (b3 = false → okU ⟨(n : Int), A, V⟩ = false → rdOk t = false ∧ rdA t = zU) ∧ (b3 = false → okU ⟨(n : Int), A, V⟩ = true → textU ⟨(n : Int), A, V⟩ ≠ t → rdOk t = false ∧ rdA t = zU) ∧ (b3 = false → okU ⟨(n : Int), A, V⟩ = true → textU ⟨(n : Int), A, V⟩ = t → rdOk t = true ∧ rdA t = ⟨(n : Int), A, V⟩) := by
  have hsome : b3 = false → M.readVar t.data.toList 0 = some (n, p) ∧ LV.leafAt t p = some (⟨A, V⟩, r) := fun h => by
    obtain ⟨e2, s2⟩ := h3 h
    obtain ⟨e1, s1⟩ := h2 e2
    refine ⟨h1 e1, ?_⟩
    unfold LV.leafAt; rw [s1]; simp only; rw [s2]
  refine ⟨fun h => ?_, fun h ho => ?_, fun h ho ht => ?_, fun h ho ht => ?_⟩
  · apply rd_none
    cases hv : M.readVar t.data.toList 0 with
    | none => exact raw_none1 hv
    | some y =>
      have e1 : b1 = false := by cases b1; rfl; rw [k1 rfl] at hv; cases hv
      rw [h1 e1] at hv
      obtain rfl := Option.some.inj hv
      refine raw_none2 (h1 e1) ?_
      cases b2 with
      | true =>
        have s1 : LV.shortAt t p = none := by rcases k2 rfl with h | h; rw [e1] at h; cases h; exact h
        unfold LV.leafAt; rw [s1]
      | false =>
        have s2 : LV.shortAt t q = none := by rcases k3 h with h | h; cases h; exact h
        unfold LV.leafAt; rw [(h2 rfl).2]; simp only; rw [s2]
  · obtain ⟨e1, e2⟩ := hsome h
    obtain ⟨d1, d2⟩ := rd_some (raw_some e1 e2)
    simp only [ho, Bool.and_false] at d1 d2
    exact ⟨d1, by rw [d2]; rfl⟩
  · obtain ⟨e1, e2⟩ := hsome h
    obtain ⟨d1, d2⟩ := rd_some (raw_some e1 e2)
    have hne : r ≠ t.size := fun hr => ht (by unfold textU; rw [if_pos ho]; exact (raw_whole e1 e2).2 hr)
    simp only [ho, Bool.and_true, decide_eq_false hne] at d1 d2
    exact ⟨d1, by rw [d2]; rfl⟩
  · obtain ⟨e1, e2⟩ := hsome h
    obtain ⟨d1, d2⟩ := rd_some (raw_some e1 e2)
    have he : r = t.size := (raw_whole e1 e2).1 (by unfold textU at ht; rw [if_pos ho] at ht; exact ht)
    simp only [ho, Bool.and_true, decide_eq_true he] at d1 d2
    exact ⟨d1, by rw [d2]; rfl⟩
end UV

/-- where the reader's cursor, what is answered and what is read lie -/
def RcS (t : ByteArray) (w W : World) (g : Nat) (x : Ug) (p : Nat) (b : Bool) : Prop := Below w.heap.size w W ∧ BU W w.heap.size UV.zU ∧ Cu W (w.heap.size + 1) t p b ∧ BU W g x ∧ w.heap.size + 1 < g
section
variable {t : ByteArray} {w W W' : World} {g p q : Nat} {x : Ug} {b b' : Bool}
theorem RcS.read (h : RcS t w W g x p b) (hg : W.grownBy W' (some (w.heap.size + 1))) (hc : Cu W' (w.heap.size + 1) t q b') : RcS t w W' g x q b' := by
  obtain ⟨h1, h2, h3, h4, h5⟩ := h
  exact ⟨h1.grown hg h1.size (fun k hk => by simp at hk; omega), h2.grown hg (by simp), hc, h4.grown hg (by simp; omega), h5⟩
theorem RcS.later (h : RcS t w W g x p b) (hb : Below W.heap.size W W') : RcS t w W' g x p b := by
  obtain ⟨h1, h2, h3, h4, h5⟩ := h
  exact ⟨h1.trans (hb.mono h1.size), h2.later hb, h3.later hb, h4.later hb, h5⟩
theorem RcS.set1 (h : RcS t w W g x p b) (y : ByteArray) : RcS t w (W.setCell ⟨g, 1, none⟩ (.string y)) g ⟨x.i, y, x.v⟩ p b := by
  obtain ⟨h1, h2, h3, h4, h5⟩ := h
  have hg := grown_setC W g 1 (.string y)
  exact ⟨h1.grown hg h1.size (fun k hk => by simp at hk; omega), h2.grown hg (by simp; omega), h3.grown hg (by simp; omega), h4.set1 y, h5⟩
theorem RcS.set2 (h : RcS t w W g x p b) (y : ByteArray) : RcS t w (W.setCell ⟨g, 2, none⟩ (.string y)) g ⟨x.i, x.n, y⟩ p b := by
  obtain ⟨h1, h2, h3, h4, h5⟩ := h
  have hg := grown_setC W g 2 (.string y)
  exact ⟨h1.grown hg h1.size (fun k hk => by simp at hk; omega), h2.grown hg (by simp; omega), h3.grown hg (by simp; omega), h4.set2 y, h5⟩
/-- what is answered is written where it is answered -/
theorem RcS.put (h : RcS t w W g x p b) (y : Ug) : BU (W.setCells w.heap.size 0 (ucs y)) w.heap.size y ∧ Below w.heap.size w (W.setCells w.heap.size 0 (ucs y)) := ⟨h.2.1.put y, below_setCells (Nat.le_refl _) _ _ _ h.1⟩
end

set_option maxRecDepth 100000 in
set_option maxHeartbeats 1000000 in
theorem sReadChange_any (t : ByteArray) (w : World) (ht : t.size ≤ 1048576) : Calls Tryz.prog 67 #[.string t] w fun e w' => e = .returned (.tuple #[.agg #[.int .i64 (UV.rdA t).i, .string (UV.rdA t).n, .string (UV.rdA t).v], .bool (UV.rdOk t)]) ∧ Below w.heap.size w w' := by
  have HB : Hid (Below w.heap.size w ((w.alloc (.cells #[.int .i64 0, .string ⟨#[]⟩, .string ⟨#[]⟩] 102)).alloc (.cells #[.string t, .int .i64 0, .bool false] 99)) ∧ BU ((w.alloc (.cells #[.int .i64 0, .string ⟨#[]⟩, .string ⟨#[]⟩] 102)).alloc (.cells #[.string t, .int .i64 0, .bool false] 99)) w.heap.size UV.zU ∧ Cu ((w.alloc (.cells #[.int .i64 0, .string ⟨#[]⟩, .string ⟨#[]⟩] 102)).alloc (.cells #[.string t, .int .i64 0, .bool false] 99)) (w.heap.size + 1) t 0 false) := by
    refine ⟨((Below.refl _ _).alloc (Nat.le_refl _) _).alloc (by simp) _, (BU.new w UV.zU).later ((Below.refl _ _).alloc (Nat.le_refl _) _), ?_⟩
    exact alloc_fst _ _ (by simp)
  have hne : some w.heap.size ≠ some (w.heap.size + 1) := by simp
  have hcv := l09Var_u (w.heap.size + 1) t 0 _ HB.out.2.2 ht (Nat.zero_le _)
  have HCT : Hid (∀ (x : Ug) W, x.n.size ≤ 1048576 → x.v.size ≤ 1048576 → Calls Tryz.prog 107 #[.agg #[.int .i64 x.i, .string x.n, .string x.v]] W fun e w' => e = .returned (.tuple #[.string (UV.textU x), .bool (UV.okU x)]) ∧ Below W.heap.size W w') := fun x W h1 h2 => sChangeText_any x W h1 h2
  go_enter Tryz.func67, Tryz.ntmps67
  go_wp2_with fail
  refine hcv.mono ?_
  rintro e1 w1 ⟨n, p, b1, rfl, hcu1, hp, h1, k1, hg1⟩
  have HS1 : Hid (RcS t w (w1.alloc (.cells #[.int .i64 (n : Int), .string ⟨#[]⟩, .string ⟨#[]⟩] 102)) w1.heap.size ⟨(n : Int), ⟨#[]⟩, ⟨#[]⟩⟩ p b1) := by
    have k1 := HB.out.1.grown hg1 HB.out.1.size (fun k hk => by simp at hk; omega)
    have k2 : Below w1.heap.size w1 (w1.alloc (.cells #[.int .i64 (n : Int), .string ⟨#[]⟩, .string ⟨#[]⟩] 102)) := (Below.refl _ _).alloc (Nat.le_refl _) _
    exact ⟨k1.alloc k1.size _, (HB.out.2.1.grown hg1 hne).later k2, hcu1.later k2, BU.new w1 ⟨(n : Int), ⟨#[]⟩, ⟨#[]⟩⟩, hcu1.lt⟩
  clear hcu1 hg1 HB hcv
  have hc2 := l09Short_u (w.heap.size + 1) t p b1 _ HS1.out.2.2.1 ht hp
  go_wp2_with fail
  refine hc2.mono ?_
  rintro e2 w2 ⟨T, q, b2, rfl, hcu2, hq, hT, h2, k2, hg2⟩
  have HS2 : Hid (RcS t w w2 w1.heap.size ⟨(n : Int), ⟨#[]⟩, ⟨#[]⟩⟩ q b2) := HS1.out.read hg2 hcu2
  have y1 := HS2.out.2.2.2.1.c1
  have f1 := HS2.out.2.2.2.1.fz 1
  have HS3 : Hid (RcS t w (w2.setCell ⟨w1.heap.size, 1, none⟩ (.string T)) w1.heap.size ⟨(n : Int), T, ⟨#[]⟩⟩ q b2) := HS2.out.set1 T
  clear hcu2 hg2 hc2 HS1 HS2
  have hc3 := l09Short_u (w.heap.size + 1) t q b2 _ HS3.out.2.2.1 ht hq
  simp only at y1
  go_wp2_with fail
  refine hc3.mono ?_
  rintro e3 w3 ⟨V, r, b3, rfl, hcu3, hr, hV, h3, k3, hg3⟩
  have HS4 : Hid (RcS t w w3 w1.heap.size ⟨(n : Int), T, ⟨#[]⟩⟩ r b3) := HS3.out.read hg3 hcu3
  have y2 := HS4.out.2.2.2.1.c2
  have f2 := HS4.out.2.2.2.1.fz 2
  have HS5 : Hid (RcS t w (w3.setCell ⟨w1.heap.size, 2, none⟩ (.string V)) w1.heap.size ⟨(n : Int), T, V⟩ r b3) := HS4.out.set2 V
  clear hcu3 hg3 hc3 HS3 HS4 y1 f1
  have z0 := HS5.out.2.2.2.1.c0
  have z1 := HS5.out.2.2.2.1.c1
  have z2 := HS5.out.2.2.2.1.c2
  simp only at y2 z0 z1 z2
  obtain ⟨m1, m2, m3, m4⟩ := UV.three h1 k1 h2 k2 h3 k3
  have HM : Hid ((b3 = true → UV.rdOk t = false ∧ UV.rdA t = UV.zU) ∧ (b3 = false → UV.okU ⟨(n : Int), T, V⟩ = false → UV.rdOk t = false ∧ UV.rdA t = UV.zU) ∧ (b3 = false → UV.okU ⟨(n : Int), T, V⟩ = true → UV.textU ⟨(n : Int), T, V⟩ ≠ t → UV.rdOk t = false ∧ UV.rdA t = UV.zU) ∧ (b3 = false → UV.okU ⟨(n : Int), T, V⟩ = true → UV.textU ⟨(n : Int), T, V⟩ = t → UV.rdOk t = true ∧ UV.rdA t = ⟨(n : Int), T, V⟩)) := ⟨m1, m2, m3, m4⟩
  have hct := HCT.out ⟨(n : Int), T, V⟩
  simp only at hct
  have HCT2 := hide (fun W => hct W (by omega) (by omega))
  have ho := HM.out
  clear h1 k1 h2 k2 h3 k3 m1 m2 m3 m4 HCT hct hp hq hr hT hV
  generalize UV.okU ⟨(n : Int), T, V⟩ = B at *
  generalize UV.textU ⟨(n : Int), T, V⟩ = X at *
  clear ho
  go_wp2_with fail
  refine (HCT2.out _).mono ?_
  rintro e6 w6 ⟨rfl, hb6⟩
  have HS6 : Hid (RcS t w w6 w1.heap.size ⟨(n : Int), T, V⟩ r b3) := HS5.out.later hb6
  clear HS5 HCT2 hb6 y2 f2 z0 z1 z2
  have cb := HS6.out.2.2.1.c2
  have z0 := HS6.out.2.1.c0
  have z1 := HS6.out.2.1.c1
  have z2 := HS6.out.2.1.c2
  have f0 := HS6.out.2.1.fz 0
  have f1 := HS6.out.2.1.fz 1
  have f2 := HS6.out.2.1.fz 2
  have y0 := HS6.out.2.2.2.1.c0
  have y1 := HS6.out.2.2.2.1.c1
  have y2 := HS6.out.2.2.2.1.c2
  simp only at y0 y1 y2
  have HE := hide (HS6.out.put UV.zU)
  cases b3
  · cases B
    · have HD := hide (HM.out.2.1 rfl rfl)
      clear HM HS6
      go_wp2
      exact ret_ug2 2 3 w.heap.size UV.zU _ rfl rfl rfl rfl HE.out.1 ⟨by rw [HD.out.1, HD.out.2]; rfl, HE.out.2⟩
    · by_cases hx : X = t
      · have HD := hide (HM.out.2.2.2 rfl rfl hx)
        have qx : (X.toList == t.toList) = true := by rw [hx]; simp
        have HY := hide (HS6.out.put ⟨(n : Int), T, V⟩)
        clear HM HS6 HE
        go_wp2
        exact ret_ug2 2 3 w.heap.size ⟨(n : Int), T, V⟩ _ rfl rfl rfl rfl HY.out.1 ⟨by rw [HD.out.1, HD.out.2]; rfl, HY.out.2⟩
      · have HD := hide (HM.out.2.2.1 rfl rfl hx)
        have qx : (X.toList == t.toList) = false := LV.bytes_ne hx
        clear HM HS6
        go_wp2
        exact ret_ug2 2 3 w.heap.size UV.zU _ rfl rfl rfl rfl HE.out.1 ⟨by rw [HD.out.1, HD.out.2]; rfl, HE.out.2⟩
  · have HD := hide (HM.out.1 rfl)
    clear HM HS6
    go_wp2
    exact ret_ug2 2 3 w.heap.size UV.zU _ rfl rfl rfl rfl HE.out.1 ⟨by rw [HD.out.1, HD.out.2]; rfl, HE.out.2⟩

end Go.Proofs.YthlgohplljcgfaaGreatDoor
/-
  A record of an epoch committed: the specification.
-/
namespace Go.Proofs.YthlgohplljcgfaaGreatDoor
open Go.RowKit Go.BigFrame Go.Sort
set_option linter.unusedVariables false
set_option linter.unusedSimpArgs false

set_option maxRecDepth 100000 in
set_option maxHeartbeats 4000000 in
theorem sRecord_3 {B : Nat} {w0 w : World} {p : Nat} {n : Sn} {vd vv vt va : Value} {L : Sr} {V : List Value} {G : Nat → Nat} {gd : Nat} (h : SvO B w0 w p n vd vv vt va L V G gd) (t : ByteArray) (ht : t.size ≤ 1048576) (h0 : 0 < t.size) (hP : L.P.length < 1000000) (hI : L.I.length < 1000000) (hUl : L.U.length ≤ 1000000) (hsm : SmallUs L.U) (he0 : 0 ≤ n.e) (he1 : n.e ≤ 1000000) (hr : (n.r0 = 0 ∧ n.r1 = 0 ∧ n.r2 = 0) ∨ 0 < n.r0) (hk : byB t 0 = 3) :
    Calls Tryz.prog 29 #[.pointer (some ⟨p, 0, none⟩), .string t] w (RdP B w0 p n vd L.F gd (SR.recS n.a n.k (Ss.of n L) t)) := by
  have HS : Hid (∀ W, Below w.heap.size w W → SvO B w0 W p n vd vv vt va L V G gd) := fun W hW => h.later hW
  have HB0 : Hid (Below w.heap.size w (w.alloc (.cells #[.string t, .int .i64 0, .bool false] 99)) ∧ Cu (w.alloc (.cells #[.string t, .int .i64 0, .bool false] 99)) w.heap.size t 0 false) := ⟨below_alloc _ _, Go.heap_alloc_new w _⟩
  have hkn : ((byB t 0).toNat : Int) = 3 := by rw [hk]; rfl
  have HA : Hid (∀ W, SvO B w0 W p n vd vv vt va L V G gd → Calls Tryz.prog 72 #[.pointer (some ⟨p, 0, none⟩)] W fun e w' => e = .returned (.tuple #[]) ∧ ∃ vv' vt' V' G', SvO B w0 w' p ⟨n.a, n.k, n.u, n.e + 1, 0, 0, 0⟩ vd vv' vt' va { L with P := L.P ++ [rlA n.r2 L.U], I := L.I ++ [n.r2] } V' G' gd) := fun W hW => sCommit_sv hW hP hI hUl hsm he0 he1
  have HRC : Hid (∀ x, SR.numsT t 1 = some [x] → SR.recS n.a n.k (Ss.of n L) t = if (x : Int) = n.r0 ∧ 0 < n.r0 then Ss.of ⟨n.a, n.k, n.u, n.e + 1, 0, 0, 0⟩ { L with P := L.P ++ [rlA n.r2 L.U], I := L.I ++ [n.r2] } else Ss.of n L) := fun x e => by
    rw [SR.recS_3 hk h0, e]
    rfl
  have HRN : Hid (SR.numsT t 1 = none → SR.recS n.a n.k (Ss.of n L) t = Ss.of n L) := fun e => by
    rw [SR.recS_3 hk h0, e]
  clear hP hI hUl hsm he0 he1
  clear h
  go_enter Tryz.func29, Tryz.ntmps29
  go_wp2_with fail
  refine (l09Byte_yes w.heap.size t 0 _ HB0.out.2 ht h0).mono ?_
  rintro e_ w2 ⟨⟨rfl, hcu⟩, hg⟩
  have HB2 : Hid (Below w.heap.size w w2 ∧ Cu w2 w.heap.size t 1 false) := ⟨HB0.out.1.grown hg HB0.out.1.size (fun k hk => by simp at hk; omega), hcu⟩
  clear hcu hg HB0
  rw [hkn]
  go_wp2_with fail
  refine (l09Var_u w.heap.size t 1 _ HB2.out.2 ht (by omega)).mono ?_
  rintro e_ w3 ⟨n1, p1, b1, rfl, hcu, hp1, h1, k1, hg⟩
  have HB3 : Hid (Below w.heap.size w w3 ∧ Cu w3 w.heap.size t p1 b1) := ⟨HB2.out.1.grown hg HB2.out.1.size (fun k hk => by simp at hk; omega), hcu⟩
  have HV1 : Hid (_ ∧ _) := ⟨h1, k1⟩
  clear hcu hg HB2 h1 k1
  have hN := SR.readT1 HV1.out.1 HV1.out.2
  clear HV1
  have HS3 : Hid (SvO B w0 w3 p n vd vv vt va L V G gd) := HS.out w3 HB3.out.1
  have c1 := HB3.out.2.c1
  have c2 := HB3.out.2.c2
  have HN : Hid _ := hN
  clear hN HS
  cases b1 with
  | true =>
    have HF : Hid (SvO B w0 w3 p n vd vv vt va L V G gd ∧ SR.recS n.a n.k (Ss.of n L) t = Ss.of n L) := ⟨HS3.out, HRN.out (HN.out.1 rfl)⟩
    clear HN HRN HRC HA HB3 HS3
    go_wp2
    refine bodyPost_ret (results_none rfl _ _ _) rfl ?_
    exact ⟨rfl, n, vv, vt, va, L, V, G, HF.out.1, HF.out.2.symm, rfl, rfl, rfl, rfl⟩
  | false =>
    by_cases hz : p1 = t.size
    · have hN1 := HN.out.2 rfl
      rw [if_pos hz] at hN1
      have hrc := HRC.out _ hN1
      have q1 : ((p1 : Int) == (t.size : Int)) = true := by simp [hz]
      have z8 := HS3.out.box.at 8 _ rfl
      have z9 := HS3.out.box.at 9 _ rfl
      have z10 := HS3.out.box.at 10 _ rfl
      clear HN HRN HRC
      by_cases hx : (n1 : Int) = n.r0
      · have q2 : (n.r0 == (n1 : Int)) = true := by simp [hx]
        by_cases hp : 0 < n.r0
        · rw [if_pos ⟨hx, hp⟩] at hrc
          have HRC3 := hide hrc
          have q3 : (0 : Int) < (n1 : Int) := by omega
          clear hrc hN1 hr
          go_wp2_with fail
          refine (HA.out _ HS3.out).mono ?_
          rintro e_ w4 ⟨rfl, vv', vt', V', G', h4⟩
          have HF : Hid (SvO B w0 w4 p _ vd vv' vt' va _ V' G' gd) := h4
          clear h4 HA HS3 z8 z9 z10 c1 c2 HB3
          go_wp2
          refine bodyPost_end (results_none rfl _ _ _) rfl ?_
          exact ⟨rfl, _, vv', vt', va, _, V', G', HF.out, HRC3.out.symm, rfl, rfl, rfl, rfl⟩
        · rw [if_neg (fun h => hp h.2)] at hrc
          have HF : Hid (SvO B w0 w3 p n vd vv vt va L V G gd ∧ SR.recS n.a n.k (Ss.of n L) t = Ss.of n L) := ⟨HS3.out, hrc⟩
          have q3 : ¬ (0 : Int) < (n1 : Int) := by omega
          clear hrc hN1 hr HA HS3 HB3
          go_wp2
          refine bodyPost_end (results_none rfl _ _ _) rfl ?_
          exact ⟨rfl, n, vv, vt, va, L, V, G, HF.out.1, HF.out.2.symm, rfl, rfl, rfl, rfl⟩
      · rw [if_neg (fun h => hx h.1)] at hrc
        have HF : Hid (SvO B w0 w3 p n vd vv vt va L V G gd ∧ SR.recS n.a n.k (Ss.of n L) t = Ss.of n L) := ⟨HS3.out, hrc⟩
        have q2 : (n.r0 == (n1 : Int)) = false := by simp; omega
        clear hrc hN1 hr HA HS3 HB3
        go_wp2
        refine bodyPost_end (results_none rfl _ _ _) rfl ?_
        exact ⟨rfl, n, vv, vt, va, L, V, G, HF.out.1, HF.out.2.symm, rfl, rfl, rfl, rfl⟩
    · have hN1 := HN.out.2 rfl
      rw [if_neg hz] at hN1
      have HF : Hid (SvO B w0 w3 p n vd vv vt va L V G gd ∧ SR.recS n.a n.k (Ss.of n L) t = Ss.of n L) := ⟨HS3.out, HRN.out hN1⟩
      have q1 : ((p1 : Int) == (t.size : Int)) = false := by simp; omega
      clear HN HRN HRC HA HB3 HS3 hN1
      go_wp2
      refine bodyPost_ret (results_none rfl _ _ _) rfl ?_
      exact ⟨rfl, n, vv, vt, va, L, V, G, HF.out.1, HF.out.2.symm, rfl, rfl, rfl, rfl⟩

end Go.Proofs.YthlgohplljcgfaaGreatDoor
/-
  A record of a change: the specification.
-/
namespace Go.Proofs.YthlgohplljcgfaaGreatDoor
open Go.RowKit Go.BigFrame Go.Sort
set_option linter.unusedVariables false
set_option linter.unusedSimpArgs false

/-- where a change of this number is, or -1 -/
def SR.hasN (U : List Ug) (x : Int) : Int := if SR.hasU U x then (U.findIdx (fun y => decide (y.i = x)) : Int) else -1
theorem hasN_sign (U : List Ug) (x : Int) : decide (SR.hasN U x < 0) = !SR.hasU U x := by
  unfold SR.hasN
  cases SR.hasU U x with
  | true => simp
  | false => rfl
theorem hasN_at {U : List Ug} {x : Int} {m : Nat} (h : m < U.length) (h0 : SR.hasU (U.take m) x = false) (he : U[m].i = x) : SR.hasN U x = (m : Int) := by
  have h1 : SR.hasU U x = true := by
    unfold SR.hasU
    exact List.any_eq_true.2 ⟨U[m], List.getElem_mem h, by simp [he]⟩
  unfold SR.hasN
  rw [h1, if_pos rfl]
  congr 1
  rw [List.findIdx_eq h]
  refine ⟨by simp [he], fun j hj => ?_⟩
  unfold SR.hasU at h0
  have h2 := List.any_eq_false.1 h0 U[j] (List.mem_take_iff_getElem.2 ⟨j, by omega, rfl⟩)
  simpa using h2
theorem hasN_no {U : List Ug} {x : Int} (h0 : SR.hasU U x = false) : SR.hasN U x = -1 := by
  unfold SR.hasN
  rw [h0]
  rfl
set_option maxRecDepth 100000 in
set_option maxHeartbeats 1000000 in
theorem l18Has_at (v : Value) (g o : Nat) (x : Int) (U : List Ug) (w : World) (hU : RS 3 ucs w v g o U) :
    Calls Tryz.prog 69 #[v, .int .i64 x] w fun e w' => e = .returned (.int .i64 (SR.hasN U x)) ∧ w' = w := by
  have HU : Hid (RS 3 ucs w v g o U) := hU
  obtain ⟨aa, ca, rfl, hl, hA, _⟩ := hU
  obtain ⟨n, hn⟩ : ∃ n, U.length = n := ⟨_, rfl⟩
  have HN : Hid (U.length = n) := hn
  have HA : Hid (0 < n → aa = some ⟨g, o, none⟩) := by rw [← hn]; exact fun h => (hA h).1
  have HST : Hid (SixR U x w (.int .i64 0) w) := ⟨0, by omega, rfl, rfl, rfl⟩
  obtain ⟨R, hR⟩ : ∃ R, SR.hasN U x = R := ⟨_, rfl⟩
  have HR : Hid (SR.hasN U x = R) := hR
  rw [hn] at hl HU ⊢
  rw [hR]
  clear hA hn hR
  go_enter Tryz.func69, Tryz.ntmps69
  go_wp2
  go_loopw [5] (fun i wr => SixR U x w i wr) (fun i _ => n - (intOf i).toNat)
  case atStart => exact HST.out
  case round =>
    obtain ⟨m, hm, rfl, rfl, hna⟩ := hrel
    clear HST
    rw [HN.out] at hm
    by_cases hlt : m < n
    · have ea := HA.out (by omega)
      subst ea
      have hmU : m < U.length := by rw [HN.out]; exact hlt
      obtain ⟨c0, c1, c2⟩ := HU.out.chg m hmU
      have hst := hasU_step U x hmU
      rw [hna, Bool.false_or] at hst
      have HAT : Hid (U[m].i = x → R = (m : Int)) := fun he => HR.out.symm.trans (hasN_at hmU hna he)
      generalize U[m] = X at *
      have i1 : (m : Int) < (n : Int) := by omega
      have i2 : (0 : Int) ≤ (m : Int) := by omega
      by_cases he : X.i = x
      · obtain rfl := HAT.out he
        have q1 : (X.i == x) = true := by simp [he]
        clear HAT hst HU hna he HA HN HR
        go_wp2
        try rw [Exit.noGoto_ret]
        go_ret
        exact ⟨rfl, rfl⟩
      · have HJ : Hid (SixR U x wr (.int .i64 ((m : Int) + 1)) wr) := ⟨m + 1, by rw [HN.out]; omega, by simp, rfl, by rw [hst]; simp [he]⟩
        have q1 : (X.i == x) = false := by simp [he]
        clear HAT hst HU hna he HA HN HR
        go_wp2
        go_roundw
        case rel => exact HJ.out
        case measure => simp [intOf]; omega
    · have hme : m = n := by omega
      have h : U.take m = U := List.take_of_length_le (by rw [HN.out, hme]; exact Nat.le_refl _)
      rw [h] at hna
      obtain rfl : R = -1 := HR.out.symm.trans (hasN_no hna)
      subst hme
      clear HU hna HA HN HR h
      go_wp2
      go_ret
      exact ⟨rfl, rfl⟩

set_option maxRecDepth 100000 in
set_option maxHeartbeats 4000000 in
theorem sRecord_1 {B : Nat} {w0 w : World} {p : Nat} {n : Sn} {vd vv vt va : Value} {L : Sr} {V : List Value} {G : Nat → Nat} {gd : Nat} (h : SvO B w0 w p n vd vv vt va L V G gd) (t : ByteArray) (ht : t.size ≤ 1048576) (h0 : 0 < t.size) (hl : L.U.length < 1000000) (hk : byB t 0 = 1) :
    Calls Tryz.prog 29 #[.pointer (some ⟨p, 0, none⟩), .string t] w (RdP B w0 p n vd L.F gd (SR.recS n.a n.k (Ss.of n L) t)) := by
  have HS : Hid (∀ W, Below w.heap.size w W → SvO B w0 W p n vd vv vt va L V G gd) := fun W hW => h.later hW
  have HB0 : Hid (Below w.heap.size w (w.alloc (.cells #[.string t, .int .i64 0, .bool false] 99)) ∧ Cu (w.alloc (.cells #[.string t, .int .i64 0, .bool false] 99)) w.heap.size t 0 false) := ⟨below_alloc _ _, Go.heap_alloc_new w _⟩
  have hkn : ((byB t 0).toNat : Int) = 1 := by rw [hk]; rfl
  have hbs : (SR.body t).size ≤ 1048576 := by rw [SR.body_size]; omega
  have hrz := UV.rd_sizeJ (SR.body t) hbs
  have HRD : Hid (∀ W, Calls Tryz.prog 67 #[.string (SR.body t)] W fun e w' => e = .returned (.tuple #[.agg #[.int .i64 (UV.rdA (SR.body t)).i, .string (UV.rdA (SR.body t)).n, .string (UV.rdA (SR.body t)).v], .bool (UV.rdOk (SR.body t))]) ∧ Below W.heap.size W w') := fun W => sReadChange_any (SR.body t) W hbs
  have hrec := SR.recS_1 (a := n.a) (k := n.k) (s := Ss.of n L) hk
  obtain ⟨Y, hY⟩ : ∃ Y, UV.rdA (SR.body t) = Y := ⟨_, rfl⟩
  obtain ⟨ok, hok⟩ : ∃ ok, UV.rdOk (SR.body t) = ok := ⟨_, rfl⟩
  rw [hY] at hrz HRD
  rw [hok] at HRD
  obtain ⟨i, nm, v⟩ := Y
  simp only at hrz HRD
  have HTK : Hid (SR.recS n.a n.k (Ss.of n L) t = if ok && (decide ((shN nm n.k : Int) = n.a) && !SR.hasU L.U i) then Ss.of n { L with U := L.U ++ [⟨i, nm, v⟩] } else Ss.of n L) := by
    show SR.recS n.a n.k (Ss.of n L) t = _
    rw [hrec]
    unfold SR.tkS SR.tkB
    rw [hok, hY]
    rfl
  have HSH : Hid (∀ W, Calls Tryz.prog 68 #[.string nm, .int .i64 n.k] W fun e w' => e = .returned (.int .i64 (shN nm n.k : Int)) ∧ Below W.heap.size W w') := fun W => sShardOf_any nm n.k W hrz.1
  have HHS : Hid (∀ W, SvO B w0 W p n vd vv vt va L V G gd → Calls Tryz.prog 69 #[va, .int .i64 i] W fun e w' => (∃ r : Int, e = .returned (.int .i64 r) ∧ decide (r < 0) = !SR.hasU L.U i) ∧ w' = W) := fun W hW => by
    obtain ⟨g, hr, _⟩ := hW.ou.rw (by omega)
    exact l18Has_any va g 0 i L.U W hr.1
  have HLL : Hid (L.U.length + 1 ≤ 1000000 ∧ nm.size ≤ 1048576 ∧ v.size ≤ 1048576) := ⟨hl, hrz.1, hrz.2⟩
  have hbe : t.extract 1 t.size = SR.body t := rfl
  clear hrec hok hY hrz
  clear h
  go_enter Tryz.func29, Tryz.ntmps29
  go_wp2_with fail
  refine (l09Byte_yes w.heap.size t 0 _ HB0.out.2 ht h0).mono ?_
  rintro e_ w2 ⟨⟨rfl, hcu⟩, hg⟩
  have HB2 : Hid (Below w.heap.size w w2 ∧ Cu w2 w.heap.size t 1 false) := ⟨HB0.out.1.grown hg HB0.out.1.size (fun k hk => by simp at hk; omega), hcu⟩
  clear hcu hg HB0
  rw [hkn]
  have c1 := HB2.out.2.c1
  go_wp2_with fail
  refine (HRD.out _).mono ?_
  rintro e_ w3 ⟨rfl, hb3⟩
  have HB3 : Hid (Below w.heap.size w (w3.alloc (.cells #[.int .i64 i, .string nm, .string v] 102))) := by
    have h3 := HB2.out.1.trans (hb3.mono HB2.out.1.size)
    exact h3.alloc h3.size _
  have HU : Hid (BU (w3.alloc (.cells #[.int .i64 i, .string nm, .string v] 102)) w3.heap.size ⟨i, nm, v⟩) := BU.new w3 ⟨i, nm, v⟩
  have HS3 : Hid (SvO B w0 (w3.alloc (.cells #[.int .i64 i, .string nm, .string v] 102)) p n vd vv vt va L V G gd) := HS.out _ HB3.out
  obtain ⟨R, hR⟩ : ∃ R, SR.hasN L.U i = R := ⟨_, rfl⟩
  obtain ⟨hi, hhi⟩ : ∃ hi, (!SR.hasU L.U i) = hi := ⟨_, rfl⟩
  obtain ⟨kp, hkp⟩ : ∃ kp, decide ((shN nm n.k : Int) = n.a) = kp := ⟨_, rfl⟩
  have d1 : decide (R < 0) = hi := by rw [← hR, hasN_sign, hhi]
  have q1 : ((shN nm n.k : Int) == n.a) = kp := by rw [← hkp]; rfl
  rw [hhi, hkp] at HTK
  have HHA : Hid (∀ W, SvO B w0 W p n vd vv vt va L V G gd → Calls Tryz.prog 69 #[va, .int .i64 i] W fun e w' => e = .returned (.int .i64 R) ∧ Below W.heap.size W w') := fun W hW => by
    obtain ⟨g, hr, _⟩ := hW.ou.rw (by omega)
    rw [← hR]
    exact (l18Has_at va g 0 i L.U W hr.1).mono fun e w' ⟨h1, h2⟩ => ⟨h1, by rw [h2]; exact Below.refl _ _⟩
  obtain ⟨aa, ca, hva⟩ := HS3.out.ou.shape
  subst hva
  clear hb3 HRD HB2 HS hR hhi hkp HHS c1
  have z0 := HS3.out.box.at 0 _ rfl
  have z1 := HS3.out.box.at 1 _ rfl
  have z7 := HS3.out.box.at 7 _ rfl
  have u0 := HU.out.c0
  have u1 := HU.out.c1
  have u2 := HU.out.c2
  go_wp2
  generalize (w3.alloc (.cells #[.int .i64 i, .string nm, .string v] 102)) = W3 at *
  generalize w3.heap.size = q at *
  have cq1 := fun d os => Calls.regrown_of (w := W3) (d := d) (os := os) (HSH.out (grow (redrawn W3 d) os))
  have cq2 := fun d os => Calls.regrown_of (w := W3) (d := d) (os := os) (HHA.out _ (HS3.out.later (below_regrown W3 d os)))
  cases ok with
  | false =>
    clear cq1 cq2 HSH HHA
    simp only [Bool.false_and, Bool.false_eq_true, if_false] at HTK
    have kq0 := cell_regrown (w := W3) z0
    have kq1 := cell_regrown (w := W3) z1
    have kq2 := cell_regrown (w := W3) z7
    have kq3 := cell_regrown (w := W3) u0
    have kq4 := cell_regrown (w := W3) u1
    have kq5 := cell_regrown (w := W3) u2
    clear z0 z1 z7 u0 u1 u2
    refine wp_region_quiet_below (by kernel_rfl) (by kernel_rfl) ?_
    repeat (go_big_quiet_step (fail))
    refine wpQuiet_nil ?_
    rintro _ ⟨⟨dq, osq⟩, rfl⟩
    have hb0 := below_regrown W3 dq osq
    generalize grow (redrawn W3 dq) osq = w4 at *
    clear kq0 kq1 kq2 kq3 kq4 kq5
    have HF : Hid ((SvO B w0 w4 p n vd vv vt (.slice aa L.U.length ca) L V G gd) ∧ SR.recS n.a n.k (Ss.of n L) t = Ss.of n L) := ⟨HS3.out.later hb0, HTK.out⟩
    clear hb0 HS3 HTK HU HB3
    go_wp2
    refine bodyPost_ret (results_none rfl _ _ _) rfl ?_
    exact ⟨rfl, n, vv, vt, _, L, V, G, HF.out.1, HF.out.2.symm, rfl, rfl, rfl, rfl⟩
  | true =>
    cases kp with
    | false =>
      clear cq2 HHA
      simp only [Bool.false_and, Bool.and_false, Bool.false_eq_true, if_false] at HTK
      have kq0 := cell_regrown (w := W3) z0
      have kq1 := cell_regrown (w := W3) z1
      have kq2 := cell_regrown (w := W3) z7
      have kq3 := cell_regrown (w := W3) u0
      have kq4 := cell_regrown (w := W3) u1
      have kq5 := cell_regrown (w := W3) u2
      clear z0 z1 z7 u0 u1 u2
      refine wp_region_quiet_below (by kernel_rfl) (by kernel_rfl) ?_
      repeat (go_big_quiet_step (first | with_reducible exact cq1 _ _ | with_reducible exact cq2 _ _))
      refine wpQuiet_nil ?_
      rintro _ ⟨⟨dq, osq⟩, rfl⟩
      have hb0 := below_regrown W3 dq osq
      generalize grow (redrawn W3 dq) osq = w4 at *
      clear kq0 kq1 kq2 kq3 kq4 kq5
      clear cq1 HSH
      have HF : Hid ((SvO B w0 w4 p n vd vv vt (.slice aa L.U.length ca) L V G gd) ∧ SR.recS n.a n.k (Ss.of n L) t = Ss.of n L) := ⟨HS3.out.later hb0, HTK.out⟩
      clear hb0 HS3 HTK HU HB3
      go_wp2
      refine bodyPost_ret (results_none rfl _ _ _) rfl ?_
      exact ⟨rfl, n, vv, vt, _, L, V, G, HF.out.1, HF.out.2.symm, rfl, rfl, rfl, rfl⟩
    | true =>
      cases hi with
      | false =>
        simp only [Bool.and_false, Bool.false_eq_true, if_false] at HTK
        have kq0 := cell_regrown (w := W3) z0
        have kq1 := cell_regrown (w := W3) z1
        have kq2 := cell_regrown (w := W3) z7
        have kq3 := cell_regrown (w := W3) u0
        have kq4 := cell_regrown (w := W3) u1
        have kq5 := cell_regrown (w := W3) u2
        clear z0 z1 z7 u0 u1 u2
        refine wp_region_quiet_below (by kernel_rfl) (by kernel_rfl) ?_
        repeat (go_big_quiet_step (first | with_reducible exact cq1 _ _ | with_reducible exact cq2 _ _))
        refine wpQuiet_nil ?_
        rintro _ ⟨⟨dq, osq⟩, rfl⟩
        have hb0 := below_regrown W3 dq osq
        generalize grow (redrawn W3 dq) osq = w4 at *
        clear kq0 kq1 kq2 kq3 kq4 kq5
        clear cq1 cq2 HSH HHA
        have HF : Hid ((SvO B w0 w4 p n vd vv vt (.slice aa L.U.length ca) L V G gd) ∧ SR.recS n.a n.k (Ss.of n L) t = Ss.of n L) := ⟨HS3.out.later hb0, HTK.out⟩
        clear hb0 HS3 HTK HU HB3
        go_wp2
        refine bodyPost_ret (results_none rfl _ _ _) rfl ?_
        exact ⟨rfl, n, vv, vt, _, L, V, G, HF.out.1, HF.out.2.symm, rfl, rfl, rfl, rfl⟩
      | true =>
        simp only [Bool.and_self, if_true] at HTK
        have kq0 := cell_regrown (w := W3) z0
        have kq1 := cell_regrown (w := W3) z1
        have kq2 := cell_regrown (w := W3) z7
        have kq3 := cell_regrown (w := W3) u0
        have kq4 := cell_regrown (w := W3) u1
        have kq5 := cell_regrown (w := W3) u2
        clear z0 z1 z7 u0 u1 u2
        refine wp_region_quiet_below (by kernel_rfl) (by kernel_rfl) ?_
        repeat (go_big_quiet_step (first | with_reducible exact cq1 _ _ | with_reducible exact cq2 _ _))
        refine wpQuiet_nil ?_
        rintro _ ⟨⟨dq, osq⟩, rfl⟩
        have hb0 := below_regrown W3 dq osq
        generalize grow (redrawn W3 dq) osq = w4 at *
        clear kq0 kq1 kq2 kq3 kq4 kq5
        clear cq1 cq2 HSH HHA
        have HM : Hid (SvO B w0 w4 p n vd vv vt (.slice aa L.U.length ca) L V G gd ∧ BU w4 q ⟨i, nm, v⟩) := ⟨HS3.out.later hb0, HU.out.later hb0⟩
        clear hb0 HS3 HU HB3
        have HM0 : Hid (SvO B w0 w4.drew p n vd vv vt (.slice aa L.U.length ca) L V G gd ∧ BU w4.drew q ⟨i, nm, v⟩) := ⟨HM.out.1.later (Below.refl _ _).drew, HM.out.2.later (Below.refl _ _).drew⟩
        have z7 := HM0.out.1.box.at 7 _ rfl
        have u0 := HM0.out.2.c0
        have u1 := HM0.out.2.c1
        have u2 := HM0.out.2.c2
        have HM1 : Hid (SvO B w0 (w4.alloc (.cells #[.int .i64 i, .string nm, .string v] 102)).drew p n vd vv vt (.slice aa L.U.length ca) L V G gd) := HM.out.1.later (((Below.refl _ _).alloc (Nat.le_refl _) _).drew)
        have y7 : (w4.alloc (.cells #[.int .i64 i, .string nm, .string v] 102)).cell? ⟨p, 7, none⟩ = some (.slice aa L.U.length ca) := HM1.out.box.at 7 _ rfl
        have HRG : Hid ((w4.alloc (.cells #[.int .i64 i, .string nm, .string v] 102)).drew.rangeAt w4.heap.size 0 (ucs ⟨i, nm, v⟩)) := (range_new w4 [.int .i64 i, .string nm, .string v] 102)
        go_wp2
        go_region_law ((refine step_chgL rfl _ _ rfl B w0 (.slice aa L.U.length ca) L.U ⟨i, nm, v⟩ (by rfl) HM1.out.ou _ (by rfl) HRG.out HLL.out.1 ?_; intro g7 cap7 w7 ho7 hg7 hl7; have HB7 : Hid (Box 35 w7 p _) := (HM1.out.box.grown hg7 (own_box HM1.out.ou.1 HM1.out.box (by decide))); have e1 := HB7.out.at 7 _ rfl; have f1 := HB7.out.fz 7))
        all_goals
          have HN2 : Hid (SvO B w0 (w7.setCell ⟨p, 7, none⟩ (.slice (some ⟨g7, 0, none⟩) (L.U.length + 1) cap7)) p _ _ _ _ _ { L with U := L.U ++ [⟨i, nm, v⟩] } _ G gd) := HM1.out.chg ho7 hg7 hl7
          clear HM0 HM1 HM HRG z7 y7 u0 u1 u2 ho7 hg7 hl7 HB7 e1 f1
          go_wp2
          refine bodyPost_ret (results_none rfl _ _ _) rfl ?_
          exact ⟨rfl, n, vv, vt, _, _, V, G, HN2.out, HTK.out.symm, rfl, rfl, rfl, rfl⟩

end Go.Proofs.YthlgohplljcgfaaGreatDoor
/-
  A record of a vote: the specification.
-/
namespace Go.Proofs.YthlgohplljcgfaaGreatDoor
open Go.RowKit Go.BigFrame Go.Sort
set_option linter.unusedVariables false
set_option linter.unusedSimpArgs false

set_option maxRecDepth 100000 in
set_option maxHeartbeats 4000000 in
theorem sRecord_2 {B : Nat} {w0 w : World} {p : Nat} {n : Sn} {vd vv vt va : Value} {L : Sr} {V : List Value} {G : Nat → Nat} {gd : Nat} (h : SvO B w0 w p n vd vv vt va L V G gd) (t : ByteArray) (ht : t.size ≤ 1048576) (h0 : 0 < t.size) (hI : 0 < L.I.length) (hI2 : L.I.length < 1000000) (hUl : L.U.length ≤ 1000000) (he0 : 0 ≤ n.e) (he1 : n.e ≤ 1000000) (hk : byB t 0 = 2) :
    Calls Tryz.prog 29 #[.pointer (some ⟨p, 0, none⟩), .string t] w (RdP B w0 p n vd L.F gd (SR.recS n.a n.k (Ss.of n L) t)) := by
  have HS : Hid (∀ W, Below w.heap.size w W → SvO B w0 W p n vd vv vt va L V G gd) := fun W hW => h.later hW
  have HB0 : Hid (Below w.heap.size w (w.alloc (.cells #[.string t, .int .i64 0, .bool false] 99)) ∧ Cu (w.alloc (.cells #[.string t, .int .i64 0, .bool false] 99)) w.heap.size t 0 false) := ⟨below_alloc _ _, Go.heap_alloc_new w _⟩
  have hkn : ((byB t 0).toNat : Int) = 2 := by rw [hk]; rfl
  have HRC : Hid (∀ x y z, SR.numsT t 3 = some [x, y, z] → SR.recS n.a n.k (Ss.of n L) t = if SR.fitB (Ss.of n L) x y z then Ss.of ⟨n.a, n.k, n.u, n.e, x, y, z⟩ L else Ss.of n L) := fun x y z e => by
    rw [SR.recS_2 hk h0, e]
    rfl
  have HRN : Hid (SR.numsT t 3 = none → SR.recS n.a n.k (Ss.of n L) t = Ss.of n L) := fun e => by
    rw [SR.recS_2 hk h0, e]
  have hI0 : 0 < L.I.length := hI
  have HLA : Hid (∀ W, SvO B w0 W p n vd vv vt va L V G gd → Calls Tryz.prog 71 #[.agg #[.int .i64 n.a, .int .i64 n.k, .bool n.u, vd, .int .i64 n.e, vv, vt, va, .int .i64 n.r0, .int .i64 n.r1, .int .i64 n.r2]] W fun e w' => e = .returned (.int .i64 (SR.lastT L.I)) ∧ Below W.heap.size W w') := fun W hW => by
    obtain ⟨g, hr, _⟩ := OR.rw (k := 1) (enc := ics) (fun _ => rfl) (by omega) hW.oi (by omega)
    exact l18Last_any n vd vv va vt g 0 L.I W hr.1 hI
  clear h
  go_enter Tryz.func29, Tryz.ntmps29
  go_wp2_with fail
  refine (l09Byte_yes w.heap.size t 0 _ HB0.out.2 ht h0).mono ?_
  rintro e_ w2 ⟨⟨rfl, hcu⟩, hg⟩
  have HB2 : Hid (Below w.heap.size w w2 ∧ Cu w2 w.heap.size t 1 false) := ⟨HB0.out.1.grown hg HB0.out.1.size (fun k hk => by simp at hk; omega), hcu⟩
  clear hcu hg HB0
  rw [hkn]
  go_wp2_with fail
  refine (l09Var_u w.heap.size t 1 _ HB2.out.2 ht (by omega)).mono ?_
  rintro e_ w3 ⟨n1, p1, b1, rfl, hcu, hp1, h1, k1, hg⟩
  have HB3 : Hid (Below w.heap.size w w3 ∧ Cu w3 w.heap.size t p1 b1) := ⟨HB2.out.1.grown hg HB2.out.1.size (fun k hk => by simp at hk; omega), hcu⟩
  have HV1 : Hid (_ ∧ _) := ⟨h1, k1⟩
  clear hcu hg HB2 h1 k1
  go_wp2_with fail
  refine (l09Var_w w.heap.size t p1 b1 _ HB3.out.2 ht hp1).mono ?_
  rintro e_ w4 ⟨n2, p2, b2, rfl, hcu, hp2, h2, k2, hg⟩
  have HB4 : Hid (Below w.heap.size w w4 ∧ Cu w4 w.heap.size t p2 b2) := ⟨HB3.out.1.grown hg HB3.out.1.size (fun k hk => by simp at hk; omega), hcu⟩
  have HV2 : Hid (_ ∧ _) := ⟨h2, k2⟩
  clear hcu hg HB3 h2 k2
  go_wp2_with fail
  refine (l09Var_w w.heap.size t p2 b2 _ HB4.out.2 ht hp2).mono ?_
  rintro e_ w5 ⟨n3, p3, b3, rfl, hcu, hp3, h3, k3, hg⟩
  have HB5 : Hid (Below w.heap.size w w5 ∧ Cu w5 w.heap.size t p3 b3) := ⟨HB4.out.1.grown hg HB4.out.1.size (fun k hk => by simp at hk; omega), hcu⟩
  have HV3 : Hid (_ ∧ _) := ⟨h3, k3⟩
  clear hcu hg HB4 h3 k3
  have hN := SR.readT3 HV1.out.1 HV1.out.2 HV2.out.1 HV2.out.2 HV3.out.1 HV3.out.2
  clear HV1 HV2 HV3 hp1 hp2
  have HS5 : Hid (SvO B w0 w5 p n vd vv vt va L V G gd) := HS.out w5 HB5.out.1
  have c1 := HB5.out.2.c1
  have c2 := HB5.out.2.c2
  have HN : Hid _ := hN
  clear hN HS
  cases b3 with
  | true =>
    have HF : Hid (SvO B w0 w5 p n vd vv vt va L V G gd ∧ SR.recS n.a n.k (Ss.of n L) t = Ss.of n L) := ⟨HS5.out, HRN.out (HN.out.1 rfl)⟩
    clear HN HRN HRC HB5 HS5 HLA
    go_wp2
    refine bodyPost_ret (results_none rfl _ _ _) rfl ?_
    exact ⟨rfl, n, vv, vt, va, L, V, G, HF.out.1, HF.out.2.symm, rfl, rfl, rfl, rfl⟩
  | false =>
    by_cases hz : p3 = t.size
    · have hN1 := HN.out.2 rfl
      rw [if_pos hz] at hN1
      have hrc := HRC.out _ _ _ hN1
      have q1 : ((p3 : Int) == (t.size : Int)) = true := by simp [hz]
      clear HN HRN HRC hN1
      obtain ⟨ad, cd, hvd⟩ := HS5.out.fz.disk.1.shape
      obtain ⟨av, cv, hvv⟩ := OR.shapeJ HS5.out.ov
      obtain ⟨at2, ct, hvt⟩ := OR.shapeJ HS5.out.oi
      obtain ⟨aa, ca, hva⟩ := HS5.out.ou.shape
      subst hvd hvv hvt hva
      obtain ⟨z0, z1, z2, z3, z4, z5, z6, z7, z8, z9, z10⟩ := HS5.out.box.all11
      have hfit : SR.fitB (Ss.of n L) n1 n2 n3 = (decide ((n1 : Int) = n.e + 1 ∧ (n1 : Int) ≤ 4) && (decide (n.r1 < (n2 : Int) ∧ (n2 : Int) ≤ 1000) && decide (SR.lastT L.I ≤ (n3 : Int) ∧ (n3 : Int) ≤ (L.U.length : Int)))) := rfl
      have wre : IntKind.i64.wrap (n.e + 1) = n.e + 1 := IntWalk.i64_in _ (by omega)
      by_cases hx : (n1 : Int) = n.e + 1
      · have q2 : ((n1 : Int) == n.e + 1) = true := by simp [hx]
        by_cases hx4 : (n1 : Int) ≤ 4
        · have d2 : decide ((n1 : Int) ≤ 4) = true := decide_eq_true hx4
          by_cases hy : n.r1 < (n2 : Int)
          · have d3 : decide (n.r1 < (n2 : Int)) = true := decide_eq_true hy
            by_cases hy2 : (n2 : Int) ≤ 1000
            · have d4 : decide ((n2 : Int) ≤ 1000) = true := decide_eq_true hy2
              rw [decide_eq_true (show (n1 : Int) = n.e + 1 ∧ (n1 : Int) ≤ 4 from ⟨hx, hx4⟩), decide_eq_true (show n.r1 < (n2 : Int) ∧ (n2 : Int) ≤ 1000 from ⟨hy, hy2⟩), Bool.true_and, Bool.true_and] at hfit
              rw [hfit] at hrc
              have HRC3 := hide hrc
              clear hrc hfit
              clear hx hx4 hy hy2
              go_wp2
              obtain ⟨b6, hb6⟩ : ∃ b, decide (SR.lastT L.I ≤ (n3 : Int) ∧ (n3 : Int) ≤ (L.U.length : Int)) = b := ⟨_, rfl⟩
              have HIN : Hid (∀ W, Calls Tryz.prog 56 #[.int .i64 (n3 : Int), .int .i64 (SR.lastT L.I), .int .i64 (L.U.length : Int)] W fun e w' => e = .returned (.bool b6) ∧ Below W.heap.size W w') := fun W => by
                rw [← hb6]
                exact (l01In_any (n3 : Int) (SR.lastT L.I) (L.U.length : Int) W).mono fun e w' ⟨h1, h2⟩ => ⟨h1, by rw [h2]; exact Below.refl _ _⟩
              have HRC4 : Hid (SR.recS n.a n.k (Ss.of n L) t = if b6 = true then Ss.of ⟨n.a, n.k, n.u, n.e, n1, n2, n3⟩ L else Ss.of n L) := by
                show _ = _
                rw [HRC3.out, ← hb6]
              have cq1 := fun d os => Calls.regrown_of (w := w5) (d := d) (os := os) (HLA.out _ (HS5.out.later (below_regrown w5 d os)))
              have cq2 := fun d os => Calls.regrown_of (w := w5) (d := d) (os := os) (HIN.out (grow (redrawn w5 d) os))
              clear hb6 HRC3
              have kq0 := cell_regrown (w := w5) z0
              have kq1 := cell_regrown (w := w5) z1
              have kq2 := cell_regrown (w := w5) z2
              have kq3 := cell_regrown (w := w5) z3
              have kq4 := cell_regrown (w := w5) z4
              have kq5 := cell_regrown (w := w5) z5
              have kq6 := cell_regrown (w := w5) z6
              have kq7 := cell_regrown (w := w5) z7
              have kq8 := cell_regrown (w := w5) z8
              have kq9 := cell_regrown (w := w5) z9
              have kq10 := cell_regrown (w := w5) z10
              clear z0 z1 z2 z3 z4 z5 z6 z7 z8 z9 z10
              refine wp_region_quiet_below (by kernel_rfl) (by kernel_rfl) ?_
              repeat (go_big_quiet_step (first | with_reducible exact cq1 _ _ | with_reducible exact cq2 _ _))
              refine wpQuiet_nil ?_
              rintro _ ⟨⟨dq, osq⟩, rfl⟩
              have hb0 := below_regrown w5 dq osq
              generalize grow (redrawn w5 dq) osq = w6 at *
              clear kq0 kq1 kq2 kq3 kq4 kq5 kq6 kq7 kq8 kq9 kq10
              have HS6 : Hid (SvO B w0 w6 p n (.slice ad L.F.length cd) (.slice av V.length cv) (.slice at2 L.I.length ct) (.slice aa L.U.length ca) L V G gd) := HS5.out.later hb0
              clear hb0 cq1 cq2 HS5 HB5 HLA HIN
              cases b6 with
              | false =>
                go_wp2
                refine bodyPost_end (results_none rfl _ _ _) rfl ?_
                exact ⟨rfl, n, _, _, _, L, V, G, HS6.out, HRC4.out.symm, rfl, rfl, rfl, rfl⟩
              | true =>
                have z8 := HS6.out.box.at 8 _ rfl
                have z9 := HS6.out.box.at 9 _ rfl
                have z10 := HS6.out.box.at 10 _ rfl
                have f8 := HS6.out.box.fz 8
                have f9 := HS6.out.box.fz 9
                have f10 := HS6.out.box.fz 10
                have HF : Hid (SvO B w0 (((w6.setCell ⟨p, 8, none⟩ (.int .i64 (n1 : Int))).setCell ⟨p, 9, none⟩ (.int .i64 (n2 : Int))).setCell ⟨p, 10, none⟩ (.int .i64 (n3 : Int))) p ⟨n.a, n.k, n.u, n.e, n1, n2, n3⟩ (.slice ad L.F.length cd) (.slice av V.length cv) (.slice at2 L.I.length ct) (.slice aa L.U.length ca) L V G gd) := HS6.out.keepR (grown_put3 _ p 8 9 10 _ _ _) (HS6.out.box.put3 _ _ _)
                clear HS6
                go_wp2
                refine bodyPost_end (results_none rfl _ _ _) rfl ?_
                exact ⟨rfl, _, _, _, _, L, V, G, HF.out, HRC4.out.symm, rfl, rfl, rfl, rfl⟩
            · have d4 : decide ((n2 : Int) ≤ 1000) = false := decide_eq_false hy2
              have HF : Hid (SvO B w0 w5 p n (.slice ad L.F.length cd) (.slice av V.length cv) (.slice at2 L.I.length ct) (.slice aa L.U.length ca) L V G gd ∧ SR.recS n.a n.k (Ss.of n L) t = Ss.of n L) := ⟨HS5.out, by rw [hrc, hfit, decide_eq_false (show ¬ (n.r1 < (n2 : Int) ∧ (n2 : Int) ≤ 1000) from fun h => hy2 h.2), Bool.false_and, Bool.and_false]; rfl⟩
              clear hrc hfit HS5 HB5 HLA
              try clear hx
              try clear hx4
              try clear hy
              try clear hy2
              go_wp2
              have kq0 := cell_regrown (w := w5) z0
              have kq1 := cell_regrown (w := w5) z1
              have kq2 := cell_regrown (w := w5) z2
              have kq3 := cell_regrown (w := w5) z3
              have kq4 := cell_regrown (w := w5) z4
              have kq5 := cell_regrown (w := w5) z5
              have kq6 := cell_regrown (w := w5) z6
              have kq7 := cell_regrown (w := w5) z7
              have kq8 := cell_regrown (w := w5) z8
              have kq9 := cell_regrown (w := w5) z9
              have kq10 := cell_regrown (w := w5) z10
              clear z0 z1 z2 z3 z4 z5 z6 z7 z8 z9 z10
              refine wp_region_quiet_below (by kernel_rfl) (by kernel_rfl) ?_
              repeat (go_big_quiet_step (fail))
              refine wpQuiet_nil ?_
              rintro _ ⟨⟨dq, osq⟩, rfl⟩
              have hb0 := below_regrown w5 dq osq
              generalize grow (redrawn w5 dq) osq = w6 at *
              clear kq0 kq1 kq2 kq3 kq4 kq5 kq6 kq7 kq8 kq9 kq10
              have HG : Hid (SvO B w0 w6 p n (.slice ad L.F.length cd) (.slice av V.length cv) (.slice at2 L.I.length ct) (.slice aa L.U.length ca) L V G gd) := HF.out.1.later hb0
              clear hb0
              go_wp2
              refine bodyPost_end (results_none rfl _ _ _) rfl ?_
              exact ⟨rfl, n, _, _, _, L, V, G, HG.out, HF.out.2.symm, rfl, rfl, rfl, rfl⟩
          · have d3 : decide (n.r1 < (n2 : Int)) = false := decide_eq_false hy
            have HF : Hid (SvO B w0 w5 p n (.slice ad L.F.length cd) (.slice av V.length cv) (.slice at2 L.I.length ct) (.slice aa L.U.length ca) L V G gd ∧ SR.recS n.a n.k (Ss.of n L) t = Ss.of n L) := ⟨HS5.out, by rw [hrc, hfit, decide_eq_false (show ¬ (n.r1 < (n2 : Int) ∧ (n2 : Int) ≤ 1000) from fun h => hy h.1), Bool.false_and, Bool.and_false]; rfl⟩
            clear hrc hfit HS5 HB5 HLA
            try clear hx
            try clear hx4
            try clear hy
            try clear hy2
            go_wp2
            have kq0 := cell_regrown (w := w5) z0
            have kq1 := cell_regrown (w := w5) z1
            have kq2 := cell_regrown (w := w5) z2
            have kq3 := cell_regrown (w := w5) z3
            have kq4 := cell_regrown (w := w5) z4
            have kq5 := cell_regrown (w := w5) z5
            have kq6 := cell_regrown (w := w5) z6
            have kq7 := cell_regrown (w := w5) z7
            have kq8 := cell_regrown (w := w5) z8
            have kq9 := cell_regrown (w := w5) z9
            have kq10 := cell_regrown (w := w5) z10
            clear z0 z1 z2 z3 z4 z5 z6 z7 z8 z9 z10
            refine wp_region_quiet_below (by kernel_rfl) (by kernel_rfl) ?_
            repeat (go_big_quiet_step (fail))
            refine wpQuiet_nil ?_
            rintro _ ⟨⟨dq, osq⟩, rfl⟩
            have hb0 := below_regrown w5 dq osq
            generalize grow (redrawn w5 dq) osq = w6 at *
            clear kq0 kq1 kq2 kq3 kq4 kq5 kq6 kq7 kq8 kq9 kq10
            have HG : Hid (SvO B w0 w6 p n (.slice ad L.F.length cd) (.slice av V.length cv) (.slice at2 L.I.length ct) (.slice aa L.U.length ca) L V G gd) := HF.out.1.later hb0
            clear hb0
            go_wp2
            refine bodyPost_end (results_none rfl _ _ _) rfl ?_
            exact ⟨rfl, n, _, _, _, L, V, G, HG.out, HF.out.2.symm, rfl, rfl, rfl, rfl⟩
        · have d2 : decide ((n1 : Int) ≤ 4) = false := decide_eq_false hx4
          have HF : Hid (SvO B w0 w5 p n (.slice ad L.F.length cd) (.slice av V.length cv) (.slice at2 L.I.length ct) (.slice aa L.U.length ca) L V G gd ∧ SR.recS n.a n.k (Ss.of n L) t = Ss.of n L) := ⟨HS5.out, by rw [hrc, hfit, decide_eq_false (show ¬ ((n1 : Int) = n.e + 1 ∧ (n1 : Int) ≤ 4) from fun h => hx4 h.2), Bool.false_and]; rfl⟩
          clear hrc hfit HS5 HB5 HLA
          try clear hx
          try clear hx4
          try clear hy
          try clear hy2
          go_wp2
          have kq0 := cell_regrown (w := w5) z0
          have kq1 := cell_regrown (w := w5) z1
          have kq2 := cell_regrown (w := w5) z2
          have kq3 := cell_regrown (w := w5) z3
          have kq4 := cell_regrown (w := w5) z4
          have kq5 := cell_regrown (w := w5) z5
          have kq6 := cell_regrown (w := w5) z6
          have kq7 := cell_regrown (w := w5) z7
          have kq8 := cell_regrown (w := w5) z8
          have kq9 := cell_regrown (w := w5) z9
          have kq10 := cell_regrown (w := w5) z10
          clear z0 z1 z2 z3 z4 z5 z6 z7 z8 z9 z10
          refine wp_region_quiet_below (by kernel_rfl) (by kernel_rfl) ?_
          repeat (go_big_quiet_step (fail))
          refine wpQuiet_nil ?_
          rintro _ ⟨⟨dq, osq⟩, rfl⟩
          have hb0 := below_regrown w5 dq osq
          generalize grow (redrawn w5 dq) osq = w6 at *
          clear kq0 kq1 kq2 kq3 kq4 kq5 kq6 kq7 kq8 kq9 kq10
          have HG : Hid (SvO B w0 w6 p n (.slice ad L.F.length cd) (.slice av V.length cv) (.slice at2 L.I.length ct) (.slice aa L.U.length ca) L V G gd) := HF.out.1.later hb0
          clear hb0
          go_wp2
          refine bodyPost_end (results_none rfl _ _ _) rfl ?_
          exact ⟨rfl, n, _, _, _, L, V, G, HG.out, HF.out.2.symm, rfl, rfl, rfl, rfl⟩
      · have HF : Hid (SvO B w0 w5 p n (.slice ad L.F.length cd) (.slice av V.length cv) (.slice at2 L.I.length ct) (.slice aa L.U.length ca) L V G gd ∧ SR.recS n.a n.k (Ss.of n L) t = Ss.of n L) := ⟨HS5.out, by rw [hrc, hfit, decide_eq_false (show ¬ ((n1 : Int) = n.e + 1 ∧ (n1 : Int) ≤ 4) from fun h => hx h.1), Bool.false_and]; rfl⟩
        have q2 : ((n1 : Int) == n.e + 1) = false := by simp; omega
        clear hrc hfit HS5 HB5 HLA
        try clear hx
        try clear hx4
        try clear hy
        try clear hy2
        go_wp2
        have kq0 := cell_regrown (w := w5) z0
        have kq1 := cell_regrown (w := w5) z1
        have kq2 := cell_regrown (w := w5) z2
        have kq3 := cell_regrown (w := w5) z3
        have kq4 := cell_regrown (w := w5) z4
        have kq5 := cell_regrown (w := w5) z5
        have kq6 := cell_regrown (w := w5) z6
        have kq7 := cell_regrown (w := w5) z7
        have kq8 := cell_regrown (w := w5) z8
        have kq9 := cell_regrown (w := w5) z9
        have kq10 := cell_regrown (w := w5) z10
        clear z0 z1 z2 z3 z4 z5 z6 z7 z8 z9 z10
        refine wp_region_quiet_below (by kernel_rfl) (by kernel_rfl) ?_
        repeat (go_big_quiet_step (fail))
        refine wpQuiet_nil ?_
        rintro _ ⟨⟨dq, osq⟩, rfl⟩
        have hb0 := below_regrown w5 dq osq
        generalize grow (redrawn w5 dq) osq = w6 at *
        clear kq0 kq1 kq2 kq3 kq4 kq5 kq6 kq7 kq8 kq9 kq10
        have HG : Hid (SvO B w0 w6 p n (.slice ad L.F.length cd) (.slice av V.length cv) (.slice at2 L.I.length ct) (.slice aa L.U.length ca) L V G gd) := HF.out.1.later hb0
        clear hb0
        go_wp2
        refine bodyPost_end (results_none rfl _ _ _) rfl ?_
        exact ⟨rfl, n, _, _, _, L, V, G, HG.out, HF.out.2.symm, rfl, rfl, rfl, rfl⟩
    · have hN1 := HN.out.2 rfl
      rw [if_neg hz] at hN1
      have HF : Hid (SvO B w0 w5 p n vd vv vt va L V G gd ∧ SR.recS n.a n.k (Ss.of n L) t = Ss.of n L) := ⟨HS5.out, HRN.out hN1⟩
      have q1 : ((p3 : Int) == (t.size : Int)) = false := by simp; omega
      clear HN HRN HRC HB5 HS5 hN1 HLA
      go_wp2
      refine bodyPost_ret (results_none rfl _ _ _) rfl ?_
      exact ⟨rfl, n, vv, vt, va, L, V, G, HF.out.1, HF.out.2.symm, rfl, rfl, rfl, rfl⟩

end Go.Proofs.YthlgohplljcgfaaGreatDoor
