/-
  Texts laid together: Cg, Dn, Pad.
-/
import Derived.Test.YtiabodhgjeoejaaPkC15
import Derived.Test.YtiabodhgjeoejaaPkC12
import Derived.Test.YtiabodhgjeoejaaPkC7
import Derived.Test.YtiabodhgjeoejaaPkC2
import Derived.Test.YtiabodhgjeoejaaPkC0
import Derived.Lib.ConvBytes
import Derived.Lib.BufferWrite
/-
  A change read from its text: the specification's answer.
-/
namespace Go.Proofs.Ytiabodhgjeoejaa
open Go.RowKit Go.BigFrame Go.Sort
set_option linter.unusedVariables false
set_option linter.unusedSimpArgs false

/-- one text read at a cursor, whether there is one or not -/
theorem l09Short_u (c : Nat) (s : ByteArray) (p : Nat) (b : Bool) (w : World) (h : Cu w c s p b) (hs : s.size ≤ 1048576) (hp : p ≤ s.size) :
    Calls Try.prog 55 #[.pointer (some ⟨c, 0, none⟩)] w fun e w' => ∃ T r b', e = .returned (.string T) ∧ Cu w' c s r b' ∧ r ≤ s.size ∧ T.size ≤ s.size ∧ (b' = false → b = false ∧ LV.shortAt s p = some (T, r)) ∧ (b' = true → b = true ∨ LV.shortAt s p = none) ∧ w.grownBy w' (some c) := by
  cases b with
  | true => exact (l09Short_no c s p true w h hs hp (.inl rfl)).mono fun e w' ⟨⟨he, hc⟩, hg⟩ => ⟨_, p, true, he, hc, hp, Nat.zero_le _, fun h => (by cases h), fun _ => .inl rfl, hg⟩
  | false =>
    cases hr : LV.shortAt s p with
    | none => exact (l09Short_no c s p false w h hs hp (.inr hr)).mono fun e w' ⟨⟨he, hc⟩, hg⟩ => ⟨_, p, true, he, hc, hp, Nat.zero_le _, fun h => (by cases h), fun _ => .inr rfl, hg⟩
    | some y =>
      obtain ⟨T, r⟩ := y
      exact (l09Short_yes c s p r T w h hs hp hr).mono fun e w' ⟨⟨he, hc⟩, hg⟩ => ⟨T, r, false, he, hc, (LV.shortAt_some hp hr).2.1, LV.shortAt_size hr, fun _ => ⟨rfl, rfl⟩, fun h => (by cases h), hg⟩
theorem l09Var_u (c : Nat) (s : ByteArray) (p : Nat) (w : World) (h : Cu w c s p false) (hs : s.size ≤ 1048576) (hp : p ≤ s.size) :
    Calls Try.prog 54 #[.pointer (some ⟨c, 0, none⟩)] w fun e w' => ∃ (n r : Nat) (b' : Bool), e = .returned (.int .i64 (n : Int)) ∧ Cu w' c s r b' ∧ r ≤ s.size ∧ (b' = false → M.readVar s.data.toList p = some (n, r)) ∧ (b' = true → M.readVar s.data.toList p = none) ∧ w.grownBy w' (some c) := by
  refine (l09Var_at c s p w h hs hp).mono ?_
  rintro e w' ⟨hm, hg⟩
  cases hr : M.readVar s.data.toList p with
  | none => rw [hr] at hm; exact ⟨0, p, true, hm.1, hm.2, hp, fun h => (by cases h), fun _ => rfl, hg⟩
  | some y =>
    obtain ⟨n, q⟩ := y
    rw [hr] at hm
    exact ⟨n, q, false, hm.1, hm.2, (read_bound s p n q hr).1, fun _ => rfl, fun h => (by cases h), hg⟩
namespace UV
/-- what three readings one after the other say -/
theorem three {t A V : ByteArray} {n p q r : Nat} {b1 b2 b3 : Bool} (h1 : b1 = false → M.readVar t.data.toList 0 = some (n, p)) (k1 : b1 = true → M.readVar t.data.toList 0 = none)
    (h2 : b2 = false → b1 = false ∧ LV.shortAt t p = some (A, q)) (k2 : b2 = true → b1 = true ∨ LV.shortAt t p = none) (h3 : b3 = false → b2 = false ∧ LV.shortAt t q = some (V, r)) (k3 : b3 = true → b2 = true ∨ LV.shortAt t q = none) :
    (b3 = true → rdOk t = false ∧ rdA t = zU) ∧ (b3 = false → okU ⟨(n : Int), A, V⟩ = false → rdOk t = false ∧ rdA t = zU) ∧ (b3 = false → okU ⟨(n : Int), A, V⟩ = true → textU ⟨(n : Int), A, V⟩ ≠ t → rdOk t = false ∧ rdA t = zU) ∧ (b3 = false → okU ⟨(n : Int), A, V⟩ = true → textU ⟨(n : Int), A, V⟩ = t → rdOk t = true ∧ rdA t = ⟨(n : Int), A, V⟩) := by
  have hsome : b3 = false → M.readVar t.data.toList 0 = some (n, p) ∧ LV.leafAt t p = some (⟨A, V⟩, r) := fun h => by
    obtain ⟨e2, s2⟩ := h3 h
    obtain ⟨e1, s1⟩ := h2 e2
    refine ⟨h1 e1, ?_⟩
    unfold LV.leafAt; rw [s1]; simp only; rw [s2]
  refine ⟨fun h => ?_, fun h ho => ?_, fun h ho ht => ?_, fun h ho ht => ?_⟩
  · apply rd_none
    cases hv : M.readVar t.data.toList 0 with
    | none => exact raw_none1 hv
    | some y =>
      have e1 : b1 = false := by cases b1; rfl; rw [k1 rfl] at hv; cases hv
      rw [h1 e1] at hv
      obtain rfl := Option.some.inj hv
      refine raw_none2 (h1 e1) ?_
      cases b2 with
      | true =>
        have s1 : LV.shortAt t p = none := by rcases k2 rfl with h | h; rw [e1] at h; cases h; exact h
        unfold LV.leafAt; rw [s1]
      | false =>
        have s2 : LV.shortAt t q = none := by rcases k3 h with h | h; cases h; exact h
        unfold LV.leafAt; rw [(h2 rfl).2]; simp only; rw [s2]
  · obtain ⟨e1, e2⟩ := hsome h
    obtain ⟨d1, d2⟩ := rd_some (raw_some e1 e2)
    simp only [ho, Bool.and_false] at d1 d2
    exact ⟨d1, by rw [d2]; rfl⟩
  · obtain ⟨e1, e2⟩ := hsome h
    obtain ⟨d1, d2⟩ := rd_some (raw_some e1 e2)
    have hne : r ≠ t.size := fun hr => ht (by unfold textU; rw [if_pos ho]; exact (raw_whole e1 e2).2 hr)
    simp only [ho, Bool.and_true, decide_eq_false hne] at d1 d2
    exact ⟨d1, by rw [d2]; rfl⟩
  · obtain ⟨e1, e2⟩ := hsome h
    obtain ⟨d1, d2⟩ := rd_some (raw_some e1 e2)
    have he : r = t.size := (raw_whole e1 e2).1 (by unfold textU at ht; rw [if_pos ho] at ht; exact ht)
    simp only [ho, Bool.and_true, decide_eq_true he] at d1 d2
    exact ⟨d1, by rw [d2]; rfl⟩
end UV

/-- where the reader's cursor, what is answered and what is read lie -/
def RcS (t : ByteArray) (w W : World) (g : Nat) (x : Ug) (p : Nat) (b : Bool) : Prop := Below w.heap.size w W ∧ BU W w.heap.size UV.zU ∧ Cu W (w.heap.size + 1) t p b ∧ BU W g x ∧ w.heap.size + 1 < g
section
variable {t : ByteArray} {w W W' : World} {g p q : Nat} {x : Ug} {b b' : Bool}
theorem RcS.read (h : RcS t w W g x p b) (hg : W.grownBy W' (some (w.heap.size + 1))) (hc : Cu W' (w.heap.size + 1) t q b') : RcS t w W' g x q b' := by
  obtain ⟨h1, h2, h3, h4, h5⟩ := h
  exact ⟨h1.grown hg h1.size (fun k hk => by simp at hk; omega), h2.grown hg (by simp), hc, h4.grown hg (by simp; omega), h5⟩
theorem RcS.later (h : RcS t w W g x p b) (hb : Below W.heap.size W W') : RcS t w W' g x p b := by
  obtain ⟨h1, h2, h3, h4, h5⟩ := h
  exact ⟨h1.trans (hb.mono h1.size), h2.later hb, h3.later hb, h4.later hb, h5⟩
theorem RcS.set1 (h : RcS t w W g x p b) (y : ByteArray) : RcS t w (W.setCell ⟨g, 1, none⟩ (.string y)) g ⟨x.i, y, x.v⟩ p b := by
  obtain ⟨h1, h2, h3, h4, h5⟩ := h
  have hg := grown_setC W g 1 (.string y)
  exact ⟨h1.grown hg h1.size (fun k hk => by simp at hk; omega), h2.grown hg (by simp; omega), h3.grown hg (by simp; omega), h4.set1 y, h5⟩
theorem RcS.set2 (h : RcS t w W g x p b) (y : ByteArray) : RcS t w (W.setCell ⟨g, 2, none⟩ (.string y)) g ⟨x.i, x.n, y⟩ p b := by
  obtain ⟨h1, h2, h3, h4, h5⟩ := h
  have hg := grown_setC W g 2 (.string y)
  exact ⟨h1.grown hg h1.size (fun k hk => by simp at hk; omega), h2.grown hg (by simp; omega), h3.grown hg (by simp; omega), h4.set2 y, h5⟩
/-- what is answered is written where it is answered -/
theorem RcS.put (h : RcS t w W g x p b) (y : Ug) : BU (W.setCells w.heap.size 0 (ucs y)) w.heap.size y ∧ Below w.heap.size w (W.setCells w.heap.size 0 (ucs y)) := ⟨h.2.1.put y, below_setCells (Nat.le_refl _) _ _ _ h.1⟩
end

set_option maxRecDepth 100000 in
set_option maxHeartbeats 1000000 in
theorem sReadChange_any (t : ByteArray) (w : World) (ht : t.size ≤ 1048576) : Calls Try.prog 18 #[.string t] w fun e w' => e = .returned (.tuple #[.agg #[.int .i64 (UV.rdA t).i, .string (UV.rdA t).n, .string (UV.rdA t).v], .bool (UV.rdOk t)]) ∧ Below w.heap.size w w' := by
  have HB : Hid (Below w.heap.size w ((w.alloc (.cells #[.int .i64 0, .string ⟨#[]⟩, .string ⟨#[]⟩] 31)).alloc (.cells #[.string t, .int .i64 0, .bool false] 82)) ∧ BU ((w.alloc (.cells #[.int .i64 0, .string ⟨#[]⟩, .string ⟨#[]⟩] 31)).alloc (.cells #[.string t, .int .i64 0, .bool false] 82)) w.heap.size UV.zU ∧ Cu ((w.alloc (.cells #[.int .i64 0, .string ⟨#[]⟩, .string ⟨#[]⟩] 31)).alloc (.cells #[.string t, .int .i64 0, .bool false] 82)) (w.heap.size + 1) t 0 false) := by
    refine ⟨((Below.refl _ _).alloc (Nat.le_refl _) _).alloc (by simp) _, (BU.new w UV.zU).later ((Below.refl _ _).alloc (Nat.le_refl _) _), ?_⟩
    exact alloc_fst _ _ (by simp)
  have hne : some w.heap.size ≠ some (w.heap.size + 1) := by simp
  have hcv := l09Var_u (w.heap.size + 1) t 0 _ HB.out.2.2 ht (Nat.zero_le _)
  have HCT : Hid (∀ (x : Ug) W, x.n.size ≤ 1048576 → x.v.size ≤ 1048576 → Calls Try.prog 27 #[.agg #[.int .i64 x.i, .string x.n, .string x.v]] W fun e w' => e = .returned (.tuple #[.string (UV.textU x), .bool (UV.okU x)]) ∧ Below W.heap.size W w') := fun x W h1 h2 => sChangeText_any x W h1 h2
  go_enter Try.func18, Try.ntmps18
  go_wp2_with fail
  refine hcv.mono ?_
  rintro e1 w1 ⟨n, p, b1, rfl, hcu1, hp, h1, k1, hg1⟩
  have HS1 : Hid (RcS t w (w1.alloc (.cells #[.int .i64 (n : Int), .string ⟨#[]⟩, .string ⟨#[]⟩] 31)) w1.heap.size ⟨(n : Int), ⟨#[]⟩, ⟨#[]⟩⟩ p b1) := by
    have k1 := HB.out.1.grown hg1 HB.out.1.size (fun k hk => by simp at hk; omega)
    have k2 : Below w1.heap.size w1 (w1.alloc (.cells #[.int .i64 (n : Int), .string ⟨#[]⟩, .string ⟨#[]⟩] 31)) := (Below.refl _ _).alloc (Nat.le_refl _) _
    exact ⟨k1.alloc k1.size _, (HB.out.2.1.grown hg1 hne).later k2, hcu1.later k2, BU.new w1 ⟨(n : Int), ⟨#[]⟩, ⟨#[]⟩⟩, hcu1.lt⟩
  clear hcu1 hg1 HB hcv
  have hc2 := l09Short_u (w.heap.size + 1) t p b1 _ HS1.out.2.2.1 ht hp
  go_wp2_with fail
  refine hc2.mono ?_
  rintro e2 w2 ⟨T, q, b2, rfl, hcu2, hq, hT, h2, k2, hg2⟩
  have HS2 : Hid (RcS t w w2 w1.heap.size ⟨(n : Int), ⟨#[]⟩, ⟨#[]⟩⟩ q b2) := HS1.out.read hg2 hcu2
  have y1 := HS2.out.2.2.2.1.c1
  have f1 := HS2.out.2.2.2.1.fz 1
  have HS3 : Hid (RcS t w (w2.setCell ⟨w1.heap.size, 1, none⟩ (.string T)) w1.heap.size ⟨(n : Int), T, ⟨#[]⟩⟩ q b2) := HS2.out.set1 T
  clear hcu2 hg2 hc2 HS1 HS2
  have hc3 := l09Short_u (w.heap.size + 1) t q b2 _ HS3.out.2.2.1 ht hq
  simp only at y1
  go_wp2_with fail
  refine hc3.mono ?_
  rintro e3 w3 ⟨V, r, b3, rfl, hcu3, hr, hV, h3, k3, hg3⟩
  have HS4 : Hid (RcS t w w3 w1.heap.size ⟨(n : Int), T, ⟨#[]⟩⟩ r b3) := HS3.out.read hg3 hcu3
  have y2 := HS4.out.2.2.2.1.c2
  have f2 := HS4.out.2.2.2.1.fz 2
  have HS5 : Hid (RcS t w (w3.setCell ⟨w1.heap.size, 2, none⟩ (.string V)) w1.heap.size ⟨(n : Int), T, V⟩ r b3) := HS4.out.set2 V
  clear hcu3 hg3 hc3 HS3 HS4 y1 f1
  have z0 := HS5.out.2.2.2.1.c0
  have z1 := HS5.out.2.2.2.1.c1
  have z2 := HS5.out.2.2.2.1.c2
  simp only at y2 z0 z1 z2
  obtain ⟨m1, m2, m3, m4⟩ := UV.three h1 k1 h2 k2 h3 k3
  have HM : Hid ((b3 = true → UV.rdOk t = false ∧ UV.rdA t = UV.zU) ∧ (b3 = false → UV.okU ⟨(n : Int), T, V⟩ = false → UV.rdOk t = false ∧ UV.rdA t = UV.zU) ∧ (b3 = false → UV.okU ⟨(n : Int), T, V⟩ = true → UV.textU ⟨(n : Int), T, V⟩ ≠ t → UV.rdOk t = false ∧ UV.rdA t = UV.zU) ∧ (b3 = false → UV.okU ⟨(n : Int), T, V⟩ = true → UV.textU ⟨(n : Int), T, V⟩ = t → UV.rdOk t = true ∧ UV.rdA t = ⟨(n : Int), T, V⟩)) := ⟨m1, m2, m3, m4⟩
  have hct := HCT.out ⟨(n : Int), T, V⟩
  simp only at hct
  have HCT2 := hide (fun W => hct W (by omega) (by omega))
  have ho := HM.out
  clear h1 k1 h2 k2 h3 k3 m1 m2 m3 m4 HCT hct hp hq hr hT hV
  generalize UV.okU ⟨(n : Int), T, V⟩ = B at *
  generalize UV.textU ⟨(n : Int), T, V⟩ = X at *
  clear ho
  go_wp2_with fail
  refine (HCT2.out _).mono ?_
  rintro e6 w6 ⟨rfl, hb6⟩
  have HS6 : Hid (RcS t w w6 w1.heap.size ⟨(n : Int), T, V⟩ r b3) := HS5.out.later hb6
  clear HS5 HCT2 hb6 y2 f2 z0 z1 z2
  have cb := HS6.out.2.2.1.c2
  have z0 := HS6.out.2.1.c0
  have z1 := HS6.out.2.1.c1
  have z2 := HS6.out.2.1.c2
  have f0 := HS6.out.2.1.fz 0
  have f1 := HS6.out.2.1.fz 1
  have f2 := HS6.out.2.1.fz 2
  have y0 := HS6.out.2.2.2.1.c0
  have y1 := HS6.out.2.2.2.1.c1
  have y2 := HS6.out.2.2.2.1.c2
  simp only at y0 y1 y2
  have HE := hide (HS6.out.put UV.zU)
  cases b3
  · cases B
    · have HD := hide (HM.out.2.1 rfl rfl)
      clear HM HS6
      go_wp2
      exact ret_ug2 2 3 w.heap.size UV.zU _ rfl rfl rfl rfl HE.out.1 ⟨by rw [HD.out.1, HD.out.2]; rfl, HE.out.2⟩
    · by_cases hx : X = t
      · have HD := hide (HM.out.2.2.2 rfl rfl hx)
        have qx : (X.toList == t.toList) = true := by rw [hx]; simp
        have HY := hide (HS6.out.put ⟨(n : Int), T, V⟩)
        clear HM HS6 HE
        go_wp2
        exact ret_ug2 2 3 w.heap.size ⟨(n : Int), T, V⟩ _ rfl rfl rfl rfl HY.out.1 ⟨by rw [HD.out.1, HD.out.2]; rfl, HY.out.2⟩
      · have HD := hide (HM.out.2.2.1 rfl rfl hx)
        have qx : (X.toList == t.toList) = false := LV.bytes_ne hx
        clear HM HS6
        go_wp2
        exact ret_ug2 2 3 w.heap.size UV.zU _ rfl rfl rfl rfl HE.out.1 ⟨by rw [HD.out.1, HD.out.2]; rfl, HE.out.2⟩
  · have HD := hide (HM.out.1 rfl)
    clear HM HS6
    go_wp2
    exact ret_ug2 2 3 w.heap.size UV.zU _ rfl rfl rfl rfl HE.out.1 ⟨by rw [HD.out.1, HD.out.2]; rfl, HE.out.2⟩

end Go.Proofs.Ytiabodhgjeoejaa
/-
  What the draws of names, values and places of bits give.
-/
namespace Go.Proofs.Ytiabodhgjeoejaa
open Go.RowKit
set_option linter.unusedVariables false

theorem l01Pick_in (B : Nat) (w0 w : World) (g : Nat) (v : Value) (gl cap : Nat) (zs : List ByteArray) (hc : Cur B w0 w g v) (h0 : 0 < zs.length) (h1 : zs.length ≤ 1000000) (hne : gl ≠ g) (hgl : gl < w.heap.size)
    (hcell : Hid (∀ j, (h : j < zs.length) → w.cell? ⟨gl, j, none⟩ = some (.string zs[j]))) :
    Calls Try.prog 83 #[.pointer (some ⟨g, 0, none⟩), .slice (some ⟨gl, 0, none⟩) zs.length cap] w fun e w' => ∃ y : ByteArray, y ∈ zs ∧ e = .returned (.string y) ∧ Cur B w0 w' g v ∧ w.grownBy w' (some g) := by
  go_enter Try.func83, Try.ntmps83
  go_wp2_with fail
  refine (l01Below_nat B w0 _ g v zs.length hc h0 (by omega)).mono ?_
  rintro e w1 ⟨j, hj, rfl, hc1, hg1⟩
  have hcl : w1.cell? ⟨gl, j, none⟩ = some (.string zs[j]) := hg1.cell (hcell.out j hj) (by simpa using hne)
  go_wp2
  go_ret
  exact ⟨zs[j], List.getElem_mem _, rfl, hc1, hg1⟩

/-- one of a list of texts that is written out -/
theorem pick_lit (B : Nat) (w0 w : World) (g : Nat) (v : Value) (n : Nat) (zs : List ByteArray) (cs : Array Value) (hc1 : Cur B w0 w g v) (hn : zs.length = n) (h0 : 0 < n) (h1 : n ≤ 1000000)
    (hcell : Hid (∀ j, (h : j < zs.length) → (w.alloc (.cells cs 9)).cell? ⟨w.heap.size, j, none⟩ = some (.string zs[j]))) :
    Hid (Calls Try.prog 83 #[.pointer (some ⟨g, 0, none⟩), .slice (some ⟨w.heap.size, 0, none⟩) n n] (w.alloc (.cells cs 9)) fun e w' => ∃ y : ByteArray, y ∈ zs ∧ e = .returned (.string y) ∧ Cur B w0 w' g v ∧ w.grownBy w' (some g)) := by
  have hca : Cur B w0 (w.alloc (.cells cs 9)) g v := hc1.kept (World.grownBy_alloc w _ none) (by simp) hc1.size (fun k hk => by cases hk)
  have hga : w.grownBy (w.alloc (.cells cs 9)) (some g) := World.grownBy_alloc w _ (some g)
  have hgl := hc1.lt
  have cP := l01Pick_in B w0 (w.alloc (.cells cs 9)) g v w.heap.size n zs hca (by omega) (by omega) (by omega) (by simp) hcell
  rw [hn] at cP
  exact cP.mono fun e w' ⟨y, hy, he, hc, hg⟩ => ⟨y, hy, he, hc, hga.trans hg⟩

def nameL : List ByteArray := [⟨#[97, 110, 110]⟩, ⟨#[98, 111, 98]⟩, ⟨#[99, 97, 116]⟩, ⟨#[100, 97, 110]⟩, ⟨#[101, 118, 101]⟩, ⟨#[102, 97, 121]⟩, ⟨#[103, 117, 115]⟩, ⟨#[104, 97, 108]⟩, ⟨#[105, 118, 121]⟩, ⟨#[106, 111, 101, 64, 120, 46, 111, 114, 103]⟩, ⟨#[107, 105, 109]⟩, ⟨#[108, 101, 111]⟩]
def nameC : Array Value := #[.string ⟨#[97, 110, 110]⟩, .string ⟨#[98, 111, 98]⟩, .string ⟨#[99, 97, 116]⟩, .string ⟨#[100, 97, 110]⟩, .string ⟨#[101, 118, 101]⟩, .string ⟨#[102, 97, 121]⟩, .string ⟨#[103, 117, 115]⟩, .string ⟨#[104, 97, 108]⟩, .string ⟨#[105, 118, 121]⟩, .string ⟨#[106, 111, 101, 64, 120, 46, 111, 114, 103]⟩, .string ⟨#[107, 105, 109]⟩, .string ⟨#[108, 101, 111]⟩]
theorem name_at (w : World) : Hid (∀ j, (h : j < nameL.length) → (w.alloc (.cells nameC 9)).cell? ⟨w.heap.size, j, none⟩ = some (.string nameL[j])) := by
  intro j hj
  rw [World.cell?_alloc_at _ _ _ _ rfl]
  have : j = 0 ∨ j = 1 ∨ j = 2 ∨ j = 3 ∨ j = 4 ∨ j = 5 ∨ j = 6 ∨ j = 7 ∨ j = 8 ∨ j = 9 ∨ j = 10 ∨ j = 11 := by simp [nameL] at hj; omega
  rcases this with rfl | rfl | rfl | rfl | rfl | rfl | rfl | rfl | rfl | rfl | rfl | rfl <;> rfl

theorem nameL_ok : ∀ y ∈ nameL, okB nameB y = true ∧ y.size ≤ 12 := by decide +kernel

theorem l04Name_in (B : Nat) (w0 w : World) (g : Nat) (v : Value) (hc : Cur B w0 w g v) :
    Calls Try.prog 71 #[.pointer (some ⟨g, 0, none⟩)] w fun e w' => ∃ y : ByteArray, y ∈ nameL ∧ e = .returned (.string y) ∧ Cur B w0 w' g v ∧ w.grownBy w' (some g) := by
  have CP := pick_lit B w0 w g v 12 nameL nameC hc rfl (by omega) (by omega) (name_at w)
  go_enter Try.func71, Try.ntmps71
  go_wp2_with fail
  refine CP.out.mono ?_
  rintro e w2 ⟨y, hy, rfl, hc2, hg2⟩
  go_wp2
  go_ret
  exact ⟨y, hy, rfl, hc2, hg2⟩

def nokL : List ByteArray := [⟨#[]⟩, ⟨#[97, 110, 110]⟩, ⟨#[106, 111, 101, 64, 120, 46, 111, 114, 103]⟩, ⟨#[65]⟩, ⟨#[116, 119, 101, 108, 118, 101, 116, 119, 101, 108, 118, 101]⟩, ⟨#[116, 104, 105, 114, 116, 101, 101, 110, 116, 104, 105, 114, 116]⟩, ⟨#[97, 32, 98]⟩, ⟨#[48]⟩, ⟨#[97, 0]⟩]
def nokC : Array Value := #[.string ⟨#[]⟩, .string ⟨#[97, 110, 110]⟩, .string ⟨#[106, 111, 101, 64, 120, 46, 111, 114, 103]⟩, .string ⟨#[65]⟩, .string ⟨#[116, 119, 101, 108, 118, 101, 116, 119, 101, 108, 118, 101]⟩, .string ⟨#[116, 104, 105, 114, 116, 101, 101, 110, 116, 104, 105, 114, 116]⟩, .string ⟨#[97, 32, 98]⟩, .string ⟨#[48]⟩, .string ⟨#[97, 0]⟩]
theorem nok_at (w : World) : Hid (∀ j, (h : j < nokL.length) → (w.alloc (.cells nokC 9)).cell? ⟨w.heap.size, j, none⟩ = some (.string nokL[j])) := by
  intro j hj
  rw [World.cell?_alloc_at _ _ _ _ rfl]
  have : j = 0 ∨ j = 1 ∨ j = 2 ∨ j = 3 ∨ j = 4 ∨ j = 5 ∨ j = 6 ∨ j = 7 ∨ j = 8 := by simp [nokL] at hj; omega
  rcases this with rfl | rfl | rfl | rfl | rfl | rfl | rfl | rfl | rfl <;> rfl

theorem nokL_ok : ∀ y ∈ nokL, y.size ≤ 13 := by decide +kernel

def vokL : List ByteArray := [⟨#[]⟩, ⟨#[107, 49]⟩, ⟨#[126]⟩, ⟨#[116, 119, 101, 108, 118, 101, 116, 119, 101, 108, 118, 101]⟩, ⟨#[116, 104, 105, 114, 116, 101, 101, 110, 116, 104, 105, 114, 116]⟩, ⟨#[97, 32, 98]⟩, ⟨#[127]⟩, ⟨#[65, 33]⟩]
def vokC : Array Value := #[.string ⟨#[]⟩, .string ⟨#[107, 49]⟩, .string ⟨#[126]⟩, .string ⟨#[116, 119, 101, 108, 118, 101, 116, 119, 101, 108, 118, 101]⟩, .string ⟨#[116, 104, 105, 114, 116, 101, 101, 110, 116, 104, 105, 114, 116]⟩, .string ⟨#[97, 32, 98]⟩, .string ⟨#[127]⟩, .string ⟨#[65, 33]⟩]
theorem vok_at (w : World) : Hid (∀ j, (h : j < vokL.length) → (w.alloc (.cells vokC 9)).cell? ⟨w.heap.size, j, none⟩ = some (.string vokL[j])) := by
  intro j hj
  rw [World.cell?_alloc_at _ _ _ _ rfl]
  have : j = 0 ∨ j = 1 ∨ j = 2 ∨ j = 3 ∨ j = 4 ∨ j = 5 ∨ j = 6 ∨ j = 7 := by simp [vokL] at hj; omega
  rcases this with rfl | rfl | rfl | rfl | rfl | rfl | rfl | rfl <;> rfl

theorem vokL_ok : ∀ y ∈ vokL, y.size ≤ 13 := by decide +kernel

/-- a number that fits -/
def fits (y : Int) : Prop := -9223372036854775808 ≤ y ∧ y ≤ 9223372036854775807
def plL (n : Nat) : List Int := [-1, (n : Int), (n : Int) + 1, 9223372036854775807, -9223372036854775808]
def plC (n : Nat) : Array Value := #[.int .i64 (-1), .int .i64 (n : Int), .int .i64 ((n : Int) + 1), .int .i64 9223372036854775807, .int .i64 (-9223372036854775808)]
theorem pl_at (n : Nat) (w : World) : Hid (∀ j, (h : j < (plL n).length) → (w.alloc (.cells (plC n) 3)).cell? ⟨w.heap.size, j, none⟩ = some (.int .i64 (plL n)[j])) := by
  intro j hj
  rw [World.cell?_alloc_at _ _ _ _ rfl]
  have : j = 0 ∨ j = 1 ∨ j = 2 ∨ j = 3 ∨ j = 4 := by simp [plL] at hj; omega
  rcases this with rfl | rfl | rfl | rfl | rfl <;> rfl
theorem plL_in (n : Nat) (hn : n ≤ 1000000) (y : Int) (h : y ∈ plL n) : fits y := by
  unfold fits
  simp [plL] at h
  omega

end Go.Proofs.Ytiabodhgjeoejaa
/-
  What PadText answers, in plain words; a row of bytes that the call owns, also one that was made of a string.
-/
namespace Go.Proofs.Ytiabodhgjeoejaa
open Go.RowKit
set_option linter.unusedVariables false

/-- the byte of place j of the length, the highest first -/
def lenB (n j : Nat) : UInt8 := UInt8.ofNat (n / 256 ^ (7 - j))
def lenL (n k : Nat) : List UInt8 := (List.range k).map (lenB n)
def padZ (n : Nat) : Nat := (119 - n % 64) % 64
def padL (l : List UInt8) : List UInt8 := (l ++ [128] ++ List.replicate (padZ l.length) 0) ++ lenL (8 * l.length) 8

theorem lenL_len (n k : Nat) : (lenL n k).length = k := by simp [lenL]
theorem lenL_succ (n k : Nat) : lenL n (k + 1) = lenL n k ++ [lenB n k] := by simp [lenL, List.range_succ]
theorem padZ_mod (n : Nat) : (n + 1 + padZ n) % 64 = 56 := by unfold padZ; omega
theorem padZ_least (n k : Nat) (h : k < padZ n) : (n + 1 + k) % 64 ≠ 56 := by unfold padZ at h; omega
theorem padL_len (l : List UInt8) : (padL l).length = l.length + 1 + padZ l.length + 8 := by
  unfold padL
  rw [List.length_append, lenL_len]
  simp
  omega
theorem padL_blocks (l : List UInt8) : (padL l).length = (l.length + 72) / 64 * 64 := by
  rw [padL_len]
  unfold padZ
  omega

/-- v owns the bytes l, in blocks from B on; what lies behind its row may bear a mark; below B all is as it was in w0 -/
def OG (B : Nat) (w0 w : World) (v : Value) (l : List UInt8) : Prop :=
  (∃ (g cap : Nat) (cur : Array Value) (fz : Nat × Nat), v = .slice (some ⟨g, 0, none⟩) l.length cap ∧ B ≤ g ∧ w.heap[g]? = some (.cells cur 5 fz) ∧ (fz = (0, 0) ∨ cap ≤ fz.1) ∧ l.length ≤ cap ∧ cap ≤ maxLen ∧ cur.size = cap ∧
    ∀ j (h : j < l.length), cur[j]? = some (.int .u8 (l[j].toNat : Int))) ∧ Below B w0 w ∧ B ≤ w.heap.size

theorem OG.alloc {B : Nat} {w0 w : World} {v : Value} {l : List UInt8} (h : OG B w0 w v l) (o : Obj) : OG B w0 (w.alloc o) v l := by
  obtain ⟨⟨g, cap, cur, fz, hv, hb, hg, hr⟩, h2, h3⟩ := h
  exact ⟨⟨g, cap, cur, fz, hv, hb, by rw [Go.heap_alloc_old w o (Array.getElem?_eq_some_iff.1 hg).1]; exact hg, hr⟩, h2.alloc h3 o, by simp; omega⟩

theorem OG.size {B : Nat} {w0 w : World} {v : Value} {l : List UInt8} (h : OG B w0 w v l) : ∃ a cap, v = .slice a l.length cap := by
  obtain ⟨⟨g, cap, cur, fz, hv, _⟩, _⟩ := h
  exact ⟨_, cap, hv⟩

theorem OG.conv (t : ByteArray) (w : World) (ht : t.size ≤ maxLen) : ∃ (w' : World) (cap : Nat), (convert 9 22 (.string t)).run Try.prog w = .ok (.slice (some ⟨w.heap.size, 0, none⟩) t.size cap) w' ∧ OG w.heap.size w w' (.slice (some ⟨w.heap.size, 0, none⟩) t.size cap) t.data.toList := by
  have h1 : t.data.toList.length = t.size := Array.length_toList
  have hge := grownCap_ge w t.size 0 5
  have hcm := grownCap_le_maxLen w t.size 0 5 ht
  refine ⟨Lib.bytesWorld w 5 t, grownCap w t.size 0 5, Lib.run_convert_string_bytes w 9 22 5 t Try.underlying9 Try.underlying22 Try.underlying5, ⟨_, _, _, _, by rw [h1], Nat.le_refl _, Lib.bytesWorld_at_new w 5 t, ?_, by omega, hcm, ?_, ?_⟩, ⟨?_, ?_, ?_, ?_, ?_⟩, ?_⟩
  · right
    simp [Lib.bytesCells]
    have : t.data.size = t.size := rfl
    omega
  · simp [Lib.bytesCells]
    have : t.data.size = t.size := rfl
    omega
  · intro j hj
    have hj' : j < t.data.size := by have : t.data.size = t.size := rfl; omega
    have hj2 : j < t.size := hj'
    simp [Lib.bytesCells, Array.getElem?_append, hj2]
  · simp [Lib.bytesWorld, World.freeze, World.alloc, World.drew, -World.alloc_eq, -World.drew_eq]
  · simp [Lib.bytesWorld, World.freeze, World.alloc, World.drew, -World.alloc_eq, -World.drew_eq]
  · simp [Lib.bytesWorld, World.freeze, World.alloc, World.drew, -World.alloc_eq, -World.drew_eq]
  · rw [Lib.bytesWorld_size]; omega
  · intro b hb
    exact Lib.bytesWorld_at_old w 5 t b hb
  · rw [Lib.bytesWorld_size]; omega

/-- one byte more -/
theorem OG.app {B : Nat} {w0 w : World} {v : Value} {l : List UInt8} (h : OG B w0 w v l) (ty : TypeId) (ad : Addr) (c : Nat) (b : UInt8) (hx : w.cell? ad = some (.int .u8 (b.toNat : Int))) (hlen : l.length + 1 ≤ 1000000000) :
    ∃ v' w', (Builtin.append_ #[22, 22] ty #[v, .slice (some ad) 1 c]).run Try.prog w = .ok v' w' ∧ OG B w0 w' v' (l ++ [b]) := by
  obtain ⟨i0, hi, hz0, hz1, hz2⟩ := info_parts Try.info5
  obtain ⟨⟨g, cap, cur, fz, rfl, hb, hg, hfz, hn, hm, hcs, hcell⟩, hbel, hB⟩ := h
  have hglt := (Array.getElem?_eq_some_iff.1 hg).1
  have hnews : ∀ j u, [Value.int .u8 (b.toNat : Int)][j]? = some u → w.cell? (ad.add j) = some u := by
    intro j u hj
    have h0 : j = 0 := by
      rcases Nat.eq_zero_or_pos j with h0 | h0
      · exact h0
      · simp [List.getElem?_eq_none (show [Value.int .u8 (b.toNat : Int)].length ≤ j by simp; omega)] at hj
    subst h0
    simp at hj
    subst hj
    have : ad.add 0 = ad := by unfold Addr.add; split <;> simp_all
    rw [this]; exact hx
  by_cases hroom : l.length + 1 ≤ cap
  · have hi' : l.length < cur.size := by omega
    have hadd : (⟨g, 0, none⟩ : Addr).add l.length = ⟨g, l.length, none⟩ := by unfold Addr.add; split <;> simp_all
    have hadd0 : (⟨g, l.length, none⟩ : Addr).add 0 = ⟨g, l.length, none⟩ := by unfold Addr.add; split <;> simp_all
    have hc : w.cell? ⟨g, l.length, none⟩ = some cur[l.length] := by simp [World.cell?, hg, hi']
    have hf : w.frozen? ⟨g, l.length, none⟩ = false := by
      obtain ⟨lo, hi2⟩ := fz
      simp only [World.frozen?, hg, Bool.and_eq_false_iff, decide_eq_false_iff_not]
      rcases hfz with h0 | h0
      · simp at h0; right; omega
      · left; simp only at h0; omega
    have hfc := run_firstCells_some (P := Try.prog) w 1 1 ad 1 c [Value.int .u8 (b.toNat : Int)] rfl hnews
    have hst := run_store Try.prog w ⟨g, l.length, none⟩ (.int .u8 (b.toNat : Int)) .plain rfl
    rw [hc] at hst
    simp [hf] at hst
    refine ⟨.slice (some ⟨g, 0, none⟩) (l.length + 1) cap, w.setCell ⟨g, l.length, none⟩ (.int .u8 (b.toNat : Int)), ?_, ⟨g, cap, cur.setIfInBounds l.length (.int .u8 (b.toNat : Int)), fz, by simp, hb, ?_, hfz, by simpa using hroom, hm, by simpa using hcs, ?_⟩, hbel.setCell (p := ⟨g, l.length, none⟩) hb _, by simpa using hB⟩
    · simp [Builtin.append_, run_underlying Try.underlying22, sizeOf, typeInfo, hi, hz1, Builtin.lenOf, hroom, hfc, storeCells, hadd, hadd0, hst]
    · have := setCell_eq_setRow w g l.length cur 5 fz (.int .u8 (b.toNat : Int)) hg
      rw [this]
      exact setRow_heap w g cur _ 5 _ hg
    · intro j hj
      rw [Array.getElem?_setIfInBounds]
      by_cases he : l.length = j
      · subst he
        simp [hi']
      · rw [if_neg he]
        have hj2 : j < l.length := by simp at hj; omega
        rw [hcell j hj2, List.getElem_append_left hj2]
  · have hxs : ∀ j u, (bv l)[j]? = some u → w.cell? ((⟨g, 0, none⟩ : Addr).add j) = some u := by
      intro j u hj
      obtain ⟨hj', rfl⟩ := bv_get _ _ _ hj
      have hadd : (⟨g, 0, none⟩ : Addr).add j = ⟨g, j, none⟩ := by unfold Addr.add; split <;> simp_all
      rw [hadd, cell_of_row w g j cur 5 fz hg]
      exact hcell j hj'
    have hr := run_append_grow (P := Try.prog) w 22 ty 5 i0 (.int .u8 0) Try.underlying22 hi hz0 ⟨g, 0, none⟩ l.length cap (bv l) (by rw [hz1]; simp [bv]) hxs ad 1 c [Value.int .u8 (b.toNat : Int)] (by rw [hz1]; rfl) hnews (by omega) (by omega) (growslice_fits (by omega) (by rw [hz2]; omega))
    have hge := grownCap_ge w (l.length + 1) cap 5
    have hcm := grownCap_le_maxLen w (l.length + 1) cap 5 (by unfold maxLen; omega)
    refine ⟨_, _, hr, ⟨w.heap.size, _, _, (0, 0), by simp, by omega, heap_alloc_new w.drew _, .inl rfl, by simpa using hge, hcm, ?_, ?_⟩, (hbel.drew).alloc hB _, by simp; omega⟩
    · have hz : (Value.int IntKind.u8 0).cells.size = 1 := rfl
      simp only [Array.size_append, List.size_toArray, size_zeroCells, hz, bv_length]
      simp
      omega
    · intro j hj
      have hj2 : j < l.length + 1 := by simpa using hj
      simp only [List.append_toArray]
      rw [Array.getElem?_append_left (by simp [bv]; omega)]
      by_cases he : j < l.length
      · simp [bv, List.getElem?_append_left, he, List.getElem_append_left]
      · have : j = l.length := by omega
        subst this
        simp [bv]

/-- 'string(b)' -/
theorem OG.str {B : Nat} {w0 w : World} {v : Value} {l : List UInt8} (h : OG B w0 w v l) : (convert 22 9 v).run Try.prog w = .ok (.string ⟨l.toArray⟩) w := by
  obtain ⟨⟨g, cap, cur, fz, rfl, hb, hg, hfz, hn, hm, hcs, hcell⟩, hbel, hB⟩ := h
  refine run_convert_bytes_back w 22 9 5 ⟨g, 0, none⟩ cap l Try.underlying22 Try.underlying5 Try.underlying9 ?_
  intro j hj
  have hadd : (⟨g, 0, none⟩ : Addr).add j = ⟨g, j, none⟩ := by unfold Addr.add; split <;> simp_all
  rw [hadd, cell_of_row w g j cur 5 fz hg]
  exact hcell j hj

theorem wp_appg {w : World} {ops : Array Oper} {rest : List Oper} {o : Oper} {a : Act} {Q : Exit → Act → World → Prop} (hgd : o.guard = none) (s x : Operand)
    (ho : o.op = .call { callee := .builtin .append, args := #[s, x], argTypes := #[22, 22] })
    (B : Nat) (w0 : World) (v : Value) (l : List UInt8) (hs : a.eval s = v) (hown : OG B w0 w v l)
    (ad : Addr) (c : Nat) (b : UInt8) (hx : a.eval x = .slice (some ad) 1 c)
    (hnews : w.cell? ad = some (.int .u8 (b.toNat : Int))) (hlen : l.length + 1 ≤ 1000000000)
    (h : ∀ v' w', OG B w0 w' v' (l ++ [b]) → wpList Try.prog ops Q rest (a.put o.dst v') w') : wpList Try.prog ops Q (o :: rest) a w := by
  refine wpList_plain hgd fun K hK => ?_
  obtain ⟨v', w', hr, h2⟩ := hown.app o.type ad c b hnews hlen
  unfold Oper.wp
  simp [execOp, ho, resolve, invoke, builtin, hs, hx, hr, Result.andThen]
  exact hK _ _ (h v' w' h2)

end Go.Proofs.Ytiabodhgjeoejaa
