/-
  A change read from its text: plain facts, the program's answer.
-/
import Derived.Test.YtiabodhgjeoejaaCe
import Derived.Test.YtiabodhgjeoejaaLr
namespace Go.Proofs.Ytiabodhgjeoejaa
open Go.RowKit Go.BigFrame Go.Sort
set_option linter.unusedVariables false
set_option linter.unusedSimpArgs false

namespace UV
def zU : Ug := ⟨0, ⟨#[]⟩, ⟨#[]⟩⟩
/-- what stands in a text as a change, whether right or not, and where it ends -/
def rawU (t : ByteArray) : Option (Ug × Nat) := match M.readVar t.data.toList 0 with
  | none => none
  | some (n, q) => match LV.leafAt t q with
    | none => none
    | some (f, r) => some (⟨(n : Int), f.n, f.v⟩, r)
def rdOk (t : ByteArray) : Bool := match rawU t with
  | none => false
  | some (x, r) => decide (r = t.size) && okU x
/-- what is read of a text: a change, or the zero one -/
def rdA (t : ByteArray) : Ug := match rawU t with
  | none => zU
  | some (x, r) => if (decide (r = t.size) && okU x) = true then x else zU
theorem raw_none1 {t : ByteArray} (h : M.readVar t.data.toList 0 = none) : rawU t = none := by unfold rawU; rw [h]
theorem raw_none2 {t : ByteArray} {n q : Nat} (h : M.readVar t.data.toList 0 = some (n, q)) (h2 : LV.leafAt t q = none) : rawU t = none := by unfold rawU; rw [h]; simp only; rw [h2]
theorem raw_some {t : ByteArray} {n q r : Nat} {f : Le} (h : M.readVar t.data.toList 0 = some (n, q)) (h2 : LV.leafAt t q = some (f, r)) : rawU t = some (⟨(n : Int), f.n, f.v⟩, r) := by unfold rawU; rw [h]; simp only; rw [h2]
theorem rd_none {t : ByteArray} (h : rawU t = none) : rdOk t = false ∧ rdA t = zU := by unfold rdOk rdA; rw [h]; exact ⟨rfl, rfl⟩
theorem rd_some {t : ByteArray} {x : Ug} {r : Nat} (h : rawU t = some (x, r)) : rdOk t = (decide (r = t.size) && okU x) ∧ rdA t = if (decide (r = t.size) && okU x) = true then x else zU := by unfold rdOk rdA; rw [h]; exact ⟨rfl, rfl⟩
theorem leafAt_parts {s : ByteArray} {p q : Nat} {f : Le} (h : LV.leafAt s p = some (f, q)) : ∃ b, LV.shortAt s p = some (f.n, b) ∧ LV.shortAt s b = some (f.v, q) := by
  unfold LV.leafAt at h
  cases h1 : LV.shortAt s p with
  | none => rw [h1] at h; simp at h
  | some x =>
    obtain ⟨n, b⟩ := x
    rw [h1] at h
    simp only at h
    cases h2 : LV.shortAt s b with
    | none => rw [h2] at h; simp at h
    | some y =>
      obtain ⟨v, r⟩ := y
      rw [h2] at h
      simp only [Option.some.injEq, Prod.mk.injEq] at h
      obtain ⟨rfl, rfl⟩ := h
      exact ⟨b, rfl, h2⟩
theorem raw_text {t : ByteArray} {n q r : Nat} {f : Le} (h : M.readVar t.data.toList 0 = some (n, q)) (h2 : LV.leafAt t q = some (f, r)) : r ≤ t.size ∧ LV.cutL t.data.toList 0 r = (txtU ⟨(n : Int), f.n, f.v⟩).data.toList := by
  obtain ⟨b, h3, h4⟩ := leafAt_parts h2
  have hc := LV.read_canon (Nat.zero_le _) h
  have hq := (read_bound t 0 n q h).1
  obtain ⟨l1, l2, e1⟩ := LV.shortAt_some hq h3
  obtain ⟨l3, l4, e2⟩ := LV.shortAt_some l2 h4
  refine ⟨l4, ?_⟩
  rw [← LV.cutL_join _ 0 q r (Nat.zero_le _) (by omega), ← LV.cutL_join _ q b r (by omega) (by omega), hc, e1, e2]
  simp [txtU, vb, ByteArray.data_append]
theorem cutL_whole (t : ByteArray) : LV.cutL t.data.toList 0 t.size = t.data.toList := by
  rw [← LV.extract_cut]
  simp
theorem raw_whole {t : ByteArray} {n q r : Nat} {f : Le} (h : M.readVar t.data.toList 0 = some (n, q)) (h2 : LV.leafAt t q = some (f, r)) : txtU ⟨(n : Int), f.n, f.v⟩ = t ↔ r = t.size := by
  obtain ⟨hr, hc⟩ := raw_text h h2
  constructor
  · intro e
    have hl := LV.cutL_len t.data.toList 0 r (Nat.zero_le _) (by rw [LV.toList_len]; exact hr)
    rw [hc, e, LV.toList_len] at hl
    omega
  · intro e
    rw [e, cutL_whole] at hc
    exact LV.bytes_eq hc.symm
end UV

set_option maxRecDepth 100000 in
set_option maxHeartbeats 1000000 in
theorem ReadChange_any (t : ByteArray) (w : World) (ht : t.size ≤ 1048576) : Calls Try.prog 15 #[.string t] w fun e w' => e = .returned (.tuple #[.agg #[.int .i64 (UV.rdA t).i, .string (UV.rdA t).n, .string (UV.rdA t).v], .bool (UV.rdOk t)]) ∧ Below w.heap.size w w' := by
  have HZ : Hid (BU (w.alloc (.cells #[.int .i64 0, .string ⟨#[]⟩, .string ⟨#[]⟩] 31)) w.heap.size UV.zU ∧ Below w.heap.size w (w.alloc (.cells #[.int .i64 0, .string ⟨#[]⟩, .string ⟨#[]⟩] 31))) := ⟨BU.new w UV.zU, (Below.refl _ _).alloc (Nat.le_refl _) _⟩
  cases hr : M.readVar t.data.toList 0 with
  | none =>
    obtain ⟨e1, e2⟩ := UV.rd_none (UV.raw_none1 hr)
    rw [e1, e2]
    have HR : Hid (∀ W, Calls Try.prog 48 #[.string t, .int .i64 0] W fun e w' => e = .returned (.tuple #[.int .i64 0, .int .i64 0, .bool false]) ∧ Below W.heap.size W w') := fun W => (ReadVar_none t 0 W ht (.inr ⟨by omega, by simpa using hr⟩)).mono fun e w' ⟨he, hw⟩ => ⟨he, hw ▸ Below.refl _ _⟩
    clear e1 e2 hr
    go_enter Try.func15, Try.ntmps15
    go_wp2_with fail
    refine (HR.out _).mono ?_
    rintro e w1 ⟨rfl, hb1⟩
    have HZ1 : Hid (BU w1 w.heap.size UV.zU ∧ Below w.heap.size w w1) := ⟨HZ.out.1.later hb1, HZ.out.2.trans (hb1.mono HZ.out.2.size)⟩
    clear HR HZ hb1
    have z0 := HZ1.out.1.c0
    have z1 := HZ1.out.1.c1
    have z2 := HZ1.out.1.c2
    have f0 := HZ1.out.1.fz 0
    have f1 := HZ1.out.1.fz 1
    have f2 := HZ1.out.1.fz 2
    have HE : Hid (BU (w1.setCells w.heap.size 0 (ucs UV.zU)) w.heap.size UV.zU ∧ Below w.heap.size w (w1.setCells w.heap.size 0 (ucs UV.zU))) := ⟨HZ1.out.1.put _, below_setCells (Nat.le_refl _) _ _ _ HZ1.out.2⟩
    clear HZ1
    go_wp2
    exact ret_ug2 2 3 w.heap.size UV.zU _ rfl rfl rfl rfl HE.out.1 ⟨rfl, HE.out.2⟩
  | some y =>
    obtain ⟨n, q⟩ := y
    have hq := (read_bound t 0 n q hr).1
    have hN := (read_bound t 0 n q hr).2
    have HR : Hid (∀ W, Calls Try.prog 48 #[.string t, .int .i64 0] W fun e w' => e = .returned (.tuple #[.int .i64 (n : Int), .int .i64 (q : Int), .bool true]) ∧ Below W.heap.size W w') := fun W => (ReadVar_some t 0 n q W ht (by omega) (by simpa using hr)).mono fun e w' ⟨he, hw⟩ => ⟨he, hw ▸ Below.refl _ _⟩
    have HL : Hid (∀ W, Calls Try.prog 49 #[.string t, .int .i64 (q : Int)] W fun e w' => RlP t q e ∧ Below W.heap.size W w') := fun W => readLeaf_at t q q W rfl ht hq
    unfold RlP at HL
    cases hl : LV.leafAt t q with
    | none =>
      simp only [hl] at HL
      obtain ⟨e1, e2⟩ := UV.rd_none (UV.raw_none2 hr hl)
      rw [e1, e2]
      clear e1 e2 hr hl
      go_enter Try.func15, Try.ntmps15
      go_wp2_with fail
      refine (HR.out _).mono ?_
      rintro e w1 ⟨rfl, hb1⟩
      have HZ1 : Hid (BU w1 w.heap.size UV.zU ∧ Below w.heap.size w w1) := ⟨HZ.out.1.later hb1, HZ.out.2.trans (hb1.mono HZ.out.2.size)⟩
      clear HR HZ hb1
      go_wp2_with fail
      refine (HL.out _).mono ?_
      rintro e w2 ⟨⟨a, b, rfl⟩, hb2⟩
      have HZ2 : Hid (BU w2 w.heap.size UV.zU ∧ Below w.heap.size w w2) := ⟨HZ1.out.1.later hb2, HZ1.out.2.trans (hb2.mono HZ1.out.2.size)⟩
      clear HL HZ1 hb2
      have hb3 : Below w2.heap.size w2 ((w2.alloc (.cells #[.string a, .string b] 73)).alloc (.cells #[.int .i64 (n : Int), .string a, .string b] 31)) := ((Below.refl _ _).alloc (Nat.le_refl _) _).alloc (by simp) _
      have HZ3 : Hid (BU ((w2.alloc (.cells #[.string a, .string b] 73)).alloc (.cells #[.int .i64 (n : Int), .string a, .string b] 31)) w.heap.size UV.zU ∧ Below w.heap.size w ((w2.alloc (.cells #[.string a, .string b] 73)).alloc (.cells #[.int .i64 (n : Int), .string a, .string b] 31))) := ⟨HZ2.out.1.later hb3, HZ2.out.2.trans (hb3.mono HZ2.out.2.size)⟩
      clear HZ2 hb3
      have z0 := HZ3.out.1.c0
      have z1 := HZ3.out.1.c1
      have z2 := HZ3.out.1.c2
      have f0 := HZ3.out.1.fz 0
      have f1 := HZ3.out.1.fz 1
      have f2 := HZ3.out.1.fz 2
      have HE : Hid (BU (((w2.alloc (.cells #[.string a, .string b] 73)).alloc (.cells #[.int .i64 (n : Int), .string a, .string b] 31)).setCells w.heap.size 0 (ucs UV.zU)) w.heap.size UV.zU ∧ Below w.heap.size w (((w2.alloc (.cells #[.string a, .string b] 73)).alloc (.cells #[.int .i64 (n : Int), .string a, .string b] 31)).setCells w.heap.size 0 (ucs UV.zU))) := ⟨HZ3.out.1.put _, below_setCells (Nat.le_refl _) _ _ _ HZ3.out.2⟩
      clear HZ3
      go_wp2
      exact ret_ug2 2 3 w.heap.size UV.zU _ rfl rfl rfl rfl HE.out.1 ⟨rfl, HE.out.2⟩
    | some z =>
      obtain ⟨f, r⟩ := z
      simp only [hl] at HL
      obtain ⟨e1, e2⟩ := UV.rd_some (UV.raw_some hr hl)
      rw [e1, e2]
      have hsz := LV.leafAt_size hl
      have HC : Hid (∀ W, Calls Try.prog 22 #[.agg #[.int .i64 (n : Int), .string f.n, .string f.v]] W fun e w' => e = .returned (.bool (UV.okU ⟨(n : Int), f.n, f.v⟩)) ∧ Below W.heap.size W w') := fun W => ChangeOk_any ⟨(n : Int), f.n, f.v⟩ W (show f.n.size ≤ 1048576 by omega) (show f.v.size ≤ 1048576 by omega)
      generalize UV.okU ⟨(n : Int), f.n, f.v⟩ = B at *
      obtain ⟨a, b⟩ := f
      simp only at HL HC ⊢
      clear e1 e2 hr hl hsz
      obtain ⟨R, hR⟩ : ∃ R, (decide (r = t.size) && B) = R := ⟨_, rfl⟩
      rw [hR]
      obtain ⟨X, hX⟩ : ∃ X, (if R = true then (⟨(n : Int), a, b⟩ : Ug) else UV.zU) = X := ⟨_, rfl⟩
      rw [hX]
      have HX : Hid ((if R = true then (⟨(n : Int), a, b⟩ : Ug) else UV.zU) = X) := hX
      clear hX
      have qr : ((r : Int) != (t.size : Int)) = !decide (r = t.size) := by
        by_cases h : r = t.size
        · subst h; simp
        · rw [decide_eq_false h]; simp; omega
      have HF : Hid (∀ W3, Below w.heap.size w W3 → BU W3 w.heap.size UV.zU → BU (W3.setCells w.heap.size 0 (ucs UV.zU)) w.heap.size UV.zU ∧ Below w.heap.size w (W3.setCells w.heap.size 0 (ucs UV.zU))) := fun W3 h1 h2 => ⟨h2.put _, below_setCells (Nat.le_refl _) _ _ _ h1⟩
      have HY : Hid (∀ W3, Below w.heap.size w W3 → BU W3 w.heap.size UV.zU → BU (W3.setCells w.heap.size 0 (ucs ⟨(n : Int), a, b⟩)) w.heap.size ⟨(n : Int), a, b⟩ ∧ Below w.heap.size w (W3.setCells w.heap.size 0 (ucs ⟨(n : Int), a, b⟩))) := fun W3 h1 h2 => ⟨h2.put _, below_setCells (Nat.le_refl _) _ _ _ h1⟩
      go_enter Try.func15, Try.ntmps15
      go_wp2_with fail
      refine (HR.out _).mono ?_
      rintro e w1 ⟨rfl, hb1⟩
      have HZ1 : Hid (BU w1 w.heap.size UV.zU ∧ Below w.heap.size w w1) := ⟨HZ.out.1.later hb1, HZ.out.2.trans (hb1.mono HZ.out.2.size)⟩
      clear HR HZ hb1
      go_wp2_with fail
      refine (HL.out _).mono ?_
      rintro e w2 ⟨rfl, hb2⟩
      have HZ2 : Hid (BU w2 w.heap.size UV.zU ∧ Below w.heap.size w w2) := ⟨HZ1.out.1.later hb2, HZ1.out.2.trans (hb2.mono HZ1.out.2.size)⟩
      clear HL HZ1 hb2
      have hb3 : Below w2.heap.size w2 ((w2.alloc (.cells #[.string a, .string b] 73)).alloc (.cells #[.int .i64 (n : Int), .string a, .string b] 31)) := ((Below.refl _ _).alloc (Nat.le_refl _) _).alloc (by simp) _
      have HU : Hid (BU ((w2.alloc (.cells #[.string a, .string b] 73)).alloc (.cells #[.int .i64 (n : Int), .string a, .string b] 31)) (w2.heap.size + 1) ⟨(n : Int), a, b⟩) := alloc_fst _ _ (by simp)
      have HZ3 : Hid (BU ((w2.alloc (.cells #[.string a, .string b] 73)).alloc (.cells #[.int .i64 (n : Int), .string a, .string b] 31)) w.heap.size UV.zU ∧ Below w.heap.size w ((w2.alloc (.cells #[.string a, .string b] 73)).alloc (.cells #[.int .i64 (n : Int), .string a, .string b] 31))) := ⟨HZ2.out.1.later hb3, HZ2.out.2.trans (hb3.mono HZ2.out.2.size)⟩
      clear HZ2 hb3
      cases hd : decide (r = t.size)
      · rw [hd] at qr hR
        have hRR : R = false := by rw [← hR]; rfl
        subst hRR
        have HX0 : Hid (UV.zU = X) := by rw [← HX.out]; rfl
        clear HX
        have z0 := HZ3.out.1.c0
        have z1 := HZ3.out.1.c1
        have z2 := HZ3.out.1.c2
        have f0 := HZ3.out.1.fz 0
        have f1 := HZ3.out.1.fz 1
        have f2 := HZ3.out.1.fz 2
        have HE := hide (HF.out _ HZ3.out.2 HZ3.out.1)
        clear HZ3 HF HY HC HU hd hR
        simp only [Bool.not_false] at qr
        go_wp2
        exact ret_ug2 2 3 w.heap.size UV.zU _ rfl rfl rfl rfl HE.out.1 ⟨by rw [← HX0.out]; rfl, HE.out.2⟩
      · rw [hd] at qr hR
        have hRR : R = B := by rw [← hR]; rfl
        subst hRR
        simp only [Bool.not_true] at qr
        clear hR hd
        go_wp2_with fail
        refine (HC.out _).mono ?_
        rintro e w4 ⟨rfl, hb4⟩
        have HZ4 : Hid (BU w4 w.heap.size UV.zU ∧ Below w.heap.size w w4 ∧ BU w4 (w2.heap.size + 1) ⟨(n : Int), a, b⟩) := ⟨HZ3.out.1.later hb4, HZ3.out.2.trans (hb4.mono HZ3.out.2.size), HU.out.later hb4⟩
        clear HZ3 HC HU hb4
        have z0 := HZ4.out.1.c0
        have z1 := HZ4.out.1.c1
        have z2 := HZ4.out.1.c2
        have f0 := HZ4.out.1.fz 0
        have f1 := HZ4.out.1.fz 1
        have f2 := HZ4.out.1.fz 2
        have y0 := HZ4.out.2.2.c0
        have y1 := HZ4.out.2.2.c1
        have y2 := HZ4.out.2.2.c2
        simp only at y0 y1 y2
        cases R
        · have HX0 : Hid (UV.zU = X) := by rw [← HX.out]; rfl
          have HE := hide (HF.out _ HZ4.out.2.1 HZ4.out.1)
          clear HZ4 HF HY HX
          go_wp2
          exact ret_ug2 2 3 w.heap.size UV.zU _ rfl rfl rfl rfl HE.out.1 ⟨by rw [← HX0.out]; rfl, HE.out.2⟩
        · have HX0 : Hid ((⟨(n : Int), a, b⟩ : Ug) = X) := by rw [← HX.out]; rfl
          have HE := hide (HY.out _ HZ4.out.2.1 HZ4.out.1)
          clear HZ4 HF HY HX
          go_wp2
          exact ret_ug2 2 3 w.heap.size ⟨(n : Int), a, b⟩ _ rfl rfl rfl rfl HE.out.1 ⟨by rw [← HX0.out]; rfl, HE.out.2⟩

end Go.Proofs.Ytiabodhgjeoejaa
