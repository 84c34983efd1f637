/-
  Texts laid together: Cf, Lby, Jm, Jn.
-/
import Derived.Test.YthlgohplljcgfaaGreatDoorPkESN24
import Derived.Test.YthlgohplljcgfaaGreatDoorPkESN15
import Derived.Test.YthlgohplljcgfaaGreatDoorPkESN6
import Derived.StillTailTactics
import Derived.Test.YthlgohplljcgfaaGreatDoorPkESN18
import Derived.Test.YthlgohplljcgfaaGreatDoorPkESN12
import Derived.Test.YthlgohplljcgfaaGreatDoorPkESN11
import Derived.Lib.QuietBelow
import Derived.Deep.RegionHeld3
/-
  A change read from its text: plain facts, the program's answer.
-/
namespace Go.Proofs.YthlgohplljcgfaaGreatDoor
open Go.RowKit Go.BigFrame Go.Sort
set_option linter.unusedVariables false
set_option linter.unusedSimpArgs false

namespace UV
def zU : Ug := ⟨0, ⟨#[]⟩, ⟨#[]⟩⟩
/-- what stands in a text as a change, whether right or not, and where it ends -/
def rawU (t : ByteArray) : Option (Ug × Nat) := match M.readVar t.data.toList 0 with
  | none => none
  | some (n, q) => match LV.leafAt t q with
    | none => none
    | some (f, r) => some (⟨(n : Int), f.n, f.v⟩, r)
def rdOk (t : ByteArray) : Bool := match rawU t with
  | none => false
  | some (x, r) => decide (r = t.size) && okU x
/-- what is read of a text: a change, or the zero one -/
def rdA (t : ByteArray) : Ug := match rawU t with
  | none => zU
  | some (x, r) => if (decide (r = t.size) && okU x) = true then x else zU
theorem raw_none1 {t : ByteArray} (h : M.readVar t.data.toList 0 = none) : rawU t = none := by unfold rawU; rw [h]
theorem raw_none2 {t : ByteArray} {n q : Nat} (h : M.readVar t.data.toList 0 = some (n, q)) (h2 : LV.leafAt t q = none) : rawU t = none := by unfold rawU; rw [h]; simp only; rw [h2]
theorem raw_some {t : ByteArray} {n q r : Nat} {f : Le} (h : M.readVar t.data.toList 0 = some (n, q)) (h2 : LV.leafAt t q = some (f, r)) : rawU t = some (⟨(n : Int), f.n, f.v⟩, r) := by unfold rawU; rw [h]; simp only; rw [h2]
theorem rd_none {t : ByteArray} (h : rawU t = none) : rdOk t = false ∧ rdA t = zU := by unfold rdOk rdA; rw [h]; exact ⟨rfl, rfl⟩
theorem rd_some {t : ByteArray} {x : Ug} {r : Nat} (h : rawU t = some (x, r)) : rdOk t = (decide (r = t.size) && okU x) ∧ rdA t = if (decide (r = t.size) && okU x) = true then x else zU := by unfold rdOk rdA; rw [h]; exact ⟨rfl, rfl⟩
theorem leafAt_parts {s : ByteArray} {p q : Nat} {f : Le} (h : LV.leafAt s p = some (f, q)) : ∃ b, LV.shortAt s p = some (f.n, b) ∧ LV.shortAt s b = some (f.v, q) := by
  unfold LV.leafAt at h
  cases h1 : LV.shortAt s p with
  | none => rw [h1] at h; simp at h
  | some x =>
    obtain ⟨n, b⟩ := x
    rw [h1] at h
    simp only at h
    cases h2 : LV.shortAt s b with
    | none => rw [h2] at h; simp at h
    | some y =>
      obtain ⟨v, r⟩ := y
      rw [h2] at h
      simp only [Option.some.injEq, Prod.mk.injEq] at h
      obtain ⟨rfl, rfl⟩ := h
      exact ⟨b, rfl, h2⟩
theorem raw_text {t : ByteArray} {n q r : Nat} {f : Le} (h : M.readVar t.data.toList 0 = some (n, q)) (h2 : LV.leafAt t q = some (f, r)) : r ≤ t.size ∧ LV.cutL t.data.toList 0 r = (txtU ⟨(n : Int), f.n, f.v⟩).data.toList := by
  obtain ⟨b, h3, h4⟩ := leafAt_parts h2
  have hc := LV.read_canon (Nat.zero_le _) h
  have hq := (read_bound t 0 n q h).1
  obtain ⟨l1, l2, e1⟩ := LV.shortAt_some hq h3
  obtain ⟨l3, l4, e2⟩ := LV.shortAt_some l2 h4
  refine ⟨l4, ?_⟩
  rw [← LV.cutL_join _ 0 q r (Nat.zero_le _) (by omega), ← LV.cutL_join _ q b r (by omega) (by omega), hc, e1, e2]
  simp [txtU, vb, ByteArray.data_append]
theorem cutL_whole (t : ByteArray) : LV.cutL t.data.toList 0 t.size = t.data.toList := by
  rw [← LV.extract_cut]
  simp
theorem raw_whole {t : ByteArray} {n q r : Nat} {f : Le} (h : M.readVar t.data.toList 0 = some (n, q)) (h2 : LV.leafAt t q = some (f, r)) : txtU ⟨(n : Int), f.n, f.v⟩ = t ↔ r = t.size := by
  obtain ⟨hr, hc⟩ := raw_text h h2
  constructor
  · intro e
    have hl := LV.cutL_len t.data.toList 0 r (Nat.zero_le _) (by rw [LV.toList_len]; exact hr)
    rw [hc, e, LV.toList_len] at hl
    omega
  · intro e
    rw [e, cutL_whole] at hc
    exact LV.bytes_eq hc.symm
end UV

set_option maxRecDepth 100000 in
set_option maxHeartbeats 1000000 in
theorem ReadChange_any (t : ByteArray) (w : World) (ht : t.size ≤ 1048576) : Calls Tryz.prog 111 #[.string t] w fun e w' => e = .returned (.tuple #[.agg #[.int .i64 (UV.rdA t).i, .string (UV.rdA t).n, .string (UV.rdA t).v], .bool (UV.rdOk t)]) ∧ Below w.heap.size w w' := by
  have HZ : Hid (BU (w.alloc (.cells #[.int .i64 0, .string ⟨#[]⟩, .string ⟨#[]⟩] 102)) w.heap.size UV.zU ∧ Below w.heap.size w (w.alloc (.cells #[.int .i64 0, .string ⟨#[]⟩, .string ⟨#[]⟩] 102))) := ⟨BU.new w UV.zU, (Below.refl _ _).alloc (Nat.le_refl _) _⟩
  cases hr : M.readVar t.data.toList 0 with
  | none =>
    obtain ⟨e1, e2⟩ := UV.rd_none (UV.raw_none1 hr)
    rw [e1, e2]
    have HR : Hid (∀ W, Calls Tryz.prog 137 #[.string t, .int .i64 0] W fun e w' => e = .returned (.tuple #[.int .i64 0, .int .i64 0, .bool false]) ∧ Below W.heap.size W w') := fun W => (ReadVar_none t 0 W ht (.inr ⟨by omega, by simpa using hr⟩)).mono fun e w' ⟨he, hw⟩ => ⟨he, hw ▸ Below.refl _ _⟩
    clear e1 e2 hr
    go_enter Tryz.func111, Tryz.ntmps111
    go_wp2_with fail
    refine (HR.out _).mono ?_
    rintro e w1 ⟨rfl, hb1⟩
    have HZ1 : Hid (BU w1 w.heap.size UV.zU ∧ Below w.heap.size w w1) := ⟨HZ.out.1.later hb1, HZ.out.2.trans (hb1.mono HZ.out.2.size)⟩
    clear HR HZ hb1
    have z0 := HZ1.out.1.c0
    have z1 := HZ1.out.1.c1
    have z2 := HZ1.out.1.c2
    have f0 := HZ1.out.1.fz 0
    have f1 := HZ1.out.1.fz 1
    have f2 := HZ1.out.1.fz 2
    have HE : Hid (BU (w1.setCells w.heap.size 0 (ucs UV.zU)) w.heap.size UV.zU ∧ Below w.heap.size w (w1.setCells w.heap.size 0 (ucs UV.zU))) := ⟨HZ1.out.1.put _, below_setCells (Nat.le_refl _) _ _ _ HZ1.out.2⟩
    clear HZ1
    go_wp2
    exact ret_ug2 2 3 w.heap.size UV.zU _ rfl rfl rfl rfl HE.out.1 ⟨rfl, HE.out.2⟩
  | some y =>
    obtain ⟨n, q⟩ := y
    have hq := (read_bound t 0 n q hr).1
    have hN := (read_bound t 0 n q hr).2
    have HR : Hid (∀ W, Calls Tryz.prog 137 #[.string t, .int .i64 0] W fun e w' => e = .returned (.tuple #[.int .i64 (n : Int), .int .i64 (q : Int), .bool true]) ∧ Below W.heap.size W w') := fun W => (ReadVar_some t 0 n q W ht (by omega) (by simpa using hr)).mono fun e w' ⟨he, hw⟩ => ⟨he, hw ▸ Below.refl _ _⟩
    have HL : Hid (∀ W, Calls Tryz.prog 138 #[.string t, .int .i64 (q : Int)] W fun e w' => RlP t q e ∧ Below W.heap.size W w') := fun W => readLeaf_at t q q W rfl ht hq
    unfold RlP at HL
    cases hl : LV.leafAt t q with
    | none =>
      simp only [hl] at HL
      obtain ⟨e1, e2⟩ := UV.rd_none (UV.raw_none2 hr hl)
      rw [e1, e2]
      clear e1 e2 hr hl
      go_enter Tryz.func111, Tryz.ntmps111
      go_wp2_with fail
      refine (HR.out _).mono ?_
      rintro e w1 ⟨rfl, hb1⟩
      have HZ1 : Hid (BU w1 w.heap.size UV.zU ∧ Below w.heap.size w w1) := ⟨HZ.out.1.later hb1, HZ.out.2.trans (hb1.mono HZ.out.2.size)⟩
      clear HR HZ hb1
      go_wp2_with fail
      refine (HL.out _).mono ?_
      rintro e w2 ⟨⟨a, b, rfl⟩, hb2⟩
      have HZ2 : Hid (BU w2 w.heap.size UV.zU ∧ Below w.heap.size w w2) := ⟨HZ1.out.1.later hb2, HZ1.out.2.trans (hb2.mono HZ1.out.2.size)⟩
      clear HL HZ1 hb2
      have hb3 : Below w2.heap.size w2 ((w2.alloc (.cells #[.string a, .string b] 134)).alloc (.cells #[.int .i64 (n : Int), .string a, .string b] 102)) := ((Below.refl _ _).alloc (Nat.le_refl _) _).alloc (by simp) _
      have HZ3 : Hid (BU ((w2.alloc (.cells #[.string a, .string b] 134)).alloc (.cells #[.int .i64 (n : Int), .string a, .string b] 102)) w.heap.size UV.zU ∧ Below w.heap.size w ((w2.alloc (.cells #[.string a, .string b] 134)).alloc (.cells #[.int .i64 (n : Int), .string a, .string b] 102))) := ⟨HZ2.out.1.later hb3, HZ2.out.2.trans (hb3.mono HZ2.out.2.size)⟩
      clear HZ2 hb3
      have z0 := HZ3.out.1.c0
      have z1 := HZ3.out.1.c1
      have z2 := HZ3.out.1.c2
      have f0 := HZ3.out.1.fz 0
      have f1 := HZ3.out.1.fz 1
      have f2 := HZ3.out.1.fz 2
      have HE : Hid (BU (((w2.alloc (.cells #[.string a, .string b] 134)).alloc (.cells #[.int .i64 (n : Int), .string a, .string b] 102)).setCells w.heap.size 0 (ucs UV.zU)) w.heap.size UV.zU ∧ Below w.heap.size w (((w2.alloc (.cells #[.string a, .string b] 134)).alloc (.cells #[.int .i64 (n : Int), .string a, .string b] 102)).setCells w.heap.size 0 (ucs UV.zU))) := ⟨HZ3.out.1.put _, below_setCells (Nat.le_refl _) _ _ _ HZ3.out.2⟩
      clear HZ3
      go_wp2
      exact ret_ug2 2 3 w.heap.size UV.zU _ rfl rfl rfl rfl HE.out.1 ⟨rfl, HE.out.2⟩
    | some z =>
      obtain ⟨f, r⟩ := z
      simp only [hl] at HL
      obtain ⟨e1, e2⟩ := UV.rd_some (UV.raw_some hr hl)
      rw [e1, e2]
      have hsz := LV.leafAt_size hl
      have HC : Hid (∀ W, Calls Tryz.prog 139 #[.agg #[.int .i64 (n : Int), .string f.n, .string f.v]] W fun e w' => e = .returned (.bool (UV.okU ⟨(n : Int), f.n, f.v⟩)) ∧ Below W.heap.size W w') := fun W => ChangeOk_any ⟨(n : Int), f.n, f.v⟩ W (show f.n.size ≤ 1048576 by omega) (show f.v.size ≤ 1048576 by omega)
      generalize UV.okU ⟨(n : Int), f.n, f.v⟩ = B at *
      obtain ⟨a, b⟩ := f
      simp only at HL HC ⊢
      clear e1 e2 hr hl hsz
      obtain ⟨R, hR⟩ : ∃ R, (decide (r = t.size) && B) = R := ⟨_, rfl⟩
      rw [hR]
      obtain ⟨X, hX⟩ : ∃ X, (if R = true then (⟨(n : Int), a, b⟩ : Ug) else UV.zU) = X := ⟨_, rfl⟩
      rw [hX]
      have HX : Hid ((if R = true then (⟨(n : Int), a, b⟩ : Ug) else UV.zU) = X) := hX
      clear hX
      have qr : ((r : Int) != (t.size : Int)) = !decide (r = t.size) := by
        by_cases h : r = t.size
        · subst h; simp
        · rw [decide_eq_false h]; simp; omega
      have HF : Hid (∀ W3, Below w.heap.size w W3 → BU W3 w.heap.size UV.zU → BU (W3.setCells w.heap.size 0 (ucs UV.zU)) w.heap.size UV.zU ∧ Below w.heap.size w (W3.setCells w.heap.size 0 (ucs UV.zU))) := fun W3 h1 h2 => ⟨h2.put _, below_setCells (Nat.le_refl _) _ _ _ h1⟩
      have HY : Hid (∀ W3, Below w.heap.size w W3 → BU W3 w.heap.size UV.zU → BU (W3.setCells w.heap.size 0 (ucs ⟨(n : Int), a, b⟩)) w.heap.size ⟨(n : Int), a, b⟩ ∧ Below w.heap.size w (W3.setCells w.heap.size 0 (ucs ⟨(n : Int), a, b⟩))) := fun W3 h1 h2 => ⟨h2.put _, below_setCells (Nat.le_refl _) _ _ _ h1⟩
      go_enter Tryz.func111, Tryz.ntmps111
      go_wp2_with fail
      refine (HR.out _).mono ?_
      rintro e w1 ⟨rfl, hb1⟩
      have HZ1 : Hid (BU w1 w.heap.size UV.zU ∧ Below w.heap.size w w1) := ⟨HZ.out.1.later hb1, HZ.out.2.trans (hb1.mono HZ.out.2.size)⟩
      clear HR HZ hb1
      go_wp2_with fail
      refine (HL.out _).mono ?_
      rintro e w2 ⟨rfl, hb2⟩
      have HZ2 : Hid (BU w2 w.heap.size UV.zU ∧ Below w.heap.size w w2) := ⟨HZ1.out.1.later hb2, HZ1.out.2.trans (hb2.mono HZ1.out.2.size)⟩
      clear HL HZ1 hb2
      have hb3 : Below w2.heap.size w2 ((w2.alloc (.cells #[.string a, .string b] 134)).alloc (.cells #[.int .i64 (n : Int), .string a, .string b] 102)) := ((Below.refl _ _).alloc (Nat.le_refl _) _).alloc (by simp) _
      have HU : Hid (BU ((w2.alloc (.cells #[.string a, .string b] 134)).alloc (.cells #[.int .i64 (n : Int), .string a, .string b] 102)) (w2.heap.size + 1) ⟨(n : Int), a, b⟩) := alloc_fst _ _ (by simp)
      have HZ3 : Hid (BU ((w2.alloc (.cells #[.string a, .string b] 134)).alloc (.cells #[.int .i64 (n : Int), .string a, .string b] 102)) w.heap.size UV.zU ∧ Below w.heap.size w ((w2.alloc (.cells #[.string a, .string b] 134)).alloc (.cells #[.int .i64 (n : Int), .string a, .string b] 102))) := ⟨HZ2.out.1.later hb3, HZ2.out.2.trans (hb3.mono HZ2.out.2.size)⟩
      clear HZ2 hb3
      cases hd : decide (r = t.size)
      · rw [hd] at qr hR
        have hRR : R = false := by rw [← hR]; rfl
        subst hRR
        have HX0 : Hid (UV.zU = X) := by rw [← HX.out]; rfl
        clear HX
        have z0 := HZ3.out.1.c0
        have z1 := HZ3.out.1.c1
        have z2 := HZ3.out.1.c2
        have f0 := HZ3.out.1.fz 0
        have f1 := HZ3.out.1.fz 1
        have f2 := HZ3.out.1.fz 2
        have HE := hide (HF.out _ HZ3.out.2 HZ3.out.1)
        clear HZ3 HF HY HC HU hd hR
        simp only [Bool.not_false] at qr
        go_wp2
        exact ret_ug2 2 3 w.heap.size UV.zU _ rfl rfl rfl rfl HE.out.1 ⟨by rw [← HX0.out]; rfl, HE.out.2⟩
      · rw [hd] at qr hR
        have hRR : R = B := by rw [← hR]; rfl
        subst hRR
        simp only [Bool.not_true] at qr
        clear hR hd
        go_wp2_with fail
        refine (HC.out _).mono ?_
        rintro e w4 ⟨rfl, hb4⟩
        have HZ4 : Hid (BU w4 w.heap.size UV.zU ∧ Below w.heap.size w w4 ∧ BU w4 (w2.heap.size + 1) ⟨(n : Int), a, b⟩) := ⟨HZ3.out.1.later hb4, HZ3.out.2.trans (hb4.mono HZ3.out.2.size), HU.out.later hb4⟩
        clear HZ3 HC HU hb4
        have z0 := HZ4.out.1.c0
        have z1 := HZ4.out.1.c1
        have z2 := HZ4.out.1.c2
        have f0 := HZ4.out.1.fz 0
        have f1 := HZ4.out.1.fz 1
        have f2 := HZ4.out.1.fz 2
        have y0 := HZ4.out.2.2.c0
        have y1 := HZ4.out.2.2.c1
        have y2 := HZ4.out.2.2.c2
        simp only at y0 y1 y2
        cases R
        · have HX0 : Hid (UV.zU = X) := by rw [← HX.out]; rfl
          have HE := hide (HF.out _ HZ4.out.2.1 HZ4.out.1)
          clear HZ4 HF HY HX
          go_wp2
          exact ret_ug2 2 3 w.heap.size UV.zU _ rfl rfl rfl rfl HE.out.1 ⟨by rw [← HX0.out]; rfl, HE.out.2⟩
        · have HX0 : Hid ((⟨(n : Int), a, b⟩ : Ug) = X) := by rw [← HX.out]; rfl
          have HE := hide (HY.out _ HZ4.out.2.1 HZ4.out.1)
          clear HZ4 HF HY HX
          go_wp2
          exact ret_ug2 2 3 w.heap.size ⟨(n : Int), a, b⟩ _ rfl rfl rfl rfl HE.out.1 ⟨by rw [← HX0.out]; rfl, HE.out.2⟩

end Go.Proofs.YthlgohplljcgfaaGreatDoor
/-
  The specification's reader: one byte of a text.
-/
namespace Go.Proofs.YthlgohplljcgfaaGreatDoor
open Go.RowKit Go.BigFrame Go.Sort
set_option linter.unusedVariables false
set_option linter.unusedSimpArgs false

/-- the byte at a place -/
def byB (d : ByteArray) (i : Nat) : UInt8 := d.data.toList.getD i 0
theorem run_by (d : ByteArray) (x : Int) (i : Nat) (hx : x = (i : Int)) (h : i < d.size) (w : World) : (Instr.index 9 (.string d) (.int .i64 x)).run Tryz.prog w = .ok (.int .u8 ((byB d i).toNat : Int)) w := by
  subst hx
  rw [run_index_string (P := Tryz.prog) (w := w) 9 d .i64 _ Tryz.underlying9, dif_pos ⟨by omega, by omega⟩]
  have e : byB d i = d[i] := by
    unfold byB
    have : i < d.data.toList.length := by rw [Array.length_toList]; exact h
    rw [List.getD_eq_getElem?_getD, List.getElem?_eq_getElem this]
    simp
    rfl
  rw [e]
  simp

set_option maxRecDepth 100000 in
set_option maxHeartbeats 1000000 in
theorem l09Byte_no (c : Nat) (s : ByteArray) (p : Nat) (b : Bool) (w : World) (h : Cu w c s p b) (hs : s.size ≤ 1048576) (hp : p ≤ s.size) (hno : b = true ∨ p = s.size) :
    Calls Tryz.prog 66 #[.pointer (some ⟨c, 0, none⟩)] w fun e w' => (e = .returned (.int .i64 0) ∧ Cu w' c s p true) ∧ w.grownBy w' (some c) := by
  have c0 := h.c0
  have c1 := h.c1
  have c2 := h.c2
  have hcl := h.lt
  have HH : Hid (Cu w c s p b) := h
  clear h
  cases b with
  | true =>
    clear hno
    go_enter Tryz.func66, Tryz.ntmps66
    go_wp2
    go_quiet (fail)
    have h6 : Cu (w.drewN nq) c s p true := HH.out
    have hgw : w.grownBy (w.drewN nq) (some c) := grown_below (below_drn (Below.refl _ _) nq)
    generalize w.drewN nq = wd at *
    have d2 := h6.c2
    have g2 := h6.f2
    have hl6 := h6.lt
    have HF : Hid (Cu (wd.setCell ⟨c, 2, none⟩ (.bool true)) c s p true ∧ w.grownBy (wd.setCell ⟨c, 2, none⟩ (.bool true)) (some c)) := ⟨h6.bad, hgw.trans (grown_setC wd c 2 _)⟩
    clear h6 hgw HH
    go_wp2
    go_ret
    exact ⟨⟨rfl, HF.out.1⟩, HF.out.2⟩
  | false =>
    have h3 : p = s.size := by
      rcases hno with h | h
      · cases h
      · exact h
    have q3 : decide ((s.size : Int) ≤ (p : Int)) = true := decide_eq_true (by omega)
    clear hno
    go_enter Tryz.func66, Tryz.ntmps66
    go_wp2
    go_quiet (fail)
    have h6 : Cu (w.drewN nq) c s p false := HH.out
    have hgw : w.grownBy (w.drewN nq) (some c) := grown_below (below_drn (Below.refl _ _) nq)
    generalize w.drewN nq = wd at *
    have d2 := h6.c2
    have g2 := h6.f2
    have hl6 := h6.lt
    have HF : Hid (Cu (wd.setCell ⟨c, 2, none⟩ (.bool true)) c s p true ∧ w.grownBy (wd.setCell ⟨c, 2, none⟩ (.bool true)) (some c)) := ⟨h6.bad, hgw.trans (grown_setC wd c 2 _)⟩
    clear h6 hgw HH
    go_wp2
    go_ret
    exact ⟨⟨rfl, HF.out.1⟩, HF.out.2⟩

set_option maxRecDepth 100000 in
set_option maxHeartbeats 1000000 in
theorem l09Byte_yes (c : Nat) (s : ByteArray) (p : Nat) (w : World) (h : Cu w c s p false) (hs : s.size ≤ 1048576) (hp : p < s.size) :
    Calls Tryz.prog 66 #[.pointer (some ⟨c, 0, none⟩)] w fun e w' => (e = .returned (.int .i64 ((byB s p).toNat : Int)) ∧ Cu w' c s (p + 1) false) ∧ w.grownBy w' (some c) := by
  have c0 := h.c0
  have c1 := h.c1
  have c2 := h.c2
  have hcl := h.lt
  have HH : Hid (Cu w c s p false) := h
  have hpc := run_by s (p : Int) p rfl hp
  have e1 : ((p + 1 : Nat) : Int) = (p : Int) + 1 := by omega
  have e2 : (p : Int) + 1 - 1 = (p : Int) := by omega
  have q3 : decide ((s.size : Int) ≤ (p : Int)) = false := decide_eq_false (by omega)
  have hb256 : (byB s p).toNat < 256 := (byB s p).toNat_lt
  generalize byB s p = b at *
  clear h
  go_enter Tryz.func66, Tryz.ntmps66
  go_wp2
  go_quiet (fail)
  have h6 : Cu (w.drewN nq) c s p false := HH.out
  have hgw : w.grownBy (w.drewN nq) (some c) := grown_below (below_drn (Below.refl _ _) nq)
  generalize w.drewN nq = wd at *
  have d1 := h6.c1
  have g1 := h6.f1
  have hl6 := h6.lt
  have hC : Cu (wd.setCell ⟨c, 1, none⟩ (.int .i64 ((p + 1 : Nat) : Int))) c s (p + 1) false := h6.at (p + 1)
  rw [e1] at hC
  have HF : Hid (Cu (wd.setCell ⟨c, 1, none⟩ (.int .i64 ((p : Int) + 1))) c s (p + 1) false ∧ w.grownBy (wd.setCell ⟨c, 1, none⟩ (.int .i64 ((p : Int) + 1))) (some c)) := ⟨hC, hgw.trans (grown_setC wd c 1 _)⟩
  have k0 := hC.c0
  have k1 := hC.c1
  rw [e1] at k1
  clear h6 hgw hC HH c0 c1 c2
  go_wp2
  generalize wd.setCell ⟨c, 1, none⟩ (.int .i64 ((p : Int) + 1)) = we at *
  try (go_quiet (fail))
  have HG : Hid (∀ n, Cu (we.drewN n) c s (p + 1) false ∧ w.grownBy (we.drewN n) (some c)) := fun n => ⟨HF.out.1, HF.out.2.trans (grown_below (below_drn (Below.refl _ _) n))⟩
  go_wp2
  go_ret
  first | exact ⟨⟨rfl, (HG.out _).1⟩, (HG.out _).2⟩ | exact ⟨⟨rfl, HF.out.1⟩, HF.out.2⟩

end Go.Proofs.YthlgohplljcgfaaGreatDoor
/-
  What a shard's records do, in plain words.
-/
namespace Go.Proofs.YthlgohplljcgfaaGreatDoor
open Go.RowKit Go.BigFrame Go.Sort
set_option linter.unusedVariables false
set_option linter.unusedSimpArgs false

namespace SR
/-- so many numbers one behind the other, from p on; and where they end -/
def nums (l : List UInt8) : Nat → Nat → Option (List Nat × Nat)
  | 0, p => some ([], p)
  | c + 1, p => match M.readVar l p with
    | none => none
    | some (n, q) => match nums l c q with
      | none => none
      | some (r, z) => some (n :: r, z)
/-- a text that is just so many numbers -/
def numsOf (t : ByteArray) (c : Nat) : Option (List Nat) := match nums t.data.toList c 0 with
  | none => none
  | some (l, z) => if z = t.size then some l else none
/-- .. behind its first byte -/
def numsT (t : ByteArray) (c : Nat) : Option (List Nat) := match nums t.data.toList c 1 with
  | none => none
  | some (l, z) => if z = t.size then some l else none
/-- what stands behind the first byte -/
def body (t : ByteArray) : ByteArray := t.extract 1 t.size

theorem rv_cons (x : UInt8) (l : List UInt8) (p : Nat) : ∀ (f i n : Nat), M.rv (x :: l) (p + 1) f i n = (M.rv l p f i n).map fun y => (y.1, y.2 + 1)
  | 0, _, _ => rfl
  | f + 1, i, n => by
    unfold M.rv
    have e : (x :: l)[p + 1 + i]? = l[p + i]? := by rw [show p + 1 + i = (p + i) + 1 by omega, List.getElem?_cons_succ]
    rw [e]
    cases l[p + i]? with
    | none => rfl
    | some b =>
      simp only
      split
      · exact rv_cons x l p f (i + 1) _
      · split
        · rfl
        · simp; omega
theorem readVar_cons (x : UInt8) (l : List UInt8) (p : Nat) : M.readVar (x :: l) (p + 1) = (M.readVar l p).map fun y => (y.1, y.2 + 1) := rv_cons x l p 5 0 0
theorem nums_cons (x : UInt8) (l : List UInt8) : ∀ (c p : Nat), nums (x :: l) c (p + 1) = (nums l c p).map fun y => (y.1, y.2 + 1)
  | 0, p => rfl
  | c + 1, p => by
    unfold nums
    rw [readVar_cons]
    cases M.readVar l p with
    | none => rfl
    | some y =>
      obtain ⟨n, q⟩ := y
      simp only [Option.map_some]
      rw [nums_cons x l c q]
      cases nums l c q with
      | none => rfl
      | some z => rfl
theorem body_list (t : ByteArray) : (body t).data.toList = t.data.toList.drop 1 := by
  unfold body
  rw [ByteArray.data_extract, Array.toList_extract]
  simp
  refine List.take_of_length_le ?_
  rw [List.length_tail, Array.length_toList]
  exact Nat.le_refl _
theorem body_size (t : ByteArray) : (body t).size = t.size - 1 := by
  unfold body
  simp
theorem numsT_eq {t : ByteArray} (h : 0 < t.size) (c : Nat) : numsT t c = numsOf (body t) c := by
  unfold numsT numsOf
  rw [body_list]
  have hl : t.data.toList.length = t.size := by simp
  cases e : t.data.toList with
  | nil => rw [e] at hl; simp at hl; omega
  | cons x l =>
    rw [nums_cons x l c 0]
    simp only [List.drop_succ_cons, List.drop_zero, body_size]
    cases nums l c 0 with
    | none => rfl
    | some z =>
      obtain ⟨r, z⟩ := z
      simp only [Option.map_some]
      by_cases hz : z + 1 = t.size
      · rw [if_pos hz, if_pos (by omega)]
      · rw [if_neg hz, if_neg (by omega)]

/-- what a shard knows besides its disk -/
structure Ss where
  e : Int
  P : List (List Le)
  I : List Int
  U : List Ug
  r0 : Int
  r1 : Int
  r2 : Int
def Ss.zero : Ss := ⟨0, [[]], [0], [], 0, 0, 0⟩
/-- how many the last view has -/
def lastT (I : List Int) : Int := I.getLastD 0
def hasU (U : List Ug) (i : Int) : Bool := U.any fun x => decide (x.i = i)
noncomputable def tkB (a k : Int) (s : Ss) (b : ByteArray) : Bool := UV.rdOk b && (decide ((shN (UV.rdA b).n k : Int) = a) && !hasU s.U (UV.rdA b).i)
noncomputable def tkS (a k : Int) (s : Ss) (b : ByteArray) : Ss := if tkB a k s b then { s with U := s.U ++ [UV.rdA b] } else s
def fitB (s : Ss) (x y z : Int) : Bool := decide (x = s.e + 1 ∧ x ≤ 4) && (decide (s.r1 < y ∧ y ≤ 1000) && decide (lastT s.I ≤ z ∧ z ≤ (s.U.length : Int)))
def rdS (s : Ss) (b : ByteArray) : Ss := match numsOf b 3 with
  | some [x, y, z] => if fitB s x y z then { s with r0 := x, r1 := y, r2 := z } else s
  | _ => s
noncomputable def cmS (s : Ss) : Ss := ⟨s.e + 1, s.P ++ [rlA s.r2 s.U], s.I ++ [s.r2], s.U, 0, 0, 0⟩
noncomputable def coS (s : Ss) (b : ByteArray) : Ss := match numsOf b 1 with
  | some [x] => if (x : Int) = s.r0 ∧ 0 < s.r0 then cmS s else s
  | _ => s
def abS (s : Ss) (b : ByteArray) : Ss := match numsOf b 2 with
  | some [x, y] => if (x : Int) = s.r0 ∧ (y : Int) = s.r1 then { s with r0 := 0, r1 := 0, r2 := 0 } else s
  | _ => s
/-- what a record does -/
noncomputable def recS (a k : Int) (s : Ss) (t : ByteArray) : Ss :=
  if byB t 0 = 1 then tkS a k s (body t) else if byB t 0 = 2 then rdS s (body t) else if byB t 0 = 3 then coS s (body t) else if byB t 0 = 4 then abS s (body t) else s
/-- what all records do -/
noncomputable def runS (a k : Int) (M : List ByteArray) : Ss := M.foldl (recS a k) Ss.zero
theorem runS_step (a k : Int) (M : List ByteArray) {m : Nat} (h : m < M.length) : runS a k (M.take (m + 1)) = recS a k (runS a k (M.take m)) M[m] := by
  unfold runS
  rw [List.take_succ_eq_append_getElem h, List.foldl_append]
  rfl

/-- how great what it knows is, after m records -/
structure Ss.ok (s : Ss) (m : Nat) : Prop where
  e0 : 0 ≤ s.e
  e1 : s.e ≤ 4
  p : (s.P.length : Int) = s.e + 1
  i : s.I.length = s.P.length
  u : s.U.length ≤ m
  us : ∀ x ∈ s.U, UV.okU x = true
  r : (s.r0 = 0 ∧ s.r1 = 0 ∧ s.r2 = 0) ∨ (s.r0 = s.e + 1 ∧ s.r0 ≤ 4 ∧ 0 ≤ s.r2 ∧ s.r2 ≤ (s.U.length : Int))
  f : s.P.flatten.length ≤ s.P.length * m
  q : ∀ l ∈ s.P, SmallL l
end SR

end Go.Proofs.YthlgohplljcgfaaGreatDoor
/-
  A shard's records: the table of what they do, and what is asked of a Ready: the program's answers.
-/
namespace Go.Proofs.YthlgohplljcgfaaGreatDoor
open Go.RowKit Go.BigFrame Go.Sort
set_option linter.unusedVariables false
set_option linter.unusedSimpArgs false

/-- the table's cells -/
def rrC : List Value := [.int .u8 1, .func (Fn.func 75) #[] #[], .int .u8 2, .func (Fn.func 76) #[] #[], .int .u8 3, .func (Fn.func 77) #[] #[], .int .u8 4, .func (Fn.func 78) #[] #[]]
theorem recordRows_any (w : World) : Calls Tryz.prog 32 #[] w fun e w' => e = .returned (.slice (some ⟨w.heap.size, 0, none⟩) 4 4) ∧ Box 113 w' w.heap.size rrC ∧ Below w.heap.size w w' := by
  have HF : Hid (Box 113 (w.alloc (.cells #[.int .u8 1, .func (Fn.func 75) #[] #[], .int .u8 2, .func (Fn.func 76) #[] #[], .int .u8 3, .func (Fn.func 77) #[] #[], .int .u8 4, .func (Fn.func 78) #[] #[]] 113)) w.heap.size rrC ∧ Below w.heap.size w (w.alloc (.cells #[.int .u8 1, .func (Fn.func 75) #[] #[], .int .u8 2, .func (Fn.func 76) #[] #[], .int .u8 3, .func (Fn.func 77) #[] #[], .int .u8 4, .func (Fn.func 78) #[] #[]] 113))) := ⟨Box.new _ w rrC, below_alloc _ _⟩
  go_enter Tryz.func32, Tryz.ntmps32
  go_wp2
  go_ret
  exact ⟨rfl, HF.out.1, HF.out.2⟩

theorem lastT_at {I : List Int} (h : 0 < I.length) : SR.lastT I = I[I.length - 1] := by
  unfold SR.lastT
  rw [List.getLastD_eq_getLast?, List.getLast?_eq_getElem?, List.getElem?_eq_getElem (by omega)]
  rfl

set_option maxRecDepth 100000 in
set_option maxHeartbeats 1000000 in
theorem lastTaken_any (I : List Int) (p g o : Nat) (x0 x1 x2 x3 x4 x5 x7 x8 x9 x10 vt : Value) (w : World) (h : Box 35 w p [x0, x1, x2, x3, x4, x5, vt, x7, x8, x9, x10]) (hI : RS 1 ics w vt g o I) :
    Calls Tryz.prog 143 #[.pointer (some ⟨p, 0, none⟩)] w fun e w' => e = .returned (.int .i64 (SR.lastT I)) ∧ Below w.heap.size w w' := by
  have HI := hide hI
  obtain ⟨ai, ci, rfl, hl, hA, _⟩ := hI
  by_cases h0 : I.length = 0
  · have hl0 : SR.lastT I = 0 := by
      have : I = [] := List.length_eq_zero_iff.1 h0
      subst this
      rfl
    rw [hl0]
    rw [h0] at h
    have z6 := h.at 6 _ rfl
    clear HI hA hl0
    go_enter Tryz.func143, Tryz.ntmps143
    go_wp2
    go_ret
    exact ⟨rfl, Below.refl _ _⟩
  · rw [lastT_at (by omega)]
    obtain ⟨ea, hg⟩ := hA (by omega)
    subst ea
    obtain ⟨m, hm⟩ : ∃ m, I.length = m + 1 := ⟨I.length - 1, by omega⟩
    have c0 := HI.out.int m (by omega)
    have hX : I[I.length - 1] = I[m] := by congr 1; omega
    rw [hX]
    obtain ⟨n, hn⟩ : ∃ n, I.length = n := ⟨_, rfl⟩
    rw [hn] at h hm hl
    have HB : Hid (Box 35 w p [x0, x1, x2, x3, x4, x5, .slice (some ⟨g, o, none⟩) n ci, x7, x8, x9, x10]) := h
    generalize I[m] = X at *
    have HK : Hid (∀ W, Below w.heap.size w W → W.cell? ⟨p, 6, none⟩ = some (.slice (some ⟨g, o, none⟩) n ci) ∧ W.cell? ⟨g, o + m, none⟩ = some (.int .i64 X)) := fun W hW => ⟨(HB.out.later hW).at 6 _ rfl, (hW.cell (p := ⟨g, o + m, none⟩) hg).trans c0⟩
    have z6 := h.at 6 _ rfl
    have hb0 : Below w.heap.size w w.drew := (Below.refl _ _).drew
    have e1 : (n : Int) - 1 = (m : Int) := by omega
    have hn2 : n ≤ 1100000 := by omega
    have wr1 : IntKind.i64.wrap ((n : Int) - 1) = (m : Int) := (IntWalk.i64_in _ (by omega)).trans e1
    have wr2 : IntKind.i64.wrap (m : Int) = (m : Int) := IntWalk.i64_in _ (by omega)
    have e0 : ¬ (n : Int) = 0 := by omega
    have e5 : ((n : Int) == 0) = false := by simpa using e0
    have e2 : (0 : Int) ≤ (m : Int) := by omega
    have e3 : (m : Int) < (n : Int) := by omega
    clear HI hX h hm h0 hl hA HB hn
    go_enter Tryz.func143, Tryz.ntmps143
    go_wp2
    go_region_held3 (fun W => W.cell? ⟨p, 6, none⟩ = some (.slice (some ⟨g, o, none⟩) n ci) ∧ W.cell? ⟨g, o + m, none⟩ = some (.int .i64 X)) (first | (go_keep; done) | exact HK.out _ hb0) (first | fail)
    try rename_i hHeld
    try clear hHeld
    go_wp2
    go_ret
    exact ⟨rfl, hb0⟩

set_option maxRecDepth 100000 in
set_option maxHeartbeats 1000000 in
theorem readyFor_any (x y r0 r1 : Int) (p : Nat) (x0 x1 x2 x3 x4 x5 x6 x7 x10 : Value) (w : World) (h : Box 35 w p [x0, x1, x2, x3, x4, x5, x6, x7, .int .i64 r0, .int .i64 r1, x10]) :
    Calls Tryz.prog 118 #[.pointer (some ⟨p, 0, none⟩), .int .i64 x, .int .i64 y] w fun e w' => e = .returned (.bool (decide (r0 = x ∧ r1 = y))) ∧ w' = w := by
  have z8 := h.at 8 _ rfl
  have z9 := h.at 9 _ rfl
  by_cases h0 : r0 = x
  · subst h0
    by_cases h1 : r1 = y
    · subst h1
      go_enter Tryz.func118, Tryz.ntmps118
      go_wp2
      go_ret
      exact ⟨by simp, rfl⟩
    · have q : (r1 == y) = false := by simpa using h1
      have hd : decide (r0 = r0 ∧ r1 = y) = false := by simpa using h1
      rw [hd]
      clear hd
      go_enter Tryz.func118, Tryz.ntmps118
      go_wp2
      go_ret
      exact ⟨by simp, rfl⟩
  · have q : (r0 == x) = false := by simpa using h0
    have hd : decide (r0 = x ∧ r1 = y) = false := by simp [h0]
    rw [hd]
    clear hd
    go_enter Tryz.func118, Tryz.ntmps118
    go_wp2
    go_ret
    exact ⟨by simp, rfl⟩

theorem Box.put3 {T : Nat} {W : World} {p : Nat} {x0 x1 x2 x3 x4 x5 x6 x7 x8 x9 x10 : Value} (h : Box T W p [x0, x1, x2, x3, x4, x5, x6, x7, x8, x9, x10]) (u v z : Value) : Box T (((W.setCell ⟨p, 8, none⟩ u).setCell ⟨p, 9, none⟩ v).setCell ⟨p, 10, none⟩ z) p [x0, x1, x2, x3, x4, x5, x6, x7, u, v, z] := ((h.set 8 u).set 9 v).set 10 z
theorem grown_put3 (W : World) (p a b c : Nat) (u v z : Value) : W.grownBy (((W.setCell ⟨p, a, none⟩ u).setCell ⟨p, b, none⟩ v).setCell ⟨p, c, none⟩ z) (some p) := ((grown_setC W p a u).trans (grown_setC _ p b v)).trans (grown_setC _ p c z)
set_option maxRecDepth 100000 in
set_option maxHeartbeats 1000000 in
theorem abort_any (p : Nat) (x0 x1 x2 x3 x4 x5 x6 x7 : Value) (r0 r1 r2 : Int) (w : World) (h : Box 35 w p [x0, x1, x2, x3, x4, x5, x6, x7, .int .i64 r0, .int .i64 r1, .int .i64 r2]) :
    Calls Tryz.prog 119 #[.pointer (some ⟨p, 0, none⟩)] w fun e w' => e = .returned (.tuple #[]) ∧ Box 35 w' p [x0, x1, x2, x3, x4, x5, x6, x7, .int .i64 0, .int .i64 0, .int .i64 0] ∧ w.grownBy w' (some p) := by
  have z8 := h.at 8 _ rfl
  have z9 := h.at 9 _ rfl
  have z10 := h.at 10 _ rfl
  have f8 := h.fz 8
  have f9 := h.fz 9
  have f10 := h.fz 10
  have HF : Hid (Box 35 (((w.setCell ⟨p, 8, none⟩ (.int .i64 0)).setCell ⟨p, 9, none⟩ (.int .i64 0)).setCell ⟨p, 10, none⟩ (.int .i64 0)) p [x0, x1, x2, x3, x4, x5, x6, x7, .int .i64 0, .int .i64 0, .int .i64 0] ∧ w.grownBy (((w.setCell ⟨p, 8, none⟩ (.int .i64 0)).setCell ⟨p, 9, none⟩ (.int .i64 0)).setCell ⟨p, 10, none⟩ (.int .i64 0)) (some p)) := ⟨h.put3 _ _ _, grown_put3 _ _ _ _ _ _ _ _⟩
  clear h
  go_enter Tryz.func119, Tryz.ntmps119
  go_wp2
  refine bodyPost_end (results_none rfl _ _ _) rfl ?_
  exact ⟨rfl, HF.out.1, HF.out.2⟩

end Go.Proofs.YthlgohplljcgfaaGreatDoor
