/-
  Two texts out of two proofs: the program's and the specification's answers.
-/
import Derived.Test.YtojadcjoniejaaaDoorPkN
import Derived.Lib.QuietBelow
namespace Go.Proofs.YtojadcjoniejaaaDoor
open Go.RowKit Go.BigFrame Go.Sort
set_option linter.unusedVariables false
set_option linter.unusedSimpArgs false

/-- from the last one on back the first two that differ -/
def lu (A C : List ByteArray) : Nat → ByteArray × ByteArray × Bool
  | 0 => (⟨#[]⟩, ⟨#[]⟩, false)
  | k + 1 => if A.getD k ⟨#[]⟩ = C.getD k ⟨#[]⟩ then lu A C k else (A.getD k ⟨#[]⟩, C.getD k ⟨#[]⟩, true)
def trip (r : ByteArray × ByteArray × Bool) : Value := .tuple #[.string r.1, .string r.2.1, .bool r.2.2]
def PxR (w : World) (F : Nat → ByteArray × ByteArray × Bool) (n : Nat) (i : Value) (wr : World) : Prop := ∃ m : Nat, m ≤ n ∧ i = .int .i64 ((m : Int) - 1) ∧ Hid (Below w.heap.size w wr ∧ F n = F m)

set_option maxRecDepth 100000 in
set_option maxHeartbeats 1000000 in
theorem lastUnlike_any (va vb : Value) (ga oa gb ob : Nat) (A C : List ByteArray) (w : World) (hv : SS w va ga oa A) (hu : SS w vb gb ob C) (hl : A.length = C.length) :
    Calls Tryd.prog 71 #[va, vb] w fun e w' => e = .returned (trip (lu A C A.length)) ∧ Below w.heap.size w w' := by
  obtain ⟨R, hR⟩ : ∃ R, lu A C A.length = R := ⟨_, rfl⟩
  have HR : Hid (lu A C A.length = R) := hR
  rw [hR]
  have HV : Hid (∀ W, Below w.heap.size w W → SS W va ga oa A ∧ SS W vb gb ob C) := fun W hW => ⟨hv.below hW hv.lt, hu.below hW hu.lt⟩
  obtain ⟨a, ca, rfl, hla, hA, hxa⟩ := hv
  obtain ⟨b, cb, rfl, hlb, hB, hxb⟩ := hu
  clear hxa hxb hR
  obtain ⟨n, hn⟩ : ∃ n, A.length = n := ⟨_, rfl⟩
  have HN : Hid (A.length = n ∧ C.length = n) := ⟨hn, hl ▸ hn⟩
  have HA : Hid (0 < n → a = some ⟨ga, oa, none⟩) := by rw [← hn]; exact hA
  have HB : Hid (0 < n → b = some ⟨gb, ob, none⟩) := by rw [← hn, hl]; exact hB
  rw [← hl, hn] at hlb ⊢
  rw [hn] at hla HR
  rw [← hl, hn] at HV
  have HST : Hid (PxR w (lu A C) n (.int .i64 ((n : Int) - 1)) w) := ⟨n, by omega, rfl, Below.refl _ _, rfl⟩
  clear hA hB hn hl
  go_enter Tryd.func71, Tryd.ntmps71
  go_wp2
  go_loopw [7] (fun i wr => PxR w (lu A C) n i wr) (fun i _ => (intOf i + 1).toNat)
  case atStart => exact HST.out
  case round =>
    obtain ⟨m, hm, rfl, HI⟩ := hrel
    clear HST
    cases m with
    | zero =>
      have hRf : R = (⟨#[]⟩, ⟨#[]⟩, false) := by rw [← HR.out, HI.out.2]; rfl
      subst hRf
      have HF : Hid (Below w.heap.size w wr) := HI.out.1
      clear HI HR HV HA HB HN
      go_wp2
      go_ret3
      exact ⟨rfl, HF.out⟩
    | succ k =>
      have ea := HA.out (by omega)
      have eb := HB.out (by omega)
      subst ea
      subst eb
      have e1 : (((k + 1 : Nat) : Int) - 1) = (k : Int) := by omega
      rw [e1]
      have hka : k < A.length := by rw [HN.out.1]; omega
      have hkb : k < C.length := by rw [HN.out.2]; omega
      obtain ⟨X, hX⟩ : ∃ X, A[k] = X := ⟨_, rfl⟩
      obtain ⟨Y, hY⟩ : ∃ Y, C[k] = Y := ⟨_, rfl⟩
      have HCC : Hid (∀ W, Below w.heap.size w W → W.cell? ⟨ga, oa + k, none⟩ = some (.string X) ∧ W.cell? ⟨gb, ob + k, none⟩ = some (.string Y)) := fun W hW => by
        obtain ⟨⟨a1, b1, e2, _, h2, h3⟩, ⟨a4, b4, e5, _, h5, h6⟩⟩ := HV.out W hW
        exact ⟨by rw [← hX]; exact h3 k hka, by rw [← hY]; exact h6 k hkb⟩
      obtain ⟨c0, d0⟩ := HCC.out _ HI.out.1
      have HU : Hid (lu A C (k + 1) = if X = Y then lu A C k else (X, Y, true)) := by
        show lu A C (k + 1) = _
        rw [lu]
        simp only [List.getD_eq_getElem?_getD, List.getElem?_eq_getElem hka, List.getElem?_eq_getElem hkb, Option.getD_some, hX, hY]
      have i1 : (k : Int) < (n : Int) := by omega
      have i2 : (0 : Int) ≤ (k : Int) := by omega
      clear hX hY hka hkb HA HB
      by_cases hk : X = Y
      · have q : (X.toList == Y.toList) = true := by rw [hk]; simp
        have hH : Below w.heap.size w wr ∧ lu A C n = lu A C k := ⟨HI.out.1, by rw [HI.out.2, HU.out, if_pos hk]⟩
        have HJ : Hid (Below w.heap.size w wr ∧ lu A C n = lu A C k) := hH
        clear HU HI hH hk HCC HV
        go_wp2
        go_quiet (fail)
        go_wp2
        refine ⟨⟨k, by omega, rfl, HJ.out.1.trans (⟨rfl, rfl, rfl, Nat.le_refl _, fun _ _ => rfl⟩), HJ.out.2⟩, ?_⟩
        simp [intOf]
      · have q : (X.toList == Y.toList) = false := LV.bytes_ne hk
        have hRR : R = (X, Y, true) := by rw [← HR.out, HI.out.2, HU.out, if_neg hk]
        subst hRR
        have HF : Hid (Below w.heap.size w wr) := HI.out.1
        clear HU HI hk HV HR
        go_wp2
        go_quiet (fail)
        go_wp2
        have hbd : Below w.heap.size w (wr.drewN nq) := HF.out.trans (⟨rfl, rfl, rfl, Nat.le_refl _, fun _ _ => rfl⟩)
        obtain ⟨c1, d1⟩ := HCC.out _ hbd
        clear HCC c0 d0 HF
        generalize wr.drewN nq = wd at *
        go_quiet (fail)
        go_wp2
        try rw [Exit.noGoto_ret]
        go_ret3
        exact ⟨rfl, hbd.trans ⟨rfl, rfl, rfl, Nat.le_refl _, fun _ _ => rfl⟩⟩

def sayB (B C : List Le) (nm : ByteArray) : Bool := decide (LV.getV B nm = LV.getV C nm) && (LV.getB B nm == LV.getB C nm)

set_option maxRecDepth 100000 in
set_option maxHeartbeats 1000000 in
theorem saySame_any (nm : ByteArray) (vb vs ub us : Value) (gb ob hb ob' : Nat) (B C : List Le) (w : World) (h1 : RS 2 lcs w vb gb ob B) (s1 : SmallL B) (h2 : RS 2 lcs w ub hb ob' C) (s2 : SmallL C) :
    Calls Tryd.prog 70 #[.string nm, .agg #[vb, vs], .agg #[ub, us]] w fun e w' => e = .returned (.bool (sayB B C nm)) ∧ Below w.heap.size w w' := by
  obtain ⟨R, hR⟩ : ∃ R, sayB B C nm = R := ⟨_, rfl⟩
  have hba : Below w.heap.size w ((w.alloc (.cells #[vb, vs] 36)).alloc (.cells #[ub, us] 36)) := ((Below.refl _ _).alloc (Nat.le_refl _) _).alloc (by simp) _
  have HP : Hid (∀ W, Below ((w.alloc (.cells #[vb, vs] 36)).alloc (.cells #[ub, us] 36)).heap.size ((w.alloc (.cells #[vb, vs] 36)).alloc (.cells #[ub, us] 36)) W → W.cell? ⟨w.heap.size, 0, none⟩ = some vb ∧ W.cell? ⟨w.heap.size, 1, none⟩ = some vs ∧ W.cell? ⟨w.heap.size + 1, 0, none⟩ = some ub ∧ W.cell? ⟨w.heap.size + 1, 1, none⟩ = some us ∧ Below w.heap.size w W) := fun W hW => by
    obtain ⟨a0, a1⟩ := run_rangeP (w := w) (p := 0) (v1 := vb) (v2 := vs) 36
    obtain ⟨b0, b1⟩ := run_rangeP (w := w.alloc (.cells #[vb, vs] 36)) (p := 0) (v1 := ub) (v2 := us) 36
    have hq : Below (w.alloc (.cells #[vb, vs] 36)).heap.size (w.alloc (.cells #[vb, vs] 36)) ((w.alloc (.cells #[vb, vs] 36)).alloc (.cells #[ub, us] 36)) := (Below.refl _ _).alloc (Nat.le_refl _) _
    have e : (w.alloc (.cells #[vb, vs] 36)).heap.size = w.heap.size + 1 := by simp
    rw [e] at b0 b1
    exact ⟨cell_later (cell_later a0 hq) hW, cell_later (cell_later a1 hq) hW, cell_later b0 hW, cell_later b1 hW, hba.trans (hW.mono hba.size)⟩
  have HL1 : Hid (∀ W, Below w.heap.size w W → Calls Tryd.prog 106 #[.string nm, .agg #[vb, vs]] W fun e w' => e = .returned (.tuple #[.string (LV.getV B nm), .bool (LV.getB B nm)]) ∧ Below W.heap.size W w') := fun W hW => ProofSays_any nm vb vs gb ob B W (h1.later hW) s1
  have HL2 : Hid (∀ W, Below w.heap.size w W → Calls Tryd.prog 106 #[.string nm, .agg #[ub, us]] W fun e w' => e = .returned (.tuple #[.string (LV.getV C nm), .bool (LV.getB C nm)]) ∧ Below W.heap.size W w') := fun W hW => ProofSays_any nm ub us hb ob' C W (h2.later hW) s2
  have hR2 : R = (decide (LV.getV B nm = LV.getV C nm) && (LV.getB B nm == LV.getB C nm)) := hR.symm
  rw [hR]
  clear h1 h2 s1 s2 hR
  generalize LV.getV B nm = V1 at *
  generalize LV.getV C nm = V2 at *
  generalize LV.getB B nm = R1 at *
  generalize LV.getB C nm = R2 at *
  obtain ⟨p0, p1, p2, p3, _⟩ := HP.out _ (Below.refl _ _)
  go_enter Tryd.func70, Tryd.ntmps70
  go_wp2_with fail
  refine (HL1.out _ hba).mono ?_
  rintro e w1 ⟨rfl, hb1⟩
  obtain ⟨k0, k1, k2, k3, b1⟩ := HP.out _ hb1
  clear p0 p1 p2 p3 HP HL1 hba hb1
  go_wp2_with fail
  refine (HL2.out _ b1).mono ?_
  rintro e w2 ⟨rfl, hb2⟩
  have b2 := b1.trans (hb2.mono b1.size)
  clear k0 k1 k2 k3 HL2 hb2 b1
  by_cases hV : V1 = V2
  · have q : (V1.toList == V2.toList) = true := by rw [hV]; simp
    rw [decide_eq_true hV, Bool.true_and] at hR2
    clear hV
    go_wp2
    go_ret
    exact ⟨by rw [hR2]; rfl, b2⟩
  · have q : (V1.toList == V2.toList) = false := LV.bytes_ne hV
    rw [decide_eq_false hV, Bool.false_and] at hR2
    clear hV
    go_wp2
    go_ret
    exact ⟨by rw [hR2]; rfl, b2⟩

noncomputable def xtR (nm : ByteArray) (B : List Le) (S : List ByteArray) (C : List Le) (T : List ByteArray) (x : Int) : ByteArray × ByteArray × Bool :=
  if (ptA nm B S x).length = 0 ∨ (ptA nm B S x).length ≠ (ptA nm C T x).length ∨ phA nm B S x ≠ phA nm C T x ∨ sayB B C nm = true then (⟨#[]⟩, ⟨#[]⟩, false) else lu (ptA nm B S x) (ptA nm C T x) (ptA nm B S x).length

/-- two proofs in their boxes -/
theorem two_boxes {w : World} {vb vs ub us : Value} : ∀ W, Below ((w.alloc (.cells #[vb, vs] 36)).alloc (.cells #[ub, us] 36)).heap.size ((w.alloc (.cells #[vb, vs] 36)).alloc (.cells #[ub, us] 36)) W → W.cell? ⟨w.heap.size, 0, none⟩ = some vb ∧ W.cell? ⟨w.heap.size, 1, none⟩ = some vs ∧ W.cell? ⟨w.heap.size + 1, 0, none⟩ = some ub ∧ W.cell? ⟨w.heap.size + 1, 1, none⟩ = some us ∧ Below w.heap.size w W := fun W hW => by
  have hba : Below w.heap.size w ((w.alloc (.cells #[vb, vs] 36)).alloc (.cells #[ub, us] 36)) := ((Below.refl _ _).alloc (Nat.le_refl _) _).alloc (by simp) _
  obtain ⟨a0, a1⟩ := run_rangeP (w := w) (p := 0) (v1 := vb) (v2 := vs) 36
  obtain ⟨b0, b1⟩ := run_rangeP (w := w.alloc (.cells #[vb, vs] 36)) (p := 0) (v1 := ub) (v2 := us) 36
  have hq : Below (w.alloc (.cells #[vb, vs] 36)).heap.size (w.alloc (.cells #[vb, vs] 36)) ((w.alloc (.cells #[vb, vs] 36)).alloc (.cells #[ub, us] 36)) := (Below.refl _ _).alloc (Nat.le_refl _) _
  have e : (w.alloc (.cells #[vb, vs] 36)).heap.size = w.heap.size + 1 := by simp
  rw [e] at b0 b1
  exact ⟨cell_later (cell_later a0 hq) hW, cell_later (cell_later a1 hq) hW, cell_later b0 hW, cell_later b1 hW, hba.trans (hW.mono hba.size)⟩

set_option maxRecDepth 100000 in
set_option maxHeartbeats 1000000 in
theorem ExtractTwo_any (nm : ByteArray) (vb vs ub us : Value) (gb ob gs os hb ob' hs os' : Nat) (B : List Le) (S : List ByteArray) (C : List Le) (T : List ByteArray) (x : Int) (w : World) (hnm : nm.size ≤ 1048576) (h1 : RS 2 lcs w vb gb ob B) (s1 : SmallL B) (h2 : SS w vs gs os S) (h3 : RS 2 lcs w ub hb ob' C) (s2 : SmallL C) (h4 : SS w us hs os' T) (hT : Tb w) :
    Calls Tryd.prog 25 #[.string nm, .agg #[vb, vs], .agg #[ub, us], .int .i64 x] w fun e w' => e = .returned (trip (xtR nm B S C T x)) ∧ Below w.heap.size w w' := by
  have hba : Below w.heap.size w ((w.alloc (.cells #[vb, vs] 36)).alloc (.cells #[ub, us] 36)) := ((Below.refl _ _).alloc (Nat.le_refl _) _).alloc (by simp) _
  have HP : Hid (∀ W, Below ((w.alloc (.cells #[vb, vs] 36)).alloc (.cells #[ub, us] 36)).heap.size ((w.alloc (.cells #[vb, vs] 36)).alloc (.cells #[ub, us] 36)) W → W.cell? ⟨w.heap.size, 0, none⟩ = some vb ∧ W.cell? ⟨w.heap.size, 1, none⟩ = some vs ∧ W.cell? ⟨w.heap.size + 1, 0, none⟩ = some ub ∧ W.cell? ⟨w.heap.size + 1, 1, none⟩ = some us ∧ Below w.heap.size w W) := two_boxes
  have HU : Hid (∀ W, Below w.heap.size w W → RS 2 lcs W vb gb ob B ∧ SS W vs gs os S ∧ RS 2 lcs W ub hb ob' C ∧ SS W us hs os' T ∧ Tb W) := fun W hW => ⟨h1.later hW, h2.below hW h2.lt, h3.later hW, h4.below hW h4.lt, hT.later hW⟩
  have HPT : Hid (∀ W, Below ((w.alloc (.cells #[vb, vs] 36)).alloc (.cells #[ub, us] 36)).heap.size ((w.alloc (.cells #[vb, vs] 36)).alloc (.cells #[ub, us] 36)) W → Calls Tryd.prog 42 #[.string nm, .agg #[vb, vs], .int .i64 x] W fun e w' => ∃ v, e = .returned v ∧ OS W.heap.size W w' v (ptA nm B S x)) := fun W hW => by
    have h := HU.out W (HP.out W hW).2.2.2.2
    exact ProofTexts_any nm vb vs gb ob gs os B S x W hnm h.1 s1 h.2.1 h.2.2.2.2
  have HQT : Hid (∀ W, Below ((w.alloc (.cells #[vb, vs] 36)).alloc (.cells #[ub, us] 36)).heap.size ((w.alloc (.cells #[vb, vs] 36)).alloc (.cells #[ub, us] 36)) W → Calls Tryd.prog 42 #[.string nm, .agg #[ub, us], .int .i64 x] W fun e w' => ∃ v, e = .returned v ∧ OS W.heap.size W w' v (ptA nm C T x)) := fun W hW => by
    have h := HU.out W (HP.out W hW).2.2.2.2
    exact ProofTexts_any nm ub us hb ob' hs os' C T x W hnm h.2.2.1 s2 h.2.2.2.1 h.2.2.2.2
  have HHL : Hid (∀ W v g l, Below w.heap.size w W → SS W v g 0 l → (∀ t ∈ l, t.size ≤ 12601) → Calls Tryd.prog 69 #[v, .int .i64 x] W fun e w' => e = .returned (.string (lastH l x)) ∧ Below W.heap.size W w') := fun W v g l hW h hz => hashOfLast_any v g 0 l x W h (fun t ht => by have := hz t ht; omega) (HU.out W hW).2.2.2.2
  have HSY : Hid (∀ W, Below w.heap.size w W → Calls Tryd.prog 70 #[.string nm, .agg #[vb, vs], .agg #[ub, us]] W fun e w' => e = .returned (.bool (sayB B C nm)) ∧ Below W.heap.size W w') := fun W hW => saySame_any nm vb vs ub us gb ob hb ob' B C W (HU.out W hW).1 s1 (HU.out W hW).2.2.1 s2
  have HR : Hid (xtR nm B S C T x = if (ptA nm B S x).length = 0 ∨ (ptA nm B S x).length ≠ (ptA nm C T x).length ∨ lastH (ptA nm B S x) x ≠ lastH (ptA nm C T x) x ∨ sayB B C nm = true then (⟨#[]⟩, ⟨#[]⟩, false) else lu (ptA nm B S x) (ptA nm C T x) (ptA nm B S x).length) := rfl
  have HZ1 : Hid ((ptA nm B S x).length ≤ 9 ∧ ∀ t ∈ ptA nm B S x, t.size ≤ 12601) := ⟨ptA_len _ _ _ _, ptA_size⟩
  have HZ2 : Hid ((ptA nm C T x).length ≤ 9 ∧ ∀ t ∈ ptA nm C T x, t.size ≤ 12601) := ⟨ptA_len _ _ _ _, ptA_size⟩
  generalize xtR nm B S C T x = R at *
  generalize ptA nm B S x = L1 at *
  generalize ptA nm C T x = L2 at *
  generalize sayB B C nm = SY at *
  have HP0 : Hid (Below ((w.alloc (.cells #[vb, vs] 36)).alloc (.cells #[ub, us] 36)).heap.size ((w.alloc (.cells #[vb, vs] 36)).alloc (.cells #[ub, us] 36)) ((w.alloc (.cells #[vb, vs] 36)).alloc (.cells #[ub, us] 36)).drew) := (Below.refl _ _).drew
  have hb0 := HP0.out
  clear h1 h2 h3 h4 s1 s2 hT HU
  go_enter Tryd.func25, Tryd.ntmps25
  go_wp2
  go_region_held3 (fun W => W.cell? ⟨w.heap.size, 0, none⟩ = some vb ∧ W.cell? ⟨w.heap.size, 1, none⟩ = some vs ∧ W.cell? ⟨w.heap.size + 1, 0, none⟩ = some ub ∧ W.cell? ⟨w.heap.size + 1, 1, none⟩ = some us) (first | (go_keep; done) | exact ⟨(HP.out _ hb0).1, (HP.out _ hb0).2.1, (HP.out _ hb0).2.2.1, (HP.out _ hb0).2.2.2.1⟩) ((go_at_call 42; first | ((with_reducible refine (HPT.out _ hb0).mono ?_); rintro e w1 ⟨v1, rfl, ho1⟩; have hc1 := ho1.2.1; have hb0 := hb0.trans (hc1.mono hb0.size)) | ((with_reducible refine (HQT.out _ hb0).mono ?_); rintro e w2 ⟨v2, rfl, ho2⟩; have hc2 := ho2.2.1; have hb0 := hb0.trans (hc2.mono hb0.size)) | fail))
  rename_i hHeld
  obtain ⟨g1, hs1⟩ := ho1.ss (by have := HZ1.out.1; omega)
  obtain ⟨g2, hs2⟩ := ho2.ss (by have := HZ2.out.1; omega)
  obtain ⟨a1, c1, rfl⟩ := ho1.slice
  obtain ⟨a2, c2, rfl⟩ := ho2.slice
  have HS : Hid (∀ W, Below w2.heap.size w2 W → SS W (.slice a1 L1.length c1) g1 0 L1 ∧ SS W (.slice a2 L2.length c2) g2 0 L2 ∧ Below w.heap.size w W ∧ W.cell? ⟨w.heap.size, 0, none⟩ = some vb ∧ W.cell? ⟨w.heap.size, 1, none⟩ = some vs ∧ W.cell? ⟨w.heap.size + 1, 0, none⟩ = some ub ∧ W.cell? ⟨w.heap.size + 1, 1, none⟩ = some us) := fun W hW => by
    have hh := HP.out W (hb0.trans (hW.mono hb0.size))
    exact ⟨(hs1.below ho2.2.1 hs1.lt).below hW (hs1.below ho2.2.1 hs1.lt).lt, hs2.below hW hs2.lt, hh.2.2.2.2, hh.1, hh.2.1, hh.2.2.1, hh.2.2.2.1⟩
  have HZ3 : Hid (L1.length ≤ 9 ∧ L2.length ≤ 9) := ⟨HZ1.out.1, HZ2.out.1⟩
  have hz1 := HZ1.out.1
  have hz2 := HZ2.out.1
  have HH1 : Hid (∀ W, Below w2.heap.size w2 W → Calls Tryd.prog 69 #[.slice a1 L1.length c1, .int .i64 x] W fun e w' => e = .returned (.string (lastH L1 x)) ∧ Below W.heap.size W w') := fun W hW => HHL.out W _ g1 L1 (HS.out W hW).2.2.1 (HS.out W hW).1 HZ1.out.2
  have HH2 : Hid (∀ W, Below w2.heap.size w2 W → Calls Tryd.prog 69 #[.slice a2 L2.length c2, .int .i64 x] W fun e w' => e = .returned (.string (lastH L2 x)) ∧ Below W.heap.size W w') := fun W hW => HHL.out W _ g2 L2 (HS.out W hW).2.2.1 (HS.out W hW).2.1 HZ2.out.2
  have HLU : Hid (∀ W, L1.length = L2.length → Below w2.heap.size w2 W → Calls Tryd.prog 71 #[.slice a1 L1.length c1, .slice a2 L2.length c2] W fun e w' => e = .returned (trip (lu L1 L2 L1.length)) ∧ Below W.heap.size W w') := fun W hl hW => lastUnlike_any _ _ g1 0 g2 0 L1 L2 W (HS.out W hW).1 (HS.out W hW).2.1 hl
  have b2 := (HS.out _ (Below.refl _ _)).2.2.1
  have HS2 : Hid (∀ W, Below w2.heap.size w2 W → Below w.heap.size w W ∧ W.cell? ⟨w.heap.size, 0, none⟩ = some vb ∧ W.cell? ⟨w.heap.size, 1, none⟩ = some vs ∧ W.cell? ⟨w.heap.size + 1, 0, none⟩ = some ub ∧ W.cell? ⟨w.heap.size + 1, 1, none⟩ = some us) := fun W hW => (HS.out W hW).2.2
  clear HPT HQT HHL HZ1 HZ2 hs1 hs2 ho1 ho2 HS HP HP0 hb0 hc1 hc2
  generalize lastH L1 x = H1 at *
  generalize lastH L2 x = H2 at *
  generalize lu L1 L2 L1.length = U at *
  generalize L1.length = n1 at *
  generalize L2.length = n2 at *
  by_cases e1 : n1 = 0
  · have hR : R = (⟨#[]⟩, ⟨#[]⟩, false) := by rw [HR.out, if_pos (.inl e1)]
    subst hR
    subst e1
    clear HR HSY HH1 HH2 HLU HS2
    go_wp2
    go_ret3
    exact ⟨rfl, b2⟩
  · have q1 : ((n1 : Int) == 0) = false := by simp; omega
    by_cases e2 : n1 = n2
    · subst e2
      have hlu := fun W => HLU.out W rfl
      go_wp2_with fail
      refine (HH1.out _ (Below.refl _ _)).mono ?_
      rintro e w3 ⟨rfl, hb3⟩
      go_wp2_with fail
      refine (HH2.out _ hb3).mono ?_
      rintro e w4 ⟨rfl, hb4⟩
      have hb4' := hb3.trans (hb4.mono hb3.size)
      obtain ⟨b4, k0, k1, k2, k3⟩ := HS2.out _ hb4'
      clear HH1 HH2 hb3 hb4 hHeld
      by_cases e3 : H1 = H2
      · have q3 : (H1.toList == H2.toList) = true := by rw [e3]; simp
        go_wp2_with fail
        refine (HSY.out _ b4).mono ?_
        rintro e w5 ⟨rfl, hb5⟩
        have hb5' := hb4'.trans (hb5.mono hb4'.size)
        obtain ⟨b5, _⟩ := HS2.out _ hb5'
        clear k0 k1 k2 k3 hb5 hb4' HSY
        cases SY with
        | true =>
          have hR : R = (⟨#[]⟩, ⟨#[]⟩, false) := by rw [HR.out, if_pos (.inr (.inr (.inr rfl)))]
          subst hR
          clear HR e3 q3
          go_wp2
          go_ret3
          exact ⟨rfl, b5⟩
        | false =>
          have hR : R = U := by rw [HR.out, if_neg (by simp [e1, e3])]
          subst hR
          clear HR e3
          go_wp2_with fail
          refine (hlu _ hb5').mono ?_
          rintro e w6 ⟨rfl, hb6⟩
          obtain ⟨x1, x2, x3⟩ := R
          unfold trip
          go_wp2
          go_ret3
          exact ⟨rfl, b5.trans (hb6.mono b5.size)⟩
      · have q3 : (H1.toList == H2.toList) = false := LV.bytes_ne e3
        have hR : R = (⟨#[]⟩, ⟨#[]⟩, false) := by rw [HR.out, if_pos (.inr (.inr (.inl e3)))]
        subst hR
        clear HR k0 k1 k2 k3 hb4' HSY
        go_wp2
        go_ret3
        exact ⟨rfl, b4⟩
    · have hR : R = (⟨#[]⟩, ⟨#[]⟩, false) := by rw [HR.out, if_pos (.inr (.inl e2))]
      subst hR
      have q2 : ((n1 : Int) != (n2 : Int)) = true := by simp; omega
      clear HR HSY HH1 HH2 HLU HS2
      go_wp2
      go_ret3
      exact ⟨rfl, b2⟩

end Go.Proofs.YtojadcjoniejaaaDoor
