/-
  The text of a file: the program's and the specification's answers, and the law's walk.
-/
import Derived.Test.YtbmlphlknolieaaAk
import Derived.Test.YtbmlphlknolieaaDl
namespace Go.Proofs.Ytbmlphlknolieaa
open Go.RowKit Go.BigFrame Go.Sort
set_option linter.unusedVariables false
set_option linter.unusedSimpArgs false

def FaR (L : List Fl) (x : ByteArray) (B : Nat) (w : World) (i : Value) (wr : World) : Prop := ∃ m : Nat, m ≤ L.length ∧ i = .int .i64 m ∧ Hid (∀ j (h : j < L.length), j < m → L[j].n ≠ x) ∧ Below B w wr
theorem fa_step {L : List Fl} {x : ByteArray} {m : Nat} (hm : m < L.length) (h : ∀ j (h : j < L.length), j < m → L[j].n ≠ x) (h1 : L[m].n ≠ x) : ∀ j (h : j < L.length), j < m + 1 → L[j].n ≠ x := by
  intro j hj hlt
  rcases Nat.lt_or_ge j m with h2 | h2
  · exact h j hj h2
  · have : j = m := by omega
    subst this
    exact h1

set_option maxRecDepth 100000 in
set_option maxHeartbeats 1000000 in
theorem FileAt_any (v : Value) (ga oa : Nat) (L : List Fl) (x : ByteArray) (w : World) (hv : RS 3 fcs w v ga oa L) (hs : SmallF L) :
    Calls Try.prog 25 #[.agg #[v], .string x] w fun e w' => e = .returned (.tuple #[.string (F.fileT L x), .bool (F.fileO L x)]) ∧ Below w.heap.size w w' := by
  obtain ⟨T, hT⟩ : ∃ T, F.fileT L x = T := ⟨_, rfl⟩
  obtain ⟨R, hR⟩ : ∃ R, F.fileO L x = R := ⟨_, rfl⟩
  have hb0 : Below w.heap.size w (w.alloc (.cells #[v] 26)) := (Below.refl _ _).alloc (Nat.le_refl _) _
  have HV := hv.later hb0
  obtain ⟨a, cap, rfl, hl, hA, _⟩ := hv
  obtain ⟨n, hn⟩ : ∃ n, L.length = n := ⟨_, rfl⟩
  rw [hn] at hl hA HV hb0 ⊢
  have HB : Hid (Below w.heap.size w (w.alloc (.cells #[.slice a n cap] 26)) ∧ RS 3 fcs (w.alloc (.cells #[.slice a n cap] 26)) (.slice a n cap) ga oa L) := ⟨hb0, HV⟩
  have HA : Hid (0 < n → a = some ⟨ga, oa, none⟩) := fun h => (hA h).1
  have HR : Hid (F.fileT L x = T ∧ F.fileO L x = R) := ⟨hT, hR⟩
  have HS : Hid (SmallF L) := hs
  rw [hR, hT]
  clear hA HV hb0 hT hR hs
  go_enter Try.func25, Try.ntmps25
  go_wp2
  go_loopw [11] (fun i wr => FaR L x (w.alloc (.cells #[.slice a n cap] 26)).heap.size (w.alloc (.cells #[.slice a n cap] 26)) i wr) (fun i _ => n - (intOf i).toNat)
  case atStart => exact ⟨0, by omega, rfl, fun j _ h => by omega, Below.refl _ _⟩
  case round =>
    obtain ⟨m, hm, rfl, HU, hbel⟩ := hrel
    rw [hn] at hm
    by_cases hlt : m < n
    · have ea := HA.out (by omega)
      subst ea
      obtain ⟨c0, c1, c2⟩ := (HB.out.2.later hbel).file m (by omega)
      have i1 : (m : Int) < (n : Int) := by omega
      have i2 : (0 : Int) ≤ (m : Int) := by omega
      obtain ⟨X, hX⟩ : ∃ X, L[m]'(by omega) = X := ⟨_, rfl⟩
      rw [hX] at c0 c1 c2
      have HX : Hid (L[m]'(by omega) = X) := hX
      have hxs := (HS.out X (by rw [← hX]; exact List.getElem_mem _)).2
      have HW : Hid (Below (w.alloc (.cells #[.slice (some ⟨ga, oa, none⟩) n cap] 26)).heap.size (w.alloc (.cells #[.slice (some ⟨ga, oa, none⟩) n cap] 26)) (wr.alloc (.cells #[.string X.n, .string X.t, .int .i64 X.k] 36))) := hbel.alloc hbel.size _
      clear hX hbel HS
      by_cases hk : X.n = x
      · have hf := F.find_at (L := L) (x := x) (m := m) (by omega) HU.out (by rw [HX.out]; exact hk)
        rw [HX.out] at hf
        obtain ⟨rfl, rfl⟩ : T = X.t ∧ R = true := ⟨by rw [← HR.out.1]; unfold F.fileT; rw [hf], by rw [← HR.out.2]; unfold F.fileO; rw [hf]; rfl⟩
        have hbf := HB.out.1.trans (HW.out.mono HB.out.1.size)
        have q : (X.n.toList == x.toList) = true := by rw [hk]; simp
        clear HU HX HR HB HA hk hf
        go_wp2_with fail
        refine (strClone_any X.t _ hxs).mono ?_
        rintro e w2 ⟨rfl, hb2⟩
        have hb3 := hbf.trans (hb2.mono hbf.size)
        go_wp2
        try rw [Exit.noGoto_ret]
        go_ret2
        exact ⟨rfl, hb3⟩
      · have HU2 : Hid (∀ j (h : j < L.length), j < m + 1 → L[j].n ≠ x) := fa_step (by omega) HU.out (by rw [HX.out]; exact hk)
        have q : (X.n.toList == x.toList) = false := F.list_ne hk
        clear HU HX HR HB HA hk
        go_wp2
        go_roundw
        case rel => exact ⟨m + 1, by omega, by go_num, HU2, HW.out⟩
        case measure => simp [intOf]; omega
    · have hme : m = n := by omega
      have hf := F.find_no (L := L) (x := x) (fun j hj => HU.out j hj (by omega))
      obtain ⟨rfl, rfl⟩ : T = ⟨#[]⟩ ∧ R = false := ⟨by rw [← HR.out.1]; unfold F.fileT; rw [hf], by rw [← HR.out.2]; unfold F.fileO; rw [hf]; rfl⟩
      have hbf := HB.out.1.trans (hbel.mono HB.out.1.size)
      subst hme
      clear HU HR HB HA hf
      go_wp2
      go_ret2
      exact ⟨rfl, hbf⟩

set_option maxRecDepth 100000 in
set_option maxHeartbeats 1000000 in
theorem l06At_any (v : Value) (ga oa : Nat) (L : List Fl) (x : ByteArray) (w : World) (hv : RS 3 fcs w v ga oa L) :
    Calls Try.prog 70 #[.agg #[v], .string x] w fun e w' => ∃ r : Int, e = .returned (.int .i64 r) ∧ ((r = -1 ∧ F.find L x = none) ∨ ∃ (m : Nat) (h : m < L.length), r = (m : Int) ∧ F.find L x = some L[m]) ∧ Below w.heap.size w w' := by
  have hb0 : Below w.heap.size w (w.alloc (.cells #[v] 26)) := (Below.refl _ _).alloc (Nat.le_refl _) _
  have HV := hv.later hb0
  obtain ⟨a, cap, rfl, hl, hA, _⟩ := hv
  obtain ⟨n, hn⟩ : ∃ n, L.length = n := ⟨_, rfl⟩
  rw [hn] at hl hA HV hb0
  have HB : Hid (Below w.heap.size w (w.alloc (.cells #[.slice a n cap] 26)) ∧ RS 3 fcs (w.alloc (.cells #[.slice a n cap] 26)) (.slice a n cap) ga oa L) := ⟨hb0, HV⟩
  have HA : Hid (0 < n → a = some ⟨ga, oa, none⟩) := fun h => (hA h).1
  clear hA HV hb0
  rw [show Value.slice a L.length cap = Value.slice a n cap by rw [hn]]
  go_enter Try.func70, Try.ntmps70
  go_wp2
  go_loopw [5] (fun i wr => FaR L x (w.alloc (.cells #[.slice a n cap] 26)).heap.size (w.alloc (.cells #[.slice a n cap] 26)) i wr) (fun i _ => n - (intOf i).toNat)
  case atStart => exact ⟨0, by omega, rfl, fun j _ h => by omega, Below.refl _ _⟩
  case round =>
    obtain ⟨m, hm, rfl, HU, hbel⟩ := hrel
    rw [hn] at hm
    have d0 : wr.cell? ⟨w.heap.size, 0, none⟩ = some (.slice a n cap) := (hbel.cell (p := ⟨w.heap.size, 0, none⟩) (by simp)).trans (by simp)
    by_cases hlt : m < n
    · have ea := HA.out (by omega)
      subst ea
      obtain ⟨c0, c1, c2⟩ := (HB.out.2.later hbel).file m (by omega)
      have i1 : (m : Int) < (n : Int) := by omega
      have i2 : (0 : Int) ≤ (m : Int) := by omega
      obtain ⟨X, hX⟩ : ∃ X, L[m]'(by omega) = X := ⟨_, rfl⟩
      rw [hX] at c0 c1 c2
      have HX : Hid (L[m]'(by omega) = X) := hX
      clear hX c1 c2
      by_cases hk : X.n = x
      · have hf := F.find_at (L := L) (x := x) (m := m) (by omega) HU.out (by rw [HX.out]; exact hk)
        have hbf := HB.out.1.trans (hbel.mono HB.out.1.size)
        have HF : Hid (∃ (m' : Nat) (h : m' < L.length), (m : Int) = (m' : Int) ∧ F.find L x = some L[m']) := ⟨m, by omega, rfl, hf⟩
        have q : (X.n.toList == x.toList) = true := by rw [hk]; simp
        clear HU HX HB HA hk hf
        go_wp2
        try rw [Exit.noGoto_ret]
        go_ret
        exact ⟨_, rfl, .inr HF.out, hbf⟩
      · have HU2 : Hid (∀ j (h : j < L.length), j < m + 1 → L[j].n ≠ x) := fa_step (by omega) HU.out (by rw [HX.out]; exact hk)
        have q : (X.n.toList == x.toList) = false := F.list_ne hk
        clear HU HX HB HA hk
        go_wp2
        go_roundw
        case rel => exact ⟨m + 1, by omega, by go_num, HU2, hbel⟩
        case measure => simp [intOf]; omega
    · have hme : m = n := by omega
      have hf := F.find_no (L := L) (x := x) (fun j hj => HU.out j hj (by omega))
      have hbf := HB.out.1.trans (hbel.mono HB.out.1.size)
      subst hme
      have HF : Hid (F.find L x = none) := hf
      clear HU HB HA hf
      go_wp2
      go_ret
      exact ⟨_, rfl, .inl ⟨rfl, HF.out⟩, hbf⟩

set_option maxRecDepth 100000 in
set_option maxHeartbeats 1000000 in
theorem sFileAt_any (v : Value) (ga oa : Nat) (L : List Fl) (x : ByteArray) (w : World) (hv : RS 3 fcs w v ga oa L) :
    Calls Try.prog 32 #[.agg #[v], .string x] w fun e w' => e = .returned (.tuple #[.string (F.fileT L x), .bool (F.fileO L x)]) ∧ Below w.heap.size w w' := by
  have hb0 : Below w.heap.size w (w.alloc (.cells #[v] 26)) := (Below.refl _ _).alloc (Nat.le_refl _) _
  have HC := l06At_any v ga oa L x _ (hv.later hb0)
  have HV := hv
  obtain ⟨a, cap, rfl, hl, hA, hcc⟩ := hv
  clear hcc
  have HA : Hid (0 < L.length → a = some ⟨ga, oa, none⟩) := fun h => (hA h).1
  clear hA
  cases hf : F.find L x with
  | none =>
    have e1 : F.fileT L x = ⟨#[]⟩ := by unfold F.fileT; rw [hf]
    have e2 : F.fileO L x = false := by unfold F.fileO; rw [hf]; rfl
    rw [e1, e2]
    go_enter Try.func32, Try.ntmps32
    go_wp2_with fail
    refine HC.mono ?_
    rintro e w1 ⟨r, rfl, hr, hb1⟩
    obtain rfl : r = -1 := by
      rcases hr with ⟨h, _⟩ | ⟨m, h, _, h2⟩
      · exact h
      · rw [hf] at h2; cases h2
    have hb2 := hb0.trans (hb1.mono hb0.size)
    clear hr HC HV HA
    go_wp2
    go_ret2
    exact ⟨rfl, hb2⟩
  | some X =>
    have e1 : F.fileT L x = X.t := by unfold F.fileT; rw [hf]
    have e2 : F.fileO L x = true := by unfold F.fileO; rw [hf]; rfl
    rw [e1, e2]
    go_enter Try.func32, Try.ntmps32
    go_wp2_with fail
    refine HC.mono ?_
    rintro e w1 ⟨r, rfl, hr, hb1⟩
    obtain ⟨m, hm, rfl, hmX⟩ : ∃ (m : Nat) (h : m < L.length), r = (m : Int) ∧ L[m] = X := by
      rcases hr with ⟨_, h⟩ | ⟨m, h, h1, h2⟩
      · rw [hf] at h; cases h
      · rw [hf] at h2; exact ⟨m, h, h1, (Option.some.inj h2).symm⟩
    have hb2 := hb0.trans (hb1.mono hb0.size)
    obtain ⟨c0, c1, c2⟩ := ((HV.later hb0).later hb1).file m hm
    rw [hmX] at c0 c1 c2
    have d0 : w1.cell? ⟨w.heap.size, 0, none⟩ = some (.slice a L.length cap) := (hb1.cell (p := ⟨w.heap.size, 0, none⟩) (by simp)).trans (by simp)
    have ea := HA.out (by omega)
    subst ea
    have i1 : (m : Int) < (L.length : Int) := by omega
    have i2 : (0 : Int) ≤ (m : Int) := by omega
    clear hr HC HV HA hmX
    go_wp2
    go_ret2
    exact ⟨rfl, hb2⟩

set_option maxRecDepth 100000 in
set_option maxHeartbeats 2000000 in
theorem fileAtLaw_any (v : Value) (g o : Nat) (L : List Fl) (x : ByteArray) (w : World) (hv : IsRowF w v g o L) :
    Calls Try.prog 6 #[.agg #[v], .string x] w fun e w' => e = .returned (.bool true) ∧ Below w.heap.size w w' := by
  have hB : Below w.heap.size w (w.alloc (.cells #[v] 51)) := (Below.refl _ _).alloc (Nat.le_refl _) _
  have HSZ := szDisk_row v g o L 1048576 _ (hv.later hB) (by omega) (by omega)
  have HB : Hid (Below w.heap.size w (w.alloc (.cells #[v] 51)) ∧ BD (w.alloc (.cells #[v] 51)) w.heap.size 51 v) := ⟨hB, BD.new w _ _⟩
  have hsv : ∃ a n cap, v = .slice a n cap := by obtain ⟨a, n, cap, h, _⟩ := hv; exact ⟨a, n, cap, h⟩
  have HR : Hid (IsRowF w v g o L) := hv
  obtain ⟨a, n, cap, rfl⟩ := hsv
  clear hv hB
  by_cases hx : (1048576 : Int) < (x.size : Int)
  · have hb9 := HB.out.1
    clear HSZ HB HR
    go_enter Try.func6, Try.ntmps6
    go_wp2
    go_ret
    exact ⟨rfl, hb9⟩
  go_enter Try.func6, Try.ntmps6
  go_wp2_with fail
  refine HSZ.mono ?_
  rintro e w1 ⟨A, rfl, hb1, _, hA⟩
  have b1 := HB.out.1.trans (hb1.mono HB.out.1.size)
  by_cases hneg : A < 0
  · clear hA HSZ HR HB
    go_wp2
    go_ret
    exact ⟨rfl, b1⟩
  · obtain ⟨hrs, hsm, hlen⟩ := hA (by omega)
    have HTO : Hid (∀ W, Below w.heap.size w W → Calls Try.prog 30 #[.agg #[.slice a n cap]] W fun e w' => ∃ u, e = .returned u ∧ DkIn w' W.heap.size u L ∧ Below W.heap.size W w') := fun W hW => by
      obtain ⟨a', n', c', ev, _, hr⟩ := HR.out
      obtain ⟨a2, c2, ev2⟩ := hrs.shape
      have hn : n' = L.length := by rw [ev] at ev2; simp at ev2; exact ev2.2.1
      exact toDisk_any _ g o L W ((hr (by omega)).2.1.later (hW.mono (Nat.le_refl _)))
    have HX1 : Hid (BD w1 w.heap.size 51 (.slice a n cap) ∧ Below w.heap.size w w1) := ⟨HB.out.2.later hb1, b1⟩
    clear hrs hA HSZ HR HB hb1 b1
    have c1 := HX1.out.1.cell
    go_wp2_with fail
    refine (HTO.out _ HX1.out.2).mono ?_
    rintro e w2 ⟨u, rfl, hu, hb2⟩
    obtain ⟨a2, c2, p2, rfl, hr2, _⟩ := hu.shape
    have hcS := sFileAt_any _ p2 0 L x w2 hr2.1
    have HX2 : Hid (BD w2 w.heap.size 51 (.slice a n cap) ∧ Below w.heap.size w w2) := ⟨HX1.out.1.later hb2, HX1.out.2.trans (hb2.mono HX1.out.2.size)⟩
    have HCI : Hid (∀ W s q, RS 3 fcs W s q 0 L → Calls Try.prog 25 #[.agg #[s], .string x] W fun e w' => e = .returned (.tuple #[.string (F.fileT L x), .bool (F.fileO L x)]) ∧ Below W.heap.size W w') := fun W s q h => FileAt_any s q 0 L x W h hsm
    generalize F.fileT L x = T at *
    generalize F.fileO L x = R at *
    clear hb2 hr2 hu c1 HX1
    go_wp2_with fail
    refine hcS.mono ?_
    rintro e w3 ⟨rfl, hb3⟩
    have HX3 : Hid (BD w3 w.heap.size 51 (.slice a n cap) ∧ Below w.heap.size w w3) := ⟨HX2.out.1.later hb3, HX2.out.2.trans (hb3.mono HX2.out.2.size)⟩
    have c3 := HX3.out.1.cell
    clear hb3 HX2 hcS
    go_wp2_with fail
    refine (HTO.out _ HX3.out.2).mono ?_
    rintro e w4 ⟨u, rfl, hu, hb4⟩
    obtain ⟨a4, c4, p4, rfl, hr4, hp4⟩ := hu.shape
    have hb4' : Below w4.heap.size w4 (w4.alloc (.cells #[.slice a4 L.length c4] 26)) := (Below.refl _ _).alloc (Nat.le_refl _) _
    have b4 := HX3.out.2.trans (hb4.mono HX3.out.2.size)
    have HX4 : Hid (BD (w4.alloc (.cells #[.slice a4 L.length c4] 26)) w.heap.size 51 (.slice a n cap) ∧ Below w.heap.size w (w4.alloc (.cells #[.slice a4 L.length c4] 26)) ∧ BD (w4.alloc (.cells #[.slice a4 L.length c4] 26)) w4.heap.size 26 (.slice a4 L.length c4) ∧ RW 3 fcs (w4.alloc (.cells #[.slice a4 L.length c4] 26)) (.slice a4 L.length c4) p4 L) :=
      ⟨(HX3.out.1.later hb4).later hb4', b4.trans (hb4'.mono b4.size), BD.new w4 _ _, hr4.later hb4'⟩
    clear hu hb4 hb4' b4 hr4 HX3 c3
    go_wp2_with fail
    refine (HCI.out _ _ p4 HX4.out.2.2.2.1).mono ?_
    rintro e w5 ⟨rfl, hb5⟩
    have HX5 : Hid (BD w5 w.heap.size 51 (.slice a n cap) ∧ Below w.heap.size w w5 ∧ BD w5 w4.heap.size 26 (.slice a4 L.length c4) ∧ RW 3 fcs w5 (.slice a4 L.length c4) p4 L) := ⟨HX4.out.1.later hb5, HX4.out.2.1.trans (hb5.mono HX4.out.2.1.size), HX4.out.2.2.1.later hb5, HX4.out.2.2.2.later hb5⟩
    have d0 := HX5.out.1.cell
    have d1 := HX5.out.2.2.1.cell
    have HK : Hid (∀ W, Below w5.heap.size w5 W → W.cell? ⟨w.heap.size, 0, none⟩ = some (.slice a n cap) ∧ W.cell? ⟨w4.heap.size, 0, none⟩ = some (.slice a4 L.length c4)) := fun W hW => ⟨(HX5.out.1.later hW).cell, (HX5.out.2.2.1.later hW).cell⟩
    clear hb5 HX4 HCI
    go_wp2
    go_region_held3 (fun W => W.cell? ⟨w.heap.size, 0, none⟩ = some (.slice a n cap) ∧ W.cell? ⟨w4.heap.size, 0, none⟩ = some (.slice a4 L.length c4)) (first | go_keep | exact HK.out _ hb7 | exact HK.out _ hb6) ((first | (go_at_call 30; refine (HTO.out _ HX5.out.2.1.drew).mono ?_; rintro e w6 ⟨u6, rfl, hu6, hb6'⟩; obtain ⟨a6, c6, p6, rfl, hr6, hp6⟩ := hu6.shape; have hb6 : Below w5.heap.size w5 w6 := (Below.refl w5.heap.size w5).drew.trans hb6') | (go_at_call 31; refine (eqDisk_yes _ _ p4 0 p6 0 L _ (HX5.out.2.2.2.later hb6).1 hr6.1).mono ?_; rintro e w7 ⟨rfl, hb7'⟩; have hb7 : Below w5.heap.size w5 w7 := hb6.trans (hb7'.mono hb6.size))))
    go_wp2
    go_ret
    exact ⟨rfl, HX5.out.2.1.trans (hb7.mono HX5.out.2.1.size)⟩

end Go.Proofs.Ytbmlphlknolieaa
