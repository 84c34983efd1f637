/-
  The text of a file: the program's and the specification's answers, and the law's walk.
-/
import Derived.Test.YtadikpmecjjgjaaDoorAk
import Derived.Test.YtadikpmecjjgjaaDoorDl
namespace Go.Proofs.YtadikpmecjjgjaaDoor
open Go.RowKit Go.BigFrame Go.Sort
set_option linter.unusedVariables false
set_option linter.unusedSimpArgs false

def FaR (L : List Fl) (x : ByteArray) (B : Nat) (w : World) (i : Value) (wr : World) : Prop := ∃ m : Nat, m ≤ L.length ∧ i = .int .i64 m ∧ Hid (∀ j (h : j < L.length), j < m → L[j].n ≠ x) ∧ Below B w wr
theorem fa_step {L : List Fl} {x : ByteArray} {m : Nat} (hm : m < L.length) (h : ∀ j (h : j < L.length), j < m → L[j].n ≠ x) (h1 : L[m].n ≠ x) : ∀ j (h : j < L.length), j < m + 1 → L[j].n ≠ x := by
  intro j hj hlt
  rcases Nat.lt_or_ge j m with h2 | h2
  · exact h j hj h2
  · have : j = m := by omega
    subst this
    exact h1

set_option maxRecDepth 100000 in
set_option maxHeartbeats 1000000 in
theorem FileAt_any (v : Value) (ga oa : Nat) (L : List Fl) (x : ByteArray) (w : World) (hv : RS 3 fcs w v ga oa L) (hs : SmallF L) :
    Calls Tryd.prog 54 #[.agg #[v], .string x] w fun e w' => e = .returned (.tuple #[.string (F.fileT L x), .bool (F.fileO L x)]) ∧ Below w.heap.size w w' := by
  obtain ⟨T, hT⟩ : ∃ T, F.fileT L x = T := ⟨_, rfl⟩
  obtain ⟨R, hR⟩ : ∃ R, F.fileO L x = R := ⟨_, rfl⟩
  have hb0 : Below w.heap.size w (w.alloc (.cells #[v] 36)) := (Below.refl _ _).alloc (Nat.le_refl _) _
  have HV := hv.later hb0
  obtain ⟨a, cap, rfl, hl, hA, _⟩ := hv
  obtain ⟨n, hn⟩ : ∃ n, L.length = n := ⟨_, rfl⟩
  rw [hn] at hl hA HV hb0 ⊢
  have HB : Hid (Below w.heap.size w (w.alloc (.cells #[.slice a n cap] 36)) ∧ RS 3 fcs (w.alloc (.cells #[.slice a n cap] 36)) (.slice a n cap) ga oa L) := ⟨hb0, HV⟩
  have HA : Hid (0 < n → a = some ⟨ga, oa, none⟩) := fun h => (hA h).1
  have HR : Hid (F.fileT L x = T ∧ F.fileO L x = R) := ⟨hT, hR⟩
  have HS : Hid (SmallF L) := hs
  rw [hR, hT]
  clear hA HV hb0 hT hR hs
  go_enter Tryd.func54, Tryd.ntmps54
  go_wp2
  go_loopw [11] (fun i wr => FaR L x (w.alloc (.cells #[.slice a n cap] 36)).heap.size (w.alloc (.cells #[.slice a n cap] 36)) i wr) (fun i _ => n - (intOf i).toNat)
  case atStart => exact ⟨0, by omega, rfl, fun j _ h => by omega, Below.refl _ _⟩
  case round =>
    obtain ⟨m, hm, rfl, HU, hbel⟩ := hrel
    rw [hn] at hm
    by_cases hlt : m < n
    · have ea := HA.out (by omega)
      subst ea
      obtain ⟨c0, c1, c2⟩ := (HB.out.2.later hbel).file m (by omega)
      have i1 : (m : Int) < (n : Int) := by omega
      have i2 : (0 : Int) ≤ (m : Int) := by omega
      obtain ⟨X, hX⟩ : ∃ X, L[m]'(by omega) = X := ⟨_, rfl⟩
      rw [hX] at c0 c1 c2
      have HX : Hid (L[m]'(by omega) = X) := hX
      have hxs := (HS.out X (by rw [← hX]; exact List.getElem_mem _)).2
      have HW : Hid (Below (w.alloc (.cells #[.slice (some ⟨ga, oa, none⟩) n cap] 36)).heap.size (w.alloc (.cells #[.slice (some ⟨ga, oa, none⟩) n cap] 36)) (wr.alloc (.cells #[.string X.n, .string X.t, .int .i64 X.k] 85))) := hbel.alloc hbel.size _
      clear hX hbel HS
      by_cases hk : X.n = x
      · have hf := F.find_at (L := L) (x := x) (m := m) (by omega) HU.out (by rw [HX.out]; exact hk)
        rw [HX.out] at hf
        obtain ⟨rfl, rfl⟩ : T = X.t ∧ R = true := ⟨by rw [← HR.out.1]; unfold F.fileT; rw [hf], by rw [← HR.out.2]; unfold F.fileO; rw [hf]; rfl⟩
        have hbf := HB.out.1.trans (HW.out.mono HB.out.1.size)
        have q : (X.n.toList == x.toList) = true := by rw [hk]; simp
        clear HU HX HR HB HA hk hf
        go_wp2_with fail
        refine (strClone_any X.t _ hxs).mono ?_
        rintro e w2 ⟨rfl, hb2⟩
        have hb3 := hbf.trans (hb2.mono hbf.size)
        go_wp2
        try rw [Exit.noGoto_ret]
        go_ret2
        exact ⟨rfl, hb3⟩
      · have HU2 : Hid (∀ j (h : j < L.length), j < m + 1 → L[j].n ≠ x) := fa_step (by omega) HU.out (by rw [HX.out]; exact hk)
        have q : (X.n.toList == x.toList) = false := F.list_ne hk
        clear HU HX HR HB HA hk
        go_wp2
        go_roundw
        case rel => exact ⟨m + 1, by omega, by go_num, HU2, HW.out⟩
        case measure => simp [intOf]; omega
    · have hme : m = n := by omega
      have hf := F.find_no (L := L) (x := x) (fun j hj => HU.out j hj (by omega))
      obtain ⟨rfl, rfl⟩ : T = ⟨#[]⟩ ∧ R = false := ⟨by rw [← HR.out.1]; unfold F.fileT; rw [hf], by rw [← HR.out.2]; unfold F.fileO; rw [hf]; rfl⟩
      have hbf := HB.out.1.trans (hbel.mono HB.out.1.size)
      subst hme
      clear HU HR HB HA hf
      go_wp2
      go_ret2
      exact ⟨rfl, hbf⟩

set_option maxRecDepth 100000 in
set_option maxHeartbeats 1000000 in
theorem l06At_any (v : Value) (ga oa : Nat) (L : List Fl) (x : ByteArray) (w : World) (hv : RS 3 fcs w v ga oa L) :
    Calls Tryd.prog 50 #[.agg #[v], .string x] w fun e w' => ∃ r : Int, e = .returned (.int .i64 r) ∧ ((r = -1 ∧ F.find L x = none) ∨ ∃ (m : Nat) (h : m < L.length), r = (m : Int) ∧ F.find L x = some L[m]) ∧ Below w.heap.size w w' := by
  have hb0 : Below w.heap.size w (w.alloc (.cells #[v] 36)) := (Below.refl _ _).alloc (Nat.le_refl _) _
  have HV := hv.later hb0
  obtain ⟨a, cap, rfl, hl, hA, _⟩ := hv
  obtain ⟨n, hn⟩ : ∃ n, L.length = n := ⟨_, rfl⟩
  rw [hn] at hl hA HV hb0
  have HB : Hid (Below w.heap.size w (w.alloc (.cells #[.slice a n cap] 36)) ∧ RS 3 fcs (w.alloc (.cells #[.slice a n cap] 36)) (.slice a n cap) ga oa L) := ⟨hb0, HV⟩
  have HA : Hid (0 < n → a = some ⟨ga, oa, none⟩) := fun h => (hA h).1
  clear hA HV hb0
  rw [show Value.slice a L.length cap = Value.slice a n cap by rw [hn]]
  go_enter Tryd.func50, Tryd.ntmps50
  go_wp2
  go_loopw [5] (fun i wr => FaR L x (w.alloc (.cells #[.slice a n cap] 36)).heap.size (w.alloc (.cells #[.slice a n cap] 36)) i wr) (fun i _ => n - (intOf i).toNat)
  case atStart => exact ⟨0, by omega, rfl, fun j _ h => by omega, Below.refl _ _⟩
  case round =>
    obtain ⟨m, hm, rfl, HU, hbel⟩ := hrel
    rw [hn] at hm
    have d0 : wr.cell? ⟨w.heap.size, 0, none⟩ = some (.slice a n cap) := (hbel.cell (p := ⟨w.heap.size, 0, none⟩) (by simp)).trans (by simp)
    by_cases hlt : m < n
    · have ea := HA.out (by omega)
      subst ea
      obtain ⟨c0, c1, c2⟩ := (HB.out.2.later hbel).file m (by omega)
      have i1 : (m : Int) < (n : Int) := by omega
      have i2 : (0 : Int) ≤ (m : Int) := by omega
      obtain ⟨X, hX⟩ : ∃ X, L[m]'(by omega) = X := ⟨_, rfl⟩
      rw [hX] at c0 c1 c2
      have HX : Hid (L[m]'(by omega) = X) := hX
      clear hX c1 c2
      by_cases hk : X.n = x
      · have hf := F.find_at (L := L) (x := x) (m := m) (by omega) HU.out (by rw [HX.out]; exact hk)
        have hbf := HB.out.1.trans (hbel.mono HB.out.1.size)
        have HF : Hid (∃ (m' : Nat) (h : m' < L.length), (m : Int) = (m' : Int) ∧ F.find L x = some L[m']) := ⟨m, by omega, rfl, hf⟩
        have q : (X.n.toList == x.toList) = true := by rw [hk]; simp
        clear HU HX HB HA hk hf
        go_wp2
        try rw [Exit.noGoto_ret]
        go_ret
        exact ⟨_, rfl, .inr HF.out, hbf⟩
      · have HU2 : Hid (∀ j (h : j < L.length), j < m + 1 → L[j].n ≠ x) := fa_step (by omega) HU.out (by rw [HX.out]; exact hk)
        have q : (X.n.toList == x.toList) = false := F.list_ne hk
        clear HU HX HB HA hk
        go_wp2
        go_roundw
        case rel => exact ⟨m + 1, by omega, by go_num, HU2, hbel⟩
        case measure => simp [intOf]; omega
    · have hme : m = n := by omega
      have hf := F.find_no (L := L) (x := x) (fun j hj => HU.out j hj (by omega))
      have hbf := HB.out.1.trans (hbel.mono HB.out.1.size)
      subst hme
      have HF : Hid (F.find L x = none) := hf
      clear HU HB HA hf
      go_wp2
      go_ret
      exact ⟨_, rfl, .inl ⟨rfl, HF.out⟩, hbf⟩

set_option maxRecDepth 100000 in
set_option maxHeartbeats 1000000 in
theorem sFileAt_any (v : Value) (ga oa : Nat) (L : List Fl) (x : ByteArray) (w : World) (hv : RS 3 fcs w v ga oa L) :
    Calls Tryd.prog 32 #[.agg #[v], .string x] w fun e w' => e = .returned (.tuple #[.string (F.fileT L x), .bool (F.fileO L x)]) ∧ Below w.heap.size w w' := by
  have hb0 : Below w.heap.size w (w.alloc (.cells #[v] 36)) := (Below.refl _ _).alloc (Nat.le_refl _) _
  have HC := l06At_any v ga oa L x _ (hv.later hb0)
  have HV := hv
  obtain ⟨a, cap, rfl, hl, hA, hcc⟩ := hv
  clear hcc
  have HA : Hid (0 < L.length → a = some ⟨ga, oa, none⟩) := fun h => (hA h).1
  clear hA
  cases hf : F.find L x with
  | none =>
    have e1 : F.fileT L x = ⟨#[]⟩ := by unfold F.fileT; rw [hf]
    have e2 : F.fileO L x = false := by unfold F.fileO; rw [hf]; rfl
    rw [e1, e2]
    go_enter Tryd.func32, Tryd.ntmps32
    go_wp2_with fail
    refine HC.mono ?_
    rintro e w1 ⟨r, rfl, hr, hb1⟩
    obtain rfl : r = -1 := by
      rcases hr with ⟨h, _⟩ | ⟨m, h, _, h2⟩
      · exact h
      · rw [hf] at h2; cases h2
    have hb2 := hb0.trans (hb1.mono hb0.size)
    clear hr HC HV HA
    go_wp2
    go_ret2
    exact ⟨rfl, hb2⟩
  | some X =>
    have e1 : F.fileT L x = X.t := by unfold F.fileT; rw [hf]
    have e2 : F.fileO L x = true := by unfold F.fileO; rw [hf]; rfl
    rw [e1, e2]
    go_enter Tryd.func32, Tryd.ntmps32
    go_wp2_with fail
    refine HC.mono ?_
    rintro e w1 ⟨r, rfl, hr, hb1⟩
    obtain ⟨m, hm, rfl, hmX⟩ : ∃ (m : Nat) (h : m < L.length), r = (m : Int) ∧ L[m] = X := by
      rcases hr with ⟨_, h⟩ | ⟨m, h, h1, h2⟩
      · rw [hf] at h; cases h
      · rw [hf] at h2; exact ⟨m, h, h1, (Option.some.inj h2).symm⟩
    have hb2 := hb0.trans (hb1.mono hb0.size)
    obtain ⟨c0, c1, c2⟩ := ((HV.later hb0).later hb1).file m hm
    rw [hmX] at c0 c1 c2
    have d0 : w1.cell? ⟨w.heap.size, 0, none⟩ = some (.slice a L.length cap) := (hb1.cell (p := ⟨w.heap.size, 0, none⟩) (by simp)).trans (by simp)
    have ea := HA.out (by omega)
    subst ea
    have i1 : (m : Int) < (L.length : Int) := by omega
    have i2 : (0 : Int) ≤ (m : Int) := by omega
    clear hr HC HV HA hmX
    go_wp2
    go_ret2
    exact ⟨rfl, hb2⟩

end Go.Proofs.YtadikpmecjjgjaaDoor
