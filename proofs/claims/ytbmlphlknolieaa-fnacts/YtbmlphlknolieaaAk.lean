/-
  Whether all of a disk is kept, and the text of a file: the program's and the specification's answers.
-/
import Derived.Test.YtbmlphlknolieaaPkI
import Derived.Test.YtbmlphlknolieaaShelf
namespace Go.Proofs.Ytbmlphlknolieaa
open Go.RowKit Go.BigFrame Go.Sort
set_option linter.unusedVariables false
set_option linter.unusedSimpArgs false

namespace F
open Classical in
noncomputable def keptB (L : List Fl) : Bool := decide (DOk L ∧ ∀ f ∈ L, f.k = f.t.size)
theorem keptB_iff {L : List Fl} : keptB L = true ↔ DOk L ∧ ∀ f ∈ L, f.k = f.t.size := by simp [keptB]
theorem keptB_no {L : List Fl} : keptB L = false ↔ ¬ (DOk L ∧ ∀ f ∈ L, f.k = f.t.size) := by simp [keptB]
theorem find_at {L : List Fl} {x : ByteArray} : ∀ {m : Nat} (hm : m < L.length), (∀ j (h : j < L.length), j < m → L[j].n ≠ x) → L[m].n = x → find L x = some L[m] := by
  induction L with
  | nil => intro m hm; simp at hm
  | cons f r ih =>
    intro m hm h1 h2
    unfold find
    rw [List.find?_cons]
    cases m with
    | zero =>
      have : f.n = x := h2
      simp [this]
    | succ m =>
      have h0 := h1 0 (by simp) (by omega)
      rw [decide_eq_false (show ¬ f.n = x from h0)]
      exact ih (by simpa using hm) (fun j hj hlt => h1 (j + 1) (by simpa using hj) (by omega)) h2
theorem find_no {L : List Fl} {x : ByteArray} (h : ∀ j (h : j < L.length), L[j].n ≠ x) : find L x = none := by
  unfold find
  rw [List.find?_eq_none]
  intro f hf
  obtain ⟨j, hj, rfl⟩ := List.getElem_of_mem hf
  simpa using h j hj
theorem list_ne {a b : ByteArray} (h : a ≠ b) : (a.toList == b.toList) = false := by
  cases hb : (a.toList == b.toList)
  · rfl
  · exact absurd (toList_inj (by simpa using hb)) h
/-- what FileAt answers -/
def fileT (L : List Fl) (x : ByteArray) : ByteArray := match find L x with | some f => f.t | none => ⟨#[]⟩
def fileO (L : List Fl) (x : ByteArray) : Bool := (find L x).isSome
end F

theorem strClone_any (s : ByteArray) (w : World) (hs : s.size ≤ 1048576) : Calls Try.prog 64 #[.string s] w fun e w' => e = .returned (.string s) ∧ Below w.heap.size w w' := by
  go_enter Try.func64, Try.ntmps64
  go_wp2_with fail
  refine (Try.stringslite_Clone s _ (by omega)).mono ?_
  rintro e w1 ⟨rfl, hb⟩
  go_wp2
  go_ret
  exact ⟨rfl, hb⟩

theorem allKept_any (f : Fl) (w : World) : Calls Try.prog 54 #[.agg #[.string f.n, .string f.t, .int .i64 f.k]] w fun e w' => e = .returned (.bool (decide (f.k = f.t.size))) ∧ Below w.heap.size w w' := by
  obtain ⟨x, t, k⟩ := f
  have hb : Below w.heap.size w (w.alloc (.cells #[.string x, .string t, .int .i64 k] 36)) := (Below.refl _ _).alloc (Nat.le_refl _) _
  go_enter Try.func54, Try.ntmps54
  go_wp2
  go_ret
  exact ⟨rfl, hb⟩

def KpR (L : List Fl) (B : Nat) (w : World) (i : Value) (wr : World) : Prop := ∃ m : Nat, m ≤ L.length ∧ i = .int .i64 m ∧ Hid (∀ j (h : j < L.length), j < m → L[j].k = L[j].t.size) ∧ Below B w wr
theorem kp_step {L : List Fl} {m : Nat} (hm : m < L.length) (h : ∀ j (h : j < L.length), j < m → L[j].k = L[j].t.size) (h1 : L[m].k = L[m].t.size) : ∀ j (h : j < L.length), j < m + 1 → L[j].k = L[j].t.size := by
  intro j hj hlt
  rcases Nat.lt_or_ge j m with h2 | h2
  · exact h j hj h2
  · have : j = m := by omega
    subst this
    exact h1

set_option maxRecDepth 100000 in
set_option maxHeartbeats 1000000 in
theorem AllKept_any (v : Value) (ga oa : Nat) (L : List Fl) (w : World) (hv : RS 3 fcs w v ga oa L) :
    Calls Try.prog 18 #[.agg #[v]] w fun e w' => e = .returned (.bool (F.keptB L)) ∧ Below w.heap.size w w' := by
  obtain ⟨R, hR⟩ : ∃ R, F.keptB L = R := ⟨_, rfl⟩
  have hb0 : Below w.heap.size w (w.alloc (.cells #[v] 26)) := (Below.refl _ _).alloc (Nat.le_refl _) _
  have HC := DiskOk_any v ga oa L _ (hv.later hb0)
  have HV := hv
  obtain ⟨a, cap, rfl, hl, hA, _⟩ := hv
  obtain ⟨n, hn⟩ : ∃ n, L.length = n := ⟨_, rfl⟩
  rw [hn] at hl hA HV HC hb0 ⊢
  have HB : Hid (Below w.heap.size w (w.alloc (.cells #[.slice a n cap] 26)) ∧ RS 3 fcs w (.slice a n cap) ga oa L) := ⟨hb0, HV⟩
  have HA : Hid (0 < n → a = some ⟨ga, oa, none⟩) := fun h => (hA h).1
  rw [hR]
  clear hA HV hb0
  cases hd : F.diskB L
  · obtain rfl : R = false := by rw [← hR, F.keptB_no]; exact fun h => F.diskB_no.1 hd h.1
    rw [hd] at HC
    clear hR
    go_enter Try.func18, Try.ntmps18
    go_wp2_with fail
    refine HC.mono ?_
    rintro e w1 ⟨rfl, hb1⟩
    have hb2 := HB.out.1.trans (hb1.mono HB.out.1.size)
    clear HC HB HA
    go_wp2
    go_ret
    exact ⟨rfl, hb2⟩
  have HR : Hid (F.keptB L = R ∧ F.DOk L) := ⟨hR, F.diskB_iff.1 hd⟩
  rw [hd] at HC
  clear hR hd
  go_enter Try.func18, Try.ntmps18
  go_wp2_with fail
  refine HC.mono ?_
  rintro e w1 ⟨rfl, hb1⟩
  have d1 : w1.cell? ⟨w.heap.size, 0, none⟩ = some (.slice a n cap) := (hb1.cell (p := ⟨w.heap.size, 0, none⟩) (by simp)).trans (by simp)
  have HB1 : Hid (Below w.heap.size w w1 ∧ RS 3 fcs w1 (.slice a n cap) ga oa L) := ⟨HB.out.1.trans (hb1.mono HB.out.1.size), (HB.out.2.later HB.out.1).later hb1⟩
  clear hb1 HC HB
  go_wp2
  go_loopw [11] (fun i wr => KpR L w1.heap.size w1 i wr) (fun i _ => n - (intOf i).toNat)
  case atStart => exact ⟨0, by omega, rfl, fun j _ h => by omega, Below.refl _ _⟩
  case round =>
    obtain ⟨m, hm, rfl, HU, hbel⟩ := hrel
    rw [hn] at hm
    by_cases hlt : m < n
    · have ea := HA.out (by omega)
      subst ea
      obtain ⟨c0, c1, c2⟩ := (HB1.out.2.later hbel).file m (by omega)
      have i1 : (m : Int) < (n : Int) := by omega
      have i2 : (0 : Int) ≤ (m : Int) := by omega
      obtain ⟨X, hX⟩ : ∃ X, L[m]'(by omega) = X := ⟨_, rfl⟩
      rw [hX] at c0 c1 c2
      have HX : Hid (L[m]'(by omega) = X) := hX
      have HW : Hid (Below w1.heap.size w1 (wr.alloc (.cells #[.string X.n, .string X.t, .int .i64 X.k] 36))) := hbel.alloc hbel.size _
      have hcl := allKept_any X (wr.alloc (.cells #[.string X.n, .string X.t, .int .i64 X.k] 36))
      clear hX hbel d1
      by_cases hk : X.k = X.t.size
      · have HU2 : Hid (∀ j (h : j < L.length), j < m + 1 → L[j].k = L[j].t.size) := kp_step (by omega) HU.out (by rw [HX.out]; exact hk)
        rw [decide_eq_true hk] at hcl
        clear HU HX HR HB1 HA hk
        go_wp2_with fail
        refine hcl.mono ?_
        rintro e w2 ⟨rfl, hb2⟩
        have hb3 := HW.out.trans (hb2.mono HW.out.size)
        go_wp2
        go_roundw
        case rel => exact ⟨m + 1, by omega, by go_num, HU2, hb3⟩
        case measure => simp [intOf]; omega
      · obtain rfl : R = false := by
          rw [← HR.out.1, F.keptB_no]
          exact fun h => hk (by have := h.2 _ (List.getElem_mem (show m < L.length by omega)); rw [HX.out] at this; exact this)
        rw [decide_eq_false hk] at hcl
        have hbf := HB1.out.1
        clear HU HX HR HB1 HA hk
        go_wp2_with fail
        refine hcl.mono ?_
        rintro e w2 ⟨rfl, hb2⟩
        have hb3 := hbf.trans ((HW.out.trans (hb2.mono HW.out.size)).mono hbf.size)
        go_wp2
        try rw [Exit.noGoto_ret]
        go_ret
        exact ⟨rfl, hb3⟩
    · have hme : m = n := by omega
      obtain rfl : R = true := by
        rw [← HR.out.1, F.keptB_iff]
        exact ⟨HR.out.2, fun f hf => by
          obtain ⟨j, hj, rfl⟩ := List.getElem_of_mem hf
          exact HU.out j hj (by omega)⟩
      have hbf := HB1.out.1.trans (hbel.mono HB1.out.1.size)
      subst hme
      clear HU HR HB1 HA
      go_wp2
      go_ret
      exact ⟨rfl, hbf⟩

set_option maxRecDepth 100000 in
set_option maxHeartbeats 1000000 in
theorem sAllKept_any (v : Value) (ga oa : Nat) (L : List Fl) (w : World) (hv : RS 3 fcs w v ga oa L) :
    Calls Try.prog 46 #[.agg #[v]] w fun e w' => e = .returned (.bool (F.keptB L)) ∧ Below w.heap.size w w' := by
  obtain ⟨R, hR⟩ : ∃ R, F.keptB L = R := ⟨_, rfl⟩
  have hb0 : Below w.heap.size w (w.alloc (.cells #[v] 26)) := (Below.refl _ _).alloc (Nat.le_refl _) _
  have HC := sDiskOk_any v ga oa L _ (hv.later hb0)
  have HV := hv
  obtain ⟨a, cap, rfl, hl, hA, _⟩ := hv
  obtain ⟨n, hn⟩ : ∃ n, L.length = n := ⟨_, rfl⟩
  rw [hn] at hl hA HV HC hb0 ⊢
  have HB : Hid (Below w.heap.size w (w.alloc (.cells #[.slice a n cap] 26)) ∧ RS 3 fcs w (.slice a n cap) ga oa L) := ⟨hb0, HV⟩
  have HA : Hid (0 < n → a = some ⟨ga, oa, none⟩) := fun h => (hA h).1
  rw [hR]
  clear hA HV hb0
  cases hd : F.diskB L
  · obtain rfl : R = false := by rw [← hR, F.keptB_no]; exact fun h => F.diskB_no.1 hd h.1
    rw [hd] at HC
    clear hR
    go_enter Try.func46, Try.ntmps46
    go_wp2_with fail
    refine HC.mono ?_
    rintro e w1 ⟨rfl, hb1⟩
    have hb2 := HB.out.1.trans (hb1.mono HB.out.1.size)
    clear HC HB HA
    go_wp2
    go_ret
    exact ⟨rfl, hb2⟩
  have HR : Hid (F.keptB L = R ∧ F.DOk L) := ⟨hR, F.diskB_iff.1 hd⟩
  rw [hd] at HC
  clear hR hd
  go_enter Try.func46, Try.ntmps46
  go_wp2_with fail
  refine HC.mono ?_
  rintro e w1 ⟨rfl, hb1⟩
  have hws : w.heap.size < w1.heap.size := by have := hb1.size; simp at this; omega
  have HD : Hid (∀ W, Below w1.heap.size w1 W → W.cell? ⟨w.heap.size, 0, none⟩ = some (.slice a n cap)) := fun W hW => (hW.cell (p := ⟨w.heap.size, 0, none⟩) hws).trans ((hb1.cell (p := ⟨w.heap.size, 0, none⟩) (by simp)).trans (by simp))
  have HB1 : Hid (Below w.heap.size w w1 ∧ RS 3 fcs w1 (.slice a n cap) ga oa L) := ⟨HB.out.1.trans (hb1.mono HB.out.1.size), (HB.out.2.later HB.out.1).later hb1⟩
  clear hb1 HC HB hws
  go_wp2
  go_loopw [3] (fun i wr => KpR L w1.heap.size w1 i wr) (fun i _ => n - (intOf i).toNat)
  case atStart => exact ⟨0, by omega, rfl, fun j _ h => by omega, Below.refl _ _⟩
  case round =>
    obtain ⟨m, hm, rfl, HU, hbel⟩ := hrel
    rw [hn] at hm
    have d0 := HD.out _ hbel
    by_cases hlt : m < n
    · have ea := HA.out (by omega)
      subst ea
      obtain ⟨c0, c1, c2⟩ := (HB1.out.2.later hbel).file m (by omega)
      have i1 : (m : Int) < (n : Int) := by omega
      have i2 : (0 : Int) ≤ (m : Int) := by omega
      obtain ⟨X, hX⟩ : ∃ X, L[m]'(by omega) = X := ⟨_, rfl⟩
      rw [hX] at c0 c1 c2
      have HX : Hid (L[m]'(by omega) = X) := hX
      have hle : X.k ≤ X.t.size := by
        have := (F.flB_iff.1 (HR.out.2.2.1 _ (List.getElem_mem (show m < L.length by omega)))).2.2.2
        rw [hX] at this
        exact this
      clear hX c0
      by_cases hk : X.k = X.t.size
      · have HU2 : Hid (∀ j (h : j < L.length), j < m + 1 → L[j].k = L[j].t.size) := kp_step (by omega) HU.out (by rw [HX.out]; exact hk)
        have q : ¬ X.k < (X.t.size : Int) := by omega
        have q' : decide (X.k < (X.t.size : Int)) = false := decide_eq_false q
        clear HU HX HR HB1 HA HD hk
        go_wp2
        have kq0 := cell_regrown (w := wr) c1
        have kq1 := cell_regrown (w := wr) c2
        have kq2 := cell_regrown (w := wr) d0
        refine wp_region_quiet_below (by kernel_rfl) (by kernel_rfl) ?_
        repeat (go_big_quiet_step (fail))
        refine wpQuiet_nil ?_
        rintro _ ⟨⟨dq, osq⟩, rfl⟩
        have hb6 := below_regrown (wr) dq osq
        generalize grow (redrawn (wr) dq) osq = w6 at *
        clear kq0 kq1 kq2
        have hb3 := hbel.trans (hb6.mono hbel.size)
        go_wp2
        go_roundw
        case rel => exact ⟨m + 1, by omega, by go_num, HU2, hb3⟩
        case measure => simp [intOf]; omega
      · obtain rfl : R = false := by
          rw [← HR.out.1, F.keptB_no]
          exact fun h => hk (by have := h.2 _ (List.getElem_mem (show m < L.length by omega)); rw [HX.out] at this; exact this)
        have q : X.k < (X.t.size : Int) := by omega
        have q' : decide (X.k < (X.t.size : Int)) = true := decide_eq_true q
        have hbf := HB1.out.1
        clear HU HX HR HB1 HA HD hk
        go_wp2
        have kq0 := cell_regrown (w := wr) c1
        have kq1 := cell_regrown (w := wr) c2
        have kq2 := cell_regrown (w := wr) d0
        refine wp_region_quiet_below (by kernel_rfl) (by kernel_rfl) ?_
        repeat (go_big_quiet_step (fail))
        refine wpQuiet_nil ?_
        rintro _ ⟨⟨dq, osq⟩, rfl⟩
        have hb6 := below_regrown (wr) dq osq
        generalize grow (redrawn (wr) dq) osq = w6 at *
        clear kq0 kq1 kq2
        have hb3 := hbf.trans ((hbel.trans (hb6.mono hbel.size)).mono hbf.size)
        go_wp2
        try rw [Exit.noGoto_ret]
        go_ret
        exact ⟨rfl, hb3⟩
    · have hme : m = n := by omega
      obtain rfl : R = true := by
        rw [← HR.out.1, F.keptB_iff]
        exact ⟨HR.out.2, fun f hf => by
          obtain ⟨j, hj, rfl⟩ := List.getElem_of_mem hf
          exact HU.out j hj (by omega)⟩
      have hbf := HB1.out.1.trans (hbel.mono HB1.out.1.size)
      subst hme
      clear HU HR HB1 HA HD
      go_wp2
      go_ret
      exact ⟨rfl, hbf⟩

end Go.Proofs.Ytbmlphlknolieaa
