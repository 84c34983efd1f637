/-
  Rows of numbers that a law takes over, compares and marks; a disk marked, and held against its marks.
-/
import Derived.Test.YtbmlphlknolieaaLs
namespace Go.Proofs.Ytbmlphlknolieaa
open Go.RowKit Go.BigFrame Go.Sort
set_option linter.unusedVariables false
set_option linter.unusedSimpArgs false

/-- a row of numbers that may be written, from the head of block g on -/
def IW (w : World) (v : Value) (g : Nat) (l : List Int) : Prop := ∃ a cap, v = .slice a l.length cap ∧ l.length ≤ 1100000 ∧ (0 < l.length → a = some ⟨g, 0, none⟩ ∧ g < w.heap.size) ∧ ∀ j (h : j < l.length), w.cell? ⟨g, j, none⟩ = some (.int .i64 l[j]) ∧ w.frozen? ⟨g, j, none⟩ = false
theorem IW.rs {w : World} {v : Value} {g : Nat} {l : List Int} (h : IW w v g l) : RS 1 ics w v g 0 l := by
  obtain ⟨a, c, hv, hl, h0, hc⟩ := h
  exact ⟨a, c, hv, hl, h0, fun j hj => range1 (by rw [Nat.zero_add, Nat.mul_one]; exact (hc j hj).1)⟩
theorem IW.later {w w' : World} {v : Value} {g : Nat} {l : List Int} (h : IW w v g l) (hb : Below w.heap.size w w') : IW w' v g l := by
  obtain ⟨a, c, hv, hl, h0, hc⟩ := h
  exact ⟨a, c, hv, hl, fun hp => ⟨(h0 hp).1, Nat.lt_of_lt_of_le (h0 hp).2 hb.size⟩, fun j hj => by
    have he := hb.block g (h0 (by omega)).2
    rw [cell_kept he, frozen_kept he]
    exact hc j hj⟩
theorem IW.grown {w w' : World} {v : Value} {g : Nat} {l : List Int} {row : Option Nat} (h : IW w v g l) (hg : w.grownBy w' row) (hne : 0 < l.length → some g ≠ row) : IW w' v g l := by
  obtain ⟨a, c, hv, hl, h0, hc⟩ := h
  exact ⟨a, c, hv, hl, fun hp => ⟨(h0 hp).1, Nat.lt_of_lt_of_le (h0 hp).2 hg.size⟩, fun j hj => by
    have he := hg.block g (h0 (by omega)).2 (hne (by omega))
    rw [cell_kept he, frozen_kept he]
    exact hc j hj⟩
theorem IW.lt {w : World} {v : Value} {g : Nat} {l : List Int} (h : IW w v g l) : 0 < l.length → g < w.heap.size := by
  obtain ⟨a, c, hv, hl, h0, hc⟩ := h
  exact fun hp => (h0 hp).2

theorem made_ints (n : Nat) (h : n ≤ 1100000) (W : World) : ∃ w', (Instr.makeSlice 28 (.int .i64 (n : Int)) (.int .i64 (n : Int))).run Try.prog W = .ok (.slice (some ⟨W.heap.size, 0, none⟩) n n) w' ∧ (∀ j, j < n → (∃ u, w'.cell? ⟨W.heap.size, j, none⟩ = some u) ∧ w'.frozen? ⟨W.heap.size, j, none⟩ = false) ∧ Below W.heap.size W w' ∧ w'.heap.size = W.heap.size + 1 := by
  obtain ⟨i0, hi, hz0, hz1, hz2⟩ := info_parts Try.info3
  have h1 := run_make (P := Try.prog) W 28 3 i0 _ Try.underlying28 hi hz0 .i64 .i64 (n : Int) (n : Int) (by omega) (by omega) (by rw [hz2]; omega) (by omega)
  refine ⟨_, by simpa using h1, fun j hj => ?_, (Below.refl _ _).alloc (Nat.le_refl _) _, by simp⟩
  have hg := Go.heap_alloc_new W (.cells (madeCells (Value.int .i64 0).cells (n * i0.size)) 3)
  refine ⟨?_, by unfold World.frozen?; simp only [hg]; simp⟩
  rw [cell_of_row _ W.heap.size j _ 3 (0, 0) hg, Array.getElem?_eq_getElem (by rw [size_madeCells, hz1]; omega)]
  exact ⟨_, rfl⟩

def ToI (w : World) (l : List Int) (i : Value) (wr : World) : Prop := ∃ m : Nat, m ≤ l.length ∧ i = .int .i64 m ∧ Hid ((∀ j (h : j < l.length), j < m → wr.cell? ⟨w.heap.size, j, none⟩ = some (.int .i64 l[j])) ∧ (∀ j, j < l.length → (∃ u, wr.cell? ⟨w.heap.size, j, none⟩ = some u) ∧ wr.frozen? ⟨w.heap.size, j, none⟩ = false) ∧ Below w.heap.size w wr ∧ w.heap.size < wr.heap.size)

set_option maxRecDepth 100000 in
set_option maxHeartbeats 400000 in
theorem toIntS_any (v : Value) (ga oa : Nat) (l : List Int) (w : World) (hv : RS 1 ics w v ga oa l) :
    Calls Try.prog 43 #[v] w fun e w' => ∃ s g, e = .returned s ∧ IW w' s g l ∧ w.heap.size ≤ g ∧ Below w.heap.size w w' := by
  have HV : Hid (RS 1 ics w v ga oa l) := hv
  obtain ⟨a, cap, rfl, hl, hA, _⟩ := hv
  obtain ⟨n, hn⟩ : ∃ n, l.length = n := ⟨_, rfl⟩
  obtain ⟨w2, hmk, hib, hb2, hs2⟩ := made_ints n (by omega) w
  have HST : Hid (ToI w l (.int .i64 0) w2) := ⟨0, by omega, rfl, fun j _ h => by omega, by rw [hn]; exact hib, hb2, by omega⟩
  have HA : Hid (0 < n → a = some ⟨ga, oa, none⟩) := by rw [← hn]; exact fun h => (hA h).1
  rw [hn] at hl ⊢
  clear hib hb2 hs2 hA
  go_enter Try.func43, Try.ntmps43
  go_wp2
  clear hmk
  go_loopw [4] (fun i wr => ToI w l i wr) (fun i _ => n - (intOf i).toNat)
  case atStart => exact HST.out
  case round =>
    obtain ⟨m, hm, rfl, HI⟩ := hrel
    clear HST
    rw [hn] at hm
    by_cases hlt : m < n
    · have ea := HA.out (by omega)
      subst ea
      have c1 := (HV.out.later HI.out.2.2.1).int m (by omega)
      obtain ⟨⟨o0, x0⟩, f0⟩ := HI.out.2.1 m (by omega)
      obtain ⟨X, hX⟩ : ∃ X, l[m]'(by omega) = X := ⟨_, rfl⟩
      rw [hX] at c1
      have HJ : Hid ((∀ j (h : j < l.length), j < m + 1 → (wr.setCell ⟨w.heap.size, m, none⟩ (.int .i64 X)).cell? ⟨w.heap.size, j, none⟩ = some (.int .i64 l[j])) ∧ (∀ j, j < l.length → (∃ u, (wr.setCell ⟨w.heap.size, m, none⟩ (.int .i64 X)).cell? ⟨w.heap.size, j, none⟩ = some u) ∧ (wr.setCell ⟨w.heap.size, m, none⟩ (.int .i64 X)).frozen? ⟨w.heap.size, j, none⟩ = false) ∧ Below w.heap.size w (wr.setCell ⟨w.heap.size, m, none⟩ (.int .i64 X)) ∧ w.heap.size < (wr.setCell ⟨w.heap.size, m, none⟩ (.int .i64 X)).heap.size) := by
        refine ⟨fun j hj hjl => ?_, fun j hj => ⟨?_, by rw [World.frozen?_setCell]; exact (HI.out.2.1 j hj).2⟩, HI.out.2.2.1.setCell (p := ⟨w.heap.size, m, none⟩) (Nat.le_refl _) _, by simpa using HI.out.2.2.2⟩
        · rcases Nat.lt_or_ge j m with h | h
          · rw [set_else (by omega)]; exact HI.out.1 j hj h
          · have : j = m := by omega
            subst this
            rw [hX]; exact set_here x0 f0 _
        · by_cases h : j = m
          · subst h; exact ⟨_, set_here x0 f0 _⟩
          · rw [set_else h]; exact (HI.out.2.1 j hj).1
      have i1 : (m : Int) < (n : Int) := by omega
      have i2 : (0 : Int) ≤ (m : Int) := by omega
      clear HI HA HV hX
      go_wp2
      go_roundw
      case rel => exact ⟨m + 1, by omega, by go_num, HJ⟩
      case measure => simp [intOf]; omega
    · have hme : n = m := by omega
      subst hme
      clear HA HV
      go_wp2
      go_ret
      exact ⟨.slice (some ⟨w.heap.size, 0, none⟩) n n, w.heap.size, rfl, ⟨some ⟨w.heap.size, 0, none⟩, n, by rw [hn], by omega, fun _ => ⟨rfl, HI.out.2.2.2⟩, fun j hj => ⟨HI.out.1 j hj (by omega), (HI.out.2.1 j hj).2⟩⟩, Nat.le_refl _, HI.out.2.2.1⟩

set_option maxRecDepth 100000 in
set_option maxHeartbeats 400000 in
theorem eqIntS_yes (u v : Value) (ga oa gb ob : Nat) (l : List Int) (w : World) (hu : RS 1 ics w u ga oa l) (hv : RS 1 ics w v gb ob l) :
    Calls Try.prog 44 #[u, v] w fun e w' => e = .returned (.bool true) ∧ Below w.heap.size w w' := by
  have HU : Hid (RS 1 ics w u ga oa l) := hu
  have HV : Hid (RS 1 ics w v gb ob l) := hv
  obtain ⟨a, cap, rfl, hl, hA, _⟩ := hu
  obtain ⟨b, cap2, rfl, _, hB, _⟩ := hv
  obtain ⟨n, hn⟩ : ∃ n, l.length = n := ⟨_, rfl⟩
  have HA : Hid (0 < n → a = some ⟨ga, oa, none⟩ ∧ b = some ⟨gb, ob, none⟩) := by rw [← hn]; exact fun h => ⟨(hA h).1, (hB h).1⟩
  rw [hn] at hl ⊢
  clear hA hB
  go_enter Try.func44, Try.ntmps44
  go_wp2
  go_loopw [5] (fun i wr => EfR n w i wr) (fun i _ => n - (intOf i).toNat)
  case atStart => exact ⟨0, by omega, rfl, Below.refl _ _⟩
  case round =>
    obtain ⟨m, hm, rfl, hbel⟩ := hrel
    by_cases hlt : m < n
    · obtain ⟨ea, eb⟩ := HA.out (by omega)
      subst ea
      subst eb
      have c0 := (HU.out.later hbel).int m (by omega)
      have e0 := (HV.out.later hbel).int m (by omega)
      generalize l[m]'(by omega) = X at *
      have i1 : (m : Int) < (n : Int) := by omega
      have i2 : (0 : Int) ≤ (m : Int) := by omega
      clear HU HV HA
      go_wp2
      have kq0 := cell_regrown (w := wr) c0
      have kq1 := cell_regrown (w := wr) e0
      refine wp_region_quiet_below (by kernel_rfl) (by kernel_rfl) ?_
      repeat (go_big_quiet_step (fail))
      refine wpQuiet_nil ?_
      rintro _ ⟨⟨dq, osq⟩, rfl⟩
      have hb6 := below_regrown (wr) dq osq
      generalize grow (redrawn (wr) dq) osq = w6 at *
      clear kq0 kq1
      go_wp2
      go_roundw
      case rel => exact ⟨m + 1, by omega, by go_num, hbel.trans (hb6.mono hbel.size)⟩
      case measure => simp [intOf]; omega
    · have hme : n = m := by omega
      subst hme
      clear HU HV HA
      go_wp2
      go_ret
      exact ⟨rfl, hbel⟩

def MiR (w : World) (g n k0 : Nat) (x i : Value) (wr : World) : Prop := ∃ m : Nat, m ≤ n ∧ i = .int .i64 m ∧ x = .int .i64 (k0 + m : Nat) ∧ Hid ((∀ j, j < n → (∃ u, wr.cell? ⟨g, j, none⟩ = some u) ∧ wr.frozen? ⟨g, j, none⟩ = false) ∧ w.grownBy wr (rowF g n))

set_option maxRecDepth 100000 in
set_option maxHeartbeats 400000 in
theorem markIntS_row (v : Value) (g : Nat) (l : List Int) (x : Int) (k0 : Nat) (w : World) (hx : x = (k0 : Int)) (h : IW w v g l) (hk : k0 ≤ 10000000) :
    Calls Try.prog 45 #[v, .int .i64 x] w fun e w' => e = .returned (.int .i64 (k0 + l.length : Nat)) ∧ w.grownBy w' (rowF g l.length) := by
  subst hx
  obtain ⟨a, cap, rfl, hl, hA, hc⟩ := h
  obtain ⟨n, hn⟩ : ∃ n, l.length = n := ⟨_, rfl⟩
  have HA : Hid (0 < n → a = some ⟨g, 0, none⟩) := by rw [← hn]; exact fun h => (hA h).1
  have HST : Hid (MiR w g n k0 (.int .i64 k0) (.int .i64 0) w) := ⟨0, by omega, rfl, rfl, fun j hj => ⟨⟨_, (hc j (by omega)).1⟩, (hc j (by omega)).2⟩, ⟨rfl, rfl, rfl, Nat.le_refl _, fun _ _ _ => rfl⟩⟩
  rw [hn] at hl
  rw [hn]
  clear hA hc
  go_enter Try.func45, Try.ntmps45
  go_wp2
  go_loopw [1, 5] (fun x i wr => MiR w g n k0 x i wr) (fun _ i _ => n - (intOf i).toNat)
  case atStart => exact HST.out
  case round =>
    obtain ⟨m, hm, rfl, rfl, HI⟩ := hrel
    clear HST
    by_cases hlt : m < n
    · have ea := HA.out (by omega)
      subst ea
      obtain ⟨⟨o0, x0⟩, f0⟩ := HI.out.1 m (by omega)
      have HJ : Hid ((∀ j, j < n → (∃ u, (wr.setCell ⟨g, m, none⟩ (.int .i64 (k0 + m : Nat))).cell? ⟨g, j, none⟩ = some u) ∧ (wr.setCell ⟨g, m, none⟩ (.int .i64 (k0 + m : Nat))).frozen? ⟨g, j, none⟩ = false) ∧ w.grownBy (wr.setCell ⟨g, m, none⟩ (.int .i64 (k0 + m : Nat))) (rowF g n)) := by
        refine ⟨fun j hj => ⟨?_, by rw [World.frozen?_setCell]; exact (HI.out.1 j hj).2⟩, ?_⟩
        · by_cases h : j = m
          · subst h; exact ⟨_, set_here x0 f0 _⟩
          · rw [set_else h]; exact (HI.out.1 j hj).1
        · have h3 := HI.out.2
          rw [rowF_some (by omega)] at h3 ⊢
          exact h3.trans (grown_set wr g m _)
      have i1 : (m : Int) < (n : Int) := by omega
      have i2 : (0 : Int) ≤ (m : Int) := by omega
      clear HI HA
      go_wp2
      go_roundw
      case rel => exact ⟨m + 1, by omega, by go_num, by go_num, HJ⟩
      case measure => simp [intOf]; omega
    · have hme : n = m := by omega
      subst hme
      clear HA
      go_wp2
      go_ret
      exact ⟨rfl, HI.out.2⟩

set_option maxRecDepth 100000 in
set_option maxHeartbeats 1000000 in
theorem markDisk_any (s : Value) (g : Nat) (l : List Fl) (x : Int) (k0 : Nat) (w : World) (hx : x = (k0 : Int)) (h : RW 3 fcs w s g l) (h0 : 0 < k0) (hk : k0 ≤ 10000000) :
    Calls Try.prog 36 #[.agg #[s], .int .i64 x] w fun e w' => e = .returned (.int .i64 (k0 + 3 * l.length : Nat)) ∧ RW 3 fcs w' s g (fmarks k0 l.length) ∧ w.grownBy w' (rowF g l.length) := by
  have hsh := h.1.shape
  obtain ⟨N, hN⟩ : ∃ N : Nat, k0 + 3 * l.length = N := ⟨_, rfl⟩
  obtain ⟨n, hn⟩ : ∃ n : Nat, l.length = n := ⟨_, rfl⟩
  have hb : Below w.heap.size w (w.alloc (.cells #[s] 26)) := (Below.refl _ _).alloc (Nat.le_refl _) _
  have HC := markFileS_any s g l x k0 _ hx (h.later hb) h0 hk
  rw [hN] at HC ⊢
  rw [hn] at HC hsh ⊢
  obtain ⟨a, cap, hs⟩ := hsh
  subst hs
  have HB : Hid (w.grownBy (w.alloc (.cells #[.slice a n cap] 26)) (rowF g n)) := grown_below hb
  generalize fmarks k0 n = F at *
  clear h hb hN hn h0 hk hx
  go_enter Try.func36, Try.ntmps36
  go_wp2_with fail
  refine HC.mono ?_
  rintro e w1 ⟨rfl, hrw, hg⟩
  have HR : Hid (RW 3 fcs w1 (.slice a n cap) g F ∧ w.grownBy w1 (rowF g n)) := ⟨hrw, HB.out.trans hg⟩
  clear hrw hg HC HB
  go_wp2
  go_ret
  exact ⟨rfl, HR.out.1, HR.out.2⟩

set_option maxRecDepth 100000 in
set_option maxHeartbeats 1000000 in
theorem heldDisk_any (s : Value) (g : Nat) (x : Int) (k0 n : Nat) (w : World) (hx : x = (k0 : Int)) (h : RS 3 fcs w s g 0 (fmarks k0 n)) (h0 : 0 < k0) (hk : k0 ≤ 10000000) :
    Calls Try.prog 37 #[.agg #[s], .int .i64 x] w fun e w' => e = .returned (.int .i64 (k0 + 3 * n : Nat)) ∧ Below w.heap.size w w' := by
  have hsh := h.shape
  obtain ⟨N, hN⟩ : ∃ N : Nat, k0 + 3 * n = N := ⟨_, rfl⟩
  have hb : Below w.heap.size w (w.alloc (.cells #[s] 26)) := (Below.refl _ _).alloc (Nat.le_refl _) _
  have HC := heldFileS_any s g x k0 n _ hx (h.later hb) h0 hk
  rw [hN] at HC ⊢
  rw [fmarks_len] at hsh
  obtain ⟨a, cap, hs⟩ := hsh
  subst hs
  have q : ¬ (N : Int) < 0 := by omega
  have HB : Hid (Below w.heap.size w (w.alloc (.cells #[.slice a n cap] 26))) := hb
  clear h hb hN h0 hk hx
  go_enter Try.func37, Try.ntmps37
  go_wp2_with fail
  refine HC.mono ?_
  rintro e w1 ⟨rfl, hb1⟩
  have hb2 := HB.out.trans (hb1.mono HB.out.size)
  clear HC HB
  go_wp2
  go_ret
  exact ⟨rfl, hb2⟩

end Go.Proofs.Ytbmlphlknolieaa
