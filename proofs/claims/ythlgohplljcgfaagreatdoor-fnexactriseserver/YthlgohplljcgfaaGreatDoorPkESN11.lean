/-
  Texts laid together: Icn, In, Ca, Cb.
-/
import Derived.Test.YthlgohplljcgfaaGreatDoorPkESN7
import Derived.Test.YthlgohplljcgfaaGreatDoorPkESN1
/-
  Rows of numbers as they lie in memory.
-/
namespace Go.Proofs.YthlgohplljcgfaaGreatDoor
open Go.RowKit Go.BigFrame Go.Sort
set_option linter.unusedVariables false
set_option linter.unusedSimpArgs false

def ics (i : Int) : List Value := [.int .i64 i]
theorem RS.int {w : World} {v : Value} {g o : Nat} {l : List Int} (h : RS 1 ics w v g o l) (j : Nat) (hj : j < l.length) : w.cell? ⟨g, o + j, none⟩ = some (.int .i64 l[j]) := by
  obtain ⟨a, c, _, _, _, hc⟩ := h
  have := hc j hj 0 _ rfl
  rwa [Nat.mul_one] at this

end Go.Proofs.YthlgohplljcgfaaGreatDoor
/-
  Rows of numbers that a law takes over, compares and marks; a disk marked, and held against its marks.
-/
namespace Go.Proofs.YthlgohplljcgfaaGreatDoor
open Go.RowKit Go.BigFrame Go.Sort
set_option linter.unusedVariables false
set_option linter.unusedSimpArgs false

/-- a row of numbers that may be written, from the head of block g on -/
def IW (w : World) (v : Value) (g : Nat) (l : List Int) : Prop := ∃ a cap, v = .slice a l.length cap ∧ l.length ≤ 1100000 ∧ (0 < l.length → a = some ⟨g, 0, none⟩ ∧ g < w.heap.size) ∧ ∀ j (h : j < l.length), w.cell? ⟨g, j, none⟩ = some (.int .i64 l[j]) ∧ w.frozen? ⟨g, j, none⟩ = false
theorem IW.rs {w : World} {v : Value} {g : Nat} {l : List Int} (h : IW w v g l) : RS 1 ics w v g 0 l := by
  obtain ⟨a, c, hv, hl, h0, hc⟩ := h
  exact ⟨a, c, hv, hl, h0, fun j hj => range1 (by rw [Nat.zero_add, Nat.mul_one]; exact (hc j hj).1)⟩
theorem IW.later {w w' : World} {v : Value} {g : Nat} {l : List Int} (h : IW w v g l) (hb : Below w.heap.size w w') : IW w' v g l := by
  obtain ⟨a, c, hv, hl, h0, hc⟩ := h
  exact ⟨a, c, hv, hl, fun hp => ⟨(h0 hp).1, Nat.lt_of_lt_of_le (h0 hp).2 hb.size⟩, fun j hj => by
    have he := hb.block g (h0 (by omega)).2
    rw [cell_kept he, frozen_kept he]
    exact hc j hj⟩
theorem IW.grown {w w' : World} {v : Value} {g : Nat} {l : List Int} {row : Option Nat} (h : IW w v g l) (hg : w.grownBy w' row) (hne : 0 < l.length → some g ≠ row) : IW w' v g l := by
  obtain ⟨a, c, hv, hl, h0, hc⟩ := h
  exact ⟨a, c, hv, hl, fun hp => ⟨(h0 hp).1, Nat.lt_of_lt_of_le (h0 hp).2 hg.size⟩, fun j hj => by
    have he := hg.block g (h0 (by omega)).2 (hne (by omega))
    rw [cell_kept he, frozen_kept he]
    exact hc j hj⟩
theorem IW.lt {w : World} {v : Value} {g : Nat} {l : List Int} (h : IW w v g l) : 0 < l.length → g < w.heap.size := by
  obtain ⟨a, c, hv, hl, h0, hc⟩ := h
  exact fun hp => (h0 hp).2

theorem made_ints (n : Nat) (h : n ≤ 1100000) (W : World) : ∃ w', (Instr.makeSlice 30 (.int .i64 (n : Int)) (.int .i64 (n : Int))).run Tryz.prog W = .ok (.slice (some ⟨W.heap.size, 0, none⟩) n n) w' ∧ (∀ j, j < n → (∃ u, w'.cell? ⟨W.heap.size, j, none⟩ = some u) ∧ w'.frozen? ⟨W.heap.size, j, none⟩ = false) ∧ Below W.heap.size W w' ∧ w'.heap.size = W.heap.size + 1 := by
  obtain ⟨i0, hi, hz0, hz1, hz2⟩ := info_parts Tryz.info3
  have h1 := run_make (P := Tryz.prog) W 30 3 i0 _ Tryz.underlying30 hi hz0 .i64 .i64 (n : Int) (n : Int) (by omega) (by omega) (by rw [hz2]; omega) (by omega)
  refine ⟨_, by simpa using h1, fun j hj => ?_, (Below.refl _ _).alloc (Nat.le_refl _) _, by simp⟩
  have hg := Go.heap_alloc_new W (.cells (madeCells (Value.int .i64 0).cells (n * i0.size)) 3)
  refine ⟨?_, by unfold World.frozen?; simp only [hg]; simp⟩
  rw [cell_of_row _ W.heap.size j _ 3 (0, 0) hg, Array.getElem?_eq_getElem (by rw [size_madeCells, hz1]; omega)]
  exact ⟨_, rfl⟩

def ToI (w : World) (l : List Int) (i : Value) (wr : World) : Prop := ∃ m : Nat, m ≤ l.length ∧ i = .int .i64 m ∧ Hid ((∀ j (h : j < l.length), j < m → wr.cell? ⟨w.heap.size, j, none⟩ = some (.int .i64 l[j])) ∧ (∀ j, j < l.length → (∃ u, wr.cell? ⟨w.heap.size, j, none⟩ = some u) ∧ wr.frozen? ⟨w.heap.size, j, none⟩ = false) ∧ Below w.heap.size w wr ∧ w.heap.size < wr.heap.size)

set_option maxRecDepth 100000 in
set_option maxHeartbeats 400000 in
theorem toIntS_any (v : Value) (ga oa : Nat) (l : List Int) (w : World) (hv : RS 1 ics w v ga oa l) :
    Calls Tryz.prog 19 #[v] w fun e w' => ∃ s g, e = .returned s ∧ IW w' s g l ∧ w.heap.size ≤ g ∧ Below w.heap.size w w' := by
  have HV : Hid (RS 1 ics w v ga oa l) := hv
  obtain ⟨a, cap, rfl, hl, hA, _⟩ := hv
  obtain ⟨n, hn⟩ : ∃ n, l.length = n := ⟨_, rfl⟩
  obtain ⟨w2, hmk, hib, hb2, hs2⟩ := made_ints n (by omega) w
  have HST : Hid (ToI w l (.int .i64 0) w2) := ⟨0, by omega, rfl, fun j _ h => by omega, by rw [hn]; exact hib, hb2, by omega⟩
  have HA : Hid (0 < n → a = some ⟨ga, oa, none⟩) := by rw [← hn]; exact fun h => (hA h).1
  rw [hn] at hl ⊢
  clear hib hb2 hs2 hA
  go_enter Tryz.func19, Tryz.ntmps19
  go_wp2
  clear hmk
  go_loopw [4] (fun i wr => ToI w l i wr) (fun i _ => n - (intOf i).toNat)
  case atStart => exact HST.out
  case round =>
    obtain ⟨m, hm, rfl, HI⟩ := hrel
    clear HST
    rw [hn] at hm
    by_cases hlt : m < n
    · have ea := HA.out (by omega)
      subst ea
      have c1 := (HV.out.later HI.out.2.2.1).int m (by omega)
      obtain ⟨⟨o0, x0⟩, f0⟩ := HI.out.2.1 m (by omega)
      obtain ⟨X, hX⟩ : ∃ X, l[m]'(by omega) = X := ⟨_, rfl⟩
      rw [hX] at c1
      have HJ : Hid ((∀ j (h : j < l.length), j < m + 1 → (wr.setCell ⟨w.heap.size, m, none⟩ (.int .i64 X)).cell? ⟨w.heap.size, j, none⟩ = some (.int .i64 l[j])) ∧ (∀ j, j < l.length → (∃ u, (wr.setCell ⟨w.heap.size, m, none⟩ (.int .i64 X)).cell? ⟨w.heap.size, j, none⟩ = some u) ∧ (wr.setCell ⟨w.heap.size, m, none⟩ (.int .i64 X)).frozen? ⟨w.heap.size, j, none⟩ = false) ∧ Below w.heap.size w (wr.setCell ⟨w.heap.size, m, none⟩ (.int .i64 X)) ∧ w.heap.size < (wr.setCell ⟨w.heap.size, m, none⟩ (.int .i64 X)).heap.size) := by
        refine ⟨fun j hj hjl => ?_, fun j hj => ⟨?_, by rw [World.frozen?_setCell]; exact (HI.out.2.1 j hj).2⟩, HI.out.2.2.1.setCell (p := ⟨w.heap.size, m, none⟩) (Nat.le_refl _) _, by simpa using HI.out.2.2.2⟩
        · rcases Nat.lt_or_ge j m with h | h
          · rw [set_else (by omega)]; exact HI.out.1 j hj h
          · have : j = m := by omega
            subst this
            rw [hX]; exact set_here x0 f0 _
        · by_cases h : j = m
          · subst h; exact ⟨_, set_here x0 f0 _⟩
          · rw [set_else h]; exact (HI.out.2.1 j hj).1
      have i1 : (m : Int) < (n : Int) := by omega
      have i2 : (0 : Int) ≤ (m : Int) := by omega
      clear HI HA HV hX
      go_wp2
      go_roundw
      case rel => exact ⟨m + 1, by omega, by go_num, HJ⟩
      case measure => simp [intOf]; omega
    · have hme : n = m := by omega
      subst hme
      clear HA HV
      go_wp2
      go_ret
      exact ⟨.slice (some ⟨w.heap.size, 0, none⟩) n n, w.heap.size, rfl, ⟨some ⟨w.heap.size, 0, none⟩, n, by rw [hn], by omega, fun _ => ⟨rfl, HI.out.2.2.2⟩, fun j hj => ⟨HI.out.1 j hj (by omega), (HI.out.2.1 j hj).2⟩⟩, Nat.le_refl _, HI.out.2.2.1⟩

set_option maxRecDepth 100000 in
set_option maxHeartbeats 400000 in
theorem eqIntS_yes (u v : Value) (ga oa gb ob : Nat) (l : List Int) (w : World) (hu : RS 1 ics w u ga oa l) (hv : RS 1 ics w v gb ob l) :
    Calls Tryz.prog 21 #[u, v] w fun e w' => e = .returned (.bool true) ∧ Below w.heap.size w w' := by
  have HU : Hid (RS 1 ics w u ga oa l) := hu
  have HV : Hid (RS 1 ics w v gb ob l) := hv
  obtain ⟨a, cap, rfl, hl, hA, _⟩ := hu
  obtain ⟨b, cap2, rfl, _, hB, _⟩ := hv
  obtain ⟨n, hn⟩ : ∃ n, l.length = n := ⟨_, rfl⟩
  have HA : Hid (0 < n → a = some ⟨ga, oa, none⟩ ∧ b = some ⟨gb, ob, none⟩) := by rw [← hn]; exact fun h => ⟨(hA h).1, (hB h).1⟩
  rw [hn] at hl ⊢
  clear hA hB
  go_enter Tryz.func21, Tryz.ntmps21
  go_wp2
  go_loopw [5] (fun i wr => EfR n w i wr) (fun i _ => n - (intOf i).toNat)
  case atStart => exact ⟨0, by omega, rfl, Below.refl _ _⟩
  case round =>
    obtain ⟨m, hm, rfl, hbel⟩ := hrel
    by_cases hlt : m < n
    · obtain ⟨ea, eb⟩ := HA.out (by omega)
      subst ea
      subst eb
      have c0 := (HU.out.later hbel).int m (by omega)
      have e0 := (HV.out.later hbel).int m (by omega)
      generalize l[m]'(by omega) = X at *
      have i1 : (m : Int) < (n : Int) := by omega
      have i2 : (0 : Int) ≤ (m : Int) := by omega
      clear HU HV HA
      go_wp2
      have kq0 := cell_regrown (w := wr) c0
      have kq1 := cell_regrown (w := wr) e0
      refine wp_region_quiet_below (by kernel_rfl) (by kernel_rfl) ?_
      repeat (go_big_quiet_step (fail))
      refine wpQuiet_nil ?_
      rintro _ ⟨⟨dq, osq⟩, rfl⟩
      have hb6 := below_regrown (wr) dq osq
      generalize grow (redrawn (wr) dq) osq = w6 at *
      clear kq0 kq1
      go_wp2
      go_roundw
      case rel => exact ⟨m + 1, by omega, by go_num, hbel.trans (hb6.mono hbel.size)⟩
      case measure => simp [intOf]; omega
    · have hme : n = m := by omega
      subst hme
      clear HU HV HA
      go_wp2
      go_ret
      exact ⟨rfl, hbel⟩

def MiR (w : World) (g n k0 : Nat) (x i : Value) (wr : World) : Prop := ∃ m : Nat, m ≤ n ∧ i = .int .i64 m ∧ x = .int .i64 (k0 + m : Nat) ∧ Hid ((∀ j, j < n → (∃ u, wr.cell? ⟨g, j, none⟩ = some u) ∧ wr.frozen? ⟨g, j, none⟩ = false) ∧ w.grownBy wr (rowF g n))

set_option maxRecDepth 100000 in
set_option maxHeartbeats 400000 in
theorem markIntS_row (v : Value) (g : Nat) (l : List Int) (x : Int) (k0 : Nat) (w : World) (hx : x = (k0 : Int)) (h : IW w v g l) (hk : k0 ≤ 10000000) :
    Calls Tryz.prog 22 #[v, .int .i64 x] w fun e w' => e = .returned (.int .i64 (k0 + l.length : Nat)) ∧ w.grownBy w' (rowF g l.length) := by
  subst hx
  obtain ⟨a, cap, rfl, hl, hA, hc⟩ := h
  obtain ⟨n, hn⟩ : ∃ n, l.length = n := ⟨_, rfl⟩
  have HA : Hid (0 < n → a = some ⟨g, 0, none⟩) := by rw [← hn]; exact fun h => (hA h).1
  have HST : Hid (MiR w g n k0 (.int .i64 k0) (.int .i64 0) w) := ⟨0, by omega, rfl, rfl, fun j hj => ⟨⟨_, (hc j (by omega)).1⟩, (hc j (by omega)).2⟩, ⟨rfl, rfl, rfl, Nat.le_refl _, fun _ _ _ => rfl⟩⟩
  rw [hn] at hl
  rw [hn]
  clear hA hc
  go_enter Tryz.func22, Tryz.ntmps22
  go_wp2
  go_loopw [1, 5] (fun x i wr => MiR w g n k0 x i wr) (fun _ i _ => n - (intOf i).toNat)
  case atStart => exact HST.out
  case round =>
    obtain ⟨m, hm, rfl, rfl, HI⟩ := hrel
    clear HST
    by_cases hlt : m < n
    · have ea := HA.out (by omega)
      subst ea
      obtain ⟨⟨o0, x0⟩, f0⟩ := HI.out.1 m (by omega)
      have HJ : Hid ((∀ j, j < n → (∃ u, (wr.setCell ⟨g, m, none⟩ (.int .i64 (k0 + m : Nat))).cell? ⟨g, j, none⟩ = some u) ∧ (wr.setCell ⟨g, m, none⟩ (.int .i64 (k0 + m : Nat))).frozen? ⟨g, j, none⟩ = false) ∧ w.grownBy (wr.setCell ⟨g, m, none⟩ (.int .i64 (k0 + m : Nat))) (rowF g n)) := by
        refine ⟨fun j hj => ⟨?_, by rw [World.frozen?_setCell]; exact (HI.out.1 j hj).2⟩, ?_⟩
        · by_cases h : j = m
          · subst h; exact ⟨_, set_here x0 f0 _⟩
          · rw [set_else h]; exact (HI.out.1 j hj).1
        · have h3 := HI.out.2
          rw [rowF_some (by omega)] at h3 ⊢
          exact h3.trans (grown_set wr g m _)
      have i1 : (m : Int) < (n : Int) := by omega
      have i2 : (0 : Int) ≤ (m : Int) := by omega
      clear HI HA
      go_wp2
      go_roundw
      case rel => exact ⟨m + 1, by omega, by go_num, by go_num, HJ⟩
      case measure => simp [intOf]; omega
    · have hme : n = m := by omega
      subst hme
      clear HA
      go_wp2
      go_ret
      exact ⟨rfl, HI.out.2⟩

set_option maxRecDepth 100000 in
set_option maxHeartbeats 1000000 in
theorem markDisk_any (s : Value) (g : Nat) (l : List Fl) (x : Int) (k0 : Nat) (w : World) (hx : x = (k0 : Int)) (h : RW 3 fcs w s g l) (h0 : 0 < k0) (hk : k0 ≤ 10000000) :
    Calls Tryz.prog 13 #[.agg #[s], .int .i64 x] w fun e w' => e = .returned (.int .i64 (k0 + 3 * l.length : Nat)) ∧ RW 3 fcs w' s g (fmarks k0 l.length) ∧ w.grownBy w' (rowF g l.length) := by
  have hsh := h.1.shape
  obtain ⟨N, hN⟩ : ∃ N : Nat, k0 + 3 * l.length = N := ⟨_, rfl⟩
  obtain ⟨n, hn⟩ : ∃ n : Nat, l.length = n := ⟨_, rfl⟩
  have hb : Below w.heap.size w (w.alloc (.cells #[s] 28)) := (Below.refl _ _).alloc (Nat.le_refl _) _
  have HC := markFileS_any s g l x k0 _ hx (h.later hb) h0 hk
  rw [hN] at HC ⊢
  rw [hn] at HC hsh ⊢
  obtain ⟨a, cap, hs⟩ := hsh
  subst hs
  have HB : Hid (w.grownBy (w.alloc (.cells #[.slice a n cap] 28)) (rowF g n)) := grown_below hb
  generalize fmarks k0 n = F at *
  clear h hb hN hn h0 hk hx
  go_enter Tryz.func13, Tryz.ntmps13
  go_wp2_with fail
  refine HC.mono ?_
  rintro e w1 ⟨rfl, hrw, hg⟩
  have HR : Hid (RW 3 fcs w1 (.slice a n cap) g F ∧ w.grownBy w1 (rowF g n)) := ⟨hrw, HB.out.trans hg⟩
  clear hrw hg HC HB
  go_wp2
  go_ret
  exact ⟨rfl, HR.out.1, HR.out.2⟩

set_option maxRecDepth 100000 in
set_option maxHeartbeats 1000000 in
theorem heldDisk_any (s : Value) (g : Nat) (x : Int) (k0 n : Nat) (w : World) (hx : x = (k0 : Int)) (h : RS 3 fcs w s g 0 (fmarks k0 n)) (h0 : 0 < k0) (hk : k0 ≤ 10000000) :
    Calls Tryz.prog 42 #[.agg #[s], .int .i64 x] w fun e w' => e = .returned (.int .i64 (k0 + 3 * n : Nat)) ∧ Below w.heap.size w w' := by
  have hsh := h.shape
  obtain ⟨N, hN⟩ : ∃ N : Nat, k0 + 3 * n = N := ⟨_, rfl⟩
  have hb : Below w.heap.size w (w.alloc (.cells #[s] 28)) := (Below.refl _ _).alloc (Nat.le_refl _) _
  have HC := heldFileS_any s g x k0 n _ hx (h.later hb) h0 hk
  rw [hN] at HC ⊢
  rw [fmarks_len] at hsh
  obtain ⟨a, cap, hs⟩ := hsh
  subst hs
  have q : ¬ (N : Int) < 0 := by omega
  have HB : Hid (Below w.heap.size w (w.alloc (.cells #[.slice a n cap] 28))) := hb
  clear h hb hN h0 hk hx
  go_enter Tryz.func42, Tryz.ntmps42
  go_wp2_with fail
  refine HC.mono ?_
  rintro e w1 ⟨rfl, hb1⟩
  have hb2 := HB.out.trans (hb1.mono HB.out.size)
  clear HC HB
  go_wp2
  go_ret
  exact ⟨rfl, hb2⟩

end Go.Proofs.YthlgohplljcgfaaGreatDoor
/-
  Changes as plain words: when one is right, its text; rows of changes as they lie in memory.
-/
namespace Go.Proofs.YthlgohplljcgfaaGreatDoor
open Go.RowKit Go.BigFrame Go.Sort
set_option linter.unusedVariables false
set_option linter.unusedSimpArgs false

structure Ug where
  i : Int
  n : ByteArray
  v : ByteArray

def ucs (x : Ug) : List Value := [.int .i64 x.i, .string x.n, .string x.v]
theorem ucs_len (x : Ug) : (ucs x).length = 3 := rfl
theorem RS.chg {w : World} {v : Value} {g o : Nat} {l : List Ug} (h : RS 3 ucs w v g o l) (j : Nat) (hj : j < l.length) :
    w.cell? ⟨g, o + j * 3, none⟩ = some (.int .i64 l[j].i) ∧ w.cell? ⟨g, o + j * 3 + 1, none⟩ = some (.string l[j].n) ∧ w.cell? ⟨g, o + j * 3 + 2, none⟩ = some (.string l[j].v) := by
  obtain ⟨a, c, _, _, _, hc⟩ := h
  exact ⟨hc j hj 0 _ rfl, hc j hj 1 _ rfl, hc j hj 2 _ rfl⟩

theorem below_drnU {B : Nat} {a w : World} (h : Below B a w) (n : Nat) : Below B a (w.drewN n) := h.trans ⟨rfl, rfl, rfl, Nat.le_refl _, fun _ _ => rfl⟩
/-- a change in its box -/
def BU (W : World) (p : Nat) (x : Ug) : Prop := W.heap[p]? = some (.cells #[.int .i64 x.i, .string x.n, .string x.v] 102 (0, 0))
theorem BU.new (w : World) (x : Ug) : BU (w.alloc (.cells #[.int .i64 x.i, .string x.n, .string x.v] 102)) w.heap.size x := Go.heap_alloc_new w _
theorem BU.lt {W : World} {p : Nat} {x : Ug} (h : BU W p x) : p < W.heap.size := (Array.getElem?_eq_some_iff.1 h).1
theorem BU.later {W W' : World} {p : Nat} {x : Ug} (h : BU W p x) (hb : Below W.heap.size W W') : BU W' p x := (hb.block p h.lt).trans h
theorem BU.grown {W W' : World} {p : Nat} {x : Ug} {row : Option Nat} (h : BU W p x) (hg : W.grownBy W' row) (hne : some p ≠ row) : BU W' p x := (hg.block p h.lt hne).trans h
theorem BU.range {W : World} {p : Nat} {x : Ug} (h : BU W p x) : W.rangeAt p 0 (ucs x) := fun j v hv => by
  rw [cell_of_row W p (0 + j) _ _ _ h, Nat.zero_add]
  simpa [ucs] using hv
theorem BU.c0 {W : World} {p : Nat} {x : Ug} (h : BU W p x) : W.cell? ⟨p, 0, none⟩ = some (.int .i64 x.i) := h.range 0 _ rfl
theorem BU.c1 {W : World} {p : Nat} {x : Ug} (h : BU W p x) : W.cell? ⟨p, 1, none⟩ = some (.string x.n) := h.range 1 _ rfl
theorem BU.c2 {W : World} {p : Nat} {x : Ug} (h : BU W p x) : W.cell? ⟨p, 2, none⟩ = some (.string x.v) := h.range 2 _ rfl
theorem BU.fz {W : World} {p : Nat} {x : Ug} (h : BU W p x) (j : Nat) : W.frozen? ⟨p, j, none⟩ = false := by simp [World.frozen?, show W.heap[p]? = _ from h]
theorem BU.there {W : World} {p : Nat} {x : Ug} (h : BU W p x) : W.there p 0 3 := fun j hj => by
  match j, hj with
  | 0, _ => exact ⟨by rw [h.c0]; rfl, h.fz _⟩
  | 1, _ => exact ⟨by rw [h.c1]; rfl, h.fz _⟩
  | 2, _ => exact ⟨by rw [h.c2]; rfl, h.fz _⟩
theorem BU.put {W : World} {p : Nat} {x : Ug} (h : BU W p x) (y : Ug) : BU (W.setCells p 0 (ucs y)) p y :=
  heap_setCell_same _ p 2 _ _ _ (heap_setCell_same _ p 1 _ _ _ (heap_setCell_same W p 0 _ _ _ h))
theorem BU.set0 {W : World} {p : Nat} {x : Ug} (h : BU W p x) (y : Int) : BU (W.setCell ⟨p, 0, none⟩ (.int .i64 y)) p ⟨y, x.n, x.v⟩ := heap_setCell_same W p 0 _ _ _ h
theorem BU.set1 {W : World} {p : Nat} {x : Ug} (h : BU W p x) (y : ByteArray) : BU (W.setCell ⟨p, 1, none⟩ (.string y)) p ⟨x.i, y, x.v⟩ := heap_setCell_same W p 1 _ _ _ h
theorem BU.set2 {W : World} {p : Nat} {x : Ug} (h : BU W p x) (y : ByteArray) : BU (W.setCell ⟨p, 2, none⟩ (.string y)) p ⟨x.i, x.n, y⟩ := heap_setCell_same W p 2 _ _ _ h

theorem sizeChange : (Tryz.prog.info? 102).map (·.size) = some 3 := by kernel_rfl
section
variable {fn : Func} {Rp : Ending → World → Prop} {a : Act} {w : World}
/-- a change answered out of its box -/
theorem ret_ug (c g : Nat) (x : Ug) (hres : fn.results = #[.cell c 102]) (hd : a.defers = []) (hp : a.tmps.getD c undef = .pointer (some ⟨g, 0, none⟩)) (hA : BU w g x) (h : Rp (.returned (.agg #[.int .i64 x.i, .string x.n, .string x.v])) w) : bodyPost Tryz.prog fn Rp .ret a w :=
  ret_rec c g 102 (ucs x) _ hres hd hp Tryz.underlying102 rfl sizeChange hA.range h
theorem ret_ug2 (c s g : Nat) (x : Ug) (b : Value) (hres : fn.results = #[.cell c 102, .tmp s]) (hd : a.defers = []) (hp : a.tmps.getD c undef = .pointer (some ⟨g, 0, none⟩)) (hb : a.tmps.getD s undef = b) (hA : BU w g x) (h : Rp (.returned (.tuple #[.agg #[.int .i64 x.i, .string x.n, .string x.v], b])) w) : bodyPost Tryz.prog fn Rp .ret a w :=
  ret_rec2 c s g 102 (ucs x) b _ hres hd hp hb Tryz.underlying102 rfl sizeChange hA.range h
end

namespace UV
/-- a value that may be, or none -/
def vOk (v : ByteArray) : Bool := v.toList.isEmpty || okB valB v
def okU (x : Ug) : Bool := decide (1 ≤ x.i ∧ x.i ≤ 99) && (okB nameB x.n && vOk x.v)
end UV

end Go.Proofs.YthlgohplljcgfaaGreatDoor
/-
  A change, and rows of changes, that a law is handed: counted, copied, compared.
-/
namespace Go.Proofs.YthlgohplljcgfaaGreatDoor
open Go.RowKit Go.BigFrame Go.Sort
set_option linter.unusedVariables false
set_option linter.unusedSimpArgs false


/-- a change in cells of any box -/
def RU (W : World) (g : Nat) (x : Ug) : Prop := W.rangeAt g 0 (ucs x) ∧ g < W.heap.size
theorem RU.new (w : World) (x : Ug) (T : Nat) : RU (w.alloc (.cells #[.int .i64 x.i, .string x.n, .string x.v] T)) w.heap.size x := ⟨range_new w (ucs x) T, by simp⟩
theorem RU.later {W W' : World} {g : Nat} {x : Ug} (h : RU W g x) (hb : Below W.heap.size W W') : RU W' g x := ⟨range_kept h.1 (hb.block g h.2), Nat.lt_of_lt_of_le h.2 hb.size⟩
theorem RU.grown {W W' : World} {g : Nat} {x : Ug} {row : Option Nat} (h : RU W g x) (hg : W.grownBy W' row) (hne : some g ≠ row) : RU W' g x := ⟨range_kept h.1 (hg.block g h.2 hne), Nat.lt_of_lt_of_le h.2 hg.size⟩
theorem RU.c0 {W : World} {g : Nat} {x : Ug} (h : RU W g x) : W.cell? ⟨g, 0, none⟩ = some (.int .i64 x.i) := h.1 0 _ rfl
theorem RU.c1 {W : World} {g : Nat} {x : Ug} (h : RU W g x) : W.cell? ⟨g, 1, none⟩ = some (.string x.n) := h.1 1 _ rfl
theorem RU.c2 {W : World} {g : Nat} {x : Ug} (h : RU W g x) : W.cell? ⟨g, 2, none⟩ = some (.string x.v) := h.1 2 _ rfl

set_option maxRecDepth 100000 in
set_option maxHeartbeats 400000 in
theorem toChange_any (a : Ug) (w : World) : Calls Tryz.prog 92 #[.agg #[.int .i64 a.i, .string a.n, .string a.v]] w fun e w' => e = .returned (.agg #[.int .i64 a.i, .string a.n, .string a.v]) ∧ Below w.heap.size w w' := by
  obtain ⟨k, t, o⟩ := a
  go_enter Tryz.func92, Tryz.ntmps92
  go_wp2
  refine ret_rec 2 (w.heap.size + 1) 102 [.int .i64 k, .string t, .string o] _ rfl rfl rfl Tryz.underlying102 rfl sizeChange ?_ ?_
  · exact World.rangeAt_alloc (range_at (by simp) (range_new _ [.int .i64 k, .string t, .string o] _)) _
  · exact ⟨rfl, (((Below.refl _ _).alloc (Nat.le_refl _) _).alloc (by simp) _).alloc (by simp; omega) _⟩

set_option maxHeartbeats 400000 in
theorem szChange_any (a : Ug) (x : Int) (w : World) (h0 : 0 ≤ x) (h1 : x ≤ 1048576) (ht : a.n.size ≤ 9223372036854775807) (ho : a.v.size ≤ 9223372036854775807) :
    Calls Tryz.prog 90 #[.agg #[.int .i64 a.i, .string a.n, .string a.v], .int .i64 x] w fun e w' => ∃ A : Int, e = .returned (.int .i64 A) ∧ Below w.heap.size w w' ∧ A ≤ x ∧ (0 ≤ A → a.n.size ≤ 1048576 ∧ a.v.size ≤ 1048576) := by
  obtain ⟨k, t, o⟩ := a
  simp only at ht ho ⊢
  have HB : Hid (Below w.heap.size w (w.alloc (.cells #[.int .i64 k, .string t, .string o] 127))) := (Below.refl _ _).alloc (Nat.le_refl _) _
  by_cases h3 : x - (t.size : Int) < 0
  · go_enter Tryz.func90, Tryz.ntmps90
    go_wp2
    go_ret
    exact ⟨_, rfl, HB.out, by omega, fun h => by omega⟩
  · by_cases h4 : x - (t.size : Int) - (o.size : Int) < 0
    · go_enter Tryz.func90, Tryz.ntmps90
      go_wp2
      go_ret
      exact ⟨_, rfl, HB.out, by omega, fun h => by omega⟩
    · go_enter Tryz.func90, Tryz.ntmps90
      go_wp2
      go_ret
      exact ⟨_, rfl, HB.out, by omega, fun h => ⟨by omega, by omega⟩⟩

theorem Tryz.infoChange : (Tryz.prog.info? 102).map (fun i => (i.zero, i.size, i.bytes)) = some (some (.agg #[.int .i64 0, .string ByteArray.empty, .string ByteArray.empty]), 3, 40) := by kernel_rfl
theorem there_new3u {W : World} {cs : Array Value} {T n : Nat} (h : cs.size = n * 3) (j : Nat) (hj : j < n) : (W.alloc (.cells cs T)).there W.heap.size (j * 3) 3 := by
  intro i hi
  have hg := Go.heap_alloc_new W (.cells cs T)
  refine ⟨?_, by unfold World.frozen?; simp only [hg]; simp⟩
  rw [cell_of_row _ W.heap.size (j * 3 + i) cs T (0, 0) hg, Array.getElem?_eq_getElem (by omega)]
  rfl
theorem made_changes (n : Nat) (h : n ≤ 1100000) (W : World) : ∃ w', (Instr.makeSlice 31 (.int .i64 (n : Int)) (.int .i64 (n : Int))).run Tryz.prog W = .ok (.slice (some ⟨W.heap.size, 0, none⟩) n n) w' ∧ (∀ j, j < n → w'.there W.heap.size (j * 3) 3) ∧ Below W.heap.size W w' ∧ w'.heap.size = W.heap.size + 1 := by
  obtain ⟨i0, hi, hz0, hz1, hz2⟩ := info_parts Tryz.infoChange
  have h1 := run_make (P := Tryz.prog) W 31 102 i0 _ Tryz.underlying31 hi hz0 .i64 .i64 (n : Int) (n : Int) (by omega) (by omega) (by rw [hz2]; omega) (by omega)
  refine ⟨_, by simpa using h1, fun j hj => there_new3u ?_ j hj, (Below.refl _ _).alloc (Nat.le_refl _) _, by simp⟩
  rw [size_madeCells, hz1]

/-- the first m records of a new row are written -/
def ToU (w : World) (l : List Ug) (B g : Nat) (i : Value) (wr : World) : Prop := ∃ m : Nat, m ≤ l.length ∧ i = .int .i64 m ∧ (∀ j (h : j < l.length), j < m → wr.rangeAt g (j * 3) (ucs l[j])) ∧ (∀ j, j < l.length → wr.there g (j * 3) 3) ∧ Below B w wr
theorem ToU.set {w wr : World} {l : List Ug} {g m B : Nat} (hm : m < l.length) (hB : B ≤ g) (h1 : ∀ j (h : j < l.length), j < m → wr.rangeAt g (j * 3) (ucs l[j])) (h2 : ∀ j, j < l.length → wr.there g (j * 3) 3) (h3 : Below B w wr) :
    (∀ j (h : j < l.length), j < m + 1 → (wr.setCells g (m * 3) (ucs l[m])).rangeAt g (j * 3) (ucs l[j])) ∧ (∀ j, j < l.length → (wr.setCells g (m * 3) (ucs l[m])).there g (j * 3) 3) ∧ Below B w (wr.setCells g (m * 3) (ucs l[m])) := by
  refine ⟨fun j hj hlt => ?_, fun j hj => World.there_setCells (h2 j hj) _ _ _, ?_⟩
  · rcases Nat.lt_or_ge j m with h4 | h4
    · exact World.rangeAt_setCells_apart (h1 j hj h4) _ _ _ (.inr (.inl (by rw [ucs_len]; omega)))
    · have : j = m := by omega
      subst this
      exact World.rangeAt_setCells_same _ _ _ _ (h2 j hj)
  · exact below_setCells hB _ _ _ h3

set_option maxRecDepth 100000 in
set_option maxHeartbeats 400000 in
theorem toChangeS_any (v : Value) (ga oa : Nat) (l : List Ug) (w : World) (hv : RS 3 ucs w v ga oa l) :
    Calls Tryz.prog 51 #[v] w fun e w' => ∃ g, e = .returned (.slice (some ⟨g, 0, none⟩) l.length l.length) ∧ w.heap.size ≤ g ∧ RW 3 ucs w' (.slice (some ⟨g, 0, none⟩) l.length l.length) g l ∧ g < w'.heap.size ∧ Below w.heap.size w w' := by
  have HV : Hid (RS 3 ucs w v ga oa l) := hv
  obtain ⟨a, cap, rfl, hl, hA, hc⟩ := hv
  obtain ⟨n, hn⟩ : ∃ n, l.length = n := ⟨_, rfl⟩
  obtain ⟨w2, hmk, hib, hb2, hs2⟩ := made_changes n (by omega) w
  have HST : Hid (ToU w l w.heap.size w.heap.size (.int .i64 0) w2 ∧ w.heap.size < w2.heap.size) := ⟨⟨0, by omega, rfl, fun j _ h => by omega, by rw [hn]; exact hib, hb2⟩, by omega⟩
  have HA : Hid (0 < n → a = some ⟨ga, oa, none⟩) := by rw [← hn]; exact fun h => (hA h).1
  rw [hn] at hl ⊢
  clear hib hb2 hs2 hA hc
  go_enter Tryz.func51, Tryz.ntmps51
  go_wp2
  clear hmk
  go_loopw [4] (fun i wr => ToU w l w.heap.size w.heap.size i wr ∧ w.heap.size < wr.heap.size) (fun i _ => n - (intOf i).toNat)
  case atStart => exact HST.out
  case round =>
    obtain ⟨⟨m, hm, rfl, h1, h2, hbel⟩, hws⟩ := hrel
    have HI : Hid ((∀ j (h : j < l.length), j < m → wr.rangeAt w.heap.size (j * 3) (ucs l[j])) ∧ (∀ j, j < l.length → wr.there w.heap.size (j * 3) 3) ∧ Below w.heap.size w wr) := ⟨h1, h2, hbel⟩
    clear HST h1 h2 hbel
    rw [hn] at hm
    by_cases hlt : m < n
    · have ea := HA.out (by omega)
      subst ea
      obtain ⟨c0, c1, c2⟩ := (HV.out.later HI.out.2.2).chg m (by omega)
      obtain ⟨X, hX⟩ : ∃ X, l[m]'(by omega) = X := ⟨_, rfl⟩
      rw [hX] at c0 c1 c2
      have HX : Hid (l[m]'(by omega) = X) := hX
      have i1 : (m : Int) < (n : Int) := by omega
      have i2 : (0 : Int) ≤ (m : Int) := by omega
      clear hX HV HA
      go_wp2_with fail
      refine (toChange_any X _).mono ?_
      rintro e w1 ⟨rfl, hb1⟩
      have HJ : Hid ((∀ j (h : j < l.length), j < m + 1 → (w1.setCells w.heap.size (m * 3) (ucs X)).rangeAt w.heap.size (j * 3) (ucs l[j])) ∧ (∀ j, j < l.length → (w1.setCells w.heap.size (m * 3) (ucs X)).there w.heap.size (j * 3) 3) ∧ Below w.heap.size w (w1.setCells w.heap.size (m * 3) (ucs X))) := by
        have h := ToU.set (w := w) (wr := w1) (l := l) (g := w.heap.size) (m := m) (B := w.heap.size) (by omega) (Nat.le_refl _) (fun j hj h => range_kept (HI.out.1 j hj h) (hb1.block _ hws)) (fun j hj => there_kept (HI.out.2.1 j hj) (hb1.block _ hws)) (HI.out.2.2.trans (hb1.mono HI.out.2.2.size))
        rw [HX.out] at h
        exact h
      have HT : Hid (w1.there w.heap.size (m * 3) 3) := there_kept (HI.out.2.1 m (by omega)) (hb1.block _ hws)
      have hws1 : w.heap.size < (w1.setCells w.heap.size (m * 3) (ucs X)).heap.size := by rw [size_setCells]; exact Nat.lt_of_lt_of_le hws hb1.size
      clear hb1 HI c0 c1 c2
      obtain ⟨⟨o0, x0⟩, ⟨o1, x1⟩, ⟨o2, x2⟩, f0, f1, f2⟩ := there3 HT.out
      go_wp2
      go_roundw
      case rel => exact ⟨⟨m + 1, by omega, by go_num, HJ.out⟩, hws1⟩
      case measure => simp [intOf]; omega
    · have hme : m = n := by omega
      subst hme
      clear HV HA
      go_wp2
      go_ret
      refine ⟨w.heap.size, rfl, Nat.le_refl _, ⟨⟨_, _, by rw [hn], by omega, fun _ => ⟨rfl, hws⟩, fun j hj => ?_⟩, HI.out.2.1⟩, hws, HI.out.2.2⟩
      rw [Nat.zero_add]
      exact HI.out.1 j hj (by omega)

theorem eqChange_yes (f : Ug) (w : World) : Calls Tryz.prog 83 #[.agg #[.int .i64 f.i, .string f.n, .string f.v], .agg #[.int .i64 f.i, .string f.n, .string f.v]] w fun e w' => e = .returned (.bool true) ∧ Below w.heap.size w w' := by
  obtain ⟨k, t, o⟩ := f
  have hb : Below w.heap.size w ((w.alloc (.cells #[.int .i64 k, .string t, .string o] 102)).alloc (.cells #[.int .i64 k, .string t, .string o] 102)) := ((Below.refl _ _).alloc (Nat.le_refl _) _).alloc (by simp) _
  go_enter Tryz.func83, Tryz.ntmps83
  go_wp2
  go_ret
  exact ⟨rfl, hb⟩

def EuR (n : Nat) (w : World) (i : Value) (wr : World) : Prop := ∃ m : Nat, m ≤ n ∧ i = .int .i64 m ∧ Below w.heap.size w wr

set_option maxRecDepth 100000 in
set_option maxHeartbeats 400000 in
theorem eqChangeS_yes (u v : Value) (ga oa gb ob : Nat) (l : List Ug) (w : World) (hu : RS 3 ucs w u ga oa l) (hv : RS 3 ucs w v gb ob l) :
    Calls Tryz.prog 36 #[u, v] w fun e w' => e = .returned (.bool true) ∧ Below w.heap.size w w' := by
  have HU : Hid (RS 3 ucs w u ga oa l) := hu
  have HV : Hid (RS 3 ucs w v gb ob l) := hv
  obtain ⟨a, cap, rfl, hl, hA, _⟩ := hu
  obtain ⟨b, cap2, rfl, _, hB, _⟩ := hv
  obtain ⟨n, hn⟩ : ∃ n, l.length = n := ⟨_, rfl⟩
  have HA : Hid (0 < n → a = some ⟨ga, oa, none⟩ ∧ b = some ⟨gb, ob, none⟩) := by rw [← hn]; exact fun h => ⟨(hA h).1, (hB h).1⟩
  rw [hn] at hl ⊢
  clear hA hB
  go_enter Tryz.func36, Tryz.ntmps36
  go_wp2
  go_loopw [5] (fun i wr => EuR n w i wr) (fun i _ => n - (intOf i).toNat)
  case atStart => exact ⟨0, by omega, rfl, Below.refl _ _⟩
  case round =>
    obtain ⟨m, hm, rfl, hbel⟩ := hrel
    by_cases hlt : m < n
    · obtain ⟨ea, eb⟩ := HA.out (by omega)
      subst ea
      subst eb
      obtain ⟨c0, c1, c2⟩ := (HU.out.later hbel).chg m (by omega)
      obtain ⟨e0, e1, e2⟩ := (HV.out.later hbel).chg m (by omega)
      generalize l[m]'(by omega) = X at *
      have i1 : (m : Int) < (n : Int) := by omega
      have i2 : (0 : Int) ≤ (m : Int) := by omega
      clear HU HV HA
      go_wp2
      have kq0 := cell_regrown (w := wr) c0
      have kq1 := cell_regrown (w := wr) c1
      have kq2 := cell_regrown (w := wr) c2
      have kq4 := cell_regrown (w := wr) e0
      have kq5 := cell_regrown (w := wr) e1
      have kq6 := cell_regrown (w := wr) e2
      have cq0 := fun d os => Calls.regrown_of (w := wr) (d := d) (os := os) (eqChange_yes X _)
      refine wp_region_quiet_below (by kernel_rfl) (by kernel_rfl) ?_
      repeat (go_big_quiet_step (first | exact cq0 _ _))
      refine wpQuiet_nil ?_
      rintro _ ⟨⟨dq, osq⟩, rfl⟩
      have hb6 := below_regrown (wr) dq osq
      generalize grow (redrawn (wr) dq) osq = w6 at *
      clear kq0 kq1 kq2 kq4 kq5 kq6 cq0
      go_wp2
      go_roundw
      case rel => exact ⟨m + 1, by omega, by go_num, hbel.trans (hb6.mono hbel.size)⟩
      case measure => simp [intOf]; omega
    · have hme : m = n := by omega
      subst hme
      clear HU HV HA
      go_wp2
      go_ret
      exact ⟨rfl, hbel⟩

/-- a row of changes that was handed in, great or small: if it is small, it is l -/
def IsRowU (w : World) (v : Value) (g o : Nat) (l : List Ug) : Prop := ∃ a n cap, v = .slice a n cap ∧ n ≤ 9223372036854775807 ∧ (n ≤ 1100000 → l.length = n ∧ RS 3 ucs w v g o l ∧ ∀ f ∈ l, f.n.size ≤ 9223372036854775807 ∧ f.v.size ≤ 9223372036854775807)
theorem IsRowU.later {w w' : World} {v : Value} {g o : Nat} {l : List Ug} (h : IsRowU w v g o l) (hb : Below w.heap.size w w') : IsRowU w' v g o l := by
  obtain ⟨a, n, cap, hv, hn, hr⟩ := h
  exact ⟨a, n, cap, hv, hn, fun hl => ⟨(hr hl).1, (hr hl).2.1.later hb, (hr hl).2.2⟩⟩
def SmallU1 (a : Ug) : Prop := a.n.size ≤ 1048576 ∧ a.v.size ≤ 1048576
/-- no text of it is great -/
def SmallUs (l : List Ug) : Prop := ∀ f ∈ l, SmallU1 f

def SzU (l : List Ug) (x0 : Int) (w : World) (x i : Value) (wr : World) : Prop := ∃ (m : Nat) (y : Int), m ≤ l.length ∧ i = .int .i64 m ∧ x = .int .i64 y ∧ 0 ≤ y ∧ y ≤ x0 ∧ Hid (∀ j (h : j < l.length), j < m → SmallU1 l[j]) ∧ Below w.heap.size w wr

set_option maxRecDepth 100000 in
set_option maxHeartbeats 400000 in
theorem szChangeS_row (v : Value) (g o : Nat) (l : List Ug) (x : Int) (w : World) (hv : IsRowU w v g o l) (h0 : 0 ≤ x) (h1 : x ≤ 1048576) :
    Calls Tryz.prog 48 #[v, .int .i64 x] w fun e w' => ∃ A : Int, e = .returned (.int .i64 A) ∧ Below w.heap.size w w' ∧ A ≤ x ∧ (0 ≤ A → RS 3 ucs w v g o l ∧ SmallUs l ∧ l.length ≤ 1048576) := by
  obtain ⟨a, n, cap, rfl, hn, hr⟩ := hv
  by_cases hbig : x < (n : Int)
  · have q : x - (n : Int) < 0 := by omega
    go_enter Tryz.func48, Tryz.ntmps48
    go_wp2
    go_ret
    exact ⟨_, rfl, Below.refl _ _, by omega, fun h => by omega⟩
  obtain ⟨hln, hrs, hsz⟩ := hr (by omega)
  have HRS : Hid (RS 3 ucs w (.slice a n cap) g o l) := hrs
  have HSZ : Hid (∀ f ∈ l, f.n.size ≤ 9223372036854775807 ∧ f.v.size ≤ 9223372036854775807) := hsz
  have HLN : Hid (l.length = n) := hln
  obtain ⟨a', c', ev, _, hA, _⟩ := hrs
  have HA : Hid (0 < n → a = some ⟨g, o, none⟩) := fun h => by
    have := (hA (by omega)).1
    simp at ev
    rw [ev.1, this]
  clear hr hA hsz ev
  have q : ¬ x - (n : Int) < 0 := by omega
  go_enter Tryz.func48, Tryz.ntmps48
  go_wp2
  go_loopw [1, 5] (fun y i wr => SzU l (x - (n : Int)) w y i wr) (fun _ i _ => n - (intOf i).toNat)
  case atStart => exact ⟨0, x - (n : Int), by omega, rfl, by go_num, by omega, by omega, fun j _ h => by omega, Below.refl _ _⟩
  case round =>
    obtain ⟨m, y, hm, rfl, rfl, hy0, hy1, HJ, hbel⟩ := hrel
    by_cases hlt : m < n
    · have ea := HA.out (by omega)
      subst ea
      obtain ⟨c0, c1, c2⟩ := (HRS.out.later hbel).chg m (by omega)
      obtain ⟨X, hX⟩ : ∃ X, l[m]'(by omega) = X := ⟨_, rfl⟩
      rw [hX] at c0 c1 c2
      have hxs := HSZ.out X (by rw [← hX]; exact List.getElem_mem _)
      have HX : Hid (l[m]'(by omega) = X) := hX
      have i1 : (m : Int) < (n : Int) := by omega
      have i2 : (0 : Int) ≤ (m : Int) := by omega
      clear hX HSZ HA HRS
      go_wp2_with fail
      refine (szChange_any X y _ hy0 (by omega) hxs.1 hxs.2).mono ?_
      rintro e w1 ⟨A, rfl, hb1, hA1, hA2⟩
      have hbel1 := hbel.trans (hb1.mono hbel.size)
      have HA2 : Hid (0 ≤ A → SmallU1 X) := hA2
      clear hb1 hA2 c0 c1 c2 hbel hxs
      by_cases hneg : A < 0
      · clear HJ HX HA2
        go_wp2
        try rw [Exit.noGoto_ret]
        go_ret
        exact ⟨_, rfl, hbel1, by omega, fun h => by omega⟩
      · go_wp2
        go_roundw
        case rel =>
          refine ⟨m + 1, A, by omega, by go_num, rfl, by omega, by omega, ?_, hbel1⟩
          intro j hj hjl
          rcases Nat.lt_or_ge j m with h3 | h3
          · exact HJ.out j hj h3
          · have : j = m := by omega
            subst this
            rw [HX.out]
            exact HA2.out (by omega)
        case measure => simp [intOf]; omega
    · have hme : m = n := by omega
      have HF : Hid (RS 3 ucs w (.slice a n cap) g o l ∧ SmallUs l ∧ l.length ≤ 1048576) := ⟨HRS.out, fun f hf => by
        obtain ⟨j, hj, rfl⟩ := List.getElem_of_mem hf
        exact HJ.out j hj (by omega), by omega⟩
      subst hme
      clear HJ HA HRS HSZ
      go_wp2
      go_ret
      exact ⟨_, rfl, hbel, by omega, fun _ => HF.out⟩

end Go.Proofs.YthlgohplljcgfaaGreatDoor
