/-
  Texts laid together: Mf, Lk.
-/
import Derived.Test.YtiabodhgjeoejaaPkEx3
import Derived.Test.YtiabodhgjeoejaaPkEx13
import Derived.Test.YtiabodhgjeoejaaPkEx14
import Derived.Lib.QuietBelow
/-
  What the laws' own helpers write into the files of a disk, and find there again.
-/
namespace Go.Proofs.Ytiabodhgjeoejaa
open Go.RowKit Go.BigFrame Go.Sort
set_option linter.unusedVariables false
set_option linter.unusedSimpArgs false

def fmk (k0 j : Nat) : Fl := ⟨markB (k0 + 3 * j), markB (k0 + 3 * j + 1), ((k0 + 3 * j + 2 : Nat) : Int)⟩
def fmarks (k0 n : Nat) : List Fl := (List.range n).map (fmk k0)
theorem fmarks_len (k0 n : Nat) : (fmarks k0 n).length = n := by simp [fmarks]
theorem fmarks_at (k0 n j : Nat) (h : j < (fmarks k0 n).length) : (fmarks k0 n)[j] = fmk k0 j := by simp [fmarks]

theorem set_here {w : World} {g o : Nat} {u : Value} (h : w.cell? ⟨g, o, none⟩ = some u) (hf : w.frozen? ⟨g, o, none⟩ = false) (v : Value) : (w.setCell ⟨g, o, none⟩ v).cell? ⟨g, o, none⟩ = some v :=
  (World.rangeAt_setCells_same w g o [v] (fun j hj => by
    have : j = 0 := by simpa using hj
    subst this
    exact ⟨by rw [Nat.add_zero, h]; rfl, hf⟩)) 0 v rfl
theorem set_else {w : World} {g o o' : Nat} (h : o' ≠ o) (v : Value) : (w.setCell ⟨g, o, none⟩ v).cell? ⟨g, o', none⟩ = w.cell? ⟨g, o', none⟩ :=
  World.cell?_setCells_out g [v] o w ⟨g, o', none⟩ (fun _ _ => by simp; omega)
theorem set_there {w : World} {g b o n : Nat} (o' : Nat) (h : w.there b o n) (v : Value) : (w.setCell ⟨g, o', none⟩ v).there b o n := World.there_setCells h g o' [v]
theorem set_range {w : World} {g o o' : Nat} {cs : List Value} (h : w.rangeAt g o cs) (hn : o + cs.length ≤ o') (v : Value) : (w.setCell ⟨g, o', none⟩ v).rangeAt g o cs := World.rangeAt_setCells_apart h g o' [v] (.inr (.inl hn))

def rowF (g n : Nat) : Option Nat := if n = 0 then none else some g
theorem rowF_some {g n : Nat} (h : 0 < n) : rowF g n = some g := if_neg (by omega)
theorem rowF_ne {g k n : Nat} (h : 0 < n → k ≠ g) : some k ≠ rowF g n := by
  unfold rowF
  split
  · simp
  · have := h (by omega)
    simpa using this
theorem rowF_le {g n B : Nat} (h : B ≤ g) (q : Nat) (hq : rowF g n = some q) : B ≤ q := by
  unfold rowF at hq
  split at hq
  · cases hq
  · cases hq; exact h
/-- the first m files bear marks, and all may be written -/
def MfI (w : World) (g : Nat) (l : List Fl) (k0 m : Nat) (wr : World) : Prop := (∀ j, j < m → wr.rangeAt g (j * 3) (fcs (fmk k0 j))) ∧ (∀ j, j < l.length → wr.there g (j * 3) 3) ∧ w.grownBy wr (rowF g l.length)
theorem MfI.below {w wr wr' : World} {g : Nat} {l : List Fl} {k0 m : Nat} (h : MfI w g l k0 m wr) (hg : g < wr.heap.size) (hb : Below wr.heap.size wr wr') : MfI w g l k0 m wr' :=
  ⟨fun j hj => range_kept (h.1 j hj) (hb.block g hg), fun j hj => there_kept (h.2.1 j hj) (hb.block g hg), h.2.2.trans ((grown_below hb))⟩
theorem MfI.set {w wr : World} {g : Nat} {l : List Fl} {k0 m : Nat} (h : MfI w g l k0 m wr) (hm : m < l.length) (o : Nat) (ho : m * 3 ≤ o) (v : Value) : MfI w g l k0 m (wr.setCell ⟨g, o, none⟩ v) :=
  ⟨fun j hj => set_range (h.1 j hj) (by rw [fcs_len]; omega) v, fun j hj => set_there o (h.2.1 j hj) v, by
    have h3 := h.2.2
    rw [rowF_some (by omega)] at h3 ⊢
    exact h3.trans (grown_set wr g o v)⟩

def MfR (w : World) (g : Nat) (l : List Fl) (k0 : Nat) (x i : Value) (wr : World) : Prop := ∃ m : Nat, m ≤ l.length ∧ i = .int .i64 m ∧ x = .int .i64 (k0 + 3 * m : Nat) ∧ Hid (MfI w g l k0 m wr)

def HfR (k0 n : Nat) (w : World) (x i : Value) (wr : World) : Prop := ∃ m : Nat, m ≤ n ∧ i = .int .i64 m ∧ x = .int .i64 (k0 + 3 * m : Nat) ∧ Below w.heap.size w wr

end Go.Proofs.Ytiabodhgjeoejaa
/-
  What the laws' own helpers write into a row of leaves, and find there again.
-/
namespace Go.Proofs.Ytiabodhgjeoejaa
open Go.RowKit Go.BigFrame Go.Sort
set_option linter.unusedVariables false
set_option linter.unusedSimpArgs false

def lmk (k0 j : Nat) : Le := ⟨markB (k0 + 2 * j), markB (k0 + 2 * j + 1)⟩
def lmarks (k0 n : Nat) : List Le := (List.range n).map (lmk k0)
theorem lmarks_len (k0 n : Nat) : (lmarks k0 n).length = n := by simp [lmarks]
theorem lmarks_at (k0 n j : Nat) (h : j < (lmarks k0 n).length) : (lmarks k0 n)[j] = lmk k0 j := by simp [lmarks]

/-- the first m leaves bear marks, and all may be written -/
def MlI (w : World) (g : Nat) (l : List Le) (k0 m : Nat) (wr : World) : Prop := (∀ j, j < m → wr.rangeAt g (j * 2) (lcs (lmk k0 j))) ∧ (∀ j, j < l.length → wr.there g (j * 2) 2) ∧ w.grownBy wr (rowF g l.length)
theorem MlI.below {w wr wr' : World} {g : Nat} {l : List Le} {k0 m : Nat} (h : MlI w g l k0 m wr) (hg : g < wr.heap.size) (hb : Below wr.heap.size wr wr') : MlI w g l k0 m wr' :=
  ⟨fun j hj => range_kept (h.1 j hj) (hb.block g hg), fun j hj => there_kept (h.2.1 j hj) (hb.block g hg), h.2.2.trans ((grown_below hb))⟩
theorem MlI.set {w wr : World} {g : Nat} {l : List Le} {k0 m : Nat} (h : MlI w g l k0 m wr) (hm : m < l.length) (o : Nat) (ho : m * 2 ≤ o) (v : Value) : MlI w g l k0 m (wr.setCell ⟨g, o, none⟩ v) :=
  ⟨fun j hj => set_range (h.1 j hj) (by rw [lcs_len]; omega) v, fun j hj => set_there o (h.2.1 j hj) v, by
    have h3 := h.2.2
    rw [rowF_some (by omega)] at h3 ⊢
    exact h3.trans (grown_set wr g o v)⟩

def MlR (w : World) (g : Nat) (l : List Le) (k0 : Nat) (x i : Value) (wr : World) : Prop := ∃ m : Nat, m ≤ l.length ∧ i = .int .i64 m ∧ x = .int .i64 (k0 + 2 * m : Nat) ∧ Hid (MlI w g l k0 m wr)

set_option maxRecDepth 100000 in
set_option maxHeartbeats 1000000 in
theorem markLeafS_any (v : Value) (g : Nat) (l : List Le) (x : Int) (k0 : Nat) (w : World) (hx : x = (k0 : Int)) (h : RW 2 lcs w v g l) (h0 : 0 < k0) (hk : k0 ≤ 10000000) :
    Calls Try.prog 33 #[v, .int .i64 x] w fun e w' => e = .returned (.int .i64 (k0 + 2 * l.length : Nat)) ∧ RW 2 lcs w' v g (lmarks k0 l.length) ∧ w.grownBy w' (rowF g l.length) := by
  subst hx
  obtain ⟨⟨a, cap, rfl, hl, hA, hc⟩, ht⟩ := h
  obtain ⟨n, hn⟩ : ∃ n, l.length = n := ⟨_, rfl⟩
  have HA : Hid (0 < n → a = some ⟨g, 0, none⟩ ∧ g < w.heap.size) := by rw [← hn]; exact hA
  have HST : Hid (MlR w g l k0 (.int .i64 k0) (.int .i64 0) w) := ⟨0, by omega, rfl, rfl, fun j h => by omega, ht, ⟨rfl, rfl, rfl, Nat.le_refl _, fun _ _ _ => rfl⟩⟩
  rw [hn] at hl
  rw [hn]
  clear hA hc ht
  go_enter Try.func33, Try.ntmps33
  go_wp2
  go_loopw [1, 5] (fun x i wr => MlR w g l k0 x i wr) (fun _ i _ => n - (intOf i).toNat)
  case atStart => exact HST.out
  case round =>
    obtain ⟨m, hm, rfl, rfl, HI⟩ := hrel
    clear HST
    rw [hn] at hm
    by_cases hlt : m < n
    · obtain ⟨ea, hgw⟩ := HA.out (by omega)
      subst ea
      have hgr : g < wr.heap.size := Nat.lt_of_lt_of_le hgw HI.out.2.2.size
      have i1 : (m : Int) < (n : Int) := by omega
      have i2 : (0 : Int) ≤ (m : Int) := by omega
      go_wp2_with fail
      refine (markText_int _ (k0 + 2 * m) _ (by omega) (by omega) (by omega)).mono ?_
      rintro e w1 ⟨rfl, hb1⟩
      have hgr1 : g < w1.heap.size := Nat.lt_of_lt_of_le hgr hb1.size
      have HI1 : Hid (MlI w g l k0 m w1) := HI.out.below hgr hb1
      obtain ⟨⟨o0, x0⟩, ⟨o1, x1⟩, f0, f1⟩ := there2 (HI1.out.2.1 m (by omega))
      have HI2 : Hid (MlI w g l k0 m (w1.setCell ⟨g, m * 2, none⟩ (.string (markB (k0 + 2 * m)))) ∧ (w1.setCell ⟨g, m * 2, none⟩ (.string (markB (k0 + 2 * m)))).cell? ⟨g, m * 2, none⟩ = some (.string (markB (k0 + 2 * m)))) := ⟨HI1.out.set (by omega) _ (by omega) _, set_here x0 f0 _⟩
      clear HI HI1 hb1
      go_wp2_with fail
      refine (markText_int _ (k0 + 2 * m + 1) _ (by omega) (by omega) (by omega)).mono ?_
      rintro e w2 ⟨rfl, hb2⟩
      have hgr2' : g < (w1.setCell ⟨g, m * 2, none⟩ (.string (markB (k0 + 2 * m)))).heap.size := by simpa using hgr1
      have hgr2 : g < w2.heap.size := Nat.lt_of_lt_of_le hgr2' hb2.size
      have HI3 : Hid (MlI w g l k0 m w2 ∧ w2.cell? ⟨g, m * 2, none⟩ = some (.string (markB (k0 + 2 * m)))) := ⟨HI2.out.1.below hgr2' hb2, (hb2.cell (p := ⟨g, m * 2, none⟩) hgr2').trans HI2.out.2⟩
      clear HI2 hb2 x0 x1 f0 f1 o0 o1
      obtain ⟨⟨o0, x0⟩, ⟨o1, x1⟩, f0, f1⟩ := there2 (HI3.out.1.2.1 m (by omega))
      have HI5 : Hid (MlI w g l k0 (m + 1) (w2.setCell ⟨g, m * 2 + 1, none⟩ (.string (markB (k0 + 2 * m + 1))))) := by
        have h4 := HI3.out.1.set (by omega) (m * 2 + 1) (by omega) (.string (markB (k0 + 2 * m + 1)))
        refine ⟨fun j hj => ?_, h4.2⟩
        rcases Nat.lt_or_ge j m with h5 | h5
        · exact h4.1 j h5
        · have : j = m := by omega
          subst this
          refine range2 ?_ ?_
          · rw [set_else (by omega)]; exact HI3.out.2
          · exact set_here x1 f1 _
      clear HI3 hgr2' hgr1 hgr
      generalize markB (k0 + 2 * m) = K0 at *
      generalize markB (k0 + 2 * m + 1) = K1 at *
      go_wp2
      go_roundw
      case rel => exact ⟨m + 1, by omega, by go_num, by go_num, HI5⟩
      case measure => simp [intOf]; omega
    · have hme : m = n := by omega
      have HF : Hid (RW 2 lcs wr (.slice a n cap) g (lmarks k0 n) ∧ w.grownBy wr (rowF g n)) := by
        obtain ⟨h1, h2, h3⟩ := HI.out
        rw [hn] at h3
        refine ⟨⟨⟨a, cap, by rw [lmarks_len], by rw [lmarks_len]; omega, fun hp => ?_, fun j hj => ?_⟩, fun j hj => ?_⟩, h3⟩
        · rw [lmarks_len] at hp
          exact ⟨(HA.out hp).1, Nat.lt_of_lt_of_le (HA.out hp).2 h3.size⟩
        · rw [lmarks_at, Nat.zero_add]
          rw [lmarks_len] at hj
          exact h1 j (by omega)
        · rw [lmarks_len] at hj
          exact h2 j (by omega)
      subst hme
      clear HI HA
      go_wp2
      go_ret
      exact ⟨rfl, HF.out.1, HF.out.2⟩

def HlR (k0 n : Nat) (w : World) (x i : Value) (wr : World) : Prop := ∃ m : Nat, m ≤ n ∧ i = .int .i64 m ∧ x = .int .i64 (k0 + 2 * m : Nat) ∧ Below w.heap.size w wr

set_option maxRecDepth 100000 in
set_option maxHeartbeats 1000000 in
theorem heldLeafS_any (v : Value) (g : Nat) (x : Int) (k0 n : Nat) (w : World) (hx : x = (k0 : Int)) (h : RS 2 lcs w v g 0 (lmarks k0 n)) (h0 : 0 < k0) (hk : k0 ≤ 10000000) :
    Calls Try.prog 34 #[v, .int .i64 x] w fun e w' => e = .returned (.int .i64 (k0 + 2 * n : Nat)) ∧ Below w.heap.size w w' := by
  subst hx
  have HV : Hid (RS 2 lcs w v g 0 (lmarks k0 n)) := h
  obtain ⟨a, cap, rfl, hl, hA, hc⟩ := h
  rw [lmarks_len] at *
  have HA : Hid (0 < n → a = some ⟨g, 0, none⟩) := fun h => (hA h).1
  clear hA hc
  go_enter Try.func34, Try.ntmps34
  go_wp2
  go_loopw [1, 5] (fun x i wr => HlR k0 n w x i wr) (fun _ i _ => n - (intOf i).toNat)
  case atStart => exact ⟨0, by omega, rfl, rfl, Below.refl _ _⟩
  case round =>
    obtain ⟨m, hm, rfl, rfl, hbel⟩ := hrel
    by_cases hlt : m < n
    · have ea := HA.out (by omega)
      subst ea
      obtain ⟨c0, c1⟩ := (HV.out.later hbel).leaf m (by rw [lmarks_len]; exact hlt)
      rw [lmarks_at] at c0 c1
      simp only [lmk, Nat.zero_add] at c0 c1
      have hg6 : g < wr.heap.size := lt_of_cell c0
      have i1 : (m : Int) < (n : Int) := by omega
      have i2 : (0 : Int) ≤ (m : Int) := by omega
      have HM0 : Hid (∀ W, Calls Try.prog 70 #[.int .i64 ((k0 + 2 * m : Nat) : Int)] W fun e w' => e = .returned (.string (markB (k0 + 2 * m))) ∧ Below W.heap.size W w') := fun W => markText_int _ _ W rfl (by omega) (by omega)
      have HM1 : Hid (∀ W, Calls Try.prog 70 #[.int .i64 ((k0 + 2 * m + 1 : Nat) : Int)] W fun e w' => e = .returned (.string (markB (k0 + 2 * m + 1))) ∧ Below W.heap.size W w') := fun W => markText_int _ _ W rfl (by omega) (by omega)
      generalize markB (k0 + 2 * m) = K0 at *
      generalize markB (k0 + 2 * m + 1) = K1 at *
      clear HV HA
      go_wp2
      have kq0 := cell_regrown (w := wr) c0
      have cq0 := fun d os => Calls.regrown_of (w := wr) (d := d) (os := os) (HM0.out _)
      refine wp_region_quiet_below (by kernel_rfl) (by kernel_rfl) ?_
      repeat (go_big_quiet_step (first | exact cq0 _ _))
      refine wpQuiet_nil ?_
      rintro _ ⟨⟨dq, osq⟩, rfl⟩
      have hb6 := below_regrown (wr) dq osq
      generalize grow (redrawn (wr) dq) osq = w6 at *
      clear kq0 cq0
      have c1' : w6.cell? ⟨g, m * 2 + 1, none⟩ = some (.string K1) := (hb6.cell (p := ⟨g, m * 2 + 1, none⟩) hg6).trans c1
      clear c0 c1
      have c1 := c1'
      clear c1'
      go_wp2
      have kq0 := cell_regrown (w := w6) c1
      have cq0 := fun d os => Calls.regrown_of (w := w6) (d := d) (os := os) (HM1.out _)
      refine wp_region_quiet_below (by kernel_rfl) (by kernel_rfl) ?_
      repeat (go_big_quiet_step (first | exact cq0 _ _))
      refine wpQuiet_nil ?_
      rintro _ ⟨⟨dq, osq⟩, rfl⟩
      have hb7 := below_regrown (w6) dq osq
      generalize grow (redrawn (w6) dq) osq = w7 at *
      clear kq0 cq0 c1
      have hb8 := hbel.trans ((hb6.trans (hb7.mono hb6.size)).mono hbel.size)
      go_wp2
      go_roundw
      case rel => exact ⟨m + 1, by omega, by go_num, by go_num, hb8⟩
      case measure => simp [intOf]; omega
    · have hme : m = n := by omega
      subst hme
      clear HV HA
      go_wp2
      go_ret
      exact ⟨rfl, hbel⟩

end Go.Proofs.Ytiabodhgjeoejaa
