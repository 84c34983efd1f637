/-
  Texts laid together: Mf, Lk, La, Cs.
-/
import Derived.Test.YthlgohplljcgfaaGreatDoorPkESN1
import Derived.Test.YthlgohplljcgfaaGreatDoorPkESN6
import Derived.Lib.QuietBelow
import Derived.Deep.AppendLies
import Derived.Deep.RegionLaw
import Derived.Shelf.Small.Strs
import Derived.Test.YthlgohplljcgfaaGreatDoorProg
/-
  What the laws' own helpers write into the files of a disk, and find there again.
-/
namespace Go.Proofs.YthlgohplljcgfaaGreatDoor
open Go.RowKit Go.BigFrame Go.Sort
set_option linter.unusedVariables false
set_option linter.unusedSimpArgs false

def fmk (k0 j : Nat) : Fl := ⟨markB (k0 + 3 * j), markB (k0 + 3 * j + 1), ((k0 + 3 * j + 2 : Nat) : Int)⟩
def fmarks (k0 n : Nat) : List Fl := (List.range n).map (fmk k0)
theorem fmarks_len (k0 n : Nat) : (fmarks k0 n).length = n := by simp [fmarks]
theorem fmarks_at (k0 n j : Nat) (h : j < (fmarks k0 n).length) : (fmarks k0 n)[j] = fmk k0 j := by simp [fmarks]

theorem set_here {w : World} {g o : Nat} {u : Value} (h : w.cell? ⟨g, o, none⟩ = some u) (hf : w.frozen? ⟨g, o, none⟩ = false) (v : Value) : (w.setCell ⟨g, o, none⟩ v).cell? ⟨g, o, none⟩ = some v :=
  (World.rangeAt_setCells_same w g o [v] (fun j hj => by
    have : j = 0 := by simpa using hj
    subst this
    exact ⟨by rw [Nat.add_zero, h]; rfl, hf⟩)) 0 v rfl
theorem set_else {w : World} {g o o' : Nat} (h : o' ≠ o) (v : Value) : (w.setCell ⟨g, o, none⟩ v).cell? ⟨g, o', none⟩ = w.cell? ⟨g, o', none⟩ :=
  World.cell?_setCells_out g [v] o w ⟨g, o', none⟩ (fun _ _ => by simp; omega)
theorem set_there {w : World} {g b o n : Nat} (o' : Nat) (h : w.there b o n) (v : Value) : (w.setCell ⟨g, o', none⟩ v).there b o n := World.there_setCells h g o' [v]
theorem set_range {w : World} {g o o' : Nat} {cs : List Value} (h : w.rangeAt g o cs) (hn : o + cs.length ≤ o') (v : Value) : (w.setCell ⟨g, o', none⟩ v).rangeAt g o cs := World.rangeAt_setCells_apart h g o' [v] (.inr (.inl hn))

def rowF (g n : Nat) : Option Nat := if n = 0 then none else some g
theorem rowF_some {g n : Nat} (h : 0 < n) : rowF g n = some g := if_neg (by omega)
theorem rowF_ne {g k n : Nat} (h : 0 < n → k ≠ g) : some k ≠ rowF g n := by
  unfold rowF
  split
  · simp
  · have := h (by omega)
    simpa using this
theorem rowF_le {g n B : Nat} (h : B ≤ g) (q : Nat) (hq : rowF g n = some q) : B ≤ q := by
  unfold rowF at hq
  split at hq
  · cases hq
  · cases hq; exact h
/-- the first m files bear marks, and all may be written -/
def MfI (w : World) (g : Nat) (l : List Fl) (k0 m : Nat) (wr : World) : Prop := (∀ j, j < m → wr.rangeAt g (j * 3) (fcs (fmk k0 j))) ∧ (∀ j, j < l.length → wr.there g (j * 3) 3) ∧ w.grownBy wr (rowF g l.length)
theorem MfI.below {w wr wr' : World} {g : Nat} {l : List Fl} {k0 m : Nat} (h : MfI w g l k0 m wr) (hg : g < wr.heap.size) (hb : Below wr.heap.size wr wr') : MfI w g l k0 m wr' :=
  ⟨fun j hj => range_kept (h.1 j hj) (hb.block g hg), fun j hj => there_kept (h.2.1 j hj) (hb.block g hg), h.2.2.trans ((grown_below hb))⟩
theorem MfI.set {w wr : World} {g : Nat} {l : List Fl} {k0 m : Nat} (h : MfI w g l k0 m wr) (hm : m < l.length) (o : Nat) (ho : m * 3 ≤ o) (v : Value) : MfI w g l k0 m (wr.setCell ⟨g, o, none⟩ v) :=
  ⟨fun j hj => set_range (h.1 j hj) (by rw [fcs_len]; omega) v, fun j hj => set_there o (h.2.1 j hj) v, by
    have h3 := h.2.2
    rw [rowF_some (by omega)] at h3 ⊢
    exact h3.trans (grown_set wr g o v)⟩

def MfR (w : World) (g : Nat) (l : List Fl) (k0 : Nat) (x i : Value) (wr : World) : Prop := ∃ m : Nat, m ≤ l.length ∧ i = .int .i64 m ∧ x = .int .i64 (k0 + 3 * m : Nat) ∧ Hid (MfI w g l k0 m wr)

set_option maxRecDepth 100000 in
set_option maxHeartbeats 1000000 in
theorem markFileS_any (v : Value) (g : Nat) (l : List Fl) (x : Int) (k0 : Nat) (w : World) (hx : x = (k0 : Int)) (h : RW 3 fcs w v g l) (h0 : 0 < k0) (hk : k0 ≤ 10000000) :
    Calls Tryz.prog 39 #[v, .int .i64 x] w fun e w' => e = .returned (.int .i64 (k0 + 3 * l.length : Nat)) ∧ RW 3 fcs w' v g (fmarks k0 l.length) ∧ w.grownBy w' (rowF g l.length) := by
  subst hx
  obtain ⟨⟨a, cap, rfl, hl, hA, hc⟩, ht⟩ := h
  obtain ⟨n, hn⟩ : ∃ n, l.length = n := ⟨_, rfl⟩
  have HA : Hid (0 < n → a = some ⟨g, 0, none⟩ ∧ g < w.heap.size) := by rw [← hn]; exact hA
  have HST : Hid (MfR w g l k0 (.int .i64 k0) (.int .i64 0) w) := ⟨0, by omega, rfl, rfl, fun j h => by omega, ht, ⟨rfl, rfl, rfl, Nat.le_refl _, fun _ _ _ => rfl⟩⟩
  rw [hn] at hl
  rw [hn]
  clear hA hc ht
  go_enter Tryz.func39, Tryz.ntmps39
  go_wp2
  go_loopw [1, 5] (fun x i wr => MfR w g l k0 x i wr) (fun _ i _ => n - (intOf i).toNat)
  case atStart => exact HST.out
  case round =>
    obtain ⟨m, hm, rfl, rfl, HI⟩ := hrel
    clear HST
    rw [hn] at hm
    by_cases hlt : m < n
    · obtain ⟨ea, hgw⟩ := HA.out (by omega)
      subst ea
      have hgr : g < wr.heap.size := Nat.lt_of_lt_of_le hgw HI.out.2.2.size
      have i1 : (m : Int) < (n : Int) := by omega
      have i2 : (0 : Int) ≤ (m : Int) := by omega
      go_wp2_with fail
      refine (markText_int _ (k0 + 3 * m) _ (by omega) (by omega) (by omega)).mono ?_
      rintro e w1 ⟨rfl, hb1⟩
      have hgr1 : g < w1.heap.size := Nat.lt_of_lt_of_le hgr hb1.size
      have HI1 : Hid (MfI w g l k0 m w1) := HI.out.below hgr hb1
      obtain ⟨⟨o0, x0⟩, ⟨o1, x1⟩, ⟨o2, x2⟩, f0, f1, f2⟩ := there3 (HI1.out.2.1 m (by omega))
      have HI2 : Hid (MfI w g l k0 m (w1.setCell ⟨g, m * 3, none⟩ (.string (markB (k0 + 3 * m)))) ∧ (w1.setCell ⟨g, m * 3, none⟩ (.string (markB (k0 + 3 * m)))).cell? ⟨g, m * 3, none⟩ = some (.string (markB (k0 + 3 * m)))) := ⟨HI1.out.set (by omega) _ (by omega) _, set_here x0 f0 _⟩
      clear HI HI1 hb1
      go_wp2_with fail
      refine (markText_int _ (k0 + 3 * m + 1) _ (by omega) (by omega) (by omega)).mono ?_
      rintro e w2 ⟨rfl, hb2⟩
      have hgr2' : g < (w1.setCell ⟨g, m * 3, none⟩ (.string (markB (k0 + 3 * m)))).heap.size := by simpa using hgr1
      have hgr2 : g < w2.heap.size := Nat.lt_of_lt_of_le hgr2' hb2.size
      have HI3 : Hid (MfI w g l k0 m w2 ∧ w2.cell? ⟨g, m * 3, none⟩ = some (.string (markB (k0 + 3 * m)))) := ⟨HI2.out.1.below hgr2' hb2, (hb2.cell (p := ⟨g, m * 3, none⟩) hgr2').trans HI2.out.2⟩
      clear HI2 hb2 x0 x1 x2 f0 f1 f2 o0 o1 o2
      obtain ⟨⟨o0, x0⟩, ⟨o1, x1⟩, ⟨o2, x2⟩, f0, f1, f2⟩ := there3 (HI3.out.1.2.1 m (by omega))
      have HI5 : Hid (MfI w g l k0 (m + 1) ((w2.setCell ⟨g, m * 3 + 1, none⟩ (.string (markB (k0 + 3 * m + 1)))).setCell ⟨g, m * 3 + 2, none⟩ (.int .i64 (k0 + 3 * m + 2 : Nat)))) := by
        have h4 := (HI3.out.1.set (by omega) (m * 3 + 1) (by omega) (.string (markB (k0 + 3 * m + 1)))).set (by omega) (m * 3 + 2) (by omega) (.int .i64 (k0 + 3 * m + 2 : Nat))
        refine ⟨fun j hj => ?_, h4.2⟩
        rcases Nat.lt_or_ge j m with h5 | h5
        · exact h4.1 j h5
        · have : j = m := by omega
          subst this
          refine range3 ?_ ?_ ?_
          · rw [set_else (by omega), set_else (by omega)]; exact HI3.out.2
          · rw [set_else (by omega)]; exact set_here x1 f1 _
          · refine set_here (u := o2) ?_ ?_ _
            · rw [set_else (by omega)]; exact x2
            · rw [World.frozen?_setCell]; exact f2
      clear HI3 hgr2' hgr1 hgr
      generalize markB (k0 + 3 * m) = K0 at *
      generalize markB (k0 + 3 * m + 1) = K1 at *
      go_wp2
      go_roundw
      case rel => exact ⟨m + 1, by omega, by go_num, by go_num, HI5⟩
      case measure => simp [intOf]; omega
    · have hme : m = n := by omega
      have HF : Hid (RW 3 fcs wr (.slice a n cap) g (fmarks k0 n) ∧ w.grownBy wr (rowF g n)) := by
        obtain ⟨h1, h2, h3⟩ := HI.out
        rw [hn] at h3
        refine ⟨⟨⟨a, cap, by rw [fmarks_len], by rw [fmarks_len]; omega, fun hp => ?_, fun j hj => ?_⟩, fun j hj => ?_⟩, h3⟩
        · rw [fmarks_len] at hp
          exact ⟨(HA.out hp).1, Nat.lt_of_lt_of_le (HA.out hp).2 h3.size⟩
        · rw [fmarks_at, Nat.zero_add]
          rw [fmarks_len] at hj
          exact h1 j (by omega)
        · rw [fmarks_len] at hj
          exact h2 j (by omega)
      subst hme
      clear HI HA
      go_wp2
      go_ret
      exact ⟨rfl, HF.out.1, HF.out.2⟩

def HfR (k0 n : Nat) (w : World) (x i : Value) (wr : World) : Prop := ∃ m : Nat, m ≤ n ∧ i = .int .i64 m ∧ x = .int .i64 (k0 + 3 * m : Nat) ∧ Below w.heap.size w wr

set_option maxRecDepth 100000 in
set_option maxHeartbeats 1000000 in
theorem heldFileS_any (v : Value) (g : Nat) (x : Int) (k0 n : Nat) (w : World) (hx : x = (k0 : Int)) (h : RS 3 fcs w v g 0 (fmarks k0 n)) (h0 : 0 < k0) (hk : k0 ≤ 10000000) :
    Calls Tryz.prog 87 #[v, .int .i64 x] w fun e w' => e = .returned (.int .i64 (k0 + 3 * n : Nat)) ∧ Below w.heap.size w w' := by
  subst hx
  have HV : Hid (RS 3 fcs w v g 0 (fmarks k0 n)) := h
  obtain ⟨a, cap, rfl, hl, hA, hc⟩ := h
  rw [fmarks_len] at *
  have HA : Hid (0 < n → a = some ⟨g, 0, none⟩) := fun h => (hA h).1
  clear hA hc
  go_enter Tryz.func87, Tryz.ntmps87
  go_wp2
  go_loopw [1, 5] (fun x i wr => HfR k0 n w x i wr) (fun _ i _ => n - (intOf i).toNat)
  case atStart => exact ⟨0, by omega, rfl, rfl, Below.refl _ _⟩
  case round =>
    obtain ⟨m, hm, rfl, rfl, hbel⟩ := hrel
    by_cases hlt : m < n
    · have ea := HA.out (by omega)
      subst ea
      obtain ⟨c0, c1, c2⟩ := (HV.out.later hbel).file m (by rw [fmarks_len]; exact hlt)
      rw [fmarks_at] at c0 c1 c2
      simp only [fmk, Nat.zero_add] at c0 c1 c2
      have hg6 : g < wr.heap.size := lt_of_cell c0
      have i1 : (m : Int) < (n : Int) := by omega
      have i2 : (0 : Int) ≤ (m : Int) := by omega
      have HM0 : Hid (∀ W, Calls Tryz.prog 85 #[.int .i64 ((k0 + 3 * m : Nat) : Int)] W fun e w' => e = .returned (.string (markB (k0 + 3 * m))) ∧ Below W.heap.size W w') := fun W => markText_int _ _ W rfl (by omega) (by omega)
      have HM1 : Hid (∀ W, Calls Tryz.prog 85 #[.int .i64 ((k0 + 3 * m + 1 : Nat) : Int)] W fun e w' => e = .returned (.string (markB (k0 + 3 * m + 1))) ∧ Below W.heap.size W w') := fun W => markText_int _ _ W rfl (by omega) (by omega)
      generalize markB (k0 + 3 * m) = K0 at *
      generalize markB (k0 + 3 * m + 1) = K1 at *
      clear HV HA
      go_wp2
      have kq0 := cell_regrown (w := wr) c0
      have cq0 := fun d os => Calls.regrown_of (w := wr) (d := d) (os := os) (HM0.out _)
      refine wp_region_quiet_below (by kernel_rfl) (by kernel_rfl) ?_
      repeat (go_big_quiet_step (first | exact cq0 _ _))
      refine wpQuiet_nil ?_
      rintro _ ⟨⟨dq, osq⟩, rfl⟩
      have hb6 := below_regrown (wr) dq osq
      generalize grow (redrawn (wr) dq) osq = w6 at *
      clear kq0 cq0
      have c1' : w6.cell? ⟨g, m * 3 + 1, none⟩ = some (.string K1) := (hb6.cell (p := ⟨g, m * 3 + 1, none⟩) hg6).trans c1
      have c2' : w6.cell? ⟨g, m * 3 + 2, none⟩ = some (.int .i64 ((k0 + 3 * m + 2 : Nat) : Int)) := (hb6.cell (p := ⟨g, m * 3 + 2, none⟩) hg6).trans c2
      have hg7 : g < w6.heap.size := Nat.lt_of_lt_of_le hg6 hb6.size
      clear c0 c1 c2
      have c1 := c1'
      clear c1'
      go_wp2
      have kq0 := cell_regrown (w := w6) c1
      have cq0 := fun d os => Calls.regrown_of (w := w6) (d := d) (os := os) (HM1.out _)
      refine wp_region_quiet_below (by kernel_rfl) (by kernel_rfl) ?_
      repeat (go_big_quiet_step (first | exact cq0 _ _))
      refine wpQuiet_nil ?_
      rintro _ ⟨⟨dq, osq⟩, rfl⟩
      have hb7 := below_regrown (w6) dq osq
      generalize grow (redrawn (w6) dq) osq = w7 at *
      clear kq0 cq0
      have c2 : w7.cell? ⟨g, m * 3 + 2, none⟩ = some (.int .i64 ((k0 + 3 * m + 2 : Nat) : Int)) := (hb7.cell (p := ⟨g, m * 3 + 2, none⟩) hg7).trans c2'
      clear c2' c1
      have hb8 := hbel.trans ((hb6.trans (hb7.mono hb6.size)).mono hbel.size)
      go_wp2
      go_roundw
      case rel => exact ⟨m + 1, by omega, by go_num, by go_num, hb8⟩
      case measure => simp [intOf]; omega
    · have hme : m = n := by omega
      subst hme
      clear HV HA
      go_wp2
      go_ret
      exact ⟨rfl, hbel⟩

end Go.Proofs.YthlgohplljcgfaaGreatDoor
/-
  What the laws' own helpers write into a row of leaves, and find there again.
-/
namespace Go.Proofs.YthlgohplljcgfaaGreatDoor
open Go.RowKit Go.BigFrame Go.Sort
set_option linter.unusedVariables false
set_option linter.unusedSimpArgs false

def lmk (k0 j : Nat) : Le := ⟨markB (k0 + 2 * j), markB (k0 + 2 * j + 1)⟩
def lmarks (k0 n : Nat) : List Le := (List.range n).map (lmk k0)
theorem lmarks_len (k0 n : Nat) : (lmarks k0 n).length = n := by simp [lmarks]
theorem lmarks_at (k0 n j : Nat) (h : j < (lmarks k0 n).length) : (lmarks k0 n)[j] = lmk k0 j := by simp [lmarks]

/-- the first m leaves bear marks, and all may be written -/
def MlI (w : World) (g : Nat) (l : List Le) (k0 m : Nat) (wr : World) : Prop := (∀ j, j < m → wr.rangeAt g (j * 2) (lcs (lmk k0 j))) ∧ (∀ j, j < l.length → wr.there g (j * 2) 2) ∧ w.grownBy wr (rowF g l.length)
theorem MlI.below {w wr wr' : World} {g : Nat} {l : List Le} {k0 m : Nat} (h : MlI w g l k0 m wr) (hg : g < wr.heap.size) (hb : Below wr.heap.size wr wr') : MlI w g l k0 m wr' :=
  ⟨fun j hj => range_kept (h.1 j hj) (hb.block g hg), fun j hj => there_kept (h.2.1 j hj) (hb.block g hg), h.2.2.trans ((grown_below hb))⟩
theorem MlI.set {w wr : World} {g : Nat} {l : List Le} {k0 m : Nat} (h : MlI w g l k0 m wr) (hm : m < l.length) (o : Nat) (ho : m * 2 ≤ o) (v : Value) : MlI w g l k0 m (wr.setCell ⟨g, o, none⟩ v) :=
  ⟨fun j hj => set_range (h.1 j hj) (by rw [lcs_len]; omega) v, fun j hj => set_there o (h.2.1 j hj) v, by
    have h3 := h.2.2
    rw [rowF_some (by omega)] at h3 ⊢
    exact h3.trans (grown_set wr g o v)⟩

def MlR (w : World) (g : Nat) (l : List Le) (k0 : Nat) (x i : Value) (wr : World) : Prop := ∃ m : Nat, m ≤ l.length ∧ i = .int .i64 m ∧ x = .int .i64 (k0 + 2 * m : Nat) ∧ Hid (MlI w g l k0 m wr)

set_option maxRecDepth 100000 in
set_option maxHeartbeats 1000000 in
theorem markLeafS_any (v : Value) (g : Nat) (l : List Le) (x : Int) (k0 : Nat) (w : World) (hx : x = (k0 : Int)) (h : RW 2 lcs w v g l) (h0 : 0 < k0) (hk : k0 ≤ 10000000) :
    Calls Tryz.prog 86 #[v, .int .i64 x] w fun e w' => e = .returned (.int .i64 (k0 + 2 * l.length : Nat)) ∧ RW 2 lcs w' v g (lmarks k0 l.length) ∧ w.grownBy w' (rowF g l.length) := by
  subst hx
  obtain ⟨⟨a, cap, rfl, hl, hA, hc⟩, ht⟩ := h
  obtain ⟨n, hn⟩ : ∃ n, l.length = n := ⟨_, rfl⟩
  have HA : Hid (0 < n → a = some ⟨g, 0, none⟩ ∧ g < w.heap.size) := by rw [← hn]; exact hA
  have HST : Hid (MlR w g l k0 (.int .i64 k0) (.int .i64 0) w) := ⟨0, by omega, rfl, rfl, fun j h => by omega, ht, ⟨rfl, rfl, rfl, Nat.le_refl _, fun _ _ _ => rfl⟩⟩
  rw [hn] at hl
  rw [hn]
  clear hA hc ht
  go_enter Tryz.func86, Tryz.ntmps86
  go_wp2
  go_loopw [1, 5] (fun x i wr => MlR w g l k0 x i wr) (fun _ i _ => n - (intOf i).toNat)
  case atStart => exact HST.out
  case round =>
    obtain ⟨m, hm, rfl, rfl, HI⟩ := hrel
    clear HST
    rw [hn] at hm
    by_cases hlt : m < n
    · obtain ⟨ea, hgw⟩ := HA.out (by omega)
      subst ea
      have hgr : g < wr.heap.size := Nat.lt_of_lt_of_le hgw HI.out.2.2.size
      have i1 : (m : Int) < (n : Int) := by omega
      have i2 : (0 : Int) ≤ (m : Int) := by omega
      go_wp2_with fail
      refine (markText_int _ (k0 + 2 * m) _ (by omega) (by omega) (by omega)).mono ?_
      rintro e w1 ⟨rfl, hb1⟩
      have hgr1 : g < w1.heap.size := Nat.lt_of_lt_of_le hgr hb1.size
      have HI1 : Hid (MlI w g l k0 m w1) := HI.out.below hgr hb1
      obtain ⟨⟨o0, x0⟩, ⟨o1, x1⟩, f0, f1⟩ := there2 (HI1.out.2.1 m (by omega))
      have HI2 : Hid (MlI w g l k0 m (w1.setCell ⟨g, m * 2, none⟩ (.string (markB (k0 + 2 * m)))) ∧ (w1.setCell ⟨g, m * 2, none⟩ (.string (markB (k0 + 2 * m)))).cell? ⟨g, m * 2, none⟩ = some (.string (markB (k0 + 2 * m)))) := ⟨HI1.out.set (by omega) _ (by omega) _, set_here x0 f0 _⟩
      clear HI HI1 hb1
      go_wp2_with fail
      refine (markText_int _ (k0 + 2 * m + 1) _ (by omega) (by omega) (by omega)).mono ?_
      rintro e w2 ⟨rfl, hb2⟩
      have hgr2' : g < (w1.setCell ⟨g, m * 2, none⟩ (.string (markB (k0 + 2 * m)))).heap.size := by simpa using hgr1
      have hgr2 : g < w2.heap.size := Nat.lt_of_lt_of_le hgr2' hb2.size
      have HI3 : Hid (MlI w g l k0 m w2 ∧ w2.cell? ⟨g, m * 2, none⟩ = some (.string (markB (k0 + 2 * m)))) := ⟨HI2.out.1.below hgr2' hb2, (hb2.cell (p := ⟨g, m * 2, none⟩) hgr2').trans HI2.out.2⟩
      clear HI2 hb2 x0 x1 f0 f1 o0 o1
      obtain ⟨⟨o0, x0⟩, ⟨o1, x1⟩, f0, f1⟩ := there2 (HI3.out.1.2.1 m (by omega))
      have HI5 : Hid (MlI w g l k0 (m + 1) (w2.setCell ⟨g, m * 2 + 1, none⟩ (.string (markB (k0 + 2 * m + 1))))) := by
        have h4 := HI3.out.1.set (by omega) (m * 2 + 1) (by omega) (.string (markB (k0 + 2 * m + 1)))
        refine ⟨fun j hj => ?_, h4.2⟩
        rcases Nat.lt_or_ge j m with h5 | h5
        · exact h4.1 j h5
        · have : j = m := by omega
          subst this
          refine range2 ?_ ?_
          · rw [set_else (by omega)]; exact HI3.out.2
          · exact set_here x1 f1 _
      clear HI3 hgr2' hgr1 hgr
      generalize markB (k0 + 2 * m) = K0 at *
      generalize markB (k0 + 2 * m + 1) = K1 at *
      go_wp2
      go_roundw
      case rel => exact ⟨m + 1, by omega, by go_num, by go_num, HI5⟩
      case measure => simp [intOf]; omega
    · have hme : m = n := by omega
      have HF : Hid (RW 2 lcs wr (.slice a n cap) g (lmarks k0 n) ∧ w.grownBy wr (rowF g n)) := by
        obtain ⟨h1, h2, h3⟩ := HI.out
        rw [hn] at h3
        refine ⟨⟨⟨a, cap, by rw [lmarks_len], by rw [lmarks_len]; omega, fun hp => ?_, fun j hj => ?_⟩, fun j hj => ?_⟩, h3⟩
        · rw [lmarks_len] at hp
          exact ⟨(HA.out hp).1, Nat.lt_of_lt_of_le (HA.out hp).2 h3.size⟩
        · rw [lmarks_at, Nat.zero_add]
          rw [lmarks_len] at hj
          exact h1 j (by omega)
        · rw [lmarks_len] at hj
          exact h2 j (by omega)
      subst hme
      clear HI HA
      go_wp2
      go_ret
      exact ⟨rfl, HF.out.1, HF.out.2⟩

def HlR (k0 n : Nat) (w : World) (x i : Value) (wr : World) : Prop := ∃ m : Nat, m ≤ n ∧ i = .int .i64 m ∧ x = .int .i64 (k0 + 2 * m : Nat) ∧ Below w.heap.size w wr

set_option maxRecDepth 100000 in
set_option maxHeartbeats 1000000 in
theorem heldLeafS_any (v : Value) (g : Nat) (x : Int) (k0 n : Nat) (w : World) (hx : x = (k0 : Int)) (h : RS 2 lcs w v g 0 (lmarks k0 n)) (h0 : 0 < k0) (hk : k0 ≤ 10000000) :
    Calls Tryz.prog 88 #[v, .int .i64 x] w fun e w' => e = .returned (.int .i64 (k0 + 2 * n : Nat)) ∧ Below w.heap.size w w' := by
  subst hx
  have HV : Hid (RS 2 lcs w v g 0 (lmarks k0 n)) := h
  obtain ⟨a, cap, rfl, hl, hA, hc⟩ := h
  rw [lmarks_len] at *
  have HA : Hid (0 < n → a = some ⟨g, 0, none⟩) := fun h => (hA h).1
  clear hA hc
  go_enter Tryz.func88, Tryz.ntmps88
  go_wp2
  go_loopw [1, 5] (fun x i wr => HlR k0 n w x i wr) (fun _ i _ => n - (intOf i).toNat)
  case atStart => exact ⟨0, by omega, rfl, rfl, Below.refl _ _⟩
  case round =>
    obtain ⟨m, hm, rfl, rfl, hbel⟩ := hrel
    by_cases hlt : m < n
    · have ea := HA.out (by omega)
      subst ea
      obtain ⟨c0, c1⟩ := (HV.out.later hbel).leaf m (by rw [lmarks_len]; exact hlt)
      rw [lmarks_at] at c0 c1
      simp only [lmk, Nat.zero_add] at c0 c1
      have hg6 : g < wr.heap.size := lt_of_cell c0
      have i1 : (m : Int) < (n : Int) := by omega
      have i2 : (0 : Int) ≤ (m : Int) := by omega
      have HM0 : Hid (∀ W, Calls Tryz.prog 85 #[.int .i64 ((k0 + 2 * m : Nat) : Int)] W fun e w' => e = .returned (.string (markB (k0 + 2 * m))) ∧ Below W.heap.size W w') := fun W => markText_int _ _ W rfl (by omega) (by omega)
      have HM1 : Hid (∀ W, Calls Tryz.prog 85 #[.int .i64 ((k0 + 2 * m + 1 : Nat) : Int)] W fun e w' => e = .returned (.string (markB (k0 + 2 * m + 1))) ∧ Below W.heap.size W w') := fun W => markText_int _ _ W rfl (by omega) (by omega)
      generalize markB (k0 + 2 * m) = K0 at *
      generalize markB (k0 + 2 * m + 1) = K1 at *
      clear HV HA
      go_wp2
      have kq0 := cell_regrown (w := wr) c0
      have cq0 := fun d os => Calls.regrown_of (w := wr) (d := d) (os := os) (HM0.out _)
      refine wp_region_quiet_below (by kernel_rfl) (by kernel_rfl) ?_
      repeat (go_big_quiet_step (first | exact cq0 _ _))
      refine wpQuiet_nil ?_
      rintro _ ⟨⟨dq, osq⟩, rfl⟩
      have hb6 := below_regrown (wr) dq osq
      generalize grow (redrawn (wr) dq) osq = w6 at *
      clear kq0 cq0
      have c1' : w6.cell? ⟨g, m * 2 + 1, none⟩ = some (.string K1) := (hb6.cell (p := ⟨g, m * 2 + 1, none⟩) hg6).trans c1
      clear c0 c1
      have c1 := c1'
      clear c1'
      go_wp2
      have kq0 := cell_regrown (w := w6) c1
      have cq0 := fun d os => Calls.regrown_of (w := w6) (d := d) (os := os) (HM1.out _)
      refine wp_region_quiet_below (by kernel_rfl) (by kernel_rfl) ?_
      repeat (go_big_quiet_step (first | exact cq0 _ _))
      refine wpQuiet_nil ?_
      rintro _ ⟨⟨dq, osq⟩, rfl⟩
      have hb7 := below_regrown (w6) dq osq
      generalize grow (redrawn (w6) dq) osq = w7 at *
      clear kq0 cq0 c1
      have hb8 := hbel.trans ((hb6.trans (hb7.mono hb6.size)).mono hbel.size)
      go_wp2
      go_roundw
      case rel => exact ⟨m + 1, by omega, by go_num, by go_num, hb8⟩
      case measure => simp [intOf]; omega
    · have hme : m = n := by omega
      subst hme
      clear HV HA
      go_wp2
      go_ret
      exact ⟨rfl, hbel⟩

end Go.Proofs.YthlgohplljcgfaaGreatDoor
/-
  Rows of leaves that a call owns, grown leaf by leaf.
-/
namespace Go.Proofs.YthlgohplljcgfaaGreatDoor
open Go.RowKit Go.BigFrame Go.Sort
set_option linter.unusedVariables false
set_option linter.unusedSimpArgs false

/-- v owns the leaves l -/
def OL (B : Nat) (w0 w : World) (v : Value) (l : List Le) : Prop := OR 134 2 lcs B w0 w v l
theorem OL.later {B : Nat} {w0 w w' : World} {v : Value} {l : List Le} (h : OL B w0 w v l) (hb : Below w.heap.size w w') : OL B w0 w' v l := OR.later h hb
theorem OL.grown {B : Nat} {w0 w w' : World} {v : Value} {l : List Le} {row : Option Nat} (h : OL B w0 w v l) (hg : w.grownBy w' row) (hne : ∀ q, row = some q → B ≤ q ∧ v.ownBlock ≠ some q) : OL B w0 w' v l := OR.grown h hg hne
theorem OL.rw {B : Nat} {w0 w : World} {v : Value} {l : List Le} (h : OL B w0 w v l) (hl : l.length ≤ 1100000) : ∃ g, RW 2 lcs w v g l ∧ B ≤ g ∧ (∀ q, v.ownBlock = some q → q = g) := OR.rw (k := 2) (enc := lcs) (fun x => lcs_len x) (by omega) h hl
theorem OL.shape {B : Nat} {w0 w : World} {v : Value} {l : List Le} (h : OL B w0 w v l) : ∃ a c, v = .slice a l.length c := by
  rcases h.1.2 with ⟨hv, hn⟩ | ⟨g, cap, cur, hv, _⟩
  · exact ⟨none, 0, by rw [hv, hn]⟩
  · exact ⟨_, _, hv⟩
theorem OL.made (B : Nat) (w0 w : World) (hb : Below B w0 w) (hB : B ≤ w.heap.size) : OL B w0 (w.alloc (.cells #[] 134)) (.slice (some ⟨w.heap.size, 0, none⟩) 0 0) [] :=
  ⟨World.ownsRow_made w #[] 0 hB (by decide) (by simp), hb.alloc hB _, by simp; omega⟩
/-- its block is none of another type -/
theorem OL.ne {B : Nat} {w0 w : World} {u : Value} {l : List Le} {p T : Nat} {cs : Array Value} {fz : Nat × Nat} (h : OL B w0 w u l) (hb : w.heap[p]? = some (.cells cs T fz)) (hT : T ≠ 134) : u.ownBlock ≠ some p := by
  rcases h.1.2 with ⟨hv, _⟩ | ⟨g, cap, cur, hv, _, hg, _⟩
  · rw [hv]; simp [Value.ownBlock]
  · rw [hv]
    intro e
    have : g = p := by simpa [Value.ownBlock] using e
    subst this
    rw [hg] at hb
    simp at hb
    exact hT hb.2.1.symm

section
variable {w : World} {ops : Array Oper} {o : Oper} {a : Act} {K : Act → World → Prop} {Q : Exit → Act → World → Prop}
/-- a leaf appended, as one step of a region that draws its order -/
theorem step_leaf {E : Prop} (hgd : o.guard = none) (s x : Operand)
    (ho : o.op = .call { callee := .builtin .append, args := #[s, x], argTypes := #[59, 59] })
    (B : Nat) (w0 : World) (u : Value) (l : List Le) (f : Le) (hs : a.eval s = u) (h : OL B w0 w u l) (p : Nat) (hx : a.eval x = .slice (some ⟨p, 0, none⟩) 1 1)
    (hnews : w.rangeAt p 0 (lcs f)) (hlen : l.length + 1 ≤ 1000000)
    (hk : ∀ g cap w', OL B w0 w' (.slice (some ⟨g, 0, none⟩) (l.length + 1) cap) (l ++ [f]) → w.grownBy w' u.ownBlock → K (a.put o.dst (.slice (some ⟨g, 0, none⟩) (l.length + 1) cap)) w') : if Region.wanted o (yielded ops a.tmps) = true then Oper.wp Tryz.prog o a w K Q else E := by
  obtain ⟨i0, hi, hz0, hz1, hz2⟩ := info_parts Tryz.infoLeaf
  refine step_append_lies w hgd s x 59 ho B 134 i0 _ 2 32 Tryz.underlying59 hi hz0 hz1 hz2 rfl (by decide) u l.length (l.flatMap lcs) hs h.1 ⟨p, 0, none⟩ 1 1 (lcs f) hx rfl ?_
    (fun u hu => by simp [lcs] at hu; rcases hu with rfl | rfl <;> rfl) (by omega) (by unfold maxLen; omega) (by omega) h.2.2 w.heap.size rfl ?_
  · intro j u hj
    have := hnews j u hj
    rw [Addr.add_mid]
    exact this
  · intro g cap w' h1 h2 h3 _
    exact hk _ _ _ ⟨by rw [List.flatMap_append, List.flatMap_singleton, List.length_append]; exact h1, h.2.1.grown h2 h.2.2 (fun k hk => (h.1.lt k hk).1), Nat.le_trans h.2.2 h2.size⟩ h2
/-- .. and in a plain region -/
theorem wp_leaf {rest : List Oper} (hgd : o.guard = none) (s x : Operand)
    (ho : o.op = .call { callee := .builtin .append, args := #[s, x], argTypes := #[59, 59] })
    (B : Nat) (w0 : World) (u : Value) (l : List Le) (f : Le) (hs : a.eval s = u) (h : OL B w0 w u l) (p : Nat) (hx : a.eval x = .slice (some ⟨p, 0, none⟩) 1 1)
    (hnews : w.rangeAt p 0 (lcs f)) (hlen : l.length + 1 ≤ 1000000)
    (hk : ∀ g cap w', OL B w0 w' (.slice (some ⟨g, 0, none⟩) (l.length + 1) cap) (l ++ [f]) → w.grownBy w' u.ownBlock → wpList Tryz.prog ops Q rest (a.put o.dst (.slice (some ⟨g, 0, none⟩) (l.length + 1) cap)) w') : wpList Tryz.prog ops Q (o :: rest) a w := by
  obtain ⟨i0, hi, hz0, hz1, hz2⟩ := info_parts Tryz.infoLeaf
  refine wpList_append_lies w hgd s x 59 ho B 134 i0 _ 2 32 Tryz.underlying59 hi hz0 hz1 hz2 rfl (by decide) u l.length (l.flatMap lcs) hs h.1 ⟨p, 0, none⟩ 1 1 (lcs f) hx rfl ?_
    (fun u hu => by simp [lcs] at hu; rcases hu with rfl | rfl <;> rfl) (by omega) (by unfold maxLen; omega) (by omega) h.2.2 w.heap.size rfl ?_
  · intro j u hj
    have := hnews j u hj
    rw [Addr.add_mid]
    exact this
  · intro g cap w' h1 h2 h3 _
    exact hk _ _ _ ⟨by rw [List.flatMap_append, List.flatMap_singleton, List.length_append]; exact h1, h.2.1.grown h2 h.2.2 (fun k hk => (h.1.lt k hk).1), Nat.le_trans h.2.2 h2.size⟩ h2
end

end Go.Proofs.YthlgohplljcgfaaGreatDoor
/-
  The library's own contract on strings.Compare, laid at this program: a table of numbers and one theorem.
-/
namespace Go.Proofs
open Go.Shelf
def Tryz.cmpStr_ren : Go.Shelf.Ren := ⟨fun | 106 => 206 | 213 => 218 | 265 => 224 | n => n, fun | 9 => 9 | 3 => 3 | n => n, fun | n => n⟩
theorem Tryz.cmpStr : Go.Proofs.Lays.n106 Tryz.prog Tryz.cmpStr_ren := {
  mixed := by kernel_rfl
  f106 := Tryz.func206.trans (congrArg some (by kernel_rfl))
  f213 := Tryz.func218.trans (congrArg some (by kernel_rfl))
  f265 := Tryz.func224.trans (congrArg some (by kernel_rfl))
  t3 := Tryz.underlying3
  a3 := Tryz.isAgg3
  z3 := Tryz.sizeOf3
  v3 := Tryz.zeroValue3
  t9 := Tryz.underlying9
  a9 := Tryz.isAgg9
  z9 := Tryz.sizeOf9
  v9 := Tryz.zeroValue9 }
end Go.Proofs
