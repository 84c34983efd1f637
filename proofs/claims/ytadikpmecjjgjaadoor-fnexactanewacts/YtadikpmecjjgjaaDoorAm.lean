/-
  What the laws' own helpers write into a row of acts, and find there again.
-/
import Derived.Test.YtadikpmecjjgjaaDoorAw
import Derived.Lib.QuietBelow
namespace Go.Proofs.YtadikpmecjjgjaaDoor
open Go.RowKit Go.BigFrame Go.Sort
set_option linter.unusedVariables false
set_option linter.unusedSimpArgs false

def amk (k0 j : Nat) : Ac := ⟨((k0 + 4 * j : Nat) : Int), markB (k0 + 4 * j + 1), markB (k0 + 4 * j + 2), markB (k0 + 4 * j + 3)⟩
def amarks (k0 n : Nat) : List Ac := (List.range n).map (amk k0)
theorem amarks_len (k0 n : Nat) : (amarks k0 n).length = n := by simp [amarks]
theorem amarks_at (k0 n j : Nat) (h : j < (amarks k0 n).length) : (amarks k0 n)[j] = amk k0 j := by simp [amarks]
theorem range4 {w : World} {g o : Nat} {a : Ac} (h0 : w.cell? ⟨g, o, none⟩ = some (.int .i64 a.k)) (h1 : w.cell? ⟨g, o + 1, none⟩ = some (.string a.n)) (h2 : w.cell? ⟨g, o + 2, none⟩ = some (.string a.t)) (h3 : w.cell? ⟨g, o + 3, none⟩ = some (.string a.o)) : w.rangeAt g o (acs a) := by
  intro j v hv
  match j, hv with
  | 0, hv => cases hv; exact h0
  | 1, hv => cases hv; exact h1
  | 2, hv => cases hv; exact h2
  | 3, hv => cases hv; exact h3

/-- the first m acts bear marks, and all may be written -/
def MbI (w : World) (g : Nat) (l : List Ac) (k0 m : Nat) (wr : World) : Prop := (∀ j, j < m → wr.rangeAt g (j * 4) (acs (amk k0 j))) ∧ (∀ j, j < l.length → wr.there g (j * 4) 4) ∧ w.grownBy wr (rowF g l.length)
theorem MbI.below {w wr wr' : World} {g : Nat} {l : List Ac} {k0 m : Nat} (h : MbI w g l k0 m wr) (hg : g < wr.heap.size) (hb : Below wr.heap.size wr wr') : MbI w g l k0 m wr' :=
  ⟨fun j hj => range_kept (h.1 j hj) (hb.block g hg), fun j hj => there_kept (h.2.1 j hj) (hb.block g hg), h.2.2.trans ((grown_below hb))⟩
theorem MbI.set {w wr : World} {g : Nat} {l : List Ac} {k0 m : Nat} (h : MbI w g l k0 m wr) (hm : m < l.length) (o : Nat) (ho : m * 4 ≤ o) (v : Value) : MbI w g l k0 m (wr.setCell ⟨g, o, none⟩ v) :=
  ⟨fun j hj => set_range (h.1 j hj) (by rw [acs_len]; omega) v, fun j hj => set_there o (h.2.1 j hj) v, by
    have h3 := h.2.2
    rw [rowF_some (by omega)] at h3 ⊢
    exact h3.trans (grown_set wr g o v)⟩

def MbR (w : World) (g : Nat) (l : List Ac) (k0 : Nat) (x i : Value) (wr : World) : Prop := ∃ m : Nat, m ≤ l.length ∧ i = .int .i64 m ∧ x = .int .i64 (k0 + 4 * m : Nat) ∧ Hid (MbI w g l k0 m wr)

/-- the first cells of the m-th act -/
def Mc0 (g m k : Nat) (w : World) : Prop := w.cell? ⟨g, m * 4, none⟩ = some (.int .i64 (k : Nat))
def Mc1 (g m : Nat) (K : ByteArray) (w : World) : Prop := w.cell? ⟨g, m * 4 + 1, none⟩ = some (.string K)
def Mc2 (g m : Nat) (K : ByteArray) (w : World) : Prop := w.cell? ⟨g, m * 4 + 2, none⟩ = some (.string K)
theorem Mc0.below {g m k : Nat} {w w' : World} (h : Mc0 g m k w) (hg : g < w.heap.size) (hb : Below w.heap.size w w') : Mc0 g m k w' := (hb.cell (p := ⟨g, m * 4, none⟩) hg).trans h
theorem Mc1.below {g m : Nat} {K : ByteArray} {w w' : World} (h : Mc1 g m K w) (hg : g < w.heap.size) (hb : Below w.heap.size w w') : Mc1 g m K w' := (hb.cell (p := ⟨g, m * 4 + 1, none⟩) hg).trans h
theorem Mc2.below {g m : Nat} {K : ByteArray} {w w' : World} (h : Mc2 g m K w) (hg : g < w.heap.size) (hb : Below w.heap.size w w') : Mc2 g m K w' := (hb.cell (p := ⟨g, m * 4 + 2, none⟩) hg).trans h
theorem Mc0.set {g m k o : Nat} {w : World} (h : Mc0 g m k w) (ho : m * 4 < o) (v : Value) : Mc0 g m k (w.setCell ⟨g, o, none⟩ v) := (set_else (by omega) v).trans h
theorem Mc1.set {g m o : Nat} {K : ByteArray} {w : World} (h : Mc1 g m K w) (ho : m * 4 + 1 < o) (v : Value) : Mc1 g m K (w.setCell ⟨g, o, none⟩ v) := (set_else (by omega) v).trans h
theorem Mc2.set {g m o : Nat} {K : ByteArray} {w : World} (h : Mc2 g m K w) (ho : m * 4 + 2 < o) (v : Value) : Mc2 g m K (w.setCell ⟨g, o, none⟩ v) := (set_else (by omega) v).trans h

set_option maxRecDepth 100000 in
set_option maxHeartbeats 1000000 in
theorem markActS_full (v : Value) (g : Nat) (l : List Ac) (x : Int) (k0 : Nat) (w : World) (hx : x = (k0 : Int)) (h : RW 4 acs w v g l) (h0 : 0 < k0) (hk : k0 ≤ 10000000) :
    Calls Tryd.prog 9 #[v, .int .i64 x] w fun e w' => e = .returned (.int .i64 (k0 + 4 * l.length : Nat)) ∧ RW 4 acs w' v g (amarks k0 l.length) ∧ w.grownBy w' (rowF g l.length) := by
  subst hx
  obtain ⟨⟨a, cap, rfl, hl, hA, hc⟩, ht⟩ := h
  obtain ⟨n, hn⟩ : ∃ n, l.length = n := ⟨_, rfl⟩
  have HA : Hid (0 < n → a = some ⟨g, 0, none⟩ ∧ g < w.heap.size) := by rw [← hn]; exact hA
  have HST : Hid (MbR w g l k0 (.int .i64 k0) (.int .i64 0) w) := ⟨0, by omega, rfl, rfl, fun j h => by omega, ht, ⟨rfl, rfl, rfl, Nat.le_refl _, fun _ _ _ => rfl⟩⟩
  rw [hn] at hl
  rw [hn]
  clear hA hc ht
  go_enter Tryd.func9, Tryd.ntmps9
  go_wp2
  go_loopw [1, 5] (fun x i wr => MbR w g l k0 x i wr) (fun _ i _ => n - (intOf i).toNat)
  case atStart => exact HST.out
  case round =>
    obtain ⟨m, hm, rfl, rfl, HI⟩ := hrel
    clear HST
    rw [hn] at hm
    by_cases hlt : m < n
    · obtain ⟨ea, hgw⟩ := HA.out (by omega)
      subst ea
      have hgr : g < wr.heap.size := Nat.lt_of_lt_of_le hgw HI.out.2.2.size
      have i1 : (m : Int) < (n : Int) := by omega
      have i2 : (0 : Int) ≤ (m : Int) := by omega
      obtain ⟨⟨o0, x0⟩, ⟨o1, x1⟩, ⟨o2, x2⟩, ⟨o3, x3⟩, f0, f1, f2, f3⟩ := there4 (HI.out.2.1 m (by omega))
      have HI0 : Hid ((MbI w g l k0 m (wr.setCell ⟨g, m * 4, none⟩ (.int .i64 (k0 + 4 * m : Nat))) ∧ Mc0 g m (k0 + 4 * m) (wr.setCell ⟨g, m * 4, none⟩ (.int .i64 (k0 + 4 * m : Nat)))) ∧ g < (wr.setCell ⟨g, m * 4, none⟩ (.int .i64 (k0 + 4 * m : Nat))).heap.size) := ⟨⟨HI.out.set (by omega) _ (by omega) _, set_here x0 f0 _⟩, by simpa using hgr⟩
      clear HI
      go_wp2_with fail
      refine (markText_int _ (k0 + 4 * m + 1) _ (by omega) (by omega) (by omega)).mono ?_
      rintro e w1 ⟨rfl, hb1⟩
      have HI1 : Hid ((MbI w g l k0 m w1 ∧ Mc0 g m (k0 + 4 * m) w1) ∧ g < w1.heap.size) := ⟨⟨HI0.out.1.1.below HI0.out.2 hb1, HI0.out.1.2.below HI0.out.2 hb1⟩, Nat.lt_of_lt_of_le HI0.out.2 hb1.size⟩
      clear HI0 hb1 x0 x1 x2 x3 f0 f1 f2 f3 o0 o1 o2 o3
      obtain ⟨⟨o0, x0⟩, ⟨o1, x1⟩, ⟨o2, x2⟩, ⟨o3, x3⟩, f0, f1, f2, f3⟩ := there4 (HI1.out.1.1.2.1 m (by omega))
      have HI2 : Hid ((MbI w g l k0 m (w1.setCell ⟨g, m * 4 + 1, none⟩ (.string (markB (k0 + 4 * m + 1)))) ∧ Mc0 g m (k0 + 4 * m) (w1.setCell ⟨g, m * 4 + 1, none⟩ (.string (markB (k0 + 4 * m + 1)))) ∧ Mc1 g m (markB (k0 + 4 * m + 1)) (w1.setCell ⟨g, m * 4 + 1, none⟩ (.string (markB (k0 + 4 * m + 1))))) ∧ g < (w1.setCell ⟨g, m * 4 + 1, none⟩ (.string (markB (k0 + 4 * m + 1)))).heap.size) := ⟨⟨HI1.out.1.1.set (by omega) _ (by omega) _, HI1.out.1.2.set (by omega) _, set_here x1 f1 _⟩, by simpa using HI1.out.2⟩
      clear HI1
      go_wp2_with fail
      refine (markText_int _ (k0 + 4 * m + 2) _ (by omega) (by omega) (by omega)).mono ?_
      rintro e w2 ⟨rfl, hb2⟩
      have HI3 : Hid ((MbI w g l k0 m w2 ∧ Mc0 g m (k0 + 4 * m) w2 ∧ Mc1 g m (markB (k0 + 4 * m + 1)) w2) ∧ g < w2.heap.size) := ⟨⟨HI2.out.1.1.below HI2.out.2 hb2, HI2.out.1.2.1.below HI2.out.2 hb2, HI2.out.1.2.2.below HI2.out.2 hb2⟩, Nat.lt_of_lt_of_le HI2.out.2 hb2.size⟩
      clear HI2 hb2 x0 x1 x2 x3 f0 f1 f2 f3 o0 o1 o2 o3
      obtain ⟨⟨o0, x0⟩, ⟨o1, x1⟩, ⟨o2, x2⟩, ⟨o3, x3⟩, f0, f1, f2, f3⟩ := there4 (HI3.out.1.1.2.1 m (by omega))
      have HI4 : Hid ((MbI w g l k0 m (w2.setCell ⟨g, m * 4 + 2, none⟩ (.string (markB (k0 + 4 * m + 2)))) ∧ Mc0 g m (k0 + 4 * m) (w2.setCell ⟨g, m * 4 + 2, none⟩ (.string (markB (k0 + 4 * m + 2)))) ∧ Mc1 g m (markB (k0 + 4 * m + 1)) (w2.setCell ⟨g, m * 4 + 2, none⟩ (.string (markB (k0 + 4 * m + 2)))) ∧ Mc2 g m (markB (k0 + 4 * m + 2)) (w2.setCell ⟨g, m * 4 + 2, none⟩ (.string (markB (k0 + 4 * m + 2))))) ∧ g < (w2.setCell ⟨g, m * 4 + 2, none⟩ (.string (markB (k0 + 4 * m + 2)))).heap.size) := ⟨⟨HI3.out.1.1.set (by omega) _ (by omega) _, HI3.out.1.2.1.set (by omega) _, HI3.out.1.2.2.set (by omega) _, set_here x2 f2 _⟩, by simpa using HI3.out.2⟩
      clear HI3
      go_wp2_with fail
      refine (markText_int _ (k0 + 4 * m + 3) _ (by omega) (by omega) (by omega)).mono ?_
      rintro e w3 ⟨rfl, hb3⟩
      have HI5 : Hid (MbI w g l k0 m w3 ∧ Mc0 g m (k0 + 4 * m) w3 ∧ Mc1 g m (markB (k0 + 4 * m + 1)) w3 ∧ Mc2 g m (markB (k0 + 4 * m + 2)) w3) := ⟨HI4.out.1.1.below HI4.out.2 hb3, HI4.out.1.2.1.below HI4.out.2 hb3, HI4.out.1.2.2.1.below HI4.out.2 hb3, HI4.out.1.2.2.2.below HI4.out.2 hb3⟩
      clear HI4 hb3 x0 x1 x2 x3 f0 f1 f2 f3 o0 o1 o2 o3
      obtain ⟨⟨o0, x0⟩, ⟨o1, x1⟩, ⟨o2, x2⟩, ⟨o3, x3⟩, f0, f1, f2, f3⟩ := there4 (HI5.out.1.2.1 m (by omega))
      have HI6 : Hid (MbI w g l k0 (m + 1) (w3.setCell ⟨g, m * 4 + 3, none⟩ (.string (markB (k0 + 4 * m + 3))))) := by
        have h4 := HI5.out.1.set (by omega) (m * 4 + 3) (by omega) (.string (markB (k0 + 4 * m + 3)))
        refine ⟨fun j hj => ?_, h4.2⟩
        rcases Nat.lt_or_ge j m with h5 | h5
        · exact h4.1 j h5
        · have : j = m := by omega
          subst this
          exact range4 (HI5.out.2.1.set (by omega) _) (HI5.out.2.2.1.set (by omega) _) (HI5.out.2.2.2.set (by omega) _) (set_here x3 f3 _)
      clear HI5
      generalize markB (k0 + 4 * m + 3) = K3 at *
      go_wp2
      go_roundw
      case rel => exact ⟨m + 1, by omega, by go_num, by go_num, HI6⟩
      case measure => simp [intOf]; omega
    · have hme : m = n := by omega
      have HF : Hid (RW 4 acs wr (.slice a n cap) g (amarks k0 n) ∧ w.grownBy wr (rowF g n)) := by
        obtain ⟨h1, h2, h3⟩ := HI.out
        rw [hn] at h3
        refine ⟨⟨⟨a, cap, by rw [amarks_len], by rw [amarks_len]; omega, fun hp => ?_, fun j hj => ?_⟩, fun j hj => ?_⟩, h3⟩
        · rw [amarks_len] at hp
          exact ⟨(HA.out hp).1, Nat.lt_of_lt_of_le (HA.out hp).2 h3.size⟩
        · rw [amarks_at, Nat.zero_add]
          rw [amarks_len] at hj
          exact h1 j (by omega)
        · rw [amarks_len] at hj
          exact h2 j (by omega)
      subst hme
      clear HI HA
      go_wp2
      go_ret
      exact ⟨rfl, HF.out.1, HF.out.2⟩

def HaR (k0 n : Nat) (w : World) (x i : Value) (wr : World) : Prop := ∃ m : Nat, m ≤ n ∧ i = .int .i64 m ∧ x = .int .i64 (k0 + 4 * m : Nat) ∧ Below w.heap.size w wr

set_option maxRecDepth 100000 in
set_option maxHeartbeats 1000000 in
theorem heldActS_any (v : Value) (g : Nat) (x : Int) (k0 n : Nat) (w : World) (hx : x = (k0 : Int)) (h : RS 4 acs w v g 0 (amarks k0 n)) (h0 : 0 < k0) (hk : k0 ≤ 10000000) :
    Calls Tryd.prog 10 #[v, .int .i64 x] w fun e w' => e = .returned (.int .i64 (k0 + 4 * n : Nat)) ∧ Below w.heap.size w w' := by
  subst hx
  have HV : Hid (RS 4 acs w v g 0 (amarks k0 n)) := h
  obtain ⟨a, cap, rfl, hl, hA, hc⟩ := h
  rw [amarks_len] at *
  have HA : Hid (0 < n → a = some ⟨g, 0, none⟩) := fun h => (hA h).1
  clear hA hc
  go_enter Tryd.func10, Tryd.ntmps10
  go_wp2
  go_loopw [1, 5] (fun x i wr => HaR k0 n w x i wr) (fun _ i _ => n - (intOf i).toNat)
  case atStart => exact ⟨0, by omega, rfl, rfl, Below.refl _ _⟩
  case round =>
    obtain ⟨m, hm, rfl, rfl, hbel⟩ := hrel
    by_cases hlt : m < n
    · have ea := HA.out (by omega)
      subst ea
      obtain ⟨c0, c1, c2, c3⟩ := (HV.out.later hbel).act m (by rw [amarks_len]; exact hlt)
      rw [amarks_at] at c0 c1 c2 c3
      simp only [amk, Nat.zero_add] at c0 c1 c2 c3
      have hg6 : g < wr.heap.size := lt_of_cell c0
      have i1 : (m : Int) < (n : Int) := by omega
      have i2 : (0 : Int) ≤ (m : Int) := by omega
      have HM1 : Hid (∀ W, Calls Tryd.prog 29 #[.int .i64 ((k0 + 4 * m + 1 : Nat) : Int)] W fun e w' => e = .returned (.string (markB (k0 + 4 * m + 1))) ∧ Below W.heap.size W w') := fun W => markText_int _ _ W rfl (by omega) (by omega)
      have HM2 : Hid (∀ W, Calls Tryd.prog 29 #[.int .i64 ((k0 + 4 * m + 2 : Nat) : Int)] W fun e w' => e = .returned (.string (markB (k0 + 4 * m + 2))) ∧ Below W.heap.size W w') := fun W => markText_int _ _ W rfl (by omega) (by omega)
      have HM3 : Hid (∀ W, Calls Tryd.prog 29 #[.int .i64 ((k0 + 4 * m + 3 : Nat) : Int)] W fun e w' => e = .returned (.string (markB (k0 + 4 * m + 3))) ∧ Below W.heap.size W w') := fun W => markText_int _ _ W rfl (by omega) (by omega)
      generalize markB (k0 + 4 * m + 1) = K1 at *
      generalize markB (k0 + 4 * m + 2) = K2 at *
      generalize markB (k0 + 4 * m + 3) = K3 at *
      clear HV HA
      go_wp2
      have kq0 := cell_regrown (w := wr) c1
      have cq0 := fun d os => Calls.regrown_of (w := wr) (d := d) (os := os) (HM1.out _)
      refine wp_region_quiet_below (by kernel_rfl) (by kernel_rfl) ?_
      repeat (go_big_quiet_step (first | exact cq0 _ _))
      refine wpQuiet_nil ?_
      rintro _ ⟨⟨dq, osq⟩, rfl⟩
      have hb6 := below_regrown (wr) dq osq
      generalize grow (redrawn (wr) dq) osq = w6 at *
      clear kq0 cq0
      have c2' : w6.cell? ⟨g, m * 4 + 2, none⟩ = some (.string K2) := (hb6.cell (p := ⟨g, m * 4 + 2, none⟩) hg6).trans c2
      have c3' : w6.cell? ⟨g, m * 4 + 3, none⟩ = some (.string K3) := (hb6.cell (p := ⟨g, m * 4 + 3, none⟩) hg6).trans c3
      have hg7 : g < w6.heap.size := Nat.lt_of_lt_of_le hg6 hb6.size
      clear c0 c1 c2 c3
      go_wp2
      have kq0 := cell_regrown (w := w6) c2'
      have cq0 := fun d os => Calls.regrown_of (w := w6) (d := d) (os := os) (HM2.out _)
      refine wp_region_quiet_below (by kernel_rfl) (by kernel_rfl) ?_
      repeat (go_big_quiet_step (first | exact cq0 _ _))
      refine wpQuiet_nil ?_
      rintro _ ⟨⟨dq, osq⟩, rfl⟩
      have hb7 := below_regrown (w6) dq osq
      generalize grow (redrawn (w6) dq) osq = w7 at *
      clear kq0 cq0
      have c3 : w7.cell? ⟨g, m * 4 + 3, none⟩ = some (.string K3) := (hb7.cell (p := ⟨g, m * 4 + 3, none⟩) hg7).trans c3'
      clear c2' c3'
      go_wp2
      have kq0 := cell_regrown (w := w7) c3
      have cq0 := fun d os => Calls.regrown_of (w := w7) (d := d) (os := os) (HM3.out _)
      refine wp_region_quiet_below (by kernel_rfl) (by kernel_rfl) ?_
      repeat (go_big_quiet_step (first | exact cq0 _ _))
      refine wpQuiet_nil ?_
      rintro _ ⟨⟨dq, osq⟩, rfl⟩
      have hb8 := below_regrown (w7) dq osq
      generalize grow (redrawn (w7) dq) osq = w8 at *
      clear kq0 cq0
      have hb9 := hbel.trans ((hb6.trans ((hb7.trans (hb8.mono hb7.size)).mono hb6.size)).mono hbel.size)
      go_wp2
      go_roundw
      case rel => exact ⟨m + 1, by omega, by go_num, by go_num, hb9⟩
      case measure => simp [intOf]; omega
    · have hme : m = n := by omega
      subst hme
      clear HV HA
      go_wp2
      go_ret
      exact ⟨rfl, hbel⟩

end Go.Proofs.YtadikpmecjjgjaaDoor
