/-
  Texts laid together: Mf, Lk, Pz, Pox.
-/
import Derived.Test.YtfojmagcoipbnaaQ04
import Derived.Test.YtfojmagcoipbnaaQ03
import Derived.Test.YtfojmagcoipbnaaQ08
import Derived.Lib.QuietBelow
import Derived.Test.YtfojmagcoipbnaaQ09
import Derived.Test.YtfojmagcoipbnaaQ11
import Derived.Lib.SmallJoins
import Derived.ProofKit
import Derived.Deep.RegionHeld3
/-
  What the laws' own helpers write into the files of a disk, and find there again.
-/
namespace Go.Proofs.Ytfojmagcoipbnaa
open Go.RowKit Go.BigFrame Go.Sort
set_option linter.unusedVariables false
set_option linter.unusedSimpArgs false

def fmk (k0 j : Nat) : Fl := ⟨markB (k0 + 3 * j), markB (k0 + 3 * j + 1), ((k0 + 3 * j + 2 : Nat) : Int)⟩
def fmarks (k0 n : Nat) : List Fl := (List.range n).map (fmk k0)
theorem fmarks_len (k0 n : Nat) : (fmarks k0 n).length = n := by simp [fmarks]
theorem fmarks_at (k0 n j : Nat) (h : j < (fmarks k0 n).length) : (fmarks k0 n)[j] = fmk k0 j := by simp [fmarks]

theorem set_here {w : World} {g o : Nat} {u : Value} (h : w.cell? ⟨g, o, none⟩ = some u) (hf : w.frozen? ⟨g, o, none⟩ = false) (v : Value) : (w.setCell ⟨g, o, none⟩ v).cell? ⟨g, o, none⟩ = some v :=
  (World.rangeAt_setCells_same w g o [v] (fun j hj => by
    have : j = 0 := by simpa using hj
    subst this
    exact ⟨by rw [Nat.add_zero, h]; rfl, hf⟩)) 0 v rfl
theorem set_else {w : World} {g o o' : Nat} (h : o' ≠ o) (v : Value) : (w.setCell ⟨g, o, none⟩ v).cell? ⟨g, o', none⟩ = w.cell? ⟨g, o', none⟩ :=
  World.cell?_setCells_out g [v] o w ⟨g, o', none⟩ (fun _ _ => by simp; omega)
theorem set_there {w : World} {g b o n : Nat} (o' : Nat) (h : w.there b o n) (v : Value) : (w.setCell ⟨g, o', none⟩ v).there b o n := World.there_setCells h g o' [v]
theorem set_range {w : World} {g o o' : Nat} {cs : List Value} (h : w.rangeAt g o cs) (hn : o + cs.length ≤ o') (v : Value) : (w.setCell ⟨g, o', none⟩ v).rangeAt g o cs := World.rangeAt_setCells_apart h g o' [v] (.inr (.inl hn))

def rowF (g n : Nat) : Option Nat := if n = 0 then none else some g
theorem rowF_some {g n : Nat} (h : 0 < n) : rowF g n = some g := if_neg (by omega)
theorem rowF_ne {g k n : Nat} (h : 0 < n → k ≠ g) : some k ≠ rowF g n := by
  unfold rowF
  split
  · simp
  · have := h (by omega)
    simpa using this
theorem rowF_le {g n B : Nat} (h : B ≤ g) (q : Nat) (hq : rowF g n = some q) : B ≤ q := by
  unfold rowF at hq
  split at hq
  · cases hq
  · cases hq; exact h
/-- the first m files bear marks, and all may be written -/
def MfI (w : World) (g : Nat) (l : List Fl) (k0 m : Nat) (wr : World) : Prop := (∀ j, j < m → wr.rangeAt g (j * 3) (fcs (fmk k0 j))) ∧ (∀ j, j < l.length → wr.there g (j * 3) 3) ∧ w.grownBy wr (rowF g l.length)
theorem MfI.below {w wr wr' : World} {g : Nat} {l : List Fl} {k0 m : Nat} (h : MfI w g l k0 m wr) (hg : g < wr.heap.size) (hb : Below wr.heap.size wr wr') : MfI w g l k0 m wr' :=
  ⟨fun j hj => range_kept (h.1 j hj) (hb.block g hg), fun j hj => there_kept (h.2.1 j hj) (hb.block g hg), h.2.2.trans ((grown_below hb))⟩
theorem MfI.set {w wr : World} {g : Nat} {l : List Fl} {k0 m : Nat} (h : MfI w g l k0 m wr) (hm : m < l.length) (o : Nat) (ho : m * 3 ≤ o) (v : Value) : MfI w g l k0 m (wr.setCell ⟨g, o, none⟩ v) :=
  ⟨fun j hj => set_range (h.1 j hj) (by rw [fcs_len]; omega) v, fun j hj => set_there o (h.2.1 j hj) v, by
    have h3 := h.2.2
    rw [rowF_some (by omega)] at h3 ⊢
    exact h3.trans (grown_set wr g o v)⟩

def MfR (w : World) (g : Nat) (l : List Fl) (k0 : Nat) (x i : Value) (wr : World) : Prop := ∃ m : Nat, m ≤ l.length ∧ i = .int .i64 m ∧ x = .int .i64 (k0 + 3 * m : Nat) ∧ Hid (MfI w g l k0 m wr)

def HfR (k0 n : Nat) (w : World) (x i : Value) (wr : World) : Prop := ∃ m : Nat, m ≤ n ∧ i = .int .i64 m ∧ x = .int .i64 (k0 + 3 * m : Nat) ∧ Below w.heap.size w wr

end Go.Proofs.Ytfojmagcoipbnaa
/-
  What the laws' own helpers write into a row of leaves, and find there again.
-/
namespace Go.Proofs.Ytfojmagcoipbnaa
open Go.RowKit Go.BigFrame Go.Sort
set_option linter.unusedVariables false
set_option linter.unusedSimpArgs false

def lmk (k0 j : Nat) : Le := ⟨markB (k0 + 2 * j), markB (k0 + 2 * j + 1)⟩
def lmarks (k0 n : Nat) : List Le := (List.range n).map (lmk k0)
theorem lmarks_len (k0 n : Nat) : (lmarks k0 n).length = n := by simp [lmarks]
theorem lmarks_at (k0 n j : Nat) (h : j < (lmarks k0 n).length) : (lmarks k0 n)[j] = lmk k0 j := by simp [lmarks]

/-- the first m leaves bear marks, and all may be written -/
def MlI (w : World) (g : Nat) (l : List Le) (k0 m : Nat) (wr : World) : Prop := (∀ j, j < m → wr.rangeAt g (j * 2) (lcs (lmk k0 j))) ∧ (∀ j, j < l.length → wr.there g (j * 2) 2) ∧ w.grownBy wr (rowF g l.length)
theorem MlI.below {w wr wr' : World} {g : Nat} {l : List Le} {k0 m : Nat} (h : MlI w g l k0 m wr) (hg : g < wr.heap.size) (hb : Below wr.heap.size wr wr') : MlI w g l k0 m wr' :=
  ⟨fun j hj => range_kept (h.1 j hj) (hb.block g hg), fun j hj => there_kept (h.2.1 j hj) (hb.block g hg), h.2.2.trans ((grown_below hb))⟩
theorem MlI.set {w wr : World} {g : Nat} {l : List Le} {k0 m : Nat} (h : MlI w g l k0 m wr) (hm : m < l.length) (o : Nat) (ho : m * 2 ≤ o) (v : Value) : MlI w g l k0 m (wr.setCell ⟨g, o, none⟩ v) :=
  ⟨fun j hj => set_range (h.1 j hj) (by rw [lcs_len]; omega) v, fun j hj => set_there o (h.2.1 j hj) v, by
    have h3 := h.2.2
    rw [rowF_some (by omega)] at h3 ⊢
    exact h3.trans (grown_set wr g o v)⟩

def MlR (w : World) (g : Nat) (l : List Le) (k0 : Nat) (x i : Value) (wr : World) : Prop := ∃ m : Nat, m ≤ l.length ∧ i = .int .i64 m ∧ x = .int .i64 (k0 + 2 * m : Nat) ∧ Hid (MlI w g l k0 m wr)

set_option maxRecDepth 100000 in
set_option maxHeartbeats 1000000 in
theorem markLeafS_any (v : Value) (g : Nat) (l : List Le) (x : Int) (k0 : Nat) (w : World) (hx : x = (k0 : Int)) (h : RW 2 lcs w v g l) (h0 : 0 < k0) (hk : k0 ≤ 10000000) :
    Calls Try.prog 51 #[v, .int .i64 x] w fun e w' => e = .returned (.int .i64 (k0 + 2 * l.length : Nat)) ∧ RW 2 lcs w' v g (lmarks k0 l.length) ∧ w.grownBy w' (rowF g l.length) := by
  subst hx
  obtain ⟨⟨a, cap, rfl, hl, hA, hc⟩, ht⟩ := h
  obtain ⟨n, hn⟩ : ∃ n, l.length = n := ⟨_, rfl⟩
  have HA : Hid (0 < n → a = some ⟨g, 0, none⟩ ∧ g < w.heap.size) := by rw [← hn]; exact hA
  have HST : Hid (MlR w g l k0 (.int .i64 k0) (.int .i64 0) w) := ⟨0, by omega, rfl, rfl, fun j h => by omega, ht, ⟨rfl, rfl, rfl, Nat.le_refl _, fun _ _ _ => rfl⟩⟩
  rw [hn] at hl
  rw [hn]
  clear hA hc ht
  go_enter Try.func51, Try.ntmps51
  go_wp2
  go_loopw [1, 5] (fun x i wr => MlR w g l k0 x i wr) (fun _ i _ => n - (intOf i).toNat)
  case atStart => exact HST.out
  case round =>
    obtain ⟨m, hm, rfl, rfl, HI⟩ := hrel
    clear HST
    rw [hn] at hm
    by_cases hlt : m < n
    · obtain ⟨ea, hgw⟩ := HA.out (by omega)
      subst ea
      have hgr : g < wr.heap.size := Nat.lt_of_lt_of_le hgw HI.out.2.2.size
      have i1 : (m : Int) < (n : Int) := by omega
      have i2 : (0 : Int) ≤ (m : Int) := by omega
      go_wp2_with fail
      refine (markText_int _ (k0 + 2 * m) _ (by omega) (by omega) (by omega)).mono ?_
      rintro e w1 ⟨rfl, hb1⟩
      have hgr1 : g < w1.heap.size := Nat.lt_of_lt_of_le hgr hb1.size
      have HI1 : Hid (MlI w g l k0 m w1) := HI.out.below hgr hb1
      obtain ⟨⟨o0, x0⟩, ⟨o1, x1⟩, f0, f1⟩ := there2 (HI1.out.2.1 m (by omega))
      have HI2 : Hid (MlI w g l k0 m (w1.setCell ⟨g, m * 2, none⟩ (.string (markB (k0 + 2 * m)))) ∧ (w1.setCell ⟨g, m * 2, none⟩ (.string (markB (k0 + 2 * m)))).cell? ⟨g, m * 2, none⟩ = some (.string (markB (k0 + 2 * m)))) := ⟨HI1.out.set (by omega) _ (by omega) _, set_here x0 f0 _⟩
      clear HI HI1 hb1
      go_wp2_with fail
      refine (markText_int _ (k0 + 2 * m + 1) _ (by omega) (by omega) (by omega)).mono ?_
      rintro e w2 ⟨rfl, hb2⟩
      have hgr2' : g < (w1.setCell ⟨g, m * 2, none⟩ (.string (markB (k0 + 2 * m)))).heap.size := by simpa using hgr1
      have hgr2 : g < w2.heap.size := Nat.lt_of_lt_of_le hgr2' hb2.size
      have HI3 : Hid (MlI w g l k0 m w2 ∧ w2.cell? ⟨g, m * 2, none⟩ = some (.string (markB (k0 + 2 * m)))) := ⟨HI2.out.1.below hgr2' hb2, (hb2.cell (p := ⟨g, m * 2, none⟩) hgr2').trans HI2.out.2⟩
      clear HI2 hb2 x0 x1 f0 f1 o0 o1
      obtain ⟨⟨o0, x0⟩, ⟨o1, x1⟩, f0, f1⟩ := there2 (HI3.out.1.2.1 m (by omega))
      have HI5 : Hid (MlI w g l k0 (m + 1) (w2.setCell ⟨g, m * 2 + 1, none⟩ (.string (markB (k0 + 2 * m + 1))))) := by
        have h4 := HI3.out.1.set (by omega) (m * 2 + 1) (by omega) (.string (markB (k0 + 2 * m + 1)))
        refine ⟨fun j hj => ?_, h4.2⟩
        rcases Nat.lt_or_ge j m with h5 | h5
        · exact h4.1 j h5
        · have : j = m := by omega
          subst this
          refine range2 ?_ ?_
          · rw [set_else (by omega)]; exact HI3.out.2
          · exact set_here x1 f1 _
      clear HI3 hgr2' hgr1 hgr
      generalize markB (k0 + 2 * m) = K0 at *
      generalize markB (k0 + 2 * m + 1) = K1 at *
      go_wp2
      go_roundw
      case rel => exact ⟨m + 1, by omega, by go_num, by go_num, HI5⟩
      case measure => simp [intOf]; omega
    · have hme : m = n := by omega
      have HF : Hid (RW 2 lcs wr (.slice a n cap) g (lmarks k0 n) ∧ w.grownBy wr (rowF g n)) := by
        obtain ⟨h1, h2, h3⟩ := HI.out
        rw [hn] at h3
        refine ⟨⟨⟨a, cap, by rw [lmarks_len], by rw [lmarks_len]; omega, fun hp => ?_, fun j hj => ?_⟩, fun j hj => ?_⟩, h3⟩
        · rw [lmarks_len] at hp
          exact ⟨(HA.out hp).1, Nat.lt_of_lt_of_le (HA.out hp).2 h3.size⟩
        · rw [lmarks_at, Nat.zero_add]
          rw [lmarks_len] at hj
          exact h1 j (by omega)
        · rw [lmarks_len] at hj
          exact h2 j (by omega)
      subst hme
      clear HI HA
      go_wp2
      go_ret
      exact ⟨rfl, HF.out.1, HF.out.2⟩

def HlR (k0 n : Nat) (w : World) (x i : Value) (wr : World) : Prop := ∃ m : Nat, m ≤ n ∧ i = .int .i64 m ∧ x = .int .i64 (k0 + 2 * m : Nat) ∧ Below w.heap.size w wr

set_option maxRecDepth 100000 in
set_option maxHeartbeats 1000000 in
theorem heldLeafS_any (v : Value) (g : Nat) (x : Int) (k0 n : Nat) (w : World) (hx : x = (k0 : Int)) (h : RS 2 lcs w v g 0 (lmarks k0 n)) (h0 : 0 < k0) (hk : k0 ≤ 10000000) :
    Calls Try.prog 53 #[v, .int .i64 x] w fun e w' => e = .returned (.int .i64 (k0 + 2 * n : Nat)) ∧ Below w.heap.size w w' := by
  subst hx
  have HV : Hid (RS 2 lcs w v g 0 (lmarks k0 n)) := h
  obtain ⟨a, cap, rfl, hl, hA, hc⟩ := h
  rw [lmarks_len] at *
  have HA : Hid (0 < n → a = some ⟨g, 0, none⟩) := fun h => (hA h).1
  clear hA hc
  go_enter Try.func53, Try.ntmps53
  go_wp2
  go_loopw [1, 5] (fun x i wr => HlR k0 n w x i wr) (fun _ i _ => n - (intOf i).toNat)
  case atStart => exact ⟨0, by omega, rfl, rfl, Below.refl _ _⟩
  case round =>
    obtain ⟨m, hm, rfl, rfl, hbel⟩ := hrel
    by_cases hlt : m < n
    · have ea := HA.out (by omega)
      subst ea
      obtain ⟨c0, c1⟩ := (HV.out.later hbel).leaf m (by rw [lmarks_len]; exact hlt)
      rw [lmarks_at] at c0 c1
      simp only [lmk, Nat.zero_add] at c0 c1
      have hg6 : g < wr.heap.size := lt_of_cell c0
      have i1 : (m : Int) < (n : Int) := by omega
      have i2 : (0 : Int) ≤ (m : Int) := by omega
      have HM0 : Hid (∀ W, Calls Try.prog 94 #[.int .i64 ((k0 + 2 * m : Nat) : Int)] W fun e w' => e = .returned (.string (markB (k0 + 2 * m))) ∧ Below W.heap.size W w') := fun W => markText_int _ _ W rfl (by omega) (by omega)
      have HM1 : Hid (∀ W, Calls Try.prog 94 #[.int .i64 ((k0 + 2 * m + 1 : Nat) : Int)] W fun e w' => e = .returned (.string (markB (k0 + 2 * m + 1))) ∧ Below W.heap.size W w') := fun W => markText_int _ _ W rfl (by omega) (by omega)
      generalize markB (k0 + 2 * m) = K0 at *
      generalize markB (k0 + 2 * m + 1) = K1 at *
      clear HV HA
      go_wp2
      have kq0 := cell_regrown (w := wr) c0
      have cq0 := fun d os => Calls.regrown_of (w := wr) (d := d) (os := os) (HM0.out _)
      refine wp_region_quiet_below (by kernel_rfl) (by kernel_rfl) ?_
      repeat (go_big_quiet_step (first | exact cq0 _ _))
      refine wpQuiet_nil ?_
      rintro _ ⟨⟨dq, osq⟩, rfl⟩
      have hb6 := below_regrown (wr) dq osq
      generalize grow (redrawn (wr) dq) osq = w6 at *
      clear kq0 cq0
      have c1' : w6.cell? ⟨g, m * 2 + 1, none⟩ = some (.string K1) := (hb6.cell (p := ⟨g, m * 2 + 1, none⟩) hg6).trans c1
      clear c0 c1
      have c1 := c1'
      clear c1'
      go_wp2
      have kq0 := cell_regrown (w := w6) c1
      have cq0 := fun d os => Calls.regrown_of (w := w6) (d := d) (os := os) (HM1.out _)
      refine wp_region_quiet_below (by kernel_rfl) (by kernel_rfl) ?_
      repeat (go_big_quiet_step (first | exact cq0 _ _))
      refine wpQuiet_nil ?_
      rintro _ ⟨⟨dq, osq⟩, rfl⟩
      have hb7 := below_regrown (w6) dq osq
      generalize grow (redrawn (w6) dq) osq = w7 at *
      clear kq0 cq0 c1
      have hb8 := hbel.trans ((hb6.trans (hb7.mono hb6.size)).mono hbel.size)
      go_wp2
      go_roundw
      case rel => exact ⟨m + 1, by omega, by go_num, by go_num, hb8⟩
      case measure => simp [intOf]; omega
    · have hme : m = n := by omega
      subst hme
      clear HV HA
      go_wp2
      go_ret
      exact ⟨rfl, hbel⟩

end Go.Proofs.Ytfojmagcoipbnaa
/-
  What the laws' own helpers do with proofs: taken over, compared, weighed, marked.
-/
namespace Go.Proofs.Ytfojmagcoipbnaa
open Go.RowKit Go.BigFrame Go.Sort
set_option linter.unusedVariables false
set_option linter.unusedSimpArgs false

theorem run_rangeQ {w : World} {v1 v2 : Value} (t : TypeId) : (w.alloc (.cells #[v1, v2] t)).cell? ⟨w.heap.size, 0, none⟩ = some v1 ∧ (w.alloc (.cells #[v1, v2] t)).cell? ⟨w.heap.size, 1, none⟩ = some v2 := run_rangeP (p := 0) t

/-- a proof in a law's hands: what it is made of lies in blocks from B on, apart -/
def PfI (w : World) (B : Nat) (v : Value) (L : List Le) (S : List ByteArray) (g1 g2 : Nat) : Prop := ∃ a1 c1 a2 c2, v = .agg #[.slice a1 L.length c1, .slice a2 S.length c2] ∧ RW 2 lcs w (.slice a1 L.length c1) g1 L ∧ TS w (.slice a2 S.length c2) g2 S ∧ B ≤ g1 ∧ B ≤ g2 ∧ (0 < L.length → 0 < S.length → g1 ≠ g2)
theorem PfI.later {w w' : World} {B : Nat} {v : Value} {L : List Le} {S : List ByteArray} {g1 g2 : Nat} (h : PfI w B v L S g1 g2) (hb : Below w.heap.size w w') : PfI w' B v L S g1 g2 := by
  obtain ⟨a1, c1, a2, c2, hv, h1, h2, h3⟩ := h
  exact ⟨a1, c1, a2, c2, hv, h1.later hb, h2.later hb, h3⟩

set_option maxRecDepth 100000 in
set_option maxHeartbeats 1000000 in
theorem eqProof_yes (v1 v2 u1 u2 : Value) (g1 o1 g2 o2 p1 q1 p2 q2 : Nat) (L : List Le) (S : List ByteArray) (w : World) (h1 : RS 2 lcs w v1 g1 o1 L) (h2 : SS w v2 g2 o2 S) (k1 : RS 2 lcs w u1 p1 q1 L) (k2 : SS w u2 p2 q2 S) :
    Calls Try.prog 12 #[.agg #[v1, v2], .agg #[u1, u2]] w fun e w' => e = .returned (.bool true) ∧ Below w.heap.size w w' := by
  have H1 : Hid (∀ W, Below w.heap.size w W → Calls Try.prog 41 #[v1, u1] W fun e w' => e = .returned (.bool true) ∧ Below W.heap.size W w') := fun W hW => eqLeafS_yes v1 u1 g1 o1 p1 q1 L W (h1.later hW) (k1.later hW)
  have H2 : Hid (∀ W, Below w.heap.size w W → Calls Try.prog 42 #[v2, u2] W fun e w' => e = .returned (.bool true) ∧ ∃ q, w' = W.drewN q) := fun W hW => eqStringS_yes v2 u2 g2 o2 p2 q2 S W (h2.below hW h2.lt) (k2.below hW k2.lt)
  have hba : Below w.heap.size w ((w.alloc (.cells #[v1, v2] 31)).alloc (.cells #[u1, u2] 31)) := ((Below.refl _ _).alloc (Nat.le_refl _) _).alloc (by simp) _
  have HP : Hid (∀ W, Below ((w.alloc (.cells #[v1, v2] 31)).alloc (.cells #[u1, u2] 31)).heap.size ((w.alloc (.cells #[v1, v2] 31)).alloc (.cells #[u1, u2] 31)) W → W.cell? ⟨w.heap.size, 0, none⟩ = some v1 ∧ W.cell? ⟨w.heap.size, 1, none⟩ = some v2 ∧ W.cell? ⟨w.heap.size + 1, 0, none⟩ = some u1 ∧ W.cell? ⟨w.heap.size + 1, 1, none⟩ = some u2 ∧ Below w.heap.size w W) := fun W hW => by
    obtain ⟨a0, a1⟩ := run_rangeQ (w := w) (v1 := v1) (v2 := v2) 31
    obtain ⟨b0, b1⟩ := run_rangeQ (w := w.alloc (.cells #[v1, v2] 31)) (v1 := u1) (v2 := u2) 31
    have hq : Below (w.alloc (.cells #[v1, v2] 31)).heap.size (w.alloc (.cells #[v1, v2] 31)) ((w.alloc (.cells #[v1, v2] 31)).alloc (.cells #[u1, u2] 31)) := (Below.refl _ _).alloc (Nat.le_refl _) _
    have e : (w.alloc (.cells #[v1, v2] 31)).heap.size = w.heap.size + 1 := by simp
    rw [e] at b0 b1
    exact ⟨cell_up (cell_up a0 hq) hW, cell_up (cell_up a1 hq) hW, cell_up b0 hW, cell_up b1 hW, hba.trans (hW.mono hba.size)⟩
  obtain ⟨p0, p1', p2', p3, _⟩ := HP.out _ (Below.refl _ _)
  clear h1 h2 k1 k2
  go_enter Try.func12, Try.ntmps12
  go_wp2_with fail
  refine (H1.out _ hba).mono ?_
  rintro e w1 ⟨rfl, hb1⟩
  obtain ⟨k0, k1, k2, k3, b1⟩ := HP.out _ hb1
  clear p0 p1' p2' p3 HP H1 hba hb1
  go_wp2_with fail
  refine (H2.out _ b1).mono ?_
  rintro e w2 ⟨rfl, q, rfl⟩
  clear k0 k1 k2 k3 H2
  go_wp2
  go_ret
  exact ⟨rfl, below_drn b1 q⟩

set_option maxRecDepth 100000 in
set_option maxHeartbeats 1000000 in
theorem szProof_row (v1 v2 : Value) (g1 o1 g2 o2 : Nat) (L : List Le) (S : List ByteArray) (x : Int) (w : World) (h1 : IsRowL w v1 g1 o1 L) (h2 : IsRowT w v2 g2 o2 S) (h0 : 0 ≤ x) (hx : x ≤ 1048576) :
    Calls Try.prog 8 #[.agg #[v1, v2], .int .i64 x] w fun e w' => ∃ A : Int, e = .returned (.int .i64 A) ∧ Below w.heap.size w w' ∧ A ≤ x ∧ (0 ≤ A → RS 2 lcs w v1 g1 o1 L ∧ SmallL L ∧ L.length ≤ 1048576 ∧ SS w v2 g2 o2 S ∧ (∀ t ∈ S, t.size ≤ 1048576) ∧ S.length ≤ 1048576) := by
  obtain ⟨p0, p1⟩ := run_rangeQ (w := w) (v1 := v1) (v2 := v2) 25
  have hba : Below w.heap.size w (w.alloc (.cells #[v1, v2] 25)) := (Below.refl _ _).alloc (Nat.le_refl _) _
  have hz1 := szLeafS_row v1 g1 o1 L x _ (h1.later hba) h0 hx
  have HZ2 : Hid (∀ W y, Below w.heap.size w W → 0 ≤ y → y ≤ x → Calls Try.prog 32 #[v2, .int .i64 y] W fun e w' => ∃ A : Int, e = .returned (.int .i64 A) ∧ w' = W ∧ A ≤ y ∧ (0 ≤ A → SS W v2 g2 o2 S ∧ (0 < S.length → g2 < W.heap.size) ∧ (∀ t ∈ S, t.size ≤ 1048576) ∧ S.length ≤ 1048576)) := fun W y hW hy hyx => szStringS_row v2 g2 o2 S y W (h2.later hW) hy (by omega)
  have HK : Hid (∀ W, Below (w.alloc (.cells #[v1, v2] 25)).heap.size (w.alloc (.cells #[v1, v2] 25)) W → W.cell? ⟨w.heap.size, 0, none⟩ = some v1 ∧ W.cell? ⟨w.heap.size, 1, none⟩ = some v2 ∧ Below w.heap.size w W) := fun W hW => ⟨cell_up p0 hW, cell_up p1 hW, hba.trans (hW.mono hba.size)⟩
  have HI1 : Hid (IsRowL w v1 g1 o1 L) := h1
  have HI2 : Hid (IsRowT w v2 g2 o2 S) := h2
  clear h1 h2
  go_enter Try.func8, Try.ntmps8
  go_wp2_with fail
  refine hz1.mono ?_
  rintro e w1 ⟨A, rfl, hb1, hAx, hA⟩
  obtain ⟨k0, k1, b1⟩ := HK.out _ hb1
  have HA1 : Hid (0 ≤ A → RS 2 lcs w v1 g1 o1 L ∧ SmallL L ∧ L.length ≤ 1048576) := fun h => by
    obtain ⟨_, h5, h6⟩ := hA h
    obtain ⟨a, n, cap, hv, hn, hr⟩ := HI1.out
    obtain ⟨_, c', hv', _⟩ := (hA h).1
    have hn2 : n = L.length := by rw [hv] at hv'; simp at hv'; exact hv'.2.1
    exact ⟨(hr (by omega)).2.1, h5, h6⟩
  clear hz1 p0 p1 HK hA hba
  by_cases hneg : A < 0
  · clear HZ2 HA1
    go_wp2
    go_ret
    exact ⟨_, rfl, b1, by omega, fun h => by omega⟩
  · have hz2 := HZ2.out w1 A b1 (by omega) hAx
    go_wp2_with fail
    refine hz2.mono ?_
    rintro e w2 ⟨A2, rfl, hw2, hA2x, hA2⟩
    subst hw2
    have HA2 : Hid (0 ≤ A2 → SS w v2 g2 o2 S ∧ (∀ t ∈ S, t.size ≤ 1048576) ∧ S.length ≤ 1048576) := fun h => by
      obtain ⟨_, _, h5, h6⟩ := hA2 h
      obtain ⟨a, n, cap, hv, hn, hr⟩ := HI2.out
      obtain ⟨_, c', hv', _⟩ := (hA2 h).1
      have hn2 : n = S.length := by rw [hv] at hv'; simp at hv'; exact hv'.2.1
      exact ⟨(hr (by omega)).2.1, h5, h6⟩
    have hA0 := HA1.out (by omega)
    clear hz2 HZ2 hA2 HA1
    by_cases hneg2 : A2 < 0
    · go_wp2
      go_ret
      exact ⟨_, rfl, b1, by omega, fun h => by omega⟩
    · go_wp2
      go_ret
      exact ⟨_, rfl, b1, by omega, fun h => ⟨hA0.1, hA0.2.1, hA0.2.2, HA2.out h⟩⟩

set_option maxRecDepth 100000 in
set_option maxHeartbeats 2000000 in
theorem toProof_any (v1 v2 : Value) (g1 o1 g2 o2 : Nat) (L : List Le) (S : List ByteArray) (w : World) (h1 : RS 2 lcs w v1 g1 o1 L) (h2 : SS w v2 g2 o2 S) :
    Calls Try.prog 10 #[.agg #[v1, v2]] w fun e w' => ∃ k1 k2, e = .returned (.agg #[.slice (some ⟨k1, 0, none⟩) L.length L.length, .slice (some ⟨k2, 0, none⟩) S.length S.length]) ∧ RW 2 lcs w' (.slice (some ⟨k1, 0, none⟩) L.length L.length) k1 L ∧ TS w' (.slice (some ⟨k2, 0, none⟩) S.length S.length) k2 S ∧ w.heap.size ≤ k1 ∧ w.heap.size ≤ k2 ∧ k1 ≠ k2 ∧ k1 < w'.heap.size ∧ k2 < w'.heap.size ∧ Below w.heap.size w w' := by
  have hlS : S.length ≤ 1100000 := by obtain ⟨_, _, _, h, _⟩ := h2; exact h
  have H1 : Hid (∀ W, Below w.heap.size w W → Calls Try.prog 36 #[v1] W fun e w' => ∃ g, e = .returned (.slice (some ⟨g, 0, none⟩) L.length L.length) ∧ W.heap.size ≤ g ∧ RW 2 lcs w' (.slice (some ⟨g, 0, none⟩) L.length L.length) g L ∧ g < w'.heap.size ∧ Below W.heap.size W w') := fun W hW => toLeafS_any v1 g1 o1 L W (h1.later hW)
  have H2 : Hid (∀ W, Below w.heap.size w W → Calls Try.prog 37 #[v2] W fun e w' => ∃ g, e = .returned (.slice (some ⟨g, 0, none⟩) S.length S.length) ∧ W.heap.size ≤ g ∧ TB w' g S ∧ Below W.heap.size W w') := fun W hW => by
    have h := h2.below hW h2.lt
    exact toStringS_any v2 g2 o2 S W h h.lt
  have HA0 : Hid (∀ W, W = ((w.alloc (.cells #[v1, v2] 25)).alloc (.cells #[.slice none 0 0, .slice none 0 0] 31)).alloc (.cells #[.slice none 0 0, .slice none 0 0] 31) → (W.cell? ⟨w.heap.size, 0, none⟩ = some v1 ∧ W.cell? ⟨w.heap.size, 1, none⟩ = some v2) ∧ PfM W (w.heap.size + 1) (.slice none 0 0) (.slice none 0 0) ∧ PfM W (w.heap.size + 2) (.slice none 0 0) (.slice none 0 0) ∧ Below w.heap.size w W ∧ W.heap.size = w.heap.size + 3) := fun W hW => by
    subst hW
    obtain ⟨a0, a1⟩ := run_rangeQ (w := w) (v1 := v1) (v2 := v2) 25
    have z1 : (w.alloc (.cells #[v1, v2] 25)).heap.size = w.heap.size + 1 := by simp
    have b1 : Below w.heap.size w (w.alloc (.cells #[v1, v2] 25)) := (Below.refl _ _).alloc (Nat.le_refl _) _
    generalize w.alloc (.cells #[v1, v2] 25) = W1 at *
    have n1 := PfM.new W1 (.slice none 0 0) (.slice none 0 0)
    have bb1 : Below W1.heap.size W1 (W1.alloc (.cells #[.slice none 0 0, .slice none 0 0] 31)) := (Below.refl _ _).alloc (Nat.le_refl _) _
    have z2 : (W1.alloc (.cells #[.slice none 0 0, .slice none 0 0] 31)).heap.size = w.heap.size + 2 := by simp [z1]
    have c0 := cell_up a0 bb1
    have c1 := cell_up a1 bb1
    generalize W1.alloc (.cells #[.slice none 0 0, .slice none 0 0] 31) = W2 at *
    have n2 := PfM.new W2 (.slice none 0 0) (.slice none 0 0)
    have bb2 : Below W2.heap.size W2 (W2.alloc (.cells #[.slice none 0 0, .slice none 0 0] 31)) := (Below.refl _ _).alloc (Nat.le_refl _) _
    rw [z1] at n1
    rw [z2] at n2
    exact ⟨⟨cell_up c0 bb2, cell_up c1 bb2⟩, n1.later bb2, n2, (b1.trans (bb1.mono b1.size)).trans (bb2.mono (by rw [z2]; omega)), by simp [z2]⟩
  obtain ⟨⟨x0, x1⟩, P1, P2, b0, zs⟩ := HA0.out _ rfl
  have HQ : Hid (∀ W, Below (((w.alloc (.cells #[v1, v2] 25)).alloc (.cells #[.slice none 0 0, .slice none 0 0] 31)).alloc (.cells #[.slice none 0 0, .slice none 0 0] 31)).heap.size (((w.alloc (.cells #[v1, v2] 25)).alloc (.cells #[.slice none 0 0, .slice none 0 0] 31)).alloc (.cells #[.slice none 0 0, .slice none 0 0] 31)) W → W.cell? ⟨w.heap.size, 1, none⟩ = some v2 ∧ PfM W (w.heap.size + 1) (.slice none 0 0) (.slice none 0 0) ∧ PfM W (w.heap.size + 2) (.slice none 0 0) (.slice none 0 0) ∧ Below w.heap.size w W) := fun W hW => ⟨cell_up x1 hW, P1.later hW, P2.later hW, b0.trans (hW.mono b0.size)⟩
  clear h1 h2 HA0 P1 P2
  go_enter Try.func10, Try.ntmps10
  go_wp2_with fail
  refine (H1.out _ b0).mono ?_
  rintro e w1 ⟨k1, rfl, hk1, hr1, hl1, hb1⟩
  rw [zs] at hk1
  obtain ⟨y1, P1, P2, b1⟩ := HQ.out _ hb1
  have c20 := P2.c0
  have f20 := P2.fr 0
  have hgr1 := grown_setC w1 (w.heap.size + 2) 0 (.slice (some ⟨k1, 0, none⟩) L.length L.length)
  have HA1 : Hid (PfM (w1.setCell ⟨w.heap.size + 2, 0, none⟩ (.slice (some ⟨k1, 0, none⟩) L.length L.length)) (w.heap.size + 1) (.slice none 0 0) (.slice none 0 0) ∧ PfM (w1.setCell ⟨w.heap.size + 2, 0, none⟩ (.slice (some ⟨k1, 0, none⟩) L.length L.length)) (w.heap.size + 2) (.slice (some ⟨k1, 0, none⟩) L.length L.length) (.slice none 0 0) ∧ RW 2 lcs (w1.setCell ⟨w.heap.size + 2, 0, none⟩ (.slice (some ⟨k1, 0, none⟩) L.length L.length)) (.slice (some ⟨k1, 0, none⟩) L.length L.length) k1 L ∧ Below w.heap.size w (w1.setCell ⟨w.heap.size + 2, 0, none⟩ (.slice (some ⟨k1, 0, none⟩) L.length L.length)) ∧ (w1.setCell ⟨w.heap.size + 2, 0, none⟩ (.slice (some ⟨k1, 0, none⟩) L.length L.length)).heap.size = w1.heap.size) :=
    ⟨P1.keep (hgr1.block _ P1.lt (by simp)), P2.set0 _, hr1.grown hgr1 (fun _ => by simp; omega), b1.setCell (p := ⟨w.heap.size + 2, 0, none⟩) (by simp) _, by simp⟩
  have d1 : w1.cell? ⟨w.heap.size, 1, none⟩ = some v2 := y1
  have hne0 : w.heap.size ≠ w.heap.size + 2 := by omega
  clear HQ x0 x1 H1 hr1 hb1 P1 P2 b1 hgr1 b0
  go_wp2_with fail
  refine (H2.out _ HA1.out.2.2.2.1).mono ?_
  rintro e w2 ⟨k2, rfl, hk2, ht2, hb2⟩
  rw [HA1.out.2.2.2.2] at hk2
  have P2 := HA1.out.2.1.later hb2
  have P1 := HA1.out.1.later hb2
  have c21 := P2.c1
  have f21 := P2.fr 1
  have hlt2 := ht2.lt
  have hgr2 := grown_setC w2 (w.heap.size + 2) 1 (.slice (some ⟨k2, 0, none⟩) S.length S.length)
  have hb02 := HA1.out.2.2.2.1.trans (hb2.mono HA1.out.2.2.2.1.size)
  have HA2 : Hid (PfM (w2.setCell ⟨w.heap.size + 2, 1, none⟩ (.slice (some ⟨k2, 0, none⟩) S.length S.length)) (w.heap.size + 1) (.slice none 0 0) (.slice none 0 0) ∧ PfM (w2.setCell ⟨w.heap.size + 2, 1, none⟩ (.slice (some ⟨k2, 0, none⟩) S.length S.length)) (w.heap.size + 2) (.slice (some ⟨k1, 0, none⟩) L.length L.length) (.slice (some ⟨k2, 0, none⟩) S.length S.length) ∧ RW 2 lcs (w2.setCell ⟨w.heap.size + 2, 1, none⟩ (.slice (some ⟨k2, 0, none⟩) S.length S.length)) (.slice (some ⟨k1, 0, none⟩) L.length L.length) k1 L ∧ TS (w2.setCell ⟨w.heap.size + 2, 1, none⟩ (.slice (some ⟨k2, 0, none⟩) S.length S.length)) (.slice (some ⟨k2, 0, none⟩) S.length S.length) k2 S ∧ Below w.heap.size w (w2.setCell ⟨w.heap.size + 2, 1, none⟩ (.slice (some ⟨k2, 0, none⟩) S.length S.length)) ∧ k1 < (w2.setCell ⟨w.heap.size + 2, 1, none⟩ (.slice (some ⟨k2, 0, none⟩) S.length S.length)).heap.size ∧ k2 < (w2.setCell ⟨w.heap.size + 2, 1, none⟩ (.slice (some ⟨k2, 0, none⟩) S.length S.length)).heap.size) :=
    ⟨P1.keep (hgr2.block _ P1.lt (by simp)), P2.set1 _, (HA1.out.2.2.1.later hb2).grown hgr2 (fun _ => by simp; omega), (ht2.ts S.length S.length rfl hlS).keptG hgr2 (fun _ => by simp; omega), hb02.setCell (p := ⟨w.heap.size + 2, 1, none⟩) (by simp) _, by have := hb2.size; rw [HA1.out.2.2.2.2] at this; simp; omega, by simp; omega⟩
  clear H2 ht2 hb2 P1 P2 hgr2 hb02 HA1 d1 y1 c20 f20
  go_wp2_with (first | (refine wp_loadPf rfl _ rfl (w.heap.size + 2) _ _ rfl HA2.out.2.1 ?_) | (refine wp_storePf rfl _ _ rfl (w.heap.size + 1) _ _ _ _ HA2.out.1 rfl rfl rfl rfl ?_; intro hfin))
  refine ret_pf1 2 (w.heap.size + 1) _ _ rfl rfl rfl hfin ?_
  obtain ⟨_, _, hr, ht, hb, l1, l2⟩ := HA2.out
  have hgr := grown_setRowP (w2.setCell ⟨w.heap.size + 2, 1, none⟩ (.slice (some ⟨k2, 0, none⟩) S.length S.length)) (w.heap.size + 1) #[.slice (some ⟨k1, 0, none⟩) L.length L.length, .slice (some ⟨k2, 0, none⟩) S.length S.length]
  exact ⟨k1, k2, rfl, hr.grown hgr (fun _ => by simp; omega), ht.keptG hgr (fun _ => by simp; omega), by omega, by omega, by omega, by rw [size_setRowP]; exact l1, by rw [size_setRowP]; exact l2, below_row hb (by omega)⟩

theorem rowF_apart {g1 g2 n : Nat} (h : 0 < n → g2 ≠ g1) : some g1 ≠ rowF g2 n := rowF_ne (fun hp => (h hp).symm)

set_option maxRecDepth 100000 in
set_option maxHeartbeats 1000000 in
theorem markProof_any (v1 v2 : Value) (g1 g2 : Nat) (L : List Le) (S : List ByteArray) (w : World) (h1 : RW 2 lcs w v1 g1 L) (h2 : TS w v2 g2 S) (hd : 0 < L.length → 0 < S.length → g1 ≠ g2) :
    Calls Try.prog 15 #[.agg #[v1, v2], .int .i64 1] w fun e w' => e = .returned (.int .i64 (1 + 2 * L.length + S.length : Nat)) ∧ RW 2 lcs w' v1 g1 (lmarks 1 L.length) ∧ TS w' v2 g2 (marks (1 + 2 * L.length) S.length) ∧ ∃ wm, w.grownBy wm (rowF g1 L.length) ∧ wm.grownBy w' (rowOf g2 S) := by
  have l1 := h1.1.len
  have l2 := h2.len
  have hB : Below w.heap.size w (w.alloc (.cells #[v1, v2] 31)) := (Below.refl _ _).alloc (Nat.le_refl _) _
  have HT : Hid (RW 2 lcs (w.alloc (.cells #[v1, v2] 31)) v1 g1 L ∧ TS (w.alloc (.cells #[v1, v2] 31)) v2 g2 S ∧ PfM (w.alloc (.cells #[v1, v2] 31)) w.heap.size v1 v2) := ⟨h1.later hB, h2.later hB, PfM.new w v1 v2⟩
  have HN : Hid (0 < L.length → w.heap.size ≠ g1) := fun h => by have := h1.lt h; omega
  have HB : Hid (Below w.heap.size w (w.alloc (.cells #[v1, v2] 31))) := hB
  have p0 := HT.out.2.2.c0
  have p1 := HT.out.2.2.c1
  clear hB
  go_enter Try.func15, Try.ntmps15
  go_wp2_with fail
  refine (markLeafS_any _ g1 L _ 1 _ rfl HT.out.1 (by omega) (by omega)).mono ?_
  rintro e wa ⟨rfl, ha1, hga⟩
  have ha2 := HT.out.2.1.keptG hga (fun hp => rowF_ne (fun hp2 => (hd hp2 hp).symm))
  have hsa := HT.out.2.2.keep (hga.block _ HT.out.2.2.lt (rowF_ne fun hp => HN.out hp))
  have e1 := hsa.c1
  have e0 := hsa.c0
  have HG1 : Hid (w.grownBy wa (rowF g1 L.length)) := (grown_below HB.out).trans hga
  have HA : Hid (RW 2 lcs wa v1 g1 (lmarks 1 L.length) ∧ TS wa v2 g2 S) := ⟨ha1, ha2⟩
  clear ha1 ha2 hsa hga HT HB p0 p1
  go_wp2_with fail
  refine (markStringS_any _ g2 S _ (1 + 2 * L.length) _ rfl HA.out.2 (by omega) (by omega)).mono ?_
  rintro e wb ⟨rfl, hb2, hgb⟩
  have hb1 := HA.out.1.grown hgb (fun hp => rowOf_ne (fun hp2 => hd (by rw [lmarks_len] at hp; exact hp) hp2))
  have HF : Hid (RW 2 lcs wb v1 g1 (lmarks 1 L.length) ∧ TS wb v2 g2 (marks (1 + 2 * L.length) S.length) ∧ ∃ wm, w.grownBy wm (rowF g1 L.length) ∧ wm.grownBy wb (rowOf g2 S)) := ⟨hb1, hb2, wa, HG1.out, hgb⟩
  clear hb1 hb2 hgb HA HG1 e0 e1
  go_wp2
  go_ret
  exact ⟨rfl, HF.out⟩

set_option maxRecDepth 100000 in
set_option maxHeartbeats 1000000 in
theorem heldProof_any (v1 v2 : Value) (g1 g2 n1 n2 : Nat) (w : World) (h1 : RW 2 lcs w v1 g1 (lmarks 1 n1)) (h2 : TS w v2 g2 (marks (1 + 2 * n1) n2)) :
    Calls Try.prog 16 #[.agg #[v1, v2], .int .i64 1] w fun e w' => e = .returned (.int .i64 (1 + 2 * n1 + n2 : Nat)) ∧ Below w.heap.size w w' := by
  have l1 := h1.1.len
  have l2 := h2.len
  rw [lmarks_len] at l1
  rw [marks_len] at l2
  have hB : Below w.heap.size w (w.alloc (.cells #[v1, v2] 31)) := (Below.refl _ _).alloc (Nat.le_refl _) _
  have HT : Hid (∀ W, Below w.heap.size w W → RS 2 lcs W v1 g1 0 (lmarks 1 n1) ∧ TS W v2 g2 (marks (1 + 2 * n1) n2)) := fun W hW => ⟨h1.1.later hW, h2.later hW⟩
  have HP : Hid (PfM (w.alloc (.cells #[v1, v2] 31)) w.heap.size v1 v2) := PfM.new w v1 v2
  have p0 := HP.out.c0
  have p1 := HP.out.c1
  clear h1 h2
  go_enter Try.func16, Try.ntmps16
  go_wp2_with fail
  refine (heldLeafS_any _ g1 _ 1 n1 _ rfl (HT.out _ hB).1 (by omega) (by omega)).mono ?_
  rintro e wa ⟨rfl, hba⟩
  have ba := hB.trans (hba.mono hB.size)
  have e0 := (HP.out.later hba).c0
  have e1 := (HP.out.later hba).c1
  have q1 : ¬ (((1 + 2 * n1 : Nat) : Int) < 0) := by omega
  clear hba hB HP p0 p1
  go_wp2_with fail
  refine (heldStringS_any _ g2 _ (1 + 2 * n1) n2 _ rfl (HT.out _ ba).2 (by omega) (by omega)).mono ?_
  rintro e wb ⟨rfl, hbb⟩
  have bb := ba.trans (hbb.mono ba.size)
  have q2 : ¬ (((1 + 2 * n1 + n2 : Nat) : Int) < 0) := by omega
  clear hbb ba e0 e1 HT
  go_wp2
  go_ret
  exact ⟨rfl, bb⟩

end Go.Proofs.Ytfojmagcoipbnaa
/-
  A proof that a law is handed, in its box.
-/
namespace Go.Proofs.Ytfojmagcoipbnaa
open Go.RowKit Go.BigFrame Go.Sort
set_option linter.unusedVariables false
set_option linter.unusedSimpArgs false

/-- a proof that a law was handed stays in its box, and can be taken over from there -/
def PoX (w W : World) (v1 v2 : Value) : Prop := Below w.heap.size w W ∧ w.heap.size < W.heap.size ∧ W.cell? ⟨w.heap.size, 0, none⟩ = some v1 ∧ W.cell? ⟨w.heap.size, 1, none⟩ = some v2
theorem PoX.start (w : World) (v1 v2 : Value) : PoX w (w.alloc (.cells #[v1, v2] 25)) v1 v2 := by
  obtain ⟨a0, a1⟩ := run_rangeQ (w := w) (v1 := v1) (v2 := v2) 25
  exact ⟨(Below.refl _ _).alloc (Nat.le_refl _) _, by simp, a0, a1⟩
theorem PoX.later {w W W' : World} {v1 v2 : Value} (h : PoX w W v1 v2) (hb : Below W.heap.size W W') : PoX w W' v1 v2 := ⟨h.1.trans (hb.mono h.1.size), Nat.lt_of_lt_of_le h.2.1 hb.size, cell_up h.2.2.1 hb, cell_up h.2.2.2 hb⟩

/-- what a law makes of a proof that it was handed -/
def ToP (L : List Le) (S : List ByteArray) (w : World) (e : Ending) (w' : World) : Prop := ∃ k1 k2, e = .returned (.agg #[.slice (some ⟨k1, 0, none⟩) L.length L.length, .slice (some ⟨k2, 0, none⟩) S.length S.length]) ∧ RW 2 lcs w' (.slice (some ⟨k1, 0, none⟩) L.length L.length) k1 L ∧ TS w' (.slice (some ⟨k2, 0, none⟩) S.length S.length) k2 S ∧ w.heap.size ≤ k1 ∧ w.heap.size ≤ k2 ∧ k1 ≠ k2 ∧ k1 < w'.heap.size ∧ k2 < w'.heap.size ∧ Below w.heap.size w w'

end Go.Proofs.Ytfojmagcoipbnaa
