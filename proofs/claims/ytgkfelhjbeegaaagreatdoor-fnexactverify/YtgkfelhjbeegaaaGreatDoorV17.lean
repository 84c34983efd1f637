/-
  Texts laid together: Mf, Lk, Pz, Pad.
-/
import Derived.Test.YtgkfelhjbeegaaaGreatDoorV04
import Derived.Test.YtgkfelhjbeegaaaGreatDoorV03
import Derived.Test.YtgkfelhjbeegaaaGreatDoorV08
import Derived.Lib.QuietBelow
import Derived.Test.YtgkfelhjbeegaaaGreatDoorV09
import Derived.Test.YtgkfelhjbeegaaaGreatDoorV16
import Derived.Lib.SmallJoins
import Derived.ProofKit
import Derived.Test.YtgkfelhjbeegaaaGreatDoorV01
import Derived.Lib.ConvBytes
import Derived.Lib.BufferWrite
/-
  What the laws' own helpers write into the files of a disk, and find there again.
-/
namespace Go.Proofs.YtgkfelhjbeegaaaGreatDoor
open Go.RowKit Go.BigFrame Go.Sort
set_option linter.unusedVariables false
set_option linter.unusedSimpArgs false

def fmk (k0 j : Nat) : Fl := ⟨markB (k0 + 3 * j), markB (k0 + 3 * j + 1), ((k0 + 3 * j + 2 : Nat) : Int)⟩
def fmarks (k0 n : Nat) : List Fl := (List.range n).map (fmk k0)
theorem fmarks_len (k0 n : Nat) : (fmarks k0 n).length = n := by simp [fmarks]
theorem fmarks_at (k0 n j : Nat) (h : j < (fmarks k0 n).length) : (fmarks k0 n)[j] = fmk k0 j := by simp [fmarks]

theorem set_here {w : World} {g o : Nat} {u : Value} (h : w.cell? ⟨g, o, none⟩ = some u) (hf : w.frozen? ⟨g, o, none⟩ = false) (v : Value) : (w.setCell ⟨g, o, none⟩ v).cell? ⟨g, o, none⟩ = some v :=
  (World.rangeAt_setCells_same w g o [v] (fun j hj => by
    have : j = 0 := by simpa using hj
    subst this
    exact ⟨by rw [Nat.add_zero, h]; rfl, hf⟩)) 0 v rfl
theorem set_else {w : World} {g o o' : Nat} (h : o' ≠ o) (v : Value) : (w.setCell ⟨g, o, none⟩ v).cell? ⟨g, o', none⟩ = w.cell? ⟨g, o', none⟩ :=
  World.cell?_setCells_out g [v] o w ⟨g, o', none⟩ (fun _ _ => by simp; omega)
theorem set_there {w : World} {g b o n : Nat} (o' : Nat) (h : w.there b o n) (v : Value) : (w.setCell ⟨g, o', none⟩ v).there b o n := World.there_setCells h g o' [v]
theorem set_range {w : World} {g o o' : Nat} {cs : List Value} (h : w.rangeAt g o cs) (hn : o + cs.length ≤ o') (v : Value) : (w.setCell ⟨g, o', none⟩ v).rangeAt g o cs := World.rangeAt_setCells_apart h g o' [v] (.inr (.inl hn))

def rowF (g n : Nat) : Option Nat := if n = 0 then none else some g
theorem rowF_some {g n : Nat} (h : 0 < n) : rowF g n = some g := if_neg (by omega)
theorem rowF_ne {g k n : Nat} (h : 0 < n → k ≠ g) : some k ≠ rowF g n := by
  unfold rowF
  split
  · simp
  · have := h (by omega)
    simpa using this
theorem rowF_le {g n B : Nat} (h : B ≤ g) (q : Nat) (hq : rowF g n = some q) : B ≤ q := by
  unfold rowF at hq
  split at hq
  · cases hq
  · cases hq; exact h
/-- the first m files bear marks, and all may be written -/
def MfI (w : World) (g : Nat) (l : List Fl) (k0 m : Nat) (wr : World) : Prop := (∀ j, j < m → wr.rangeAt g (j * 3) (fcs (fmk k0 j))) ∧ (∀ j, j < l.length → wr.there g (j * 3) 3) ∧ w.grownBy wr (rowF g l.length)
theorem MfI.below {w wr wr' : World} {g : Nat} {l : List Fl} {k0 m : Nat} (h : MfI w g l k0 m wr) (hg : g < wr.heap.size) (hb : Below wr.heap.size wr wr') : MfI w g l k0 m wr' :=
  ⟨fun j hj => range_kept (h.1 j hj) (hb.block g hg), fun j hj => there_kept (h.2.1 j hj) (hb.block g hg), h.2.2.trans ((grown_below hb))⟩
theorem MfI.set {w wr : World} {g : Nat} {l : List Fl} {k0 m : Nat} (h : MfI w g l k0 m wr) (hm : m < l.length) (o : Nat) (ho : m * 3 ≤ o) (v : Value) : MfI w g l k0 m (wr.setCell ⟨g, o, none⟩ v) :=
  ⟨fun j hj => set_range (h.1 j hj) (by rw [fcs_len]; omega) v, fun j hj => set_there o (h.2.1 j hj) v, by
    have h3 := h.2.2
    rw [rowF_some (by omega)] at h3 ⊢
    exact h3.trans (grown_set wr g o v)⟩

def MfR (w : World) (g : Nat) (l : List Fl) (k0 : Nat) (x i : Value) (wr : World) : Prop := ∃ m : Nat, m ≤ l.length ∧ i = .int .i64 m ∧ x = .int .i64 (k0 + 3 * m : Nat) ∧ Hid (MfI w g l k0 m wr)

def HfR (k0 n : Nat) (w : World) (x i : Value) (wr : World) : Prop := ∃ m : Nat, m ≤ n ∧ i = .int .i64 m ∧ x = .int .i64 (k0 + 3 * m : Nat) ∧ Below w.heap.size w wr

end Go.Proofs.YtgkfelhjbeegaaaGreatDoor
/-
  What the laws' own helpers write into a row of leaves, and find there again.
-/
namespace Go.Proofs.YtgkfelhjbeegaaaGreatDoor
open Go.RowKit Go.BigFrame Go.Sort
set_option linter.unusedVariables false
set_option linter.unusedSimpArgs false

def lmk (k0 j : Nat) : Le := ⟨markB (k0 + 2 * j), markB (k0 + 2 * j + 1)⟩
def lmarks (k0 n : Nat) : List Le := (List.range n).map (lmk k0)
theorem lmarks_len (k0 n : Nat) : (lmarks k0 n).length = n := by simp [lmarks]
theorem lmarks_at (k0 n j : Nat) (h : j < (lmarks k0 n).length) : (lmarks k0 n)[j] = lmk k0 j := by simp [lmarks]

/-- the first m leaves bear marks, and all may be written -/
def MlI (w : World) (g : Nat) (l : List Le) (k0 m : Nat) (wr : World) : Prop := (∀ j, j < m → wr.rangeAt g (j * 2) (lcs (lmk k0 j))) ∧ (∀ j, j < l.length → wr.there g (j * 2) 2) ∧ w.grownBy wr (rowF g l.length)
theorem MlI.below {w wr wr' : World} {g : Nat} {l : List Le} {k0 m : Nat} (h : MlI w g l k0 m wr) (hg : g < wr.heap.size) (hb : Below wr.heap.size wr wr') : MlI w g l k0 m wr' :=
  ⟨fun j hj => range_kept (h.1 j hj) (hb.block g hg), fun j hj => there_kept (h.2.1 j hj) (hb.block g hg), h.2.2.trans ((grown_below hb))⟩
theorem MlI.set {w wr : World} {g : Nat} {l : List Le} {k0 m : Nat} (h : MlI w g l k0 m wr) (hm : m < l.length) (o : Nat) (ho : m * 2 ≤ o) (v : Value) : MlI w g l k0 m (wr.setCell ⟨g, o, none⟩ v) :=
  ⟨fun j hj => set_range (h.1 j hj) (by rw [lcs_len]; omega) v, fun j hj => set_there o (h.2.1 j hj) v, by
    have h3 := h.2.2
    rw [rowF_some (by omega)] at h3 ⊢
    exact h3.trans (grown_set wr g o v)⟩

def MlR (w : World) (g : Nat) (l : List Le) (k0 : Nat) (x i : Value) (wr : World) : Prop := ∃ m : Nat, m ≤ l.length ∧ i = .int .i64 m ∧ x = .int .i64 (k0 + 2 * m : Nat) ∧ Hid (MlI w g l k0 m wr)

def HlR (k0 n : Nat) (w : World) (x i : Value) (wr : World) : Prop := ∃ m : Nat, m ≤ n ∧ i = .int .i64 m ∧ x = .int .i64 (k0 + 2 * m : Nat) ∧ Below w.heap.size w wr

end Go.Proofs.YtgkfelhjbeegaaaGreatDoor
/-
  What the laws' own helpers do with proofs: taken over, compared, weighed, marked.
-/
namespace Go.Proofs.YtgkfelhjbeegaaaGreatDoor
open Go.RowKit Go.BigFrame Go.Sort
set_option linter.unusedVariables false
set_option linter.unusedSimpArgs false

theorem run_rangeQ {w : World} {v1 v2 : Value} (t : TypeId) : (w.alloc (.cells #[v1, v2] t)).cell? ⟨w.heap.size, 0, none⟩ = some v1 ∧ (w.alloc (.cells #[v1, v2] t)).cell? ⟨w.heap.size, 1, none⟩ = some v2 := run_rangeP (p := 0) t

/-- a proof in a law's hands: what it is made of lies in blocks from B on, apart -/
def PfI (w : World) (B : Nat) (v : Value) (L : List Le) (S : List ByteArray) (g1 g2 : Nat) : Prop := ∃ a1 c1 a2 c2, v = .agg #[.slice a1 L.length c1, .slice a2 S.length c2] ∧ RW 2 lcs w (.slice a1 L.length c1) g1 L ∧ TS w (.slice a2 S.length c2) g2 S ∧ B ≤ g1 ∧ B ≤ g2 ∧ (0 < L.length → 0 < S.length → g1 ≠ g2)
theorem PfI.later {w w' : World} {B : Nat} {v : Value} {L : List Le} {S : List ByteArray} {g1 g2 : Nat} (h : PfI w B v L S g1 g2) (hb : Below w.heap.size w w') : PfI w' B v L S g1 g2 := by
  obtain ⟨a1, c1, a2, c2, hv, h1, h2, h3⟩ := h
  exact ⟨a1, c1, a2, c2, hv, h1.later hb, h2.later hb, h3⟩

set_option maxRecDepth 100000 in
set_option maxHeartbeats 1000000 in
theorem eqProof_yes (v1 v2 u1 u2 : Value) (g1 o1 g2 o2 p1 q1 p2 q2 : Nat) (L : List Le) (S : List ByteArray) (w : World) (h1 : RS 2 lcs w v1 g1 o1 L) (h2 : SS w v2 g2 o2 S) (k1 : RS 2 lcs w u1 p1 q1 L) (k2 : SS w u2 p2 q2 S) :
    Calls Tryz.prog 31 #[.agg #[v1, v2], .agg #[u1, u2]] w fun e w' => e = .returned (.bool true) ∧ Below w.heap.size w w' := by
  have H1 : Hid (∀ W, Below w.heap.size w W → Calls Tryz.prog 63 #[v1, u1] W fun e w' => e = .returned (.bool true) ∧ Below W.heap.size W w') := fun W hW => eqLeafS_yes v1 u1 g1 o1 p1 q1 L W (h1.later hW) (k1.later hW)
  have H2 : Hid (∀ W, Below w.heap.size w W → Calls Tryz.prog 30 #[v2, u2] W fun e w' => e = .returned (.bool true) ∧ ∃ q, w' = W.drewN q) := fun W hW => eqStringS_yes v2 u2 g2 o2 p2 q2 S W (h2.below hW h2.lt) (k2.below hW k2.lt)
  have hba : Below w.heap.size w ((w.alloc (.cells #[v1, v2] 45)).alloc (.cells #[u1, u2] 45)) := ((Below.refl _ _).alloc (Nat.le_refl _) _).alloc (by simp) _
  have HP : Hid (∀ W, Below ((w.alloc (.cells #[v1, v2] 45)).alloc (.cells #[u1, u2] 45)).heap.size ((w.alloc (.cells #[v1, v2] 45)).alloc (.cells #[u1, u2] 45)) W → W.cell? ⟨w.heap.size, 0, none⟩ = some v1 ∧ W.cell? ⟨w.heap.size, 1, none⟩ = some v2 ∧ W.cell? ⟨w.heap.size + 1, 0, none⟩ = some u1 ∧ W.cell? ⟨w.heap.size + 1, 1, none⟩ = some u2 ∧ Below w.heap.size w W) := fun W hW => by
    obtain ⟨a0, a1⟩ := run_rangeQ (w := w) (v1 := v1) (v2 := v2) 45
    obtain ⟨b0, b1⟩ := run_rangeQ (w := w.alloc (.cells #[v1, v2] 45)) (v1 := u1) (v2 := u2) 45
    have hq : Below (w.alloc (.cells #[v1, v2] 45)).heap.size (w.alloc (.cells #[v1, v2] 45)) ((w.alloc (.cells #[v1, v2] 45)).alloc (.cells #[u1, u2] 45)) := (Below.refl _ _).alloc (Nat.le_refl _) _
    have e : (w.alloc (.cells #[v1, v2] 45)).heap.size = w.heap.size + 1 := by simp
    rw [e] at b0 b1
    exact ⟨cell_up (cell_up a0 hq) hW, cell_up (cell_up a1 hq) hW, cell_up b0 hW, cell_up b1 hW, hba.trans (hW.mono hba.size)⟩
  obtain ⟨p0, p1', p2', p3, _⟩ := HP.out _ (Below.refl _ _)
  clear h1 h2 k1 k2
  go_enter Tryz.func31, Tryz.ntmps31
  go_wp2_with fail
  refine (H1.out _ hba).mono ?_
  rintro e w1 ⟨rfl, hb1⟩
  obtain ⟨k0, k1, k2, k3, b1⟩ := HP.out _ hb1
  clear p0 p1' p2' p3 HP H1 hba hb1
  go_wp2_with fail
  refine (H2.out _ b1).mono ?_
  rintro e w2 ⟨rfl, q, rfl⟩
  clear k0 k1 k2 k3 H2
  go_wp2
  go_ret
  exact ⟨rfl, below_drn b1 q⟩

set_option maxRecDepth 100000 in
set_option maxHeartbeats 1000000 in
theorem szProof_row (v1 v2 : Value) (g1 o1 g2 o2 : Nat) (L : List Le) (S : List ByteArray) (x : Int) (w : World) (h1 : IsRowL w v1 g1 o1 L) (h2 : IsRowT w v2 g2 o2 S) (h0 : 0 ≤ x) (hx : x ≤ 1048576) :
    Calls Tryz.prog 13 #[.agg #[v1, v2], .int .i64 x] w fun e w' => ∃ A : Int, e = .returned (.int .i64 A) ∧ Below w.heap.size w w' ∧ A ≤ x ∧ (0 ≤ A → RS 2 lcs w v1 g1 o1 L ∧ SmallL L ∧ L.length ≤ 1048576 ∧ SS w v2 g2 o2 S ∧ (∀ t ∈ S, t.size ≤ 1048576) ∧ S.length ≤ 1048576) := by
  obtain ⟨p0, p1⟩ := run_rangeQ (w := w) (v1 := v1) (v2 := v2) 27
  have hba : Below w.heap.size w (w.alloc (.cells #[v1, v2] 27)) := (Below.refl _ _).alloc (Nat.le_refl _) _
  have hz1 := szLeafS_row v1 g1 o1 L x _ (h1.later hba) h0 hx
  have HZ2 : Hid (∀ W y, Below w.heap.size w W → 0 ≤ y → y ≤ x → Calls Tryz.prog 12 #[v2, .int .i64 y] W fun e w' => ∃ A : Int, e = .returned (.int .i64 A) ∧ w' = W ∧ A ≤ y ∧ (0 ≤ A → SS W v2 g2 o2 S ∧ (0 < S.length → g2 < W.heap.size) ∧ (∀ t ∈ S, t.size ≤ 1048576) ∧ S.length ≤ 1048576)) := fun W y hW hy hyx => szStringS_row v2 g2 o2 S y W (h2.later hW) hy (by omega)
  have HK : Hid (∀ W, Below (w.alloc (.cells #[v1, v2] 27)).heap.size (w.alloc (.cells #[v1, v2] 27)) W → W.cell? ⟨w.heap.size, 0, none⟩ = some v1 ∧ W.cell? ⟨w.heap.size, 1, none⟩ = some v2 ∧ Below w.heap.size w W) := fun W hW => ⟨cell_up p0 hW, cell_up p1 hW, hba.trans (hW.mono hba.size)⟩
  have HI1 : Hid (IsRowL w v1 g1 o1 L) := h1
  have HI2 : Hid (IsRowT w v2 g2 o2 S) := h2
  clear h1 h2
  go_enter Tryz.func13, Tryz.ntmps13
  go_wp2_with fail
  refine hz1.mono ?_
  rintro e w1 ⟨A, rfl, hb1, hAx, hA⟩
  obtain ⟨k0, k1, b1⟩ := HK.out _ hb1
  have HA1 : Hid (0 ≤ A → RS 2 lcs w v1 g1 o1 L ∧ SmallL L ∧ L.length ≤ 1048576) := fun h => by
    obtain ⟨_, h5, h6⟩ := hA h
    obtain ⟨a, n, cap, hv, hn, hr⟩ := HI1.out
    obtain ⟨_, c', hv', _⟩ := (hA h).1
    have hn2 : n = L.length := by rw [hv] at hv'; simp at hv'; exact hv'.2.1
    exact ⟨(hr (by omega)).2.1, h5, h6⟩
  clear hz1 p0 p1 HK hA hba
  by_cases hneg : A < 0
  · clear HZ2 HA1
    go_wp2
    go_ret
    exact ⟨_, rfl, b1, by omega, fun h => by omega⟩
  · have hz2 := HZ2.out w1 A b1 (by omega) hAx
    go_wp2_with fail
    refine hz2.mono ?_
    rintro e w2 ⟨A2, rfl, hw2, hA2x, hA2⟩
    subst hw2
    have HA2 : Hid (0 ≤ A2 → SS w v2 g2 o2 S ∧ (∀ t ∈ S, t.size ≤ 1048576) ∧ S.length ≤ 1048576) := fun h => by
      obtain ⟨_, _, h5, h6⟩ := hA2 h
      obtain ⟨a, n, cap, hv, hn, hr⟩ := HI2.out
      obtain ⟨_, c', hv', _⟩ := (hA2 h).1
      have hn2 : n = S.length := by rw [hv] at hv'; simp at hv'; exact hv'.2.1
      exact ⟨(hr (by omega)).2.1, h5, h6⟩
    have hA0 := HA1.out (by omega)
    clear hz2 HZ2 hA2 HA1
    by_cases hneg2 : A2 < 0
    · go_wp2
      go_ret
      exact ⟨_, rfl, b1, by omega, fun h => by omega⟩
    · go_wp2
      go_ret
      exact ⟨_, rfl, b1, by omega, fun h => ⟨hA0.1, hA0.2.1, hA0.2.2, HA2.out h⟩⟩

set_option maxRecDepth 100000 in
set_option maxHeartbeats 2000000 in
theorem toProof_any (v1 v2 : Value) (g1 o1 g2 o2 : Nat) (L : List Le) (S : List ByteArray) (w : World) (h1 : RS 2 lcs w v1 g1 o1 L) (h2 : SS w v2 g2 o2 S) :
    Calls Tryz.prog 25 #[.agg #[v1, v2]] w fun e w' => ∃ k1 k2, e = .returned (.agg #[.slice (some ⟨k1, 0, none⟩) L.length L.length, .slice (some ⟨k2, 0, none⟩) S.length S.length]) ∧ RW 2 lcs w' (.slice (some ⟨k1, 0, none⟩) L.length L.length) k1 L ∧ TS w' (.slice (some ⟨k2, 0, none⟩) S.length S.length) k2 S ∧ w.heap.size ≤ k1 ∧ w.heap.size ≤ k2 ∧ k1 ≠ k2 ∧ k1 < w'.heap.size ∧ k2 < w'.heap.size ∧ Below w.heap.size w w' := by
  have hlS : S.length ≤ 1100000 := by obtain ⟨_, _, _, h, _⟩ := h2; exact h
  have H1 : Hid (∀ W, Below w.heap.size w W → Calls Tryz.prog 53 #[v1] W fun e w' => ∃ g, e = .returned (.slice (some ⟨g, 0, none⟩) L.length L.length) ∧ W.heap.size ≤ g ∧ RW 2 lcs w' (.slice (some ⟨g, 0, none⟩) L.length L.length) g L ∧ g < w'.heap.size ∧ Below W.heap.size W w') := fun W hW => toLeafS_any v1 g1 o1 L W (h1.later hW)
  have H2 : Hid (∀ W, Below w.heap.size w W → Calls Tryz.prog 24 #[v2] W fun e w' => ∃ g, e = .returned (.slice (some ⟨g, 0, none⟩) S.length S.length) ∧ W.heap.size ≤ g ∧ TB w' g S ∧ Below W.heap.size W w') := fun W hW => by
    have h := h2.below hW h2.lt
    exact toStringS_any v2 g2 o2 S W h h.lt
  have HA0 : Hid (∀ W, W = ((w.alloc (.cells #[v1, v2] 27)).alloc (.cells #[.slice none 0 0, .slice none 0 0] 45)).alloc (.cells #[.slice none 0 0, .slice none 0 0] 45) → (W.cell? ⟨w.heap.size, 0, none⟩ = some v1 ∧ W.cell? ⟨w.heap.size, 1, none⟩ = some v2) ∧ PfM W (w.heap.size + 1) (.slice none 0 0) (.slice none 0 0) ∧ PfM W (w.heap.size + 2) (.slice none 0 0) (.slice none 0 0) ∧ Below w.heap.size w W ∧ W.heap.size = w.heap.size + 3) := fun W hW => by
    subst hW
    obtain ⟨a0, a1⟩ := run_rangeQ (w := w) (v1 := v1) (v2 := v2) 27
    have z1 : (w.alloc (.cells #[v1, v2] 27)).heap.size = w.heap.size + 1 := by simp
    have b1 : Below w.heap.size w (w.alloc (.cells #[v1, v2] 27)) := (Below.refl _ _).alloc (Nat.le_refl _) _
    generalize w.alloc (.cells #[v1, v2] 27) = W1 at *
    have n1 := PfM.new W1 (.slice none 0 0) (.slice none 0 0)
    have bb1 : Below W1.heap.size W1 (W1.alloc (.cells #[.slice none 0 0, .slice none 0 0] 45)) := (Below.refl _ _).alloc (Nat.le_refl _) _
    have z2 : (W1.alloc (.cells #[.slice none 0 0, .slice none 0 0] 45)).heap.size = w.heap.size + 2 := by simp [z1]
    have c0 := cell_up a0 bb1
    have c1 := cell_up a1 bb1
    generalize W1.alloc (.cells #[.slice none 0 0, .slice none 0 0] 45) = W2 at *
    have n2 := PfM.new W2 (.slice none 0 0) (.slice none 0 0)
    have bb2 : Below W2.heap.size W2 (W2.alloc (.cells #[.slice none 0 0, .slice none 0 0] 45)) := (Below.refl _ _).alloc (Nat.le_refl _) _
    rw [z1] at n1
    rw [z2] at n2
    exact ⟨⟨cell_up c0 bb2, cell_up c1 bb2⟩, n1.later bb2, n2, (b1.trans (bb1.mono b1.size)).trans (bb2.mono (by rw [z2]; omega)), by simp [z2]⟩
  obtain ⟨⟨x0, x1⟩, P1, P2, b0, zs⟩ := HA0.out _ rfl
  have HQ : Hid (∀ W, Below (((w.alloc (.cells #[v1, v2] 27)).alloc (.cells #[.slice none 0 0, .slice none 0 0] 45)).alloc (.cells #[.slice none 0 0, .slice none 0 0] 45)).heap.size (((w.alloc (.cells #[v1, v2] 27)).alloc (.cells #[.slice none 0 0, .slice none 0 0] 45)).alloc (.cells #[.slice none 0 0, .slice none 0 0] 45)) W → W.cell? ⟨w.heap.size, 1, none⟩ = some v2 ∧ PfM W (w.heap.size + 1) (.slice none 0 0) (.slice none 0 0) ∧ PfM W (w.heap.size + 2) (.slice none 0 0) (.slice none 0 0) ∧ Below w.heap.size w W) := fun W hW => ⟨cell_up x1 hW, P1.later hW, P2.later hW, b0.trans (hW.mono b0.size)⟩
  clear h1 h2 HA0 P1 P2
  go_enter Tryz.func25, Tryz.ntmps25
  go_wp2_with fail
  refine (H1.out _ b0).mono ?_
  rintro e w1 ⟨k1, rfl, hk1, hr1, hl1, hb1⟩
  rw [zs] at hk1
  obtain ⟨y1, P1, P2, b1⟩ := HQ.out _ hb1
  have c20 := P2.c0
  have f20 := P2.fr 0
  have hgr1 := grown_setC w1 (w.heap.size + 2) 0 (.slice (some ⟨k1, 0, none⟩) L.length L.length)
  have HA1 : Hid (PfM (w1.setCell ⟨w.heap.size + 2, 0, none⟩ (.slice (some ⟨k1, 0, none⟩) L.length L.length)) (w.heap.size + 1) (.slice none 0 0) (.slice none 0 0) ∧ PfM (w1.setCell ⟨w.heap.size + 2, 0, none⟩ (.slice (some ⟨k1, 0, none⟩) L.length L.length)) (w.heap.size + 2) (.slice (some ⟨k1, 0, none⟩) L.length L.length) (.slice none 0 0) ∧ RW 2 lcs (w1.setCell ⟨w.heap.size + 2, 0, none⟩ (.slice (some ⟨k1, 0, none⟩) L.length L.length)) (.slice (some ⟨k1, 0, none⟩) L.length L.length) k1 L ∧ Below w.heap.size w (w1.setCell ⟨w.heap.size + 2, 0, none⟩ (.slice (some ⟨k1, 0, none⟩) L.length L.length)) ∧ (w1.setCell ⟨w.heap.size + 2, 0, none⟩ (.slice (some ⟨k1, 0, none⟩) L.length L.length)).heap.size = w1.heap.size) :=
    ⟨P1.keep (hgr1.block _ P1.lt (by simp)), P2.set0 _, hr1.grown hgr1 (fun _ => by simp; omega), b1.setCell (p := ⟨w.heap.size + 2, 0, none⟩) (by simp) _, by simp⟩
  have d1 : w1.cell? ⟨w.heap.size, 1, none⟩ = some v2 := y1
  have hne0 : w.heap.size ≠ w.heap.size + 2 := by omega
  clear HQ x0 x1 H1 hr1 hb1 P1 P2 b1 hgr1 b0
  go_wp2_with fail
  refine (H2.out _ HA1.out.2.2.2.1).mono ?_
  rintro e w2 ⟨k2, rfl, hk2, ht2, hb2⟩
  rw [HA1.out.2.2.2.2] at hk2
  have P2 := HA1.out.2.1.later hb2
  have P1 := HA1.out.1.later hb2
  have c21 := P2.c1
  have f21 := P2.fr 1
  have hlt2 := ht2.lt
  have hgr2 := grown_setC w2 (w.heap.size + 2) 1 (.slice (some ⟨k2, 0, none⟩) S.length S.length)
  have hb02 := HA1.out.2.2.2.1.trans (hb2.mono HA1.out.2.2.2.1.size)
  have HA2 : Hid (PfM (w2.setCell ⟨w.heap.size + 2, 1, none⟩ (.slice (some ⟨k2, 0, none⟩) S.length S.length)) (w.heap.size + 1) (.slice none 0 0) (.slice none 0 0) ∧ PfM (w2.setCell ⟨w.heap.size + 2, 1, none⟩ (.slice (some ⟨k2, 0, none⟩) S.length S.length)) (w.heap.size + 2) (.slice (some ⟨k1, 0, none⟩) L.length L.length) (.slice (some ⟨k2, 0, none⟩) S.length S.length) ∧ RW 2 lcs (w2.setCell ⟨w.heap.size + 2, 1, none⟩ (.slice (some ⟨k2, 0, none⟩) S.length S.length)) (.slice (some ⟨k1, 0, none⟩) L.length L.length) k1 L ∧ TS (w2.setCell ⟨w.heap.size + 2, 1, none⟩ (.slice (some ⟨k2, 0, none⟩) S.length S.length)) (.slice (some ⟨k2, 0, none⟩) S.length S.length) k2 S ∧ Below w.heap.size w (w2.setCell ⟨w.heap.size + 2, 1, none⟩ (.slice (some ⟨k2, 0, none⟩) S.length S.length)) ∧ k1 < (w2.setCell ⟨w.heap.size + 2, 1, none⟩ (.slice (some ⟨k2, 0, none⟩) S.length S.length)).heap.size ∧ k2 < (w2.setCell ⟨w.heap.size + 2, 1, none⟩ (.slice (some ⟨k2, 0, none⟩) S.length S.length)).heap.size) :=
    ⟨P1.keep (hgr2.block _ P1.lt (by simp)), P2.set1 _, (HA1.out.2.2.1.later hb2).grown hgr2 (fun _ => by simp; omega), (ht2.ts S.length S.length rfl hlS).keptG hgr2 (fun _ => by simp; omega), hb02.setCell (p := ⟨w.heap.size + 2, 1, none⟩) (by simp) _, by have := hb2.size; rw [HA1.out.2.2.2.2] at this; simp; omega, by simp; omega⟩
  clear H2 ht2 hb2 P1 P2 hgr2 hb02 HA1 d1 y1 c20 f20
  go_wp2_with (first | (refine wp_loadPf rfl _ rfl (w.heap.size + 2) _ _ rfl HA2.out.2.1 ?_) | (refine wp_storePf rfl _ _ rfl (w.heap.size + 1) _ _ _ _ HA2.out.1 rfl rfl rfl rfl ?_; intro hfin))
  refine ret_pf1 2 (w.heap.size + 1) _ _ rfl rfl rfl hfin ?_
  obtain ⟨_, _, hr, ht, hb, l1, l2⟩ := HA2.out
  have hgr := grown_setRowP (w2.setCell ⟨w.heap.size + 2, 1, none⟩ (.slice (some ⟨k2, 0, none⟩) S.length S.length)) (w.heap.size + 1) #[.slice (some ⟨k1, 0, none⟩) L.length L.length, .slice (some ⟨k2, 0, none⟩) S.length S.length]
  exact ⟨k1, k2, rfl, hr.grown hgr (fun _ => by simp; omega), ht.keptG hgr (fun _ => by simp; omega), by omega, by omega, by omega, by rw [size_setRowP]; exact l1, by rw [size_setRowP]; exact l2, below_row hb (by omega)⟩

theorem rowF_apart {g1 g2 n : Nat} (h : 0 < n → g2 ≠ g1) : some g1 ≠ rowF g2 n := rowF_ne (fun hp => (h hp).symm)

end Go.Proofs.YtgkfelhjbeegaaaGreatDoor
/-
  What PadText answers, in plain words; a row of bytes that the call owns, also one that was made of a string.
-/
namespace Go.Proofs.YtgkfelhjbeegaaaGreatDoor
open Go.RowKit
set_option linter.unusedVariables false

/-- the byte of place j of the length, the highest first -/
def lenB (n j : Nat) : UInt8 := UInt8.ofNat (n / 256 ^ (7 - j))
def lenL (n k : Nat) : List UInt8 := (List.range k).map (lenB n)
def padZ (n : Nat) : Nat := (119 - n % 64) % 64
def padL (l : List UInt8) : List UInt8 := (l ++ [128] ++ List.replicate (padZ l.length) 0) ++ lenL (8 * l.length) 8

theorem lenL_len (n k : Nat) : (lenL n k).length = k := by simp [lenL]
theorem lenL_succ (n k : Nat) : lenL n (k + 1) = lenL n k ++ [lenB n k] := by simp [lenL, List.range_succ]
theorem padZ_mod (n : Nat) : (n + 1 + padZ n) % 64 = 56 := by unfold padZ; omega
theorem padZ_least (n k : Nat) (h : k < padZ n) : (n + 1 + k) % 64 ≠ 56 := by unfold padZ at h; omega
theorem padL_len (l : List UInt8) : (padL l).length = l.length + 1 + padZ l.length + 8 := by
  unfold padL
  rw [List.length_append, lenL_len]
  simp
  omega
theorem padL_blocks (l : List UInt8) : (padL l).length = (l.length + 72) / 64 * 64 := by
  rw [padL_len]
  unfold padZ
  omega

/-- v owns the bytes l, in blocks from B on; what lies behind its row may bear a mark; below B all is as it was in w0 -/
def OG (B : Nat) (w0 w : World) (v : Value) (l : List UInt8) : Prop :=
  (∃ (g cap : Nat) (cur : Array Value) (fz : Nat × Nat), v = .slice (some ⟨g, 0, none⟩) l.length cap ∧ B ≤ g ∧ w.heap[g]? = some (.cells cur 5 fz) ∧ (fz = (0, 0) ∨ cap ≤ fz.1) ∧ l.length ≤ cap ∧ cap ≤ maxLen ∧ cur.size = cap ∧
    ∀ j (h : j < l.length), cur[j]? = some (.int .u8 (l[j].toNat : Int))) ∧ Below B w0 w ∧ B ≤ w.heap.size

theorem OG.alloc {B : Nat} {w0 w : World} {v : Value} {l : List UInt8} (h : OG B w0 w v l) (o : Obj) : OG B w0 (w.alloc o) v l := by
  obtain ⟨⟨g, cap, cur, fz, hv, hb, hg, hr⟩, h2, h3⟩ := h
  exact ⟨⟨g, cap, cur, fz, hv, hb, by rw [Go.heap_alloc_old w o (Array.getElem?_eq_some_iff.1 hg).1]; exact hg, hr⟩, h2.alloc h3 o, by simp; omega⟩

theorem OG.size {B : Nat} {w0 w : World} {v : Value} {l : List UInt8} (h : OG B w0 w v l) : ∃ a cap, v = .slice a l.length cap := by
  obtain ⟨⟨g, cap, cur, fz, hv, _⟩, _⟩ := h
  exact ⟨_, cap, hv⟩

theorem OG.conv (t : ByteArray) (w : World) (ht : t.size ≤ maxLen) : ∃ (w' : World) (cap : Nat), (convert 9 131 (.string t)).run Tryz.prog w = .ok (.slice (some ⟨w.heap.size, 0, none⟩) t.size cap) w' ∧ OG w.heap.size w w' (.slice (some ⟨w.heap.size, 0, none⟩) t.size cap) t.data.toList := by
  have h1 : t.data.toList.length = t.size := Array.length_toList
  have hge := grownCap_ge w t.size 0 5
  have hcm := grownCap_le_maxLen w t.size 0 5 ht
  refine ⟨Lib.bytesWorld w 5 t, grownCap w t.size 0 5, Lib.run_convert_string_bytes w 9 131 5 t Tryz.underlying9 Tryz.underlying131 Tryz.underlying5, ⟨_, _, _, _, by rw [h1], Nat.le_refl _, Lib.bytesWorld_at_new w 5 t, ?_, by omega, hcm, ?_, ?_⟩, ⟨?_, ?_, ?_, ?_, ?_⟩, ?_⟩
  · right
    simp [Lib.bytesCells]
    have : t.data.size = t.size := rfl
    omega
  · simp [Lib.bytesCells]
    have : t.data.size = t.size := rfl
    omega
  · intro j hj
    have hj' : j < t.data.size := by have : t.data.size = t.size := rfl; omega
    have hj2 : j < t.size := hj'
    simp [Lib.bytesCells, Array.getElem?_append, hj2]
  · simp [Lib.bytesWorld, World.freeze, World.alloc, World.drew, -World.alloc_eq, -World.drew_eq]
  · simp [Lib.bytesWorld, World.freeze, World.alloc, World.drew, -World.alloc_eq, -World.drew_eq]
  · simp [Lib.bytesWorld, World.freeze, World.alloc, World.drew, -World.alloc_eq, -World.drew_eq]
  · rw [Lib.bytesWorld_size]; omega
  · intro b hb
    exact Lib.bytesWorld_at_old w 5 t b hb
  · rw [Lib.bytesWorld_size]; omega

/-- one byte more -/
theorem OG.app {B : Nat} {w0 w : World} {v : Value} {l : List UInt8} (h : OG B w0 w v l) (ty : TypeId) (ad : Addr) (c : Nat) (b : UInt8) (hx : w.cell? ad = some (.int .u8 (b.toNat : Int))) (hlen : l.length + 1 ≤ 1000000000) :
    ∃ v' w', (Builtin.append_ #[131, 131] ty #[v, .slice (some ad) 1 c]).run Tryz.prog w = .ok v' w' ∧ OG B w0 w' v' (l ++ [b]) := by
  obtain ⟨i0, hi, hz0, hz1, hz2⟩ := info_parts Tryz.info5
  obtain ⟨⟨g, cap, cur, fz, rfl, hb, hg, hfz, hn, hm, hcs, hcell⟩, hbel, hB⟩ := h
  have hglt := (Array.getElem?_eq_some_iff.1 hg).1
  have hnews : ∀ j u, [Value.int .u8 (b.toNat : Int)][j]? = some u → w.cell? (ad.add j) = some u := by
    intro j u hj
    have h0 : j = 0 := by
      rcases Nat.eq_zero_or_pos j with h0 | h0
      · exact h0
      · simp [List.getElem?_eq_none (show [Value.int .u8 (b.toNat : Int)].length ≤ j by simp; omega)] at hj
    subst h0
    simp at hj
    subst hj
    have : ad.add 0 = ad := by unfold Addr.add; split <;> simp_all
    rw [this]; exact hx
  by_cases hroom : l.length + 1 ≤ cap
  · have hi' : l.length < cur.size := by omega
    have hadd : (⟨g, 0, none⟩ : Addr).add l.length = ⟨g, l.length, none⟩ := by unfold Addr.add; split <;> simp_all
    have hadd0 : (⟨g, l.length, none⟩ : Addr).add 0 = ⟨g, l.length, none⟩ := by unfold Addr.add; split <;> simp_all
    have hc : w.cell? ⟨g, l.length, none⟩ = some cur[l.length] := by simp [World.cell?, hg, hi']
    have hf : w.frozen? ⟨g, l.length, none⟩ = false := by
      obtain ⟨lo, hi2⟩ := fz
      simp only [World.frozen?, hg, Bool.and_eq_false_iff, decide_eq_false_iff_not]
      rcases hfz with h0 | h0
      · simp at h0; right; omega
      · left; simp only at h0; omega
    have hfc := run_firstCells_some (P := Tryz.prog) w 1 1 ad 1 c [Value.int .u8 (b.toNat : Int)] rfl hnews
    have hst := run_store Tryz.prog w ⟨g, l.length, none⟩ (.int .u8 (b.toNat : Int)) .plain rfl
    rw [hc] at hst
    simp [hf] at hst
    refine ⟨.slice (some ⟨g, 0, none⟩) (l.length + 1) cap, w.setCell ⟨g, l.length, none⟩ (.int .u8 (b.toNat : Int)), ?_, ⟨g, cap, cur.setIfInBounds l.length (.int .u8 (b.toNat : Int)), fz, by simp, hb, ?_, hfz, by simpa using hroom, hm, by simpa using hcs, ?_⟩, hbel.setCell (p := ⟨g, l.length, none⟩) hb _, by simpa using hB⟩
    · simp [Builtin.append_, run_underlying Tryz.underlying131, sizeOf, typeInfo, hi, hz1, Builtin.lenOf, hroom, hfc, storeCells, hadd, hadd0, hst]
    · have := setCell_eq_setRow w g l.length cur 5 fz (.int .u8 (b.toNat : Int)) hg
      rw [this]
      exact setRow_heap w g cur _ 5 _ hg
    · intro j hj
      rw [Array.getElem?_setIfInBounds]
      by_cases he : l.length = j
      · subst he
        simp [hi']
      · rw [if_neg he]
        have hj2 : j < l.length := by simp at hj; omega
        rw [hcell j hj2, List.getElem_append_left hj2]
  · have hxs : ∀ j u, (bv l)[j]? = some u → w.cell? ((⟨g, 0, none⟩ : Addr).add j) = some u := by
      intro j u hj
      obtain ⟨hj', rfl⟩ := bv_get _ _ _ hj
      have hadd : (⟨g, 0, none⟩ : Addr).add j = ⟨g, j, none⟩ := by unfold Addr.add; split <;> simp_all
      rw [hadd, cell_of_row w g j cur 5 fz hg]
      exact hcell j hj'
    have hr := run_append_grow (P := Tryz.prog) w 131 ty 5 i0 (.int .u8 0) Tryz.underlying131 hi hz0 ⟨g, 0, none⟩ l.length cap (bv l) (by rw [hz1]; simp [bv]) hxs ad 1 c [Value.int .u8 (b.toNat : Int)] (by rw [hz1]; rfl) hnews (by omega) (by omega) (growslice_fits (by omega) (by rw [hz2]; omega))
    have hge := grownCap_ge w (l.length + 1) cap 5
    have hcm := grownCap_le_maxLen w (l.length + 1) cap 5 (by unfold maxLen; omega)
    refine ⟨_, _, hr, ⟨w.heap.size, _, _, (0, 0), by simp, by omega, heap_alloc_new w.drew _, .inl rfl, by simpa using hge, hcm, ?_, ?_⟩, (hbel.drew).alloc hB _, by simp; omega⟩
    · have hz : (Value.int IntKind.u8 0).cells.size = 1 := rfl
      simp only [Array.size_append, List.size_toArray, size_zeroCells, hz, bv_length]
      simp
      omega
    · intro j hj
      have hj2 : j < l.length + 1 := by simpa using hj
      simp only [List.append_toArray]
      rw [Array.getElem?_append_left (by simp [bv]; omega)]
      by_cases he : j < l.length
      · simp [bv, List.getElem?_append_left, he, List.getElem_append_left]
      · have : j = l.length := by omega
        subst this
        simp [bv]

/-- 'string(b)' -/
theorem OG.str {B : Nat} {w0 w : World} {v : Value} {l : List UInt8} (h : OG B w0 w v l) : (convert 131 9 v).run Tryz.prog w = .ok (.string ⟨l.toArray⟩) w := by
  obtain ⟨⟨g, cap, cur, fz, rfl, hb, hg, hfz, hn, hm, hcs, hcell⟩, hbel, hB⟩ := h
  refine run_convert_bytes_back w 131 9 5 ⟨g, 0, none⟩ cap l Tryz.underlying131 Tryz.underlying5 Tryz.underlying9 ?_
  intro j hj
  have hadd : (⟨g, 0, none⟩ : Addr).add j = ⟨g, j, none⟩ := by unfold Addr.add; split <;> simp_all
  rw [hadd, cell_of_row w g j cur 5 fz hg]
  exact hcell j hj

theorem wp_appg {w : World} {ops : Array Oper} {rest : List Oper} {o : Oper} {a : Act} {Q : Exit → Act → World → Prop} (hgd : o.guard = none) (s x : Operand)
    (ho : o.op = .call { callee := .builtin .append, args := #[s, x], argTypes := #[131, 131] })
    (B : Nat) (w0 : World) (v : Value) (l : List UInt8) (hs : a.eval s = v) (hown : OG B w0 w v l)
    (ad : Addr) (c : Nat) (b : UInt8) (hx : a.eval x = .slice (some ad) 1 c)
    (hnews : w.cell? ad = some (.int .u8 (b.toNat : Int))) (hlen : l.length + 1 ≤ 1000000000)
    (h : ∀ v' w', OG B w0 w' v' (l ++ [b]) → wpList Tryz.prog ops Q rest (a.put o.dst v') w') : wpList Tryz.prog ops Q (o :: rest) a w := by
  refine wpList_plain hgd fun K hK => ?_
  obtain ⟨v', w', hr, h2⟩ := hown.app o.type ad c b hnews hlen
  unfold Oper.wp
  simp [execOp, ho, resolve, invoke, builtin, hs, hx, hr, Result.andThen]
  exact hK _ _ (h v' w' h2)

end Go.Proofs.YtgkfelhjbeegaaaGreatDoor
