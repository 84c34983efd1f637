/-
  The walk of the law FnExactProveLeaf: it answers true of every row of leaves, every name, level and width.
-/
import Derived.Test.YtojadcjoniejaaaDoorPkM
import Derived.Test.YtojadcjoniejaaaDoorPv
import Derived.Test.YtojadcjoniejaaaDoorPkL
import Derived.Deep.RegionHeld3
namespace Go.Proofs.YtojadcjoniejaaaDoor
open Go.RowKit Go.BigFrame Go.Sort
set_option linter.unusedVariables false
set_option linter.unusedSimpArgs false

/-- a proof in its box, and what it is made of -/
def PbX (W : World) (p : Nat) (v1 v2 : Value) (g1 g2 : Nat) (B : List Le) (S : List ByteArray) : Prop := PfM W p v1 v2 ∧ RW 2 lcs W v1 g1 B ∧ TS W v2 g2 S
theorem PbX.later {W W' : World} {p : Nat} {v1 v2 : Value} {g1 g2 : Nat} {B : List Le} {S : List ByteArray} (h : PbX W p v1 v2 g1 g2 B S) (hb : Below W.heap.size W W') : PbX W' p v1 v2 g1 g2 B S := ⟨h.1.later hb, h.2.1.later hb, h.2.2.later hb⟩
theorem PbX.new {w : World} {a1 a2 : Option Addr} {c1 c2 n1 n2 g1 g2 : Nat} {B : List Le} {S : List ByteArray} (h1 : RW 2 lcs w (.slice a1 n1 c1) g1 B) (h2 : TS w (.slice a2 n2 c2) g2 S) : PbX (w.alloc (.cells #[.slice a1 n1 c1, .slice a2 n2 c2] 36)) w.heap.size (.slice a1 n1 c1) (.slice a2 n2 c2) g1 g2 B S := by
  have hb : Below w.heap.size w (w.alloc (.cells #[.slice a1 n1 c1, .slice a2 n2 c2] 36)) := (Below.refl _ _).alloc (Nat.le_refl _) _
  exact ⟨PfM.new w _ _, h1.later hb, h2.later hb⟩
theorem PbX.grown {W W' : World} {p : Nat} {v1 v2 : Value} {g1 g2 : Nat} {B : List Le} {S : List ByteArray} {row : Option Nat} (h : PbX W p v1 v2 g1 g2 B S) (hg : W.grownBy W' row) (hp : some p ≠ row) (h1 : 0 < B.length → some g1 ≠ row) (h2 : 0 < S.length → some g2 ≠ row) : PbX W' p v1 v2 g1 g2 B S :=
  ⟨h.1.keep (hg.block _ h.1.lt hp), h.2.1.grown hg h1, h.2.2.keptG hg h2⟩
theorem PbX.eq {W : World} {p q : Nat} {v1 v2 u1 u2 : Value} {g1 g2 k1 k2 : Nat} {B : List Le} {S : List ByteArray} (h : PbX W p v1 v2 g1 g2 B S) (k : PbX W q u1 u2 k1 k2 B S) : Calls Tryd.prog 34 #[.agg #[v1, v2], .agg #[u1, u2]] W fun e w' => e = .returned (.bool true) ∧ Below W.heap.size W w' :=
  eqProof_yes v1 v2 u1 u2 g1 0 g2 0 k1 0 k2 0 B S W h.2.1.1 h.2.2.ss k.2.1.1 k.2.2.ss

set_option maxRecDepth 100000 in
set_option maxHeartbeats 4000000 in
theorem proveLeafLaw_any (v : Value) (g o : Nat) (L : List Le) (nm : ByteArray) (hnm : nm.size ≤ maxLen) (l x : Int) (w : World) (hT : Tb w) (hv : IsRowL w v g o L) :
    Calls Tryd.prog 5 #[v, .string nm, .int .i64 l, .int .i64 x] w fun e w' => e = .returned (.bool true) ∧ Below w.heap.size w w' := by
  unfold maxLen at hnm
  have hsv : ∃ a n cap, v = .slice a n cap := by obtain ⟨a, n, cap, h, _⟩ := hv; exact ⟨a, n, cap, h⟩
  by_cases hbig : 1048576 < nm.size
  · clear hv hT
    go_enter Tryd.func5, Tryd.ntmps5
    go_wp2
    go_ret
    exact ⟨rfl, Below.refl _ _⟩
  have HSZ := szLeafS_row v g o L 1048576 _ hv (by omega) (by omega)
  obtain ⟨a, n, cap, rfl⟩ := hsv
  clear hv
  go_enter Tryd.func5, Tryd.ntmps5
  go_wp2_with fail
  refine HSZ.mono ?_
  rintro e w1 ⟨A, rfl, hb1, _, hA⟩
  clear HSZ
  by_cases hneg : A < 0
  · clear hA hT
    go_wp2
    go_ret
    exact ⟨rfl, hb1⟩
  obtain ⟨hrs, hsm, hlen⟩ := hA (by omega)
  clear hA
  have HTO : Hid (∀ W, Below w.heap.size w W → Calls Tryd.prog 32 #[.slice a n cap] W fun e w' => ∃ g, e = .returned (.slice (some ⟨g, 0, none⟩) L.length L.length) ∧ W.heap.size ≤ g ∧ RW 2 lcs w' (.slice (some ⟨g, 0, none⟩) L.length L.length) g L ∧ g < w'.heap.size ∧ Below W.heap.size W w') := fun W hW => toLeafS_any _ g o L W (hrs.later hW)
  have HCS : Hid (∀ W q, RS 2 lcs W (.slice (some ⟨q, 0, none⟩) L.length L.length) q 0 L → Calls Tryd.prog 19 #[.slice (some ⟨q, 0, none⟩) L.length L.length, .string nm, .int .i64 l, .int .i64 x] W (PvP (pvB L nm l x) (pvS L nm l x) (pvOk L nm l x) W)) := fun W q h => sProveLeaf_any _ q 0 L nm l x W h hsm (by omega)
  have HCI : Hid (∀ W q, Below w.heap.size w W → RS 2 lcs W (.slice (some ⟨q, 0, none⟩) L.length L.length) q 0 L → Calls Tryd.prog 33 #[.slice (some ⟨q, 0, none⟩) L.length L.length, .string nm, .int .i64 l, .int .i64 x] W (PvP (pvB L nm l x) (pvS L nm l x) (pvOk L nm l x) W)) := fun W q hW h => ProveLeaf_any _ q 0 L nm l x W h hsm (by omega) (hT.later hW)
  unfold PvP at HCS HCI
  generalize pvB L nm l x = B at *
  generalize pvS L nm l x = S at *
  generalize pvOk L nm l x = R at *
  clear hrs hsm hT
  go_wp2_with fail
  refine (HTO.out _ hb1).mono ?_
  rintro e w2 ⟨q2, rfl, _, hr2, _, hb2⟩
  have b2 := hb1.trans (hb2.mono hb1.size)
  go_wp2_with fail
  refine (HCS.out _ q2 hr2.1).mono ?_
  rintro e w3 ⟨ab, cb, aS, cS, gb, gs, rfl, rb3, ts3, hgb, hgs, _, hb3⟩
  have b3 := b2.trans (hb3.mono b2.size)
  have hba3 : Below w3.heap.size w3 (w3.alloc (.cells #[.slice ab B.length cb, .slice aS S.length cS] 36)) := (Below.refl _ _).alloc (Nat.le_refl _) _
  have HW3 : Hid (PbX (w3.alloc (.cells #[.slice ab B.length cb, .slice aS S.length cS] 36)) w3.heap.size (.slice ab B.length cb) (.slice aS S.length cS) gb gs B S ∧ Below w.heap.size w (w3.alloc (.cells #[.slice ab B.length cb, .slice aS S.length cS] 36)) ∧ (0 < B.length → gb < w3.heap.size) ∧ (0 < S.length → gs < w3.heap.size) ∧ (w3.alloc (.cells #[.slice ab B.length cb, .slice aS S.length cS] 36)).heap.size = w3.heap.size + 1 ∧ w.heap.size ≤ w3.heap.size) := ⟨PbX.new rb3 ts3, b3.trans (hba3.mono b3.size), rb3.lt, ts3.lt, by simp, b3.size⟩
  clear hr2 hb2 b2 rb3 ts3 hgb hgs hb3 hb1 HCS b3 hba3
  go_wp2_with fail
  refine (HTO.out _ HW3.out.2.1).mono ?_
  rintro e w4 ⟨q4, rfl, hq4, hr4, hl4, hb4⟩
  rw [HW3.out.2.2.2.2.1] at hq4
  have HW4 : Hid (PbX w4 w3.heap.size (.slice ab B.length cb) (.slice aS S.length cS) gb gs B S ∧ Below w.heap.size w w4 ∧ (0 < B.length → gb < q4) ∧ (0 < S.length → gs < q4) ∧ w3.heap.size < q4 ∧ RW 2 lcs w4 (.slice (some ⟨q4, 0, none⟩) L.length L.length) q4 L ∧ q4 < w4.heap.size ∧ w.heap.size ≤ w3.heap.size) := by
    obtain ⟨y1, y2, y3, y4, y5, y6⟩ := HW3.out
    exact ⟨y1.later hb4, y2.trans (hb4.mono y2.size), fun h => by have := y3 h; omega, fun h => by have := y4 h; omega, by omega, hr4, hl4, y6⟩
  clear hr4 hq4 hl4 hb4 HW3
  go_wp2_with fail
  refine (HCI.out _ q4 HW4.out.2.1 HW4.out.2.2.2.2.2.1.1).mono ?_
  rintro e w5 ⟨a5, c5, e5, f5, g5, h5, rfl, rb5, ts5, hg5, hh5, hd5, hb5⟩
  have hba5 : Below w5.heap.size w5 (w5.alloc (.cells #[.slice a5 B.length c5, .slice e5 S.length f5] 36)) := (Below.refl _ _).alloc (Nat.le_refl _) _
  have HW5 : Hid (PbX (w5.alloc (.cells #[.slice a5 B.length c5, .slice e5 S.length f5] 36)) w3.heap.size (.slice ab B.length cb) (.slice aS S.length cS) gb gs B S ∧ PbX (w5.alloc (.cells #[.slice a5 B.length c5, .slice e5 S.length f5] 36)) w5.heap.size (.slice a5 B.length c5) (.slice e5 S.length f5) g5 h5 B S ∧ RW 2 lcs (w5.alloc (.cells #[.slice a5 B.length c5, .slice e5 S.length f5] 36)) (.slice (some ⟨q4, 0, none⟩) L.length L.length) q4 L ∧ Below w.heap.size w (w5.alloc (.cells #[.slice a5 B.length c5, .slice e5 S.length f5] 36))) := by
    obtain ⟨y1, y2, y3, y4, y5, y6, y7⟩ := HW4.out
    have b5 := y2.trans (hb5.mono y2.size)
    exact ⟨(y1.later hb5).later hba5, PbX.new rb5 ts5, (y6.later hb5).later hba5, b5.trans (hba5.mono b5.size)⟩
  have HJ : Hid ((0 < B.length → gb < q4) ∧ (0 < S.length → gs < q4) ∧ w3.heap.size < q4 ∧ q4 < g5 ∧ q4 < h5 ∧ q4 < w5.heap.size ∧ (0 < B.length → 0 < S.length → g5 ≠ h5) ∧ (0 < B.length → g5 < w5.heap.size) ∧ (0 < S.length → h5 < w5.heap.size) ∧ w.heap.size ≤ w3.heap.size) := by
    obtain ⟨y1, y2, y3, y4, y5, y6, y7, y8⟩ := HW4.out
    have := hb5.size
    exact ⟨y3, y4, y5, by omega, by omega, by omega, hd5, rb5.lt, ts5.lt, y8⟩
  clear rb5 ts5 hg5 hh5 hd5 hb5 hba5 HW4
  have q0 := HW5.out.1.1.c0
  have q1 := HW5.out.1.1.c1
  have q2' := HW5.out.2.1.1.c0
  have q3 := HW5.out.2.1.1.c1
  go_wp2_with fail
  refine (HW5.out.2.1.eq HW5.out.1).mono ?_
  rintro e w6 ⟨rfl, hb6⟩
  have HW6 : Hid (PbX w6 w3.heap.size (.slice ab B.length cb) (.slice aS S.length cS) gb gs B S ∧ PbX w6 w5.heap.size (.slice a5 B.length c5) (.slice e5 S.length f5) g5 h5 B S ∧ RW 2 lcs w6 (.slice (some ⟨q4, 0, none⟩) L.length L.length) q4 L ∧ Below w.heap.size w w6) := by
    obtain ⟨y1, y2, y3, y4⟩ := HW5.out
    exact ⟨y1.later hb6, y2.later hb6, y3.later hb6, y4.trans (hb6.mono y4.size)⟩
  clear hb6 HW5 q0 q1 q2' q3
  go_wp2_with fail
  refine (HTO.out _ HW6.out.2.2.2).mono ?_
  rintro e w7 ⟨q7, rfl, _, hr7, _, hb7⟩
  have HW7 : Hid (PbX w7 w3.heap.size (.slice ab B.length cb) (.slice aS S.length cS) gb gs B S ∧ PbX w7 w5.heap.size (.slice a5 B.length c5) (.slice e5 S.length f5) g5 h5 B S ∧ RW 2 lcs w7 (.slice (some ⟨q4, 0, none⟩) L.length L.length) q4 L ∧ Below w.heap.size w w7) := by
    obtain ⟨y1, y2, y3, y4⟩ := HW6.out
    exact ⟨y1.later hb7, y2.later hb7, y3.later hb7, y4.trans (hb7.mono y4.size)⟩
  clear hb7 HW6
  go_wp2_with fail
  refine (eqLeafS_yes _ _ q4 0 q7 0 L _ HW7.out.2.2.1.1 hr7.1).mono ?_
  rintro e w8 ⟨rfl, hb8⟩
  have HW8 : Hid (PbX w8 w3.heap.size (.slice ab B.length cb) (.slice aS S.length cS) gb gs B S ∧ PbX w8 w5.heap.size (.slice a5 B.length c5) (.slice e5 S.length f5) g5 h5 B S ∧ RW 2 lcs w8 (.slice (some ⟨q4, 0, none⟩) L.length L.length) q4 L ∧ Below w.heap.size w w8) := by
    obtain ⟨y1, y2, y3, y4⟩ := HW7.out
    exact ⟨y1.later hb8, y2.later hb8, y3.later hb8, y4.trans (hb8.mono y4.size)⟩
  clear hb8 HW7 hr7
  have hm8 := markS_one _ q4 L w8 HW8.out.2.2.1
  obtain ⟨A8, hA8⟩ : ∃ A8 : Int, ((1 + 2 * L.length : Nat) : Int) = A8 := ⟨_, rfl⟩
  have hA80 : ¬ A8 < 0 := by omega
  rw [hA8] at hm8
  clear hA8
  go_wp2_with fail
  refine hm8.mono ?_
  rintro e w9 ⟨rfl, hr9, hg9⟩
  have HW9 : Hid (PbX w9 w3.heap.size (.slice ab B.length cb) (.slice aS S.length cS) gb gs B S ∧ PbX w9 w5.heap.size (.slice a5 B.length c5) (.slice e5 S.length f5) g5 h5 B S ∧ Below w.heap.size w w9) := by
    obtain ⟨y1, y2, y3, y4⟩ := HW8.out
    obtain ⟨x1, x2, x3, x4, x5, x6, x7, x8, x9, x10⟩ := HJ.out
    exact ⟨y1.grown hg9 (rowF_ne fun _ => by omega) (fun hp => rowF_ne fun _ => by have := x1 hp; omega) (fun hp => rowF_ne fun _ => by have := x2 hp; omega), y2.grown hg9 (rowF_ne fun _ => by omega) (fun hp => rowF_ne fun _ => by omega) (fun hp => rowF_ne fun _ => by omega), y4.grown hg9 y4.size (rowF_le (by omega))⟩
  clear hm8 hr9 hg9 HW8
  have q0 := HW9.out.1.1.c0
  have q1 := HW9.out.1.1.c1
  have q2' := HW9.out.2.1.1.c0
  have q3 := HW9.out.2.1.1.c1
  go_wp2_with fail
  refine (HW9.out.2.1.eq HW9.out.1).mono ?_
  rintro e w10 ⟨rfl, hb10⟩
  have HW10 : Hid (PbX w10 w3.heap.size (.slice ab B.length cb) (.slice aS S.length cS) gb gs B S ∧ PbX w10 w5.heap.size (.slice a5 B.length c5) (.slice e5 S.length f5) g5 h5 B S ∧ Below w.heap.size w w10) := by
    obtain ⟨y1, y2, y4⟩ := HW9.out
    exact ⟨y1.later hb10, y2.later hb10, y4.trans (hb10.mono y4.size)⟩
  clear hb10 HW9 q0 q1 q2' q3
  have q2' := HW10.out.2.1.1.c0
  have q3 := HW10.out.2.1.1.c1
  have hmk := markProof_any _ _ g5 h5 B S w10 HW10.out.2.1.2.1 HW10.out.2.1.2.2 HJ.out.2.2.2.2.2.2.1
  obtain ⟨A9, hA9⟩ : ∃ A9 : Int, ((1 + 2 * B.length + S.length : Nat) : Int) = A9 := ⟨_, rfl⟩
  have hA90 : ¬ A9 < 0 := by omega
  rw [hA9] at hmk
  have HHD : Hid (∀ W, RW 2 lcs W (.slice a5 B.length c5) g5 (lmarks 1 B.length) → TS W (.slice e5 S.length f5) h5 (marks (1 + 2 * B.length) S.length) → Calls Tryd.prog 38 #[.agg #[.slice a5 B.length c5, .slice e5 S.length f5], .int .i64 1] W fun e w' => e = .returned (.int .i64 A9) ∧ Below W.heap.size W w') := fun W h1 h2 => by rw [← hA9]; exact heldProof_any _ _ g5 h5 _ _ W h1 h2
  clear hA9
  go_wp2_with fail
  refine hmk.mono ?_
  rintro e w11 ⟨rfl, hr11, ht11, wm, hgm1, hgm2⟩
  have HW11 : Hid (PbX w11 w3.heap.size (.slice ab B.length cb) (.slice aS S.length cS) gb gs B S ∧ PbX w11 w5.heap.size (.slice a5 B.length c5) (.slice e5 S.length f5) g5 h5 (lmarks 1 B.length) (marks (1 + 2 * B.length) S.length) ∧ Below w.heap.size w w11) := by
    obtain ⟨y1, y2, y4⟩ := HW10.out
    obtain ⟨x1, x2, x3, x4, x5, x6, x7, x8, x9, x10⟩ := HJ.out
    have z1 := y1.grown hgm1 (rowF_ne fun _ => by omega) (fun hp => rowF_ne fun _ => by have := x1 hp; omega) (fun hp => rowF_ne fun _ => by have := x2 hp; omega)
    have bm := y4.grown hgm1 y4.size (rowF_le (by omega))
    have pm := y2.1.keep (hgm1.block _ y2.1.lt (rowF_ne fun hp => by have := x8 hp; omega))
    exact ⟨z1.grown hgm2 (rowOf_ne fun _ => by omega) (fun hp => rowOf_ne fun _ => by have := x1 hp; omega) (fun hp => rowOf_ne fun _ => by have := x2 hp; omega), ⟨pm.keep (hgm2.block _ pm.lt (rowOf_ne fun hp => by have := x9 hp; omega)), hr11, ht11⟩, bm.grown hgm2 bm.size (rowOf_leT (by omega))⟩
  clear hmk hr11 ht11 hgm1 hgm2 HW10 q2' q3 HJ
  have q2' := HW11.out.2.1.1.c0
  have q3 := HW11.out.2.1.1.c1
  go_wp2_with fail
  refine (HHD.out _ HW11.out.2.1.2.1 HW11.out.2.1.2.2).mono ?_
  rintro e w12 ⟨rfl, hb12⟩
  have HW12 : Hid (PbX w12 w3.heap.size (.slice ab B.length cb) (.slice aS S.length cS) gb gs B S ∧ PbX w12 w5.heap.size (.slice a5 B.length c5) (.slice e5 S.length f5) g5 h5 (lmarks 1 B.length) (marks (1 + 2 * B.length) S.length) ∧ Below w.heap.size w w12) := by
    obtain ⟨y1, y2, y4⟩ := HW11.out
    exact ⟨y1.later hb12, y2.later hb12, y4.trans (hb12.mono y4.size)⟩
  clear hb12 HW11 q2' q3
  go_wp2_with fail
  refine (HTO.out _ HW12.out.2.2).mono ?_
  rintro e w13 ⟨q13, rfl, _, hr13, _, hb13⟩
  have HW13 : Hid (PbX w13 w3.heap.size (.slice ab B.length cb) (.slice aS S.length cS) gb gs B S ∧ PbX w13 w5.heap.size (.slice a5 B.length c5) (.slice e5 S.length f5) g5 h5 (lmarks 1 B.length) (marks (1 + 2 * B.length) S.length) ∧ Below w.heap.size w w13) := by
    obtain ⟨y1, y2, y4⟩ := HW12.out
    exact ⟨y1.later hb13, y2.later hb13, y4.trans (hb13.mono y4.size)⟩
  clear hb13 HW12 HTO
  go_wp2_with fail
  refine (HCI.out _ q13 HW13.out.2.2 hr13.1).mono ?_
  rintro e w14 ⟨a14, c14, e14, f14, g14, h14, rfl, rb14, ts14, _, _, _, hb14⟩
  have hba14 : Below w14.heap.size w14 (w14.alloc (.cells #[.slice a14 B.length c14, .slice e14 S.length f14] 36)) := (Below.refl _ _).alloc (Nat.le_refl _) _
  have HW14 : Hid (PbX (w14.alloc (.cells #[.slice a14 B.length c14, .slice e14 S.length f14] 36)) w3.heap.size (.slice ab B.length cb) (.slice aS S.length cS) gb gs B S ∧ PbX (w14.alloc (.cells #[.slice a14 B.length c14, .slice e14 S.length f14] 36)) w5.heap.size (.slice a5 B.length c5) (.slice e5 S.length f5) g5 h5 (lmarks 1 B.length) (marks (1 + 2 * B.length) S.length) ∧ Below w.heap.size w (w14.alloc (.cells #[.slice a14 B.length c14, .slice e14 S.length f14] 36)) ∧ PbX (w14.alloc (.cells #[.slice a14 B.length c14, .slice e14 S.length f14] 36)) w14.heap.size (.slice a14 B.length c14) (.slice e14 S.length f14) g14 h14 B S) := by
    obtain ⟨y1, y2, y4⟩ := HW13.out
    have b14 := y4.trans (hb14.mono y4.size)
    exact ⟨(y1.later hb14).later hba14, (y2.later hb14).later hba14, b14.trans (hba14.mono b14.size), PbX.new rb14 ts14⟩
  clear hb14 HW13 hr13 rb14 ts14 HCI hba14
  have q0 := HW14.out.1.1.c0
  have q1 := HW14.out.1.1.c1
  have q2' := HW14.out.2.2.2.1.c0
  have q3 := HW14.out.2.2.2.1.c1
  go_wp2_with fail
  refine (HW14.out.2.2.2.eq HW14.out.1).mono ?_
  rintro e w15 ⟨rfl, hb15⟩
  have HW15 : Hid (PbX w15 w5.heap.size (.slice a5 B.length c5) (.slice e5 S.length f5) g5 h5 (lmarks 1 B.length) (marks (1 + 2 * B.length) S.length) ∧ Below w.heap.size w w15) := ⟨HW14.out.2.1.later hb15, HW14.out.2.2.1.trans (hb15.mono HW14.out.2.2.1.size)⟩
  clear hb15 HW14 q0 q1 q2' q3
  have q2' := HW15.out.1.1.c0
  have q3 := HW15.out.1.1.c1
  go_wp2_with fail
  refine (HHD.out _ HW15.out.1.2.1 HW15.out.1.2.2).mono ?_
  rintro e w16 ⟨rfl, hb16⟩
  have b16 := HW15.out.2.trans (hb16.mono HW15.out.2.size)
  clear hb16 HW15 HHD q2' q3
  go_wp2
  go_ret
  exact ⟨rfl, b16⟩

end Go.Proofs.YtojadcjoniejaaaDoor
