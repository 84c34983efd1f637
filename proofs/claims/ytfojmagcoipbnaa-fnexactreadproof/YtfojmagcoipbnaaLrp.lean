/-
  The walk of the law FnExactReadProof: it answers true of every text and every width.
-/
import Derived.Test.YtfojmagcoipbnaaPbx
import Derived.Test.YtfojmagcoipbnaaRu
import Derived.Test.YtfojmagcoipbnaaRy
namespace Go.Proofs.Ytfojmagcoipbnaa
open Go.RowKit Go.BigFrame Go.Sort
set_option linter.unusedVariables false
set_option linter.unusedSimpArgs false

theorem rowOf_leP {g B : Nat} {l : List ByteArray} (h : B ≤ g) (q : Nat) (hq : rowOf g l = some q) : B ≤ q := by
  unfold rowOf at hq
  split at hq
  · cases hq
  · have : g = q := by simpa using hq
    omega

set_option maxRecDepth 100000 in
set_option maxHeartbeats 4000000 in
theorem readProofLaw_any (t : ByteArray) (ht : t.size ≤ maxLen) (x : Int) (w : World) :
    Calls Try.prog 4 #[.string t, .int .i64 x] w fun e w' => e = .returned (.bool true) ∧ Below w.heap.size w w' := by
  unfold maxLen at ht
  by_cases hbig : 1048576 < t.size
  · go_enter Try.func4, Try.ntmps4
    go_wp2
    go_ret
    exact ⟨rfl, Below.refl _ _⟩
  have HCS : Hid (∀ W, Calls Try.prog 13 #[.string t, .int .i64 x] W (PvP (rpL t x) (rpS t x) (rpOk t x) W)) := fun W => sReadProof_any t x W (by omega)
  have HCI : Hid (∀ W, Calls Try.prog 14 #[.string t, .int .i64 x] W (PvP (rpL t x) (rpS t x) (rpOk t x) W)) := fun W => ReadProof_any t x W (by omega)
  unfold PvP at HCS HCI
  generalize rpL t x = B at *
  generalize rpS t x = S at *
  generalize rpOk t x = R at *
  go_enter Try.func4, Try.ntmps4
  go_wp2_with fail
  refine (HCS.out _).mono ?_
  rintro e w3 ⟨ab, cb, aS, cS, gb, gs, rfl, rb3, ts3, hgb, hgs, _, b3⟩
  have hba3 : Below w3.heap.size w3 (w3.alloc (.cells #[.slice ab B.length cb, .slice aS S.length cS] 31)) := (Below.refl _ _).alloc (Nat.le_refl _) _
  have HW3 : Hid (PbX (w3.alloc (.cells #[.slice ab B.length cb, .slice aS S.length cS] 31)) w3.heap.size (.slice ab B.length cb) (.slice aS S.length cS) gb gs B S ∧ Below w.heap.size w (w3.alloc (.cells #[.slice ab B.length cb, .slice aS S.length cS] 31)) ∧ (0 < B.length → gb < w3.heap.size) ∧ (0 < S.length → gs < w3.heap.size) ∧ (w3.alloc (.cells #[.slice ab B.length cb, .slice aS S.length cS] 31)).heap.size = w3.heap.size + 1 ∧ w.heap.size ≤ w3.heap.size) := ⟨PbX.new rb3 ts3, b3.trans (hba3.mono b3.size), rb3.lt, ts3.lt, by simp, b3.size⟩
  clear rb3 ts3 hgb hgs HCS b3 hba3
  go_wp2_with fail
  refine (HCI.out _).mono ?_
  rintro e w5 ⟨a5, c5, e5, f5, g5, h5, rfl, rb5, ts5, hg5, hh5, ⟨hd5, _⟩, hb5⟩
  rw [HW3.out.2.2.2.2.1] at hg5 hh5
  have hba5 : Below w5.heap.size w5 (w5.alloc (.cells #[.slice a5 B.length c5, .slice e5 S.length f5] 31)) := (Below.refl _ _).alloc (Nat.le_refl _) _
  have HW5 : Hid (PbX (w5.alloc (.cells #[.slice a5 B.length c5, .slice e5 S.length f5] 31)) w3.heap.size (.slice ab B.length cb) (.slice aS S.length cS) gb gs B S ∧ PbX (w5.alloc (.cells #[.slice a5 B.length c5, .slice e5 S.length f5] 31)) w5.heap.size (.slice a5 B.length c5) (.slice e5 S.length f5) g5 h5 B S ∧ Below w.heap.size w (w5.alloc (.cells #[.slice a5 B.length c5, .slice e5 S.length f5] 31))) := by
    obtain ⟨y1, y2, y3, y4, y5, y6⟩ := HW3.out
    have b5 := y2.trans (hb5.mono y2.size)
    exact ⟨(y1.later hb5).later hba5, PbX.new rb5 ts5, b5.trans (hba5.mono b5.size)⟩
  have HJ : Hid ((0 < B.length → gb < w3.heap.size) ∧ (0 < S.length → gs < w3.heap.size) ∧ w3.heap.size < g5 ∧ w3.heap.size < h5 ∧ (0 < B.length → 0 < S.length → g5 ≠ h5) ∧ (0 < B.length → g5 < w5.heap.size) ∧ (0 < S.length → h5 < w5.heap.size) ∧ w.heap.size ≤ w3.heap.size) := by
    obtain ⟨y1, y2, y3, y4, y5, y6⟩ := HW3.out
    exact ⟨y3, y4, by omega, by omega, hd5, rb5.lt, ts5.lt, y6⟩
  clear rb5 ts5 hg5 hh5 hd5 hb5 hba5 HW3
  have q0 := HW5.out.1.1.c0
  have q1 := HW5.out.1.1.c1
  have q2' := HW5.out.2.1.1.c0
  have q3 := HW5.out.2.1.1.c1
  go_wp2_with fail
  refine (HW5.out.2.1.eq HW5.out.1).mono ?_
  rintro e w10 ⟨rfl, hb10⟩
  have HW10 : Hid (PbX w10 w3.heap.size (.slice ab B.length cb) (.slice aS S.length cS) gb gs B S ∧ PbX w10 w5.heap.size (.slice a5 B.length c5) (.slice e5 S.length f5) g5 h5 B S ∧ Below w.heap.size w w10) := by
    obtain ⟨y1, y2, y4⟩ := HW5.out
    exact ⟨y1.later hb10, y2.later hb10, y4.trans (hb10.mono y4.size)⟩
  clear hb10 HW5 q0 q1 q2' q3
  have q2' := HW10.out.2.1.1.c0
  have q3 := HW10.out.2.1.1.c1
  have hmk := markProof_any _ _ g5 h5 B S w10 HW10.out.2.1.2.1 HW10.out.2.1.2.2 HJ.out.2.2.2.2.1
  obtain ⟨A9, hA9⟩ : ∃ A9 : Int, ((1 + 2 * B.length + S.length : Nat) : Int) = A9 := ⟨_, rfl⟩
  have hA90 : ¬ A9 < 0 := by omega
  rw [hA9] at hmk
  have HHD : Hid (∀ W, RW 2 lcs W (.slice a5 B.length c5) g5 (lmarks 1 B.length) → TS W (.slice e5 S.length f5) h5 (marks (1 + 2 * B.length) S.length) → Calls Try.prog 16 #[.agg #[.slice a5 B.length c5, .slice e5 S.length f5], .int .i64 1] W fun e w' => e = .returned (.int .i64 A9) ∧ Below W.heap.size W w') := fun W h1 h2 => by rw [← hA9]; exact heldProof_any _ _ g5 h5 _ _ W h1 h2
  clear hA9
  go_wp2_with fail
  refine hmk.mono ?_
  rintro e w11 ⟨rfl, hr11, ht11, wm, hgm1, hgm2⟩
  have HW11 : Hid (PbX w11 w3.heap.size (.slice ab B.length cb) (.slice aS S.length cS) gb gs B S ∧ PbX w11 w5.heap.size (.slice a5 B.length c5) (.slice e5 S.length f5) g5 h5 (lmarks 1 B.length) (marks (1 + 2 * B.length) S.length) ∧ Below w.heap.size w w11) := by
    obtain ⟨y1, y2, y4⟩ := HW10.out
    obtain ⟨x1, x2, x4, x5, x7, x8, x9, x10⟩ := HJ.out
    have z1 := y1.grown hgm1 (rowF_ne fun _ => by omega) (fun hp => rowF_ne fun _ => by have := x1 hp; omega) (fun hp => rowF_ne fun _ => by have := x2 hp; omega)
    have bm := y4.grown hgm1 y4.size (rowF_le (by omega))
    have pm := y2.1.keep (hgm1.block _ y2.1.lt (rowF_ne fun hp => by have := x8 hp; omega))
    exact ⟨z1.grown hgm2 (rowOf_ne fun _ => by omega) (fun hp => rowOf_ne fun _ => by have := x1 hp; omega) (fun hp => rowOf_ne fun _ => by have := x2 hp; omega), ⟨pm.keep (hgm2.block _ pm.lt (rowOf_ne fun hp => by have := x9 hp; omega)), hr11, ht11⟩, bm.grown hgm2 bm.size (rowOf_leP (by omega))⟩
  clear hmk hr11 ht11 hgm1 hgm2 HW10 q2' q3 HJ
  have q2' := HW11.out.2.1.1.c0
  have q3 := HW11.out.2.1.1.c1
  go_wp2_with fail
  refine (HHD.out _ HW11.out.2.1.2.1 HW11.out.2.1.2.2).mono ?_
  rintro e w12 ⟨rfl, hb12⟩
  have HW12 : Hid (PbX w12 w3.heap.size (.slice ab B.length cb) (.slice aS S.length cS) gb gs B S ∧ PbX w12 w5.heap.size (.slice a5 B.length c5) (.slice e5 S.length f5) g5 h5 (lmarks 1 B.length) (marks (1 + 2 * B.length) S.length) ∧ Below w.heap.size w w12) := by
    obtain ⟨y1, y2, y4⟩ := HW11.out
    exact ⟨y1.later hb12, y2.later hb12, y4.trans (hb12.mono y4.size)⟩
  clear hb12 HW11 q2' q3
  go_wp2_with fail
  refine (HCI.out _).mono ?_
  rintro e w14 ⟨a14, c14, e14, f14, g14, h14, rfl, rb14, ts14, _, _, _, hb14⟩
  have hba14 : Below w14.heap.size w14 (w14.alloc (.cells #[.slice a14 B.length c14, .slice e14 S.length f14] 31)) := (Below.refl _ _).alloc (Nat.le_refl _) _
  have HW14 : Hid (PbX (w14.alloc (.cells #[.slice a14 B.length c14, .slice e14 S.length f14] 31)) w3.heap.size (.slice ab B.length cb) (.slice aS S.length cS) gb gs B S ∧ PbX (w14.alloc (.cells #[.slice a14 B.length c14, .slice e14 S.length f14] 31)) w5.heap.size (.slice a5 B.length c5) (.slice e5 S.length f5) g5 h5 (lmarks 1 B.length) (marks (1 + 2 * B.length) S.length) ∧ Below w.heap.size w (w14.alloc (.cells #[.slice a14 B.length c14, .slice e14 S.length f14] 31)) ∧ PbX (w14.alloc (.cells #[.slice a14 B.length c14, .slice e14 S.length f14] 31)) w14.heap.size (.slice a14 B.length c14) (.slice e14 S.length f14) g14 h14 B S) := by
    obtain ⟨y1, y2, y4⟩ := HW12.out
    have b14 := y4.trans (hb14.mono y4.size)
    exact ⟨(y1.later hb14).later hba14, (y2.later hb14).later hba14, b14.trans (hba14.mono b14.size), PbX.new rb14 ts14⟩
  clear hb14 HW12 rb14 ts14 HCI hba14
  have q0 := HW14.out.1.1.c0
  have q1 := HW14.out.1.1.c1
  have q2' := HW14.out.2.2.2.1.c0
  have q3 := HW14.out.2.2.2.1.c1
  go_wp2_with fail
  refine (HW14.out.2.2.2.eq HW14.out.1).mono ?_
  rintro e w15 ⟨rfl, hb15⟩
  have HW15 : Hid (PbX w15 w5.heap.size (.slice a5 B.length c5) (.slice e5 S.length f5) g5 h5 (lmarks 1 B.length) (marks (1 + 2 * B.length) S.length) ∧ Below w.heap.size w w15) := ⟨HW14.out.2.1.later hb15, HW14.out.2.2.1.trans (hb15.mono HW14.out.2.2.1.size)⟩
  clear hb15 HW14 q0 q1 q2' q3
  have q2' := HW15.out.1.1.c0
  have q3 := HW15.out.1.1.c1
  go_wp2_with fail
  refine (HHD.out _ HW15.out.1.2.1 HW15.out.1.2.2).mono ?_
  rintro e w16 ⟨rfl, hb16⟩
  have b16 := HW15.out.2.trans (hb16.mono HW15.out.2.size)
  clear hb16 HW15 HHD q2' q3
  go_wp2
  go_ret
  exact ⟨rfl, b16⟩

end Go.Proofs.Ytfojmagcoipbnaa
