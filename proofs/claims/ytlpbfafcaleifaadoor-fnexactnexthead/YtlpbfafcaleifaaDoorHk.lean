/-
  The walks of the laws FnExactChainOk and FnExactNextHead: they answer true of every list.
-/
import Derived.Test.YtlpbfafcaleifaaDoorPkH
import Derived.Test.YtlpbfafcaleifaaDoorPkJ
namespace Go.Proofs.YtlpbfafcaleifaaDoor
open Go.RowKit Go.BigFrame Go.Sort
set_option linter.unusedVariables false
set_option linter.unusedSimpArgs false

set_option maxRecDepth 100000 in
set_option maxHeartbeats 1000000 in
theorem exactChainOk_any (v : Value) (g o : Nat) (l : List Hd) (hs : Int) (w : World) (hT : Tb w) (hv : IsRowH w v g o l) :
    Calls Tryd.prog 7 #[v, .int .i64 hs] w fun e w' => e = .returned (.bool true) ∧ Below w.heap.size w w' := by
  have HT : Hid (∀ W, Below w.heap.size w W → Tb W) := fun W hW => hT.later hW
  have HSZ : Hid (Calls Tryd.prog 27 #[v, .int .i64 1048576] w fun e w' => ∃ A : Int, e = .returned (.int .i64 A) ∧ Below w.heap.size w w' ∧ A ≤ 1048576 ∧ (0 ≤ A → RS 4 hcs w v g o l ∧ SmallHs l ∧ l.length ≤ 1048576)) := szHeadS_row v g o l 1048576 w hv (by omega) (by omega)
  obtain ⟨a, n0, cap, rfl, hn0, _⟩ := hv
  clear hT
  go_enter Tryd.func7, Tryd.ntmps7
  go_wp2_with fail
  refine HSZ.out.mono ?_
  rintro e1 w1 ⟨A, rfl, hb1, hA1, hA2⟩
  by_cases hneg : A < 0
  · clear hA2 HSZ HT
    go_wp2
    go_ret
    exact ⟨rfl, hb1⟩
  have HRS : Hid (RS 4 hcs w (.slice a n0 cap) g o l) := (hA2 (by omega)).1
  have HTO : Hid (∀ W, Below w.heap.size w W → Calls Tryd.prog 29 #[.slice a n0 cap] W fun e w' => ∃ g, e = .returned (.slice (some ⟨g, 0, none⟩) l.length l.length) ∧ W.heap.size ≤ g ∧ RW 4 hcs w' (.slice (some ⟨g, 0, none⟩) l.length l.length) g l ∧ g < w'.heap.size ∧ Below W.heap.size W w') := fun W hW => toHeadS_any _ g o l W (HRS.out.later hW)
  clear hA2 HSZ HRS
  have HCI : Hid (∀ W v g o, RS 4 hcs W v g o l → (∀ a n c, v = .slice a n c → n ≤ c) → Tb W → Calls Tryd.prog 11 #[v, .int .i64 hs] W fun e w' => e = .returned (.bool (HV.chB l hs)) ∧ Below W.heap.size W w') := fun W v g o h1 h2 h3 => ChainOk_any v g o l hs W h1 h2 h3
  have HCS : Hid (∀ W v g o, RS 4 hcs W v g o l → Calls Tryd.prog 32 #[v, .int .i64 hs] W fun e w' => e = .returned (.bool (HV.chB l hs)) ∧ Below W.heap.size W w') := fun W v g o h1 => sChainOk_any v g o l hs W h1
  have HEQ : Hid (∀ W u v ga oa gb ob, RS 4 hcs W u ga oa l → RS 4 hcs W v gb ob l → Calls Tryd.prog 31 #[u, v] W fun e w' => e = .returned (.bool true) ∧ Below W.heap.size W w') := fun W u v ga oa gb ob h1 h2 => eqHeadS_yes u v ga oa gb ob l W h1 h2
  generalize HV.chB l hs = R at *
  obtain ⟨n, hn⟩ : ∃ n, l.length = n := ⟨_, rfl⟩
  rw [hn] at HTO
  go_wp2_with fail
  refine (HTO.out _ hb1).mono ?_
  rintro e2 w2 ⟨g2, rfl, _, hr2, _, hb2'⟩
  have HB2 : Hid (Below w.heap.size w w2) := hb1.trans (hb2'.mono hb1.size)
  have hc2 := HCS.out _ _ g2 0 hr2.1
  clear hb1 hb2' HCS hr2
  go_wp2_with fail
  refine hc2.mono ?_
  rintro e3 w3 ⟨rfl, hb3'⟩
  have HB3 : Hid (Below w.heap.size w w3) := HB2.out.trans (hb3'.mono HB2.out.size)
  clear hc2 hb3' HB2
  go_wp2_with fail
  refine (HTO.out _ HB3.out).mono ?_
  rintro e4 w4 ⟨g4, rfl, _, hr4, hg4, hb4'⟩
  have HB4 : Hid (Below w.heap.size w w4) := HB3.out.trans (hb4'.mono HB3.out.size)
  have HR4 : Hid (RS 4 hcs w4 (.slice (some ⟨g4, 0, none⟩) n n) g4 0 l) := hr4.1
  have hc4 := HCI.out _ _ g4 0 hr4.1 (fun a n' c e => by simp at e; omega) (HT.out _ HB4.out)
  clear hb4' HCI HB3 hr4
  go_wp2_with fail
  refine hc4.mono ?_
  rintro e5 w5 ⟨rfl, hb5'⟩
  have HB5 : Hid (Below w.heap.size w w5) := HB4.out.trans (hb5'.mono HB4.out.size)
  have HR5 : Hid (RS 4 hcs w5 (.slice (some ⟨g4, 0, none⟩) n n) g4 0 l) := HR4.out.later hb5'
  clear hc4 hb5' HB4 HR4
  go_wp2_with fail
  refine (HTO.out _ HB5.out).mono ?_
  rintro e6 w6 ⟨g6, rfl, _, hr6, _, hb6'⟩
  have HB6 : Hid (Below w.heap.size w w6) := HB5.out.trans (hb6'.mono HB5.out.size)
  have hc6 := HEQ.out w6 _ _ g4 0 g6 0 (HR5.out.later hb6') hr6.1
  clear hb6' HR5 hr6 HTO HEQ HB5
  go_wp2_with fail
  refine hc6.mono ?_
  rintro e7 w7 ⟨rfl, hb7'⟩
  have HB7 : Hid (Below w.heap.size w w7) := HB6.out.trans (hb7'.mono HB6.out.size)
  clear hc6 hb7' HB6
  go_wp2
  go_ret
  exact ⟨rfl, HB7.out⟩

set_option maxRecDepth 100000 in
set_option maxHeartbeats 1000000 in
theorem exactNextHead_any (v : Value) (g o : Nat) (l : List Hd) (hs : Int) (t : ByteArray) (ht : t.size ≤ maxLen) (w : World) (hT : Tb w) (hv : IsRowH w v g o l) :
    Calls Tryd.prog 6 #[v, .int .i64 hs, .string t] w fun e w' => e = .returned (.bool true) ∧ Below w.heap.size w w' := by
  unfold maxLen at ht
  by_cases hbig : 1048576 < t.size
  · have q : (1048576 : Int) < (t.size : Int) := by omega
    clear hT
    obtain ⟨a, n0, cap, rfl, hn0, _⟩ := hv
    go_enter Tryd.func6, Tryd.ntmps6
    go_wp2
    go_ret
    exact ⟨rfl, Below.refl _ _⟩
  have q : ¬ (1048576 : Int) < (t.size : Int) := by omega
  have HT : Hid (∀ W, Below w.heap.size w W → Tb W) := fun W hW => hT.later hW
  have HSZ : Hid (Calls Tryd.prog 27 #[v, .int .i64 1048576] w fun e w' => ∃ A : Int, e = .returned (.int .i64 A) ∧ Below w.heap.size w w' ∧ A ≤ 1048576 ∧ (0 ≤ A → RS 4 hcs w v g o l ∧ SmallHs l ∧ l.length ≤ 1048576)) := szHeadS_row v g o l 1048576 w hv (by omega) (by omega)
  obtain ⟨a, n0, cap, rfl, hn0, _⟩ := hv
  clear hT
  go_enter Tryd.func6, Tryd.ntmps6
  go_wp2_with fail
  refine HSZ.out.mono ?_
  rintro e1 w1 ⟨A, rfl, hb1, hA1, hA2⟩
  by_cases hneg : A < 0
  · clear hA2 HSZ HT
    go_wp2
    go_ret
    exact ⟨rfl, hb1⟩
  have HRS : Hid (RS 4 hcs w (.slice a n0 cap) g o l) := (hA2 (by omega)).1
  have HTO : Hid (∀ W, Below w.heap.size w W → Calls Tryd.prog 29 #[.slice a n0 cap] W fun e w' => ∃ g, e = .returned (.slice (some ⟨g, 0, none⟩) l.length l.length) ∧ W.heap.size ≤ g ∧ RW 4 hcs w' (.slice (some ⟨g, 0, none⟩) l.length l.length) g l ∧ g < w'.heap.size ∧ Below W.heap.size W w') := fun W hW => toHeadS_any _ g o l W (HRS.out.later hW)
  clear hA2 HSZ HRS
  have HCI : Hid (∀ W v g o, RS 4 hcs W v g o l → (∀ a n c, v = .slice a n c → n ≤ c) → Tb W → Calls Tryd.prog 14 #[v, .int .i64 hs, .string t] W fun e w' => e = .returned (.tuple #[.agg #[.int .i64 (HV.nxA l hs t).h, .int .i64 (HV.nxA l hs t).e, .string (HV.nxA l hs t).r, .string (HV.nxA l hs t).p], .bool (HV.nxOk l hs t)]) ∧ Below W.heap.size W w') := fun W v g o h1 h2 h3 => NextHead_any v g o l hs t W h1 h2 h3
  have HCS : Hid (∀ W v g o, RS 4 hcs W v g o l → Calls Tryd.prog 28 #[v, .int .i64 hs, .string t] W fun e w' => e = .returned (.tuple #[.agg #[.int .i64 (HV.nxA l hs t).h, .int .i64 (HV.nxA l hs t).e, .string (HV.nxA l hs t).r, .string (HV.nxA l hs t).p], .bool (HV.nxOk l hs t)]) ∧ Below W.heap.size W w') := fun W v g o h1 => sNextHead_any v g o l hs t W h1
  have HEQ : Hid (∀ W u v ga oa gb ob, RS 4 hcs W u ga oa l → RS 4 hcs W v gb ob l → Calls Tryd.prog 31 #[u, v] W fun e w' => e = .returned (.bool true) ∧ Below W.heap.size W w') := fun W u v ga oa gb ob h1 h2 => eqHeadS_yes u v ga oa gb ob l W h1 h2
  generalize HV.nxA l hs t = X at *
  generalize HV.nxOk l hs t = R at *
  obtain ⟨xh, xe, xr, xp⟩ := X
  have HEH : Hid (∀ W, Calls Tryd.prog 30 #[.agg #[.int .i64 xh, .int .i64 xe, .string xr, .string xp], .agg #[.int .i64 xh, .int .i64 xe, .string xr, .string xp]] W fun e w' => e = .returned (.bool true) ∧ Below W.heap.size W w') := fun W => eqHead_yes ⟨xh, xe, xr, xp⟩ W
  simp only at HCI HCS
  obtain ⟨n, hn⟩ : ∃ n, l.length = n := ⟨_, rfl⟩
  rw [hn] at HTO
  go_wp2_with fail
  refine (HTO.out _ hb1).mono ?_
  rintro e2 w2 ⟨g2, rfl, _, hr2, _, hb2'⟩
  have HB2 : Hid (Below w.heap.size w w2) := hb1.trans (hb2'.mono hb1.size)
  have hc2 := HCS.out _ _ g2 0 hr2.1
  clear hb1 hb2' HCS hr2
  go_wp2_with fail
  refine hc2.mono ?_
  rintro e3 w3 ⟨rfl, hb3'⟩
  have HB3 : Hid (RB (w3.alloc (.cells #[.int .i64 xh, .int .i64 xe, .string xr, .string xp] 33)) w3.heap.size ⟨xh, xe, xr, xp⟩ ∧ Below w.heap.size w (w3.alloc (.cells #[.int .i64 xh, .int .i64 xe, .string xr, .string xp] 33))) := by
    have b := HB2.out.trans (hb3'.mono HB2.out.size)
    exact ⟨RB.new w3 ⟨xh, xe, xr, xp⟩ _, b.alloc b.size _⟩
  clear hc2 hb3' HB2
  go_wp2_with fail
  refine (HTO.out _ HB3.out.2).mono ?_
  rintro e4 w4 ⟨g4, rfl, _, hr4, hg4, hb4'⟩
  have HB4 : Hid (RB w4 w3.heap.size ⟨xh, xe, xr, xp⟩ ∧ Below w.heap.size w w4) := ⟨HB3.out.1.later hb4', HB3.out.2.trans (hb4'.mono HB3.out.2.size)⟩
  have HR4 : Hid (RS 4 hcs w4 (.slice (some ⟨g4, 0, none⟩) n n) g4 0 l) := hr4.1
  have hc4 := HCI.out _ _ g4 0 hr4.1 (fun a n' c e => by simp at e; omega) (HT.out _ HB4.out.2)
  clear hb4' HCI HB3 hr4
  go_wp2_with fail
  refine hc4.mono ?_
  rintro e5 w5 ⟨rfl, hb5'⟩
  have HB5 : Hid (RB (w5.alloc (.cells #[.int .i64 xh, .int .i64 xe, .string xr, .string xp] 33)) w3.heap.size ⟨xh, xe, xr, xp⟩ ∧ RB (w5.alloc (.cells #[.int .i64 xh, .int .i64 xe, .string xr, .string xp] 33)) w5.heap.size ⟨xh, xe, xr, xp⟩ ∧ RS 4 hcs (w5.alloc (.cells #[.int .i64 xh, .int .i64 xe, .string xr, .string xp] 33)) (.slice (some ⟨g4, 0, none⟩) n n) g4 0 l ∧ Below w.heap.size w (w5.alloc (.cells #[.int .i64 xh, .int .i64 xe, .string xr, .string xp] 33))) := by
    have b := HB4.out.2.trans (hb5'.mono HB4.out.2.size)
    exact ⟨(HB4.out.1.later hb5').later ((Below.refl _ _).alloc (Nat.le_refl _) _), RB.new w5 ⟨xh, xe, xr, xp⟩ _, (HR4.out.later hb5').alloc _, b.alloc b.size _⟩
  clear hc4 hb5' HB4 HR4
  have z0 := HB5.out.1.c0
  have z1 := HB5.out.1.c1
  have z2 := HB5.out.1.c2
  have z3 := HB5.out.1.c3
  have y0 := HB5.out.2.1.c0
  have y1 := HB5.out.2.1.c1
  have y2 := HB5.out.2.1.c2
  have y3 := HB5.out.2.1.c3
  simp only at z0 z1 z2 z3 y0 y1 y2 y3
  go_wp2_with fail
  refine (HEH.out _).mono ?_
  rintro e6 w6 ⟨rfl, hb6'⟩
  have HB6 : Hid (RS 4 hcs w6 (.slice (some ⟨g4, 0, none⟩) n n) g4 0 l ∧ Below w.heap.size w w6) := ⟨HB5.out.2.2.1.later hb6', HB5.out.2.2.2.trans (hb6'.mono HB5.out.2.2.2.size)⟩
  clear HB5 hb6' HEH z0 z1 z2 z3 y0 y1 y2 y3
  go_wp2_with fail
  refine (HTO.out _ HB6.out.2).mono ?_
  rintro e7 w7 ⟨g7, rfl, _, hr7, _, hb7'⟩
  have HB7 : Hid (Below w.heap.size w w7) := HB6.out.2.trans (hb7'.mono HB6.out.2.size)
  have hc7 := HEQ.out w7 _ _ g4 0 g7 0 (HB6.out.1.later hb7') hr7.1
  clear hb7' hr7 HTO HEQ HB6
  go_wp2_with fail
  refine hc7.mono ?_
  rintro e8 w8 ⟨rfl, hb8'⟩
  have HB8 : Hid (Below w.heap.size w w8) := HB7.out.trans (hb8'.mono HB7.out.size)
  clear hc7 hb8' HB7
  go_wp2
  go_ret
  exact ⟨rfl, HB8.out⟩

end Go.Proofs.YtlpbfafcaleifaaDoor
