/-
  The walks of the laws FnExactPoolOf and FnExactPoolRoot: they answer true of every seed, and of every pool.
-/
import Derived.Test.YtkgibgadngeddaaDoorRooti
import Derived.Test.YtkgibgadngeddaaDoorMk
namespace Go.Proofs.YtkgibgadngeddaaDoor
open Go.RowKit
set_option linter.unusedVariables false

theorem below_q (w : World) (n : Nat) : Below w.heap.size w (w.drewN n) := below_drn (Below.refl _ _) n

set_option maxRecDepth 100000 in
set_option maxHeartbeats 2000000 in
theorem poolLaw_any (s : ByteArray) (w : World) (hs : s.size ≤ 1048576) (hT : Tb w) :
    Calls Tryd.prog 6 #[.string s] w fun e w' => e = .returned (.bool true) ∧ Below w.heap.size w w' := by
  have HT : Hid (Tb w) := hT
  have HL : Hid ((poolL s).length = 16) := poolL_len s
  have HS : Hid (∀ W, Calls Tryd.prog 15 #[.string s] W fun e w' => ∃ v, e = .returned v ∧ OS W.heap.size W w' v (poolL s)) := fun W => sPoolOf_any s W (by omega)
  have HI : Hid (∀ W, Below w.heap.size w W → Calls Tryd.prog 16 #[.string s] W fun e w' => ∃ g, e = .returned (.slice (some ⟨g, 0, none⟩) 16 16) ∧ W.heap.size ≤ g ∧ TB w' g (poolL s) ∧ Below W.heap.size W w') := fun W hW => PoolOf_any s W (by omega) (HT.out.later hW)
  generalize poolL s = L at *
  clear hT
  go_enter Tryd.func6, Tryd.ntmps6
  go_wp2_with fail
  refine (HS.out _).mono ?_
  rintro e w1 ⟨vW, rfl, hW1⟩
  go_wp2_with fail
  refine (HI.out _ hW1.2.1).mono ?_
  rintro e w2 ⟨g, rfl, hg, htb, hb2⟩
  have hW2 := hW1.later hb2
  have b2 := hW2.2.1
  obtain ⟨gW, hsW⟩ := hW2.ts (by rw [HL.out]; omega)
  have hts := htb.ts 16 16 HL.out (by omega)
  have hgw := hW1.2.2
  obtain ⟨aW, cW, hvW⟩ := own_slice hW1.1
  clear HS htb
  rw [HL.out] at hvW
  have hgne : gW ≠ g := by
    intro he
    have h1 := hsW.1.lt (by rw [HL.out]; omega)
    rcases hW1.shape with ⟨_, hn⟩ | ⟨g', c', hv', _, hlt⟩
    · rw [hn] at HL
      exact absurd HL.out (by simp)
    · obtain ⟨a, c, hv2, _, hx⟩ := hsW.1
      have := (hx (by rw [HL.out]; omega)).1
      rw [hv'] at hv2
      simp at hv2
      rw [this] at hv2
      simp at hv2 <;> omega
  have hsW := hsW.1
  subst hvW
  go_wp2_with fail
  refine (eqStringS_yes _ _ g 0 gW 0 L _ hts.ss hsW.ss).mono ?_
  rintro e w3 ⟨rfl, q3, rfl⟩
  have hts3 := hts.drewN q3
  have hsW3 := hsW.drewN q3
  have b3 := below_drn b2 q3
  clear hts hsW hW1 hW2 hb2 b2
  go_wp2_with fail
  refine (markStringS_any _ g L _ 1 _ rfl hts3 (by omega) (by omega)).mono ?_
  rintro e w4 ⟨rfl, hts4, hg4⟩
  rw [rowOf_some (show 0 < L.length by rw [HL.out]; omega)] at hg4
  have hsW4 := hsW3.keptG hg4 (fun _ => by simpa using hgne)
  have hB : w.heap.size ≤ g := by omega
  have b4 := b3.grown hg4 b3.size (fun k hk => by simp at hk; omega)
  rw [HL.out] at hts4 ⊢
  clear hts3 hsW3 b3 hg4
  go_wp2_with fail
  refine (heldStringS_any _ g _ 1 16 _ rfl hts4 (by omega) (by omega)).mono ?_
  rintro e w5 ⟨rfl, hb5⟩
  have hts5 := hts4.later hb5
  have hsW5 := hsW4.later hb5
  have b5 := b4.trans (hb5.mono b4.size)
  clear hts4 hsW4 b4 hb5
  go_wp2_with fail
  refine (HI.out _ b5).mono ?_
  rintro e w6 ⟨g6, rfl, hg6, htb6, hb6⟩
  have hts6 := hts5.later hb6
  have hsW6 := hsW5.later hb6
  have b6 := b5.trans (hb6.mono b5.size)
  have hss6 := htb6.ss 16 16 HL.out (by omega)
  clear hts5 hsW5 b5 hb6
  go_wp2_with fail
  refine (eqStringS_yes _ _ g6 0 gW 0 L _ hss6 hsW6.ss).mono ?_
  rintro e w7 ⟨rfl, q7, rfl⟩
  have hts7 := hts6.drewN q7
  have b7 := below_drn b6 q7
  clear hts6 hsW6 b6 hss6
  go_wp2_with fail
  refine (heldStringS_any _ g _ 1 16 _ rfl hts7 (by omega) (by omega)).mono ?_
  rintro e w8 ⟨rfl, hb8⟩
  go_wp2
  go_ret
  exact ⟨rfl, b7.trans (hb8.mono b7.size)⟩

theorem rootLaw_big (a : Option Addr) (n cap : Nat) (w : World) (h : 1048576 < n) (hm : n ≤ 9223372036854775807) :
    Calls Tryd.prog 7 #[.slice a n cap] w fun e w' => e = .returned (.bool true) ∧ Below w.heap.size w w' := by
  go_enter Tryd.func7, Tryd.ntmps7
  go_wp2_with fail
  refine (szStringS_big a n cap _ h hm).mono ?_
  rintro e w1 ⟨rfl, rfl⟩
  go_wp2
  go_ret
  exact ⟨rfl, Below.refl _ _⟩

set_option maxRecDepth 100000 in
set_option maxHeartbeats 1000000 in
theorem rootLaw_any (v : Value) (n : Nat) (a : Option Addr) (cap : Nat) (hv0 : v = .slice a n cap) (ga oa : Nat) (l : List ByteArray) (w : World) (hn : l.length = n) (hl : n ≤ 1048576) (hv : SS w v ga oa l) (hz : ∀ x ∈ l, x.size ≤ 9223372036854775807) (hT : Tb w) :
    Calls Tryd.prog 7 #[v] w fun e w' => e = .returned (.bool true) ∧ Below w.heap.size w w' := by
  have hga := hv.lt
  have HTO : Hid (∀ w', Below w.heap.size w w' → Calls Tryd.prog 22 #[v] w' fun e w'' => ∃ g, e = .returned (.slice (some ⟨g, 0, none⟩) n n) ∧ w'.heap.size ≤ g ∧ TB w'' g l ∧ Below w'.heap.size w' w'') := fun w' hb => by
    have h1 : SS w' v ga oa l := hv.below hb hga
    have := toStringS_any v ga oa l w' h1 h1.lt
    rw [hn] at this
    exact this
  have HSZ : Hid (Calls Tryd.prog 20 #[v, .int .i64 1048576] w fun e w' => e = .returned (.int .i64 (szA l)) ∧ w' = w) := szStringS_any v ga oa l w hv hz (by omega)
  have HTT : Hid (∀ W g, TB W g l → Calls Tryd.prog 21 #[.slice (some ⟨g, 0, none⟩) n n] W fun e w' => e = .returned (.string (rootA l)) ∧ Below W.heap.size W w') := fun W g h => sPoolRoot_any _ g 0 l W (h.ss n n hn (by omega))
  have HTI : Hid (∀ W g, Below w.heap.size w W → TB W g l → Calls Tryd.prog 23 #[.slice (some ⟨g, 0, none⟩) n n] W fun e w' => e = .returned (.string (rootA l)) ∧ Below W.heap.size W w') := fun W g hb h => PoolRoot_any _ g 0 l W (h.ss n n hn (by omega)) (hT.later hb)
  have HEQ : Hid (∀ W g g', TB W g l → TB W g' l → Calls Tryd.prog 17 #[.slice (some ⟨g, 0, none⟩) n n, .slice (some ⟨g', 0, none⟩) n n] W fun e w' => e = .returned (.bool true) ∧ ∃ q, w' = W.drewN q) := fun W g g' h h' => eqStringS_yes _ _ g 0 g' 0 l W (h.ss n n hn (by omega)) (h'.ss n n hn (by omega))
  generalize rootA l = T at *
  generalize szA l = A at *
  subst hv0
  clear hv hga hz hT
  by_cases hA : A < 0
  · go_enter Tryd.func7, Tryd.ntmps7
    go_wp2_with fail
    refine HSZ.out.mono ?_
    rintro e w1 ⟨rfl, rfl⟩
    go_wp2
    go_ret
    exact ⟨rfl, Below.refl _ _⟩
  · go_enter Tryd.func7, Tryd.ntmps7
    go_wp2_with fail
    refine HSZ.out.mono ?_
    rintro e w1 ⟨rfl, rfl⟩
    clear HSZ
    go_wp2_with fail
    refine (HTO.out _ (Below.refl _ _)).mono ?_
    rintro e w2 ⟨g2, rfl, hg2, ht2, hb2⟩
    go_wp2_with fail
    refine (HTT.out _ _ ht2).mono ?_
    rintro e w3 ⟨rfl, hb3⟩
    have b3 := hb2.trans (hb3.mono hb2.size)
    clear hb2 hb3 ht2 hg2 HTT
    go_wp2_with fail
    refine (HTO.out _ b3).mono ?_
    rintro e w4 ⟨g4, rfl, hg4, ht4, hb4⟩
    have b4 := b3.trans (hb4.mono b3.size)
    have hg4' := ht4.lt
    clear hb4 b3
    go_wp2_with fail
    refine (HTI.out _ _ b4 ht4).mono ?_
    rintro e w5 ⟨rfl, hb5⟩
    have b5 := b4.trans (hb5.mono b4.size)
    have ht5 := ht4.below hb5 hg4'
    have hg5 := ht5.lt
    clear hb5 b4 ht4 HTI
    go_wp2_with fail
    refine (HTO.out _ b5).mono ?_
    rintro e w6 ⟨g6, rfl, hg6, ht6, hb6⟩
    have b6 := b5.trans (hb6.mono b5.size)
    have ht7 := ht5.below hb6 hg5
    go_wp2_with fail
    refine (HEQ.out _ _ _ ht7 ht6).mono ?_
    rintro e w7 ⟨rfl, q, rfl⟩
    go_wp2
    go_ret
    exact ⟨rfl, b6.trans ⟨rfl, rfl, rfl, Nat.le_refl _, fun _ _ => rfl⟩⟩

end Go.Proofs.YtkgibgadngeddaaDoor
