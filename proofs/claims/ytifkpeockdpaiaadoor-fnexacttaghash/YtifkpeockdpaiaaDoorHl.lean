/-
  The walk of the law FnExactTagHash: it answers true of every kind, all parts and every width.
-/
import Derived.Test.YtifkpeockdpaiaaDoorHash
namespace Go.Proofs.YtifkpeockdpaiaaDoor
open Go.RowKit
set_option linter.unusedVariables false

theorem tagHashLaw_big (k x : Int) (a : Option Addr) (n cap : Nat) (w : World) (h : 1048576 < n) (hm : n ≤ 9223372036854775807) :
    Calls Tryd.prog 5 #[.int .i64 k, .slice a n cap, .int .i64 x] w fun e w' => e = .returned (.bool true) ∧ Below w.heap.size w w' := by
  go_enter Tryd.func5, Tryd.ntmps5
  go_wp2_with fail
  refine (szStringS_big a n cap _ h hm).mono ?_
  rintro e w1 ⟨rfl, rfl⟩
  go_wp2
  go_ret
  exact ⟨rfl, Below.refl _ _⟩

set_option maxRecDepth 100000 in
set_option maxHeartbeats 1000000 in
theorem tagHashLaw_any (k x : Int) (v : Value) (n : Nat) (a : Option Addr) (cap : Nat) (hv0 : v = .slice a n cap) (ga oa : Nat) (l : List ByteArray) (w : World) (hn : l.length = n) (hl : n ≤ 1048576) (hv : SS w v ga oa l) (hz : ∀ x ∈ l, x.size ≤ 9223372036854775807) (hK : TabK w) (hF : TabF w) :
    Calls Tryd.prog 5 #[.int .i64 k, v, .int .i64 x] w fun e w' => e = .returned (.bool true) ∧ Below w.heap.size w w' := by
  have hga := hv.lt
  have hkp := hK.pos
  have hfp := hF.pos
  have HTO : Hid (∀ w', Below w.heap.size w w' → Calls Tryd.prog 19 #[v] w' fun e w'' => ∃ g, e = .returned (.slice (some ⟨g, 0, none⟩) n n) ∧ w'.heap.size ≤ g ∧ TB w'' g l ∧ Below w'.heap.size w' w'') := fun w' hb => by
    have h1 : SS w' v ga oa l := hv.below hb hga
    have := toStringS_any v ga oa l w' h1 h1.lt
    rw [hn] at this
    exact this
  have HSZ : Hid (Calls Tryd.prog 17 #[v, .int .i64 1048576] w fun e w' => e = .returned (.int .i64 (szA l)) ∧ w' = w) := szStringS_any v ga oa l w hv hz (by omega)
  have HTT : Hid (∀ W g, TB W g l → Calls Tryd.prog 18 #[.int .i64 k, .slice (some ⟨g, 0, none⟩) n n, .int .i64 x] W fun e w' => e = .returned (.string (hashB k l x)) ∧ Below W.heap.size W w') := fun W g h => sTagHash_any k _ x g 0 l W (h.ss n n hn (by omega))
  have HTI : Hid (∀ W g, Below w.heap.size w W → TB W g l → Calls Tryd.prog 20 #[.int .i64 k, .slice (some ⟨g, 0, none⟩) n n, .int .i64 x] W fun e w' => e = .returned (.string (hashB k l x)) ∧ Below W.heap.size W w') := fun W g hb h => TagHash_any k _ x g 0 l W (h.ss n n hn (by omega)) (hK.later hb hkp) (hF.later hb hfp)
  have HEQ : Hid (∀ W g g', TB W g l → TB W g' l → Calls Tryd.prog 21 #[.slice (some ⟨g, 0, none⟩) n n, .slice (some ⟨g', 0, none⟩) n n] W fun e w' => e = .returned (.bool true) ∧ ∃ q, w' = W.drewN q) := fun W g g' h h' => eqStringS_yes _ _ g 0 g' 0 l W (h.ss n n hn (by omega)) (h'.ss n n hn (by omega))
  generalize hashB k l x = T at *
  generalize szA l = A at *
  subst hv0
  clear hv hga hz hK hF hkp hfp
  by_cases hA : A < 0
  · go_enter Tryd.func5, Tryd.ntmps5
    go_wp2_with fail
    refine HSZ.out.mono ?_
    rintro e w1 ⟨rfl, rfl⟩
    go_wp2
    go_ret
    exact ⟨rfl, Below.refl _ _⟩
  · go_enter Tryd.func5, Tryd.ntmps5
    go_wp2_with fail
    refine HSZ.out.mono ?_
    rintro e w1 ⟨rfl, rfl⟩
    clear HSZ
    go_wp2_with fail
    refine (HTO.out _ (Below.refl _ _)).mono ?_
    rintro e w2 ⟨g2, rfl, hg2, ht2, hb2⟩
    go_wp2_with fail
    refine (HTT.out _ _ ht2).mono ?_
    rintro e w3 ⟨rfl, hb3⟩
    have b3 := hb2.trans (hb3.mono hb2.size)
    clear hb2 hb3 ht2 hg2 HTT
    go_wp2_with fail
    refine (HTO.out _ b3).mono ?_
    rintro e w4 ⟨g4, rfl, hg4, ht4, hb4⟩
    have b4 := b3.trans (hb4.mono b3.size)
    have hg4' := ht4.lt
    clear hb4 b3
    go_wp2_with fail
    refine (HTI.out _ _ b4 ht4).mono ?_
    rintro e w5 ⟨rfl, hb5⟩
    have b5 := b4.trans (hb5.mono b4.size)
    have ht5 := ht4.below hb5 hg4'
    have hg5 := ht5.lt
    clear hb5 b4 ht4 HTI
    go_wp2_with fail
    refine (HTO.out _ b5).mono ?_
    rintro e w6 ⟨g6, rfl, hg6, ht6, hb6⟩
    have b6 := b5.trans (hb6.mono b5.size)
    have ht7 := ht5.below hb6 hg5
    go_wp2_with fail
    refine (HEQ.out _ _ _ ht7 ht6).mono ?_
    rintro e w7 ⟨rfl, q, rfl⟩
    go_wp2
    go_ret
    exact ⟨rfl, b6.trans ⟨rfl, rfl, rfl, Nat.le_refl _, fun _ _ => rfl⟩⟩

end Go.Proofs.YtifkpeockdpaiaaDoor
