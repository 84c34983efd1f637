/-
  What l01Place and l06Left draw; an act appended to a row of acts.
-/
import Derived.Test.YtbmlphlknolieaaKf
import Derived.Test.YtbmlphlknolieaaKh
namespace Go.Proofs.Ytbmlphlknolieaa
open Go.RowKit Go.BigFrame Go.Sort
set_option linter.unusedVariables false
set_option linter.unusedSimpArgs false

/-- a number that fits -/
def fits (y : Int) : Prop := -9223372036854775808 ≤ y ∧ y ≤ 9223372036854775807
def plL (n : Nat) : List Int := [-1, (n : Int), (n : Int) + 1, 9223372036854775807, -9223372036854775808]
def plC (n : Nat) : Array Value := #[.int .i64 (-1), .int .i64 (n : Int), .int .i64 ((n : Int) + 1), .int .i64 9223372036854775807, .int .i64 (-9223372036854775808)]
theorem pl_at (n : Nat) (w : World) : Hid (∀ j, (h : j < (plL n).length) → (w.alloc (.cells (plC n) 3)).cell? ⟨w.heap.size, j, none⟩ = some (.int .i64 (plL n)[j])) := by
  intro j hj
  rw [World.cell?_alloc_at _ _ _ _ rfl]
  have : j = 0 ∨ j = 1 ∨ j = 2 ∨ j = 3 ∨ j = 4 := by simp [plL] at hj; omega
  rcases this with rfl | rfl | rfl | rfl | rfl <;> rfl
theorem plL_in (n : Nat) (hn : n ≤ 1000000) (y : Int) (h : y ∈ plL n) : fits y := by
  unfold fits
  simp [plL] at h
  omega

theorem l01Place_in (B : Nat) (w0 w : World) (g : Nat) (v : Value) (n : Nat) (hn0 : 0 < n) (hn : n ≤ 1000000) (hc : Cur B w0 w g v) :
    Calls Try.prog 58 #[.pointer (some ⟨g, 0, none⟩), .int .i64 n] w fun e w' => ∃ y : Int, fits y ∧ e = .returned (.int .i64 y) ∧ Cur B w0 w' g v ∧ w.grownBy w' (some g) := by
  go_enter Try.func58, Try.ntmps58
  go_wp2_with fail
  refine (l01Once_in _ _ _ g v 15 15 rfl hc (by omega) (by omega)).mono ?_
  rintro e w1 ⟨b, rfl, hc1, hg1⟩
  cases b with
  | true =>
    have hca : Cur B w0 (w1.alloc (.cells (plC n) 3)) g v := hc1.kept (World.grownBy_alloc w1 _ none) (by simp) hc1.size (fun k hk => by cases hk)
    have hga : w.grownBy (w1.alloc (.cells (plC n) 3)) (some g) := hg1.trans (World.grownBy_alloc w1 _ (some g))
    have hgl := hc1.lt
    have hcell := pl_at n w1
    have cP := l01PickInt_in B w0 (w1.alloc (.cells (plC n) 3)) g v w1.heap.size 5 (plL n) hca (by simp [plL]) (by simp [plL]) (by omega) (by simp) hcell
    have CP : Hid (Calls Try.prog 79 #[.pointer (some ⟨g, 0, none⟩), .slice (some ⟨w1.heap.size, 0, none⟩) 5 5] (w1.alloc (.cells (plC n) 3)) fun e w' => ∃ y : Int, y ∈ plL n ∧ e = .returned (.int .i64 y) ∧ Cur B w0 w' g v ∧ (w1.alloc (.cells (plC n) 3)).grownBy w' (some g)) := cP
    clear cP hcell hca
    go_wp2_with fail
    refine CP.out.mono ?_
    rintro e w2 ⟨y, hy, rfl, hc2, hg2⟩
    go_wp2
    go_ret
    exact ⟨y, plL_in n hn y hy, rfl, hc2, hga.trans hg2⟩
  | false =>
    go_wp2_with fail
    refine (l01Below_in B w0 _ g v _ n rfl hc1 (by omega) (by omega)).mono ?_
    rintro e w2 ⟨y, hy, rfl, hc2, hg2⟩
    go_wp2
    go_ret
    exact ⟨y, by unfold fits; omega, rfl, hc2, hg1.trans hg2⟩

theorem l01Place_i (B : Nat) (w0 w : World) (g : Nat) (v : Value) (x : Int) (n : Nat) (hx : x = (n : Int)) (hn0 : 0 < n) (hn : n ≤ 1000000) (hc : Cur B w0 w g v) :
    Calls Try.prog 58 #[.pointer (some ⟨g, 0, none⟩), .int .i64 x] w fun e w' => ∃ y : Int, fits y ∧ e = .returned (.int .i64 y) ∧ Cur B w0 w' g v ∧ w.grownBy w' (some g) := by
  subst hx
  exact l01Place_in B w0 w g v n hn0 hn hc


section
variable {w : World} {ops : Array Oper} {o : Oper} {a : Act} {Q : Exit → Act → World → Prop}
theorem wp_act {rest : List Oper} (hgd : o.guard = none) (s x : Operand)
    (ho : o.op = .call { callee := .builtin .append, args := #[s, x], argTypes := #[38, 38] })
    (B : Nat) (u : Value) (l : List Ac) (f : Ac) (hs : a.eval s = u) (h : w.ownsRow B 45 4 u l.length (l.flatMap acs)) (hB : B ≤ w.heap.size) (p : Nat) (hx : a.eval x = .slice (some ⟨p, 0, none⟩) 1 1)
    (hnews : w.rangeAt p 0 (acs f)) (hlen : l.length + 1 ≤ 1000000)
    (hk : ∀ g cap w', w'.ownsRow B 45 4 (.slice (some ⟨g, 0, none⟩) (l.length + 1) cap) (l ++ [f]).length ((l ++ [f]).flatMap acs) → w.grownBy w' u.ownBlock → wpList Try.prog ops Q rest (a.put o.dst (.slice (some ⟨g, 0, none⟩) (l.length + 1) cap)) w') : wpList Try.prog ops Q (o :: rest) a w := by
  obtain ⟨i0, hi, hz0, hz1, hz2⟩ := info_parts Try.infoAct
  refine wpList_append_lies w hgd s x 38 ho B 45 i0 _ 4 56 Try.underlying38 hi hz0 hz1 hz2 rfl (by decide) u l.length (l.flatMap acs) hs h ⟨p, 0, none⟩ 1 1 (acs f) hx rfl ?_
    (fun u hu => by simp [acs] at hu; rcases hu with rfl | rfl | rfl | rfl <;> rfl) (by omega) (by unfold maxLen; omega) (by omega) hB w.heap.size rfl ?_
  · intro j u hj
    have := hnews j u hj
    rw [Addr.add_mid]
    exact this
  · intro g cap w' h1 h2 h3 _
    exact hk _ _ _ (by rw [List.flatMap_append, List.flatMap_singleton, List.length_append]; exact h1) h2
theorem wp_int {rest : List Oper} (hgd : o.guard = none) (s x : Operand)
    (ho : o.op = .call { callee := .builtin .append, args := #[s, x], argTypes := #[28, 28] })
    (B : Nat) (u : Value) (l : List Int) (f : Int) (hs : a.eval s = u) (h : w.ownsRow B 3 1 u l.length (l.flatMap ics)) (hB : B ≤ w.heap.size) (p : Nat) (hx : a.eval x = .slice (some ⟨p, 0, none⟩) 1 1)
    (hnews : w.cell? ⟨p, 0, none⟩ = some (.int .i64 f)) (hlen : l.length + 1 ≤ 1000000)
    (hk : ∀ g cap w', w'.ownsRow B 3 1 (.slice (some ⟨g, 0, none⟩) (l.length + 1) cap) (l ++ [f]).length ((l ++ [f]).flatMap ics) → w.grownBy w' u.ownBlock → wpList Try.prog ops Q rest (a.put o.dst (.slice (some ⟨g, 0, none⟩) (l.length + 1) cap)) w') : wpList Try.prog ops Q (o :: rest) a w := by
  obtain ⟨i0, hi, hz0, hz1, hz2⟩ := info_parts Try.info3
  refine wpList_append_lies w hgd s x 28 ho B 3 i0 _ 1 8 Try.underlying28 hi hz0 hz1 hz2 rfl (by decide) u l.length (l.flatMap ics) hs h ⟨p, 0, none⟩ 1 1 (ics f) hx rfl ?_
    (fun u hu => by simp [ics] at hu; subst hu; rfl) (by omega) (by unfold maxLen; omega) (by omega) hB w.heap.size rfl ?_
  · intro j u hj
    have := range1 hnews j u hj
    rw [Addr.add_mid]
    exact this
  · intro g cap w' h1 h2 h3 _
    exact hk _ _ _ (by rw [List.flatMap_append, List.flatMap_singleton, List.length_append]; exact h1) h2
end

def leftL : List Int := [0, 1, 2, 3, 5, 9, 40, 200, -1, 9223372036854775807]
def leftC : Array Value := #[.int .i64 0, .int .i64 1, .int .i64 2, .int .i64 3, .int .i64 5, .int .i64 9, .int .i64 40, .int .i64 200, .int .i64 (-1), .int .i64 9223372036854775807]
theorem left_at (w : World) : Hid (∀ j, (h : j < leftL.length) → (w.alloc (.cells leftC 3)).cell? ⟨w.heap.size, j, none⟩ = some (.int .i64 leftL[j])) := by
  intro j hj
  rw [World.cell?_alloc_at _ _ _ _ rfl]
  have : j = 0 ∨ j = 1 ∨ j = 2 ∨ j = 3 ∨ j = 4 ∨ j = 5 ∨ j = 6 ∨ j = 7 ∨ j = 8 ∨ j = 9 := by simp [leftL] at hj; omega
  rcases this with rfl | rfl | rfl | rfl | rfl | rfl | rfl | rfl | rfl | rfl <;> rfl
theorem pickL_in (B : Nat) (w0 w : World) (g : Nat) (v : Value) (hc : Cur B w0 w g v) :
    Calls Try.prog 79 #[.pointer (some ⟨g, 0, none⟩), .slice (some ⟨w.heap.size, 0, none⟩) 10 10] (w.alloc (.cells leftC 3)) fun e w' => ∃ y : Int, e = .returned (.int .i64 y) ∧ Cur B w0 w' g v ∧ w.grownBy w' (some g) := by
  have hlt := hc.lt
  have hga : w.grownBy (w.alloc (.cells leftC 3)) (some g) := World.grownBy_alloc w _ _
  have hca : Cur B w0 (w.alloc (.cells leftC 3)) g v := hc.kept (World.grownBy_alloc w _ none) (by simp) hc.size (fun k hk => by cases hk)
  exact (l01PickInt_in B w0 (w.alloc (.cells leftC 3)) g v w.heap.size 10 leftL hca (by decide) (by decide) (by omega) (by simp) (left_at w)).mono fun e w' ⟨y, hy, he, hc', hg⟩ => ⟨y, he, hc', hga.trans hg⟩

/-- what l06Left answers -/
def LtA (B : Nat) (w0 w : World) (g : Nat) (v : Value) (e : Ending) (w' : World) : Prop := ∃ (u : Value) (q : Nat) (N : List Int), e = .returned u ∧ RS 1 ics w' u q 0 N ∧ w.heap.size ≤ q ∧ Cur B w0 w' g v ∧ w.grownBy w' (some g)
def LtR (B : Nat) (w0 w : World) (g : Nat) (v : Value) (u i : Value) (wr : World) : Prop := ∃ (m : Nat) (N : List Int), m ≤ 6 ∧ i = .int .i64 (m : Int) ∧ N.length = m ∧ Hid (wr.ownsRow w.heap.size 3 1 u N.length (N.flatMap ics)) ∧ Hid (Cur B w0 wr g v ∧ w.grownBy wr (some g))

set_option maxRecDepth 100000 in
set_option maxHeartbeats 1000000 in
theorem l06Left_in (B : Nat) (w0 w : World) (g : Nat) (v : Value) (hc : Cur B w0 w g v) :
    Calls Try.prog 59 #[.pointer (some ⟨g, 0, none⟩)] w (LtA B w0 w g v) := by
  have hgl := hc.lt
  have hBw := hc.size
  have HS : Hid (LtR B w0 w g v (.slice (some ⟨w.heap.size, 0, none⟩) 0 0) (.int .i64 0) (w.alloc (.cells #[] 3))) := ⟨0, [], by omega, rfl, rfl, World.ownsRow_made w #[] 0 (Nat.le_refl _) (by decide) (by simp), hc.kept (World.grownBy_alloc w _ none) (by simp) hc.size (fun k hk => by cases hk), World.grownBy_alloc w _ _⟩
  clear hc
  go_enter Try.func59, Try.ntmps59
  go_wp2
  go_loopw [3, 4] (fun u i wr => LtR B w0 w g v u i wr) (fun _ i _ => 6 - (intOf i).toNat)
  case atStart => exact HS.out
  case round =>
    clear HS
    obtain ⟨m, N, hm, rfl, hN, HR, HC⟩ := hrel
    go_wp2_with fail
    refine (l01Below_nat _ _ _ g v 6 HC.out.1 (by omega) (by omega)).mono ?_
    rintro e w2 ⟨x, hx, rfl, hc2, hg2⟩
    have HR2 : Hid (w2.ownsRow w.heap.size 3 1 u3 N.length (N.flatMap ics)) := World.ownsRow.kept HR.out hg2 (.inr fun e => by have := (HR.out.lt g e).1; omega)
    have HC2 : Hid (Cur B w0 w2 g v ∧ w.grownBy w2 (some g)) := ⟨hc2, HC.out.2.trans hg2⟩
    clear HR HC hc2 hg2
    by_cases hlt : m < x
    · have hi : (m : Int) < (x : Int) := by omega
      have HP := pickL_in B w0 w2 g v HC2.out.1
      go_wp2_with fail
      refine HP.mono ?_
      rintro e w3 ⟨y, rfl, hc3, hg3⟩
      have HR3 : Hid (w3.ownsRow w.heap.size 3 1 u3 N.length (N.flatMap ics)) := World.ownsRow.kept HR2.out hg3 (.inr fun e => by have := (HR2.out.lt g e).1; omega)
      have HC3 : Hid (Cur B w0 w3 g v ∧ w.grownBy w3 (some g)) := ⟨hc3, HC2.out.2.trans hg3⟩
      have hs3 := HC3.out.2.size
      clear HP HR2 HC2 hc3 hg3
      go_wp2_with (at_builtin; refine wp_int rfl _ _ rfl w.heap.size _ N y rfl (World.ownsRow.alloc HR3.out _) ?c0 w3.heap.size rfl ?c1 ?c2 ?_)
      case c0 => simp; omega
      case c1 => simp
      case c2 => omega
      intro g8 cap8 w4 hrow4 hg4
      have hA : w3.grownBy (w3.alloc (.cells #[.int .i64 y] 3)) none := World.grownBy_alloc w3 _ _
      have hge : ∀ j, u3.ownBlock = some j → w.heap.size ≤ j := fun j hj => (HR3.out.lt j hj).1
      have hca : Cur B w0 (w3.alloc (.cells #[.int .i64 y] 3)) g v := HC3.out.1.kept hA (by simp) HC3.out.1.size (fun k hk => by cases hk)
      have HC4 : Hid (Cur B w0 w4 g v ∧ w.grownBy w4 (some g)) := ⟨hca.kept hg4 (fun e => by have := hge g e.symm; omega) hca.size (fun j hj => Nat.le_trans hBw (hge j hj)), grow_then (HC3.out.2.trans (World.grownBy_alloc w3 _ (some g))) hg4 (fun j hj => .inl (hge j hj))⟩
      have h4 : w4.ownsRow w.heap.size 3 1 (.slice (some ⟨g8, 0, none⟩) (m + 1) cap8) (N ++ [y]).length ((N ++ [y]).flatMap ics) := by
        rw [show (N ++ [y]).length = m + 1 by simp; omega, List.flatMap_append, List.flatMap_singleton]
        exact hrow4
      have HR4 : Hid (w4.ownsRow w.heap.size 3 1 (.slice (some ⟨g8, 0, none⟩) (m + 1) cap8) (N ++ [y]).length ((N ++ [y]).flatMap ics)) := h4
      clear h4
      clear HC3 HR3 hca hge hA hg4 hrow4
      go_wp2
      go_roundw
      case rel => exact ⟨m + 1, N ++ [y], by omega, by go_num, by simp; omega, HR4, HC4⟩
      case measure => simp [intOf]; omega
    · have hi : ¬ (m : Int) < (x : Int) := by omega
      have hans : LtA B w0 w g v (.returned u3) w2 := by
        have ho : OR 3 1 ics w.heap.size w2 w2 u3 N := ⟨HR2.out, Below.refl _ _, HC2.out.2.size⟩
        obtain ⟨q, h1, h2, _⟩ := OR.rw (k := 1) (enc := ics) (fun x => rfl) (by omega) ho (by omega)
        exact ⟨_, q, N, rfl, h1.1, h2, HC2.out.1, HC2.out.2⟩
      clear HR2 HC2
      go_wp2
      go_ret
      exact hans

end Go.Proofs.Ytbmlphlknolieaa
