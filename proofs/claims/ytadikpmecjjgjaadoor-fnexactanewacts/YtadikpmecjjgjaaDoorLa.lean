/-
  Acts that write a text down: the program's and the specification's answers.
-/
import Derived.Test.YtadikpmecjjgjaaDoorLf
namespace Go.Proofs.YtadikpmecjjgjaaDoor
open Go.RowKit
set_option linter.unusedVariables false
set_option linter.unusedSimpArgs false

theorem lnB_yes {s : ByteArray} (h : lnB s = true) : F.nmB s = true ∧ ¬ s = newB := by simpa [lnB] using h
theorem newB_list : newB.toList = [110, 101, 119] := by rw [ByteArray.toList_eq]; rfl
theorem new_ne {s : ByteArray} (h : ¬ s = newB) : (s.toList == [110, 101, 119]) = false := by rw [← newB_list]; exact bytes_ne h
theorem new_eq : (newB.toList == [110, 101, 119]) = true := by rw [newB_list]; decide

theorem logNameFault_yes (s : ByteArray) (w : World) (h : lnB s = true) : Calls Tryd.prog 44 #[.string s] w fun e w' => e = .returned .nilIface ∧ w' = w := by
  obtain ⟨h1, h2⟩ := lnB_yes h
  have h3 := new_ne h2
  clear h h2
  go_enter Tryd.func44, Tryd.ntmps44
  go_wp2_with fail
  refine (fileNameOk_any _ _).mono ?_
  rintro e w1 ⟨rfl, rfl⟩
  rw [h1]
  go_wp2
  go_ret
  exact ⟨rfl, rfl⟩

theorem logNameFault_no (s : ByteArray) (w : World) (h : lnB s = false) : Calls Tryd.prog 44 #[.string s] w fun e w' => e = .returned (faultV 2) ∧ Below w.heap.size w w' := by
  have HB : Hid (Below w.heap.size w (w.alloc (.cells #[.int .i64 2] 78))) := (Below.refl _ _).alloc (Nat.le_refl _) _
  cases h1 : F.nmB s with
  | false =>
    go_enter Tryd.func44, Tryd.ntmps44
    go_wp2_with fail
    refine (fileNameOk_any _ _).mono ?_
    rintro e w1 ⟨rfl, rfl⟩
    rw [h1]
    go_wp2
    go_ret
    exact ⟨rfl, Below.refl _ _⟩
  | true =>
    have h2 : s = newB := by simpa [lnB, h1] using h
    subst h2
    have h3 := new_eq
    go_enter Tryd.func44, Tryd.ntmps44
    go_wp2_with fail
    refine (fileNameOk_any _ _).mono ?_
    rintro e w1 ⟨rfl, rfl⟩
    rw [h1]
    go_wp2
    go_ret
    exact ⟨rfl, Below.refl _ _⟩

/-- a row of acts of its own, and an error -/
def AeP (w : World) (L : List Ac) (ev : Value) (e : Ending) (w' : World) : Prop := ∃ u, e = .returned (.tuple #[u, ev]) ∧ OR 50 4 acs w.heap.size w w' u L
/-- a row of acts of its own, and a flag -/
def AcP (w : World) (L : List Ac) (R : Bool) (e : Ending) (w' : World) : Prop := ∃ u g, e = .returned (.tuple #[u, .bool R]) ∧ RW 4 acs w' u g L ∧ w.heap.size ≤ g ∧ Below w.heap.size w w'
theorem AcP.of {w w' : World} {L : List Ac} {R : Bool} {u : Value} (h : OR 50 4 acs w.heap.size w w' u L) (hl : L.length ≤ 4) : AcP w L R (.returned (.tuple #[u, .bool R])) w' := by
  obtain ⟨g, h1, h2, _⟩ := OR.rw (k := 4) (enc := acs) (fun x => acs_len x) (by decide) h (by omega)
  exact ⟨u, g, rfl, h1, h2, h.2.1⟩
theorem act_lit (w : World) (cs : Array Value) (l : List Ac) (n : Nat) (hn : l.length = n) (hl : n ≤ 4) (hc : cs.toList = l.flatMap acs) : OR 50 4 acs w.heap.size w (w.alloc (.cells cs 50)) (.slice (some ⟨w.heap.size, 0, none⟩) n n) l := by
  subst hn
  refine ⟨?_, (Below.refl _ _).alloc (Nat.le_refl _) _, by simp⟩
  rw [← hc]
  exact World.ownsRow_lit w cs l.length (Nat.le_refl _) (by unfold maxLen; omega) (by have := congrArg List.length hc; rw [flat_len (k := 4) (fun x => rfl)] at this; simpa using this)

theorem OR.wide {T k B B' : Nat} {enc : Ac → List Value} {w0 w1 w : World} {v : Value} {l : List Ac} (h : OR T k enc B' w1 w v l) (hb : Below B w0 w1) (hB : B ≤ B') : OR T k enc B w0 w v l := by
  refine ⟨⟨h.1.1, ?_⟩, hb.trans (h.2.1.mono hB), Nat.le_trans hB h.2.2⟩
  rcases h.1.2 with hn | ⟨g, cap, cur, h1, h2, h3⟩
  · exact .inl hn
  · exact .inr ⟨g, cap, cur, h1, Nat.le_trans hB h2, h3⟩
theorem AeP.mk {w w' : World} {L : List Ac} {ev u : Value} (h : OR 50 4 acs w.heap.size w w' u L) : AeP w L ev (.returned (.tuple #[u, ev])) w' := ⟨u, rfl, h⟩

set_option maxHeartbeats 1000000 in
theorem framedActs_yes (s : ByteArray) (v : Value) (g o : Nat) (l : List ByteArray) (w : World) (hv : SS w v g o l) (hgl : 0 < l.length → g < w.heap.size) (hs : ∀ t ∈ l, t.size ≤ 1048576) (hT : Tab w) (hk : ∀ t ∈ l, okT t = true) :
    Calls Tryd.prog 45 #[.string s, v] w (AeP w (logAs s (frsB l)) .nilIface) := by
  have HC := framesOf_any v g o l w hv hgl hs hT
  rw [foOut_yes hk] at HC
  obtain ⟨a, cap, rfl, _⟩ := hv
  generalize frsB l = f at *
  clear hgl hs hT hk
  go_enter Tryd.func45, Tryd.ntmps45
  go_wp2_with fail
  refine HC.mono ?_
  rintro e w1 ⟨rfl, hb1⟩
  go_wp2
  go_ret2
  exact AeP.mk ((act_lit w1 _ (logAs s f) 2 rfl (by omega) rfl).wide hb1 hb1.size)

theorem framedActs_no (s : ByteArray) (v : Value) (g o : Nat) (l : List ByteArray) (w : World) (hv : SS w v g o l) (hgl : 0 < l.length → g < w.heap.size) (hs : ∀ t ∈ l, t.size ≤ 1048576) (hT : Tab w) (t : ByteArray) (ht : t ∈ l) (hk : okT t = false) :
    Calls Tryd.prog 45 #[.string s, v] w (AeP w [] (faultV 4)) := by
  have HC := framesOf_any v g o l w hv hgl hs hT
  rw [foOut_no ht hk] at HC
  obtain ⟨a, cap, rfl, _⟩ := hv
  clear hgl hs hT hk ht
  unfold faultV at *
  go_enter Tryd.func45, Tryd.ntmps45
  go_wp2_with fail
  refine HC.mono ?_
  rintro e w1 ⟨rfl, hb1⟩
  go_wp2
  go_ret2
  exact AeP.mk ⟨World.ownsRow_nil _ _ _ _, hb1, hb1.size⟩

end Go.Proofs.YtadikpmecjjgjaaDoor
