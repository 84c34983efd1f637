/-
  LogActs, the program's and the specification's: both answer the same acts.
-/
import Derived.Test.YtadikpmecjjgjaaDoorLa
import Derived.Test.YtadikpmecjjgjaaDoorAk
namespace Go.Proofs.YtadikpmecjjgjaaDoor
open Go.RowKit
set_option linter.unusedVariables false
set_option linter.unusedSimpArgs false

def laB (s t : ByteArray) : Bool := lnB s && okT t
def laA (s t : ByteArray) : List Ac := if laB s t then logAs s (frB t) else []
theorem laA_len (s t : ByteArray) : (laA s t).length ≤ 2 := by
  unfold laA
  split
  · simp [logAs]
  · simp

theorem ss_one (w : World) (t : ByteArray) : SS (w.alloc (.cells #[.string t] 9)) (.slice (some ⟨w.heap.size, 0, none⟩) 1 1) w.heap.size 0 [t] := by
  refine ⟨_, _, rfl, by simp, fun _ => rfl, fun j hj => ?_⟩
  have : j = 0 := by simpa using hj
  subst this
  simp

theorem addedActs_yes (s t : ByteArray) (w : World) (hs : s.size ≤ 1048576) (ht : t.size ≤ 1048576) (hT : Tab w) (h1 : lnB s = true) (h2 : okT t = true) :
    Calls Tryd.prog 26 #[.string s, .string t] w (AeP w (logAs s (frB t)) .nilIface) := by
  have hp := hT.pos
  have HF : Hid (∀ W, Below w.heap.size w W → Calls Tryd.prog 45 #[.string s, .slice (some ⟨W.heap.size, 0, none⟩) 1 1] (W.alloc (.cells #[.string t] 9)) (AeP (W.alloc (.cells #[.string t] 9)) (logAs s (frB t)) .nilIface)) := fun W hW => by
    have hb := hW.alloc hW.size (.cells #[.string t] 9)
    have h := framedActs_yes s _ _ _ [t] _ (ss_one W t) (by simp) (by simpa using ht) (hT.later hb hp) (by simpa using h2)
    rw [frsB_one] at h
    exact h
  clear hT h2
  go_enter Tryd.func26, Tryd.ntmps26
  go_wp2_with fail
  refine (logNameFault_yes s _ h1).mono ?_
  rintro e w1 ⟨rfl, rfl⟩
  go_wp2_with fail
  refine (strClone_any s _ hs).mono ?_
  rintro e w2 ⟨rfl, hb2⟩
  go_wp2_with fail
  refine (HF.out _ hb2).mono ?_
  rintro e w3 ⟨u, rfl, hu⟩
  have hb3 := hb2.alloc hb2.size (.cells #[.string t] 9)
  go_wp2
  go_ret2
  exact AeP.mk (hu.wide hb3 hb3.size)

theorem addedActs_name (s t : ByteArray) (w : World) (h1 : lnB s = false) :
    Calls Tryd.prog 26 #[.string s, .string t] w (AeP w [] (faultV 2)) := by
  have HC := logNameFault_no s w h1
  unfold faultV at *
  go_enter Tryd.func26, Tryd.ntmps26
  go_wp2_with fail
  refine HC.mono ?_
  rintro e w1 ⟨rfl, hb1⟩
  go_wp2
  go_ret2
  exact AeP.mk ⟨World.ownsRow_nil _ _ _ _, hb1, hb1.size⟩

theorem addedActs_text (s t : ByteArray) (w : World) (hs : s.size ≤ 1048576) (ht : t.size ≤ 1048576) (hT : Tab w) (h1 : lnB s = true) (h2 : okT t = false) :
    Calls Tryd.prog 26 #[.string s, .string t] w (AeP w [] (faultV 4)) := by
  have hp := hT.pos
  have HF : Hid (∀ W, Below w.heap.size w W → Calls Tryd.prog 45 #[.string s, .slice (some ⟨W.heap.size, 0, none⟩) 1 1] (W.alloc (.cells #[.string t] 9)) (AeP (W.alloc (.cells #[.string t] 9)) [] (faultV 4))) := fun W hW => by
    have hb := hW.alloc hW.size (.cells #[.string t] 9)
    exact framedActs_no s _ _ _ [t] _ (ss_one W t) (by simp) (by simpa using ht) (hT.later hb hp) t (by simp) h2
  clear hT h2
  unfold faultV at *
  go_enter Tryd.func26, Tryd.ntmps26
  go_wp2_with fail
  refine (logNameFault_yes s _ h1).mono ?_
  rintro e w1 ⟨rfl, rfl⟩
  go_wp2_with fail
  refine (strClone_any s _ hs).mono ?_
  rintro e w2 ⟨rfl, hb2⟩
  go_wp2_with fail
  refine (HF.out _ hb2).mono ?_
  rintro e w3 ⟨u, rfl, hu⟩
  have hb3 := hb2.alloc hb2.size (.cells #[.string t] 9)
  go_wp2
  go_ret2
  exact AeP.mk (hu.wide hb3 hb3.size)

/-- what becomes of a row of acts and an error -/
theorem LogActs_well (s t : ByteArray) (L : List Ac) (w : World) (hL : L.length ≤ 4) (h : Calls Tryd.prog 26 #[.string s, .string t] w (AeP w L .nilIface)) :
    Calls Tryd.prog 7 #[.string s, .string t] w (AcP w L true) := by
  go_enter Tryd.func7, Tryd.ntmps7
  go_wp2_with fail
  refine h.mono ?_
  rintro e w1 ⟨u, rfl, hu⟩
  go_wp2_with fail
  refine (logCodeOf_nil _).mono ?_
  rintro e w2 ⟨rfl, hb2⟩
  have HU := hu.later hb2
  clear hu hb2
  go_wp2
  go_ret2
  exact AcP.of HU hL
theorem LogActs_fault (s t : ByteArray) (c : Int) (hc : (c == 0) = false) (w : World) (hE : Eh w) (h : Calls Tryd.prog 26 #[.string s, .string t] w (AeP w [] (faultV c))) :
    Calls Tryd.prog 7 #[.string s, .string t] w (AcP w [] false) := by
  have HH : Hid (∀ W, Below w.heap.size w W → Calls Tryd.prog 27 #[.iface 78 (.agg #[.int .i64 c])] W fun e w' => e = .returned (.int .i64 c) ∧ Below W.heap.size W w') := fun W hW => logCodeOf_hit c W (hE.later hW)
  unfold faultV at h
  clear hE
  go_enter Tryd.func7, Tryd.ntmps7
  go_wp2_with fail
  refine h.mono ?_
  rintro e w1 ⟨u, rfl, hu⟩
  go_wp2_with fail
  refine (HH.out _ hu.2.1).mono ?_
  rintro e w2 ⟨rfl, hb2⟩
  have HU := hu.later hb2
  clear hu hb2
  go_wp2
  go_ret2
  exact AcP.of HU (by simp)

theorem LogActs_any (s t : ByteArray) (w : World) (hs : s.size ≤ 1048576) (ht : t.size ≤ 1048576) (hT : Tab w) (hE : Eh w) :
    Calls Tryd.prog 7 #[.string s, .string t] w (AcP w (laA s t) (laB s t)) := by
  cases h1 : lnB s with
  | false =>
    have e : laB s t = false := by simp [laB, h1]
    rw [show laA s t = [] by simp [laA, e], e]
    exact LogActs_fault s t 2 rfl w hE (addedActs_name s t w h1)
  | true =>
    cases h2 : okT t with
    | false =>
      have e : laB s t = false := by simp [laB, h2]
      rw [show laA s t = [] by simp [laA, e], e]
      exact LogActs_fault s t 4 rfl w hE (addedActs_text s t w hs ht hT h1 h2)
    | true =>
      have e : laB s t = true := by simp [laB, h1, h2]
      rw [show laA s t = logAs s (frB t) by simp [laA, e], e]
      exact LogActs_well s t _ w (by simp [logAs]) (addedActs_yes s t w hs ht hT h1 h2)

theorem l08Name_any (s : ByteArray) (w : World) (hs : s.size ≤ 1048576) : Calls Tryd.prog 25 #[.string s] w fun e w' => e = .returned (.bool (lnB s)) ∧ w' = w := by
  obtain ⟨R, hR⟩ : ∃ R, lnB s = R := ⟨_, rfl⟩
  rw [hR]
  cases h1 : F.nmB s with
  | false =>
    have hd : decide ((1 : Int) ≤ (s.size : Int) ∧ (s.size : Int) ≤ 8) = false := by simp [F.nmB] at h1; simp; omega
    have : R = false := by rw [← hR]; simp [lnB, h1]
    subst this
    go_enter Tryd.func25, Tryd.ntmps25
    go_wp2_with fail
    refine (l01In_any _ _ _ _).mono ?_
    rintro e w1 ⟨rfl, rfl⟩
    rw [hd]
    go_wp2
    go_ret
    exact ⟨rfl, rfl⟩
  | true =>
    have hd : decide ((1 : Int) ≤ (s.size : Int) ∧ (s.size : Int) ≤ 8) = true := by simp [F.nmB] at h1; simp; omega
    by_cases h2 : s = newB
    · have h3 := new_eq
      have : R = false := by rw [← hR]; simp [lnB, h2]
      subst this
      subst h2
      go_enter Tryd.func25, Tryd.ntmps25
      go_wp2_with fail
      refine (l01In_any _ _ _ _).mono ?_
      rintro e w1 ⟨rfl, rfl⟩
      rw [hd]
      go_wp2
      go_ret
      exact ⟨rfl, rfl⟩
    · have h3 := new_ne h2
      have : R = true := by rw [← hR]; simp [lnB, h1, h2]
      subst this
      clear h2 hR
      go_enter Tryd.func25, Tryd.ntmps25
      go_wp2_with fail
      refine (l01In_any _ _ _ _).mono ?_
      rintro e w1 ⟨rfl, rfl⟩
      rw [hd]
      go_wp2
      go_ret
      exact ⟨rfl, rfl⟩

theorem act_none (w : World) : OR 50 4 acs w.heap.size w (w.alloc (.cells #[] 50)) (.slice (some ⟨w.heap.size, 0, none⟩) 0 0) [] := act_lit w #[] [] 0 rfl (by omega) rfl

theorem sLogActs_any (s t : ByteArray) (w : World) (hs : s.size ≤ 1048576) (ht : t.size ≤ 1048576) :
    Calls Tryd.prog 6 #[.string s, .string t] w (AcP w (laA s t) (laB s t)) := by
  have HN : Hid (∀ W, Calls Tryd.prog 25 #[.string s] W fun e w' => e = .returned (.bool (lnB s)) ∧ w' = W) := fun W => l08Name_any s W hs
  cases h2 : okT t with
  | false =>
    have e : laB s t = false := by simp [laB, h2]
    have hq : ¬ (1 ≤ t.size ∧ t.size ≤ 9000) := fun h => by rw [okT_iff.2 h] at h2; cases h2
    have HC := sFrame_no t w ht hq
    rw [show laA s t = [] by simp [laA, e], e]
    clear hq h2 e HN
    go_enter Tryd.func6, Tryd.ntmps6
    go_wp2_with fail
    refine HC.mono ?_
    rintro e w1 ⟨rfl, hb1⟩
    go_wp2
    go_ret2
    exact AcP.of ((act_none w1).wide hb1 hb1.size) (by simp)
  | true =>
    have hq := okT_iff.1 h2
    have HC := sFrame_yes t w hq.1 hq.2
    cases h1 : lnB s with
    | false =>
      have e : laB s t = false := by simp [laB, h1]
      rw [show laA s t = [] by simp [laA, e], e]
      rw [h1] at HN
      clear hq h1 h2 e
      go_enter Tryd.func6, Tryd.ntmps6
      go_wp2_with fail
      refine HC.mono ?_
      rintro e w1 ⟨rfl, hb1⟩
      go_wp2_with fail
      refine (HN.out _).mono ?_
      rintro e w2 ⟨rfl, rfl⟩
      go_wp2
      go_ret2
      exact AcP.of ((act_none _).wide hb1 hb1.size) (by simp)
    | true =>
      have e : laB s t = true := by simp [laB, h1, h2]
      rw [show laA s t = logAs s (frB t) by simp [laA, e], e]
      rw [h1] at HN
      clear hq h1 h2 e
      generalize frB t = f at *
      go_enter Tryd.func6, Tryd.ntmps6
      go_wp2_with fail
      refine HC.mono ?_
      rintro e w1 ⟨rfl, hb1⟩
      go_wp2_with fail
      refine (HN.out _).mono ?_
      rintro e w2 ⟨rfl, rfl⟩
      go_wp2
      go_ret2
      exact AcP.of ((act_lit _ _ (logAs s f) 2 rfl (by omega) rfl).wide hb1 hb1.size) (by simp [logAs])

end Go.Proofs.YtadikpmecjjgjaaDoor
