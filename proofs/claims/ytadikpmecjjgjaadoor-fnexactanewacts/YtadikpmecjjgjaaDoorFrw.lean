/-
  What Frame answers, the program's and the specification's, and what the program reads at one place.
-/
import Derived.Test.YtadikpmecjjgjaaDoorFr
import Derived.Deep.RegionHeld3
import Derived.Deep.QuietTactic
import Derived.BigQuiet
namespace Go.Proofs.YtadikpmecjjgjaaDoor
open Go.RowKit
set_option linter.unusedVariables false

theorem varB_le (n : Nat) : (varB n).size ≤ 10 := by
  have h := M.varL_len n
  have e : (varB n).size = (M.varL n).length := by unfold varB; simp [ByteArray.size]
  omega

theorem VarText_B (x : Int) (n : Nat) (w : World) (hx : x = (n : Int)) (hn : n ≤ 1000000000) :
    Calls Tryd.prog 79 #[.int .i64 x] w fun e w' => e = .returned (.tuple #[.string (varB n), .bool true]) ∧ Below w.heap.size w w' := by
  subst hx
  exact VarText_yes n w hn
theorem l01Var_B (x : Int) (n : Nat) (w : World) (hx : x = (n : Int)) (hn : n ≤ 1000000000) :
    Calls Tryd.prog 41 #[.int .i64 x] w fun e w' => e = .returned (.string (varB n)) ∧ Below w.heap.size w w' := by
  subst hx
  exact l01Var_any n w hn

theorem recordSizeOk_any (n : Int) (w : World) : Calls Tryd.prog 76 #[.int .i64 n] w fun e w' => e = .returned (.bool (decide (1 ≤ n ∧ n ≤ 9000))) ∧ w' = w := by
  by_cases h1 : 1 ≤ n
  · by_cases h2 : n ≤ 9000
    · go_enter Tryd.func76, Tryd.ntmps76
      go_wp2
      go_ret
      exact ⟨by simp [h1, h2], rfl⟩
    · go_enter Tryd.func76, Tryd.ntmps76
      go_wp2
      go_ret
      exact ⟨by simp [h2], rfl⟩
  · go_enter Tryd.func76, Tryd.ntmps76
    go_wp2
    go_ret
    exact ⟨by simp; omega, rfl⟩

theorem Tab.drew {w : World} (h : Tab w) : Tab w.drew := fun i hi => h i hi
theorem bytes_ne {a b : ByteArray} (h : ¬ a = b) : (a.toList == b.toList) = false := by
  simp only [beq_eq_false_iff_ne]
  intro he
  apply h
  apply ByteArray.ext
  apply Array.toList_inj.1
  simpa [ByteArray.toList_eq] using he

theorem Frame_no (t : ByteArray) (w : World) (hm : t.size ≤ 1048576) (h : ¬ (1 ≤ t.size ∧ t.size ≤ 9000)) :
    Calls Tryd.prog 69 #[.string t] w fun e w' => e = .returned (.tuple #[.string ⟨#[]⟩, .bool false]) ∧ Below w.heap.size w w' := by
  have hd : decide ((1 : Int) ≤ (t.size : Int) ∧ (t.size : Int) ≤ 9000) = false := by simp; omega
  go_enter Tryd.func69, Tryd.ntmps69
  go_wp2_with fail
  refine (recordSizeOk_any _ _).mono ?_
  rintro e w1 ⟨rfl, rfl⟩
  rw [hd]
  go_wp2
  go_ret2
  exact ⟨rfl, Below.refl _ _⟩

theorem Frame_yes (t : ByteArray) (w : World) (h1 : 1 ≤ t.size) (h2 : t.size ≤ 9000) (hT : Tab w) :
    Calls Tryd.prog 69 #[.string t] w fun e w' => e = .returned (.tuple #[.string (frB t), .bool true]) ∧ Below w.heap.size w w' := by
  have hd : decide ((1 : Int) ≤ (t.size : Int) ∧ (t.size : Int) ≤ 9000) = true := by simp; omega
  have hl := sumN_lt t
  have h4 := fourB_size (sumN t)
  have hv := varB_le t.size
  have hp := hT.pos
  go_enter Tryd.func69, Tryd.ntmps69
  go_wp2_with fail
  refine (recordSizeOk_any _ _).mono ?_
  rintro e w1 ⟨rfl, rfl⟩
  rw [hd]
  go_wp2_with fail
  refine (VarText_B _ t.size _ rfl (by omega)).mono ?_
  rintro e w2 ⟨rfl, hb2⟩
  go_wp2_with fail
  refine (SumOf_any t _ (by omega) (hT.later hb2 hp)).mono ?_
  rintro e w3 ⟨rfl, rfl⟩
  go_wp2_with fail
  refine (inBytes_any (sumN t) _ hl).mono ?_
  rintro e w4 ⟨rfl, hb4⟩
  go_wp2
  go_ret2
  exact ⟨rfl, hb2.trans (hb4.mono hb2.size)⟩

theorem sFrame_no (t : ByteArray) (w : World) (hm : t.size ≤ 1048576) (h : ¬ (1 ≤ t.size ∧ t.size ≤ 9000)) :
    Calls Tryd.prog 24 #[.string t] w fun e w' => e = .returned (.tuple #[.string ⟨#[]⟩, .bool false]) ∧ Below w.heap.size w w' := by
  have hd : decide ((1 : Int) ≤ (t.size : Int) ∧ (t.size : Int) ≤ 9000) = false := by simp; omega
  go_enter Tryd.func24, Tryd.ntmps24
  go_wp2_with fail
  refine (l01In_any _ _ _ _).mono ?_
  rintro e w1 ⟨rfl, rfl⟩
  rw [hd]
  go_wp2
  go_ret2
  exact ⟨rfl, Below.refl _ _⟩

set_option maxRecDepth 100000 in
set_option maxHeartbeats 1000000 in
theorem sFrame_yes (t : ByteArray) (w : World) (h1 : 1 ≤ t.size) (h2 : t.size ≤ 9000) :
    Calls Tryd.prog 24 #[.string t] w fun e w' => e = .returned (.tuple #[.string (frB t), .bool true]) ∧ Below w.heap.size w w' := by
  have hd : decide ((1 : Int) ≤ (t.size : Int) ∧ (t.size : Int) ≤ 9000) = true := by simp; omega
  have hl := sumN_lt t
  have h4 := fourB_size (sumN t)
  have hv := varB_le t.size
  go_enter Tryd.func24, Tryd.ntmps24
  go_wp2_with fail
  refine (l01In_any _ _ _ _).mono ?_
  rintro e w1 ⟨rfl, rfl⟩
  rw [hd]
  go_wp2_with fail
  refine (l01Var_B _ t.size _ rfl (by omega)).mono ?_
  rintro e w2 ⟨rfl, hb2⟩
  go_wp2_with fail
  refine (sSumOf_any t _ (by omega)).mono ?_
  rintro e w3 ⟨rfl, rfl⟩
  go_wp2_with fail
  refine (l02Four_any (sumN t) _ hl).mono ?_
  rintro e w4 ⟨rfl, hb4⟩
  go_wp2
  go_ret2
  exact ⟨rfl, hb2.trans (hb4.mono hb2.size)⟩

/-- the record and its sum, cut out -/
theorem run_rec (s : ByteArray) (q n : Nat) (h : q + 4 + n ≤ s.size) (w : World) :
    (Instr.slice 9 (.string s) (some (.int .i64 ((q : Int) + 4))) (some (.int .i64 ((q : Int) + 4 + (n : Int)))) none).run Tryd.prog w = .ok (.string (piece s (q + 4) n)) w := by
  have h1 := run_piece s (q + 4) n h w
  have e : ((q + 4 : Nat) : Int) = (q : Int) + 4 := by omega
  rw [e] at h1
  exact h1
theorem run_sum (s : ByteArray) (q : Nat) (h : q + 4 ≤ s.size) (w : World) :
    (Instr.slice 9 (.string s) (some (.int .i64 (q : Int))) (some (.int .i64 ((q : Int) + 4))) none).run Tryd.prog w = .ok (.string (piece s q 4)) w := run_piece s q 4 h w

theorem ReadVar_noneN (s : ByteArray) (p : Nat) (w : World) (hs : s.size ≤ 1048576) (hp : p ≤ s.size) (h : M.readVar s.data.toList p = none) :
    Calls Tryd.prog 75 #[.string s, .int .i64 p] w fun e w' => e = .returned (.tuple #[.int .i64 0, .int .i64 0, .bool false]) ∧ w' = w := by
  have hc := ReadVar_in s p w hs hp
  rw [h] at hc
  exact hc
theorem ReadVar_someN (s : ByteArray) (p n q : Nat) (w : World) (hs : s.size ≤ 1048576) (hp : p ≤ s.size) (h : M.readVar s.data.toList p = some (n, q)) :
    Calls Tryd.prog 75 #[.string s, .int .i64 p] w fun e w' => e = .returned (.tuple #[.int .i64 n, .int .i64 q, .bool true]) ∧ w' = w := by
  have hc := ReadVar_in s p w hs hp
  rw [h] at hc
  exact hc

/-- the three results of readFrame -/
def recOut : Option (ByteArray × Nat) → Array Value
  | none => #[.string ⟨#[]⟩, .int .i64 0, .bool false]
  | some (t, q) => #[.string t, .int .i64 q, .bool true]
theorem rec_none {o : Option (ByteArray × Nat)} (h : o = none) : Ending.returned (.tuple #[.string ⟨#[]⟩, .int .i64 0, .bool false]) = .returned (.tuple (recOut o)) := by rw [h]; rfl
theorem rec_some {o : Option (ByteArray × Nat)} {t : ByteArray} {q : Nat} {b : Int} (h : o = some (t, q)) (hb : b = (q : Int)) : Ending.returned (.tuple #[.string t, .int .i64 b, .bool true]) = .returned (.tuple (recOut o)) := by rw [h, hb]; rfl

set_option maxRecDepth 100000 in
set_option maxHeartbeats 1000000 in
theorem readFrame_any (s : ByteArray) (p : Nat) (w : World) (hs : s.size ≤ 1048576) (hp : p ≤ s.size) (hT : Tab w) :
    Calls Tryd.prog 68 #[.string s, .int .i64 p] w fun e w' => e = .returned (.tuple (recOut (recAt s p))) ∧ Below w.heap.size w w' := by
  cases hv : M.readVar s.data.toList p with
  | none =>
    have HR : Hid (recAt s p = none) := recAt_none hv
    have HV : Hid (M.readVar s.data.toList p = none) := hv
    clear hv
    go_enter Tryd.func68, Tryd.ntmps68
    go_wp2_with fail
    refine (ReadVar_noneN s p _ hs hp HV.out).mono ?_
    rintro e w1 ⟨rfl, rfl⟩
    go_wp2
    go_ret3
    exact ⟨rec_none HR.out, Below.refl _ _⟩
  | some x =>
    obtain ⟨n, q⟩ := x
    have HV : Hid (M.readVar s.data.toList p = some (n, q)) := hv
    obtain ⟨hq, hn⟩ := read_bound s p n q hv
    clear hv
    by_cases hz : 1 ≤ n ∧ n ≤ 9000
    · have hd : decide ((1 : Int) ≤ (n : Int) ∧ (n : Int) ≤ 9000) = true := by simp; omega
      by_cases hr : q + 4 + n ≤ s.size
      · have hr' : ¬ ((s.size : Int) - (q : Int) < 4 + (n : Int)) := by omega
        have hrec := run_rec s q n hr
        have hsum := run_sum s q (by omega)
        have hps := piece_size s (q + 4) n
        have hl := sumN_lt (piece s (q + 4) n)
        by_cases he : fourB (sumN (piece s (q + 4) n)) = piece s q 4
        · have HR : Hid (recAt s p = some (piece s (q + 4) n, q + 4 + n)) := recAt_yes HV.out ⟨hz.1, hz.2, hr⟩ he
          clear hz
          go_enter Tryd.func68, Tryd.ntmps68
          go_wp2_with fail
          refine (ReadVar_someN s p n q _ hs hp HV.out).mono ?_
          rintro e w1 ⟨rfl, rfl⟩
          go_wp2_with fail
          refine (recordSizeOk_any _ _).mono ?_
          rintro e w1 ⟨rfl, rfl⟩
          rw [hd]
          go_wp2
          go_region_held3 (fun _ => True) (trivial) ((first | (go_at_call 77; refine (SumOf_any (piece s (q + 4) n) _ (by omega) hT.drew).mono ?_; rintro e w1 ⟨rfl, rfl⟩) | (go_at_call 78; refine (inBytes_any (sumN (piece s (q + 4) n)) _ hl).mono ?_; rintro e w2 ⟨rfl, hb⟩)))
          go_wp2_with fail
          refine (Clone_any _ _ (by omega)).mono ?_
          rintro e w3 ⟨rfl, hb3⟩
          go_wp2
          go_ret3
          have hb' := (Below.refl _ _).drew.trans hb
          exact ⟨rec_some HR.out (by omega), hb'.trans (hb3.mono hb'.size)⟩
        · have HR : Hid (recAt s p = none) := recAt_other HV.out he
          have hne := bytes_ne he
          clear hz he
          go_enter Tryd.func68, Tryd.ntmps68
          go_wp2_with fail
          refine (ReadVar_someN s p n q _ hs hp HV.out).mono ?_
          rintro e w1 ⟨rfl, rfl⟩
          go_wp2_with fail
          refine (recordSizeOk_any _ _).mono ?_
          rintro e w1 ⟨rfl, rfl⟩
          rw [hd]
          go_wp2
          go_region_held3 (fun _ => True) (trivial) ((first | (go_at_call 77; refine (SumOf_any (piece s (q + 4) n) _ (by omega) hT.drew).mono ?_; rintro e w1 ⟨rfl, rfl⟩) | (go_at_call 78; refine (inBytes_any (sumN (piece s (q + 4) n)) _ hl).mono ?_; rintro e w2 ⟨rfl, hb⟩)))
          go_wp2
          go_ret3
          exact ⟨rec_none HR.out, (Below.refl _ _).drew.trans hb⟩
      · have HR : Hid (recAt s p = none) := recAt_no HV.out (by omega)
        have hr' : (s.size : Int) - (q : Int) < 4 + (n : Int) := by omega
        clear hz hr
        go_enter Tryd.func68, Tryd.ntmps68
        go_wp2_with fail
        refine (ReadVar_someN s p n q _ hs hp HV.out).mono ?_
        rintro e w1 ⟨rfl, rfl⟩
        go_wp2_with fail
        refine (recordSizeOk_any _ _).mono ?_
        rintro e w1 ⟨rfl, rfl⟩
        rw [hd]
        go_wp2
        go_ret3
        exact ⟨rec_none HR.out, Below.refl _ _⟩
    · have HR : Hid (recAt s p = none) := recAt_no HV.out (by omega)
      have hd : decide ((1 : Int) ≤ (n : Int) ∧ (n : Int) ≤ 9000) = false := by simp; omega
      clear hz
      go_enter Tryd.func68, Tryd.ntmps68
      go_wp2_with fail
      refine (ReadVar_someN s p n q _ hs hp HV.out).mono ?_
      rintro e w1 ⟨rfl, rfl⟩
      go_wp2_with fail
      refine (recordSizeOk_any _ _).mono ?_
      rintro e w1 ⟨rfl, rfl⟩
      rw [hd]
      go_wp2
      go_ret3
      exact ⟨rec_none HR.out, Below.refl _ _⟩

end Go.Proofs.YtadikpmecjjgjaaDoor
