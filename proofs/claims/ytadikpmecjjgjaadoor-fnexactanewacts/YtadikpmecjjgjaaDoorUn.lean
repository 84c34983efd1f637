/-
  What the specification's Unframe answers: the records of the whole frames that the file begins with.
-/
import Derived.Test.YtadikpmecjjgjaaDoorFrw
import Derived.Test.YtadikpmecjjgjaaDoorOs
namespace Go.Proofs.YtadikpmecjjgjaaDoor
open Go.RowKit
set_option linter.unusedVariables false

def framesOf (s : ByteArray) : List (ByteArray × Nat) := if s.size ≤ 20000 then frames s else []
theorem framesOf_big {s : ByteArray} (h : 20000 < s.size) : framesOf s = [] := if_neg (by omega)
theorem framesOf_small {s : ByteArray} (h : s.size ≤ 20000) : framesOf s = frames s := if_pos h

/-- what Unframe leaves -/
def UnP (w : World) (s : ByteArray) (e : Ending) (w' : World) : Prop := ∃ v, e = .returned (.tuple #[v, .int .i64 ((endOf (framesOf s) : Nat) : Int)]) ∧ OS w.heap.size w w' v (textsOf (framesOf s))
theorem UnP.stop {w w' : World} {s : ByteArray} {p : Nat} {pre : List (ByteArray × Nat)} {v : Value} (hs : s.size ≤ 20000) (h : FI s p pre) (hr : recAt s p = none) (ho : OS w.heap.size w w' v (textsOf pre)) : UnP w s (.returned (.tuple #[v, .int .i64 (p : Int)])) w' := by
  refine ⟨v, ?_, ?_⟩
  · rw [framesOf_small hs, h.stop hr, h.ends]
  · rw [framesOf_small hs, h.stop hr]
    exact ho

theorem UnP.big {w w' : World} {s : ByteArray} {v : Value} (h : framesOf s = []) (ho : OS w.heap.size w w' v []) : UnP w s (.returned (.tuple #[v, .int .i64 0])) w' := by
  refine ⟨v, ?_, ?_⟩
  · rw [h]; rfl
  · rw [h]; exact ho

theorem sReadVar_noneN (s : ByteArray) (p : Nat) (w : World) (hs : s.size ≤ 1048576) (hp : p ≤ s.size) (h : M.readVar s.data.toList p = none) :
    Calls Tryd.prog 51 #[.string s, .int .i64 p] w fun e w' => e = .returned (.tuple #[.int .i64 0, .int .i64 0, .bool false]) ∧ Below w.heap.size w w' := by
  have hc := sReadVar_in s p w hs hp
  rw [h] at hc
  exact hc
theorem sReadVar_someN (s : ByteArray) (p n q : Nat) (w : World) (hs : s.size ≤ 1048576) (hp : p ≤ s.size) (h : M.readVar s.data.toList p = some (n, q)) :
    Calls Tryd.prog 51 #[.string s, .int .i64 p] w fun e w' => e = .returned (.tuple #[.int .i64 n, .int .i64 q, .bool true]) ∧ Below w.heap.size w w' := by
  have hc := sReadVar_in s p w hs hp
  rw [h] at hc
  exact hc

def cutB (s : ByteArray) (b k : Nat) : ByteArray := s.extract b k
theorem run_frame (s : ByteArray) (p q n : Nat) (hp : p ≤ q) (h : q + 4 + n ≤ s.size) (w : World) :
    (Instr.slice 9 (.string s) (some (.int .i64 (p : Int))) (some (.int .i64 ((q : Int) + 4 + (n : Int)))) none).run Tryd.prog w = .ok (.string (cutB s p (q + 4 + n))) w := by
  rw [run_slice_string w 9 s .i64 .i64 _ _ Tryd.underlying9 (by omega) (by omega) (by omega)]
  have e : ((q : Int) + 4 + (n : Int)).toNat = q + 4 + n := by omega
  rw [e]
  rfl

def URel (w : World) (s : ByteArray) (v x : Value) (wr : World) : Prop :=
  ∃ (p : Nat) (pre : List (ByteArray × Nat)), x = .int .i64 (p : Int) ∧ p ≤ s.size ∧ OS w.heap.size w wr v (textsOf pre) ∧ Hid (FI s p pre)

theorem new_text (w : World) (t : ByteArray) : (w.alloc (.cells #[.string t] 9)).cell? ⟨w.heap.size, 0, none⟩ = some (.string t) := by simp

set_option maxRecDepth 100000 in
set_option maxHeartbeats 2000000 in
theorem sUnframe_any (s : ByteArray) (w : World) (hm : s.size ≤ 1048576) : Calls Tryd.prog 33 #[.string s] w (UnP w s) := by
  by_cases hl : 20000 < s.size
  · have HB : Hid (framesOf s = []) := framesOf_big hl
    go_enter Tryd.func33, Tryd.ntmps33
    go_wp2
    go_ret2
    exact UnP.big HB.out (OS.made w)
  · go_enter Tryd.func33, Tryd.ntmps33
    go_wp2
    go_loopw [4, 5] (fun v x wr => URel w s v x wr) (fun _ x _ => s.size - (intOf x).toNat)
    case atStart => exact ⟨0, [], rfl, by omega, OS.made w, FI.start s⟩
    case round =>
      obtain ⟨p, pre, rfl, hp, hown, HF⟩ := hrel
      by_cases hlt : p < s.size
      · cases hv : M.readVar s.data.toList p with
        | none =>
          have HV : Hid (M.readVar s.data.toList p = none) := hv
          clear hv
          go_wp2_with fail
          refine (sReadVar_noneN s p _ (by omega) hp HV.out).mono ?_
          rintro e w1 ⟨rfl, hb1⟩
          have ho1 := hown.later hb1
          go_wp2
          go_ret2
          exact UnP.stop (by omega) HF.out (recAt_none HV.out) ho1
        | some x =>
          obtain ⟨n, q⟩ := x
          have HV : Hid (M.readVar s.data.toList p = some (n, q)) := hv
          obtain ⟨hq, hn⟩ := read_bound s p n q hv
          have hpq := read_past _ _ _ _ hv
          clear hv
          by_cases hr : q + 4 + n ≤ s.size
          · have hr' : ¬ ((s.size : Int) - (q : Int) - 4 < (n : Int)) := by omega
            have hrec := run_rec s q n hr
            have hcut := run_frame s p q n (by omega) hr
            have hps := piece_len s (q + 4) n hr
            have HPS : Hid ((piece s (q + 4) n).size = n) := hps
            clear hps
            by_cases hz : 1 ≤ n ∧ n ≤ 9000
            · obtain ⟨hz1, hz2⟩ := hz
              by_cases he : fourB (sumN (piece s (q + 4) n)) = piece s q 4
              · have HR : Hid (recAt s p = some (piece s (q + 4) n, q + 4 + n)) := recAt_yes HV.out ⟨hz1, hz2, hr⟩ he
                have hfr : cutB s p (q + 4 + n) = frB (piece s (q + 4) n) := ((frame_iff hp HV.out hr).2 he).symm
                rw [hfr] at hcut
                clear hfr he
                generalize hX : piece s (q + 4) n = X at *
                have HX : Hid (piece s (q + 4) n = X) := hX
                clear hX
                go_wp2_with fail
                refine (sReadVar_someN s p n q _ (by omega) hp HV.out).mono ?_
                rintro e w1 ⟨rfl, hb1⟩
                have ho1 := hown.later hb1
                go_wp2_with fail
                refine (sFrame_yes X _ (by rw [HPS.out]; exact hz1) (by rw [HPS.out]; exact hz2)).mono ?_
                rintro e w2 ⟨rfl, hb2⟩
                have ho2 := ho1.later hb2
                have hlen := HF.out.len
                go_wp2_with (at_builtin; refine wp_appS rfl _ _ rfl w.heap.size w _ (textsOf pre) rfl (ho2.alloc _) ⟨w2.heap.size, 0, none⟩ X rfl ?c1 ?c2 ?_)
                case c1 => exact new_text _ _
                case c2 => rw [textsOf_len]; omega
                intro v' w3 hown'
                go_wp2
                go_roundw
                case rel => exact ⟨q + 4 + n, pre ++ [(X, q + 4 + n)], by go_num, hr, by rw [textsOf_snoc]; exact hown', HF.out.step HR.out⟩
                case measure => simp [intOf]; omega
              · have HR : Hid (recAt s p = none) := recAt_other HV.out he
                have hne : ¬ frB (piece s (q + 4) n) = cutB s p (q + 4 + n) := fun h => he ((frame_iff hp HV.out hr).1 h)
                have hnb := bytes_ne hne
                clear hne he
                go_wp2_with fail
                refine (sReadVar_someN s p n q _ (by omega) hp HV.out).mono ?_
                rintro e w1 ⟨rfl, hb1⟩
                have ho1 := hown.later hb1
                go_wp2_with fail
                refine (sFrame_yes _ _ (by rw [HPS.out]; exact hz1) (by rw [HPS.out]; exact hz2)).mono ?_
                rintro e w2 ⟨rfl, hb2⟩
                have ho2 := ho1.later hb2
                go_wp2
                go_ret2
                exact UnP.stop (by omega) HF.out HR.out ho2
            · have HR : Hid (recAt s p = none) := recAt_no HV.out (fun h => hz ⟨h.1, h.2.1⟩)
              have HZ : Hid (¬ (1 ≤ (piece s (q + 4) n).size ∧ (piece s (q + 4) n).size ≤ 9000)) := by unfold Hid; rw [HPS.out]; exact hz
              clear hz
              go_wp2_with fail
              refine (sReadVar_someN s p n q _ (by omega) hp HV.out).mono ?_
              rintro e w1 ⟨rfl, hb1⟩
              have ho1 := hown.later hb1
              go_wp2_with fail
              refine (sFrame_no _ _ (by rw [HPS.out]; omega) HZ.out).mono ?_
              rintro e w2 ⟨rfl, hb2⟩
              have ho2 := ho1.later hb2
              go_wp2
              go_ret2
              exact UnP.stop (by omega) HF.out HR.out ho2
          · have hr' : (s.size : Int) - (q : Int) - 4 < (n : Int) := by omega
            have HR : Hid (recAt s p = none) := recAt_no HV.out (fun h => hr h.2.2)
            clear hr
            go_wp2_with fail
            refine (sReadVar_someN s p n q _ (by omega) hp HV.out).mono ?_
            rintro e w1 ⟨rfl, hb1⟩
            have ho1 := hown.later hb1
            go_wp2
            go_ret2
            exact UnP.stop (by omega) HF.out HR.out ho1
      · have hpe : p = s.size := by omega
        subst hpe
        have HR : Hid (recAt s s.size = none) := recAt_end s
        go_wp2
        go_ret2
        exact UnP.stop (by omega) HF.out HR.out hown

end Go.Proofs.YtadikpmecjjgjaaDoor
