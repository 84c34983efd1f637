/-
  The program's reader of frames, a function that is handed a yield: it hands over each record with the place behind its frame.
-/
import Derived.Test.YtadikpmecjjgjaaDoorUn
import Derived.Test.YtadikpmecjjgjaaDoorMk
import Derived.RangeFuncNested
import Derived.RangeFuncBox
import Derived.RangeFuncBound
import Derived.RangeFuncCalls
import Derived.RangeFuncLeaves
import Derived.Shelf.Abstract
import Derived.Shelf.RegionOpen
import Derived.OwnWalkIn
import Derived.TacticsInMore
import Derived.LoopNIn
import Derived.LoopIn
import Derived.Maps.AppendAt
namespace Go.Proofs.YtadikpmecjjgjaaDoor
open Go.RowKit Go.Shelf
set_option linter.unusedVariables false
attribute [local go_sem] Oper.semAt_some

abbrev encF (x : ByteArray × Nat) : Array Value := #[.string x.1, .int .i64 (x.2 : Int)]

/-- what a round keeps: all that lay below n, and the box of the file -/
def KpF (n b : Nat) (W W' : World) : Prop := Below n W W' ∧ W'.cell? ⟨b, 0, none⟩ = W.cell? ⟨b, 0, none⟩

theorem readFrame_none (s : ByteArray) (p : Nat) (w : World) (hs : s.size ≤ 1048576) (hp : p ≤ s.size) (hT : Tab w) (h : recAt s p = none) :
    Calls Tryd.prog 68 #[.string s, .int .i64 p] w fun e w' => e = .returned (.tuple #[.string ⟨#[]⟩, .int .i64 0, .bool false]) ∧ Below w.heap.size w w' := by
  have hc := readFrame_any s p w hs hp hT
  rw [h] at hc
  exact hc
theorem readFrame_some (s : ByteArray) (p : Nat) (t : ByteArray) (q : Nat) (w : World) (hs : s.size ≤ 1048576) (hp : p ≤ s.size) (hT : Tab w) (h : recAt s p = some (t, q)) :
    Calls Tryd.prog 68 #[.string s, .int .i64 p] w fun e w' => e = .returned (.tuple #[.string t, .int .i64 q, .bool true]) ∧ Below w.heap.size w w' := by
  have hc := readFrame_any s p w hs hp hT
  rw [h] at hc
  exact hc

set_option maxRecDepth 100000 in
set_option maxHeartbeats 1000000 in
theorem whole_stops (n : Nat) (hn : 1 ≤ n) (s : ByteArray) (hs : s.size ≤ 20000) (Bn n0 : Nat) (w : World) (hBn : Bn < w.heap.size) (hn0 : n0 ≤ w.heap.size) (hg : 1 < n0) (hc : w.cell? ⟨Bn, 0, none⟩ = some (.string s)) (hT : Tab w) :
    SeqStopsK Fence.wide n Tryd.prog 67 #[.pointer (some ⟨Bn, 0, none⟩)] encF (KpF n0 Bn) (fun ys => ys = frames s) (fun _ => True) s.size w := fun l J Jx W hW hJ hJx hY h0 => by
  have hc0 : W.cell? ⟨Bn, 0, none⟩ = some (.string s) := (hW.cell (p := ⟨Bn, 0, none⟩) hBn).trans hc
  have hT0 : Tab W := hT.later hW (by omega)
  refine callsIn_of_wp Tryd.func67 rfl trivial ?_ rfl
  simp only [Tryd.ntmps67, List.size_toArray, List.length_cons, List.length_nil, Nat.reduceAdd, Nat.reduceSub, Array.replicate_succ, Array.replicate_zero, List.push_toArray, List.append_toArray, List.nil_append, List.cons_append]
  gi_wp2
  gi_loopw [3] (fun x wr => ∃ (p : Nat) (pre : List (ByteArray × Nat)), x = .int .i64 (p : Int) ∧ p ≤ s.size ∧ wr.cell? ⟨Bn, 0, none⟩ = some (.string s) ∧ Hid (FI s p pre) ∧ Hid (Tab wr) ∧ Hid (J pre wr) ∧ w.heap.size ≤ wr.heap.size)
    (fun x _ => s.size - (intOf x).toNat)
  case atStart => exact ⟨0, [], rfl, by omega, hc0, FI.start s, hT0, h0, hW.size⟩
  case round =>
    obtain ⟨p, pre, rfl, hp, hcw, HF, HT, HJ, hsz⟩ := hrel
    cases hr : recAt s p with
    | none =>
      have HR : Hid (recAt s p = none) := hr
      clear hr
      gi_wp2_with (refine ⟨trivial, ?_⟩; gi_at_call 68; refine (callsIn_wide.2 (readFrame_none s p _ (by omega) hp HT.out HR.out)).mono ?_; rintro e w1 ⟨rfl, hb1⟩)
      refine ⟨fun _ h => (by cases h), ?_⟩
      gi_wp2
      refine bodyPost_ret (results_none rfl _ _ _) rfl ?_
      exact ⟨⟨_, rfl⟩, .inl ⟨pre, (HF.out.stop HR.out).symm, hJ _ _ _ none HJ.out (grown_below hb1) (fun r e => by cases e)⟩⟩
    | some x =>
      obtain ⟨t, q⟩ := x
      have HR : Hid (recAt s p = some (t, q)) := hr
      obtain ⟨hpq, hq⟩ := recAt_lt hr
      have hlen := HF.out.len
      clear hr
      gi_wp2_with (refine ⟨trivial, ?_⟩; gi_at_call 68; refine (callsIn_wide.2 (readFrame_some s p t q _ (by omega) hp HT.out HR.out)).mono ?_; rintro e w1 ⟨rfl, hb1⟩)
      obtain ⟨fn, tmps, assign, body, hy, hR⟩ := hY pre (t, q) w1 (hJ _ _ _ none HJ.out (grown_below hb1) (fun r e => by cases e)) (by omega)
      dsimp only [encF] at hy
      gi_wp2
      rw [hy]
      trace_state
      gi_wp2
      refine hR.mono ?_
      rintro e W3 (⟨rfl, hJ3, hk3⟩ | ⟨rfl, hJx3⟩)
      · have hcw3 : W3.cell? ⟨Bn, 0, none⟩ = some (.string s) := hk3.2.trans ((hb1.cell (p := ⟨Bn, 0, none⟩) (by show Bn < wr.heap.size; omega)).trans hcw)
        have HT3 : Hid (Tab W3) := (HT.out.later hb1 HT.out.pos).later hk3.1 hg
        have hs3 : w.heap.size ≤ W3.heap.size := Nat.le_trans hsz (Nat.le_trans hb1.size hk3.1.size)
        gi_wp2
        go_roundw
        case rel => exact ⟨q, pre ++ [(t, q)], rfl, hq, hcw3, HF.out.step HR.out, HT3, hJ3, hs3⟩
        case measure => simp [intOf]; omega
      · gi_wp2
        refine bodyPost_ret (results_none rfl _ _ _) rfl ?_
        exact ⟨⟨_, rfl⟩, .inr ⟨pre ++ [(t, q)], trivial, hJx3⟩⟩

theorem wholeFrames_any (s : ByteArray) (w : World) :
    Calls Tryd.prog 55 #[.string s] w fun e w' => e = .returned (.func (.func 67) #[] #[.pointer (some ⟨w.heap.size, 0, none⟩)]) ∧ w' = w.alloc (.cells #[.string s] 9) := by
  have hmf : ∀ (fn : Fn) (first cap : Array Value) (w : World), (Instr.makeFunc fn first cap).run Tryd.prog w = .ok (.func fn first cap) w := fun _ _ _ _ => rfl
  go_enter Tryd.func55, Tryd.ntmps55
  go_wp2
  go_ret
  exact ⟨rfl, rfl⟩

end Go.Proofs.YtadikpmecjjgjaaDoor
