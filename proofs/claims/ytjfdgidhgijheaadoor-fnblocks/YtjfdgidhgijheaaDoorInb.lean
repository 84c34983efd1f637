/-
  A state in bytes.
-/
import Derived.Test.YtjfdgidhgijheaaDoorBegin
import Derived.Test.YtjfdgidhgijheaaDoorHex
namespace Go.Proofs.YtjfdgidhgijheaaDoor
open Go.RowKit Go.BigFrame
set_option linter.unusedVariables false

def be4 (x : UInt32) : List UInt8 := [UInt8.ofNat (x.toNat / 16777216), UInt8.ofNat (x.toNat / 65536), UInt8.ofNat (x.toNat / 256), UInt8.ofNat x.toNat]
def digL (s : Nat → UInt32) (k : Nat) : List UInt8 := (List.range k).flatMap (fun i => be4 (s i))
theorem digL_succ (s : Nat → UInt32) (k : Nat) : digL s (k + 1) = digL s k ++ be4 (s k) := by simp [digL, List.range_succ]
theorem digL_len (s : Nat → UInt32) (k : Nat) : (digL s k).length = 4 * k := by
  induction k with
  | zero => rfl
  | succ k ih => rw [digL_succ, List.length_append, ih]; rfl

theorem run_aggAt {R : Array Value} {s : Nat → UInt32} (hR : AggIs R 8 s) (m : Nat) (hm : m < 8) (W : World) : (Instr.index 40 (.agg R) (.int .i64 (m : Int))).run Tryd.prog W = .ok (.int .u32 ((s m).toNat : Int)) W := by
  have h1 := hR.2 m hm
  simp [Instr.index, run_underlying Tryd.underlying40, asIntOf, go_sem, hm, h1]
theorem four_cells (w : World) (x0 x1 x2 x3 : Int) (X : UInt32) (t : TypeId) (h0 : x0 = (X.toNat : Int) / 16777216 % 256) (h1 : x1 = (X.toNat : Int) / 65536 % 256) (h2 : x2 = (X.toNat : Int) / 256 % 256) (h3 : x3 = (X.toNat : Int) % 256) :
    ∀ j u, (bv (be4 X))[j]? = some u → (w.alloc (.cells #[.int .u8 x0, .int .u8 x1, .int .u8 x2, .int .u8 x3] t)).cell? ((⟨w.heap.size, 0, none⟩ : Addr).add j) = some u := by
  intro j u hj
  obtain ⟨hj', rfl⟩ := bv_get _ _ _ hj
  subst h0 h1 h2 h3
  have h4 : j = 0 ∨ j = 1 ∨ j = 2 ∨ j = 3 := by simp [be4] at hj'; omega
  rcases h4 with rfl | rfl | rfl | rfl <;> simp [Addr.add, be4]
def IR (w w1 : World) (s : Nat → UInt32) (v i : Value) (wr : World) : Prop := ∃ m : Nat, m ≤ 8 ∧ i = .int .i64 m ∧ OB (w.heap.size + 1) w1 wr v (digL s m)

set_option maxRecDepth 100000 in
set_option maxHeartbeats 400000 in
theorem inBytesH_any (Sc : Array Value) (s : Nat → UInt32) (w : World) (hS : AggIs Sc 8 s) :
    Calls Tryd.prog 25 #[.agg Sc] w fun e w' => e = .returned (.string ⟨(digL s 8).toArray⟩) ∧ Below w.heap.size w w' := by
  obtain ⟨M, hmk, hob⟩ := run_mk 32 (by omega) (w.alloc (.cells Sc 40))
  have hmk' : (Instr.makeSlice 22 (.int .i64 0) (.int .i64 32)).run Tryd.prog (w.alloc (.cells Sc 40)) = _ := hmk
  clear hmk
  have ha := (Arr.agg (w := w) (t := 40) hS).alloc (.cells M 5)
  have HA : Hid (Arr ((w.alloc (.cells Sc 40)).alloc (.cells M 5)) w.heap.size 40 8 s) := ha
  clear ha
  go_enter Tryd.func25, Tryd.ntmps25
  go_wp2_with (refine wp_loadArr rfl 40 _ rfl w.heap.size 40 8 s 38 rfl HA.out Tryd.underlying40 size52 ?_; intro R hR)
  have hsz : (w.alloc (.cells Sc 40)).heap.size = w.heap.size + 1 := by simp
  rw [hsz] at hob
  have HOB : Hid (OB (w.heap.size + 1) (w.alloc (.cells Sc 40)) ((w.alloc (.cells Sc 40)).alloc (.cells M 5)) (.slice (some ⟨w.heap.size + 1, 0, none⟩) 0 32) []) := hob
  have HR : Hid (AggIs R 8 s) := hR
  have HB : Hid (Below w.heap.size w (w.alloc (.cells Sc 40))) := (Below.refl _ _).alloc (Nat.le_refl _) _
  clear hob hmk' HA hR hsz
  generalize (w.alloc (.cells Sc 40)).alloc (.cells M 5) = w2 at *
  generalize w.alloc (.cells Sc 40) = w1 at *
  go_loopw [3, 8] (fun v i wr => IR w w1 s v i wr) (fun _ i _ => 8 - (intOf i).toNat)
  case atStart => exact ⟨0, by omega, rfl, HOB.out⟩
  case round =>
    obtain ⟨m, hm, rfl, hown⟩ := hrel
    have hl := digL_len s m
    by_cases hlt : m < 8
    · have hix := run_aggAt HR.out m hlt
      have hD := digL_succ s m
      have hx := H.u32_lt (s m)
      have HD : Hid (digL s (m + 1) = digL s m ++ be4 (s m)) := hD
      clear hD
      generalize s m = X at *
      have i9 : (0 : Int) ≤ (m : Int) := by omega
      go_wp2_with (at_builtin; refine wp_app rfl _ _ rfl (w.heap.size + 1) w1 _ (digL s m) rfl (hown.alloc _) ⟨_, 0, none⟩ 4 4 (be4 X) rfl rfl ?c1 ?c2 ?_)
      case c1 => exact four_cells _ _ _ _ _ X _ (by omega) (by omega) (by omega) (by omega)
      case c2 => omega
      intro v5 w5 hown5
      rw [← HD.out] at hown5
      go_wp2
      go_roundw
      case rel => exact ⟨m + 1, by omega, by go_num, hown5⟩
      case measure => simp [intOf]; omega
    · have hme : m = 8 := by omega
      subst hme
      have hcv := run_str hown
      clear HOB
      go_wp2
      go_ret
      exact ⟨rfl, HB.out.trans (hown.2.1.mono (by omega))⟩
end Go.Proofs.YtjfdgidhgijheaaDoor
