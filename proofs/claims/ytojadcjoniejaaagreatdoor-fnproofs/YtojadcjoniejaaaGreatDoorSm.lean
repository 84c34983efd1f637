/-
  Two lists of leaves held against one another by the laws.
-/
import Derived.Test.YtojadcjoniejaaaGreatDoorPkJ
import Derived.Lib.QuietBelow
import Derived.Laws.StructEq
namespace Go.Proofs.YtojadcjoniejaaaGreatDoor
open Go.RowKit Go.BigFrame Go.Sort
set_option linter.unusedVariables false
set_option linter.unusedSimpArgs false

/-- two leaves compared as values -/
theorem neqL (a b : ByteArray) (w : World) : (binOp .neq 62 (.agg #[.string a, .string b]) (.agg #[.string a, .string b])).run Tryz.prog w = .ok (.bool false) w := by
  have u9 := Tryz.underlying9
  have a9 := Tryz.isAgg9
  have z9 := Tryz.sizeOf9
  have hS : Tryz.prog.underlying 62 = some (.struct (Tryz.prog.fieldsOf 62)) := by kernel_rfl
  have hp : Tryz.prog.stoodInHeld 62 = false := by kernel_rfl
  rw [run_neq_struct, show (10000 : Nat) = 9999 + 1 from rfl, run_equalIn_agg w 9999 62 _ _ hS hp]
  simp only [Program.fieldsOf, Tryz.underlying62]
  go_simp
theorem guardL : Tryz.prog.eqGuardType Tryz.prog.depth 62 = false := by kernel_rfl

set_option maxRecDepth 100000 in
set_option maxHeartbeats 400000 in
theorem sameLeaves_yes (u v : Value) (ga oa gb ob : Nat) (l : List Le) (w : World) (hu : RS 2 lcs w u ga oa l) (hv : RS 2 lcs w v gb ob l) :
    Calls Tryz.prog 55 #[u, v] w fun e w' => e = .returned (.bool true) ∧ Below w.heap.size w w' := by
  have HU : Hid (RS 2 lcs w u ga oa l) := hu
  have HV : Hid (RS 2 lcs w v gb ob l) := hv
  obtain ⟨a, cap, rfl, hl, hA, _⟩ := hu
  obtain ⟨b, cap2, rfl, _, hB, _⟩ := hv
  obtain ⟨n, hn⟩ : ∃ n, l.length = n := ⟨_, rfl⟩
  have HA : Hid (0 < n → a = some ⟨ga, oa, none⟩ ∧ b = some ⟨gb, ob, none⟩) := by rw [← hn]; exact fun h => ⟨(hA h).1, (hB h).1⟩
  rw [hn] at hl ⊢
  clear hA hB
  have hgd := guardL
  go_enter Tryz.func55, Tryz.ntmps55
  go_wp2
  go_loopw [5] (fun i wr => ElR n w i wr) (fun i _ => n - (intOf i).toNat)
  case atStart => exact ⟨0, by omega, rfl, Below.refl _ _⟩
  case round =>
    obtain ⟨m, hm, rfl, hbel⟩ := hrel
    by_cases hlt : m < n
    · obtain ⟨ea, eb⟩ := HA.out (by omega)
      subst ea
      subst eb
      obtain ⟨c0, c1⟩ := (HU.out.later hbel).leaf m (by omega)
      obtain ⟨e0, e1⟩ := (HV.out.later hbel).leaf m (by omega)
      generalize l[m]'(by omega) = X at *
      have i1 : (m : Int) < (n : Int) := by omega
      have i2 : (0 : Int) ≤ (m : Int) := by omega
      have hneq := neqL X.n X.v
      clear HU HV HA
      go_wp2
      have kq0 := cell_regrown (w := wr) c0
      have kq1 := cell_regrown (w := wr) c1
      have kq3 := cell_regrown (w := wr) e0
      have kq4 := cell_regrown (w := wr) e1
      refine wp_region_quiet_below (by kernel_rfl) (by kernel_rfl) ?_
      repeat (go_big_quiet_step (fail))
      refine wpQuiet_nil ?_
      rintro _ ⟨⟨dq, osq⟩, rfl⟩
      have hb6 := below_regrown (wr) dq osq
      generalize grow (redrawn (wr) dq) osq = w6 at *
      clear kq0 kq1 kq3 kq4
      go_wp2
      go_roundw
      case rel => exact ⟨m + 1, by omega, by go_num, hbel.trans (hb6.mono hbel.size)⟩
      case measure => simp [intOf]; omega
    · have hme : m = n := by omega
      subst hme
      clear HU HV HA
      go_wp2
      go_ret
      exact ⟨rfl, hbel⟩

end Go.Proofs.YtojadcjoniejaaaGreatDoor
