/-
  The walk of figuresOf.
-/
import Derived.Test.YtihdpbdfadpahaaDoorFig
namespace Go.Proofs.YtihdpbdfadpahaaDoor
open Go.RowKit
set_option linter.unusedVariables false

theorem get_f (s : ByteArray) (j : Nat) (h : j < s.size) : s.data.toList[j]? = some s[j] := by
  simp [ByteArray.getElem_eq_getElem_data]

theorem new_cell (w : World) (u : Value) (t : TypeId) (n : Nat) (h : w.heap.size = n) : (w.alloc (.cells #[u] t)).cell? ⟨n, 0, none⟩ = some u := by
  subst h
  simp

/-- what figuresOf leaves -/
def FigPost (w : World) (s : ByteArray) (base : Nat) (e : Ending) (w' : World) : Prop :=
  (vals base s.data.toList = none ∧ e = .returned (.tuple #[.slice none 0 0, .bool false]) ∧ Below w.heap.size w w') ∨
  ∃ vs v, vals base s.data.toList = some vs ∧ e = .returned (.tuple #[v, .bool true]) ∧ OI w.heap.size w w' v vs

def FigRel (w : World) (s : ByteArray) (base g : Nat) (s6 s14 : Value) (wx : World) : Prop :=
  ∃ (k : Nat) (vs : List Nat), k + g = s.size ∧ s14 = .int .i64 k ∧ vs.length = k ∧ OI w.heap.size w wx s6 vs ∧ Hid (vals base s.data.toList = (vals base (s.data.toList.drop k)).map (vs ++ ·))

def FigIn (w : World) (s : ByteArray) (base k : Nat) (b : UInt8) (vs : List Nat) (g : Nat) (s6 s18 : Value) (wx : World) : Prop :=
  ∃ j : Nat, j + g = base ∧ s18 = .int .i64 j ∧ OI w.heap.size w wx s6 vs ∧ Hid (∀ v, v < j → fig v ≠ b)

set_option maxRecDepth 100000 in
set_option maxHeartbeats 1000000 in
theorem figuresOf_any (s : ByteArray) (base : Nat) (w : World) (hs : s.size ≤ 1048576) (hb16 : base ≤ 16) :
    Calls Tryd.prog 17 #[.string s, .int .i64 base] w (FigPost w s base) := by
  obtain ⟨M, hmk, hob⟩ := run_mkI s.size (by omega) w
  go_enter Tryd.func17, Tryd.ntmps17
  go_wp2
  go_step3
  go_wp2
  go_step3
  go_wp2
  clear hmk
  go_loopg [6, 14] s.size (fun g s6 s14 wx => FigRel w s base g s6 s14 wx)
  case atStart => exact ⟨0, [], by omega, rfl, rfl, hob, by unfold Hid; simp⟩
  case round =>
    obtain ⟨k, vs, hkg, rfl, hvl, hown, HI⟩ := hrel
    cases gk with
    | zero =>
      have hkz : ¬ ((k : Int) < (s.size : Int)) := by omega
      have hv : vals base s.data.toList = some vs := by
        have h1 := HI.out
        rw [List.drop_eq_nil_of_le (by rw [Array.length_toList]; show s.size ≤ k; omega)] at h1
        simpa [vals] using h1
      have HV : Hid (vals base s.data.toList = some vs) := hv
      clear hv
      go_wp2
      try rw [Exit.noGoto_ret]
      go_ret2
      exact .inr ⟨vs, _, HV.out, rfl, hown⟩
    | succ g =>
      have hkz : (k : Int) < (s.size : Int) := by omega
      have hlt : k < s.size := by omega
      go_wp2
      go_loopg [6, 18] base (fun g s6 s18 wx => FigIn w s base k s[k] vs g s6 s18 wx)
      case atStart => exact ⟨0, by omega, rfl, hown, by unfold Hid; intro v hv; omega⟩
      case round =>
        obtain ⟨j, hjg, rfl, hown2, HN⟩ := hrel
        cases gk with
        | zero =>
          have hjz : ¬ ((j : Int) < (base : Int)) := by omega
          have hj : j = base := by omega
          go_wp2
          try rw [Exit.noGoto_ret]
          go_ret2
          exact .inl ⟨vals_fail base k _ vs _ (get_f s k hlt) (figV_none base _ (fun v hv => HN.out v (by omega))) HI.out, rfl, hown2.2.1⟩
        | succ g2 =>
          have hjz : (j : Int) < (base : Int) := by omega
          have hix := run_figj j (by omega)
          by_cases hf : fig j = s[k]
          · have hv := vals_step base k j _ vs _ (get_f s k hlt) (figV_some base j _ hb16 (by omega) hf) HI.out
            have HV : Hid (vals base s.data.toList = (vals base (s.data.toList.drop (k + 1))).map ((vs ++ [j]) ++ ·)) := hv
            have hq : (((fig j).toNat : Int) == (s[k].toNat : Int)) = true := by rw [hf]; simp
            clear hv hf
            go_wp2
            go_quiet (fail)
            go_wp2_with (at_builtin; refine wp_appI rfl _ _ rfl w.heap.size w _ vs rfl ((hown2.drewN nq).alloc _) ⟨wr.heap.size, 0, none⟩ j rfl ?c1 ?c2 ?_)
            case c1 => exact new_cell _ _ _ _ rfl
            case c2 => omega
            intro v' w1 hown'
            go_wp2
            go_roundg g
            case measure => omega
            case rel => exact ⟨k + 1, vs ++ [j], by omega, by go_num, by simp; omega, hown', HV.out⟩
          · have hq : (((fig j).toNat : Int) == (s[k].toNat : Int)) = false := by
              rw [beq_eq_false_iff_ne]
              intro h
              exact hf (UInt8.toNat_inj.1 (by omega))
            have HF : Hid (fig j ≠ s[k]) := hf
            clear hf
            go_wp2
            go_quiet (fail)
            go_wp2
            go_roundg g2
            case measure => omega
            case rel =>
              refine ⟨j + 1, by omega, by go_num, hown2.drewN nq, ?_⟩
              intro v hv
              by_cases hvj : v = j
              · rw [hvj]; exact HF.out
              · exact HN.out v (by omega)

end Go.Proofs.YtihdpbdfadpahaaDoor
