/-
  Plain facts of chains: when there is a next head, what a turned root does, what is left without the first head.
-/
import Derived.Test.YtlpbfafcaleifaaDoorHn
namespace Go.Proofs.YtlpbfafcaleifaaDoor
open Go.RowKit Go.BigFrame Go.Sort
set_option linter.unusedVariables false
set_option linter.unusedSimpArgs false

namespace HV
theorem hash16 {x : Hd} (h : okH x = true) : (hashH x).size = 16 := by
  obtain ⟨_, _, h4, h5⟩ := okH_iff.1 h
  have hp : x.p.size ≤ 16 := by rw [h5]; unfold pw; split <;> omega
  have ht : tagOk 4 [txtH x] = true := by
    unfold tagOk
    simp only [List.length_singleton, List.all_cons, List.all_nil, Bool.and_true]
    rw [decide_eq_true (by omega), decide_eq_true (by rw [txtH_b2, b2T_size]; omega)]
    rfl
  unfold hashH
  rw [if_pos h]
  unfold hashB cutH
  rw [if_pos ht, if_pos (by omega)]
  unfold cutB
  have := digB_size (tagB 4 [txtH x])
  simp [ByteArray.size_extract]
  omega
theorem behind_ok {L : List Hd} {h : Int} {r : ByteArray} (hc : ChOk L h) (hh : 0 ≤ h ∧ h < 3) (hr : r.size = 16) : okH (behind L h r) = decide (L.length < 4) := by
  unfold okH
  congr 1
  refine propext ⟨fun ⟨_, h2, _, _⟩ => ?_, fun h4 => ⟨hh, ?_, hr, ?_⟩⟩
  · have := h2.2
    unfold behind at this
    simp only at this
    omega
  · unfold behind
    simp only
    omega
  · unfold behind
    simp only
    by_cases h0 : L.length = 0
    · have hL : L = [] := List.length_eq_zero_iff.1 h0
      subst hL
      rfl
    · obtain ⟨m, hm⟩ : ∃ m, L.length = m + 1 := ⟨L.length - 1, by omega⟩
      rw [lastP_at hm, hash16 (hc.at m (by omega)).1]
      unfold pw
      rw [if_neg (by omega)]
theorem nx_ok {L : List Hd} {h : Int} {r : ByteArray} (hc : ChOk L h) (hh : 0 ≤ h ∧ h < 3) (hr : r.size = 16) : nxOk L h r = decide (L.length < 4) := by
  unfold nxOk
  rw [chB_iff.2 hc, Bool.true_and, behind_ok hc hh hr]
theorem nx_is {L : List Hd} {h : Int} {r : ByteArray} (hk : nxOk L h r = true) : nxA L h r = behind L h r := by
  unfold nxA
  rw [if_pos hk]
theorem nx_add {L : List Hd} {h : Int} {r : ByteArray} (hc : ChOk L h) (hk : nxOk L h r = true) : chB (L ++ [nxA L h r]) h = true ∧ (nxA L h r).r = r := by
  have hk' := hk
  unfold nxOk at hk'
  rw [Bool.and_eq_true] at hk'
  rw [nx_is hk]
  exact ⟨chB_iff.2 (hc.add hk'.2), rfl⟩
/-- with another head in a place that is not the last the chain stands just when both have one hash -/
theorem turned_chain {L : List Hd} {h : Int} {i : Nat} {Y : Hd} (hc : ChOk L h) (hi : i + 1 < L.length) (hm : chB (L.set i Y) h = true) : hashH Y = hashH (L[i]'(by omega)) := by
  have hm' := chB_iff.1 hm
  have h1 := (hm'.at (i + 1) (by rw [List.length_set]; exact hi)).2.2.2
  have h2 := (hc.at (i + 1) hi).2.2.2
  rw [List.getElem_set_ne (by omega)] at h1
  rw [h2, lastP_at (m := i) (by rw [List.length_take]; omega), lastP_at (m := i) (by rw [List.length_take, List.length_set]; omega)] at h1
  rw [List.getElem_take, List.getElem_take, List.getElem_set_self] at h1
  exact h1.symm
theorem without_first {L : List Hd} {h : Int} (hc : ChOk L h) (hl : 1 < L.length) : chB (L.drop 1) h = false := by
  rw [chB_no]
  intro hd
  have h1 := (hd.at 0 (by rw [List.length_drop]; omega)).2.2.1
  have h2 := (hc.at 1 hl).2.2.1
  rw [List.getElem_drop] at h1
  simp only [Nat.add_zero] at h1
  rw [h2] at h1
  omega
end HV

end Go.Proofs.YtlpbfafcaleifaaDoor
