/-
  Leaves read of a whole text by the specification, and the walk of the law FnExactReadLeaves: it answers true of every text.
-/
import Derived.Test.YtfojmagcoipbnaaLy
import Derived.Test.YtfojmagcoipbnaaLg
import Derived.Test.YtfojmagcoipbnaaLl
import Derived.Deep.RegionHeld3
namespace Go.Proofs.Ytfojmagcoipbnaa
open Go.RowKit Go.BigFrame Go.Sort
set_option linter.unusedVariables false
set_option linter.unusedSimpArgs false

theorem raw_text {s : ByteArray} {l : List Le} {q : Nat} (h : LV.rawL s 0 = some (l, q)) : q ≤ s.size ∧ (LV.lvL l = s.data.toList ↔ q = s.size) := by
  cases hr : M.readVar s.data.toList 0 with
  | none => rw [LV.rawL_none hr] at h; cases h
  | some y =>
    obtain ⟨n, q0⟩ := y
    obtain ⟨hq0, hN⟩ := read_bound s 0 n q0 hr
    by_cases hn : 24 < n
    · rw [LV.rawL_great hr hn] at h; cases h
    · rw [LV.rawL_at hr hn] at h
      obtain ⟨h1, h2, h3, h4⟩ := LV.leavesF_some hq0 h
      have hc := LV.read_canon (Nat.zero_le _) hr
      have hp := LV.read_past _ _ _ _ hr
      have hL : s.data.toList.length = s.size := Array.length_toList
      have e : LV.lvL l = LV.cutL s.data.toList 0 q := by
        unfold LV.lvL
        rw [h3, ← hc, ← h4, LV.cutL_join _ 0 q0 q (by omega) h1]
      refine ⟨h2, ?_⟩
      rw [e]
      constructor
      · intro he
        have h5 := LV.cutL_len s.data.toList 0 q (by omega) (by omega)
        rw [he] at h5
        omega
      · intro he
        rw [he]
        unfold LV.cutL
        simp only [List.drop_zero, Nat.sub_zero]
        exact List.take_of_length_le (by omega)
theorem text_is {s : ByteArray} {l : List Le} (h : LV.leavesB l = true) : lvT l = s ↔ LV.lvL l = s.data.toList := by
  rw [lvT_yes h]
  constructor
  · intro e; rw [← e]
  · intro e
    exact ByteArray.ext (by rw [e])

end Go.Proofs.Ytfojmagcoipbnaa
