/-
  Leaves read of a whole text by the specification, and the walk of the law FnExactReadLeaves: it answers true of every text.
-/
import Derived.Test.YtofdlkfihhjlgaaDoorLy
import Derived.Test.YtofdlkfihhjlgaaDoorLg
import Derived.Test.YtofdlkfihhjlgaaDoorLl
import Derived.Deep.RegionHeld3
namespace Go.Proofs.YtofdlkfihhjlgaaDoor
open Go.RowKit Go.BigFrame Go.Sort
set_option linter.unusedVariables false
set_option linter.unusedSimpArgs false

theorem raw_text {s : ByteArray} {l : List Le} {q : Nat} (h : LV.rawL s 0 = some (l, q)) : q ≤ s.size ∧ (LV.lvL l = s.data.toList ↔ q = s.size) := by
  cases hr : M.readVar s.data.toList 0 with
  | none => rw [LV.rawL_none hr] at h; cases h
  | some y =>
    obtain ⟨n, q0⟩ := y
    obtain ⟨hq0, hN⟩ := read_bound s 0 n q0 hr
    by_cases hn : 24 < n
    · rw [LV.rawL_great hr hn] at h; cases h
    · rw [LV.rawL_at hr hn] at h
      obtain ⟨h1, h2, h3, h4⟩ := LV.leavesF_some hq0 h
      have hc := LV.read_canon (Nat.zero_le _) hr
      have hp := LV.read_past _ _ _ _ hr
      have hL : s.data.toList.length = s.size := Array.length_toList
      have e : LV.lvL l = LV.cutL s.data.toList 0 q := by
        unfold LV.lvL
        rw [h3, ← hc, ← h4, LV.cutL_join _ 0 q0 q (by omega) h1]
      refine ⟨h2, ?_⟩
      rw [e]
      constructor
      · intro he
        have h5 := LV.cutL_len s.data.toList 0 q (by omega) (by omega)
        rw [he] at h5
        omega
      · intro he
        rw [he]
        unfold LV.cutL
        simp only [List.drop_zero, Nat.sub_zero]
        exact List.take_of_length_le (by omega)
theorem text_is {s : ByteArray} {l : List Le} (h : LV.leavesB l = true) : lvT l = s ↔ LV.lvL l = s.data.toList := by
  rw [lvT_yes h]
  constructor
  · intro e; rw [← e]
  · intro e
    exact ByteArray.ext (by rw [e])

set_option maxRecDepth 100000 in
set_option maxHeartbeats 1000000 in
theorem sReadLeaves_any (s : ByteArray) (w : World) (hs : s.size ≤ 1048576) : Calls Tryd.prog 13 #[.string s] w (RxP s w) := by
  have hb0 : Below w.heap.size w (w.alloc (.cells #[.string s, .int .i64 0, .bool false] 68)) := (Below.refl _ _).alloc (Nat.le_refl _) _
  have h1 := l09Leaves_at w.heap.size s w.heap.size w _ (show Cu (w.alloc (.cells #[.string s, .int .i64 0, .bool false] 68)) w.heap.size s 0 false from Go.heap_alloc_new w _) (Nat.le_refl _) hb0 hs
  clear hb0
  go_enter Tryd.func13, Tryd.ntmps13
  go_wp2_with fail
  refine h1.mono ?_
  rintro e w1 ⟨u, l, q, b, rfl, ho, hc, hl30, hsz, hbt, hbf⟩
  obtain ⟨g, hrw, hg, _⟩ := ho.rw (by omega)
  have hsm : SmallL l := fun f hf => by have := hsz f hf; omega
  have h2 := sLeavesText_any u g 0 l w1 hrw.1 hsm
  have HB1 : Hid (Below w.heap.size w w1) := ho.2.1
  obtain ⟨au, cu, rfl⟩ := ho.shape
  have HRW : Hid (RW 2 lcs w1 (.slice au l.length cu) g l) := hrw
  have HC : Hid (Cu w1 w.heap.size s q b) := hc
  clear h1 ho hc hrw hsz hsm
  cases b with
  | true =>
    have HE : Hid (∀ a c W, Below w.heap.size w W → RxP s w (.returned (.tuple #[.slice a 0 c, .bool false])) W) := fun a c W hW => RxP.no (rd_none (hbt rfl)).1 (rd_none (hbt rfl)).2 c a hW
    generalize lvT l = T at *
    generalize LV.leavesB l = R at *
    clear hbt hbf
    go_wp2_with fail
    refine h2.mono ?_
    rintro e w2 ⟨rfl, hb2⟩
    have b2 := HB1.out.trans (hb2.mono HB1.out.size)
    have hb3 : Below w.heap.size w (w2.alloc (.cells #[] 54)) := b2.alloc b2.size _
    have d2 := (HC.out.later hb2).c2
    have hcl := (HC.out.later hb2).lt
    clear hb2 h2 HC HRW
    go_wp2
    go_ret2
    exact HE.out _ _ _ hb3
  | false =>
    cases hR : LV.leavesB l with
    | false =>
      have hrd : LV.rdB s = false ∧ LV.rdL s = [] := by
        rcases hbf rfl with ⟨h, _⟩ | h
        · exact rd_none h
        · have h3 := rd_some h
          rw [hR, Bool.and_false] at h3
          exact ⟨h3.1, h3.2.trans (if_neg (by simp))⟩
      have HE : Hid (∀ a c W, Below w.heap.size w W → RxP s w (.returned (.tuple #[.slice a 0 c, .bool false])) W) := fun a c W hW => RxP.no hrd.1 hrd.2 c a hW
      rw [hR] at h2
      generalize lvT l = T at *
      clear hbt hbf hrd hR
      go_wp2_with fail
      refine h2.mono ?_
      rintro e w2 ⟨rfl, hb2⟩
      have b2 := HB1.out.trans (hb2.mono HB1.out.size)
      have hb3 : Below w.heap.size w (w2.alloc (.cells #[] 54)) := b2.alloc b2.size _
      have d2 := (HC.out.later hb2).c2
      have hcl := (HC.out.later hb2).lt
      clear hb2 h2 HC HRW
      go_wp2
      go_ret2
      exact HE.out _ _ _ hb3
    | true =>
      have hraw : LV.rawL s 0 = some (l, q) := by
        rcases hbf rfl with ⟨_, h⟩ | h
        · have := (LV.leavesB_iff.1 hR).1
          omega
        · exact h
      have ht := raw_text hraw
      have hti := text_is (s := s) hR
      obtain ⟨hB, hL⟩ := rd_some hraw
      rw [hR, Bool.and_true] at hB hL
      rw [hR] at h2
      by_cases hq : q = s.size
      · rw [decide_eq_true hq] at hB hL
        have hL' : LV.rdL s = l := hL.trans (if_pos rfl)
        have hT : lvT l = s := hti.2 (ht.2.2 hq)
        have HE : Hid (∀ W, Below w1.heap.size w1 W → RxP s w (.returned (.tuple #[.slice au l.length cu, .bool true])) W) := fun W hW => by
          unfold RxP
          rw [hB, hL']
          exact ⟨_, _, g, rfl, HRW.out.later hW, hg, HB1.out.trans (hW.mono HB1.out.size)⟩
        rw [hT] at h2
        clear hbt hbf hR hraw ht hti hB hL hL' hT hq HRW
        go_wp2_with fail
        refine h2.mono ?_
        rintro e w2 ⟨rfl, hb2⟩
        have hF := HE.out _ hb2
        have d2 := (HC.out.later hb2).c2
        have hcl := (HC.out.later hb2).lt
        clear hb2 h2 HC HB1
        go_wp2
        go_ret2
        exact hF
      · rw [decide_eq_false hq] at hB hL
        have hT : lvT l ≠ s := fun e => hq (ht.2.1 (hti.1 e))
        have HE : Hid (∀ a c W, Below w.heap.size w W → RxP s w (.returned (.tuple #[.slice a 0 c, .bool false])) W) := fun a c W hW => RxP.no hB (hL.trans (if_neg (by simp))) c a hW
        have hne : ((lvT l).toList == s.toList) = false := LV.bytes_ne hT
        generalize lvT l = T at *
        clear hbt hbf hR hraw ht hti hB hL hq hT HRW
        go_wp2_with fail
        refine h2.mono ?_
        rintro e w2 ⟨rfl, hb2⟩
        have b2 := HB1.out.trans (hb2.mono HB1.out.size)
        have hb3 : Below w.heap.size w (w2.alloc (.cells #[] 54)) := b2.alloc b2.size _
        have d2 := (HC.out.later hb2).c2
        have hcl := (HC.out.later hb2).lt
        clear hb2 h2 HC
        go_wp2
        go_ret2
        exact HE.out _ _ _ hb3

end Go.Proofs.YtofdlkfihhjlgaaDoor
