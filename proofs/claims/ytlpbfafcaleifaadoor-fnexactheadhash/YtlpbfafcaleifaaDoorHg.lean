/-
  The hash of a head: the program's and the specification's answers.
-/
import Derived.Test.YtlpbfafcaleifaaDoorHe
import Derived.Test.YtlpbfafcaleifaaDoorTbl
namespace Go.Proofs.YtlpbfafcaleifaaDoor
open Go.RowKit Go.BigFrame Go.Sort
set_option linter.unusedVariables false
set_option linter.unusedSimpArgs false

/-- the hash of a head, when it is right -/
def HV.hashH (x : Hd) : ByteArray := if HV.okH x = true then hashB 4 [HV.txtH x] 16 else ⟨#[]⟩

set_option maxRecDepth 100000 in
set_option maxHeartbeats 1000000 in
theorem HeadHash_any (x : Hd) (w : World) (hT : Tb w) : Calls Tryd.prog 24 #[.agg #[.int .i64 x.h, .int .i64 x.e, .string x.r, .string x.p]] w fun e w' => e = .returned (.string (HV.hashH x)) ∧ Below w.heap.size w w' := by
  have HC : Hid (∀ W, Calls Tryd.prog 18 #[.agg #[.int .i64 x.h, .int .i64 x.e, .string x.r, .string x.p]] W fun e w' => e = .returned (.tuple #[.string (HV.textH x), .bool (HV.okH x)]) ∧ Below W.heap.size W w') := fun W => HeadText_any x W
  have HTB : Hid (Tb w) := hT
  unfold HV.hashH
  unfold HV.textH at HC
  clear hT
  generalize HV.txtH x = t at *
  generalize HV.okH x = b at *
  obtain ⟨h, e, r, p⟩ := x
  have HB : Hid (Below w.heap.size w (w.alloc (.cells #[.int .i64 h, .int .i64 e, .string r, .string p] 33))) := (Below.refl _ _).alloc (Nat.le_refl _) _
  cases b
  · rw [if_neg (by simp)] at HC ⊢
    go_enter Tryd.func24, Tryd.ntmps24
    go_wp2_with fail
    refine (HC.out _).mono ?_
    rintro e1 w1 ⟨rfl, hb1⟩
    have HB1 : Hid (Below w.heap.size w w1) := HB.out.trans (hb1.mono HB.out.size)
    clear HC hb1 HB HTB
    go_wp2
    go_ret
    exact ⟨rfl, HB1.out⟩
  · rw [if_pos rfl] at HC ⊢
    go_enter Tryd.func24, Tryd.ntmps24
    go_wp2_with fail
    refine (HC.out _).mono ?_
    rintro e1 w1 ⟨rfl, hb1⟩
    have HB1 : Hid (Below w.heap.size w w1) := HB.out.trans (hb1.mono HB.out.size)
    have CT := taggedHash_w 16 4 [t] 1 #[.string t] w1 w1.heap.size rfl rfl (by omega) rfl (HTB.out.later HB1.out)
    clear HC hb1 HB HTB
    go_wp2_with fail
    refine CT.out.mono ?_
    rintro e2 w2 ⟨rfl, hb2⟩
    have HB2 : Hid (Below w.heap.size w w2) := HB1.out.trans (hb2.mono HB1.out.size)
    clear CT
    go_wp2
    go_ret
    exact ⟨rfl, HB2.out⟩

set_option maxRecDepth 100000 in
set_option maxHeartbeats 1000000 in
theorem sHeadHash_any (x : Hd) (w : World) : Calls Tryd.prog 16 #[.agg #[.int .i64 x.h, .int .i64 x.e, .string x.r, .string x.p]] w fun e w' => e = .returned (.string (HV.hashH x)) ∧ Below w.heap.size w w' := by
  have HC : Hid (∀ W, Calls Tryd.prog 42 #[.agg #[.int .i64 x.h, .int .i64 x.e, .string x.r, .string x.p]] W fun e w' => e = .returned (.tuple #[.string (HV.textH x), .bool (HV.okH x)]) ∧ Below W.heap.size W w') := fun W => sHeadText_any x W
  unfold HV.hashH
  unfold HV.textH at HC
  generalize HV.txtH x = t at *
  generalize HV.okH x = b at *
  obtain ⟨h, e, r, p⟩ := x
  have HB : Hid (Below w.heap.size w (w.alloc (.cells #[.int .i64 h, .int .i64 e, .string r, .string p] 33))) := (Below.refl _ _).alloc (Nat.le_refl _) _
  cases b
  · rw [if_neg (by simp)] at HC ⊢
    go_enter Tryd.func16, Tryd.ntmps16
    go_wp2_with fail
    refine (HC.out _).mono ?_
    rintro e1 w1 ⟨rfl, hb1⟩
    have HB1 : Hid (Below w.heap.size w w1) := HB.out.trans (hb1.mono HB.out.size)
    clear HC hb1 HB
    go_wp2
    go_ret
    exact ⟨rfl, HB1.out⟩
  · rw [if_pos rfl] at HC ⊢
    go_enter Tryd.func16, Tryd.ntmps16
    go_wp2_with fail
    refine (HC.out _).mono ?_
    rintro e1 w1 ⟨rfl, hb1⟩
    have HB1 : Hid (Below w.heap.size w w1) := HB.out.trans (hb1.mono HB.out.size)
    have CT := sTagHash_w 16 4 [t] 1 #[.string t] w1 w1.heap.size rfl rfl (by omega) rfl
    clear HC hb1 HB
    go_wp2_with fail
    refine CT.out.mono ?_
    rintro e2 w2 ⟨rfl, hb2⟩
    have HB2 : Hid (Below w.heap.size w w2) := HB1.out.trans (hb2.mono HB1.out.size)
    clear CT
    go_wp2
    go_ret
    exact ⟨rfl, HB2.out⟩

end Go.Proofs.YtlpbfafcaleifaaDoor
