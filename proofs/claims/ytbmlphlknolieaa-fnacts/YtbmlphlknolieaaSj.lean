/-
  An act on a disk, as the specification does it: all cases.
-/
import Derived.Test.YtbmlphlknolieaaSm
namespace Go.Proofs.Ytbmlphlknolieaa
open Go.RowKit
set_option linter.unusedVariables false

theorem sDoAct_any (v : Value) (ga oa : Nat) (L : List Fl) (a : Ac) (w : World) (hv : RS 3 fcs w v ga oa L) (ha : SmallA a) :
    Calls Try.prog 34 #[.agg #[v], .agg #[.int .i64 a.k, .string a.n, .string a.t, .string a.o]] w fun e w' => ∃ u, e = .returned (.tuple #[u, .bool (F.actR L a).isSome]) ∧ DkIn w' w.heap.size u ((F.actR L a).getD []) ∧ Below w.heap.size w w' := by
  obtain ⟨k, y, t, o⟩ := a
  obtain ⟨x, cap, rfl, hl, hA, hz⟩ := id hv
  show Calls Try.prog 34 #[.agg #[.slice x L.length cap], .agg #[.int .i64 k, .string y, .string t, .string o]] w _
  rcases hd : F.diskB L with _ | _
  · exact sDoAct_no1 x _ cap ga oa L k y t o w rfl hv ha hd
  rcases hy : F.nmB y with _ | _
  · exact sDoAct_no2 x _ cap ga oa L k y t o w rfl hv ha hd hy
  by_cases ho : k ≠ 3 ∧ o.size ≠ 0
  · exact sDoAct_no3 x _ cap ga oa L k y t o w rfl hv ha hd hy ho.1 ho.2
  have hok : k = 3 ∨ o.size = 0 := by
    by_cases h : k = 3
    · exact .inl h
    · exact .inr (by by_cases h' : o.size = 0; exact h'; exact (ho ⟨h, h'⟩).elim)
  by_cases ht : k ≠ 1 ∧ t.size ≠ 0
  · exact sDoAct_no4 x _ cap ga oa L k y t o w rfl hv ha hd hy hok ht.1 ht.2
  cases hf : F.find L y with
  | none =>
    by_cases h1 : k = 1
    · have ho' : o.size = 0 := hok.resolve_left (by omega)
      cases hM : F.diskB (F.put L ⟨y, t, 0⟩) with
      | true => exact sDoAct_new1 x _ cap ga oa L k y t o w rfl hv ha hd hy h1 hf ho' hM
      | false => exact sDoAct_new0 x _ cap ga oa L k y t o w rfl hv ha hd hy h1 hf ho' hM
    · have ht' : t.size = 0 := by by_cases h' : t.size = 0; exact h'; exact (ht ⟨h1, h'⟩).elim
      exact sDoAct_none x _ cap ga oa L k y t o w rfl hv ha hd hy h1 hf ht' hok
  | some f =>
    have hpos : 0 < L.length := List.length_pos_of_mem (F.find_some hf).1
    obtain ⟨rfl, _⟩ := hA hpos
    by_cases h1 : k = 1
    · have ho' : o.size = 0 := hok.resolve_left (by omega)
      cases hM : F.diskB (F.put L ⟨f.n, f.t ++ t, f.k⟩) with
      | true => exact sDoAct_more1 _ cap ga oa L k y t o w rfl hv ha f hd hy h1 hf ho' hM
      | false => exact sDoAct_more0 _ cap ga oa L k y t o w rfl hv ha f hd hy h1 hf ho' hM
    have ht' : t.size = 0 := by by_cases h' : t.size = 0; exact h'; exact (ht ⟨h1, h'⟩).elim
    by_cases h3 : k = 3
    · by_cases q1 : f.k < (f.t.size : Int)
      · exact sDoAct_mv0 _ cap ga oa L k y t o w rfl hv ha f hd hy h3 hf ht' q1
      by_cases q2 : o = y
      · exact sDoAct_mv1 _ cap ga oa L k y t o w rfl hv ha f hd hy h3 hf ht' q1 q2
      cases q3 : F.nmB o with
      | false => exact sDoAct_mv2 _ cap ga oa L k y t o w rfl hv ha f hd hy h3 hf ht' q1 q2 q3
      | true => exact sDoAct_mv3 _ cap ga oa L k y t o w rfl hv ha f hd hy h3 hf ht' q1 q2 q3
    have ho' : o.size = 0 := hok.resolve_left h3
    by_cases h2 : k = 2
    · exact sDoAct_keep _ cap ga oa L k y t o w rfl hv ha f hd hy h2 hf ht' ho'
    by_cases h4 : k = 4
    · exact sDoAct_drop _ cap ga oa L k y t o w rfl hv ha f hd hy h4 hf ht' ho'
    exact sDoAct_other _ cap ga oa L k y t o w rfl hv ha f hd hy h1 h2 h3 h4 hf ht' ho'

end Go.Proofs.Ytbmlphlknolieaa
