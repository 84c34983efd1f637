/-
  A row of heads appended to a row that a call owns, as one step of a region that draws its order, behind a guard.
-/
import Derived.Test.YtlpbfafcaleifaaDoorHo
import Derived.WalkKit
namespace Go.Proofs.YtlpbfafcaleifaaDoor
open Go.RowKit Go.BigFrame Go.Sort
set_option linter.unusedVariables false
set_option linter.unusedSimpArgs false

section
variable {w : World} {ops : Array Oper} {o : Oper} {a : Act} {K : Act → World → Prop} {Q : Exit → Act → World → Prop}
theorem step_growH {E : Prop} (hw : Region.wanted o (yielded ops a.tmps) = true) (s x : Operand)
    (ho : o.op = .call { callee := .builtin .append, args := #[s, x], argTypes := #[24, 24] })
    (B : Nat) (w0 : World) (v : Value) (l : List Hd) (hs : a.eval s = v) (h : OH B w0 w v l) (p : Option Addr) (n cap g og : Nat) (r : List Hd) (hn : r.length = n) (hx : a.eval x = .slice p n cap) (hr : RS 4 hcs w (.slice p n cap) g og r) (hnil : p = none → cap = 0) (hlen : l.length + r.length ≤ 1000000)
    (hk : ∀ v' w', OH B w0 w' v' (l ++ r) → w.grownBy w' v.ownBlock → K (a.put o.dst v') w') : if Region.wanted o (yielded ops a.tmps) = true then Oper.wp Tryd.prog o a w K Q else E := by
  subst hn
  obtain ⟨i0, hi, hz0, hz1, hz2⟩ := info_parts Tryd.infoHead
  have key : ∃ v' w', (Builtin.append_ #[24, 24] o.type #[v, .slice p r.length cap]).run Tryd.prog w = .ok v' w' ∧ OH B w0 w' v' (l ++ r) ∧ w.grownBy w' v.ownBlock := by
    obtain ⟨p', cap', ev, _, hA, hc⟩ := hr
    obtain ⟨rfl, rfl⟩ : p = p' ∧ cap = cap' := by simpa using ev
    cases p with
    | none =>
      have h0 : r.length = 0 := by
        rcases Nat.eq_zero_or_pos r.length with h0 | h0
        · exact h0
        · exact absurd (hA h0).1 (by simp)
      have hr0 : r = [] := List.length_eq_zero_iff.1 h0
      subst hr0
      have := hnil rfl
      subst this
      exact ⟨v, w, run_append_owned_none (P := Tryd.prog) w B 24 o.type 33 i0 4 Tryd.underlying24 hi v l.length (l.flatMap hcs) h.1, by rw [List.append_nil]; exact h, World.grownBy.refl _ _⟩
    | some ad =>
      obtain ⟨v', w', hrun, h1, h2, _⟩ := run_append_own (P := Tryd.prog) w B 24 o.type 33 i0 _ 4 48 Tryd.underlying24 hi hz0 hz1 hz2 rfl (by decide) v l.length (l.flatMap hcs) h.1 ad r.length cap (r.flatMap hcs) (flat_len (k := 4) (enc := hcs) (fun x => hcs_len x) r) (by
          intro j u hj
          have hj2 : 0 < r.length := by
            rcases Nat.eq_zero_or_pos r.length with h0 | h0
            · rw [List.length_eq_zero_iff.1 h0] at hj
              simp at hj
            · exact h0
          have ea := (hA hj2).1
          simp only [Option.some.injEq] at ea
          subst ea
          have := flat_cellsH hc j u hj
          rw [Addr.add_mid]
          exact this)
        oneH (by unfold maxLen; omega) (by omega) h.2.2
      exact ⟨v', w', hrun, ⟨by rw [List.flatMap_append, List.length_append]; exact h1, h.2.1.grown h2 h.2.2 (fun k hk => (h.1.lt k hk).1), Nat.le_trans h.2.2 h2.size⟩, h2⟩
  obtain ⟨v', w', hrun, h1, h2⟩ := key
  rw [if_pos hw]
  unfold Oper.wp
  simp [execOp, ho, resolve, invoke, builtin, hs, hx, hrun, Result.andThen]
  exact hk _ _ h1 h2
/-- an empty row laid -/
theorem step_emptyH {E : Prop} (hw : Region.wanted o (yielded ops a.tmps) = true) (ho : o.op = .buildSlice 24 0 #[])
    (hk : K (a.put o.dst (.slice (some ⟨w.heap.size, 0, none⟩) 0 0)) (w.alloc (.cells #[] 33))) : if Region.wanted o (yielded ops a.tmps) = true then Oper.wp Tryd.prog o a w K Q else E := by
  rw [if_pos hw]
  unfold Oper.wp
  unfold execOp
  rw [ho]
  go_simp
  exact hk
/-- a row of one head laid -/
theorem step_oneH {E : Prop} (hw : Region.wanted o (yielded ops a.tmps) = true) (x : Operand) (ho : o.op = .buildSlice 24 1 #[(0, x)]) (X : Hd) (hx : a.eval x = .agg #[.int .i64 X.h, .int .i64 X.e, .string X.r, .string X.p])
    (hk : K (a.put o.dst (.slice (some ⟨w.heap.size, 0, none⟩) 1 1)) (w.alloc (.cells #[.int .i64 X.h, .int .i64 X.e, .string X.r, .string X.p] 33))) : if Region.wanted o (yielded ops a.tmps) = true then Oper.wp Tryd.prog o a w K Q else E := by
  rw [if_pos hw]
  unfold Oper.wp
  unfold execOp
  rw [ho]
  have e : (#[(0, x)] : Array (Nat × Operand)).map (fun (i, x) => (i, a.eval x)) = #[(0, .agg #[.int .i64 X.h, .int .i64 X.e, .string X.r, .string X.p])] := by
    simp [hx]
  simp only [e]
  go_simp
  exact hk
/-- ChainOk called -/
theorem step_chainH {E : Prop} (hw : Region.wanted o (yielded ops a.tmps) = true) (i j : Nat) (ts : Array TypeId) (ho : o.op = .call { callee := .value (.func 11), args := #[.tmp i, .tmp j], argTypes := ts }) (v1 v2 r : Value) (P : World → Prop) (hs : a.tmps[i]?.getD undef = v1) (hx : a.tmps[j]?.getD undef = v2)
    (hC : Calls Tryd.prog 11 #[v1, v2] w fun e w' => e = .returned r ∧ P w') (hk : ∀ w', P w' → K (a.put o.dst r) w') : if Region.wanted o (yielded ops a.tmps) = true then Oper.wp Tryd.prog o a w K Q else E := by
  rw [if_pos hw]
  unfold Oper.wp
  unfold execOp
  rw [ho]
  go_simp
  refine hC.mono ?_
  rintro e w' ⟨rfl, hp⟩
  exact hk w' hp
end

end Go.Proofs.YtlpbfafcaleifaaDoor
