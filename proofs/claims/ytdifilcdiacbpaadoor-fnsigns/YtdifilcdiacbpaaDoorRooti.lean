/-
  What poolFrom and the program's PoolRoot answer.
-/
import Derived.Test.YtdifilcdiacbpaaDoorRoot
namespace Go.Proofs.YtdifilcdiacbpaaDoor
open Go.RowKit Go.BigFrame
set_option linter.unusedVariables false

/-- an array of texts and a flag, answered -/
theorem ret_arr2 {fn : Func} {Rp : Ending → World → Prop} {a : Act} {w : World} (c s g t n : Nat) (ty e : TypeId) (l : List ByteArray) (b : Value) (hres : fn.results = #[.cell c ty, .tmp s]) (hd : a.defers = []) (hp : a.tmps.getD c undef = .pointer (some ⟨g, 0, none⟩)) (hb : a.tmps.getD s undef = b)
    (hA : TA w g t l) (hl : l.length = n) (hu : Tryd.prog.underlying ty = some (.array n e)) (hi : (Tryd.prog.info? ty).map (·.size) = some n) (h : Rp (.returned (.tuple #[.agg (svs l).toArray, b])) w) : bodyPost Tryd.prog fn Rp .ret a w := by
  have hr := run_loadVar_row (P := Tryd.prog) w g t ty _ (0, 0) _ hA hu rfl (by rw [svs_size, hl]; exact hi)
  refine bodyPost_ret (v := .tuple #[.agg (svs l).toArray, b]) ?_ hd h
  have hp' : a.tmps[c]?.getD undef = .pointer (some ⟨g, 0, none⟩) := by simpa using hp
  have hb' : a.tmps[s]?.getD undef = b := by simpa using hb
  simp [results, hres, asAddr, hr, hp', hb']

/-- 'copy(keys[:], list)' -/
theorem run_copyT {w : World} (ty g t n m : Nat) (l r : List ByteArray) (u : Value) (gs os : Nat) (hm : m = n) (hA : TA w g t l) (hl : l.length = n) (hr : SS w u gs os r) (hrn : r.length = n) (h0 : 0 < n) :
    ∃ w', (Builtin.copy_ #[24, 24] ty #[.slice (some ⟨g, 0, none⟩) m m, u]).run Tryd.prog w = .ok (.int .i64 (n : Int)) w' ∧ TA w' g t r ∧ (∀ B, B ≤ g → Below B w w') ∧ (∀ k, k ≠ g → w'.heap[k]? = w.heap[k]?) := by
  subst hm
  obtain ⟨ao, cap, rfl, _, hAo, hc⟩ := hr
  have ea := hAo (by omega)
  subst ea
  have hlen : (svs r).length = m := by simp [svs, hrn]
  have hrun := run_copy_row (P := Tryd.prog) w 24 24 ty 9 g 0 m m ⟨gs, os, none⟩ r.length cap _ t (svs r) Tryd.underlying24 (by kernel_rfl) hA (by rw [hlen, hrn]; exact (Nat.min_self m).symm) (by
      intro j u hj
      have hj2 : j < r.length := by
        have := (List.getElem?_eq_some_iff.1 hj).1
        simpa [svs] using this
      have e : (⟨gs, os, none⟩ : Addr).add j = ⟨gs, os + j, none⟩ := by unfold Addr.add; split <;> simp_all
      rw [e, hc j hj2]
      simp [svs, List.getElem?_eq_getElem hj2] at hj
      rw [hj]) (by rw [hlen, svs_size, hl]; omega) (fun u hu => by simp [svs] at hu; obtain ⟨b, _, rfl⟩ := hu; rfl)
  have e1 : ((svs l).toArray.toList.take 0 ++ svs r ++ (svs l).toArray.toList.drop (0 + (svs r).length)).toArray = (svs r).toArray := by
    have e2 : (svs l).toArray.toList.drop (0 + (svs r).length) = [] := List.drop_of_length_le (by simp [svs]; omega)
    rw [e2]
    simp
  rw [e1, hlen] at hrun
  exact ⟨_, hrun, setRow_heap w g _ _ t _ hA, fun B hB => ⟨rfl, rfl, rfl, by simp [World.setRow], fun k hk => setRow_other w g k _ (by omega)⟩, fun k hk => setRow_other w g k _ hk⟩

def IrR (l : List ByteArray) (w : World) (v i : Value) (wr : World) : Prop := ∃ j : Nat, j ≤ 4 ∧ i = .int .i64 j ∧ Below w.heap.size w wr ∧ ∃ g, v = .slice (some ⟨g, 0, none⟩) (upN l j).length (upN l j).length ∧ SS wr v g 0 (upN l j)

end Go.Proofs.YtdifilcdiacbpaaDoor
