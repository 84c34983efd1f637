/-
  Leaves in a map: the map as a plain list of leaves, and what a look-up, a store and a delete make of it.
-/
import Derived.Test.YtofdlkfihhjlgaaDoorLa
import Derived.Test.YtofdlkfihhjlgaaDoorLo
import Derived.Maps.OwnSet
import Derived.Maps.RangeWalk
import Derived.StringKeys
import Derived.Sort.KeysCollected
namespace Go.Proofs.YtofdlkfihhjlgaaDoor
open Go.RowKit Go.BigFrame Go.Sort Go.Maps
set_option linter.unusedVariables false
set_option linter.unusedSimpArgs false

/-- how a leaf in a map is read -/
def leR : Value → Option (DataW Le × List MemPlace)
  | .agg cs => match cs.toList with
    | [.string a, .string b] => some (.held ⟨a, b⟩, [])
    | _ => none
  | _ => none
theorem leR_mk (f : Le) : leR (.agg #[.string f.n, .string f.v]) = some (.held f, []) := rfl
theorem leR_inv {v : Value} {y : DataW Le × List MemPlace} (h : leR v = some y) : ∃ f : Le, v = .agg #[.string f.n, .string f.v] ∧ y = (.held f, []) := by
  unfold leR at h
  split at h
  · rename_i cs
    split at h
    · rename_i a b hcs
      simp at h
      refine ⟨⟨a, b⟩, ?_, h.symm⟩
      have : cs = #[.string a, .string b] := Array.toList_inj.1 hcs
      rw [this]
    · cases h
  · cases h

def kl9 (x : ByteArray) : Lit := .string x.data.toList
theorem kl9_inj {x y : ByteArray} (h : kl9 x = kl9 y) : x = y := by
  unfold kl9 at h
  simp at h
  exact F.toList_inj (by rw [F.toList_data, F.toList_data, h])
theorem key_9 (x : ByteArray) (hx : x.size ≤ 2000000) : keyOf Tryd.prog 9 (.string x) = some (kl9 x) := Go.WideMaps.keyOf_string_mk Tryd.underlying9 (by unfold maxLen; omega)
theorem law_9 : Keyed Tryd.prog 9 := string_keyed Tryd.underlying9
theorem zeroL (w : World) : (zeroValue 54).run Tryd.prog w = .ok (.agg #[.string ⟨#[]⟩, .string ⟨#[]⟩]) w := by kernel_rfl

/-- the map that lies in block b holds just the leaves of L -/
def LM (B : Nat) (w0 w : World) (b : Nat) (L : List Le) : Prop :=
  (∃ D : DataW Le, w.ownsMap Tryd.prog 9 leR b (Maps.size D) D ∧ (∀ x : ByteArray, Maps.has D (kl9 x) = true ↔ ∃ f ∈ L, f.n = x) ∧ (∀ f ∈ L, D.atKey (kl9 f.n) .nil = .held f) ∧ Maps.size D ≤ 100000)
    ∧ B ≤ b ∧ Below B w0 w ∧ B ≤ w.heap.size

theorem tightL {w : World} {b n : Nat} {D : DataW Le} (h : w.ownsMap Tryd.prog 9 leR b n D) : w.ownsMap Tryd.prog 9 leR b (Maps.size D) D := by
  obtain ⟨es, clock, hb, F, hs, rfl⟩ := h
  refine ⟨es, clock, hb, F, ?_, rfl⟩
  show es.size ≤ _
  rw [Maps.size_eq, length_sorted]
  simp
theorem LM.later {B : Nat} {w0 w w' : World} {b : Nat} {L : List Le} (h : LM B w0 w b L) (hb : Below w.heap.size w w') : LM B w0 w' b L := by
  obtain ⟨⟨D, ho, h1, h2, h3⟩, h5, h6, h7⟩ := h
  exact ⟨⟨D, ho.kept (row := none) (grown_below hb) (by simp), h1, h2, h3⟩, h5, h6.trans (hb.mono h7), Nat.le_trans h7 hb.size⟩
theorem LM.isMap {B : Nat} {w0 w : World} {b : Nat} {L : List Le} (h : LM B w0 w b L) : ∃ es c, w.heap[b]? = some (.map es c) := by
  obtain ⟨⟨D, ⟨es, c, hb, _⟩, _⟩, _⟩ := h
  exact ⟨es, c, hb⟩
theorem LM.made (B : Nat) (w0 w : World) (hb : Below B w0 w) (hB : B ≤ w.heap.size) : LM B w0 (w.alloc (.map #[] 0)) w.heap.size [] := by
  refine ⟨⟨.map [], World.ownsMap_made w _ _ _, fun x => ?_, fun f hf => absurd hf (by simp), by rw [Maps.size_eq]; simp⟩, hB, hb.alloc hB _, by simp; omega⟩
  rw [Maps.has_eq]
  simp

/-- a look-up, whether it is there -/
theorem LM.look {B : Nat} {w0 w : World} {b : Nat} {L : List Le} (h : LM B w0 w b L) (x : ByteArray) (hx : x.size ≤ 2000000) :
    ∃ f : Le, (Instr.lookup 49 (.map (some b)) (.string x) true).run Tryd.prog w = .ok (.tuple #[.agg #[.string f.n, .string f.v], .bool (LV.find L x).isSome]) w := by
  obtain ⟨⟨D, ho, h1, h2, h3⟩, _⟩ := h
  obtain ⟨v, ps, hrun, hv⟩ := ho.look_ok law_9 Tryd.underlying49 (zeroL w) (zd := .held ⟨⟨#[]⟩, ⟨#[]⟩⟩) (zp := []) rfl (key_9 x hx)
  obtain ⟨f, rfl, _⟩ := leR_inv hv
  refine ⟨f, ?_⟩
  rw [hrun]
  have : Maps.has D (kl9 x) = (LV.find L x).isSome := by
    rw [Bool.eq_iff_iff, h1 x]
    cases hf : LV.find L x with
    | none => simp only [Option.isSome_none, Bool.false_eq_true, iff_false]; rintro ⟨f, hf1, hf2⟩; exact LV.find_none hf f hf1 hf2
    | some g => simp only [Option.isSome_some, iff_true]; exact ⟨g, (LV.find_some hf).1, (LV.find_some hf).2⟩
  rw [this]

/-- a store -/
theorem LM.store {B : Nat} {w0 w : World} {b : Nat} {L : List Le} (h : LM B w0 w b L) (f : Le) (hx : f.n.size ≤ 2000000) (hsz : ∀ D : DataW Le, w.ownsMap Tryd.prog 9 leR b (Maps.size D) D → Maps.size D ≤ 99999) :
    ∃ w', (Instr.mapUpdate 49 (.map (some b)) (.string f.n) (.agg #[.string f.n, .string f.v])).run Tryd.prog w = .ok () w' ∧ LM B w0 w' b (LV.put L f) ∧ w.grownBy w' (some b) := by
  obtain ⟨⟨D, ho, h1, h2, h3⟩, h5, h6, h7⟩ := h
  have hs := hsz D ho
  obtain ⟨w', hrun, ho', hg⟩ := ho.update law_9 Tryd.underlying49 (by unfold maxLen; omega) (key_9 f.n hx) (leR_mk f)
  have hm := ho.isMap
  have hsp := ho'.size_le
  refine ⟨w', hrun, ⟨⟨D.put (kl9 f.n) (.held f), tightL ho', fun y => ?_, fun q hq => ?_, by omega⟩, h5, h6.grown hg h7 (fun k hk => by cases hk; exact h5), Nat.le_trans h7 hg.size⟩, hg⟩
  · by_cases e : y = f.n
    · subst e
      rw [Maps.has_put_same hm (show WideAt.IsKeyLit (kl9 f.n) from trivial)]
      exact ⟨fun _ => ⟨f, LV.mem_put.2 (.inl rfl), rfl⟩, fun _ => rfl⟩
    · rw [Maps.has_put_other (fun h => e (kl9_inj h)), h1 y]
      constructor
      · rintro ⟨q, hq, rfl⟩
        exact ⟨q, LV.mem_put.2 (.inr ⟨hq, e⟩), rfl⟩
      · rintro ⟨q, hq, rfl⟩
        rcases LV.mem_put.1 hq with rfl | ⟨h8, _⟩
        · exact absurd rfl e
        · exact ⟨q, h8, rfl⟩
  · rcases LV.mem_put.1 hq with rfl | ⟨h8, h9⟩
    · rw [Maps.atKey_put_same hm (show WideAt.IsKeyLit (kl9 q.n) from trivial)]
    · rw [Maps.atKey_put_other (fun h => h9 (kl9_inj h))]
      exact h2 q h8

/-- a delete -/
theorem LM.del {B : Nat} {w0 w : World} {b : Nat} {L : List Le} (h : LM B w0 w b L) (x : ByteArray) (hx : x.size ≤ 2000000) (ty : TypeId) :
    ∃ w', (Builtin.delete_ #[49, 9] ty #[.map (some b), .string x]).run Tryd.prog w = .ok (.tuple #[]) w' ∧ LM B w0 w' b (LV.wout L x) ∧ w.grownBy w' (some b) := by
  obtain ⟨⟨D, ho, h1, h2, h3⟩, h5, h6, h7⟩ := h
  obtain ⟨w', hrun, ho', ht⟩ := ho.drop law_9 Tryd.underlying49 (key_9 x hx) ty
  have hg := ht.grown
  have hsp := ho'.size_le
  refine ⟨w', hrun, ⟨⟨D.del (kl9 x), tightL ho', fun y => ?_, fun q hq => ?_, by omega⟩, h5, h6.grown hg h7 (fun k hk => by cases hk; exact h5), Nat.le_trans h7 hg.size⟩, hg⟩
  · by_cases e : y = x
    · subst e
      rw [Maps.has_del_same]
      constructor
      · intro h; cases h
      · rintro ⟨q, hq, rfl⟩
        exact absurd rfl (LV.mem_wout.1 hq).2
    · rw [Maps.has_del_other (fun h => e (kl9_inj h)), h1 y]
      constructor
      · rintro ⟨q, hq, rfl⟩
        exact ⟨q, LV.mem_wout.2 ⟨hq, e⟩, rfl⟩
      · rintro ⟨q, hq, rfl⟩
        exact ⟨q, (LV.mem_wout.1 hq).1, rfl⟩
  · obtain ⟨h8, h9⟩ := LV.mem_wout.1 hq
    rw [Maps.atKey_del_other (fun h => h9 (kl9_inj h))]
    exact h2 q h8

/-- there are as many keys as leaves -/
theorem LM.sized {B : Nat} {w0 w : World} {b : Nat} {L : List Le} (h : LM B w0 w b L) (hL : LV.Srt L) :
    ∃ D : DataW Le, w.ownsMap Tryd.prog 9 leR b (Maps.size D) D ∧ (∀ x : ByteArray, Maps.has D (kl9 x) = true ↔ ∃ f ∈ L, f.n = x) ∧ (∀ f ∈ L, D.atKey (kl9 f.n) .nil = .held f) ∧ Maps.size D = L.length := by
  obtain ⟨⟨D, ho, h1, h2, h3⟩, _⟩ := h
  obtain ⟨es, rfl, hp⟩ := ho.tidy law_9
  obtain ⟨es', e, hk⟩ := ho.keysOf
  have e2 : es = es' := by injection e
  subst e2
  have hperm : (L.map fun f => f.n.data.toList).Perm (strKeys (.map es)) := by
    refine perm_strKeys hp (fun q hq => ?_) ?_ (fun x => ?_)
    · obtain ⟨key, hkey⟩ := hk q hq
      obtain ⟨x, _, hx, _⟩ := Maps.keyOf_str Tryd.underlying9 hkey
      exact ⟨x, hx⟩
    · refine List.pairwise_map.2 (hL.imp fun {f g} hfg e => ?_)
      exact F.ltN_ne hfg (F.toList_inj (by rw [F.toList_data, F.toList_data]; exact e))
    · have := h1 ⟨x.toArray⟩
      have e3 : kl9 ⟨x.toArray⟩ = .string x := by simp [kl9]
      rw [e3] at this
      rw [this, List.mem_map]
      constructor
      · rintro ⟨f, hf, rfl⟩
        exact ⟨f, hf, ByteArray.ext (by simp)⟩
      · rintro ⟨f, hf, hx⟩
        exact ⟨f, hf, by rw [hx]⟩
  refine ⟨.map es, ho, h1, h2, ?_⟩
  have := hperm.length_eq
  simp [strKeys] at this
  rw [Maps.size_eq]
  omega
theorem LM.size {B : Nat} {w0 w : World} {b : Nat} {L : List Le} (h : LM B w0 w b L) (hL : LV.Srt L) (D : DataW Le) (ho : w.ownsMap Tryd.prog 9 leR b (Maps.size D) D) : Maps.size D = L.length := by
  obtain ⟨D', ho', _, _, hs⟩ := h.sized hL
  obtain ⟨es, c, hb, _, _, hD⟩ := ho
  obtain ⟨es', c', hb', _, _, hD'⟩ := ho'
  have e : es = es' ∧ c = c' := by
    rw [hb] at hb'
    injection hb' with h1
    injection h1 with h2 h3
    exact ⟨h2, h3⟩
  rw [hD, e.1, ← hD']
  exact hs
theorem LM.len {B : Nat} {w0 w : World} {b : Nat} {L : List Le} (h : LM B w0 w b L) (hL : LV.Srt L) (ty : TypeId) : (Builtin.len_ #[49] ty #[.map (some b)]).run Tryd.prog w = .ok (.int .i64 (L.length : Int)) w := by
  obtain ⟨D, ho, _, _, hs⟩ := h.sized hL
  have := ho.len Tryd.underlying49 ty
  rw [hs] at this
  exact this

/-- a store, in a plain region -/
theorem wp_leafStore {w : World} {ops : Array Oper} {rest : List Oper} {o : Oper} {a : Act} {Q : Exit → Act → World → Prop} (hgd : o.guard = none) (m x v : Operand) (hop : o.op = Op.mapUpdate 49 m x v)
    (b : Nat) (f : Le) (hm : a.eval m = .map (some b)) (hx : a.eval x = .string f.n) (hv : a.eval v = .agg #[.string f.n, .string f.v]) (B : Nat) (w0 : World) (L : List Le) (h : LM B w0 w b L) (hL : LV.LOk L) (hs : f.n.size ≤ 2000000)
    (hK : ∀ w', LM B w0 w' b (LV.put L f) → w.grownBy w' (some b) → wpList Tryd.prog ops Q rest (a.put o.dst undef) w') : wpList Tryd.prog ops Q (o :: rest) a w := by
  refine wpList_plain hgd fun K' hK' => ?_
  obtain ⟨w', hrun, r1, r2⟩ := h.store f hs (fun D ho => by have := h.size hL.2.2 D ho; have := hL.1; omega)
  unfold Oper.wp
  simp [execOp, hop, hm, hx, hv, hrun, Result.andThen]
  exact hK' _ _ (hK w' r1 r2)
/-- a delete -/
theorem wp_leafDel {w : World} {ops : Array Oper} {rest : List Oper} {o : Oper} {a : Act} {Q : Exit → Act → World → Prop} (hgd : o.guard = none) (m x : Operand) (hop : o.op = Op.call { callee := Callee.builtin Builtin.delete, args := #[m, x], argTypes := #[49, 9] })
    (b : Nat) (y : ByteArray) (hm : a.eval m = .map (some b)) (hx : a.eval x = .string y) (B : Nat) (w0 : World) (L : List Le) (h : LM B w0 w b L) (hs : y.size ≤ 2000000)
    (hK : ∀ w', LM B w0 w' b (LV.wout L y) → w.grownBy w' (some b) → wpList Tryd.prog ops Q rest (a.put o.dst (.tuple #[])) w') : wpList Tryd.prog ops Q (o :: rest) a w := by
  refine wpList_plain hgd fun K' hK' => ?_
  obtain ⟨w', hrun, r1, r2⟩ := h.del y hs o.type
  unfold Oper.wp
  simp [execOp, hop, resolve, invoke, builtin, hm, hx, hrun, Result.andThen]
  exact hK' _ _ (hK w' r1 r2)

namespace LV
theorem ok_take {L : List Le} (h : LOk L) (m : Nat) : LOk (L.take m) := ⟨by have := h.1; simp; omega, fun f hf => h.2.1 f (List.mem_of_mem_take hf), List.Pairwise.sublist (List.take_sublist m L) h.2.2⟩
theorem put_take {L : List Le} (h : LOk L) {m : Nat} (hm : m < L.length) : put (L.take m) L[m] = L.take (m + 1) := by
  refine srt_ext (srt_put (ok_take h m).2.2 _) (ok_take h (m + 1)).2.2 (fun f => ?_)
  rw [mem_put, List.take_succ_eq_append_getElem hm, List.mem_append, List.mem_singleton]
  constructor
  · rintro (h1 | ⟨h1, _⟩)
    · exact .inr h1
    · exact .inl h1
  · rintro (h1 | h1)
    · refine .inr ⟨h1, ?_⟩
      obtain ⟨j, hj, rfl⟩ := List.getElem_of_mem h1
      have hj' : j < m := by simp at hj; omega
      rw [List.getElem_take]
      exact F.ltN_ne (LOk.srt_at h.2.2 j m (by omega) hm hj')
    · exact .inl h1
end LV
theorem run_makeLeaves (n : Nat) (w : World) : (Instr.makeMap 49 (some (.int .i64 (n : Int)))).run Tryd.prog w = .ok (.map (some w.heap.size)) (w.alloc (.map #[] 0)) := by
  simp [Instr.makeMap, asInt, asIntOf, Result.andThen]

end Go.Proofs.YtofdlkfihhjlgaaDoor
