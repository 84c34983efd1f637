/-
  Texts laid together: Mq, Lr, Cpl, Cpy.
-/
import Derived.Test.YthlgohplljcgfaaGreatDoorPkESN7
import Derived.Test.YthlgohplljcgfaaGreatDoorPkESN8
import Derived.Maps.OwnSet
import Derived.Maps.RangeWalk
import Derived.StringKeys
import Derived.Sort.KeysCollected
import Derived.Test.YthlgohplljcgfaaGreatDoorPkESN3
import Derived.Test.YthlgohplljcgfaaGreatDoorPkESN2
import Derived.Deep.RegionHeld3
/-
  Leaves in a map: the map as a plain list of leaves, and what a look-up, a store and a delete make of it.
-/
namespace Go.Proofs.YthlgohplljcgfaaGreatDoor
open Go.RowKit Go.BigFrame Go.Sort Go.Maps
set_option linter.unusedVariables false
set_option linter.unusedSimpArgs false

/-- how a leaf in a map is read -/
def leR : Value → Option (DataW Le × List MemPlace)
  | .agg cs => match cs.toList with
    | [.string a, .string b] => some (.held ⟨a, b⟩, [])
    | _ => none
  | _ => none
theorem leR_mk (f : Le) : leR (.agg #[.string f.n, .string f.v]) = some (.held f, []) := rfl
theorem leR_inv {v : Value} {y : DataW Le × List MemPlace} (h : leR v = some y) : ∃ f : Le, v = .agg #[.string f.n, .string f.v] ∧ y = (.held f, []) := by
  unfold leR at h
  split at h
  · rename_i cs
    split at h
    · rename_i a b hcs
      simp at h
      refine ⟨⟨a, b⟩, ?_, h.symm⟩
      have : cs = #[.string a, .string b] := Array.toList_inj.1 hcs
      rw [this]
    · cases h
  · cases h

def kl9 (x : ByteArray) : Lit := .string x.data.toList
theorem kl9_inj {x y : ByteArray} (h : kl9 x = kl9 y) : x = y := by
  unfold kl9 at h
  simp at h
  exact F.toList_inj (by rw [F.toList_data, F.toList_data, h])
theorem key_9 (x : ByteArray) (hx : x.size ≤ 2000000) : keyOf Tryz.prog 9 (.string x) = some (kl9 x) := Go.WideMaps.keyOf_string_mk Tryz.underlying9 (by unfold maxLen; omega)
theorem law_9 : Keyed Tryz.prog 9 := string_keyed Tryz.underlying9
theorem zeroL (w : World) : (zeroValue 134).run Tryz.prog w = .ok (.agg #[.string ⟨#[]⟩, .string ⟨#[]⟩]) w := by kernel_rfl

/-- the map that lies in block b holds just the leaves of L -/
def LM (B : Nat) (w0 w : World) (b : Nat) (L : List Le) : Prop :=
  (∃ D : DataW Le, w.ownsMap Tryz.prog 9 leR b (Maps.size D) D ∧ (∀ x : ByteArray, Maps.has D (kl9 x) = true ↔ ∃ f ∈ L, f.n = x) ∧ (∀ f ∈ L, D.atKey (kl9 f.n) .nil = .held f) ∧ Maps.size D ≤ 100000)
    ∧ B ≤ b ∧ Below B w0 w ∧ B ≤ w.heap.size

theorem tightL {w : World} {b n : Nat} {D : DataW Le} (h : w.ownsMap Tryz.prog 9 leR b n D) : w.ownsMap Tryz.prog 9 leR b (Maps.size D) D := by
  obtain ⟨es, clock, hb, F, hs, rfl⟩ := h
  refine ⟨es, clock, hb, F, ?_, rfl⟩
  show es.size ≤ _
  rw [Maps.size_eq, length_sorted]
  simp
theorem LM.later {B : Nat} {w0 w w' : World} {b : Nat} {L : List Le} (h : LM B w0 w b L) (hb : Below w.heap.size w w') : LM B w0 w' b L := by
  obtain ⟨⟨D, ho, h1, h2, h3⟩, h5, h6, h7⟩ := h
  exact ⟨⟨D, ho.kept (row := none) (grown_below hb) (by simp), h1, h2, h3⟩, h5, h6.trans (hb.mono h7), Nat.le_trans h7 hb.size⟩
theorem LM.isMap {B : Nat} {w0 w : World} {b : Nat} {L : List Le} (h : LM B w0 w b L) : ∃ es c, w.heap[b]? = some (.map es c) := by
  obtain ⟨⟨D, ⟨es, c, hb, _⟩, _⟩, _⟩ := h
  exact ⟨es, c, hb⟩
theorem LM.made (B : Nat) (w0 w : World) (hb : Below B w0 w) (hB : B ≤ w.heap.size) : LM B w0 (w.alloc (.map #[] 0)) w.heap.size [] := by
  refine ⟨⟨.map [], World.ownsMap_made w _ _ _, fun x => ?_, fun f hf => absurd hf (by simp), by rw [Maps.size_eq]; simp⟩, hB, hb.alloc hB _, by simp; omega⟩
  rw [Maps.has_eq]
  simp

/-- a look-up, whether it is there -/
theorem LM.look {B : Nat} {w0 w : World} {b : Nat} {L : List Le} (h : LM B w0 w b L) (x : ByteArray) (hx : x.size ≤ 2000000) :
    ∃ f : Le, (Instr.lookup 236 (.map (some b)) (.string x) true).run Tryz.prog w = .ok (.tuple #[.agg #[.string f.n, .string f.v], .bool (LV.find L x).isSome]) w := by
  obtain ⟨⟨D, ho, h1, h2, h3⟩, _⟩ := h
  obtain ⟨v, ps, hrun, hv⟩ := ho.look_ok law_9 Tryz.underlying236 (zeroL w) (zd := .held ⟨⟨#[]⟩, ⟨#[]⟩⟩) (zp := []) rfl (key_9 x hx)
  obtain ⟨f, rfl, _⟩ := leR_inv hv
  refine ⟨f, ?_⟩
  rw [hrun]
  have : Maps.has D (kl9 x) = (LV.find L x).isSome := by
    rw [Bool.eq_iff_iff, h1 x]
    cases hf : LV.find L x with
    | none => simp only [Option.isSome_none, Bool.false_eq_true, iff_false]; rintro ⟨f, hf1, hf2⟩; exact LV.find_none hf f hf1 hf2
    | some g => simp only [Option.isSome_some, iff_true]; exact ⟨g, (LV.find_some hf).1, (LV.find_some hf).2⟩
  rw [this]

/-- a store -/
theorem LM.store {B : Nat} {w0 w : World} {b : Nat} {L : List Le} (h : LM B w0 w b L) (f : Le) (hx : f.n.size ≤ 2000000) (hsz : ∀ D : DataW Le, w.ownsMap Tryz.prog 9 leR b (Maps.size D) D → Maps.size D ≤ 99999) :
    ∃ w', (Instr.mapUpdate 236 (.map (some b)) (.string f.n) (.agg #[.string f.n, .string f.v])).run Tryz.prog w = .ok () w' ∧ LM B w0 w' b (LV.put L f) ∧ w.grownBy w' (some b) := by
  obtain ⟨⟨D, ho, h1, h2, h3⟩, h5, h6, h7⟩ := h
  have hs := hsz D ho
  obtain ⟨w', hrun, ho', hg⟩ := ho.update law_9 Tryz.underlying236 (by unfold maxLen; omega) (key_9 f.n hx) (leR_mk f)
  have hm := ho.isMap
  have hsp := ho'.size_le
  refine ⟨w', hrun, ⟨⟨D.put (kl9 f.n) (.held f), tightL ho', fun y => ?_, fun q hq => ?_, by omega⟩, h5, h6.grown hg h7 (fun k hk => by cases hk; exact h5), Nat.le_trans h7 hg.size⟩, hg⟩
  · by_cases e : y = f.n
    · subst e
      rw [Maps.has_put_same hm (show WideAt.IsKeyLit (kl9 f.n) from trivial)]
      exact ⟨fun _ => ⟨f, LV.mem_put.2 (.inl rfl), rfl⟩, fun _ => rfl⟩
    · rw [Maps.has_put_other (fun h => e (kl9_inj h)), h1 y]
      constructor
      · rintro ⟨q, hq, rfl⟩
        exact ⟨q, LV.mem_put.2 (.inr ⟨hq, e⟩), rfl⟩
      · rintro ⟨q, hq, rfl⟩
        rcases LV.mem_put.1 hq with rfl | ⟨h8, _⟩
        · exact absurd rfl e
        · exact ⟨q, h8, rfl⟩
  · rcases LV.mem_put.1 hq with rfl | ⟨h8, h9⟩
    · rw [Maps.atKey_put_same hm (show WideAt.IsKeyLit (kl9 q.n) from trivial)]
    · rw [Maps.atKey_put_other (fun h => h9 (kl9_inj h))]
      exact h2 q h8

/-- a delete -/
theorem LM.del {B : Nat} {w0 w : World} {b : Nat} {L : List Le} (h : LM B w0 w b L) (x : ByteArray) (hx : x.size ≤ 2000000) (ty : TypeId) :
    ∃ w', (Builtin.delete_ #[236, 9] ty #[.map (some b), .string x]).run Tryz.prog w = .ok (.tuple #[]) w' ∧ LM B w0 w' b (LV.wout L x) ∧ w.grownBy w' (some b) := by
  obtain ⟨⟨D, ho, h1, h2, h3⟩, h5, h6, h7⟩ := h
  obtain ⟨w', hrun, ho', ht⟩ := ho.drop law_9 Tryz.underlying236 (key_9 x hx) ty
  have hg := ht.grown
  have hsp := ho'.size_le
  refine ⟨w', hrun, ⟨⟨D.del (kl9 x), tightL ho', fun y => ?_, fun q hq => ?_, by omega⟩, h5, h6.grown hg h7 (fun k hk => by cases hk; exact h5), Nat.le_trans h7 hg.size⟩, hg⟩
  · by_cases e : y = x
    · subst e
      rw [Maps.has_del_same]
      constructor
      · intro h; cases h
      · rintro ⟨q, hq, rfl⟩
        exact absurd rfl (LV.mem_wout.1 hq).2
    · rw [Maps.has_del_other (fun h => e (kl9_inj h)), h1 y]
      constructor
      · rintro ⟨q, hq, rfl⟩
        exact ⟨q, LV.mem_wout.2 ⟨hq, e⟩, rfl⟩
      · rintro ⟨q, hq, rfl⟩
        exact ⟨q, (LV.mem_wout.1 hq).1, rfl⟩
  · obtain ⟨h8, h9⟩ := LV.mem_wout.1 hq
    rw [Maps.atKey_del_other (fun h => h9 (kl9_inj h))]
    exact h2 q h8

/-- there are as many keys as leaves -/
theorem LM.sized {B : Nat} {w0 w : World} {b : Nat} {L : List Le} (h : LM B w0 w b L) (hL : LV.Srt L) :
    ∃ D : DataW Le, w.ownsMap Tryz.prog 9 leR b (Maps.size D) D ∧ (∀ x : ByteArray, Maps.has D (kl9 x) = true ↔ ∃ f ∈ L, f.n = x) ∧ (∀ f ∈ L, D.atKey (kl9 f.n) .nil = .held f) ∧ Maps.size D = L.length := by
  obtain ⟨⟨D, ho, h1, h2, h3⟩, _⟩ := h
  obtain ⟨es, rfl, hp⟩ := ho.tidy law_9
  obtain ⟨es', e, hk⟩ := ho.keysOf
  have e2 : es = es' := by injection e
  subst e2
  have hperm : (L.map fun f => f.n.data.toList).Perm (strKeys (.map es)) := by
    refine perm_strKeys hp (fun q hq => ?_) ?_ (fun x => ?_)
    · obtain ⟨key, hkey⟩ := hk q hq
      obtain ⟨x, _, hx, _⟩ := Maps.keyOf_str Tryz.underlying9 hkey
      exact ⟨x, hx⟩
    · refine List.pairwise_map.2 (hL.imp fun {f g} hfg e => ?_)
      exact F.ltN_ne hfg (F.toList_inj (by rw [F.toList_data, F.toList_data]; exact e))
    · have := h1 ⟨x.toArray⟩
      have e3 : kl9 ⟨x.toArray⟩ = .string x := by simp [kl9]
      rw [e3] at this
      rw [this, List.mem_map]
      constructor
      · rintro ⟨f, hf, rfl⟩
        exact ⟨f, hf, ByteArray.ext (by simp)⟩
      · rintro ⟨f, hf, hx⟩
        exact ⟨f, hf, by rw [hx]⟩
  refine ⟨.map es, ho, h1, h2, ?_⟩
  have := hperm.length_eq
  simp [strKeys] at this
  rw [Maps.size_eq]
  omega
theorem LM.size {B : Nat} {w0 w : World} {b : Nat} {L : List Le} (h : LM B w0 w b L) (hL : LV.Srt L) (D : DataW Le) (ho : w.ownsMap Tryz.prog 9 leR b (Maps.size D) D) : Maps.size D = L.length := by
  obtain ⟨D', ho', _, _, hs⟩ := h.sized hL
  obtain ⟨es, c, hb, _, _, hD⟩ := ho
  obtain ⟨es', c', hb', _, _, hD'⟩ := ho'
  have e : es = es' ∧ c = c' := by
    rw [hb] at hb'
    injection hb' with h1
    injection h1 with h2 h3
    exact ⟨h2, h3⟩
  rw [hD, e.1, ← hD']
  exact hs
theorem LM.len {B : Nat} {w0 w : World} {b : Nat} {L : List Le} (h : LM B w0 w b L) (hL : LV.Srt L) (ty : TypeId) : (Builtin.len_ #[236] ty #[.map (some b)]).run Tryz.prog w = .ok (.int .i64 (L.length : Int)) w := by
  obtain ⟨D, ho, _, _, hs⟩ := h.sized hL
  have := ho.len Tryz.underlying236 ty
  rw [hs] at this
  exact this

/-- a store, in a plain region -/
theorem wp_leafStore {w : World} {ops : Array Oper} {rest : List Oper} {o : Oper} {a : Act} {Q : Exit → Act → World → Prop} (hgd : o.guard = none) (m x v : Operand) (hop : o.op = Op.mapUpdate 236 m x v)
    (b : Nat) (f : Le) (hm : a.eval m = .map (some b)) (hx : a.eval x = .string f.n) (hv : a.eval v = .agg #[.string f.n, .string f.v]) (B : Nat) (w0 : World) (L : List Le) (h : LM B w0 w b L) (hL : LV.LOk L) (hs : f.n.size ≤ 2000000)
    (hK : ∀ w', LM B w0 w' b (LV.put L f) → w.grownBy w' (some b) → wpList Tryz.prog ops Q rest (a.put o.dst undef) w') : wpList Tryz.prog ops Q (o :: rest) a w := by
  refine wpList_plain hgd fun K' hK' => ?_
  obtain ⟨w', hrun, r1, r2⟩ := h.store f hs (fun D ho => by have := h.size hL.2.2 D ho; have := hL.1; omega)
  unfold Oper.wp
  simp [execOp, hop, hm, hx, hv, hrun, Result.andThen]
  exact hK' _ _ (hK w' r1 r2)
/-- a delete -/
theorem wp_leafDel {w : World} {ops : Array Oper} {rest : List Oper} {o : Oper} {a : Act} {Q : Exit → Act → World → Prop} (hgd : o.guard = none) (m x : Operand) (hop : o.op = Op.call { callee := Callee.builtin Builtin.delete, args := #[m, x], argTypes := #[236, 9] })
    (b : Nat) (y : ByteArray) (hm : a.eval m = .map (some b)) (hx : a.eval x = .string y) (B : Nat) (w0 : World) (L : List Le) (h : LM B w0 w b L) (hs : y.size ≤ 2000000)
    (hK : ∀ w', LM B w0 w' b (LV.wout L y) → w.grownBy w' (some b) → wpList Tryz.prog ops Q rest (a.put o.dst (.tuple #[])) w') : wpList Tryz.prog ops Q (o :: rest) a w := by
  refine wpList_plain hgd fun K' hK' => ?_
  obtain ⟨w', hrun, r1, r2⟩ := h.del y hs o.type
  unfold Oper.wp
  simp [execOp, hop, resolve, invoke, builtin, hm, hx, hrun, Result.andThen]
  exact hK' _ _ (hK w' r1 r2)

namespace LV
theorem ok_take {L : List Le} (h : LOk L) (m : Nat) : LOk (L.take m) := ⟨by have := h.1; simp; omega, fun f hf => h.2.1 f (List.mem_of_mem_take hf), List.Pairwise.sublist (List.take_sublist m L) h.2.2⟩
theorem put_take {L : List Le} (h : LOk L) {m : Nat} (hm : m < L.length) : put (L.take m) L[m] = L.take (m + 1) := by
  refine srt_ext (srt_put (ok_take h m).2.2 _) (ok_take h (m + 1)).2.2 (fun f => ?_)
  rw [mem_put, List.take_succ_eq_append_getElem hm, List.mem_append, List.mem_singleton]
  constructor
  · rintro (h1 | ⟨h1, _⟩)
    · exact .inr h1
    · exact .inl h1
  · rintro (h1 | h1)
    · refine .inr ⟨h1, ?_⟩
      obtain ⟨j, hj, rfl⟩ := List.getElem_of_mem h1
      have hj' : j < m := by simp at hj; omega
      rw [List.getElem_take]
      exact F.ltN_ne (LOk.srt_at h.2.2 j m (by omega) hm hj')
    · exact .inl h1
end LV
theorem run_makeLeaves (n : Nat) (w : World) : (Instr.makeMap 236 (some (.int .i64 (n : Int)))).run Tryz.prog w = .ok (.map (some w.heap.size)) (w.alloc (.map #[] 0)) := by
  simp [Instr.makeMap, asInt, asIntOf, Result.andThen]

end Go.Proofs.YthlgohplljcgfaaGreatDoor
/-
  Leaves read of a text: the program's answers.
-/
namespace Go.Proofs.YthlgohplljcgfaaGreatDoor
open Go.RowKit Go.BigFrame Go.Sort
set_option linter.unusedVariables false
set_option linter.unusedSimpArgs false

namespace LV
theorem leafAt_size {s : ByteArray} {p q : Nat} {f : Le} (h : leafAt s p = some (f, q)) : f.n.size ≤ s.size ∧ f.v.size ≤ s.size := by
  unfold leafAt at h
  cases h1 : shortAt s p with
  | none => rw [h1] at h; simp at h
  | some x =>
    obtain ⟨n, b⟩ := x
    rw [h1] at h
    simp only at h
    cases h2 : shortAt s b with
    | none => rw [h2] at h; simp at h
    | some y =>
      obtain ⟨v, r⟩ := y
      rw [h2] at h
      simp only [Option.some.injEq, Prod.mk.injEq] at h
      rw [← h.1]
      exact ⟨shortAt_size h1, shortAt_size h2⟩
theorem leavesF_size {s : ByteArray} : ∀ {k p q : Nat} {l : List Le}, leavesF s k p = some (l, q) → ∀ f ∈ l, f.n.size ≤ s.size ∧ f.v.size ≤ s.size
  | 0, p, q, l, h, f, hf => by
    simp only [leavesF, Option.some.injEq, Prod.mk.injEq] at h
    rw [← h.1] at hf
    cases hf
  | k + 1, p, q, l, h, f, hf => by
    rw [leavesF] at h
    cases h1 : leafAt s p with
    | none => rw [h1] at h; simp at h
    | some x =>
      obtain ⟨g, b⟩ := x
      rw [h1] at h
      simp only at h
      cases h2 : leavesF s k b with
      | none => rw [h2] at h; simp at h
      | some y =>
        obtain ⟨m, r⟩ := y
        rw [h2] at h
        simp only [Option.some.injEq, Prod.mk.injEq] at h
        rw [← h.1] at hf
        rcases List.mem_cons.1 hf with rfl | hf
        · exact leafAt_size h1
        · exact leavesF_size h2 f hf
/-- what stands at a place as leaves, whether right or not -/
def rawL (s : ByteArray) (p : Nat) : Option (List Le × Nat) :=
  match M.readVar s.data.toList p with
  | none => none
  | some (n, q) => if 24 < n then none else leavesF s n q
theorem rawL_none {s : ByteArray} {p : Nat} (h : M.readVar s.data.toList p = none) : rawL s p = none := by unfold rawL; rw [h]
theorem rawL_great {s : ByteArray} {p n q : Nat} (h : M.readVar s.data.toList p = some (n, q)) (hn : 24 < n) : rawL s p = none := by
  unfold rawL
  rw [h]
  exact if_pos hn
theorem rawL_at {s : ByteArray} {p n q : Nat} (h : M.readVar s.data.toList p = some (n, q)) (hn : ¬ 24 < n) : rawL s p = leavesF s n q := by
  unfold rawL
  rw [h]
  exact if_neg hn
/-- the right leaves that a text tells -/
noncomputable def rdB (s : ByteArray) : Bool :=
  match rawL s 0 with
  | none => false
  | some (l, e) => decide (e = s.size) && leavesB l
noncomputable def rdL (s : ByteArray) : List Le :=
  match rawL s 0 with
  | none => []
  | some (l, e) => if decide (e = s.size) && leavesB l then l else []
end LV

/-- what readLeaf answers -/
def RlP (s : ByteArray) (p : Nat) (e : Ending) : Prop := match LV.leafAt s p with
  | none => ∃ a b, e = .returned (.tuple #[.agg #[.string a, .string b], .int .i64 0, .bool false])
  | some (f, q) => e = .returned (.tuple #[.agg #[.string f.n, .string f.v], .int .i64 (q : Int), .bool true])

section
variable {fn : Func} {Rp : Ending → World → Prop} {a : Act} {w : World}
/-- a record answered out of its block, and two things beside it -/
theorem ret_rec3 (c s t g T : Nat) (cs : List Value) (b d : Value) (td : TypeDesc) (hres : fn.results = #[.cell c T, .tmp s, .tmp t]) (hd : a.defers = []) (hp : a.tmps.getD c undef = .pointer (some ⟨g, 0, none⟩)) (hb : a.tmps.getD s undef = b) (hdd : a.tmps.getD t undef = d)
    (hu : Tryz.prog.underlying T = some td) (hrow : td.isRow = true) (hi : (Tryz.prog.info? T).map (·.size) = some cs.length) (hA : w.rangeAt g 0 cs) (h : Rp (.returned (.tuple #[.agg cs.toArray, b, d])) w) : bodyPost Tryz.prog fn Rp .ret a w := by
  have hr := run_loadVar_mid (P := Tryz.prog) w g 0 T cs td hA hu hrow hi
  refine bodyPost_ret (v := .tuple #[.agg cs.toArray, b, d]) ?_ hd h
  have hp' : a.tmps[c]?.getD undef = .pointer (some ⟨g, 0, none⟩) := by simpa using hp
  have hb' : a.tmps[s]?.getD undef = b := by simpa using hb
  have hd' : a.tmps[t]?.getD undef = d := by simpa using hdd
  simp [results, hres, asAddr, hr, hp', hb', hd']
end

/-- the box of a leaf -/
def BL (W : World) (p : Nat) (a b : ByteArray) : Prop := W.heap[p]? = some (.cells #[.string a, .string b] 134 (0, 0))
theorem BL.new (w : World) (a b : ByteArray) : BL (w.alloc (.cells #[.string a, .string b] 134)) w.heap.size a b := Go.heap_alloc_new w _
theorem BL.later {W W' : World} {p : Nat} {a b : ByteArray} (h : BL W p a b) (hb : Below W.heap.size W W') : BL W' p a b := (hb.block p (Array.getElem?_eq_some_iff.1 h).1).trans h
theorem BL.c0 {W : World} {p : Nat} {a b : ByteArray} (h : BL W p a b) : W.cell? ⟨p, 0, none⟩ = some (.string a) := by rw [cell_of_row W p 0 _ _ _ h]; rfl
theorem BL.c1 {W : World} {p : Nat} {a b : ByteArray} (h : BL W p a b) : W.cell? ⟨p, 1, none⟩ = some (.string b) := by rw [cell_of_row W p 1 _ _ _ h]; rfl
theorem BL.f0 {W : World} {p : Nat} {a b : ByteArray} (h : BL W p a b) : W.frozen? ⟨p, 0, none⟩ = false := by simp [World.frozen?, show W.heap[p]? = _ from h]
theorem BL.f1 {W : World} {p : Nat} {a b : ByteArray} (h : BL W p a b) : W.frozen? ⟨p, 1, none⟩ = false := by simp [World.frozen?, show W.heap[p]? = _ from h]
theorem BL.range {W : World} {p : Nat} {a b : ByteArray} (h : BL W p a b) : W.rangeAt p 0 [.string a, .string b] := range2 h.c0 h.c1
theorem BL.there {W : World} {p : Nat} {a b : ByteArray} (h : BL W p a b) : W.there p 0 2 := fun j hj => by
  match j, hj with
  | 0, _ => exact ⟨by rw [h.c0]; rfl, h.f0⟩
  | 1, _ => exact ⟨by rw [h.c1]; rfl, h.f1⟩
/-- .. and what is written into it whole -/
theorem BL.put {W : World} {p : Nat} {a b : ByteArray} (h : BL W p a b) (x y : ByteArray) : (W.setCells p 0 [.string x, .string y]).rangeAt p 0 [.string x, .string y] := World.rangeAt_setCells_same _ _ _ _ h.there
theorem BL.set0 {W : World} {p : Nat} {a b : ByteArray} (h : BL W p a b) (x : ByteArray) : BL (W.setCell ⟨p, 0, none⟩ (.string x)) p x b := heap_setCell_same W p 0 _ _ _ h
theorem BL.set1 {W : World} {p : Nat} {a b : ByteArray} (h : BL W p a b) (x : ByteArray) : BL (W.setCell ⟨p, 1, none⟩ (.string x)) p a x := heap_setCell_same W p 1 _ _ _ h

set_option maxRecDepth 100000 in
set_option maxHeartbeats 1000000 in
theorem readLeaf_at (s : ByteArray) (x : Int) (p : Nat) (w : World) (hx : x = (p : Int)) (hs : s.size ≤ 1048576) (hp : p ≤ s.size) :
    Calls Tryz.prog 138 #[.string s, .int .i64 x] w fun e w' => RlP s p e ∧ Below w.heap.size w w' := by
  have h1 := fun W => ReadShort_at s x p W hx hs hp
  have HB0 : Hid (Below w.heap.size w (w.alloc (.cells #[.string ⟨#[]⟩, .string ⟨#[]⟩] 134)) ∧ BL (w.alloc (.cells #[.string ⟨#[]⟩, .string ⟨#[]⟩] 134)) w.heap.size ⟨#[]⟩ ⟨#[]⟩) := ⟨(Below.refl _ _).alloc (Nat.le_refl _) _, BL.new _ _ _⟩
  cases hq : LV.shortAt s p with
  | none =>
    have hl : LV.leafAt s p = none := by unfold LV.leafAt; rw [hq]
    have HL : Hid (RlP s p (.returned (.tuple #[.agg #[.string ⟨#[]⟩, .string ⟨#[]⟩], .int .i64 0, .bool false]))) := by unfold RlP; rw [hl]; exact ⟨_, _, rfl⟩
    simp only [hq] at h1
    clear hl hx
    go_enter Tryz.func138, Tryz.ntmps138
    go_wp2_with fail
    refine (h1 _).mono ?_
    rintro e w1 ⟨rfl, hb1⟩
    have hbl := HB0.out.2.later hb1
    have b1 := HB0.out.1.trans (hb1.mono HB0.out.1.size)
    have c0 := hbl.c0
    have c1 := hbl.c1
    have f0 := hbl.f0
    have f1 := hbl.f1
    have HF : Hid ((w1.setCells w.heap.size 0 [.string ⟨#[]⟩, .string ⟨#[]⟩]).rangeAt w.heap.size 0 [.string ⟨#[]⟩, .string ⟨#[]⟩] ∧ Below w.heap.size w (w1.setCells w.heap.size 0 [.string ⟨#[]⟩, .string ⟨#[]⟩])) := ⟨hbl.put _ _, below_setCells (Nat.le_refl _) _ _ _ b1⟩
    clear hb1 h1 hbl
    go_wp2
    exact ret_rec3 4 5 6 w.heap.size 134 [.string ⟨#[]⟩, .string ⟨#[]⟩] _ _ _ rfl rfl rfl rfl rfl Tryz.underlying134 rfl sizeLeaf HF.out.1 ⟨HL.out, HF.out.2⟩
  | some y =>
    obtain ⟨a, q⟩ := y
    obtain ⟨hpq, hqs, _⟩ := LV.shortAt_some hp hq
    have h2 := fun W => ReadShort_at s q q W rfl hs hqs
    simp only [hq] at h1
    cases hr : LV.shortAt s q with
    | none =>
      have hl : LV.leafAt s p = none := by unfold LV.leafAt; rw [hq]; simp only; rw [hr]
      have HL : Hid (RlP s p (.returned (.tuple #[.agg #[.string a, .string ⟨#[]⟩], .int .i64 0, .bool false]))) := by unfold RlP; rw [hl]; exact ⟨_, _, rfl⟩
      simp only [hr] at h2
      clear hl hx
      go_enter Tryz.func138, Tryz.ntmps138
      go_wp2_with fail
      refine (h1 _).mono ?_
      rintro e w1 ⟨rfl, hb1⟩
      have HB1 : Hid (Below w.heap.size w w1 ∧ BL w1 w.heap.size ⟨#[]⟩ ⟨#[]⟩) := ⟨HB0.out.1.trans (hb1.mono HB0.out.1.size), HB0.out.2.later hb1⟩
      clear hb1 h1 HB0
      go_wp2_with fail
      refine (h2 _).mono ?_
      rintro e w2 ⟨rfl, hb2⟩
      have hbl := HB1.out.2.later hb2
      have b1 := HB1.out.1.trans (hb2.mono HB1.out.1.size)
      have c0 := hbl.c0
      have c1 := hbl.c1
      have f0 := hbl.f0
      have f1 := hbl.f1
      have HF : Hid ((w2.setCells w.heap.size 0 [.string a, .string ⟨#[]⟩]).rangeAt w.heap.size 0 [.string a, .string ⟨#[]⟩] ∧ Below w.heap.size w (w2.setCells w.heap.size 0 [.string a, .string ⟨#[]⟩])) := ⟨hbl.put _ _, below_setCells (Nat.le_refl _) _ _ _ b1⟩
      clear hb2 h2 HB1 hbl
      go_wp2
      exact ret_rec3 4 5 6 w.heap.size 134 [.string a, .string ⟨#[]⟩] _ _ _ rfl rfl rfl rfl rfl Tryz.underlying134 rfl sizeLeaf HF.out.1 ⟨HL.out, HF.out.2⟩
    | some z =>
      obtain ⟨b, r⟩ := z
      have hl : LV.leafAt s p = some (⟨a, b⟩, r) := by unfold LV.leafAt; rw [hq]; simp only; rw [hr]
      have HL : Hid (RlP s p (.returned (.tuple #[.agg #[.string a, .string b], .int .i64 (r : Int), .bool true]))) := by unfold RlP; rw [hl]; rfl
      simp only [hr] at h2
      clear hl hx
      go_enter Tryz.func138, Tryz.ntmps138
      go_wp2_with fail
      refine (h1 _).mono ?_
      rintro e w1 ⟨rfl, hb1⟩
      have HB1 : Hid (Below w.heap.size w w1 ∧ BL w1 w.heap.size ⟨#[]⟩ ⟨#[]⟩) := ⟨HB0.out.1.trans (hb1.mono HB0.out.1.size), HB0.out.2.later hb1⟩
      clear hb1 h1 HB0
      go_wp2_with fail
      refine (h2 _).mono ?_
      rintro e w2 ⟨rfl, hb2⟩
      have hbl := HB1.out.2.later hb2
      have b1 := HB1.out.1.trans (hb2.mono HB1.out.1.size)
      have c0 := hbl.c0
      have c1 := hbl.c1
      have f0 := hbl.f0
      have f1 := hbl.f1
      have HF : Hid ((w2.setCells w.heap.size 0 [.string a, .string b]).rangeAt w.heap.size 0 [.string a, .string b] ∧ Below w.heap.size w (w2.setCells w.heap.size 0 [.string a, .string b])) := ⟨hbl.put _ _, below_setCells (Nat.le_refl _) _ _ _ b1⟩
      clear hb2 h2 HB1 hbl
      go_wp2
      exact ret_rec3 4 5 6 w.heap.size 134 [.string a, .string b] _ _ _ rfl rfl rfl rfl rfl Tryz.underlying134 rfl sizeLeaf HF.out.1 ⟨HL.out, HF.out.2⟩

/-- what readLeaves answers -/
def RvP (s : ByteArray) (p : Nat) (w : World) (e : Ending) (w' : World) : Prop := match LV.rawL s p with
  | none => e = .returned (.tuple #[.slice none 0 0, .int .i64 0, .bool false])
  | some (l, q) => ∃ g, e = .returned (.tuple #[.slice (some ⟨g, 0, none⟩) l.length l.length, .int .i64 (q : Int), .bool (LV.leavesB l)]) ∧ w.heap.size ≤ g ∧ RW 2 lcs w' (.slice (some ⟨g, 0, none⟩) l.length l.length) g l

/-- the first m leaves of the row that is made are read, and the place is behind them -/
def RvR (s : ByteArray) (n p : Nat) (w : World) (x i : Value) (wr : World) : Prop := ∃ (m q : Nat) (l : List Le), m ≤ n ∧ i = .int .i64 m ∧ x = .int .i64 (q : Int) ∧ q ≤ s.size ∧
  Hid (LV.leavesF s m p = some (l, q) ∧ (∀ j (h : j < l.length), wr.rangeAt w.heap.size (j * 2) (lcs l[j])) ∧ (∀ j, j < n → wr.there w.heap.size (j * 2) 2) ∧ Below w.heap.size w wr ∧ w.heap.size < wr.heap.size)

theorem leavesF_more {s : ByteArray} {m p q r : Nat} {l : List Le} {f : Le} (h : LV.leavesF s m p = some (l, q)) (hf : LV.leafAt s q = some (f, r)) : LV.leavesF s (m + 1) p = some (l ++ [f], r) := by
  rw [LV.leavesF_snoc, h]
  simp only
  rw [hf]
theorem leavesF_ends {s : ByteArray} {m p q : Nat} {l : List Le} (h : LV.leavesF s m p = some (l, q)) (hf : LV.leafAt s q = none) : LV.leavesF s (m + 1) p = none := by
  rw [LV.leavesF_snoc, h]
  simp only
  rw [hf]

end Go.Proofs.YthlgohplljcgfaaGreatDoor
/-
  A leaf copied: the program's answer.
-/
namespace Go.Proofs.YthlgohplljcgfaaGreatDoor
open Go.RowKit Go.BigFrame Go.Sort
set_option linter.unusedVariables false
set_option linter.unusedSimpArgs false

set_option maxRecDepth 100000 in
set_option maxHeartbeats 1000000 in
theorem copiedL_any (f : Le) (w : World) (hn : f.n.size ≤ 1048576) (hv : f.v.size ≤ 1048576) : Calls Tryz.prog 127 #[.agg #[.string f.n, .string f.v]] w fun e w' => e = .returned (.agg #[.string f.n, .string f.v]) ∧ Below w.heap.size w w' := by
  obtain ⟨x, t⟩ := f
  simp only at hn hv ⊢
  have hb0 : Below w.heap.size w ((w.alloc (.cells #[.string x, .string t] 134)).alloc (.cells #[.string ⟨#[]⟩, .string ⟨#[]⟩] 134)) := ((Below.refl _ _).alloc (Nat.le_refl _) _).alloc (by simp) _
  have hG1 : BL ((w.alloc (.cells #[.string x, .string t] 134)).alloc (.cells #[.string ⟨#[]⟩, .string ⟨#[]⟩] 134)) w.heap.size x t := alloc_snd _ _ _ rfl
  have hG2 : BL ((w.alloc (.cells #[.string x, .string t] 134)).alloc (.cells #[.string ⟨#[]⟩, .string ⟨#[]⟩] 134)) (w.heap.size + 1) ⟨#[]⟩ ⟨#[]⟩ := alloc_fst _ _ (by simp)
  have hs0 : ((w.alloc (.cells #[.string x, .string t] 134)).alloc (.cells #[.string ⟨#[]⟩, .string ⟨#[]⟩] 134)).heap.size = w.heap.size + 2 := by simp
  have HK : Hid (∀ W, Below ((w.alloc (.cells #[.string x, .string t] 134)).alloc (.cells #[.string ⟨#[]⟩, .string ⟨#[]⟩] 134)).heap.size ((w.alloc (.cells #[.string x, .string t] 134)).alloc (.cells #[.string ⟨#[]⟩, .string ⟨#[]⟩] 134)) W → W.cell? ⟨w.heap.size, 0, none⟩ = some (.string x) ∧ W.cell? ⟨w.heap.size, 1, none⟩ = some (.string t)) := fun W hW => ⟨(hG1.later hW).c0, (hG1.later hW).c1⟩
  have HK2 : Hid (∀ W, Below ((w.alloc (.cells #[.string x, .string t] 134)).alloc (.cells #[.string ⟨#[]⟩, .string ⟨#[]⟩] 134)).heap.size ((w.alloc (.cells #[.string x, .string t] 134)).alloc (.cells #[.string ⟨#[]⟩, .string ⟨#[]⟩] 134)) W → BL W (w.heap.size + 1) ⟨#[]⟩ ⟨#[]⟩) := fun W hW => hG2.later hW
  have HB0 : Hid (Below w.heap.size w ((w.alloc (.cells #[.string x, .string t] 134)).alloc (.cells #[.string ⟨#[]⟩, .string ⟨#[]⟩] 134)) ∧ w.heap.size ≤ ((w.alloc (.cells #[.string x, .string t] 134)).alloc (.cells #[.string ⟨#[]⟩, .string ⟨#[]⟩] 134)).heap.size) := ⟨hb0, by rw [hs0]; omega⟩
  have hb : Below ((w.alloc (.cells #[.string x, .string t] 134)).alloc (.cells #[.string ⟨#[]⟩, .string ⟨#[]⟩] 134)).heap.size ((w.alloc (.cells #[.string x, .string t] 134)).alloc (.cells #[.string ⟨#[]⟩, .string ⟨#[]⟩] 134)) ((w.alloc (.cells #[.string x, .string t] 134)).alloc (.cells #[.string ⟨#[]⟩, .string ⟨#[]⟩] 134)).drew := (Below.refl _ _).drew
  clear hb0 hG1 hG2 hs0
  go_enter Tryz.func127, Tryz.ntmps127
  go_wp2
  go_region_held3 (fun W => W.cell? ⟨w.heap.size, 0, none⟩ = some (.string x) ∧ W.cell? ⟨w.heap.size, 1, none⟩ = some (.string t)) (first | go_keep | exact HK.out _ hb) ((go_at_call 110; refine (Clone_any _ _ (by first | exact hn | exact hv)).mono ?_; rintro e w1 ⟨rfl, hb1'⟩; have hb := hb.trans (hb1'.mono hb.size); have t0 := (HK2.out _ hb).c0; have t1 := (HK2.out _ hb).c1; have g0 := (HK2.out _ hb).f0; have g1 := (HK2.out _ hb).f1))
  have HF : Hid ((w1.setCells (w.heap.size + 1) 0 [.string x, .string t]).rangeAt (w.heap.size + 1) 0 [.string x, .string t] ∧ Below w.heap.size w (w1.setCells (w.heap.size + 1) 0 [.string x, .string t])) :=
    ⟨(HK2.out _ hb).put x t, below_setCells (by omega) _ _ _ (HB0.out.1.trans (hb.mono HB0.out.2))⟩
  go_wp2
  exact ret_rec 2 (w.heap.size + 1) 134 [.string x, .string t] _ rfl rfl rfl Tryz.underlying134 rfl sizeLeaf HF.out.1 ⟨rfl, HF.out.2⟩

end Go.Proofs.YthlgohplljcgfaaGreatDoor
/-
  A row of leaves copied: the program's answer.
-/
namespace Go.Proofs.YthlgohplljcgfaaGreatDoor
open Go.RowKit Go.BigFrame Go.Sort
set_option linter.unusedVariables false
set_option linter.unusedSimpArgs false

set_option maxRecDepth 100000 in
set_option maxHeartbeats 400000 in
theorem leavesCopy_any (v : Value) (ga oa : Nat) (l : List Le) (w : World) (hv : RS 2 lcs w v ga oa l) (hsm : SmallL l) :
    Calls Tryz.prog 95 #[v] w fun e w' => ∃ g, e = .returned (.slice (some ⟨g, 0, none⟩) l.length l.length) ∧ w.heap.size ≤ g ∧ RW 2 lcs w' (.slice (some ⟨g, 0, none⟩) l.length l.length) g l ∧ Below w.heap.size w w' := by
  have HV : Hid (RS 2 lcs w v ga oa l ∧ SmallL l) := ⟨hv, hsm⟩
  obtain ⟨a, cap, rfl, hl, hA, hc⟩ := hv
  obtain ⟨n, hn⟩ : ∃ n, l.length = n := ⟨_, rfl⟩
  obtain ⟨w2, hmk, hib, hb2, hs2⟩ := made_leaves n (by omega) w
  have HST : Hid (ToL w l w.heap.size w.heap.size (.int .i64 0) w2 ∧ w.heap.size < w2.heap.size) := ⟨⟨0, by omega, rfl, fun j _ h => by omega, by rw [hn]; exact hib, hb2⟩, by omega⟩
  have HA : Hid (0 < n → a = some ⟨ga, oa, none⟩) := by rw [← hn]; exact fun h => (hA h).1
  rw [hn] at hl ⊢
  clear hib hb2 hs2 hA hc hsm
  go_enter Tryz.func95, Tryz.ntmps95
  go_wp2
  clear hmk
  go_loopw [11] (fun i wr => ToL w l w.heap.size w.heap.size i wr ∧ w.heap.size < wr.heap.size) (fun i _ => n - (intOf i).toNat)
  case atStart => exact HST.out
  case round =>
    obtain ⟨⟨m, hm, rfl, h1, h2, hbel⟩, hws⟩ := hrel
    have HI : Hid ((∀ j (h : j < l.length), j < m → wr.rangeAt w.heap.size (j * 2) (lcs l[j])) ∧ (∀ j, j < l.length → wr.there w.heap.size (j * 2) 2) ∧ Below w.heap.size w wr) := ⟨h1, h2, hbel⟩
    clear HST h1 h2 hbel
    rw [hn] at hm
    by_cases hlt : m < n
    · have ea := HA.out (by omega)
      subst ea
      obtain ⟨c0, c1⟩ := (HV.out.1.later HI.out.2.2).leaf m (by omega)
      obtain ⟨X, hX⟩ : ∃ X, l[m]'(by omega) = X := ⟨_, rfl⟩
      rw [hX] at c0 c1
      have hxs := HV.out.2 X (by rw [← hX]; exact List.getElem_mem _)
      have HX : Hid (l[m]'(by omega) = X) := hX
      have i1 : (m : Int) < (n : Int) := by omega
      have i2 : (0 : Int) ≤ (m : Int) := by omega
      have hba : Below wr.heap.size wr (wr.alloc (.cells #[.string X.n, .string X.v] 134)) := (Below.refl _ _).alloc (Nat.le_refl _) _
      clear hX HV HA
      go_wp2_with fail
      refine (copiedL_any X _ hxs.1 hxs.2).mono ?_
      rintro e w1 ⟨rfl, hb1'⟩
      have hb1 : Below wr.heap.size wr w1 := hba.trans (hb1'.mono hba.size)
      have HJ : Hid ((∀ j (h : j < l.length), j < m + 1 → (w1.setCells w.heap.size (m * 2) (lcs X)).rangeAt w.heap.size (j * 2) (lcs l[j])) ∧ (∀ j, j < l.length → (w1.setCells w.heap.size (m * 2) (lcs X)).there w.heap.size (j * 2) 2) ∧ Below w.heap.size w (w1.setCells w.heap.size (m * 2) (lcs X))) := by
        have h := ToL.set (w := w) (wr := w1) (l := l) (g := w.heap.size) (m := m) (B := w.heap.size) (by omega) (Nat.le_refl _) (fun j hj h => range_kept (HI.out.1 j hj h) (hb1.block _ hws)) (fun j hj => there_kept (HI.out.2.1 j hj) (hb1.block _ hws)) (HI.out.2.2.trans (hb1.mono HI.out.2.2.size))
        rw [HX.out] at h
        exact h
      have HT : Hid (w1.there w.heap.size (m * 2) 2) := there_kept (HI.out.2.1 m (by omega)) (hb1.block _ hws)
      have hws1 : w.heap.size < (w1.setCells w.heap.size (m * 2) (lcs X)).heap.size := by rw [size_setCells]; exact Nat.lt_of_lt_of_le hws hb1.size
      clear hb1 hb1' hba HI c0 c1 hxs
      obtain ⟨⟨o0, x0⟩, ⟨o1, x1⟩, f0, f1⟩ := there2 HT.out
      go_wp2
      go_roundw
      case rel => exact ⟨⟨m + 1, by omega, by go_num, HJ.out⟩, hws1⟩
      case measure => simp [intOf]; omega
    · have hme : m = n := by omega
      subst hme
      clear HV HA
      go_wp2
      go_ret
      refine ⟨w.heap.size, rfl, Nat.le_refl _, ⟨⟨_, _, by rw [hn], by omega, fun _ => ⟨rfl, hws⟩, fun j hj => ?_⟩, HI.out.2.1⟩, HI.out.2.2⟩
      rw [Nat.zero_add]
      exact HI.out.1 j hj (by omega)

end Go.Proofs.YthlgohplljcgfaaGreatDoor
