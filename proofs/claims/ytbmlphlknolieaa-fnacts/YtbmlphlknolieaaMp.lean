/-
  Files behind pointers in a map: the map as a plain list of files, and what a look-up, a store and a delete make of it.
-/
import Derived.Test.YtbmlphlknolieaaSp
import Derived.Maps.OwnSet
import Derived.StringKeys
import Derived.Sort.KeysCollected
namespace Go.Proofs.Ytbmlphlknolieaa
open Go.RowKit Go.BigFrame Go.Sort Go.Maps
set_option linter.unusedVariables false
set_option linter.unusedSimpArgs false

/-- how a pointer to the head of a block is read -/
def ptrR : Value → Option (DataW Unit × List MemPlace)
  | .pointer none => some (.nil, [])
  | .pointer (some a) => if a.off = 0 ∧ a.spot = none then some (.lit (.int .i64 (a.block : Int)), []) else none
  | _ => none
theorem ptrR_ptr (g : Nat) : ptrR (.pointer (some ⟨g, 0, none⟩)) = some (.lit (.int .i64 (g : Int)), []) := by simp [ptrR]
theorem ptrR_nil {v : Value} {ps : List MemPlace} (h : ptrR v = some (.nil, ps)) : v = .pointer none := by
  unfold ptrR at h
  split at h
  · rfl
  · split at h
    · cases h
    · cases h
  · cases h
theorem ptrR_at {v : Value} {n : Nat} {ps : List MemPlace} (h : ptrR v = some (.lit (.int .i64 (n : Int)), ps)) : v = .pointer (some ⟨n, 0, none⟩) := by
  unfold ptrR at h
  split at h
  · cases h
  · rename_i a
    split at h
    · rename_i hc
      obtain ⟨b, o, s⟩ := a
      simp at hc h
      obtain ⟨rfl, rfl⟩ := hc
      have : b = n := by omega
      subst this
      rfl
    · cases h
  · cases h

def kl (x : ByteArray) : Lit := .string x.data.toList
theorem kl_inj {x y : ByteArray} (h : kl x = kl y) : x = y := by
  unfold kl at h
  simp at h
  exact F.toList_inj (by rw [F.toList_data, F.toList_data, h])
theorem key9 (x : ByteArray) (hx : x.size ≤ 2000000) : keyOf Try.prog 9 (.string x) = some (kl x) := Go.WideMaps.keyOf_string_mk Try.underlying9 (by unfold maxLen; omega)
theorem law9 : Keyed Try.prog 9 := string_keyed Try.underlying9
theorem zeroP (w : World) : (zeroValue 111).run Try.prog w = .ok (.pointer none) w := by kernel_rfl

/-- the map that lies in block b holds just the names of L, each with the block that p names -/
def FM (B : Nat) (w0 w : World) (b : Nat) (L : List Fl) (p : ByteArray → Nat) : Prop :=
  (∃ D : DataW Unit, w.ownsMap Try.prog 9 ptrR b (Maps.size D) D ∧ (∀ x : ByteArray, Maps.has D (kl x) = true ↔ ∃ f ∈ L, f.n = x) ∧ (∀ f ∈ L, D.atKey (kl f.n) .nil = .lit (.int .i64 (p f.n : Int))) ∧ Maps.size D ≤ 100000)
    ∧ (∀ f ∈ L, ∀ g ∈ L, p f.n = p g.n → f.n = g.n) ∧ B ≤ b ∧ Below B w0 w ∧ B ≤ w.heap.size
/-- .. and there the files lie -/
def FF (B : Nat) (w : World) (L : List Fl) (p : ByteArray → Nat) : Prop := ∀ f ∈ L, w.heap[p f.n]? = some (.cells #[.string f.n, .string f.t, .int .i64 f.k] 36 (0, 0)) ∧ B ≤ p f.n

theorem tight {w : World} {b n : Nat} {D : DataW Unit} (h : w.ownsMap Try.prog 9 ptrR b n D) : w.ownsMap Try.prog 9 ptrR b (Maps.size D) D := by
  obtain ⟨es, clock, hb, F, hs, rfl⟩ := h
  refine ⟨es, clock, hb, F, ?_, rfl⟩
  show es.size ≤ _
  rw [Maps.size_eq, length_sorted]
  simp
theorem FM.later {B : Nat} {w0 w w' : World} {b : Nat} {L : List Fl} {p : ByteArray → Nat} (h : FM B w0 w b L p) (hb : Below w.heap.size w w') : FM B w0 w' b L p := by
  obtain ⟨⟨D, ho, h1, h2, h3⟩, h4, h5, h6, h7⟩ := h
  exact ⟨⟨D, ho.kept (row := none) (grown_below hb) (by simp), h1, h2, h3⟩, h4, h5, h6.trans (hb.mono h7), Nat.le_trans h7 hb.size⟩
theorem FM.isMap {B : Nat} {w0 w : World} {b : Nat} {L : List Fl} {p : ByteArray → Nat} (h : FM B w0 w b L p) : ∃ es c, w.heap[b]? = some (.map es c) := by
  obtain ⟨⟨D, ⟨es, c, hb, _⟩, _⟩, _⟩ := h
  exact ⟨es, c, hb⟩
/-- a cell of a block that is no map is written -/
theorem FM.set {B : Nat} {w0 w : World} {b : Nat} {L : List Fl} {p : ByteArray → Nat} (h : FM B w0 w b L p) {g : Nat} (hg : B ≤ g) {cs : Array Value} {T : Nat} (hc : w.heap[g]? = some (.cells cs T (0, 0))) (j : Nat) (v : Value) : FM B w0 (w.setCell ⟨g, j, none⟩ v) b L p := by
  have hbm := h.isMap
  obtain ⟨⟨D, ho, h1, h2, h3⟩, h4, h5, h6, h7⟩ := h
  have hne : b ≠ g := fun e => by
    subst e
    obtain ⟨es, c, hb⟩ := hbm
    rw [hb] at hc
    cases hc
  exact ⟨⟨D, ho.setCell (a := ⟨g, j, none⟩) hne _, h1, h2, h3⟩, h4, h5, h6.setCell (p := ⟨g, j, none⟩) hg _, by simpa using h7⟩
theorem FM.ne {B : Nat} {w0 w : World} {b : Nat} {L : List Fl} {p : ByteArray → Nat} (h : FM B w0 w b L p) {g : Nat} {cs : Array Value} {T : Nat} (hc : w.heap[g]? = some (.cells cs T (0, 0))) : g ≠ b := fun e => by
  subst e
  obtain ⟨es, c, hb⟩ := h.isMap
  rw [hb] at hc
  cases hc

/-- a look-up -/
theorem FM.look {B : Nat} {w0 w : World} {b : Nat} {L : List Fl} {p : ByteArray → Nat} (h : FM B w0 w b L p) (x : ByteArray) (hx : x.size ≤ 2000000) :
    (Instr.lookup 84 (.map (some b)) (.string x) false).run Try.prog w = .ok (match F.find L x with | some _ => .pointer (some ⟨p x, 0, none⟩) | none => .pointer none) w := by
  obtain ⟨⟨D, ho, h1, h2, h3⟩, _⟩ := h
  obtain ⟨v, ps, hrun, hv⟩ := ho.lookup law9 Try.underlying84 (zeroP w) (zd := .nil) (zp := []) rfl (key9 x hx)
  rw [hrun]
  cases hf : F.find L x with
  | none =>
    have hh : Maps.has D (kl x) = false := by
      cases hb : Maps.has D (kl x)
      · rfl
      · obtain ⟨f, hfL, hfx⟩ := (h1 x).1 hb
        exact absurd hfx (F.find_none hf f hfL)
    rw [Maps.atKey_of_not_has hh] at hv
    rw [ptrR_nil hv]
  | some f =>
    obtain ⟨hfL, hfx⟩ := F.find_some hf
    have := h2 f hfL
    rw [hfx] at this
    rw [this] at hv
    rw [ptrR_at hv]

/-- the block of a name turned -/
def upd (p : ByteArray → Nat) (x : ByteArray) (g : Nat) : ByteArray → Nat := fun y => if y = x then g else p y
theorem upd_same (p : ByteArray → Nat) (x : ByteArray) (g : Nat) : upd p x g x = g := if_pos rfl
theorem upd_other (p : ByteArray → Nat) {x y : ByteArray} (g : Nat) (h : y ≠ x) : upd p x g y = p y := if_neg h

/-- a store -/
theorem FM.store {B : Nat} {w0 w : World} {b : Nat} {L : List Fl} {p : ByteArray → Nat} (h : FM B w0 w b L p) (f : Fl) (hx : f.n.size ≤ 2000000) (g : Nat) (hne : ∀ h ∈ L, h.n ≠ f.n → p h.n ≠ g) (hsz : ∀ D : DataW Unit, w.ownsMap Try.prog 9 ptrR b (Maps.size D) D → Maps.size D ≤ 99999) :
    ∃ w', (Instr.mapUpdate 84 (.map (some b)) (.string f.n) (.pointer (some ⟨g, 0, none⟩))).run Try.prog w = .ok () w' ∧ FM B w0 w' b (F.put L f) (upd p f.n g) ∧ w.grownBy w' (some b) := by
  obtain ⟨⟨D, ho, h1, h2, h3⟩, h4, h5, h6, h7⟩ := h
  have hs := hsz D ho
  obtain ⟨w', hrun, ho', hg⟩ := ho.update law9 Try.underlying84 (by unfold maxLen; omega) (key9 f.n hx) (ptrR_ptr g)
  have hm := ho.isMap
  have hsp := ho'.size_le
  refine ⟨w', hrun, ⟨⟨D.put (kl f.n) (.lit (.int .i64 (g : Int))), tight ho', fun y => ?_, fun q hq => ?_, by omega⟩, fun q hq r hr e => ?_, h5, h6.grown hg h7 (fun k hk => by cases hk; exact h5), Nat.le_trans h7 hg.size⟩, hg⟩
  · by_cases e : y = f.n
    · subst e
      rw [Maps.has_put_same hm (show WideAt.IsKeyLit (kl f.n) from trivial)]
      exact ⟨fun _ => ⟨f, F.mem_put.2 (.inl rfl), rfl⟩, fun _ => rfl⟩
    · rw [Maps.has_put_other (fun h => e (kl_inj h)), h1 y]
      constructor
      · rintro ⟨q, hq, rfl⟩
        exact ⟨q, F.mem_put.2 (.inr ⟨hq, e⟩), rfl⟩
      · rintro ⟨q, hq, rfl⟩
        rcases F.mem_put.1 hq with rfl | ⟨h8, _⟩
        · exact absurd rfl e
        · exact ⟨q, h8, rfl⟩
  · rcases F.mem_put.1 hq with rfl | ⟨h8, h9⟩
    · rw [Maps.atKey_put_same hm (show WideAt.IsKeyLit (kl q.n) from trivial), upd_same]
    · rw [Maps.atKey_put_other (fun h => h9 (kl_inj h)), upd_other p g h9]
      exact h2 q h8
  · rcases F.mem_put.1 hq with rfl | ⟨h8, h9⟩
    · rcases F.mem_put.1 hr with rfl | ⟨h10, h11⟩
      · rfl
      · rw [upd_same, upd_other p g h11] at e
        exact absurd e.symm (hne r h10 h11)
    · rcases F.mem_put.1 hr with rfl | ⟨h10, h11⟩
      · rw [upd_same, upd_other p g h9] at e
        exact absurd e (hne q h8 h9)
      · rw [upd_other p g h9, upd_other p g h11] at e
        exact h4 q h8 r h10 e

/-- a delete -/
theorem FM.del {B : Nat} {w0 w : World} {b : Nat} {L : List Fl} {p : ByteArray → Nat} (h : FM B w0 w b L p) (x : ByteArray) (hx : x.size ≤ 2000000) (ty : TypeId) :
    ∃ w', (Builtin.delete_ #[84, 9] ty #[.map (some b), .string x]).run Try.prog w = .ok (.tuple #[]) w' ∧ FM B w0 w' b (F.wout L x) p ∧ w.grownBy w' (some b) := by
  obtain ⟨⟨D, ho, h1, h2, h3⟩, h4, h5, h6, h7⟩ := h
  obtain ⟨w', hrun, ho', ht⟩ := ho.drop law9 Try.underlying84 (key9 x hx) ty
  have hg := ht.grown
  have hsp := ho'.size_le
  refine ⟨w', hrun, ⟨⟨D.del (kl x), tight ho', fun y => ?_, fun q hq => ?_, by omega⟩, fun q hq r hr e => h4 q (F.mem_wout.1 hq).1 r (F.mem_wout.1 hr).1 e, h5, h6.grown hg h7 (fun k hk => by cases hk; exact h5), Nat.le_trans h7 hg.size⟩, hg⟩
  · by_cases e : y = x
    · subst e
      rw [Maps.has_del_same]
      constructor
      · intro h; cases h
      · rintro ⟨q, hq, rfl⟩
        exact absurd rfl (F.mem_wout.1 hq).2
    · rw [Maps.has_del_other (fun h => e (kl_inj h)), h1 y]
      constructor
      · rintro ⟨q, hq, rfl⟩
        exact ⟨q, F.mem_wout.2 ⟨hq, e⟩, rfl⟩
      · rintro ⟨q, hq, rfl⟩
        exact ⟨q, (F.mem_wout.1 hq).1, rfl⟩
  · obtain ⟨h8, h9⟩ := F.mem_wout.1 hq
    rw [Maps.atKey_del_other (fun h => h9 (kl_inj h))]
    exact h2 q h8

/-- the keys of the map are the names of the list -/
theorem FM.keys {B : Nat} {w0 w : World} {b : Nat} {L : List Fl} {p : ByteArray → Nat} (h : FM B w0 w b L p) (hL : F.Srt L) :
    ∃ D : DataW Unit, w.ownsMap Try.prog 9 ptrR b (Maps.size D) D ∧ (L.map fun f => f.n.data.toList).Perm (strKeys D) ∧ Maps.size D = L.length := by
  obtain ⟨⟨D, ho, h1, h2, h3⟩, _⟩ := h
  obtain ⟨es, rfl, hp⟩ := ho.tidy law9
  obtain ⟨es', e, hk⟩ := ho.keysOf
  have e2 : es = es' := by injection e
  subst e2
  have hperm : (L.map fun f => f.n.data.toList).Perm (strKeys (.map es)) := by
    refine perm_strKeys hp (fun q hq => ?_) ?_ (fun x => ?_)
    · obtain ⟨key, hkey⟩ := hk q hq
      obtain ⟨x, _, hx, _⟩ := Maps.keyOf_str Try.underlying9 hkey
      exact ⟨x, hx⟩
    · refine List.pairwise_map.2 (hL.imp fun {f g} hfg e => ?_)
      exact F.ltN_ne hfg (F.toList_inj (by rw [F.toList_data, F.toList_data]; exact e))
    · have := h1 ⟨x.toArray⟩
      have e3 : kl ⟨x.toArray⟩ = .string x := by simp [kl]
      rw [e3] at this
      rw [this, List.mem_map]
      constructor
      · rintro ⟨f, hf, rfl⟩
        exact ⟨f, hf, ByteArray.ext (by simp)⟩
      · rintro ⟨f, hf, hx⟩
        exact ⟨f, hf, by rw [hx]⟩
  refine ⟨.map es, ho, hperm, ?_⟩
  have := hperm.length_eq
  simp [strKeys] at this
  rw [Maps.size_eq]
  omega
theorem FM.size {B : Nat} {w0 w : World} {b : Nat} {L : List Fl} {p : ByteArray → Nat} (h : FM B w0 w b L p) (hL : F.Srt L) (D : DataW Unit) (ho : w.ownsMap Try.prog 9 ptrR b (Maps.size D) D) : Maps.size D = L.length := by
  obtain ⟨D', ho', _, hs⟩ := h.keys hL
  obtain ⟨es, c, hb, _, _, hD⟩ := ho
  obtain ⟨es', c', hb', _, _, hD'⟩ := ho'
  have e : es = es' ∧ c = c' := by
    rw [hb] at hb'
    injection hb' with h1
    injection h1 with h2 h3
    exact ⟨h2, h3⟩
  rw [hD, e.1, ← hD']
  exact hs
theorem FM.len {B : Nat} {w0 w : World} {b : Nat} {L : List Fl} {p : ByteArray → Nat} (h : FM B w0 w b L p) (hL : F.Srt L) (ty : TypeId) : (Builtin.len_ #[84] ty #[.map (some b)]).run Try.prog w = .ok (.int .i64 (L.length : Int)) w := by
  obtain ⟨D, ho, _, hs⟩ := h.keys hL
  have := ho.len Try.underlying84 ty
  rw [hs] at this
  exact this

theorem FF.grown {B : Nat} {w0 w w' : World} {b : Nat} {L : List Fl} {p : ByteArray → Nat} (h : FF B w L p) (hm : FM B w0 w b L p) (hg : w.grownBy w' (some b)) : FF B w' L p := fun f hf =>
  ⟨(hg.block _ (Array.getElem?_eq_some_iff.1 (h f hf).1).1 (by simpa using hm.ne (h f hf).1)).trans (h f hf).1, (h f hf).2⟩
theorem FF.later {B : Nat} {w w' : World} {L : List Fl} {p : ByteArray → Nat} (h : FF B w L p) (hb : Below w.heap.size w w') : FF B w' L p := fun f hf =>
  ⟨(hb.block _ (Array.getElem?_eq_some_iff.1 (h f hf).1).1).trans (h f hf).1, (h f hf).2⟩

end Go.Proofs.Ytbmlphlknolieaa
