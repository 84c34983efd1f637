/-
  Three rows of texts that grow; two arrays of texts compared; the keys that a signature opens and shuts.
-/
import Derived.Test.YtmfoliocibjdnaaDoorSgw
import Derived.ChangeKeysEq
import Derived.Laws.StructEq
namespace Go.Proofs.YtmfoliocibjdnaaDoor
open Go.RowKit Go.BigFrame
set_option linter.unusedVariables false
set_option linter.unusedSimpArgs false

theorem part_T (l : List ByteArray) (i : Nat) (h : i < l.length) (W : World) : (Go.part 9 (svs l).toArray (i * 1)).run Tryd.prog W = .ok (.string (gB l i)) W := by
  rw [← gB_eq l i h]
  simp [Go.part, isAgg, run_underlying Tryd.underlying9, svs, h]
theorem eqItems_T (d : Nat) (l r : List ByteArray) (W : World) : ∀ (is : List Nat), (∀ i ∈ is, i < l.length ∧ i < r.length) →
    (Op.eqItems (d + 1) 9 1 (svs l).toArray (svs r).toArray is).run Tryd.prog W = .ok (is.all fun i => decide (gB l i = gB r i)) W
  | [], _ => by simp [Op.eqItems]
  | i :: is, h => by
    have hi := h i (by simp)
    have ih := eqItems_T d l r W is (fun j hj => h j (by simp [hj]))
    have he := run_equalIn_string (P := Tryd.prog) W d 9 (gB l i) (gB r i) Tryd.underlying9
    have hb : ((gB l i).toList == (gB r i).toList) = decide (gB l i = gB r i) := by
      rw [Bool.eq_iff_iff, beq_iff_eq, decide_eq_true_eq, ByteArray.toList_eq, ByteArray.toList_eq]
      exact ⟨fun h => ByteArray.ext (Array.toList_inj.1 h), fun h => by rw [h]⟩
    rw [hb] at he
    simp only [Op.eqItems, Sem.run_bind, part_T l i hi.1 W, part_T r i hi.2 W, he, Result.andThen_ok, List.all_cons]
    cases hd : decide (gB l i = gB r i)
    · simp
    · simpa using ih
theorem same_all (l r : List ByteArray) (h : l.length = r.length) : ((List.range l.length).all fun i => decide (gB l i = gB r i)) = decide (l = r) := by
  rw [Bool.eq_iff_iff]
  simp only [List.all_eq_true, List.mem_range, decide_eq_true_eq]
  constructor
  · intro hh
    refine List.ext_getElem h fun i h1 h2 => ?_
    rw [gB_eq, gB_eq]
    exact hh i h1
  · rintro rfl i _
    rfl
/-- two pools compared -/
theorem eqT (l r : List ByteArray) (hl : l.length = 16) (hr : r.length = 16) (W : World) : (Op.equalIn 10000 118 (.agg (svs l).toArray) (.agg (svs r).toArray)).run Tryd.prog W = .ok (decide (l = r)) W := by
  obtain ⟨i0, hi, hz0, hz1, hz2⟩ := info_parts Tryd.info9
  have hc : Tryd.prog.cellsOf 9 = 1 := by kernel_rfl
  rw [show (10000 : Nat) = 9999 + 1 from rfl, run_equalIn_array W 9999 (svs l).toArray (svs r).toArray Tryd.underlying118 hi, hc, show (9999 : Nat) = 9998 + 1 from rfl, eqItems_T 9998 l r W _ (fun i h => by simp at h; omega), ← same_all l r (by omega), hl]
theorem set_same (l : List ByteArray) (k : Nat) (x : ByteArray) (hk : k < l.length) : decide (l = l.set k x) = decide (gB l k = x) := by
  rw [Bool.eq_iff_iff]
  simp only [decide_eq_true_eq]
  rw [← gB_eq l k hk]
  constructor
  · intro h
    have h2 : l[k]? = (l.set k x)[k]? := by rw [← h]
    rw [List.getElem?_eq_getElem hk, List.getElem?_set_self hk] at h2
    simpa using h2
  · intro h
    rw [← h, List.set_getElem_self]

/-- three rows of texts, each with memory of its own -/
def TrR (B : Nat) (w0 w : World) (u v s : Value) (l r q : List ByteArray) : Prop := TwR B w0 w u v l r ∧ TwR B w0 w u s l q ∧ TwR B w0 w v s r q
theorem TrR.later {B : Nat} {w0 w w' : World} {u v s : Value} {l r q : List ByteArray} (h : TrR B w0 w u v s l r q) (hb : Below w.heap.size w w') : TrR B w0 w' u v s l r q := ⟨h.1.later hb, h.2.1.later hb, h.2.2.later hb⟩
theorem TrR.rot {B : Nat} {w0 w : World} {u v s : Value} {l r q : List ByteArray} (h : TrR B w0 w u v s l r q) : TrR B w0 w v s u r q l := ⟨h.2.2, h.1.swap, h.2.1.swap⟩
theorem TrR.below {B : Nat} {w0 w : World} {u v s : Value} {l r q : List ByteArray} (h : TrR B w0 w u v s l r q) : Below B w0 w := h.1.1.2.1
theorem TwR.kept {B : Nat} {w0 w w' : World} {u v : Value} {l r : List ByteArray} {row : Option Nat} (h : TwR B w0 w u v l r) (hg : w.grownBy w' row) (hB : ∀ k, row = some k → B ≤ k) (h1 : u.ownBlock = none ∨ u.ownBlock ≠ row) (h2 : v.ownBlock = none ∨ v.ownBlock ≠ row) : TwR B w0 w' u v l r :=
  ⟨h.1.kept hg hB h1, h.2.1.kept hg hB h2, h.2.2⟩
theorem OS.neS {B g : Nat} {w0 w : World} {v v1 v2 v3 : Value} {x : Int} {r : List ByteArray} (ho : OS B w0 w v r) (h : SgM w g x v1 v2 v3) : v.ownBlock = none ∨ v.ownBlock ≠ some g := by
  rcases ho.1.2 with ⟨rfl, _⟩ | ⟨g', cap, cur, rfl, _, hg', _⟩
  · exact .inl rfl
  · refine .inr fun he => ?_
    simp [Value.ownBlock] at he
    subst he
    unfold SgM at h
    rw [h] at hg'
    simp at hg'
theorem TrR.set {B : Nat} {w0 w : World} {u v s v1 v2 v3 : Value} {l r q : List ByteArray} {p : Nat} {x : Int} (h : TrR B w0 w u v s l r q) (hs : SgM w p x v1 v2 v3) (hB : B ≤ p) (j : Nat) (y : Value) : TrR B w0 (w.setCell ⟨p, j, none⟩ y) u v s l r q := by
  have hg := grown_set w p j y
  have hb : ∀ k, some p = some k → B ≤ k := fun k hk => by simp at hk; omega
  have n1 := h.1.1.neS hs
  have n2 := h.1.2.1.neS hs
  have n3 := h.2.1.2.1.neS hs
  exact ⟨h.1.kept hg hb n1 n2, h.2.1.kept hg hb n1 n3, h.2.2.kept hg hb n2 n3⟩
theorem row_ne {u v : Value} (h : ∀ g, u.ownBlock = some g → v.ownBlock ≠ some g) : v.ownBlock = none ∨ v.ownBlock ≠ u.ownBlock := by
  cases hv : v.ownBlock with
  | none => exact .inl rfl
  | some k => exact .inr fun e => h k e.symm hv

/-- one text appended to the first of three rows, in a region that draws -/
theorem step_tr {w : World} {ops : Array Oper} {o : Oper} {a : Act} {K : Act → World → Prop} {Q : Exit → Act → World → Prop} {E : Prop} (hgd : o.guard = none) (s x : Operand)
    (ho : o.op = .call { callee := .builtin .append, args := #[s, x], argTypes := #[24, 24] })
    (B : Nat) (w0 : World) (u v y : Value) (l r q : List ByteArray) (t : ByteArray) (hs : a.eval s = u) (h : TrR B w0 w u v y l r q) (p : Nat) (hx : a.eval x = .slice (some ⟨p, 0, none⟩) 1 1)
    (hnews : w.cell? ⟨p, 0, none⟩ = some (.string t)) (hlen : l.length + 1 ≤ 1000000) (n : Nat) (hn : l.length + 1 = n)
    (hk : ∀ g cap w', TrR B w0 w' (.slice (some ⟨g, 0, none⟩) n cap) v y (l ++ [t]) r q → w.grownBy w' u.ownBlock → K (a.put o.dst (.slice (some ⟨g, 0, none⟩) n cap)) w') : if Region.wanted o (yielded ops a.tmps) = true then Oper.wp Tryd.prog o a w K Q else E := by
  subst hn
  obtain ⟨i0, hi, hz0, hz1, hz2⟩ := info_parts Tryd.info9
  refine step_append_lies w hgd s x 24 ho B 9 i0 (.string ByteArray.empty) 1 16 Tryd.underlying24 hi hz0 hz1 hz2 rfl (by decide) u l.length (svs l) hs h.1.1.1 ⟨p, 0, none⟩ 1 1 (svs [t]) hx (by simp [svs]) ?_
    (fun u hu => by simp [svs] at hu; subst hu; rfl) (by omega) (by unfold maxLen; omega) (by omega) h.1.1.2.2 w.heap.size rfl ?_
  · intro j u hj
    match j, hj with
    | 0, hj =>
      simp [svs] at hj
      subst hj
      have : (⟨p, 0, none⟩ : Addr).add 0 = ⟨p, 0, none⟩ := by unfold Addr.add; split <;> simp_all
      rw [this]
      exact hnews
  · intro g cap w' h1 h2 h3 _
    have hB : ∀ k, u.ownBlock = some k → B ≤ k := fun k hk => (h.1.1.1.lt k hk).1
    exact hk _ _ _ ⟨h.1.grow rfl h1 h2 h3, h.2.1.grow rfl h1 h2 h3, h.2.2.kept h2 hB (row_ne h.1.2.2) (row_ne h.2.1.2.2)⟩ h2

/-- the keys that are opened, and the locks of those that are not -/
def opN (s : ByteArray) (a b : Nat) : Nat → List ByteArray
  | 0 => []
  | m + 1 => opN s a b m ++ [secB s a m (bitN b m)]
def shN (s : ByteArray) (a b : Nat) : Nat → List ByteArray
  | 0 => []
  | m + 1 => shN s a b m ++ [lockB (secB s a m (1 - bitN b m))]
theorem opN_len (s : ByteArray) (a b m : Nat) : (opN s a b m).length = m := by
  induction m with
  | zero => rfl
  | succ m ih => simp [opN, ih]
theorem shN_len (s : ByteArray) (a b m : Nat) : (shN s a b m).length = m := by
  induction m with
  | zero => rfl
  | succ m ih => simp [shN, ih]
/-- what each round of SignText holds -/
def SnR (s : ByteArray) (a b : Nat) (d : List ByteArray) (w : World) (p : Nat) (i : Value) (wr : World) : Prop :=
  ∃ (m : Nat) (v1 v2 v3 : Value), m ≤ 8 ∧ i = .int .i64 m ∧ TrR w.heap.size w wr v1 v2 v3 (opN s a b m) (shN s a b m) d ∧ SgM wr p a v1 v2 v3 ∧ SgM wr w.heap.size 0 (.slice none 0 0) (.slice none 0 0) (.slice none 0 0)
theorem OS.out {B : Nat} {w0 w : World} {v : Value} {l : List ByteArray} (h : OS B w0 w v l) (hl : 0 < l.length) (hm : l.length ≤ 1100000) : ∃ g, v.ownBlock = some g ∧ TS w v g l ∧ B ≤ g ∧ v.oneCell' = true := by
  rcases h.shape with ⟨_, rfl⟩ | ⟨g, cap, rfl, hB, _⟩
  · simp at hl
  · exact ⟨g, rfl, h.tb.ts _ _ rfl hm, hB, rfl⟩
theorem TrR.sig {B : Nat} {w0 w : World} {u v s : Value} {l r q : List ByteArray} (h : TrR B w0 w u v s l r q) (a : Int) (h1 : 0 < l.length ∧ l.length ≤ 100) (h2 : 0 < r.length ∧ r.length ≤ 100) (h3 : 0 < q.length ∧ q.length ≤ 100) : SigIn w B (.agg #[.int .i64 a, u, v, s]) a l r q ∧ u.oneCell' = true ∧ v.oneCell' = true ∧ s.oneCell' = true := by
  obtain ⟨g1, e1, t1, b1, o1⟩ := h.1.1.out h1.1 (by omega)
  obtain ⟨g2, e2, t2, b2, o2⟩ := h.1.2.1.out h2.1 (by omega)
  obtain ⟨g3, e3, t3, b3, o3⟩ := h.2.1.2.1.out h3.1 (by omega)
  exact ⟨⟨u, v, s, g1, g2, g3, rfl, ⟨t1, t2, t3⟩, ⟨b1, b2, b3⟩, ⟨fun e => h.1.2.2 g1 e1 (by rw [e2, e]), fun e => h.2.1.2.2 g1 e1 (by rw [e3, e]), fun e => h.2.2.2.2 g2 e2 (by rw [e3, e])⟩⟩, o1, o2, o3⟩
theorem TrR.setR {B : Nat} {w0 w : World} {u v s v1 v2 v3 : Value} {l r q : List ByteArray} {p : Nat} {x : Int} (h : TrR B w0 w u v s l r q) (hs : SgM w p x v1 v2 v3) (hB : B ≤ p) (R : Array Value) : TrR B w0 (w.setRow p R) u v s l r q := by
  have hg := grown_setRow w p R
  have hb : ∀ k, some p = some k → B ≤ k := fun k hk => by simp at hk; omega
  have n1 := h.1.1.neS hs
  have n2 := h.1.2.1.neS hs
  have n3 := h.2.1.2.1.neS hs
  exact ⟨h.1.kept hg hb n1 n2, h.2.1.kept hg hb n1 n3, h.2.2.kept hg hb n2 n3⟩
theorem OS.nil3 {B : Nat} {w0 w : World} (h : Below B w0 w) (hB : B ≤ w.heap.size) : OS B w0 w (.slice none 0 0) [] := ⟨World.ownsRow_nil _ _ _ _, h, hB⟩

end Go.Proofs.YtmfoliocibjdnaaDoor
