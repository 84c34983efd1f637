/-
  Texts laid together: Lt, Jo, Pj, Wt.
-/
import Derived.Test.YtgkfelhjbeegaaaGreatDoorV16
import Derived.Test.YtgkfelhjbeegaaaGreatDoorV17
import Derived.Test.YtgkfelhjbeegaaaGreatDoorV12
import Derived.Lib.AppendStr
import Derived.Laws.IdiomCopy
import Derived.Shelf.Strings.OnBuilder
import Derived.Test.YtgkfelhjbeegaaaGreatDoorProg
import Derived.Test.YtgkfelhjbeegaaaGreatDoorV09
import Derived.Lib.QuietBelow
import Derived.Test.YtgkfelhjbeegaaaGreatDoorV08
import Derived.Test.YtgkfelhjbeegaaaGreatDoorV13
import Derived.Test.YtgkfelhjbeegaaaGreatDoorV14
/-
  The text of leaves: the program's and the specification's answers.
-/
namespace Go.Proofs.YtgkfelhjbeegaaaGreatDoor
open Go.RowKit Go.BigFrame Go.Sort
set_option linter.unusedVariables false
set_option linter.unusedSimpArgs false

theorem OG.later {B : Nat} {w0 w w' : World} {v : Value} {l : List UInt8} (h : OG B w0 w v l) (hb : Below w.heap.size w w') : OG B w0 w' v l := by
  obtain ⟨⟨g, cap, cur, fz, hv, hB, hg, hr⟩, h2, h3⟩ := h
  exact ⟨⟨g, cap, cur, fz, hv, hB, by rw [hb.block g (Array.getElem?_eq_some_iff.1 hg).1]; exact hg, hr⟩, h2.trans (hb.mono h3), Nat.le_trans h3 hb.size⟩
theorem OG.from {B : Nat} {w0 w1 w : World} {v : Value} {l : List UInt8} (h : OG B w1 w v l) (hb : Below B w0 w1) : OG B w0 w v l := ⟨h.1, hb.trans h.2.1, h.2.2⟩
theorem OG.mono {B B' : Nat} {w0 w : World} {v : Value} {l : List UInt8} (h : OG B' w0 w v l) (hB : B ≤ B') : OG B w0 w v l := by
  obtain ⟨⟨g, cap, cur, fz, hv, hb, hg, hr⟩, h2, h3⟩ := h
  exact ⟨⟨g, cap, cur, fz, hv, by omega, hg, hr⟩, h2.mono hB, by omega⟩

/-- a string's bytes more -/
theorem OG.appStr {B : Nat} {w0 w : World} {v : Value} {l : List UInt8} (h : OG B w0 w v l) (ty : TypeId) (t : ByteArray) (hlen : l.length + t.size ≤ 1000000000) :
    ∃ v' w', (Builtin.append_ #[131, 9] ty #[v, .string t]).run Tryz.prog w = .ok v' w' ∧ OG B w0 w' v' (l ++ t.data.toList) := by
  obtain ⟨i0, hi, hz0, hz1, hz2⟩ := info_parts Tryz.info5
  have htl : t.data.toList.length = t.size := Array.length_toList
  obtain ⟨⟨g, cap, cur, fz, rfl, hb, hg, hfz, hn, hm, hcs, hcell⟩, hbel, hB⟩ := h
  by_cases hroom : l.length + t.size ≤ cap
  · have hc : ∀ j, j < t.size → (w.cell? ⟨g, l.length + j, none⟩).isSome = true := fun j hj => by
      rw [cell_of_row w g (l.length + j) cur 5 fz hg, Array.getElem?_eq_getElem (by omega)]
      rfl
    have hf : ∀ j, j < t.size → w.frozen? ⟨g, l.length + j, none⟩ = false := fun j hj => by
      obtain ⟨lo, hi2⟩ := fz
      simp only [World.frozen?, hg, Bool.and_eq_false_iff, decide_eq_false_iff_not]
      rcases hfz with h0 | h0
      · simp at h0; right; omega
      · left; simp only at h0; omega
    have hfc := Lib.run_firstCells_string (P := Tryz.prog) w 1 t
    have hst := run_storeCells_cells (P := Tryz.prog) g l.length (Lib.strCells t) 0 w (fun j hj => by rw [Lib.strCells_length] at hj; simpa using hc j hj) (fun j hj => by rw [Lib.strCells_length] at hj; simpa using hf j hj) (Lib.strCells_oneCell t)
    have hset : ∀ (vs : List Value) (o : Nat) (W : World) (c : Array Value), W.heap[g]? = some (.cells c 5 fz) → o + vs.length ≤ c.size → ∃ c', (W.setCells g o vs).heap[g]? = some (.cells c' 5 fz) ∧ c'.size = c.size ∧ (∀ j, j < o → c'[j]? = c[j]?) ∧ ∀ j (h : j < vs.length), c'[o + j]? = some vs[j] := by
      intro vs
      induction vs with
      | nil => intro o W c hW ho; exact ⟨c, hW, rfl, fun _ _ => rfl, fun j h => absurd h (by simp)⟩
      | cons x r ih =>
        intro o W c hW ho
        have hx : (W.setCell ⟨g, o, none⟩ x).heap[g]? = some (.cells (c.setIfInBounds o x) 5 fz) := by
          have := setCell_eq_setRow W g o c 5 fz x hW
          rw [this]
          exact setRow_heap W g c _ 5 _ hW
        simp only [List.length_cons] at ho
        obtain ⟨c', h1, h2, h3, h4⟩ := ih (o + 1) (W.setCell ⟨g, o, none⟩ x) _ hx (by simp; omega)
        refine ⟨c', h1, by simpa using h2, fun j hj => ?_, fun j hj => ?_⟩
        · rw [h3 j (by omega), Array.getElem?_setIfInBounds, if_neg (by omega)]
        · match j, hj with
          | 0, _ => rw [Nat.add_zero, h3 o (by omega)]; simp [show o < c.size by omega]
          | j + 1, hj =>
            have := h4 j (by simpa using hj)
            rw [show o + 1 + j = o + (j + 1) by omega] at this
            rw [this]
            rfl
    obtain ⟨c', h1, h2, h3, h4⟩ := hset (Lib.strCells t) l.length w cur hg (by rw [Lib.strCells_length]; omega)
    refine ⟨.slice (some ⟨g, 0, none⟩) (l.length + t.size) cap, w.setCells g l.length (Lib.strCells t), ?_, ⟨g, cap, c', fz, by simp [htl], hb, h1, hfz, by simp [htl]; omega, hm, by omega, ?_⟩, below_setCells hb _ _ _ hbel, by rw [size_setCells]; exact hB⟩
    · have hadd : (⟨g, 0, none⟩ : Addr).add l.length = ⟨g, l.length, none⟩ := by unfold Addr.add; split <;> simp_all
      simp only [Nat.add_zero] at hst
      simp [Builtin.append_, run_underlying Tryz.underlying131, run_underlying Tryz.underlying9, sizeOf, typeInfo, hi, hz1, Builtin.lenOf, hroom, hfc, hadd, hst]
    · intro j hj
      by_cases he : j < l.length
      · rw [h3 j he, hcell j he, List.getElem_append_left he]
      · obtain ⟨k, rfl⟩ : ∃ k, j = l.length + k := ⟨j - l.length, by omega⟩
        have hk : k < (Lib.strCells t).length := by rw [Lib.strCells_length]; simp [htl] at hj; omega
        rw [h4 k hk, List.getElem_append_right (by omega)]
        simp [Lib.strCells]
  · have hxs : ∀ j u, (bv l)[j]? = some u → w.cell? ((⟨g, 0, none⟩ : Addr).add j) = some u := by
      intro j u hj
      obtain ⟨hj', rfl⟩ := bv_get _ _ _ hj
      have hadd : (⟨g, 0, none⟩ : Addr).add j = ⟨g, j, none⟩ := by unfold Addr.add; split <;> simp_all
      rw [hadd, cell_of_row w g j cur 5 fz hg]
      exact hcell j hj'
    have hr := Lib.run_append_grow_string (P := Tryz.prog) w 131 9 ty 5 i0 (.int .u8 0) Tryz.underlying131 Tryz.underlying9 hi hz0 ⟨g, 0, none⟩ l.length cap (bv l) (by rw [hz1]; simp [bv]) hxs t (by omega) (by omega) (growslice_fits (by omega) (by rw [hz2]; omega))
    have hge := grownCap_ge w (l.length + t.size) cap 5
    have hcm := grownCap_le_maxLen w (l.length + t.size) cap 5 (by unfold maxLen; omega)
    refine ⟨_, _, hr, ⟨w.heap.size, _, _, (0, 0), by simp [htl], by omega, heap_alloc_new w.drew _, .inl rfl, by simp [htl]; omega, hcm, ?_, ?_⟩, (hbel.drew).alloc hB _, by simp; omega⟩
    · have hz : (Value.int IntKind.u8 0).cells.size = 1 := rfl
      simp only [Array.size_append, List.size_toArray, size_zeroCells, hz, bv_length, Lib.strCells_length]
      omega
    · intro j hj
      have hj2 : j < l.length + t.size := by simpa [htl] using hj
      rw [Array.getElem?_append_left (by simp [bv, Lib.strCells_length]; omega)]
      by_cases he : j < l.length
      · rw [Array.getElem?_append_left (by simp [bv]; omega)]
        simp [bv, he, List.getElem_append_left]
      · rw [Array.getElem?_append_right (by simp [bv]; omega)]
        have : j - l.length < t.size := by omega
        simp [bv, Lib.strCells, List.getElem_append_right, Nat.le_of_not_lt he, List.getElem?_eq_getElem (show j - l.length < t.data.toList.length by omega)]

theorem wp_appGS {w : World} {ops : Array Oper} {rest : List Oper} {o : Oper} {a : Act} {Q : Exit → Act → World → Prop} (hgd : o.guard = none) (s x : Operand)
    (ho : o.op = .call { callee := .builtin .append, args := #[s, x], argTypes := #[131, 9] })
    (B : Nat) (w0 : World) (v : Value) (l : List UInt8) (hs : a.eval s = v) (hown : OG B w0 w v l) (t : ByteArray) (hx : a.eval x = .string t) (hlen : l.length + t.size ≤ 1000000000)
    (h : ∀ v' w', OG B w0 w' v' (l ++ t.data.toList) → wpList Tryz.prog ops Q rest (a.put o.dst v') w') : wpList Tryz.prog ops Q (o :: rest) a w := by
  refine wpList_plain hgd fun K hK => ?_
  obtain ⟨v', w', hr, h2⟩ := hown.appStr o.type t hlen
  unfold Oper.wp
  simp [execOp, ho, resolve, invoke, builtin, hs, hx, hr, Result.andThen]
  exact hK _ _ (h v' w' h2)

/-- the text of the first m leaves, behind how many there are -/
def lvP (L : List Le) (m : Nat) : List UInt8 := M.varL L.length ++ LV.ltL (L.take m)
theorem lvP_zero (L : List Le) : lvP L 0 = M.varL L.length := by simp [lvP, LV.ltL]
theorem lvP_all (L : List Le) : lvP L L.length = LV.lvL L := by simp [lvP, LV.lvL]
theorem lvP_step {L : List Le} {m : Nat} (h : m < L.length) : lvP L (m + 1) = lvP L m ++ LV.leL L[m] := by
  unfold lvP
  rw [List.take_succ_eq_append_getElem h, LV.ltL_snoc, List.append_assoc]
theorem lvP_len {L : List Le} (h : LV.LOk L) (m : Nat) : (lvP L m).length ≤ 1100 := by
  have h1 := M.varL_len L.length
  have h2 := LV.ltL_len (L := L.take m) (fun f hf => h.2.1 f (List.mem_of_mem_take hf))
  have h3 := h.1
  have h4 : (L.take m).length ≤ 24 := by simp; omega
  simp only [lvP, List.length_append]
  omega

def LvR (L : List Le) (w : World) (v i : Value) (wr : World) : Prop := ∃ m : Nat, m ≤ L.length ∧ i = .int .i64 m ∧ OG w.heap.size w wr v (lvP L m)

noncomputable def lvT (L : List Le) : ByteArray := if LV.leavesB L then ⟨(LV.lvL L).toArray⟩ else ⟨#[]⟩
theorem lvT_yes {L : List Le} (h : LV.leavesB L = true) : lvT L = ⟨(LV.lvL L).toArray⟩ := if_pos h
theorem lvT_no {L : List Le} (h : LV.leavesB L = false) : lvT L = ⟨#[]⟩ := if_neg (by rw [h]; simp)

/-- the text so far -/
def lvQ (L : List Le) (m : Nat) : ByteArray := ⟨(lvP L m).toArray⟩
theorem lvQ_zero (L : List Le) : lvQ L 0 = ⟨(M.varL L.length).toArray⟩ := by unfold lvQ; rw [lvP_zero]
theorem lvQ_step {L : List Le} {m : Nat} (h : m < L.length) : lvQ L (m + 1) = lvQ L m ++ ⟨(M.varL (L[m]).n.size).toArray⟩ ++ (L[m]).n ++ ⟨(M.varL (L[m]).v.size).toArray⟩ ++ (L[m]).v := by
  refine ByteArray.ext (Array.toList_inj.1 ?_)
  unfold lvQ
  rw [lvP_step h]
  simp [ByteArray.data_append, LV.leL]
theorem lvQ_size {L : List Le} (h : LV.LOk L) (m : Nat) : (lvQ L m).size ≤ 1100 := by
  have := lvP_len h m
  unfold lvQ
  show (lvP L m).toArray.size ≤ 1100
  simpa using this

def LqR (L : List Le) (w : World) (s i : Value) (wr : World) : Prop := ∃ m : Nat, m ≤ L.length ∧ i = .int .i64 m ∧ s = .string (lvQ L m) ∧ Below w.heap.size w wr

end Go.Proofs.YtgkfelhjbeegaaaGreatDoor
/-
  The library's own contract on strings.Join, laid at this program: a table of numbers and two theorems.
-/
namespace Go.Proofs
open Go.Shelf
end Go.Proofs
/-
  A proof as a text: the program's and the specification's answers.
-/
namespace Go.Proofs.YtgkfelhjbeegaaaGreatDoor
open Go.RowKit Go.BigFrame Go.Sort
set_option linter.unusedVariables false
set_option linter.unusedSimpArgs false

/-- texts behind one another -/
def joinT (S : List ByteArray) : ByteArray := ⟨(S.map (·.data.toList)).flatten.toArray⟩
theorem joinT_none : joinT [] = ⟨#[]⟩ := rfl
theorem joinT_snoc (S : List ByteArray) (t : ByteArray) : joinT (S ++ [t]) = joinT S ++ t := by
  apply ByteArray.ext
  apply Array.toList_inj.1
  simp [joinT, ByteArray.data_append]
theorem joinT_take {S : List ByteArray} {m : Nat} (h : m < S.length) : joinT (S.take (m + 1)) = joinT (S.take m) ++ S[m] := by
  rw [← List.take_append_getElem h, joinT_snoc]
theorem join_flat (X : List (List UInt8)) : Lib.join X [] = X.flatten := by
  cases X with
  | nil => rfl
  | cons x r =>
    rw [Lib.join_cons]
    unfold Lib.joinTail
    simp
theorem join_is (S : List ByteArray) : (⟨(Lib.join (S.map (·.data.toList)) []).toArray⟩ : ByteArray) = joinT S := by
  rw [join_flat]
  rfl
theorem joinT_cons (t : ByteArray) (S : List ByteArray) : joinT (t :: S) = t ++ joinT S := by
  apply ByteArray.ext
  apply Array.toList_inj.1
  simp [joinT, ByteArray.data_append]
theorem joinT_size {x : Int} {S : List ByteArray} (h : ∀ s ∈ S, s.size ≤ 1048576) : (joinT S).size ≤ S.length * 1048576 := by
  induction S with
  | nil => exact Nat.zero_le _
  | cons s S ih =>
    have h1 := ih (fun t ht => h t (List.mem_cons_of_mem _ ht))
    have h2 := h s (List.mem_cons_self ..)
    rw [joinT_cons, ByteArray.size_append]
    simp only [List.length_cons]
    omega
noncomputable def pxB (L : List Le) (S : List ByteArray) (x : Int) : Bool := LV.leavesB L && sidB S x
noncomputable def pxT (L : List Le) (S : List ByteArray) (x : Int) : ByteArray := if pxB L S x then lvT L ++ ⟨(M.varL S.length).toArray⟩ ++ joinT S else ⟨#[]⟩
theorem lvT_le (L : List Le) : (lvT L).size ≤ 1100 := by
  cases h : LV.leavesB L with
  | false => rw [lvT_no h]; exact Nat.zero_le _
  | true =>
    rw [lvT_yes h]
    have h2 := LV.leavesB_iff.1 h
    have h3 := LV.ltL_len h2.2.1
    have h4 := M.varL_len L.length
    have h5 := h2.1
    show (LV.lvL L).toArray.size ≤ 1100
    unfold LV.lvL
    simp only [List.size_toArray, List.length_append]
    omega
theorem varT_le (n : Nat) : (⟨(M.varL n).toArray⟩ : ByteArray).size ≤ 10 := by
  show (M.varL n).toArray.size ≤ 10
  have := M.varL_len n
  simpa using this
theorem sid_sizes {S : List ByteArray} {x : Int} (h : sidB S x = true) : S.length ≤ 8 ∧ ∀ s ∈ S, s.size ≤ 32 := by
  unfold sidB wideB at h
  simp only [Bool.and_eq_true, decide_eq_true_eq, List.all_eq_true] at h
  refine ⟨h.1, fun s hs => ?_⟩
  have := h.2.1 s hs
  omega
theorem sid_join {S : List ByteArray} {x : Int} (h : sidB S x = true) (m : Nat) : (joinT (S.take m)).size ≤ 8 * 1048576 := by
  obtain ⟨h1, h2⟩ := sid_sizes h
  have h3 := joinT_size (x := 0) (S := S.take m) (fun s hs => by have := h2 s (List.mem_of_mem_take hs); omega)
  have h4 : (S.take m).length ≤ 8 := by simp; omega
  exact Nat.le_trans h3 (Nat.mul_le_mul_right _ h4)

/-- some texts, their number ahead -/
def hsT (S : List ByteArray) : ByteArray := ⟨(M.varL S.length).toArray⟩ ++ joinT S

def PjR (w : World) (U : ByteArray) (S : List ByteArray) (t i : Value) (wr : World) : Prop := ∃ m : Nat, m ≤ S.length ∧ i = .int .i64 m ∧ t = .string (U ++ joinT (S.take m)) ∧ Hid (Below w.heap.size w wr)

end Go.Proofs.YtgkfelhjbeegaaaGreatDoor
/-
  Stamps as a text: the program's answer.
-/
namespace Go.Proofs.YtgkfelhjbeegaaaGreatDoor
open Go.RowKit Go.BigFrame Go.Sort
set_option linter.unusedVariables false
set_option linter.unusedSimpArgs false

theorem one_str (w : World) (b : UInt8) : (convert 131 9 (.slice (some ⟨w.heap.size, 0, none⟩) 1 1)).run Tryz.prog (w.alloc (.cells #[.int .u8 (b.toNat : Int)] 5)) = .ok (.string ⟨#[b]⟩) (w.alloc (.cells #[.int .u8 (b.toNat : Int)] 5)) := by
  refine run_convert_bytes_back (P := Tryz.prog) _ 131 9 5 ⟨w.heap.size, 0, none⟩ 1 [b] Tryz.underlying131 Tryz.underlying5 Tryz.underlying9 ?_
  intro j hj
  have h0 : j = 0 := by simp at hj; omega
  subst h0
  simp [Addr.add]

/-- a stamp as a text -/
def oneT (y : Stm) : ByteArray := ⟨#[UInt8.ofNat y.b.toNat]⟩ ++ sigB y.a y.o y.s y.d
theorem oneT_size (y : Stm) : (oneT y).size ≤ 322 := by
  unfold oneT
  rw [ByteArray.size_append]
  have := sigB_size y.a y.o y.s y.d
  show 1 + _ ≤ _
  omega
/-- has it one? -/
def oneB (y : Stm) : Bool := formB y.a y.o y.s y.d && decide (0 ≤ y.b ∧ y.b < 3)
def stOk (G : List Stm) : Bool := decide (G.length ≤ 3) && G.all oneB
def stJ (G : List Stm) : ByteArray := ⟨(M.varL G.length).toArray⟩ ++ joinT (G.map oneT)
def stT (G : List Stm) : ByteArray := if stOk G = true then stJ G else ⟨#[]⟩
theorem stJ_size {G : List Stm} (h : G.length ≤ 3) : (stJ G).size ≤ 2000 := by
  unfold stJ
  rw [ByteArray.size_append]
  have h1 := varT_le G.length
  match G, h with
  | [], _ => simp only [List.map_nil, joinT_none]; show _ + 0 ≤ _; omega
  | [a], _ =>
    have := oneT_size a
    simp only [List.map_cons, List.map_nil, joinT_cons, joinT_none, ByteArray.size_append] at *
    show _ + (_ + 0) ≤ _; omega
  | [a, b], _ =>
    have := oneT_size a
    have := oneT_size b
    simp only [List.map_cons, List.map_nil, joinT_cons, joinT_none, ByteArray.size_append] at *
    show _ + (_ + (_ + 0)) ≤ _; omega
  | [a, b, c], _ =>
    have := oneT_size a
    have := oneT_size b
    have := oneT_size c
    simp only [List.map_cons, List.map_nil, joinT_cons, joinT_none, ByteArray.size_append] at *
    show _ + (_ + (_ + (_ + 0))) ≤ _; omega
theorem stP_size {G : List Stm} (h : G.length ≤ 3) (m : Nat) : (joinT ((G.take m).map oneT)).size ≤ 2000 := by
  have h2 : (G.take m).length ≤ 3 := by simp; omega
  have := stJ_size h2
  unfold stJ at this
  rw [ByteArray.size_append] at this
  omega
theorem stP_take {G : List Stm} {m : Nat} (h : m < G.length) : joinT ((G.take (m + 1)).map oneT) = joinT ((G.take m).map oneT) ++ oneT G[m] := by
  rw [← List.take_append_getElem h, List.map_append, List.map_cons, List.map_nil, joinT_snoc]
theorem stOk_bad {G : List Stm} {m : Nat} (h : m < G.length) (hb : oneB G[m] = false) : stOk G = false := by
  unfold stOk
  rw [Bool.and_eq_false_iff]
  right
  rw [List.all_eq_false]
  exact ⟨_, List.getElem_mem h, by simp [hb]⟩
theorem stOk_good {G : List Stm} (h : G.length ≤ 3) (hb : ∀ j (h : j < G.length), oneB G[j] = true) : stOk G = true := by
  unfold stOk
  rw [decide_eq_true h, Bool.true_and, List.all_eq_true]
  intro y hy
  obtain ⟨j, hj, rfl⟩ := List.getElem_of_mem hy
  exact hb j hj

/-- the first m of them stand as a text, behind U -/
def WtR (w : World) (U : ByteArray) (G : List Stm) (t i : Value) (wr : World) : Prop := ∃ m : Nat, m ≤ G.length ∧ i = .int .i64 m ∧ t = .string (U ++ joinT ((G.take m).map oneT)) ∧ Hid (Below w.heap.size w wr ∧ ∀ j (h : j < G.length), j < m → oneB G[j] = true)

end Go.Proofs.YtgkfelhjbeegaaaGreatDoor
