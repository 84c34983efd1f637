/-
  Texts laid together: Lt, Rb, Dv.
-/
import Derived.Test.YtiabodhgjeoejaaPkC11
import Derived.Test.YtiabodhgjeoejaaPkC16
import Derived.Test.YtiabodhgjeoejaaPkC14
import Derived.Lib.AppendStr
import Derived.Laws.IdiomCopy
import Derived.Test.YtiabodhgjeoejaaPkC5
import Derived.Test.YtiabodhgjeoejaaPkC15
import Derived.Test.YtiabodhgjeoejaaPkC12
import Derived.Test.YtiabodhgjeoejaaPkC13
/-
  The text of leaves: the program's and the specification's answers.
-/
namespace Go.Proofs.Ytiabodhgjeoejaa
open Go.RowKit Go.BigFrame Go.Sort
set_option linter.unusedVariables false
set_option linter.unusedSimpArgs false

theorem OG.later {B : Nat} {w0 w w' : World} {v : Value} {l : List UInt8} (h : OG B w0 w v l) (hb : Below w.heap.size w w') : OG B w0 w' v l := by
  obtain ⟨⟨g, cap, cur, fz, hv, hB, hg, hr⟩, h2, h3⟩ := h
  exact ⟨⟨g, cap, cur, fz, hv, hB, by rw [hb.block g (Array.getElem?_eq_some_iff.1 hg).1]; exact hg, hr⟩, h2.trans (hb.mono h3), Nat.le_trans h3 hb.size⟩
theorem OG.from {B : Nat} {w0 w1 w : World} {v : Value} {l : List UInt8} (h : OG B w1 w v l) (hb : Below B w0 w1) : OG B w0 w v l := ⟨h.1, hb.trans h.2.1, h.2.2⟩
theorem OG.mono {B B' : Nat} {w0 w : World} {v : Value} {l : List UInt8} (h : OG B' w0 w v l) (hB : B ≤ B') : OG B w0 w v l := by
  obtain ⟨⟨g, cap, cur, fz, hv, hb, hg, hr⟩, h2, h3⟩ := h
  exact ⟨⟨g, cap, cur, fz, hv, by omega, hg, hr⟩, h2.mono hB, by omega⟩

/-- a string's bytes more -/
theorem OG.appStr {B : Nat} {w0 w : World} {v : Value} {l : List UInt8} (h : OG B w0 w v l) (ty : TypeId) (t : ByteArray) (hlen : l.length + t.size ≤ 1000000000) :
    ∃ v' w', (Builtin.append_ #[22, 9] ty #[v, .string t]).run Try.prog w = .ok v' w' ∧ OG B w0 w' v' (l ++ t.data.toList) := by
  obtain ⟨i0, hi, hz0, hz1, hz2⟩ := info_parts Try.info5
  have htl : t.data.toList.length = t.size := Array.length_toList
  obtain ⟨⟨g, cap, cur, fz, rfl, hb, hg, hfz, hn, hm, hcs, hcell⟩, hbel, hB⟩ := h
  by_cases hroom : l.length + t.size ≤ cap
  · have hc : ∀ j, j < t.size → (w.cell? ⟨g, l.length + j, none⟩).isSome = true := fun j hj => by
      rw [cell_of_row w g (l.length + j) cur 5 fz hg, Array.getElem?_eq_getElem (by omega)]
      rfl
    have hf : ∀ j, j < t.size → w.frozen? ⟨g, l.length + j, none⟩ = false := fun j hj => by
      obtain ⟨lo, hi2⟩ := fz
      simp only [World.frozen?, hg, Bool.and_eq_false_iff, decide_eq_false_iff_not]
      rcases hfz with h0 | h0
      · simp at h0; right; omega
      · left; simp only at h0; omega
    have hfc := Lib.run_firstCells_string (P := Try.prog) w 1 t
    have hst := run_storeCells_cells (P := Try.prog) g l.length (Lib.strCells t) 0 w (fun j hj => by rw [Lib.strCells_length] at hj; simpa using hc j hj) (fun j hj => by rw [Lib.strCells_length] at hj; simpa using hf j hj) (Lib.strCells_oneCell t)
    have hset : ∀ (vs : List Value) (o : Nat) (W : World) (c : Array Value), W.heap[g]? = some (.cells c 5 fz) → o + vs.length ≤ c.size → ∃ c', (W.setCells g o vs).heap[g]? = some (.cells c' 5 fz) ∧ c'.size = c.size ∧ (∀ j, j < o → c'[j]? = c[j]?) ∧ ∀ j (h : j < vs.length), c'[o + j]? = some vs[j] := by
      intro vs
      induction vs with
      | nil => intro o W c hW ho; exact ⟨c, hW, rfl, fun _ _ => rfl, fun j h => absurd h (by simp)⟩
      | cons x r ih =>
        intro o W c hW ho
        have hx : (W.setCell ⟨g, o, none⟩ x).heap[g]? = some (.cells (c.setIfInBounds o x) 5 fz) := by
          have := setCell_eq_setRow W g o c 5 fz x hW
          rw [this]
          exact setRow_heap W g c _ 5 _ hW
        simp only [List.length_cons] at ho
        obtain ⟨c', h1, h2, h3, h4⟩ := ih (o + 1) (W.setCell ⟨g, o, none⟩ x) _ hx (by simp; omega)
        refine ⟨c', h1, by simpa using h2, fun j hj => ?_, fun j hj => ?_⟩
        · rw [h3 j (by omega), Array.getElem?_setIfInBounds, if_neg (by omega)]
        · match j, hj with
          | 0, _ => rw [Nat.add_zero, h3 o (by omega)]; simp [show o < c.size by omega]
          | j + 1, hj =>
            have := h4 j (by simpa using hj)
            rw [show o + 1 + j = o + (j + 1) by omega] at this
            rw [this]
            rfl
    obtain ⟨c', h1, h2, h3, h4⟩ := hset (Lib.strCells t) l.length w cur hg (by rw [Lib.strCells_length]; omega)
    refine ⟨.slice (some ⟨g, 0, none⟩) (l.length + t.size) cap, w.setCells g l.length (Lib.strCells t), ?_, ⟨g, cap, c', fz, by simp [htl], hb, h1, hfz, by simp [htl]; omega, hm, by omega, ?_⟩, below_setCells hb _ _ _ hbel, by rw [size_setCells]; exact hB⟩
    · have hadd : (⟨g, 0, none⟩ : Addr).add l.length = ⟨g, l.length, none⟩ := by unfold Addr.add; split <;> simp_all
      simp only [Nat.add_zero] at hst
      simp [Builtin.append_, run_underlying Try.underlying22, run_underlying Try.underlying9, sizeOf, typeInfo, hi, hz1, Builtin.lenOf, hroom, hfc, hadd, hst]
    · intro j hj
      by_cases he : j < l.length
      · rw [h3 j he, hcell j he, List.getElem_append_left he]
      · obtain ⟨k, rfl⟩ : ∃ k, j = l.length + k := ⟨j - l.length, by omega⟩
        have hk : k < (Lib.strCells t).length := by rw [Lib.strCells_length]; simp [htl] at hj; omega
        rw [h4 k hk, List.getElem_append_right (by omega)]
        simp [Lib.strCells]
  · have hxs : ∀ j u, (bv l)[j]? = some u → w.cell? ((⟨g, 0, none⟩ : Addr).add j) = some u := by
      intro j u hj
      obtain ⟨hj', rfl⟩ := bv_get _ _ _ hj
      have hadd : (⟨g, 0, none⟩ : Addr).add j = ⟨g, j, none⟩ := by unfold Addr.add; split <;> simp_all
      rw [hadd, cell_of_row w g j cur 5 fz hg]
      exact hcell j hj'
    have hr := Lib.run_append_grow_string (P := Try.prog) w 22 9 ty 5 i0 (.int .u8 0) Try.underlying22 Try.underlying9 hi hz0 ⟨g, 0, none⟩ l.length cap (bv l) (by rw [hz1]; simp [bv]) hxs t (by omega) (by omega) (growslice_fits (by omega) (by rw [hz2]; omega))
    have hge := grownCap_ge w (l.length + t.size) cap 5
    have hcm := grownCap_le_maxLen w (l.length + t.size) cap 5 (by unfold maxLen; omega)
    refine ⟨_, _, hr, ⟨w.heap.size, _, _, (0, 0), by simp [htl], by omega, heap_alloc_new w.drew _, .inl rfl, by simp [htl]; omega, hcm, ?_, ?_⟩, (hbel.drew).alloc hB _, by simp; omega⟩
    · have hz : (Value.int IntKind.u8 0).cells.size = 1 := rfl
      simp only [Array.size_append, List.size_toArray, size_zeroCells, hz, bv_length, Lib.strCells_length]
      omega
    · intro j hj
      have hj2 : j < l.length + t.size := by simpa [htl] using hj
      rw [Array.getElem?_append_left (by simp [bv, Lib.strCells_length]; omega)]
      by_cases he : j < l.length
      · rw [Array.getElem?_append_left (by simp [bv]; omega)]
        simp [bv, he, List.getElem_append_left]
      · rw [Array.getElem?_append_right (by simp [bv]; omega)]
        have : j - l.length < t.size := by omega
        simp [bv, Lib.strCells, List.getElem_append_right, Nat.le_of_not_lt he, List.getElem?_eq_getElem (show j - l.length < t.data.toList.length by omega)]

theorem wp_appGS {w : World} {ops : Array Oper} {rest : List Oper} {o : Oper} {a : Act} {Q : Exit → Act → World → Prop} (hgd : o.guard = none) (s x : Operand)
    (ho : o.op = .call { callee := .builtin .append, args := #[s, x], argTypes := #[22, 9] })
    (B : Nat) (w0 : World) (v : Value) (l : List UInt8) (hs : a.eval s = v) (hown : OG B w0 w v l) (t : ByteArray) (hx : a.eval x = .string t) (hlen : l.length + t.size ≤ 1000000000)
    (h : ∀ v' w', OG B w0 w' v' (l ++ t.data.toList) → wpList Try.prog ops Q rest (a.put o.dst v') w') : wpList Try.prog ops Q (o :: rest) a w := by
  refine wpList_plain hgd fun K hK => ?_
  obtain ⟨v', w', hr, h2⟩ := hown.appStr o.type t hlen
  unfold Oper.wp
  simp [execOp, ho, resolve, invoke, builtin, hs, hx, hr, Result.andThen]
  exact hK _ _ (h v' w' h2)

/-- the text of the first m leaves, behind how many there are -/
def lvP (L : List Le) (m : Nat) : List UInt8 := M.varL L.length ++ LV.ltL (L.take m)
theorem lvP_zero (L : List Le) : lvP L 0 = M.varL L.length := by simp [lvP, LV.ltL]
theorem lvP_all (L : List Le) : lvP L L.length = LV.lvL L := by simp [lvP, LV.lvL]
theorem lvP_step {L : List Le} {m : Nat} (h : m < L.length) : lvP L (m + 1) = lvP L m ++ LV.leL L[m] := by
  unfold lvP
  rw [List.take_succ_eq_append_getElem h, LV.ltL_snoc, List.append_assoc]
theorem lvP_len {L : List Le} (h : LV.LOk L) (m : Nat) : (lvP L m).length ≤ 1100 := by
  have h1 := M.varL_len L.length
  have h2 := LV.ltL_len (L := L.take m) (fun f hf => h.2.1 f (List.mem_of_mem_take hf))
  have h3 := h.1
  have h4 : (L.take m).length ≤ 24 := by simp; omega
  simp only [lvP, List.length_append]
  omega

def LvR (L : List Le) (w : World) (v i : Value) (wr : World) : Prop := ∃ m : Nat, m ≤ L.length ∧ i = .int .i64 m ∧ OG w.heap.size w wr v (lvP L m)

noncomputable def lvT (L : List Le) : ByteArray := if LV.leavesB L then ⟨(LV.lvL L).toArray⟩ else ⟨#[]⟩
theorem lvT_yes {L : List Le} (h : LV.leavesB L = true) : lvT L = ⟨(LV.lvL L).toArray⟩ := if_pos h
theorem lvT_no {L : List Le} (h : LV.leavesB L = false) : lvT L = ⟨#[]⟩ := if_neg (by rw [h]; simp)

/-- the text so far -/
def lvQ (L : List Le) (m : Nat) : ByteArray := ⟨(lvP L m).toArray⟩
theorem lvQ_zero (L : List Le) : lvQ L 0 = ⟨(M.varL L.length).toArray⟩ := by unfold lvQ; rw [lvP_zero]
theorem lvQ_step {L : List Le} {m : Nat} (h : m < L.length) : lvQ L (m + 1) = lvQ L m ++ ⟨(M.varL (L[m]).n.size).toArray⟩ ++ (L[m]).n ++ ⟨(M.varL (L[m]).v.size).toArray⟩ ++ (L[m]).v := by
  refine ByteArray.ext (Array.toList_inj.1 ?_)
  unfold lvQ
  rw [lvP_step h]
  simp [ByteArray.data_append, LV.leL]
theorem lvQ_size {L : List Le} (h : LV.LOk L) (m : Nat) : (lvQ L m).size ≤ 1100 := by
  have := lvP_len h m
  unfold lvQ
  show (lvP L m).toArray.size ≤ 1100
  simpa using this

def LqR (L : List Le) (w : World) (s i : Value) (wr : World) : Prop := ∃ m : Nat, m ≤ L.length ∧ i = .int .i64 m ∧ s = .string (lvQ L m) ∧ Below w.heap.size w wr

end Go.Proofs.Ytiabodhgjeoejaa
/-
  What was written as leaves is read back; and what is put and dropped is found again, or not.
-/
namespace Go.Proofs.Ytiabodhgjeoejaa
open Go.RowKit
set_option linter.unusedVariables false
namespace LV
theorem leafAt_back (s : ByteArray) (f : Le) (pre post : List UInt8) (h1 : f.n.size ≤ 20000) (h2 : f.v.size ≤ 20000) (h : s.data.toList = pre ++ (leL f ++ post)) : leafAt s pre.length = some (f, pre.length + (leL f).length) := by
  have a1 := shortAt_back s f.n pre ((M.varL f.v.size ++ f.v.data.toList) ++ post) h1 (by rw [h]; simp [leL])
  have a2 := shortAt_back s f.v (pre ++ (M.varL f.n.size ++ f.n.data.toList)) post h2 (by rw [h]; simp [leL])
  rw [List.length_append] at a2
  unfold leafAt
  rw [a1]
  simp only
  rw [a2]
  congr 2
  simp [leL]
  omega
theorem leavesF_back (s : ByteArray) : ∀ (L : List Le) (pre : List UInt8), (∀ f ∈ L, f.n.size ≤ 20000 ∧ f.v.size ≤ 20000) → s.data.toList = pre ++ ltL L → leavesF s L.length pre.length = some (L, s.size)
  | [], pre, _, h => by
    have := toList_len s
    rw [h] at this
    simp [ltL] at this
    simp [leavesF, this]
  | f :: r, pre, hs, h => by
    have hf := hs f (by simp)
    have e : s.data.toList = pre ++ (leL f ++ ltL r) := by rw [h]; simp [ltL]
    have a1 := leafAt_back s f pre (ltL r) hf.1 hf.2 e
    have a2 := leavesF_back s r (pre ++ leL f) (fun g hg => hs g (by simp [hg])) (by rw [e]; simp)
    rw [List.length_append] at a2
    rw [List.length_cons, leavesF, a1]
    simp only
    rw [a2]
theorem rawL_back {L : List Le} (h : LOk L) : rawL ⟨(lvL L).toArray⟩ 0 = some (L, (⟨(lvL L).toArray⟩ : ByteArray).size) := by
  have e : (⟨(lvL L).toArray⟩ : ByteArray).data.toList = M.varL L.length ++ ltL L := by simp [lvL]
  have hr : M.readVar (⟨(lvL L).toArray⟩ : ByteArray).data.toList 0 = some (L.length, (M.varL L.length).length) := by
    have := readVar_back [] (ltL L) L.length (by have := h.1; omega)
    simp only [List.nil_append, List.length_nil, Nat.zero_add] at this
    rw [e]
    exact this
  have h24 := h.1
  rw [rawL_at hr (by omega)]
  exact leavesF_back _ L (M.varL L.length) (fun f hf => by have := leB_sizes (h.2.1 f hf); omega) e
theorem rd_back {L : List Le} (h : leavesB L = true) : rdB (lvT L) = true ∧ rdL (lvT L) = L := by
  have hr := rawL_back (leavesB_iff.1 h)
  rw [lvT_yes h]
  unfold rdB rdL
  rw [hr]
  simp [h]

/-! what is put is there, what is dropped is not, and all else stays -/
theorem find_of {L : List Le} (h : Srt L) {f : Le} (hf : f ∈ L) : find L f.n = some f := by
  cases hq : find L f.n with
  | none => exact absurd rfl (find_none hq f hf)
  | some g => rw [srt_inj h (find_some hq).1 hf (find_some hq).2]
theorem find_not {L : List Le} {x : ByteArray} (h : ∀ f ∈ L, f.n ≠ x) : find L x = none := by
  cases hq : find L x with
  | none => rfl
  | some g => exact absurd (find_some hq).2 (h g (find_some hq).1)
theorem get_of {L : List Le} (h : Srt L) {f : Le} (hf : f ∈ L) : getV L f.n = f.v ∧ getB L f.n = true := get_some (find_of h hf)
theorem get_not {L : List Le} {x : ByteArray} (h : ∀ f ∈ L, f.n ≠ x) : getB L x = false := (get_none (find_not h)).2
theorem wout_put {L : List Le} {f : Le} : ∀ g ∈ wout (put L f) f.n, g.n ≠ f.n := fun g hg => (mem_wout.1 hg).2
theorem len_drop {L : List Le} (h : Srt L) (f : Le) : (wout (put L f) f.n).length + 1 = (put L f).length := len_wout_eq (srt_put h f) (mem_put.2 (.inl rfl))
theorem putB_yes {L : List Le} {f : Le} (h : LOk L) (hl : L.length < 24) (hf : leB f = true) : putB L f = true := by
  unfold putB
  rw [leavesB_iff.2 h, hf, decide_eq_true hl]
  simp
theorem dropB_yes {L : List Le} {f : Le} (h : LOk (put L f)) : dropB (put L f) f.n = true := by
  unfold dropB
  rw [leavesB_iff.2 h, find_of h.2.2 (mem_put.2 (.inl rfl))]
  rfl
end LV
end Go.Proofs.Ytiabodhgjeoejaa
/-
  Drawn leaves: values, and lists that are put together leaf by leaf.
-/
namespace Go.Proofs.Ytiabodhgjeoejaa
open Go.RowKit Go.BigFrame Go.Sort
set_option linter.unusedVariables false
set_option linter.unusedSimpArgs false

def l9vL : List ByteArray := [⟨#[107, 49]⟩, ⟨#[107, 50]⟩, ⟨#[107, 51]⟩, ⟨#[107, 101, 121, 45, 102, 111, 117, 114]⟩, ⟨#[122]⟩]
def l9vC : Array Value := #[.string ⟨#[107, 49]⟩, .string ⟨#[107, 50]⟩, .string ⟨#[107, 51]⟩, .string ⟨#[107, 101, 121, 45, 102, 111, 117, 114]⟩, .string ⟨#[122]⟩]
theorem l9v_at (w : World) : Hid (∀ j, (h : j < l9vL.length) → (w.alloc (.cells l9vC 9)).cell? ⟨w.heap.size, j, none⟩ = some (.string l9vL[j])) := by
  intro j hj
  rw [World.cell?_alloc_at _ _ _ _ rfl]
  have : j = 0 ∨ j = 1 ∨ j = 2 ∨ j = 3 ∨ j = 4 := by simp [l9vL] at hj; omega
  rcases this with rfl | rfl | rfl | rfl | rfl <;> rfl
theorem l9v_ok : ∀ y ∈ l9vL, okB valB y = true ∧ y.size ≤ 12 := by decide +kernel

theorem l09Value_in (B : Nat) (w0 w : World) (g : Nat) (v : Value) (hc : Cur B w0 w g v) :
    Calls Try.prog 72 #[.pointer (some ⟨g, 0, none⟩)] w fun e w' => ∃ y : ByteArray, y ∈ l9vL ∧ e = .returned (.string y) ∧ Cur B w0 w' g v ∧ w.grownBy w' (some g) := by
  have CP := pick_lit B w0 w g v 5 l9vL l9vC hc rfl (by omega) (by omega) (l9v_at w)
  go_enter Try.func72, Try.ntmps72
  go_wp2_with fail
  refine CP.out.mono ?_
  rintro e w2 ⟨y, hy, rfl, hc2, hg2⟩
  go_wp2
  go_ret
  exact ⟨y, hy, rfl, hc2, hg2⟩

/-- a list under way beside a cursor -/
def DvI (B : Nat) (w0 w : World) (g : Nat) (v : Value) (a : Option Addr) (cap q : Nat) (L : List Le) (wr : World) : Prop :=
  Cur B w0 wr g v ∧ RW 2 lcs wr (.slice a L.length cap) q L ∧ B ≤ q ∧ (0 < L.length → q ≠ g) ∧ LV.LOk L ∧ (a = none → cap = 0) ∧ w.grownBy wr (some g)
def DvR (B : Nat) (w0 w : World) (g : Nat) (v : Value) (u i : Value) (wr : World) : Prop := ∃ (m : Nat) (a : Option Addr) (cap q : Nat) (L : List Le), m ≤ 8 ∧ i = .int .i64 m ∧ u = .slice a L.length cap ∧ L.length ≤ m ∧ Hid (DvI B w0 w g v a cap q L wr)
/-- what l09Draw answers -/
def DvP (B : Nat) (w0 w : World) (g : Nat) (v : Value) (e : Ending) (w' : World) : Prop := ∃ (a : Option Addr) (cap q : Nat) (L : List Le), e = .returned (.slice a L.length cap) ∧ L.length ≤ 8 ∧ DvI B w0 w g v a cap q L w'

set_option maxRecDepth 100000 in
set_option maxHeartbeats 2000000 in
theorem l09Draw_in (B : Nat) (w0 w : World) (g : Nat) (v : Value) (hc : Cur B w0 w g v) :
    Calls Try.prog 39 #[.pointer (some ⟨g, 0, none⟩)] w (DvP B w0 w g v) := by
  have hB := hc.size
  have hgl := hc.lt
  have HST : Hid (DvR B w0 w g v (.slice (some ⟨w.heap.size, 0, none⟩) 0 0) (.int .i64 0) (w.alloc (.cells #[] 73))) :=
    ⟨0, some ⟨w.heap.size, 0, none⟩, 0, w.heap.size, [], by omega, rfl, by simp, by simp, hc.kept (World.grownBy_alloc w _ none) (by simp) hB (fun k hk => by cases hk), ⟨⟨_, _, rfl, by simp, fun h => absurd h (by simp), fun j h => absurd h (by simp)⟩, fun j h => absurd h (by simp)⟩, hB, fun h => absurd h (by simp), ⟨by simp, fun f hf => absurd hf (by simp), List.Pairwise.nil⟩, fun e => (by cases e), World.grownBy_alloc w _ _⟩
  clear hc
  go_enter Try.func39, Try.ntmps39
  go_wp2
  go_loopw [3, 4] (fun u i wr => DvR B w0 w g v u i wr) (fun _ i _ => 9 - (intOf i).toNat)
  case atStart => exact HST.out
  case round =>
    obtain ⟨m, a, cap, q, L, hm, rfl, rfl, hLm, HI⟩ := hrel
    clear HST
    go_wp2_with fail
    refine (l01Below_in B w0 _ g v 9 9 rfl HI.out.1 (by omega) (by omega)).mono ?_
    rintro e w1 ⟨j, hj, rfl, hc1, hg1⟩
    have HI1 : Hid (DvI B w0 w g v a cap q L w1) := by
      obtain ⟨h1, h2, h3, h4, h5, h6, h7⟩ := HI.out
      exact ⟨hc1, h2.grown hg1 (fun hp => by simpa using h4 hp), h3, h4, h5, h6, h7.trans hg1⟩
    clear hc1 hg1 HI
    by_cases hlt : m < j
    · have i1 : (m : Int) < (j : Int) := by omega
      go_wp2_with fail
      refine (l04Name_in B w0 _ g v HI1.out.1).mono ?_
      rintro e w2 ⟨x, hx, rfl, hc2, hg2⟩
      have HI2 : Hid (DvI B w0 w g v a cap q L w2) := by
        obtain ⟨h1, h2, h3, h4, h5, h6, h7⟩ := HI1.out
        exact ⟨hc2, h2.grown hg2 (fun hp => by simpa using h4 hp), h3, h4, h5, h6, h7.trans hg2⟩
      clear hc2 hg2 HI1
      go_wp2_with fail
      refine (l09Value_in B w0 _ g v HI2.out.1).mono ?_
      rintro e w3 ⟨y, hy, rfl, hc3, hg3⟩
      have HI3 : Hid (DvI B w0 w g v a cap q L w3) := by
        obtain ⟨h1, h2, h3, h4, h5, h6, h7⟩ := HI2.out
        exact ⟨hc3, h2.grown hg3 (fun hp => by simpa using h4 hp), h3, h4, h5, h6, h7.trans hg3⟩
      clear hc3 hg3 HI2
      have hxo := nameL_ok x hx
      have hyo := l9v_ok y hy
      have hlb : LV.leB ⟨x, y⟩ = true := by unfold LV.leB; rw [hxo.1, hyo.1]; rfl
      have hpb := LV.putB_yes (f := ⟨x, y⟩) HI3.out.2.2.2.2.1 (by omega) hlb
      have hsm : SmallL L := fun f hf => by have := LV.leB_sizes (HI3.out.2.2.2.2.1.2.1 f hf); omega
      have hP := sLeafPut_any a cap q 0 L x y w3 HI3.out.2.1.1 HI3.out.2.2.2.2.2.1 hsm (by omega) (by omega) (by omega)
      rw [hpb, putR_yes hpb] at hP
      have hMl : (LV.put L ⟨x, y⟩).length ≤ m + 1 := by rw [LV.len_put]; have := LV.len_wout_le L x; show (LV.wout L x).length + 1 ≤ m + 1; omega
      have hM0 : 0 < (LV.put L ⟨x, y⟩).length := by rw [LV.len_put]; omega
      have hMk : LV.LOk (LV.put L ⟨x, y⟩) := LV.putB_ok hpb
      generalize LV.put L ⟨x, y⟩ = M at *
      clear hpb hlb hxo hyo hsm hx hy
      go_wp2_with fail
      refine hP.mono ?_
      rintro e w4 ⟨a4, c4, g4, rfl, hr4, hg4, hb4⟩
      have HI4 : Hid (DvI B w0 w g v a4 c4 g4 M w4) := by
        obtain ⟨h1, h2, h3, h4, h5, h6, h7⟩ := HI3.out
        have hgr := grown_below (row := some g) hb4
        refine ⟨h1.kept (grown_below (row := none) hb4) (by simp) h1.size (fun k hk => by cases hk), hr4, Nat.le_trans h1.size hg4, fun _ => by have := h1.lt; omega, hMk, fun e => ?_, h7.trans hgr⟩
        obtain ⟨⟨a', c', ev, _, hA, _⟩, _⟩ := hr4
        have := (hA hM0).1
        simp at ev
        rw [e, this] at ev
        cases ev.1
      clear hP hr4 hg4 hb4 HI3 hMk hM0
      go_wp2
      go_roundw
      case rel => exact ⟨m + 1, a4, c4, g4, M, by omega, by go_num, rfl, hMl, HI4⟩
      case measure => simp [intOf]; omega
    · have i1 : ¬ (m : Int) < (j : Int) := by omega
      have HF : Hid (DvP B w0 w g v (.returned (.slice a L.length cap)) w1) := ⟨a, cap, q, L, rfl, by omega, HI1.out⟩
      clear HI1
      go_wp2
      go_ret
      exact HF.out

/-- a drawn list of right leaves -/
theorem DrawLeaves_any (w : World) (v : Value) (hc : Code w.heap.size w v) :
    Calls Try.prog 10 #[v] w fun e w' => ∃ (a : Option Addr) (cap q : Nat) (L : List Le), e = .returned (.slice a L.length cap) ∧ (L.length ≤ 8 ∧ LV.LOk L ∧ (a = none → cap = 0)) ∧ RW 2 lcs w' (.slice a L.length cap) q L ∧ w.heap.size ≤ q ∧ Below w.heap.size w w' := by
  have HC : Hid (Code w.heap.size w v) := hc
  clear hc
  go_enter Try.func10, Try.ntmps10
  go_wp2_with fail
  refine (l01New_in w v HC.out).mono ?_
  rintro e w1 ⟨g, rfl, hc1, hb1⟩
  go_wp2_with fail
  refine (l09Draw_in w.heap.size w _ g v hc1).mono ?_
  rintro e w2 ⟨a, cap, q, L, rfl, hl, hI⟩
  have HF : Hid (∃ (a2 : Option Addr) (cap2 q2 : Nat) (L2 : List Le), Ending.returned (.slice a L.length cap) = .returned (.slice a2 L2.length cap2) ∧ (L2.length ≤ 8 ∧ LV.LOk L2 ∧ (a2 = none → cap2 = 0)) ∧ RW 2 lcs w2 (.slice a2 L2.length cap2) q2 L2 ∧ w.heap.size ≤ q2 ∧ Below w.heap.size w w2) := ⟨a, cap, q, L, rfl, ⟨hl, hI.2.2.2.2.1, hI.2.2.2.2.2.1⟩, hI.2.1, hI.2.2.1, hI.1.2.1⟩
  clear hI
  go_wp2
  go_ret
  exact HF.out

end Go.Proofs.Ytiabodhgjeoejaa
