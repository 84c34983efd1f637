/-
  Texts laid together: Lt, Mf, Lk, Ls.
-/
import Derived.Test.YtfojmagcoipbnaaGreatDoorQ08
import Derived.Test.YtfojmagcoipbnaaGreatDoorQ11
import Derived.Lib.AppendStr
import Derived.Laws.IdiomCopy
import Derived.Test.YtfojmagcoipbnaaGreatDoorQ02
import Derived.Test.YtfojmagcoipbnaaGreatDoorQ07
import Derived.Lib.QuietBelow
import Derived.Test.YtfojmagcoipbnaaGreatDoorQ10
import Derived.Deep.AppendLies
/-
  The text of leaves: the program's and the specification's answers.
-/
namespace Go.Proofs.YtfojmagcoipbnaaGreatDoor
open Go.RowKit Go.BigFrame Go.Sort
set_option linter.unusedVariables false
set_option linter.unusedSimpArgs false

theorem OG.later {B : Nat} {w0 w w' : World} {v : Value} {l : List UInt8} (h : OG B w0 w v l) (hb : Below w.heap.size w w') : OG B w0 w' v l := by
  obtain ⟨⟨g, cap, cur, fz, hv, hB, hg, hr⟩, h2, h3⟩ := h
  exact ⟨⟨g, cap, cur, fz, hv, hB, by rw [hb.block g (Array.getElem?_eq_some_iff.1 hg).1]; exact hg, hr⟩, h2.trans (hb.mono h3), Nat.le_trans h3 hb.size⟩
theorem OG.from {B : Nat} {w0 w1 w : World} {v : Value} {l : List UInt8} (h : OG B w1 w v l) (hb : Below B w0 w1) : OG B w0 w v l := ⟨h.1, hb.trans h.2.1, h.2.2⟩
theorem OG.mono {B B' : Nat} {w0 w : World} {v : Value} {l : List UInt8} (h : OG B' w0 w v l) (hB : B ≤ B') : OG B w0 w v l := by
  obtain ⟨⟨g, cap, cur, fz, hv, hb, hg, hr⟩, h2, h3⟩ := h
  exact ⟨⟨g, cap, cur, fz, hv, by omega, hg, hr⟩, h2.mono hB, by omega⟩

/-- a string's bytes more -/
theorem OG.appStr {B : Nat} {w0 w : World} {v : Value} {l : List UInt8} (h : OG B w0 w v l) (ty : TypeId) (t : ByteArray) (hlen : l.length + t.size ≤ 1000000000) :
    ∃ v' w', (Builtin.append_ #[22, 9] ty #[v, .string t]).run Tryz.prog w = .ok v' w' ∧ OG B w0 w' v' (l ++ t.data.toList) := by
  obtain ⟨i0, hi, hz0, hz1, hz2⟩ := info_parts Tryz.info5
  have htl : t.data.toList.length = t.size := Array.length_toList
  obtain ⟨⟨g, cap, cur, fz, rfl, hb, hg, hfz, hn, hm, hcs, hcell⟩, hbel, hB⟩ := h
  by_cases hroom : l.length + t.size ≤ cap
  · have hc : ∀ j, j < t.size → (w.cell? ⟨g, l.length + j, none⟩).isSome = true := fun j hj => by
      rw [cell_of_row w g (l.length + j) cur 5 fz hg, Array.getElem?_eq_getElem (by omega)]
      rfl
    have hf : ∀ j, j < t.size → w.frozen? ⟨g, l.length + j, none⟩ = false := fun j hj => by
      obtain ⟨lo, hi2⟩ := fz
      simp only [World.frozen?, hg, Bool.and_eq_false_iff, decide_eq_false_iff_not]
      rcases hfz with h0 | h0
      · simp at h0; right; omega
      · left; simp only at h0; omega
    have hfc := Lib.run_firstCells_string (P := Tryz.prog) w 1 t
    have hst := run_storeCells_cells (P := Tryz.prog) g l.length (Lib.strCells t) 0 w (fun j hj => by rw [Lib.strCells_length] at hj; simpa using hc j hj) (fun j hj => by rw [Lib.strCells_length] at hj; simpa using hf j hj) (Lib.strCells_oneCell t)
    have hset : ∀ (vs : List Value) (o : Nat) (W : World) (c : Array Value), W.heap[g]? = some (.cells c 5 fz) → o + vs.length ≤ c.size → ∃ c', (W.setCells g o vs).heap[g]? = some (.cells c' 5 fz) ∧ c'.size = c.size ∧ (∀ j, j < o → c'[j]? = c[j]?) ∧ ∀ j (h : j < vs.length), c'[o + j]? = some vs[j] := by
      intro vs
      induction vs with
      | nil => intro o W c hW ho; exact ⟨c, hW, rfl, fun _ _ => rfl, fun j h => absurd h (by simp)⟩
      | cons x r ih =>
        intro o W c hW ho
        have hx : (W.setCell ⟨g, o, none⟩ x).heap[g]? = some (.cells (c.setIfInBounds o x) 5 fz) := by
          have := setCell_eq_setRow W g o c 5 fz x hW
          rw [this]
          exact setRow_heap W g c _ 5 _ hW
        simp only [List.length_cons] at ho
        obtain ⟨c', h1, h2, h3, h4⟩ := ih (o + 1) (W.setCell ⟨g, o, none⟩ x) _ hx (by simp; omega)
        refine ⟨c', h1, by simpa using h2, fun j hj => ?_, fun j hj => ?_⟩
        · rw [h3 j (by omega), Array.getElem?_setIfInBounds, if_neg (by omega)]
        · match j, hj with
          | 0, _ => rw [Nat.add_zero, h3 o (by omega)]; simp [show o < c.size by omega]
          | j + 1, hj =>
            have := h4 j (by simpa using hj)
            rw [show o + 1 + j = o + (j + 1) by omega] at this
            rw [this]
            rfl
    obtain ⟨c', h1, h2, h3, h4⟩ := hset (Lib.strCells t) l.length w cur hg (by rw [Lib.strCells_length]; omega)
    refine ⟨.slice (some ⟨g, 0, none⟩) (l.length + t.size) cap, w.setCells g l.length (Lib.strCells t), ?_, ⟨g, cap, c', fz, by simp [htl], hb, h1, hfz, by simp [htl]; omega, hm, by omega, ?_⟩, below_setCells hb _ _ _ hbel, by rw [size_setCells]; exact hB⟩
    · have hadd : (⟨g, 0, none⟩ : Addr).add l.length = ⟨g, l.length, none⟩ := by unfold Addr.add; split <;> simp_all
      simp only [Nat.add_zero] at hst
      simp [Builtin.append_, run_underlying Tryz.underlying22, run_underlying Tryz.underlying9, sizeOf, typeInfo, hi, hz1, Builtin.lenOf, hroom, hfc, hadd, hst]
    · intro j hj
      by_cases he : j < l.length
      · rw [h3 j he, hcell j he, List.getElem_append_left he]
      · obtain ⟨k, rfl⟩ : ∃ k, j = l.length + k := ⟨j - l.length, by omega⟩
        have hk : k < (Lib.strCells t).length := by rw [Lib.strCells_length]; simp [htl] at hj; omega
        rw [h4 k hk, List.getElem_append_right (by omega)]
        simp [Lib.strCells]
  · have hxs : ∀ j u, (bv l)[j]? = some u → w.cell? ((⟨g, 0, none⟩ : Addr).add j) = some u := by
      intro j u hj
      obtain ⟨hj', rfl⟩ := bv_get _ _ _ hj
      have hadd : (⟨g, 0, none⟩ : Addr).add j = ⟨g, j, none⟩ := by unfold Addr.add; split <;> simp_all
      rw [hadd, cell_of_row w g j cur 5 fz hg]
      exact hcell j hj'
    have hr := Lib.run_append_grow_string (P := Tryz.prog) w 22 9 ty 5 i0 (.int .u8 0) Tryz.underlying22 Tryz.underlying9 hi hz0 ⟨g, 0, none⟩ l.length cap (bv l) (by rw [hz1]; simp [bv]) hxs t (by omega) (by omega) (growslice_fits (by omega) (by rw [hz2]; omega))
    have hge := grownCap_ge w (l.length + t.size) cap 5
    have hcm := grownCap_le_maxLen w (l.length + t.size) cap 5 (by unfold maxLen; omega)
    refine ⟨_, _, hr, ⟨w.heap.size, _, _, (0, 0), by simp [htl], by omega, heap_alloc_new w.drew _, .inl rfl, by simp [htl]; omega, hcm, ?_, ?_⟩, (hbel.drew).alloc hB _, by simp; omega⟩
    · have hz : (Value.int IntKind.u8 0).cells.size = 1 := rfl
      simp only [Array.size_append, List.size_toArray, size_zeroCells, hz, bv_length, Lib.strCells_length]
      omega
    · intro j hj
      have hj2 : j < l.length + t.size := by simpa [htl] using hj
      rw [Array.getElem?_append_left (by simp [bv, Lib.strCells_length]; omega)]
      by_cases he : j < l.length
      · rw [Array.getElem?_append_left (by simp [bv]; omega)]
        simp [bv, he, List.getElem_append_left]
      · rw [Array.getElem?_append_right (by simp [bv]; omega)]
        have : j - l.length < t.size := by omega
        simp [bv, Lib.strCells, List.getElem_append_right, Nat.le_of_not_lt he, List.getElem?_eq_getElem (show j - l.length < t.data.toList.length by omega)]

theorem wp_appGS {w : World} {ops : Array Oper} {rest : List Oper} {o : Oper} {a : Act} {Q : Exit → Act → World → Prop} (hgd : o.guard = none) (s x : Operand)
    (ho : o.op = .call { callee := .builtin .append, args := #[s, x], argTypes := #[22, 9] })
    (B : Nat) (w0 : World) (v : Value) (l : List UInt8) (hs : a.eval s = v) (hown : OG B w0 w v l) (t : ByteArray) (hx : a.eval x = .string t) (hlen : l.length + t.size ≤ 1000000000)
    (h : ∀ v' w', OG B w0 w' v' (l ++ t.data.toList) → wpList Tryz.prog ops Q rest (a.put o.dst v') w') : wpList Tryz.prog ops Q (o :: rest) a w := by
  refine wpList_plain hgd fun K hK => ?_
  obtain ⟨v', w', hr, h2⟩ := hown.appStr o.type t hlen
  unfold Oper.wp
  simp [execOp, ho, resolve, invoke, builtin, hs, hx, hr, Result.andThen]
  exact hK _ _ (h v' w' h2)

/-- the text of the first m leaves, behind how many there are -/
def lvP (L : List Le) (m : Nat) : List UInt8 := M.varL L.length ++ LV.ltL (L.take m)
theorem lvP_zero (L : List Le) : lvP L 0 = M.varL L.length := by simp [lvP, LV.ltL]
theorem lvP_all (L : List Le) : lvP L L.length = LV.lvL L := by simp [lvP, LV.lvL]
theorem lvP_step {L : List Le} {m : Nat} (h : m < L.length) : lvP L (m + 1) = lvP L m ++ LV.leL L[m] := by
  unfold lvP
  rw [List.take_succ_eq_append_getElem h, LV.ltL_snoc, List.append_assoc]
theorem lvP_len {L : List Le} (h : LV.LOk L) (m : Nat) : (lvP L m).length ≤ 1100 := by
  have h1 := M.varL_len L.length
  have h2 := LV.ltL_len (L := L.take m) (fun f hf => h.2.1 f (List.mem_of_mem_take hf))
  have h3 := h.1
  have h4 : (L.take m).length ≤ 24 := by simp; omega
  simp only [lvP, List.length_append]
  omega

def LtR (L : List Le) (w : World) (v i : Value) (wr : World) : Prop := ∃ m : Nat, m ≤ L.length ∧ i = .int .i64 m ∧ OG w.heap.size w wr v (lvP L m)

noncomputable def lvT (L : List Le) : ByteArray := if LV.leavesB L then ⟨(LV.lvL L).toArray⟩ else ⟨#[]⟩
theorem lvT_yes {L : List Le} (h : LV.leavesB L = true) : lvT L = ⟨(LV.lvL L).toArray⟩ := if_pos h
theorem lvT_no {L : List Le} (h : LV.leavesB L = false) : lvT L = ⟨#[]⟩ := if_neg (by rw [h]; simp)

set_option maxRecDepth 100000 in
set_option maxHeartbeats 1000000 in
theorem LeavesText_any (v : Value) (ga oa : Nat) (L : List Le) (w : World) (hv : RS 2 lcs w v ga oa L) (hsm : SmallL L) :
    Calls Tryz.prog 81 #[v] w fun e w' => e = .returned (.tuple #[.string (lvT L), .bool (LV.leavesB L)]) ∧ Below w.heap.size w w' := by
  have HOK := LeavesOk_any v ga oa L w hv hsm
  have HVV : Hid (RS 2 lcs w v ga oa L) := hv
  obtain ⟨a, cap, rfl, hl, hA, hc⟩ := hv
  obtain ⟨n, hn⟩ : ∃ n, L.length = n := ⟨_, rfl⟩
  have HA : Hid (0 < n → a = some ⟨ga, oa, none⟩) := by rw [← hn]; exact fun h => (hA h).1
  clear hc hA
  cases hR : LV.leavesB L
  · rw [lvT_no hR]
    rw [hR] at HOK
    rw [hn] at HOK ⊢
    clear HVV HA
    go_enter Tryz.func81, Tryz.ntmps81
    go_wp2_with fail
    refine HOK.mono ?_
    rintro e w1 ⟨rfl, hb1⟩
    go_wp2
    go_ret2
    exact ⟨rfl, hb1⟩
  · obtain ⟨T, hT⟩ : ∃ T, lvT L = T := ⟨_, rfl⟩
    have HT : Hid ((⟨(LV.lvL L).toArray⟩ : ByteArray) = T) := by rw [← hT, lvT_yes hR]; rfl
    have hok := LV.leavesB_iff.1 hR
    have HL : Hid (LV.LOk L) := hok
    have h24 := hok.1
    rw [hR] at HOK
    rw [hT]
    rw [hn] at h24 hl HOK ⊢
    clear hT hok hR hsm
    go_enter Tryz.func81, Tryz.ntmps81
    go_wp2_with fail
    refine HOK.mono ?_
    rintro e w1 ⟨rfl, hb1⟩
    clear HOK
    go_wp2_with fail
    refine (VarText_yes n _ (by omega)).mono ?_
    rintro e w2 ⟨rfl, hb2⟩
    have b2 := hb1.trans (hb2.mono hb1.size)
    have hvz := varA_size n
    obtain ⟨w3, cap3, hcv, ho3⟩ := OG.conv ⟨(M.varL n).toArray⟩ w2 (by unfold maxLen; omega)
    have HST : Hid (LtR L w (.slice (some ⟨w2.heap.size, 0, none⟩) (⟨(M.varL n).toArray⟩ : ByteArray).size cap3) (.int .i64 0) w3) := by
      refine ⟨0, by omega, rfl, ?_⟩
      rw [lvP_zero, hn]
      exact OG.from (OG.mono (by simpa using ho3) b2.size) b2
    clear ho3 hb1 hb2
    generalize (⟨(M.varL n).toArray⟩ : ByteArray) = V at *
    go_wp2
    clear hcv
    go_loopw [6, 26] (fun v i wr => LtR L w v i wr) (fun _ i _ => n - (intOf i).toNat)
    case atStart => exact HST.out
    case round =>
      obtain ⟨m, hm, rfl, hown⟩ := hrel
      rw [hn] at hm
      clear HST
      by_cases hlt : m < n
      · have ea := HA.out (by omega)
        subst ea
        obtain ⟨c0, c1⟩ := (HVV.out.later hown.2.1).leaf m (by omega)
        have i1 : (m : Int) < (n : Int) := by omega
        have i2 : (0 : Int) ≤ (m : Int) := by omega
        obtain ⟨X, hX⟩ : ∃ X, L[m]'(by omega) = X := ⟨_, rfl⟩
        rw [hX] at c0 c1
        have hxs := LV.leB_sizes (HL.out.2.1 X (by rw [← hX]; exact List.getElem_mem _))
        have hsz := lvP_len HL.out m
        have HN : Hid (∀ v W, OG w.heap.size w W v (lvP L m ++ (⟨(M.varL X.n.size).toArray⟩ ++ X.n : ByteArray).data.toList ++ (⟨(M.varL X.v.size).toArray⟩ ++ X.v : ByteArray).data.toList) → LtR L w v (.int .i64 ((m : Int) + 1)) W) := by
          intro v W hW
          refine ⟨m + 1, by omega, by simp, ?_⟩
          rw [lvP_step (by omega), hX]
          simpa [LV.leL, ByteArray.data_append] using hW
        have hva := varA_size X.n.size
        have hvb := varA_size X.v.size
        clear HVV HA HL hX HT
        generalize lvP L m = S at *
        have hown0 := hown.alloc (.cells #[.string X.n, .string X.v] 121)
        clear hown
        go_wp2_with fail
        refine (Short_yes X.n _ (by omega)).mono ?_
        rintro e w4 ⟨rfl, hb4⟩
        have hown1 := hown0.later hb4
        have d1 : w4.cell? ⟨wr.heap.size, 1, none⟩ = some (.string X.v) := by
          rw [hb4.cell (p := ⟨wr.heap.size, 1, none⟩) (by simp)]
          simp
        clear hown0 hb4
        go_wp2_with fail
        refine (Short_yes X.v _ (by omega)).mono ?_
        rintro e w5 ⟨rfl, hb5⟩
        have hown2 := hown1.later hb5
        have hz : ((⟨(M.varL X.n.size).toArray⟩ : ByteArray) ++ X.n).size ≤ 30 := by
          rw [ByteArray.size_append]
          omega
        have hz2 : ((⟨(M.varL X.v.size).toArray⟩ : ByteArray) ++ X.v).size ≤ 30 := by
          rw [ByteArray.size_append]
          omega
        generalize (⟨(M.varL X.n.size).toArray⟩ : ByteArray) ++ X.n = Y at *
        generalize (⟨(M.varL X.v.size).toArray⟩ : ByteArray) ++ X.v = Z at *
        clear hown1 hb5 d1
        have hyl : Y.data.toList.length = Y.size := Array.length_toList
        go_wp2_with (at_builtin; refine wp_appGS rfl _ _ rfl w.heap.size w _ S rfl hown2 Y rfl ?c1 ?_)
        case c1 => omega
        intro v' w6 hown3
        go_wp2_with (at_builtin; refine wp_appGS rfl _ _ rfl w.heap.size w _ _ rfl hown3 Z rfl ?c2 ?_)
        case c2 => rw [List.length_append]; omega
        intro v' w7 hown4
        go_wp2
        go_roundw
        case rel => exact HN.out _ _ (by rw [List.append_assoc]; exact hown4)
        case measure => simp [intOf]; omega
      · have hme : m = n := by omega
        have e2 : lvP L m = LV.lvL L := by rw [hme, ← hn]; exact lvP_all L
        rw [e2] at hown
        have hcv := hown.str
        rw [HT.out] at hcv
        subst hme
        clear HVV HA HL HT e2
        go_wp2
        go_ret2
        exact ⟨rfl, hown.2.1⟩

/-- the text so far -/
def lvQ (L : List Le) (m : Nat) : ByteArray := ⟨(lvP L m).toArray⟩
theorem lvQ_zero (L : List Le) : lvQ L 0 = ⟨(M.varL L.length).toArray⟩ := by unfold lvQ; rw [lvP_zero]
theorem lvQ_step {L : List Le} {m : Nat} (h : m < L.length) : lvQ L (m + 1) = lvQ L m ++ ⟨(M.varL (L[m]).n.size).toArray⟩ ++ (L[m]).n ++ ⟨(M.varL (L[m]).v.size).toArray⟩ ++ (L[m]).v := by
  refine ByteArray.ext (Array.toList_inj.1 ?_)
  unfold lvQ
  rw [lvP_step h]
  simp [ByteArray.data_append, LV.leL]
theorem lvQ_size {L : List Le} (h : LV.LOk L) (m : Nat) : (lvQ L m).size ≤ 1100 := by
  have := lvP_len h m
  unfold lvQ
  show (lvP L m).toArray.size ≤ 1100
  simpa using this

def LqR (L : List Le) (w : World) (s i : Value) (wr : World) : Prop := ∃ m : Nat, m ≤ L.length ∧ i = .int .i64 m ∧ s = .string (lvQ L m) ∧ Below w.heap.size w wr

set_option maxRecDepth 100000 in
set_option maxHeartbeats 1000000 in
theorem l09Text_any (v : Value) (ga oa : Nat) (L : List Le) (w : World) (hv : RS 2 lcs w v ga oa L) (hok : LV.LOk L) :
    Calls Tryz.prog 279 #[v] w fun e w' => e = .returned (.string ⟨(LV.lvL L).toArray⟩) ∧ Below w.heap.size w w' := by
  have HVV : Hid (RS 2 lcs w v ga oa L) := hv
  obtain ⟨a, cap, rfl, hl, hA, hc⟩ := hv
  obtain ⟨n, hn⟩ : ∃ n, L.length = n := ⟨_, rfl⟩
  have HA : Hid (0 < n → a = some ⟨ga, oa, none⟩) := by rw [← hn]; exact fun h => (hA h).1
  obtain ⟨T, hT⟩ : ∃ T, (⟨(LV.lvL L).toArray⟩ : ByteArray) = T := ⟨_, rfl⟩
  have HT : Hid (lvQ L L.length = T) := by rw [← hT]; unfold lvQ; rw [lvP_all]; rfl
  have HL : Hid (LV.LOk L) := hok
  have h24 := hok.1
  have HST : Hid (∀ W, Below w.heap.size w W → LqR L w (.string ⟨(M.varL n).toArray⟩) (.int .i64 0) W) := fun W hW => ⟨0, by omega, rfl, by rw [lvQ_zero, hn], hW⟩
  rw [hT]
  rw [hn] at h24 hl ⊢
  clear hT hok hc hA
  go_enter Tryz.func279, Tryz.ntmps279
  go_wp2_with fail
  refine (l01Var_any n _ (by omega)).mono ?_
  rintro e w1 ⟨rfl, hb1⟩
  have HS1 : Hid (LqR L w (.string ⟨(M.varL n).toArray⟩) (.int .i64 0) w1) := HST.out w1 hb1
  generalize (⟨(M.varL n).toArray⟩ : ByteArray) = V at *
  clear HST hb1
  go_wp2
  go_loopw [3, 4] (fun s i wr => LqR L w s i wr) (fun _ i _ => n - (intOf i).toNat)
  case atStart => exact HS1.out
  case round =>
    obtain ⟨m, hm, rfl, rfl, hbel⟩ := hrel
    rw [hn] at hm
    clear HS1
    by_cases hlt : m < n
    · have ea := HA.out (by omega)
      subst ea
      obtain ⟨c0, c1⟩ := (HVV.out.later hbel).leaf m (by omega)
      have i1 : (m : Int) < (n : Int) := by omega
      have i2 : (0 : Int) ≤ (m : Int) := by omega
      have hst := lvQ_step (L := L) (m := m) (by omega)
      have hs0 := lvQ_size HL.out m
      have hs1 := lvQ_size HL.out (m + 1)
      obtain ⟨X, hX⟩ : ∃ X, L[m]'(by omega) = X := ⟨_, rfl⟩
      rw [hX] at c0 c1 hst
      have hxs := LV.leB_sizes (HL.out.2.1 X (by rw [← hX]; exact List.getElem_mem _))
      have HN : Hid (lvQ L (m + 1) = lvQ L m ++ ⟨(M.varL X.n.size).toArray⟩ ++ X.n ++ ⟨(M.varL X.v.size).toArray⟩ ++ X.v) := hst
      have hva := varA_size X.n.size
      have hvb := varA_size X.v.size
      have HM0 : Hid (∀ W, Calls Tryz.prog 198 #[.int .i64 (X.n.size : Int)] W fun e w' => e = .returned (.string ⟨(M.varL X.n.size).toArray⟩) ∧ Below W.heap.size W w') := fun W => l01Var_any _ W (by omega)
      have HM1 : Hid (∀ W, Calls Tryz.prog 198 #[.int .i64 (X.v.size : Int)] W fun e w' => e = .returned (.string ⟨(M.varL X.v.size).toArray⟩) ∧ Below W.heap.size W w') := fun W => l01Var_any _ W (by omega)
      have HBL : Hid (Below w.heap.size w wr) := hbel
      clear HVV HA HL hX HT hst hs1
      have q1 : ¬ (9223372036854775807 : Nat) < (lvQ L m).size + (⟨(M.varL X.n.size).toArray⟩ : ByteArray).size := by omega
      have q2 : ¬ (9223372036854775807 : Nat) < (lvQ L m ++ ⟨(M.varL X.n.size).toArray⟩).size + X.n.size := by rw [ByteArray.size_append]; omega
      have q3 : ¬ (9223372036854775807 : Nat) < (lvQ L m ++ ⟨(M.varL X.n.size).toArray⟩ ++ X.n).size + (⟨(M.varL X.v.size).toArray⟩ : ByteArray).size := by rw [ByteArray.size_append, ByteArray.size_append]; omega
      have q4 : ¬ (9223372036854775807 : Nat) < (lvQ L m ++ ⟨(M.varL X.n.size).toArray⟩ ++ X.n ++ ⟨(M.varL X.v.size).toArray⟩).size + X.v.size := by rw [ByteArray.size_append, ByteArray.size_append, ByteArray.size_append]; omega
      generalize (⟨(M.varL X.n.size).toArray⟩ : ByteArray) = Y at *
      generalize (⟨(M.varL X.v.size).toArray⟩ : ByteArray) = Z at *
      generalize hP : lvQ L m = P at *
      clear hbel hva hvb
      go_wp2
      have kq0 := cell_regrown (w := wr) c0
      have kq1 := cell_regrown (w := wr) c1
      have cq0 := fun d os => Calls.regrown_of (w := wr) (d := d) (os := os) (HM0.out _)
      have cq1 := fun d os => Calls.regrown_of (w := wr) (d := d) (os := os) (HM1.out _)
      refine wp_region_quiet_below (by kernel_rfl) (by kernel_rfl) ?_
      repeat (go_big_quiet_step (first | with_reducible exact cq0 _ _ | with_reducible exact cq1 _ _))
      refine wpQuiet_nil ?_
      rintro _ ⟨⟨dq, osq⟩, rfl⟩
      have hb6 := below_regrown wr dq osq
      generalize grow (redrawn wr dq) osq = w6 at *
      clear kq0 kq1 cq0 cq1
      have hb7 := HBL.out.trans (hb6.mono HBL.out.size)
      go_wp2
      go_roundw
      case rel => exact ⟨m + 1, by omega, by go_num, by rw [HN.out], hb7⟩
      case measure => simp [intOf]; omega
    · have hme : m = n := by omega
      have e2 : lvQ L m = T := by rw [hme, ← hn]; exact HT.out
      rw [e2]
      subst hme
      clear HVV HA HL HT e2
      go_wp2
      go_ret
      exact ⟨rfl, hbel⟩

theorem sLeavesText_any (v : Value) (ga oa : Nat) (L : List Le) (w : World) (hv : RS 2 lcs w v ga oa L) (hsm : SmallL L) :
    Calls Tryz.prog 197 #[v] w fun e w' => e = .returned (.tuple #[.string (lvT L), .bool (LV.leavesB L)]) ∧ Below w.heap.size w w' := by
  have HOK := sLeavesOk_any v ga oa L w hv hsm
  have HVV : Hid (RS 2 lcs w v ga oa L) := hv
  obtain ⟨a, cap, rfl, hl, hA, hc⟩ := hv
  cases hR : LV.leavesB L
  · rw [lvT_no hR]
    rw [hR] at HOK
    clear hc hA HVV
    go_enter Tryz.func197, Tryz.ntmps197
    go_wp2_with fail
    refine HOK.mono ?_
    rintro e w1 ⟨rfl, hb1⟩
    go_wp2
    go_ret2
    exact ⟨rfl, hb1⟩
  · have HT : Hid (∀ W, Below w.heap.size w W → Calls Tryz.prog 279 #[.slice a L.length cap] W fun e w' => e = .returned (.string (lvT L)) ∧ Below W.heap.size W w') := fun W hW => by rw [lvT_yes hR]; exact l09Text_any _ ga oa L W (HVV.out.later hW) (LV.leavesB_iff.1 hR)
    rw [hR] at HOK
    generalize lvT L = T at *
    clear hc hA HVV
    go_enter Tryz.func197, Tryz.ntmps197
    go_wp2_with fail
    refine HOK.mono ?_
    rintro e w1 ⟨rfl, hb1⟩
    go_wp2_with fail
    refine (HT.out _ hb1).mono ?_
    rintro e w2 ⟨rfl, hb2⟩
    have b2 := hb1.trans (hb2.mono hb1.size)
    go_wp2
    go_ret2
    exact ⟨rfl, b2⟩

end Go.Proofs.YtfojmagcoipbnaaGreatDoor
/-
  What the laws' own helpers write into the files of a disk, and find there again.
-/
namespace Go.Proofs.YtfojmagcoipbnaaGreatDoor
open Go.RowKit Go.BigFrame Go.Sort
set_option linter.unusedVariables false
set_option linter.unusedSimpArgs false

def fmk (k0 j : Nat) : Fl := ⟨markB (k0 + 3 * j), markB (k0 + 3 * j + 1), ((k0 + 3 * j + 2 : Nat) : Int)⟩
def fmarks (k0 n : Nat) : List Fl := (List.range n).map (fmk k0)
theorem fmarks_len (k0 n : Nat) : (fmarks k0 n).length = n := by simp [fmarks]
theorem fmarks_at (k0 n j : Nat) (h : j < (fmarks k0 n).length) : (fmarks k0 n)[j] = fmk k0 j := by simp [fmarks]

theorem set_here {w : World} {g o : Nat} {u : Value} (h : w.cell? ⟨g, o, none⟩ = some u) (hf : w.frozen? ⟨g, o, none⟩ = false) (v : Value) : (w.setCell ⟨g, o, none⟩ v).cell? ⟨g, o, none⟩ = some v :=
  (World.rangeAt_setCells_same w g o [v] (fun j hj => by
    have : j = 0 := by simpa using hj
    subst this
    exact ⟨by rw [Nat.add_zero, h]; rfl, hf⟩)) 0 v rfl
theorem set_else {w : World} {g o o' : Nat} (h : o' ≠ o) (v : Value) : (w.setCell ⟨g, o, none⟩ v).cell? ⟨g, o', none⟩ = w.cell? ⟨g, o', none⟩ :=
  World.cell?_setCells_out g [v] o w ⟨g, o', none⟩ (fun _ _ => by simp; omega)
theorem set_there {w : World} {g b o n : Nat} (o' : Nat) (h : w.there b o n) (v : Value) : (w.setCell ⟨g, o', none⟩ v).there b o n := World.there_setCells h g o' [v]
theorem set_range {w : World} {g o o' : Nat} {cs : List Value} (h : w.rangeAt g o cs) (hn : o + cs.length ≤ o') (v : Value) : (w.setCell ⟨g, o', none⟩ v).rangeAt g o cs := World.rangeAt_setCells_apart h g o' [v] (.inr (.inl hn))

def rowF (g n : Nat) : Option Nat := if n = 0 then none else some g
theorem rowF_some {g n : Nat} (h : 0 < n) : rowF g n = some g := if_neg (by omega)
theorem rowF_ne {g k n : Nat} (h : 0 < n → k ≠ g) : some k ≠ rowF g n := by
  unfold rowF
  split
  · simp
  · have := h (by omega)
    simpa using this
theorem rowF_le {g n B : Nat} (h : B ≤ g) (q : Nat) (hq : rowF g n = some q) : B ≤ q := by
  unfold rowF at hq
  split at hq
  · cases hq
  · cases hq; exact h
/-- the first m files bear marks, and all may be written -/
def MfI (w : World) (g : Nat) (l : List Fl) (k0 m : Nat) (wr : World) : Prop := (∀ j, j < m → wr.rangeAt g (j * 3) (fcs (fmk k0 j))) ∧ (∀ j, j < l.length → wr.there g (j * 3) 3) ∧ w.grownBy wr (rowF g l.length)
theorem MfI.below {w wr wr' : World} {g : Nat} {l : List Fl} {k0 m : Nat} (h : MfI w g l k0 m wr) (hg : g < wr.heap.size) (hb : Below wr.heap.size wr wr') : MfI w g l k0 m wr' :=
  ⟨fun j hj => range_kept (h.1 j hj) (hb.block g hg), fun j hj => there_kept (h.2.1 j hj) (hb.block g hg), h.2.2.trans ((grown_below hb))⟩
theorem MfI.set {w wr : World} {g : Nat} {l : List Fl} {k0 m : Nat} (h : MfI w g l k0 m wr) (hm : m < l.length) (o : Nat) (ho : m * 3 ≤ o) (v : Value) : MfI w g l k0 m (wr.setCell ⟨g, o, none⟩ v) :=
  ⟨fun j hj => set_range (h.1 j hj) (by rw [fcs_len]; omega) v, fun j hj => set_there o (h.2.1 j hj) v, by
    have h3 := h.2.2
    rw [rowF_some (by omega)] at h3 ⊢
    exact h3.trans (grown_set wr g o v)⟩

def MfR (w : World) (g : Nat) (l : List Fl) (k0 : Nat) (x i : Value) (wr : World) : Prop := ∃ m : Nat, m ≤ l.length ∧ i = .int .i64 m ∧ x = .int .i64 (k0 + 3 * m : Nat) ∧ Hid (MfI w g l k0 m wr)

def HfR (k0 n : Nat) (w : World) (x i : Value) (wr : World) : Prop := ∃ m : Nat, m ≤ n ∧ i = .int .i64 m ∧ x = .int .i64 (k0 + 3 * m : Nat) ∧ Below w.heap.size w wr

end Go.Proofs.YtfojmagcoipbnaaGreatDoor
/-
  What the laws' own helpers write into a row of leaves, and find there again.
-/
namespace Go.Proofs.YtfojmagcoipbnaaGreatDoor
open Go.RowKit Go.BigFrame Go.Sort
set_option linter.unusedVariables false
set_option linter.unusedSimpArgs false

def lmk (k0 j : Nat) : Le := ⟨markB (k0 + 2 * j), markB (k0 + 2 * j + 1)⟩
def lmarks (k0 n : Nat) : List Le := (List.range n).map (lmk k0)
theorem lmarks_len (k0 n : Nat) : (lmarks k0 n).length = n := by simp [lmarks]
theorem lmarks_at (k0 n j : Nat) (h : j < (lmarks k0 n).length) : (lmarks k0 n)[j] = lmk k0 j := by simp [lmarks]

/-- the first m leaves bear marks, and all may be written -/
def MlI (w : World) (g : Nat) (l : List Le) (k0 m : Nat) (wr : World) : Prop := (∀ j, j < m → wr.rangeAt g (j * 2) (lcs (lmk k0 j))) ∧ (∀ j, j < l.length → wr.there g (j * 2) 2) ∧ w.grownBy wr (rowF g l.length)
theorem MlI.below {w wr wr' : World} {g : Nat} {l : List Le} {k0 m : Nat} (h : MlI w g l k0 m wr) (hg : g < wr.heap.size) (hb : Below wr.heap.size wr wr') : MlI w g l k0 m wr' :=
  ⟨fun j hj => range_kept (h.1 j hj) (hb.block g hg), fun j hj => there_kept (h.2.1 j hj) (hb.block g hg), h.2.2.trans ((grown_below hb))⟩
theorem MlI.set {w wr : World} {g : Nat} {l : List Le} {k0 m : Nat} (h : MlI w g l k0 m wr) (hm : m < l.length) (o : Nat) (ho : m * 2 ≤ o) (v : Value) : MlI w g l k0 m (wr.setCell ⟨g, o, none⟩ v) :=
  ⟨fun j hj => set_range (h.1 j hj) (by rw [lcs_len]; omega) v, fun j hj => set_there o (h.2.1 j hj) v, by
    have h3 := h.2.2
    rw [rowF_some (by omega)] at h3 ⊢
    exact h3.trans (grown_set wr g o v)⟩

def MlR (w : World) (g : Nat) (l : List Le) (k0 : Nat) (x i : Value) (wr : World) : Prop := ∃ m : Nat, m ≤ l.length ∧ i = .int .i64 m ∧ x = .int .i64 (k0 + 2 * m : Nat) ∧ Hid (MlI w g l k0 m wr)

def HlR (k0 n : Nat) (w : World) (x i : Value) (wr : World) : Prop := ∃ m : Nat, m ≤ n ∧ i = .int .i64 m ∧ x = .int .i64 (k0 + 2 * m : Nat) ∧ Below w.heap.size w wr

end Go.Proofs.YtfojmagcoipbnaaGreatDoor
/-
  Leaves read of a whole text: the program's and the specification's answers.
-/
namespace Go.Proofs.YtfojmagcoipbnaaGreatDoor
open Go.RowKit Go.BigFrame Go.Sort
set_option linter.unusedVariables false
set_option linter.unusedSimpArgs false

/-- what ReadLeaves answers -/
def RxP (s : ByteArray) (w : World) (e : Ending) (w' : World) : Prop := ∃ a c g, e = .returned (.tuple #[.slice a (LV.rdL s).length c, .bool (LV.rdB s)]) ∧ RW 2 lcs w' (.slice a (LV.rdL s).length c) g (LV.rdL s) ∧ w.heap.size ≤ g ∧ Below w.heap.size w w'
theorem RW.empty (W : World) (g c : Nat) (a : Option Addr) : RW 2 lcs W (.slice a 0 c) g [] := ⟨⟨a, c, rfl, by simp, fun h => absurd h (by simp), fun j h => absurd h (by simp)⟩, fun j h => absurd h (by simp)⟩
theorem RxP.no {s : ByteArray} {w w' : World} (hB : LV.rdB s = false) (hL : LV.rdL s = []) (c : Nat) (a : Option Addr) (hb : Below w.heap.size w w') : RxP s w (.returned (.tuple #[.slice a 0 c, .bool false])) w' := by
  unfold RxP
  rw [hB, hL]
  exact ⟨a, c, w.heap.size, rfl, RW.empty _ _ _ _, Nat.le_refl _, hb⟩

theorem rd_none {s : ByteArray} (h : LV.rawL s 0 = none) : LV.rdB s = false ∧ LV.rdL s = [] := by
  unfold LV.rdB LV.rdL
  rw [h]
  exact ⟨rfl, rfl⟩
theorem rd_some {s : ByteArray} {l : List Le} {q : Nat} (h : LV.rawL s 0 = some (l, q)) : LV.rdB s = (decide (q = s.size) && LV.leavesB l) ∧ LV.rdL s = if decide (q = s.size) && LV.leavesB l then l else [] := by
  unfold LV.rdB LV.rdL
  rw [h]
  exact ⟨rfl, rfl⟩

end Go.Proofs.YtfojmagcoipbnaaGreatDoor
