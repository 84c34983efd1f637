/-
  Texts laid together: Bt, Bh, Tm.
-/
import Derived.Test.YtklpanjedolkdaaGreatDoorPkELS11
import Derived.Test.YtklpanjedolkdaaGreatDoorPkELS10
import Derived.Test.YtklpanjedolkdaaGreatDoorPkELS26
import Derived.Test.YtklpanjedolkdaaGreatDoorPkELS27
import Derived.Laws.CopyRow
import Derived.Test.YtklpanjedolkdaaGreatDoorPkELS8
/-
  What BucketText answers, the program's and the specification's.
-/
namespace Go.Proofs.YtklpanjedolkdaaGreatDoor
open Go.RowKit Go.BigFrame Go.Sort
set_option linter.unusedVariables false
set_option linter.unusedSimpArgs false

open TR (bkp bkp_len)
/-- the text of leaves that are right -/
def btB (L : List Le) : ByteArray := if L.isEmpty then tagB 1 [] else tagB 2 (bkp L)
/-- what BucketText is -/
noncomputable def btA (L : List Le) : ByteArray := if LV.leavesB L then btB L else ⟨#[]⟩
theorem btA_yes {L : List Le} (h : LV.leavesB L = true) : btA L = btB L := by unfold btA; rw [h]; rfl
theorem btA_no {L : List Le} (h : LV.leavesB L = false) : btA L = ⟨#[]⟩ := by unfold btA; rw [h]; rfl
theorem leB_size {f : Le} (h : LV.leB f = true) : f.n.size ≤ 12 ∧ f.v.size ≤ 12 ∧ 1 ≤ f.n.size := by
  unfold LV.leB okB at h
  simp only [Bool.and_eq_true, decide_eq_true_eq] at h
  omega
theorem bkp_mem {L : List Le} {y : ByteArray} (h : y ∈ bkp L) : ∃ f ∈ L, y = f.n ∨ y = f.v := by
  unfold bkp at h
  obtain ⟨f, hf, hy⟩ := List.mem_flatMap.1 h
  exact ⟨f, hf, by simpa using hy⟩
theorem bkp_ok {L : List Le} (h : LV.LOk L) : tagOk 2 (bkp L) = true := by
  unfold tagOk
  rw [Bool.and_eq_true, decide_eq_true_eq, List.all_eq_true]
  refine ⟨⟨by omega, by rw [bkp_len]; have := h.1; omega⟩, fun y hy => ?_⟩
  obtain ⟨f, hf, hfy⟩ := bkp_mem hy
  have := leB_size (h.2.1 f hf)
  rw [decide_eq_true_eq]
  rcases hfy with rfl | rfl <;> omega
theorem none_ok : tagOk 1 [] = true := by decide
theorem bkp_step {L : List Le} {m : Nat} (hm : m < L.length) : bkp (L.take (m + 1)) = bkp (L.take m) ++ [L[m].n, L[m].v] := by
  unfold bkp
  rw [List.take_succ_eq_append_getElem hm, List.flatMap_append]
  simp
theorem btB_nil : btB [] = tagB 1 [] := rfl
theorem btB_some {L : List Le} (h : 0 < L.length) : btB L = tagB 2 (bkp L) := by
  unfold btB
  cases L with
  | nil => simp at h
  | cons f t => rfl

theorem svs_len (l : List ByteArray) : (svs l).length = l.length := by simp [svs]
/-- some texts that are written out, appended to texts that the call owns -/
theorem wp_appLit {w : World} {ops : Array Oper} {rest : List Oper} {o : Oper} {a : Act} {Q : Exit → Act → World → Prop} (hgd : o.guard = none) (s x : Operand)
    (ho : o.op = .call { callee := .builtin .append, args := #[s, x], argTypes := #[53, 53] })
    (B : Nat) (w0 : World) (v u : Value) (l r : List ByteArray) (hs : a.eval s = v) (hown : OS B w0 w v l) (hx : a.eval x = u) (g of : Nat) (hr : SS w u g of r) (h0 : 0 < r.length) (hlen : l.length + r.length ≤ 1000000)
    (h : ∀ v' w', OS B w0 w' v' (l ++ r) → w.grownBy w' v.ownBlock → wpList Tryz.prog ops Q rest (a.put o.dst v') w') : wpList Tryz.prog ops Q (o :: rest) a w := by
  obtain ⟨i0, hi, hz0, hz1, hz2⟩ := info_parts Tryz.info9
  obtain ⟨ao, cap, rfl, _, hA, hc⟩ := hr
  have ea := hA h0
  subst ea
  refine wpList_append_own _ hgd s x 53 ho B 9 i0 (.string ByteArray.empty) 1 16 Tryz.underlying53 hi hz0 hz1 hz2 rfl (by decide) v l.length (svs l) hs hown.1 ⟨g, of, none⟩ r.length cap (svs r) hx (by simp [svs]) ?_
    (fun u hu => by simp [svs] at hu; obtain ⟨b, _, rfl⟩ := hu; rfl) (by unfold maxLen; omega) (by omega) hown.2.2 ?_
  · intro j u hj
    have hj2 : j < r.length := by
      have := (List.getElem?_eq_some_iff.1 hj).1
      simpa [svs] using this
    have e : (⟨g, of, none⟩ : Addr).add j = ⟨g, of + j, none⟩ := by unfold Addr.add; split <;> simp_all
    rw [e, hc j hj2]
    simp [svs, List.getElem?_eq_getElem hj2] at hj
    rw [hj]
  · intro v' w' h1 h2 _
    refine h v' w' ⟨by rw [List.length_append, svs_append]; exact h1, hown.2.1.grown h2 hown.2.2 (fun k hk => (hown.1.lt k hk).1), ?_⟩ h2
    exact Nat.le_trans hown.2.2 h2.size
/-- .. as one step of a region that draws its order -/
theorem step_appLit {w : World} {ops : Array Oper} {o : Oper} {a : Act} {K : Act → World → Prop} {Q : Exit → Act → World → Prop} {E : Prop} (hg : o.guard = none) (s x : Operand)
    (hop : o.op = .call { callee := .builtin .append, args := #[s, x], argTypes := #[53, 53] })
    (B : Nat) (w0 : World) (v u : Value) (l r : List ByteArray) (hs : a.eval s = v) (hown : OS B w0 w v l) (hx : a.eval x = u) (g of : Nat) (hr : SS w u g of r) (h0 : 0 < r.length) (hlen : l.length + r.length ≤ 1000000)
    (hK : ∀ v' w', OS B w0 w' v' (l ++ r) → w.grownBy w' v.ownBlock → K (a.put o.dst v') w') : if Region.wanted o (yielded ops a.tmps) = true then Oper.wp Tryz.prog o a w K Q else E := by
  obtain ⟨i0, hi, hz0, hz1, hz2⟩ := info_parts Tryz.info9
  obtain ⟨ao, cap, rfl, _, hA, hc⟩ := hr
  have ea := hA h0
  subst ea
  have hcs : ∀ j u, (svs r)[j]? = some u → w.cell? ((⟨g, of, none⟩ : Addr).add j) = some u := by
    intro j u hj
    have hj2 : j < r.length := by
      have := (List.getElem?_eq_some_iff.1 hj).1
      simpa [svs] using this
    have e : (⟨g, of, none⟩ : Addr).add j = ⟨g, of + j, none⟩ := by unfold Addr.add; split <;> simp_all
    rw [e, hc j hj2]
    simp [svs, List.getElem?_eq_getElem hj2] at hj
    rw [hj]
  obtain ⟨v', w', hrun, h1, h2, _⟩ := run_append_own (P := Tryz.prog) w B 53 o.type 9 i0 (.string ByteArray.empty) 1 16 Tryz.underlying53 hi hz0 hz1 hz2 rfl (by decide) v l.length (svs l) hown.1 ⟨g, of, none⟩ r.length cap (svs r) (by simp [svs]) hcs
    (fun u hu => by simp [svs] at hu; obtain ⟨b, _, rfl⟩ := hu; rfl) (by unfold maxLen; omega) (by omega) hown.2.2
  have hOB : OS B w0 w' v' (l ++ r) := ⟨by rw [List.length_append, svs_append]; exact h1, hown.2.1.grown h2 hown.2.2 (fun k hk => (hown.1.lt k hk).1), Nat.le_trans hown.2.2 h2.size⟩
  have hw : Region.wanted o (yielded ops a.tmps) = true := by simp [Region.wanted, hg]
  rw [if_pos hw]
  unfold Oper.wp
  simp [execOp, hop, resolve, invoke, builtin, hs, hx, hrun, Result.andThen]
  exact hK v' w' hOB h2
theorem OS.slice {B : Nat} {w0 w : World} {v : Value} {l : List ByteArray} (h : OS B w0 w v l) : ∃ a c, v = .slice a l.length c := by
  rcases h.shape with ⟨hv, hn⟩ | ⟨g, cap, hv, _⟩
  · exact ⟨none, 0, by rw [hv, hn]; rfl⟩
  · exact ⟨_, _, hv⟩

def BtR (B : Nat) (w : World) (L : List Le) (u i : Value) (wr : World) : Prop := ∃ m : Nat, m ≤ L.length ∧ i = .int .i64 m ∧ Hid (OS B w wr u (bkp (L.take m)))

set_option maxRecDepth 100000 in
set_option maxHeartbeats 1000000 in
theorem sBucketText_any (v : Value) (ga oa : Nat) (L : List Le) (w : World) (hv : RS 2 lcs w v ga oa L) (hsm : SmallL L) :
    Calls Tryz.prog 218 #[v] w fun e w' => e = .returned (.tuple #[.string (btA L), .bool (LV.leavesB L)]) ∧ Below w.heap.size w w' := by
  have hc := sLeavesOk_any v ga oa L w hv hsm
  have HV : Hid (RS 2 lcs w v ga oa L) := hv
  obtain ⟨a, cap, rfl, hl, hA, _⟩ := hv
  cases hR : LV.leavesB L with
  | false =>
    rw [btA_no hR]
    rw [hR] at hc
    clear hA hsm HV
    go_enter Tryz.func218, Tryz.ntmps218
    go_wp2_with fail
    refine hc.mono ?_
    rintro e w1 ⟨rfl, hb1⟩
    go_wp2
    go_ret2
    exact ⟨rfl, hb1⟩
  | true =>
    rw [btA_yes hR]
    rw [hR] at hc
    have hok := LV.leavesB_iff.1 hR
    obtain ⟨n, hn⟩ : ∃ n, L.length = n := ⟨_, rfl⟩
    have HA : Hid (0 < n → a = some ⟨ga, oa, none⟩) := by rw [← hn]; exact fun h => (hA h).1
    have HO : Hid (tagOk 2 (bkp L) = true ∧ LV.LOk L) := ⟨bkp_ok hok, hok⟩
    have hl24 := hok.1
    rw [hn] at hl hl24 HV hc ⊢
    clear hA hsm hok hR
    by_cases h0 : n = 0
    · have eL : L = [] := List.length_eq_zero_iff.1 (by omega)
      subst eL
      subst h0
      rw [btB_nil]
      have HT : Hid (∀ w1, Below w.heap.size w w1 → Calls Tryz.prog 216 #[.int .i64 1, .slice (some ⟨w1.heap.size, 0, none⟩) 0 0] (w1.alloc (.cells #[] 9)) fun e w' => e = .returned (.tuple #[.string (tagB 1 []), .bool true]) ∧ Below w.heap.size w w') := fun w1 hb1 => by
        have h := sTagText_any 1 (.slice (some ⟨w1.heap.size, 0, none⟩) 0 0) w1.heap.size 0 [] (w1.alloc (.cells #[] 9)) (ss_lits w1 [] #[] 0 rfl (by omega) rfl)
        rw [none_ok] at h
        have hb2 := hb1.alloc hb1.size (.cells #[] 9)
        exact h.mono fun e w' ⟨he, hb⟩ => ⟨he, hb2.trans (hb.mono hb2.size)⟩
      generalize tagB 1 [] = T at *
      clear HV HA HO hn
      go_enter Tryz.func218, Tryz.ntmps218
      go_wp2_with fail
      refine hc.mono ?_
      rintro e w1 ⟨rfl, hb1⟩
      clear hc
      go_wp2_with fail
      refine (HT.out _ hb1).mono ?_
      rintro e w2 ⟨rfl, hb2⟩
      go_wp2
      go_ret2
      exact ⟨rfl, hb2⟩
    · rw [btB_some (by omega)]
      have q0 : ((n : Int) == 0) = false := by simpa using h0
      have ea := HA.out (by omega)
      subst ea
      have HO2 : Hid (∀ w1, Below w.heap.size w w1 → ∀ wr u, OS w1.heap.size w1 wr u (bkp L) → Calls Tryz.prog 216 #[.int .i64 2, u] wr fun e w' => e = .returned (.tuple #[.string (tagB 2 (bkp L)), .bool true]) ∧ Below w.heap.size w w') := fun w1 hb1 wr u hos => by
        obtain ⟨g, hss⟩ := hos.ss (by rw [bkp_len]; omega)
        have h := sTagText_any 2 u g 0 (bkp L) wr hss
        rw [HO.out.1] at h
        have hb2 : Below w.heap.size w wr := hb1.trans (hos.2.1.mono hb1.size)
        exact h.mono fun e w' ⟨he, hb⟩ => ⟨he, hb2.trans (hb.mono hb2.size)⟩
      generalize tagB 2 (bkp L) = T at *
      clear HA h0 HO
      go_enter Tryz.func218, Tryz.ntmps218
      go_wp2_with fail
      refine hc.mono ?_
      rintro e w1 ⟨rfl, hb1⟩
      have HST : Hid (BtR w1.heap.size w1 L (.slice (some ⟨w1.heap.size, 0, none⟩) 0 0) (.int .i64 0) (w1.alloc (.cells #[] 9))) := ⟨0, by omega, rfl, OS.made w1⟩
      have HV1 : Hid (RS 2 lcs w1 (.slice (some ⟨ga, oa, none⟩) n cap) ga oa L ∧ Below w.heap.size w w1) := ⟨HV.out.later hb1, hb1⟩
      have HN : Hid (L.length = n) := hn
      clear hc HV hn hb1
      go_wp2
      go_loopw [4, 5] (fun u i wr => BtR w1.heap.size w1 L u i wr) (fun _ i _ => n - (intOf i).toNat)
      case atStart => exact HST.out
      case round =>
        obtain ⟨m, hm, rfl, HI⟩ := hrel
        clear HST
        rw [HN.out] at hm
        have hL : (bkp (L.take m)).length = 2 * m := by rw [bkp_len, List.length_take, HN.out]; omega
        obtain ⟨au, cu, hu⟩ := HI.out.slice
        rw [hL] at hu
        subst hu
        have HLL : Hid ((bkp (L.take m)).length + 2 ≤ 1000000) := by show (bkp (L.take m)).length + 2 ≤ 1000000; omega
        clear hL
        by_cases hlt : m < n
        · obtain ⟨c0, c1⟩ := (HV1.out.1.later HI.out.2.1).leaf m (by rw [HN.out]; exact hlt)
          have hst := bkp_step (L := L) (m := m) (by rw [HN.out]; exact hlt)
          generalize L[m]'(by rw [HN.out]; exact hlt) = X at *
          have i1 : (m : Int) < (n : Int) := by omega
          have i2 : (0 : Int) ≤ (m : Int) := by omega
          have hga : ga < wr.heap.size := lt_of_cell c0
          have HNX : Hid (∀ v W, OS w1.heap.size w1 W v (bkp (L.take m) ++ [X.n, X.v]) → BtR w1.heap.size w1 L v (.int .i64 ((m : Int) + 1)) W) := by
            rw [← hst]
            exact fun v W hW => ⟨m + 1, by rw [HN.out]; omega, by congr 1, hW⟩
          have hne : ∀ q, (Value.slice au (2 * m) cu).ownBlock = some q → q ≠ ga := fun q hq => by
            have h1 := (HI.out.1.lt q hq).1
            have h2 : ga < w1.heap.size := by
              obtain ⟨_, _, _, _, h3, _⟩ := HV1.out.1
              exact (h3 (by rw [HN.out]; omega)).2
            omega
          have HK : Hid (∀ W, (wr.alloc (.cells #[.string X.n, .string X.v] 9)).drew.grownBy W (Value.slice au (2 * m) cu).ownBlock → W.cell? ⟨ga, oa + m * 2, none⟩ = some (.string X.n) ∧ W.cell? ⟨ga, oa + m * 2 + 1, none⟩ = some (.string X.v)) := fun W hW => by
            have hb := hW.block ga (show ga < (wr.alloc (.cells #[.string X.n, .string X.v] 9)).heap.size by simp; omega) (fun e => hne ga e.symm rfl)
            have hb0 : (wr.alloc (.cells #[.string X.n, .string X.v] 9)).drew.heap[ga]? = wr.heap[ga]? := ((Below.refl wr.heap.size wr).alloc (Nat.le_refl _) _).block ga hga
            exact ⟨(cell_kept (hb.trans hb0)).trans c0, (cell_kept (hb.trans hb0)).trans c1⟩
          generalize bkp (L.take m) = l at *
          clear hst hne HO2
          go_wp2
          go_region_held3 (fun W => W.cell? ⟨ga, oa + m * 2, none⟩ = some (.string X.n) ∧ W.cell? ⟨ga, oa + m * 2 + 1, none⟩ = some (.string X.v)) (first | go_keep | exact HK.out _ hg2) ((refine step_appLit rfl _ _ rfl w1.heap.size w1 _ _ l [X.n, X.v] (by rfl) ((HI.out.alloc _).drew) (by rfl) wr.heap.size 0 (ss_lits wr [X.n, X.v] #[.string X.n, .string X.v] 2 rfl (by omega) rfl) (by simp) HLL.out ?_; intro v' w2 hos2 hg2))
          have HN2 : Hid (BtR w1.heap.size w1 L v' (.int .i64 ((m : Int) + 1)) w2) := HNX.out _ _ hos2
          clear HNX hos2 hg2 HI HK
          go_wp2
          go_roundw
          case rel => exact HN2.out
          case measure => simp [intOf]; omega
        · have hme : m = n := by omega
          have e : bkp (L.take m) = bkp L := by rw [List.take_of_length_le (by rw [HN.out]; omega)]
          rw [e] at HI
          have hq := HO2.out _ HV1.out.2 _ _ HI.out
          subst hme
          clear HI HV1 HO2 e HN HLL
          go_wp2_with fail
          refine hq.mono ?_
          rintro e w2 ⟨rfl, hb2⟩
          go_wp2
          go_ret2
          exact ⟨rfl, hb2⟩

/-- 'make([]string, 0, n)' -/
theorem OS.room (n : Nat) (hn : n ≤ 1000000) (w : World) : ∃ w', (Instr.makeSlice 53 (.int .i64 0) (.int .i64 (n : Int))).run Tryz.prog w = .ok (.slice (some ⟨w.heap.size, 0, none⟩) 0 n) w' ∧ OS w.heap.size w w' (.slice (some ⟨w.heap.size, 0, none⟩) 0 n) [] := by
  obtain ⟨i0, hi, hz0, hz1, hz2⟩ := info_parts Tryz.info9
  have h1 := run_make (P := Tryz.prog) w 53 9 i0 (.string ByteArray.empty) Tryz.underlying53 hi hz0 .i64 .i64 0 (n : Int) (by omega) (by omega) (by rw [hz2]; omega) (by omega)
  refine ⟨_, by simpa using h1, World.ownsRow_made w _ n (Nat.le_refl _) (by unfold maxLen; omega) ?_, (Below.refl _ _).alloc (Nat.le_refl _) _, by simp⟩
  rw [size_madeCells, hz1]

set_option maxRecDepth 100000 in
set_option maxHeartbeats 1000000 in
theorem BucketText_any (v : Value) (ga oa : Nat) (L : List Le) (w : World) (hv : RS 2 lcs w v ga oa L) (hsm : SmallL L) :
    Calls Tryz.prog 233 #[v] w fun e w' => e = .returned (.tuple #[.string (btA L), .bool (LV.leavesB L)]) ∧ Below w.heap.size w w' := by
  have hc := LeavesOk_any v ga oa L w hv hsm
  have HV : Hid (RS 2 lcs w v ga oa L) := hv
  obtain ⟨a, cap, rfl, hl, hA, _⟩ := hv
  cases hR : LV.leavesB L with
  | false =>
    rw [btA_no hR]
    rw [hR] at hc
    clear hA hsm HV
    go_enter Tryz.func233, Tryz.ntmps233
    go_wp2_with fail
    refine hc.mono ?_
    rintro e w1 ⟨rfl, hb1⟩
    go_wp2
    go_ret2
    exact ⟨rfl, hb1⟩
  | true =>
    rw [btA_yes hR]
    rw [hR] at hc
    have hok := LV.leavesB_iff.1 hR
    obtain ⟨n, hn⟩ : ∃ n, L.length = n := ⟨_, rfl⟩
    have HA : Hid (0 < n → a = some ⟨ga, oa, none⟩) := by rw [← hn]; exact fun h => (hA h).1
    have HO : Hid (tagOk 2 (bkp L) = true ∧ LV.LOk L) := ⟨bkp_ok hok, hok⟩
    have hl24 := hok.1
    rw [hn] at hl hl24 HV hc ⊢
    clear hA hsm hok hR
    by_cases h0 : n = 0
    · have eL : L = [] := List.length_eq_zero_iff.1 (by omega)
      subst eL
      subst h0
      rw [btB_nil]
      have HT : Hid (∀ w1, Below w.heap.size w w1 → Calls Tryz.prog 235 #[.int .i64 1, .slice none 0 0] w1 fun e w' => e = .returned (.tuple #[.string (tagB 1 []), .bool true]) ∧ Below w.heap.size w w') := fun w1 hb1 => by
        have h := tagged_any 1 (.slice none 0 0) 0 0 [] w1 ⟨none, 0, rfl, by simp, fun h => absurd h (by simp), fun j h => absurd h (by simp)⟩
        rw [none_ok] at h
        exact h.mono fun e w' ⟨he, hb⟩ => ⟨he, hb1.trans (hb.mono hb1.size)⟩
      generalize tagB 1 [] = T at *
      clear HV HA HO hn
      go_enter Tryz.func233, Tryz.ntmps233
      go_wp2_with fail
      refine hc.mono ?_
      rintro e w1 ⟨rfl, hb1⟩
      clear hc
      go_wp2_with fail
      refine (HT.out _ hb1).mono ?_
      rintro e w2 ⟨rfl, hb2⟩
      go_wp2
      go_ret2
      exact ⟨rfl, hb2⟩
    · rw [btB_some (by omega)]
      have q0 : ((n : Int) == 0) = false := by simpa using h0
      have ea := HA.out (by omega)
      subst ea
      have HO2 : Hid (∀ w1, Below w.heap.size w w1 → ∀ wr u, OS w1.heap.size w1 wr u (bkp L) → Calls Tryz.prog 235 #[.int .i64 2, u] wr fun e w' => e = .returned (.tuple #[.string (tagB 2 (bkp L)), .bool true]) ∧ Below w.heap.size w w') := fun w1 hb1 wr u hos => by
        obtain ⟨g, hss⟩ := hos.ss (by rw [bkp_len]; omega)
        have h := tagged_any 2 u g 0 (bkp L) wr hss
        rw [HO.out.1] at h
        have hb2 : Below w.heap.size w wr := hb1.trans (hos.2.1.mono hb1.size)
        exact h.mono fun e w' ⟨he, hb⟩ => ⟨he, hb2.trans (hb.mono hb2.size)⟩
      generalize tagB 2 (bkp L) = T at *
      clear HA h0 HO
      go_enter Tryz.func233, Tryz.ntmps233
      go_wp2_with fail
      refine hc.mono ?_
      rintro e w1 ⟨rfl, hb1⟩
      obtain ⟨w2, hmk, hos⟩ := OS.room (2 * n) (by omega) w1
      have hmk' : (Instr.makeSlice 53 (.int .i64 0) (.int .i64 (2 * (n : Int)))).run Tryz.prog w1 = .ok (.slice (some ⟨w1.heap.size, 0, none⟩) 0 (2 * n)) w2 := by simpa using hmk
      have HST : Hid (BtR w1.heap.size w1 L (.slice (some ⟨w1.heap.size, 0, none⟩) 0 (2 * n)) (.int .i64 0) w2) := ⟨0, by omega, rfl, hos⟩
      have HV1 : Hid (RS 2 lcs w1 (.slice (some ⟨ga, oa, none⟩) n cap) ga oa L ∧ Below w.heap.size w w1) := ⟨HV.out.later hb1, hb1⟩
      have HN : Hid (L.length = n) := hn
      clear hc HV hn hb1 hmk hos
      go_wp2
      clear hmk'
      go_loopw [4, 22] (fun u i wr => BtR w1.heap.size w1 L u i wr) (fun _ i _ => n - (intOf i).toNat)
      case atStart => exact HST.out
      case round =>
        obtain ⟨m, hm, rfl, HI⟩ := hrel
        clear HST
        rw [HN.out] at hm
        have hL : (bkp (L.take m)).length = 2 * m := by rw [bkp_len, List.length_take, HN.out]; omega
        obtain ⟨au, cu, hu⟩ := HI.out.slice
        rw [hL] at hu
        subst hu
        have HLL : Hid ((bkp (L.take m)).length + 2 ≤ 1000000) := by show (bkp (L.take m)).length + 2 ≤ 1000000; omega
        clear hL
        by_cases hlt : m < n
        · obtain ⟨c0, c1⟩ := (HV1.out.1.later HI.out.2.1).leaf m (by rw [HN.out]; exact hlt)
          have hst := bkp_step (L := L) (m := m) (by rw [HN.out]; exact hlt)
          generalize L[m]'(by rw [HN.out]; exact hlt) = X at *
          have i1 : (m : Int) < (n : Int) := by omega
          have i2 : (0 : Int) ≤ (m : Int) := by omega
          have HNX : Hid (∀ v W, OS w1.heap.size w1 W v (bkp (L.take m) ++ [X.n, X.v]) → BtR w1.heap.size w1 L v (.int .i64 ((m : Int) + 1)) W) := by
            rw [← hst]
            exact fun v W hW => ⟨m + 1, by rw [HN.out]; omega, by congr 1, hW⟩
          generalize bkp (L.take m) = l at *
          have HSS : Hid (SS ((wr.alloc (.cells #[.string X.n, .string X.v] 109)).alloc (.cells #[.string X.n, .string X.v] 9)) (.slice (some ⟨wr.heap.size + 1, 0, none⟩) 2 2) (wr.heap.size + 1) 0 [X.n, X.v]) := by
            have h := ss_lits (wr.alloc (.cells #[.string X.n, .string X.v] 109)) [X.n, X.v] #[.string X.n, .string X.v] 2 rfl (by omega) rfl
            rw [show (wr.alloc (.cells #[.string X.n, .string X.v] 109)).heap.size = wr.heap.size + 1 by simp] at h
            exact h
          have hoa := (HI.out.alloc (.cells #[.string X.n, .string X.v] 109)).alloc (.cells #[.string X.n, .string X.v] 9)
          clear hst HO2 HI
          go_wp2_with (at_builtin; refine wp_appLit rfl _ _ rfl w1.heap.size w1 _ _ l [X.n, X.v] rfl hoa rfl _ _ HSS.out (by simp) HLL.out ?_)
          intro v' w3 hos3 hg3
          have HN2 : Hid (BtR w1.heap.size w1 L v' (.int .i64 ((m : Int) + 1)) w3) := HNX.out _ _ hos3
          clear HNX hos3 hg3 HSS hoa
          go_wp2
          go_roundw
          case rel => exact HN2.out
          case measure => simp [intOf]; omega
        · have hme : m = n := by omega
          have e : bkp (L.take m) = bkp L := by rw [List.take_of_length_le (by rw [HN.out]; omega)]
          rw [e] at HI
          have hq := HO2.out _ HV1.out.2 _ _ HI.out
          subst hme
          clear HI HV1 HO2 e HN HLL
          go_wp2_with fail
          refine hq.mono ?_
          rintro e w2 ⟨rfl, hb2⟩
          go_wp2
          go_ret2
          exact ⟨rfl, hb2⟩

end Go.Proofs.YtklpanjedolkdaaGreatDoor
/-
  What BucketHash answers, the program's and the specification's.
-/
namespace Go.Proofs.YtklpanjedolkdaaGreatDoor
open Go.RowKit Go.BigFrame Go.Sort
set_option linter.unusedVariables false
set_option linter.unusedSimpArgs false

open TR (bkp bkp_len)
/-- what BucketHash is -/
noncomputable def bhB (x : Int) (L : List Le) : ByteArray := if LV.leavesB L then cutH (btB L) x else ⟨#[]⟩
theorem bhB_yes {x : Int} {L : List Le} (h : LV.leavesB L = true) : bhB x L = cutH (btB L) x := by unfold bhB; rw [h]; rfl
theorem bhB_no {x : Int} {L : List Le} (h : LV.leavesB L = false) : bhB x L = ⟨#[]⟩ := by unfold bhB; rw [h]; rfl
theorem btB_size (L : List Le) : (btB L).size ≤ 12601 := by
  unfold btB
  split <;> exact tagB_size _ _
theorem BucketHash_any (v : Value) (ga oa : Nat) (L : List Le) (x : Int) (w : World) (hv : RS 2 lcs w v ga oa L) (hsm : SmallL L) (hT : Tb w) :
    Calls Tryz.prog 224 #[v, .int .i64 x] w fun e w' => e = .returned (.string (bhB x L)) ∧ Below w.heap.size w w' := by
  have hc := BucketText_any v ga oa L w hv hsm
  obtain ⟨a, cap, rfl, _⟩ := hv
  cases hR : LV.leavesB L with
  | false =>
    rw [bhB_no hR]
    rw [hR, btA_no hR] at hc
    clear hsm hT
    go_enter Tryz.func224, Tryz.ntmps224
    go_wp2_with fail
    refine hc.mono ?_
    rintro e w1 ⟨rfl, hb1⟩
    go_wp2
    go_ret
    exact ⟨rfl, hb1⟩
  | true =>
    rw [bhB_yes hR]
    rw [hR, btA_yes hR] at hc
    have HC : Hid (∀ w1, Below w.heap.size w w1 → Calls Tryz.prog 234 #[.string (btB L), .int .i64 x] w1 fun e w' => e = .returned (.string (cutH (btB L) x)) ∧ Below w.heap.size w w') := fun w1 hb => by
      have hT1 := hT.later hb
      exact (CutDigest_any (btB L) x w1 (Nat.le_trans (btB_size L) (by omega)) hT1.1 hT1.2).mono fun e w' ⟨he, h⟩ => ⟨he, hb.trans (h.mono hb.size)⟩
    generalize cutH (btB L) x = T at *
    generalize btB L = S at *
    clear hsm hT
    go_enter Tryz.func224, Tryz.ntmps224
    go_wp2_with fail
    refine hc.mono ?_
    rintro e w1 ⟨rfl, hb1⟩
    clear hc
    go_wp2_with fail
    refine (HC.out _ hb1).mono ?_
    rintro e w2 ⟨rfl, hb2⟩
    go_wp2
    go_ret
    exact ⟨rfl, hb2⟩
theorem sBucketHash_any (v : Value) (ga oa : Nat) (L : List Le) (x : Int) (w : World) (hv : RS 2 lcs w v ga oa L) (hsm : SmallL L) :
    Calls Tryz.prog 188 #[v, .int .i64 x] w fun e w' => e = .returned (.string (bhB x L)) ∧ Below w.heap.size w w' := by
  have hc := sBucketText_any v ga oa L w hv hsm
  obtain ⟨a, cap, rfl, _⟩ := hv
  cases hR : LV.leavesB L with
  | false =>
    rw [bhB_no hR]
    rw [hR, btA_no hR] at hc
    clear hsm
    go_enter Tryz.func188, Tryz.ntmps188
    go_wp2_with fail
    refine hc.mono ?_
    rintro e w1 ⟨rfl, hb1⟩
    go_wp2
    go_ret
    exact ⟨rfl, hb1⟩
  | true =>
    rw [bhB_yes hR]
    rw [hR, btA_yes hR] at hc
    have HC : Hid (∀ w1, Below w.heap.size w w1 → Calls Tryz.prog 217 #[.string (btB L), .int .i64 x] w1 fun e w' => e = .returned (.string (cutH (btB L) x)) ∧ Below w.heap.size w w') := fun w1 hb =>
      (sCutDigest_any (btB L) x w1 (Nat.le_trans (btB_size L) (by omega))).mono fun e w' ⟨he, h⟩ => ⟨he, hb.trans (h.mono hb.size)⟩
    generalize cutH (btB L) x = T at *
    generalize btB L = S at *
    clear hsm
    go_enter Tryz.func188, Tryz.ntmps188
    go_wp2_with fail
    refine hc.mono ?_
    rintro e w1 ⟨rfl, hb1⟩
    clear hc
    go_wp2_with fail
    refine (HC.out _ hb1).mono ?_
    rintro e w2 ⟨rfl, hb2⟩
    go_wp2
    go_ret
    exact ⟨rfl, hb2⟩

end Go.Proofs.YtklpanjedolkdaaGreatDoor
/-
  Plain facts of trees of hashes: what a place's hash is, where nothing is, and that a bucket's hash folds up.
-/
namespace Go.Proofs.YtklpanjedolkdaaGreatDoor.TR
set_option linter.unusedVariables false

variable {α : Type} {β : Type}
/-- the hash of nothing, k levels above the buckets -/
def emp (hN : β → β → β) (hE : β) : Nat → β
  | 0 => hE
  | k + 1 => hN (emp hN hE k) (emp hN hE k)
/-- those of l that lie under place p, k levels above the buckets -/
def und (idx : α → Nat) (k p : Nat) (l : List α) : List α := l.filter fun f => decide (idx f / 2 ^ k = p)
/-- a place's hash, as the two below it have it -/
def tr (idx : α → Nat) (hN : β → β → β) (hB : List α → β) : Nat → Nat → List α → β
  | 0, p, l => hB (und idx 0 p l)
  | k + 1, p, l => hN (tr idx hN hB k (2 * p) l) (tr idx hN hB k (2 * p + 1) l)
/-- a place's hash, as the specification goes down: what lies there is picked first -/
def nod (idx : α → Nat) (hN : β → β → β) (hE : β) (hB : List α → β) : Nat → Nat → List α → β
  | 0, p, l => if (und idx 0 p l).isEmpty then hE else hB (und idx 0 p l)
  | k + 1, p, l => if (und idx (k + 1) p l).isEmpty then emp hN hE (k + 1) else hN (nod idx hN hE hB k (2 * p) (und idx (k + 1) p l)) (nod idx hN hE hB k (2 * p + 1) (und idx (k + 1) p l))

section
variable {idx : α → Nat} {hN : β → β → β} {hE : β} {hB : List α → β}
theorem und_und {k j p q : Nat} {l : List α} (h : q / 2 ^ j = p) : und idx k q (und idx (k + j) p l) = und idx k q l := by
  unfold und
  rw [List.filter_filter]
  refine List.filter_congr fun f _ => ?_
  by_cases h1 : idx f / 2 ^ k = q
  · have h2 : idx f / 2 ^ (k + j) = p := by rw [Nat.pow_add, ← Nat.div_div_eq_div_mul, h1, h]
    rw [decide_eq_true h1, decide_eq_true h2]; rfl
  · rw [decide_eq_false h1]; rfl
theorem und_nil {k p : Nat} : und idx k p ([] : List α) = [] := rfl
/-- where nothing lies above, nothing lies below -/
theorem und_down {k j p q : Nat} {l : List α} (h : q / 2 ^ j = p) (h0 : und idx (k + j) p l = []) : und idx k q l = [] := by
  rw [← und_und h, h0, und_nil]
theorem tr_of : ∀ (k j p q : Nat) (l : List α), q / 2 ^ j = p → tr idx hN hB k q (und idx (k + j) p l) = tr idx hN hB k q l
  | 0, j, p, q, l, h => by unfold tr; rw [und_und h]
  | k + 1, j, p, q, l, h => by
    have e : k + 1 + j = k + (j + 1) := by omega
    have h1 : (2 * q) / 2 ^ (j + 1) = p := by rw [Nat.pow_succ, Nat.mul_comm (2 ^ j) 2, ← Nat.div_div_eq_div_mul, Nat.mul_div_cancel_left _ (by omega), h]
    have h2 : (2 * q + 1) / 2 ^ (j + 1) = p := by rw [Nat.pow_succ, Nat.mul_comm (2 ^ j) 2, ← Nat.div_div_eq_div_mul, show (2 * q + 1) / 2 = q by omega, h]
    unfold tr
    rw [e, tr_of k (j + 1) p (2 * q) l h1, tr_of k (j + 1) p (2 * q + 1) l h2]
theorem tr_none (hz : hB [] = hE) : ∀ (k p : Nat) (l : List α), und idx k p l = [] → tr idx hN hB k p l = emp hN hE k
  | 0, p, l, h => by unfold tr emp; rw [h, hz]
  | k + 1, p, l, h => by
    unfold tr emp
    rw [tr_none hz k (2 * p) l (und_down (j := 1) (by omega) h), tr_none hz k (2 * p + 1) l (und_down (j := 1) (by omega) h)]
/-- the specification's way down is the plain one -/
theorem nod_tr (hz : hB [] = hE) : ∀ (k p : Nat) (l : List α), nod idx hN hE hB k p l = tr idx hN hB k p l
  | 0, p, l => by
    unfold nod tr
    cases h : und idx 0 p l with
    | nil => simp [hz]
    | cons a t => simp
  | k + 1, p, l => by
    unfold nod
    cases h : (und idx (k + 1) p l).isEmpty with
    | true =>
      have h0 : und idx (k + 1) p l = [] := List.isEmpty_iff.1 h
      rw [tr_none hz (k + 1) p l h0]
      simp
    | false =>
      simp only [Bool.false_eq_true, if_false]
      rw [nod_tr hz k (2 * p) _, nod_tr hz k (2 * p + 1) _, tr_of k 1 p (2 * p) l (by omega), tr_of k 1 p (2 * p + 1) l (by omega)]
      rfl
theorem tr_step (k p : Nat) (l : List α) : tr idx hN hB (k + 1) p l = hN (tr idx hN hB k (2 * p) l) (tr idx hN hB k (2 * p + 1) l) := rfl

/-- the other one of two -/
def oth (y : Nat) : Nat := if y % 2 = 0 then y + 1 else y - 1
theorem oth_xor : ∀ y, y < 256 → y ^^^ 1 = oth y := by decide +kernel
/-- one step up: what stands at a place, and its side -/
theorem tr_up (k x : Nat) (l : List α) : tr idx hN hB (k + 1) (x / 2) l = if x % 2 = 0 then hN (tr idx hN hB k x l) (tr idx hN hB k (oth x) l) else hN (tr idx hN hB k (oth x) l) (tr idx hN hB k x l) := by
  rw [tr_step]
  unfold oth
  by_cases h : x % 2 = 0
  · rw [if_pos h, if_pos h, show 2 * (x / 2) = x by omega]
  · rw [if_neg h, if_neg h, show 2 * (x / 2) + 1 = x by omega, show 2 * (x / 2) = x - 1 by omega]
/-- a hash folded up over sides, from below; b tells the bit of each step -/
def fold (hN : β → β → β) (b : Nat → Bool) : Nat → β → List β → β
  | _, h, [] => h
  | i, h, s :: t => fold hN b (i + 1) (if b i then hN s h else hN h s) t
/-- the sides of index x from height k on, n of them -/
def sides (idx : α → Nat) (hN : β → β → β) (hB : List α → β) (x : Nat) (l : List α) : Nat → Nat → List β
  | _, 0 => []
  | k, n + 1 => tr idx hN hB k (oth (x / 2 ^ k)) l :: sides idx hN hB x l (k + 1) n
theorem sides_len (x : Nat) (l : List α) : ∀ (n k : Nat), (sides idx hN hB x l k n).length = n
  | 0, k => rfl
  | n + 1, k => by unfold sides; rw [List.length_cons, sides_len x l n (k + 1)]
theorem sides_at (x : Nat) (l : List α) : ∀ (n k i : Nat) (h : i < (sides idx hN hB x l k n).length), (sides idx hN hB x l k n)[i] = tr idx hN hB (k + i) (oth (x / 2 ^ (k + i))) l
  | 0, k, i, h => absurd h (by simp [sides])
  | n + 1, k, 0, h => rfl
  | n + 1, k, i + 1, h => by
    have h' : i < (sides idx hN hB x l (k + 1) n).length := by rw [sides_len] at h ⊢; omega
    have := sides_at x l n (k + 1) i h'
    rw [show k + 1 + i = k + (i + 1) by omega] at this
    exact this
/-- **a place's hash folds up**: from height k, over n sides -/
theorem fold_up (b : Nat → Bool) (x : Nat) (hb : ∀ i, b i = decide (x / 2 ^ i % 2 = 1)) (l : List α) : ∀ (n k : Nat), fold hN b k (tr idx hN hB k (x / 2 ^ k) l) (sides idx hN hB x l k n) = tr idx hN hB (k + n) (x / 2 ^ (k + n)) l
  | 0, k => rfl
  | n + 1, k => by
    unfold sides fold
    have e : (if b k then hN (tr idx hN hB k (oth (x / 2 ^ k)) l) (tr idx hN hB k (x / 2 ^ k) l) else hN (tr idx hN hB k (x / 2 ^ k) l) (tr idx hN hB k (oth (x / 2 ^ k)) l)) = tr idx hN hB (k + 1) (x / 2 ^ (k + 1)) l := by
      rw [Nat.pow_succ, ← Nat.div_div_eq_div_mul, tr_up, hb]
      by_cases h : x / 2 ^ k % 2 = 0
      · rw [if_pos h, decide_eq_false (by omega)]; rfl
      · rw [if_neg h, decide_eq_true (by omega)]; rfl
    rw [e, fold_up b x hb l n (k + 1), show k + 1 + n = k + (n + 1) by omega]
end

end Go.Proofs.YtklpanjedolkdaaGreatDoor.TR
