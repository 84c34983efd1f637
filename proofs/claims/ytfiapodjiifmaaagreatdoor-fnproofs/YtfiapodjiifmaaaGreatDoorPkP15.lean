/-
  Texts laid together: Bkd, Lit, Ti, Bt, Tbl.
-/
import Derived.Test.YtfiapodjiifmaaaGreatDoorPkP11
import Derived.Test.YtfiapodjiifmaaaGreatDoorPkP14
import Derived.Test.YtfiapodjiifmaaaGreatDoorPkP4
import Derived.Test.YtfiapodjiifmaaaGreatDoorPkP5
import Derived.Test.YtfiapodjiifmaaaGreatDoorPkP3
import Derived.Test.YtfiapodjiifmaaaGreatDoorPkP6
import Derived.Test.YtfiapodjiifmaaaGreatDoorPkP9
import Derived.Laws.CopyRow
/-
  The leaves whose names have an index: the specification's answer.
-/
namespace Go.Proofs.YtfiapodjiifmaaaGreatDoor
open Go.RowKit Go.BigFrame Go.Sort
set_option linter.unusedVariables false
set_option linter.unusedSimpArgs false

def idxN (t : ByteArray) : Nat := (byte0 (digB t)).toNat
/-- has it this index? -/
def bkP (i : Int) (f : Le) : Bool := decide ((idxN f.n : Int) = i)
def bkL (L : List Le) (i : Int) : List Le := L.filter (bkP i)
theorem bk_step {L : List Le} {m : Nat} (i : Int) (hm : m < L.length) : (L.take (m + 1)).filter (bkP i) = if bkP i L[m] = true then (L.take m).filter (bkP i) ++ [L[m]] else (L.take m).filter (bkP i) := LV.filt_step _ hm

def BkR (w : World) (L : List Le) (i : Int) (u j : Value) (wr : World) : Prop := ∃ m : Nat, m ≤ L.length ∧ j = .int .i64 m ∧ Hid (OL w.heap.size w wr u ((L.take m).filter (bkP i)))

end Go.Proofs.YtfiapodjiifmaaaGreatDoor
/-
  Rows of texts that are written out.
-/
namespace Go.Proofs.YtfiapodjiifmaaaGreatDoor
open Go.RowKit
set_option linter.unusedVariables false

/-- texts that are written out -/
theorem ss_lits (w : World) (l : List ByteArray) (cs : Array Value) (n : Nat) (hn : l.length = n) (hl : n ≤ 1100000) (hc : cs = (svs l).toArray) : SS (w.alloc (.cells cs 9)) (.slice (some ⟨w.heap.size, 0, none⟩) n n) w.heap.size 0 l := by
  subst hc
  subst hn
  refine ⟨_, _, rfl, hl, fun _ => rfl, fun j hj => ?_⟩
  rw [Nat.zero_add, World.cell?_alloc_at _ _ _ _ rfl]
  simp [svs, List.getElem?_eq_getElem hj]

end Go.Proofs.YtfiapodjiifmaaaGreatDoor
/-
  Plain facts of tagged texts: two of them are alike only where kind and parts are; of two chains of digested texts that end alike and differ, the last two that differ have one digest.
-/
namespace Go.Proofs.YtfiapodjiifmaaaGreatDoor.TR
set_option linter.unusedVariables false

theorem var_inj {n m : Nat} {s t : List UInt8} (hn : n ≤ 1000000000) (hm : m ≤ 1000000000) (h : M.varL n ++ s = M.varL m ++ t) : n = m ∧ s = t := by
  have a := LV.readVar_back [] s n hn
  have b := LV.readVar_back [] t m hm
  simp only [List.nil_append, List.length_nil, Nat.zero_add] at a b
  rw [h, b] at a
  have e : m = n := by simpa using congrArg (fun o => o.map Prod.fst) a
  subst e
  exact ⟨rfl, List.append_cancel_left h⟩
theorem var_ne (n : Nat) : M.varL n ≠ [] := by
  unfold M.varL
  by_cases h : n ≤ 127
  · rw [M.varF_small 9 n h]; simp
  · rw [M.varF_big 8 n (by omega)]; simp
theorem part_inj {p q : ByteArray} {s t : List UInt8} (hp : p.size ≤ 1000000000) (hq : q.size ≤ 1000000000) (h : tagP p ++ s = tagP q ++ t) : p = q ∧ s = t := by
  unfold tagP at h
  rw [List.append_assoc, List.append_assoc] at h
  obtain ⟨e, h2⟩ := var_inj hp hq h
  have hl : p.data.toList.length = q.data.toList.length := by
    have h1 : p.data.toList.length = p.size := rfl
    have h3 : q.data.toList.length = q.size := rfl
    omega
  obtain ⟨e1, e2⟩ := List.append_inj h2 hl
  refine ⟨?_, e2⟩
  cases p
  cases q
  congr
  exact Array.toList_inj.1 e1
theorem parts_inj : ∀ {l l' : List ByteArray}, (∀ x ∈ l, x.size ≤ 1000000000) → (∀ x ∈ l', x.size ≤ 1000000000) → l.flatMap tagP = l'.flatMap tagP → l = l'
  | [], [], _, _, _ => rfl
  | [], q :: t, _, _, h => by
    rw [List.flatMap_nil, List.flatMap_cons] at h
    have := (List.append_eq_nil_iff.1 h.symm).1
    unfold tagP at this
    exact absurd (List.append_eq_nil_iff.1 this).1 (var_ne _)
  | p :: t, [], _, _, h => by
    rw [List.flatMap_nil, List.flatMap_cons] at h
    have := (List.append_eq_nil_iff.1 h).1
    unfold tagP at this
    exact absurd (List.append_eq_nil_iff.1 this).1 (var_ne _)
  | p :: s, q :: t, h1, h2, h => by
    rw [List.flatMap_cons, List.flatMap_cons] at h
    obtain ⟨e, h3⟩ := part_inj (h1 p (by simp)) (h2 q (by simp)) h
    rw [e, parts_inj (fun x hx => h1 x (by simp [hx])) (fun x hx => h2 x (by simp [hx])) h3]
/-- **two tagged texts are alike only where kind and parts are** -/
theorem tag_inj {k k' : Nat} {l l' : List ByteArray} (hk : k ≤ 255) (hk' : k' ≤ 255) (h1 : ∀ x ∈ l, x.size ≤ 1000000000) (h2 : ∀ x ∈ l', x.size ≤ 1000000000) (h : tagS k l = tagS k' l') : k = k' ∧ l = l' := by
  have e : tagL k l = tagL k' l' := by
    have := congrArg (fun b : ByteArray => b.data.toList) h
    simpa [tagS] using this
  unfold tagL at e
  obtain ⟨e1, e2⟩ := List.cons.inj e
  refine ⟨?_, parts_inj h1 h2 e2⟩
  have := congrArg UInt8.toNat e1
  simp at this
  omega
/-- the parts of a bucket's text -/
def bkp (L : List Le) : List ByteArray := L.flatMap fun f => [f.n, f.v]
theorem bkp_inj : ∀ {L M : List Le}, bkp L = bkp M → L = M
  | [], [], _ => rfl
  | [], g :: t, h => by simp [bkp] at h
  | f :: s, [], h => by simp [bkp] at h
  | f :: s, g :: t, h => by
    have h' : f.n :: f.v :: bkp s = g.n :: g.v :: bkp t := h
    obtain ⟨e1, h2⟩ := List.cons.inj h'
    obtain ⟨e2, h3⟩ := List.cons.inj h2
    have : f = g := by cases f; cases g; simp at e1 e2; rw [e1, e2]
    rw [this, bkp_inj h3]
theorem bkp_len (L : List Le) : (bkp L).length = 2 * L.length := by
  induction L with
  | nil => rfl
  | cons f t ih => unfold bkp at ih ⊢; rw [List.flatMap_cons, List.length_append, ih]; simp; omega

/-- of two chains: from the last one on back the first two that differ, have they one digest? -/
def clB {τ δ : Type} [DecidableEq τ] [DecidableEq δ] (d : τ → δ) (a b : Nat → τ) : Nat → Bool
  | 0 => false
  | n + 1 => if a n = b n then clB d a b n else decide (d (a n) = d (b n))
theorem clB_yes {τ δ : Type} [DecidableEq τ] [DecidableEq δ] {d : τ → δ} {a b : Nat → τ} : ∀ n, (∃ i, i < n ∧ a i ≠ b i) → d (a (n - 1)) = d (b (n - 1)) → (∀ i, i + 1 < n → a (i + 1) = b (i + 1) → d (a i) = d (b i)) → clB d a b n = true
  | 0, ⟨i, hi, _⟩, _, _ => absurd hi (by omega)
  | n + 1, ⟨i, hi, hne⟩, hl, hs => by
    unfold clB
    by_cases h : a n = b n
    · rw [if_pos h]
      have hin : i < n := by
        rcases Nat.lt_or_ge i n with h1 | h1
        · exact h1
        · have : i = n := by omega
          subst this
          exact absurd h hne
      refine clB_yes n ⟨i, hin, hne⟩ (hs (n - 1) (by omega) ?_) (fun j hj => hs j (by omega))
      rw [show n - 1 + 1 = n by omega]
      exact h
    · rw [if_neg h]
      simpa using hl

end Go.Proofs.YtfiapodjiifmaaaGreatDoor.TR
/-
  What BucketText answers, the program's and the specification's.
-/
namespace Go.Proofs.YtfiapodjiifmaaaGreatDoor
open Go.RowKit Go.BigFrame Go.Sort
set_option linter.unusedVariables false
set_option linter.unusedSimpArgs false

open TR (bkp bkp_len)
/-- the text of leaves that are right -/
def btB (L : List Le) : ByteArray := if L.isEmpty then tagB 1 [] else tagB 2 (bkp L)
/-- what BucketText is -/
noncomputable def btA (L : List Le) : ByteArray := if LV.leavesB L then btB L else ⟨#[]⟩
theorem btA_yes {L : List Le} (h : LV.leavesB L = true) : btA L = btB L := by unfold btA; rw [h]; rfl
theorem btA_no {L : List Le} (h : LV.leavesB L = false) : btA L = ⟨#[]⟩ := by unfold btA; rw [h]; rfl
theorem leB_size {f : Le} (h : LV.leB f = true) : f.n.size ≤ 12 ∧ f.v.size ≤ 12 ∧ 1 ≤ f.n.size := by
  unfold LV.leB okB at h
  simp only [Bool.and_eq_true, decide_eq_true_eq] at h
  omega
theorem bkp_mem {L : List Le} {y : ByteArray} (h : y ∈ bkp L) : ∃ f ∈ L, y = f.n ∨ y = f.v := by
  unfold bkp at h
  obtain ⟨f, hf, hy⟩ := List.mem_flatMap.1 h
  exact ⟨f, hf, by simpa using hy⟩
theorem bkp_ok {L : List Le} (h : LV.LOk L) : tagOk 2 (bkp L) = true := by
  unfold tagOk
  rw [Bool.and_eq_true, decide_eq_true_eq, List.all_eq_true]
  refine ⟨⟨by omega, by rw [bkp_len]; have := h.1; omega⟩, fun y hy => ?_⟩
  obtain ⟨f, hf, hfy⟩ := bkp_mem hy
  have := leB_size (h.2.1 f hf)
  rw [decide_eq_true_eq]
  rcases hfy with rfl | rfl <;> omega
theorem none_ok : tagOk 1 [] = true := by decide
theorem bkp_step {L : List Le} {m : Nat} (hm : m < L.length) : bkp (L.take (m + 1)) = bkp (L.take m) ++ [L[m].n, L[m].v] := by
  unfold bkp
  rw [List.take_succ_eq_append_getElem hm, List.flatMap_append]
  simp
theorem btB_nil : btB [] = tagB 1 [] := rfl
theorem btB_some {L : List Le} (h : 0 < L.length) : btB L = tagB 2 (bkp L) := by
  unfold btB
  cases L with
  | nil => simp at h
  | cons f t => rfl

theorem svs_len (l : List ByteArray) : (svs l).length = l.length := by simp [svs]
/-- some texts that are written out, appended to texts that the call owns -/
theorem wp_appLit {w : World} {ops : Array Oper} {rest : List Oper} {o : Oper} {a : Act} {Q : Exit → Act → World → Prop} (hgd : o.guard = none) (s x : Operand)
    (ho : o.op = .call { callee := .builtin .append, args := #[s, x], argTypes := #[27, 27] })
    (B : Nat) (w0 : World) (v u : Value) (l r : List ByteArray) (hs : a.eval s = v) (hown : OS B w0 w v l) (hx : a.eval x = u) (g of : Nat) (hr : SS w u g of r) (h0 : 0 < r.length) (hlen : l.length + r.length ≤ 1000000)
    (h : ∀ v' w', OS B w0 w' v' (l ++ r) → w.grownBy w' v.ownBlock → wpList Tryz.prog ops Q rest (a.put o.dst v') w') : wpList Tryz.prog ops Q (o :: rest) a w := by
  obtain ⟨i0, hi, hz0, hz1, hz2⟩ := info_parts Tryz.info9
  obtain ⟨ao, cap, rfl, _, hA, hc⟩ := hr
  have ea := hA h0
  subst ea
  refine wpList_append_own _ hgd s x 27 ho B 9 i0 (.string ByteArray.empty) 1 16 Tryz.underlying27 hi hz0 hz1 hz2 rfl (by decide) v l.length (svs l) hs hown.1 ⟨g, of, none⟩ r.length cap (svs r) hx (by simp [svs]) ?_
    (fun u hu => by simp [svs] at hu; obtain ⟨b, _, rfl⟩ := hu; rfl) (by unfold maxLen; omega) (by omega) hown.2.2 ?_
  · intro j u hj
    have hj2 : j < r.length := by
      have := (List.getElem?_eq_some_iff.1 hj).1
      simpa [svs] using this
    have e : (⟨g, of, none⟩ : Addr).add j = ⟨g, of + j, none⟩ := by unfold Addr.add; split <;> simp_all
    rw [e, hc j hj2]
    simp [svs, List.getElem?_eq_getElem hj2] at hj
    rw [hj]
  · intro v' w' h1 h2 _
    refine h v' w' ⟨by rw [List.length_append, svs_append]; exact h1, hown.2.1.grown h2 hown.2.2 (fun k hk => (hown.1.lt k hk).1), ?_⟩ h2
    exact Nat.le_trans hown.2.2 h2.size
/-- .. as one step of a region that draws its order -/
theorem step_appLit {w : World} {ops : Array Oper} {o : Oper} {a : Act} {K : Act → World → Prop} {Q : Exit → Act → World → Prop} {E : Prop} (hg : o.guard = none) (s x : Operand)
    (hop : o.op = .call { callee := .builtin .append, args := #[s, x], argTypes := #[27, 27] })
    (B : Nat) (w0 : World) (v u : Value) (l r : List ByteArray) (hs : a.eval s = v) (hown : OS B w0 w v l) (hx : a.eval x = u) (g of : Nat) (hr : SS w u g of r) (h0 : 0 < r.length) (hlen : l.length + r.length ≤ 1000000)
    (hK : ∀ v' w', OS B w0 w' v' (l ++ r) → w.grownBy w' v.ownBlock → K (a.put o.dst v') w') : if Region.wanted o (yielded ops a.tmps) = true then Oper.wp Tryz.prog o a w K Q else E := by
  obtain ⟨i0, hi, hz0, hz1, hz2⟩ := info_parts Tryz.info9
  obtain ⟨ao, cap, rfl, _, hA, hc⟩ := hr
  have ea := hA h0
  subst ea
  have hcs : ∀ j u, (svs r)[j]? = some u → w.cell? ((⟨g, of, none⟩ : Addr).add j) = some u := by
    intro j u hj
    have hj2 : j < r.length := by
      have := (List.getElem?_eq_some_iff.1 hj).1
      simpa [svs] using this
    have e : (⟨g, of, none⟩ : Addr).add j = ⟨g, of + j, none⟩ := by unfold Addr.add; split <;> simp_all
    rw [e, hc j hj2]
    simp [svs, List.getElem?_eq_getElem hj2] at hj
    rw [hj]
  obtain ⟨v', w', hrun, h1, h2, _⟩ := run_append_own (P := Tryz.prog) w B 27 o.type 9 i0 (.string ByteArray.empty) 1 16 Tryz.underlying27 hi hz0 hz1 hz2 rfl (by decide) v l.length (svs l) hown.1 ⟨g, of, none⟩ r.length cap (svs r) (by simp [svs]) hcs
    (fun u hu => by simp [svs] at hu; obtain ⟨b, _, rfl⟩ := hu; rfl) (by unfold maxLen; omega) (by omega) hown.2.2
  have hOB : OS B w0 w' v' (l ++ r) := ⟨by rw [List.length_append, svs_append]; exact h1, hown.2.1.grown h2 hown.2.2 (fun k hk => (hown.1.lt k hk).1), Nat.le_trans hown.2.2 h2.size⟩
  have hw : Region.wanted o (yielded ops a.tmps) = true := by simp [Region.wanted, hg]
  rw [if_pos hw]
  unfold Oper.wp
  simp [execOp, hop, resolve, invoke, builtin, hs, hx, hrun, Result.andThen]
  exact hK v' w' hOB h2
theorem OS.slice {B : Nat} {w0 w : World} {v : Value} {l : List ByteArray} (h : OS B w0 w v l) : ∃ a c, v = .slice a l.length c := by
  rcases h.shape with ⟨hv, hn⟩ | ⟨g, cap, hv, _⟩
  · exact ⟨none, 0, by rw [hv, hn]; rfl⟩
  · exact ⟨_, _, hv⟩

def BtR (B : Nat) (w : World) (L : List Le) (u i : Value) (wr : World) : Prop := ∃ m : Nat, m ≤ L.length ∧ i = .int .i64 m ∧ Hid (OS B w wr u (bkp (L.take m)))

set_option maxRecDepth 100000 in
set_option maxHeartbeats 1000000 in
theorem sBucketText_any (v : Value) (ga oa : Nat) (L : List Le) (w : World) (hv : RS 2 lcs w v ga oa L) (hsm : SmallL L) :
    Calls Tryz.prog 102 #[v] w fun e w' => e = .returned (.tuple #[.string (btA L), .bool (LV.leavesB L)]) ∧ Below w.heap.size w w' := by
  have hc := sLeavesOk_any v ga oa L w hv hsm
  have HV : Hid (RS 2 lcs w v ga oa L) := hv
  obtain ⟨a, cap, rfl, hl, hA, _⟩ := hv
  cases hR : LV.leavesB L with
  | false =>
    rw [btA_no hR]
    rw [hR] at hc
    clear hA hsm HV
    go_enter Tryz.func102, Tryz.ntmps102
    go_wp2_with fail
    refine hc.mono ?_
    rintro e w1 ⟨rfl, hb1⟩
    go_wp2
    go_ret2
    exact ⟨rfl, hb1⟩
  | true =>
    rw [btA_yes hR]
    rw [hR] at hc
    have hok := LV.leavesB_iff.1 hR
    obtain ⟨n, hn⟩ : ∃ n, L.length = n := ⟨_, rfl⟩
    have HA : Hid (0 < n → a = some ⟨ga, oa, none⟩) := by rw [← hn]; exact fun h => (hA h).1
    have HO : Hid (tagOk 2 (bkp L) = true ∧ LV.LOk L) := ⟨bkp_ok hok, hok⟩
    have hl24 := hok.1
    rw [hn] at hl hl24 HV hc ⊢
    clear hA hsm hok hR
    by_cases h0 : n = 0
    · have eL : L = [] := List.length_eq_zero_iff.1 (by omega)
      subst eL
      subst h0
      rw [btB_nil]
      have HT : Hid (∀ w1, Below w.heap.size w w1 → Calls Tryz.prog 104 #[.int .i64 1, .slice (some ⟨w1.heap.size, 0, none⟩) 0 0] (w1.alloc (.cells #[] 9)) fun e w' => e = .returned (.tuple #[.string (tagB 1 []), .bool true]) ∧ Below w.heap.size w w') := fun w1 hb1 => by
        have h := sTagText_any 1 (.slice (some ⟨w1.heap.size, 0, none⟩) 0 0) w1.heap.size 0 [] (w1.alloc (.cells #[] 9)) (ss_lits w1 [] #[] 0 rfl (by omega) rfl)
        rw [none_ok] at h
        have hb2 := hb1.alloc hb1.size (.cells #[] 9)
        exact h.mono fun e w' ⟨he, hb⟩ => ⟨he, hb2.trans (hb.mono hb2.size)⟩
      generalize tagB 1 [] = T at *
      clear HV HA HO hn
      go_enter Tryz.func102, Tryz.ntmps102
      go_wp2_with fail
      refine hc.mono ?_
      rintro e w1 ⟨rfl, hb1⟩
      clear hc
      go_wp2_with fail
      refine (HT.out _ hb1).mono ?_
      rintro e w2 ⟨rfl, hb2⟩
      go_wp2
      go_ret2
      exact ⟨rfl, hb2⟩
    · rw [btB_some (by omega)]
      have q0 : ((n : Int) == 0) = false := by simpa using h0
      have ea := HA.out (by omega)
      subst ea
      have HO2 : Hid (∀ w1, Below w.heap.size w w1 → ∀ wr u, OS w1.heap.size w1 wr u (bkp L) → Calls Tryz.prog 104 #[.int .i64 2, u] wr fun e w' => e = .returned (.tuple #[.string (tagB 2 (bkp L)), .bool true]) ∧ Below w.heap.size w w') := fun w1 hb1 wr u hos => by
        obtain ⟨g, hss⟩ := hos.ss (by rw [bkp_len]; omega)
        have h := sTagText_any 2 u g 0 (bkp L) wr hss
        rw [HO.out.1] at h
        have hb2 : Below w.heap.size w wr := hb1.trans (hos.2.1.mono hb1.size)
        exact h.mono fun e w' ⟨he, hb⟩ => ⟨he, hb2.trans (hb.mono hb2.size)⟩
      generalize tagB 2 (bkp L) = T at *
      clear HA h0 HO
      go_enter Tryz.func102, Tryz.ntmps102
      go_wp2_with fail
      refine hc.mono ?_
      rintro e w1 ⟨rfl, hb1⟩
      have HST : Hid (BtR w1.heap.size w1 L (.slice (some ⟨w1.heap.size, 0, none⟩) 0 0) (.int .i64 0) (w1.alloc (.cells #[] 9))) := ⟨0, by omega, rfl, OS.made w1⟩
      have HV1 : Hid (RS 2 lcs w1 (.slice (some ⟨ga, oa, none⟩) n cap) ga oa L ∧ Below w.heap.size w w1) := ⟨HV.out.later hb1, hb1⟩
      have HN : Hid (L.length = n) := hn
      clear hc HV hn hb1
      go_wp2
      go_loopw [4, 5] (fun u i wr => BtR w1.heap.size w1 L u i wr) (fun _ i _ => n - (intOf i).toNat)
      case atStart => exact HST.out
      case round =>
        obtain ⟨m, hm, rfl, HI⟩ := hrel
        clear HST
        rw [HN.out] at hm
        have hL : (bkp (L.take m)).length = 2 * m := by rw [bkp_len, List.length_take, HN.out]; omega
        obtain ⟨au, cu, hu⟩ := HI.out.slice
        rw [hL] at hu
        subst hu
        have HLL : Hid ((bkp (L.take m)).length + 2 ≤ 1000000) := by show (bkp (L.take m)).length + 2 ≤ 1000000; omega
        clear hL
        by_cases hlt : m < n
        · obtain ⟨c0, c1⟩ := (HV1.out.1.later HI.out.2.1).leaf m (by rw [HN.out]; exact hlt)
          have hst := bkp_step (L := L) (m := m) (by rw [HN.out]; exact hlt)
          generalize L[m]'(by rw [HN.out]; exact hlt) = X at *
          have i1 : (m : Int) < (n : Int) := by omega
          have i2 : (0 : Int) ≤ (m : Int) := by omega
          have hga : ga < wr.heap.size := lt_of_cell c0
          have HNX : Hid (∀ v W, OS w1.heap.size w1 W v (bkp (L.take m) ++ [X.n, X.v]) → BtR w1.heap.size w1 L v (.int .i64 ((m : Int) + 1)) W) := by
            rw [← hst]
            exact fun v W hW => ⟨m + 1, by rw [HN.out]; omega, by congr 1, hW⟩
          have hne : ∀ q, (Value.slice au (2 * m) cu).ownBlock = some q → q ≠ ga := fun q hq => by
            have h1 := (HI.out.1.lt q hq).1
            have h2 : ga < w1.heap.size := by
              obtain ⟨_, _, _, _, h3, _⟩ := HV1.out.1
              exact (h3 (by rw [HN.out]; omega)).2
            omega
          have HK : Hid (∀ W, (wr.alloc (.cells #[.string X.n, .string X.v] 9)).drew.grownBy W (Value.slice au (2 * m) cu).ownBlock → W.cell? ⟨ga, oa + m * 2, none⟩ = some (.string X.n) ∧ W.cell? ⟨ga, oa + m * 2 + 1, none⟩ = some (.string X.v)) := fun W hW => by
            have hb := hW.block ga (show ga < (wr.alloc (.cells #[.string X.n, .string X.v] 9)).heap.size by simp; omega) (fun e => hne ga e.symm rfl)
            have hb0 : (wr.alloc (.cells #[.string X.n, .string X.v] 9)).drew.heap[ga]? = wr.heap[ga]? := ((Below.refl wr.heap.size wr).alloc (Nat.le_refl _) _).block ga hga
            exact ⟨(cell_kept (hb.trans hb0)).trans c0, (cell_kept (hb.trans hb0)).trans c1⟩
          generalize bkp (L.take m) = l at *
          clear hst hne HO2
          go_wp2
          go_region_held3 (fun W => W.cell? ⟨ga, oa + m * 2, none⟩ = some (.string X.n) ∧ W.cell? ⟨ga, oa + m * 2 + 1, none⟩ = some (.string X.v)) (first | go_keep | exact HK.out _ hg2) ((refine step_appLit rfl _ _ rfl w1.heap.size w1 _ _ l [X.n, X.v] (by rfl) ((HI.out.alloc _).drew) (by rfl) wr.heap.size 0 (ss_lits wr [X.n, X.v] #[.string X.n, .string X.v] 2 rfl (by omega) rfl) (by simp) HLL.out ?_; intro v' w2 hos2 hg2))
          have HN2 : Hid (BtR w1.heap.size w1 L v' (.int .i64 ((m : Int) + 1)) w2) := HNX.out _ _ hos2
          clear HNX hos2 hg2 HI HK
          go_wp2
          go_roundw
          case rel => exact HN2.out
          case measure => simp [intOf]; omega
        · have hme : m = n := by omega
          have e : bkp (L.take m) = bkp L := by rw [List.take_of_length_le (by rw [HN.out]; omega)]
          rw [e] at HI
          have hq := HO2.out _ HV1.out.2 _ _ HI.out
          subst hme
          clear HI HV1 HO2 e HN HLL
          go_wp2_with fail
          refine hq.mono ?_
          rintro e w2 ⟨rfl, hb2⟩
          go_wp2
          go_ret2
          exact ⟨rfl, hb2⟩

/-- 'make([]string, 0, n)' -/
theorem OS.room (n : Nat) (hn : n ≤ 1000000) (w : World) : ∃ w', (Instr.makeSlice 27 (.int .i64 0) (.int .i64 (n : Int))).run Tryz.prog w = .ok (.slice (some ⟨w.heap.size, 0, none⟩) 0 n) w' ∧ OS w.heap.size w w' (.slice (some ⟨w.heap.size, 0, none⟩) 0 n) [] := by
  obtain ⟨i0, hi, hz0, hz1, hz2⟩ := info_parts Tryz.info9
  have h1 := run_make (P := Tryz.prog) w 27 9 i0 (.string ByteArray.empty) Tryz.underlying27 hi hz0 .i64 .i64 0 (n : Int) (by omega) (by omega) (by rw [hz2]; omega) (by omega)
  refine ⟨_, by simpa using h1, World.ownsRow_made w _ n (Nat.le_refl _) (by unfold maxLen; omega) ?_, (Below.refl _ _).alloc (Nat.le_refl _) _, by simp⟩
  rw [size_madeCells, hz1]

set_option maxRecDepth 100000 in
set_option maxHeartbeats 1000000 in
theorem BucketText_any (v : Value) (ga oa : Nat) (L : List Le) (w : World) (hv : RS 2 lcs w v ga oa L) (hsm : SmallL L) :
    Calls Tryz.prog 35 #[v] w fun e w' => e = .returned (.tuple #[.string (btA L), .bool (LV.leavesB L)]) ∧ Below w.heap.size w w' := by
  have hc := LeavesOk_any v ga oa L w hv hsm
  have HV : Hid (RS 2 lcs w v ga oa L) := hv
  obtain ⟨a, cap, rfl, hl, hA, _⟩ := hv
  cases hR : LV.leavesB L with
  | false =>
    rw [btA_no hR]
    rw [hR] at hc
    clear hA hsm HV
    go_enter Tryz.func35, Tryz.ntmps35
    go_wp2_with fail
    refine hc.mono ?_
    rintro e w1 ⟨rfl, hb1⟩
    go_wp2
    go_ret2
    exact ⟨rfl, hb1⟩
  | true =>
    rw [btA_yes hR]
    rw [hR] at hc
    have hok := LV.leavesB_iff.1 hR
    obtain ⟨n, hn⟩ : ∃ n, L.length = n := ⟨_, rfl⟩
    have HA : Hid (0 < n → a = some ⟨ga, oa, none⟩) := by rw [← hn]; exact fun h => (hA h).1
    have HO : Hid (tagOk 2 (bkp L) = true ∧ LV.LOk L) := ⟨bkp_ok hok, hok⟩
    have hl24 := hok.1
    rw [hn] at hl hl24 HV hc ⊢
    clear hA hsm hok hR
    by_cases h0 : n = 0
    · have eL : L = [] := List.length_eq_zero_iff.1 (by omega)
      subst eL
      subst h0
      rw [btB_nil]
      have HT : Hid (∀ w1, Below w.heap.size w w1 → Calls Tryz.prog 39 #[.int .i64 1, .slice none 0 0] w1 fun e w' => e = .returned (.tuple #[.string (tagB 1 []), .bool true]) ∧ Below w.heap.size w w') := fun w1 hb1 => by
        have h := tagged_any 1 (.slice none 0 0) 0 0 [] w1 ⟨none, 0, rfl, by simp, fun h => absurd h (by simp), fun j h => absurd h (by simp)⟩
        rw [none_ok] at h
        exact h.mono fun e w' ⟨he, hb⟩ => ⟨he, hb1.trans (hb.mono hb1.size)⟩
      generalize tagB 1 [] = T at *
      clear HV HA HO hn
      go_enter Tryz.func35, Tryz.ntmps35
      go_wp2_with fail
      refine hc.mono ?_
      rintro e w1 ⟨rfl, hb1⟩
      clear hc
      go_wp2_with fail
      refine (HT.out _ hb1).mono ?_
      rintro e w2 ⟨rfl, hb2⟩
      go_wp2
      go_ret2
      exact ⟨rfl, hb2⟩
    · rw [btB_some (by omega)]
      have q0 : ((n : Int) == 0) = false := by simpa using h0
      have ea := HA.out (by omega)
      subst ea
      have HO2 : Hid (∀ w1, Below w.heap.size w w1 → ∀ wr u, OS w1.heap.size w1 wr u (bkp L) → Calls Tryz.prog 39 #[.int .i64 2, u] wr fun e w' => e = .returned (.tuple #[.string (tagB 2 (bkp L)), .bool true]) ∧ Below w.heap.size w w') := fun w1 hb1 wr u hos => by
        obtain ⟨g, hss⟩ := hos.ss (by rw [bkp_len]; omega)
        have h := tagged_any 2 u g 0 (bkp L) wr hss
        rw [HO.out.1] at h
        have hb2 : Below w.heap.size w wr := hb1.trans (hos.2.1.mono hb1.size)
        exact h.mono fun e w' ⟨he, hb⟩ => ⟨he, hb2.trans (hb.mono hb2.size)⟩
      generalize tagB 2 (bkp L) = T at *
      clear HA h0 HO
      go_enter Tryz.func35, Tryz.ntmps35
      go_wp2_with fail
      refine hc.mono ?_
      rintro e w1 ⟨rfl, hb1⟩
      obtain ⟨w2, hmk, hos⟩ := OS.room (2 * n) (by omega) w1
      have hmk' : (Instr.makeSlice 27 (.int .i64 0) (.int .i64 (2 * (n : Int)))).run Tryz.prog w1 = .ok (.slice (some ⟨w1.heap.size, 0, none⟩) 0 (2 * n)) w2 := by simpa using hmk
      have HST : Hid (BtR w1.heap.size w1 L (.slice (some ⟨w1.heap.size, 0, none⟩) 0 (2 * n)) (.int .i64 0) w2) := ⟨0, by omega, rfl, hos⟩
      have HV1 : Hid (RS 2 lcs w1 (.slice (some ⟨ga, oa, none⟩) n cap) ga oa L ∧ Below w.heap.size w w1) := ⟨HV.out.later hb1, hb1⟩
      have HN : Hid (L.length = n) := hn
      clear hc HV hn hb1 hmk hos
      go_wp2
      clear hmk'
      go_loopw [4, 22] (fun u i wr => BtR w1.heap.size w1 L u i wr) (fun _ i _ => n - (intOf i).toNat)
      case atStart => exact HST.out
      case round =>
        obtain ⟨m, hm, rfl, HI⟩ := hrel
        clear HST
        rw [HN.out] at hm
        have hL : (bkp (L.take m)).length = 2 * m := by rw [bkp_len, List.length_take, HN.out]; omega
        obtain ⟨au, cu, hu⟩ := HI.out.slice
        rw [hL] at hu
        subst hu
        have HLL : Hid ((bkp (L.take m)).length + 2 ≤ 1000000) := by show (bkp (L.take m)).length + 2 ≤ 1000000; omega
        clear hL
        by_cases hlt : m < n
        · obtain ⟨c0, c1⟩ := (HV1.out.1.later HI.out.2.1).leaf m (by rw [HN.out]; exact hlt)
          have hst := bkp_step (L := L) (m := m) (by rw [HN.out]; exact hlt)
          generalize L[m]'(by rw [HN.out]; exact hlt) = X at *
          have i1 : (m : Int) < (n : Int) := by omega
          have i2 : (0 : Int) ≤ (m : Int) := by omega
          have HNX : Hid (∀ v W, OS w1.heap.size w1 W v (bkp (L.take m) ++ [X.n, X.v]) → BtR w1.heap.size w1 L v (.int .i64 ((m : Int) + 1)) W) := by
            rw [← hst]
            exact fun v W hW => ⟨m + 1, by rw [HN.out]; omega, by congr 1, hW⟩
          generalize bkp (L.take m) = l at *
          have HSS : Hid (SS ((wr.alloc (.cells #[.string X.n, .string X.v] 53)).alloc (.cells #[.string X.n, .string X.v] 9)) (.slice (some ⟨wr.heap.size + 1, 0, none⟩) 2 2) (wr.heap.size + 1) 0 [X.n, X.v]) := by
            have h := ss_lits (wr.alloc (.cells #[.string X.n, .string X.v] 53)) [X.n, X.v] #[.string X.n, .string X.v] 2 rfl (by omega) rfl
            rw [show (wr.alloc (.cells #[.string X.n, .string X.v] 53)).heap.size = wr.heap.size + 1 by simp] at h
            exact h
          have hoa := (HI.out.alloc (.cells #[.string X.n, .string X.v] 53)).alloc (.cells #[.string X.n, .string X.v] 9)
          clear hst HO2 HI
          go_wp2_with (at_builtin; refine wp_appLit rfl _ _ rfl w1.heap.size w1 _ _ l [X.n, X.v] rfl hoa rfl _ _ HSS.out (by simp) HLL.out ?_)
          intro v' w3 hos3 hg3
          have HN2 : Hid (BtR w1.heap.size w1 L v' (.int .i64 ((m : Int) + 1)) w3) := HNX.out _ _ hos3
          clear HNX hos3 hg3 HSS hoa
          go_wp2
          go_roundw
          case rel => exact HN2.out
          case measure => simp [intOf]; omega
        · have hme : m = n := by omega
          have e : bkp (L.take m) = bkp L := by rw [List.take_of_length_le (by rw [HN.out]; omega)]
          rw [e] at HI
          have hq := HO2.out _ HV1.out.2 _ _ HI.out
          subst hme
          clear HI HV1 HO2 e HN HLL
          go_wp2_with fail
          refine hq.mono ?_
          rintro e w2 ⟨rfl, hb2⟩
          go_wp2
          go_ret2
          exact ⟨rfl, hb2⟩

end Go.Proofs.YtfiapodjiifmaaaGreatDoor
/-
  Tagged hashes of texts that are written out, at any width.
-/
namespace Go.Proofs.YtfiapodjiifmaaaGreatDoor
open Go.RowKit Go.BigFrame
set_option linter.unusedVariables false

/-- the two tables lie as the program's text lays them -/
def Tb (w : World) : Prop := TabK w ∧ TabF w
theorem Tb.later {w w' : World} (h : Tb w) (hb : Below w.heap.size w w') : Tb w' := ⟨h.1.later hb h.1.pos, h.2.later hb h.2.pos⟩
theorem Tb.alloc {w : World} (h : Tb w) (o : Obj) : Tb (w.alloc o) := h.later ((Below.refl _ _).alloc (Nat.le_refl _) _)

theorem taggedHash_w (x k : Int) (l : List ByteArray) (n : Nat) (cs : Array Value) (w : World) (g : Nat) (hg : w.heap.size = g) (hn : l.length = n) (hl : n ≤ 60) (hc : cs = (svs l).toArray) (hT : Tb w) :
    Hid (Calls Tryz.prog 98 #[.int .i64 x, .int .i64 k, .slice (some ⟨g, 0, none⟩) n n] (w.alloc (.cells cs 9)) fun e w' => e = .returned (.string (hashB k l x)) ∧ Below w.heap.size w w') := by
  subst hg
  have hT' := hT.alloc (.cells cs 9)
  exact (taggedHash_any x k _ w.heap.size 0 l (w.alloc (.cells cs 9)) (ss_lits w l cs n hn (by omega) hc) hT'.1 hT'.2).mono fun e w' ⟨he, hb⟩ => ⟨he, ((Below.refl _ _).alloc (Nat.le_refl _) _).trans (hb.mono (by simp))⟩
theorem taggedHash_wd (x k : Int) (l : List ByteArray) (n : Nat) (cs : Array Value) (w : World) (g : Nat) (hg : w.heap.size = g) (hn : l.length = n) (hl : n ≤ 60) (hc : cs = (svs l).toArray) (hT : Tb w) :
    Hid (Calls Tryz.prog 98 #[.int .i64 x, .int .i64 k, .slice (some ⟨g, 0, none⟩) n n] (w.alloc (.cells cs 9)).drew fun e w' => e = .returned (.string (hashB k l x)) ∧ Below w.heap.size w w') := by
  have h := taggedHash_w x k l n cs w.drew g hg hn hl hc hT
  exact h.out.mono fun e w' ⟨he, hb⟩ => ⟨he, (Below.refl _ _).drew.trans hb⟩
theorem sTagHash_w (x k : Int) (l : List ByteArray) (n : Nat) (cs : Array Value) (w : World) (g : Nat) (hg : w.heap.size = g) (hn : l.length = n) (hl : n ≤ 60) (hc : cs = (svs l).toArray) :
    Hid (Calls Tryz.prog 90 #[.int .i64 k, .slice (some ⟨g, 0, none⟩) n n, .int .i64 x] (w.alloc (.cells cs 9)) fun e w' => e = .returned (.string (hashB k l x)) ∧ Below w.heap.size w w') := by
  subst hg
  exact (sTagHash_any k _ x w.heap.size 0 l (w.alloc (.cells cs 9)) (ss_lits w l cs n hn (by omega) hc)).mono fun e w' ⟨he, hb⟩ => ⟨he, ((Below.refl _ _).alloc (Nat.le_refl _) _).trans (hb.mono (by simp))⟩
theorem sTagHash_wd (x k : Int) (l : List ByteArray) (n : Nat) (cs : Array Value) (w : World) (g : Nat) (hg : w.heap.size = g) (hn : l.length = n) (hl : n ≤ 60) (hc : cs = (svs l).toArray) :
    Hid (Calls Tryz.prog 90 #[.int .i64 k, .slice (some ⟨g, 0, none⟩) n n, .int .i64 x] (w.alloc (.cells cs 9)).drew fun e w' => e = .returned (.string (hashB k l x)) ∧ Below w.heap.size w w') := by
  have h := sTagHash_w x k l n cs w.drew g hg hn hl hc
  exact h.out.mono fun e w' ⟨he, hb⟩ => ⟨he, (Below.refl _ _).drew.trans hb⟩

end Go.Proofs.YtfiapodjiifmaaaGreatDoor
