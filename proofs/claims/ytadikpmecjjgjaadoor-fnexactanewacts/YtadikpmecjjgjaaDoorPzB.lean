/-
  Texts laid together: Lx, Ly, Lz, An, Ao.
-/
import Derived.Test.YtadikpmecjjgjaaDoorLb
import Derived.Test.YtadikpmecjjgjaaDoorLt
import Derived.Deep.AppendLies
import Derived.Deep.RegionHeld3
import Derived.Test.YtadikpmecjjgjaaDoorPzA
import Derived.Test.YtadikpmecjjgjaaDoorLl
/-
  A file laid anew: the program's acts.
-/
namespace Go.Proofs.YtadikpmecjjgjaaDoor
open Go.RowKit
set_option linter.unusedVariables false
set_option linter.unusedSimpArgs false

/-- a row of acts appended to another -/
theorem wp_acts {w : World} {ops : Array Oper} {o : Oper} {a : Act} {Q : Exit → Act → World → Prop} {rest : List Oper} (hgd : o.guard = none) (s x : Operand)
    (ho : o.op = .call { callee := .builtin .append, args := #[s, x], argTypes := #[22, 22] })
    (B : Nat) (w0 : World) (u : Value) (l R : List Ac) (hs : a.eval s = u) (h : OR 50 4 acs B w0 w u l) (p n cap : Nat) (hx : a.eval x = .slice (some ⟨p, 0, none⟩) n cap) (hn : R.length = n) (h0 : 0 < n)
    (hnews : ∀ j u, (R.flatMap acs)[j]? = some u → w.cell? ⟨p, j, none⟩ = some u) (hlen : l.length + n ≤ 1000)
    (hk : ∀ g cap w', OR 50 4 acs B w0 w' (.slice (some ⟨g, 0, none⟩) (l.length + n) cap) (l ++ R) → wpList Tryd.prog ops Q rest (a.put o.dst (.slice (some ⟨g, 0, none⟩) (l.length + n) cap)) w') : wpList Tryd.prog ops Q (o :: rest) a w := by
  obtain ⟨i0, hi, hz0, hz1, hz2⟩ := info_parts Tryd.infoAct
  subst hn
  refine wpList_append_lies w hgd s x 22 ho B 50 i0 _ 4 56 Tryd.underlying22 hi hz0 hz1 hz2 rfl (by decide) u l.length (l.flatMap acs) hs h.1 ⟨p, 0, none⟩ R.length cap (R.flatMap acs) hx (flat_len (k := 4) (fun x => acs_len x) R) ?_
    (fun u hu => by obtain ⟨f, _, hf⟩ := List.mem_flatMap.1 hu; simp [acs] at hf; rcases hf with rfl | rfl | rfl | rfl <;> rfl) h0 (by unfold maxLen; omega) (by omega) h.2.2 w.heap.size rfl ?_
  · intro j u hj
    have := hnews j u hj
    rw [Addr.add_lit, Nat.zero_add]
    exact this
  · intro g cap w' h1 h2 h3 _
    refine hk _ _ _ ⟨?_, h.2.1.grown h2 h.2.2 (fun k hk => (h.1.lt k hk).1), Nat.le_trans h.2.2 h2.size⟩
    rw [List.flatMap_append, List.length_append]
    exact h1
theorem OR.open {B : Nat} {w0 w : World} {v : Value} {l : List Ac} (h : OR 50 4 acs B w0 w v l) (h0 : 0 < l.length) : ∃ g cap, v = .slice (some ⟨g, 0, none⟩) l.length cap ∧ ∀ j u, (l.flatMap acs)[j]? = some u → w.cell? ⟨g, j, none⟩ = some u := by
  have hown := h.1
  rcases h.1.2 with ⟨hv, hn⟩ | ⟨g, cap, cur, hv, rest⟩
  · omega
  · subst hv
    refine ⟨g, cap, rfl, fun j u hj => ?_⟩
    have h1 := hown.cells (g := g) rfl j u hj
    have e : (⟨g, 0, none⟩ : Addr).add j = ⟨g, j, none⟩ := by unfold Addr.add; split <;> simp_all
    rw [e] at h1
    exact h1
theorem OR.some {B : Nat} {w0 w : World} {v : Value} {l : List Ac} (h : OR 50 4 acs B w0 w v l) : ∃ a cap, v = .slice a l.length cap := by
  rcases h.1.2 with ⟨hv, hn⟩ | ⟨g, cap, cur, hv, rest⟩
  · exact ⟨none, 0, by rw [hv, hn]⟩
  · exact ⟨_, _, hv⟩

noncomputable def dnA (L : List Fl) : List Ac := if F.fileO L newB then [⟨4, newB, ⟨#[]⟩, ⟨#[]⟩⟩] else []
theorem dnA_len (L : List Fl) : (dnA L).length ≤ 1 := by unfold dnA; split <;> simp

theorem dropNew_disk (v : Value) (ga oa : Nat) (L : List Fl) (w : World) (hv : RS 3 fcs w v ga oa L) (hE : Eh w) (hd : F.diskB L = false) :
    Calls Tryd.prog 57 #[.agg #[v]] w (AeP w [] (faultV 1)) := by
  have HC := fileOf_disk v ga oa L newB _ (hv.later (bxD.below w v)) hd
  have HH : Hid (∀ W, Below w.heap.size w W → Calls Tryd.prog 27 #[.iface 78 (.agg #[.int .i64 1])] W fun e w' => e = .returned (.int .i64 1) ∧ Below W.heap.size W w') := fun W hW => logCodeOf_hit 1 W (hE.later hW)
  have HB : Hid (Below w.heap.size w (bxD w v)) := bxD.below w v
  obtain ⟨a, cap, rfl⟩ := hv.shape
  unfold faultV at *
  unfold bxD newB at *
  clear hv hd hE
  go_enter Tryd.func57, Tryd.ntmps57
  go_wp2_with fail
  refine HC.mono ?_
  rintro e w1 ⟨rfl, hb1⟩
  have HB1 : Hid (Below w.heap.size w w1) := HB.out.trans (hb1.mono HB.out.size)
  clear HB hb1 HC
  go_wp2_with fail
  refine (HH.out _ HB1.out).mono ?_
  rintro e w2 ⟨rfl, hb2⟩
  have HB2 : Hid (Below w.heap.size w w2) := HB1.out.trans (hb2.mono HB1.out.size)
  clear HB1 hb2 HH
  go_wp2
  go_ret2
  exact AeP.mk ⟨World.ownsRow_nil _ _ _ _, HB2.out, HB2.out.size⟩

theorem dropNew_well (v : Value) (ga oa : Nat) (L : List Fl) (w : World) (hv : RS 3 fcs w v ga oa L) (hs : SmallF L) (hE : Eh w) (hd : F.diskB L = true) :
    Calls Tryd.prog 57 #[.agg #[v]] w (AeP w (dnA L) .nilIface) := by
  have HB : Hid (Below w.heap.size w (bxD w v)) := bxD.below w v
  cases hR : F.fileO L newB with
  | true =>
    have HC := fileOf_at v ga oa L newB _ true _ (hv.later (bxD.below w v)) hs hd rfl hR
    rw [if_pos rfl] at HC
    rw [show dnA L = [⟨4, newB, ⟨#[]⟩, ⟨#[]⟩⟩] by simp [dnA, hR]]
    generalize F.fileT L newB = T at *
    obtain ⟨a, cap, rfl⟩ := hv.shape
    unfold bxD newB at *
    clear hv hd hE hs hR
    go_enter Tryd.func57, Tryd.ntmps57
    go_wp2_with fail
    refine HC.mono ?_
    rintro e w1 ⟨rfl, hb1⟩
    have HB1 : Hid (Below w.heap.size w w1) := HB.out.trans (hb1.mono HB.out.size)
    clear HB hb1 HC
    go_wp2_with fail
    refine (logCodeOf_nil _).mono ?_
    rintro e w2 ⟨rfl, hb2⟩
    have HB2 : Hid (Below w.heap.size w w2) := HB1.out.trans (hb2.mono HB1.out.size)
    clear HB1 hb2
    go_wp2
    go_ret2
    exact AeP.mk ((act_lit w2 _ [⟨4, ⟨#[110, 101, 119]⟩, ⟨#[]⟩, ⟨#[]⟩⟩] 1 rfl (by omega) rfl).wide HB2.out HB2.out.size)
  | false =>
    have HC := fileOf_at v ga oa L newB _ false _ (hv.later (bxD.below w v)) hs hd rfl hR
    rw [if_neg (by simp)] at HC
    have HH : Hid (∀ W, Below w.heap.size w W → Calls Tryd.prog 27 #[.iface 78 (.agg #[.int .i64 3])] W fun e w' => e = .returned (.int .i64 3) ∧ Below W.heap.size W w') := fun W hW => logCodeOf_hit 3 W (hE.later hW)
    rw [show dnA L = [] by simp [dnA, hR]]
    obtain ⟨a, cap, rfl⟩ := hv.shape
    unfold faultV at *
    unfold bxD newB at *
    clear hv hd hE hs hR
    go_enter Tryd.func57, Tryd.ntmps57
    go_wp2_with fail
    refine HC.mono ?_
    rintro e w1 ⟨rfl, hb1⟩
    have HB1 : Hid (Below w.heap.size w w1) := HB.out.trans (hb1.mono HB.out.size)
    clear HB hb1 HC
    go_wp2_with fail
    refine (HH.out _ HB1.out).mono ?_
    rintro e w2 ⟨rfl, hb2⟩
    have HB2 : Hid (Below w.heap.size w w2) := HB1.out.trans (hb2.mono HB1.out.size)
    clear HB1 hb2 HH
    go_wp2
    go_ret2
    exact AeP.mk ⟨World.ownsRow_nil _ _ _ _, HB2.out, HB2.out.size⟩

end Go.Proofs.YtadikpmecjjgjaaDoor
/-
  AnewActs of the program: all its acts, or which fault.
-/
namespace Go.Proofs.YtadikpmecjjgjaaDoor
open Go.RowKit Go.BigFrame Go.Sort
set_option linter.unusedVariables false
set_option linter.unusedSimpArgs false

noncomputable def laidA (L : List Fl) (s : ByteArray) (l : List ByteArray) : List Ac := (dnA L ++ logAs newB (frsB l)) ++ [⟨3, newB, ⟨#[]⟩, s⟩]

theorem lit_cells (w : World) (cs : Array Value) (T : Nat) (R : List Ac) (hc : cs.toList = R.flatMap acs) : Hid (∀ j u, (R.flatMap acs)[j]? = some u → (w.alloc (.cells cs T)).cell? ⟨w.heap.size, j, none⟩ = some u) := by
  intro j u hj
  rw [← hc] at hj
  rw [cell_of_row _ _ j _ _ _ (Go.heap_alloc_new w (.cells cs T))]
  simpa using hj

set_option maxRecDepth 100000 in
set_option maxHeartbeats 2000000 in
theorem laidActs_well (v : Value) (ga oa : Nat) (L : List Fl) (s : ByteArray) (q : Value) (gq oq : Nat) (l : List ByteArray) (w : World) (hv : RS 3 fcs w v ga oa L) (hsm : SmallF L) (hs : s.size ≤ 1048576) (hq : SS w q gq oq l) (hgq : 0 < l.length → gq < w.heap.size) (hl : ∀ t ∈ l, t.size ≤ 1048576) (hT : Tab w) (hE : Eh w)
    (hd : F.diskB L = true) (hn : lnB s = true) (hk : ∀ t ∈ l, okT t = true) :
    Calls Tryd.prog 39 #[.agg #[v], .string s, q] w (AeP w (laidA L s l) .nilIface) := by
  have HC := dropNew_well v ga oa L _ (hv.later (bxD.below w v)) hsm (hE.later (bxD.below w v)) hd
  have HB : Hid (Below w.heap.size w (bxD w v)) := bxD.below w v
  have HF : Hid (∀ W, Below w.heap.size w W → Calls Tryd.prog 45 #[.string newB, q] W (AeP W (logAs newB (frsB l)) .nilIface)) := fun W hW => framedActs_yes newB q gq oq l W (hq.below hW hgq) (fun h => Nat.lt_of_lt_of_le (hgq h) hW.size) hl (hT.later hW hT.pos) hk
  have hdl := dnA_len L
  have hll : (logAs newB (frsB l)).length = 2 := rfl
  unfold laidA
  obtain ⟨a, cap, rfl⟩ := hv.shape
  obtain ⟨aq, cq, rfl, _⟩ := hq
  generalize dnA L = D at *
  generalize logAs newB (frsB l) = G at *
  unfold bxD newB at *
  clear hv hsm hgq hl hT hE hd hk
  go_enter Tryd.func39, Tryd.ntmps39
  go_wp2_with fail
  refine HC.mono ?_
  rintro e w1 ⟨u1, rfl, hu1⟩
  have HO1 : Hid (OR 50 4 acs w.heap.size w w1 u1 D) := hu1.wide HB.out HB.out.size
  clear HB hu1 HC
  obtain ⟨a1, c1, rfl⟩ := OR.some HO1.out
  go_wp2_with fail
  refine (logNameFault_yes s _ hn).mono ?_
  rintro e w2 ⟨rfl, rfl⟩
  go_wp2_with fail
  refine (HF.out _ HO1.out.2.1).mono ?_
  rintro e w3 ⟨u3, rfl, hu3⟩
  have HO3 : Hid (OR 50 4 acs w.heap.size w w3 (.slice a1 D.length c1) D) := HO1.out.later hu3.2.1
  obtain ⟨g3, c3, rfl, hc3⟩ := OR.open hu3 (by omega)
  rw [hll]
  have HC3 : Hid (∀ j u, (G.flatMap acs)[j]? = some u → w3.cell? ⟨g3, j, none⟩ = some u) := hc3
  clear HO1 hu3 hc3 HF
  go_wp2_with (at_builtin; refine wp_acts rfl _ _ rfl w.heap.size w _ D G rfl HO3.out g3 2 c3 rfl hll (by omega) HC3.out (by omega) ?_; intro g4 c4 w4 h4)
  refine (strClone_any s _ hs).mono ?_
  rintro e w5 ⟨rfl, hb5⟩
  have HO5 : Hid (OR 50 4 acs w.heap.size w (w5.alloc (.cells #[.int .i64 3, .string ⟨#[110, 101, 119]⟩, .string ⟨#[]⟩, .string s] 50)) (.slice (some ⟨g4, 0, none⟩) (D.length + 2) c4) (D ++ G)) := (h4.later hb5).alloc _
  have HN5 := lit_cells w5 #[.int .i64 3, .string ⟨#[110, 101, 119]⟩, .string ⟨#[]⟩, .string s] 50 [⟨3, ⟨#[110, 101, 119]⟩, ⟨#[]⟩, s⟩] rfl
  have hlg : (D ++ G).length + 1 ≤ 1000 := by rw [List.length_append]; omega
  clear h4 hb5
  go_wp2_with (at_builtin; refine wp_acts rfl _ _ rfl w.heap.size w _ (D ++ G) [⟨3, ⟨#[110, 101, 119]⟩, ⟨#[]⟩, s⟩] rfl HO5.out w5.heap.size 1 1 rfl rfl (by omega) HN5.out hlg ?_; intro g6 c6 w6 h6)
  rw [show (D ++ G).length + 1 = D.length + 2 + 1 by rw [List.length_append, hll]] at h6
  go_ret2
  exact AeP.mk h6

theorem laidActs_disk (v : Value) (ga oa : Nat) (L : List Fl) (s : ByteArray) (q : Value) (hq : ∃ a n c, q = .slice a n c) (w : World) (hv : RS 3 fcs w v ga oa L) (hE : Eh w) (hd : F.diskB L = false) :
    Calls Tryd.prog 39 #[.agg #[v], .string s, q] w (AeP w [] (faultV 1)) := by
  have HC := dropNew_disk v ga oa L _ (hv.later (bxD.below w v)) (hE.later (bxD.below w v)) hd
  have HB : Hid (Below w.heap.size w (bxD w v)) := bxD.below w v
  obtain ⟨a, cap, rfl⟩ := hv.shape
  obtain ⟨aq, nq, cq, rfl⟩ := hq
  unfold faultV bxD at *
  clear hv hE hd
  go_enter Tryd.func39, Tryd.ntmps39
  go_wp2_with fail
  refine HC.mono ?_
  rintro e w1 ⟨u1, rfl, hu1⟩
  have HB1 : Hid (Below w.heap.size w w1) := HB.out.trans (hu1.2.1.mono HB.out.size)
  clear HB hu1 HC
  go_wp2
  go_ret2
  exact AeP.mk ⟨World.ownsRow_nil _ _ _ _, HB1.out, HB1.out.size⟩

theorem laidActs_name (v : Value) (ga oa : Nat) (L : List Fl) (s : ByteArray) (q : Value) (hq : ∃ a n c, q = .slice a n c) (w : World) (hv : RS 3 fcs w v ga oa L) (hsm : SmallF L) (hE : Eh w) (hd : F.diskB L = true) (hn : lnB s = false) :
    Calls Tryd.prog 39 #[.agg #[v], .string s, q] w (AeP w [] (faultV 2)) := by
  have HC := dropNew_well v ga oa L _ (hv.later (bxD.below w v)) hsm (hE.later (bxD.below w v)) hd
  have HN : Hid (∀ W, Calls Tryd.prog 44 #[.string s] W fun e w' => e = .returned (.iface 78 (.agg #[.int .i64 2])) ∧ Below W.heap.size W w') := fun W => logNameFault_no s W hn
  have HB : Hid (Below w.heap.size w (bxD w v)) := bxD.below w v
  obtain ⟨a, cap, rfl⟩ := hv.shape
  obtain ⟨aq, nq, cq, rfl⟩ := hq
  generalize dnA L = D at *
  unfold faultV
  unfold bxD at *
  clear hv hE hd hsm hn
  go_enter Tryd.func39, Tryd.ntmps39
  go_wp2_with fail
  refine HC.mono ?_
  rintro e w1 ⟨u1, rfl, hu1⟩
  have HB1 : Hid (Below w.heap.size w w1) := HB.out.trans (hu1.2.1.mono HB.out.size)
  clear HB HC
  obtain ⟨a1, c1, rfl⟩ := OR.some hu1
  clear hu1
  go_wp2_with fail
  refine (HN.out _).mono ?_
  rintro e w2 ⟨rfl, hb2⟩
  have HB2 : Hid (Below w.heap.size w w2) := HB1.out.trans (hb2.mono HB1.out.size)
  clear HB1 hb2 HN
  go_wp2
  go_ret2
  exact AeP.mk ⟨World.ownsRow_nil _ _ _ _, HB2.out, HB2.out.size⟩

theorem laidActs_text (v : Value) (ga oa : Nat) (L : List Fl) (s : ByteArray) (q : Value) (gq oq : Nat) (l : List ByteArray) (w : World) (hv : RS 3 fcs w v ga oa L) (hsm : SmallF L) (hq : SS w q gq oq l) (hgq : 0 < l.length → gq < w.heap.size) (hl : ∀ t ∈ l, t.size ≤ 1048576) (hT : Tab w) (hE : Eh w)
    (hd : F.diskB L = true) (hn : lnB s = true) (t : ByteArray) (ht : t ∈ l) (hk : okT t = false) :
    Calls Tryd.prog 39 #[.agg #[v], .string s, q] w (AeP w [] (faultV 4)) := by
  have HC := dropNew_well v ga oa L _ (hv.later (bxD.below w v)) hsm (hE.later (bxD.below w v)) hd
  have HB : Hid (Below w.heap.size w (bxD w v)) := bxD.below w v
  have HF : Hid (∀ W, Below w.heap.size w W → Calls Tryd.prog 45 #[.string newB, q] W (AeP W [] (faultV 4))) := fun W hW => framedActs_no newB q gq oq l W (hq.below hW hgq) (fun h => Nat.lt_of_lt_of_le (hgq h) hW.size) hl (hT.later hW hT.pos) t ht hk
  obtain ⟨a, cap, rfl⟩ := hv.shape
  obtain ⟨aq, cq, rfl, _⟩ := hq
  generalize dnA L = D at *
  unfold faultV at *
  unfold bxD newB at *
  clear hv hsm hgq hl hT hE hd hk ht
  go_enter Tryd.func39, Tryd.ntmps39
  go_wp2_with fail
  refine HC.mono ?_
  rintro e w1 ⟨u1, rfl, hu1⟩
  have HB1 : Hid (Below w.heap.size w w1) := HB.out.trans (hu1.2.1.mono HB.out.size)
  clear HB HC
  obtain ⟨a1, c1, rfl⟩ := OR.some hu1
  clear hu1
  go_wp2_with fail
  refine (logNameFault_yes s _ hn).mono ?_
  rintro e w2 ⟨rfl, rfl⟩
  go_wp2_with fail
  refine (HF.out _ HB1.out).mono ?_
  rintro e w3 ⟨u3, rfl, hu3⟩
  have HB3 : Hid (Below w.heap.size w w3) := HB1.out.trans (hu3.2.1.mono HB1.out.size)
  obtain ⟨a3, c3, rfl⟩ := OR.some hu3
  clear HB1 HF hu3
  go_wp2
  go_ret2
  exact AeP.mk ⟨World.ownsRow_nil _ _ _ _, HB3.out, HB3.out.size⟩

theorem AnewActs_wellP (v : Value) (s : ByteArray) (q : Value) (A : List Ac) (w : World) (hv : ∃ a n c, v = .slice a n c) (hq : ∃ a n c, q = .slice a n c) (hA : A.length ≤ 4) (h : Calls Tryd.prog 39 #[.agg #[v], .string s, q] (bxD w v) (AeP (bxD w v) A .nilIface)) :
    Calls Tryd.prog 23 #[.agg #[v], .string s, q] w (AcP w A true) := by
  have HB : Hid (Below w.heap.size w (bxD w v)) := bxD.below w v
  obtain ⟨a, n, cap, rfl⟩ := hv
  obtain ⟨aq, nq, cq, rfl⟩ := hq
  unfold bxD at *
  go_enter Tryd.func23, Tryd.ntmps23
  go_wp2_with fail
  refine h.mono ?_
  rintro e w1 ⟨u, rfl, hu⟩
  have HU : Hid (OR 50 4 acs w.heap.size w w1 u A) := hu.wide HB.out HB.out.size
  clear HB hu h
  go_wp2_with fail
  refine (logCodeOf_nil _).mono ?_
  rintro e w2 ⟨rfl, hb2⟩
  have HU2 : Hid (OR 50 4 acs w.heap.size w w2 u A) := HU.out.later hb2
  clear HU hb2
  go_wp2
  go_ret2
  exact AcP.of HU2.out hA
theorem AnewActs_faultP (v : Value) (s : ByteArray) (q : Value) (c : Int) (hc : (c == 0) = false) (w : World) (hE : Eh w) (hv : ∃ a n c, v = .slice a n c) (hq : ∃ a n c, q = .slice a n c) (h : Calls Tryd.prog 39 #[.agg #[v], .string s, q] (bxD w v) (AeP (bxD w v) [] (faultV c))) :
    Calls Tryd.prog 23 #[.agg #[v], .string s, q] w (AcP w [] false) := by
  have HB : Hid (Below w.heap.size w (bxD w v)) := bxD.below w v
  have HH : Hid (∀ W, Below w.heap.size w W → Calls Tryd.prog 27 #[.iface 78 (.agg #[.int .i64 c])] W fun e w' => e = .returned (.int .i64 c) ∧ Below W.heap.size W w') := fun W hW => logCodeOf_hit c W (hE.later hW)
  obtain ⟨a, n, cap, rfl⟩ := hv
  obtain ⟨aq, nq, cq, rfl⟩ := hq
  unfold faultV at h
  unfold bxD at *
  clear hE
  go_enter Tryd.func23, Tryd.ntmps23
  go_wp2_with fail
  refine h.mono ?_
  rintro e w1 ⟨u, rfl, hu⟩
  have HU : Hid (OR 50 4 acs w.heap.size w w1 u []) := hu.wide HB.out HB.out.size
  clear HB hu h
  go_wp2_with fail
  refine (HH.out _ HU.out.2.1).mono ?_
  rintro e w2 ⟨rfl, hb2⟩
  have HU2 : Hid (OR 50 4 acs w.heap.size w w2 u []) := HU.out.later hb2
  clear HU hb2 HH
  go_wp2
  go_ret2
  exact AcP.of HU2.out (by simp)

noncomputable def anB (L : List Fl) (s : ByteArray) (l : List ByteArray) : Bool := F.diskB L && (lnB s && l.all okT)
noncomputable def anA (L : List Fl) (s : ByteArray) (l : List ByteArray) : List Ac := if anB L s l then laidA L s l else []
theorem laidA_len (L : List Fl) (s : ByteArray) (l : List ByteArray) : (laidA L s l).length ≤ 4 := by
  have := dnA_len L
  simp [laidA, logAs]
  omega
theorem anA_len (L : List Fl) (s : ByteArray) (l : List ByteArray) : (anA L s l).length ≤ 4 := by
  unfold anA
  split
  · exact laidA_len L s l
  · simp
theorem anA_no {L : List Fl} {s : ByteArray} {l : List ByteArray} (h : anB L s l = false) : anA L s l = [] := by simp [anA, h]
theorem anA_yes {L : List Fl} {s : ByteArray} {l : List ByteArray} (h : anB L s l = true) : anA L s l = laidA L s l := by simp [anA, h]

theorem AnewActs_any (v : Value) (ga oa : Nat) (L : List Fl) (s : ByteArray) (q : Value) (gq oq : Nat) (l : List ByteArray) (w : World) (hv : RS 3 fcs w v ga oa L) (hsm : SmallF L) (hs : s.size ≤ 1048576) (hq : SS w q gq oq l) (hgq : 0 < l.length → gq < w.heap.size) (hl : ∀ t ∈ l, t.size ≤ 1048576) (hT : Tab w) (hE : Eh w) :
    Calls Tryd.prog 23 #[.agg #[v], .string s, q] w (AcP w (anA L s l) (anB L s l)) := by
  have hb := bxD.below w v
  have hv1 := hv.later hb
  have hq1 := hq.below hb hgq
  have hgq1 : 0 < l.length → gq < (bxD w v).heap.size := fun h => Nat.lt_of_lt_of_le (hgq h) hb.size
  have hT1 := hT.later hb hT.pos
  have hE1 := hE.later hb
  have sv : ∃ a n c, v = .slice a n c := by obtain ⟨a, c, h⟩ := hv.shape; exact ⟨a, _, c, h⟩
  have sq : ∃ a n c, q = .slice a n c := by obtain ⟨a, c, h, _⟩ := hq; exact ⟨a, _, c, h⟩
  cases hd : F.diskB L with
  | false =>
    have e : anB L s l = false := by simp [anB, hd]
    rw [anA_no e, e]
    exact AnewActs_faultP v s q 1 rfl w hE sv sq (laidActs_disk v ga oa L s q sq _ hv1 hE1 hd)
  | true =>
    cases hn : lnB s with
    | false =>
      have e : anB L s l = false := by simp [anB, hn]
      rw [anA_no e, e]
      exact AnewActs_faultP v s q 2 rfl w hE sv sq (laidActs_name v ga oa L s q sq _ hv1 hsm hE1 hd hn)
    | true =>
      cases hk : l.all okT with
      | false =>
        have e : anB L s l = false := by simp [anB, hk]
        rw [anA_no e, e]
        obtain ⟨t, ht, hkt⟩ := List.all_eq_false.1 hk
        exact AnewActs_faultP v s q 4 rfl w hE sv sq (laidActs_text v ga oa L s q gq oq l _ hv1 hsm hq1 hgq1 hl hT1 hE1 hd hn t ht (by simpa using hkt))
      | true =>
        have e : anB L s l = true := by simp [anB, hd, hn, hk]
        rw [anA_yes e, e]
        exact AnewActs_wellP v s q _ w sv sq (laidA_len L s l) (laidActs_well v ga oa L s q gq oq l _ hv1 hsm hs hq1 hgq1 hl hT1 hE1 hd hn (List.all_eq_true.1 hk))

end Go.Proofs.YtadikpmecjjgjaaDoor
/-
  AnewActs of the specification: the same acts.
-/
namespace Go.Proofs.YtadikpmecjjgjaaDoor
open Go.RowKit
set_option linter.unusedVariables false
set_option linter.unusedSimpArgs false

theorem frsB_snoc (l : List ByteArray) (t : ByteArray) : frsB (l ++ [t]) = frsB l ++ frB t := by
  unfold frsB
  rw [frsL_snoc]
  apply ByteArray.ext
  simp [ByteArray.data_append]
theorem frsB_size (l : List ByteArray) : (frsB l).size = (frsL l).length := by unfold frsB; simp [ByteArray.size]

def SwR (l : List ByteArray) (W0 : World) (t i : Value) (wr : World) : Prop := ∃ m : Nat, m ≤ l.length ∧ i = .int .i64 m ∧ t = .string (frsB (l.take m)) ∧ Hid ((∀ x ∈ l.take m, okT x = true) ∧ Below W0.heap.size W0 wr)

theorem none_at (w : World) (v : Value) : OR 50 4 acs w.heap.size w ((bxD w v).alloc (.cells #[] 50)) (.slice (some ⟨w.heap.size + 1, 0, none⟩) 0 0) [] := by
  have h := (act_none (bxD w v)).wide (bxD.below w v) (bxD.below w v).size
  have e : (bxD w v).heap.size = w.heap.size + 1 := by unfold bxD; simp
  rw [e] at h
  exact h
theorem bxD.cell2 (w : World) (v : Value) : ((bxD w v).alloc (.cells #[] 50)).cell? ⟨w.heap.size, 0, none⟩ = some v := (World.cell?_alloc_lt _ _ ⟨w.heap.size, 0, none⟩ (bxD.lt w v)).trans (bxD.cell w v)
theorem bxD.lt2 (w : World) (v : Value) : w.heap.size < ((bxD w v).alloc (.cells #[] 50)).heap.size := by unfold bxD; simp; omega
theorem AcP.flag {w w' : World} {L : List Ac} {R : Bool} {u : Value} (A : List Ac) (S : Bool) (e1 : L = A) (e2 : R = S) (h : OR 50 4 acs w.heap.size w w' u A) (hl : A.length ≤ 4) : AcP w L R (.returned (.tuple #[u, .bool S])) w' := by
  subst e1 e2
  exact AcP.of h hl

set_option maxRecDepth 100000 in
set_option maxHeartbeats 2000000 in
theorem sAnewActs_bad (v : Value) (ga oa : Nat) (L : List Fl) (s : ByteArray) (q : Value) (w : World) (hv : RS 3 fcs w v ga oa L) (hs : s.size ≤ 1048576) (hq : ∃ a n c, q = .slice a n c) (h : (F.diskB L && lnB s) = false) :
    Calls Tryd.prog 21 #[.agg #[v], .string s, q] w (AcP w [] false) := by
  have hbA : Below w.heap.size w ((bxD w v).alloc (.cells #[] 50)) := (bxD.below w v).alloc (bxD.below w v).size _
  have HC := sDiskOk_any v ga oa L _ (hv.later hbA)
  have HN : Hid (OR 50 4 acs w.heap.size w ((bxD w v).alloc (.cells #[] 50)) (.slice (some ⟨w.heap.size + 1, 0, none⟩) 0 0) []) := none_at w v
  have HM : Hid (∀ W, Calls Tryd.prog 25 #[.string s] W fun e w' => e = .returned (.bool (lnB s)) ∧ w' = W) := fun W => l08Name_any s W hs
  unfold bxD at *
  obtain ⟨a, cap, rfl⟩ := hv.shape
  obtain ⟨aq, nq, cq, rfl⟩ := hq
  clear hv hbA
  cases hd : F.diskB L with
  | false =>
    rw [hd] at HC
    clear HM h hd
    go_enter Tryd.func21, Tryd.ntmps21
    go_wp2_with fail
    refine HC.mono ?_
    rintro e w1 ⟨rfl, hb1⟩
    have HN1 : Hid (OR 50 4 acs w.heap.size w w1 (.slice (some ⟨w.heap.size + 1, 0, none⟩) 0 0) []) := HN.out.later hb1
    clear HN hb1 HC
    go_wp2
    go_ret2
    exact AcP.of HN1.out (by simp)
  | true =>
    rw [hd] at HC
    have hn : lnB s = false := by simpa [hd] using h
    rw [hn] at HM
    clear h hd hn
    go_enter Tryd.func21, Tryd.ntmps21
    go_wp2_with fail
    refine HC.mono ?_
    rintro e w1 ⟨rfl, hb1⟩
    have HN1 : Hid (OR 50 4 acs w.heap.size w w1 (.slice (some ⟨w.heap.size + 1, 0, none⟩) 0 0) []) := HN.out.later hb1
    clear HN hb1 HC
    go_wp2_with fail
    refine (HM.out _).mono ?_
    rintro e w2 ⟨rfl, rfl⟩
    go_wp2
    go_ret2
    exact AcP.of HN1.out (by simp)

set_option maxRecDepth 100000 in
set_option maxHeartbeats 4000000 in
theorem sAnewActs_good (v : Value) (ga oa : Nat) (L : List Fl) (s : ByteArray) (q : Value) (gq oq : Nat) (l : List ByteArray) (w : World) (hv : RS 3 fcs w v ga oa L) (hs : s.size ≤ 1048576) (hq : SS w q gq oq l) (hgq : 0 < l.length → gq < w.heap.size) (hl : ∀ t ∈ l, t.size ≤ 1048576) (hd : F.diskB L = true) (hn : lnB s = true) :
    Calls Tryd.prog 21 #[.agg #[v], .string s, q] w (AcP w (anA L s l) (anB L s l)) := by
  have hbA : Below w.heap.size w ((bxD w v).alloc (.cells #[] 50)) := (bxD.below w v).alloc (bxD.below w v).size _
  have HC := sDiskOk_any v ga oa L _ (hv.later hbA)
  have HN : Hid (OR 50 4 acs w.heap.size w ((bxD w v).alloc (.cells #[] 50)) (.slice (some ⟨w.heap.size + 1, 0, none⟩) 0 0) [] ∧ ((bxD w v).alloc (.cells #[] 50)).cell? ⟨w.heap.size, 0, none⟩ = some v ∧ w.heap.size < ((bxD w v).alloc (.cells #[] 50)).heap.size) := ⟨none_at w v, bxD.cell2 w v, bxD.lt2 w v⟩
  have HFA : Hid (∀ W, Below w.heap.size w W → Calls Tryd.prog 32 #[.agg #[v], .string newB] W fun e w' => e = .returned (.tuple #[.string (F.fileT L newB), .bool (F.fileO L newB)]) ∧ Below W.heap.size W w') := fun W hW => sFileAt_any v ga oa L newB W (hv.later hW)
  unfold bxD at *
  obtain ⟨a, cap, rfl⟩ := hv.shape
  have HV : Hid (SS w q gq oq l) := hq
  obtain ⟨aq, cq, rfl, hll, hA, _⟩ := hq
  obtain ⟨n, hln⟩ : ∃ n, l.length = n := ⟨_, rfl⟩
  have HA : Hid (0 < n → aq = some ⟨gq, oq, none⟩ ∧ gq < w.heap.size) := by rw [← hln]; exact fun h => ⟨hA h, hgq h⟩
  have HS : Hid (∀ t ∈ l, t.size ≤ 1048576) := hl
  obtain ⟨PA, hPA⟩ : ∃ PA, anA L s l = PA := ⟨_, rfl⟩
  obtain ⟨PB, hPB⟩ : ∃ PB, anB L s l = PB := ⟨_, rfl⟩
  have HP : Hid ((l.all okT = true → PA = laidA L s l ∧ PB = true) ∧ (l.all okT = false → PA = [] ∧ PB = false)) := by
    subst hPA hPB
    refine ⟨fun h => ?_, fun h => ?_⟩
    · have e : anB L s l = true := by simp [anB, hd, hn, h]
      exact ⟨anA_yes e, e⟩
    · have e : anB L s l = false := by simp [anB, h]
      exact ⟨anA_no e, e⟩
  rw [hPA, hPB]
  rw [hd] at HC
  rw [hln] at hll HV ⊢
  clear hv hbA hA hgq hl hPA hPB hd
  go_enter Tryd.func21, Tryd.ntmps21
  go_wp2_with fail
  refine HC.mono ?_
  rintro e w1 ⟨rfl, hb1⟩
  have HN1 : Hid (OR 50 4 acs w.heap.size w w1 (.slice (some ⟨w.heap.size + 1, 0, none⟩) 0 0) [] ∧ w1.cell? ⟨w.heap.size, 0, none⟩ = some (.slice a L.length cap) ∧ w.heap.size < w1.heap.size) := ⟨HN.out.1.later hb1, (hb1.cell (p := ⟨w.heap.size, 0, none⟩) HN.out.2.2).trans HN.out.2.1, Nat.lt_of_lt_of_le HN.out.2.2 hb1.size⟩
  clear HN hb1 HC
  go_wp2_with fail
  refine (l08Name_any s _ hs).mono ?_
  rintro e w2 ⟨rfl, rfl⟩
  rw [hn]
  go_wp2
  go_loopw [9, 10] (fun t i wr => SwR l w2 t i wr) (fun _ i _ => n - (intOf i).toNat)
  case atStart => exact ⟨0, by omega, rfl, by simp [frsB, frsL], by simp, Below.refl _ _⟩
  case round =>
    obtain ⟨m, hm, rfl, rfl, HI⟩ := hrel
    rw [hln] at hm
    have hbw : Below w.heap.size w wr := HN1.out.1.2.1.trans (HI.out.2.mono HN1.out.1.2.1.size)
    have hsz := frsL_len _ HI.out.1
    rw [List.length_take, ← frsB_size] at hsz
    have hsz2 : (frsB (l.take m)).size ≤ 10000000000 := by omega
    clear hsz
    by_cases hlt : m < n
    · obtain ⟨ea, hgw⟩ := HA.out (by omega)
      subst ea
      obtain ⟨_, _, _, _, _, hc⟩ := HV.out
      have c0 := (hbw.cell (p := ⟨gq, oq + m, none⟩) hgw).trans (hc m (by omega))
      clear hc
      obtain ⟨X, hX⟩ : ∃ X, l[m]'(by omega) = X := ⟨_, rfl⟩
      rw [hX] at c0
      have HX : Hid (l[m]'(by omega) = X) := hX
      have hxs := HS.out X (by rw [← hX]; exact List.getElem_mem _)
      have i1 : (m : Int) < (n : Int) := by omega
      have i2 : (0 : Int) ≤ (m : Int) := by omega
      clear hX HV HS HA HFA
      cases hk : okT X with
      | false =>
        have hq : ¬ (1 ≤ X.size ∧ X.size ≤ 9000) := fun h => by rw [okT_iff.2 h] at hk; cases hk
        have hal : l.all okT = false := List.all_eq_false.2 ⟨X, by rw [← HX.out]; exact List.getElem_mem _, by rw [hk]; simp⟩
        obtain ⟨rfl, rfl⟩ := HP.out.2 hal
        have HQ : Hid (¬ (1 ≤ X.size ∧ X.size ≤ 9000)) := hq
        have HN2 : Hid (OR 50 4 acs w.heap.size w wr (.slice (some ⟨w.heap.size + 1, 0, none⟩) 0 0) []) := HN1.out.1.later HI.out.2
        clear hq hal HP HN1 HI hbw
        generalize frsB (l.take m) = S0 at *
        go_wp2_with fail
        refine (sFrame_no X _ hxs HQ.out).mono ?_
        rintro e w3 ⟨rfl, hb3⟩
        have HN3 : Hid (OR 50 4 acs w.heap.size w w3 (.slice (some ⟨w.heap.size + 1, 0, none⟩) 0 0) []) := HN2.out.later hb3
        clear HN2 hb3
        go_wp2
        go_ret2
        exact AcP.of HN3.out (by simp)
      | true =>
        have hq := okT_iff.1 hk
        have hf := frB_le hk
        have HQ : Hid (1 ≤ X.size ∧ X.size ≤ 9000) := hq
        have HI2 : Hid (∀ W, Below wr.heap.size wr W → m + 1 ≤ l.length ∧ (frsB (l.take m) ++ frB X) = frsB (l.take (m + 1)) ∧ (∀ x ∈ l.take (m + 1), okT x = true) ∧ Below w2.heap.size w2 W) := fun W hW => by
          have e : l.take (m + 1) = l.take m ++ [X] := by rw [← HX.out]; exact List.take_succ_eq_append_getElem (by omega)
          refine ⟨by omega, by rw [e, frsB_snoc], fun t ht => ?_, HI.out.2.trans (hW.mono HI.out.2.size)⟩
          rw [e, List.mem_append] at ht
          rcases ht with ht | ht
          · exact HI.out.1 t ht
          · rw [List.mem_singleton.1 ht]; exact hk
        clear hq HP HN1 HI hbw
        generalize frsB (l.take m) = S0 at *
        go_wp2_with fail
        refine (sFrame_yes X _ HQ.out.1 HQ.out.2).mono ?_
        rintro e w3 ⟨rfl, hb3⟩
        have HI3 := HI2.out _ hb3
        clear HI2 hb3
        generalize frB X = Y at *
        have HI4 : Hid (m + 1 ≤ l.length ∧ S0 ++ Y = frsB (l.take (m + 1)) ∧ (∀ x ∈ l.take (m + 1), okT x = true) ∧ Below w2.heap.size w2 w3) := HI3
        clear HI3
        go_wp2
        go_roundw
        case rel => exact ⟨m + 1, HI4.out.1, by go_num, congrArg Value.string HI4.out.2.1, HI4.out.2.2⟩
        case measure => simp [intOf]; omega
    · have hme : m = n := by omega
      subst hme
      have hal : l.all okT = true := by
        have h := HI.out.1
        rw [← hln, List.take_length] at h
        exact List.all_eq_true.2 h
      obtain ⟨rfl, rfl⟩ := HP.out.1 hal
      have et : frsB (l.take m) = frsB l := by rw [← hln, List.take_length]
      rw [et]
      have HEQ : Hid (laidA L s l = (if F.fileO L newB then [⟨4, newB, ⟨#[]⟩, ⟨#[]⟩⟩] else []) ++ [⟨1, newB, frsB l, ⟨#[]⟩⟩, ⟨2, newB, ⟨#[]⟩, ⟨#[]⟩⟩, ⟨3, newB, ⟨#[]⟩, s⟩]) := by
        show laidA L s l = _
        unfold laidA logAs dnA
        rw [List.append_assoc]
        rfl
      have cb : wr.cell? ⟨w.heap.size, 0, none⟩ = some (.slice a L.length cap) := (HI.out.2.cell (p := ⟨w.heap.size, 0, none⟩) HN1.out.2.2).trans HN1.out.2.1
      have hbo := hbw.alloc hbw.size (.cells #[] 50)
      have cbo : (wr.alloc (.cells #[] 50)).cell? ⟨w.heap.size, 0, none⟩ = some (.slice a L.length cap) := (World.cell?_alloc_lt _ _ ⟨w.heap.size, 0, none⟩ (lt_of_cell cb)).trans cb
      have HO0 : Hid (OR 50 4 acs w.heap.size w (wr.alloc (.cells #[] 50)) (.slice (some ⟨wr.heap.size, 0, none⟩) 0 0) []) := (act_none wr).wide hbw hbw.size
      have HFA2 := HFA.out _ hbo
      obtain ⟨R, hR⟩ : ∃ R, F.fileO L newB = R := ⟨_, rfl⟩
      rw [hR] at HFA2 HEQ
      generalize F.fileT L newB = T at *
      generalize frsB l = S0 at *
      clear HI HV HA HP HS HFA hal HN1 hbo hbw cb et hR
      unfold newB at *
      go_wp2_with fail
      refine HFA2.mono ?_
      rintro e w5 ⟨rfl, hb5⟩
      have HO5 : Hid (OR 50 4 acs w.heap.size w w5 (.slice (some ⟨wr.heap.size, 0, none⟩) 0 0) []) := HO0.out.later hb5
      clear HO0 HFA2 hb5 cbo
      cases R with
      | true =>
        have HO6 : Hid (OR 50 4 acs w.heap.size w (w5.alloc (.cells #[.int .i64 4, .string ⟨#[110, 101, 119]⟩, .string ⟨#[]⟩, .string ⟨#[]⟩] 50)) (.slice (some ⟨wr.heap.size, 0, none⟩) 0 0) []) := HO5.out.alloc _
        have HN6 := lit_cells w5 #[.int .i64 4, .string ⟨#[110, 101, 119]⟩, .string ⟨#[]⟩, .string ⟨#[]⟩] 50 [⟨4, ⟨#[110, 101, 119]⟩, ⟨#[]⟩, ⟨#[]⟩⟩] rfl
        clear HO5
        go_wp2_with (at_builtin; refine wp_acts rfl _ _ rfl w.heap.size w _ [] [⟨4, ⟨#[110, 101, 119]⟩, ⟨#[]⟩, ⟨#[]⟩⟩] rfl HO6.out w5.heap.size 1 1 rfl rfl (by omega) HN6.out (by simp) ?_)
        intro g7 c7 w7 h7
        have h7' : OR 50 4 acs w.heap.size w w7 (.slice (some ⟨g7, 0, none⟩) 1 c7) [⟨4, ⟨#[110, 101, 119]⟩, ⟨#[]⟩, ⟨#[]⟩⟩] := h7
        have HO8 : Hid (OR 50 4 acs w.heap.size w (w7.alloc (.cells #[.int .i64 1, .string ⟨#[110, 101, 119]⟩, .string S0, .string ⟨#[]⟩, .int .i64 2, .string ⟨#[110, 101, 119]⟩, .string ⟨#[]⟩, .string ⟨#[]⟩, .int .i64 3, .string ⟨#[110, 101, 119]⟩, .string ⟨#[]⟩, .string s] 50)) (.slice (some ⟨g7, 0, none⟩) 1 c7) [⟨4, ⟨#[110, 101, 119]⟩, ⟨#[]⟩, ⟨#[]⟩⟩]) := h7'.alloc _
        have HN8 := lit_cells w7 #[.int .i64 1, .string ⟨#[110, 101, 119]⟩, .string S0, .string ⟨#[]⟩, .int .i64 2, .string ⟨#[110, 101, 119]⟩, .string ⟨#[]⟩, .string ⟨#[]⟩, .int .i64 3, .string ⟨#[110, 101, 119]⟩, .string ⟨#[]⟩, .string s] 50 [⟨1, ⟨#[110, 101, 119]⟩, S0, ⟨#[]⟩⟩, ⟨2, ⟨#[110, 101, 119]⟩, ⟨#[]⟩, ⟨#[]⟩⟩, ⟨3, ⟨#[110, 101, 119]⟩, ⟨#[]⟩, s⟩] rfl
        clear HO6 HN6 h7 h7'
        go_wp2_with (at_builtin; refine wp_acts rfl _ _ rfl w.heap.size w _ [⟨4, ⟨#[110, 101, 119]⟩, ⟨#[]⟩, ⟨#[]⟩⟩] [⟨1, ⟨#[110, 101, 119]⟩, S0, ⟨#[]⟩⟩, ⟨2, ⟨#[110, 101, 119]⟩, ⟨#[]⟩, ⟨#[]⟩⟩, ⟨3, ⟨#[110, 101, 119]⟩, ⟨#[]⟩, s⟩] rfl HO8.out w7.heap.size 3 3 rfl rfl (by omega) HN8.out (by simp) ?_)
        intro g9 c9 w9 h9
        have h9' : OR 50 4 acs w.heap.size w w9 (.slice (some ⟨g9, 0, none⟩) 4 c9) ([⟨4, ⟨#[110, 101, 119]⟩, ⟨#[]⟩, ⟨#[]⟩⟩] ++ [⟨1, ⟨#[110, 101, 119]⟩, S0, ⟨#[]⟩⟩, ⟨2, ⟨#[110, 101, 119]⟩, ⟨#[]⟩, ⟨#[]⟩⟩, ⟨3, ⟨#[110, 101, 119]⟩, ⟨#[]⟩, s⟩]) := h9
        clear HO8 HN8 h9
        go_wp2
        go_ret2
        exact AcP.flag _ _ HEQ.out rfl h9' (by simp)
      | false =>
        have HO6 : Hid (OR 50 4 acs w.heap.size w (w5.alloc (.cells #[.int .i64 1, .string ⟨#[110, 101, 119]⟩, .string S0, .string ⟨#[]⟩, .int .i64 2, .string ⟨#[110, 101, 119]⟩, .string ⟨#[]⟩, .string ⟨#[]⟩, .int .i64 3, .string ⟨#[110, 101, 119]⟩, .string ⟨#[]⟩, .string s] 50)) (.slice (some ⟨wr.heap.size, 0, none⟩) 0 0) []) := HO5.out.alloc _
        have HN6 := lit_cells w5 #[.int .i64 1, .string ⟨#[110, 101, 119]⟩, .string S0, .string ⟨#[]⟩, .int .i64 2, .string ⟨#[110, 101, 119]⟩, .string ⟨#[]⟩, .string ⟨#[]⟩, .int .i64 3, .string ⟨#[110, 101, 119]⟩, .string ⟨#[]⟩, .string s] 50 [⟨1, ⟨#[110, 101, 119]⟩, S0, ⟨#[]⟩⟩, ⟨2, ⟨#[110, 101, 119]⟩, ⟨#[]⟩, ⟨#[]⟩⟩, ⟨3, ⟨#[110, 101, 119]⟩, ⟨#[]⟩, s⟩] rfl
        clear HO5
        go_wp2_with (at_builtin; refine wp_acts rfl _ _ rfl w.heap.size w _ [] [⟨1, ⟨#[110, 101, 119]⟩, S0, ⟨#[]⟩⟩, ⟨2, ⟨#[110, 101, 119]⟩, ⟨#[]⟩, ⟨#[]⟩⟩, ⟨3, ⟨#[110, 101, 119]⟩, ⟨#[]⟩, s⟩] rfl HO6.out w5.heap.size 3 3 rfl rfl (by omega) HN6.out (by simp) ?_)
        intro g9 c9 w9 h9
        have h9' : OR 50 4 acs w.heap.size w w9 (.slice (some ⟨g9, 0, none⟩) 3 c9) [⟨1, ⟨#[110, 101, 119]⟩, S0, ⟨#[]⟩⟩, ⟨2, ⟨#[110, 101, 119]⟩, ⟨#[]⟩, ⟨#[]⟩⟩, ⟨3, ⟨#[110, 101, 119]⟩, ⟨#[]⟩, s⟩] := h9
        clear HO6 HN6 h9
        go_wp2
        go_ret2
        exact AcP.flag _ _ HEQ.out rfl h9' (by simp)

theorem sAnewActs_any (v : Value) (ga oa : Nat) (L : List Fl) (s : ByteArray) (q : Value) (gq oq : Nat) (l : List ByteArray) (w : World) (hv : RS 3 fcs w v ga oa L) (hs : s.size ≤ 1048576) (hq : SS w q gq oq l) (hgq : 0 < l.length → gq < w.heap.size) (hl : ∀ t ∈ l, t.size ≤ 1048576) :
    Calls Tryd.prog 21 #[.agg #[v], .string s, q] w (AcP w (anA L s l) (anB L s l)) := by
  cases h : (F.diskB L && lnB s) with
  | false =>
    have e : anB L s l = false := by unfold anB; rw [← Bool.and_assoc, h]; rfl
    rw [anA_no e, e]
    exact sAnewActs_bad v ga oa L s q w hv hs (by obtain ⟨a, c, h, _⟩ := hq; exact ⟨a, _, c, h⟩) h
  | true =>
    have h2 : F.diskB L = true ∧ lnB s = true := by simpa using h
    exact sAnewActs_good v ga oa L s q gq oq l w hv hs hq hgq hl h2.1 h2.2

end Go.Proofs.YtadikpmecjjgjaaDoor
/-
  The walk of the law FnExactAnewActs: it answers true of every disk, every name and every row of texts.
-/
namespace Go.Proofs.YtadikpmecjjgjaaDoor
open Go.RowKit Go.BigFrame Go.Sort
set_option linter.unusedVariables false
set_option linter.unusedSimpArgs false

def IsRowT (w : World) (v : Value) (g o : Nat) (l : List ByteArray) : Prop := ∃ a n cap, v = .slice a n cap ∧ n ≤ 9223372036854775807 ∧ (n ≤ 1048576 → l.length = n ∧ SS w v g o l ∧ (0 < l.length → g < w.heap.size) ∧ ∀ t ∈ l, t.size ≤ 9223372036854775807)
theorem IsRowT.later {w w' : World} {v : Value} {g o : Nat} {l : List ByteArray} (h : IsRowT w v g o l) (hb : Below w.heap.size w w') : IsRowT w' v g o l := by
  obtain ⟨a, n, cap, hv, hn, hr⟩ := h
  exact ⟨a, n, cap, hv, hn, fun hl => ⟨(hr hl).1, (hr hl).2.1.below hb (hr hl).2.2.1, fun h => Nat.lt_of_lt_of_le ((hr hl).2.2.1 h) hb.size, (hr hl).2.2.2⟩⟩
theorem rowT_of {w : World} {a : Option Addr} {len cap : Nat} {z : List ByteArray} (h : IsRowS w a len cap z) : ∃ g o l, IsRowT w (.slice a len cap) g o l := by
  have hm := h.len
  unfold maxLen at hm
  by_cases hl : len ≤ 1048576
  · obtain ⟨g, o, l, h1, h2, h3⟩ := ss_of_row h hl
    exact ⟨g, o, l, a, len, cap, rfl, by omega, fun _ => ⟨h1, h2, h2.lt, fun t ht => by have := h3 t ht; unfold maxLen at this; omega⟩⟩
  · exact ⟨0, 0, [], a, len, cap, rfl, by omega, fun h => absurd h hl⟩

def SzT (l : List ByteArray) (x0 : Int) (w : World) (x i : Value) (wr : World) : Prop := ∃ (m : Nat) (y : Int), m ≤ l.length ∧ i = .int .i64 m ∧ x = .int .i64 y ∧ 0 ≤ y ∧ y ≤ x0 ∧ Hid (∀ j (h : j < l.length), j < m → l[j].size ≤ 1048576) ∧ wr = w

set_option maxRecDepth 100000 in
set_option maxHeartbeats 400000 in
theorem szStringS_row (v : Value) (g o : Nat) (l : List ByteArray) (x : Int) (w : World) (hv : IsRowT w v g o l) (h0 : 0 ≤ x) (h1 : x ≤ 1048576) :
    Calls Tryd.prog 20 #[v, .int .i64 x] w fun e w' => ∃ A : Int, e = .returned (.int .i64 A) ∧ w' = w ∧ A ≤ x ∧ (0 ≤ A → SS w v g o l ∧ (0 < l.length → g < w.heap.size) ∧ (∀ t ∈ l, t.size ≤ 1048576) ∧ l.length ≤ 1048576) := by
  obtain ⟨a, n, cap, rfl, hn, hr⟩ := hv
  by_cases hbig : x < (n : Int)
  · have q : x - (n : Int) < 0 := by omega
    go_enter Tryd.func20, Tryd.ntmps20
    go_wp2
    go_ret
    exact ⟨_, rfl, rfl, by omega, fun h => by omega⟩
  obtain ⟨hln, hrs, hgl, hsz⟩ := hr (by omega)
  have HRS : Hid (SS w (.slice a n cap) g o l ∧ (0 < l.length → g < w.heap.size)) := ⟨hrs, hgl⟩
  have HSZ : Hid (∀ t ∈ l, t.size ≤ 9223372036854775807) := hsz
  have HLN : Hid (l.length = n) := hln
  obtain ⟨a', c', ev, _, hA, hc⟩ := hrs
  have HC : Hid (∀ j (h : j < l.length), w.cell? ⟨g, o + j, none⟩ = some (.string l[j])) := hc
  have HA : Hid (0 < n → a = some ⟨g, o, none⟩) := fun h => by
    have := hA (by omega)
    simp at ev
    rw [ev.1, this]
  clear hr hA hsz ev hc hgl
  have q : ¬ x - (n : Int) < 0 := by omega
  go_enter Tryd.func20, Tryd.ntmps20
  go_wp2
  go_loopw [1, 5] (fun y i wr => SzT l (x - (n : Int)) w y i wr) (fun _ i _ => n - (intOf i).toNat)
  case atStart => exact ⟨0, x - (n : Int), by omega, rfl, by go_num, by omega, by omega, fun j _ h => by omega, rfl⟩
  case round =>
    obtain ⟨m, y, hm, rfl, rfl, hy0, hy1, HJ, rfl⟩ := hrel
    by_cases hlt : m < n
    · have ea := HA.out (by omega)
      subst ea
      have c0 := HC.out m (by omega)
      obtain ⟨X, hX⟩ : ∃ X, l[m]'(by omega) = X := ⟨_, rfl⟩
      rw [hX] at c0
      have hxs := HSZ.out X (by rw [← hX]; exact List.getElem_mem _)
      have HX : Hid (l[m]'(by omega) = X) := hX
      have i1 : (m : Int) < (n : Int) := by omega
      have i2 : (0 : Int) ≤ (m : Int) := by omega
      clear hX HSZ HA HRS HC
      by_cases hneg : y - (X.size : Int) < 0
      · clear HJ HX
        go_wp2
        try rw [Exit.noGoto_ret]
        go_ret
        exact ⟨_, rfl, rfl, by omega, fun h => by omega⟩
      · have HX2 : Hid (X.size ≤ 1048576) := by show X.size ≤ 1048576; omega
        go_wp2
        go_roundw
        case rel =>
          refine ⟨m + 1, y - (X.size : Int), by omega, by go_num, by go_num, by omega, by omega, ?_, rfl⟩
          intro j hj hjl
          rcases Nat.lt_or_ge j m with h3 | h3
          · exact HJ.out j hj h3
          · have : j = m := by omega
            subst this
            rw [HX.out]
            exact HX2.out
        case measure => simp [intOf]; omega
    · have hme : m = n := by omega
      have HF : Hid (SS wr (.slice a n cap) g o l ∧ (0 < l.length → g < wr.heap.size) ∧ (∀ t ∈ l, t.size ≤ 1048576) ∧ l.length ≤ 1048576) := ⟨HRS.out.1, HRS.out.2, fun f hf => by
        obtain ⟨j, hj, rfl⟩ := List.getElem_of_mem hf
        exact HJ.out j hj (by omega), by omega⟩
      subst hme
      clear HJ HA HRS HSZ HC
      go_wp2
      go_ret
      exact ⟨_, rfl, rfl, by omega, fun _ => HF.out⟩

end Go.Proofs.YtadikpmecjjgjaaDoor
/-
  The walk of the law FnExactAnewActs: it answers true of every disk, every name and every row of texts.
-/
namespace Go.Proofs.YtadikpmecjjgjaaDoor
open Go.RowKit Go.BigFrame Go.Sort
set_option linter.unusedVariables false
set_option linter.unusedSimpArgs false

/-- what the law holds: the disk handed in, the copies, the two answers -/
theorem TS.shape' {w : World} {v : Value} {g : Nat} {l : List ByteArray} (h : TS w v g l) : ∃ a c, v = .slice a l.length c := by
  obtain ⟨a, c, hv, _⟩ := h
  exact ⟨a, c, hv⟩
def AnS (w W : World) (va : Value) (px : Nat) (sx : Value) (gx : Nat) (L : List Fl) (q2 : Value) (g2 : Nat) (l : List ByteArray) (vW : Value) (gW : Nat) (vG : Value) (gG : Nat) (M N : List Ac) : Prop :=
  BD W w.heap.size 30 va ∧ Below w.heap.size w W ∧ XD W px sx gx L ∧ TS W q2 g2 l ∧ RW 4 acs W vW gW M ∧ RW 4 acs W vG gG N
theorem AnS.later {w W W' : World} {va : Value} {px : Nat} {sx : Value} {gx : Nat} {L : List Fl} {q2 : Value} {g2 : Nat} {l : List ByteArray} {vW : Value} {gW : Nat} {vG : Value} {gG : Nat} {M N : List Ac} (h : AnS w W va px sx gx L q2 g2 l vW gW vG gG M N) (hb : Below W.heap.size W W') : AnS w W' va px sx gx L q2 g2 l vW gW vG gG M N :=
  ⟨h.1.later hb, h.2.1.trans (hb.mono h.2.1.size), h.2.2.1.later hb, h.2.2.2.1.later hb, h.2.2.2.2.1.later hb, h.2.2.2.2.2.later hb⟩

set_option maxRecDepth 100000 in
set_option maxHeartbeats 4000000 in
theorem anewLaw_row (v : Value) (g o : Nat) (L : List Fl) (x : ByteArray) (q : Value) (gq oq : Nat) (l : List ByteArray) (w : World) (hv : IsRowF w v g o L) (hx0 : x.size ≤ maxLen) (hq : IsRowT w q gq oq l) (hT : Tab w) (hE : Eh w) :
    Calls Tryd.prog 5 #[.agg #[v], .string x, q] w fun e w' => e = .returned (.bool true) ∧ Below w.heap.size w w' := by
  unfold maxLen at hx0
  have hB : Below w.heap.size w (w.alloc (.cells #[v] 30)) := (Below.refl _ _).alloc (Nat.le_refl _) _
  have HSZ := szDisk_row v g o L 1048576 _ (hv.later hB) (by omega) (by omega)
  have HB : Hid (Below w.heap.size w (w.alloc (.cells #[v] 30)) ∧ BD (w.alloc (.cells #[v] 30)) w.heap.size 30 v) := ⟨hB, BD.new w _ _⟩
  have hsv : ∃ a n cap, v = .slice a n cap := by obtain ⟨a, n, cap, h, _⟩ := hv; exact ⟨a, n, cap, h⟩
  have hsq : ∃ a n cap, q = .slice a n cap := by obtain ⟨a, n, cap, h, _⟩ := hq; exact ⟨a, n, cap, h⟩
  have HR : Hid (IsRowF w v g o L) := hv
  have HRQ : Hid (IsRowT w q gq oq l) := hq
  obtain ⟨a, n, cap, rfl⟩ := hsv
  obtain ⟨aq, nq, cq, rfl⟩ := hsq
  clear hv hB hq
  by_cases hx : 1048576 < x.size
  · have hb9 := HB.out.1
    clear HSZ HB HR HRQ hT hE
    go_enter Tryd.func5, Tryd.ntmps5
    go_wp2
    go_ret
    exact ⟨rfl, hb9⟩
  have HTE : Hid (Tab w ∧ Eh w) := ⟨hT, hE⟩
  clear hT hE
  go_enter Tryd.func5, Tryd.ntmps5
  go_wp2_with fail
  refine HSZ.mono ?_
  rintro e w1 ⟨A, rfl, hb1, hAx, hA⟩
  have b1 := HB.out.1.trans (hb1.mono HB.out.1.size)
  by_cases hneg : A < 0
  · clear hA HSZ HR HRQ HB HTE
    go_wp2
    go_ret
    exact ⟨rfl, b1⟩
  obtain ⟨hrs, hsm, hlen⟩ := hA (by omega)
  go_wp2_with fail
  refine (szStringS_row _ gq oq l A w1 (HRQ.out.later b1) (by omega) (by omega)).mono ?_
  rintro e w1' ⟨A2, rfl, rfl, hA2x, hA2⟩
  by_cases hneg2 : A2 < 0
  · clear hA hA2 HSZ HR HRQ HB HTE hrs
    go_wp2
    go_ret
    exact ⟨rfl, b1⟩
  obtain ⟨_, _, hlz, hll⟩ := hA2 (by omega)
  have HTO : Hid (∀ W, Below w.heap.size w W → Calls Tryd.prog 13 #[.agg #[.slice a n cap]] W fun e w' => ∃ u, e = .returned u ∧ DkIn w' W.heap.size u L ∧ Below W.heap.size W w') := fun W hW => by
    obtain ⟨a', n', c', ev, _, hr⟩ := HR.out
    obtain ⟨a2, c2, ev2⟩ := hrs.shape
    have hn : n' = L.length := by rw [ev] at ev2; simp at ev2; exact ev2.2.1
    exact toDisk_any _ g o L W ((hr (by omega)).2.1.later hW)
  obtain ⟨hssw, hnq⟩ : (SS w (.slice aq nq cq) gq oq l ∧ (0 < l.length → gq < w.heap.size)) ∧ nq = l.length := by
    obtain ⟨a', n', c', ev, hn', hr⟩ := HRQ.out
    simp at ev
    have h5 := hA2 (by omega)
    obtain ⟨b', d', ev2, _⟩ := h5.1
    simp at ev2
    have h6 := hr (by omega)
    exact ⟨⟨h6.2.1, h6.2.2.1⟩, by omega⟩
  have HTS : Hid (∀ W, Below w.heap.size w W → Calls Tryd.prog 22 #[.slice aq nq cq] W fun e w' => ∃ s g, e = .returned s ∧ TS w' s g l ∧ W.heap.size ≤ g ∧ Below W.heap.size W w') := fun W hW => by
    refine (toStringS_any _ gq oq l W (hssw.1.below hW hssw.2) (fun h => Nat.lt_of_lt_of_le (hssw.2 h) hW.size)).mono ?_
    rintro e w' ⟨g', rfl, h1, h2, h3⟩
    exact ⟨_, g', rfl, h2.ts _ _ rfl (by omega), h1, h3⟩
  have HX1 : Hid (BD w1' w.heap.size 30 (.slice a n cap) ∧ Below w.heap.size w w1') := ⟨HB.out.2.later hb1, b1⟩
  have hL2 : L.length ≤ 1048576 := hlen
  have hML := anA_len L x l
  have HSP : Hid (∀ W s ga qs gs, RS 3 fcs W s ga 0 L → TS W qs gs l → Calls Tryd.prog 21 #[.agg #[s], .string x, qs] W (AcP W (anA L x l) (anB L x l))) := fun W s ga qs gs h1 h2 => sAnewActs_any s ga 0 L x qs gs 0 l W h1 (by omega) h2.ss h2.lt hlz
  have HIM : Hid (∀ W s ga qs gs, Below w.heap.size w W → RS 3 fcs W s ga 0 L → TS W qs gs l → Calls Tryd.prog 23 #[.agg #[s], .string x, qs] W (AcP W (anA L x l) (anB L x l))) := fun W s ga qs gs hW h1 h2 => AnewActs_any s ga 0 L x qs gs 0 l W h1 hsm (by omega) h2.ss h2.lt hlz (HTE.out.1.later hW HTE.out.1.pos) (HTE.out.2.later hW)
  generalize anA L x l = M at *
  generalize anB L x l = R at *
  clear hrs hA hA2 HSZ HR HRQ HB hb1 b1 HTE hssw hnq hlz hsm
  have c1 := HX1.out.1.cell
  -- the specification's answer
  go_wp2_with fail
  refine (HTO.out _ HX1.out.2).mono ?_
  rintro e w2 ⟨u, rfl, hu, hb2⟩
  obtain ⟨a2, c2, p2, rfl, hr2, _, _⟩ := hu.open'
  have b2 := HX1.out.2.trans (hb2.mono HX1.out.2.size)
  have HX2 : Hid (BD w2 w.heap.size 30 (.slice a n cap) ∧ Below w.heap.size w w2 ∧ RS 3 fcs w2 (.slice a2 L.length c2) p2 0 L) := ⟨HX1.out.1.later hb2, b2, hr2.1⟩
  clear hu hb2 hr2 c1 HX1 b2
  go_wp2_with fail
  refine (HTS.out _ HX2.out.2.1).mono ?_
  rintro e w3 ⟨s3, g3, rfl, hi3, _, hb3⟩
  obtain ⟨a3, c3, hs3⟩ := hi3.shape'
  subst hs3
  have HX3 : Hid (BD w3 w.heap.size 30 (.slice a n cap) ∧ Below w.heap.size w w3 ∧ RS 3 fcs w3 (.slice a2 L.length c2) p2 0 L ∧ TS w3 (.slice a3 l.length c3) g3 l) := ⟨HX2.out.1.later hb3, HX2.out.2.1.trans (hb3.mono HX2.out.2.1.size), HX2.out.2.2.later hb3, hi3⟩
  clear hi3 hb3 HX2
  go_wp2_with fail
  refine (HSP.out _ _ p2 _ g3 HX3.out.2.2.1 HX3.out.2.2.2).mono ?_
  rintro e w4 ⟨vW, gW, rfl, hW4, _, hb4⟩
  have b4 := HX3.out.2.1.trans (hb4.mono HX3.out.2.1.size)
  have HX4 : Hid (BD w4 w.heap.size 30 (.slice a n cap) ∧ Below w.heap.size w w4 ∧ RW 4 acs w4 vW gW M) := ⟨HX3.out.1.later hb4, b4, hW4⟩
  clear hW4 hb4 HX3 b4
  have c4' := HX4.out.1.cell
  -- the arguments, anew
  go_wp2_with fail
  refine (HTO.out _ HX4.out.2.1).mono ?_
  rintro e w5 ⟨u, rfl, hu, hb5⟩
  obtain ⟨a5, c5, p5, rfl, hr5, hp5, hl5⟩ := hu.open'
  have b5 := HX4.out.2.1.trans (hb5.mono HX4.out.2.1.size)
  have hA5 : Below w5.heap.size w5 (w5.alloc (.cells #[.slice a5 L.length c5] 36)) := (Below.refl _ _).alloc (Nat.le_refl _) _
  have HX5 : Hid (BD (w5.alloc (.cells #[.slice a5 L.length c5] 36)) w.heap.size 30 (.slice a n cap) ∧ Below w.heap.size w (w5.alloc (.cells #[.slice a5 L.length c5] 36)) ∧ XD (w5.alloc (.cells #[.slice a5 L.length c5] 36)) w5.heap.size (.slice a5 L.length c5) p5 L ∧ RW 4 acs (w5.alloc (.cells #[.slice a5 L.length c5] 36)) vW gW M) := ⟨(HX4.out.1.later hb5).later hA5, b5.trans (hA5.mono b5.size), XD.new hr5, (HX4.out.2.2.later hb5).later hA5⟩
  have HP5 : Hid ((0 < M.length → gW < w4.heap.size) ∧ w4.heap.size ≤ p5 ∧ (0 < L.length → p5 < w5.heap.size) ∧ w.heap.size < w4.heap.size ∧ w4.heap.size ≤ w5.heap.size) := ⟨HX4.out.2.2.lt, hp5, hl5, HX4.out.1.lt, hb5.size⟩
  clear hu hb5 hr5 b5 hA5 HX4 hp5 hl5 c4'
  go_wp2_with fail
  refine (HTS.out _ HX5.out.2.1).mono ?_
  rintro e w6 ⟨s6, g6, rfl, hi6, hg6, hb6⟩
  have hg6' : w5.heap.size + 1 ≤ g6 := by simpa using hg6
  have hs6 : w5.heap.size + 1 ≤ w6.heap.size := by have := hb6.size; simpa using this
  obtain ⟨a6, c6, hs6e⟩ := hi6.shape'
  subst hs6e
  have HX6 : Hid (BD w6 w.heap.size 30 (.slice a n cap) ∧ Below w.heap.size w w6 ∧ XD w6 w5.heap.size (.slice a5 L.length c5) p5 L ∧ RW 4 acs w6 vW gW M ∧ TS w6 (.slice a6 l.length c6) g6 l) := ⟨HX5.out.1.later hb6, HX5.out.2.1.trans (hb6.mono HX5.out.2.1.size), HX5.out.2.2.1.later hb6, HX5.out.2.2.2.later hb6, hi6⟩
  have HP6 : Hid (w5.heap.size + 1 ≤ g6 ∧ w5.heap.size + 1 ≤ w6.heap.size ∧ (0 < l.length → g6 < w6.heap.size)) := ⟨hg6', hs6, hi6.lt⟩
  clear hb6 HX5 hi6 hg6 hg6' hs6
  have c6' := HX6.out.2.2.1.1.cell
  -- the program's answer
  go_wp2_with fail
  refine (HIM.out _ _ p5 _ g6 HX6.out.2.1 HX6.out.2.2.1.2.1 HX6.out.2.2.2.2).mono ?_
  rintro e w7 ⟨vG, gG, rfl, hG7, hgB, hb7⟩
  have HS7 : Hid (AnS w w7 (.slice a n cap) w5.heap.size (.slice a5 L.length c5) p5 L (.slice a6 l.length c6) g6 l vW gW vG gG M M) := ⟨HX6.out.1.later hb7, HX6.out.2.1.trans (hb7.mono HX6.out.2.1.size), HX6.out.2.2.1.later hb7, HX6.out.2.2.2.2.later hb7, HX6.out.2.2.2.1.later hb7, hG7⟩
  have HP7 : Hid (w6.heap.size ≤ gG) := hgB
  clear hG7 hgB hb7 HX6 c6'
  go_wp2_with fail
  refine (eqActS_yes vG vW gG 0 gW 0 M _ HS7.out.2.2.2.2.2.1 HS7.out.2.2.2.2.1.1).mono ?_
  rintro e w8 ⟨rfl, hb8⟩
  have HS8 : Hid (AnS w w8 (.slice a n cap) w5.heap.size (.slice a5 L.length c5) p5 L (.slice a6 l.length c6) g6 l vW gW vG gG M M) := HS7.out.later hb8
  clear HS7 hb8
  have d0 := HS8.out.1.cell
  have d1 := HS8.out.2.2.1.1.cell
  have HK : Hid (∀ W, Below w8.heap.size w8 W → W.cell? ⟨w.heap.size, 0, none⟩ = some (.slice a n cap) ∧ W.cell? ⟨w5.heap.size, 0, none⟩ = some (.slice a5 L.length c5)) := fun W hW => ⟨(HS8.out.1.later hW).cell, (HS8.out.2.2.1.1.later hW).cell⟩
  go_wp2
  go_region_held3 (fun W => W.cell? ⟨w.heap.size, 0, none⟩ = some (.slice a n cap) ∧ W.cell? ⟨w5.heap.size, 0, none⟩ = some (.slice a5 L.length c5)) (first | go_keep | exact HK.out _ hb10 | exact HK.out _ hb9) ((first | (go_at_call 13; refine (HTO.out _ HS8.out.2.1.drew).mono ?_; rintro e w9 ⟨u9, rfl, hu9, hb9'⟩; obtain ⟨a9, c9, p9, rfl, hr9, _, _⟩ := hu9.open'; have hb9 : Below w8.heap.size w8 w9 := (Below.refl w8.heap.size w8).drew.trans hb9') | (go_at_call 16; refine (eqDisk_yes _ _ p5 0 p9 0 L _ (HS8.out.2.2.1.later hb9).2.1 hr9.1).mono ?_; rintro e w10 ⟨rfl, hb10'⟩; have hb10 : Below w8.heap.size w8 w10 := hb9.trans (hb10'.mono hb9.size))))
  have HS10 : Hid (AnS w w10 (.slice a n cap) w5.heap.size (.slice a5 L.length c5) p5 L (.slice a6 l.length c6) g6 l vW gW vG gG M M) := HS8.out.later hb10
  clear HS8 hb10 hb10' hb9 hb9' hr9 hu9 HK d0 d1
  go_wp2_with fail
  refine (HTS.out _ HS10.out.2.1).mono ?_
  rintro e w11 ⟨s11, g11, rfl, hi11, _, hb11⟩
  have HS11 : Hid (AnS w w11 (.slice a n cap) w5.heap.size (.slice a5 L.length c5) p5 L (.slice a6 l.length c6) g6 l vW gW vG gG M M ∧ TS w11 s11 g11 l) := ⟨HS10.out.later hb11, hi11⟩
  clear HS10 hb11 hi11
  go_wp2_with fail
  refine (eqStringS_yes _ _ g6 0 g11 0 l _ HS11.out.1.2.2.2.1.ss HS11.out.2.ss).mono ?_
  rintro e w12 ⟨rfl, q12, rfl⟩
  have HS12 : Hid (AnS w (w11.drewN q12) (.slice a n cap) w5.heap.size (.slice a5 L.length c5) p5 L (.slice a6 l.length c6) g6 l vW gW vG gG M M) := HS11.out.1.later (below_drn (Below.refl _ _) q12)
  clear HS11
  generalize w11.drewN q12 = w13 at *
  have cx := HS12.out.2.2.1.1.cell
  -- the arguments are written over
  go_wp2_with fail
  refine (markDisk_any _ p5 L 1 1 _ rfl HS12.out.2.2.1.2 (by omega) (by omega)).mono ?_
  rintro e w14 ⟨rfl, _, hg14⟩
  have HS14 : Hid (BD w14 w.heap.size 30 (.slice a n cap) ∧ Below w.heap.size w w14 ∧ TS w14 (.slice a6 l.length c6) g6 l ∧ RW 4 acs w14 vW gW M ∧ RW 4 acs w14 vG gG M) := by
    obtain ⟨q1, q2, q3, q4, q5⟩ := HP5.out
    obtain ⟨r1, r2, r3⟩ := HP6.out
    have r4 := HP7.out
    obtain ⟨h1, h2, h3, h4, h5, h6⟩ := HS12.out
    exact ⟨h1.grown hg14 (rowF_ne (fun _ => by omega)), h2.grown hg14 h2.size (rowF_le (by omega)), h4.keptG hg14 (fun h => rowF_ne (fun h' => by have := q3 h'; omega)), h5.grown hg14 (fun h => rowF_ne (fun _ => by have := q1 h; omega)), h6.grown hg14 (fun h => rowF_ne (fun h' => by have := q3 h'; omega))⟩
  clear HS12 hg14 cx
  obtain ⟨K1, hK1⟩ : ∃ K1 : Nat, 1 + 3 * L.length = K1 := ⟨_, rfl⟩
  rw [hK1]
  have hk1 : 0 < K1 ∧ K1 ≤ 10000000 := by omega
  clear hK1
  go_wp2_with fail
  refine (markStringS_any _ g6 l _ K1 _ rfl HS14.out.2.2.1 hk1.1 hk1.2).mono ?_
  rintro e w15 ⟨rfl, _, hg15⟩
  have HS15 : Hid (BD w15 w.heap.size 30 (.slice a n cap) ∧ Below w.heap.size w w15 ∧ RW 4 acs w15 vW gW M ∧ RW 4 acs w15 vG gG M) := by
    obtain ⟨q1, q2, q3, q4, q5⟩ := HP5.out
    obtain ⟨r1, r2, r3⟩ := HP6.out
    have r4 := HP7.out
    obtain ⟨h1, h2, h3, h4, h5⟩ := HS14.out
    have hr : ∀ k, rowOf g6 l = some k → k = g6 ∧ 0 < l.length := fun k hk => by
      unfold rowOf at hk
      split at hk
      · simp at hk
      · rename_i hne
        simp at hk
        exact ⟨hk.symm, by cases l with | nil => simp at hne | cons => simp⟩
    refine ⟨h1.grown hg15 (fun e => ?_), h2.grown hg15 h2.size (fun k hk => ?_), h4.grown hg15 (fun hm e => ?_), h5.grown hg15 (fun hm e => ?_)⟩
    · have := hr _ e.symm; omega
    · have := hr _ hk; omega
    · have := hr _ e.symm; have := q1 hm; omega
    · have h7 := hr _ e.symm; have := r3 h7.2; omega
  clear HS14 hg15
  obtain ⟨K2, hK2⟩ : ∃ K2 : Nat, K1 + l.length = K2 := ⟨_, rfl⟩
  rw [hK2]
  have hk0 : ¬ ((K2 : Int) < 0) := by omega
  clear hK2 hk1
  go_wp2_with fail
  refine (eqActS_yes vG vW gG 0 gW 0 M _ HS15.out.2.2.2.1 HS15.out.2.2.1.1).mono ?_
  rintro e w16 ⟨rfl, hb16⟩
  have HS16 : Hid (BD w16 w.heap.size 30 (.slice a n cap) ∧ Below w.heap.size w w16 ∧ RW 4 acs w16 vW gW M ∧ RW 4 acs w16 vG gG M) := ⟨HS15.out.1.later hb16, HS15.out.2.1.trans (hb16.mono HS15.out.2.1.size), HS15.out.2.2.1.later hb16, HS15.out.2.2.2.later hb16⟩
  clear HS15 hb16
  -- the answer is written over
  go_wp2_with fail
  refine (markActS_full vG gG M 1 1 _ rfl HS16.out.2.2.2 (by omega) (by omega)).mono ?_
  rintro e w17 ⟨rfl, tG17, hg17⟩
  have HS17 : Hid (BD w17 w.heap.size 30 (.slice a n cap) ∧ Below w.heap.size w w17 ∧ RW 4 acs w17 vW gW M ∧ RW 4 acs w17 vG gG (amarks 1 M.length)) := by
    obtain ⟨q1, q2, q3, q4, q5⟩ := HP5.out
    obtain ⟨r1, r2, r3⟩ := HP6.out
    have r4 := HP7.out
    obtain ⟨h1, h2, h3, h4⟩ := HS16.out
    exact ⟨h1.grown hg17 (rowF_ne (fun _ => by omega)), h2.grown hg17 h2.size (rowF_le (by omega)), h3.grown hg17 (fun h => rowF_ne (fun _ => by have := q1 h; omega)), tG17⟩
  clear HS16 hg17 tG17
  go_wp2_with fail
  refine (heldActS_any vG gG 1 1 M.length _ rfl HS17.out.2.2.2.1 (by omega) (by omega)).mono ?_
  rintro e w18 ⟨rfl, hb18⟩
  have HS18 : Hid (BD w18 w.heap.size 30 (.slice a n cap) ∧ Below w.heap.size w w18 ∧ RW 4 acs w18 vW gW M ∧ RW 4 acs w18 vG gG (amarks 1 M.length)) := ⟨HS17.out.1.later hb18, HS17.out.2.1.trans (hb18.mono HS17.out.2.1.size), HS17.out.2.2.1.later hb18, HS17.out.2.2.2.later hb18⟩
  clear HS17 hb18
  have hne : ¬ (((1 + 4 * M.length : Nat) : Int) < 0) := by omega
  have c18 := HS18.out.1.cell
  -- another call
  go_wp2_with fail
  refine (HTO.out _ HS18.out.2.1).mono ?_
  rintro e w19 ⟨u, rfl, hu, hb19⟩
  obtain ⟨a19, c19, p19, rfl, hr19, _, _⟩ := hu.open'
  have HS19 : Hid (Below w.heap.size w w19 ∧ RW 4 acs w19 vW gW M ∧ RW 4 acs w19 vG gG (amarks 1 M.length) ∧ RS 3 fcs w19 (.slice a19 L.length c19) p19 0 L) := ⟨HS18.out.2.1.trans (hb19.mono HS18.out.2.1.size), HS18.out.2.2.1.later hb19, HS18.out.2.2.2.later hb19, hr19.1⟩
  clear HS18 hb19 hr19 hu c18
  go_wp2_with fail
  refine (HTS.out _ HS19.out.1).mono ?_
  rintro e w20 ⟨s20, g20, rfl, hi20, _, hb20⟩
  obtain ⟨a20, c20, hs20⟩ := hi20.shape'
  subst hs20
  have HS20 : Hid (Below w.heap.size w w20 ∧ RW 4 acs w20 vW gW M ∧ RW 4 acs w20 vG gG (amarks 1 M.length) ∧ RS 3 fcs w20 (.slice a19 L.length c19) p19 0 L ∧ TS w20 (.slice a20 l.length c20) g20 l) := ⟨HS19.out.1.trans (hb20.mono HS19.out.1.size), HS19.out.2.1.later hb20, HS19.out.2.2.1.later hb20, HS19.out.2.2.2.later hb20, hi20⟩
  clear HS19 hb20 hi20
  go_wp2_with fail
  refine (HIM.out _ _ p19 _ g20 HS20.out.1 HS20.out.2.2.2.1 HS20.out.2.2.2.2).mono ?_
  rintro e w21 ⟨vH, gH, rfl, hH21, _, hb21⟩
  have HS21 : Hid (Below w.heap.size w w21 ∧ RW 4 acs w21 vW gW M ∧ RW 4 acs w21 vG gG (amarks 1 M.length) ∧ RW 4 acs w21 vH gH M) := ⟨HS20.out.1.trans (hb21.mono HS20.out.1.size), HS20.out.2.1.later hb21, HS20.out.2.2.1.later hb21, hH21⟩
  clear HS20 hb21 hH21
  go_wp2_with fail
  refine (eqActS_yes vH vW gH 0 gW 0 M _ HS21.out.2.2.2.1 HS21.out.2.1.1).mono ?_
  rintro e w22 ⟨rfl, hb22⟩
  have HS22 : Hid (Below w.heap.size w w22 ∧ RW 4 acs w22 vG gG (amarks 1 M.length)) := ⟨HS21.out.1.trans (hb22.mono HS21.out.1.size), HS21.out.2.2.1.later hb22⟩
  clear HS21 hb22
  go_wp2_with fail
  refine (heldActS_any vG gG 1 1 M.length _ rfl HS22.out.2.1 (by omega) (by omega)).mono ?_
  rintro e w23 ⟨rfl, hb23⟩
  have b23 := HS22.out.1.trans (hb23.mono HS22.out.1.size)
  go_wp2
  go_ret
  exact ⟨rfl, b23⟩

theorem anewActsLaw_any (v : Value) (g o : Nat) (L : List Fl) (x : ByteArray) (a2 : Option Addr) (len2 cap2 : Nat) (z2 : List ByteArray) (w : World) (h : IsRowF w v g o L) (hx : x.size ≤ maxLen) (w2 : IsRowS w a2 len2 cap2 z2) (hT : Tab w) (hE : Eh w) :
    Calls Tryd.prog 5 #[.agg #[v], .string x, .slice a2 len2 cap2] w fun e w' => e = .returned (.bool true) ∧ Below w.heap.size w w' := by
  obtain ⟨gq, oq, l, hq⟩ := rowT_of w2
  exact anewLaw_row v g o L x _ gq oq l w h hx hq hT hE

end Go.Proofs.YtadikpmecjjgjaaDoor
