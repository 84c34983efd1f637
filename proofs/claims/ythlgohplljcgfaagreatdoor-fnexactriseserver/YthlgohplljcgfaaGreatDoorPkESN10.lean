/-
  Texts laid together: Ll, Ysz, Ysm, Jb.
-/
import Derived.Test.YthlgohplljcgfaaGreatDoorPkESN8
import Derived.Deep.RegionHeld3
import Derived.Test.YthlgohplljcgfaaGreatDoorPkESN9
import Derived.Test.YthlgohplljcgfaaGreatDoorPkESN7
import Derived.Lib.QuietBelow
/-
  The walk of the law FnExactLeavesOk: it answers true of every row of leaves.
-/
namespace Go.Proofs.YthlgohplljcgfaaGreatDoor
open Go.RowKit Go.BigFrame Go.Sort
set_option linter.unusedVariables false
set_option linter.unusedSimpArgs false

/-- a row answered: it may be written, and lies in blocks from B on -/
def LvIn (w : World) (B : Nat) (v : Value) (l : List Le) : Prop := ∃ a c g, v = .slice a l.length c ∧ RW 2 lcs w v g l ∧ B ≤ g

theorem toLeafS_in (v : Value) (ga oa : Nat) (l : List Le) (w : World) (hv : RS 2 lcs w v ga oa l) :
    Calls Tryz.prog 91 #[v] w fun e w' => ∃ g, e = .returned (.slice (some ⟨g, 0, none⟩) l.length l.length) ∧ RW 2 lcs w' (.slice (some ⟨g, 0, none⟩) l.length l.length) g l ∧ w.heap.size ≤ g ∧ Below w.heap.size w w' :=
  (toLeafS_any v ga oa l w hv).mono fun e w' ⟨g, he, hg, hrw, _, hb⟩ => ⟨g, he, hrw, hg, hb⟩

/-- what a law knows of its row, in every world above -/
def LvA (w : World) (v : Value) (g o : Nat) (l : List Le) : Prop := RS 2 lcs w v g o l ∧ SmallL l

end Go.Proofs.YthlgohplljcgfaaGreatDoor
/-
  What the laws' own helpers do with rows of rows of leaves: weighed, taken over, compared, marked.
-/
namespace Go.Proofs.YthlgohplljcgfaaGreatDoor
open Go.RowKit Go.BigFrame Go.Sort
set_option linter.unusedVariables false
set_option linter.unusedSimpArgs false

set_option maxRecDepth 100000 in
set_option maxHeartbeats 400000 in
theorem szLeafS_sum (v : Value) (g o : Nat) (l : List Le) (x : Int) (w : World) (hv : IsRowL w v g o l) (h0 : 0 ≤ x) (h1 : x ≤ 1048576) :
    Calls Tryz.prog 89 #[v, .int .i64 x] w fun e w' => ∃ A : Int, e = .returned (.int .i64 A) ∧ Below w.heap.size w w' ∧ A ≤ x ∧ (0 ≤ A → RS 2 lcs w v g o l ∧ SmallL l ∧ A + (l.length : Int) ≤ x) := by
  obtain ⟨a, n, cap, rfl, hn, hr⟩ := hv
  by_cases hbig : x < (n : Int)
  · have q : x - (n : Int) < 0 := by omega
    go_enter Tryz.func89, Tryz.ntmps89
    go_wp2
    go_ret
    exact ⟨_, rfl, Below.refl _ _, by omega, fun h => by omega⟩
  obtain ⟨hln, hrs, hsz⟩ := hr (by omega)
  have HRS : Hid (RS 2 lcs w (.slice a n cap) g o l) := hrs
  have HSZ : Hid (∀ f ∈ l, f.n.size ≤ 9223372036854775807 ∧ f.v.size ≤ 9223372036854775807) := hsz
  have HLN : Hid (l.length = n) := hln
  obtain ⟨a', c', ev, _, hA, _⟩ := hrs
  have HA : Hid (0 < n → a = some ⟨g, o, none⟩) := fun h => by
    have := (hA (by omega)).1
    simp at ev
    rw [ev.1, this]
  clear hr hA hsz ev
  have q : ¬ x - (n : Int) < 0 := by omega
  go_enter Tryz.func89, Tryz.ntmps89
  go_wp2
  go_loopw [1, 5] (fun y i wr => SzL l (x - (n : Int)) w y i wr) (fun _ i _ => n - (intOf i).toNat)
  case atStart => exact ⟨0, x - (n : Int), by omega, rfl, by go_num, by omega, by omega, fun j _ h => by omega, Below.refl _ _⟩
  case round =>
    obtain ⟨m, y, hm, rfl, rfl, hy0, hy1, HJ, hbel⟩ := hrel
    by_cases hlt : m < n
    · have ea := HA.out (by omega)
      subst ea
      obtain ⟨c0, c1⟩ := (HRS.out.later hbel).leaf m (by omega)
      obtain ⟨X, hX⟩ : ∃ X, l[m]'(by omega) = X := ⟨_, rfl⟩
      rw [hX] at c0 c1
      have hxs := HSZ.out X (by rw [← hX]; exact List.getElem_mem _)
      have HX : Hid (l[m]'(by omega) = X) := hX
      have i1 : (m : Int) < (n : Int) := by omega
      have i2 : (0 : Int) ≤ (m : Int) := by omega
      clear hX HSZ HA HRS
      go_wp2_with fail
      refine (szLeaf_any X y _ hy0 (by omega) hxs.1 hxs.2).mono ?_
      rintro e w1 ⟨A, rfl, hb1, hA1, hA2⟩
      have hbel1 := hbel.trans (hb1.mono hbel.size)
      have HA2 : Hid (0 ≤ A → X.n.size ≤ 1048576 ∧ X.v.size ≤ 1048576) := hA2
      clear hb1 hA2 c0 c1 hbel hxs
      by_cases hneg : A < 0
      · clear HJ HX HA2
        go_wp2
        try rw [Exit.noGoto_ret]
        go_ret
        exact ⟨_, rfl, hbel1, by omega, fun h => by omega⟩
      · go_wp2
        go_roundw
        case rel =>
          refine ⟨m + 1, A, by omega, by go_num, rfl, by omega, by omega, ?_, hbel1⟩
          intro j hj hjl
          rcases Nat.lt_or_ge j m with h3 | h3
          · exact HJ.out j hj h3
          · have : j = m := by omega
            subst this
            rw [HX.out]
            exact HA2.out (by omega)
        case measure => simp [intOf]; omega
    · have hme : m = n := by omega
      have HF : Hid (RS 2 lcs w (.slice a n cap) g o l ∧ SmallL l ∧ y + (l.length : Int) ≤ x) := ⟨HRS.out, fun f hf => by
        obtain ⟨j, hj, rfl⟩ := List.getElem_of_mem hf
        exact HJ.out j hj (by omega), by omega⟩
      subst hme
      clear HJ HA HRS HSZ
      go_wp2
      go_ret
      exact ⟨_, rfl, hbel, by omega, fun _ => HF.out⟩

/-- a row of rows of leaves that was handed in, great or small -/
def IsRowP (w : World) (v : Value) (g o : Nat) (Q : List (Value × Nat × Nat × List Le)) : Prop := ∃ a n cap, v = .slice a n cap ∧ n ≤ 9223372036854775807 ∧ (n ≤ 1100000 → Q.length = n ∧ (0 < n → a = some ⟨g, o, none⟩ ∧ g < w.heap.size) ∧ ∀ j (h : j < Q.length), w.cell? ⟨g, o + j, none⟩ = some Q[j].1 ∧ IsRowL w Q[j].1 Q[j].2.1 Q[j].2.2.1 Q[j].2.2.2)
/-- how many leaves all rows have -/
def flatN (P : List (List Le)) : Nat := P.flatten.length
def ofQ (Q : List (Value × Nat × Nat × List Le)) : List (List Le) := Q.map fun q => q.2.2.2
theorem ofQ_len (Q : List (Value × Nat × Nat × List Le)) : (ofQ Q).length = Q.length := by simp [ofQ]
theorem ofQ_at (Q : List (Value × Nat × Nat × List Le)) (j : Nat) (h : j < (ofQ Q).length) : (ofQ Q)[j] = (Q[j]'(by simpa [ofQ] using h)).2.2.2 := by simp [ofQ]

/-- the first m rows are small -/
def SzQ (w : World) (Q : List (Value × Nat × Nat × List Le)) (x0 : Int) (x i : Value) (wr : World) : Prop := ∃ (m : Nat) (y : Int), m ≤ Q.length ∧ i = .int .i64 m ∧ x = .int .i64 y ∧ 0 ≤ y ∧ y + (((ofQ Q).take m).flatten.length : Int) ≤ x0 ∧ Hid (∀ j (h : j < Q.length), j < m → RS 2 lcs w Q[j].1 Q[j].2.1 Q[j].2.2.1 Q[j].2.2.2 ∧ SmallL Q[j].2.2.2) ∧ Below w.heap.size w wr

set_option maxRecDepth 100000 in
set_option maxHeartbeats 1000000 in
theorem szLeafSS_row (v : Value) (g o : Nat) (Q : List (Value × Nat × Nat × List Le)) (x : Int) (w : World) (hv : IsRowP w v g o Q) (h0 : 0 ≤ x) (h1 : x ≤ 1048576) :
    Calls Tryz.prog 46 #[v, .int .i64 x] w fun e w' => ∃ A : Int, e = .returned (.int .i64 A) ∧ Below w.heap.size w w' ∧ A ≤ x ∧ (0 ≤ A → PS w v g o (ofQ Q) ∧ SmallP (ofQ Q) ∧ flatN (ofQ Q) ≤ 1048576) := by
  obtain ⟨a, n, cap, rfl, hn, hr⟩ := hv
  by_cases hbig : x < (n : Int)
  · have q : x - (n : Int) < 0 := by omega
    go_enter Tryz.func46, Tryz.ntmps46
    go_wp2
    go_ret
    exact ⟨_, rfl, Below.refl _ _, by omega, fun h => by omega⟩
  obtain ⟨hln, hA0, hsz⟩ := hr (by omega)
  have HLN : Hid (Q.length = n) := hln
  have HA : Hid (0 < n → a = some ⟨g, o, none⟩ ∧ g < w.heap.size) := hA0
  have HSZ : Hid (∀ j (h : j < Q.length), w.cell? ⟨g, o + j, none⟩ = some Q[j].1 ∧ IsRowL w Q[j].1 Q[j].2.1 Q[j].2.2.1 Q[j].2.2.2) := hsz
  have HST : Hid (SzQ w Q (x - (n : Int)) (.int .i64 (x - (n : Int))) (.int .i64 0) w) := ⟨0, x - (n : Int), by omega, rfl, rfl, by omega, by simp, fun j _ h => by omega, Below.refl _ _⟩
  clear hr hA0 hsz hln
  have q : ¬ x - (n : Int) < 0 := by omega
  go_enter Tryz.func46, Tryz.ntmps46
  go_wp2
  go_loopw [1, 5] (fun y i wr => SzQ w Q (x - (n : Int)) y i wr) (fun _ i _ => n - (intOf i).toNat)
  case atStart => exact HST.out
  case round =>
    obtain ⟨m, y, hm, rfl, rfl, hy0, hy1, HJ, hbel⟩ := hrel
    clear HST
    rw [HLN.out] at hm
    by_cases hlt : m < n
    · have hmQ : m < Q.length := by rw [HLN.out]; exact hlt
      obtain ⟨ea, hgw⟩ := HA.out (by omega)
      subst ea
      obtain ⟨c0, hR⟩ := HSZ.out m hmQ
      have c1 : wr.cell? ⟨g, o + m, none⟩ = some Q[m].1 := (hbel.cell (p := ⟨g, o + m, none⟩) hgw).trans c0
      have hst := congrArg List.length (parts_step (P := ofQ Q) (m := m) (by rw [ofQ_len]; exact hmQ))
      rw [List.length_append, ofQ_at] at hst
      have HX : Hid (∀ j (h : j < Q.length), j < m + 1 → (j = m → RS 2 lcs w Q[m].1 Q[m].2.1 Q[m].2.2.1 Q[m].2.2.2 ∧ SmallL Q[m].2.2.2) → RS 2 lcs w Q[j].1 Q[j].2.1 Q[j].2.2.1 Q[j].2.2.2 ∧ SmallL Q[j].2.2.2) := fun j hj hjm h => by
        rcases Nat.lt_or_ge j m with h3 | h3
        · exact HJ.out j hj h3
        · have : j = m := by omega
          subst this
          exact h rfl
      have hy1048 : y ≤ 1048576 := by omega
      have hcall := szLeafS_sum Q[m].1 Q[m].2.1 Q[m].2.2.1 Q[m].2.2.2 y wr (hR.later hbel) hy0 hy1048
      have HBK : Hid (RS 2 lcs wr Q[m].1 Q[m].2.1 Q[m].2.2.1 Q[m].2.2.2 → RS 2 lcs w Q[m].1 Q[m].2.1 Q[m].2.2.1 Q[m].2.2.2) := fun hrs => by
        obtain ⟨a', n', cap', ev, _, hr'⟩ := hR
        have hl1 : Q[m].2.2.2.length ≤ 1100000 := hrs.len
        obtain ⟨a2, c2, ev2, _, _, _⟩ := hrs
        rw [ev] at ev2
        have : n' = Q[m].2.2.2.length := by simp at ev2; exact ev2.2.1
        exact (hr' (by omega)).2.1
      generalize hq : Q[m] = qq at *
      obtain ⟨vq, gq, oq, lq⟩ := qq
      simp only at c1 hcall HX HBK hst
      have i1 : (m : Int) < (n : Int) := by omega
      have i2 : (0 : Int) ≤ (m : Int) := by omega
      clear c0 hR HSZ HJ
      go_wp2_with fail
      refine hcall.mono ?_
      rintro e w1 ⟨A, rfl, hb1, hA1, hA2⟩
      have hbel1 := hbel.trans (hb1.mono hbel.size)
      have HA2 : Hid (0 ≤ A → RS 2 lcs w vq gq oq lq ∧ SmallL lq ∧ A + (lq.length : Int) ≤ y) := fun h => ⟨HBK.out (hA2 h).1, (hA2 h).2⟩
      clear hb1 hA2 c1 hbel hcall HBK
      by_cases hneg : A < 0
      · clear HX HA2 hst
        go_wp2
        try rw [Exit.noGoto_ret]
        go_ret
        exact ⟨_, rfl, hbel1, by omega, fun h => by omega⟩
      · have hfin := HA2.out (by omega)
        have HK : Hid (SzQ w Q (x - (n : Int)) (.int .i64 A) (.int .i64 ((m : Int) + 1)) w1) := ⟨m + 1, A, by rw [HLN.out]; omega, by simp, rfl, by omega, by have := hfin.2.2; rw [hst]; omega, fun j hj hjm => HX.out j hj hjm (fun e => ⟨hfin.1, hfin.2.1⟩), hbel1⟩
        clear HX HA2 hst hfin
        go_wp2
        go_roundw
        case rel => exact HK.out
        case measure => simp [intOf]; omega
    · have hme : m = n := by omega
      have HF : Hid (PS w (.slice a n cap) g o (ofQ Q) ∧ SmallP (ofQ Q) ∧ flatN (ofQ Q) ≤ 1048576) := by
        refine ⟨⟨a, cap, by rw [ofQ_len, HLN.out], by rw [ofQ_len, HLN.out]; omega, fun hp => HA.out (by rw [ofQ_len, HLN.out] at hp; exact hp), fun j hj => ?_⟩, fun p hp => ?_, ?_⟩
        · have hjQ : j < Q.length := by rw [ofQ_len] at hj; exact hj
          obtain ⟨h2, h3⟩ := HJ.out j hjQ (by rw [HLN.out] at hjQ; omega)
          obtain ⟨aj, cj, ev⟩ := h2.shape
          refine ⟨aj, cj, Q[j].2.1, Q[j].2.2.1, ?_, ?_⟩
          · rw [ofQ_at, ← ev]
            exact (HSZ.out j hjQ).1
          · rw [ofQ_at, ← ev]
            exact h2
        · obtain ⟨j, hj, rfl⟩ := List.getElem_of_mem hp
          rw [ofQ_at]
          exact (HJ.out j (by rw [ofQ_len] at hj; exact hj) (by rw [ofQ_len, HLN.out] at hj; omega)).2
        · rw [List.take_of_length_le (by rw [ofQ_len, HLN.out]; omega)] at hy1
          show (ofQ Q).flatten.length ≤ 1048576
          omega
      have i1 : ¬ (m : Int) < (n : Int) := by omega
      have HYX : Hid (y ≤ x) := by have := Int.natCast_nonneg ((ofQ Q).take m).flatten.length; exact (by omega : y ≤ x)
      clear HJ HA HSZ
      go_wp2
      go_ret
      exact ⟨_, rfl, hbel, HYX.out, fun _ => HF.out⟩

/-- a row of new rows of leaves, each in a block of its own -/
def XW (B : Nat) (w : World) (go : Nat) (G : List Nat) (P : List (List Le)) : Prop := G.length = P.length ∧ P.length ≤ 1100000 ∧ B ≤ go ∧ go < w.heap.size ∧ G.Pairwise (· < ·) ∧
  (∀ b ∈ G, B ≤ b ∧ b < w.heap.size ∧ b ≠ go) ∧ ∀ j (h : j < P.length) (hG : j < G.length), w.cell? ⟨go, j, none⟩ = some (.slice (some ⟨G[j], 0, none⟩) P[j].length P[j].length) ∧ RW 2 lcs w (.slice (some ⟨G[j], 0, none⟩) P[j].length P[j].length) G[j] P[j]
theorem XW.later {B : Nat} {w w' : World} {go : Nat} {G : List Nat} {P : List (List Le)} (h : XW B w go G P) (hb : Below w.heap.size w w') : XW B w' go G P := by
  obtain ⟨h1, h2, h3, h4, h5, h6, h7⟩ := h
  refine ⟨h1, h2, h3, Nat.lt_of_lt_of_le h4 hb.size, h5, fun b hb' => ⟨(h6 b hb').1, Nat.lt_of_lt_of_le (h6 b hb').2.1 hb.size, (h6 b hb').2.2⟩, fun j hj hG => ⟨(hb.cell (p := ⟨go, j, none⟩) h4).trans (h7 j hj hG).1, (h7 j hj hG).2.later hb⟩⟩
theorem XW.ps {B : Nat} {w : World} {go n c : Nat} {G : List Nat} {P : List (List Le)} (h : XW B w go G P) (hn : P.length = n) : PS w (.slice (some ⟨go, 0, none⟩) n c) go 0 P := by
  obtain ⟨h1, h2, h3, h4, h5, h6, h7⟩ := h
  refine ⟨_, c, by rw [hn], h2, fun _ => ⟨rfl, h4⟩, fun j hj => ?_⟩
  have hG : j < G.length := by omega
  rw [Nat.zero_add]
  exact ⟨_, _, G[j], 0, (h7 j hj hG).1, (h7 j hj hG).2.1⟩

/-- m rows are taken over -/
def ToX (w : World) (P : List (List Le)) (go : Nat) (i : Value) (wr : World) : Prop := ∃ (m : Nat) (G : List Nat) (cur : Array Value), m ≤ P.length ∧ i = .int .i64 m ∧ Hid (XW w.heap.size wr go G (P.take m) ∧ wr.heap[go]? = some (.cells cur 59 (0, 0)) ∧ cur.size = P.length ∧ Below w.heap.size w wr)
theorem infoLsS : (Tryz.prog.info? 59).map (fun i => (i.zero, i.size, i.bytes)) = some (some (.slice none 0 0), 1, 24) := by kernel_rfl
theorem made_parts (n : Nat) (h : n ≤ 1100000) (W : World) : ∃ (w' : World) (cur : Array Value), (Instr.makeSlice 29 (.int .i64 (n : Int)) (.int .i64 (n : Int))).run Tryz.prog W = .ok (.slice (some ⟨W.heap.size, 0, none⟩) n n) w' ∧ w'.heap[W.heap.size]? = some (.cells cur 59 (0, 0)) ∧ cur.size = n ∧ Below W.heap.size W w' ∧ w'.heap.size = W.heap.size + 1 := by
  obtain ⟨i0, hi, hz0, hz1, hz2⟩ := info_parts infoLsS
  have h1 := run_make (P := Tryz.prog) W 29 59 i0 (.slice none 0 0) Tryz.underlying29 hi hz0 .i64 .i64 (n : Int) (n : Int) (by omega) (by omega) (by rw [hz2]; omega) (by omega)
  refine ⟨_, _, by simpa using h1, Go.heap_alloc_new W _, ?_, (Below.refl _ _).alloc (Nat.le_refl _) _, by simp⟩
  rw [size_madeCells, hz1]
  simp
theorem XW.add {B : Nat} {wr : World} {go m g : Nat} {G : List Nat} {P : List (List Le)} {cur : Array Value} (h : XW B wr go G (P.take m)) (hm : m < P.length) (hP : P.length ≤ 1100000) (hc : wr.heap[go]? = some (.cells cur 59 (0, 0))) (hs : cur.size = P.length) (hr : RW 2 lcs wr (.slice (some ⟨g, 0, none⟩) P[m].length P[m].length) g P[m]) (hg : B ≤ g ∧ g < wr.heap.size ∧ g ≠ go) (hlt : ∀ b ∈ G, b < g) :
    XW B (wr.setCell ⟨go, m, none⟩ (.slice (some ⟨g, 0, none⟩) P[m].length P[m].length)) go (G ++ [g]) (P.take (m + 1)) := by
  obtain ⟨h1, h2, h3, h4, h5, h6, h7⟩ := h
  have htl : (P.take m).length = m := by rw [List.length_take]; omega
  have htl1 : (P.take (m + 1)).length = m + 1 := by rw [List.length_take]; omega
  have hsz : (wr.setCell ⟨go, m, none⟩ (.slice (some ⟨g, 0, none⟩) P[m].length P[m].length)).heap.size = wr.heap.size := by simp
  have hoth : ∀ b, b ≠ go → (wr.setCell ⟨go, m, none⟩ (.slice (some ⟨g, 0, none⟩) P[m].length P[m].length)).heap[b]? = wr.heap[b]? := fun b hb => heap_setCell_other wr ⟨go, m, none⟩ b _ hb
  refine ⟨by rw [List.length_append, h1, htl, htl1]; rfl, by omega, h3, by rw [hsz]; exact h4, ?_, ?_, ?_⟩
  · rw [List.pairwise_append]
    exact ⟨h5, List.pairwise_singleton _ _, fun a ha b hb => by simp at hb; subst hb; exact hlt a ha⟩
  · intro b hb
    rw [hsz]
    rcases List.mem_append.1 hb with hb | hb
    · exact h6 b hb
    · simp at hb; subst hb; exact hg
  · intro j hj hG
    have hjm : j ≤ m := by omega
    have ePj : (P.take (m + 1))[j] = P[j]'(by omega) := by rw [List.getElem_take]
    rw [ePj]
    rcases Nat.lt_or_ge j m with h8 | h8
    · have eG : (G ++ [g])[j] = G[j]'(by omega) := List.getElem_append_left _
      have h9 := h7 j (by omega) (by omega)
      rw [List.getElem_take] at h9
      rw [eG]
      refine ⟨?_, h9.2.grown (grown_setC wr go m _) (fun _ => by simp; exact (h6 _ (List.getElem_mem _)).2.2)⟩
      rw [World.cell?_setCell_other _ _ _ _ (by simp <;> omega)]
      exact h9.1
    · have : j = m := by omega
      subst this
      have eG : (G ++ [g])[j] = g := by rw [List.getElem_append_right (by omega)]; simp [h1, htl]
      rw [eG]
      refine ⟨cell_set_same hc (by omega) _, hr.grown (grown_setC wr go j _) (fun _ => by simp; exact hg.2.2)⟩

set_option maxRecDepth 100000 in
set_option maxHeartbeats 1000000 in
theorem toLeafSS_any (v : Value) (g o : Nat) (P : List (List Le)) (w : World) (hv : PS w v g o P) :
    Calls Tryz.prog 50 #[v] w fun e w' => ∃ go G, e = .returned (.slice (some ⟨go, 0, none⟩) P.length P.length) ∧ XW w.heap.size w' go G P ∧ Below w.heap.size w w' := by
  have HV : Hid (PS w v g o P) := hv
  obtain ⟨a, cap, rfl, hl, hA, _⟩ := hv
  obtain ⟨n, hn⟩ : ∃ n, P.length = n := ⟨_, rfl⟩
  have HA : Hid (0 < n → a = some ⟨g, o, none⟩) := by rw [← hn]; exact fun h => (hA h).1
  have HN : Hid (P.length = n) := hn
  rw [hn] at hl HV ⊢
  obtain ⟨w2, cur, hmk, hcur, hcs, hb2, hs2⟩ := made_parts n hl w
  have HST : Hid (ToX w P w.heap.size (.int .i64 0) w2) := ⟨0, [], cur, by omega, rfl, ⟨rfl, by simp, Nat.le_refl _, by omega, List.Pairwise.nil, fun b hb => absurd hb (by simp), fun j hj => absurd hj (by simp)⟩, hcur, by rw [hcs, hn], hb2⟩
  clear hA hn hcur hcs hb2
  obtain ⟨go, hgo⟩ : ∃ go, w.heap.size = go := ⟨_, rfl⟩
  rw [hgo] at HST hmk
  go_enter Tryz.func50, Tryz.ntmps50
  go_wp2
  clear hmk
  go_loopw [4] (fun i wr => ToX w P go i wr) (fun i _ => n - (intOf i).toNat)
  case atStart => exact HST.out
  case round =>
    obtain ⟨m, G, cur, hm, rfl, HI⟩ := hrel
    clear HST
    rw [HN.out] at hm
    by_cases hlt : m < n
    · have ea := HA.out (by omega)
      subst ea
      have hmP : m < P.length := by rw [HN.out]; exact hlt
      have hbel := HI.out.2.2.2
      obtain ⟨aj, cj, gj, oj, c0, hrj⟩ := (HV.out.later hbel).at m hmP
      have i1 : (m : Int) < (n : Int) := by omega
      have i2 : (0 : Int) ≤ (m : Int) := by omega
      have hto := toLeafS_any _ gj oj P[m] wr hrj
      have HADD : Hid (∀ W q, Below wr.heap.size wr W → wr.heap.size ≤ q → q < W.heap.size → RW 2 lcs W (.slice (some ⟨q, 0, none⟩) P[m].length P[m].length) q P[m] → (∃ u, W.cell? ⟨go, m, none⟩ = some u) ∧ W.frozen? ⟨go, m, none⟩ = false ∧ ToX w P go (.int .i64 ((m : Int) + 1)) (W.setCell ⟨go, m, none⟩ (.slice (some ⟨q, 0, none⟩) P[m].length P[m].length))) := fun W q hW hq1 hq2 hr => by
        have hx := HI.out.1.later hW
        have hc := (hW.block go HI.out.1.2.2.2.1).trans HI.out.2.1
        have hgo' := HI.out.1.2.2.2.1
        have hbs := hbel.size
        refine ⟨⟨cur[m]'(by rw [HI.out.2.2.1]; exact hmP), ?_⟩, by simp [World.frozen?, hc], m + 1, G ++ [q], _, by omega, by simp, hx.add hmP (by rw [HN.out]; exact hl) hc HI.out.2.2.1 hr ⟨by omega, hq2, by omega⟩ (fun b hb => by have := (HI.out.1.2.2.2.2.2.1 b hb).2.1; omega), heap_setCell_same W go m cur _ _ hc, by simpa using HI.out.2.2.1, (hbel.trans (hW.mono hbel.size)).setCell (p := ⟨go, m, none⟩) (by show w.heap.size ≤ go; omega) _⟩
        rw [cell_of_row _ go m _ _ _ hc, Array.getElem?_eq_getElem]
      generalize P[m] = p at *
      generalize p.length = np at *
      clear HI hrj HV
      go_wp2_with fail
      refine hto.mono ?_
      rintro e w1 ⟨q1, rfl, hq1, hr1, hql1, hb1⟩
      obtain ⟨⟨u1, c1⟩, f1, hx1⟩ := HADD.out w1 q1 hb1 hq1 hql1 hr1
      have HK : Hid (ToX w P go (.int .i64 ((m : Int) + 1)) (w1.setCell ⟨go, m, none⟩ (.slice (some ⟨q1, 0, none⟩) np np))) := hx1
      clear hto HADD hx1 hb1 hr1
      go_wp2
      go_roundw
      case rel => exact HK.out
      case measure => simp [intOf]; omega
    · have hme : m = n := by omega
      have e : P.take m = P := List.take_of_length_le (by rw [HN.out]; omega)
      rw [e] at HI
      have HF : Hid (XW w.heap.size wr go G P ∧ Below w.heap.size w wr) := ⟨HI.out.1, HI.out.2.2.2⟩
      have i1 : ¬ (m : Int) < (n : Int) := by omega
      clear HI e HV
      go_wp2
      go_ret
      have h1 := HF.out
      rw [hgo] at h1
      exact ⟨go, rfl, ⟨G, h1.1⟩, h1.2⟩

end Go.Proofs.YthlgohplljcgfaaGreatDoor
/-
  Rows of rows of leaves compared and marked by the laws' own helpers.
-/
namespace Go.Proofs.YthlgohplljcgfaaGreatDoor
open Go.RowKit Go.BigFrame Go.Sort
set_option linter.unusedVariables false
set_option linter.unusedSimpArgs false

set_option maxRecDepth 100000 in
set_option maxHeartbeats 1000000 in
theorem eqLeafSS_yes (u v : Value) (ga oa gb ob : Nat) (P : List (List Le)) (w : World) (hu : PS w u ga oa P) (hv : PS w v gb ob P) :
    Calls Tryz.prog 35 #[u, v] w fun e w' => e = .returned (.bool true) ∧ Below w.heap.size w w' := by
  have HU : Hid (PS w u ga oa P) := hu
  have HV : Hid (PS w v gb ob P) := hv
  obtain ⟨a, cap, rfl, hl, hA, _⟩ := hu
  obtain ⟨b, cap2, rfl, _, hB, _⟩ := hv
  obtain ⟨n, hn⟩ : ∃ n, P.length = n := ⟨_, rfl⟩
  have HA : Hid (0 < n → a = some ⟨ga, oa, none⟩ ∧ b = some ⟨gb, ob, none⟩) := by rw [← hn]; exact fun h => ⟨(hA h).1, (hB h).1⟩
  have HN : Hid (P.length = n) := hn
  rw [hn] at hl HU HV ⊢
  clear hA hB hn
  go_enter Tryz.func35, Tryz.ntmps35
  go_wp2
  go_loopw [5] (fun i wr => ElR n w i wr) (fun i _ => n - (intOf i).toNat)
  case atStart => exact ⟨0, by omega, rfl, Below.refl _ _⟩
  case round =>
    obtain ⟨m, hm, rfl, hbel⟩ := hrel
    by_cases hlt : m < n
    · obtain ⟨ea, eb⟩ := HA.out (by omega)
      subst ea
      subst eb
      have hmP : m < P.length := by rw [HN.out]; exact hlt
      obtain ⟨a1, c1, g1, o1, d1, r1⟩ := (HU.out.later hbel).at m hmP
      obtain ⟨a2, c2, g2, o2, d2, r2⟩ := (HV.out.later hbel).at m hmP
      have he : ∀ W, Below wr.heap.size wr W → Calls Tryz.prog 82 #[.slice a1 P[m].length c1, .slice a2 P[m].length c2] W fun e w' => e = .returned (.bool true) ∧ Below W.heap.size W w' := fun W hW => eqLeafS_yes _ _ g1 o1 g2 o2 P[m] W (r1.later hW) (r2.later hW)
      have i1 : (m : Int) < (n : Int) := by omega
      have i2 : (0 : Int) ≤ (m : Int) := by omega
      generalize P[m] = p at *
      generalize p.length = np at *
      clear HU HV HA r1 r2
      go_wp2
      have kq0 := cell_regrown (w := wr) d1
      have kq1 := cell_regrown (w := wr) d2
      have cq0 := fun d os => Calls.regrown_of (w := wr) (d := d) (os := os) (he _ (below_regrown wr d os))
      refine wp_region_quiet_below (by kernel_rfl) (by kernel_rfl) ?_
      repeat (go_big_quiet_step (first | exact cq0 _ _))
      refine wpQuiet_nil ?_
      rintro _ ⟨⟨dq, osq⟩, rfl⟩
      have hb6 := below_regrown (wr) dq osq
      generalize grow (redrawn (wr) dq) osq = w6 at *
      clear kq0 kq1 cq0
      go_wp2
      go_roundw
      case rel => exact ⟨m + 1, by omega, by go_num, hbel.trans (hb6.mono hbel.size)⟩
      case measure => simp [intOf]; omega
    · have hme : m = n := by omega
      subst hme
      clear HU HV HA
      go_wp2
      go_ret
      exact ⟨rfl, hbel⟩

/-- all but these blocks is as it was -/
def ButG (G : List Nat) (w w' : World) : Prop := w'.os = w.os ∧ w'.tape = w.tape ∧ w'.output = w.output ∧ w.heap.size ≤ w'.heap.size ∧ ∀ i, i < w.heap.size → i ∉ G → w'.heap[i]? = w.heap[i]?

theorem RW.butG {G : List Nat} {w w' : World} {v : Value} {g : Nat} {l : List Le} (h : RW 2 lcs w v g l) (hb : ButG G w w') (hne : 0 < l.length → g ∉ G) : RW 2 lcs w' v g l := by
  obtain ⟨⟨a, c, hv, hl, hA, hc⟩, ht⟩ := h
  have hk : 0 < l.length → w'.heap[g]? = w.heap[g]? := fun hp => hb.2.2.2.2 g (hA hp).2 (hne hp)
  exact ⟨⟨a, c, hv, hl, fun hp => ⟨(hA hp).1, Nat.lt_of_lt_of_le (hA hp).2 hb.2.2.2.1⟩, fun j hj => range_kept (hc j hj) (hk (by omega))⟩, fun j hj => there_kept (ht j hj) (hk (by omega))⟩
theorem ButG.below {G : List Nat} {B : Nat} {w0 w w' : World} (hb : ButG G w w') (h : Below B w0 w) (hB : B ≤ w.heap.size) (hG : ∀ b ∈ G, B ≤ b) : Below B w0 w' :=
  h.trans ⟨hb.1, hb.2.1, hb.2.2.1, hb.2.2.2.1, fun k hk => hb.2.2.2.2 k (by omega) (fun hm => by have := hG k hm; omega)⟩
theorem ButG.grown {G : List Nat} {w w1 w2 : World} {g n : Nat} (h : ButG G w w1) (hg : w1.grownBy w2 (rowF g n)) (hm : g ∈ G) : ButG G w w2 :=
  ⟨hg.os.trans h.1, hg.tape.trans h.2.1, hg.output.trans h.2.2.1, Nat.le_trans h.2.2.2.1 hg.size, fun i hi hn => (hg.block i (Nat.lt_of_lt_of_le hi h.2.2.2.1) (rowF_ne fun _ e => hn (by rw [e]; exact hm))).trans (h.2.2.2.2 i hi hn)⟩

def MpR (w : World) (G : List Nat) (P : List (List Le)) (x i : Value) (wr : World) : Prop := ∃ m : Nat, m ≤ P.length ∧ i = .int .i64 m ∧ x = .int .i64 (1 + 2 * (P.take m).flatten.length : Nat) ∧ Hid (ButG G w wr ∧ ∀ j (h : j < P.length) (hG : j < G.length), m ≤ j → RW 2 lcs wr (.slice (some ⟨G[j], 0, none⟩) P[j].length P[j].length) G[j] P[j])

set_option maxRecDepth 100000 in
set_option maxHeartbeats 1000000 in
theorem markLeafSS_any (B go : Nat) (G : List Nat) (P : List (List Le)) (n : Nat) (w : World) (hx : XW B w go G P) (hn : P.length = n) (hfl : flatN P ≤ 1048576) :
    Calls Tryz.prog 40 #[.slice (some ⟨go, 0, none⟩) n n, .int .i64 1] w fun e w' => ∃ K : Int, e = .returned (.int .i64 K) ∧ 0 ≤ K ∧ ButG G w w' := by
  have HX : Hid (XW B w go G P ∧ P.length = n ∧ P.flatten.length ≤ 1048576) := ⟨hx, hn, hfl⟩
  have hl : n ≤ 1100000 := by rw [← hn]; exact hx.2.1
  have HST : Hid (MpR w G P (.int .i64 1) (.int .i64 0) w) := ⟨0, by omega, rfl, rfl, ⟨rfl, rfl, rfl, Nat.le_refl _, fun _ _ _ => rfl⟩, fun j h hG _ => (hx.2.2.2.2.2.2 j h hG).2⟩
  clear hx hn hfl
  go_enter Tryz.func40, Tryz.ntmps40
  go_wp2
  go_loopw [1, 5] (fun x i wr => MpR w G P x i wr) (fun _ i _ => n - (intOf i).toNat)
  case atStart => exact HST.out
  case round =>
    obtain ⟨m, hm, rfl, rfl, HI⟩ := hrel
    clear HST
    rw [HX.out.2.1] at hm
    by_cases hlt : m < n
    · have hmP : m < P.length := by rw [HX.out.2.1]; exact hlt
      have hmG : m < G.length := by rw [HX.out.1.1]; exact hmP
      have hgo := HX.out.1.2.2.2.1
      have c0 : wr.cell? ⟨go, m, none⟩ = some (.slice (some ⟨G[m], 0, none⟩) P[m].length P[m].length) := by
        have h1 := (HX.out.1.2.2.2.2.2.2 m hmP hmG).1
        refine (World.cell?_of_block (w := w) (w' := wr) (a := ⟨go, m, none⟩) ?_).trans h1
        exact HI.out.1.2.2.2.2 go hgo (fun hm => (HX.out.1.2.2.2.2.2.1 go hm).2.2 rfl)
      have hst := congrArg List.length (parts_step hmP)
      rw [List.length_append] at hst
      have hpl := parts_len hmP
      have hf := HX.out.2.2
      have hmk := markLeafS_any _ G[m] P[m] ((1 + 2 * (P.take m).flatten.length : Nat) : Int) (1 + 2 * (P.take m).flatten.length) wr rfl (HI.out.2 m hmP hmG (Nat.le_refl _)) (by omega) (by omega)
      have HNX : Hid (∀ W, wr.grownBy W (rowF G[m] P[m].length) → MpR w G P (.int .i64 (1 + 2 * (P.take m).flatten.length + 2 * P[m].length : Nat)) (.int .i64 ((m : Int) + 1)) W) := fun W hW => by
        refine ⟨m + 1, by omega, by simp, by rw [hst]; congr 2; omega, HI.out.1.grown hW (List.getElem_mem _), fun j hj hG hmj => ?_⟩
        refine (HI.out.2 j hj hG (by omega)).grown hW (fun _ => rowF_ne fun _ => ?_)
        have := List.pairwise_iff_getElem.1 HX.out.1.2.2.2.2.1 m j hmG hG (by omega)
        omega
      have i1 : (m : Int) < (n : Int) := by omega
      have i2 : (0 : Int) ≤ (m : Int) := by omega
      generalize G[m] = q at *
      generalize P[m] = p at *
      obtain ⟨K0, hK0⟩ : ∃ K0 : Int, ((1 + 2 * (P.take m).flatten.length : Nat) : Int) = K0 := ⟨_, rfl⟩
      obtain ⟨K1, hK1⟩ : ∃ K1 : Int, ((1 + 2 * (P.take m).flatten.length + 2 * p.length : Nat) : Int) = K1 := ⟨_, rfl⟩
      rw [hK1] at HNX
      rw [hK0] at hmk ⊢
      rw [hK1] at hmk
      generalize p.length = np at *
      clear HI hst hK0 hK1 hpl
      go_wp2_with fail
      refine hmk.mono ?_
      rintro e w1 ⟨rfl, hr1, hg1⟩
      have HK : Hid (MpR w G P (.int .i64 K1) (.int .i64 ((m : Int) + 1)) w1) := HNX.out w1 hg1
      clear hmk HNX hr1 hg1
      go_wp2
      go_roundw
      case rel => exact HK.out
      case measure => simp [intOf]; omega
    · have i1 : ¬ (m : Int) < (n : Int) := by omega
      have HF : Hid (∃ K : Int, Ending.returned (.int .i64 (1 + 2 * (P.take m).flatten.length : Nat)) = .returned (.int .i64 K) ∧ 0 ≤ K ∧ ButG G w wr) := ⟨_, rfl, by omega, HI.out.1⟩
      obtain ⟨K0, hK0⟩ : ∃ K0 : Int, ((1 + 2 * (P.take m).flatten.length : Nat) : Int) = K0 := ⟨_, rfl⟩
      rw [hK0] at HF ⊢
      clear HI hK0
      go_wp2
      go_ret
      exact HF.out

end Go.Proofs.YthlgohplljcgfaaGreatDoor
/-
  Rows of rows of leaves marked from any number on, and held against their marks.
-/
namespace Go.Proofs.YthlgohplljcgfaaGreatDoor
open Go.RowKit Go.BigFrame Go.Sort
set_option linter.unusedVariables false
set_option linter.unusedSimpArgs false

/-- nothing but blocks from lo to hi was written -/
def InG (lo hi : Nat) (w w' : World) : Prop := w'.os = w.os ∧ w'.tape = w.tape ∧ w'.output = w.output ∧ w.heap.size ≤ w'.heap.size ∧ ∀ i, i < w.heap.size → (i < lo ∨ hi ≤ i) → w'.heap[i]? = w.heap[i]?
theorem InG.refl (lo hi : Nat) (w : World) : InG lo hi w w := ⟨rfl, rfl, rfl, Nat.le_refl _, fun _ _ _ => rfl⟩
theorem InG.trans {lo hi : Nat} {w w1 w2 : World} (h : InG lo hi w w1) (k : InG lo hi w1 w2) : InG lo hi w w2 :=
  ⟨k.1.trans h.1, k.2.1.trans h.2.1, k.2.2.1.trans h.2.2.1, Nat.le_trans h.2.2.2.1 k.2.2.2.1, fun i hi ho => (k.2.2.2.2 i (Nat.lt_of_lt_of_le hi h.2.2.2.1) ho).trans (h.2.2.2.2 i hi ho)⟩
theorem InG.of_below {lo hi : Nat} {w w' : World} (hb : Below w.heap.size w w') : InG lo hi w w' := ⟨hb.os, hb.tape, hb.output, hb.size, fun i hi _ => hb.block i hi⟩
theorem InG.of_grown {lo hi : Nat} {w w' : World} {g n : Nat} (hg : w.grownBy w' (rowF g n)) (hm : 0 < n → lo ≤ g ∧ g < hi) : InG lo hi w w' :=
  ⟨hg.os, hg.tape, hg.output, hg.size, fun i hi ho => hg.block i hi (rowF_ne fun hp e => by have := hm hp; omega)⟩
theorem RS.inG {α : Type} {k : Nat} {enc : α → List Value} {lo hi : Nat} {w w' : World} {v : Value} {g o : Nat} {l : List α} (h : RS k enc w v g o l) (hb : InG lo hi w w') (hne : 0 < l.length → g < lo ∨ hi ≤ g) : RS k enc w' v g o l := by
  obtain ⟨a, c, hv, hl, h0, hc⟩ := h
  exact ⟨a, c, hv, hl, fun hp => ⟨(h0 hp).1, Nat.lt_of_lt_of_le (h0 hp).2 hb.2.2.2.1⟩, fun j hj => range_kept (hc j hj) (hb.2.2.2.2 g (h0 (by omega)).2 (hne (by omega)))⟩
theorem RW.inG {α : Type} {k : Nat} {enc : α → List Value} {lo hi : Nat} {w w' : World} {v : Value} {g : Nat} {l : List α} (h : RW k enc w v g l) (hb : InG lo hi w w') (hne : 0 < l.length → g < lo ∨ hi ≤ g) : RW k enc w' v g l :=
  ⟨h.1.inG hb hne, fun j hj => there_kept (h.2 j hj) (hb.2.2.2.2 g (h.lt (by omega)) (hne (by omega)))⟩
theorem InG.below {lo hi B : Nat} {w0 w w' : World} (hb : InG lo hi w w') (h : Below B w0 w) (hB : B ≤ w.heap.size) (hl : B ≤ lo) : Below B w0 w' :=
  h.trans ⟨hb.1, hb.2.1, hb.2.2.1, hb.2.2.2.1, fun k hk => hb.2.2.2.2 k (by omega) (by omega)⟩

/-- a row of rows of leaves that may be written, each row in a block of its own -/
def VW (W : World) (v : Value) (go : Nat) (V : Nat → Value) (g : Nat → Nat) (P : List (List Le)) : Prop :=
  (∃ a c, v = .slice a P.length c ∧ P.length ≤ 1100000 ∧ (0 < P.length → a = some ⟨go, 0, none⟩ ∧ go < W.heap.size)) ∧
  (∀ j (h : j < P.length), W.cell? ⟨go, j, none⟩ = some (V j) ∧ RW 2 lcs W (V j) (g j) P[j] ∧ (0 < P[j].length → g j ≠ go)) ∧
  ∀ i j (hi : i < P.length) (hj : j < P.length), i ≠ j → 0 < P[i].length → 0 < P[j].length → g i ≠ g j
theorem VW.later {W W' : World} {v : Value} {go : Nat} {V : Nat → Value} {g : Nat → Nat} {P : List (List Le)} (h : VW W v go V g P) (hb : Below W.heap.size W W') : VW W' v go V g P := by
  obtain ⟨⟨a, c, hv, hl, h0⟩, h1, h2⟩ := h
  exact ⟨⟨a, c, hv, hl, fun hp => ⟨(h0 hp).1, Nat.lt_of_lt_of_le (h0 hp).2 hb.size⟩⟩, fun j hj => ⟨(hb.cell (p := ⟨go, j, none⟩) (h0 (by omega)).2).trans (h1 j hj).1, (h1 j hj).2.1.later hb, (h1 j hj).2.2⟩, h2⟩
theorem VW.inG {lo hi : Nat} {W W' : World} {v : Value} {go : Nat} {V : Nat → Value} {g : Nat → Nat} {P : List (List Le)} (h : VW W v go V g P) (hb : InG lo hi W W') (n0 : 0 < P.length → go < lo ∨ hi ≤ go) (n1 : ∀ j (h : j < P.length), 0 < P[j].length → g j < lo ∨ hi ≤ g j) : VW W' v go V g P := by
  obtain ⟨⟨a, c, hv, hl, h0⟩, h1, h2⟩ := h
  exact ⟨⟨a, c, hv, hl, fun hp => ⟨(h0 hp).1, Nat.lt_of_lt_of_le (h0 hp).2 hb.2.2.2.1⟩⟩, fun j hj => ⟨(cell_kept (hb.2.2.2.2 go (h0 (by omega)).2 (n0 (by omega)))).trans (h1 j hj).1, (h1 j hj).2.1.inG hb (n1 j hj), (h1 j hj).2.2⟩, h2⟩
theorem VW.ps {W : World} {v : Value} {go : Nat} {V : Nat → Value} {g : Nat → Nat} {P : List (List Le)} (h : VW W v go V g P) : PS W v go 0 P := by
  obtain ⟨⟨a, c, hv, hl, h0⟩, h1, h2⟩ := h
  refine ⟨a, c, hv, hl, h0, fun j hj => ?_⟩
  obtain ⟨aj, cj, e⟩ := (h1 j hj).2.1.1.shape
  refine ⟨aj, cj, g j, 0, ?_, ?_⟩
  · rw [Nat.zero_add, ← e]; exact (h1 j hj).1
  · rw [← e]; exact (h1 j hj).2.1.1
theorem XW.vw {B : Nat} {W : World} {go n c : Nat} {G : List Nat} {P : List (List Le)} (h : XW B W go G P) (hn : P.length = n) : VW W (.slice (some ⟨go, 0, none⟩) n c) go (fun j => .slice (some ⟨G.getD j 0, 0, none⟩) (P.getD j []).length (P.getD j []).length) (fun j => G.getD j 0) P := by
  obtain ⟨h1, h2, h3, h4, h5, h6, h7⟩ := h
  have hg : ∀ j (hj : j < P.length), G.getD j 0 = G[j]'(by omega) := fun j hj => by simp [List.getD, List.getElem?_eq_getElem (show j < G.length by omega)]
  have hp : ∀ j (hj : j < P.length), P.getD j [] = P[j] := fun j hj => by simp [List.getD, List.getElem?_eq_getElem hj]
  refine ⟨⟨_, c, by rw [hn], h2, fun _ => ⟨rfl, h4⟩⟩, fun j hj => ?_, fun i j hi hj hij _ _ => ?_⟩
  · simp only [hg j hj, hp j hj]
    exact ⟨(h7 j hj (by omega)).1, (h7 j hj (by omega)).2, fun _ => (h6 _ (List.getElem_mem _)).2.2⟩
  · simp only [hg i hi, hg j hj]
    rcases Nat.lt_or_gt_of_ne hij with hlt | hlt
    · have := List.pairwise_iff_getElem.1 h5 i j (by omega) (by omega) hlt
      omega
    · have := List.pairwise_iff_getElem.1 h5 j i (by omega) (by omega) hlt
      omega

/-- the marks of rows, from k0 on -/
def mkP (k0 : Nat) (P : List (List Le)) : List (List Le) := (List.range P.length).map fun j => lmarks (k0 + 2 * (P.take j).flatten.length) (P.getD j []).length
theorem mkP_len (k0 : Nat) (P : List (List Le)) : (mkP k0 P).length = P.length := by simp [mkP]
theorem mkP_at (k0 : Nat) (P : List (List Le)) (j : Nat) (h : j < P.length) (h' : j < (mkP k0 P).length) : (mkP k0 P)[j] = lmarks (k0 + 2 * (P.take j).flatten.length) P[j].length := by
  simp [mkP, List.getElem?_eq_getElem h]

/-- no other block than these rows' was written -/
def KeepG (g : Nat → Nat) (P : List (List Le)) (w w' : World) : Prop := ∀ q : Nat, (∀ j (h : j < P.length), 0 < P[j].length → g j ≠ q) → q < w.heap.size → w'.heap[q]? = w.heap[q]?
def MvI (w : World) (lo hi go : Nat) (V : Nat → Value) (g : Nat → Nat) (P : List (List Le)) (k0 m : Nat) (wr : World) : Prop := InG lo hi w wr ∧ KeepG g P w wr ∧ (∀ j (h : j < P.length), j < m → RW 2 lcs wr (V j) (g j) (lmarks (k0 + 2 * (P.take j).flatten.length) P[j].length)) ∧ ∀ j (h : j < P.length), m ≤ j → RW 2 lcs wr (V j) (g j) P[j]
def MvR (w : World) (lo hi go : Nat) (V : Nat → Value) (g : Nat → Nat) (P : List (List Le)) (k0 : Nat) (x i : Value) (wr : World) : Prop := ∃ m : Nat, m ≤ P.length ∧ i = .int .i64 m ∧ x = .int .i64 (k0 + 2 * (P.take m).flatten.length : Nat) ∧ Hid (MvI w lo hi go V g P k0 m wr)

set_option maxRecDepth 100000 in
set_option maxHeartbeats 1000000 in
theorem markLeafSS_at (v : Value) (lo hi go : Nat) (V : Nat → Value) (g : Nat → Nat) (P : List (List Le)) (x : Int) (k0 : Nat) (w : World) (hx0 : x = (k0 : Int)) (hx : VW w v go V g P) (hin : ∀ j (h : j < P.length), 0 < P[j].length → lo ≤ g j ∧ g j < hi) (h0 : 0 < k0) (hk : k0 ≤ 7000000) (hfl : flatN P ≤ 1048576) :
    Calls Tryz.prog 40 #[v, .int .i64 x] w fun e w' => e = .returned (.int .i64 (k0 + 2 * flatN P : Nat)) ∧ InG lo hi w w' ∧ KeepG g P w w' ∧ VW w' v go V g (mkP k0 P) := by
  subst hx0
  have HX : Hid (VW w v go V g P) := hx
  have HIN : Hid (∀ j (h : j < P.length), 0 < P[j].length → lo ≤ g j ∧ g j < hi) := hin
  have HFL : Hid (P.flatten.length ≤ 1048576) := hfl
  have HST : Hid (MvR w lo hi go V g P k0 (.int .i64 k0) (.int .i64 0) w) := ⟨0, by omega, rfl, rfl, InG.refl _ _ _, fun _ _ _ => rfl, fun j _ h => by omega, fun j h _ => (hx.2.1 j h).2.1⟩
  obtain ⟨⟨a, c, rfl, hl, hA⟩, _, _⟩ := hx
  obtain ⟨n, hn⟩ : ∃ n, P.length = n := ⟨_, rfl⟩
  have HN : Hid (P.length = n) := hn
  have HA : Hid (0 < n → a = some ⟨go, 0, none⟩ ∧ go < w.heap.size) := by rw [← hn]; exact hA
  rw [hn] at hl HX ⊢
  clear hin hfl hA hn
  go_enter Tryz.func40, Tryz.ntmps40
  go_wp2
  go_loopw [1, 5] (fun x i wr => MvR w lo hi go V g P k0 x i wr) (fun _ i _ => n - (intOf i).toNat)
  case atStart => exact HST.out
  case round =>
    obtain ⟨m, hm, rfl, rfl, HI⟩ := hrel
    clear HST
    rw [HN.out] at hm
    by_cases hlt : m < n
    · have hmP : m < P.length := by rw [HN.out]; exact hlt
      obtain ⟨ea, hgo⟩ := HA.out (by omega)
      subst ea
      have c0 : wr.cell? ⟨go, m, none⟩ = some (V m) := (cell_kept (HI.out.2.1 go (fun j hj hp => (HX.out.2.1 j hj).2.2 hp) hgo)).trans (HX.out.2.1 m hmP).1
      have hst := congrArg List.length (parts_step hmP)
      rw [List.length_append] at hst
      have hpl := parts_len hmP
      have hf := HFL.out
      have hmk := markLeafS_any (V m) (g m) P[m] ((k0 + 2 * (P.take m).flatten.length : Nat) : Int) (k0 + 2 * (P.take m).flatten.length) wr rfl (HI.out.2.2.2 m hmP (Nat.le_refl _)) (by omega) (by omega)
      have HNX : Hid (∀ W, RW 2 lcs W (V m) (g m) (lmarks (k0 + 2 * (P.take m).flatten.length) P[m].length) → wr.grownBy W (rowF (g m) P[m].length) → MvR w lo hi go V g P k0 (.int .i64 (k0 + 2 * (P.take m).flatten.length + 2 * P[m].length : Nat)) (.int .i64 ((m : Int) + 1)) W) := fun W hr hW => by
        obtain ⟨j1, j2, j3, j4⟩ := HI.out
        refine ⟨m + 1, by omega, by simp, by rw [hst]; congr 2; omega, j1.trans (InG.of_grown hW (fun hp => HIN.out m hmP hp)), fun q hq hql => (hW.block q (Nat.lt_of_lt_of_le hql j1.2.2.2.1) (rowF_ne fun hp e => hq m hmP hp e.symm)).trans (j2 q hq hql), fun j hj hjm => ?_, fun j hj hjm => ?_⟩
        · rcases Nat.lt_or_ge j m with h3 | h3
          · exact (j3 j hj h3).grown hW (fun hp => rowF_ne fun hq => HX.out.2.2 j m hj hmP (by omega) (by simpa [lmarks_len] using hp) hq)
          · have : j = m := by omega
            subst this
            exact hr
        · exact (j4 j hj (by omega)).grown hW (fun hp => rowF_ne fun hq => HX.out.2.2 j m hj hmP (by omega) hp hq)
      have i1 : (m : Int) < (n : Int) := by omega
      have i2 : (0 : Int) ≤ (m : Int) := by omega
      generalize V m = vm at *
      generalize g m = q at *
      generalize P[m] = p at *
      obtain ⟨K0, hK0⟩ : ∃ K0 : Int, ((k0 + 2 * (P.take m).flatten.length : Nat) : Int) = K0 := ⟨_, rfl⟩
      obtain ⟨K1, hK1⟩ : ∃ K1 : Int, ((k0 + 2 * (P.take m).flatten.length + 2 * p.length : Nat) : Int) = K1 := ⟨_, rfl⟩
      rw [hK1] at HNX
      rw [hK0] at hmk ⊢
      rw [hK1] at hmk
      generalize lmarks (k0 + 2 * (P.take m).flatten.length) p.length = lm at *
      generalize p.length = np at *
      clear HI hst hK0 hK1 hpl HX HIN
      go_wp2_with fail
      refine hmk.mono ?_
      rintro e w1 ⟨rfl, hr1, hg1⟩
      have HK : Hid (MvR w lo hi go V g P k0 (.int .i64 K1) (.int .i64 ((m : Int) + 1)) w1) := HNX.out w1 hr1 hg1
      clear hmk HNX hr1 hg1
      go_wp2
      go_roundw
      case rel => exact HK.out
      case measure => simp [intOf]; omega
    · have i1 : ¬ (m : Int) < (n : Int) := by omega
      have hmn : m = P.length := by rw [HN.out]; omega
      have HF : Hid (Ending.returned (.int .i64 (k0 + 2 * (P.take m).flatten.length : Nat)) = .returned (.int .i64 (k0 + 2 * flatN P : Nat)) ∧ InG lo hi w wr ∧ KeepG g P w wr ∧ VW wr (.slice a n c) go V g (mkP k0 P)) := by
        obtain ⟨j1, j2, j3, j4⟩ := HI.out
        refine ⟨by rw [hmn, List.take_length]; rfl, j1, j2, ⟨a, c, by rw [mkP_len, HN.out], by rw [mkP_len, HN.out]; exact hl, fun hp => ?_⟩, fun j hj => ?_, fun i j hi hj hij hpi hpj => ?_⟩
        · rw [mkP_len, HN.out] at hp
          exact ⟨(HA.out hp).1, Nat.lt_of_lt_of_le (HA.out hp).2 j1.2.2.2.1⟩
        · have hjP : j < P.length := by rw [mkP_len] at hj; exact hj
          rw [mkP_at k0 P j hjP]
          refine ⟨(cell_kept (j2 go (fun j hj hp => (HX.out.2.1 j hj).2.2 hp) (HA.out (by rw [← HN.out]; omega)).2)).trans (HX.out.2.1 j hjP).1, j3 j hjP (by omega), fun hp => (HX.out.2.1 j hjP).2.2 (by simpa [lmarks_len] using hp)⟩
        · have hiP : i < P.length := by rw [mkP_len] at hi; exact hi
          have hjP : j < P.length := by rw [mkP_len] at hj; exact hj
          rw [mkP_at k0 P i hiP, lmarks_len] at hpi
          rw [mkP_at k0 P j hjP, lmarks_len] at hpj
          exact HX.out.2.2 i j hiP hjP hij hpi hpj
      obtain ⟨K0, hK0⟩ : ∃ K0 : Int, ((k0 + 2 * (P.take m).flatten.length : Nat) : Int) = K0 := ⟨_, rfl⟩
      rw [hK0] at HF ⊢
      clear HI hK0 HX HIN
      go_wp2
      go_ret
      exact HF.out

def HvR (w : World) (P : List (List Le)) (k0 : Nat) (x i : Value) (wr : World) : Prop := ∃ m : Nat, m ≤ P.length ∧ i = .int .i64 m ∧ x = .int .i64 (k0 + 2 * (P.take m).flatten.length : Nat) ∧ Below w.heap.size w wr

set_option maxRecDepth 100000 in
set_option maxHeartbeats 1000000 in
theorem heldLeafSS_at (v : Value) (go : Nat) (V : Nat → Value) (g : Nat → Nat) (P : List (List Le)) (x : Int) (k0 : Nat) (w : World) (hx0 : x = (k0 : Int)) (hx : VW w v go V g (mkP k0 P)) (h0 : 0 < k0) (hk : k0 ≤ 7000000) (hfl : flatN P ≤ 1048576) :
    Calls Tryz.prog 43 #[v, .int .i64 x] w fun e w' => e = .returned (.int .i64 (k0 + 2 * flatN P : Nat)) ∧ Below w.heap.size w w' := by
  subst hx0
  have HX : Hid (VW w v go V g (mkP k0 P)) := hx
  have HFL : Hid (P.flatten.length ≤ 1048576) := hfl
  have HST : Hid (HvR w P k0 (.int .i64 k0) (.int .i64 0) w) := ⟨0, by omega, rfl, rfl, Below.refl _ _⟩
  obtain ⟨⟨a, c, rfl, hl, hA⟩, _, _⟩ := hx
  rw [mkP_len] at hl HX hA ⊢
  obtain ⟨n, hn⟩ : ∃ n, P.length = n := ⟨_, rfl⟩
  have HN : Hid (P.length = n) := hn
  have HA : Hid (0 < n → a = some ⟨go, 0, none⟩ ∧ go < w.heap.size) := by rw [← hn]; exact hA
  rw [hn] at hl HX ⊢
  clear hfl hA hn
  go_enter Tryz.func43, Tryz.ntmps43
  go_wp2
  go_loopw [1, 5] (fun x i wr => HvR w P k0 x i wr) (fun _ i _ => n - (intOf i).toNat)
  case atStart => exact HST.out
  case round =>
    obtain ⟨m, hm, rfl, rfl, hbel⟩ := hrel
    clear HST
    rw [HN.out] at hm
    by_cases hlt : m < n
    · have hmP : m < P.length := by rw [HN.out]; exact hlt
      obtain ⟨ea, hgo⟩ := HA.out (by omega)
      subst ea
      have hv := (HX.out.later hbel).2.1 m (by rw [mkP_len]; exact hmP)
      rw [mkP_at k0 P m hmP] at hv
      obtain ⟨c0, hr, _⟩ := hv
      have hst := congrArg List.length (parts_step hmP)
      rw [List.length_append] at hst
      have hpl := parts_len hmP
      have hf := HFL.out
      have hmk := heldLeafS_any (V m) (g m) ((k0 + 2 * (P.take m).flatten.length : Nat) : Int) (k0 + 2 * (P.take m).flatten.length) P[m].length wr rfl hr.1 (by omega) (by omega)
      have HNX : Hid (∀ W, Below wr.heap.size wr W → HvR w P k0 (.int .i64 (k0 + 2 * (P.take m).flatten.length + 2 * P[m].length : Nat)) (.int .i64 ((m : Int) + 1)) W) := fun W hW => ⟨m + 1, by omega, by simp, by rw [hst]; congr 2; omega, hbel.trans (hW.mono hbel.size)⟩
      have i1 : (m : Int) < (n : Int) := by omega
      have i2 : (0 : Int) ≤ (m : Int) := by omega
      generalize V m = vm at *
      generalize P[m] = p at *
      obtain ⟨K0, hK0⟩ : ∃ K0 : Int, ((k0 + 2 * (P.take m).flatten.length : Nat) : Int) = K0 := ⟨_, rfl⟩
      obtain ⟨K1, hK1⟩ : ∃ K1 : Int, ((k0 + 2 * (P.take m).flatten.length + 2 * p.length : Nat) : Int) = K1 := ⟨_, rfl⟩
      have hneg : ¬ K1 < 0 := by omega
      rw [hK1] at HNX
      rw [hK0] at hmk ⊢
      rw [hK1] at hmk
      generalize p.length = np at *
      clear hst hK0 hK1 hpl HX hr hbel
      go_wp2_with fail
      refine hmk.mono ?_
      rintro e w1 ⟨rfl, hb1⟩
      have HK : Hid (HvR w P k0 (.int .i64 K1) (.int .i64 ((m : Int) + 1)) w1) := HNX.out w1 hb1
      clear hmk HNX hb1
      go_wp2
      go_roundw
      case rel => exact HK.out
      case measure => simp [intOf]; omega
    · have i1 : ¬ (m : Int) < (n : Int) := by omega
      have hmn : m = P.length := by rw [HN.out]; omega
      have HF : Hid (Ending.returned (.int .i64 (k0 + 2 * (P.take m).flatten.length : Nat)) = .returned (.int .i64 (k0 + 2 * flatN P : Nat)) ∧ Below w.heap.size w wr) := ⟨by rw [hmn, List.take_length]; rfl, hbel⟩
      obtain ⟨K0, hK0⟩ : ∃ K0 : Int, ((k0 + 2 * (P.take m).flatten.length : Nat) : Int) = K0 := ⟨_, rfl⟩
      rw [hK0] at HF ⊢
      clear hK0 HX hbel
      go_wp2
      go_ret
      exact HF.out

end Go.Proofs.YthlgohplljcgfaaGreatDoor
