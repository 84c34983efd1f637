/-
  Texts laid together: Yj, Ll, Ysz.
-/
import Derived.Test.YtklpanjedolkdaaGreatDoorPkELS12
import Derived.Test.YtklpanjedolkdaaGreatDoorPkELS11
import Derived.Deep.RegionHeld3
import Derived.Test.YtklpanjedolkdaaGreatDoorPkELS9
/-
  All parts together: the specification's answer.
-/
namespace Go.Proofs.YtklpanjedolkdaaGreatDoor
open Go.RowKit Go.BigFrame Go.Sort
set_option linter.unusedVariables false
set_option linter.unusedSimpArgs false

/-- a row of rows of leaves -/
def PS (w : World) (v : Value) (g o : Nat) (P : List (List Le)) : Prop := ∃ a c, v = .slice a P.length c ∧ P.length ≤ 1100000 ∧ (0 < P.length → a = some ⟨g, o, none⟩ ∧ g < w.heap.size) ∧
  ∀ j (h : j < P.length), ∃ aj cj gj oj, w.cell? ⟨g, o + j, none⟩ = some (.slice aj P[j].length cj) ∧ RS 2 lcs w (.slice aj P[j].length cj) gj oj P[j]
theorem PS.later {w w' : World} {v : Value} {g o : Nat} {P : List (List Le)} (h : PS w v g o P) (hb : Below w.heap.size w w') : PS w' v g o P := by
  obtain ⟨a, c, hv, hl, hA, hc⟩ := h
  refine ⟨a, c, hv, hl, fun hp => ⟨(hA hp).1, Nat.lt_of_lt_of_le (hA hp).2 hb.size⟩, fun j hj => ?_⟩
  obtain ⟨aj, cj, gj, oj, h1, h2⟩ := hc j hj
  exact ⟨aj, cj, gj, oj, (cell_kept (hb.block g (hA (by omega)).2)).trans h1, h2.later hb⟩
theorem PS.at {w : World} {v : Value} {g o : Nat} {P : List (List Le)} (h : PS w v g o P) (j : Nat) (hj : j < P.length) : ∃ aj cj gj oj, w.cell? ⟨g, o + j, none⟩ = some (.slice aj P[j].length cj) ∧ RS 2 lcs w (.slice aj P[j].length cj) gj oj P[j] := by
  obtain ⟨a, c, hv, hl, hA, hc⟩ := h
  exact hc j hj
def SmallP (P : List (List Le)) : Prop := ∀ p ∈ P, SmallL p

/-- what has been put so far -/
def AlI (w wr : World) (a : Option Addr) (cap q : Nat) (O A : List Le) : Prop := RW 2 lcs wr (.slice a O.length cap) q O ∧ w.heap.size ≤ q ∧ Below w.heap.size w wr ∧ (a = none → cap = 0) ∧ LV.PutI A O
theorem AlI.small {w wr : World} {a : Option Addr} {cap q : Nat} {O A : List Le} (h : AlI w wr a cap q O A) : SmallL O := fun f hf => by
  have := LV.leB_sizes (h.2.2.2.2.1.2.1 f hf)
  omega
def YaO (w : World) (P : List (List Le)) (u n i : Value) (wr : World) : Prop := ∃ (m : Nat) (a : Option Addr) (cap q : Nat) (O : List Le), m ≤ P.length ∧ i = .int .i64 m ∧ u = .slice a O.length cap ∧ n = .int .i64 ((P.take m).flatten.length : Int) ∧ Hid (AlI w wr a cap q O (P.take m).flatten)
def YaI (w : World) (B p : List Le) (u n i : Value) (wr : World) : Prop := ∃ (m : Nat) (a : Option Addr) (cap q : Nat) (O : List Le), m ≤ p.length ∧ i = .int .i64 m ∧ u = .slice a O.length cap ∧ n = .int .i64 ((B.length + m : Nat) : Int) ∧ Hid (AlI w wr a cap q O (B ++ p.take m))
theorem parts_step {P : List (List Le)} {m : Nat} (hm : m < P.length) : (P.take (m + 1)).flatten = (P.take m).flatten ++ P[m] := by
  rw [List.take_succ_eq_append_getElem hm, List.flatten_append]
  simp
theorem parts_len {P : List (List Le)} {m : Nat} (hm : m < P.length) : (P.take m).flatten.length + P[m].length ≤ P.flatten.length := by
  have h := congrArg List.length (congrArg List.flatten (List.take_append_drop (m + 1) P))
  rw [List.flatten_append, List.length_append, parts_step hm, List.length_append] at h
  omega
theorem app_cut (X p t r Y : List Le) (f : Le) (h : p = t ++ f :: r) : X ++ p ++ Y = (X ++ t) ++ f :: (r ++ Y) := by
  subst h
  simp
theorem parts_split {P : List (List Le)} {m k : Nat} (hm : m < P.length) (hk : k < P[m].length) : ∃ R, P.flatten = ((P.take m).flatten ++ P[m].take k) ++ P[m][k] :: R := by
  have h : P.flatten = (P.take (m + 1)).flatten ++ (P.drop (m + 1)).flatten := by rw [← List.flatten_append, List.take_append_drop]
  rw [parts_step hm] at h
  have h2 : P[m] = P[m].take k ++ P[m][k] :: P[m].drop (k + 1) := by
    rw [← List.drop_eq_getElem_cons hk]
    exact (List.take_append_drop k _).symm
  exact ⟨P[m].drop (k + 1) ++ (P.drop (m + 1)).flatten, h.trans (app_cut _ _ _ _ _ _ h2)⟩

end Go.Proofs.YtklpanjedolkdaaGreatDoor
/-
  The walk of the law FnExactLeavesOk: it answers true of every row of leaves.
-/
namespace Go.Proofs.YtklpanjedolkdaaGreatDoor
open Go.RowKit Go.BigFrame Go.Sort
set_option linter.unusedVariables false
set_option linter.unusedSimpArgs false

/-- a row answered: it may be written, and lies in blocks from B on -/
def LvIn (w : World) (B : Nat) (v : Value) (l : List Le) : Prop := ∃ a c g, v = .slice a l.length c ∧ RW 2 lcs w v g l ∧ B ≤ g

theorem toLeafS_in (v : Value) (ga oa : Nat) (l : List Le) (w : World) (hv : RS 2 lcs w v ga oa l) :
    Calls Tryz.prog 80 #[v] w fun e w' => ∃ g, e = .returned (.slice (some ⟨g, 0, none⟩) l.length l.length) ∧ RW 2 lcs w' (.slice (some ⟨g, 0, none⟩) l.length l.length) g l ∧ w.heap.size ≤ g ∧ Below w.heap.size w w' :=
  (toLeafS_any v ga oa l w hv).mono fun e w' ⟨g, he, hg, hrw, _, hb⟩ => ⟨g, he, hrw, hg, hb⟩

/-- what a law knows of its row, in every world above -/
def LvA (w : World) (v : Value) (g o : Nat) (l : List Le) : Prop := RS 2 lcs w v g o l ∧ SmallL l

end Go.Proofs.YtklpanjedolkdaaGreatDoor
/-
  What the laws' own helpers do with rows of rows of leaves: weighed, taken over, compared, marked.
-/
namespace Go.Proofs.YtklpanjedolkdaaGreatDoor
open Go.RowKit Go.BigFrame Go.Sort
set_option linter.unusedVariables false
set_option linter.unusedSimpArgs false

set_option maxRecDepth 100000 in
set_option maxHeartbeats 400000 in
theorem szLeafS_sum (v : Value) (g o : Nat) (l : List Le) (x : Int) (w : World) (hv : IsRowL w v g o l) (h0 : 0 ≤ x) (h1 : x ≤ 1048576) :
    Calls Tryz.prog 78 #[v, .int .i64 x] w fun e w' => ∃ A : Int, e = .returned (.int .i64 A) ∧ Below w.heap.size w w' ∧ A ≤ x ∧ (0 ≤ A → RS 2 lcs w v g o l ∧ SmallL l ∧ A + (l.length : Int) ≤ x) := by
  obtain ⟨a, n, cap, rfl, hn, hr⟩ := hv
  by_cases hbig : x < (n : Int)
  · have q : x - (n : Int) < 0 := by omega
    go_enter Tryz.func78, Tryz.ntmps78
    go_wp2
    go_ret
    exact ⟨_, rfl, Below.refl _ _, by omega, fun h => by omega⟩
  obtain ⟨hln, hrs, hsz⟩ := hr (by omega)
  have HRS : Hid (RS 2 lcs w (.slice a n cap) g o l) := hrs
  have HSZ : Hid (∀ f ∈ l, f.n.size ≤ 9223372036854775807 ∧ f.v.size ≤ 9223372036854775807) := hsz
  have HLN : Hid (l.length = n) := hln
  obtain ⟨a', c', ev, _, hA, _⟩ := hrs
  have HA : Hid (0 < n → a = some ⟨g, o, none⟩) := fun h => by
    have := (hA (by omega)).1
    simp at ev
    rw [ev.1, this]
  clear hr hA hsz ev
  have q : ¬ x - (n : Int) < 0 := by omega
  go_enter Tryz.func78, Tryz.ntmps78
  go_wp2
  go_loopw [1, 5] (fun y i wr => SzL l (x - (n : Int)) w y i wr) (fun _ i _ => n - (intOf i).toNat)
  case atStart => exact ⟨0, x - (n : Int), by omega, rfl, by go_num, by omega, by omega, fun j _ h => by omega, Below.refl _ _⟩
  case round =>
    obtain ⟨m, y, hm, rfl, rfl, hy0, hy1, HJ, hbel⟩ := hrel
    by_cases hlt : m < n
    · have ea := HA.out (by omega)
      subst ea
      obtain ⟨c0, c1⟩ := (HRS.out.later hbel).leaf m (by omega)
      obtain ⟨X, hX⟩ : ∃ X, l[m]'(by omega) = X := ⟨_, rfl⟩
      rw [hX] at c0 c1
      have hxs := HSZ.out X (by rw [← hX]; exact List.getElem_mem _)
      have HX : Hid (l[m]'(by omega) = X) := hX
      have i1 : (m : Int) < (n : Int) := by omega
      have i2 : (0 : Int) ≤ (m : Int) := by omega
      clear hX HSZ HA HRS
      go_wp2_with fail
      refine (szLeaf_any X y _ hy0 (by omega) hxs.1 hxs.2).mono ?_
      rintro e w1 ⟨A, rfl, hb1, hA1, hA2⟩
      have hbel1 := hbel.trans (hb1.mono hbel.size)
      have HA2 : Hid (0 ≤ A → X.n.size ≤ 1048576 ∧ X.v.size ≤ 1048576) := hA2
      clear hb1 hA2 c0 c1 hbel hxs
      by_cases hneg : A < 0
      · clear HJ HX HA2
        go_wp2
        try rw [Exit.noGoto_ret]
        go_ret
        exact ⟨_, rfl, hbel1, by omega, fun h => by omega⟩
      · go_wp2
        go_roundw
        case rel =>
          refine ⟨m + 1, A, by omega, by go_num, rfl, by omega, by omega, ?_, hbel1⟩
          intro j hj hjl
          rcases Nat.lt_or_ge j m with h3 | h3
          · exact HJ.out j hj h3
          · have : j = m := by omega
            subst this
            rw [HX.out]
            exact HA2.out (by omega)
        case measure => simp [intOf]; omega
    · have hme : m = n := by omega
      have HF : Hid (RS 2 lcs w (.slice a n cap) g o l ∧ SmallL l ∧ y + (l.length : Int) ≤ x) := ⟨HRS.out, fun f hf => by
        obtain ⟨j, hj, rfl⟩ := List.getElem_of_mem hf
        exact HJ.out j hj (by omega), by omega⟩
      subst hme
      clear HJ HA HRS HSZ
      go_wp2
      go_ret
      exact ⟨_, rfl, hbel, by omega, fun _ => HF.out⟩

/-- a row of rows of leaves that was handed in, great or small -/
def IsRowP (w : World) (v : Value) (g o : Nat) (Q : List (Value × Nat × Nat × List Le)) : Prop := ∃ a n cap, v = .slice a n cap ∧ n ≤ 9223372036854775807 ∧ (n ≤ 1100000 → Q.length = n ∧ (0 < n → a = some ⟨g, o, none⟩ ∧ g < w.heap.size) ∧ ∀ j (h : j < Q.length), w.cell? ⟨g, o + j, none⟩ = some Q[j].1 ∧ IsRowL w Q[j].1 Q[j].2.1 Q[j].2.2.1 Q[j].2.2.2)
/-- how many leaves all rows have -/
def flatN (P : List (List Le)) : Nat := P.flatten.length
def ofQ (Q : List (Value × Nat × Nat × List Le)) : List (List Le) := Q.map fun q => q.2.2.2
theorem ofQ_len (Q : List (Value × Nat × Nat × List Le)) : (ofQ Q).length = Q.length := by simp [ofQ]
theorem ofQ_at (Q : List (Value × Nat × Nat × List Le)) (j : Nat) (h : j < (ofQ Q).length) : (ofQ Q)[j] = (Q[j]'(by simpa [ofQ] using h)).2.2.2 := by simp [ofQ]

/-- the first m rows are small -/
def SzQ (w : World) (Q : List (Value × Nat × Nat × List Le)) (x0 : Int) (x i : Value) (wr : World) : Prop := ∃ (m : Nat) (y : Int), m ≤ Q.length ∧ i = .int .i64 m ∧ x = .int .i64 y ∧ 0 ≤ y ∧ y + (((ofQ Q).take m).flatten.length : Int) ≤ x0 ∧ Hid (∀ j (h : j < Q.length), j < m → RS 2 lcs w Q[j].1 Q[j].2.1 Q[j].2.2.1 Q[j].2.2.2 ∧ SmallL Q[j].2.2.2) ∧ Below w.heap.size w wr

set_option maxRecDepth 100000 in
set_option maxHeartbeats 1000000 in
theorem szLeafSS_row (v : Value) (g o : Nat) (Q : List (Value × Nat × Nat × List Le)) (x : Int) (w : World) (hv : IsRowP w v g o Q) (h0 : 0 ≤ x) (h1 : x ≤ 1048576) :
    Calls Tryz.prog 33 #[v, .int .i64 x] w fun e w' => ∃ A : Int, e = .returned (.int .i64 A) ∧ Below w.heap.size w w' ∧ A ≤ x ∧ (0 ≤ A → PS w v g o (ofQ Q) ∧ SmallP (ofQ Q) ∧ flatN (ofQ Q) ≤ 1048576) := by
  obtain ⟨a, n, cap, rfl, hn, hr⟩ := hv
  by_cases hbig : x < (n : Int)
  · have q : x - (n : Int) < 0 := by omega
    go_enter Tryz.func33, Tryz.ntmps33
    go_wp2
    go_ret
    exact ⟨_, rfl, Below.refl _ _, by omega, fun h => by omega⟩
  obtain ⟨hln, hA0, hsz⟩ := hr (by omega)
  have HLN : Hid (Q.length = n) := hln
  have HA : Hid (0 < n → a = some ⟨g, o, none⟩ ∧ g < w.heap.size) := hA0
  have HSZ : Hid (∀ j (h : j < Q.length), w.cell? ⟨g, o + j, none⟩ = some Q[j].1 ∧ IsRowL w Q[j].1 Q[j].2.1 Q[j].2.2.1 Q[j].2.2.2) := hsz
  have HST : Hid (SzQ w Q (x - (n : Int)) (.int .i64 (x - (n : Int))) (.int .i64 0) w) := ⟨0, x - (n : Int), by omega, rfl, rfl, by omega, by simp, fun j _ h => by omega, Below.refl _ _⟩
  clear hr hA0 hsz hln
  have q : ¬ x - (n : Int) < 0 := by omega
  go_enter Tryz.func33, Tryz.ntmps33
  go_wp2
  go_loopw [1, 5] (fun y i wr => SzQ w Q (x - (n : Int)) y i wr) (fun _ i _ => n - (intOf i).toNat)
  case atStart => exact HST.out
  case round =>
    obtain ⟨m, y, hm, rfl, rfl, hy0, hy1, HJ, hbel⟩ := hrel
    clear HST
    rw [HLN.out] at hm
    by_cases hlt : m < n
    · have hmQ : m < Q.length := by rw [HLN.out]; exact hlt
      obtain ⟨ea, hgw⟩ := HA.out (by omega)
      subst ea
      obtain ⟨c0, hR⟩ := HSZ.out m hmQ
      have c1 : wr.cell? ⟨g, o + m, none⟩ = some Q[m].1 := (hbel.cell (p := ⟨g, o + m, none⟩) hgw).trans c0
      have hst := congrArg List.length (parts_step (P := ofQ Q) (m := m) (by rw [ofQ_len]; exact hmQ))
      rw [List.length_append, ofQ_at] at hst
      have HX : Hid (∀ j (h : j < Q.length), j < m + 1 → (j = m → RS 2 lcs w Q[m].1 Q[m].2.1 Q[m].2.2.1 Q[m].2.2.2 ∧ SmallL Q[m].2.2.2) → RS 2 lcs w Q[j].1 Q[j].2.1 Q[j].2.2.1 Q[j].2.2.2 ∧ SmallL Q[j].2.2.2) := fun j hj hjm h => by
        rcases Nat.lt_or_ge j m with h3 | h3
        · exact HJ.out j hj h3
        · have : j = m := by omega
          subst this
          exact h rfl
      have hy1048 : y ≤ 1048576 := by omega
      have hcall := szLeafS_sum Q[m].1 Q[m].2.1 Q[m].2.2.1 Q[m].2.2.2 y wr (hR.later hbel) hy0 hy1048
      have HBK : Hid (RS 2 lcs wr Q[m].1 Q[m].2.1 Q[m].2.2.1 Q[m].2.2.2 → RS 2 lcs w Q[m].1 Q[m].2.1 Q[m].2.2.1 Q[m].2.2.2) := fun hrs => by
        obtain ⟨a', n', cap', ev, _, hr'⟩ := hR
        have hl1 : Q[m].2.2.2.length ≤ 1100000 := hrs.len
        obtain ⟨a2, c2, ev2, _, _, _⟩ := hrs
        rw [ev] at ev2
        have : n' = Q[m].2.2.2.length := by simp at ev2; exact ev2.2.1
        exact (hr' (by omega)).2.1
      generalize hq : Q[m] = qq at *
      obtain ⟨vq, gq, oq, lq⟩ := qq
      simp only at c1 hcall HX HBK hst
      have i1 : (m : Int) < (n : Int) := by omega
      have i2 : (0 : Int) ≤ (m : Int) := by omega
      clear c0 hR HSZ HJ
      go_wp2_with fail
      refine hcall.mono ?_
      rintro e w1 ⟨A, rfl, hb1, hA1, hA2⟩
      have hbel1 := hbel.trans (hb1.mono hbel.size)
      have HA2 : Hid (0 ≤ A → RS 2 lcs w vq gq oq lq ∧ SmallL lq ∧ A + (lq.length : Int) ≤ y) := fun h => ⟨HBK.out (hA2 h).1, (hA2 h).2⟩
      clear hb1 hA2 c1 hbel hcall HBK
      by_cases hneg : A < 0
      · clear HX HA2 hst
        go_wp2
        try rw [Exit.noGoto_ret]
        go_ret
        exact ⟨_, rfl, hbel1, by omega, fun h => by omega⟩
      · have hfin := HA2.out (by omega)
        have HK : Hid (SzQ w Q (x - (n : Int)) (.int .i64 A) (.int .i64 ((m : Int) + 1)) w1) := ⟨m + 1, A, by rw [HLN.out]; omega, by simp, rfl, by omega, by have := hfin.2.2; rw [hst]; omega, fun j hj hjm => HX.out j hj hjm (fun e => ⟨hfin.1, hfin.2.1⟩), hbel1⟩
        clear HX HA2 hst hfin
        go_wp2
        go_roundw
        case rel => exact HK.out
        case measure => simp [intOf]; omega
    · have hme : m = n := by omega
      have HF : Hid (PS w (.slice a n cap) g o (ofQ Q) ∧ SmallP (ofQ Q) ∧ flatN (ofQ Q) ≤ 1048576) := by
        refine ⟨⟨a, cap, by rw [ofQ_len, HLN.out], by rw [ofQ_len, HLN.out]; omega, fun hp => HA.out (by rw [ofQ_len, HLN.out] at hp; exact hp), fun j hj => ?_⟩, fun p hp => ?_, ?_⟩
        · have hjQ : j < Q.length := by rw [ofQ_len] at hj; exact hj
          obtain ⟨h2, h3⟩ := HJ.out j hjQ (by rw [HLN.out] at hjQ; omega)
          obtain ⟨aj, cj, ev⟩ := h2.shape
          refine ⟨aj, cj, Q[j].2.1, Q[j].2.2.1, ?_, ?_⟩
          · rw [ofQ_at, ← ev]
            exact (HSZ.out j hjQ).1
          · rw [ofQ_at, ← ev]
            exact h2
        · obtain ⟨j, hj, rfl⟩ := List.getElem_of_mem hp
          rw [ofQ_at]
          exact (HJ.out j (by rw [ofQ_len] at hj; exact hj) (by rw [ofQ_len, HLN.out] at hj; omega)).2
        · rw [List.take_of_length_le (by rw [ofQ_len, HLN.out]; omega)] at hy1
          show (ofQ Q).flatten.length ≤ 1048576
          omega
      have i1 : ¬ (m : Int) < (n : Int) := by omega
      have HYX : Hid (y ≤ x) := by have := Int.natCast_nonneg ((ofQ Q).take m).flatten.length; exact (by omega : y ≤ x)
      clear HJ HA HSZ
      go_wp2
      go_ret
      exact ⟨_, rfl, hbel, HYX.out, fun _ => HF.out⟩

/-- a row of new rows of leaves, each in a block of its own -/
def XW (B : Nat) (w : World) (go : Nat) (G : List Nat) (P : List (List Le)) : Prop := G.length = P.length ∧ P.length ≤ 1100000 ∧ B ≤ go ∧ go < w.heap.size ∧ G.Pairwise (· < ·) ∧
  (∀ b ∈ G, B ≤ b ∧ b < w.heap.size ∧ b ≠ go) ∧ ∀ j (h : j < P.length) (hG : j < G.length), w.cell? ⟨go, j, none⟩ = some (.slice (some ⟨G[j], 0, none⟩) P[j].length P[j].length) ∧ RW 2 lcs w (.slice (some ⟨G[j], 0, none⟩) P[j].length P[j].length) G[j] P[j]
theorem XW.later {B : Nat} {w w' : World} {go : Nat} {G : List Nat} {P : List (List Le)} (h : XW B w go G P) (hb : Below w.heap.size w w') : XW B w' go G P := by
  obtain ⟨h1, h2, h3, h4, h5, h6, h7⟩ := h
  refine ⟨h1, h2, h3, Nat.lt_of_lt_of_le h4 hb.size, h5, fun b hb' => ⟨(h6 b hb').1, Nat.lt_of_lt_of_le (h6 b hb').2.1 hb.size, (h6 b hb').2.2⟩, fun j hj hG => ⟨(hb.cell (p := ⟨go, j, none⟩) h4).trans (h7 j hj hG).1, (h7 j hj hG).2.later hb⟩⟩
theorem XW.ps {B : Nat} {w : World} {go n c : Nat} {G : List Nat} {P : List (List Le)} (h : XW B w go G P) (hn : P.length = n) : PS w (.slice (some ⟨go, 0, none⟩) n c) go 0 P := by
  obtain ⟨h1, h2, h3, h4, h5, h6, h7⟩ := h
  refine ⟨_, c, by rw [hn], h2, fun _ => ⟨rfl, h4⟩, fun j hj => ?_⟩
  have hG : j < G.length := by omega
  rw [Nat.zero_add]
  exact ⟨_, _, G[j], 0, (h7 j hj hG).1, (h7 j hj hG).2.1⟩

/-- m rows are taken over -/
def ToX (w : World) (P : List (List Le)) (go : Nat) (i : Value) (wr : World) : Prop := ∃ (m : Nat) (G : List Nat) (cur : Array Value), m ≤ P.length ∧ i = .int .i64 m ∧ Hid (XW w.heap.size wr go G (P.take m) ∧ wr.heap[go]? = some (.cells cur 52 (0, 0)) ∧ cur.size = P.length ∧ Below w.heap.size w wr)
theorem infoLsS : (Tryz.prog.info? 52).map (fun i => (i.zero, i.size, i.bytes)) = some (some (.slice none 0 0), 1, 24) := by kernel_rfl
theorem made_parts (n : Nat) (h : n ≤ 1100000) (W : World) : ∃ (w' : World) (cur : Array Value), (Instr.makeSlice 37 (.int .i64 (n : Int)) (.int .i64 (n : Int))).run Tryz.prog W = .ok (.slice (some ⟨W.heap.size, 0, none⟩) n n) w' ∧ w'.heap[W.heap.size]? = some (.cells cur 52 (0, 0)) ∧ cur.size = n ∧ Below W.heap.size W w' ∧ w'.heap.size = W.heap.size + 1 := by
  obtain ⟨i0, hi, hz0, hz1, hz2⟩ := info_parts infoLsS
  have h1 := run_make (P := Tryz.prog) W 37 52 i0 (.slice none 0 0) Tryz.underlying37 hi hz0 .i64 .i64 (n : Int) (n : Int) (by omega) (by omega) (by rw [hz2]; omega) (by omega)
  refine ⟨_, _, by simpa using h1, Go.heap_alloc_new W _, ?_, (Below.refl _ _).alloc (Nat.le_refl _) _, by simp⟩
  rw [size_madeCells, hz1]
  simp
theorem XW.add {B : Nat} {wr : World} {go m g : Nat} {G : List Nat} {P : List (List Le)} {cur : Array Value} (h : XW B wr go G (P.take m)) (hm : m < P.length) (hP : P.length ≤ 1100000) (hc : wr.heap[go]? = some (.cells cur 52 (0, 0))) (hs : cur.size = P.length) (hr : RW 2 lcs wr (.slice (some ⟨g, 0, none⟩) P[m].length P[m].length) g P[m]) (hg : B ≤ g ∧ g < wr.heap.size ∧ g ≠ go) (hlt : ∀ b ∈ G, b < g) :
    XW B (wr.setCell ⟨go, m, none⟩ (.slice (some ⟨g, 0, none⟩) P[m].length P[m].length)) go (G ++ [g]) (P.take (m + 1)) := by
  obtain ⟨h1, h2, h3, h4, h5, h6, h7⟩ := h
  have htl : (P.take m).length = m := by rw [List.length_take]; omega
  have htl1 : (P.take (m + 1)).length = m + 1 := by rw [List.length_take]; omega
  have hsz : (wr.setCell ⟨go, m, none⟩ (.slice (some ⟨g, 0, none⟩) P[m].length P[m].length)).heap.size = wr.heap.size := by simp
  have hoth : ∀ b, b ≠ go → (wr.setCell ⟨go, m, none⟩ (.slice (some ⟨g, 0, none⟩) P[m].length P[m].length)).heap[b]? = wr.heap[b]? := fun b hb => heap_setCell_other wr ⟨go, m, none⟩ b _ hb
  refine ⟨by rw [List.length_append, h1, htl, htl1]; rfl, by omega, h3, by rw [hsz]; exact h4, ?_, ?_, ?_⟩
  · rw [List.pairwise_append]
    exact ⟨h5, List.pairwise_singleton _ _, fun a ha b hb => by simp at hb; subst hb; exact hlt a ha⟩
  · intro b hb
    rw [hsz]
    rcases List.mem_append.1 hb with hb | hb
    · exact h6 b hb
    · simp at hb; subst hb; exact hg
  · intro j hj hG
    have hjm : j ≤ m := by omega
    have ePj : (P.take (m + 1))[j] = P[j]'(by omega) := by rw [List.getElem_take]
    rw [ePj]
    rcases Nat.lt_or_ge j m with h8 | h8
    · have eG : (G ++ [g])[j] = G[j]'(by omega) := List.getElem_append_left _
      have h9 := h7 j (by omega) (by omega)
      rw [List.getElem_take] at h9
      rw [eG]
      refine ⟨?_, h9.2.grown (grown_setC wr go m _) (fun _ => by simp; exact (h6 _ (List.getElem_mem _)).2.2)⟩
      rw [World.cell?_setCell_other _ _ _ _ (by simp <;> omega)]
      exact h9.1
    · have : j = m := by omega
      subst this
      have eG : (G ++ [g])[j] = g := by rw [List.getElem_append_right (by omega)]; simp [h1, htl]
      rw [eG]
      refine ⟨cell_set_same hc (by omega) _, hr.grown (grown_setC wr go j _) (fun _ => by simp; exact hg.2.2)⟩

set_option maxRecDepth 100000 in
set_option maxHeartbeats 1000000 in
theorem toLeafSS_any (v : Value) (g o : Nat) (P : List (List Le)) (w : World) (hv : PS w v g o P) :
    Calls Tryz.prog 39 #[v] w fun e w' => ∃ go G, e = .returned (.slice (some ⟨go, 0, none⟩) P.length P.length) ∧ XW w.heap.size w' go G P ∧ Below w.heap.size w w' := by
  have HV : Hid (PS w v g o P) := hv
  obtain ⟨a, cap, rfl, hl, hA, _⟩ := hv
  obtain ⟨n, hn⟩ : ∃ n, P.length = n := ⟨_, rfl⟩
  have HA : Hid (0 < n → a = some ⟨g, o, none⟩) := by rw [← hn]; exact fun h => (hA h).1
  have HN : Hid (P.length = n) := hn
  rw [hn] at hl HV ⊢
  obtain ⟨w2, cur, hmk, hcur, hcs, hb2, hs2⟩ := made_parts n hl w
  have HST : Hid (ToX w P w.heap.size (.int .i64 0) w2) := ⟨0, [], cur, by omega, rfl, ⟨rfl, by simp, Nat.le_refl _, by omega, List.Pairwise.nil, fun b hb => absurd hb (by simp), fun j hj => absurd hj (by simp)⟩, hcur, by rw [hcs, hn], hb2⟩
  clear hA hn hcur hcs hb2
  obtain ⟨go, hgo⟩ : ∃ go, w.heap.size = go := ⟨_, rfl⟩
  rw [hgo] at HST hmk
  go_enter Tryz.func39, Tryz.ntmps39
  go_wp2
  clear hmk
  go_loopw [4] (fun i wr => ToX w P go i wr) (fun i _ => n - (intOf i).toNat)
  case atStart => exact HST.out
  case round =>
    obtain ⟨m, G, cur, hm, rfl, HI⟩ := hrel
    clear HST
    rw [HN.out] at hm
    by_cases hlt : m < n
    · have ea := HA.out (by omega)
      subst ea
      have hmP : m < P.length := by rw [HN.out]; exact hlt
      have hbel := HI.out.2.2.2
      obtain ⟨aj, cj, gj, oj, c0, hrj⟩ := (HV.out.later hbel).at m hmP
      have i1 : (m : Int) < (n : Int) := by omega
      have i2 : (0 : Int) ≤ (m : Int) := by omega
      have hto := toLeafS_any _ gj oj P[m] wr hrj
      have HADD : Hid (∀ W q, Below wr.heap.size wr W → wr.heap.size ≤ q → q < W.heap.size → RW 2 lcs W (.slice (some ⟨q, 0, none⟩) P[m].length P[m].length) q P[m] → (∃ u, W.cell? ⟨go, m, none⟩ = some u) ∧ W.frozen? ⟨go, m, none⟩ = false ∧ ToX w P go (.int .i64 ((m : Int) + 1)) (W.setCell ⟨go, m, none⟩ (.slice (some ⟨q, 0, none⟩) P[m].length P[m].length))) := fun W q hW hq1 hq2 hr => by
        have hx := HI.out.1.later hW
        have hc := (hW.block go HI.out.1.2.2.2.1).trans HI.out.2.1
        have hgo' := HI.out.1.2.2.2.1
        have hbs := hbel.size
        refine ⟨⟨cur[m]'(by rw [HI.out.2.2.1]; exact hmP), ?_⟩, by simp [World.frozen?, hc], m + 1, G ++ [q], _, by omega, by simp, hx.add hmP (by rw [HN.out]; exact hl) hc HI.out.2.2.1 hr ⟨by omega, hq2, by omega⟩ (fun b hb => by have := (HI.out.1.2.2.2.2.2.1 b hb).2.1; omega), heap_setCell_same W go m cur _ _ hc, by simpa using HI.out.2.2.1, (hbel.trans (hW.mono hbel.size)).setCell (p := ⟨go, m, none⟩) (by show w.heap.size ≤ go; omega) _⟩
        rw [cell_of_row _ go m _ _ _ hc, Array.getElem?_eq_getElem]
      generalize P[m] = p at *
      generalize p.length = np at *
      clear HI hrj HV
      go_wp2_with fail
      refine hto.mono ?_
      rintro e w1 ⟨q1, rfl, hq1, hr1, hql1, hb1⟩
      obtain ⟨⟨u1, c1⟩, f1, hx1⟩ := HADD.out w1 q1 hb1 hq1 hql1 hr1
      have HK : Hid (ToX w P go (.int .i64 ((m : Int) + 1)) (w1.setCell ⟨go, m, none⟩ (.slice (some ⟨q1, 0, none⟩) np np))) := hx1
      clear hto HADD hx1 hb1 hr1
      go_wp2
      go_roundw
      case rel => exact HK.out
      case measure => simp [intOf]; omega
    · have hme : m = n := by omega
      have e : P.take m = P := List.take_of_length_le (by rw [HN.out]; omega)
      rw [e] at HI
      have HF : Hid (XW w.heap.size wr go G P ∧ Below w.heap.size w wr) := ⟨HI.out.1, HI.out.2.2.2⟩
      have i1 : ¬ (m : Int) < (n : Int) := by omega
      clear HI e HV
      go_wp2
      go_ret
      have h1 := HF.out
      rw [hgo] at h1
      exact ⟨go, rfl, ⟨G, h1.1⟩, h1.2⟩

end Go.Proofs.YtklpanjedolkdaaGreatDoor
