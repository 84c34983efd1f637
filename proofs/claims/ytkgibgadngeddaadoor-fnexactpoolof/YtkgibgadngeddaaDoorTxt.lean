/-
  Rows of texts: one measured, one taken over into a new one, two compared.
-/
import Derived.Test.YtkgibgadngeddaaDoorOwn
import Derived.Deep.QuietTactic
import Derived.BigQuiet
import Derived.SliceStrings
namespace Go.Proofs.YtkgibgadngeddaaDoor
open Go.RowKit Go.BigFrame
set_option linter.unusedVariables false

theorem Tryd.info9 : (Tryd.prog.info? 9).map (fun i => (i.zero, i.size, i.bytes)) = some (some (.string ByteArray.empty), 1, 16) := by kernel_rfl

/-- v reads as the texts l, which lie in block g from place o on -/
def SS (w : World) (v : Value) (g o : Nat) (l : List ByteArray) : Prop :=
  ∃ a cap, v = .slice a l.length cap ∧ l.length ≤ 1100000 ∧ (0 < l.length → a = some ⟨g, o, none⟩) ∧ ∀ j (h : j < l.length), w.cell? ⟨g, o + j, none⟩ = some (.string l[j])

theorem SS.below {w w' : World} {v : Value} {g o B : Nat} {l : List ByteArray} (h : SS w v g o l) (hb : Below B w w') (hg : 0 < l.length → g < B) : SS w' v g o l := by
  obtain ⟨a, cap, h1, h2, h3, h4⟩ := h
  exact ⟨a, cap, h1, h2, h3, fun j hj => (hb.cell (p := ⟨g, o + j, none⟩) (hg (by omega))).trans (h4 j hj)⟩
theorem SS.drewN {w : World} {v : Value} {g o : Nat} {l : List ByteArray} (h : SS w v g o l) (n : Nat) : SS (w.drewN n) v g o l := h

def EqS (n : Nat) (w : World) (i : Value) (wr : World) : Prop := ∃ m q : Nat, m ≤ n ∧ i = .int .i64 m ∧ wr = w.drewN q

set_option maxRecDepth 100000 in
set_option maxHeartbeats 400000 in
theorem eqStringS_yes (va vb : Value) (ga oa gb ob : Nat) (l : List ByteArray) (w : World) (ha : SS w va ga oa l) (hb : SS w vb gb ob l) :
    Calls Tryd.prog 17 #[va, vb] w fun e w' => e = .returned (.bool true) ∧ ∃ q, w' = w.drewN q := by
  obtain ⟨a, ca, rfl, hl, hA, hcA⟩ := ha
  obtain ⟨b, cb, rfl, _, hB, hcB⟩ := hb
  obtain ⟨n, hn⟩ : ∃ n, l.length = n := ⟨_, rfl⟩
  rw [hn] at hl ⊢
  have HA : Hid (0 < n → a = some ⟨ga, oa, none⟩) := by rw [← hn]; exact hA
  have HB : Hid (0 < n → b = some ⟨gb, ob, none⟩) := by rw [← hn]; exact hB
  clear hA hB
  go_enter Tryd.func17, Tryd.ntmps17
  go_wp2
  go_loopw [5] (fun i wr => EqS n w i wr) (fun i _ => n - (intOf i).toNat)
  case atStart => exact ⟨0, 0, by omega, rfl, rfl⟩
  case round =>
    obtain ⟨m, q, hm, rfl, rfl⟩ := hrel
    by_cases hlt : m < n
    · have ea := HA.out (by omega)
      have eb := HB.out (by omega)
      subst ea
      subst eb
      have c1 := hcA m (by omega)
      have c2 := hcB m (by omega)
      generalize l[m]'(by omega) = X at *
      have i1 : (m : Int) < (n : Int) := by omega
      have i2 : (0 : Int) ≤ (m : Int) := by omega
      clear hcA hcB HA HB
      go_wp2
      go_quiet (fail)
      go_wp2
      go_roundw
      case rel => exact ⟨m + 1, _, by omega, by go_num, rfl⟩
      case measure => simp [intOf]; omega
    · have hme : m = n := by omega
      subst hme
      clear hcA hcB HA HB
      go_wp2
      go_ret
      exact ⟨rfl, q, rfl⟩

/-- block g begins with the texts l, and may be written -/
def TB (w : World) (g : Nat) (l : List ByteArray) : Prop := ∃ cur, w.heap[g]? = some (.cells cur 9 (0, 0)) ∧ ∀ j (h : j < l.length), cur[j]? = some (.string l[j])
theorem TB.cell {w : World} {g : Nat} {l : List ByteArray} (h : TB w g l) (j : Nat) (hj : j < l.length) : w.cell? ⟨g, j, none⟩ = some (.string l[j]) := by
  obtain ⟨cur, h1, h2⟩ := h
  rw [cell_of_row w g j cur 9 (0, 0) h1]
  exact h2 j hj
theorem TB.frozen {w : World} {g : Nat} {l : List ByteArray} (h : TB w g l) (j : Nat) : w.frozen? ⟨g, j, none⟩ = false := by
  obtain ⟨cur, h1, h2⟩ := h
  simp [World.frozen?, h1]
theorem TB.lt {w : World} {g : Nat} {l : List ByteArray} (h : TB w g l) : g < w.heap.size := by
  obtain ⟨cur, h1, h2⟩ := h
  exact (Array.getElem?_eq_some_iff.1 h1).1
theorem TB.set {w : World} {g : Nat} {l : List ByteArray} (h : TB w g l) (i : Nat) (hi : i < l.length) (x : ByteArray) : TB (w.setCell ⟨g, i, none⟩ (.string x)) g (l.set i x) := by
  obtain ⟨cur, h1, h2⟩ := h
  have hc := h2 i hi
  have his : i < cur.size := (Array.getElem?_eq_some_iff.1 hc).1
  refine ⟨_, heap_setCell_same w g i cur 9 _ h1, fun j hj => ?_⟩
  have hj' : j < l.length := by simpa using hj
  rw [Array.getElem?_setIfInBounds]
  by_cases he : i = j
  · subst he
    simp [his]
  · rw [if_neg he, h2 j hj']
    simp [List.getElem_set_ne he]
theorem TB.below {w w' : World} {g B : Nat} {l : List ByteArray} (h : TB w g l) (hb : Below B w w') (hg : g < B) : TB w' g l := by
  obtain ⟨cur, h1, h2⟩ := h
  exact ⟨cur, by rw [hb.block g hg]; exact h1, h2⟩
theorem TB.ss {w : World} {g : Nat} {l : List ByteArray} (h : TB w g l) (cap n : Nat) (hn : l.length = n) (hl : n ≤ 1100000) : SS w (.slice (some ⟨g, 0, none⟩) n cap) g 0 l := by
  subst hn
  exact ⟨_, cap, rfl, hl, fun _ => rfl, fun j hj => by rw [Nat.zero_add]; exact h.cell j hj⟩

/-- 'make([]string, n)' -/
theorem TB.made (n : Nat) (h : n ≤ 1000000000) (W : World) : ∃ w', (Instr.makeSlice 28 (.int .i64 (n : Int)) (.int .i64 (n : Int))).run Tryd.prog W = .ok (.slice (some ⟨W.heap.size, 0, none⟩) n n) w' ∧ TB w' W.heap.size (List.replicate n ByteArray.empty) ∧ Below W.heap.size W w' ∧ w'.heap.size = W.heap.size + 1 := by
  obtain ⟨i0, hi, hz0, hz1, hz2⟩ := info_parts Tryd.info9
  have h1 := run_make (P := Tryd.prog) W 28 9 i0 (.string ByteArray.empty) Tryd.underlying28 hi hz0 .i64 .i64 (n : Int) (n : Int) (by omega) (by omega) (by rw [hz2]; omega) (by omega)
  refine ⟨_, by simpa using h1, ⟨_, Go.heap_alloc_new W _, fun j hj => ?_⟩, (Below.refl _ _).alloc (Nat.le_refl _) _, by simp⟩
  have hj' : j < n := by simpa using hj
  have e : (madeCells (Value.string ByteArray.empty).cells (n * i0.size)).toList = List.replicate n (.string ByteArray.empty) := by
    rw [hz1]
    simp [Value.cells, toList_madeCells_one]
  rw [← Array.getElem?_toList, e]
  simp [hj']

def srow (l : List ByteArray) (m : Nat) : List ByteArray := l.take m ++ List.replicate (l.length - m) ByteArray.empty
theorem srow_len (l : List ByteArray) (m : Nat) (h : m ≤ l.length) : (srow l m).length = l.length := by simp [srow]; omega
theorem srow_step (l : List ByteArray) (m : Nat) (h : m < l.length) : (srow l m).set m l[m] = srow l (m + 1) := by
  unfold srow
  have e : l.length - m = (l.length - (m + 1)) + 1 := by omega
  have e2 : (l.take m).length = m := by simp; omega
  rw [e, List.replicate_succ, List.set_append_right _ _ (by omega), e2, Nat.sub_self, List.set_cons_zero, ← List.take_append_getElem h, List.append_assoc]
  rfl
theorem srow_all (l : List ByteArray) : srow l l.length = l := by simp [srow]
def ToS (w : World) (l : List ByteArray) (g : Nat) (i : Value) (wr : World) : Prop := ∃ m : Nat, m ≤ l.length ∧ i = .int .i64 m ∧ TB wr g (srow l m) ∧ Below w.heap.size w wr

set_option maxRecDepth 100000 in
set_option maxHeartbeats 400000 in
theorem toStringS_any (v : Value) (ga oa : Nat) (l : List ByteArray) (w : World) (hv : SS w v ga oa l) (hg : 0 < l.length → ga < w.heap.size) :
    Calls Tryd.prog 22 #[v] w fun e w' => ∃ g, e = .returned (.slice (some ⟨g, 0, none⟩) l.length l.length) ∧ w.heap.size ≤ g ∧ TB w' g l ∧ Below w.heap.size w w' := by
  obtain ⟨a, cap, rfl, hl, hA, hc⟩ := hv
  obtain ⟨n, hn⟩ : ∃ n, l.length = n := ⟨_, rfl⟩
  obtain ⟨w2, hmk, hib, hb2, hs2⟩ := TB.made n (by omega) w
  have HST : Hid (ToS w l w.heap.size (.int .i64 0) w2) := ⟨0, by omega, rfl, by simpa [srow, hn] using hib, hb2⟩
  have HA : Hid (0 < n → a = some ⟨ga, oa, none⟩ ∧ ga < w.heap.size) := by rw [← hn]; exact fun h => ⟨hA h, hg h⟩
  rw [hn] at hl ⊢
  clear hib hb2 hs2 hA hg
  go_enter Tryd.func22, Tryd.ntmps22
  go_wp2
  clear hmk
  go_loopw [4] (fun i wr => ToS w l w.heap.size i wr) (fun i _ => n - (intOf i).toNat)
  case atStart => exact HST.out
  case round =>
    obtain ⟨m, hm, rfl, hib, hbel⟩ := hrel
    have htl := srow_len l m hm
    clear HST
    by_cases hlt : m < n
    · obtain ⟨ea, hga⟩ := HA.out (by omega)
      subst ea
      have c1 : wr.cell? ⟨ga, oa + m, none⟩ = some (.string (l[m]'(by omega))) := (hbel.cell (p := ⟨ga, oa + m, none⟩) hga).trans (hc m (by omega))
      have c0 := hib.cell m (by omega)
      have f0 := hib.frozen m
      have hs := hib.set m (by omega) (l[m]'(by omega))
      rw [srow_step l m (by omega)] at hs
      have HS : Hid (TB (wr.setCell ⟨w.heap.size, m, none⟩ (.string (l[m]'(by omega)))) w.heap.size (srow l (m + 1)) ∧ Below w.heap.size w (wr.setCell ⟨w.heap.size, m, none⟩ (.string (l[m]'(by omega))))) := ⟨hs, hbel.setCell (p := ⟨w.heap.size, m, none⟩) (Nat.le_refl _) _⟩
      generalize (srow l m)[m]'(by omega) = Y at *
      generalize l[m]'(by omega) = X at *
      clear hs hib hbel htl HA hc
      have i1 : (m : Int) < (n : Int) := by omega
      have i2 : (0 : Int) ≤ (m : Int) := by omega
      go_wp2
      go_roundw
      case rel => exact ⟨m + 1, by omega, by go_num, HS.out.1, HS.out.2⟩
      case measure => simp [intOf]; omega
    · have hme : m = n := by omega
      have HF : Hid (TB wr w.heap.size l) := by
        have e : srow l m = l := by rw [hme, ← hn]; exact srow_all l
        rw [← e]
        exact hib
      subst hme
      clear hib htl HA hc
      go_wp2
      go_ret
      exact ⟨w.heap.size, rfl, Nat.le_refl _, HF.out, hbel⟩

/-- so many bytes in all, and one for each text -/
def szL (l : List ByteArray) : Nat := l.length + (l.map ByteArray.size).sum
theorem sz_le (l : List ByteArray) (x : ByteArray) (h : x ∈ l) : x.size ≤ szL l := by
  unfold szL
  induction l with
  | nil => simp at h
  | cons y r ih =>
    rcases List.mem_cons.1 h with rfl | h
    · simp; omega
    · have := ih h
      simp at this ⊢
      omega
def preS (l : List ByteArray) (m : Nat) : Nat := ((l.take m).map ByteArray.size).sum
theorem preS_step (l : List ByteArray) (m : Nat) (h : m < l.length) : preS l (m + 1) = preS l m + l[m].size := by
  unfold preS
  rw [← List.take_append_getElem h, List.map_append, List.sum_append]
  simp
theorem preS_le (l : List ByteArray) (m : Nat) : preS l m ≤ (l.map ByteArray.size).sum := by
  have e : (l.map ByteArray.size).sum = preS l m + ((l.drop m).map ByteArray.size).sum := by
    unfold preS
    rw [← List.sum_append, ← List.map_append, List.take_append_drop]
  omega
theorem preS_all (l : List ByteArray) : preS l l.length = (l.map ByteArray.size).sum := by simp [preS]

def SzR (l : List ByteArray) (w : World) (x i : Value) (wr : World) : Prop := ∃ m : Nat, m ≤ l.length ∧ i = .int .i64 m ∧ x = .int .i64 (1048576 - (l.length : Int) - (preS l m : Int)) ∧ l.length + preS l m ≤ 1048576 ∧ wr = w

def wr_cell (w : World) (g o m : Nat) (x : ByteArray) : Prop := w.cell? ⟨g, o + m, none⟩ = some (.string x)

/-- what the law measures: what is left of 1 << 20, or less than nothing -/
def szA (l : List ByteArray) : Int := if szL l ≤ 1048576 then 1048576 - (szL l : Int) else -1

theorem szStringS_big (a : Option Addr) (n cap : Nat) (w : World) (h : 1048576 < n) (hm : n ≤ 9223372036854775807) :
    Calls Tryd.prog 20 #[.slice a n cap, .int .i64 1048576] w fun e w' => e = .returned (.int .i64 (-1)) ∧ w' = w := by
  go_enter Tryd.func20, Tryd.ntmps20
  go_wp2
  go_ret
  exact ⟨rfl, rfl⟩

set_option maxRecDepth 100000 in
set_option maxHeartbeats 400000 in
theorem szStringS_any (v : Value) (ga oa : Nat) (l : List ByteArray) (w : World) (hv : SS w v ga oa l) (hz : ∀ x ∈ l, x.size ≤ 9223372036854775807) (hl0 : l.length ≤ 1048576) :
    Calls Tryd.prog 20 #[v, .int .i64 1048576] w fun e w' => e = .returned (.int .i64 (szA l)) ∧ w' = w := by
  obtain ⟨a, cap, rfl, hl, hA, hc⟩ := hv
  obtain ⟨n, hn⟩ : ∃ n, l.length = n := ⟨_, rfl⟩
  have HA : Hid (0 < n → a = some ⟨ga, oa, none⟩) := by rw [← hn]; exact hA
  have HZ : Hid (szA l = if szL l ≤ 1048576 then 1048576 - (szL l : Int) else -1) := rfl
  have HN : Hid (∀ m (h : m < n), preS l (m + 1) = preS l m + (l[m]'(by omega)).size ∧ (l[m]'(by omega)).size ≤ 9223372036854775807 ∧ wr_cell w ga oa m (l[m]'(by omega))) := by
    intro m hm
    exact ⟨preS_step l m (by omega), hz _ (List.getElem_mem _), hc m (by omega)⟩
  have HP : Hid (∀ m, n + preS l m ≤ szL l) := fun m => by
    have := preS_le l m
    unfold szL
    omega
  have HE : Hid (n + preS l n = szL l) := by
    have := preS_all l
    rw [hn] at this
    show n + preS l n = szL l
    unfold szL
    rw [this, hn]
  have HST : Hid (SzR l w (.int .i64 (1048576 - (n : Int))) (.int .i64 0) w) := ⟨0, by omega, rfl, by simp [preS, hn], by simp [preS]; omega, rfl⟩
  rw [hn] at hl hl0 ⊢
  clear hA hc hz
  generalize szA l = A at *
  have hnn : ¬ ((1048576 : Int) - (n : Int) < 0) := by omega
  go_enter Tryd.func20, Tryd.ntmps20
  go_wp2
  go_loopw [1, 5] (fun x i wr => SzR l w x i wr) (fun _ i _ => n - (intOf i).toNat)
  case atStart => exact HST.out
  case round =>
    obtain ⟨m, hm, rfl, rfl, hle, rfl⟩ := hrel
    rw [hn] at hm hle ⊢
    clear HST
    by_cases hlt : m < n
    · obtain ⟨hps, hsz, c0⟩ := HN.out m hlt
      have hpl := HP.out (m + 1)
      have ea := HA.out (by omega)
      subst ea
      unfold wr_cell at c0
      generalize l[m]'(by omega) = X at *
      obtain ⟨P0, hP0⟩ : ∃ P0, preS l m = P0 := ⟨_, rfl⟩
      rw [hP0] at hle hps ⊢
      have i1 : (m : Int) < (n : Int) := by omega
      have i2 : (0 : Int) ≤ (m : Int) := by omega
      by_cases hx : n + P0 + X.size ≤ 1048576
      · have HS : Hid (SzR l wr (.int .i64 (1048576 - (n : Int) - (P0 : Int) - (X.size : Int))) (.int .i64 ((m : Int) + 1)) wr) := ⟨m + 1, by omega, by simp, by rw [hps, hn]; congr 1; omega, by rw [hps, hn]; omega, rfl⟩
        have i3 : ¬ ((1048576 : Int) - (n : Int) - (P0 : Int) - (X.size : Int) < 0) := by omega
        clear hps hpl hP0 HN HP HE HA
        go_wp2
        go_roundw
        case rel => exact HS.out
        case measure => simp [intOf]; omega
      · have hA1 : A = -1 := by rw [HZ.out, if_neg (by omega)]
        subst hA1
        have i3 : ((1048576 : Int) - (n : Int) - (P0 : Int) - (X.size : Int) < 0) := by omega
        clear hps hpl hP0 HN HP HE HA HZ
        go_wp2
        go_ret
        exact ⟨rfl, rfl⟩
    · have hme : m = n := by omega
      subst hme
      have hA1 : 1048576 - (m : Int) - (preS l m : Int) = A := by
        have := HE.out
        rw [HZ.out, if_pos (by omega)]
        omega
      clear HN HP HE HA HZ
      generalize preS l m = P0 at *
      subst hA1
      go_wp2
      go_ret
      exact ⟨rfl, rfl⟩

/-- what is put into the hands of a law: texts that were there, all up to the capacity -/
def IsRowS (w : World) (a : Option Addr) (len cap : Nat) (ss : List ByteArray) : Prop :=
  (a = none ∧ len = 0 ∧ cap = 0 ∧ ss = []) ∨ ∃ x : Addr, a = some x ∧ len ≤ cap ∧ cap ≤ maxLen ∧ len ≤ ss.length ∧ (∀ i, i < ss.length → w.cell? (x.add i) = some (.string (ss.getD i ByteArray.empty))) ∧ ∀ s ∈ ss, s.size ≤ maxLen
theorem IsRowS.len {w : World} {a : Option Addr} {len cap : Nat} {ss : List ByteArray} (h : IsRowS w a len cap ss) : len ≤ maxLen := by
  rcases h with ⟨_, rfl, _⟩ | ⟨x, _, h1, h2, _⟩
  · omega
  · omega
theorem SS.lt {w : World} {v : Value} {g o : Nat} {l : List ByteArray} (h : SS w v g o l) : 0 < l.length → g < w.heap.size := by
  intro h0
  obtain ⟨_, _, _, _, _, hc⟩ := h
  have h4 := hc 0 h0
  rcases Nat.lt_or_ge g w.heap.size with hlt | hge
  · exact hlt
  · simp [World.cell?, Array.getElem?_eq_none hge] at h4
theorem ss_of_row {w : World} {a : Option Addr} {len cap : Nat} {ss : List ByteArray} (h : IsRowS w a len cap ss) (hl : len ≤ 1048576) : ∃ (g o : Nat) (l : List ByteArray), l.length = len ∧ SS w (.slice a len cap) g o l ∧ ∀ x ∈ l, x.size ≤ maxLen := by
  rcases h with ⟨rfl, rfl, rfl, rfl⟩ | ⟨x, rfl, h1, h2, h3, hc, hz⟩
  · exact ⟨0, 0, [], rfl, ⟨none, 0, rfl, by simp, fun h => absurd h (by simp), fun j hj => absurd hj (by simp)⟩, fun x hx => absurd hx (by simp)⟩
  · have hlen : (ss.take len).length = len := by simp; omega
    have hadd : ∀ j, 0 < len → x.add j = ⟨x.block, x.off + j, none⟩ := fun j h0 => by
      have h4 := hc 0 (by omega)
      have e : x.add 0 = x := by unfold Addr.add; simp
      rw [e] at h4
      have hs := World.cell?_spot h4
      cases x
      simp at hs
      subst hs
      unfold Addr.add
      split <;> simp_all
    refine ⟨x.block, x.off, ss.take len, hlen, ⟨some x, cap, by rw [hlen], by omega, fun h0 => ?_, fun j hj => ?_⟩, fun y hy => hz y (List.mem_of_mem_take hy)⟩
    · have := hadd 0 (by omega)
      have e : x.add 0 = x := by unfold Addr.add; simp
      rw [e] at this
      rw [this]
    · have h4 := hc j (by omega)
      rw [hadd j (by omega)] at h4
      rw [h4]
      simp [List.getD, List.getElem?_eq_getElem (show j < ss.length by omega)]

end Go.Proofs.YtkgibgadngeddaaDoor
