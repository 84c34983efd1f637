/-
  Texts laid together: Txt, Tag.
-/
import Derived.Test.YtkgibgadngeddabDoorPkEST0
import Derived.Deep.QuietTactic
import Derived.BigQuiet
import Derived.SliceStrings
import Derived.Test.YtkgibgadngeddabDoorPkEST1
import Derived.Lib.AppendStr
import Derived.Deep.RegionHeld3
/-
  Rows of texts: one measured, one taken over into a new one, two compared.
-/
namespace Go.Proofs.YtkgibgadngeddabDoor
open Go.RowKit Go.BigFrame
set_option linter.unusedVariables false

theorem Tryd.info9 : (Tryd.prog.info? 9).map (fun i => (i.zero, i.size, i.bytes)) = some (some (.string ByteArray.empty), 1, 16) := by kernel_rfl

/-- v reads as the texts l, which lie in block g from place o on -/
def SS (w : World) (v : Value) (g o : Nat) (l : List ByteArray) : Prop :=
  ∃ a cap, v = .slice a l.length cap ∧ l.length ≤ 1100000 ∧ (0 < l.length → a = some ⟨g, o, none⟩) ∧ ∀ j (h : j < l.length), w.cell? ⟨g, o + j, none⟩ = some (.string l[j])

theorem SS.below {w w' : World} {v : Value} {g o B : Nat} {l : List ByteArray} (h : SS w v g o l) (hb : Below B w w') (hg : 0 < l.length → g < B) : SS w' v g o l := by
  obtain ⟨a, cap, h1, h2, h3, h4⟩ := h
  exact ⟨a, cap, h1, h2, h3, fun j hj => (hb.cell (p := ⟨g, o + j, none⟩) (hg (by omega))).trans (h4 j hj)⟩
theorem SS.drewN {w : World} {v : Value} {g o : Nat} {l : List ByteArray} (h : SS w v g o l) (n : Nat) : SS (w.drewN n) v g o l := h

def EqS (n : Nat) (w : World) (i : Value) (wr : World) : Prop := ∃ m q : Nat, m ≤ n ∧ i = .int .i64 m ∧ wr = w.drewN q

set_option maxRecDepth 100000 in
set_option maxHeartbeats 400000 in
theorem eqStringS_yes (va vb : Value) (ga oa gb ob : Nat) (l : List ByteArray) (w : World) (ha : SS w va ga oa l) (hb : SS w vb gb ob l) :
    Calls Tryd.prog 8 #[va, vb] w fun e w' => e = .returned (.bool true) ∧ ∃ q, w' = w.drewN q := by
  obtain ⟨a, ca, rfl, hl, hA, hcA⟩ := ha
  obtain ⟨b, cb, rfl, _, hB, hcB⟩ := hb
  obtain ⟨n, hn⟩ : ∃ n, l.length = n := ⟨_, rfl⟩
  rw [hn] at hl ⊢
  have HA : Hid (0 < n → a = some ⟨ga, oa, none⟩) := by rw [← hn]; exact hA
  have HB : Hid (0 < n → b = some ⟨gb, ob, none⟩) := by rw [← hn]; exact hB
  clear hA hB
  go_enter Tryd.func8, Tryd.ntmps8
  go_wp2
  go_loopw [5] (fun i wr => EqS n w i wr) (fun i _ => n - (intOf i).toNat)
  case atStart => exact ⟨0, 0, by omega, rfl, rfl⟩
  case round =>
    obtain ⟨m, q, hm, rfl, rfl⟩ := hrel
    by_cases hlt : m < n
    · have ea := HA.out (by omega)
      have eb := HB.out (by omega)
      subst ea
      subst eb
      have c1 := hcA m (by omega)
      have c2 := hcB m (by omega)
      generalize l[m]'(by omega) = X at *
      have i1 : (m : Int) < (n : Int) := by omega
      have i2 : (0 : Int) ≤ (m : Int) := by omega
      clear hcA hcB HA HB
      go_wp2
      go_quiet (fail)
      go_wp2
      go_roundw
      case rel => exact ⟨m + 1, _, by omega, by go_num, rfl⟩
      case measure => simp [intOf]; omega
    · have hme : m = n := by omega
      subst hme
      clear hcA hcB HA HB
      go_wp2
      go_ret
      exact ⟨rfl, q, rfl⟩

/-- block g begins with the texts l, and may be written -/
def TB (w : World) (g : Nat) (l : List ByteArray) : Prop := ∃ cur, w.heap[g]? = some (.cells cur 9 (0, 0)) ∧ ∀ j (h : j < l.length), cur[j]? = some (.string l[j])
theorem TB.cell {w : World} {g : Nat} {l : List ByteArray} (h : TB w g l) (j : Nat) (hj : j < l.length) : w.cell? ⟨g, j, none⟩ = some (.string l[j]) := by
  obtain ⟨cur, h1, h2⟩ := h
  rw [cell_of_row w g j cur 9 (0, 0) h1]
  exact h2 j hj
theorem TB.frozen {w : World} {g : Nat} {l : List ByteArray} (h : TB w g l) (j : Nat) : w.frozen? ⟨g, j, none⟩ = false := by
  obtain ⟨cur, h1, h2⟩ := h
  simp [World.frozen?, h1]
theorem TB.lt {w : World} {g : Nat} {l : List ByteArray} (h : TB w g l) : g < w.heap.size := by
  obtain ⟨cur, h1, h2⟩ := h
  exact (Array.getElem?_eq_some_iff.1 h1).1
theorem TB.set {w : World} {g : Nat} {l : List ByteArray} (h : TB w g l) (i : Nat) (hi : i < l.length) (x : ByteArray) : TB (w.setCell ⟨g, i, none⟩ (.string x)) g (l.set i x) := by
  obtain ⟨cur, h1, h2⟩ := h
  have hc := h2 i hi
  have his : i < cur.size := (Array.getElem?_eq_some_iff.1 hc).1
  refine ⟨_, heap_setCell_same w g i cur 9 _ h1, fun j hj => ?_⟩
  have hj' : j < l.length := by simpa using hj
  rw [Array.getElem?_setIfInBounds]
  by_cases he : i = j
  · subst he
    simp [his]
  · rw [if_neg he, h2 j hj']
    simp [List.getElem_set_ne he]
theorem TB.below {w w' : World} {g B : Nat} {l : List ByteArray} (h : TB w g l) (hb : Below B w w') (hg : g < B) : TB w' g l := by
  obtain ⟨cur, h1, h2⟩ := h
  exact ⟨cur, by rw [hb.block g hg]; exact h1, h2⟩
theorem TB.ss {w : World} {g : Nat} {l : List ByteArray} (h : TB w g l) (cap n : Nat) (hn : l.length = n) (hl : n ≤ 1100000) : SS w (.slice (some ⟨g, 0, none⟩) n cap) g 0 l := by
  subst hn
  exact ⟨_, cap, rfl, hl, fun _ => rfl, fun j hj => by rw [Nat.zero_add]; exact h.cell j hj⟩

/-- 'make([]string, n)' -/
theorem TB.made (n : Nat) (h : n ≤ 1000000000) (W : World) : ∃ w', (Instr.makeSlice 22 (.int .i64 (n : Int)) (.int .i64 (n : Int))).run Tryd.prog W = .ok (.slice (some ⟨W.heap.size, 0, none⟩) n n) w' ∧ TB w' W.heap.size (List.replicate n ByteArray.empty) ∧ Below W.heap.size W w' ∧ w'.heap.size = W.heap.size + 1 := by
  obtain ⟨i0, hi, hz0, hz1, hz2⟩ := info_parts Tryd.info9
  have h1 := run_make (P := Tryd.prog) W 22 9 i0 (.string ByteArray.empty) Tryd.underlying22 hi hz0 .i64 .i64 (n : Int) (n : Int) (by omega) (by omega) (by rw [hz2]; omega) (by omega)
  refine ⟨_, by simpa using h1, ⟨_, Go.heap_alloc_new W _, fun j hj => ?_⟩, (Below.refl _ _).alloc (Nat.le_refl _) _, by simp⟩
  have hj' : j < n := by simpa using hj
  have e : (madeCells (Value.string ByteArray.empty).cells (n * i0.size)).toList = List.replicate n (.string ByteArray.empty) := by
    rw [hz1]
    simp [Value.cells, toList_madeCells_one]
  rw [← Array.getElem?_toList, e]
  simp [hj']

def srow (l : List ByteArray) (m : Nat) : List ByteArray := l.take m ++ List.replicate (l.length - m) ByteArray.empty
theorem srow_len (l : List ByteArray) (m : Nat) (h : m ≤ l.length) : (srow l m).length = l.length := by simp [srow]; omega
theorem srow_step (l : List ByteArray) (m : Nat) (h : m < l.length) : (srow l m).set m l[m] = srow l (m + 1) := by
  unfold srow
  have e : l.length - m = (l.length - (m + 1)) + 1 := by omega
  have e2 : (l.take m).length = m := by simp; omega
  rw [e, List.replicate_succ, List.set_append_right _ _ (by omega), e2, Nat.sub_self, List.set_cons_zero, ← List.take_append_getElem h, List.append_assoc]
  rfl
theorem srow_all (l : List ByteArray) : srow l l.length = l := by simp [srow]
def ToS (w : World) (l : List ByteArray) (g : Nat) (i : Value) (wr : World) : Prop := ∃ m : Nat, m ≤ l.length ∧ i = .int .i64 m ∧ TB wr g (srow l m) ∧ Below w.heap.size w wr

set_option maxRecDepth 100000 in
set_option maxHeartbeats 400000 in
theorem toStringS_any (v : Value) (ga oa : Nat) (l : List ByteArray) (w : World) (hv : SS w v ga oa l) (hg : 0 < l.length → ga < w.heap.size) :
    Calls Tryd.prog 20 #[v] w fun e w' => ∃ g, e = .returned (.slice (some ⟨g, 0, none⟩) l.length l.length) ∧ w.heap.size ≤ g ∧ TB w' g l ∧ Below w.heap.size w w' := by
  obtain ⟨a, cap, rfl, hl, hA, hc⟩ := hv
  obtain ⟨n, hn⟩ : ∃ n, l.length = n := ⟨_, rfl⟩
  obtain ⟨w2, hmk, hib, hb2, hs2⟩ := TB.made n (by omega) w
  have HST : Hid (ToS w l w.heap.size (.int .i64 0) w2) := ⟨0, by omega, rfl, by simpa [srow, hn] using hib, hb2⟩
  have HA : Hid (0 < n → a = some ⟨ga, oa, none⟩ ∧ ga < w.heap.size) := by rw [← hn]; exact fun h => ⟨hA h, hg h⟩
  rw [hn] at hl ⊢
  clear hib hb2 hs2 hA hg
  go_enter Tryd.func20, Tryd.ntmps20
  go_wp2
  clear hmk
  go_loopw [4] (fun i wr => ToS w l w.heap.size i wr) (fun i _ => n - (intOf i).toNat)
  case atStart => exact HST.out
  case round =>
    obtain ⟨m, hm, rfl, hib, hbel⟩ := hrel
    have htl := srow_len l m hm
    clear HST
    by_cases hlt : m < n
    · obtain ⟨ea, hga⟩ := HA.out (by omega)
      subst ea
      have c1 : wr.cell? ⟨ga, oa + m, none⟩ = some (.string (l[m]'(by omega))) := (hbel.cell (p := ⟨ga, oa + m, none⟩) hga).trans (hc m (by omega))
      have c0 := hib.cell m (by omega)
      have f0 := hib.frozen m
      have hs := hib.set m (by omega) (l[m]'(by omega))
      rw [srow_step l m (by omega)] at hs
      have HS : Hid (TB (wr.setCell ⟨w.heap.size, m, none⟩ (.string (l[m]'(by omega)))) w.heap.size (srow l (m + 1)) ∧ Below w.heap.size w (wr.setCell ⟨w.heap.size, m, none⟩ (.string (l[m]'(by omega))))) := ⟨hs, hbel.setCell (p := ⟨w.heap.size, m, none⟩) (Nat.le_refl _) _⟩
      generalize (srow l m)[m]'(by omega) = Y at *
      generalize l[m]'(by omega) = X at *
      clear hs hib hbel htl HA hc
      have i1 : (m : Int) < (n : Int) := by omega
      have i2 : (0 : Int) ≤ (m : Int) := by omega
      go_wp2
      go_roundw
      case rel => exact ⟨m + 1, by omega, by go_num, HS.out.1, HS.out.2⟩
      case measure => simp [intOf]; omega
    · have hme : m = n := by omega
      have HF : Hid (TB wr w.heap.size l) := by
        have e : srow l m = l := by rw [hme, ← hn]; exact srow_all l
        rw [← e]
        exact hib
      subst hme
      clear hib htl HA hc
      go_wp2
      go_ret
      exact ⟨w.heap.size, rfl, Nat.le_refl _, HF.out, hbel⟩

/-- so many bytes in all, and one for each text -/
def szL (l : List ByteArray) : Nat := l.length + (l.map ByteArray.size).sum
theorem sz_le (l : List ByteArray) (x : ByteArray) (h : x ∈ l) : x.size ≤ szL l := by
  unfold szL
  induction l with
  | nil => simp at h
  | cons y r ih =>
    rcases List.mem_cons.1 h with rfl | h
    · simp; omega
    · have := ih h
      simp at this ⊢
      omega
def preS (l : List ByteArray) (m : Nat) : Nat := ((l.take m).map ByteArray.size).sum
theorem preS_step (l : List ByteArray) (m : Nat) (h : m < l.length) : preS l (m + 1) = preS l m + l[m].size := by
  unfold preS
  rw [← List.take_append_getElem h, List.map_append, List.sum_append]
  simp
theorem preS_le (l : List ByteArray) (m : Nat) : preS l m ≤ (l.map ByteArray.size).sum := by
  have e : (l.map ByteArray.size).sum = preS l m + ((l.drop m).map ByteArray.size).sum := by
    unfold preS
    rw [← List.sum_append, ← List.map_append, List.take_append_drop]
  omega
theorem preS_all (l : List ByteArray) : preS l l.length = (l.map ByteArray.size).sum := by simp [preS]

def SzR (l : List ByteArray) (w : World) (x i : Value) (wr : World) : Prop := ∃ m : Nat, m ≤ l.length ∧ i = .int .i64 m ∧ x = .int .i64 (1048576 - (l.length : Int) - (preS l m : Int)) ∧ l.length + preS l m ≤ 1048576 ∧ wr = w

def wr_cell (w : World) (g o m : Nat) (x : ByteArray) : Prop := w.cell? ⟨g, o + m, none⟩ = some (.string x)

/-- what the law measures: what is left of 1 << 20, or less than nothing -/
def szA (l : List ByteArray) : Int := if szL l ≤ 1048576 then 1048576 - (szL l : Int) else -1

theorem szStringS_big (a : Option Addr) (n cap : Nat) (w : World) (h : 1048576 < n) (hm : n ≤ 9223372036854775807) :
    Calls Tryd.prog 13 #[.slice a n cap, .int .i64 1048576] w fun e w' => e = .returned (.int .i64 (-1)) ∧ w' = w := by
  go_enter Tryd.func13, Tryd.ntmps13
  go_wp2
  go_ret
  exact ⟨rfl, rfl⟩

set_option maxRecDepth 100000 in
set_option maxHeartbeats 400000 in
theorem szStringS_any (v : Value) (ga oa : Nat) (l : List ByteArray) (w : World) (hv : SS w v ga oa l) (hz : ∀ x ∈ l, x.size ≤ 9223372036854775807) (hl0 : l.length ≤ 1048576) :
    Calls Tryd.prog 13 #[v, .int .i64 1048576] w fun e w' => e = .returned (.int .i64 (szA l)) ∧ w' = w := by
  obtain ⟨a, cap, rfl, hl, hA, hc⟩ := hv
  obtain ⟨n, hn⟩ : ∃ n, l.length = n := ⟨_, rfl⟩
  have HA : Hid (0 < n → a = some ⟨ga, oa, none⟩) := by rw [← hn]; exact hA
  have HZ : Hid (szA l = if szL l ≤ 1048576 then 1048576 - (szL l : Int) else -1) := rfl
  have HN : Hid (∀ m (h : m < n), preS l (m + 1) = preS l m + (l[m]'(by omega)).size ∧ (l[m]'(by omega)).size ≤ 9223372036854775807 ∧ wr_cell w ga oa m (l[m]'(by omega))) := by
    intro m hm
    exact ⟨preS_step l m (by omega), hz _ (List.getElem_mem _), hc m (by omega)⟩
  have HP : Hid (∀ m, n + preS l m ≤ szL l) := fun m => by
    have := preS_le l m
    unfold szL
    omega
  have HE : Hid (n + preS l n = szL l) := by
    have := preS_all l
    rw [hn] at this
    show n + preS l n = szL l
    unfold szL
    rw [this, hn]
  have HST : Hid (SzR l w (.int .i64 (1048576 - (n : Int))) (.int .i64 0) w) := ⟨0, by omega, rfl, by simp [preS, hn], by simp [preS]; omega, rfl⟩
  rw [hn] at hl hl0 ⊢
  clear hA hc hz
  generalize szA l = A at *
  have hnn : ¬ ((1048576 : Int) - (n : Int) < 0) := by omega
  go_enter Tryd.func13, Tryd.ntmps13
  go_wp2
  go_loopw [1, 5] (fun x i wr => SzR l w x i wr) (fun _ i _ => n - (intOf i).toNat)
  case atStart => exact HST.out
  case round =>
    obtain ⟨m, hm, rfl, rfl, hle, rfl⟩ := hrel
    rw [hn] at hm hle ⊢
    clear HST
    by_cases hlt : m < n
    · obtain ⟨hps, hsz, c0⟩ := HN.out m hlt
      have hpl := HP.out (m + 1)
      have ea := HA.out (by omega)
      subst ea
      unfold wr_cell at c0
      generalize l[m]'(by omega) = X at *
      obtain ⟨P0, hP0⟩ : ∃ P0, preS l m = P0 := ⟨_, rfl⟩
      rw [hP0] at hle hps ⊢
      have i1 : (m : Int) < (n : Int) := by omega
      have i2 : (0 : Int) ≤ (m : Int) := by omega
      by_cases hx : n + P0 + X.size ≤ 1048576
      · have HS : Hid (SzR l wr (.int .i64 (1048576 - (n : Int) - (P0 : Int) - (X.size : Int))) (.int .i64 ((m : Int) + 1)) wr) := ⟨m + 1, by omega, by simp, by rw [hps, hn]; congr 1; omega, by rw [hps, hn]; omega, rfl⟩
        have i3 : ¬ ((1048576 : Int) - (n : Int) - (P0 : Int) - (X.size : Int) < 0) := by omega
        clear hps hpl hP0 HN HP HE HA
        go_wp2
        go_roundw
        case rel => exact HS.out
        case measure => simp [intOf]; omega
      · have hA1 : A = -1 := by rw [HZ.out, if_neg (by omega)]
        subst hA1
        have i3 : ((1048576 : Int) - (n : Int) - (P0 : Int) - (X.size : Int) < 0) := by omega
        clear hps hpl hP0 HN HP HE HA HZ
        go_wp2
        go_ret
        exact ⟨rfl, rfl⟩
    · have hme : m = n := by omega
      subst hme
      have hA1 : 1048576 - (m : Int) - (preS l m : Int) = A := by
        have := HE.out
        rw [HZ.out, if_pos (by omega)]
        omega
      clear HN HP HE HA HZ
      generalize preS l m = P0 at *
      subst hA1
      go_wp2
      go_ret
      exact ⟨rfl, rfl⟩

/-- what is put into the hands of a law: texts that were there, all up to the capacity -/
def IsRowS (w : World) (a : Option Addr) (len cap : Nat) (ss : List ByteArray) : Prop :=
  (a = none ∧ len = 0 ∧ cap = 0 ∧ ss = []) ∨ ∃ x : Addr, a = some x ∧ len ≤ cap ∧ cap ≤ maxLen ∧ len ≤ ss.length ∧ (∀ i, i < ss.length → w.cell? (x.add i) = some (.string (ss.getD i ByteArray.empty))) ∧ ∀ s ∈ ss, s.size ≤ maxLen
theorem IsRowS.len {w : World} {a : Option Addr} {len cap : Nat} {ss : List ByteArray} (h : IsRowS w a len cap ss) : len ≤ maxLen := by
  rcases h with ⟨_, rfl, _⟩ | ⟨x, _, h1, h2, _⟩
  · omega
  · omega
theorem SS.lt {w : World} {v : Value} {g o : Nat} {l : List ByteArray} (h : SS w v g o l) : 0 < l.length → g < w.heap.size := by
  intro h0
  obtain ⟨_, _, _, _, _, hc⟩ := h
  have h4 := hc 0 h0
  rcases Nat.lt_or_ge g w.heap.size with hlt | hge
  · exact hlt
  · simp [World.cell?, Array.getElem?_eq_none hge] at h4
theorem ss_of_row {w : World} {a : Option Addr} {len cap : Nat} {ss : List ByteArray} (h : IsRowS w a len cap ss) (hl : len ≤ 1048576) : ∃ (g o : Nat) (l : List ByteArray), l.length = len ∧ SS w (.slice a len cap) g o l ∧ ∀ x ∈ l, x.size ≤ maxLen := by
  rcases h with ⟨rfl, rfl, rfl, rfl⟩ | ⟨x, rfl, h1, h2, h3, hc, hz⟩
  · exact ⟨0, 0, [], rfl, ⟨none, 0, rfl, by simp, fun h => absurd h (by simp), fun j hj => absurd hj (by simp)⟩, fun x hx => absurd hx (by simp)⟩
  · have hlen : (ss.take len).length = len := by simp; omega
    have hadd : ∀ j, 0 < len → x.add j = ⟨x.block, x.off + j, none⟩ := fun j h0 => by
      have h4 := hc 0 (by omega)
      have e : x.add 0 = x := by unfold Addr.add; simp
      rw [e] at h4
      have hs := World.cell?_spot h4
      cases x
      simp at hs
      subst hs
      unfold Addr.add
      split <;> simp_all
    refine ⟨x.block, x.off, ss.take len, hlen, ⟨some x, cap, by rw [hlen], by omega, fun h0 => ?_, fun j hj => ?_⟩, fun y hy => hz y (List.mem_of_mem_take hy)⟩
    · have := hadd 0 (by omega)
      have e : x.add 0 = x := by unfold Addr.add; simp
      rw [e] at this
      rw [this]
    · have h4 := hc j (by omega)
      rw [hadd j (by omega)] at h4
      rw [h4]
      simp [List.getD, List.getElem?_eq_getElem (show j < ss.length by omega)]

end Go.Proofs.YtkgibgadngeddabDoor
/-
  What TagText answers, the program's and the specification's.
-/
namespace Go.Proofs.YtkgibgadngeddabDoor
open Go.RowKit
set_option linter.unusedVariables false

/-- a part behind its length -/
def tagP (p : ByteArray) : List UInt8 := M.varL p.size ++ p.data.toList
def tagL (k : Nat) (l : List ByteArray) : List UInt8 := UInt8.ofNat k :: l.flatMap tagP
def tagOk (k : Int) (l : List ByteArray) : Bool := decide ((1 ≤ k ∧ k ≤ 8) ∧ l.length ≤ 60) && l.all (fun p => decide (p.size ≤ 200))
def tagB (k : Int) (l : List ByteArray) : ByteArray := if tagOk k l then ⟨(tagL k.toNat l).toArray⟩ else ⟨#[]⟩
def tagS (k : Nat) (l : List ByteArray) : ByteArray := ⟨(tagL k l).toArray⟩

theorem tagOk_head (k : Int) (l : List ByteArray) (h : ¬ ((1 ≤ k ∧ k ≤ 8) ∧ l.length ≤ 60)) : tagOk k l = false := by
  unfold tagOk
  rw [decide_eq_false h, Bool.false_and]
theorem tagOk_part (k : Int) (l : List ByteArray) (m : Nat) (h : m < l.length) (hb : 200 < l[m].size) : tagOk k l = false := by
  unfold tagOk
  have : l.all (fun p => decide (p.size ≤ 200)) = false := by
    rw [List.all_eq_false]
    exact ⟨l[m], List.getElem_mem _, by simp; omega⟩
  rw [this, Bool.and_false]
theorem tagOk_yes (k : Int) (l : List ByteArray) (h : (1 ≤ k ∧ k ≤ 8) ∧ l.length ≤ 60) (hp : ∀ m (h : m < l.length), l[m].size ≤ 200) : tagOk k l = true := by
  unfold tagOk
  have : l.all (fun p => decide (p.size ≤ 200)) = true := by
    rw [List.all_eq_true]
    intro x hx
    obtain ⟨j, hj, rfl⟩ := List.getElem_of_mem hx
    simpa using hp j hj
  rw [this, decide_eq_true h]
  rfl
theorem tagB_no {k : Int} {l : List ByteArray} (h : tagOk k l = false) : tagB k l = ⟨#[]⟩ := by
  unfold tagB
  rw [h]
  rfl
theorem tagB_yes {k : Nat} {l : List ByteArray} (h : tagOk (k : Int) l = true) : tagB (k : Int) l = tagS k l := by
  unfold tagB
  rw [h]
  rfl

theorem tagP_len (p : ByteArray) : (tagP p).length ≤ p.size + 10 := by
  have := M.varL_len p.size
  have e : p.data.toList.length = p.size := Array.length_toList
  unfold tagP
  rw [List.length_append]
  omega
theorem tagL_step (k : Nat) (l : List ByteArray) (m : Nat) (h : m < l.length) : tagL k (l.take (m + 1)) = tagL k (l.take m) ++ tagP l[m] := by
  unfold tagL
  rw [← List.take_append_getElem h, List.flatMap_append]
  simp
theorem tagS_step (k : Nat) (l : List ByteArray) (m : Nat) (h : m < l.length) : (tagS k (l.take m) ++ ⟨(M.varL l[m].size).toArray⟩) ++ l[m] = tagS k (l.take (m + 1)) := by
  apply ByteArray.ext
  apply Array.toList_inj.1
  unfold tagS
  rw [tagL_step k l m h]
  simp [tagP, ByteArray.data_append]
theorem tagL_len (k : Nat) (l : List ByteArray) (m : Nat) (hm : m ≤ l.length) (hp : ∀ j (h : j < l.length), j < m → l[j].size ≤ 200) : (tagL k (l.take m)).length ≤ 1 + 210 * m := by
  induction m with
  | zero => simp [tagL]
  | succ m ih =>
    have h1 := ih (by omega) (fun j hj hlt => hp j hj (by omega))
    rw [tagL_step k l m (by omega), List.length_append]
    have h2 := tagP_len (l[m]'(by omega))
    have h3 := hp m (by omega) (by omega)
    omega

/-- 'string([]byte{x})' -/
theorem one_s (w : World) (x : Int) (b : UInt8) (h : x = (b.toNat : Int)) : (convert 51 9 (.slice (some ⟨w.heap.size, 0, none⟩) 1 1)).run Tryd.prog (w.alloc (.cells #[.int .u8 x] 5)) = .ok (.string ⟨[b].toArray⟩) (w.alloc (.cells #[.int .u8 x] 5)) := by
  subst h
  refine run_convert_bytes_back _ 51 9 5 ⟨w.heap.size, 0, none⟩ 1 [b] Tryd.underlying51 Tryd.underlying5 Tryd.underlying9 ?_
  intro j hj
  have h0 : j = 0 := by simp at hj; exact hj
  subst h0
  simp [Addr.add]

theorem l01Var_v (n : Nat) (V : ByteArray) (w : World) (hn : n ≤ 1000000000) (hV : (⟨(M.varL n).toArray⟩ : ByteArray) = V) :
    Calls Tryd.prog 30 #[.int .i64 n] w fun e w' => e = .returned (.string V) ∧ Below w.heap.size w w' := by
  subst hV
  exact l01Var_any n w hn

/-- what the loop of the specification's TagText holds at each round's head -/
def TgS (k : Nat) (l : List ByteArray) (w : World) (s i : Value) (wr : World) : Prop :=
  ∃ m : Nat, m ≤ l.length ∧ i = .int .i64 m ∧ s = .string (tagS k (l.take m)) ∧ Hid (∀ j (h : j < l.length), j < m → l[j].size ≤ 200) ∧ Below w.heap.size w wr

theorem pt_step {l : List ByteArray} {m : Nat} (hm : m < l.length) (hp : l[m].size ≤ 200) (h : ∀ j (h : j < l.length), j < m → l[j].size ≤ 200) : Hid (∀ j (h : j < l.length), j < m + 1 → l[j].size ≤ 200) := by
  intro j hj hlt
  rcases Nat.lt_or_ge j m with h1 | h1
  · exact h j hj h1
  · have : j = m := by omega
    subst this
    exact hp

theorem sTagText_no (k : Int) (a : Option Addr) (n cap : Nat) (w : World) (h : ¬ ((1 ≤ k ∧ k ≤ 8) ∧ n ≤ 60)) (hn : n ≤ 1100000) :
    Calls Tryd.prog 16 #[.int .i64 k, .slice a n cap] w fun e w' => e = .returned (.tuple #[.string ⟨#[]⟩, .bool false]) ∧ Below w.heap.size w w' := by
  by_cases hk : 1 ≤ k ∧ k ≤ 8
  · have hd : decide ((1 : Int) ≤ k ∧ k ≤ 8) = true := by simp; omega
    have hnn : 60 < n := by omega
    clear h
    go_enter Tryd.func16, Tryd.ntmps16
    go_wp2_with fail
    refine (l01In_any _ _ _ _).mono ?_
    rintro e w' ⟨rfl, rfl⟩
    rw [hd]
    go_wp2
    go_ret2
    exact ⟨rfl, Below.refl _ _⟩
  · have hd : decide ((1 : Int) ≤ k ∧ k ≤ 8) = false := by simp; omega
    clear h
    go_enter Tryd.func16, Tryd.ntmps16
    go_wp2_with fail
    refine (l01In_any _ _ _ _).mono ?_
    rintro e w' ⟨rfl, rfl⟩
    rw [hd]
    go_wp2
    go_ret2
    exact ⟨rfl, Below.refl _ _⟩

set_option maxRecDepth 100000 in
set_option maxHeartbeats 1000000 in
theorem sTagText_in (k : Nat) (v : Value) (g o : Nat) (l : List ByteArray) (w : World) (h1 : 1 ≤ k) (h8 : k ≤ 8) (hl : l.length ≤ 60) (hv : SS w v g o l) :
    Calls Tryd.prog 16 #[.int .i64 k, v] w fun e w' => e = .returned (.tuple #[.string (tagB (k : Int) l), .bool (tagOk (k : Int) l)]) ∧ Below w.heap.size w w' := by
  have hgl := hv.lt
  obtain ⟨a, cap, rfl, _, hA, hc⟩ := hv
  have hd : decide ((1 : Int) ≤ (k : Int) ∧ (k : Int) ≤ 8) = true := by simp; omega
  obtain ⟨n, hn⟩ : ∃ n, l.length = n := ⟨_, rfl⟩
  have HA : Hid (0 < n → a = some ⟨g, o, none⟩ ∧ g < w.heap.size) := by rw [← hn]; exact fun h => ⟨hA h, hgl h⟩
  have HC : Hid (∀ j (h : j < l.length), w.cell? ⟨g, o + j, none⟩ = some (.string l[j])) := hc
  obtain ⟨T, hT⟩ : ∃ T, tagB (k : Int) l = T := ⟨_, rfl⟩
  obtain ⟨R, hR⟩ : ∃ R, tagOk (k : Int) l = R := ⟨_, rfl⟩
  have HT : Hid (tagB (k : Int) l = T) := hT
  have HR : Hid (tagOk (k : Int) l = R) := hR
  rw [hn] at hl
  rw [hT, hR, hn]
  clear hA hgl hc hT hR
  go_enter Tryd.func16, Tryd.ntmps16
  go_wp2_with fail
  refine (l01In_any _ _ _ _).mono ?_
  rintro e w' ⟨rfl, rfl⟩
  rw [hd]
  have hcv := one_s w' (k : Int) (UInt8.ofNat k) (by simp; omega)
  have e1 : (⟨[UInt8.ofNat k].toArray⟩ : ByteArray) = tagS k [] := by simp [tagS, tagL]
  rw [e1] at hcv
  have HST : Hid (TgS k l w' (.string (tagS k [])) (.int .i64 0) (w'.alloc (.cells #[.int .u8 (k : Int)] 5))) := ⟨0, by omega, rfl, rfl, by intro j _ h; omega, (Below.refl _ _).alloc (Nat.le_refl _) _⟩
  clear e1
  go_wp2
  clear hcv hd
  go_loopw [6, 7] (fun s i wr => TgS k l w' s i wr) (fun _ i _ => n - (intOf i).toNat)
  case atStart => exact HST.out
  case round =>
    obtain ⟨m, hm, rfl, rfl, HI, hbel⟩ := hrel
    rw [hn] at hm
    clear HST
    by_cases hlt : m < n
    · obtain ⟨ea, hga⟩ := HA.out (by omega)
      subst ea
      have c0 : wr.cell? ⟨g, o + m, none⟩ = some (.string (l[m]'(by omega))) := (hbel.cell (p := ⟨g, o + m, none⟩) hga).trans (HC.out m (by omega))
      have hgr : g < wr.heap.size := Nat.lt_of_lt_of_le hga hbel.size
      have i1 : (m : Int) < (n : Int) := by omega
      have i2 : (0 : Int) ≤ (m : Int) := by omega
      by_cases hx : 200 < (l[m]'(by omega)).size
      · have hF := tagOk_part (k : Int) l m (by omega) hx
        have hT := tagB_no hF
        rw [HT.out] at hT
        rw [HR.out] at hF
        subst hF
        subst hT
        clear HI HT HR HC HA
        generalize l[m]'(by omega) = X at *
        generalize tagS k (l.take m) = S at *
        go_wp2
        go_ret2
        exact ⟨rfl, hbel⟩
      · have hsz : (tagS k (l.take m)).size ≤ 13000 := by
          have h := tagL_len k l m (by omega) HI.out
          have e : (tagS k (l.take m)).size = (tagL k (l.take m)).length := by simp [tagS, ByteArray.size]
          omega
        have hst := tagS_step k l m (by omega)
        have HI2 := pt_step (show m < l.length by omega) (by omega) HI.out
        have hvz := varA_size (l[m]'(by omega)).size
        have HN : Hid (∀ W, Below w'.heap.size w' W → TgS k l w' (.string ((tagS k (l.take m) ++ ⟨(M.varL (l[m]'(by omega)).size).toArray⟩) ++ l[m]'(by omega))) (.int .i64 ((m : Int) + 1)) W) := by
          rw [hst]
          exact fun W hW => ⟨m + 1, by omega, by simp, rfl, HI2, hW⟩
        clear HI HI2 HT HR HC HA hst
        generalize l[m]'(by omega) = X at *
        generalize tagS k (l.take m) = S at *
        obtain ⟨V, hV⟩ : ∃ V, (⟨(M.varL X.size).toArray⟩ : ByteArray) = V := ⟨_, rfl⟩
        rw [hV] at HN hvz
        have HV : Hid ((⟨(M.varL X.size).toArray⟩ : ByteArray) = V) := hV
        have q1 : ¬ (9223372036854775807 < S.size + V.size) := by omega
        have q2 : ¬ (9223372036854775807 < S.size + V.size + X.size) := by omega
        clear hV
        go_wp2
        go_region_held3 (fun W => W.cell? ⟨g, o + m, none⟩ = some (.string X)) (first | go_keep | exact (hb1.cell (p := ⟨g, o + m, none⟩) hgr).trans c0) ((go_at_call 30; refine (l01Var_v X.size V _ (by omega) HV.out).mono ?_; rintro e w1 ⟨rfl, hb1⟩))
        have hb2 := hbel.drew.trans (hb1.mono hbel.size)
        clear hb1
        go_wp2
        go_roundw
        case rel => exact HN.out _ hb2
        case measure => simp [intOf]; omega
    · have hme : m = n := by omega
      have hF := tagOk_yes (k : Int) l ⟨by omega, by omega⟩ (fun j hj => HI.out j hj (by omega))
      have hT := tagB_yes hF
      rw [HT.out] at hT
      rw [HR.out] at hF
      subst hF
      have e2 : l.take m = l := by rw [hme, ← hn]; exact List.take_length
      rw [e2, ← hT]
      subst hme
      clear HI HT HR HC HA e2 hT
      go_wp2
      go_ret2
      exact ⟨rfl, hbel⟩

theorem sTagText_any (k : Int) (v : Value) (g o : Nat) (l : List ByteArray) (w : World) (hv : SS w v g o l) :
    Calls Tryd.prog 16 #[.int .i64 k, v] w fun e w' => e = .returned (.tuple #[.string (tagB k l), .bool (tagOk k l)]) ∧ Below w.heap.size w w' := by
  by_cases h : (1 ≤ k ∧ k ≤ 8) ∧ l.length ≤ 60
  · obtain ⟨n, rfl⟩ := Int.eq_ofNat_of_zero_le (show 0 ≤ k by omega)
    exact sTagText_in n v g o l w (by omega) (by omega) h.2 hv
  · have hF := tagOk_head k l h
    rw [tagB_no hF, hF]
    obtain ⟨a, cap, rfl, hl, _⟩ := hv
    exact sTagText_no k a l.length cap w h hl

theorem tagged_no (k : Int) (a : Option Addr) (n cap : Nat) (w : World) (h : ¬ ((1 ≤ k ∧ k ≤ 8) ∧ n ≤ 60)) (hn : n ≤ 1100000) :
    Calls Tryd.prog 36 #[.int .i64 k, .slice a n cap] w fun e w' => e = .returned (.tuple #[.string ⟨#[]⟩, .bool false]) ∧ Below w.heap.size w w' := by
  rcases (show k < 1 ∨ (1 ≤ k ∧ 8 < k) ∨ (1 ≤ k ∧ k ≤ 8 ∧ 60 < n) from by omega) with hk | ⟨hk, hk2⟩ | ⟨hk, hk2, hk3⟩
  · clear h
    go_enter Tryd.func36, Tryd.ntmps36
    go_wp2
    go_ret2
    exact ⟨rfl, Below.refl _ _⟩
  · clear h
    go_enter Tryd.func36, Tryd.ntmps36
    go_wp2
    go_ret2
    exact ⟨rfl, Below.refl _ _⟩
  · clear h
    go_enter Tryd.func36, Tryd.ntmps36
    go_wp2
    go_ret2
    exact ⟨rfl, Below.refl _ _⟩

/-- a string appended to what is owned -/
theorem wp_appStr {w : World} {ops : Array Oper} {rest : List Oper} {o : Oper} {a : Act} {Q : Exit → Act → World → Prop} (hgd : o.guard = none) (s x : Operand)
    (ho : o.op = .call { callee := .builtin .append, args := #[s, x], argTypes := #[51, 9] })
    (B : Nat) (w0 : World) (v : Value) (l : List UInt8) (hs : a.eval s = v) (hown : OB B w0 w v l) (t : ByteArray) (hx : a.eval x = .string t) (hlen : l.length + t.size ≤ 1000000000)
    (h : ∀ v' w', OB B w0 w' v' (l ++ t.data.toList) → wpList Tryd.prog ops Q rest (a.put o.dst v') w') : wpList Tryd.prog ops Q (o :: rest) a w := by
  obtain ⟨i0, hi, hz0, hz1, hz2⟩ := info_parts Tryd.info5
  refine Lib.wpList_append_own_string w hgd s x 51 9 ho B 5 i0 Tryd.underlying51 Tryd.underlying9 hi hz0 hz1 hz2 v l.length (bv l) hs hown.1 t hx (by unfold maxLen; omega) (by omega) hown.2.2 ?_
  intro v' w' h1 h2 _
  have e : t.data.toList.length = t.size := Array.length_toList
  refine h v' w' ⟨?_, hown.2.1.grown h2 hown.2.2 (fun k hk => (hown.1.lt k hk).1), Nat.le_trans hown.2.2 h2.size⟩
  rw [List.length_append, bv_append, e]
  exact h1

/-- what is owned stays so behind a call that leaves all that was there as it was -/
theorem OB.later {B : Nat} {w0 w w' : World} {v : Value} {l : List UInt8} (h : OB B w0 w v l) (hb : Below w.heap.size w w') : OB B w0 w' v l := by
  refine ⟨⟨h.1.1, ?_⟩, h.2.1.trans (hb.mono h.2.2), Nat.le_trans h.2.2 hb.size⟩
  rcases h.1.2 with hn | ⟨g, cap, cur, hv, hbg, hg, rest⟩
  · exact .inl hn
  · refine .inr ⟨g, cap, cur, hv, hbg, ?_, rest⟩
    rw [hb.block g (Array.getElem?_eq_some_iff.1 hg).1]
    exact hg

theorem OB.one (w : World) (x : Int) (b : UInt8) (h : x = (b.toNat : Int)) : OB w.heap.size w (w.alloc (.cells #[.int .u8 x] 5)) (.slice (some ⟨w.heap.size, 0, none⟩) 1 1) [b] := by
  subst h
  exact ⟨World.ownsRow_lit w #[.int .u8 (b.toNat : Int)] 1 (Nat.le_refl _) (by decide) (by simp), (Below.refl _ _).alloc (Nat.le_refl _) _, by simp⟩

/-- what the loop of tagged holds at each round's head -/
def TgI (k : Nat) (l : List ByteArray) (w : World) (v i : Value) (wr : World) : Prop :=
  ∃ m : Nat, m ≤ l.length ∧ i = .int .i64 m ∧ OB w.heap.size w wr v (tagL k (l.take m)) ∧ Hid (∀ j (h : j < l.length), j < m → l[j].size ≤ 200)

set_option maxRecDepth 100000 in
set_option maxHeartbeats 1000000 in
theorem tagged_in (k : Nat) (v : Value) (g o : Nat) (l : List ByteArray) (w : World) (h1 : 1 ≤ k) (h8 : k ≤ 8) (hl : l.length ≤ 60) (hv : SS w v g o l) :
    Calls Tryd.prog 36 #[.int .i64 k, v] w fun e w' => e = .returned (.tuple #[.string (tagB (k : Int) l), .bool (tagOk (k : Int) l)]) ∧ Below w.heap.size w w' := by
  have hgl := hv.lt
  obtain ⟨a, cap, rfl, _, hA, hc⟩ := hv
  obtain ⟨n, hn⟩ : ∃ n, l.length = n := ⟨_, rfl⟩
  have HA : Hid (0 < n → a = some ⟨g, o, none⟩ ∧ g < w.heap.size) := by rw [← hn]; exact fun h => ⟨hA h, hgl h⟩
  have HC : Hid (∀ j (h : j < l.length), w.cell? ⟨g, o + j, none⟩ = some (.string l[j])) := hc
  obtain ⟨T, hT⟩ : ∃ T, tagB (k : Int) l = T := ⟨_, rfl⟩
  obtain ⟨R, hR⟩ : ∃ R, tagOk (k : Int) l = R := ⟨_, rfl⟩
  have HT : Hid (tagB (k : Int) l = T) := hT
  have HR : Hid (tagOk (k : Int) l = R) := hR
  have HST : Hid (TgI k l w (.slice (some ⟨w.heap.size, 0, none⟩) 1 1) (.int .i64 0) (w.alloc (.cells #[.int .u8 (k : Int)] 5))) := ⟨0, by omega, rfl, by simpa [tagL] using OB.one w (k : Int) (UInt8.ofNat k) (by simp; omega), by intro j _ h; omega⟩
  rw [hn] at hl
  rw [hT, hR, hn]
  clear hA hgl hc hT hR
  go_enter Tryd.func36, Tryd.ntmps36
  go_wp2
  go_loopw [6, 27] (fun v i wr => TgI k l w v i wr) (fun _ i _ => n - (intOf i).toNat)
  case atStart => exact HST.out
  case round =>
    obtain ⟨m, hm, rfl, hown, HI⟩ := hrel
    rw [hn] at hm
    clear HST
    by_cases hlt : m < n
    · obtain ⟨ea, hga⟩ := HA.out (by omega)
      subst ea
      have c0 : wr.cell? ⟨g, o + m, none⟩ = some (.string (l[m]'(by omega))) := (hown.2.1.cell (p := ⟨g, o + m, none⟩) hga).trans (HC.out m (by omega))
      have i1 : (m : Int) < (n : Int) := by omega
      have i2 : (0 : Int) ≤ (m : Int) := by omega
      by_cases hx : 200 < (l[m]'(by omega)).size
      · have hF := tagOk_part (k : Int) l m (by omega) hx
        have hT := tagB_no hF
        rw [HT.out] at hT
        rw [HR.out] at hF
        subst hF
        subst hT
        clear HI HT HR HC HA
        generalize l[m]'(by omega) = X at *
        go_wp2
        try rw [Exit.noGoto_ret]
        go_ret2
        exact ⟨rfl, hown.2.1⟩
      · have hsz := tagL_len k l m (by omega) HI.out
        have HI2 := pt_step (show m < l.length by omega) (by omega) HI.out
        have hvz := varA_size (l[m]'(by omega)).size
        have HN : Hid (∀ v W, OB w.heap.size w W v (tagL k (l.take m) ++ (⟨(M.varL (l[m]'(by omega)).size).toArray⟩ ++ l[m]'(by omega) : ByteArray).data.toList) → TgI k l w v (.int .i64 ((m : Int) + 1)) W) := by
          intro v W hW
          refine ⟨m + 1, by omega, by simp, ?_, HI2⟩
          rw [tagL_step k l m (by omega)]
          simpa [tagP, ByteArray.data_append] using hW
        clear HI HI2 HT HR HC HA
        generalize l[m]'(by omega) = X at *
        generalize tagL k (l.take m) = S at *
        go_wp2_with fail
        refine (Short_yes X _ (by omega)).mono ?_
        rintro e w1 ⟨rfl, hb1⟩
        have hown1 := hown.later hb1
        have hz : ((⟨(M.varL X.size).toArray⟩ : ByteArray) ++ X).size ≤ 210 := by
          rw [ByteArray.size_append]
          omega
        generalize (⟨(M.varL X.size).toArray⟩ : ByteArray) ++ X = Y at *
        clear hown hb1
        go_wp2_with (at_builtin; refine wp_appStr rfl _ _ rfl w.heap.size w _ S rfl hown1 Y rfl ?c1 ?_)
        case c1 => omega
        intro v' w2 hown2
        go_wp2
        go_roundw
        case rel => exact HN.out _ _ hown2
        case measure => simp [intOf]; omega
    · have hme : m = n := by omega
      have hF := tagOk_yes (k : Int) l ⟨by omega, by omega⟩ (fun j hj => HI.out j hj (by omega))
      have hT := tagB_yes hF
      rw [HT.out] at hT
      rw [HR.out] at hF
      subst hF
      have e2 : l.take m = l := by rw [hme, ← hn]; exact List.take_length
      rw [e2] at hown
      have hcv := run_str hown
      have e3 : (⟨(tagL k l).toArray⟩ : ByteArray) = T := by rw [hT]; rfl
      rw [e3] at hcv
      subst hme
      clear HI HT HR HC HA e2 hT e3
      go_wp2
      go_ret2
      exact ⟨rfl, hown.2.1⟩

theorem tagged_any (k : Int) (v : Value) (g o : Nat) (l : List ByteArray) (w : World) (hv : SS w v g o l) :
    Calls Tryd.prog 36 #[.int .i64 k, v] w fun e w' => e = .returned (.tuple #[.string (tagB k l), .bool (tagOk k l)]) ∧ Below w.heap.size w w' := by
  by_cases h : (1 ≤ k ∧ k ≤ 8) ∧ l.length ≤ 60
  · obtain ⟨n, rfl⟩ := Int.eq_ofNat_of_zero_le (show 0 ≤ k by omega)
    exact tagged_in n v g o l w (by omega) (by omega) h.2 hv
  · have hF := tagOk_head k l h
    rw [tagB_no hF, hF]
    obtain ⟨a, cap, rfl, hl, _⟩ := hv
    exact tagged_no k a l.length cap w h hl

end Go.Proofs.YtkgibgadngeddabDoor
