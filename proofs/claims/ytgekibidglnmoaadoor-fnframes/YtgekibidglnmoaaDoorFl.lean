/-
  The walk of the law FnFrames: drawn records come back from their frames, also of a file that is cut.
-/
import Derived.Test.YtgekibidglnmoaaDoorUl
import Derived.Test.YtgekibidglnmoaaDoorFc
import Derived.Test.YtgekibidglnmoaaDoorPlaces
namespace Go.Proofs.YtgekibidglnmoaaDoor
open Go.RowKit
set_option linter.unusedVariables false

theorem code_later {w w' : World} {v : Value} (h : Code w.heap.size w v) (hb : Below w.heap.size w w') : Code w'.heap.size w' v := by
  obtain ⟨ao, b, off, len, cap, rfl, hl, h1, h2⟩ := h
  refine ⟨ao, b, off, len, cap, rfl, hl, fun h0 => ⟨(h1 h0).1, Nat.lt_of_lt_of_le (h1 h0).2 hb.size⟩, fun j hj => ?_⟩
  obtain ⟨n, hn, hc⟩ := h2 j hj
  exact ⟨n, hn, (hb.cell (p := ⟨b, off + j, none⟩) (h1 (by omega)).2).trans hc⟩

/-- two lists of the same texts -/
theorem sameTexts_yes (va vb : Value) (ga oa gb ob : Nat) (l : List ByteArray) (w : World) (ha : SS w va ga oa l) (hb : SS w vb gb ob l) :
    Calls Tryd.prog 11 #[va, vb] w fun e w' => e = .returned (.bool true) ∧ ∃ q, w' = w.drewN q := by
  obtain ⟨a, ca, rfl, hl, hA, hcA⟩ := ha
  obtain ⟨b, cb, rfl, _, hB, hcB⟩ := hb
  obtain ⟨n, hn⟩ : ∃ n, l.length = n := ⟨_, rfl⟩
  rw [hn] at hl ⊢
  have HA : Hid (0 < n → a = some ⟨ga, oa, none⟩) := by rw [← hn]; exact hA
  have HB : Hid (0 < n → b = some ⟨gb, ob, none⟩) := by rw [← hn]; exact hB
  clear hA hB
  go_enter Tryd.func11, Tryd.ntmps11
  go_wp2
  go_loopw [5] (fun i wr => EqS n w i wr) (fun i _ => n - (intOf i).toNat)
  case atStart => exact ⟨0, 0, by omega, rfl, rfl⟩
  case round =>
    obtain ⟨m, q, hm, rfl, rfl⟩ := hrel
    by_cases hlt : m < n
    · have ea := HA.out (by omega)
      have eb := HB.out (by omega)
      subst ea
      subst eb
      have c1 := hcA m (by omega)
      have c2 := hcB m (by omega)
      generalize l[m]'(by omega) = X at *
      have i1 : (m : Int) < (n : Int) := by omega
      have i2 : (0 : Int) ≤ (m : Int) := by omega
      clear hcA hcB HA HB
      go_wp2
      go_quiet (fail)
      go_wp2
      go_roundw
      case rel => exact ⟨m + 1, _, by omega, by go_num, rfl⟩
      case measure => simp [intOf]; omega
    · have hme : m = n := by omega
      subst hme
      clear hcA hcB HA HB
      go_wp2
      go_ret
      exact ⟨rfl, q, rfl⟩

/-- the file of the first k frames, and where each ends -/
def fileB (ts : List ByteArray) : Nat → ByteArray
  | 0 => ⟨#[]⟩
  | k + 1 => fileB ts k ++ frB (ts.getD k ⟨#[]⟩)
def endsN (ts : List ByteArray) (k : Nat) : List Nat := (List.range (k + 1)).map fun j => (fileB ts j).size
theorem endsN_succ (ts : List ByteArray) (k : Nat) : endsN ts (k + 1) = endsN ts k ++ [(fileB ts (k + 1)).size] := by
  unfold endsN
  rw [List.range_succ, List.map_append]
  rfl
theorem endsN_len (ts : List ByteArray) (k : Nat) : (endsN ts k).length = k + 1 := by simp [endsN]
theorem endsN_at (ts : List ByteArray) (k j : Nat) (h : j < (endsN ts k).length) : (endsN ts k)[j] = (fileB ts j).size := by simp [endsN]
theorem allL_append (a b : List ByteArray) : allL (a ++ b) = allL a ++ allL b := by unfold allL; rw [List.map_append, List.flatten_append]
theorem allL_one (t : ByteArray) : allL [t] = frL t := by simp [allL]
theorem fileB_list (ts : List ByteArray) : ∀ k, k ≤ ts.length → (fileB ts k).data.toList = allL (ts.take k)
  | 0, _ => by simp [fileB, allL]
  | k + 1, h => by
    have ih := fileB_list ts k (by omega)
    have e : ts.getD k ⟨#[]⟩ = ts[k] := by simp [List.getElem?_eq_getElem (show k < ts.length by omega)]
    rw [fileB, ByteArray.data_append, Array.toList_append, ih, e, frB_list, List.take_succ_eq_append_getElem (by omega), allL_append, allL_one]
    rfl
theorem fileB_size (ts : List ByteArray) (k : Nat) (h : k ≤ ts.length) : (fileB ts k).size = lenL (ts.take k) := by
  rw [← toList_len, fileB_list ts k h]
  rfl

theorem lenL_mono (ts : List ByteArray) (j : Nat) : lenL (ts.take j) ≤ lenL ts := by
  have h : allL ts = allL (ts.take j) ++ allL (ts.drop j) := by rw [← allL_append, List.take_append_drop]
  unfold lenL
  rw [h, List.length_append]
  omega

theorem frames_some (ts : List ByteArray) (k : Nat) (h3 : ts.length = 3) (hok : ∀ x ∈ ts, 1 ≤ x.size ∧ x.size ≤ 900) (hk : k ≤ (fileB ts 3).size) (hF : (fileB ts 3).size ≤ 20000) :
    ∃ m, m ≤ 3 ∧ (endOf (framesOf (cutB (fileB ts 3) 0 k)) = (fileB ts m).size ∧ textsOf (framesOf (cutB (fileB ts 3) 0 k)) = ts.take m) ∧ (fileB ts m).size ≤ k ∧ (m = 3 ∨ k < (fileB ts (m + 1)).size) := by
  have hall : (fileB ts 3).data.toList = allL ts := by rw [fileB_list ts 3 (by omega), List.take_of_length_le (by omega)]
  have hlen := toList_len (fileB ts 3)
  have hcl : (cutB (fileB ts 3) 0 k).data.toList = (allL ts).take k := by
    unfold cutB
    rw [extract_cut, hall]
    simp [cutL]
  have hcs : (cutB (fileB ts 3) 0 k).size = k := by
    rw [← toList_len, hcl, List.length_take, ← hall, hlen]
    omega
  obtain ⟨m, hm, h1, h2, h4⟩ := frames_cut (cutB (fileB ts 3) 0 k) ts ((allL ts).drop k) (by rw [hcl, List.take_append_drop]) (fun t ht => ⟨(hok t ht).1, by have := (hok t ht).2; omega⟩)
  rw [hcs] at h2 h4
  refine ⟨m, by omega, ⟨?_, ?_⟩, ?_, ?_⟩
  · rw [framesOf_small (by omega), h1, withEnds_end0, fileB_size ts m (by omega)]
  · rw [framesOf_small (by omega), h1, withEnds_texts]
  · rw [fileB_size ts m (by omega)]
    exact h2
  · rcases h4 with h4 | h4
    · left; omega
    · by_cases hm3 : m = 3
      · left; exact hm3
      · right
        rw [fileB_size ts (m + 1) (by omega)]
        exact h4
theorem frames_all (ts : List ByteArray) (h3 : ts.length = 3) (hok : ∀ x ∈ ts, 1 ≤ x.size ∧ x.size ≤ 900) (hF : (fileB ts 3).size ≤ 20000) :
    endOf (framesOf (fileB ts 3)) = (fileB ts 3).size ∧ textsOf (framesOf (fileB ts 3)) = ts := by
  have hall : (fileB ts 3).data.toList = allL ts := by rw [fileB_list ts 3 (by omega), List.take_of_length_le (by omega)]
  have hlen : (fileB ts 3).size = lenL ts := by rw [← toList_len, hall]; rfl
  obtain ⟨m, hm, h1, h2, h4⟩ := frames_cut (fileB ts 3) ts [] (by rw [hall]; simp) (fun t ht => ⟨(hok t ht).1, by have := (hok t ht).2; omega⟩)
  have hm3 : m = ts.length := by
    rcases h4 with h4 | h4
    · exact h4
    · have := lenL_mono ts (m + 1)
      omega
  subst hm3
  rw [List.take_length] at h1
  rw [framesOf_small hF, h1]
  exact ⟨by rw [withEnds_end0]; exact hlen.symm, withEnds_texts _ _⟩

theorem frB_le (t : ByteArray) (h : t.size ≤ 900) : (frB t).size ≤ 914 := by
  have h1 := frB_size t
  have h2 := M.varL_len t.size
  omega

theorem ends_cell {w : World} {B n ge cap : Nat} {l : List Nat} (h : w.ownsRow B 3 1 (.slice (some ⟨ge, 0, none⟩) n cap) n (iv l)) (j : Nat) (hj : j < l.length) : w.cell? ⟨ge, j, none⟩ = some (.int .i64 ((l[j] : Nat) : Int)) := by
  have h1 := h.cells (g := ge) rfl j (.int .i64 ((l[j] : Nat) : Int)) (by simp [iv, List.getElem?_eq_getElem hj])
  have e : (⟨ge, 0, none⟩ : Addr).add j = ⟨ge, j, none⟩ := by unfold Addr.add; split <;> simp_all
  rw [e] at h1
  exact h1

theorem TB.take {w : World} {g : Nat} {ts : List ByteArray} (h : TB w g ts) (m cap : Nat) (hm : (ts.take m).length = m) (hl : m ≤ 1100000) : SS w (.slice (some ⟨g, 0, none⟩) m cap) g 0 (ts.take m) := by
  obtain ⟨cur, h1, h2⟩ := h
  refine TB.ss ⟨cur, h1, fun j hj => ?_⟩ cap m hm hl
  have hj' : j < ts.length := by rw [List.length_take] at hj; omega
  rw [h2 j hj', List.getElem_take]

def FlR (ts : List ByteArray) (W0 : World) (B : Nat) (f v i : Value) (wr : World) : Prop :=
  ∃ k : Nat, k ≤ 3 ∧ i = .int .i64 (k : Int) ∧ f = .string (fileB ts k) ∧ wr.ownsRow B 3 1 v (endsN ts k).length (iv (endsN ts k)) ∧ Below B W0 wr ∧ B ≤ wr.heap.size ∧ (fileB ts k).size ≤ 1000 * k

def twoB : ByteArray := ⟨#[116, 119, 111]⟩
def threeB : ByteArray := ⟨#[116, 104, 114, 101, 101, 32, 97, 110, 100, 32, 109, 111, 114, 101]⟩

set_option maxRecDepth 100000 in
set_option maxHeartbeats 2000000 in
theorem framesLaw_any (ao : Option Addr) (len cap : Nat) (w : World) (hlen : len ≤ 1048576) (hc : Code w.heap.size w (.slice ao len cap)) (hT : Tab w) :
    Calls Tryd.prog 3 #[.slice ao len cap] w fun e w' => e = .returned (.bool true) ∧ Below w.heap.size w w' := by
  have HC : Hid (Code w.heap.size w (.slice ao len cap)) := hc
  have HT : Hid (Tab w) := hT
  have hp := hT.pos
  clear hc hT
  go_enter Tryd.func3, Tryd.ntmps3
  go_wp2_with fail
  refine (big_no ao len cap _ hlen).mono ?_
  rintro e w0 ⟨rfl, hw⟩
  rw [hw]
  clear hw
  go_wp2_with fail
  refine (DrawPlaces_any _ _ HC.out).mono ?_
  rintro e w1 ⟨u, rfl, hpl, hb1⟩
  obtain ⟨gp, pc, xs, rfl, hxl, hxs, hg1, hg2, hcells⟩ := hpl
  have x0 := hcells 0 (by omega)
  have y0 : xs[0] < 10000 := hxs _ (List.getElem_mem _)
  generalize xs[0] = p0 at *
  clear hcells hxs
  have HC1 : Hid (Code w1.heap.size w1 (.slice ao len cap)) := code_later HC.out hb1
  go_wp2_with fail
  refine (DrawHex_in _ _ HC1.out).mono ?_
  rintro e w2 ⟨l, hl, rfl, hb2⟩
  have hx2 : w2.cell? ⟨gp, 0, none⟩ = some (.int .i64 (p0 : Int)) := (hb2.cell (p := ⟨gp, 0, none⟩) hg2).trans x0
  have hgp2 : gp < w2.heap.size := Nat.lt_of_lt_of_le hg2 hb2.size
  have HB2 : Hid (Below w.heap.size w w2) := hb1.trans (hb2.mono hb1.size)
  obtain ⟨t, ht⟩ : ∃ t : ByteArray, t = ⟨l.toArray⟩ := ⟨_, rfl⟩
  have hsz : t.size ≤ 20001 := by subst ht; exact hl
  rw [← ht]
  clear ht hl x0 hb1 hb2
  have key : ∃ t0 : ByteArray, 1 ≤ t0.size ∧ t0.size ≤ 900 ∧ ((t0 = t ∧ 1 ≤ t.size ∧ t.size ≤ 900) ∨ (t0 = ⟨#[111, 110, 101]⟩ ∧ (t.size = 0 ∨ 900 < t.size))) := by
    by_cases h : 1 ≤ t.size ∧ t.size ≤ 900
    · exact ⟨t, h.1, h.2, .inl ⟨rfl, h⟩⟩
    · refine ⟨⟨#[111, 110, 101]⟩, by show 1 ≤ 3; omega, by show 3 ≤ 900; omega, .inr ⟨rfl, by omega⟩⟩
  obtain ⟨t0, hz0, hz1, hk⟩ := key
  rcases hk with ⟨rfl, ht1, ht2⟩ | ⟨rfl, ht1 | ht1⟩
  all_goals
    first
    | (have n1 : ((t0.size : Int) == 0) = false := beq_eq_false_iff_ne.2 (by omega)
       have n2 : ¬ (900 : Int) < (t0.size : Int) := by omega
       go_wp2)
    | (have n1 : ((t.size : Int) == 0) = true := beq_iff_eq.2 (by omega)
       go_wp2
       generalize (⟨#[111, 110, 101]⟩ : ByteArray) = t0 at *)
    | (have n1 : ((t.size : Int) == 0) = false := beq_eq_false_iff_ne.2 (by omega)
       have n2 : (900 : Int) < (t.size : Int) := by omega
       go_wp2
       generalize (⟨#[111, 110, 101]⟩ : ByteArray) = t0 at *)
  all_goals
    obtain ⟨ts, hts⟩ : ∃ ts : List ByteArray, ts = [t0, twoB, threeB] := ⟨_, rfl⟩
    have hl3 : ts.length = 3 := by rw [hts]; rfl
    have HL3 : Hid (ts.length = 3) := hl3
    have HOK : Hid (∀ x ∈ ts, 1 ≤ x.size ∧ x.size ≤ 900) := by
      unfold Hid
      rw [hts]
      intro x hx
      simp only [List.mem_cons, List.not_mem_nil, or_false] at hx
      rcases hx with rfl | rfl | rfl
      · exact ⟨hz0, hz1⟩
      · exact ⟨by show 1 ≤ 3; omega, by show 3 ≤ 900; omega⟩
      · exact ⟨by show 1 ≤ 14; omega, by show 14 ≤ 900; omega⟩
    have hTB : TB (w2.alloc (.cells #[.string t0, .string twoB, .string threeB] 9)) w2.heap.size ts := by
      subst hts
      refine ⟨_, World.alloc_heap_new _ _, fun j hj => ?_⟩
      match j, hj with
      | 0, _ => rfl
      | 1, _ => rfl
      | 2, _ => rfl
    have HTB : Hid (TB (w2.alloc (.cells #[.string t0, .string twoB, .string threeB] 9)) w2.heap.size ts) := hTB
    clear hTB hts hl3 n1
    obtain ⟨W0, hW0⟩ : ∃ W0, w2.alloc (.cells #[.string t0, .string ⟨#[116, 119, 111]⟩, .string ⟨#[116, 104, 114, 101, 101, 32, 97, 110, 100, 32, 109, 111, 114, 101]⟩] 9) = W0 := ⟨_, rfl⟩
    have HB0 : Hid (Below w.heap.size w W0) := by rw [← hW0]; exact HB2.out.alloc HB2.out.size _
    have hs0 : W0.heap.size = w2.heap.size + 1 := by rw [← hW0]; simp
    have hx0 : W0.cell? ⟨gp, 0, none⟩ = some (.int .i64 (p0 : Int)) := by
      rw [← hW0]
      exact (((Below.refl _ w2).alloc (Nat.le_refl _) _).cell (p := ⟨gp, 0, none⟩) hgp2).trans hx2
    have HTB : Hid (TB W0 w2.heap.size ts) := by rw [← hW0]; exact HTB.out
    rw [hW0]
    have hrow0 := World.ownsRow_lit (e := 3) (size := 1) (base := W0.heap.size) W0 #[.int .i64 0] 1 (Nat.le_refl _) (by decide) (by simp)
    rw [hs0] at hrow0
    have HS0 : Hid (FlR ts W0 (w2.heap.size + 1) (.string ⟨#[]⟩) (.slice (some ⟨w2.heap.size + 1, 0, none⟩) 1 1) (.int .i64 0) (W0.alloc (.cells #[.int .i64 0] 3))) :=
      ⟨0, by omega, rfl, rfl, hrow0, ((Below.refl _ W0).alloc (Nat.le_refl _) _).mono (by omega), by simp; omega, by show 0 ≤ 1000 * 0; omega⟩
    clear hrow0 hW0
    go_loopw [5, 6, 7] (fun f v i wr => FlR ts W0 (w2.heap.size + 1) f v i wr) (fun _ _ i _ => 3 - (intOf i).toNat)
    case atStart => exact HS0.out
    case round =>
      obtain ⟨k, hk, rfl, rfl, hrow, hbel, hB, hfz⟩ := hrel
      by_cases hlt : k < 3
      · have hlk : k < ts.length := by rw [HL3.out]; exact hlt
        have ck := (HTB.out.below hbel (by omega)).cell k hlk
        have hX := HOK.out ts[k] (List.getElem_mem hlk)
        have HX : Hid (fileB ts (k + 1) = fileB ts k ++ frB ts[k]) := by
          unfold Hid
          rw [fileB]
          congr 2
          simp [List.getElem?_eq_getElem hlk]
        generalize ts[k] = X at *
        obtain ⟨hX1, hX2⟩ := hX
        have hTr : Tab wr := (HT.out.later HB0.out hp).later hbel (by omega)
        have hfr := frB_le X hX2
        have i1 : (k : Int) < 3 := by omega
        have i2 : (0 : Int) ≤ (k : Int) := by omega
        have hel := endsN_len ts k
        have HEL : Hid ((endsN ts k).length = k + 1) := hel
        clear hlk hel
        generalize hFk : fileB ts k = Fk at *
        have HFk : Hid (fileB ts k = Fk) := hFk
        clear hFk
        go_wp2_with fail
        refine (Frame_yes X _ hX1 (by omega) hTr).mono ?_
        rintro e w3 ⟨rfl, hb3⟩
        have hrow3 := own_later hrow hb3
        have hB3 : w2.heap.size + 1 ≤ w3.heap.size := Nat.le_trans hB hb3.size
        generalize hY : frB X = Y at *
        have HY : Hid (frB X = Y) := hY
        clear hY
        go_wp2_with (at_builtin; refine wp_appJ rfl _ _ rfl (w2.heap.size + 1) _ (endsN ts k) rfl (World.ownsRow.alloc hrow3 _) ?c0 ⟨w3.heap.size, 0, none⟩ (Fk ++ Y).size rfl ?c1 ?c2 ?_)
        case c0 => simp; omega
        case c1 => simp [ByteArray.size_append]
        case c2 => rw [HEL.out]; omega
        intro v' w4 hrow4 hgrow4
        go_wp2
        go_roundw
        case rel =>
          refine ⟨k + 1, by omega, by go_num, by rw [HX.out], by rw [endsN_succ, HX.out, ByteArray.size_append, List.length_append]; exact hrow4, ?_, ?_, by rw [HX.out, ByteArray.size_append]; omega⟩
          · exact ((hbel.trans (hb3.mono hB)).alloc hB3 _).grown hgrow4 (by simp; omega) (fun j hj => (hrow3.lt j hj).1)
          · have := hgrow4.size
            simp at this
            omega
        case measure => simp [intOf]; omega
      · have hk3 : k = 3 := by omega
        subst hk3
        clear HS0
        have HALL : Hid (endOf (framesOf (fileB ts 3)) = (fileB ts 3).size ∧ textsOf (framesOf (fileB ts 3)) = ts) := frames_all ts HL3.out HOK.out (by omega)
        have hKle : p0 % ((fileB ts 3).size + 1) ≤ (fileB ts 3).size := by have := Nat.mod_lt p0 (show 0 < (fileB ts 3).size + 1 by omega); omega
        obtain ⟨m, hm3, hEL, hle, hgt⟩ := frames_some ts (p0 % ((fileB ts 3).size + 1)) HL3.out HOK.out hKle (by omega)
        rw [endsN_len] at hrow
        obtain ⟨ge, capE, rfl, hgeB, hgel⟩ := hrow.form (by omega)
        have hEm := ends_cell hrow m (by rw [endsN_len]; omega)
        rw [endsN_at] at hEm
        have HEn : Hid (m < 3 → wr.cell? ⟨ge, m + 1, none⟩ = some (.int .i64 ((fileB ts (m + 1)).size : Int))) := fun h => by
          have h1 := ends_cell hrow (m + 1) (by rw [endsN_len]; omega)
          rw [endsN_at] at h1
          exact h1
        have hTr : Tab wr := (HT.out.later HB0.out hp).later hbel (by omega)
        have hTBr := HTB.out.below hbel (by omega)
        have hxr := (hbel.cell (p := ⟨gp, 0, none⟩) (by show gp < w2.heap.size + 1; omega)).trans hx0
        have HBr : Hid (Below w.heap.size w wr) := HB0.out.trans (hbel.mono (by have := HB2.out.size; omega))
        have HELm : Hid (endOf (framesOf (cutB (fileB ts 3) 0 (p0 % ((fileB ts 3).size + 1)))) = (fileB ts m).size ∧ textsOf (framesOf (cutB (fileB ts 3) 0 (p0 % ((fileB ts 3).size + 1)))) = ts.take m) := hEL
        have HGT : Hid (m = 3 ∨ p0 % ((fileB ts 3).size + 1) < (fileB ts (m + 1)).size) := hgt
        clear hEL hgt hrow hbel
        generalize fileB ts 3 = F at *
        generalize (fileB ts m).size = Em at *
        generalize (fileB ts (m + 1)).size = En at *
        generalize hK : p0 % (F.size + 1) = K at *
        have hKe : (p0 : Int) % ((F.size : Int) + 1) = (K : Int) := by rw [← hK]; simp
        have hcut : ∀ w : World, (Instr.slice 9 (.string F) none (some (.int .i64 (K : Int))) none).run Tryd.prog w = .ok (.string (cutB F 0 K)) w := fun w => by
          rw [run_slice_string_to_if (P := Tryd.prog) (w := w) 9 F .i64 _ Tryd.underlying9, if_pos (by omega)]
          simp [cutB]
        clear hK
        go_wp2_with fail
        refine (Unframe_at F F.size ts _ (by omega) hTr HALL.out).mono ?_
        rintro e w5 ⟨vB, rfl, hO5⟩
        obtain ⟨gb, tB5, _⟩ := hO5.ts (by rw [HL3.out]; omega)
        have hTB5 := hTBr.below hO5.2.1 hTBr.lt
        go_wp2_with fail
        refine (sameTexts_yes vB _ gb 0 w2.heap.size 0 ts _ tB5.ss (hTB5.ss 3 3 HL3.out (by omega))).mono ?_
        rintro e w6 ⟨rfl, q, rfl⟩
        have hx6 : (w5.drewN q).cell? ⟨gp, 0, none⟩ = some (.int .i64 (p0 : Int)) := (hO5.2.1.cell (p := ⟨gp, 0, none⟩) (by show gp < wr.heap.size; omega)).trans hxr
        have hb6 : Below wr.heap.size wr (w5.drewN q) := below_drn hO5.2.1 q
        have hT6 : Tab (w5.drewN q) := hTr.later hb6 hTr.pos
        have hTB6 := hTBr.below hb6 hTBr.lt
        generalize w5.drewN q = w6 at *
        go_wp2_with fail
        refine (Unframe_at (cutB F 0 K) Em (ts.take m) _ (by unfold cutB; rw [ByteArray.size_extract]; omega) hT6 HELm.out).mono ?_
        rintro e w7 ⟨vS, rfl, hO7⟩
        have htl : (ts.take m).length = m := by rw [List.length_take, HL3.out]; omega
        obtain ⟨gs, tS7, _⟩ := hO7.ts (by omega)
        have tS7' := tS7
        obtain ⟨aS, cS, rfl, -, -⟩ := tS7'
        rw [htl] at tS7 ⊢
        have hTB7 := hTB6.below hO7.2.1 hTB6.lt
        have hb7 := hb6.trans (hO7.2.1.mono hb6.size)
        have hEm7 := (hb7.cell (p := ⟨ge, m, none⟩) hgel).trans hEm
        have HB7 : Hid (Below w.heap.size w w7) := HBr.out.trans (hb7.mono HBr.out.size)
        have HSL : Hid (SS w7 (.slice (some ⟨w2.heap.size, 0, none⟩) m 3) w2.heap.size 0 (ts.take m)) := TB.take hTB7 m 3 htl (by omega)
        rcases Nat.lt_or_ge m 3 with hm | hm
        · have hEn7 := (hb7.cell (p := ⟨ge, m + 1, none⟩) hgel).trans (HEn.out hm)
          have hKn : K < En := by
            have := HGT.out
            omega
          go_wp2_with fail
          refine (sameTexts_yes _ _ gs 0 w2.heap.size 0 (ts.take m) _ tS7.ss HSL.out).mono ?_
          rintro e w8 ⟨rfl, q2, rfl⟩
          have hEn8 : (w7.drewN q2).cell? ⟨ge, m + 1, none⟩ = some (.int .i64 (En : Int)) := hEn7
          have HB8 : Hid (Below w.heap.size w (w7.drewN q2)) := below_drn HB7.out q2
          generalize w7.drewN q2 = w8 at *
          go_wp2
          go_ret
          exact ⟨rfl, HB8.out⟩
        · have hm4 : m = 3 := by omega
          subst hm4
          go_wp2_with fail
          refine (sameTexts_yes _ _ gs 0 w2.heap.size 0 (ts.take 3) _ tS7.ss HSL.out).mono ?_
          rintro e w8 ⟨rfl, q2, rfl⟩
          have HB8 : Hid (Below w.heap.size w (w7.drewN q2)) := below_drn HB7.out q2
          generalize w7.drewN q2 = w8 at *
          go_wp2
          go_ret
          exact ⟨rfl, HB8.out⟩

end Go.Proofs.YtgekibidglnmoaaDoor
