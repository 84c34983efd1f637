/-
  Texts laid together: Ye, Yf, Yg, Yh, Ylr, Ylc, Yls.
-/
import Derived.Test.YtmcejkfknbjjkaaDoorPkO
import Derived.Test.YtmcejkfknbjjkaaDoorPkK
import Derived.Test.YtmcejkfknbjjkaaDoorPkL
import Derived.Test.YtmcejkfknbjjkaaDoorPkJ
import Derived.Test.YtmcejkfknbjjkaaDoorPkG
import Derived.Test.YtmcejkfknbjjkaaDoorShelf
import Derived.Deep.RegionHeld3
import Derived.Test.YtmcejkfknbjjkaaDoorPkM
/-
  The root of a shard: the program's answer and the specification's.
-/
namespace Go.Proofs.YtmcejkfknbjjkaaDoor
open Go.RowKit Go.BigFrame Go.Sort
set_option linter.unusedVariables false
set_option linter.unusedSimpArgs false

noncomputable def srB (L : List Le) (k p x : Int) : ByteArray := if 0 ≤ k ∧ k ≤ 2 then nhB L k p x else ⟨#[]⟩

theorem ShardRoot_any (v : Value) (ga oa : Nat) (L : List Le) (k p x : Int) (w : World) (hv : RS 2 lcs w v ga oa L) (hsm : SmallL L) (hT : Tb w) :
    Calls Tryd.prog 35 #[v, .int .i64 k, .int .i64 p, .int .i64 x] w fun e w' => e = .returned (.string (srB L k p x)) ∧ Below w.heap.size w w' := by
  have hc := NodeHash_any v ga oa L k p x w hv hsm hT
  by_cases h : 0 ≤ k ∧ k ≤ 2
  · have hd : decide (0 ≤ k ∧ k ≤ 2) = true := by simpa using h
    have e1 : srB L k p x = nhB L k p x := by unfold srB; rw [if_pos h]
    rw [e1]
    generalize nhB L k p x = R at *
    clear h e1 hv hsm hT
    go_enter Tryd.func35, Tryd.ntmps35
    go_wp2_with fail
    refine (splitOk_any _ _).mono ?_
    rintro e w1 ⟨rfl, rfl⟩
    rw [hd]
    go_wp2_with fail
    refine hc.mono ?_
    rintro e w2 ⟨rfl, hb⟩
    go_wp2
    go_ret
    exact ⟨rfl, hb⟩
  · have hd : decide (0 ≤ k ∧ k ≤ 2) = false := by simpa using h
    have e1 : srB L k p x = ⟨#[]⟩ := by unfold srB; rw [if_neg h]
    rw [e1]
    clear h e1 hc
    go_enter Tryd.func35, Tryd.ntmps35
    go_wp2_with fail
    refine (splitOk_any _ _).mono ?_
    rintro e w1 ⟨rfl, rfl⟩
    rw [hd]
    go_wp2
    go_ret
    exact ⟨rfl, Below.refl _ _⟩

theorem sShardRoot_any (v : Value) (ga oa : Nat) (L : List Le) (k p x : Int) (w : World) (hv : RS 2 lcs w v ga oa L) (hsm : SmallL L) :
    Calls Tryd.prog 34 #[v, .int .i64 k, .int .i64 p, .int .i64 x] w fun e w' => e = .returned (.string (srB L k p x)) ∧ Below w.heap.size w w' := by
  have hc := sNodeHash_any v ga oa L k p x w hv hsm
  by_cases h : 0 ≤ k ∧ k ≤ 2
  · have hd : decide (0 ≤ k ∧ k ≤ 2) = true := by simpa using h
    have e1 : srB L k p x = nhB L k p x := by unfold srB; rw [if_pos h]
    rw [e1]
    generalize nhB L k p x = R at *
    clear h e1 hv hsm
    go_enter Tryd.func34, Tryd.ntmps34
    go_wp2_with fail
    refine (l01In_any _ _ _ _).mono ?_
    rintro e w1 ⟨rfl, rfl⟩
    rw [hd]
    go_wp2_with fail
    refine hc.mono ?_
    rintro e w2 ⟨rfl, hb⟩
    go_wp2
    go_ret
    exact ⟨rfl, hb⟩
  · have hd : decide (0 ≤ k ∧ k ≤ 2) = false := by simpa using h
    have e1 : srB L k p x = ⟨#[]⟩ := by unfold srB; rw [if_neg h]
    rw [e1]
    clear h e1 hc
    go_enter Tryd.func34, Tryd.ntmps34
    go_wp2_with fail
    refine (l01In_any _ _ _ _).mono ?_
    rintro e w1 ⟨rfl, rfl⟩
    rw [hd]
    go_wp2
    go_ret
    exact ⟨rfl, Below.refl _ _⟩

end Go.Proofs.YtmcejkfknbjjkaaDoor
/-
  Rows of hashes folded two by two, at any width: the program's rowAbove, topOf and sidesInRow, the specification's l12Up.
-/
namespace Go.Proofs.YtmcejkfknbjjkaaDoor
open Go.RowKit Go.BigFrame
set_option linter.unusedVariables false
set_option linter.unusedSimpArgs false

/-- a place of the row above -/
def upAtW (x : Int) (l : List ByteArray) (i : Nat) : ByteArray := hashB 3 [l.getD (2 * i) ByteArray.empty, l.getD (2 * i + 1) ByteArray.empty] x
/-- the row above -/
def upW (x : Int) (l : List ByteArray) : List ByteArray := (List.range (l.length / 2)).map (upAtW x l)
theorem upW_len (x : Int) (l : List ByteArray) : (upW x l).length = l.length / 2 := by simp [upW]
theorem upW_at (x : Int) (l : List ByteArray) (i : Nat) (h : i < (upW x l).length) : (upW x l)[i] = upAtW x l i := by simp [upW]
theorem upAtW_eq (x : Int) (l : List ByteArray) (i : Nat) (h : 2 * i + 1 < l.length) : upAtW x l i = hashB 3 [l[2 * i], l[2 * i + 1]] x := by
  unfold upAtW
  rw [List.getD_eq_getElem?_getD, List.getD_eq_getElem?_getD, List.getElem?_eq_getElem (by omega), List.getElem?_eq_getElem h]
  rfl
/-- so many rows up -/
def upNW (x : Int) (l : List ByteArray) : Nat → List ByteArray
  | 0 => l
  | j + 1 => upW x (upNW x l j)
theorem upNW_len {x : Int} {l : List ByteArray} {d : Nat} (h : l.length = 2 ^ d) : ∀ j, j ≤ d → (upNW x l j).length = 2 ^ (d - j)
  | 0, _ => h
  | j + 1, hj => by
    unfold upNW
    rw [upW_len, upNW_len h j (by omega), show d - j = (d - (j + 1)) + 1 by omega, Nat.pow_succ]
    omega
/-- what is left at last -/
def topW (x : Int) (l : List ByteArray) (d : Nat) : ByteArray := (upNW x l d).getD 0 ByteArray.empty
theorem topW_eq (x : Int) (l : List ByteArray) (d : Nat) (h : 0 < (upNW x l d).length) : (upNW x l d)[0] = topW x l d := by
  unfold topW
  rw [List.getD_eq_getElem?_getD, List.getElem?_eq_getElem h]
  rfl
/-- what stands beside the way up -/
def sidW (x : Int) (l : List ByteArray) (s : Nat) : Nat → List ByteArray
  | 0 => []
  | m + 1 => sidW x l s m ++ [(upNW x l m).getD (TR.oth (s / 2 ^ m)) ByteArray.empty]
theorem sidW_len (x : Int) (l : List ByteArray) (s m : Nat) : (sidW x l s m).length = m := by
  induction m with
  | zero => rfl
  | succ m ih => simp [sidW, ih]
theorem oth_lt {q n : Nat} (hn : n % 2 = 0) (h : q < n) : TR.oth q < n := by
  unfold TR.oth
  split <;> omega
theorem cell_oset {w : World} {g m : Nat} {u x : Value} {p : Addr} (h : p.block ≠ g) (hc : w.cell? p = some x) : (w.setCell ⟨g, m, none⟩ u).cell? p = some x :=
  (World.cell?_of_block (w := w) (heap_setCell_other w ⟨g, m, none⟩ p.block u h)).trans hc

def YrR (x : Int) (l : List ByteArray) (w : World) (g : Nat) (i : Value) (wr : World) : Prop := ∃ m : Nat, m ≤ l.length / 2 ∧ i = .int .i64 m ∧ TB wr g (srow (upW x l) m) ∧ Below w.heap.size w wr

set_option maxRecDepth 100000 in
set_option maxHeartbeats 2000000 in
theorem rowAboveW_any (v : Value) (ga oa : Nat) (l : List ByteArray) (x : Int) (w : World) (hv : SS w v ga oa l) (hl : l.length ≤ 1000) (hT : Tb w) :
    Calls Tryd.prog 85 #[v, .int .i64 x] w fun e w' => ∃ g, e = .returned (.slice (some ⟨g, 0, none⟩) (l.length / 2) (l.length / 2)) ∧ w.heap.size ≤ g ∧ TB w' g (upW x l) ∧ Below w.heap.size w w' := by
  have HT : Hid (Tb w) := hT
  have hga := hv.lt
  obtain ⟨a, cap, rfl, _, hA, hc⟩ := hv
  obtain ⟨n, hn⟩ : ∃ n, l.length = n := ⟨_, rfl⟩
  obtain ⟨w2, hmk0, hib, hb2, hs2⟩ := TB.made (n / 2) (by omega) w
  have hmk : (Instr.makeSlice 30 (.int .i64 ((n : Int) / 2)) (.int .i64 ((n : Int) / 2))).run Tryd.prog w = .ok (.slice (some ⟨w.heap.size, 0, none⟩) (n / 2) (n / 2)) w2 := by simpa using hmk0
  have HST : Hid (YrR x l w w.heap.size (.int .i64 0) w2) := ⟨0, by omega, rfl, by rw [show srow (upW x l) 0 = List.replicate (n / 2) ByteArray.empty by unfold srow; rw [upW_len, hn]; rfl]; exact hib, hb2⟩
  have HA : Hid (0 < n → a = some ⟨ga, oa, none⟩ ∧ ga < w.heap.size) := by rw [← hn]; exact fun h => ⟨hA h, hga h⟩
  have HC : Hid (∀ j (h : j < l.length), w.cell? ⟨ga, oa + j, none⟩ = some (.string l[j])) := hc
  have HN : Hid (l.length = n) := hn
  rw [hn] at hl ⊢
  clear hib hb2 hs2 hA hga hc hT hmk0
  go_enter Tryd.func85, Tryd.ntmps85
  go_wp2
  clear hmk
  go_loopw [13] (fun i wr => YrR x l w w.heap.size i wr) (fun i _ => n / 2 - (intOf i).toNat)
  case atStart => exact HST.out
  case round =>
    obtain ⟨m, hm, rfl, hib, hbel⟩ := hrel
    rw [hn] at hm
    clear HST hn
    by_cases hlt : m < n / 2
    · obtain ⟨ea, hgw⟩ := HA.out (by omega)
      subst ea
      have i1 : (m : Int) < (n : Int) / 2 := by omega
      have i2 : (0 : Int) ≤ (m : Int) := by omega
      have i3 : 2 * (m : Int) < (n : Int) := by omega
      have i4 : 2 * (m : Int) + 1 < (n : Int) := by omega
      have hu := upAtW_eq x l m (by rw [HN.out]; omega)
      have c1 : wr.cell? ⟨ga, oa + 2 * m, none⟩ = some (.string (l[2 * m]'(by rw [HN.out]; omega))) := (hbel.cell (p := ⟨ga, oa + 2 * m, none⟩) hgw).trans (HC.out (2 * m) _)
      have c2 : wr.cell? ⟨ga, oa + (2 * m + 1), none⟩ = some (.string (l[2 * m + 1]'(by rw [HN.out]; omega))) := (hbel.cell (p := ⟨ga, oa + (2 * m + 1), none⟩) hgw).trans (HC.out (2 * m + 1) _)
      have hlk := upW_at x l m (by rw [upW_len, HN.out]; exact hlt)
      have hst := srow_step (upW x l) m (by rw [upW_len, HN.out]; exact hlt)
      have hll : (srow (upW x l) m).length = n / 2 := by rw [srow_len _ _ (by rw [upW_len, HN.out]; omega), upW_len, HN.out]
      rw [hlk, hu] at hst
      generalize l[2 * m]'(by rw [HN.out]; omega) = X at *
      generalize l[2 * m + 1]'(by rw [HN.out]; omega) = Y at *
      have HCT := taggedHash_wd x 3 [X, Y] 2 #[.string X, .string Y] wr _ rfl rfl (by omega) rfl (HT.out.later hbel)
      generalize hashB 3 [X, Y] x = K at *
      clear hu hlk
      have hgr : ga < wr.heap.size := Nat.lt_of_lt_of_le hgw hbel.size
      have hne : ga ≠ w.heap.size := by omega
      have a1 : IntKind.i64.wrap (2 * (m : Int)) = 2 * (m : Int) := IntWalk.i64_in _ (by omega)
      have a2 : IntKind.i64.wrap (2 * (m : Int) + 1) = 2 * (m : Int) + 1 := IntWalk.i64_in _ (by omega)
      have hlt2 := hib.lt
      go_wp2
      have i5 : (0 : Int) ≤ 2 * (m : Int) := by omega
      have i6 : (0 : Int) ≤ 2 * (m : Int) + 1 := by omega
      have t1 : (2 * (m : Int)).toNat = 2 * m := by omega
      have t2 : (2 * (m : Int) + 1).toNat = 2 * m + 1 := by omega
      go_region_held3 (fun W => W.cell? ⟨ga, oa + 2 * m, none⟩ = some (.string X) ∧ W.cell? ⟨ga, oa + (2 * m + 1), none⟩ = some (.string Y)) (first | go_keep | exact ⟨(hb1.cell (p := ⟨ga, oa + 2 * m, none⟩) hgr).trans c1, (hb1.cell (p := ⟨ga, oa + (2 * m + 1), none⟩) hgr).trans c2⟩ | exact ⟨cell_oset hne ((hb1.cell (p := ⟨ga, oa + 2 * m, none⟩) hgr).trans c1), cell_oset hne ((hb1.cell (p := ⟨ga, oa + (2 * m + 1), none⟩) hgr).trans c2)⟩) ((go_at_call 108; refine HCT.out.mono ?_; rintro e w1 ⟨rfl, hb1⟩; have hib1 := hib.below hb1 hlt2; have c0 := hib1.cell m (by omega); have f0 := hib1.frozen m))
      have hs := hib1.set m (by omega) K
      rw [hst] at hs
      have HS : Hid (TB (w1.setCell ⟨w.heap.size, m, none⟩ (.string K)) w.heap.size (srow (upW x l) (m + 1)) ∧ Below w.heap.size w (w1.setCell ⟨w.heap.size, m, none⟩ (.string K))) := ⟨hs, (hbel.trans (hb1.mono hbel.size)).setCell (p := ⟨w.heap.size, m, none⟩) (Nat.le_refl _) _⟩
      clear hs hib1 c0 f0 hb1
      go_wp2
      go_roundw
      case rel => exact ⟨m + 1, by rw [HN.out]; omega, by go_num, HS.out.1, HS.out.2⟩
      case measure => simp [intOf]; omega
    · have hme : m = n / 2 := by omega
      have e : srow (upW x l) m = upW x l := by have := srow_all (upW x l); rw [upW_len, HN.out, ← hme] at this; exact this
      rw [e] at hib
      subst hme
      clear e
      go_wp2
      go_ret
      exact ⟨w.heap.size, rfl, Nat.le_refl _, hib, hbel⟩

/-- a row of the way up -/
def YtR (x : Int) (l : List ByteArray) (d : Nat) (w : World) (v : Value) (wr : World) : Prop := ∃ j : Nat, j ≤ d ∧ Below w.heap.size w wr ∧ ∃ g o, SS wr v g o (upNW x l j)

set_option maxRecDepth 100000 in
set_option maxHeartbeats 1000000 in
theorem topOf_any (v : Value) (ga oa : Nat) (l : List ByteArray) (d : Nat) (x : Int) (w : World) (hv : SS w v ga oa l) (hl : l.length = 2 ^ d) (hd : d ≤ 6) (hz : ∀ j, ∀ s ∈ upNW x l j, s.size ≤ 1048576) (hT : Tb w) :
    Calls Tryd.prog 59 #[v, .int .i64 x] w fun e w' => e = .returned (.string (topW x l d)) ∧ Below w.heap.size w w' := by
  have HT : Hid (Tb w) := hT
  have HL : Hid (l.length = 2 ^ d) := hl
  have HZ : Hid (∀ j, ∀ s ∈ upNW x l j, s.size ≤ 1048576) := hz
  have HS : Hid (YtR x l d w v w) := ⟨0, by omega, Below.refl _ _, ga, oa, hv⟩
  clear hv hl hz hT
  go_enter Tryd.func59, Tryd.ntmps59
  go_wp2
  go_loopw [0] (fun v wr => YtR x l d w v wr) (fun v _ => lenOf v)
  case atStart => exact HS.out
  case round =>
    obtain ⟨j, hj, hbel, g, o, hss⟩ := hrel
    clear HS
    have hln := upNW_len (x := x) HL.out j hj
    have h64 : 2 ^ (d - j) ≤ 2 ^ 6 := Nat.pow_le_pow_right (by omega) (by omega)
    by_cases hlt : j < d
    · have hc := rowAboveW_any _ g o (upNW x l j) x wr hss (by rw [hln]; omega) (HT.out.later hbel)
      have h2 : 2 ^ (d - j) = 2 * 2 ^ (d - (j + 1)) := by rw [show d - j = (d - (j + 1)) + 1 by omega, Nat.pow_succ]; omega
      have hpos : 0 < 2 ^ (d - (j + 1)) := Nat.two_pow_pos _
      obtain ⟨a, cap, rfl, _, _, _⟩ := id hss
      obtain ⟨k, hk⟩ : ∃ k, (upNW x l j).length = k := ⟨_, rfl⟩
      have hk1 : 1 < k ∧ k / 2 < k ∧ k ≤ 64 := by rw [← hk, hln]; omega
      have HN : Hid (∀ g2 W, TB W g2 (upW x (upNW x l j)) → Below wr.heap.size wr W → YtR x l d w (.slice (some ⟨g2, 0, none⟩) (k / 2) (k / 2)) W) := fun g2 W h1 h2 => by
        refine ⟨j + 1, by omega, hbel.trans (h2.mono hbel.size), g2, 0, ?_⟩
        exact h1.ss (k / 2) (k / 2) (by rw [upW_len, hk]) (by omega)
      rw [hk] at hc hss ⊢
      have i1 : (1 : Int) < (k : Int) := by omega
      clear hss hln h2 hk hpos h64
      go_wp2_with fail
      refine hc.mono ?_
      rintro e w2 ⟨g2, rfl, hg2, htb, hb2⟩
      have HK : Hid (YtR x l d w (.slice (some ⟨g2, 0, none⟩) (k / 2) (k / 2)) w2) := HN.out g2 w2 htb hb2
      clear hc htb hb2 HN
      go_wp2
      go_roundw
      case rel => exact HK.out
      case measure => simp [lenOf]; omega
    · have hje : j = d := by omega
      subst hje
      have h1 : (upNW x l j).length = 1 := by rw [hln, Nat.sub_self]
      have hr := topW_eq x l j (by omega)
      have hsz := HZ.out j _ (List.getElem_mem (l := upNW x l j) (n := 0) (by omega))
      rw [hr] at hsz
      obtain ⟨a, cap, rfl, _, hA, hcell⟩ := id hss
      have ea := hA (by omega)
      subst ea
      have c0 := hcell 0 (by omega)
      rw [hr, Nat.add_zero] at c0
      rw [h1]
      obtain ⟨R, hR⟩ : ∃ R, topW x l j = R := ⟨_, rfl⟩
      have HR : Hid (topW x l j = R) := hR
      rw [hR] at c0 hsz
      clear hss h1 hr hln hA hcell HZ hR
      go_wp2_with fail
      refine (Clone_any R _ hsz).mono ?_
      rintro e w1 ⟨rfl, hb1⟩
      go_wp2
      go_ret
      exact ⟨by rw [HR.out]; rfl, hbel.trans (hb1.mono hbel.size)⟩

/-- what each round of sidesInRow holds -/
def YsR (x : Int) (l : List ByteArray) (d s : Nat) (w : World) (r p v : Value) (wr : World) : Prop :=
  ∃ m : Nat, m ≤ d ∧ p = .int .i64 (s / 2 ^ m : Nat) ∧ OS w.heap.size w wr v (sidW x l s m) ∧ ∃ g o, SS wr r g o (upNW x l m) ∧ some g ≠ v.ownBlock

theorem SS.keptW {w w' : World} {v : Value} {g o : Nat} {row : Option Nat} {l : List ByteArray} (h : SS w v g o l) (hg : w.grownBy w' row) (hne : some g ≠ row) : SS w' v g o l := by
  obtain ⟨a, cap, hv, hl, hA, hc⟩ := h
  refine ⟨a, cap, hv, hl, hA, fun j hj => ?_⟩
  have h1 := hc j hj
  have hlt : g < w.heap.size := by
    by_cases hx : g < w.heap.size
    · exact hx
    · have : w.heap[g]? = none := Array.getElem?_eq_none (by omega)
      simp [World.cell?, this] at h1
  exact (World.cell?_of_block (w := w) (w' := w') (a := ⟨g, o + j, none⟩) (hg.block g hlt hne)).trans h1

set_option maxRecDepth 100000 in
set_option maxHeartbeats 2000000 in
theorem sidesInRow_any (v : Value) (ga oa : Nat) (l : List ByteArray) (d s : Nat) (x : Int) (w : World) (hv : SS w v ga oa l) (hl : l.length = 2 ^ d) (hd : d ≤ 6) (hs : s < 2 ^ d) (hz : ∀ j, ∀ t ∈ upNW x l j, t.size ≤ 1048576) (hT : Tb w) :
    Calls Tryd.prog 54 #[v, .int .i64 s, .int .i64 x] w fun e w' => ∃ u, e = .returned u ∧ OS w.heap.size w w' u (sidW x l s d) := by
  have HT : Hid (Tb w) := hT
  have HL : Hid (l.length = 2 ^ d) := hl
  have HZ : Hid (∀ j, ∀ t ∈ upNW x l j, t.size ≤ 1048576) := hz
  have hlp : 0 < l.length := by rw [hl]; exact Nat.two_pow_pos _
  have hga := hv.lt hlp
  have HS : Hid (YsR x l d s w v (.int .i64 (s : Int)) (.slice (some ⟨w.heap.size, 0, none⟩) 0 0) (w.alloc (.cells #[] 9))) :=
    ⟨0, by omega, by simp, OS.made w, ga, oa, hv.below ((Below.refl _ _).alloc (Nat.le_refl _) _) hv.lt, by simp [Value.ownBlock]; omega⟩
  clear hv hl hz hT hga hlp
  go_enter Tryd.func54, Tryd.ntmps54
  go_wp2
  go_loopw [0, 1, 7] (fun r p v wr => YsR x l d s w r p v wr) (fun r _ _ _ => lenOf r)
  case atStart => exact HS.out
  case round =>
    obtain ⟨m, hm, rfl, hos, g, o, hss, hne⟩ := hrel
    clear HS
    have hpw := upNW_len (x := x) HL.out m hm
    have h64 : 2 ^ (d - m) ≤ 2 ^ 6 := Nat.pow_le_pow_right (by omega) (by omega)
    by_cases hlt : m < d
    · have h2 : 2 ^ (d - m) = 2 * 2 ^ (d - (m + 1)) := by rw [show d - m = (d - (m + 1)) + 1 by omega, Nat.pow_succ]; omega
      have hpos : 0 < 2 ^ (d - (m + 1)) := Nat.two_pow_pos _
      have hq : s / 2 ^ m < 2 ^ (d - m) := by
        rw [Nat.div_lt_iff_lt_mul (Nat.two_pow_pos _), ← Nat.pow_add, show d - m + m = d by omega]
        exact hs
      have hq2 : s / 2 ^ (m + 1) = s / 2 ^ m / 2 := by rw [Nat.pow_succ, Nat.div_div_eq_div_mul]
      have hst : sidW x l s (m + 1) = sidW x l s m ++ [(upNW x l m).getD (TR.oth (s / 2 ^ m)) ByteArray.empty] := rfl
      have hlen := sidW_len x l s m
      generalize s / 2 ^ m = q at *
      obtain ⟨n, hn⟩ : ∃ n, (upNW x l m).length = n := ⟨_, rfl⟩
      have hn2 : n % 2 = 0 ∧ 1 < n ∧ n / 2 < n ∧ n ≤ 64 ∧ q < n := by rw [← hn, hpw]; omega
      have hyl := oth_lt hn2.1 hn2.2.2.2.2
      have e0 : (upNW x l m).getD (TR.oth q) ByteArray.empty = (upNW x l m)[TR.oth q]'(by rw [hn]; exact hyl) := by
        rw [List.getD_eq_getElem?_getD, List.getElem?_eq_getElem (by rw [hn]; exact hyl)]
        rfl
      obtain ⟨a, cap, rfl, _, hA, hcell⟩ := id hss
      have ea := hA (by rw [hn]; omega)
      subst ea
      have c0 := hcell (TR.oth q) (by rw [hn]; exact hyl)
      have hsm := HZ.out m _ (List.getElem_mem (l := upNW x l m) (n := TR.oth q) (by rw [hn]; exact hyl))
      rw [← e0] at c0 hsm
      have i3 := xor_b q (by omega)
      have HRA : Hid (∀ W, SS W (.slice (some ⟨g, o, none⟩) n cap) g o (upNW x l m) → Tb W → Calls Tryd.prog 85 #[.slice (some ⟨g, o, none⟩) n cap, .int .i64 x] W fun e w' => ∃ g2, e = .returned (.slice (some ⟨g2, 0, none⟩) (n / 2) (n / 2)) ∧ W.heap.size ≤ g2 ∧ SS w' (.slice (some ⟨g2, 0, none⟩) (n / 2) (n / 2)) g2 0 (upNW x l (m + 1)) ∧ Below W.heap.size W w') := fun W hW hTW => by
        have := rowAboveW_any _ g o (upNW x l m) x W hW (by rw [hn]; omega) hTW
        rw [hn] at this
        refine this.mono ?_
        rintro e w' ⟨g2, he, hg2, htb, hb⟩
        exact ⟨g2, he, hg2, htb.ss _ _ (by rw [upW_len, hn]) (by omega), hb⟩
      have HN : Hid (∀ v W g2, OS w.heap.size w W v (sidW x l s (m + 1)) → SS W (.slice (some ⟨g2, 0, none⟩) (n / 2) (n / 2)) g2 0 (upNW x l (m + 1)) → some g2 ≠ v.ownBlock → YsR x l d s w (.slice (some ⟨g2, 0, none⟩) (n / 2) (n / 2)) (.int .i64 ((q / 2 : Nat) : Int)) v W) :=
        fun v W g2 h1 h2 h3 => ⟨m + 1, by omega, by rw [hq2], h1, g2, 0, h2, h3⟩
      rw [hst] at HN
      rw [hn] at hss ⊢
      have HSS : Hid (SS wr (.slice (some ⟨g, o, none⟩) n cap) g o (upNW x l m)) := hss
      clear hss hpw hq2 h2 HZ hst e0 hn hcell h64 hpos hq hA
      generalize (upNW x l m).getD (TR.oth q) ByteArray.empty = X at *
      generalize sidW x l s m = S at *
      obtain ⟨hn0, hn1, hn3, hn4, hn5⟩ := hn2
      generalize TR.oth q = y at *
      have i1 : (1 : Int) < (n : Int) := by omega
      have i4 : (y : Int) < (n : Int) := by omega
      have i5 : (0 : Int) ≤ (y : Int) := by omega
      go_wp2_with fail
      refine (Clone_any X _ hsm).mono ?_
      rintro e w1 ⟨rfl, hb1⟩
      have hos1 := hos.later hb1
      have hss1 := HSS.out.below hb1 HSS.out.lt
      clear hos hb1 c0 HSS
      go_wp2_with (at_builtin; refine wp_txtL rfl _ _ rfl w.heap.size w _ S X rfl (hos1.alloc _) w1.heap.size rfl ?c1 ?c2 ?_)
      case c1 => exact one_text _ _ _
      case c2 => omega
      intro g5 cap5 w2 hos2 hgr hl5
      have hss2 := (hss1.below ((Below.refl _ _).alloc (Nat.le_refl _) _) hss1.lt).keptW hgr hne
      have hT2 := HT.out.later hos2.2.1
      clear hss1 hgr hos1 hne
      go_wp2_with fail
      refine (HRA.out _ hss2 hT2).mono ?_
      rintro e w3 ⟨g2, rfl, hg2, hss3, hb3⟩
      have hos3 := hos2.later hb3
      have hne3 : some g2 ≠ (Value.slice (some ⟨g5, 0, none⟩) (S.length + 1) cap5).ownBlock := fun he => by have := (hos2.1.lt g2 he.symm).2; omega
      clear hos2 hb3 hss2 HRA
      go_wp2
      go_roundw
      case rel => exact HN.out _ _ _ hos3 hss3 hne3
      case measure => simp [lenOf]; omega
    · have hme : m = d := by omega
      subst hme
      rw [Nat.sub_self] at hpw
      obtain ⟨a, cap, rfl, _, _, _⟩ := hss
      rw [hpw]
      have HF : Hid (OS w.heap.size w wr u7 (sidW x l s m)) := hos
      clear hos
      go_wp2
      go_ret
      exact ⟨_, rfl, HF.out⟩

def YuR (x : Int) (l : List ByteArray) (w : World) (v i : Value) (wr : World) : Prop := ∃ m : Nat, m ≤ l.length / 2 ∧ i = .int .i64 (2 * m : Nat) ∧ OS w.heap.size w wr v ((upW x l).take m)

set_option maxRecDepth 100000 in
set_option maxHeartbeats 2000000 in
theorem l12Up_any (v : Value) (ga oa : Nat) (l : List ByteArray) (x : Int) (w : World) (hv : SS w v ga oa l) (hl : l.length ≤ 1000) :
    Calls Tryd.prog 58 #[v, .int .i64 x] w fun e w' => ∃ u, e = .returned u ∧ OS w.heap.size w w' u (upW x l) := by
  have hga := hv.lt
  obtain ⟨a, cap, rfl, _, hA, hc⟩ := hv
  obtain ⟨n, hn⟩ : ∃ n, l.length = n := ⟨_, rfl⟩
  have HST : Hid (YuR x l w (.slice (some ⟨w.heap.size, 0, none⟩) 0 0) (.int .i64 0) (w.alloc (.cells #[] 9))) := ⟨0, by omega, rfl, OS.made w⟩
  have HA : Hid (0 < n → a = some ⟨ga, oa, none⟩ ∧ ga < w.heap.size) := by rw [← hn]; exact fun h => ⟨hA h, hga h⟩
  have HC : Hid (∀ j (h : j < l.length), w.cell? ⟨ga, oa + j, none⟩ = some (.string l[j])) := hc
  have HN : Hid (l.length = n) := hn
  rw [hn] at hl ⊢
  clear hA hga hc
  go_enter Tryd.func58, Tryd.ntmps58
  go_wp2
  go_loopw [5, 6] (fun v i wr => YuR x l w v i wr) (fun _ i _ => n - (intOf i).toNat)
  case atStart => exact HST.out
  case round =>
    obtain ⟨m, hm, rfl, hos⟩ := hrel
    rw [hn] at hm
    clear HST hn
    have e2 : (((2 * m : Nat)) : Int) = 2 * (m : Int) := by omega
    rw [e2]
    by_cases hlt : m < n / 2
    · obtain ⟨ea, hgw⟩ := HA.out (by omega)
      subst ea
      have hbel := hos.2.1
      have i2 : (0 : Int) ≤ 2 * (m : Int) := by omega
      have i3 : 2 * (m : Int) < (n : Int) := by omega
      have i4 : 2 * (m : Int) + 1 < (n : Int) := by omega
      have i6 : (0 : Int) ≤ 2 * (m : Int) + 1 := by omega
      have t1 : (2 * (m : Int)).toNat = 2 * m := by omega
      have t2 : (2 * (m : Int) + 1).toNat = 2 * m + 1 := by omega
      have a2 : IntKind.i64.wrap (2 * (m : Int) + 1) = 2 * (m : Int) + 1 := IntWalk.i64_in _ (by omega)
      have hu := upAtW_eq x l m (by rw [HN.out]; omega)
      have c1 : wr.cell? ⟨ga, oa + 2 * m, none⟩ = some (.string (l[2 * m]'(by rw [HN.out]; omega))) := (hbel.cell (p := ⟨ga, oa + 2 * m, none⟩) hgw).trans (HC.out (2 * m) _)
      have c2 : wr.cell? ⟨ga, oa + (2 * m + 1), none⟩ = some (.string (l[2 * m + 1]'(by rw [HN.out]; omega))) := (hbel.cell (p := ⟨ga, oa + (2 * m + 1), none⟩) hgw).trans (HC.out (2 * m + 1) _)
      have c1w := HC.out (2 * m) (by rw [HN.out]; omega)
      have c2w := HC.out (2 * m + 1) (by rw [HN.out]; omega)
      have hlk := upW_at x l m (by rw [upW_len, HN.out]; exact hlt)
      have hst : (upW x l).take m ++ [(upW x l)[m]'(by rw [upW_len, HN.out]; exact hlt)] = (upW x l).take (m + 1) := List.take_append_getElem _
      have hll : ((upW x l).take m).length ≤ 1000 := by rw [List.length_take, upW_len, HN.out]; omega
      rw [hlk, hu] at hst
      generalize l[2 * m]'(by rw [HN.out]; omega) = X at *
      generalize l[2 * m + 1]'(by rw [HN.out]; omega) = Y at *
      have HCT := sTagHash_wd x 3 [X, Y] 2 #[.string X, .string Y] wr _ rfl rfl (by omega) rfl
      generalize hashB 3 [X, Y] x = K at *
      have HNX : Hid (∀ v W, OS w.heap.size w W v ((upW x l).take m ++ [K]) → YuR x l w v (.int .i64 (2 * (m : Int) + 2)) W) := by
        rw [hst]
        exact fun v W hW => ⟨m + 1, by rw [HN.out]; omega, by congr 1, hW⟩
      generalize (upW x l).take m = X0 at *
      have hgr : ga < wr.heap.size := Nat.lt_of_lt_of_le hgw hbel.size
      clear hu hlk hst HC HA HN
      go_wp2
      go_region_held3 (fun W => W.cell? ⟨ga, oa + 2 * m, none⟩ = some (.string X) ∧ W.cell? ⟨ga, oa + (2 * m + 1), none⟩ = some (.string Y)) (first | go_keep | exact ⟨(hb1.cell (p := ⟨ga, oa + 2 * m, none⟩) hgr).trans c1, (hb1.cell (p := ⟨ga, oa + (2 * m + 1), none⟩) hgr).trans c2⟩ | exact ⟨(hos2.2.1.cell (p := ⟨ga, oa + 2 * m, none⟩) hgw).trans c1w, (hos2.2.1.cell (p := ⟨ga, oa + (2 * m + 1), none⟩) hgw).trans c2w⟩) ((first | (go_at_call 61; refine HCT.out.mono ?_; rintro e w1 ⟨rfl, hb1⟩) | (refine step_txtL rfl _ _ rfl w.heap.size w _ X0 K (by rfl) ((hos.later hb1).alloc _) w1.heap.size (by rfl) (by exact one_text _ _ _) (by omega) ?_; intro g5 cap5 w2 hos2 hg2 hl5)))
      go_wp2
      go_roundw
      case rel => exact HNX.out _ _ hos2
      case measure => simp [intOf]; omega
    · have hme : m = n / 2 := by omega
      have e : (upW x l).take m = upW x l := List.take_of_length_le (by rw [upW_len, HN.out]; omega)
      rw [e] at hos
      have i4 : ¬ (2 * (m : Int) + 1 < (n : Int)) := by omega
      clear e
      go_wp2
      go_ret
      exact ⟨_, rfl, hos⟩

end Go.Proofs.YtmcejkfknbjjkaaDoor
/-
  Roots of shards combined, and the sides of one of them: the program's answers and the specification's.
-/
namespace Go.Proofs.YtmcejkfknbjjkaaDoor
open Go.RowKit Go.BigFrame
set_option linter.unusedVariables false
set_option linter.unusedSimpArgs false

def lgN (n : Nat) : Nat := if n = 4 then 2 else if n = 2 then 1 else 0
/-- are these roots right? -/
def rtN (n : Nat) : Bool := decide (n = 1) || decide (n = 2) || decide (n = 4)
def rtB (l : List ByteArray) (x : Int) : Bool := rtN l.length && wideB l x
theorem rtN_iff {n : Nat} : rtN n = true ↔ n = 1 ∨ n = 2 ∨ n = 4 := by simp [rtN, or_assoc]
theorem rtN_pow {n : Nat} (h : rtN n = true) : n = 2 ^ lgN n ∧ lgN n ≤ 2 := by
  rcases rtN_iff.1 h with rfl | rfl | rfl <;> decide
theorem rtB_yes {l : List ByteArray} {x : Int} (h : rtB l x = true) : rtN l.length = true ∧ wideB l x = true := by simpa [rtB] using h
theorem hashW_small (k : Int) (l : List ByteArray) (x : Int) : (hashB k l x).size ≤ 1048576 := by
  unfold hashB
  split
  · unfold cutH
    split
    · unfold cutB
      have := digB_size (tagB k l)
      rw [ByteArray.size_extract]
      omega
    · simp [ByteArray.size]
  · simp [ByteArray.size]
theorem up_small {l : List ByteArray} {x : Int} (h : ∀ s ∈ l, s.size ≤ 1048576) : ∀ j, ∀ s ∈ upNW x l j, s.size ≤ 1048576
  | 0, s, hs => h s hs
  | j + 1, s, hs => by
    unfold upNW upW at hs
    obtain ⟨i, _, rfl⟩ := List.mem_map.1 hs
    exact hashW_small _ _ _
theorem wide_small {l : List ByteArray} {x : Int} (h : wideB l x = true) : ∀ s ∈ l, s.size ≤ 1048576 := by
  intro s hs
  unfold wideB at h
  rw [Bool.and_eq_true, List.all_eq_true] at h
  have h1 := h.1 s hs
  have h2 := h.2
  simp at h1 h2
  omega
/-- what CombineRoots is -/
def crB (l : List ByteArray) (x : Int) : ByteArray := if rtB l x = true then topW x l (lgN l.length) else ⟨#[]⟩
/-- what CombineSides is, and whether -/
def csB (l : List ByteArray) (s x : Int) : Bool := rtB l x && decide (0 ≤ s ∧ s < (l.length : Int))
def csL (l : List ByteArray) (s x : Int) : List ByteArray := if csB l s x = true then sidW x l s.toNat (lgN l.length) else []

theorem l12Roots_any (v : Value) (g o : Nat) (l : List ByteArray) (x : Int) (w : World) (hv : SS w v g o l) :
    Calls Tryd.prog 57 #[v, .int .i64 x] w fun e w' => e = .returned (.bool (rtB l x)) ∧ w' = w := by
  have hc := l11Wide_any v g o l x w hv
  obtain ⟨R, hR⟩ : ∃ R, rtB l x = R := ⟨_, rfl⟩
  have e0 : rtB l x = (rtN l.length && wideB l x) := rfl
  rw [hR] at e0 ⊢
  obtain ⟨a, cap, rfl, hl, hz1, hz2⟩ := hv
  clear hz1 hz2
  generalize l.length = n at *
  generalize wideB l x = b at *
  clear hR
  by_cases h1 : n = 1
  · subst h1
    have : R = b := by rw [e0]; rfl
    subst this
    clear e0
    go_enter Tryd.func57, Tryd.ntmps57
    go_wp2_with fail
    refine hc.mono ?_
    rintro e w1 ⟨rfl, rfl⟩
    go_wp2
    go_ret
    exact ⟨rfl, rfl⟩
  · by_cases h2 : n = 2
    · subst h2
      have : R = b := by rw [e0]; rfl
      subst this
      clear e0
      go_enter Tryd.func57, Tryd.ntmps57
      go_wp2_with fail
      refine hc.mono ?_
      rintro e w1 ⟨rfl, rfl⟩
      go_wp2
      go_ret
      exact ⟨rfl, rfl⟩
    · by_cases h4 : n = 4
      · subst h4
        have : R = b := by rw [e0]; rfl
        subst this
        clear e0
        go_enter Tryd.func57, Tryd.ntmps57
        go_wp2_with fail
        refine hc.mono ?_
        rintro e w1 ⟨rfl, rfl⟩
        go_wp2
        go_ret
        exact ⟨rfl, rfl⟩
      · have : R = false := by rw [e0]; simp [rtN, h1, h2, h4]
        subst this
        have q1 : ((n : Int) == 1) = false := by simp; omega
        have q2 : ((n : Int) == 2) = false := by simp; omega
        have q4 : ((n : Int) == 4) = false := by simp; omega
        clear e0 hc h1 h2 h4
        go_enter Tryd.func57, Tryd.ntmps57
        go_wp2
        go_ret
        exact ⟨rfl, rfl⟩

theorem shC_0 : shC 0 = 1 := rfl
theorem shC_1 : shC 1 = 2 := rfl
theorem shC_2 : shC 2 = 4 := rfl

def YkR (n : Nat) (w : World) (i : Value) (wr : World) : Prop := ∃ m : Nat, m ≤ 3 ∧ i = .int .i64 m ∧ wr = w ∧ Hid (∀ j : Nat, j < m → n ≠ shC (j : Int))

set_option maxRecDepth 100000 in
set_option maxHeartbeats 1000000 in
theorem rootsOk_any (v : Value) (g o : Nat) (l : List ByteArray) (x : Int) (w : World) (hv : SS w v g o l) :
    Calls Tryd.prog 53 #[v, .int .i64 x] w fun e w' => e = .returned (.bool (rtB l x)) ∧ w' = w := by
  have HC : Hid (Calls Tryd.prog 83 #[v, .int .i64 x] w fun e w' => e = .returned (.bool (allW l x)) ∧ w' = w) := allWide_any v g o l x w hv
  obtain ⟨R, hR⟩ : ∃ R, rtB l x = R := ⟨_, rfl⟩
  have e0 : rtB l x = (rtN l.length && (allW l x && decide (1 ≤ x ∧ x ≤ 32))) := rfl
  rw [hR] at e0 ⊢
  obtain ⟨a, cap, rfl, hl, hz1, hz2⟩ := hv
  clear hz1 hz2
  generalize l.length = n at *
  generalize allW l x = b at *
  have HE : Hid (R = (rtN n && (b && decide (1 ≤ x ∧ x ≤ 32)))) := e0
  have HST : Hid (YkR n w (.int .i64 0) w) := ⟨0, by omega, rfl, rfl, fun j h => by omega⟩
  clear hR e0
  go_enter Tryd.func53, Tryd.ntmps53
  go_wp2
  go_loopw [6] (fun i wr => YkR n w i wr) (fun i _ => 3 - (intOf i).toNat)
  case atStart => exact HST.out
  case round =>
    obtain ⟨m, hm, rfl, rfl, HI⟩ := hrel
    clear HST
    by_cases hlt : m < 3
    · have i1 : (m : Int) < 3 := by omega
      have hsc : shC (m : Int) = 1 ∨ shC (m : Int) = 2 ∨ shC (m : Int) = 4 := shC_cases _
      have HY : Hid (n = shC (m : Int) → rtN n = true) := fun h => by rw [h]; exact rtN_iff.2 hsc
      have HN : Hid (n ≠ shC (m : Int) → ∀ j : Nat, j < m + 1 → n ≠ shC (j : Int)) := fun h j hj => by
        rcases Nat.lt_or_ge j m with h1 | h1
        · exact HI.out j h1
        · have : j = m := by omega
          subst this
          exact h
      have hcc := shardCount_any (m : Int) wr
      generalize shC (m : Int) = C at *
      go_wp2_with fail
      refine hcc.mono ?_
      rintro e w1 ⟨rfl, rfl⟩
      clear hcc HI
      by_cases hk : n = C
      · have hb : R = (b && decide (1 ≤ x ∧ x ≤ 32)) := by rw [HE.out, HY.out hk]; rfl
        subst hk
        clear HY HN HE
        go_wp2_with fail
        refine (widthOk_any _ _).mono ?_
        rintro e w1 ⟨rfl, rfl⟩
        cases hd : decide (1 ≤ x ∧ x ≤ 32) with
        | false =>
          have hb2 : R = false := by rw [hb, hd]; simp
          subst hb2
          clear hb HC
          go_wp2
          try rw [Exit.noGoto_ret]
          go_ret
          exact ⟨rfl, rfl⟩
        | true =>
          have hb2 : R = b := by rw [hb, hd]; simp
          subst hb2
          clear hb
          go_wp2_with fail
          refine HC.out.mono ?_
          rintro e w1 ⟨rfl, rfl⟩
          go_wp2
          try rw [Exit.noGoto_ret]
          go_ret
          exact ⟨rfl, rfl⟩
      · have HN2 : Hid (∀ j : Nat, j < m + 1 → n ≠ shC (j : Int)) := HN.out hk
        have q : ((n : Int) == (C : Int)) = false := by simp; omega
        clear HY HN hk
        go_wp2
        go_roundw
        case rel => exact ⟨m + 1, by omega, by go_num, rfl, HN2⟩
        case measure => simp [intOf]; omega
    · have hme : m = 3 := by omega
      subst hme
      have hRf : R = false := by
        have h0 := HI.out 0 (by omega)
        have h1 := HI.out 1 (by omega)
        have h2 := HI.out 2 (by omega)
        have : rtN n = false := by
          cases h : rtN n with
          | false => rfl
          | true =>
            rcases rtN_iff.1 h with rfl | rfl | rfl
            · exact absurd rfl h0
            · exact absurd rfl h1
            · exact absurd rfl h2
        rw [HE.out, this]
        rfl
      subst hRf
      clear HI HE HC
      go_wp2
      go_ret
      exact ⟨rfl, rfl⟩

set_option maxRecDepth 100000 in
set_option maxHeartbeats 1000000 in
theorem CombineRoots_any (v : Value) (g o : Nat) (l : List ByteArray) (x : Int) (w : World) (hv : SS w v g o l) (hT : Tb w) :
    Calls Tryd.prog 20 #[v, .int .i64 x] w fun e w' => e = .returned (.tuple #[.string (crB l x), .bool (rtB l x)]) ∧ Below w.heap.size w w' := by
  have hc := rootsOk_any v g o l x w hv
  cases h : rtB l x with
  | false =>
    have e1 : crB l x = ⟨#[]⟩ := by unfold crB; rw [h]; rfl
    rw [e1]
    rw [h] at hc
    clear e1 hT h
    go_enter Tryd.func20, Tryd.ntmps20
    go_wp2_with fail
    refine hc.mono ?_
    rintro e w1 ⟨rfl, rfl⟩
    go_wp2
    go_ret2
    exact ⟨rfl, Below.refl _ _⟩
  | true =>
    obtain ⟨h1, h2⟩ := rtB_yes h
    have e1 : crB l x = topW x l (lgN l.length) := by unfold crB; rw [h]; rfl
    rw [e1]
    have ht := topOf_any v g o l (lgN l.length) x w hv (rtN_pow h1).1 (by have := (rtN_pow h1).2; omega) (up_small (wide_small h2)) hT
    rw [h] at hc
    generalize topW x l (lgN l.length) = R at *
    clear e1 hT h h1 h2
    go_enter Tryd.func20, Tryd.ntmps20
    go_wp2_with fail
    refine hc.mono ?_
    rintro e w1 ⟨rfl, rfl⟩
    go_wp2_with fail
    refine ht.mono ?_
    rintro e w2 ⟨rfl, hb⟩
    go_wp2
    go_ret2
    exact ⟨rfl, hb⟩

/-- sides answered, and whether -/
def CsP (l : List ByteArray) (R : Bool) (w : World) (e : Ending) (w' : World) : Prop := ∃ v, e = .returned (.tuple #[v, .bool R]) ∧ OS w.heap.size w w' v l

set_option maxRecDepth 100000 in
set_option maxHeartbeats 1000000 in
theorem CombineSides_any (v : Value) (g o : Nat) (l : List ByteArray) (s x : Int) (w : World) (hv : SS w v g o l) (hT : Tb w) :
    Calls Tryd.prog 16 #[v, .int .i64 s, .int .i64 x] w (CsP (csL l s x) (csB l s x) w) := by
  have hc := rootsOk_any v g o l x w hv
  obtain ⟨R, hR⟩ : ∃ R, csB l s x = R := ⟨_, rfl⟩
  have e0 : csB l s x = (rtB l x && decide (0 ≤ s ∧ s < (l.length : Int))) := rfl
  have HO : Hid (OS w.heap.size w (w.alloc (.cells #[] 9)) (.slice (some ⟨w.heap.size, 0, none⟩) 0 0) []) := OS.made w
  cases h : rtB l x with
  | false =>
    have hRf : R = false := by rw [← hR, e0, h]; rfl
    subst hRf
    have e1 : csL l s x = [] := by unfold csL; rw [hR]; rfl
    rw [hR, e1]
    rw [h] at hc
    clear e1 hT h hR e0
    go_enter Tryd.func16, Tryd.ntmps16
    go_wp2_with fail
    refine hc.mono ?_
    rintro e w1 ⟨rfl, rfl⟩
    go_wp2
    go_ret2
    exact ⟨_, rfl, HO.out⟩
  | true =>
    obtain ⟨h1, h2⟩ := rtB_yes h
    rw [h] at hc
    by_cases hs : 0 ≤ s ∧ s < (l.length : Int)
    · have hRt : R = true := by rw [← hR, e0, h, decide_eq_true hs]; rfl
      subst hRt
      have e1 : csL l s x = sidW x l s.toNat (lgN l.length) := by unfold csL; rw [hR]; rfl
      rw [hR, e1]
      have ht := sidesInRow_any v g o l (lgN l.length) s.toNat x w hv (rtN_pow h1).1 (by have := (rtN_pow h1).2; omega) (by have := (rtN_pow h1).1; omega) (up_small (wide_small h2)) hT
      have es : ((s.toNat : Nat) : Int) = s := by omega
      rw [es] at ht
      obtain ⟨a, cap, rfl, hl, hz1, hz2⟩ := hv
      clear hz1 hz2
      generalize sidW x l s.toNat (lgN l.length) = S at *
      generalize l.length = n at *
      have i1 : ¬ s < 0 := by omega
      have i2 : ¬ (n : Int) ≤ s := by omega
      clear e1 hT h h1 h2 hR e0 es hs
      go_enter Tryd.func16, Tryd.ntmps16
      go_wp2_with fail
      refine hc.mono ?_
      rintro e w1 ⟨rfl, rfl⟩
      go_wp2_with fail
      refine ht.mono ?_
      rintro e w2 ⟨u, rfl, hb⟩
      go_wp2
      go_ret2
      exact ⟨_, rfl, hb⟩
    · have hRf : R = false := by rw [← hR, e0, decide_eq_false hs]; simp
      subst hRf
      have e1 : csL l s x = [] := by unfold csL; rw [hR]; rfl
      rw [hR, e1]
      obtain ⟨a, cap, rfl, hl, hz1, hz2⟩ := hv
      clear hz1 hz2
      generalize l.length = n at *
      clear e1 hT h h1 h2 hR e0
      by_cases hs0 : s < 0
      · clear hs
        go_enter Tryd.func16, Tryd.ntmps16
        go_wp2_with fail
        refine hc.mono ?_
        rintro e w1 ⟨rfl, rfl⟩
        go_wp2
        go_ret2
        exact ⟨_, rfl, HO.out⟩
      · have i2 : (n : Int) ≤ s := by omega
        clear hs
        go_enter Tryd.func16, Tryd.ntmps16
        go_wp2_with fail
        refine hc.mono ?_
        rintro e w1 ⟨rfl, rfl⟩
        go_wp2
        go_ret2
        exact ⟨_, rfl, HO.out⟩

end Go.Proofs.YtmcejkfknbjjkaaDoor
/-
  Roots of shards combined, and the sides of one of them: the specification's answers.
-/
namespace Go.Proofs.YtmcejkfknbjjkaaDoor
open Go.RowKit Go.BigFrame
set_option linter.unusedVariables false
set_option linter.unusedSimpArgs false

/-- a row of texts appended, and where it lies then -/
theorem wp_appRowW {w : World} {ops : Array Oper} {rest : List Oper} {o : Oper} {a : Act} {Q : Exit → Act → World → Prop} (hgd : o.guard = none) (s x : Operand)
    (ho : o.op = .call { callee := .builtin .append, args := #[s, x], argTypes := #[30, 30] })
    (B : Nat) (w0 : World) (v u : Value) (l r : List ByteArray) (hs : a.eval s = v) (hown : OS B w0 w v l) (hx : a.eval x = u) (g of : Nat) (hr : SS w u g of r) (h0 : 0 < r.length) (hlen : l.length + r.length ≤ 1000000)
    (h : ∀ g5 cap5 w', OS B w0 w' (.slice (some ⟨g5, 0, none⟩) (l.length + r.length) cap5) (l ++ r) → w.grownBy w' v.ownBlock → (v.ownBlock = some g5 ∨ g5 = w.heap.size) → wpList Tryd.prog ops Q rest (a.put o.dst (.slice (some ⟨g5, 0, none⟩) (l.length + r.length) cap5)) w') : wpList Tryd.prog ops Q (o :: rest) a w := by
  obtain ⟨i0, hi, hz0, hz1, hz2⟩ := info_parts Tryd.info9
  obtain ⟨ao, cap, rfl, _, hA, hc⟩ := hr
  have ea := hA h0
  subst ea
  refine wpList_append_lies w hgd s x 30 ho B 9 i0 (.string ByteArray.empty) 1 16 Tryd.underlying30 hi hz0 hz1 hz2 rfl (by decide) v l.length (svs l) hs hown.1 ⟨g, of, none⟩ r.length cap (svs r) hx (by simp [svs]) ?_
    (fun u hu => by simp [svs] at hu; obtain ⟨b, _, rfl⟩ := hu; rfl) (by omega) (by unfold maxLen; omega) (by omega) hown.2.2 w.heap.size rfl ?_
  · intro j u hj
    have hj2 : j < r.length := by
      have := (List.getElem?_eq_some_iff.1 hj).1
      simpa [svs] using this
    rw [Addr.add_mid, hc j hj2]
    simp [svs, List.getElem?_eq_getElem hj2] at hj
    rw [hj]
  · intro g5 cap5 w' h1 h2 h3 _
    refine h g5 cap5 w' ⟨by rw [List.length_append, svs_append]; exact h1, hown.2.1.grown h2 hown.2.2 (fun k hk => (hown.1.lt k hk).1), ?_⟩ h2 h3
    exact Nat.le_trans hown.2.2 h2.size

theorem OS.upW {B : Nat} {w0 w w' : World} {u : Value} {l : List ByteArray} (hb : Below B w0 w) (hB : B ≤ w.heap.size) (h : OS w.heap.size w w' u l) : OS B w0 w' u l := by
  refine ⟨⟨h.1.1, ?_⟩, hb.trans (h.2.1.mono hB), Nat.le_trans hB h.2.2⟩
  rcases h.1.2 with hn | ⟨g, cap, cur, hv, hbg, rest⟩
  · exact .inl hn
  · exact .inr ⟨g, cap, cur, hv, Nat.le_trans hB hbg, rest⟩

def YvR (x : Int) (l : List ByteArray) (d : Nat) (w : World) (v : Value) (wr : World) : Prop := ∃ j : Nat, j ≤ d ∧ OS w.heap.size w wr v (upNW x l j)

set_option maxRecDepth 100000 in
set_option maxHeartbeats 1000000 in
theorem sCombineRoots_yes (v : Value) (ga oa : Nat) (l : List ByteArray) (x : Int) (w : World) (hv : SS w v ga oa l) (h : rtB l x = true) :
    Calls Tryd.prog 21 #[v, .int .i64 x] w fun e w' => e = .returned (.tuple #[.string (topW x l (lgN l.length)), .bool true]) ∧ Below w.heap.size w w' := by
  have hc := l12Roots_any v ga oa l x w hv
  rw [h] at hc
  obtain ⟨hp, hd⟩ := rtN_pow (rtB_yes h).1
  have hga := hv.lt
  have HV : Hid (SS (w.alloc (.cells #[] 9)) v ga oa l) := hv.below ((Below.refl _ _).alloc (Nat.le_refl _) _) hga
  obtain ⟨d, hdd⟩ : ∃ d, lgN l.length = d := ⟨_, rfl⟩
  rw [hdd] at hp hd ⊢
  have HL : Hid (l.length = 2 ^ d ∧ 0 < l.length ∧ l.length ≤ 4) := ⟨hp, by rw [hp]; exact Nat.two_pow_pos _, by
    have := rtN_iff.1 (rtB_yes h).1
    omega⟩
  obtain ⟨a, cap, rfl, _, hA, hcc⟩ := hv
  clear hA hcc hga h hp hdd
  go_enter Tryd.func21, Tryd.ntmps21
  go_wp2_with fail
  refine hc.mono ?_
  rintro e w0 ⟨rfl, rfl⟩
  go_wp2_with (at_builtin; refine wp_appRowW rfl _ _ rfl w0.heap.size w0 _ _ [] l rfl (OS.made w0) rfl ga oa HV.out ?c0 ?c1 ?_)
  case c0 => exact HL.out.2.1
  case c1 => have := HL.out.2.2; simp; omega
  intro g1 cap1 w1 hos1 _ _
  have HS : Hid (YvR x l d w0 (.slice (some ⟨g1, 0, none⟩) l.length cap1) w1) := ⟨0, by omega, hos1⟩
  clear hos1 HV hc
  go_wp2
  go_loopw [6] (fun v wr => YvR x l d w0 v wr) (fun v _ => lenOf v)
  case atStart => exact HS.out
  case round =>
    obtain ⟨j, hj, hos⟩ := hrel
    clear HS
    have hln := upNW_len (x := x) HL.out.1 j hj
    have hbel := hos.2.1
    have hB := hos.2.2
    have h64 : 2 ^ (d - j) ≤ 2 ^ 2 := Nat.pow_le_pow_right (by omega) (by omega)
    by_cases hlt : j < d
    · obtain ⟨g, hss⟩ := hos.ss (by rw [hln]; omega)
      have hc := l12Up_any _ g 0 (upNW x l j) x wr hss (by rw [hln]; omega)
      obtain ⟨aa, cc, hvv⟩ := own_slice hos.1
      have hln2 := upNW_len (x := x) HL.out.1 (j + 1) (by omega)
      have h2 : 2 ^ (d - j) = 2 * 2 ^ (d - (j + 1)) := by rw [show d - j = (d - (j + 1)) + 1 by omega, Nat.pow_succ]; omega
      have hpos : 0 < 2 ^ (d - (j + 1)) := Nat.two_pow_pos _
      obtain ⟨k, hk⟩ : ∃ k, (upNW x l j).length = k := ⟨_, rfl⟩
      have hk2 : (upNW x l (j + 1)).length < k := by rw [← hk, hln, hln2]; omega
      have HK2 : Hid ((upNW x l (j + 1)).length < k) := hk2
      have h1 : 1 < k := by rw [← hk, hln]; omega
      rw [hk] at hvv
      subst hvv
      clear hss hos hln hln2 h2 hpos h64 hk2
      have q1 : (1 : Int) < (k : Int) := by omega
      go_wp2_with fail
      refine hc.mono ?_
      rintro e w2 ⟨u, rfl, hos2⟩
      have HN : Hid (YvR x l d w0 u w2) := ⟨j + 1, by omega, OS.upW hbel hB hos2⟩
      obtain ⟨ab, cb, hub⟩ := own_slice hos2.1
      have HU : Hid (lenOf u = (upNW x l (j + 1)).length) := by rw [hub]; rfl
      clear hos2 hc hbel hB hk hub
      go_wp2
      go_roundw
      case rel => exact HN.out
      case measure => rw [HU.out]; exact HK2.out
    · have hje : j = d := by omega
      subst hje
      rw [Nat.sub_self] at hln
      have h4 : (upNW x l j).length = 1 := hln
      have hr := topW_eq x l j (by omega)
      rcases hos.shape with ⟨_, hnil⟩ | ⟨g, cap', hv', _, _⟩
      · rw [hnil] at h4
        simp at h4
      · have c0 : wr.cell? ⟨g, 0, none⟩ = some (.string (topW x l j)) := by
          rw [hv'] at hos
          have := hos.at 0 (by omega)
          rw [hr] at this
          exact this
        rw [h4] at hv'
        subst hv'
        obtain ⟨R, hR⟩ : ∃ R, topW x l j = R := ⟨_, rfl⟩
        have HR : Hid (topW x l j = R) := hR
        rw [hR] at c0
        clear hos h4 hr hln hR
        go_wp2
        go_ret2
        exact ⟨by rw [HR.out]; rfl, hbel⟩

theorem sCombineRoots_any (v : Value) (ga oa : Nat) (l : List ByteArray) (x : Int) (w : World) (hv : SS w v ga oa l) :
    Calls Tryd.prog 21 #[v, .int .i64 x] w fun e w' => e = .returned (.tuple #[.string (crB l x), .bool (rtB l x)]) ∧ Below w.heap.size w w' := by
  cases h : rtB l x with
  | false =>
    have hc := l12Roots_any v ga oa l x w hv
    have e1 : crB l x = ⟨#[]⟩ := by unfold crB; rw [h]; rfl
    rw [e1]
    rw [h] at hc
    clear e1 h
    go_enter Tryd.func21, Tryd.ntmps21
    go_wp2_with fail
    refine hc.mono ?_
    rintro e w1 ⟨rfl, rfl⟩
    go_wp2
    go_ret2
    exact ⟨rfl, Below.refl _ _⟩
  | true =>
    have e1 : crB l x = topW x l (lgN l.length) := by unfold crB; rw [h]; rfl
    rw [e1]
    exact sCombineRoots_yes v ga oa l x w hv h

/-- what each round holds -/
def YwR (x : Int) (l : List ByteArray) (d s : Nat) (w : World) (p u v : Value) (wr : World) : Prop :=
  ∃ m : Nat, m ≤ d ∧ p = .int .i64 (s / 2 ^ m : Nat) ∧ OS w.heap.size w wr u (sidW x l s m) ∧ OS w.heap.size w wr v (upNW x l m) ∧ (∀ g, u.ownBlock = some g → v.ownBlock ≠ some g)

/-- a row that stands beside the one that grew -/
theorem OS.beside {B : Nat} {w0 w w' : World} {v : Value} {l : List ByteArray} {row : Option Nat} (h : OS B w0 w v l) (hg : w.grownBy w' row) (hb : Below B w0 w') (hne : ∀ g, row = some g → v.ownBlock ≠ some g) : OS B w0 w' v l := by
  refine ⟨⟨h.1.1, ?_⟩, hb, Nat.le_trans h.2.2 hg.size⟩
  rcases h.1.2 with hn | ⟨g, cap, cur, hv, hbg, hgg, rest⟩
  · exact .inl hn
  · refine .inr ⟨g, cap, cur, hv, hbg, ?_, rest⟩
    rw [hg.block g (Array.getElem?_eq_some_iff.1 hgg).1 (fun e => hne g e.symm (by rw [hv]; rfl))]
    exact hgg

set_option maxRecDepth 100000 in
set_option maxHeartbeats 2000000 in
theorem sCombineSides_yes (v : Value) (ga oa : Nat) (l : List ByteArray) (s : Nat) (x : Int) (w : World) (hv : SS w v ga oa l) (h : rtB l x = true) (hs : s < l.length) :
    Calls Tryd.prog 19 #[v, .int .i64 s, .int .i64 x] w (CsP (sidW x l s (lgN l.length)) true w) := by
  have hc := l12Roots_any v ga oa l x (w.alloc (.cells #[] 9)) (hv.below ((Below.refl _ _).alloc (Nat.le_refl _) _) hv.lt)
  rw [h] at hc
  obtain ⟨hp, hd⟩ := rtN_pow (rtB_yes h).1
  have hga := hv.lt
  have HV : Hid (SS ((w.alloc (.cells #[] 9)).alloc (.cells #[] 9)) v ga oa l) := hv.below (((Below.refl _ _).alloc (Nat.le_refl _) _).alloc (by simp) _) hga
  obtain ⟨d, hdd⟩ : ∃ d, lgN l.length = d := ⟨_, rfl⟩
  rw [hdd] at hp hd ⊢
  have HL : Hid (l.length = 2 ^ d ∧ 0 < l.length ∧ l.length ≤ 4) := ⟨hp, by rw [hp]; exact Nat.two_pow_pos _, by
    have := rtN_iff.1 (rtB_yes h).1
    omega⟩
  have hs2 : s < 2 ^ d := by omega
  have HO1 : Hid (OS w.heap.size w (w.alloc (.cells #[] 9)) (.slice (some ⟨w.heap.size, 0, none⟩) 0 0) []) := OS.made w
  have hsz : (w.alloc (.cells #[] 9)).heap.size = w.heap.size + 1 := by simp
  have HO2 : Hid (OS w.heap.size w ((w.alloc (.cells #[] 9)).alloc (.cells #[] 9)) (.slice (some ⟨w.heap.size + 1, 0, none⟩) 0 0) []) := by
    have := OS.upW HO1.out.2.1 HO1.out.2.2 (OS.made (w.alloc (.cells #[] 9)))
    rw [hsz] at this
    exact this
  obtain ⟨a, cap, rfl, _, hA, hcc⟩ := hv
  obtain ⟨n, hn⟩ : ∃ n, l.length = n := ⟨_, rfl⟩
  have hd2 : decide ((0 : Int) ≤ (s : Int) ∧ (s : Int) ≤ (n : Int) - 1) = true := by simp; omega
  have hn4 : n ≤ 4 := by have := HL.out.2.2; omega
  have HN : Hid (l.length = n) := hn
  rw [hn] at hc HV ⊢
  clear hA hcc hga h hp hdd hs hn hsz
  go_enter Tryd.func19, Tryd.ntmps19
  go_wp2_with fail
  refine hc.mono ?_
  rintro e w0 ⟨rfl, rfl⟩
  clear hc
  go_wp2_with fail
  refine (l01In_any _ _ _ _).mono ?_
  rintro e w0 ⟨rfl, rfl⟩
  rw [hd2]
  go_wp2_with (at_builtin; refine wp_appRowW rfl _ _ rfl w.heap.size w _ _ [] l rfl HO2.out rfl ga oa HV.out ?c0 ?c1 ?_)
  case c0 => exact HL.out.2.1
  case c1 => have := HL.out.2.2; simp; omega
  intro g1 cap1 w1 hos1 hg1 hl1
  have HS : Hid (YwR x l d s w (.int .i64 (s : Int)) (.slice (some ⟨w.heap.size, 0, none⟩) 0 0) (.slice (some ⟨g1, 0, none⟩) l.length cap1) w1) := by
    have hu : OS w.heap.size w w1 (.slice (some ⟨w.heap.size, 0, none⟩) 0 0) [] := (HO1.out.later ((Below.refl _ _).alloc (Nat.le_refl _) _)).beside hg1 hos1.2.1 (fun g hg => by simp [Value.ownBlock] at hg ⊢; omega)
    refine ⟨0, by omega, by simp, hu, hos1, ?_⟩
    intro g hg
    simp [Value.ownBlock] at hg hl1 ⊢
    omega
  clear hos1 HV HO1 HO2 hg1 hl1
  go_wp2
  go_loopw [1, 8, 9] (fun p u v wr => YwR x l d s w p u v wr) (fun _ _ v _ => lenOf v)
  case atStart => exact HS.out
  case round =>
    obtain ⟨m, hm, rfl, hos, hosv, hne⟩ := hrel
    clear HS
    have hpw := upNW_len (x := x) HL.out.1 m hm
    have h64 : 2 ^ (d - m) ≤ 2 ^ 2 := Nat.pow_le_pow_right (by omega) (by omega)
    by_cases hlt : m < d
    · have h2 : 2 ^ (d - m) = 2 * 2 ^ (d - (m + 1)) := by rw [show d - m = (d - (m + 1)) + 1 by omega, Nat.pow_succ]; omega
      have hpos : 0 < 2 ^ (d - (m + 1)) := Nat.two_pow_pos _
      have hq : s / 2 ^ m < 2 ^ (d - m) := by
        rw [Nat.div_lt_iff_lt_mul (Nat.two_pow_pos _), ← Nat.pow_add, show d - m + m = d by omega]
        exact hs2
      have hq2 : s / 2 ^ (m + 1) = s / 2 ^ m / 2 := by rw [Nat.pow_succ, Nat.div_div_eq_div_mul]
      have hst : sidW x l s (m + 1) = sidW x l s m ++ [(upNW x l m).getD (TR.oth (s / 2 ^ m)) ByteArray.empty] := rfl
      have hlen := sidW_len x l s m
      generalize s / 2 ^ m = q at *
      obtain ⟨n, hn⟩ : ∃ n, (upNW x l m).length = n := ⟨_, rfl⟩
      have hn2 : n % 2 = 0 ∧ 1 < n ∧ n / 2 < n ∧ n ≤ 4 ∧ q < n := by rw [← hn, hpw]; omega
      have hyl := oth_lt hn2.1 hn2.2.2.2.2
      have e0 : (upNW x l m).getD (TR.oth q) ByteArray.empty = (upNW x l m)[TR.oth q]'(by rw [hn]; exact hyl) := by
        rw [List.getD_eq_getElem?_getD, List.getElem?_eq_getElem (by rw [hn]; exact hyl)]
        rfl
      rcases hosv.shape with ⟨_, hnil⟩ | ⟨gv, capv, hvv, _, hgv⟩
      · rw [hnil] at hn
        simp at hn
        omega
      rw [hn] at hvv
      subst hvv
      have c0 := hosv.at (TR.oth q) (by rw [hn]; exact hyl)
      rw [← e0] at c0
      have i3 := xor_b q (by omega)
      have HRA : Hid (∀ W, OS w.heap.size w W (.slice (some ⟨gv, 0, none⟩) n capv) (upNW x l m) → Calls Tryd.prog 58 #[.slice (some ⟨gv, 0, none⟩) n capv, .int .i64 x] W fun e w' => ∃ u, e = .returned u ∧ OS w.heap.size w w' u (upNW x l (m + 1)) ∧ Below W.heap.size W w' ∧ lenOf u = n / 2 ∧ ∀ g, u.ownBlock = some g → W.heap.size ≤ g) := fun W hW => by
        obtain ⟨g0, hss⟩ := hW.ss (by rw [hn]; omega)
        refine (l12Up_any _ g0 0 (upNW x l m) x W hss (by rw [hn]; omega)).mono ?_
        rintro e w' ⟨u, he, hos2⟩
        refine ⟨u, he, OS.upW hW.2.1 hW.2.2 hos2, hos2.2.1, ?_, fun g hg => (hos2.1.lt g hg).1⟩
        obtain ⟨ab, cb, hub⟩ := own_slice hos2.1
        rw [hub]
        show (upW x (upNW x l m)).length = n / 2
        rw [upW_len, hn]
      have HN2 : Hid (∀ u v W, OS w.heap.size w W u (sidW x l s (m + 1)) → OS w.heap.size w W v (upNW x l (m + 1)) → (∀ g, u.ownBlock = some g → v.ownBlock ≠ some g) → YwR x l d s w (.int .i64 ((q / 2 : Nat) : Int)) u v W) :=
        fun u v W h1 h2 h3 => ⟨m + 1, by omega, by rw [hq2], h1, h2, h3⟩
      rw [hst] at HN2
      have HV2 : Hid (OS w.heap.size w wr (.slice (some ⟨gv, 0, none⟩) n capv) (upNW x l m)) := hosv
      have HNE : Hid (∀ g, u8.ownBlock = some g → (Value.slice (some ⟨gv, 0, none⟩) n capv).ownBlock ≠ some g) := hne
      clear hosv hpw hq2 h2 hst e0 hn h64 hpos hq hne
      generalize (upNW x l m).getD (TR.oth q) ByteArray.empty = X at *
      generalize sidW x l s m = S at *
      obtain ⟨hn0, hn1, hn3, hn4, hn5⟩ := hn2
      generalize TR.oth q = y at *
      have i1 : (1 : Int) < (n : Int) := by omega
      have i4 : (y : Int) < (n : Int) := by omega
      have i5 : (0 : Int) ≤ (y : Int) := by omega
      go_wp2_with (at_builtin; refine wp_txtL rfl _ _ rfl w.heap.size w _ S X rfl (hos.alloc _) wr.heap.size rfl ?c1 ?c2 ?_)
      case c1 => exact one_text _ _ _
      case c2 => omega
      intro g5 cap5 w2 hos2 hgr hl5
      have hv2 := (HV2.out.alloc (.cells #[.string X] 9)).beside hgr hos2.2.1 HNE.out
      clear hos HV2 HNE c0
      go_wp2_with fail
      refine (HRA.out _ hv2).mono ?_
      rintro e w3 ⟨u9, rfl, hos3, hb3, hlu, hlie⟩
      have HK : Hid (YwR x l d s w (.int .i64 ((q / 2 : Nat) : Int)) (.slice (some ⟨g5, 0, none⟩) (m + 1) cap5) u9 w3) := HN2.out _ _ _ (hos2.later hb3) hos3 (fun g hg he => by have h1 := hlie g he; have h2 := (hos2.1.lt g hg).2; omega)
      clear hos2 hb3 hos3 hlie hv2 hgr HRA HN2
      go_wp2
      go_roundw
      case rel => exact HK.out
      case measure => rw [hlu]; simp [lenOf]; omega
    · have hme : m = d := by omega
      subst hme
      rw [Nat.sub_self] at hpw
      obtain ⟨a5, c5, hvv⟩ := own_slice hosv.1
      rw [hpw] at hvv
      subst hvv
      have HF : Hid (OS w.heap.size w wr u8 (sidW x l s m)) := hos
      clear hos hosv hne
      go_wp2
      go_ret2
      exact ⟨_, rfl, HF.out⟩

theorem sCombineSides_any (v : Value) (ga oa : Nat) (l : List ByteArray) (s x : Int) (w : World) (hv : SS w v ga oa l) :
    Calls Tryd.prog 19 #[v, .int .i64 s, .int .i64 x] w (CsP (csL l s x) (csB l s x) w) := by
  obtain ⟨R, hR⟩ : ∃ R, csB l s x = R := ⟨_, rfl⟩
  have e0 : csB l s x = (rtB l x && decide (0 ≤ s ∧ s < (l.length : Int))) := rfl
  cases h : rtB l x with
  | false =>
    have hc := l12Roots_any v ga oa l x (w.alloc (.cells #[] 9)) (hv.below ((Below.refl _ _).alloc (Nat.le_refl _) _) hv.lt)
    have HO : Hid (OS w.heap.size w (w.alloc (.cells #[] 9)) (.slice (some ⟨w.heap.size, 0, none⟩) 0 0) []) := OS.made w
    have hRf : R = false := by rw [← hR, e0, h]; rfl
    subst hRf
    have e1 : csL l s x = [] := by unfold csL; rw [hR]; rfl
    rw [hR, e1]
    rw [h] at hc
    clear e1 h hR e0
    go_enter Tryd.func19, Tryd.ntmps19
    go_wp2_with fail
    refine hc.mono ?_
    rintro e w1 ⟨rfl, rfl⟩
    go_wp2
    go_ret2
    exact ⟨_, rfl, HO.out⟩
  | true =>
    by_cases hs : 0 ≤ s ∧ s < (l.length : Int)
    · have hRt : R = true := by rw [← hR, e0, h, decide_eq_true hs]; rfl
      subst hRt
      have e1 : csL l s x = sidW x l s.toNat (lgN l.length) := by unfold csL; rw [hR]; rfl
      rw [hR, e1]
      have ht := sCombineSides_yes v ga oa l s.toNat x w hv h (by omega)
      have es : ((s.toNat : Nat) : Int) = s := by omega
      rw [es] at ht
      exact ht
    · have hRf : R = false := by rw [← hR, e0, decide_eq_false hs]; simp
      subst hRf
      have hc := l12Roots_any v ga oa l x (w.alloc (.cells #[] 9)) (hv.below ((Below.refl _ _).alloc (Nat.le_refl _) _) hv.lt)
      have HO : Hid (OS w.heap.size w (w.alloc (.cells #[] 9)) (.slice (some ⟨w.heap.size, 0, none⟩) 0 0) []) := OS.made w
      have e1 : csL l s x = [] := by unfold csL; rw [hR]; rfl
      rw [hR, e1]
      rw [h] at hc
      obtain ⟨a, cap, rfl, hl, hz1, hz2⟩ := hv
      clear hz1 hz2
      generalize l.length = n at *
      have hd2 : decide ((0 : Int) ≤ s ∧ s ≤ (n : Int) - 1) = false := by simp; omega
      clear e1 h hR e0 hs
      go_enter Tryd.func19, Tryd.ntmps19
      go_wp2_with fail
      refine hc.mono ?_
      rintro e w1 ⟨rfl, rfl⟩
      go_wp2_with fail
      refine (l01In_any _ _ _ _).mono ?_
      rintro e w1 ⟨rfl, rfl⟩
      rw [hd2]
      go_wp2
      go_ret2
      exact ⟨_, rfl, HO.out⟩

end Go.Proofs.YtmcejkfknbjjkaaDoor
/-
  The walk of the law FnExactShardRoot: it answers true of every row of leaves, every split, shard and width.
-/
namespace Go.Proofs.YtmcejkfknbjjkaaDoor
open Go.RowKit Go.BigFrame Go.Sort
set_option linter.unusedVariables false
set_option linter.unusedSimpArgs false

set_option maxRecDepth 100000 in
set_option maxHeartbeats 2000000 in
theorem exactShardRoot_any (v : Value) (g o : Nat) (L : List Le) (l : Int) (p : Int) (x : Int) (w : World) (hT : Tb w) (hv : IsRowL w v g o L) :
    Calls Tryd.prog 6 #[v, .int .i64 l, .int .i64 p, .int .i64 x] w fun e w' => e = .returned (.bool true) ∧ Below w.heap.size w w' := by
  have HSZ := szLeafS_row v g o L 1048576 _ hv (by omega) (by omega)
  have hsv : ∃ a n cap, v = .slice a n cap := by obtain ⟨a, n, cap, h, _⟩ := hv; exact ⟨a, n, cap, h⟩
  have HR : Hid (IsRowL w v g o L) := hv
  obtain ⟨a, n, cap, rfl⟩ := hsv
  clear hv
  go_enter Tryd.func6, Tryd.ntmps6
  go_wp2_with fail
  refine HSZ.mono ?_
  rintro e w1 ⟨A, rfl, hb1, _, hA⟩
  by_cases hneg : A < 0
  · clear hA HSZ HR hT
    go_wp2
    go_ret
    exact ⟨rfl, hb1⟩
  · obtain ⟨hrs, hsm, hlen⟩ := hA (by omega)
    have HTO : Hid (∀ W, Below w.heap.size w W → Calls Tryd.prog 29 #[.slice a n cap] W fun e w' => ∃ g, e = .returned (.slice (some ⟨g, 0, none⟩) L.length L.length) ∧ RW 2 lcs w' (.slice (some ⟨g, 0, none⟩) L.length L.length) g L ∧ W.heap.size ≤ g ∧ Below W.heap.size W w') := fun W hW => toLeafS_in _ g o L W (hrs.later hW)
    have HCS : Hid (∀ W s q, RS 2 lcs W s q 0 L → Calls Tryd.prog 34 #[s, .int .i64 l, .int .i64 p, .int .i64 x] W fun e w' => e = .returned (.string (srB L l p x)) ∧ Below W.heap.size W w') := fun W s q h => sShardRoot_any s q 0 L l p x W h hsm
    have HCI : Hid (∀ W s q, Below w.heap.size w W → RS 2 lcs W s q 0 L → Calls Tryd.prog 35 #[s, .int .i64 l, .int .i64 p, .int .i64 x] W fun e w' => e = .returned (.string (srB L l p x)) ∧ Below W.heap.size W w') := fun W s q hW h => ShardRoot_any s q 0 L l p x W h hsm (hT.later hW)
    generalize srB L l p x = R at *
    clear hrs hA HSZ HR hsm hT
    go_wp2_with fail
    refine (HTO.out _ hb1).mono ?_
    rintro e w2 ⟨g2, rfl, hr2, _, hb2⟩
    have b2 := hb1.trans (hb2.mono hb1.size)
    go_wp2_with fail
    refine (HCS.out _ _ g2 hr2.1).mono ?_
    rintro e w3 ⟨rfl, hb3⟩
    have b3 := b2.trans (hb3.mono b2.size)
    clear hr2 hb2 b2 hb3 hb1 HCS
    go_wp2_with fail
    refine (HTO.out _ b3).mono ?_
    rintro e w4 ⟨g4, rfl, hr4, hg4, hb4⟩
    have b4 := b3.trans (hb4.mono b3.size)
    go_wp2_with fail
    refine (HCI.out _ _ g4 b4 hr4.1).mono ?_
    rintro e w5 ⟨rfl, hb5⟩
    have b5 := b4.trans (hb5.mono b4.size)
    have HR5 : Hid (RW 2 lcs w5 (.slice (some ⟨g4, 0, none⟩) L.length L.length) g4 L) := hr4.later hb5
    clear hr4 hb4 b4 hb5 b3 HCI
    go_wp2_with fail
    refine (HTO.out _ b5).mono ?_
    rintro e w6 ⟨g6, rfl, hr6, hg6, hb6⟩
    have b6 := b5.trans (hb6.mono b5.size)
    go_wp2_with fail
    refine (eqLeafS_yes _ _ g4 0 g6 0 L _ (HR5.out.later hb6).1 hr6.1).mono ?_
    rintro e w7 ⟨rfl, hb7⟩
    have b7 := b6.trans (hb7.mono b6.size)
    clear hr6 hb6 hb7 b5 b6 HR5 HTO
    go_wp2
    go_ret
    exact ⟨rfl, b7⟩

end Go.Proofs.YtmcejkfknbjjkaaDoor
/-
  The walk of the law FnExactCombineRoots: it answers true of every row of texts and every width.
-/
namespace Go.Proofs.YtmcejkfknbjjkaaDoor
open Go.RowKit Go.BigFrame Go.Sort
set_option linter.unusedVariables false
set_option linter.unusedSimpArgs false

set_option maxRecDepth 100000 in
set_option maxHeartbeats 2000000 in
theorem exactCombineRoots_any (v : Value) (g o : Nat) (L : List ByteArray) (x : Int) (w : World) (hT : Tb w) (hv : IsRowT w v g o L) :
    Calls Tryd.prog 7 #[v, .int .i64 x] w fun e w' => e = .returned (.bool true) ∧ Below w.heap.size w w' := by
  have HSZ := szStringS_row v g o L 1048576 _ hv (by omega) (by omega)
  have hsv : ∃ a n cap, v = .slice a n cap := by obtain ⟨a, n, cap, h, _⟩ := hv; exact ⟨a, n, cap, h⟩
  obtain ⟨a, n, cap, rfl⟩ := hsv
  clear hv
  go_enter Tryd.func7, Tryd.ntmps7
  go_wp2_with fail
  refine HSZ.mono ?_
  rintro e w1 ⟨A, rfl, hw1, _, hA⟩
  obtain rfl := hw1.symm
  have hb1 : Below w.heap.size w w := Below.refl _ _
  by_cases hneg : A < 0
  · clear hA HSZ hT
    go_wp2
    go_ret
    exact ⟨rfl, hb1⟩
  · obtain ⟨hrs, hgl, hsm, hlen⟩ := hA (by omega)
    have HTO : Hid (∀ W, Below w.heap.size w W → Calls Tryd.prog 37 #[.slice a n cap] W fun e w' => ∃ g, e = .returned (.slice (some ⟨g, 0, none⟩) L.length L.length) ∧ TS w' (.slice (some ⟨g, 0, none⟩) L.length L.length) g L ∧ W.heap.size ≤ g ∧ Below W.heap.size W w') := fun W hW => by
      refine (toStringS_any _ g o L W (hrs.below hW hgl) (fun h => Nat.lt_of_lt_of_le (hgl h) hW.size)).mono ?_
      rintro e w' ⟨g, he, h1, h2, h3⟩
      exact ⟨g, he, h2.ts _ _ rfl (by omega), h1, h3⟩
    have HCS : Hid (∀ W s q, TS W s q L → Calls Tryd.prog 21 #[s, .int .i64 x] W fun e w' => e = .returned (.tuple #[.string (crB L x), .bool (rtB L x)]) ∧ Below W.heap.size W w') := fun W s q h => sCombineRoots_any s q 0 L x W h.ss
    have HCI : Hid (∀ W s q, Below w.heap.size w W → TS W s q L → Calls Tryd.prog 20 #[s, .int .i64 x] W fun e w' => e = .returned (.tuple #[.string (crB L x), .bool (rtB L x)]) ∧ Below W.heap.size W w') := fun W s q hW h => CombineRoots_any s q 0 L x W h.ss (hT.later hW)
    generalize crB L x = R at *
    generalize rtB L x = Q at *
    clear hrs hA HSZ hsm hT
    go_wp2_with fail
    refine (HTO.out _ hb1).mono ?_
    rintro e w2 ⟨g2, rfl, hr2, _, hb2⟩
    have b2 := hb1.trans (hb2.mono hb1.size)
    go_wp2_with fail
    refine (HCS.out _ _ g2 hr2).mono ?_
    rintro e w3 ⟨rfl, hb3⟩
    have b3 := b2.trans (hb3.mono b2.size)
    clear hr2 hb2 b2 hb3 hb1 HCS
    go_wp2_with fail
    refine (HTO.out _ b3).mono ?_
    rintro e w4 ⟨g4, rfl, hr4, hg4, hb4⟩
    have b4 := b3.trans (hb4.mono b3.size)
    go_wp2_with fail
    refine (HCI.out _ _ g4 b4 hr4).mono ?_
    rintro e w5 ⟨rfl, hb5⟩
    have b5 := b4.trans (hb5.mono b4.size)
    have HR5 : Hid (TS w5 (.slice (some ⟨g4, 0, none⟩) L.length L.length) g4 L) := hr4.later hb5
    clear hr4 hb4 b4 hb5 b3 HCI
    go_wp2_with fail
    refine (HTO.out _ b5).mono ?_
    rintro e w6 ⟨g6, rfl, hr6, hg6, hb6⟩
    have b6 := b5.trans (hb6.mono b5.size)
    go_wp2_with fail
    refine (eqT_yes _ _ g4 g6 L _ (HR5.out.later hb6) hr6).mono ?_
    rintro e w7 ⟨rfl, hb7⟩
    have b7 := b6.trans (hb7.mono b6.size)
    clear hr6 hb6 hb7 b5 b6 HR5 HTO
    go_wp2
    go_ret
    exact ⟨rfl, b7⟩

end Go.Proofs.YtmcejkfknbjjkaaDoor
/-
  The walk of the law FnExactCombineSides: it answers true of every row of texts, every place and width.
-/
namespace Go.Proofs.YtmcejkfknbjjkaaDoor
open Go.RowKit Go.BigFrame Go.Sort
set_option linter.unusedVariables false
set_option linter.unusedSimpArgs false

/-- texts answered, k of them, and whether -/
def TeP (k : Nat) (M : List ByteArray) (R : Bool) (w : World) (e : Ending) (w' : World) : Prop := ∃ a cap g, e = .returned (.tuple #[.slice a k cap, .bool R]) ∧ TS w' (.slice a k cap) g M ∧ w.heap.size ≤ g ∧ Below w.heap.size w w'
theorem TeP.of {f : FuncId} {args : Array Value} {M : List ByteArray} {R : Bool} {k : Nat} {w : World} (h : Calls Tryd.prog f args w (CsP M R w)) (hk : M.length = k) (hl : k ≤ 1100000) : Calls Tryd.prog f args w (TeP k M R w) :=
  h.mono fun e w' ⟨u, he, ho⟩ => by
    obtain ⟨gz, hts, hgz⟩ := ho.ts (by omega)
    obtain ⟨az, cz, rfl⟩ := ho.slice
    rw [hk] at he hts
    exact ⟨az, cz, gz, he, hts, hgz, ho.2.1⟩
theorem csL_len (l : List ByteArray) (s x : Int) : (csL l s x).length ≤ 2 := by
  unfold csL
  split
  · rw [sidW_len]
    unfold lgN
    split
    · omega
    · split <;> omega
  · simp

set_option maxRecDepth 100000 in
set_option maxHeartbeats 4000000 in
theorem exactCombineSides_any (v : Value) (g o : Nat) (L : List ByteArray) (s x : Int) (w : World) (hT : Tb w) (hv : IsRowT w v g o L) :
    Calls Tryd.prog 8 #[v, .int .i64 s, .int .i64 x] w fun e w' => e = .returned (.bool true) ∧ Below w.heap.size w w' := by
  have HSZ := szStringS_row v g o L 1048576 _ hv (by omega) (by omega)
  have hsv : ∃ a n cap, v = .slice a n cap := by obtain ⟨a, n, cap, h, _⟩ := hv; exact ⟨a, n, cap, h⟩
  obtain ⟨a, n, cap, rfl⟩ := hsv
  clear hv
  go_enter Tryd.func8, Tryd.ntmps8
  go_wp2_with fail
  refine HSZ.mono ?_
  rintro e w1 ⟨A, rfl, hw1, _, hA⟩
  obtain rfl := hw1.symm
  have hb1 : Below w.heap.size w w := Below.refl _ _
  clear HSZ
  by_cases hneg : A < 0
  · clear hA hT
    go_wp2
    go_ret
    exact ⟨rfl, hb1⟩
  · obtain ⟨hrs, hgl, hsm, hlen⟩ := hA (by omega)
    clear hA
    obtain ⟨k, hk⟩ : ∃ k, (csL L s x).length = k := ⟨_, rfl⟩
    obtain ⟨R, hR⟩ : ∃ R, csB L s x = R := ⟨_, rfl⟩
    have hk8 := csL_len L s x
    have HTO : Hid (∀ W, Below w.heap.size w W → Calls Tryd.prog 37 #[.slice a n cap] W fun e w' => ∃ g, e = .returned (.slice (some ⟨g, 0, none⟩) L.length L.length) ∧ TS w' (.slice (some ⟨g, 0, none⟩) L.length L.length) g L ∧ W.heap.size ≤ g ∧ Below W.heap.size W w') := fun W hW => by
      refine (toStringS_any _ g o L W (hrs.below hW hgl) (fun h => Nat.lt_of_lt_of_le (hgl h) hW.size)).mono ?_
      rintro e w' ⟨g, he, h1, h2, h3⟩
      exact ⟨g, he, h2.ts _ _ rfl (by omega), h1, h3⟩
    have HCS : Hid (∀ W q, TS W (.slice (some ⟨q, 0, none⟩) L.length L.length) q L → Calls Tryd.prog 19 #[.slice (some ⟨q, 0, none⟩) L.length L.length, .int .i64 s, .int .i64 x] W (TeP k (csL L s x) R W)) := fun W q h => by
      have := TeP.of (sCombineSides_any _ q 0 L s x W h.ss) hk (by omega)
      rw [hR] at this
      exact this
    have HCI : Hid (∀ W q, Below w.heap.size w W → TS W (.slice (some ⟨q, 0, none⟩) L.length L.length) q L → Calls Tryd.prog 16 #[.slice (some ⟨q, 0, none⟩) L.length L.length, .int .i64 s, .int .i64 x] W (TeP k (csL L s x) R W)) := fun W q hW h => by
      have := TeP.of (CombineSides_any _ q 0 L s x W h.ss (hT.later hW)) hk (by omega)
      rw [hR] at this
      exact this
    have HK : Hid ((csL L s x).length = k) := hk
    unfold TeP at HCS HCI
    generalize csL L s x = M at *
    clear hrs hsm hT hk hR
    go_wp2_with fail
    refine (HTO.out _ hb1).mono ?_
    rintro e w2 ⟨g2, rfl, hr2, _, hb2⟩
    have b2 := hb1.trans (hb2.mono hb1.size)
    go_wp2_with fail
    refine (HCS.out _ g2 hr2).mono ?_
    rintro e w3 ⟨a3, c3, g3, rfl, hr3, hg3, hb3⟩
    have HW3 : Hid (TS w3 (.slice a3 k c3) g3 M ∧ Below w.heap.size w w3) := ⟨hr3, b2.trans (hb3.mono b2.size)⟩
    clear hr2 hb2 b2 hr3 hg3 hb3 hb1 HCS
    go_wp2_with fail
    refine (HTO.out _ HW3.out.2).mono ?_
    rintro e w4 ⟨g4, rfl, hr4, hg4, hb4⟩
    have b4 := HW3.out.2.trans (hb4.mono HW3.out.2.size)
    have HW4 : Hid (TS w4 (.slice a3 k c3) g3 M ∧ TS w4 (.slice (some ⟨g4, 0, none⟩) L.length L.length) g4 L ∧ Below w.heap.size w w4 ∧ (0 < k → g3 < g4) ∧ w.heap.size ≤ g4) := ⟨HW3.out.1.later hb4, hr4, b4, fun hp => by have := HW3.out.1.lt (by rw [HK.out]; exact hp); omega, by have := HW3.out.2.size; omega⟩
    clear hr4 hg4 hb4 b4 HW3
    go_wp2_with fail
    refine (HCI.out _ g4 HW4.out.2.2.1 HW4.out.2.1).mono ?_
    rintro e w5 ⟨a5, c5, g5, rfl, hr5, hg5, hb5⟩
    have HW5 : Hid (TS w5 (.slice a3 k c3) g3 M ∧ TS w5 (.slice (some ⟨g4, 0, none⟩) L.length L.length) g4 L ∧ TS w5 (.slice a5 k c5) g5 M ∧ Below w.heap.size w w5 ∧ (0 < k → g3 < g4) ∧ (0 < L.length → g4 < g5) ∧ (0 < k → g3 < g5) ∧ w.heap.size ≤ g4 ∧ w.heap.size ≤ g5) :=
      ⟨HW4.out.1.later hb5, HW4.out.2.1.later hb5, hr5, HW4.out.2.2.1.trans (hb5.mono HW4.out.2.2.1.size), HW4.out.2.2.2.1, fun hp => by have := HW4.out.2.1.lt hp; omega, fun hp => by have := HW4.out.1.lt (by rw [HK.out]; exact hp); omega, HW4.out.2.2.2.2, by have := HW4.out.2.2.1.size; omega⟩
    clear hr5 hg5 hb5 HW4
    go_wp2_with fail
    refine (eqT_yes _ _ g5 g3 M _ HW5.out.2.2.1 HW5.out.1).mono ?_
    rintro e w6 ⟨rfl, hb6⟩
    have HW6 : Hid (TS w6 (.slice a3 k c3) g3 M ∧ TS w6 (.slice (some ⟨g4, 0, none⟩) L.length L.length) g4 L ∧ TS w6 (.slice a5 k c5) g5 M ∧ Below w.heap.size w w6 ∧ (0 < k → g3 < g4) ∧ (0 < L.length → g4 < g5) ∧ (0 < k → g3 < g5) ∧ w.heap.size ≤ g4 ∧ w.heap.size ≤ g5) := by
      obtain ⟨h1, h2, h3, h4, h5⟩ := HW5.out
      exact ⟨h1.later hb6, h2.later hb6, h3.later hb6, h4.trans (hb6.mono h4.size), h5⟩
    clear hb6 HW5
    go_wp2_with fail
    refine (HTO.out _ HW6.out.2.2.2.1).mono ?_
    rintro e w7 ⟨g7, rfl, hr7, hg7, hb7⟩
    have HW7 : Hid (TS w7 (.slice a3 k c3) g3 M ∧ TS w7 (.slice (some ⟨g4, 0, none⟩) L.length L.length) g4 L ∧ TS w7 (.slice a5 k c5) g5 M ∧ Below w.heap.size w w7 ∧ (0 < k → g3 < g4) ∧ (0 < L.length → g4 < g5) ∧ (0 < k → g3 < g5) ∧ w.heap.size ≤ g4 ∧ w.heap.size ≤ g5) := by
      obtain ⟨h1, h2, h3, h4, h5⟩ := HW6.out
      exact ⟨h1.later hb7, h2.later hb7, h3.later hb7, h4.trans (hb7.mono h4.size), h5⟩
    clear hb7 HW6 hg7
    go_wp2_with fail
    refine (eqT_yes _ _ g4 g7 L _ HW7.out.2.1 hr7).mono ?_
    rintro e w8 ⟨rfl, hb8⟩
    have HW8 : Hid (TS w8 (.slice a3 k c3) g3 M ∧ TS w8 (.slice (some ⟨g4, 0, none⟩) L.length L.length) g4 L ∧ TS w8 (.slice a5 k c5) g5 M ∧ Below w.heap.size w w8 ∧ (0 < k → g3 < g4) ∧ (0 < L.length → g4 < g5) ∧ (0 < k → g3 < g5) ∧ w.heap.size ≤ g4 ∧ w.heap.size ≤ g5) := by
      obtain ⟨h1, h2, h3, h4, h5⟩ := HW7.out
      exact ⟨h1.later hb8, h2.later hb8, h3.later hb8, h4.trans (hb8.mono h4.size), h5⟩
    clear hb8 HW7 hr7
    have hm8 := markT_one _ g4 L w8 HW8.out.2.1
    obtain ⟨A8, hA8⟩ : ∃ A8 : Int, ((1 + L.length : Nat) : Int) = A8 := ⟨_, rfl⟩
    have hA80 : ¬ A8 < 0 := by omega
    rw [hA8] at hm8
    clear hA8
    go_wp2_with fail
    refine hm8.mono ?_
    rintro e w9 ⟨rfl, hr9, hg9⟩
    have HW9 : Hid (TS w9 (.slice a3 k c3) g3 M ∧ TS w9 (.slice a5 k c5) g5 M ∧ Below w.heap.size w w9 ∧ (0 < k → g3 < g5) ∧ w.heap.size ≤ g5) := by
      obtain ⟨h1, h2, h3, h4, h5, h6, h7, h8, h10⟩ := HW8.out
      exact ⟨h1.keptG hg9 (fun hp => rowOf_ne fun _ => by have := h5 (by rw [← HK.out]; exact hp); omega), h3.keptG hg9 (fun _ => rowOf_ne fun hp => by have := h6 hp; omega), h4.grown hg9 h4.size (rowOf_leT h8), h7, h10⟩
    clear hm8 hr9 hg9 HW8
    go_wp2_with fail
    refine (eqT_yes _ _ g5 g3 M _ HW9.out.2.1 HW9.out.1).mono ?_
    rintro e w10 ⟨rfl, hb10⟩
    have HW10 : Hid (TS w10 (.slice a3 k c3) g3 M ∧ TS w10 (.slice a5 k c5) g5 M ∧ Below w.heap.size w w10 ∧ (0 < k → g3 < g5) ∧ w.heap.size ≤ g5) := by
      obtain ⟨h1, h3, h4, h5⟩ := HW9.out
      exact ⟨h1.later hb10, h3.later hb10, h4.trans (hb10.mono h4.size), h5⟩
    clear hb10 HW9
    have hm10 := markT_one _ g5 M w10 HW10.out.2.1
    rw [HK.out] at hm10
    obtain ⟨A9, hA9⟩ : ∃ A9 : Int, ((1 + k : Nat) : Int) = A9 := ⟨_, rfl⟩
    have hA90 : ¬ A9 < 0 := by omega
    rw [hA9] at hm10
    have HHD : Hid (∀ W, TS W (.slice a5 k c5) g5 (marks 1 k) → Calls Tryd.prog 40 #[.slice a5 k c5, .int .i64 1] W fun e w' => e = .returned (.int .i64 A9) ∧ Below W.heap.size W w') := fun W h => by rw [← hA9]; exact heldT_one _ g5 k W h
    clear hA9
    go_wp2_with fail
    refine hm10.mono ?_
    rintro e w11 ⟨rfl, hr11, hg11⟩
    have HW11 : Hid (TS w11 (.slice a3 k c3) g3 M ∧ TS w11 (.slice a5 k c5) g5 (marks 1 k) ∧ Below w.heap.size w w11) := by
      obtain ⟨h1, h3, h4, h5, h6⟩ := HW10.out
      exact ⟨h1.keptG hg11 (fun _ => rowOf_ne fun hp => by have := h5 (by rw [← HK.out]; exact hp); omega), hr11, h4.grown hg11 h4.size (rowOf_leT h6)⟩
    clear hm10 hr11 hg11 HW10
    go_wp2_with fail
    refine (HHD.out _ HW11.out.2.1).mono ?_
    rintro e w12 ⟨rfl, hb12⟩
    have HW12 : Hid (TS w12 (.slice a3 k c3) g3 M ∧ TS w12 (.slice a5 k c5) g5 (marks 1 k) ∧ Below w.heap.size w w12) := by
      obtain ⟨h1, h3, h4⟩ := HW11.out
      exact ⟨h1.later hb12, h3.later hb12, h4.trans (hb12.mono h4.size)⟩
    clear hb12 HW11
    go_wp2_with fail
    refine (HTO.out _ HW12.out.2.2).mono ?_
    rintro e w13 ⟨g13, rfl, hr13, hg13, hb13⟩
    have HW13 : Hid (TS w13 (.slice a3 k c3) g3 M ∧ TS w13 (.slice a5 k c5) g5 (marks 1 k) ∧ Below w.heap.size w w13) := by
      obtain ⟨h1, h3, h4⟩ := HW12.out
      exact ⟨h1.later hb13, h3.later hb13, h4.trans (hb13.mono h4.size)⟩
    clear hb13 HW12 hg13 HTO
    go_wp2_with fail
    refine (HCI.out _ g13 HW13.out.2.2 hr13).mono ?_
    rintro e w14 ⟨a14, c14, g14, rfl, hr14, hg14, hb14⟩
    have HW14 : Hid (TS w14 (.slice a3 k c3) g3 M ∧ TS w14 (.slice a5 k c5) g5 (marks 1 k) ∧ Below w.heap.size w w14 ∧ TS w14 (.slice a14 k c14) g14 M) := by
      obtain ⟨h1, h3, h4⟩ := HW13.out
      exact ⟨h1.later hb14, h3.later hb14, h4.trans (hb14.mono h4.size), hr14⟩
    clear hb14 HW13 hr13 hr14 hg14 HCI
    go_wp2_with fail
    refine (eqT_yes _ _ g14 g3 M _ HW14.out.2.2.2 HW14.out.1).mono ?_
    rintro e w15 ⟨rfl, hb15⟩
    have HW15 : Hid (TS w15 (.slice a5 k c5) g5 (marks 1 k) ∧ Below w.heap.size w w15) := ⟨HW14.out.2.1.later hb15, HW14.out.2.2.1.trans (hb15.mono HW14.out.2.2.1.size)⟩
    clear hb15 HW14
    go_wp2_with fail
    refine (HHD.out _ HW15.out.1).mono ?_
    rintro e w16 ⟨rfl, hb16⟩
    have b16 := HW15.out.2.trans (hb16.mono HW15.out.2.size)
    clear hb16 HW15 HHD
    go_wp2
    go_ret
    exact ⟨rfl, b16⟩

end Go.Proofs.YtmcejkfknbjjkaaDoor
