/-
  What PoolOf answers, and how a row of texts is folded two by two, the program's and the specification's.
-/
import Derived.Test.YtkgibgadngeddaaDoorPub
import Derived.Deep.RegionHeld3
namespace Go.Proofs.YtkgibgadngeddaaDoor
open Go.RowKit Go.BigFrame
set_option linter.unusedVariables false

/-- what PoolOf is -/
def poolL (s : ByteArray) : List ByteArray := (List.range 16).map fun i => pubA s (i : Nat)
theorem poolL_len (s : ByteArray) : (poolL s).length = 16 := by simp [poolL]
theorem poolL_at (s : ByteArray) (i : Nat) (h : i < (poolL s).length) : (poolL s)[i] = pubA s (i : Nat) := by simp [poolL]

def PlR (s : ByteArray) (w : World) (g : Nat) (i : Value) (wr : World) : Prop := ∃ m : Nat, m ≤ 16 ∧ i = .int .i64 m ∧ TB wr g (srow (poolL s) m) ∧ Below w.heap.size w wr

set_option maxRecDepth 100000 in
set_option maxHeartbeats 1000000 in
theorem PoolOf_any (s : ByteArray) (w : World) (hs : s.size ≤ 1100000) (hT : Tb w) :
    Calls Tryd.prog 16 #[.string s] w fun e w' => ∃ g, e = .returned (.slice (some ⟨g, 0, none⟩) 16 16) ∧ w.heap.size ≤ g ∧ TB w' g (poolL s) ∧ Below w.heap.size w w' := by
  have HT : Hid (Tb w) := hT
  obtain ⟨w2, hmk0, hib, hb2, hs2⟩ := TB.made 16 (by omega) w
  have hmk : (Instr.makeSlice 28 (.int .i64 16) (.int .i64 16)).run Tryd.prog w = .ok (.slice (some ⟨w.heap.size, 0, none⟩) 16 16) w2 := hmk0
  have HST : Hid (PlR s w w.heap.size (.int .i64 0) w2) := ⟨0, by omega, rfl, by rw [show srow (poolL s) 0 = List.replicate 16 ByteArray.empty by unfold srow; rw [poolL_len]; rfl]; exact hib, hb2⟩
  have HL : Hid ((poolL s).length = 16 ∧ ∀ i (h : i < (poolL s).length), (poolL s)[i] = pubA s (i : Nat)) := ⟨poolL_len s, poolL_at s⟩
  generalize hL : poolL s = L at *
  clear hib hb2 hs2 hT hmk0
  go_enter Tryd.func16, Tryd.ntmps16
  go_wp2
  clear hmk
  go_loopw [8] (fun i wr => PlR s w w.heap.size i wr) (fun i _ => 16 - (intOf i).toNat)
  case atStart => exact HST.out
  case round =>
    obtain ⟨m, hm, rfl, hib, hbel⟩ := hrel
    rw [hL] at hib
    clear HST
    by_cases hlt : m < 16
    · have i1 : (m : Int) < 16 := by omega
      have i2 : (0 : Int) ≤ (m : Int) := by omega
      have hl16 : (srow L m).length = 16 := by rw [srow_len _ _ (by rw [HL.out.1]; omega)]; exact HL.out.1
      go_wp2_with fail
      refine (PublicOf_any s _ _ hs (HT.out.later hbel)).mono ?_
      rintro e w1 ⟨rfl, hb1⟩
      have hib1 := hib.below hb1 hib.lt
      have b1 := hbel.trans (hb1.mono hbel.size)
      have hlk := HL.out.2 m (by rw [HL.out.1]; exact hlt)
      have c0 := hib1.cell m (by omega)
      have f0 := hib1.frozen m
      have hss := hib1.set m (by omega) (pubA s (m : Nat))
      rw [← hlk, srow_step L m (by rw [HL.out.1]; exact hlt), hlk] at hss
      have HS : Hid (TB (w1.setCell ⟨w.heap.size, m, none⟩ (.string (pubA s (m : Nat)))) w.heap.size (srow L (m + 1)) ∧ Below w.heap.size w (w1.setCell ⟨w.heap.size, m, none⟩ (.string (pubA s (m : Nat))))) := ⟨hss, b1.setCell (p := ⟨w.heap.size, m, none⟩) (Nat.le_refl _) _⟩
      generalize (srow L m)[m]'(by omega) = Y at *
      generalize pubA s (m : Nat) = K at *
      clear hss hib1 hib hbel b1 hb1 hlk HL hl16
      go_wp2
      go_roundw
      case rel => exact ⟨m + 1, by omega, by go_num, by rw [hL]; exact HS.out.1, HS.out.2⟩
      case measure => simp [intOf]; omega
    · have hme : m = 16 := by omega
      subst hme
      have e : srow L 16 = L := by have := srow_all L; rw [HL.out.1] at this; exact this
      rw [e] at hib
      clear e HL
      go_wp2
      go_ret
      exact ⟨w.heap.size, rfl, Nat.le_refl _, hib, hbel⟩

def PlS (s : ByteArray) (w : World) (v i : Value) (wr : World) : Prop := ∃ m : Nat, m ≤ 16 ∧ i = .int .i64 m ∧ OS w.heap.size w wr v ((poolL s).take m)

set_option maxRecDepth 100000 in
set_option maxHeartbeats 1000000 in
theorem sPoolOf_any (s : ByteArray) (w : World) (hs : s.size ≤ 1100000) :
    Calls Tryd.prog 15 #[.string s] w fun e w' => ∃ v, e = .returned v ∧ OS w.heap.size w w' v (poolL s) := by
  have HST : Hid (PlS s w (.slice (some ⟨w.heap.size, 0, none⟩) 0 0) (.int .i64 0) (w.alloc (.cells #[] 9))) := ⟨0, by omega, rfl, OS.made w⟩
  have HL : Hid ((poolL s).length = 16 ∧ ∀ i (h : i < (poolL s).length), (poolL s)[i] = pubA s (i : Nat)) := ⟨poolL_len s, poolL_at s⟩
  generalize hL : poolL s = L at *
  go_enter Tryd.func15, Tryd.ntmps15
  go_wp2
  go_loopw [3, 4] (fun v i wr => PlS s w v i wr) (fun _ i _ => 16 - (intOf i).toNat)
  case atStart => exact HST.out
  case round =>
    obtain ⟨m, hm, rfl, hos⟩ := hrel
    rw [hL] at hos
    clear HST
    by_cases hlt : m < 16
    · have i1 : (m : Int) < 16 := by omega
      go_wp2_with fail
      refine (sPublicOf_any s _ _ hs).mono ?_
      rintro e w1 ⟨rfl, hb1⟩
      have hos1 := hos.later hb1
      have hlk := HL.out.2 m (by rw [HL.out.1]; exact hlt)
      have hll : (L.take m).length ≤ 16 := by rw [List.length_take, HL.out.1]; omega
      have HN : Hid (∀ v W, OS w.heap.size w W v (L.take m ++ [pubA s (m : Nat)]) → PlS s w v (.int .i64 ((m : Int) + 1)) W) := by
        rw [← hlk, List.take_append_getElem]
        exact fun v W hW => ⟨m + 1, by omega, by simp, by rw [hL]; exact hW⟩
      generalize L.take m = X at *
      generalize pubA s (m : Nat) = K at *
      clear hos hb1 hlk HL
      go_wp2_with (at_builtin; refine wp_appS rfl _ _ rfl w.heap.size w _ X rfl (hos1.alloc _) ⟨w1.heap.size, 0, none⟩ K rfl ?c1 ?c2 ?_)
      case c1 => exact one_text _ _ _
      case c2 => omega
      intro v' w3 hos3
      go_wp2
      go_roundw
      case rel => exact HN.out _ _ hos3
      case measure => simp [intOf]; omega
    · have hme : m = 16 := by omega
      subst hme
      have e : L.take 16 = L := List.take_of_length_le (by rw [HL.out.1]; omega)
      rw [e] at hos
      go_wp2
      go_ret
      exact ⟨_, rfl, hos⟩

/-- a place of the row above -/
def upAt (l : List ByteArray) (i : Nat) : ByteArray := hashB 3 [l.getD (2 * i) ByteArray.empty, l.getD (2 * i + 1) ByteArray.empty] 16
/-- the row above -/
def upL (l : List ByteArray) : List ByteArray := (List.range (l.length / 2)).map (upAt l)
theorem upL_len (l : List ByteArray) : (upL l).length = l.length / 2 := by simp [upL]
theorem upL_at (l : List ByteArray) (i : Nat) (h : i < (upL l).length) : (upL l)[i] = upAt l i := by simp [upL]
theorem upAt_eq (l : List ByteArray) (i : Nat) (h : 2 * i + 1 < l.length) : upAt l i = hashB 3 [l[2 * i], l[2 * i + 1]] 16 := by
  unfold upAt
  rw [List.getD_eq_getElem?_getD, List.getD_eq_getElem?_getD, List.getElem?_eq_getElem (by omega), List.getElem?_eq_getElem h]
  rfl

theorem taggedHash_litd (k : Int) (l : List ByteArray) (n : Nat) (cs : Array Value) (w : World) (g : Nat) (hg : w.heap.size = g) (hn : l.length = n) (hl : n ≤ 60) (hc : cs = (svs l).toArray) (hT : Tb w) :
    Hid (Calls Tryd.prog 29 #[.int .i64 16, .int .i64 k, .slice (some ⟨g, 0, none⟩) n n] (w.alloc (.cells cs 9)).drew fun e w' => e = .returned (.string (hashB k l 16)) ∧ Below w.heap.size w w') := by
  have h := taggedHash_lit k l n cs w.drew g hg hn hl hc hT
  exact h.out.mono fun e w' ⟨he, hb⟩ => ⟨he, (Below.refl _ _).drew.trans hb⟩
theorem sTagHash_litd (k : Int) (l : List ByteArray) (n : Nat) (cs : Array Value) (w : World) (g : Nat) (hg : w.heap.size = g) (hn : l.length = n) (hl : n ≤ 60) (hc : cs = (svs l).toArray) :
    Hid (Calls Tryd.prog 27 #[.int .i64 k, .slice (some ⟨g, 0, none⟩) n n, .int .i64 16] (w.alloc (.cells cs 9)).drew fun e w' => e = .returned (.string (hashB k l 16)) ∧ Below w.heap.size w w') := by
  have h := sTagHash_lit k l n cs w.drew g hg hn hl hc
  exact h.out.mono fun e w' ⟨he, hb⟩ => ⟨he, (Below.refl _ _).drew.trans hb⟩

theorem cell_other_set {w : World} {g m : Nat} {u x : Value} {p : Addr} (h : p.block ≠ g) (hc : w.cell? p = some x) : (w.setCell ⟨g, m, none⟩ u).cell? p = some x :=
  (World.cell?_of_block (w := w) (heap_setCell_other w ⟨g, m, none⟩ p.block u h)).trans hc

def RaR (l : List ByteArray) (w : World) (g : Nat) (i : Value) (wr : World) : Prop := ∃ m : Nat, m ≤ l.length / 2 ∧ i = .int .i64 m ∧ TB wr g (srow (upL l) m) ∧ Below w.heap.size w wr

set_option maxRecDepth 100000 in
set_option maxHeartbeats 2000000 in
theorem rowAbove_any (v : Value) (ga oa : Nat) (l : List ByteArray) (w : World) (hv : SS w v ga oa l) (hl : l.length ≤ 1000) (hT : Tb w) :
    Calls Tryd.prog 38 #[v, .int .i64 16] w fun e w' => ∃ g, e = .returned (.slice (some ⟨g, 0, none⟩) (l.length / 2) (l.length / 2)) ∧ w.heap.size ≤ g ∧ TB w' g (upL l) ∧ Below w.heap.size w w' := by
  have HT : Hid (Tb w) := hT
  have hga := hv.lt
  obtain ⟨a, cap, rfl, _, hA, hc⟩ := hv
  obtain ⟨n, hn⟩ : ∃ n, l.length = n := ⟨_, rfl⟩
  obtain ⟨w2, hmk0, hib, hb2, hs2⟩ := TB.made (n / 2) (by omega) w
  have hmk : (Instr.makeSlice 28 (.int .i64 ((n : Int) / 2)) (.int .i64 ((n : Int) / 2))).run Tryd.prog w = .ok (.slice (some ⟨w.heap.size, 0, none⟩) (n / 2) (n / 2)) w2 := by simpa using hmk0
  have HST : Hid (RaR l w w.heap.size (.int .i64 0) w2) := ⟨0, by omega, rfl, by rw [show srow (upL l) 0 = List.replicate (n / 2) ByteArray.empty by unfold srow; rw [upL_len, hn]; rfl]; exact hib, hb2⟩
  have HA : Hid (0 < n → a = some ⟨ga, oa, none⟩ ∧ ga < w.heap.size) := by rw [← hn]; exact fun h => ⟨hA h, hga h⟩
  have HC : Hid (∀ j (h : j < l.length), w.cell? ⟨ga, oa + j, none⟩ = some (.string l[j])) := hc
  have HN : Hid (l.length = n) := hn
  rw [hn] at hl ⊢
  clear hib hb2 hs2 hA hga hc hT hmk0
  go_enter Tryd.func38, Tryd.ntmps38
  go_wp2
  clear hmk
  go_loopw [13] (fun i wr => RaR l w w.heap.size i wr) (fun i _ => n / 2 - (intOf i).toNat)
  case atStart => exact HST.out
  case round =>
    obtain ⟨m, hm, rfl, hib, hbel⟩ := hrel
    rw [hn] at hm
    clear HST hn
    by_cases hlt : m < n / 2
    · obtain ⟨ea, hgw⟩ := HA.out (by omega)
      subst ea
      have i1 : (m : Int) < (n : Int) / 2 := by omega
      have i2 : (0 : Int) ≤ (m : Int) := by omega
      have i3 : 2 * (m : Int) < (n : Int) := by omega
      have i4 : 2 * (m : Int) + 1 < (n : Int) := by omega
      have hu := upAt_eq l m (by rw [HN.out]; omega)
      have c1 : wr.cell? ⟨ga, oa + 2 * m, none⟩ = some (.string (l[2 * m]'(by rw [HN.out]; omega))) := (hbel.cell (p := ⟨ga, oa + 2 * m, none⟩) hgw).trans (HC.out (2 * m) _)
      have c2 : wr.cell? ⟨ga, oa + (2 * m + 1), none⟩ = some (.string (l[2 * m + 1]'(by rw [HN.out]; omega))) := (hbel.cell (p := ⟨ga, oa + (2 * m + 1), none⟩) hgw).trans (HC.out (2 * m + 1) _)
      have hlk := upL_at l m (by rw [upL_len, HN.out]; exact hlt)
      have hst := srow_step (upL l) m (by rw [upL_len, HN.out]; exact hlt)
      have hll : (srow (upL l) m).length = n / 2 := by rw [srow_len _ _ (by rw [upL_len, HN.out]; omega), upL_len, HN.out]
      rw [hlk, hu] at hst
      generalize l[2 * m]'(by rw [HN.out]; omega) = X at *
      generalize l[2 * m + 1]'(by rw [HN.out]; omega) = Y at *
      have HCT := taggedHash_litd 3 [X, Y] 2 #[.string X, .string Y] wr _ rfl rfl (by omega) rfl (HT.out.later hbel)
      generalize hashB 3 [X, Y] 16 = K at *
      clear hu hlk
      have hgr : ga < wr.heap.size := Nat.lt_of_lt_of_le hgw hbel.size
      have hne : ga ≠ w.heap.size := by omega
      have a1 : IntKind.i64.wrap (2 * (m : Int)) = 2 * (m : Int) := IntWalk.i64_in _ (by omega)
      have a2 : IntKind.i64.wrap (2 * (m : Int) + 1) = 2 * (m : Int) + 1 := IntWalk.i64_in _ (by omega)
      have hlt2 := hib.lt
      go_wp2
      have i5 : (0 : Int) ≤ 2 * (m : Int) := by omega
      have i6 : (0 : Int) ≤ 2 * (m : Int) + 1 := by omega
      have t1 : (2 * (m : Int)).toNat = 2 * m := by omega
      have t2 : (2 * (m : Int) + 1).toNat = 2 * m + 1 := by omega
      go_region_held3 (fun W => W.cell? ⟨ga, oa + 2 * m, none⟩ = some (.string X) ∧ W.cell? ⟨ga, oa + (2 * m + 1), none⟩ = some (.string Y)) (first | go_keep | exact ⟨(hb1.cell (p := ⟨ga, oa + 2 * m, none⟩) hgr).trans c1, (hb1.cell (p := ⟨ga, oa + (2 * m + 1), none⟩) hgr).trans c2⟩ | exact ⟨cell_other_set hne ((hb1.cell (p := ⟨ga, oa + 2 * m, none⟩) hgr).trans c1), cell_other_set hne ((hb1.cell (p := ⟨ga, oa + (2 * m + 1), none⟩) hgr).trans c2)⟩) ((go_at_call 29; refine HCT.out.mono ?_; rintro e w1 ⟨rfl, hb1⟩; have hib1 := hib.below hb1 hlt2; have c0 := hib1.cell m (by omega); have f0 := hib1.frozen m))
      have hs := hib1.set m (by omega) K
      rw [hst] at hs
      have HS : Hid (TB (w1.setCell ⟨w.heap.size, m, none⟩ (.string K)) w.heap.size (srow (upL l) (m + 1)) ∧ Below w.heap.size w (w1.setCell ⟨w.heap.size, m, none⟩ (.string K))) := ⟨hs, (hbel.trans (hb1.mono hbel.size)).setCell (p := ⟨w.heap.size, m, none⟩) (Nat.le_refl _) _⟩
      clear hs hib1 c0 f0 hb1
      go_wp2
      go_roundw
      case rel => exact ⟨m + 1, by rw [HN.out]; omega, by go_num, HS.out.1, HS.out.2⟩
      case measure => simp [intOf]; omega
    · have hme : m = n / 2 := by omega
      have e : srow (upL l) m = upL l := by have := srow_all (upL l); rw [upL_len, HN.out, ← hme] at this; exact this
      rw [e] at hib
      subst hme
      clear e
      go_wp2
      go_ret
      exact ⟨w.heap.size, rfl, Nat.le_refl _, hib, hbel⟩

end Go.Proofs.YtkgibgadngeddaaDoor
