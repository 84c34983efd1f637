/-
  What PoolOf answers, and how a row of texts is folded two by two, the program's and the specification's.
-/
import Derived.Test.YtdifilcdiacbpaaDoorPub
import Derived.Deep.RegionHeld3
namespace Go.Proofs.YtdifilcdiacbpaaDoor
open Go.RowKit Go.BigFrame
set_option linter.unusedVariables false

/-- what PoolOf is -/
def poolL (s : ByteArray) : List ByteArray := (List.range 16).map fun i => pubA s (i : Nat)
theorem poolL_len (s : ByteArray) : (poolL s).length = 16 := by simp [poolL]
theorem poolL_at (s : ByteArray) (i : Nat) (h : i < (poolL s).length) : (poolL s)[i] = pubA s (i : Nat) := by simp [poolL]

def PlR (s : ByteArray) (w : World) (g : Nat) (i : Value) (wr : World) : Prop := ∃ m : Nat, m ≤ 16 ∧ i = .int .i64 m ∧ TB wr g (srow (poolL s) m) ∧ Below w.heap.size w wr

def PlS (s : ByteArray) (w : World) (v i : Value) (wr : World) : Prop := ∃ m : Nat, m ≤ 16 ∧ i = .int .i64 m ∧ OS w.heap.size w wr v ((poolL s).take m)

set_option maxRecDepth 100000 in
set_option maxHeartbeats 1000000 in
theorem sPoolOf_any (s : ByteArray) (w : World) (hs : s.size ≤ 1100000) :
    Calls Tryd.prog 53 #[.string s] w fun e w' => ∃ v, e = .returned v ∧ OS w.heap.size w w' v (poolL s) := by
  have HST : Hid (PlS s w (.slice (some ⟨w.heap.size, 0, none⟩) 0 0) (.int .i64 0) (w.alloc (.cells #[] 9))) := ⟨0, by omega, rfl, OS.made w⟩
  have HL : Hid ((poolL s).length = 16 ∧ ∀ i (h : i < (poolL s).length), (poolL s)[i] = pubA s (i : Nat)) := ⟨poolL_len s, poolL_at s⟩
  generalize hL : poolL s = L at *
  go_enter Tryd.func53, Tryd.ntmps53
  go_wp2
  go_loopw [3, 4] (fun v i wr => PlS s w v i wr) (fun _ i _ => 16 - (intOf i).toNat)
  case atStart => exact HST.out
  case round =>
    obtain ⟨m, hm, rfl, hos⟩ := hrel
    rw [hL] at hos
    clear HST
    by_cases hlt : m < 16
    · have i1 : (m : Int) < 16 := by omega
      go_wp2_with fail
      refine (sPublicOf_any s _ _ hs).mono ?_
      rintro e w1 ⟨rfl, hb1⟩
      have hos1 := hos.later hb1
      have hlk := HL.out.2 m (by rw [HL.out.1]; exact hlt)
      have hll : (L.take m).length ≤ 16 := by rw [List.length_take, HL.out.1]; omega
      have HN : Hid (∀ v W, OS w.heap.size w W v (L.take m ++ [pubA s (m : Nat)]) → PlS s w v (.int .i64 ((m : Int) + 1)) W) := by
        rw [← hlk, List.take_append_getElem]
        exact fun v W hW => ⟨m + 1, by omega, by simp, by rw [hL]; exact hW⟩
      generalize L.take m = X at *
      generalize pubA s (m : Nat) = K at *
      clear hos hb1 hlk HL
      go_wp2_with (at_builtin; refine wp_appS rfl _ _ rfl w.heap.size w _ X rfl (hos1.alloc _) ⟨w1.heap.size, 0, none⟩ K rfl ?c1 ?c2 ?_)
      case c1 => exact one_text _ _ _
      case c2 => omega
      intro v' w3 hos3
      go_wp2
      go_roundw
      case rel => exact HN.out _ _ hos3
      case measure => simp [intOf]; omega
    · have hme : m = 16 := by omega
      subst hme
      have e : L.take 16 = L := List.take_of_length_le (by rw [HL.out.1]; omega)
      rw [e] at hos
      go_wp2
      go_ret
      exact ⟨_, rfl, hos⟩

/-- a place of the row above -/
def upAt (l : List ByteArray) (i : Nat) : ByteArray := hashB 3 [l.getD (2 * i) ByteArray.empty, l.getD (2 * i + 1) ByteArray.empty] 16
/-- the row above -/
def upL (l : List ByteArray) : List ByteArray := (List.range (l.length / 2)).map (upAt l)
theorem upL_len (l : List ByteArray) : (upL l).length = l.length / 2 := by simp [upL]
theorem upL_at (l : List ByteArray) (i : Nat) (h : i < (upL l).length) : (upL l)[i] = upAt l i := by simp [upL]
theorem upAt_eq (l : List ByteArray) (i : Nat) (h : 2 * i + 1 < l.length) : upAt l i = hashB 3 [l[2 * i], l[2 * i + 1]] 16 := by
  unfold upAt
  rw [List.getD_eq_getElem?_getD, List.getD_eq_getElem?_getD, List.getElem?_eq_getElem (by omega), List.getElem?_eq_getElem h]
  rfl

theorem taggedHash_litd (k : Int) (l : List ByteArray) (n : Nat) (cs : Array Value) (w : World) (g : Nat) (hg : w.heap.size = g) (hn : l.length = n) (hl : n ≤ 60) (hc : cs = (svs l).toArray) (hT : Tb w) :
    Hid (Calls Tryd.prog 45 #[.int .i64 16, .int .i64 k, .slice (some ⟨g, 0, none⟩) n n] (w.alloc (.cells cs 9)).drew fun e w' => e = .returned (.string (hashB k l 16)) ∧ Below w.heap.size w w') := by
  have h := taggedHash_lit k l n cs w.drew g hg hn hl hc hT
  exact h.out.mono fun e w' ⟨he, hb⟩ => ⟨he, (Below.refl _ _).drew.trans hb⟩
theorem sTagHash_litd (k : Int) (l : List ByteArray) (n : Nat) (cs : Array Value) (w : World) (g : Nat) (hg : w.heap.size = g) (hn : l.length = n) (hl : n ≤ 60) (hc : cs = (svs l).toArray) :
    Hid (Calls Tryd.prog 46 #[.int .i64 k, .slice (some ⟨g, 0, none⟩) n n, .int .i64 16] (w.alloc (.cells cs 9)).drew fun e w' => e = .returned (.string (hashB k l 16)) ∧ Below w.heap.size w w') := by
  have h := sTagHash_lit k l n cs w.drew g hg hn hl hc
  exact h.out.mono fun e w' ⟨he, hb⟩ => ⟨he, (Below.refl _ _).drew.trans hb⟩

theorem cell_other_set {w : World} {g m : Nat} {u x : Value} {p : Addr} (h : p.block ≠ g) (hc : w.cell? p = some x) : (w.setCell ⟨g, m, none⟩ u).cell? p = some x :=
  (World.cell?_of_block (w := w) (heap_setCell_other w ⟨g, m, none⟩ p.block u h)).trans hc

def RaR (l : List ByteArray) (w : World) (g : Nat) (i : Value) (wr : World) : Prop := ∃ m : Nat, m ≤ l.length / 2 ∧ i = .int .i64 m ∧ TB wr g (srow (upL l) m) ∧ Below w.heap.size w wr

end Go.Proofs.YtdifilcdiacbpaaDoor
