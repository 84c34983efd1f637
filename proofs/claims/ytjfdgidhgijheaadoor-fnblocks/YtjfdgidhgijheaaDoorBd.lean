/-
  What DrawShaBlock gives; two rows of numbers that are the same.
-/
import Derived.Test.YtjfdgidhgijheaaDoorSl
import Derived.Test.YtjfdgidhgijheaaDoorTrn
namespace Go.Proofs.YtjfdgidhgijheaaDoor
open Go.RowKit Go.BigFrame
set_option linter.unusedVariables false

set_option maxRecDepth 100000 in
set_option maxHeartbeats 400000 in
theorem sameInts_yes (va vb : Value) (ga oa gb ob : Nat) (l : List Int) (w : World) (ha : SV w va ga oa l) (hb : SV w vb gb ob l) :
    Calls Tryd.prog 13 #[va, vb] w fun e w' => e = .returned (.bool true) ∧ ∃ q, w' = w.drewN q := by
  obtain ⟨a, ca, rfl, hl, hA, hcA⟩ := ha
  obtain ⟨b, cb, rfl, _, hB, hcB⟩ := hb
  obtain ⟨n, hn⟩ : ∃ n, l.length = n := ⟨_, rfl⟩
  rw [hn] at hl ⊢
  have HA : Hid (0 < n → a = some ⟨ga, oa, none⟩) := by rw [← hn]; exact hA
  have HB : Hid (0 < n → b = some ⟨gb, ob, none⟩) := by rw [← hn]; exact hB
  clear hA hB
  go_enter Tryd.func13, Tryd.ntmps13
  go_wp2
  go_loopw [5] (fun i wr => EqR n w i wr) (fun i _ => n - (intOf i).toNat)
  case atStart => exact ⟨0, 0, by omega, rfl, rfl⟩
  case round =>
    obtain ⟨m, q, hm, rfl, rfl⟩ := hrel
    by_cases hlt : m < n
    · have ea := HA.out (by omega)
      have eb := HB.out (by omega)
      subst ea
      subst eb
      have c1 := hcA m (by omega)
      have c2 := hcB m (by omega)
      generalize l[m]'(by omega) = X at *
      have i1 : (m : Int) < (n : Int) := by omega
      have i2 : (0 : Int) ≤ (m : Int) := by omega
      clear hcA hcB HA HB
      go_wp2
      refine wp_region_quiet_lit (by kernel_rfl) (by kernel_rfl) ?_
      iterate 9 go_big_quiet_step (fail)
      refine wpQuiet_nil ?_
      rintro _ ⟨q1, rfl⟩
      go_wp2
      go_roundw
      case rel => exact ⟨m + 1, q + q1, by omega, by go_num, by first | rfl | rw [World.drewN_drewN]⟩
      case measure => simp [intOf]; omega
    · have hme : m = n := by omega
      subst hme
      clear hcA hcB HA HB
      go_wp2
      go_ret
      exact ⟨rfl, q, rfl⟩

def pickL : List Int := [0, 1, 4294967295, 2147483648, 12345678]
def pickCells : Array Value := #[.int .i64 0, .int .i64 1, .int .i64 4294967295, .int .i64 2147483648, .int .i64 12345678]
theorem pick_at (w : World) : Hid (∀ j, (h : j < pickL.length) → (w.alloc (.cells pickCells 3)).cell? ⟨w.heap.size, j, none⟩ = some (.int .i64 pickL[j])) := by
  intro j hj
  rw [World.cell?_alloc_at _ _ _ _ rfl]
  have : j = 0 ∨ j = 1 ∨ j = 2 ∨ j = 3 ∨ j = 4 := by simp [pickL] at hj; omega
  rcases this with rfl | rfl | rfl | rfl | rfl <;> rfl
theorem pickL_in (y : Int) (h : y ∈ pickL) : ∃ n : Nat, y = (n : Int) ∧ n < 4294967296 := by
  simp [pickL] at h
  exact ⟨y.toNat, by omega, by omega⟩

def badL : List Int := [-1, 4294967296, 9223372036854775807]
def badCells : Array Value := #[.int .i64 (-1), .int .i64 4294967296, .int .i64 9223372036854775807]
theorem bad_at (w : World) : Hid (∀ j, (h : j < badL.length) → (w.alloc (.cells badCells 3)).cell? ⟨w.heap.size, j, none⟩ = some (.int .i64 badL[j])) := by
  intro j hj
  rw [World.cell?_alloc_at _ _ _ _ rfl]
  have : j = 0 ∨ j = 1 ∨ j = 2 := by simp [badL] at hj; omega
  rcases this with rfl | rfl | rfl <;> rfl
theorem run_tl (b : ByteArray) (hb : b.size = 64) : ∃ c : ByteArray, c.size ≤ 64 ∧ ∀ W, (Instr.slice 9 (.string b) (some (.int .i64 1)) none none).run Tryd.prog W = .ok (.string c) W := by
  refine ⟨b.extract 1 b.size, by rw [ByteArray.size_extract]; omega, fun W => ?_⟩
  rw [run_slice_string_from_if (P := Tryd.prog) (w := W) 9 b .i64 1 Tryd.underlying9, if_pos (by omega)]
  rfl

/-- what DrawShaBlock gives: a row of numbers and a text -/
def Drawn (w w' : World) (e : Ending) : Prop := ∃ (g o n c : Nat) (l : List Int) (b : ByteArray), e = .returned (.tuple #[.slice (some ⟨g, o, none⟩) n c, .string b]) ∧ l.length = n ∧ n ≤ 8 ∧ b.size ≤ 64 ∧ w.heap.size ≤ g ∧ g < w'.heap.size ∧ (∀ j (h : j < l.length), w'.cell? ⟨g, o + j, none⟩ = some (.int .i64 l[j])) ∧ Below w.heap.size w w'

def DbR (w : World) (g : Nat) (v u i : Value) (wr : World) : Prop :=
  ∃ l : List Nat, l.length ≤ 8 ∧ i = .int .i64 (l.length : Int) ∧ wr.ownsRow w.heap.size 3 1 u l.length (iv l) ∧ Cur w.heap.size w wr g v

set_option maxRecDepth 100000 in
set_option maxHeartbeats 1000000 in
theorem DrawShaBlock_any (w : World) (v : Value) (hc : Code w.heap.size w v) :
    Calls Tryd.prog 9 #[v] w fun e w' => Drawn w w' e := by
  have HC : Hid (Code w.heap.size w v) := hc
  clear hc
  go_enter Tryd.func9, Tryd.ntmps9
  go_wp2_with fail
  refine (l01New_in w v HC.out).mono ?_
  rintro e w1 ⟨g, rfl, hc1, hb1⟩
  go_wp2_with fail
  refine (l01Below_in w.heap.size w _ g v 10 10 rfl hc1 (by omega) (by omega)).mono ?_
  rintro e w2 ⟨k, hk, rfl, hc2, hg2⟩
  go_wp2_with fail
  refine (l01Text_in w.heap.size w _ g v _ 64 rfl hc2 (by omega)).mono ?_
  rintro e w3 ⟨t, ht, rfl, hc3, hg3⟩
  obtain ⟨b, hb⟩ : ∃ b : ByteArray, b = ⟨t.toArray⟩ := ⟨_, rfl⟩
  have hbz : b.size = 64 := by subst hb; exact ht
  rw [← hb]
  clear hb ht
  go_wp2
  go_loopw [7, 8] (fun u i wr => DbR w g v u i wr) (fun _ i _ => 8 - (intOf i).toNat)
  case atStart =>
    refine ⟨[], by simp, rfl, World.ownsRow_made w3 #[] 0 hc3.size (by decide) (by simp), ?_⟩
    exact hc3.kept (World.grownBy_alloc w3 _ none) (by simp) hc3.size (fun k hk => by cases hk)
  case round =>
    obtain ⟨l, hl8, rfl, hrow, hcr⟩ := hrel
    obtain ⟨m, hm⟩ : ∃ m, l.length = m := ⟨_, rfl⟩
    rw [hm] at hrow hl8 ⊢
    by_cases hlt : m < 8
    · have hca : Cur w.heap.size w (wr.alloc (.cells pickCells 3)) g v := hcr.kept (World.grownBy_alloc wr _ none) (by simp) hcr.size (fun k hk => by cases hk)
      have hgl := hcr.lt
      have hcell := pick_at wr
      have cP := l01PickInt_in w.heap.size w (wr.alloc (.cells pickCells 3)) g v wr.heap.size 5 pickL hca (by decide) (by decide) (by omega) (by simp) hcell
      have CP : Hid (Calls Tryd.prog 23 #[.pointer (some ⟨g, 0, none⟩), .slice (some ⟨wr.heap.size, 0, none⟩) 5 5] (wr.alloc (.cells pickCells 3)) fun e w' => ∃ y : Int, y ∈ pickL ∧ e = .returned (.int .i64 y) ∧ Cur w.heap.size w w' g v ∧ (wr.alloc (.cells pickCells 3)).grownBy w' (some g)) := cP
      have hneq := own_neI hcr hrow
      have hrowa : (wr.alloc (.cells pickCells 3)).ownsRow w.heap.size 3 1 u7 m (iv l) := World.ownsRow.alloc hrow _
      clear cP hcell hca
      go_wp2_with fail
      refine CP.out.mono ?_
      rintro e w5 ⟨y, hy, rfl, hc5, hg5⟩
      obtain ⟨y, rfl, hyl⟩ := pickL_in y hy
      have hrow5 : w5.ownsRow w.heap.size 3 1 u7 m (iv l) := World.ownsRow.kept hrowa hg5 (.inr hneq.symm)
      have hrow5' : w5.ownsRow w.heap.size 3 1 u7 l.length (iv l) := by rw [hm]; exact hrow5
      have hB := hc5.size
      clear CP hrowa hrow hy
      go_wp2_with (at_builtin; refine wp_appJ rfl _ _ rfl w.heap.size _ l rfl (World.ownsRow.alloc hrow5' _) ?c0 ⟨w5.heap.size, 0, none⟩ y rfl ?c1 ?c2 ?_)
      case c0 => simp; omega
      case c1 => exact one_int _ _ _
      case c2 => omega
      intro v' w6 hrow6 hg6
      have hne := own_neI hc5 hrow5
      have hge : ∀ j, u7.ownBlock = some j → w.heap.size ≤ j := fun j hj => (World.ownsRow.lt hrow5 j hj).1
      have hca6 : Cur w.heap.size w (w5.alloc (.cells #[.int .i64 (y : Int)] 3)) g v := hc5.kept (World.grownBy_alloc w5 _ none) (by simp) hc5.size (fun k hk => by cases hk)
      have hc6 : Cur w.heap.size w w6 g v := hca6.kept hg6 hne hca6.size hge
      have e6 : (l ++ [y]).length = m + 1 := by simp; omega
      have HR6 : Hid (w6.ownsRow w.heap.size 3 1 v' (l ++ [y]).length (iv (l ++ [y]))) := by
        show w6.ownsRow w.heap.size 3 1 v' (l ++ [y]).length (iv (l ++ [y]))
        rw [e6]
        first | exact hrow6 | (rw [e6] at hrow6; exact hrow6)
      clear hca6 hne hge hg6 hrow5 hrow5' hrow6 hc5 hg5
      go_wp2
      go_roundw
      case rel => exact ⟨l ++ [y], by omega, by show Value.int .i64 _ = Value.int .i64 _; rw [e6]; congr 1, HR6.out, hc6⟩
      case measure => simp [intOf] <;> omega
    · have hme : m = 8 := by omega
      subst hme
      have hneq := own_neI hcr hrow
      obtain ⟨gr, cp, rfl, hgr, hcp, hib⟩ : ∃ gr cp, u7 = .slice (some ⟨gr, 0, none⟩) 8 cp ∧ (w.heap.size ≤ gr ∧ gr < wr.heap.size) ∧ 8 ≤ cp ∧ IB wr gr (l.map (fun n : Nat => (n : Int))) := by
        rcases hrow.2 with ⟨_, h0⟩ | ⟨g', cap, cur, rfl, hb, hg, hnn, hc, hsz2, ht⟩
        · omega
        · refine ⟨g', cap, rfl, ⟨hb, (Array.getElem?_eq_some_iff.1 hg).1⟩, hnn, cur, hg, fun j hj => ?_⟩
          have hj' : j < l.length := by simpa using hj
          have h4 : (cur.toList.take (8 * 1))[j]? = (iv l)[j]? := by rw [ht]
          rw [List.getElem?_take, if_pos (by omega)] at h4
          rw [← Array.getElem?_toList, h4]
          simp [iv, hj']
      have hgne : gr ≠ g := fun h => hneq (by simp [Value.ownBlock, h])
      obtain ⟨L, hL⟩ : ∃ L, l.map (fun n : Nat => (n : Int)) = L := ⟨_, rfl⟩
      rw [hL] at hib
      have hLl : L.length = 8 := by rw [← hL]; simpa using hm
      have hbel := hcr.2.1
      have HIB : Hid (IB wr gr L ∧ Cur w.heap.size w wr g v ∧ Below w.heap.size w wr) := ⟨hib, hcr, hbel⟩
      clear hrow hneq hL hib hcr hbel hm hlt hc3 hg3 hc2 hg2 hc1 hb1 HC
      by_cases k0 : k = 0
      · subst k0
        go_wp2
        go_ret2
        refine ⟨gr, 1, 7, cp - 1, L.drop 1, b, ?_, by simp; omega, by omega, by omega, hgr.1, hgr.2, fun j hj => ?_, HIB.out.2.2⟩
        · rfl
        · have hj' : 1 + j < L.length := by simp at hj; omega
          rw [HIB.out.1.cell (1 + j) hj', List.getElem_drop]
      · have q0 : ((k : Int) == 0) = false := by simp; omega
        by_cases k1 : k = 1
        · subst k1
          obtain ⟨c, hcz, hrun⟩ := run_tl b hbz
          go_wp2
          go_ret2
          exact ⟨gr, 0, 8, cp, L, c, rfl, hLl, by omega, hcz, hgr.1, hgr.2, fun j hj => by rw [Nat.zero_add]; exact HIB.out.1.cell j hj, HIB.out.2.2⟩
        · have q1 : ((k : Int) == 1) = false := by simp; omega
          by_cases k2 : k = 2
          · subst k2
            have hca : Cur w.heap.size w (wr.alloc (.cells badCells 3)) g v := HIB.out.2.1.kept (World.grownBy_alloc wr _ none) (by simp) HIB.out.2.1.size (fun k hk => by cases hk)
            have hgl := HIB.out.2.1.lt
            have cP := l01PickInt_in w.heap.size w (wr.alloc (.cells badCells 3)) g v wr.heap.size 3 badL hca (by decide) (by decide) (by omega) (by simp) (bad_at wr)
            have CP : Hid (Calls Tryd.prog 23 #[.pointer (some ⟨g, 0, none⟩), .slice (some ⟨wr.heap.size, 0, none⟩) 3 3] (wr.alloc (.cells badCells 3)) fun e w' => ∃ y : Int, y ∈ badL ∧ e = .returned (.int .i64 y) ∧ Cur w.heap.size w w' g v ∧ (wr.alloc (.cells badCells 3)).grownBy w' (some g)) := cP
            have iba := HIB.out.1.below ((Below.refl wr.heap.size wr).alloc (Nat.le_refl _) (.cells badCells 3)) hgr.2
            clear cP hca
            go_wp2_with fail
            refine CP.out.mono ?_
            rintro e w5 ⟨y, hy, rfl, hc5, hg5⟩
            have ib5 : IB w5 gr L := iba.keep (hg5.block gr iba.lt (by simpa using hgne))
            have c3 := ib5.cell 3 (by omega)
            have f3 := ib5.frozen 3
            have hs5 := ib5.set 3 (by omega) y
            have hb5 := hc5.2.1.setCell (p := ⟨gr, 3, none⟩) hgr.1 (.int .i64 y)
            have hl5 := hs5.lt
            have HZ : Hid (IB (w5.setCell ⟨gr, 3, none⟩ (.int .i64 y)) gr (L.set 3 y) ∧ Below w.heap.size w (w5.setCell ⟨gr, 3, none⟩ (.int .i64 y)) ∧ gr < (w5.setCell ⟨gr, 3, none⟩ (.int .i64 y)).heap.size) := ⟨hs5, hb5, hl5⟩
            generalize L[3]'(by omega) = Y3 at *
            clear hs5 hb5 hl5 ib5 iba CP
            go_wp2
            go_ret2
            exact ⟨gr, 0, 8, cp, L.set 3 y, b, rfl, by simpa using hLl, by omega, by omega, hgr.1, HZ.out.2.2, fun j hj => by rw [Nat.zero_add]; exact HZ.out.1.cell j hj, HZ.out.2.1⟩
          · have q2 : ((k : Int) == 2) = false := by simp; omega
            by_cases k3 : k = 3
            · subst k3
              go_wp2_with fail
              refine (sShaStart_any wr).mono ?_
              rintro e w5 ⟨g5, c5, rfl, hg5, ib5, hb5⟩
              go_wp2
              go_ret2
              exact ⟨g5, 0, 8, c5, stI firstF 8, b, rfl, stI_len _ _, by omega, by omega, Nat.le_trans HIB.out.2.2.size hg5, ib5.lt, fun j hj => by rw [Nat.zero_add]; exact ib5.cell j hj, HIB.out.2.2.trans (hb5.mono HIB.out.2.2.size)⟩
            · have q3 : ((k : Int) == 3) = false := by simp; omega
              go_wp2
              go_ret2
              exact ⟨gr, 0, 8, cp, L, b, rfl, hLl, by omega, by omega, hgr.1, hgr.2, fun j hj => by rw [Nat.zero_add]; exact HIB.out.1.cell j hj, HIB.out.2.2⟩
end Go.Proofs.YtjfdgidhgijheaaDoor
