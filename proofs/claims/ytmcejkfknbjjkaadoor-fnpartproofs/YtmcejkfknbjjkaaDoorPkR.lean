/-
  Texts laid together: Yp, Yq, Dnh, Yr, Sqt, Ylp.
-/
import Derived.Test.YtmcejkfknbjjkaaDoorPkQ
import Derived.Test.YtmcejkfknbjjkaaDoorPkO
import Derived.Test.YtmcejkfknbjjkaaDoorPkL
import Derived.Test.YtmcejkfknbjjkaaDoorPkN
import Derived.Test.YtmcejkfknbjjkaaDoorAn
import Derived.Test.YtmcejkfknbjjkaaDoorPkJ
import Derived.Test.YtmcejkfknbjjkaaDoorPkG
import Derived.Test.YtmcejkfknbjjkaaDoorPkE
/-
  Plain facts of shards: what their roots combine to, and how a proof within one of them goes on up.
-/
namespace Go.Proofs.YtmcejkfknbjjkaaDoor
open Go.RowKit
set_option linter.unusedVariables false
set_option linter.unusedSimpArgs false

namespace TR
variable {β : Type} {hN : β → β → β}
theorem fold_shift : ∀ (s : List β) (b : Nat → Bool) (i : Nat) (h : β), fold hN b i h s = fold hN (fun j => b (i + j)) 0 h s
  | [], b, i, h => rfl
  | a :: t, b, i, h => by
    show fold hN b (i + 1) (if b i then hN a h else hN h a) t = fold hN (fun j => b (i + j)) (0 + 1) (if b (i + 0) then hN a h else hN h a) t
    rw [fold_shift t b (i + 1), fold_shift t (fun j => b (i + j)) (0 + 1), Nat.add_zero]
    congr 1
    funext j
    congr 1
    omega
end TR

/-- the places of a height, side by side -/
noncomputable def rtL (x : Int) (L : List Le) (h d : Nat) : List ByteArray := (List.range (2 ^ d)).map fun i => trB x h i L
theorem rtL_len (x : Int) (L : List Le) (h d : Nat) : (rtL x L h d).length = 2 ^ d := by simp [rtL]
theorem rtL_getD (x : Int) (L : List Le) (h d i : Nat) (hi : i < 2 ^ d) : (rtL x L h d).getD i ByteArray.empty = trB x h i L := by
  rw [List.getD_eq_getElem?_getD, List.getElem?_eq_getElem (by rw [rtL_len]; exact hi)]
  simp [rtL]
theorem rtL_up (x : Int) (L : List Le) (h d : Nat) : upW x (rtL x L h (d + 1)) = rtL x L (h + 1) d := by
  refine List.ext_getElem (by rw [upW_len, rtL_len, rtL_len, Nat.pow_succ]; omega) fun i h1 h2 => ?_
  rw [rtL_len] at h2
  rw [upW_at]
  unfold upAtW
  rw [rtL_getD _ _ _ _ _ (by rw [Nat.pow_succ]; omega), rtL_getD _ _ _ _ _ (by rw [Nat.pow_succ]; omega)]
  simp [rtL]
  rfl
theorem rtL_upN (x : Int) (L : List Le) (h d : Nat) : ∀ j, j ≤ d → upNW x (rtL x L h d) j = rtL x L (h + j) (d - j)
  | 0, _ => rfl
  | j + 1, hj => by
    unfold upNW
    rw [rtL_upN x L h d j (by omega), show d - j = (d - (j + 1)) + 1 by omega, rtL_up]
    rfl
theorem rtL_top (x : Int) (L : List Le) (h d : Nat) : topW x (rtL x L h d) d = trB x (h + d) 0 L := by
  unfold topW
  rw [rtL_upN x L h d d (Nat.le_refl _), Nat.sub_self, rtL_getD _ _ _ _ _ (by simp)]
theorem div_div2 (N h m : Nat) : N / 2 ^ h / 2 ^ m = N / 2 ^ (h + m) := by rw [Nat.div_div_eq_div_mul, ← Nat.pow_add]
theorem rtL_sides (x : Int) (L : List Le) (N h d : Nat) (hN : N < 2 ^ (h + d)) : ∀ m, m ≤ d → sidW x (rtL x L h d) (N / 2 ^ h) m = TR.sides idxL (hnB x) (bhB x) N L h m
  | 0, _ => rfl
  | m + 1, hm => by
    rw [TR.sides_snoc]
    unfold sidW
    rw [rtL_sides x L N h d hN m (by omega), rtL_upN x L h d m (by omega), div_div2]
    have hlt : N / 2 ^ (h + m) < 2 ^ (d - m) := by
      rw [Nat.div_lt_iff_lt_mul (Nat.two_pow_pos _), ← Nat.pow_add, show d - m + (h + m) = h + d by omega]
      exact hN
    have he : 2 ^ (d - m) % 2 = 0 := by rw [show d - m = (d - (m + 1)) + 1 by omega, Nat.pow_succ]; omega
    rw [rtL_getD _ _ _ _ _ (oth_lt he hlt)]
    rfl
/-- a place folds up to the root -/
theorem fold_part (x : Int) (L : List Le) (N h d : Nat) (hN : N ≤ 255) (hd : h + d = 8) : fuF x (N : Int) d (trB x h (N / 2 ^ h) L) (TR.sides idxL (hnB x) (bhB x) N L h d) = trB x 8 0 L := by
  have h1 := TR.fold_up (idx := idxL) (hN := hnB x) (hB := bhB x) (fun i => decide (N / 2 ^ i % 2 = 1)) N (fun i => rfl) L d h
  rw [TR.fold_shift, hd, Nat.div_eq_of_lt (show N < 2 ^ 8 by omega)] at h1
  unfold fuF
  refine Eq.trans (TR.fold_congr _ 0 _ fun j _ hj => ?_) h1
  rw [TR.sides_len] at hj
  unfold fbB
  rw [show d - 1 - j = 7 - (h + j) by omega, bit_of N (h + j) (by omega) hN]
  have h2 : N / 2 ^ (h + j) % 2 < 2 := Nat.mod_lt _ (by omega)
  generalize N / 2 ^ (h + j) % 2 = q at *
  have : q = 0 ∨ q = 1 := by omega
  rcases this with rfl | rfl <;> rfl

/-! parts -/
theorem shL_und (L : List Le) (d i : Nat) (hd : d ≤ 2) : shL L (d : Int) (i : Int) = TR.und idxL (8 - d) i L := by
  unfold shL TR.und
  refine List.filter_congr fun f _ => ?_
  unfold shP idxL shN
  have e : shQ (idxN f.n) (d : Int) = idxN f.n / 2 ^ (8 - d) := by
    unfold shQ
    rw [if_pos (by omega), show (8 - (d : Int)).toNat = 8 - d by omega]
  rw [e]
  generalize idxN f.n / 2 ^ (8 - d) = q
  by_cases h : q = i
  · rw [decide_eq_true h, decide_eq_true (by omega)]
  · rw [decide_eq_false h, decide_eq_false (by omega)]
theorem shN_div (t : ByteArray) (d : Nat) (hd : d ≤ 2) : shN t (d : Int) = idxN t / 2 ^ (8 - d) := by
  unfold shN shQ
  rw [if_pos (by omega), show (8 - (d : Int)).toNat = 8 - d by omega]
theorem ok_und {L : List Le} (h : LV.LOk L) (k p : Nat) : LV.LOk (TR.und idxL k p L) := LV.leavesB_iff.1 (leaves_und h k p)
/-- a part's own hash is that of its place -/
theorem tr_part (x : Int) (L : List Le) (h p : Nat) : trB x h p (TR.und idxL h p L) = trB x h p L := TR.tr_of (idx := idxL) (hN := hnB x) (hB := bhB x) h 0 p p L (by simp)
theorem sr_at {L : List Le} {x : Int} (h : 1 ≤ x ∧ x ≤ 32) (hL : LV.LOk L) (d i : Nat) (hd : d ≤ 2) (hi : i < 2 ^ d) : srB L (d : Int) (i : Int) x = trB x (8 - d) i L := by
  unfold srB nhB
  have e : (2 : Int) ^ (d : Int).toNat = ((2 ^ d : Nat) : Int) := by simp
  rw [if_pos (by omega), if_pos ⟨LV.leavesB_iff.2 hL, by omega, by rw [e]; omega, h⟩]
  rfl
theorem shC_pow (d : Nat) (hd : d ≤ 2) : shC (d : Int) = 2 ^ d := by
  unfold shC
  rw [if_pos (by omega)]
  rfl
theorem lgN_pow (d : Nat) (hd : d ≤ 2) : lgN (2 ^ d) = d := by
  have : d = 0 ∨ d = 1 ∨ d = 2 := by omega
  rcases this with rfl | rfl | rfl <;> rfl
theorem rtL_right {L : List Le} {x : Int} (h : 1 ≤ x ∧ x ≤ 32) (hL : LV.LOk L) (hh d : Nat) (hd : d ≤ 2) : rtB (rtL x L hh d) x = true := by
  unfold rtB
  have h1 : rtN (rtL x L hh d).length = true := by
    rw [rtL_len]
    have : d = 0 ∨ d = 1 ∨ d = 2 := by omega
    rcases this with rfl | rfl | rfl <;> rfl
  rw [h1, wideB_good (fun j hj => ?_), decide_eq_true h]
  · rfl
  · have : (rtL x L hh d)[j] = trB x hh j L := by simp [rtL]
    rw [this, trB_size h hL]
    omega
/-- the roots of all shards combine to the root of all -/
theorem cr_root {L : List Le} {x : Int} (h : 1 ≤ x ∧ x ≤ 32) (hL : LV.LOk L) (d : Nat) (hd : d ≤ 2) : crB (rtL x L (8 - d) d) x = trB x 8 0 L := by
  unfold crB
  rw [rtL_right h hL _ d hd, if_pos rfl, rtL_len, lgN_pow d hd, rtL_top, show 8 - d + d = 8 by omega]
theorem cs_sides {L : List Le} {x : Int} (h : 1 ≤ x ∧ x ≤ 32) (hL : LV.LOk L) (N d : Nat) (hN : N ≤ 255) (hd : d ≤ 2) :
    csB (rtL x L (8 - d) d) ((N / 2 ^ (8 - d) : Nat) : Int) x = true ∧ csL (rtL x L (8 - d) d) ((N / 2 ^ (8 - d) : Nat) : Int) x = TR.sides idxL (hnB x) (bhB x) N L (8 - d) d := by
  have hlt : N / 2 ^ (8 - d) < 2 ^ d := by
    rw [Nat.div_lt_iff_lt_mul (Nat.two_pow_pos _), ← Nat.pow_add, show d + (8 - d) = 8 by omega]
    show N < 256
    omega
  have h1 : csB (rtL x L (8 - d) d) ((N / 2 ^ (8 - d) : Nat) : Int) x = true := by
    unfold csB
    rw [rtL_right h hL _ d hd, rtL_len, Bool.true_and, decide_eq_true_iff]
    exact ⟨Int.natCast_nonneg _, Int.ofNat_lt.2 hlt⟩
  refine ⟨h1, ?_⟩
  unfold csL
  rw [h1, if_pos rfl, rtL_len, lgN_pow d hd, Int.toNat_natCast]
  exact rtL_sides x L N (8 - d) d (by rw [show 8 - d + d = 8 by omega]; show N < 256; omega) d (Nat.le_refl _)
/-- .. and a place's hash goes on up to it -/
theorem fu_part {L : List Le} {x : Int} (N d : Nat) (hN : N ≤ 255) (hd : d ≤ 2) : fuB (trB x (8 - d) (N / 2 ^ (8 - d)) L) (N : Int) (d : Int) (TR.sides idxL (hnB x) (bhB x) N L (8 - d) d) x = trB x 8 0 L := by
  unfold fuB
  rw [if_pos ⟨by omega, by rw [TR.sides_len]; omega⟩, Int.toNat_natCast]
  exact fold_part x L N (8 - d) d hN (by omega)

end Go.Proofs.YtmcejkfknbjjkaaDoor
/-
  A proof up to any level: its hash is that of the place it goes up to.
-/
namespace Go.Proofs.YtmcejkfknbjjkaaDoor
open Go.RowKit
set_option linter.unusedVariables false
set_option linter.unusedSimpArgs false

theorem pf_lvl {L : List Le} {x : Int} {nm : ByteArray} (hn : okB nameB nm = true) (h : 1 ≤ x ∧ x ≤ 32) (hL : LV.LOk L) (n : Nat) (h8 : n ≤ 8) : pfOk nm (bkL L (idxN nm)) (sdL x (idxN nm) L n) x = true := by
  rw [pfOk_yes hn (LV.leavesB_iff.2 (ok_bk hL _)) (by rw [sdL_len]; exact h8) ?_]
  · rw [List.all_eq_true]
    intro f hf
    have := (bk_sub hf).2
    simp
    omega
  · rw [wideB_good (fun j hj => ?_)]
    · simpa using h
    · rw [sd_size h hL _ n _ (List.getElem_mem _)]
      omega
theorem fold_lvl (x : Int) (ix n : Nat) (hx : ix ≤ 255) (h8 : n ≤ 8) (L : List Le) : fuF x (ix : Int) 8 (trB x 0 ix L) (sdL x ix L n) = trB x n (ix / 2 ^ n) L := by
  unfold fuF trB
  rw [TR.fold_congr (b' := fun i => decide (ix / 2 ^ i % 2 = 1)) (sdL x ix L n) 0 _ (fun j _ hj => ?_)]
  · have h := TR.fold_up (idx := idxL) (hN := hnB x) (hB := bhB x) (fun i => decide (ix / 2 ^ i % 2 = 1)) ix (fun i => rfl) L n 0
    rw [Nat.pow_zero, Nat.div_one, Nat.zero_add] at h
    exact h
  · rw [sdL_len] at hj
    unfold fbB
    rw [show 8 - 1 - j = 7 - j by omega, bit_of ix j (by omega) hx]
    have h2 : ix / 2 ^ j % 2 < 2 := Nat.mod_lt _ (by omega)
    generalize ix / 2 ^ j % 2 = q at *
    have : q = 0 ∨ q = 1 := by omega
    rcases this with rfl | rfl <;> rfl
theorem chain_lvl {L : List Le} {x : Int} (h : 1 ≤ x ∧ x ≤ 32) (hL : LV.LOk L) (ix n : Nat) (hx : ix ≤ 255) (h8 : n ≤ 8) : fuF x ix 8 (cutH (btB (bkL L ix)) x) (sdL x ix L n) = trB x n (ix / 2 ^ n) L := by
  have e : cutH (btB (bkL L ix)) x = trB x 0 ix L := by
    show _ = bhB x (TR.und idxL 0 ix L)
    rw [bhB_yes (leaves_und hL 0 ix), bkL_und]
  rw [e]
  exact fold_lvl x ix n hx h8 L
theorem ph_lvl {L : List Le} {nm : ByteArray} {x : Int} (hn : okB nameB nm = true) (h : 1 ≤ x ∧ x ≤ 32) (hL : LV.LOk L) (n : Nat) (h8 : n ≤ 8) : phA nm (bkL L (idxN nm)) (sdL x (idxN nm) L n) x = trB x n (idxN nm / 2 ^ n) L := by
  have hp := pf_lvl hn h hL n h8
  have e : ptA nm (bkL L (idxN nm)) (sdL x (idxN nm) L n) x = chL (idxN nm) x (btB (bkL L (idxN nm))) (sdL x (idxN nm) L n) (n + 1) := by
    unfold ptA
    rw [if_pos hp, sdL_len]
  unfold phA
  rw [e, lastH_at (k := n) (by rw [chL_len]), chL_at, chain_fold (idx_255 nm) h _ (by rw [sdL_len]; exact h8) (fun s hs => by rw [sd_size h hL _ n s hs]; omega) n (by rw [sdL_len]; exact Nat.le_refl _), List.take_of_length_le (by rw [sdL_len]; exact Nat.le_refl _)]
  exact chain_lvl h hL _ n (idx_255 nm) h8
theorem sd_lvl {L : List Le} {x : Int} (h : 1 ≤ x ∧ x ≤ 32) (hL : LV.LOk L) (ix : Nat) (hx : ix ≤ 255) (d : Nat) (hd : d ≤ 8) : sdA L (ix : Int) (d : Int) x = sdL x ix L (8 - d) := by
  unfold sdA
  rw [if_pos ⟨LV.leavesB_iff.2 hL, by omega, by omega, h⟩]
  rfl

end Go.Proofs.YtmcejkfknbjjkaaDoor
/-
  A drawn list, level, place and width.
-/
namespace Go.Proofs.YtmcejkfknbjjkaaDoor
open Go.RowKit Go.BigFrame Go.Sort
set_option linter.unusedVariables false
set_option linter.unusedSimpArgs false

/-- one of a list of numbers that is written out -/
theorem pickI_lit (B : Nat) (w0 w : World) (g : Nat) (v : Value) (n : Nat) (zs : List Int) (cs : Array Value) (hc1 : Cur B w0 w g v) (hn : zs.length = n) (h0 : 0 < n) (h1 : n ≤ 1000000)
    (hcell : Hid (∀ j, (h : j < zs.length) → (w.alloc (.cells cs 3)).cell? ⟨w.heap.size, j, none⟩ = some (.int .i64 zs[j]))) :
    Hid (Calls Tryd.prog 55 #[.pointer (some ⟨g, 0, none⟩), .slice (some ⟨w.heap.size, 0, none⟩) n n] (w.alloc (.cells cs 3)) fun e w' => ∃ y : Int, y ∈ zs ∧ e = .returned (.int .i64 y) ∧ Cur B w0 w' g v ∧ w.grownBy w' (some g)) := by
  have hca : Cur B w0 (w.alloc (.cells cs 3)) g v := hc1.kept (World.grownBy_alloc w _ none) (by simp) hc1.size (fun k hk => by cases hk)
  have hga : w.grownBy (w.alloc (.cells cs 3)) (some g) := World.grownBy_alloc w _ (some g)
  have hgl := hc1.lt
  have cP := l01PickInt_in B w0 (w.alloc (.cells cs 3)) g v w.heap.size n zs hca (by omega) (by omega) (by omega) (by simp) hcell
  rw [hn] at cP
  exact cP.mono fun e w' ⟨y, hy, he, hc, hg⟩ => ⟨y, hy, he, hc, hga.trans hg⟩
def wideL : List Int := [16, 16, 1, 32, 2, 0, 33]
def wideC : Array Value := #[.int .i64 16, .int .i64 16, .int .i64 1, .int .i64 32, .int .i64 2, .int .i64 0, .int .i64 33]
theorem wide_at (w : World) : Hid (∀ j, (h : j < wideL.length) → (w.alloc (.cells wideC 3)).cell? ⟨w.heap.size, j, none⟩ = some (.int .i64 wideL[j])) := by
  intro j hj
  rw [World.cell?_alloc_at _ _ _ _ rfl]
  have : j = 0 ∨ j = 1 ∨ j = 2 ∨ j = 3 ∨ j = 4 ∨ j = 5 ∨ j = 6 := by simp [wideL] at hj; omega
  rcases this with rfl | rfl | rfl | rfl | rfl | rfl | rfl <;> rfl
def lvlL : List Int := [0, 1, 2, 3, 8, 7, 9, -1]
def lvlC : Array Value := #[.int .i64 0, .int .i64 1, .int .i64 2, .int .i64 3, .int .i64 8, .int .i64 7, .int .i64 9, .int .i64 (-1)]
theorem lvl_at (w : World) : Hid (∀ j, (h : j < lvlL.length) → (w.alloc (.cells lvlC 3)).cell? ⟨w.heap.size, j, none⟩ = some (.int .i64 lvlL[j])) := by
  intro j hj
  rw [World.cell?_alloc_at _ _ _ _ rfl]
  have : j = 0 ∨ j = 1 ∨ j = 2 ∨ j = 3 ∨ j = 4 ∨ j = 5 ∨ j = 6 ∨ j = 7 := by simp [lvlL] at hj; omega
  rcases this with rfl | rfl | rfl | rfl | rfl | rfl | rfl | rfl <;> rfl
def plcL : List Int := [-1, 256, 1]
def plcC : Array Value := #[.int .i64 (-1), .int .i64 256, .int .i64 1]
theorem plc_at (w : World) : Hid (∀ j, (h : j < plcL.length) → (w.alloc (.cells plcC 3)).cell? ⟨w.heap.size, j, none⟩ = some (.int .i64 plcL[j])) := by
  intro j hj
  rw [World.cell?_alloc_at _ _ _ _ rfl]
  have : j = 0 ∨ j = 1 ∨ j = 2 := by simp [plcL] at hj; omega
  rcases this with rfl | rfl | rfl <;> rfl
/-- four values, answered -/
theorem ret_fourT {fn : Func} {Rp : Ending → World → Prop} {a : Act} {w : World} (i j k m : Nat) (v0 v1 v2 v3 : Value) (hres : fn.results = #[.tmp i, .tmp j, .tmp k, .tmp m]) (hd : a.defers = []) (h0 : a.tmps.getD i undef = v0) (h1 : a.tmps.getD j undef = v1) (h2 : a.tmps.getD k undef = v2) (h3 : a.tmps.getD m undef = v3)
    (h : Rp (.returned (.tuple #[v0, v1, v2, v3])) w) : bodyPost Tryd.prog fn Rp .ret a w := by
  refine bodyPost_ret (v := .tuple #[v0, v1, v2, v3]) ?_ hd h
  have h0' : a.tmps[i]?.getD undef = v0 := by simpa using h0
  have h1' : a.tmps[j]?.getD undef = v1 := by simpa using h1
  have h2' : a.tmps[k]?.getD undef = v2 := by simpa using h2
  have h3' : a.tmps[m]?.getD undef = v3 := by simpa using h3
  simp [results, hres, h0', h1', h2', h3']

/-- what DrawNodeHash gives -/
def DnA (w : World) (e : Ending) (w' : World) : Prop := ∃ (u : Value) (q : Nat) (L : List Le) (y z x : Int), e = .returned (.tuple #[u, .int .i64 y, .int .i64 z, .int .i64 x]) ∧ SmallL L ∧ L.length ≤ 25 ∧ RS 2 lcs w' u q 0 L ∧ Below w.heap.size w w'

end Go.Proofs.YtmcejkfknbjjkaaDoor
/-
  The roots of all shards, as the laws ask for them; drawn roots.
-/
namespace Go.Proofs.YtmcejkfknbjjkaaDoor
open Go.RowKit Go.BigFrame Go.Sort
set_option linter.unusedVariables false
set_option linter.unusedSimpArgs false

/-- the roots of all shards -/
noncomputable def rsL (L : List Le) (k : Int) : List ByteArray := (List.range (shC k)).map fun i : Nat => srB L k (i : Int) 16
theorem rsL_len (L : List Le) (k : Int) : (rsL L k).length = shC k := by simp [rsL]
theorem rsL_at (L : List Le) (k : Int) (i : Nat) (h : i < (rsL L k).length) : (rsL L k)[i] = srB L k (i : Int) 16 := by simp [rsL]
theorem rsL_rt {L : List Le} (hL : LV.LOk L) (d : Nat) (hd : d ≤ 2) : rsL L (d : Int) = rtL 16 L (8 - d) d := by
  refine List.ext_getElem (by rw [rsL_len, rtL_len, shC_pow d hd]) fun i h1 h2 => ?_
  rw [rtL_len] at h2
  rw [rsL_at, sr_at (by omega) hL d i hd h2]
  simp [rtL]

def YxR (w : World) (L : List Le) (k : Int) (u i : Value) (wr : World) : Prop := ∃ m : Nat, m ≤ shC k ∧ i = .int .i64 m ∧ OS w.heap.size w wr u ((rsL L k).take m)

set_option maxRecDepth 100000 in
set_option maxHeartbeats 1000000 in
theorem rootsOf_any (v : Value) (ga oa : Nat) (L : List Le) (k : Int) (w : World) (hv : RS 2 lcs w v ga oa L) (hsm : SmallL L) (hk : 0 ≤ k ∧ k ≤ 2) :
    Calls Tryd.prog 17 #[v, .int .i64 k] w fun e w' => ∃ u, e = .returned u ∧ OS w.heap.size w w' u (rsL L k) := by
  have HV : Hid (∀ W i, Below w.heap.size w W → Calls Tryd.prog 34 #[v, .int .i64 k, .int .i64 i, .int .i64 16] W fun e w' => e = .returned (.string (srB L k i 16)) ∧ Below W.heap.size W w') := fun W i hW => sShardRoot_any v ga oa L k i 16 W (hv.later hW) hsm
  have HST : Hid (YxR w L k (.slice (some ⟨w.heap.size, 0, none⟩) 0 0) (.int .i64 0) (w.alloc (.cells #[] 9))) := ⟨0, by omega, rfl, OS.made w⟩
  obtain ⟨N, hN⟩ : ∃ N, shC k = N := ⟨_, rfl⟩
  have HN : Hid (shC k = N) := hN
  have hN4 : N ≤ 4 := by rcases shC_cases k with h | h | h <;> omega
  obtain ⟨a, cap, rfl⟩ := hv.shape
  have hpw : (2 : Int) ^ k.toNat = (N : Int) := by
    rw [← hN]
    unfold shC
    rw [if_pos hk]
    simp
  have hk0 := hk.1
  have hk2 := hk.2
  clear hv hsm hN hk
  go_enter Tryd.func17, Tryd.ntmps17
  go_wp2
  go_loopw [5, 6] (fun u i wr => YxR w L k u i wr) (fun _ i _ => N - (intOf i).toNat)
  case atStart => exact HST.out
  case round =>
    obtain ⟨m, hm, rfl, hos⟩ := hrel
    clear HST
    rw [HN.out] at hm
    have hkk : k = 0 ∨ k = 1 ∨ k = 2 := by omega
    have hsh : (IntKind.i64.wrap ((1 : Int) * 2 ^ k.toNat)) = (N : Int) := by rw [Int.one_mul, hpw]; exact IntWalk.i64_in _ (by omega)
    by_cases hlt : m < N
    · have i1 : (m : Int) < (N : Int) := by omega
      have hix := HV.out wr (m : Int) hos.2.1
      have hst : (rsL L k).take m ++ [srB L k (m : Int) 16] = (rsL L k).take (m + 1) := by
        have h1 : m < (rsL L k).length := by rw [rsL_len, HN.out]; exact hlt
        rw [← rsL_at L k m h1]
        exact List.take_append_getElem h1
      have hll : ((rsL L k).take m).length ≤ 4 := by rw [List.length_take, rsL_len, HN.out]; omega
      generalize srB L k (m : Int) 16 = X at *
      have HNX : Hid (∀ u W, OS w.heap.size w W u ((rsL L k).take m ++ [X]) → YxR w L k u (.int .i64 ((m : Int) + 1)) W) := by
        rw [hst]
        exact fun u W hW => ⟨m + 1, by rw [HN.out]; omega, by simp, hW⟩
      generalize (rsL L k).take m = S at *
      clear hst HV
      go_wp2_with fail
      refine hix.mono ?_
      rintro e w1 ⟨rfl, hb1⟩
      have hos1 := hos.later hb1
      clear hos hix hb1
      go_wp2_with (at_builtin; refine wp_txtL rfl _ _ rfl w.heap.size w _ S X rfl (hos1.alloc _) w1.heap.size rfl ?c1 ?c2 ?_)
      case c1 => exact one_text _ _ _
      case c2 => omega
      intro g5 cap5 w2 hos2 _ _
      have HK : Hid (YxR w L k (.slice (some ⟨g5, 0, none⟩) (S.length + 1) cap5) (.int .i64 ((m : Int) + 1)) w2) := HNX.out _ _ hos2
      clear hos2 HNX hos1
      go_wp2
      go_roundw
      case rel => exact HK.out
      case measure => simp [intOf]; omega
    · have i1 : ¬ (m : Int) < (N : Int) := by omega
      have e : (rsL L k).take m = rsL L k := List.take_of_length_le (by rw [rsL_len, HN.out]; omega)
      rw [e] at hos
      have HF : Hid (OS w.heap.size w wr u5 (rsL L k)) := hos
      clear e hos HV
      go_wp2
      go_ret
      exact ⟨_, rfl, HF.out⟩

/-! drawn roots -/
def dcaL : List Int := [16, 1, 32, 16]
def dcaC : Array Value := #[.int .i64 16, .int .i64 1, .int .i64 32, .int .i64 16]
theorem dca_at (w : World) : Hid (∀ j, (h : j < dcaL.length) → (w.alloc (.cells dcaC 3)).cell? ⟨w.heap.size, j, none⟩ = some (.int .i64 dcaL[j])) := by
  intro j hj
  rw [World.cell?_alloc_at _ _ _ _ rfl]
  have : j = 0 ∨ j = 1 ∨ j = 2 ∨ j = 3 := by simp [dcaL] at hj; omega
  rcases this with rfl | rfl | rfl | rfl <;> rfl
def dcbL : List Int := [1, 2, 4, 2, 4, 3, 0]
def dcbC : Array Value := #[.int .i64 1, .int .i64 2, .int .i64 4, .int .i64 2, .int .i64 4, .int .i64 3, .int .i64 0]
theorem dcb_at (w : World) : Hid (∀ j, (h : j < dcbL.length) → (w.alloc (.cells dcbC 3)).cell? ⟨w.heap.size, j, none⟩ = some (.int .i64 dcbL[j])) := by
  intro j hj
  rw [World.cell?_alloc_at _ _ _ _ rfl]
  have : j = 0 ∨ j = 1 ∨ j = 2 ∨ j = 3 ∨ j = 4 ∨ j = 5 ∨ j = 6 := by simp [dcbL] at hj; omega
  rcases this with rfl | rfl | rfl | rfl | rfl | rfl | rfl <;> rfl
def dccL : List Int := [0, 33, 5]
def dccC : Array Value := #[.int .i64 0, .int .i64 33, .int .i64 5]
theorem dcc_at (w : World) : Hid (∀ j, (h : j < dccL.length) → (w.alloc (.cells dccC 3)).cell? ⟨w.heap.size, j, none⟩ = some (.int .i64 dccL[j])) := by
  intro j hj
  rw [World.cell?_alloc_at _ _ _ _ rfl]
  have : j = 0 ∨ j = 1 ∨ j = 2 := by simp [dccL] at hj; omega
  rcases this with rfl | rfl | rfl <;> rfl
def dcdL : List Int := [0, 1, 2, 3, -1, 4]
def dcdC : Array Value := #[.int .i64 0, .int .i64 1, .int .i64 2, .int .i64 3, .int .i64 (-1), .int .i64 4]
theorem dcd_at (w : World) : Hid (∀ j, (h : j < dcdL.length) → (w.alloc (.cells dcdC 3)).cell? ⟨w.heap.size, j, none⟩ = some (.int .i64 dcdL[j])) := by
  intro j hj
  rw [World.cell?_alloc_at _ _ _ _ rfl]
  have : j = 0 ∨ j = 1 ∨ j = 2 ∨ j = 3 ∨ j = 4 ∨ j = 5 := by simp [dcdL] at hj; omega
  rcases this with rfl | rfl | rfl | rfl | rfl | rfl <;> rfl

/-- texts under way beside a cursor -/
def DcI (B : Nat) (w0 : World) (g : Nat) (v u : Value) (l : List ByteArray) (wr : World) : Prop := Cur B w0 wr g v ∧ OS B w0 wr u l
theorem DcI.drawn {B : Nat} {w0 w w1 : World} {g : Nat} {v u : Value} {l : List ByteArray} (h : DcI B w0 g v u l w) (hc : Cur B w0 w1 g v) (hg : w.grownBy w1 (some g)) : DcI B w0 g v u l w1 :=
  ⟨hc, h.2.beside hg hc.2.1 (fun k hk e => own_neS h.1 h.2.1 (by rw [hk, e]))⟩
theorem DcI.later {B : Nat} {w0 w w1 : World} {g : Nat} {v u : Value} {l : List ByteArray} (h : DcI B w0 g v u l w) (hb : Below w.heap.size w w1) : DcI B w0 g v u l w1 :=
  ⟨h.1.kept (grown_below (row := none) hb) (by simp) h.1.size (fun k hk => by cases hk), h.2.later hb⟩
theorem DcI.app {B : Nat} {w0 w w1 : World} {g : Nat} {v u u1 : Value} {l l1 : List ByteArray} (h : DcI B w0 g v u l w) (ho : OS B w0 w1 u1 l1) (hg : w.grownBy w1 u.ownBlock) : DcI B w0 g v u1 l1 w1 :=
  ⟨h.1.kept hg (own_neS h.1 h.2.1) h.1.size (fun k hk => (h.2.1.lt k hk).1), ho⟩
def DcR (B : Nat) (w0 : World) (g : Nat) (v u i : Value) (wr : World) : Prop := ∃ (m : Nat) (l : List ByteArray), m ≤ 4 ∧ l.length = m ∧ i = .int .i64 m ∧ Hid (DcI B w0 g v u l wr)
/-- what l12Draw answers -/
def DcP (B : Nat) (w0 : World) (g : Nat) (v : Value) (e : Ending) (w' : World) : Prop := ∃ (u : Value) (l : List ByteArray) (x : Int), e = .returned (.tuple #[u, .int .i64 x]) ∧ l.length ≤ 4 ∧ DcI B w0 g v u l w'

set_option maxRecDepth 100000 in
set_option maxHeartbeats 1000000 in
theorem l12Draw_in (B : Nat) (w0 w : World) (g : Nat) (v : Value) (hc : Cur B w0 w g v) :
    Calls Tryd.prog 56 #[.pointer (some ⟨g, 0, none⟩)] w (DcP B w0 g v) := by
  have CP := pickI_lit B w0 w g v 4 dcaL dcaC hc rfl (by omega) (by omega) (dca_at w)
  clear hc
  go_enter Tryd.func56, Tryd.ntmps56
  go_wp2_with fail
  refine CP.out.mono ?_
  rintro e w1 ⟨x, hx, rfl, hc1, hg1⟩
  have CP2 := pickI_lit B w0 w1 g v 7 dcbL dcbC hc1 rfl (by omega) (by omega) (dcb_at w1)
  clear CP hg1 hc1 hx
  go_wp2_with fail
  refine CP2.out.mono ?_
  rintro e w2 ⟨y, hy, rfl, hc2, hg2⟩
  have hy4 : 0 ≤ y ∧ y ≤ 4 := by simp [dcbL] at hy; omega
  have HST : Hid (DcR B w0 g v (.slice (some ⟨w2.heap.size, 0, none⟩) 0 0) (.int .i64 0) (w2.alloc (.cells #[] 9))) :=
    ⟨0, [], by omega, rfl, rfl, hc2.kept (World.grownBy_alloc w2 _ none) (by simp) hc2.size (fun k hk => by cases hk), OS.upW hc2.2.1 hc2.size (OS.made w2)⟩
  clear CP2 hg2 hc2 hy
  go_wp2
  go_loopw [6, 7] (fun u i wr => DcR B w0 g v u i wr) (fun _ i _ => 4 - (intOf i).toNat)
  case atStart => exact HST.out
  case round =>
    obtain ⟨m, l, hm, hlm, rfl, HI⟩ := hrel
    clear HST
    by_cases hlt : (m : Int) < y
    · go_wp2_with fail
      refine (l01Text_in B w0 _ g v 2 2 rfl HI.out.1 (by omega)).mono ?_
      rintro e w3 ⟨t, ht, rfl, hc3, hg3⟩
      have HI3 : Hid (DcI B w0 g v u6 l w3) := HI.out.drawn hc3 hg3
      have hts : (⟨t.toArray⟩ : ByteArray).size ≤ 1048576 := by show t.toArray.size ≤ 1048576; simp; omega
      clear HI hc3 hg3
      generalize (⟨t.toArray⟩ : ByteArray) = T at *
      go_wp2_with fail
      refine (sCutDigest_any T x _ hts).mono ?_
      rintro e w4 ⟨rfl, hb4⟩
      generalize cutH T x = X at *
      have HI4 : Hid (DcI B w0 g v u6 l w4) := HI3.out.later hb4
      have HI5 : Hid (DcI B w0 g v u6 l (w4.alloc (.cells #[.string X] 9))) := HI4.out.later ((Below.refl _ _).alloc (Nat.le_refl _) _)
      clear HI3 hb4
      have HLM : Hid (l.length = m) := hlm
      clear hlm
      go_wp2_with (at_builtin; refine wp_txtL rfl _ _ rfl B w0 _ l X rfl HI5.out.2 w4.heap.size rfl ?c1 ?c2 ?_)
      case c1 => exact one_text _ _ _
      case c2 => rw [HLM.out]; omega
      intro g5 cap5 w5 hos5 hg5 _
      have HK : Hid (DcI B w0 g v (.slice (some ⟨g5, 0, none⟩) (l.length + 1) cap5) (l ++ [X]) w5) := HI5.out.app hos5 hg5
      clear hos5 hg5 HI4 HI5
      go_wp2
      go_roundw
      case rel => exact ⟨m + 1, l ++ [X], by omega, by simp; exact HLM.out, by go_num, HK⟩
      case measure => simp [intOf]; omega
    · go_wp2_with fail
      refine (l01Once_in B w0 _ g v 12 12 rfl HI.out.1 (by omega) (by omega)).mono ?_
      rintro e w3 ⟨b, rfl, hc3, hg3⟩
      have HI3 : Hid (DcI B w0 g v u6 l w3) := HI.out.drawn hc3 hg3
      clear HI hg3
      cases b with
      | false =>
        have HF : Hid (DcP B w0 g v (.returned (.tuple #[u6, .int .i64 x])) w3) := ⟨u6, l, x, rfl, by omega, HI3.out⟩
        clear HI3 hc3 hlm
        go_wp2
        go_ret2
        exact HF.out
      | true =>
        have CP3 := pickI_lit B w0 w3 g v 3 dccL dccC hc3 rfl (by omega) (by omega) (dcc_at w3)
        clear hc3
        go_wp2_with fail
        refine CP3.out.mono ?_
        rintro e w4 ⟨z, hz, rfl, hc4, hg4⟩
        have HF : Hid (DcP B w0 g v (.returned (.tuple #[u6, .int .i64 z])) w4) := ⟨u6, l, z, rfl, by omega, HI3.out.drawn hc4 hg4⟩
        clear HI3 hc4 hg4 CP3 hlm hz
        go_wp2
        go_ret2
        exact HF.out

/-- drawn roots, a place and a width -/
theorem DrawCombineSides_any (w : World) (v : Value) (hc : Code w.heap.size w v) :
    Calls Tryd.prog 18 #[v] w fun e w' => ∃ (u : Value) (l : List ByteArray) (s x : Int), e = .returned (.tuple #[u, .int .i64 s, .int .i64 x]) ∧ l.length ≤ 4 ∧ OS w.heap.size w w' u l := by
  have HC : Hid (Code w.heap.size w v) := hc
  clear hc
  go_enter Tryd.func18, Tryd.ntmps18
  go_wp2_with fail
  refine (l01New_in w v HC.out).mono ?_
  rintro e w1 ⟨g, rfl, hc1, hb1⟩
  have CP := pickI_lit w.heap.size w w1 g v 6 dcdL dcdC hc1 rfl (by omega) (by omega) (dcd_at w1)
  clear hc1
  go_wp2_with fail
  refine CP.out.mono ?_
  rintro e w2 ⟨y, hy, rfl, hc2, hg2⟩
  clear CP hg2
  go_wp2_with fail
  refine (l12Draw_in w.heap.size w _ g v hc2).mono ?_
  rintro e w3 ⟨u, l, x, rfl, hl, hI⟩
  have HF : Hid (OS w.heap.size w w3 u l) := hI.2
  clear hc2 hI hy
  go_wp2
  go_ret3
  exact ⟨u, l, y, x, rfl, hl, HF.out⟩

end Go.Proofs.YtmcejkfknbjjkaaDoor
/-
  Two rows of texts held against one another by the laws.
-/
namespace Go.Proofs.YtmcejkfknbjjkaaDoor
open Go.RowKit Go.BigFrame Go.Sort
set_option linter.unusedVariables false
set_option linter.unusedSimpArgs false

set_option maxRecDepth 100000 in
set_option maxHeartbeats 400000 in
theorem sameTexts_yes (va vb : Value) (ga oa gb ob : Nat) (l : List ByteArray) (w : World) (ha : SS w va ga oa l) (hb : SS w vb gb ob l) :
    Calls Tryd.prog 26 #[va, vb] w fun e w' => e = .returned (.bool true) ∧ ∃ q, w' = w.drewN q := by
  obtain ⟨a, ca, rfl, hl, hA, hcA⟩ := ha
  obtain ⟨b, cb, rfl, _, hB, hcB⟩ := hb
  obtain ⟨n, hn⟩ : ∃ n, l.length = n := ⟨_, rfl⟩
  rw [hn] at hl ⊢
  have HA : Hid (0 < n → a = some ⟨ga, oa, none⟩) := by rw [← hn]; exact hA
  have HB : Hid (0 < n → b = some ⟨gb, ob, none⟩) := by rw [← hn]; exact hB
  clear hA hB
  go_enter Tryd.func26, Tryd.ntmps26
  go_wp2
  go_loopw [5] (fun i wr => EqS n w i wr) (fun i _ => n - (intOf i).toNat)
  case atStart => exact ⟨0, 0, by omega, rfl, rfl⟩
  case round =>
    obtain ⟨m, q, hm, rfl, rfl⟩ := hrel
    by_cases hlt : m < n
    · have ea := HA.out (by omega)
      have eb := HB.out (by omega)
      subst ea
      subst eb
      have c1 := hcA m (by omega)
      have c2 := hcB m (by omega)
      generalize l[m]'(by omega) = X at *
      have i1 : (m : Int) < (n : Int) := by omega
      have i2 : (0 : Int) ≤ (m : Int) := by omega
      clear hcA hcB HA HB
      go_wp2
      go_quiet (fail)
      go_wp2
      go_roundw
      case rel => exact ⟨m + 1, _, by omega, by go_num, rfl⟩
      case measure => simp [intOf]; omega
    · have hme : m = n := by omega
      subst hme
      clear hcA hcB HA HB
      go_wp2
      go_ret
      exact ⟨rfl, q, rfl⟩

end Go.Proofs.YtmcejkfknbjjkaaDoor
/-
  The walk of the law FnPartProofs: it answers true of every code.
-/
namespace Go.Proofs.YtmcejkfknbjjkaaDoor
open Go.RowKit Go.BigFrame Go.Sort
set_option linter.unusedVariables false
set_option linter.unusedSimpArgs false

/-- what stands while the law goes on: a list, a proof in its box, and rows of texts -/
def YyS (w0 W : World) (vl : Value) (gl : Nat) (L : List Le) (gp : Nat) (vb vs : Value) (gb gs : Nat) (B : List Le) (S : List ByteArray) (T : List (Value × Nat × List ByteArray)) : Prop :=
  Below w0.heap.size w0 W ∧ RS 2 lcs W vl gl 0 L ∧ PfM W gp vb vs ∧ RS 2 lcs W vb gb 0 B ∧ SS W vs gs 0 S ∧ ∀ q ∈ T, SS W q.1 q.2.1 0 q.2.2
theorem YyS.later {w0 W W' : World} {vl : Value} {gl : Nat} {L : List Le} {gp : Nat} {vb vs : Value} {gb gs : Nat} {B : List Le} {S : List ByteArray} {T : List (Value × Nat × List ByteArray)} (h : YyS w0 W vl gl L gp vb vs gb gs B S T) (hb : Below W.heap.size W W') : YyS w0 W' vl gl L gp vb vs gb gs B S T :=
  ⟨h.1.trans (hb.mono h.1.size), h.2.1.later hb, h.2.2.1.later hb, h.2.2.2.1.later hb, h.2.2.2.2.1.below hb h.2.2.2.2.1.lt, fun q hq => (h.2.2.2.2.2 q hq).below hb (h.2.2.2.2.2 q hq).lt⟩
theorem YyS.add {w0 W : World} {vl : Value} {gl : Nat} {L : List Le} {gp : Nat} {vb vs : Value} {gb gs : Nat} {B : List Le} {S : List ByteArray} {T : List (Value × Nat × List ByteArray)} (h : YyS w0 W vl gl L gp vb vs gb gs B S T) (v : Value) (g : Nat) (l : List ByteArray) (hs : SS W v g 0 l) : YyS w0 W vl gl L gp vb vs gb gs B S ((v, g, l) :: T) :=
  ⟨h.1, h.2.1, h.2.2.1, h.2.2.2.1, h.2.2.2.2.1, fun q hq => by
    rcases List.mem_cons.1 hq with rfl | hq
    · exact hs
    · exact h.2.2.2.2.2 q hq⟩
theorem below_boxY (W : World) (R : Array Value) : Below W.heap.size W ((W.alloc (.cells #[.slice none 0 0, .slice none 0 0] 32)).setRow W.heap.size R) := below_setRow ((Below.refl _ _).alloc (Nat.le_refl _) _) (Nat.le_refl _)
/-- texts answered, and whether, read as a row -/
theorem CsP.ss {l : List ByteArray} {R : Bool} {w : World} {e : Ending} {w' : World} (h : CsP l R w e w') (hl : l.length ≤ 1000) : ∃ a c g, e = .returned (.tuple #[.slice a l.length c, .bool R]) ∧ SS w' (.slice a l.length c) g 0 l ∧ Below w.heap.size w w' := by
  obtain ⟨v, he, ho⟩ := h
  obtain ⟨g, hs⟩ := ho.ss (by omega)
  obtain ⟨a, c, rfl⟩ := ho.slice
  exact ⟨a, c, g, he, hs, ho.2.1⟩
theorem csL_le (l : List ByteArray) (s x : Int) : (csL l s x).length ≤ 2 := by
  unfold csL
  split
  · rw [sidW_len]
    unfold lgN
    split
    · omega
    · split <;> omega
  · simp

set_option maxRecDepth 100000 in
set_option maxHeartbeats 4000000 in
theorem partProofsLaw_any (a0 : Option Addr) (len0 cap0 : Nat) (w : World) (hl0 : len0 ≤ 1048576) (hc : Code w.heap.size w (.slice a0 len0 cap0)) (hK : TabK w) (hF : TabF w) :
    Calls Tryd.prog 3 #[.slice a0 len0 cap0] w fun e w' => e = .returned (.bool true) ∧ Below w.heap.size w w' := by
  have HC : Hid (∀ W, Below w.heap.size w W → Code W.heap.size W (.slice a0 len0 cap0)) := fun W hW => code_laterR hc hW
  have HT : Hid (∀ W, Below w.heap.size w W → Tb W) := fun W hW => Tb.later ⟨hK, hF⟩ hW
  clear hc hK hF
  go_enter Tryd.func3, Tryd.ntmps3
  go_wp2_with fail
  refine (big_no a0 len0 cap0 _ hl0).mono ?_
  rintro e w0 ⟨rfl, rfl⟩
  go_wp2_with fail
  refine (DrawLeaves_any _ _ (HC.out _ (Below.refl _ _))).mono ?_
  rintro e w1 ⟨a1, c1, g1, L, rfl, ⟨hl8, hLk, _⟩, hr1, hg1, hb1⟩
  go_wp2_with fail
  refine (DrawName_any _ _ (HC.out _ hb1)).mono ?_
  rintro e w2 ⟨nm, ⟨hx, hx12⟩, rfl, hb2⟩
  have b2 := hb1.trans (hb2.mono hb1.size)
  go_wp2_with fail
  refine (DrawPlaces_any _ _ (HC.out _ b2)).mono ?_
  rintro e w3 ⟨pv, rfl, ⟨pg, pc, xs, rfl, hx12', hxs, hpg, hpl, hcells⟩, hb3⟩
  have b3 := b2.trans (hb3.mono b2.size)
  have z0 := hcells 0 (by omega)
  have hp0 := hxs (xs[0]'(by omega)) (List.getElem_mem _)
  generalize xs[0]'(by omega) = p0 at *
  clear hcells hxs hx12'
  have em : (p0 : Int).tmod 3 = ((p0 % 3 : Nat) : Int) := by rw [Int.tmod_eq_emod_of_nonneg (by omega)]; omega
  have hm3 : p0 % 3 < 3 := Nat.mod_lt _ (by omega)
  obtain ⟨d, hd⟩ : ∃ d, p0 % 3 = d := ⟨_, rfl⟩
  rw [hd] at em hm3
  have hd2 : d ≤ 2 := by omega
  have h32 : (1 : Int) ≤ 16 ∧ (16 : Int) ≤ 32 := by omega
  obtain ⟨N, hN⟩ : ∃ N, idxN nm = N := ⟨_, rfl⟩
  have hN256 : N ≤ 255 := by rw [← hN]; exact idx_255 nm
  have HSO : Hid (∀ W, Below w0.heap.size w0 W → Calls Tryd.prog 13 #[.string nm, .int .i64 (d : Int)] W fun e w' => e = .returned (.int .i64 ((N / 2 ^ (8 - d) : Nat) : Int)) ∧ Below W.heap.size W w') := fun W hW => by
    have h := ShardOf_any nm (d : Int) W (by omega) (HT.out _ hW)
    rw [shN_div nm d hd2, hN] at h
    exact h
  have hPk : LV.LOk (TR.und idxL (8 - d) (N / 2 ^ (8 - d)) L) := ok_und hLk _ _
  have HSL : Hid (∀ W, RS 2 lcs W (.slice a1 L.length c1) g1 0 L → Calls Tryd.prog 15 #[.slice a1 L.length c1, .int .i64 (d : Int), .int .i64 ((N / 2 ^ (8 - d) : Nat) : Int)] W fun e w' => ∃ a c g, e = .returned (.slice a (TR.und idxL (8 - d) (N / 2 ^ (8 - d)) L).length c) ∧ RS 2 lcs w' (.slice a (TR.und idxL (8 - d) (N / 2 ^ (8 - d)) L).length c) g 0 (TR.und idxL (8 - d) (N / 2 ^ (8 - d)) L) ∧ Below W.heap.size W w') := fun W hr => (sShardLeaves_any _ g1 0 L (d : Int) ((N / 2 ^ (8 - d) : Nat) : Int) W hr (small_okR hLk)).mono fun e w' ⟨u, he, ho⟩ => by
    rw [shL_und L d _ hd2] at ho
    obtain ⟨g, hrw, _, _⟩ := ho.rw (Nat.le_trans (und_len _ _ L) (by omega))
    obtain ⟨a, c, rfl⟩ := ho.shape
    exact ⟨a, c, g, he, hrw.1, ho.2.1⟩
  have HPV : Hid (∀ W a c g, RS 2 lcs W (.slice a (TR.und idxL (8 - d) (N / 2 ^ (8 - d)) L).length c) g 0 (TR.und idxL (8 - d) (N / 2 ^ (8 - d)) L) → Calls Tryd.prog 14 #[.slice a (TR.und idxL (8 - d) (N / 2 ^ (8 - d)) L).length c, .string nm, .int .i64 (d : Int), .int .i64 16] W fun e w' => ∃ ab cb aS cS gb gs, e = .returned (.tuple #[.agg #[.slice ab (bkL (TR.und idxL (8 - d) (N / 2 ^ (8 - d)) L) N).length cb, .slice aS (sdL 16 N (TR.und idxL (8 - d) (N / 2 ^ (8 - d)) L) (8 - d)).length cS], .bool true]) ∧ RS 2 lcs w' (.slice ab (bkL (TR.und idxL (8 - d) (N / 2 ^ (8 - d)) L) N).length cb) gb 0 (bkL (TR.und idxL (8 - d) (N / 2 ^ (8 - d)) L) N) ∧ SS w' (.slice aS (sdL 16 N (TR.und idxL (8 - d) (N / 2 ^ (8 - d)) L) (8 - d)).length cS) gs 0 (sdL 16 N (TR.und idxL (8 - d) (N / 2 ^ (8 - d)) L) (8 - d)) ∧ Below W.heap.size W w') := fun W a c g hr => by
    have h := sProveLeaf_lvl _ g 0 _ nm (d : Int) 16 W hr (small_okR hPk) (LV.leavesB_iff.2 hPk) hx (by omega) h32 (by omega)
    rw [hN, sd_lvl h32 hPk N hN256 d (by omega)] at h
    exact h.mono fun e w' ⟨ab, cb, aS, cS, gb, gs, h1, h2, h3, _, _, h6⟩ => ⟨ab, cb, aS, cS, gb, gs, h1, h2, h3, h6⟩
  have HRT : Hid (∀ W, RS 2 lcs W (.slice a1 L.length c1) g1 0 L → Calls Tryd.prog 17 #[.slice a1 L.length c1, .int .i64 (d : Int)] W fun e w' => ∃ a c g, e = .returned (.slice a (rtL 16 L (8 - d) d).length c) ∧ SS w' (.slice a (rtL 16 L (8 - d) d).length c) g 0 (rtL 16 L (8 - d) d) ∧ Below W.heap.size W w') := fun W hr => (rootsOf_any _ g1 0 L (d : Int) W hr (small_okR hLk) (by omega)).mono fun e w' ⟨u, he, ho⟩ => by
    rw [rsL_rt hLk d hd2] at ho
    obtain ⟨g, hs⟩ := ho.ss (by rw [rtL_len]; exact Nat.le_trans (Nat.pow_le_pow_right (by omega) hd2) (by omega))
    obtain ⟨a, c, rfl⟩ := ho.slice
    exact ⟨a, c, g, he, hs, ho.2.1⟩
  have hcs := cs_sides h32 hLk N d hN256 hd2
  have HCS : Hid (∀ W a c g, Below w0.heap.size w0 W → SS W (.slice a (rtL 16 L (8 - d) d).length c) g 0 (rtL 16 L (8 - d) d) → Calls Tryd.prog 16 #[.slice a (rtL 16 L (8 - d) d).length c, .int .i64 ((N / 2 ^ (8 - d) : Nat) : Int), .int .i64 16] W fun e w' => ∃ a c g, e = .returned (.tuple #[.slice a d c, .bool true]) ∧ SS w' (.slice a d c) g 0 (TR.sides idxL (hnB 16) (bhB 16) N L (8 - d) d) ∧ Below W.heap.size W w') := fun W a c g hW hs => by
    have h := CombineSides_any _ g 0 _ ((N / 2 ^ (8 - d) : Nat) : Int) 16 W hs (HT.out _ hW)
    rw [hcs.1, hcs.2] at h
    refine h.mono fun e w' h => ?_
    obtain ⟨a, c, g, h1, h2, h3⟩ := h.ss (by rw [TR.sides_len]; omega)
    rw [TR.sides_len] at h1 h2
    exact ⟨a, c, g, h1, h2, h3⟩
  have HCI : Hid (∀ W v g l s x, Below w0.heap.size w0 W → SS W v g 0 l → Calls Tryd.prog 16 #[v, .int .i64 s, .int .i64 x] W fun e w' => ∃ a c g, e = .returned (.tuple #[.slice a (csL l s x).length c, .bool (csB l s x)]) ∧ SS w' (.slice a (csL l s x).length c) g 0 (csL l s x) ∧ Below W.heap.size W w') := fun W v g l s x hW hs => (CombineSides_any v g 0 l s x W hs (HT.out _ hW)).mono fun e w' h => h.ss (by have := csL_le l s x; omega)
  have HCJ : Hid (∀ W v g l s x, SS W v g 0 l → Calls Tryd.prog 19 #[v, .int .i64 s, .int .i64 x] W fun e w' => ∃ a c g, e = .returned (.tuple #[.slice a (csL l s x).length c, .bool (csB l s x)]) ∧ SS w' (.slice a (csL l s x).length c) g 0 (csL l s x) ∧ Below W.heap.size W w') := fun W v g l s x hs => (sCombineSides_any v g 0 l s x W hs).mono fun e w' h => h.ss (by have := csL_le l s x; omega)
  have HRI : Hid (∀ W v g l x, Below w0.heap.size w0 W → SS W v g 0 l → Calls Tryd.prog 20 #[v, .int .i64 x] W fun e w' => e = .returned (.tuple #[.string (crB l x), .bool (rtB l x)]) ∧ Below W.heap.size W w') := fun W v g l x hW hs => CombineRoots_any v g 0 l x W hs (HT.out _ hW)
  have HRJ : Hid (∀ W v g l x, SS W v g 0 l → Calls Tryd.prog 21 #[v, .int .i64 x] W fun e w' => e = .returned (.tuple #[.string (crB l x), .bool (rtB l x)]) ∧ Below W.heap.size W w') := fun W v g l x hs => sCombineRoots_any v g 0 l x W hs
  have HPH : Hid (∀ W vb vs gb gs, RS 2 lcs W vb gb 0 (bkL (TR.und idxL (8 - d) (N / 2 ^ (8 - d)) L) N) → SS W vs gs 0 (sdL 16 N (TR.und idxL (8 - d) (N / 2 ^ (8 - d)) L) (8 - d)) → Calls Tryd.prog 23 #[.string nm, .agg #[vb, vs], .int .i64 16] W fun e w' => e = .returned (.string (trB 16 (8 - d) (N / 2 ^ (8 - d)) L)) ∧ Below W.heap.size W w') := fun W vb vs gb gs hr hs => by
    have h := sProofHash_any nm vb vs gb 0 gs 0 _ _ 16 W (by omega) hr (small_okR (ok_bk hPk _)) hs
    have e := ph_lvl hx h32 hPk (8 - d) (by omega)
    rw [hN, tr_part] at e
    rw [e] at h
    exact h
  have HIX : Hid (∀ W, Calls Tryd.prog 24 #[.string nm] W fun e w' => e = .returned (.int .i64 (N : Int)) ∧ Below W.heap.size W w') := fun W => by
    have h := sIndexOf_any nm W (by omega)
    change Calls Tryd.prog 24 _ _ (fun e w' => e = .returned (.int .i64 (idxN nm : Int)) ∧ Below _ _ w') at h
    rw [hN] at h
    exact h
  have HFU : Hid (∀ W a c g, SS W (.slice a d c) g 0 (TR.sides idxL (hnB 16) (bhB 16) N L (8 - d) d) → Calls Tryd.prog 22 #[.string (trB 16 (8 - d) (N / 2 ^ (8 - d)) L), .int .i64 (N : Int), .int .i64 (d : Int), .slice a d c, .int .i64 16] W fun e w' => e = .returned (.string (trB 16 8 0 L)) ∧ Below W.heap.size W w') := fun W a c g hs => by
    have h := sFoldUp_any (trB 16 (8 - d) (N / 2 ^ (8 - d)) L) (N : Int) (d : Int) _ g 0 _ 16 W hs
    rw [fu_part N d hN256 hd2] at h
    exact h
  have HSR : Hid (∀ W, RS 2 lcs W (.slice a1 L.length c1) g1 0 L → Calls Tryd.prog 25 #[.slice a1 L.length c1, .int .i64 16] W fun e w' => e = .returned (.string (trB 16 8 0 L)) ∧ Below W.heap.size W w') := fun W hr => by
    have h := sRootOf_any _ g1 0 L 16 W hr (small_okR hLk)
    rw [nh_root h32 hLk] at h
    exact h
  have HST : Hid (∀ W va vb ga gb l, SS W va ga 0 l → SS W vb gb 0 l → Calls Tryd.prog 26 #[va, vb] W fun e w' => e = .returned (.bool true) ∧ Below W.heap.size W w') := fun W va vb ga gb l h1 h2 => (sameTexts_yes va vb ga 0 gb 0 l W h1 h2).mono fun e w' ⟨he, q, hw⟩ => ⟨he, by rw [hw]; exact below_drn (Below.refl _ _) q⟩
  have HR3 : Hid (RS 2 lcs w3 (.slice a1 L.length c1) g1 0 L ∧ Below w0.heap.size w0 w3) := ⟨((hr1.later hb2).later hb3).1, b3⟩
  clear hr1 hb1 hb2 hb3 b2 b3 hLk hd hg1 hpg hpl hPk hcs hN hx hl8 HT hN256
  generalize bkL (TR.und idxL (8 - d) (N / 2 ^ (8 - d)) L) N = B at *
  generalize sdL 16 N (TR.und idxL (8 - d) (N / 2 ^ (8 - d)) L) (8 - d) = S at *
  generalize TR.und idxL (8 - d) (N / 2 ^ (8 - d)) L = P at *
  generalize TR.sides idxL (hnB 16) (bhB 16) N L (8 - d) d = Q at *
  generalize trB 16 (8 - d) (N / 2 ^ (8 - d)) L = R0 at *
  generalize trB 16 8 0 L = R8 at *
  generalize rtL 16 L (8 - d) d = RT at *
  generalize N / 2 ^ (8 - d) = sh at *
  go_wp2_with fail
  refine (HSO.out _ HR3.out.2).mono ?_
  rintro e w4 ⟨rfl, hb4⟩
  have H4 : Hid (RS 2 lcs w4 (.slice a1 L.length c1) g1 0 L ∧ Below w0.heap.size w0 w4) := ⟨HR3.out.1.later hb4, HR3.out.2.trans (hb4.mono HR3.out.2.size)⟩
  clear hb4 HR3 z0 em hp0 HSO
  go_wp2_with fail
  refine (HSL.out _ H4.out.1).mono ?_
  rintro e w5 ⟨a5, c5, g5, rfl, hr5, hb5⟩
  have H5 : Hid (RS 2 lcs w5 (.slice a1 L.length c1) g1 0 L ∧ Below w0.heap.size w0 w5) := ⟨H4.out.1.later hb5, H4.out.2.trans (hb5.mono H4.out.2.size)⟩
  clear hb5 H4 HSL
  go_wp2_with fail
  refine (HPV.out _ _ _ g5 hr5).mono ?_
  rintro e w6 ⟨ab, cb, aS, cS, gb, gs, rfl, hrb, hrs, hb6⟩
  have hpn := PfM.new w6 (.slice none 0 0) (.slice none 0 0)
  have H6 : Hid (RS 2 lcs w6 (.slice a1 L.length c1) g1 0 L ∧ Below w0.heap.size w0 w6 ∧ RS 2 lcs w6 (.slice ab B.length cb) gb 0 B ∧ SS w6 (.slice aS S.length cS) gs 0 S) := ⟨H5.out.1.later hb6, H5.out.2.trans (hb6.mono H5.out.2.size), hrb, hrs⟩
  clear hrb hrs hb6 H5 HPV hr5
  go_wp2_with (first | (refine wp_storePf rfl _ _ rfl w6.heap.size _ _ (.slice ab B.length cb) (.slice aS S.length cS) hpn rfl rfl rfl rfl ?_; intro hfin))
  have H7 : Hid (YyS w0 ((w6.alloc (.cells #[.slice none 0 0, .slice none 0 0] 32)).setRow w6.heap.size #[.slice ab B.length cb, .slice aS S.length cS]) (.slice a1 L.length c1) g1 L w6.heap.size (.slice ab B.length cb) (.slice aS S.length cS) gb gs B S []) := by
    have hb := below_boxY w6 #[.slice ab B.length cb, .slice aS S.length cS]
    exact ⟨H6.out.2.1.trans (hb.mono H6.out.2.1.size), H6.out.1.later hb, hfin, H6.out.2.2.1.later hb, H6.out.2.2.2.below hb H6.out.2.2.2.lt, fun q hq => absurd hq (by simp)⟩
  clear H6 hfin hpn
  generalize hgp : w6.heap.size = gp at *
  generalize (w6.alloc (.cells #[.slice none 0 0, .slice none 0 0] 32)).setRow gp #[.slice ab B.length cb, .slice aS S.length cS] = wA at *
  clear hgp
  obtain ⟨nb, hnb⟩ : ∃ n, B.length = n := ⟨_, rfl⟩
  obtain ⟨ns, hns⟩ : ∃ n, S.length = n := ⟨_, rfl⟩
  rw [hnb, hns] at H7 ⊢
  clear hnb hns
  refine (HRT.out _ H7.out.2.1).mono ?_
  rintro e w8 ⟨a8, c8, g8, rfl, hs8, hb8⟩
  have H8 : Hid (YyS w0 w8 (.slice a1 L.length c1) g1 L gp (.slice ab nb cb) (.slice aS ns cS) gb gs B S []) := H7.out.later hb8
  clear hb8 H7 HRT
  go_wp2_with fail
  refine (HCS.out _ _ _ g8 H8.out.1 hs8).mono ?_
  rintro e w9 ⟨a9, c9, g9, rfl, hs9, hb9⟩
  have H9 : Hid (YyS w0 w9 (.slice a1 L.length c1) g1 L gp (.slice ab nb cb) (.slice aS ns cS) gb gs B S [(.slice a9 d c9, g9, Q)]) := (H8.out.later hb9).add _ _ _ hs9
  clear hb9 hs9 H8 HCS hs8
  go_wp2_with fail
  refine (DrawCombineSides_any _ _ (HC.out _ H9.out.1)).mono ?_
  rintro e w10 ⟨u10, l, s, x, rfl, hl4, ho10⟩
  obtain ⟨g10, hs10⟩ := ho10.ss (by omega)
  have H10 : Hid (YyS w0 w10 (.slice a1 L.length c1) g1 L gp (.slice ab nb cb) (.slice aS ns cS) gb gs B S [(u10, g10, l), (.slice a9 d c9, g9, Q)]) := (H9.out.later ho10.2.1).add _ _ _ hs10
  clear ho10 hs10 H9 HC
  go_wp2_with fail
  refine (HCI.out _ _ g10 l s x H10.out.1 (H10.out.2.2.2.2.2 (u10, g10, l) (by simp))).mono ?_
  rintro e w11 ⟨a11, c11, g11, rfl, hs11, hb11⟩
  have H11 : Hid (YyS w0 w11 (.slice a1 L.length c1) g1 L gp (.slice ab nb cb) (.slice aS ns cS) gb gs B S [(.slice a11 (csL l s x).length c11, g11, csL l s x), (u10, g10, l), (.slice a9 d c9, g9, Q)]) := (H10.out.later hb11).add _ _ _ hs11
  clear hb11 hs11 H10 HCI
  go_wp2_with fail
  refine (HCJ.out _ _ g10 l s x (H11.out.2.2.2.2.2 (u10, g10, l) (by simp))).mono ?_
  rintro e w12 ⟨a12, c12, g12, rfl, hs12, hb12⟩
  have H12 : Hid (YyS w0 w12 (.slice a1 L.length c1) g1 L gp (.slice ab nb cb) (.slice aS ns cS) gb gs B S [(.slice a12 (csL l s x).length c12, g12, csL l s x), (.slice a11 (csL l s x).length c11, g11, csL l s x), (u10, g10, l), (.slice a9 d c9, g9, Q)]) := (H11.out.later hb12).add _ _ _ hs12
  clear hb12 hs12 H11 HCJ
  obtain ⟨nq, hnq⟩ : ∃ n, (csL l s x).length = n := ⟨_, rfl⟩
  rw [hnq] at H12 ⊢
  generalize csL l s x = M at *
  obtain ⟨T, hT⟩ : ∃ T, [((.slice a12 nq c12 : Value), g12, M), (.slice a11 nq c11, g11, M), (u10, g10, l), (.slice a9 d c9, g9, Q)] = T := ⟨_, rfl⟩
  rw [hT] at H12
  have HM : Hid ((((.slice a12 nq c12 : Value), g12, M) ∈ T ∧ ((.slice a11 nq c11 : Value), g11, M) ∈ T) ∧ (u10, g10, l) ∈ T ∧ ((.slice a9 d c9 : Value), g9, Q) ∈ T) := by rw [← hT]; show (_ ∧ _) ∧ _ ∧ _; simp
  clear hT hnq
  go_wp2_with fail
  refine (HRI.out _ _ g10 l x H12.out.1 (H12.out.2.2.2.2.2 (u10, g10, l) HM.out.2.1)).mono ?_
  rintro e w13 ⟨rfl, hb13⟩
  have H13 : Hid (YyS w0 w13 (.slice a1 L.length c1) g1 L gp (.slice ab nb cb) (.slice aS ns cS) gb gs B S T) := H12.out.later hb13
  clear hb13 H12 HRI
  go_wp2_with fail
  refine (HRJ.out _ _ g10 l x (H13.out.2.2.2.2.2 (u10, g10, l) HM.out.2.1)).mono ?_
  rintro e w14 ⟨rfl, hb14⟩
  have H14 : Hid (YyS w0 w14 (.slice a1 L.length c1) g1 L gp (.slice ab nb cb) (.slice aS ns cS) gb gs B S T) := H13.out.later hb14
  clear hb14 H13 HRJ
  generalize crB l x = CR at *
  generalize rtB l x = RB at *
  generalize csB l s x = CB at *
  clear hl4
  have d0 := H14.out.2.2.1.c0
  have d1 := H14.out.2.2.1.c1
  go_wp2_with fail
  refine (HPH.out _ _ _ gb gs H14.out.2.2.2.1 H14.out.2.2.2.2.1).mono ?_
  rintro e w15 ⟨rfl, hb15⟩
  have H15 : Hid (YyS w0 w15 (.slice a1 L.length c1) g1 L gp (.slice ab nb cb) (.slice aS ns cS) gb gs B S T) := H14.out.later hb15
  clear hb15 H14 HPH d0 d1
  go_wp2_with fail
  refine (HIX.out _).mono ?_
  rintro e w16 ⟨rfl, hb16⟩
  have H16 : Hid (YyS w0 w16 (.slice a1 L.length c1) g1 L gp (.slice ab nb cb) (.slice aS ns cS) gb gs B S T) := H15.out.later hb16
  clear hb16 H15 HIX
  go_wp2_with fail
  refine (HFU.out _ _ _ g9 (H16.out.2.2.2.2.2 _ HM.out.2.2)).mono ?_
  rintro e w17 ⟨rfl, hb17⟩
  have H17 : Hid (YyS w0 w17 (.slice a1 L.length c1) g1 L gp (.slice ab nb cb) (.slice aS ns cS) gb gs B S T) := H16.out.later hb17
  clear hb17 H16 HFU
  go_wp2_with fail
  refine (HSR.out _ H17.out.2.1).mono ?_
  rintro e w18 ⟨rfl, hb18⟩
  have H18 : Hid (YyS w0 w18 (.slice a1 L.length c1) g1 L gp (.slice ab nb cb) (.slice aS ns cS) gb gs B S T) := H17.out.later hb18
  clear hb18 H17 HSR
  have q1 : (R8.toList == R8.toList) = true := by simp
  have q2 : (CB == CB) = true := by simp
  have q3 : (RB == RB) = true := by simp
  have q4 : (CR.toList == CR.toList) = true := by simp
  go_wp2_with fail
  refine (HST.out _ _ _ g11 g12 M (H18.out.2.2.2.2.2 _ HM.out.1.2) (H18.out.2.2.2.2.2 _ HM.out.1.1)).mono ?_
  rintro e w19 ⟨rfl, hb19⟩
  have b19 := H18.out.1.trans (hb19.mono H18.out.1.size)
  clear hb19 H18 HST HM
  go_wp2
  go_ret
  exact ⟨rfl, b19⟩

end Go.Proofs.YtmcejkfknbjjkaaDoor
