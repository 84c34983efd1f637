/-
  Texts laid together: Dn, Dv, Places, Lrt, Lpr.
-/
import Derived.Test.YtfiapodjiifmaaaGreatDoorPkP3
import Derived.Test.YtfiapodjiifmaaaGreatDoorPkP1
import Derived.Test.YtfiapodjiifmaaaGreatDoorPkP22
import Derived.Test.YtfiapodjiifmaaaGreatDoorPkP21
import Derived.Deep.AppendLies
import Derived.Test.YtfiapodjiifmaaaGreatDoorPkP19
import Derived.Lib.QuietBelow
import Derived.Test.YtfiapodjiifmaaaGreatDoorPkP6
/-
  What the draws of names, values and places of bits give.
-/
namespace Go.Proofs.YtfiapodjiifmaaaGreatDoor
open Go.RowKit
set_option linter.unusedVariables false

theorem l01Pick_in (B : Nat) (w0 w : World) (g : Nat) (v : Value) (gl cap : Nat) (zs : List ByteArray) (hc : Cur B w0 w g v) (h0 : 0 < zs.length) (h1 : zs.length ≤ 1000000) (hne : gl ≠ g) (hgl : gl < w.heap.size)
    (hcell : Hid (∀ j, (h : j < zs.length) → w.cell? ⟨gl, j, none⟩ = some (.string zs[j]))) :
    Calls Tryz.prog 48 #[.pointer (some ⟨g, 0, none⟩), .slice (some ⟨gl, 0, none⟩) zs.length cap] w fun e w' => ∃ y : ByteArray, y ∈ zs ∧ e = .returned (.string y) ∧ Cur B w0 w' g v ∧ w.grownBy w' (some g) := by
  go_enter Tryz.func48, Tryz.ntmps48
  go_wp2_with fail
  refine (l01Below_nat B w0 _ g v zs.length hc h0 (by omega)).mono ?_
  rintro e w1 ⟨j, hj, rfl, hc1, hg1⟩
  have hcl : w1.cell? ⟨gl, j, none⟩ = some (.string zs[j]) := hg1.cell (hcell.out j hj) (by simpa using hne)
  go_wp2
  go_ret
  exact ⟨zs[j], List.getElem_mem _, rfl, hc1, hg1⟩

/-- one of a list of texts that is written out -/
theorem pick_lit (B : Nat) (w0 w : World) (g : Nat) (v : Value) (n : Nat) (zs : List ByteArray) (cs : Array Value) (hc1 : Cur B w0 w g v) (hn : zs.length = n) (h0 : 0 < n) (h1 : n ≤ 1000000)
    (hcell : Hid (∀ j, (h : j < zs.length) → (w.alloc (.cells cs 9)).cell? ⟨w.heap.size, j, none⟩ = some (.string zs[j]))) :
    Hid (Calls Tryz.prog 48 #[.pointer (some ⟨g, 0, none⟩), .slice (some ⟨w.heap.size, 0, none⟩) n n] (w.alloc (.cells cs 9)) fun e w' => ∃ y : ByteArray, y ∈ zs ∧ e = .returned (.string y) ∧ Cur B w0 w' g v ∧ w.grownBy w' (some g)) := by
  have hca : Cur B w0 (w.alloc (.cells cs 9)) g v := hc1.kept (World.grownBy_alloc w _ none) (by simp) hc1.size (fun k hk => by cases hk)
  have hga : w.grownBy (w.alloc (.cells cs 9)) (some g) := World.grownBy_alloc w _ (some g)
  have hgl := hc1.lt
  have cP := l01Pick_in B w0 (w.alloc (.cells cs 9)) g v w.heap.size n zs hca (by omega) (by omega) (by omega) (by simp) hcell
  rw [hn] at cP
  exact cP.mono fun e w' ⟨y, hy, he, hc, hg⟩ => ⟨y, hy, he, hc, hga.trans hg⟩

def nameL : List ByteArray := [⟨#[97, 110, 110]⟩, ⟨#[98, 111, 98]⟩, ⟨#[99, 97, 116]⟩, ⟨#[100, 97, 110]⟩, ⟨#[101, 118, 101]⟩, ⟨#[102, 97, 121]⟩, ⟨#[103, 117, 115]⟩, ⟨#[104, 97, 108]⟩, ⟨#[105, 118, 121]⟩, ⟨#[106, 111, 101, 64, 120, 46, 111, 114, 103]⟩, ⟨#[107, 105, 109]⟩, ⟨#[108, 101, 111]⟩]
def nameC : Array Value := #[.string ⟨#[97, 110, 110]⟩, .string ⟨#[98, 111, 98]⟩, .string ⟨#[99, 97, 116]⟩, .string ⟨#[100, 97, 110]⟩, .string ⟨#[101, 118, 101]⟩, .string ⟨#[102, 97, 121]⟩, .string ⟨#[103, 117, 115]⟩, .string ⟨#[104, 97, 108]⟩, .string ⟨#[105, 118, 121]⟩, .string ⟨#[106, 111, 101, 64, 120, 46, 111, 114, 103]⟩, .string ⟨#[107, 105, 109]⟩, .string ⟨#[108, 101, 111]⟩]
theorem name_at (w : World) : Hid (∀ j, (h : j < nameL.length) → (w.alloc (.cells nameC 9)).cell? ⟨w.heap.size, j, none⟩ = some (.string nameL[j])) := by
  intro j hj
  rw [World.cell?_alloc_at _ _ _ _ rfl]
  have : j = 0 ∨ j = 1 ∨ j = 2 ∨ j = 3 ∨ j = 4 ∨ j = 5 ∨ j = 6 ∨ j = 7 ∨ j = 8 ∨ j = 9 ∨ j = 10 ∨ j = 11 := by simp [nameL] at hj; omega
  rcases this with rfl | rfl | rfl | rfl | rfl | rfl | rfl | rfl | rfl | rfl | rfl | rfl <;> rfl

theorem nameL_ok : ∀ y ∈ nameL, okB nameB y = true ∧ y.size ≤ 12 := by decide +kernel

theorem l04Name_in (B : Nat) (w0 w : World) (g : Nat) (v : Value) (hc : Cur B w0 w g v) :
    Calls Tryz.prog 19 #[.pointer (some ⟨g, 0, none⟩)] w fun e w' => ∃ y : ByteArray, y ∈ nameL ∧ e = .returned (.string y) ∧ Cur B w0 w' g v ∧ w.grownBy w' (some g) := by
  have CP := pick_lit B w0 w g v 12 nameL nameC hc rfl (by omega) (by omega) (name_at w)
  go_enter Tryz.func19, Tryz.ntmps19
  go_wp2_with fail
  refine CP.out.mono ?_
  rintro e w2 ⟨y, hy, rfl, hc2, hg2⟩
  go_wp2
  go_ret
  exact ⟨y, hy, rfl, hc2, hg2⟩

theorem DrawName_any (w : World) (v : Value) (hc : Code w.heap.size w v) :
    Calls Tryz.prog 6 #[v] w fun e w' => ∃ y : ByteArray, (okB nameB y = true ∧ y.size ≤ 12) ∧ e = .returned (.string y) ∧ Below w.heap.size w w' := by
  have HC : Hid (Code w.heap.size w v) := hc
  clear hc
  go_enter Tryz.func6, Tryz.ntmps6
  go_wp2_with fail
  refine (l01New_in w v HC.out).mono ?_
  rintro e w1 ⟨g, rfl, hc1, hb1⟩
  go_wp2_with fail
  refine (l04Name_in w.heap.size w _ g v hc1).mono ?_
  rintro e w2 ⟨y, hy, rfl, hc2, hg2⟩
  go_wp2
  go_ret
  exact ⟨y, nameL_ok y hy, rfl, hc2.2.1⟩

def nokL : List ByteArray := [⟨#[]⟩, ⟨#[97, 110, 110]⟩, ⟨#[106, 111, 101, 64, 120, 46, 111, 114, 103]⟩, ⟨#[65]⟩, ⟨#[116, 119, 101, 108, 118, 101, 116, 119, 101, 108, 118, 101]⟩, ⟨#[116, 104, 105, 114, 116, 101, 101, 110, 116, 104, 105, 114, 116]⟩, ⟨#[97, 32, 98]⟩, ⟨#[48]⟩, ⟨#[97, 0]⟩]
def nokC : Array Value := #[.string ⟨#[]⟩, .string ⟨#[97, 110, 110]⟩, .string ⟨#[106, 111, 101, 64, 120, 46, 111, 114, 103]⟩, .string ⟨#[65]⟩, .string ⟨#[116, 119, 101, 108, 118, 101, 116, 119, 101, 108, 118, 101]⟩, .string ⟨#[116, 104, 105, 114, 116, 101, 101, 110, 116, 104, 105, 114, 116]⟩, .string ⟨#[97, 32, 98]⟩, .string ⟨#[48]⟩, .string ⟨#[97, 0]⟩]
theorem nok_at (w : World) : Hid (∀ j, (h : j < nokL.length) → (w.alloc (.cells nokC 9)).cell? ⟨w.heap.size, j, none⟩ = some (.string nokL[j])) := by
  intro j hj
  rw [World.cell?_alloc_at _ _ _ _ rfl]
  have : j = 0 ∨ j = 1 ∨ j = 2 ∨ j = 3 ∨ j = 4 ∨ j = 5 ∨ j = 6 ∨ j = 7 ∨ j = 8 := by simp [nokL] at hj; omega
  rcases this with rfl | rfl | rfl | rfl | rfl | rfl | rfl | rfl | rfl <;> rfl

theorem nokL_ok : ∀ y ∈ nokL, y.size ≤ 13 := by decide +kernel

def vokL : List ByteArray := [⟨#[]⟩, ⟨#[107, 49]⟩, ⟨#[126]⟩, ⟨#[116, 119, 101, 108, 118, 101, 116, 119, 101, 108, 118, 101]⟩, ⟨#[116, 104, 105, 114, 116, 101, 101, 110, 116, 104, 105, 114, 116]⟩, ⟨#[97, 32, 98]⟩, ⟨#[127]⟩, ⟨#[65, 33]⟩]
def vokC : Array Value := #[.string ⟨#[]⟩, .string ⟨#[107, 49]⟩, .string ⟨#[126]⟩, .string ⟨#[116, 119, 101, 108, 118, 101, 116, 119, 101, 108, 118, 101]⟩, .string ⟨#[116, 104, 105, 114, 116, 101, 101, 110, 116, 104, 105, 114, 116]⟩, .string ⟨#[97, 32, 98]⟩, .string ⟨#[127]⟩, .string ⟨#[65, 33]⟩]
theorem vok_at (w : World) : Hid (∀ j, (h : j < vokL.length) → (w.alloc (.cells vokC 9)).cell? ⟨w.heap.size, j, none⟩ = some (.string vokL[j])) := by
  intro j hj
  rw [World.cell?_alloc_at _ _ _ _ rfl]
  have : j = 0 ∨ j = 1 ∨ j = 2 ∨ j = 3 ∨ j = 4 ∨ j = 5 ∨ j = 6 ∨ j = 7 := by simp [vokL] at hj; omega
  rcases this with rfl | rfl | rfl | rfl | rfl | rfl | rfl | rfl <;> rfl

theorem vokL_ok : ∀ y ∈ vokL, y.size ≤ 13 := by decide +kernel

/-- a number that fits -/
def fits (y : Int) : Prop := -9223372036854775808 ≤ y ∧ y ≤ 9223372036854775807
def plL (n : Nat) : List Int := [-1, (n : Int), (n : Int) + 1, 9223372036854775807, -9223372036854775808]
def plC (n : Nat) : Array Value := #[.int .i64 (-1), .int .i64 (n : Int), .int .i64 ((n : Int) + 1), .int .i64 9223372036854775807, .int .i64 (-9223372036854775808)]
theorem pl_at (n : Nat) (w : World) : Hid (∀ j, (h : j < (plL n).length) → (w.alloc (.cells (plC n) 3)).cell? ⟨w.heap.size, j, none⟩ = some (.int .i64 (plL n)[j])) := by
  intro j hj
  rw [World.cell?_alloc_at _ _ _ _ rfl]
  have : j = 0 ∨ j = 1 ∨ j = 2 ∨ j = 3 ∨ j = 4 := by simp [plL] at hj; omega
  rcases this with rfl | rfl | rfl | rfl | rfl <;> rfl
theorem plL_in (n : Nat) (hn : n ≤ 1000000) (y : Int) (h : y ∈ plL n) : fits y := by
  unfold fits
  simp [plL] at h
  omega

end Go.Proofs.YtfiapodjiifmaaaGreatDoor
/-
  Drawn leaves: values, and lists that are put together leaf by leaf.
-/
namespace Go.Proofs.YtfiapodjiifmaaaGreatDoor
open Go.RowKit Go.BigFrame Go.Sort
set_option linter.unusedVariables false
set_option linter.unusedSimpArgs false

def l9vL : List ByteArray := [⟨#[107, 49]⟩, ⟨#[107, 50]⟩, ⟨#[107, 51]⟩, ⟨#[107, 101, 121, 45, 102, 111, 117, 114]⟩, ⟨#[122]⟩]
def l9vC : Array Value := #[.string ⟨#[107, 49]⟩, .string ⟨#[107, 50]⟩, .string ⟨#[107, 51]⟩, .string ⟨#[107, 101, 121, 45, 102, 111, 117, 114]⟩, .string ⟨#[122]⟩]
theorem l9v_at (w : World) : Hid (∀ j, (h : j < l9vL.length) → (w.alloc (.cells l9vC 9)).cell? ⟨w.heap.size, j, none⟩ = some (.string l9vL[j])) := by
  intro j hj
  rw [World.cell?_alloc_at _ _ _ _ rfl]
  have : j = 0 ∨ j = 1 ∨ j = 2 ∨ j = 3 ∨ j = 4 := by simp [l9vL] at hj; omega
  rcases this with rfl | rfl | rfl | rfl | rfl <;> rfl
theorem l9v_ok : ∀ y ∈ l9vL, okB valB y = true ∧ y.size ≤ 12 := by decide +kernel

theorem l09Value_in (B : Nat) (w0 w : World) (g : Nat) (v : Value) (hc : Cur B w0 w g v) :
    Calls Tryz.prog 47 #[.pointer (some ⟨g, 0, none⟩)] w fun e w' => ∃ y : ByteArray, y ∈ l9vL ∧ e = .returned (.string y) ∧ Cur B w0 w' g v ∧ w.grownBy w' (some g) := by
  have CP := pick_lit B w0 w g v 5 l9vL l9vC hc rfl (by omega) (by omega) (l9v_at w)
  go_enter Tryz.func47, Tryz.ntmps47
  go_wp2_with fail
  refine CP.out.mono ?_
  rintro e w2 ⟨y, hy, rfl, hc2, hg2⟩
  go_wp2
  go_ret
  exact ⟨y, hy, rfl, hc2, hg2⟩

/-- a list under way beside a cursor -/
def DvI (B : Nat) (w0 w : World) (g : Nat) (v : Value) (a : Option Addr) (cap q : Nat) (L : List Le) (wr : World) : Prop :=
  Cur B w0 wr g v ∧ RW 2 lcs wr (.slice a L.length cap) q L ∧ B ≤ q ∧ (0 < L.length → q ≠ g) ∧ LV.LOk L ∧ (a = none → cap = 0) ∧ w.grownBy wr (some g)
def DvR (B : Nat) (w0 w : World) (g : Nat) (v : Value) (u i : Value) (wr : World) : Prop := ∃ (m : Nat) (a : Option Addr) (cap q : Nat) (L : List Le), m ≤ 8 ∧ i = .int .i64 m ∧ u = .slice a L.length cap ∧ L.length ≤ m ∧ Hid (DvI B w0 w g v a cap q L wr)
/-- what l09Draw answers -/
def DvP (B : Nat) (w0 w : World) (g : Nat) (v : Value) (e : Ending) (w' : World) : Prop := ∃ (a : Option Addr) (cap q : Nat) (L : List Le), e = .returned (.slice a L.length cap) ∧ L.length ≤ 8 ∧ DvI B w0 w g v a cap q L w'

set_option maxRecDepth 100000 in
set_option maxHeartbeats 2000000 in
theorem l09Draw_in (B : Nat) (w0 w : World) (g : Nat) (v : Value) (hc : Cur B w0 w g v) :
    Calls Tryz.prog 17 #[.pointer (some ⟨g, 0, none⟩)] w (DvP B w0 w g v) := by
  have hB := hc.size
  have hgl := hc.lt
  have HST : Hid (DvR B w0 w g v (.slice (some ⟨w.heap.size, 0, none⟩) 0 0) (.int .i64 0) (w.alloc (.cells #[] 53))) :=
    ⟨0, some ⟨w.heap.size, 0, none⟩, 0, w.heap.size, [], by omega, rfl, by simp, by simp, hc.kept (World.grownBy_alloc w _ none) (by simp) hB (fun k hk => by cases hk), ⟨⟨_, _, rfl, by simp, fun h => absurd h (by simp), fun j h => absurd h (by simp)⟩, fun j h => absurd h (by simp)⟩, hB, fun h => absurd h (by simp), ⟨by simp, fun f hf => absurd hf (by simp), List.Pairwise.nil⟩, fun e => (by cases e), World.grownBy_alloc w _ _⟩
  clear hc
  go_enter Tryz.func17, Tryz.ntmps17
  go_wp2
  go_loopw [3, 4] (fun u i wr => DvR B w0 w g v u i wr) (fun _ i _ => 9 - (intOf i).toNat)
  case atStart => exact HST.out
  case round =>
    obtain ⟨m, a, cap, q, L, hm, rfl, rfl, hLm, HI⟩ := hrel
    clear HST
    go_wp2_with fail
    refine (l01Below_in B w0 _ g v 9 9 rfl HI.out.1 (by omega) (by omega)).mono ?_
    rintro e w1 ⟨j, hj, rfl, hc1, hg1⟩
    have HI1 : Hid (DvI B w0 w g v a cap q L w1) := by
      obtain ⟨h1, h2, h3, h4, h5, h6, h7⟩ := HI.out
      exact ⟨hc1, h2.grown hg1 (fun hp => by simpa using h4 hp), h3, h4, h5, h6, h7.trans hg1⟩
    clear hc1 hg1 HI
    by_cases hlt : m < j
    · have i1 : (m : Int) < (j : Int) := by omega
      go_wp2_with fail
      refine (l04Name_in B w0 _ g v HI1.out.1).mono ?_
      rintro e w2 ⟨x, hx, rfl, hc2, hg2⟩
      have HI2 : Hid (DvI B w0 w g v a cap q L w2) := by
        obtain ⟨h1, h2, h3, h4, h5, h6, h7⟩ := HI1.out
        exact ⟨hc2, h2.grown hg2 (fun hp => by simpa using h4 hp), h3, h4, h5, h6, h7.trans hg2⟩
      clear hc2 hg2 HI1
      go_wp2_with fail
      refine (l09Value_in B w0 _ g v HI2.out.1).mono ?_
      rintro e w3 ⟨y, hy, rfl, hc3, hg3⟩
      have HI3 : Hid (DvI B w0 w g v a cap q L w3) := by
        obtain ⟨h1, h2, h3, h4, h5, h6, h7⟩ := HI2.out
        exact ⟨hc3, h2.grown hg3 (fun hp => by simpa using h4 hp), h3, h4, h5, h6, h7.trans hg3⟩
      clear hc3 hg3 HI2
      have hxo := nameL_ok x hx
      have hyo := l9v_ok y hy
      have hlb : LV.leB ⟨x, y⟩ = true := by unfold LV.leB; rw [hxo.1, hyo.1]; rfl
      have hpb := LV.putB_yes (f := ⟨x, y⟩) HI3.out.2.2.2.2.1 (by omega) hlb
      have hsm : SmallL L := fun f hf => by have := LV.leB_sizes (HI3.out.2.2.2.2.1.2.1 f hf); omega
      have hP := sLeafPut_any a cap q 0 L x y w3 HI3.out.2.1.1 HI3.out.2.2.2.2.2.1 hsm (by omega) (by omega) (by omega)
      rw [hpb, putR_yes hpb] at hP
      have hMl : (LV.put L ⟨x, y⟩).length ≤ m + 1 := by rw [LV.len_put]; have := LV.len_wout_le L x; show (LV.wout L x).length + 1 ≤ m + 1; omega
      have hM0 : 0 < (LV.put L ⟨x, y⟩).length := by rw [LV.len_put]; omega
      have hMk : LV.LOk (LV.put L ⟨x, y⟩) := LV.putB_ok hpb
      generalize LV.put L ⟨x, y⟩ = M at *
      clear hpb hlb hxo hyo hsm hx hy
      go_wp2_with fail
      refine hP.mono ?_
      rintro e w4 ⟨a4, c4, g4, rfl, hr4, hg4, hb4⟩
      have HI4 : Hid (DvI B w0 w g v a4 c4 g4 M w4) := by
        obtain ⟨h1, h2, h3, h4, h5, h6, h7⟩ := HI3.out
        have hgr := grown_below (row := some g) hb4
        refine ⟨h1.kept (grown_below (row := none) hb4) (by simp) h1.size (fun k hk => by cases hk), hr4, Nat.le_trans h1.size hg4, fun _ => by have := h1.lt; omega, hMk, fun e => ?_, h7.trans hgr⟩
        obtain ⟨⟨a', c', ev, _, hA, _⟩, _⟩ := hr4
        have := (hA hM0).1
        simp at ev
        rw [e, this] at ev
        cases ev.1
      clear hP hr4 hg4 hb4 HI3 hMk hM0
      go_wp2
      go_roundw
      case rel => exact ⟨m + 1, a4, c4, g4, M, by omega, by go_num, rfl, hMl, HI4⟩
      case measure => simp [intOf]; omega
    · have i1 : ¬ (m : Int) < (j : Int) := by omega
      have HF : Hid (DvP B w0 w g v (.returned (.slice a L.length cap)) w1) := ⟨a, cap, q, L, rfl, by omega, HI1.out⟩
      clear HI1
      go_wp2
      go_ret
      exact HF.out

/-- a drawn list of right leaves -/
theorem DrawLeaves_any (w : World) (v : Value) (hc : Code w.heap.size w v) :
    Calls Tryz.prog 5 #[v] w fun e w' => ∃ (a : Option Addr) (cap q : Nat) (L : List Le), e = .returned (.slice a L.length cap) ∧ (L.length ≤ 8 ∧ LV.LOk L ∧ (a = none → cap = 0)) ∧ RW 2 lcs w' (.slice a L.length cap) q L ∧ w.heap.size ≤ q ∧ Below w.heap.size w w' := by
  have HC : Hid (Code w.heap.size w v) := hc
  clear hc
  go_enter Tryz.func5, Tryz.ntmps5
  go_wp2_with fail
  refine (l01New_in w v HC.out).mono ?_
  rintro e w1 ⟨g, rfl, hc1, hb1⟩
  go_wp2_with fail
  refine (l09Draw_in w.heap.size w _ g v hc1).mono ?_
  rintro e w2 ⟨a, cap, q, L, rfl, hl, hI⟩
  have HF : Hid (∃ (a2 : Option Addr) (cap2 q2 : Nat) (L2 : List Le), Ending.returned (.slice a L.length cap) = .returned (.slice a2 L2.length cap2) ∧ (L2.length ≤ 8 ∧ LV.LOk L2 ∧ (a2 = none → cap2 = 0)) ∧ RW 2 lcs w2 (.slice a2 L2.length cap2) q2 L2 ∧ w.heap.size ≤ q2 ∧ Below w.heap.size w w2) := ⟨a, cap, q, L, rfl, ⟨hl, hI.2.2.2.2.1, hI.2.2.2.2.2.1⟩, hI.2.1, hI.2.2.1, hI.1.2.1⟩
  clear hI
  go_wp2
  go_ret
  exact HF.out

end Go.Proofs.YtfiapodjiifmaaaGreatDoor
/-
  What DrawPlaces and DrawSumOf draw: twelve numbers below 10000; a text of less than forty bytes.
-/
namespace Go.Proofs.YtfiapodjiifmaaaGreatDoor
open Go.RowKit
set_option linter.unusedVariables false

def iv (l : List Nat) : List Value := l.map (fun n : Nat => Value.int .i64 (n : Int))
theorem iv_append (l r : List Nat) : iv (l ++ r) = iv l ++ iv r := by simp [iv]

theorem own_neI {B Bw : Nat} {w0 w : World} {g n : Nat} {v u : Value} {xs : List Value} (hc : Cur B w0 w g v) (ho : w.ownsRow Bw 3 1 u n xs) : some g ≠ u.ownBlock := by
  intro he
  obtain ⟨_, _, _, i, x, hb, _⟩ := hc
  rcases ho.2 with ⟨rfl, _⟩ | ⟨g', cap, cur, rfl, _, hg, _⟩
  · simp [Value.ownBlock] at he
  · simp [Value.ownBlock] at he
    subst he
    rw [hb] at hg
    simp at hg

theorem one_int (w : World) (y : Nat) (t : TypeId) : (w.alloc (.cells #[.int .i64 (y : Int)] t)).cell? ⟨w.heap.size, 0, none⟩ = some (.int .i64 (y : Int)) := by simp

def PlRel (w : World) (g : Nat) (v u i : Value) (wr : World) : Prop :=
  ∃ (k : Nat) (l : List Nat), k ≤ 12 ∧ i = .int .i64 k ∧ l.length = k ∧ (∀ x ∈ l, x < 10000) ∧ wr.ownsRow w.heap.size 3 1 u l.length (iv l) ∧ Cur w.heap.size w wr g v

/-- what DrawPlaces gives: a row of twelve numbers -/
def Places (w w' : World) (v : Value) : Prop :=
  ∃ (g cap : Nat) (xs : List Nat), v = .slice (some ⟨g, 0, none⟩) 12 cap ∧ xs.length = 12 ∧ (∀ x ∈ xs, x < 10000) ∧ w.heap.size ≤ g ∧ g < w'.heap.size ∧ ∀ j, (h : j < xs.length) → w'.cell? ⟨g, j, none⟩ = some (.int .i64 (xs[j] : Int))

end Go.Proofs.YtfiapodjiifmaaaGreatDoor
/-
  The walk of the law FnRoots: it answers true of every code.
-/
namespace Go.Proofs.YtfiapodjiifmaaaGreatDoor
open Go.RowKit Go.BigFrame Go.Sort
set_option linter.unusedVariables false
set_option linter.unusedSimpArgs false

theorem code_laterR {w w' : World} {v : Value} (h : Code w.heap.size w v) (hb : Below w.heap.size w w') : Code w'.heap.size w' v := by
  obtain ⟨ao, b, off, len, cap, rfl, hl, h1, h2⟩ := h
  refine ⟨ao, b, off, len, cap, rfl, hl, fun h0 => ⟨(h1 h0).1, Nat.lt_of_lt_of_le (h1 h0).2 hb.size⟩, fun j hj => ?_⟩
  obtain ⟨n, hn, hc⟩ := h2 j hj
  exact ⟨n, hn, (hb.cell (p := ⟨b, off + j, none⟩) (h1 (by omega)).2).trans hc⟩
theorem small_okR {L : List Le} (h : LV.LOk L) : SmallL L := fun f hf => by have := leB_size (h.2.1 f hf); omega

end Go.Proofs.YtfiapodjiifmaaaGreatDoor
/-
  The walk of the law FnProofs: it answers true of every code.
-/
namespace Go.Proofs.YtfiapodjiifmaaaGreatDoor
open Go.RowKit Go.BigFrame Go.Sort
set_option linter.unusedVariables false
set_option linter.unusedSimpArgs false

/-- what the law of proofs keeps: its row of leaves, and its proof in its box -/
def PrS (w0 W : World) (vl : Value) (gl : Nat) (L : List Le) (gp : Nat) (vb vs : Value) (gb gs : Nat) (B : List Le) (S : List ByteArray) : Prop := Below w0.heap.size w0 W ∧ RS 2 lcs W vl gl 0 L ∧ PfM W gp vb vs ∧ RS 2 lcs W vb gb 0 B ∧ SS W vs gs 0 S
theorem PrS.later {w0 W W' : World} {vl : Value} {gl : Nat} {L : List Le} {gp : Nat} {vb vs : Value} {gb gs : Nat} {B : List Le} {S : List ByteArray} (h : PrS w0 W vl gl L gp vb vs gb gs B S) (hb : Below W.heap.size W W') : PrS w0 W' vl gl L gp vb vs gb gs B S :=
  ⟨h.1.trans (hb.mono h.1.size), h.2.1.later hb, h.2.2.1.later hb, h.2.2.2.1.later hb, h.2.2.2.2.below hb h.2.2.2.2.lt⟩
theorem below_boxP (W : World) (R : Array Value) : Below W.heap.size W ((W.alloc (.cells #[.slice none 0 0, .slice none 0 0] 29)).setRow W.heap.size R) := below_setRow ((Below.refl _ _).alloc (Nat.le_refl _) _) (Nat.le_refl _)
theorem flat_le {S : List ByteArray} (hs : ∀ t ∈ S, t.size ≤ 32) : (S.map (·.data.toList)).flatten.length ≤ S.length * 32 := by
  induction S with
  | nil => simp
  | cons a r ih =>
    have htl := LV.toList_len a
    have ha := hs a (by simp)
    have := ih (fun t ht => hs t (by simp [ht]))
    simp only [List.map_cons, List.flatten_cons, List.length_append, List.length_cons]
    omega
theorem pxT_size {B : List Le} {S : List ByteArray} {x : Int} (hs : ∀ t ∈ S, t.size ≤ 32) (h8 : S.length ≤ 8) : (pxT B S x).size ≤ 1048576 := by
  unfold pxT
  split
  · have h1 := lvT_le B
    have h2 := flat_le hs
    have h3 := M.varL_len S.length
    unfold joinT
    rw [ByteArray.size_append, ByteArray.size_append]
    show (lvT B).size + (M.varL S.length).length + (S.map (·.data.toList)).flatten.length ≤ _
    omega
  · show (0 : Nat) ≤ _
    omega

set_option maxRecDepth 100000 in
set_option maxHeartbeats 2000000 in
theorem proofsLaw_any (a0 : Option Addr) (len0 cap0 : Nat) (w : World) (hl0 : len0 ≤ 1048576) (hc : Code w.heap.size w (.slice a0 len0 cap0)) (hK : TabK w) (hF : TabF w) :
    Calls Tryz.prog 3 #[.slice a0 len0 cap0] w fun e w' => e = .returned (.bool true) ∧ Below w.heap.size w w' := by
  have HC : Hid (∀ W, Below w.heap.size w W → Code W.heap.size W (.slice a0 len0 cap0)) := fun W hW => code_laterR hc hW
  have HT : Hid (∀ W, Below w.heap.size w W → Tb W) := fun W hW => Tb.later ⟨hK, hF⟩ hW
  clear hc hK hF
  go_enter Tryz.func3, Tryz.ntmps3
  go_wp2_with fail
  refine (big_no a0 len0 cap0 _ hl0).mono ?_
  rintro e w0 ⟨rfl, rfl⟩
  go_wp2_with fail
  refine (DrawLeaves_any _ _ (HC.out _ (Below.refl _ _))).mono ?_
  rintro e w1 ⟨a1, c1, g1, L, rfl, ⟨hl8, hLk, hnil⟩, hr1, hg1, hb1⟩
  go_wp2_with fail
  refine (DrawName_any _ _ (HC.out _ hb1)).mono ?_
  rintro e w2 ⟨nm, ⟨hx, hx12⟩, rfl, hb2⟩
  have b2 := hb1.trans (hb2.mono hb1.size)
  have h32 : (1 : Int) ≤ 16 ∧ (16 : Int) ≤ 32 := by omega
  have hok : pvOk L nm 0 16 = true := by unfold pvOk; rw [LV.leavesB_iff.2 hLk, hx]; rfl
  have hB0 : pvB L nm 0 16 = bkL L (idxN nm) := by unfold pvB; rw [if_pos hok]
  have hS0 : pvS L nm 0 16 = sdL 16 (idxN nm) L 8 := by unfold pvS; rw [if_pos hok]; exact sd_all h32 hLk _ (idx_255 nm)
  have HPV : Hid (∀ W, Below w0.heap.size w0 W → RS 2 lcs W (.slice a1 L.length c1) g1 0 L → Calls Tryz.prog 7 #[.slice a1 L.length c1, .string nm, .int .i64 0, .int .i64 16] W (PvP (bkL L (idxN nm)) (sdL 16 (idxN nm) L 8) true W)) := fun W hW hr => by
    have h := ProveLeaf_any _ g1 0 L nm 0 16 W hr (small_okR hLk) (by omega) (HT.out _ hW)
    rw [hok, hB0, hS0] at h
    exact h
  have hBk := ok_bk hLk (idxN nm)
  have hSz : ∀ t ∈ sdL 16 (idxN nm) L 8, t.size = 16 := sd_size h32 hLk _ 8
  have hS8 := sdL_len (16 : Int) (idxN nm) L 8
  have HSY : Hid (∀ W vb vs gb, RS 2 lcs W vb gb 0 (bkL L (idxN nm)) → Calls Tryz.prog 8 #[.string nm, .agg #[vb, vs]] W fun e w' => e = .returned (.tuple #[.string (LV.getV L nm), .bool (LV.getB L nm)]) ∧ Below W.heap.size W w') := fun W vb vs gb hr => by
    have h := ProofSays_any nm vb vs gb 0 _ W hr (small_okR hBk)
    rw [(get_bk L nm).1, (get_bk L nm).2] at h
    exact h
  have HGT : Hid (∀ W, RS 2 lcs W (.slice a1 L.length c1) g1 0 L → Calls Tryz.prog 9 #[.slice a1 L.length c1, .string nm] W fun e w' => e = .returned (.tuple #[.string (LV.getV L nm), .bool (LV.getB L nm)]) ∧ Below W.heap.size W w') := fun W hr => sLeafGet_any _ g1 0 L nm W hr
  obtain ⟨e1, e2, e3, e4⟩ := rp_back (y := 16) hBk hSz (by omega) (by omega)
  have HPT : Hid (∀ W vb vs gb gs, RS 2 lcs W vb gb 0 (bkL L (idxN nm)) → SS W vs gs 0 (sdL 16 (idxN nm) L 8) → (∀ a n c, vs = .slice a n c → n ≤ c) → Calls Tryz.prog 10 #[.agg #[vb, vs], .int .i64 16] W fun e w' => e = .returned (.tuple #[.string (pxT (bkL L (idxN nm)) (sdL 16 (idxN nm) L 8) 16), .bool true]) ∧ Below W.heap.size W w') := fun W vb vs gb gs hr hs hcap => by
    have h := ProofText_any vb vs gb 0 gs 0 _ _ 16 W hr (small_okR hBk) hs hcap
    rw [show pxB (bkL L (idxN nm)) (sdL 16 (idxN nm) L 8) 16 = true from e1] at h
    exact h
  have HRP : Hid (∀ W, Calls Tryz.prog 11 #[.string (pxT (bkL L (idxN nm)) (sdL 16 (idxN nm) L 8) 16), .int .i64 16] W (PvP (bkL L (idxN nm)) (sdL 16 (idxN nm) L 8) true W)) := fun W => by
    have h := ReadProof_any (pxT (bkL L (idxN nm)) (sdL 16 (idxN nm) L 8) 16) 16 W (pxT_size (fun t ht => by have := hSz t ht; omega) (by omega))
    rw [show rpL (pxT (bkL L (idxN nm)) (sdL 16 (idxN nm) L 8) 16) 16 = _ from e3, show rpS (pxT (bkL L (idxN nm)) (sdL 16 (idxN nm) L 8) 16) 16 = _ from e4, show rpOk (pxT (bkL L (idxN nm)) (sdL 16 (idxN nm) L 8) 16) 16 = _ from e2] at h
    exact h
  have hph := ph_root hx h32 hLk
  have HPX : Hid (∀ W vb vs gb gs, Below w0.heap.size w0 W → RS 2 lcs W vb gb 0 (bkL L (idxN nm)) → SS W vs gs 0 (sdL 16 (idxN nm) L 8) → Calls Tryz.prog 12 #[.string nm, .agg #[vb, vs], .int .i64 16] W fun e w' => ∃ a c, e = .returned (.slice a 9 c) ∧ Below W.heap.size W w') := fun W vb vs gb gs hW hr hs => by
    refine (ProofTexts_any nm vb vs gb 0 gs 0 _ _ 16 W (by omega) hr (small_okR hBk) hs (HT.out _ hW)).mono ?_
    rintro e w' ⟨v, he, ho⟩
    obtain ⟨a, c, rfl⟩ := ho.slice
    rw [hph.2] at he
    exact ⟨a, c, he, ho.2.1⟩
  have HOK : Hid (∀ W vb vs gb gs, Below w0.heap.size w0 W → RS 2 lcs W vb gb 0 (bkL L (idxN nm)) → SS W vs gs 0 (sdL 16 (idxN nm) L 8) → Calls Tryz.prog 13 #[.string nm, .agg #[vb, vs], .int .i64 16] W fun e w' => e = .returned (.bool true) ∧ Below W.heap.size W w') := fun W vb vs gb gs hW hr hs => by
    have h := ProofOk_any nm vb vs gb 0 gs 0 _ _ 16 W (by omega) hr (small_okR hBk) hs (HT.out _ hW)
    rw [pf_right hx h32 hLk] at h
    exact h
  have HPH : Hid (∀ W vb vs gb gs, Below w0.heap.size w0 W → RS 2 lcs W vb gb 0 (bkL L (idxN nm)) → SS W vs gs 0 (sdL 16 (idxN nm) L 8) → Calls Tryz.prog 14 #[.string nm, .agg #[vb, vs], .int .i64 16] W fun e w' => e = .returned (.string (trB 16 8 0 L)) ∧ Below W.heap.size W w') := fun W vb vs gb gs hW hr hs => by
    have h := ProofHash_any nm vb vs gb 0 gs 0 _ _ 16 W (by omega) hr (small_okR hBk) hs (HT.out _ hW)
    rw [hph.1] at h
    exact h
  have HSR : Hid (∀ W, RS 2 lcs W (.slice a1 L.length c1) g1 0 L → Calls Tryz.prog 15 #[.slice a1 L.length c1, .int .i64 16] W fun e w' => e = .returned (.string (trB 16 8 0 L)) ∧ Below W.heap.size W w') := fun W hr => by
    have h := sRootOf_any _ g1 0 L 16 W hr (small_okR hLk)
    rw [nh_root h32 hLk] at h
    exact h
  have HSP : Hid (∀ W vb vs ub us gb gs hb hs, RS 2 lcs W ub hb 0 (bkL L (idxN nm)) → SS W us hs 0 (sdL 16 (idxN nm) L 8) → RS 2 lcs W vb gb 0 (bkL L (idxN nm)) → SS W vs gs 0 (sdL 16 (idxN nm) L 8) → Calls Tryz.prog 16 #[.agg #[ub, us], .agg #[vb, vs]] W fun e w' => e = .returned (.bool true) ∧ Below W.heap.size W w') := fun W vb vs ub us gb gs hb hs h1 h2 h3 h4 => sameProof_yes ub us vb vs hb 0 hs 0 gb 0 gs 0 _ _ W h1 h2 h3 h4
  have HR2 : Hid (RS 2 lcs w2 (.slice a1 L.length c1) g1 0 L ∧ Below w0.heap.size w0 w2) := ⟨(hr1.later hb2).1, b2⟩
  generalize bkL L (idxN nm) = B at *
  generalize sdL 16 (idxN nm) L 8 = S at *
  generalize trB 16 8 0 L = R at *
  generalize LV.getV L nm = V at *
  generalize LV.getB L nm = F at *
  generalize pxT B S 16 = T at *
  clear e1 e2 e3 e4 hph hBk hSz hS8 hok hB0 hS0 h32 hr1 hb1 hb2 b2 hLk hnil hl8 hg1 hx HC HT
  go_wp2_with fail
  refine (HPV.out _ HR2.out.2 HR2.out.1).mono ?_
  rintro e w3 ⟨ab, cb, aS, cS, gb, gs, rfl, hrb, hrs, _, _, ⟨_, hcap⟩, hb3⟩
  have hpn := PfM.new w3 (.slice none 0 0) (.slice none 0 0)
  have H3 : Hid (RS 2 lcs w3 (.slice a1 L.length c1) g1 0 L ∧ Below w0.heap.size w0 w3 ∧ RS 2 lcs w3 (.slice ab B.length cb) gb 0 B ∧ SS w3 (.slice aS S.length cS) gs 0 S) := ⟨HR2.out.1.later hb3, HR2.out.2.trans (hb3.mono HR2.out.2.size), hrb.1, hrs.ss⟩
  clear hrb hrs hb3 HR2 HPV
  go_wp2_with (first | (refine wp_loadPf rfl _ rfl w3.heap.size _ _ rfl hfin ?_) | (refine wp_storePf rfl _ _ rfl w3.heap.size _ _ (.slice ab B.length cb) (.slice aS S.length cS) hpn rfl rfl rfl rfl ?_; intro hfin))
  have HFS : Hid (PrS w0 ((w3.alloc (.cells #[.slice none 0 0, .slice none 0 0] 29)).setRow w3.heap.size #[.slice ab B.length cb, .slice aS S.length cS]) (.slice a1 L.length c1) g1 L w3.heap.size (.slice ab B.length cb) (.slice aS S.length cS) gb gs B S) := by
    have hb := below_boxP w3 #[.slice ab B.length cb, .slice aS S.length cS]
    exact ⟨H3.out.2.1.trans (hb.mono H3.out.2.1.size), H3.out.1.later hb, hfin, H3.out.2.2.1.later hb, H3.out.2.2.2.below hb H3.out.2.2.2.lt⟩
  clear H3 hfin hpn
  generalize hgp : w3.heap.size = gp at *
  generalize (w3.alloc (.cells #[.slice none 0 0, .slice none 0 0] 29)).setRow gp #[.slice ab B.length cb, .slice aS S.length cS] = wA at *
  clear hgp
  obtain ⟨nb, hnb⟩ : ∃ n, B.length = n := ⟨_, rfl⟩
  obtain ⟨ns, hns⟩ : ∃ n, S.length = n := ⟨_, rfl⟩
  rw [hnb, hns] at HFS ⊢
  rw [hns] at hcap
  clear hnb hns
  refine (HSY.out _ _ _ gb HFS.out.2.2.2.1).mono ?_
  rintro e w4 ⟨rfl, hb4⟩
  have H4 : Hid (PrS w0 w4 (.slice a1 L.length c1) g1 L gp (.slice ab nb cb) (.slice aS ns cS) gb gs B S) := HFS.out.later hb4
  clear HFS hb4 HSY
  have b4 := H4.out.2.1
  go_wp2_with fail
  refine (HGT.out _ b4).mono ?_
  rintro e w5 ⟨rfl, hb5⟩
  have H5 : Hid (PrS w0 w5 (.slice a1 L.length c1) g1 L gp (.slice ab nb cb) (.slice aS ns cS) gb gs B S) := H4.out.later hb5
  clear H4 hb5 HGT b4
  have p5 := H5.out.2.2.1
  go_wp2_with (refine wp_loadPf rfl _ rfl gp _ _ rfl p5 ?_)
  refine (HPT.out _ _ _ gb gs H5.out.2.2.2.1 H5.out.2.2.2.2 ?_).mono ?_
  · rintro a n c h
    injection h with h1 h2 h3
    omega
  rintro e w6 ⟨rfl, hb6⟩
  have H6 : Hid (PrS w0 w6 (.slice a1 L.length c1) g1 L gp (.slice ab nb cb) (.slice aS ns cS) gb gs B S) := H5.out.later hb6
  clear H5 hb6 HPT p5
  go_wp2_with fail
  refine (HRP.out _).mono ?_
  rintro e w7 ⟨xb, yb, xS, yS, hb', hs', rfl, hrb, hrs, _, _, _, hb7⟩
  have H7 : Hid (PrS w0 w7 (.slice a1 L.length c1) g1 L gp (.slice ab nb cb) (.slice aS ns cS) gb gs B S ∧ RS 2 lcs w7 (.slice xb B.length yb) hb' 0 B ∧ SS w7 (.slice xS S.length yS) hs' 0 S) := ⟨H6.out.later hb7, hrb.1, hrs.ss⟩
  clear H6 hb7 HRP hrb hrs
  have hpn := PfM.new w7 (.slice none 0 0) (.slice none 0 0)
  have hpP := H7.out.1.2.2.1.later (below_boxP w7 #[.slice xb B.length yb, .slice xS S.length yS])
  go_wp2_with (first | (refine wp_loadPf rfl _ rfl gp _ _ rfl hpP ?_) | (refine wp_storePf rfl _ _ rfl w7.heap.size _ _ (.slice xb B.length yb) (.slice xS S.length yS) hpn rfl rfl rfl rfl ?_; intro hfin))
  have H8 : Hid (PrS w0 ((w7.alloc (.cells #[.slice none 0 0, .slice none 0 0] 29)).setRow w7.heap.size #[.slice xb B.length yb, .slice xS S.length yS]) (.slice a1 L.length c1) g1 L gp (.slice ab nb cb) (.slice aS ns cS) gb gs B S ∧ PrS w0 ((w7.alloc (.cells #[.slice none 0 0, .slice none 0 0] 29)).setRow w7.heap.size #[.slice xb B.length yb, .slice xS S.length yS]) (.slice a1 L.length c1) g1 L w7.heap.size (.slice xb B.length yb) (.slice xS S.length yS) hb' hs' B S) := by
    have hb := below_boxP w7 #[.slice xb B.length yb, .slice xS S.length yS]
    have h1 := H7.out.1.later hb
    exact ⟨h1, h1.1, h1.2.1, hfin, H7.out.2.1.later hb, H7.out.2.2.below hb H7.out.2.2.lt⟩
  clear H7 hfin hpn hpP
  generalize hgq : w7.heap.size = gq at *
  generalize (w7.alloc (.cells #[.slice none 0 0, .slice none 0 0] 29)).setRow gq #[.slice xb B.length yb, .slice xS S.length yS] = wB at *
  clear hgq
  obtain ⟨mb, hmb⟩ : ∃ n, B.length = n := ⟨_, rfl⟩
  obtain ⟨ms, hms⟩ : ∃ n, S.length = n := ⟨_, rfl⟩
  rw [hmb, hms] at H8 ⊢
  clear hmb hms
  refine (HPX.out _ _ _ gb gs H8.out.1.1 H8.out.1.2.2.2.1 H8.out.1.2.2.2.2).mono ?_
  rintro e w9 ⟨ax, cx, rfl, hb9⟩
  have H9 : Hid (PrS w0 w9 (.slice a1 L.length c1) g1 L gp (.slice ab nb cb) (.slice aS ns cS) gb gs B S ∧ PrS w0 w9 (.slice a1 L.length c1) g1 L gq (.slice xb mb yb) (.slice xS ms yS) hb' hs' B S) := ⟨H8.out.1.later hb9, H8.out.2.later hb9⟩
  clear H8 hb9 HPX hcap
  have d0 := H9.out.1.2.2.1.c0
  have d1 := H9.out.1.2.2.1.c1
  go_wp2_with fail
  refine (HOK.out _ _ _ gb gs H9.out.1.1 H9.out.1.2.2.2.1 H9.out.1.2.2.2.2).mono ?_
  rintro e w10 ⟨rfl, hb10⟩
  have H10 : Hid (PrS w0 w10 (.slice a1 L.length c1) g1 L gp (.slice ab nb cb) (.slice aS ns cS) gb gs B S ∧ PrS w0 w10 (.slice a1 L.length c1) g1 L gq (.slice xb mb yb) (.slice xS ms yS) hb' hs' B S) := ⟨H9.out.1.later hb10, H9.out.2.later hb10⟩
  clear H9 hb10 HOK d0 d1
  have d0 := H10.out.1.2.2.1.c0
  have d1 := H10.out.1.2.2.1.c1
  go_wp2_with fail
  refine (HPH.out _ _ _ gb gs H10.out.1.1 H10.out.1.2.2.2.1 H10.out.1.2.2.2.2).mono ?_
  rintro e w11 ⟨rfl, hb11⟩
  have H11 : Hid (PrS w0 w11 (.slice a1 L.length c1) g1 L gp (.slice ab nb cb) (.slice aS ns cS) gb gs B S ∧ PrS w0 w11 (.slice a1 L.length c1) g1 L gq (.slice xb mb yb) (.slice xS ms yS) hb' hs' B S) := ⟨H10.out.1.later hb11, H10.out.2.later hb11⟩
  clear H10 hb11 HPH d0 d1
  have r11 := H11.out.1.2.1
  go_wp2_with fail
  refine (HSR.out _ r11).mono ?_
  rintro e w12 ⟨rfl, hb12⟩
  have H12 : Hid (PrS w0 w12 (.slice a1 L.length c1) g1 L gp (.slice ab nb cb) (.slice aS ns cS) gb gs B S ∧ PrS w0 w12 (.slice a1 L.length c1) g1 L gq (.slice xb mb yb) (.slice xS ms yS) hb' hs' B S) := ⟨H11.out.1.later hb12, H11.out.2.later hb12⟩
  clear H11 hb12 HSR r11
  have d0 := H12.out.1.2.2.1.c0
  have d1 := H12.out.1.2.2.1.c1
  have d2 := H12.out.2.2.2.1.c0
  have d3 := H12.out.2.2.2.1.c1
  have q1 : (R.toList == R.toList) = true := by simp
  have q2 : (V.toList == V.toList) = true := by simp
  have q3 : (F == F) = true := by simp
  go_wp2_with fail
  refine (HSP.out _ _ _ _ _ gb gs hb' hs' H12.out.2.2.2.2.1 H12.out.2.2.2.2.2 H12.out.1.2.2.2.1 H12.out.1.2.2.2.2).mono ?_
  rintro e w13 ⟨rfl, hb13⟩
  have b13 := H12.out.1.1.trans (hb13.mono H12.out.1.1.size)
  clear H12 hb13 HSP d0 d1 d2 d3
  go_wp2
  go_ret
  exact ⟨rfl, b13⟩

end Go.Proofs.YtfiapodjiifmaaaGreatDoor
