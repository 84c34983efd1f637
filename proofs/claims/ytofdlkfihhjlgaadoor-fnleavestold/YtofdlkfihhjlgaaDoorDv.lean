/-
  Drawn leaves: values, and lists that are put together leaf by leaf.
-/
import Derived.Test.YtofdlkfihhjlgaaDoorNb
import Derived.Test.YtofdlkfihhjlgaaDoorDn
import Derived.Test.YtofdlkfihhjlgaaDoorRb
namespace Go.Proofs.YtofdlkfihhjlgaaDoor
open Go.RowKit Go.BigFrame Go.Sort
set_option linter.unusedVariables false
set_option linter.unusedSimpArgs false

def l9vL : List ByteArray := [⟨#[107, 49]⟩, ⟨#[107, 50]⟩, ⟨#[107, 51]⟩, ⟨#[107, 101, 121, 45, 102, 111, 117, 114]⟩, ⟨#[122]⟩]
def l9vC : Array Value := #[.string ⟨#[107, 49]⟩, .string ⟨#[107, 50]⟩, .string ⟨#[107, 51]⟩, .string ⟨#[107, 101, 121, 45, 102, 111, 117, 114]⟩, .string ⟨#[122]⟩]
theorem l9v_at (w : World) : Hid (∀ j, (h : j < l9vL.length) → (w.alloc (.cells l9vC 9)).cell? ⟨w.heap.size, j, none⟩ = some (.string l9vL[j])) := by
  intro j hj
  rw [World.cell?_alloc_at _ _ _ _ rfl]
  have : j = 0 ∨ j = 1 ∨ j = 2 ∨ j = 3 ∨ j = 4 := by simp [l9vL] at hj; omega
  rcases this with rfl | rfl | rfl | rfl | rfl <;> rfl
theorem l9v_ok : ∀ y ∈ l9vL, okB valB y = true ∧ y.size ≤ 12 := by decide +kernel

theorem l09Value_in (B : Nat) (w0 w : World) (g : Nat) (v : Value) (hc : Cur B w0 w g v) :
    Calls Tryd.prog 27 #[.pointer (some ⟨g, 0, none⟩)] w fun e w' => ∃ y : ByteArray, y ∈ l9vL ∧ e = .returned (.string y) ∧ Cur B w0 w' g v ∧ w.grownBy w' (some g) := by
  have CP := pick_lit B w0 w g v 5 l9vL l9vC hc rfl (by omega) (by omega) (l9v_at w)
  go_enter Tryd.func27, Tryd.ntmps27
  go_wp2_with fail
  refine CP.out.mono ?_
  rintro e w2 ⟨y, hy, rfl, hc2, hg2⟩
  go_wp2
  go_ret
  exact ⟨y, hy, rfl, hc2, hg2⟩

/-- a list under way beside a cursor -/
def DvI (B : Nat) (w0 w : World) (g : Nat) (v : Value) (a : Option Addr) (cap q : Nat) (L : List Le) (wr : World) : Prop :=
  Cur B w0 wr g v ∧ RW 2 lcs wr (.slice a L.length cap) q L ∧ B ≤ q ∧ (0 < L.length → q ≠ g) ∧ LV.LOk L ∧ (a = none → cap = 0) ∧ w.grownBy wr (some g)
def DvR (B : Nat) (w0 w : World) (g : Nat) (v : Value) (u i : Value) (wr : World) : Prop := ∃ (m : Nat) (a : Option Addr) (cap q : Nat) (L : List Le), m ≤ 8 ∧ i = .int .i64 m ∧ u = .slice a L.length cap ∧ L.length ≤ m ∧ Hid (DvI B w0 w g v a cap q L wr)
/-- what l09Draw answers -/
def DvP (B : Nat) (w0 w : World) (g : Nat) (v : Value) (e : Ending) (w' : World) : Prop := ∃ (a : Option Addr) (cap q : Nat) (L : List Le), e = .returned (.slice a L.length cap) ∧ L.length ≤ 8 ∧ DvI B w0 w g v a cap q L w'

set_option maxRecDepth 100000 in
set_option maxHeartbeats 2000000 in
theorem l09Draw_in (B : Nat) (w0 w : World) (g : Nat) (v : Value) (hc : Cur B w0 w g v) :
    Calls Tryd.prog 43 #[.pointer (some ⟨g, 0, none⟩)] w (DvP B w0 w g v) := by
  have hB := hc.size
  have hgl := hc.lt
  have HST : Hid (DvR B w0 w g v (.slice (some ⟨w.heap.size, 0, none⟩) 0 0) (.int .i64 0) (w.alloc (.cells #[] 54))) :=
    ⟨0, some ⟨w.heap.size, 0, none⟩, 0, w.heap.size, [], by omega, rfl, by simp, by simp, hc.kept (World.grownBy_alloc w _ none) (by simp) hB (fun k hk => by cases hk), ⟨⟨_, _, rfl, by simp, fun h => absurd h (by simp), fun j h => absurd h (by simp)⟩, fun j h => absurd h (by simp)⟩, hB, fun h => absurd h (by simp), ⟨by simp, fun f hf => absurd hf (by simp), List.Pairwise.nil⟩, fun e => (by cases e), World.grownBy_alloc w _ _⟩
  clear hc
  go_enter Tryd.func43, Tryd.ntmps43
  go_wp2
  go_loopw [3, 4] (fun u i wr => DvR B w0 w g v u i wr) (fun _ i _ => 9 - (intOf i).toNat)
  case atStart => exact HST.out
  case round =>
    obtain ⟨m, a, cap, q, L, hm, rfl, rfl, hLm, HI⟩ := hrel
    clear HST
    go_wp2_with fail
    refine (l01Below_in B w0 _ g v 9 9 rfl HI.out.1 (by omega) (by omega)).mono ?_
    rintro e w1 ⟨j, hj, rfl, hc1, hg1⟩
    have HI1 : Hid (DvI B w0 w g v a cap q L w1) := by
      obtain ⟨h1, h2, h3, h4, h5, h6, h7⟩ := HI.out
      exact ⟨hc1, h2.grown hg1 (fun hp => by simpa using h4 hp), h3, h4, h5, h6, h7.trans hg1⟩
    clear hc1 hg1 HI
    by_cases hlt : m < j
    · have i1 : (m : Int) < (j : Int) := by omega
      go_wp2_with fail
      refine (l04Name_in B w0 _ g v HI1.out.1).mono ?_
      rintro e w2 ⟨x, hx, rfl, hc2, hg2⟩
      have HI2 : Hid (DvI B w0 w g v a cap q L w2) := by
        obtain ⟨h1, h2, h3, h4, h5, h6, h7⟩ := HI1.out
        exact ⟨hc2, h2.grown hg2 (fun hp => by simpa using h4 hp), h3, h4, h5, h6, h7.trans hg2⟩
      clear hc2 hg2 HI1
      go_wp2_with fail
      refine (l09Value_in B w0 _ g v HI2.out.1).mono ?_
      rintro e w3 ⟨y, hy, rfl, hc3, hg3⟩
      have HI3 : Hid (DvI B w0 w g v a cap q L w3) := by
        obtain ⟨h1, h2, h3, h4, h5, h6, h7⟩ := HI2.out
        exact ⟨hc3, h2.grown hg3 (fun hp => by simpa using h4 hp), h3, h4, h5, h6, h7.trans hg3⟩
      clear hc3 hg3 HI2
      have hxo := nameL_ok x hx
      have hyo := l9v_ok y hy
      have hlb : LV.leB ⟨x, y⟩ = true := by unfold LV.leB; rw [hxo.1, hyo.1]; rfl
      have hpb := LV.putB_yes (f := ⟨x, y⟩) HI3.out.2.2.2.2.1 (by omega) hlb
      have hsm : SmallL L := fun f hf => by have := LV.leB_sizes (HI3.out.2.2.2.2.1.2.1 f hf); omega
      have hP := sLeafPut_any a cap q 0 L x y w3 HI3.out.2.1.1 HI3.out.2.2.2.2.2.1 hsm (by omega) (by omega) (by omega)
      rw [hpb, putR_yes hpb] at hP
      have hMl : (LV.put L ⟨x, y⟩).length ≤ m + 1 := by rw [LV.len_put]; have := LV.len_wout_le L x; show (LV.wout L x).length + 1 ≤ m + 1; omega
      have hM0 : 0 < (LV.put L ⟨x, y⟩).length := by rw [LV.len_put]; omega
      have hMk : LV.LOk (LV.put L ⟨x, y⟩) := LV.putB_ok hpb
      generalize LV.put L ⟨x, y⟩ = M at *
      clear hpb hlb hxo hyo hsm hx hy
      go_wp2_with fail
      refine hP.mono ?_
      rintro e w4 ⟨a4, c4, g4, rfl, hr4, hg4, hb4⟩
      have HI4 : Hid (DvI B w0 w g v a4 c4 g4 M w4) := by
        obtain ⟨h1, h2, h3, h4, h5, h6, h7⟩ := HI3.out
        have hgr := grown_below (row := some g) hb4
        refine ⟨h1.kept (grown_below (row := none) hb4) (by simp) h1.size (fun k hk => by cases hk), hr4, Nat.le_trans h1.size hg4, fun _ => by have := h1.lt; omega, hMk, fun e => ?_, h7.trans hgr⟩
        obtain ⟨⟨a', c', ev, _, hA, _⟩, _⟩ := hr4
        have := (hA hM0).1
        simp at ev
        rw [e, this] at ev
        cases ev.1
      clear hP hr4 hg4 hb4 HI3 hMk hM0
      go_wp2
      go_roundw
      case rel => exact ⟨m + 1, a4, c4, g4, M, by omega, by go_num, rfl, hMl, HI4⟩
      case measure => simp [intOf]; omega
    · have i1 : ¬ (m : Int) < (j : Int) := by omega
      have HF : Hid (DvP B w0 w g v (.returned (.slice a L.length cap)) w1) := ⟨a, cap, q, L, rfl, by omega, HI1.out⟩
      clear HI1
      go_wp2
      go_ret
      exact HF.out

/-- a drawn list of right leaves -/
theorem DrawLeaves_any (w : World) (v : Value) (hc : Code w.heap.size w v) :
    Calls Tryd.prog 14 #[v] w fun e w' => ∃ (a : Option Addr) (cap q : Nat) (L : List Le), e = .returned (.slice a L.length cap) ∧ (L.length ≤ 8 ∧ LV.LOk L ∧ (a = none → cap = 0)) ∧ RW 2 lcs w' (.slice a L.length cap) q L ∧ w.heap.size ≤ q ∧ Below w.heap.size w w' := by
  have HC : Hid (Code w.heap.size w v) := hc
  clear hc
  go_enter Tryd.func14, Tryd.ntmps14
  go_wp2_with fail
  refine (l01New_in w v HC.out).mono ?_
  rintro e w1 ⟨g, rfl, hc1, hb1⟩
  go_wp2_with fail
  refine (l09Draw_in w.heap.size w _ g v hc1).mono ?_
  rintro e w2 ⟨a, cap, q, L, rfl, hl, hI⟩
  have HF : Hid (∃ (a2 : Option Addr) (cap2 q2 : Nat) (L2 : List Le), Ending.returned (.slice a L.length cap) = .returned (.slice a2 L2.length cap2) ∧ (L2.length ≤ 8 ∧ LV.LOk L2 ∧ (a2 = none → cap2 = 0)) ∧ RW 2 lcs w2 (.slice a2 L2.length cap2) q2 L2 ∧ w.heap.size ≤ q2 ∧ Below w.heap.size w w2) := ⟨a, cap, q, L, rfl, ⟨hl, hI.2.2.2.2.1, hI.2.2.2.2.2.1⟩, hI.2.1, hI.2.2.1, hI.1.2.1⟩
  clear hI
  go_wp2
  go_ret
  exact HF.out

end Go.Proofs.YtofdlkfihhjlgaaDoor
