/-
  What is drawn for the law FnLeavesTold: a list with a name and a value, right or not; a text to read.
-/
import Derived.Test.YtofdlkfihhjlgaaDoorAn
namespace Go.Proofs.YtofdlkfihhjlgaaDoor
open Go.RowKit Go.BigFrame Go.Sort
set_option linter.unusedVariables false
set_option linter.unusedSimpArgs false

theorem OL.shape2 {B : Nat} {w0 w : World} {v : Value} {l : List Le} (h : OL B w0 w v l) : ∃ a c, v = .slice a l.length c ∧ (a = none → c = 0) := by
  rcases h.1.2 with ⟨hv, hn⟩ | ⟨g, cap, cur, hv, _⟩
  · exact ⟨none, 0, by rw [hv, hn], fun _ => rfl⟩
  · exact ⟨_, _, hv, fun e => by cases e⟩

def l9pL : List ByteArray := [⟨#[]⟩, ⟨#[65]⟩]
def l9pC : Array Value := #[.string ⟨#[]⟩, .string ⟨#[65]⟩]
theorem l9p_at (w : World) : Hid (∀ j, (h : j < l9pL.length) → (w.alloc (.cells l9pC 9)).cell? ⟨w.heap.size, j, none⟩ = some (.string l9pL[j])) := by
  intro j hj
  rw [World.cell?_alloc_at _ _ _ _ rfl]
  have : j = 0 ∨ j = 1 := by simp [l9pL] at hj; omega
  rcases this with rfl | rfl <;> rfl
theorem l9p_ok : ∀ y ∈ l9pL, y.size ≤ 12 := by decide +kernel
def l9qL : List ByteArray := [⟨#[]⟩, ⟨#[97, 32, 98]⟩]
def l9qC : Array Value := #[.string ⟨#[]⟩, .string ⟨#[97, 32, 98]⟩]
theorem l9q_at (w : World) : Hid (∀ j, (h : j < l9qL.length) → (w.alloc (.cells l9qC 9)).cell? ⟨w.heap.size, j, none⟩ = some (.string l9qL[j])) := by
  intro j hj
  rw [World.cell?_alloc_at _ _ _ _ rfl]
  have : j = 0 ∨ j = 1 := by simp [l9qL] at hj; omega
  rcases this with rfl | rfl <;> rfl
theorem l9q_ok : ∀ y ∈ l9qL, y.size ≤ 12 := by decide +kernel

/-- what DrawLeafPut answers -/
def DpP (w : World) (e : Ending) (w' : World) : Prop := ∃ (a : Option Addr) (cap q : Nat) (L : List Le) (x y : ByteArray), e = .returned (.tuple #[.slice a L.length cap, .string x, .string y]) ∧ (SmallL L ∧ L.length ≤ 25 ∧ (a = none → cap = 0) ∧ x.size ≤ 12 ∧ y.size ≤ 12) ∧ RS 2 lcs w' (.slice a L.length cap) q 0 L ∧ Below w.heap.size w w'
theorem DpP.of {w w5 w6 : World} {g : Nat} {v a : Value} {x y : ByteArray} (hx : x.size ≤ 12) (hy : y.size ≤ 12) {L : List Le} (hL : L.length ≤ 25) (h : AnI w.heap.size w w5 g v a L w6) : DpP w (.returned (.tuple #[a, .string x, .string y])) w6 := by
  obtain ⟨q, hq, _⟩ := h.2.1.rw (by omega)
  obtain ⟨b, c, rfl, hn⟩ := h.2.1.shape2
  exact ⟨b, c, q, L, x, y, rfl, ⟨h.2.2.1, hL, hn, hx, hy⟩, hq.1, h.1.2.1⟩

set_option maxRecDepth 100000 in
set_option maxHeartbeats 2000000 in
theorem DrawLeafPut_any (w : World) (v : Value) (hc : Code w.heap.size w v) :
    Calls Tryd.prog 6 #[v] w (DpP w) := by
  have HC : Hid (Code w.heap.size w v) := hc
  clear hc
  go_enter Tryd.func6, Tryd.ntmps6
  go_wp2_with fail
  refine (l01New_in w v HC.out).mono ?_
  rintro e w1 ⟨g, rfl, hc1, _⟩
  clear HC
  go_wp2_with fail
  refine (l04Name_in w.heap.size w _ g v hc1).mono ?_
  rintro e w2 ⟨x, hx, rfl, hc2, _⟩
  have hxz := (nameL_ok x hx).2
  clear hc1 hx
  go_wp2_with fail
  refine (l09Value_in w.heap.size w _ g v hc2).mono ?_
  rintro e w3 ⟨y, hy, rfl, hc3, _⟩
  have hyz := (l9v_ok y hy).2
  clear hc2 hy
  go_wp2_with fail
  refine (l01Once_in w.heap.size w _ g v 10 10 rfl hc3 (by omega) (by omega)).mono ?_
  rintro e w4 ⟨b1, rfl, hc4, _⟩
  clear hc3
  have HT : Hid (∀ (x y : ByteArray) (W : World), x.size ≤ 12 → y.size ≤ 12 → Cur w.heap.size w W g v → Calls Tryd.prog 30 #[.pointer (some ⟨g, 0, none⟩)] W fun e w' => ∃ u, e = .returned u ∧ DpP w (.returned (.tuple #[u, .string x, .string y])) w') := fun x y W hx hy hW => (l09Any_in w.heap.size w W g v hW).mono fun e w' ⟨u, L, he, hl, hI⟩ => ⟨u, he, DpP.of hx hy hl hI⟩
  cases b1
  · go_wp2_with fail
    refine (l01Once_in w.heap.size w _ g v 10 10 rfl hc4 (by omega) (by omega)).mono ?_
    rintro e w5 ⟨b2, rfl, hc5, _⟩
    clear hc4
    cases b2
    · go_wp2_with fail
      refine (HT.out x y _ hxz hyz hc5).mono ?_
      rintro e w6 ⟨u, rfl, hF⟩
      have HF : Hid (DpP w (.returned (.tuple #[u, .string x, .string y])) w6) := hF
      clear hF hc5 HT
      go_wp2
      go_ret3
      exact HF.out
    · have CP := pick_lit w.heap.size w w5 g v 2 l9qL l9qC hc5 rfl (by omega) (by omega) (l9q_at w5)
      clear hc5
      go_wp2_with fail
      refine CP.out.mono ?_
      rintro e w6 ⟨y2, hy2, rfl, hc6, _⟩
      have hyz2 := l9q_ok y2 hy2
      clear CP hy2
      go_wp2_with fail
      refine (HT.out x y2 _ hxz hyz2 hc6).mono ?_
      rintro e w7 ⟨u, rfl, hF⟩
      have HF : Hid (DpP w (.returned (.tuple #[u, .string x, .string y2])) w7) := hF
      clear hF hc6 HT
      go_wp2
      go_ret3
      exact HF.out
  · have CP := pick_lit w.heap.size w w4 g v 2 l9pL l9pC hc4 rfl (by omega) (by omega) (l9p_at w4)
    clear hc4
    go_wp2_with fail
    refine CP.out.mono ?_
    rintro e w5 ⟨x2, hx2, rfl, hc5, _⟩
    have hxz2 := l9p_ok x2 hx2
    clear CP hx2
    go_wp2_with fail
    refine (l01Once_in w.heap.size w _ g v 10 10 rfl hc5 (by omega) (by omega)).mono ?_
    rintro e w6 ⟨b2, rfl, hc6, _⟩
    clear hc5
    cases b2
    · go_wp2_with fail
      refine (HT.out x2 y _ hxz2 hyz hc6).mono ?_
      rintro e w7 ⟨u, rfl, hF⟩
      have HF : Hid (DpP w (.returned (.tuple #[u, .string x2, .string y])) w7) := hF
      clear hF hc6 HT
      go_wp2
      go_ret3
      exact HF.out
    · have CP := pick_lit w.heap.size w w6 g v 2 l9qL l9qC hc6 rfl (by omega) (by omega) (l9q_at w6)
      clear hc6
      go_wp2_with fail
      refine CP.out.mono ?_
      rintro e w7 ⟨y2, hy2, rfl, hc7, _⟩
      have hyz2 := l9q_ok y2 hy2
      clear CP hy2
      go_wp2_with fail
      refine (HT.out x2 y2 _ hxz2 hyz2 hc7).mono ?_
      rintro e w8 ⟨u, rfl, hF⟩
      have HF : Hid (DpP w (.returned (.tuple #[u, .string x2, .string y2])) w8) := hF
      clear hF hc7 HT
      go_wp2
      go_ret3
      exact HF.out

theorem lvT_size (L : List Le) : (lvT L).size ≤ 1100 := by
  cases h : LV.leavesB L
  · rw [lvT_no h]; show 0 ≤ 1100; omega
  · rw [lvT_yes h]
    have h2 := lvP_len (LV.leavesB_iff.1 h) L.length
    rw [lvP_all] at h2
    show (LV.lvL L).toArray.size ≤ 1100
    simpa using h2

/-- a drawn text to read leaves of -/
theorem DrawReadLeaves_any (w : World) (v : Value) (hc : Code w.heap.size w v) :
    Calls Tryd.prog 11 #[v] w fun e w' => ∃ t : ByteArray, e = .returned (.string t) ∧ t.size ≤ 1048576 ∧ Below w.heap.size w w' := by
  have HC : Hid (Code w.heap.size w v) := hc
  clear hc
  go_enter Tryd.func11, Tryd.ntmps11
  go_wp2_with fail
  refine (l01New_in w v HC.out).mono ?_
  rintro e w1 ⟨g, rfl, hc1, _⟩
  clear HC
  go_wp2_with fail
  refine (l01Below_in w.heap.size w _ g v 3 3 rfl hc1 (by omega) (by omega)).mono ?_
  rintro e w2 ⟨k, hk, rfl, hc2, _⟩
  clear hc1
  go_wp2_with fail
  refine (l09Any_in w.heap.size w _ g v hc2).mono ?_
  rintro e w3 ⟨u, L, rfl, hl, hI⟩
  clear hc2
  obtain ⟨q, hq, _⟩ := hI.2.1.rw (by omega)
  have hT := sLeavesText_any u q 0 L w3 hq.1 hI.2.2.1
  have hz := lvT_size L
  have HC3 : Hid (Cur w.heap.size w w3 g v) := hI.1
  generalize lvT L = T at *
  generalize LV.leavesB L = R at *
  clear hI hq
  go_wp2_with fail
  refine hT.mono ?_
  rintro e w4 ⟨rfl, hb4⟩
  have hc4 := HC3.out.bel hb4 HC3.out.lt HC3.out.size
  clear hT hb4 HC3
  have hkk : ((k : Int) = 0) ∨ ¬ ((k : Int) = 0) := by omega
  rcases hkk with h0 | h0
  · go_wp2_with fail
    refine (l02Spoilt_in w.heap.size w _ g v T hc4 (by omega)).mono ?_
    rintro e w5 ⟨y, rfl, hy, hc5, _⟩
    have HF : Hid (∃ t : ByteArray, Ending.returned (.string y) = .returned (.string t) ∧ t.size ≤ 1048576 ∧ Below w.heap.size w w5) := ⟨y, rfl, by omega, hc5.2.1⟩
    clear hc4 hc5 hy
    go_wp2
    go_ret
    exact HF.out
  · have HF : Hid (∃ t : ByteArray, Ending.returned (.string T) = .returned (.string t) ∧ t.size ≤ 1048576 ∧ Below w.heap.size w w4) := ⟨T, rfl, by omega, hc4.2.1⟩
    clear hc4
    go_wp2
    go_ret
    exact HF.out

end Go.Proofs.YtofdlkfihhjlgaaDoor
