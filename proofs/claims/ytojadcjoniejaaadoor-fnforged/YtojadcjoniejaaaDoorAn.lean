/-
  Drawn leaves, right or not.
-/
import Derived.Test.YtojadcjoniejaaaDoorPkE
import Derived.Test.YtojadcjoniejaaaDoorPkJ
import Derived.Test.YtojadcjoniejaaaDoorSpl
import Derived.Test.YtojadcjoniejaaaDoorPkD
namespace Go.Proofs.YtojadcjoniejaaaDoor
open Go.RowKit Go.BigFrame Go.Sort
set_option linter.unusedVariables false
set_option linter.unusedSimpArgs false

theorem grown_bel {w w2 w' : World} {row : Option Nat} (h : w.grownBy w2 row) (hb : Below w.heap.size w2 w') : w.grownBy w' row :=
  ⟨hb.os.trans h.os, hb.tape.trans h.tape, hb.output.trans h.output, Nat.le_trans h.size hb.size, fun k hk hne => (hb.block k hk).trans (h.block k hk hne)⟩
theorem Cur.bel {B Bx : Nat} {w0 w w' : World} {g : Nat} {v : Value} (h : Cur B w0 w g v) (hb : Below Bx w w') (hg : g < Bx) (hB : B ≤ Bx) : Cur B w0 w' g v := by
  obtain ⟨h1, h2, h3, i, x, hbl, h4⟩ := h
  exact ⟨h1, h2.trans (hb.mono hB), h3, i, x, (hb.block g hg).trans hbl, h4⟩
theorem OL.drawn {B Bx : Nat} {w0 w w1 : World} {g : Nat} {v u : Value} {l : List Le} (h : OL Bx w w u l) (hc : Cur B w0 w g v) (hg : w.grownBy w1 (some g)) : OL Bx w1 w1 u l := by
  obtain ⟨_, _, _, i, x, hbl, _⟩ := hc
  exact ⟨World.ownsRow.kept h.1 hg (.inr (h.ne hbl (by decide))), Below.refl _ _, Nat.le_trans h.2.2 hg.size⟩
theorem OL.self {Bx : Nat} {w0 w : World} {u : Value} {l : List Le} (h : OL Bx w0 w u l) : OL Bx w w u l := ⟨h.1, Below.refl _ _, h.2.2⟩
theorem SmallL.add {L : List Le} {f : Le} (h : SmallL L) (h1 : f.n.size ≤ 12) (h2 : f.v.size ≤ 12) : SmallL (L ++ [f]) := fun x hx => by
  rcases List.mem_append.1 hx with h0 | h0
  · exact h x h0
  · obtain rfl : x = f := by simpa using h0
    omega

/-- a list under way beside a cursor -/
def AnI (B : Nat) (w0 w : World) (g : Nat) (v u : Value) (L : List Le) (wr : World) : Prop := Cur B w0 wr g v ∧ OL w.heap.size wr wr u L ∧ SmallL L ∧ w.grownBy wr (some g)
/-- what l09Any answers -/
def AnP (B : Nat) (w0 w : World) (g : Nat) (v : Value) (e : Ending) (w' : World) : Prop := ∃ (u : Value) (L : List Le), e = .returned u ∧ L.length ≤ 25 ∧ AnI B w0 w g v u L w'
def AnR (B : Nat) (w0 w : World) (g : Nat) (v : Value) (u i : Value) (wr : World) : Prop := ∃ (m : Nat) (L : List Le), m ≤ 25 ∧ i = .int .i64 m ∧ L.length = m ∧ Hid (AnI B w0 w g v u L wr)

def l9wL : List ByteArray := [⟨#[]⟩, ⟨#[97, 32, 98]⟩, ⟨#[111, 107]⟩]
def l9wC : Array Value := #[.string ⟨#[]⟩, .string ⟨#[97, 32, 98]⟩, .string ⟨#[111, 107]⟩]
theorem l9w_at (w : World) : Hid (∀ j, (h : j < l9wL.length) → (w.alloc (.cells l9wC 9)).cell? ⟨w.heap.size, j, none⟩ = some (.string l9wL[j])) := by
  intro j hj
  rw [World.cell?_alloc_at _ _ _ _ rfl]
  have : j = 0 ∨ j = 1 ∨ j = 2 := by simp [l9wL] at hj; omega
  rcases this with rfl | rfl | rfl <;> rfl
theorem l9w_ok : ∀ y ∈ l9wL, y.size ≤ 12 := by decide +kernel

theorem AnI.app {B : Nat} {w0 w w3 w5 : World} {g : Nat} {v u u5 : Value} {L : List Le} {f : Le} (h : AnI B w0 w g v u L w3) (hg : g < w.heap.size) (hB : B ≤ w.heap.size) (ho : OL w.heap.size w3 w5 u5 (L ++ [f])) (h1 : f.n.size ≤ 12) (h2 : f.v.size ≤ 12) : AnI B w0 w g v u5 (L ++ [f]) w5 :=
  ⟨h.1.bel ho.2.1 hg hB, ho.self, h.2.2.1.add h1 h2, grown_bel h.2.2.2 ho.2.1⟩
theorem AnI.drawn {B : Nat} {w0 w w3 w4 : World} {g : Nat} {v u : Value} {L : List Le} (h : AnI B w0 w g v u L w3) (hc : Cur B w0 w4 g v) (hg : w3.grownBy w4 (some g)) : AnI B w0 w g v u L w4 :=
  ⟨hc, h.2.1.drawn h.1 hg, h.2.2.1, h.2.2.2.trans hg⟩
theorem AnI.new {B : Nat} {w0 w w3 : World} {g : Nat} {v u : Value} {L : List Le} (h : AnI B w0 w g v u L w3) : AnI B w0 w g v (.slice (some ⟨w3.heap.size, 0, none⟩) 0 0) [] (w3.alloc (.cells #[] 74)) :=
  ⟨h.1.kept (World.grownBy_alloc w3 _ none) (by simp) h.1.size (fun k hk => by cases hk), (OL.made w.heap.size w3 w3 (Below.refl _ _) h.2.1.2.2).self, fun f hf => absurd hf (by simp), h.2.2.2.trans (World.grownBy_alloc w3 _ (some g))⟩
theorem AnI.of {B : Nat} {w0 w w1 w2 w3 : World} {g : Nat} {v u : Value} {L : List Le} {a : Option Addr} {cap q : Nat} (hg1 : w.grownBy w1 (some g)) (hg : g < w.heap.size) (hB : B ≤ w.heap.size) (h : DvI B w0 (w1.alloc (.cells #[] 74)) g v a cap q L w2) (ho : OL w.heap.size w2 w3 u L) : AnI B w0 w g v u L w3 :=
  ⟨h.1.bel ho.2.1 hg hB, ho.self, fun f hf => by have := LV.leB_sizes (h.2.2.2.2.1.2.1 f hf); omega, grown_bel ((hg1.trans (World.grownBy_alloc w1 _ (some g))).trans h.2.2.2.2.2.2) ho.2.1⟩
/-- a new leaf's own block -/
theorem OL.beside {Bx : Nat} {w : World} {u : Value} {l : List Le} (h : OL Bx w w u l) (f : Le) : OL Bx w (w.alloc (.cells #[.string f.n, .string f.v] 74)) u l := h.later ((Below.refl _ _).alloc (Nat.le_refl _) _)
theorem leaf_new (w : World) (f : Le) : Hid ((w.alloc (.cells #[.string f.n, .string f.v] 74)).rangeAt w.heap.size 0 (lcs f)) := range_new _ [.string f.n, .string f.v] 74

set_option maxRecDepth 100000 in
set_option maxHeartbeats 4000000 in
theorem l09Any_in (B : Nat) (w0 w : World) (g : Nat) (v : Value) (hc : Cur B w0 w g v) :
    Calls Tryd.prog 54 #[.pointer (some ⟨g, 0, none⟩)] w (AnP B w0 w g v) := by
  have hB := hc.size
  have hgl := hc.lt
  go_enter Tryd.func54, Tryd.ntmps54
  go_wp2_with fail
  refine (l01Below_in B w0 _ g v 12 12 rfl hc (by omega) (by omega)).mono ?_
  rintro e w1 ⟨k, hk, rfl, hc1, hg1⟩
  clear hc
  have hca : Cur B w0 (w1.alloc (.cells #[] 74)) g v := hc1.kept (World.grownBy_alloc w1 _ none) (by simp) hc1.size (fun k hk => by cases hk)
  have ho1 : OL w.heap.size (w1.alloc (.cells #[] 74)) (w1.alloc (.cells #[] 74)) (.slice (some ⟨w1.heap.size, 0, none⟩) 0 0) [] := (OL.made w.heap.size w1 w1 (Below.refl _ _) hg1.size).self
  go_wp2_with fail
  refine (l09Draw_in B w0 _ g v hca).mono ?_
  rintro e w2 ⟨a, cap, q, L, rfl, hl8, hI⟩
  have HO : Hid (OL w.heap.size w2 w2 (.slice (some ⟨w1.heap.size, 0, none⟩) 0 0) []) := ho1.drawn hca hI.2.2.2.2.2.2
  have HI : Hid (DvI B w0 (w1.alloc (.cells #[] 74)) g v a cap q L w2) := hI
  clear hca ho1 hI hc1
  go_wp2_with (at_builtin; refine wp_rowL rfl _ _ rfl w.heap.size w2 w1.heap.size rfl HO.out a q 0 cap L rfl HI.out.2.1.1 HI.out.2.2.2.2.2.1 ?_)
  intro u3 w3 ho3
  have HA : Hid (AnI B w0 w g v u3 L w3) := AnI.of hg1 hgl hB HI.out ho3
  clear HO HI ho3 hg1
  have hkk : k = 0 ∨ k = 1 ∨ (¬ (k : Int) = 0 ∧ ¬ (k : Int) = 1 ∧ (k : Int) = 2) ∨ (¬ (k : Int) = 0 ∧ ¬ (k : Int) = 1 ∧ ¬ (k : Int) = 2) := by omega
  rcases hkk with rfl | rfl | ⟨h0, h1, h2⟩ | ⟨h0, h1, h2⟩
  · have hoa := HA.out.2.1.beside ⟨⟨#[97, 110, 110]⟩, ⟨#[107]⟩⟩
    have HRN := leaf_new w3 ⟨⟨#[97, 110, 110]⟩, ⟨#[107]⟩⟩
    go_wp2_with (at_builtin; refine wp_leafL rfl _ _ rfl w.heap.size w3 u3 L ⟨⟨#[97, 110, 110]⟩, ⟨#[107]⟩⟩ rfl hoa _ rfl HRN.out (by omega) ?_)
    intro g5 cap5 w5 ho5 hg5 hl5
    have HF : Hid (AnP B w0 w g v (.returned (.slice (some ⟨g5, 0, none⟩) (L.length + 1) cap5)) w5) := ⟨_, _, rfl, by simp; omega, HA.out.app hgl hB ho5 (by decide) (by decide)⟩
    clear ho5 hg5 hl5 hoa HRN HA
    go_wp2
    go_ret
    exact HF.out
  · have CP := pick_lit B w0 w3 g v 3 l9wL l9wC HA.out.1 rfl (by omega) (by omega) (l9w_at w3)
    go_wp2_with fail
    refine CP.out.mono ?_
    rintro e w4 ⟨y, hy, rfl, hc4, hg4⟩
    have hyz := l9w_ok y hy
    have HA4 : Hid (AnI B w0 w g v u3 L w4) := HA.out.drawn hc4 hg4
    clear HA hc4 hg4 CP
    have hoa := HA4.out.2.1.beside ⟨⟨#[122, 111, 101]⟩, y⟩
    have HRN := leaf_new w4 ⟨⟨#[122, 111, 101]⟩, y⟩
    go_wp2_with (at_builtin; refine wp_leafL rfl _ _ rfl w.heap.size w4 u3 L ⟨⟨#[122, 111, 101]⟩, y⟩ rfl hoa _ rfl HRN.out (by omega) ?_)
    intro g5 cap5 w5 ho5 hg5 hl5
    have HF : Hid (AnP B w0 w g v (.returned (.slice (some ⟨g5, 0, none⟩) (L.length + 1) cap5)) w5) := ⟨_, _, rfl, by simp; omega, HA4.out.app hgl hB ho5 (by show (⟨#[122, 111, 101]⟩ : ByteArray).size ≤ 12; decide) hyz⟩
    clear ho5 hg5 hl5 hoa HRN HA4
    go_wp2
    go_ret
    exact HF.out
  · have HST : Hid (AnR B w0 w g v (.slice (some ⟨w3.heap.size, 0, none⟩) 0 0) (.int .i64 0) (w3.alloc (.cells #[] 74))) := ⟨0, [], by omega, rfl, rfl, HA.out.new⟩
    clear HA hl8
    go_wp2
    clear h0 h1 h2
    go_loopw [4, 5] (fun u i wr => AnR B w0 w g v u i wr) (fun _ i _ => 26 - (intOf i).toNat)
    case atStart => exact HST.out
    case round =>
      obtain ⟨m, M, hm, rfl, hML, HI⟩ := hrel
      clear HST
      go_wp2_with fail
      refine (l01Below_in B w0 _ g v 2 2 rfl HI.out.1 (by omega) (by omega)).mono ?_
      rintro e w4 ⟨j, hj, rfl, hc4, hg4⟩
      have HA4 : Hid (AnI B w0 w g v u4 M w4) := HI.out.drawn hc4 hg4
      clear HI hc4 hg4
      by_cases hlt : m < 24 + j
      · have i1 : (m : Int) < 24 + (j : Int) := by omega
        have hcb : IntKind.u8.wrap (97 + (m : Int)) = 97 + (m : Int) := by
          have : IntKind.u8.wrap (97 + (m : Int)) = (97 + (m : Int)) % 256 := rfl
          omega
        have hone := one_s w4 (97 + (m : Int)) (UInt8.ofNat (97 + m)) (by have := byteI (97 + m) (by omega); omega)
        have hTz : (⟨[UInt8.ofNat (97 + m)].toArray⟩ : ByteArray).size = 1 := rfl
        generalize (⟨[UInt8.ofNat (97 + m)].toArray⟩ : ByteArray) = T at *
        have HB4 : Hid (AnI B w0 w g v u4 M w4 ∧ (⟨#[110]⟩ ++ T : ByteArray).size ≤ 12) := ⟨HA4.out, by rw [ByteArray.size_append, hTz]; decide⟩
        have hoa : OL w.heap.size w4 ((w4.alloc (.cells #[.int .u8 (97 + (m : Int))] 5)).alloc (.cells #[.string (⟨#[110]⟩ ++ T), .string ⟨#[118]⟩] 74)) u4 M := HA4.out.2.1.later (((Below.refl _ _).alloc (Nat.le_refl _) _).alloc (by simp) _)
        have HRN : Hid (((w4.alloc (.cells #[.int .u8 (97 + (m : Int))] 5)).alloc (.cells #[.string (⟨#[110]⟩ ++ T), .string ⟨#[118]⟩] 74)).rangeAt (w4.heap.size + 1) 0 (lcs ⟨⟨#[110]⟩ ++ T, ⟨#[118]⟩⟩)) := by
          have h := (leaf_new (w4.alloc (.cells #[.int .u8 (97 + (m : Int))] 5)) ⟨⟨#[110]⟩ ++ T, ⟨#[118]⟩⟩).out
          rw [show (w4.alloc (.cells #[.int .u8 (97 + (m : Int))] 5)).heap.size = w4.heap.size + 1 by simp] at h
          exact h
        clear HA4
        go_wp2_with (at_builtin; refine wp_leafL rfl _ _ rfl w.heap.size w4 u4 M ⟨⟨#[110]⟩ ++ T, ⟨#[118]⟩⟩ rfl hoa _ rfl HRN.out (by omega) ?_)
        intro g5 cap5 w5 ho5 hg5 hl5
        have HK : Hid (AnI B w0 w g v (.slice (some ⟨g5, 0, none⟩) (m + 1) cap5) (M ++ [⟨⟨#[110]⟩ ++ T, ⟨#[118]⟩⟩]) w5) := HB4.out.1.app hgl hB ho5 HB4.out.2 (by show (⟨#[118]⟩ : ByteArray).size ≤ 12; decide)
        clear ho5 hg5 hl5 hoa HRN HB4 hone
        go_wp2
        go_roundw
        case rel => exact ⟨m + 1, _, by omega, by go_num, by simp; omega, HK⟩
        case measure => simp [intOf]; omega
      · have i1 : ¬ (m : Int) < 24 + (j : Int) := by omega
        have HF : Hid (AnP B w0 w g v (.returned u4) w4) := ⟨_, M, rfl, by omega, HA4.out⟩
        clear HA4
        go_wp2
        go_ret
        exact HF.out
  · have HF : Hid (AnP B w0 w g v (.returned u3) w3) := ⟨_, L, rfl, by omega, HA.out⟩
    clear HA
    go_wp2
    go_ret
    exact HF.out

end Go.Proofs.YtojadcjoniejaaaDoor
