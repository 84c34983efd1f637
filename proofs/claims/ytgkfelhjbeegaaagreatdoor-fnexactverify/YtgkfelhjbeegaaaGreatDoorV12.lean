/-
  Texts laid together: Wy, Short, Tag, Stx.
-/
import Derived.Test.YtgkfelhjbeegaaaGreatDoorV08
import Derived.Test.YtgkfelhjbeegaaaGreatDoorV09
import Derived.Test.YtgkfelhjbeegaaaGreatDoorV11
import Derived.Lib.QuietBelow
import Derived.BigQuiet
import Derived.Test.YtgkfelhjbeegaaaGreatDoorV01
import Derived.Test.YtgkfelhjbeegaaaGreatDoorV02
import Derived.Lib.AppendStr
import Derived.Deep.RegionHeld3
import Derived.Test.YtgkfelhjbeegaaaGreatDoorV10
/-
  What the laws' own helpers do with stamps: measured, taken over, compared.
-/
namespace Go.Proofs.YtgkfelhjbeegaaaGreatDoor
open Go.RowKit Go.BigFrame Go.Sort
set_option linter.unusedVariables false
set_option linter.unusedSimpArgs false

theorem SS.grownS {W W' : World} {v : Value} {g o : Nat} {l : List ByteArray} {row : Option Nat} (h : SS W v g o l) (hg : W.grownBy W' row) (hne : 0 < l.length → some g ≠ row) : SS W' v g o l := by
  have hlt := h.lt
  obtain ⟨a, cap, h1, h2, h3, h4⟩ := h
  exact ⟨a, cap, h1, h2, h3, fun j hj => (cell_kept (hg.block g (hlt (by omega)) (hne (by omega)))).trans (h4 j hj)⟩
/-- v reads as these texts, somewhere behind block g -/
def SXn (W : World) (v : Value) (l : List ByteArray) (g : Nat) : Prop := ∃ g1 o1, SS W v g1 o1 l ∧ (0 < l.length → g < g1)
theorem SXn.sx {W : World} {v : Value} {l : List ByteArray} {g : Nat} (h : SXn W v l g) : SX W v l := by
  obtain ⟨g1, o1, h1, _⟩ := h
  exact ⟨g1, o1, h1⟩
theorem SXn.later {W W' : World} {v : Value} {l : List ByteArray} {g : Nat} (h : SXn W v l g) (hb : Below W.heap.size W W') : SXn W' v l g := by
  obtain ⟨g1, o1, h1, h2⟩ := h
  exact ⟨g1, o1, h1.below hb h1.lt, h2⟩
theorem SXn.grown {W W' : World} {v : Value} {l : List ByteArray} {g q : Nat} (h : SXn W v l g) (hg : W.grownBy W' (some q)) (hq : q ≤ g) : SXn W' v l g := by
  obtain ⟨g1, o1, h1, h2⟩ := h
  exact ⟨g1, o1, h1.grownS hg (fun h => by have := h2 h; simp; omega), h2⟩
theorem SXn.mono {W : World} {v : Value} {l : List ByteArray} {g g' : Nat} (h : SXn W v l g) (hg : g' ≤ g) : SXn W v l g' := by
  obtain ⟨g1, o1, h1, h2⟩ := h
  exact ⟨g1, o1, h1, fun h => by have := h2 h; omega⟩

/-- a row that was measured is small: v has just so many as l -/
def SmT (v : Value) (l : List ByteArray) : Prop := ∃ a cap, v = .slice a l.length cap ∧ l.length ≤ 1048576
theorem SmT.ss {w : World} {v : Value} {g o : Nat} {l : List ByteArray} (hs : SmT v l) (h : IsRowT w v g o l) : SS w v g o l := by
  obtain ⟨a', n, cap, hv, hn, hr⟩ := h
  obtain ⟨_, c', hv', hl⟩ := hs
  have hn2 : n = l.length := by rw [hv] at hv'; simp at hv'; exact hv'.2.1
  exact (hr (by omega)).2.1
theorem SmT.of {w : World} {v : Value} {g o : Nat} {l : List ByteArray} (h : SS w v g o l) (hl : l.length ≤ 1048576) : SmT v l := by
  obtain ⟨a, c, hv, _⟩ := h
  exact ⟨a, c, hv, hl⟩

set_option maxRecDepth 100000 in
set_option maxHeartbeats 1000000 in
/-- a signature that was handed in, measured -/
theorem szSigT_row (a : Int) (v1 v2 v3 : Value) (g1 o1 g2 o2 g3 o3 : Nat) (l1 l2 l3 : List ByteArray) (x : Int) (w : World) (hx0 : 0 ≤ x) (hx1 : x ≤ 1048576) (h1 : IsRowT w v1 g1 o1 l1) (h2 : IsRowT w v2 g2 o2 l2) (h3 : IsRowT w v3 g3 o3 l3) :
    Calls Tryz.prog 36 #[.agg #[.int .i64 a, v1, v2, v3], .int .i64 x] w fun e w' => ∃ A : Int, e = .returned (.int .i64 A) ∧ Below w.heap.size w w' ∧ A ≤ x ∧ (0 ≤ A → SmT v1 l1 ∧ SmT v2 l2 ∧ SmT v3 l3) := by
  have hb : Below w.heap.size w (w.alloc (.cells #[.int .i64 a, v1, v2, v3] 31)) := below_alloc _ _
  have HBX : Hid (Box 31 (w.alloc (.cells #[.int .i64 a, v1, v2, v3] 31)) w.heap.size [.int .i64 a, v1, v2, v3]) := Box.new _ _ _
  have H1 : Hid (∀ y : Int, 0 ≤ y → y ≤ x → Calls Tryz.prog 12 #[v1, .int .i64 y] (w.alloc (.cells #[.int .i64 a, v1, v2, v3] 31)) fun e w' => ∃ A : Int, e = .returned (.int .i64 A) ∧ w' = (w.alloc (.cells #[.int .i64 a, v1, v2, v3] 31)) ∧ A ≤ y ∧ (0 ≤ A → SmT v1 l1)) := fun y hy hyx => (szStringS_row v1 g1 o1 l1 y _ (h1.later hb) hy (by omega)).mono fun e w' ⟨A, he, hw, hA, hB⟩ => ⟨A, he, hw, hA, fun h => SmT.of (hB h).1 (hB h).2.2.2⟩
  have H2 : Hid (∀ y : Int, 0 ≤ y → y ≤ x → Calls Tryz.prog 12 #[v2, .int .i64 y] (w.alloc (.cells #[.int .i64 a, v1, v2, v3] 31)) fun e w' => ∃ A : Int, e = .returned (.int .i64 A) ∧ w' = (w.alloc (.cells #[.int .i64 a, v1, v2, v3] 31)) ∧ A ≤ y ∧ (0 ≤ A → SmT v2 l2)) := fun y hy hyx => (szStringS_row v2 g2 o2 l2 y _ (h2.later hb) hy (by omega)).mono fun e w' ⟨A, he, hw, hA, hB⟩ => ⟨A, he, hw, hA, fun h => SmT.of (hB h).1 (hB h).2.2.2⟩
  have H3 : Hid (∀ y : Int, 0 ≤ y → y ≤ x → Calls Tryz.prog 12 #[v3, .int .i64 y] (w.alloc (.cells #[.int .i64 a, v1, v2, v3] 31)) fun e w' => ∃ A : Int, e = .returned (.int .i64 A) ∧ w' = (w.alloc (.cells #[.int .i64 a, v1, v2, v3] 31)) ∧ A ≤ y ∧ (0 ≤ A → SmT v3 l3)) := fun y hy hyx => (szStringS_row v3 g3 o3 l3 y _ (h3.later hb) hy (by omega)).mono fun e w' ⟨A, he, hw, hA, hB⟩ => ⟨A, he, hw, hA, fun h => SmT.of (hB h).1 (hB h).2.2.2⟩
  have HB : Hid (Below w.heap.size w (w.alloc (.cells #[.int .i64 a, v1, v2, v3] 31))) := hb
  have z1 := HBX.out.at 1 _ rfl
  have z2 := HBX.out.at 2 _ rfl
  have z3 := HBX.out.at 3 _ rfl
  clear h1 h2 h3 hb HBX
  go_enter Tryz.func36, Tryz.ntmps36
  go_wp2_with fail
  refine (H1.out _ hx0 (Int.le_refl _)).mono ?_
  rintro e w' ⟨A1, rfl, rfl, hA1, HN1⟩
  have HM1 : Hid (0 ≤ A1 → SmT v1 l1) := HN1
  clear HN1
  by_cases hn1 : A1 < 0
  · go_wp2
    go_ret
    exact ⟨-1, rfl, HB.out, by omega, fun h => by omega⟩
  · go_wp2_with fail
    refine (H2.out _ (by omega) hA1).mono ?_
    rintro e w' ⟨A2, rfl, rfl, hA2, HN2⟩
    have HM2 : Hid (0 ≤ A2 → SmT v2 l2) := HN2
    clear HN2
    by_cases hn2 : A2 < 0
    · go_wp2
      go_ret
      exact ⟨-1, rfl, HB.out, by omega, fun h => by omega⟩
    · go_wp2_with fail
      refine (H3.out _ (by omega) (by omega)).mono ?_
      rintro e w' ⟨A3, rfl, rfl, hA3, HN3⟩
      have HM3 : Hid (0 ≤ A3 → SmT v3 l3) := HN3
      clear HN3
      by_cases hn3 : A3 < 0
      · go_wp2
        go_ret
        exact ⟨-1, rfl, HB.out, by omega, fun h => by omega⟩
      · go_wp2
        go_ret
        exact ⟨A3, rfl, HB.out, by omega, fun h => ⟨HM1.out (by omega), HM2.out (by omega), HM3.out h⟩⟩

/-- a stamp that was handed in is this one, if it is small -/
def IsSt (w : World) (x : StV) (y : Stm) : Prop := x.b = y.b ∧ x.a = y.a ∧ (∃ g o, IsRowT w x.v1 g o y.o) ∧ (∃ g o, IsRowT w x.v2 g o y.s) ∧ ∃ g o, IsRowT w x.v3 g o y.d
theorem IsSt.later {w w' : World} {x : StV} {y : Stm} (h : IsSt w x y) (hb : Below w.heap.size w w') : IsSt w' x y := by
  obtain ⟨h1, h2, ⟨g, o, h3⟩, ⟨g2, o2, h4⟩, ⟨g3, o3, h5⟩⟩ := h
  exact ⟨h1, h2, ⟨g, o, h3.later hb⟩, ⟨g2, o2, h4.later hb⟩, ⟨g3, o3, h5.later hb⟩⟩
def SmS (x : StV) (y : Stm) : Prop := SmT x.v1 y.o ∧ SmT x.v2 y.s ∧ SmT x.v3 y.d
theorem SmS.sg {w : World} {x : StV} {y : Stm} (hs : SmS x y) (h : IsSt w x y) : SgV w x y := by
  obtain ⟨h1, h2, ⟨g, o, h3⟩, ⟨g2, o2, h4⟩, ⟨g3, o3, h5⟩⟩ := h
  exact ⟨h1, h2, ⟨g, o, hs.1.ss h3⟩, ⟨g2, o2, hs.2.1.ss h4⟩, ⟨g3, o3, hs.2.2.ss h5⟩⟩
/-- a row of stamps that was handed in, great or small -/
def IsRowG (w : World) (v : Value) (g o : Nat) (V : List StV) (L : List Stm) : Prop := ∃ a n cap, v = .slice a n cap ∧ n ≤ 9223372036854775807 ∧ (n ≤ 1100000 → V.length = n ∧ L.length = n ∧ RS 5 stcs w v g o V ∧ ∀ j (h : j < V.length) (h' : j < L.length), IsSt w V[j] L[j])
theorem IsRowG.later {w w' : World} {v : Value} {g o : Nat} {V : List StV} {L : List Stm} (h : IsRowG w v g o V L) (hb : Below w.heap.size w w') : IsRowG w' v g o V L := by
  obtain ⟨a, n, cap, hv, hn, hr⟩ := h
  exact ⟨a, n, cap, hv, hn, fun hl => ⟨(hr hl).1, (hr hl).2.1, (hr hl).2.2.1.later hb, fun j h h' => ((hr hl).2.2.2 j h h').later hb⟩⟩
/-- it was measured, and is small -/
def SmG (v : Value) (V : List StV) (L : List Stm) : Prop := (∃ a cap, v = .slice a L.length cap ∧ L.length ≤ 1048576) ∧ ∀ j (h : j < V.length) (h' : j < L.length), SmS V[j] L[j]
theorem SmG.sts {w : World} {v : Value} {g o : Nat} {V : List StV} {L : List Stm} (hs : SmG v V L) (h : IsRowG w v g o V L) : StS w v g o L := by
  obtain ⟨a', n, cap, hv, hn, hr⟩ := h
  obtain ⟨⟨_, c', hv', hl⟩, hj⟩ := hs
  have hn2 : n = L.length := by rw [hv] at hv'; simp at hv'; exact hv'.2.1
  obtain ⟨h1, h2, h3, h4⟩ := hr (by omega)
  exact ⟨V, by omega, h3, fun j h h' => (hj j h' h).sg (h4 j h' h)⟩

set_option maxRecDepth 100000 in
set_option maxHeartbeats 1000000 in
theorem szStamp_any (x : StV) (y : Stm) (z : Int) (w : World) (h : IsSt w x y) (h0 : 0 ≤ z) (h1 : z ≤ 1048576) :
    Calls Tryz.prog 37 #[.agg #[.int .i64 x.b, .int .i64 x.a, x.v1, x.v2, x.v3], .int .i64 z] w fun e w' => ∃ A : Int, e = .returned (.int .i64 A) ∧ Below w.heap.size w w' ∧ A ≤ z ∧ (0 ≤ A → SmS x y) := by
  obtain ⟨k1, k2, ⟨g1, o1, r1⟩, ⟨g2, o2, r2⟩, ⟨g3, o3, r3⟩⟩ := h
  clear k1 k2
  obtain ⟨xb, xa, v1, v2, v3⟩ := x
  simp only at r1 r2 r3 ⊢
  have HX : Hid (Below w.heap.size w (w.alloc (.cells #[.int .i64 xb, .int .i64 xa, v1, v2, v3] 92)) ∧ Box 92 (w.alloc (.cells #[.int .i64 xb, .int .i64 xa, v1, v2, v3] 92)) w.heap.size [.int .i64 xb, .int .i64 xa, v1, v2, v3]) := ⟨below_alloc _ _, Box.new _ _ _⟩
  have hsz := szSigT_row xa v1 v2 v3 g1 o1 g2 o2 g3 o3 y.o y.s y.d z _ h0 h1 (r1.later HX.out.1) (r2.later HX.out.1) (r3.later HX.out.1)
  obtain ⟨b1, n1, c1, rfl, k1⟩ := r1
  obtain ⟨b2, n2, c2, rfl, k2⟩ := r2
  obtain ⟨b3, n3, c3, rfl, k3⟩ := r3
  clear k1 k2 k3
  have z1 := HX.out.2.at 1 _ rfl
  have z2 := HX.out.2.at 2 _ rfl
  have z3 := HX.out.2.at 3 _ rfl
  have z4 := HX.out.2.at 4 _ rfl
  go_enter Tryz.func37, Tryz.ntmps37
  go_wp2_with fail
  refine hsz.mono ?_
  rintro e w1 ⟨A, rfl, hb1, hA, hA2⟩
  have HA2 : Hid (0 ≤ A → SmS ⟨xb, xa, .slice b1 n1 c1, .slice b2 n2 c2, .slice b3 n3 c3⟩ y) := hA2
  have HB : Hid (Below w.heap.size w w1) := HX.out.1.trans (hb1.mono HX.out.1.size)
  clear hb1 hA2 hsz z1 z2 z3 z4 HX
  by_cases hneg : A < 0
  · go_wp2
    go_ret
    exact ⟨_, rfl, HB.out, by omega, fun h => by omega⟩
  · go_wp2
    go_ret
    exact ⟨_, rfl, HB.out, by omega, fun h => HA2.out h⟩

def SzG (V : List StV) (L : List Stm) (x0 : Int) (w : World) (x i : Value) (wr : World) : Prop := ∃ (m : Nat) (y : Int), m ≤ L.length ∧ i = .int .i64 m ∧ x = .int .i64 y ∧ 0 ≤ y ∧ y ≤ x0 ∧ Hid (∀ j (h : j < V.length) (h' : j < L.length), j < m → SmS V[j] L[j]) ∧ Below w.heap.size w wr

set_option maxRecDepth 100000 in
set_option maxHeartbeats 1000000 in
theorem szStampS_row (v : Value) (g o : Nat) (V : List StV) (L : List Stm) (x : Int) (w : World) (hv : IsRowG w v g o V L) (h0 : 0 ≤ x) (h1 : x ≤ 1048576) :
    Calls Tryz.prog 15 #[v, .int .i64 x] w fun e w' => ∃ A : Int, e = .returned (.int .i64 A) ∧ Below w.heap.size w w' ∧ A ≤ x ∧ (0 ≤ A → SmG v V L) := by
  obtain ⟨a, n, cap, rfl, hn, hr⟩ := hv
  by_cases hbig : x < (n : Int)
  · have q : x - (n : Int) < 0 := by omega
    go_enter Tryz.func15, Tryz.ntmps15
    go_wp2
    go_ret
    exact ⟨_, rfl, Below.refl _ _, by omega, fun h => by omega⟩
  obtain ⟨hvn, hln, hrs, hst⟩ := hr (by omega)
  have HRS : Hid (RS 5 stcs w (.slice a n cap) g o V) := hrs
  have HSZ : Hid (∀ j (h : j < V.length) (h' : j < L.length), IsSt w V[j] L[j]) := hst
  have HLN : Hid (L.length = n ∧ V.length = n) := ⟨hln, hvn⟩
  obtain ⟨a', c', ev, _, hA, _⟩ := hrs
  have HA : Hid (0 < n → a = some ⟨g, o, none⟩) := fun h => by
    have := (hA (by omega)).1
    simp at ev
    rw [ev.1, this]
  clear hr hA hst ev
  have q : ¬ x - (n : Int) < 0 := by omega
  go_enter Tryz.func15, Tryz.ntmps15
  go_wp2
  go_loopw [1, 5] (fun y i wr => SzG V L (x - (n : Int)) w y i wr) (fun _ i _ => n - (intOf i).toNat)
  case atStart => exact ⟨0, x - (n : Int), by omega, rfl, by go_num, by omega, by omega, fun j _ _ h => by omega, Below.refl _ _⟩
  case round =>
    obtain ⟨m, y, hm, rfl, rfl, hy0, hy1, HJ, hbel⟩ := hrel
    by_cases hlt : m < n
    · have ea := HA.out (by omega)
      subst ea
      have hmV : m < V.length := by omega
      have hmL : m < L.length := by omega
      obtain ⟨c0, c1, c2, c3, c4⟩ := (HRS.out.later hbel).stamp m hmV
      have hsz := szStamp_any V[m] L[m] y wr ((HSZ.out m hmV hmL).later hbel) hy0 (by omega)
      have hshp := HSZ.out m hmV hmL
      have HX : Hid (∀ A : Int, (0 ≤ A → SmS V[m] L[m]) → 0 ≤ A → ∀ j (h : j < V.length) (h' : j < L.length), j < m + 1 → SmS V[j] L[j]) := fun A hA h j hj hj' hjm => by
        rcases Nat.lt_or_ge j m with h3 | h3
        · exact HJ.out j hj hj' h3
        · have : j = m := by omega
          subst this
          exact hA h
      have HSM : Hid (SmS V[m] L[m] = SmS V[m] L[m]) := rfl
      generalize hXX : SmS V[m] L[m] = SS1 at *
      generalize V[m] = X at *
      obtain ⟨xb, xa, u1, u2, u3⟩ := X
      obtain ⟨f1, f2, ⟨f3, f4, b1, k1, d1, e1, f5⟩, ⟨f6, f7, b2, k2, d2, e2, f8⟩, ⟨f9, f10, b3, k3, d3, e3, f11⟩⟩ := hshp
      clear f1 f2 f5 f8 f11
      simp only at e1 e2 e3 c0 c1 c2 c3 c4 hsz
      subst e1
      subst e2
      subst e3
      have i1 : (m : Int) < (n : Int) := by omega
      have i2 : (0 : Int) ≤ (m : Int) := by omega
      clear HA HRS HSZ hXX HSM
      go_wp2_with fail
      refine hsz.mono ?_
      rintro e w1 ⟨A, rfl, hb1, hA1, hA2⟩
      have hbel1 := hbel.trans (hb1.mono hbel.size)
      have HA2 : Hid (0 ≤ A → ∀ j (h : j < V.length) (h' : j < L.length), j < m + 1 → SmS V[j] L[j]) := HX.out A hA2
      clear hb1 hA2 c0 c1 c2 c3 c4 hbel HX hsz
      by_cases hneg : A < 0
      · clear HJ HA2
        go_wp2
        try rw [Exit.noGoto_ret]
        go_ret
        exact ⟨_, rfl, hbel1, by omega, fun h => by omega⟩
      · have HA3 : Hid (∀ j (h : j < V.length) (h' : j < L.length), j < m + 1 → SmS V[j] L[j]) := HA2.out (by omega)
        clear HA2 HJ
        go_wp2
        go_roundw
        case rel => exact ⟨m + 1, A, by omega, by go_num, rfl, by omega, by omega, HA3, hbel1⟩
        case measure => simp [intOf]; omega
    · have hme : m = n := by omega
      have HF : Hid (SmG (.slice a n cap) V L) := ⟨⟨a, cap, by rw [HLN.out.1], by omega⟩, fun j h h' => HJ.out j h h' (by omega)⟩
      subst hme
      clear HJ HA HRS HSZ
      go_wp2
      go_ret
      exact ⟨_, rfl, hbel, by omega, fun _ => HF.out⟩

end Go.Proofs.YtgkfelhjbeegaaaGreatDoor
/-
  What ShortText answers, the program's and the specification's: varL of the length, and the text.
-/
namespace Go.Proofs.YtgkfelhjbeegaaaGreatDoor
open Go.RowKit

theorem varA_size (n : Nat) : (⟨(M.varL n).toArray⟩ : ByteArray).size ≤ 10 := by
  have := M.varL_len n
  show (M.varL n).toArray.size ≤ 10
  simpa using this

theorem Short_yes (s : ByteArray) (w : World) (hs : s.size ≤ 20000) :
    Calls Tryz.prog 139 #[.string s] w fun e w' => e = .returned (.tuple #[.string (⟨(M.varL s.size).toArray⟩ ++ s), .bool true]) ∧ Below w.heap.size w w' := by
  have hz := varA_size s.size
  go_enter Tryz.func139, Tryz.ntmps139
  go_wp2_with fail
  refine (VarText_yes s.size _ (by omega)).mono ?_
  rintro e w' ⟨rfl, hb⟩
  go_wp2
  go_ret2
  exact ⟨rfl, hb⟩

theorem Short_no (s : ByteArray) (w : World) (hs : 20000 < s.size) (hm : s.size ≤ 1048576) :
    Calls Tryz.prog 139 #[.string s] w fun e w' => e = .returned (.tuple #[.string ⟨#[]⟩, .bool false]) ∧ Below w.heap.size w w' := by
  go_enter Tryz.func139, Tryz.ntmps139
  go_wp2
  go_ret2
  exact ⟨rfl, Below.refl _ _⟩

end Go.Proofs.YtgkfelhjbeegaaaGreatDoor
/-
  What TagText answers, the program's and the specification's.
-/
namespace Go.Proofs.YtgkfelhjbeegaaaGreatDoor
open Go.RowKit
set_option linter.unusedVariables false

/-- a part behind its length -/
def tagP (p : ByteArray) : List UInt8 := M.varL p.size ++ p.data.toList
def tagL (k : Nat) (l : List ByteArray) : List UInt8 := UInt8.ofNat k :: l.flatMap tagP
def tagOk (k : Int) (l : List ByteArray) : Bool := decide ((1 ≤ k ∧ k ≤ 8) ∧ l.length ≤ 60) && l.all (fun p => decide (p.size ≤ 200))
def tagB (k : Int) (l : List ByteArray) : ByteArray := if tagOk k l then ⟨(tagL k.toNat l).toArray⟩ else ⟨#[]⟩
def tagS (k : Nat) (l : List ByteArray) : ByteArray := ⟨(tagL k l).toArray⟩

theorem tagOk_head (k : Int) (l : List ByteArray) (h : ¬ ((1 ≤ k ∧ k ≤ 8) ∧ l.length ≤ 60)) : tagOk k l = false := by
  unfold tagOk
  rw [decide_eq_false h, Bool.false_and]
theorem tagOk_part (k : Int) (l : List ByteArray) (m : Nat) (h : m < l.length) (hb : 200 < l[m].size) : tagOk k l = false := by
  unfold tagOk
  have : l.all (fun p => decide (p.size ≤ 200)) = false := by
    rw [List.all_eq_false]
    exact ⟨l[m], List.getElem_mem _, by simp; omega⟩
  rw [this, Bool.and_false]
theorem tagOk_yes (k : Int) (l : List ByteArray) (h : (1 ≤ k ∧ k ≤ 8) ∧ l.length ≤ 60) (hp : ∀ m (h : m < l.length), l[m].size ≤ 200) : tagOk k l = true := by
  unfold tagOk
  have : l.all (fun p => decide (p.size ≤ 200)) = true := by
    rw [List.all_eq_true]
    intro x hx
    obtain ⟨j, hj, rfl⟩ := List.getElem_of_mem hx
    simpa using hp j hj
  rw [this, decide_eq_true h]
  rfl
theorem tagB_no {k : Int} {l : List ByteArray} (h : tagOk k l = false) : tagB k l = ⟨#[]⟩ := by
  unfold tagB
  rw [h]
  rfl
theorem tagB_yes {k : Nat} {l : List ByteArray} (h : tagOk (k : Int) l = true) : tagB (k : Int) l = tagS k l := by
  unfold tagB
  rw [h]
  rfl

theorem tagP_len (p : ByteArray) : (tagP p).length ≤ p.size + 10 := by
  have := M.varL_len p.size
  have e : p.data.toList.length = p.size := Array.length_toList
  unfold tagP
  rw [List.length_append]
  omega
theorem tagL_step (k : Nat) (l : List ByteArray) (m : Nat) (h : m < l.length) : tagL k (l.take (m + 1)) = tagL k (l.take m) ++ tagP l[m] := by
  unfold tagL
  rw [← List.take_append_getElem h, List.flatMap_append]
  simp
theorem tagS_step (k : Nat) (l : List ByteArray) (m : Nat) (h : m < l.length) : (tagS k (l.take m) ++ ⟨(M.varL l[m].size).toArray⟩) ++ l[m] = tagS k (l.take (m + 1)) := by
  apply ByteArray.ext
  apply Array.toList_inj.1
  unfold tagS
  rw [tagL_step k l m h]
  simp [tagP, ByteArray.data_append]
theorem tagL_len (k : Nat) (l : List ByteArray) (m : Nat) (hm : m ≤ l.length) (hp : ∀ j (h : j < l.length), j < m → l[j].size ≤ 200) : (tagL k (l.take m)).length ≤ 1 + 210 * m := by
  induction m with
  | zero => simp [tagL]
  | succ m ih =>
    have h1 := ih (by omega) (fun j hj hlt => hp j hj (by omega))
    rw [tagL_step k l m (by omega), List.length_append]
    have h2 := tagP_len (l[m]'(by omega))
    have h3 := hp m (by omega) (by omega)
    omega

/-- 'string([]byte{x})' -/
theorem one_s (w : World) (x : Int) (b : UInt8) (h : x = (b.toNat : Int)) : (convert 131 9 (.slice (some ⟨w.heap.size, 0, none⟩) 1 1)).run Tryz.prog (w.alloc (.cells #[.int .u8 x] 5)) = .ok (.string ⟨[b].toArray⟩) (w.alloc (.cells #[.int .u8 x] 5)) := by
  subst h
  refine run_convert_bytes_back _ 131 9 5 ⟨w.heap.size, 0, none⟩ 1 [b] Tryz.underlying131 Tryz.underlying5 Tryz.underlying9 ?_
  intro j hj
  have h0 : j = 0 := by simp at hj; exact hj
  subst h0
  simp [Addr.add]

theorem l01Var_v (n : Nat) (V : ByteArray) (w : World) (hn : n ≤ 1000000000) (hV : (⟨(M.varL n).toArray⟩ : ByteArray) = V) :
    Calls Tryz.prog 95 #[.int .i64 n] w fun e w' => e = .returned (.string V) ∧ Below w.heap.size w w' := by
  subst hV
  exact l01Var_any n w hn

/-- what the loop of the specification's TagText holds at each round's head -/
def TgS (k : Nat) (l : List ByteArray) (w : World) (s i : Value) (wr : World) : Prop :=
  ∃ m : Nat, m ≤ l.length ∧ i = .int .i64 m ∧ s = .string (tagS k (l.take m)) ∧ Hid (∀ j (h : j < l.length), j < m → l[j].size ≤ 200) ∧ Below w.heap.size w wr

theorem pt_step {l : List ByteArray} {m : Nat} (hm : m < l.length) (hp : l[m].size ≤ 200) (h : ∀ j (h : j < l.length), j < m → l[j].size ≤ 200) : Hid (∀ j (h : j < l.length), j < m + 1 → l[j].size ≤ 200) := by
  intro j hj hlt
  rcases Nat.lt_or_ge j m with h1 | h1
  · exact h j hj h1
  · have : j = m := by omega
    subst this
    exact hp

theorem sTagText_no (k : Int) (a : Option Addr) (n cap : Nat) (w : World) (h : ¬ ((1 ≤ k ∧ k ≤ 8) ∧ n ≤ 60)) (hn : n ≤ 1100000) :
    Calls Tryz.prog 74 #[.int .i64 k, .slice a n cap] w fun e w' => e = .returned (.tuple #[.string ⟨#[]⟩, .bool false]) ∧ Below w.heap.size w w' := by
  by_cases hk : 1 ≤ k ∧ k ≤ 8
  · have hd : decide ((1 : Int) ≤ k ∧ k ≤ 8) = true := by simp; omega
    have hnn : 60 < n := by omega
    clear h
    go_enter Tryz.func74, Tryz.ntmps74
    go_wp2_with fail
    refine (l01In_any _ _ _ _).mono ?_
    rintro e w' ⟨rfl, rfl⟩
    rw [hd]
    go_wp2
    go_ret2
    exact ⟨rfl, Below.refl _ _⟩
  · have hd : decide ((1 : Int) ≤ k ∧ k ≤ 8) = false := by simp; omega
    clear h
    go_enter Tryz.func74, Tryz.ntmps74
    go_wp2_with fail
    refine (l01In_any _ _ _ _).mono ?_
    rintro e w' ⟨rfl, rfl⟩
    rw [hd]
    go_wp2
    go_ret2
    exact ⟨rfl, Below.refl _ _⟩

set_option maxRecDepth 100000 in
set_option maxHeartbeats 1000000 in
theorem sTagText_in (k : Nat) (v : Value) (g o : Nat) (l : List ByteArray) (w : World) (h1 : 1 ≤ k) (h8 : k ≤ 8) (hl : l.length ≤ 60) (hv : SS w v g o l) :
    Calls Tryz.prog 74 #[.int .i64 k, v] w fun e w' => e = .returned (.tuple #[.string (tagB (k : Int) l), .bool (tagOk (k : Int) l)]) ∧ Below w.heap.size w w' := by
  have hgl := hv.lt
  obtain ⟨a, cap, rfl, _, hA, hc⟩ := hv
  have hd : decide ((1 : Int) ≤ (k : Int) ∧ (k : Int) ≤ 8) = true := by simp; omega
  obtain ⟨n, hn⟩ : ∃ n, l.length = n := ⟨_, rfl⟩
  have HA : Hid (0 < n → a = some ⟨g, o, none⟩ ∧ g < w.heap.size) := by rw [← hn]; exact fun h => ⟨hA h, hgl h⟩
  have HC : Hid (∀ j (h : j < l.length), w.cell? ⟨g, o + j, none⟩ = some (.string l[j])) := hc
  obtain ⟨T, hT⟩ : ∃ T, tagB (k : Int) l = T := ⟨_, rfl⟩
  obtain ⟨R, hR⟩ : ∃ R, tagOk (k : Int) l = R := ⟨_, rfl⟩
  have HT : Hid (tagB (k : Int) l = T) := hT
  have HR : Hid (tagOk (k : Int) l = R) := hR
  rw [hn] at hl
  rw [hT, hR, hn]
  clear hA hgl hc hT hR
  go_enter Tryz.func74, Tryz.ntmps74
  go_wp2_with fail
  refine (l01In_any _ _ _ _).mono ?_
  rintro e w' ⟨rfl, rfl⟩
  rw [hd]
  have hcv := one_s w' (k : Int) (UInt8.ofNat k) (by simp; omega)
  have e1 : (⟨[UInt8.ofNat k].toArray⟩ : ByteArray) = tagS k [] := by simp [tagS, tagL]
  rw [e1] at hcv
  have HST : Hid (TgS k l w' (.string (tagS k [])) (.int .i64 0) (w'.alloc (.cells #[.int .u8 (k : Int)] 5))) := ⟨0, by omega, rfl, rfl, by intro j _ h; omega, (Below.refl _ _).alloc (Nat.le_refl _) _⟩
  clear e1
  go_wp2
  clear hcv hd
  go_loopw [6, 7] (fun s i wr => TgS k l w' s i wr) (fun _ i _ => n - (intOf i).toNat)
  case atStart => exact HST.out
  case round =>
    obtain ⟨m, hm, rfl, rfl, HI, hbel⟩ := hrel
    rw [hn] at hm
    clear HST
    by_cases hlt : m < n
    · obtain ⟨ea, hga⟩ := HA.out (by omega)
      subst ea
      have c0 : wr.cell? ⟨g, o + m, none⟩ = some (.string (l[m]'(by omega))) := (hbel.cell (p := ⟨g, o + m, none⟩) hga).trans (HC.out m (by omega))
      have hgr : g < wr.heap.size := Nat.lt_of_lt_of_le hga hbel.size
      have i1 : (m : Int) < (n : Int) := by omega
      have i2 : (0 : Int) ≤ (m : Int) := by omega
      by_cases hx : 200 < (l[m]'(by omega)).size
      · have hF := tagOk_part (k : Int) l m (by omega) hx
        have hT := tagB_no hF
        rw [HT.out] at hT
        rw [HR.out] at hF
        subst hF
        subst hT
        clear HI HT HR HC HA
        generalize l[m]'(by omega) = X at *
        generalize tagS k (l.take m) = S at *
        go_wp2
        go_ret2
        exact ⟨rfl, hbel⟩
      · have hsz : (tagS k (l.take m)).size ≤ 13000 := by
          have h := tagL_len k l m (by omega) HI.out
          have e : (tagS k (l.take m)).size = (tagL k (l.take m)).length := by simp [tagS, ByteArray.size]
          omega
        have hst := tagS_step k l m (by omega)
        have HI2 := pt_step (show m < l.length by omega) (by omega) HI.out
        have hvz := varA_size (l[m]'(by omega)).size
        have HN : Hid (∀ W, Below w'.heap.size w' W → TgS k l w' (.string ((tagS k (l.take m) ++ ⟨(M.varL (l[m]'(by omega)).size).toArray⟩) ++ l[m]'(by omega))) (.int .i64 ((m : Int) + 1)) W) := by
          rw [hst]
          exact fun W hW => ⟨m + 1, by omega, by simp, rfl, HI2, hW⟩
        clear HI HI2 HT HR HC HA hst
        generalize l[m]'(by omega) = X at *
        generalize tagS k (l.take m) = S at *
        obtain ⟨V, hV⟩ : ∃ V, (⟨(M.varL X.size).toArray⟩ : ByteArray) = V := ⟨_, rfl⟩
        rw [hV] at HN hvz
        have HV : Hid ((⟨(M.varL X.size).toArray⟩ : ByteArray) = V) := hV
        have q1 : ¬ (9223372036854775807 < S.size + V.size) := by omega
        have q2 : ¬ (9223372036854775807 < S.size + V.size + X.size) := by omega
        clear hV
        go_wp2
        go_region_held3 (fun W => W.cell? ⟨g, o + m, none⟩ = some (.string X)) (first | go_keep | exact (hb1.cell (p := ⟨g, o + m, none⟩) hgr).trans c0) ((go_at_call 95; refine (l01Var_v X.size V _ (by omega) HV.out).mono ?_; rintro e w1 ⟨rfl, hb1⟩))
        have hb2 := hbel.drew.trans (hb1.mono hbel.size)
        clear hb1
        go_wp2
        go_roundw
        case rel => exact HN.out _ hb2
        case measure => simp [intOf]; omega
    · have hme : m = n := by omega
      have hF := tagOk_yes (k : Int) l ⟨by omega, by omega⟩ (fun j hj => HI.out j hj (by omega))
      have hT := tagB_yes hF
      rw [HT.out] at hT
      rw [HR.out] at hF
      subst hF
      have e2 : l.take m = l := by rw [hme, ← hn]; exact List.take_length
      rw [e2, ← hT]
      subst hme
      clear HI HT HR HC HA e2 hT
      go_wp2
      go_ret2
      exact ⟨rfl, hbel⟩

theorem sTagText_any (k : Int) (v : Value) (g o : Nat) (l : List ByteArray) (w : World) (hv : SS w v g o l) :
    Calls Tryz.prog 74 #[.int .i64 k, v] w fun e w' => e = .returned (.tuple #[.string (tagB k l), .bool (tagOk k l)]) ∧ Below w.heap.size w w' := by
  by_cases h : (1 ≤ k ∧ k ≤ 8) ∧ l.length ≤ 60
  · obtain ⟨n, rfl⟩ := Int.eq_ofNat_of_zero_le (show 0 ≤ k by omega)
    exact sTagText_in n v g o l w (by omega) (by omega) h.2 hv
  · have hF := tagOk_head k l h
    rw [tagB_no hF, hF]
    obtain ⟨a, cap, rfl, hl, _⟩ := hv
    exact sTagText_no k a l.length cap w h hl

theorem tagged_no (k : Int) (a : Option Addr) (n cap : Nat) (w : World) (h : ¬ ((1 ≤ k ∧ k ≤ 8) ∧ n ≤ 60)) (hn : n ≤ 1100000) :
    Calls Tryz.prog 128 #[.int .i64 k, .slice a n cap] w fun e w' => e = .returned (.tuple #[.string ⟨#[]⟩, .bool false]) ∧ Below w.heap.size w w' := by
  rcases (show k < 1 ∨ (1 ≤ k ∧ 8 < k) ∨ (1 ≤ k ∧ k ≤ 8 ∧ 60 < n) from by omega) with hk | ⟨hk, hk2⟩ | ⟨hk, hk2, hk3⟩
  · clear h
    go_enter Tryz.func128, Tryz.ntmps128
    go_wp2
    go_ret2
    exact ⟨rfl, Below.refl _ _⟩
  · clear h
    go_enter Tryz.func128, Tryz.ntmps128
    go_wp2
    go_ret2
    exact ⟨rfl, Below.refl _ _⟩
  · clear h
    go_enter Tryz.func128, Tryz.ntmps128
    go_wp2
    go_ret2
    exact ⟨rfl, Below.refl _ _⟩

/-- a string appended to what is owned -/
theorem wp_appStr {w : World} {ops : Array Oper} {rest : List Oper} {o : Oper} {a : Act} {Q : Exit → Act → World → Prop} (hgd : o.guard = none) (s x : Operand)
    (ho : o.op = .call { callee := .builtin .append, args := #[s, x], argTypes := #[131, 9] })
    (B : Nat) (w0 : World) (v : Value) (l : List UInt8) (hs : a.eval s = v) (hown : OB B w0 w v l) (t : ByteArray) (hx : a.eval x = .string t) (hlen : l.length + t.size ≤ 1000000000)
    (h : ∀ v' w', OB B w0 w' v' (l ++ t.data.toList) → wpList Tryz.prog ops Q rest (a.put o.dst v') w') : wpList Tryz.prog ops Q (o :: rest) a w := by
  obtain ⟨i0, hi, hz0, hz1, hz2⟩ := info_parts Tryz.info5
  refine Lib.wpList_append_own_string w hgd s x 131 9 ho B 5 i0 Tryz.underlying131 Tryz.underlying9 hi hz0 hz1 hz2 v l.length (bv l) hs hown.1 t hx (by unfold maxLen; omega) (by omega) hown.2.2 ?_
  intro v' w' h1 h2 _
  have e : t.data.toList.length = t.size := Array.length_toList
  refine h v' w' ⟨?_, hown.2.1.grown h2 hown.2.2 (fun k hk => (hown.1.lt k hk).1), Nat.le_trans hown.2.2 h2.size⟩
  rw [List.length_append, bv_append, e]
  exact h1

/-- what is owned stays so behind a call that leaves all that was there as it was -/
theorem OB.later {B : Nat} {w0 w w' : World} {v : Value} {l : List UInt8} (h : OB B w0 w v l) (hb : Below w.heap.size w w') : OB B w0 w' v l := by
  refine ⟨⟨h.1.1, ?_⟩, h.2.1.trans (hb.mono h.2.2), Nat.le_trans h.2.2 hb.size⟩
  rcases h.1.2 with hn | ⟨g, cap, cur, hv, hbg, hg, rest⟩
  · exact .inl hn
  · refine .inr ⟨g, cap, cur, hv, hbg, ?_, rest⟩
    rw [hb.block g (Array.getElem?_eq_some_iff.1 hg).1]
    exact hg

theorem OB.one (w : World) (x : Int) (b : UInt8) (h : x = (b.toNat : Int)) : OB w.heap.size w (w.alloc (.cells #[.int .u8 x] 5)) (.slice (some ⟨w.heap.size, 0, none⟩) 1 1) [b] := by
  subst h
  exact ⟨World.ownsRow_lit w #[.int .u8 (b.toNat : Int)] 1 (Nat.le_refl _) (by decide) (by simp), (Below.refl _ _).alloc (Nat.le_refl _) _, by simp⟩

/-- what the loop of tagged holds at each round's head -/
def TgI (k : Nat) (l : List ByteArray) (w : World) (v i : Value) (wr : World) : Prop :=
  ∃ m : Nat, m ≤ l.length ∧ i = .int .i64 m ∧ OB w.heap.size w wr v (tagL k (l.take m)) ∧ Hid (∀ j (h : j < l.length), j < m → l[j].size ≤ 200)

set_option maxRecDepth 100000 in
set_option maxHeartbeats 1000000 in
theorem tagged_in (k : Nat) (v : Value) (g o : Nat) (l : List ByteArray) (w : World) (h1 : 1 ≤ k) (h8 : k ≤ 8) (hl : l.length ≤ 60) (hv : SS w v g o l) :
    Calls Tryz.prog 128 #[.int .i64 k, v] w fun e w' => e = .returned (.tuple #[.string (tagB (k : Int) l), .bool (tagOk (k : Int) l)]) ∧ Below w.heap.size w w' := by
  have hgl := hv.lt
  obtain ⟨a, cap, rfl, _, hA, hc⟩ := hv
  obtain ⟨n, hn⟩ : ∃ n, l.length = n := ⟨_, rfl⟩
  have HA : Hid (0 < n → a = some ⟨g, o, none⟩ ∧ g < w.heap.size) := by rw [← hn]; exact fun h => ⟨hA h, hgl h⟩
  have HC : Hid (∀ j (h : j < l.length), w.cell? ⟨g, o + j, none⟩ = some (.string l[j])) := hc
  obtain ⟨T, hT⟩ : ∃ T, tagB (k : Int) l = T := ⟨_, rfl⟩
  obtain ⟨R, hR⟩ : ∃ R, tagOk (k : Int) l = R := ⟨_, rfl⟩
  have HT : Hid (tagB (k : Int) l = T) := hT
  have HR : Hid (tagOk (k : Int) l = R) := hR
  have HST : Hid (TgI k l w (.slice (some ⟨w.heap.size, 0, none⟩) 1 1) (.int .i64 0) (w.alloc (.cells #[.int .u8 (k : Int)] 5))) := ⟨0, by omega, rfl, by simpa [tagL] using OB.one w (k : Int) (UInt8.ofNat k) (by simp; omega), by intro j _ h; omega⟩
  rw [hn] at hl
  rw [hT, hR, hn]
  clear hA hgl hc hT hR
  go_enter Tryz.func128, Tryz.ntmps128
  go_wp2
  go_loopw [6, 27] (fun v i wr => TgI k l w v i wr) (fun _ i _ => n - (intOf i).toNat)
  case atStart => exact HST.out
  case round =>
    obtain ⟨m, hm, rfl, hown, HI⟩ := hrel
    rw [hn] at hm
    clear HST
    by_cases hlt : m < n
    · obtain ⟨ea, hga⟩ := HA.out (by omega)
      subst ea
      have c0 : wr.cell? ⟨g, o + m, none⟩ = some (.string (l[m]'(by omega))) := (hown.2.1.cell (p := ⟨g, o + m, none⟩) hga).trans (HC.out m (by omega))
      have i1 : (m : Int) < (n : Int) := by omega
      have i2 : (0 : Int) ≤ (m : Int) := by omega
      by_cases hx : 200 < (l[m]'(by omega)).size
      · have hF := tagOk_part (k : Int) l m (by omega) hx
        have hT := tagB_no hF
        rw [HT.out] at hT
        rw [HR.out] at hF
        subst hF
        subst hT
        clear HI HT HR HC HA
        generalize l[m]'(by omega) = X at *
        go_wp2
        try rw [Exit.noGoto_ret]
        go_ret2
        exact ⟨rfl, hown.2.1⟩
      · have hsz := tagL_len k l m (by omega) HI.out
        have HI2 := pt_step (show m < l.length by omega) (by omega) HI.out
        have hvz := varA_size (l[m]'(by omega)).size
        have HN : Hid (∀ v W, OB w.heap.size w W v (tagL k (l.take m) ++ (⟨(M.varL (l[m]'(by omega)).size).toArray⟩ ++ l[m]'(by omega) : ByteArray).data.toList) → TgI k l w v (.int .i64 ((m : Int) + 1)) W) := by
          intro v W hW
          refine ⟨m + 1, by omega, by simp, ?_, HI2⟩
          rw [tagL_step k l m (by omega)]
          simpa [tagP, ByteArray.data_append] using hW
        clear HI HI2 HT HR HC HA
        generalize l[m]'(by omega) = X at *
        generalize tagL k (l.take m) = S at *
        go_wp2_with fail
        refine (Short_yes X _ (by omega)).mono ?_
        rintro e w1 ⟨rfl, hb1⟩
        have hown1 := hown.later hb1
        have hz : ((⟨(M.varL X.size).toArray⟩ : ByteArray) ++ X).size ≤ 210 := by
          rw [ByteArray.size_append]
          omega
        generalize (⟨(M.varL X.size).toArray⟩ : ByteArray) ++ X = Y at *
        clear hown hb1
        go_wp2_with (at_builtin; refine wp_appStr rfl _ _ rfl w.heap.size w _ S rfl hown1 Y rfl ?c1 ?_)
        case c1 => omega
        intro v' w2 hown2
        go_wp2
        go_roundw
        case rel => exact HN.out _ _ hown2
        case measure => simp [intOf]; omega
    · have hme : m = n := by omega
      have hF := tagOk_yes (k : Int) l ⟨by omega, by omega⟩ (fun j hj => HI.out j hj (by omega))
      have hT := tagB_yes hF
      rw [HT.out] at hT
      rw [HR.out] at hF
      subst hF
      have e2 : l.take m = l := by rw [hme, ← hn]; exact List.take_length
      rw [e2] at hown
      have hcv := run_str hown
      have e3 : (⟨(tagL k l).toArray⟩ : ByteArray) = T := by rw [hT]; rfl
      rw [e3] at hcv
      subst hme
      clear HI HT HR HC HA e2 hT e3
      go_wp2
      go_ret2
      exact ⟨rfl, hown.2.1⟩

theorem tagged_any (k : Int) (v : Value) (g o : Nat) (l : List ByteArray) (w : World) (hv : SS w v g o l) :
    Calls Tryz.prog 128 #[.int .i64 k, v] w fun e w' => e = .returned (.tuple #[.string (tagB k l), .bool (tagOk k l)]) ∧ Below w.heap.size w w' := by
  by_cases h : (1 ≤ k ∧ k ≤ 8) ∧ l.length ≤ 60
  · obtain ⟨n, rfl⟩ := Int.eq_ofNat_of_zero_le (show 0 ≤ k by omega)
    exact tagged_in n v g o l w (by omega) (by omega) h.2 hv
  · have hF := tagOk_head k l h
    rw [tagB_no hF, hF]
    obtain ⟨a, cap, rfl, hl, _⟩ := hv
    exact tagged_no k a l.length cap w h hl

end Go.Proofs.YtgkfelhjbeegaaaGreatDoor
/-
  What SigText answers, the program's and the specification's.
-/
namespace Go.Proofs.YtgkfelhjbeegaaaGreatDoor
open Go.RowKit Go.BigFrame
set_option linter.unusedVariables false

/-- a number and keys, one behind the other -/
def kyL (a : Nat) (l : List ByteArray) : List UInt8 := UInt8.ofNat a :: l.flatMap (fun p => p.data.toList)
def kyB (a : Nat) (l : List ByteArray) : ByteArray := ⟨(kyL a l).toArray⟩
theorem kyL_step (a : Nat) (l : List ByteArray) (k : Nat) (h : k < l.length) : kyL a (l.take (k + 1)) = kyL a (l.take k) ++ l[k].data.toList := by
  unfold kyL
  rw [← List.take_append_getElem h, List.flatMap_append]
  simp
theorem kyB_step (a : Nat) (l : List ByteArray) (k : Nat) (h : k < l.length) : kyB a (l.take k) ++ l[k] = kyB a (l.take (k + 1)) := by
  apply ByteArray.ext
  apply Array.toList_inj.1
  unfold kyB
  rw [kyL_step a l k h]
  simp [ByteArray.data_append]
theorem kyL_len (a : Nat) (l : List ByteArray) (hw : kwB l = true) : (kyL a l).length = 1 + 16 * l.length := by
  unfold kyL
  induction l with
  | nil => simp
  | cons x r ih =>
    have h1 := kwB_at hw 0 (by simp)
    have h2 : kwB r = true := by
      unfold kwB at hw ⊢
      simp at hw
      simpa using hw.2
    have h3 := ih h2
    have h4 : x.data.toList.length = 16 := by rw [Array.length_toList]; exact h1
    simp only [List.length_cons, List.flatMap_cons, List.length_append] at h3 ⊢
    omega
theorem kwB_take {l : List ByteArray} (h : kwB l = true) (k : Nat) : kwB (l.take k) = true := by
  unfold kwB at *
  rw [List.all_eq_true] at *
  exact fun x hx => h x (List.mem_of_mem_take hx)
theorem kwB_append {l r : List ByteArray} (h : kwB l = true) (k : kwB r = true) : kwB (l ++ r) = true := by
  unfold kwB at *
  rw [List.all_append, h, k]
  rfl
theorem kyB_size (a : Nat) (l : List ByteArray) : (kyB a l).size = (kyL a l).length := by simp [kyB, ByteArray.size]

/-- what SigText is -/
def sigB (a : Int) (o s d : List ByteArray) : ByteArray := if formB a o s d then kyB a.toNat (o ++ s ++ d) else ⟨#[]⟩

/-- a row of texts appended, in a region that draws -/
theorem step_appRow {w : World} {ops : Array Oper} {o : Oper} {a : Act} {K : Act → World → Prop} {Q : Exit → Act → World → Prop} {E : Prop} (hg : o.guard = none) (s x : Operand)
    (hop : o.op = .call { callee := .builtin .append, args := #[s, x], argTypes := #[22, 22] })
    (B : Nat) (w0 : World) (v u : Value) (l r : List ByteArray) (hs : a.eval s = v) (hown : OS B w0 w v l) (hx : a.eval x = u) (g of : Nat) (hr : SS w u g of r) (h0 : 0 < r.length) (hlen : l.length + r.length ≤ 1000000)
    (hK : ∀ v' w', OS B w0 w' v' (l ++ r) → K (a.put o.dst v') w') : if Region.wanted o (yielded ops a.tmps) = true then Oper.wp Tryz.prog o a w K Q else E := by
  obtain ⟨i0, hi, hz0, hz1, hz2⟩ := info_parts Tryz.info9
  obtain ⟨ao, cap, rfl, _, hA, hc⟩ := hr
  have ea := hA h0
  subst ea
  obtain ⟨v', w', hrun, h1, h2, _⟩ := run_append_own (P := Tryz.prog) w B 22 o.type 9 i0 (.string ByteArray.empty) 1 16 Tryz.underlying22 hi hz0 hz1 hz2 rfl (by decide) v l.length (svs l) hown.1 ⟨g, of, none⟩ r.length cap (svs r) (by simp [svs]) (by
      intro j u hj
      have hj2 : j < r.length := by
        have := (List.getElem?_eq_some_iff.1 hj).1
        simpa [svs] using this
      have e : (⟨g, of, none⟩ : Addr).add j = ⟨g, of + j, none⟩ := by unfold Addr.add; split <;> simp_all
      rw [e, hc j hj2]
      simp [svs, List.getElem?_eq_getElem hj2] at hj
      rw [hj])
    (fun u hu => by simp [svs] at hu; obtain ⟨b, _, rfl⟩ := hu; rfl) (by unfold maxLen; omega) (by omega) hown.2.2
  have hOB : OS B w0 w' v' (l ++ r) := ⟨by rw [List.length_append, svs_append]; exact h1, hown.2.1.grown h2 hown.2.2 (fun k hk => (hown.1.lt k hk).1), Nat.le_trans hown.2.2 h2.size⟩
  have hw : Region.wanted o (yielded ops a.tmps) = true := by simp [Region.wanted, hg]
  rw [if_pos hw]
  unfold Oper.wp
  simp [execOp, hop, resolve, invoke, builtin, hs, hx, hrun, Result.andThen]
  exact hK v' w' hOB

def SxR (a : Nat) (L : List ByteArray) (w : World) (s i : Value) (wr : World) : Prop := ∃ k : Nat, k ≤ L.length ∧ i = .int .i64 k ∧ s = .string (kyB a (L.take k)) ∧ wr = w

/-- a string appended to what is owned, and that nothing else turned -/
theorem wp_appStrG {w : World} {ops : Array Oper} {rest : List Oper} {o : Oper} {a : Act} {Q : Exit → Act → World → Prop} (hgd : o.guard = none) (s x : Operand)
    (ho : o.op = .call { callee := .builtin .append, args := #[s, x], argTypes := #[131, 9] })
    (B : Nat) (w0 : World) (v : Value) (l : List UInt8) (hs : a.eval s = v) (hown : OB B w0 w v l) (t : ByteArray) (hx : a.eval x = .string t) (hlen : l.length + t.size ≤ 1000000000)
    (h : ∀ v' w', OB B w0 w' v' (l ++ t.data.toList) → w.grownBy w' v.ownBlock → wpList Tryz.prog ops Q rest (a.put o.dst v') w') : wpList Tryz.prog ops Q (o :: rest) a w := by
  obtain ⟨i0, hi, hz0, hz1, hz2⟩ := info_parts Tryz.info5
  refine Lib.wpList_append_own_string w hgd s x 131 9 ho B 5 i0 Tryz.underlying131 Tryz.underlying9 hi hz0 hz1 hz2 v l.length (bv l) hs hown.1 t hx (by unfold maxLen; omega) (by omega) hown.2.2 ?_
  intro v' w' h1 h2 _
  have e : t.data.toList.length = t.size := Array.length_toList
  refine h v' w' ⟨?_, hown.2.1.grown h2 hown.2.2 (fun k hk => (hown.1.lt k hk).1), Nat.le_trans hown.2.2 h2.size⟩ h2
  rw [List.length_append, bv_append, e]
  exact h1
/-- the block of the three lists -/
def LL (w : World) (g : Nat) (v1 v2 v3 : Value) : Prop := w.heap[g]? = some (.cells #[v1, v2, v3] 22 (0, 0))
theorem LL.kept {w w' : World} {g B : Nat} {w0 : World} {v v1 v2 v3 : Value} {l : List UInt8} (h : LL w g v1 v2 v3) (ho : OB B w0 w v l) (hg : w.grownBy w' v.ownBlock) : LL w' g v1 v2 v3 := by
  have hlt : g < w.heap.size := (Array.getElem?_eq_some_iff.1 h).1
  unfold LL at *
  rw [hg.block g hlt ?_, h]
  intro he
  rcases ho.1.2 with ⟨rfl, _⟩ | ⟨g', cap, cur, rfl, _, hg', _⟩
  · simp [Value.ownBlock] at he
  · simp [Value.ownBlock] at he
    subst he
    rw [h] at hg'
    simp at hg'

/-- what the inner loop of SigText holds -/
def StI (a : Nat) (P l : List ByteArray) (w : World) (g : Nat) (v1 v2 v3 v i : Value) (wr : World) : Prop :=
  ∃ k : Nat, k ≤ l.length ∧ i = .int .i64 k ∧ OB w.heap.size w wr v (kyL a (P ++ l.take k)) ∧ LL wr g v1 v2 v3
/-- what the outer one holds -/
def StO (a : Nat) (o s d : List ByteArray) (w : World) (g : Nat) (v1 v2 v3 v i : Value) (wr : World) : Prop :=
  ∃ j : Nat, j ≤ 3 ∧ i = .int .i64 j ∧ OB w.heap.size w wr v (kyL a (([o, s, d].take j).flatten)) ∧ LL wr g v1 v2 v3

theorem kyL_more (a : Nat) (P l : List ByteArray) (k : Nat) (h : k < l.length) : kyL a (P ++ l.take k) ++ l[k].data.toList = kyL a (P ++ l.take (k + 1)) := by
  unfold kyL
  have e : l.take (k + 1) = l.take k ++ [l[k]] := (List.take_append_getElem h).symm
  rw [e]
  simp only [List.flatMap_append, List.flatMap_cons, List.flatMap_nil, List.append_nil, List.cons_append, List.append_assoc]

theorem LL.cell {w : World} {g : Nat} {v1 v2 v3 : Value} (h : LL w g v1 v2 v3) (j : Nat) (v : Value) (hv : #[v1, v2, v3][j]? = some v) : w.cell? ⟨g, j, none⟩ = some v := by
  rw [cell_of_row w g j _ _ (0, 0) h]
  exact hv

end Go.Proofs.YtgkfelhjbeegaaaGreatDoor
