/-
  Texts laid together: Wy, Tag, Stx, Stl.
-/
import Derived.Test.YtfojmagcoipbnaaQ08
import Derived.Test.YtfojmagcoipbnaaQ09
import Derived.Test.YtfojmagcoipbnaaQ19
import Derived.Lib.QuietBelow
import Derived.BigQuiet
import Derived.Test.YtfojmagcoipbnaaQ13
import Derived.Test.YtfojmagcoipbnaaQ02
import Derived.Lib.AppendStr
import Derived.Deep.RegionHeld3
import Derived.Test.YtfojmagcoipbnaaQ18
/-
  What the laws' own helpers do with stamps: measured, taken over, compared.
-/
namespace Go.Proofs.Ytfojmagcoipbnaa
open Go.RowKit Go.BigFrame Go.Sort
set_option linter.unusedVariables false
set_option linter.unusedSimpArgs false

theorem SS.grownS {W W' : World} {v : Value} {g o : Nat} {l : List ByteArray} {row : Option Nat} (h : SS W v g o l) (hg : W.grownBy W' row) (hne : 0 < l.length → some g ≠ row) : SS W' v g o l := by
  have hlt := h.lt
  obtain ⟨a, cap, h1, h2, h3, h4⟩ := h
  exact ⟨a, cap, h1, h2, h3, fun j hj => (cell_kept (hg.block g (hlt (by omega)) (hne (by omega)))).trans (h4 j hj)⟩
/-- v reads as these texts, somewhere behind block g -/
def SXn (W : World) (v : Value) (l : List ByteArray) (g : Nat) : Prop := ∃ g1 o1, SS W v g1 o1 l ∧ (0 < l.length → g < g1)
theorem SXn.sx {W : World} {v : Value} {l : List ByteArray} {g : Nat} (h : SXn W v l g) : SX W v l := by
  obtain ⟨g1, o1, h1, _⟩ := h
  exact ⟨g1, o1, h1⟩
theorem SXn.later {W W' : World} {v : Value} {l : List ByteArray} {g : Nat} (h : SXn W v l g) (hb : Below W.heap.size W W') : SXn W' v l g := by
  obtain ⟨g1, o1, h1, h2⟩ := h
  exact ⟨g1, o1, h1.below hb h1.lt, h2⟩
theorem SXn.grown {W W' : World} {v : Value} {l : List ByteArray} {g q : Nat} (h : SXn W v l g) (hg : W.grownBy W' (some q)) (hq : q ≤ g) : SXn W' v l g := by
  obtain ⟨g1, o1, h1, h2⟩ := h
  exact ⟨g1, o1, h1.grownS hg (fun h => by have := h2 h; simp; omega), h2⟩
theorem SXn.mono {W : World} {v : Value} {l : List ByteArray} {g g' : Nat} (h : SXn W v l g) (hg : g' ≤ g) : SXn W v l g' := by
  obtain ⟨g1, o1, h1, h2⟩ := h
  exact ⟨g1, o1, h1, fun h => by have := h2 h; omega⟩

/-- a row that was measured is small: v has just so many as l -/
def SmT (v : Value) (l : List ByteArray) : Prop := ∃ a cap, v = .slice a l.length cap ∧ l.length ≤ 1048576
theorem SmT.ss {w : World} {v : Value} {g o : Nat} {l : List ByteArray} (hs : SmT v l) (h : IsRowT w v g o l) : SS w v g o l := by
  obtain ⟨a', n, cap, hv, hn, hr⟩ := h
  obtain ⟨_, c', hv', hl⟩ := hs
  have hn2 : n = l.length := by rw [hv] at hv'; simp at hv'; exact hv'.2.1
  exact (hr (by omega)).2.1
theorem SmT.of {w : World} {v : Value} {g o : Nat} {l : List ByteArray} (h : SS w v g o l) (hl : l.length ≤ 1048576) : SmT v l := by
  obtain ⟨a, c, hv, _⟩ := h
  exact ⟨a, c, hv, hl⟩

set_option maxRecDepth 100000 in
set_option maxHeartbeats 1000000 in
/-- a signature that was handed in, measured -/
theorem szSigT_row (a : Int) (v1 v2 v3 : Value) (g1 o1 g2 o2 g3 o3 : Nat) (l1 l2 l3 : List ByteArray) (x : Int) (w : World) (hx0 : 0 ≤ x) (hx1 : x ≤ 1048576) (h1 : IsRowT w v1 g1 o1 l1) (h2 : IsRowT w v2 g2 o2 l2) (h3 : IsRowT w v3 g3 o3 l3) :
    Calls Try.prog 96 #[.agg #[.int .i64 a, v1, v2, v3], .int .i64 x] w fun e w' => ∃ A : Int, e = .returned (.int .i64 A) ∧ Below w.heap.size w w' ∧ A ≤ x ∧ (0 ≤ A → SmT v1 l1 ∧ SmT v2 l2 ∧ SmT v3 l3) := by
  have hb : Below w.heap.size w (w.alloc (.cells #[.int .i64 a, v1, v2, v3] 50)) := below_alloc _ _
  have HBX : Hid (Box 50 (w.alloc (.cells #[.int .i64 a, v1, v2, v3] 50)) w.heap.size [.int .i64 a, v1, v2, v3]) := Box.new _ _ _
  have H1 : Hid (∀ y : Int, 0 ≤ y → y ≤ x → Calls Try.prog 32 #[v1, .int .i64 y] (w.alloc (.cells #[.int .i64 a, v1, v2, v3] 50)) fun e w' => ∃ A : Int, e = .returned (.int .i64 A) ∧ w' = (w.alloc (.cells #[.int .i64 a, v1, v2, v3] 50)) ∧ A ≤ y ∧ (0 ≤ A → SmT v1 l1)) := fun y hy hyx => (szStringS_row v1 g1 o1 l1 y _ (h1.later hb) hy (by omega)).mono fun e w' ⟨A, he, hw, hA, hB⟩ => ⟨A, he, hw, hA, fun h => SmT.of (hB h).1 (hB h).2.2.2⟩
  have H2 : Hid (∀ y : Int, 0 ≤ y → y ≤ x → Calls Try.prog 32 #[v2, .int .i64 y] (w.alloc (.cells #[.int .i64 a, v1, v2, v3] 50)) fun e w' => ∃ A : Int, e = .returned (.int .i64 A) ∧ w' = (w.alloc (.cells #[.int .i64 a, v1, v2, v3] 50)) ∧ A ≤ y ∧ (0 ≤ A → SmT v2 l2)) := fun y hy hyx => (szStringS_row v2 g2 o2 l2 y _ (h2.later hb) hy (by omega)).mono fun e w' ⟨A, he, hw, hA, hB⟩ => ⟨A, he, hw, hA, fun h => SmT.of (hB h).1 (hB h).2.2.2⟩
  have H3 : Hid (∀ y : Int, 0 ≤ y → y ≤ x → Calls Try.prog 32 #[v3, .int .i64 y] (w.alloc (.cells #[.int .i64 a, v1, v2, v3] 50)) fun e w' => ∃ A : Int, e = .returned (.int .i64 A) ∧ w' = (w.alloc (.cells #[.int .i64 a, v1, v2, v3] 50)) ∧ A ≤ y ∧ (0 ≤ A → SmT v3 l3)) := fun y hy hyx => (szStringS_row v3 g3 o3 l3 y _ (h3.later hb) hy (by omega)).mono fun e w' ⟨A, he, hw, hA, hB⟩ => ⟨A, he, hw, hA, fun h => SmT.of (hB h).1 (hB h).2.2.2⟩
  have HB : Hid (Below w.heap.size w (w.alloc (.cells #[.int .i64 a, v1, v2, v3] 50))) := hb
  have z1 := HBX.out.at 1 _ rfl
  have z2 := HBX.out.at 2 _ rfl
  have z3 := HBX.out.at 3 _ rfl
  clear h1 h2 h3 hb HBX
  go_enter Try.func96, Try.ntmps96
  go_wp2_with fail
  refine (H1.out _ hx0 (Int.le_refl _)).mono ?_
  rintro e w' ⟨A1, rfl, rfl, hA1, HN1⟩
  have HM1 : Hid (0 ≤ A1 → SmT v1 l1) := HN1
  clear HN1
  by_cases hn1 : A1 < 0
  · go_wp2
    go_ret
    exact ⟨-1, rfl, HB.out, by omega, fun h => by omega⟩
  · go_wp2_with fail
    refine (H2.out _ (by omega) hA1).mono ?_
    rintro e w' ⟨A2, rfl, rfl, hA2, HN2⟩
    have HM2 : Hid (0 ≤ A2 → SmT v2 l2) := HN2
    clear HN2
    by_cases hn2 : A2 < 0
    · go_wp2
      go_ret
      exact ⟨-1, rfl, HB.out, by omega, fun h => by omega⟩
    · go_wp2_with fail
      refine (H3.out _ (by omega) (by omega)).mono ?_
      rintro e w' ⟨A3, rfl, rfl, hA3, HN3⟩
      have HM3 : Hid (0 ≤ A3 → SmT v3 l3) := HN3
      clear HN3
      by_cases hn3 : A3 < 0
      · go_wp2
        go_ret
        exact ⟨-1, rfl, HB.out, by omega, fun h => by omega⟩
      · go_wp2
        go_ret
        exact ⟨A3, rfl, HB.out, by omega, fun h => ⟨HM1.out (by omega), HM2.out (by omega), HM3.out h⟩⟩

/-- a stamp that was handed in is this one, if it is small -/
def IsSt (w : World) (x : StV) (y : Stm) : Prop := x.b = y.b ∧ x.a = y.a ∧ (∃ g o, IsRowT w x.v1 g o y.o) ∧ (∃ g o, IsRowT w x.v2 g o y.s) ∧ ∃ g o, IsRowT w x.v3 g o y.d
theorem IsSt.later {w w' : World} {x : StV} {y : Stm} (h : IsSt w x y) (hb : Below w.heap.size w w') : IsSt w' x y := by
  obtain ⟨h1, h2, ⟨g, o, h3⟩, ⟨g2, o2, h4⟩, ⟨g3, o3, h5⟩⟩ := h
  exact ⟨h1, h2, ⟨g, o, h3.later hb⟩, ⟨g2, o2, h4.later hb⟩, ⟨g3, o3, h5.later hb⟩⟩
def SmS (x : StV) (y : Stm) : Prop := SmT x.v1 y.o ∧ SmT x.v2 y.s ∧ SmT x.v3 y.d
theorem SmS.sg {w : World} {x : StV} {y : Stm} (hs : SmS x y) (h : IsSt w x y) : SgV w x y := by
  obtain ⟨h1, h2, ⟨g, o, h3⟩, ⟨g2, o2, h4⟩, ⟨g3, o3, h5⟩⟩ := h
  exact ⟨h1, h2, ⟨g, o, hs.1.ss h3⟩, ⟨g2, o2, hs.2.1.ss h4⟩, ⟨g3, o3, hs.2.2.ss h5⟩⟩
/-- a row of stamps that was handed in, great or small -/
def IsRowG (w : World) (v : Value) (g o : Nat) (V : List StV) (L : List Stm) : Prop := ∃ a n cap, v = .slice a n cap ∧ n ≤ 9223372036854775807 ∧ (n ≤ 1100000 → V.length = n ∧ L.length = n ∧ RS 5 stcs w v g o V ∧ ∀ j (h : j < V.length) (h' : j < L.length), IsSt w V[j] L[j])
theorem IsRowG.later {w w' : World} {v : Value} {g o : Nat} {V : List StV} {L : List Stm} (h : IsRowG w v g o V L) (hb : Below w.heap.size w w') : IsRowG w' v g o V L := by
  obtain ⟨a, n, cap, hv, hn, hr⟩ := h
  exact ⟨a, n, cap, hv, hn, fun hl => ⟨(hr hl).1, (hr hl).2.1, (hr hl).2.2.1.later hb, fun j h h' => ((hr hl).2.2.2 j h h').later hb⟩⟩
/-- it was measured, and is small -/
def SmG (v : Value) (V : List StV) (L : List Stm) : Prop := (∃ a cap, v = .slice a L.length cap ∧ L.length ≤ 1048576) ∧ ∀ j (h : j < V.length) (h' : j < L.length), SmS V[j] L[j]
theorem SmG.sts {w : World} {v : Value} {g o : Nat} {V : List StV} {L : List Stm} (hs : SmG v V L) (h : IsRowG w v g o V L) : StS w v g o L := by
  obtain ⟨a', n, cap, hv, hn, hr⟩ := h
  obtain ⟨⟨_, c', hv', hl⟩, hj⟩ := hs
  have hn2 : n = L.length := by rw [hv] at hv'; simp at hv'; exact hv'.2.1
  obtain ⟨h1, h2, h3, h4⟩ := hr (by omega)
  exact ⟨V, by omega, h3, fun j h h' => (hj j h' h).sg (h4 j h' h)⟩

set_option maxRecDepth 100000 in
set_option maxHeartbeats 1000000 in
theorem szStamp_any (x : StV) (y : Stm) (z : Int) (w : World) (h : IsSt w x y) (h0 : 0 ≤ z) (h1 : z ≤ 1048576) :
    Calls Try.prog 97 #[.agg #[.int .i64 x.b, .int .i64 x.a, x.v1, x.v2, x.v3], .int .i64 z] w fun e w' => ∃ A : Int, e = .returned (.int .i64 A) ∧ Below w.heap.size w w' ∧ A ≤ z ∧ (0 ≤ A → SmS x y) := by
  obtain ⟨k1, k2, ⟨g1, o1, r1⟩, ⟨g2, o2, r2⟩, ⟨g3, o3, r3⟩⟩ := h
  clear k1 k2
  obtain ⟨xb, xa, v1, v2, v3⟩ := x
  simp only at r1 r2 r3 ⊢
  have HX : Hid (Below w.heap.size w (w.alloc (.cells #[.int .i64 xb, .int .i64 xa, v1, v2, v3] 139)) ∧ Box 139 (w.alloc (.cells #[.int .i64 xb, .int .i64 xa, v1, v2, v3] 139)) w.heap.size [.int .i64 xb, .int .i64 xa, v1, v2, v3]) := ⟨below_alloc _ _, Box.new _ _ _⟩
  have hsz := szSigT_row xa v1 v2 v3 g1 o1 g2 o2 g3 o3 y.o y.s y.d z _ h0 h1 (r1.later HX.out.1) (r2.later HX.out.1) (r3.later HX.out.1)
  obtain ⟨b1, n1, c1, rfl, k1⟩ := r1
  obtain ⟨b2, n2, c2, rfl, k2⟩ := r2
  obtain ⟨b3, n3, c3, rfl, k3⟩ := r3
  clear k1 k2 k3
  have z1 := HX.out.2.at 1 _ rfl
  have z2 := HX.out.2.at 2 _ rfl
  have z3 := HX.out.2.at 3 _ rfl
  have z4 := HX.out.2.at 4 _ rfl
  go_enter Try.func97, Try.ntmps97
  go_wp2_with fail
  refine hsz.mono ?_
  rintro e w1 ⟨A, rfl, hb1, hA, hA2⟩
  have HA2 : Hid (0 ≤ A → SmS ⟨xb, xa, .slice b1 n1 c1, .slice b2 n2 c2, .slice b3 n3 c3⟩ y) := hA2
  have HB : Hid (Below w.heap.size w w1) := HX.out.1.trans (hb1.mono HX.out.1.size)
  clear hb1 hA2 hsz z1 z2 z3 z4 HX
  by_cases hneg : A < 0
  · go_wp2
    go_ret
    exact ⟨_, rfl, HB.out, by omega, fun h => by omega⟩
  · go_wp2
    go_ret
    exact ⟨_, rfl, HB.out, by omega, fun h => HA2.out h⟩

def SzG (V : List StV) (L : List Stm) (x0 : Int) (w : World) (x i : Value) (wr : World) : Prop := ∃ (m : Nat) (y : Int), m ≤ L.length ∧ i = .int .i64 m ∧ x = .int .i64 y ∧ 0 ≤ y ∧ y ≤ x0 ∧ Hid (∀ j (h : j < V.length) (h' : j < L.length), j < m → SmS V[j] L[j]) ∧ Below w.heap.size w wr

set_option maxRecDepth 100000 in
set_option maxHeartbeats 1000000 in
theorem szStampS_row (v : Value) (g o : Nat) (V : List StV) (L : List Stm) (x : Int) (w : World) (hv : IsRowG w v g o V L) (h0 : 0 ≤ x) (h1 : x ≤ 1048576) :
    Calls Try.prog 59 #[v, .int .i64 x] w fun e w' => ∃ A : Int, e = .returned (.int .i64 A) ∧ Below w.heap.size w w' ∧ A ≤ x ∧ (0 ≤ A → SmG v V L) := by
  obtain ⟨a, n, cap, rfl, hn, hr⟩ := hv
  by_cases hbig : x < (n : Int)
  · have q : x - (n : Int) < 0 := by omega
    go_enter Try.func59, Try.ntmps59
    go_wp2
    go_ret
    exact ⟨_, rfl, Below.refl _ _, by omega, fun h => by omega⟩
  obtain ⟨hvn, hln, hrs, hst⟩ := hr (by omega)
  have HRS : Hid (RS 5 stcs w (.slice a n cap) g o V) := hrs
  have HSZ : Hid (∀ j (h : j < V.length) (h' : j < L.length), IsSt w V[j] L[j]) := hst
  have HLN : Hid (L.length = n ∧ V.length = n) := ⟨hln, hvn⟩
  obtain ⟨a', c', ev, _, hA, _⟩ := hrs
  have HA : Hid (0 < n → a = some ⟨g, o, none⟩) := fun h => by
    have := (hA (by omega)).1
    simp at ev
    rw [ev.1, this]
  clear hr hA hst ev
  have q : ¬ x - (n : Int) < 0 := by omega
  go_enter Try.func59, Try.ntmps59
  go_wp2
  go_loopw [1, 5] (fun y i wr => SzG V L (x - (n : Int)) w y i wr) (fun _ i _ => n - (intOf i).toNat)
  case atStart => exact ⟨0, x - (n : Int), by omega, rfl, by go_num, by omega, by omega, fun j _ _ h => by omega, Below.refl _ _⟩
  case round =>
    obtain ⟨m, y, hm, rfl, rfl, hy0, hy1, HJ, hbel⟩ := hrel
    by_cases hlt : m < n
    · have ea := HA.out (by omega)
      subst ea
      have hmV : m < V.length := by omega
      have hmL : m < L.length := by omega
      obtain ⟨c0, c1, c2, c3, c4⟩ := (HRS.out.later hbel).stamp m hmV
      have hsz := szStamp_any V[m] L[m] y wr ((HSZ.out m hmV hmL).later hbel) hy0 (by omega)
      have hshp := HSZ.out m hmV hmL
      have HX : Hid (∀ A : Int, (0 ≤ A → SmS V[m] L[m]) → 0 ≤ A → ∀ j (h : j < V.length) (h' : j < L.length), j < m + 1 → SmS V[j] L[j]) := fun A hA h j hj hj' hjm => by
        rcases Nat.lt_or_ge j m with h3 | h3
        · exact HJ.out j hj hj' h3
        · have : j = m := by omega
          subst this
          exact hA h
      have HSM : Hid (SmS V[m] L[m] = SmS V[m] L[m]) := rfl
      generalize hXX : SmS V[m] L[m] = SS1 at *
      generalize V[m] = X at *
      obtain ⟨xb, xa, u1, u2, u3⟩ := X
      obtain ⟨f1, f2, ⟨f3, f4, b1, k1, d1, e1, f5⟩, ⟨f6, f7, b2, k2, d2, e2, f8⟩, ⟨f9, f10, b3, k3, d3, e3, f11⟩⟩ := hshp
      clear f1 f2 f5 f8 f11
      simp only at e1 e2 e3 c0 c1 c2 c3 c4 hsz
      subst e1
      subst e2
      subst e3
      have i1 : (m : Int) < (n : Int) := by omega
      have i2 : (0 : Int) ≤ (m : Int) := by omega
      clear HA HRS HSZ hXX HSM
      go_wp2_with fail
      refine hsz.mono ?_
      rintro e w1 ⟨A, rfl, hb1, hA1, hA2⟩
      have hbel1 := hbel.trans (hb1.mono hbel.size)
      have HA2 : Hid (0 ≤ A → ∀ j (h : j < V.length) (h' : j < L.length), j < m + 1 → SmS V[j] L[j]) := HX.out A hA2
      clear hb1 hA2 c0 c1 c2 c3 c4 hbel HX hsz
      by_cases hneg : A < 0
      · clear HJ HA2
        go_wp2
        try rw [Exit.noGoto_ret]
        go_ret
        exact ⟨_, rfl, hbel1, by omega, fun h => by omega⟩
      · have HA3 : Hid (∀ j (h : j < V.length) (h' : j < L.length), j < m + 1 → SmS V[j] L[j]) := HA2.out (by omega)
        clear HA2 HJ
        go_wp2
        go_roundw
        case rel => exact ⟨m + 1, A, by omega, by go_num, rfl, by omega, by omega, HA3, hbel1⟩
        case measure => simp [intOf]; omega
    · have hme : m = n := by omega
      have HF : Hid (SmG (.slice a n cap) V L) := ⟨⟨a, cap, by rw [HLN.out.1], by omega⟩, fun j h h' => HJ.out j h h' (by omega)⟩
      subst hme
      clear HJ HA HRS HSZ
      go_wp2
      go_ret
      exact ⟨_, rfl, hbel, by omega, fun _ => HF.out⟩

end Go.Proofs.Ytfojmagcoipbnaa
/-
  What TagText answers, the program's and the specification's.
-/
namespace Go.Proofs.Ytfojmagcoipbnaa
open Go.RowKit
set_option linter.unusedVariables false

/-- a part behind its length -/
def tagP (p : ByteArray) : List UInt8 := M.varL p.size ++ p.data.toList
def tagL (k : Nat) (l : List ByteArray) : List UInt8 := UInt8.ofNat k :: l.flatMap tagP
def tagOk (k : Int) (l : List ByteArray) : Bool := decide ((1 ≤ k ∧ k ≤ 8) ∧ l.length ≤ 60) && l.all (fun p => decide (p.size ≤ 200))
def tagB (k : Int) (l : List ByteArray) : ByteArray := if tagOk k l then ⟨(tagL k.toNat l).toArray⟩ else ⟨#[]⟩
def tagS (k : Nat) (l : List ByteArray) : ByteArray := ⟨(tagL k l).toArray⟩

theorem tagOk_head (k : Int) (l : List ByteArray) (h : ¬ ((1 ≤ k ∧ k ≤ 8) ∧ l.length ≤ 60)) : tagOk k l = false := by
  unfold tagOk
  rw [decide_eq_false h, Bool.false_and]
theorem tagOk_part (k : Int) (l : List ByteArray) (m : Nat) (h : m < l.length) (hb : 200 < l[m].size) : tagOk k l = false := by
  unfold tagOk
  have : l.all (fun p => decide (p.size ≤ 200)) = false := by
    rw [List.all_eq_false]
    exact ⟨l[m], List.getElem_mem _, by simp; omega⟩
  rw [this, Bool.and_false]
theorem tagOk_yes (k : Int) (l : List ByteArray) (h : (1 ≤ k ∧ k ≤ 8) ∧ l.length ≤ 60) (hp : ∀ m (h : m < l.length), l[m].size ≤ 200) : tagOk k l = true := by
  unfold tagOk
  have : l.all (fun p => decide (p.size ≤ 200)) = true := by
    rw [List.all_eq_true]
    intro x hx
    obtain ⟨j, hj, rfl⟩ := List.getElem_of_mem hx
    simpa using hp j hj
  rw [this, decide_eq_true h]
  rfl
theorem tagB_no {k : Int} {l : List ByteArray} (h : tagOk k l = false) : tagB k l = ⟨#[]⟩ := by
  unfold tagB
  rw [h]
  rfl
theorem tagB_yes {k : Nat} {l : List ByteArray} (h : tagOk (k : Int) l = true) : tagB (k : Int) l = tagS k l := by
  unfold tagB
  rw [h]
  rfl

theorem tagP_len (p : ByteArray) : (tagP p).length ≤ p.size + 10 := by
  have := M.varL_len p.size
  have e : p.data.toList.length = p.size := Array.length_toList
  unfold tagP
  rw [List.length_append]
  omega
theorem tagL_step (k : Nat) (l : List ByteArray) (m : Nat) (h : m < l.length) : tagL k (l.take (m + 1)) = tagL k (l.take m) ++ tagP l[m] := by
  unfold tagL
  rw [← List.take_append_getElem h, List.flatMap_append]
  simp
theorem tagS_step (k : Nat) (l : List ByteArray) (m : Nat) (h : m < l.length) : (tagS k (l.take m) ++ ⟨(M.varL l[m].size).toArray⟩) ++ l[m] = tagS k (l.take (m + 1)) := by
  apply ByteArray.ext
  apply Array.toList_inj.1
  unfold tagS
  rw [tagL_step k l m h]
  simp [tagP, ByteArray.data_append]
theorem tagL_len (k : Nat) (l : List ByteArray) (m : Nat) (hm : m ≤ l.length) (hp : ∀ j (h : j < l.length), j < m → l[j].size ≤ 200) : (tagL k (l.take m)).length ≤ 1 + 210 * m := by
  induction m with
  | zero => simp [tagL]
  | succ m ih =>
    have h1 := ih (by omega) (fun j hj hlt => hp j hj (by omega))
    rw [tagL_step k l m (by omega), List.length_append]
    have h2 := tagP_len (l[m]'(by omega))
    have h3 := hp m (by omega) (by omega)
    omega

/-- 'string([]byte{x})' -/
theorem one_s (w : World) (x : Int) (b : UInt8) (h : x = (b.toNat : Int)) : (convert 101 9 (.slice (some ⟨w.heap.size, 0, none⟩) 1 1)).run Try.prog (w.alloc (.cells #[.int .u8 x] 5)) = .ok (.string ⟨[b].toArray⟩) (w.alloc (.cells #[.int .u8 x] 5)) := by
  subst h
  refine run_convert_bytes_back _ 101 9 5 ⟨w.heap.size, 0, none⟩ 1 [b] Try.underlying101 Try.underlying5 Try.underlying9 ?_
  intro j hj
  have h0 : j = 0 := by simp at hj; exact hj
  subst h0
  simp [Addr.add]

theorem l01Var_v (n : Nat) (V : ByteArray) (w : World) (hn : n ≤ 1000000000) (hV : (⟨(M.varL n).toArray⟩ : ByteArray) = V) :
    Calls Try.prog 35 #[.int .i64 n] w fun e w' => e = .returned (.string V) ∧ Below w.heap.size w w' := by
  subst hV
  exact l01Var_any n w hn

/-- what the loop of the specification's TagText holds at each round's head -/
def TgS (k : Nat) (l : List ByteArray) (w : World) (s i : Value) (wr : World) : Prop :=
  ∃ m : Nat, m ≤ l.length ∧ i = .int .i64 m ∧ s = .string (tagS k (l.take m)) ∧ Hid (∀ j (h : j < l.length), j < m → l[j].size ≤ 200) ∧ Below w.heap.size w wr

theorem pt_step {l : List ByteArray} {m : Nat} (hm : m < l.length) (hp : l[m].size ≤ 200) (h : ∀ j (h : j < l.length), j < m → l[j].size ≤ 200) : Hid (∀ j (h : j < l.length), j < m + 1 → l[j].size ≤ 200) := by
  intro j hj hlt
  rcases Nat.lt_or_ge j m with h1 | h1
  · exact h j hj h1
  · have : j = m := by omega
    subst this
    exact hp

/-- a string appended to what is owned -/
theorem wp_appStr {w : World} {ops : Array Oper} {rest : List Oper} {o : Oper} {a : Act} {Q : Exit → Act → World → Prop} (hgd : o.guard = none) (s x : Operand)
    (ho : o.op = .call { callee := .builtin .append, args := #[s, x], argTypes := #[101, 9] })
    (B : Nat) (w0 : World) (v : Value) (l : List UInt8) (hs : a.eval s = v) (hown : OB B w0 w v l) (t : ByteArray) (hx : a.eval x = .string t) (hlen : l.length + t.size ≤ 1000000000)
    (h : ∀ v' w', OB B w0 w' v' (l ++ t.data.toList) → wpList Try.prog ops Q rest (a.put o.dst v') w') : wpList Try.prog ops Q (o :: rest) a w := by
  obtain ⟨i0, hi, hz0, hz1, hz2⟩ := info_parts Try.info5
  refine Lib.wpList_append_own_string w hgd s x 101 9 ho B 5 i0 Try.underlying101 Try.underlying9 hi hz0 hz1 hz2 v l.length (bv l) hs hown.1 t hx (by unfold maxLen; omega) (by omega) hown.2.2 ?_
  intro v' w' h1 h2 _
  have e : t.data.toList.length = t.size := Array.length_toList
  refine h v' w' ⟨?_, hown.2.1.grown h2 hown.2.2 (fun k hk => (hown.1.lt k hk).1), Nat.le_trans hown.2.2 h2.size⟩
  rw [List.length_append, bv_append, e]
  exact h1

/-- what is owned stays so behind a call that leaves all that was there as it was -/
theorem OB.later {B : Nat} {w0 w w' : World} {v : Value} {l : List UInt8} (h : OB B w0 w v l) (hb : Below w.heap.size w w') : OB B w0 w' v l := by
  refine ⟨⟨h.1.1, ?_⟩, h.2.1.trans (hb.mono h.2.2), Nat.le_trans h.2.2 hb.size⟩
  rcases h.1.2 with hn | ⟨g, cap, cur, hv, hbg, hg, rest⟩
  · exact .inl hn
  · refine .inr ⟨g, cap, cur, hv, hbg, ?_, rest⟩
    rw [hb.block g (Array.getElem?_eq_some_iff.1 hg).1]
    exact hg

theorem OB.one (w : World) (x : Int) (b : UInt8) (h : x = (b.toNat : Int)) : OB w.heap.size w (w.alloc (.cells #[.int .u8 x] 5)) (.slice (some ⟨w.heap.size, 0, none⟩) 1 1) [b] := by
  subst h
  exact ⟨World.ownsRow_lit w #[.int .u8 (b.toNat : Int)] 1 (Nat.le_refl _) (by decide) (by simp), (Below.refl _ _).alloc (Nat.le_refl _) _, by simp⟩

/-- what the loop of tagged holds at each round's head -/
def TgI (k : Nat) (l : List ByteArray) (w : World) (v i : Value) (wr : World) : Prop :=
  ∃ m : Nat, m ≤ l.length ∧ i = .int .i64 m ∧ OB w.heap.size w wr v (tagL k (l.take m)) ∧ Hid (∀ j (h : j < l.length), j < m → l[j].size ≤ 200)

end Go.Proofs.Ytfojmagcoipbnaa
/-
  What SigText answers, the program's and the specification's.
-/
namespace Go.Proofs.Ytfojmagcoipbnaa
open Go.RowKit Go.BigFrame
set_option linter.unusedVariables false

/-- a number and keys, one behind the other -/
def kyL (a : Nat) (l : List ByteArray) : List UInt8 := UInt8.ofNat a :: l.flatMap (fun p => p.data.toList)
def kyB (a : Nat) (l : List ByteArray) : ByteArray := ⟨(kyL a l).toArray⟩
theorem kyL_step (a : Nat) (l : List ByteArray) (k : Nat) (h : k < l.length) : kyL a (l.take (k + 1)) = kyL a (l.take k) ++ l[k].data.toList := by
  unfold kyL
  rw [← List.take_append_getElem h, List.flatMap_append]
  simp
theorem kyB_step (a : Nat) (l : List ByteArray) (k : Nat) (h : k < l.length) : kyB a (l.take k) ++ l[k] = kyB a (l.take (k + 1)) := by
  apply ByteArray.ext
  apply Array.toList_inj.1
  unfold kyB
  rw [kyL_step a l k h]
  simp [ByteArray.data_append]
theorem kyL_len (a : Nat) (l : List ByteArray) (hw : kwB l = true) : (kyL a l).length = 1 + 16 * l.length := by
  unfold kyL
  induction l with
  | nil => simp
  | cons x r ih =>
    have h1 := kwB_at hw 0 (by simp)
    have h2 : kwB r = true := by
      unfold kwB at hw ⊢
      simp at hw
      simpa using hw.2
    have h3 := ih h2
    have h4 : x.data.toList.length = 16 := by rw [Array.length_toList]; exact h1
    simp only [List.length_cons, List.flatMap_cons, List.length_append] at h3 ⊢
    omega
theorem kwB_take {l : List ByteArray} (h : kwB l = true) (k : Nat) : kwB (l.take k) = true := by
  unfold kwB at *
  rw [List.all_eq_true] at *
  exact fun x hx => h x (List.mem_of_mem_take hx)
theorem kwB_append {l r : List ByteArray} (h : kwB l = true) (k : kwB r = true) : kwB (l ++ r) = true := by
  unfold kwB at *
  rw [List.all_append, h, k]
  rfl
theorem kyB_size (a : Nat) (l : List ByteArray) : (kyB a l).size = (kyL a l).length := by simp [kyB, ByteArray.size]

/-- what SigText is -/
def sigB (a : Int) (o s d : List ByteArray) : ByteArray := if formB a o s d then kyB a.toNat (o ++ s ++ d) else ⟨#[]⟩

/-- a row of texts appended, in a region that draws -/
theorem step_appRow {w : World} {ops : Array Oper} {o : Oper} {a : Act} {K : Act → World → Prop} {Q : Exit → Act → World → Prop} {E : Prop} (hg : o.guard = none) (s x : Operand)
    (hop : o.op = .call { callee := .builtin .append, args := #[s, x], argTypes := #[23, 23] })
    (B : Nat) (w0 : World) (v u : Value) (l r : List ByteArray) (hs : a.eval s = v) (hown : OS B w0 w v l) (hx : a.eval x = u) (g of : Nat) (hr : SS w u g of r) (h0 : 0 < r.length) (hlen : l.length + r.length ≤ 1000000)
    (hK : ∀ v' w', OS B w0 w' v' (l ++ r) → K (a.put o.dst v') w') : if Region.wanted o (yielded ops a.tmps) = true then Oper.wp Try.prog o a w K Q else E := by
  obtain ⟨i0, hi, hz0, hz1, hz2⟩ := info_parts Try.info9
  obtain ⟨ao, cap, rfl, _, hA, hc⟩ := hr
  have ea := hA h0
  subst ea
  obtain ⟨v', w', hrun, h1, h2, _⟩ := run_append_own (P := Try.prog) w B 23 o.type 9 i0 (.string ByteArray.empty) 1 16 Try.underlying23 hi hz0 hz1 hz2 rfl (by decide) v l.length (svs l) hown.1 ⟨g, of, none⟩ r.length cap (svs r) (by simp [svs]) (by
      intro j u hj
      have hj2 : j < r.length := by
        have := (List.getElem?_eq_some_iff.1 hj).1
        simpa [svs] using this
      have e : (⟨g, of, none⟩ : Addr).add j = ⟨g, of + j, none⟩ := by unfold Addr.add; split <;> simp_all
      rw [e, hc j hj2]
      simp [svs, List.getElem?_eq_getElem hj2] at hj
      rw [hj])
    (fun u hu => by simp [svs] at hu; obtain ⟨b, _, rfl⟩ := hu; rfl) (by unfold maxLen; omega) (by omega) hown.2.2
  have hOB : OS B w0 w' v' (l ++ r) := ⟨by rw [List.length_append, svs_append]; exact h1, hown.2.1.grown h2 hown.2.2 (fun k hk => (hown.1.lt k hk).1), Nat.le_trans hown.2.2 h2.size⟩
  have hw : Region.wanted o (yielded ops a.tmps) = true := by simp [Region.wanted, hg]
  rw [if_pos hw]
  unfold Oper.wp
  simp [execOp, hop, resolve, invoke, builtin, hs, hx, hrun, Result.andThen]
  exact hK v' w' hOB

def SxR (a : Nat) (L : List ByteArray) (w : World) (s i : Value) (wr : World) : Prop := ∃ k : Nat, k ≤ L.length ∧ i = .int .i64 k ∧ s = .string (kyB a (L.take k)) ∧ wr = w

set_option maxRecDepth 100000 in
set_option maxHeartbeats 2000000 in
theorem sSigText_yes (a : Nat) (vo vs vd : Value) (g1 o1 g2 o2 g3 o3 : Nat) (o s d : List ByteArray) (w : World) (ho : SS w vo g1 o1 o) (hs : SS w vs g2 o2 s) (hd : SS w vd g3 o3 d) (hf : formB (a : Int) o s d = true) :
    Calls Try.prog 61 #[.agg #[.int .i64 a, vo, vs, vd]] w fun e w' => e = .returned (.tuple #[.string (kyB a (o ++ s ++ d)), .bool true]) ∧ Below w.heap.size w w' := by
  obtain ⟨hA, ⟨wo, lo⟩, ⟨ws, ls⟩, wd, ld⟩ := formB_parts hf
  have hB : Below w.heap.size w (w.alloc (.cells #[.int .i64 a, vo, vs, vd] 59)) := (Below.refl _ _).alloc (Nat.le_refl _) _
  have hc := l05Form_any (a : Int) vo vs vd g1 o1 g2 o2 g3 o3 o s d _ (ho.below hB ho.lt) (hs.below hB hs.lt) (hd.below hB hd.lt)
  rw [hf] at hc
  have HSS : Hid (∀ W, Below w.heap.size w W → SS W vo g1 o1 o ∧ SS W vs g2 o2 s ∧ SS W vd g3 o3 d) := fun W hW => ⟨ho.below hW ho.lt, hs.below hW hs.lt, hd.below hW hd.lt⟩
  have HC : Hid (Calls Try.prog 99 #[.agg #[.int .i64 a, vo, vs, vd]] (w.alloc (.cells #[.int .i64 a, vo, vs, vd] 59)) fun e w' => e = .returned (.bool true) ∧ Below (w.alloc (.cells #[.int .i64 a, vo, vs, vd] 59)).heap.size (w.alloc (.cells #[.int .i64 a, vo, vs, vd] 59)) w') := hc
  have HB : Hid (Below w.heap.size w (w.alloc (.cells #[.int .i64 a, vo, vs, vd] 59)) ∧ SgM (w.alloc (.cells #[.int .i64 a, vo, vs, vd] 59)) w.heap.size a vo vs vd) := ⟨hB, SgM.new w _ _ _ _⟩
  have HW : Hid ((∀ k, (kyB a ((o ++ s ++ d).take k)).size ≤ 1000) ∧ (o ++ s ++ d).length = 20 ∧ kwB (o ++ s ++ d) = true) := by
    have hw := kwB_append (kwB_append wo ws) wd
    have hl : (o ++ s ++ d).length = 20 := by simp [lo, ls, ld]
    refine ⟨fun k => ?_, hl, hw⟩
    rw [kyB_size, kyL_len _ _ (kwB_take hw k), List.length_take, hl]
    omega
  have HLN : Hid (o.length = 8 ∧ s.length = 8 ∧ d.length = 4) := ⟨lo, ls, ld⟩
  obtain ⟨ao, co, rfl, _, x1⟩ := ho
  obtain ⟨as2, cs2, rfl, _, x2⟩ := hs
  obtain ⟨ad, cd, rfl, _, x3⟩ := hd
  rw [lo, ls, ld] at HSS HC HB ⊢
  clear x1 x2 x3 hc hB hf wo ws wd lo ls ld
  have ha : a ≤ 15 := by omega
  clear hA
  obtain ⟨L, hL⟩ : ∃ L, o ++ s ++ d = L := ⟨_, rfl⟩
  have HL : Hid (o ++ s ++ d = L) := hL
  rw [hL] at HW ⊢
  clear hL
  go_enter Try.func61, Try.ntmps61
  go_wp2_with fail
  refine HC.out.mono ?_
  rintro e w1 ⟨rfl, hb1⟩
  have b1 := HB.out.1.trans (hb1.mono HB.out.1.size)
  have hS1 := HB.out.2.later hb1
  have c0 := hS1.c0
  have c1 := hS1.c1
  have c2 := hS1.c2
  have c3 := hS1.c3
  have hlt := hS1.lt
  have hcv := one_s w1 (a : Int) (UInt8.ofNat a) (by simp; omega)
  have e1 : (⟨[UInt8.ofNat a].toArray⟩ : ByteArray) = kyB a [] := rfl
  rw [e1] at hcv
  have b2 : Below w1.heap.size w1 (w1.alloc (.cells #[.int .u8 (a : Int)] 5)) := (Below.refl _ _).alloc (Nat.le_refl _) _
  have bw2 := b1.trans (b2.mono b1.size)
  have hS2 := hS1.later b2
  clear HC e1 hS1 b1 hb1 b2
  go_wp2
  clear hcv c0 c1 c2 c3 hlt
  have c1 := hS2.c1
  have c2 := hS2.c2
  have c3 := hS2.c3
  have hlt := hS2.lt
  clear hS2
  generalize w1.alloc (.cells #[.int .u8 (a : Int)] 5) = w2 at *
  have HM : Hid (OS w2.heap.size w2 ((w2.alloc (.cells #[] 9)).drew) (.slice (some ⟨w2.heap.size, 0, none⟩) 0 0) [] ∧ Below w.heap.size w ((w2.alloc (.cells #[] 9)).drew)) := ⟨(OS.made w2).drew, (bw2.alloc bw2.size _).drew⟩
  have HBW : Hid (Below w.heap.size w w2) := bw2
  have hwz := bw2.size
  clear bw2
  go_region_held3 (fun W => W.cell? ⟨w.heap.size, 1, none⟩ = some (.slice ao 8 co) ∧ W.cell? ⟨w.heap.size, 2, none⟩ = some (.slice as2 8 cs2) ∧ W.cell? ⟨w.heap.size, 3, none⟩ = some (.slice ad 4 cd)) (first | go_keep | exact ⟨(hos3.2.1.cell (p := ⟨w.heap.size, 1, none⟩) hlt).trans c1, (hos3.2.1.cell (p := ⟨w.heap.size, 2, none⟩) hlt).trans c2, (hos3.2.1.cell (p := ⟨w.heap.size, 3, none⟩) hlt).trans c3⟩ | exact ⟨(hos2.2.1.cell (p := ⟨w.heap.size, 1, none⟩) hlt).trans c1, (hos2.2.1.cell (p := ⟨w.heap.size, 2, none⟩) hlt).trans c2, (hos2.2.1.cell (p := ⟨w.heap.size, 3, none⟩) hlt).trans c3⟩ | exact ⟨(hos1.2.1.cell (p := ⟨w.heap.size, 1, none⟩) hlt).trans c1, (hos1.2.1.cell (p := ⟨w.heap.size, 2, none⟩) hlt).trans c2, (hos1.2.1.cell (p := ⟨w.heap.size, 3, none⟩) hlt).trans c3⟩) ((first | (refine step_appRow rfl _ _ rfl w2.heap.size w2 _ _ [] o (by rfl) HM.out.1 (by rfl) g1 o1 (HSS.out _ HM.out.2).1 (by rw [HLN.out.1]; omega) (by rw [HLN.out.1]; simp) ?_; intro v3 w3 hos1) | (refine step_appRow rfl _ _ rfl w2.heap.size w2 _ _ o s (by rfl) hos1 (by rfl) g2 o2 (HSS.out _ (HBW.out.trans (hos1.2.1.mono HBW.out.size))).2.1 (by rw [HLN.out.2.1]; omega) (by rw [HLN.out.1, HLN.out.2.1]; omega) ?_; intro v4 w4 hos2) | (refine step_appRow rfl _ _ rfl w2.heap.size w2 _ _ (o ++ s) d (by rfl) hos2 (by rfl) g3 o3 (HSS.out _ (HBW.out.trans (hos2.2.1.mono HBW.out.size))).2.2 (by rw [HLN.out.2.2]; omega) (by rw [List.length_append, HLN.out.1, HLN.out.2.1, HLN.out.2.2]; omega) ?_; intro v5 w5 hos3)))
  have bw5 := HBW.out.trans (hos3.2.1.mono HBW.out.size)
  have hos := hos3
  rw [HL.out] at hos
  clear hos1 hos2 hos3 HM HBW HSS c1 c2 c3
  obtain ⟨gL, hsL⟩ := hos.ss (by rw [HW.out.2.1]; omega)
  obtain ⟨aL, cL, hvL, _, hAL, hcL⟩ := hsL
  have hAL := hAL (by rw [HW.out.2.1]; omega)
  rw [HW.out.2.1] at hvL
  subst hAL
  subst hvL
  have HCL : Hid (∀ j (h : j < L.length), w5.cell? ⟨gL, j, none⟩ = some (.string L[j])) := fun j hj => by have := hcL j hj; rw [Nat.zero_add] at this; exact this
  have HST : Hid (SxR a L w5 (.string (kyB a [])) (.int .i64 0) w5) := ⟨0, by omega, rfl, rfl, rfl⟩
  clear hos hcL
  go_wp2
  go_loopw [4, 6] (fun s i wr => SxR a L w5 s i wr) (fun _ i _ => 20 - (intOf i).toNat)
  case atStart => exact HST.out
  case round =>
    obtain ⟨k, hk, rfl, rfl, rfl⟩ := hrel
    clear HST
    rw [HW.out.2.1] at hk
    by_cases hlt2 : k < 20
    · have c0 := HCL.out k (by rw [HW.out.2.1]; exact hlt2)
      have hst := kyB_step a L k (by rw [HW.out.2.1]; exact hlt2)
      have z1 := HW.out.1 k
      have z2 := kwB_at HW.out.2.2 k (by rw [HW.out.2.1]; exact hlt2)
      have i1 : (k : Int) < 20 := by omega
      have i2 : (0 : Int) ≤ (k : Int) := by omega
      have HN : Hid (SxR a L wr (.string (kyB a (L.take k) ++ L[k]'(by rw [HW.out.2.1]; exact hlt2))) (.int .i64 ((k : Int) + 1)) wr) := by
        rw [hst]
        exact ⟨k + 1, by rw [HW.out.2.1]; omega, by simp, rfl, rfl⟩
      generalize L[k]'(by rw [HW.out.2.1]; exact hlt2) = X at *
      generalize kyB a (L.take k) = S at *
      have q : ¬ (9223372036854775807 < S.size + X.size) := by omega
      clear hst HCL HW
      go_wp2
      go_roundw
      case rel => exact HN.out
      case measure => simp [intOf]; omega
    · have hke : k = 20 := by omega
      subst hke
      have e : L.take 20 = L := List.take_of_length_le (by rw [HW.out.2.1]; omega)
      rw [e]
      go_wp2
      go_ret2
      exact ⟨rfl, bw5⟩

theorem sSigText_no (a : Int) (vo vs vd : Value) (g1 o1 g2 o2 g3 o3 : Nat) (o s d : List ByteArray) (w : World) (ho : SS w vo g1 o1 o) (hs : SS w vs g2 o2 s) (hd : SS w vd g3 o3 d) (hf : formB a o s d = false) :
    Calls Try.prog 61 #[.agg #[.int .i64 a, vo, vs, vd]] w fun e w' => e = .returned (.tuple #[.string ⟨#[]⟩, .bool false]) ∧ Below w.heap.size w w' := by
  have hB : Below w.heap.size w (w.alloc (.cells #[.int .i64 a, vo, vs, vd] 59)) := (Below.refl _ _).alloc (Nat.le_refl _) _
  have hc := l05Form_any a vo vs vd g1 o1 g2 o2 g3 o3 o s d _ (ho.below hB ho.lt) (hs.below hB hs.lt) (hd.below hB hd.lt)
  rw [hf] at hc
  have HC : Hid (Calls Try.prog 99 #[.agg #[.int .i64 a, vo, vs, vd]] (w.alloc (.cells #[.int .i64 a, vo, vs, vd] 59)) fun e w' => e = .returned (.bool false) ∧ Below (w.alloc (.cells #[.int .i64 a, vo, vs, vd] 59)).heap.size (w.alloc (.cells #[.int .i64 a, vo, vs, vd] 59)) w') := hc
  have HB : Hid (Below w.heap.size w (w.alloc (.cells #[.int .i64 a, vo, vs, vd] 59))) := hB
  obtain ⟨ao, co, rfl, _, x1⟩ := ho
  obtain ⟨as2, cs2, rfl, _, x2⟩ := hs
  obtain ⟨ad, cd, rfl, _, x3⟩ := hd
  clear x1 x2 x3 hc hB hf
  go_enter Try.func61, Try.ntmps61
  go_wp2_with fail
  refine HC.out.mono ?_
  rintro e w1 ⟨rfl, hb1⟩
  go_wp2
  go_ret2
  exact ⟨rfl, HB.out.trans (hb1.mono HB.out.size)⟩
theorem SigText_no (a : Int) (vo vs vd : Value) (g1 o1 g2 o2 g3 o3 : Nat) (o s d : List ByteArray) (w : World) (ho : SS w vo g1 o1 o) (hs : SS w vs g2 o2 s) (hd : SS w vd g3 o3 d) (hf : formB a o s d = false) :
    Calls Try.prog 104 #[.agg #[.int .i64 a, vo, vs, vd]] w fun e w' => e = .returned (.tuple #[.string ⟨#[]⟩, .bool false]) ∧ Below w.heap.size w w' := by
  have hB : Below w.heap.size w (w.alloc (.cells #[.int .i64 a, vo, vs, vd] 59)) := (Below.refl _ _).alloc (Nat.le_refl _) _
  have hc := sigFormOk_any a vo vs vd g1 o1 g2 o2 g3 o3 o s d _ (ho.below hB ho.lt) (hs.below hB hs.lt) (hd.below hB hd.lt)
  rw [hf] at hc
  have HC : Hid (Calls Try.prog 130 #[.agg #[.int .i64 a, vo, vs, vd]] (w.alloc (.cells #[.int .i64 a, vo, vs, vd] 59)) fun e w' => e = .returned (.bool false) ∧ Below (w.alloc (.cells #[.int .i64 a, vo, vs, vd] 59)).heap.size (w.alloc (.cells #[.int .i64 a, vo, vs, vd] 59)) w') := hc
  have HB : Hid (Below w.heap.size w (w.alloc (.cells #[.int .i64 a, vo, vs, vd] 59))) := hB
  obtain ⟨ao, co, rfl, _, x1⟩ := ho
  obtain ⟨as2, cs2, rfl, _, x2⟩ := hs
  obtain ⟨ad, cd, rfl, _, x3⟩ := hd
  clear x1 x2 x3 hc hB hf
  go_enter Try.func104, Try.ntmps104
  go_wp2_with fail
  refine HC.out.mono ?_
  rintro e w1 ⟨rfl, hb1⟩
  go_wp2
  go_ret2
  exact ⟨rfl, HB.out.trans (hb1.mono HB.out.size)⟩

/-- a string appended to what is owned, and that nothing else turned -/
theorem wp_appStrG {w : World} {ops : Array Oper} {rest : List Oper} {o : Oper} {a : Act} {Q : Exit → Act → World → Prop} (hgd : o.guard = none) (s x : Operand)
    (ho : o.op = .call { callee := .builtin .append, args := #[s, x], argTypes := #[101, 9] })
    (B : Nat) (w0 : World) (v : Value) (l : List UInt8) (hs : a.eval s = v) (hown : OB B w0 w v l) (t : ByteArray) (hx : a.eval x = .string t) (hlen : l.length + t.size ≤ 1000000000)
    (h : ∀ v' w', OB B w0 w' v' (l ++ t.data.toList) → w.grownBy w' v.ownBlock → wpList Try.prog ops Q rest (a.put o.dst v') w') : wpList Try.prog ops Q (o :: rest) a w := by
  obtain ⟨i0, hi, hz0, hz1, hz2⟩ := info_parts Try.info5
  refine Lib.wpList_append_own_string w hgd s x 101 9 ho B 5 i0 Try.underlying101 Try.underlying9 hi hz0 hz1 hz2 v l.length (bv l) hs hown.1 t hx (by unfold maxLen; omega) (by omega) hown.2.2 ?_
  intro v' w' h1 h2 _
  have e : t.data.toList.length = t.size := Array.length_toList
  refine h v' w' ⟨?_, hown.2.1.grown h2 hown.2.2 (fun k hk => (hown.1.lt k hk).1), Nat.le_trans hown.2.2 h2.size⟩ h2
  rw [List.length_append, bv_append, e]
  exact h1
/-- the block of the three lists -/
def LL (w : World) (g : Nat) (v1 v2 v3 : Value) : Prop := w.heap[g]? = some (.cells #[v1, v2, v3] 23 (0, 0))
theorem LL.kept {w w' : World} {g B : Nat} {w0 : World} {v v1 v2 v3 : Value} {l : List UInt8} (h : LL w g v1 v2 v3) (ho : OB B w0 w v l) (hg : w.grownBy w' v.ownBlock) : LL w' g v1 v2 v3 := by
  have hlt : g < w.heap.size := (Array.getElem?_eq_some_iff.1 h).1
  unfold LL at *
  rw [hg.block g hlt ?_, h]
  intro he
  rcases ho.1.2 with ⟨rfl, _⟩ | ⟨g', cap, cur, rfl, _, hg', _⟩
  · simp [Value.ownBlock] at he
  · simp [Value.ownBlock] at he
    subst he
    rw [h] at hg'
    simp at hg'

/-- what the inner loop of SigText holds -/
def StI (a : Nat) (P l : List ByteArray) (w : World) (g : Nat) (v1 v2 v3 v i : Value) (wr : World) : Prop :=
  ∃ k : Nat, k ≤ l.length ∧ i = .int .i64 k ∧ OB w.heap.size w wr v (kyL a (P ++ l.take k)) ∧ LL wr g v1 v2 v3
/-- what the outer one holds -/
def StO (a : Nat) (o s d : List ByteArray) (w : World) (g : Nat) (v1 v2 v3 v i : Value) (wr : World) : Prop :=
  ∃ j : Nat, j ≤ 3 ∧ i = .int .i64 j ∧ OB w.heap.size w wr v (kyL a (([o, s, d].take j).flatten)) ∧ LL wr g v1 v2 v3

theorem kyL_more (a : Nat) (P l : List ByteArray) (k : Nat) (h : k < l.length) : kyL a (P ++ l.take k) ++ l[k].data.toList = kyL a (P ++ l.take (k + 1)) := by
  unfold kyL
  have e : l.take (k + 1) = l.take k ++ [l[k]] := (List.take_append_getElem h).symm
  rw [e]
  simp only [List.flatMap_append, List.flatMap_cons, List.flatMap_nil, List.append_nil, List.cons_append, List.append_assoc]

theorem LL.cell {w : World} {g : Nat} {v1 v2 v3 : Value} (h : LL w g v1 v2 v3) (j : Nat) (v : Value) (hv : #[v1, v2, v3][j]? = some v) : w.cell? ⟨g, j, none⟩ = some v := by
  rw [cell_of_row w g j _ _ (0, 0) h]
  exact hv

set_option maxRecDepth 100000 in
set_option maxHeartbeats 2000000 in
theorem SigText_yes (a : Nat) (vo vs vd : Value) (g1 o1 g2 o2 g3 o3 : Nat) (o s d : List ByteArray) (w : World) (ho : SS w vo g1 o1 o) (hs : SS w vs g2 o2 s) (hd : SS w vd g3 o3 d) (hf : formB (a : Int) o s d = true) :
    Calls Try.prog 104 #[.agg #[.int .i64 a, vo, vs, vd]] w fun e w' => e = .returned (.tuple #[.string (kyB a (o ++ s ++ d)), .bool true]) ∧ Below w.heap.size w w' := by
  obtain ⟨hA, ⟨wo, lo⟩, ⟨ws, ls⟩, wd, ld⟩ := formB_parts hf
  have hB : Below w.heap.size w (w.alloc (.cells #[.int .i64 a, vo, vs, vd] 59)) := (Below.refl _ _).alloc (Nat.le_refl _) _
  have hc := sigFormOk_any (a : Int) vo vs vd g1 o1 g2 o2 g3 o3 o s d _ (ho.below hB ho.lt) (hs.below hB hs.lt) (hd.below hB hd.lt)
  rw [hf] at hc
  have HC : Hid (Calls Try.prog 130 #[.agg #[.int .i64 a, vo, vs, vd]] (w.alloc (.cells #[.int .i64 a, vo, vs, vd] 59)) fun e w' => e = .returned (.bool true) ∧ Below (w.alloc (.cells #[.int .i64 a, vo, vs, vd] 59)).heap.size (w.alloc (.cells #[.int .i64 a, vo, vs, vd] 59)) w') := hc
  have HB : Hid (Below w.heap.size w (w.alloc (.cells #[.int .i64 a, vo, vs, vd] 59)) ∧ SgM (w.alloc (.cells #[.int .i64 a, vo, vs, vd] 59)) w.heap.size a vo vs vd) := ⟨hB, SgM.new w _ _ _ _⟩
  have HSEL : Hid (∀ j, j < 3 → ∃ (v : Value) (l : List ByteArray) (g of : Nat) (x : Option Addr) (c : Nat), #[vo, vs, vd][j]? = some v ∧ v = .slice x l.length c ∧ (∀ W, Below w.heap.size w W → SS W v g of l) ∧ kwB l = true ∧ l.length ≤ 8 ∧ ([o, s, d].take j).flatten ++ l = ([o, s, d].take (j + 1)).flatten ∧ ([o, s, d].take (j + 1)).flatten.length ≤ 20) := by
    intro j hj
    have h0 : j = 0 ∨ j = 1 ∨ j = 2 := by omega
    rcases h0 with rfl | rfl | rfl
    · obtain ⟨x, c, hv, _⟩ := id ho
      exact ⟨vo, o, g1, o1, x, c, rfl, hv, fun W hW => ho.below hW ho.lt, wo, by omega, by simp, by simp [lo]⟩
    · obtain ⟨x, c, hv, _⟩ := id hs
      exact ⟨vs, s, g2, o2, x, c, rfl, hv, fun W hW => hs.below hW hs.lt, ws, by omega, by simp, by simp [lo, ls]⟩
    · obtain ⟨x, c, hv, _⟩ := id hd
      exact ⟨vd, d, g3, o3, x, c, rfl, hv, fun W hW => hd.below hW hd.lt, wd, by omega, by simp, by simp [lo, ls, ld]⟩
  have HWI : Hid (∀ j, kwB ([o, s, d].take j).flatten = true) := by
    intro j
    have h0 : j = 0 ∨ j = 1 ∨ j = 2 ∨ 3 ≤ j := by omega
    rcases h0 with rfl | rfl | rfl | h
    · rfl
    · simpa using wo
    · simpa using kwB_append wo ws
    · rw [List.take_of_length_le (by simpa using h)]
      simpa using kwB_append wo (kwB_append ws wd)
  have HEND : Hid (kyL a ([o, s, d].take 3).flatten = kyL a (o ++ s ++ d)) := by show kyL a _ = kyL a _; simp
  obtain ⟨ao, co, rfl, _, x1⟩ := ho
  obtain ⟨as2, cs2, rfl, _, x2⟩ := hs
  obtain ⟨ad, cd, rfl, _, x3⟩ := hd
  rw [lo, ls, ld] at HSEL HC HB ⊢
  clear x1 x2 x3 hc hB hf wo ws wd lo ls ld
  have ha : a ≤ 15 := by omega
  clear hA
  obtain ⟨T, hTe⟩ : ∃ T, kyB a (o ++ s ++ d) = T := ⟨_, rfl⟩
  have HTe : Hid (kyB a (o ++ s ++ d) = T) := hTe
  rw [hTe]
  clear hTe
  go_enter Try.func104, Try.ntmps104
  go_wp2_with fail
  refine HC.out.mono ?_
  rintro e w1 ⟨rfl, hb1⟩
  have b1 := HB.out.1.trans (hb1.mono HB.out.1.size)
  have hS1 := HB.out.2.later hb1
  have c0 := hS1.c0
  have c1 := hS1.c1
  have c2 := hS1.c2
  have c3 := hS1.c3
  have hlt := hS1.lt
  have HST : Hid (StO a o s d w (w1.heap.size + 1) (.slice ao 8 co) (.slice as2 8 cs2) (.slice ad 4 cd) (.slice (some ⟨w1.heap.size, 0, none⟩) 1 1) (.int .i64 0) ((w1.alloc (.cells #[.int .u8 (a : Int)] 5)).alloc (.cells #[.slice ao 8 co, .slice as2 8 cs2, .slice ad 4 cd] 23))) := by
    have h1 := OB.one w1 (a : Int) (UInt8.ofNat a) (by simp; omega)
    have h2 : OB w.heap.size w (w1.alloc (.cells #[.int .u8 (a : Int)] 5)) (.slice (some ⟨w1.heap.size, 0, none⟩) 1 1) [UInt8.ofNat a] := by
      refine ⟨⟨h1.1.1, ?_⟩, b1.trans (h1.2.1.mono b1.size), Nat.le_trans b1.size h1.2.2⟩
      rcases h1.1.2 with hn | ⟨g, cap, cur, hv, hbg, rest⟩
      · exact .inl hn
      · exact .inr ⟨g, cap, cur, hv, Nat.le_trans b1.size hbg, rest⟩
    refine ⟨0, by omega, rfl, h2.alloc _, ?_⟩
    have e : (w1.alloc (.cells #[.int .u8 (a : Int)] 5)).heap.size = w1.heap.size + 1 := by simp
    unfold LL
    rw [← e]
    exact Go.heap_alloc_new _ _
  clear HC hS1 b1 hb1
  go_wp2
  go_loopw [4, 24] (fun v i wr => StO a o s d w (w1.heap.size + 1) (.slice ao 8 co) (.slice as2 8 cs2) (.slice ad 4 cd) v i wr) (fun _ i _ => 3 - (intOf i).toNat)
  case atStart => exact HST.out
  case round =>
    obtain ⟨j, hj, rfl, hob, hll⟩ := hrel
    clear HST
    by_cases hlt3 : j < 3
    · obtain ⟨v, l, g, of, x, c, hsel, rfl, HSS, hwl, hl8, hnx, hn20⟩ := HSEL.out j hlt3
      have cj := hll.cell j _ hsel
      have hwP := HWI.out j
      have HNX : Hid (∀ v W, OB w.heap.size w W v (kyL a (([o, s, d].take j).flatten ++ l)) → LL W (w1.heap.size + 1) (.slice ao 8 co) (.slice as2 8 cs2) (.slice ad 4 cd) → StO a o s d w (w1.heap.size + 1) (.slice ao 8 co) (.slice as2 8 cs2) (.slice ad 4 cd) v (.int .i64 ((j : Int) + 1)) W) := by
        rw [hnx]
        exact fun v W hW hL => ⟨j + 1, by omega, by simp, hW, hL⟩
      have hPl : (([o, s, d].take j).flatten).length + l.length ≤ 20 := by rw [← List.length_append, hnx]; exact hn20
      generalize ([o, s, d].take j).flatten = P at *
      have i1 : (j : Int) < 3 := by omega
      have i2 : (0 : Int) ≤ (j : Int) := by omega
      obtain ⟨n, hn⟩ : ∃ n, l.length = n := ⟨_, rfl⟩
      have HN : Hid (l.length = n) := hn
      rw [hn] at cj hl8 hPl HSS
      have HSS : Hid (∀ W, Below w.heap.size w W → SS W (.slice x n c) g of l) := HSS
      have HS2 : Hid (StI a P l w (w1.heap.size + 1) (.slice ao 8 co) (.slice as2 8 cs2) (.slice ad 4 cd) u4 (.int .i64 0) wr) := ⟨0, by omega, rfl, by simpa using hob, hll⟩
      have HW1 : Hid (kwB l = true ∧ kwB P = true) := ⟨hwl, hwP⟩
      clear hob hll hsel hnx hn hwl hwP hn20
      go_wp2
      go_loopw [4, 30] (fun v i wr => StI a P l w (w1.heap.size + 1) (.slice ao 8 co) (.slice as2 8 cs2) (.slice ad 4 cd) v i wr) (fun _ i _ => n - (intOf i).toNat)
      case atStart => exact HS2.out
      case round =>
        obtain ⟨k, hk, rfl, hob, hll⟩ := hrel
        clear HS2 cj
        rw [HN.out] at hk
        by_cases hlt4 : k < n
        · have hsw := HSS.out _ hob.2.1
          obtain ⟨x', c', hv', _, hAx, hcx⟩ := hsw
          have ex := hAx (by rw [HN.out]; omega)
          rw [HN.out] at hv'
          simp at hv'
          obtain ⟨rfl, rfl⟩ := hv'
          subst ex
          have c0 := hcx k (by rw [HN.out]; exact hlt4)
          have hst := kyL_more a P l k (by rw [HN.out]; exact hlt4)
          have z2 := kwB_at HW1.out.1 k (by rw [HN.out]; exact hlt4)
          have z1 : (kyL a (P ++ l.take k)).length ≤ 1000 := by
            rw [kyL_len _ _ (kwB_append HW1.out.2 (kwB_take HW1.out.1 k)), List.length_append, List.length_take]
            omega
          have i3 : (k : Int) < (n : Int) := by omega
          have i4 : (0 : Int) ≤ (k : Int) := by omega
          have HNN : Hid (∀ v W, OB w.heap.size w W v (kyL a (P ++ l.take k) ++ (l[k]'(by rw [HN.out]; exact hlt4)).data.toList) → LL W (w1.heap.size + 1) (.slice ao 8 co) (.slice as2 8 cs2) (.slice ad 4 cd) → StI a P l w (w1.heap.size + 1) (.slice ao 8 co) (.slice as2 8 cs2) (.slice ad 4 cd) v (.int .i64 ((k : Int) + 1)) W) := by
            rw [hst]
            exact fun v W hW hL => ⟨k + 1, by rw [HN.out]; omega, by simp, hW, hL⟩
          generalize l[k]'(by rw [HN.out]; exact hlt4) = X at *
          generalize kyL a (P ++ l.take k) = Y at *
          clear hAx hcx hst
          go_wp2_with (at_builtin; refine wp_appStrG rfl _ _ rfl w.heap.size w _ Y rfl hob X rfl ?c1 ?_)
          case c1 => omega
          intro v' w2 hob2 hgr
          have hll2 := hll.kept hob hgr
          clear hgr hob hll c0
          go_wp2
          go_roundw
          case rel => exact HNN.out _ _ hob2 hll2
          case measure => simp [intOf]; omega
        · have hke : k = n := by omega
          have e : l.take k = l := List.take_of_length_le (by rw [HN.out]; omega)
          rw [e] at hob
          have HN3 := HNX.out _ _ hob hll
          subst hke
          clear hob hll e
          have HN3 : Hid _ := HN3
          go_wp2
          go_roundw
          case rel => exact HN3.out
          case measure => simp [intOf]; omega
    · have hje : j = 3 := by omega
      subst hje
      rw [HEND.out] at hob
      have hcv := run_str hob
      have e3 : (⟨(kyL a (o ++ s ++ d)).toArray⟩ : ByteArray) = T := by rw [← HTe.out]; rfl
      rw [e3] at hcv
      clear e3
      go_wp2
      go_ret2
      exact ⟨rfl, hob.2.1⟩

end Go.Proofs.Ytfojmagcoipbnaa
/-
  A signature taken over by a law; the walk of the law FnExactSigText.
-/
namespace Go.Proofs.Ytfojmagcoipbnaa
open Go.RowKit Go.BigFrame
set_option linter.unusedVariables false

/-- a signature, answered -/
theorem ret_sig1 {fn : Func} {Rp : Ending → World → Prop} {a : Act} {w : World} (c g : Nat) (x : Int) (v1 v2 v3 : Value) (hres : fn.results = #[.cell c 59]) (hd : a.defers = []) (hp : a.tmps.getD c undef = .pointer (some ⟨g, 0, none⟩))
    (hA : SgM w g x v1 v2 v3) (h : Rp (.returned (.agg #[.int .i64 x, v1, v2, v3])) w) : bodyPost Try.prog fn Rp .ret a w := by
  have hr := load_sig hA
  refine bodyPost_ret (v := .agg #[.int .i64 x, v1, v2, v3]) ?_ hd h
  have hp' : a.tmps[c]?.getD undef = .pointer (some ⟨g, 0, none⟩) := by simpa using hp
  simp [results, hres, asAddr, hr, hp']

/-- three cells of a block -/
def CX (w : World) (g : Nat) (v1 v2 v3 : Value) : Prop := w.cell? ⟨g, 1, none⟩ = some v1 ∧ w.cell? ⟨g, 2, none⟩ = some v2 ∧ w.cell? ⟨g, 3, none⟩ = some v3 ∧ g < w.heap.size
theorem CX.later {w w' : World} {g : Nat} {v1 v2 v3 : Value} (h : CX w g v1 v2 v3) (hb : Below w.heap.size w w') : CX w' g v1 v2 v3 :=
  ⟨(hb.cell (p := ⟨g, 1, none⟩) h.2.2.2).trans h.1, (hb.cell (p := ⟨g, 2, none⟩) h.2.2.2).trans h.2.1, (hb.cell (p := ⟨g, 3, none⟩) h.2.2.2).trans h.2.2.1, Nat.lt_of_lt_of_le h.2.2.2 hb.size⟩
theorem CX.keptG {w w' : World} {g : Nat} {row : Option Nat} {v1 v2 v3 : Value} (h : CX w g v1 v2 v3) (hg : w.grownBy w' row) (hne : some g ≠ row) : CX w' g v1 v2 v3 := by
  have e := hg.block g h.2.2.2 hne
  exact ⟨(World.cell?_of_block (w := w) e).trans h.1, (World.cell?_of_block (w := w) e).trans h.2.1, (World.cell?_of_block (w := w) e).trans h.2.2.1, Nat.lt_of_lt_of_le h.2.2.2 hg.size⟩

/-- what stands behind each list that was taken over -/
def TgH (w W : World) (vo vs vd : Value) (a : Int) (v1 v2 v3 : Value) : Prop := CX W w.heap.size vo vs vd ∧ SgM W (w.heap.size + 1) 0 (.slice none 0 0) (.slice none 0 0) (.slice none 0 0) ∧ SgM W (w.heap.size + 1 + 1) a v1 v2 v3 ∧ Below w.heap.size w W
theorem TgH.later {w W W' : World} {vo vs vd : Value} {a : Int} {v1 v2 v3 : Value} (h : TgH w W vo vs vd a v1 v2 v3) (hb : Below W.heap.size W W') : TgH w W' vo vs vd a v1 v2 v3 := ⟨h.1.later hb, h.2.1.later hb, h.2.2.1.later hb, h.2.2.2.trans (hb.mono h.2.2.2.size)⟩

set_option maxRecDepth 100000 in
set_option maxHeartbeats 1000000 in
theorem toSig_any (a : Int) (vo vs vd : Value) (g1 o1 g2 o2 g3 o3 : Nat) (o s d : List ByteArray) (w : World) (ho : SS w vo g1 o1 o) (hs : SS w vs g2 o2 s) (hd : SS w vd g3 o3 d) :
    Calls Try.prog 101 #[.agg #[.int .i64 a, vo, vs, vd]] w fun e w' => ∃ v, e = .returned v ∧ SigIn w' w.heap.size v a o s d ∧ Below w.heap.size w w' := by
  have H1 : Hid (∀ W, Below w.heap.size w W → Calls Try.prog 37 #[vo] W fun e w'' => ∃ g, e = .returned (.slice (some ⟨g, 0, none⟩) o.length o.length) ∧ W.heap.size ≤ g ∧ TB w'' g o ∧ Below W.heap.size W w'') := fun W hW => by
    have h := ho.below hW ho.lt
    exact toStringS_any vo g1 o1 o W h h.lt
  have H2 : Hid (∀ W, Below w.heap.size w W → Calls Try.prog 37 #[vs] W fun e w'' => ∃ g, e = .returned (.slice (some ⟨g, 0, none⟩) s.length s.length) ∧ W.heap.size ≤ g ∧ TB w'' g s ∧ Below W.heap.size W w'') := fun W hW => by
    have h := hs.below hW hs.lt
    exact toStringS_any vs g2 o2 s W h h.lt
  have H3 : Hid (∀ W, Below w.heap.size w W → Calls Try.prog 37 #[vd] W fun e w'' => ∃ g, e = .returned (.slice (some ⟨g, 0, none⟩) d.length d.length) ∧ W.heap.size ≤ g ∧ TB w'' g d ∧ Below W.heap.size W w'') := fun W hW => by
    have h := hd.below hW hd.lt
    exact toStringS_any vd g3 o3 d W h h.lt
  obtain ⟨ao, co, rfl, lo, x1⟩ := ho
  obtain ⟨as2, cs2, rfl, ls, x2⟩ := hs
  obtain ⟨ad, cd, rfl, ld, x3⟩ := hd
  clear x1 x2 x3
  have HA0 : Hid (TgH w (((w.alloc (.cells #[.int .i64 a, .slice ao o.length co, .slice as2 s.length cs2, .slice ad d.length cd] 50)).alloc (.cells zSig 59)).alloc (.cells #[.int .i64 a, .slice none 0 0, .slice none 0 0, .slice none 0 0] 59)) (.slice ao o.length co) (.slice as2 s.length cs2) (.slice ad d.length cd) a (.slice none 0 0) (.slice none 0 0) (.slice none 0 0)) := by
    have h0 : CX (w.alloc (.cells #[.int .i64 a, .slice ao o.length co, .slice as2 s.length cs2, .slice ad d.length cd] 50)) w.heap.size (.slice ao o.length co) (.slice as2 s.length cs2) (.slice ad d.length cd) := ⟨by simp, by simp, by simp, by simp⟩
    generalize hw1 : w.alloc (.cells #[.int .i64 a, .slice ao o.length co, .slice as2 s.length cs2, .slice ad d.length cd] 50) = W1 at *
    have z1 : W1.heap.size = w.heap.size + 1 := by rw [← hw1]; simp
    have b1 : Below w.heap.size w W1 := by rw [← hw1]; exact (Below.refl _ _).alloc (Nat.le_refl _) _
    have h1 := SgM.new W1 0 (.slice none 0 0) (.slice none 0 0) (.slice none 0 0)
    have bb1 : Below W1.heap.size W1 (W1.alloc (.cells zSig 59)) := (Below.refl _ _).alloc (Nat.le_refl _) _
    have z2 : (W1.alloc (.cells zSig 59)).heap.size = w.heap.size + 1 + 1 := by simp [z1]
    have h2 := SgM.new (W1.alloc (.cells zSig 59)) a (.slice none 0 0) (.slice none 0 0) (.slice none 0 0)
    have bb2 : Below (W1.alloc (.cells zSig 59)).heap.size (W1.alloc (.cells zSig 59)) ((W1.alloc (.cells zSig 59)).alloc (.cells #[.int .i64 a, .slice none 0 0, .slice none 0 0, .slice none 0 0] 59)) := (Below.refl _ _).alloc (Nat.le_refl _) _
    rw [z1] at h1
    rw [z2] at h2
    have h1 : SgM (W1.alloc (.cells zSig 59)) (w.heap.size + 1) 0 (.slice none 0 0) (.slice none 0 0) (.slice none 0 0) := h1
    exact ⟨(h0.later bb1).later bb2, h1.later bb2, h2, (b1.trans (bb1.mono b1.size)).trans (bb2.mono (by rw [z2]; omega))⟩
  go_enter Try.func101, Try.ntmps101
  go_wp2_with fail
  refine (H1.out _ HA0.out.2.2.2).mono ?_
  rintro e w1 ⟨k1, rfl, hk1, ht1, hb1⟩
  have hA1 := HA0.out.later hb1
  have c1 := hA1.2.2.1.c1
  have f1 := hA1.2.2.1.fr 1
  have hg1' : w.heap.size + 3 ≤ k1 := by simpa using hk1
  have hl1 := ht1.lt
  have hts1 := ht1.ts o.length o.length rfl lo
  have hgr1 := grown_set w1 (w.heap.size + 1 + 1) 1 (.slice (some ⟨k1, 0, none⟩) o.length o.length)
  have HA1 : Hid (TgH w (w1.setCell ⟨w.heap.size + 1 + 1, 1, none⟩ (.slice (some ⟨k1, 0, none⟩) o.length o.length)) (.slice ao o.length co) (.slice as2 s.length cs2) (.slice ad d.length cd) a (.slice (some ⟨k1, 0, none⟩) o.length o.length) (.slice none 0 0) (.slice none 0 0) ∧ TS (w1.setCell ⟨w.heap.size + 1 + 1, 1, none⟩ (.slice (some ⟨k1, 0, none⟩) o.length o.length)) (.slice (some ⟨k1, 0, none⟩) o.length o.length) k1 o) :=
    ⟨⟨hA1.1.keptG hgr1 (by simp; omega), hA1.2.1.keptG hgr1 (by simp), hA1.2.2.1.set1 _, hA1.2.2.2.setCell (p := ⟨w.heap.size + 1 + 1, 1, none⟩) (by simp; omega) _⟩, hts1.keptG hgr1 (fun _ => by simp; omega)⟩
  have e2 : (w1.setCell ⟨w.heap.size + 1 + 1, 1, none⟩ (.slice (some ⟨k1, 0, none⟩) o.length o.length)).cell? ⟨w.heap.size, 2, none⟩ = some (.slice as2 s.length cs2) := HA1.out.1.1.2.1
  have hsz1 : (w1.setCell ⟨w.heap.size + 1 + 1, 1, none⟩ (.slice (some ⟨k1, 0, none⟩) o.length o.length)).heap.size = w1.heap.size := by simp
  have hne0 : w.heap.size ≠ w.heap.size + 1 + 1 := by omega
  have d2 : w1.cell? ⟨w.heap.size, 2, none⟩ = some (.slice as2 s.length cs2) := hA1.1.2.1
  clear hA1 hts1 hk1 hgr1 ht1 hb1 HA0 H1
  go_wp2_with fail
  refine (H2.out _ HA1.out.1.2.2.2).mono ?_
  rintro e w2 ⟨k2, rfl, hk2, ht2, hb2⟩
  rw [hsz1] at hk2
  have hA2 := HA1.out.1.later hb2
  have ht12 := HA1.out.2.later hb2
  have c2 := hA2.2.2.1.c2
  have f2 := hA2.2.2.1.fr 2
  have hl2 := ht2.lt
  have hts2 := ht2.ts s.length s.length rfl ls
  have hgr2 := grown_set w2 (w.heap.size + 1 + 1) 2 (.slice (some ⟨k2, 0, none⟩) s.length s.length)
  have HA2 : Hid (TgH w (w2.setCell ⟨w.heap.size + 1 + 1, 2, none⟩ (.slice (some ⟨k2, 0, none⟩) s.length s.length)) (.slice ao o.length co) (.slice as2 s.length cs2) (.slice ad d.length cd) a (.slice (some ⟨k1, 0, none⟩) o.length o.length) (.slice (some ⟨k2, 0, none⟩) s.length s.length) (.slice none 0 0) ∧ TS (w2.setCell ⟨w.heap.size + 1 + 1, 2, none⟩ (.slice (some ⟨k2, 0, none⟩) s.length s.length)) (.slice (some ⟨k1, 0, none⟩) o.length o.length) k1 o ∧ TS (w2.setCell ⟨w.heap.size + 1 + 1, 2, none⟩ (.slice (some ⟨k2, 0, none⟩) s.length s.length)) (.slice (some ⟨k2, 0, none⟩) s.length s.length) k2 s) :=
    ⟨⟨hA2.1.keptG hgr2 (by simp; omega), hA2.2.1.keptG hgr2 (by simp), hA2.2.2.1.set2 _, hA2.2.2.2.setCell (p := ⟨w.heap.size + 1 + 1, 2, none⟩) (by simp; omega) _⟩, ht12.keptG hgr2 (fun _ => by simp; omega), hts2.keptG hgr2 (fun _ => by simp; omega)⟩
  have hsz2 : (w2.setCell ⟨w.heap.size + 1 + 1, 2, none⟩ (.slice (some ⟨k2, 0, none⟩) s.length s.length)).heap.size = w2.heap.size := by simp
  have d3 : w2.cell? ⟨w.heap.size, 3, none⟩ = some (.slice ad d.length cd) := hA2.1.2.2.1
  clear hA2 hts2 ht12 hgr2 ht2 hb2 HA1 H2 hsz1 c1 f1 e2 d2
  go_wp2_with fail
  refine (H3.out _ HA2.out.1.2.2.2).mono ?_
  rintro e w3 ⟨k3, rfl, hk3, ht3, hb3⟩
  rw [hsz2] at hk3
  have hA3 := HA2.out.1.later hb3
  have ht13 := HA2.out.2.1.later hb3
  have ht23 := HA2.out.2.2.later hb3
  have c3 := hA3.2.2.1.c3
  have f3 := hA3.2.2.1.fr 3
  have hts3 := ht3.ts d.length d.length rfl ld
  have hgr3 := grown_set w3 (w.heap.size + 1 + 1) 3 (.slice (some ⟨k3, 0, none⟩) d.length d.length)
  have HA3 : Hid (TgH w (w3.setCell ⟨w.heap.size + 1 + 1, 3, none⟩ (.slice (some ⟨k3, 0, none⟩) d.length d.length)) (.slice ao o.length co) (.slice as2 s.length cs2) (.slice ad d.length cd) a (.slice (some ⟨k1, 0, none⟩) o.length o.length) (.slice (some ⟨k2, 0, none⟩) s.length s.length) (.slice (some ⟨k3, 0, none⟩) d.length d.length) ∧ TS (w3.setCell ⟨w.heap.size + 1 + 1, 3, none⟩ (.slice (some ⟨k3, 0, none⟩) d.length d.length)) (.slice (some ⟨k1, 0, none⟩) o.length o.length) k1 o ∧ TS (w3.setCell ⟨w.heap.size + 1 + 1, 3, none⟩ (.slice (some ⟨k3, 0, none⟩) d.length d.length)) (.slice (some ⟨k2, 0, none⟩) s.length s.length) k2 s ∧ TS (w3.setCell ⟨w.heap.size + 1 + 1, 3, none⟩ (.slice (some ⟨k3, 0, none⟩) d.length d.length)) (.slice (some ⟨k3, 0, none⟩) d.length d.length) k3 d) :=
    ⟨⟨hA3.1.keptG hgr3 (by simp; omega), hA3.2.1.keptG hgr3 (by simp), hA3.2.2.1.set3 _, hA3.2.2.2.setCell (p := ⟨w.heap.size + 1 + 1, 3, none⟩) (by simp; omega) _⟩, ht13.keptG hgr3 (fun _ => by simp; omega), ht23.keptG hgr3 (fun _ => by simp; omega), hts3.keptG hgr3 (fun _ => by simp; omega)⟩
  clear hA3 hts3 ht13 ht23 hgr3 ht3 hb3 HA2 H3 hsz2 c2 f2 d3
  go_wp2_with (first | (refine wp_loadSig rfl _ rfl (w.heap.size + 1 + 1) _ _ _ _ rfl HA3.out.1.2.2.1 ?_) | (refine wp_storeSig rfl _ _ rfl (w.heap.size + 1) 0 _ _ _ _ _ _ _ HA3.out.1.2.1 rfl rfl rfl rfl rfl ?_; intro hfin))
  refine ret_sig1 2 (w.heap.size + 1) _ _ _ _ rfl rfl rfl hfin ?_
  obtain ⟨⟨_, _, _, b3⟩, hts1, hts2, hts3⟩ := HA3.out
  have hgr := grown_setRow (w3.setCell ⟨w.heap.size + 1 + 1, 3, none⟩ (.slice (some ⟨k3, 0, none⟩) d.length d.length)) (w.heap.size + 1) #[.int .i64 a, .slice (some ⟨k1, 0, none⟩) o.length o.length, .slice (some ⟨k2, 0, none⟩) s.length s.length, .slice (some ⟨k3, 0, none⟩) d.length d.length]
  refine ⟨_, rfl, ⟨_, _, _, k1, k2, k3, rfl, ⟨hts1.keptG hgr (fun _ => ?_), hts2.keptG hgr (fun _ => ?_), hts3.keptG hgr (fun _ => ?_)⟩, ⟨by omega, by omega, by omega⟩, ⟨by omega, by omega, by omega⟩⟩, b3.grown hgr b3.size (fun k hk => by simp at hk; omega)⟩
  · simp; omega
  · simp; omega
  · simp; omega

theorem IsRowS.later {w w' : World} {a : Option Addr} {n k : Nat} {z : List ByteArray} (h : IsRowS w a n k z) (hb : Below w.heap.size w w') : IsRowS w' a n k z := by
  rcases h with h | ⟨p, rfl, hl, hm, hlz, hc, hz⟩
  · exact .inl h
  · refine .inr ⟨p, rfl, hl, hm, hlz, fun i hi => ?_, hz⟩
    have h4 := hc i hi
    have hlt : (p.add i).block < w.heap.size := by
      rcases Nat.lt_or_ge (p.add i).block w.heap.size with h5 | h5
      · exact h5
      · simp [World.cell?, Array.getElem?_eq_none h5] at h4
    exact (hb.cell hlt).trans h4

theorem sSigText_any (a : Int) (vo vs vd : Value) (g1 o1 g2 o2 g3 o3 : Nat) (o s d : List ByteArray) (w : World) (ho : SS w vo g1 o1 o) (hs : SS w vs g2 o2 s) (hd : SS w vd g3 o3 d) :
    Calls Try.prog 61 #[.agg #[.int .i64 a, vo, vs, vd]] w fun e w' => e = .returned (.tuple #[.string (sigB a o s d), .bool (formB a o s d)]) ∧ Below w.heap.size w w' := by
  unfold sigB
  cases hf : formB a o s d with
  | false => exact sSigText_no a vo vs vd g1 o1 g2 o2 g3 o3 o s d w ho hs hd hf
  | true =>
    obtain ⟨hA, _⟩ := formB_parts hf
    obtain ⟨a, rfl⟩ := Int.eq_ofNat_of_zero_le hA.1
    exact sSigText_yes a vo vs vd g1 o1 g2 o2 g3 o3 o s d w ho hs hd hf
theorem SigText_any (a : Int) (vo vs vd : Value) (g1 o1 g2 o2 g3 o3 : Nat) (o s d : List ByteArray) (w : World) (ho : SS w vo g1 o1 o) (hs : SS w vs g2 o2 s) (hd : SS w vd g3 o3 d) :
    Calls Try.prog 104 #[.agg #[.int .i64 a, vo, vs, vd]] w fun e w' => e = .returned (.tuple #[.string (sigB a o s d), .bool (formB a o s d)]) ∧ Below w.heap.size w w' := by
  unfold sigB
  cases hf : formB a o s d with
  | false => exact SigText_no a vo vs vd g1 o1 g2 o2 g3 o3 o s d w ho hs hd hf
  | true =>
    obtain ⟨hA, _⟩ := formB_parts hf
    obtain ⟨a, rfl⟩ := Int.eq_ofNat_of_zero_le hA.1
    exact SigText_yes a vo vs vd g1 o1 g2 o2 g3 o3 o s d w ho hs hd hf

/-- a signature that a law was handed stays in its box, and is taken over from there -/
def BX (W : World) (p : Nat) (i : Int) (v1 v2 v3 : Value) : Prop := W.heap[p]? = some (.cells #[.int .i64 i, v1, v2, v3] 50 (0, 0))
theorem BX.cells {W : World} {p : Nat} {i : Int} {v1 v2 v3 : Value} (h : BX W p i v1 v2 v3) : W.cell? ⟨p, 0, none⟩ = some (.int .i64 i) ∧ W.cell? ⟨p, 1, none⟩ = some v1 ∧ W.cell? ⟨p, 2, none⟩ = some v2 ∧ W.cell? ⟨p, 3, none⟩ = some v3 := by
  refine ⟨?_, ?_, ?_, ?_⟩
  · rw [cell_of_row W p 0 _ _ (0, 0) h]; rfl
  · rw [cell_of_row W p 1 _ _ (0, 0) h]; rfl
  · rw [cell_of_row W p 2 _ _ (0, 0) h]; rfl
  · rw [cell_of_row W p 3 _ _ (0, 0) h]; rfl
theorem BX.lt {W : World} {p : Nat} {i : Int} {v1 v2 v3 : Value} (h : BX W p i v1 v2 v3) : p < W.heap.size := (Array.getElem?_eq_some_iff.1 h).1
theorem BX.later {W W' : World} {p : Nat} {i : Int} {v1 v2 v3 : Value} (h : BX W p i v1 v2 v3) (hb : Below W.heap.size W W') : BX W' p i v1 v2 v3 := by
  have hlt := h.lt
  unfold BX at *
  rw [hb.block p hlt, h]
theorem BX.new (w : World) (i : Int) (v1 v2 v3 : Value) : BX (w.alloc (.cells #[.int .i64 i, v1, v2, v3] 50)) w.heap.size i v1 v2 v3 := Go.heap_alloc_new w _
theorem load_box {w : World} {g : Nat} {x : Int} {v1 v2 v3 : Value} (hA : BX w g x v1 v2 v3) : (loadVar 50 ⟨g, 0, none⟩).run Try.prog w = .ok (.agg #[.int .i64 x, v1, v2, v3]) w :=
  run_loadVar_row (P := Try.prog) w g 50 50 _ (0, 0) _ hA Try.underlying50 rfl (by kernel_rfl)
theorem wp_loadBox {w : World} {ops : Array Oper} {rest : List Oper} {o : Oper} {a : Act} {Q : Exit → Act → World → Prop} (hgd : o.guard = none) (p : Operand) (ho : o.op = .load 50 p) (g : Nat) (x : Int) (v1 v2 v3 : Value) (hp : a.eval p = .pointer (some ⟨g, 0, none⟩)) (hA : BX w g x v1 v2 v3)
    (h : wpList Try.prog ops Q rest (a.put o.dst (.agg #[.int .i64 x, v1, v2, v3])) w) : wpList Try.prog ops Q (o :: rest) a w := by
  refine wpList_plain hgd fun K hK => ?_
  have hr : (Instr.loadAt 50 (.pointer (some ⟨g, 0, none⟩))).run Try.prog w = .ok (.agg #[.int .i64 x, v1, v2, v3]) w := by
    simp only [Instr.loadAt, Instr.sureAddr, Sem.run_bind, Sem.run_pure, Result.andThen]
    exact load_box hA
  unfold Oper.wp
  simp [execOp, ho, hp, hr, Result.andThen]
  exact hK _ _ h

end Go.Proofs.Ytfojmagcoipbnaa
