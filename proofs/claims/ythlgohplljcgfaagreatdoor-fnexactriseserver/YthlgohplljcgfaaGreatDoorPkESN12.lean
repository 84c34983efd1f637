/-
  Texts laid together: Ck, Bx, Ja, Jd.
-/
import Derived.Test.YthlgohplljcgfaaGreatDoorPkESN11
import Derived.Test.YthlgohplljcgfaaGreatDoorPkESN7
import Derived.Test.YthlgohplljcgfaaGreatDoorPkESN6
import Derived.Test.YthlgohplljcgfaaGreatDoorPkESN1
import Derived.Test.YthlgohplljcgfaaGreatDoorPkESN10
/-
  What the laws' own helper writes into a row of changes.
-/
namespace Go.Proofs.YthlgohplljcgfaaGreatDoor
open Go.RowKit Go.BigFrame Go.Sort
set_option linter.unusedVariables false
set_option linter.unusedSimpArgs false

/-- all may be written, and nothing else was -/
def McI (w : World) (g n : Nat) (wr : World) : Prop := (∀ j, j < n → wr.there g (j * 3) 3) ∧ w.grownBy wr (rowF g n)
theorem McI.below {w wr wr' : World} {g n : Nat} (h : McI w g n wr) (hg : g < wr.heap.size) (hb : Below wr.heap.size wr wr') : McI w g n wr' :=
  ⟨fun j hj => there_kept (h.1 j hj) (hb.block g hg), h.2.trans ((grown_below hb))⟩
theorem McI.set {w wr : World} {g n : Nat} (h : McI w g n wr) (hn : 0 < n) (o : Nat) (v : Value) : McI w g n (wr.setCell ⟨g, o, none⟩ v) :=
  ⟨fun j hj => set_there o (h.1 j hj) v, by
    have h3 := h.2
    rw [rowF_some hn] at h3 ⊢
    exact h3.trans (grown_setC wr g o v)⟩
def McR (w : World) (g n k0 : Nat) (x i : Value) (wr : World) : Prop := ∃ m : Nat, m ≤ n ∧ i = .int .i64 m ∧ x = .int .i64 (k0 + 3 * m : Nat) ∧ Hid (McI w g n wr)

set_option maxRecDepth 100000 in
set_option maxHeartbeats 1000000 in
theorem markChangeS_any (v : Value) (g : Nat) (l : List Ug) (x : Int) (k0 : Nat) (w : World) (hx : x = (k0 : Int)) (h : RW 3 ucs w v g l) (h0 : 0 < k0) (hk : k0 ≤ 10000000) :
    Calls Tryz.prog 41 #[v, .int .i64 x] w fun e w' => e = .returned (.int .i64 (k0 + 3 * l.length : Nat)) ∧ w.grownBy w' (rowF g l.length) := by
  subst hx
  obtain ⟨⟨a, cap, rfl, hl, hA, hc⟩, ht⟩ := h
  obtain ⟨n, hn⟩ : ∃ n, l.length = n := ⟨_, rfl⟩
  rw [hn] at ht hA hl ⊢
  have HA : Hid (0 < n → a = some ⟨g, 0, none⟩ ∧ g < w.heap.size) := hA
  have HST : Hid (McR w g n k0 (.int .i64 k0) (.int .i64 0) w) := ⟨0, by omega, rfl, rfl, ht, ⟨rfl, rfl, rfl, Nat.le_refl _, fun _ _ _ => rfl⟩⟩
  clear hA hc ht
  go_enter Tryz.func41, Tryz.ntmps41
  go_wp2
  go_loopw [1, 5] (fun x i wr => McR w g n k0 x i wr) (fun _ i _ => n - (intOf i).toNat)
  case atStart => exact HST.out
  case round =>
    obtain ⟨m, hm, rfl, rfl, HI⟩ := hrel
    clear HST
    by_cases hlt : m < n
    · obtain ⟨ea, hgw⟩ := HA.out (by omega)
      subst ea
      have hgr : g < wr.heap.size := Nat.lt_of_lt_of_le hgw HI.out.2.size
      have i1 : (m : Int) < (n : Int) := by omega
      have i2 : (0 : Int) ≤ (m : Int) := by omega
      obtain ⟨⟨o0, x0⟩, ⟨o1, x1⟩, ⟨o2, x2⟩, f0, f1, f2⟩ := there3 (HI.out.1 m hlt)
      have HI1 : Hid (McI w g n (wr.setCell ⟨g, m * 3, none⟩ (.int .i64 (k0 + 3 * m : Nat)))) := HI.out.set (by omega) _ _
      have hgr1 : g < (wr.setCell ⟨g, m * 3, none⟩ (.int .i64 (k0 + 3 * m : Nat))).heap.size := by simpa using hgr
      clear HI
      go_wp2_with fail
      refine (markText_int _ (k0 + 3 * m + 1) _ (by omega) (by omega) (by omega)).mono ?_
      rintro e w1 ⟨rfl, hb1⟩
      have HI2 : Hid (McI w g n w1 ∧ g < w1.heap.size) := ⟨HI1.out.below hgr1 hb1, Nat.lt_of_lt_of_le hgr1 hb1.size⟩
      clear HI1 hb1 hgr1 hgr x0 x1 x2 f0 f1 f2 o0 o1 o2
      obtain ⟨⟨o0, x0⟩, ⟨o1, x1⟩, ⟨o2, x2⟩, f0, f1, f2⟩ := there3 (HI2.out.1.1 m hlt)
      generalize markB (k0 + 3 * m + 1) = K0 at *
      have HI3 : Hid (McI w g n (w1.setCell ⟨g, m * 3 + 1, none⟩ (.string K0)) ∧ g < (w1.setCell ⟨g, m * 3 + 1, none⟩ (.string K0)).heap.size) := ⟨HI2.out.1.set (by omega) _ _, by simpa using HI2.out.2⟩
      clear HI2
      go_wp2_with fail
      refine (markText_int _ (k0 + 3 * m + 2) _ (by omega) (by omega) (by omega)).mono ?_
      rintro e w2 ⟨rfl, hb2⟩
      have HI4 : Hid (McI w g n w2) := HI3.out.1.below HI3.out.2 hb2
      clear HI3 hb2 x0 x1 x2 f0 f1 f2 o0 o1 o2
      obtain ⟨⟨o0, x0⟩, ⟨o1, x1⟩, ⟨o2, x2⟩, f0, f1, f2⟩ := there3 (HI4.out.1 m hlt)
      generalize markB (k0 + 3 * m + 2) = K1 at *
      have HI5 : Hid (McI w g n (w2.setCell ⟨g, m * 3 + 2, none⟩ (.string K1))) := HI4.out.set (by omega) _ _
      clear HI4
      go_wp2
      go_roundw
      case rel => exact ⟨m + 1, by omega, by go_num, by go_num, HI5⟩
      case measure => simp [intOf]; omega
    · have hme : m = n := by omega
      have HF : Hid (w.grownBy wr (rowF g n)) := HI.out.2
      subst hme
      clear HI HA
      go_wp2
      go_ret
      exact ⟨rfl, HF.out⟩

end Go.Proofs.YthlgohplljcgfaaGreatDoor
/-
  Boxes of any size.
-/
namespace Go.Proofs.YthlgohplljcgfaaGreatDoor
open Go.RowKit Go.BigFrame Go.Sort
set_option linter.unusedVariables false
set_option linter.unusedSimpArgs false

/-- a box that holds these cells -/
def Box (T : Nat) (W : World) (g : Nat) (cs : List Value) : Prop := W.heap[g]? = some (.cells cs.toArray T (0, 0))
section
variable {T : Nat} {W W' : World} {g : Nat} {cs : List Value}
theorem Box.new (T : Nat) (w : World) (cs : List Value) : Box T (w.alloc (.cells cs.toArray T)) w.heap.size cs := Go.heap_alloc_new w _
theorem Box.lt (h : Box T W g cs) : g < W.heap.size := (Array.getElem?_eq_some_iff.1 h).1
theorem Box.keep (h : Box T W g cs) (he : W'.heap[g]? = W.heap[g]?) : Box T W' g cs := by
  unfold Box at *
  rw [he, h]
theorem Box.later (h : Box T W g cs) (hb : Below W.heap.size W W') : Box T W' g cs := h.keep (hb.block g h.lt)
theorem Box.grown {row : Option Nat} (h : Box T W g cs) (hg : W.grownBy W' row) (hne : some g ≠ row) : Box T W' g cs := h.keep (hg.block g h.lt hne)
theorem Box.range (h : Box T W g cs) : W.rangeAt g 0 cs := fun j v hv => by
  rw [cell_of_row W g (0 + j) _ _ _ h, Nat.zero_add]
  simpa using hv
theorem Box.at (h : Box T W g cs) (j : Nat) (v : Value) (hv : cs[j]? = some v) : W.cell? ⟨g, j, none⟩ = some v := by
  rw [cell_of_row W g j _ _ _ h]
  simpa using hv
theorem Box.fz (h : Box T W g cs) (j : Nat) : W.frozen? ⟨g, j, none⟩ = false := by simp [World.frozen?, show W.heap[g]? = _ from h]
theorem Box.set (h : Box T W g cs) (j : Nat) (v : Value) : Box T (W.setCell ⟨g, j, none⟩ v) g (cs.set j v) := by
  unfold Box at *
  rw [heap_setCell_same W g j _ _ _ h]
  simp
end
theorem below_alloc (w : World) (o : Obj) : Below w.heap.size w (w.alloc o) := (Below.refl _ _).alloc (Nat.le_refl _) _

end Go.Proofs.YthlgohplljcgfaaGreatDoor
/-
  Servers that a law is handed: as they lie in memory, and measured.
-/
namespace Go.Proofs.YthlgohplljcgfaaGreatDoor
open Go.RowKit Go.BigFrame Go.Sort
set_option linter.unusedVariables false
set_option linter.unusedSimpArgs false

/-- a row of numbers that was handed in, great or small -/
def IsRowZ (w : World) (v : Value) (g o : Nat) (l : List Int) : Prop := ∃ a n cap, v = .slice a n cap ∧ n ≤ 9223372036854775807 ∧ (n ≤ 1100000 → l.length = n ∧ RS 1 ics w v g o l)
theorem IsRowZ.later {w w' : World} {v : Value} {g o : Nat} {l : List Int} (h : IsRowZ w v g o l) (hb : Below w.heap.size w w') : IsRowZ w' v g o l := by
  obtain ⟨a, n, cap, hv, hn, hr⟩ := h
  exact ⟨a, n, cap, hv, hn, fun h => ⟨(hr h).1, (hr h).2.later hb⟩⟩
theorem IsRowP.later {w w' : World} {v : Value} {g o : Nat} {Q : List (Value × Nat × Nat × List Le)} (h : IsRowP w v g o Q) (hb : Below w.heap.size w w') : IsRowP w' v g o Q := by
  obtain ⟨a, n, cap, hv, hn, hr⟩ := h
  exact ⟨a, n, cap, hv, hn, fun h => ⟨(hr h).1, fun hp => ⟨((hr h).2.1 hp).1, Nat.lt_of_lt_of_le ((hr h).2.1 hp).2 hb.size⟩, fun j hj => ⟨(hb.cell (p := ⟨g, o + j, none⟩) ((hr h).2.1 (by have := (hr h).1; omega)).2).trans ((hr h).2.2 j hj).1, ((hr h).2.2 j hj).2.later hb⟩⟩⟩

/-- the numbers of a server -/
structure Sn where
  a : Int
  k : Int
  u : Bool
  e : Int
  r0 : Int
  r1 : Int
  r2 : Int
/-- its rows -/
structure Sr where
  F : List Fl
  P : List (List Le)
  I : List Int
  U : List Ug
/-- a server's rows, as they may be read -/
def SvS (W : World) (vd vv vt va : Value) (L : Sr) : Prop := (∃ g o, RS 3 fcs W vd g o L.F) ∧ (∃ g o, PS W vv g o L.P) ∧ (∃ g o, RS 1 ics W vt g o L.I) ∧ ∃ g o, RS 3 ucs W va g o L.U
theorem SvS.later {W W' : World} {vd vv vt va : Value} {L : Sr} (h : SvS W vd vv vt va L) (hb : Below W.heap.size W W') : SvS W' vd vv vt va L := by
  obtain ⟨⟨g1, o1, h1⟩, ⟨g2, o2, h2⟩, ⟨g3, o3, h3⟩, ⟨g4, o4, h4⟩⟩ := h
  exact ⟨⟨g1, o1, h1.later hb⟩, ⟨g2, o2, h2.later hb⟩, ⟨g3, o3, h3.later hb⟩, ⟨g4, o4, h4.later hb⟩⟩
theorem SvS.shapes {W : World} {vd vv vt va : Value} {L : Sr} (h : SvS W vd vv vt va L) : (∃ a c, vd = .slice a L.F.length c) ∧ (∃ a c, vv = .slice a L.P.length c) ∧ (∃ a c, vt = .slice a L.I.length c) ∧ ∃ a c, va = .slice a L.U.length c := by
  obtain ⟨⟨g1, o1, a1, c1, h1, _⟩, ⟨g2, o2, a2, c2, h2, _⟩, ⟨g3, o3, a3, c3, h3, _⟩, ⟨g4, o4, a4, c4, h4, _⟩⟩ := h
  exact ⟨⟨a1, c1, h1⟩, ⟨a2, c2, h2⟩, ⟨a3, c3, h3⟩, ⟨a4, c4, h4⟩⟩
/-- no row and no text of it is great -/
def Sr.sm (L : Sr) : Prop := (SmallF L.F ∧ L.F.length ≤ 1048576) ∧ (SmallP L.P ∧ flatN L.P ≤ 1048576) ∧ L.I.length ≤ 1048576 ∧ SmallUs L.U ∧ L.U.length ≤ 1048576
/-- .. as they were handed in, great or small -/
def IsSv (W : World) (vd vv vt va : Value) (L : Sr) : Prop := (∃ g o, IsRowF W vd g o L.F) ∧ (∃ g o Q, IsRowP W vv g o Q ∧ L.P = ofQ Q) ∧ (∃ g o, IsRowZ W vt g o L.I) ∧ ∃ g o, IsRowU W va g o L.U
theorem IsSv.later {W W' : World} {vd vv vt va : Value} {L : Sr} (h : IsSv W vd vv vt va L) (hb : Below W.heap.size W W') : IsSv W' vd vv vt va L := by
  obtain ⟨⟨g1, o1, h1⟩, ⟨g2, o2, Q, h2, e2⟩, ⟨g3, o3, h3⟩, ⟨g4, o4, h4⟩⟩ := h
  exact ⟨⟨g1, o1, h1.later hb⟩, ⟨g2, o2, Q, h2.later hb, e2⟩, ⟨g3, o3, h3.later hb⟩, ⟨g4, o4, h4.later hb⟩⟩
theorem Box.all11 {T : Nat} {W : World} {g : Nat} {x0 x1 x2 x3 x4 x5 x6 x7 x8 x9 x10 : Value} (h : Box T W g [x0, x1, x2, x3, x4, x5, x6, x7, x8, x9, x10]) : W.cell? ⟨g, 0, none⟩ = some x0 ∧ W.cell? ⟨g, 1, none⟩ = some x1 ∧ W.cell? ⟨g, 2, none⟩ = some x2 ∧ W.cell? ⟨g, 3, none⟩ = some x3 ∧ W.cell? ⟨g, 4, none⟩ = some x4 ∧ W.cell? ⟨g, 5, none⟩ = some x5 ∧ W.cell? ⟨g, 6, none⟩ = some x6 ∧ W.cell? ⟨g, 7, none⟩ = some x7 ∧ W.cell? ⟨g, 8, none⟩ = some x8 ∧ W.cell? ⟨g, 9, none⟩ = some x9 ∧ W.cell? ⟨g, 10, none⟩ = some x10 :=
  ⟨h.at 0 _ rfl, h.at 1 _ rfl, h.at 2 _ rfl, h.at 3 _ rfl, h.at 4 _ rfl, h.at 5 _ rfl, h.at 6 _ rfl, h.at 7 _ rfl, h.at 8 _ rfl, h.at 9 _ rfl, h.at 10 _ rfl⟩

theorem szIntS_row (v : Value) (g o : Nat) (l : List Int) (z : Int) (w : World) (hv : IsRowZ w v g o l) (h0 : 0 ≤ z) (h1 : z ≤ 1048576) :
    Calls Tryz.prog 47 #[v, .int .i64 z] w fun e w' => ∃ A : Int, e = .returned (.int .i64 A) ∧ w' = w ∧ A ≤ z ∧ (0 ≤ A → RS 1 ics w v g o l ∧ l.length ≤ 1048576) := by
  obtain ⟨a, n, cap, rfl, hn, hr⟩ := hv
  have HR : Hid (n ≤ 1100000 → l.length = n ∧ RS 1 ics w (.slice a n cap) g o l) := hr
  clear hr
  by_cases hbig : z < (n : Int)
  · have q : z - (n : Int) < 0 := by omega
    go_enter Tryz.func47, Tryz.ntmps47
    go_wp2
    go_ret
    exact ⟨-1, rfl, rfl, by omega, fun h => by omega⟩
  · have q : ¬ z - (n : Int) < 0 := by omega
    go_enter Tryz.func47, Tryz.ntmps47
    go_wp2
    go_ret
    exact ⟨z - n, rfl, rfl, by omega, fun _ => ⟨(HR.out (by omega)).2, by have := (HR.out (by omega)).1; omega⟩⟩

set_option maxRecDepth 100000 in
set_option maxHeartbeats 2000000 in
theorem szServer_row (n : Sn) (vd vv vt va : Value) (L : Sr) (z : Int) (w : World) (hZ : IsSv w vd vv vt va L) (hz0 : 0 ≤ z) (hz1 : z ≤ 1048576) :
    Calls Tryz.prog 16 #[.agg #[.int .i64 n.a, .int .i64 n.k, .bool n.u, vd, .int .i64 n.e, vv, vt, va, .int .i64 n.r0, .int .i64 n.r1, .int .i64 n.r2], .int .i64 z] w fun e w' => ∃ A : Int, e = .returned (.int .i64 A) ∧ Below w.heap.size w w' ∧ A ≤ z ∧ (0 ≤ A → SvS w' vd vv vt va L ∧ L.sm) := by
  have H1 : Hid (∀ W, Below w.heap.size w W → Calls Tryz.prog 7 #[.agg #[vd], .int .i64 z] W fun e w' => ∃ A : Int, e = .returned (.int .i64 A) ∧ Below W.heap.size W w' ∧ A ≤ z ∧ (0 ≤ A → ∀ w2, Below W.heap.size W w2 → (∃ g o, RS 3 fcs w2 vd g o L.F) ∧ SmallF L.F ∧ L.F.length ≤ 1048576)) := fun W hW => by
    obtain ⟨⟨g1, o1, h1⟩, _⟩ := hZ.later hW
    exact (szDisk_row vd g1 o1 L.F z W h1 hz0 hz1).mono fun e w' ⟨A, he, hb, hA, hB⟩ => ⟨A, he, hb, hA, fun h w2 hb2 => ⟨⟨g1, o1, (hB h).1.later hb2⟩, (hB h).2⟩⟩
  have H2 : Hid (∀ W y, Below w.heap.size w W → 0 ≤ y → y ≤ z → Calls Tryz.prog 46 #[vv, .int .i64 y] W fun e w' => ∃ A : Int, e = .returned (.int .i64 A) ∧ Below W.heap.size W w' ∧ A ≤ y ∧ (0 ≤ A → ∀ w2, Below W.heap.size W w2 → (∃ g o, PS w2 vv g o L.P) ∧ SmallP L.P ∧ flatN L.P ≤ 1048576)) := fun W y hW h0 hy => by
    obtain ⟨_, ⟨g2, o2, Q, h2, e2⟩, _⟩ := hZ.later hW
    rw [e2]
    exact (szLeafSS_row vv g2 o2 Q y W h2 h0 (by omega)).mono fun e w' ⟨A, he, hb, hA, hB⟩ => ⟨A, he, hb, hA, fun h w2 hb2 => ⟨⟨g2, o2, (hB h).1.later hb2⟩, (hB h).2⟩⟩
  have H3 : Hid (∀ W y, Below w.heap.size w W → 0 ≤ y → y ≤ z → Calls Tryz.prog 47 #[vt, .int .i64 y] W fun e w' => ∃ A : Int, e = .returned (.int .i64 A) ∧ w' = W ∧ A ≤ y ∧ (0 ≤ A → ∀ w2, Below W.heap.size W w2 → (∃ g o, RS 1 ics w2 vt g o L.I) ∧ L.I.length ≤ 1048576)) := fun W y hW h0 hy => by
    obtain ⟨_, _, ⟨g3, o3, h3⟩, _⟩ := hZ.later hW
    exact (szIntS_row vt g3 o3 L.I y W h3 h0 (by omega)).mono fun e w' ⟨A, he, hb, hA, hB⟩ => ⟨A, he, hb, hA, fun h w2 hb2 => ⟨⟨g3, o3, (hB h).1.later hb2⟩, (hB h).2⟩⟩
  have H4 : Hid (∀ W y, Below w.heap.size w W → 0 ≤ y → y ≤ z → Calls Tryz.prog 48 #[va, .int .i64 y] W fun e w' => ∃ A : Int, e = .returned (.int .i64 A) ∧ Below W.heap.size W w' ∧ A ≤ y ∧ (0 ≤ A → ∀ w2, Below W.heap.size W w2 → (∃ g o, RS 3 ucs w2 va g o L.U) ∧ SmallUs L.U ∧ L.U.length ≤ 1048576)) := fun W y hW h0 hy => by
    obtain ⟨_, _, _, ⟨g4, o4, h4⟩⟩ := hZ.later hW
    exact (szChangeS_row va g4 o4 L.U y W h4 h0 (by omega)).mono fun e w' ⟨A, he, hb, hA, hB⟩ => ⟨A, he, hb, hA, fun h w2 hb2 => ⟨⟨g4, o4, (hB h).1.later hb2⟩, (hB h).2⟩⟩
  obtain ⟨a, k, u, e, r0, r1, r2⟩ := n
  simp only
  obtain ⟨⟨_, _, ad, nd, cd, e1, _⟩, ⟨_, _, _, ⟨av, nv, cv, e2, _⟩, _⟩, ⟨_, _, at2, nt, ct, e3, _⟩, ⟨_, _, aa, na, ca, e4, _⟩⟩ := hZ
  have HFIN : Hid (∀ w2, ((∃ g o, RS 3 fcs w2 vd g o L.F) ∧ SmallF L.F ∧ L.F.length ≤ 1048576) → ((∃ g o, PS w2 vv g o L.P) ∧ SmallP L.P ∧ flatN L.P ≤ 1048576) → ((∃ g o, RS 1 ics w2 vt g o L.I) ∧ L.I.length ≤ 1048576) → ((∃ g o, RS 3 ucs w2 va g o L.U) ∧ SmallUs L.U ∧ L.U.length ≤ 1048576) → SvS w2 vd vv vt va L ∧ L.sm) := fun w2 h1 h2 h3 h4 => ⟨⟨h1.1, h2.1, h3.1, h4.1⟩, h1.2, h2.2, h3.2, h4.2⟩
  subst e1
  subst e2
  subst e3
  subst e4
  have HX : Hid (Below w.heap.size w (w.alloc (.cells #[.int .i64 a, .int .i64 k, .bool u, .slice ad nd cd, .int .i64 e, .slice av nv cv, .slice at2 nt ct, .slice aa na ca, .int .i64 r0, .int .i64 r1, .int .i64 r2] 47)) ∧ Box 47 (w.alloc (.cells #[.int .i64 a, .int .i64 k, .bool u, .slice ad nd cd, .int .i64 e, .slice av nv cv, .slice at2 nt ct, .slice aa na ca, .int .i64 r0, .int .i64 r1, .int .i64 r2] 47)) w.heap.size [.int .i64 a, .int .i64 k, .bool u, .slice ad nd cd, .int .i64 e, .slice av nv cv, .slice at2 nt ct, .slice aa na ca, .int .i64 r0, .int .i64 r1, .int .i64 r2]) := ⟨below_alloc _ _, Box.new _ _ _⟩
  generalize hq1 : (fun w2 => ((∃ g o, RS 3 fcs w2 (.slice ad nd cd) g o L.F) ∧ SmallF L.F ∧ L.F.length ≤ 1048576)) = q1 at *
  have H1' : Hid (∀ W, Below w.heap.size w W → Calls Tryz.prog 7 #[.agg #[.slice ad nd cd], .int .i64 z] W fun e w' => ∃ A : Int, e = .returned (.int .i64 A) ∧ Below W.heap.size W w' ∧ A ≤ z ∧ (0 ≤ A → ∀ w2, Below W.heap.size W w2 → q1 w2)) := by rw [← hq1]; exact H1
  generalize hq2 : (fun w2 => ((∃ g o, PS w2 (.slice av nv cv) g o L.P) ∧ SmallP L.P ∧ flatN L.P ≤ 1048576)) = q2 at *
  have H2' : Hid (∀ W y, Below w.heap.size w W → 0 ≤ y → y ≤ z → Calls Tryz.prog 46 #[.slice av nv cv, .int .i64 y] W fun e w' => ∃ A : Int, e = .returned (.int .i64 A) ∧ Below W.heap.size W w' ∧ A ≤ y ∧ (0 ≤ A → ∀ w2, Below W.heap.size W w2 → q2 w2)) := by rw [← hq2]; exact H2
  generalize hq3 : (fun w2 => ((∃ g o, RS 1 ics w2 (.slice at2 nt ct) g o L.I) ∧ L.I.length ≤ 1048576)) = q3 at *
  have H3' : Hid (∀ W y, Below w.heap.size w W → 0 ≤ y → y ≤ z → Calls Tryz.prog 47 #[.slice at2 nt ct, .int .i64 y] W fun e w' => ∃ A : Int, e = .returned (.int .i64 A) ∧ w' = W ∧ A ≤ y ∧ (0 ≤ A → ∀ w2, Below W.heap.size W w2 → q3 w2)) := by rw [← hq3]; exact H3
  generalize hq4 : (fun w2 => ((∃ g o, RS 3 ucs w2 (.slice aa na ca) g o L.U) ∧ SmallUs L.U ∧ L.U.length ≤ 1048576)) = q4 at *
  have H4' : Hid (∀ W y, Below w.heap.size w W → 0 ≤ y → y ≤ z → Calls Tryz.prog 48 #[.slice aa na ca, .int .i64 y] W fun e w' => ∃ A : Int, e = .returned (.int .i64 A) ∧ Below W.heap.size W w' ∧ A ≤ y ∧ (0 ≤ A → ∀ w2, Below W.heap.size W w2 → q4 w2)) := by rw [← hq4]; exact H4
  generalize hqf : (fun w2 => (SvS w2 (.slice ad nd cd) (.slice av nv cv) (.slice at2 nt ct) (.slice aa na ca) L ∧ L.sm)) = qf at *
  have HF' : Hid (∀ w2, q1 w2 → q2 w2 → q3 w2 → q4 w2 → qf w2) := by rw [← hq1, ← hq2, ← hq3, ← hq4, ← hqf]; exact HFIN
  have HG : Hid (∀ w2, qf w2 → SvS w2 (.slice ad nd cd) (.slice av nv cv) (.slice at2 nt ct) (.slice aa na ca) L ∧ L.sm) := fun w2 h => by rw [← hqf] at h; exact h
  clear H1 H2 H3 H4 HFIN hq1 hq2 hq3 hq4 hqf
  go_enter Tryz.func16, Tryz.ntmps16
  go_wp2_with fail
  refine (H1'.out _ HX.out.1).mono ?_
  rintro e1 w1 ⟨A, rfl, hb1, hA1, hA2⟩
  generalize hW0 : (w.alloc (.cells #[.int .i64 a, .int .i64 k, .bool u, .slice ad nd cd, .int .i64 e, .slice av nv cv, .slice at2 nt ct, .slice aa na ca, .int .i64 r0, .int .i64 r1, .int .i64 r2] 47)) = W0 at *
  have HX1 : Hid (Below w.heap.size w w1 ∧ Box 47 w1 w.heap.size [.int .i64 a, .int .i64 k, .bool u, .slice ad nd cd, .int .i64 e, .slice av nv cv, .slice at2 nt ct, .slice aa na ca, .int .i64 r0, .int .i64 r1, .int .i64 r2]) := ⟨HX.out.1.trans (hb1.mono HX.out.1.size), HX.out.2.later hb1⟩
  have HQ1 : Hid (0 ≤ A → ∀ w2, Below w1.heap.size w1 w2 → q1 w2) := fun h w2 hb => hA2 h w2 (hb1.trans (hb.mono hb1.size))
  clear hb1 hA2 HX H1' hW0
  by_cases hneg : A < 0
  · clear H2' H3' H4' HF' HQ1 HG
    go_wp2
    go_ret
    exact ⟨-1, rfl, HX1.out.1, by omega, fun h => by omega⟩
  obtain ⟨z0, z1, z2, z3, z4, z5, z6, z7, z8, z9, z10⟩ := HX1.out.2.all11
  go_wp2_with fail
  refine (H2'.out _ A HX1.out.1 (by omega) hA1).mono ?_
  rintro e2 w2 ⟨B, rfl, hb2, hB1, hB2⟩
  have HX2 : Hid (Below w.heap.size w w2 ∧ Box 47 w2 w.heap.size [.int .i64 a, .int .i64 k, .bool u, .slice ad nd cd, .int .i64 e, .slice av nv cv, .slice at2 nt ct, .slice aa na ca, .int .i64 r0, .int .i64 r1, .int .i64 r2]) := ⟨HX1.out.1.trans (hb2.mono HX1.out.1.size), HX1.out.2.later hb2⟩
  have HQ2 : Hid ((∀ w3, Below w2.heap.size w2 w3 → q1 w3) ∧ (0 ≤ B → ∀ w3, Below w2.heap.size w2 w3 → q2 w3)) := ⟨fun w3 hb => HQ1.out (by omega) w3 (hb2.trans (hb.mono hb2.size)), fun h w3 hb => hB2 h w3 (hb2.trans (hb.mono hb2.size))⟩
  clear hb2 hB2 H2' HX1 HQ1 z0 z1 z2 z3 z4 z5 z6 z7 z8 z9 z10
  by_cases hneg2 : B < 0
  · clear H3' H4' HF' HQ2 HG
    go_wp2
    go_ret
    exact ⟨-1, rfl, HX2.out.1, by omega, fun h => by omega⟩
  obtain ⟨z0, z1, z2, z3, z4, z5, z6, z7, z8, z9, z10⟩ := HX2.out.2.all11
  go_wp2_with fail
  refine (H3'.out _ B HX2.out.1 (by omega) (by omega)).mono ?_
  rintro e3 w3 ⟨D, rfl, rfl, hD1, hD2⟩
  have HQ3 : Hid (0 ≤ D → ∀ w2, Below w3.heap.size w3 w2 → q3 w2) := hD2
  clear hD2 H3'
  by_cases hneg3 : D < 0
  · clear H4' HF' HQ2 HQ3 HG
    go_wp2
    go_ret
    exact ⟨-1, rfl, HX2.out.1, by omega, fun h => by omega⟩
  go_wp2_with fail
  refine (H4'.out _ D HX2.out.1 (by omega) (by omega)).mono ?_
  rintro e4 w4 ⟨E, rfl, hb4, hE1, hE2⟩
  have HX4 : Hid (Below w.heap.size w w4 ∧ (0 ≤ E → qf w4)) := ⟨HX2.out.1.trans (hb4.mono HX2.out.1.size), fun hh => HF'.out _ (HQ2.out.1 _ hb4) (HQ2.out.2 (by omega) _ hb4) (HQ3.out (by omega) _ hb4) (hE2 hh _ hb4)⟩
  clear hE2 hb4 HX2 H4' HF' HQ2 HQ3 z0 z1 z2 z3 z4 z5 z6 z7 z8 z9 z10
  by_cases hneg4 : E < 0
  · clear HG
    go_wp2
    go_ret
    exact ⟨-1, rfl, HX4.out.1, by omega, fun h => by omega⟩
  · go_wp2
    go_ret
    exact ⟨E, rfl, HX4.out.1, by omega, fun h => HG.out _ (HX4.out.2 h)⟩

end Go.Proofs.YthlgohplljcgfaaGreatDoor
/-
  What the laws' own helpers do with servers: compared.
-/
namespace Go.Proofs.YthlgohplljcgfaaGreatDoor
open Go.RowKit Go.BigFrame Go.Sort
set_option linter.unusedVariables false
set_option linter.unusedSimpArgs false

theorem sizeReady : (Tryz.prog.info? 33).map (·.size) = some 3 := by kernel_rfl
set_option maxRecDepth 100000 in
set_option maxHeartbeats 400000 in
theorem toReady_any (a b c : Int) (w : World) : Calls Tryz.prog 52 #[.agg #[.int .i64 a, .int .i64 b, .int .i64 c]] w fun e w' => e = .returned (.agg #[.int .i64 a, .int .i64 b, .int .i64 c]) ∧ Below w.heap.size w w' := by
  go_enter Tryz.func52, Tryz.ntmps52
  go_wp2
  refine ret_rec 2 (w.heap.size + 1) 33 [.int .i64 a, .int .i64 b, .int .i64 c] _ rfl rfl rfl Tryz.underlying33 rfl sizeReady ?_ ?_
  · exact World.rangeAt_alloc (range_at (by simp) (range_new _ [.int .i64 a, .int .i64 b, .int .i64 c] _)) _
  · exact ⟨rfl, (((Below.refl _ _).alloc (Nat.le_refl _) _).alloc (by simp) _).alloc (by simp; omega) _⟩
theorem eqReady_yes (a b c : Int) (w : World) : Calls Tryz.prog 37 #[.agg #[.int .i64 a, .int .i64 b, .int .i64 c], .agg #[.int .i64 a, .int .i64 b, .int .i64 c]] w fun e w' => e = .returned (.bool true) ∧ Below w.heap.size w w' := by
  have hb : Below w.heap.size w ((w.alloc (.cells #[.int .i64 a, .int .i64 b, .int .i64 c] 33)).alloc (.cells #[.int .i64 a, .int .i64 b, .int .i64 c] 33)) := ((Below.refl _ _).alloc (Nat.le_refl _) _).alloc (by simp) _
  go_enter Tryz.func37, Tryz.ntmps37
  go_wp2
  go_ret
  exact ⟨rfl, hb⟩

set_option maxRecDepth 100000 in
set_option maxHeartbeats 2000000 in
theorem eqServer_yes (n : Sn) (vd vv vt va ud uv ut ua : Value) (L : Sr) (w : World) (hM : SvS w vd vv vt va L) (hN : SvS w ud uv ut ua L) :
    Calls Tryz.prog 11 #[.agg #[.int .i64 n.a, .int .i64 n.k, .bool n.u, vd, .int .i64 n.e, vv, vt, va, .int .i64 n.r0, .int .i64 n.r1, .int .i64 n.r2], .agg #[.int .i64 n.a, .int .i64 n.k, .bool n.u, ud, .int .i64 n.e, uv, ut, ua, .int .i64 n.r0, .int .i64 n.r1, .int .i64 n.r2]] w fun e w' => e = .returned (.bool true) ∧ Below w.heap.size w w' := by
  have H1 : Hid (∀ W, Below w.heap.size w W → Calls Tryz.prog 12 #[.agg #[vd], .agg #[ud]] W fun e w' => e = .returned (.bool true) ∧ Below W.heap.size W w') := fun W hW => by
    obtain ⟨⟨g1, o1, h1⟩, _⟩ := hM.later hW
    obtain ⟨⟨g2, o2, h2⟩, _⟩ := hN.later hW
    exact eqDisk_yes vd ud g1 o1 g2 o2 L.F W h1 h2
  have H2 : Hid (∀ W, Below w.heap.size w W → Calls Tryz.prog 35 #[vv, uv] W fun e w' => e = .returned (.bool true) ∧ Below W.heap.size W w') := fun W hW => by
    obtain ⟨_, ⟨g1, o1, h1⟩, _⟩ := hM.later hW
    obtain ⟨_, ⟨g2, o2, h2⟩, _⟩ := hN.later hW
    exact eqLeafSS_yes vv uv g1 o1 g2 o2 L.P W h1 h2
  have H3 : Hid (∀ W, Below w.heap.size w W → Calls Tryz.prog 21 #[vt, ut] W fun e w' => e = .returned (.bool true) ∧ Below W.heap.size W w') := fun W hW => by
    obtain ⟨_, _, ⟨g1, o1, h1⟩, _⟩ := hM.later hW
    obtain ⟨_, _, ⟨g2, o2, h2⟩, _⟩ := hN.later hW
    exact eqIntS_yes vt ut g1 o1 g2 o2 L.I W h1 h2
  have H4 : Hid (∀ W, Below w.heap.size w W → Calls Tryz.prog 36 #[va, ua] W fun e w' => e = .returned (.bool true) ∧ Below W.heap.size W w') := fun W hW => by
    obtain ⟨_, _, _, ⟨g1, o1, h1⟩⟩ := hM.later hW
    obtain ⟨_, _, _, ⟨g2, o2, h2⟩⟩ := hN.later hW
    exact eqChangeS_yes va ua g1 o1 g2 o2 L.U W h1 h2
  obtain ⟨a, k, u, e, r0, r1, r2⟩ := n
  simp only
  have H5 : Hid (∀ W, Calls Tryz.prog 37 #[.agg #[.int .i64 r0, .int .i64 r1, .int .i64 r2], .agg #[.int .i64 r0, .int .i64 r1, .int .i64 r2]] W fun e w' => e = .returned (.bool true) ∧ Below W.heap.size W w') := fun W => eqReady_yes r0 r1 r2 W
  obtain ⟨⟨xd, xe, rfl⟩, ⟨xv, xw, rfl⟩, ⟨xt, xu, rfl⟩, ⟨xa, xb, rfl⟩⟩ := hM.shapes
  obtain ⟨⟨yd, ye, rfl⟩, ⟨yv, yw, rfl⟩, ⟨yt, yu, rfl⟩, ⟨ya, yb, rfl⟩⟩ := hN.shapes
  clear hM hN
  generalize L.F.length = nd at *
  generalize L.P.length = nv at *
  generalize L.I.length = nt at *
  generalize L.U.length = na at *
  have HX : Hid (Below w.heap.size w ((w.alloc (.cells #[.int .i64 a, .int .i64 k, .bool u, .slice xd nd xe, .int .i64 e, .slice xv nv xw, .slice xt nt xu, .slice xa na xb, .int .i64 r0, .int .i64 r1, .int .i64 r2] 35)).alloc (.cells #[.int .i64 a, .int .i64 k, .bool u, .slice yd nd ye, .int .i64 e, .slice yv nv yw, .slice yt nt yu, .slice ya na yb, .int .i64 r0, .int .i64 r1, .int .i64 r2] 35)) ∧ Box 35 ((w.alloc (.cells #[.int .i64 a, .int .i64 k, .bool u, .slice xd nd xe, .int .i64 e, .slice xv nv xw, .slice xt nt xu, .slice xa na xb, .int .i64 r0, .int .i64 r1, .int .i64 r2] 35)).alloc (.cells #[.int .i64 a, .int .i64 k, .bool u, .slice yd nd ye, .int .i64 e, .slice yv nv yw, .slice yt nt yu, .slice ya na yb, .int .i64 r0, .int .i64 r1, .int .i64 r2] 35)) w.heap.size [.int .i64 a, .int .i64 k, .bool u, .slice xd nd xe, .int .i64 e, .slice xv nv xw, .slice xt nt xu, .slice xa na xb, .int .i64 r0, .int .i64 r1, .int .i64 r2] ∧ Box 35 ((w.alloc (.cells #[.int .i64 a, .int .i64 k, .bool u, .slice xd nd xe, .int .i64 e, .slice xv nv xw, .slice xt nt xu, .slice xa na xb, .int .i64 r0, .int .i64 r1, .int .i64 r2] 35)).alloc (.cells #[.int .i64 a, .int .i64 k, .bool u, .slice yd nd ye, .int .i64 e, .slice yv nv yw, .slice yt nt yu, .slice ya na yb, .int .i64 r0, .int .i64 r1, .int .i64 r2] 35)) (w.heap.size + 1) [.int .i64 a, .int .i64 k, .bool u, .slice yd nd ye, .int .i64 e, .slice yv nv yw, .slice yt nt yu, .slice ya na yb, .int .i64 r0, .int .i64 r1, .int .i64 r2]) := ⟨(below_alloc _ _).alloc (by simp) _, (Box.new _ w _).later (below_alloc _ _), alloc_fst _ _ (by simp)⟩
  go_enter Tryz.func11, Tryz.ntmps11
  go_wp2_with fail
  refine (H1.out _ HX.out.1).mono ?_
  rintro e1 w1 ⟨rfl, hb1⟩
  have HX1 : Hid (Below w.heap.size w w1 ∧ Box 35 w1 w.heap.size [.int .i64 a, .int .i64 k, .bool u, .slice xd nd xe, .int .i64 e, .slice xv nv xw, .slice xt nt xu, .slice xa na xb, .int .i64 r0, .int .i64 r1, .int .i64 r2] ∧ Box 35 w1 (w.heap.size + 1) [.int .i64 a, .int .i64 k, .bool u, .slice yd nd ye, .int .i64 e, .slice yv nv yw, .slice yt nt yu, .slice ya na yb, .int .i64 r0, .int .i64 r1, .int .i64 r2]) := ⟨HX.out.1.trans (hb1.mono HX.out.1.size), HX.out.2.1.later hb1, HX.out.2.2.later hb1⟩
  clear hb1 HX H1
  obtain ⟨z0, z1, z2, z3, z4, z5, z6, z7, z8, z9, z10⟩ := HX1.out.2.1.all11
  obtain ⟨y0, y1, y2, y3, y4, y5, y6, y7, y8, y9, y10⟩ := HX1.out.2.2.all11
  go_wp2_with fail
  refine (H2.out _ HX1.out.1).mono ?_
  rintro e2 w2 ⟨rfl, hb2⟩
  have HX2 : Hid (Below w.heap.size w w2 ∧ Box 35 w2 w.heap.size [.int .i64 a, .int .i64 k, .bool u, .slice xd nd xe, .int .i64 e, .slice xv nv xw, .slice xt nt xu, .slice xa na xb, .int .i64 r0, .int .i64 r1, .int .i64 r2] ∧ Box 35 w2 (w.heap.size + 1) [.int .i64 a, .int .i64 k, .bool u, .slice yd nd ye, .int .i64 e, .slice yv nv yw, .slice yt nt yu, .slice ya na yb, .int .i64 r0, .int .i64 r1, .int .i64 r2]) := ⟨HX1.out.1.trans (hb2.mono HX1.out.1.size), HX1.out.2.1.later hb2, HX1.out.2.2.later hb2⟩
  clear hb2 HX1 H2 z0 z1 z2 z3 z4 z5 z6 z7 z8 z9 z10 y0 y1 y2 y3 y4 y5 y6 y7 y8 y9 y10
  obtain ⟨z0, z1, z2, z3, z4, z5, z6, z7, z8, z9, z10⟩ := HX2.out.2.1.all11
  obtain ⟨y0, y1, y2, y3, y4, y5, y6, y7, y8, y9, y10⟩ := HX2.out.2.2.all11
  go_wp2_with fail
  refine (H3.out _ HX2.out.1).mono ?_
  rintro e3 w3 ⟨rfl, hb3⟩
  have HX3 : Hid (Below w.heap.size w w3 ∧ Box 35 w3 w.heap.size [.int .i64 a, .int .i64 k, .bool u, .slice xd nd xe, .int .i64 e, .slice xv nv xw, .slice xt nt xu, .slice xa na xb, .int .i64 r0, .int .i64 r1, .int .i64 r2] ∧ Box 35 w3 (w.heap.size + 1) [.int .i64 a, .int .i64 k, .bool u, .slice yd nd ye, .int .i64 e, .slice yv nv yw, .slice yt nt yu, .slice ya na yb, .int .i64 r0, .int .i64 r1, .int .i64 r2]) := ⟨HX2.out.1.trans (hb3.mono HX2.out.1.size), HX2.out.2.1.later hb3, HX2.out.2.2.later hb3⟩
  clear hb3 HX2 H3 z0 z1 z2 z3 z4 z5 z6 z7 z8 z9 z10 y0 y1 y2 y3 y4 y5 y6 y7 y8 y9 y10
  obtain ⟨z0, z1, z2, z3, z4, z5, z6, z7, z8, z9, z10⟩ := HX3.out.2.1.all11
  obtain ⟨y0, y1, y2, y3, y4, y5, y6, y7, y8, y9, y10⟩ := HX3.out.2.2.all11
  go_wp2_with fail
  refine (H4.out _ HX3.out.1).mono ?_
  rintro e4 w4 ⟨rfl, hb4⟩
  have HX4 : Hid (Below w.heap.size w w4 ∧ Box 35 w4 w.heap.size [.int .i64 a, .int .i64 k, .bool u, .slice xd nd xe, .int .i64 e, .slice xv nv xw, .slice xt nt xu, .slice xa na xb, .int .i64 r0, .int .i64 r1, .int .i64 r2] ∧ Box 35 w4 (w.heap.size + 1) [.int .i64 a, .int .i64 k, .bool u, .slice yd nd ye, .int .i64 e, .slice yv nv yw, .slice yt nt yu, .slice ya na yb, .int .i64 r0, .int .i64 r1, .int .i64 r2]) := ⟨HX3.out.1.trans (hb4.mono HX3.out.1.size), HX3.out.2.1.later hb4, HX3.out.2.2.later hb4⟩
  clear hb4 HX3 H4 z0 z1 z2 z3 z4 z5 z6 z7 z8 z9 z10 y0 y1 y2 y3 y4 y5 y6 y7 y8 y9 y10
  obtain ⟨z0, z1, z2, z3, z4, z5, z6, z7, z8, z9, z10⟩ := HX4.out.2.1.all11
  obtain ⟨y0, y1, y2, y3, y4, y5, y6, y7, y8, y9, y10⟩ := HX4.out.2.2.all11
  go_wp2_with fail
  refine (H5.out _).mono ?_
  rintro e5 w5 ⟨rfl, hb5⟩
  have HX5 : Hid (Below w.heap.size w w5 ∧ Box 35 w5 w.heap.size [.int .i64 a, .int .i64 k, .bool u, .slice xd nd xe, .int .i64 e, .slice xv nv xw, .slice xt nt xu, .slice xa na xb, .int .i64 r0, .int .i64 r1, .int .i64 r2] ∧ Box 35 w5 (w.heap.size + 1) [.int .i64 a, .int .i64 k, .bool u, .slice yd nd ye, .int .i64 e, .slice yv nv yw, .slice yt nt yu, .slice ya na yb, .int .i64 r0, .int .i64 r1, .int .i64 r2]) := ⟨HX4.out.1.trans (hb5.mono HX4.out.1.size), HX4.out.2.1.later hb5, HX4.out.2.2.later hb5⟩
  clear hb5 HX4 H5 z0 z1 z2 z3 z4 z5 z6 z7 z8 z9 z10 y0 y1 y2 y3 y4 y5 y6 y7 y8 y9 y10
  go_wp2
  go_ret
  exact ⟨rfl, HX5.out.1⟩

end Go.Proofs.YthlgohplljcgfaaGreatDoor
