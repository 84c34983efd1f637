/-
  What the laws' own helpers do with rows of acts: taken over, compared, weighed, marked.
-/
import Derived.Test.YtadikpmecjjgjaaDoorMf
import Derived.Test.YtadikpmecjjgjaaDoorAc
namespace Go.Proofs.YtadikpmecjjgjaaDoor
open Go.RowKit Go.BigFrame Go.Sort
set_option linter.unusedVariables false
set_option linter.unusedSimpArgs false

theorem there4 {w : World} {g o : Nat} (h : w.there g o 4) : (∃ u, w.cell? ⟨g, o, none⟩ = some u) ∧ (∃ u, w.cell? ⟨g, o + 1, none⟩ = some u) ∧ (∃ u, w.cell? ⟨g, o + 2, none⟩ = some u) ∧ (∃ u, w.cell? ⟨g, o + 3, none⟩ = some u) ∧ w.frozen? ⟨g, o, none⟩ = false ∧ w.frozen? ⟨g, o + 1, none⟩ = false ∧ w.frozen? ⟨g, o + 2, none⟩ = false ∧ w.frozen? ⟨g, o + 3, none⟩ = false :=
  ⟨Option.isSome_iff_exists.1 (h 0 (by omega)).1, Option.isSome_iff_exists.1 (h 1 (by omega)).1, Option.isSome_iff_exists.1 (h 2 (by omega)).1, Option.isSome_iff_exists.1 (h 3 (by omega)).1, (h 0 (by omega)).2, (h 1 (by omega)).2, (h 2 (by omega)).2, (h 3 (by omega)).2⟩

theorem Tryd.infoAct : (Tryd.prog.info? 50).map (fun i => (i.zero, i.size, i.bytes)) = some (some (.agg #[.int .i64 0, .string ByteArray.empty, .string ByteArray.empty, .string ByteArray.empty]), 4, 56) := by kernel_rfl
theorem there_new4 {W : World} {cs : Array Value} {T n : Nat} (h : cs.size = n * 4) (j : Nat) (hj : j < n) : (W.alloc (.cells cs T)).there W.heap.size (j * 4) 4 := by
  intro i hi
  have hg := Go.heap_alloc_new W (.cells cs T)
  refine ⟨?_, by unfold World.frozen?; simp only [hg]; simp⟩
  rw [cell_of_row _ W.heap.size (j * 4 + i) cs T (0, 0) hg, Array.getElem?_eq_getElem (by omega)]
  rfl
theorem made_acts (n : Nat) (h : n ≤ 1100000) (W : World) : ∃ w', (Instr.makeSlice 22 (.int .i64 (n : Int)) (.int .i64 (n : Int))).run Tryd.prog W = .ok (.slice (some ⟨W.heap.size, 0, none⟩) n n) w' ∧ (∀ j, j < n → w'.there W.heap.size (j * 4) 4) ∧ Below W.heap.size W w' ∧ w'.heap.size = W.heap.size + 1 := by
  obtain ⟨i0, hi, hz0, hz1, hz2⟩ := info_parts Tryd.infoAct
  have h1 := run_make (P := Tryd.prog) W 22 50 i0 _ Tryd.underlying22 hi hz0 .i64 .i64 (n : Int) (n : Int) (by omega) (by omega) (by rw [hz2]; omega) (by omega)
  refine ⟨_, by simpa using h1, fun j hj => there_new4 ?_ j hj, (Below.refl _ _).alloc (Nat.le_refl _) _, by simp⟩
  rw [size_madeCells, hz1]

/-- the first m records of a new row are written -/
def ToA (w : World) (l : List Ac) (B g : Nat) (i : Value) (wr : World) : Prop := ∃ m : Nat, m ≤ l.length ∧ i = .int .i64 m ∧ (∀ j (h : j < l.length), j < m → wr.rangeAt g (j * 4) (acs l[j])) ∧ (∀ j, j < l.length → wr.there g (j * 4) 4) ∧ Below B w wr
theorem ToA.set {w wr : World} {l : List Ac} {g m B : Nat} (hm : m < l.length) (hB : B ≤ g) (h1 : ∀ j (h : j < l.length), j < m → wr.rangeAt g (j * 4) (acs l[j])) (h2 : ∀ j, j < l.length → wr.there g (j * 4) 4) (h3 : Below B w wr) :
    (∀ j (h : j < l.length), j < m + 1 → (wr.setCells g (m * 4) (acs l[m])).rangeAt g (j * 4) (acs l[j])) ∧ (∀ j, j < l.length → (wr.setCells g (m * 4) (acs l[m])).there g (j * 4) 4) ∧ Below B w (wr.setCells g (m * 4) (acs l[m])) := by
  refine ⟨fun j hj hlt => ?_, fun j hj => World.there_setCells (h2 j hj) _ _ _, ?_⟩
  · rcases Nat.lt_or_ge j m with h4 | h4
    · exact World.rangeAt_setCells_apart (h1 j hj h4) _ _ _ (.inr (.inl (by rw [acs_len]; omega)))
    · have : j = m := by omega
      subst this
      exact World.rangeAt_setCells_same _ _ _ _ (h2 j hj)
  · exact below_setCells hB _ _ _ h3

theorem eqAct_yes (f : Ac) (w : World) : Calls Tryd.prog 28 #[.agg #[.int .i64 f.k, .string f.n, .string f.t, .string f.o], .agg #[.int .i64 f.k, .string f.n, .string f.t, .string f.o]] w fun e w' => e = .returned (.bool true) ∧ Below w.heap.size w w' := by
  obtain ⟨k, x, t, o⟩ := f
  have hb : Below w.heap.size w ((w.alloc (.cells #[.int .i64 k, .string x, .string t, .string o] 50)).alloc (.cells #[.int .i64 k, .string x, .string t, .string o] 50)) := ((Below.refl _ _).alloc (Nat.le_refl _) _).alloc (by simp) _
  go_enter Tryd.func28, Tryd.ntmps28
  go_wp2
  go_ret
  exact ⟨rfl, hb⟩

def EaR (n : Nat) (w : World) (i : Value) (wr : World) : Prop := ∃ m : Nat, m ≤ n ∧ i = .int .i64 m ∧ Below w.heap.size w wr

set_option maxRecDepth 100000 in
set_option maxHeartbeats 400000 in
theorem eqActS_yes (u v : Value) (ga oa gb ob : Nat) (l : List Ac) (w : World) (hu : RS 4 acs w u ga oa l) (hv : RS 4 acs w v gb ob l) :
    Calls Tryd.prog 8 #[u, v] w fun e w' => e = .returned (.bool true) ∧ Below w.heap.size w w' := by
  have HU : Hid (RS 4 acs w u ga oa l) := hu
  have HV : Hid (RS 4 acs w v gb ob l) := hv
  obtain ⟨a, cap, rfl, hl, hA, _⟩ := hu
  obtain ⟨b, cap2, rfl, _, hB, _⟩ := hv
  obtain ⟨n, hn⟩ : ∃ n, l.length = n := ⟨_, rfl⟩
  have HA : Hid (0 < n → a = some ⟨ga, oa, none⟩ ∧ b = some ⟨gb, ob, none⟩) := by rw [← hn]; exact fun h => ⟨(hA h).1, (hB h).1⟩
  rw [hn] at hl ⊢
  clear hA hB
  go_enter Tryd.func8, Tryd.ntmps8
  go_wp2
  go_loopw [5] (fun i wr => EaR n w i wr) (fun i _ => n - (intOf i).toNat)
  case atStart => exact ⟨0, by omega, rfl, Below.refl _ _⟩
  case round =>
    obtain ⟨m, hm, rfl, hbel⟩ := hrel
    by_cases hlt : m < n
    · obtain ⟨ea, eb⟩ := HA.out (by omega)
      subst ea
      subst eb
      obtain ⟨c0, c1, c2, c3⟩ := (HU.out.later hbel).act m (by omega)
      obtain ⟨e0, e1, e2, e3⟩ := (HV.out.later hbel).act m (by omega)
      generalize l[m]'(by omega) = X at *
      have i1 : (m : Int) < (n : Int) := by omega
      have i2 : (0 : Int) ≤ (m : Int) := by omega
      clear HU HV HA
      go_wp2
      have kq0 := cell_regrown (w := wr) c0
      have kq1 := cell_regrown (w := wr) c1
      have kq2 := cell_regrown (w := wr) c2
      have kq3 := cell_regrown (w := wr) c3
      have kq4 := cell_regrown (w := wr) e0
      have kq5 := cell_regrown (w := wr) e1
      have kq6 := cell_regrown (w := wr) e2
      have kq7 := cell_regrown (w := wr) e3
      have cq0 := fun d os => Calls.regrown_of (w := wr) (d := d) (os := os) (eqAct_yes X _)
      refine wp_region_quiet_below (by kernel_rfl) (by kernel_rfl) ?_
      repeat (go_big_quiet_step (first | exact cq0 _ _))
      refine wpQuiet_nil ?_
      rintro _ ⟨⟨dq, osq⟩, rfl⟩
      have hb6 := below_regrown (wr) dq osq
      generalize grow (redrawn (wr) dq) osq = w6 at *
      clear kq0 kq1 kq2 kq3 kq4 kq5 kq6 kq7 cq0
      go_wp2
      go_roundw
      case rel => exact ⟨m + 1, by omega, by go_num, hbel.trans (hb6.mono hbel.size)⟩
      case measure => simp [intOf]; omega
    · have hme : m = n := by omega
      subst hme
      clear HU HV HA
      go_wp2
      go_ret
      exact ⟨rfl, hbel⟩

/-- a row of acts that was handed in, great or small: if it is small, it is l -/
def IsRowA (w : World) (v : Value) (g o : Nat) (l : List Ac) : Prop := ∃ a n cap, v = .slice a n cap ∧ n ≤ 9223372036854775807 ∧ (n ≤ 1100000 → l.length = n ∧ RS 4 acs w v g o l ∧ ∀ f ∈ l, f.n.size ≤ 9223372036854775807 ∧ f.t.size ≤ 9223372036854775807 ∧ f.o.size ≤ 9223372036854775807)
theorem IsRowA.later {w w' : World} {v : Value} {g o : Nat} {l : List Ac} (h : IsRowA w v g o l) (hb : Below w.heap.size w w') : IsRowA w' v g o l := by
  obtain ⟨a, n, cap, hv, hn, hr⟩ := h
  exact ⟨a, n, cap, hv, hn, fun hl => ⟨(hr hl).1, (hr hl).2.1.later hb, (hr hl).2.2⟩⟩
def SmallA1 (a : Ac) : Prop := a.n.size ≤ 1048576 ∧ a.t.size ≤ 1048576 ∧ a.o.size ≤ 1048576
/-- no text of it is great -/
def SmallAs (l : List Ac) : Prop := ∀ f ∈ l, SmallA1 f

def SzA (l : List Ac) (x0 : Int) (w : World) (x i : Value) (wr : World) : Prop := ∃ (m : Nat) (y : Int), m ≤ l.length ∧ i = .int .i64 m ∧ x = .int .i64 y ∧ 0 ≤ y ∧ y ≤ x0 ∧ Hid (∀ j (h : j < l.length), j < m → SmallA1 l[j]) ∧ Below w.heap.size w wr

/-- all acts may be written, nothing else has turned -/
def MaI (w : World) (g : Nat) (l : List Ac) (wr : World) : Prop := (∀ j, j < l.length → wr.there g (j * 4) 4) ∧ w.grownBy wr (rowF g l.length)
theorem MaI.below {w wr wr' : World} {g : Nat} {l : List Ac} (h : MaI w g l wr) (hg : g < wr.heap.size) (hb : Below wr.heap.size wr wr') : MaI w g l wr' :=
  ⟨fun j hj => there_kept (h.1 j hj) (hb.block g hg), h.2.trans (grown_below hb)⟩
theorem MaI.set {w wr : World} {g : Nat} {l : List Ac} (h : MaI w g l wr) (hl : 0 < l.length) (o : Nat) (v : Value) : MaI w g l (wr.setCell ⟨g, o, none⟩ v) :=
  ⟨fun j hj => set_there o (h.1 j hj) v, by
    have h3 := h.2
    rw [rowF_some hl] at h3 ⊢
    exact h3.trans (grown_set wr g o v)⟩
def MaR (w : World) (g : Nat) (l : List Ac) (k0 : Nat) (x i : Value) (wr : World) : Prop := ∃ m : Nat, m ≤ l.length ∧ i = .int .i64 m ∧ x = .int .i64 (k0 + 4 * m : Nat) ∧ Hid (MaI w g l wr)

set_option maxRecDepth 100000 in
set_option maxHeartbeats 1000000 in
theorem markActS_any (v : Value) (g : Nat) (l : List Ac) (x : Int) (k0 : Nat) (w : World) (hx : x = (k0 : Int)) (h : RW 4 acs w v g l) (h0 : 0 < k0) (hk : k0 ≤ 10000000) :
    Calls Tryd.prog 9 #[v, .int .i64 x] w fun e w' => e = .returned (.int .i64 (k0 + 4 * l.length : Nat)) ∧ w.grownBy w' (rowF g l.length) := by
  subst hx
  obtain ⟨⟨a, cap, rfl, hl, hA, hc⟩, ht⟩ := h
  obtain ⟨n, hn⟩ : ∃ n, l.length = n := ⟨_, rfl⟩
  have HA : Hid (0 < n → a = some ⟨g, 0, none⟩ ∧ g < w.heap.size) := by rw [← hn]; exact hA
  have HST : Hid (MaR w g l k0 (.int .i64 k0) (.int .i64 0) w) := ⟨0, by omega, rfl, rfl, ht, ⟨rfl, rfl, rfl, Nat.le_refl _, fun _ _ _ => rfl⟩⟩
  rw [hn] at hl
  rw [hn]
  clear hA hc ht
  go_enter Tryd.func9, Tryd.ntmps9
  go_wp2
  go_loopw [1, 5] (fun x i wr => MaR w g l k0 x i wr) (fun _ i _ => n - (intOf i).toNat)
  case atStart => exact HST.out
  case round =>
    obtain ⟨m, hm, rfl, rfl, HI⟩ := hrel
    clear HST
    rw [hn] at hm
    by_cases hlt : m < n
    · obtain ⟨ea, hgw⟩ := HA.out (by omega)
      subst ea
      have hgr : g < wr.heap.size := Nat.lt_of_lt_of_le hgw HI.out.2.size
      have i1 : (m : Int) < (n : Int) := by omega
      have i2 : (0 : Int) ≤ (m : Int) := by omega
      obtain ⟨⟨o0, x0⟩, ⟨o1, x1⟩, ⟨o2, x2⟩, ⟨o3, x3⟩, f0, f1, f2, f3⟩ := there4 (HI.out.1 m (by omega))
      have HI0 : Hid (MaI w g l (wr.setCell ⟨g, m * 4, none⟩ (.int .i64 (k0 + 4 * m : Nat))) ∧ g < (wr.setCell ⟨g, m * 4, none⟩ (.int .i64 (k0 + 4 * m : Nat))).heap.size) := ⟨HI.out.set (by omega) _ _, by simpa using hgr⟩
      clear HI
      go_wp2_with fail
      refine (markText_int _ (k0 + 4 * m + 1) _ (by omega) (by omega) (by omega)).mono ?_
      rintro e w1 ⟨rfl, hb1⟩
      have HI1 : Hid (MaI w g l w1 ∧ g < w1.heap.size) := ⟨HI0.out.1.below HI0.out.2 hb1, Nat.lt_of_lt_of_le HI0.out.2 hb1.size⟩
      clear HI0 hb1 x0 x1 x2 x3 f0 f1 f2 f3 o0 o1 o2 o3
      obtain ⟨⟨o0, x0⟩, ⟨o1, x1⟩, ⟨o2, x2⟩, ⟨o3, x3⟩, f0, f1, f2, f3⟩ := there4 (HI1.out.1.1 m (by omega))
      have HI2 : Hid (MaI w g l (w1.setCell ⟨g, m * 4 + 1, none⟩ (.string (markB (k0 + 4 * m + 1)))) ∧ g < (w1.setCell ⟨g, m * 4 + 1, none⟩ (.string (markB (k0 + 4 * m + 1)))).heap.size) := ⟨HI1.out.1.set (by omega) _ _, by simpa using HI1.out.2⟩
      clear HI1
      go_wp2_with fail
      refine (markText_int _ (k0 + 4 * m + 2) _ (by omega) (by omega) (by omega)).mono ?_
      rintro e w2 ⟨rfl, hb2⟩
      have HI3 : Hid (MaI w g l w2 ∧ g < w2.heap.size) := ⟨HI2.out.1.below HI2.out.2 hb2, Nat.lt_of_lt_of_le HI2.out.2 hb2.size⟩
      clear HI2 hb2 x0 x1 x2 x3 f0 f1 f2 f3 o0 o1 o2 o3
      obtain ⟨⟨o0, x0⟩, ⟨o1, x1⟩, ⟨o2, x2⟩, ⟨o3, x3⟩, f0, f1, f2, f3⟩ := there4 (HI3.out.1.1 m (by omega))
      have HI4 : Hid (MaI w g l (w2.setCell ⟨g, m * 4 + 2, none⟩ (.string (markB (k0 + 4 * m + 2)))) ∧ g < (w2.setCell ⟨g, m * 4 + 2, none⟩ (.string (markB (k0 + 4 * m + 2)))).heap.size) := ⟨HI3.out.1.set (by omega) _ _, by simpa using HI3.out.2⟩
      clear HI3
      go_wp2_with fail
      refine (markText_int _ (k0 + 4 * m + 3) _ (by omega) (by omega) (by omega)).mono ?_
      rintro e w3 ⟨rfl, hb3⟩
      have HI5 : Hid (MaI w g l w3) := HI4.out.1.below HI4.out.2 hb3
      clear HI4 hb3 x0 x1 x2 x3 f0 f1 f2 f3 o0 o1 o2 o3
      obtain ⟨⟨o0, x0⟩, ⟨o1, x1⟩, ⟨o2, x2⟩, ⟨o3, x3⟩, f0, f1, f2, f3⟩ := there4 (HI5.out.1 m (by omega))
      have HI6 : Hid (MaI w g l (w3.setCell ⟨g, m * 4 + 3, none⟩ (.string (markB (k0 + 4 * m + 3))))) := HI5.out.set (by omega) _ _
      clear HI5
      generalize markB (k0 + 4 * m + 3) = K3 at *
      go_wp2
      go_roundw
      case rel => exact ⟨m + 1, by omega, by go_num, by go_num, HI6⟩
      case measure => simp [intOf]; omega
    · have hme : m = n := by omega
      have HF : Hid (w.grownBy wr (rowF g n)) := by
        have h3 := HI.out.2
        rw [hn] at h3
        exact h3
      subst hme
      clear HI HA
      go_wp2
      go_ret
      exact ⟨rfl, HF.out⟩

end Go.Proofs.YtadikpmecjjgjaaDoor
