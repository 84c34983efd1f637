/-
  Texts laid together: Cb, Co, Short.
-/
import Derived.Test.YtiabodhgjeoejaaPkC2
import Derived.Test.YtiabodhgjeoejaaPkC6
import Derived.Deep.AppendLies
import Derived.Deep.RegionLaw
import Derived.OwnWalk
import Derived.Test.YtiabodhgjeoejaaPkC1
/-
  A change, and rows of changes, that a law is handed: counted, copied, compared.
-/
namespace Go.Proofs.Ytiabodhgjeoejaa
open Go.RowKit Go.BigFrame Go.Sort
set_option linter.unusedVariables false
set_option linter.unusedSimpArgs false


/-- a change in cells of any box -/
def RU (W : World) (g : Nat) (x : Ug) : Prop := W.rangeAt g 0 (ucs x) ∧ g < W.heap.size
theorem RU.new (w : World) (x : Ug) (T : Nat) : RU (w.alloc (.cells #[.int .i64 x.i, .string x.n, .string x.v] T)) w.heap.size x := ⟨range_new w (ucs x) T, by simp⟩
theorem RU.later {W W' : World} {g : Nat} {x : Ug} (h : RU W g x) (hb : Below W.heap.size W W') : RU W' g x := ⟨range_kept h.1 (hb.block g h.2), Nat.lt_of_lt_of_le h.2 hb.size⟩
theorem RU.grown {W W' : World} {g : Nat} {x : Ug} {row : Option Nat} (h : RU W g x) (hg : W.grownBy W' row) (hne : some g ≠ row) : RU W' g x := ⟨range_kept h.1 (hg.block g h.2 hne), Nat.lt_of_lt_of_le h.2 hg.size⟩
theorem RU.c0 {W : World} {g : Nat} {x : Ug} (h : RU W g x) : W.cell? ⟨g, 0, none⟩ = some (.int .i64 x.i) := h.1 0 _ rfl
theorem RU.c1 {W : World} {g : Nat} {x : Ug} (h : RU W g x) : W.cell? ⟨g, 1, none⟩ = some (.string x.n) := h.1 1 _ rfl
theorem RU.c2 {W : World} {g : Nat} {x : Ug} (h : RU W g x) : W.cell? ⟨g, 2, none⟩ = some (.string x.v) := h.1 2 _ rfl

set_option maxRecDepth 100000 in
set_option maxHeartbeats 400000 in
theorem toChange_any (a : Ug) (w : World) : Calls Try.prog 26 #[.agg #[.int .i64 a.i, .string a.n, .string a.v]] w fun e w' => e = .returned (.agg #[.int .i64 a.i, .string a.n, .string a.v]) ∧ Below w.heap.size w w' := by
  obtain ⟨k, t, o⟩ := a
  go_enter Try.func26, Try.ntmps26
  go_wp2
  refine ret_rec 2 (w.heap.size + 1) 31 [.int .i64 k, .string t, .string o] _ rfl rfl rfl Try.underlying31 rfl sizeChange ?_ ?_
  · exact World.rangeAt_alloc (range_at (by simp) (range_new _ [.int .i64 k, .string t, .string o] _)) _
  · exact ⟨rfl, (((Below.refl _ _).alloc (Nat.le_refl _) _).alloc (by simp) _).alloc (by simp; omega) _⟩

set_option maxHeartbeats 400000 in
theorem szChange_any (a : Ug) (x : Int) (w : World) (h0 : 0 ≤ x) (h1 : x ≤ 1048576) (ht : a.n.size ≤ 9223372036854775807) (ho : a.v.size ≤ 9223372036854775807) :
    Calls Try.prog 25 #[.agg #[.int .i64 a.i, .string a.n, .string a.v], .int .i64 x] w fun e w' => ∃ A : Int, e = .returned (.int .i64 A) ∧ Below w.heap.size w w' ∧ A ≤ x ∧ (0 ≤ A → a.n.size ≤ 1048576 ∧ a.v.size ≤ 1048576) := by
  obtain ⟨k, t, o⟩ := a
  simp only at ht ho ⊢
  have HB : Hid (Below w.heap.size w (w.alloc (.cells #[.int .i64 k, .string t, .string o] 42))) := (Below.refl _ _).alloc (Nat.le_refl _) _
  by_cases h3 : x - (t.size : Int) < 0
  · go_enter Try.func25, Try.ntmps25
    go_wp2
    go_ret
    exact ⟨_, rfl, HB.out, by omega, fun h => by omega⟩
  · by_cases h4 : x - (t.size : Int) - (o.size : Int) < 0
    · go_enter Try.func25, Try.ntmps25
      go_wp2
      go_ret
      exact ⟨_, rfl, HB.out, by omega, fun h => by omega⟩
    · go_enter Try.func25, Try.ntmps25
      go_wp2
      go_ret
      exact ⟨_, rfl, HB.out, by omega, fun h => ⟨by omega, by omega⟩⟩

theorem Try.infoChange : (Try.prog.info? 31).map (fun i => (i.zero, i.size, i.bytes)) = some (some (.agg #[.int .i64 0, .string ByteArray.empty, .string ByteArray.empty]), 3, 40) := by kernel_rfl
theorem there_new3u {W : World} {cs : Array Value} {T n : Nat} (h : cs.size = n * 3) (j : Nat) (hj : j < n) : (W.alloc (.cells cs T)).there W.heap.size (j * 3) 3 := by
  intro i hi
  have hg := Go.heap_alloc_new W (.cells cs T)
  refine ⟨?_, by unfold World.frozen?; simp only [hg]; simp⟩
  rw [cell_of_row _ W.heap.size (j * 3 + i) cs T (0, 0) hg, Array.getElem?_eq_getElem (by omega)]
  rfl
theorem made_changes (n : Nat) (h : n ≤ 1100000) (W : World) : ∃ w', (Instr.makeSlice 26 (.int .i64 (n : Int)) (.int .i64 (n : Int))).run Try.prog W = .ok (.slice (some ⟨W.heap.size, 0, none⟩) n n) w' ∧ (∀ j, j < n → w'.there W.heap.size (j * 3) 3) ∧ Below W.heap.size W w' ∧ w'.heap.size = W.heap.size + 1 := by
  obtain ⟨i0, hi, hz0, hz1, hz2⟩ := info_parts Try.infoChange
  have h1 := run_make (P := Try.prog) W 26 31 i0 _ Try.underlying26 hi hz0 .i64 .i64 (n : Int) (n : Int) (by omega) (by omega) (by rw [hz2]; omega) (by omega)
  refine ⟨_, by simpa using h1, fun j hj => there_new3u ?_ j hj, (Below.refl _ _).alloc (Nat.le_refl _) _, by simp⟩
  rw [size_madeCells, hz1]

/-- the first m records of a new row are written -/
def ToU (w : World) (l : List Ug) (B g : Nat) (i : Value) (wr : World) : Prop := ∃ m : Nat, m ≤ l.length ∧ i = .int .i64 m ∧ (∀ j (h : j < l.length), j < m → wr.rangeAt g (j * 3) (ucs l[j])) ∧ (∀ j, j < l.length → wr.there g (j * 3) 3) ∧ Below B w wr
theorem ToU.set {w wr : World} {l : List Ug} {g m B : Nat} (hm : m < l.length) (hB : B ≤ g) (h1 : ∀ j (h : j < l.length), j < m → wr.rangeAt g (j * 3) (ucs l[j])) (h2 : ∀ j, j < l.length → wr.there g (j * 3) 3) (h3 : Below B w wr) :
    (∀ j (h : j < l.length), j < m + 1 → (wr.setCells g (m * 3) (ucs l[m])).rangeAt g (j * 3) (ucs l[j])) ∧ (∀ j, j < l.length → (wr.setCells g (m * 3) (ucs l[m])).there g (j * 3) 3) ∧ Below B w (wr.setCells g (m * 3) (ucs l[m])) := by
  refine ⟨fun j hj hlt => ?_, fun j hj => World.there_setCells (h2 j hj) _ _ _, ?_⟩
  · rcases Nat.lt_or_ge j m with h4 | h4
    · exact World.rangeAt_setCells_apart (h1 j hj h4) _ _ _ (.inr (.inl (by rw [ucs_len]; omega)))
    · have : j = m := by omega
      subst this
      exact World.rangeAt_setCells_same _ _ _ _ (h2 j hj)
  · exact below_setCells hB _ _ _ h3

set_option maxRecDepth 100000 in
set_option maxHeartbeats 400000 in
theorem toChangeS_any (v : Value) (ga oa : Nat) (l : List Ug) (w : World) (hv : RS 3 ucs w v ga oa l) :
    Calls Try.prog 36 #[v] w fun e w' => ∃ g, e = .returned (.slice (some ⟨g, 0, none⟩) l.length l.length) ∧ w.heap.size ≤ g ∧ RW 3 ucs w' (.slice (some ⟨g, 0, none⟩) l.length l.length) g l ∧ g < w'.heap.size ∧ Below w.heap.size w w' := by
  have HV : Hid (RS 3 ucs w v ga oa l) := hv
  obtain ⟨a, cap, rfl, hl, hA, hc⟩ := hv
  obtain ⟨n, hn⟩ : ∃ n, l.length = n := ⟨_, rfl⟩
  obtain ⟨w2, hmk, hib, hb2, hs2⟩ := made_changes n (by omega) w
  have HST : Hid (ToU w l w.heap.size w.heap.size (.int .i64 0) w2 ∧ w.heap.size < w2.heap.size) := ⟨⟨0, by omega, rfl, fun j _ h => by omega, by rw [hn]; exact hib, hb2⟩, by omega⟩
  have HA : Hid (0 < n → a = some ⟨ga, oa, none⟩) := by rw [← hn]; exact fun h => (hA h).1
  rw [hn] at hl ⊢
  clear hib hb2 hs2 hA hc
  go_enter Try.func36, Try.ntmps36
  go_wp2
  clear hmk
  go_loopw [4] (fun i wr => ToU w l w.heap.size w.heap.size i wr ∧ w.heap.size < wr.heap.size) (fun i _ => n - (intOf i).toNat)
  case atStart => exact HST.out
  case round =>
    obtain ⟨⟨m, hm, rfl, h1, h2, hbel⟩, hws⟩ := hrel
    have HI : Hid ((∀ j (h : j < l.length), j < m → wr.rangeAt w.heap.size (j * 3) (ucs l[j])) ∧ (∀ j, j < l.length → wr.there w.heap.size (j * 3) 3) ∧ Below w.heap.size w wr) := ⟨h1, h2, hbel⟩
    clear HST h1 h2 hbel
    rw [hn] at hm
    by_cases hlt : m < n
    · have ea := HA.out (by omega)
      subst ea
      obtain ⟨c0, c1, c2⟩ := (HV.out.later HI.out.2.2).chg m (by omega)
      obtain ⟨X, hX⟩ : ∃ X, l[m]'(by omega) = X := ⟨_, rfl⟩
      rw [hX] at c0 c1 c2
      have HX : Hid (l[m]'(by omega) = X) := hX
      have i1 : (m : Int) < (n : Int) := by omega
      have i2 : (0 : Int) ≤ (m : Int) := by omega
      clear hX HV HA
      go_wp2_with fail
      refine (toChange_any X _).mono ?_
      rintro e w1 ⟨rfl, hb1⟩
      have HJ : Hid ((∀ j (h : j < l.length), j < m + 1 → (w1.setCells w.heap.size (m * 3) (ucs X)).rangeAt w.heap.size (j * 3) (ucs l[j])) ∧ (∀ j, j < l.length → (w1.setCells w.heap.size (m * 3) (ucs X)).there w.heap.size (j * 3) 3) ∧ Below w.heap.size w (w1.setCells w.heap.size (m * 3) (ucs X))) := by
        have h := ToU.set (w := w) (wr := w1) (l := l) (g := w.heap.size) (m := m) (B := w.heap.size) (by omega) (Nat.le_refl _) (fun j hj h => range_kept (HI.out.1 j hj h) (hb1.block _ hws)) (fun j hj => there_kept (HI.out.2.1 j hj) (hb1.block _ hws)) (HI.out.2.2.trans (hb1.mono HI.out.2.2.size))
        rw [HX.out] at h
        exact h
      have HT : Hid (w1.there w.heap.size (m * 3) 3) := there_kept (HI.out.2.1 m (by omega)) (hb1.block _ hws)
      have hws1 : w.heap.size < (w1.setCells w.heap.size (m * 3) (ucs X)).heap.size := by rw [size_setCells]; exact Nat.lt_of_lt_of_le hws hb1.size
      clear hb1 HI c0 c1 c2
      obtain ⟨⟨o0, x0⟩, ⟨o1, x1⟩, ⟨o2, x2⟩, f0, f1, f2⟩ := there3 HT.out
      go_wp2
      go_roundw
      case rel => exact ⟨⟨m + 1, by omega, by go_num, HJ.out⟩, hws1⟩
      case measure => simp [intOf]; omega
    · have hme : m = n := by omega
      subst hme
      clear HV HA
      go_wp2
      go_ret
      refine ⟨w.heap.size, rfl, Nat.le_refl _, ⟨⟨_, _, by rw [hn], by omega, fun _ => ⟨rfl, hws⟩, fun j hj => ?_⟩, HI.out.2.1⟩, hws, HI.out.2.2⟩
      rw [Nat.zero_add]
      exact HI.out.1 j hj (by omega)

theorem eqChange_yes (f : Ug) (w : World) : Calls Try.prog 28 #[.agg #[.int .i64 f.i, .string f.n, .string f.v], .agg #[.int .i64 f.i, .string f.n, .string f.v]] w fun e w' => e = .returned (.bool true) ∧ Below w.heap.size w w' := by
  obtain ⟨k, t, o⟩ := f
  have hb : Below w.heap.size w ((w.alloc (.cells #[.int .i64 k, .string t, .string o] 31)).alloc (.cells #[.int .i64 k, .string t, .string o] 31)) := ((Below.refl _ _).alloc (Nat.le_refl _) _).alloc (by simp) _
  go_enter Try.func28, Try.ntmps28
  go_wp2
  go_ret
  exact ⟨rfl, hb⟩

def EuR (n : Nat) (w : World) (i : Value) (wr : World) : Prop := ∃ m : Nat, m ≤ n ∧ i = .int .i64 m ∧ Below w.heap.size w wr

set_option maxRecDepth 100000 in
set_option maxHeartbeats 400000 in
theorem eqChangeS_yes (u v : Value) (ga oa gb ob : Nat) (l : List Ug) (w : World) (hu : RS 3 ucs w u ga oa l) (hv : RS 3 ucs w v gb ob l) :
    Calls Try.prog 37 #[u, v] w fun e w' => e = .returned (.bool true) ∧ Below w.heap.size w w' := by
  have HU : Hid (RS 3 ucs w u ga oa l) := hu
  have HV : Hid (RS 3 ucs w v gb ob l) := hv
  obtain ⟨a, cap, rfl, hl, hA, _⟩ := hu
  obtain ⟨b, cap2, rfl, _, hB, _⟩ := hv
  obtain ⟨n, hn⟩ : ∃ n, l.length = n := ⟨_, rfl⟩
  have HA : Hid (0 < n → a = some ⟨ga, oa, none⟩ ∧ b = some ⟨gb, ob, none⟩) := by rw [← hn]; exact fun h => ⟨(hA h).1, (hB h).1⟩
  rw [hn] at hl ⊢
  clear hA hB
  go_enter Try.func37, Try.ntmps37
  go_wp2
  go_loopw [5] (fun i wr => EuR n w i wr) (fun i _ => n - (intOf i).toNat)
  case atStart => exact ⟨0, by omega, rfl, Below.refl _ _⟩
  case round =>
    obtain ⟨m, hm, rfl, hbel⟩ := hrel
    by_cases hlt : m < n
    · obtain ⟨ea, eb⟩ := HA.out (by omega)
      subst ea
      subst eb
      obtain ⟨c0, c1, c2⟩ := (HU.out.later hbel).chg m (by omega)
      obtain ⟨e0, e1, e2⟩ := (HV.out.later hbel).chg m (by omega)
      generalize l[m]'(by omega) = X at *
      have i1 : (m : Int) < (n : Int) := by omega
      have i2 : (0 : Int) ≤ (m : Int) := by omega
      clear HU HV HA
      go_wp2
      have kq0 := cell_regrown (w := wr) c0
      have kq1 := cell_regrown (w := wr) c1
      have kq2 := cell_regrown (w := wr) c2
      have kq4 := cell_regrown (w := wr) e0
      have kq5 := cell_regrown (w := wr) e1
      have kq6 := cell_regrown (w := wr) e2
      have cq0 := fun d os => Calls.regrown_of (w := wr) (d := d) (os := os) (eqChange_yes X _)
      refine wp_region_quiet_below (by kernel_rfl) (by kernel_rfl) ?_
      repeat (go_big_quiet_step (first | exact cq0 _ _))
      refine wpQuiet_nil ?_
      rintro _ ⟨⟨dq, osq⟩, rfl⟩
      have hb6 := below_regrown (wr) dq osq
      generalize grow (redrawn (wr) dq) osq = w6 at *
      clear kq0 kq1 kq2 kq4 kq5 kq6 cq0
      go_wp2
      go_roundw
      case rel => exact ⟨m + 1, by omega, by go_num, hbel.trans (hb6.mono hbel.size)⟩
      case measure => simp [intOf]; omega
    · have hme : m = n := by omega
      subst hme
      clear HU HV HA
      go_wp2
      go_ret
      exact ⟨rfl, hbel⟩

/-- a row of changes that was handed in, great or small: if it is small, it is l -/
def IsRowU (w : World) (v : Value) (g o : Nat) (l : List Ug) : Prop := ∃ a n cap, v = .slice a n cap ∧ n ≤ 9223372036854775807 ∧ (n ≤ 1100000 → l.length = n ∧ RS 3 ucs w v g o l ∧ ∀ f ∈ l, f.n.size ≤ 9223372036854775807 ∧ f.v.size ≤ 9223372036854775807)
theorem IsRowU.later {w w' : World} {v : Value} {g o : Nat} {l : List Ug} (h : IsRowU w v g o l) (hb : Below w.heap.size w w') : IsRowU w' v g o l := by
  obtain ⟨a, n, cap, hv, hn, hr⟩ := h
  exact ⟨a, n, cap, hv, hn, fun hl => ⟨(hr hl).1, (hr hl).2.1.later hb, (hr hl).2.2⟩⟩
def SmallU1 (a : Ug) : Prop := a.n.size ≤ 1048576 ∧ a.v.size ≤ 1048576
/-- no text of it is great -/
def SmallUs (l : List Ug) : Prop := ∀ f ∈ l, SmallU1 f

def SzU (l : List Ug) (x0 : Int) (w : World) (x i : Value) (wr : World) : Prop := ∃ (m : Nat) (y : Int), m ≤ l.length ∧ i = .int .i64 m ∧ x = .int .i64 y ∧ 0 ≤ y ∧ y ≤ x0 ∧ Hid (∀ j (h : j < l.length), j < m → SmallU1 l[j]) ∧ Below w.heap.size w wr

set_option maxRecDepth 100000 in
set_option maxHeartbeats 400000 in
theorem szChangeS_row (v : Value) (g o : Nat) (l : List Ug) (x : Int) (w : World) (hv : IsRowU w v g o l) (h0 : 0 ≤ x) (h1 : x ≤ 1048576) :
    Calls Try.prog 35 #[v, .int .i64 x] w fun e w' => ∃ A : Int, e = .returned (.int .i64 A) ∧ Below w.heap.size w w' ∧ A ≤ x ∧ (0 ≤ A → RS 3 ucs w v g o l ∧ SmallUs l ∧ l.length ≤ 1048576) := by
  obtain ⟨a, n, cap, rfl, hn, hr⟩ := hv
  by_cases hbig : x < (n : Int)
  · have q : x - (n : Int) < 0 := by omega
    go_enter Try.func35, Try.ntmps35
    go_wp2
    go_ret
    exact ⟨_, rfl, Below.refl _ _, by omega, fun h => by omega⟩
  obtain ⟨hln, hrs, hsz⟩ := hr (by omega)
  have HRS : Hid (RS 3 ucs w (.slice a n cap) g o l) := hrs
  have HSZ : Hid (∀ f ∈ l, f.n.size ≤ 9223372036854775807 ∧ f.v.size ≤ 9223372036854775807) := hsz
  have HLN : Hid (l.length = n) := hln
  obtain ⟨a', c', ev, _, hA, _⟩ := hrs
  have HA : Hid (0 < n → a = some ⟨g, o, none⟩) := fun h => by
    have := (hA (by omega)).1
    simp at ev
    rw [ev.1, this]
  clear hr hA hsz ev
  have q : ¬ x - (n : Int) < 0 := by omega
  go_enter Try.func35, Try.ntmps35
  go_wp2
  go_loopw [1, 5] (fun y i wr => SzU l (x - (n : Int)) w y i wr) (fun _ i _ => n - (intOf i).toNat)
  case atStart => exact ⟨0, x - (n : Int), by omega, rfl, by go_num, by omega, by omega, fun j _ h => by omega, Below.refl _ _⟩
  case round =>
    obtain ⟨m, y, hm, rfl, rfl, hy0, hy1, HJ, hbel⟩ := hrel
    by_cases hlt : m < n
    · have ea := HA.out (by omega)
      subst ea
      obtain ⟨c0, c1, c2⟩ := (HRS.out.later hbel).chg m (by omega)
      obtain ⟨X, hX⟩ : ∃ X, l[m]'(by omega) = X := ⟨_, rfl⟩
      rw [hX] at c0 c1 c2
      have hxs := HSZ.out X (by rw [← hX]; exact List.getElem_mem _)
      have HX : Hid (l[m]'(by omega) = X) := hX
      have i1 : (m : Int) < (n : Int) := by omega
      have i2 : (0 : Int) ≤ (m : Int) := by omega
      clear hX HSZ HA HRS
      go_wp2_with fail
      refine (szChange_any X y _ hy0 (by omega) hxs.1 hxs.2).mono ?_
      rintro e w1 ⟨A, rfl, hb1, hA1, hA2⟩
      have hbel1 := hbel.trans (hb1.mono hbel.size)
      have HA2 : Hid (0 ≤ A → SmallU1 X) := hA2
      clear hb1 hA2 c0 c1 c2 hbel hxs
      by_cases hneg : A < 0
      · clear HJ HX HA2
        go_wp2
        try rw [Exit.noGoto_ret]
        go_ret
        exact ⟨_, rfl, hbel1, by omega, fun h => by omega⟩
      · go_wp2
        go_roundw
        case rel =>
          refine ⟨m + 1, A, by omega, by go_num, rfl, by omega, by omega, ?_, hbel1⟩
          intro j hj hjl
          rcases Nat.lt_or_ge j m with h3 | h3
          · exact HJ.out j hj h3
          · have : j = m := by omega
            subst this
            rw [HX.out]
            exact HA2.out (by omega)
        case measure => simp [intOf]; omega
    · have hme : m = n := by omega
      have HF : Hid (RS 3 ucs w (.slice a n cap) g o l ∧ SmallUs l ∧ l.length ≤ 1048576) := ⟨HRS.out, fun f hf => by
        obtain ⟨j, hj, rfl⟩ := List.getElem_of_mem hf
        exact HJ.out j hj (by omega), by omega⟩
      subst hme
      clear HJ HA HRS HSZ
      go_wp2
      go_ret
      exact ⟨_, rfl, hbel, by omega, fun _ => HF.out⟩

end Go.Proofs.Ytiabodhgjeoejaa
/-
  Rows of changes that a call owns, grown change by change; a row beside a cursor.
-/
namespace Go.Proofs.Ytiabodhgjeoejaa
open Go.RowKit Go.BigFrame Go.Sort
set_option linter.unusedVariables false
set_option linter.unusedSimpArgs false

theorem grown_belowU {w w' : World} {row : Option Nat} (h : Below w.heap.size w w') : w.grownBy w' row := ⟨h.os, h.tape, h.output, h.size, fun k hk _ => h.block k hk⟩

/-- v owns the changes l -/
def OU (B : Nat) (w0 w : World) (v : Value) (l : List Ug) : Prop := OR 31 3 ucs B w0 w v l
theorem OU.later {B : Nat} {w0 w w' : World} {v : Value} {l : List Ug} (h : OU B w0 w v l) (hb : Below w.heap.size w w') : OU B w0 w' v l := OR.later h hb
theorem OU.grown {B : Nat} {w0 w w' : World} {v : Value} {l : List Ug} {row : Option Nat} (h : OU B w0 w v l) (hg : w.grownBy w' row) (hne : ∀ q, row = some q → B ≤ q ∧ v.ownBlock ≠ some q) : OU B w0 w' v l := OR.grown h hg hne
theorem OU.rw {B : Nat} {w0 w : World} {v : Value} {l : List Ug} (h : OU B w0 w v l) (hl : l.length ≤ 1100000) : ∃ g, RW 3 ucs w v g l ∧ B ≤ g ∧ (∀ q, v.ownBlock = some q → q = g) := OR.rw (k := 3) (enc := ucs) (fun x => ucs_len x) (by omega) h hl
theorem OU.shape {B : Nat} {w0 w : World} {v : Value} {l : List Ug} (h : OU B w0 w v l) : ∃ a c, v = .slice a l.length c := by
  rcases h.1.2 with ⟨hv, hn⟩ | ⟨g, cap, cur, hv, _⟩
  · exact ⟨none, 0, by rw [hv, hn]⟩
  · exact ⟨_, _, hv⟩
theorem OU.made (B : Nat) (w0 w : World) (hb : Below B w0 w) (hB : B ≤ w.heap.size) : OU B w0 (w.alloc (.cells #[] 31)) (.slice (some ⟨w.heap.size, 0, none⟩) 0 0) [] :=
  ⟨World.ownsRow_made w #[] 0 hB (by decide) (by simp), hb.alloc hB _, by simp; omega⟩
/-- its block is none of another type -/
theorem OU.ne {B : Nat} {w0 w : World} {u : Value} {l : List Ug} {p T : Nat} {cs : Array Value} {fz : Nat × Nat} (h : OU B w0 w u l) (hb : w.heap[p]? = some (.cells cs T fz)) (hT : T ≠ 31) : u.ownBlock ≠ some p := by
  rcases h.1.2 with ⟨hv, _⟩ | ⟨g, cap, cur, hv, _, hg, _⟩
  · rw [hv]; simp [Value.ownBlock]
  · rw [hv]
    intro e
    have : g = p := by simpa [Value.ownBlock] using e
    subst this
    rw [hg] at hb
    simp at hb
    exact hT hb.2.1.symm

section
variable {w : World} {ops : Array Oper} {o : Oper} {a : Act} {K : Act → World → Prop} {Q : Exit → Act → World → Prop}
/-- a change appended, as one step of a region that draws its order -/
theorem step_chg {E : Prop} (hgd : o.guard = none) (s x : Operand)
    (ho : o.op = .call { callee := .builtin .append, args := #[s, x], argTypes := #[26, 26] })
    (B : Nat) (w0 : World) (u : Value) (l : List Ug) (f : Ug) (hs : a.eval s = u) (h : OU B w0 w u l) (p : Nat) (hx : a.eval x = .slice (some ⟨p, 0, none⟩) 1 1)
    (hnews : w.rangeAt p 0 (ucs f)) (hlen : l.length + 1 ≤ 1000000)
    (hk : ∀ g cap w', OU B w0 w' (.slice (some ⟨g, 0, none⟩) (l.length + 1) cap) (l ++ [f]) → w.grownBy w' u.ownBlock → K (a.put o.dst (.slice (some ⟨g, 0, none⟩) (l.length + 1) cap)) w') : if Region.wanted o (yielded ops a.tmps) = true then Oper.wp Try.prog o a w K Q else E := by
  obtain ⟨i0, hi, hz0, hz1, hz2⟩ := info_parts Try.infoChange
  refine step_append_lies w hgd s x 26 ho B 31 i0 _ 3 40 Try.underlying26 hi hz0 hz1 hz2 rfl (by decide) u l.length (l.flatMap ucs) hs h.1 ⟨p, 0, none⟩ 1 1 (ucs f) hx rfl ?_
    (fun u hu => by simp [ucs] at hu; rcases hu with rfl | rfl | rfl <;> rfl) (by omega) (by unfold maxLen; omega) (by omega) h.2.2 w.heap.size rfl ?_
  · intro j u hj
    have := hnews j u hj
    rw [Addr.add_mid]
    exact this
  · intro g cap w' h1 h2 h3 _
    exact hk _ _ _ ⟨by rw [List.flatMap_append, List.flatMap_singleton, List.length_append]; exact h1, h.2.1.grown h2 h.2.2 (fun k hk => (h.1.lt k hk).1), Nat.le_trans h.2.2 h2.size⟩ h2
/-- .. and in a plain region -/
theorem wp_chg {rest : List Oper} (hgd : o.guard = none) (s x : Operand)
    (ho : o.op = .call { callee := .builtin .append, args := #[s, x], argTypes := #[26, 26] })
    (B : Nat) (w0 : World) (u : Value) (l : List Ug) (f : Ug) (hs : a.eval s = u) (h : OU B w0 w u l) (p : Nat) (hx : a.eval x = .slice (some ⟨p, 0, none⟩) 1 1)
    (hnews : w.rangeAt p 0 (ucs f)) (hlen : l.length + 1 ≤ 1000000)
    (hk : ∀ g cap w', OU B w0 w' (.slice (some ⟨g, 0, none⟩) (l.length + 1) cap) (l ++ [f]) → w.grownBy w' u.ownBlock → wpList Try.prog ops Q rest (a.put o.dst (.slice (some ⟨g, 0, none⟩) (l.length + 1) cap)) w') : wpList Try.prog ops Q (o :: rest) a w := by
  obtain ⟨i0, hi, hz0, hz1, hz2⟩ := info_parts Try.infoChange
  refine wpList_append_lies w hgd s x 26 ho B 31 i0 _ 3 40 Try.underlying26 hi hz0 hz1 hz2 rfl (by decide) u l.length (l.flatMap ucs) hs h.1 ⟨p, 0, none⟩ 1 1 (ucs f) hx rfl ?_
    (fun u hu => by simp [ucs] at hu; rcases hu with rfl | rfl | rfl <;> rfl) (by omega) (by unfold maxLen; omega) (by omega) h.2.2 w.heap.size rfl ?_
  · intro j u hj
    have := hnews j u hj
    rw [Addr.add_mid]
    exact this
  · intro g cap w' h1 h2 h3 _
    exact hk _ _ _ ⟨by rw [List.flatMap_append, List.flatMap_singleton, List.length_append]; exact h1, h.2.1.grown h2 h.2.2 (fun k hk => (h.1.lt k hk).1), Nat.le_trans h.2.2 h2.size⟩ h2
end

section
variable {w : World} {ops : Array Oper} {o : Oper} {a : Act} {Q : Exit → Act → World → Prop}
/-- a change appended, and where the row lies then -/
theorem wp_chgL {rest : List Oper} (hgd : o.guard = none) (s x : Operand)
    (ho : o.op = .call { callee := .builtin .append, args := #[s, x], argTypes := #[26, 26] })
    (B : Nat) (w0 : World) (u : Value) (l : List Ug) (f : Ug) (hs : a.eval s = u) (h : OU B w0 w u l) (p : Nat) (hx : a.eval x = .slice (some ⟨p, 0, none⟩) 1 1)
    (hnews : w.rangeAt p 0 (ucs f)) (hlen : l.length + 1 ≤ 4000000)
    (hk : ∀ g cap w', OU B w0 w' (.slice (some ⟨g, 0, none⟩) (l.length + 1) cap) (l ++ [f]) → w.grownBy w' u.ownBlock → (u.ownBlock = some g ∨ g = w.heap.size) → wpList Try.prog ops Q rest (a.put o.dst (.slice (some ⟨g, 0, none⟩) (l.length + 1) cap)) w') : wpList Try.prog ops Q (o :: rest) a w := by
  obtain ⟨i0, hi, hz0, hz1, hz2⟩ := info_parts Try.infoChange
  refine wpList_append_lies w hgd s x 26 ho B 31 i0 _ 3 40 Try.underlying26 hi hz0 hz1 hz2 rfl (by decide) u l.length (l.flatMap ucs) hs h.1 ⟨p, 0, none⟩ 1 1 (ucs f) hx rfl ?_
    (fun u hu => by simp [ucs] at hu; rcases hu with rfl | rfl | rfl <;> rfl) (by omega) (by unfold maxLen; omega) (by omega) h.2.2 w.heap.size rfl ?_
  · intro j u hj
    have := hnews j u hj
    rw [Addr.add_mid]
    exact this
  · intro g cap w' h1 h2 h3 _
    exact hk _ _ _ ⟨by rw [List.flatMap_append, List.flatMap_singleton, List.length_append]; exact h1, h.2.1.grown h2 h.2.2 (fun k hk => (h.1.lt k hk).1), Nat.le_trans h.2.2 h2.size⟩ h2 h3

theorem flat_cellsU {w : World} {g o : Nat} {l : List Ug} (h : ∀ j (h : j < l.length), w.rangeAt g (o + j * 3) (ucs l[j])) : ∀ j u, (l.flatMap ucs)[j]? = some u → w.cell? ⟨g, o + j, none⟩ = some u := by
  intro j u hu
  have hl := flat_len (k := 3) (enc := ucs) (fun x => ucs_len x) l
  have hj : j < l.length * 3 := by rw [← hl]; exact (List.getElem?_eq_some_iff.1 hu).1
  have e : j = j / 3 * 3 + j % 3 := by omega
  have hq : j / 3 < l.length := by omega
  rw [e, flat_at (k := 3) (enc := ucs) (fun x => ucs_len x) l (j / 3) hq (j % 3) (by omega)] at hu
  have := h (j / 3) hq (j % 3) u hu
  rw [e, ← Nat.add_assoc]
  exact this
theorem oneU {l : List Ug} : ∀ u ∈ l.flatMap ucs, u.oneCell' = true := fun u hu => by
  obtain ⟨f, _, hf⟩ := List.mem_flatMap.1 hu
  simp [ucs] at hf
  rcases hf with rfl | rfl | rfl <;> rfl
/-- a whole row of changes appended to an empty one -/
theorem wp_rowU {rest : List Oper} (hgd : o.guard = none) (s x : Operand)
    (ho : o.op = .call { callee := .builtin .append, args := #[s, x], argTypes := #[26, 26] })
    (B : Nat) (w0 : World) (g : Nat) (hs : a.eval s = .slice (some ⟨g, 0, none⟩) 0 0) (h : OU B w0 w (.slice (some ⟨g, 0, none⟩) 0 0) []) (p : Option Addr) (ga oa cap : Nat) (l : List Ug) (hx : a.eval x = .slice p l.length cap) (hv : RS 3 ucs w (.slice p l.length cap) ga oa l) (hnil : p = none → cap = 0)
    (hk : ∀ v' w', OU B w0 w' v' l → wpList Try.prog ops Q rest (a.put o.dst v') w') : wpList Try.prog ops Q (o :: rest) a w := by
  obtain ⟨i0, hi, hz0, hz1, hz2⟩ := info_parts Try.infoChange
  obtain ⟨p', cap', ev, hlen, hA, hc⟩ := hv
  obtain ⟨rfl, rfl⟩ : p = p' ∧ cap = cap' := by simpa using ev
  by_cases h0 : l.length = 0
  · have : l = [] := List.length_eq_zero_iff.1 h0
    subst this
    refine wpList_append_fits_any w hgd s x 26 ho B 31 i0 3 Try.underlying26 hi hz1 g 0 0 [] hs h.1 p 0 cap [] hx rfl (fun e => ⟨rfl, hnil e⟩) (fun ad _ j u hu => by simp at hu) (fun u hu => by cases hu) (by omega) ?_
    intro w' h1 h2
    exact hk _ _ ⟨by simpa using h1, h.2.1.grown h2 h.2.2 (fun k hk => (h.1.lt k hk).1), Nat.le_trans h.2.2 h2.size⟩
  · obtain ⟨rfl, hg⟩ := hA (by omega)
    refine wpList_append_own _ hgd s x 26 ho B 31 i0 _ 3 40 Try.underlying26 hi hz0 hz1 hz2 rfl (by decide) _ 0 [] hs h.1 ⟨ga, oa, none⟩ l.length cap (l.flatMap ucs) hx (flat_len (k := 3) (enc := ucs) (fun x => ucs_len x) l) ?_ oneU (by unfold maxLen; omega) (by omega) h.2.2 ?_
    · intro j u hj
      have := flat_cellsU hc j u hj
      rw [Addr.add_mid]
      exact this
    · intro v' w' h1 h2 _
      exact hk _ _ ⟨by simpa using h1, h.2.1.grown h2 h.2.2 (fun k hk => (h.1.lt k hk).1), Nat.le_trans h.2.2 h2.size⟩
end


theorem grown_belU {w w2 w' : World} {row : Option Nat} (h : w.grownBy w2 row) (hb : Below w.heap.size w2 w') : w.grownBy w' row :=
  ⟨hb.os.trans h.os, hb.tape.trans h.tape, hb.output.trans h.output, Nat.le_trans h.size hb.size, fun k hk hne => (hb.block k hk).trans (h.block k hk hne)⟩
theorem Cur.belU {B Bx : Nat} {w0 w w' : World} {g : Nat} {v : Value} (h : Cur B w0 w g v) (hb : Below Bx w w') (hg : g < Bx) (hB : B ≤ Bx) : Cur B w0 w' g v := by
  obtain ⟨h1, h2, h3, i, x, hbl, h4⟩ := h
  exact ⟨h1, h2.trans (hb.mono hB), h3, i, x, (hb.block g hg).trans hbl, h4⟩
theorem OU.drawn {B Bx : Nat} {w0 w w1 : World} {g : Nat} {v u : Value} {l : List Ug} (h : OU Bx w w u l) (hc : Cur B w0 w g v) (hg : w.grownBy w1 (some g)) : OU Bx w1 w1 u l := by
  obtain ⟨_, _, _, i, x, hbl, _⟩ := hc
  exact ⟨World.ownsRow.kept h.1 hg (.inr (h.ne hbl (by decide))), Below.refl _ _, Nat.le_trans h.2.2 hg.size⟩
theorem OU.self {Bx : Nat} {w0 w : World} {u : Value} {l : List Ug} (h : OU Bx w0 w u l) : OU Bx w w u l := ⟨h.1, Below.refl _ _, h.2.2⟩

/-- its capacity is no less than its length -/
theorem OU.cap {B : Nat} {w0 w : World} {v : Value} {l : List Ug} (h : OU B w0 w v l) : ∀ a n c, v = .slice a n c → n ≤ c := by
  intro a n c e
  rcases h.1.2 with ⟨hv, hn⟩ | ⟨g, cap, cur, hv, _, _, hnc, _⟩
  · rw [hv] at e
    simp at e
    omega
  · rw [hv] at e
    simp at e
    omega
/-- a list under way beside a cursor -/
def CnI (B : Nat) (w0 w : World) (g : Nat) (v u : Value) (L : List Ug) (wr : World) : Prop := Cur B w0 wr g v ∧ OU w.heap.size wr wr u L ∧ w.grownBy wr (some g)
theorem CnI.drawn {B : Nat} {w0 w w3 w4 : World} {g : Nat} {v u : Value} {L : List Ug} (h : CnI B w0 w g v u L w3) (hc : Cur B w0 w4 g v) (hg : w3.grownBy w4 (some g)) : CnI B w0 w g v u L w4 :=
  ⟨hc, h.2.1.drawn h.1 hg, h.2.2.trans hg⟩
theorem CnI.below {B : Nat} {w0 w w3 w4 : World} {g : Nat} {v u : Value} {L : List Ug} (h : CnI B w0 w g v u L w3) (hb : Below w3.heap.size w3 w4) : CnI B w0 w g v u L w4 :=
  ⟨h.1.kept (grown_belowU (row := none) hb) (by simp) h.1.size (fun k hk => by cases hk), (h.2.1.later hb).self, h.2.2.trans (grown_belowU hb)⟩
theorem CnI.app {B : Nat} {w0 w w3 w5 : World} {g : Nat} {v u u5 : Value} {L M : List Ug} (h : CnI B w0 w g v u L w3) (hg : g < w.heap.size) (hB : B ≤ w.heap.size) (ho : OU w.heap.size w3 w5 u5 M) : CnI B w0 w g v u5 M w5 :=
  ⟨h.1.belU ho.2.1 hg hB, ho.self, grown_belU h.2.2 ho.2.1⟩

end Go.Proofs.Ytiabodhgjeoejaa
/-
  What ShortText answers, the program's and the specification's: varL of the length, and the text.
-/
namespace Go.Proofs.Ytiabodhgjeoejaa
open Go.RowKit

theorem varA_size (n : Nat) : (⟨(M.varL n).toArray⟩ : ByteArray).size ≤ 10 := by
  have := M.varL_len n
  show (M.varL n).toArray.size ≤ 10
  simpa using this

theorem Short_yes (s : ByteArray) (w : World) (hs : s.size ≤ 20000) :
    Calls Try.prog 47 #[.string s] w fun e w' => e = .returned (.tuple #[.string (⟨(M.varL s.size).toArray⟩ ++ s), .bool true]) ∧ Below w.heap.size w w' := by
  have hz := varA_size s.size
  go_enter Try.func47, Try.ntmps47
  go_wp2_with fail
  refine (VarText_yes s.size _ (by omega)).mono ?_
  rintro e w' ⟨rfl, hb⟩
  go_wp2
  go_ret2
  exact ⟨rfl, hb⟩

theorem Short_no (s : ByteArray) (w : World) (hs : 20000 < s.size) (hm : s.size ≤ 1048576) :
    Calls Try.prog 47 #[.string s] w fun e w' => e = .returned (.tuple #[.string ⟨#[]⟩, .bool false]) ∧ Below w.heap.size w w' := by
  go_enter Try.func47, Try.ntmps47
  go_wp2
  go_ret2
  exact ⟨rfl, Below.refl _ _⟩

end Go.Proofs.Ytiabodhgjeoejaa
