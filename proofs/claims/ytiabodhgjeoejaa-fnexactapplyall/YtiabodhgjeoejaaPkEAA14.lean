/-
  Texts laid together: Cb, Ci, Mq.
-/
import Derived.Test.YtiabodhgjeoejaaPkEAA2
import Derived.Test.YtiabodhgjeoejaaPkEAA13
import Derived.Test.YtiabodhgjeoejaaPkEAA10
import Derived.Test.YtiabodhgjeoejaaPkEAA11
import Derived.Maps.OwnSet
import Derived.Maps.RangeWalk
import Derived.StringKeys
import Derived.Sort.KeysCollected
/-
  A change, and rows of changes, that a law is handed: counted, copied, compared.
-/
namespace Go.Proofs.Ytiabodhgjeoejaa
open Go.RowKit Go.BigFrame Go.Sort
set_option linter.unusedVariables false
set_option linter.unusedSimpArgs false


/-- a change in cells of any box -/
def RU (W : World) (g : Nat) (x : Ug) : Prop := W.rangeAt g 0 (ucs x) ∧ g < W.heap.size
theorem RU.new (w : World) (x : Ug) (T : Nat) : RU (w.alloc (.cells #[.int .i64 x.i, .string x.n, .string x.v] T)) w.heap.size x := ⟨range_new w (ucs x) T, by simp⟩
theorem RU.later {W W' : World} {g : Nat} {x : Ug} (h : RU W g x) (hb : Below W.heap.size W W') : RU W' g x := ⟨range_kept h.1 (hb.block g h.2), Nat.lt_of_lt_of_le h.2 hb.size⟩
theorem RU.grown {W W' : World} {g : Nat} {x : Ug} {row : Option Nat} (h : RU W g x) (hg : W.grownBy W' row) (hne : some g ≠ row) : RU W' g x := ⟨range_kept h.1 (hg.block g h.2 hne), Nat.lt_of_lt_of_le h.2 hg.size⟩
theorem RU.c0 {W : World} {g : Nat} {x : Ug} (h : RU W g x) : W.cell? ⟨g, 0, none⟩ = some (.int .i64 x.i) := h.1 0 _ rfl
theorem RU.c1 {W : World} {g : Nat} {x : Ug} (h : RU W g x) : W.cell? ⟨g, 1, none⟩ = some (.string x.n) := h.1 1 _ rfl
theorem RU.c2 {W : World} {g : Nat} {x : Ug} (h : RU W g x) : W.cell? ⟨g, 2, none⟩ = some (.string x.v) := h.1 2 _ rfl

set_option maxRecDepth 100000 in
set_option maxHeartbeats 400000 in
theorem toChange_any (a : Ug) (w : World) : Calls Try.prog 26 #[.agg #[.int .i64 a.i, .string a.n, .string a.v]] w fun e w' => e = .returned (.agg #[.int .i64 a.i, .string a.n, .string a.v]) ∧ Below w.heap.size w w' := by
  obtain ⟨k, t, o⟩ := a
  go_enter Try.func26, Try.ntmps26
  go_wp2
  refine ret_rec 2 (w.heap.size + 1) 31 [.int .i64 k, .string t, .string o] _ rfl rfl rfl Try.underlying31 rfl sizeChange ?_ ?_
  · exact World.rangeAt_alloc (range_at (by simp) (range_new _ [.int .i64 k, .string t, .string o] _)) _
  · exact ⟨rfl, (((Below.refl _ _).alloc (Nat.le_refl _) _).alloc (by simp) _).alloc (by simp; omega) _⟩

set_option maxHeartbeats 400000 in
theorem szChange_any (a : Ug) (x : Int) (w : World) (h0 : 0 ≤ x) (h1 : x ≤ 1048576) (ht : a.n.size ≤ 9223372036854775807) (ho : a.v.size ≤ 9223372036854775807) :
    Calls Try.prog 25 #[.agg #[.int .i64 a.i, .string a.n, .string a.v], .int .i64 x] w fun e w' => ∃ A : Int, e = .returned (.int .i64 A) ∧ Below w.heap.size w w' ∧ A ≤ x ∧ (0 ≤ A → a.n.size ≤ 1048576 ∧ a.v.size ≤ 1048576) := by
  obtain ⟨k, t, o⟩ := a
  simp only at ht ho ⊢
  have HB : Hid (Below w.heap.size w (w.alloc (.cells #[.int .i64 k, .string t, .string o] 42))) := (Below.refl _ _).alloc (Nat.le_refl _) _
  by_cases h3 : x - (t.size : Int) < 0
  · go_enter Try.func25, Try.ntmps25
    go_wp2
    go_ret
    exact ⟨_, rfl, HB.out, by omega, fun h => by omega⟩
  · by_cases h4 : x - (t.size : Int) - (o.size : Int) < 0
    · go_enter Try.func25, Try.ntmps25
      go_wp2
      go_ret
      exact ⟨_, rfl, HB.out, by omega, fun h => by omega⟩
    · go_enter Try.func25, Try.ntmps25
      go_wp2
      go_ret
      exact ⟨_, rfl, HB.out, by omega, fun h => ⟨by omega, by omega⟩⟩

theorem Try.infoChange : (Try.prog.info? 31).map (fun i => (i.zero, i.size, i.bytes)) = some (some (.agg #[.int .i64 0, .string ByteArray.empty, .string ByteArray.empty]), 3, 40) := by kernel_rfl
theorem there_new3u {W : World} {cs : Array Value} {T n : Nat} (h : cs.size = n * 3) (j : Nat) (hj : j < n) : (W.alloc (.cells cs T)).there W.heap.size (j * 3) 3 := by
  intro i hi
  have hg := Go.heap_alloc_new W (.cells cs T)
  refine ⟨?_, by unfold World.frozen?; simp only [hg]; simp⟩
  rw [cell_of_row _ W.heap.size (j * 3 + i) cs T (0, 0) hg, Array.getElem?_eq_getElem (by omega)]
  rfl
theorem made_changes (n : Nat) (h : n ≤ 1100000) (W : World) : ∃ w', (Instr.makeSlice 26 (.int .i64 (n : Int)) (.int .i64 (n : Int))).run Try.prog W = .ok (.slice (some ⟨W.heap.size, 0, none⟩) n n) w' ∧ (∀ j, j < n → w'.there W.heap.size (j * 3) 3) ∧ Below W.heap.size W w' ∧ w'.heap.size = W.heap.size + 1 := by
  obtain ⟨i0, hi, hz0, hz1, hz2⟩ := info_parts Try.infoChange
  have h1 := run_make (P := Try.prog) W 26 31 i0 _ Try.underlying26 hi hz0 .i64 .i64 (n : Int) (n : Int) (by omega) (by omega) (by rw [hz2]; omega) (by omega)
  refine ⟨_, by simpa using h1, fun j hj => there_new3u ?_ j hj, (Below.refl _ _).alloc (Nat.le_refl _) _, by simp⟩
  rw [size_madeCells, hz1]

/-- the first m records of a new row are written -/
def ToU (w : World) (l : List Ug) (B g : Nat) (i : Value) (wr : World) : Prop := ∃ m : Nat, m ≤ l.length ∧ i = .int .i64 m ∧ (∀ j (h : j < l.length), j < m → wr.rangeAt g (j * 3) (ucs l[j])) ∧ (∀ j, j < l.length → wr.there g (j * 3) 3) ∧ Below B w wr
theorem ToU.set {w wr : World} {l : List Ug} {g m B : Nat} (hm : m < l.length) (hB : B ≤ g) (h1 : ∀ j (h : j < l.length), j < m → wr.rangeAt g (j * 3) (ucs l[j])) (h2 : ∀ j, j < l.length → wr.there g (j * 3) 3) (h3 : Below B w wr) :
    (∀ j (h : j < l.length), j < m + 1 → (wr.setCells g (m * 3) (ucs l[m])).rangeAt g (j * 3) (ucs l[j])) ∧ (∀ j, j < l.length → (wr.setCells g (m * 3) (ucs l[m])).there g (j * 3) 3) ∧ Below B w (wr.setCells g (m * 3) (ucs l[m])) := by
  refine ⟨fun j hj hlt => ?_, fun j hj => World.there_setCells (h2 j hj) _ _ _, ?_⟩
  · rcases Nat.lt_or_ge j m with h4 | h4
    · exact World.rangeAt_setCells_apart (h1 j hj h4) _ _ _ (.inr (.inl (by rw [ucs_len]; omega)))
    · have : j = m := by omega
      subst this
      exact World.rangeAt_setCells_same _ _ _ _ (h2 j hj)
  · exact below_setCells hB _ _ _ h3

set_option maxRecDepth 100000 in
set_option maxHeartbeats 400000 in
theorem toChangeS_any (v : Value) (ga oa : Nat) (l : List Ug) (w : World) (hv : RS 3 ucs w v ga oa l) :
    Calls Try.prog 36 #[v] w fun e w' => ∃ g, e = .returned (.slice (some ⟨g, 0, none⟩) l.length l.length) ∧ w.heap.size ≤ g ∧ RW 3 ucs w' (.slice (some ⟨g, 0, none⟩) l.length l.length) g l ∧ g < w'.heap.size ∧ Below w.heap.size w w' := by
  have HV : Hid (RS 3 ucs w v ga oa l) := hv
  obtain ⟨a, cap, rfl, hl, hA, hc⟩ := hv
  obtain ⟨n, hn⟩ : ∃ n, l.length = n := ⟨_, rfl⟩
  obtain ⟨w2, hmk, hib, hb2, hs2⟩ := made_changes n (by omega) w
  have HST : Hid (ToU w l w.heap.size w.heap.size (.int .i64 0) w2 ∧ w.heap.size < w2.heap.size) := ⟨⟨0, by omega, rfl, fun j _ h => by omega, by rw [hn]; exact hib, hb2⟩, by omega⟩
  have HA : Hid (0 < n → a = some ⟨ga, oa, none⟩) := by rw [← hn]; exact fun h => (hA h).1
  rw [hn] at hl ⊢
  clear hib hb2 hs2 hA hc
  go_enter Try.func36, Try.ntmps36
  go_wp2
  clear hmk
  go_loopw [4] (fun i wr => ToU w l w.heap.size w.heap.size i wr ∧ w.heap.size < wr.heap.size) (fun i _ => n - (intOf i).toNat)
  case atStart => exact HST.out
  case round =>
    obtain ⟨⟨m, hm, rfl, h1, h2, hbel⟩, hws⟩ := hrel
    have HI : Hid ((∀ j (h : j < l.length), j < m → wr.rangeAt w.heap.size (j * 3) (ucs l[j])) ∧ (∀ j, j < l.length → wr.there w.heap.size (j * 3) 3) ∧ Below w.heap.size w wr) := ⟨h1, h2, hbel⟩
    clear HST h1 h2 hbel
    rw [hn] at hm
    by_cases hlt : m < n
    · have ea := HA.out (by omega)
      subst ea
      obtain ⟨c0, c1, c2⟩ := (HV.out.later HI.out.2.2).chg m (by omega)
      obtain ⟨X, hX⟩ : ∃ X, l[m]'(by omega) = X := ⟨_, rfl⟩
      rw [hX] at c0 c1 c2
      have HX : Hid (l[m]'(by omega) = X) := hX
      have i1 : (m : Int) < (n : Int) := by omega
      have i2 : (0 : Int) ≤ (m : Int) := by omega
      clear hX HV HA
      go_wp2_with fail
      refine (toChange_any X _).mono ?_
      rintro e w1 ⟨rfl, hb1⟩
      have HJ : Hid ((∀ j (h : j < l.length), j < m + 1 → (w1.setCells w.heap.size (m * 3) (ucs X)).rangeAt w.heap.size (j * 3) (ucs l[j])) ∧ (∀ j, j < l.length → (w1.setCells w.heap.size (m * 3) (ucs X)).there w.heap.size (j * 3) 3) ∧ Below w.heap.size w (w1.setCells w.heap.size (m * 3) (ucs X))) := by
        have h := ToU.set (w := w) (wr := w1) (l := l) (g := w.heap.size) (m := m) (B := w.heap.size) (by omega) (Nat.le_refl _) (fun j hj h => range_kept (HI.out.1 j hj h) (hb1.block _ hws)) (fun j hj => there_kept (HI.out.2.1 j hj) (hb1.block _ hws)) (HI.out.2.2.trans (hb1.mono HI.out.2.2.size))
        rw [HX.out] at h
        exact h
      have HT : Hid (w1.there w.heap.size (m * 3) 3) := there_kept (HI.out.2.1 m (by omega)) (hb1.block _ hws)
      have hws1 : w.heap.size < (w1.setCells w.heap.size (m * 3) (ucs X)).heap.size := by rw [size_setCells]; exact Nat.lt_of_lt_of_le hws hb1.size
      clear hb1 HI c0 c1 c2
      obtain ⟨⟨o0, x0⟩, ⟨o1, x1⟩, ⟨o2, x2⟩, f0, f1, f2⟩ := there3 HT.out
      go_wp2
      go_roundw
      case rel => exact ⟨⟨m + 1, by omega, by go_num, HJ.out⟩, hws1⟩
      case measure => simp [intOf]; omega
    · have hme : m = n := by omega
      subst hme
      clear HV HA
      go_wp2
      go_ret
      refine ⟨w.heap.size, rfl, Nat.le_refl _, ⟨⟨_, _, by rw [hn], by omega, fun _ => ⟨rfl, hws⟩, fun j hj => ?_⟩, HI.out.2.1⟩, hws, HI.out.2.2⟩
      rw [Nat.zero_add]
      exact HI.out.1 j hj (by omega)

theorem eqChange_yes (f : Ug) (w : World) : Calls Try.prog 28 #[.agg #[.int .i64 f.i, .string f.n, .string f.v], .agg #[.int .i64 f.i, .string f.n, .string f.v]] w fun e w' => e = .returned (.bool true) ∧ Below w.heap.size w w' := by
  obtain ⟨k, t, o⟩ := f
  have hb : Below w.heap.size w ((w.alloc (.cells #[.int .i64 k, .string t, .string o] 31)).alloc (.cells #[.int .i64 k, .string t, .string o] 31)) := ((Below.refl _ _).alloc (Nat.le_refl _) _).alloc (by simp) _
  go_enter Try.func28, Try.ntmps28
  go_wp2
  go_ret
  exact ⟨rfl, hb⟩

def EuR (n : Nat) (w : World) (i : Value) (wr : World) : Prop := ∃ m : Nat, m ≤ n ∧ i = .int .i64 m ∧ Below w.heap.size w wr

set_option maxRecDepth 100000 in
set_option maxHeartbeats 400000 in
theorem eqChangeS_yes (u v : Value) (ga oa gb ob : Nat) (l : List Ug) (w : World) (hu : RS 3 ucs w u ga oa l) (hv : RS 3 ucs w v gb ob l) :
    Calls Try.prog 37 #[u, v] w fun e w' => e = .returned (.bool true) ∧ Below w.heap.size w w' := by
  have HU : Hid (RS 3 ucs w u ga oa l) := hu
  have HV : Hid (RS 3 ucs w v gb ob l) := hv
  obtain ⟨a, cap, rfl, hl, hA, _⟩ := hu
  obtain ⟨b, cap2, rfl, _, hB, _⟩ := hv
  obtain ⟨n, hn⟩ : ∃ n, l.length = n := ⟨_, rfl⟩
  have HA : Hid (0 < n → a = some ⟨ga, oa, none⟩ ∧ b = some ⟨gb, ob, none⟩) := by rw [← hn]; exact fun h => ⟨(hA h).1, (hB h).1⟩
  rw [hn] at hl ⊢
  clear hA hB
  go_enter Try.func37, Try.ntmps37
  go_wp2
  go_loopw [5] (fun i wr => EuR n w i wr) (fun i _ => n - (intOf i).toNat)
  case atStart => exact ⟨0, by omega, rfl, Below.refl _ _⟩
  case round =>
    obtain ⟨m, hm, rfl, hbel⟩ := hrel
    by_cases hlt : m < n
    · obtain ⟨ea, eb⟩ := HA.out (by omega)
      subst ea
      subst eb
      obtain ⟨c0, c1, c2⟩ := (HU.out.later hbel).chg m (by omega)
      obtain ⟨e0, e1, e2⟩ := (HV.out.later hbel).chg m (by omega)
      generalize l[m]'(by omega) = X at *
      have i1 : (m : Int) < (n : Int) := by omega
      have i2 : (0 : Int) ≤ (m : Int) := by omega
      clear HU HV HA
      go_wp2
      have kq0 := cell_regrown (w := wr) c0
      have kq1 := cell_regrown (w := wr) c1
      have kq2 := cell_regrown (w := wr) c2
      have kq4 := cell_regrown (w := wr) e0
      have kq5 := cell_regrown (w := wr) e1
      have kq6 := cell_regrown (w := wr) e2
      have cq0 := fun d os => Calls.regrown_of (w := wr) (d := d) (os := os) (eqChange_yes X _)
      refine wp_region_quiet_below (by kernel_rfl) (by kernel_rfl) ?_
      repeat (go_big_quiet_step (first | exact cq0 _ _))
      refine wpQuiet_nil ?_
      rintro _ ⟨⟨dq, osq⟩, rfl⟩
      have hb6 := below_regrown (wr) dq osq
      generalize grow (redrawn (wr) dq) osq = w6 at *
      clear kq0 kq1 kq2 kq4 kq5 kq6 cq0
      go_wp2
      go_roundw
      case rel => exact ⟨m + 1, by omega, by go_num, hbel.trans (hb6.mono hbel.size)⟩
      case measure => simp [intOf]; omega
    · have hme : m = n := by omega
      subst hme
      clear HU HV HA
      go_wp2
      go_ret
      exact ⟨rfl, hbel⟩

/-- a row of changes that was handed in, great or small: if it is small, it is l -/
def IsRowU (w : World) (v : Value) (g o : Nat) (l : List Ug) : Prop := ∃ a n cap, v = .slice a n cap ∧ n ≤ 9223372036854775807 ∧ (n ≤ 1100000 → l.length = n ∧ RS 3 ucs w v g o l ∧ ∀ f ∈ l, f.n.size ≤ 9223372036854775807 ∧ f.v.size ≤ 9223372036854775807)
theorem IsRowU.later {w w' : World} {v : Value} {g o : Nat} {l : List Ug} (h : IsRowU w v g o l) (hb : Below w.heap.size w w') : IsRowU w' v g o l := by
  obtain ⟨a, n, cap, hv, hn, hr⟩ := h
  exact ⟨a, n, cap, hv, hn, fun hl => ⟨(hr hl).1, (hr hl).2.1.later hb, (hr hl).2.2⟩⟩
def SmallU1 (a : Ug) : Prop := a.n.size ≤ 1048576 ∧ a.v.size ≤ 1048576
/-- no text of it is great -/
def SmallUs (l : List Ug) : Prop := ∀ f ∈ l, SmallU1 f

def SzU (l : List Ug) (x0 : Int) (w : World) (x i : Value) (wr : World) : Prop := ∃ (m : Nat) (y : Int), m ≤ l.length ∧ i = .int .i64 m ∧ x = .int .i64 y ∧ 0 ≤ y ∧ y ≤ x0 ∧ Hid (∀ j (h : j < l.length), j < m → SmallU1 l[j]) ∧ Below w.heap.size w wr

set_option maxRecDepth 100000 in
set_option maxHeartbeats 400000 in
theorem szChangeS_row (v : Value) (g o : Nat) (l : List Ug) (x : Int) (w : World) (hv : IsRowU w v g o l) (h0 : 0 ≤ x) (h1 : x ≤ 1048576) :
    Calls Try.prog 35 #[v, .int .i64 x] w fun e w' => ∃ A : Int, e = .returned (.int .i64 A) ∧ Below w.heap.size w w' ∧ A ≤ x ∧ (0 ≤ A → RS 3 ucs w v g o l ∧ SmallUs l ∧ l.length ≤ 1048576) := by
  obtain ⟨a, n, cap, rfl, hn, hr⟩ := hv
  by_cases hbig : x < (n : Int)
  · have q : x - (n : Int) < 0 := by omega
    go_enter Try.func35, Try.ntmps35
    go_wp2
    go_ret
    exact ⟨_, rfl, Below.refl _ _, by omega, fun h => by omega⟩
  obtain ⟨hln, hrs, hsz⟩ := hr (by omega)
  have HRS : Hid (RS 3 ucs w (.slice a n cap) g o l) := hrs
  have HSZ : Hid (∀ f ∈ l, f.n.size ≤ 9223372036854775807 ∧ f.v.size ≤ 9223372036854775807) := hsz
  have HLN : Hid (l.length = n) := hln
  obtain ⟨a', c', ev, _, hA, _⟩ := hrs
  have HA : Hid (0 < n → a = some ⟨g, o, none⟩) := fun h => by
    have := (hA (by omega)).1
    simp at ev
    rw [ev.1, this]
  clear hr hA hsz ev
  have q : ¬ x - (n : Int) < 0 := by omega
  go_enter Try.func35, Try.ntmps35
  go_wp2
  go_loopw [1, 5] (fun y i wr => SzU l (x - (n : Int)) w y i wr) (fun _ i _ => n - (intOf i).toNat)
  case atStart => exact ⟨0, x - (n : Int), by omega, rfl, by go_num, by omega, by omega, fun j _ h => by omega, Below.refl _ _⟩
  case round =>
    obtain ⟨m, y, hm, rfl, rfl, hy0, hy1, HJ, hbel⟩ := hrel
    by_cases hlt : m < n
    · have ea := HA.out (by omega)
      subst ea
      obtain ⟨c0, c1, c2⟩ := (HRS.out.later hbel).chg m (by omega)
      obtain ⟨X, hX⟩ : ∃ X, l[m]'(by omega) = X := ⟨_, rfl⟩
      rw [hX] at c0 c1 c2
      have hxs := HSZ.out X (by rw [← hX]; exact List.getElem_mem _)
      have HX : Hid (l[m]'(by omega) = X) := hX
      have i1 : (m : Int) < (n : Int) := by omega
      have i2 : (0 : Int) ≤ (m : Int) := by omega
      clear hX HSZ HA HRS
      go_wp2_with fail
      refine (szChange_any X y _ hy0 (by omega) hxs.1 hxs.2).mono ?_
      rintro e w1 ⟨A, rfl, hb1, hA1, hA2⟩
      have hbel1 := hbel.trans (hb1.mono hbel.size)
      have HA2 : Hid (0 ≤ A → SmallU1 X) := hA2
      clear hb1 hA2 c0 c1 c2 hbel hxs
      by_cases hneg : A < 0
      · clear HJ HX HA2
        go_wp2
        try rw [Exit.noGoto_ret]
        go_ret
        exact ⟨_, rfl, hbel1, by omega, fun h => by omega⟩
      · go_wp2
        go_roundw
        case rel =>
          refine ⟨m + 1, A, by omega, by go_num, rfl, by omega, by omega, ?_, hbel1⟩
          intro j hj hjl
          rcases Nat.lt_or_ge j m with h3 | h3
          · exact HJ.out j hj h3
          · have : j = m := by omega
            subst this
            rw [HX.out]
            exact HA2.out (by omega)
        case measure => simp [intOf]; omega
    · have hme : m = n := by omega
      have HF : Hid (RS 3 ucs w (.slice a n cap) g o l ∧ SmallUs l ∧ l.length ≤ 1048576) := ⟨HRS.out, fun f hf => by
        obtain ⟨j, hj, rfl⟩ := List.getElem_of_mem hf
        exact HJ.out j hj (by omega), by omega⟩
      subst hme
      clear HJ HA HRS HSZ
      go_wp2
      go_ret
      exact ⟨_, rfl, hbel, by omega, fun _ => HF.out⟩

end Go.Proofs.Ytiabodhgjeoejaa
/-
  Changes done one behind the other: the specification's answer.
-/
namespace Go.Proofs.Ytiabodhgjeoejaa
open Go.RowKit Go.BigFrame Go.Sort
set_option linter.unusedVariables false
set_option linter.unusedSimpArgs false

theorem small_apA {L : List Le} {A : List Ug} (h : SmallL L) (hA : ∀ x ∈ A, x.n.size ≤ 1048576 ∧ x.v.size ≤ 1048576) (m : Nat) : SmallL (UV.apA L (A.take m)) := by
  induction m with
  | zero => simpa [UV.apA] using h
  | succ m ih =>
    rcases Nat.lt_or_ge m A.length with hm | hm
    · rw [UV.apA_step L A hm]
      have := hA A[m] (List.getElem_mem _)
      exact small_ap ih this.1 this.2
    · rw [List.take_of_length_le (by omega)]
      rw [List.take_of_length_le hm] at ih
      exact ih
theorem UV.apA_len {L : List Le} {A : List Ug} (h : L.length ≤ 1048576) (m : Nat) : (UV.apA L (A.take m)).length ≤ 1048576 := by
  induction m with
  | zero => simpa [UV.apA] using h
  | succ m ih =>
    rcases Nat.lt_or_ge m A.length with hm | hm
    · rw [UV.apA_step L A hm]
      exact UV.ap_len ih
    · rw [List.take_of_length_le (by omega)]
      rw [List.take_of_length_le hm] at ih
      exact ih

/-- so many are done -/
def AaS (w : World) (M : List Le) (u : Value) (wr : World) : Prop := ∃ g, RW 2 lcs wr u g M ∧ w.heap.size ≤ g ∧ Below w.heap.size w wr
def AaN (w : World) (L : List Le) (A : List Ug) (u i : Value) (wr : World) : Prop := ∃ (m : Nat) (a : Option Addr) (c : Nat), m ≤ A.length ∧ i = .int .i64 (m : Int) ∧ u = .slice a (UV.apA L (A.take m)).length c ∧ (a = none → c = 0) ∧ Hid (AaS w (UV.apA L (A.take m)) u wr)
def AaR (w : World) (L : List Le) (A : List Ug) (u i : Value) (wr : World) : Prop := ∃ (m : Nat) (a : Option Addr) (c : Nat), m ≤ A.length ∧ i = .int .i64 (m : Int) ∧ u = .slice a (UV.apA L (A.take m)).length c ∧ Hid (AaS w (UV.apA L (A.take m)) u wr)

set_option maxRecDepth 100000 in
set_option maxHeartbeats 1000000 in
theorem sApplyAll_any (p : Option Addr) (cap : Nat) (ga oa : Nat) (L : List Le) (q : Value) (gq oq : Nat) (A : List Ug) (w : World) (hv : RS 2 lcs w (.slice p L.length cap) ga oa L) (hnil : p = none → cap = 0) (hsm : SmallL L) (hL : L.length ≤ 1048576) (hq : RS 3 ucs w q gq oq A) (hA : ∀ x ∈ A, x.n.size ≤ 1048576 ∧ x.v.size ≤ 1048576) :
    Calls Try.prog 24 #[.slice p L.length cap, q] w (ApN (UV.apA L A) w) := by
  have HQ : Hid (RS 3 ucs w q gq oq A) := hq
  have HSM : Hid (∀ m (h : m < A.length), SmallL (UV.apA L (A.take m)) ∧ (UV.apA L (A.take m)).length ≤ 1048576 ∧ (A[m]'h).n.size ≤ 1048576 ∧ (A[m]'h).v.size ≤ 1048576) := fun m h => ⟨small_apA hsm hA m, UV.apA_len hL m, hA _ (List.getElem_mem h)⟩
  obtain ⟨aq, cq, rfl, hlq, hAq, _⟩ := hq
  obtain ⟨n, hn⟩ : ∃ n, A.length = n := ⟨_, rfl⟩
  have HA : Hid (0 < n → aq = some ⟨gq, oq, none⟩) := by rw [← hn]; exact fun h => (hAq h).1
  rw [hn] at hlq HQ ⊢
  have ho6 : OL w.heap.size w (w.alloc (.cells #[] 73)) (.slice (some ⟨w.heap.size, 0, none⟩) 0 0) [] := OL.made _ w w (Below.refl _ _) (Nat.le_refl _)
  have hrs6 := hv.later ((Below.refl w.heap.size w).alloc (Nat.le_refl _) (.cells #[] 73))
  have HF : Hid (∀ W, AaN w L A (.slice none 0 0) (.int .i64 0) W → True) := fun _ _ => trivial
  clear hv hsm hA hAq HF
  go_enter Try.func24, Try.ntmps24
  go_wp2_with (at_builtin; refine wp_rowL rfl _ _ rfl w.heap.size w w.heap.size rfl ho6 p ga oa cap L rfl hrs6 hnil ?_)
  intro v' w7 ho7
  have HST : Hid (AaN w L A v' (.int .i64 0) w7) := by
    obtain ⟨gz, hrz, hgz, _⟩ := ho7.rw (by omega)
    obtain ⟨az, cz, rfl⟩ := ho7.shape
    exact ⟨0, az, cz, Nat.zero_le _, rfl, rfl, ho7.nil0, ⟨gz, hrz, hgz, ho7.2.1⟩⟩
  clear ho7 ho6 hrs6 hnil hL
  go_wp2
  go_loopw [5, 6] (fun u i wr => AaN w L A u i wr) (fun _ i _ => n - (intOf i).toNat)
  case atStart => exact HST.out
  case round =>
    obtain ⟨m, au, cu, hm, rfl, rfl, hz, HI⟩ := hrel
    clear HST
    rw [hn] at hm
    obtain ⟨gu, hru, hgu, hbu⟩ := HI.out
    by_cases hlt : m < n
    · have ea := HA.out (by omega)
      subst ea
      obtain ⟨c0, c1, c2⟩ := (HQ.out.later hbu).chg m (by omega)
      have hs := HSM.out m (by omega)
      have hst := UV.apA_step L A (m := m) (by omega)
      obtain ⟨X, hX⟩ : ∃ X, A[m]'(by omega) = X := ⟨_, rfl⟩
      rw [hX] at c0 c1 c2 hs hst
      have HC := hide (sApplyChange_any au cu gu 0 _ X wr hru.1 hz hs.1 hs.2.1 hs.2.2.1 hs.2.2.2)
      have HJ : Hid (UV.apA L (A.take (m + 1)) = UV.apU (UV.apA L (A.take m)) X) := hst
      have HB : Hid (Below w.heap.size w wr) := hbu
      have i1 : (m : Int) < (n : Int) := by omega
      have i2 : (0 : Int) ≤ (m : Int) := by omega
      generalize UV.apA L (A.take m) = M at *
      clear HI hru hgu hbu hs hst hX HQ HA HSM hz
      generalize M.length = k at *
      obtain ⟨x0, x1, x2⟩ := X
      simp only at c0 c1 c2 HC
      go_wp2_with fail
      refine HC.out.mono ?_
      rintro e w2 ⟨a2, c2', g2, rfl, hr2, hg2, hb2, hz2⟩
      have HK : Hid (UV.apA L (A.take (m + 1)) = UV.apU M ⟨x0, x1, x2⟩ ∧ (a2 = none → c2' = 0) ∧ AaS w (UV.apU M ⟨x0, x1, x2⟩) (.slice a2 (UV.apU M ⟨x0, x1, x2⟩).length c2') w2) := ⟨HJ.out, hz2, g2, hr2, by have := HB.out.size; omega, HB.out.trans (hb2.mono HB.out.size)⟩
      clear HC HJ HB hr2 hg2 hb2 hz2 c0 c1 c2
      generalize UV.apU M ⟨x0, x1, x2⟩ = M2 at *
      go_wp2
      go_roundw
      case rel => exact ⟨m + 1, a2, c2', by omega, by go_num, by rw [HK.out.1], HK.out.2.1, by rw [HK.out.1]; exact HK.out.2.2⟩
      case measure => simp [intOf]; omega
    · have hme : m = n := by omega
      subst hme
      have hall : UV.apA L (A.take m) = UV.apA L A := by rw [← hn]; exact UV.apA_all L A
      have HE : Hid (ApN (UV.apA L A) w (.returned (.slice au (UV.apA L (A.take m)).length cu)) wr) := by
        rw [← hall]
        exact ⟨au, cu, gu, rfl, hru, hgu, hbu, hz⟩
      clear HI hru hgu hbu hz hall HQ HA HSM
      go_wp2
      go_ret
      exact HE.out

end Go.Proofs.Ytiabodhgjeoejaa
/-
  Leaves in a map: the map as a plain list of leaves, and what a look-up, a store and a delete make of it.
-/
namespace Go.Proofs.Ytiabodhgjeoejaa
open Go.RowKit Go.BigFrame Go.Sort Go.Maps
set_option linter.unusedVariables false
set_option linter.unusedSimpArgs false

/-- how a leaf in a map is read -/
def leR : Value → Option (DataW Le × List MemPlace)
  | .agg cs => match cs.toList with
    | [.string a, .string b] => some (.held ⟨a, b⟩, [])
    | _ => none
  | _ => none
theorem leR_mk (f : Le) : leR (.agg #[.string f.n, .string f.v]) = some (.held f, []) := rfl
theorem leR_inv {v : Value} {y : DataW Le × List MemPlace} (h : leR v = some y) : ∃ f : Le, v = .agg #[.string f.n, .string f.v] ∧ y = (.held f, []) := by
  unfold leR at h
  split at h
  · rename_i cs
    split at h
    · rename_i a b hcs
      simp at h
      refine ⟨⟨a, b⟩, ?_, h.symm⟩
      have : cs = #[.string a, .string b] := Array.toList_inj.1 hcs
      rw [this]
    · cases h
  · cases h

def kl9 (x : ByteArray) : Lit := .string x.data.toList
theorem kl9_inj {x y : ByteArray} (h : kl9 x = kl9 y) : x = y := by
  unfold kl9 at h
  simp at h
  exact F.toList_inj (by rw [F.toList_data, F.toList_data, h])
theorem key_9 (x : ByteArray) (hx : x.size ≤ 2000000) : keyOf Try.prog 9 (.string x) = some (kl9 x) := Go.WideMaps.keyOf_string_mk Try.underlying9 (by unfold maxLen; omega)
theorem law_9 : Keyed Try.prog 9 := string_keyed Try.underlying9
theorem zeroL (w : World) : (zeroValue 73).run Try.prog w = .ok (.agg #[.string ⟨#[]⟩, .string ⟨#[]⟩]) w := by kernel_rfl

/-- the map that lies in block b holds just the leaves of L -/
def LM (B : Nat) (w0 w : World) (b : Nat) (L : List Le) : Prop :=
  (∃ D : DataW Le, w.ownsMap Try.prog 9 leR b (Maps.size D) D ∧ (∀ x : ByteArray, Maps.has D (kl9 x) = true ↔ ∃ f ∈ L, f.n = x) ∧ (∀ f ∈ L, D.atKey (kl9 f.n) .nil = .held f) ∧ Maps.size D ≤ 100000)
    ∧ B ≤ b ∧ Below B w0 w ∧ B ≤ w.heap.size

theorem tightL {w : World} {b n : Nat} {D : DataW Le} (h : w.ownsMap Try.prog 9 leR b n D) : w.ownsMap Try.prog 9 leR b (Maps.size D) D := by
  obtain ⟨es, clock, hb, F, hs, rfl⟩ := h
  refine ⟨es, clock, hb, F, ?_, rfl⟩
  show es.size ≤ _
  rw [Maps.size_eq, length_sorted]
  simp
theorem LM.later {B : Nat} {w0 w w' : World} {b : Nat} {L : List Le} (h : LM B w0 w b L) (hb : Below w.heap.size w w') : LM B w0 w' b L := by
  obtain ⟨⟨D, ho, h1, h2, h3⟩, h5, h6, h7⟩ := h
  exact ⟨⟨D, ho.kept (row := none) (grown_below hb) (by simp), h1, h2, h3⟩, h5, h6.trans (hb.mono h7), Nat.le_trans h7 hb.size⟩
theorem LM.isMap {B : Nat} {w0 w : World} {b : Nat} {L : List Le} (h : LM B w0 w b L) : ∃ es c, w.heap[b]? = some (.map es c) := by
  obtain ⟨⟨D, ⟨es, c, hb, _⟩, _⟩, _⟩ := h
  exact ⟨es, c, hb⟩
theorem LM.made (B : Nat) (w0 w : World) (hb : Below B w0 w) (hB : B ≤ w.heap.size) : LM B w0 (w.alloc (.map #[] 0)) w.heap.size [] := by
  refine ⟨⟨.map [], World.ownsMap_made w _ _ _, fun x => ?_, fun f hf => absurd hf (by simp), by rw [Maps.size_eq]; simp⟩, hB, hb.alloc hB _, by simp; omega⟩
  rw [Maps.has_eq]
  simp

/-- a look-up, whether it is there -/
theorem LM.look {B : Nat} {w0 w : World} {b : Nat} {L : List Le} (h : LM B w0 w b L) (x : ByteArray) (hx : x.size ≤ 2000000) :
    ∃ f : Le, (Instr.lookup 100 (.map (some b)) (.string x) true).run Try.prog w = .ok (.tuple #[.agg #[.string f.n, .string f.v], .bool (LV.find L x).isSome]) w := by
  obtain ⟨⟨D, ho, h1, h2, h3⟩, _⟩ := h
  obtain ⟨v, ps, hrun, hv⟩ := ho.look_ok law_9 Try.underlying100 (zeroL w) (zd := .held ⟨⟨#[]⟩, ⟨#[]⟩⟩) (zp := []) rfl (key_9 x hx)
  obtain ⟨f, rfl, _⟩ := leR_inv hv
  refine ⟨f, ?_⟩
  rw [hrun]
  have : Maps.has D (kl9 x) = (LV.find L x).isSome := by
    rw [Bool.eq_iff_iff, h1 x]
    cases hf : LV.find L x with
    | none => simp only [Option.isSome_none, Bool.false_eq_true, iff_false]; rintro ⟨f, hf1, hf2⟩; exact LV.find_none hf f hf1 hf2
    | some g => simp only [Option.isSome_some, iff_true]; exact ⟨g, (LV.find_some hf).1, (LV.find_some hf).2⟩
  rw [this]

/-- a store -/
theorem LM.store {B : Nat} {w0 w : World} {b : Nat} {L : List Le} (h : LM B w0 w b L) (f : Le) (hx : f.n.size ≤ 2000000) (hsz : ∀ D : DataW Le, w.ownsMap Try.prog 9 leR b (Maps.size D) D → Maps.size D ≤ 99999) :
    ∃ w', (Instr.mapUpdate 100 (.map (some b)) (.string f.n) (.agg #[.string f.n, .string f.v])).run Try.prog w = .ok () w' ∧ LM B w0 w' b (LV.put L f) ∧ w.grownBy w' (some b) := by
  obtain ⟨⟨D, ho, h1, h2, h3⟩, h5, h6, h7⟩ := h
  have hs := hsz D ho
  obtain ⟨w', hrun, ho', hg⟩ := ho.update law_9 Try.underlying100 (by unfold maxLen; omega) (key_9 f.n hx) (leR_mk f)
  have hm := ho.isMap
  have hsp := ho'.size_le
  refine ⟨w', hrun, ⟨⟨D.put (kl9 f.n) (.held f), tightL ho', fun y => ?_, fun q hq => ?_, by omega⟩, h5, h6.grown hg h7 (fun k hk => by cases hk; exact h5), Nat.le_trans h7 hg.size⟩, hg⟩
  · by_cases e : y = f.n
    · subst e
      rw [Maps.has_put_same hm (show WideAt.IsKeyLit (kl9 f.n) from trivial)]
      exact ⟨fun _ => ⟨f, LV.mem_put.2 (.inl rfl), rfl⟩, fun _ => rfl⟩
    · rw [Maps.has_put_other (fun h => e (kl9_inj h)), h1 y]
      constructor
      · rintro ⟨q, hq, rfl⟩
        exact ⟨q, LV.mem_put.2 (.inr ⟨hq, e⟩), rfl⟩
      · rintro ⟨q, hq, rfl⟩
        rcases LV.mem_put.1 hq with rfl | ⟨h8, _⟩
        · exact absurd rfl e
        · exact ⟨q, h8, rfl⟩
  · rcases LV.mem_put.1 hq with rfl | ⟨h8, h9⟩
    · rw [Maps.atKey_put_same hm (show WideAt.IsKeyLit (kl9 q.n) from trivial)]
    · rw [Maps.atKey_put_other (fun h => h9 (kl9_inj h))]
      exact h2 q h8

/-- a delete -/
theorem LM.del {B : Nat} {w0 w : World} {b : Nat} {L : List Le} (h : LM B w0 w b L) (x : ByteArray) (hx : x.size ≤ 2000000) (ty : TypeId) :
    ∃ w', (Builtin.delete_ #[100, 9] ty #[.map (some b), .string x]).run Try.prog w = .ok (.tuple #[]) w' ∧ LM B w0 w' b (LV.wout L x) ∧ w.grownBy w' (some b) := by
  obtain ⟨⟨D, ho, h1, h2, h3⟩, h5, h6, h7⟩ := h
  obtain ⟨w', hrun, ho', ht⟩ := ho.drop law_9 Try.underlying100 (key_9 x hx) ty
  have hg := ht.grown
  have hsp := ho'.size_le
  refine ⟨w', hrun, ⟨⟨D.del (kl9 x), tightL ho', fun y => ?_, fun q hq => ?_, by omega⟩, h5, h6.grown hg h7 (fun k hk => by cases hk; exact h5), Nat.le_trans h7 hg.size⟩, hg⟩
  · by_cases e : y = x
    · subst e
      rw [Maps.has_del_same]
      constructor
      · intro h; cases h
      · rintro ⟨q, hq, rfl⟩
        exact absurd rfl (LV.mem_wout.1 hq).2
    · rw [Maps.has_del_other (fun h => e (kl9_inj h)), h1 y]
      constructor
      · rintro ⟨q, hq, rfl⟩
        exact ⟨q, LV.mem_wout.2 ⟨hq, e⟩, rfl⟩
      · rintro ⟨q, hq, rfl⟩
        exact ⟨q, (LV.mem_wout.1 hq).1, rfl⟩
  · obtain ⟨h8, h9⟩ := LV.mem_wout.1 hq
    rw [Maps.atKey_del_other (fun h => h9 (kl9_inj h))]
    exact h2 q h8

/-- there are as many keys as leaves -/
theorem LM.sized {B : Nat} {w0 w : World} {b : Nat} {L : List Le} (h : LM B w0 w b L) (hL : LV.Srt L) :
    ∃ D : DataW Le, w.ownsMap Try.prog 9 leR b (Maps.size D) D ∧ (∀ x : ByteArray, Maps.has D (kl9 x) = true ↔ ∃ f ∈ L, f.n = x) ∧ (∀ f ∈ L, D.atKey (kl9 f.n) .nil = .held f) ∧ Maps.size D = L.length := by
  obtain ⟨⟨D, ho, h1, h2, h3⟩, _⟩ := h
  obtain ⟨es, rfl, hp⟩ := ho.tidy law_9
  obtain ⟨es', e, hk⟩ := ho.keysOf
  have e2 : es = es' := by injection e
  subst e2
  have hperm : (L.map fun f => f.n.data.toList).Perm (strKeys (.map es)) := by
    refine perm_strKeys hp (fun q hq => ?_) ?_ (fun x => ?_)
    · obtain ⟨key, hkey⟩ := hk q hq
      obtain ⟨x, _, hx, _⟩ := Maps.keyOf_str Try.underlying9 hkey
      exact ⟨x, hx⟩
    · refine List.pairwise_map.2 (hL.imp fun {f g} hfg e => ?_)
      exact F.ltN_ne hfg (F.toList_inj (by rw [F.toList_data, F.toList_data]; exact e))
    · have := h1 ⟨x.toArray⟩
      have e3 : kl9 ⟨x.toArray⟩ = .string x := by simp [kl9]
      rw [e3] at this
      rw [this, List.mem_map]
      constructor
      · rintro ⟨f, hf, rfl⟩
        exact ⟨f, hf, ByteArray.ext (by simp)⟩
      · rintro ⟨f, hf, hx⟩
        exact ⟨f, hf, by rw [hx]⟩
  refine ⟨.map es, ho, h1, h2, ?_⟩
  have := hperm.length_eq
  simp [strKeys] at this
  rw [Maps.size_eq]
  omega
theorem LM.size {B : Nat} {w0 w : World} {b : Nat} {L : List Le} (h : LM B w0 w b L) (hL : LV.Srt L) (D : DataW Le) (ho : w.ownsMap Try.prog 9 leR b (Maps.size D) D) : Maps.size D = L.length := by
  obtain ⟨D', ho', _, _, hs⟩ := h.sized hL
  obtain ⟨es, c, hb, _, _, hD⟩ := ho
  obtain ⟨es', c', hb', _, _, hD'⟩ := ho'
  have e : es = es' ∧ c = c' := by
    rw [hb] at hb'
    injection hb' with h1
    injection h1 with h2 h3
    exact ⟨h2, h3⟩
  rw [hD, e.1, ← hD']
  exact hs
theorem LM.len {B : Nat} {w0 w : World} {b : Nat} {L : List Le} (h : LM B w0 w b L) (hL : LV.Srt L) (ty : TypeId) : (Builtin.len_ #[100] ty #[.map (some b)]).run Try.prog w = .ok (.int .i64 (L.length : Int)) w := by
  obtain ⟨D, ho, _, _, hs⟩ := h.sized hL
  have := ho.len Try.underlying100 ty
  rw [hs] at this
  exact this

/-- a store, in a plain region -/
theorem wp_leafStore {w : World} {ops : Array Oper} {rest : List Oper} {o : Oper} {a : Act} {Q : Exit → Act → World → Prop} (hgd : o.guard = none) (m x v : Operand) (hop : o.op = Op.mapUpdate 100 m x v)
    (b : Nat) (f : Le) (hm : a.eval m = .map (some b)) (hx : a.eval x = .string f.n) (hv : a.eval v = .agg #[.string f.n, .string f.v]) (B : Nat) (w0 : World) (L : List Le) (h : LM B w0 w b L) (hL : LV.LOk L) (hs : f.n.size ≤ 2000000)
    (hK : ∀ w', LM B w0 w' b (LV.put L f) → w.grownBy w' (some b) → wpList Try.prog ops Q rest (a.put o.dst undef) w') : wpList Try.prog ops Q (o :: rest) a w := by
  refine wpList_plain hgd fun K' hK' => ?_
  obtain ⟨w', hrun, r1, r2⟩ := h.store f hs (fun D ho => by have := h.size hL.2.2 D ho; have := hL.1; omega)
  unfold Oper.wp
  simp [execOp, hop, hm, hx, hv, hrun, Result.andThen]
  exact hK' _ _ (hK w' r1 r2)
/-- a delete -/
theorem wp_leafDel {w : World} {ops : Array Oper} {rest : List Oper} {o : Oper} {a : Act} {Q : Exit → Act → World → Prop} (hgd : o.guard = none) (m x : Operand) (hop : o.op = Op.call { callee := Callee.builtin Builtin.delete, args := #[m, x], argTypes := #[100, 9] })
    (b : Nat) (y : ByteArray) (hm : a.eval m = .map (some b)) (hx : a.eval x = .string y) (B : Nat) (w0 : World) (L : List Le) (h : LM B w0 w b L) (hs : y.size ≤ 2000000)
    (hK : ∀ w', LM B w0 w' b (LV.wout L y) → w.grownBy w' (some b) → wpList Try.prog ops Q rest (a.put o.dst (.tuple #[])) w') : wpList Try.prog ops Q (o :: rest) a w := by
  refine wpList_plain hgd fun K' hK' => ?_
  obtain ⟨w', hrun, r1, r2⟩ := h.del y hs o.type
  unfold Oper.wp
  simp [execOp, hop, resolve, invoke, builtin, hm, hx, hrun, Result.andThen]
  exact hK' _ _ (hK w' r1 r2)

namespace LV
theorem ok_take {L : List Le} (h : LOk L) (m : Nat) : LOk (L.take m) := ⟨by have := h.1; simp; omega, fun f hf => h.2.1 f (List.mem_of_mem_take hf), List.Pairwise.sublist (List.take_sublist m L) h.2.2⟩
theorem put_take {L : List Le} (h : LOk L) {m : Nat} (hm : m < L.length) : put (L.take m) L[m] = L.take (m + 1) := by
  refine srt_ext (srt_put (ok_take h m).2.2 _) (ok_take h (m + 1)).2.2 (fun f => ?_)
  rw [mem_put, List.take_succ_eq_append_getElem hm, List.mem_append, List.mem_singleton]
  constructor
  · rintro (h1 | ⟨h1, _⟩)
    · exact .inr h1
    · exact .inl h1
  · rintro (h1 | h1)
    · refine .inr ⟨h1, ?_⟩
      obtain ⟨j, hj, rfl⟩ := List.getElem_of_mem h1
      have hj' : j < m := by simp at hj; omega
      rw [List.getElem_take]
      exact F.ltN_ne (LOk.srt_at h.2.2 j m (by omega) hm hj')
    · exact .inl h1
end LV
theorem run_makeLeaves (n : Nat) (w : World) : (Instr.makeMap 100 (some (.int .i64 (n : Int)))).run Try.prog w = .ok (.map (some w.heap.size)) (w.alloc (.map #[] 0)) := by
  simp [Instr.makeMap, asInt, asIntOf, Result.andThen]

end Go.Proofs.Ytiabodhgjeoejaa
