/-
  Texts laid together: Lw, Wa, Pwd, Wid.
-/
import Derived.Test.YtgkfelhjbeegaaaGreatDoorV04
import Derived.Test.YtgkfelhjbeegaaaGreatDoorV07
import Derived.Test.YtgkfelhjbeegaaaGreatDoorV03
import Derived.Test.YtgkfelhjbeegaaaGreatDoorV05
import Derived.Test.YtgkfelhjbeegaaaGreatDoorV02
import Derived.Test.YtgkfelhjbeegaaaGreatDoorV01
/-
  What the laws' own helpers do with leaves: taken over, compared, weighed.
-/
namespace Go.Proofs.YtgkfelhjbeegaaaGreatDoor
open Go.RowKit Go.BigFrame Go.Sort
set_option linter.unusedVariables false
set_option linter.unusedSimpArgs false

def lcs (f : Le) : List Value := [.string f.n, .string f.v]
theorem lcs_len (f : Le) : (lcs f).length = 2 := rfl
theorem RS.leaf {w : World} {v : Value} {g o : Nat} {l : List Le} (h : RS 2 lcs w v g o l) (j : Nat) (hj : j < l.length) :
    w.cell? ⟨g, o + j * 2, none⟩ = some (.string l[j].n) ∧ w.cell? ⟨g, o + j * 2 + 1, none⟩ = some (.string l[j].v) := by
  obtain ⟨a, c, _, _, _, hc⟩ := h
  exact ⟨hc j hj 0 _ rfl, hc j hj 1 _ rfl⟩
theorem range2 {w : World} {g o : Nat} {u1 u2 : Value} (h1 : w.cell? ⟨g, o, none⟩ = some u1) (h2 : w.cell? ⟨g, o + 1, none⟩ = some u2) : w.rangeAt g o [u1, u2] := fun j v hv => by
  match j, hv with
  | 0, hv => simp at hv; subst hv; exact h1
  | 1, hv => simp at hv; subst hv; exact h2
theorem there2 {w : World} {g o : Nat} (h : w.there g o 2) : (∃ u, w.cell? ⟨g, o, none⟩ = some u) ∧ (∃ u, w.cell? ⟨g, o + 1, none⟩ = some u) ∧ w.frozen? ⟨g, o, none⟩ = false ∧ w.frozen? ⟨g, o + 1, none⟩ = false :=
  ⟨Option.isSome_iff_exists.1 (h 0 (by omega)).1, Option.isSome_iff_exists.1 (h 1 (by omega)).1, (h 0 (by omega)).2, (h 1 (by omega)).2⟩
theorem sizeLeaf : (Tryz.prog.info? 119).map (·.size) = some 2 := by kernel_rfl

set_option maxRecDepth 100000 in
set_option maxHeartbeats 400000 in
theorem toLeaf_any (f : Le) (w : World) : Calls Tryz.prog 80 #[.agg #[.string f.n, .string f.v]] w fun e w' => e = .returned (.agg #[.string f.n, .string f.v]) ∧ Below w.heap.size w w' := by
  obtain ⟨x, t⟩ := f
  go_enter Tryz.func80, Tryz.ntmps80
  go_wp2
  refine ret_rec 2 (w.heap.size + 1) 119 [.string x, .string t] _ rfl rfl rfl Tryz.underlying119 rfl sizeLeaf ?_ ?_
  · exact World.rangeAt_alloc (range_at (by simp) (range_new _ [.string x, .string t] _)) _
  · exact ⟨rfl, (((Below.refl _ _).alloc (Nat.le_refl _) _).alloc (by simp) _).alloc (by simp; omega) _⟩


theorem Tryz.infoLeaf : (Tryz.prog.info? 119).map (fun i => (i.zero, i.size, i.bytes)) = some (some (.agg #[.string ByteArray.empty, .string ByteArray.empty]), 2, 32) := by kernel_rfl
theorem there_new2 {W : World} {cs : Array Value} {T n : Nat} (h : cs.size = n * 2) (j : Nat) (hj : j < n) : (W.alloc (.cells cs T)).there W.heap.size (j * 2) 2 := by
  intro i hi
  have hg := Go.heap_alloc_new W (.cells cs T)
  refine ⟨?_, by unfold World.frozen?; simp only [hg]; simp⟩
  rw [cell_of_row _ W.heap.size (j * 2 + i) cs T (0, 0) hg, Array.getElem?_eq_getElem (by omega)]
  rfl
theorem made_leaves (n : Nat) (h : n ≤ 1100000) (W : World) : ∃ w', (Instr.makeSlice 43 (.int .i64 (n : Int)) (.int .i64 (n : Int))).run Tryz.prog W = .ok (.slice (some ⟨W.heap.size, 0, none⟩) n n) w' ∧ (∀ j, j < n → w'.there W.heap.size (j * 2) 2) ∧ Below W.heap.size W w' ∧ w'.heap.size = W.heap.size + 1 := by
  obtain ⟨i0, hi, hz0, hz1, hz2⟩ := info_parts Tryz.infoLeaf
  have h1 := run_make (P := Tryz.prog) W 43 119 i0 _ Tryz.underlying43 hi hz0 .i64 .i64 (n : Int) (n : Int) (by omega) (by omega) (by rw [hz2]; omega) (by omega)
  refine ⟨_, by simpa using h1, fun j hj => there_new2 ?_ j hj, (Below.refl _ _).alloc (Nat.le_refl _) _, by simp⟩
  rw [size_madeCells, hz1]

/-- the first m records of a new row are written -/
def ToL (w : World) (l : List Le) (B g : Nat) (i : Value) (wr : World) : Prop := ∃ m : Nat, m ≤ l.length ∧ i = .int .i64 m ∧ (∀ j (h : j < l.length), j < m → wr.rangeAt g (j * 2) (lcs l[j])) ∧ (∀ j, j < l.length → wr.there g (j * 2) 2) ∧ Below B w wr
theorem ToL.set {w wr : World} {l : List Le} {g m B : Nat} (hm : m < l.length) (hB : B ≤ g) (h1 : ∀ j (h : j < l.length), j < m → wr.rangeAt g (j * 2) (lcs l[j])) (h2 : ∀ j, j < l.length → wr.there g (j * 2) 2) (h3 : Below B w wr) :
    (∀ j (h : j < l.length), j < m + 1 → (wr.setCells g (m * 2) (lcs l[m])).rangeAt g (j * 2) (lcs l[j])) ∧ (∀ j, j < l.length → (wr.setCells g (m * 2) (lcs l[m])).there g (j * 2) 2) ∧ Below B w (wr.setCells g (m * 2) (lcs l[m])) := by
  refine ⟨fun j hj hlt => ?_, fun j hj => World.there_setCells (h2 j hj) _ _ _, ?_⟩
  · rcases Nat.lt_or_ge j m with h4 | h4
    · exact World.rangeAt_setCells_apart (h1 j hj h4) _ _ _ (.inr (.inl (by rw [lcs_len]; omega)))
    · have : j = m := by omega
      subst this
      exact World.rangeAt_setCells_same _ _ _ _ (h2 j hj)
  · exact below_setCells hB _ _ _ h3

set_option maxRecDepth 100000 in
set_option maxHeartbeats 400000 in
theorem toLeafS_any (v : Value) (ga oa : Nat) (l : List Le) (w : World) (hv : RS 2 lcs w v ga oa l) :
    Calls Tryz.prog 53 #[v] w fun e w' => ∃ g, e = .returned (.slice (some ⟨g, 0, none⟩) l.length l.length) ∧ w.heap.size ≤ g ∧ RW 2 lcs w' (.slice (some ⟨g, 0, none⟩) l.length l.length) g l ∧ g < w'.heap.size ∧ Below w.heap.size w w' := by
  have HV : Hid (RS 2 lcs w v ga oa l) := hv
  obtain ⟨a, cap, rfl, hl, hA, hc⟩ := hv
  obtain ⟨n, hn⟩ : ∃ n, l.length = n := ⟨_, rfl⟩
  obtain ⟨w2, hmk, hib, hb2, hs2⟩ := made_leaves n (by omega) w
  have HST : Hid (ToL w l w.heap.size w.heap.size (.int .i64 0) w2 ∧ w.heap.size < w2.heap.size) := ⟨⟨0, by omega, rfl, fun j _ h => by omega, by rw [hn]; exact hib, hb2⟩, by omega⟩
  have HA : Hid (0 < n → a = some ⟨ga, oa, none⟩) := by rw [← hn]; exact fun h => (hA h).1
  rw [hn] at hl ⊢
  clear hib hb2 hs2 hA hc
  go_enter Tryz.func53, Tryz.ntmps53
  go_wp2
  clear hmk
  go_loopw [4] (fun i wr => ToL w l w.heap.size w.heap.size i wr ∧ w.heap.size < wr.heap.size) (fun i _ => n - (intOf i).toNat)
  case atStart => exact HST.out
  case round =>
    obtain ⟨⟨m, hm, rfl, h1, h2, hbel⟩, hws⟩ := hrel
    have HI : Hid ((∀ j (h : j < l.length), j < m → wr.rangeAt w.heap.size (j * 2) (lcs l[j])) ∧ (∀ j, j < l.length → wr.there w.heap.size (j * 2) 2) ∧ Below w.heap.size w wr) := ⟨h1, h2, hbel⟩
    clear HST h1 h2 hbel
    rw [hn] at hm
    by_cases hlt : m < n
    · have ea := HA.out (by omega)
      subst ea
      obtain ⟨c0, c1⟩ := (HV.out.later HI.out.2.2).leaf m (by omega)
      obtain ⟨X, hX⟩ : ∃ X, l[m]'(by omega) = X := ⟨_, rfl⟩
      rw [hX] at c0 c1
      have HX : Hid (l[m]'(by omega) = X) := hX
      have i1 : (m : Int) < (n : Int) := by omega
      have i2 : (0 : Int) ≤ (m : Int) := by omega
      clear hX HV HA
      go_wp2_with fail
      refine (toLeaf_any X _).mono ?_
      rintro e w1 ⟨rfl, hb1⟩
      have HJ : Hid ((∀ j (h : j < l.length), j < m + 1 → (w1.setCells w.heap.size (m * 2) (lcs X)).rangeAt w.heap.size (j * 2) (lcs l[j])) ∧ (∀ j, j < l.length → (w1.setCells w.heap.size (m * 2) (lcs X)).there w.heap.size (j * 2) 2) ∧ Below w.heap.size w (w1.setCells w.heap.size (m * 2) (lcs X))) := by
        have h := ToL.set (w := w) (wr := w1) (l := l) (g := w.heap.size) (m := m) (B := w.heap.size) (by omega) (Nat.le_refl _) (fun j hj h => range_kept (HI.out.1 j hj h) (hb1.block _ hws)) (fun j hj => there_kept (HI.out.2.1 j hj) (hb1.block _ hws)) (HI.out.2.2.trans (hb1.mono HI.out.2.2.size))
        rw [HX.out] at h
        exact h
      have HT : Hid (w1.there w.heap.size (m * 2) 2) := there_kept (HI.out.2.1 m (by omega)) (hb1.block _ hws)
      have hws1 : w.heap.size < (w1.setCells w.heap.size (m * 2) (lcs X)).heap.size := by rw [size_setCells]; exact Nat.lt_of_lt_of_le hws hb1.size
      clear hb1 HI c0 c1
      obtain ⟨⟨o0, x0⟩, ⟨o1, x1⟩, f0, f1⟩ := there2 HT.out
      go_wp2
      go_roundw
      case rel => exact ⟨⟨m + 1, by omega, by go_num, HJ.out⟩, hws1⟩
      case measure => simp [intOf]; omega
    · have hme : m = n := by omega
      subst hme
      clear HV HA
      go_wp2
      go_ret
      refine ⟨w.heap.size, rfl, Nat.le_refl _, ⟨⟨_, _, by rw [hn], by omega, fun _ => ⟨rfl, hws⟩, fun j hj => ?_⟩, HI.out.2.1⟩, hws, HI.out.2.2⟩
      rw [Nat.zero_add]
      exact HI.out.1 j hj (by omega)

theorem eqLeaf_yes (f : Le) (w : World) : Calls Tryz.prog 92 #[.agg #[.string f.n, .string f.v], .agg #[.string f.n, .string f.v]] w fun e w' => e = .returned (.bool true) ∧ Below w.heap.size w w' := by
  obtain ⟨x, t⟩ := f
  have hb : Below w.heap.size w ((w.alloc (.cells #[.string x, .string t] 119)).alloc (.cells #[.string x, .string t] 119)) := ((Below.refl _ _).alloc (Nat.le_refl _) _).alloc (by simp) _
  go_enter Tryz.func92, Tryz.ntmps92
  go_wp2
  go_ret
  exact ⟨rfl, hb⟩


def ElR (n : Nat) (w : World) (i : Value) (wr : World) : Prop := ∃ m : Nat, m ≤ n ∧ i = .int .i64 m ∧ Below w.heap.size w wr

set_option maxRecDepth 100000 in
set_option maxHeartbeats 400000 in
theorem eqLeafS_yes (u v : Value) (ga oa gb ob : Nat) (l : List Le) (w : World) (hu : RS 2 lcs w u ga oa l) (hv : RS 2 lcs w v gb ob l) :
    Calls Tryz.prog 63 #[u, v] w fun e w' => e = .returned (.bool true) ∧ Below w.heap.size w w' := by
  have HU : Hid (RS 2 lcs w u ga oa l) := hu
  have HV : Hid (RS 2 lcs w v gb ob l) := hv
  obtain ⟨a, cap, rfl, hl, hA, _⟩ := hu
  obtain ⟨b, cap2, rfl, _, hB, _⟩ := hv
  obtain ⟨n, hn⟩ : ∃ n, l.length = n := ⟨_, rfl⟩
  have HA : Hid (0 < n → a = some ⟨ga, oa, none⟩ ∧ b = some ⟨gb, ob, none⟩) := by rw [← hn]; exact fun h => ⟨(hA h).1, (hB h).1⟩
  rw [hn] at hl ⊢
  clear hA hB
  go_enter Tryz.func63, Tryz.ntmps63
  go_wp2
  go_loopw [5] (fun i wr => ElR n w i wr) (fun i _ => n - (intOf i).toNat)
  case atStart => exact ⟨0, by omega, rfl, Below.refl _ _⟩
  case round =>
    obtain ⟨m, hm, rfl, hbel⟩ := hrel
    by_cases hlt : m < n
    · obtain ⟨ea, eb⟩ := HA.out (by omega)
      subst ea
      subst eb
      obtain ⟨c0, c1⟩ := (HU.out.later hbel).leaf m (by omega)
      obtain ⟨e0, e1⟩ := (HV.out.later hbel).leaf m (by omega)
      generalize l[m]'(by omega) = X at *
      have i1 : (m : Int) < (n : Int) := by omega
      have i2 : (0 : Int) ≤ (m : Int) := by omega
      clear HU HV HA
      go_wp2
      have kq0 := cell_regrown (w := wr) c0
      have kq1 := cell_regrown (w := wr) c1
      have kq3 := cell_regrown (w := wr) e0
      have kq4 := cell_regrown (w := wr) e1
      have cq0 := fun d os => Calls.regrown_of (w := wr) (d := d) (os := os) (eqLeaf_yes X _)
      refine wp_region_quiet_below (by kernel_rfl) (by kernel_rfl) ?_
      repeat (go_big_quiet_step (first | exact cq0 _ _))
      refine wpQuiet_nil ?_
      rintro _ ⟨⟨dq, osq⟩, rfl⟩
      have hb6 := below_regrown (wr) dq osq
      generalize grow (redrawn (wr) dq) osq = w6 at *
      clear kq0 kq1 kq3 kq4 cq0
      go_wp2
      go_roundw
      case rel => exact ⟨m + 1, by omega, by go_num, hbel.trans (hb6.mono hbel.size)⟩
      case measure => simp [intOf]; omega
    · have hme : m = n := by omega
      subst hme
      clear HU HV HA
      go_wp2
      go_ret
      exact ⟨rfl, hbel⟩

set_option maxHeartbeats 400000 in
theorem szLeaf_any (f : Le) (x : Int) (w : World) (h0 : 0 ≤ x) (h1 : x ≤ 1048576) (hn : f.n.size ≤ 9223372036854775807) (ht : f.v.size ≤ 9223372036854775807) :
    Calls Tryz.prog 67 #[.agg #[.string f.n, .string f.v], .int .i64 x] w fun e w' => ∃ A : Int, e = .returned (.int .i64 A) ∧ Below w.heap.size w w' ∧ A ≤ x ∧ (0 ≤ A → f.n.size ≤ 1048576 ∧ f.v.size ≤ 1048576) := by
  obtain ⟨y, t⟩ := f
  simp only at hn ht ⊢
  have HB : Hid (Below w.heap.size w (w.alloc (.cells #[.string y, .string t] 116))) := (Below.refl _ _).alloc (Nat.le_refl _) _
  by_cases h2 : x - (y.size : Int) < 0
  · go_enter Tryz.func67, Tryz.ntmps67
    go_wp2
    go_ret
    exact ⟨_, rfl, HB.out, by omega, fun h => by omega⟩
  · by_cases h3 : x - (y.size : Int) - (t.size : Int) < 0
    · go_enter Tryz.func67, Tryz.ntmps67
      go_wp2
      go_ret
      exact ⟨_, rfl, HB.out, by omega, fun h => by omega⟩
    · go_enter Tryz.func67, Tryz.ntmps67
      go_wp2
      go_ret
      exact ⟨_, rfl, HB.out, by omega, fun h => ⟨by omega, by omega⟩⟩

/-- a row of leaves that was handed in, great or small: if it is small, it is l -/
def IsRowL (w : World) (v : Value) (g o : Nat) (l : List Le) : Prop := ∃ a n cap, v = .slice a n cap ∧ n ≤ 9223372036854775807 ∧ (n ≤ 1100000 → l.length = n ∧ RS 2 lcs w v g o l ∧ ∀ f ∈ l, f.n.size ≤ 9223372036854775807 ∧ f.v.size ≤ 9223372036854775807)
theorem IsRowL.later {w w' : World} {v : Value} {g o : Nat} {l : List Le} (h : IsRowL w v g o l) (hb : Below w.heap.size w w') : IsRowL w' v g o l := by
  obtain ⟨a, n, cap, hv, hn, hr⟩ := h
  exact ⟨a, n, cap, hv, hn, fun hl => ⟨(hr hl).1, (hr hl).2.1.later hb, (hr hl).2.2⟩⟩
/-- no text of it is great -/
def SmallL (l : List Le) : Prop := ∀ f ∈ l, f.n.size ≤ 1048576 ∧ f.v.size ≤ 1048576

def SzL (l : List Le) (x0 : Int) (w : World) (x i : Value) (wr : World) : Prop := ∃ (m : Nat) (y : Int), m ≤ l.length ∧ i = .int .i64 m ∧ x = .int .i64 y ∧ 0 ≤ y ∧ y ≤ x0 ∧ Hid (∀ j (h : j < l.length), j < m → l[j].n.size ≤ 1048576 ∧ l[j].v.size ≤ 1048576) ∧ Below w.heap.size w wr

set_option maxRecDepth 100000 in
set_option maxHeartbeats 400000 in
theorem szLeafS_row (v : Value) (g o : Nat) (l : List Le) (x : Int) (w : World) (hv : IsRowL w v g o l) (h0 : 0 ≤ x) (h1 : x ≤ 1048576) :
    Calls Tryz.prog 34 #[v, .int .i64 x] w fun e w' => ∃ A : Int, e = .returned (.int .i64 A) ∧ Below w.heap.size w w' ∧ A ≤ x ∧ (0 ≤ A → RS 2 lcs w v g o l ∧ SmallL l ∧ l.length ≤ 1048576) := by
  obtain ⟨a, n, cap, rfl, hn, hr⟩ := hv
  by_cases hbig : x < (n : Int)
  · have q : x - (n : Int) < 0 := by omega
    go_enter Tryz.func34, Tryz.ntmps34
    go_wp2
    go_ret
    exact ⟨_, rfl, Below.refl _ _, by omega, fun h => by omega⟩
  obtain ⟨hln, hrs, hsz⟩ := hr (by omega)
  have HRS : Hid (RS 2 lcs w (.slice a n cap) g o l) := hrs
  have HSZ : Hid (∀ f ∈ l, f.n.size ≤ 9223372036854775807 ∧ f.v.size ≤ 9223372036854775807) := hsz
  have HLN : Hid (l.length = n) := hln
  obtain ⟨a', c', ev, _, hA, _⟩ := hrs
  have HA : Hid (0 < n → a = some ⟨g, o, none⟩) := fun h => by
    have := (hA (by omega)).1
    simp at ev
    rw [ev.1, this]
  clear hr hA hsz ev
  have q : ¬ x - (n : Int) < 0 := by omega
  go_enter Tryz.func34, Tryz.ntmps34
  go_wp2
  go_loopw [1, 5] (fun y i wr => SzL l (x - (n : Int)) w y i wr) (fun _ i _ => n - (intOf i).toNat)
  case atStart => exact ⟨0, x - (n : Int), by omega, rfl, by go_num, by omega, by omega, fun j _ h => by omega, Below.refl _ _⟩
  case round =>
    obtain ⟨m, y, hm, rfl, rfl, hy0, hy1, HJ, hbel⟩ := hrel
    by_cases hlt : m < n
    · have ea := HA.out (by omega)
      subst ea
      obtain ⟨c0, c1⟩ := (HRS.out.later hbel).leaf m (by omega)
      obtain ⟨X, hX⟩ : ∃ X, l[m]'(by omega) = X := ⟨_, rfl⟩
      rw [hX] at c0 c1
      have hxs := HSZ.out X (by rw [← hX]; exact List.getElem_mem _)
      have HX : Hid (l[m]'(by omega) = X) := hX
      have i1 : (m : Int) < (n : Int) := by omega
      have i2 : (0 : Int) ≤ (m : Int) := by omega
      clear hX HSZ HA HRS
      go_wp2_with fail
      refine (szLeaf_any X y _ hy0 (by omega) hxs.1 hxs.2).mono ?_
      rintro e w1 ⟨A, rfl, hb1, hA1, hA2⟩
      have hbel1 := hbel.trans (hb1.mono hbel.size)
      have HA2 : Hid (0 ≤ A → X.n.size ≤ 1048576 ∧ X.v.size ≤ 1048576) := hA2
      clear hb1 hA2 c0 c1 hbel hxs
      by_cases hneg : A < 0
      · clear HJ HX HA2
        go_wp2
        try rw [Exit.noGoto_ret]
        go_ret
        exact ⟨_, rfl, hbel1, by omega, fun h => by omega⟩
      · go_wp2
        go_roundw
        case rel =>
          refine ⟨m + 1, A, by omega, by go_num, rfl, by omega, by omega, ?_, hbel1⟩
          intro j hj hjl
          rcases Nat.lt_or_ge j m with h3 | h3
          · exact HJ.out j hj h3
          · have : j = m := by omega
            subst this
            rw [HX.out]
            exact HA2.out (by omega)
        case measure => simp [intOf]; omega
    · have hme : m = n := by omega
      have HF : Hid (RS 2 lcs w (.slice a n cap) g o l ∧ SmallL l ∧ l.length ≤ 1048576) := ⟨HRS.out, fun f hf => by
        obtain ⟨j, hj, rfl⟩ := List.getElem_of_mem hf
        exact HJ.out j hj (by omega), by omega⟩
      subst hme
      clear HJ HA HRS HSZ
      go_wp2
      go_ret
      exact ⟨_, rfl, hbel, by omega, fun _ => HF.out⟩


end Go.Proofs.YtgkfelhjbeegaaaGreatDoor
/-
  Boxes of any size; stamps and rows of them; trusts and whole proofs as they lie in memory.
-/
namespace Go.Proofs.YtgkfelhjbeegaaaGreatDoor
open Go.RowKit Go.BigFrame Go.Sort
set_option linter.unusedVariables false
set_option linter.unusedSimpArgs false

/-- a box that holds these cells -/
def Box (T : Nat) (W : World) (g : Nat) (cs : List Value) : Prop := W.heap[g]? = some (.cells cs.toArray T (0, 0))
section
variable {T : Nat} {W W' : World} {g : Nat} {cs : List Value}
theorem Box.new (T : Nat) (w : World) (cs : List Value) : Box T (w.alloc (.cells cs.toArray T)) w.heap.size cs := Go.heap_alloc_new w _
theorem Box.lt (h : Box T W g cs) : g < W.heap.size := (Array.getElem?_eq_some_iff.1 h).1
theorem Box.keep (h : Box T W g cs) (he : W'.heap[g]? = W.heap[g]?) : Box T W' g cs := by
  unfold Box at *
  rw [he, h]
theorem Box.later (h : Box T W g cs) (hb : Below W.heap.size W W') : Box T W' g cs := h.keep (hb.block g h.lt)
theorem Box.grown {row : Option Nat} (h : Box T W g cs) (hg : W.grownBy W' row) (hne : some g ≠ row) : Box T W' g cs := h.keep (hg.block g h.lt hne)
theorem Box.range (h : Box T W g cs) : W.rangeAt g 0 cs := fun j v hv => by
  rw [cell_of_row W g (0 + j) _ _ _ h, Nat.zero_add]
  simpa using hv
theorem Box.at (h : Box T W g cs) (j : Nat) (v : Value) (hv : cs[j]? = some v) : W.cell? ⟨g, j, none⟩ = some v := by
  rw [cell_of_row W g j _ _ _ h]
  simpa using hv
theorem Box.fz (h : Box T W g cs) (j : Nat) : W.frozen? ⟨g, j, none⟩ = false := by simp [World.frozen?, show W.heap[g]? = _ from h]
theorem Box.set (h : Box T W g cs) (j : Nat) (v : Value) : Box T (W.setCell ⟨g, j, none⟩ v) g (cs.set j v) := by
  unfold Box at *
  rw [heap_setCell_same W g j _ _ _ h]
  simp
end
theorem below_alloc (w : World) (o : Obj) : Below w.heap.size w (w.alloc o) := (Below.refl _ _).alloc (Nat.le_refl _) _

/-- a stamp: who, where in the pool, what is opened, what is shut, the sides -/
structure Stm where
  b : Int
  a : Int
  o : List ByteArray
  s : List ByteArray
  d : List ByteArray
/-- a stamp as it lies in memory -/
structure StV where
  b : Int
  a : Int
  v1 : Value
  v2 : Value
  v3 : Value
def stcs (x : StV) : List Value := [.int .i64 x.b, .int .i64 x.a, x.v1, x.v2, x.v3]
theorem stcs_len (x : StV) : (stcs x).length = 5 := rfl
theorem RS.stamp {w : World} {v : Value} {g o : Nat} {l : List StV} (h : RS 5 stcs w v g o l) (j : Nat) (hj : j < l.length) :
    w.cell? ⟨g, o + j * 5, none⟩ = some (.int .i64 l[j].b) ∧ w.cell? ⟨g, o + j * 5 + 1, none⟩ = some (.int .i64 l[j].a) ∧ w.cell? ⟨g, o + j * 5 + 2, none⟩ = some l[j].v1 ∧ w.cell? ⟨g, o + j * 5 + 3, none⟩ = some l[j].v2 ∧ w.cell? ⟨g, o + j * 5 + 4, none⟩ = some l[j].v3 := by
  obtain ⟨a, c, _, _, _, hc⟩ := h
  exact ⟨hc j hj 0 _ rfl, hc j hj 1 _ rfl, hc j hj 2 _ rfl, hc j hj 3 _ rfl, hc j hj 4 _ rfl⟩
/-- v reads as these texts, somewhere -/
def SX (W : World) (v : Value) (l : List ByteArray) : Prop := ∃ g o, SS W v g o l
theorem SX.later {W W' : World} {v : Value} {l : List ByteArray} (h : SX W v l) (hb : Below W.heap.size W W') : SX W' v l := by
  obtain ⟨g, o, h⟩ := h
  exact ⟨g, o, h.below hb h.lt⟩
theorem SX.shape {W : World} {v : Value} {l : List ByteArray} (h : SX W v l) : ∃ a c, v = .slice a l.length c := by
  obtain ⟨g, o, a, c, hv, _⟩ := h
  exact ⟨a, c, hv⟩
theorem SX.len {W : World} {v : Value} {l : List ByteArray} (h : SX W v l) : l.length ≤ 1100000 := by
  obtain ⟨g, o, a, c, hv, hl, _⟩ := h
  exact hl
/-- a stamp in memory is this one -/
def SgV (W : World) (x : StV) (y : Stm) : Prop := x.b = y.b ∧ x.a = y.a ∧ SX W x.v1 y.o ∧ SX W x.v2 y.s ∧ SX W x.v3 y.d
theorem SgV.later {W W' : World} {x : StV} {y : Stm} (h : SgV W x y) (hb : Below W.heap.size W W') : SgV W' x y := ⟨h.1, h.2.1, h.2.2.1.later hb, h.2.2.2.1.later hb, h.2.2.2.2.later hb⟩
/-- v reads as these stamps -/
def StS (W : World) (v : Value) (g o : Nat) (L : List Stm) : Prop := ∃ V : List StV, V.length = L.length ∧ RS 5 stcs W v g o V ∧ ∀ j (h : j < L.length) (h' : j < V.length), SgV W V[j] L[j]
theorem StS.later {W W' : World} {v : Value} {g o : Nat} {L : List Stm} (h : StS W v g o L) (hb : Below W.heap.size W W') : StS W' v g o L := by
  obtain ⟨V, h1, h2, h3⟩ := h
  exact ⟨V, h1, h2.later hb, fun j h h' => (h3 j h h').later hb⟩
theorem StS.shape {W : World} {v : Value} {g o : Nat} {L : List Stm} (h : StS W v g o L) : ∃ a c, v = .slice a L.length c ∧ L.length ≤ 1100000 ∧ (0 < L.length → a = some ⟨g, o, none⟩) := by
  obtain ⟨V, h1, ⟨a, c, hv, hl, h0, _⟩, _⟩ := h
  rw [h1] at hv hl h0
  exact ⟨a, c, hv, hl, fun h => (h0 h).1⟩
/-- one stamp of a row: its cells, and what they are -/
theorem StS.at {W : World} {v : Value} {g o : Nat} {L : List Stm} (h : StS W v g o L) (j : Nat) (hj : j < L.length) :
    ∃ v1 v2 v3, (W.cell? ⟨g, o + j * 5, none⟩ = some (.int .i64 L[j].b) ∧ W.cell? ⟨g, o + j * 5 + 1, none⟩ = some (.int .i64 L[j].a) ∧ W.cell? ⟨g, o + j * 5 + 2, none⟩ = some v1 ∧ W.cell? ⟨g, o + j * 5 + 3, none⟩ = some v2 ∧ W.cell? ⟨g, o + j * 5 + 4, none⟩ = some v3) ∧ SX W v1 L[j].o ∧ SX W v2 L[j].s ∧ SX W v3 L[j].d := by
  obtain ⟨V, h1, h2, h3⟩ := h
  have hj' : j < V.length := by omega
  obtain ⟨e1, e2, x1, x2, x3⟩ := h3 j hj hj'
  have hc := h2.stamp j hj'
  rw [e1, e2] at hc
  exact ⟨_, _, _, hc, x1, x2, x3⟩

/-- do they ascend? -/
def AscS (G : List Stm) : Prop := ∀ i (h : i + 1 < G.length), (G[i]'(by omega)).b < G[i + 1].b
noncomputable def ascS (G : List Stm) : Bool := @decide (AscS G) (Classical.propDecidable _)
theorem ascS_yes {G : List Stm} (h : AscS G) : ascS G = true := by unfold ascS; exact @decide_eq_true _ (Classical.propDecidable _) h
theorem ascS_no {G : List Stm} (h : ¬ AscS G) : ascS G = false := by unfold ascS; exact @decide_eq_false _ (Classical.propDecidable _) h

/-- is it a right trust? -/
def tkB (R : List ByteArray) (K N : Int) : Bool := decide (1 ≤ (R.length : Int) ∧ (R.length : Int) ≤ 3) && (R.all (fun s => decide ((s.size : Int) = 16)) && (decide (0 ≤ K ∧ K ≤ 2) && decide (0 ≤ N ∧ N ≤ 2)))

end Go.Proofs.YtgkfelhjbeegaaaGreatDoor
/-
  Proofs: how wide their sides are: the specification's answer.
-/
namespace Go.Proofs.YtgkfelhjbeegaaaGreatDoor
open Go.RowKit Go.BigFrame Go.Sort
set_option linter.unusedVariables false
set_option linter.unusedSimpArgs false

/-- are all of this width? -/
def wideB (S : List ByteArray) (x : Int) : Bool := S.all (fun s => decide ((s.size : Int) = x)) && decide (1 ≤ x ∧ x ≤ 32)
theorem wideB_bad {S : List ByteArray} {x : Int} {m : Nat} (hm : m < S.length) (h : ¬ ((S[m].size : Int) = x)) : wideB S x = false := by
  unfold wideB
  rw [Bool.and_eq_false_iff]
  left
  rw [List.all_eq_false]
  exact ⟨S[m], List.getElem_mem _, by simpa using h⟩
theorem wideB_good {S : List ByteArray} {x : Int} (h : ∀ j (hj : j < S.length), (S[j].size : Int) = x) : wideB S x = decide (1 ≤ x ∧ x ≤ 32) := by
  unfold wideB
  have : S.all (fun s => decide ((s.size : Int) = x)) = true := by
    rw [List.all_eq_true]
    intro s hs
    obtain ⟨j, hj, rfl⟩ := List.getElem_of_mem hs
    simpa using h j hj
  rw [this, Bool.true_and]

def PwR (w : World) (S : List ByteArray) (x : Int) (i : Value) (wr : World) : Prop := ∃ m : Nat, m ≤ S.length ∧ i = .int .i64 m ∧ wr = w ∧ Hid (∀ j (h : j < S.length), j < m → (S[j].size : Int) = x)

set_option maxRecDepth 100000 in
set_option maxHeartbeats 1000000 in
theorem l11Wide_any (v : Value) (g o : Nat) (S : List ByteArray) (x : Int) (w : World) (hv : SS w v g o S) :
    Calls Tryz.prog 40 #[v, .int .i64 x] w fun e w' => e = .returned (.bool (wideB S x)) ∧ w' = w := by
  obtain ⟨R, hR⟩ : ∃ R, wideB S x = R := ⟨_, rfl⟩
  have HR : Hid (wideB S x = R) := hR
  rw [hR]
  obtain ⟨a, cap, rfl, hl, hA, hc⟩ := hv
  obtain ⟨n, hn⟩ : ∃ n, S.length = n := ⟨_, rfl⟩
  have HA : Hid (0 < n → a = some ⟨g, o, none⟩) := by rw [← hn]; exact hA
  have HCC : Hid (∀ j (h : j < S.length), w.cell? ⟨g, o + j, none⟩ = some (.string S[j])) := hc
  have HN : Hid (S.length = n) := hn
  have HST : Hid (PwR w S x (.int .i64 0) w) := ⟨0, by omega, rfl, rfl, fun j _ h => by omega⟩
  rw [hn] at hl ⊢
  clear hA hc hn hR
  go_enter Tryz.func40, Tryz.ntmps40
  go_wp2
  go_loopw [5] (fun i wr => PwR w S x i wr) (fun i _ => n - (intOf i).toNat)
  case atStart => exact HST.out
  case round =>
    obtain ⟨m, hm, rfl, rfl, HI⟩ := hrel
    clear HST
    rw [HN.out] at hm
    by_cases hlt : m < n
    · have ea := HA.out (by omega)
      subst ea
      have c0 := HCC.out m (by rw [HN.out]; exact hlt)
      have HB : Hid (¬ (((S[m]'(by rw [HN.out]; exact hlt)).size : Int) = x) → wideB S x = false) := fun h => wideB_bad _ h
      have HJ : Hid ((((S[m]'(by rw [HN.out]; exact hlt)).size : Int) = x) → ∀ j (h : j < S.length), j < m + 1 → (S[j].size : Int) = x) := fun h j hj hjm => by
        rcases Nat.lt_or_ge j m with h1 | h1
        · exact HI.out j hj h1
        · have : j = m := by omega
          subst this
          exact h
      generalize S[m]'(by rw [HN.out]; exact hlt) = X at *
      have i1 : (m : Int) < (n : Int) := by omega
      have i2 : (0 : Int) ≤ (m : Int) := by omega
      by_cases hk : (X.size : Int) = x
      · have HJ2 : Hid (∀ j (h : j < S.length), j < m + 1 → (S[j].size : Int) = x) := HJ.out hk
        have q : ((X.size : Int) != x) = false := by simpa using hk
        clear HJ HB hk HI HCC
        go_wp2
        go_roundw
        case rel => exact ⟨m + 1, by rw [HN.out]; omega, by go_num, rfl, HJ2⟩
        case measure => simp [intOf]; omega
      · have hRf := HB.out hk
        rw [HR.out] at hRf
        subst hRf
        have q : ((X.size : Int) != x) = true := by simpa using hk
        clear HJ HB hk HI HCC HR
        go_wp2
        go_ret
        exact ⟨rfl, rfl⟩
    · have hme : m = n := by omega
      have hG := wideB_good (S := S) (x := x) (fun j hj => HI.out j hj (by rw [HN.out] at hj; omega))
      rw [HR.out] at hG
      have HG : Hid (decide (1 ≤ x ∧ x ≤ 32) = R) := hG.symm
      clear hG
      have i1 : ¬ (m : Int) < (n : Int) := by omega
      clear HI HCC HR
      go_wp2_with fail
      refine (l01In_any _ _ _ _).mono ?_
      rintro e w2 ⟨rfl, rfl⟩
      rw [HG.out]
      go_wp2
      go_ret
      exact ⟨rfl, rfl⟩

theorem run_rangeP {w : World} {p : Nat} {v1 v2 : Value} (t : TypeId) : (w.alloc (.cells #[v1, v2] t)).cell? ⟨w.heap.size, 0, none⟩ = some v1 ∧ (w.alloc (.cells #[v1, v2] t)).cell? ⟨w.heap.size, 1, none⟩ = some v2 := by
  constructor
  · rw [World.cell?_alloc_at _ _ _ _ rfl]; rfl
  · rw [World.cell?_alloc_at _ _ _ _ rfl]; rfl

end Go.Proofs.YtgkfelhjbeegaaaGreatDoor
/-
  Is a width right? The program's answer.
-/
namespace Go.Proofs.YtgkfelhjbeegaaaGreatDoor
open Go.RowKit Go.BigFrame
set_option linter.unusedVariables false

theorem widthOk_any (x : Int) (w : World) : Calls Tryz.prog 119 #[.int .i64 x] w fun e w' => e = .returned (.bool (decide (1 ≤ x ∧ x ≤ 32))) ∧ w' = w := by
  by_cases h1 : 1 ≤ x
  · by_cases h2 : x ≤ 32
    · go_enter Tryz.func119, Tryz.ntmps119
      go_wp2
      go_ret
      exact ⟨by simp [h1, h2], rfl⟩
    · go_enter Tryz.func119, Tryz.ntmps119
      go_wp2
      go_ret
      exact ⟨by simp [h2], rfl⟩
  · go_enter Tryz.func119, Tryz.ntmps119
    go_wp2
    go_ret
    exact ⟨by simp; omega, rfl⟩

end Go.Proofs.YtgkfelhjbeegaaaGreatDoor
