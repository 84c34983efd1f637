/-
  Texts laid together: Lw, Mf, Lk.
-/
import Derived.Test.YtklpanjedolkdaaGreatDoorPkELS2
import Derived.Test.YtklpanjedolkdaaGreatDoorPkELS8
import Derived.Lib.QuietBelow
/-
  What the laws' own helpers do with leaves: taken over, compared, weighed.
-/
namespace Go.Proofs.YtklpanjedolkdaaGreatDoor
open Go.RowKit Go.BigFrame Go.Sort
set_option linter.unusedVariables false
set_option linter.unusedSimpArgs false

def lcs (f : Le) : List Value := [.string f.n, .string f.v]
theorem lcs_len (f : Le) : (lcs f).length = 2 := rfl
theorem RS.leaf {w : World} {v : Value} {g o : Nat} {l : List Le} (h : RS 2 lcs w v g o l) (j : Nat) (hj : j < l.length) :
    w.cell? ⟨g, o + j * 2, none⟩ = some (.string l[j].n) ∧ w.cell? ⟨g, o + j * 2 + 1, none⟩ = some (.string l[j].v) := by
  obtain ⟨a, c, _, _, _, hc⟩ := h
  exact ⟨hc j hj 0 _ rfl, hc j hj 1 _ rfl⟩
theorem range2 {w : World} {g o : Nat} {u1 u2 : Value} (h1 : w.cell? ⟨g, o, none⟩ = some u1) (h2 : w.cell? ⟨g, o + 1, none⟩ = some u2) : w.rangeAt g o [u1, u2] := fun j v hv => by
  match j, hv with
  | 0, hv => simp at hv; subst hv; exact h1
  | 1, hv => simp at hv; subst hv; exact h2
theorem there2 {w : World} {g o : Nat} (h : w.there g o 2) : (∃ u, w.cell? ⟨g, o, none⟩ = some u) ∧ (∃ u, w.cell? ⟨g, o + 1, none⟩ = some u) ∧ w.frozen? ⟨g, o, none⟩ = false ∧ w.frozen? ⟨g, o + 1, none⟩ = false :=
  ⟨Option.isSome_iff_exists.1 (h 0 (by omega)).1, Option.isSome_iff_exists.1 (h 1 (by omega)).1, (h 0 (by omega)).2, (h 1 (by omega)).2⟩
theorem sizeLeaf : (Tryz.prog.info? 109).map (·.size) = some 2 := by kernel_rfl

set_option maxRecDepth 100000 in
set_option maxHeartbeats 400000 in
theorem toLeaf_any (f : Le) (w : World) : Calls Tryz.prog 129 #[.agg #[.string f.n, .string f.v]] w fun e w' => e = .returned (.agg #[.string f.n, .string f.v]) ∧ Below w.heap.size w w' := by
  obtain ⟨x, t⟩ := f
  go_enter Tryz.func129, Tryz.ntmps129
  go_wp2
  refine ret_rec 2 (w.heap.size + 1) 109 [.string x, .string t] _ rfl rfl rfl Tryz.underlying109 rfl sizeLeaf ?_ ?_
  · exact World.rangeAt_alloc (range_at (by simp) (range_new _ [.string x, .string t] _)) _
  · exact ⟨rfl, (((Below.refl _ _).alloc (Nat.le_refl _) _).alloc (by simp) _).alloc (by simp; omega) _⟩


theorem Tryz.infoLeaf : (Tryz.prog.info? 109).map (fun i => (i.zero, i.size, i.bytes)) = some (some (.agg #[.string ByteArray.empty, .string ByteArray.empty]), 2, 32) := by kernel_rfl
theorem there_new2 {W : World} {cs : Array Value} {T n : Nat} (h : cs.size = n * 2) (j : Nat) (hj : j < n) : (W.alloc (.cells cs T)).there W.heap.size (j * 2) 2 := by
  intro i hi
  have hg := Go.heap_alloc_new W (.cells cs T)
  refine ⟨?_, by unfold World.frozen?; simp only [hg]; simp⟩
  rw [cell_of_row _ W.heap.size (j * 2 + i) cs T (0, 0) hg, Array.getElem?_eq_getElem (by omega)]
  rfl
theorem made_leaves (n : Nat) (h : n ≤ 1100000) (W : World) : ∃ w', (Instr.makeSlice 52 (.int .i64 (n : Int)) (.int .i64 (n : Int))).run Tryz.prog W = .ok (.slice (some ⟨W.heap.size, 0, none⟩) n n) w' ∧ (∀ j, j < n → w'.there W.heap.size (j * 2) 2) ∧ Below W.heap.size W w' ∧ w'.heap.size = W.heap.size + 1 := by
  obtain ⟨i0, hi, hz0, hz1, hz2⟩ := info_parts Tryz.infoLeaf
  have h1 := run_make (P := Tryz.prog) W 52 109 i0 _ Tryz.underlying52 hi hz0 .i64 .i64 (n : Int) (n : Int) (by omega) (by omega) (by rw [hz2]; omega) (by omega)
  refine ⟨_, by simpa using h1, fun j hj => there_new2 ?_ j hj, (Below.refl _ _).alloc (Nat.le_refl _) _, by simp⟩
  rw [size_madeCells, hz1]

/-- the first m records of a new row are written -/
def ToL (w : World) (l : List Le) (B g : Nat) (i : Value) (wr : World) : Prop := ∃ m : Nat, m ≤ l.length ∧ i = .int .i64 m ∧ (∀ j (h : j < l.length), j < m → wr.rangeAt g (j * 2) (lcs l[j])) ∧ (∀ j, j < l.length → wr.there g (j * 2) 2) ∧ Below B w wr
theorem ToL.set {w wr : World} {l : List Le} {g m B : Nat} (hm : m < l.length) (hB : B ≤ g) (h1 : ∀ j (h : j < l.length), j < m → wr.rangeAt g (j * 2) (lcs l[j])) (h2 : ∀ j, j < l.length → wr.there g (j * 2) 2) (h3 : Below B w wr) :
    (∀ j (h : j < l.length), j < m + 1 → (wr.setCells g (m * 2) (lcs l[m])).rangeAt g (j * 2) (lcs l[j])) ∧ (∀ j, j < l.length → (wr.setCells g (m * 2) (lcs l[m])).there g (j * 2) 2) ∧ Below B w (wr.setCells g (m * 2) (lcs l[m])) := by
  refine ⟨fun j hj hlt => ?_, fun j hj => World.there_setCells (h2 j hj) _ _ _, ?_⟩
  · rcases Nat.lt_or_ge j m with h4 | h4
    · exact World.rangeAt_setCells_apart (h1 j hj h4) _ _ _ (.inr (.inl (by rw [lcs_len]; omega)))
    · have : j = m := by omega
      subst this
      exact World.rangeAt_setCells_same _ _ _ _ (h2 j hj)
  · exact below_setCells hB _ _ _ h3

set_option maxRecDepth 100000 in
set_option maxHeartbeats 400000 in
theorem toLeafS_any (v : Value) (ga oa : Nat) (l : List Le) (w : World) (hv : RS 2 lcs w v ga oa l) :
    Calls Tryz.prog 80 #[v] w fun e w' => ∃ g, e = .returned (.slice (some ⟨g, 0, none⟩) l.length l.length) ∧ w.heap.size ≤ g ∧ RW 2 lcs w' (.slice (some ⟨g, 0, none⟩) l.length l.length) g l ∧ g < w'.heap.size ∧ Below w.heap.size w w' := by
  have HV : Hid (RS 2 lcs w v ga oa l) := hv
  obtain ⟨a, cap, rfl, hl, hA, hc⟩ := hv
  obtain ⟨n, hn⟩ : ∃ n, l.length = n := ⟨_, rfl⟩
  obtain ⟨w2, hmk, hib, hb2, hs2⟩ := made_leaves n (by omega) w
  have HST : Hid (ToL w l w.heap.size w.heap.size (.int .i64 0) w2 ∧ w.heap.size < w2.heap.size) := ⟨⟨0, by omega, rfl, fun j _ h => by omega, by rw [hn]; exact hib, hb2⟩, by omega⟩
  have HA : Hid (0 < n → a = some ⟨ga, oa, none⟩) := by rw [← hn]; exact fun h => (hA h).1
  rw [hn] at hl ⊢
  clear hib hb2 hs2 hA hc
  go_enter Tryz.func80, Tryz.ntmps80
  go_wp2
  clear hmk
  go_loopw [4] (fun i wr => ToL w l w.heap.size w.heap.size i wr ∧ w.heap.size < wr.heap.size) (fun i _ => n - (intOf i).toNat)
  case atStart => exact HST.out
  case round =>
    obtain ⟨⟨m, hm, rfl, h1, h2, hbel⟩, hws⟩ := hrel
    have HI : Hid ((∀ j (h : j < l.length), j < m → wr.rangeAt w.heap.size (j * 2) (lcs l[j])) ∧ (∀ j, j < l.length → wr.there w.heap.size (j * 2) 2) ∧ Below w.heap.size w wr) := ⟨h1, h2, hbel⟩
    clear HST h1 h2 hbel
    rw [hn] at hm
    by_cases hlt : m < n
    · have ea := HA.out (by omega)
      subst ea
      obtain ⟨c0, c1⟩ := (HV.out.later HI.out.2.2).leaf m (by omega)
      obtain ⟨X, hX⟩ : ∃ X, l[m]'(by omega) = X := ⟨_, rfl⟩
      rw [hX] at c0 c1
      have HX : Hid (l[m]'(by omega) = X) := hX
      have i1 : (m : Int) < (n : Int) := by omega
      have i2 : (0 : Int) ≤ (m : Int) := by omega
      clear hX HV HA
      go_wp2_with fail
      refine (toLeaf_any X _).mono ?_
      rintro e w1 ⟨rfl, hb1⟩
      have HJ : Hid ((∀ j (h : j < l.length), j < m + 1 → (w1.setCells w.heap.size (m * 2) (lcs X)).rangeAt w.heap.size (j * 2) (lcs l[j])) ∧ (∀ j, j < l.length → (w1.setCells w.heap.size (m * 2) (lcs X)).there w.heap.size (j * 2) 2) ∧ Below w.heap.size w (w1.setCells w.heap.size (m * 2) (lcs X))) := by
        have h := ToL.set (w := w) (wr := w1) (l := l) (g := w.heap.size) (m := m) (B := w.heap.size) (by omega) (Nat.le_refl _) (fun j hj h => range_kept (HI.out.1 j hj h) (hb1.block _ hws)) (fun j hj => there_kept (HI.out.2.1 j hj) (hb1.block _ hws)) (HI.out.2.2.trans (hb1.mono HI.out.2.2.size))
        rw [HX.out] at h
        exact h
      have HT : Hid (w1.there w.heap.size (m * 2) 2) := there_kept (HI.out.2.1 m (by omega)) (hb1.block _ hws)
      have hws1 : w.heap.size < (w1.setCells w.heap.size (m * 2) (lcs X)).heap.size := by rw [size_setCells]; exact Nat.lt_of_lt_of_le hws hb1.size
      clear hb1 HI c0 c1
      obtain ⟨⟨o0, x0⟩, ⟨o1, x1⟩, f0, f1⟩ := there2 HT.out
      go_wp2
      go_roundw
      case rel => exact ⟨⟨m + 1, by omega, by go_num, HJ.out⟩, hws1⟩
      case measure => simp [intOf]; omega
    · have hme : m = n := by omega
      subst hme
      clear HV HA
      go_wp2
      go_ret
      refine ⟨w.heap.size, rfl, Nat.le_refl _, ⟨⟨_, _, by rw [hn], by omega, fun _ => ⟨rfl, hws⟩, fun j hj => ?_⟩, HI.out.2.1⟩, hws, HI.out.2.2⟩
      rw [Nat.zero_add]
      exact HI.out.1 j hj (by omega)

theorem eqLeaf_yes (f : Le) (w : World) : Calls Tryz.prog 122 #[.agg #[.string f.n, .string f.v], .agg #[.string f.n, .string f.v]] w fun e w' => e = .returned (.bool true) ∧ Below w.heap.size w w' := by
  obtain ⟨x, t⟩ := f
  have hb : Below w.heap.size w ((w.alloc (.cells #[.string x, .string t] 109)).alloc (.cells #[.string x, .string t] 109)) := ((Below.refl _ _).alloc (Nat.le_refl _) _).alloc (by simp) _
  go_enter Tryz.func122, Tryz.ntmps122
  go_wp2
  go_ret
  exact ⟨rfl, hb⟩


def ElR (n : Nat) (w : World) (i : Value) (wr : World) : Prop := ∃ m : Nat, m ≤ n ∧ i = .int .i64 m ∧ Below w.heap.size w wr

set_option maxRecDepth 100000 in
set_option maxHeartbeats 400000 in
theorem eqLeafS_yes (u v : Value) (ga oa gb ob : Nat) (l : List Le) (w : World) (hu : RS 2 lcs w u ga oa l) (hv : RS 2 lcs w v gb ob l) :
    Calls Tryz.prog 68 #[u, v] w fun e w' => e = .returned (.bool true) ∧ Below w.heap.size w w' := by
  have HU : Hid (RS 2 lcs w u ga oa l) := hu
  have HV : Hid (RS 2 lcs w v gb ob l) := hv
  obtain ⟨a, cap, rfl, hl, hA, _⟩ := hu
  obtain ⟨b, cap2, rfl, _, hB, _⟩ := hv
  obtain ⟨n, hn⟩ : ∃ n, l.length = n := ⟨_, rfl⟩
  have HA : Hid (0 < n → a = some ⟨ga, oa, none⟩ ∧ b = some ⟨gb, ob, none⟩) := by rw [← hn]; exact fun h => ⟨(hA h).1, (hB h).1⟩
  rw [hn] at hl ⊢
  clear hA hB
  go_enter Tryz.func68, Tryz.ntmps68
  go_wp2
  go_loopw [5] (fun i wr => ElR n w i wr) (fun i _ => n - (intOf i).toNat)
  case atStart => exact ⟨0, by omega, rfl, Below.refl _ _⟩
  case round =>
    obtain ⟨m, hm, rfl, hbel⟩ := hrel
    by_cases hlt : m < n
    · obtain ⟨ea, eb⟩ := HA.out (by omega)
      subst ea
      subst eb
      obtain ⟨c0, c1⟩ := (HU.out.later hbel).leaf m (by omega)
      obtain ⟨e0, e1⟩ := (HV.out.later hbel).leaf m (by omega)
      generalize l[m]'(by omega) = X at *
      have i1 : (m : Int) < (n : Int) := by omega
      have i2 : (0 : Int) ≤ (m : Int) := by omega
      clear HU HV HA
      go_wp2
      have kq0 := cell_regrown (w := wr) c0
      have kq1 := cell_regrown (w := wr) c1
      have kq3 := cell_regrown (w := wr) e0
      have kq4 := cell_regrown (w := wr) e1
      have cq0 := fun d os => Calls.regrown_of (w := wr) (d := d) (os := os) (eqLeaf_yes X _)
      refine wp_region_quiet_below (by kernel_rfl) (by kernel_rfl) ?_
      repeat (go_big_quiet_step (first | exact cq0 _ _))
      refine wpQuiet_nil ?_
      rintro _ ⟨⟨dq, osq⟩, rfl⟩
      have hb6 := below_regrown (wr) dq osq
      generalize grow (redrawn (wr) dq) osq = w6 at *
      clear kq0 kq1 kq3 kq4 cq0
      go_wp2
      go_roundw
      case rel => exact ⟨m + 1, by omega, by go_num, hbel.trans (hb6.mono hbel.size)⟩
      case measure => simp [intOf]; omega
    · have hme : m = n := by omega
      subst hme
      clear HU HV HA
      go_wp2
      go_ret
      exact ⟨rfl, hbel⟩

set_option maxHeartbeats 400000 in
theorem szLeaf_any (f : Le) (x : Int) (w : World) (h0 : 0 ≤ x) (h1 : x ≤ 1048576) (hn : f.n.size ≤ 9223372036854775807) (ht : f.v.size ≤ 9223372036854775807) :
    Calls Tryz.prog 128 #[.agg #[.string f.n, .string f.v], .int .i64 x] w fun e w' => ∃ A : Int, e = .returned (.int .i64 A) ∧ Below w.heap.size w w' ∧ A ≤ x ∧ (0 ≤ A → f.n.size ≤ 1048576 ∧ f.v.size ≤ 1048576) := by
  obtain ⟨y, t⟩ := f
  simp only at hn ht ⊢
  have HB : Hid (Below w.heap.size w (w.alloc (.cells #[.string y, .string t] 153))) := (Below.refl _ _).alloc (Nat.le_refl _) _
  by_cases h2 : x - (y.size : Int) < 0
  · go_enter Tryz.func128, Tryz.ntmps128
    go_wp2
    go_ret
    exact ⟨_, rfl, HB.out, by omega, fun h => by omega⟩
  · by_cases h3 : x - (y.size : Int) - (t.size : Int) < 0
    · go_enter Tryz.func128, Tryz.ntmps128
      go_wp2
      go_ret
      exact ⟨_, rfl, HB.out, by omega, fun h => by omega⟩
    · go_enter Tryz.func128, Tryz.ntmps128
      go_wp2
      go_ret
      exact ⟨_, rfl, HB.out, by omega, fun h => ⟨by omega, by omega⟩⟩

/-- a row of leaves that was handed in, great or small: if it is small, it is l -/
def IsRowL (w : World) (v : Value) (g o : Nat) (l : List Le) : Prop := ∃ a n cap, v = .slice a n cap ∧ n ≤ 9223372036854775807 ∧ (n ≤ 1100000 → l.length = n ∧ RS 2 lcs w v g o l ∧ ∀ f ∈ l, f.n.size ≤ 9223372036854775807 ∧ f.v.size ≤ 9223372036854775807)
theorem IsRowL.later {w w' : World} {v : Value} {g o : Nat} {l : List Le} (h : IsRowL w v g o l) (hb : Below w.heap.size w w') : IsRowL w' v g o l := by
  obtain ⟨a, n, cap, hv, hn, hr⟩ := h
  exact ⟨a, n, cap, hv, hn, fun hl => ⟨(hr hl).1, (hr hl).2.1.later hb, (hr hl).2.2⟩⟩
/-- no text of it is great -/
def SmallL (l : List Le) : Prop := ∀ f ∈ l, f.n.size ≤ 1048576 ∧ f.v.size ≤ 1048576

def SzL (l : List Le) (x0 : Int) (w : World) (x i : Value) (wr : World) : Prop := ∃ (m : Nat) (y : Int), m ≤ l.length ∧ i = .int .i64 m ∧ x = .int .i64 y ∧ 0 ≤ y ∧ y ≤ x0 ∧ Hid (∀ j (h : j < l.length), j < m → l[j].n.size ≤ 1048576 ∧ l[j].v.size ≤ 1048576) ∧ Below w.heap.size w wr

set_option maxRecDepth 100000 in
set_option maxHeartbeats 400000 in
theorem szLeafS_row (v : Value) (g o : Nat) (l : List Le) (x : Int) (w : World) (hv : IsRowL w v g o l) (h0 : 0 ≤ x) (h1 : x ≤ 1048576) :
    Calls Tryz.prog 78 #[v, .int .i64 x] w fun e w' => ∃ A : Int, e = .returned (.int .i64 A) ∧ Below w.heap.size w w' ∧ A ≤ x ∧ (0 ≤ A → RS 2 lcs w v g o l ∧ SmallL l ∧ l.length ≤ 1048576) := by
  obtain ⟨a, n, cap, rfl, hn, hr⟩ := hv
  by_cases hbig : x < (n : Int)
  · have q : x - (n : Int) < 0 := by omega
    go_enter Tryz.func78, Tryz.ntmps78
    go_wp2
    go_ret
    exact ⟨_, rfl, Below.refl _ _, by omega, fun h => by omega⟩
  obtain ⟨hln, hrs, hsz⟩ := hr (by omega)
  have HRS : Hid (RS 2 lcs w (.slice a n cap) g o l) := hrs
  have HSZ : Hid (∀ f ∈ l, f.n.size ≤ 9223372036854775807 ∧ f.v.size ≤ 9223372036854775807) := hsz
  have HLN : Hid (l.length = n) := hln
  obtain ⟨a', c', ev, _, hA, _⟩ := hrs
  have HA : Hid (0 < n → a = some ⟨g, o, none⟩) := fun h => by
    have := (hA (by omega)).1
    simp at ev
    rw [ev.1, this]
  clear hr hA hsz ev
  have q : ¬ x - (n : Int) < 0 := by omega
  go_enter Tryz.func78, Tryz.ntmps78
  go_wp2
  go_loopw [1, 5] (fun y i wr => SzL l (x - (n : Int)) w y i wr) (fun _ i _ => n - (intOf i).toNat)
  case atStart => exact ⟨0, x - (n : Int), by omega, rfl, by go_num, by omega, by omega, fun j _ h => by omega, Below.refl _ _⟩
  case round =>
    obtain ⟨m, y, hm, rfl, rfl, hy0, hy1, HJ, hbel⟩ := hrel
    by_cases hlt : m < n
    · have ea := HA.out (by omega)
      subst ea
      obtain ⟨c0, c1⟩ := (HRS.out.later hbel).leaf m (by omega)
      obtain ⟨X, hX⟩ : ∃ X, l[m]'(by omega) = X := ⟨_, rfl⟩
      rw [hX] at c0 c1
      have hxs := HSZ.out X (by rw [← hX]; exact List.getElem_mem _)
      have HX : Hid (l[m]'(by omega) = X) := hX
      have i1 : (m : Int) < (n : Int) := by omega
      have i2 : (0 : Int) ≤ (m : Int) := by omega
      clear hX HSZ HA HRS
      go_wp2_with fail
      refine (szLeaf_any X y _ hy0 (by omega) hxs.1 hxs.2).mono ?_
      rintro e w1 ⟨A, rfl, hb1, hA1, hA2⟩
      have hbel1 := hbel.trans (hb1.mono hbel.size)
      have HA2 : Hid (0 ≤ A → X.n.size ≤ 1048576 ∧ X.v.size ≤ 1048576) := hA2
      clear hb1 hA2 c0 c1 hbel hxs
      by_cases hneg : A < 0
      · clear HJ HX HA2
        go_wp2
        try rw [Exit.noGoto_ret]
        go_ret
        exact ⟨_, rfl, hbel1, by omega, fun h => by omega⟩
      · go_wp2
        go_roundw
        case rel =>
          refine ⟨m + 1, A, by omega, by go_num, rfl, by omega, by omega, ?_, hbel1⟩
          intro j hj hjl
          rcases Nat.lt_or_ge j m with h3 | h3
          · exact HJ.out j hj h3
          · have : j = m := by omega
            subst this
            rw [HX.out]
            exact HA2.out (by omega)
        case measure => simp [intOf]; omega
    · have hme : m = n := by omega
      have HF : Hid (RS 2 lcs w (.slice a n cap) g o l ∧ SmallL l ∧ l.length ≤ 1048576) := ⟨HRS.out, fun f hf => by
        obtain ⟨j, hj, rfl⟩ := List.getElem_of_mem hf
        exact HJ.out j hj (by omega), by omega⟩
      subst hme
      clear HJ HA HRS HSZ
      go_wp2
      go_ret
      exact ⟨_, rfl, hbel, by omega, fun _ => HF.out⟩


end Go.Proofs.YtklpanjedolkdaaGreatDoor
/-
  What the laws' own helpers write into the files of a disk, and find there again.
-/
namespace Go.Proofs.YtklpanjedolkdaaGreatDoor
open Go.RowKit Go.BigFrame Go.Sort
set_option linter.unusedVariables false
set_option linter.unusedSimpArgs false

def fmk (k0 j : Nat) : Fl := ⟨markB (k0 + 3 * j), markB (k0 + 3 * j + 1), ((k0 + 3 * j + 2 : Nat) : Int)⟩
def fmarks (k0 n : Nat) : List Fl := (List.range n).map (fmk k0)
theorem fmarks_len (k0 n : Nat) : (fmarks k0 n).length = n := by simp [fmarks]
theorem fmarks_at (k0 n j : Nat) (h : j < (fmarks k0 n).length) : (fmarks k0 n)[j] = fmk k0 j := by simp [fmarks]

theorem set_here {w : World} {g o : Nat} {u : Value} (h : w.cell? ⟨g, o, none⟩ = some u) (hf : w.frozen? ⟨g, o, none⟩ = false) (v : Value) : (w.setCell ⟨g, o, none⟩ v).cell? ⟨g, o, none⟩ = some v :=
  (World.rangeAt_setCells_same w g o [v] (fun j hj => by
    have : j = 0 := by simpa using hj
    subst this
    exact ⟨by rw [Nat.add_zero, h]; rfl, hf⟩)) 0 v rfl
theorem set_else {w : World} {g o o' : Nat} (h : o' ≠ o) (v : Value) : (w.setCell ⟨g, o, none⟩ v).cell? ⟨g, o', none⟩ = w.cell? ⟨g, o', none⟩ :=
  World.cell?_setCells_out g [v] o w ⟨g, o', none⟩ (fun _ _ => by simp; omega)
theorem set_there {w : World} {g b o n : Nat} (o' : Nat) (h : w.there b o n) (v : Value) : (w.setCell ⟨g, o', none⟩ v).there b o n := World.there_setCells h g o' [v]
theorem set_range {w : World} {g o o' : Nat} {cs : List Value} (h : w.rangeAt g o cs) (hn : o + cs.length ≤ o') (v : Value) : (w.setCell ⟨g, o', none⟩ v).rangeAt g o cs := World.rangeAt_setCells_apart h g o' [v] (.inr (.inl hn))

def rowF (g n : Nat) : Option Nat := if n = 0 then none else some g
theorem rowF_some {g n : Nat} (h : 0 < n) : rowF g n = some g := if_neg (by omega)
theorem rowF_ne {g k n : Nat} (h : 0 < n → k ≠ g) : some k ≠ rowF g n := by
  unfold rowF
  split
  · simp
  · have := h (by omega)
    simpa using this
theorem rowF_le {g n B : Nat} (h : B ≤ g) (q : Nat) (hq : rowF g n = some q) : B ≤ q := by
  unfold rowF at hq
  split at hq
  · cases hq
  · cases hq; exact h
/-- the first m files bear marks, and all may be written -/
def MfI (w : World) (g : Nat) (l : List Fl) (k0 m : Nat) (wr : World) : Prop := (∀ j, j < m → wr.rangeAt g (j * 3) (fcs (fmk k0 j))) ∧ (∀ j, j < l.length → wr.there g (j * 3) 3) ∧ w.grownBy wr (rowF g l.length)
theorem MfI.below {w wr wr' : World} {g : Nat} {l : List Fl} {k0 m : Nat} (h : MfI w g l k0 m wr) (hg : g < wr.heap.size) (hb : Below wr.heap.size wr wr') : MfI w g l k0 m wr' :=
  ⟨fun j hj => range_kept (h.1 j hj) (hb.block g hg), fun j hj => there_kept (h.2.1 j hj) (hb.block g hg), h.2.2.trans ((grown_below hb))⟩
theorem MfI.set {w wr : World} {g : Nat} {l : List Fl} {k0 m : Nat} (h : MfI w g l k0 m wr) (hm : m < l.length) (o : Nat) (ho : m * 3 ≤ o) (v : Value) : MfI w g l k0 m (wr.setCell ⟨g, o, none⟩ v) :=
  ⟨fun j hj => set_range (h.1 j hj) (by rw [fcs_len]; omega) v, fun j hj => set_there o (h.2.1 j hj) v, by
    have h3 := h.2.2
    rw [rowF_some (by omega)] at h3 ⊢
    exact h3.trans (grown_set wr g o v)⟩

def MfR (w : World) (g : Nat) (l : List Fl) (k0 : Nat) (x i : Value) (wr : World) : Prop := ∃ m : Nat, m ≤ l.length ∧ i = .int .i64 m ∧ x = .int .i64 (k0 + 3 * m : Nat) ∧ Hid (MfI w g l k0 m wr)

set_option maxRecDepth 100000 in
set_option maxHeartbeats 1000000 in
theorem markFileS_any (v : Value) (g : Nat) (l : List Fl) (x : Int) (k0 : Nat) (w : World) (hx : x = (k0 : Int)) (h : RW 3 fcs w v g l) (h0 : 0 < k0) (hk : k0 ≤ 10000000) :
    Calls Tryz.prog 57 #[v, .int .i64 x] w fun e w' => e = .returned (.int .i64 (k0 + 3 * l.length : Nat)) ∧ RW 3 fcs w' v g (fmarks k0 l.length) ∧ w.grownBy w' (rowF g l.length) := by
  subst hx
  obtain ⟨⟨a, cap, rfl, hl, hA, hc⟩, ht⟩ := h
  obtain ⟨n, hn⟩ : ∃ n, l.length = n := ⟨_, rfl⟩
  have HA : Hid (0 < n → a = some ⟨g, 0, none⟩ ∧ g < w.heap.size) := by rw [← hn]; exact hA
  have HST : Hid (MfR w g l k0 (.int .i64 k0) (.int .i64 0) w) := ⟨0, by omega, rfl, rfl, fun j h => by omega, ht, ⟨rfl, rfl, rfl, Nat.le_refl _, fun _ _ _ => rfl⟩⟩
  rw [hn] at hl
  rw [hn]
  clear hA hc ht
  go_enter Tryz.func57, Tryz.ntmps57
  go_wp2
  go_loopw [1, 5] (fun x i wr => MfR w g l k0 x i wr) (fun _ i _ => n - (intOf i).toNat)
  case atStart => exact HST.out
  case round =>
    obtain ⟨m, hm, rfl, rfl, HI⟩ := hrel
    clear HST
    rw [hn] at hm
    by_cases hlt : m < n
    · obtain ⟨ea, hgw⟩ := HA.out (by omega)
      subst ea
      have hgr : g < wr.heap.size := Nat.lt_of_lt_of_le hgw HI.out.2.2.size
      have i1 : (m : Int) < (n : Int) := by omega
      have i2 : (0 : Int) ≤ (m : Int) := by omega
      go_wp2_with fail
      refine (markText_int _ (k0 + 3 * m) _ (by omega) (by omega) (by omega)).mono ?_
      rintro e w1 ⟨rfl, hb1⟩
      have hgr1 : g < w1.heap.size := Nat.lt_of_lt_of_le hgr hb1.size
      have HI1 : Hid (MfI w g l k0 m w1) := HI.out.below hgr hb1
      obtain ⟨⟨o0, x0⟩, ⟨o1, x1⟩, ⟨o2, x2⟩, f0, f1, f2⟩ := there3 (HI1.out.2.1 m (by omega))
      have HI2 : Hid (MfI w g l k0 m (w1.setCell ⟨g, m * 3, none⟩ (.string (markB (k0 + 3 * m)))) ∧ (w1.setCell ⟨g, m * 3, none⟩ (.string (markB (k0 + 3 * m)))).cell? ⟨g, m * 3, none⟩ = some (.string (markB (k0 + 3 * m)))) := ⟨HI1.out.set (by omega) _ (by omega) _, set_here x0 f0 _⟩
      clear HI HI1 hb1
      go_wp2_with fail
      refine (markText_int _ (k0 + 3 * m + 1) _ (by omega) (by omega) (by omega)).mono ?_
      rintro e w2 ⟨rfl, hb2⟩
      have hgr2' : g < (w1.setCell ⟨g, m * 3, none⟩ (.string (markB (k0 + 3 * m)))).heap.size := by simpa using hgr1
      have hgr2 : g < w2.heap.size := Nat.lt_of_lt_of_le hgr2' hb2.size
      have HI3 : Hid (MfI w g l k0 m w2 ∧ w2.cell? ⟨g, m * 3, none⟩ = some (.string (markB (k0 + 3 * m)))) := ⟨HI2.out.1.below hgr2' hb2, (hb2.cell (p := ⟨g, m * 3, none⟩) hgr2').trans HI2.out.2⟩
      clear HI2 hb2 x0 x1 x2 f0 f1 f2 o0 o1 o2
      obtain ⟨⟨o0, x0⟩, ⟨o1, x1⟩, ⟨o2, x2⟩, f0, f1, f2⟩ := there3 (HI3.out.1.2.1 m (by omega))
      have HI5 : Hid (MfI w g l k0 (m + 1) ((w2.setCell ⟨g, m * 3 + 1, none⟩ (.string (markB (k0 + 3 * m + 1)))).setCell ⟨g, m * 3 + 2, none⟩ (.int .i64 (k0 + 3 * m + 2 : Nat)))) := by
        have h4 := (HI3.out.1.set (by omega) (m * 3 + 1) (by omega) (.string (markB (k0 + 3 * m + 1)))).set (by omega) (m * 3 + 2) (by omega) (.int .i64 (k0 + 3 * m + 2 : Nat))
        refine ⟨fun j hj => ?_, h4.2⟩
        rcases Nat.lt_or_ge j m with h5 | h5
        · exact h4.1 j h5
        · have : j = m := by omega
          subst this
          refine range3 ?_ ?_ ?_
          · rw [set_else (by omega), set_else (by omega)]; exact HI3.out.2
          · rw [set_else (by omega)]; exact set_here x1 f1 _
          · refine set_here (u := o2) ?_ ?_ _
            · rw [set_else (by omega)]; exact x2
            · rw [World.frozen?_setCell]; exact f2
      clear HI3 hgr2' hgr1 hgr
      generalize markB (k0 + 3 * m) = K0 at *
      generalize markB (k0 + 3 * m + 1) = K1 at *
      go_wp2
      go_roundw
      case rel => exact ⟨m + 1, by omega, by go_num, by go_num, HI5⟩
      case measure => simp [intOf]; omega
    · have hme : m = n := by omega
      have HF : Hid (RW 3 fcs wr (.slice a n cap) g (fmarks k0 n) ∧ w.grownBy wr (rowF g n)) := by
        obtain ⟨h1, h2, h3⟩ := HI.out
        rw [hn] at h3
        refine ⟨⟨⟨a, cap, by rw [fmarks_len], by rw [fmarks_len]; omega, fun hp => ?_, fun j hj => ?_⟩, fun j hj => ?_⟩, h3⟩
        · rw [fmarks_len] at hp
          exact ⟨(HA.out hp).1, Nat.lt_of_lt_of_le (HA.out hp).2 h3.size⟩
        · rw [fmarks_at, Nat.zero_add]
          rw [fmarks_len] at hj
          exact h1 j (by omega)
        · rw [fmarks_len] at hj
          exact h2 j (by omega)
      subst hme
      clear HI HA
      go_wp2
      go_ret
      exact ⟨rfl, HF.out.1, HF.out.2⟩

def HfR (k0 n : Nat) (w : World) (x i : Value) (wr : World) : Prop := ∃ m : Nat, m ≤ n ∧ i = .int .i64 m ∧ x = .int .i64 (k0 + 3 * m : Nat) ∧ Below w.heap.size w wr

set_option maxRecDepth 100000 in
set_option maxHeartbeats 1000000 in
theorem heldFileS_any (v : Value) (g : Nat) (x : Int) (k0 n : Nat) (w : World) (hx : x = (k0 : Int)) (h : RS 3 fcs w v g 0 (fmarks k0 n)) (h0 : 0 < k0) (hk : k0 ≤ 10000000) :
    Calls Tryz.prog 108 #[v, .int .i64 x] w fun e w' => e = .returned (.int .i64 (k0 + 3 * n : Nat)) ∧ Below w.heap.size w w' := by
  subst hx
  have HV : Hid (RS 3 fcs w v g 0 (fmarks k0 n)) := h
  obtain ⟨a, cap, rfl, hl, hA, hc⟩ := h
  rw [fmarks_len] at *
  have HA : Hid (0 < n → a = some ⟨g, 0, none⟩) := fun h => (hA h).1
  clear hA hc
  go_enter Tryz.func108, Tryz.ntmps108
  go_wp2
  go_loopw [1, 5] (fun x i wr => HfR k0 n w x i wr) (fun _ i _ => n - (intOf i).toNat)
  case atStart => exact ⟨0, by omega, rfl, rfl, Below.refl _ _⟩
  case round =>
    obtain ⟨m, hm, rfl, rfl, hbel⟩ := hrel
    by_cases hlt : m < n
    · have ea := HA.out (by omega)
      subst ea
      obtain ⟨c0, c1, c2⟩ := (HV.out.later hbel).file m (by rw [fmarks_len]; exact hlt)
      rw [fmarks_at] at c0 c1 c2
      simp only [fmk, Nat.zero_add] at c0 c1 c2
      have hg6 : g < wr.heap.size := lt_of_cell c0
      have i1 : (m : Int) < (n : Int) := by omega
      have i2 : (0 : Int) ≤ (m : Int) := by omega
      have HM0 : Hid (∀ W, Calls Tryz.prog 107 #[.int .i64 ((k0 + 3 * m : Nat) : Int)] W fun e w' => e = .returned (.string (markB (k0 + 3 * m))) ∧ Below W.heap.size W w') := fun W => markText_int _ _ W rfl (by omega) (by omega)
      have HM1 : Hid (∀ W, Calls Tryz.prog 107 #[.int .i64 ((k0 + 3 * m + 1 : Nat) : Int)] W fun e w' => e = .returned (.string (markB (k0 + 3 * m + 1))) ∧ Below W.heap.size W w') := fun W => markText_int _ _ W rfl (by omega) (by omega)
      generalize markB (k0 + 3 * m) = K0 at *
      generalize markB (k0 + 3 * m + 1) = K1 at *
      clear HV HA
      go_wp2
      have kq0 := cell_regrown (w := wr) c0
      have cq0 := fun d os => Calls.regrown_of (w := wr) (d := d) (os := os) (HM0.out _)
      refine wp_region_quiet_below (by kernel_rfl) (by kernel_rfl) ?_
      repeat (go_big_quiet_step (first | exact cq0 _ _))
      refine wpQuiet_nil ?_
      rintro _ ⟨⟨dq, osq⟩, rfl⟩
      have hb6 := below_regrown (wr) dq osq
      generalize grow (redrawn (wr) dq) osq = w6 at *
      clear kq0 cq0
      have c1' : w6.cell? ⟨g, m * 3 + 1, none⟩ = some (.string K1) := (hb6.cell (p := ⟨g, m * 3 + 1, none⟩) hg6).trans c1
      have c2' : w6.cell? ⟨g, m * 3 + 2, none⟩ = some (.int .i64 ((k0 + 3 * m + 2 : Nat) : Int)) := (hb6.cell (p := ⟨g, m * 3 + 2, none⟩) hg6).trans c2
      have hg7 : g < w6.heap.size := Nat.lt_of_lt_of_le hg6 hb6.size
      clear c0 c1 c2
      have c1 := c1'
      clear c1'
      go_wp2
      have kq0 := cell_regrown (w := w6) c1
      have cq0 := fun d os => Calls.regrown_of (w := w6) (d := d) (os := os) (HM1.out _)
      refine wp_region_quiet_below (by kernel_rfl) (by kernel_rfl) ?_
      repeat (go_big_quiet_step (first | exact cq0 _ _))
      refine wpQuiet_nil ?_
      rintro _ ⟨⟨dq, osq⟩, rfl⟩
      have hb7 := below_regrown (w6) dq osq
      generalize grow (redrawn (w6) dq) osq = w7 at *
      clear kq0 cq0
      have c2 : w7.cell? ⟨g, m * 3 + 2, none⟩ = some (.int .i64 ((k0 + 3 * m + 2 : Nat) : Int)) := (hb7.cell (p := ⟨g, m * 3 + 2, none⟩) hg7).trans c2'
      clear c2' c1
      have hb8 := hbel.trans ((hb6.trans (hb7.mono hb6.size)).mono hbel.size)
      go_wp2
      go_roundw
      case rel => exact ⟨m + 1, by omega, by go_num, by go_num, hb8⟩
      case measure => simp [intOf]; omega
    · have hme : m = n := by omega
      subst hme
      clear HV HA
      go_wp2
      go_ret
      exact ⟨rfl, hbel⟩

end Go.Proofs.YtklpanjedolkdaaGreatDoor
/-
  What the laws' own helpers write into a row of leaves, and find there again.
-/
namespace Go.Proofs.YtklpanjedolkdaaGreatDoor
open Go.RowKit Go.BigFrame Go.Sort
set_option linter.unusedVariables false
set_option linter.unusedSimpArgs false

def lmk (k0 j : Nat) : Le := ⟨markB (k0 + 2 * j), markB (k0 + 2 * j + 1)⟩
def lmarks (k0 n : Nat) : List Le := (List.range n).map (lmk k0)
theorem lmarks_len (k0 n : Nat) : (lmarks k0 n).length = n := by simp [lmarks]
theorem lmarks_at (k0 n j : Nat) (h : j < (lmarks k0 n).length) : (lmarks k0 n)[j] = lmk k0 j := by simp [lmarks]

/-- the first m leaves bear marks, and all may be written -/
def MlI (w : World) (g : Nat) (l : List Le) (k0 m : Nat) (wr : World) : Prop := (∀ j, j < m → wr.rangeAt g (j * 2) (lcs (lmk k0 j))) ∧ (∀ j, j < l.length → wr.there g (j * 2) 2) ∧ w.grownBy wr (rowF g l.length)
theorem MlI.below {w wr wr' : World} {g : Nat} {l : List Le} {k0 m : Nat} (h : MlI w g l k0 m wr) (hg : g < wr.heap.size) (hb : Below wr.heap.size wr wr') : MlI w g l k0 m wr' :=
  ⟨fun j hj => range_kept (h.1 j hj) (hb.block g hg), fun j hj => there_kept (h.2.1 j hj) (hb.block g hg), h.2.2.trans ((grown_below hb))⟩
theorem MlI.set {w wr : World} {g : Nat} {l : List Le} {k0 m : Nat} (h : MlI w g l k0 m wr) (hm : m < l.length) (o : Nat) (ho : m * 2 ≤ o) (v : Value) : MlI w g l k0 m (wr.setCell ⟨g, o, none⟩ v) :=
  ⟨fun j hj => set_range (h.1 j hj) (by rw [lcs_len]; omega) v, fun j hj => set_there o (h.2.1 j hj) v, by
    have h3 := h.2.2
    rw [rowF_some (by omega)] at h3 ⊢
    exact h3.trans (grown_set wr g o v)⟩

def MlR (w : World) (g : Nat) (l : List Le) (k0 : Nat) (x i : Value) (wr : World) : Prop := ∃ m : Nat, m ≤ l.length ∧ i = .int .i64 m ∧ x = .int .i64 (k0 + 2 * m : Nat) ∧ Hid (MlI w g l k0 m wr)

set_option maxRecDepth 100000 in
set_option maxHeartbeats 1000000 in
theorem markLeafS_any (v : Value) (g : Nat) (l : List Le) (x : Int) (k0 : Nat) (w : World) (hx : x = (k0 : Int)) (h : RW 2 lcs w v g l) (h0 : 0 < k0) (hk : k0 ≤ 10000000) :
    Calls Tryz.prog 70 #[v, .int .i64 x] w fun e w' => e = .returned (.int .i64 (k0 + 2 * l.length : Nat)) ∧ RW 2 lcs w' v g (lmarks k0 l.length) ∧ w.grownBy w' (rowF g l.length) := by
  subst hx
  obtain ⟨⟨a, cap, rfl, hl, hA, hc⟩, ht⟩ := h
  obtain ⟨n, hn⟩ : ∃ n, l.length = n := ⟨_, rfl⟩
  have HA : Hid (0 < n → a = some ⟨g, 0, none⟩ ∧ g < w.heap.size) := by rw [← hn]; exact hA
  have HST : Hid (MlR w g l k0 (.int .i64 k0) (.int .i64 0) w) := ⟨0, by omega, rfl, rfl, fun j h => by omega, ht, ⟨rfl, rfl, rfl, Nat.le_refl _, fun _ _ _ => rfl⟩⟩
  rw [hn] at hl
  rw [hn]
  clear hA hc ht
  go_enter Tryz.func70, Tryz.ntmps70
  go_wp2
  go_loopw [1, 5] (fun x i wr => MlR w g l k0 x i wr) (fun _ i _ => n - (intOf i).toNat)
  case atStart => exact HST.out
  case round =>
    obtain ⟨m, hm, rfl, rfl, HI⟩ := hrel
    clear HST
    rw [hn] at hm
    by_cases hlt : m < n
    · obtain ⟨ea, hgw⟩ := HA.out (by omega)
      subst ea
      have hgr : g < wr.heap.size := Nat.lt_of_lt_of_le hgw HI.out.2.2.size
      have i1 : (m : Int) < (n : Int) := by omega
      have i2 : (0 : Int) ≤ (m : Int) := by omega
      go_wp2_with fail
      refine (markText_int _ (k0 + 2 * m) _ (by omega) (by omega) (by omega)).mono ?_
      rintro e w1 ⟨rfl, hb1⟩
      have hgr1 : g < w1.heap.size := Nat.lt_of_lt_of_le hgr hb1.size
      have HI1 : Hid (MlI w g l k0 m w1) := HI.out.below hgr hb1
      obtain ⟨⟨o0, x0⟩, ⟨o1, x1⟩, f0, f1⟩ := there2 (HI1.out.2.1 m (by omega))
      have HI2 : Hid (MlI w g l k0 m (w1.setCell ⟨g, m * 2, none⟩ (.string (markB (k0 + 2 * m)))) ∧ (w1.setCell ⟨g, m * 2, none⟩ (.string (markB (k0 + 2 * m)))).cell? ⟨g, m * 2, none⟩ = some (.string (markB (k0 + 2 * m)))) := ⟨HI1.out.set (by omega) _ (by omega) _, set_here x0 f0 _⟩
      clear HI HI1 hb1
      go_wp2_with fail
      refine (markText_int _ (k0 + 2 * m + 1) _ (by omega) (by omega) (by omega)).mono ?_
      rintro e w2 ⟨rfl, hb2⟩
      have hgr2' : g < (w1.setCell ⟨g, m * 2, none⟩ (.string (markB (k0 + 2 * m)))).heap.size := by simpa using hgr1
      have hgr2 : g < w2.heap.size := Nat.lt_of_lt_of_le hgr2' hb2.size
      have HI3 : Hid (MlI w g l k0 m w2 ∧ w2.cell? ⟨g, m * 2, none⟩ = some (.string (markB (k0 + 2 * m)))) := ⟨HI2.out.1.below hgr2' hb2, (hb2.cell (p := ⟨g, m * 2, none⟩) hgr2').trans HI2.out.2⟩
      clear HI2 hb2 x0 x1 f0 f1 o0 o1
      obtain ⟨⟨o0, x0⟩, ⟨o1, x1⟩, f0, f1⟩ := there2 (HI3.out.1.2.1 m (by omega))
      have HI5 : Hid (MlI w g l k0 (m + 1) (w2.setCell ⟨g, m * 2 + 1, none⟩ (.string (markB (k0 + 2 * m + 1))))) := by
        have h4 := HI3.out.1.set (by omega) (m * 2 + 1) (by omega) (.string (markB (k0 + 2 * m + 1)))
        refine ⟨fun j hj => ?_, h4.2⟩
        rcases Nat.lt_or_ge j m with h5 | h5
        · exact h4.1 j h5
        · have : j = m := by omega
          subst this
          refine range2 ?_ ?_
          · rw [set_else (by omega)]; exact HI3.out.2
          · exact set_here x1 f1 _
      clear HI3 hgr2' hgr1 hgr
      generalize markB (k0 + 2 * m) = K0 at *
      generalize markB (k0 + 2 * m + 1) = K1 at *
      go_wp2
      go_roundw
      case rel => exact ⟨m + 1, by omega, by go_num, by go_num, HI5⟩
      case measure => simp [intOf]; omega
    · have hme : m = n := by omega
      have HF : Hid (RW 2 lcs wr (.slice a n cap) g (lmarks k0 n) ∧ w.grownBy wr (rowF g n)) := by
        obtain ⟨h1, h2, h3⟩ := HI.out
        rw [hn] at h3
        refine ⟨⟨⟨a, cap, by rw [lmarks_len], by rw [lmarks_len]; omega, fun hp => ?_, fun j hj => ?_⟩, fun j hj => ?_⟩, h3⟩
        · rw [lmarks_len] at hp
          exact ⟨(HA.out hp).1, Nat.lt_of_lt_of_le (HA.out hp).2 h3.size⟩
        · rw [lmarks_at, Nat.zero_add]
          rw [lmarks_len] at hj
          exact h1 j (by omega)
        · rw [lmarks_len] at hj
          exact h2 j (by omega)
      subst hme
      clear HI HA
      go_wp2
      go_ret
      exact ⟨rfl, HF.out.1, HF.out.2⟩

def HlR (k0 n : Nat) (w : World) (x i : Value) (wr : World) : Prop := ∃ m : Nat, m ≤ n ∧ i = .int .i64 m ∧ x = .int .i64 (k0 + 2 * m : Nat) ∧ Below w.heap.size w wr

set_option maxRecDepth 100000 in
set_option maxHeartbeats 1000000 in
theorem heldLeafS_any (v : Value) (g : Nat) (x : Int) (k0 n : Nat) (w : World) (hx : x = (k0 : Int)) (h : RS 2 lcs w v g 0 (lmarks k0 n)) (h0 : 0 < k0) (hk : k0 ≤ 10000000) :
    Calls Tryz.prog 72 #[v, .int .i64 x] w fun e w' => e = .returned (.int .i64 (k0 + 2 * n : Nat)) ∧ Below w.heap.size w w' := by
  subst hx
  have HV : Hid (RS 2 lcs w v g 0 (lmarks k0 n)) := h
  obtain ⟨a, cap, rfl, hl, hA, hc⟩ := h
  rw [lmarks_len] at *
  have HA : Hid (0 < n → a = some ⟨g, 0, none⟩) := fun h => (hA h).1
  clear hA hc
  go_enter Tryz.func72, Tryz.ntmps72
  go_wp2
  go_loopw [1, 5] (fun x i wr => HlR k0 n w x i wr) (fun _ i _ => n - (intOf i).toNat)
  case atStart => exact ⟨0, by omega, rfl, rfl, Below.refl _ _⟩
  case round =>
    obtain ⟨m, hm, rfl, rfl, hbel⟩ := hrel
    by_cases hlt : m < n
    · have ea := HA.out (by omega)
      subst ea
      obtain ⟨c0, c1⟩ := (HV.out.later hbel).leaf m (by rw [lmarks_len]; exact hlt)
      rw [lmarks_at] at c0 c1
      simp only [lmk, Nat.zero_add] at c0 c1
      have hg6 : g < wr.heap.size := lt_of_cell c0
      have i1 : (m : Int) < (n : Int) := by omega
      have i2 : (0 : Int) ≤ (m : Int) := by omega
      have HM0 : Hid (∀ W, Calls Tryz.prog 107 #[.int .i64 ((k0 + 2 * m : Nat) : Int)] W fun e w' => e = .returned (.string (markB (k0 + 2 * m))) ∧ Below W.heap.size W w') := fun W => markText_int _ _ W rfl (by omega) (by omega)
      have HM1 : Hid (∀ W, Calls Tryz.prog 107 #[.int .i64 ((k0 + 2 * m + 1 : Nat) : Int)] W fun e w' => e = .returned (.string (markB (k0 + 2 * m + 1))) ∧ Below W.heap.size W w') := fun W => markText_int _ _ W rfl (by omega) (by omega)
      generalize markB (k0 + 2 * m) = K0 at *
      generalize markB (k0 + 2 * m + 1) = K1 at *
      clear HV HA
      go_wp2
      have kq0 := cell_regrown (w := wr) c0
      have cq0 := fun d os => Calls.regrown_of (w := wr) (d := d) (os := os) (HM0.out _)
      refine wp_region_quiet_below (by kernel_rfl) (by kernel_rfl) ?_
      repeat (go_big_quiet_step (first | exact cq0 _ _))
      refine wpQuiet_nil ?_
      rintro _ ⟨⟨dq, osq⟩, rfl⟩
      have hb6 := below_regrown (wr) dq osq
      generalize grow (redrawn (wr) dq) osq = w6 at *
      clear kq0 cq0
      have c1' : w6.cell? ⟨g, m * 2 + 1, none⟩ = some (.string K1) := (hb6.cell (p := ⟨g, m * 2 + 1, none⟩) hg6).trans c1
      clear c0 c1
      have c1 := c1'
      clear c1'
      go_wp2
      have kq0 := cell_regrown (w := w6) c1
      have cq0 := fun d os => Calls.regrown_of (w := w6) (d := d) (os := os) (HM1.out _)
      refine wp_region_quiet_below (by kernel_rfl) (by kernel_rfl) ?_
      repeat (go_big_quiet_step (first | exact cq0 _ _))
      refine wpQuiet_nil ?_
      rintro _ ⟨⟨dq, osq⟩, rfl⟩
      have hb7 := below_regrown (w6) dq osq
      generalize grow (redrawn (w6) dq) osq = w7 at *
      clear kq0 cq0 c1
      have hb8 := hbel.trans ((hb6.trans (hb7.mono hb6.size)).mono hbel.size)
      go_wp2
      go_roundw
      case rel => exact ⟨m + 1, by omega, by go_num, by go_num, hb8⟩
      case measure => simp [intOf]; omega
    · have hme : m = n := by omega
      subst hme
      clear HV HA
      go_wp2
      go_ret
      exact ⟨rfl, hbel⟩

end Go.Proofs.YtklpanjedolkdaaGreatDoor
