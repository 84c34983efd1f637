/-
  A head, and rows of heads, that a law is handed: counted, copied, compared.
-/
import Derived.Test.YtlpbfafcaleifaaDoorHa
namespace Go.Proofs.YtlpbfafcaleifaaDoor
open Go.RowKit Go.BigFrame Go.Sort
set_option linter.unusedVariables false
set_option linter.unusedSimpArgs false


/-- a head in cells of any box -/
def RB (W : World) (g : Nat) (x : Hd) : Prop := W.rangeAt g 0 (hcs x) ∧ g < W.heap.size
theorem RB.new (w : World) (x : Hd) (T : Nat) : RB (w.alloc (.cells #[.int .i64 x.h, .int .i64 x.e, .string x.r, .string x.p] T)) w.heap.size x := ⟨range_new w (hcs x) T, by simp⟩
theorem RB.later {W W' : World} {g : Nat} {x : Hd} (h : RB W g x) (hb : Below W.heap.size W W') : RB W' g x := ⟨range_kept h.1 (hb.block g h.2), Nat.lt_of_lt_of_le h.2 hb.size⟩
theorem RB.grown {W W' : World} {g : Nat} {x : Hd} {row : Option Nat} (h : RB W g x) (hg : W.grownBy W' row) (hne : some g ≠ row) : RB W' g x := ⟨range_kept h.1 (hg.block g h.2 hne), Nat.lt_of_lt_of_le h.2 hg.size⟩
theorem RB.c0 {W : World} {g : Nat} {x : Hd} (h : RB W g x) : W.cell? ⟨g, 0, none⟩ = some (.int .i64 x.h) := h.1 0 _ rfl
theorem RB.c1 {W : World} {g : Nat} {x : Hd} (h : RB W g x) : W.cell? ⟨g, 1, none⟩ = some (.int .i64 x.e) := h.1 1 _ rfl
theorem RB.c2 {W : World} {g : Nat} {x : Hd} (h : RB W g x) : W.cell? ⟨g, 2, none⟩ = some (.string x.r) := h.1 2 _ rfl
theorem RB.c3 {W : World} {g : Nat} {x : Hd} (h : RB W g x) : W.cell? ⟨g, 3, none⟩ = some (.string x.p) := h.1 3 _ rfl

set_option maxRecDepth 100000 in
set_option maxHeartbeats 400000 in
theorem toHead_any (a : Hd) (w : World) : Calls Tryd.prog 26 #[.agg #[.int .i64 a.h, .int .i64 a.e, .string a.r, .string a.p]] w fun e w' => e = .returned (.agg #[.int .i64 a.h, .int .i64 a.e, .string a.r, .string a.p]) ∧ Below w.heap.size w w' := by
  obtain ⟨k, y, t, o⟩ := a
  go_enter Tryd.func26, Tryd.ntmps26
  go_wp2
  refine ret_rec 2 (w.heap.size + 1) 33 [.int .i64 k, .int .i64 y, .string t, .string o] _ rfl rfl rfl Tryd.underlying33 rfl sizeHead ?_ ?_
  · exact World.rangeAt_alloc (range_at (by simp) (range_new _ [.int .i64 k, .int .i64 y, .string t, .string o] _)) _
  · exact ⟨rfl, (((Below.refl _ _).alloc (Nat.le_refl _) _).alloc (by simp) _).alloc (by simp; omega) _⟩

set_option maxHeartbeats 400000 in
theorem szHead_any (a : Hd) (x : Int) (w : World) (h0 : 0 ≤ x) (h1 : x ≤ 1048576) (ht : a.r.size ≤ 9223372036854775807) (ho : a.p.size ≤ 9223372036854775807) :
    Calls Tryd.prog 25 #[.agg #[.int .i64 a.h, .int .i64 a.e, .string a.r, .string a.p], .int .i64 x] w fun e w' => ∃ A : Int, e = .returned (.int .i64 A) ∧ Below w.heap.size w w' ∧ A ≤ x ∧ (0 ≤ A → a.r.size ≤ 1048576 ∧ a.p.size ≤ 1048576) := by
  obtain ⟨k, y, t, o⟩ := a
  simp only at ht ho ⊢
  have HB : Hid (Below w.heap.size w (w.alloc (.cells #[.int .i64 k, .int .i64 y, .string t, .string o] 44))) := (Below.refl _ _).alloc (Nat.le_refl _) _
  by_cases h3 : x - (t.size : Int) < 0
  · go_enter Tryd.func25, Tryd.ntmps25
    go_wp2
    go_ret
    exact ⟨_, rfl, HB.out, by omega, fun h => by omega⟩
  · by_cases h4 : x - (t.size : Int) - (o.size : Int) < 0
    · go_enter Tryd.func25, Tryd.ntmps25
      go_wp2
      go_ret
      exact ⟨_, rfl, HB.out, by omega, fun h => by omega⟩
    · go_enter Tryd.func25, Tryd.ntmps25
      go_wp2
      go_ret
      exact ⟨_, rfl, HB.out, by omega, fun h => ⟨by omega, by omega⟩⟩

theorem Tryd.infoHead : (Tryd.prog.info? 33).map (fun i => (i.zero, i.size, i.bytes)) = some (some (.agg #[.int .i64 0, .int .i64 0, .string ByteArray.empty, .string ByteArray.empty]), 4, 48) := by kernel_rfl
theorem there_new4h {W : World} {cs : Array Value} {T n : Nat} (h : cs.size = n * 4) (j : Nat) (hj : j < n) : (W.alloc (.cells cs T)).there W.heap.size (j * 4) 4 := by
  intro i hi
  have hg := Go.heap_alloc_new W (.cells cs T)
  refine ⟨?_, by unfold World.frozen?; simp only [hg]; simp⟩
  rw [cell_of_row _ W.heap.size (j * 4 + i) cs T (0, 0) hg, Array.getElem?_eq_getElem (by omega)]
  rfl
theorem made_heads (n : Nat) (h : n ≤ 1100000) (W : World) : ∃ w', (Instr.makeSlice 24 (.int .i64 (n : Int)) (.int .i64 (n : Int))).run Tryd.prog W = .ok (.slice (some ⟨W.heap.size, 0, none⟩) n n) w' ∧ (∀ j, j < n → w'.there W.heap.size (j * 4) 4) ∧ Below W.heap.size W w' ∧ w'.heap.size = W.heap.size + 1 := by
  obtain ⟨i0, hi, hz0, hz1, hz2⟩ := info_parts Tryd.infoHead
  have h1 := run_make (P := Tryd.prog) W 24 33 i0 _ Tryd.underlying24 hi hz0 .i64 .i64 (n : Int) (n : Int) (by omega) (by omega) (by rw [hz2]; omega) (by omega)
  refine ⟨_, by simpa using h1, fun j hj => there_new4h ?_ j hj, (Below.refl _ _).alloc (Nat.le_refl _) _, by simp⟩
  rw [size_madeCells, hz1]

/-- the first m records of a new row are written -/
def ToH (w : World) (l : List Hd) (B g : Nat) (i : Value) (wr : World) : Prop := ∃ m : Nat, m ≤ l.length ∧ i = .int .i64 m ∧ (∀ j (h : j < l.length), j < m → wr.rangeAt g (j * 4) (hcs l[j])) ∧ (∀ j, j < l.length → wr.there g (j * 4) 4) ∧ Below B w wr
theorem ToH.set {w wr : World} {l : List Hd} {g m B : Nat} (hm : m < l.length) (hB : B ≤ g) (h1 : ∀ j (h : j < l.length), j < m → wr.rangeAt g (j * 4) (hcs l[j])) (h2 : ∀ j, j < l.length → wr.there g (j * 4) 4) (h3 : Below B w wr) :
    (∀ j (h : j < l.length), j < m + 1 → (wr.setCells g (m * 4) (hcs l[m])).rangeAt g (j * 4) (hcs l[j])) ∧ (∀ j, j < l.length → (wr.setCells g (m * 4) (hcs l[m])).there g (j * 4) 4) ∧ Below B w (wr.setCells g (m * 4) (hcs l[m])) := by
  refine ⟨fun j hj hlt => ?_, fun j hj => World.there_setCells (h2 j hj) _ _ _, ?_⟩
  · rcases Nat.lt_or_ge j m with h4 | h4
    · exact World.rangeAt_setCells_apart (h1 j hj h4) _ _ _ (.inr (.inl (by rw [hcs_len]; omega)))
    · have : j = m := by omega
      subst this
      exact World.rangeAt_setCells_same _ _ _ _ (h2 j hj)
  · exact below_setCells hB _ _ _ h3

set_option maxRecDepth 100000 in
set_option maxHeartbeats 400000 in
theorem toHeadS_any (v : Value) (ga oa : Nat) (l : List Hd) (w : World) (hv : RS 4 hcs w v ga oa l) :
    Calls Tryd.prog 29 #[v] w fun e w' => ∃ g, e = .returned (.slice (some ⟨g, 0, none⟩) l.length l.length) ∧ w.heap.size ≤ g ∧ RW 4 hcs w' (.slice (some ⟨g, 0, none⟩) l.length l.length) g l ∧ g < w'.heap.size ∧ Below w.heap.size w w' := by
  have HV : Hid (RS 4 hcs w v ga oa l) := hv
  obtain ⟨a, cap, rfl, hl, hA, hc⟩ := hv
  obtain ⟨n, hn⟩ : ∃ n, l.length = n := ⟨_, rfl⟩
  obtain ⟨w2, hmk, hib, hb2, hs2⟩ := made_heads n (by omega) w
  have HST : Hid (ToH w l w.heap.size w.heap.size (.int .i64 0) w2 ∧ w.heap.size < w2.heap.size) := ⟨⟨0, by omega, rfl, fun j _ h => by omega, by rw [hn]; exact hib, hb2⟩, by omega⟩
  have HA : Hid (0 < n → a = some ⟨ga, oa, none⟩) := by rw [← hn]; exact fun h => (hA h).1
  rw [hn] at hl ⊢
  clear hib hb2 hs2 hA hc
  go_enter Tryd.func29, Tryd.ntmps29
  go_wp2
  clear hmk
  go_loopw [4] (fun i wr => ToH w l w.heap.size w.heap.size i wr ∧ w.heap.size < wr.heap.size) (fun i _ => n - (intOf i).toNat)
  case atStart => exact HST.out
  case round =>
    obtain ⟨⟨m, hm, rfl, h1, h2, hbel⟩, hws⟩ := hrel
    have HI : Hid ((∀ j (h : j < l.length), j < m → wr.rangeAt w.heap.size (j * 4) (hcs l[j])) ∧ (∀ j, j < l.length → wr.there w.heap.size (j * 4) 4) ∧ Below w.heap.size w wr) := ⟨h1, h2, hbel⟩
    clear HST h1 h2 hbel
    rw [hn] at hm
    by_cases hlt : m < n
    · have ea := HA.out (by omega)
      subst ea
      obtain ⟨c0, c1, c2, c3⟩ := (HV.out.later HI.out.2.2).head m (by omega)
      obtain ⟨X, hX⟩ : ∃ X, l[m]'(by omega) = X := ⟨_, rfl⟩
      rw [hX] at c0 c1 c2 c3
      have HX : Hid (l[m]'(by omega) = X) := hX
      have i1 : (m : Int) < (n : Int) := by omega
      have i2 : (0 : Int) ≤ (m : Int) := by omega
      clear hX HV HA
      go_wp2_with fail
      refine (toHead_any X _).mono ?_
      rintro e w1 ⟨rfl, hb1⟩
      have HJ : Hid ((∀ j (h : j < l.length), j < m + 1 → (w1.setCells w.heap.size (m * 4) (hcs X)).rangeAt w.heap.size (j * 4) (hcs l[j])) ∧ (∀ j, j < l.length → (w1.setCells w.heap.size (m * 4) (hcs X)).there w.heap.size (j * 4) 4) ∧ Below w.heap.size w (w1.setCells w.heap.size (m * 4) (hcs X))) := by
        have h := ToH.set (w := w) (wr := w1) (l := l) (g := w.heap.size) (m := m) (B := w.heap.size) (by omega) (Nat.le_refl _) (fun j hj h => range_kept (HI.out.1 j hj h) (hb1.block _ hws)) (fun j hj => there_kept (HI.out.2.1 j hj) (hb1.block _ hws)) (HI.out.2.2.trans (hb1.mono HI.out.2.2.size))
        rw [HX.out] at h
        exact h
      have HT : Hid (w1.there w.heap.size (m * 4) 4) := there_kept (HI.out.2.1 m (by omega)) (hb1.block _ hws)
      have hws1 : w.heap.size < (w1.setCells w.heap.size (m * 4) (hcs X)).heap.size := by rw [size_setCells]; exact Nat.lt_of_lt_of_le hws hb1.size
      clear hb1 HI c0 c1 c2 c3
      obtain ⟨⟨o0, x0⟩, ⟨o1, x1⟩, ⟨o2, x2⟩, ⟨o3, x3⟩, f0, f1, f2, f3⟩ := there4h HT.out
      go_wp2
      go_roundw
      case rel => exact ⟨⟨m + 1, by omega, by go_num, HJ.out⟩, hws1⟩
      case measure => simp [intOf]; omega
    · have hme : m = n := by omega
      subst hme
      clear HV HA
      go_wp2
      go_ret
      refine ⟨w.heap.size, rfl, Nat.le_refl _, ⟨⟨_, _, by rw [hn], by omega, fun _ => ⟨rfl, hws⟩, fun j hj => ?_⟩, HI.out.2.1⟩, hws, HI.out.2.2⟩
      rw [Nat.zero_add]
      exact HI.out.1 j hj (by omega)

theorem eqHead_yes (f : Hd) (w : World) : Calls Tryd.prog 30 #[.agg #[.int .i64 f.h, .int .i64 f.e, .string f.r, .string f.p], .agg #[.int .i64 f.h, .int .i64 f.e, .string f.r, .string f.p]] w fun e w' => e = .returned (.bool true) ∧ Below w.heap.size w w' := by
  obtain ⟨k, x, t, o⟩ := f
  have hb : Below w.heap.size w ((w.alloc (.cells #[.int .i64 k, .int .i64 x, .string t, .string o] 33)).alloc (.cells #[.int .i64 k, .int .i64 x, .string t, .string o] 33)) := ((Below.refl _ _).alloc (Nat.le_refl _) _).alloc (by simp) _
  go_enter Tryd.func30, Tryd.ntmps30
  go_wp2
  go_ret
  exact ⟨rfl, hb⟩

def EhR (n : Nat) (w : World) (i : Value) (wr : World) : Prop := ∃ m : Nat, m ≤ n ∧ i = .int .i64 m ∧ Below w.heap.size w wr

set_option maxRecDepth 100000 in
set_option maxHeartbeats 400000 in
theorem eqHeadS_yes (u v : Value) (ga oa gb ob : Nat) (l : List Hd) (w : World) (hu : RS 4 hcs w u ga oa l) (hv : RS 4 hcs w v gb ob l) :
    Calls Tryd.prog 31 #[u, v] w fun e w' => e = .returned (.bool true) ∧ Below w.heap.size w w' := by
  have HU : Hid (RS 4 hcs w u ga oa l) := hu
  have HV : Hid (RS 4 hcs w v gb ob l) := hv
  obtain ⟨a, cap, rfl, hl, hA, _⟩ := hu
  obtain ⟨b, cap2, rfl, _, hB, _⟩ := hv
  obtain ⟨n, hn⟩ : ∃ n, l.length = n := ⟨_, rfl⟩
  have HA : Hid (0 < n → a = some ⟨ga, oa, none⟩ ∧ b = some ⟨gb, ob, none⟩) := by rw [← hn]; exact fun h => ⟨(hA h).1, (hB h).1⟩
  rw [hn] at hl ⊢
  clear hA hB
  go_enter Tryd.func31, Tryd.ntmps31
  go_wp2
  go_loopw [5] (fun i wr => EhR n w i wr) (fun i _ => n - (intOf i).toNat)
  case atStart => exact ⟨0, by omega, rfl, Below.refl _ _⟩
  case round =>
    obtain ⟨m, hm, rfl, hbel⟩ := hrel
    by_cases hlt : m < n
    · obtain ⟨ea, eb⟩ := HA.out (by omega)
      subst ea
      subst eb
      obtain ⟨c0, c1, c2, c3⟩ := (HU.out.later hbel).head m (by omega)
      obtain ⟨e0, e1, e2, e3⟩ := (HV.out.later hbel).head m (by omega)
      generalize l[m]'(by omega) = X at *
      have i1 : (m : Int) < (n : Int) := by omega
      have i2 : (0 : Int) ≤ (m : Int) := by omega
      clear HU HV HA
      go_wp2
      have kq0 := cell_regrown (w := wr) c0
      have kq1 := cell_regrown (w := wr) c1
      have kq2 := cell_regrown (w := wr) c2
      have kq3 := cell_regrown (w := wr) c3
      have kq4 := cell_regrown (w := wr) e0
      have kq5 := cell_regrown (w := wr) e1
      have kq6 := cell_regrown (w := wr) e2
      have kq7 := cell_regrown (w := wr) e3
      have cq0 := fun d os => Calls.regrown_of (w := wr) (d := d) (os := os) (eqHead_yes X _)
      refine wp_region_quiet_below (by kernel_rfl) (by kernel_rfl) ?_
      repeat (go_big_quiet_step (first | exact cq0 _ _))
      refine wpQuiet_nil ?_
      rintro _ ⟨⟨dq, osq⟩, rfl⟩
      have hb6 := below_regrown (wr) dq osq
      generalize grow (redrawn (wr) dq) osq = w6 at *
      clear kq0 kq1 kq2 kq3 kq4 kq5 kq6 kq7 cq0
      go_wp2
      go_roundw
      case rel => exact ⟨m + 1, by omega, by go_num, hbel.trans (hb6.mono hbel.size)⟩
      case measure => simp [intOf]; omega
    · have hme : m = n := by omega
      subst hme
      clear HU HV HA
      go_wp2
      go_ret
      exact ⟨rfl, hbel⟩

/-- a row of heads that was handed in, great or small: if it is small, it is l -/
def IsRowH (w : World) (v : Value) (g o : Nat) (l : List Hd) : Prop := ∃ a n cap, v = .slice a n cap ∧ n ≤ 9223372036854775807 ∧ (n ≤ 1100000 → l.length = n ∧ RS 4 hcs w v g o l ∧ ∀ f ∈ l, f.r.size ≤ 9223372036854775807 ∧ f.p.size ≤ 9223372036854775807)
theorem IsRowH.later {w w' : World} {v : Value} {g o : Nat} {l : List Hd} (h : IsRowH w v g o l) (hb : Below w.heap.size w w') : IsRowH w' v g o l := by
  obtain ⟨a, n, cap, hv, hn, hr⟩ := h
  exact ⟨a, n, cap, hv, hn, fun hl => ⟨(hr hl).1, (hr hl).2.1.later hb, (hr hl).2.2⟩⟩
def SmallH1 (a : Hd) : Prop := a.r.size ≤ 1048576 ∧ a.p.size ≤ 1048576
/-- no text of it is great -/
def SmallHs (l : List Hd) : Prop := ∀ f ∈ l, SmallH1 f

def SzH (l : List Hd) (x0 : Int) (w : World) (x i : Value) (wr : World) : Prop := ∃ (m : Nat) (y : Int), m ≤ l.length ∧ i = .int .i64 m ∧ x = .int .i64 y ∧ 0 ≤ y ∧ y ≤ x0 ∧ Hid (∀ j (h : j < l.length), j < m → SmallH1 l[j]) ∧ Below w.heap.size w wr

set_option maxRecDepth 100000 in
set_option maxHeartbeats 400000 in
theorem szHeadS_row (v : Value) (g o : Nat) (l : List Hd) (x : Int) (w : World) (hv : IsRowH w v g o l) (h0 : 0 ≤ x) (h1 : x ≤ 1048576) :
    Calls Tryd.prog 27 #[v, .int .i64 x] w fun e w' => ∃ A : Int, e = .returned (.int .i64 A) ∧ Below w.heap.size w w' ∧ A ≤ x ∧ (0 ≤ A → RS 4 hcs w v g o l ∧ SmallHs l ∧ l.length ≤ 1048576) := by
  obtain ⟨a, n, cap, rfl, hn, hr⟩ := hv
  by_cases hbig : x < (n : Int)
  · have q : x - (n : Int) < 0 := by omega
    go_enter Tryd.func27, Tryd.ntmps27
    go_wp2
    go_ret
    exact ⟨_, rfl, Below.refl _ _, by omega, fun h => by omega⟩
  obtain ⟨hln, hrs, hsz⟩ := hr (by omega)
  have HRS : Hid (RS 4 hcs w (.slice a n cap) g o l) := hrs
  have HSZ : Hid (∀ f ∈ l, f.r.size ≤ 9223372036854775807 ∧ f.p.size ≤ 9223372036854775807) := hsz
  have HLN : Hid (l.length = n) := hln
  obtain ⟨a', c', ev, _, hA, _⟩ := hrs
  have HA : Hid (0 < n → a = some ⟨g, o, none⟩) := fun h => by
    have := (hA (by omega)).1
    simp at ev
    rw [ev.1, this]
  clear hr hA hsz ev
  have q : ¬ x - (n : Int) < 0 := by omega
  go_enter Tryd.func27, Tryd.ntmps27
  go_wp2
  go_loopw [1, 5] (fun y i wr => SzH l (x - (n : Int)) w y i wr) (fun _ i _ => n - (intOf i).toNat)
  case atStart => exact ⟨0, x - (n : Int), by omega, rfl, by go_num, by omega, by omega, fun j _ h => by omega, Below.refl _ _⟩
  case round =>
    obtain ⟨m, y, hm, rfl, rfl, hy0, hy1, HJ, hbel⟩ := hrel
    by_cases hlt : m < n
    · have ea := HA.out (by omega)
      subst ea
      obtain ⟨c0, c1, c2, c3⟩ := (HRS.out.later hbel).head m (by omega)
      obtain ⟨X, hX⟩ : ∃ X, l[m]'(by omega) = X := ⟨_, rfl⟩
      rw [hX] at c0 c1 c2 c3
      have hxs := HSZ.out X (by rw [← hX]; exact List.getElem_mem _)
      have HX : Hid (l[m]'(by omega) = X) := hX
      have i1 : (m : Int) < (n : Int) := by omega
      have i2 : (0 : Int) ≤ (m : Int) := by omega
      clear hX HSZ HA HRS
      go_wp2_with fail
      refine (szHead_any X y _ hy0 (by omega) hxs.1 hxs.2).mono ?_
      rintro e w1 ⟨A, rfl, hb1, hA1, hA2⟩
      have hbel1 := hbel.trans (hb1.mono hbel.size)
      have HA2 : Hid (0 ≤ A → SmallH1 X) := hA2
      clear hb1 hA2 c0 c1 c2 c3 hbel hxs
      by_cases hneg : A < 0
      · clear HJ HX HA2
        go_wp2
        try rw [Exit.noGoto_ret]
        go_ret
        exact ⟨_, rfl, hbel1, by omega, fun h => by omega⟩
      · go_wp2
        go_roundw
        case rel =>
          refine ⟨m + 1, A, by omega, by go_num, rfl, by omega, by omega, ?_, hbel1⟩
          intro j hj hjl
          rcases Nat.lt_or_ge j m with h3 | h3
          · exact HJ.out j hj h3
          · have : j = m := by omega
            subst this
            rw [HX.out]
            exact HA2.out (by omega)
        case measure => simp [intOf]; omega
    · have hme : m = n := by omega
      have HF : Hid (RS 4 hcs w (.slice a n cap) g o l ∧ SmallHs l ∧ l.length ≤ 1048576) := ⟨HRS.out, fun f hf => by
        obtain ⟨j, hj, rfl⟩ := List.getElem_of_mem hf
        exact HJ.out j hj (by omega), by omega⟩
      subst hme
      clear HJ HA HRS HSZ
      go_wp2
      go_ret
      exact ⟨_, rfl, hbel, by omega, fun _ => HF.out⟩

end Go.Proofs.YtlpbfafcaleifaaDoor
