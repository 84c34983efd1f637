/-
  Texts laid together: Fw, Nam, Mathb.
-/
import Derived.Test.YtklpanjedolkdaaGreatDoorPkELS1
import Derived.Deep.QuietTactic
import Derived.BigQuiet
import Derived.Test.YtklpanjedolkdaaGreatDoorPkELS0
/-
  What the laws' own helpers do with files and disks: taken over, compared, weighed.
-/
namespace Go.Proofs.YtklpanjedolkdaaGreatDoor
open Go.RowKit Go.BigFrame Go.Sort
set_option linter.unusedVariables false
set_option linter.unusedSimpArgs false

section
variable {fn : Func} {Rp : Ending → World → Prop} {a : Act} {w : World}
/-- a record answered out of its block -/
theorem ret_rec (c g T : Nat) (cs : List Value) (d : TypeDesc) (hres : fn.results = #[.cell c T]) (hd : a.defers = []) (hp : a.tmps.getD c undef = .pointer (some ⟨g, 0, none⟩))
    (hu : Tryz.prog.underlying T = some d) (hrow : d.isRow = true) (hi : (Tryz.prog.info? T).map (·.size) = some cs.length) (hA : w.rangeAt g 0 cs) (h : Rp (.returned (.agg cs.toArray)) w) : bodyPost Tryz.prog fn Rp .ret a w := by
  have hr := run_loadVar_mid (P := Tryz.prog) w g 0 T cs d hA hu hrow hi
  refine bodyPost_ret (v := .agg cs.toArray) ?_ hd h
  have hp' : a.tmps[c]?.getD undef = .pointer (some ⟨g, 0, none⟩) := by simpa using hp
  simp [results, hres, asAddr, hr, hp']
/-- .. and something beside it -/
theorem ret_rec2 (c s g T : Nat) (cs : List Value) (b : Value) (d : TypeDesc) (hres : fn.results = #[.cell c T, .tmp s]) (hd : a.defers = []) (hp : a.tmps.getD c undef = .pointer (some ⟨g, 0, none⟩)) (hb : a.tmps.getD s undef = b)
    (hu : Tryz.prog.underlying T = some d) (hrow : d.isRow = true) (hi : (Tryz.prog.info? T).map (·.size) = some cs.length) (hA : w.rangeAt g 0 cs) (h : Rp (.returned (.tuple #[.agg cs.toArray, b])) w) : bodyPost Tryz.prog fn Rp .ret a w := by
  have hr := run_loadVar_mid (P := Tryz.prog) w g 0 T cs d hA hu hrow hi
  refine bodyPost_ret (v := .tuple #[.agg cs.toArray, b]) ?_ hd h
  have hp' : a.tmps[c]?.getD undef = .pointer (some ⟨g, 0, none⟩) := by simpa using hp
  have hb' : a.tmps[s]?.getD undef = b := by simpa using hb
  simp [results, hres, asAddr, hr, hp', hb']
end

theorem range1 {w : World} {g o : Nat} {u : Value} (h : w.cell? ⟨g, o, none⟩ = some u) : w.rangeAt g o [u] := fun j v hv => by
  match j, hv with
  | 0, hv => simp at hv; subst hv; exact h
theorem range3 {w : World} {g o : Nat} {u1 u2 u3 : Value} (h1 : w.cell? ⟨g, o, none⟩ = some u1) (h2 : w.cell? ⟨g, o + 1, none⟩ = some u2) (h3 : w.cell? ⟨g, o + 2, none⟩ = some u3) : w.rangeAt g o [u1, u2, u3] := fun j v hv => by
  match j, hv with
  | 0, hv => simp at hv; subst hv; exact h1
  | 1, hv => simp at hv; subst hv; exact h2
  | 2, hv => simp at hv; subst hv; exact h3
theorem range_new (W : World) (cs : List Value) (T : Nat) : (W.alloc (.cells cs.toArray T)).rangeAt W.heap.size 0 cs := fun j v hv => by
  rw [cell_of_row _ W.heap.size (0 + j) cs.toArray T (0, 0) (Go.heap_alloc_new W _), Nat.zero_add]
  simpa using hv
theorem range_at {W : World} {g g' o : Nat} {cs : List Value} (e : g = g') (h : W.rangeAt g o cs) : W.rangeAt g' o cs := e ▸ h
theorem size_setCells (b : Nat) : ∀ (vs : List Value) (o : Nat) (w : World), (w.setCells b o vs).heap.size = w.heap.size
  | [], _, _ => rfl
  | v :: r, o, w => by
    rw [World.setCells, size_setCells b r]
    simp
theorem below_setCells {B b : Nat} {w0 : World} (hB : B ≤ b) : ∀ (vs : List Value) (o : Nat) (w : World), Below B w0 w → Below B w0 (w.setCells b o vs)
  | [], _, _, h => h
  | v :: r, o, w, h => below_setCells hB r (o + 1) _ (h.setCell (p := ⟨b, o, none⟩) hB v)
theorem there3 {w : World} {g o : Nat} (h : w.there g o 3) : (∃ u, w.cell? ⟨g, o, none⟩ = some u) ∧ (∃ u, w.cell? ⟨g, o + 1, none⟩ = some u) ∧ (∃ u, w.cell? ⟨g, o + 2, none⟩ = some u) ∧ w.frozen? ⟨g, o, none⟩ = false ∧ w.frozen? ⟨g, o + 1, none⟩ = false ∧ w.frozen? ⟨g, o + 2, none⟩ = false :=
  ⟨Option.isSome_iff_exists.1 (h 0 (by omega)).1, Option.isSome_iff_exists.1 (h 1 (by omega)).1, Option.isSome_iff_exists.1 (h 2 (by omega)).1, (h 0 (by omega)).2, (h 1 (by omega)).2, (h 2 (by omega)).2⟩
theorem grown_setC (w : World) (g j : Nat) (v : Value) : w.grownBy (w.setCell ⟨g, j, none⟩ v) (some g) :=
  ⟨rfl, rfl, rfl, by simp, fun i _ hi => RowKit.Below.heap_setCell _ _ _ _ (fun e => hi (by rw [e]))⟩
theorem alloc_fst (w : World) (o : Obj) {g : Nat} (h : g = w.heap.size) : (w.alloc o).heap[g]? = some o := h ▸ Go.heap_alloc_new w o
theorem alloc_snd (w : World) (o1 o2 : Obj) {g : Nat} (h : g = w.heap.size) : ((w.alloc o1).alloc o2).heap[g]? = some o1 := (Below.heap_alloc _ _ g (by simp; omega)).trans (alloc_fst w o1 h)
theorem cell_set_same {w : World} {g j : Nat} {cs : Array Value} {T : Nat} (h : w.heap[g]? = some (.cells cs T (0, 0))) (hj : j < cs.size) (v : Value) : (w.setCell ⟨g, j, none⟩ v).cell? ⟨g, j, none⟩ = some v := by
  rw [cell_of_row _ g j _ T (0, 0) (heap_setCell_same w g j _ _ _ h)]
  simp [hj]
theorem sizeFile : (Tryz.prog.info? 130).map (·.size) = some 3 := by kernel_rfl
theorem sizeDisk : (Tryz.prog.info? 36).map (·.size) = some 1 := by kernel_rfl

set_option maxRecDepth 100000 in
set_option maxHeartbeats 400000 in
theorem toFile_any (f : Fl) (w : World) : Calls Tryz.prog 97 #[.agg #[.string f.n, .string f.t, .int .i64 f.k]] w fun e w' => e = .returned (.agg #[.string f.n, .string f.t, .int .i64 f.k]) ∧ Below w.heap.size w w' := by
  obtain ⟨x, t, k⟩ := f
  go_enter Tryz.func97, Tryz.ntmps97
  go_wp2
  refine ret_rec 2 (w.heap.size + 1) 130 [.string x, .string t, .int .i64 k] _ rfl rfl rfl Tryz.underlying130 rfl sizeFile ?_ ?_
  · exact World.rangeAt_alloc (range_at (by simp) (range_new _ [.string x, .string t, .int .i64 k] _)) _
  · exact ⟨rfl, (((Below.refl _ _).alloc (Nat.le_refl _) _).alloc (by simp) _).alloc (by simp; omega) _⟩


theorem Tryz.infoFile : (Tryz.prog.info? 130).map (fun i => (i.zero, i.size, i.bytes)) = some (some (.agg #[.string ByteArray.empty, .string ByteArray.empty, .int .i64 0]), 3, 40) := by kernel_rfl
theorem there_new {W : World} {cs : Array Value} {T n : Nat} (h : cs.size = n * 3) (j : Nat) (hj : j < n) : (W.alloc (.cells cs T)).there W.heap.size (j * 3) 3 := by
  intro i hi
  have hg := Go.heap_alloc_new W (.cells cs T)
  refine ⟨?_, by unfold World.frozen?; simp only [hg]; simp⟩
  rw [cell_of_row _ W.heap.size (j * 3 + i) cs T (0, 0) hg, Array.getElem?_eq_getElem (by omega)]
  rfl
theorem made_files (n : Nat) (h : n ≤ 1100000) (W : World) : ∃ w', (Instr.makeSlice 34 (.int .i64 (n : Int)) (.int .i64 (n : Int))).run Tryz.prog W = .ok (.slice (some ⟨W.heap.size, 0, none⟩) n n) w' ∧ (∀ j, j < n → w'.there W.heap.size (j * 3) 3) ∧ Below W.heap.size W w' ∧ w'.heap.size = W.heap.size + 1 := by
  obtain ⟨i0, hi, hz0, hz1, hz2⟩ := info_parts Tryz.infoFile
  have h1 := run_make (P := Tryz.prog) W 34 130 i0 _ Tryz.underlying34 hi hz0 .i64 .i64 (n : Int) (n : Int) (by omega) (by omega) (by rw [hz2]; omega) (by omega)
  refine ⟨_, by simpa using h1, fun j hj => there_new ?_ j hj, (Below.refl _ _).alloc (Nat.le_refl _) _, by simp⟩
  rw [size_madeCells, hz1]

/-- the first m records of a new row are written -/
def ToF (w : World) (l : List Fl) (B g : Nat) (i : Value) (wr : World) : Prop := ∃ m : Nat, m ≤ l.length ∧ i = .int .i64 m ∧ (∀ j (h : j < l.length), j < m → wr.rangeAt g (j * 3) (fcs l[j])) ∧ (∀ j, j < l.length → wr.there g (j * 3) 3) ∧ Below B w wr
theorem ToF.set {w wr : World} {l : List Fl} {g m B : Nat} (hm : m < l.length) (hB : B ≤ g) (h1 : ∀ j (h : j < l.length), j < m → wr.rangeAt g (j * 3) (fcs l[j])) (h2 : ∀ j, j < l.length → wr.there g (j * 3) 3) (h3 : Below B w wr) :
    (∀ j (h : j < l.length), j < m + 1 → (wr.setCells g (m * 3) (fcs l[m])).rangeAt g (j * 3) (fcs l[j])) ∧ (∀ j, j < l.length → (wr.setCells g (m * 3) (fcs l[m])).there g (j * 3) 3) ∧ Below B w (wr.setCells g (m * 3) (fcs l[m])) := by
  refine ⟨fun j hj hlt => ?_, fun j hj => World.there_setCells (h2 j hj) _ _ _, ?_⟩
  · rcases Nat.lt_or_ge j m with h4 | h4
    · exact World.rangeAt_setCells_apart (h1 j hj h4) _ _ _ (.inr (.inl (by rw [fcs_len]; omega)))
    · have : j = m := by omega
      subst this
      exact World.rangeAt_setCells_same _ _ _ _ (h2 j hj)
  · exact below_setCells hB _ _ _ h3

set_option maxRecDepth 100000 in
set_option maxHeartbeats 400000 in
theorem toFileS_any (v : Value) (ga oa : Nat) (l : List Fl) (w : World) (hv : RS 3 fcs w v ga oa l) :
    Calls Tryz.prog 51 #[v] w fun e w' => ∃ g, e = .returned (.slice (some ⟨g, 0, none⟩) l.length l.length) ∧ w.heap.size ≤ g ∧ RW 3 fcs w' (.slice (some ⟨g, 0, none⟩) l.length l.length) g l ∧ g < w'.heap.size ∧ Below w.heap.size w w' := by
  have HV : Hid (RS 3 fcs w v ga oa l) := hv
  obtain ⟨a, cap, rfl, hl, hA, hc⟩ := hv
  obtain ⟨n, hn⟩ : ∃ n, l.length = n := ⟨_, rfl⟩
  obtain ⟨w2, hmk, hib, hb2, hs2⟩ := made_files n (by omega) w
  have HST : Hid (ToF w l w.heap.size w.heap.size (.int .i64 0) w2 ∧ w.heap.size < w2.heap.size) := ⟨⟨0, by omega, rfl, fun j _ h => by omega, by rw [hn]; exact hib, hb2⟩, by omega⟩
  have HA : Hid (0 < n → a = some ⟨ga, oa, none⟩) := by rw [← hn]; exact fun h => (hA h).1
  rw [hn] at hl ⊢
  clear hib hb2 hs2 hA hc
  go_enter Tryz.func51, Tryz.ntmps51
  go_wp2
  clear hmk
  go_loopw [4] (fun i wr => ToF w l w.heap.size w.heap.size i wr ∧ w.heap.size < wr.heap.size) (fun i _ => n - (intOf i).toNat)
  case atStart => exact HST.out
  case round =>
    obtain ⟨⟨m, hm, rfl, h1, h2, hbel⟩, hws⟩ := hrel
    have HI : Hid ((∀ j (h : j < l.length), j < m → wr.rangeAt w.heap.size (j * 3) (fcs l[j])) ∧ (∀ j, j < l.length → wr.there w.heap.size (j * 3) 3) ∧ Below w.heap.size w wr) := ⟨h1, h2, hbel⟩
    clear HST h1 h2 hbel
    rw [hn] at hm
    by_cases hlt : m < n
    · have ea := HA.out (by omega)
      subst ea
      obtain ⟨c0, c1, c2⟩ := (HV.out.later HI.out.2.2).file m (by omega)
      obtain ⟨X, hX⟩ : ∃ X, l[m]'(by omega) = X := ⟨_, rfl⟩
      rw [hX] at c0 c1 c2
      have HX : Hid (l[m]'(by omega) = X) := hX
      have i1 : (m : Int) < (n : Int) := by omega
      have i2 : (0 : Int) ≤ (m : Int) := by omega
      clear hX HV HA
      go_wp2_with fail
      refine (toFile_any X _).mono ?_
      rintro e w1 ⟨rfl, hb1⟩
      have HJ : Hid ((∀ j (h : j < l.length), j < m + 1 → (w1.setCells w.heap.size (m * 3) (fcs X)).rangeAt w.heap.size (j * 3) (fcs l[j])) ∧ (∀ j, j < l.length → (w1.setCells w.heap.size (m * 3) (fcs X)).there w.heap.size (j * 3) 3) ∧ Below w.heap.size w (w1.setCells w.heap.size (m * 3) (fcs X))) := by
        have h := ToF.set (w := w) (wr := w1) (l := l) (g := w.heap.size) (m := m) (B := w.heap.size) (by omega) (Nat.le_refl _) (fun j hj h => range_kept (HI.out.1 j hj h) (hb1.block _ hws)) (fun j hj => there_kept (HI.out.2.1 j hj) (hb1.block _ hws)) (HI.out.2.2.trans (hb1.mono HI.out.2.2.size))
        rw [HX.out] at h
        exact h
      have HT : Hid (w1.there w.heap.size (m * 3) 3) := there_kept (HI.out.2.1 m (by omega)) (hb1.block _ hws)
      have hws1 : w.heap.size < (w1.setCells w.heap.size (m * 3) (fcs X)).heap.size := by rw [size_setCells]; exact Nat.lt_of_lt_of_le hws hb1.size
      clear hb1 HI c0 c1 c2
      obtain ⟨⟨o0, x0⟩, ⟨o1, x1⟩, ⟨o2, x2⟩, f0, f1, f2⟩ := there3 HT.out
      go_wp2
      go_roundw
      case rel => exact ⟨⟨m + 1, by omega, by go_num, HJ.out⟩, hws1⟩
      case measure => simp [intOf]; omega
    · have hme : m = n := by omega
      subst hme
      clear HV HA
      go_wp2
      go_ret
      refine ⟨w.heap.size, rfl, Nat.le_refl _, ⟨⟨_, _, by rw [hn], by omega, fun _ => ⟨rfl, hws⟩, fun j hj => ?_⟩, HI.out.2.1⟩, hws, HI.out.2.2⟩
      rw [Nat.zero_add]
      exact HI.out.1 j hj (by omega)

theorem eqFile_yes (f : Fl) (w : World) : Calls Tryz.prog 106 #[.agg #[.string f.n, .string f.t, .int .i64 f.k], .agg #[.string f.n, .string f.t, .int .i64 f.k]] w fun e w' => e = .returned (.bool true) ∧ Below w.heap.size w w' := by
  obtain ⟨x, t, k⟩ := f
  have hb : Below w.heap.size w ((w.alloc (.cells #[.string x, .string t, .int .i64 k] 130)).alloc (.cells #[.string x, .string t, .int .i64 k] 130)) := ((Below.refl _ _).alloc (Nat.le_refl _) _).alloc (by simp) _
  go_enter Tryz.func106, Tryz.ntmps106
  go_wp2
  go_ret
  exact ⟨rfl, hb⟩


/-- a disk answered: its row may be written, and lies in blocks from B on -/
def DkIn (w : World) (B : Nat) (v : Value) (l : List Fl) : Prop := ∃ s g, v = .agg #[s] ∧ RW 3 fcs w s g l ∧ B ≤ g

set_option maxRecDepth 100000 in
set_option maxHeartbeats 400000 in
theorem toDisk_any (v : Value) (ga oa : Nat) (l : List Fl) (w : World) (hv : RS 3 fcs w v ga oa l) :
    Calls Tryz.prog 15 #[.agg #[v]] w fun e w' => ∃ u, e = .returned u ∧ DkIn w' w.heap.size u l ∧ Below w.heap.size w w' := by
  have hb0 : Below w.heap.size w (((w.alloc (.cells #[v] 24)).alloc (.cells #[.slice none 0 0] 36)).alloc (.cells #[.slice none 0 0] 36)) := (((Below.refl _ _).alloc (Nat.le_refl _) _).alloc (by simp) _).alloc (by simp; omega) _
  have HC := toFileS_any v ga oa l _ (hv.later hb0)
  obtain ⟨a, cap, rfl⟩ := hv.shape
  have hg1 : (((w.alloc (.cells #[.slice a l.length cap] 24)).alloc (.cells #[.slice none 0 0] 36)).alloc (.cells #[.slice none 0 0] 36)).heap[w.heap.size + 1]? = some (.cells #[.slice none 0 0] 36 (0, 0)) := alloc_snd _ _ _ (by simp)
  have hg2 : (((w.alloc (.cells #[.slice a l.length cap] 24)).alloc (.cells #[.slice none 0 0] 36)).alloc (.cells #[.slice none 0 0] 36)).heap[w.heap.size + 2]? = some (.cells #[.slice none 0 0] 36 (0, 0)) := alloc_fst _ _ (by simp)
  have HG : Hid (Below w.heap.size w (((w.alloc (.cells #[.slice a l.length cap] 24)).alloc (.cells #[.slice none 0 0] 36)).alloc (.cells #[.slice none 0 0] 36)) ∧ (((w.alloc (.cells #[.slice a l.length cap] 24)).alloc (.cells #[.slice none 0 0] 36)).alloc (.cells #[.slice none 0 0] 36)).heap[w.heap.size + 1]? = some (.cells #[.slice none 0 0] 36 (0, 0)) ∧ (((w.alloc (.cells #[.slice a l.length cap] 24)).alloc (.cells #[.slice none 0 0] 36)).alloc (.cells #[.slice none 0 0] 36)).heap[w.heap.size + 2]? = some (.cells #[.slice none 0 0] 36 (0, 0))) := ⟨hb0, hg1, hg2⟩
  clear hb0 hg1 hg2 hv
  go_enter Tryz.func15, Tryz.ntmps15
  go_wp2_with fail
  refine HC.mono ?_
  rintro e w1 ⟨g, rfl, hg, hrw, hgl, hb⟩
  have hsz : (((w.alloc (.cells #[.slice a l.length cap] 24)).alloc (.cells #[.slice none 0 0] 36)).alloc (.cells #[.slice none 0 0] 36)).heap.size = w.heap.size + 3 := by simp
  rw [hsz] at hg
  have h1 : w1.heap[w.heap.size + 1]? = some (.cells #[.slice none 0 0] 36 (0, 0)) := (hb.block _ (by rw [hsz]; omega)).trans HG.out.2.1
  have h2 : w1.heap[w.heap.size + 2]? = some (.cells #[.slice none 0 0] 36 (0, 0)) := (hb.block _ (by rw [hsz]; omega)).trans HG.out.2.2
  have c1 : w1.cell? ⟨w.heap.size + 1, 0, none⟩ = some (.slice none 0 0) := by rw [cell_of_row _ _ 0 _ _ _ h1]; rfl
  have c2 : w1.cell? ⟨w.heap.size + 2, 0, none⟩ = some (.slice none 0 0) := by rw [cell_of_row _ _ 0 _ _ _ h2]; rfl
  have f1 : w1.frozen? ⟨w.heap.size + 1, 0, none⟩ = false := by simp [World.frozen?, h1]
  have f2 : w1.frozen? ⟨w.heap.size + 2, 0, none⟩ = false := by simp [World.frozen?, h2]
  have hb1 := HG.out.1.trans (hb.mono (by rw [hsz]; omega))
  have hr2 := (hrw.grown (grown_setC w1 (w.heap.size + 2) 0 (.slice (some ⟨g, 0, none⟩) l.length l.length)) (fun _ => by simp; omega)).grown (grown_setC _ (w.heap.size + 1) 0 (.slice (some ⟨g, 0, none⟩) l.length l.length)) (fun _ => by simp; omega)
  have HR : Hid (RW 3 fcs ((w1.setCell ⟨w.heap.size + 2, 0, none⟩ (.slice (some ⟨g, 0, none⟩) l.length l.length)).setCell ⟨w.heap.size + 1, 0, none⟩ (.slice (some ⟨g, 0, none⟩) l.length l.length)) (.slice (some ⟨g, 0, none⟩) l.length l.length) g l ∧ Below w.heap.size w ((w1.setCell ⟨w.heap.size + 2, 0, none⟩ (.slice (some ⟨g, 0, none⟩) l.length l.length)).setCell ⟨w.heap.size + 1, 0, none⟩ (.slice (some ⟨g, 0, none⟩) l.length l.length))) := ⟨hr2, (hb1.setCell (p := ⟨w.heap.size + 2, 0, none⟩) (by simp) _).setCell (p := ⟨w.heap.size + 1, 0, none⟩) (by simp) _⟩
  have HCS : Hid (((w1.setCell ⟨w.heap.size + 2, 0, none⟩ (.slice (some ⟨g, 0, none⟩) l.length l.length)).setCell ⟨w.heap.size + 1, 0, none⟩ (.slice (some ⟨g, 0, none⟩) l.length l.length)).cell? ⟨w.heap.size + 1, 0, none⟩ = some (.slice (some ⟨g, 0, none⟩) l.length l.length)) := cell_set_same (((grown_setC w1 (w.heap.size + 2) 0 _).block _ (Array.getElem?_eq_some_iff.1 h1).1 (by simp)).trans h1) (by simp) _
  clear hr2 hrw hb HC HG hb1 hsz
  go_wp2
  refine ret_rec 2 (w.heap.size + 1) 36 [.slice (some ⟨g, 0, none⟩) l.length l.length] _ rfl rfl rfl Tryz.underlying36 rfl sizeDisk (range1 HCS.out) ?_
  exact ⟨_, rfl, ⟨_, g, rfl, HR.out.1, by omega⟩, HR.out.2⟩

def EfR (n : Nat) (w : World) (i : Value) (wr : World) : Prop := ∃ m : Nat, m ≤ n ∧ i = .int .i64 m ∧ Below w.heap.size w wr

set_option maxRecDepth 100000 in
set_option maxHeartbeats 400000 in
theorem eqFileS_yes (u v : Value) (ga oa gb ob : Nat) (l : List Fl) (w : World) (hu : RS 3 fcs w u ga oa l) (hv : RS 3 fcs w v gb ob l) :
    Calls Tryz.prog 56 #[u, v] w fun e w' => e = .returned (.bool true) ∧ Below w.heap.size w w' := by
  have HU : Hid (RS 3 fcs w u ga oa l) := hu
  have HV : Hid (RS 3 fcs w v gb ob l) := hv
  obtain ⟨a, cap, rfl, hl, hA, _⟩ := hu
  obtain ⟨b, cap2, rfl, _, hB, _⟩ := hv
  obtain ⟨n, hn⟩ : ∃ n, l.length = n := ⟨_, rfl⟩
  have HA : Hid (0 < n → a = some ⟨ga, oa, none⟩ ∧ b = some ⟨gb, ob, none⟩) := by rw [← hn]; exact fun h => ⟨(hA h).1, (hB h).1⟩
  rw [hn] at hl ⊢
  clear hA hB
  go_enter Tryz.func56, Tryz.ntmps56
  go_wp2
  go_loopw [5] (fun i wr => EfR n w i wr) (fun i _ => n - (intOf i).toNat)
  case atStart => exact ⟨0, by omega, rfl, Below.refl _ _⟩
  case round =>
    obtain ⟨m, hm, rfl, hbel⟩ := hrel
    by_cases hlt : m < n
    · obtain ⟨ea, eb⟩ := HA.out (by omega)
      subst ea
      subst eb
      obtain ⟨c0, c1, c2⟩ := (HU.out.later hbel).file m (by omega)
      obtain ⟨e0, e1, e2⟩ := (HV.out.later hbel).file m (by omega)
      generalize l[m]'(by omega) = X at *
      have i1 : (m : Int) < (n : Int) := by omega
      have i2 : (0 : Int) ≤ (m : Int) := by omega
      clear HU HV HA
      go_wp2
      have kq0 := cell_regrown (w := wr) c0
      have kq1 := cell_regrown (w := wr) c1
      have kq2 := cell_regrown (w := wr) c2
      have kq3 := cell_regrown (w := wr) e0
      have kq4 := cell_regrown (w := wr) e1
      have kq5 := cell_regrown (w := wr) e2
      have cq0 := fun d os => Calls.regrown_of (w := wr) (d := d) (os := os) (eqFile_yes X _)
      refine wp_region_quiet_below (by kernel_rfl) (by kernel_rfl) ?_
      repeat (go_big_quiet_step (first | exact cq0 _ _))
      refine wpQuiet_nil ?_
      rintro _ ⟨⟨dq, osq⟩, rfl⟩
      have hb6 := below_regrown (wr) dq osq
      generalize grow (redrawn (wr) dq) osq = w6 at *
      clear kq0 kq1 kq2 kq3 kq4 kq5 cq0
      go_wp2
      go_roundw
      case rel => exact ⟨m + 1, by omega, by go_num, hbel.trans (hb6.mono hbel.size)⟩
      case measure => simp [intOf]; omega
    · have hme : m = n := by omega
      subst hme
      clear HU HV HA
      go_wp2
      go_ret
      exact ⟨rfl, hbel⟩

theorem eqDisk_yes (u v : Value) (ga oa gb ob : Nat) (l : List Fl) (w : World) (hu : RS 3 fcs w u ga oa l) (hv : RS 3 fcs w v gb ob l) :
    Calls Tryz.prog 17 #[.agg #[u], .agg #[v]] w fun e w' => e = .returned (.bool true) ∧ Below w.heap.size w w' := by
  have hb0 : Below w.heap.size w ((w.alloc (.cells #[u] 36)).alloc (.cells #[v] 36)) := ((Below.refl _ _).alloc (Nat.le_refl _) _).alloc (by simp) _
  have HC := eqFileS_yes u v ga oa gb ob l _ (hu.later hb0) (hv.later hb0)
  obtain ⟨a, cap, rfl⟩ := hu.shape
  obtain ⟨b, cap2, rfl⟩ := hv.shape
  clear hu hv
  go_enter Tryz.func17, Tryz.ntmps17
  go_wp2_with fail
  refine HC.mono ?_
  rintro e w1 ⟨rfl, hb⟩
  have hb1 := hb0.trans (hb.mono hb0.size)
  go_wp2
  go_ret
  exact ⟨rfl, hb1⟩

set_option maxHeartbeats 400000 in
theorem szFile_any (f : Fl) (x : Int) (w : World) (h0 : 0 ≤ x) (h1 : x ≤ 1048576) (hn : f.n.size ≤ 9223372036854775807) (ht : f.t.size ≤ 9223372036854775807) :
    Calls Tryz.prog 87 #[.agg #[.string f.n, .string f.t, .int .i64 f.k], .int .i64 x] w fun e w' => ∃ A : Int, e = .returned (.int .i64 A) ∧ Below w.heap.size w w' ∧ A ≤ x ∧ (0 ≤ A → f.n.size ≤ 1048576 ∧ f.t.size ≤ 1048576) := by
  obtain ⟨y, t, k⟩ := f
  simp only at hn ht ⊢
  have HB : Hid (Below w.heap.size w (w.alloc (.cells #[.string y, .string t, .int .i64 k] 116))) := (Below.refl _ _).alloc (Nat.le_refl _) _
  by_cases h2 : x - (y.size : Int) < 0
  · go_enter Tryz.func87, Tryz.ntmps87
    go_wp2
    go_ret
    exact ⟨_, rfl, HB.out, by omega, fun h => by omega⟩
  · by_cases h3 : x - (y.size : Int) - (t.size : Int) < 0
    · go_enter Tryz.func87, Tryz.ntmps87
      go_wp2
      go_ret
      exact ⟨_, rfl, HB.out, by omega, fun h => by omega⟩
    · go_enter Tryz.func87, Tryz.ntmps87
      go_wp2
      go_ret
      exact ⟨_, rfl, HB.out, by omega, fun h => ⟨by omega, by omega⟩⟩

/-- a row of files that was handed in, great or small: if it is small, it is l -/
def IsRowF (w : World) (v : Value) (g o : Nat) (l : List Fl) : Prop := ∃ a n cap, v = .slice a n cap ∧ n ≤ 9223372036854775807 ∧ (n ≤ 1100000 → l.length = n ∧ RS 3 fcs w v g o l ∧ ∀ f ∈ l, f.n.size ≤ 9223372036854775807 ∧ f.t.size ≤ 9223372036854775807)
theorem IsRowF.later {w w' : World} {v : Value} {g o : Nat} {l : List Fl} (h : IsRowF w v g o l) (hb : Below w.heap.size w w') : IsRowF w' v g o l := by
  obtain ⟨a, n, cap, hv, hn, hr⟩ := h
  exact ⟨a, n, cap, hv, hn, fun hl => ⟨(hr hl).1, (hr hl).2.1.later hb, (hr hl).2.2⟩⟩
/-- no text of it is great -/
def SmallF (l : List Fl) : Prop := ∀ f ∈ l, f.n.size ≤ 1048576 ∧ f.t.size ≤ 1048576

def SzF (l : List Fl) (x0 : Int) (w : World) (x i : Value) (wr : World) : Prop := ∃ (m : Nat) (y : Int), m ≤ l.length ∧ i = .int .i64 m ∧ x = .int .i64 y ∧ 0 ≤ y ∧ y ≤ x0 ∧ Hid (∀ j (h : j < l.length), j < m → l[j].n.size ≤ 1048576 ∧ l[j].t.size ≤ 1048576) ∧ Below w.heap.size w wr

set_option maxRecDepth 100000 in
set_option maxHeartbeats 400000 in
theorem szFileS_row (v : Value) (g o : Nat) (l : List Fl) (x : Int) (w : World) (hv : IsRowF w v g o l) (h0 : 0 ≤ x) (h1 : x ≤ 1048576) :
    Calls Tryz.prog 48 #[v, .int .i64 x] w fun e w' => ∃ A : Int, e = .returned (.int .i64 A) ∧ Below w.heap.size w w' ∧ A ≤ x ∧ (0 ≤ A → RS 3 fcs w v g o l ∧ SmallF l ∧ l.length ≤ 1048576) := by
  obtain ⟨a, n, cap, rfl, hn, hr⟩ := hv
  by_cases hbig : x < (n : Int)
  · have q : x - (n : Int) < 0 := by omega
    go_enter Tryz.func48, Tryz.ntmps48
    go_wp2
    go_ret
    exact ⟨_, rfl, Below.refl _ _, by omega, fun h => by omega⟩
  obtain ⟨hln, hrs, hsz⟩ := hr (by omega)
  have HRS : Hid (RS 3 fcs w (.slice a n cap) g o l) := hrs
  have HSZ : Hid (∀ f ∈ l, f.n.size ≤ 9223372036854775807 ∧ f.t.size ≤ 9223372036854775807) := hsz
  have HLN : Hid (l.length = n) := hln
  obtain ⟨a', c', ev, _, hA, _⟩ := hrs
  have HA : Hid (0 < n → a = some ⟨g, o, none⟩) := fun h => by
    have := (hA (by omega)).1
    simp at ev
    rw [ev.1, this]
  clear hr hA hsz ev
  have q : ¬ x - (n : Int) < 0 := by omega
  go_enter Tryz.func48, Tryz.ntmps48
  go_wp2
  go_loopw [1, 5] (fun y i wr => SzF l (x - (n : Int)) w y i wr) (fun _ i _ => n - (intOf i).toNat)
  case atStart => exact ⟨0, x - (n : Int), by omega, rfl, by go_num, by omega, by omega, fun j _ h => by omega, Below.refl _ _⟩
  case round =>
    obtain ⟨m, y, hm, rfl, rfl, hy0, hy1, HJ, hbel⟩ := hrel
    by_cases hlt : m < n
    · have ea := HA.out (by omega)
      subst ea
      obtain ⟨c0, c1, c2⟩ := (HRS.out.later hbel).file m (by omega)
      obtain ⟨X, hX⟩ : ∃ X, l[m]'(by omega) = X := ⟨_, rfl⟩
      rw [hX] at c0 c1 c2
      have hxs := HSZ.out X (by rw [← hX]; exact List.getElem_mem _)
      have HX : Hid (l[m]'(by omega) = X) := hX
      have i1 : (m : Int) < (n : Int) := by omega
      have i2 : (0 : Int) ≤ (m : Int) := by omega
      clear hX HSZ HA HRS
      go_wp2_with fail
      refine (szFile_any X y _ hy0 (by omega) hxs.1 hxs.2).mono ?_
      rintro e w1 ⟨A, rfl, hb1, hA1, hA2⟩
      have hbel1 := hbel.trans (hb1.mono hbel.size)
      have HA2 : Hid (0 ≤ A → X.n.size ≤ 1048576 ∧ X.t.size ≤ 1048576) := hA2
      clear hb1 hA2 c0 c1 c2 hbel hxs
      by_cases hneg : A < 0
      · clear HJ HX HA2
        go_wp2
        try rw [Exit.noGoto_ret]
        go_ret
        exact ⟨_, rfl, hbel1, by omega, fun h => by omega⟩
      · go_wp2
        go_roundw
        case rel =>
          refine ⟨m + 1, A, by omega, by go_num, rfl, by omega, by omega, ?_, hbel1⟩
          intro j hj hjl
          rcases Nat.lt_or_ge j m with h3 | h3
          · exact HJ.out j hj h3
          · have : j = m := by omega
            subst this
            rw [HX.out]
            exact HA2.out (by omega)
        case measure => simp [intOf]; omega
    · have hme : m = n := by omega
      have HF : Hid (RS 3 fcs w (.slice a n cap) g o l ∧ SmallF l ∧ l.length ≤ 1048576) := ⟨HRS.out, fun f hf => by
        obtain ⟨j, hj, rfl⟩ := List.getElem_of_mem hf
        exact HJ.out j hj (by omega), by omega⟩
      subst hme
      clear HJ HA HRS HSZ
      go_wp2
      go_ret
      exact ⟨_, rfl, hbel, by omega, fun _ => HF.out⟩

theorem szDisk_row (v : Value) (g o : Nat) (l : List Fl) (x : Int) (w : World) (hv : IsRowF w v g o l) (h0 : 0 ≤ x) (h1 : x ≤ 1048576) :
    Calls Tryz.prog 13 #[.agg #[v], .int .i64 x] w fun e w' => ∃ A : Int, e = .returned (.int .i64 A) ∧ Below w.heap.size w w' ∧ A ≤ x ∧ (0 ≤ A → RS 3 fcs w v g o l ∧ SmallF l ∧ l.length ≤ 1048576) := by
  have hb0 : Below w.heap.size w (w.alloc (.cells #[v] 24)) := (Below.refl _ _).alloc (Nat.le_refl _) _
  have HC := szFileS_row v g o l x _ (hv.later hb0) h0 h1
  obtain ⟨a, n, cap, rfl, _, hr⟩ := hv
  have HRR : Hid (n ≤ 1100000 → RS 3 fcs w (.slice a n cap) g o l) := fun h => (hr h).2.1
  clear hr
  go_enter Tryz.func13, Tryz.ntmps13
  go_wp2_with fail
  refine HC.mono ?_
  rintro e w1 ⟨A, rfl, hb1, hA1, hA2⟩
  have hb2 := hb0.trans (hb1.mono hb0.size)
  have HA2 : Hid (0 ≤ A → RS 3 fcs w (.slice a n cap) g o l ∧ SmallF l ∧ l.length ≤ 1048576) := fun h => by
    obtain ⟨h1, h2, h3⟩ := hA2 h
    obtain ⟨a', c', ev, _⟩ := h1
    simp at ev
    exact ⟨HRR.out (by omega), h2, h3⟩
  clear hA2 HC hb1
  by_cases hneg : A < 0
  · go_wp2
    go_ret
    exact ⟨_, rfl, hb2, by omega, fun h => by omega⟩
  · go_wp2
    go_ret
    exact ⟨_, rfl, hb2, by omega, HA2.out⟩

/-- the box of a disk -/
def BD (W : World) (p T : Nat) (v : Value) : Prop := W.heap[p]? = some (.cells #[v] T (0, 0))
theorem BD.cell {W : World} {p T : Nat} {v : Value} (h : BD W p T v) : W.cell? ⟨p, 0, none⟩ = some v := by rw [cell_of_row W p 0 _ _ (0, 0) h]; rfl
theorem BD.lt {W : World} {p T : Nat} {v : Value} (h : BD W p T v) : p < W.heap.size := (Array.getElem?_eq_some_iff.1 h).1
theorem BD.later {W W' : World} {p T : Nat} {v : Value} (h : BD W p T v) (hb : Below W.heap.size W W') : BD W' p T v := by
  have hlt := h.lt
  unfold BD at *
  rw [hb.block p hlt, h]
theorem BD.grown {W W' : World} {p T : Nat} {v : Value} {row : Option Nat} (h : BD W p T v) (hg : W.grownBy W' row) (hne : some p ≠ row) : BD W' p T v := by
  have hlt := h.lt
  unfold BD at *
  rw [hg.block p hlt hne, h]
theorem BD.new (w : World) (T : Nat) (v : Value) : BD (w.alloc (.cells #[v] T)) w.heap.size T v := Go.heap_alloc_new w _
theorem BD.range {W : World} {p T : Nat} {v : Value} (h : BD W p T v) : W.rangeAt p 0 [v] := range1 h.cell
theorem RS.back {α : Type} {k : Nat} {enc : α → List Value} {w : World} {v : Value} {g o : Nat} {l : List α} (x : Obj) (h : RS k enc (w.alloc x) v g o l) (hg : 0 < l.length → g < w.heap.size) : RS k enc w v g o l := by
  obtain ⟨a, c, hv, hl, h0, hc⟩ := h
  exact ⟨a, c, hv, hl, fun hp => ⟨(h0 hp).1, hg hp⟩, fun j hj => range_kept (hc j hj) (Below.heap_alloc _ _ g (hg (by omega))).symm⟩

end Go.Proofs.YtklpanjedolkdaaGreatDoor
/-
  What NameOk, ValueOk and BitOf answer, the program's and the specification's.
-/
namespace Go.Proofs.YtklpanjedolkdaaGreatDoor
open Go.RowKit
set_option linter.unusedVariables false

def nameB (b : UInt8) : Bool := decide ((97 ≤ b.toNat ∧ b.toNat ≤ 122) ∨ (48 ≤ b.toNat ∧ b.toNat ≤ 57) ∨ b.toNat = 64 ∨ b.toNat = 46)
def valB (b : UInt8) : Bool := decide (33 ≤ b.toNat ∧ b.toNat ≤ 126)
/-- one to twelve bytes, each as p wants it -/
def okB (p : UInt8 → Bool) (s : ByteArray) : Bool := decide (1 ≤ s.size ∧ s.size ≤ 12) && s.data.toList.all p

theorem okB_bad (p : UInt8 → Bool) (s : ByteArray) (k : Nat) (h : k < s.size) (hb : p s[k] = false) : okB p s = false := by
  unfold okB
  have : s.data.toList.all p = false := by
    rw [List.all_eq_false]
    exact ⟨s[k], by rw [ByteArray.getElem_eq_getElem_data]; exact Array.getElem_mem_toList .., by simp [hb]⟩
  rw [this, Bool.and_false]
theorem okB_good (p : UInt8 → Bool) (s : ByteArray) (h : ∀ k (h : k < s.size), p s[k] = true) : okB p s = decide (1 ≤ s.size ∧ s.size ≤ 12) := by
  unfold okB
  have : s.data.toList.all p = true := by
    rw [List.all_eq_true]
    intro x hx
    obtain ⟨k, hk, rfl⟩ := List.getElem_of_mem hx
    have hk' : k < s.size := by simpa using hk
    have := h k hk'
    rw [ByteArray.getElem_eq_getElem_data] at this
    simpa using this
  rw [this, Bool.and_true]
theorem okB_len (p : UInt8 → Bool) (s : ByteArray) (h : ¬ (1 ≤ s.size ∧ s.size ≤ 12)) : okB p s = false := by
  unfold okB
  rw [decide_eq_false h, Bool.false_and]

theorem byte_of (b : UInt8) : b.toNat < 46 ∨ b.toNat = 46 ∨ b.toNat = 47 ∨ (48 ≤ b.toNat ∧ b.toNat ≤ 57) ∨ (58 ≤ b.toNat ∧ b.toNat ≤ 63) ∨ b.toNat = 64 ∨ (65 ≤ b.toNat ∧ b.toNat ≤ 96) ∨ (97 ≤ b.toNat ∧ b.toNat ≤ 122) ∨ 123 ≤ b.toNat := by omega

theorem ret_b {a b : Bool} (h : a = b) : Ending.returned (.bool a) = .returned (.bool b) := by rw [h]

set_option maxHeartbeats 400000 in
theorem inNames_any (b : UInt8) (w : World) : Calls Tryz.prog 156 #[.int .u8 b.toNat] w fun e w' => e = .returned (.bool (nameB b)) ∧ w' = w := by
  have hb : b.toNat < 256 := b.toNat_lt
  obtain ⟨R, hR⟩ : ∃ R, nameB b = R := ⟨_, rfl⟩
  rw [hR]
  have HR : Hid (nameB b = R) := hR
  clear hR
  rcases byte_of b with h | h | h | ⟨h, h'⟩ | ⟨h, h'⟩ | h | ⟨h, h'⟩ | ⟨h, h'⟩ | h
  all_goals
    go_enter Tryz.func156, Tryz.ntmps156
    go_wp2
  all_goals
    go_ret
    refine ⟨ret_b ?_, rfl⟩
    have hR := HR.out
    unfold nameB at hR
    rw [← hR, Bool.eq_iff_iff]
    clear hR HR
    simp
    omega

def NmRel (p : UInt8 → Bool) (s : ByteArray) (w : World) (i : Value) (wr : World) : Prop := ∃ k : Nat, k ≤ s.size ∧ i = .int .i64 k ∧ Hid (∀ j (h : j < s.size), j < k → p s[j] = true) ∧ wr = w
theorem NmRel.step {p : UInt8 → Bool} {s : ByteArray} {k : Nat} (hk : k < s.size) (hp : p s[k] = true) (h : ∀ j (h : j < s.size), j < k → p s[j] = true) : Hid (∀ j (h : j < s.size), j < k + 1 → p s[j] = true) := by
  intro j hj hlt
  rcases Nat.lt_or_ge j k with h1 | h1
  · exact h j hj h1
  · have : j = k := by omega
    subst this
    exact hp

theorem not_empty (s : ByteArray) (h : 1 ≤ s.size) : s.toList.isEmpty = false := by
  rw [ByteArray.toList_eq, List.isEmpty_eq_false_iff]
  intro h0
  have : s.data.toList.length = 0 := by rw [h0]; rfl
  have h1 : s.data.toList.length = s.size := Array.length_toList
  omega
theorem is_empty (s : ByteArray) (h : s.size = 0) : s.toList.isEmpty = true := by
  rw [ByteArray.toList_eq, List.isEmpty_iff]
  have h1 : s.data.toList.length = s.size := Array.length_toList
  exact List.length_eq_zero_iff.1 (by omega)

set_option maxRecDepth 100000 in
set_option maxHeartbeats 1000000 in
theorem NameOk_any (s : ByteArray) (w : World) (hs : s.size ≤ 1048576) : Calls Tryz.prog 116 #[.string s] w fun e w' => e = .returned (.bool (okB nameB s)) ∧ w' = w := by
  by_cases h1 : s.size = 0
  · rw [okB_len _ _ (by omega)]
    have hne := is_empty s h1
    go_enter Tryz.func116, Tryz.ntmps116
    go_wp2
    go_ret
    exact ⟨rfl, rfl⟩
  · by_cases h2 : 12 < s.size
    · rw [okB_len _ _ (by omega)]
      have hne := not_empty s (by omega)
      go_enter Tryz.func116, Tryz.ntmps116
      go_wp2
      go_ret
      exact ⟨rfl, rfl⟩
    · have hne := not_empty s (by omega)
      obtain ⟨R, hR⟩ : ∃ R, okB nameB s = R := ⟨_, rfl⟩
      rw [hR]
      have HR : Hid (okB nameB s = R) := hR
      clear hR
      go_enter Tryz.func116, Tryz.ntmps116
      go_wp2
      go_loopw [13] (fun i wr => NmRel nameB s w i wr) (fun i _ => s.size - (intOf i).toNat)
      case atStart => exact ⟨0, by omega, rfl, by intro j _ h; omega, rfl⟩
      case round =>
        obtain ⟨k, hk, rfl, HI, rfl⟩ := hrel
        by_cases hlt : k < s.size
        · have i1 : (k : Int) < (s.size : Int) := by omega
          go_wp2_with fail
          refine (inNames_any s[k] _).mono ?_
          rintro e w1 ⟨rfl, rfl⟩
          cases hp : nameB s[k] with
          | true =>
            have HI2 := NmRel.step hlt hp HI.out
            clear HI
            go_wp2
            go_roundw
            case rel => exact ⟨k + 1, by omega, by go_num, HI2, rfl⟩
            case measure => simp [intOf]; omega
          | false =>
            have hF := okB_bad nameB s k hlt hp
            rw [HR.out] at hF
            subst hF
            go_wp2
            try rw [Exit.noGoto_ret]
            go_ret
            exact ⟨rfl, rfl⟩
        · have hF := okB_good nameB s (fun j hj => HI.out j hj (by omega))
          rw [HR.out, decide_eq_true (by omega)] at hF
          subst hF
          have i1 : ¬ ((k : Int) < (s.size : Int)) := by omega
          clear HI
          go_wp2
          go_ret
          exact ⟨rfl, rfl⟩

set_option maxRecDepth 100000 in
set_option maxHeartbeats 1000000 in
theorem sNameOk_any (s : ByteArray) (w : World) (hs : s.size ≤ 1048576) : Calls Tryz.prog 111 #[.string s] w fun e w' => e = .returned (.bool (okB nameB s)) ∧ w' = w := by
  obtain ⟨R, hR⟩ : ∃ R, okB nameB s = R := ⟨_, rfl⟩
  rw [hR]
  have HR : Hid (okB nameB s = R) := hR
  clear hR
  go_enter Tryz.func111, Tryz.ntmps111
  go_wp2
  go_loopw [3] (fun i wr => NmRel nameB s w i wr) (fun i _ => s.size - (intOf i).toNat)
  case atStart => exact ⟨0, by omega, rfl, by intro j _ h; omega, rfl⟩
  case round =>
    obtain ⟨k, hk, rfl, HI, rfl⟩ := hrel
    by_cases hlt : k < s.size
    · have i1 : (k : Int) < (s.size : Int) := by omega
      have hb : (s[k]).toNat < 256 := (s[k]).toNat_lt
      cases hp : nameB s[k] with
      | true =>
        have HI2 := NmRel.step hlt hp HI.out
        clear HI
        unfold nameB at hp
        rw [decide_eq_true_eq] at hp
        rcases hp with ⟨h1, h2⟩ | ⟨h1, h2⟩ | h1 | h1
        · go_wp2
          go_roundw
          case rel => exact ⟨k + 1, by omega, by go_num, HI2, rfl⟩
          case measure => simp [intOf]; omega
        · go_wp2
          go_roundw
          case rel => exact ⟨k + 1, by omega, by go_num, HI2, rfl⟩
          case measure => simp [intOf]; omega
        · go_wp2
          go_roundw
          case rel => exact ⟨k + 1, by omega, by go_num, HI2, rfl⟩
          case measure => simp [intOf]; omega
        · go_wp2
          go_roundw
          case rel => exact ⟨k + 1, by omega, by go_num, HI2, rfl⟩
          case measure => simp [intOf]; omega
      | false =>
        have hF := okB_bad nameB s k hlt hp
        rw [HR.out] at hF
        subst hF
        unfold nameB at hp
        rw [decide_eq_false_iff_not] at hp
        have n1 : ((s[k].toNat : Int) != 64) = true := by simp; omega
        have n2 : ((s[k].toNat : Int) != 46) = true := by simp; omega
        rcases (show s[k].toNat < 48 ∨ (57 < s[k].toNat ∧ s[k].toNat < 97) ∨ 122 < s[k].toNat from by omega) with h | ⟨h, h'⟩ | h
        · clear hp
          go_wp2
          go_ret
          exact ⟨rfl, rfl⟩
        · clear hp
          go_wp2
          go_ret
          exact ⟨rfl, rfl⟩
        · clear hp
          go_wp2
          go_ret
          exact ⟨rfl, rfl⟩
    · have hF := okB_good nameB s (fun j hj => HI.out j hj (by omega))
      rw [HR.out] at hF
      subst hF
      have i1 : ¬ ((k : Int) < (s.size : Int)) := by omega
      clear HI
      go_wp2_with fail
      refine (l01In_any _ _ _ _).mono ?_
      rintro e w' ⟨rfl, rfl⟩
      go_wp2
      go_ret
      exact ⟨ret_b (by rw [Bool.eq_iff_iff]; simp; omega), rfl⟩

set_option maxRecDepth 100000 in
set_option maxHeartbeats 1000000 in
theorem ValueOk_any (s : ByteArray) (w : World) (hs : s.size ≤ 1048576) : Calls Tryz.prog 189 #[.string s] w fun e w' => e = .returned (.bool (okB valB s)) ∧ w' = w := by
  by_cases h1 : s.size = 0
  · rw [okB_len _ _ (by omega)]
    have hne := is_empty s h1
    go_enter Tryz.func189, Tryz.ntmps189
    go_wp2
    go_ret
    exact ⟨rfl, rfl⟩
  · by_cases h2 : 12 < s.size
    · rw [okB_len _ _ (by omega)]
      have hne := not_empty s (by omega)
      go_enter Tryz.func189, Tryz.ntmps189
      go_wp2
      go_ret
      exact ⟨rfl, rfl⟩
    · have hne := not_empty s (by omega)
      obtain ⟨R, hR⟩ : ∃ R, okB valB s = R := ⟨_, rfl⟩
      rw [hR]
      have HR : Hid (okB valB s = R) := hR
      clear hR
      go_enter Tryz.func189, Tryz.ntmps189
      go_wp2
      go_loopw [13] (fun i wr => NmRel valB s w i wr) (fun i _ => s.size - (intOf i).toNat)
      case atStart => exact ⟨0, by omega, rfl, by intro j _ h; omega, rfl⟩
      case round =>
        obtain ⟨k, hk, rfl, HI, rfl⟩ := hrel
        by_cases hlt : k < s.size
        · have i1 : (k : Int) < (s.size : Int) := by omega
          have hb : (s[k]).toNat < 256 := (s[k]).toNat_lt
          cases hp : valB s[k] with
          | true =>
            have HI2 := NmRel.step hlt hp HI.out
            clear HI
            unfold valB at hp
            rw [decide_eq_true_eq] at hp
            obtain ⟨h1, h2⟩ := hp
            go_wp2
            go_roundw
            case rel => exact ⟨k + 1, by omega, by go_num, HI2, rfl⟩
            case measure => simp [intOf]; omega
          | false =>
            have hF := okB_bad valB s k hlt hp
            rw [HR.out] at hF
            subst hF
            unfold valB at hp
            rw [decide_eq_false_iff_not] at hp
            rcases (show s[k].toNat < 33 ∨ 126 < s[k].toNat from by omega) with h | h
            · clear hp HI
              go_wp2
              try rw [Exit.noGoto_ret]
              go_ret
              exact ⟨rfl, rfl⟩
            · clear hp HI
              go_wp2
              try rw [Exit.noGoto_ret]
              go_ret
              exact ⟨rfl, rfl⟩
        · have hF := okB_good valB s (fun j hj => HI.out j hj (by omega))
          rw [HR.out, decide_eq_true (by omega)] at hF
          subst hF
          have i1 : ¬ ((k : Int) < (s.size : Int)) := by omega
          clear HI
          go_wp2
          go_ret
          exact ⟨rfl, rfl⟩

set_option maxRecDepth 100000 in
set_option maxHeartbeats 1000000 in
theorem sValueOk_any (s : ByteArray) (w : World) (hs : s.size ≤ 1048576) : Calls Tryz.prog 150 #[.string s] w fun e w' => e = .returned (.bool (okB valB s)) ∧ w' = w := by
  obtain ⟨R, hR⟩ : ∃ R, okB valB s = R := ⟨_, rfl⟩
  rw [hR]
  have HR : Hid (okB valB s = R) := hR
  clear hR
  go_enter Tryz.func150, Tryz.ntmps150
  go_wp2
  go_loopw [3] (fun i wr => NmRel valB s w i wr) (fun i _ => s.size - (intOf i).toNat)
  case atStart => exact ⟨0, by omega, rfl, by intro j _ h; omega, rfl⟩
  case round =>
    obtain ⟨k, hk, rfl, HI, rfl⟩ := hrel
    by_cases hlt : k < s.size
    · have i1 : (k : Int) < (s.size : Int) := by omega
      have hb : (s[k]).toNat < 256 := (s[k]).toNat_lt
      cases hp : valB s[k] with
      | true =>
        have HI2 := NmRel.step hlt hp HI.out
        clear HI
        unfold valB at hp
        rw [decide_eq_true_eq] at hp
        obtain ⟨h1, h2⟩ := hp
        go_wp2
        go_roundw
        case rel => exact ⟨k + 1, by omega, by go_num, HI2, rfl⟩
        case measure => simp [intOf]; omega
      | false =>
        have hF := okB_bad valB s k hlt hp
        rw [HR.out] at hF
        subst hF
        unfold valB at hp
        rw [decide_eq_false_iff_not] at hp
        rcases (show s[k].toNat < 33 ∨ 126 < s[k].toNat from by omega) with h | h
        · clear hp HI
          go_wp2
          try rw [Exit.noGoto_ret]
          go_ret
          exact ⟨rfl, rfl⟩
        · clear hp HI
          go_wp2
          try rw [Exit.noGoto_ret]
          go_ret
          exact ⟨rfl, rfl⟩
    · have hF := okB_good valB s (fun j hj => HI.out j hj (by omega))
      rw [HR.out] at hF
      subst hF
      have i1 : ¬ ((k : Int) < (s.size : Int)) := by omega
      clear HI
      go_wp2_with fail
      refine (l01In_any _ _ _ _).mono ?_
      rintro e w' ⟨rfl, rfl⟩
      go_wp2
      go_ret
      exact ⟨ret_b (by rw [Bool.eq_iff_iff]; simp; omega), rfl⟩

theorem BitOf_no (x y : Int) (w : World) (h : y < 0 ∨ 7 < y) : Calls Tryz.prog 195 #[.int .i64 x, .int .i64 y] w fun e w' => e = .returned (.int .i64 0) ∧ w' = w := by
  rcases h with h | h
  · go_enter Tryz.func195, Tryz.ntmps195
    go_wp2
    go_ret
    exact ⟨rfl, rfl⟩
  · have h' : ¬ y < 0 := by omega
    go_enter Tryz.func195, Tryz.ntmps195
    go_wp2
    go_ret
    exact ⟨rfl, rfl⟩
/-- the bit of a number at a level -/
def bitI (x : Int) (y : Nat) : Int := bits .and .i64 (x / 2 ^ (7 - y)) 1
theorem BitOf_yes (x : Int) (y : Nat) (w : World) (h : y ≤ 7) : Calls Tryz.prog 195 #[.int .i64 x, .int .i64 y] w fun e w' => e = .returned (.int .i64 (bitI x y)) ∧ w' = w := by
  go_enter Tryz.func195, Tryz.ntmps195
  go_wp2
  go_ret
  exact ⟨rfl, rfl⟩
end Go.Proofs.YtklpanjedolkdaaGreatDoor
/-
  Plain facts on reading a number that stands in bytes, step by step.
-/
namespace Go.Proofs.YtklpanjedolkdaaGreatDoor.M

theorem pow7 (k : Nat) : (2 : Nat) ^ (7 * k) = 128 ^ k := by rw [Nat.pow_mul]

theorem sh_eq (b k : Nat) : ((b : Int) % 128 * 2 ^ (7 * k)) = ((b % 128 * 128 ^ k : Nat) : Int) := by
  have h : ((2 ^ (7 * k) : Nat) : Int) = (2 : Int) ^ (7 * k) := by simp
  rw [← h, pow7]
  simp

theorem pow_le5 (k : Nat) (h : k ≤ 4) : 128 ^ k ≤ 268435456 := by
  have := Nat.pow_le_pow_right (show 0 < 128 by omega) h
  simpa using this

theorem sh_le (b k : Nat) (h : k ≤ 4) : b % 128 * 128 ^ k ≤ 127 * 268435456 :=
  Nat.mul_le_mul (by omega) (pow_le5 k h)

theorem acc_lt (N b k : Nat) (h : N < 128 ^ k) : N + b % 128 * 128 ^ k < 128 ^ (k + 1) := by
  have h1 : b % 128 * 128 ^ k ≤ 127 * 128 ^ k := Nat.mul_le_mul_right _ (by omega)
  have h2 : 128 ^ (k + 1) = 128 ^ k * 128 := Nat.pow_succ ..
  omega

theorem rv_more (s : List UInt8) (p k N : Nat) (b : UInt8) (hk : k < 5) (hb : s[p + k]? = some b) (h : 127 < b.toNat) :
    rv s p (5 - k) k N = rv s p (5 - (k + 1)) (k + 1) (N + b.toNat % 128 * 128 ^ k) := by
  have e : 5 - k = (5 - (k + 1)) + 1 := by omega
  rw [e]
  simp only [rv, hb]
  rw [if_pos (by omega)]

theorem rv_no (s : List UInt8) (p k N : Nat) (b : UInt8) (hk : k < 5) (hb : s[p + k]? = some b) (h : ¬ 127 < b.toNat) (hn : (b.toNat = 0 ∧ 0 < k) ∨ 1000000000 < N + b.toNat % 128 * 128 ^ k) :
    rv s p (5 - k) k N = none := by
  have e : 5 - k = (5 - (k + 1)) + 1 := by omega
  rw [e]
  simp only [rv, hb]
  rw [if_neg (by omega), if_pos hn]

theorem rv_yes (s : List UInt8) (p k N : Nat) (b : UInt8) (hk : k < 5) (hb : s[p + k]? = some b) (h : ¬ 127 < b.toNat) (hn : ¬ ((b.toNat = 0 ∧ 0 < k) ∨ 1000000000 < N + b.toNat % 128 * 128 ^ k)) :
    rv s p (5 - k) k N = some (N + b.toNat % 128 * 128 ^ k, p + k + 1) := by
  have e : 5 - k = (5 - (k + 1)) + 1 := by omega
  rw [e]
  simp only [rv, hb]
  rw [if_neg (by omega), if_neg hn]

theorem rv_end (s : List UInt8) (p k N : Nat) (h : ¬ (k < 5 ∧ p + k < s.length)) : rv s p (5 - k) k N = none := by
  by_cases hk : k < 5
  · have e : 5 - k = (5 - (k + 1)) + 1 := by omega
    rw [e]
    have hb : s[p + k]? = none := by simp; omega
    simp only [rv, hb]
  · have e : 5 - k = 0 := by omega
    rw [e]
    rfl

end Go.Proofs.YtklpanjedolkdaaGreatDoor.M
