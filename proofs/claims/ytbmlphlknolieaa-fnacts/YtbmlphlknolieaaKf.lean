/-
  The small helpers of the law FnKeeps: lefts, sameDisk, begins.
-/
import Derived.Test.YtbmlphlknolieaaKd
namespace Go.Proofs.Ytbmlphlknolieaa
open Go.RowKit Go.BigFrame Go.Sort
set_option linter.unusedVariables false
set_option linter.unusedSimpArgs false

/-- numbers that a row of its own holds -/
theorem own_ints {B : Nat} {w : World} {u : Value} {l : List Nat} (h : w.ownsRow B 3 1 u l.length (iv l)) (hB : B ≤ w.heap.size) (hl : l.length ≤ 1100000) : ∃ g, RS 1 ics w u g 0 (l.map fun n : Nat => (n : Int)) := by
  have e : (l.map fun n : Nat => (n : Int)).flatMap ics = iv l := by
    clear h hl
    induction l with
    | nil => rfl
    | cons a r ih => simp only [List.map_cons, List.flatMap_cons, ih, ics, iv, List.cons_append, List.nil_append]
  have ho : OR 3 1 ics B w w u (l.map fun n : Nat => (n : Int)) := ⟨by rw [e, List.length_map]; exact h, Below.refl _ _, hB⟩
  obtain ⟨g, h1, _⟩ := OR.rw (k := 1) (enc := ics) (fun x => rfl) (by omega) ho (by rw [List.length_map]; exact hl)
  exact ⟨g, h1.1⟩

/-- what lefts answers: some row of numbers -/
def LfA (w : World) (e : Ending) (w' : World) : Prop := ∃ (u : Value) (gq : Nat) (Q : List Int), e = .returned u ∧ RS 1 ics w' u gq 0 Q ∧ Below w.heap.size w w'
def LfR (w : World) (u i : Value) (wr : World) : Prop := ∃ (k : Nat) (l : List Nat), k ≤ 6 ∧ i = .int .i64 (k : Int) ∧ l.length = k ∧ wr.ownsRow w.heap.size 3 1 u l.length (iv l) ∧ Below w.heap.size w wr

set_option maxRecDepth 100000 in
set_option maxHeartbeats 1000000 in
theorem lefts_any (gp cap : Nat) (xs : List Nat) (w : World) (hx : xs.length = 12) (hlt : ∀ x ∈ xs, x < 10000) (hg : gp < w.heap.size) (hcells : ∀ j, (h : j < xs.length) → w.cell? ⟨gp, j, none⟩ = some (.int .i64 (xs[j] : Int))) :
    Calls Try.prog 14 #[.slice (some ⟨gp, 0, none⟩) 12 cap] w (LfA w) := by
  have HX : Hid ((∀ x ∈ xs, x < 10000) ∧ ∀ j, (h : j < xs.length) → w.cell? ⟨gp, j, none⟩ = some (.int .i64 (xs[j] : Int))) := ⟨hlt, hcells⟩
  clear hlt hcells
  go_enter Try.func14, Try.ntmps14
  go_wp2
  go_loopw [3, 4] (fun u i wr => LfR w u i wr) (fun _ i _ => 6 - (intOf i).toNat)
  case atStart => exact ⟨0, [], by omega, rfl, rfl, World.ownsRow_made w #[] 0 (Nat.le_refl _) (by decide) (by simp), (Below.refl _ _).alloc (Nat.le_refl _) _⟩
  case round =>
    obtain ⟨k, l, hk, rfl, hl, hrow, hbel⟩ := hrel
    by_cases hlt : k < 6
    · have ck := (hbel.cell (p := ⟨gp, k, none⟩) hg).trans (HX.out.2 k (by omega))
      have hy := HX.out.1 _ (List.getElem_mem (show k < xs.length by omega))
      generalize xs[k]'(by omega) = y at *
      have i1 : (k : Int) < 6 := by omega
      have hB := hbel.size
      go_wp2_with (at_builtin; refine wp_appJ rfl _ _ rfl w.heap.size _ l rfl (World.ownsRow.alloc hrow _) ?c0 ⟨wr.heap.size, 0, none⟩ (y % 300) rfl ?c1 ?c2 ?_)
      case c0 => simp; omega
      case c1 => simp
      case c2 => omega
      intro v' w4 hrow4 hgrow4
      have hb4 : Below w.heap.size w w4 := (hbel.alloc hB _).grown hgrow4 (by simp; omega) (fun j hj => (hrow.lt j hj).1)
      clear HX ck hrow
      go_wp2
      go_roundw
      case rel => exact ⟨k + 1, l ++ [y % 300], by omega, by go_num, by simp; omega, by rw [show (l ++ [y % 300]).length = k + 1 by simp; omega]; exact hrow4, hb4⟩
      case measure => simp [intOf]; omega
    · have hk6 : ¬ (k : Int) < 6 := by omega
      clear HX
      go_wp2
      go_ret
      obtain ⟨gq, hr⟩ := own_ints hrow hbel.size (by omega)
      exact ⟨_, gq, _, rfl, hr, hbel⟩

set_option maxRecDepth 100000 in
set_option maxHeartbeats 1000000 in
theorem sameDisk_yes (u v : Value) (ga oa gb ob : Nat) (l : List Fl) (w : World) (hu : RS 3 fcs w u ga oa l) (hv : RS 3 fcs w v gb ob l) :
    Calls Try.prog 17 #[.agg #[u], .agg #[v]] w fun e w' => e = .returned (.bool true) ∧ Below w.heap.size w w' := by
  obtain ⟨a, cap, hu'⟩ := hu.shape
  obtain ⟨b, cap2, hv'⟩ := hv.shape
  subst hu' hv'
  have hb0 : Below w.heap.size w ((w.alloc (.cells #[.slice a l.length cap] 26)).alloc (.cells #[.slice b l.length cap2] 26)) := ((Below.refl _ _).alloc (Nat.le_refl _) _).alloc (by simp) _
  have hs0 : ((w.alloc (.cells #[.slice a l.length cap] 26)).alloc (.cells #[.slice b l.length cap2] 26)).heap.size = w.heap.size + 2 := by simp
  have hq0 : BD ((w.alloc (.cells #[.slice a l.length cap] 26)).alloc (.cells #[.slice b l.length cap2] 26)) w.heap.size 26 (.slice a l.length cap) := alloc_snd _ _ _ rfl
  have hq1 : BD ((w.alloc (.cells #[.slice a l.length cap] 26)).alloc (.cells #[.slice b l.length cap2] 26)) (w.heap.size + 1) 26 (.slice b l.length cap2) := alloc_fst _ _ (by simp)
  have HU : Hid (RS 3 fcs _ _ ga oa l) := hu.later hb0
  have HV : Hid (RS 3 fcs _ _ gb ob l) := hv.later hb0
  have HA : Hid (0 < l.length → a = some ⟨ga, oa, none⟩ ∧ b = some ⟨gb, ob, none⟩) := by
    obtain ⟨a', c', ev, _, h1, _⟩ := hu
    obtain ⟨b', d', ew, _, h2, _⟩ := hv
    simp at ev ew
    exact fun h => ⟨ev.1.trans (h1 h).1, ew.1.trans (h2 h).1⟩
  obtain ⟨n, hn⟩ : ∃ n, l.length = n := ⟨_, rfl⟩
  obtain ⟨V, hV⟩ : ∃ V, ((w.alloc (.cells #[.slice a l.length cap] 26)).alloc (.cells #[.slice b l.length cap2] 26)) = V := ⟨_, rfl⟩
  rw [hV] at hb0 hs0 hq0 hq1 HU HV
  have HQ : Hid (Below w.heap.size w V ∧ BD V w.heap.size 26 (.slice a l.length cap) ∧ BD V (w.heap.size + 1) 26 (.slice b l.length cap2)) := ⟨hb0, hq0, hq1⟩
  have hl := hu.len
  rw [hn] at hV HQ HA hl ⊢
  clear hu hv hb0 hq0 hq1
  go_enter Try.func17, Try.ntmps17
  have d0 := HQ.out.2.1.cell
  have d1 := HQ.out.2.2.cell
  go_wp2
  clear d0 d1
  go_loopw [5] (fun i wr => EfR n V i wr) (fun i _ => n - (intOf i).toNat)
  case atStart => exact ⟨0, by omega, rfl, Below.refl _ _⟩
  case round =>
    obtain ⟨m, hm, rfl, hbel⟩ := hrel
    have d0 := (HQ.out.2.1.later hbel).cell
    have d1 := (HQ.out.2.2.later hbel).cell
    by_cases hlt : m < n
    · obtain ⟨ea, eb⟩ := HA.out (by omega)
      subst ea
      subst eb
      obtain ⟨c0, c1, c2⟩ := (HU.out.later hbel).file m (by omega)
      obtain ⟨e0, e1, e2⟩ := (HV.out.later hbel).file m (by omega)
      generalize l[m]'(by omega) = X at *
      have i1 : (m : Int) < (n : Int) := by omega
      have i2 : (0 : Int) ≤ (m : Int) := by omega
      clear HU HV HA hV
      go_wp2
      have kq0 := cell_regrown (w := wr) c0
      have kq1 := cell_regrown (w := wr) c1
      have kq2 := cell_regrown (w := wr) c2
      have kq3 := cell_regrown (w := wr) e0
      have kq4 := cell_regrown (w := wr) e1
      have kq5 := cell_regrown (w := wr) e2
      have kq6 := cell_regrown (w := wr) d0
      have kq7 := cell_regrown (w := wr) d1
      refine wp_region_quiet_below (by kernel_rfl) (by kernel_rfl) ?_
      repeat (go_big_quiet_step (fail))
      refine wpQuiet_nil ?_
      rintro _ ⟨⟨dq, osq⟩, rfl⟩
      have hb6 := below_regrown (wr) dq osq
      generalize grow (redrawn (wr) dq) osq = w6 at *
      clear kq0 kq1 kq2 kq3 kq4 kq5 kq6 kq7
      go_wp2
      go_roundw
      case rel => exact ⟨m + 1, by omega, by go_num, hbel.trans (hb6.mono hbel.size)⟩
      case measure => simp [intOf]; omega
    · have hme : m = n := by omega
      subst hme
      have hb9 := HQ.out.1.trans (hbel.mono HQ.out.1.size)
      clear HU HV HA hV
      go_wp2
      go_ret
      exact ⟨rfl, hb9⟩

theorem begins_yes (a b : ByteArray) (w : World) (h : a.size ≤ b.size) (hb : b.extract 0 a.size = a) :
    Calls Try.prog 20 #[.string a, .string b] w fun e w' => e = .returned (.bool true) ∧ w' = w := by
  have i1 : (a.size : Int) ≤ (b.size : Int) := by omega
  have hcut : ∀ w : World, (Instr.slice 9 (.string b) none (some (.int .i64 (a.size : Int))) none).run Try.prog w = .ok (.string a) w := fun w => by
    rw [run_slice_string_to_if (P := Try.prog) (w := w) 9 b .i64 _ Try.underlying9, if_pos (by omega)]
    simp [hb]
  clear hb
  go_enter Try.func20, Try.ntmps20
  go_wp2
  go_ret
  exact ⟨rfl, rfl⟩

end Go.Proofs.Ytbmlphlknolieaa
