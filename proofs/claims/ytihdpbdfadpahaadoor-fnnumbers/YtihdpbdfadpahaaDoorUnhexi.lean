/-
  The walk of the program's Unhex.
-/
import Derived.Test.YtihdpbdfadpahaaDoorUnhexw
namespace Go.Proofs.YtihdpbdfadpahaaDoor
open Go.RowKit
set_option linter.unusedVariables false

theorem figuresOf16 (s : ByteArray) (w : World) (hs : s.size ≤ 1048576) : Calls Tryd.prog 17 #[.string s, .int .i64 16] w (FigPost w s 16) :=
  figuresOf_any s 16 w hs (by omega)

theorem pb_w (a b : Nat) (ha : a < 16) (hb : b < 16) : IntKind.u8.wrap (IntKind.i64.wrap (IntKind.i64.wrap (16 * (a : Int)) + (b : Int))) = ((pb a b).toNat : Int) := by
  rw [IntWalk.i64_in (16 * (a : Int)) (by omega), IntWalk.i64_in _ (by omega), IntWalk.u8_in _ (by omega)]
  exact pb_int a b ha hb

/-- a cell of what is owned -/
theorem OI.at {B : Nat} {w0 w : World} {l : List Nat} {g n cap : Nat} (h : OI B w0 w (.slice (some ⟨g, 0, none⟩) n cap) l) (j : Nat) (hj : j < l.length) : w.cell? ⟨g, j, none⟩ = some (.int .i64 (l[j] : Int)) := by
  have h1 := h.1.cells (g := g) rfl j (.int .i64 (l[j] : Int)) (by simp [List.getElem?_eq_getElem hj])
  have e : (⟨g, 0, none⟩ : Addr).add j = ⟨g, j, none⟩ := by unfold Addr.add; split <;> simp_all
  rw [e] at h1
  exact h1

def UnRel (w1 : World) (vs : List Nat) (v i : Value) (wr : World) : Prop :=
  ∃ I : Nat, I ≤ vs.length ∧ I % 2 = 0 ∧ i = .int .i64 I ∧ OB w1.heap.size w1 wr v (pairs (vs.take I))

set_option maxRecDepth 100000 in
set_option maxHeartbeats 1000000 in
theorem Unhex_any (s : ByteArray) (w : World) (hs : s.size ≤ 40000) (he : s.size % 2 = 0) :
    Calls Tryd.prog 14 #[.string s] w (UnPost w s) := by
  have h3 : ¬ ((40000 : Int) < (s.size : Int)) := by omega
  have h4 : ((s.size : Int) % 2 != 0) = false := by simp; omega
  go_enter Tryd.func14, Tryd.ntmps14
  go_wp2_with fail
  refine (figuresOf16 s _ (by omega)).mono ?_
  rintro e w1 (⟨hv, rfl, hb1⟩ | ⟨vs, v, hv, rfl, hown⟩)
  · have HV : Hid (vals 16 s.data.toList = none) := hv
    clear hv
    go_wp2
    go_ret2
    exact ⟨.inl ⟨HV.out, rfl⟩, hb1⟩
  · obtain ⟨hvl, hvb⟩ := vals_len 16 _ vs hv
    rw [Array.length_toList] at hvl
    have hvl' : vs.length = s.size := hvl
    clear hvl
    have HV : Hid (vals 16 s.data.toList = some vs) := hv
    clear hv
    have hvl1 : vs.length ≤ 40000 := by omega
    have hve : vs.length % 2 = 0 := by omega
    clear hvl'
    rcases hown.1.2 with ⟨rfl, hn⟩ | ⟨g, cap, cur, rfl, hbg, hgg, hrest⟩
    · have hvs : vs = [] := List.length_eq_zero_iff.1 hn
      subst hvs
      obtain ⟨M, hmk, hob⟩ := run_mk 0 (by omega) w1
      rw [show ((0 : Nat) : Int) = 0 from rfl] at hmk
      have hcv := run_str hob
      go_wp2
      refine wp_loop_rounds 1 ?_
      rw [rounds_succ]
      go_wp2
      go_ret2
      exact ⟨.inr ⟨[], HV.out, rfl⟩, hown.2.1.trans (hob.2.1.mono hown.2.1.size)⟩
    · clear hrest
      have hgl : g < w1.heap.size := (Array.getElem?_eq_some_iff.1 hgg).1
      clear hgg
      obtain ⟨M, hmk, hob⟩ := run_mk (vs.length / 2) (by omega) w1
      have e2 : (((vs.length / 2 : Nat)) : Int) = (vs.length : Int) / 2 := by omega
      rw [e2] at hmk
      clear e2
      go_wp2
      clear hmk
      go_loopw [6, 7] (fun v i wr => UnRel w1 vs v i wr) (fun _ i _ => vs.length - (intOf i).toNat)
      case atStart => exact ⟨0, by omega, rfl, rfl, by simpa [pairs] using hob⟩
      case round =>
        obtain ⟨I, hk, hI2, rfl, hown2⟩ := hrel
        have hpl := pairs_len (vs.take I)
        by_cases hlt : I < vs.length
        · have hlt1 : I + 1 < vs.length := by omega
          have c0 : wr.cell? ⟨g, I, none⟩ = some (.int .i64 (vs[I] : Int)) := (hown2.2.1.cell (p := ⟨g, I, none⟩) hgl).trans (hown.at I hlt)
          have c1 : wr.cell? ⟨g, I + 1, none⟩ = some (.int .i64 (vs[I + 1] : Int)) := (hown2.2.1.cell (p := ⟨g, I + 1, none⟩) hgl).trans (hown.at (I + 1) hlt1)
          have ha : vs[I] < 16 := hvb _ (List.getElem_mem _)
          have hb : vs[I + 1] < 16 := hvb _ (List.getElem_mem _)
          have i0 : (0 : Int) ≤ (I : Int) := by omega
          have i1 : (I : Int) < (vs.length : Int) := by omega
          have i2 : (I : Int) + 1 < (vs.length : Int) := by omega
          have i3 : (0 : Int) ≤ (I : Int) + 1 := by omega
          have hpl2 : (pairs (vs.take I)).length + 1 ≤ 1000000000 := by have := List.length_take_le I vs; omega
          have iw : IntKind.i64.wrap ((I : Int) + 1) = (I : Int) + 1 := IntWalk.i64_in _ (by omega)
          have HP : Hid (pairs (vs.take (I + 2)) = pairs (vs.take I) ++ [pb vs[I] vs[I + 1]]) := by
            obtain ⟨k, rfl⟩ : ∃ k, I = 2 * k := ⟨I / 2, by omega⟩
            have hpr := pairs_snoc k (vs.take (2 * k)) vs[2 * k] vs[2 * k + 1] (by simp; omega)
            rw [← take_two vs k hlt1] at hpr
            exact hpr
          go_wp2
          go_region_held3 (fun w' => w'.cell? ⟨g, I, none⟩ = some (.int .i64 (vs[I] : Int)) ∧ w'.cell? ⟨g, I + 1, none⟩ = some (.int .i64 (vs[I + 1] : Int))) (first | go_keep | exact ⟨(hown'.2.1.cell (p := ⟨g, I, none⟩) hgl).trans (hown.at I hlt), (hown'.2.1.cell (p := ⟨g, I + 1, none⟩) hgl).trans (hown.at (I + 1) hlt1)⟩) ((refine step_app rfl _ _ rfl w1.heap.size w1 _ (pairs (vs.take I)) (by rfl) (hown2.drew.alloc _) ⟨wr.heap.size, 0, none⟩ 1 1 [pb vs[I] vs[I + 1]] (by rfl) rfl (by exact one_byte _ _ _ _ (pb_w _ _ ha hb)) hpl2 ?_; intro v' w2 hown'))
          all_goals
            go_wp2
            go_roundw
            case rel => exact ⟨I + 2, by omega, by omega, by go_num, by rw [HP.out]; exact hown'⟩
            case measure => simp [intOf]; omega
        · have hke : I = vs.length := by omega
          subst hke
          rw [List.take_length] at hown2
          have hcv := run_str hown2
          go_wp2
          go_ret2
          exact ⟨.inr ⟨vs, HV.out, rfl⟩, hown.2.1.trans (hown2.2.1.mono hown.2.1.size)⟩


theorem Unhex_none (s : ByteArray) (w : World) (hs : s.size ≤ 40000) (he : s.size % 2 = 0) (hv : vals 16 s.data.toList = none) :
    Calls Tryd.prog 14 #[.string s] w fun e w' => e = .returned (.tuple #[.string ⟨#[]⟩, .bool false]) ∧ Below w.heap.size w w' := by
  refine (Unhex_any s w hs he).mono ?_
  rintro e w' ⟨⟨_, he⟩ | ⟨vs, h, he⟩, hb⟩
  · exact ⟨he, hb⟩
  · rw [hv] at h
    cases h

theorem Unhex_some (s : ByteArray) (vs : List Nat) (w : World) (hs : s.size ≤ 40000) (he : s.size % 2 = 0) (hv : vals 16 s.data.toList = some vs) :
    Calls Tryd.prog 14 #[.string s] w fun e w' => e = .returned (.tuple #[.string ⟨(pairs vs).toArray⟩, .bool true]) ∧ Below w.heap.size w w' := by
  refine (Unhex_any s w hs he).mono ?_
  rintro e w' ⟨⟨h, he⟩ | ⟨us, h, he⟩, hb⟩
  · rw [hv] at h
    cases h
  · rw [hv] at h
    cases h
    exact ⟨he, hb⟩

end Go.Proofs.YtihdpbdfadpahaaDoor
