/-
  Texts laid together: Cpl, Cpy, Mr.
-/
import Derived.Test.YtiabodhgjeoejaaPkC15
import Derived.Test.YtiabodhgjeoejaaPkC4
import Derived.Deep.RegionHeld3
import Derived.Test.YtiabodhgjeoejaaPkC10
import Derived.Test.YtiabodhgjeoejaaPkC19
/-
  A leaf copied: the program's answer.
-/
namespace Go.Proofs.Ytiabodhgjeoejaa
open Go.RowKit Go.BigFrame Go.Sort
set_option linter.unusedVariables false
set_option linter.unusedSimpArgs false

set_option maxRecDepth 100000 in
set_option maxHeartbeats 1000000 in
theorem copiedL_any (f : Le) (w : World) (hn : f.n.size ≤ 1048576) (hv : f.v.size ≤ 1048576) : Calls Try.prog 74 #[.agg #[.string f.n, .string f.v]] w fun e w' => e = .returned (.agg #[.string f.n, .string f.v]) ∧ Below w.heap.size w w' := by
  obtain ⟨x, t⟩ := f
  simp only at hn hv ⊢
  have hb0 : Below w.heap.size w ((w.alloc (.cells #[.string x, .string t] 73)).alloc (.cells #[.string ⟨#[]⟩, .string ⟨#[]⟩] 73)) := ((Below.refl _ _).alloc (Nat.le_refl _) _).alloc (by simp) _
  have hG1 : BL ((w.alloc (.cells #[.string x, .string t] 73)).alloc (.cells #[.string ⟨#[]⟩, .string ⟨#[]⟩] 73)) w.heap.size x t := alloc_snd _ _ _ rfl
  have hG2 : BL ((w.alloc (.cells #[.string x, .string t] 73)).alloc (.cells #[.string ⟨#[]⟩, .string ⟨#[]⟩] 73)) (w.heap.size + 1) ⟨#[]⟩ ⟨#[]⟩ := alloc_fst _ _ (by simp)
  have hs0 : ((w.alloc (.cells #[.string x, .string t] 73)).alloc (.cells #[.string ⟨#[]⟩, .string ⟨#[]⟩] 73)).heap.size = w.heap.size + 2 := by simp
  have HK : Hid (∀ W, Below ((w.alloc (.cells #[.string x, .string t] 73)).alloc (.cells #[.string ⟨#[]⟩, .string ⟨#[]⟩] 73)).heap.size ((w.alloc (.cells #[.string x, .string t] 73)).alloc (.cells #[.string ⟨#[]⟩, .string ⟨#[]⟩] 73)) W → W.cell? ⟨w.heap.size, 0, none⟩ = some (.string x) ∧ W.cell? ⟨w.heap.size, 1, none⟩ = some (.string t)) := fun W hW => ⟨(hG1.later hW).c0, (hG1.later hW).c1⟩
  have HK2 : Hid (∀ W, Below ((w.alloc (.cells #[.string x, .string t] 73)).alloc (.cells #[.string ⟨#[]⟩, .string ⟨#[]⟩] 73)).heap.size ((w.alloc (.cells #[.string x, .string t] 73)).alloc (.cells #[.string ⟨#[]⟩, .string ⟨#[]⟩] 73)) W → BL W (w.heap.size + 1) ⟨#[]⟩ ⟨#[]⟩) := fun W hW => hG2.later hW
  have HB0 : Hid (Below w.heap.size w ((w.alloc (.cells #[.string x, .string t] 73)).alloc (.cells #[.string ⟨#[]⟩, .string ⟨#[]⟩] 73)) ∧ w.heap.size ≤ ((w.alloc (.cells #[.string x, .string t] 73)).alloc (.cells #[.string ⟨#[]⟩, .string ⟨#[]⟩] 73)).heap.size) := ⟨hb0, by rw [hs0]; omega⟩
  have hb : Below ((w.alloc (.cells #[.string x, .string t] 73)).alloc (.cells #[.string ⟨#[]⟩, .string ⟨#[]⟩] 73)).heap.size ((w.alloc (.cells #[.string x, .string t] 73)).alloc (.cells #[.string ⟨#[]⟩, .string ⟨#[]⟩] 73)) ((w.alloc (.cells #[.string x, .string t] 73)).alloc (.cells #[.string ⟨#[]⟩, .string ⟨#[]⟩] 73)).drew := (Below.refl _ _).drew
  clear hb0 hG1 hG2 hs0
  go_enter Try.func74, Try.ntmps74
  go_wp2
  go_region_held3 (fun W => W.cell? ⟨w.heap.size, 0, none⟩ = some (.string x) ∧ W.cell? ⟨w.heap.size, 1, none⟩ = some (.string t)) (first | go_keep | exact HK.out _ hb) ((go_at_call 50; refine (Clone_any _ _ (by first | exact hn | exact hv)).mono ?_; rintro e w1 ⟨rfl, hb1'⟩; have hb := hb.trans (hb1'.mono hb.size); have t0 := (HK2.out _ hb).c0; have t1 := (HK2.out _ hb).c1; have g0 := (HK2.out _ hb).f0; have g1 := (HK2.out _ hb).f1))
  have HF : Hid ((w1.setCells (w.heap.size + 1) 0 [.string x, .string t]).rangeAt (w.heap.size + 1) 0 [.string x, .string t] ∧ Below w.heap.size w (w1.setCells (w.heap.size + 1) 0 [.string x, .string t])) :=
    ⟨(HK2.out _ hb).put x t, below_setCells (by omega) _ _ _ (HB0.out.1.trans (hb.mono HB0.out.2))⟩
  go_wp2
  exact ret_rec 2 (w.heap.size + 1) 73 [.string x, .string t] _ rfl rfl rfl Try.underlying73 rfl sizeLeaf HF.out.1 ⟨rfl, HF.out.2⟩

end Go.Proofs.Ytiabodhgjeoejaa
/-
  A row of leaves copied: the program's answer.
-/
namespace Go.Proofs.Ytiabodhgjeoejaa
open Go.RowKit Go.BigFrame Go.Sort
set_option linter.unusedVariables false
set_option linter.unusedSimpArgs false

set_option maxRecDepth 100000 in
set_option maxHeartbeats 400000 in
theorem leavesCopy_any (v : Value) (ga oa : Nat) (l : List Le) (w : World) (hv : RS 2 lcs w v ga oa l) (hsm : SmallL l) :
    Calls Try.prog 42 #[v] w fun e w' => ∃ g, e = .returned (.slice (some ⟨g, 0, none⟩) l.length l.length) ∧ w.heap.size ≤ g ∧ RW 2 lcs w' (.slice (some ⟨g, 0, none⟩) l.length l.length) g l ∧ Below w.heap.size w w' := by
  have HV : Hid (RS 2 lcs w v ga oa l ∧ SmallL l) := ⟨hv, hsm⟩
  obtain ⟨a, cap, rfl, hl, hA, hc⟩ := hv
  obtain ⟨n, hn⟩ : ∃ n, l.length = n := ⟨_, rfl⟩
  obtain ⟨w2, hmk, hib, hb2, hs2⟩ := made_leaves n (by omega) w
  have HST : Hid (ToL w l w.heap.size w.heap.size (.int .i64 0) w2 ∧ w.heap.size < w2.heap.size) := ⟨⟨0, by omega, rfl, fun j _ h => by omega, by rw [hn]; exact hib, hb2⟩, by omega⟩
  have HA : Hid (0 < n → a = some ⟨ga, oa, none⟩) := by rw [← hn]; exact fun h => (hA h).1
  rw [hn] at hl ⊢
  clear hib hb2 hs2 hA hc hsm
  go_enter Try.func42, Try.ntmps42
  go_wp2
  clear hmk
  go_loopw [11] (fun i wr => ToL w l w.heap.size w.heap.size i wr ∧ w.heap.size < wr.heap.size) (fun i _ => n - (intOf i).toNat)
  case atStart => exact HST.out
  case round =>
    obtain ⟨⟨m, hm, rfl, h1, h2, hbel⟩, hws⟩ := hrel
    have HI : Hid ((∀ j (h : j < l.length), j < m → wr.rangeAt w.heap.size (j * 2) (lcs l[j])) ∧ (∀ j, j < l.length → wr.there w.heap.size (j * 2) 2) ∧ Below w.heap.size w wr) := ⟨h1, h2, hbel⟩
    clear HST h1 h2 hbel
    rw [hn] at hm
    by_cases hlt : m < n
    · have ea := HA.out (by omega)
      subst ea
      obtain ⟨c0, c1⟩ := (HV.out.1.later HI.out.2.2).leaf m (by omega)
      obtain ⟨X, hX⟩ : ∃ X, l[m]'(by omega) = X := ⟨_, rfl⟩
      rw [hX] at c0 c1
      have hxs := HV.out.2 X (by rw [← hX]; exact List.getElem_mem _)
      have HX : Hid (l[m]'(by omega) = X) := hX
      have i1 : (m : Int) < (n : Int) := by omega
      have i2 : (0 : Int) ≤ (m : Int) := by omega
      have hba : Below wr.heap.size wr (wr.alloc (.cells #[.string X.n, .string X.v] 73)) := (Below.refl _ _).alloc (Nat.le_refl _) _
      clear hX HV HA
      go_wp2_with fail
      refine (copiedL_any X _ hxs.1 hxs.2).mono ?_
      rintro e w1 ⟨rfl, hb1'⟩
      have hb1 : Below wr.heap.size wr w1 := hba.trans (hb1'.mono hba.size)
      have HJ : Hid ((∀ j (h : j < l.length), j < m + 1 → (w1.setCells w.heap.size (m * 2) (lcs X)).rangeAt w.heap.size (j * 2) (lcs l[j])) ∧ (∀ j, j < l.length → (w1.setCells w.heap.size (m * 2) (lcs X)).there w.heap.size (j * 2) 2) ∧ Below w.heap.size w (w1.setCells w.heap.size (m * 2) (lcs X))) := by
        have h := ToL.set (w := w) (wr := w1) (l := l) (g := w.heap.size) (m := m) (B := w.heap.size) (by omega) (Nat.le_refl _) (fun j hj h => range_kept (HI.out.1 j hj h) (hb1.block _ hws)) (fun j hj => there_kept (HI.out.2.1 j hj) (hb1.block _ hws)) (HI.out.2.2.trans (hb1.mono HI.out.2.2.size))
        rw [HX.out] at h
        exact h
      have HT : Hid (w1.there w.heap.size (m * 2) 2) := there_kept (HI.out.2.1 m (by omega)) (hb1.block _ hws)
      have hws1 : w.heap.size < (w1.setCells w.heap.size (m * 2) (lcs X)).heap.size := by rw [size_setCells]; exact Nat.lt_of_lt_of_le hws hb1.size
      clear hb1 hb1' hba HI c0 c1 hxs
      obtain ⟨⟨o0, x0⟩, ⟨o1, x1⟩, f0, f1⟩ := there2 HT.out
      go_wp2
      go_roundw
      case rel => exact ⟨⟨m + 1, by omega, by go_num, HJ.out⟩, hws1⟩
      case measure => simp [intOf]; omega
    · have hme : m = n := by omega
      subst hme
      clear HV HA
      go_wp2
      go_ret
      refine ⟨w.heap.size, rfl, Nat.le_refl _, ⟨⟨_, _, by rw [hn], by omega, fun _ => ⟨rfl, hws⟩, fun j hj => ?_⟩, HI.out.2.1⟩, HI.out.2.2⟩
      rw [Nat.zero_add]
      exact HI.out.1 j hj (by omega)

end Go.Proofs.Ytiabodhgjeoejaa
/-
  Leaves in a map, step by step: made of a row, put, dropped; and a row copied.
-/
namespace Go.Proofs.Ytiabodhgjeoejaa
open Go.RowKit Go.BigFrame Go.Sort Go.Maps
set_option linter.unusedVariables false
set_option linter.unusedSimpArgs false

theorem leafSetOf_no (v : Value) (ga oa : Nat) (L : List Le) (w : World) (hv : RS 2 lcs w v ga oa L) (hsm : SmallL L) (hd : LV.leavesB L = false) :
    Calls Try.prog 75 #[v] w fun e w' => e = .returned (.tuple #[.map none, .bool false]) ∧ Below w.heap.size w w' := by
  have HC := LeavesOk_any v ga oa L _ hv hsm
  rw [hd] at HC
  obtain ⟨a, cap, rfl⟩ := hv.shape
  clear hv
  go_enter Try.func75, Try.ntmps75
  go_wp2_with fail
  refine HC.mono ?_
  rintro e w1 ⟨rfl, hb1⟩
  go_wp2
  go_ret2
  exact ⟨rfl, hb1⟩

def SoR (w : World) (b : Nat) (L : List Le) (i : Value) (wr : World) : Prop := ∃ m : Nat, m ≤ L.length ∧ i = .int .i64 m ∧ Hid (LM w.heap.size w wr b (L.take m))

set_option maxRecDepth 100000 in
set_option maxHeartbeats 1000000 in
theorem leafSetOf_yes (v : Value) (ga oa : Nat) (L : List Le) (w : World) (hv : RS 2 lcs w v ga oa L) (hsm : SmallL L) (hd : LV.leavesB L = true) :
    Calls Try.prog 75 #[v] w fun e w' => ∃ b, e = .returned (.tuple #[.map (some b), .bool true]) ∧ LM w.heap.size w w' b L := by
  have HC := LeavesOk_any v ga oa L _ hv hsm
  rw [hd] at HC
  have HV : Hid (RS 2 lcs w v ga oa L) := hv
  obtain ⟨a, cap, rfl, hl, hA, _⟩ := hv
  obtain ⟨n, hn⟩ : ∃ n, L.length = n := ⟨_, rfl⟩
  rw [hn] at HC HV ⊢
  have HA : Hid (0 < n → a = some ⟨ga, oa, none⟩) := fun h => (hA (by omega)).1
  have HD : Hid (LV.LOk L) := LV.leavesB_iff.1 hd
  have hmm := run_makeLeaves n
  clear hA hd hsm
  go_enter Try.func75, Try.ntmps75
  go_wp2_with fail
  refine HC.mono ?_
  rintro e w1 ⟨rfl, hb1⟩
  have HST : Hid (SoR w w1.heap.size L (.int .i64 0) (w1.alloc (.map #[] 0))) := ⟨0, by omega, rfl, LM.made _ w w1 hb1 hb1.size⟩
  clear HC hb1
  go_wp2
  clear hmm
  go_loopw [15] (fun i wr => SoR w w1.heap.size L i wr) (fun i _ => n - (intOf i).toNat)
  case atStart => exact HST.out
  case round =>
    obtain ⟨m, hm, rfl, HI⟩ := hrel
    clear HST
    rw [hn] at hm
    by_cases hlt : m < n
    · have ea := HA.out (by omega)
      subst ea
      obtain ⟨c0, c1⟩ := (HV.out.later HI.out.2.2.1).leaf m (by omega)
      obtain ⟨X, hX⟩ : ∃ X, L[m]'(by omega) = X := ⟨_, rfl⟩
      rw [hX] at c0 c1
      have hxs : X.n.size ≤ 12 := (LV.leB_sizes (HD.out.2.1 X (by rw [← hX]; exact List.getElem_mem _))).1.2
      have hpt : LV.put (L.take m) X = L.take (m + 1) := by rw [← hX]; exact LV.put_take HD.out (by omega)
      have HF : Hid (LM w.heap.size w (wr.alloc (.cells #[.string X.n, .string X.v] 73)) w1.heap.size (L.take m) ∧ LV.LOk (L.take m) ∧ LV.put (L.take m) X = L.take (m + 1)) :=
        ⟨HI.out.later ((Below.refl _ _).alloc (Nat.le_refl _) _), LV.ok_take HD.out m, hpt⟩
      have i1 : (m : Int) < (n : Int) := by omega
      have i2 : (0 : Int) ≤ (m : Int) := by omega
      clear HI HA HV HD hX hpt
      go_wp2_with (at_mapUpdate; refine wp_leafStore rfl _ _ _ rfl w1.heap.size X rfl rfl rfl w.heap.size w (L.take m) HF.out.1 HF.out.2.1 (by omega) ?_; intro w2 hm2 hg2)
      have HG : Hid (LM w.heap.size w w2 w1.heap.size (L.take (m + 1))) := by rw [HF.out.2.2] at hm2; exact hm2
      clear hm2 hg2 HF c0 c1
      go_wp2
      go_roundw
      case rel => exact ⟨m + 1, by omega, by go_num, HG⟩
      case measure => simp [intOf]; omega
    · have hme : n = m := by omega
      have e1 : L.take m = L := List.take_of_length_le (by omega)
      rw [e1] at HI
      subst hme
      clear HA HV HD
      go_wp2
      go_ret2
      exact ⟨_, rfl, HI.out⟩

end Go.Proofs.Ytiabodhgjeoejaa
