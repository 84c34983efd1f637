/-
  What l06Disk draws: some disk, its texts not great.
-/
import Derived.Test.YtbmlphlknolieaaKj
import Derived.Test.YtbmlphlknolieaaKe
import Derived.Test.YtbmlphlknolieaaKh
namespace Go.Proofs.Ytbmlphlknolieaa
open Go.RowKit Go.BigFrame Go.Sort
set_option linter.unusedVariables false
set_option linter.unusedSimpArgs false

theorem DkS.ans' {B : Nat} {w0 w : World} {g : Nat} {v : Value} {r p : Nat} {a : Option Addr} {c n : Nat} {L : List Fl} {W : World} (h : DkS B w0 w g v r p (.slice a n c) L W) (hz : SzD L) (hn : L.length = n) :
    (W.setCell ⟨r, 0, none⟩ (.slice a n c)).rangeAt r 0 [.slice a n c] ∧ DkA B w0 w g v (.returned (.agg #[.slice a n c])) (W.setCell ⟨r, 0, none⟩ (.slice a n c)) := by
  subst hn
  exact h.ans hz
theorem DkS.start (B : Nat) (w0 w : World) (g : Nat) (v : Value) (hc : Cur B w0 w g v) : DkS B w0 w g v w.heap.size (w.heap.size + 1) (.slice none 0 0) [] ((w.alloc (.cells #[.slice none 0 0] 26)).alloc (.cells #[.slice none 0 0] 26)) := by
  have hgl := hc.lt
  have hb : Below w.heap.size w ((w.alloc (.cells #[.slice none 0 0] 26)).alloc (.cells #[.slice none 0 0] 26)) := ((Below.refl _ _).alloc (Nat.le_refl _) _).alloc (by simp) _
  exact ⟨hc.kept (row := none) (grown_below hb) (by simp) hc.size (fun k hk => by cases hk), grown_below hb, alloc_fst _ _ (by simp), alloc_snd _ _ _ rfl, World.ownsRow_nil _ _ _ _, ⟨by omega, by omega, by omega, hgl, hc.size⟩, trivial⟩
def DkR' (B : Nat) (w0 w : World) (g : Nat) (v : Value) (i : Value) (wr : World) : Prop :=
  ∃ (m : Nat) (s : Value) (L : List Fl), m ≤ 6 ∧ i = .int .i64 (m : Int) ∧ L.length ≤ m ∧ Hid (∀ f ∈ L, f.n.size ≤ 9 ∧ f.t.size ≤ 20001) ∧ Hid (DkS B w0 w g v w.heap.size (w.heap.size + 1) (s) L wr)
theorem put_sz {L : List Fl} {f : Fl} (h : ∀ f ∈ L, f.n.size ≤ 9 ∧ f.t.size ≤ 20001) (h1 : f.n.size ≤ 9) (h2 : f.t.size ≤ 20001) : ∀ f' ∈ F.put L f, f'.n.size ≤ 9 ∧ f'.t.size ≤ 20001 := fun f' hf => by
  rcases F.mem_put.1 hf with rfl | hf
  · exact ⟨h1, h2⟩
  · exact h f' hf.1
theorem nm_le {y : ByteArray} (h : F.nmB y = true) : y.size ≤ 9 := by
  simp [F.nmB] at h
  omega
theorem wrap_long {y : Nat} (h : y < 3) : IntKind.i64.wrap (19999 + (y : Int)) = ((19999 + y : Nat) : Int) := by
  rw [IntWalk.i64_in _ (by omega)]
  omega
theorem long_in (x : Int) (y : Nat) (w : World) (hx : x = ((19999 + y : Nat) : Int)) (hy : y < 3) :
    Calls Try.prog 81 #[.int .i64 x, .int .u8 65] w fun e w' => ∃ T : ByteArray, T.size ≤ 20001 ∧ e = .returned (.string T) ∧ Below w.heap.size w w' :=
  (l01Long_in x (19999 + y) 65 65 w hx rfl (by omega)).mono fun e w' ⟨he, hb⟩ => ⟨_, by show (List.replicate (19999 + y) (65 : UInt8)).length ≤ 20001; rw [List.length_replicate]; omega, he, hb⟩
theorem decR_len (f : Nat) : ∀ n, (D.decR f n).length ≤ f := by
  induction f with
  | zero => intro n; simp [D.decR]
  | succ f ih =>
    intro n
    rw [D.decR]
    split
    · simp
    · have := ih (n / 10)
      simp
      omega
theorem dec_in (x : Int) (m : Nat) (w : World) (hx : x = ((100 + m : Nat) : Int)) (hm : m ≤ 31) :
    Calls Try.prog 80 #[.int .i64 x] w fun e w' => ∃ T : ByteArray, T.size ≤ 3 ∧ e = .returned (.string T) ∧ Below w.heap.size w w' := by
  subst hx
  refine (D.Decimal_pos (100 + m) w (by omega) (by omega)).mono fun e w' ⟨he, hb⟩ => ⟨_, ?_, he, hb⟩
  have h := decR_len 3 (100 + m)
  rw [D.decR_digits 3 (100 + m) (by omega) (by omega)] at h
  exact h
theorem wrap_hund {m : Nat} (h : m ≤ 31) : IntKind.i64.wrap (100 + (m : Int)) = ((100 + m : Nat) : Int) := by
  rw [IntWalk.i64_in _ (by omega)]
  omega
def D3R (B : Nat) (w0 w : World) (g : Nat) (v : Value) (i : Value) (wr : World) : Prop :=
  ∃ (m : Nat) (s : Value) (L : List Fl), m ≤ 31 ∧ i = .int .i64 (m : Int) ∧ L.length = m ∧ Hid (∀ f ∈ L, f.n.size ≤ 9 ∧ f.t.size ≤ 20001) ∧ Hid (DkS B w0 w g v w.heap.size (w.heap.size + 1) s L wr)
theorem set_sz {L : List Fl} (h : SzD L) (k : Nat) (f : Fl) (h1 : f.n.size ≤ 9) (h2 : f.t.size ≤ 20001) : SzD (L.set k f) :=
  ⟨by rw [List.length_set]; exact h.1, fun f' hf => by
    rcases List.mem_or_eq_of_mem_set hf with hf | rfl
    · exact h.2 f' hf
    · exact ⟨h1, h2⟩⟩
theorem app_sz {L : List Fl} (h : ∀ f ∈ L, f.n.size ≤ 9 ∧ f.t.size ≤ 20001) (f : Fl) (h1 : f.n.size ≤ 9) (h2 : f.t.size ≤ 20001) : ∀ f' ∈ L ++ [f], f'.n.size ≤ 9 ∧ f'.t.size ≤ 20001 := fun f' hf => by
  rcases List.mem_append.1 hf with hf | hf
  · exact h f' hf
  · simp at hf
    subst hf
    exact ⟨h1, h2⟩
theorem pickTwo_in (B : Nat) (w0 w : World) (g : Nat) (v : Value) (x : Int) (hc : Cur B w0 w g v) :
    Calls Try.prog 79 #[.pointer (some ⟨g, 0, none⟩), .slice (some ⟨w.heap.size, 0, none⟩) 2 2] (w.alloc (.cells #[.int .i64 (-1), .int .i64 x] 3)) fun e w' => ∃ y : Int, e = .returned (.int .i64 y) ∧ Cur B w0 w' g v ∧ w.grownBy w' (some g) := by
  have hlt := hc.lt
  have hga : w.grownBy (w.alloc (.cells #[.int .i64 (-1), .int .i64 x] 3)) (some g) := World.grownBy_alloc w _ _
  have hca : Cur B w0 (w.alloc (.cells #[.int .i64 (-1), .int .i64 x] 3)) g v := hc.kept (World.grownBy_alloc w _ none) (by simp) hc.size (fun k hk => by cases hk)
  refine (l01PickInt_in B w0 (w.alloc (.cells #[.int .i64 (-1), .int .i64 x] 3)) g v w.heap.size 2 [-1, x] hca (by simp) (by simp) (by omega) (by simp) ?_).mono fun e w' ⟨y, hy, he, hc', hg⟩ => ⟨y, he, hc', hga.trans hg⟩
  intro j hj
  rw [World.cell?_alloc_at _ _ _ _ rfl]
  have : j = 0 ∨ j = 1 := by simp at hj; omega
  rcases this with rfl | rfl <;> rfl
def badN : List ByteArray := [⟨#[]⟩, ⟨#[49, 50, 51, 52, 53, 54, 55, 56]⟩, ⟨#[49, 50, 51, 52, 53, 54, 55, 56, 57]⟩]
def badNC : Array Value := #[.string ⟨#[]⟩, .string ⟨#[49, 50, 51, 52, 53, 54, 55, 56]⟩, .string ⟨#[49, 50, 51, 52, 53, 54, 55, 56, 57]⟩]
theorem badN_at (w : World) : Hid (∀ j, (h : j < badN.length) → (w.alloc (.cells badNC 9)).cell? ⟨w.heap.size, j, none⟩ = some (.string badN[j])) := by
  intro j hj
  rw [World.cell?_alloc_at _ _ _ _ rfl]
  have : j = 0 ∨ j = 1 ∨ j = 2 := by simp [badN] at hj; omega
  rcases this with rfl | rfl | rfl <;> rfl
theorem badN_ok (y : ByteArray) (h : y ∈ badN) : y.size ≤ 9 := by
  simp only [badN, List.mem_cons, List.not_mem_nil, or_false] at h
  rcases h with rfl | rfl | rfl
  · show 0 ≤ 9; omega
  · show 8 ≤ 9; omega
  · show 9 ≤ 9; omega
theorem pickBad_in (B : Nat) (w0 w : World) (g : Nat) (v : Value) (hc : Cur B w0 w g v) :
    Calls Try.prog 76 #[.pointer (some ⟨g, 0, none⟩), .slice (some ⟨w.heap.size, 0, none⟩) 3 3] (w.alloc (.cells badNC 9)) fun e w' => ∃ y : ByteArray, y.size ≤ 9 ∧ e = .returned (.string y) ∧ Cur B w0 w' g v ∧ w.grownBy w' (some g) := by
  have hlt := hc.lt
  have hga : w.grownBy (w.alloc (.cells badNC 9)) (some g) := World.grownBy_alloc w _ _
  have hca : Cur B w0 (w.alloc (.cells badNC 9)) g v := hc.kept (World.grownBy_alloc w _ none) (by simp) hc.size (fun k hk => by cases hk)
  exact (l01Pick_in B w0 (w.alloc (.cells badNC 9)) g v w.heap.size 3 badN hca (by decide) (by decide) (by omega) (badN_at w)).mono fun e w' ⟨y, hy, he, hc', hg⟩ => ⟨y, badN_ok y hy, he, hc', hga.trans hg⟩

set_option maxRecDepth 100000 in
set_option maxHeartbeats 8000000 in
theorem l06Disk_in (B : Nat) (w0 w : World) (g : Nat) (v : Value) (hc : Cur B w0 w g v) :
    Calls Try.prog 56 #[.pointer (some ⟨g, 0, none⟩)] w (DkA B w0 w g v) := by
  have HS : Hid (DkS B w0 w g v w.heap.size (w.heap.size + 1) (.slice none 0 0) [] ((w.alloc (.cells #[.slice none 0 0] 26)).alloc (.cells #[.slice none 0 0] 26))) := DkS.start B w0 w g v hc
  clear hc
  go_enter Try.func56, Try.ntmps56
  go_wp2
  go_loopw [4] (fun i wr => DkR' B w0 w g v i wr) (fun i _ => 6 - (intOf i).toNat)
  case atStart => exact ⟨0, _, [], by omega, rfl, by simp, fun f hf => absurd hf (by simp), HS⟩
  case round =>
    clear HS
    obtain ⟨m, s, L, hm, rfl, hlm, HO, HS⟩ := hrel
    go_wp2_with fail
    refine (l01Below_nat _ _ _ g v 6 HS.out.cur (by omega) (by omega)).mono ?_
    rintro e w2 ⟨x, hx, rfl, hc2, hg2⟩
    have HS2 : Hid (DkS B w0 w g v w.heap.size (w.heap.size + 1) (s) L w2) := HS.out.call hc2 hg2
    clear HS hc2 hg2
    obtain ⟨aa, cs, hs⟩ := HS2.out.shape
    subst hs
    by_cases hlt : m < x
    · have hi : (m : Int) < (x : Int) := by omega
      go_wp2_with fail
      refine (l01Below_nat _ _ _ g v 9 HS2.out.cur (by omega) (by omega)).mono ?_
      rintro e w3 ⟨y, hy, rfl, hc3, hg3⟩
      have HS3 : Hid (DkS B w0 w g v w.heap.size (w.heap.size + 1) (.slice aa L.length cs) L w3) := HS2.out.call hc3 hg3
      clear HS2 hc3 hg3
      go_wp2_with fail
      refine (l01Text_nat _ _ _ g v y HS3.out.cur (by omega)).mono ?_
      rintro e w4 ⟨l, hl, rfl, hc4, hg4⟩
      have HS4 : Hid (DkS B w0 w g v w.heap.size (w.heap.size + 1) (.slice aa L.length cs) L w4) := HS3.out.call hc4 hg4
      clear HS3 hc4 hg4
      obtain ⟨t, ht⟩ : ∃ t : ByteArray, t = ⟨l.toArray⟩ := ⟨_, rfl⟩
      have hsz : t.size = y := by subst ht; exact hl
      rw [← ht]
      clear ht hl
      go_wp2
      have S0 := HS4.out.drew
      have k0 := HS4.out.cell
      have k1 := S0.cell
      go_region_with (first
        | (go_at_call 51; refine (l06Named_in _ _ _ g v S0.cur).mono ?_; rintro e w5 ⟨x5, hx5, rfl, hc5, hg5⟩; have S1 := S0.call hc5 hg5; have k2 := S1.cell)
        | (go_at_call 48; refine (l01Below_in _ _ _ g v _ (y + 1) (by first | omega | exact wrap_next rfl (by omega)) S1.cur (by omega) (by omega)).mono ?_; rintro e w6 ⟨x6, hx6, rfl, hc6, hg6⟩; have S2 := S1.call hc6 hg6; have k3 := S2.cell; obtain ⟨q2, hr2, _⟩ := S2.rw' (by omega))
        | (go_at_call 50; refine (l06Put_own _ q2 0 L ⟨x5, t, (x6 : Int)⟩ _ hr2.1 (by omega)).mono ?_; rintro e w7 ⟨s7, rfl, ho7⟩; obtain ⟨a7, c7, hs7⟩ := ho7.shape; subst hs7; have S3 := S2.below ho7.2.1; have S4 := S2.put ho7; have t0 := S3.cell; have f0 := S3.fr))
      all_goals
        have HF : Hid (DkS B w0 w g v w.heap.size (w.heap.size + 1) (.slice a7 (F.put L ⟨x5, t, (x6 : Int)⟩).length c7) (F.put L ⟨x5, t, (x6 : Int)⟩) (w7.setCell ⟨w.heap.size + 1, 0, none⟩ (.slice a7 (F.put L ⟨x5, t, (x6 : Int)⟩).length c7))) := S4
        have HK : Hid (∀ f' ∈ F.put L ⟨x5, t, (x6 : Int)⟩, f'.n.size ≤ 9 ∧ f'.t.size ≤ 20001) := put_sz HO.out (nm_le hx5) (by show t.size ≤ 20001; omega)
        have hll := put_len L ⟨x5, t, (x6 : Int)⟩
        clear S0 S1 S2 S3 S4 hr2 ho7 k0 k1 k2 k3 t0 f0 hc5 hg5 hc6 hg6 HS4
        go_wp2
        go_roundw
        case rel => exact ⟨m + 1, _, _, by omega, by go_num, by omega, HK, HF⟩
        case measure => simp [intOf]; omega
    · have hi : ¬ (m : Int) < (x : Int) := by omega
      have HZ : Hid (SzD L) := ⟨by omega, HO.out⟩
      have hL6 : L.length ≤ 6 := by omega
      clear HO hlm
      rcases Nat.eq_zero_or_pos L.length with h0 | h0
      · have hL0 : L = [] := List.eq_nil_of_length_eq_zero h0
        subst hL0
        simp only [List.length_nil] at HS2
        have HN := HS2
        have hln : ([] : List Fl).length = 0 := rfl
        clear HS2 hL6 h0
        have kb0 := HN.out.cell
        have kb1 := HN.out.2.2.2.1.cell
        have kb2 := HN.out.2.2.2.1.fr
        have HF := HN.out.ans' HZ.out hln
        have HF' : Hid _ := HF
        clear HF HN HZ
        go_wp2
        refine ret_rec 2 w.heap.size 26 [_] _ rfl rfl rfl Try.underlying26 rfl sizeDisk HF'.out.1 ?_
        exact HF'.out.2
      · have e0 : ((L.length : Int) == 0) = false := beq_eq_false_iff_ne.2 (by omega)
        have d0 := HS2.out.cell
        go_wp2_with fail
        refine (l01Below_nat _ _ _ g v L.length HS2.out.cur h0 (by omega)).mono ?_
        rintro e w3 ⟨k, hk, rfl, hc3, hg3⟩
        have HS3 : Hid (DkS B w0 w g v w.heap.size (w.heap.size + 1) (.slice aa L.length cs) L w3) := HS2.out.call hc3 hg3
        clear HS2 hc3 hg3 d0
        go_wp2_with fail
        refine (l01Below_nat _ _ _ g v 40 HS3.out.cur (by omega) (by omega)).mono ?_
        rintro e w4 ⟨z, hz, rfl, hc4, hg4⟩
        have HS4 : Hid (DkS B w0 w g v w.heap.size (w.heap.size + 1) (.slice aa L.length cs) L w4) := HS3.out.call hc4 hg4
        clear HS3 hc4 hg4
        obtain ⟨q, hq⟩ : ∃ q, aa = some ⟨q, 0, none⟩ := by
          obtain ⟨q, hr, _⟩ := HS4.out.rw' (by omega)
          obtain ⟨a', c', ev, _, h1, _⟩ := hr.1
          simp at ev
          exact ⟨q, ev.1.trans (h1 h0).1⟩
        subst hq
        have HCE : Hid (∀ W, DkS B w0 w g v w.heap.size (w.heap.size + 1) (.slice (some ⟨q, 0, none⟩) L.length cs) L W → W.cell? ⟨q, k * 3, none⟩ = some (.string (L[k]).n) ∧ W.cell? ⟨q, k * 3 + 1, none⟩ = some (.string (L[k]).t) ∧ W.cell? ⟨q, k * 3 + 2, none⟩ = some (.int .i64 (L[k]).k) ∧ ∀ j, W.frozen? ⟨q, j, none⟩ = false) := fun W hS => by
          obtain ⟨q', hr, _⟩ := hS.rw' (by omega)
          obtain ⟨a', c', ev, _, h1, _⟩ := hr.1
          simp at ev
          have hqq : q' = q := by have := ev.1.trans (h1 h0).1; simpa using this.symm
          subst hqq
          obtain ⟨c0, c1, c2⟩ := hr.1.file k hk
          simp only [Nat.zero_add] at c0 c1 c2
          exact ⟨c0, c1, c2, hS.2.2.2.2.1.frozenAt⟩
        have HLK : Hid ((L[k]).n.size ≤ 9 ∧ (L[k]).t.size ≤ 20001) := HZ.out.2 _ (List.getElem_mem hk)
        have HXK : Hid (∀ (j : Nat) (u : Value) (f : Fl) (W : World), j < 3 → DkS B w0 w g v w.heap.size (w.heap.size + 1) (.slice (some ⟨q, 0, none⟩) L.length cs) L W → fcs f = (fcs L[k]).set j u → DkS B w0 w g v w.heap.size (w.heap.size + 1) (.slice (some ⟨q, 0, none⟩) L.length cs) (L.set k f) (W.setCell ⟨q, k * 3 + j, none⟩ u)) := fun j u f W hj hS hf => hS.store k j hk hj u f hf
        obtain ⟨X, hX⟩ : ∃ X, L[k] = X := ⟨_, rfl⟩
        rw [hX] at HCE HLK HXK
        clear hX
        have i1 : (k : Int) < (L.length : Int) := by omega
        have i2 : (0 : Int) ≤ (k : Int) := by omega
        have hzz : z = 0 ∨ z = 1 ∨ z = 2 ∨ z = 3 ∨ z = 4 ∨ 5 ≤ z := by omega
        rcases hzz with rfl | rfl | rfl | rfl | rfl | hz5
        · have S0 := HS4.out.drew
          have k0 := HS4.out.cell
          have SA := fun o : Obj => S0.below ((Below.refl _ w4.drew).alloc (Nat.le_refl _) o)
          have z0 := (HCE.out _ HS4.out).2.1
          go_wp2
          go_region_held3 (fun W => W.cell? ⟨w.heap.size + 1, 0, none⟩ = some (.slice (some ⟨q, 0, none⟩) L.length cs) ∧ W.cell? ⟨q, k * 3 + 1, none⟩ = some (.string X.t)) (first | exact ⟨(S0).cell, (HCE.out _ (S0)).2.1⟩ | exact ⟨(SA _).cell, (HCE.out _ (SA _)).2.1⟩ | exact ⟨(S1).cell, (HCE.out _ (S1)).2.1⟩ | exact ⟨S2.cell, (set_else (by omega) _).trans (HCE.out _ S1).2.1⟩) ((first | (go_at_call 79; refine (pickTwo_in _ _ _ g v _ S0.cur).mono ?_; rintro e w5 ⟨y5, rfl, hc5, hg5⟩; have S1 := S0.call hc5 hg5; have S2 := HXK.out 2 (.int .i64 y5) ⟨X.n, X.t, y5⟩ _ (by omega) S1 rfl; have p2 := (HCE.out _ S1).2.2.1; have pf := (HCE.out _ S1).2.2.2 (k * 3 + 2))))
          all_goals
            have HN : Hid (DkS B w0 w g v w.heap.size (w.heap.size + 1) (.slice (some ⟨q, 0, none⟩) L.length cs) (L.set k ⟨X.n, X.t, y5⟩) (w5.setCell ⟨q, k * 3 + 2, none⟩ (.int .i64 y5))) := S2
            have HZ2 := set_sz HZ.out k ⟨X.n, X.t, y5⟩ HLK.out.1 HLK.out.2
            clear HZ
            have HZ : Hid (SzD (L.set k ⟨X.n, X.t, y5⟩)) := HZ2
            have hln : (L.set k ⟨X.n, X.t, y5⟩).length = L.length := List.length_set
            clear S0 S1 S2 SA k0 z0 HZ2 HS4 HCE HXK HLK hc5 hg5 p2 pf
            have kb0 := HN.out.cell
            have kb1 := HN.out.2.2.2.1.cell
            have kb2 := HN.out.2.2.2.1.fr
            have HF := HN.out.ans' HZ.out hln
            have HF' : Hid _ := HF
            clear HF HN HZ
            go_wp2
            refine ret_rec 2 w.heap.size 26 [_] _ rfl rfl rfl Try.underlying26 rfl sizeDisk HF'.out.1 ?_
            exact HF'.out.2
        · obtain ⟨n0, n1, n2, _⟩ := HCE.out _ HS4.out
          have k0 := HS4.out.cell
          have hwa : Below w4.heap.size w4 (w4.alloc (.cells #[.string X.n, .string X.t, .int .i64 X.k] 36)) := (Below.refl _ _).alloc (Nat.le_refl _) _
          have HA1 : Hid (DkS B w0 w g v w.heap.size (w.heap.size + 1) (.slice (some ⟨q, 0, none⟩) L.length cs) L (w4.alloc (.cells #[.string X.n, .string X.t, .int .i64 X.k] 36)).drew) := (HS4.out.below hwa).drew
          have HRN : Hid ((w4.alloc (.cells #[.string X.n, .string X.t, .int .i64 X.k] 36)).drew.rangeAt w4.heap.size 0 (fcs X)) := range_new w4 [.string X.n, .string X.t, .int .i64 X.k] 36
          have k2 : (w4.alloc (.cells #[.string X.n, .string X.t, .int .i64 X.k] 36)).cell? ⟨w.heap.size + 1, 0, none⟩ = some (.slice (some ⟨q, 0, none⟩) L.length cs) := HA1.out.cell
          clear hwa
          go_wp2
          go_region_law ((refine step_file rfl _ _ rfl _ _ (.slice (some ⟨q, 0, none⟩) L.length cs) L X (by rfl) HA1.out.of _ (by rfl) HRN.out (by omega) ?_; intro g8 cap8 w9 ho9 hg9; have ho9' := ho9.1; rw [List.length_append] at ho9'; have hs9 := HA1.out.app hg9 ho9.1; have e1 := hs9.1.cell; have f1 := hs9.1.fr))
          all_goals
            have HN : Hid (DkS B w0 w g v w.heap.size (w.heap.size + 1) (.slice (some ⟨g8, 0, none⟩) (L.length + 1) cap8) (L ++ [X]) (w9.setCell ⟨w.heap.size + 1, 0, none⟩ (.slice (some ⟨g8, 0, none⟩) (L.length + 1) cap8))) := hs9.2
            have HZ2 : SzD (L ++ [X]) := ⟨by rw [List.length_append]; simp; omega, app_sz HZ.out.2 X HLK.out.1 HLK.out.2⟩
            clear HZ
            have HZ : Hid (SzD (L ++ [X])) := HZ2
            have hln : (L ++ [X]).length = L.length + 1 := by simp
            clear hs9 e1 f1 ho9 ho9' hg9 HA1 HRN k0 k2 n0 n1 n2 HZ2 HS4 HCE HXK HLK
            have kb0 := HN.out.cell
            have kb1 := HN.out.2.2.2.1.cell
            have kb2 := HN.out.2.2.2.1.fr
            have HF := HN.out.ans' HZ.out hln
            have HF' : Hid _ := HF
            clear HF HN HZ
            go_wp2
            refine ret_rec 2 w.heap.size 26 [_] _ rfl rfl rfl Try.underlying26 rfl sizeDisk HF'.out.1 ?_
            exact HF'.out.2
        · have S0 := HS4.out.drew
          have k0 := HS4.out.cell
          have SA := fun o : Obj => S0.below ((Below.refl _ w4.drew).alloc (Nat.le_refl _) o)
          have z0 := (HCE.out _ HS4.out).2.1
          go_wp2
          go_region_held3 (fun W => W.cell? ⟨w.heap.size + 1, 0, none⟩ = some (.slice (some ⟨q, 0, none⟩) L.length cs)) (first | exact (S0).cell | exact (SA _).cell | exact (S1).cell | exact S2.cell) ((first | (go_at_call 76; refine (pickBad_in _ _ _ g v S0.cur).mono ?_; rintro e w5 ⟨y5, hy5, rfl, hc5, hg5⟩; have S1 := S0.call hc5 hg5; have S2 := HXK.out 0 (.string y5) ⟨y5, X.t, X.k⟩ _ (by omega) S1 rfl; have p2 := (HCE.out _ S1).1; have pf := (HCE.out _ S1).2.2.2 (k * 3))))
          all_goals
            have HN : Hid (DkS B w0 w g v w.heap.size (w.heap.size + 1) (.slice (some ⟨q, 0, none⟩) L.length cs) (L.set k ⟨y5, X.t, X.k⟩) (w5.setCell ⟨q, k * 3, none⟩ (.string y5))) := S2
            have HZ2 := set_sz HZ.out k ⟨y5, X.t, X.k⟩ hy5 HLK.out.2
            clear HZ
            have HZ : Hid (SzD (L.set k ⟨y5, X.t, X.k⟩)) := HZ2
            have hln : (L.set k ⟨y5, X.t, X.k⟩).length = L.length := List.length_set
            clear S0 S1 S2 SA k0 z0 HZ2 HS4 HCE HXK HLK hc5 hg5 p2 pf
            have kb0 := HN.out.cell
            have kb1 := HN.out.2.2.2.1.cell
            have kb2 := HN.out.2.2.2.1.fr
            have HF := HN.out.ans' HZ.out hln
            have HF' : Hid _ := HF
            clear HF HN HZ
            go_wp2
            refine ret_rec 2 w.heap.size 26 [_] _ rfl rfl rfl Try.underlying26 rfl sizeDisk HF'.out.1 ?_
            exact HF'.out.2
        · have hwa : Below w4.heap.size w4 (w4.alloc (.cells #[] 36)) := (Below.refl _ _).alloc (Nat.le_refl _) _
          have SA := HS4.out.below hwa
          have t0 := SA.cell
          have f0 := SA.fr
          have HS5 : Hid (DkS B w0 w g v w.heap.size (w.heap.size + 1) (.slice (some ⟨w4.heap.size, 0, none⟩) 0 0) [] ((w4.alloc (.cells #[] 36)).setCell ⟨w.heap.size + 1, 0, none⟩ (.slice (some ⟨w4.heap.size, 0, none⟩) 0 0))) := SA.lay (World.ownsRow_made w4 #[] 0 HS4.out.size (by decide) (by simp))
          clear hwa SA HS4 HCE HXK HLK HZ
          go_wp2
          go_loopw [7] (fun i wr => D3R B w0 w g v i wr) (fun i _ => 31 - (intOf i).toNat)
          case atStart => exact ⟨0, _, [], by omega, rfl, rfl, fun f hf => absurd hf (by simp), HS5⟩
          case round =>
            clear HS5 t0 f0
            obtain ⟨m3, s3, M, hm3, rfl, hM, HO, HS⟩ := hrel
            go_wp2_with fail
            refine (l01Below_nat _ _ _ g v 2 HS.out.cur (by omega) (by omega)).mono ?_
            rintro e w6 ⟨x6, hx6, rfl, hc6, hg6⟩
            have HS6 : Hid (DkS B w0 w g v w.heap.size (w.heap.size + 1) s3 M w6) := HS.out.call hc6 hg6
            clear HS hc6 hg6
            obtain ⟨a3, c3, hs3⟩ := HS6.out.shape
            subst hs3
            have HM : Hid (M.length = m3) := hM
            have hML : M.length ≤ 31 := by omega
            clear hM
            by_cases hlt3 : (m3 : Int) < 30 + (x6 : Int)
            · have S0 := HS6.out.drew
              have k0 := HS6.out.cell
              have k1 := S0.cell
              have hm30 : m3 ≤ 30 := by omega
              go_wp2
              go_region_law ((first
                | (refine step_file rfl _ _ rfl _ _ (.slice a3 M.length c3) M ⟨⟨#[102]⟩ ++ T, ⟨#[]⟩, 0⟩ (by rfl) SB.of _ (by rfl) HRN (by omega) ?_; intro g8 cap8 w9 ho9 hg9; have hs9 := SB.app hg9 ho9.1; have e1 := hs9.1.cell; have f1 := hs9.1.fr)
                | (go_simp; go_at_call 80; refine (dec_in _ m3 _ (by first | omega | exact wrap_hund hm3) hm3).mono ?_; rintro e w7 ⟨T, hT, rfl, hb7⟩; have hT2 : ¬ 9223372036854775807 < 1 + T.size := (by omega); have S1 := S0.below hb7; have d1 := S1.cell; have SB := S1.below ((Below.refl _ w7).alloc (Nat.le_refl _) (.cells #[.string (⟨#[102]⟩ ++ T), .string ⟨#[]⟩, .int .i64 0] 36)); have d2 := SB.cell; have HRN := range_new w7 [.string (⟨#[102]⟩ ++ T), .string ⟨#[]⟩, .int .i64 0] 36)))
              all_goals
                have HF : Hid (DkS B w0 w g v w.heap.size (w.heap.size + 1) (.slice (some ⟨g8, 0, none⟩) (M.length + 1) cap8) (M ++ [⟨⟨#[102]⟩ ++ T, ⟨#[]⟩, 0⟩]) (w9.setCell ⟨w.heap.size + 1, 0, none⟩ (.slice (some ⟨g8, 0, none⟩) (M.length + 1) cap8))) := hs9.2
                have HK : Hid (∀ f ∈ M ++ [⟨⟨#[102]⟩ ++ T, ⟨#[]⟩, 0⟩], f.n.size ≤ 9 ∧ f.t.size ≤ 20001) := app_sz HO.out _ (by show (⟨#[102]⟩ ++ T : ByteArray).size ≤ 9; rw [ByteArray.size_append]; have : (⟨#[102]⟩ : ByteArray).size = 1 := rfl; omega) (by show 0 ≤ 20001; omega)
                clear S0 S1 SB HRN hs9 e1 f1 ho9 hg9 k0 k1 d1 d2 HS6 HO hb7
                go_wp2
                go_roundw
                case rel => exact ⟨m3 + 1, _, _, by omega, by go_num, by have := HM.out; simp; omega, HK, HF⟩
                case measure => simp [intOf]; omega
            · have HZ : Hid (SzD M) := ⟨by omega, HO.out⟩
              have HN := HS6
              have hln : M.length = M.length := rfl
              clear HS6 HO HM
              have kb0 := HN.out.cell
              have kb1 := HN.out.2.2.2.1.cell
              have kb2 := HN.out.2.2.2.1.fr
              have HF := HN.out.ans' HZ.out hln
              have HF' : Hid _ := HF
              clear HF HN HZ
              go_wp2
              refine ret_rec 2 w.heap.size 26 [_] _ rfl rfl rfl Try.underlying26 rfl sizeDisk HF'.out.1 ?_
              exact HF'.out.2
        · have S0 := HS4.out.drew
          have k0 := HS4.out.cell
          have SA := fun o : Obj => S0.below ((Below.refl _ w4.drew).alloc (Nat.le_refl _) o)
          have z0 := (HCE.out _ HS4.out).2.1
          go_wp2
          go_region_held3 (fun W => W.cell? ⟨w.heap.size + 1, 0, none⟩ = some (.slice (some ⟨q, 0, none⟩) L.length cs)) (first | exact (S0).cell | exact (SA _).cell | exact (S1).cell | exact S2.cell | exact S3.cell) ((first | (go_at_call 48; refine (l01Below_in _ _ _ g v 3 3 rfl S0.cur (by omega) (by omega)).mono ?_; rintro e w5 ⟨y5, hy5, rfl, hc5, hg5⟩; have S1 := S0.call hc5 hg5) | (go_at_call 81; refine (long_in _ y5 _ (by first | omega | exact wrap_long hy5) hy5).mono ?_; rintro e w6 ⟨T, hT, rfl, hb6⟩; have S3 := S1.below hb6; have S2 := HXK.out 1 (.string T) ⟨X.n, T, X.k⟩ _ (by omega) S3 rfl; have p2 := (HCE.out _ S3).2.1; have pf := (HCE.out _ S3).2.2.2 (k * 3 + 1))))
          all_goals
            have HN : Hid (DkS B w0 w g v w.heap.size (w.heap.size + 1) (.slice (some ⟨q, 0, none⟩) L.length cs) (L.set k ⟨X.n, T, X.k⟩) (w6.setCell ⟨q, k * 3 + 1, none⟩ (.string T))) := S2
            have HZ2 := set_sz HZ.out k ⟨X.n, T, X.k⟩ HLK.out.1 hT
            clear HZ
            have HZ : Hid (SzD (L.set k ⟨X.n, T, X.k⟩)) := HZ2
            have hln : (L.set k ⟨X.n, T, X.k⟩).length = L.length := List.length_set
            clear S0 S1 S2 SA k0 z0 HZ2 HS4 HCE HXK HLK hc5 hg5 p2 pf S3 hb6
            have kb0 := HN.out.cell
            have kb1 := HN.out.2.2.2.1.cell
            have kb2 := HN.out.2.2.2.1.fr
            have HF := HN.out.ans' HZ.out hln
            have HF' : Hid _ := HF
            clear HF HN HZ
            go_wp2
            refine ret_rec 2 w.heap.size 26 [_] _ rfl rfl rfl Try.underlying26 rfl sizeDisk HF'.out.1 ?_
            exact HF'.out.2
        · have y0 : ((z : Int) == 0) = false := beq_eq_false_iff_ne.2 (by omega)
          have y1 : ((z : Int) == 1) = false := beq_eq_false_iff_ne.2 (by omega)
          have y2 : ((z : Int) == 2) = false := beq_eq_false_iff_ne.2 (by omega)
          have y3 : ((z : Int) == 3) = false := beq_eq_false_iff_ne.2 (by omega)
          have y4 : ((z : Int) == 4) = false := beq_eq_false_iff_ne.2 (by omega)
          have HN := HS4
          have hln : L.length = L.length := rfl
          clear HS4 HCE HXK HLK
          have kb0 := HN.out.cell
          have kb1 := HN.out.2.2.2.1.cell
          have kb2 := HN.out.2.2.2.1.fr
          have HF := HN.out.ans' HZ.out hln
          have HF' : Hid _ := HF
          clear HF HN HZ
          go_wp2
          refine ret_rec 2 w.heap.size 26 [_] _ rfl rfl rfl Try.underlying26 rfl sizeDisk HF'.out.1 ?_
          exact HF'.out.2

end Go.Proofs.Ytbmlphlknolieaa
