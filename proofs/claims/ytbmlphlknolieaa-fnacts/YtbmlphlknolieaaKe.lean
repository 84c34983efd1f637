/-
  What DrawRightDisk draws: a right disk.
-/
import Derived.Test.YtbmlphlknolieaaKd
namespace Go.Proofs.Ytbmlphlknolieaa
open Go.RowKit Go.BigFrame Go.Sort
set_option linter.unusedVariables false
set_option linter.unusedSimpArgs false

theorem BD.below {W W' : World} {p T B : Nat} {v : Value} (h : BD W p T v) (hb : Below B W W') (hp : p < B) : BD W' p T v := by
  unfold BD at h ⊢
  rw [hb.block p hp]
  exact h
theorem wrap_next {n y : Nat} (h : n = y) (hy : y < 30) : IntKind.i64.wrap ((n : Int) + 1) = ((y + 1 : Nat) : Int) := by
  rw [IntWalk.i64_in _ (by omega)]
  omega

set_option maxRecDepth 100000 in
set_option maxHeartbeats 2000000 in
theorem DrawRightDisk_any (w : World) (v : Value) (hc : Code w.heap.size w v) :
    Calls Try.prog 13 #[v] w fun e w' => ∃ u L, e = .returned u ∧ DkIn w' w.heap.size u L ∧ L.length ≤ 6 ∧ F.DOk L ∧ Below w.heap.size w w' := by
  have hb0 : Below w.heap.size w (w.alloc (.cells #[.slice none 0 0] 26)) := (Below.refl _ _).alloc (Nat.le_refl _) _
  have HC : Hid (Code (w.alloc (.cells #[.slice none 0 0] 26)).heap.size (w.alloc (.cells #[.slice none 0 0] 26)) v) := code_later hc hb0
  have HB : Hid (BD (w.alloc (.cells #[.slice none 0 0] 26)) w.heap.size 26 (.slice none 0 0) ∧ Below w.heap.size w (w.alloc (.cells #[.slice none 0 0] 26))) := ⟨BD.new w _ _, hb0⟩
  clear hc hb0
  go_enter Try.func13, Try.ntmps13
  go_wp2_with fail
  have hs0 : (w.alloc (.cells #[.slice none 0 0] 26)).heap.size = w.heap.size + 1 := by simp
  obtain ⟨V, hV⟩ : ∃ V, w.alloc (.cells #[.slice none 0 0] 26) = V := ⟨_, rfl⟩
  rw [hV] at HC HB hs0 ⊢
  refine (l01New_in V v HC.out).mono ?_
  rintro e w1 ⟨g, rfl, hc1, hb1⟩
  have HS : Hid (DrS V.heap.size V g v w1.heap.size (.slice none 0 0) w1.heap.size [] (w1.alloc (.cells #[.slice none 0 0] 26))) := by
    have hgl := hc1.lt
    have hba : Below w1.heap.size w1 (w1.alloc (.cells #[.slice none 0 0] 26)) := (Below.refl _ _).alloc (Nat.le_refl _) _
    exact ⟨hc1.kept (row := none) (grown_below hba) (by simp) hc1.size (fun k hk => by cases hk), BD.new w1 _ _, RW.nil _ _, hb1.size, by omega, hb1.size, fun h => absurd h (by simp)⟩
  obtain ⟨p, hp⟩ : ∃ p, w1.heap.size = p := ⟨_, rfl⟩
  clear hc1 hb1 HC
  go_wp2
  obtain ⟨W1, hW1⟩ : ∃ W1, w1.alloc (.cells #[.slice none 0 0] 26) = W1 := ⟨_, rfl⟩
  rw [hp] at HS
  rw [hW1] at HS ⊢
  clear hW1 hp
  go_loopw [5] (fun i wr => DrR V.heap.size V g v p i wr) (fun i _ => 6 - (intOf i).toNat)
  case atStart => exact ⟨0, _, _, [], by omega, rfl, by simp, ⟨fun f hf => absurd hf (by simp), List.Pairwise.nil⟩, HS⟩
  case round =>
    clear HS
    obtain ⟨m, s, q, L, hm, rfl, hlm, HO, HS⟩ := hrel
    go_wp2_with fail
    refine (l01Below_nat _ _ _ g v 6 HS.out.cur (by omega) (by omega)).mono ?_
    rintro e w2 ⟨x, hx, rfl, hc2, hg2⟩
    have HS2 : Hid (DrS V.heap.size V g v p s q L w2) := HS.out.grown hc2 hg2
    clear HS hc2 hg2
    by_cases hlt : m < x
    · have hi : (m : Int) < (x : Int) := by omega
      go_wp2_with fail
      refine (l01Below_nat _ _ _ g v 30 HS2.out.cur (by omega) (by omega)).mono ?_
      rintro e w3 ⟨y, hy, rfl, hc3, hg3⟩
      have HS3 : Hid (DrS V.heap.size V g v p s q L w3) := HS2.out.grown hc3 hg3
      clear HS2 hc3 hg3
      go_wp2_with fail
      refine (l01Text_nat _ _ _ g v y HS3.out.cur (by omega)).mono ?_
      rintro e w4 ⟨l, hl, rfl, hc4, hg4⟩
      have HS4 : Hid (DrS V.heap.size V g v p s q L w4) := HS3.out.grown hc4 hg4
      clear HS3 hc4 hg4
      obtain ⟨t, ht⟩ : ∃ t : ByteArray, t = ⟨l.toArray⟩ := ⟨_, rfl⟩
      have hsz : t.size = y := by subst ht; exact hl
      rw [← ht]
      clear ht hl
      obtain ⟨aa, cs, hs⟩ := HS4.out.rs.shape
      subst hs
      go_wp2
      have S0 := HS4.out.drew
      have k0 := HS4.out.cell
      have k1 := S0.cell
      go_region_with (first
        | (go_at_call 51; refine (l06Named_in _ _ _ g v S0.cur).mono ?_; rintro e w5 ⟨x5, hx5, rfl, hc5, hg5⟩; have S1 := S0.grown hc5 hg5; have k2 := S1.cell)
        | (go_at_call 48; refine (l01Below_in _ _ _ g v _ (y + 1) (by first | omega | exact wrap_next rfl hy) S1.cur (by omega) (by omega)).mono ?_; rintro e w6 ⟨x6, hx6, rfl, hc6, hg6⟩; have S2 := S1.grown hc6 hg6; have k3 := S2.cell)
        | (go_at_call 50; refine (l06Put_any _ q 0 L ⟨x5, t, (x6 : Int)⟩ _ S2.rs (by omega)).mono ?_; rintro e w7 ⟨u7, rfl, hu7, hb7⟩; obtain ⟨a7, c7, q7, rfl, hr7, hq7, _⟩ := hu7.open'; have S3 := S2.below hb7; have S4 := S2.put hb7 hr7 hq7; have t0 := S3.cell; have f0 := S3.fr))
      all_goals
        have HF : Hid (DrS V.heap.size V g v p (.slice a7 (F.put L ⟨x5, t, (x6 : Int)⟩).length c7) q7 (F.put L ⟨x5, t, (x6 : Int)⟩) (w7.setCell ⟨p, 0, none⟩ (.slice a7 (F.put L ⟨x5, t, (x6 : Int)⟩).length c7))) := S4
        have HK : Hid ((∀ f' ∈ F.put L ⟨x5, t, (x6 : Int)⟩, F.flB f' = true) ∧ F.Srt (F.put L ⟨x5, t, (x6 : Int)⟩)) := put_ok HO.out _ (F.flB_iff.2 ⟨hx5, by show t.size ≤ 20000; omega, by show (0 : Int) ≤ (x6 : Int); omega, by show (x6 : Int) ≤ (t.size : Int); omega⟩)
        have hll := put_len L ⟨x5, t, (x6 : Int)⟩
        clear S0 S1 S2 S3 S4 hr7 hq7 hu7 hb7 k0 k1 k2 k3 t0 f0 hc5 hg5 hc6 hg6 HS4
        go_wp2
        go_roundw
        case rel => exact ⟨m + 1, _, q7, _, by omega, by go_num, by omega, HK, HF⟩
        case measure => simp [intOf]; omega
    · have hi : ¬ (m : Int) < (x : Int) := by omega
      obtain ⟨aa, cs, hs⟩ := HS2.out.rs.shape
      subst hs
      have k0 := HS2.out.cell
      have hcur := HS2.out.cur
      have hrb := HB.out.1.below hcur.2.1 (by omega)
      have t0 := hrb.cell
      have f0 := hrb.fr
      have HDO : Hid (F.DOk L) := ⟨by omega, HO.out.1, HO.out.2⟩
      have hq := HS2.out.2.2.2.2.2.1
      have hg9 := grown_set w2 w.heap.size 0 (.slice aa L.length cs)
      have HF : Hid ((w2.setCell ⟨w.heap.size, 0, none⟩ (.slice aa L.length cs)).rangeAt w.heap.size 0 [.slice aa L.length cs] ∧ RW 3 fcs (w2.setCell ⟨w.heap.size, 0, none⟩ (.slice aa L.length cs)) (.slice aa L.length cs) q L ∧ Below w.heap.size w (w2.setCell ⟨w.heap.size, 0, none⟩ (.slice aa L.length cs)) ∧ w.heap.size ≤ q) :=
        ⟨range1 (set_here t0 f0 _), HS2.out.2.2.1.grown hg9 (fun _ => by simp; omega), (HB.out.2.trans (hcur.2.1.mono (by omega))).setCell (p := ⟨w.heap.size, 0, none⟩) (by simp) _, by omega⟩
      clear HS2 HO hcur hrb hg9 HB
      go_wp2
      refine ret_rec 2 w.heap.size 26 [.slice aa L.length cs] _ rfl rfl rfl Try.underlying26 rfl sizeDisk HF.out.1 ?_
      exact ⟨_, L, rfl, ⟨_, q, rfl, HF.out.2.1, HF.out.2.2.2⟩, by omega, HDO.out, HF.out.2.2.1⟩

end Go.Proofs.Ytbmlphlknolieaa
