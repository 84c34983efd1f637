/-
  Texts laid together: Sgu.
-/
import Derived.Test.YtaejeemjndmjcaaDoorPkS31
import Derived.Deep.RegionLaw
/-
  What the specification's SignText answers where it signs.
-/
namespace Go.Proofs.YtaejeemjndmjcaaDoor
open Go.RowKit Go.BigFrame
set_option linter.unusedVariables false
set_option linter.unusedSimpArgs false

theorem lockB_size (x : ByteArray) (h : x.size ≤ 200) : (lockB x).size = 16 := by
  unfold lockB
  refine hashB_size ?_
  rw [tagOk_one 6 x (by omega)]
  simpa using h
theorem pubB_size (s : ByteArray) (a : Nat) (h : s.size ≤ 100) : (pubB s a).size = 16 := by
  unfold pubB
  refine hashB_size ?_
  refine tagOk_yes _ _ ⟨by omega, by rw [locksL_len]; omega⟩ ?_
  intro m hm
  rw [locksL_at, lockB_size _ (by rw [secB_size _ _ _ _ h]; omega)]
  omega

/-- what each round up holds -/
def SuR (a : Nat) (l O S : List ByteArray) (w : World) (p : Nat) (n k : Value) (wr : World) : Prop :=
  ∃ (j : Nat) (v1 v2 v3 : Value) (g cap : Nat), j ≤ 4 ∧ n = .slice (some ⟨g, 0, none⟩) (16 / 2 ^ j) cap ∧ k = .int .i64 (a / 2 ^ j : Nat) ∧ TrR w.heap.size w wr v1 v2 v3 O S (sdN l a j) ∧ SgM wr p a v1 v2 v3 ∧ SgM wr w.heap.size 0 (.slice none 0 0) (.slice none 0 0) (.slice none 0 0) ∧ SS wr (.slice (some ⟨g, 0, none⟩) (16 / 2 ^ j) cap) g 0 (upN l j) ∧ some g ≠ v3.ownBlock
theorem SS.neS {w : World} {v v1 v2 v3 : Value} {g p : Nat} {x : Int} {l : List ByteArray} (h : SS w v g 0 l) (h0 : 0 < l.length) (hs : SgM w p x v1 v2 v3) : some g ≠ some p := by
  intro e
  simp at e
  subst e
  obtain ⟨_, _, _, _, _, hc⟩ := h
  have h1 := hc 0 h0
  rw [hs.c0] at h1
  simp at h1

set_option maxRecDepth 100000 in
set_option maxHeartbeats 4000000 in
theorem sSignText_yes (s t : ByteArray) (v : Value) (ga oa a : Nat) (l : List ByteArray) (w : World) (hv : SS w v ga oa l) (hl : l.length = 16) (ha : a ≤ 15) (hs : s.size ≤ 100) (ht : t.size ≤ 200) (hk : gB l a = pubB s a) :
    Calls Tryd.prog 91 #[.string s, v, .int .i64 a, .string t] w fun e w' => ∃ v, e = .returned (.tuple #[v, .bool true]) ∧ SigIn w' w.heap.size v a (opN s a (bitsB t) 8) (shN s a (bitsB t) 8) (sdN l a 4) ∧ Below w.heap.size w w' := by
  have hB0 : Below w.heap.size w (w.alloc (.cells zSig 28)) := (Below.refl _ _).alloc (Nat.le_refl _) _
  have hS0 : SgM (w.alloc (.cells zSig 28)) w.heap.size 0 (.slice none 0 0) (.slice none 0 0) (.slice none 0 0) := SgM.new w 0 _ _ _
  have hsz0 : (w.alloc (.cells zSig 28)).heap.size = w.heap.size + 1 := by simp
  have H0 : Hid (Below w.heap.size w (w.alloc (.cells zSig 28)) ∧ SgM (w.alloc (.cells zSig 28)) w.heap.size 0 (.slice none 0 0) (.slice none 0 0) (.slice none 0 0) ∧ (w.alloc (.cells zSig 28)).heap.size = w.heap.size + 1) := ⟨hB0, hS0, hsz0⟩
  have HL : Hid (l.length = 16) := hl
  have hpc := sPublicOf_yes s a (w.alloc (.cells zSig 28)) hs ha
  have hps := pubB_size s a hs
  have hnn := not_nil (D := pubB s a) (by omega)
  have HSS : Hid (∀ W, Below w.heap.size w W → SS W v ga oa l) := fun W hW => hv.below hW hv.lt
  have hcell : ∀ W, Below w.heap.size w W → W.cell? ⟨ga, oa + a, none⟩ = some (.string (pubB s a)) := fun W hW => by
    obtain ⟨_, _, _, _, _, hc⟩ := hv.below hW hv.lt
    have := hc a (by omega)
    rw [gB_eq, hk] at this
    exact this
  have HCL : Hid (∀ W, Below w.heap.size w W → W.cell? ⟨ga, oa + a, none⟩ = some (.string (pubB s a))) := hcell
  obtain ⟨x, cap, rfl, _, hA, hcc⟩ := hv
  have ea := hA (by omega)
  subst ea
  rw [hl] at HSS ⊢
  have hd : decide ((0 : Int) ≤ (a : Int) ∧ (a : Int) ≤ 15) = true := by simp; omega
  clear hA hcc hl hcell hB0 hS0 hsz0 hk
  generalize pubB s a = K at *
  go_enter Tryd.func91, Tryd.ntmps91
  go_wp2_with fail
  refine (l01In_any _ _ _ _).mono ?_
  rintro e w1 ⟨rfl, rfl⟩
  go_wp2_with fail
  refine hpc.mono ?_
  rintro e w2 ⟨rfl, hb2⟩
  have b2 := H0.out.1.trans (hb2.mono H0.out.1.size)
  have hS2 := H0.out.2.1.later hb2
  have c0 := HCL.out w2 b2
  have i1 : (a : Int) < 16 := by omega
  have i2 : (0 : Int) ≤ (a : Int) := by omega
  have hlt2 := hS2.lt
  have hS3 : SgM (w2.alloc (.cells #[.int .i64 (a : Int), .slice none 0 0, .slice none 0 0, .slice none 0 0] 28)) w2.heap.size a (.slice none 0 0) (.slice none 0 0) (.slice none 0 0) := SgM.new _ _ _ _ _
  have hb3 : Below w2.heap.size w2 (w2.alloc (.cells #[.int .i64 (a : Int), .slice none 0 0, .slice none 0 0, .slice none 0 0] 28)) := (Below.refl _ _).alloc (Nat.le_refl _) _
  have H3 : Hid (Below w.heap.size w (w2.alloc (.cells #[.int .i64 (a : Int), .slice none 0 0, .slice none 0 0, .slice none 0 0] 28)) ∧ SgM (w2.alloc (.cells #[.int .i64 (a : Int), .slice none 0 0, .slice none 0 0, .slice none 0 0] 28)) w2.heap.size a (.slice none 0 0) (.slice none 0 0) (.slice none 0 0) ∧ SgM (w2.alloc (.cells #[.int .i64 (a : Int), .slice none 0 0, .slice none 0 0, .slice none 0 0] 28)) w.heap.size 0 (.slice none 0 0) (.slice none 0 0) (.slice none 0 0)) := ⟨b2.trans (hb3.mono b2.size), hS3, hS2.later hb3⟩
  have hbb := bitsB_lt t
  obtain ⟨b, hbe⟩ : ∃ b, bitsB t = b := ⟨_, rfl⟩
  have HBE : Hid (bitsB t = b) := hbe
  have hcs := sSignBitsOf_any t (w2.alloc (.cells #[.int .i64 (a : Int), .slice none 0 0, .slice none 0 0, .slice none 0 0] 28))
  rw [hbe] at hbb hcs
  have hpB : w.heap.size ≤ w2.heap.size := by omega
  have hpne : w.heap.size ≠ w2.heap.size := by omega
  clear hpc H0 hb2 b2 hS2 hS3 hb3 hbe
  go_wp2_with fail
  refine hcs.mono ?_
  rintro e w4 ⟨rfl, hb4⟩
  have HST : Hid (SnR s a b [] w w2.heap.size (.int .i64 0) w4) := by
    have b4 := H3.out.1.trans (hb4.mono H3.out.1.size)
    have hn2 := OS.nil3 b4 b4.size
    exact ⟨0, _, _, _, by omega, rfl, ⟨⟨hn2, hn2, by simp [Value.ownBlock]⟩, ⟨hn2, hn2, by simp [Value.ownBlock]⟩, ⟨hn2, hn2, by simp [Value.ownBlock]⟩⟩, H3.out.2.1.later hb4, H3.out.2.2.later hb4⟩
  clear hcs H3 hb4 c0 hnn
  generalize w2.heap.size = p at *
  go_wp2
  go_loopw [13] (fun i wr => SnR s a b [] w p i wr) (fun i _ => 8 - (intOf i).toNat)
  case atStart => exact HST.out
  case round =>
    obtain ⟨m, v1, v2, v3, hm, rfl, htr, hsg, hs0⟩ := hrel
    clear HST
    by_cases hlt : m < 8
    · have i3 : (m : Int) < 8 := by omega
      have hbit := bitN_lt b m
      have hbw := htr.below
      have HN : Hid (∀ v1 v2 W, TrR w.heap.size w W v1 v2 v3 (opN s a b m ++ [secB s a m (bitN b m)]) (shN s a b m ++ [lockB (secB s a m (1 - bitN b m))]) [] → SgM W p a v1 v2 v3 → SgM W w.heap.size 0 (.slice none 0 0) (.slice none 0 0) (.slice none 0 0) → SnR s a b [] w p (.int .i64 ((m : Int) + 1)) W) :=
        fun v1 v2 W h1 h2 h3 => ⟨m + 1, v1, v2, v3, by omega, by simp, h1, h2, h3⟩
      have HC1 : Hid (∀ W, Calls Tryd.prog 80 #[.string s, .int .i64 (a : Int), .int .i64 (m : Int), .int .i64 (bitN b m : Int)] W fun e w' => e = .returned (.string (secB s a m (bitN b m))) ∧ Below W.heap.size W w') := fun W => sSecretOf_at s a m (bitN b m) _ _ _ W rfl rfl rfl hs ha (by omega) (by omega)
      have HC2 : Hid (∀ W, Calls Tryd.prog 80 #[.string s, .int .i64 (a : Int), .int .i64 (m : Int), .int .i64 (1 - (bitN b m : Int))] W fun e w' => e = .returned (.string (secB s a m (1 - bitN b m))) ∧ Below W.heap.size W w') := fun W => sSecretOf_at s a m (1 - bitN b m) _ _ _ W rfl rfl (by omega) hs ha (by omega) (by omega)
      have HC3 : Hid (∀ W, Calls Tryd.prog 46 #[.string (secB s a m (1 - bitN b m))] W fun e w' => e = .returned (.string (lockB (secB s a m (1 - bitN b m)))) ∧ Below W.heap.size W w') := fun W => sLockOf_any _ W
      have hol := opN_len s a b m
      have hsl := shN_len s a b m
      go_wp2_with fail
      refine (sBitOf_at b m _ _ hbb rfl (by omega)).mono ?_
      rintro e w7 ⟨rfl, rfl⟩
      generalize secB s a m (bitN b m) = K1 at *
      generalize lockB (secB s a m (1 - bitN b m)) = K3 at *
      generalize secB s a m (1 - bitN b m) = K2 at *
      generalize opN s a b m = O at *
      generalize shN s a b m = S at *
      generalize bitN b m = c at *
      have hwc : IntKind.i64.wrap (1 - (c : Int)) = 1 - (c : Int) := IntWalk.i64_in _ (by omega)
      go_wp2
      have c1 := hsg.c1
      have HA1 : Hid (∀ W, Below w7.heap.size w7 W → TrR w.heap.size w (W.alloc (.cells #[.string K1] 9)) v1 v2 v3 O S [] ∧ SgM (W.alloc (.cells #[.string K1] 9)) p a v1 v2 v3 ∧ SgM (W.alloc (.cells #[.string K1] 9)) w.heap.size 0 (.slice none 0 0) (.slice none 0 0) (.slice none 0 0) ∧ W.cell? ⟨p, 1, none⟩ = some v1) := fun W hW => by
        have hA : Below W.heap.size W (W.alloc (.cells #[.string K1] 9)) := (Below.refl _ _).alloc (Nat.le_refl _) _
        exact ⟨(htr.later hW).later hA, (hsg.later hW).later hA, (hs0.later hW).later hA, (hsg.later hW).c1⟩
      clear htr hsg hs0
      go_region_law ((first
        | (refine step_tr rfl _ _ rfl w.heap.size w v1 v2 v3 O S [] K1 (by rfl) (HA1.out _ hb8).1 _ (by rfl) (one_text _ _ _) (by omega) (m + 1) (by omega) ?_; intro g8 cap8 w9 htr9 hgr9; have hsg9 := (HA1.out _ hb8).2.1.keptO (HA1.out _ hb8).1.1.1 hgr9; have hs09 := (HA1.out _ hb8).2.2.1.keptO (HA1.out _ hb8).1.1.1 hgr9; have e1 := hsg9.c1; have f1 := hsg9.fr 1)
        | (go_simp; go_at_call 80; refine (HC1.out _).mono ?_; rintro e w8 ⟨rfl, hb8x⟩; have hb8 : Below w7.heap.size w7 w8 := (Below.refl _ _).drew.trans hb8x; have d1 := (HA1.out _ hb8).2.2.2; have d2 := (HA1.out _ hb8).2.1.c1)))
      all_goals
        have htr10 := htr9.set hsg9 hpB 1 (.slice (some ⟨g8, 0, none⟩) (m + 1) cap8)
        have hsg10 := hsg9.set1 (.slice (some ⟨g8, 0, none⟩) (m + 1) cap8)
        have hs010 := hs09.keep (heap_setCell_other w9 ⟨p, 1, none⟩ w.heap.size (.slice (some ⟨g8, 0, none⟩) (m + 1) cap8) hpne)
        clear htr9 hsg9 hs09 hgr9 e1 f1 d1 d2 c1 hb8 hb8x HA1 HC1
        go_wp2
        generalize w9.setCell ⟨p, 1, none⟩ (.slice (some ⟨g8, 0, none⟩) (m + 1) cap8) = w10 at *
        have c2 := hsg10.c2
        have HA2 : Hid (∀ W, Below w10.heap.size w10 W → TrR w.heap.size w (W.alloc (.cells #[.string K3] 9)) v2 v3 (.slice (some ⟨g8, 0, none⟩) (m + 1) cap8) S [] (O ++ [K1]) ∧ SgM (W.alloc (.cells #[.string K3] 9)) p a (.slice (some ⟨g8, 0, none⟩) (m + 1) cap8) v2 v3 ∧ SgM (W.alloc (.cells #[.string K3] 9)) w.heap.size 0 (.slice none 0 0) (.slice none 0 0) (.slice none 0 0) ∧ W.cell? ⟨p, 2, none⟩ = some v2) := fun W hW => by
          have hA : Below W.heap.size W (W.alloc (.cells #[.string K3] 9)) := (Below.refl _ _).alloc (Nat.le_refl _) _
          exact ⟨((htr10.later hW).later hA).rot, (hsg10.later hW).later hA, (hs010.later hW).later hA, (hsg10.later hW).c2⟩
        clear htr10 hsg10 hs010
        go_region_law ((first
          | (refine step_tr rfl _ _ rfl w.heap.size w v2 v3 _ S [] (O ++ [K1]) K3 (by rfl) (HA2.out _ hb12).1 _ (by rfl) (one_text _ _ _) (by omega) (m + 1) (by omega) ?_; intro g13 cap13 w13 htr13 hgr13; have hsg13 := (HA2.out _ hb12).2.1.keptO (HA2.out _ hb12).1.1.1 hgr13; have hs013 := (HA2.out _ hb12).2.2.1.keptO (HA2.out _ hb12).1.1.1 hgr13; have e1 := hsg13.c2; have f1 := hsg13.fr 2)
          | (go_simp; go_at_call 80; refine (HC2.out _).mono ?_; rintro e w11 ⟨rfl, hb11x⟩; have hb11 : Below w10.heap.size w10 w11 := (Below.refl _ _).drew.trans hb11x; have d1 := (HA2.out _ hb11).2.2.2)
          | (go_simp; go_at_call 46; refine (HC3.out _).mono ?_; rintro e w12 ⟨rfl, hb12x⟩; have hb12 : Below w10.heap.size w10 w12 := hb11.trans (hb12x.mono hb11.size); have d2 := (HA2.out _ hb12).2.2.2; have d3 := (HA2.out _ hb12).2.1.c2)))
        all_goals
          have HF : Hid _ := HN.out _ _ _ ((htr13.set hsg13 hpB 2 (.slice (some ⟨g13, 0, none⟩) (m + 1) cap13)).rot.rot) (hsg13.set2 (.slice (some ⟨g13, 0, none⟩) (m + 1) cap13)) (hs013.keep (heap_setCell_other w13 ⟨p, 2, none⟩ w.heap.size (.slice (some ⟨g13, 0, none⟩) (m + 1) cap13) hpne))
          clear htr13 hsg13 hs013 hgr13 e1 f1 d1 d2 d3 c2 hb11 hb11x hb12 hb12x HA2
          go_wp2
          go_roundw
          case rel => exact HF.out
          case measure => simp [intOf]; omega
    · have hme : m = 8 := by omega
      subst hme
      have l1 := opN_len s a b 8
      have l2 := shN_len s a b 8
      obtain ⟨O, hO⟩ : ∃ O, opN s a b 8 = O := ⟨_, rfl⟩
      obtain ⟨S, hS⟩ : ∃ S, shN s a b 8 = S := ⟨_, rfl⟩
      have HOS : Hid (opN s a b 8 = O ∧ shN s a b 8 = S ∧ O.length = 8 ∧ S.length = 8) := ⟨hO, hS, by rw [← hO]; exact l1, by rw [← hS]; exact l2⟩
      rw [hO, hS] at htr
      clear hO hS l1 l2
      have hA0 : Below wr.heap.size wr (wr.alloc (.cells #[] 9)) := (Below.refl _ _).alloc (Nat.le_refl _) _
      have hss := HSS.out _ (htr.below.trans (hA0.mono htr.1.1.2.2))
      go_wp2_with (at_builtin; refine wp_appRow rfl _ _ rfl wr.heap.size wr _ _ [] l rfl (OS.made wr) rfl ga oa hss ?c0 ?c1 ?_)
      case c0 => rw [HL.out]; omega
      case c1 => rw [HL.out]; simp
      intro v14 w14 hos14 _
      have htr14 := htr.later hos14.2.1
      have hsg14 := hsg.later hos14.2.1
      have hs014 := hs0.later hos14.2.1
      rcases hos14.shape with ⟨_, hz⟩ | ⟨g14, cap14, rfl, hg14, hlt14⟩
      · have := HL.out
        rw [hz] at this
        simp at this
      have hls : l.length = 16 := HL.out
      rw [hls] at hos14 ⊢
      have HS2 : Hid (SuR a l O S w p (.slice (some ⟨g14, 0, none⟩) 16 cap14) (.int .i64 (a : Int)) w14) := by
        obtain ⟨g', hs'⟩ := hos14.ss (by rw [hls]; omega)
        have hg' : g' = g14 := by
          obtain ⟨_, _, hvx, _, hAx, _⟩ := hs'
          have := hAx (by rw [hls]; omega)
          simp at hvx
          rw [this] at hvx
          simp at hvx
          exact hvx.1.symm
        subst hg'
        refine ⟨0, v1, v2, v3, g', cap14, by omega, by simp, by simp, htr14, hsg14, hs014, hs', ?_⟩
        intro he
        have := (htr.2.1.2.1.1.lt g' he.symm).2
        omega
      clear htr hsg hs0 hos14 htr14 hsg14 hs014 hss hA0
      go_wp2
      go_loopw [15, 16] (fun n k wr => SuR a l O S w p n k wr) (fun n _ _ => lenOf n)
      case atStart => exact HS2.out
      case round =>
        obtain ⟨j, v1, v2, v3, g, cap2, hj, rfl, rfl, htr, hsg, hs0, hss, hne⟩ := hrel
        clear HS2 hlt14 hg14
        have hpw := upN_pow l HL.out j hj
        by_cases hlt4 : j < 4
        · have hq15 : a / 2 ^ j ≤ 15 := Nat.le_trans (Nat.div_le_self _ _) ha
          have hqn : a / 2 ^ j < 16 / 2 ^ j ∧ (16 / 2 ^ j) % 2 = 0 ∧ 1 < 16 / 2 ^ j ∧ 16 / 2 ^ j ≤ 16 := by
            have h0 : j = 0 ∨ j = 1 ∨ j = 2 ∨ j = 3 := by omega
            rcases h0 with rfl | rfl | rfl | rfl <;> simp <;> omega
          have hxl := (xor1 _ hq15).2 _ hqn.2.1 hqn.1
          have hxc : ∀ W, SS W (.slice (some ⟨g, 0, none⟩) (16 / 2 ^ j) cap2) g 0 (upN l j) → W.cell? ⟨g, (a / 2 ^ j) ^^^ 1, none⟩ = some (.string (gB (upN l j) ((a / 2 ^ j) ^^^ 1))) := fun W hW => by
            obtain ⟨_, _, _, _, _, hc⟩ := hW
            have := hc ((a / 2 ^ j) ^^^ 1) (by rw [hpw]; exact hxl)
            rw [gB_eq, Nat.zero_add] at this
            exact this
          have HXC : Hid (∀ W, SS W (.slice (some ⟨g, 0, none⟩) (16 / 2 ^ j) cap2) g 0 (upN l j) → W.cell? ⟨g, (a / 2 ^ j) ^^^ 1, none⟩ = some (.string (gB (upN l j) ((a / 2 ^ j) ^^^ 1)))) := hxc
          have hq2 : a / 2 ^ (j + 1) = a / 2 ^ j / 2 := by rw [Nat.pow_succ, Nat.div_div_eq_div_mul]
          have hn2 : 16 / 2 ^ (j + 1) = 16 / 2 ^ j / 2 := by rw [Nat.pow_succ, Nat.div_div_eq_div_mul]
          have hdl := sdN_len l a j
          have HUP : Hid (∀ W, SS W (.slice (some ⟨g, 0, none⟩) (16 / 2 ^ j) cap2) g 0 (upN l j) → Calls Tryd.prog 52 #[.slice (some ⟨g, 0, none⟩) (16 / 2 ^ j) cap2] W fun e w' => ∃ g2 cap3, e = .returned (.slice (some ⟨g2, 0, none⟩) (16 / 2 ^ j / 2) cap3) ∧ W.heap.size ≤ g2 ∧ Below W.heap.size W w' ∧ SS w' (.slice (some ⟨g2, 0, none⟩) (16 / 2 ^ j / 2) cap3) g2 0 (upN l (j + 1))) := fun W hW => by
            refine (l05Up_any _ g 0 (upN l j) W hW (by rw [hpw]; omega)).mono ?_
            rintro e w' ⟨u, rfl, hos⟩
            have hul : (upL (upN l j)).length = 16 / 2 ^ j / 2 := by rw [upL_len, hpw]
            rcases hos.shape with ⟨_, hz⟩ | ⟨g2, cap3, rfl, hg2, _⟩
            · rw [hz] at hul
              simp at hul
              omega
            · rw [hul] at hos ⊢
              exact ⟨g2, cap3, rfl, hg2, hos.2.1, (hos.tb.ts _ _ hul (by omega)).ss⟩
          have HN : Hid (∀ v3 W g2 cap3, TrR w.heap.size w W v1 v2 v3 O S (sdN l a j ++ [gB (upN l j) ((a / 2 ^ j) ^^^ 1)]) → SgM W p a v1 v2 v3 → SgM W w.heap.size 0 (.slice none 0 0) (.slice none 0 0) (.slice none 0 0) → SS W (.slice (some ⟨g2, 0, none⟩) (16 / 2 ^ j / 2) cap3) g2 0 (upN l (j + 1)) → some g2 ≠ v3.ownBlock → SuR a l O S w p (.slice (some ⟨g2, 0, none⟩) (16 / 2 ^ j / 2) cap3) (.int .i64 ((a / 2 ^ j / 2 : Nat) : Int)) W) :=
            fun v3 W g2 cap3 h1 h2 h3 h4 h5 => ⟨j + 1, v1, v2, v3, g2, cap3, by omega, by rw [hn2], by rw [hq2], h1, h2, h3, by rw [hn2]; exact h4, h5⟩
          have hup0 : 0 < (upN l j).length := by rw [hpw]; omega
          have HA3 : Hid (TrR w.heap.size w (wr.drew.alloc (.cells #[.string (gB (upN l j) ((a / 2 ^ j) ^^^ 1))] 9)) v3 v1 v2 (sdN l a j) O S ∧ SgM (wr.drew.alloc (.cells #[.string (gB (upN l j) ((a / 2 ^ j) ^^^ 1))] 9)) p a v1 v2 v3 ∧ SgM (wr.drew.alloc (.cells #[.string (gB (upN l j) ((a / 2 ^ j) ^^^ 1))] 9)) w.heap.size 0 (.slice none 0 0) (.slice none 0 0) (.slice none 0 0) ∧ SS (wr.drew.alloc (.cells #[.string (gB (upN l j) ((a / 2 ^ j) ^^^ 1))] 9)) (.slice (some ⟨g, 0, none⟩) (16 / 2 ^ j) cap2) g 0 (upN l j)) := by
            have hA : Below wr.heap.size wr (wr.drew.alloc (.cells #[.string (gB (upN l j) ((a / 2 ^ j) ^^^ 1))] 9)) := (Below.refl _ _).drew.alloc (Nat.le_refl _) _
            exact ⟨(htr.later hA).rot.rot, hsg.later hA, hs0.later hA, hss.below hA hss.lt⟩
          have c3 := hsg.c3
          have cx := hxc wr hss
          have d3 := HA3.out.2.1.c3
          have dx := hxc _ HA3.out.2.2.2
          have hpl : p < wr.heap.size := hsg.lt
          clear htr hsg hs0 hss hxc hq2 hn2 hpw
          generalize gB (upN l j) ((a / 2 ^ j) ^^^ 1) = X at *
          obtain ⟨D, hD⟩ : ∃ D, sdN l a j = D := ⟨_, rfl⟩
          rw [hD] at HN HA3 hdl
          clear hD
          generalize a / 2 ^ j = q at *
          generalize 16 / 2 ^ j = n at *
          have hx3 := xor_i q hq15
          generalize q ^^^ 1 = y at *
          have i4 : (y : Int) < (n : Int) := by omega
          have i5 : (0 : Int) ≤ (y : Int) := by omega
          have i6 : (1 : Int) < (n : Int) := by omega
          have HNE : Hid (some g ≠ v3.ownBlock ∧ 0 < (upN l j).length) := ⟨hne, hup0⟩
          clear hne hup0
          go_wp2
          go_region_law ((first | (refine step_tr rfl _ _ rfl w.heap.size w v3 v1 v2 D O S X (by rfl) HA3.out.1 _ (by rfl) (one_text _ _ _) (by omega) (j + 1) (by omega) ?_; intro g15 cap15 w15 htr15 hgr15; have hsg15 := HA3.out.2.1.keptO HA3.out.1.1.1 hgr15; have hs015 := HA3.out.2.2.1.keptO HA3.out.1.1.1 hgr15; have hss15 := HA3.out.2.2.2.keptG hgr15 HNE.out.1; have e3 := hsg15.c3; have f3 := hsg15.fr 3)))
          all_goals
            have htr16 := (htr15.set hsg15 hpB 3 (.slice (some ⟨g15, 0, none⟩) (j + 1) cap15)).rot
            have hsg16 := hsg15.set3 (.slice (some ⟨g15, 0, none⟩) (j + 1) cap15)
            have hs016 := hs015.keep (heap_setCell_other w15 ⟨p, 3, none⟩ w.heap.size (.slice (some ⟨g15, 0, none⟩) (j + 1) cap15) hpne)
            have hss16 := hss15.keptG (grown_set w15 p 3 (.slice (some ⟨g15, 0, none⟩) (j + 1) cap15)) (hss15.neS HNE.out.2 hsg15)
            clear htr15 hsg15 hs015 hss15 hgr15 e3 f3 c3 cx d3 dx HA3
            generalize w15.setCell ⟨p, 3, none⟩ (.slice (some ⟨g15, 0, none⟩) (j + 1) cap15) = w16 at *
            go_wp2_with fail
            refine (HUP.out _ hss16).mono ?_
            rintro e w17 ⟨g2, cap3, rfl, hg2, hb17, hss17⟩
            have hne17 : some g2 ≠ (Value.slice (some ⟨g15, 0, none⟩) (j + 1) cap15).ownBlock := fun he => by
              have := (htr16.2.1.2.1.1.lt g2 he.symm).2
              omega
            have HF : Hid _ := HN.out _ _ _ _ (htr16.later hb17) (hsg16.later hb17) (hs016.later hb17) hss17 hne17
            clear htr16 hsg16 hs016 hss16 hss17 hb17 hne17
            go_wp2
            go_roundw
            case rel => exact HF.out
            case measure => simp [lenOf]; omega
        · have hje : j = 4 := by omega
          subst hje
          have hd4 := sdN_len l a 4
          obtain ⟨d, hde⟩ : ∃ d, sdN l a 4 = d := ⟨_, rfl⟩
          have HDE : Hid (sdN l a 4 = d) := hde
          rw [hde] at htr hd4
          clear hde
          have hfs := htr.sig a (by rw [HOS.out.2.2.1]; omega) (by rw [HOS.out.2.2.2]; omega) (by rw [hd4]; omega)
          have HFS : Hid (SigIn (wr.setRow w.heap.size #[.int .i64 (a : Int), v1, v2, v3]) w.heap.size (.agg #[.int .i64 (a : Int), v1, v2, v3]) a O S d) := ((htr.setR hs0 (Nat.le_refl _) _).sig a (by rw [HOS.out.2.2.1]; omega) (by rw [HOS.out.2.2.2]; omega) (by rw [hd4]; omega)).1
          have HBW : Hid (Below w.heap.size w wr) := htr.below
          obtain ⟨_, o1, o2, o3⟩ := hfs
          clear htr hss hne hpw hd4
          go_wp2_with (first | (refine wp_loadSig rfl _ rfl p a v1 v2 v3 rfl hsg ?_) | (refine wp_storeSig rfl _ _ rfl w.heap.size 0 a _ _ _ v1 v2 v3 hs0 rfl rfl o1 o2 o3 ?_; intro hfin))
          refine ret_sig2 8 9 w.heap.size a v1 v2 v3 _ rfl rfl rfl rfl hfin ?_
          exact ⟨_, rfl, by rw [HBE.out, HDE.out, HOS.out.1, HOS.out.2.1]; exact HFS.out, below_setRow HBW.out (Nat.le_refl _)⟩

end Go.Proofs.YtaejeemjndmjcaaDoor
