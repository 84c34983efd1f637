/-
  Texts laid together: Sgu, Sge, Dn, Dsg.
-/
import Derived.Test.YthkknckpippjhaaDoorPkI
import Derived.Deep.RegionLaw
import Derived.Test.YthkknckpippjhaaDoorPkC
import Derived.Test.YthkknckpippjhaaDoorPkE
/-
  What the specification's SignText answers where it signs.
-/
namespace Go.Proofs.YthkknckpippjhaaDoor
open Go.RowKit Go.BigFrame
set_option linter.unusedVariables false
set_option linter.unusedSimpArgs false

theorem lockB_size (x : ByteArray) (h : x.size ≤ 200) : (lockB x).size = 16 := by
  unfold lockB
  refine hashB_size ?_
  rw [tagOk_one 6 x (by omega)]
  simpa using h
theorem pubB_size (s : ByteArray) (a : Nat) (h : s.size ≤ 100) : (pubB s a).size = 16 := by
  unfold pubB
  refine hashB_size ?_
  refine tagOk_yes _ _ ⟨by omega, by rw [locksL_len]; omega⟩ ?_
  intro m hm
  rw [locksL_at, lockB_size _ (by rw [secB_size _ _ _ _ h]; omega)]
  omega

/-- what each round up holds -/
def SuR (a : Nat) (l O S : List ByteArray) (w : World) (p : Nat) (n k : Value) (wr : World) : Prop :=
  ∃ (j : Nat) (v1 v2 v3 : Value) (g cap : Nat), j ≤ 4 ∧ n = .slice (some ⟨g, 0, none⟩) (16 / 2 ^ j) cap ∧ k = .int .i64 (a / 2 ^ j : Nat) ∧ TrR w.heap.size w wr v1 v2 v3 O S (sdN l a j) ∧ SgM wr p a v1 v2 v3 ∧ SgM wr w.heap.size 0 (.slice none 0 0) (.slice none 0 0) (.slice none 0 0) ∧ SS wr (.slice (some ⟨g, 0, none⟩) (16 / 2 ^ j) cap) g 0 (upN l j) ∧ some g ≠ v3.ownBlock
theorem SS.neS {w : World} {v v1 v2 v3 : Value} {g p : Nat} {x : Int} {l : List ByteArray} (h : SS w v g 0 l) (h0 : 0 < l.length) (hs : SgM w p x v1 v2 v3) : some g ≠ some p := by
  intro e
  simp at e
  subst e
  obtain ⟨_, _, _, _, _, hc⟩ := h
  have h1 := hc 0 h0
  rw [hs.c0] at h1
  simp at h1

set_option maxRecDepth 100000 in
set_option maxHeartbeats 4000000 in
theorem sSignText_yes (s t : ByteArray) (v : Value) (ga oa a : Nat) (l : List ByteArray) (w : World) (hv : SS w v ga oa l) (hl : l.length = 16) (ha : a ≤ 15) (hs : s.size ≤ 100) (ht : t.size ≤ 200) (hk : gB l a = pubB s a) :
    Calls Tryd.prog 33 #[.string s, v, .int .i64 a, .string t] w fun e w' => ∃ v, e = .returned (.tuple #[v, .bool true]) ∧ SigIn w' w.heap.size v a (opN s a (bitsB t) 8) (shN s a (bitsB t) 8) (sdN l a 4) ∧ Below w.heap.size w w' := by
  have hB0 : Below w.heap.size w (w.alloc (.cells zSig 37)) := (Below.refl _ _).alloc (Nat.le_refl _) _
  have hS0 : SgM (w.alloc (.cells zSig 37)) w.heap.size 0 (.slice none 0 0) (.slice none 0 0) (.slice none 0 0) := SgM.new w 0 _ _ _
  have hsz0 : (w.alloc (.cells zSig 37)).heap.size = w.heap.size + 1 := by simp
  have H0 : Hid (Below w.heap.size w (w.alloc (.cells zSig 37)) ∧ SgM (w.alloc (.cells zSig 37)) w.heap.size 0 (.slice none 0 0) (.slice none 0 0) (.slice none 0 0) ∧ (w.alloc (.cells zSig 37)).heap.size = w.heap.size + 1) := ⟨hB0, hS0, hsz0⟩
  have HL : Hid (l.length = 16) := hl
  have hpc := sPublicOf_yes s a (w.alloc (.cells zSig 37)) hs ha
  have hps := pubB_size s a hs
  have hnn := not_nil (D := pubB s a) (by omega)
  have HSS : Hid (∀ W, Below w.heap.size w W → SS W v ga oa l) := fun W hW => hv.below hW hv.lt
  have hcell : ∀ W, Below w.heap.size w W → W.cell? ⟨ga, oa + a, none⟩ = some (.string (pubB s a)) := fun W hW => by
    obtain ⟨_, _, _, _, _, hc⟩ := hv.below hW hv.lt
    have := hc a (by omega)
    rw [gB_eq, hk] at this
    exact this
  have HCL : Hid (∀ W, Below w.heap.size w W → W.cell? ⟨ga, oa + a, none⟩ = some (.string (pubB s a))) := hcell
  obtain ⟨x, cap, rfl, _, hA, hcc⟩ := hv
  have ea := hA (by omega)
  subst ea
  rw [hl] at HSS ⊢
  have hd : decide ((0 : Int) ≤ (a : Int) ∧ (a : Int) ≤ 15) = true := by simp; omega
  clear hA hcc hl hcell hB0 hS0 hsz0 hk
  generalize pubB s a = K at *
  go_enter Tryd.func33, Tryd.ntmps33
  go_wp2_with fail
  refine (l01In_any _ _ _ _).mono ?_
  rintro e w1 ⟨rfl, rfl⟩
  go_wp2_with fail
  refine hpc.mono ?_
  rintro e w2 ⟨rfl, hb2⟩
  have b2 := H0.out.1.trans (hb2.mono H0.out.1.size)
  have hS2 := H0.out.2.1.later hb2
  have c0 := HCL.out w2 b2
  have i1 : (a : Int) < 16 := by omega
  have i2 : (0 : Int) ≤ (a : Int) := by omega
  have hlt2 := hS2.lt
  have hS3 : SgM (w2.alloc (.cells #[.int .i64 (a : Int), .slice none 0 0, .slice none 0 0, .slice none 0 0] 37)) w2.heap.size a (.slice none 0 0) (.slice none 0 0) (.slice none 0 0) := SgM.new _ _ _ _ _
  have hb3 : Below w2.heap.size w2 (w2.alloc (.cells #[.int .i64 (a : Int), .slice none 0 0, .slice none 0 0, .slice none 0 0] 37)) := (Below.refl _ _).alloc (Nat.le_refl _) _
  have H3 : Hid (Below w.heap.size w (w2.alloc (.cells #[.int .i64 (a : Int), .slice none 0 0, .slice none 0 0, .slice none 0 0] 37)) ∧ SgM (w2.alloc (.cells #[.int .i64 (a : Int), .slice none 0 0, .slice none 0 0, .slice none 0 0] 37)) w2.heap.size a (.slice none 0 0) (.slice none 0 0) (.slice none 0 0) ∧ SgM (w2.alloc (.cells #[.int .i64 (a : Int), .slice none 0 0, .slice none 0 0, .slice none 0 0] 37)) w.heap.size 0 (.slice none 0 0) (.slice none 0 0) (.slice none 0 0)) := ⟨b2.trans (hb3.mono b2.size), hS3, hS2.later hb3⟩
  have hbb := bitsB_lt t
  obtain ⟨b, hbe⟩ : ∃ b, bitsB t = b := ⟨_, rfl⟩
  have HBE : Hid (bitsB t = b) := hbe
  have hcs := sSignBitsOf_any t (w2.alloc (.cells #[.int .i64 (a : Int), .slice none 0 0, .slice none 0 0, .slice none 0 0] 37))
  rw [hbe] at hbb hcs
  have hpB : w.heap.size ≤ w2.heap.size := by omega
  have hpne : w.heap.size ≠ w2.heap.size := by omega
  clear hpc H0 hb2 b2 hS2 hS3 hb3 hbe
  go_wp2_with fail
  refine hcs.mono ?_
  rintro e w4 ⟨rfl, hb4⟩
  have HST : Hid (SnR s a b [] w w2.heap.size (.int .i64 0) w4) := by
    have b4 := H3.out.1.trans (hb4.mono H3.out.1.size)
    have hn2 := OS.nil3 b4 b4.size
    exact ⟨0, _, _, _, by omega, rfl, ⟨⟨hn2, hn2, by simp [Value.ownBlock]⟩, ⟨hn2, hn2, by simp [Value.ownBlock]⟩, ⟨hn2, hn2, by simp [Value.ownBlock]⟩⟩, H3.out.2.1.later hb4, H3.out.2.2.later hb4⟩
  clear hcs H3 hb4 c0 hnn
  generalize w2.heap.size = p at *
  go_wp2
  go_loopw [13] (fun i wr => SnR s a b [] w p i wr) (fun i _ => 8 - (intOf i).toNat)
  case atStart => exact HST.out
  case round =>
    obtain ⟨m, v1, v2, v3, hm, rfl, htr, hsg, hs0⟩ := hrel
    clear HST
    by_cases hlt : m < 8
    · have i3 : (m : Int) < 8 := by omega
      have hbit := bitN_lt b m
      have hbw := htr.below
      have HN : Hid (∀ v1 v2 W, TrR w.heap.size w W v1 v2 v3 (opN s a b m ++ [secB s a m (bitN b m)]) (shN s a b m ++ [lockB (secB s a m (1 - bitN b m))]) [] → SgM W p a v1 v2 v3 → SgM W w.heap.size 0 (.slice none 0 0) (.slice none 0 0) (.slice none 0 0) → SnR s a b [] w p (.int .i64 ((m : Int) + 1)) W) :=
        fun v1 v2 W h1 h2 h3 => ⟨m + 1, v1, v2, v3, by omega, by simp, h1, h2, h3⟩
      have HC1 : Hid (∀ W, Calls Tryd.prog 16 #[.string s, .int .i64 (a : Int), .int .i64 (m : Int), .int .i64 (bitN b m : Int)] W fun e w' => e = .returned (.string (secB s a m (bitN b m))) ∧ Below W.heap.size W w') := fun W => sSecretOf_at s a m (bitN b m) _ _ _ W rfl rfl rfl hs ha (by omega) (by omega)
      have HC2 : Hid (∀ W, Calls Tryd.prog 16 #[.string s, .int .i64 (a : Int), .int .i64 (m : Int), .int .i64 (1 - (bitN b m : Int))] W fun e w' => e = .returned (.string (secB s a m (1 - bitN b m))) ∧ Below W.heap.size W w') := fun W => sSecretOf_at s a m (1 - bitN b m) _ _ _ W rfl rfl (by omega) hs ha (by omega) (by omega)
      have HC3 : Hid (∀ W, Calls Tryd.prog 18 #[.string (secB s a m (1 - bitN b m))] W fun e w' => e = .returned (.string (lockB (secB s a m (1 - bitN b m)))) ∧ Below W.heap.size W w') := fun W => sLockOf_any _ W
      have hol := opN_len s a b m
      have hsl := shN_len s a b m
      go_wp2_with fail
      refine (sBitOf_at b m _ _ hbb rfl (by omega)).mono ?_
      rintro e w7 ⟨rfl, rfl⟩
      generalize secB s a m (bitN b m) = K1 at *
      generalize lockB (secB s a m (1 - bitN b m)) = K3 at *
      generalize secB s a m (1 - bitN b m) = K2 at *
      generalize opN s a b m = O at *
      generalize shN s a b m = S at *
      generalize bitN b m = c at *
      have hwc : IntKind.i64.wrap (1 - (c : Int)) = 1 - (c : Int) := IntWalk.i64_in _ (by omega)
      go_wp2
      have c1 := hsg.c1
      have HA1 : Hid (∀ W, Below w7.heap.size w7 W → TrR w.heap.size w (W.alloc (.cells #[.string K1] 9)) v1 v2 v3 O S [] ∧ SgM (W.alloc (.cells #[.string K1] 9)) p a v1 v2 v3 ∧ SgM (W.alloc (.cells #[.string K1] 9)) w.heap.size 0 (.slice none 0 0) (.slice none 0 0) (.slice none 0 0) ∧ W.cell? ⟨p, 1, none⟩ = some v1) := fun W hW => by
        have hA : Below W.heap.size W (W.alloc (.cells #[.string K1] 9)) := (Below.refl _ _).alloc (Nat.le_refl _) _
        exact ⟨(htr.later hW).later hA, (hsg.later hW).later hA, (hs0.later hW).later hA, (hsg.later hW).c1⟩
      clear htr hsg hs0
      go_region_law ((first
        | (refine step_tr rfl _ _ rfl w.heap.size w v1 v2 v3 O S [] K1 (by rfl) (HA1.out _ hb8).1 _ (by rfl) (one_text _ _ _) (by omega) (m + 1) (by omega) ?_; intro g8 cap8 w9 htr9 hgr9; have hsg9 := (HA1.out _ hb8).2.1.keptO (HA1.out _ hb8).1.1.1 hgr9; have hs09 := (HA1.out _ hb8).2.2.1.keptO (HA1.out _ hb8).1.1.1 hgr9; have e1 := hsg9.c1; have f1 := hsg9.fr 1)
        | (go_simp; go_at_call 16; refine (HC1.out _).mono ?_; rintro e w8 ⟨rfl, hb8x⟩; have hb8 : Below w7.heap.size w7 w8 := (Below.refl _ _).drew.trans hb8x; have d1 := (HA1.out _ hb8).2.2.2; have d2 := (HA1.out _ hb8).2.1.c1)))
      all_goals
        have htr10 := htr9.set hsg9 hpB 1 (.slice (some ⟨g8, 0, none⟩) (m + 1) cap8)
        have hsg10 := hsg9.set1 (.slice (some ⟨g8, 0, none⟩) (m + 1) cap8)
        have hs010 := hs09.keep (heap_setCell_other w9 ⟨p, 1, none⟩ w.heap.size (.slice (some ⟨g8, 0, none⟩) (m + 1) cap8) hpne)
        clear htr9 hsg9 hs09 hgr9 e1 f1 d1 d2 c1 hb8 hb8x HA1 HC1
        go_wp2
        generalize w9.setCell ⟨p, 1, none⟩ (.slice (some ⟨g8, 0, none⟩) (m + 1) cap8) = w10 at *
        have c2 := hsg10.c2
        have HA2 : Hid (∀ W, Below w10.heap.size w10 W → TrR w.heap.size w (W.alloc (.cells #[.string K3] 9)) v2 v3 (.slice (some ⟨g8, 0, none⟩) (m + 1) cap8) S [] (O ++ [K1]) ∧ SgM (W.alloc (.cells #[.string K3] 9)) p a (.slice (some ⟨g8, 0, none⟩) (m + 1) cap8) v2 v3 ∧ SgM (W.alloc (.cells #[.string K3] 9)) w.heap.size 0 (.slice none 0 0) (.slice none 0 0) (.slice none 0 0) ∧ W.cell? ⟨p, 2, none⟩ = some v2) := fun W hW => by
          have hA : Below W.heap.size W (W.alloc (.cells #[.string K3] 9)) := (Below.refl _ _).alloc (Nat.le_refl _) _
          exact ⟨((htr10.later hW).later hA).rot, (hsg10.later hW).later hA, (hs010.later hW).later hA, (hsg10.later hW).c2⟩
        clear htr10 hsg10 hs010
        go_region_law ((first
          | (refine step_tr rfl _ _ rfl w.heap.size w v2 v3 _ S [] (O ++ [K1]) K3 (by rfl) (HA2.out _ hb12).1 _ (by rfl) (one_text _ _ _) (by omega) (m + 1) (by omega) ?_; intro g13 cap13 w13 htr13 hgr13; have hsg13 := (HA2.out _ hb12).2.1.keptO (HA2.out _ hb12).1.1.1 hgr13; have hs013 := (HA2.out _ hb12).2.2.1.keptO (HA2.out _ hb12).1.1.1 hgr13; have e1 := hsg13.c2; have f1 := hsg13.fr 2)
          | (go_simp; go_at_call 16; refine (HC2.out _).mono ?_; rintro e w11 ⟨rfl, hb11x⟩; have hb11 : Below w10.heap.size w10 w11 := (Below.refl _ _).drew.trans hb11x; have d1 := (HA2.out _ hb11).2.2.2)
          | (go_simp; go_at_call 18; refine (HC3.out _).mono ?_; rintro e w12 ⟨rfl, hb12x⟩; have hb12 : Below w10.heap.size w10 w12 := hb11.trans (hb12x.mono hb11.size); have d2 := (HA2.out _ hb12).2.2.2; have d3 := (HA2.out _ hb12).2.1.c2)))
        all_goals
          have HF : Hid _ := HN.out _ _ _ ((htr13.set hsg13 hpB 2 (.slice (some ⟨g13, 0, none⟩) (m + 1) cap13)).rot.rot) (hsg13.set2 (.slice (some ⟨g13, 0, none⟩) (m + 1) cap13)) (hs013.keep (heap_setCell_other w13 ⟨p, 2, none⟩ w.heap.size (.slice (some ⟨g13, 0, none⟩) (m + 1) cap13) hpne))
          clear htr13 hsg13 hs013 hgr13 e1 f1 d1 d2 d3 c2 hb11 hb11x hb12 hb12x HA2
          go_wp2
          go_roundw
          case rel => exact HF.out
          case measure => simp [intOf]; omega
    · have hme : m = 8 := by omega
      subst hme
      have l1 := opN_len s a b 8
      have l2 := shN_len s a b 8
      obtain ⟨O, hO⟩ : ∃ O, opN s a b 8 = O := ⟨_, rfl⟩
      obtain ⟨S, hS⟩ : ∃ S, shN s a b 8 = S := ⟨_, rfl⟩
      have HOS : Hid (opN s a b 8 = O ∧ shN s a b 8 = S ∧ O.length = 8 ∧ S.length = 8) := ⟨hO, hS, by rw [← hO]; exact l1, by rw [← hS]; exact l2⟩
      rw [hO, hS] at htr
      clear hO hS l1 l2
      have hA0 : Below wr.heap.size wr (wr.alloc (.cells #[] 9)) := (Below.refl _ _).alloc (Nat.le_refl _) _
      have hss := HSS.out _ (htr.below.trans (hA0.mono htr.1.1.2.2))
      go_wp2_with (at_builtin; refine wp_appRow rfl _ _ rfl wr.heap.size wr _ _ [] l rfl (OS.made wr) rfl ga oa hss ?c0 ?c1 ?_)
      case c0 => rw [HL.out]; omega
      case c1 => rw [HL.out]; simp
      intro v14 w14 hos14 _
      have htr14 := htr.later hos14.2.1
      have hsg14 := hsg.later hos14.2.1
      have hs014 := hs0.later hos14.2.1
      rcases hos14.shape with ⟨_, hz⟩ | ⟨g14, cap14, rfl, hg14, hlt14⟩
      · have := HL.out
        rw [hz] at this
        simp at this
      have hls : l.length = 16 := HL.out
      rw [hls] at hos14 ⊢
      have HS2 : Hid (SuR a l O S w p (.slice (some ⟨g14, 0, none⟩) 16 cap14) (.int .i64 (a : Int)) w14) := by
        obtain ⟨g', hs'⟩ := hos14.ss (by rw [hls]; omega)
        have hg' : g' = g14 := by
          obtain ⟨_, _, hvx, _, hAx, _⟩ := hs'
          have := hAx (by rw [hls]; omega)
          simp at hvx
          rw [this] at hvx
          simp at hvx
          exact hvx.1.symm
        subst hg'
        refine ⟨0, v1, v2, v3, g', cap14, by omega, by simp, by simp, htr14, hsg14, hs014, hs', ?_⟩
        intro he
        have := (htr.2.1.2.1.1.lt g' he.symm).2
        omega
      clear htr hsg hs0 hos14 htr14 hsg14 hs014 hss hA0
      go_wp2
      go_loopw [15, 16] (fun n k wr => SuR a l O S w p n k wr) (fun n _ _ => lenOf n)
      case atStart => exact HS2.out
      case round =>
        obtain ⟨j, v1, v2, v3, g, cap2, hj, rfl, rfl, htr, hsg, hs0, hss, hne⟩ := hrel
        clear HS2 hlt14 hg14
        have hpw := upN_pow l HL.out j hj
        by_cases hlt4 : j < 4
        · have hq15 : a / 2 ^ j ≤ 15 := Nat.le_trans (Nat.div_le_self _ _) ha
          have hqn : a / 2 ^ j < 16 / 2 ^ j ∧ (16 / 2 ^ j) % 2 = 0 ∧ 1 < 16 / 2 ^ j ∧ 16 / 2 ^ j ≤ 16 := by
            have h0 : j = 0 ∨ j = 1 ∨ j = 2 ∨ j = 3 := by omega
            rcases h0 with rfl | rfl | rfl | rfl <;> simp <;> omega
          have hxl := (xor1 _ hq15).2 _ hqn.2.1 hqn.1
          have hxc : ∀ W, SS W (.slice (some ⟨g, 0, none⟩) (16 / 2 ^ j) cap2) g 0 (upN l j) → W.cell? ⟨g, (a / 2 ^ j) ^^^ 1, none⟩ = some (.string (gB (upN l j) ((a / 2 ^ j) ^^^ 1))) := fun W hW => by
            obtain ⟨_, _, _, _, _, hc⟩ := hW
            have := hc ((a / 2 ^ j) ^^^ 1) (by rw [hpw]; exact hxl)
            rw [gB_eq, Nat.zero_add] at this
            exact this
          have HXC : Hid (∀ W, SS W (.slice (some ⟨g, 0, none⟩) (16 / 2 ^ j) cap2) g 0 (upN l j) → W.cell? ⟨g, (a / 2 ^ j) ^^^ 1, none⟩ = some (.string (gB (upN l j) ((a / 2 ^ j) ^^^ 1)))) := hxc
          have hq2 : a / 2 ^ (j + 1) = a / 2 ^ j / 2 := by rw [Nat.pow_succ, Nat.div_div_eq_div_mul]
          have hn2 : 16 / 2 ^ (j + 1) = 16 / 2 ^ j / 2 := by rw [Nat.pow_succ, Nat.div_div_eq_div_mul]
          have hdl := sdN_len l a j
          have HUP : Hid (∀ W, SS W (.slice (some ⟨g, 0, none⟩) (16 / 2 ^ j) cap2) g 0 (upN l j) → Calls Tryd.prog 67 #[.slice (some ⟨g, 0, none⟩) (16 / 2 ^ j) cap2] W fun e w' => ∃ g2 cap3, e = .returned (.slice (some ⟨g2, 0, none⟩) (16 / 2 ^ j / 2) cap3) ∧ W.heap.size ≤ g2 ∧ Below W.heap.size W w' ∧ SS w' (.slice (some ⟨g2, 0, none⟩) (16 / 2 ^ j / 2) cap3) g2 0 (upN l (j + 1))) := fun W hW => by
            refine (l05Up_any _ g 0 (upN l j) W hW (by rw [hpw]; omega)).mono ?_
            rintro e w' ⟨u, rfl, hos⟩
            have hul : (upL (upN l j)).length = 16 / 2 ^ j / 2 := by rw [upL_len, hpw]
            rcases hos.shape with ⟨_, hz⟩ | ⟨g2, cap3, rfl, hg2, _⟩
            · rw [hz] at hul
              simp at hul
              omega
            · rw [hul] at hos ⊢
              exact ⟨g2, cap3, rfl, hg2, hos.2.1, (hos.tb.ts _ _ hul (by omega)).ss⟩
          have HN : Hid (∀ v3 W g2 cap3, TrR w.heap.size w W v1 v2 v3 O S (sdN l a j ++ [gB (upN l j) ((a / 2 ^ j) ^^^ 1)]) → SgM W p a v1 v2 v3 → SgM W w.heap.size 0 (.slice none 0 0) (.slice none 0 0) (.slice none 0 0) → SS W (.slice (some ⟨g2, 0, none⟩) (16 / 2 ^ j / 2) cap3) g2 0 (upN l (j + 1)) → some g2 ≠ v3.ownBlock → SuR a l O S w p (.slice (some ⟨g2, 0, none⟩) (16 / 2 ^ j / 2) cap3) (.int .i64 ((a / 2 ^ j / 2 : Nat) : Int)) W) :=
            fun v3 W g2 cap3 h1 h2 h3 h4 h5 => ⟨j + 1, v1, v2, v3, g2, cap3, by omega, by rw [hn2], by rw [hq2], h1, h2, h3, by rw [hn2]; exact h4, h5⟩
          have hup0 : 0 < (upN l j).length := by rw [hpw]; omega
          have HA3 : Hid (TrR w.heap.size w (wr.drew.alloc (.cells #[.string (gB (upN l j) ((a / 2 ^ j) ^^^ 1))] 9)) v3 v1 v2 (sdN l a j) O S ∧ SgM (wr.drew.alloc (.cells #[.string (gB (upN l j) ((a / 2 ^ j) ^^^ 1))] 9)) p a v1 v2 v3 ∧ SgM (wr.drew.alloc (.cells #[.string (gB (upN l j) ((a / 2 ^ j) ^^^ 1))] 9)) w.heap.size 0 (.slice none 0 0) (.slice none 0 0) (.slice none 0 0) ∧ SS (wr.drew.alloc (.cells #[.string (gB (upN l j) ((a / 2 ^ j) ^^^ 1))] 9)) (.slice (some ⟨g, 0, none⟩) (16 / 2 ^ j) cap2) g 0 (upN l j)) := by
            have hA : Below wr.heap.size wr (wr.drew.alloc (.cells #[.string (gB (upN l j) ((a / 2 ^ j) ^^^ 1))] 9)) := (Below.refl _ _).drew.alloc (Nat.le_refl _) _
            exact ⟨(htr.later hA).rot.rot, hsg.later hA, hs0.later hA, hss.below hA hss.lt⟩
          have c3 := hsg.c3
          have cx := hxc wr hss
          have d3 := HA3.out.2.1.c3
          have dx := hxc _ HA3.out.2.2.2
          have hpl : p < wr.heap.size := hsg.lt
          clear htr hsg hs0 hss hxc hq2 hn2 hpw
          generalize gB (upN l j) ((a / 2 ^ j) ^^^ 1) = X at *
          obtain ⟨D, hD⟩ : ∃ D, sdN l a j = D := ⟨_, rfl⟩
          rw [hD] at HN HA3 hdl
          clear hD
          generalize a / 2 ^ j = q at *
          generalize 16 / 2 ^ j = n at *
          have hx3 := xor_i q hq15
          generalize q ^^^ 1 = y at *
          have i4 : (y : Int) < (n : Int) := by omega
          have i5 : (0 : Int) ≤ (y : Int) := by omega
          have i6 : (1 : Int) < (n : Int) := by omega
          have HNE : Hid (some g ≠ v3.ownBlock ∧ 0 < (upN l j).length) := ⟨hne, hup0⟩
          clear hne hup0
          go_wp2
          go_region_law ((first | (refine step_tr rfl _ _ rfl w.heap.size w v3 v1 v2 D O S X (by rfl) HA3.out.1 _ (by rfl) (one_text _ _ _) (by omega) (j + 1) (by omega) ?_; intro g15 cap15 w15 htr15 hgr15; have hsg15 := HA3.out.2.1.keptO HA3.out.1.1.1 hgr15; have hs015 := HA3.out.2.2.1.keptO HA3.out.1.1.1 hgr15; have hss15 := HA3.out.2.2.2.keptG hgr15 HNE.out.1; have e3 := hsg15.c3; have f3 := hsg15.fr 3)))
          all_goals
            have htr16 := (htr15.set hsg15 hpB 3 (.slice (some ⟨g15, 0, none⟩) (j + 1) cap15)).rot
            have hsg16 := hsg15.set3 (.slice (some ⟨g15, 0, none⟩) (j + 1) cap15)
            have hs016 := hs015.keep (heap_setCell_other w15 ⟨p, 3, none⟩ w.heap.size (.slice (some ⟨g15, 0, none⟩) (j + 1) cap15) hpne)
            have hss16 := hss15.keptG (grown_set w15 p 3 (.slice (some ⟨g15, 0, none⟩) (j + 1) cap15)) (hss15.neS HNE.out.2 hsg15)
            clear htr15 hsg15 hs015 hss15 hgr15 e3 f3 c3 cx d3 dx HA3
            generalize w15.setCell ⟨p, 3, none⟩ (.slice (some ⟨g15, 0, none⟩) (j + 1) cap15) = w16 at *
            go_wp2_with fail
            refine (HUP.out _ hss16).mono ?_
            rintro e w17 ⟨g2, cap3, rfl, hg2, hb17, hss17⟩
            have hne17 : some g2 ≠ (Value.slice (some ⟨g15, 0, none⟩) (j + 1) cap15).ownBlock := fun he => by
              have := (htr16.2.1.2.1.1.lt g2 he.symm).2
              omega
            have HF : Hid _ := HN.out _ _ _ _ (htr16.later hb17) (hsg16.later hb17) (hs016.later hb17) hss17 hne17
            clear htr16 hsg16 hs016 hss16 hss17 hb17 hne17
            go_wp2
            go_roundw
            case rel => exact HF.out
            case measure => simp [lenOf]; omega
        · have hje : j = 4 := by omega
          subst hje
          have hd4 := sdN_len l a 4
          obtain ⟨d, hde⟩ : ∃ d, sdN l a 4 = d := ⟨_, rfl⟩
          have HDE : Hid (sdN l a 4 = d) := hde
          rw [hde] at htr hd4
          clear hde
          have hfs := htr.sig a (by rw [HOS.out.2.2.1]; omega) (by rw [HOS.out.2.2.2]; omega) (by rw [hd4]; omega)
          have HFS : Hid (SigIn (wr.setRow w.heap.size #[.int .i64 (a : Int), v1, v2, v3]) w.heap.size (.agg #[.int .i64 (a : Int), v1, v2, v3]) a O S d) := ((htr.setR hs0 (Nat.le_refl _) _).sig a (by rw [HOS.out.2.2.1]; omega) (by rw [HOS.out.2.2.2]; omega) (by rw [hd4]; omega)).1
          have HBW : Hid (Below w.heap.size w wr) := htr.below
          obtain ⟨_, o1, o2, o3⟩ := hfs
          clear htr hss hne hpw hd4
          go_wp2_with (first | (refine wp_loadSig rfl _ rfl p a v1 v2 v3 rfl hsg ?_) | (refine wp_storeSig rfl _ _ rfl w.heap.size 0 a _ _ _ v1 v2 v3 hs0 rfl rfl o1 o2 o3 ?_; intro hfin))
          refine ret_sig2 8 9 w.heap.size a v1 v2 v3 _ rfl rfl rfl rfl hfin ?_
          exact ⟨_, rfl, by rw [HBE.out, HDE.out, HOS.out.1, HOS.out.2.1]; exact HFS.out, below_setRow HBW.out (Nat.le_refl _)⟩

end Go.Proofs.YthkknckpippjhaaDoor
/-
  What SignText answers where it doesn't sign, the program's and the specification's.
-/
namespace Go.Proofs.YthkknckpippjhaaDoor
open Go.RowKit Go.BigFrame
set_option linter.unusedVariables false
set_option linter.unusedSimpArgs false

theorem zSig_new (w : World) : Below w.heap.size w (w.alloc (.cells zSig 37)) ∧ SgM (w.alloc (.cells zSig 37)) w.heap.size 0 (.slice none 0 0) (.slice none 0 0) (.slice none 0 0) := ⟨(Below.refl _ _).alloc (Nat.le_refl _) _, SgM.new w 0 _ _ _⟩

set_option maxRecDepth 100000 in
set_option maxHeartbeats 1000000 in
theorem SignText_len (s t : ByteArray) (x : Option Addr) (n cap : Nat) (a : Int) (w : World) (h : n ≠ 16) (hn : n ≤ 1100000) :
    Calls Tryd.prog 34 #[.string s, .slice x n cap, .int .i64 a, .string t] w fun e w' => e = .returned (.tuple #[.agg zSig, .bool false]) ∧ Below w.heap.size w w' := by
  have hc := poolFrom_no x n cap (w.alloc (.cells zSig 37)) h hn
  have H0 : Hid _ := zSig_new w
  clear h
  go_enter Tryd.func34, Tryd.ntmps34
  go_wp2_with fail
  refine hc.mono ?_
  rintro e w1 ⟨rfl, hb1⟩
  have b1 := H0.out.1.trans (hb1.mono H0.out.1.size)
  have hA : Below w1.heap.size w1 (w1.alloc (.cells (svs (List.replicate 16 ByteArray.empty)).toArray 73)) := (Below.refl _ _).alloc (Nat.le_refl _) _
  have H1 : Hid (SgM (w1.alloc (.cells (svs (List.replicate 16 ByteArray.empty)).toArray 73)) w.heap.size 0 (.slice none 0 0) (.slice none 0 0) (.slice none 0 0) ∧ Below w.heap.size w (w1.alloc (.cells (svs (List.replicate 16 ByteArray.empty)).toArray 73))) := ⟨(H0.out.2.later hb1).later hA, b1.trans (hA.mono b1.size)⟩
  clear hc hb1 b1 hA H0
  go_wp2_with (first | (refine wp_allocT rfl 73 16 rfl zeroP ?_) | (refine wp_storeNewT rfl 73 16 _ _ rfl w1 _ (List.replicate 16 ByteArray.empty) rfl (zT_size 16) (by simp) rfl rfl sizeP ?_) | (refine wp_storeSig rfl _ _ rfl w.heap.size 0 0 _ _ _ (.slice none 0 0) (.slice none 0 0) (.slice none 0 0) H1.out.1 rfl rfl rfl rfl rfl ?_; intro hfin))
  refine ret_sig2 8 9 w.heap.size 0 _ _ _ _ rfl rfl rfl rfl hfin ?_
  exact ⟨rfl, below_setRow H1.out.2 (Nat.le_refl _)⟩

set_option maxRecDepth 100000 in
set_option maxHeartbeats 1000000 in
theorem SignText_off (s t : ByteArray) (v : Value) (ga oa : Nat) (a : Int) (l : List ByteArray) (w : World) (hv : SS w v ga oa l) (hl : l.length = 16) (ha : decide (0 ≤ a ∧ a ≤ 15) = false ∨ (decide (0 ≤ a ∧ a ≤ 15) = true ∧ 200 < t.size)) (ht : t.size ≤ 1100000) :
    Calls Tryd.prog 34 #[.string s, v, .int .i64 a, .string t] w fun e w' => e = .returned (.tuple #[.agg zSig, .bool false]) ∧ Below w.heap.size w w' := by
  have H0 : Hid _ := zSig_new w
  have hc := poolFrom_yes v ga oa l (w.alloc (.cells zSig 37)) (hv.below H0.out.1 hv.lt) hl
  have HL : Hid (l.length = 16) := hl
  obtain ⟨x, cap, rfl, _, hA, hcc⟩ := hv
  rw [hl] at hc ⊢
  clear hA hcc hl
  have HA : Hid _ := ha
  clear ha
  go_enter Tryd.func34, Tryd.ntmps34
  go_wp2_with fail
  refine hc.mono ?_
  rintro e w1 ⟨rfl, hb1⟩
  have b1 := H0.out.1.trans (hb1.mono H0.out.1.size)
  have hA : Below w1.heap.size w1 (w1.alloc (.cells (svs l).toArray 73)) := (Below.refl _ _).alloc (Nat.le_refl _) _
  have H1 : Hid (SgM (w1.alloc (.cells (svs l).toArray 73)) w.heap.size 0 (.slice none 0 0) (.slice none 0 0) (.slice none 0 0) ∧ Below w.heap.size w (w1.alloc (.cells (svs l).toArray 73))) := ⟨(H0.out.2.later hb1).later hA, b1.trans (hA.mono b1.size)⟩
  clear hc hb1 b1 hA H0
  go_wp2_with (first | (refine wp_allocT rfl 73 16 rfl zeroP ?_) | (refine wp_storeNewT rfl 73 16 _ _ rfl w1 _ l rfl (zT_size 16) HL.out rfl rfl sizeP ?_) | fail)
  refine (inPool_any a _).mono ?_
  rintro e w2 ⟨rfl, rfl⟩
  rcases HA.out with hd | ⟨hd, hlong⟩
  · rw [hd]
    go_wp2_with (refine wp_storeSig rfl _ _ rfl w.heap.size 0 0 _ _ _ (.slice none 0 0) (.slice none 0 0) (.slice none 0 0) H1.out.1 rfl rfl rfl rfl rfl ?_; intro hfin)
    refine ret_sig2 8 9 w.heap.size 0 _ _ _ _ rfl rfl rfl rfl hfin ?_
    exact ⟨rfl, below_setRow H1.out.2 (Nat.le_refl _)⟩
  · rw [hd]
    have i1 : (200 : Int) < (t.size : Int) := by omega
    go_wp2_with (refine wp_storeSig rfl _ _ rfl w.heap.size 0 0 _ _ _ (.slice none 0 0) (.slice none 0 0) (.slice none 0 0) H1.out.1 rfl rfl rfl rfl rfl ?_; intro hfin)
    refine ret_sig2 8 9 w.heap.size 0 _ _ _ _ rfl rfl rfl rfl hfin ?_
    exact ⟨rfl, below_setRow H1.out.2 (Nat.le_refl _)⟩

set_option maxRecDepth 100000 in
set_option maxHeartbeats 2000000 in
theorem SignText_key (s t : ByteArray) (v : Value) (ga oa a : Nat) (l : List ByteArray) (w : World) (hv : SS w v ga oa l) (hl : l.length = 16) (ha : a ≤ 15) (hs : s.size ≤ 100) (ht : t.size ≤ 200) (hk : gB l a ≠ pubB s a) (hT : Tb w) :
    Calls Tryd.prog 34 #[.string s, v, .int .i64 a, .string t] w fun e w' => e = .returned (.tuple #[.agg zSig, .bool false]) ∧ Below w.heap.size w w' := by
  have H0 : Hid _ := zSig_new w
  have hc := poolFrom_yes v ga oa l (w.alloc (.cells zSig 37)) (hv.below H0.out.1 hv.lt) hl
  have HL : Hid (l.length = 16) := hl
  have HT : Hid (Tb w) := hT
  have HK : Hid (gB l a ≠ pubB s a) := hk
  obtain ⟨x, cap, rfl, _, hA, hcc⟩ := hv
  rw [hl] at hc ⊢
  have hd : decide ((0 : Int) ≤ (a : Int) ∧ (a : Int) ≤ 15) = true := by simp; omega
  clear hA hcc hl hT hk
  go_enter Tryd.func34, Tryd.ntmps34
  go_wp2_with fail
  refine hc.mono ?_
  rintro e w1 ⟨rfl, hb1⟩
  have b1 := H0.out.1.trans (hb1.mono H0.out.1.size)
  have hS1 := H0.out.2.later hb1
  have H1 : Hid (Below w.heap.size w (w1.alloc (.cells (svs l).toArray 73)) ∧ SgM (w1.alloc (.cells (svs l).toArray 73)) w.heap.size 0 (.slice none 0 0) (.slice none 0 0) (.slice none 0 0) ∧ TA (w1.alloc (.cells (svs l).toArray 73)) w1.heap.size 73 l) :=
    ⟨b1.alloc b1.size _, hS1.later ((Below.refl _ _).alloc (Nat.le_refl _) _), TA.new w1 l _⟩
  clear hc hb1 b1 hS1 H0
  go_wp2_with (first | (refine wp_allocT rfl 73 16 rfl zeroP ?_) | (refine wp_storeNewT rfl 73 16 _ _ rfl w1 _ l rfl (zT_size 16) HL.out rfl rfl sizeP ?_) | fail)
  refine (inPool_any (a : Int) _).mono ?_
  rintro e w2 ⟨rfl, rfl⟩
  rw [hd]
  generalize w1.alloc (.cells (svs l).toArray 73) = w2 at *
  generalize w1.heap.size = g at *
  go_upto_region 4 with fail
  have HC : Hid (∀ W, Below w2.heap.size w2 W → Calls Tryd.prog 21 #[.string s, .int .i64 (a : Int)] W fun e w' => e = .returned (.string (pubB s a)) ∧ Below w2.heap.size w2 w') := fun W hW =>
    (PublicOf_yes s a W hs ha (HT.out.later (H1.out.1.trans (hW.mono H1.out.1.size)))).mono fun e w' ⟨he, hb⟩ => ⟨he, hW.trans (hb.mono hW.size)⟩
  have HCW : Hid (∀ W, Below w2.heap.size w2 W → Calls Tryd.prog 70 #[.agg (svs l).toArray, .int .i64 (a : Int), .string (pubB s a)] W fun e w' => e = .returned (.agg (svs (l.set a (pubB s a))).toArray) ∧ Below w2.heap.size w2 w') := fun W hW =>
    (with_any l a (pubB s a) W HL.out (by omega)).mono fun e w' ⟨he, hb⟩ => ⟨he, hW.trans (hb.mono hW.size)⟩
  have heq : ∀ W, (Op.equalIn 10000 73 (.agg (svs l).toArray) (.agg (svs (l.set a (pubB s a))).toArray)).run Tryd.prog W = .ok false W := fun W => by
    have := eqT l (l.set a (pubB s a)) HL.out (by rw [List.length_set]; exact HL.out) W
    rw [set_same l a (pubB s a) (by rw [HL.out]; omega), decide_eq_false HK.out] at this
    exact this
  have HP : Hid (∀ W, Below w2.heap.size w2 W → W.rangeAt g 0 (svs l)) := fun W hW => (H1.out.2.2.later hW).range
  have hu := Tryd.underlying73
  have hi : (Tryd.prog.info? 73).map (·.size) = some (svs l).length := by
    have e : (svs l).length = 16 := by simp [svs, HL.out]
    rw [e]
    exact sizeP
  go_cut [41] from 34 to 41 (fun c wx => c = .bool true ∧ Below w2.heap.size w2 wx)
  case first =>
    generalize svs (l.set a (pubB s a)) = M at *
    generalize pubB s a = K at *
    refine wp_region_held_drew (S := fun W => W.rangeAt g 0 (svs l)) (by kernel_rfl) (HP.out _ (Below.refl _ _).drew) (fun hH => ?_)
    refine wpAnyH_take (i := 0) (v := .agg (svs l).toArray) rfl (by kernel_rfl) (by kernel_rfl) (by kernel_rfl) (fun _ _ _ h => h) (yieldsIf_load_mid (by rfl) _ _ rfl g 0 rfl (svs l) _ (fun w h => h) hu rfl hi) hH ?_
    simp only [Act.put, List.setIfInBounds_toArray, List.set_cons_zero, List.set_cons_succ]
    refine wpAnyH_take (i := 1) (v := .agg (svs l).toArray) rfl (by kernel_rfl) (by kernel_rfl) (by kernel_rfl) (fun _ _ _ h => h) (yieldsIf_load_mid (by rfl) _ _ rfl g 0 rfl (svs l) _ (fun w h => h) hu rfl hi) hH ?_
    simp only [Act.put, List.setIfInBounds_toArray, List.set_cons_zero, List.set_cons_succ]
    refine wpAnyH_take (i := 2) (v := .int .i64 (a : Int)) rfl (by kernel_rfl) (by kernel_rfl) (by kernel_rfl) (fun _ _ _ h => h) (Or.inl ⟨by rfl, fun w hw => by go_simp⟩) hH ?_
    simp only [Act.put, List.setIfInBounds_toArray, List.set_cons_zero, List.set_cons_succ]
    refine wpAnyH_take (i := 3) (v := .string s) rfl (by kernel_rfl) (by kernel_rfl) (by kernel_rfl) (fun _ _ _ h => h) (Or.inl ⟨by rfl, fun w hw => by go_simp⟩) hH ?_
    simp only [Act.put, List.setIfInBounds_toArray, List.set_cons_zero, List.set_cons_succ]
    refine wpAnyH_take (i := 4) (v := .int .i64 (a : Int)) rfl (by kernel_rfl) (by kernel_rfl) (by kernel_rfl) (fun _ _ _ h => h) (Or.inl ⟨by rfl, fun w hw => by go_simp⟩) hH ?_
    simp only [Act.put, List.setIfInBounds_toArray, List.set_cons_zero, List.set_cons_succ]
    refine wpAnyH_ready (rs := [5]) (by kernel_rfl) (by simp) ?_
    refine AllReadyH.cons rfl (fun K' hK' => ?_) AllReadyH.nil
    go_simp
    go_at_call 21
    refine (HC.out _ (Below.refl _ _).drew).mono ?_
    rintro e w3 ⟨rfl, hb3⟩
    go_wp2_with fail
    refine hK'.out _ _ (HP.out _ hb3) (fun hH => ?_)
    clear hK' K'
    try simp only [Act.put, List.setIfInBounds_toArray, List.set_cons_zero, List.set_cons_succ]
    refine wpAnyH_ready (rs := [6]) (by kernel_rfl) (by simp) ?_
    refine AllReadyH.cons rfl (fun K' hK' => ?_) AllReadyH.nil
    go_simp
    go_at_call 70
    refine (HCW.out _ hb3).mono ?_
    rintro e w4 ⟨rfl, hb4⟩
    go_wp2_with fail
    refine hK'.out _ _ (HP.out _ hb4) (fun hH => ?_)
    clear hK' K'
    try simp only [Act.put, List.setIfInBounds_toArray, List.set_cons_zero, List.set_cons_succ]
    refine wpAnyH_ready (rs := [7]) (by kernel_rfl) (by simp) ?_
    refine AllReadyH.cons rfl (fun K' hK' => ?_) AllReadyH.nil
    go_simp
    refine hK'.out _ _ (HP.out _ hb4) (fun hH => ?_)
    clear hK' K'
    try simp only [Act.put, List.setIfInBounds_toArray, List.set_cons_zero, List.set_cons_succ]
    refine wpAnyH_done (by kernel_rfl) ?_ _
    go_wp2_with fail
    go_meet
    exact ⟨rfl, hb4⟩
  case rest =>
    obtain ⟨rfl, hb4⟩ := hcut
    have b4 := H1.out.1.trans (hb4.mono H1.out.1.size)
    have hS4 := H1.out.2.1.later hb4
    clear HC HCW heq HP H1 hb4 HK
    go_wp2_with (refine wp_storeSig rfl _ _ rfl w.heap.size 0 0 _ _ _ (.slice none 0 0) (.slice none 0 0) (.slice none 0 0) hS4 rfl rfl rfl rfl rfl ?_; intro hfin)
    refine ret_sig2 8 9 w.heap.size 0 _ _ _ _ rfl rfl rfl rfl hfin ?_
    exact ⟨rfl, below_setRow b4 (Nat.le_refl _)⟩

set_option maxRecDepth 100000 in
set_option maxHeartbeats 1000000 in
theorem sSignText_len (s t : ByteArray) (x : Option Addr) (n cap : Nat) (a : Int) (w : World) (h : n ≠ 16) (hn : n ≤ 1100000) :
    Calls Tryd.prog 33 #[.string s, .slice x n cap, .int .i64 a, .string t] w fun e w' => e = .returned (.tuple #[.agg zSig, .bool false]) ∧ Below w.heap.size w w' := by
  have H0 : Hid _ := zSig_new w
  have q : ((n : Int) != 16) = true := by simp; omega
  clear h
  go_enter Tryd.func33, Tryd.ntmps33
  go_wp2_with (refine wp_storeSig rfl _ _ rfl w.heap.size 0 0 _ _ _ (.slice none 0 0) (.slice none 0 0) (.slice none 0 0) H0.out.2 rfl rfl rfl rfl rfl ?_; intro hfin)
  refine ret_sig2 8 9 w.heap.size 0 _ _ _ _ rfl rfl rfl rfl hfin ?_
  exact ⟨rfl, below_setRow H0.out.1 (Nat.le_refl _)⟩

set_option maxRecDepth 100000 in
set_option maxHeartbeats 1000000 in
theorem sSignText_off (s t : ByteArray) (x : Option Addr) (cap : Nat) (a : Int) (w : World) (ha : decide (0 ≤ a ∧ a ≤ 15) = false ∨ (decide (0 ≤ a ∧ a ≤ 15) = true ∧ 200 < t.size)) (ht : t.size ≤ 1100000) :
    Calls Tryd.prog 33 #[.string s, .slice x 16 cap, .int .i64 a, .string t] w fun e w' => e = .returned (.tuple #[.agg zSig, .bool false]) ∧ Below w.heap.size w w' := by
  have H0 : Hid _ := zSig_new w
  have HA : Hid _ := ha
  clear ha
  go_enter Tryd.func33, Tryd.ntmps33
  go_wp2_with fail
  refine (l01In_any _ _ _ _).mono ?_
  rintro e w1 ⟨rfl, rfl⟩
  rcases HA.out with hd | ⟨hd, hlong⟩
  · rw [hd]
    go_wp2_with (refine wp_storeSig rfl _ _ rfl w.heap.size 0 0 _ _ _ (.slice none 0 0) (.slice none 0 0) (.slice none 0 0) H0.out.2 rfl rfl rfl rfl rfl ?_; intro hfin)
    refine ret_sig2 8 9 w.heap.size 0 _ _ _ _ rfl rfl rfl rfl hfin ?_
    exact ⟨rfl, below_setRow H0.out.1 (Nat.le_refl _)⟩
  · rw [hd]
    have i1 : (200 : Int) < (t.size : Int) := by omega
    go_wp2_with (refine wp_storeSig rfl _ _ rfl w.heap.size 0 0 _ _ _ (.slice none 0 0) (.slice none 0 0) (.slice none 0 0) H0.out.2 rfl rfl rfl rfl rfl ?_; intro hfin)
    refine ret_sig2 8 9 w.heap.size 0 _ _ _ _ rfl rfl rfl rfl hfin ?_
    exact ⟨rfl, below_setRow H0.out.1 (Nat.le_refl _)⟩

set_option maxRecDepth 100000 in
set_option maxHeartbeats 1000000 in
theorem sSignText_key (s t : ByteArray) (v : Value) (ga oa a : Nat) (l : List ByteArray) (w : World) (hv : SS w v ga oa l) (hl : l.length = 16) (ha : a ≤ 15) (hs : s.size ≤ 100) (ht : t.size ≤ 200) (hk : gB l a ≠ pubB s a) :
    Calls Tryd.prog 33 #[.string s, v, .int .i64 a, .string t] w fun e w' => e = .returned (.tuple #[.agg zSig, .bool false]) ∧ Below w.heap.size w w' := by
  have H0 : Hid _ := zSig_new w
  have hpc := sPublicOf_yes s a (w.alloc (.cells zSig 37)) hs ha
  have hps := pubB_size s a hs
  have hnn := not_nil (D := pubB s a) (by omega)
  have HCL : Hid (∀ W, Below w.heap.size w W → W.cell? ⟨ga, oa + a, none⟩ = some (.string (gB l a))) := fun W hW => by
    obtain ⟨_, _, _, _, _, hc⟩ := hv.below hW hv.lt
    have := hc a (by omega)
    rw [gB_eq] at this
    exact this
  obtain ⟨x, cap, rfl, _, hA, hcc⟩ := hv
  have ea := hA (by omega)
  subst ea
  rw [hl]
  have hne : ((pubB s a).toList == (gB l a).toList) = false := by
    rw [beq_eq_false_iff_ne]
    intro he
    rw [ByteArray.toList_eq, ByteArray.toList_eq] at he
    exact hk (ByteArray.ext (Array.toList_inj.1 he)).symm
  have hd : decide ((0 : Int) ≤ (a : Int) ∧ (a : Int) ≤ 15) = true := by simp; omega
  clear hA hcc hl hk
  generalize pubB s a = K at *
  generalize gB l a = Y at *
  go_enter Tryd.func33, Tryd.ntmps33
  go_wp2_with fail
  refine (l01In_any _ _ _ _).mono ?_
  rintro e w1 ⟨rfl, rfl⟩
  go_wp2_with fail
  refine hpc.mono ?_
  rintro e w2 ⟨rfl, hb2⟩
  have b2 := H0.out.1.trans (hb2.mono H0.out.1.size)
  have hS2 := H0.out.2.later hb2
  have c0 := HCL.out w2 b2
  have i1 : (a : Int) < 16 := by omega
  have i2 : (0 : Int) ≤ (a : Int) := by omega
  clear hpc H0 hb2 HCL
  go_wp2_with (refine wp_storeSig rfl _ _ rfl w.heap.size 0 0 _ _ _ (.slice none 0 0) (.slice none 0 0) (.slice none 0 0) hS2 rfl rfl rfl rfl rfl ?_; intro hfin)
  refine ret_sig2 8 9 w.heap.size 0 _ _ _ _ rfl rfl rfl rfl hfin ?_
  exact ⟨rfl, below_setRow b2 (Nat.le_refl _)⟩

end Go.Proofs.YthkknckpippjhaaDoor
/-
  What the draws of names, values and places of bits give.
-/
namespace Go.Proofs.YthkknckpippjhaaDoor
open Go.RowKit
set_option linter.unusedVariables false

theorem l01Pick_in (B : Nat) (w0 w : World) (g : Nat) (v : Value) (gl cap : Nat) (zs : List ByteArray) (hc : Cur B w0 w g v) (h0 : 0 < zs.length) (h1 : zs.length ≤ 1000000) (hne : gl ≠ g) (hgl : gl < w.heap.size)
    (hcell : Hid (∀ j, (h : j < zs.length) → w.cell? ⟨gl, j, none⟩ = some (.string zs[j]))) :
    Calls Tryd.prog 101 #[.pointer (some ⟨g, 0, none⟩), .slice (some ⟨gl, 0, none⟩) zs.length cap] w fun e w' => ∃ y : ByteArray, y ∈ zs ∧ e = .returned (.string y) ∧ Cur B w0 w' g v ∧ w.grownBy w' (some g) := by
  go_enter Tryd.func101, Tryd.ntmps101
  go_wp2_with fail
  refine (l01Below_nat B w0 _ g v zs.length hc h0 (by omega)).mono ?_
  rintro e w1 ⟨j, hj, rfl, hc1, hg1⟩
  have hcl : w1.cell? ⟨gl, j, none⟩ = some (.string zs[j]) := hg1.cell (hcell.out j hj) (by simpa using hne)
  go_wp2
  go_ret
  exact ⟨zs[j], List.getElem_mem _, rfl, hc1, hg1⟩

/-- one of a list of texts that is written out -/
theorem pick_lit (B : Nat) (w0 w : World) (g : Nat) (v : Value) (n : Nat) (zs : List ByteArray) (cs : Array Value) (hc1 : Cur B w0 w g v) (hn : zs.length = n) (h0 : 0 < n) (h1 : n ≤ 1000000)
    (hcell : Hid (∀ j, (h : j < zs.length) → (w.alloc (.cells cs 9)).cell? ⟨w.heap.size, j, none⟩ = some (.string zs[j]))) :
    Hid (Calls Tryd.prog 101 #[.pointer (some ⟨g, 0, none⟩), .slice (some ⟨w.heap.size, 0, none⟩) n n] (w.alloc (.cells cs 9)) fun e w' => ∃ y : ByteArray, y ∈ zs ∧ e = .returned (.string y) ∧ Cur B w0 w' g v ∧ w.grownBy w' (some g)) := by
  have hca : Cur B w0 (w.alloc (.cells cs 9)) g v := hc1.kept (World.grownBy_alloc w _ none) (by simp) hc1.size (fun k hk => by cases hk)
  have hga : w.grownBy (w.alloc (.cells cs 9)) (some g) := World.grownBy_alloc w _ (some g)
  have hgl := hc1.lt
  have cP := l01Pick_in B w0 (w.alloc (.cells cs 9)) g v w.heap.size n zs hca (by omega) (by omega) (by omega) (by simp) hcell
  rw [hn] at cP
  exact cP.mono fun e w' ⟨y, hy, he, hc, hg⟩ => ⟨y, hy, he, hc, hga.trans hg⟩

def nameL : List ByteArray := [⟨#[97, 110, 110]⟩, ⟨#[98, 111, 98]⟩, ⟨#[99, 97, 116]⟩, ⟨#[100, 97, 110]⟩, ⟨#[101, 118, 101]⟩, ⟨#[102, 97, 121]⟩, ⟨#[103, 117, 115]⟩, ⟨#[104, 97, 108]⟩, ⟨#[105, 118, 121]⟩, ⟨#[106, 111, 101, 64, 120, 46, 111, 114, 103]⟩, ⟨#[107, 105, 109]⟩, ⟨#[108, 101, 111]⟩]
def nameC : Array Value := #[.string ⟨#[97, 110, 110]⟩, .string ⟨#[98, 111, 98]⟩, .string ⟨#[99, 97, 116]⟩, .string ⟨#[100, 97, 110]⟩, .string ⟨#[101, 118, 101]⟩, .string ⟨#[102, 97, 121]⟩, .string ⟨#[103, 117, 115]⟩, .string ⟨#[104, 97, 108]⟩, .string ⟨#[105, 118, 121]⟩, .string ⟨#[106, 111, 101, 64, 120, 46, 111, 114, 103]⟩, .string ⟨#[107, 105, 109]⟩, .string ⟨#[108, 101, 111]⟩]
theorem name_at (w : World) : Hid (∀ j, (h : j < nameL.length) → (w.alloc (.cells nameC 9)).cell? ⟨w.heap.size, j, none⟩ = some (.string nameL[j])) := by
  intro j hj
  rw [World.cell?_alloc_at _ _ _ _ rfl]
  have : j = 0 ∨ j = 1 ∨ j = 2 ∨ j = 3 ∨ j = 4 ∨ j = 5 ∨ j = 6 ∨ j = 7 ∨ j = 8 ∨ j = 9 ∨ j = 10 ∨ j = 11 := by simp [nameL] at hj; omega
  rcases this with rfl | rfl | rfl | rfl | rfl | rfl | rfl | rfl | rfl | rfl | rfl | rfl <;> rfl

theorem nameL_ok : ∀ y ∈ nameL, okB nameB y = true ∧ y.size ≤ 12 := by decide +kernel

def nokL : List ByteArray := [⟨#[]⟩, ⟨#[97, 110, 110]⟩, ⟨#[106, 111, 101, 64, 120, 46, 111, 114, 103]⟩, ⟨#[65]⟩, ⟨#[116, 119, 101, 108, 118, 101, 116, 119, 101, 108, 118, 101]⟩, ⟨#[116, 104, 105, 114, 116, 101, 101, 110, 116, 104, 105, 114, 116]⟩, ⟨#[97, 32, 98]⟩, ⟨#[48]⟩, ⟨#[97, 0]⟩]
def nokC : Array Value := #[.string ⟨#[]⟩, .string ⟨#[97, 110, 110]⟩, .string ⟨#[106, 111, 101, 64, 120, 46, 111, 114, 103]⟩, .string ⟨#[65]⟩, .string ⟨#[116, 119, 101, 108, 118, 101, 116, 119, 101, 108, 118, 101]⟩, .string ⟨#[116, 104, 105, 114, 116, 101, 101, 110, 116, 104, 105, 114, 116]⟩, .string ⟨#[97, 32, 98]⟩, .string ⟨#[48]⟩, .string ⟨#[97, 0]⟩]
theorem nok_at (w : World) : Hid (∀ j, (h : j < nokL.length) → (w.alloc (.cells nokC 9)).cell? ⟨w.heap.size, j, none⟩ = some (.string nokL[j])) := by
  intro j hj
  rw [World.cell?_alloc_at _ _ _ _ rfl]
  have : j = 0 ∨ j = 1 ∨ j = 2 ∨ j = 3 ∨ j = 4 ∨ j = 5 ∨ j = 6 ∨ j = 7 ∨ j = 8 := by simp [nokL] at hj; omega
  rcases this with rfl | rfl | rfl | rfl | rfl | rfl | rfl | rfl | rfl <;> rfl

theorem nokL_ok : ∀ y ∈ nokL, y.size ≤ 13 := by decide +kernel

def vokL : List ByteArray := [⟨#[]⟩, ⟨#[107, 49]⟩, ⟨#[126]⟩, ⟨#[116, 119, 101, 108, 118, 101, 116, 119, 101, 108, 118, 101]⟩, ⟨#[116, 104, 105, 114, 116, 101, 101, 110, 116, 104, 105, 114, 116]⟩, ⟨#[97, 32, 98]⟩, ⟨#[127]⟩, ⟨#[65, 33]⟩]
def vokC : Array Value := #[.string ⟨#[]⟩, .string ⟨#[107, 49]⟩, .string ⟨#[126]⟩, .string ⟨#[116, 119, 101, 108, 118, 101, 116, 119, 101, 108, 118, 101]⟩, .string ⟨#[116, 104, 105, 114, 116, 101, 101, 110, 116, 104, 105, 114, 116]⟩, .string ⟨#[97, 32, 98]⟩, .string ⟨#[127]⟩, .string ⟨#[65, 33]⟩]
theorem vok_at (w : World) : Hid (∀ j, (h : j < vokL.length) → (w.alloc (.cells vokC 9)).cell? ⟨w.heap.size, j, none⟩ = some (.string vokL[j])) := by
  intro j hj
  rw [World.cell?_alloc_at _ _ _ _ rfl]
  have : j = 0 ∨ j = 1 ∨ j = 2 ∨ j = 3 ∨ j = 4 ∨ j = 5 ∨ j = 6 ∨ j = 7 := by simp [vokL] at hj; omega
  rcases this with rfl | rfl | rfl | rfl | rfl | rfl | rfl | rfl <;> rfl

theorem vokL_ok : ∀ y ∈ vokL, y.size ≤ 13 := by decide +kernel

/-- a number that fits -/
def fits (y : Int) : Prop := -9223372036854775808 ≤ y ∧ y ≤ 9223372036854775807
def plL (n : Nat) : List Int := [-1, (n : Int), (n : Int) + 1, 9223372036854775807, -9223372036854775808]
def plC (n : Nat) : Array Value := #[.int .i64 (-1), .int .i64 (n : Int), .int .i64 ((n : Int) + 1), .int .i64 9223372036854775807, .int .i64 (-9223372036854775808)]
theorem pl_at (n : Nat) (w : World) : Hid (∀ j, (h : j < (plL n).length) → (w.alloc (.cells (plC n) 3)).cell? ⟨w.heap.size, j, none⟩ = some (.int .i64 (plL n)[j])) := by
  intro j hj
  rw [World.cell?_alloc_at _ _ _ _ rfl]
  have : j = 0 ∨ j = 1 ∨ j = 2 ∨ j = 3 ∨ j = 4 := by simp [plL] at hj; omega
  rcases this with rfl | rfl | rfl | rfl | rfl <;> rfl
theorem plL_in (n : Nat) (hn : n ≤ 1000000) (y : Int) (h : y ∈ plL n) : fits y := by
  unfold fits
  simp [plL] at h
  omega

end Go.Proofs.YthkknckpippjhaaDoor
/-
  What DrawSignText gives; two signatures compared by the law.
-/
namespace Go.Proofs.YthkknckpippjhaaDoor
open Go.RowKit Go.BigFrame
set_option linter.unusedVariables false
set_option linter.unusedSimpArgs false

set_option maxRecDepth 100000 in
set_option maxHeartbeats 400000 in
theorem sameTexts_yes (va vb : Value) (ga oa gb ob : Nat) (l : List ByteArray) (w : World) (ha : SS w va ga oa l) (hb : SS w vb gb ob l) :
    Calls Tryd.prog 53 #[va, vb] w fun e w' => e = .returned (.bool true) ∧ ∃ q, w' = w.drewN q := by
  obtain ⟨a, ca, rfl, hl, hA, hcA⟩ := ha
  obtain ⟨b, cb, rfl, _, hB, hcB⟩ := hb
  obtain ⟨n, hn⟩ : ∃ n, l.length = n := ⟨_, rfl⟩
  rw [hn] at hl ⊢
  have HA : Hid (0 < n → a = some ⟨ga, oa, none⟩) := by rw [← hn]; exact hA
  have HB : Hid (0 < n → b = some ⟨gb, ob, none⟩) := by rw [← hn]; exact hB
  clear hA hB
  go_enter Tryd.func53, Tryd.ntmps53
  go_wp2
  go_loopw [5] (fun i wr => EqS n w i wr) (fun i _ => n - (intOf i).toNat)
  case atStart => exact ⟨0, 0, by omega, rfl, rfl⟩
  case round =>
    obtain ⟨m, q, hm, rfl, rfl⟩ := hrel
    by_cases hlt : m < n
    · have ea := HA.out (by omega)
      have eb := HB.out (by omega)
      subst ea
      subst eb
      have c1 := hcA m (by omega)
      have c2 := hcB m (by omega)
      generalize l[m]'(by omega) = X at *
      have i1 : (m : Int) < (n : Int) := by omega
      have i2 : (0 : Int) ≤ (m : Int) := by omega
      clear hcA hcB HA HB
      go_wp2
      go_quiet (fail)
      go_wp2
      go_roundw
      case rel => exact ⟨m + 1, _, by omega, by go_num, rfl⟩
      case measure => simp [intOf]; omega
    · have hme : m = n := by omega
      subst hme
      clear hcA hcB HA HB
      go_wp2
      go_ret
      exact ⟨rfl, q, rfl⟩

set_option maxRecDepth 100000 in
set_option maxHeartbeats 1000000 in
theorem sameSig_yes (a : Int) (v1 v2 v3 u1 u2 u3 : Value) (g1 o1 g2 o2 g3 o3 p1 q1 p2 q2 p3 q3 : Nat) (o s d : List ByteArray) (w : World) (h1 : SS w v1 g1 o1 o) (h2 : SS w v2 g2 o2 s) (h3 : SS w v3 g3 o3 d) (k1 : SS w u1 p1 q1 o) (k2 : SS w u2 p2 q2 s) (k3 : SS w u3 p3 q3 d) :
    Calls Tryd.prog 48 #[.agg #[.int .i64 a, v1, v2, v3], .agg #[.int .i64 a, u1, u2, u3]] w fun e w' => e = .returned (.bool true) ∧ Below w.heap.size w w' := by
  have H1 : Hid (∀ W, Below w.heap.size w W → Calls Tryd.prog 53 #[v1, u1] W fun e w' => e = .returned (.bool true) ∧ ∃ q, w' = W.drewN q) := fun W hW => sameTexts_yes v1 u1 g1 o1 p1 q1 o W (h1.below hW h1.lt) (k1.below hW k1.lt)
  have H2 : Hid (∀ W, Below w.heap.size w W → Calls Tryd.prog 53 #[v2, u2] W fun e w' => e = .returned (.bool true) ∧ ∃ q, w' = W.drewN q) := fun W hW => sameTexts_yes v2 u2 g2 o2 p2 q2 s W (h2.below hW h2.lt) (k2.below hW k2.lt)
  have H3 : Hid (∀ W, Below w.heap.size w W → Calls Tryd.prog 53 #[v3, u3] W fun e w' => e = .returned (.bool true) ∧ ∃ q, w' = W.drewN q) := fun W hW => sameTexts_yes v3 u3 g3 o3 p3 q3 d W (h3.below hW h3.lt) (k3.below hW k3.lt)
  have HB : Hid (∀ x y : Obj, Below w.heap.size w ((w.alloc x).alloc y)) := fun x y => ((Below.refl _ _).alloc (Nat.le_refl _) _).alloc (by simp) _
  obtain ⟨_, _, rfl, x1, y1⟩ := h1
  obtain ⟨_, _, rfl, x2, y2⟩ := h2
  obtain ⟨_, _, rfl, x3, y3⟩ := h3
  obtain ⟨_, _, rfl, x4, y4⟩ := k1
  obtain ⟨_, _, rfl, x5, y5⟩ := k2
  obtain ⟨_, _, rfl, x6, y6⟩ := k3
  clear x1 x2 x3 x4 x5 x6 y1 y2 y3 y4 y5 y6
  generalize o.length = n1 at *
  generalize s.length = n2 at *
  generalize d.length = n3 at *
  go_enter Tryd.func48, Tryd.ntmps48
  go_wp2_with fail
  refine (H1.out _ (HB.out _ _)).mono ?_
  rintro e w' ⟨rfl, q1, rfl⟩
  go_wp2_with fail
  refine (H2.out _ (below_drn (HB.out _ _) _)).mono ?_
  rintro e w' ⟨rfl, q2, rfl⟩
  go_wp2_with fail
  refine (H3.out _ (below_drn (HB.out _ _) _)).mono ?_
  rintro e w' ⟨rfl, q3, rfl⟩
  go_wp2
  go_ret
  exact ⟨rfl, below_drn (HB.out _ _) _⟩

def seedL : List ByteArray := [⟨#[111, 110, 101]⟩, ⟨#[116, 119, 111]⟩, ⟨#[116, 104, 114, 101, 101]⟩]
def seedC : Array Value := #[.string ⟨#[111, 110, 101]⟩, .string ⟨#[116, 119, 111]⟩, .string ⟨#[116, 104, 114, 101, 101]⟩]
theorem seed_at (w : World) : Hid (∀ j, (h : j < seedL.length) → (w.alloc (.cells seedC 9)).cell? ⟨w.heap.size, j, none⟩ = some (.string seedL[j])) := by
  intro j hj
  rw [World.cell?_alloc_at _ _ _ _ rfl]
  have : j = 0 ∨ j = 1 ∨ j = 2 := by simp [seedL] at hj; omega
  rcases this with rfl | rfl | rfl <;> rfl
theorem seedL_ok : ∀ y ∈ seedL, y.size ≤ 5 := by decide +kernel
theorem l05Seed_in (B : Nat) (w0 w : World) (g : Nat) (v : Value) (hc : Cur B w0 w g v) :
    Calls Tryd.prog 81 #[.pointer (some ⟨g, 0, none⟩)] w fun e w' => ∃ y : ByteArray, y.size ≤ 5 ∧ e = .returned (.string y) ∧ Cur B w0 w' g v ∧ w.grownBy w' (some g) := by
  have CP := pick_lit B w0 w g v 3 seedL seedC hc rfl (by omega) (by omega) (seed_at w)
  go_enter Tryd.func81, Tryd.ntmps81
  go_wp2_with fail
  refine CP.out.mono ?_
  rintro e w2 ⟨y, hy, rfl, hc2, hg2⟩
  go_wp2
  go_ret
  exact ⟨y, seedL_ok y hy, rfl, hc2, hg2⟩

def atL : List Int := [0, 1, 7, 15, 16, -1, 4]
def atC : Array Value := #[.int .i64 0, .int .i64 1, .int .i64 7, .int .i64 15, .int .i64 16, .int .i64 (-1), .int .i64 4]
theorem at_at (w : World) : Hid (∀ j, (h : j < atL.length) → (w.alloc (.cells atC 3)).cell? ⟨w.heap.size, j, none⟩ = some (.int .i64 atL[j])) := by
  intro j hj
  rw [World.cell?_alloc_at _ _ _ _ rfl]
  have : j = 0 ∨ j = 1 ∨ j = 2 ∨ j = 3 ∨ j = 4 ∨ j = 5 ∨ j = 6 := by simp [atL] at hj; omega
  rcases this with rfl | rfl | rfl | rfl | rfl | rfl | rfl <;> rfl

theorem pubA_small (s : ByteArray) (a : Int) : (pubA s a).size ≤ 1048576 := by
  unfold pubA
  split
  · exact hashB_small _ _
  · exact Nat.zero_le _
theorem poolL_small (s : ByteArray) (j : Nat) : (gB (poolL s) j).size ≤ 1048576 := by
  by_cases h : j < (poolL s).length
  · rw [← gB_eq _ _ h, poolL_at]
    exact pubA_small _ _
  · unfold gB
    rw [List.getD_eq_getElem?_getD, List.getElem?_eq_none (by omega)]
    simp
theorem gB_tail (l : List ByteArray) (j : Nat) : gB l.tail j = gB l (j + 1) := by
  unfold gB
  cases l <;> simp

/-- four values, answered -/
theorem ret_four {fn : Func} {Rp : Ending → World → Prop} {a : Act} {w : World} (i j k m : Nat) (v0 v1 v2 v3 : Value) (hres : fn.results = #[.tmp i, .tmp j, .tmp k, .tmp m]) (hd : a.defers = []) (h0 : a.tmps.getD i undef = v0) (h1 : a.tmps.getD j undef = v1) (h2 : a.tmps.getD k undef = v2) (h3 : a.tmps.getD m undef = v3)
    (h : Rp (.returned (.tuple #[v0, v1, v2, v3])) w) : bodyPost Tryd.prog fn Rp .ret a w := by
  refine bodyPost_ret (v := .tuple #[v0, v1, v2, v3]) ?_ hd h
  have h0' : a.tmps[i]?.getD undef = v0 := by simpa using h0
  have h1' : a.tmps[j]?.getD undef = v1 := by simpa using h1
  have h2' : a.tmps[k]?.getD undef = v2 := by simpa using h2
  have h3' : a.tmps[m]?.getD undef = v3 := by simpa using h3
  simp [results, hres, h0', h1', h2', h3']

/-- what DrawSignText gives -/
def DsAns (w : World) (e : Ending) (w' : World) : Prop := ∃ (s : ByteArray) (x : Option Addr) (n c : Nat) (g o : Nat) (l : List ByteArray) (y : Int) (t : ByteArray), e = .returned (.tuple #[.string s, .slice x n c, .int .i64 y, .string t]) ∧ s.size ≤ 100 ∧ t.size ≤ 1000 ∧ (-1 ≤ y ∧ y ≤ 16) ∧ l.length = n ∧ n ≤ 16 ∧ (∀ j, (gB l j).size ≤ 1048576) ∧ SS w' (.slice x n c) g o l ∧ Below w.heap.size w w'

set_option maxRecDepth 100000 in
set_option maxHeartbeats 1000000 in
theorem DrawSignText_any (w : World) (ao : Option Addr) (len cap : Nat) (hlen : len ≤ 1048576) (hc : Code w.heap.size w (.slice ao len cap)) :
    Calls Tryd.prog 45 #[.slice ao len cap] w (DsAns w) := by
  have HC : Hid (Code w.heap.size w (.slice ao len cap)) := hc
  clear hc
  go_enter Tryd.func45, Tryd.ntmps45
  go_wp2_with fail
  refine (l01New_in w _ HC.out).mono ?_
  rintro e w1 ⟨g, rfl, hc1, hb1⟩
  obtain ⟨v, hv⟩ : ∃ v, Value.slice ao len cap = v := ⟨_, rfl⟩
  rw [hv] at hc1
  go_wp2_with fail
  refine (l01Below_in w.heap.size w _ g v 10 10 rfl hc1 (by omega) (by omega)).mono ?_
  rintro e w2 ⟨kk, hkk, rfl, hc2, hg2⟩
  clear hc1 hg2 hb1
  go_wp2_with fail
  refine (l05Seed_in w.heap.size w _ g v hc2).mono ?_
  rintro e w3 ⟨s, hs, rfl, hc3, hg3⟩
  clear hc2 hg3
  have HCP : Hid (Calls Tryd.prog 82 #[.pointer (some ⟨g, 0, none⟩), .slice (some ⟨w3.heap.size, 0, none⟩) 7 7] (w3.alloc (.cells atC 3)) fun e w' => ∃ y : Int, y ∈ atL ∧ e = .returned (.int .i64 y) ∧ Cur w.heap.size w w' g v ∧ w3.grownBy w' (some g)) := by
    have hca : Cur w.heap.size w (w3.alloc (.cells atC 3)) g v := hc3.kept (World.grownBy_alloc w3 _ none) (by simp) hc3.size (fun k hk => by cases hk)
    have hga : w3.grownBy (w3.alloc (.cells atC 3)) (some g) := World.grownBy_alloc w3 _ (some g)
    have hgl := hc3.lt
    exact (l01PickInt_in w.heap.size w (w3.alloc (.cells atC 3)) g v w3.heap.size 7 atL hca (by decide) (by decide) (by omega) (by simp) (at_at w3)).mono fun e w' ⟨y, hy, he, hc, hg⟩ => ⟨y, hy, he, hc, hga.trans hg⟩
  clear hc3
  go_wp2_with fail
  refine HCP.out.mono ?_
  rintro e w4 ⟨y, hy, rfl, hc4, hg4⟩
  clear hg4 HCP
  go_wp2_with fail
  refine (l01Below_in w.heap.size w _ g v 9 9 rfl hc4 (by omega) (by omega)).mono ?_
  rintro e w5 ⟨n5, hn5, rfl, hc5, hg5⟩
  clear hc4 hg5
  go_wp2_with fail
  refine (l01Text_in w.heap.size w _ g v _ n5 rfl hc5 (by omega)).mono ?_
  rintro e w6 ⟨tl, htl, rfl, hc6, hg6⟩
  have b6 := hc6.2.1
  have hB6 := hc6.size
  have htz : (⟨tl.toArray⟩ : ByteArray).size ≤ 1000 := by simp [ByteArray.size]; omega
  generalize (⟨tl.toArray⟩ : ByteArray) = T at *
  clear hc5 hg6 hc6 htl
  go_wp2_with fail
  refine (sPoolOf_any s _ (by omega)).mono ?_
  rintro e w7 ⟨u, rfl, hos⟩
  have hpl := poolL_len s
  have hps := poolL_small s
  have hb7 := b6.trans (hos.2.1.mono hB6)
  generalize poolL s = L at *
  rcases hos.shape with ⟨_, hz⟩ | ⟨gp, cp, rfl, hgp, hgp2⟩
  · rw [hz] at hpl
    simp at hpl
  rw [hpl] at hos ⊢
  have hss : SS w7 (.slice (some ⟨gp, 0, none⟩) 16 cp) gp 0 L := (hos.tb.ts 16 cp hpl (by omega)).ss
  have hcap : 16 ≤ cp := by
    rcases hos.1.2 with ⟨h, _⟩ | ⟨g', cap', cur, hv', hbg, hg', rest⟩
    · simp at h
    · simp at hv'
      obtain ⟨_, _, rfl⟩ := hv'
      have h1 := rest.1
      omega
  have hyy : -1 ≤ y ∧ y ≤ 16 := by
    simp [atL] at hy
    omega
  clear hos
  by_cases k0 : kk = 0
  · subst k0
    go_wp2
    refine ret_four 2 3 4 5 _ _ _ _ rfl rfl rfl rfl rfl rfl ?_
    exact ⟨_, _, _, _, gp, 0, L, y, T, rfl, by decide, htz, hyy, hpl, by omega, hps, hss, hb7⟩
  · have q0 : ((kk : Int) == 0) = false := by simp; omega
    by_cases k1 : kk = 1
    · subst k1
      have htl1 : L.tail.length = 15 := by simp [hpl]
      have hpt : ∀ j, (gB L.tail j).size ≤ 1048576 := fun j => by rw [gB_tail]; exact hps _
      have hst : ∀ c, SS w7 (.slice (some ⟨gp, 1, none⟩) 15 c) gp 1 L.tail := fun c => by
        obtain ⟨_, _, _, _, _, hcc⟩ := id hss
        refine ⟨_, c, by rw [htl1], by omega, fun _ => rfl, fun j hj => ?_⟩
        have h1 := hcc (j + 1) (by omega)
        rw [show 1 + j = 0 + (j + 1) by omega, h1]
        simp
      have hcne : cp ≠ 1 := by omega
      go_wp2
      refine ret_four 2 3 4 5 _ _ _ _ rfl rfl rfl rfl rfl rfl ?_
      exact ⟨_, _, _, _, gp, 1, L.tail, y, T, rfl, by omega, htz, hyy, htl1, by omega, hpt, hst _, hb7⟩
    · have q1 : ((kk : Int) == 1) = false := by simp; omega
      by_cases k2 : kk = 2
      · subst k2
        have hmod : ∃ n : Nat, n ≤ 201 ∧ 200 + y.tmod 2 = (n : Int) := by
          simp [atL] at hy
          rcases hy with rfl | rfl | rfl | rfl | rfl | rfl | rfl
          · exact ⟨200, by omega, rfl⟩
          · exact ⟨201, by omega, rfl⟩
          · exact ⟨201, by omega, rfl⟩
          · exact ⟨201, by omega, rfl⟩
          · exact ⟨200, by omega, rfl⟩
          · exact ⟨199, by omega, rfl⟩
          · exact ⟨200, by omega, rfl⟩
        obtain ⟨m, hm, hme⟩ := hmod
        have hss8 := fun (W : World) (hW : Below w7.heap.size w7 W) => hss.below hW hss.lt
        go_wp2_with fail
        refine (l01Long_in _ m 97 _ _ (by first | exact hme | omega) rfl (by omega)).mono ?_
        rintro e w8 ⟨rfl, hb8⟩
        have hlz : (⟨(List.replicate m 97).toArray⟩ : ByteArray).size ≤ 1000 := by simp [ByteArray.size]; omega
        generalize (⟨(List.replicate m 97).toArray⟩ : ByteArray) = Z at *
        go_wp2
        refine ret_four 2 3 4 5 _ _ _ _ rfl rfl rfl rfl rfl rfl ?_
        exact ⟨_, _, _, _, gp, 0, L, y, Z, rfl, by omega, hlz, hyy, hpl, by omega, hps, hss8 _ hb8, hb7.trans (hb8.mono hb7.size)⟩
      · have q2 : ((kk : Int) == 2) = false := by simp; omega
        go_wp2
        refine ret_four 2 3 4 5 _ _ _ _ rfl rfl rfl rfl rfl rfl ?_
        exact ⟨_, _, _, _, gp, 0, L, y, T, rfl, by omega, htz, hyy, hpl, by omega, hps, hss, hb7⟩

end Go.Proofs.YthkknckpippjhaaDoor
