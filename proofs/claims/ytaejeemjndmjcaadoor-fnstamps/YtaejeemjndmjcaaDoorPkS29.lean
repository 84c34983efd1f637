/-
  Texts laid together: Sgp.
-/
import Derived.Test.YtaejeemjndmjcaaDoorPkS28
/-
  What the specification's SigOk answers.
-/
namespace Go.Proofs.YtaejeemjndmjcaaDoor
open Go.RowKit Go.BigFrame
set_option linter.unusedVariables false

def K1R (b : Nat) (o s : List ByteArray) (B : Nat) (W0 : World) (v i : Value) (wr : World) : Prop :=
  ∃ m : Nat, m ≤ 8 ∧ i = .int .i64 m ∧ OS B W0 wr v (lkN b o s m)
def K2R (a : Nat) (d : List ByteArray) (t : ByteArray) (B : Nat) (W0 : World) (h p i : Value) (wr : World) : Prop :=
  ∃ m : Nat, m ≤ 4 ∧ i = .int .i64 m ∧ h = .string (cut16 (fT a d t m)) ∧ p = .int .i64 (a / 2 ^ m : Nat) ∧ Below B W0 wr

theorem tagOk_two (k : Int) (x y : ByteArray) (hk : 1 ≤ k ∧ k ≤ 8) (hx : x.size ≤ 200) (hy : y.size ≤ 200) : tagOk k [x, y] = true := by
  refine tagOk_yes _ _ ⟨hk, by simp⟩ ?_
  intro m hm
  have h0 : m = 0 ∨ m = 1 := by simp at hm; omega
  rcases h0 with rfl | rfl
  · exact hx
  · exact hy
theorem lkN_wide (b : Nat) (o s : List ByteArray) (ho : o.length = 8) (hs : s.length = 8) (wo : kwB o = true) (ws : kwB s = true) : ∀ m, m ≤ 8 → kwB (lkN b o s m) = true
  | 0, _ => rfl
  | m + 1, h => by
    rw [lkN_step]
    have ih := lkN_wide b o s ho hs wo ws m (by omega)
    have h1 : (gB s m).size = 16 := by rw [← gB_eq s m (by omega)]; exact kwB_at ws m (by omega)
    have h2 : (gB o m).size = 16 := by rw [← gB_eq o m (by omega)]; exact kwB_at wo m (by omega)
    have h3 : (lockB (gB o m)).size = 16 := by
      unfold lockB
      refine hashB_size ?_
      rw [tagOk_one 6 _ (by omega), decide_eq_true (by omega)]
    unfold kwB at *
    rw [List.all_append, ih]
    unfold lk2
    split <;> simp [h1, h3]
theorem pub_ok (b : Nat) (o s : List ByteArray) (ho : o.length = 8) (hs : s.length = 8) (wo : kwB o = true) (ws : kwB s = true) : tagOk 6 (lkN b o s 8) = true := by
  have hw := lkN_wide b o s ho hs wo ws 8 (by omega)
  refine tagOk_yes _ _ ⟨by omega, by rw [lkN_len]; omega⟩ ?_
  intro m hm
  rw [kwB_at hw m hm]
  omega
theorem fT_cut (a : Nat) (d : List ByteArray) (t : ByteArray) (i : Nat) : (cut16 (fT a d t i)).size ≤ 16 := by
  unfold cut16 cutH cutB
  rw [if_pos (by omega), ByteArray.size_extract]
  show min 16 _ - 0 ≤ 16
  omega

set_option maxRecDepth 100000 in
set_option maxHeartbeats 4000000 in
theorem sSigOk_yes (r t : ByteArray) (a : Nat) (vo vs vd : Value) (g1 o1 g2 o2 g3 o3 : Nat) (o s d : List ByteArray) (w : World) (ho : SS w vo g1 o1 o) (hs : SS w vs g2 o2 s) (hd : SS w vd g3 o3 d) (hf : formB (a : Int) o s d = true) (ht : t.size ≤ 200) :
    Calls Tryd.prog 62 #[.string r, .string t, .agg #[.int .i64 a, vo, vs, vd]] w fun e w' => e = .returned (.bool ((cut16 (fT a d (pubT (bitsB t) o s) 4)).toList == r.toList)) ∧ Below w.heap.size w w' := by
  obtain ⟨hA, ⟨wo, lo⟩, ⟨ws, ls⟩, wd, ld⟩ := formB_parts hf
  have HSS : Hid (∀ W, Below w.heap.size w W → SS W vo g1 o1 o ∧ SS W vs g2 o2 s ∧ SS W vd g3 o3 d) := fun W hW => ⟨ho.below hW ho.lt, hs.below hW hs.lt, hd.below hW hd.lt⟩
  have hB : Below w.heap.size w (w.alloc (.cells #[.int .i64 a, vo, vs, vd] 28)) := (Below.refl _ _).alloc (Nat.le_refl _) _
  have hc := l05Form_any (a : Int) vo vs vd g1 o1 g2 o2 g3 o3 o s d _ (ho.below hB ho.lt) (hs.below hB hs.lt) (hd.below hB hd.lt)
  rw [hf] at hc
  have HC : Hid (Calls Tryd.prog 43 #[.agg #[.int .i64 a, vo, vs, vd]] (w.alloc (.cells #[.int .i64 a, vo, vs, vd] 28)) fun e w' => e = .returned (.bool true) ∧ Below (w.alloc (.cells #[.int .i64 a, vo, vs, vd] 28)).heap.size (w.alloc (.cells #[.int .i64 a, vo, vs, vd] 28)) w') := hc
  have z0 : (w.alloc (.cells #[.int .i64 a, vo, vs, vd] 28)).heap.size = w.heap.size + 1 := by simp
  have HLN : Hid (o.length = 8 ∧ s.length = 8 ∧ d.length = 4) := ⟨lo, ls, ld⟩
  have HM : Hid (Below w.heap.size w (w.alloc (.cells #[.int .i64 a, vo, vs, vd] 28)) ∧ SgM (w.alloc (.cells #[.int .i64 a, vo, vs, vd] 28)) w.heap.size a vo vs vd ∧ (w.alloc (.cells #[.int .i64 a, vo, vs, vd] 28)).heap.size = w.heap.size + 1) := ⟨hB, SgM.new w _ _ _ _, z0⟩
  have HW : Hid (kwB o = true ∧ kwB s = true ∧ kwB d = true) := ⟨wo, ws, wd⟩
  have hpok := pub_ok (bitsB t) o s lo ls wo ws
  obtain ⟨ao, co, rfl, _, x1⟩ := ho
  obtain ⟨as2, cs2, rfl, _, x2⟩ := hs
  obtain ⟨ad, cd, rfl, _, x3⟩ := hd
  rw [lo, ls, ld] at HSS HC HM ⊢
  clear x1 x2 x3 hc hB hf wo ws wd lo ls ld z0
  have ha : a ≤ 15 := by omega
  clear hA
  obtain ⟨b, hbe⟩ : ∃ b, bitsB t = b := ⟨_, rfl⟩
  have hbb := bitsB_lt t
  rw [hbe] at hbb hpok ⊢
  have HPK : Hid (tagOk 6 (lkN b o s 8) = true) := hpok
  have HCS : Hid (∀ W, Calls Tryd.prog 13 #[.string t] W fun e w' => e = .returned (.int .i64 (b : Int)) ∧ Below W.heap.size W w') := fun W => by
    have := sSignBitsOf_any t W
    rw [hbe] at this
    exact this
  clear hbe hpok
  obtain ⟨Z, hZ⟩ : ∃ Z, cut16 (fT a d (pubT b o s) 4) = Z := ⟨_, rfl⟩
  have HZ : Hid (cut16 (fT a d (pubT b o s) 4) = Z) := hZ
  rw [hZ]
  clear hZ
  go_enter Tryd.func62, Tryd.ntmps62
  go_wp2_with fail
  refine HC.out.mono ?_
  rintro e w1 ⟨rfl, hb1⟩
  go_wp2_with fail
  refine (HCS.out _).mono ?_
  rintro e w2 ⟨rfl, hb2⟩
  have hb02 := hb1.trans (hb2.mono hb1.size)
  obtain ⟨W0, hW0⟩ : ∃ W0, w.alloc (.cells #[.int .i64 a, .slice ao 8 co, .slice as2 8 cs2, .slice ad 4 cd] 28) = W0 := ⟨_, rfl⟩
  rw [hW0] at hb02 HM
  have hb02 : Below (w.heap.size + 1) W0 w2 := by rw [← HM.out.2.2]; exact hb02
  have HST : Hid (K1R b o s (w.heap.size + 1) W0 (.slice (some ⟨w2.heap.size, 0, none⟩) 0 0) (.int .i64 0) (w2.alloc (.cells #[] 9))) := ⟨0, by omega, rfl, OS.up hb02 (by have := hb02.size; rw [HM.out.2.2] at this; exact this) (OS.made w2)⟩
  have HLA : Hid (∀ W, Below (w.heap.size + 1) W0 W → SgM W w.heap.size a (.slice ao 8 co) (.slice as2 8 cs2) (.slice ad 4 cd) ∧ Below w.heap.size w W) := fun W hW => ⟨HM.out.2.1.keep (hW.block _ (by omega)), HM.out.1.trans (hW.mono (by omega))⟩
  clear hb1 hb2 hb02 HCS HC hW0
  go_wp2
  go_loopw [8, 9] (fun v i wr => K1R b o s (w.heap.size + 1) W0 v i wr) (fun _ i _ => 8 - (intOf i).toNat)
  case atStart => exact HST.out
  case round =>
    obtain ⟨m, hm, rfl, hos⟩ := hrel
    clear HST
    by_cases hlt : m < 8
    · obtain ⟨⟨x1, y1, hv1, _, hA1, hc1⟩, ⟨x2, y2, hv2, _, hA2, hc2⟩, _⟩ := HSS.out _ (HLA.out _ hos.2.1).2
      have e1 := hA1 (by rw [HLN.out.1]; omega)
      have e2 := hA2 (by rw [HLN.out.2.1]; omega)
      rw [HLN.out.1] at hv1
      rw [HLN.out.2.1] at hv2
      simp at hv1 hv2
      obtain ⟨rfl, rfl⟩ := hv1
      obtain ⟨rfl, rfl⟩ := hv2
      subst e1
      subst e2
      have hlk := lkN_step b o s m
      have hlkl := lkN_len b o s m
      have hV := bitN_lt b m
      have i1 : (m : Int) < 8 := by omega
      have i2 : (0 : Int) ≤ (m : Int) := by omega
      have HCC : Hid (∀ W, Below (w.heap.size + 1) W0 W → W.cell? ⟨w.heap.size, 1, none⟩ = some (.slice (some ⟨g1, o1, none⟩) 8 co) ∧ W.cell? ⟨w.heap.size, 2, none⟩ = some (.slice (some ⟨g2, o2, none⟩) 8 cs2) ∧ W.cell? ⟨g1, o1 + m, none⟩ = some (.string (gB o m)) ∧ W.cell? ⟨g2, o2 + m, none⟩ = some (.string (gB s m))) := fun W hW => by
        obtain ⟨⟨_, _, _, _, _, k1⟩, ⟨_, _, _, _, _, k2⟩, _⟩ := HSS.out _ (HLA.out _ hW).2
        have j1 := k1 m (by rw [HLN.out.1]; exact hlt)
        have j2 := k2 m (by rw [HLN.out.2.1]; exact hlt)
        rw [gB_eq o m (by rw [HLN.out.1]; exact hlt)] at j1
        rw [gB_eq s m (by rw [HLN.out.2.1]; exact hlt)] at j2
        exact ⟨(HLA.out _ hW).1.c1, (HLA.out _ hW).1.c2, j1, j2⟩
      have HL2 : Hid (lk2 b o s m = if bitN b m = 0 then [lockB (gB o m), gB s m] else [gB s m, lockB (gB o m)]) := rfl
      generalize gB o m = O at *
      generalize gB s m = Y at *
      obtain ⟨d1, d2, c1, c2⟩ := HCC.out _ hos.2.1
      clear hA1 hA2 hc1 hc2
      have HLK := sLockOf_any O wr
      generalize lockB O = K at *
      go_wp2_with fail
      refine HLK.mono ?_
      rintro e w3 ⟨rfl, hb3⟩
      have hos3 := hos.later hb3
      clear hos hb3 HLK d1 d2 c1 c2
      go_wp2_with fail
      refine (sBitOf_at b m _ _ hbb rfl (by omega)).mono ?_
      rintro e w3' ⟨rfl, rfl⟩
      obtain ⟨d1, d2, c1, c2⟩ := HCC.out _ hos3.2.1
      have HN : Hid (∀ v W, OS (w.heap.size + 1) W0 W v (lkN b o s m ++ lk2 b o s m) → K1R b o s (w.heap.size + 1) W0 v (.int .i64 ((m : Int) + 1)) W) := fun v W hW => ⟨m + 1, by omega, by simp, by rw [hlk]; exact hW⟩
      generalize bitN b m = V at *
      clear hlk
      by_cases hv : V = 0
      · subst hv
        rw [if_pos rfl] at HL2
        rw [HL2.out] at HN
        go_wp2_with (at_builtin; refine wp_appRow rfl _ _ rfl (w.heap.size + 1) W0 _ _ (lkN b o s m) [K, Y] rfl (hos3.alloc _) rfl w3'.heap.size 0 (ss_lits w3' [K, Y] _ 2 rfl (by omega) rfl) ?c0 ?c1 ?_)
        case c0 => simp
        case c1 => rw [hlkl]; simp; omega
        intro v4 w4 hos4 _
        go_wp2
        go_roundw
        case rel => exact HN.out _ _ hos4
        case measure => simp [intOf]; omega
      · have hv1 : V = 1 := by omega
        subst hv1
        rw [if_neg hv] at HL2
        rw [HL2.out] at HN
        go_wp2_with (at_builtin; refine wp_appRow rfl _ _ rfl (w.heap.size + 1) W0 _ _ (lkN b o s m) [Y, K] rfl (hos3.alloc _) rfl w3'.heap.size 0 (ss_lits w3' [Y, K] _ 2 rfl (by omega) rfl) ?c0 ?c1 ?_)
        case c0 => simp
        case c1 => rw [hlkl]; simp; omega
        intro v4 w4 hos4 _
        go_wp2
        go_roundw
        case rel => exact HN.out _ _ hos4
        case measure => simp [intOf]; omega
    · have hme : m = 8 := by omega
      subst hme
      obtain ⟨gL, hsL⟩ := hos.ss (by rw [lkN_len]; omega)
      have hc := sTagHash_any 6 u8 16 gL 0 (lkN b o s 8) wr hsL
      have hcut : hashB 6 (lkN b o s 8) 16 = cut16 (pubT b o s) := (cut16_tag 6 _ HPK.out).symm
      rw [hcut] at hc
      obtain ⟨aL, cL, hvL⟩ := own_slice hos.1
      rw [lkN_len] at hvL
      subst hvL
      have hbel := hos.2.1
      generalize pubT b o s = P at *
      clear hos hsL hcut
      go_wp2_with fail
      refine hc.mono ?_
      rintro e w5 ⟨rfl, hb5⟩
      have b5 : Below (w.heap.size + 1) W0 w5 := hbel.trans (hb5.mono (by have := hbel.size; rw [HM.out.2.2] at this; exact this))
      have d0 := (HLA.out _ b5).1.c0
      have HST : Hid (K2R a d P (w.heap.size + 1) W0 (.string (cut16 P)) (.int .i64 (a : Int)) (.int .i64 0) w5) := ⟨0, by omega, rfl, rfl, by simp, b5⟩
      clear hb5 hbel hc b5
      go_wp2
      clear d0
      go_loopw [11, 12, 13] (fun h p i wr => K2R a d P (w.heap.size + 1) W0 h p i wr) (fun _ _ i _ => 4 - (intOf i).toNat)
      case atStart => exact HST.out
      case round =>
        obtain ⟨m, hm4, rfl, rfl, rfl, hbr⟩ := hrel
        clear HST
        have hws : w.heap.size + 1 ≤ wr.heap.size := by have := hbr.size; rw [HM.out.2.2] at this; exact this
        have d3 := (HLA.out _ hbr).1.c3
        by_cases hlt4 : m < 4
        · obtain ⟨_, _, x3, y3, hv3, _, hA3, hc3⟩ := HSS.out _ (HLA.out _ hbr).2
          have e3 := hA3 (by rw [HLN.out.2.2]; omega)
          rw [HLN.out.2.2] at hv3
          simp at hv3
          obtain ⟨rfl, rfl⟩ := hv3
          subst e3
          have c4 := hc3 m (by rw [HLN.out.2.2]; exact hlt4)
          have hxz := kwB_at HW.out.2.2 m (by rw [HLN.out.2.2]; exact hlt4)
          rw [gB_eq d m (by rw [HLN.out.2.2]; exact hlt4)] at c4 hxz
          have hfn : fT a d P (m + 1) = nodeT (a / 2 ^ m % 2) (cut16 (fT a d P m)) (gB d m) := rfl
          have hq : a / 2 ^ (m + 1) = a / 2 ^ m / 2 := by rw [Nat.pow_succ, Nat.div_div_eq_div_mul]
          have hhz := fT_cut a d P m
          have HN : Hid (∀ W, Below (w.heap.size + 1) W0 W → K2R a d P (w.heap.size + 1) W0 (.string (cut16 (nodeT (a / 2 ^ m % 2) (cut16 (fT a d P m)) (gB d m)))) (.int .i64 ((a / 2 ^ m / 2 : Nat) : Int)) (.int .i64 ((m : Int) + 1)) W) := fun W hW => ⟨m + 1, by omega, by simp, by rw [hfn], by rw [hq], hW⟩
          have hq15 : a / 2 ^ m ≤ 15 := Nat.le_trans (Nat.div_le_self _ _) ha
          clear hfn hq hA3 hc3
          generalize a / 2 ^ m = q at *
          generalize cut16 (fT a d P m) = H at *
          generalize gB d m = X at *
          have i1 : (m : Int) < 4 := by omega
          have i2 : (0 : Int) ≤ (m : Int) := by omega
          by_cases hp : q % 2 = 0
          · have hqi : ((q : Int) % 2 == 0) = true := by simp; omega
            have hn0 : nodeT (q % 2) H X = tagB 3 [H, X] := by unfold nodeT; rw [if_pos hp]
            rw [hn0, cut16_tag 3 _ (tagOk_two 3 H X (by omega) (by omega) (by omega))] at HN
            have hkt := sTagHash_lit 3 [H, X] 2 #[.string H, .string X] wr _ rfl rfl (by omega) rfl
            generalize hashB 3 [H, X] 16 = G at *
            clear hp hn0
            go_wp2_with fail
            refine hkt.out.mono ?_
            rintro e w8 ⟨rfl, hb8⟩
            have b8 : Below (w.heap.size + 1) W0 w8 := hbr.trans (hb8.mono hws)
            clear hb8 hkt
            go_wp2
            go_roundw
            case rel => exact HN.out _ b8
            case measure => simp [intOf]; omega
          · have hqi : ((q : Int) % 2 == 0) = false := by simp; omega
            have hn0 : nodeT (q % 2) H X = tagB 3 [X, H] := by unfold nodeT; rw [if_neg hp]
            rw [hn0, cut16_tag 3 _ (tagOk_two 3 X H (by omega) (by omega) (by omega))] at HN
            have hkt := sTagHash_lit 3 [X, H] 2 #[.string X, .string H] wr _ rfl rfl (by omega) rfl
            generalize hashB 3 [X, H] 16 = G at *
            clear hp hn0
            go_wp2_with fail
            refine hkt.out.mono ?_
            rintro e w8 ⟨rfl, hb8⟩
            have b8 : Below (w.heap.size + 1) W0 w8 := hbr.trans (hb8.mono hws)
            clear hb8 hkt
            go_wp2
            go_roundw
            case rel => exact HN.out _ b8
            case measure => simp [intOf]; omega
        · have hme : m = 4 := by omega
          subst hme
          rw [HZ.out]
          have hfin := (HLA.out _ hbr).2
          go_wp2
          go_ret
          exact ⟨rfl, hfin⟩

theorem sSigOk_no (r t : ByteArray) (a : Int) (vo vs vd : Value) (g1 o1 g2 o2 g3 o3 : Nat) (o s d : List ByteArray) (w : World) (ho : SS w vo g1 o1 o) (hs : SS w vs g2 o2 s) (hd : SS w vd g3 o3 d) (hz : t.size ≤ 1100000) (h : (formB a o s d && decide (t.size ≤ 200)) = false) :
    Calls Tryd.prog 62 #[.string r, .string t, .agg #[.int .i64 a, vo, vs, vd]] w fun e w' => e = .returned (.bool false) ∧ Below w.heap.size w w' := by
  have hB : Below w.heap.size w (w.alloc (.cells #[.int .i64 a, vo, vs, vd] 28)) := (Below.refl _ _).alloc (Nat.le_refl _) _
  have hc := l05Form_any a vo vs vd g1 o1 g2 o2 g3 o3 o s d _ (ho.below hB ho.lt) (hs.below hB hs.lt) (hd.below hB hd.lt)
  have HB : Hid (Below w.heap.size w (w.alloc (.cells #[.int .i64 a, vo, vs, vd] 28))) := hB
  have HC : Hid (Calls Tryd.prog 43 #[.agg #[.int .i64 a, vo, vs, vd]] (w.alloc (.cells #[.int .i64 a, vo, vs, vd] 28)) fun e w' => e = .returned (.bool (formB a o s d)) ∧ Below (w.alloc (.cells #[.int .i64 a, vo, vs, vd] 28)).heap.size (w.alloc (.cells #[.int .i64 a, vo, vs, vd] 28)) w') := hc
  obtain ⟨ao, co, rfl, _, x1⟩ := ho
  obtain ⟨as2, cs2, rfl, _, x2⟩ := hs
  obtain ⟨ad, cd, rfl, _, x3⟩ := hd
  generalize formB a o s d = F at *
  clear x1 x2 x3 hc hB
  cases F with
  | false =>
    clear h
    go_enter Tryd.func62, Tryd.ntmps62
    go_wp2_with fail
    refine HC.out.mono ?_
    rintro e w1 ⟨rfl, hb1⟩
    go_wp2
    go_ret
    exact ⟨rfl, HB.out.trans (hb1.mono HB.out.size)⟩
  | true =>
    have ht : 200 < t.size := by simpa using h
    clear h
    go_enter Tryd.func62, Tryd.ntmps62
    go_wp2_with fail
    refine HC.out.mono ?_
    rintro e w1 ⟨rfl, hb1⟩
    go_wp2
    go_ret
    exact ⟨rfl, HB.out.trans (hb1.mono HB.out.size)⟩

theorem sSigOk_any (r t : ByteArray) (a : Int) (vo vs vd : Value) (g1 o1 g2 o2 g3 o3 : Nat) (o s d : List ByteArray) (w : World) (ho : SS w vo g1 o1 o) (hs : SS w vs g2 o2 s) (hd : SS w vd g3 o3 d) (hz : t.size ≤ 1100000) :
    Calls Tryd.prog 62 #[.string r, .string t, .agg #[.int .i64 a, vo, vs, vd]] w fun e w' => e = .returned (.bool (okS r t a o s d)) ∧ Below w.heap.size w w' := by
  unfold okS
  cases h : (formB a o s d && decide (t.size ≤ 200)) with
  | false => exact sSigOk_no r t a vo vs vd g1 o1 g2 o2 g3 o3 o s d w ho hs hd hz h
  | true =>
    rw [Bool.and_eq_true, decide_eq_true_eq] at h
    obtain ⟨hA, _⟩ := formB_parts h.1
    obtain ⟨a, rfl⟩ := Int.eq_ofNat_of_zero_le hA.1
    rw [Bool.true_and]
    exact sSigOk_yes r t a vo vs vd g1 o1 g2 o2 g3 o3 o s d w ho hs hd h.1 h.2

end Go.Proofs.YtaejeemjndmjcaaDoor
