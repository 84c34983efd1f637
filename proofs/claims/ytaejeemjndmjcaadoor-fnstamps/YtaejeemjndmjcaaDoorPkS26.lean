/-
  Texts laid together: Sgt.
-/
import Derived.Test.YtaejeemjndmjcaaDoorPkS24
import Derived.Test.YtaejeemjndmjcaaDoorPkS25
/-
  What the program's SigTexts answers.
-/
namespace Go.Proofs.YtaejeemjndmjcaaDoor
open Go.RowKit Go.BigFrame
set_option linter.unusedVariables false

theorem TA.there {W : World} {p t n : Nat} {l : List ByteArray} (h : TA W p t l) (hn : l.length = n) : W.there p 0 n := by
  intro j hj
  rw [Nat.zero_add]
  exact ⟨by rw [h.cell j (by omega)]; rfl, h.frozen j⟩
/-- texts put over what was there, from a place on -/
def putL (l : List ByteArray) : Nat → List ByteArray → List ByteArray
  | _, [] => l
  | o, x :: r => putL (l.set o x) (o + 1) r
theorem putL_all : ∀ (r l : List ByteArray) (o : Nat), o + r.length = l.length → putL l o r = l.take o ++ r
  | [], l, o, h => by
    have : l.take o = l := List.take_of_length_le (by simp at h; omega)
    simp [putL, this]
  | x :: r, l, o, h => by
    have h1 : o < l.length := by simp at h; omega
    have ih := putL_all r (l.set o x) (o + 1) (by simp at h ⊢; omega)
    rw [putL, ih]
    have e : (l.set o x).take (o + 1) = l.take o ++ [x] := by
      have hl : o < (l.set o x).length := by rw [List.length_set]; exact h1
      rw [← List.take_append_getElem hl]
      simp [List.take_set_of_le]
    rw [e]
    simp
theorem TA.put {p t : Nat} : ∀ (r l : List ByteArray) (o : Nat) (W : World), TA W p t l → TA (W.setCells p o (svs r)) p t (putL l o r) ∧ W.grownBy (W.setCells p o (svs r)) (some p)
  | [], l, o, W, h => ⟨h, ⟨rfl, rfl, rfl, Nat.le_refl _, fun _ _ _ => rfl⟩⟩
  | x :: r, l, o, W, h => by
    have h1 := TA.put r (l.set o x) (o + 1) (W.setCell ⟨p, o, none⟩ (.string x)) (h.set o x)
    exact ⟨h1.1, (grown_set W p o (.string x)).trans h1.2⟩
theorem TA.new16 (W : World) : TA (W.alloc (.cells #[.string ⟨#[]⟩, .string ⟨#[]⟩, .string ⟨#[]⟩, .string ⟨#[]⟩, .string ⟨#[]⟩, .string ⟨#[]⟩, .string ⟨#[]⟩, .string ⟨#[]⟩, .string ⟨#[]⟩, .string ⟨#[]⟩, .string ⟨#[]⟩, .string ⟨#[]⟩, .string ⟨#[]⟩, .string ⟨#[]⟩, .string ⟨#[]⟩, .string ⟨#[]⟩] 105)) W.heap.size 105 (List.replicate 16 ByteArray.empty) := TA.new W (List.replicate 16 ByteArray.empty) 105
/-- what stands when the locks were stored -/
def E3 (B : Nat) (w1 : World) (q : Nat) (a : Int) (v1 v2 v3 v : Value) (o L : List ByteArray) (p : Nat) (W : World) : Prop :=
  TA W p 105 L ∧ OS B w1 W v (txN o 8) ∧ SgM W q a v1 v2 v3
theorem e3_end {B : Nat} {w1 W : World} {q : Nat} {a : Int} {v1 v2 v3 v : Value} {o L : List ByteArray} {p : Nat} (hta : TA W p 105 (List.replicate 16 ByteArray.empty)) (hos : OS B w1 W v (txN o 8)) (hsg : SgM W q a v1 v2 v3) (hp : B ≤ p) (hq : q ≠ p) (hL : L.length = 16) : E3 B w1 q a v1 v2 v3 v o L p (W.setCells p 0 (svs L)) := by
  obtain ⟨h1, h2⟩ := TA.put L (List.replicate 16 ByteArray.empty) 0 W hta
  rw [putL_all _ _ _ (by simp [hL])] at h1
  exact ⟨by simpa using h1, hos.kept h2 (fun k hk => by simp at hk; omega) (os_ne hos hta (by decide)), hsg.keptG h2 (by simpa using hq)⟩

/-- what each round up holds -/
def UpR (a : Nat) (o d : List ByteArray) (t : ByteArray) (B : Nat) (w1 : World) (v l p i : Value) (wr : World) : Prop :=
  ∃ m : Nat, m ≤ 4 ∧ i = .int .i64 m ∧ l = .string (fT a d t m) ∧ p = .int .i64 (a / 2 ^ m : Nat) ∧ OS B w1 wr v (txN o 8 ++ fN a d t (m + 1))

set_option maxRecDepth 100000 in
set_option maxHeartbeats 4000000 in
theorem SigTexts_yes (t : ByteArray) (a : Nat) (vo vs vd : Value) (g1 o1 g2 o2 g3 o3 : Nat) (o s d : List ByteArray) (w : World) (ho : SS w vo g1 o1 o) (hs : SS w vs g2 o2 s) (hd : SS w vd g3 o3 d) (hf : formB (a : Int) o s d = true) (ht : t.size ≤ 200) (hT : Tb w) :
    Calls Tryd.prog 96 #[.string t, .agg #[.int .i64 a, vo, vs, vd]] w fun e w' => ∃ v, e = .returned v ∧ OS w.heap.size w w' v (sgT (bitsB t) a o s d) := by
  obtain ⟨hA, ⟨wo, lo⟩, ⟨ws, ls⟩, wd, ld⟩ := formB_parts hf
  have hB : Below w.heap.size w (w.alloc (.cells #[.int .i64 a, vo, vs, vd] 28)) := (Below.refl _ _).alloc (Nat.le_refl _) _
  have hc := sigFormOk_any (a : Int) vo vs vd g1 o1 g2 o2 g3 o3 o s d _ (ho.below hB ho.lt) (hs.below hB hs.lt) (hd.below hB hd.lt)
  rw [hf] at hc
  have HSS : Hid (∀ W, Below w.heap.size w W → SS W vo g1 o1 o ∧ SS W vs g2 o2 s ∧ SS W vd g3 o3 d) := fun W hW => ⟨ho.below hW ho.lt, hs.below hW hs.lt, hd.below hW hd.lt⟩
  have HC : Hid (Calls Tryd.prog 65 #[.agg #[.int .i64 a, vo, vs, vd]] (w.alloc (.cells #[.int .i64 a, vo, vs, vd] 28)) fun e w' => e = .returned (.bool true) ∧ Below (w.alloc (.cells #[.int .i64 a, vo, vs, vd] 28)).heap.size (w.alloc (.cells #[.int .i64 a, vo, vs, vd] 28)) w') := hc
  have HB : Hid (Below w.heap.size w (w.alloc (.cells #[.int .i64 a, vo, vs, vd] 28)) ∧ SgM (w.alloc (.cells #[.int .i64 a, vo, vs, vd] 28)) w.heap.size a vo vs vd) := ⟨hB, SgM.new w _ _ _ _⟩
  have HLN : Hid (o.length = 8 ∧ s.length = 8 ∧ d.length = 4) := ⟨lo, ls, ld⟩
  have HT : Hid (Tb w) := hT
  obtain ⟨ao, co, rfl, _, x1⟩ := ho
  obtain ⟨as2, cs2, rfl, _, x2⟩ := hs
  obtain ⟨ad, cd, rfl, _, x3⟩ := hd
  rw [lo, ls, ld] at HSS HC HB ⊢
  have HW : Hid (kwB o = true ∧ kwB s = true ∧ kwB d = true) := ⟨wo, ws, wd⟩
  clear x1 x2 x3 hc hB hf wo ws wd lo ls ld hT
  have ha : a ≤ 15 := by omega
  clear hA
  go_enter Tryd.func96, Tryd.ntmps96
  go_wp2_with fail
  refine HC.out.mono ?_
  rintro e w1 ⟨rfl, hb1⟩
  have b1 := HB.out.1.trans (hb1.mono HB.out.1.size)
  have hS1 := HB.out.2.later hb1
  clear HC hb1
  go_wp2
  have c0 := hS1.c0
  have c1 := hS1.c1
  have c2 := hS1.c2
  have c3 := hS1.c3
  have hlt := hS1.lt
  have hbb := bitsB_lt t
  obtain ⟨b, hbe⟩ : ∃ b, bitsB t = b := ⟨_, rfl⟩
  rw [hbe] at hbb
  have HCS : Hid (∀ W, Below w1.heap.size w1 W → Calls Tryd.prog 85 #[.string t] W fun e w' => e = .returned (.int .i64 (b : Int)) ∧ Below W.heap.size W w' ∧ Below w1.heap.size w1 w') := fun W hW => by
    have := SignBitsOf_any t W (HT.out.later (b1.trans (hW.mono b1.size)))
    rw [hbe] at this
    exact this.mono fun e w' ⟨he, hb⟩ => ⟨he, hb, hW.trans (hb.mono hW.size)⟩
  have HCL : Hid (∀ W, Below w1.heap.size w1 W → Calls Tryd.prog 106 #[.int .u8 (b : Int), .agg #[.int .i64 a, .slice ao 8 co, .slice as2 8 cs2, .slice ad 4 cd]] W fun e w' => ∃ v, e = .returned (.tuple #[v, .agg (svs (lkN b o s 8)).toArray]) ∧ OS w1.heap.size w1 w' v (txN o 8) ∧ Below W.heap.size W w' ∧ Below w1.heap.size w1 w') := fun W hW => by
    have hww := b1.trans (hW.mono b1.size)
    have hss := HSS.out W hww
    exact (lockTexts_any b a _ _ _ g1 o1 g2 o2 o s W hbb hss.1 hss.2.1 HLN.out.1 HLN.out.2.1 HW.out.1 rfl (HT.out.later hww)).mono fun e w' ⟨v, he, hos⟩ => ⟨v, he, OS.up hW hW.size hos, hos.2.1, hW.trans (hos.2.1.mono hW.size)⟩
  have hlk := lkN_len b o s 8
  have hcb : IntKind.u8.wrap (b : Int) = (b : Int) := by
    have : IntKind.u8.wrap (b : Int) = (b : Int) % 256 := rfl
    omega
  have hone : ∀ v ∈ svs (lkN b o s 8), v.oneCell' = true := fun v hv => by simp [svs] at hv; obtain ⟨x, _, rfl⟩ := hv; rfl
  have hz16 : (Tryd.prog.info? 105).map (·.size) = some (svs (lkN b o s 8)).length := by
    have e : (svs (lkN b o s 8)).length = 16 := by simp [svs, hlk]
    rw [e]
    exact sizeA
  have hthere : ∀ W : World, (W.alloc (.cells #[.string ⟨#[]⟩, .string ⟨#[]⟩, .string ⟨#[]⟩, .string ⟨#[]⟩, .string ⟨#[]⟩, .string ⟨#[]⟩, .string ⟨#[]⟩, .string ⟨#[]⟩, .string ⟨#[]⟩, .string ⟨#[]⟩, .string ⟨#[]⟩, .string ⟨#[]⟩, .string ⟨#[]⟩, .string ⟨#[]⟩, .string ⟨#[]⟩, .string ⟨#[]⟩] 105)).there W.heap.size 0 (svs (lkN b o s 8)).length := fun W => (TA.new16 W).there (by simp [svs, hlk])
  have hsl : (svs (lkN b o s 8)).length = (lkN b o s 8).length := by simp [svs]
  have HS1 : Hid (SgM w1 w.heap.size a (.slice ao 8 co) (.slice as2 8 cs2) (.slice ad 4 cd)) := hS1
  have HB1 : Hid (Below w.heap.size w w1) := b1
  have HBE : Hid (bitsB t = b) := hbe
  clear hS1 hbe b1 HB hsl
  go_region_held3 (fun W => W.cell? ⟨w.heap.size, 0, none⟩ = some (.int .i64 a) ∧ W.cell? ⟨w.heap.size, 1, none⟩ = some (.slice ao 8 co) ∧ W.cell? ⟨w.heap.size, 2, none⟩ = some (.slice as2 8 cs2) ∧ W.cell? ⟨w.heap.size, 3, none⟩ = some (.slice ad 4 cd)) (first | go_keep | exact ⟨(HS1.out.later hb3).c0, (HS1.out.later hb3).c1, (HS1.out.later hb3).c2, (HS1.out.later hb3).c3⟩ | exact ⟨(HS1.out.later hb2).c0, (HS1.out.later hb2).c1, (HS1.out.later hb2).c2, (HS1.out.later hb2).c3⟩ | (have hE := e3_end hta3 hos (HS1.out.later hb3) (by have := hb2.size; omega) (by have := hb2.size; omega) hlk; exact ⟨hE.2.2.c0, hE.2.2.c1, hE.2.2.c2, hE.2.2.c3⟩) | (have hE := e3_end (TA.new16 w3) (hos.alloc _) ((HS1.out.later hb3).later ((Below.refl _ _).alloc (Nat.le_refl _) _)) hb3.size (by have := hb3.size; omega) hlk; exact ⟨hE.2.2.c0, hE.2.2.c1, hE.2.2.c2, hE.2.2.c3⟩)) ((first
    | (go_at_call 85; refine (HCS.out _ (by first | exact (Below.refl _ _).drew | exact ((Below.refl _ _).alloc (Nat.le_refl _) _).drew)).mono ?_; rintro e w2 ⟨rfl, hbx, hb2⟩; (try have hta2 : TA w2 w1.heap.size 105 (List.replicate 16 ByteArray.empty) := (TA.new16 w1).keep (hbx.block _ (by simp))))
    | (go_at_call 106; refine (HCL.out _ (by first | exact hb2 | exact hb2.alloc hb2.size _)).mono ?_; rintro e w3 ⟨vt, rfl, hos, hby, hb3⟩; (first | (have hta3 := hta2.keep (hby.block _ hta2.lt); have hth := hta3.there (n := (svs (lkN b o s 8)).length) (by simp [svs, hlk])) | (have hta3 : TA w3 w2.heap.size 105 (List.replicate 16 ByteArray.empty) := (TA.new16 w2).keep (hby.block _ (by simp)); have hth := hta3.there (n := (svs (lkN b o s 8)).length) (by simp [svs, hlk])) | skip))))
  all_goals first | (have hE := e3_end hta3 hos (HS1.out.later hb3) (by have := hb2.size; omega) (by have := hb2.size; omega) hlk) | (have hE := e3_end (TA.new16 w3) (hos.alloc _) ((HS1.out.later hb3).later ((Below.refl _ _).alloc (Nat.le_refl _) _)) hb3.size (by have := hb3.size; omega) hlk)
  all_goals
    clear c0 c1 c2 c3 hthere hone hz16 hos
    (try clear hth)
    (try clear hta3)
    (try clear hta2)
    go_wp2_with fail
    refine (keyText_any 6 _ _ _ (lkN b o s 8) _ (hE.1.ss 16 16 hlk (by omega))).mono ?_
    rintro e w5 ⟨rfl, hb5⟩
    have hos5 := hE.2.1.later hb5
    have hsg5 := hE.2.2.later hb5
    have hpt : tagB 6 (lkN b o s 8) = pubT b o s := rfl
    have hps : (pubT b o s).size ≤ 12601 := tagB_size _ _
    rw [hpt]
    have htl := txN_len o 8
    have HRT : Hid (sgT b a o s d = txN o 8 ++ fN a d (pubT b o s) 5) := rfl
    generalize pubT b o s = P at *
    have c0 := hsg5.c0
    have c3 := hsg5.c3
    have HF1 : Hid (fN a d P 1 = [P]) := rfl
    clear hE hb5 hpt hsg5
    go_wp2_with (at_builtin; refine wp_appS rfl _ _ rfl w1.heap.size w1 _ (txN o 8) rfl (hos5.alloc _) ⟨w5.heap.size, 0, none⟩ P rfl ?c1 ?c2 ?_)
    case c1 => exact one_text _ _ _
    case c2 => omega
    intro v6 w6 hos6
    rw [← HF1.out] at hos6
    have hsg6 := HS1.out.keep (hos6.2.1.block _ HS1.out.lt)
    have d0 := hsg6.c0
    have d3 := hsg6.c3
    have HST : Hid (UpR a o d P w1.heap.size w1 v6 (.string P) (.int .i64 (a : Int)) (.int .i64 0) w6) := ⟨0, by omega, rfl, rfl, by simp, hos6⟩
    clear hos5 hos6 hsg6 c0 c3 HF1
    go_wp2
    go_loopw [5, 7, 8, 40] (fun v l p i wr => UpR a o d P w1.heap.size w1 v l p i wr) (fun _ _ _ i _ => 4 - (intOf i).toNat)
    case atStart => exact HST.out
    case round =>
      obtain ⟨m, hm, rfl, rfl, rfl, hosr⟩ := hrel
      clear HST d0 d3
      by_cases hlt4 : m < 4
      · obtain ⟨_, _, x3, y3, hv3, _, hA3, hc3⟩ := HSS.out _ (HB1.out.trans (hosr.2.1.mono HB1.out.size))
        have e3 := hA3 (by rw [HLN.out.2.2]; omega)
        rw [HLN.out.2.2] at hv3
        simp at hv3
        obtain ⟨rfl, rfl⟩ := hv3
        subst e3
        have c4 := hc3 m (by rw [HLN.out.2.2]; exact hlt4)
        rw [gB_eq d m (by rw [HLN.out.2.2]; exact hlt4)] at c4
        have hT5 := HT.out.later (HB1.out.trans (hosr.2.1.mono HB1.out.size))
        have hfs := fT_size a d P hps m
        have hcd := CutDigest_any (fT a d P m) 16 wr (by omega) hT5.1 hT5.2
        have hfn : fT a d P (m + 1) = nodeT (a / 2 ^ m % 2) (cutH (fT a d P m) 16) (gB d m) := rfl
        have hst := fN_step a d P (m + 1)
        have hq : a / 2 ^ (m + 1) = a / 2 ^ m / 2 := by rw [Nat.pow_succ, Nat.div_div_eq_div_mul]
        have hfl := fN_len a d P (m + 1)
        have HN : Hid (∀ v W, OS w1.heap.size w1 W v ((txN o 8 ++ fN a d P (m + 1)) ++ [nodeT (a / 2 ^ m % 2) (cutH (fT a d P m) 16) (gB d m)]) → UpR a o d P w1.heap.size w1 v (.string (nodeT (a / 2 ^ m % 2) (cutH (fT a d P m) 16) (gB d m))) (.int .i64 ((a / 2 ^ m / 2 : Nat) : Int)) (.int .i64 ((m : Int) + 1)) W) := fun v W hW => by
          refine ⟨m + 1, by omega, by simp, by rw [hfn], by rw [hq], ?_⟩
          rw [hst, hfn, ← List.append_assoc]
          exact hW
        have hll : (txN o 8 ++ fN a d P (m + 1)).length ≤ 20 := by rw [List.length_append, htl, hfl]; omega
        have hq15 : a / 2 ^ m ≤ 15 := Nat.le_trans (Nat.div_le_self _ _) ha
        clear hfn hst hq hT5 hA3 hc3 hfl
        generalize txN o 8 ++ fN a d P (m + 1) = R at *
        generalize a / 2 ^ m = q at *
        generalize cutH (fT a d P m) 16 = H at *
        generalize fT a d P m = F at *
        generalize gB d m = X at *
        have i1 : (m : Int) < 4 := by omega
        have i2 : (0 : Int) ≤ (m : Int) := by omega
        go_wp2_with fail
        refine hcd.mono ?_
        rintro e w7 ⟨rfl, hb7⟩
        have hos7 := hosr.later hb7
        clear hcd hosr hb7 c4
        by_cases hp : q % 2 = 0
        · have hqi : ((q : Int) % 2 == 0) = true := by simp; omega
          have hn0 : nodeT (q % 2) H X = tagB 3 [H, X] := by unfold nodeT; rw [if_pos hp]
          rw [hn0] at HN
          have hkt := keyText_lit 3 [H, X] 2 #[.string H, .string X] w7 _ rfl rfl (by omega) rfl
          generalize tagB 3 [H, X] = Z at *
          clear hp hn0
          go_wp2_with fail
          refine hkt.out.mono ?_
          rintro e w8 ⟨rfl, hb8⟩
          have hos8 := hos7.later hb8
          clear hos7 hb8 hkt
          go_wp2_with (at_builtin; refine wp_appS rfl _ _ rfl w1.heap.size w1 _ R rfl (hos8.alloc _) ⟨w8.heap.size, 0, none⟩ Z rfl ?c1 ?c2 ?_)
          case c1 => exact one_text _ _ _
          case c2 => omega
          intro v9 w9 hos9
          go_wp2
          go_roundw
          case rel => exact HN.out _ _ hos9
          case measure => simp [intOf]; omega
        · have hqi : ((q : Int) % 2 == 0) = false := by simp; omega
          have hn0 : nodeT (q % 2) H X = tagB 3 [X, H] := by unfold nodeT; rw [if_neg hp]
          rw [hn0] at HN
          have hkt := keyText_lit 3 [X, H] 2 #[.string X, .string H] w7 _ rfl rfl (by omega) rfl
          generalize tagB 3 [X, H] = Z at *
          clear hp hn0
          go_wp2_with fail
          refine hkt.out.mono ?_
          rintro e w8 ⟨rfl, hb8⟩
          have hos8 := hos7.later hb8
          clear hos7 hb8 hkt
          go_wp2_with (at_builtin; refine wp_appS rfl _ _ rfl w1.heap.size w1 _ R rfl (hos8.alloc _) ⟨w8.heap.size, 0, none⟩ Z rfl ?c1 ?c2 ?_)
          case c1 => exact one_text _ _ _
          case c2 => omega
          intro v9 w9 hos9
          go_wp2
          go_roundw
          case rel => exact HN.out _ _ hos9
          case measure => simp [intOf]; omega
      · have hme : m = 4 := by omega
        subst hme
        have hfin := OS.up HB1.out HB1.out.size hosr
        go_wp2
        go_ret
        exact ⟨_, rfl, by rw [HBE.out, HRT.out]; exact hfin⟩

end Go.Proofs.YtaejeemjndmjcaaDoor
