/-
  Texts laid together: Sgt, Sgs.
-/
import Derived.Test.YtkgibgadngeddabDoorPkEST21
import Derived.Test.YtkgibgadngeddabDoorPkEST22
/-
  What the program's SigTexts answers.
-/
namespace Go.Proofs.YtkgibgadngeddabDoor
open Go.RowKit Go.BigFrame
set_option linter.unusedVariables false

theorem TA.there {W : World} {p t n : Nat} {l : List ByteArray} (h : TA W p t l) (hn : l.length = n) : W.there p 0 n := by
  intro j hj
  rw [Nat.zero_add]
  exact ⟨by rw [h.cell j (by omega)]; rfl, h.frozen j⟩
/-- texts put over what was there, from a place on -/
def putL (l : List ByteArray) : Nat → List ByteArray → List ByteArray
  | _, [] => l
  | o, x :: r => putL (l.set o x) (o + 1) r
theorem putL_all : ∀ (r l : List ByteArray) (o : Nat), o + r.length = l.length → putL l o r = l.take o ++ r
  | [], l, o, h => by
    have : l.take o = l := List.take_of_length_le (by simp at h; omega)
    simp [putL, this]
  | x :: r, l, o, h => by
    have h1 : o < l.length := by simp at h; omega
    have ih := putL_all r (l.set o x) (o + 1) (by simp at h ⊢; omega)
    rw [putL, ih]
    have e : (l.set o x).take (o + 1) = l.take o ++ [x] := by
      have hl : o < (l.set o x).length := by rw [List.length_set]; exact h1
      rw [← List.take_append_getElem hl]
      simp [List.take_set_of_le]
    rw [e]
    simp
theorem TA.put {p t : Nat} : ∀ (r l : List ByteArray) (o : Nat) (W : World), TA W p t l → TA (W.setCells p o (svs r)) p t (putL l o r) ∧ W.grownBy (W.setCells p o (svs r)) (some p)
  | [], l, o, W, h => ⟨h, ⟨rfl, rfl, rfl, Nat.le_refl _, fun _ _ _ => rfl⟩⟩
  | x :: r, l, o, W, h => by
    have h1 := TA.put r (l.set o x) (o + 1) (W.setCell ⟨p, o, none⟩ (.string x)) (h.set o x)
    exact ⟨h1.1, (grown_set W p o (.string x)).trans h1.2⟩
theorem TA.new16 (W : World) : TA (W.alloc (.cells #[.string ⟨#[]⟩, .string ⟨#[]⟩, .string ⟨#[]⟩, .string ⟨#[]⟩, .string ⟨#[]⟩, .string ⟨#[]⟩, .string ⟨#[]⟩, .string ⟨#[]⟩, .string ⟨#[]⟩, .string ⟨#[]⟩, .string ⟨#[]⟩, .string ⟨#[]⟩, .string ⟨#[]⟩, .string ⟨#[]⟩, .string ⟨#[]⟩, .string ⟨#[]⟩] 42)) W.heap.size 42 (List.replicate 16 ByteArray.empty) := TA.new W (List.replicate 16 ByteArray.empty) 42
/-- what stands when the locks were stored -/
def E3 (B : Nat) (w1 : World) (q : Nat) (a : Int) (v1 v2 v3 v : Value) (o L : List ByteArray) (p : Nat) (W : World) : Prop :=
  TA W p 42 L ∧ OS B w1 W v (txN o 8) ∧ SgM W q a v1 v2 v3
theorem e3_end {B : Nat} {w1 W : World} {q : Nat} {a : Int} {v1 v2 v3 v : Value} {o L : List ByteArray} {p : Nat} (hta : TA W p 42 (List.replicate 16 ByteArray.empty)) (hos : OS B w1 W v (txN o 8)) (hsg : SgM W q a v1 v2 v3) (hp : B ≤ p) (hq : q ≠ p) (hL : L.length = 16) : E3 B w1 q a v1 v2 v3 v o L p (W.setCells p 0 (svs L)) := by
  obtain ⟨h1, h2⟩ := TA.put L (List.replicate 16 ByteArray.empty) 0 W hta
  rw [putL_all _ _ _ (by simp [hL])] at h1
  exact ⟨by simpa using h1, hos.kept h2 (fun k hk => by simp at hk; omega) (os_ne hos hta (by decide)), hsg.keptG h2 (by simpa using hq)⟩

/-- what each round up holds -/
def UpR (a : Nat) (o d : List ByteArray) (t : ByteArray) (B : Nat) (w1 : World) (v l p i : Value) (wr : World) : Prop :=
  ∃ m : Nat, m ≤ 4 ∧ i = .int .i64 m ∧ l = .string (fT a d t m) ∧ p = .int .i64 (a / 2 ^ m : Nat) ∧ OS B w1 wr v (txN o 8 ++ fN a d t (m + 1))

set_option maxRecDepth 100000 in
set_option maxHeartbeats 4000000 in
theorem SigTexts_yes (t : ByteArray) (a : Nat) (vo vs vd : Value) (g1 o1 g2 o2 g3 o3 : Nat) (o s d : List ByteArray) (w : World) (ho : SS w vo g1 o1 o) (hs : SS w vs g2 o2 s) (hd : SS w vd g3 o3 d) (hf : formB (a : Int) o s d = true) (ht : t.size ≤ 200) (hT : Tb w) :
    Calls Tryd.prog 7 #[.string t, .agg #[.int .i64 a, vo, vs, vd]] w fun e w' => ∃ v, e = .returned v ∧ OS w.heap.size w w' v (sgT (bitsB t) a o s d) := by
  obtain ⟨hA, ⟨wo, lo⟩, ⟨ws, ls⟩, wd, ld⟩ := formB_parts hf
  have hB : Below w.heap.size w (w.alloc (.cells #[.int .i64 a, vo, vs, vd] 27)) := (Below.refl _ _).alloc (Nat.le_refl _) _
  have hc := sigFormOk_any (a : Int) vo vs vd g1 o1 g2 o2 g3 o3 o s d _ (ho.below hB ho.lt) (hs.below hB hs.lt) (hd.below hB hd.lt)
  rw [hf] at hc
  have HSS : Hid (∀ W, Below w.heap.size w W → SS W vo g1 o1 o ∧ SS W vs g2 o2 s ∧ SS W vd g3 o3 d) := fun W hW => ⟨ho.below hW ho.lt, hs.below hW hs.lt, hd.below hW hd.lt⟩
  have HC : Hid (Calls Tryd.prog 21 #[.agg #[.int .i64 a, vo, vs, vd]] (w.alloc (.cells #[.int .i64 a, vo, vs, vd] 27)) fun e w' => e = .returned (.bool true) ∧ Below (w.alloc (.cells #[.int .i64 a, vo, vs, vd] 27)).heap.size (w.alloc (.cells #[.int .i64 a, vo, vs, vd] 27)) w') := hc
  have HB : Hid (Below w.heap.size w (w.alloc (.cells #[.int .i64 a, vo, vs, vd] 27)) ∧ SgM (w.alloc (.cells #[.int .i64 a, vo, vs, vd] 27)) w.heap.size a vo vs vd) := ⟨hB, SgM.new w _ _ _ _⟩
  have HLN : Hid (o.length = 8 ∧ s.length = 8 ∧ d.length = 4) := ⟨lo, ls, ld⟩
  have HT : Hid (Tb w) := hT
  obtain ⟨ao, co, rfl, _, x1⟩ := ho
  obtain ⟨as2, cs2, rfl, _, x2⟩ := hs
  obtain ⟨ad, cd, rfl, _, x3⟩ := hd
  rw [lo, ls, ld] at HSS HC HB ⊢
  have HW : Hid (kwB o = true ∧ kwB s = true ∧ kwB d = true) := ⟨wo, ws, wd⟩
  clear x1 x2 x3 hc hB hf wo ws wd lo ls ld hT
  have ha : a ≤ 15 := by omega
  clear hA
  go_enter Tryd.func7, Tryd.ntmps7
  go_wp2_with fail
  refine HC.out.mono ?_
  rintro e w1 ⟨rfl, hb1⟩
  have b1 := HB.out.1.trans (hb1.mono HB.out.1.size)
  have hS1 := HB.out.2.later hb1
  clear HC hb1
  go_wp2
  have c0 := hS1.c0
  have c1 := hS1.c1
  have c2 := hS1.c2
  have c3 := hS1.c3
  have hlt := hS1.lt
  have hbb := bitsB_lt t
  obtain ⟨b, hbe⟩ : ∃ b, bitsB t = b := ⟨_, rfl⟩
  rw [hbe] at hbb
  have HCS : Hid (∀ W, Below w1.heap.size w1 W → Calls Tryd.prog 23 #[.string t] W fun e w' => e = .returned (.int .i64 (b : Int)) ∧ Below W.heap.size W w' ∧ Below w1.heap.size w1 w') := fun W hW => by
    have := SignBitsOf_any t W (HT.out.later (b1.trans (hW.mono b1.size)))
    rw [hbe] at this
    exact this.mono fun e w' ⟨he, hb⟩ => ⟨he, hb, hW.trans (hb.mono hW.size)⟩
  have HCL : Hid (∀ W, Below w1.heap.size w1 W → Calls Tryd.prog 22 #[.int .u8 (b : Int), .agg #[.int .i64 a, .slice ao 8 co, .slice as2 8 cs2, .slice ad 4 cd]] W fun e w' => ∃ v, e = .returned (.tuple #[v, .agg (svs (lkN b o s 8)).toArray]) ∧ OS w1.heap.size w1 w' v (txN o 8) ∧ Below W.heap.size W w' ∧ Below w1.heap.size w1 w') := fun W hW => by
    have hww := b1.trans (hW.mono b1.size)
    have hss := HSS.out W hww
    exact (lockTexts_any b a _ _ _ g1 o1 g2 o2 o s W hbb hss.1 hss.2.1 HLN.out.1 HLN.out.2.1 HW.out.1 rfl (HT.out.later hww)).mono fun e w' ⟨v, he, hos⟩ => ⟨v, he, OS.up hW hW.size hos, hos.2.1, hW.trans (hos.2.1.mono hW.size)⟩
  have hlk := lkN_len b o s 8
  have hcb : IntKind.u8.wrap (b : Int) = (b : Int) := by
    have : IntKind.u8.wrap (b : Int) = (b : Int) % 256 := rfl
    omega
  have hone : ∀ v ∈ svs (lkN b o s 8), v.oneCell' = true := fun v hv => by simp [svs] at hv; obtain ⟨x, _, rfl⟩ := hv; rfl
  have hz16 : (Tryd.prog.info? 42).map (·.size) = some (svs (lkN b o s 8)).length := by
    have e : (svs (lkN b o s 8)).length = 16 := by simp [svs, hlk]
    rw [e]
    exact sizeA
  have hthere : ∀ W : World, (W.alloc (.cells #[.string ⟨#[]⟩, .string ⟨#[]⟩, .string ⟨#[]⟩, .string ⟨#[]⟩, .string ⟨#[]⟩, .string ⟨#[]⟩, .string ⟨#[]⟩, .string ⟨#[]⟩, .string ⟨#[]⟩, .string ⟨#[]⟩, .string ⟨#[]⟩, .string ⟨#[]⟩, .string ⟨#[]⟩, .string ⟨#[]⟩, .string ⟨#[]⟩, .string ⟨#[]⟩] 42)).there W.heap.size 0 (svs (lkN b o s 8)).length := fun W => (TA.new16 W).there (by simp [svs, hlk])
  have hsl : (svs (lkN b o s 8)).length = (lkN b o s 8).length := by simp [svs]
  have HS1 : Hid (SgM w1 w.heap.size a (.slice ao 8 co) (.slice as2 8 cs2) (.slice ad 4 cd)) := hS1
  have HB1 : Hid (Below w.heap.size w w1) := b1
  have HBE : Hid (bitsB t = b) := hbe
  clear hS1 hbe b1 HB hsl
  go_region_held3 (fun W => W.cell? ⟨w.heap.size, 0, none⟩ = some (.int .i64 a) ∧ W.cell? ⟨w.heap.size, 1, none⟩ = some (.slice ao 8 co) ∧ W.cell? ⟨w.heap.size, 2, none⟩ = some (.slice as2 8 cs2) ∧ W.cell? ⟨w.heap.size, 3, none⟩ = some (.slice ad 4 cd)) (first | go_keep | exact ⟨(HS1.out.later hb3).c0, (HS1.out.later hb3).c1, (HS1.out.later hb3).c2, (HS1.out.later hb3).c3⟩ | exact ⟨(HS1.out.later hb2).c0, (HS1.out.later hb2).c1, (HS1.out.later hb2).c2, (HS1.out.later hb2).c3⟩ | (have hE := e3_end hta3 hos (HS1.out.later hb3) (by have := hb2.size; omega) (by have := hb2.size; omega) hlk; exact ⟨hE.2.2.c0, hE.2.2.c1, hE.2.2.c2, hE.2.2.c3⟩) | (have hE := e3_end (TA.new16 w3) (hos.alloc _) ((HS1.out.later hb3).later ((Below.refl _ _).alloc (Nat.le_refl _) _)) hb3.size (by have := hb3.size; omega) hlk; exact ⟨hE.2.2.c0, hE.2.2.c1, hE.2.2.c2, hE.2.2.c3⟩)) ((first
    | (go_at_call 23; refine (HCS.out _ (by first | exact (Below.refl _ _).drew | exact ((Below.refl _ _).alloc (Nat.le_refl _) _).drew)).mono ?_; rintro e w2 ⟨rfl, hbx, hb2⟩; (try have hta2 : TA w2 w1.heap.size 42 (List.replicate 16 ByteArray.empty) := (TA.new16 w1).keep (hbx.block _ (by simp))))
    | (go_at_call 22; refine (HCL.out _ (by first | exact hb2 | exact hb2.alloc hb2.size _)).mono ?_; rintro e w3 ⟨vt, rfl, hos, hby, hb3⟩; (first | (have hta3 := hta2.keep (hby.block _ hta2.lt); have hth := hta3.there (n := (svs (lkN b o s 8)).length) (by simp [svs, hlk])) | (have hta3 : TA w3 w2.heap.size 42 (List.replicate 16 ByteArray.empty) := (TA.new16 w2).keep (hby.block _ (by simp)); have hth := hta3.there (n := (svs (lkN b o s 8)).length) (by simp [svs, hlk])) | skip))))
  all_goals first | (have hE := e3_end hta3 hos (HS1.out.later hb3) (by have := hb2.size; omega) (by have := hb2.size; omega) hlk) | (have hE := e3_end (TA.new16 w3) (hos.alloc _) ((HS1.out.later hb3).later ((Below.refl _ _).alloc (Nat.le_refl _) _)) hb3.size (by have := hb3.size; omega) hlk)
  all_goals
    clear c0 c1 c2 c3 hthere hone hz16 hos
    (try clear hth)
    (try clear hta3)
    (try clear hta2)
    go_wp2_with fail
    refine (keyText_any 6 _ _ _ (lkN b o s 8) _ (hE.1.ss 16 16 hlk (by omega))).mono ?_
    rintro e w5 ⟨rfl, hb5⟩
    have hos5 := hE.2.1.later hb5
    have hsg5 := hE.2.2.later hb5
    have hpt : tagB 6 (lkN b o s 8) = pubT b o s := rfl
    have hps : (pubT b o s).size ≤ 12601 := tagB_size _ _
    rw [hpt]
    have htl := txN_len o 8
    have HRT : Hid (sgT b a o s d = txN o 8 ++ fN a d (pubT b o s) 5) := rfl
    generalize pubT b o s = P at *
    have c0 := hsg5.c0
    have c3 := hsg5.c3
    have HF1 : Hid (fN a d P 1 = [P]) := rfl
    clear hE hb5 hpt hsg5
    go_wp2_with (at_builtin; refine wp_appS rfl _ _ rfl w1.heap.size w1 _ (txN o 8) rfl (hos5.alloc _) ⟨w5.heap.size, 0, none⟩ P rfl ?c1 ?c2 ?_)
    case c1 => exact one_text _ _ _
    case c2 => omega
    intro v6 w6 hos6
    rw [← HF1.out] at hos6
    have hsg6 := HS1.out.keep (hos6.2.1.block _ HS1.out.lt)
    have d0 := hsg6.c0
    have d3 := hsg6.c3
    have HST : Hid (UpR a o d P w1.heap.size w1 v6 (.string P) (.int .i64 (a : Int)) (.int .i64 0) w6) := ⟨0, by omega, rfl, rfl, by simp, hos6⟩
    clear hos5 hos6 hsg6 c0 c3 HF1
    go_wp2
    go_loopw [5, 7, 8, 40] (fun v l p i wr => UpR a o d P w1.heap.size w1 v l p i wr) (fun _ _ _ i _ => 4 - (intOf i).toNat)
    case atStart => exact HST.out
    case round =>
      obtain ⟨m, hm, rfl, rfl, rfl, hosr⟩ := hrel
      clear HST d0 d3
      by_cases hlt4 : m < 4
      · obtain ⟨_, _, x3, y3, hv3, _, hA3, hc3⟩ := HSS.out _ (HB1.out.trans (hosr.2.1.mono HB1.out.size))
        have e3 := hA3 (by rw [HLN.out.2.2]; omega)
        rw [HLN.out.2.2] at hv3
        simp at hv3
        obtain ⟨rfl, rfl⟩ := hv3
        subst e3
        have c4 := hc3 m (by rw [HLN.out.2.2]; exact hlt4)
        rw [gB_eq d m (by rw [HLN.out.2.2]; exact hlt4)] at c4
        have hT5 := HT.out.later (HB1.out.trans (hosr.2.1.mono HB1.out.size))
        have hfs := fT_size a d P hps m
        have hcd := CutDigest_any (fT a d P m) 16 wr (by omega) hT5.1 hT5.2
        have hfn : fT a d P (m + 1) = nodeT (a / 2 ^ m % 2) (cutH (fT a d P m) 16) (gB d m) := rfl
        have hst := fN_step a d P (m + 1)
        have hq : a / 2 ^ (m + 1) = a / 2 ^ m / 2 := by rw [Nat.pow_succ, Nat.div_div_eq_div_mul]
        have hfl := fN_len a d P (m + 1)
        have HN : Hid (∀ v W, OS w1.heap.size w1 W v ((txN o 8 ++ fN a d P (m + 1)) ++ [nodeT (a / 2 ^ m % 2) (cutH (fT a d P m) 16) (gB d m)]) → UpR a o d P w1.heap.size w1 v (.string (nodeT (a / 2 ^ m % 2) (cutH (fT a d P m) 16) (gB d m))) (.int .i64 ((a / 2 ^ m / 2 : Nat) : Int)) (.int .i64 ((m : Int) + 1)) W) := fun v W hW => by
          refine ⟨m + 1, by omega, by simp, by rw [hfn], by rw [hq], ?_⟩
          rw [hst, hfn, ← List.append_assoc]
          exact hW
        have hll : (txN o 8 ++ fN a d P (m + 1)).length ≤ 20 := by rw [List.length_append, htl, hfl]; omega
        have hq15 : a / 2 ^ m ≤ 15 := Nat.le_trans (Nat.div_le_self _ _) ha
        clear hfn hst hq hT5 hA3 hc3 hfl
        generalize txN o 8 ++ fN a d P (m + 1) = R at *
        generalize a / 2 ^ m = q at *
        generalize cutH (fT a d P m) 16 = H at *
        generalize fT a d P m = F at *
        generalize gB d m = X at *
        have i1 : (m : Int) < 4 := by omega
        have i2 : (0 : Int) ≤ (m : Int) := by omega
        go_wp2_with fail
        refine hcd.mono ?_
        rintro e w7 ⟨rfl, hb7⟩
        have hos7 := hosr.later hb7
        clear hcd hosr hb7 c4
        by_cases hp : q % 2 = 0
        · have hqi : ((q : Int) % 2 == 0) = true := by simp; omega
          have hn0 : nodeT (q % 2) H X = tagB 3 [H, X] := by unfold nodeT; rw [if_pos hp]
          rw [hn0] at HN
          have hkt := keyText_lit 3 [H, X] 2 #[.string H, .string X] w7 _ rfl rfl (by omega) rfl
          generalize tagB 3 [H, X] = Z at *
          clear hp hn0
          go_wp2_with fail
          refine hkt.out.mono ?_
          rintro e w8 ⟨rfl, hb8⟩
          have hos8 := hos7.later hb8
          clear hos7 hb8 hkt
          go_wp2_with (at_builtin; refine wp_appS rfl _ _ rfl w1.heap.size w1 _ R rfl (hos8.alloc _) ⟨w8.heap.size, 0, none⟩ Z rfl ?c1 ?c2 ?_)
          case c1 => exact one_text _ _ _
          case c2 => omega
          intro v9 w9 hos9
          go_wp2
          go_roundw
          case rel => exact HN.out _ _ hos9
          case measure => simp [intOf]; omega
        · have hqi : ((q : Int) % 2 == 0) = false := by simp; omega
          have hn0 : nodeT (q % 2) H X = tagB 3 [X, H] := by unfold nodeT; rw [if_neg hp]
          rw [hn0] at HN
          have hkt := keyText_lit 3 [X, H] 2 #[.string X, .string H] w7 _ rfl rfl (by omega) rfl
          generalize tagB 3 [X, H] = Z at *
          clear hp hn0
          go_wp2_with fail
          refine hkt.out.mono ?_
          rintro e w8 ⟨rfl, hb8⟩
          have hos8 := hos7.later hb8
          clear hos7 hb8 hkt
          go_wp2_with (at_builtin; refine wp_appS rfl _ _ rfl w1.heap.size w1 _ R rfl (hos8.alloc _) ⟨w8.heap.size, 0, none⟩ Z rfl ?c1 ?c2 ?_)
          case c1 => exact one_text _ _ _
          case c2 => omega
          intro v9 w9 hos9
          go_wp2
          go_roundw
          case rel => exact HN.out _ _ hos9
          case measure => simp [intOf]; omega
      · have hme : m = 4 := by omega
        subst hme
        have hfin := OS.up HB1.out HB1.out.size hosr
        go_wp2
        go_ret
        exact ⟨_, rfl, by rw [HBE.out, HRT.out]; exact hfin⟩

end Go.Proofs.YtkgibgadngeddabDoor
/-
  What the specification's SigTexts answers, and SigTexts where the form is not right.
-/
namespace Go.Proofs.YtkgibgadngeddabDoor
open Go.RowKit Go.BigFrame
set_option linter.unusedVariables false

/-- what the first loop holds: texts and locks -/
def S1R (b : Nat) (o s : List ByteArray) (B : Nat) (W0 : World) (u v i : Value) (wr : World) : Prop :=
  ∃ m : Nat, m ≤ 8 ∧ i = .int .i64 m ∧ TwR B W0 wr u v (txN o m) (lkN b o s m)
/-- what the second loop holds -/
def S2R (a : Nat) (o d : List ByteArray) (t : ByteArray) (B : Nat) (W0 : World) (v p i : Value) (wr : World) : Prop :=
  ∃ m : Nat, m ≤ 4 ∧ i = .int .i64 m ∧ p = .int .i64 (a / 2 ^ m : Nat) ∧ OS B W0 wr v (txN o 8 ++ fN a d t (m + 1))

theorem last_at (o : List ByteArray) (a : Nat) (d : List ByteArray) (t : ByteArray) (m : Nat) (h : 8 + m < (txN o 8 ++ fN a d t (m + 1)).length) : (txN o 8 ++ fN a d t (m + 1))[8 + m] = fT a d t m := by
  rw [List.getElem_append_right (by rw [txN_len]; omega)]
  simp [fN, txN_len]

set_option maxRecDepth 100000 in
set_option maxHeartbeats 4000000 in
theorem sSigTexts_yes (t : ByteArray) (a : Nat) (vo vs vd : Value) (g1 o1 g2 o2 g3 o3 : Nat) (o s d : List ByteArray) (w : World) (ho : SS w vo g1 o1 o) (hs : SS w vs g2 o2 s) (hd : SS w vd g3 o3 d) (hf : formB (a : Int) o s d = true) (ht : t.size ≤ 200) :
    Calls Tryd.prog 5 #[.string t, .agg #[.int .i64 a, vo, vs, vd]] w fun e w' => ∃ v, e = .returned v ∧ OS w.heap.size w w' v (sgT (bitsB t) a o s d) := by
  obtain ⟨hA, ⟨wo, lo⟩, ⟨ws, ls⟩, wd, ld⟩ := formB_parts hf
  have HSS : Hid (∀ W, Below w.heap.size w W → SS W vo g1 o1 o ∧ SS W vs g2 o2 s ∧ SS W vd g3 o3 d) := fun W hW => ⟨ho.below hW ho.lt, hs.below hW hs.lt, hd.below hW hd.lt⟩
  have HGL : Hid (g1 < w.heap.size ∧ g2 < w.heap.size ∧ g3 < w.heap.size) := ⟨ho.lt (by omega), hs.lt (by omega), hd.lt (by omega)⟩
  have hB : Below w.heap.size w (w.alloc (.cells #[.int .i64 a, vo, vs, vd] 27)) := (Below.refl _ _).alloc (Nat.le_refl _) _
  have hB1 : Below w.heap.size w ((w.alloc (.cells #[.int .i64 a, vo, vs, vd] 27)).alloc (.cells #[] 9)) := hB.alloc hB.size _
  have hc := l05Form_any (a : Int) vo vs vd g1 o1 g2 o2 g3 o3 o s d _ (ho.below hB1 ho.lt) (hs.below hB1 hs.lt) (hd.below hB1 hd.lt)
  rw [hf] at hc
  have HC : Hid (Calls Tryd.prog 14 #[.agg #[.int .i64 a, vo, vs, vd]] ((w.alloc (.cells #[.int .i64 a, vo, vs, vd] 27)).alloc (.cells #[] 9)) fun e w' => e = .returned (.bool true) ∧ Below ((w.alloc (.cells #[.int .i64 a, vo, vs, vd] 27)).alloc (.cells #[] 9)).heap.size ((w.alloc (.cells #[.int .i64 a, vo, vs, vd] 27)).alloc (.cells #[] 9)) w') := hc
  have z0 : (w.alloc (.cells #[.int .i64 a, vo, vs, vd] 27)).heap.size = w.heap.size + 1 := by simp
  have HM := OS.made (w.alloc (.cells #[.int .i64 a, vo, vs, vd] 27))
  rw [z0] at HM
  have HLN : Hid (o.length = 8 ∧ s.length = 8 ∧ d.length = 4) := ⟨lo, ls, ld⟩
  have HM : Hid (OS (w.heap.size + 1) (w.alloc (.cells #[.int .i64 a, vo, vs, vd] 27)) ((w.alloc (.cells #[.int .i64 a, vo, vs, vd] 27)).alloc (.cells #[] 9)) (.slice (some ⟨w.heap.size + 1, 0, none⟩) 0 0) [] ∧ Below w.heap.size w (w.alloc (.cells #[.int .i64 a, vo, vs, vd] 27)) ∧ SgM (w.alloc (.cells #[.int .i64 a, vo, vs, vd] 27)) w.heap.size a vo vs vd ∧ (w.alloc (.cells #[.int .i64 a, vo, vs, vd] 27)).heap.size = w.heap.size + 1) := ⟨HM, hB, SgM.new w _ _ _ _, z0⟩
  obtain ⟨ao, co, rfl, _, x1⟩ := ho
  obtain ⟨as2, cs2, rfl, _, x2⟩ := hs
  obtain ⟨ad, cd, rfl, _, x3⟩ := hd
  rw [lo, ls, ld] at HSS HC HM ⊢
  have HW : Hid (kwB o = true ∧ kwB s = true ∧ kwB d = true) := ⟨wo, ws, wd⟩
  clear x1 x2 x3 hc hB hB1 hf wo ws wd lo ls ld z0
  have ha : a ≤ 15 := by omega
  clear hA
  obtain ⟨b, hbe⟩ : ∃ b, bitsB t = b := ⟨_, rfl⟩
  have hbb := bitsB_lt t
  rw [hbe] at hbb
  have HBE : Hid (bitsB t = b) := hbe
  have HCS : Hid (∀ W, Calls Tryd.prog 15 #[.string t] W fun e w' => e = .returned (.int .i64 (b : Int)) ∧ Below W.heap.size W w') := fun W => by
    have := sSignBitsOf_any t W
    rw [hbe] at this
    exact this
  clear hbe
  go_enter Tryd.func5, Tryd.ntmps5
  go_wp2_with fail
  refine HC.out.mono ?_
  rintro e w1 ⟨rfl, hb1⟩
  have hos1 := HM.out.1.later hb1
  clear HC hb1
  go_wp2_with fail
  refine (HCS.out _).mono ?_
  rintro e w2 ⟨rfl, hb2⟩
  have hos2 := hos1.later hb2
  have HTW : Hid (TwR (w.heap.size + 1) (w.alloc (.cells #[.int .i64 a, .slice ao 8 co, .slice as2 8 cs2, .slice ad 4 cd] 27)) (w2.alloc (.cells #[] 9)) (.slice (some ⟨w.heap.size + 1, 0, none⟩) 0 0) (.slice (some ⟨w2.heap.size, 0, none⟩) 0 0) [] []) := by
    refine ⟨hos2.alloc _, OS.up hos2.2.1 hos2.2.2 (OS.made w2), fun g hg hv => ?_⟩
    have h1 := (hos2.1.lt g hg).2
    simp [Value.ownBlock] at hv
    omega
  have HST : Hid (S1R b o s (w.heap.size + 1) (w.alloc (.cells #[.int .i64 a, .slice ao 8 co, .slice as2 8 cs2, .slice ad 4 cd] 27)) (.slice (some ⟨w.heap.size + 1, 0, none⟩) 0 0) (.slice (some ⟨w2.heap.size, 0, none⟩) 0 0) (.int .i64 0) (w2.alloc (.cells #[] 9))) := ⟨0, by omega, rfl, HTW.out⟩
  obtain ⟨W0, hW0⟩ : ∃ W0, w.alloc (.cells #[.int .i64 a, .slice ao 8 co, .slice as2 8 cs2, .slice ad 4 cd] 27) = W0 := ⟨_, rfl⟩
  rw [hW0] at HST HM
  have HST : Hid (S1R b o s (w.heap.size + 1) W0 (.slice (some ⟨w.heap.size + 1, 0, none⟩) 0 0) (.slice (some ⟨w2.heap.size, 0, none⟩) 0 0) (.int .i64 0) (w2.alloc (.cells #[] 9))) := HST
  have HM0 : Hid (Below w.heap.size w W0 ∧ SgM W0 w.heap.size a (.slice ao 8 co) (.slice as2 8 cs2) (.slice ad 4 cd) ∧ W0.heap.size = w.heap.size + 1) := HM.out.2
  have HLA : Hid (∀ W, Below (w.heap.size + 1) W0 W → SgM W w.heap.size a (.slice ao 8 co) (.slice as2 8 cs2) (.slice ad 4 cd) ∧ Below w.heap.size w W) := fun W hW => ⟨HM0.out.2.1.keep (hW.block _ (by omega)), HM0.out.1.trans (hW.mono (by omega))⟩
  clear hos1 hos2 hb2 HCS HTW HM hW0
  go_wp2
  go_loopw [5, 7, 8] (fun u v i wr => S1R b o s (w.heap.size + 1) W0 u v i wr) (fun _ _ i _ => 8 - (intOf i).toNat)
  case atStart => exact HST.out
  case round =>
    obtain ⟨m, hm, rfl, htw⟩ := hrel
    clear HST
    have hbel := htw.1.2.1
    by_cases hlt : m < 8
    · obtain ⟨⟨x1, y1, hv1, _, hA1, hc1⟩, ⟨x2, y2, hv2, _, hA2, hc2⟩, _⟩ := HSS.out _ (HLA.out _ hbel).2
      have e1 := hA1 (by rw [HLN.out.1]; omega)
      have e2 := hA2 (by rw [HLN.out.2.1]; omega)
      rw [HLN.out.1] at hv1
      rw [HLN.out.2.1] at hv2
      simp at hv1 hv2
      obtain ⟨rfl, rfl⟩ := hv1
      obtain ⟨rfl, rfl⟩ := hv2
      subst e1
      subst e2
      have c1 := hc1 m (by rw [HLN.out.1]; exact hlt)
      rw [gB_eq o m (by rw [HLN.out.1]; exact hlt)] at c1
      have d1 := (HLA.out _ hbel).1.c1
      have htx := txN_step o m
      have htl := txN_len o m
      have hlk := lkN_step b o s m
      have hlkl := lkN_len b o s m
      have hKT := sTagText_lit 6 [gB o m] 1 #[.string (gB o m)] wr _ rfl rfl (by omega) rfl
      have hV := bitN_lt b m
      have i1 : (m : Int) < 8 := by omega
      have i2 : (0 : Int) ≤ (m : Int) := by omega
      have HK1 : Hid (tagB 6 [gB o m] = tx1 o m) := rfl
      rw [HK1.out] at hKT
      generalize tx1 o m = X at *
      have HCC : Hid (∀ W, Below (w.heap.size + 1) W0 W → W.cell? ⟨w.heap.size, 1, none⟩ = some (.slice (some ⟨g1, o1, none⟩) 8 co) ∧ W.cell? ⟨w.heap.size, 2, none⟩ = some (.slice (some ⟨g2, o2, none⟩) 8 cs2) ∧ W.cell? ⟨g1, o1 + m, none⟩ = some (.string (gB o m)) ∧ W.cell? ⟨g2, o2 + m, none⟩ = some (.string (gB s m))) := fun W hW => by
        obtain ⟨⟨_, _, _, _, _, k1⟩, ⟨_, _, _, _, _, k2⟩, _⟩ := HSS.out _ (HLA.out _ hW).2
        have j1 := k1 m (by rw [HLN.out.1]; exact hlt)
        have j2 := k2 m (by rw [HLN.out.2.1]; exact hlt)
        rw [gB_eq o m (by rw [HLN.out.1]; exact hlt)] at j1
        rw [gB_eq s m (by rw [HLN.out.2.1]; exact hlt)] at j2
        exact ⟨(HLA.out _ hW).1.c1, (HLA.out _ hW).1.c2, j1, j2⟩
      have HL2 : Hid (lk2 b o s m = if bitN b m = 0 then [lockB (gB o m), gB s m] else [gB s m, lockB (gB o m)]) := rfl
      generalize gB o m = O at *
      generalize gB s m = Y at *
      generalize tagOk 6 [O] = R at *
      clear hA1 hA2 hc1 hc2 HK1
      go_wp2_with fail
      refine hKT.out.mono ?_
      rintro e w3 ⟨rfl, hb3⟩
      have htw3 := htw.later hb3
      clear htw hb3 hKT c1 d1 hbel
      go_wp2_with (at_builtin; refine wp_tw rfl _ _ rfl (w.heap.size + 1) W0 _ _ (txN o m) (lkN b o s m) [X] rfl (htw3.alloc _) w3.heap.size 1 1 rfl rfl (by omega) (lit_at w3 [X] _ rfl) ?c2 ?_)
      case c2 => omega
      intro v4 w4 htw4
      rw [← htx] at htw4
      clear htw3 htx
      go_wp2_with fail
      refine (sBitOf_at b m _ _ hbb rfl (by omega)).mono ?_
      rintro e w4' ⟨rfl, rfl⟩
      have hbel4 := htw4.1.2.1
      obtain ⟨d1, d2, c1, c2⟩ := HCC.out _ hbel4
      generalize hVV : bitN b m = V at *
      have HN : Hid (∀ u v W, TwR (w.heap.size + 1) W0 W v u (lkN b o s m ++ lk2 b o s m) (txN o (m + 1)) → S1R b o s (w.heap.size + 1) W0 u v (.int .i64 ((m : Int) + 1)) W) := fun u v W hW => ⟨m + 1, by omega, by simp, by rw [hlk]; exact hW.swap⟩
      have hu7 : ∃ aa cc, u7 = .slice aa (2 * m) cc := by
        obtain ⟨aa, cc, he⟩ := own_slice htw4.2.1.1
        rw [hlkl] at he
        exact ⟨aa, cc, he⟩
      clear hlk
      by_cases hv : V = 0
      · subst hv
        rw [if_pos rfl] at HL2
        rw [HL2.out] at HN
        have HLK := sLockOf_any O
        go_wp2
        go_region_held3 (fun W => W.cell? ⟨w.heap.size, 1, none⟩ = some (.slice (some ⟨g1, o1, none⟩) 8 co) ∧ W.cell? ⟨w.heap.size, 2, none⟩ = some (.slice (some ⟨g2, o2, none⟩) 8 cs2) ∧ W.cell? ⟨g1, o1 + m, none⟩ = some (.string O) ∧ W.cell? ⟨g2, o2 + m, none⟩ = some (.string Y)) (first | go_keep | exact HCC.out _ htw6.1.2.1 | exact HCC.out _ hb5') ((first | (go_at_call 18; refine (HLK _).mono ?_; rintro e w5 ⟨rfl, hb5⟩; have hb5' : Below (w.heap.size + 1) W0 w5 := hbel4.drew.trans (hb5.mono (show w.heap.size + 1 ≤ w4'.heap.size from htw4.1.2.2))) | (refine step_tw rfl _ _ rfl (w.heap.size + 1) W0 _ _ (lkN b o s m) (txN o (m + 1)) [lockB O, Y] (by rfl) ((TwR.later (w := w4'.drew) htw4.swap.drew hb5).alloc _) w5.heap.size 2 2 (by rfl) rfl (by omega) (by exact lit_at w5 [lockB O, Y] _ rfl) (by omega) ?_; intro v6 w6 htw6)))
        go_wp2
        go_roundw
        case rel => exact HN.out _ _ _ htw6
        case measure => simp [intOf]; omega
      · have hv1 : V = 1 := by omega
        subst hv1
        rw [if_neg hv] at HL2
        rw [HL2.out] at HN
        have HLK := sLockOf_any O
        go_wp2
        go_region_held3 (fun W => W.cell? ⟨w.heap.size, 1, none⟩ = some (.slice (some ⟨g1, o1, none⟩) 8 co) ∧ W.cell? ⟨w.heap.size, 2, none⟩ = some (.slice (some ⟨g2, o2, none⟩) 8 cs2) ∧ W.cell? ⟨g1, o1 + m, none⟩ = some (.string O) ∧ W.cell? ⟨g2, o2 + m, none⟩ = some (.string Y)) (first | go_keep | exact HCC.out _ htw6.1.2.1 | exact HCC.out _ hb5') ((first | (go_at_call 18; refine (HLK _).mono ?_; rintro e w5 ⟨rfl, hb5⟩; have hb5' : Below (w.heap.size + 1) W0 w5 := hbel4.drew.trans (hb5.mono (show w.heap.size + 1 ≤ w4'.heap.size from htw4.1.2.2))) | (refine step_tw rfl _ _ rfl (w.heap.size + 1) W0 _ _ (lkN b o s m) (txN o (m + 1)) [Y, lockB O] (by rfl) ((TwR.later (w := w4'.drew) htw4.swap.drew hb5).alloc _) w5.heap.size 2 2 (by rfl) rfl (by omega) (by exact lit_at w5 [Y, lockB O] _ rfl) (by omega) ?_; intro v6 w6 htw6)))
        go_wp2
        go_roundw
        case rel => exact HN.out _ _ _ htw6
        case measure => simp [intOf]; omega
    · have hme : m = 8 := by omega
      subst hme
      obtain ⟨gL, hsL⟩ := htw.2.1.ss (by rw [lkN_len]; omega)
      have hc := sTagText_any 6 u7 gL 0 (lkN b o s 8) wr hsL
      obtain ⟨aL, cL, hvL⟩ := own_slice htw.2.1.1
      rw [lkN_len] at hvL
      subst hvL
      have hos := htw.1
      have hpt : tagB 6 (lkN b o s 8) = pubT b o s := rfl
      have HRT : Hid (sgT b a o s d = txN o 8 ++ fN a d (pubT b o s) 5) := rfl
      have hps : (pubT b o s).size ≤ 12601 := tagB_size _ _
      have htl := txN_len o 8
      rw [hpt] at hc
      generalize pubT b o s = P at *
      generalize tagOk 6 (lkN b o s 8) = R at *
      have HF1 : Hid (fN a d P 1 = [P]) := rfl
      clear htw hsL hbel hpt
      go_wp2_with fail
      refine hc.mono ?_
      rintro e w5 ⟨rfl, hb5⟩
      have hos5 := hos.later hb5
      clear hos hb5 hc
      go_wp2_with (at_builtin; refine wp_appS rfl _ _ rfl (w.heap.size + 1) W0 _ (txN o 8) rfl (hos5.alloc _) ⟨w5.heap.size, 0, none⟩ P rfl ?c1 ?c2 ?_)
      case c1 => exact one_text _ _ _
      case c2 => omega
      intro v6 w6 hos6
      rw [← HF1.out] at hos6
      have d0 := (HLA.out _ hos6.2.1).1.c0
      have HST : Hid (S2R a o d P (w.heap.size + 1) W0 v6 (.int .i64 (a : Int)) (.int .i64 0) w6) := ⟨0, by omega, rfl, by simp, hos6⟩
      clear hos5 hos6 HF1
      go_wp2
      clear d0
      go_loopw [5, 13, 14] (fun v p i wr => S2R a o d P (w.heap.size + 1) W0 v p i wr) (fun _ _ i _ => 4 - (intOf i).toNat)
      case atStart => exact HST.out
      case round =>
        obtain ⟨m, hm4, rfl, rfl, hosr⟩ := hrel
        clear HST
        have d3 := (HLA.out _ hosr.2.1).1.c3
        by_cases hlt4 : m < 4
        · obtain ⟨_, _, x3, y3, hv3, _, hA3, hc3⟩ := HSS.out _ (HLA.out _ hosr.2.1).2
          have e3 := hA3 (by rw [HLN.out.2.2]; omega)
          rw [HLN.out.2.2] at hv3
          simp at hv3
          obtain ⟨rfl, rfl⟩ := hv3
          subst e3
          have hfs := fT_size a d P hps m
          have hfn : fT a d P (m + 1) = nodeT (a / 2 ^ m % 2) (cutH (fT a d P m) 16) (gB d m) := rfl
          have hst := fN_step a d P (m + 1)
          have hq : a / 2 ^ (m + 1) = a / 2 ^ m / 2 := by rw [Nat.pow_succ, Nat.div_div_eq_div_mul]
          have hfl := fN_len a d P (m + 1)
          have hll : (txN o 8 ++ fN a d P (m + 1)).length = 9 + m := by rw [List.length_append, htl, hfl]; omega
          have hlast := last_at o a d P m (by omega)
          rcases hosr.shape with ⟨_, hnil⟩ | ⟨gr, cr, hvr, _, _⟩
          · have h0 := congrArg List.length hnil
            rw [hll] at h0
            exact absurd h0 (by rw [List.length_nil]; omega)
          · rw [hll] at hvr
            subst hvr
            have cl := hosr.at (8 + m) (by omega)
            rw [hlast] at cl
            have HN : Hid (∀ v W, OS (w.heap.size + 1) W0 W v ((txN o 8 ++ fN a d P (m + 1)) ++ [nodeT (a / 2 ^ m % 2) (cutH (fT a d P m) 16) (gB d m)]) → S2R a o d P (w.heap.size + 1) W0 v (.int .i64 ((a / 2 ^ m / 2 : Nat) : Int)) (.int .i64 ((m : Int) + 1)) W) := fun v W hW => by
              refine ⟨m + 1, by omega, by simp, by rw [hq], ?_⟩
              rw [hst, hfn, ← List.append_assoc]
              exact hW
            have HC4 : Hid (∀ W, Below (w.heap.size + 1) W0 W → W.cell? ⟨w.heap.size, 3, none⟩ = some (.slice (some ⟨g3, o3, none⟩) 4 cd) ∧ W.cell? ⟨g3, o3 + m, none⟩ = some (.string (gB d m))) := fun W hW => by
              obtain ⟨_, _, _, _, _, _, _, k3⟩ := HSS.out _ (HLA.out _ hW).2
              have j3 := k3 m (by rw [HLN.out.2.2]; exact hlt4)
              rw [gB_eq d m (by rw [HLN.out.2.2]; exact hlt4)] at j3
              exact ⟨(HLA.out _ hW).1.c3, j3⟩
            have hcd := sCutDigest_any (fT a d P m) 16 wr (by omega)
            have hq15 : a / 2 ^ m ≤ 15 := Nat.le_trans (Nat.div_le_self _ _) ha
            clear hfn hst hq hA3 hc3 hfl hlast
            generalize txN o 8 ++ fN a d P (m + 1) = R2 at *
            generalize a / 2 ^ m = q at *
            generalize cutH (fT a d P m) 16 = H at *
            generalize fT a d P m = F at *
            generalize gB d m = X at *
            have i1 : (m : Int) < 4 := by omega
            have i2 : (0 : Int) ≤ (m : Int) := by omega
            have i3 : ((9 + m : Nat) : Int) - 1 = ((8 + m : Nat) : Int) := by omega
            have i4 : (9 + (m : Int)) - 1 = 8 + (m : Int) := by omega
            have i5 : (0 : Int) ≤ 8 + (m : Int) := by omega
            have i6 : 8 + (m : Int) < 9 + (m : Int) := by omega
            have t1 : (8 + (m : Int)).toNat = 8 + m := by omega
            go_wp2_with fail
            refine hcd.mono ?_
            rintro e w7 ⟨rfl, hb7⟩
            have hos7 := hosr.later hb7
            obtain ⟨d3', c4⟩ := HC4.out _ hos7.2.1
            clear hcd hosr hb7 cl d3
            by_cases hp : q % 2 = 0
            · have hqi : ((q : Int) % 2 == 1) = false := by simp; omega
              have hn0 : nodeT (q % 2) H X = tagB 3 [H, X] := by unfold nodeT; rw [if_pos hp]
              rw [hn0] at HN
              have hkt := sTagText_lit 3 [H, X] 2 #[.string H, .string X] w7 _ rfl rfl (by omega) rfl
              generalize tagB 3 [H, X] = Z at *
              generalize tagOk 3 [H, X] = R3 at *
              clear hp hn0
              go_wp2_with fail
              refine hkt.out.mono ?_
              rintro e w8 ⟨rfl, hb8⟩
              have hos8 := hos7.later hb8
              clear hos7 hb8 hkt
              go_wp2_with (at_builtin; refine wp_appS rfl _ _ rfl (w.heap.size + 1) W0 _ R2 rfl ?c0 ⟨w8.heap.size, 0, none⟩ Z rfl ?c1 ?c2 ?_)
              case c0 => rw [hll] at *; exact hos8.alloc _
              case c1 => exact one_text _ _ _
              case c2 => omega
              intro v9 w9 hos9
              go_wp2
              go_roundw
              case rel => exact HN.out _ _ hos9
              case measure => simp [intOf]; omega
            · have hqi : ((q : Int) % 2 == 1) = true := by simp; omega
              have hn0 : nodeT (q % 2) H X = tagB 3 [X, H] := by unfold nodeT; rw [if_neg hp]
              rw [hn0] at HN
              have b8 : Below w7.heap.size w7 (w7.alloc (.cells #[.string H, .string X] 9)) := (Below.refl _ _).alloc (Nat.le_refl _) _
              have hkt := sTagText_lit 3 [X, H] 2 #[.string X, .string H] (w7.alloc (.cells #[.string H, .string X] 9)) (w7.heap.size + 1) (by simp) rfl (by omega) rfl
              have hos7b := hos7.later b8
              obtain ⟨d3b, c4b⟩ := HC4.out _ hos7b.2.1
              generalize tagB 3 [X, H] = Z at *
              generalize tagOk 3 [X, H] = R3 at *
              clear hp hn0 hos7 b8
              go_wp2_with fail
              refine hkt.out.mono ?_
              rintro e w8 ⟨rfl, hb8⟩
              have hos8 := hos7b.later hb8
              clear hos7b hb8 hkt
              go_wp2_with (at_builtin; refine wp_appS rfl _ _ rfl (w.heap.size + 1) W0 _ R2 rfl ?c0 ⟨w8.heap.size, 0, none⟩ Z rfl ?c1 ?c2 ?_)
              case c0 => rw [hll] at *; exact hos8.alloc _
              case c1 => exact one_text _ _ _
              case c2 => omega
              intro v9 w9 hos9
              go_wp2
              go_roundw
              case rel => exact HN.out _ _ hos9
              case measure => simp [intOf]; omega
        · have hme : m = 4 := by omega
          subst hme
          have hfin : OS w.heap.size w wr _ (txN o 8 ++ fN a d P (4 + 1)) := OS.up HM0.out.1 HM0.out.1.size (by rw [HM0.out.2.2]; exact hosr)
          go_wp2
          go_ret
          exact ⟨_, rfl, by rw [HBE.out, HRT.out]; exact hfin⟩

end Go.Proofs.YtkgibgadngeddabDoor
