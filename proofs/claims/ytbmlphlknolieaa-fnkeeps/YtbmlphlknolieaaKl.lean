/-
  The walk of the law FnKeeps: of a drawn right disk what is kept is never lost.
-/
import Derived.Test.YtbmlphlknolieaaKe
import Derived.Test.YtbmlphlknolieaaKf
import Derived.Test.YtbmlphlknolieaaKg
namespace Go.Proofs.Ytbmlphlknolieaa
open Go.RowKit Go.BigFrame Go.Sort
set_option linter.unusedVariables false
set_option linter.unusedSimpArgs false

/-- the drawn disk in its box, and what it lost in its own -/
def KpS (w W : World) (pd : Nat) (sd : Value) (gd : Nat) (L : List Fl) (pe : Nat) (se : Value) (ge : Nat) (M : List Fl) : Prop := Below w.heap.size w W ∧ XD W pd sd gd L ∧ XD W pe se ge M
theorem KpS.later {w W W' : World} {pd : Nat} {sd : Value} {gd : Nat} {L : List Fl} {pe : Nat} {se : Value} {ge : Nat} {M : List Fl} (h : KpS w W pd sd gd L pe se ge M) (hb : Below W.heap.size W W') : KpS w W' pd sd gd L pe se ge M :=
  ⟨h.1.trans (hb.mono h.1.size), h.2.1.later hb, h.2.2.later hb⟩
def KpR' (w : World) (pd : Nat) (sd : Value) (gd : Nat) (L : List Fl) (pe : Nat) (se : Value) (ge : Nat) (M : List Fl) (i : Value) (wr : World) : Prop := ∃ m : Nat, m ≤ L.length ∧ i = .int .i64 (m : Int) ∧ Hid (KpS w wr pd sd gd L pe se ge M)

set_option maxRecDepth 100000 in
set_option maxHeartbeats 4000000 in
theorem keepsLaw_any (ao : Option Addr) (len cap : Nat) (w : World) (hlen : len ≤ 1048576) (hc : Code w.heap.size w (.slice ao len cap)) :
    Calls Try.prog 3 #[.slice ao len cap] w fun e w' => e = .returned (.bool true) ∧ Below w.heap.size w w' := by
  have HC : Hid (Code w.heap.size w (.slice ao len cap)) := hc
  clear hc
  go_enter Try.func3, Try.ntmps3
  go_wp2_with fail
  refine (big_no ao len cap _ hlen).mono ?_
  rintro e w0 ⟨rfl, hw⟩
  rw [hw]
  clear hw
  go_wp2_with fail
  refine (DrawRightDisk_any _ _ HC.out).mono ?_
  rintro e w1 ⟨u, L, rfl, hu, hL6, hok, hb1⟩
  obtain ⟨a1, c1, g1, rfl, hr1, hg1, _⟩ := hu.open'
  have HOK : Hid (F.DOk L) := hok
  have hA1 : Below w1.heap.size w1 (w1.alloc (.cells #[.slice a1 L.length c1] 26)) := (Below.refl _ _).alloc (Nat.le_refl _) _
  have HX1 : Hid (Below w.heap.size w (w1.alloc (.cells #[.slice a1 L.length c1] 26)) ∧ XD (w1.alloc (.cells #[.slice a1 L.length c1] 26)) w1.heap.size (.slice a1 L.length c1) g1 L) := ⟨hb1.trans (hA1.mono hb1.size), XD.new hr1⟩
  have HC1 : Hid (Code (w1.alloc (.cells #[.slice a1 L.length c1] 26)).heap.size (w1.alloc (.cells #[.slice a1 L.length c1] 26)) (.slice ao len cap)) := code_later (code_later HC.out hb1) hA1
  clear hu hr1 hb1 hA1 HC hok
  obtain ⟨pd, hpd⟩ : ∃ pd, w1.heap.size = pd := ⟨_, rfl⟩
  go_wp2_with fail
  refine (DrawPlaces_any _ _ HC1.out).mono ?_
  rintro e w2 ⟨u, rfl, hpl, hb2⟩
  obtain ⟨gp, pc, xs, rfl, hxl, hxs, hg2, hg3, hcells⟩ := hpl
  have HX2 : Hid (Below w.heap.size w w2 ∧ XD w2 pd (.slice a1 L.length c1) g1 L) := ⟨HX1.out.1.trans (hb2.mono HX1.out.1.size), by rw [← hpd]; exact HX1.out.2.later hb2⟩
  have HLF := lefts_any gp pc xs w2 hxl hxs hg3 hcells
  clear HX1 HC1 hb2 hcells hxs hg2 hg3 hxl
  go_wp2_with fail
  refine HLF.mono ?_
  rintro e w3 ⟨ul, gq, Q, rfl, hq3, hb3⟩
  have HX3 : Hid (Below w.heap.size w w3 ∧ XD w3 pd (.slice a1 L.length c1) g1 L) := ⟨HX2.out.1.trans (hb3.mono HX2.out.1.size), HX2.out.2.later hb3⟩
  have HLD := LoseDisk_any (.slice a1 L.length c1) g1 0 L ul gq 0 Q w3 HX3.out.2.2.1 hq3
  rw [(F.lose_right HOK.out Q).1, (F.lose_right HOK.out Q).2] at HLD
  obtain ⟨M, hM⟩ : ∃ M, F.cutL L Q = M := ⟨_, rfl⟩
  have HML : Hid (M.length = L.length ∧ F.DOk M ∧ (∀ f ∈ M, f.k = f.t.size) ∧ ∀ j (h1 : j < M.length) (h2 : j < L.length), F.Bg L[j] M[j]) := by
    subst hM
    exact ⟨F.cutL_len L Q, (F.cutL_ok HOK.out Q).1, (F.cutL_ok HOK.out Q).2, fun j h1 h2 => F.cut_bg HOK.out Q j h1 h2⟩
  rw [hM] at HLD
  have c3 := HX3.out.2.1.cell
  obtain ⟨aq, cq, hsq⟩ := hq3.shape
  subst hsq
  clear HX2 hb3 HLF hq3 hM hpd
  go_wp2_with fail
  refine HLD.mono ?_
  rintro e w4 ⟨u, rfl, hu, hb4⟩
  obtain ⟨a4, c4, g4, rfl, hr4, hg4, _⟩ := hu.open'
  rw [HML.out.1] at hr4 ⊢
  have hA4 : Below w4.heap.size w4 (w4.alloc (.cells #[.slice a4 L.length c4] 26)) := (Below.refl _ _).alloc (Nat.le_refl _) _
  have HS4 : Hid (KpS w (w4.alloc (.cells #[.slice a4 L.length c4] 26)) pd (.slice a1 L.length c1) g1 L w4.heap.size (.slice a4 L.length c4) g4 M) := ⟨(HX3.out.1.trans (hb4.mono HX3.out.1.size)).trans (hA4.mono (HX3.out.1.trans (hb4.mono HX3.out.1.size)).size), (HX3.out.2.later hb4).later hA4, XD.new hr4⟩
  clear HLD hu hr4 hb4 hA4 HX3 c3 hg4 hg1
  obtain ⟨W4, hW4⟩ : ∃ W4, w4.alloc (.cells #[.slice a4 L.length c4] 26) = W4 := ⟨_, rfl⟩
  obtain ⟨pe, hpe⟩ : ∃ pe, w4.heap.size = pe := ⟨_, rfl⟩
  rw [hW4, hpe] at HS4
  have hbs : Below W4.heap.size W4 (W4.alloc (.cells #[] 3)) := (Below.refl _ _).alloc (Nat.le_refl _) _
  have HLD : Hid (∀ g : Nat, Calls Try.prog 16 #[.agg #[.slice a4 L.length c4], .slice (some ⟨g, 0, none⟩) 0 0] (W4.alloc (.cells #[] 3)) fun e w' => ∃ u, e = .returned (.tuple #[u, .bool true]) ∧ DkIn w' (W4.alloc (.cells #[] 3)).heap.size u M ∧ Below (W4.alloc (.cells #[] 3)).heap.size (W4.alloc (.cells #[] 3)) w') := fun g => by
    have h := LoseDisk_any (.slice a4 L.length c4) g4 0 M (.slice (some ⟨g, 0, none⟩) 0 0) g 0 [] (W4.alloc (.cells #[] 3)) (HS4.out.later hbs).2.2.2.1 ⟨some ⟨g, 0, none⟩, 0, rfl, by simp, fun h => absurd h (by simp), fun j h => absurd h (by simp)⟩
    rw [(F.lose_right HML.out.2.1 []).1, (F.lose_right HML.out.2.1 []).2, F.cutL_kept HML.out.2.2.1] at h
    exact h
  have HS5 : Hid (KpS w (W4.alloc (.cells #[] 3)) pd (.slice a1 L.length c1) g1 L pe (.slice a4 L.length c4) g4 M) := HS4.out.later hbs
  have c5 := HS4.out.2.2.1.cell
  have c5' := HS5.out.2.2.1.cell
  clear HS4 hbs
  go_wp2_with fail
  refine (HLD.out _).mono ?_
  rintro e w6 ⟨u, rfl, hu, hb6⟩
  obtain ⟨a6, c6, g6, rfl, hr6, hg6, _⟩ := hu.open'
  rw [HML.out.1] at hr6 ⊢
  have hA6 : Below w6.heap.size w6 (w6.alloc (.cells #[.slice a6 L.length c6] 26)) := (Below.refl _ _).alloc (Nat.le_refl _) _
  have HS6 : Hid (KpS w (w6.alloc (.cells #[.slice a6 L.length c6] 26)) pd (.slice a1 L.length c1) g1 L pe (.slice a4 L.length c4) g4 M ∧ XD (w6.alloc (.cells #[.slice a6 L.length c6] 26)) w6.heap.size (.slice a6 L.length c6) g6 M) := ⟨(HS5.out.later hb6).later hA6, XD.new hr6⟩
  clear HLD hu hr6 hb6 hA6 HS5 c5 c5' hg6 hW4 hpe
  obtain ⟨W6, hW6⟩ : ∃ W6, w6.alloc (.cells #[.slice a6 L.length c6] 26) = W6 := ⟨_, rfl⟩
  obtain ⟨pf, hpf⟩ : ∃ pf, w6.heap.size = pf := ⟨_, rfl⟩
  rw [hW6, hpf] at HS6
  have d1 := HS6.out.1.2.1.1.cell
  have d2 := HS6.out.1.2.2.1.cell
  have d3 := HS6.out.2.1.cell
  go_wp2_with fail
  have HSD := sameDisk_yes (.slice a4 L.length c4) (.slice a6 L.length c6) g4 0 g6 0 M _ HS6.out.1.2.2.2.1 HS6.out.2.2.1
  refine HSD.mono ?_
  rintro e w7 ⟨rfl, hb7⟩
  have hs7 := HS6.out.1.later hb7
  have HS7 : Hid (KpS w w7 pd (.slice a1 L.length c1) g1 L pe (.slice a4 L.length c4) g4 M) := hs7
  clear HS6 HSD hb7 hs7 d1 d2 d3 hW6 hpf
  have d2 := HS7.out.2.2.1.cell
  have HAK := AllKept_any (.slice a4 L.length c4) g4 0 M w7 HS7.out.2.2.2.1
  rw [F.keptB_iff.2 ⟨HML.out.2.1, HML.out.2.2.1⟩] at HAK
  go_wp2_with fail
  refine HAK.mono ?_
  rintro e w8 ⟨rfl, hb8⟩
  have HS8 : Hid (KpS w w8 pd (.slice a1 L.length c1) g1 L pe (.slice a4 L.length c4) g4 M) := HS7.out.later hb8
  clear HS7 HAK hb8 d2
  have d1 := HS8.out.2.1.1.cell
  have HDK := DiskOk_any (.slice a1 L.length c1) g1 0 L w8 HS8.out.2.1.2.1
  rw [F.diskB_iff.2 HOK.out] at HDK
  go_wp2_with fail
  refine HDK.mono ?_
  rintro e w9 ⟨rfl, hb9⟩
  have HS9 : Hid (KpS w w9 pd (.slice a1 L.length c1) g1 L pe (.slice a4 L.length c4) g4 M) := HS8.out.later hb9
  have HA1 : Hid (0 < L.length → a1 = some ⟨g1, 0, none⟩ ∧ a4 = some ⟨g4, 0, none⟩) := fun h => by
    obtain ⟨a', c', ev, _, h1, _⟩ := HS9.out.2.1.2.1
    obtain ⟨b', d', ew, _, h2, _⟩ := HS9.out.2.2.2.1
    simp at ev ew
    exact ⟨ev.1.trans (h1 h).1, ew.1.trans (h2 (by rw [HML.out.1]; exact h)).1⟩
  clear HS8 HDK hb9 d1
  go_wp2
  go_loopw [9, 10, 11] (fun i x y wr => KpR' w pd (.slice a1 L.length c1) g1 L pe (.slice a4 L.length c4) g4 M i wr) (fun i _ _ _ => L.length - (intOf i).toNat)
  case atStart => exact ⟨0, by omega, rfl, HS9⟩
  case round =>
    clear HS9
    obtain ⟨m, hm, rfl, HS⟩ := hrel
    have d1 := HS.out.2.1.1.cell
    have d2 := HS.out.2.2.1.cell
    by_cases hlt : m < L.length
    · obtain ⟨ea, eb⟩ := HA1.out (by omega)
      subst ea
      subst eb
      have hmM : m < M.length := by rw [HML.out.1]; exact hlt
      obtain ⟨c0, c1', c2⟩ := HS.out.2.1.2.1.file m hlt
      obtain ⟨e0, e1, e2⟩ := HS.out.2.2.2.1.file m hmM
      have hbg := HML.out.2.2.2 m hmM hlt
      obtain ⟨X, hX⟩ : ∃ X, L[m] = X := ⟨_, rfl⟩
      obtain ⟨Y, hY⟩ : ∃ Y, M[m] = Y := ⟨_, rfl⟩
      rw [hX] at c0 c1' c2 hbg
      rw [hY] at e0 e1 e2 hbg
      obtain ⟨xn, xt, xk⟩ := X
      obtain ⟨yn, yt, yk⟩ := Y
      obtain ⟨b0, b1, b2, b3, b4, b5, b6⟩ := hbg
      simp only [Nat.zero_add] at c0 c1' c2 e0 e1 e2 b0 b1 b2 b3 b4 b5 b6
      subst b0
      obtain ⟨k, hk⟩ := Int.eq_ofNat_of_zero_le b1
      subst hk
      simp only [Int.toNat_natCast] at b5 b6
      have i1 : (m : Int) < (L.length : Int) := by omega
      have i2 : (0 : Int) ≤ (m : Int) := by omega
      have hA : Below wr.heap.size wr (wr.alloc (.cells #[.string yn, .string xt, .int .i64 (k : Int)] 36)) := (Below.refl _ _).alloc (Nat.le_refl _) _
      have HSA := HS.out.later hA
      have hg4l : g4 < wr.heap.size := lt_of_cell e0
      have f0 := (hA.cell (p := ⟨g4, m * 3, none⟩) hg4l).trans e0
      have f1 := (hA.cell (p := ⟨g4, m * 3 + 1, none⟩) hg4l).trans e1
      have f2 := (hA.cell (p := ⟨g4, m * 3 + 2, none⟩) hg4l).trans e2
      have d2' := HSA.2.2.1.cell
      have hA2 : Below (wr.alloc (.cells #[.string yn, .string xt, .int .i64 (k : Int)] 36)).heap.size (wr.alloc (.cells #[.string yn, .string xt, .int .i64 (k : Int)] 36)) ((wr.alloc (.cells #[.string yn, .string xt, .int .i64 (k : Int)] 36)).alloc (.cells #[.string yn, .string yt, .int .i64 yk] 36)) := (Below.refl _ _).alloc (Nat.le_refl _) _
      have HSB : Hid (KpS w ((wr.alloc (.cells #[.string yn, .string xt, .int .i64 (k : Int)] 36)).alloc (.cells #[.string yn, .string yt, .int .i64 yk] 36)) pd (.slice (some ⟨g1, 0, none⟩) L.length c1) g1 L pe (.slice (some ⟨g4, 0, none⟩) L.length c4) g4 M) := HSA.later hA2
      clear hX hY HA1 hA hA2 HSA HS
      have h1 : ((wr.alloc (.cells #[.string yn, .string xt, .int .i64 (k : Int)] 36)).alloc (.cells #[.string yn, .string yt, .int .i64 yk] 36)).heap[wr.heap.size]? = some (.cells #[.string yn, .string xt, .int .i64 (k : Int)] 36 (0, 0)) := alloc_snd _ _ _ rfl
      have h2 : ((wr.alloc (.cells #[.string yn, .string xt, .int .i64 (k : Int)] 36)).alloc (.cells #[.string yn, .string yt, .int .i64 yk] 36)).heap[wr.heap.size + 1]? = some (.cells #[.string yn, .string yt, .int .i64 yk] 36 (0, 0)) := alloc_fst _ _ (by simp)
      have hs2 : (xt.extract 0 k).size = k := by rw [ByteArray.size_extract]; omega
      have bg1 : ∀ W : World, Calls Try.prog 20 #[.string yt, .string xt] W fun e w' => e = .returned (.bool true) ∧ Below W.heap.size W w' := fun W => (begins_yes yt xt W b3 b4).mono fun e w' ⟨he, hw⟩ => ⟨he, by rw [hw]; exact Below.refl _ _⟩
      have bg2 : ∀ W : World, Calls Try.prog 20 #[.string (xt.extract 0 k), .string yt] W fun e w' => e = .returned (.bool true) ∧ Below W.heap.size W w' := fun W => (begins_yes (xt.extract 0 k) yt W (by omega) (by rw [hs2]; exact b6)).mono fun e w' ⟨he, hw⟩ => ⟨he, by rw [hw]; exact Below.refl _ _⟩
      have hcut : ∀ w : World, (Instr.slice 9 (.string xt) none (some (.int .i64 (k : Int))) none).run Try.prog w = .ok (.string (xt.extract 0 k)) w := fun w => by
        rw [run_slice_string_to_if (P := Try.prog) (w := w) 9 xt .i64 _ Try.underlying9, if_pos (by omega)]
        simp
      clear hs2 b1 b2 b3 b4 b5 b6
      generalize xt.extract 0 k = z at bg2 hcut
      go_wp2
      obtain ⟨W, hW⟩ : ∃ W, (wr.alloc (.cells #[.string yn, .string xt, .int .i64 (k : Int)] 36)).alloc (.cells #[.string yn, .string yt, .int .i64 yk] 36) = W := ⟨_, rfl⟩
      rw [hW] at h1 h2 HSB ⊢
      have r0 : W.cell? ⟨wr.heap.size, 0, none⟩ = some (.string yn) := by rw [cell_of_row _ _ 0 _ _ _ h1]; rfl
      have r1 : W.cell? ⟨wr.heap.size, 1, none⟩ = some (.string xt) := by rw [cell_of_row _ _ 1 _ _ _ h1]; rfl
      have r2 : W.cell? ⟨wr.heap.size, 2, none⟩ = some (.int .i64 (k : Int)) := by rw [cell_of_row _ _ 2 _ _ _ h1]; rfl
      have r3 : W.cell? ⟨wr.heap.size + 1, 0, none⟩ = some (.string yn) := by rw [cell_of_row _ _ 0 _ _ _ h2]; rfl
      have r4 : W.cell? ⟨wr.heap.size + 1, 1, none⟩ = some (.string yt) := by rw [cell_of_row _ _ 1 _ _ _ h2]; rfl
      clear h1 h2 hW c0 c1' c2 e0 e1 e2 f0 f1 f2 d1 d2 d2'
      obtain ⟨px, hpx⟩ : ∃ px, wr.heap.size = px := ⟨_, rfl⟩
      rw [hpx] at r0 r1 r2 r3 r4 ⊢
      clear hpx
      have kq0 := cell_regrown (w := W) r0
      have kq1 := cell_regrown (w := W) r1
      have kq2 := cell_regrown (w := W) r2
      have kq3 := cell_regrown (w := W) r3
      have kq4 := cell_regrown (w := W) r4
      have cq0 := fun d os => Calls.regrown_of (w := W) (d := d) (os := os) (bg1 _)
      have cq1 := fun d os => Calls.regrown_of (w := W) (d := d) (os := os) (bg2 _)
      refine wp_region_quiet_below (by kernel_rfl) (by kernel_rfl) ?_
      repeat (go_big_quiet_step (first | with_reducible exact cq0 _ _ | with_reducible exact cq1 _ _))
      refine wpQuiet_nil ?_
      rintro _ ⟨⟨dq, osq⟩, rfl⟩
      have hb6 := below_regrown (W) dq osq
      generalize grow (redrawn (W) dq) osq = w6 at *
      clear kq0 kq1 kq2 kq3 kq4 cq0 cq1
      have HF : Hid (KpS w w6 pd (.slice (some ⟨g1, 0, none⟩) L.length c1) g1 L pe (.slice (some ⟨g4, 0, none⟩) L.length c4) g4 M) := HSB.out.later hb6
      clear HSB r0 r1 r2 r3 r4 bg1 bg2 hcut
      go_wp2
      go_roundw
      case rel => exact ⟨m + 1, by omega, by go_num, HF⟩
      case measure => simp [intOf]; omega
    · have hi : ¬ (m : Int) < (L.length : Int) := by omega
      have hb9 := HS.out.1
      clear HS HA1
      go_wp2
      go_ret
      exact ⟨rfl, hb9⟩

end Go.Proofs.Ytbmlphlknolieaa
