/-
  Texts laid together: Sge.
-/
import Derived.Test.YtaejeemjndmjcaaDoorPkS32
import Derived.Test.YtaejeemjndmjcaaDoorPkS33
/-
  What SignText answers where it doesn't sign, the program's and the specification's.
-/
namespace Go.Proofs.YtaejeemjndmjcaaDoor
open Go.RowKit Go.BigFrame
set_option linter.unusedVariables false
set_option linter.unusedSimpArgs false

theorem zSig_new (w : World) : Below w.heap.size w (w.alloc (.cells zSig 28)) ∧ SgM (w.alloc (.cells zSig 28)) w.heap.size 0 (.slice none 0 0) (.slice none 0 0) (.slice none 0 0) := ⟨(Below.refl _ _).alloc (Nat.le_refl _) _, SgM.new w 0 _ _ _⟩

set_option maxRecDepth 100000 in
set_option maxHeartbeats 1000000 in
theorem SignText_len (s t : ByteArray) (x : Option Addr) (n cap : Nat) (a : Int) (w : World) (h : n ≠ 16) (hn : n ≤ 1100000) :
    Calls Tryd.prog 51 #[.string s, .slice x n cap, .int .i64 a, .string t] w fun e w' => e = .returned (.tuple #[.agg zSig, .bool false]) ∧ Below w.heap.size w w' := by
  have hc := poolFrom_no x n cap (w.alloc (.cells zSig 28)) h hn
  have H0 : Hid _ := zSig_new w
  clear h
  go_enter Tryd.func51, Tryd.ntmps51
  go_wp2_with fail
  refine hc.mono ?_
  rintro e w1 ⟨rfl, hb1⟩
  have b1 := H0.out.1.trans (hb1.mono H0.out.1.size)
  have hA : Below w1.heap.size w1 (w1.alloc (.cells (svs (List.replicate 16 ByteArray.empty)).toArray 106)) := (Below.refl _ _).alloc (Nat.le_refl _) _
  have H1 : Hid (SgM (w1.alloc (.cells (svs (List.replicate 16 ByteArray.empty)).toArray 106)) w.heap.size 0 (.slice none 0 0) (.slice none 0 0) (.slice none 0 0) ∧ Below w.heap.size w (w1.alloc (.cells (svs (List.replicate 16 ByteArray.empty)).toArray 106))) := ⟨(H0.out.2.later hb1).later hA, b1.trans (hA.mono b1.size)⟩
  clear hc hb1 b1 hA H0
  go_wp2_with (first | (refine wp_allocT rfl 106 16 rfl zeroP ?_) | (refine wp_storeNewT rfl 106 16 _ _ rfl w1 _ (List.replicate 16 ByteArray.empty) rfl (zT_size 16) (by simp) rfl rfl sizePT ?_) | (refine wp_storeSig rfl _ _ rfl w.heap.size 0 0 _ _ _ (.slice none 0 0) (.slice none 0 0) (.slice none 0 0) H1.out.1 rfl rfl rfl rfl rfl ?_; intro hfin))
  refine ret_sig2 8 9 w.heap.size 0 _ _ _ _ rfl rfl rfl rfl hfin ?_
  exact ⟨rfl, below_setRow H1.out.2 (Nat.le_refl _)⟩

set_option maxRecDepth 100000 in
set_option maxHeartbeats 1000000 in
theorem SignText_off (s t : ByteArray) (v : Value) (ga oa : Nat) (a : Int) (l : List ByteArray) (w : World) (hv : SS w v ga oa l) (hl : l.length = 16) (ha : decide (0 ≤ a ∧ a ≤ 15) = false ∨ (decide (0 ≤ a ∧ a ≤ 15) = true ∧ 200 < t.size)) (ht : t.size ≤ 1100000) :
    Calls Tryd.prog 51 #[.string s, v, .int .i64 a, .string t] w fun e w' => e = .returned (.tuple #[.agg zSig, .bool false]) ∧ Below w.heap.size w w' := by
  have H0 : Hid _ := zSig_new w
  have hc := poolFrom_yes v ga oa l (w.alloc (.cells zSig 28)) (hv.below H0.out.1 hv.lt) hl
  have HL : Hid (l.length = 16) := hl
  obtain ⟨x, cap, rfl, _, hA, hcc⟩ := hv
  rw [hl] at hc ⊢
  clear hA hcc hl
  have HA : Hid _ := ha
  clear ha
  go_enter Tryd.func51, Tryd.ntmps51
  go_wp2_with fail
  refine hc.mono ?_
  rintro e w1 ⟨rfl, hb1⟩
  have b1 := H0.out.1.trans (hb1.mono H0.out.1.size)
  have hA : Below w1.heap.size w1 (w1.alloc (.cells (svs l).toArray 106)) := (Below.refl _ _).alloc (Nat.le_refl _) _
  have H1 : Hid (SgM (w1.alloc (.cells (svs l).toArray 106)) w.heap.size 0 (.slice none 0 0) (.slice none 0 0) (.slice none 0 0) ∧ Below w.heap.size w (w1.alloc (.cells (svs l).toArray 106))) := ⟨(H0.out.2.later hb1).later hA, b1.trans (hA.mono b1.size)⟩
  clear hc hb1 b1 hA H0
  go_wp2_with (first | (refine wp_allocT rfl 106 16 rfl zeroP ?_) | (refine wp_storeNewT rfl 106 16 _ _ rfl w1 _ l rfl (zT_size 16) HL.out rfl rfl sizePT ?_) | fail)
  refine (inPool_any a _).mono ?_
  rintro e w2 ⟨rfl, rfl⟩
  rcases HA.out with hd | ⟨hd, hlong⟩
  · rw [hd]
    go_wp2_with (refine wp_storeSig rfl _ _ rfl w.heap.size 0 0 _ _ _ (.slice none 0 0) (.slice none 0 0) (.slice none 0 0) H1.out.1 rfl rfl rfl rfl rfl ?_; intro hfin)
    refine ret_sig2 8 9 w.heap.size 0 _ _ _ _ rfl rfl rfl rfl hfin ?_
    exact ⟨rfl, below_setRow H1.out.2 (Nat.le_refl _)⟩
  · rw [hd]
    have i1 : (200 : Int) < (t.size : Int) := by omega
    go_wp2_with (refine wp_storeSig rfl _ _ rfl w.heap.size 0 0 _ _ _ (.slice none 0 0) (.slice none 0 0) (.slice none 0 0) H1.out.1 rfl rfl rfl rfl rfl ?_; intro hfin)
    refine ret_sig2 8 9 w.heap.size 0 _ _ _ _ rfl rfl rfl rfl hfin ?_
    exact ⟨rfl, below_setRow H1.out.2 (Nat.le_refl _)⟩

set_option maxRecDepth 100000 in
set_option maxHeartbeats 2000000 in
theorem SignText_key (s t : ByteArray) (v : Value) (ga oa a : Nat) (l : List ByteArray) (w : World) (hv : SS w v ga oa l) (hl : l.length = 16) (ha : a ≤ 15) (hs : s.size ≤ 100) (ht : t.size ≤ 200) (hk : gB l a ≠ pubB s a) (hT : Tb w) :
    Calls Tryd.prog 51 #[.string s, v, .int .i64 a, .string t] w fun e w' => e = .returned (.tuple #[.agg zSig, .bool false]) ∧ Below w.heap.size w w' := by
  have H0 : Hid _ := zSig_new w
  have hc := poolFrom_yes v ga oa l (w.alloc (.cells zSig 28)) (hv.below H0.out.1 hv.lt) hl
  have HL : Hid (l.length = 16) := hl
  have HT : Hid (Tb w) := hT
  have HK : Hid (gB l a ≠ pubB s a) := hk
  obtain ⟨x, cap, rfl, _, hA, hcc⟩ := hv
  rw [hl] at hc ⊢
  have hd : decide ((0 : Int) ≤ (a : Int) ∧ (a : Int) ≤ 15) = true := by simp; omega
  clear hA hcc hl hT hk
  go_enter Tryd.func51, Tryd.ntmps51
  go_wp2_with fail
  refine hc.mono ?_
  rintro e w1 ⟨rfl, hb1⟩
  have b1 := H0.out.1.trans (hb1.mono H0.out.1.size)
  have hS1 := H0.out.2.later hb1
  have H1 : Hid (Below w.heap.size w (w1.alloc (.cells (svs l).toArray 106)) ∧ SgM (w1.alloc (.cells (svs l).toArray 106)) w.heap.size 0 (.slice none 0 0) (.slice none 0 0) (.slice none 0 0) ∧ TA (w1.alloc (.cells (svs l).toArray 106)) w1.heap.size 106 l) :=
    ⟨b1.alloc b1.size _, hS1.later ((Below.refl _ _).alloc (Nat.le_refl _) _), TA.new w1 l _⟩
  clear hc hb1 b1 hS1 H0
  go_wp2_with (first | (refine wp_allocT rfl 106 16 rfl zeroP ?_) | (refine wp_storeNewT rfl 106 16 _ _ rfl w1 _ l rfl (zT_size 16) HL.out rfl rfl sizePT ?_) | fail)
  refine (inPool_any (a : Int) _).mono ?_
  rintro e w2 ⟨rfl, rfl⟩
  rw [hd]
  generalize w1.alloc (.cells (svs l).toArray 106) = w2 at *
  generalize w1.heap.size = g at *
  go_upto_region 4 with fail
  have HC : Hid (∀ W, Below w2.heap.size w2 W → Calls Tryd.prog 84 #[.string s, .int .i64 (a : Int)] W fun e w' => e = .returned (.string (pubB s a)) ∧ Below w2.heap.size w2 w') := fun W hW =>
    (PublicOf_yes s a W hs ha (HT.out.later (H1.out.1.trans (hW.mono H1.out.1.size)))).mono fun e w' ⟨he, hb⟩ => ⟨he, hW.trans (hb.mono hW.size)⟩
  have HCW : Hid (∀ W, Below w2.heap.size w2 W → Calls Tryd.prog 83 #[.agg (svs l).toArray, .int .i64 (a : Int), .string (pubB s a)] W fun e w' => e = .returned (.agg (svs (l.set a (pubB s a))).toArray) ∧ Below w2.heap.size w2 w') := fun W hW =>
    (with_any l a (pubB s a) W HL.out (by omega)).mono fun e w' ⟨he, hb⟩ => ⟨he, hW.trans (hb.mono hW.size)⟩
  have heq : ∀ W, (Op.equalIn 10000 106 (.agg (svs l).toArray) (.agg (svs (l.set a (pubB s a))).toArray)).run Tryd.prog W = .ok false W := fun W => by
    have := eqT l (l.set a (pubB s a)) HL.out (by rw [List.length_set]; exact HL.out) W
    rw [set_same l a (pubB s a) (by rw [HL.out]; omega), decide_eq_false HK.out] at this
    exact this
  have HP : Hid (∀ W, Below w2.heap.size w2 W → W.rangeAt g 0 (svs l)) := fun W hW => (H1.out.2.2.later hW).range
  have hu := Tryd.underlying106
  have hi : (Tryd.prog.info? 106).map (·.size) = some (svs l).length := by
    have e : (svs l).length = 16 := by simp [svs, HL.out]
    rw [e]
    exact sizePT
  go_cut [41] from 34 to 41 (fun c wx => c = .bool true ∧ Below w2.heap.size w2 wx)
  case first =>
    generalize svs (l.set a (pubB s a)) = M at *
    generalize pubB s a = K at *
    refine wp_region_held_drew (S := fun W => W.rangeAt g 0 (svs l)) (by kernel_rfl) (HP.out _ (Below.refl _ _).drew) (fun hH => ?_)
    refine wpAnyH_take (i := 0) (v := .agg (svs l).toArray) rfl (by kernel_rfl) (by kernel_rfl) (by kernel_rfl) (fun _ _ _ h => h) (yieldsIf_load_mid (by rfl) _ _ rfl g 0 rfl (svs l) _ (fun w h => h) hu rfl hi) hH ?_
    simp only [Act.put, List.setIfInBounds_toArray, List.set_cons_zero, List.set_cons_succ]
    refine wpAnyH_take (i := 1) (v := .agg (svs l).toArray) rfl (by kernel_rfl) (by kernel_rfl) (by kernel_rfl) (fun _ _ _ h => h) (yieldsIf_load_mid (by rfl) _ _ rfl g 0 rfl (svs l) _ (fun w h => h) hu rfl hi) hH ?_
    simp only [Act.put, List.setIfInBounds_toArray, List.set_cons_zero, List.set_cons_succ]
    refine wpAnyH_take (i := 2) (v := .int .i64 (a : Int)) rfl (by kernel_rfl) (by kernel_rfl) (by kernel_rfl) (fun _ _ _ h => h) (Or.inl ⟨by rfl, fun w hw => by go_simp⟩) hH ?_
    simp only [Act.put, List.setIfInBounds_toArray, List.set_cons_zero, List.set_cons_succ]
    refine wpAnyH_take (i := 3) (v := .string s) rfl (by kernel_rfl) (by kernel_rfl) (by kernel_rfl) (fun _ _ _ h => h) (Or.inl ⟨by rfl, fun w hw => by go_simp⟩) hH ?_
    simp only [Act.put, List.setIfInBounds_toArray, List.set_cons_zero, List.set_cons_succ]
    refine wpAnyH_take (i := 4) (v := .int .i64 (a : Int)) rfl (by kernel_rfl) (by kernel_rfl) (by kernel_rfl) (fun _ _ _ h => h) (Or.inl ⟨by rfl, fun w hw => by go_simp⟩) hH ?_
    simp only [Act.put, List.setIfInBounds_toArray, List.set_cons_zero, List.set_cons_succ]
    refine wpAnyH_ready (rs := [5]) (by kernel_rfl) (by simp) ?_
    refine AllReadyH.cons rfl (fun K' hK' => ?_) AllReadyH.nil
    go_simp
    go_at_call 84
    refine (HC.out _ (Below.refl _ _).drew).mono ?_
    rintro e w3 ⟨rfl, hb3⟩
    go_wp2_with fail
    refine hK'.out _ _ (HP.out _ hb3) (fun hH => ?_)
    clear hK' K'
    try simp only [Act.put, List.setIfInBounds_toArray, List.set_cons_zero, List.set_cons_succ]
    refine wpAnyH_ready (rs := [6]) (by kernel_rfl) (by simp) ?_
    refine AllReadyH.cons rfl (fun K' hK' => ?_) AllReadyH.nil
    go_simp
    go_at_call 83
    refine (HCW.out _ hb3).mono ?_
    rintro e w4 ⟨rfl, hb4⟩
    go_wp2_with fail
    refine hK'.out _ _ (HP.out _ hb4) (fun hH => ?_)
    clear hK' K'
    try simp only [Act.put, List.setIfInBounds_toArray, List.set_cons_zero, List.set_cons_succ]
    refine wpAnyH_ready (rs := [7]) (by kernel_rfl) (by simp) ?_
    refine AllReadyH.cons rfl (fun K' hK' => ?_) AllReadyH.nil
    go_simp
    refine hK'.out _ _ (HP.out _ hb4) (fun hH => ?_)
    clear hK' K'
    try simp only [Act.put, List.setIfInBounds_toArray, List.set_cons_zero, List.set_cons_succ]
    refine wpAnyH_done (by kernel_rfl) ?_ _
    go_wp2_with fail
    go_meet
    exact ⟨rfl, hb4⟩
  case rest =>
    obtain ⟨rfl, hb4⟩ := hcut
    have b4 := H1.out.1.trans (hb4.mono H1.out.1.size)
    have hS4 := H1.out.2.1.later hb4
    clear HC HCW heq HP H1 hb4 HK
    go_wp2_with (refine wp_storeSig rfl _ _ rfl w.heap.size 0 0 _ _ _ (.slice none 0 0) (.slice none 0 0) (.slice none 0 0) hS4 rfl rfl rfl rfl rfl ?_; intro hfin)
    refine ret_sig2 8 9 w.heap.size 0 _ _ _ _ rfl rfl rfl rfl hfin ?_
    exact ⟨rfl, below_setRow b4 (Nat.le_refl _)⟩

set_option maxRecDepth 100000 in
set_option maxHeartbeats 1000000 in
theorem sSignText_len (s t : ByteArray) (x : Option Addr) (n cap : Nat) (a : Int) (w : World) (h : n ≠ 16) (hn : n ≤ 1100000) :
    Calls Tryd.prog 91 #[.string s, .slice x n cap, .int .i64 a, .string t] w fun e w' => e = .returned (.tuple #[.agg zSig, .bool false]) ∧ Below w.heap.size w w' := by
  have H0 : Hid _ := zSig_new w
  have q : ((n : Int) != 16) = true := by simp; omega
  clear h
  go_enter Tryd.func91, Tryd.ntmps91
  go_wp2_with (refine wp_storeSig rfl _ _ rfl w.heap.size 0 0 _ _ _ (.slice none 0 0) (.slice none 0 0) (.slice none 0 0) H0.out.2 rfl rfl rfl rfl rfl ?_; intro hfin)
  refine ret_sig2 8 9 w.heap.size 0 _ _ _ _ rfl rfl rfl rfl hfin ?_
  exact ⟨rfl, below_setRow H0.out.1 (Nat.le_refl _)⟩

set_option maxRecDepth 100000 in
set_option maxHeartbeats 1000000 in
theorem sSignText_off (s t : ByteArray) (x : Option Addr) (cap : Nat) (a : Int) (w : World) (ha : decide (0 ≤ a ∧ a ≤ 15) = false ∨ (decide (0 ≤ a ∧ a ≤ 15) = true ∧ 200 < t.size)) (ht : t.size ≤ 1100000) :
    Calls Tryd.prog 91 #[.string s, .slice x 16 cap, .int .i64 a, .string t] w fun e w' => e = .returned (.tuple #[.agg zSig, .bool false]) ∧ Below w.heap.size w w' := by
  have H0 : Hid _ := zSig_new w
  have HA : Hid _ := ha
  clear ha
  go_enter Tryd.func91, Tryd.ntmps91
  go_wp2_with fail
  refine (l01In_any _ _ _ _).mono ?_
  rintro e w1 ⟨rfl, rfl⟩
  rcases HA.out with hd | ⟨hd, hlong⟩
  · rw [hd]
    go_wp2_with (refine wp_storeSig rfl _ _ rfl w.heap.size 0 0 _ _ _ (.slice none 0 0) (.slice none 0 0) (.slice none 0 0) H0.out.2 rfl rfl rfl rfl rfl ?_; intro hfin)
    refine ret_sig2 8 9 w.heap.size 0 _ _ _ _ rfl rfl rfl rfl hfin ?_
    exact ⟨rfl, below_setRow H0.out.1 (Nat.le_refl _)⟩
  · rw [hd]
    have i1 : (200 : Int) < (t.size : Int) := by omega
    go_wp2_with (refine wp_storeSig rfl _ _ rfl w.heap.size 0 0 _ _ _ (.slice none 0 0) (.slice none 0 0) (.slice none 0 0) H0.out.2 rfl rfl rfl rfl rfl ?_; intro hfin)
    refine ret_sig2 8 9 w.heap.size 0 _ _ _ _ rfl rfl rfl rfl hfin ?_
    exact ⟨rfl, below_setRow H0.out.1 (Nat.le_refl _)⟩

set_option maxRecDepth 100000 in
set_option maxHeartbeats 1000000 in
theorem sSignText_key (s t : ByteArray) (v : Value) (ga oa a : Nat) (l : List ByteArray) (w : World) (hv : SS w v ga oa l) (hl : l.length = 16) (ha : a ≤ 15) (hs : s.size ≤ 100) (ht : t.size ≤ 200) (hk : gB l a ≠ pubB s a) :
    Calls Tryd.prog 91 #[.string s, v, .int .i64 a, .string t] w fun e w' => e = .returned (.tuple #[.agg zSig, .bool false]) ∧ Below w.heap.size w w' := by
  have H0 : Hid _ := zSig_new w
  have hpc := sPublicOf_yes s a (w.alloc (.cells zSig 28)) hs ha
  have hps := pubB_size s a hs
  have hnn := not_nil (D := pubB s a) (by omega)
  have HCL : Hid (∀ W, Below w.heap.size w W → W.cell? ⟨ga, oa + a, none⟩ = some (.string (gB l a))) := fun W hW => by
    obtain ⟨_, _, _, _, _, hc⟩ := hv.below hW hv.lt
    have := hc a (by omega)
    rw [gB_eq] at this
    exact this
  obtain ⟨x, cap, rfl, _, hA, hcc⟩ := hv
  have ea := hA (by omega)
  subst ea
  rw [hl]
  have hne : ((pubB s a).toList == (gB l a).toList) = false := by
    rw [beq_eq_false_iff_ne]
    intro he
    rw [ByteArray.toList_eq, ByteArray.toList_eq] at he
    exact hk (ByteArray.ext (Array.toList_inj.1 he)).symm
  have hd : decide ((0 : Int) ≤ (a : Int) ∧ (a : Int) ≤ 15) = true := by simp; omega
  clear hA hcc hl hk
  generalize pubB s a = K at *
  generalize gB l a = Y at *
  go_enter Tryd.func91, Tryd.ntmps91
  go_wp2_with fail
  refine (l01In_any _ _ _ _).mono ?_
  rintro e w1 ⟨rfl, rfl⟩
  go_wp2_with fail
  refine hpc.mono ?_
  rintro e w2 ⟨rfl, hb2⟩
  have b2 := H0.out.1.trans (hb2.mono H0.out.1.size)
  have hS2 := H0.out.2.later hb2
  have c0 := HCL.out w2 b2
  have i1 : (a : Int) < 16 := by omega
  have i2 : (0 : Int) ≤ (a : Int) := by omega
  clear hpc H0 hb2 HCL
  go_wp2_with (refine wp_storeSig rfl _ _ rfl w.heap.size 0 0 _ _ _ (.slice none 0 0) (.slice none 0 0) (.slice none 0 0) hS2 rfl rfl rfl rfl rfl ?_; intro hfin)
  refine ret_sig2 8 9 w.heap.size 0 _ _ _ _ rfl rfl rfl rfl hfin ?_
  exact ⟨rfl, below_setRow b2 (Nat.le_refl _)⟩

end Go.Proofs.YtaejeemjndmjcaaDoor
