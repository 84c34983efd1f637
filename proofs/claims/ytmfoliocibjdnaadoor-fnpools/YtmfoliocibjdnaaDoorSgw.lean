/-
  What 'with' of a pool and sidesInRow answer.
-/
import Derived.Test.YtmfoliocibjdnaaDoorRooti
import Derived.Test.YtmfoliocibjdnaaDoorPkL
import Derived.Test.YtmfoliocibjdnaaDoorPkF
namespace Go.Proofs.YtmfoliocibjdnaaDoor
open Go.RowKit Go.BigFrame
set_option linter.unusedVariables false
set_option linter.unusedSimpArgs false

/-- an array of texts, answered -/
theorem ret_arr1 {fn : Func} {Rp : Ending → World → Prop} {a : Act} {w : World} (c g t n : Nat) (ty e : TypeId) (l : List ByteArray) (hres : fn.results = #[.cell c ty]) (hd : a.defers = []) (hp : a.tmps.getD c undef = .pointer (some ⟨g, 0, none⟩))
    (hA : TA w g t l) (hl : l.length = n) (hu : Tryd.prog.underlying ty = some (.array n e)) (hi : (Tryd.prog.info? ty).map (·.size) = some n) (h : Rp (.returned (.agg (svs l).toArray)) w) : bodyPost Tryd.prog fn Rp .ret a w := by
  have hr := run_loadVar_row (P := Tryd.prog) w g t ty _ (0, 0) _ hA hu rfl (by rw [svs_size, hl]; exact hi)
  refine bodyPost_ret (v := .agg (svs l).toArray) ?_ hd h
  have hp' : a.tmps[c]?.getD undef = .pointer (some ⟨g, 0, none⟩) := by simpa using hp
  simp [results, hres, asAddr, hr, hp']

set_option maxRecDepth 100000 in
set_option maxHeartbeats 1000000 in
theorem with_any (l : List ByteArray) (k : Nat) (x : ByteArray) (w : World) (hl : l.length = 16) (hk : k < 16) :
    Calls Tryd.prog 108 #[.agg (svs l).toArray, .int .i64 k, .string x] w fun e w' => e = .returned (.agg (svs (l.set k x)).toArray) ∧ Below w.heap.size w w' := by
  have HL : Hid (l.length = 16) := hl
  have hta := TA.new w l 118
  have hbA : Below w.heap.size w (w.alloc (.cells (svs l).toArray 118)) := (Below.refl _ _).alloc (Nat.le_refl _) _
  have hsz : (w.alloc (.cells (svs l).toArray 118)).heap.size = w.heap.size + 1 := by simp
  have hta2 : TA ((w.alloc (.cells (svs l).toArray 118)).alloc (.cells (zT 16) 118)) w.heap.size 118 l := hta.later ((Below.refl _ _).alloc (Nat.le_refl _) _)
  have hz2 : TA ((w.alloc (.cells (svs l).toArray 118)).alloc (.cells (zT 16) 118)) (w.heap.size + 1) 118 (List.replicate 16 ByteArray.empty) := by
    have := TA.new (w.alloc (.cells (svs l).toArray 118)) (List.replicate 16 ByteArray.empty) 118
    rw [hsz] at this
    exact this
  have hb2 : Below w.heap.size w ((w.alloc (.cells (svs l).toArray 118)).alloc (.cells (zT 16) 118)) := hbA.alloc (by rw [hsz]; omega) _
  have c0 := hta2.cell k (by omega)
  have f0 := hta2.frozen k
  have i1 : (k : Int) < 16 := by omega
  have i2 : (0 : Int) ≤ (k : Int) := by omega
  have hse : svs (l.set k x) = (svs l).set k (.string x) := by simp [svs, List.map_set]
  have hbA2 : Below w.heap.size w (w.alloc (.cells ((svs l).set k (.string x)).toArray 118)) := (Below.refl _ _).alloc (Nat.le_refl _) _
  have hsz2 : (w.alloc (.cells ((svs l).set k (.string x)).toArray 118)).heap.size = w.heap.size + 1 := by simp
  have HS : Hid (TA ((w.alloc (.cells ((svs l).set k (.string x)).toArray 118)).alloc (.cells (zT 16) 118)) w.heap.size 118 (l.set k x)) := by
    have h1 := TA.new w (l.set k x) 118
    rw [hse] at h1
    exact h1.later ((Below.refl _ _).alloc (Nat.le_refl _) _)
  have HZ : Hid (TA ((w.alloc (.cells ((svs l).set k (.string x)).toArray 118)).alloc (.cells (zT 16) 118)) (w.heap.size + 1) 118 (List.replicate 16 ByteArray.empty)) := by
    have := TA.new (w.alloc (.cells ((svs l).set k (.string x)).toArray 118)) (List.replicate 16 ByteArray.empty) 118
    rw [hsz2] at this
    exact this
  have HB : Hid (Below w.heap.size w ((w.alloc (.cells ((svs l).set k (.string x)).toArray 118)).alloc (.cells (zT 16) 118))) := hbA2.alloc (by rw [hsz2]; omega) _
  generalize l[k]'(by omega) = Y at *
  clear hta hta2 hz2 hb2 hbA hsz hl hse hbA2 hsz2
  go_enter Tryd.func108, Tryd.ntmps108
  go_wp2_with (first | (refine wp_allocT rfl 118 16 rfl zeroP ?_) | (refine wp_loadT rfl 118 _ rfl w.heap.size 118 16 (l.set k x) 9 rfl HS.out (by rw [List.length_set]; exact HL.out) Tryd.underlying118 sizeP ?_) | (refine wp_storeT rfl 118 _ _ rfl (w.heap.size + 1) 118 16 (List.replicate 16 ByteArray.empty) (l.set k x) HZ.out (by simp) (by rw [List.length_set]; exact HL.out) rfl rfl sizeP ?_; intro hfin))
  refine ret_arr1 6 (w.heap.size + 1) 118 16 118 9 (l.set k x) rfl rfl rfl hfin (by rw [List.length_set]; exact HL.out) Tryd.underlying118 sizeP ?_
  exact ⟨rfl, below_setRow HB.out (by omega)⟩

/-- the sides of a place -/
def sdN (l : List ByteArray) (a : Nat) : Nat → List ByteArray
  | 0 => []
  | m + 1 => sdN l a m ++ [gB (upN l m) ((a / 2 ^ m) ^^^ 1)]
theorem sdN_len (l : List ByteArray) (a m : Nat) : (sdN l a m).length = m := by
  induction m with
  | zero => rfl
  | succ m ih => simp [sdN, ih]
theorem SS.keptG {w w' : World} {v : Value} {g o : Nat} {row : Option Nat} {l : List ByteArray} (h : SS w v g o l) (hg : w.grownBy w' row) (hne : some g ≠ row) : SS w' v g o l := by
  obtain ⟨a, cap, hv, hl, hA, hc⟩ := h
  refine ⟨a, cap, hv, hl, hA, fun j hj => ?_⟩
  have h1 := hc j hj
  have hlt : g < w.heap.size := by
    by_cases hx : g < w.heap.size
    · exact hx
    · have : w.heap[g]? = none := Array.getElem?_eq_none (by omega)
      simp [World.cell?, this] at h1
  exact (World.cell?_of_block (w := w) (w' := w') (a := ⟨g, o + j, none⟩) (hg.block g hlt hne)).trans h1
theorem hashB_small (k : Int) (l : List ByteArray) : (hashB k l 16).size ≤ 1048576 := by
  by_cases h : tagOk k l = true
  · rw [hashB_size h]; omega
  · unfold hashB; rw [if_neg h]; simp [ByteArray.size]
theorem upN_small (l : List ByteArray) (hs : ∀ j, (gB l j).size ≤ 1048576) : ∀ m j, (gB (upN l m) j).size ≤ 1048576
  | 0, j => hs j
  | m + 1, j => by
    by_cases h : j < (upN l (m + 1)).length
    · have e : upN l (m + 1) = upL (upN l m) := rfl
      rw [e] at h ⊢
      rw [← gB_eq _ _ h, upL_at]
      exact hashB_small _ _
    · unfold gB
      rw [List.getD_eq_getElem?_getD, List.getElem?_eq_none (by omega)]
      simp
theorem xor_i (q : Nat) (h : q ≤ 15) : bits BinOp.xor IntKind.i64 (q : Int) 1 = ((q ^^^ 1 : Nat) : Int) := by
  have : ∀ q : Fin 16, bits BinOp.xor IntKind.i64 ((q.val : Nat) : Int) 1 = ((q.val ^^^ 1 : Nat) : Int) := by decide
  exact this ⟨q, by omega⟩
theorem xor1 (q : Nat) (h : q ≤ 15) : q ^^^ 1 ≤ 15 ∧ (∀ n, n % 2 = 0 → q < n → q ^^^ 1 < n) := by
  have e : q ^^^ 1 = if q % 2 = 0 then q + 1 else q - 1 := by
    have : ∀ q : Fin 16, q.val ^^^ 1 = if q.val % 2 = 0 then q.val + 1 else q.val - 1 := by decide
    exact this ⟨q, by omega⟩
  rw [e]
  constructor
  · split <;> omega
  · intro n hn hq
    split <;> omega

/-- what each round of sidesInRow holds -/
def SdR (l : List ByteArray) (a : Nat) (w : World) (r p v : Value) (wr : World) : Prop :=
  ∃ m : Nat, m ≤ 4 ∧ p = .int .i64 (a / 2 ^ m : Nat) ∧ OS w.heap.size w wr v (sdN l a m) ∧ ∃ g o, SS wr r g o (upN l m) ∧ some g ≠ v.ownBlock

set_option maxRecDepth 100000 in
set_option maxHeartbeats 2000000 in
theorem sidesInRow_16 (v : Value) (ga oa : Nat) (l : List ByteArray) (a : Nat) (w : World) (hv : SS w v ga oa l) (hl : l.length = 16) (ha : a ≤ 15) (hs : ∀ j, (gB l j).size ≤ 1048576) (hT : Tb w) :
    Calls Tryd.prog 109 #[v, .int .i64 a, .int .i64 16] w fun e w' => ∃ u, e = .returned u ∧ OS w.heap.size w w' u (sdN l a 4) := by
  have HL : Hid (l.length = 16) := hl
  have HT : Hid (Tb w) := hT
  have HSZ : Hid (∀ m j, (gB (upN l m) j).size ≤ 1048576) := upN_small l hs
  have hga := hv.lt (by omega)
  have HST : Hid (SdR l a w v (.int .i64 (a : Int)) (.slice (some ⟨w.heap.size, 0, none⟩) 0 0) (w.alloc (.cells #[] 9))) :=
    ⟨0, by omega, by simp, OS.made w, ga, oa, hv.below ((Below.refl _ _).alloc (Nat.le_refl _) _) hv.lt, by simp [Value.ownBlock]; omega⟩
  clear hv hl hs hT hga
  go_enter Tryd.func109, Tryd.ntmps109
  go_wp2
  go_loopw [0, 1, 7] (fun r p v wr => SdR l a w r p v wr) (fun r _ _ _ => lenOf r)
  case atStart => exact HST.out
  case round =>
    obtain ⟨m, hm, rfl, hos, g, o, hss, hne⟩ := hrel
    clear HST
    have hpw := upN_pow l HL.out m hm
    by_cases hlt : m < 4
    · have hq15 : a / 2 ^ m ≤ 15 := Nat.le_trans (Nat.div_le_self _ _) ha
      have hqn : a / 2 ^ m < 16 / 2 ^ m := by
        have h0 : m = 0 ∨ m = 1 ∨ m = 2 ∨ m = 3 := by omega
        rcases h0 with rfl | rfl | rfl | rfl <;> simp <;> omega
      have hn16 : 16 / 2 ^ m ≤ 16 ∧ (16 / 2 ^ m) % 2 = 0 ∧ 1 < 16 / 2 ^ m := by
        have h0 : m = 0 ∨ m = 1 ∨ m = 2 ∨ m = 3 := by omega
        rcases h0 with rfl | rfl | rfl | rfl <;> simp
      have hxl := (xor1 _ hq15).2 _ hn16.2.1 hqn
      have hsm := HSZ.out m ((a / 2 ^ m) ^^^ 1)
      obtain ⟨ad, cap, rfl, _, hA, hcell⟩ := id hss
      have ea := hA (by rw [hpw]; omega)
      subst ea
      have c0 : wr.cell? ⟨g, o + ((a / 2 ^ m) ^^^ 1), none⟩ = some (.string (gB (upN l m) ((a / 2 ^ m) ^^^ 1))) := by
        have := hcell ((a / 2 ^ m) ^^^ 1) (by rw [hpw]; exact hxl)
        rw [gB_eq] at this
        exact this
      have hq2 : a / 2 ^ (m + 1) = a / 2 ^ m / 2 := by rw [Nat.pow_succ, Nat.div_div_eq_div_mul]
      have hlen := sdN_len l a m
      have HRA : Hid (∀ W, SS W (.slice (some ⟨g, o, none⟩) (16 / 2 ^ m) cap) g o (upN l m) → Tb W → Calls Tryd.prog 150 #[.slice (some ⟨g, o, none⟩) (16 / 2 ^ m) cap, .int .i64 16] W fun e w' => ∃ g2, e = .returned (.slice (some ⟨g2, 0, none⟩) (16 / 2 ^ m / 2) (16 / 2 ^ m / 2)) ∧ W.heap.size ≤ g2 ∧ SS w' (.slice (some ⟨g2, 0, none⟩) (16 / 2 ^ m / 2) (16 / 2 ^ m / 2)) g2 0 (upN l (m + 1)) ∧ Below W.heap.size W w') := fun W hW hTW => by
        have := rowAbove_any _ g o (upN l m) W hW (by rw [hpw]; omega) hTW
        rw [hpw] at this
        refine this.mono ?_
        rintro e w' ⟨g2, he, hg2, htb, hb⟩
        exact ⟨g2, he, hg2, htb.ss _ _ (by rw [upL_len, hpw]) (by omega), hb⟩
      have HN : Hid (∀ v W g2, OS w.heap.size w W v (sdN l a m ++ [gB (upN l m) ((a / 2 ^ m) ^^^ 1)]) → SS W (.slice (some ⟨g2, 0, none⟩) (16 / 2 ^ m / 2) (16 / 2 ^ m / 2)) g2 0 (upN l (m + 1)) → some g2 ≠ v.ownBlock → SdR l a w (.slice (some ⟨g2, 0, none⟩) (16 / 2 ^ m / 2) (16 / 2 ^ m / 2)) (.int .i64 ((a / 2 ^ m / 2 : Nat) : Int)) v W) :=
        fun v W g2 h1 h2 h3 => ⟨m + 1, by omega, by rw [hq2], h1, g2, 0, h2, h3⟩
      rw [hpw] at hss ⊢
      have HSS : Hid (SS wr (.slice (some ⟨g, o, none⟩) (16 / 2 ^ m) cap) g o (upN l m)) := hss
      clear hss hpw hq2 HSZ hcell hA
      generalize gB (upN l m) ((a / 2 ^ m) ^^^ 1) = X at *
      generalize sdN l a m = S at *
      generalize a / 2 ^ m = q at *
      generalize 16 / 2 ^ m = n at *
      have i3 := xor_i q hq15
      generalize q ^^^ 1 = y at *
      obtain ⟨hn1, hn2, hn3⟩ := hn16
      have i1 : (1 : Int) < (n : Int) := by omega
      have i4 : (y : Int) < (n : Int) := by omega
      have i5 : (0 : Int) ≤ (y : Int) := by omega
      go_wp2_with fail
      refine (Clone_any X _ hsm).mono ?_
      rintro e w1 ⟨rfl, hb1⟩
      have hos1 := hos.later hb1
      have hss1 := HSS.out.below hb1 HSS.out.lt
      clear hos hb1 c0 HSS
      go_wp2_with (at_builtin; refine wp_appSG rfl _ _ rfl w.heap.size w _ S rfl (hos1.alloc _) ⟨w1.heap.size, 0, none⟩ X rfl ?c1 ?c2 ?_)
      case c1 => exact one_text _ _ _
      case c2 => omega
      intro v2 w2 hos2 hgr
      have hss2 := (hss1.below ((Below.refl _ _).alloc (Nat.le_refl _) _) hss1.lt).keptG hgr hne
      have hT2 := HT.out.later hos2.2.1
      clear hss1 hgr hos1 hne
      go_wp2_with fail
      refine (HRA.out _ hss2 hT2).mono ?_
      rintro e w3 ⟨g2, rfl, hg2, hss3, hb3⟩
      have hos3 := hos2.later hb3
      have hne3 : some g2 ≠ v2.ownBlock := fun he => by have := (hos2.1.lt g2 he.symm).2; omega
      clear hos2 hb3 hss2 HRA
      go_wp2
      go_roundw
      case rel => exact HN.out _ _ _ hos3 hss3 hne3
      case measure => simp [lenOf]; omega
    · have hme : m = 4 := by omega
      subst hme
      have hpw1 : (upN l 4).length = 1 := hpw
      obtain ⟨ad, cap, rfl, _, _, _⟩ := hss
      rw [hpw1]
      have HF : Hid (OS w.heap.size w wr u7 (sdN l a 4)) := hos
      clear hos
      go_wp2
      go_ret
      exact ⟨_, rfl, HF.out⟩

end Go.Proofs.YtmfoliocibjdnaaDoor
