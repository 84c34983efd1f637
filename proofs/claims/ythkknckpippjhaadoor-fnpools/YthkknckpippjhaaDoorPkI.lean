/-
  Texts laid together: Sgw, Sgv, Sgn.
-/
import Derived.Test.YthkknckpippjhaaDoorPkD
import Derived.Test.YthkknckpippjhaaDoorPkF
import Derived.Test.YthkknckpippjhaaDoorPkE
import Derived.ChangeKeysEq
import Derived.Laws.StructEq
import Derived.Deep.RegionLaw
import Derived.Deep.CutRange
import Derived.Deep.RegionHeld
/-
  What 'with' and 'sidesOf' of a pool answer.
-/
namespace Go.Proofs.YthkknckpippjhaaDoor
open Go.RowKit Go.BigFrame
set_option linter.unusedVariables false
set_option linter.unusedSimpArgs false

/-- an array of texts, answered -/
theorem ret_arr1 {fn : Func} {Rp : Ending → World → Prop} {a : Act} {w : World} (c g t n : Nat) (ty e : TypeId) (l : List ByteArray) (hres : fn.results = #[.cell c ty]) (hd : a.defers = []) (hp : a.tmps.getD c undef = .pointer (some ⟨g, 0, none⟩))
    (hA : TA w g t l) (hl : l.length = n) (hu : Tryd.prog.underlying ty = some (.array n e)) (hi : (Tryd.prog.info? ty).map (·.size) = some n) (h : Rp (.returned (.agg (svs l).toArray)) w) : bodyPost Tryd.prog fn Rp .ret a w := by
  have hr := run_loadVar_row (P := Tryd.prog) w g t ty _ (0, 0) _ hA hu rfl (by rw [svs_size, hl]; exact hi)
  refine bodyPost_ret (v := .agg (svs l).toArray) ?_ hd h
  have hp' : a.tmps[c]?.getD undef = .pointer (some ⟨g, 0, none⟩) := by simpa using hp
  simp [results, hres, asAddr, hr, hp']

set_option maxRecDepth 100000 in
set_option maxHeartbeats 1000000 in
theorem with_any (l : List ByteArray) (k : Nat) (x : ByteArray) (w : World) (hl : l.length = 16) (hk : k < 16) :
    Calls Tryd.prog 70 #[.agg (svs l).toArray, .int .i64 k, .string x] w fun e w' => e = .returned (.agg (svs (l.set k x)).toArray) ∧ Below w.heap.size w w' := by
  have HL : Hid (l.length = 16) := hl
  have hta := TA.new w l 73
  have hbA : Below w.heap.size w (w.alloc (.cells (svs l).toArray 73)) := (Below.refl _ _).alloc (Nat.le_refl _) _
  have hsz : (w.alloc (.cells (svs l).toArray 73)).heap.size = w.heap.size + 1 := by simp
  have hta2 : TA ((w.alloc (.cells (svs l).toArray 73)).alloc (.cells (zT 16) 73)) w.heap.size 73 l := hta.later ((Below.refl _ _).alloc (Nat.le_refl _) _)
  have hz2 : TA ((w.alloc (.cells (svs l).toArray 73)).alloc (.cells (zT 16) 73)) (w.heap.size + 1) 73 (List.replicate 16 ByteArray.empty) := by
    have := TA.new (w.alloc (.cells (svs l).toArray 73)) (List.replicate 16 ByteArray.empty) 73
    rw [hsz] at this
    exact this
  have hb2 : Below w.heap.size w ((w.alloc (.cells (svs l).toArray 73)).alloc (.cells (zT 16) 73)) := hbA.alloc (by rw [hsz]; omega) _
  have c0 := hta2.cell k (by omega)
  have f0 := hta2.frozen k
  have i1 : (k : Int) < 16 := by omega
  have i2 : (0 : Int) ≤ (k : Int) := by omega
  have hse : svs (l.set k x) = (svs l).set k (.string x) := by simp [svs, List.map_set]
  have hbA2 : Below w.heap.size w (w.alloc (.cells ((svs l).set k (.string x)).toArray 73)) := (Below.refl _ _).alloc (Nat.le_refl _) _
  have hsz2 : (w.alloc (.cells ((svs l).set k (.string x)).toArray 73)).heap.size = w.heap.size + 1 := by simp
  have HS : Hid (TA ((w.alloc (.cells ((svs l).set k (.string x)).toArray 73)).alloc (.cells (zT 16) 73)) w.heap.size 73 (l.set k x)) := by
    have h1 := TA.new w (l.set k x) 73
    rw [hse] at h1
    exact h1.later ((Below.refl _ _).alloc (Nat.le_refl _) _)
  have HZ : Hid (TA ((w.alloc (.cells ((svs l).set k (.string x)).toArray 73)).alloc (.cells (zT 16) 73)) (w.heap.size + 1) 73 (List.replicate 16 ByteArray.empty)) := by
    have := TA.new (w.alloc (.cells ((svs l).set k (.string x)).toArray 73)) (List.replicate 16 ByteArray.empty) 73
    rw [hsz2] at this
    exact this
  have HB : Hid (Below w.heap.size w ((w.alloc (.cells ((svs l).set k (.string x)).toArray 73)).alloc (.cells (zT 16) 73))) := hbA2.alloc (by rw [hsz2]; omega) _
  generalize l[k]'(by omega) = Y at *
  clear hta hta2 hz2 hb2 hbA hsz hl hse hbA2 hsz2
  go_enter Tryd.func70, Tryd.ntmps70
  go_wp2_with (first | (refine wp_allocT rfl 73 16 rfl zeroP ?_) | (refine wp_loadT rfl 73 _ rfl w.heap.size 73 16 (l.set k x) 9 rfl HS.out (by rw [List.length_set]; exact HL.out) Tryd.underlying73 sizeP ?_) | (refine wp_storeT rfl 73 _ _ rfl (w.heap.size + 1) 73 16 (List.replicate 16 ByteArray.empty) (l.set k x) HZ.out (by simp) (by rw [List.length_set]; exact HL.out) rfl rfl sizeP ?_; intro hfin))
  refine ret_arr1 6 (w.heap.size + 1) 73 16 73 9 (l.set k x) rfl rfl rfl hfin (by rw [List.length_set]; exact HL.out) Tryd.underlying73 sizeP ?_
  exact ⟨rfl, below_setRow HB.out (by omega)⟩

/-- the sides of a place -/
def sdN (l : List ByteArray) (a : Nat) : Nat → List ByteArray
  | 0 => []
  | m + 1 => sdN l a m ++ [gB (upN l m) ((a / 2 ^ m) ^^^ 1)]
theorem sdN_len (l : List ByteArray) (a m : Nat) : (sdN l a m).length = m := by
  induction m with
  | zero => rfl
  | succ m ih => simp [sdN, ih]
theorem SS.keptG {w w' : World} {v : Value} {g o : Nat} {row : Option Nat} {l : List ByteArray} (h : SS w v g o l) (hg : w.grownBy w' row) (hne : some g ≠ row) : SS w' v g o l := by
  obtain ⟨a, cap, hv, hl, hA, hc⟩ := h
  refine ⟨a, cap, hv, hl, hA, fun j hj => ?_⟩
  have h1 := hc j hj
  have hlt : g < w.heap.size := by
    by_cases hx : g < w.heap.size
    · exact hx
    · have : w.heap[g]? = none := Array.getElem?_eq_none (by omega)
      simp [World.cell?, this] at h1
  exact (World.cell?_of_block (w := w) (w' := w') (a := ⟨g, o + j, none⟩) (hg.block g hlt hne)).trans h1
theorem hashB_small (k : Int) (l : List ByteArray) : (hashB k l 16).size ≤ 1048576 := by
  by_cases h : tagOk k l = true
  · rw [hashB_size h]; omega
  · unfold hashB; rw [if_neg h]; simp [ByteArray.size]
theorem upN_small (l : List ByteArray) (hs : ∀ j, (gB l j).size ≤ 1048576) : ∀ m j, (gB (upN l m) j).size ≤ 1048576
  | 0, j => hs j
  | m + 1, j => by
    by_cases h : j < (upN l (m + 1)).length
    · have e : upN l (m + 1) = upL (upN l m) := rfl
      rw [e] at h ⊢
      rw [← gB_eq _ _ h, upL_at]
      exact hashB_small _ _
    · unfold gB
      rw [List.getD_eq_getElem?_getD, List.getElem?_eq_none (by omega)]
      simp
theorem xor_i (q : Nat) (h : q ≤ 15) : bits BinOp.xor IntKind.i64 (q : Int) 1 = ((q ^^^ 1 : Nat) : Int) := by
  have : ∀ q : Fin 16, bits BinOp.xor IntKind.i64 ((q.val : Nat) : Int) 1 = ((q.val ^^^ 1 : Nat) : Int) := by decide
  exact this ⟨q, by omega⟩
theorem xor1 (q : Nat) (h : q ≤ 15) : q ^^^ 1 ≤ 15 ∧ (∀ n, n % 2 = 0 → q < n → q ^^^ 1 < n) := by
  have e : q ^^^ 1 = if q % 2 = 0 then q + 1 else q - 1 := by
    have : ∀ q : Fin 16, q.val ^^^ 1 = if q.val % 2 = 0 then q.val + 1 else q.val - 1 := by decide
    exact this ⟨q, by omega⟩
  rw [e]
  constructor
  · split <;> omega
  · intro n hn hq
    split <;> omega

/-- what each round of sidesOf holds -/
def SdR (l : List ByteArray) (a : Nat) (w : World) (p v r i : Value) (wr : World) : Prop :=
  ∃ m : Nat, m ≤ 4 ∧ i = .int .i64 m ∧ p = .int .i64 (a / 2 ^ m : Nat) ∧ OS w.heap.size w wr v (sdN l a m) ∧ ∃ g, r = .slice (some ⟨g, 0, none⟩) (16 / 2 ^ m) (16 / 2 ^ m) ∧ SS wr r g 0 (upN l m) ∧ some g ≠ v.ownBlock

set_option maxRecDepth 100000 in
set_option maxHeartbeats 2000000 in
theorem sidesOf_any (l : List ByteArray) (a : Nat) (w : World) (hl : l.length = 16) (ha : a ≤ 15) (hs : ∀ j, (gB l j).size ≤ 1048576) (hT : Tb w) :
    Calls Tryd.prog 71 #[.agg (svs l).toArray, .int .i64 a] w fun e w' => ∃ v, e = .returned v ∧ OS w.heap.size w w' v (sdN l a 4) := by
  have HL : Hid (l.length = 16) := hl
  have HT : Hid (Tb w) := hT
  have HSZ : Hid (∀ m j, (gB (upN l m) j).size ≤ 1048576) := upN_small l hs
  have hbA : Below w.heap.size w (w.alloc (.cells (svs l).toArray 73)) := (Below.refl _ _).alloc (Nat.le_refl _) _
  have hsz : (w.alloc (.cells (svs l).toArray 73)).heap.size = w.heap.size + 1 := by simp
  obtain ⟨M, hmk0, hos0⟩ := run_mkT 4 (by omega) (w.alloc (.cells (svs l).toArray 73))
  have hmk : (Instr.makeSlice 28 (.int .i64 0) (.int .i64 4)).run Tryd.prog (w.alloc (.cells (svs l).toArray 73)) = .ok (.slice (some ⟨w.heap.size + 1, 0, none⟩) 0 4) ((w.alloc (.cells (svs l).toArray 73)).alloc (.cells M 9)) := by
    rw [← hsz]
    exact hmk0
  rw [hsz] at hos0
  have HST : Hid (SdR l a w (.int .i64 (a : Int)) (.slice (some ⟨w.heap.size + 1, 0, none⟩) 0 4) (.slice (some ⟨w.heap.size, 0, none⟩) 16 16) (.int .i64 0) ((w.alloc (.cells (svs l).toArray 73)).alloc (.cells M 9))) := by
    refine ⟨0, by omega, rfl, by simp, OS.up hbA (by rw [hsz]; omega) (by rw [hsz]; exact hos0), w.heap.size, by simp, ?_, by simp [Value.ownBlock]⟩
    exact ((TA.new w l 73).later ((Below.refl _ _).alloc (Nat.le_refl _) _)).ss 16 16 hl (by omega)
  clear hmk0 hos0 hbA hsz hl hs hT
  go_enter Tryd.func71, Tryd.ntmps71
  go_wp2
  clear hmk
  go_loopw [1, 5, 6, 9] (fun p v r i wr => SdR l a w p v r i wr) (fun _ _ _ i _ => 4 - (intOf i).toNat)
  case atStart => exact HST.out
  case round =>
    obtain ⟨m, hm, rfl, rfl, hos, g, rfl, hss, hne⟩ := hrel
    clear HST
    by_cases hlt : m < 4
    · have hpw := upN_pow l HL.out m hm
      have hq15 : a / 2 ^ m ≤ 15 := Nat.le_trans (Nat.div_le_self _ _) ha
      have hqn : a / 2 ^ m < 16 / 2 ^ m := by
        have h0 : m = 0 ∨ m = 1 ∨ m = 2 ∨ m = 3 := by omega
        rcases h0 with rfl | rfl | rfl | rfl <;> simp <;> omega
      have hn16 : 16 / 2 ^ m ≤ 16 ∧ (16 / 2 ^ m) % 2 = 0 := by
        have h0 : m = 0 ∨ m = 1 ∨ m = 2 ∨ m = 3 := by omega
        rcases h0 with rfl | rfl | rfl | rfl <;> simp
      have hxl := (xor1 _ hq15).2 _ hn16.2 hqn
      have hsm := HSZ.out m ((a / 2 ^ m) ^^^ 1)
      have c0 : wr.cell? ⟨g, (a / 2 ^ m) ^^^ 1, none⟩ = some (.string (gB (upN l m) ((a / 2 ^ m) ^^^ 1))) := by
        obtain ⟨_, _, _, _, _, hc⟩ := id hss
        have := hc ((a / 2 ^ m) ^^^ 1) (by rw [hpw]; exact hxl)
        rw [gB_eq, Nat.zero_add] at this
        exact this
      have hq2 : a / 2 ^ (m + 1) = a / 2 ^ m / 2 := by rw [Nat.pow_succ, Nat.div_div_eq_div_mul]
      have hn2 : 16 / 2 ^ (m + 1) = 16 / 2 ^ m / 2 := by rw [Nat.pow_succ, Nat.div_div_eq_div_mul]
      have hlen := sdN_len l a m
      have HN : Hid (∀ v W g2, OS w.heap.size w W v (sdN l a m ++ [gB (upN l m) ((a / 2 ^ m) ^^^ 1)]) → SS W (.slice (some ⟨g2, 0, none⟩) (16 / 2 ^ m / 2) (16 / 2 ^ m / 2)) g2 0 (upN l (m + 1)) → some g2 ≠ v.ownBlock → SdR l a w (.int .i64 ((a / 2 ^ m / 2 : Nat) : Int)) v (.slice (some ⟨g2, 0, none⟩) (16 / 2 ^ m / 2) (16 / 2 ^ m / 2)) (.int .i64 ((m : Int) + 1)) W) :=
        fun v W g2 h1 h2 h3 => ⟨m + 1, by omega, by simp, by rw [hq2], h1, g2, by rw [hn2], h2, h3⟩
      have HRA : Hid (∀ W, SS W (.slice (some ⟨g, 0, none⟩) (16 / 2 ^ m) (16 / 2 ^ m)) g 0 (upN l m) → Tb W → Calls Tryd.prog 69 #[.slice (some ⟨g, 0, none⟩) (16 / 2 ^ m) (16 / 2 ^ m)] W fun e w' => ∃ g2, e = .returned (.slice (some ⟨g2, 0, none⟩) (16 / 2 ^ m / 2) (16 / 2 ^ m / 2)) ∧ W.heap.size ≤ g2 ∧ SS w' (.slice (some ⟨g2, 0, none⟩) (16 / 2 ^ m / 2) (16 / 2 ^ m / 2)) g2 0 (upN l (m + 1)) ∧ Below W.heap.size W w') := fun W hW hTW => by
        have := rowAbove_any _ g 0 (upN l m) W hW (by rw [hpw]; omega) hTW
        rw [hpw] at this
        refine this.mono ?_
        rintro e w' ⟨g2, he, hg2, htb, hb⟩
        exact ⟨g2, he, hg2, htb.ss _ _ (by rw [upL_len, hpw]) (by omega), hb⟩
      have HSS : Hid (SS wr (.slice (some ⟨g, 0, none⟩) (16 / 2 ^ m) (16 / 2 ^ m)) g 0 (upN l m)) := hss
      clear hss hpw hq2 hn2 HSZ
      generalize gB (upN l m) ((a / 2 ^ m) ^^^ 1) = X at *
      generalize sdN l a m = S at *
      generalize a / 2 ^ m = q at *
      generalize 16 / 2 ^ m = n at *
      have i1 : (m : Int) < 4 := by omega
      have i3 := xor_i q hq15
      generalize q ^^^ 1 = y at *
      have i4 : (y : Int) < (n : Int) := by omega
      have i5 : (0 : Int) ≤ (y : Int) := by omega
      go_wp2_with fail
      refine (Clone_any X _ hsm).mono ?_
      rintro e w1 ⟨rfl, hb1⟩
      have hos1 := hos.later hb1
      have hss1 := HSS.out.below hb1 HSS.out.lt
      clear hos hb1 c0 HSS
      go_wp2_with (at_builtin; refine wp_appSG rfl _ _ rfl w.heap.size w _ S rfl (hos1.alloc _) ⟨w1.heap.size, 0, none⟩ X rfl ?c1 ?c2 ?_)
      case c1 => exact one_text _ _ _
      case c2 => omega
      intro v2 w2 hos2 hgr
      have hss2 := (hss1.below ((Below.refl _ _).alloc (Nat.le_refl _) _) hss1.lt).keptG hgr hne
      have hT2 := HT.out.later hos2.2.1
      clear hss1 hgr hos1 hne
      go_wp2_with fail
      refine (HRA.out _ hss2 hT2).mono ?_
      rintro e w3 ⟨g2, rfl, hg2, hss3, hb3⟩
      have hos3 := hos2.later hb3
      have hne3 : some g2 ≠ v2.ownBlock := fun he => by have := (hos2.1.lt g2 he.symm).2; omega
      clear hos2 hb3 hss2 HRA
      go_wp2
      go_roundw
      case rel => exact HN.out _ _ _ hos3 hss3 hne3
      case measure => simp [intOf]; omega
    · have hme : m = 4 := by omega
      subst hme
      go_wp2
      go_ret
      exact ⟨_, rfl, hos⟩

end Go.Proofs.YthkknckpippjhaaDoor
/-
  Three rows of texts that grow; two arrays of texts compared; the keys that a signature opens and shuts.
-/
namespace Go.Proofs.YthkknckpippjhaaDoor
open Go.RowKit Go.BigFrame
set_option linter.unusedVariables false
set_option linter.unusedSimpArgs false

theorem part_T (l : List ByteArray) (i : Nat) (h : i < l.length) (W : World) : (Go.part 9 (svs l).toArray (i * 1)).run Tryd.prog W = .ok (.string (gB l i)) W := by
  rw [← gB_eq l i h]
  simp [Go.part, isAgg, run_underlying Tryd.underlying9, svs, h]
theorem eqItems_T (d : Nat) (l r : List ByteArray) (W : World) : ∀ (is : List Nat), (∀ i ∈ is, i < l.length ∧ i < r.length) →
    (Op.eqItems (d + 1) 9 1 (svs l).toArray (svs r).toArray is).run Tryd.prog W = .ok (is.all fun i => decide (gB l i = gB r i)) W
  | [], _ => by simp [Op.eqItems]
  | i :: is, h => by
    have hi := h i (by simp)
    have ih := eqItems_T d l r W is (fun j hj => h j (by simp [hj]))
    have he := run_equalIn_string (P := Tryd.prog) W d 9 (gB l i) (gB r i) Tryd.underlying9
    have hb : ((gB l i).toList == (gB r i).toList) = decide (gB l i = gB r i) := by
      rw [Bool.eq_iff_iff, beq_iff_eq, decide_eq_true_eq, ByteArray.toList_eq, ByteArray.toList_eq]
      exact ⟨fun h => ByteArray.ext (Array.toList_inj.1 h), fun h => by rw [h]⟩
    rw [hb] at he
    simp only [Op.eqItems, Sem.run_bind, part_T l i hi.1 W, part_T r i hi.2 W, he, Result.andThen_ok, List.all_cons]
    cases hd : decide (gB l i = gB r i)
    · simp
    · simpa using ih
theorem same_all (l r : List ByteArray) (h : l.length = r.length) : ((List.range l.length).all fun i => decide (gB l i = gB r i)) = decide (l = r) := by
  rw [Bool.eq_iff_iff]
  simp only [List.all_eq_true, List.mem_range, decide_eq_true_eq]
  constructor
  · intro hh
    refine List.ext_getElem h fun i h1 h2 => ?_
    rw [gB_eq, gB_eq]
    exact hh i h1
  · rintro rfl i _
    rfl
/-- two pools compared -/
theorem eqT (l r : List ByteArray) (hl : l.length = 16) (hr : r.length = 16) (W : World) : (Op.equalIn 10000 73 (.agg (svs l).toArray) (.agg (svs r).toArray)).run Tryd.prog W = .ok (decide (l = r)) W := by
  obtain ⟨i0, hi, hz0, hz1, hz2⟩ := info_parts Tryd.info9
  have hc : Tryd.prog.cellsOf 9 = 1 := by kernel_rfl
  rw [show (10000 : Nat) = 9999 + 1 from rfl, run_equalIn_array W 9999 (svs l).toArray (svs r).toArray Tryd.underlying73 hi, hc, show (9999 : Nat) = 9998 + 1 from rfl, eqItems_T 9998 l r W _ (fun i h => by simp at h; omega), ← same_all l r (by omega), hl]
theorem set_same (l : List ByteArray) (k : Nat) (x : ByteArray) (hk : k < l.length) : decide (l = l.set k x) = decide (gB l k = x) := by
  rw [Bool.eq_iff_iff]
  simp only [decide_eq_true_eq]
  rw [← gB_eq l k hk]
  constructor
  · intro h
    have h2 : l[k]? = (l.set k x)[k]? := by rw [← h]
    rw [List.getElem?_eq_getElem hk, List.getElem?_set_self hk] at h2
    simpa using h2
  · intro h
    rw [← h, List.set_getElem_self]

/-- three rows of texts, each with memory of its own -/
def TrR (B : Nat) (w0 w : World) (u v s : Value) (l r q : List ByteArray) : Prop := TwR B w0 w u v l r ∧ TwR B w0 w u s l q ∧ TwR B w0 w v s r q
theorem TrR.later {B : Nat} {w0 w w' : World} {u v s : Value} {l r q : List ByteArray} (h : TrR B w0 w u v s l r q) (hb : Below w.heap.size w w') : TrR B w0 w' u v s l r q := ⟨h.1.later hb, h.2.1.later hb, h.2.2.later hb⟩
theorem TrR.rot {B : Nat} {w0 w : World} {u v s : Value} {l r q : List ByteArray} (h : TrR B w0 w u v s l r q) : TrR B w0 w v s u r q l := ⟨h.2.2, h.1.swap, h.2.1.swap⟩
theorem TrR.below {B : Nat} {w0 w : World} {u v s : Value} {l r q : List ByteArray} (h : TrR B w0 w u v s l r q) : Below B w0 w := h.1.1.2.1
theorem TwR.kept {B : Nat} {w0 w w' : World} {u v : Value} {l r : List ByteArray} {row : Option Nat} (h : TwR B w0 w u v l r) (hg : w.grownBy w' row) (hB : ∀ k, row = some k → B ≤ k) (h1 : u.ownBlock = none ∨ u.ownBlock ≠ row) (h2 : v.ownBlock = none ∨ v.ownBlock ≠ row) : TwR B w0 w' u v l r :=
  ⟨h.1.kept hg hB h1, h.2.1.kept hg hB h2, h.2.2⟩
theorem OS.neS {B g : Nat} {w0 w : World} {v v1 v2 v3 : Value} {x : Int} {r : List ByteArray} (ho : OS B w0 w v r) (h : SgM w g x v1 v2 v3) : v.ownBlock = none ∨ v.ownBlock ≠ some g := by
  rcases ho.1.2 with ⟨rfl, _⟩ | ⟨g', cap, cur, rfl, _, hg', _⟩
  · exact .inl rfl
  · refine .inr fun he => ?_
    simp [Value.ownBlock] at he
    subst he
    unfold SgM at h
    rw [h] at hg'
    simp at hg'
theorem TrR.set {B : Nat} {w0 w : World} {u v s v1 v2 v3 : Value} {l r q : List ByteArray} {p : Nat} {x : Int} (h : TrR B w0 w u v s l r q) (hs : SgM w p x v1 v2 v3) (hB : B ≤ p) (j : Nat) (y : Value) : TrR B w0 (w.setCell ⟨p, j, none⟩ y) u v s l r q := by
  have hg := grown_set w p j y
  have hb : ∀ k, some p = some k → B ≤ k := fun k hk => by simp at hk; omega
  have n1 := h.1.1.neS hs
  have n2 := h.1.2.1.neS hs
  have n3 := h.2.1.2.1.neS hs
  exact ⟨h.1.kept hg hb n1 n2, h.2.1.kept hg hb n1 n3, h.2.2.kept hg hb n2 n3⟩
theorem row_ne {u v : Value} (h : ∀ g, u.ownBlock = some g → v.ownBlock ≠ some g) : v.ownBlock = none ∨ v.ownBlock ≠ u.ownBlock := by
  cases hv : v.ownBlock with
  | none => exact .inl rfl
  | some k => exact .inr fun e => h k e.symm hv

/-- one text appended to the first of three rows, in a region that draws -/
theorem step_tr {w : World} {ops : Array Oper} {o : Oper} {a : Act} {K : Act → World → Prop} {Q : Exit → Act → World → Prop} {E : Prop} (hgd : o.guard = none) (s x : Operand)
    (ho : o.op = .call { callee := .builtin .append, args := #[s, x], argTypes := #[28, 28] })
    (B : Nat) (w0 : World) (u v y : Value) (l r q : List ByteArray) (t : ByteArray) (hs : a.eval s = u) (h : TrR B w0 w u v y l r q) (p : Nat) (hx : a.eval x = .slice (some ⟨p, 0, none⟩) 1 1)
    (hnews : w.cell? ⟨p, 0, none⟩ = some (.string t)) (hlen : l.length + 1 ≤ 1000000) (n : Nat) (hn : l.length + 1 = n)
    (hk : ∀ g cap w', TrR B w0 w' (.slice (some ⟨g, 0, none⟩) n cap) v y (l ++ [t]) r q → w.grownBy w' u.ownBlock → K (a.put o.dst (.slice (some ⟨g, 0, none⟩) n cap)) w') : if Region.wanted o (yielded ops a.tmps) = true then Oper.wp Tryd.prog o a w K Q else E := by
  subst hn
  obtain ⟨i0, hi, hz0, hz1, hz2⟩ := info_parts Tryd.info9
  refine step_append_lies w hgd s x 28 ho B 9 i0 (.string ByteArray.empty) 1 16 Tryd.underlying28 hi hz0 hz1 hz2 rfl (by decide) u l.length (svs l) hs h.1.1.1 ⟨p, 0, none⟩ 1 1 (svs [t]) hx (by simp [svs]) ?_
    (fun u hu => by simp [svs] at hu; subst hu; rfl) (by omega) (by unfold maxLen; omega) (by omega) h.1.1.2.2 w.heap.size rfl ?_
  · intro j u hj
    match j, hj with
    | 0, hj =>
      simp [svs] at hj
      subst hj
      have : (⟨p, 0, none⟩ : Addr).add 0 = ⟨p, 0, none⟩ := by unfold Addr.add; split <;> simp_all
      rw [this]
      exact hnews
  · intro g cap w' h1 h2 h3 _
    have hB : ∀ k, u.ownBlock = some k → B ≤ k := fun k hk => (h.1.1.1.lt k hk).1
    exact hk _ _ _ ⟨h.1.grow rfl h1 h2 h3, h.2.1.grow rfl h1 h2 h3, h.2.2.kept h2 hB (row_ne h.1.2.2) (row_ne h.2.1.2.2)⟩ h2

/-- the keys that are opened, and the locks of those that are not -/
def opN (s : ByteArray) (a b : Nat) : Nat → List ByteArray
  | 0 => []
  | m + 1 => opN s a b m ++ [secB s a m (bitN b m)]
def shN (s : ByteArray) (a b : Nat) : Nat → List ByteArray
  | 0 => []
  | m + 1 => shN s a b m ++ [lockB (secB s a m (1 - bitN b m))]
theorem opN_len (s : ByteArray) (a b m : Nat) : (opN s a b m).length = m := by
  induction m with
  | zero => rfl
  | succ m ih => simp [opN, ih]
theorem shN_len (s : ByteArray) (a b m : Nat) : (shN s a b m).length = m := by
  induction m with
  | zero => rfl
  | succ m ih => simp [shN, ih]
/-- what each round of SignText holds -/
def SnR (s : ByteArray) (a b : Nat) (d : List ByteArray) (w : World) (p : Nat) (i : Value) (wr : World) : Prop :=
  ∃ (m : Nat) (v1 v2 v3 : Value), m ≤ 8 ∧ i = .int .i64 m ∧ TrR w.heap.size w wr v1 v2 v3 (opN s a b m) (shN s a b m) d ∧ SgM wr p a v1 v2 v3 ∧ SgM wr w.heap.size 0 (.slice none 0 0) (.slice none 0 0) (.slice none 0 0)
theorem OS.out {B : Nat} {w0 w : World} {v : Value} {l : List ByteArray} (h : OS B w0 w v l) (hl : 0 < l.length) (hm : l.length ≤ 1100000) : ∃ g, v.ownBlock = some g ∧ TS w v g l ∧ B ≤ g ∧ v.oneCell' = true := by
  rcases h.shape with ⟨_, rfl⟩ | ⟨g, cap, rfl, hB, _⟩
  · simp at hl
  · exact ⟨g, rfl, h.tb.ts _ _ rfl hm, hB, rfl⟩
theorem TrR.sig {B : Nat} {w0 w : World} {u v s : Value} {l r q : List ByteArray} (h : TrR B w0 w u v s l r q) (a : Int) (h1 : 0 < l.length ∧ l.length ≤ 100) (h2 : 0 < r.length ∧ r.length ≤ 100) (h3 : 0 < q.length ∧ q.length ≤ 100) : SigIn w B (.agg #[.int .i64 a, u, v, s]) a l r q ∧ u.oneCell' = true ∧ v.oneCell' = true ∧ s.oneCell' = true := by
  obtain ⟨g1, e1, t1, b1, o1⟩ := h.1.1.out h1.1 (by omega)
  obtain ⟨g2, e2, t2, b2, o2⟩ := h.1.2.1.out h2.1 (by omega)
  obtain ⟨g3, e3, t3, b3, o3⟩ := h.2.1.2.1.out h3.1 (by omega)
  exact ⟨⟨u, v, s, g1, g2, g3, rfl, ⟨t1, t2, t3⟩, ⟨b1, b2, b3⟩, ⟨fun e => h.1.2.2 g1 e1 (by rw [e2, e]), fun e => h.2.1.2.2 g1 e1 (by rw [e3, e]), fun e => h.2.2.2.2 g2 e2 (by rw [e3, e])⟩⟩, o1, o2, o3⟩
theorem TrR.setR {B : Nat} {w0 w : World} {u v s v1 v2 v3 : Value} {l r q : List ByteArray} {p : Nat} {x : Int} (h : TrR B w0 w u v s l r q) (hs : SgM w p x v1 v2 v3) (hB : B ≤ p) (R : Array Value) : TrR B w0 (w.setRow p R) u v s l r q := by
  have hg := grown_setRow w p R
  have hb : ∀ k, some p = some k → B ≤ k := fun k hk => by simp at hk; omega
  have n1 := h.1.1.neS hs
  have n2 := h.1.2.1.neS hs
  have n3 := h.2.1.2.1.neS hs
  exact ⟨h.1.kept hg hb n1 n2, h.2.1.kept hg hb n1 n3, h.2.2.kept hg hb n2 n3⟩
theorem OS.nil3 {B : Nat} {w0 w : World} (h : Below B w0 w) (hB : B ≤ w.heap.size) : OS B w0 w (.slice none 0 0) [] := ⟨World.ownsRow_nil _ _ _ _, h, hB⟩

end Go.Proofs.YthkknckpippjhaaDoor
/-
  What the program's SignText answers where it signs.
-/
namespace Go.Proofs.YthkknckpippjhaaDoor
open Go.RowKit Go.BigFrame
set_option linter.unusedVariables false
set_option linter.unusedSimpArgs false

theorem TA.range {w : World} {g t : Nat} {l : List ByteArray} (h : TA w g t l) : w.rangeAt g 0 (svs l) := by
  have h1 := World.rangeAt_of_block (w := w) h 0 l.length
  have e : ((svs l).toArray.extract 0 (0 + l.length)).toList = svs l := by
    rw [Array.toList_extract, Nat.zero_add]
    show List.take (l.length - 0) (List.drop 0 (svs l)) = svs l
    rw [List.drop_zero]
    exact List.take_of_length_le (by simp [svs])
  rw [e] at h1
  exact h1

set_option maxRecDepth 100000 in
set_option maxHeartbeats 4000000 in
theorem SignText_yes (s t : ByteArray) (v : Value) (ga oa a : Nat) (l : List ByteArray) (w : World) (hv : SS w v ga oa l) (hl : l.length = 16) (ha : a ≤ 15) (hs : s.size ≤ 100) (ht : t.size ≤ 200) (hsz : ∀ j, (gB l j).size ≤ 1048576) (hk : gB l a = pubB s a) (hT : Tb w) :
    Calls Tryd.prog 34 #[.string s, v, .int .i64 a, .string t] w fun e w' => ∃ v, e = .returned (.tuple #[v, .bool true]) ∧ SigIn w' w.heap.size v a (opN s a (bitsB t) 8) (shN s a (bitsB t) 8) (sdN l a 4) ∧ Below w.heap.size w w' := by
  have hB0 : Below w.heap.size w (w.alloc (.cells zSig 37)) := (Below.refl _ _).alloc (Nat.le_refl _) _
  have hS0 : SgM (w.alloc (.cells zSig 37)) w.heap.size 0 (.slice none 0 0) (.slice none 0 0) (.slice none 0 0) := SgM.new w 0 _ _ _
  have hsz0 : (w.alloc (.cells zSig 37)).heap.size = w.heap.size + 1 := by simp
  have hc := poolFrom_yes v ga oa l (w.alloc (.cells zSig 37)) (hv.below hB0 hv.lt) hl
  have HL : Hid (l.length = 16) := hl
  have HT : Hid (Tb w) := hT
  have HSZ : Hid (∀ j, (gB l j).size ≤ 1048576) := hsz
  have HK : Hid (gB l a = pubB s a) := hk
  have H0 : Hid (Below w.heap.size w (w.alloc (.cells zSig 37)) ∧ SgM (w.alloc (.cells zSig 37)) w.heap.size 0 (.slice none 0 0) (.slice none 0 0) (.slice none 0 0) ∧ (w.alloc (.cells zSig 37)).heap.size = w.heap.size + 1) := ⟨hB0, hS0, hsz0⟩
  obtain ⟨x, cap, rfl, _, hA, hcc⟩ := hv
  rw [hl] at hc ⊢
  have hd : decide ((0 : Int) ≤ (a : Int) ∧ (a : Int) ≤ 15) = true := by simp; omega
  clear hA hcc hl hT hsz hk hB0 hS0 hsz0
  go_enter Tryd.func34, Tryd.ntmps34
  go_wp2_with fail
  refine hc.mono ?_
  rintro e w1 ⟨rfl, hb1⟩
  have b1 := H0.out.1.trans (hb1.mono H0.out.1.size)
  have hS1 := H0.out.2.1.later hb1
  have hsz1 : w.heap.size + 1 ≤ w1.heap.size := by rw [← H0.out.2.2]; exact hb1.size
  have H1 : Hid (Below w.heap.size w (w1.alloc (.cells (svs l).toArray 73)) ∧ SgM (w1.alloc (.cells (svs l).toArray 73)) w.heap.size 0 (.slice none 0 0) (.slice none 0 0) (.slice none 0 0) ∧ TA (w1.alloc (.cells (svs l).toArray 73)) w1.heap.size 73 l ∧ (w1.alloc (.cells (svs l).toArray 73)).heap.size = w1.heap.size + 1) :=
    ⟨b1.alloc b1.size _, hS1.later ((Below.refl _ _).alloc (Nat.le_refl _) _), TA.new w1 l _, by simp⟩
  clear hc hb1 b1 hS1 H0
  go_wp2_with (first | (refine wp_allocT rfl 73 16 rfl zeroP ?_) | (refine wp_storeNewT rfl 73 16 _ _ rfl w1 _ l rfl (zT_size 16) HL.out rfl rfl sizeP ?_) | fail)
  refine (inPool_any (a : Int) _).mono ?_
  rintro e w2 ⟨rfl, rfl⟩
  rw [hd]
  generalize w1.alloc (.cells (svs l).toArray 73) = w2 at *
  generalize w1.heap.size = g at *
  go_upto_region 4 with fail
  have HC : Hid (∀ W, Below w2.heap.size w2 W → Calls Tryd.prog 21 #[.string s, .int .i64 (a : Int)] W fun e w' => e = .returned (.string (pubB s a)) ∧ Below w2.heap.size w2 w') := fun W hW =>
    (PublicOf_yes s a W hs ha (HT.out.later (H1.out.1.trans (hW.mono H1.out.1.size)))).mono fun e w' ⟨he, hb⟩ => ⟨he, hW.trans (hb.mono hW.size)⟩
  have HCW : Hid (∀ W, Below w2.heap.size w2 W → Calls Tryd.prog 70 #[.agg (svs l).toArray, .int .i64 (a : Int), .string (pubB s a)] W fun e w' => e = .returned (.agg (svs l).toArray) ∧ Below w2.heap.size w2 w') := fun W hW => by
    have h1 := with_any l a (pubB s a) W HL.out (by omega)
    have e : l.set a (pubB s a) = l := by
      have := set_same l a (pubB s a) (by rw [HL.out]; omega)
      rw [decide_eq_true HK.out] at this
      exact (of_decide_eq_true this).symm
    rw [e] at h1
    exact h1.mono fun e w' ⟨he, hb⟩ => ⟨he, hW.trans (hb.mono hW.size)⟩
  have heq : ∀ W, (Op.equalIn 10000 73 (.agg (svs l).toArray) (.agg (svs l).toArray)).run Tryd.prog W = .ok true W := fun W => by
    have := eqT l l HL.out HL.out W
    simpa using this
  have HP : Hid (∀ W, Below w2.heap.size w2 W → W.rangeAt g 0 (svs l)) := fun W hW => (H1.out.2.2.1.later hW).range
  have hu := Tryd.underlying73
  have hi : (Tryd.prog.info? 73).map (·.size) = some (svs l).length := by
    have e : (svs l).length = 16 := by simp [svs, HL.out]
    rw [e]
    exact sizeP
  go_cut [41] from 34 to 41 (fun c wx => c = .bool false ∧ Below w2.heap.size w2 wx)
  case first =>
    generalize pubB s a = K at *
    refine wp_region_held_drew (S := fun W => W.rangeAt g 0 (svs l)) (by kernel_rfl) (HP.out _ (Below.refl _ _).drew) (fun hH => ?_)
    refine wpAnyH_take (i := 0) (v := .agg (svs l).toArray) rfl (by kernel_rfl) (by kernel_rfl) (by kernel_rfl) (fun _ _ _ h => h) (yieldsIf_load_mid (by rfl) _ _ rfl g 0 rfl (svs l) _ (fun w h => h) hu rfl hi) hH ?_
    simp only [Act.put, List.setIfInBounds_toArray, List.set_cons_zero, List.set_cons_succ]
    refine wpAnyH_take (i := 1) (v := .agg (svs l).toArray) rfl (by kernel_rfl) (by kernel_rfl) (by kernel_rfl) (fun _ _ _ h => h) (yieldsIf_load_mid (by rfl) _ _ rfl g 0 rfl (svs l) _ (fun w h => h) hu rfl hi) hH ?_
    simp only [Act.put, List.setIfInBounds_toArray, List.set_cons_zero, List.set_cons_succ]
    refine wpAnyH_take (i := 2) (v := .int .i64 (a : Int)) rfl (by kernel_rfl) (by kernel_rfl) (by kernel_rfl) (fun _ _ _ h => h) (Or.inl ⟨by rfl, fun w hw => by go_simp⟩) hH ?_
    simp only [Act.put, List.setIfInBounds_toArray, List.set_cons_zero, List.set_cons_succ]
    refine wpAnyH_take (i := 3) (v := .string s) rfl (by kernel_rfl) (by kernel_rfl) (by kernel_rfl) (fun _ _ _ h => h) (Or.inl ⟨by rfl, fun w hw => by go_simp⟩) hH ?_
    simp only [Act.put, List.setIfInBounds_toArray, List.set_cons_zero, List.set_cons_succ]
    refine wpAnyH_take (i := 4) (v := .int .i64 (a : Int)) rfl (by kernel_rfl) (by kernel_rfl) (by kernel_rfl) (fun _ _ _ h => h) (Or.inl ⟨by rfl, fun w hw => by go_simp⟩) hH ?_
    simp only [Act.put, List.setIfInBounds_toArray, List.set_cons_zero, List.set_cons_succ]
    refine wpAnyH_ready (rs := [5]) (by kernel_rfl) (by simp) ?_
    refine AllReadyH.cons rfl (fun K' hK' => ?_) AllReadyH.nil
    go_simp
    go_at_call 21
    refine (HC.out _ (Below.refl _ _).drew).mono ?_
    rintro e w3 ⟨rfl, hb3⟩
    go_wp2_with fail
    refine hK'.out _ _ (HP.out _ hb3) (fun hH => ?_)
    clear hK' K'
    try simp only [Act.put, List.setIfInBounds_toArray, List.set_cons_zero, List.set_cons_succ]
    refine wpAnyH_ready (rs := [6]) (by kernel_rfl) (by simp) ?_
    refine AllReadyH.cons rfl (fun K' hK' => ?_) AllReadyH.nil
    go_simp
    go_at_call 70
    refine (HCW.out _ hb3).mono ?_
    rintro e w4 ⟨rfl, hb4⟩
    go_wp2_with fail
    refine hK'.out _ _ (HP.out _ hb4) (fun hH => ?_)
    clear hK' K'
    try simp only [Act.put, List.setIfInBounds_toArray, List.set_cons_zero, List.set_cons_succ]
    refine wpAnyH_ready (rs := [7]) (by kernel_rfl) (by simp) ?_
    refine AllReadyH.cons rfl (fun K' hK' => ?_) AllReadyH.nil
    go_simp
    refine hK'.out _ _ (HP.out _ hb4) (fun hH => ?_)
    clear hK' K'
    try simp only [Act.put, List.setIfInBounds_toArray, List.set_cons_zero, List.set_cons_succ]
    refine wpAnyH_done (by kernel_rfl) ?_ _
    go_wp2_with fail
    go_meet
    exact ⟨rfl, hb4⟩
  case rest =>
    obtain ⟨rfl, hb4⟩ := hcut
    have b4 := H1.out.1.trans (hb4.mono H1.out.1.size)
    have hS4 := H1.out.2.1.later hb4
    have hta4 := H1.out.2.2.1.later hb4
    have hbb := bitsB_lt t
    obtain ⟨b, hbe⟩ : ∃ b, bitsB t = b := ⟨_, rfl⟩
    have HBE : Hid (bitsB t = b) := hbe
    have hcs := SignBitsOf_any t wc (HT.out.later b4)
    rw [hbe] at hbb hcs
    have hcb : IntKind.u8.wrap (b : Int) = (b : Int) := by
      have : IntKind.u8.wrap (b : Int) = (b : Int) % 256 := rfl
      omega
    clear HC HCW heq HP H1 hb4 hbe HK
    go_wp2_with fail
    refine hcs.mono ?_
    rintro e w5 ⟨rfl, hb5⟩
    have b5 := b4.trans (hb5.mono b4.size)
    have hS5 := hS4.later hb5
    have hta5 := hta4.later hb5
    clear hcs b4 hS4 hta4 hb5
    go_wp2_with (first | (refine wp_loadT rfl 73 _ rfl g 73 16 l 9 rfl hta5 HL.out Tryd.underlying73 sizeP ?_) | fail)
    refine (sidesOf_any l a _ HL.out ha HSZ.out (HT.out.later b5)).mono ?_
    rintro e w6 ⟨v3, rfl, hos6⟩
    have hos := OS.up b5 b5.size hos6
    have hS6 := hS5.later hos6.2.1
    have hdl := sdN_len l a 4
    have hlt6 := hS6.lt
    clear hta5 hS5 b5 hos6
    obtain ⟨d, hde⟩ : ∃ d, sdN l a 4 = d := ⟨_, rfl⟩
    have HDE : Hid (sdN l a 4 = d) := hde
    rw [hde] at hos hdl
    clear hde
    rcases hos.shape with ⟨rfl, hz⟩ | ⟨g3, cap3, rfl, hg3, hlt3⟩
    · rw [hz] at hdl
      simp at hdl
    rw [hdl] at hos ⊢
    have HST : Hid (SnR s a b d w w6.heap.size (.int .i64 0) (w6.alloc (.cells #[.int .i64 (a : Int), .slice none 0 0, .slice none 0 0, .slice (some ⟨g3, 0, none⟩) 4 cap3] 37))) := by
      have ho2 := hos.alloc (.cells #[.int .i64 (a : Int), .slice none 0 0, .slice none 0 0, .slice (some ⟨g3, 0, none⟩) 4 cap3] 37)
      have hn2 := OS.nil3 ho2.2.1 ho2.2.2
      exact ⟨0, _, _, _, by omega, rfl, ⟨⟨hn2, hn2, by simp [Value.ownBlock]⟩, ⟨hn2, ho2, by simp [Value.ownBlock]⟩, ⟨hn2, ho2, by simp [Value.ownBlock]⟩⟩, SgM.new _ _ _ _ _, hS6.later ((Below.refl _ _).alloc (Nat.le_refl _) _)⟩
    have HDL : Hid (d.length = 4) := hdl
    clear hos hS6 hdl
    have hpB : w.heap.size ≤ w6.heap.size := by omega
    have hpne : w.heap.size ≠ w6.heap.size := by omega
    go_wp2
    generalize w6.heap.size = p at *
    go_loopw [51] (fun i wr => SnR s a b d w p i wr) (fun i _ => 8 - (intOf i).toNat)
    case atStart => exact HST.out
    case round =>
      obtain ⟨m, v1, v2, v3, hm, rfl, htr, hsg, hs0⟩ := hrel
      clear HST
      by_cases hlt : m < 8
      · have i1 : (m : Int) < 8 := by omega
        have hbit := bitN_lt b m
        have hbw := htr.below
        have HN : Hid (∀ v1 v2 W, TrR w.heap.size w W v1 v2 v3 (opN s a b m ++ [secB s a m (bitN b m)]) (shN s a b m ++ [lockB (secB s a m (1 - bitN b m))]) d → SgM W p a v1 v2 v3 → SgM W w.heap.size 0 (.slice none 0 0) (.slice none 0 0) (.slice none 0 0) → SnR s a b d w p (.int .i64 ((m : Int) + 1)) W) :=
          fun v1 v2 W h1 h2 h3 => ⟨m + 1, v1, v2, v3, by omega, by simp, h1, h2, h3⟩
        have HC1 : Hid (∀ W, Below w.heap.size w W → Calls Tryd.prog 17 #[.string s, .int .i64 (a : Int), .int .i64 (m : Int), .int .i64 (bitN b m : Int)] W fun e w' => e = .returned (.string (secB s a m (bitN b m))) ∧ Below W.heap.size W w') := fun W hW => SecretOf_at s a m (bitN b m) _ _ _ W rfl rfl rfl hs ha (by omega) (by omega) (HT.out.later hW)
        have HC2 : Hid (∀ W, Below w.heap.size w W → Calls Tryd.prog 17 #[.string s, .int .i64 (a : Int), .int .i64 (m : Int), .int .i64 (1 - (bitN b m : Int))] W fun e w' => e = .returned (.string (secB s a m (1 - bitN b m))) ∧ Below W.heap.size W w') := fun W hW => SecretOf_at s a m (1 - bitN b m) _ _ _ W rfl rfl (by omega) hs ha (by omega) (by omega) (HT.out.later hW)
        have HC3 : Hid (∀ W, Below w.heap.size w W → Calls Tryd.prog 19 #[.string (secB s a m (1 - bitN b m))] W fun e w' => e = .returned (.string (lockB (secB s a m (1 - bitN b m)))) ∧ Below W.heap.size W w') := fun W hW => LockOf_any _ W (HT.out.later hW)
        have hol := opN_len s a b m
        have hsl := shN_len s a b m
        go_wp2_with fail
        refine (val_any b m _ _ hbb rfl (by omega)).mono ?_
        rintro e w7 ⟨rfl, rfl⟩
        generalize secB s a m (bitN b m) = K1 at *
        generalize lockB (secB s a m (1 - bitN b m)) = K3 at *
        generalize secB s a m (1 - bitN b m) = K2 at *
        generalize opN s a b m = O at *
        generalize shN s a b m = S at *
        generalize bitN b m = c at *
        have hwc : IntKind.i64.wrap (1 - (c : Int)) = 1 - (c : Int) := IntWalk.i64_in _ (by omega)
        go_wp2
        have c1 := hsg.c1
        have c2 := hsg.c2
        have HA1 : Hid (∀ W, Below w7.heap.size w7 W → TrR w.heap.size w (W.alloc (.cells #[.string K1] 9)) v1 v2 v3 O S d ∧ SgM (W.alloc (.cells #[.string K1] 9)) p a v1 v2 v3 ∧ SgM (W.alloc (.cells #[.string K1] 9)) w.heap.size 0 (.slice none 0 0) (.slice none 0 0) (.slice none 0 0) ∧ W.cell? ⟨p, 1, none⟩ = some v1) := fun W hW => by
          have hA : Below W.heap.size W (W.alloc (.cells #[.string K1] 9)) := (Below.refl _ _).alloc (Nat.le_refl _) _
          exact ⟨(htr.later hW).later hA, (hsg.later hW).later hA, (hs0.later hW).later hA, (hsg.later hW).c1⟩
        clear htr hsg hs0 c2
        go_region_law ((first
          | (refine step_tr rfl _ _ rfl w.heap.size w v1 v2 v3 O S d K1 (by rfl) (HA1.out _ hb8).1 _ (by rfl) (one_text _ _ _) (by omega) (m + 1) (by omega) ?_; intro g8 cap8 w9 htr9 hgr9; have hsg9 := (HA1.out _ hb8).2.1.keptO (HA1.out _ hb8).1.1.1 hgr9; have hs09 := (HA1.out _ hb8).2.2.1.keptO (HA1.out _ hb8).1.1.1 hgr9; have e1 := hsg9.c1; have f1 := hsg9.fr 1)
          | (go_simp; go_at_call 17; refine (HC1.out _ hbw.drew).mono ?_; rintro e w8 ⟨rfl, hb8x⟩; have hb8 : Below w7.heap.size w7 w8 := (Below.refl _ _).drew.trans hb8x; have d1 := (HA1.out _ hb8).2.2.2; have d2 := (HA1.out _ hb8).2.1.c1)))
        all_goals
          have htr10 := htr9.set hsg9 hpB 1 (.slice (some ⟨g8, 0, none⟩) (m + 1) cap8)
          have hsg10 := hsg9.set1 (.slice (some ⟨g8, 0, none⟩) (m + 1) cap8)
          have hs010 := hs09.keep (heap_setCell_other w9 ⟨p, 1, none⟩ w.heap.size (.slice (some ⟨g8, 0, none⟩) (m + 1) cap8) hpne)
          clear htr9 hsg9 hs09 hgr9 e1 f1 d1 d2 c1 hb8 hb8x HA1 HC1
          go_wp2
          generalize w9.setCell ⟨p, 1, none⟩ (.slice (some ⟨g8, 0, none⟩) (m + 1) cap8) = w10 at *
          have hbw10 := htr10.below
          have c2 := hsg10.c2
          have HA2 : Hid (∀ W, Below w10.heap.size w10 W → Below w.heap.size w W ∧ TrR w.heap.size w (W.alloc (.cells #[.string K3] 9)) v2 v3 (.slice (some ⟨g8, 0, none⟩) (m + 1) cap8) S d (O ++ [K1]) ∧ SgM (W.alloc (.cells #[.string K3] 9)) p a (.slice (some ⟨g8, 0, none⟩) (m + 1) cap8) v2 v3 ∧ SgM (W.alloc (.cells #[.string K3] 9)) w.heap.size 0 (.slice none 0 0) (.slice none 0 0) (.slice none 0 0) ∧ W.cell? ⟨p, 2, none⟩ = some v2) := fun W hW => by
            have hA : Below W.heap.size W (W.alloc (.cells #[.string K3] 9)) := (Below.refl _ _).alloc (Nat.le_refl _) _
            exact ⟨hbw10.trans (hW.mono htr10.1.1.2.2), ((htr10.later hW).later hA).rot, (hsg10.later hW).later hA, (hs010.later hW).later hA, (hsg10.later hW).c2⟩
          clear htr10 hsg10 hs010
          go_region_law ((first
            | (refine step_tr rfl _ _ rfl w.heap.size w v2 v3 _ S d (O ++ [K1]) K3 (by rfl) (HA2.out _ hb12).2.1 _ (by rfl) (one_text _ _ _) (by omega) (m + 1) (by omega) ?_; intro g13 cap13 w13 htr13 hgr13; have hsg13 := (HA2.out _ hb12).2.2.1.keptO (HA2.out _ hb12).2.1.1.1 hgr13; have hs013 := (HA2.out _ hb12).2.2.2.1.keptO (HA2.out _ hb12).2.1.1.1 hgr13; have e1 := hsg13.c2; have f1 := hsg13.fr 2)
            | (go_simp; go_at_call 17; refine (HC2.out _ hbw10.drew).mono ?_; rintro e w11 ⟨rfl, hb11x⟩; have hb11 : Below w10.heap.size w10 w11 := (Below.refl _ _).drew.trans hb11x; have d1 := (HA2.out _ hb11).2.2.2.2)
            | (go_simp; go_at_call 19; refine (HC3.out _ (HA2.out _ hb11).1).mono ?_; rintro e w12 ⟨rfl, hb12x⟩; have hb12 : Below w10.heap.size w10 w12 := hb11.trans (hb12x.mono hb11.size); have d2 := (HA2.out _ hb12).2.2.2.2; have d3 := (HA2.out _ hb12).2.2.1.c2)))
          all_goals
            have HF : Hid _ := HN.out _ _ _ ((htr13.set hsg13 hpB 2 (.slice (some ⟨g13, 0, none⟩) (m + 1) cap13)).rot.rot) (hsg13.set2 (.slice (some ⟨g13, 0, none⟩) (m + 1) cap13)) (hs013.keep (heap_setCell_other w13 ⟨p, 2, none⟩ w.heap.size (.slice (some ⟨g13, 0, none⟩) (m + 1) cap13) hpne))
            clear htr13 hsg13 hs013 hgr13 e1 f1 d1 d2 d3 c2 hb11 hb11x hb12 hb12x HA2
            go_wp2
            go_roundw
            case rel => exact HF.out
            case measure => simp [intOf]; omega
      · have hme : m = 8 := by omega
        subst hme
        have l1 := opN_len s a b 8
        have l2 := shN_len s a b 8
        have hfs := htr.sig a (by omega) (by omega) (by rw [HDL.out]; omega)
        have HFS : Hid (SigIn (wr.setRow w.heap.size #[.int .i64 (a : Int), v1, v2, v3]) w.heap.size (.agg #[.int .i64 (a : Int), v1, v2, v3]) a (opN s a b 8) (shN s a b 8) d) := ((htr.setR hs0 (Nat.le_refl _) _).sig a (by omega) (by omega) (by rw [HDL.out]; omega)).1
        have HBW : Hid (Below w.heap.size w wr) := htr.below
        obtain ⟨_, o1, o2, o3⟩ := hfs
        clear htr l1 l2
        go_wp2_with (first | (refine wp_loadSig rfl _ rfl p a v1 v2 v3 rfl hsg ?_) | (refine wp_storeSig rfl _ _ rfl w.heap.size 0 a _ _ _ v1 v2 v3 hs0 rfl rfl o1 o2 o3 ?_; intro hfin))
        refine ret_sig2 8 9 w.heap.size a v1 v2 v3 _ rfl rfl rfl rfl hfin ?_
        exact ⟨_, rfl, by rw [HBE.out, HDE.out]; exact HFS.out, below_setRow HBW.out (Nat.le_refl _)⟩

end Go.Proofs.YthkknckpippjhaaDoor
