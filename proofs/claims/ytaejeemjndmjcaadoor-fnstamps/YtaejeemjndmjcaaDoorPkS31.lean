/-
  Texts laid together: Sgw, Sgv.
-/
import Derived.Test.YtaejeemjndmjcaaDoorPkS30
import Derived.Test.YtaejeemjndmjcaaDoorPkS24
import Derived.Test.YtaejeemjndmjcaaDoorPkS17
import Derived.ChangeKeysEq
import Derived.Laws.StructEq
/-
  What 'with' of a pool and sidesInRow answer.
-/
namespace Go.Proofs.YtaejeemjndmjcaaDoor
open Go.RowKit Go.BigFrame
set_option linter.unusedVariables false
set_option linter.unusedSimpArgs false

/-- an array of texts, answered -/
theorem ret_arr1 {fn : Func} {Rp : Ending → World → Prop} {a : Act} {w : World} (c g t n : Nat) (ty e : TypeId) (l : List ByteArray) (hres : fn.results = #[.cell c ty]) (hd : a.defers = []) (hp : a.tmps.getD c undef = .pointer (some ⟨g, 0, none⟩))
    (hA : TA w g t l) (hl : l.length = n) (hu : Tryd.prog.underlying ty = some (.array n e)) (hi : (Tryd.prog.info? ty).map (·.size) = some n) (h : Rp (.returned (.agg (svs l).toArray)) w) : bodyPost Tryd.prog fn Rp .ret a w := by
  have hr := run_loadVar_row (P := Tryd.prog) w g t ty _ (0, 0) _ hA hu rfl (by rw [svs_size, hl]; exact hi)
  refine bodyPost_ret (v := .agg (svs l).toArray) ?_ hd h
  have hp' : a.tmps[c]?.getD undef = .pointer (some ⟨g, 0, none⟩) := by simpa using hp
  simp [results, hres, asAddr, hr, hp']

set_option maxRecDepth 100000 in
set_option maxHeartbeats 1000000 in
theorem with_any (l : List ByteArray) (k : Nat) (x : ByteArray) (w : World) (hl : l.length = 16) (hk : k < 16) :
    Calls Tryd.prog 83 #[.agg (svs l).toArray, .int .i64 k, .string x] w fun e w' => e = .returned (.agg (svs (l.set k x)).toArray) ∧ Below w.heap.size w w' := by
  have HL : Hid (l.length = 16) := hl
  have hta := TA.new w l 106
  have hbA : Below w.heap.size w (w.alloc (.cells (svs l).toArray 106)) := (Below.refl _ _).alloc (Nat.le_refl _) _
  have hsz : (w.alloc (.cells (svs l).toArray 106)).heap.size = w.heap.size + 1 := by simp
  have hta2 : TA ((w.alloc (.cells (svs l).toArray 106)).alloc (.cells (zT 16) 106)) w.heap.size 106 l := hta.later ((Below.refl _ _).alloc (Nat.le_refl _) _)
  have hz2 : TA ((w.alloc (.cells (svs l).toArray 106)).alloc (.cells (zT 16) 106)) (w.heap.size + 1) 106 (List.replicate 16 ByteArray.empty) := by
    have := TA.new (w.alloc (.cells (svs l).toArray 106)) (List.replicate 16 ByteArray.empty) 106
    rw [hsz] at this
    exact this
  have hb2 : Below w.heap.size w ((w.alloc (.cells (svs l).toArray 106)).alloc (.cells (zT 16) 106)) := hbA.alloc (by rw [hsz]; omega) _
  have c0 := hta2.cell k (by omega)
  have f0 := hta2.frozen k
  have i1 : (k : Int) < 16 := by omega
  have i2 : (0 : Int) ≤ (k : Int) := by omega
  have hse : svs (l.set k x) = (svs l).set k (.string x) := by simp [svs, List.map_set]
  have hbA2 : Below w.heap.size w (w.alloc (.cells ((svs l).set k (.string x)).toArray 106)) := (Below.refl _ _).alloc (Nat.le_refl _) _
  have hsz2 : (w.alloc (.cells ((svs l).set k (.string x)).toArray 106)).heap.size = w.heap.size + 1 := by simp
  have HS : Hid (TA ((w.alloc (.cells ((svs l).set k (.string x)).toArray 106)).alloc (.cells (zT 16) 106)) w.heap.size 106 (l.set k x)) := by
    have h1 := TA.new w (l.set k x) 106
    rw [hse] at h1
    exact h1.later ((Below.refl _ _).alloc (Nat.le_refl _) _)
  have HZ : Hid (TA ((w.alloc (.cells ((svs l).set k (.string x)).toArray 106)).alloc (.cells (zT 16) 106)) (w.heap.size + 1) 106 (List.replicate 16 ByteArray.empty)) := by
    have := TA.new (w.alloc (.cells ((svs l).set k (.string x)).toArray 106)) (List.replicate 16 ByteArray.empty) 106
    rw [hsz2] at this
    exact this
  have HB : Hid (Below w.heap.size w ((w.alloc (.cells ((svs l).set k (.string x)).toArray 106)).alloc (.cells (zT 16) 106))) := hbA2.alloc (by rw [hsz2]; omega) _
  generalize l[k]'(by omega) = Y at *
  clear hta hta2 hz2 hb2 hbA hsz hl hse hbA2 hsz2
  go_enter Tryd.func83, Tryd.ntmps83
  go_wp2_with (first | (refine wp_allocT rfl 106 16 rfl zeroP ?_) | (refine wp_loadT rfl 106 _ rfl w.heap.size 106 16 (l.set k x) 9 rfl HS.out (by rw [List.length_set]; exact HL.out) Tryd.underlying106 sizePT ?_) | (refine wp_storeT rfl 106 _ _ rfl (w.heap.size + 1) 106 16 (List.replicate 16 ByteArray.empty) (l.set k x) HZ.out (by simp) (by rw [List.length_set]; exact HL.out) rfl rfl sizePT ?_; intro hfin))
  refine ret_arr1 6 (w.heap.size + 1) 106 16 106 9 (l.set k x) rfl rfl rfl hfin (by rw [List.length_set]; exact HL.out) Tryd.underlying106 sizePT ?_
  exact ⟨rfl, below_setRow HB.out (by omega)⟩

/-- the sides of a place -/
def sdN (l : List ByteArray) (a : Nat) : Nat → List ByteArray
  | 0 => []
  | m + 1 => sdN l a m ++ [gB (upN l m) ((a / 2 ^ m) ^^^ 1)]
theorem sdN_len (l : List ByteArray) (a m : Nat) : (sdN l a m).length = m := by
  induction m with
  | zero => rfl
  | succ m ih => simp [sdN, ih]
theorem SS.keptG {w w' : World} {v : Value} {g o : Nat} {row : Option Nat} {l : List ByteArray} (h : SS w v g o l) (hg : w.grownBy w' row) (hne : some g ≠ row) : SS w' v g o l := by
  obtain ⟨a, cap, hv, hl, hA, hc⟩ := h
  refine ⟨a, cap, hv, hl, hA, fun j hj => ?_⟩
  have h1 := hc j hj
  have hlt : g < w.heap.size := by
    by_cases hx : g < w.heap.size
    · exact hx
    · have : w.heap[g]? = none := Array.getElem?_eq_none (by omega)
      simp [World.cell?, this] at h1
  exact (World.cell?_of_block (w := w) (w' := w') (a := ⟨g, o + j, none⟩) (hg.block g hlt hne)).trans h1
theorem hashB_small (k : Int) (l : List ByteArray) : (hashB k l 16).size ≤ 1048576 := by
  by_cases h : tagOk k l = true
  · rw [hashB_size h]; omega
  · unfold hashB; rw [if_neg h]; simp [ByteArray.size]
theorem upN_small (l : List ByteArray) (hs : ∀ j, (gB l j).size ≤ 1048576) : ∀ m j, (gB (upN l m) j).size ≤ 1048576
  | 0, j => hs j
  | m + 1, j => by
    by_cases h : j < (upN l (m + 1)).length
    · have e : upN l (m + 1) = upL (upN l m) := rfl
      rw [e] at h ⊢
      rw [← gB_eq _ _ h, upL_at]
      exact hashB_small _ _
    · unfold gB
      rw [List.getD_eq_getElem?_getD, List.getElem?_eq_none (by omega)]
      simp
theorem xor_i (q : Nat) (h : q ≤ 15) : bits BinOp.xor IntKind.i64 (q : Int) 1 = ((q ^^^ 1 : Nat) : Int) := by
  have : ∀ q : Fin 16, bits BinOp.xor IntKind.i64 ((q.val : Nat) : Int) 1 = ((q.val ^^^ 1 : Nat) : Int) := by decide
  exact this ⟨q, by omega⟩
theorem xor1 (q : Nat) (h : q ≤ 15) : q ^^^ 1 ≤ 15 ∧ (∀ n, n % 2 = 0 → q < n → q ^^^ 1 < n) := by
  have e : q ^^^ 1 = if q % 2 = 0 then q + 1 else q - 1 := by
    have : ∀ q : Fin 16, q.val ^^^ 1 = if q.val % 2 = 0 then q.val + 1 else q.val - 1 := by decide
    exact this ⟨q, by omega⟩
  rw [e]
  constructor
  · split <;> omega
  · intro n hn hq
    split <;> omega

/-- what each round of sidesInRow holds -/
def SdR (l : List ByteArray) (a : Nat) (w : World) (r p v : Value) (wr : World) : Prop :=
  ∃ m : Nat, m ≤ 4 ∧ p = .int .i64 (a / 2 ^ m : Nat) ∧ OS w.heap.size w wr v (sdN l a m) ∧ ∃ g o, SS wr r g o (upN l m) ∧ some g ≠ v.ownBlock

set_option maxRecDepth 100000 in
set_option maxHeartbeats 2000000 in
theorem sidesInRow_16 (v : Value) (ga oa : Nat) (l : List ByteArray) (a : Nat) (w : World) (hv : SS w v ga oa l) (hl : l.length = 16) (ha : a ≤ 15) (hs : ∀ j, (gB l j).size ≤ 1048576) (hT : Tb w) :
    Calls Tryd.prog 86 #[v, .int .i64 a, .int .i64 16] w fun e w' => ∃ u, e = .returned u ∧ OS w.heap.size w w' u (sdN l a 4) := by
  have HL : Hid (l.length = 16) := hl
  have HT : Hid (Tb w) := hT
  have HSZ : Hid (∀ m j, (gB (upN l m) j).size ≤ 1048576) := upN_small l hs
  have hga := hv.lt (by omega)
  have HST : Hid (SdR l a w v (.int .i64 (a : Int)) (.slice (some ⟨w.heap.size, 0, none⟩) 0 0) (w.alloc (.cells #[] 9))) :=
    ⟨0, by omega, by simp, OS.made w, ga, oa, hv.below ((Below.refl _ _).alloc (Nat.le_refl _) _) hv.lt, by simp [Value.ownBlock]; omega⟩
  clear hv hl hs hT hga
  go_enter Tryd.func86, Tryd.ntmps86
  go_wp2
  go_loopw [0, 1, 7] (fun r p v wr => SdR l a w r p v wr) (fun r _ _ _ => lenOf r)
  case atStart => exact HST.out
  case round =>
    obtain ⟨m, hm, rfl, hos, g, o, hss, hne⟩ := hrel
    clear HST
    have hpw := upN_pow l HL.out m hm
    by_cases hlt : m < 4
    · have hq15 : a / 2 ^ m ≤ 15 := Nat.le_trans (Nat.div_le_self _ _) ha
      have hqn : a / 2 ^ m < 16 / 2 ^ m := by
        have h0 : m = 0 ∨ m = 1 ∨ m = 2 ∨ m = 3 := by omega
        rcases h0 with rfl | rfl | rfl | rfl <;> simp <;> omega
      have hn16 : 16 / 2 ^ m ≤ 16 ∧ (16 / 2 ^ m) % 2 = 0 ∧ 1 < 16 / 2 ^ m := by
        have h0 : m = 0 ∨ m = 1 ∨ m = 2 ∨ m = 3 := by omega
        rcases h0 with rfl | rfl | rfl | rfl <;> simp
      have hxl := (xor1 _ hq15).2 _ hn16.2.1 hqn
      have hsm := HSZ.out m ((a / 2 ^ m) ^^^ 1)
      obtain ⟨ad, cap, rfl, _, hA, hcell⟩ := id hss
      have ea := hA (by rw [hpw]; omega)
      subst ea
      have c0 : wr.cell? ⟨g, o + ((a / 2 ^ m) ^^^ 1), none⟩ = some (.string (gB (upN l m) ((a / 2 ^ m) ^^^ 1))) := by
        have := hcell ((a / 2 ^ m) ^^^ 1) (by rw [hpw]; exact hxl)
        rw [gB_eq] at this
        exact this
      have hq2 : a / 2 ^ (m + 1) = a / 2 ^ m / 2 := by rw [Nat.pow_succ, Nat.div_div_eq_div_mul]
      have hlen := sdN_len l a m
      have HRA : Hid (∀ W, SS W (.slice (some ⟨g, o, none⟩) (16 / 2 ^ m) cap) g o (upN l m) → Tb W → Calls Tryd.prog 103 #[.slice (some ⟨g, o, none⟩) (16 / 2 ^ m) cap, .int .i64 16] W fun e w' => ∃ g2, e = .returned (.slice (some ⟨g2, 0, none⟩) (16 / 2 ^ m / 2) (16 / 2 ^ m / 2)) ∧ W.heap.size ≤ g2 ∧ SS w' (.slice (some ⟨g2, 0, none⟩) (16 / 2 ^ m / 2) (16 / 2 ^ m / 2)) g2 0 (upN l (m + 1)) ∧ Below W.heap.size W w') := fun W hW hTW => by
        have := rowAbove_any _ g o (upN l m) W hW (by rw [hpw]; omega) hTW
        rw [hpw] at this
        refine this.mono ?_
        rintro e w' ⟨g2, he, hg2, htb, hb⟩
        exact ⟨g2, he, hg2, htb.ss _ _ (by rw [upL_len, hpw]) (by omega), hb⟩
      have HN : Hid (∀ v W g2, OS w.heap.size w W v (sdN l a m ++ [gB (upN l m) ((a / 2 ^ m) ^^^ 1)]) → SS W (.slice (some ⟨g2, 0, none⟩) (16 / 2 ^ m / 2) (16 / 2 ^ m / 2)) g2 0 (upN l (m + 1)) → some g2 ≠ v.ownBlock → SdR l a w (.slice (some ⟨g2, 0, none⟩) (16 / 2 ^ m / 2) (16 / 2 ^ m / 2)) (.int .i64 ((a / 2 ^ m / 2 : Nat) : Int)) v W) :=
        fun v W g2 h1 h2 h3 => ⟨m + 1, by omega, by rw [hq2], h1, g2, 0, h2, h3⟩
      rw [hpw] at hss ⊢
      have HSS : Hid (SS wr (.slice (some ⟨g, o, none⟩) (16 / 2 ^ m) cap) g o (upN l m)) := hss
      clear hss hpw hq2 HSZ hcell hA
      generalize gB (upN l m) ((a / 2 ^ m) ^^^ 1) = X at *
      generalize sdN l a m = S at *
      generalize a / 2 ^ m = q at *
      generalize 16 / 2 ^ m = n at *
      have i3 := xor_i q hq15
      generalize q ^^^ 1 = y at *
      obtain ⟨hn1, hn2, hn3⟩ := hn16
      have i1 : (1 : Int) < (n : Int) := by omega
      have i4 : (y : Int) < (n : Int) := by omega
      have i5 : (0 : Int) ≤ (y : Int) := by omega
      go_wp2_with fail
      refine (Clone_any X _ hsm).mono ?_
      rintro e w1 ⟨rfl, hb1⟩
      have hos1 := hos.later hb1
      have hss1 := HSS.out.below hb1 HSS.out.lt
      clear hos hb1 c0 HSS
      go_wp2_with (at_builtin; refine wp_appSG rfl _ _ rfl w.heap.size w _ S rfl (hos1.alloc _) ⟨w1.heap.size, 0, none⟩ X rfl ?c1 ?c2 ?_)
      case c1 => exact one_text _ _ _
      case c2 => omega
      intro v2 w2 hos2 hgr
      have hss2 := (hss1.below ((Below.refl _ _).alloc (Nat.le_refl _) _) hss1.lt).keptG hgr hne
      have hT2 := HT.out.later hos2.2.1
      clear hss1 hgr hos1 hne
      go_wp2_with fail
      refine (HRA.out _ hss2 hT2).mono ?_
      rintro e w3 ⟨g2, rfl, hg2, hss3, hb3⟩
      have hos3 := hos2.later hb3
      have hne3 : some g2 ≠ v2.ownBlock := fun he => by have := (hos2.1.lt g2 he.symm).2; omega
      clear hos2 hb3 hss2 HRA
      go_wp2
      go_roundw
      case rel => exact HN.out _ _ _ hos3 hss3 hne3
      case measure => simp [lenOf]; omega
    · have hme : m = 4 := by omega
      subst hme
      have hpw1 : (upN l 4).length = 1 := hpw
      obtain ⟨ad, cap, rfl, _, _, _⟩ := hss
      rw [hpw1]
      have HF : Hid (OS w.heap.size w wr u7 (sdN l a 4)) := hos
      clear hos
      go_wp2
      go_ret
      exact ⟨_, rfl, HF.out⟩

end Go.Proofs.YtaejeemjndmjcaaDoor
/-
  Three rows of texts that grow; two arrays of texts compared; the keys that a signature opens and shuts.
-/
namespace Go.Proofs.YtaejeemjndmjcaaDoor
open Go.RowKit Go.BigFrame
set_option linter.unusedVariables false
set_option linter.unusedSimpArgs false

theorem part_T (l : List ByteArray) (i : Nat) (h : i < l.length) (W : World) : (Go.part 9 (svs l).toArray (i * 1)).run Tryd.prog W = .ok (.string (gB l i)) W := by
  rw [← gB_eq l i h]
  simp [Go.part, isAgg, run_underlying Tryd.underlying9, svs, h]
theorem eqItems_T (d : Nat) (l r : List ByteArray) (W : World) : ∀ (is : List Nat), (∀ i ∈ is, i < l.length ∧ i < r.length) →
    (Op.eqItems (d + 1) 9 1 (svs l).toArray (svs r).toArray is).run Tryd.prog W = .ok (is.all fun i => decide (gB l i = gB r i)) W
  | [], _ => by simp [Op.eqItems]
  | i :: is, h => by
    have hi := h i (by simp)
    have ih := eqItems_T d l r W is (fun j hj => h j (by simp [hj]))
    have he := run_equalIn_string (P := Tryd.prog) W d 9 (gB l i) (gB r i) Tryd.underlying9
    have hb : ((gB l i).toList == (gB r i).toList) = decide (gB l i = gB r i) := by
      rw [Bool.eq_iff_iff, beq_iff_eq, decide_eq_true_eq, ByteArray.toList_eq, ByteArray.toList_eq]
      exact ⟨fun h => ByteArray.ext (Array.toList_inj.1 h), fun h => by rw [h]⟩
    rw [hb] at he
    simp only [Op.eqItems, Sem.run_bind, part_T l i hi.1 W, part_T r i hi.2 W, he, Result.andThen_ok, List.all_cons]
    cases hd : decide (gB l i = gB r i)
    · simp
    · simpa using ih
theorem same_all (l r : List ByteArray) (h : l.length = r.length) : ((List.range l.length).all fun i => decide (gB l i = gB r i)) = decide (l = r) := by
  rw [Bool.eq_iff_iff]
  simp only [List.all_eq_true, List.mem_range, decide_eq_true_eq]
  constructor
  · intro hh
    refine List.ext_getElem h fun i h1 h2 => ?_
    rw [gB_eq, gB_eq]
    exact hh i h1
  · rintro rfl i _
    rfl
/-- two pools compared -/
theorem eqT (l r : List ByteArray) (hl : l.length = 16) (hr : r.length = 16) (W : World) : (Op.equalIn 10000 106 (.agg (svs l).toArray) (.agg (svs r).toArray)).run Tryd.prog W = .ok (decide (l = r)) W := by
  obtain ⟨i0, hi, hz0, hz1, hz2⟩ := info_parts Tryd.info9
  have hc : Tryd.prog.cellsOf 9 = 1 := by kernel_rfl
  rw [show (10000 : Nat) = 9999 + 1 from rfl, run_equalIn_array W 9999 (svs l).toArray (svs r).toArray Tryd.underlying106 hi, hc, show (9999 : Nat) = 9998 + 1 from rfl, eqItems_T 9998 l r W _ (fun i h => by simp at h; omega), ← same_all l r (by omega), hl]
theorem set_same (l : List ByteArray) (k : Nat) (x : ByteArray) (hk : k < l.length) : decide (l = l.set k x) = decide (gB l k = x) := by
  rw [Bool.eq_iff_iff]
  simp only [decide_eq_true_eq]
  rw [← gB_eq l k hk]
  constructor
  · intro h
    have h2 : l[k]? = (l.set k x)[k]? := by rw [← h]
    rw [List.getElem?_eq_getElem hk, List.getElem?_set_self hk] at h2
    simpa using h2
  · intro h
    rw [← h, List.set_getElem_self]

/-- three rows of texts, each with memory of its own -/
def TrR (B : Nat) (w0 w : World) (u v s : Value) (l r q : List ByteArray) : Prop := TwR B w0 w u v l r ∧ TwR B w0 w u s l q ∧ TwR B w0 w v s r q
theorem TrR.later {B : Nat} {w0 w w' : World} {u v s : Value} {l r q : List ByteArray} (h : TrR B w0 w u v s l r q) (hb : Below w.heap.size w w') : TrR B w0 w' u v s l r q := ⟨h.1.later hb, h.2.1.later hb, h.2.2.later hb⟩
theorem TrR.rot {B : Nat} {w0 w : World} {u v s : Value} {l r q : List ByteArray} (h : TrR B w0 w u v s l r q) : TrR B w0 w v s u r q l := ⟨h.2.2, h.1.swap, h.2.1.swap⟩
theorem TrR.below {B : Nat} {w0 w : World} {u v s : Value} {l r q : List ByteArray} (h : TrR B w0 w u v s l r q) : Below B w0 w := h.1.1.2.1
theorem TwR.kept {B : Nat} {w0 w w' : World} {u v : Value} {l r : List ByteArray} {row : Option Nat} (h : TwR B w0 w u v l r) (hg : w.grownBy w' row) (hB : ∀ k, row = some k → B ≤ k) (h1 : u.ownBlock = none ∨ u.ownBlock ≠ row) (h2 : v.ownBlock = none ∨ v.ownBlock ≠ row) : TwR B w0 w' u v l r :=
  ⟨h.1.kept hg hB h1, h.2.1.kept hg hB h2, h.2.2⟩
theorem OS.neS {B g : Nat} {w0 w : World} {v v1 v2 v3 : Value} {x : Int} {r : List ByteArray} (ho : OS B w0 w v r) (h : SgM w g x v1 v2 v3) : v.ownBlock = none ∨ v.ownBlock ≠ some g := by
  rcases ho.1.2 with ⟨rfl, _⟩ | ⟨g', cap, cur, rfl, _, hg', _⟩
  · exact .inl rfl
  · refine .inr fun he => ?_
    simp [Value.ownBlock] at he
    subst he
    unfold SgM at h
    rw [h] at hg'
    simp at hg'
theorem TrR.set {B : Nat} {w0 w : World} {u v s v1 v2 v3 : Value} {l r q : List ByteArray} {p : Nat} {x : Int} (h : TrR B w0 w u v s l r q) (hs : SgM w p x v1 v2 v3) (hB : B ≤ p) (j : Nat) (y : Value) : TrR B w0 (w.setCell ⟨p, j, none⟩ y) u v s l r q := by
  have hg := grown_set w p j y
  have hb : ∀ k, some p = some k → B ≤ k := fun k hk => by simp at hk; omega
  have n1 := h.1.1.neS hs
  have n2 := h.1.2.1.neS hs
  have n3 := h.2.1.2.1.neS hs
  exact ⟨h.1.kept hg hb n1 n2, h.2.1.kept hg hb n1 n3, h.2.2.kept hg hb n2 n3⟩
theorem row_ne {u v : Value} (h : ∀ g, u.ownBlock = some g → v.ownBlock ≠ some g) : v.ownBlock = none ∨ v.ownBlock ≠ u.ownBlock := by
  cases hv : v.ownBlock with
  | none => exact .inl rfl
  | some k => exact .inr fun e => h k e.symm hv

/-- one text appended to the first of three rows, in a region that draws -/
theorem step_tr {w : World} {ops : Array Oper} {o : Oper} {a : Act} {K : Act → World → Prop} {Q : Exit → Act → World → Prop} {E : Prop} (hgd : o.guard = none) (s x : Operand)
    (ho : o.op = .call { callee := .builtin .append, args := #[s, x], argTypes := #[26, 26] })
    (B : Nat) (w0 : World) (u v y : Value) (l r q : List ByteArray) (t : ByteArray) (hs : a.eval s = u) (h : TrR B w0 w u v y l r q) (p : Nat) (hx : a.eval x = .slice (some ⟨p, 0, none⟩) 1 1)
    (hnews : w.cell? ⟨p, 0, none⟩ = some (.string t)) (hlen : l.length + 1 ≤ 1000000) (n : Nat) (hn : l.length + 1 = n)
    (hk : ∀ g cap w', TrR B w0 w' (.slice (some ⟨g, 0, none⟩) n cap) v y (l ++ [t]) r q → w.grownBy w' u.ownBlock → K (a.put o.dst (.slice (some ⟨g, 0, none⟩) n cap)) w') : if Region.wanted o (yielded ops a.tmps) = true then Oper.wp Tryd.prog o a w K Q else E := by
  subst hn
  obtain ⟨i0, hi, hz0, hz1, hz2⟩ := info_parts Tryd.info9
  refine step_append_lies w hgd s x 26 ho B 9 i0 (.string ByteArray.empty) 1 16 Tryd.underlying26 hi hz0 hz1 hz2 rfl (by decide) u l.length (svs l) hs h.1.1.1 ⟨p, 0, none⟩ 1 1 (svs [t]) hx (by simp [svs]) ?_
    (fun u hu => by simp [svs] at hu; subst hu; rfl) (by omega) (by unfold maxLen; omega) (by omega) h.1.1.2.2 w.heap.size rfl ?_
  · intro j u hj
    match j, hj with
    | 0, hj =>
      simp [svs] at hj
      subst hj
      have : (⟨p, 0, none⟩ : Addr).add 0 = ⟨p, 0, none⟩ := by unfold Addr.add; split <;> simp_all
      rw [this]
      exact hnews
  · intro g cap w' h1 h2 h3 _
    have hB : ∀ k, u.ownBlock = some k → B ≤ k := fun k hk => (h.1.1.1.lt k hk).1
    exact hk _ _ _ ⟨h.1.grow rfl h1 h2 h3, h.2.1.grow rfl h1 h2 h3, h.2.2.kept h2 hB (row_ne h.1.2.2) (row_ne h.2.1.2.2)⟩ h2

/-- the keys that are opened, and the locks of those that are not -/
def opN (s : ByteArray) (a b : Nat) : Nat → List ByteArray
  | 0 => []
  | m + 1 => opN s a b m ++ [secB s a m (bitN b m)]
def shN (s : ByteArray) (a b : Nat) : Nat → List ByteArray
  | 0 => []
  | m + 1 => shN s a b m ++ [lockB (secB s a m (1 - bitN b m))]
theorem opN_len (s : ByteArray) (a b m : Nat) : (opN s a b m).length = m := by
  induction m with
  | zero => rfl
  | succ m ih => simp [opN, ih]
theorem shN_len (s : ByteArray) (a b m : Nat) : (shN s a b m).length = m := by
  induction m with
  | zero => rfl
  | succ m ih => simp [shN, ih]
/-- what each round of SignText holds -/
def SnR (s : ByteArray) (a b : Nat) (d : List ByteArray) (w : World) (p : Nat) (i : Value) (wr : World) : Prop :=
  ∃ (m : Nat) (v1 v2 v3 : Value), m ≤ 8 ∧ i = .int .i64 m ∧ TrR w.heap.size w wr v1 v2 v3 (opN s a b m) (shN s a b m) d ∧ SgM wr p a v1 v2 v3 ∧ SgM wr w.heap.size 0 (.slice none 0 0) (.slice none 0 0) (.slice none 0 0)
theorem OS.out {B : Nat} {w0 w : World} {v : Value} {l : List ByteArray} (h : OS B w0 w v l) (hl : 0 < l.length) (hm : l.length ≤ 1100000) : ∃ g, v.ownBlock = some g ∧ TS w v g l ∧ B ≤ g ∧ v.oneCell' = true := by
  rcases h.shape with ⟨_, rfl⟩ | ⟨g, cap, rfl, hB, _⟩
  · simp at hl
  · exact ⟨g, rfl, h.tb.ts _ _ rfl hm, hB, rfl⟩
theorem TrR.sig {B : Nat} {w0 w : World} {u v s : Value} {l r q : List ByteArray} (h : TrR B w0 w u v s l r q) (a : Int) (h1 : 0 < l.length ∧ l.length ≤ 100) (h2 : 0 < r.length ∧ r.length ≤ 100) (h3 : 0 < q.length ∧ q.length ≤ 100) : SigIn w B (.agg #[.int .i64 a, u, v, s]) a l r q ∧ u.oneCell' = true ∧ v.oneCell' = true ∧ s.oneCell' = true := by
  obtain ⟨g1, e1, t1, b1, o1⟩ := h.1.1.out h1.1 (by omega)
  obtain ⟨g2, e2, t2, b2, o2⟩ := h.1.2.1.out h2.1 (by omega)
  obtain ⟨g3, e3, t3, b3, o3⟩ := h.2.1.2.1.out h3.1 (by omega)
  exact ⟨⟨u, v, s, g1, g2, g3, rfl, ⟨t1, t2, t3⟩, ⟨b1, b2, b3⟩, ⟨fun e => h.1.2.2 g1 e1 (by rw [e2, e]), fun e => h.2.1.2.2 g1 e1 (by rw [e3, e]), fun e => h.2.2.2.2 g2 e2 (by rw [e3, e])⟩⟩, o1, o2, o3⟩
theorem TrR.setR {B : Nat} {w0 w : World} {u v s v1 v2 v3 : Value} {l r q : List ByteArray} {p : Nat} {x : Int} (h : TrR B w0 w u v s l r q) (hs : SgM w p x v1 v2 v3) (hB : B ≤ p) (R : Array Value) : TrR B w0 (w.setRow p R) u v s l r q := by
  have hg := grown_setRow w p R
  have hb : ∀ k, some p = some k → B ≤ k := fun k hk => by simp at hk; omega
  have n1 := h.1.1.neS hs
  have n2 := h.1.2.1.neS hs
  have n3 := h.2.1.2.1.neS hs
  exact ⟨h.1.kept hg hb n1 n2, h.2.1.kept hg hb n1 n3, h.2.2.kept hg hb n2 n3⟩
theorem OS.nil3 {B : Nat} {w0 w : World} (h : Below B w0 w) (hB : B ≤ w.heap.size) : OS B w0 w (.slice none 0 0) [] := ⟨World.ownsRow_nil _ _ _ _, h, hB⟩

end Go.Proofs.YtaejeemjndmjcaaDoor
