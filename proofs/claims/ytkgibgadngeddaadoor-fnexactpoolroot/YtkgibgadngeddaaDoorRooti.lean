/-
  What poolFrom and the program's PoolRoot answer.
-/
import Derived.Test.YtkgibgadngeddaaDoorRoot
import Derived.Test.YtkgibgadngeddaaDoorCln
namespace Go.Proofs.YtkgibgadngeddaaDoor
open Go.RowKit Go.BigFrame
set_option linter.unusedVariables false

/-- an array of texts and a flag, answered -/
theorem ret_arr2 {fn : Func} {Rp : Ending → World → Prop} {a : Act} {w : World} (c s g t n : Nat) (ty e : TypeId) (l : List ByteArray) (b : Value) (hres : fn.results = #[.cell c ty, .tmp s]) (hd : a.defers = []) (hp : a.tmps.getD c undef = .pointer (some ⟨g, 0, none⟩)) (hb : a.tmps.getD s undef = b)
    (hA : TA w g t l) (hl : l.length = n) (hu : Tryd.prog.underlying ty = some (.array n e)) (hi : (Tryd.prog.info? ty).map (·.size) = some n) (h : Rp (.returned (.tuple #[.agg (svs l).toArray, b])) w) : bodyPost Tryd.prog fn Rp .ret a w := by
  have hr := run_loadVar_row (P := Tryd.prog) w g t ty _ (0, 0) _ hA hu rfl (by rw [svs_size, hl]; exact hi)
  refine bodyPost_ret (v := .tuple #[.agg (svs l).toArray, b]) ?_ hd h
  have hp' : a.tmps[c]?.getD undef = .pointer (some ⟨g, 0, none⟩) := by simpa using hp
  have hb' : a.tmps[s]?.getD undef = b := by simpa using hb
  simp [results, hres, asAddr, hr, hp', hb']

/-- 'copy(keys[:], list)' -/
theorem run_copyT {w : World} (ty g t n m : Nat) (l r : List ByteArray) (u : Value) (gs os : Nat) (hm : m = n) (hA : TA w g t l) (hl : l.length = n) (hr : SS w u gs os r) (hrn : r.length = n) (h0 : 0 < n) :
    ∃ w', (Builtin.copy_ #[28, 28] ty #[.slice (some ⟨g, 0, none⟩) m m, u]).run Tryd.prog w = .ok (.int .i64 (n : Int)) w' ∧ TA w' g t r ∧ (∀ B, B ≤ g → Below B w w') ∧ (∀ k, k ≠ g → w'.heap[k]? = w.heap[k]?) := by
  subst hm
  obtain ⟨ao, cap, rfl, _, hAo, hc⟩ := hr
  have ea := hAo (by omega)
  subst ea
  have hlen : (svs r).length = m := by simp [svs, hrn]
  have hrun := run_copy_row (P := Tryd.prog) w 28 28 ty 9 g 0 m m ⟨gs, os, none⟩ r.length cap _ t (svs r) Tryd.underlying28 (by kernel_rfl) hA (by rw [hlen, hrn]; exact (Nat.min_self m).symm) (by
      intro j u hj
      have hj2 : j < r.length := by
        have := (List.getElem?_eq_some_iff.1 hj).1
        simpa [svs] using this
      have e : (⟨gs, os, none⟩ : Addr).add j = ⟨gs, os + j, none⟩ := by unfold Addr.add; split <;> simp_all
      rw [e, hc j hj2]
      simp [svs, List.getElem?_eq_getElem hj2] at hj
      rw [hj]) (by rw [hlen, svs_size, hl]; omega) (fun u hu => by simp [svs] at hu; obtain ⟨b, _, rfl⟩ := hu; rfl)
  have e1 : ((svs l).toArray.toList.take 0 ++ svs r ++ (svs l).toArray.toList.drop (0 + (svs r).length)).toArray = (svs r).toArray := by
    have e2 : (svs l).toArray.toList.drop (0 + (svs r).length) = [] := List.drop_of_length_le (by simp [svs]; omega)
    rw [e2]
    simp
  rw [e1, hlen] at hrun
  exact ⟨_, hrun, setRow_heap w g _ _ t _ hA, fun B hB => ⟨rfl, rfl, rfl, by simp [World.setRow], fun k hk => setRow_other w g k _ (by omega)⟩, fun k hk => setRow_other w g k _ hk⟩

set_option maxRecDepth 100000 in
set_option maxHeartbeats 1000000 in
theorem poolFrom_yes (v : Value) (ga oa : Nat) (l : List ByteArray) (w : World) (hv : SS w v ga oa l) (hl : l.length = 16) :
    Calls Tryd.prog 32 #[v] w fun e w' => e = .returned (.tuple #[.agg (svs l).toArray, .bool true]) ∧ Below w.heap.size w w' := by
  have hga := hv.lt
  have hb2 : Below w.heap.size w ((w.alloc (.cells (zT 16) 43)).alloc (.cells (zT 16) 43)) := ((Below.refl _ _).alloc (Nat.le_refl _) _).alloc (by simp) _
  have HV : Hid (SS ((w.alloc (.cells (zT 16) 43)).alloc (.cells (zT 16) 43)) v ga oa l) := hv.below hb2 hga
  have HB2 : Hid (Below w.heap.size w ((w.alloc (.cells (zT 16) 43)).alloc (.cells (zT 16) 43))) := hb2
  have HL : Hid (l.length = 16) := hl
  have HT1 : Hid (TA ((w.alloc (.cells (zT 16) 43)).alloc (.cells (zT 16) 43)) (w.heap.size + 1) 43 (List.replicate 16 ByteArray.empty)) := by
    have := TA.new (w.alloc (.cells (zT 16) 43)) (List.replicate 16 ByteArray.empty) 43
    have e : (w.alloc (.cells (zT 16) 43)).heap.size = w.heap.size + 1 := by simp
    rw [e] at this
    exact this
  have HT0 : Hid (TA ((w.alloc (.cells (zT 16) 43)).alloc (.cells (zT 16) 43)) w.heap.size 43 (List.replicate 16 ByteArray.empty)) :=
    (TA.new w (List.replicate 16 ByteArray.empty) 43).below ((Below.refl _ _).alloc (Nat.le_refl _) _) (by simp)
  obtain ⟨w1, hrun0, hta, hbel, hoth⟩ := run_copyT 3 (w.heap.size + 1) 43 16 16 _ l v ga oa rfl HT1.out (by simp) HV.out hl (by omega)
  obtain ⟨a, cap, rfl, _, hA, hc⟩ := hv
  rw [hl] at hrun0 ⊢
  have hrun : (Builtin.copy_ #[28, 28] 3 #[.slice (some ⟨w.heap.size + 1, 0, none⟩) 16 16, .slice a 16 cap]).run Tryd.prog ((w.alloc (.cells (zT 16) 43)).alloc (.cells (zT 16) 43)) = .ok (.int .i64 16) w1 := hrun0
  clear hA hc hga hl hb2 hrun0 HV
  go_enter Tryd.func32, Tryd.ntmps32
  go_wp2_with (first | (refine wp_allocT rfl 43 16 rfl zeroP ?_) | (refine wp_loadT rfl 43 _ rfl (w.heap.size + 1) 43 16 l 9 rfl hta HL.out Tryd.underlying43 sizePT ?_) | (refine wp_storeT rfl 43 _ _ rfl w.heap.size 43 16 (List.replicate 16 ByteArray.empty) l (HT0.out.keep (hoth _ (by omega))) (by simp) HL.out rfl rfl sizePT ?_; intro hfin))
  refine ret_arr2 2 3 w.heap.size 43 16 43 9 l _ rfl rfl rfl rfl hfin HL.out Tryd.underlying43 sizePT ?_
  exact ⟨rfl, below_setRow (HB2.out.trans (hbel _ (by omega))) (Nat.le_refl _)⟩

theorem poolFrom_no (a : Option Addr) (n cap : Nat) (w : World) (h : n ≠ 16) (hn : n ≤ 1100000) :
    Calls Tryd.prog 32 #[.slice a n cap] w fun e w' => e = .returned (.tuple #[.agg (zT 16), .bool false]) ∧ Below w.heap.size w w' := by
  have q : ((n : Int) != 16) = true := by simp; omega
  have hb2 : Below w.heap.size w ((w.alloc (.cells (zT 16) 43)).alloc (.cells (zT 16) 43)) := ((Below.refl _ _).alloc (Nat.le_refl _) _).alloc (by simp) _
  have HB2 : Hid (Below w.heap.size w ((w.alloc (.cells (zT 16) 43)).alloc (.cells (zT 16) 43))) := hb2
  have HT1 : Hid (TA ((w.alloc (.cells (zT 16) 43)).alloc (.cells (zT 16) 43)) (w.heap.size + 1) 43 (List.replicate 16 ByteArray.empty)) := by
    have := TA.new (w.alloc (.cells (zT 16) 43)) (List.replicate 16 ByteArray.empty) 43
    have e : (w.alloc (.cells (zT 16) 43)).heap.size = w.heap.size + 1 := by simp
    rw [e] at this
    exact this
  have HT0 : Hid (TA ((w.alloc (.cells (zT 16) 43)).alloc (.cells (zT 16) 43)) w.heap.size 43 (List.replicate 16 ByteArray.empty)) :=
    (TA.new w (List.replicate 16 ByteArray.empty) 43).below ((Below.refl _ _).alloc (Nat.le_refl _) _) (by simp)
  clear h hb2
  go_enter Tryd.func32, Tryd.ntmps32
  go_wp2_with (first | (refine wp_allocT rfl 43 16 rfl zeroP ?_) | (refine wp_loadT rfl 43 _ rfl (w.heap.size + 1) 43 16 (List.replicate 16 ByteArray.empty) 9 rfl HT1.out (by simp) Tryd.underlying43 sizePT ?_) | (refine wp_storeT rfl 43 _ _ rfl w.heap.size 43 16 (List.replicate 16 ByteArray.empty) (List.replicate 16 ByteArray.empty) HT0.out (by simp) (by simp) rfl rfl sizePT ?_; intro hfin))
  refine ret_arr2 2 3 w.heap.size 43 16 43 9 (List.replicate 16 ByteArray.empty) _ rfl rfl rfl rfl hfin (by simp) Tryd.underlying43 sizePT ?_
  exact ⟨rfl, below_setRow HB2.out (Nat.le_refl _)⟩

theorem PoolRoot_no (a : Option Addr) (n cap : Nat) (w : World) (h : n ≠ 16) (hn : n ≤ 1100000) :
    Calls Tryd.prog 23 #[.slice a n cap] w fun e w' => e = .returned (.string ⟨#[]⟩) ∧ Below w.heap.size w w' := by
  have hc := poolFrom_no a n cap w h hn
  clear h
  go_enter Tryd.func23, Tryd.ntmps23
  go_wp2_with fail
  refine hc.mono ?_
  rintro e w1 ⟨rfl, hb1⟩
  go_wp2_with (first | (refine wp_allocT rfl 43 16 rfl zeroP ?_) | (refine wp_storeNewT rfl 43 16 _ _ rfl w1 _ (List.replicate 16 ByteArray.empty) rfl (zT_size 16) (by simp) rfl rfl sizePT ?_))
  go_ret
  exact ⟨rfl, hb1.alloc hb1.size _⟩

theorem rootB_le (l : List ByteArray) : (rootB l).size ≤ 1048576 := by
  unfold rootB
  rw [List.getD_eq_getElem?_getD]
  by_cases h : 0 < (upN l 4).length
  · rw [List.getElem?_eq_getElem h]
    have e : upN l 4 = upL (upN l 3) := rfl
    have h2 : (upN l 4)[0] = upAt (upN l 3) 0 := by
      simp only [e]
      exact upL_at _ _ _
    show ((upN l 4)[0]).size ≤ _
    rw [h2]
    exact Nat.le_trans (hashB_le _ _) (by omega)
  · rw [List.getElem?_eq_none (by omega)]
    show 0 ≤ 1048576
    omega
/-- a row of the way up -/
def IrR (l : List ByteArray) (w : World) (v : Value) (wr : World) : Prop := ∃ j : Nat, j ≤ 4 ∧ Below w.heap.size w wr ∧ ∃ g o, SS wr v g o (upN l j)

set_option maxRecDepth 100000 in
set_option maxHeartbeats 1000000 in
theorem topOf_16 (v : Value) (ga oa : Nat) (l : List ByteArray) (w : World) (hv : SS w v ga oa l) (hl : l.length = 16) (hT : Tb w) :
    Calls Tryd.prog 33 #[v, .int .i64 16] w fun e w' => e = .returned (.string (rootB l)) ∧ Below w.heap.size w w' := by
  have HT : Hid (Tb w) := hT
  have HL : Hid (l.length = 16) := hl
  have HZ : Hid ((rootB l).size ≤ 1048576) := rootB_le l
  have HS : Hid (IrR l w v w) := ⟨0, by omega, Below.refl _ _, ga, oa, hv⟩
  clear hv hl hT
  go_enter Tryd.func33, Tryd.ntmps33
  go_wp2
  go_loopw [0] (fun v wr => IrR l w v wr) (fun v _ => lenOf v)
  case atStart => exact HS.out
  case round =>
    obtain ⟨j, hj, hbel, g, o, hss⟩ := hrel
    clear HS
    have hln := upN_pow l HL.out j hj
    by_cases hlt : j < 4
    · have h16 : 1 < 16 / 2 ^ j ∧ 16 / 2 ^ j ≤ 16 := by
        have h0 : j = 0 ∨ j = 1 ∨ j = 2 ∨ j = 3 := by omega
        rcases h0 with rfl | rfl | rfl | rfl <;> simp
      have hc := rowAbove_any _ g o (upN l j) wr hss (by rw [hln]; omega) (HT.out.later hbel)
      obtain ⟨a, cap, rfl, _, _, _⟩ := id hss
      obtain ⟨k, hk⟩ : ∃ k, (upN l j).length = k := ⟨_, rfl⟩
      have hk1 : 1 < k ∧ k / 2 < k ∧ k ≤ 64 := by rw [← hk, hln]; omega
      have HN : Hid (∀ g2 W, TB W g2 (upL (upN l j)) → Below wr.heap.size wr W → IrR l w (.slice (some ⟨g2, 0, none⟩) (k / 2) (k / 2)) W) := fun g2 W h1 h2 => by
        refine ⟨j + 1, by omega, hbel.trans (h2.mono hbel.size), g2, 0, ?_⟩
        exact h1.ss (k / 2) (k / 2) (by rw [upL_len, hk]) (by omega)
      rw [hk] at hc hss ⊢
      have i1 : (1 : Int) < (k : Int) := by omega
      clear hss hln hk h16
      go_wp2_with fail
      refine hc.mono ?_
      rintro e w2 ⟨g2, rfl, hg2, htb, hb2⟩
      have HK : Hid (IrR l w (.slice (some ⟨g2, 0, none⟩) (k / 2) (k / 2)) w2) := HN.out g2 w2 htb hb2
      clear hc htb hb2 HN
      go_wp2
      go_roundw
      case rel => exact HK.out
      case measure => simp [lenOf]; omega
    · have hje : j = 4 := by omega
      subst hje
      have h1 : (upN l 4).length = 1 := hln
      have hr := rootB_eq l (by omega)
      have hsz := HZ.out
      obtain ⟨a, cap, rfl, _, hA, hcell⟩ := id hss
      have ea := hA (by omega)
      subst ea
      have c0 := hcell 0 (by omega)
      rw [hr, Nat.add_zero] at c0
      rw [h1]
      obtain ⟨R, hR⟩ : ∃ R, rootB l = R := ⟨_, rfl⟩
      have HR : Hid (rootB l = R) := hR
      rw [hR] at c0 hsz
      clear hss h1 hr hln hA hcell HZ hR
      go_wp2_with fail
      refine (Clone_any R _ hsz).mono ?_
      rintro e w1 ⟨rfl, hb1⟩
      go_wp2
      go_ret
      exact ⟨by rw [HR.out]; rfl, hbel.trans (hb1.mono hbel.size)⟩

set_option maxRecDepth 100000 in
set_option maxHeartbeats 1000000 in
theorem PoolRoot_yes (v : Value) (ga oa : Nat) (l : List ByteArray) (w : World) (hv : SS w v ga oa l) (hl : l.length = 16) (hT : Tb w) :
    Calls Tryd.prog 23 #[v] w fun e w' => e = .returned (.string (rootB l)) ∧ Below w.heap.size w w' := by
  have hc := poolFrom_yes v ga oa l w hv hl
  have HL : Hid (l.length = 16) := hl
  have HT : Hid (Tb w) := hT
  obtain ⟨a, cap, rfl, _, hA, hcc⟩ := hv
  rw [hl] at hc ⊢
  clear hA hcc hl hT
  go_enter Tryd.func23, Tryd.ntmps23
  go_wp2_with fail
  refine hc.mono ?_
  rintro e w1 ⟨rfl, hb1⟩
  have h1 := (TA.new w1 l 43).ss 16 16 HL.out (by omega)
  have b1 : Below w.heap.size w (w1.alloc (.cells (svs l).toArray 43)) := hb1.alloc hb1.size _
  clear hc
  go_wp2_with (first | (refine wp_allocT rfl 43 16 rfl zeroP ?_) | (refine wp_storeNewT rfl 43 16 _ _ rfl w1 _ l rfl (zT_size 16) HL.out rfl rfl sizePT ?_) | fail)
  refine (topOf_16 _ _ 0 l _ h1 HL.out (HT.out.later b1)).mono ?_
  rintro e w2 ⟨rfl, hb2⟩
  go_wp2
  go_ret
  exact ⟨rfl, b1.trans (hb2.mono b1.size)⟩

theorem PoolRoot_any (v : Value) (ga oa : Nat) (l : List ByteArray) (w : World) (hv : SS w v ga oa l) (hT : Tb w) :
    Calls Tryd.prog 23 #[v] w fun e w' => e = .returned (.string (rootA l)) ∧ Below w.heap.size w w' := by
  unfold rootA
  by_cases h : l.length = 16
  · rw [if_pos h]
    exact PoolRoot_yes v ga oa l w hv h hT
  · rw [if_neg h]
    obtain ⟨a, cap, rfl, hl, _⟩ := hv
    exact PoolRoot_no a l.length cap w h hl

end Go.Proofs.YtkgibgadngeddaaDoor
