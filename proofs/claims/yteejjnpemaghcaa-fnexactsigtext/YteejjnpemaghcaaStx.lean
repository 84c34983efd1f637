/-
  What SigText answers, the program's and the specification's.
-/
import Derived.Test.YteejjnpemaghcaaForm
import Derived.Test.YteejjnpemaghcaaTag
import Derived.Test.YteejjnpemaghcaaSgm
namespace Go.Proofs.Yteejjnpemaghcaa
open Go.RowKit Go.BigFrame
set_option linter.unusedVariables false

/-- a number and keys, one behind the other -/
def kyL (a : Nat) (l : List ByteArray) : List UInt8 := UInt8.ofNat a :: l.flatMap (fun p => p.data.toList)
def kyB (a : Nat) (l : List ByteArray) : ByteArray := ⟨(kyL a l).toArray⟩
theorem kyL_step (a : Nat) (l : List ByteArray) (k : Nat) (h : k < l.length) : kyL a (l.take (k + 1)) = kyL a (l.take k) ++ l[k].data.toList := by
  unfold kyL
  rw [← List.take_append_getElem h, List.flatMap_append]
  simp
theorem kyB_step (a : Nat) (l : List ByteArray) (k : Nat) (h : k < l.length) : kyB a (l.take k) ++ l[k] = kyB a (l.take (k + 1)) := by
  apply ByteArray.ext
  apply Array.toList_inj.1
  unfold kyB
  rw [kyL_step a l k h]
  simp [ByteArray.data_append]
theorem kyL_len (a : Nat) (l : List ByteArray) (hw : kwB l = true) : (kyL a l).length = 1 + 16 * l.length := by
  unfold kyL
  induction l with
  | nil => simp
  | cons x r ih =>
    have h1 := kwB_at hw 0 (by simp)
    have h2 : kwB r = true := by
      unfold kwB at hw ⊢
      simp at hw
      simpa using hw.2
    have h3 := ih h2
    have h4 : x.data.toList.length = 16 := by rw [Array.length_toList]; exact h1
    simp only [List.length_cons, List.flatMap_cons, List.length_append] at h3 ⊢
    omega
theorem kwB_take {l : List ByteArray} (h : kwB l = true) (k : Nat) : kwB (l.take k) = true := by
  unfold kwB at *
  rw [List.all_eq_true] at *
  exact fun x hx => h x (List.mem_of_mem_take hx)
theorem kwB_append {l r : List ByteArray} (h : kwB l = true) (k : kwB r = true) : kwB (l ++ r) = true := by
  unfold kwB at *
  rw [List.all_append, h, k]
  rfl
theorem kyB_size (a : Nat) (l : List ByteArray) : (kyB a l).size = (kyL a l).length := by simp [kyB, ByteArray.size]

/-- what SigText is -/
def sigB (a : Int) (o s d : List ByteArray) : ByteArray := if formB a o s d then kyB a.toNat (o ++ s ++ d) else ⟨#[]⟩

/-- a row of texts appended, in a region that draws -/
theorem step_appRow {w : World} {ops : Array Oper} {o : Oper} {a : Act} {K : Act → World → Prop} {Q : Exit → Act → World → Prop} {E : Prop} (hg : o.guard = none) (s x : Operand)
    (hop : o.op = .call { callee := .builtin .append, args := #[s, x], argTypes := #[22, 22] })
    (B : Nat) (w0 : World) (v u : Value) (l r : List ByteArray) (hs : a.eval s = v) (hown : OS B w0 w v l) (hx : a.eval x = u) (g of : Nat) (hr : SS w u g of r) (h0 : 0 < r.length) (hlen : l.length + r.length ≤ 1000000)
    (hK : ∀ v' w', OS B w0 w' v' (l ++ r) → K (a.put o.dst v') w') : if Region.wanted o (yielded ops a.tmps) = true then Oper.wp Try.prog o a w K Q else E := by
  obtain ⟨i0, hi, hz0, hz1, hz2⟩ := info_parts Try.info9
  obtain ⟨ao, cap, rfl, _, hA, hc⟩ := hr
  have ea := hA h0
  subst ea
  obtain ⟨v', w', hrun, h1, h2, _⟩ := run_append_own (P := Try.prog) w B 22 o.type 9 i0 (.string ByteArray.empty) 1 16 Try.underlying22 hi hz0 hz1 hz2 rfl (by decide) v l.length (svs l) hown.1 ⟨g, of, none⟩ r.length cap (svs r) (by simp [svs]) (by
      intro j u hj
      have hj2 : j < r.length := by
        have := (List.getElem?_eq_some_iff.1 hj).1
        simpa [svs] using this
      have e : (⟨g, of, none⟩ : Addr).add j = ⟨g, of + j, none⟩ := by unfold Addr.add; split <;> simp_all
      rw [e, hc j hj2]
      simp [svs, List.getElem?_eq_getElem hj2] at hj
      rw [hj])
    (fun u hu => by simp [svs] at hu; obtain ⟨b, _, rfl⟩ := hu; rfl) (by unfold maxLen; omega) (by omega) hown.2.2
  have hOB : OS B w0 w' v' (l ++ r) := ⟨by rw [List.length_append, svs_append]; exact h1, hown.2.1.grown h2 hown.2.2 (fun k hk => (hown.1.lt k hk).1), Nat.le_trans hown.2.2 h2.size⟩
  have hw : Region.wanted o (yielded ops a.tmps) = true := by simp [Region.wanted, hg]
  rw [if_pos hw]
  unfold Oper.wp
  simp [execOp, hop, resolve, invoke, builtin, hs, hx, hrun, Result.andThen]
  exact hK v' w' hOB

def SxR (a : Nat) (L : List ByteArray) (w : World) (s i : Value) (wr : World) : Prop := ∃ k : Nat, k ≤ L.length ∧ i = .int .i64 k ∧ s = .string (kyB a (L.take k)) ∧ wr = w

set_option maxRecDepth 100000 in
set_option maxHeartbeats 2000000 in
theorem sSigText_yes (a : Nat) (vo vs vd : Value) (g1 o1 g2 o2 g3 o3 : Nat) (o s d : List ByteArray) (w : World) (ho : SS w vo g1 o1 o) (hs : SS w vs g2 o2 s) (hd : SS w vd g3 o3 d) (hf : formB (a : Int) o s d = true) :
    Calls Try.prog 6 #[.agg #[.int .i64 a, vo, vs, vd]] w fun e w' => e = .returned (.tuple #[.string (kyB a (o ++ s ++ d)), .bool true]) ∧ Below w.heap.size w w' := by
  obtain ⟨hA, ⟨wo, lo⟩, ⟨ws, ls⟩, wd, ld⟩ := formB_parts hf
  have hB : Below w.heap.size w (w.alloc (.cells #[.int .i64 a, vo, vs, vd] 28)) := (Below.refl _ _).alloc (Nat.le_refl _) _
  have hc := l05Form_any (a : Int) vo vs vd g1 o1 g2 o2 g3 o3 o s d _ (ho.below hB ho.lt) (hs.below hB hs.lt) (hd.below hB hd.lt)
  rw [hf] at hc
  have HSS : Hid (∀ W, Below w.heap.size w W → SS W vo g1 o1 o ∧ SS W vs g2 o2 s ∧ SS W vd g3 o3 d) := fun W hW => ⟨ho.below hW ho.lt, hs.below hW hs.lt, hd.below hW hd.lt⟩
  have HC : Hid (Calls Try.prog 15 #[.agg #[.int .i64 a, vo, vs, vd]] (w.alloc (.cells #[.int .i64 a, vo, vs, vd] 28)) fun e w' => e = .returned (.bool true) ∧ Below (w.alloc (.cells #[.int .i64 a, vo, vs, vd] 28)).heap.size (w.alloc (.cells #[.int .i64 a, vo, vs, vd] 28)) w') := hc
  have HB : Hid (Below w.heap.size w (w.alloc (.cells #[.int .i64 a, vo, vs, vd] 28)) ∧ SgM (w.alloc (.cells #[.int .i64 a, vo, vs, vd] 28)) w.heap.size a vo vs vd) := ⟨hB, SgM.new w _ _ _ _⟩
  have HW : Hid ((∀ k, (kyB a ((o ++ s ++ d).take k)).size ≤ 1000) ∧ (o ++ s ++ d).length = 20 ∧ kwB (o ++ s ++ d) = true) := by
    have hw := kwB_append (kwB_append wo ws) wd
    have hl : (o ++ s ++ d).length = 20 := by simp [lo, ls, ld]
    refine ⟨fun k => ?_, hl, hw⟩
    rw [kyB_size, kyL_len _ _ (kwB_take hw k), List.length_take, hl]
    omega
  have HLN : Hid (o.length = 8 ∧ s.length = 8 ∧ d.length = 4) := ⟨lo, ls, ld⟩
  obtain ⟨ao, co, rfl, _, x1⟩ := ho
  obtain ⟨as2, cs2, rfl, _, x2⟩ := hs
  obtain ⟨ad, cd, rfl, _, x3⟩ := hd
  rw [lo, ls, ld] at HSS HC HB ⊢
  clear x1 x2 x3 hc hB hf wo ws wd lo ls ld
  have ha : a ≤ 15 := by omega
  clear hA
  obtain ⟨L, hL⟩ : ∃ L, o ++ s ++ d = L := ⟨_, rfl⟩
  have HL : Hid (o ++ s ++ d = L) := hL
  rw [hL] at HW ⊢
  clear hL
  go_enter Try.func6, Try.ntmps6
  go_wp2_with fail
  refine HC.out.mono ?_
  rintro e w1 ⟨rfl, hb1⟩
  have b1 := HB.out.1.trans (hb1.mono HB.out.1.size)
  have hS1 := HB.out.2.later hb1
  have c0 := hS1.c0
  have c1 := hS1.c1
  have c2 := hS1.c2
  have c3 := hS1.c3
  have hlt := hS1.lt
  have hcv := one_s w1 (a : Int) (UInt8.ofNat a) (by simp; omega)
  have e1 : (⟨[UInt8.ofNat a].toArray⟩ : ByteArray) = kyB a [] := rfl
  rw [e1] at hcv
  have b2 : Below w1.heap.size w1 (w1.alloc (.cells #[.int .u8 (a : Int)] 5)) := (Below.refl _ _).alloc (Nat.le_refl _) _
  have bw2 := b1.trans (b2.mono b1.size)
  have hS2 := hS1.later b2
  clear HC e1 hS1 b1 hb1 b2
  go_wp2
  clear hcv c0 c1 c2 c3 hlt
  have c1 := hS2.c1
  have c2 := hS2.c2
  have c3 := hS2.c3
  have hlt := hS2.lt
  clear hS2
  generalize w1.alloc (.cells #[.int .u8 (a : Int)] 5) = w2 at *
  have HM : Hid (OS w2.heap.size w2 ((w2.alloc (.cells #[] 9)).drew) (.slice (some ⟨w2.heap.size, 0, none⟩) 0 0) [] ∧ Below w.heap.size w ((w2.alloc (.cells #[] 9)).drew)) := ⟨(OS.made w2).drew, (bw2.alloc bw2.size _).drew⟩
  have HBW : Hid (Below w.heap.size w w2) := bw2
  have hwz := bw2.size
  clear bw2
  go_region_held3 (fun W => W.cell? ⟨w.heap.size, 1, none⟩ = some (.slice ao 8 co) ∧ W.cell? ⟨w.heap.size, 2, none⟩ = some (.slice as2 8 cs2) ∧ W.cell? ⟨w.heap.size, 3, none⟩ = some (.slice ad 4 cd)) (first | go_keep | exact ⟨(hos3.2.1.cell (p := ⟨w.heap.size, 1, none⟩) hlt).trans c1, (hos3.2.1.cell (p := ⟨w.heap.size, 2, none⟩) hlt).trans c2, (hos3.2.1.cell (p := ⟨w.heap.size, 3, none⟩) hlt).trans c3⟩ | exact ⟨(hos2.2.1.cell (p := ⟨w.heap.size, 1, none⟩) hlt).trans c1, (hos2.2.1.cell (p := ⟨w.heap.size, 2, none⟩) hlt).trans c2, (hos2.2.1.cell (p := ⟨w.heap.size, 3, none⟩) hlt).trans c3⟩ | exact ⟨(hos1.2.1.cell (p := ⟨w.heap.size, 1, none⟩) hlt).trans c1, (hos1.2.1.cell (p := ⟨w.heap.size, 2, none⟩) hlt).trans c2, (hos1.2.1.cell (p := ⟨w.heap.size, 3, none⟩) hlt).trans c3⟩) ((first | (refine step_appRow rfl _ _ rfl w2.heap.size w2 _ _ [] o (by rfl) HM.out.1 (by rfl) g1 o1 (HSS.out _ HM.out.2).1 (by rw [HLN.out.1]; omega) (by rw [HLN.out.1]; simp) ?_; intro v3 w3 hos1) | (refine step_appRow rfl _ _ rfl w2.heap.size w2 _ _ o s (by rfl) hos1 (by rfl) g2 o2 (HSS.out _ (HBW.out.trans (hos1.2.1.mono HBW.out.size))).2.1 (by rw [HLN.out.2.1]; omega) (by rw [HLN.out.1, HLN.out.2.1]; omega) ?_; intro v4 w4 hos2) | (refine step_appRow rfl _ _ rfl w2.heap.size w2 _ _ (o ++ s) d (by rfl) hos2 (by rfl) g3 o3 (HSS.out _ (HBW.out.trans (hos2.2.1.mono HBW.out.size))).2.2 (by rw [HLN.out.2.2]; omega) (by rw [List.length_append, HLN.out.1, HLN.out.2.1, HLN.out.2.2]; omega) ?_; intro v5 w5 hos3)))
  have bw5 := HBW.out.trans (hos3.2.1.mono HBW.out.size)
  have hos := hos3
  rw [HL.out] at hos
  clear hos1 hos2 hos3 HM HBW HSS c1 c2 c3
  obtain ⟨gL, hsL⟩ := hos.ss (by rw [HW.out.2.1]; omega)
  obtain ⟨aL, cL, hvL, _, hAL, hcL⟩ := hsL
  have hAL := hAL (by rw [HW.out.2.1]; omega)
  rw [HW.out.2.1] at hvL
  subst hAL
  subst hvL
  have HCL : Hid (∀ j (h : j < L.length), w5.cell? ⟨gL, j, none⟩ = some (.string L[j])) := fun j hj => by have := hcL j hj; rw [Nat.zero_add] at this; exact this
  have HST : Hid (SxR a L w5 (.string (kyB a [])) (.int .i64 0) w5) := ⟨0, by omega, rfl, rfl, rfl⟩
  clear hos hcL
  go_wp2
  go_loopw [4, 6] (fun s i wr => SxR a L w5 s i wr) (fun _ i _ => 20 - (intOf i).toNat)
  case atStart => exact HST.out
  case round =>
    obtain ⟨k, hk, rfl, rfl, rfl⟩ := hrel
    clear HST
    rw [HW.out.2.1] at hk
    by_cases hlt2 : k < 20
    · have c0 := HCL.out k (by rw [HW.out.2.1]; exact hlt2)
      have hst := kyB_step a L k (by rw [HW.out.2.1]; exact hlt2)
      have z1 := HW.out.1 k
      have z2 := kwB_at HW.out.2.2 k (by rw [HW.out.2.1]; exact hlt2)
      have i1 : (k : Int) < 20 := by omega
      have i2 : (0 : Int) ≤ (k : Int) := by omega
      have HN : Hid (SxR a L wr (.string (kyB a (L.take k) ++ L[k]'(by rw [HW.out.2.1]; exact hlt2))) (.int .i64 ((k : Int) + 1)) wr) := by
        rw [hst]
        exact ⟨k + 1, by rw [HW.out.2.1]; omega, by simp, rfl, rfl⟩
      generalize L[k]'(by rw [HW.out.2.1]; exact hlt2) = X at *
      generalize kyB a (L.take k) = S at *
      have q : ¬ (9223372036854775807 < S.size + X.size) := by omega
      clear hst HCL HW
      go_wp2
      go_roundw
      case rel => exact HN.out
      case measure => simp [intOf]; omega
    · have hke : k = 20 := by omega
      subst hke
      have e : L.take 20 = L := List.take_of_length_le (by rw [HW.out.2.1]; omega)
      rw [e]
      go_wp2
      go_ret2
      exact ⟨rfl, bw5⟩

theorem sSigText_no (a : Int) (vo vs vd : Value) (g1 o1 g2 o2 g3 o3 : Nat) (o s d : List ByteArray) (w : World) (ho : SS w vo g1 o1 o) (hs : SS w vs g2 o2 s) (hd : SS w vd g3 o3 d) (hf : formB a o s d = false) :
    Calls Try.prog 6 #[.agg #[.int .i64 a, vo, vs, vd]] w fun e w' => e = .returned (.tuple #[.string ⟨#[]⟩, .bool false]) ∧ Below w.heap.size w w' := by
  have hB : Below w.heap.size w (w.alloc (.cells #[.int .i64 a, vo, vs, vd] 28)) := (Below.refl _ _).alloc (Nat.le_refl _) _
  have hc := l05Form_any a vo vs vd g1 o1 g2 o2 g3 o3 o s d _ (ho.below hB ho.lt) (hs.below hB hs.lt) (hd.below hB hd.lt)
  rw [hf] at hc
  have HC : Hid (Calls Try.prog 15 #[.agg #[.int .i64 a, vo, vs, vd]] (w.alloc (.cells #[.int .i64 a, vo, vs, vd] 28)) fun e w' => e = .returned (.bool false) ∧ Below (w.alloc (.cells #[.int .i64 a, vo, vs, vd] 28)).heap.size (w.alloc (.cells #[.int .i64 a, vo, vs, vd] 28)) w') := hc
  have HB : Hid (Below w.heap.size w (w.alloc (.cells #[.int .i64 a, vo, vs, vd] 28))) := hB
  obtain ⟨ao, co, rfl, _, x1⟩ := ho
  obtain ⟨as2, cs2, rfl, _, x2⟩ := hs
  obtain ⟨ad, cd, rfl, _, x3⟩ := hd
  clear x1 x2 x3 hc hB hf
  go_enter Try.func6, Try.ntmps6
  go_wp2_with fail
  refine HC.out.mono ?_
  rintro e w1 ⟨rfl, hb1⟩
  go_wp2
  go_ret2
  exact ⟨rfl, HB.out.trans (hb1.mono HB.out.size)⟩
theorem SigText_no (a : Int) (vo vs vd : Value) (g1 o1 g2 o2 g3 o3 : Nat) (o s d : List ByteArray) (w : World) (ho : SS w vo g1 o1 o) (hs : SS w vs g2 o2 s) (hd : SS w vd g3 o3 d) (hf : formB a o s d = false) :
    Calls Try.prog 8 #[.agg #[.int .i64 a, vo, vs, vd]] w fun e w' => e = .returned (.tuple #[.string ⟨#[]⟩, .bool false]) ∧ Below w.heap.size w w' := by
  have hB : Below w.heap.size w (w.alloc (.cells #[.int .i64 a, vo, vs, vd] 28)) := (Below.refl _ _).alloc (Nat.le_refl _) _
  have hc := sigFormOk_any a vo vs vd g1 o1 g2 o2 g3 o3 o s d _ (ho.below hB ho.lt) (hs.below hB hs.lt) (hd.below hB hd.lt)
  rw [hf] at hc
  have HC : Hid (Calls Try.prog 17 #[.agg #[.int .i64 a, vo, vs, vd]] (w.alloc (.cells #[.int .i64 a, vo, vs, vd] 28)) fun e w' => e = .returned (.bool false) ∧ Below (w.alloc (.cells #[.int .i64 a, vo, vs, vd] 28)).heap.size (w.alloc (.cells #[.int .i64 a, vo, vs, vd] 28)) w') := hc
  have HB : Hid (Below w.heap.size w (w.alloc (.cells #[.int .i64 a, vo, vs, vd] 28))) := hB
  obtain ⟨ao, co, rfl, _, x1⟩ := ho
  obtain ⟨as2, cs2, rfl, _, x2⟩ := hs
  obtain ⟨ad, cd, rfl, _, x3⟩ := hd
  clear x1 x2 x3 hc hB hf
  go_enter Try.func8, Try.ntmps8
  go_wp2_with fail
  refine HC.out.mono ?_
  rintro e w1 ⟨rfl, hb1⟩
  go_wp2
  go_ret2
  exact ⟨rfl, HB.out.trans (hb1.mono HB.out.size)⟩

/-- a string appended to what is owned, and that nothing else turned -/
theorem wp_appStrG {w : World} {ops : Array Oper} {rest : List Oper} {o : Oper} {a : Act} {Q : Exit → Act → World → Prop} (hgd : o.guard = none) (s x : Operand)
    (ho : o.op = .call { callee := .builtin .append, args := #[s, x], argTypes := #[38, 9] })
    (B : Nat) (w0 : World) (v : Value) (l : List UInt8) (hs : a.eval s = v) (hown : OB B w0 w v l) (t : ByteArray) (hx : a.eval x = .string t) (hlen : l.length + t.size ≤ 1000000000)
    (h : ∀ v' w', OB B w0 w' v' (l ++ t.data.toList) → w.grownBy w' v.ownBlock → wpList Try.prog ops Q rest (a.put o.dst v') w') : wpList Try.prog ops Q (o :: rest) a w := by
  obtain ⟨i0, hi, hz0, hz1, hz2⟩ := info_parts Try.info5
  refine Lib.wpList_append_own_string w hgd s x 38 9 ho B 5 i0 Try.underlying38 Try.underlying9 hi hz0 hz1 hz2 v l.length (bv l) hs hown.1 t hx (by unfold maxLen; omega) (by omega) hown.2.2 ?_
  intro v' w' h1 h2 _
  have e : t.data.toList.length = t.size := Array.length_toList
  refine h v' w' ⟨?_, hown.2.1.grown h2 hown.2.2 (fun k hk => (hown.1.lt k hk).1), Nat.le_trans hown.2.2 h2.size⟩ h2
  rw [List.length_append, bv_append, e]
  exact h1
/-- the block of the three lists -/
def LL (w : World) (g : Nat) (v1 v2 v3 : Value) : Prop := w.heap[g]? = some (.cells #[v1, v2, v3] 22 (0, 0))
theorem LL.kept {w w' : World} {g B : Nat} {w0 : World} {v v1 v2 v3 : Value} {l : List UInt8} (h : LL w g v1 v2 v3) (ho : OB B w0 w v l) (hg : w.grownBy w' v.ownBlock) : LL w' g v1 v2 v3 := by
  have hlt : g < w.heap.size := (Array.getElem?_eq_some_iff.1 h).1
  unfold LL at *
  rw [hg.block g hlt ?_, h]
  intro he
  rcases ho.1.2 with ⟨rfl, _⟩ | ⟨g', cap, cur, rfl, _, hg', _⟩
  · simp [Value.ownBlock] at he
  · simp [Value.ownBlock] at he
    subst he
    rw [h] at hg'
    simp at hg'

/-- what the inner loop of SigText holds -/
def StI (a : Nat) (P l : List ByteArray) (w : World) (g : Nat) (v1 v2 v3 v i : Value) (wr : World) : Prop :=
  ∃ k : Nat, k ≤ l.length ∧ i = .int .i64 k ∧ OB w.heap.size w wr v (kyL a (P ++ l.take k)) ∧ LL wr g v1 v2 v3
/-- what the outer one holds -/
def StO (a : Nat) (o s d : List ByteArray) (w : World) (g : Nat) (v1 v2 v3 v i : Value) (wr : World) : Prop :=
  ∃ j : Nat, j ≤ 3 ∧ i = .int .i64 j ∧ OB w.heap.size w wr v (kyL a (([o, s, d].take j).flatten)) ∧ LL wr g v1 v2 v3

theorem kyL_more (a : Nat) (P l : List ByteArray) (k : Nat) (h : k < l.length) : kyL a (P ++ l.take k) ++ l[k].data.toList = kyL a (P ++ l.take (k + 1)) := by
  unfold kyL
  have e : l.take (k + 1) = l.take k ++ [l[k]] := (List.take_append_getElem h).symm
  rw [e]
  simp only [List.flatMap_append, List.flatMap_cons, List.flatMap_nil, List.append_nil, List.cons_append, List.append_assoc]

theorem LL.cell {w : World} {g : Nat} {v1 v2 v3 : Value} (h : LL w g v1 v2 v3) (j : Nat) (v : Value) (hv : #[v1, v2, v3][j]? = some v) : w.cell? ⟨g, j, none⟩ = some v := by
  rw [cell_of_row w g j _ _ (0, 0) h]
  exact hv

set_option maxRecDepth 100000 in
set_option maxHeartbeats 2000000 in
theorem SigText_yes (a : Nat) (vo vs vd : Value) (g1 o1 g2 o2 g3 o3 : Nat) (o s d : List ByteArray) (w : World) (ho : SS w vo g1 o1 o) (hs : SS w vs g2 o2 s) (hd : SS w vd g3 o3 d) (hf : formB (a : Int) o s d = true) :
    Calls Try.prog 8 #[.agg #[.int .i64 a, vo, vs, vd]] w fun e w' => e = .returned (.tuple #[.string (kyB a (o ++ s ++ d)), .bool true]) ∧ Below w.heap.size w w' := by
  obtain ⟨hA, ⟨wo, lo⟩, ⟨ws, ls⟩, wd, ld⟩ := formB_parts hf
  have hB : Below w.heap.size w (w.alloc (.cells #[.int .i64 a, vo, vs, vd] 28)) := (Below.refl _ _).alloc (Nat.le_refl _) _
  have hc := sigFormOk_any (a : Int) vo vs vd g1 o1 g2 o2 g3 o3 o s d _ (ho.below hB ho.lt) (hs.below hB hs.lt) (hd.below hB hd.lt)
  rw [hf] at hc
  have HC : Hid (Calls Try.prog 17 #[.agg #[.int .i64 a, vo, vs, vd]] (w.alloc (.cells #[.int .i64 a, vo, vs, vd] 28)) fun e w' => e = .returned (.bool true) ∧ Below (w.alloc (.cells #[.int .i64 a, vo, vs, vd] 28)).heap.size (w.alloc (.cells #[.int .i64 a, vo, vs, vd] 28)) w') := hc
  have HB : Hid (Below w.heap.size w (w.alloc (.cells #[.int .i64 a, vo, vs, vd] 28)) ∧ SgM (w.alloc (.cells #[.int .i64 a, vo, vs, vd] 28)) w.heap.size a vo vs vd) := ⟨hB, SgM.new w _ _ _ _⟩
  have HSEL : Hid (∀ j, j < 3 → ∃ (v : Value) (l : List ByteArray) (g of : Nat) (x : Option Addr) (c : Nat), #[vo, vs, vd][j]? = some v ∧ v = .slice x l.length c ∧ (∀ W, Below w.heap.size w W → SS W v g of l) ∧ kwB l = true ∧ l.length ≤ 8 ∧ ([o, s, d].take j).flatten ++ l = ([o, s, d].take (j + 1)).flatten ∧ ([o, s, d].take (j + 1)).flatten.length ≤ 20) := by
    intro j hj
    have h0 : j = 0 ∨ j = 1 ∨ j = 2 := by omega
    rcases h0 with rfl | rfl | rfl
    · obtain ⟨x, c, hv, _⟩ := id ho
      exact ⟨vo, o, g1, o1, x, c, rfl, hv, fun W hW => ho.below hW ho.lt, wo, by omega, by simp, by simp [lo]⟩
    · obtain ⟨x, c, hv, _⟩ := id hs
      exact ⟨vs, s, g2, o2, x, c, rfl, hv, fun W hW => hs.below hW hs.lt, ws, by omega, by simp, by simp [lo, ls]⟩
    · obtain ⟨x, c, hv, _⟩ := id hd
      exact ⟨vd, d, g3, o3, x, c, rfl, hv, fun W hW => hd.below hW hd.lt, wd, by omega, by simp, by simp [lo, ls, ld]⟩
  have HWI : Hid (∀ j, kwB ([o, s, d].take j).flatten = true) := by
    intro j
    have h0 : j = 0 ∨ j = 1 ∨ j = 2 ∨ 3 ≤ j := by omega
    rcases h0 with rfl | rfl | rfl | h
    · rfl
    · simpa using wo
    · simpa using kwB_append wo ws
    · rw [List.take_of_length_le (by simpa using h)]
      simpa using kwB_append wo (kwB_append ws wd)
  have HEND : Hid (kyL a ([o, s, d].take 3).flatten = kyL a (o ++ s ++ d)) := by show kyL a _ = kyL a _; simp
  obtain ⟨ao, co, rfl, _, x1⟩ := ho
  obtain ⟨as2, cs2, rfl, _, x2⟩ := hs
  obtain ⟨ad, cd, rfl, _, x3⟩ := hd
  rw [lo, ls, ld] at HSEL HC HB ⊢
  clear x1 x2 x3 hc hB hf wo ws wd lo ls ld
  have ha : a ≤ 15 := by omega
  clear hA
  obtain ⟨T, hTe⟩ : ∃ T, kyB a (o ++ s ++ d) = T := ⟨_, rfl⟩
  have HTe : Hid (kyB a (o ++ s ++ d) = T) := hTe
  rw [hTe]
  clear hTe
  go_enter Try.func8, Try.ntmps8
  go_wp2_with fail
  refine HC.out.mono ?_
  rintro e w1 ⟨rfl, hb1⟩
  have b1 := HB.out.1.trans (hb1.mono HB.out.1.size)
  have hS1 := HB.out.2.later hb1
  have c0 := hS1.c0
  have c1 := hS1.c1
  have c2 := hS1.c2
  have c3 := hS1.c3
  have hlt := hS1.lt
  have HST : Hid (StO a o s d w (w1.heap.size + 1) (.slice ao 8 co) (.slice as2 8 cs2) (.slice ad 4 cd) (.slice (some ⟨w1.heap.size, 0, none⟩) 1 1) (.int .i64 0) ((w1.alloc (.cells #[.int .u8 (a : Int)] 5)).alloc (.cells #[.slice ao 8 co, .slice as2 8 cs2, .slice ad 4 cd] 22))) := by
    have h1 := OB.one w1 (a : Int) (UInt8.ofNat a) (by simp; omega)
    have h2 : OB w.heap.size w (w1.alloc (.cells #[.int .u8 (a : Int)] 5)) (.slice (some ⟨w1.heap.size, 0, none⟩) 1 1) [UInt8.ofNat a] := by
      refine ⟨⟨h1.1.1, ?_⟩, b1.trans (h1.2.1.mono b1.size), Nat.le_trans b1.size h1.2.2⟩
      rcases h1.1.2 with hn | ⟨g, cap, cur, hv, hbg, rest⟩
      · exact .inl hn
      · exact .inr ⟨g, cap, cur, hv, Nat.le_trans b1.size hbg, rest⟩
    refine ⟨0, by omega, rfl, h2.alloc _, ?_⟩
    have e : (w1.alloc (.cells #[.int .u8 (a : Int)] 5)).heap.size = w1.heap.size + 1 := by simp
    unfold LL
    rw [← e]
    exact Go.heap_alloc_new _ _
  clear HC hS1 b1 hb1
  go_wp2
  go_loopw [4, 24] (fun v i wr => StO a o s d w (w1.heap.size + 1) (.slice ao 8 co) (.slice as2 8 cs2) (.slice ad 4 cd) v i wr) (fun _ i _ => 3 - (intOf i).toNat)
  case atStart => exact HST.out
  case round =>
    obtain ⟨j, hj, rfl, hob, hll⟩ := hrel
    clear HST
    by_cases hlt3 : j < 3
    · obtain ⟨v, l, g, of, x, c, hsel, rfl, HSS, hwl, hl8, hnx, hn20⟩ := HSEL.out j hlt3
      have cj := hll.cell j _ hsel
      have hwP := HWI.out j
      have HNX : Hid (∀ v W, OB w.heap.size w W v (kyL a (([o, s, d].take j).flatten ++ l)) → LL W (w1.heap.size + 1) (.slice ao 8 co) (.slice as2 8 cs2) (.slice ad 4 cd) → StO a o s d w (w1.heap.size + 1) (.slice ao 8 co) (.slice as2 8 cs2) (.slice ad 4 cd) v (.int .i64 ((j : Int) + 1)) W) := by
        rw [hnx]
        exact fun v W hW hL => ⟨j + 1, by omega, by simp, hW, hL⟩
      have hPl : (([o, s, d].take j).flatten).length + l.length ≤ 20 := by rw [← List.length_append, hnx]; exact hn20
      generalize ([o, s, d].take j).flatten = P at *
      have i1 : (j : Int) < 3 := by omega
      have i2 : (0 : Int) ≤ (j : Int) := by omega
      obtain ⟨n, hn⟩ : ∃ n, l.length = n := ⟨_, rfl⟩
      have HN : Hid (l.length = n) := hn
      rw [hn] at cj hl8 hPl HSS
      have HSS : Hid (∀ W, Below w.heap.size w W → SS W (.slice x n c) g of l) := HSS
      have HS2 : Hid (StI a P l w (w1.heap.size + 1) (.slice ao 8 co) (.slice as2 8 cs2) (.slice ad 4 cd) u4 (.int .i64 0) wr) := ⟨0, by omega, rfl, by simpa using hob, hll⟩
      have HW1 : Hid (kwB l = true ∧ kwB P = true) := ⟨hwl, hwP⟩
      clear hob hll hsel hnx hn hwl hwP hn20
      go_wp2
      go_loopw [4, 30] (fun v i wr => StI a P l w (w1.heap.size + 1) (.slice ao 8 co) (.slice as2 8 cs2) (.slice ad 4 cd) v i wr) (fun _ i _ => n - (intOf i).toNat)
      case atStart => exact HS2.out
      case round =>
        obtain ⟨k, hk, rfl, hob, hll⟩ := hrel
        clear HS2 cj
        rw [HN.out] at hk
        by_cases hlt4 : k < n
        · have hsw := HSS.out _ hob.2.1
          obtain ⟨x', c', hv', _, hAx, hcx⟩ := hsw
          have ex := hAx (by rw [HN.out]; omega)
          rw [HN.out] at hv'
          simp at hv'
          obtain ⟨rfl, rfl⟩ := hv'
          subst ex
          have c0 := hcx k (by rw [HN.out]; exact hlt4)
          have hst := kyL_more a P l k (by rw [HN.out]; exact hlt4)
          have z2 := kwB_at HW1.out.1 k (by rw [HN.out]; exact hlt4)
          have z1 : (kyL a (P ++ l.take k)).length ≤ 1000 := by
            rw [kyL_len _ _ (kwB_append HW1.out.2 (kwB_take HW1.out.1 k)), List.length_append, List.length_take]
            omega
          have i3 : (k : Int) < (n : Int) := by omega
          have i4 : (0 : Int) ≤ (k : Int) := by omega
          have HNN : Hid (∀ v W, OB w.heap.size w W v (kyL a (P ++ l.take k) ++ (l[k]'(by rw [HN.out]; exact hlt4)).data.toList) → LL W (w1.heap.size + 1) (.slice ao 8 co) (.slice as2 8 cs2) (.slice ad 4 cd) → StI a P l w (w1.heap.size + 1) (.slice ao 8 co) (.slice as2 8 cs2) (.slice ad 4 cd) v (.int .i64 ((k : Int) + 1)) W) := by
            rw [hst]
            exact fun v W hW hL => ⟨k + 1, by rw [HN.out]; omega, by simp, hW, hL⟩
          generalize l[k]'(by rw [HN.out]; exact hlt4) = X at *
          generalize kyL a (P ++ l.take k) = Y at *
          clear hAx hcx hst
          go_wp2_with (at_builtin; refine wp_appStrG rfl _ _ rfl w.heap.size w _ Y rfl hob X rfl ?c1 ?_)
          case c1 => omega
          intro v' w2 hob2 hgr
          have hll2 := hll.kept hob hgr
          clear hgr hob hll c0
          go_wp2
          go_roundw
          case rel => exact HNN.out _ _ hob2 hll2
          case measure => simp [intOf]; omega
        · have hke : k = n := by omega
          have e : l.take k = l := List.take_of_length_le (by rw [HN.out]; omega)
          rw [e] at hob
          have HN3 := HNX.out _ _ hob hll
          subst hke
          clear hob hll e
          have HN3 : Hid _ := HN3
          go_wp2
          go_roundw
          case rel => exact HN3.out
          case measure => simp [intOf]; omega
    · have hje : j = 3 := by omega
      subst hje
      rw [HEND.out] at hob
      have hcv := run_str hob
      have e3 : (⟨(kyL a (o ++ s ++ d)).toArray⟩ : ByteArray) = T := by rw [← HTe.out]; rfl
      rw [e3] at hcv
      clear e3
      go_wp2
      go_ret2
      exact ⟨rfl, hob.2.1⟩

end Go.Proofs.Yteejjnpemaghcaa
