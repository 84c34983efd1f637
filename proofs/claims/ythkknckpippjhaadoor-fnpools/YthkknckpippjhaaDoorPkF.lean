/-
  Texts laid together: Stx, Stl, Sga, Sgx, Lkt.
-/
import Derived.Test.YthkknckpippjhaaDoorPkE
import Derived.Test.YthkknckpippjhaaDoorPkC
import Derived.Deep.RegionHeld3
import Derived.Lib.SmallJoins
import Derived.ProofKit
import Derived.Test.YthkknckpippjhaaDoorPkD
import Derived.Deep.AppendLies
import Derived.StillTailTactics
/-
  What SigText answers, the program's and the specification's.
-/
namespace Go.Proofs.YthkknckpippjhaaDoor
open Go.RowKit Go.BigFrame
set_option linter.unusedVariables false

/-- a number and keys, one behind the other -/
def kyL (a : Nat) (l : List ByteArray) : List UInt8 := UInt8.ofNat a :: l.flatMap (fun p => p.data.toList)
def kyB (a : Nat) (l : List ByteArray) : ByteArray := ⟨(kyL a l).toArray⟩
theorem kyL_step (a : Nat) (l : List ByteArray) (k : Nat) (h : k < l.length) : kyL a (l.take (k + 1)) = kyL a (l.take k) ++ l[k].data.toList := by
  unfold kyL
  rw [← List.take_append_getElem h, List.flatMap_append]
  simp
theorem kyB_step (a : Nat) (l : List ByteArray) (k : Nat) (h : k < l.length) : kyB a (l.take k) ++ l[k] = kyB a (l.take (k + 1)) := by
  apply ByteArray.ext
  apply Array.toList_inj.1
  unfold kyB
  rw [kyL_step a l k h]
  simp [ByteArray.data_append]
theorem kyL_len (a : Nat) (l : List ByteArray) (hw : wideB l = true) : (kyL a l).length = 1 + 16 * l.length := by
  unfold kyL
  induction l with
  | nil => simp
  | cons x r ih =>
    have h1 := wideB_at hw 0 (by simp)
    have h2 : wideB r = true := by
      unfold wideB at hw ⊢
      simp at hw
      simpa using hw.2
    have h3 := ih h2
    have h4 : x.data.toList.length = 16 := by rw [Array.length_toList]; exact h1
    simp only [List.length_cons, List.flatMap_cons, List.length_append] at h3 ⊢
    omega
theorem wideB_take {l : List ByteArray} (h : wideB l = true) (k : Nat) : wideB (l.take k) = true := by
  unfold wideB at *
  rw [List.all_eq_true] at *
  exact fun x hx => h x (List.mem_of_mem_take hx)
theorem wideB_append {l r : List ByteArray} (h : wideB l = true) (k : wideB r = true) : wideB (l ++ r) = true := by
  unfold wideB at *
  rw [List.all_append, h, k]
  rfl
theorem kyB_size (a : Nat) (l : List ByteArray) : (kyB a l).size = (kyL a l).length := by simp [kyB, ByteArray.size]

/-- what SigText is -/
def sigB (a : Int) (o s d : List ByteArray) : ByteArray := if formB a o s d then kyB a.toNat (o ++ s ++ d) else ⟨#[]⟩

/-- a row of texts appended, in a region that draws -/
theorem step_appRow {w : World} {ops : Array Oper} {o : Oper} {a : Act} {K : Act → World → Prop} {Q : Exit → Act → World → Prop} {E : Prop} (hg : o.guard = none) (s x : Operand)
    (hop : o.op = .call { callee := .builtin .append, args := #[s, x], argTypes := #[28, 28] })
    (B : Nat) (w0 : World) (v u : Value) (l r : List ByteArray) (hs : a.eval s = v) (hown : OS B w0 w v l) (hx : a.eval x = u) (g of : Nat) (hr : SS w u g of r) (h0 : 0 < r.length) (hlen : l.length + r.length ≤ 1000000)
    (hK : ∀ v' w', OS B w0 w' v' (l ++ r) → K (a.put o.dst v') w') : if Region.wanted o (yielded ops a.tmps) = true then Oper.wp Tryd.prog o a w K Q else E := by
  obtain ⟨i0, hi, hz0, hz1, hz2⟩ := info_parts Tryd.info9
  obtain ⟨ao, cap, rfl, _, hA, hc⟩ := hr
  have ea := hA h0
  subst ea
  obtain ⟨v', w', hrun, h1, h2, _⟩ := run_append_own (P := Tryd.prog) w B 28 o.type 9 i0 (.string ByteArray.empty) 1 16 Tryd.underlying28 hi hz0 hz1 hz2 rfl (by decide) v l.length (svs l) hown.1 ⟨g, of, none⟩ r.length cap (svs r) (by simp [svs]) (by
      intro j u hj
      have hj2 : j < r.length := by
        have := (List.getElem?_eq_some_iff.1 hj).1
        simpa [svs] using this
      have e : (⟨g, of, none⟩ : Addr).add j = ⟨g, of + j, none⟩ := by unfold Addr.add; split <;> simp_all
      rw [e, hc j hj2]
      simp [svs, List.getElem?_eq_getElem hj2] at hj
      rw [hj])
    (fun u hu => by simp [svs] at hu; obtain ⟨b, _, rfl⟩ := hu; rfl) (by unfold maxLen; omega) (by omega) hown.2.2
  have hOB : OS B w0 w' v' (l ++ r) := ⟨by rw [List.length_append, svs_append]; exact h1, hown.2.1.grown h2 hown.2.2 (fun k hk => (hown.1.lt k hk).1), Nat.le_trans hown.2.2 h2.size⟩
  have hw : Region.wanted o (yielded ops a.tmps) = true := by simp [Region.wanted, hg]
  rw [if_pos hw]
  unfold Oper.wp
  simp [execOp, hop, resolve, invoke, builtin, hs, hx, hrun, Result.andThen]
  exact hK v' w' hOB

def SxR (a : Nat) (L : List ByteArray) (w : World) (s i : Value) (wr : World) : Prop := ∃ k : Nat, k ≤ L.length ∧ i = .int .i64 k ∧ s = .string (kyB a (L.take k)) ∧ wr = w

set_option maxRecDepth 100000 in
set_option maxHeartbeats 2000000 in
theorem sSigText_yes (a : Nat) (vo vs vd : Value) (g1 o1 g2 o2 g3 o3 : Nat) (o s d : List ByteArray) (w : World) (ho : SS w vo g1 o1 o) (hs : SS w vs g2 o2 s) (hd : SS w vd g3 o3 d) (hf : formB (a : Int) o s d = true) :
    Calls Tryd.prog 91 #[.agg #[.int .i64 a, vo, vs, vd]] w fun e w' => e = .returned (.tuple #[.string (kyB a (o ++ s ++ d)), .bool true]) ∧ Below w.heap.size w w' := by
  obtain ⟨hA, ⟨wo, lo⟩, ⟨ws, ls⟩, wd, ld⟩ := formB_parts hf
  have hB : Below w.heap.size w (w.alloc (.cells #[.int .i64 a, vo, vs, vd] 37)) := (Below.refl _ _).alloc (Nat.le_refl _) _
  have hc := l05Form_any (a : Int) vo vs vd g1 o1 g2 o2 g3 o3 o s d _ (ho.below hB ho.lt) (hs.below hB hs.lt) (hd.below hB hd.lt)
  rw [hf] at hc
  have HSS : Hid (∀ W, Below w.heap.size w W → SS W vo g1 o1 o ∧ SS W vs g2 o2 s ∧ SS W vd g3 o3 d) := fun W hW => ⟨ho.below hW ho.lt, hs.below hW hs.lt, hd.below hW hd.lt⟩
  have HC : Hid (Calls Tryd.prog 73 #[.agg #[.int .i64 a, vo, vs, vd]] (w.alloc (.cells #[.int .i64 a, vo, vs, vd] 37)) fun e w' => e = .returned (.bool true) ∧ Below (w.alloc (.cells #[.int .i64 a, vo, vs, vd] 37)).heap.size (w.alloc (.cells #[.int .i64 a, vo, vs, vd] 37)) w') := hc
  have HB : Hid (Below w.heap.size w (w.alloc (.cells #[.int .i64 a, vo, vs, vd] 37)) ∧ SgM (w.alloc (.cells #[.int .i64 a, vo, vs, vd] 37)) w.heap.size a vo vs vd) := ⟨hB, SgM.new w _ _ _ _⟩
  have HW : Hid ((∀ k, (kyB a ((o ++ s ++ d).take k)).size ≤ 1000) ∧ (o ++ s ++ d).length = 20 ∧ wideB (o ++ s ++ d) = true) := by
    have hw := wideB_append (wideB_append wo ws) wd
    have hl : (o ++ s ++ d).length = 20 := by simp [lo, ls, ld]
    refine ⟨fun k => ?_, hl, hw⟩
    rw [kyB_size, kyL_len _ _ (wideB_take hw k), List.length_take, hl]
    omega
  have HLN : Hid (o.length = 8 ∧ s.length = 8 ∧ d.length = 4) := ⟨lo, ls, ld⟩
  obtain ⟨ao, co, rfl, _, x1⟩ := ho
  obtain ⟨as2, cs2, rfl, _, x2⟩ := hs
  obtain ⟨ad, cd, rfl, _, x3⟩ := hd
  rw [lo, ls, ld] at HSS HC HB ⊢
  clear x1 x2 x3 hc hB hf wo ws wd lo ls ld
  have ha : a ≤ 15 := by omega
  clear hA
  obtain ⟨L, hL⟩ : ∃ L, o ++ s ++ d = L := ⟨_, rfl⟩
  have HL : Hid (o ++ s ++ d = L) := hL
  rw [hL] at HW ⊢
  clear hL
  go_enter Tryd.func91, Tryd.ntmps91
  go_wp2_with fail
  refine HC.out.mono ?_
  rintro e w1 ⟨rfl, hb1⟩
  have b1 := HB.out.1.trans (hb1.mono HB.out.1.size)
  have hS1 := HB.out.2.later hb1
  have c0 := hS1.c0
  have c1 := hS1.c1
  have c2 := hS1.c2
  have c3 := hS1.c3
  have hlt := hS1.lt
  have hcv := one_s w1 (a : Int) (UInt8.ofNat a) (by simp; omega)
  have e1 : (⟨[UInt8.ofNat a].toArray⟩ : ByteArray) = kyB a [] := rfl
  rw [e1] at hcv
  have b2 : Below w1.heap.size w1 (w1.alloc (.cells #[.int .u8 (a : Int)] 5)) := (Below.refl _ _).alloc (Nat.le_refl _) _
  have bw2 := b1.trans (b2.mono b1.size)
  have hS2 := hS1.later b2
  clear HC e1 hS1 b1 hb1 b2
  go_wp2
  clear hcv c0 c1 c2 c3 hlt
  have c1 := hS2.c1
  have c2 := hS2.c2
  have c3 := hS2.c3
  have hlt := hS2.lt
  clear hS2
  generalize w1.alloc (.cells #[.int .u8 (a : Int)] 5) = w2 at *
  have HM : Hid (OS w2.heap.size w2 ((w2.alloc (.cells #[] 9)).drew) (.slice (some ⟨w2.heap.size, 0, none⟩) 0 0) [] ∧ Below w.heap.size w ((w2.alloc (.cells #[] 9)).drew)) := ⟨(OS.made w2).drew, (bw2.alloc bw2.size _).drew⟩
  have HBW : Hid (Below w.heap.size w w2) := bw2
  have hwz := bw2.size
  clear bw2
  go_region_held3 (fun W => W.cell? ⟨w.heap.size, 1, none⟩ = some (.slice ao 8 co) ∧ W.cell? ⟨w.heap.size, 2, none⟩ = some (.slice as2 8 cs2) ∧ W.cell? ⟨w.heap.size, 3, none⟩ = some (.slice ad 4 cd)) (first | go_keep | exact ⟨(hos3.2.1.cell (p := ⟨w.heap.size, 1, none⟩) hlt).trans c1, (hos3.2.1.cell (p := ⟨w.heap.size, 2, none⟩) hlt).trans c2, (hos3.2.1.cell (p := ⟨w.heap.size, 3, none⟩) hlt).trans c3⟩ | exact ⟨(hos2.2.1.cell (p := ⟨w.heap.size, 1, none⟩) hlt).trans c1, (hos2.2.1.cell (p := ⟨w.heap.size, 2, none⟩) hlt).trans c2, (hos2.2.1.cell (p := ⟨w.heap.size, 3, none⟩) hlt).trans c3⟩ | exact ⟨(hos1.2.1.cell (p := ⟨w.heap.size, 1, none⟩) hlt).trans c1, (hos1.2.1.cell (p := ⟨w.heap.size, 2, none⟩) hlt).trans c2, (hos1.2.1.cell (p := ⟨w.heap.size, 3, none⟩) hlt).trans c3⟩) ((first | (refine step_appRow rfl _ _ rfl w2.heap.size w2 _ _ [] o (by rfl) HM.out.1 (by rfl) g1 o1 (HSS.out _ HM.out.2).1 (by rw [HLN.out.1]; omega) (by rw [HLN.out.1]; simp) ?_; intro v3 w3 hos1) | (refine step_appRow rfl _ _ rfl w2.heap.size w2 _ _ o s (by rfl) hos1 (by rfl) g2 o2 (HSS.out _ (HBW.out.trans (hos1.2.1.mono HBW.out.size))).2.1 (by rw [HLN.out.2.1]; omega) (by rw [HLN.out.1, HLN.out.2.1]; omega) ?_; intro v4 w4 hos2) | (refine step_appRow rfl _ _ rfl w2.heap.size w2 _ _ (o ++ s) d (by rfl) hos2 (by rfl) g3 o3 (HSS.out _ (HBW.out.trans (hos2.2.1.mono HBW.out.size))).2.2 (by rw [HLN.out.2.2]; omega) (by rw [List.length_append, HLN.out.1, HLN.out.2.1, HLN.out.2.2]; omega) ?_; intro v5 w5 hos3)))
  have bw5 := HBW.out.trans (hos3.2.1.mono HBW.out.size)
  have hos := hos3
  rw [HL.out] at hos
  clear hos1 hos2 hos3 HM HBW HSS c1 c2 c3
  obtain ⟨gL, hsL⟩ := hos.ss (by rw [HW.out.2.1]; omega)
  obtain ⟨aL, cL, hvL, _, hAL, hcL⟩ := hsL
  have hAL := hAL (by rw [HW.out.2.1]; omega)
  rw [HW.out.2.1] at hvL
  subst hAL
  subst hvL
  have HCL : Hid (∀ j (h : j < L.length), w5.cell? ⟨gL, j, none⟩ = some (.string L[j])) := fun j hj => by have := hcL j hj; rw [Nat.zero_add] at this; exact this
  have HST : Hid (SxR a L w5 (.string (kyB a [])) (.int .i64 0) w5) := ⟨0, by omega, rfl, rfl, rfl⟩
  clear hos hcL
  go_wp2
  go_loopw [4, 6] (fun s i wr => SxR a L w5 s i wr) (fun _ i _ => 20 - (intOf i).toNat)
  case atStart => exact HST.out
  case round =>
    obtain ⟨k, hk, rfl, rfl, rfl⟩ := hrel
    clear HST
    rw [HW.out.2.1] at hk
    by_cases hlt2 : k < 20
    · have c0 := HCL.out k (by rw [HW.out.2.1]; exact hlt2)
      have hst := kyB_step a L k (by rw [HW.out.2.1]; exact hlt2)
      have z1 := HW.out.1 k
      have z2 := wideB_at HW.out.2.2 k (by rw [HW.out.2.1]; exact hlt2)
      have i1 : (k : Int) < 20 := by omega
      have i2 : (0 : Int) ≤ (k : Int) := by omega
      have HN : Hid (SxR a L wr (.string (kyB a (L.take k) ++ L[k]'(by rw [HW.out.2.1]; exact hlt2))) (.int .i64 ((k : Int) + 1)) wr) := by
        rw [hst]
        exact ⟨k + 1, by rw [HW.out.2.1]; omega, by simp, rfl, rfl⟩
      generalize L[k]'(by rw [HW.out.2.1]; exact hlt2) = X at *
      generalize kyB a (L.take k) = S at *
      have q : ¬ (9223372036854775807 < S.size + X.size) := by omega
      clear hst HCL HW
      go_wp2
      go_roundw
      case rel => exact HN.out
      case measure => simp [intOf]; omega
    · have hke : k = 20 := by omega
      subst hke
      have e : L.take 20 = L := List.take_of_length_le (by rw [HW.out.2.1]; omega)
      rw [e]
      go_wp2
      go_ret2
      exact ⟨rfl, bw5⟩

theorem sSigText_no (a : Int) (vo vs vd : Value) (g1 o1 g2 o2 g3 o3 : Nat) (o s d : List ByteArray) (w : World) (ho : SS w vo g1 o1 o) (hs : SS w vs g2 o2 s) (hd : SS w vd g3 o3 d) (hf : formB a o s d = false) :
    Calls Tryd.prog 91 #[.agg #[.int .i64 a, vo, vs, vd]] w fun e w' => e = .returned (.tuple #[.string ⟨#[]⟩, .bool false]) ∧ Below w.heap.size w w' := by
  have hB : Below w.heap.size w (w.alloc (.cells #[.int .i64 a, vo, vs, vd] 37)) := (Below.refl _ _).alloc (Nat.le_refl _) _
  have hc := l05Form_any a vo vs vd g1 o1 g2 o2 g3 o3 o s d _ (ho.below hB ho.lt) (hs.below hB hs.lt) (hd.below hB hd.lt)
  rw [hf] at hc
  have HC : Hid (Calls Tryd.prog 73 #[.agg #[.int .i64 a, vo, vs, vd]] (w.alloc (.cells #[.int .i64 a, vo, vs, vd] 37)) fun e w' => e = .returned (.bool false) ∧ Below (w.alloc (.cells #[.int .i64 a, vo, vs, vd] 37)).heap.size (w.alloc (.cells #[.int .i64 a, vo, vs, vd] 37)) w') := hc
  have HB : Hid (Below w.heap.size w (w.alloc (.cells #[.int .i64 a, vo, vs, vd] 37))) := hB
  obtain ⟨ao, co, rfl, _, x1⟩ := ho
  obtain ⟨as2, cs2, rfl, _, x2⟩ := hs
  obtain ⟨ad, cd, rfl, _, x3⟩ := hd
  clear x1 x2 x3 hc hB hf
  go_enter Tryd.func91, Tryd.ntmps91
  go_wp2_with fail
  refine HC.out.mono ?_
  rintro e w1 ⟨rfl, hb1⟩
  go_wp2
  go_ret2
  exact ⟨rfl, HB.out.trans (hb1.mono HB.out.size)⟩
theorem SigText_no (a : Int) (vo vs vd : Value) (g1 o1 g2 o2 g3 o3 : Nat) (o s d : List ByteArray) (w : World) (ho : SS w vo g1 o1 o) (hs : SS w vs g2 o2 s) (hd : SS w vd g3 o3 d) (hf : formB a o s d = false) :
    Calls Tryd.prog 51 #[.agg #[.int .i64 a, vo, vs, vd]] w fun e w' => e = .returned (.tuple #[.string ⟨#[]⟩, .bool false]) ∧ Below w.heap.size w w' := by
  have hB : Below w.heap.size w (w.alloc (.cells #[.int .i64 a, vo, vs, vd] 37)) := (Below.refl _ _).alloc (Nat.le_refl _) _
  have hc := sigFormOk_any a vo vs vd g1 o1 g2 o2 g3 o3 o s d _ (ho.below hB ho.lt) (hs.below hB hs.lt) (hd.below hB hd.lt)
  rw [hf] at hc
  have HC : Hid (Calls Tryd.prog 76 #[.agg #[.int .i64 a, vo, vs, vd]] (w.alloc (.cells #[.int .i64 a, vo, vs, vd] 37)) fun e w' => e = .returned (.bool false) ∧ Below (w.alloc (.cells #[.int .i64 a, vo, vs, vd] 37)).heap.size (w.alloc (.cells #[.int .i64 a, vo, vs, vd] 37)) w') := hc
  have HB : Hid (Below w.heap.size w (w.alloc (.cells #[.int .i64 a, vo, vs, vd] 37))) := hB
  obtain ⟨ao, co, rfl, _, x1⟩ := ho
  obtain ⟨as2, cs2, rfl, _, x2⟩ := hs
  obtain ⟨ad, cd, rfl, _, x3⟩ := hd
  clear x1 x2 x3 hc hB hf
  go_enter Tryd.func51, Tryd.ntmps51
  go_wp2_with fail
  refine HC.out.mono ?_
  rintro e w1 ⟨rfl, hb1⟩
  go_wp2
  go_ret2
  exact ⟨rfl, HB.out.trans (hb1.mono HB.out.size)⟩

/-- a string appended to what is owned, and that nothing else turned -/
theorem wp_appStrG {w : World} {ops : Array Oper} {rest : List Oper} {o : Oper} {a : Act} {Q : Exit → Act → World → Prop} (hgd : o.guard = none) (s x : Operand)
    (ho : o.op = .call { callee := .builtin .append, args := #[s, x], argTypes := #[50, 9] })
    (B : Nat) (w0 : World) (v : Value) (l : List UInt8) (hs : a.eval s = v) (hown : OB B w0 w v l) (t : ByteArray) (hx : a.eval x = .string t) (hlen : l.length + t.size ≤ 1000000000)
    (h : ∀ v' w', OB B w0 w' v' (l ++ t.data.toList) → w.grownBy w' v.ownBlock → wpList Tryd.prog ops Q rest (a.put o.dst v') w') : wpList Tryd.prog ops Q (o :: rest) a w := by
  obtain ⟨i0, hi, hz0, hz1, hz2⟩ := info_parts Tryd.info5
  refine Lib.wpList_append_own_string w hgd s x 50 9 ho B 5 i0 Tryd.underlying50 Tryd.underlying9 hi hz0 hz1 hz2 v l.length (bv l) hs hown.1 t hx (by unfold maxLen; omega) (by omega) hown.2.2 ?_
  intro v' w' h1 h2 _
  have e : t.data.toList.length = t.size := Array.length_toList
  refine h v' w' ⟨?_, hown.2.1.grown h2 hown.2.2 (fun k hk => (hown.1.lt k hk).1), Nat.le_trans hown.2.2 h2.size⟩ h2
  rw [List.length_append, bv_append, e]
  exact h1
/-- the block of the three lists -/
def LL (w : World) (g : Nat) (v1 v2 v3 : Value) : Prop := w.heap[g]? = some (.cells #[v1, v2, v3] 28 (0, 0))
theorem LL.kept {w w' : World} {g B : Nat} {w0 : World} {v v1 v2 v3 : Value} {l : List UInt8} (h : LL w g v1 v2 v3) (ho : OB B w0 w v l) (hg : w.grownBy w' v.ownBlock) : LL w' g v1 v2 v3 := by
  have hlt : g < w.heap.size := (Array.getElem?_eq_some_iff.1 h).1
  unfold LL at *
  rw [hg.block g hlt ?_, h]
  intro he
  rcases ho.1.2 with ⟨rfl, _⟩ | ⟨g', cap, cur, rfl, _, hg', _⟩
  · simp [Value.ownBlock] at he
  · simp [Value.ownBlock] at he
    subst he
    rw [h] at hg'
    simp at hg'

/-- what the inner loop of SigText holds -/
def StI (a : Nat) (P l : List ByteArray) (w : World) (g : Nat) (v1 v2 v3 v i : Value) (wr : World) : Prop :=
  ∃ k : Nat, k ≤ l.length ∧ i = .int .i64 k ∧ OB w.heap.size w wr v (kyL a (P ++ l.take k)) ∧ LL wr g v1 v2 v3
/-- what the outer one holds -/
def StO (a : Nat) (o s d : List ByteArray) (w : World) (g : Nat) (v1 v2 v3 v i : Value) (wr : World) : Prop :=
  ∃ j : Nat, j ≤ 3 ∧ i = .int .i64 j ∧ OB w.heap.size w wr v (kyL a (([o, s, d].take j).flatten)) ∧ LL wr g v1 v2 v3

theorem kyL_more (a : Nat) (P l : List ByteArray) (k : Nat) (h : k < l.length) : kyL a (P ++ l.take k) ++ l[k].data.toList = kyL a (P ++ l.take (k + 1)) := by
  unfold kyL
  have e : l.take (k + 1) = l.take k ++ [l[k]] := (List.take_append_getElem h).symm
  rw [e]
  simp only [List.flatMap_append, List.flatMap_cons, List.flatMap_nil, List.append_nil, List.cons_append, List.append_assoc]

theorem LL.cell {w : World} {g : Nat} {v1 v2 v3 : Value} (h : LL w g v1 v2 v3) (j : Nat) (v : Value) (hv : #[v1, v2, v3][j]? = some v) : w.cell? ⟨g, j, none⟩ = some v := by
  rw [cell_of_row w g j _ _ (0, 0) h]
  exact hv

set_option maxRecDepth 100000 in
set_option maxHeartbeats 2000000 in
theorem SigText_yes (a : Nat) (vo vs vd : Value) (g1 o1 g2 o2 g3 o3 : Nat) (o s d : List ByteArray) (w : World) (ho : SS w vo g1 o1 o) (hs : SS w vs g2 o2 s) (hd : SS w vd g3 o3 d) (hf : formB (a : Int) o s d = true) :
    Calls Tryd.prog 51 #[.agg #[.int .i64 a, vo, vs, vd]] w fun e w' => e = .returned (.tuple #[.string (kyB a (o ++ s ++ d)), .bool true]) ∧ Below w.heap.size w w' := by
  obtain ⟨hA, ⟨wo, lo⟩, ⟨ws, ls⟩, wd, ld⟩ := formB_parts hf
  have hB : Below w.heap.size w (w.alloc (.cells #[.int .i64 a, vo, vs, vd] 37)) := (Below.refl _ _).alloc (Nat.le_refl _) _
  have hc := sigFormOk_any (a : Int) vo vs vd g1 o1 g2 o2 g3 o3 o s d _ (ho.below hB ho.lt) (hs.below hB hs.lt) (hd.below hB hd.lt)
  rw [hf] at hc
  have HC : Hid (Calls Tryd.prog 76 #[.agg #[.int .i64 a, vo, vs, vd]] (w.alloc (.cells #[.int .i64 a, vo, vs, vd] 37)) fun e w' => e = .returned (.bool true) ∧ Below (w.alloc (.cells #[.int .i64 a, vo, vs, vd] 37)).heap.size (w.alloc (.cells #[.int .i64 a, vo, vs, vd] 37)) w') := hc
  have HB : Hid (Below w.heap.size w (w.alloc (.cells #[.int .i64 a, vo, vs, vd] 37)) ∧ SgM (w.alloc (.cells #[.int .i64 a, vo, vs, vd] 37)) w.heap.size a vo vs vd) := ⟨hB, SgM.new w _ _ _ _⟩
  have HSEL : Hid (∀ j, j < 3 → ∃ (v : Value) (l : List ByteArray) (g of : Nat) (x : Option Addr) (c : Nat), #[vo, vs, vd][j]? = some v ∧ v = .slice x l.length c ∧ (∀ W, Below w.heap.size w W → SS W v g of l) ∧ wideB l = true ∧ l.length ≤ 8 ∧ ([o, s, d].take j).flatten ++ l = ([o, s, d].take (j + 1)).flatten ∧ ([o, s, d].take (j + 1)).flatten.length ≤ 20) := by
    intro j hj
    have h0 : j = 0 ∨ j = 1 ∨ j = 2 := by omega
    rcases h0 with rfl | rfl | rfl
    · obtain ⟨x, c, hv, _⟩ := id ho
      exact ⟨vo, o, g1, o1, x, c, rfl, hv, fun W hW => ho.below hW ho.lt, wo, by omega, by simp, by simp [lo]⟩
    · obtain ⟨x, c, hv, _⟩ := id hs
      exact ⟨vs, s, g2, o2, x, c, rfl, hv, fun W hW => hs.below hW hs.lt, ws, by omega, by simp, by simp [lo, ls]⟩
    · obtain ⟨x, c, hv, _⟩ := id hd
      exact ⟨vd, d, g3, o3, x, c, rfl, hv, fun W hW => hd.below hW hd.lt, wd, by omega, by simp, by simp [lo, ls, ld]⟩
  have HWI : Hid (∀ j, wideB ([o, s, d].take j).flatten = true) := by
    intro j
    have h0 : j = 0 ∨ j = 1 ∨ j = 2 ∨ 3 ≤ j := by omega
    rcases h0 with rfl | rfl | rfl | h
    · rfl
    · simpa using wo
    · simpa using wideB_append wo ws
    · rw [List.take_of_length_le (by simpa using h)]
      simpa using wideB_append wo (wideB_append ws wd)
  have HEND : Hid (kyL a ([o, s, d].take 3).flatten = kyL a (o ++ s ++ d)) := by show kyL a _ = kyL a _; simp
  obtain ⟨ao, co, rfl, _, x1⟩ := ho
  obtain ⟨as2, cs2, rfl, _, x2⟩ := hs
  obtain ⟨ad, cd, rfl, _, x3⟩ := hd
  rw [lo, ls, ld] at HSEL HC HB ⊢
  clear x1 x2 x3 hc hB hf wo ws wd lo ls ld
  have ha : a ≤ 15 := by omega
  clear hA
  obtain ⟨T, hTe⟩ : ∃ T, kyB a (o ++ s ++ d) = T := ⟨_, rfl⟩
  have HTe : Hid (kyB a (o ++ s ++ d) = T) := hTe
  rw [hTe]
  clear hTe
  go_enter Tryd.func51, Tryd.ntmps51
  go_wp2_with fail
  refine HC.out.mono ?_
  rintro e w1 ⟨rfl, hb1⟩
  have b1 := HB.out.1.trans (hb1.mono HB.out.1.size)
  have hS1 := HB.out.2.later hb1
  have c0 := hS1.c0
  have c1 := hS1.c1
  have c2 := hS1.c2
  have c3 := hS1.c3
  have hlt := hS1.lt
  have HST : Hid (StO a o s d w (w1.heap.size + 1) (.slice ao 8 co) (.slice as2 8 cs2) (.slice ad 4 cd) (.slice (some ⟨w1.heap.size, 0, none⟩) 1 1) (.int .i64 0) ((w1.alloc (.cells #[.int .u8 (a : Int)] 5)).alloc (.cells #[.slice ao 8 co, .slice as2 8 cs2, .slice ad 4 cd] 28))) := by
    have h1 := OB.one w1 (a : Int) (UInt8.ofNat a) (by simp; omega)
    have h2 : OB w.heap.size w (w1.alloc (.cells #[.int .u8 (a : Int)] 5)) (.slice (some ⟨w1.heap.size, 0, none⟩) 1 1) [UInt8.ofNat a] := by
      refine ⟨⟨h1.1.1, ?_⟩, b1.trans (h1.2.1.mono b1.size), Nat.le_trans b1.size h1.2.2⟩
      rcases h1.1.2 with hn | ⟨g, cap, cur, hv, hbg, rest⟩
      · exact .inl hn
      · exact .inr ⟨g, cap, cur, hv, Nat.le_trans b1.size hbg, rest⟩
    refine ⟨0, by omega, rfl, h2.alloc _, ?_⟩
    have e : (w1.alloc (.cells #[.int .u8 (a : Int)] 5)).heap.size = w1.heap.size + 1 := by simp
    unfold LL
    rw [← e]
    exact Go.heap_alloc_new _ _
  clear HC hS1 b1 hb1
  go_wp2
  go_loopw [4, 24] (fun v i wr => StO a o s d w (w1.heap.size + 1) (.slice ao 8 co) (.slice as2 8 cs2) (.slice ad 4 cd) v i wr) (fun _ i _ => 3 - (intOf i).toNat)
  case atStart => exact HST.out
  case round =>
    obtain ⟨j, hj, rfl, hob, hll⟩ := hrel
    clear HST
    by_cases hlt3 : j < 3
    · obtain ⟨v, l, g, of, x, c, hsel, rfl, HSS, hwl, hl8, hnx, hn20⟩ := HSEL.out j hlt3
      have cj := hll.cell j _ hsel
      have hwP := HWI.out j
      have HNX : Hid (∀ v W, OB w.heap.size w W v (kyL a (([o, s, d].take j).flatten ++ l)) → LL W (w1.heap.size + 1) (.slice ao 8 co) (.slice as2 8 cs2) (.slice ad 4 cd) → StO a o s d w (w1.heap.size + 1) (.slice ao 8 co) (.slice as2 8 cs2) (.slice ad 4 cd) v (.int .i64 ((j : Int) + 1)) W) := by
        rw [hnx]
        exact fun v W hW hL => ⟨j + 1, by omega, by simp, hW, hL⟩
      have hPl : (([o, s, d].take j).flatten).length + l.length ≤ 20 := by rw [← List.length_append, hnx]; exact hn20
      generalize ([o, s, d].take j).flatten = P at *
      have i1 : (j : Int) < 3 := by omega
      have i2 : (0 : Int) ≤ (j : Int) := by omega
      obtain ⟨n, hn⟩ : ∃ n, l.length = n := ⟨_, rfl⟩
      have HN : Hid (l.length = n) := hn
      rw [hn] at cj hl8 hPl HSS
      have HSS : Hid (∀ W, Below w.heap.size w W → SS W (.slice x n c) g of l) := HSS
      have HS2 : Hid (StI a P l w (w1.heap.size + 1) (.slice ao 8 co) (.slice as2 8 cs2) (.slice ad 4 cd) u4 (.int .i64 0) wr) := ⟨0, by omega, rfl, by simpa using hob, hll⟩
      have HW1 : Hid (wideB l = true ∧ wideB P = true) := ⟨hwl, hwP⟩
      clear hob hll hsel hnx hn hwl hwP hn20
      go_wp2
      go_loopw [4, 30] (fun v i wr => StI a P l w (w1.heap.size + 1) (.slice ao 8 co) (.slice as2 8 cs2) (.slice ad 4 cd) v i wr) (fun _ i _ => n - (intOf i).toNat)
      case atStart => exact HS2.out
      case round =>
        obtain ⟨k, hk, rfl, hob, hll⟩ := hrel
        clear HS2 cj
        rw [HN.out] at hk
        by_cases hlt4 : k < n
        · have hsw := HSS.out _ hob.2.1
          obtain ⟨x', c', hv', _, hAx, hcx⟩ := hsw
          have ex := hAx (by rw [HN.out]; omega)
          rw [HN.out] at hv'
          simp at hv'
          obtain ⟨rfl, rfl⟩ := hv'
          subst ex
          have c0 := hcx k (by rw [HN.out]; exact hlt4)
          have hst := kyL_more a P l k (by rw [HN.out]; exact hlt4)
          have z2 := wideB_at HW1.out.1 k (by rw [HN.out]; exact hlt4)
          have z1 : (kyL a (P ++ l.take k)).length ≤ 1000 := by
            rw [kyL_len _ _ (wideB_append HW1.out.2 (wideB_take HW1.out.1 k)), List.length_append, List.length_take]
            omega
          have i3 : (k : Int) < (n : Int) := by omega
          have i4 : (0 : Int) ≤ (k : Int) := by omega
          have HNN : Hid (∀ v W, OB w.heap.size w W v (kyL a (P ++ l.take k) ++ (l[k]'(by rw [HN.out]; exact hlt4)).data.toList) → LL W (w1.heap.size + 1) (.slice ao 8 co) (.slice as2 8 cs2) (.slice ad 4 cd) → StI a P l w (w1.heap.size + 1) (.slice ao 8 co) (.slice as2 8 cs2) (.slice ad 4 cd) v (.int .i64 ((k : Int) + 1)) W) := by
            rw [hst]
            exact fun v W hW hL => ⟨k + 1, by rw [HN.out]; omega, by simp, hW, hL⟩
          generalize l[k]'(by rw [HN.out]; exact hlt4) = X at *
          generalize kyL a (P ++ l.take k) = Y at *
          clear hAx hcx hst
          go_wp2_with (at_builtin; refine wp_appStrG rfl _ _ rfl w.heap.size w _ Y rfl hob X rfl ?c1 ?_)
          case c1 => omega
          intro v' w2 hob2 hgr
          have hll2 := hll.kept hob hgr
          clear hgr hob hll c0
          go_wp2
          go_roundw
          case rel => exact HNN.out _ _ hob2 hll2
          case measure => simp [intOf]; omega
        · have hke : k = n := by omega
          have e : l.take k = l := List.take_of_length_le (by rw [HN.out]; omega)
          rw [e] at hob
          have HN3 := HNX.out _ _ hob hll
          subst hke
          clear hob hll e
          have HN3 : Hid _ := HN3
          go_wp2
          go_roundw
          case rel => exact HN3.out
          case measure => simp [intOf]; omega
    · have hje : j = 3 := by omega
      subst hje
      rw [HEND.out] at hob
      have hcv := run_str hob
      have e3 : (⟨(kyL a (o ++ s ++ d)).toArray⟩ : ByteArray) = T := by rw [← HTe.out]; rfl
      rw [e3] at hcv
      clear e3
      go_wp2
      go_ret2
      exact ⟨rfl, hob.2.1⟩

end Go.Proofs.YthkknckpippjhaaDoor
/-
  A signature taken over by a law; the walk of the law FnExactSigText.
-/
namespace Go.Proofs.YthkknckpippjhaaDoor
open Go.RowKit Go.BigFrame
set_option linter.unusedVariables false

/-- a signature, answered -/
theorem ret_sig1 {fn : Func} {Rp : Ending → World → Prop} {a : Act} {w : World} (c g : Nat) (x : Int) (v1 v2 v3 : Value) (hres : fn.results = #[.cell c 37]) (hd : a.defers = []) (hp : a.tmps.getD c undef = .pointer (some ⟨g, 0, none⟩))
    (hA : SgM w g x v1 v2 v3) (h : Rp (.returned (.agg #[.int .i64 x, v1, v2, v3])) w) : bodyPost Tryd.prog fn Rp .ret a w := by
  have hr := load_sig hA
  refine bodyPost_ret (v := .agg #[.int .i64 x, v1, v2, v3]) ?_ hd h
  have hp' : a.tmps[c]?.getD undef = .pointer (some ⟨g, 0, none⟩) := by simpa using hp
  simp [results, hres, asAddr, hr, hp']

/-- three cells of a block -/
def CX (w : World) (g : Nat) (v1 v2 v3 : Value) : Prop := w.cell? ⟨g, 1, none⟩ = some v1 ∧ w.cell? ⟨g, 2, none⟩ = some v2 ∧ w.cell? ⟨g, 3, none⟩ = some v3 ∧ g < w.heap.size
theorem CX.later {w w' : World} {g : Nat} {v1 v2 v3 : Value} (h : CX w g v1 v2 v3) (hb : Below w.heap.size w w') : CX w' g v1 v2 v3 :=
  ⟨(hb.cell (p := ⟨g, 1, none⟩) h.2.2.2).trans h.1, (hb.cell (p := ⟨g, 2, none⟩) h.2.2.2).trans h.2.1, (hb.cell (p := ⟨g, 3, none⟩) h.2.2.2).trans h.2.2.1, Nat.lt_of_lt_of_le h.2.2.2 hb.size⟩
theorem CX.keptG {w w' : World} {g : Nat} {row : Option Nat} {v1 v2 v3 : Value} (h : CX w g v1 v2 v3) (hg : w.grownBy w' row) (hne : some g ≠ row) : CX w' g v1 v2 v3 := by
  have e := hg.block g h.2.2.2 hne
  exact ⟨(World.cell?_of_block (w := w) e).trans h.1, (World.cell?_of_block (w := w) e).trans h.2.1, (World.cell?_of_block (w := w) e).trans h.2.2.1, Nat.lt_of_lt_of_le h.2.2.2 hg.size⟩

/-- what stands behind each list that was taken over -/
def TgH (w W : World) (vo vs vd : Value) (a : Int) (v1 v2 v3 : Value) : Prop := CX W w.heap.size vo vs vd ∧ SgM W (w.heap.size + 1) 0 (.slice none 0 0) (.slice none 0 0) (.slice none 0 0) ∧ SgM W (w.heap.size + 1 + 1) a v1 v2 v3 ∧ Below w.heap.size w W
theorem TgH.later {w W W' : World} {vo vs vd : Value} {a : Int} {v1 v2 v3 : Value} (h : TgH w W vo vs vd a v1 v2 v3) (hb : Below W.heap.size W W') : TgH w W' vo vs vd a v1 v2 v3 := ⟨h.1.later hb, h.2.1.later hb, h.2.2.1.later hb, h.2.2.2.trans (hb.mono h.2.2.2.size)⟩

set_option maxRecDepth 100000 in
set_option maxHeartbeats 1000000 in
theorem toSig_any (a : Int) (vo vs vd : Value) (g1 o1 g2 o2 g3 o3 : Nat) (o s d : List ByteArray) (w : World) (ho : SS w vo g1 o1 o) (hs : SS w vs g2 o2 s) (hd : SS w vd g3 o3 d) :
    Calls Tryd.prog 40 #[.agg #[.int .i64 a, vo, vs, vd]] w fun e w' => ∃ v, e = .returned v ∧ SigIn w' w.heap.size v a o s d ∧ Below w.heap.size w w' := by
  have H1 : Hid (∀ W, Below w.heap.size w W → Calls Tryd.prog 29 #[vo] W fun e w'' => ∃ g, e = .returned (.slice (some ⟨g, 0, none⟩) o.length o.length) ∧ W.heap.size ≤ g ∧ TB w'' g o ∧ Below W.heap.size W w'') := fun W hW => by
    have h := ho.below hW ho.lt
    exact toStringS_any vo g1 o1 o W h h.lt
  have H2 : Hid (∀ W, Below w.heap.size w W → Calls Tryd.prog 29 #[vs] W fun e w'' => ∃ g, e = .returned (.slice (some ⟨g, 0, none⟩) s.length s.length) ∧ W.heap.size ≤ g ∧ TB w'' g s ∧ Below W.heap.size W w'') := fun W hW => by
    have h := hs.below hW hs.lt
    exact toStringS_any vs g2 o2 s W h h.lt
  have H3 : Hid (∀ W, Below w.heap.size w W → Calls Tryd.prog 29 #[vd] W fun e w'' => ∃ g, e = .returned (.slice (some ⟨g, 0, none⟩) d.length d.length) ∧ W.heap.size ≤ g ∧ TB w'' g d ∧ Below W.heap.size W w'') := fun W hW => by
    have h := hd.below hW hd.lt
    exact toStringS_any vd g3 o3 d W h h.lt
  obtain ⟨ao, co, rfl, lo, x1⟩ := ho
  obtain ⟨as2, cs2, rfl, ls, x2⟩ := hs
  obtain ⟨ad, cd, rfl, ld, x3⟩ := hd
  clear x1 x2 x3
  have HA0 : Hid (TgH w (((w.alloc (.cells #[.int .i64 a, .slice ao o.length co, .slice as2 s.length cs2, .slice ad d.length cd] 43)).alloc (.cells zSig 37)).alloc (.cells #[.int .i64 a, .slice none 0 0, .slice none 0 0, .slice none 0 0] 37)) (.slice ao o.length co) (.slice as2 s.length cs2) (.slice ad d.length cd) a (.slice none 0 0) (.slice none 0 0) (.slice none 0 0)) := by
    have h0 : CX (w.alloc (.cells #[.int .i64 a, .slice ao o.length co, .slice as2 s.length cs2, .slice ad d.length cd] 43)) w.heap.size (.slice ao o.length co) (.slice as2 s.length cs2) (.slice ad d.length cd) := ⟨by simp, by simp, by simp, by simp⟩
    generalize hw1 : w.alloc (.cells #[.int .i64 a, .slice ao o.length co, .slice as2 s.length cs2, .slice ad d.length cd] 43) = W1 at *
    have z1 : W1.heap.size = w.heap.size + 1 := by rw [← hw1]; simp
    have b1 : Below w.heap.size w W1 := by rw [← hw1]; exact (Below.refl _ _).alloc (Nat.le_refl _) _
    have h1 := SgM.new W1 0 (.slice none 0 0) (.slice none 0 0) (.slice none 0 0)
    have bb1 : Below W1.heap.size W1 (W1.alloc (.cells zSig 37)) := (Below.refl _ _).alloc (Nat.le_refl _) _
    have z2 : (W1.alloc (.cells zSig 37)).heap.size = w.heap.size + 1 + 1 := by simp [z1]
    have h2 := SgM.new (W1.alloc (.cells zSig 37)) a (.slice none 0 0) (.slice none 0 0) (.slice none 0 0)
    have bb2 : Below (W1.alloc (.cells zSig 37)).heap.size (W1.alloc (.cells zSig 37)) ((W1.alloc (.cells zSig 37)).alloc (.cells #[.int .i64 a, .slice none 0 0, .slice none 0 0, .slice none 0 0] 37)) := (Below.refl _ _).alloc (Nat.le_refl _) _
    rw [z1] at h1
    rw [z2] at h2
    have h1 : SgM (W1.alloc (.cells zSig 37)) (w.heap.size + 1) 0 (.slice none 0 0) (.slice none 0 0) (.slice none 0 0) := h1
    exact ⟨(h0.later bb1).later bb2, h1.later bb2, h2, (b1.trans (bb1.mono b1.size)).trans (bb2.mono (by rw [z2]; omega))⟩
  go_enter Tryd.func40, Tryd.ntmps40
  go_wp2_with fail
  refine (H1.out _ HA0.out.2.2.2).mono ?_
  rintro e w1 ⟨k1, rfl, hk1, ht1, hb1⟩
  have hA1 := HA0.out.later hb1
  have c1 := hA1.2.2.1.c1
  have f1 := hA1.2.2.1.fr 1
  have hg1' : w.heap.size + 3 ≤ k1 := by simpa using hk1
  have hl1 := ht1.lt
  have hts1 := ht1.ts o.length o.length rfl lo
  have hgr1 := grown_set w1 (w.heap.size + 1 + 1) 1 (.slice (some ⟨k1, 0, none⟩) o.length o.length)
  have HA1 : Hid (TgH w (w1.setCell ⟨w.heap.size + 1 + 1, 1, none⟩ (.slice (some ⟨k1, 0, none⟩) o.length o.length)) (.slice ao o.length co) (.slice as2 s.length cs2) (.slice ad d.length cd) a (.slice (some ⟨k1, 0, none⟩) o.length o.length) (.slice none 0 0) (.slice none 0 0) ∧ TS (w1.setCell ⟨w.heap.size + 1 + 1, 1, none⟩ (.slice (some ⟨k1, 0, none⟩) o.length o.length)) (.slice (some ⟨k1, 0, none⟩) o.length o.length) k1 o) :=
    ⟨⟨hA1.1.keptG hgr1 (by simp; omega), hA1.2.1.keptG hgr1 (by simp), hA1.2.2.1.set1 _, hA1.2.2.2.setCell (p := ⟨w.heap.size + 1 + 1, 1, none⟩) (by simp; omega) _⟩, hts1.keptG hgr1 (fun _ => by simp; omega)⟩
  have e2 : (w1.setCell ⟨w.heap.size + 1 + 1, 1, none⟩ (.slice (some ⟨k1, 0, none⟩) o.length o.length)).cell? ⟨w.heap.size, 2, none⟩ = some (.slice as2 s.length cs2) := HA1.out.1.1.2.1
  have hsz1 : (w1.setCell ⟨w.heap.size + 1 + 1, 1, none⟩ (.slice (some ⟨k1, 0, none⟩) o.length o.length)).heap.size = w1.heap.size := by simp
  have hne0 : w.heap.size ≠ w.heap.size + 1 + 1 := by omega
  have d2 : w1.cell? ⟨w.heap.size, 2, none⟩ = some (.slice as2 s.length cs2) := hA1.1.2.1
  clear hA1 hts1 hk1 hgr1 ht1 hb1 HA0 H1
  go_wp2_with fail
  refine (H2.out _ HA1.out.1.2.2.2).mono ?_
  rintro e w2 ⟨k2, rfl, hk2, ht2, hb2⟩
  rw [hsz1] at hk2
  have hA2 := HA1.out.1.later hb2
  have ht12 := HA1.out.2.later hb2
  have c2 := hA2.2.2.1.c2
  have f2 := hA2.2.2.1.fr 2
  have hl2 := ht2.lt
  have hts2 := ht2.ts s.length s.length rfl ls
  have hgr2 := grown_set w2 (w.heap.size + 1 + 1) 2 (.slice (some ⟨k2, 0, none⟩) s.length s.length)
  have HA2 : Hid (TgH w (w2.setCell ⟨w.heap.size + 1 + 1, 2, none⟩ (.slice (some ⟨k2, 0, none⟩) s.length s.length)) (.slice ao o.length co) (.slice as2 s.length cs2) (.slice ad d.length cd) a (.slice (some ⟨k1, 0, none⟩) o.length o.length) (.slice (some ⟨k2, 0, none⟩) s.length s.length) (.slice none 0 0) ∧ TS (w2.setCell ⟨w.heap.size + 1 + 1, 2, none⟩ (.slice (some ⟨k2, 0, none⟩) s.length s.length)) (.slice (some ⟨k1, 0, none⟩) o.length o.length) k1 o ∧ TS (w2.setCell ⟨w.heap.size + 1 + 1, 2, none⟩ (.slice (some ⟨k2, 0, none⟩) s.length s.length)) (.slice (some ⟨k2, 0, none⟩) s.length s.length) k2 s) :=
    ⟨⟨hA2.1.keptG hgr2 (by simp; omega), hA2.2.1.keptG hgr2 (by simp), hA2.2.2.1.set2 _, hA2.2.2.2.setCell (p := ⟨w.heap.size + 1 + 1, 2, none⟩) (by simp; omega) _⟩, ht12.keptG hgr2 (fun _ => by simp; omega), hts2.keptG hgr2 (fun _ => by simp; omega)⟩
  have hsz2 : (w2.setCell ⟨w.heap.size + 1 + 1, 2, none⟩ (.slice (some ⟨k2, 0, none⟩) s.length s.length)).heap.size = w2.heap.size := by simp
  have d3 : w2.cell? ⟨w.heap.size, 3, none⟩ = some (.slice ad d.length cd) := hA2.1.2.2.1
  clear hA2 hts2 ht12 hgr2 ht2 hb2 HA1 H2 hsz1 c1 f1 e2 d2
  go_wp2_with fail
  refine (H3.out _ HA2.out.1.2.2.2).mono ?_
  rintro e w3 ⟨k3, rfl, hk3, ht3, hb3⟩
  rw [hsz2] at hk3
  have hA3 := HA2.out.1.later hb3
  have ht13 := HA2.out.2.1.later hb3
  have ht23 := HA2.out.2.2.later hb3
  have c3 := hA3.2.2.1.c3
  have f3 := hA3.2.2.1.fr 3
  have hts3 := ht3.ts d.length d.length rfl ld
  have hgr3 := grown_set w3 (w.heap.size + 1 + 1) 3 (.slice (some ⟨k3, 0, none⟩) d.length d.length)
  have HA3 : Hid (TgH w (w3.setCell ⟨w.heap.size + 1 + 1, 3, none⟩ (.slice (some ⟨k3, 0, none⟩) d.length d.length)) (.slice ao o.length co) (.slice as2 s.length cs2) (.slice ad d.length cd) a (.slice (some ⟨k1, 0, none⟩) o.length o.length) (.slice (some ⟨k2, 0, none⟩) s.length s.length) (.slice (some ⟨k3, 0, none⟩) d.length d.length) ∧ TS (w3.setCell ⟨w.heap.size + 1 + 1, 3, none⟩ (.slice (some ⟨k3, 0, none⟩) d.length d.length)) (.slice (some ⟨k1, 0, none⟩) o.length o.length) k1 o ∧ TS (w3.setCell ⟨w.heap.size + 1 + 1, 3, none⟩ (.slice (some ⟨k3, 0, none⟩) d.length d.length)) (.slice (some ⟨k2, 0, none⟩) s.length s.length) k2 s ∧ TS (w3.setCell ⟨w.heap.size + 1 + 1, 3, none⟩ (.slice (some ⟨k3, 0, none⟩) d.length d.length)) (.slice (some ⟨k3, 0, none⟩) d.length d.length) k3 d) :=
    ⟨⟨hA3.1.keptG hgr3 (by simp; omega), hA3.2.1.keptG hgr3 (by simp), hA3.2.2.1.set3 _, hA3.2.2.2.setCell (p := ⟨w.heap.size + 1 + 1, 3, none⟩) (by simp; omega) _⟩, ht13.keptG hgr3 (fun _ => by simp; omega), ht23.keptG hgr3 (fun _ => by simp; omega), hts3.keptG hgr3 (fun _ => by simp; omega)⟩
  clear hA3 hts3 ht13 ht23 hgr3 ht3 hb3 HA2 H3 hsz2 c2 f2 d3
  go_wp2_with (first | (refine wp_loadSig rfl _ rfl (w.heap.size + 1 + 1) _ _ _ _ rfl HA3.out.1.2.2.1 ?_) | (refine wp_storeSig rfl _ _ rfl (w.heap.size + 1) 0 _ _ _ _ _ _ _ HA3.out.1.2.1 rfl rfl rfl rfl rfl ?_; intro hfin))
  refine ret_sig1 2 (w.heap.size + 1) _ _ _ _ rfl rfl rfl hfin ?_
  obtain ⟨⟨_, _, _, b3⟩, hts1, hts2, hts3⟩ := HA3.out
  have hgr := grown_setRow (w3.setCell ⟨w.heap.size + 1 + 1, 3, none⟩ (.slice (some ⟨k3, 0, none⟩) d.length d.length)) (w.heap.size + 1) #[.int .i64 a, .slice (some ⟨k1, 0, none⟩) o.length o.length, .slice (some ⟨k2, 0, none⟩) s.length s.length, .slice (some ⟨k3, 0, none⟩) d.length d.length]
  refine ⟨_, rfl, ⟨_, _, _, k1, k2, k3, rfl, ⟨hts1.keptG hgr (fun _ => ?_), hts2.keptG hgr (fun _ => ?_), hts3.keptG hgr (fun _ => ?_)⟩, ⟨by omega, by omega, by omega⟩, ⟨by omega, by omega, by omega⟩⟩, b3.grown hgr b3.size (fun k hk => by simp at hk; omega)⟩
  · simp; omega
  · simp; omega
  · simp; omega

theorem IsRowS.later {w w' : World} {a : Option Addr} {n k : Nat} {z : List ByteArray} (h : IsRowS w a n k z) (hb : Below w.heap.size w w') : IsRowS w' a n k z := by
  rcases h with h | ⟨p, rfl, hl, hm, hlz, hc, hz⟩
  · exact .inl h
  · refine .inr ⟨p, rfl, hl, hm, hlz, fun i hi => ?_, hz⟩
    have h4 := hc i hi
    have hlt : (p.add i).block < w.heap.size := by
      rcases Nat.lt_or_ge (p.add i).block w.heap.size with h5 | h5
      · exact h5
      · simp [World.cell?, Array.getElem?_eq_none h5] at h4
    exact (hb.cell hlt).trans h4

theorem sSigText_any (a : Int) (vo vs vd : Value) (g1 o1 g2 o2 g3 o3 : Nat) (o s d : List ByteArray) (w : World) (ho : SS w vo g1 o1 o) (hs : SS w vs g2 o2 s) (hd : SS w vd g3 o3 d) :
    Calls Tryd.prog 91 #[.agg #[.int .i64 a, vo, vs, vd]] w fun e w' => e = .returned (.tuple #[.string (sigB a o s d), .bool (formB a o s d)]) ∧ Below w.heap.size w w' := by
  unfold sigB
  cases hf : formB a o s d with
  | false => exact sSigText_no a vo vs vd g1 o1 g2 o2 g3 o3 o s d w ho hs hd hf
  | true =>
    obtain ⟨hA, _⟩ := formB_parts hf
    obtain ⟨a, rfl⟩ := Int.eq_ofNat_of_zero_le hA.1
    exact sSigText_yes a vo vs vd g1 o1 g2 o2 g3 o3 o s d w ho hs hd hf
theorem SigText_any (a : Int) (vo vs vd : Value) (g1 o1 g2 o2 g3 o3 : Nat) (o s d : List ByteArray) (w : World) (ho : SS w vo g1 o1 o) (hs : SS w vs g2 o2 s) (hd : SS w vd g3 o3 d) :
    Calls Tryd.prog 51 #[.agg #[.int .i64 a, vo, vs, vd]] w fun e w' => e = .returned (.tuple #[.string (sigB a o s d), .bool (formB a o s d)]) ∧ Below w.heap.size w w' := by
  unfold sigB
  cases hf : formB a o s d with
  | false => exact SigText_no a vo vs vd g1 o1 g2 o2 g3 o3 o s d w ho hs hd hf
  | true =>
    obtain ⟨hA, _⟩ := formB_parts hf
    obtain ⟨a, rfl⟩ := Int.eq_ofNat_of_zero_le hA.1
    exact SigText_yes a vo vs vd g1 o1 g2 o2 g3 o3 o s d w ho hs hd hf

/-- a signature that a law was handed stays in its box, and is taken over from there -/
def BX (W : World) (p : Nat) (i : Int) (v1 v2 v3 : Value) : Prop := W.heap[p]? = some (.cells #[.int .i64 i, v1, v2, v3] 43 (0, 0))
theorem BX.cells {W : World} {p : Nat} {i : Int} {v1 v2 v3 : Value} (h : BX W p i v1 v2 v3) : W.cell? ⟨p, 0, none⟩ = some (.int .i64 i) ∧ W.cell? ⟨p, 1, none⟩ = some v1 ∧ W.cell? ⟨p, 2, none⟩ = some v2 ∧ W.cell? ⟨p, 3, none⟩ = some v3 := by
  refine ⟨?_, ?_, ?_, ?_⟩
  · rw [cell_of_row W p 0 _ _ (0, 0) h]; rfl
  · rw [cell_of_row W p 1 _ _ (0, 0) h]; rfl
  · rw [cell_of_row W p 2 _ _ (0, 0) h]; rfl
  · rw [cell_of_row W p 3 _ _ (0, 0) h]; rfl
theorem BX.lt {W : World} {p : Nat} {i : Int} {v1 v2 v3 : Value} (h : BX W p i v1 v2 v3) : p < W.heap.size := (Array.getElem?_eq_some_iff.1 h).1
theorem BX.later {W W' : World} {p : Nat} {i : Int} {v1 v2 v3 : Value} (h : BX W p i v1 v2 v3) (hb : Below W.heap.size W W') : BX W' p i v1 v2 v3 := by
  have hlt := h.lt
  unfold BX at *
  rw [hb.block p hlt, h]
theorem BX.new (w : World) (i : Int) (v1 v2 v3 : Value) : BX (w.alloc (.cells #[.int .i64 i, v1, v2, v3] 43)) w.heap.size i v1 v2 v3 := Go.heap_alloc_new w _
theorem load_box {w : World} {g : Nat} {x : Int} {v1 v2 v3 : Value} (hA : BX w g x v1 v2 v3) : (loadVar 43 ⟨g, 0, none⟩).run Tryd.prog w = .ok (.agg #[.int .i64 x, v1, v2, v3]) w :=
  run_loadVar_row (P := Tryd.prog) w g 43 43 _ (0, 0) _ hA Tryd.underlying43 rfl (by kernel_rfl)
theorem wp_loadBox {w : World} {ops : Array Oper} {rest : List Oper} {o : Oper} {a : Act} {Q : Exit → Act → World → Prop} (hgd : o.guard = none) (p : Operand) (ho : o.op = .load 43 p) (g : Nat) (x : Int) (v1 v2 v3 : Value) (hp : a.eval p = .pointer (some ⟨g, 0, none⟩)) (hA : BX w g x v1 v2 v3)
    (h : wpList Tryd.prog ops Q rest (a.put o.dst (.agg #[.int .i64 x, v1, v2, v3])) w) : wpList Tryd.prog ops Q (o :: rest) a w := by
  refine wpList_plain hgd fun K hK => ?_
  have hr : (Instr.loadAt 43 (.pointer (some ⟨g, 0, none⟩))).run Tryd.prog w = .ok (.agg #[.int .i64 x, v1, v2, v3]) w := by
    simp only [Instr.loadAt, Instr.sureAddr, Sem.run_bind, Sem.run_pure, Result.andThen]
    exact load_box hA
  unfold Oper.wp
  simp [execOp, ho, hp, hr, Result.andThen]
  exact hK _ _ h

end Go.Proofs.YthkknckpippjhaaDoor
/-
  A signature that is handed to a law: its number, and three rows of texts that were there.
-/
namespace Go.Proofs.YthkknckpippjhaaDoor
open Go.ChangeShapes Go.WideShapes Go.ChangeAt Go.RowKit
set_option linter.unusedVariables false

theorem cellsSig : Tryd.prog.cellsOf 43 = 4 := by kernel_rfl
theorem cells9 : Tryd.prog.cellsOf 9 = 1 := by kernel_rfl

theorem row_of_trod {H : Type} {enc : TypeId × Value → H} {W : World} {fuel : Nat} {v : Value} {y : DataW H × List MemPlace} (h : DataW.trod enc Tryd.prog W 0 (fun _ => true) true fuel 28 [v] = some y) :
    ∃ (a : Option Addr) (len cap : Nat) (zs : List ByteArray), v = .slice a len cap ∧ IsRowS W a len cap zs := by
  rcases open_strings Tryd.underlying28 Tryd.underlying9 cells9 h with ⟨hcs, _⟩ | ⟨x, l, c, zs, hcs, _, hl, hm, hz, _, hcell, hwz⟩
  · simp at hcs
    exact ⟨none, 0, 0, [], hcs, .inl ⟨rfl, rfl, rfl, rfl⟩⟩
  · simp at hcs
    exact ⟨some x, l, c, zs, hcs, .inr ⟨_, rfl, hl, hm, by simp at hz; omega, hcell, hwz⟩⟩

set_option maxRecDepth 100000 in
theorem open_sig {H : Type} {enc : TypeId × Value → H} {W : World} {base : Nat} {v : Value} {d : DataW H} {p : List MemPlace} (hv : Value.okWide Tryd.prog W .any base 43 v) (h : DataW.Trod enc Tryd.prog W 0 (fun _ => true) true 43 v d p) :
    ∃ (i : Int) (a1 : Option Addr) (n1 k1 : Nat) (z1 : List ByteArray) (a2 : Option Addr) (n2 k2 : Nat) (z2 : List ByteArray) (a3 : Option Addr) (n3 k3 : Nat) (z3 : List ByteArray),
      v = .agg #[.int .i64 i, .slice a1 n1 k1, .slice a2 n2 k2, .slice a3 n3 k3] ∧ IsRowS W a1 n1 k1 z1 ∧ IsRowS W a2 n2 k2 z2 ∧ IsRowS W a3 n3 k3 z3 := by
  obtain ⟨v0, v1, v2, v3, y0, y1, y2, y3, n, rfl, _, _, h0, h1, h2, h3⟩ := Joins.open_agg4 Tryd.underlying43 (by kernel_rfl) cellsSig hv h
  obtain ⟨i, e0, _, _⟩ := DataW.trod_int Tryd.underlying3 h0
  obtain ⟨a1, n1, k1, z1, rfl, r1⟩ := row_of_trod h1
  obtain ⟨a2, n2, k2, z2, rfl, r2⟩ := row_of_trod h2
  obtain ⟨a3, n3, k3, z3, rfl, r3⟩ := row_of_trod h3
  simp at e0
  subst e0
  exact ⟨i, a1, n1, k1, z1, a2, n2, k2, z2, a3, n3, k3, z3, rfl, r1, r2, r3⟩

end Go.Proofs.YthkknckpippjhaaDoor
/-
  What is digested of a signature, in plain words: its locks, its public text, the texts on the way to the root; two rows of texts that grow side by side.
-/
namespace Go.Proofs.YthkknckpippjhaaDoor
open Go.RowKit Go.BigFrame
set_option linter.unusedVariables false

/-- the bit of a byte at a level, the highest first -/
def bitN (b i : Nat) : Nat := b / 2 ^ (7 - i) % 2
theorem bitN_lt (b i : Nat) : bitN b i < 2 := Nat.mod_lt _ (by omega)
theorem bitI_nat (b i : Nat) (hb : b < 256) : bitI (b : Int) i = (bitN b i : Int) := by
  unfold bitI bitN
  have e1 : ((b : Int) / 2 ^ (7 - i)) = ((b / 2 ^ (7 - i) : Nat) : Int) := by simp
  rw [e1]
  have hlt : b / 2 ^ (7 - i) < 256 := Nat.lt_of_le_of_lt (Nat.div_le_self _ _) hb
  generalize b / 2 ^ (7 - i) = n at *
  have e : bits .and .i64 (n : Int) 1 = IntKind.i64.wrap ((BitVec.ofInt 64 (n : Int) &&& BitVec.ofInt 64 1).toNat : Int) := rfl
  have e2 : (BitVec.ofInt 64 (n : Int) &&& BitVec.ofInt 64 1).toNat = n % 2 := by
    rw [BitVec.toNat_and, BitVec.ofInt_natCast, BitVec.toNat_ofNat, Nat.mod_eq_of_lt (by omega)]
    have : (BitVec.ofInt 64 1).toNat = 1 := by decide
    rw [this, Nat.and_one_is_mod]
  rw [e, e2, IntWalk.i64_in _ (by omega)]

def gB (l : List ByteArray) (i : Nat) : ByteArray := l.getD i ByteArray.empty
theorem gB_eq (l : List ByteArray) (i : Nat) (h : i < l.length) : l[i] = gB l i := by
  unfold gB
  rw [List.getD_eq_getElem?_getD, List.getElem?_eq_getElem h]
  rfl
/-- two locks of a bit -/
def lk2 (b : Nat) (o s : List ByteArray) (i : Nat) : List ByteArray := if bitN b i = 0 then [lockB (gB o i), gB s i] else [gB s i, lockB (gB o i)]
/-- the locks of the first m bits -/
def lkN (b : Nat) (o s : List ByteArray) (m : Nat) : List ByteArray := (List.range m).flatMap (lk2 b o s)
theorem lk2_len (b : Nat) (o s : List ByteArray) (i : Nat) : (lk2 b o s i).length = 2 := by
  unfold lk2
  split <;> rfl
theorem lkN_step (b : Nat) (o s : List ByteArray) (m : Nat) : lkN b o s (m + 1) = lkN b o s m ++ lk2 b o s m := by
  unfold lkN
  rw [List.range_succ, List.flatMap_append]
  simp
theorem lkN_len (b : Nat) (o s : List ByteArray) (m : Nat) : (lkN b o s m).length = 2 * m := by
  induction m with
  | zero => rfl
  | succ m ih =>
    rw [lkN_step, List.length_append, ih, lk2_len]
    omega
/-- the text of one opened secret -/
def tx1 (o : List ByteArray) (i : Nat) : ByteArray := tagB 6 [gB o i]
def txN (o : List ByteArray) (m : Nat) : List ByteArray := (List.range m).map (tx1 o)
theorem txN_step (o : List ByteArray) (m : Nat) : txN o (m + 1) = txN o m ++ [tx1 o m] := by
  unfold txN
  rw [List.range_succ, List.map_append]
  rfl
theorem txN_len (o : List ByteArray) (m : Nat) : (txN o m).length = m := by simp [txN]
/-- the text of the public key -/
def pubT (b : Nat) (o s : List ByteArray) : ByteArray := tagB 6 (lkN b o s 8)
def cut16 (t : ByteArray) : ByteArray := cutH t 16
/-- the text of a node: what came up stands left or right -/
def nodeT (p : Nat) (h x : ByteArray) : ByteArray := if p = 0 then tagB 3 [h, x] else tagB 3 [x, h]
/-- the texts on the way up -/
def fT (a : Nat) (d : List ByteArray) (t : ByteArray) : Nat → ByteArray
  | 0 => t
  | i + 1 => nodeT (a / 2 ^ i % 2) (cut16 (fT a d t i)) (gB d i)
def fN (a : Nat) (d : List ByteArray) (t : ByteArray) (m : Nat) : List ByteArray := (List.range m).map (fT a d t)
theorem fN_step (a : Nat) (d : List ByteArray) (t : ByteArray) (m : Nat) : fN a d t (m + 1) = fN a d t m ++ [fT a d t m] := by
  unfold fN
  rw [List.range_succ, List.map_append]
  rfl
theorem fN_len (a : Nat) (d : List ByteArray) (t : ByteArray) (m : Nat) : (fN a d t m).length = m := by simp [fN]
/-- what SigTexts is where the form is right -/
def sgT (b a : Nat) (o s d : List ByteArray) : List ByteArray := txN o 8 ++ fN a d (pubT b o s) 5
theorem sgT_len (b a : Nat) (o s d : List ByteArray) : (sgT b a o s d).length = 13 := by simp [sgT, txN_len, fN_len]
/-- what SigTexts is -/
def sigT (t : ByteArray) (a : Int) (o s d : List ByteArray) : List ByteArray := if formB a o s d && decide (t.size ≤ 200) then sgT (bitsB t) a.toNat o s d else []
theorem sigT_len (t : ByteArray) (a : Int) (o s d : List ByteArray) : (sigT t a o s d).length ≤ 13 := by
  unfold sigT
  split
  · rw [sgT_len]
    omega
  · simp

theorem cut16_tag (k : Int) (l : List ByteArray) (h : tagOk k l = true) : cut16 (tagB k l) = hashB k l 16 := by
  unfold cut16 hashB
  rw [if_pos h]
theorem lock_cut (o : List ByteArray) (i : Nat) (h : (gB o i).size ≤ 200) : cut16 (tx1 o i) = lockB (gB o i) := by
  unfold tx1 lockB
  refine cut16_tag 6 _ ?_
  rw [tagOk_one 6 _ (by omega), decide_eq_true h]
theorem cut16_size (k : Int) (l : List ByteArray) : (cut16 (tagB k l)).size ≤ 16 := by
  unfold cut16 cutH cutB
  rw [if_pos (by omega)]
  rw [ByteArray.size_extract]
  show min 16 _ - 0 ≤ 16
  omega
theorem fT_size (a : Nat) (d : List ByteArray) (t : ByteArray) (ht : t.size ≤ 12601) (i : Nat) : (fT a d t i).size ≤ 12601 := by
  cases i with
  | zero => exact ht
  | succ i =>
    show (nodeT _ _ _).size ≤ _
    unfold nodeT
    split
    · exact tagB_size _ _
    · exact tagB_size _ _

/-- one row of texts stays what it is behind what was appended to another -/
theorem OS.kept {B : Nat} {w0 w w' : World} {v : Value} {row : Option Nat} {l : List ByteArray} (h : OS B w0 w v l) (hg : w.grownBy w' row) (hB : ∀ k, row = some k → B ≤ k) (hne : v.ownBlock = none ∨ v.ownBlock ≠ row) : OS B w0 w' v l :=
  ⟨World.ownsRow.kept h.1 hg hne, h.2.1.grown hg h.2.2 hB, Nat.le_trans h.2.2 hg.size⟩

/-- two rows of texts, each with memory of its own -/
def TwR (B : Nat) (w0 w : World) (u v : Value) (l r : List ByteArray) : Prop := OS B w0 w u l ∧ OS B w0 w v r ∧ (∀ g, u.ownBlock = some g → v.ownBlock ≠ some g)
theorem TwR.swap {B : Nat} {w0 w : World} {u v : Value} {l r : List ByteArray} (h : TwR B w0 w u v l r) : TwR B w0 w v u r l := ⟨h.2.1, h.1, fun g hg hu => h.2.2 g hu hg⟩
theorem TwR.later {B : Nat} {w0 w w' : World} {u v : Value} {l r : List ByteArray} (h : TwR B w0 w u v l r) (hb : Below w.heap.size w w') : TwR B w0 w' u v l r := ⟨h.1.later hb, h.2.1.later hb, h.2.2⟩
theorem TwR.alloc {B : Nat} {w0 w : World} {u v : Value} {l r : List ByteArray} (h : TwR B w0 w u v l r) (x : Obj) : TwR B w0 (w.alloc x) u v l r := ⟨h.1.alloc x, h.2.1.alloc x, h.2.2⟩
theorem TwR.drew {B : Nat} {w0 w : World} {u v : Value} {l r : List ByteArray} (h : TwR B w0 w u v l r) : TwR B w0 w.drew u v l r := ⟨h.1.drew, h.2.1.drew, h.2.2⟩

theorem lit_at (w : World) (news : List ByteArray) (cs : Array Value) (hc : cs = (svs news).toArray) : ∀ j u, (svs news)[j]? = some u → (w.alloc (.cells cs 9)).cell? ((⟨w.heap.size, 0, none⟩ : Addr).add j) = some u := by
  intro j u hj
  subst hc
  have e : (⟨w.heap.size, 0, none⟩ : Addr).add j = ⟨w.heap.size, j, none⟩ := by unfold Addr.add; split <;> simp_all
  rw [e, World.cell?_alloc_at _ _ _ _ rfl]
  simpa using hj

/-- what an append to the first row leaves -/
theorem TwR.grow {B : Nat} {w0 w w' : World} {u v : Value} {l r news : List ByteArray} {g cap n : Nat} (h : TwR B w0 w u v l r) (hn : l.length + news.length = n) (h1 : w'.ownsRow B 9 1 (.slice (some ⟨g, 0, none⟩) n cap) n (svs l ++ svs news)) (h2 : w.grownBy w' u.ownBlock) (h3 : u.ownBlock = some g ∨ g = w.heap.size) :
    TwR B w0 w' (.slice (some ⟨g, 0, none⟩) n cap) v (l ++ news) r := by
  subst hn
  have hB : ∀ k, u.ownBlock = some k → B ≤ k := fun k hk => (h.1.1.lt k hk).1
  refine ⟨⟨by rw [List.length_append, svs_append]; exact h1, h.1.2.1.grown h2 h.1.2.2 hB, Nat.le_trans h.1.2.2 h2.size⟩, h.2.1.kept h2 hB ?_, ?_⟩
  · cases hv : v.ownBlock with
    | none => exact .inl rfl
    | some k => exact .inr (fun e => h.2.2 k e.symm hv)
  · intro k hk hv
    simp [Value.ownBlock] at hk
    subst hk
    rcases h3 with h3 | h3
    · exact h.2.2 g h3 hv
    · have := (h.2.1.1.lt g hv).2
      omega

/-- texts that are written out, appended to the first of two rows -/
theorem wp_tw {w : World} {ops : Array Oper} {rest : List Oper} {o : Oper} {a : Act} {Q : Exit → Act → World → Prop} (hgd : o.guard = none) (s x : Operand)
    (ho : o.op = .call { callee := .builtin .append, args := #[s, x], argTypes := #[28, 28] })
    (B : Nat) (w0 : World) (u v : Value) (l r news : List ByteArray) (hs : a.eval s = u) (h : TwR B w0 w u v l r) (p m c : Nat) (hx : a.eval x = .slice (some ⟨p, 0, none⟩) m c) (hm : news.length = m) (h0 : 0 < m)
    (hnews : ∀ j u, (svs news)[j]? = some u → w.cell? ((⟨p, 0, none⟩ : Addr).add j) = some u) (hlen : l.length + m ≤ 1000000)
    (hk : ∀ v' w', TwR B w0 w' v' v (l ++ news) r → wpList Tryd.prog ops Q rest (a.put o.dst v') w') : wpList Tryd.prog ops Q (o :: rest) a w := by
  obtain ⟨i0, hi, hz0, hz1, hz2⟩ := info_parts Tryd.info9
  refine wpList_append_lies w hgd s x 28 ho B 9 i0 (.string ByteArray.empty) 1 16 Tryd.underlying28 hi hz0 hz1 hz2 rfl (by decide) u l.length (svs l) hs h.1.1 ⟨p, 0, none⟩ m c (svs news) hx (by simp [svs, hm]) hnews
    (fun u hu => by simp [svs] at hu; obtain ⟨b, _, rfl⟩ := hu; rfl) h0 (by unfold maxLen; omega) (by omega) h.1.2.2 w.heap.size rfl ?_
  intro g cap w' h1 h2 h3 _
  exact hk _ _ (h.grow (by omega) h1 h2 h3)
theorem step_tw {w : World} {ops : Array Oper} {o : Oper} {a : Act} {K : Act → World → Prop} {Q : Exit → Act → World → Prop} {E : Prop} (hgd : o.guard = none) (s x : Operand)
    (ho : o.op = .call { callee := .builtin .append, args := #[s, x], argTypes := #[28, 28] })
    (B : Nat) (w0 : World) (u v : Value) (l r news : List ByteArray) (hs : a.eval s = u) (h : TwR B w0 w u v l r) (p m c : Nat) (hx : a.eval x = .slice (some ⟨p, 0, none⟩) m c) (hm : news.length = m) (h0 : 0 < m)
    (hnews : ∀ j u, (svs news)[j]? = some u → w.cell? ((⟨p, 0, none⟩ : Addr).add j) = some u) (hlen : l.length + m ≤ 1000000)
    (hk : ∀ v' w', TwR B w0 w' v' v (l ++ news) r → K (a.put o.dst v') w') : if Region.wanted o (yielded ops a.tmps) = true then Oper.wp Tryd.prog o a w K Q else E := by
  obtain ⟨i0, hi, hz0, hz1, hz2⟩ := info_parts Tryd.info9
  refine step_append_lies w hgd s x 28 ho B 9 i0 (.string ByteArray.empty) 1 16 Tryd.underlying28 hi hz0 hz1 hz2 rfl (by decide) u l.length (svs l) hs h.1.1 ⟨p, 0, none⟩ m c (svs news) hx (by simp [svs, hm]) hnews
    (fun u hu => by simp [svs] at hu; obtain ⟨b, _, rfl⟩ := hu; rfl) h0 (by unfold maxLen; omega) (by omega) h.1.2.2 w.heap.size rfl ?_
  intro g cap w' h1 h2 h3 _
  exact hk _ _ (h.grow (by omega) h1 h2 h3)

/-- what the texts of a key are -/
theorem keyText_any (k : Int) (v : Value) (g o : Nat) (l : List ByteArray) (w : World) (hv : SS w v g o l) :
    Calls Tryd.prog 78 #[.int .i64 k, v] w fun e w' => e = .returned (.string (tagB k l)) ∧ Below w.heap.size w w' := by
  have hc := tagged_any k v g o l w hv
  obtain ⟨a, cap, rfl, _⟩ := hv
  generalize tagB k l = T at *
  generalize tagOk k l = R at *
  go_enter Tryd.func78, Tryd.ntmps78
  go_wp2_with fail
  refine hc.mono ?_
  rintro e w1 ⟨rfl, hb1⟩
  go_wp2
  go_ret
  exact ⟨rfl, hb1⟩
theorem keyText_lit (k : Int) (l : List ByteArray) (n : Nat) (cs : Array Value) (w : World) (g : Nat) (hg : w.heap.size = g) (hn : l.length = n) (hl : n ≤ 60) (hc : cs = (svs l).toArray) :
    Hid (Calls Tryd.prog 78 #[.int .i64 k, .slice (some ⟨g, 0, none⟩) n n] (w.alloc (.cells cs 9)) fun e w' => e = .returned (.string (tagB k l)) ∧ Below w.heap.size w w') := by
  subst hg
  exact (keyText_any k _ w.heap.size 0 l (w.alloc (.cells cs 9)) (ss_lits w l cs n hn (by omega) hc)).mono fun e w' ⟨he, hb⟩ => ⟨he, ((Below.refl _ _).alloc (Nat.le_refl _) _).trans (hb.mono (by simp))⟩
theorem sTagText_lit (k : Int) (l : List ByteArray) (n : Nat) (cs : Array Value) (w : World) (g : Nat) (hg : w.heap.size = g) (hn : l.length = n) (hl : n ≤ 60) (hc : cs = (svs l).toArray) :
    Hid (Calls Tryd.prog 75 #[.int .i64 k, .slice (some ⟨g, 0, none⟩) n n] (w.alloc (.cells cs 9)) fun e w' => e = .returned (.tuple #[.string (tagB k l), .bool (tagOk k l)]) ∧ Below w.heap.size w w') := by
  subst hg
  exact (sTagText_any k _ w.heap.size 0 l (w.alloc (.cells cs 9)) (ss_lits w l cs n hn (by omega) hc)).mono fun e w' ⟨he, hb⟩ => ⟨he, ((Below.refl _ _).alloc (Nat.le_refl _) _).trans (hb.mono (by simp))⟩

theorem val_any (b i : Nat) (x : Int) (w : World) (hb : b < 256) (hx : x = (i : Int)) (hi : i ≤ 7) :
    Calls Tryd.prog 72 #[.int .u8 (b : Int), .int .i64 x] w fun e w' => e = .returned (.int .i64 (bitN b i : Int)) ∧ w' = w := by
  subst hx
  have hc := BitOf_yes (b : Int) i w hi
  rw [bitI_nat b i hb] at hc
  generalize bitN b i = B at *
  go_enter Tryd.func72, Tryd.ntmps72
  go_wp2_with fail
  refine hc.mono ?_
  rintro e w1 ⟨rfl, rfl⟩
  go_wp2
  go_ret
  exact ⟨rfl, rfl⟩
theorem sBitOf_at (b i : Nat) (x : Int) (w : World) (hb : b < 256) (hx : x = (i : Int)) (hi : i ≤ 7) :
    Calls Tryd.prog 47 #[.int .i64 (b : Int), .int .i64 x] w fun e w' => e = .returned (.int .i64 (bitN b i : Int)) ∧ w' = w := by
  subst hx
  have hc := sBitOf_yes (b : Int) i w hi
  rw [bitI_nat b i hb] at hc
  exact hc

end Go.Proofs.YthkknckpippjhaaDoor
/-
  What lockTexts answers: the texts of the opened secrets, and all locks.
-/
namespace Go.Proofs.YthkknckpippjhaaDoor
open Go.RowKit Go.BigFrame
set_option linter.unusedVariables false

/-- 'make([]string, 0, n)' -/
theorem run_mkT (n : Nat) (h : n ≤ 1000000000) (W : World) : ∃ M : Array Value, (Instr.makeSlice 28 (.int .i64 0) (.int .i64 (n : Int))).run Tryd.prog W = .ok (.slice (some ⟨W.heap.size, 0, none⟩) 0 n) (W.alloc (.cells M 9)) ∧ OS W.heap.size W (W.alloc (.cells M 9)) (.slice (some ⟨W.heap.size, 0, none⟩) 0 n) [] := by
  obtain ⟨i0, hi, hz0, hz1, hz2⟩ := info_parts Tryd.info9
  have h1 := run_make (P := Tryd.prog) W 28 9 i0 (.string ByteArray.empty) Tryd.underlying28 hi hz0 .i64 .i64 0 (n : Int) (by omega) (by omega) (by rw [hz2]; omega) (by omega)
  refine ⟨madeCells (Value.string ByteArray.empty).cells (((n : Nat) : Int).toNat * i0.size), by simpa using h1, ?_⟩
  refine ⟨World.ownsRow_made W _ n (Nat.le_refl _) (by unfold maxLen; omega) ?_, (Below.refl _ _).alloc (Nat.le_refl _) _, by simp⟩
  rw [size_madeCells, hz1]
  simp

/-- an array of texts is no row that a call appends to -/
theorem TA.keptO {w w' : World} {g t B : Nat} {w0 : World} {v : Value} {l r : List ByteArray} (h : TA w g t l) (ht : t ≠ 9) (ho : OS B w0 w v r) (hg : w.grownBy w' v.ownBlock) : TA w' g t l := by
  have hlt : g < w.heap.size := h.lt
  refine h.keep (hg.block g hlt ?_)
  intro he
  rcases ho.1.2 with ⟨rfl, _⟩ | ⟨g', cap, cur, rfl, _, hg', _⟩
  · simp [Value.ownBlock] at he
  · simp [Value.ownBlock] at he
    subst he
    unfold TA at h
    rw [h] at hg'
    simp at hg'
    exact ht hg'.2
theorem SgM.keptO {w w' : World} {g B : Nat} {w0 : World} {v : Value} {x : Int} {v1 v2 v3 : Value} {r : List ByteArray} (h : SgM w g x v1 v2 v3) (ho : OS B w0 w v r) (hg : w.grownBy w' v.ownBlock) : SgM w' g x v1 v2 v3 := by
  refine h.keep (hg.block g h.lt ?_)
  intro he
  rcases ho.1.2 with ⟨rfl, _⟩ | ⟨g', cap, cur, rfl, _, hg', _⟩
  · simp [Value.ownBlock] at he
  · simp [Value.ownBlock] at he
    subst he
    unfold SgM at h
    rw [h] at hg'
    simp at hg'

theorem os_ne {B g t : Nat} {w0 w : World} {v : Value} {l r : List ByteArray} (ho : OS B w0 w v r) (h : TA w g t l) (ht : t ≠ 9) : v.ownBlock = none ∨ v.ownBlock ≠ some g := by
  refine .inr (fun he => ?_)
  rcases ho.1.2 with ⟨rfl, _⟩ | ⟨g', cap, cur, rfl, _, hg', _⟩
  · simp [Value.ownBlock] at he
  · simp [Value.ownBlock] at he
    subst he
    unfold TA at h
    rw [h] at hg'
    simp at hg'
    exact ht hg'.2

/-- one text appended, and that nothing else turned -/
theorem wp_appSG {w : World} {ops : Array Oper} {rest : List Oper} {o : Oper} {a : Act} {Q : Exit → Act → World → Prop} (hgd : o.guard = none) (s x : Operand)
    (ho : o.op = .call { callee := .builtin .append, args := #[s, x], argTypes := #[28, 28] })
    (B : Nat) (w0 : World) (v : Value) (l : List ByteArray) (hs : a.eval s = v) (hown : OS B w0 w v l)
    (ad : Addr) (t : ByteArray) (hx : a.eval x = .slice (some ad) 1 1) (hnews : w.cell? ad = some (.string t)) (hlen : l.length ≤ 1000000)
    (h : ∀ v' w', OS B w0 w' v' (l ++ [t]) → w.grownBy w' v.ownBlock → wpList Tryd.prog ops Q rest (a.put o.dst v') w') : wpList Tryd.prog ops Q (o :: rest) a w := by
  obtain ⟨i0, hi, hz0, hz1, hz2⟩ := info_parts Tryd.info9
  refine wpList_append_own _ hgd s x 28 ho B 9 i0 (.string ByteArray.empty) 1 16 Tryd.underlying28 hi hz0 hz1 hz2 rfl (by decide) v l.length (svs l) hs hown.1 ad 1 1 [.string t] hx rfl ?_
    (fun u hu => by simp at hu; subst hu; rfl) (by unfold maxLen; omega) (by omega) hown.2.2 ?_
  · intro j u hj
    match j, hj with
    | 0, hj =>
      simp at hj
      subst hj
      have : ad.add 0 = ad := by unfold Addr.add; split <;> simp_all
      rw [this]
      exact hnews
  · intro v' w' h1 h2 _
    exact h v' w' ⟨by simpa [svs] using h1, hown.2.1.grown h2 hown.2.2 (fun k hk => (hown.1.lt k hk).1), Nat.le_trans hown.2.2 h2.size⟩ h2

/-- the locks so far, and nothing behind -/
def lkR (b : Nat) (o s : List ByteArray) (m : Nat) : List ByteArray := lkN b o s m ++ List.replicate (16 - 2 * m) ByteArray.empty
theorem lkR_len (b : Nat) (o s : List ByteArray) (m : Nat) (h : m ≤ 8) : (lkR b o s m).length = 16 := by
  unfold lkR
  rw [List.length_append, lkN_len, List.length_replicate]
  omega
theorem lkR_all (b : Nat) (o s : List ByteArray) : lkR b o s 8 = lkN b o s 8 := by simp [lkR]
theorem lkR_step (b : Nat) (o s : List ByteArray) (m : Nat) (h : m < 8) : ((lkR b o s m).set (2 * m + bitN b m) (lockB (gB o m))).set (2 * m + 1 - bitN b m) (gB s m) = lkR b o s (m + 1) := by
  unfold lkR
  rw [lkN_step]
  have e : 16 - 2 * m = (16 - 2 * (m + 1)) + 1 + 1 := by omega
  rw [e, List.replicate_succ, List.replicate_succ]
  have hl := lkN_len b o s m
  have hb := bitN_lt b m
  have h0 : bitN b m = 0 ∨ bitN b m = 1 := by omega
  rcases h0 with h0 | h0
  · rw [h0, List.set_append_right _ _ (by omega), hl, show 2 * m + 0 - 2 * m = 0 by omega, List.set_cons_zero, List.set_append_right _ _ (by omega), hl, show 2 * m + 1 - 0 - 2 * m = 1 by omega]
    unfold lk2
    rw [h0]
    simp
  · rw [h0, List.set_append_right _ _ (by omega), hl, show 2 * m + 1 - 2 * m = 1 by omega, List.set_cons_succ, List.set_cons_zero, List.set_append_right _ _ (by omega), hl, show 2 * m + 1 - 1 - 2 * m = 0 by omega]
    unfold lk2
    rw [h0]
    simp

theorem grown_setRow2 (w : World) (g : Nat) (R : Array Value) : w.grownBy (w.setRow g R) (some g) :=
  ⟨rfl, rfl, rfl, by simp [World.setRow], fun k _ hk => setRow_other w g k R (fun e => hk (by simp [e]))⟩
theorem still_loadT {w : World} {ops : Array Oper} {rest : List Oper} {o : Oper} {a : Act} {Q : Act → Prop} (hgd : o.guard = none) (ty : TypeId) (p : Operand) (ho : o.op = .load ty p) (g t n : Nat) (l : List ByteArray) (e : TypeId) (hp : a.eval p = .pointer (some ⟨g, 0, none⟩)) (hA : TA w g t l) (hl : l.length = n)
    (hu : Tryd.prog.underlying ty = some (.array n e)) (hi : (Tryd.prog.info? ty).map (·.size) = some n)
    (h : wpStill Tryd.prog ops w Q rest (a.put o.dst (.agg (svs l).toArray))) : wpStill Tryd.prog ops w Q (o :: rest) a := by
  refine wpStill_step fun K hK => ?_
  have hr := run_loadT ty e hu hi hl hA
  have hw : Region.wanted o (yielded ops a.tmps) = true := by simp [Region.wanted, hgd]
  rw [if_pos hw]
  unfold Oper.still
  simp [execOp, ho, hp, hr, Result.andThen, Oper.stillUpon]
  exact hK _ h

/-- what each round of lockTexts holds -/
def LtR (b : Nat) (o s : List ByteArray) (w : World) (a : Int) (vo vs vd v i : Value) (wr : World) : Prop :=
  ∃ m : Nat, m ≤ 8 ∧ i = .int .i64 m ∧ OS w.heap.size w wr v (txN o m) ∧ TA wr (w.heap.size + 1 + 1 + 1) 72 (lkR b o s m) ∧ TA wr (w.heap.size + 1) 72 (List.replicate 16 ByteArray.empty) ∧ SgM wr w.heap.size a vo vs vd
/-- a row of texts and an array of them, answered -/
theorem ret_rowArr {fn : Func} {Rp : Ending → World → Prop} {a : Act} {w : World} (c s g t n : Nat) (ty e : TypeId) (l : List ByteArray) (b : Value) (hres : fn.results = #[.tmp s, .cell c ty]) (hd : a.defers = []) (hp : a.tmps.getD c undef = .pointer (some ⟨g, 0, none⟩)) (hb : a.tmps.getD s undef = b)
    (hA : TA w g t l) (hl : l.length = n) (hu : Tryd.prog.underlying ty = some (.array n e)) (hi : (Tryd.prog.info? ty).map (·.size) = some n) (h : Rp (.returned (.tuple #[b, .agg (svs l).toArray])) w) : bodyPost Tryd.prog fn Rp .ret a w := by
  have hr := run_loadVar_row (P := Tryd.prog) w g t ty _ (0, 0) _ hA hu rfl (by rw [svs_size, hl]; exact hi)
  refine bodyPost_ret (v := .tuple #[b, .agg (svs l).toArray]) ?_ hd h
  have hp' : a.tmps[c]?.getD undef = .pointer (some ⟨g, 0, none⟩) := by simpa using hp
  have hb' : a.tmps[s]?.getD undef = b := by simpa using hb
  simp [results, hres, asAddr, hr, hp', hb']

set_option maxRecDepth 100000 in
set_option maxHeartbeats 4000000 in
theorem lockTexts_any (b : Nat) (a : Int) (vo vs vd : Value) (g1 o1 g2 o2 : Nat) (o s : List ByteArray) (w : World) (hb : b < 256) (ho : SS w vo g1 o1 o) (hs : SS w vs g2 o2 s) (lo : o.length = 8) (ls : s.length = 8) (wo : wideB o = true) (hvd : vd.oneCell' = true) (hT : Tb w) :
    Calls Tryd.prog 77 #[.int .u8 (b : Int), .agg #[.int .i64 a, vo, vs, vd]] w fun e w' => ∃ v, e = .returned (.tuple #[v, .agg (svs (lkN b o s 8)).toArray]) ∧ OS w.heap.size w w' v (txN o 8) := by
  have HSS : Hid (∀ W, Below w.heap.size w W → SS W vo g1 o1 o ∧ SS W vs g2 o2 s) := fun W hW => ⟨ho.below hW ho.lt, hs.below hW hs.lt⟩
  have HT : Hid (Tb w) := hT
  have HL : Hid (o.length = 8 ∧ s.length = 8 ∧ wideB o = true) := ⟨lo, ls, wo⟩
  obtain ⟨ao, co, rfl, _, x1⟩ := ho
  obtain ⟨as2, cs2, rfl, _, x2⟩ := hs
  rw [lo, ls] at HSS ⊢
  clear x1 x2 lo ls wo hT
  obtain ⟨M, hmk0, hos0⟩ := run_mkT 13 (by omega) ((w.alloc (.cells #[.int .i64 a, .slice ao 8 co, .slice as2 8 cs2, vd] 37)).alloc (.cells (zT 16) 72))
  have hmk : (Instr.makeSlice 28 (.int .i64 0) (.int .i64 13)).run Tryd.prog ((w.alloc (.cells #[.int .i64 a, .slice ao 8 co, .slice as2 8 cs2, vd] 37)).alloc (.cells (zT 16) 72)) = .ok (.slice (some ⟨w.heap.size + 1 + 1, 0, none⟩) 0 13) (((w.alloc (.cells #[.int .i64 a, .slice ao 8 co, .slice as2 8 cs2, vd] 37)).alloc (.cells (zT 16) 72)).alloc (.cells M 9)) := by simpa using hmk0
  have HST : Hid (LtR b o s w a (.slice ao 8 co) (.slice as2 8 cs2) vd (.slice (some ⟨w.heap.size + 1 + 1, 0, none⟩) 0 13) (.int .i64 0) ((((w.alloc (.cells #[.int .i64 a, .slice ao 8 co, .slice as2 8 cs2, vd] 37)).alloc (.cells (zT 16) 72)).alloc (.cells M 9)).alloc (.cells (zT 16) 72))) := by
    have h0 := SgM.new w a (.slice ao 8 co) (.slice as2 8 cs2) vd
    have b0 : Below w.heap.size w (w.alloc (.cells #[.int .i64 a, .slice ao 8 co, .slice as2 8 cs2, vd] 37)) := (Below.refl _ _).alloc (Nat.le_refl _) _
    have z0 : (w.alloc (.cells #[.int .i64 a, .slice ao 8 co, .slice as2 8 cs2, vd] 37)).heap.size = w.heap.size + 1 := by simp
    generalize w.alloc (.cells #[.int .i64 a, .slice ao 8 co, .slice as2 8 cs2, vd] 37) = W0 at *
    have h1 := TA.new W0 (List.replicate 16 ByteArray.empty) 72
    have b1 : Below W0.heap.size W0 (W0.alloc (.cells (zT 16) 72)) := (Below.refl _ _).alloc (Nat.le_refl _) _
    have z1 : (W0.alloc (.cells (zT 16) 72)).heap.size = w.heap.size + 1 + 1 := by simp [z0]
    rw [z0] at h1
    have h1 : TA (W0.alloc (.cells (zT 16) 72)) (w.heap.size + 1) 72 (List.replicate 16 ByteArray.empty) := h1
    have h0 := h0.later b1
    have b1 := b0.trans (b1.mono b0.size)
    generalize W0.alloc (.cells (zT 16) 72) = W1 at *
    have b2 : Below W1.heap.size W1 (W1.alloc (.cells M 9)) := (Below.refl _ _).alloc (Nat.le_refl _) _
    have z2 : (W1.alloc (.cells M 9)).heap.size = w.heap.size + 1 + 1 + 1 := by simp [z1]
    have h0 := h0.later b2
    have h1 := h1.later b2
    have hos : OS w.heap.size w (W1.alloc (.cells M 9)) (.slice (some ⟨w.heap.size + 1 + 1, 0, none⟩) 0 13) [] := by
      rw [← z1]
      refine ⟨⟨hos0.1.1, ?_⟩, b1.trans (b2.mono b1.size), Nat.le_trans b1.size b2.size⟩
      rcases hos0.1.2 with hn | ⟨g, cap, cur, hv, hbg, rest⟩
      · exact .inl hn
      · exact .inr ⟨g, cap, cur, hv, Nat.le_trans b1.size hbg, rest⟩
    generalize W1.alloc (.cells M 9) = W2 at *
    have h3 := TA.new W2 (List.replicate 16 ByteArray.empty) 72
    have b3 : Below W2.heap.size W2 (W2.alloc (.cells (zT 16) 72)) := (Below.refl _ _).alloc (Nat.le_refl _) _
    rw [z2] at h3
    exact ⟨0, by omega, rfl, hos.alloc _, h3, h1.later b3, h0.later b3⟩
  clear hmk0 hos0
  go_enter Tryd.func77, Tryd.ntmps77
  go_wp2_with (refine wp_allocT rfl 72 16 rfl zeroA ?_)
  clear hmk
  go_loopw [6, 16] (fun v i wr => LtR b o s w a (.slice ao 8 co) (.slice as2 8 cs2) vd v i wr) (fun _ i _ => 8 - (intOf i).toNat)
  case atStart => exact HST.out
  case round =>
    obtain ⟨m, hm, rfl, hos, hta, htz, hsg⟩ := hrel
    clear HST
    by_cases hlt : m < 8
    · obtain ⟨⟨x1, y1, hv1, _, hA1, hc1⟩, ⟨x2, y2, hv2, _, hA2, hc2⟩⟩ := HSS.out _ hos.2.1
      have e1 := hA1 (by rw [HL.out.1]; omega)
      have e2 := hA2 (by rw [HL.out.2.1]; omega)
      rw [HL.out.1] at hv1
      rw [HL.out.2.1] at hv2
      simp at hv1 hv2
      obtain ⟨rfl, rfl⟩ := hv1
      obtain ⟨rfl, rfl⟩ := hv2
      subst e1
      subst e2
      have hz1 := wideB_at HL.out.2.2 m (by rw [HL.out.1]; exact hlt)
      have c1 := hc1 m (by rw [HL.out.1]; exact hlt)
      rw [gB_eq o m (by rw [HL.out.1]; exact hlt)] at c1 hz1
      have hlc := lock_cut o m (by omega)
      have hst := lkR_step b o s m hlt
      have htx := txN_step o m
      have htl := txN_len o m
      have hll := lkR_len b o s m (by omega)
      have hKT := keyText_lit 6 [gB o m] 1 #[.string (gB o m)] wr _ rfl rfl (by omega) rfl
      have hV := bitN_lt b m
      have i1 : (m : Int) < 8 := by omega
      have i2 : (0 : Int) ≤ (m : Int) := by omega
      have hts : (tx1 o m).size ≤ 1048576 := Nat.le_trans (tagB_size _ _) (by omega)
      have HK : Hid (tagB 6 [gB o m] = tx1 o m) := rfl
      rw [HK.out] at hKT
      generalize tx1 o m = X at *
      have HH : Hid (cutH X 16 = lockB (gB o m)) := hlc
      have HSTEP : Hid (∀ K, ((lkR b o s m).set (2 * m + bitN b m) (lockB (gB o m))).set (2 * m + 1 - bitN b m) (gB s m) = K → lkR b o s (m + 1) = K) := fun K hK => hst.symm.trans hK
      generalize gB o m = O at *
      clear hst hA1 hA2 hlc HK
      have hc2 : Hid (∀ W, Below w.heap.size w W → W.cell? ⟨g2, o2 + m, none⟩ = some (.string (gB s m))) := fun W hW => by
        obtain ⟨_, ⟨_, _, _, _, _, hcc⟩⟩ := HSS.out W hW
        have := hcc m (by rw [HL.out.2.1]; exact hlt)
        rw [gB_eq s m (by rw [HL.out.2.1]; exact hlt)] at this
        exact this
      generalize gB s m = Y at *
      go_wp2_with fail
      refine hKT.out.mono ?_
      rintro e w1 ⟨rfl, hb1⟩
      have hos1 := hos.later hb1
      have hta1 := hta.later hb1
      have htz1 := htz.later hb1
      have hsg1 := hsg.later hb1
      clear hos hta htz hsg hb1 hKT c1 hc1
      go_wp2_with (at_builtin; refine wp_appSG rfl _ _ rfl w.heap.size w _ (txN o m) rfl (hos1.alloc _) ⟨w1.heap.size, 0, none⟩ X rfl ?c1 ?c2 ?_)
      case c1 => exact one_text _ _ _
      case c2 => omega
      intro v2 w2 hos2 hg2
      rw [← htx] at hos2
      have hba : Below w1.heap.size w1 (w1.alloc (.cells #[.string X] 9)) := (Below.refl _ _).alloc (Nat.le_refl _) _
      have hta2 := (hta1.later hba).keptO (by decide) (hos1.alloc _) hg2
      have htz2 := (htz1.later hba).keptO (by decide) (hos1.alloc _) hg2
      have hsg2 := (hsg1.later hba).keptO (hos1.alloc _) hg2
      clear hos1 hta1 htz1 hsg1 hg2 hba htx
      go_wp2_with fail
      refine (val_any b m _ _ hb rfl (by omega)).mono ?_
      rintro e w2' ⟨rfl, rfl⟩
      generalize bitN b m = V at *
      have hT2 := HT.out.later hos2.2.1
      have hcd := CutDigest_any X 16 w2' hts hT2.1 hT2.2
      rw [HH.out] at hcd
      clear hT2 HH
      generalize lockB O = K at *
      have j1 : (0 : Int) ≤ 2 * (m : Int) + (V : Int) := by omega
      have j2 : 2 * (m : Int) + (V : Int) < 16 := by omega
      have j3 : (0 : Int) ≤ 2 * (m : Int) + 1 - (V : Int) := by omega
      have j4 : 2 * (m : Int) + 1 - (V : Int) < 16 := by omega
      have t1 : (2 * (m : Int) + (V : Int)).toNat = 2 * m + V := by omega
      have t2 : (2 * (m : Int) + 1 - (V : Int)).toNat = 2 * m + 1 - V := by omega
      go_wp2_with fail
      refine hcd.mono ?_
      rintro e w3 ⟨rfl, hb3⟩
      have hos3 := hos2.later hb3
      have hta3 := hta2.later hb3
      have htz3 := htz2.later hb3
      have hsg3 := hsg2.later hb3
      clear hos2 hta2 htz2 hsg2 hb3 hcd
      obtain ⟨Z, c0⟩ : ∃ Z, w3.cell? ⟨w.heap.size + 1 + 1 + 1, 2 * m + V, none⟩ = some (.string Z) := ⟨_, hta3.cell (2 * m + V) (by omega)⟩
      have f0 := hta3.frozen (2 * m + V)
      have hgs := grown_set w3 (w.heap.size + 1 + 1 + 1) (2 * m + V) (.string K)
      have hta4 := hta3.set (2 * m + V) K
      have hos4 : OS w.heap.size w (w3.setCell ⟨w.heap.size + 1 + 1 + 1, 2 * m + V, none⟩ (.string K)) v2 (txN o (m + 1)) := hos3.kept hgs (fun k hk => by simp at hk; omega) (os_ne hos3 hta3 (by decide))
      have htz4 : TA (w3.setCell ⟨w.heap.size + 1 + 1 + 1, 2 * m + V, none⟩ (.string K)) (w.heap.size + 1) 72 (List.replicate 16 ByteArray.empty) := htz3.keep (hgs.block _ htz3.lt (by simp))
      have hsg4 := hsg3.keptG hgs (by simp; omega)
      have d1 := hsg4.c2
      have d2 := hc2.out _ hos4.2.1
      obtain ⟨Z2, c4⟩ : ∃ Z, (w3.setCell ⟨w.heap.size + 1 + 1 + 1, 2 * m + V, none⟩ (.string K)).cell? ⟨w.heap.size + 1 + 1 + 1, 2 * m + 1 - V, none⟩ = some (.string Z) := ⟨_, hta4.cell (2 * m + 1 - V) (by rw [List.length_set]; omega)⟩
      have f4 := hta4.frozen (2 * m + 1 - V)
      have hgs2 := grown_set (w3.setCell ⟨w.heap.size + 1 + 1 + 1, 2 * m + V, none⟩ (.string K)) (w.heap.size + 1 + 1 + 1) (2 * m + 1 - V) (.string Y)
      have hta5 := hta4.set (2 * m + 1 - V) Y
      have hos5 := hos4.kept hgs2 (fun k hk => by simp at hk; omega) (os_ne hos4 hta4 (by decide))
      have htz5 : TA _ (w.heap.size + 1) 72 (List.replicate 16 ByteArray.empty) := htz4.keep (hgs2.block _ htz4.lt (by simp))
      have hsg5 := hsg4.keptG hgs2 (by simp; omega)
      rw [← HSTEP.out _ rfl] at hta5
      have HN : Hid (LtR b o s w a (.slice (some ⟨g1, o1, none⟩) 8 co) (.slice (some ⟨g2, o2, none⟩) 8 cs2) vd v2 (.int .i64 ((m : Int) + 1)) ((w3.setCell ⟨w.heap.size + 1 + 1 + 1, 2 * m + V, none⟩ (.string K)).setCell ⟨w.heap.size + 1 + 1 + 1, 2 * m + 1 - V, none⟩ (.string Y))) := ⟨m + 1, by omega, by simp, hos5, hta5, htz5, hsg5⟩
      clear hta5 hos5 htz5 hsg5 hta4 hos4 htz4 hsg4 hos3 hta3 htz3 hsg3 hgs hgs2 HSTEP hll htl HL HSS hc2
      go_wp2
      go_roundw
      case rel => exact HN.out
      case measure => simp [intOf]; omega
    · have hme : m = 8 := by omega
      subst hme
      rw [lkR_all] at hta
      have hll := lkN_len b o s 8
      have HTA : Hid (TA wr (w.heap.size + 1 + 1 + 1) 72 (lkN b o s 8) ∧ TA wr (w.heap.size + 1) 72 (List.replicate 16 ByteArray.empty)) := ⟨hta, htz⟩
      have HO : Hid (OS w.heap.size w wr u6 (txN o 8)) := hos
      clear hta htz hos hsg HSS HL
      go_wp2
      refine wp_region_still_tail 3 (by kernel_rfl) (by kernel_rfl) ?_
      simp only [List.take_succ_cons, List.take_zero, List.drop_succ_cons, List.drop_zero]
      still_step
      refine still_loadT rfl 72 _ rfl (w.heap.size + 1 + 1 + 1) 72 16 (lkN b o s 8) 9 rfl HTA.out.1 hll Tryd.underlying72 sizeA ?_
      still_step
      refine wpStill_nil ?_
      go_wp2_with (refine wp_storeT rfl 72 _ _ rfl (w.heap.size + 1) 72 16 (List.replicate 16 ByteArray.empty) (lkN b o s 8) HTA.out.2 (by simp) hll rfl rfl sizeA ?_; intro hfin)
      refine ret_rowArr 5 4 (w.heap.size + 1) 72 16 72 9 (lkN b o s 8) _ rfl rfl rfl rfl hfin hll Tryd.underlying72 sizeA ?_
      exact ⟨_, rfl, HO.out.drew.kept (grown_setRow2 _ _ _) (fun k hk => by simp at hk; omega) (os_ne HO.out HTA.out.2 (by decide))⟩

end Go.Proofs.YthkknckpippjhaaDoor
